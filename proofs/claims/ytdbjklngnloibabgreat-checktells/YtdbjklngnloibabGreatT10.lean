/- What lies in memory while facts are found: the world of facts; facts in their maps. -/
import Derived.Test.YtdbjklngnloibabGreatProg
import Derived.Laws.StructEq
import Derived.WalkKit
import Derived.BigQuiet
import Derived.Deep.QuietTactic
import Derived.Shelf.SlMaps.Clone
import Derived.Laws.EntriesVeiled
import Derived.Test.YtdbjklngnloibabGreatT09
import Derived.Test.YtdbjklngnloibabGreatT03
import Derived.Test.YtdbjklngnloibabGreatT07

namespace Go.Proofs.YtdbjklngnloibabGreat.form
open Go.RowKit Go.Maps
set_option linter.unusedVariables false

theorem PMap.of_block {w w' : World} {b : Nat} {A : List LPlace} {gh gi : LPlace → Bits} (h : PMap w b A gh gi) (hb : w'.heap[b]? = w.heap[b]?) : PMap w' b A gh gi := by
  obtain ⟨D, ⟨es, clock, h1, F, hs, hD⟩, h2⟩ := h
  exact ⟨D, ⟨es, clock, hb.trans h1, F, hs, hD⟩, h2⟩
theorem TMap.of_block {w w' : World} {b : Nat} {A : List Int} {g : Int → Bits} (h : TMap w b A g) (hb : w'.heap[b]? = w.heap[b]?) : TMap w' b A g := by
  obtain ⟨D, ⟨es, clock, h1, F, hs, hD⟩, h2⟩ := h
  exact ⟨D, ⟨es, clock, hb.trans h1, F, hs, hD⟩, h2⟩
theorem PMap.below {w w' : World} {b : Nat} {A : List LPlace} {gh gi : LPlace → Bits} (h : PMap w b A gh gi) (hb : Below w.heap.size w w') : PMap w' b A gh gi := h.of_block (hb.block b h.lt)
theorem TMap.below {w w' : World} {b : Nat} {A : List Int} {g : Int → Bits} (h : TMap w b A g) (hb : Below w.heap.size w w') : TMap w' b A g := h.of_block (hb.block b h.lt)

/-- Facts of one point, in their maps. -/
structure FMAt (w : World) (q mp mt : Nat) (A : List LPlace) (T : List Int) (m : FM) : Prop where
  c0 : w.cell? ⟨q, 0, none⟩ = some (.map (some mp))
  c1 : w.cell? ⟨q, 1, none⟩ = some (.map (some mt))
  pm : PMap w mp A m.has m.is
  tm : TMap w mt T m.tmp
  n1 : q ≠ mp
  n2 : q ≠ mt
  n3 : mp ≠ mt
theorem cell_lt {w : World} {q o : Nat} {v : Value} (h : w.cell? ⟨q, o, none⟩ = some v) : q < w.heap.size := World.block_lt_of_cell? w _ h
theorem FMAt.lt {w : World} {q mp mt : Nat} {A : List LPlace} {T : List Int} {m : FM} (h : FMAt w q mp mt A T m) : q < w.heap.size ∧ mp < w.heap.size ∧ mt < w.heap.size := ⟨cell_lt h.c0, h.pm.lt, h.tm.lt⟩
theorem FMAt.below {w w' : World} {q mp mt : Nat} {A : List LPlace} {T : List Int} {m : FM} (h : FMAt w q mp mt A T m) (hb : Below w.heap.size w w') : FMAt w' q mp mt A T m :=
  ⟨step_cell hb h.c0, step_cell hb h.c1, h.pm.below hb, h.tm.below hb, h.n1, h.n2, h.n3⟩
theorem But.cellOf {x y : Nat} {w w' : World} (h : But x y w w') {q o : Nat} {v : Value} (hc : w.cell? ⟨q, o, none⟩ = some v) (h1 : q ≠ x) (h2 : q ≠ y) : w'.cell? ⟨q, o, none⟩ = some v := by
  rw [World.cell?_of_block (w := w) (h.block q (cell_lt hc) h1 h2)]
  exact hc
theorem FMAt.but {w w' : World} {q mp mt x y : Nat} {A : List LPlace} {T : List Int} {m : FM} (h : FMAt w q mp mt A T m) (hb : But x y w w') (h1 : q ≠ x ∧ q ≠ y) (h2 : mp ≠ x ∧ mp ≠ y) (h3 : mt ≠ x ∧ mt ≠ y) : FMAt w' q mp mt A T m :=
  ⟨hb.cellOf h.c0 h1.1 h1.2, hb.cellOf h.c1 h1.1 h1.2, h.pm.of_block (hb.block mp h.pm.lt h2.1 h2.2), h.tm.of_block (hb.block mt h.tm.lt h3.1 h3.2), h.n1, h.n2, h.n3⟩
theorem FMAt.lim {w : World} {q mp mt : Nat} {A : List LPlace} {T : List Int} {m m' : FM} (h : FMAt w q mp mt A T m) (e1 : ∀ p, PlWf p → m.has p = m'.has p) (e2 : ∀ p, PlWf p → m.is p = m'.is p) (e3 : ∀ t, TWf t → m.tmp t = m'.tmp t) : FMAt w q mp mt A T m' :=
  ⟨h.c0, h.c1, h.pm.congr e1 e2, h.tm.congr e3, h.n1, h.n2, h.n3⟩
theorem grown_but {w w' : World} {x y : Nat} (h : w.grownBy w' (some x)) : But x y w w' := ⟨h.os, h.tape, h.output, h.size, fun k hk h1 _ => h.block k hk (fun e => h1 (Option.some.inj e))⟩
theorem But.toBelow {x y lim : Nat} {w w' : World} (h : But x y w w') (hl : lim ≤ w.heap.size) (h1 : lim ≤ x) (h2 : lim ≤ y) : Below lim w w' := ⟨h.os, h.tape, h.output, h.size, fun k hk => h.block k (by omega) (by omega) (by omega)⟩
theorem But.mono {x y : Nat} {w0 w w' : World} (h : But x y w w') (hb : Below w0.heap.size w0 w) : But x y w0 w' := (But.of_below hb).trans h

/-- Where the world of facts lies. -/
structure WB where
  q : Nat
  b0 : Nat
  o0 : Nat
  c0 : Nat
  b1 : Nat
  o1 : Nat
  c1 : Nat
  b2 : Nat
  o2 : Nat
  c2 : Nat
  b3 : Nat
  c3 : Nat
  b4 : Nat
  c4 : Nat

structure Stat (w : World) (g : WB) (B : List Bool) (C : List LIns) (R : List LRow) (A : List LPlace) (N : List Int) : Prop where
  p0 : w.cell? ⟨g.q, 0, none⟩ = some (.slice (some ⟨g.b0, g.o0, none⟩) B.length g.c0)
  p1 : w.cell? ⟨g.q, 1, none⟩ = some (.slice (some ⟨g.b1, g.o1, none⟩) C.length g.c1)
  p2 : w.cell? ⟨g.q, 2, none⟩ = some (.slice (some ⟨g.b2, g.o2, none⟩) R.length g.c2)
  p3 : w.cell? ⟨g.q, 3, none⟩ = some (.slice (some ⟨g.b3, 0, none⟩) A.length g.c3)
  p4 : w.cell? ⟨g.q, 4, none⟩ = some (.slice (some ⟨g.b4, 0, none⟩) N.length g.c4)
  held : Held w g.b0 g.o0 g.b1 g.o1 B C
  rows : RowsHeld w g.b2 g.o2 R
  plc : ∀ j, j < A.length → w.cell? ⟨g.b3, j * 2, none⟩ = some (.int .i64 (A.getD j .zero).kind) ∧ w.cell? ⟨g.b3, j * 2 + 1, none⟩ = some (.int .i64 (A.getD j .zero).n)
  nums : ∀ j, j < N.length → w.cell? ⟨g.b4, j, none⟩ = some (.int .u32 (N.getD j 0))
theorem Stat.later {w w' : World} {g : WB} {B : List Bool} {C : List LIns} {R : List LRow} {A : List LPlace} {N : List Int} (h : Stat w g B C R A N) (hb : Below w.heap.size w w') : Stat w' g B C R A N :=
  ⟨step_cell hb h.p0, step_cell hb h.p1, step_cell hb h.p2, step_cell hb h.p3, step_cell hb h.p4, h.held.later hb, h.rows.later hb, fun j hj => ⟨step_cell hb (h.plc j hj).1, step_cell hb (h.plc j hj).2⟩, fun j hj => step_cell hb (h.nums j hj)⟩

/-- It has lain there since there were lim blocks, and lies there as it was. -/
def WorldAt (w : World) (lim : Nat) (g : WB) (B : List Bool) (C : List LIns) (R : List LRow) (A : List LPlace) (N : List Int) : Prop := ∃ w0 : World, w0.heap.size = lim ∧ Stat w0 g B C R A N ∧ Below lim w0 w
section
variable {w w' : World} {lim : Nat} {g : WB} {B : List Bool} {C : List LIns} {R : List LRow} {A : List LPlace} {N : List Int}
theorem WorldAt.stat (h : WorldAt w lim g B C R A N) : Stat w g B C R A N := by
  obtain ⟨w0, h1, h2, h3⟩ := h
  exact h2.later (by rw [h1]; exact h3)
theorem WorldAt.le (h : WorldAt w lim g B C R A N) : lim ≤ w.heap.size := by
  obtain ⟨w0, h1, h2, h3⟩ := h
  rw [← h1]; exact h3.size
theorem WorldAt.keep (h : WorldAt w lim g B C R A N) (hb : Below lim w w') : WorldAt w' lim g B C R A N := by
  obtain ⟨w0, h1, h2, h3⟩ := h
  exact ⟨w0, h1, h2, h3.trans hb⟩
theorem WorldAt.below (h : WorldAt w lim g B C R A N) (hb : Below w.heap.size w w') : WorldAt w' lim g B C R A N := h.keep (hb.mono h.le)
theorem WorldAt.but {x y : Nat} (h : WorldAt w lim g B C R A N) (hb : But x y w w') (h1 : lim ≤ x) (h2 : lim ≤ y) : WorldAt w' lim g B C R A N := h.keep (hb.toBelow h.le h1 h2)
theorem WorldAt.start (h : Stat w g B C R A N) : WorldAt w w.heap.size g B C R A N := ⟨w, rfl, h, Below.refl _ _⟩
end

/-- What is so of the numbers of a call of check's functions. -/
structure Dims (B : List Bool) (C : List LIns) (s slots : Nat) (A : List LPlace) (N : List Int) : Prop where
  b1 : 1 ≤ B.length
  b12 : B.length ≤ 12
  c1 : 1 ≤ C.length
  c40 : C.length ≤ 40
  s4 : 4 ≤ s
  s16 : s ≤ 16
  s2 : s % 2 = 0
  l12 : slots ≤ 12
  a36 : A.length ≤ 36
  all : ∀ p, p ∈ A ↔ isB s slots p = true
  n1 : 1 ≤ N.length
  n41 : N.length ≤ 41
  inc : N.Pairwise (· < ·)
  num : NumsOf C N

theorem Dims.wf {B : List Bool} {C : List LIns} {s slots : Nat} {A : List LPlace} {N : List Int} (h : Dims B C s slots A N) {p : LPlace} (hp : isB s slots p = true) : PlWf p := by
  have := h.s16
  have := h.l12
  rcases is_cases hp with ⟨a, b, c⟩ | ⟨a, b, c⟩ | ⟨a, b, c⟩ <;> exact ⟨by omega, by omega, by omega, by omega⟩
/-- The temporaries, as numbers. -/
def tempsL (n : Nat) : List Int := (List.range n).map (fun t : Nat => (t : Int))
theorem tempsL_len (n : Nat) : (tempsL n).length = n := by simp [tempsL]
theorem tempsL_mem {n : Nat} {t : Int} : t ∈ tempsL n ↔ 0 ≤ t ∧ t < n := by
  unfold tempsL
  rw [List.mem_map]
  constructor
  · rintro ⟨k, hk, rfl⟩
    have := List.mem_range.1 hk
    omega
  · rintro ⟨h0, h1⟩
    exact ⟨t.toNat, List.mem_range.2 (by omega), by omega⟩

end Go.Proofs.YtdbjklngnloibabGreat.form

/- Places held against each other (== on structs). -/
namespace Go.Proofs.YtdbjklngnloibabGreat.form
open Go.RowKit
set_option linter.unusedVariables false

theorem eqPlace (w : World) (a b c d : Int) : (binOp .eql 37 (.agg #[.int .i64 a, .int .i64 b]) (.agg #[.int .i64 c, .int .i64 d])).run Tryz.prog w = .ok (.bool ((a == c) && (b == d))) w := by
  have hu := Tryz.underlying37
  have h3 : Tryz.prog.underlying 3 = some (.int .i64) := Tryz.underlying3
  rw [run_eql_struct, run_equalIn_agg w 9999 37 _ _ (by kernel_rfl) (by kernel_rfl)]
  simp [go_sem, Program.fieldsOf, hu]
  by_cases e1 : a = c <;> by_cases e2 : b = d <;> simp [e1, e2]

theorem neqPlace (w : World) (a b c d : Int) : (binOp .neq 37 (.agg #[.int .i64 a, .int .i64 b]) (.agg #[.int .i64 c, .int .i64 d])).run Tryz.prog w = .ok (.bool (!((a == c) && (b == d)))) w := by
  have hu := Tryz.underlying37
  have h3 : Tryz.prog.underlying 3 = some (.int .i64) := Tryz.underlying3
  rw [run_neq_struct, run_equalIn_agg w 9999 37 _ _ (by kernel_rfl) (by kernel_rfl)]
  simp [go_sem, Program.fieldsOf, hu]
  by_cases e1 : a = c <;> by_cases e2 : b = d <;> simp [e1, e2]

end Go.Proofs.YtdbjklngnloibabGreat.form

/- What the program's own small functions on places answer. -/
namespace Go.Proofs.YtdbjklngnloibabGreat.form
open Go.RowKit
set_option linter.unusedVariables false
attribute [local go_sem ↓] Go.wp_at_zero Go.wp_at_succ

def singB (d s : LPlace) : Bool := (d.kind == 2) && (s.kind == 1) && (s.n / 2 == d.n)

set_option maxRecDepth 100000 in
set_option maxHeartbeats 1000000 in
theorem hasSingle (d s : LPlace) (w : World) : Calls Tryz.prog 126 #[d.val, s.val] w fun e w' => e = .returned (.bool (singB d s)) ∧ Below w.heap.size w w' := by
  unfold LPlace.val
  have HB : Hid (∀ o1 o2 : Obj, Below w.heap.size w ((w.alloc o1).alloc o2)) := fun o1 o2 => ((Below.refl _ _).alloc (Nat.le_refl _) _).alloc (by simp) _
  rcases Bool.eq_false_or_eq_true (d.kind == 2) with e1 | e1 <;> rcases Bool.eq_false_or_eq_true (s.kind == 1) with e2 | e2
  all_goals
    go_enter Tryz.func126, Tryz.ntmps126
    go_wp2
    go_ret
    refine ⟨ret_bool ?_, HB.out _ _⟩
    unfold singB
    rw [e1, e2]
    simp

def roomV (a b c : Int) : Value := .agg #[.int .i64 0, .int .i64 a, .int .i64 b, .int .i64 c]
def hasB (a b c : Int) (p : LPlace) : Bool :=
  if p.kind = 1 then decide (0 ≤ p.n) && decide (p.n < a) else if p.kind = 2 then decide (0 ≤ p.n) && decide (p.n < b) else if p.kind = 3 then decide (0 ≤ p.n) && decide (p.n < c) else false

set_option maxRecDepth 100000 in
set_option maxHeartbeats 1000000 in
theorem roomHas (a b c : Int) (p : LPlace) (w : World) : Calls Tryz.prog 96 #[roomV a b c, p.val] w fun e w' => e = .returned (.bool (hasB a b c p)) ∧ Below w.heap.size w w' := by
  unfold roomV LPlace.val
  have HB : Hid (∀ o1 o2 : Obj, Below w.heap.size w ((w.alloc o1).alloc o2)) := fun o1 o2 => ((Below.refl _ _).alloc (Nat.le_refl _) _).alloc (by simp) _
  rcases (show p.kind < 0 ∨ (p.kind = 0 ∨ p.kind = 1 ∨ p.kind = 2 ∨ p.kind = 3) ∨ 4 ≤ p.kind by omega) with hk | hk | hk
  · have d1 : decide ((0 : Int) ≤ p.kind) = false := by simp; omega
    have HE : Hid (hasB a b c p = false) := by show hasB a b c p = false; unfold hasB; rw [if_neg (by omega), if_neg (by omega), if_neg (by omega)]
    clear hk
    go_enter Tryz.func96, Tryz.ntmps96
    go_wp2
    go_quiet (fail)
    go_wp2
    go_ret
    exact ⟨ret_bool HE.out.symm, below_drewN (HB.out _ _) _⟩
  · by_cases hn : 0 ≤ p.n
    · have d3 : decide ((0 : Int) ≤ p.n) = true := by simp [hn]
      rcases hk with hk | hk | hk | hk
      all_goals
        have HE : Hid (hasB a b c p = decide (p.n < (if p.kind = 0 then 0 else if p.kind = 1 then a else if p.kind = 2 then b else c))) := by show hasB a b c p = _; unfold hasB; rw [hk]; simp; try omega
        rw [hk]
        rw [hk] at HE
        clear hk hn
        go_enter Tryz.func96, Tryz.ntmps96
        go_wp2
        go_quiet (fail)
        go_wp2
        go_ret
        exact ⟨ret_bool (by rw [HE.out]; simp), below_drewN (HB.out _ _) _⟩
    · have d3 : decide ((0 : Int) ≤ p.n) = false := by simp; omega
      have d1 : decide ((0 : Int) ≤ p.kind) = true := by simp; omega
      have d2 : decide (p.kind < (4 : Int)) = true := by simp; omega
      have HE : Hid (hasB a b c p = false) := by show hasB a b c p = false; unfold hasB; rcases hk with hk | hk | hk | hk <;> rw [hk] <;> simp <;> omega
      clear hk hn
      go_enter Tryz.func96, Tryz.ntmps96
      go_wp2
      go_quiet (fail)
      go_wp2
      go_ret
      exact ⟨ret_bool HE.out.symm, below_drewN (HB.out _ _) _⟩
  · have d1 : decide ((0 : Int) ≤ p.kind) = true := by simp; omega
    have d2 : decide (p.kind < (4 : Int)) = false := by simp; omega
    have HE : Hid (hasB a b c p = false) := by show hasB a b c p = false; unfold hasB; rw [if_neg (by omega), if_neg (by omega), if_neg (by omega)]
    clear hk
    go_enter Tryz.func96, Tryz.ntmps96
    go_wp2
    go_quiet (fail)
    go_wp2
    go_ret
    exact ⟨ret_bool HE.out.symm, below_drewN (HB.out _ _) _⟩

def overO (a b : LPlace) : Bool := ((a.kind == b.kind) && (a.n == b.n)) || singB a b || singB b a

set_option maxRecDepth 100000 in
set_option maxHeartbeats 1000000 in
theorem overlapO (a b : LPlace) (w : World) : Calls Tryz.prog 114 #[a.val, b.val] w fun e w' => e = .returned (.bool (overO a b)) ∧ Below w.heap.size w w' := by
  unfold LPlace.val
  have HB : Hid (∀ o1 o2 : Obj, Below w.heap.size w ((w.alloc o1).alloc o2)) := fun o1 o2 => ((Below.refl _ _).alloc (Nat.le_refl _) _).alloc (by simp) _
  have q57 := eqPlace
  obtain ⟨x, hx⟩ : ∃ x, x = ((a.kind == b.kind) && (a.n == b.n)) := ⟨_, rfl⟩
  obtain ⟨y, hy⟩ : ∃ y, y = singB a b := ⟨_, rfl⟩
  have HO : Hid (overO a b = (x || y || singB b a)) := by show overO a b = _; unfold overO; rw [hx, hy]
  have HY : Hid (singB a b = y) := hy.symm
  have hx2 : ((a.kind == b.kind) && (a.n == b.n)) = x := hx.symm
  clear hx hy
  cases x
  · cases y
    · go_enter Tryz.func114, Tryz.ntmps114
      go_wp2_with fail
      go_at_call 126
      refine (hasSingle a b _).mono ?_
      rw [HY.out]
      rintro e w1 ⟨rfl, hb1⟩
      have c0 : w1.cell? ⟨w.heap.size, 0, none⟩ = some (.int .i64 a.kind) := step_cell hb1 (by simp [go_sem])
      have c1 : w1.cell? ⟨w.heap.size, 1, none⟩ = some (.int .i64 a.n) := step_cell hb1 (by simp [go_sem])
      have c2 : w1.cell? ⟨w.heap.size + 1, 0, none⟩ = some (.int .i64 b.kind) := step_cell hb1 (by simp [go_sem])
      have c3 : w1.cell? ⟨w.heap.size + 1, 1, none⟩ = some (.int .i64 b.n) := step_cell hb1 (by simp [go_sem])
      have HB1 : Hid (Below w.heap.size w w1) := over_alloc (over_alloc hb1)
      clear hb1
      go_wp2_with (go_at_call 126; refine (hasSingle b a _).mono ?_; rintro e w2 ⟨rfl, hb2⟩)
      go_ret
      exact ⟨ret_bool (by rw [HO.out]; rfl), step_below hb2 HB1.out⟩
    · go_enter Tryz.func114, Tryz.ntmps114
      go_wp2_with (go_at_call 126; refine (hasSingle a b _).mono ?_; rw [HY.out]; rintro e w1 ⟨rfl, hb1⟩)
      go_ret
      exact ⟨ret_bool (by rw [HO.out]; rfl), over_alloc (over_alloc hb1)⟩
  · go_enter Tryz.func114, Tryz.ntmps114
    go_wp2
    go_ret
    exact ⟨ret_bool (by rw [HO.out]; rfl), HB.out _ _⟩

end Go.Proofs.YtdbjklngnloibabGreat.form

/- Maps that are copied (maps.Clone, facts.clone), and such of a map's places as stay (maps.DeleteFunc, facts.keep, check.apartFrom). -/
namespace Go.Proofs.YtdbjklngnloibabGreat.form
open Go.RowKit Go.Maps
set_option linter.unusedVariables false
set_option maxRecDepth 100000

theorem cloneP (b : Nat) (A : List LPlace) (gh gi : LPlace → Bits) (w : World) (h : PMap w b A gh gi) :
    Calls Tryz.prog 64 #[.map (some b)] w fun e w' => e = .returned (.map (some w.heap.size)) ∧ PMap w' w.heap.size A gh gi ∧ Below w.heap.size w w' := by
  have hlt := h.lt
  obtain ⟨D, ⟨es, clock, hb, F, hs, hD⟩, h2⟩ := h
  have hq := fun w => run_eql_map_nil_sl (P := Tryz.prog) w 97 _ _ (some b) Tryz.underlying97
  have hB : Below w.heap.size w (w.alloc (.map es clock)) := (Below.refl _ w).alloc (Nat.le_refl _) _
  have HF : Hid (PMap (w.alloc (.map es clock)) w.heap.size A gh gi ∧ Below w.heap.size w (w.alloc (.map es clock))) := ⟨⟨D, ⟨es, clock, (MapKept.heap_alloc w _).1, F, hs, hD⟩, h2⟩, hB⟩
  clear F hs hD h2 hB
  go_enter Tryz.func64, Tryz.ntmps64
  go_wp2
  rw [run_callFunc_extern Tryz.func89 (by kernel_rfl) (by kernel_rfl) (by kernel_rfl) (e := Extern.MapsClone.clone) (by kernel_rfl), run_maps_clone_sl w 97 hb]
  simp only [Result.andThen]
  rw [Oper.upon_value]
  go_wp2
  rw [run_typeAssert_map_sl _ 97 20 _ _ _ Tryz.underlying97]
  simp only [Result.andThen]
  rw [Oper.upon_value]
  go_wp2
  go_ret
  exact ⟨rfl, HF.out⟩

theorem cloneT (b : Nat) (A : List Int) (g : Int → Bits) (w : World) (h : TMap w b A g) :
    Calls Tryz.prog 65 #[.map (some b)] w fun e w' => e = .returned (.map (some w.heap.size)) ∧ TMap w' w.heap.size A g ∧ Below w.heap.size w w' := by
  have hlt := h.lt
  obtain ⟨D, ⟨es, clock, hb, F, hs, hD⟩, h2⟩ := h
  have hq := fun w => run_eql_map_nil_sl (P := Tryz.prog) w 98 _ _ (some b) Tryz.underlying98
  have hB : Below w.heap.size w (w.alloc (.map es clock)) := (Below.refl _ w).alloc (Nat.le_refl _) _
  have HF : Hid (TMap (w.alloc (.map es clock)) w.heap.size A g ∧ Below w.heap.size w (w.alloc (.map es clock))) := ⟨⟨D, ⟨es, clock, (MapKept.heap_alloc w _).1, F, hs, hD⟩, h2⟩, hB⟩
  clear F hs hD h2 hB
  go_enter Tryz.func65, Tryz.ntmps65
  go_wp2
  rw [run_callFunc_extern Tryz.func89 (by kernel_rfl) (by kernel_rfl) (by kernel_rfl) (e := Extern.MapsClone.clone) (by kernel_rfl), run_maps_clone_sl w 98 hb]
  simp only [Result.andThen]
  rw [Oper.upon_value]
  go_wp2
  rw [run_typeAssert_map_sl _ 98 20 _ _ _ Tryz.underlying98]
  simp only [Result.andThen]
  rw [Oper.upon_value]
  go_wp2
  go_ret
  exact ⟨rfl, HF.out⟩
end Go.Proofs.YtdbjklngnloibabGreat.form
