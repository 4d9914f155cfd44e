/- What layout's functions on an instruction's fields and ways answer (layout.isTemp, Has, leads). -/
import Derived.BigQuiet
import Derived.Deep.QuietTactic
import Derived.Test.YtdbjklngnloibaaGreatF14
import Derived.Test.YtdbjklngnloibaaGreatF12
import Derived.Test.YtdbjklngnloibaaGreatF10
import Derived.Test.YtdbjklngnloibaaGreatF03

namespace Go.Proofs.YtdbjklngnloibaaGreat.form
open Go.RowKit
set_option linter.unusedVariables false
attribute [local go_sem ↓] Go.wp_at_zero Go.wp_at_succ

def isT (k : Int) : Bool := k == 1 || k == 2 || k == 3

theorem isTemp (k : Int) (w : World) :
    Calls Tryz.prog 76 #[.int .i64 k] w fun e w' => e = .returned (.bool (isT k)) ∧ w' = w := by
  go_enter Tryz.func76, Tryz.ntmps76
  go_wp2
  all_goals
    go_ret
    exact ⟨ret_bool (by simp_all [isT]), rfl⟩

theorem isT_gives {op : Int} (h : knownB op = true) : isT (kd op 0) = givesB op := by
  unfold knownB at h
  simp at h
  unfold kd isT givesB
  rcases h with (h | h) | h
  · rcases (show op = 1 ∨ op = 2 ∨ op = 3 ∨ op = 4 ∨ op = 5 ∨ op = 6 ∨ op = 7 ∨ op = 8 ∨ op = 9 ∨ op = 10 by omega) with rfl | rfl | rfl | rfl | rfl | rfl | rfl | rfl | rfl | rfl <;> simp
  · rcases (show op = 21 ∨ op = 22 ∨ op = 23 ∨ op = 24 ∨ op = 25 ∨ op = 26 by omega) with rfl | rfl | rfl | rfl | rfl | rfl <;> simp
  · rcases (show op = 41 ∨ op = 42 ∨ op = 43 ∨ op = 44 ∨ op = 45 by omega) with rfl | rfl | rfl | rfl | rfl <;> simp
theorem isT_many {op : Int} (h : knownB op = true) : isT (kd op 1) = decide (0 < manyI op) ∧ isT (kd op 2) = decide (1 < manyI op) := by
  unfold knownB at h
  simp at h
  unfold kd isT manyI
  rcases h with (h | h) | h
  · rcases (show op = 1 ∨ op = 2 ∨ op = 3 ∨ op = 4 ∨ op = 5 ∨ op = 6 ∨ op = 7 ∨ op = 8 ∨ op = 9 ∨ op = 10 by omega) with rfl | rfl | rfl | rfl | rfl | rfl | rfl | rfl | rfl | rfl <;> simp
  · rcases (show op = 21 ∨ op = 22 ∨ op = 23 ∨ op = 24 ∨ op = 25 ∨ op = 26 by omega) with rfl | rfl | rfl | rfl | rfl | rfl <;> simp
  · rcases (show op = 41 ∨ op = 42 ∨ op = 43 ∨ op = 44 ∨ op = 45 by omega) with rfl | rfl | rfl | rfl | rfl <;> simp
set_option maxRecDepth 100000 in
theorem has (op : Int) (w : World) :
    Calls Tryz.prog 61 #[.int .i64 op] w fun e w' => e = .returned (.tuple #[.bool (isT (kd op 0)), .bool (isT (kd op 1)), .bool (isT (kd op 2))]) ∧ Below w.heap.size w w' := by
  go_enter Tryz.func61, Tryz.ntmps61
  go_wp2_with (go_at_call 58; refine (kindsOf _ _).mono ?_; rintro e w1 ⟨rfl, hb1⟩; unfold fiveV)
  go_quiet (first | (go_at_call_of 76 (Value.int .i64 (kd op 0)); exact Calls.quiet_of_same (isTemp _ _)) | (go_at_call_of 76 (Value.int .i64 (kd op 1)); exact Calls.quiet_of_same (isTemp _ _)) | (go_at_call_of 76 (Value.int .i64 (kd op 2)); exact Calls.quiet_of_same (isTemp _ _)))
  go_wp2
  refine bodyPost_ret (v := .tuple #[.bool (isT (kd op 0)), .bool (isT (kd op 1)), .bool (isT (kd op 2))]) ?_ rfl ⟨rfl, ?_⟩
  · simp [results, Tryz.results61, go_sem]
  · exact below_drewN (hb1.alloc hb1.size _) _

theorem leads (i : LIns) (pc : Nat) (hpc : pc ≤ 40) (w : World) :
    Calls Tryz.prog 72 #[i.val, .int .i64 pc] w fun e w' => (∃ v, e = .returned v ∧ IntsAt w.heap.size w' v (nextsI i pc)) ∧ Below w.heap.size w w' := by
  unfold LIns.val
  have y1 : (pc : Int) ≤ 40 := by omega
  have y0 : (0 : Int) ≤ (pc : Int) := by omega
  have HB2 : Hid (∀ o1 o2 : Obj, Below w.heap.size w ((w.alloc o1).alloc o2)) := fun o1 o2 => ((Below.refl _ _).alloc (Nat.le_refl _) _).alloc (by simp) _
  go_enter Tryz.func72, Tryz.ntmps72
  go_wp2
  all_goals go_ret
  · refine ⟨⟨.slice (some ⟨w.heap.size + 1, 0, none⟩) 1 1, rfl, ?_⟩, HB2.out _ _⟩
    rw [show nextsI i pc = [i.c] by unfold nextsI; simp_all]
    exact ints_one (by omega) (by simp [go_sem])
  · refine ⟨⟨.slice (some ⟨w.heap.size + 1, 0, none⟩) 2 2, rfl, ?_⟩, HB2.out _ _⟩
    rw [show nextsI i pc = [(pc : Int) + 1, i.c] by unfold nextsI; simp_all]
    exact ints_two (by omega) (by simp [go_sem]) (by simp [go_sem])
  · refine ⟨⟨.slice none 0 0, rfl, ?_⟩, (Below.refl _ _).alloc (Nat.le_refl _) _⟩
    rw [show nextsI i pc = [] by unfold nextsI; simp_all]
    exact ⟨none, 0, rfl, fun hh => absurd hh (by simp)⟩
  · refine ⟨⟨.slice (some ⟨w.heap.size + 1, 0, none⟩) 1 1, rfl, ?_⟩, HB2.out _ _⟩
    rw [show nextsI i pc = [(pc : Int) + 1] by unfold nextsI; simp_all]
    exact ints_one (by omega) (by simp [go_sem])

end Go.Proofs.YtdbjklngnloibaaGreat.form

/- With which instructions a program goes on behind one (layout.GoesOn): such of its ways as are there. -/
namespace Go.Proofs.YtdbjklngnloibaaGreat.form
open Go.RowKit
set_option linter.unusedVariables false
attribute [local go_sem ↓] Go.wp_at_zero Go.wp_at_succ

def thereB (nC : Nat) (x : Int) : Bool := decide (0 ≤ x) && decide (x < nC)
def goesI (nC : Nat) (i : LIns) (pc : Nat) : List Int := (nextsI i pc).filter (thereB nC)
def intV (x : Int) : Value := .int .i64 x

/-- What lies in memory while they are gathered. -/
structure GS (w : World) (b1 o1 c1 nC : Nat) (l : List Int) (v : Value) (wr : World) : Prop where
  bel : Below w.heap.size w wr
  p1 : wr.cell? ⟨w.heap.size, 1, none⟩ = some (.slice (some ⟨b1, o1, none⟩) nC c1)
  own : wr.ownsRow (w.heap.size + 1) 3 1 v l.length (l.map intV)

section
variable {w : World} {b1 o1 c1 nC : Nat} {l : List Int} {v : Value} {wr w1 : World}
theorem GS.below (h : GS w b1 o1 c1 nC l v wr) (hb : Below wr.heap.size wr w1) : GS w b1 o1 c1 nC l v w1 :=
  ⟨step_below hb h.bel, step_cell hb h.p1, World.ownsRow.kept h.own ⟨hb.os, hb.tape, hb.output, hb.size, fun j hj _ => hb.block j hj⟩ (row := none) (by cases v.ownBlock <;> simp)⟩
theorem GS.ownNe (h : GS w b1 o1 c1 nC l v wr) {b : Nat} (hb : b < w.heap.size + 1) : v.ownBlock ≠ some b := fun e => by have := (World.ownsRow.lt h.own _ e).1; omega
theorem GS.push (h : GS w b1 o1 c1 nC l v wr) {g cap : Nat} {y : Int} (hz : w.heap.size + 1 ≤ wr.heap.size)
    (hown : w1.ownsRow (w.heap.size + 1) 3 1 (.slice (some ⟨g, 0, none⟩) (l.length + 1) cap) (l.length + 1) (l.map intV ++ [.int .i64 y])) (hgrow : wr.grownBy w1 v.ownBlock) :
    GS w b1 o1 c1 nC (l ++ [y]) (.slice (some ⟨g, 0, none⟩) (l.length + 1) cap) w1 :=
  ⟨h.bel.grown hgrow (by omega) (fun j hj => by have := (World.ownsRow.lt h.own _ hj).1; omega), by rw [hgrow.cell_far _ (by dsimp only; omega) (Ne.symm (h.ownNe (by dsimp only; omega)))]; exact h.p1, by simpa [intV] using hown⟩
theorem GS.ints (h : GS w b1 o1 c1 nC l v wr) : IntsAt w.heap.size wr v l := by
  by_cases hn : 0 < l.length
  · obtain ⟨g, cap, rfl, hbg, hlt⟩ := h.own.form hn
    refine ⟨_, cap, rfl, fun _ => ⟨g, rfl, by omega, hlt, fun j hj => ?_⟩⟩
    rw [World.ownsRow.cellAt h.own j (by omega)]
    simp [List.getD, hj, intV]
  · have hl : l = [] := List.length_eq_zero_iff.1 (by omega)
    subst hl
    rcases h.own.2 with ⟨rfl, _⟩ | ⟨g, cap, cur, rfl, _⟩
    · exact ⟨none, 0, rfl, fun hh => absurd hh (by simp)⟩
    · exact ⟨_, cap, rfl, fun hh => absurd hh (by simp)⟩
end

theorem take_filter {N : List Int} {q : Int → Bool} {j : Nat} (hj : j < N.length) : (N.take (j + 1)).filter q = (N.take j).filter q ++ (if q (N.getD j 0) then [N.getD j 0] else []) := by
  have e : N.getD j 0 = N[j] := by simp [List.getD, hj]
  rw [List.take_succ_eq_append_getElem hj, List.filter_append, e]
  cases h : q N[j] <;> simp [h]

set_option maxRecDepth 100000 in
set_option maxHeartbeats 1000000 in
theorem goesOn (b0 o0 c0 b1 o1 c1 : Nat) (B : List Bool) (C : List LIns) (k : Nat) (w : World) (hC : C.length ≤ 40) (h : Held w b0 o0 b1 o1 B C) (hk : k < C.length) :
    Calls Tryz.prog 49 #[progV b0 o0 B.length c0 b1 o1 C.length c1, .int .i64 k] w fun e w' => (∃ v, e = .returned v ∧ IntsAt w.heap.size w' v (goesI C.length (C.getD k .zero) k)) ∧ Below w.heap.size w w' := by
  obtain ⟨d0, d1, d2, d3, d4, d5⟩ := h.code k hk
  obtain ⟨i, hi⟩ : ∃ i, i = C.getD k .zero := ⟨_, rfl⟩
  rw [← hi] at d0 d1 d2 d3 d4 d5 ⊢
  clear hi
  have hlt1 := h.lt1
  have y0 : (0 : Int) ≤ (k : Int) := by omega
  have y1 : (k : Int) < (C.length : Int) := by omega
  have y2 : (C.length : Int) ≤ 40 := by omega
  unfold progV
  go_enter Tryz.func49, Tryz.ntmps49
  go_wp2_with (first
    | (go_at_call 71; refine (isIn _ _ _).mono ?_; rintro e w' ⟨rfl, rfl⟩)
    | (go_at_call 72; refine (leads i k (by omega) _).mono ?_; rintro e w3 ⟨⟨nv, rfl, hnv⟩, hb3⟩; have HNV : Hid _ := hnv; obtain ⟨nao, ncap, rfl, -⟩ := hnv; have HB3 : Hid (Below (w.alloc (.cells #[.slice (some ⟨b0, o0, none⟩) B.length c0, .slice (some ⟨b1, o1, none⟩) C.length c1] 25)).heap.size (w.alloc (.cells #[.slice (some ⟨b0, o0, none⟩) B.length c0, .slice (some ⟨b1, o1, none⟩) C.length c1] 25)) w3) := hb3))
  have hnl : (nextsI i k).length ≤ 2 := nexts_len i k
  obtain ⟨N, hN⟩ : ∃ N, N = nextsI i k := ⟨_, rfl⟩
  rw [← hN] at hnl HNV ⊢
  have HN : Hid (nextsI i k = N) := hN.symm
  clear hN
  have z3 : (N.length : Int) ≤ 2 := by omega
  have HG0 : Hid (GS w b1 o1 c1 C.length [] (.slice none 0 0) w3) := ⟨over_alloc HB3.out, step_cell HB3.out (by simp [go_sem]), World.ownsRow_nil _ _ _ _⟩
  have HW3 : Hid (0 < N.length → ∃ gb, nao = some ⟨gb, 0, none⟩ ∧ w.heap.size + 1 ≤ gb ∧ gb < w3.heap.size ∧ ∀ q, q < N.length → w3.cell? ⟨gb, q, none⟩ = some (.int .i64 (N.getD q 0))) := by
    intro h0
    obtain ⟨_, _, he, hh⟩ := HNV.out
    simp at he
    obtain ⟨rfl, rfl⟩ := he
    obtain ⟨gb, e1, e2, e3, e4⟩ := hh h0
    simp at e2
    exact ⟨gb, e1, by omega, e3, e4⟩
  clear HNV HB3 hb3 d0 d1 d2 d3 d4 d5
  go_loopw [5, 22] (fun v jv wr => ∃ (j : Nat) (v0 : Value), v0 = v ∧ jv = .int .i64 j ∧ j ≤ N.length ∧ GS w b1 o1 c1 C.length ((N.take j).filter (thereB C.length)) v wr ∧
      (0 < N.length → ∃ gb, nao = some ⟨gb, 0, none⟩ ∧ w.heap.size + 1 ≤ gb ∧ gb < wr.heap.size ∧ v.ownBlock ≠ some gb ∧ ∀ q, q < N.length → wr.cell? ⟨gb, q, none⟩ = some (.int .i64 (N.getD q 0)))) (fun _ jv _ => N.length - (intOf jv).toNat)
  case atStart =>
    refine ⟨0, _, rfl, rfl, by omega, by simpa using HG0.out, fun h0 => ?_⟩
    obtain ⟨gb, e1, e2, e3, e4⟩ := HW3.out h0
    exact ⟨gb, e1, e2, e3, by simp [Value.ownBlock], e4⟩
  case round =>
    obtain ⟨j, v, rfl, rfl, hj, hgs, hnx⟩ := hrel
    obtain ⟨l, hl⟩ : ∃ l, l = (N.take j).filter (thereB C.length) := ⟨_, rfl⟩
    rw [← hl] at hgs
    have HL : Hid (l = (N.take j).filter (thereB C.length)) := hl
    have hll : l.length ≤ 2 := by rw [hl]; exact Nat.le_trans (List.length_filter_le _ _) (by simp; omega)
    clear hl
    have HGS : Hid (GS w b1 o1 c1 C.length l v wr) := hgs
    have HNX : Hid (0 < N.length → ∃ gb, nao = some ⟨gb, 0, none⟩ ∧ w.heap.size + 1 ≤ gb ∧ gb < wr.heap.size ∧ v.ownBlock ≠ some gb ∧ ∀ q, q < N.length → wr.cell? ⟨gb, q, none⟩ = some (.int .i64 (N.getD q 0))) := hnx
    have p1 := hgs.p1
    have hzz : w.heap.size < wr.heap.size := World.block_lt_of_cell? wr _ p1
    clear hgs hnx
    by_cases hjl : j < N.length
    case neg =>
      have y9 : ¬ (j : Int) < (N.length : Int) := by omega
      go_wp2
      go_ret
      refine ⟨⟨_, rfl, ?_⟩, HGS.out.bel⟩
      obtain rfl : j = N.length := by omega
      have := HGS.out.ints
      rw [HL.out, List.take_length] at this
      unfold goesI
      rw [HN.out]
      exact this
    obtain ⟨gb, rfl, hgb1, hgb2, hgb3, hgbc⟩ := HNX.out (by omega)
    have nj := hgbc j hjl
    obtain ⟨Y, hY⟩ : ∃ Y, Y = N.getD j 0 := ⟨_, rfl⟩
    rw [← hY] at nj
    have HY : Hid (Y = N.getD j 0) := hY
    have HGBC : Hid (∀ q, q < N.length → wr.cell? ⟨gb, q, none⟩ = some (.int .i64 (N.getD q 0))) := hgbc
    have y8 : (j : Int) < (N.length : Int) := by omega
    have y7 : (0 : Int) ≤ (j : Int) := by omega
    clear hgbc hY
    obtain ⟨t0', hi0, hy0, hy1, hy2⟩ := info_parts infInt
    cases hq : thereB C.length Y with
    | false =>
      have HQ : Hid (thereB C.length Y = false) := hq
      have hq2 : (decide (0 ≤ Y) && decide (Y < (C.length : Int))) = false := hq
      clear hq
      go_wp2_with (go_at_call 71; refine (isIn _ _ _).mono ?_; rw [hq2]; rintro e w' ⟨rfl, hw'⟩; obtain rfl := hw'.symm)
      refine ⟨⟨j + 1, _, rfl, by go_num, by omega, ?_, fun _ => ⟨gb, rfl, hgb1, hgb2, hgb3, HGBC.out⟩⟩, by simp [intOf]; omega⟩
      rw [take_filter hjl, ← HL.out, ← HY.out, HQ.out]
      simpa using HGS.out
    | true =>
      have HQ : Hid (thereB C.length Y = true) := hq
      have hq2 : (decide (0 ≤ Y) && decide (Y < (C.length : Int))) = true := hq
      clear hq
      go_wp2_with (first | (go_at_call 71; refine (isIn _ _ _).mono ?_; rw [hq2]; rintro e w' ⟨rfl, hw'⟩; obtain rfl := hw'.symm) | (at_builtin; refine wpList_append_lies _ rfl _ _ 56 rfl (w.heap.size + 1) 3 t0' (.int .i64 0) 1 8 Tryz.underlying56 hi0 hy0 hy1 hy2 rfl (by decide) v l.length (l.map intV) rfl (World.ownsRow.alloc HGS.out.own _) ⟨wr.heap.size, 0, none⟩ 1 1 [.int .i64 Y] rfl rfl ?c1 ?c2 (by decide) ?c3 ?c4 ?c5 _ rfl ?_))
      case c1 => exact World.news_of_block (cs := #[.int .i64 Y]) (t := 3) (fr := (0, 0)) (by have := heap_alloc_new wr (.cells #[.int .i64 Y] 3); simpa using this)
      case c2 => simp [Value.oneCell']
      case c3 => unfold maxLen; omega
      case c4 => omega
      case c5 => simp; omega
      intro g9 cap9 w9 hown hgrow hat hlt9
      have hP := (HGS.out.below ((Below.refl _ _).alloc (Nat.le_refl _) (.cells #[.int .i64 Y] 3))).push (by simp; omega) hown hgrow
      have hN9 : ∃ gb', some (⟨gb, 0, none⟩ : Addr) = some ⟨gb', 0, none⟩ ∧ w.heap.size + 1 ≤ gb' ∧ gb' < w9.heap.size ∧ (Value.slice (some ⟨g9, 0, none⟩) (l.length + 1) cap9).ownBlock ≠ some gb' ∧ ∀ q, q < N.length → w9.cell? ⟨gb', q, none⟩ = some (.int .i64 (N.getD q 0)) := by
        have hz9 : wr.heap.size < w9.heap.size := by have := hgrow.size; simp at this; omega
        refine ⟨gb, rfl, hgb1, by omega, ?_, fun q hq => ?_⟩
        · simp only [Value.ownBlock, ne_eq, Option.some.injEq]
          rcases hat with hat | hat
          · intro e; rw [e] at hat; exact hgb3 hat
          · omega
        · rw [hgrow.cell_far _ (by simp; omega) (Ne.symm hgb3)]
          exact step_cell ((Below.refl _ _).alloc (Nat.le_refl _) _) (HGBC.out q hq)
      have R : Hid (GS w b1 o1 c1 C.length (l ++ [Y]) (.slice (some ⟨g9, 0, none⟩) (l.length + 1) cap9) w9) := hP
      have RN : Hid (∃ gb', some (⟨gb, 0, none⟩ : Addr) = some ⟨gb', 0, none⟩ ∧ w.heap.size + 1 ≤ gb' ∧ gb' < w9.heap.size ∧ (Value.slice (some ⟨g9, 0, none⟩) (l.length + 1) cap9).ownBlock ≠ some gb' ∧ ∀ q, q < N.length → w9.cell? ⟨gb', q, none⟩ = some (.int .i64 (N.getD q 0))) := hN9
      clear hP hN9 hown hgrow hat
      go_wp2
      refine ⟨⟨j + 1, _, rfl, by go_num, by omega, ?_, fun _ => RN.out⟩, by simp [intOf]; omega⟩
      rw [take_filter hjl, ← HL.out, ← HY.out, HQ.out]
      simpa using R.out

end Go.Proofs.YtdbjklngnloibaaGreat.form

/- What the program's own small functions on places answer. -/
namespace Go.Proofs.YtdbjklngnloibaaGreat.form
open Go.RowKit
set_option linter.unusedVariables false
attribute [local go_sem ↓] Go.wp_at_zero Go.wp_at_succ

def singB (d s : LPlace) : Bool := (d.kind == 2) && (s.kind == 1) && (s.n / 2 == d.n)

set_option maxRecDepth 100000 in
set_option maxHeartbeats 1000000 in
theorem hasSingle (d s : LPlace) (w : World) : Calls Tryz.prog 116 #[d.val, s.val] w fun e w' => e = .returned (.bool (singB d s)) ∧ Below w.heap.size w w' := by
  unfold LPlace.val
  have HB : Hid (∀ o1 o2 : Obj, Below w.heap.size w ((w.alloc o1).alloc o2)) := fun o1 o2 => ((Below.refl _ _).alloc (Nat.le_refl _) _).alloc (by simp) _
  rcases Bool.eq_false_or_eq_true (d.kind == 2) with e1 | e1 <;> rcases Bool.eq_false_or_eq_true (s.kind == 1) with e2 | e2
  all_goals
    go_enter Tryz.func116, Tryz.ntmps116
    go_wp2
    go_ret
    refine ⟨ret_bool ?_, HB.out _ _⟩
    unfold singB
    rw [e1, e2]
    simp

def roomV (a b c : Int) : Value := .agg #[.int .i64 0, .int .i64 a, .int .i64 b, .int .i64 c]
def hasB (a b c : Int) (p : LPlace) : Bool :=
  if p.kind = 1 then decide (0 ≤ p.n) && decide (p.n < a) else if p.kind = 2 then decide (0 ≤ p.n) && decide (p.n < b) else if p.kind = 3 then decide (0 ≤ p.n) && decide (p.n < c) else false

set_option maxRecDepth 100000 in
set_option maxHeartbeats 1000000 in
theorem roomHas (a b c : Int) (p : LPlace) (w : World) : Calls Tryz.prog 77 #[roomV a b c, p.val] w fun e w' => e = .returned (.bool (hasB a b c p)) ∧ Below w.heap.size w w' := by
  unfold roomV LPlace.val
  have HB : Hid (∀ o1 o2 : Obj, Below w.heap.size w ((w.alloc o1).alloc o2)) := fun o1 o2 => ((Below.refl _ _).alloc (Nat.le_refl _) _).alloc (by simp) _
  rcases (show p.kind < 0 ∨ (p.kind = 0 ∨ p.kind = 1 ∨ p.kind = 2 ∨ p.kind = 3) ∨ 4 ≤ p.kind by omega) with hk | hk | hk
  · have d1 : decide ((0 : Int) ≤ p.kind) = false := by simp; omega
    have HE : Hid (hasB a b c p = false) := by show hasB a b c p = false; unfold hasB; rw [if_neg (by omega), if_neg (by omega), if_neg (by omega)]
    clear hk
    go_enter Tryz.func77, Tryz.ntmps77
    go_wp2
    go_quiet (fail)
    go_wp2
    go_ret
    exact ⟨ret_bool HE.out.symm, below_drewN (HB.out _ _) _⟩
  · by_cases hn : 0 ≤ p.n
    · have d3 : decide ((0 : Int) ≤ p.n) = true := by simp [hn]
      rcases hk with hk | hk | hk | hk
      all_goals
        have HE : Hid (hasB a b c p = decide (p.n < (if p.kind = 0 then 0 else if p.kind = 1 then a else if p.kind = 2 then b else c))) := by show hasB a b c p = _; unfold hasB; rw [hk]; simp; try omega
        rw [hk]
        rw [hk] at HE
        clear hk hn
        go_enter Tryz.func77, Tryz.ntmps77
        go_wp2
        go_quiet (fail)
        go_wp2
        go_ret
        exact ⟨ret_bool (by rw [HE.out]; simp), below_drewN (HB.out _ _) _⟩
    · have d3 : decide ((0 : Int) ≤ p.n) = false := by simp; omega
      have d1 : decide ((0 : Int) ≤ p.kind) = true := by simp; omega
      have d2 : decide (p.kind < (4 : Int)) = true := by simp; omega
      have HE : Hid (hasB a b c p = false) := by show hasB a b c p = false; unfold hasB; rcases hk with hk | hk | hk | hk <;> rw [hk] <;> simp <;> omega
      clear hk hn
      go_enter Tryz.func77, Tryz.ntmps77
      go_wp2
      go_quiet (fail)
      go_wp2
      go_ret
      exact ⟨ret_bool HE.out.symm, below_drewN (HB.out _ _) _⟩
  · have d1 : decide ((0 : Int) ≤ p.kind) = true := by simp; omega
    have d2 : decide (p.kind < (4 : Int)) = false := by simp; omega
    have HE : Hid (hasB a b c p = false) := by show hasB a b c p = false; unfold hasB; rw [if_neg (by omega), if_neg (by omega), if_neg (by omega)]
    clear hk
    go_enter Tryz.func77, Tryz.ntmps77
    go_wp2
    go_quiet (fail)
    go_wp2
    go_ret
    exact ⟨ret_bool HE.out.symm, below_drewN (HB.out _ _) _⟩

def overO (a b : LPlace) : Bool := ((a.kind == b.kind) && (a.n == b.n)) || singB a b || singB b a

set_option maxRecDepth 100000 in
set_option maxHeartbeats 1000000 in
theorem overlapO (a b : LPlace) (w : World) : Calls Tryz.prog 114 #[a.val, b.val] w fun e w' => e = .returned (.bool (overO a b)) ∧ Below w.heap.size w w' := by
  unfold LPlace.val
  have HB : Hid (∀ o1 o2 : Obj, Below w.heap.size w ((w.alloc o1).alloc o2)) := fun o1 o2 => ((Below.refl _ _).alloc (Nat.le_refl _) _).alloc (by simp) _
  have q57 := eqPlace
  obtain ⟨x, hx⟩ : ∃ x, x = ((a.kind == b.kind) && (a.n == b.n)) := ⟨_, rfl⟩
  obtain ⟨y, hy⟩ : ∃ y, y = singB a b := ⟨_, rfl⟩
  have HO : Hid (overO a b = (x || y || singB b a)) := by show overO a b = _; unfold overO; rw [hx, hy]
  have HY : Hid (singB a b = y) := hy.symm
  have hx2 : ((a.kind == b.kind) && (a.n == b.n)) = x := hx.symm
  clear hx hy
  cases x
  · cases y
    · go_enter Tryz.func114, Tryz.ntmps114
      go_wp2_with fail
      go_at_call 116
      refine (hasSingle a b _).mono ?_
      rw [HY.out]
      rintro e w1 ⟨rfl, hb1⟩
      have c0 : w1.cell? ⟨w.heap.size, 0, none⟩ = some (.int .i64 a.kind) := step_cell hb1 (by simp [go_sem])
      have c1 : w1.cell? ⟨w.heap.size, 1, none⟩ = some (.int .i64 a.n) := step_cell hb1 (by simp [go_sem])
      have c2 : w1.cell? ⟨w.heap.size + 1, 0, none⟩ = some (.int .i64 b.kind) := step_cell hb1 (by simp [go_sem])
      have c3 : w1.cell? ⟨w.heap.size + 1, 1, none⟩ = some (.int .i64 b.n) := step_cell hb1 (by simp [go_sem])
      have HB1 : Hid (Below w.heap.size w w1) := over_alloc (over_alloc hb1)
      clear hb1
      go_wp2_with (go_at_call 116; refine (hasSingle b a _).mono ?_; rintro e w2 ⟨rfl, hb2⟩)
      go_ret
      exact ⟨ret_bool (by rw [HO.out]; rfl), step_below hb2 HB1.out⟩
    · go_enter Tryz.func114, Tryz.ntmps114
      go_wp2_with (go_at_call 116; refine (hasSingle a b _).mono ?_; rw [HY.out]; rintro e w1 ⟨rfl, hb1⟩)
      go_ret
      exact ⟨ret_bool (by rw [HO.out]; rfl), over_alloc (over_alloc hb1)⟩
  · go_enter Tryz.func114, Tryz.ntmps114
    go_wp2
    go_ret
    exact ⟨ret_bool (by rw [HO.out]; rfl), HB.out _ _⟩

end Go.Proofs.YtdbjklngnloibaaGreat.form

/- What the program's own functions on moves and targets answer: holds, isEmpty, kindsMay, moveMay, movesMay, mostAfter, targetMay, roomOf. -/
namespace Go.Proofs.YtdbjklngnloibaaGreat.form
open Go.RowKit
set_option linter.unusedVariables false
attribute [local go_sem ↓] Go.wp_at_zero Go.wp_at_succ

def emptyB (p : LPlace) : Bool := (p.kind == 0) && (p.n == 0)

set_option maxRecDepth 100000 in
theorem isEmpty (p : LPlace) (w : World) : Calls Tryz.prog 63 #[p.val] w fun e w' => e = .returned (.bool (emptyB p)) ∧ Below w.heap.size w w' := by
  unfold LPlace.val
  have HB : Hid (∀ o1 : Obj, Below w.heap.size w (w.alloc o1)) := fun o1 => (Below.refl _ _).alloc (Nat.le_refl _) _
  have q57 := eqPlace
  go_enter Tryz.func63, Tryz.ntmps63
  go_wp2
  go_ret
  exact ⟨ret_bool rfl, HB.out _⟩

def kindsB (a b : Int) : Bool := if a = b then a != 3 else (a == 3) || (b == 3)
theorem kindsMay (a b : Int) (w : World) : Calls Tryz.prog 78 #[.int .i64 a, .int .i64 b] w fun e w' => e = .returned (.bool (kindsB a b)) ∧ w' = w := by
  by_cases h : a = b
  · have e1 : (a == b) = true := by simp [h]
    have HE : Hid (kindsB a b = (a != 3)) := by show kindsB a b = _; unfold kindsB; rw [if_pos h]
    clear h
    go_enter Tryz.func78, Tryz.ntmps78
    go_wp2
    go_ret
    exact ⟨ret_bool (by rw [HE.out]; try rfl), rfl⟩
  · have e1 : (a == b) = false := by simp [h]
    have HE : Hid (kindsB a b = ((a == 3) || (b == 3))) := by show kindsB a b = _; unfold kindsB; rw [if_neg h]
    clear h
    rcases Bool.eq_false_or_eq_true (a == 3) with e2 | e2
    all_goals
      go_enter Tryz.func78, Tryz.ntmps78
      go_wp2
      go_ret
      exact ⟨ret_bool (by rw [HE.out, e2]; simp), rfl⟩

def holdB (a b c : Int) (p : LPlace) (wide : Bool) : Bool := (p.kind == if wide then 2 else 1) && hasB a b c p
set_option maxRecDepth 100000 in
set_option maxHeartbeats 1000000 in
theorem holds (a b c : Int) (p : LPlace) (wide : Bool) (w : World) : Calls Tryz.prog 62 #[roomV a b c, p.val, .bool wide] w fun e w' => e = .returned (.bool (holdB a b c p wide)) ∧ Below w.heap.size w w' := by
  unfold roomV LPlace.val
  have HB : Hid (∀ o1 o2 : Obj, Below w.heap.size w ((w.alloc o1).alloc o2)) := fun o1 o2 => ((Below.refl _ _).alloc (Nat.le_refl _) _).alloc (by simp) _
  cases wide
  · have HE : Hid (holdB a b c p false = ((p.kind == 1) && hasB a b c p)) := rfl
    rcases Bool.eq_false_or_eq_true (p.kind == 1) with e1 | e1
    all_goals
      go_enter Tryz.func62, Tryz.ntmps62
      go_wp2_with (go_at_call 77; refine (roomHas a b c p _).mono ?_; rintro e w1 ⟨rfl, hb1⟩)
      go_ret
    · exact ⟨ret_bool (by rw [HE.out, e1]; rfl), over_alloc (over_alloc hb1)⟩
    · exact ⟨ret_bool (by rw [HE.out, e1]; rfl), HB.out _ _⟩
  · have HE : Hid (holdB a b c p true = ((p.kind == 2) && hasB a b c p)) := rfl
    rcases Bool.eq_false_or_eq_true (p.kind == 2) with e1 | e1
    all_goals
      go_enter Tryz.func62, Tryz.ntmps62
      go_wp2_with (go_at_call 77; refine (roomHas a b c p _).mono ?_; rintro e w1 ⟨rfl, hb1⟩)
      go_ret
    · exact ⟨ret_bool (by rw [HE.out, e1]; rfl), over_alloc (over_alloc hb1)⟩
    · exact ⟨ret_bool (by rw [HE.out, e1]; rfl), HB.out _ _⟩

def mostI (op : Int) : Int := if op = 8 ∨ op = 9 ∨ op = 10 then 0 else 6
theorem mostAfter (op : Int) (w : World) : Calls Tryz.prog 43 #[.int .i64 op] w fun e w' => e = .returned (.int .i64 (mostI op)) ∧ w' = w := by
  go_enter Tryz.func43, Tryz.ntmps43
  go_wp2
  all_goals
    go_ret
    refine ⟨?_, rfl⟩
    unfold mostI
    simp_all

set_option maxRecDepth 100000 in
theorem targetMay (s : Int) (w : World) : Calls Tryz.prog 21 #[targetV s] w fun e w' => e = .returned (.bool (targetB s)) ∧ Below w.heap.size w w' := by
  unfold targetV
  have HB : Hid (∀ o1 : Obj, Below w.heap.size w (w.alloc o1)) := fun o1 => (Below.refl _ _).alloc (Nat.le_refl _) _
  rcases (show ¬ 4 ≤ s ∨ (4 ≤ s ∧ ¬ s ≤ 16) ∨ (4 ≤ s ∧ s ≤ 16) by omega) with h | ⟨h, h1⟩ | ⟨h, h1⟩
  · have HE : Hid (targetB s = false) := by show targetB s = false; unfold targetB; simp; omega
    go_enter Tryz.func21, Tryz.ntmps21
    go_wp2
    go_ret
    exact ⟨ret_bool HE.out.symm, HB.out _⟩
  · have HE : Hid (targetB s = false) := by show targetB s = false; unfold targetB; simp; omega
    go_enter Tryz.func21, Tryz.ntmps21
    go_wp2
    go_ret
    exact ⟨ret_bool HE.out.symm, HB.out _⟩
  · have HE : Hid (targetB s = (s % 2 == 0)) := by show targetB s = _; unfold targetB; rw [Bool.eq_iff_iff]; simp; omega
    go_enter Tryz.func21, Tryz.ntmps21
    go_wp2
    go_ret
    exact ⟨ret_bool (by rw [HE.out]; try rfl), HB.out _⟩

set_option maxRecDepth 100000 in
theorem roomOf (s slots : Int) (h0 : 4 ≤ s) (h1 : s ≤ 16) (w : World) : Calls Tryz.prog 23 #[targetV s, .int .i64 slots] w fun e w' => e = .returned (roomV s (s / 2) slots) ∧ Below w.heap.size w w' := by
  unfold targetV
  have HB : Hid (∀ o1 o2 : Obj, Below w.heap.size w ((w.alloc o1).alloc o2)) := fun o1 o2 => ((Below.refl _ _).alloc (Nat.le_refl _) _).alloc (by simp) _
  go_enter Tryz.func23, Tryz.ntmps23
  go_wp2
  refine bodyPost_ret (v := roomV s (s / 2) slots) ?_ rfl ⟨rfl, HB.out _ _⟩
  simp [results, Tryz.results23, go_sem, roomV]

def moveO (a b c : Int) (m : LMove) : Bool := if m.cst then emptyB m.src && holdB a b c m.dst false else (m.n == 0) && hasB a b c m.dst && hasB a b c m.src && kindsB m.dst.kind m.src.kind

set_option maxRecDepth 100000 in
set_option maxHeartbeats 1000000 in
theorem moveMay (a b c : Int) (m : LMove) (w : World) : Calls Tryz.prog 64 #[roomV a b c, m.val] w fun e w' => e = .returned (.bool (moveO a b c m)) ∧ Below w.heap.size w w' := by
  unfold roomV LMove.val
  have HB : Hid (∀ o1 o2 : Obj, Below w.heap.size w ((w.alloc o1).alloc o2)) := fun o1 o2 => ((Below.refl _ _).alloc (Nat.le_refl _) _).alloc (by simp) _
  obtain ⟨k, hk⟩ : ∃ k, k = m.cst := ⟨_, rfl⟩
  rw [← hk]
  have HK : Hid (m.cst = k) := hk.symm
  clear hk
  have step : ∀ (w1 : World), Below ((w.alloc (.cells #[.int .i64 0, .int .i64 a, .int .i64 b, .int .i64 c] 72)).alloc (.cells #[.int .i64 m.dst.kind, .int .i64 m.dst.n, .int .i64 m.src.kind, .int .i64 m.src.n, .bool k, .int .u32 m.n] 94)).heap.size ((w.alloc (.cells #[.int .i64 0, .int .i64 a, .int .i64 b, .int .i64 c] 72)).alloc (.cells #[.int .i64 m.dst.kind, .int .i64 m.dst.n, .int .i64 m.src.kind, .int .i64 m.src.n, .bool k, .int .u32 m.n] 94)) w1 →
      Below w.heap.size w w1 ∧ w1.cell? ⟨w.heap.size, 0, none⟩ = some (.int .i64 0) ∧ w1.cell? ⟨w.heap.size, 1, none⟩ = some (.int .i64 a) ∧ w1.cell? ⟨w.heap.size, 2, none⟩ = some (.int .i64 b) ∧ w1.cell? ⟨w.heap.size, 3, none⟩ = some (.int .i64 c) ∧ w1.cell? ⟨w.heap.size + 1, 0, none⟩ = some (.int .i64 m.dst.kind) ∧ w1.cell? ⟨w.heap.size + 1, 1, none⟩ = some (.int .i64 m.dst.n) ∧ w1.cell? ⟨w.heap.size + 1, 2, none⟩ = some (.int .i64 m.src.kind) ∧ w1.cell? ⟨w.heap.size + 1, 3, none⟩ = some (.int .i64 m.src.n) := by
    intro w1 hb1
    exact ⟨over_alloc (over_alloc hb1), step_cell hb1 (by simp [go_sem]), step_cell hb1 (by simp [go_sem]), step_cell hb1 (by simp [go_sem]), step_cell hb1 (by simp [go_sem]), step_cell hb1 (by simp [go_sem]), step_cell hb1 (by simp [go_sem]), step_cell hb1 (by simp [go_sem]), step_cell hb1 (by simp [go_sem])⟩
  have HS : Hid _ := step
  clear step
  cases k
  · have HE : Hid (moveO a b c m = ((m.n == 0) && hasB a b c m.dst && hasB a b c m.src && kindsB m.dst.kind m.src.kind)) := by show moveO a b c m = _; unfold moveO; rw [HK.out]; rfl
    rcases Bool.eq_false_or_eq_true (m.n == 0) with e1 | e1
    · cases hd : hasB a b c m.dst
      · have HE2 : Hid (moveO a b c m = false) := by show moveO a b c m = _; rw [HE.out, hd]; simp
        go_enter Tryz.func64, Tryz.ntmps64
        go_wp2_with (go_at_call 77; refine (roomHas a b c m.dst _).mono ?_; rw [hd]; rintro e w1 ⟨rfl, hb1⟩)
        go_ret
        exact ⟨ret_bool HE2.out.symm, over_alloc (over_alloc hb1)⟩
      · cases hq : hasB a b c m.src
        · have HE2 : Hid (moveO a b c m = false) := by show moveO a b c m = _; rw [HE.out, hq]; simp
          go_enter Tryz.func64, Tryz.ntmps64
          go_wp2_with fail
          go_at_call 77
          refine (roomHas a b c m.dst _).mono ?_
          rw [hd]
          rintro e w1 ⟨rfl, hb1⟩
          obtain ⟨hbel, r0, r1, r2, r3, t0, t1, t2, t3⟩ := HS.out w1 hb1
          clear hb1
          go_wp2_with (go_at_call 77; refine (roomHas a b c m.src _).mono ?_; rw [hq]; rintro e w2 ⟨rfl, hb2⟩)
          go_ret
          exact ⟨ret_bool HE2.out.symm, step_below hb2 hbel⟩
        · have HE2 : Hid (moveO a b c m = kindsB m.dst.kind m.src.kind) := by show moveO a b c m = _; rw [HE.out, hq, hd, e1]; simp
          go_enter Tryz.func64, Tryz.ntmps64
          go_wp2_with fail
          go_at_call 77
          refine (roomHas a b c m.dst _).mono ?_
          rw [hd]
          rintro e w1 ⟨rfl, hb1⟩
          obtain ⟨hbel, r0, r1, r2, r3, t0, t1, t2, t3⟩ := HS.out w1 hb1
          clear hb1
          go_wp2_with (first | (go_at_call 77; refine (roomHas a b c m.src _).mono ?_; rw [hq]; rintro e w2 ⟨rfl, hb2⟩; have v0 := step_cell hb2 t0; have v2 := step_cell hb2 t2) | (go_at_call 78; refine (kindsMay _ _ _).mono ?_; rintro e w3 ⟨rfl, hw3⟩; obtain rfl := hw3.symm))
          go_ret
          exact ⟨ret_bool HE2.out.symm, step_below hb2 hbel⟩
    · have HE2 : Hid (moveO a b c m = false) := by show moveO a b c m = _; rw [HE.out, e1]; rfl
      go_enter Tryz.func64, Tryz.ntmps64
      go_wp2
      go_ret
      exact ⟨ret_bool HE2.out.symm, HB.out _ _⟩
  · have HE : Hid (moveO a b c m = (emptyB m.src && holdB a b c m.dst false)) := by show moveO a b c m = _; unfold moveO; rw [HK.out]; rfl
    cases he : emptyB m.src
    · have HE2 : Hid (moveO a b c m = false) := by show moveO a b c m = _; rw [HE.out, he]; rfl
      go_enter Tryz.func64, Tryz.ntmps64
      go_wp2_with (go_at_call 63; refine (isEmpty m.src _).mono ?_; rw [he]; rintro e w1 ⟨rfl, hb1⟩)
      go_ret
      exact ⟨ret_bool HE2.out.symm, over_alloc (over_alloc hb1)⟩
    · have HE2 : Hid (moveO a b c m = holdB a b c m.dst false) := by show moveO a b c m = _; rw [HE.out, he]; rfl
      go_enter Tryz.func64, Tryz.ntmps64
      go_wp2_with (first | (go_at_call 63; refine (isEmpty m.src _).mono ?_; rw [he]; rintro e w1 ⟨rfl, hb1⟩; obtain ⟨hbel, r0, r1, r2, r3, t0, t1, t2, t3⟩ := HS.out w1 hb1; clear hb1) | (go_at_call 62; refine (holds a b c m.dst false _).mono ?_; rintro e w2 ⟨rfl, hb2⟩))
      go_ret
      exact ⟨ret_bool HE2.out.symm, step_below hb2 hbel⟩

def movesO (a b c : Int) (l : List LMove) (most : Int) : Bool := decide ((l.length : Int) ≤ most) && l.all (moveO a b c)

set_option maxRecDepth 100000 in
set_option maxHeartbeats 1000000 in
theorem movesMay (a b c : Int) (v : Value) (l : List LMove) (most : Int) (hm : most ≤ 6) (w : World) (h : MovesIs w v l) : Calls Tryz.prog 42 #[roomV a b c, v, .int .i64 most] w fun e w' => e = .returned (.bool (movesO a b c l most)) ∧ Below w.heap.size w w' := by
  obtain ⟨ao, cap, rfl, hl, hc⟩ := h
  have HC : Hid _ := hc
  clear hc
  unfold roomV
  by_cases h6 : (l.length : Int) ≤ most
  case neg =>
    have HN : Hid (movesO a b c l most = false) := by show movesO a b c l most = false; simp [movesO, h6]
    go_enter Tryz.func42, Tryz.ntmps42
    go_wp2
    go_ret
    exact ⟨ret_bool HN.out.symm, (Below.refl _ _).alloc (Nat.le_refl _) _⟩
  have hg : (l.length : Int) ≤ 6 := by omega
  go_enter Tryz.func42, Tryz.ntmps42
  go_wp2
  go_loopw [15] (fun i wr => ∃ k : Nat, k ≤ l.length ∧ i = .int .i64 k ∧ Below w.heap.size w wr ∧ w.heap.size < wr.heap.size ∧ wr.cell? ⟨w.heap.size, 0, none⟩ = some (.int .i64 0) ∧ wr.cell? ⟨w.heap.size, 1, none⟩ = some (.int .i64 a) ∧ wr.cell? ⟨w.heap.size, 2, none⟩ = some (.int .i64 b) ∧ wr.cell? ⟨w.heap.size, 3, none⟩ = some (.int .i64 c) ∧ (∀ j, j < k → moveO a b c (l.getD j .zero) = true)) (fun i _ => l.length - (intOf i).toNat)
  case atStart => exact ⟨0, by omega, rfl, (Below.refl _ _).alloc (Nat.le_refl _) _, by simp, by simp [go_sem], by simp [go_sem], by simp [go_sem], by simp [go_sem], fun j hj => absurd hj (by omega)⟩
  case round =>
    obtain ⟨k, hk, rfl, hbel, hsz, r0, r1, r2, r3, hall⟩ := hrel
    have F : Hid _ := hall
    clear hall
    by_cases hlt : k < l.length
    · obtain ⟨b9, o, rfl, hbl, hcell⟩ := HC.out (by omega)
      obtain ⟨d0, d1, d2, d3, d4, d5⟩ := hcell k hlt
      have d0 := step_cell hbel d0
      have d1 := step_cell hbel d1
      have d2 := step_cell hbel d2
      have d3 := step_cell hbel d3
      have d4 := step_cell hbel d4
      have d5 := step_cell hbel d5
      obtain ⟨m, hi⟩ : ∃ m, m = l.getD k .zero := ⟨_, rfl⟩
      rw [← hi] at d0 d1 d2 d3 d4 d5
      have HI : Hid (m = l.getD k .zero) := hi
      clear hi hcell
      have y1 : (0 : Int) ≤ (k : Int) := by omega
      have y2 : (k : Int) < (l.length : Int) := by omega
      have hbl2 : b9 < wr.heap.size := by have := hbel.size; omega
      go_wp2_with (go_at_call 64; refine (moveMay a b c m _).mono ?_; rintro e w1 ⟨rfl, hb1⟩)
      all_goals
        have hb2 := over_alloc hb1
        have hbel1 := step_below hb2 hbel
      · go_ret
        refine ⟨ret_bool ?_, hbel1⟩
        have hf : moveO a b c m = false := by simp_all
        unfold movesO
        rw [eq_comm, Bool.and_eq_false_iff]
        right
        rw [List.all_eq_false]
        refine ⟨m, ?_, by simp [hf]⟩
        rw [HI.out]
        simp [List.getD, hlt]
      · refine ⟨⟨k + 1, by omega, by go_num, hbel1, Nat.lt_of_lt_of_le hsz hb2.size, step_cell hb2 r0, step_cell hb2 r1, step_cell hb2 r2, step_cell hb2 r3, ?_⟩, by simp [intOf]; omega⟩
        intro j hj
        by_cases hjk : j < k
        · exact F.out j hjk
        · obtain rfl : j = k := by omega
          rw [← HI.out]
          simp_all
    · go_wp2
      go_ret
      refine ⟨ret_bool ?_, hbel⟩
      unfold movesO
      rw [eq_comm, Bool.and_eq_true]
      refine ⟨by simp [h6], ?_⟩
      rw [List.all_eq_true]
      intro x hx
      obtain ⟨j, hj, rfl⟩ := List.getElem_of_mem hx
      have := F.out j (by omega)
      simpa [List.getD, hj] using this

end Go.Proofs.YtdbjklngnloibaaGreat.form
