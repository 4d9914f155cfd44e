/- Places held against each other (== on structs). -/
import Derived.Test.YtcmnmogmdhofcaaGreatProg
import Derived.Laws.StructEq
import Derived.WalkKit
import Derived.Test.YtcmnmogmdhofcaaGreatF07

namespace Go.Proofs.YtcmnmogmdhofcaaGreat.form
open Go.RowKit
set_option linter.unusedVariables false

theorem eqPlace (w : World) (a b c d : Int) : (binOp .eql 51 (.agg #[.int .i64 a, .int .i64 b]) (.agg #[.int .i64 c, .int .i64 d])).run Tryz.prog w = .ok (.bool ((a == c) && (b == d))) w := by
  have hu := Tryz.underlying51
  have h3 : Tryz.prog.underlying 3 = some (.int .i64) := Tryz.underlying3
  rw [run_eql_struct, run_equalIn_agg w 9999 51 _ _ (by kernel_rfl) (by kernel_rfl)]
  simp [go_sem, Program.fieldsOf, hu]
  by_cases e1 : a = c <;> by_cases e2 : b = d <;> simp [e1, e2]

theorem neqPlace (w : World) (a b c d : Int) : (binOp .neq 51 (.agg #[.int .i64 a, .int .i64 b]) (.agg #[.int .i64 c, .int .i64 d])).run Tryz.prog w = .ok (.bool (!((a == c) && (b == d)))) w := by
  have hu := Tryz.underlying51
  have h3 : Tryz.prog.underlying 3 = some (.int .i64) := Tryz.underlying3
  rw [run_neq_struct, run_equalIn_agg w 9999 51 _ _ (by kernel_rfl) (by kernel_rfl)]
  simp [go_sem, Program.fieldsOf, hu]
  by_cases e1 : a = c <;> by_cases e2 : b = d <;> simp [e1, e2]

end Go.Proofs.YtcmnmogmdhofcaaGreat.form

/- Places and facts held against each other (== on structs). -/
namespace Go.Proofs.YtcmnmogmdhofcaaGreat.form
open Go.RowKit
set_option linter.unusedVariables false

theorem eqFact (w : World) (a b t n a' b' t' n' : Int) (x x' : Bool) : (binOp .eql 62 (.agg #[.int .i64 a, .int .i64 b, .bool x, .int .i64 t, .int .u32 n]) (.agg #[.int .i64 a', .int .i64 b', .bool x', .int .i64 t', .int .u32 n'])).run Tryz.prog w = .ok (.bool ((a == a') && (b == b') && (x == x') && (t == t') && (n == n'))) w := by
  have hu := Tryz.underlying62
  have hu2 := Tryz.underlying51
  have h3 : Tryz.prog.underlying 3 = some (.int .i64) := Tryz.underlying3
  have h4 : Tryz.prog.underlying 4 = some .bool := Tryz.underlying4
  have h5 : Tryz.prog.underlying 47 = some (.int .u32) := Tryz.underlying47
  have hin : ∀ wx : World, (Op.equalIn 9999 51 (.agg #[.int .i64 a, .int .i64 b]) (.agg #[.int .i64 a', .int .i64 b'])).run Tryz.prog wx = .ok ((a == a') && (b == b')) wx := by
    intro wx
    rw [run_equalIn_agg wx 9998 51 _ _ (by kernel_rfl) (by kernel_rfl)]
    simp [go_sem, Program.fieldsOf, hu2]
    by_cases e1 : a = a' <;> by_cases e2 : b = b' <;> simp [e1, e2]
  rw [run_eql_struct, run_equalIn_agg w 9999 62 _ _ (by kernel_rfl) (by kernel_rfl)]
  simp [go_sem, Program.fieldsOf, hu, hin]
  by_cases e1 : a = a' <;> by_cases e2 : b = b' <;> by_cases e3 : x = x' <;> by_cases e4 : t = t' <;> by_cases e5 : n = n' <;> simp [e1, e2, e3, e4, e5]

end Go.Proofs.YtcmnmogmdhofcaaGreat.form

/- Facts in memory; whether a fact is in a set (loanbookref8.World.find). -/
namespace Go.Proofs.YtcmnmogmdhofcaaGreat.form
open Go.RowKit Go.Proofs.YtcmnmogmdhofcaaGreat.num
set_option linter.unusedVariables false
attribute [local go_sem ↓] Go.wp_at_zero Go.wp_at_succ

def LFact.zero : LFact := ⟨.zero, false, 0, 0⟩
def LFact.val (f : LFact) : Value := .agg #[.int .i64 f.pl.kind, .int .i64 f.pl.n, .bool f.temp, .int .i64 f.t, .int .u32 f.n]
def sameF (f g : LFact) : Bool := (f.pl.kind == g.pl.kind) && (f.pl.n == g.pl.n) && (f.temp == g.temp) && (f.t == g.t) && (f.n == g.n)
theorem sameF_iff {f g : LFact} : sameF f g = true ↔ f = g := by
  obtain ⟨⟨a, b⟩, c, d, e⟩ := f
  obtain ⟨⟨a', b'⟩, c', d', e'⟩ := g
  unfold sameF
  simp only [Bool.and_eq_true, beq_iff_eq, LFact.mk.injEq, LPlace.mk.injEq]
  constructor
  · rintro ⟨⟨⟨⟨h1, h2⟩, h3⟩, h4⟩, h5⟩; exact ⟨⟨h1, h2⟩, h3, h4, h5⟩
  · rintro ⟨⟨h1, h2⟩, h3, h4, h5⟩; exact ⟨⟨⟨⟨h1, h2⟩, h3⟩, h4⟩, h5⟩

structure FactsHeld (w : World) (ga : Nat) (F : List LFact) : Prop where
  lt : ga < w.heap.size
  len : F.length ≤ 100000
  cells : ∀ k, k < F.length → w.cell? ⟨ga, k * 5, none⟩ = some (.int .i64 (F.getD k .zero).pl.kind) ∧ w.cell? ⟨ga, k * 5 + 1, none⟩ = some (.int .i64 (F.getD k .zero).pl.n) ∧ w.cell? ⟨ga, k * 5 + 2, none⟩ = some (.bool (F.getD k .zero).temp) ∧ w.cell? ⟨ga, k * 5 + 3, none⟩ = some (.int .i64 (F.getD k .zero).t) ∧ w.cell? ⟨ga, k * 5 + 4, none⟩ = some (.int .u32 (F.getD k .zero).n)

theorem FactsHeld.later {w w' : World} {ga : Nat} {F : List LFact} (h : FactsHeld w ga F) (hb : Below w.heap.size w w') : FactsHeld w' ga F := by
  refine ⟨Nat.lt_of_lt_of_le h.lt hb.size, h.len, fun k hk => ?_⟩
  obtain ⟨c0, c1, c2, c3, c4⟩ := h.cells k hk
  exact ⟨step_cell hb c0, step_cell hb c1, step_cell hb c2, step_cell hb c3, step_cell hb c4⟩

def PlaceOf (s slots : Int) (p : LPlace) : Prop := (p.kind = 0 ∧ p.n = 0) ∨ isB s slots p = true

def StartsHeld (w : World) (gs : Nat) (s slots : Int) (st : LPlace → Nat) : Prop :=
  gs < w.heap.size ∧ ∀ p, PlaceOf s slots p → 0 ≤ p.n ∧ ∃ rb rl rc, w.cell? ⟨gs, p.kind.toNat, none⟩ = some (.slice (some ⟨rb, 0, none⟩) rl rc) ∧ rb < w.heap.size ∧ p.n < rl ∧ rl ≤ 100 ∧ w.cell? ⟨rb, p.n.toNat, none⟩ = some (.int .i64 (st p))
theorem StartsHeld.later {w w' : World} {gs : Nat} {s slots : Int} {st : LPlace → Nat} (h : StartsHeld w gs s slots st) (hb : Below w.heap.size w w') : StartsHeld w' gs s slots st := by
  refine ⟨Nat.lt_of_lt_of_le h.1 hb.size, fun p hp => ?_⟩
  obtain ⟨h0, rb, rl, rc, h1, h2, h3, h4, h5⟩ := h.2 p hp
  exact ⟨h0, rb, rl, rc, step_cell hb h1, Nat.lt_of_lt_of_le h2 hb.size, h3, h4, step_cell hb h5⟩

theorem place_i64 {s slots : Int} {p : LPlace} (h1 : s ≤ 100) (h2 : slots ≤ 100) (h : PlaceOf s slots p) : I64 p.n := by
  unfold I64
  rcases h with h | h
  · omega
  · rcases is_cases h with h | h | h <;> omega

def SegOk (F : List LFact) (p : LPlace) (a : Nat) : Prop :=
  a ≤ F.length ∧ (∀ i, i < F.length → (F.getD i .zero).pl = p → a ≤ i) ∧ (∀ i j, a ≤ j → j ≤ i → i < F.length → (F.getD i .zero).pl = p → (F.getD j .zero).pl = p)

def setP (F : List LFact) (S : List Bool) (f : LFact) : Prop := ∃ i, i < F.length ∧ F.getD i .zero = f ∧ S.getD i false = true

structure FWorld (w : World) (s slots : Int) (F : List LFact) (ga gs : Nat) (st : LPlace → Nat) : Prop where
  facts : FactsHeld w ga F
  starts : StartsHeld w gs s slots st
  seg : ∀ p, PlaceOf s slots p → SegOk F p (st p)
  sorted : F.Pairwise factLt
  pls : ∀ f, f ∈ F → PlaceOf s slots f.pl
  bd : s ≤ 100 ∧ slots ≤ 100
theorem FWorld.later {w w' : World} {s slots : Int} {F : List LFact} {ga gs : Nat} {st : LPlace → Nat} (h : FWorld w s slots F ga gs st) (hb : Below w.heap.size w w') : FWorld w' s slots F ga gs st := ⟨h.facts.later hb, h.starts.later hb, h.seg, h.sorted, h.pls, h.bd⟩

def fwV (pw pc : Value) (ga nF ca gs cs : Nat) (nv : Value) : Value := .agg #[pw, pc, .slice (some ⟨ga, 0, none⟩) nF ca, .slice (some ⟨gs, 0, none⟩) 4 cs, nv]

def Says8 (s : Bool) (P : Prop) : Prop := s = true ↔ P
def FindAns (F : List LFact) (S : List Bool) (f : LFact) (e : Ending) : Prop := ∃ b, e = .returned (.bool b) ∧ Says8 b (setP F S f)

set_option maxRecDepth 100000 in
set_option maxHeartbeats 1000000 in
theorem find8 (ao0 : Option Addr) (n0 c0 : Nat) (ao1 : Option Addr) (n1 c1 : Nat) (ga ca gs cs : Nat) (ao4 : Option Addr) (n4 c4 : Nat) (s slots : Int) (F : List LFact) (st : LPlace → Nat) (sv : Value) (S : List Bool) (f : LFact) (w : World)
    (h : FWorld w s slots F ga gs st) (hS : BRowIs w sv S) (hl : S.length = F.length) (hf : PlaceOf s slots f.pl) :
    Calls Tryz.prog 56 #[fwV (.slice ao0 n0 c0) (.slice ao1 n1 c1) ga F.length ca gs cs (.slice ao4 n4 c4), sv, f.val] w fun e w' => FindAns F S f e ∧ Below w.heap.size w w' := by
  obtain ⟨p0, rb, rl, rc, k1, k2, k3, k4, k5⟩ := h.starts.2 f.pl hf
  have hgs := h.starts.1
  obtain ⟨sa, sb, sc⟩ := h.seg f.pl hf
  have hga := h.facts.lt
  have hFl := h.facts.len
  have HF : Hid (FactsHeld w ga F) := h.facts
  have HSO : Hid (F.Pairwise factLt) := h.sorted
  obtain ⟨sao, scap, rfl, hsl, hsc⟩ := hS
  have HSC : Hid (0 < S.length → ∃ b o, sao = some ⟨b, o, none⟩ ∧ b < w.heap.size ∧ ∀ j, j < S.length → w.cell? ⟨b, o + j, none⟩ = some (.bool (S.getD j false))) := hsc
  have HSB : Hid (∀ i, i < F.length → (F.getD i .zero).pl = f.pl → st f.pl ≤ i) := sb
  have HSS : Hid (∀ i j, st f.pl ≤ j → j ≤ i → i < F.length → (F.getD i .zero).pl = f.pl → (F.getD j .zero).pl = f.pl) := sc
  obtain ⟨a, ha⟩ : ∃ a, a = st f.pl := ⟨_, rfl⟩
  rw [← ha] at k5 sa HSB HSS
  have x0 : (0 : Int) ≤ f.pl.kind := by rcases hf with hf | hf; omega; rcases is_cases hf with h | h | h <;> omega
  have x1 : f.pl.kind < 4 := by rcases hf with hf | hf; omega; rcases is_cases hf with h | h | h <;> omega
  have x2 : f.pl.n < (rl : Int) := k3
  have x3 : (rl : Int) ≤ 100 := by omega
  have x4 : (F.length : Int) ≤ 100000 := by omega
  clear h hsc sb sc ha k3 k4
  rw [hl]
  have q57 := eqPlace
  have q98 := eqFact
  have g57 : Tryz.prog.eqGuardType Tryz.prog.depth 51 = false := by kernel_rfl
  have g98 : Tryz.prog.eqGuardType Tryz.prog.depth 62 = false := by kernel_rfl
  unfold fwV LFact.val
  go_enter Tryz.func56, Tryz.ntmps56
  go_wp2
  go_quiet (fail)
  go_wp2
  go_loopw [7] (fun iv wr => ∃ i : Nat, iv = .int .i64 i ∧ a ≤ i ∧ i ≤ F.length ∧ Below w.heap.size w wr ∧ (∀ j, a ≤ j → j < i → ¬ F.getD j .zero = f) ∧ wr.cell? ⟨w.heap.size, 2, none⟩ = some (.slice (some ⟨ga, 0, none⟩) F.length ca) ∧
      wr.cell? ⟨w.heap.size + 1, 0, none⟩ = some (.int .i64 f.pl.kind) ∧ wr.cell? ⟨w.heap.size + 1, 1, none⟩ = some (.int .i64 f.pl.n) ∧ wr.cell? ⟨w.heap.size + 1, 2, none⟩ = some (.bool f.temp) ∧ wr.cell? ⟨w.heap.size + 1, 3, none⟩ = some (.int .i64 f.t) ∧ wr.cell? ⟨w.heap.size + 1, 4, none⟩ = some (.int .u32 f.n)) (fun iv _ => F.length - (intOf iv).toNat)
  case atStart =>
    refine ⟨a, rfl, by omega, sa, below_drewN (((Below.refl _ _).alloc (Nat.le_refl _) _).alloc (by simp) _) _, fun j h1 h2 => absurd h2 (by omega), ?_, ?_, ?_, ?_, ?_, ?_⟩
    all_goals exact step_cell (below_drewN (Below.refl _ _) _) (by simp [go_sem])
  case round =>
    clear k1 k2 k5
    obtain ⟨i, rfl, hi1, hi2, hbel, hno, q2, f0, f1, f2, f3, f4⟩ := hrel
    have HB : Hid (Below w.heap.size w wr) := hbel
    have HNO : Hid (∀ j, a ≤ j → j < i → ¬ F.getD j .zero = f) := hno
    have y0 : (0 : Int) ≤ (i : Int) := by omega
    clear hno
    by_cases hlt : i < F.length
    case neg =>
      have y1 : ¬ (i : Int) < (F.length : Int) := by omega
      clear hbel
      go_wp2
      go_quiet (fail)
      go_wp2
      go_ret
      refine ⟨⟨false, rfl, ⟨fun h => absurd h (by simp), ?_⟩⟩, below_drewN HB.out _⟩
      rintro ⟨j, hj, he, _⟩
      exact absurd he (HNO.out j (HSB.out j hj (by rw [he])) (by omega))
    have y1 : (i : Int) < (F.length : Int) := by omega
    obtain ⟨e0, e1, e2, e3, e4⟩ := (HF.out.later hbel).cells i hlt
    obtain ⟨g, hg⟩ : ∃ g, g = F.getD i .zero := ⟨_, rfl⟩
    rw [← hg] at e0 e1 e2 e3 e4
    have HG : Hid (F.getD i .zero = g) := hg.symm
    clear hg hbel
    go_wp2
    go_quiet (fail)
    have hpl : (g.pl.kind == f.pl.kind && g.pl.n == f.pl.n) = true ↔ g.pl = f.pl := by
      rw [Bool.and_eq_true, beq_iff_eq, beq_iff_eq]
      exact ⟨fun h => pl_ext h.1 h.2, fun h => by rw [h]; exact ⟨rfl, rfl⟩⟩
    have hsf : (g.pl.kind == f.pl.kind && g.pl.n == f.pl.n && g.temp == f.temp && g.t == f.t && g.n == f.n) = true ↔ g = f := sameF_iff
    rcases Bool.eq_false_or_eq_true (g.pl.kind == f.pl.kind && g.pl.n == f.pl.n) with hc | hc
    rotate_left
    · rw [hc]
      have HNE : Hid (¬ g.pl = f.pl) := fun e => by have := hpl.2 e; rw [hc] at this; exact absurd this (by simp)
      clear hpl hsf
      go_wp2
      go_ret
      refine ⟨⟨false, rfl, ⟨fun h => absurd h (by simp), ?_⟩⟩, below_drewN HB.out _⟩
      rintro ⟨j, hj, he, _⟩
      have ha := HSB.out j hj (by rw [he])
      by_cases hji : j < i
      · exact absurd he (HNO.out j ha hji)
      · have := HSS.out j i (by omega) (by omega) hj (by rw [he])
        rw [HG.out] at this
        exact absurd this HNE.out
    · have HSF : Hid ((g.pl.kind == f.pl.kind && g.pl.n == f.pl.n && g.temp == f.temp && g.t == f.t && g.n == f.n) = true ↔ g = f) := hsf
      rw [hc]
      clear hpl hsf hc
      go_wp2
      go_quiet (fail)
      rcases Bool.eq_false_or_eq_true (g.pl.kind == f.pl.kind && g.pl.n == f.pl.n && g.temp == f.temp && g.t == f.t && g.n == f.n) with hd | hd
      · rw [hd]
        have hgf := HSF.out.1 hd
        obtain ⟨sb, so, rfl, hsb, hscell⟩ := HSC.out (by omega)
        obtain ⟨u, hu⟩ : ∃ u, u = S.getD i false := ⟨_, rfl⟩
        have ci : ∀ m, (wr.drewN m).cell? ⟨sb, so + i, none⟩ = some (.bool u) := fun m => by rw [hu]; exact step_cell (below_drewN HB.out m) (hscell i (by omega))
        have HU : Hid (S.getD i false = u) := hu.symm
        clear hu
        have HGF : Hid (g = f) := hgf
        clear hgf hscell hd
        go_wp2
        go_ret
        refine ⟨⟨u, rfl, ⟨fun h => ⟨i, hlt, by rw [HG.out]; exact HGF.out, HU.out.trans h⟩, ?_⟩⟩, below_drewN HB.out _⟩
        rintro ⟨j, hj, he, ht⟩
        have e1 : F[j]? = some f := by rw [← he]; simp [List.getD, hj]
        have e2 : F[i]? = some f := by rw [← HGF.out, ← HG.out]; simp [List.getD, hlt]
        rw [← HU.out, ← sorted_inj HSO.out e1 e2]
        exact ht
      · rw [hd]
        have HNE : Hid (¬ g = f) := fun e => by have := HSF.out.2 e; rw [hd] at this; exact absurd this (by simp)
        clear hd
        go_wp2
        refine ⟨⟨i + 1, by go_num, by omega, by omega, below_drewN HB.out _, fun j h1 h2 => ?_, q2, f0, f1, f2, f3, f4⟩, by simp [intOf]; omega⟩
        by_cases e : j < i
        · exact HNO.out j h1 e
        · obtain rfl : j = i := by omega
          rw [HG.out]
          exact HNE.out

end Go.Proofs.YtcmnmogmdhofcaaGreat.form

/- The document's function that holds rows of facts against others (loanbookref8.Same): of the same ones it answers yes. -/
namespace Go.Proofs.YtcmnmogmdhofcaaGreat.form
open Go.RowKit
set_option linter.unusedVariables false
attribute [local go_sem ↓] Go.wp_at_zero Go.wp_at_succ

theorem neqFact (w : World) (a b t n a' b' t' n' : Int) (x x' : Bool) : (binOp .neq 62 (.agg #[.int .i64 a, .int .i64 b, .bool x, .int .i64 t, .int .u32 n]) (.agg #[.int .i64 a', .int .i64 b', .bool x', .int .i64 t', .int .u32 n'])).run Tryz.prog w = .ok (.bool (!((a == a') && (b == b') && (x == x') && (t == t') && (n == n')))) w := by
  have hu := Tryz.underlying62
  have hu2 := Tryz.underlying51
  have h3 : Tryz.prog.underlying 3 = some (.int .i64) := Tryz.underlying3
  have h4 : Tryz.prog.underlying 4 = some .bool := Tryz.underlying4
  have h5 : Tryz.prog.underlying 47 = some (.int .u32) := Tryz.underlying47
  have hin : ∀ wx : World, (Op.equalIn 9999 51 (.agg #[.int .i64 a, .int .i64 b]) (.agg #[.int .i64 a', .int .i64 b'])).run Tryz.prog wx = .ok ((a == a') && (b == b')) wx := by
    intro wx
    rw [run_equalIn_agg wx 9998 51 _ _ (by kernel_rfl) (by kernel_rfl)]
    simp [go_sem, Program.fieldsOf, hu2]
    by_cases e1 : a = a' <;> by_cases e2 : b = b' <;> simp [e1, e2]
  rw [run_neq_struct, run_equalIn_agg w 9999 62 _ _ (by kernel_rfl) (by kernel_rfl)]
  simp [go_sem, Program.fieldsOf, hu, hin]
  by_cases e1 : a = a' <;> by_cases e2 : b = b' <;> by_cases e3 : x = x' <;> by_cases e4 : t = t' <;> by_cases e5 : n = n' <;> simp [e1, e2, e3, e4, e5]

def FRowIs (w : World) (v : Value) (l : List LFact) : Prop :=
  ∃ ao cap, v = .slice ao l.length cap ∧ l.length ≤ 1000000 ∧ (0 < l.length → ∃ b o, ao = some ⟨b, o, none⟩ ∧ b < w.heap.size ∧ ∀ k, k < l.length → w.cell? ⟨b, o + k * 5, none⟩ = some (.int .i64 (l.getD k .zero).pl.kind) ∧ w.cell? ⟨b, o + k * 5 + 1, none⟩ = some (.int .i64 (l.getD k .zero).pl.n) ∧ w.cell? ⟨b, o + k * 5 + 2, none⟩ = some (.bool (l.getD k .zero).temp) ∧ w.cell? ⟨b, o + k * 5 + 3, none⟩ = some (.int .i64 (l.getD k .zero).t) ∧ w.cell? ⟨b, o + k * 5 + 4, none⟩ = some (.int .u32 (l.getD k .zero).n))
def FMatIs (w : World) (v : Value) (R : List (List LFact)) : Prop :=
  ∃ ao cap, v = .slice ao R.length cap ∧ R.length ≤ 1000000 ∧ (0 < R.length → ∃ b o, ao = some ⟨b, o, none⟩ ∧ b < w.heap.size ∧ ∀ k, k < R.length → ∃ rv, w.cell? ⟨b, o + k, none⟩ = some rv ∧ FRowIs w rv (R.getD k []))

set_option maxRecDepth 100000 in
set_option maxHeartbeats 1000000 in
theorem same8 (va vb : Value) (R : List (List LFact)) (w : World) (h1 : FMatIs w va R) (h2 : FMatIs w vb R) :
    Calls Tryz.prog 6 #[va, vb] w fun e w' => e = .returned (.bool true) ∧ Below w.heap.size w w' := by
  obtain ⟨ao, ca, rfl, hlR, hc1⟩ := h1
  obtain ⟨bo, cb, rfl, -, hc2⟩ := h2
  have HC1 : Hid _ := hc1
  have HC2 : Hid _ := hc2
  have z1 : (R.length : Int) ≤ 1000000 := by omega
  have q98 := neqFact
  have g98 : Tryz.prog.eqGuardType Tryz.prog.depth 62 = false := by kernel_rfl
  clear hc1 hc2
  go_enter Tryz.func6, Tryz.ntmps6
  go_wp2
  go_loopw [5] (fun t wr => ∃ k : Nat, k ≤ R.length ∧ t = .int .i64 k ∧ Below w.heap.size w wr) (fun t _ => R.length - (intOf t).toNat)
  case atStart => exact ⟨0, by omega, rfl, Below.refl _ _⟩
  case round =>
    obtain ⟨k, hk, rfl, hbel⟩ := hrel
    have HB : Hid (Below w.heap.size w wr) := hbel
    clear hbel
    by_cases hlt : k < R.length
    case neg =>
      have y1 : ¬ (k : Int) < (R.length : Int) := by omega
      go_wp2
      go_ret
      exact ⟨rfl, HB.out⟩
    obtain ⟨ba, oa, rfl, hba, hcell1⟩ := HC1.out (by omega)
    obtain ⟨bb, ob, rfl, hbb, hcell2⟩ := HC2.out (by omega)
    obtain ⟨ra, hx1, hr1⟩ := hcell1 k hlt
    obtain ⟨rb, hx2, hr2⟩ := hcell2 k hlt
    obtain ⟨l, hl⟩ : ∃ l, l = R.getD k [] := ⟨_, rfl⟩
    rw [← hl] at hr1 hr2
    obtain ⟨ar, cr, rfl, hll, hcr1⟩ := hr1
    obtain ⟨br, cs, rfl, -, hcr2⟩ := hr2
    have x1 := step_cell HB.out hx1
    have x2 := step_cell HB.out hx2
    have HX1 : Hid (w.cell? ⟨ba, oa + k, none⟩ = some (.slice ar l.length cr)) := hx1
    have HX2 : Hid (w.cell? ⟨bb, ob + k, none⟩ = some (.slice br l.length cs)) := hx2
    have HR1 : Hid _ := hcr1
    have HR2 : Hid _ := hcr2
    have y1 : (k : Int) < (R.length : Int) := by omega
    have y0 : (0 : Int) ≤ (k : Int) := by omega
    have z2 : (l.length : Int) ≤ 1000000 := by omega
    have e3 : ((l.length : Int) != (l.length : Int)) = false := by simp
    clear hl hcell1 hcell2 hcr1 hcr2 hx1 hx2
    go_wp2
    go_quiet (fail)
    go_wp2
    go_loopw [6] (fun t wr2 => ∃ j : Nat, j ≤ l.length ∧ t = .int .i64 j ∧ Below w.heap.size w wr2) (fun t _ => l.length - (intOf t).toNat)
    case atStart => exact ⟨0, by omega, rfl, below_drewN HB.out _⟩
    case round =>
      obtain ⟨j, hj, rfl, hbel⟩ := hrel
      have HB2 : Hid (Below w.heap.size w wr) := hbel
      have v1 := step_cell hbel HX1.out
      have v2 := step_cell hbel HX2.out
      clear hbel x1 x2
      by_cases hjl : j < l.length
      · obtain ⟨b3, o3, rfl, _, q1⟩ := HR1.out (by omega)
        obtain ⟨b4, o4, rfl, _, q2⟩ := HR2.out (by omega)
        obtain ⟨u0, u1, u2, u3, u4⟩ := q1 j hjl
        obtain ⟨t0, t1, t2, t3, t4⟩ := q2 j hjl
        have u0 := step_cell HB2.out u0
        have u1 := step_cell HB2.out u1
        have u2 := step_cell HB2.out u2
        have u3 := step_cell HB2.out u3
        have u4 := step_cell HB2.out u4
        have t0 := step_cell HB2.out t0
        have t1 := step_cell HB2.out t1
        have t2 := step_cell HB2.out t2
        have t3 := step_cell HB2.out t3
        have t4 := step_cell HB2.out t4
        generalize l.getD j .zero = f at u0 u1 u2 u3 u4 t0 t1 t2 t3 t4
        have es : (f.pl.kind == f.pl.kind && f.pl.n == f.pl.n && f.temp == f.temp && f.t == f.t && f.n == f.n) = true := by simp
        have y2 : (j : Int) < (l.length : Int) := by omega
        have y3 : (0 : Int) ≤ (j : Int) := by omega
        clear q1 q2
        go_wp2
        go_quiet (fail)
        go_wp2
        exact ⟨⟨j + 1, by omega, by go_num, below_drewN HB2.out _⟩, by simp [intOf]; omega⟩
      · have y2 : ¬ (j : Int) < (l.length : Int) := by omega
        go_wp2
        exact ⟨⟨k + 1, by omega, by go_num, HB2.out⟩, by simp [intOf]; omega⟩

end Go.Proofs.YtcmnmogmdhofcaaGreat.form

/- What is known behind a move, fact by fact (loanbookref8.World.Move). -/
namespace Go.Proofs.YtcmnmogmdhofcaaGreat.form
open Go.RowKit Go.Proofs.YtcmnmogmdhofcaaGreat.num
set_option linter.unusedVariables false
attribute [local go_sem ↓] Go.wp_at_zero Go.wp_at_succ

structure OutS (w : World) (boxes : List (Nat × TypeId × List Value)) (bo : Nat) (O : List Bool) (wr : World) : Prop where
  bel : Below w.heap.size w wr
  bx : ∀ x, x ∈ boxes → Row wr x.1 x.2.1 x.2.2
  ro : Row wr bo 4 (O.map Value.bool)
theorem OutS.below {w wr w1 : World} {boxes : List (Nat × TypeId × List Value)} {bo : Nat} {O : List Bool} (h : OutS w boxes bo O wr) (hb : Below wr.heap.size wr w1) : OutS w boxes bo O w1 :=
  ⟨step_below hb h.bel, fun x hx => (h.bx x hx).below hb, h.ro.below hb⟩
theorem OutS.set {w wr : World} {boxes : List (Nat × TypeId × List Value)} {bo : Nat} {O : List Bool} (h : OutS w boxes bo O wr) (hne : ∀ x, x ∈ boxes → x.1 ≠ bo) (hbo : w.heap.size ≤ bo) (i : Nat) (b : Bool) : OutS w boxes bo (O.set i b) (wr.setCell ⟨bo, i, none⟩ (.bool b)) :=
  ⟨h.bel.setCell hbo _, fun x hx => (h.bx x hx).other (hne x hx) _, by have := h.ro.set i (.bool b); simpa [List.map_set] using this⟩

def MarksOf (F : List LFact) (K : LFact → Prop) (k : Nat) (O : List Bool) : Prop := O.length = F.length ∧ ∀ j, j < k → (O.getD j false = true ↔ K (F.getD j .zero))
theorem MarksOf.step {F : List LFact} {K : LFact → Prop} {i : Nat} {O : List Bool} {b : Bool} (h : MarksOf F K i O) (hi : i < F.length) (hb : b = true ↔ K (F.getD i .zero)) : MarksOf F K (i + 1) (O.set i b) := by
  refine ⟨by simp [h.1], fun j hj => ?_⟩
  by_cases e : j = i
  · subst e
    rw [show (O.set j b).getD j false = b by simp [List.getD, h.1, hi]]
    exact hb
  · rw [show (O.set i b).getD j false = O.getD j false by simp [List.getD, Ne.symm e]]
    exact h.2 j (by omega)
theorem MarksOf.skip {F : List LFact} {K : LFact → Prop} {i : Nat} {O : List Bool} (h : MarksOf F K i O) (h0 : O.getD i false = false) (hb : ¬ K (F.getD i .zero)) : MarksOf F K (i + 1) O := by
  refine ⟨h.1, fun j hj => ?_⟩
  by_cases e : j = i
  · subst e
    rw [h0]
    exact ⟨fun h => absurd h (by simp), fun h => absurd h hb⟩
  · exact h.2 j (by omega)

def MarksAt (F : List LFact) (b : Nat) (O : List Bool) (w : World) : Prop := b < w.heap.size ∧ ∀ j, j < F.length → w.cell? ⟨b, j, none⟩ = some (.bool (O.getD j false))
theorem MarksAt.row {F : List LFact} {b : Nat} {O : List Bool} {w : World} (h : MarksAt F b O w) (hl : O.length = F.length) (hF : F.length ≤ 100000) : BRowIs w (.slice (some ⟨b, 0, none⟩) F.length F.length) O :=
  ⟨some ⟨b, 0, none⟩, F.length, by rw [hl], by omega, fun _ => ⟨b, 0, rfl, h.1, fun j hj => by rw [Nat.zero_add]; exact h.2 j (by omega)⟩⟩

def SetAns (F : List LFact) (K : LFact → Prop) (lo : Nat) (e : Ending) (w : World) : Prop := ∃ b O, e = .returned (.slice (some ⟨b, 0, none⟩) F.length F.length) ∧ lo ≤ b ∧ MarksAt F b O w ∧ MarksOf F K F.length O

theorem setP_at {F : List LFact} {S : List Bool} (hso : F.Pairwise factLt) {i : Nat} (hi : i < F.length) : setP F S (F.getD i .zero) ↔ S.getD i false = true := by
  constructor
  · rintro ⟨j, hj, he, ht⟩
    have e1 : F[j]? = some (F.getD i .zero) := by rw [← he]; simp [List.getD, hj]
    have e2 : F[i]? = some (F.getD i .zero) := by simp [List.getD, hi]
    rw [← sorted_inj hso e1 e2]; exact ht
  · exact fun h => ⟨i, hi, rfl, h⟩

theorem moveK_stay {F : List LFact} {m : LMove} {K : LFact → Prop} {f : LFact} (hF : f ∈ F) (h : f.pl.kind = 0 ∨ overB f.pl m.dst = false) : moveK (· ∈ F) m K f ↔ K f := by
  unfold moveK
  rw [if_pos h]
  exact ⟨fun h => h.2, fun h => ⟨hF, h⟩⟩
theorem moveK_off {F : List LFact} {m : LMove} {K : LFact → Prop} {f : LFact} (h : ¬ (f.pl.kind = 0 ∨ overB f.pl m.dst = false)) (hp : samePl f.pl m.dst = false) : ¬ moveK (· ∈ F) m K f := by
  unfold moveK
  rw [if_neg h, hp]
  exact fun h => absurd h.2.1 (by simp)
theorem moveK_from {F : List LFact} {m : LMove} {K : LFact → Prop} {f : LFact} (hF : f ∈ F) (h : ¬ (f.pl.kind = 0 ∨ overB f.pl m.dst = false)) (hp : samePl f.pl m.dst = true) (hc : m.cst = false) : moveK (· ∈ F) m K f ↔ K ⟨m.src, f.temp, f.t, f.n⟩ := by
  unfold moveK
  rw [if_neg h, if_pos hc]
  exact ⟨fun h => h.2.2, fun h => ⟨hF, hp, h⟩⟩
theorem moveK_temp {F : List LFact} {m : LMove} {K : LFact → Prop} {f : LFact} (hF : f ∈ F) (h : ¬ (f.pl.kind = 0 ∨ overB f.pl m.dst = false)) (hp : samePl f.pl m.dst = true) (hc : m.cst = true) (ht : f.temp = true) : moveK (· ∈ F) m K f ↔ K (zeroAt f.t m.n) := by
  unfold moveK
  rw [if_neg h, if_neg (by simp [hc]), if_pos ht]
  exact ⟨fun h => h.2.2, fun h => ⟨hF, hp, h⟩⟩
theorem moveK_num {F : List LFact} {m : LMove} {K : LFact → Prop} {f : LFact} (hF : f ∈ F) (h : ¬ (f.pl.kind = 0 ∨ overB f.pl m.dst = false)) (hp : samePl f.pl m.dst = true) (hc : m.cst = true) (ht : f.temp = false) : moveK (· ∈ F) m K f ↔ f.n = m.n := by
  unfold moveK
  rw [if_neg h, if_neg (by simp [hc]), if_neg (by simp [ht])]
  exact ⟨fun h => h.2.2, fun h => ⟨hF, hp, h⟩⟩

set_option maxRecDepth 100000 in
set_option maxHeartbeats 2000000 in
theorem move8 (ao0 : Option Addr) (n0 c0 : Nat) (ao1 : Option Addr) (n1 c1 : Nat) (ga ca gs cs : Nat) (ao4 : Option Addr) (n4 c4 : Nat) (s slots : Int) (F : List LFact) (st : LPlace → Nat) (sv : Value) (S : List Bool) (m : LMove) (w : World)
    (h : FWorld w s slots F ga gs st) (hS : BRowIs w sv S) (hl : S.length = F.length) (hm : m.cst = false → PlaceOf s slots m.src) (hmd : PlaceOf s slots m.dst) :
    Calls Tryz.prog 54 #[fwV (.slice ao0 n0 c0) (.slice ao1 n1 c1) ga F.length ca gs cs (.slice ao4 n4 c4), sv, m.val] w fun e w' => SetAns F (moveK (· ∈ F) m (setP F S)) w.heap.size e w' ∧ Below w.heap.size w w' := by
  have HFW : Hid (FWorld w s slots F ga gs st) := h
  have HSV : Hid (BRowIs w sv S) := hS
  have HMS : Hid (m.cst = false → PlaceOf s slots m.src) := hm
  have HFD : Hid (∀ (wx : World) (f : LFact), Below w.heap.size w wx → PlaceOf s slots f.pl → Calls Tryz.prog 56 #[.agg #[.slice ao0 n0 c0, .slice ao1 n1 c1, .slice (some ⟨ga, 0, none⟩) F.length ca, .slice (some ⟨gs, 0, none⟩) 4 cs, .slice ao4 n4 c4], sv, .agg #[.int .i64 f.pl.kind, .int .i64 f.pl.n, .bool f.temp, .int .i64 f.t, .int .u32 f.n]] wx fun e w' => FindAns F S f e ∧ Below wx.heap.size wx w') :=
    fun wx f hb hf => find8 ao0 n0 c0 ao1 n1 c1 ga ca gs cs ao4 n4 c4 s slots F st sv S f wx (h.later hb) (hS.later hb) hl hf
  have HOV : Hid (∀ (wx : World) (f : LFact), f ∈ F → Calls Tryz.prog 74 #[.agg #[.int .i64 f.pl.kind, .int .i64 f.pl.n], .agg #[.int .i64 m.dst.kind, .int .i64 m.dst.n]] wx fun e w' => e = .returned (.bool (overB f.pl m.dst)) ∧ Below wx.heap.size wx w') := fun wx f hf => overlap6 f.pl m.dst (place_i64 h.bd.1 h.bd.2 (h.pls f hf)) (place_i64 h.bd.1 h.bd.2 hmd) wx
  have HPL : Hid (∀ f, f ∈ F → PlaceOf s slots f.pl) := h.pls
  have hga := h.facts.lt
  have hFl := h.facts.len
  have x4 : (F.length : Int) ≤ 100000 := by omega
  have HSO : Hid (F.Pairwise factLt) := h.sorted
  obtain ⟨sao, scap, rfl, hsl, hsc⟩ := hS
  have HSC : Hid (0 < S.length → ∃ b o, sao = some ⟨b, o, none⟩ ∧ b < w.heap.size ∧ ∀ j, j < S.length → w.cell? ⟨b, o + j, none⟩ = some (.bool (S.getD j false))) := hsc
  have hmk := fun wx => run_make_row' (P := Tryz.prog) 22 4 (.bool false) 1 Tryz.underlying22 infBool rfl .i64 .i64 F.length (by omega) (by omega) wx
  have q57 := neqPlace
  have g57 : Tryz.prog.eqGuardType Tryz.prog.depth 51 = false := by kernel_rfl
  clear h hsc hm
  rw [hl] at HFD ⊢
  unfold fwV LMove.val
  go_enter Tryz.func54, Tryz.ntmps54
  go_wp2
  go_loopw [8] (fun iv wr => ∃ (i : Nat) (O : List Bool), iv = .int .i64 i ∧ i ≤ F.length ∧ MarksOf F (moveK (· ∈ F) m (setP F S)) i O ∧ (∀ j, i ≤ j → O.getD j false = false) ∧ OutS w [(w.heap.size, 66, [.slice ao0 n0 c0, .slice ao1 n1 c1, .slice (some ⟨ga, 0, none⟩) F.length ca, .slice (some ⟨gs, 0, none⟩) 4 cs, .slice ao4 n4 c4]), (w.heap.size + 1, 94, [.int .i64 m.dst.kind, .int .i64 m.dst.n, .int .i64 m.src.kind, .int .i64 m.src.n, .bool m.cst, .int .u32 m.n])] (w.heap.size + 1 + 1) O wr) (fun iv _ => F.length - (intOf iv).toNat)
  case atStart =>
    refine ⟨0, List.replicate F.length false, rfl, by omega, ⟨by simp, fun j hj => absurd hj (by omega)⟩, fun j _ => ?_, ?_⟩
    · by_cases hj : j < F.length <;> simp [List.getD, hj]
    rw [made_bool]
    refine ⟨(((Below.refl _ _).alloc (Nat.le_refl _) _).alloc (by simp) _).alloc (by simp; omega) _, ?_, ?_⟩
    · intro x hx
      simp only [List.mem_cons, List.not_mem_nil, or_false] at hx
      rcases hx with rfl | rfl
      · exact ((Row.new w _ _).alloc _).alloc _
      · have := (Row.new (w.alloc (.cells #[.slice ao0 n0 c0, .slice ao1 n1 c1, .slice (some ⟨ga, 0, none⟩) F.length ca, .slice (some ⟨gs, 0, none⟩) 4 cs, .slice ao4 n4 c4] 66)) 94 [.int .i64 m.dst.kind, .int .i64 m.dst.n, .int .i64 m.src.kind, .int .i64 m.src.n, .bool m.cst, .int .u32 m.n]).alloc (.cells ((List.replicate F.length false).map Value.bool).toArray 4)
        simpa using this
    · have := Row.new ((w.alloc (.cells #[.slice ao0 n0 c0, .slice ao1 n1 c1, .slice (some ⟨ga, 0, none⟩) F.length ca, .slice (some ⟨gs, 0, none⟩) 4 cs, .slice ao4 n4 c4] 66)).alloc (.cells #[.int .i64 m.dst.kind, .int .i64 m.dst.n, .int .i64 m.src.kind, .int .i64 m.src.n, .bool m.cst, .int .u32 m.n] 94)) 4 ((List.replicate F.length false).map Value.bool)
      simpa using this
  case round =>
    obtain ⟨i, O, rfl, hi, hO, hO0, ho⟩ := hrel
    have HO : Hid (MarksOf F (moveK (· ∈ F) m (setP F S)) i O) := hO
    have HO0 : Hid (∀ j, i ≤ j → O.getD j false = false) := hO0
    have HOS : Hid _ := ho
    have hOl : O.length = F.length := hO.1
    have hbel := ho.bel
    have HB : Hid (Below w.heap.size w wr) := hbel
    clear hO hO0
    by_cases hlt : i < F.length
    case neg =>
      have y1 : ¬ (i : Int) < (F.length : Int) := by omega
      clear hbel ho
      go_wp2
      go_ret
      refine ⟨⟨w.heap.size + 1 + 1, O, rfl, by omega, ⟨HOS.out.ro.lt, fun j hj => ?_⟩, ?_⟩, HB.out⟩
      · rw [HOS.out.ro.cell]; simp [List.getD, hj, hOl]
      · obtain rfl : i = F.length := by omega
        exact HO.out
    have y1 : (i : Int) < (F.length : Int) := by omega
    have y0 : (0 : Int) ≤ (i : Int) := by omega
    obtain ⟨e0, e1, e2, e3, e4⟩ := (HFW.out.facts.later hbel).cells i hlt
    have hfm : F.getD i .zero ∈ F := by simp [List.getD, hlt]
    have hsat := setP_at (S := S) HSO.out hlt
    have hstep : ∀ b : Bool, (b = true ↔ moveK (· ∈ F) m (setP F S) (F.getD i .zero)) → MarksOf F (moveK (· ∈ F) m (setP F S)) (i + 1) (O.set i b) := fun b hb => HO.out.step hlt hb
    have hskip : ¬ moveK (· ∈ F) m (setP F S) (F.getD i .zero) → MarksOf F (moveK (· ∈ F) m (setP F S)) (i + 1) O := fun hb => HO.out.skip (HO0.out i (Nat.le_refl _)) hb
    have hrest : ∀ b : Bool, ∀ j, i + 1 ≤ j → (O.set i b).getD j false = false := fun b j hj => by
      rw [show (O.set i b).getD j false = O.getD j false by simp [List.getD, show ¬ i = j by omega]]
      exact HO0.out j (by omega)
    have hrest2 : ∀ j, i + 1 ≤ j → O.getD j false = false := fun j hj => HO0.out j (by omega)
    obtain ⟨f, hf⟩ : ∃ f, f = F.getD i .zero := ⟨_, rfl⟩
    rw [← hf] at e0 e1 e2 e3 e4 hfm hsat hstep hskip
    have HSAT : Hid (setP F S f ↔ S.getD i false = true) := hsat
    have HSTEP : Hid (∀ b : Bool, (b = true ↔ moveK (· ∈ F) m (setP F S) f) → MarksOf F (moveK (· ∈ F) m (setP F S)) (i + 1) (O.set i b)) := hstep
    have HSKIP : Hid (¬ moveK (· ∈ F) m (setP F S) f → MarksOf F (moveK (· ∈ F) m (setP F S)) (i + 1) O) := hskip
    have HREST : Hid (∀ b : Bool, ∀ j, i + 1 ≤ j → (O.set i b).getD j false = false) := hrest
    have HREST2 : Hid (∀ j, i + 1 ≤ j → O.getD j false = false) := hrest2
    have HFM : Hid (f ∈ F) := hfm
    have rW : Row wr w.heap.size 66 [.slice ao0 n0 c0, .slice ao1 n1 c1, .slice (some ⟨ga, 0, none⟩) F.length ca, .slice (some ⟨gs, 0, none⟩) 4 cs, .slice ao4 n4 c4] := ho.bx (w.heap.size, 66, _) (by simp)
    have rM : Row wr (w.heap.size + 1) 94 [.int .i64 m.dst.kind, .int .i64 m.dst.n, .int .i64 m.src.kind, .int .i64 m.src.n, .bool m.cst, .int .u32 m.n] := ho.bx (w.heap.size + 1, 94, _) (by simp)
    have HRW : Hid (Row wr w.heap.size 66 [.slice ao0 n0 c0, .slice ao1 n1 c1, .slice (some ⟨ga, 0, none⟩) F.length ca, .slice (some ⟨gs, 0, none⟩) 4 cs, .slice ao4 n4 c4]) := rW
    have HRM : Hid (Row wr (w.heap.size + 1) 94 [.int .i64 m.dst.kind, .int .i64 m.dst.n, .int .i64 m.src.kind, .int .i64 m.src.n, .bool m.cst, .int .u32 m.n]) := rM
    have W2 : wr.cell? ⟨w.heap.size, 2, none⟩ = some (.slice (some ⟨ga, 0, none⟩) F.length ca) := rW.cell 2
    have M0 : wr.cell? ⟨w.heap.size + 1, 0, none⟩ = some (.int .i64 m.dst.kind) := rM.cell 0
    have M1 : wr.cell? ⟨w.heap.size + 1, 1, none⟩ = some (.int .i64 m.dst.n) := rM.cell 1
    have hz3 := ho.ro.lt
    have z0 : w.heap.size < wr.heap.size := by omega
    have z1 : w.heap.size + 1 < wr.heap.size := by omega
    obtain ⟨sb, so, rfl, hsb, hscell⟩ := HSC.out (by omega)
    have ci := step_cell hbel (hscell i (by omega))
    have hsb2 : sb < wr.heap.size := by omega
    obtain ⟨u, hu⟩ : ∃ u, u = S.getD i false := ⟨_, rfl⟩
    rw [← hu] at ci HSAT
    have fz := ho.ro.frozen i
    have co : wr.cell? ⟨w.heap.size + 1 + 1, i, none⟩ = some (.bool (O.getD i false)) := by rw [ho.ro.cell]; simp [List.getD, hOl, hlt]
    generalize O.getD i false = oi at co
    have hne : ∀ x, x ∈ [(w.heap.size, (66 : TypeId), [Value.slice ao0 n0 c0, .slice ao1 n1 c1, .slice (some ⟨ga, 0, none⟩) F.length ca, .slice (some ⟨gs, 0, none⟩) 4 cs, .slice ao4 n4 c4]), (w.heap.size + 1, 94, [.int .i64 m.dst.kind, .int .i64 m.dst.n, .int .i64 m.src.kind, .int .i64 m.src.n, .bool m.cst, .int .u32 m.n])] → x.1 ≠ w.heap.size + 1 + 1 := by
      intro x hx
      simp only [List.mem_cons, List.not_mem_nil, or_false] at hx
      rcases hx with rfl | rfl
      · show w.heap.size ≠ w.heap.size + 1 + 1; omega
      · show w.heap.size + 1 ≠ w.heap.size + 1 + 1; omega
    have HNE : Hid _ := hne
    clear hf hfm hsat hstep hskip hrest hrest2 rW rM hscell hu hne hbel ho
    by_cases h0 : f.pl.kind = 0
    · have k0 : (f.pl.kind == 0) = true := by simp [h0]
      have HK : Hid (u = true ↔ moveK (· ∈ F) m (setP F S) f) := by show _ ↔ _; rw [moveK_stay HFM.out (Or.inl h0), HSAT.out]
      clear h0
      go_wp2
      refine ⟨⟨i + 1, O.set i u, by go_num, by omega, HSTEP.out u HK.out, HREST.out u, ?_⟩, by simp [intOf]; omega⟩
      exact (HOS.out.set HNE.out (by omega) i u).below ((Below.refl _ _).alloc (Nat.le_refl _) _)
    · have k0 : (f.pl.kind == 0) = false := by simp [h0]
      cases hov : overB f.pl m.dst with
      | false =>
        have HOB : Hid (overB f.pl m.dst = false) := hov
        have HK : Hid (u = true ↔ moveK (· ∈ F) m (setP F S) f) := by show _ ↔ _; rw [moveK_stay HFM.out (Or.inr hov), HSAT.out]
        clear h0 hov
        go_wp2_with (go_at_call 74; refine (HOV.out _ f HFM.out).mono ?_; rw [HOB.out]; rintro e w2 ⟨rfl, hb2⟩; have HB2 : Hid (Below wr.heap.size wr w2) := over_alloc hb2; have HRF : Hid (Row w2 wr.heap.size 62 [.int .i64 f.pl.kind, .int .i64 f.pl.n, .bool f.temp, .int .i64 f.t, .int .u32 f.n]) := (Row.new wr _ _).below hb2; have G0 : w2.cell? ⟨wr.heap.size, 0, none⟩ = some (.int .i64 f.pl.kind) := HRF.out.cell 0; have G1 : w2.cell? ⟨wr.heap.size, 1, none⟩ = some (.int .i64 f.pl.n) := HRF.out.cell 1; have G2 : w2.cell? ⟨wr.heap.size, 2, none⟩ = some (.bool f.temp) := HRF.out.cell 2; have G3 : w2.cell? ⟨wr.heap.size, 3, none⟩ = some (.int .i64 f.t) := HRF.out.cell 3; have G4 : w2.cell? ⟨wr.heap.size, 4, none⟩ = some (.int .u32 f.n) := HRF.out.cell 4; have ci2 := step_cell HB2.out ci; have hz22 := HB2.out.size; have zf : wr.heap.size < w2.heap.size := HRF.out.lt; have z02 : w.heap.size < w2.heap.size := (by omega); have z12 : w.heap.size + 1 < w2.heap.size := (by omega); have z22 : w.heap.size + 1 + 1 < w2.heap.size := (by omega); clear hz22; have co2 := step_cell HB2.out co; have fz2 := (HOS.out.ro.below HB2.out).frozen i; have N0 := step_cell HB2.out M0; have N1 := step_cell HB2.out M1; have N2 : w2.cell? ⟨w.heap.size + 1, 2, none⟩ = some (.int .i64 m.src.kind) := step_cell HB2.out (HRM.out.cell 2); have N3 : w2.cell? ⟨w.heap.size + 1, 3, none⟩ = some (.int .i64 m.src.n) := step_cell HB2.out (HRM.out.cell 3); have N4 : w2.cell? ⟨w.heap.size + 1, 4, none⟩ = some (.bool m.cst) := step_cell HB2.out (HRM.out.cell 4); have N5 : w2.cell? ⟨w.heap.size + 1, 5, none⟩ = some (.int .u32 m.n) := step_cell HB2.out (HRM.out.cell 5); have V0 : w2.cell? ⟨w.heap.size, 0, none⟩ = some (.slice ao0 n0 c0) := step_cell HB2.out (HRW.out.cell 0); have V1 : w2.cell? ⟨w.heap.size, 1, none⟩ = some (.slice ao1 n1 c1) := step_cell HB2.out (HRW.out.cell 1); have V2 : w2.cell? ⟨w.heap.size, 2, none⟩ = some (.slice (some ⟨ga, 0, none⟩) F.length ca) := step_cell HB2.out (HRW.out.cell 2); have V3 : w2.cell? ⟨w.heap.size, 3, none⟩ = some (.slice (some ⟨gs, 0, none⟩) 4 cs) := step_cell HB2.out (HRW.out.cell 3); have V4 : w2.cell? ⟨w.heap.size, 4, none⟩ = some (.slice ao4 n4 c4) := step_cell HB2.out (HRW.out.cell 4); clear hb2)
        refine ⟨⟨i + 1, O.set i u, by go_num, by omega, HSTEP.out u HK.out, HREST.out u, ?_⟩, by simp [intOf]; omega⟩
        exact (HOS.out.below HB2.out).set HNE.out (by omega) i u
      | true =>
        have HOB : Hid (overB f.pl m.dst = true) := hov
        have HN : Hid (¬ (f.pl.kind = 0 ∨ overB f.pl m.dst = false)) := by rintro (h | h); exact h0 h; rw [hov] at h; exact absurd h (by simp)
        clear h0 hov
        cases hsp : samePl f.pl m.dst with
        | false =>
          have HK : Hid (¬ moveK (· ∈ F) m (setP F S) f) := moveK_off HN.out hsp
          have hq : (f.pl.kind == m.dst.kind && f.pl.n == m.dst.n) = false := hsp
          clear hsp
          go_wp2_with (go_at_call 74; refine (HOV.out _ f HFM.out).mono ?_; rw [HOB.out]; rintro e w2 ⟨rfl, hb2⟩; have HB2 : Hid (Below wr.heap.size wr w2) := over_alloc hb2; have HRF : Hid (Row w2 wr.heap.size 62 [.int .i64 f.pl.kind, .int .i64 f.pl.n, .bool f.temp, .int .i64 f.t, .int .u32 f.n]) := (Row.new wr _ _).below hb2; have G0 : w2.cell? ⟨wr.heap.size, 0, none⟩ = some (.int .i64 f.pl.kind) := HRF.out.cell 0; have G1 : w2.cell? ⟨wr.heap.size, 1, none⟩ = some (.int .i64 f.pl.n) := HRF.out.cell 1; have G2 : w2.cell? ⟨wr.heap.size, 2, none⟩ = some (.bool f.temp) := HRF.out.cell 2; have G3 : w2.cell? ⟨wr.heap.size, 3, none⟩ = some (.int .i64 f.t) := HRF.out.cell 3; have G4 : w2.cell? ⟨wr.heap.size, 4, none⟩ = some (.int .u32 f.n) := HRF.out.cell 4; have ci2 := step_cell HB2.out ci; have hz22 := HB2.out.size; have zf : wr.heap.size < w2.heap.size := HRF.out.lt; have z02 : w.heap.size < w2.heap.size := (by omega); have z12 : w.heap.size + 1 < w2.heap.size := (by omega); have z22 : w.heap.size + 1 + 1 < w2.heap.size := (by omega); clear hz22; have co2 := step_cell HB2.out co; have fz2 := (HOS.out.ro.below HB2.out).frozen i; have N0 := step_cell HB2.out M0; have N1 := step_cell HB2.out M1; have N2 : w2.cell? ⟨w.heap.size + 1, 2, none⟩ = some (.int .i64 m.src.kind) := step_cell HB2.out (HRM.out.cell 2); have N3 : w2.cell? ⟨w.heap.size + 1, 3, none⟩ = some (.int .i64 m.src.n) := step_cell HB2.out (HRM.out.cell 3); have N4 : w2.cell? ⟨w.heap.size + 1, 4, none⟩ = some (.bool m.cst) := step_cell HB2.out (HRM.out.cell 4); have N5 : w2.cell? ⟨w.heap.size + 1, 5, none⟩ = some (.int .u32 m.n) := step_cell HB2.out (HRM.out.cell 5); have V0 : w2.cell? ⟨w.heap.size, 0, none⟩ = some (.slice ao0 n0 c0) := step_cell HB2.out (HRW.out.cell 0); have V1 : w2.cell? ⟨w.heap.size, 1, none⟩ = some (.slice ao1 n1 c1) := step_cell HB2.out (HRW.out.cell 1); have V2 : w2.cell? ⟨w.heap.size, 2, none⟩ = some (.slice (some ⟨ga, 0, none⟩) F.length ca) := step_cell HB2.out (HRW.out.cell 2); have V3 : w2.cell? ⟨w.heap.size, 3, none⟩ = some (.slice (some ⟨gs, 0, none⟩) 4 cs) := step_cell HB2.out (HRW.out.cell 3); have V4 : w2.cell? ⟨w.heap.size, 4, none⟩ = some (.slice ao4 n4 c4) := step_cell HB2.out (HRW.out.cell 4); clear hb2)
          refine ⟨⟨i + 1, O, by go_num, by omega, HSKIP.out HK.out, HREST2.out, ?_⟩, by simp [intOf]; omega⟩
          exact HOS.out.below HB2.out
        | true =>
          have hq : (f.pl.kind == m.dst.kind && f.pl.n == m.dst.n) = true := hsp
          have HSP : Hid (samePl f.pl m.dst = true) := hsp
          clear hsp
          rcases Bool.eq_false_or_eq_true m.cst with hc | hc
          rotate_left
          · have HPS : Hid (PlaceOf s slots m.src) := HMS.out hc
            have HK : Hid (∀ b : Bool, (b = true ↔ setP F S ⟨m.src, f.temp, f.t, f.n⟩) → (b = true ↔ moveK (· ∈ F) m (setP F S) f)) := fun b hb => by rw [moveK_from HFM.out HN.out HSP.out hc]; exact hb
            have HC : Hid (m.cst = false) := hc
            clear hc
            go_wp2_with (first
              | (go_at_call 74; refine (HOV.out _ f HFM.out).mono ?_; rw [HOB.out]; rintro e w2 ⟨rfl, hb2⟩; have HB2 : Hid (Below wr.heap.size wr w2) := over_alloc hb2; have HRF : Hid (Row w2 wr.heap.size 62 [.int .i64 f.pl.kind, .int .i64 f.pl.n, .bool f.temp, .int .i64 f.t, .int .u32 f.n]) := (Row.new wr _ _).below hb2; have G0 : w2.cell? ⟨wr.heap.size, 0, none⟩ = some (.int .i64 f.pl.kind) := HRF.out.cell 0; have G1 : w2.cell? ⟨wr.heap.size, 1, none⟩ = some (.int .i64 f.pl.n) := HRF.out.cell 1; have G2 : w2.cell? ⟨wr.heap.size, 2, none⟩ = some (.bool f.temp) := HRF.out.cell 2; have G3 : w2.cell? ⟨wr.heap.size, 3, none⟩ = some (.int .i64 f.t) := HRF.out.cell 3; have G4 : w2.cell? ⟨wr.heap.size, 4, none⟩ = some (.int .u32 f.n) := HRF.out.cell 4; have ci2 := step_cell HB2.out ci; have hz22 := HB2.out.size; have zf : wr.heap.size < w2.heap.size := HRF.out.lt; have z02 : w.heap.size < w2.heap.size := (by omega); have z12 : w.heap.size + 1 < w2.heap.size := (by omega); have z22 : w.heap.size + 1 + 1 < w2.heap.size := (by omega); clear hz22; have co2 := step_cell HB2.out co; have fz2 := (HOS.out.ro.below HB2.out).frozen i; have N0 := step_cell HB2.out M0; have N1 := step_cell HB2.out M1; have N2 : w2.cell? ⟨w.heap.size + 1, 2, none⟩ = some (.int .i64 m.src.kind) := step_cell HB2.out (HRM.out.cell 2); have N3 : w2.cell? ⟨w.heap.size + 1, 3, none⟩ = some (.int .i64 m.src.n) := step_cell HB2.out (HRM.out.cell 3); have N4 : w2.cell? ⟨w.heap.size + 1, 4, none⟩ = some (.bool false) := (by rw [← HC.out]; exact step_cell HB2.out (HRM.out.cell 4)); have N5 : w2.cell? ⟨w.heap.size + 1, 5, none⟩ = some (.int .u32 m.n) := step_cell HB2.out (HRM.out.cell 5); have V0 : w2.cell? ⟨w.heap.size, 0, none⟩ = some (.slice ao0 n0 c0) := step_cell HB2.out (HRW.out.cell 0); have V1 : w2.cell? ⟨w.heap.size, 1, none⟩ = some (.slice ao1 n1 c1) := step_cell HB2.out (HRW.out.cell 1); have V2 : w2.cell? ⟨w.heap.size, 2, none⟩ = some (.slice (some ⟨ga, 0, none⟩) F.length ca) := step_cell HB2.out (HRW.out.cell 2); have V3 : w2.cell? ⟨w.heap.size, 3, none⟩ = some (.slice (some ⟨gs, 0, none⟩) 4 cs) := step_cell HB2.out (HRW.out.cell 3); have V4 : w2.cell? ⟨w.heap.size, 4, none⟩ = some (.slice ao4 n4 c4) := step_cell HB2.out (HRW.out.cell 4); clear hb2)
              | (go_at_call 56; refine (HFD.out _ ⟨m.src, f.temp, f.t, f.n⟩ ?_ HPS.out).mono ?_; (exact step_below ((Below.refl _ _).alloc (Nat.le_refl _) _) (step_below HB2.out HB.out)); rintro e w3 ⟨⟨b, rfl, hsay⟩, hb3⟩; have HB3 : Hid (Below wr.heap.size wr w3) := step_below (over_alloc hb3) HB2.out; have co3 := step_cell HB3.out co; have fz3 := (HOS.out.ro.below HB3.out).frozen i; have HSAY : Hid (Says8 b (setP F S ⟨m.src, f.temp, f.t, f.n⟩)) := hsay; clear hb3 hsay))
            refine ⟨⟨i + 1, O.set i b, by go_num, by omega, HSTEP.out b (HK.out b HSAY.out), HREST.out b, ?_⟩, by simp [intOf]; omega⟩
            exact (HOS.out.below HB3.out).set HNE.out (by omega) i b
          · have HC : Hid (m.cst = true) := hc
            clear hc
            rcases Bool.eq_false_or_eq_true f.temp with ht | ht
            · have HK : Hid (∀ b : Bool, (b = true ↔ setP F S ⟨.zero, true, f.t, m.n⟩) → (b = true ↔ moveK (· ∈ F) m (setP F S) f)) := fun b hb => by rw [moveK_temp HFM.out HN.out HSP.out HC.out ht]; exact hb
              have HT : Hid (f.temp = true) := ht
              clear ht
              go_wp2_with (first
                | (go_at_call 74; refine (HOV.out _ f HFM.out).mono ?_; rw [HOB.out]; rintro e w2 ⟨rfl, hb2⟩; have HB2 : Hid (Below wr.heap.size wr w2) := over_alloc hb2; have HRF : Hid (Row w2 wr.heap.size 62 [.int .i64 f.pl.kind, .int .i64 f.pl.n, .bool f.temp, .int .i64 f.t, .int .u32 f.n]) := (Row.new wr _ _).below hb2; have G0 : w2.cell? ⟨wr.heap.size, 0, none⟩ = some (.int .i64 f.pl.kind) := HRF.out.cell 0; have G1 : w2.cell? ⟨wr.heap.size, 1, none⟩ = some (.int .i64 f.pl.n) := HRF.out.cell 1; have G2 : w2.cell? ⟨wr.heap.size, 2, none⟩ = some (.bool true) := (by rw [← HT.out]; exact HRF.out.cell 2); have G3 : w2.cell? ⟨wr.heap.size, 3, none⟩ = some (.int .i64 f.t) := HRF.out.cell 3; have G4 : w2.cell? ⟨wr.heap.size, 4, none⟩ = some (.int .u32 f.n) := HRF.out.cell 4; have ci2 := step_cell HB2.out ci; have hz22 := HB2.out.size; have zf : wr.heap.size < w2.heap.size := HRF.out.lt; have z02 : w.heap.size < w2.heap.size := (by omega); have z12 : w.heap.size + 1 < w2.heap.size := (by omega); have z22 : w.heap.size + 1 + 1 < w2.heap.size := (by omega); clear hz22; have co2 := step_cell HB2.out co; have fz2 := (HOS.out.ro.below HB2.out).frozen i; have N0 := step_cell HB2.out M0; have N1 := step_cell HB2.out M1; have N2 : w2.cell? ⟨w.heap.size + 1, 2, none⟩ = some (.int .i64 m.src.kind) := step_cell HB2.out (HRM.out.cell 2); have N3 : w2.cell? ⟨w.heap.size + 1, 3, none⟩ = some (.int .i64 m.src.n) := step_cell HB2.out (HRM.out.cell 3); have N4 : w2.cell? ⟨w.heap.size + 1, 4, none⟩ = some (.bool true) := (by rw [← HC.out]; exact step_cell HB2.out (HRM.out.cell 4)); have N5 : w2.cell? ⟨w.heap.size + 1, 5, none⟩ = some (.int .u32 m.n) := step_cell HB2.out (HRM.out.cell 5); have V0 : w2.cell? ⟨w.heap.size, 0, none⟩ = some (.slice ao0 n0 c0) := step_cell HB2.out (HRW.out.cell 0); have V1 : w2.cell? ⟨w.heap.size, 1, none⟩ = some (.slice ao1 n1 c1) := step_cell HB2.out (HRW.out.cell 1); have V2 : w2.cell? ⟨w.heap.size, 2, none⟩ = some (.slice (some ⟨ga, 0, none⟩) F.length ca) := step_cell HB2.out (HRW.out.cell 2); have V3 : w2.cell? ⟨w.heap.size, 3, none⟩ = some (.slice (some ⟨gs, 0, none⟩) 4 cs) := step_cell HB2.out (HRW.out.cell 3); have V4 : w2.cell? ⟨w.heap.size, 4, none⟩ = some (.slice ao4 n4 c4) := step_cell HB2.out (HRW.out.cell 4); clear hb2)
                | (go_at_call 56; refine (HFD.out _ ⟨.zero, true, f.t, m.n⟩ (step_below HB2.out HB.out) (Or.inl ⟨rfl, rfl⟩)).mono ?_; rintro e w3 ⟨⟨b, rfl, hsay⟩, hb3⟩; have HB3 : Hid (Below wr.heap.size wr w3) := step_below hb3 HB2.out; have co3 := step_cell HB3.out co; have fz3 := (HOS.out.ro.below HB3.out).frozen i; have HSAY : Hid (Says8 b (setP F S ⟨.zero, true, f.t, m.n⟩)) := hsay; clear hb3 hsay))
              refine ⟨⟨i + 1, O.set i b, by go_num, by omega, HSTEP.out b (HK.out b HSAY.out), HREST.out b, ?_⟩, by simp [intOf]; omega⟩
              exact (HOS.out.below HB3.out).set HNE.out (by omega) i b
            · have HK : Hid ((f.n == m.n) = true ↔ moveK (· ∈ F) m (setP F S) f) := by show _ ↔ _; rw [moveK_num HFM.out HN.out HSP.out HC.out ht, beq_iff_eq]
              have HT : Hid (f.temp = false) := ht
              clear ht
              go_wp2_with (go_at_call 74; refine (HOV.out _ f HFM.out).mono ?_; rw [HOB.out]; rintro e w2 ⟨rfl, hb2⟩; have HB2 : Hid (Below wr.heap.size wr w2) := over_alloc hb2; have HRF : Hid (Row w2 wr.heap.size 62 [.int .i64 f.pl.kind, .int .i64 f.pl.n, .bool f.temp, .int .i64 f.t, .int .u32 f.n]) := (Row.new wr _ _).below hb2; have G0 : w2.cell? ⟨wr.heap.size, 0, none⟩ = some (.int .i64 f.pl.kind) := HRF.out.cell 0; have G1 : w2.cell? ⟨wr.heap.size, 1, none⟩ = some (.int .i64 f.pl.n) := HRF.out.cell 1; have G2 : w2.cell? ⟨wr.heap.size, 2, none⟩ = some (.bool false) := (by rw [← HT.out]; exact HRF.out.cell 2); have G3 : w2.cell? ⟨wr.heap.size, 3, none⟩ = some (.int .i64 f.t) := HRF.out.cell 3; have G4 : w2.cell? ⟨wr.heap.size, 4, none⟩ = some (.int .u32 f.n) := HRF.out.cell 4; have ci2 := step_cell HB2.out ci; have hz22 := HB2.out.size; have zf : wr.heap.size < w2.heap.size := HRF.out.lt; have z02 : w.heap.size < w2.heap.size := (by omega); have z12 : w.heap.size + 1 < w2.heap.size := (by omega); have z22 : w.heap.size + 1 + 1 < w2.heap.size := (by omega); clear hz22; have co2 := step_cell HB2.out co; have fz2 := (HOS.out.ro.below HB2.out).frozen i; have N0 := step_cell HB2.out M0; have N1 := step_cell HB2.out M1; have N2 : w2.cell? ⟨w.heap.size + 1, 2, none⟩ = some (.int .i64 m.src.kind) := step_cell HB2.out (HRM.out.cell 2); have N3 : w2.cell? ⟨w.heap.size + 1, 3, none⟩ = some (.int .i64 m.src.n) := step_cell HB2.out (HRM.out.cell 3); have N4 : w2.cell? ⟨w.heap.size + 1, 4, none⟩ = some (.bool true) := (by rw [← HC.out]; exact step_cell HB2.out (HRM.out.cell 4)); have N5 : w2.cell? ⟨w.heap.size + 1, 5, none⟩ = some (.int .u32 m.n) := step_cell HB2.out (HRM.out.cell 5); have V0 : w2.cell? ⟨w.heap.size, 0, none⟩ = some (.slice ao0 n0 c0) := step_cell HB2.out (HRW.out.cell 0); have V1 : w2.cell? ⟨w.heap.size, 1, none⟩ = some (.slice ao1 n1 c1) := step_cell HB2.out (HRW.out.cell 1); have V2 : w2.cell? ⟨w.heap.size, 2, none⟩ = some (.slice (some ⟨ga, 0, none⟩) F.length ca) := step_cell HB2.out (HRW.out.cell 2); have V3 : w2.cell? ⟨w.heap.size, 3, none⟩ = some (.slice (some ⟨gs, 0, none⟩) 4 cs) := step_cell HB2.out (HRW.out.cell 3); have V4 : w2.cell? ⟨w.heap.size, 4, none⟩ = some (.slice ao4 n4 c4) := step_cell HB2.out (HRW.out.cell 4); clear hb2)
              refine ⟨⟨i + 1, O.set i (f.n == m.n), by go_num, by omega, HSTEP.out _ HK.out, HREST.out _, ?_⟩, by simp [intOf]; omega⟩
              exact (HOS.out.below HB2.out).set HNE.out (by omega) i _

end Go.Proofs.YtcmnmogmdhofcaaGreat.form
