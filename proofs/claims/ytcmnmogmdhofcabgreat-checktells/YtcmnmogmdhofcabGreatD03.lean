/- What the functions on numbers come to: the document's. -/
import Derived.Test.YtcmnmogmdhofcabGreatProg
import Derived.OwnWalk
import Derived.Below
import Derived.Test.YtcmnmogmdhofcabGreatD02
import Derived.Test.YtcmnmogmdhofcabGreatD01

namespace Go.Proofs.YtcmnmogmdhofcabGreat.num
open Go.RowKit

theorem ret_int {k : IntKind} {a b : Int} (h : a = b) : Ending.returned (.int k a) = .returned (.int k b) := by rw [h]

end Go.Proofs.YtcmnmogmdhofcabGreat.num

/- What the document's functions on runs answer: Wrong, Gives, Next, Same. -/
namespace Go.Proofs.YtcmnmogmdhofcabGreat.form
open Go.RowKit Go.Proofs.YtcmnmogmdhofcabGreat.num
set_option linter.unusedVariables false
attribute [local go_sem ↓] Go.wp_at_zero Go.wp_at_succ

def OutIs (w : World) (v : Value) (l : List Int) : Prop :=
  ∃ ao cap, v = .slice ao l.length cap ∧ l.length ≤ 1000000 ∧ (0 < l.length → ∃ b o, ao = some ⟨b, o, none⟩ ∧ b < w.heap.size ∧ ∀ j, j < l.length → w.cell? ⟨b, o + j, none⟩ = some (.int .u32 (l.getD j 0)))
def ShownIs (w : World) (v : Value) (st : Int) (l : List Int) (k : Int) : Prop := ∃ ov, v = .agg #[.int .i64 st, ov, .int .i64 k] ∧ OutIs w ov l

def sameB (s1 k1 s2 k2 : Int) (l1 l2 : List Int) : Bool := decide (s1 = s2) && decide (k1 = k2) && decide (l1 = l2)

set_option maxRecDepth 100000 in
set_option maxHeartbeats 1000000 in
theorem same (va vb : Value) (s1 k1 s2 k2 : Int) (l1 l2 : List Int) (w : World) (h1 : ShownIs w va s1 l1 k1) (h2 : ShownIs w vb s2 l2 k2) :
    Calls Tryz.prog 12 #[va, vb] w fun e w' => e = .returned (.bool (sameB s1 k1 s2 k2 l1 l2)) ∧ Below w.heap.size w w' := by
  obtain ⟨ov, rfl, ao, cap, rfl, hl1, hc1⟩ := h1
  obtain ⟨ov, rfl, bo, cbp, rfl, hl2, hc2⟩ := h2
  have HC1 : Hid _ := hc1
  have HC2 : Hid _ := hc2
  clear hc1 hc2
  by_cases hs : s1 = s2 ∧ k1 = k2 ∧ l1.length = l2.length
  case neg =>
    have hf : sameB s1 k1 s2 k2 l1 l2 = false := by
      unfold sameB
      simp only [Bool.and_eq_false_iff, decide_eq_false_iff_not]
      by_cases e1 : s1 = s2
      · by_cases e2 : k1 = k2
        · exact Or.inr (fun e => hs ⟨e1, e2, by rw [e]⟩)
        · exact Or.inl (Or.inr e2)
      · exact Or.inl (Or.inl e1)
    rw [hf]
    rcases (show (s1 != s2) = true ∨ ((s1 != s2) = false ∧ (k1 != k2) = true) ∨ ((s1 != s2) = false ∧ (k1 != k2) = false ∧ ((l1.length : Int) != (l2.length : Int)) = true) by
      by_cases e1 : s1 = s2
      · by_cases e2 : k1 = k2
        · have : ¬ l1.length = l2.length := fun e => hs ⟨e1, e2, e⟩
          exact Or.inr (Or.inr ⟨by simp [e1], by simp [e2], by simp; omega⟩)
        · exact Or.inr (Or.inl ⟨by simp [e1], by simp [e2]⟩)
      · exact Or.inl (by simp [e1])) with e1 | ⟨e1, e2⟩ | ⟨e1, e2, e3⟩
    all_goals
      clear hs hf
      go_enter Tryz.func12, Tryz.ntmps12
      go_wp2
      go_ret
      exact ⟨rfl, ((Below.refl _ _).alloc (Nat.le_refl _) _).alloc (by simp) _⟩
  obtain ⟨rfl, rfl, hlen⟩ := hs
  have HL : Hid (l1.length = l2.length) := hlen
  have hll : (l1.length : Int) = (l2.length : Int) := by omega
  have e3 : ((l1.length : Int) != (l2.length : Int)) = false := by simp [hlen]
  clear hlen hll
  go_enter Tryz.func12, Tryz.ntmps12
  go_wp2
  go_loopw [5] (fun i wr => ∃ k : Nat, k ≤ l1.length ∧ i = .int .i64 k ∧ Below w.heap.size w wr ∧
      wr.cell? ⟨w.heap.size, 1, none⟩ = some (.slice ao l1.length cap) ∧ wr.cell? ⟨w.heap.size + 1, 1, none⟩ = some (.slice bo l2.length cbp) ∧ (∀ j, j < k → l1.getD j 0 = l2.getD j 0))
    (fun i _ => l1.length - (intOf i).toNat)
  case atStart => exact ⟨0, by omega, rfl, ((Below.refl _ _).alloc (Nat.le_refl _) _).alloc (by simp) _, by simp [go_sem], by simp [go_sem], fun j hj => absurd hj (by omega)⟩
  case round =>
    obtain ⟨k, hk, rfl, hbel, p1, q1, hall⟩ := hrel
    have F : Hid _ := hall
    clear hall
    by_cases hlt : k < l1.length
    · obtain ⟨ba, oa, rfl, hb1, hcell1⟩ := HC1.out (by omega)
      obtain ⟨bb, ob, rfl, hb2, hcell2⟩ := HC2.out (by have := HL.out; omega)
      have x1 := step_cell hbel (hcell1 k hlt)
      have x2 := step_cell hbel (hcell2 k (by have := HL.out; omega))
      have y1 : (0 : Int) ≤ (k : Int) := by omega
      have y2 : (k : Int) < (l1.length : Int) := by omega
      have y3 : (k : Int) < (l2.length : Int) := by have := HL.out; omega
      obtain ⟨u1, hu1⟩ : ∃ u, u = l1.getD k 0 := ⟨_, rfl⟩
      obtain ⟨u2, hu2⟩ : ∃ u, u = l2.getD k 0 := ⟨_, rfl⟩
      rw [← hu1] at x1
      rw [← hu2] at x2
      have HU1 : Hid (u1 = l1.getD k 0) := hu1
      have HU2 : Hid (u2 = l2.getD k 0) := hu2
      clear hu1 hu2 hcell1 hcell2
      go_wp2
      go_quiet (fail)
      go_wp2
      · go_ret
        refine ⟨ret_bool ?_, below_drewN hbel _⟩
        have hne : (u1 != u2) = true := by assumption
        unfold sameB
        rw [eq_comm]
        simp only [Bool.and_eq_false_iff, decide_eq_false_iff_not]
        right
        intro e
        rw [HU1.out, HU2.out, e] at hne
        simp at hne
      · refine ⟨⟨k + 1, by omega, by go_num, below_drewN hbel _, p1, q1, ?_⟩, by simp [intOf]; omega⟩
        have hne : (u1 != u2) = false := by assumption
        intro j hj
        by_cases hjk : j < k
        · exact F.out j hjk
        · obtain rfl : j = k := by omega
          rw [← HU1.out, ← HU2.out]
          simpa using hne
    · go_wp2
      go_ret
      refine ⟨ret_bool ?_, hbel⟩
      unfold sameB
      have he : l1 = l2 := by
        apply List.ext_getElem HL.out
        intro j h1 h2
        have := F.out j (by omega)
        simpa [List.getD, h1, h2] using this
      simp [he]

end Go.Proofs.YtcmnmogmdhofcabGreat.form

/- Of a program that may be every instruction's fields are within their bounds. -/
namespace Go.Proofs.YtcmnmogmdhofcabGreat.form
open Go.RowKit
set_option linter.unusedVariables false

structure InsOk (nB nC : Nat) (i : LIns) : Prop where
  a0 : 0 ≤ i.a
  a1 : i.a < nB
  b0 : 0 ≤ i.b
  b1 : i.b < nB
  d : givesB i.op = true → 0 ≤ i.dest ∧ i.dest < nB
  c : i.op = 8 ∨ i.op = 9 → 0 ≤ i.c ∧ i.c < nC
  n0 : 0 ≤ i.n
  n1 : i.n < 4294967296
  p0 : 1 ≤ i.op
  p1 : i.op ≤ 45

theorem field_bd {B : List Bool} {t : Bool} {f : Int} (hB : 1 ≤ B.length) (h : fieldB B t f = true) : 0 ≤ f ∧ f < B.length := by
  unfold fieldB at h
  cases t <;> simp at h <;> omega

theorem insOk {B : List Bool} {nC : Nat} {i : LIns} (hB : 1 ≤ B.length) (h : insB B nC i = true) (hn0 : 0 ≤ i.n) (hn1 : i.n < 4294967296) : InsOk B.length nC i := by
  unfold insB at h
  simp only [Bool.and_eq_true] at h
  obtain ⟨⟨⟨⟨⟨⟨hk, _⟩, hd⟩, ha⟩, hb⟩, hl⟩, _⟩ := h
  have hk2 : 1 ≤ i.op ∧ i.op ≤ 45 := by unfold knownB at hk; simp at hk; omega
  refine ⟨(field_bd hB ha).1, (field_bd hB ha).2, (field_bd hB hb).1, (field_bd hB hb).2, fun _ => field_bd hB hd, fun hop => ?_, hn0, hn1, hk2.1, hk2.2⟩
  unfold lineB at hl
  rw [if_pos hop] at hl
  simpa using hl

theorem all_insOk {B : List Bool} {C : List LIns} (h : refMayB B C = true) (hn : ∀ i, i < C.length → 0 ≤ (C.getD i .zero).n ∧ (C.getD i .zero).n < 4294967296) : ∀ k, k < C.length → InsOk B.length C.length (C.getD k .zero) := by
  unfold refMayB at h
  simp only [Bool.and_eq_true] at h
  obtain ⟨s1, s2, s3, s4⟩ := sizes_of h.1
  intro k hk
  refine insOk s1 ?_ (hn k hk).1 (hn k hk).2
  have := List.all_eq_true.1 h.2 (C.getD k .zero) (by simp [List.getD, hk])
  exact this

end Go.Proofs.YtcmnmogmdhofcabGreat.form

/- The machine on plain numbers keeps within its bounds, step by step. -/
namespace Go.Proofs.YtcmnmogmdhofcabGreat.form
open Go.RowKit Go.Proofs.YtcmnmogmdhofcabGreat.num
set_option linter.unusedVariables false
end Go.Proofs.YtcmnmogmdhofcabGreat.form
