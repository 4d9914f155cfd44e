/- What is added by the truths found till now, from the last instruction to the first (live.spread). -/
import Derived.Test.YtgeimilnddpdmabLiveIs
namespace Go.Proofs.Ytgeimilnddpdmab.form
open Go.RowKit
set_option linter.unusedVariables false
attribute [local go_sem ↓] Go.wp_at_zero Go.wp_at_succ

/-- It stays where what is below some block has not turned. -/
theorem Held.under {w w' : World} {b0 o0 b1 o1 g : Nat} {B : List Bool} {C : List LIns} (h : Held w b0 o0 b1 o1 B C) (h0 : b0 < g) (h1 : b1 < g) (hb : Below g w w') : Held w' b0 o0 b1 o1 B C := by
  refine ⟨Nat.lt_of_lt_of_le h.lt0 hb.size, Nat.lt_of_lt_of_le h.lt1 hb.size, fun i hi => ?_, fun i hi => ?_⟩
  · rw [hb.cell (p := ⟨b0, o0 + i, none⟩) h0]; exact h.wide i hi
  · obtain ⟨c0, c1, c2, c3, c4, c5⟩ := h.code i hi
    refine ⟨?_, ?_, ?_, ?_, ?_, ?_⟩
    · rw [hb.cell (p := ⟨b1, _, none⟩) h1]; exact c0
    · rw [hb.cell (p := ⟨b1, _, none⟩) h1]; exact c1
    · rw [hb.cell (p := ⟨b1, _, none⟩) h1]; exact c2
    · rw [hb.cell (p := ⟨b1, _, none⟩) h1]; exact c3
    · rw [hb.cell (p := ⟨b1, _, none⟩) h1]; exact c4
    · rw [hb.cell (p := ⟨b1, _, none⟩) h1]; exact c5

/-- What has been added till now to what was there, where all behind some place has been looked at. -/
structure SpS (nB : Nat) (C : List LIns) (L0 : List Bool) (seen : Nat → Nat → Prop) (m : Bool) (L : List Bool) : Prop where
  len : L.length = C.length * nB
  snd : Snd nB C L
  yes : m = true → L0.count true < L.count true
  no : m = false → L = L0 ∧ ∀ k t, k < C.length → t < nB → seen k t → getF nB L k t = false → stepB nB C L k t = false

theorem SpS.add {nB : Nat} {C : List LIns} {L0 L : List Bool} {seen seen' : Nat → Nat → Prop} {m : Bool} {k t : Nat} (h : SpS nB C L0 seen m L) (hk : k < C.length) (ht : t < nB) (hg : getF nB L k t = false) (hs : stepB nB C L k t = true) :
    SpS nB C L0 seen' true (L.set (k * nB + t) true) := by
  have hc : (L.set (k * nB + t) true).count true = L.count true + 1 := count_mark L _ (by rw [h.len]; exact flat_lt hk ht) hg
  refine ⟨by simp [h.len], snd_set h.snd h.len hk ht hs, fun _ => ?_, fun e => absurd e (by simp)⟩
  cases m with
  | true => have := h.yes rfl; omega
  | false => rw [hc, (h.no rfl).1]; omega

theorem SpS.pass {nB : Nat} {C : List LIns} {L0 L : List Bool} {seen seen' : Nat → Nat → Prop} {m : Bool} {k t : Nat} (h : SpS nB C L0 seen m L) (hs : getF nB L k t = true ∨ stepB nB C L k t = false) (hseen : ∀ k' t', t' < nB → seen' k' t' → seen k' t' ∨ (k' = k ∧ t' = t)) :
    SpS nB C L0 seen' m L := by
  refine ⟨h.len, h.snd, h.yes, fun e => ⟨(h.no e).1, fun k' t' hk' ht' hs' hg => ?_⟩⟩
  rcases hseen k' t' ht' hs' with h1 | ⟨rfl, rfl⟩
  · exact (h.no e).2 k' t' hk' ht' h1 hg
  · rcases hs with hs | hs
    · rw [hs] at hg; exact absurd hg (by simp)
    · exact hs

/-- What lies in memory meanwhile. -/
structure SpM (w : World) (g b0 o0 c0 b1 o1 c1 : Nat) (B : List Bool) (C : List LIns) (L : List Bool) (wr : World) : Prop where
  bel : Below g w wr
  p0 : wr.cell? ⟨w.heap.size, 0, none⟩ = some (.slice (some ⟨b0, o0, none⟩) B.length c0)
  p1 : wr.cell? ⟨w.heap.size, 1, none⟩ = some (.slice (some ⟨b1, o1, none⟩) C.length c1)
  mat : MatF g B.length C.length L wr

section
variable {w wr w1 : World} {g b0 o0 c0 b1 o1 c1 : Nat} {B : List Bool} {C : List LIns} {L : List Bool}
theorem SpM.below (hg : g ≤ w.heap.size) (h : SpM w g b0 o0 c0 b1 o1 c1 B C L wr) (hb : Below wr.heap.size wr w1) : SpM w g b0 o0 c0 b1 o1 c1 B C L w1 :=
  ⟨h.bel.trans (hb.mono (Nat.le_trans hg h.bel.size)), step_cell hb h.p0, step_cell hb h.p1, h.mat.below hb⟩
theorem SpM.set (hg : g + C.length < w.heap.size) (h : SpM w g b0 o0 c0 b1 o1 c1 B C L wr) {k t : Nat} (hk : k < C.length) (ht : t < B.length) : SpM w g b0 o0 c0 b1 o1 c1 B C (L.set (k * B.length + t) true) (wr.setCell ⟨g + 1 + k, t, none⟩ (.bool true)) :=
  ⟨h.bel.setCell (by show g ≤ g + 1 + k; omega) _, cell_other h.p0 (by show w.heap.size ≠ g + 1 + k; omega), cell_other h.p1 (by show w.heap.size ≠ g + 1 + k; omega), h.mat.set hk ht⟩
end

/-- The answer. -/
def SpreadAns (nB : Nat) (C : List LIns) (g : Nat) (L0 : List Bool) (e : Ending) (w : World) : Prop :=
  ∃ m L, e = .returned (.bool m) ∧ MatF g nB C.length L w ∧ SpS nB C L0 (fun _ _ => True) m L

set_option maxRecDepth 100000 in
set_option maxHeartbeats 1000000 in
theorem spread (g b0 o0 c0 b1 o1 c1 : Nat) (B : List Bool) (C : List LIns) (L0 : List Bool) (w : World) (hB : B.length ≤ 12) (hC : C.length ≤ 40) (hg0 : b0 < g) (hg1 : b1 < g) (h : Held w b0 o0 b1 o1 B C) (hok : ∀ k, k < C.length → InsOk B.length C.length (C.getD k .zero))
    (hkn : ∀ k, k < C.length → knownB (C.getD k .zero).op = true) (hM : MatF g B.length C.length L0 w) (hS : Snd B.length C L0) (hC1 : 1 ≤ C.length) :
    Calls Try.prog 91 #[progV b0 o0 B.length c0 b1 o1 C.length c1, .slice (some ⟨g, 0, none⟩) C.length C.length] w fun e w' => SpreadAns B.length C g L0 e w' ∧ Below g w w' := by
  have hgl : g + C.length < w.heap.size := by have := (hM.row (C.length - 1) (by omega)).lt; omega
  have HH : Hid (∀ wx : World, Below g w wx → Held wx b0 o0 b1 o1 B C) := fun wx hb => h.under hg0 hg1 hb
  have HIS : Hid (∀ (wx : World) (L : List Bool) (k t : Nat), Held wx b0 o0 b1 o1 B C → MatF g B.length C.length L wx → k < C.length → t < B.length → Calls Try.prog 116 #[progV b0 o0 B.length c0 b1 o1 C.length c1, .slice (some ⟨g, 0, none⟩) C.length C.length, .int .i64 k, .int .i64 t] wx fun e w' => e = .returned (.bool (stepB B.length C L k t)) ∧ Below wx.heap.size wx w') :=
    fun wx L k t hh hm hk ht => isNeeded g b0 o0 c0 b1 o1 c1 B C L k t wx hB hC hh hok hkn hm hk ht
  have HM0 : Hid (MatF g B.length C.length L0 w) := hM
  have HS0 : Hid (Snd B.length C L0) := hS
  have y2 : (C.length : Int) ≤ 40 := by omega
  have y3 : (B.length : Int) ≤ 12 := by omega
  have y1 : (1 : Int) ≤ (C.length : Int) := by omega
  clear h hok hkn hM hS
  unfold progV
  go_enter Try.func91, Try.ntmps91
  go_wp2
  go_loopw [5, 6] (fun mv kv wr => ∃ (m : Bool) (k : Nat) (L : List Bool), mv = .bool m ∧ kv = .int .i64 ((k : Int) - 1) ∧ k ≤ C.length ∧ SpM w g b0 o0 c0 b1 o1 c1 B C L wr ∧ SpS B.length C L0 (fun k' _ => k ≤ k') m L) (fun _ kv _ => (intOf kv + 1).toNat)
  case atStart =>
    refine ⟨false, C.length, L0, rfl, ?_, by omega, ⟨(Below.refl _ _).alloc (by omega) _, by simp [go_sem], by simp [go_sem], HM0.out.below ((Below.refl _ _).alloc (Nat.le_refl _) _)⟩, HM0.out.len, HS0.out, fun e => absurd e (by simp), fun _ => ⟨rfl, fun k t hk ht hle => absurd hle (by omega)⟩⟩
    go_num
  case round =>
    obtain ⟨m, k, L, rfl, rfl, hk, hmem, hsp⟩ := hrel
    have HSM : Hid (SpM w g b0 o0 c0 b1 o1 c1 B C L wr) := hmem
    have HSP : Hid (SpS B.length C L0 (fun k' _ => k ≤ k') m L) := hsp
    have p0 := hmem.p0
    have p1 := hmem.p1
    clear hmem hsp
    by_cases hk0 : k = 0
    · subst hk0
      go_wp2
      go_ret
      refine ⟨⟨m, L, rfl, HSM.out.mat, HSP.out.len, HSP.out.snd, HSP.out.yes, fun e => ⟨(HSP.out.no e).1, fun k t hk ht _ hg => (HSP.out.no e).2 k t hk ht (Nat.zero_le _) hg⟩⟩, HSM.out.bel⟩
    obtain ⟨a, rfl⟩ : ∃ a, k = a + 1 := ⟨k - 1, by omega⟩
    have ea : (((a + 1 : Nat) : Int) - 1) = (a : Int) := by omega
    rw [ea]
    have y5 : (0 : Int) ≤ (a : Int) := by omega
    have y6 : (a : Int) < (C.length : Int) := by omega
    have hac : a < C.length := by omega
    have HSP1 : Hid (SpS B.length C L0 (fun k' t' => a + 1 ≤ k' ∨ (k' = a ∧ t' < 0)) m L) := ⟨HSP.out.len, HSP.out.snd, HSP.out.yes, fun e => ⟨(HSP.out.no e).1, fun k' t' hk' ht' hs hg => (HSP.out.no e).2 k' t' hk' ht' (by rcases hs with hs | hs <;> omega) hg⟩⟩
    clear HSP
    go_wp2
    go_loopw [5, 19] (fun mv tv wr2 => ∃ (m : Bool) (t : Nat) (L : List Bool), mv = .bool m ∧ tv = .int .i64 t ∧ t ≤ B.length ∧ SpM w g b0 o0 c0 b1 o1 c1 B C L wr2 ∧ SpS B.length C L0 (fun k' t' => a + 1 ≤ k' ∨ (k' = a ∧ t' < t)) m L) (fun _ tv _ => B.length - (intOf tv).toNat)
    case atStart => exact ⟨m, 0, L, rfl, rfl, by omega, HSM.out, HSP1.out⟩
    case round =>
      clear HSM HSP1 p0 p1
      obtain ⟨m, t, L, rfl, rfl, ht, hmem, hsp⟩ := hrel
      have HSM : Hid (SpM w g b0 o0 c0 b1 o1 c1 B C L wr) := hmem
      have HSP : Hid (SpS B.length C L0 (fun k' t' => a + 1 ≤ k' ∨ (k' = a ∧ t' < t)) m L) := hsp
      have p0 := hmem.p0
      have p1 := hmem.p1
      have m1 := hmem.mat.top a hac
      have HMA : Hid (MatF g B.length C.length L wr) := hmem.mat
      clear hmem hsp
      by_cases htl : t < B.length
      case neg =>
        have y9 : ¬ (t : Int) < (B.length : Int) := by omega
        go_wp2
        go_roundw
        case rel =>
          refine ⟨m, a, L, rfl, rfl, by omega, HSM.out, HSP.out.len, HSP.out.snd, HSP.out.yes, fun e => ⟨(HSP.out.no e).1, fun k' t' hk' ht' hs hg => (HSP.out.no e).2 k' t' hk' ht' (by omega) hg⟩⟩
        case measure => simp [intOf]
      have m2 := HMA.out.cell hac htl
      have fz := (HMA.out.row a hac).frozen t
      obtain ⟨u, hu⟩ : ∃ u, u = getF B.length L a t := ⟨_, rfl⟩
      rw [← hu] at m2
      have HU : Hid (getF B.length L a t = u) := hu.symm
      clear hu
      have y8 : (t : Int) < (B.length : Int) := by omega
      have y7 : (0 : Int) ≤ (t : Int) := by omega
      cases u with
      | true =>
        go_wp2
        exact ⟨⟨m, t + 1, L, rfl, by go_num, by omega, HSM.out, HSP.out.pass (Or.inl HU.out) (fun k' t' _ hs => by omega)⟩, by simp [intOf]; omega⟩
      | false =>
        obtain ⟨s, hs⟩ : ∃ s, s = stepB B.length C L a t := ⟨_, rfl⟩
        have HS : Hid (stepB B.length C L a t = s) := hs.symm
        clear hs
        cases s with
        | true =>
          go_wp2_with (go_at_call 116; refine (HIS.out _ L a t (HH.out _ HSM.out.bel) HMA.out hac htl).mono ?_; rw [HS.out]; rintro e w1 ⟨rfl, hb1⟩; have n1 := step_cell hb1 m1; have n2 := step_cell hb1 m2; have fz1 := ((HMA.out.below hb1).row a hac).frozen t; have HB1 : Hid (Below wr.heap.size wr w1) := hb1; clear hb1)
          refine ⟨⟨true, t + 1, L.set (a * B.length + t) true, rfl, by go_num, by omega, (HSM.out.below (by omega) HB1.out).set hgl hac htl, HSP.out.add hac htl HU.out HS.out⟩, by simp [intOf]; omega⟩
        | false =>
          go_wp2_with (go_at_call 116; refine (HIS.out _ L a t (HH.out _ HSM.out.bel) HMA.out hac htl).mono ?_; rw [HS.out]; rintro e w1 ⟨rfl, hb1⟩; have HB1 : Hid (Below wr.heap.size wr w1) := hb1; clear hb1)
          refine ⟨⟨m, t + 1, L, rfl, by go_num, by omega, HSM.out.below (by omega) HB1.out, HSP.out.pass (Or.inr HS.out) (fun k' t' _ hs => by omega)⟩, by simp [intOf]; omega⟩

end Go.Proofs.Ytgeimilnddpdmab.form
