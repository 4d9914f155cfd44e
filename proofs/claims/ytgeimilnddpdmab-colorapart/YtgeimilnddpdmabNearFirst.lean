/- What may not be in one place, the program's own: rows of nothing (near.none), and what is needed from the beginning on (near.joinFirst). -/
import Derived.Test.YtgeimilnddpdmabNearJoin
import Derived.Test.YtgeimilnddpdmabLiveOwn
namespace Go.Proofs.Ytgeimilnddpdmab.form
open Go.RowKit
set_option linter.unusedVariables false
attribute [local go_sem ↓] Go.wp_at_zero Go.wp_at_succ

set_option maxRecDepth 100000 in
theorem none5 (n : Nat) (w : World) (hn : n ≤ 12) :
    Calls Try.prog 49 #[.int .i64 n] w fun e w' => e = .returned (.slice (some ⟨w.heap.size, 0, none⟩) n n) ∧ MatF w.heap.size n n (List.replicate (n * n) false) w' ∧ Below w.heap.size w w' := by
  have hmk := fun wx => run_make_row' (P := Try.prog) 22 4 (.bool false) 1 Try.underlying22 infBool rfl .i64 .i64 n (by omega) (by omega) wx
  have hmk2 := fun wx => run_make_row' (P := Try.prog) 31 22 (.slice none 0 0) 24 Try.underlying31 infRow rfl .i64 .i64 n (by omega) (by omega) wx
  have y2 : (n : Int) ≤ 12 := by omega
  go_enter Try.func49, Try.ntmps49
  go_wp2
  go_loopw [9] (fun kv wr => ∃ k : Nat, kv = .int .i64 k ∧ k ≤ n ∧ NoS w w.heap.size n n k wr) (fun kv _ => n - (intOf kv).toNat)
  case atStart =>
    refine ⟨0, rfl, by omega, (Below.refl _ _).alloc (Nat.le_refl _) _, by simp, ⟨List.replicate n (.slice none 0 0), by simp, ?_, fun j hj => absurd hj (by omega)⟩, fun j hj => absurd hj (by omega)⟩
    rw [made_rows]
    exact Row.new w 22 (List.replicate n (.slice none 0 0))
  case round =>
    obtain ⟨k, rfl, hk, hno⟩ := hrel
    have HNO : Hid (NoS w w.heap.size n n k wr) := hno
    have hz := hno.size
    obtain ⟨vs, hvl, hvr, hvk⟩ := hno.top
    clear hno
    have HVR : Hid (Row wr w.heap.size 22 vs) := hvr
    have HVK : Hid (∀ j, j < k → vs[j]? = some (.slice (some ⟨w.heap.size + 1 + j, 0, none⟩) n n)) := hvk
    clear hvk
    by_cases hlt : k < n
    case neg =>
      have y9 : ¬ (k : Int) < (n : Int) := by omega
      obtain rfl : k = n := by omega
      clear hvr
      go_wp2
      go_ret
      refine ⟨rfl, ⟨by simp, fun j hj => ?_, fun j hj => ?_⟩, HNO.out.bel⟩
      · rw [HVR.out.cell]; exact HVK.out j hj
      · have := HNO.out.row j hj
        rwa [show rowF k (List.replicate (k * k) false) j = List.replicate k false by
          apply List.ext_getElem (by simp [rowF])
          intro q h1 h2
          simp [rowF, getF_nothing]]
    have y8 : (k : Int) < (n : Int) := by omega
    have y7 : (0 : Int) ≤ (k : Int) := by omega
    obtain ⟨u0, ck⟩ : ∃ u0, wr.cell? ⟨w.heap.size, k, none⟩ = some u0 := ⟨vs[k]'(by omega), by rw [hvr.cell]; simp⟩
    have fz := hvr.frozen k
    have hgz : w.heap.size < wr.heap.size := by omega
    have HZ : Hid (wr.heap.size = w.heap.size + 1 + k) := hz
    clear hvr hz
    go_wp2
    obtain ⟨W1, hW1⟩ : ∃ W1, W1 = wr.setCell ⟨w.heap.size, k, none⟩ (.slice (some ⟨wr.heap.size, 0, none⟩) n n) := ⟨_, rfl⟩
    have hz1 : W1.heap.size = wr.heap.size := by rw [hW1]; simp
    have hbn : Below W1.heap.size W1 (W1.alloc (.cells (madeCells #[.bool false] n) 4)) := (Below.refl _ _).alloc (Nat.le_refl _) _
    have hrn := Row.new W1 4 ((List.replicate n false).map Value.bool)
    rw [← made_bool] at hrn
    have q1 : Below w.heap.size w W1 := by rw [hW1]; exact HNO.out.bel.setCell (by simp) _
    have q2 : Row W1 w.heap.size 22 (vs.set k (.slice (some ⟨wr.heap.size, 0, none⟩) n n)) := by rw [hW1]; exact HVR.out.set k _
    have q3 : ∀ j, j < k → Row W1 (w.heap.size + 1 + j) 4 ((List.replicate n false).map Value.bool) := fun j hj => by rw [hW1]; exact (HNO.out.row j hj).other (by simp; omega) _
    rw [← hW1]
    refine ⟨⟨k + 1, by go_num, by omega, ?_⟩, by simp [intOf]; omega⟩
    refine ⟨step_below hbn q1, by simp [hz1, HZ.out]; omega, ⟨vs.set k (.slice (some ⟨wr.heap.size, 0, none⟩) n n), by simp [hvl], q2.below hbn, fun j hj => ?_⟩, fun j hj => ?_⟩
    · by_cases hjk : j = k
      · subst hjk
        rw [List.getElem?_set_self (by omega), HZ.out]
      · rw [List.getElem?_set_ne (Ne.symm hjk)]
        exact HVK.out j (by omega)
    · by_cases hjk : j = k
      · subst hjk
        rw [← HZ.out, ← hz1]
        exact hrn
      · exact (q3 j (by omega)).below hbn

/-- What lies in memory while two and two are made near. -/
structure NM (w : World) (gn bx nB : Nat) (L : List Bool) (wr : World) : Prop where
  bel : Apart gn (gn + 1 + nB) w wr
  mat : MatF gn nB nB L wr
  box : wr.cell? ⟨bx, 0, none⟩ = some (.slice (some ⟨gn, 0, none⟩) nB nB)

theorem NM.join {w wr w1 : World} {gn bx nB : Nat} {L L' : List Bool} (h : NM w gn bx nB L wr) (hxn : ¬ (gn ≤ bx ∧ bx < gn + 1 + nB)) (hM : MatF gn nB nB L' w1) (ha : Apart gn (gn + 1 + nB) wr w1) : NM w gn bx nB L' w1 :=
  ⟨h.bel.trans ha, hM, ha.cell h.box hxn⟩
theorem NM.below {w wr w1 : World} {gn bx nB : Nat} {L : List Bool} (h : NM w gn bx nB L wr) (hb : Below wr.heap.size wr w1) : NM w gn bx nB L w1 :=
  ⟨h.bel.trans (Apart.of_below hb), h.mat.below hb, step_cell hb h.box⟩

/-- Behind the pairs of those below i. -/
def FirstP (P : Nat → Nat → Prop) (r : List Bool) (i : Nat) (x y : Nat) : Prop := P x y ∨ (¬ x = y ∧ x < i ∧ y < i ∧ r.getD x false = true ∧ r.getD y false = true)

set_option maxRecDepth 100000 in
set_option maxHeartbeats 1000000 in
theorem joinFirst (gn bx bf nB : Nat) (r L0 : List Bool) (P : Nat → Nat → Prop) (w : World) (hB : nB ≤ 12) (hxn : ¬ (gn ≤ bx ∧ bx < gn + 1 + nB)) (hbf : bf < gn) (hr : ∀ j, j < nB → w.cell? ⟨bf, j, none⟩ = some (.bool (r.getD j false))) (hN : NM w gn bx nB L0 w) (hS : NrS nB L0 P) :
    Calls Try.prog 51 #[.slice (some ⟨bf, 0, none⟩) nB nB, .func (.func 50) #[] #[.pointer (some ⟨bx, 0, none⟩)]] w fun e w' => e = .returned (.tuple #[]) ∧ ∃ L, NM w gn bx nB L w' ∧ NrS nB L (FirstP P r nB) := by
  have HJ : Hid (∀ (wx : World) (L : List Bool) (a b : Nat), NM w gn bx nB L wx → a < nB → b < nB → Calls Try.prog 50 #[.int .i64 a, .int .i64 b, .pointer (some ⟨bx, 0, none⟩)] wx fun e w' => e = .returned (.tuple #[]) ∧ MatF gn nB nB (joinL nB L a b) w' ∧ Apart gn (gn + 1 + nB) wx w') :=
    fun wx L a b hm ha hb => Go.Proofs.Ytgeimilnddpdmab.form.join gn bx nB a b L wx hB hm.box hxn hm.mat ha hb
  have HR : Hid (∀ (wx : World) (L : List Bool) (j : Nat), NM w gn bx nB L wx → j < nB → wx.cell? ⟨bf, j, none⟩ = some (.bool (r.getD j false))) := fun wx L j hm hj => hm.bel.cell (hr j hj) (by dsimp only; omega)
  have HN0 : Hid (NM w gn bx nB L0 w) := hN
  have HS0 : Hid (NrS nB L0 P) := hS
  have y4 : (nB : Int) ≤ 12 := by omega
  clear hr hN hS
  go_enter Try.func51, Try.ntmps51
  go_wp2
  go_loopw [8] (fun iv wr => ∃ (i : Nat) (L : List Bool), iv = .int .i64 i ∧ i ≤ nB ∧ NM w gn bx nB L wr ∧ NrS nB L (FirstP P r i)) (fun iv _ => nB - (intOf iv).toNat)
  case atStart => exact ⟨0, L0, rfl, by omega, HN0.out, HS0.out.congr fun x y _ _ => by unfold FirstP; grind⟩
  case round =>
    obtain ⟨i, L, rfl, hi, hnm, hns⟩ := hrel
    have HNM : Hid (NM w gn bx nB L wr) := hnm
    have HNS : Hid (NrS nB L (FirstP P r i)) := hns
    clear hnm hns
    by_cases hlt : i < nB
    case neg =>
      have y9 : ¬ (i : Int) < (nB : Int) := by omega
      obtain rfl : i = nB := by omega
      go_wp2
      go_end0
      exact ⟨rfl, L, HNM.out, HNS.out⟩
    have y8 : (i : Int) < (nB : Int) := by omega
    have y7 : (0 : Int) ≤ (i : Int) := by omega
    go_wp2
    go_loopw [12] (fun jv wr2 => ∃ (j : Nat) (L : List Bool), jv = .int .i64 j ∧ j ≤ i ∧ NM w gn bx nB L wr2 ∧ NrS nB L (JoinP (FirstP P r i) i (fun y => y < j ∧ r.getD i false = true ∧ r.getD y false = true))) (fun jv _ => i - (intOf jv).toNat)
    case atStart => exact ⟨0, L, rfl, by omega, HNM.out, HNS.out.congr fun x y _ _ => by unfold JoinP; grind⟩
    case round =>
      clear HNM HNS
      obtain ⟨j, L, rfl, hj, hnm, hns⟩ := hrel
      have HNM : Hid (NM w gn bx nB L wr) := hnm
      have HNS : Hid (NrS nB L (JoinP (FirstP P r i) i (fun y => y < j ∧ r.getD i false = true ∧ r.getD y false = true))) := hns
      clear hnm hns
      by_cases hjt : j < i
      case neg =>
        have z9 : ¬ (j : Int) < (i : Int) := by omega
        go_wp2
        go_roundw
        case rel => exact ⟨i + 1, L, by go_num, by omega, HNM.out, HNS.out.congr fun x y _ _ => by unfold JoinP FirstP; grind⟩
        case measure => simp [intOf]; omega
      have z8 : (j : Int) < (i : Int) := by omega
      have z7 : (0 : Int) ≤ (j : Int) := by omega
      have z6 : (j : Int) < (nB : Int) := by omega
      have k1 := HR.out wr L i HNM.out hlt
      have k2 := HR.out wr L j HNM.out (by omega)
      obtain ⟨u, hu⟩ : ∃ u, u = r.getD i false := ⟨_, rfl⟩
      obtain ⟨v, hv⟩ : ∃ v, v = r.getD j false := ⟨_, rfl⟩
      rw [← hu] at k1
      rw [← hv] at k2
      have HU : Hid (r.getD i false = u) := hu.symm
      have HV : Hid (r.getD j false = v) := hv.symm
      clear hu hv
      cases u with
      | false =>
        go_wp2
        refine ⟨⟨j + 1, L, by go_num, by omega, HNM.out, HNS.out.congr fun x y _ _ => ?_⟩, by simp [intOf]; omega⟩
        have := HU.out
        unfold JoinP
        grind
      | true =>
        cases v with
        | false =>
          go_wp2
          refine ⟨⟨j + 1, L, by go_num, by omega, HNM.out, HNS.out.congr fun x y _ _ => ?_⟩, by simp [intOf]; omega⟩
          have := HV.out
          unfold JoinP
          grind
        | true =>
          go_wp2_with (go_at_call 50; refine (HJ.out _ L i j HNM.out hlt (by omega)).mono ?_; rintro e w1 ⟨rfl, hM1, hA1⟩; have HNM1 : Hid (NM w gn bx nB (joinL nB L i j) w1) := HNM.out.join hxn hM1 hA1; clear hM1 hA1)
          refine ⟨⟨j + 1, joinL nB L i j, by go_num, by omega, HNM1.out, (HNS.out.join hlt (by omega)).congr fun x y _ _ => ?_⟩, by simp [intOf]; omega⟩
          have h1 := HU.out
          have h2 := HV.out
          unfold JoinP
          grind

end Go.Proofs.Ytgeimilnddpdmab.form
