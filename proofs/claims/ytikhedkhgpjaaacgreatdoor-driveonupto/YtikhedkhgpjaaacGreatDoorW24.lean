/- What the program tells of what may not be in one place (near.Of). -/
import Derived.Test.YtikhedkhgpjaaacGreatDoorW23
import Derived.Test.YtikhedkhgpjaaacGreatDoorW11
import Derived.Test.YtikhedkhgpjaaacGreatDoorW12
import Derived.Test.YtikhedkhgpjaaacGreatDoorW16
import Derived.Test.YtikhedkhgpjaaacGreatDoorW17
import Derived.Test.YtikhedkhgpjaaacGreatDoorW19
import Derived.Test.YtikhedkhgpjaaacGreatDoorW02
import Derived.Test.YtikhedkhgpjaaacGreatDoorW08
import Derived.Test.YtikhedkhgpjaaacGreatDoorW09

namespace Go.Proofs.YtikhedkhgpjaaacGreatDoor
set_option linter.unusedVariables false
namespace form
open Go.RowKit
attribute [local go_sem ↓] Go.wp_at_zero Go.wp_at_succ
theorem nearF_iff {nB : Nat} {C : List LIns} {LN : List Bool} (hS : Snd nB C LN) (hC : Cls nB C LN) (hok : ∀ k, k < C.length → InsOk nB C.length (C.getD k .zero)) {k a b : Nat} (hk : k < C.length) (hb : b < nB) : NearF nB C LN k a b ↔ NearAt C k a b := by
  unfold NearF NearAt
  refine and_congr Iff.rfl (and_congr Iff.rfl ?_)
  constructor
  · rintro ⟨x, hx, ht⟩
    have h2 := goes_there hx
    unfold goesI at hx
    exact ⟨x.toNat, List.mem_map.2 ⟨x, (List.mem_filter.1 hx).1, rfl⟩, (flat_need hS hC (by omega) hb).1 ht⟩
  · rintro ⟨y, hy, hn⟩
    obtain ⟨x, hx, rfl⟩ := List.mem_map.1 hy
    have hb0 := nexts_bd (hok k hk) hk x hx
    have hl := need_lt hn
    refine ⟨x, ?_, (flat_need hS hC hl hb).2 hn⟩
    unfold goesI
    refine List.mem_filter.2 ⟨hx, ?_⟩
    unfold thereB
    simp
    omega
def AllP (nB : Nat) (C : List LIns) (LN : List Bool) (k : Nat) (x y : Nat) : Prop :=
  ¬ x = y ∧ ((getF nB LN 0 x = true ∧ getF nB LN 0 y = true) ∨ ∃ k', k' < k ∧ (NearF nB C LN k' x y ∨ NearF nB C LN k' y x))
theorem AllP.step {nB : Nat} {C : List LIns} {LN : List Bool} {k x y : Nat} : GivenP (AllP nB C LN k) nB C LN k x y ↔ AllP nB C LN (k + 1) x y := by
  unfold GivenP AllP
  constructor
  · rintro (⟨h1, h2 | ⟨k', hk, h2⟩⟩ | ⟨h1, h2⟩)
    · exact ⟨h1, Or.inl h2⟩
    · exact ⟨h1, Or.inr ⟨k', by omega, h2⟩⟩
    · exact ⟨h1, Or.inr ⟨k, by omega, h2⟩⟩
  · rintro ⟨h1, h2 | ⟨k', hk, h2⟩⟩
    · exact Or.inl ⟨h1, Or.inl h2⟩
    · by_cases e : k' < k
      · exact Or.inl ⟨h1, Or.inr ⟨k', e, h2⟩⟩
      · obtain rfl : k' = k := by omega
        exact Or.inr ⟨h1, h2⟩
theorem AllP.near {nB : Nat} {C : List LIns} {LN : List Bool} (hS : Snd nB C LN) (hC : Cls nB C LN) (hok : ∀ k, k < C.length → InsOk nB C.length (C.getD k .zero)) (hl : 1 ≤ C.length) {x y : Nat} (hx : x < nB) (hy : y < nB) : AllP nB C LN C.length x y ↔ Near C x y := by
  unfold AllP Near
  refine and_congr (by omega) (or_congr (and_congr (flat_need hS hC (by omega) hx) (flat_need hS hC (by omega) hy)) ?_)
  constructor
  · rintro ⟨k, hk, h⟩
    exact ⟨k, hk, h.imp (nearF_iff hS hC hok hk hy).1 (nearF_iff hS hC hok hk hx).1⟩
  · rintro ⟨k, hk, h⟩
    exact ⟨k, hk, h.imp (nearF_iff hS hC hok hk hy).2 (nearF_iff hS hC hok hk hx).2⟩
theorem Apart.row {lo hi : Nat} {w w' : World} {b : Nat} {t : TypeId} {cs : List Value} (h : Apart lo hi w w') (hr : Row w b t cs) (hn : ¬ (lo ≤ b ∧ b < hi)) : Row w' b t cs := by
  have := hr.lt
  unfold Row at *
  rw [h.block b this hn]; exact hr
theorem Apart.matF {lo hi : Nat} {w w' : World} {g nB nC : Nat} {L : List Bool} (h : Apart lo hi w w') (hM : MatF g nB nC L w) (hg : g + nC < lo) : MatF g nB nC L w' :=
  ⟨hM.len, fun k hk => h.cell (hM.top k hk) (by dsimp only; omega), fun k hk => h.row (hM.row k hk) (by omega)⟩
def OwnNear (nB : Nat) (C : List LIns) (e : Ending) (w : World) : Prop := ∃ gn L, e = .returned (.tuple #[.slice (some ⟨gn, 0, none⟩) nB nB, .int .i64 0]) ∧ MatF gn nB nB L w ∧ NrS nB L (fun x y => Near C x y)
set_option maxRecDepth 100000 in
set_option maxHeartbeats 1000000 in
theorem near_yes (b0 o0 c0 b1 o1 c1 : Nat) (B : List Bool) (C : List LIns) (w : World) (h : Held w b0 o0 b1 o1 B C) (hn : ∀ i, i < C.length → 0 ≤ (C.getD i .zero).n ∧ (C.getD i .zero).n < 4294967296) (hm : refMayB B C = true) :
    Calls Tryz.prog 41 #[progV b0 o0 B.length c0 b1 o1 C.length c1] w fun e w' => OwnNear B.length C e w' ∧ Below w.heap.size w w' := by
  have hs : sizesB B C = true := by unfold refMayB at hm; simp only [Bool.and_eq_true] at hm; exact hm.1
  obtain ⟨s1, s2, s3, s4⟩ := sizes_of hs
  have HOWN : Hid (∀ wx : World, Below w.heap.size w wx → Calls Tryz.prog 72 #[progV b0 o0 B.length c0 b1 o1 C.length c1] wx fun e w' => OwnAnsF wx.heap.size B.length C e w' ∧ Below wx.heap.size wx w') := fun wx hb => own_yesF b0 o0 c0 b1 o1 c1 B C wx (h.later hb) hn hm
  have HNO : Hid (∀ wx : World, Calls Tryz.prog 73 #[.int .i64 B.length] wx fun e w' => e = .returned (.slice (some ⟨wx.heap.size, 0, none⟩) B.length B.length) ∧ MatF wx.heap.size B.length B.length (List.replicate (B.length * B.length) false) w' ∧ Below wx.heap.size wx w') := fun wx => none5 B.length wx s2
  have HOK : Hid (∀ k, k < C.length → InsOk B.length C.length (C.getD k .zero)) := all_insOk hm hn
  have HKN : Hid (∀ k, k < C.length → knownB (C.getD k .zero).op = true) := all_known hm
  have HH : Hid (∀ wx : World, Below w.heap.size w wx → Held wx b0 o0 b1 o1 B C) := fun wx hb => h.later hb
  have hh0 := h.lt0
  have hh1 := h.lt1
  have y2 : (C.length : Int) ≤ 40 := by omega
  have y3 : (B.length : Int) ≤ 12 := by omega
  have y4 : (1 : Int) ≤ (C.length : Int) := by omega
  clear h hn hm hs
  unfold progV
  go_enter Tryz.func41, Tryz.ntmps41
  go_wp2_with (first
    | (go_at_call 72; refine (HOWN.out _ ?_).mono ?_; (exact (Below.refl _ _).alloc (Nat.le_refl _) _); rintro e w1 ⟨⟨g, LN, hg, rfl, hM1, hS1, hC1⟩, hb1⟩; have p0 : w1.cell? ⟨w.heap.size, 0, none⟩ = some (.slice (some ⟨b0, o0, none⟩) B.length c0) := step_cell hb1 (by simp [go_sem]); have p1 : w1.cell? ⟨w.heap.size, 1, none⟩ = some (.slice (some ⟨b1, o1, none⟩) C.length c1) := step_cell hb1 (by simp [go_sem]); have HB1 : Hid (Below w.heap.size w w1) := over_alloc hb1; have HM1 : Hid (MatF g B.length C.length LN w1) := hM1; have HS1 : Hid (Snd B.length C LN) := hS1; have HC1 : Hid (Cls B.length C LN) := hC1; clear hb1 hM1 hS1 hC1)
    | (go_at_call 73; refine (HNO.out _).mono ?_; rintro e w2 ⟨rfl, hM2, hb2⟩; have HM2 : Hid (MatF w1.heap.size B.length B.length (List.replicate (B.length * B.length) false) w2) := hM2; have HB2 : Hid (Below w.heap.size w w2) := step_below hb2 HB1.out; have HG2 : Hid (MatF g B.length C.length LN w2) := HM1.out.below hb2; have m0 := (HM1.out.below hb2).top 0 (by omega); have r0 := step_cell hb2 p0; have r1 := step_cell hb2 p1; have hgz : g + C.length < w1.heap.size := by (have := (HM1.out.row (C.length - 1) (by omega)).lt; omega)
       have hz2 : w1.heap.size + B.length < w2.heap.size := by (have := (hM2.row (B.length - 1) (by omega)).lt; omega)
       have hz1 : w.heap.size < w1.heap.size := World.block_lt_of_cell? w1 _ p0
       have hgw : w.heap.size < w2.heap.size := World.block_lt_of_cell? w2 _ r0
       have hgw2 : g < w2.heap.size := World.block_lt_of_cell? w2 _ m0
       clear hM2 hb2 p0 p1
       have HJF : Hid (∀ wx : World, Below w2.heap.size w2 wx → wx.cell? ⟨w2.heap.size, 0, none⟩ = some (.slice (some ⟨w1.heap.size, 0, none⟩) B.length B.length) → Calls Tryz.prog 75 #[.slice (some ⟨g + 1, 0, none⟩) B.length B.length, .func (.func 74) #[] #[.pointer (some ⟨w2.heap.size, 0, none⟩)]] wx fun e w' => e = .returned (.tuple #[]) ∧ ∃ L, NM wx w1.heap.size w2.heap.size B.length L w' ∧ NrS B.length L (AllP B.length C LN 0)) := (fun wx hb hx => by
         refine (joinFirst w1.heap.size w2.heap.size (g + 1) B.length (rowF B.length LN 0) _ _ wx s2 (by omega) (by omega) (fun j hj => by rw [getD_rowF hj]; exact step_cell hb (HG2.out.cell (k := 0) (by omega) hj)) ⟨Apart.refl _ _ _, HM2.out.below hb, hx⟩ (NrS.nothing _)).mono ?_
         rintro e w' ⟨rfl, L, h1, h2⟩
         refine ⟨rfl, L, h1, h2.congr fun x y hx hy => ?_⟩
         unfold FirstP AllP
         rw [getD_rowF hx, getD_rowF hy]
         simp [hx, hy]))
    | (go_at_call 75; refine (HJF.out _ ?_ ?_).mono ?_; (exact (Below.refl _ _).alloc (Nat.le_refl _) _); (simp [go_sem]); rintro e w3 ⟨rfl, L, hnm, hns⟩; have HNM : Hid (NM (w2.alloc (.cells #[.slice (some ⟨w1.heap.size, 0, none⟩) B.length B.length] 102)) w1.heap.size w2.heap.size B.length L w3) := hnm; have HNS : Hid (NrS B.length L (AllP B.length C LN 0)) := hns; have r2 : w3.cell? ⟨w.heap.size, 0, none⟩ = some (.slice (some ⟨b0, o0, none⟩) B.length c0) := hnm.bel.cell (step_cell ((Below.refl _ _).alloc (Nat.le_refl _) _) r0) (by dsimp only; omega); have r3 : w3.cell? ⟨w.heap.size, 1, none⟩ = some (.slice (some ⟨b1, o1, none⟩) C.length c1) := hnm.bel.cell (step_cell ((Below.refl _ _).alloc (Nat.le_refl _) _) r1) (by dsimp only; omega); clear hnm hns))
  obtain ⟨W, hW⟩ : ∃ W, W = w2.alloc (.cells #[.slice (some ⟨w1.heap.size, 0, none⟩) B.length B.length] 102) := ⟨_, rfl⟩
  rw [← hW] at HNM
  have hbW : Below w2.heap.size w2 W := by rw [hW]; exact (Below.refl _ _).alloc (Nat.le_refl _) _
  have HBW : Hid (Below w.heap.size w W) := step_below hbW HB2.out
  have HGW : Hid (MatF g B.length C.length LN W) := HG2.out.below hbW
  have t0 := step_cell hbW r0
  have t1 := step_cell hbW r1
  have hzW : w2.heap.size ≤ W.heap.size := hbW.size
  obtain ⟨gn, hgn⟩ : ∃ gn, gn = w1.heap.size := ⟨_, rfl⟩
  obtain ⟨bx, hbx⟩ : ∃ bx, bx = w2.heap.size := ⟨_, rfl⟩
  rw [← hgn, ← hbx] at HNM
  rw [← hgn] at hgz hz2 hz1
  rw [← hbx] at hz2 hzW hgw hgw2
  rw [← hbx]
  have HC0 : Hid (∀ (wx : World) (L : List Bool), NM W gn bx B.length L wx → wx.cell? ⟨w.heap.size, 0, none⟩ = some (.slice (some ⟨b0, o0, none⟩) B.length c0) ∧ wx.cell? ⟨w.heap.size, 1, none⟩ = some (.slice (some ⟨b1, o1, none⟩) C.length c1)) :=
    fun wx L hm => ⟨hm.bel.cell t0 (by dsimp only; omega), hm.bel.cell t1 (by dsimp only; omega)⟩
  have HBE : Hid (∀ (wx : World) (L : List Bool), NM W gn bx B.length L wx → Below w.heap.size w wx) := fun wx L hm => HBW.out.trans ((hm.bel.below (by omega)).mono (by omega))
  have HJG : Hid (∀ (wx : World) (L : List Bool) (k : Nat), NM W gn bx B.length L wx → k < C.length → NrS B.length L (AllP B.length C LN k) → Calls Tryz.prog 76 #[progV b0 o0 B.length c0 b1 o1 C.length c1, .slice (some ⟨g, 0, none⟩) C.length C.length, .int .i64 k, .func (.func 74) #[] #[.pointer (some ⟨bx, 0, none⟩)]] wx fun e w' => e = .returned (.tuple #[]) ∧ ∃ L', NM W gn bx B.length L' w' ∧ NrS B.length L' (AllP B.length C LN (k + 1))) := fun wx L k hm hk hs => by
    refine (joinGiven gn bx g b0 o0 c0 b1 o1 c1 B C LN L (AllP B.length C LN k) k wx s2 s4 (by omega) (by omega) (by omega) (by omega) (HH.out _ (HBE.out wx L hm)) HOK.out HKN.out (hm.bel.matF HGW.out (by omega)) hk ⟨Apart.refl _ _ _, hm.mat, hm.box⟩ hs s1).mono ?_
    rintro e w' ⟨rfl, L', h1, h2⟩
    exact ⟨rfl, L', ⟨hm.bel.trans h1.bel, h1.mat, h1.box⟩, h2.congr fun x y _ _ => AllP.step⟩
  clear HJF HNO HOWN HB1 HM1 HM2 HB2 HG2 m0 r0 r1 r2 r3 t0 t1 hW hbW hgn hbx hg
  unfold progV at HJG
  go_loopw [30] (fun kv wr => ∃ (k : Nat) (L : List Bool), kv = .int .i64 k ∧ k ≤ C.length ∧ NM W gn bx B.length L wr ∧ NrS B.length L (AllP B.length C LN k)) (fun kv _ => C.length - (intOf kv).toNat)
  case atStart => exact ⟨0, L, rfl, by omega, HNM.out, HNS.out⟩
  case round =>
    clear HNM HNS
    obtain ⟨k, L, rfl, hk, hnm, hns⟩ := hrel
    have HNM : Hid (NM W gn bx B.length L wr) := hnm
    have HNS : Hid (NrS B.length L (AllP B.length C LN k)) := hns
    obtain ⟨p0, p1⟩ := HC0.out wr L hnm
    have px := hnm.box
    clear hnm hns
    by_cases hlt : k < C.length
    case neg =>
      have y9 : ¬ (k : Int) < (C.length : Int) := by omega
      obtain rfl : k = C.length := by omega
      go_wp2
      refine bodyPost_ret (v := .tuple #[.slice (some ⟨gn, 0, none⟩) B.length B.length, .int .i64 0]) ?_ rfl ⟨⟨gn, L, rfl, HNM.out.mat, HNS.out.congr fun x y hx hy => AllP.near HS1.out HC1.out HOK.out s3 hx hy⟩, HBE.out _ _ HNM.out⟩
      simp [results, Tryz.results41, go_sem]
    have y8 : (k : Int) < (C.length : Int) := by omega
    have y7 : (0 : Int) ≤ (k : Int) := by omega
    go_wp2_with (go_at_call 76; refine (HJG.out _ L k HNM.out hlt HNS.out).mono ?_; rintro e w5 ⟨rfl, L', h1, h2⟩; have HN5 : Hid (NM W gn bx B.length L' w5) := h1; have HS5 : Hid (NrS B.length L' (AllP B.length C LN (k + 1))) := h2; clear h1 h2)
    exact ⟨⟨k + 1, L', by go_num, by omega, HN5.out, HS5.out⟩, by simp [intOf]; omega⟩
theorem near_no (v : Value) (B : List Bool) (C : List LIns) (w : World) (h : ProgIs w v B C) (hm : refMayB B C = false) :
    Calls Tryz.prog 41 #[v] w fun e w' => e = .returned (.tuple #[.slice none 0 0, .int .i64 2]) ∧ Below w.heap.size w w' := by
  have h0 := h
  obtain ⟨⟨a0, c0, a1, c1, rfl, -⟩, -, -, -⟩ := h0
  have HO : Hid (∀ wx : World, Below w.heap.size w wx → Calls Tryz.prog 72 #[.agg #[.slice a0 B.length c0, .slice a1 C.length c1]] wx fun e w' => e = .returned (.tuple #[.slice none 0 0, .int .i64 2]) ∧ Below wx.heap.size wx w') := fun wx hb => own_no _ B C wx (h.later hb) hm
  clear h hm
  go_enter Tryz.func41, Tryz.ntmps41
  go_wp2_with (go_at_call 72; refine (HO.out _ ?_).mono ?_; (exact (Below.refl _ _).alloc (Nat.le_refl _) _); rintro e w1 ⟨rfl, hb1⟩; have HB1 : Hid (Below w.heap.size w w1) := over_alloc hb1; clear hb1)
  refine bodyPost_ret (v := .tuple #[.slice none 0 0, .int .i64 2]) ?_ rfl ⟨rfl, HB1.out⟩
  simp [results, Tryz.results41, go_sem]
end form
/- What the layers answer, out of what each of them must answer: for scripts. -/
namespace form
open Go.RowKit
open doneRuns
def PutSpecD : Prop := ∀ (lv : Value) (slots : Int) (R : List LRow) (w : World), PlacedIs w lv slots R → RowsOk R → (putB slots R).length ≤ 1099511627776 → Calls Tryz.prog 42 #[lv] w fun e w' => OwnPut w slots R e w'
theorem moves_six {s slots : Int} {l : List LMove} (h : movesB s slots l = true) : l.length ≤ 6 := by
  unfold movesB at h
  simp only [Bool.and_eq_true, decide_eq_true_eq] at h
  exact h.1
theorem put_short {B : List Bool} {C : List LIns} {s slots : Int} {R : List LRow} (h : placeMayB B C s slots R = true) : (putB slots R).length ≤ 1099511627776 := by
  unfold placeMayB at h
  simp only [Bool.and_eq_true, Bool.not_eq_true', decide_eq_true_eq, decide_eq_false_iff_not, List.all_eq_true, List.mem_range] at h
  obtain ⟨⟨⟨⟨⟨h1, h2⟩, h3⟩, h4⟩, h5⟩, h6⟩ := h
  have hs : sizesB B C = true := by unfold refMayB at h1; simp only [Bool.and_eq_true] at h1; exact h1.1
  have hc := (sizes_of hs).2.2.2
  have hm : ∀ l : List LMove, (l.flatMap putMove).length = l.length * 9 := by
    intro l
    induction l with
    | nil => rfl
    | cons m l ih => rw [List.flatMap_cons, List.length_append, ih]; simp [putMove]; omega
  have hrow : ∀ r, r ∈ R → (putRow r).length ≤ 116 := fun r hr => by
    obtain ⟨k, hk, he⟩ := List.mem_iff_getElem.1 hr
    have h7 := h6 k (by omega)
    have e : R.getD k .zero = r := by simp [List.getD, hk, he]
    rw [e] at h7
    unfold rowB at h7
    simp only [Bool.and_eq_true] at h7
    have hb := moves_six h7.1.1.2
    have ha := moves_six h7.1.2
    unfold putRow putMoves
    simp only [List.length_append, List.length_cons, List.length_nil, hm]
    omega
  have hall : ∀ l : List LRow, (∀ r, r ∈ l → (putRow r).length ≤ 116) → (putRows l).length ≤ l.length * 116 := by
    intro l
    induction l with
    | nil => intro _; simp [putRows]
    | cons r l ih =>
      intro h
      have h8 := h r (by simp)
      have h9 := ih (fun x hx => h x (by simp [hx]))
      unfold putRows at h9 ⊢
      rw [List.flatMap_cons, List.length_append, List.length_cons, Nat.succ_mul]
      omega
  have := hall R hrow
  unfold putB
  simp only [List.length_cons]
  have h10 : R.length * 116 ≤ 40 * 116 := Nat.mul_le_mul (by omega) (Nat.le_refl _)
  omega
noncomputable def nearX (C : List LIns) (x y : Nat) : Bool := @decide (Near C x y) (Classical.propDecidable _)
noncomputable def layOf (f : List Bool → List LIns → Int → Int × List LRow) : Lay where
  run := fun B C I st => ⟨wrongI B C I.length st, (resM B C I st).state, (resM B C I st).out, ((resM B C I st).steps : Int)⟩
  on := fun B C s I st => if (refMayB B C && targetB s) = true then ⟨wrongP B C s (f B C s).1 (f B C s).2 I.length st, (resP B C s (f B C s).1 (f B C s).2 I st).state, (resP B C s (f B C s).1 (f B C s).2 I st).out, ((resP B C s (f B C s).1 (f B C s).2 I st).steps : Int)⟩ else ⟨2, 0, [], 0⟩
  near := fun B C => if refMayB B C = true then (0, pairCount (nearX C) B.length) else (2, 0)
  bytes := fun B C s => if (refMayB B C && targetB s) = true then (if smallB (putB (f B C s).1 (f B C s).2) = true ∧ (putB (f B C s).1 (f B C s).2).length ≤ 1099511627776 then (0, (putB (f B C s).1 (f B C s).2).length) else (1, 0)) else (2, 0)
theorem st_cases (i : LIns) (n : Nat) (nx : Int) : stI i n nx = 0 ∨ stI i n nx = 1 ∨ stI i n nx = 2 := by
  unfold stI
  split
  · simp
  split <;> simp
theorem out_more {l : List Int} {a : Int} {c : Prop} [Decidable c] (h : ∀ x, x ∈ l → 0 ≤ x ∧ x < 4294967296) : ∀ x, x ∈ (if c then l ++ [a % 4294967296] else l) → 0 ≤ x ∧ x < 4294967296 := by
  intro x hx
  split at hx
  · rcases List.mem_append.1 hx with h1 | h1
    · exact h x h1
    · have : x = a % 4294967296 := by simpa using h1
      omega
  · exact h x hx
theorem len_more {l : List Int} {a : Int} {c : Prop} [Decidable c] {n : Nat} (h : l.length ≤ n) : (if c then l ++ [a] else l).length ≤ n + 1 := by
  split
  · simp; exact h
  · omega
theorem mac_shown {C : List LIns} {ins : List Int} : ∀ (k : Nat) (m : Mac), (m.state = 0 ∨ m.state = 1 ∨ m.state = 2) → (∀ x, x ∈ m.out → 0 ≤ x ∧ x < 4294967296) → m.out.length ≤ m.steps →
    ((Mac.go C ins k m).state = 0 ∨ (Mac.go C ins k m).state = 1 ∨ (Mac.go C ins k m).state = 2) ∧ (∀ x, x ∈ (Mac.go C ins k m).out → 0 ≤ x ∧ x < 4294967296) ∧ (Mac.go C ins k m).out.length ≤ (Mac.go C ins k m).steps ∧ (Mac.go C ins k m).steps ≤ m.steps + k
  | 0, m, h1, h2, h3 => ⟨h1, h2, h3, Nat.le_refl _⟩
  | k + 1, m, h1, h2, h3 => by
    unfold Mac.go
    split
    · have h := mac_shown (C := C) (ins := ins) k (m.step C ins) (st_cases _ _ _) (out_more h2) (len_more h3)
      have e : (m.step C ins).steps = m.steps + 1 := rfl
      refine ⟨h.1, h.2.1, h.2.2.1, ?_⟩
      have := h.2.2.2
      omega
    · exact ⟨h1, h2, h3, by omega⟩
theorem pmac_shown {C : List LIns} {R : List LRow} {ins : List Int} : ∀ (k : Nat) (m : PMac), (m.state = 0 ∨ m.state = 1 ∨ m.state = 2) → (∀ x, x ∈ m.out → 0 ≤ x ∧ x < 4294967296) → m.out.length ≤ m.steps →
    ((PMac.go C R ins k m).state = 0 ∨ (PMac.go C R ins k m).state = 1 ∨ (PMac.go C R ins k m).state = 2) ∧ (∀ x, x ∈ (PMac.go C R ins k m).out → 0 ≤ x ∧ x < 4294967296) ∧ (PMac.go C R ins k m).out.length ≤ (PMac.go C R ins k m).steps ∧ (PMac.go C R ins k m).steps ≤ m.steps + k
  | 0, m, h1, h2, h3 => ⟨h1, h2, h3, Nat.le_refl _⟩
  | k + 1, m, h1, h2, h3 => by
    unfold PMac.go
    split
    · have h := pmac_shown (C := C) (R := R) (ins := ins) k (m.step C R ins) (st_cases _ _ _) (out_more h2) (len_more h3)
      have e : (m.step C R ins).steps = m.steps + 1 := rfl
      refine ⟨h.1, h.2.1, h.2.2.1, ?_⟩
      have := h.2.2.2
      omega
    · exact ⟨h1, h2, h3, by omega⟩
theorem wrong_bd (B : List Bool) (C : List LIns) (n : Nat) (st : Int) : 0 ≤ wrongI B C n st ∧ wrongI B C n st ≤ 3 ∧ (wrongI B C n st = 0 → 0 ≤ st ∧ st ≤ 3000) := by
  unfold wrongI
  split
  · omega
  split
  · omega
  split
  · omega
  · omega
theorem resM_ok (B : List Bool) (C : List LIns) (I : List Int) (st : Int) : ((resM B C I st).state = 0 ∨ (resM B C I st).state = 1 ∨ (resM B C I st).state = 2) ∧ (∀ x, x ∈ (resM B C I st).out → 0 ≤ x ∧ x < 4294967296) ∧ (resM B C I st).out.length ≤ (resM B C I st).steps ∧ (resM B C I st).steps ≤ 3000 := by
  unfold resM
  split
  · rename_i h
    have hw := (wrong_bd B C I.length st).2.2 h
    have h := mac_shown (C := C) (ins := I) st.toNat (Mac.start B.length) (Or.inl rfl) (fun x hx => by simp [Mac.start] at hx) (by simp [Mac.start])
    have e : (Mac.start B.length).steps = 0 := rfl
    exact ⟨h.1, h.2.1, h.2.2.1, by have := h.2.2.2; unfold playM; omega⟩
  · exact ⟨Or.inl rfl, fun x hx => by simp at hx, by simp, by simp⟩
theorem wrongP_bd (B : List Bool) (C : List LIns) (s slots : Int) (R : List LRow) (n : Nat) (st : Int) : 0 ≤ wrongP B C s slots R n st ∧ wrongP B C s slots R n st ≤ 3 ∧ (wrongP B C s slots R n st = 0 → 0 ≤ st ∧ st ≤ 3000) := by
  unfold wrongP
  split
  · exact wrong_bd B C n st
  · omega
theorem resP_ok (B : List Bool) (C : List LIns) (s slots : Int) (R : List LRow) (I : List Int) (st : Int) : ((resP B C s slots R I st).state = 0 ∨ (resP B C s slots R I st).state = 1 ∨ (resP B C s slots R I st).state = 2) ∧ (∀ x, x ∈ (resP B C s slots R I st).out → 0 ≤ x ∧ x < 4294967296) ∧ (resP B C s slots R I st).out.length ≤ (resP B C s slots R I st).steps ∧ (resP B C s slots R I st).steps ≤ 3000 := by
  unfold resP
  split
  · rename_i h
    have hw := (wrongP_bd B C s slots R I.length st).2.2 h
    have h := pmac_shown (C := C) (R := R) (ins := I) st.toNat (PMac.start s.toNat slots.toNat) (Or.inl rfl) (fun x hx => by simp [PMac.start] at hx) (by simp [PMac.start])
    have e : (PMac.start s.toNat slots.toNat).steps = 0 := rfl
    exact ⟨h.1, h.2.1, h.2.2.1, by have := h.2.2.2; unfold playP; omega⟩
  · exact ⟨Or.inl rfl, fun x hx => by simp at hx, by simp, by simp⟩
section
variable {f : List Bool → List LIns → Int → Int × List LRow}
theorem lay_rok (B : List Bool) (C : List LIns) (I : List Int) (st : Int) : RunOk ((layOf f).run B C I st) := by
  have h1 := wrong_bd B C I.length st
  have h2 := resM_ok B C I st
  refine ⟨h1.1, ?_, ?_, ?_, ?_, ?_, h2.2.1⟩
  · show wrongI _ _ _ _ < _; omega
  · show 0 ≤ (resM B C I st).state; omega
  · show (resM B C I st).state < _; omega
  · show 0 ≤ ((resM B C I st).steps : Int); omega
  · show ((resM B C I st).steps : Int) < _; omega
theorem lay_ook (B : List Bool) (C : List LIns) (s : Int) (I : List Int) (st : Int) : RunOk ((layOf f).on B C s I st) := by
  show RunOk (if (refMayB B C && targetB s) = true then _ else _)
  split
  · have h1 := wrongP_bd B C s (f B C s).1 (f B C s).2 I.length st
    have h2 := resP_ok B C s (f B C s).1 (f B C s).2 I st
    refine ⟨h1.1, ?_, ?_, ?_, ?_, ?_, h2.2.1⟩
    · show wrongP _ _ _ _ _ _ _ < _; omega
    · show 0 ≤ (resP B C s (f B C s).1 (f B C s).2 I st).state; omega
    · show (resP B C s (f B C s).1 (f B C s).2 I st).state < _; omega
    · show 0 ≤ ((resP B C s (f B C s).1 (f B C s).2 I st).steps : Int); omega
    · show ((resP B C s (f B C s).1 (f B C s).2 I st).steps : Int) < _; omega
  · exact ⟨by simp, by simp, by simp, by simp, by simp, by simp, fun x hx => by simp at hx⟩
theorem layLen : LayLen (layOf f) := by
  refine ⟨fun B C I st => ?_, fun B C s I st => ?_, fun B C => ?_, fun B C => ?_, fun B C s => ?_, fun B C s => ?_⟩
  · have h := resM_ok B C I st
    show (resM B C I st).out.length ≤ _
    omega
  · show (if (refMayB B C && targetB s) = true then (_ : RunR) else _).out.length ≤ _
    split
    · have h := resP_ok B C s (f B C s).1 (f B C s).2 I st
      show (resP B C s (f B C s).1 (f B C s).2 I st).out.length ≤ _
      omega
    · simp
  · show (if refMayB B C = true then ((0 : Int), pairCount (nearX C) B.length) else (2, 0)).1 < _
    split <;> simp
  · show (if refMayB B C = true then ((0 : Int), pairCount (nearX C) B.length) else (2, 0)).2 < _
    split
    · rename_i h
      have hs : sizesB B C = true := by unfold refMayB at h; simp only [Bool.and_eq_true] at h; exact h.1
      have hb := (sizes_of hs).2.1
      have h2 := pairCount_le (nearX C) B.length B.length (Nat.le_refl _)
      have h3 : B.length * B.length ≤ 12 * 12 := Nat.mul_le_mul hb hb
      show pairCount (nearX C) B.length < _
      omega
    · simp
  · show (if (refMayB B C && targetB s) = true then (if smallB (putB (f B C s).1 (f B C s).2) = true ∧ (putB (f B C s).1 (f B C s).2).length ≤ 1099511627776 then ((0 : Int), (putB (f B C s).1 (f B C s).2).length) else (1, 0)) else (2, 0)).1 < _
    split
    · split <;> simp
    · simp
  · show (if (refMayB B C && targetB s) = true then (if smallB (putB (f B C s).1 (f B C s).2) = true ∧ (putB (f B C s).1 (f B C s).2).length ≤ 1099511627776 then ((0 : Int), (putB (f B C s).1 (f B C s).2).length) else (1, 0)) else (2, 0)).2 < _
    split
    · split
      · rename_i h
        show (putB (f B C s).1 (f B C s).2).length < _
        omega
      · simp
    · simp
theorem lay_near (pv : Value) (B : List Bool) (C : List LIns) (w : World) (hp : ProgIs w pv B C) : Calls Tryz.prog 41 #[pv] w fun e w' => NearIs ((layOf f).near B C) B.length w e w' := by
  rcases Bool.eq_false_or_eq_true (refMayB B C) with hm | hm
  · have hl : (layOf f).near B C = (0, pairCount (nearX C) B.length) := by
      show (if refMayB B C = true then _ else _) = _
      rw [if_pos hm]
    rw [hl]
    have hs : sizesB B C = true := by
      have h := hm
      unfold refMayB at h
      simp only [Bool.and_eq_true] at h
      exact h.1
    obtain ⟨s1, s2, s3, s4⟩ := sizes_of hs
    obtain ⟨⟨a0, c0, a1, c1, rfl, hh⟩, -, -, hn⟩ := hp
    obtain ⟨b0, o0, b1, o1, rfl, rfl, hH⟩ := hh s1 s3
    refine (near_yes b0 o0 c0 b1 o1 c1 B C w hH hn hm).mono ?_
    rintro e w' ⟨⟨gn, LN, rfl, hM, hS⟩, hb⟩
    refine ⟨Or.inr ⟨rfl, nearX C, gn, B.length, fun a => (gn + 1 + a, B.length), rfl, rfl, fun a ha => ⟨hM.top a ha, fun c hc => ?_⟩⟩, hb⟩
    have e1 : getF B.length LN a c = nearX C a c := by
      rw [Bool.eq_iff_iff, hS.tru a c ha hc]
      exact ⟨fun h => @decide_eq_true _ (Classical.propDecidable _) h, fun h => @of_decide_eq_true _ (Classical.propDecidable _) h⟩
    rw [← e1]
    exact hM.cell ha hc
  · have hl : (layOf f).near B C = (2, 0) := by
      show (if refMayB B C = true then _ else _) = _
      rw [if_neg (by rw [hm]; simp)]
    rw [hl]
    refine (near_no pv B C w hp hm).mono ?_
    rintro e w' ⟨rfl, hb⟩
    exact ⟨Or.inl ⟨by simp, by simp, by simp, none, 0, rfl⟩, hb⟩
theorem lay_build (hB : BuildSpec f) (hRk : ∀ B C s, (∀ i, i < C.length → 0 ≤ (C.getD i .zero).n ∧ (C.getD i .zero).n < 4294967296) → refMayB B C = true → targetB s = true → placeMayB B C s (f B C s).1 (f B C s).2 = true ∧ RowsOk (f B C s).2) (hDn : DoneSpec) (hPt : PutSpecD) (pv : Value) (B : List Bool) (C : List LIns) (s : Nat) (w : World) (hp : ProgIs w pv B C) :
    Calls Tryz.prog 39 #[pv, .agg #[.int .i64 (s : Int)]] w fun e w' => BuildIs (layOf f) B C s w e w' := by
  refine (hB pv B C s w hp).mono ?_
  rintro e w' ⟨hans, hb⟩
  refine ⟨?_, hb⟩
  rcases hans with ⟨hno, lv, rfl, ao, cap, rfl, -, -⟩ | ⟨hyes, lv, rfl, hpl⟩
  · refine ⟨_, _, _, _, 2, rfl, by omega, by omega, fun _ => ⟨?_, fun I steps => ?_⟩, fun h => absurd h (by omega)⟩
    · show (if (refMayB B C && targetB s) = true then _ else _) = _
      rw [if_neg (by rw [hno]; simp)]
    · show (if (refMayB B C && targetB s) = true then (_ : RunR) else _).err = _
      rw [if_neg (by rw [hno]; simp)]
  · have hpl0 := hpl
    obtain ⟨ao, cap, rfl, -, -⟩ := hpl0
    have hy := hyes
    rw [Bool.and_eq_true] at hy
    obtain ⟨hpm, hrk⟩ := hRk B C s hp.num hy.1 hy.2
    have hbl := put_short hpm
    refine ⟨_, _, _, _, 0, rfl, by omega, by omega, fun h => absurd rfl h, fun _ => ⟨_, _, hpl, fun wx pv2 iv I steps h1 h2 h3 => ?_, fun wx h1 => ?_⟩⟩
    · have he : (layOf f).on B C s I steps = ⟨wrongP B C s (f B C s).1 (f B C s).2 I.length steps, (resP B C s (f B C s).1 (f B C s).2 I steps).state, (resP B C s (f B C s).1 (f B C s).2 I steps).out, ((resP B C s (f B C s).1 (f B C s).2 I steps).steps : Int)⟩ := by
        show (if (refMayB B C && targetB s) = true then _ else _) = _
        rw [if_pos hyes]
      rw [he]
      exact hDn pv2 _ iv B C s (f B C s).1 (f B C s).2 I steps wx h2 h1 hrk h3
    · refine (hPt _ (f B C s).1 (f B C s).2 wx h1 hrk hbl).mono ?_
      rintro e2 w2 ⟨hb2, bv, er, rfl, hcase⟩
      refine ⟨?_, hb2⟩
      rcases hcase with ⟨hsm, rfl, ao2, c2, rfl, -⟩ | ⟨hsm, rfl, ao2, c2, rfl, -⟩
      · have he : (layOf f).bytes B C s = (0, (putB (f B C s).1 (f B C s).2).length) := by
          show (if (refMayB B C && targetB s) = true then _ else _) = _
          rw [if_pos hyes, if_pos ⟨hsm, hbl⟩]
        rw [he]
        exact ⟨_, _, _, rfl, by simp, by simp, fun _ => ⟨rfl, by omega⟩⟩
      · have he : (layOf f).bytes B C s = (1, 0) := by
          show (if (refMayB B C && targetB s) = true then _ else _) = _
          rw [if_pos hyes, if_neg (fun h => by rw [hsm] at h; cases h.1)]
        rw [he]
        exact ⟨_, _, _, rfl, by simp, by simp, fun h => absurd h (by simp)⟩
def BuildMay (f : List Bool → List LIns → Int → Int × List LRow) : Prop := ∀ (B : List Bool) (C : List LIns) (s : Int), (∀ i, i < C.length → 0 ≤ (C.getD i .zero).n ∧ (C.getD i .zero).n < 4294967296) → refMayB B C = true → targetB s = true → placeMayB B C s (f B C s).1 (f B C s).2 = true ∧ RowsOk (f B C s).2
theorem layIs (hR : RunSpec) (hDn : DoneSpec) (hB : BuildSpec f) (hM : BuildMay f) (hPt : PutSpecD) : LayIs (layOf f) :=
  ⟨fun B C I st _ _ => lay_rok B C I st, fun B C s I st _ _ => lay_ook B C s I st, fun pv iv B C I steps w hp hi => hR pv B C iv I steps w hp hi, fun pv B C w hp _ => lay_near pv B C w hp,
    fun pv B C s w hp => lay_build hB hM hDn hPt pv B C s w hp⟩
end
end form
/- Words of an answer (drive: tell, ok, bad, refusal, target). -/
namespace form
open Go.RowKit
set_option maxRecDepth 100000
attribute [local go_sem ↓] Go.wp_at_zero Go.wp_at_succ
def VarAt (B : Nat) (w : World) : Prop := ∀ w', Below B w w' → VarOk w'
theorem VarAt.here {B : Nat} {w : World} (h : VarAt B w) : VarOk w := h w (Below.refl _ _)
theorem VarAt.on {B : Nat} {w w1 : World} (h : VarAt B w) (hb : Below B w w1) : VarAt B w1 := fun w' h' => h w' (hb.trans h')
theorem VarOk.at {w : World} (h : VarOk w) : VarAt w.heap.size w := fun w' hb => h.on hb
def WordsAt (base : Nat) (xs : List (List UInt8)) (v : Value) (w : World) : Prop := w.ownsRow base 9 1 v xs.length (xs.map (fun p => Value.string (str p)))
theorem WordsAt.below {base : Nat} {xs : List (List UInt8)} {v : Value} {w w1 : World} (h : WordsAt base xs v w) (hb : Below w.heap.size w w1) : WordsAt base xs v w1 := rowStr_below h hb
theorem below_grown {w w' : World} (h : Below w.heap.size w w') (r : Option Nat) : w.grownBy w' r := ⟨h.os, h.tape, h.output, h.size, fun k hk _ => h.block k hk⟩
theorem grown_then {w w1 w2 : World} {r r1 : Option Nat} (h : w.grownBy w1 r) (h1 : w1.grownBy w2 r1) (hr : ∀ k, r1 = some k → k < w.heap.size → r = some k) : w.grownBy w2 r :=
  ⟨h1.os.trans h.os, h1.tape.trans h.tape, h1.output.trans h.output, Nat.le_trans h.size h1.size, fun k hk hne => by
    rw [h1.block k (Nat.lt_of_lt_of_le hk h.size) (fun e => hne (hr k e.symm hk).symm)]
    exact h.block k hk hne⟩
theorem size_alloc (w : World) (o : Obj) : (w.alloc o).heap.size = w.heap.size + 1 := Array.size_push _
theorem grown_below {base : Nat} {w w' : World} {r : Option Nat} (h : w.grownBy w' r) (hb : base ≤ w.heap.size) (hr : ∀ k, r = some k → base ≤ k) : Below base w w' := (Below.refl _ _).grown h hb hr
theorem WordsAt.lo {base : Nat} {xs : List (List UInt8)} {v : Value} {w : World} (h : WordsAt base xs v w) : ∀ k, v.ownBlock = some k → base ≤ k := fun k e => (World.ownsRow.lt h k e).1
def NumsAt (k : IntKind) (ao : Option Addr) (l : List Nat) (v : Value) (w : World) : Prop := 0 < l.length → ∃ b o, ao = some ⟨b, o, none⟩ ∧ b < w.heap.size ∧ v.ownBlock ≠ some b ∧ ∀ j, j < l.length → w.cell? ⟨b, o + j, none⟩ = some (.int k ((l.getD j 0 : Nat) : Int))
set_option maxHeartbeats 1600000 in
theorem tellI (base : Nat) (l : List Nat) (xs : List (List UInt8)) (v : Value) (ao : Option Addr) (cap : Nat) (w : World) (hv : VarAt base w) (hbw : base ≤ w.heap.size) (hw : WordsAt base xs v w) (hx : xs.length ≤ 4000000) (hl : l.length ≤ 4000000) (hlt : ∀ x, x ∈ l → x < 9223372036854775808) (hc : NumsAt .i64 ao l v w) :
    Calls Tryz.prog 30 #[v, .slice ao l.length cap] w fun e w' => ∃ v', e = .returned v' ∧ WordsAt base (xs ++ l.map digitsL) v' w' ∧ w.grownBy w' v.ownBlock := by
  have HV : Hid (VarAt base w) := hv
  have HW : Hid (WordsAt base xs v w) := hw
  have HC : Hid (NumsAt .i64 ao l v w) := hc
  have HLT : Hid (∀ x, x ∈ l → x < 9223372036854775808) := hlt
  have hlz : (l.length : Int) ≤ 4000000 := by omega
  clear hv hw hc hlt
  go_enter Tryz.func30, Tryz.ntmps30
  go_wp2
  go_loopg [0, 6, 9] (l.length + 1) (fun gg v0 v6 t wr => ∃ (k : Nat), t = .int .i64 k ∧ k ≤ l.length ∧ gg = l.length + 1 - k ∧ WordsAt base (xs ++ (l.take k).map digitsL) v0 wr ∧ w.grownBy wr v.ownBlock ∧ (v0.ownBlock = v.ownBlock ∨ ∀ b, v0.ownBlock = some b → w.heap.size ≤ b))
  case atStart => exact ⟨0, rfl, by omega, by omega, by simpa using HW.out, ⟨rfl, rfl, rfl, Nat.le_refl _, fun _ _ _ => rfl⟩, Or.inl rfl⟩
  case round =>
    obtain ⟨k, rfl, hk, hgk, hwr, hgr, hob⟩ := hrel
    have HGK : Hid (gk = l.length + 1 - k) := hgk
    have HWR : Hid (WordsAt base (xs ++ (l.take k).map digitsL) u0 wr) := hwr
    have HGR : Hid (w.grownBy wr v.ownBlock) := hgr
    have HOB : Hid (u0.ownBlock = v.ownBlock ∨ ∀ b, u0.ownBlock = some b → w.heap.size ≤ b) := hob
    have HBR : Hid (Below base w wr) := grown_below hgr hbw HW.out.lo
    have hwz := hgr.size
    clear hgk hwr hgr hob
    by_cases hkl : k < l.length
    · have hkz : (k : Int) < (l.length : Int) := by omega
      have hk0 : (0 : Int) ≤ (k : Int) := by omega
      obtain ⟨b, o, rfl, hbl, hne, hcell⟩ := HC.out (by omega)
      have d0 : wr.cell? ⟨b, o + k, none⟩ = some (.int .i64 ((l.getD k 0 : Nat) : Int)) := HGR.out.cell (hcell k hkl) (fun e => hne e.symm)
      obtain ⟨x, hxk⟩ : ∃ x, x = l.getD k 0 := ⟨_, rfl⟩
      rw [← hxk] at d0
      have hxlt : x < 9223372036854775808 := HLT.out x (by rw [hxk]; simp [List.getD, hkl])
      have HX : Hid (x = l.getD k 0) := hxk
      have hbl2 : b < wr.heap.size := by omega
      have HF : Hid (Calls Tryz.prog 50 #[.int .i64 (x : Int), .int .i64 10] wr fun e w' => e = .returned (.string (str (digitsL x))) ∧ Below wr.heap.size wr w') := formatI x (by omega) wr (HV.out.on HBR.out).here
      obtain ⟨d, hd⟩ : ∃ d, d = digitsL x := ⟨_, rfl⟩
      rw [← hd] at HF
      have HD : Hid (d = digitsL x) := hd
      obtain ⟨P, hP⟩ : ∃ P, P = xs ++ (l.take k).map digitsL := ⟨_, rfl⟩
      rw [← hP] at HWR
      have HPL : Hid (P.length ≤ 8000000) := by
        have : P.length ≤ 8000000 := by rw [hP]; simp; omega
        exact this
      have HP : Hid (P = xs ++ (l.take k).map digitsL) := hP
      obtain ⟨t0', hi0, hy0, hy1, hy2⟩ := info_parts infStr
      clear hxk hcell hP hd
      go_upto_region 5 with (first
        | (go_at_call 50; refine HF.out.mono ?_; rintro e w1 ⟨rfl, hb1⟩; have HB1 : Hid (Below wr.heap.size wr w1) := hb1; have hw1z := hb1.size; have HW1 : Hid (WordsAt base P u0 w1) := HWR.out.below hb1; clear hb1)
        | (at_builtin; refine wpList_append_lies _ rfl _ _ 42 rfl base 9 t0' (.string ⟨#[]⟩) 1 16 Tryz.underlying42 hi0 hy0 hy1 hy2 rfl (by decide) u0 P.length (P.map (fun p => Value.string (str p))) rfl (World.ownsRow.alloc HW1.out _) ⟨w1.heap.size, 0, none⟩ 1 1 [.string (str d)] rfl rfl ?c1 ?c2 (by decide) ?c3 ?c4 ?c5 _ rfl ?_))
      case c1 =>
        intro j u hu
        rcases j with _ | j
        · simp at hu; subst hu; simp [go_sem, Addr.add]
        · simp at hu
      case c2 => simp [Value.oneCell']
      case c3 => have := HPL.out; unfold maxLen; omega
      case c4 => have := HPL.out; omega
      case c5 => have := HPL.out; first | omega | (simp; omega)
      intro g9 cap9 w9 hown hgrow hat hlt9
      have HW9 : Hid (WordsAt base (P ++ [d]) (.slice (some ⟨g9, 0, none⟩) (P.length + 1) cap9) w9) := by
        have : WordsAt base (P ++ [d]) (.slice (some ⟨g9, 0, none⟩) (P.length + 1) cap9) w9 := by unfold WordsAt; simpa using hown
        exact this
      have hob1 : ∀ k2, u0.ownBlock = some k2 → k2 < w.heap.size → v.ownBlock = some k2 := fun k2 e hlt2 => by
        rcases HOB.out with h | h
        · rw [← h]; exact e
        · have := h k2 e; omega
      have HG9 : Hid (w.grownBy w9 v.ownBlock) := grown_then (grown_then (grown_then HGR.out (below_grown HB1.out u0.ownBlock) hob1) (World.grownBy_alloc w1 (.cells #[.string (str d)] 9) u0.ownBlock) hob1) hgrow hob1
      have HO9 : Hid ((Value.slice (some ⟨g9, 0, none⟩) (P.length + 1) cap9).ownBlock = v.ownBlock ∨ ∀ b, (Value.slice (some ⟨g9, 0, none⟩) (P.length + 1) cap9).ownBlock = some b → w.heap.size ≤ b) := by
        have : some g9 = v.ownBlock ∨ ∀ b, some g9 = some b → w.heap.size ≤ b := by
          rcases hat with hat | hat
          · rcases HOB.out with h | h
            · left; rw [← h, hat]
            · right; intro b e; have := h g9 hat; have e2 := Option.some.inj e; omega
          · right; intro b e
            have e2 := Option.some.inj e
            have h3 : (w1.alloc (.cells #[.string (str d)] 9)).heap.size = w1.heap.size + 1 := size_alloc _ _
            omega
        exact this
      clear hown hgrow hat hob1
      go_wp2
      have hgk := HGK.out
      go_roundg (gk - 1)
      case measure => omega
      case rel =>
        refine ⟨k + 1, by go_num, by omega, by omega, ?_, HG9.out, HO9.out⟩
        have e : l.take (k + 1) = l.take k ++ [x] := by rw [HX.out, List.take_succ_eq_append_getElem hkl]; simp [List.getD, hkl]
        have e2 : xs ++ (l.take (k + 1)).map digitsL = P ++ [d] := by rw [e, HP.out, HD.out]; simp
        rw [e2]
        exact HW9.out
    · obtain rfl : k = l.length := by omega
      have hkz : ¬ (l.length : Int) < (l.length : Int) := by omega
      go_wp2
      go_ret
      refine ⟨_, rfl, ?_, HGR.out⟩
      have h := HWR.out
      rw [List.take_length] at h
      exact h
set_option maxHeartbeats 1600000 in
theorem tellE (base : Nat) (l : List Nat) (xs : List (List UInt8)) (v : Value) (ao : Option Addr) (cap : Nat) (w : World) (hv : VarAt base w) (hbw : base ≤ w.heap.size) (hw : WordsAt base xs v w) (hx : xs.length ≤ 4000000) (hl : l.length ≤ 4000000) (hlt : ∀ x, x ∈ l → x < 9223372036854775808) (hc : NumsAt .i64 ao l v w) :
    Calls Tryz.prog 51 #[v, .slice ao l.length cap] w fun e w' => ∃ v', e = .returned v' ∧ WordsAt base (xs ++ l.map digitsL) v' w' ∧ w.grownBy w' v.ownBlock := by
  have HV : Hid (VarAt base w) := hv
  have HW : Hid (WordsAt base xs v w) := hw
  have HC : Hid (NumsAt .i64 ao l v w) := hc
  have HLT : Hid (∀ x, x ∈ l → x < 9223372036854775808) := hlt
  have hlz : (l.length : Int) ≤ 4000000 := by omega
  clear hv hw hc hlt
  go_enter Tryz.func51, Tryz.ntmps51
  go_wp2
  go_loopg [0, 6, 9] (l.length + 1) (fun gg v0 v6 t wr => ∃ (k : Nat), t = .int .i64 k ∧ k ≤ l.length ∧ gg = l.length + 1 - k ∧ WordsAt base (xs ++ (l.take k).map digitsL) v0 wr ∧ w.grownBy wr v.ownBlock ∧ (v0.ownBlock = v.ownBlock ∨ ∀ b, v0.ownBlock = some b → w.heap.size ≤ b))
  case atStart => exact ⟨0, rfl, by omega, by omega, by simpa using HW.out, ⟨rfl, rfl, rfl, Nat.le_refl _, fun _ _ _ => rfl⟩, Or.inl rfl⟩
  case round =>
    obtain ⟨k, rfl, hk, hgk, hwr, hgr, hob⟩ := hrel
    have HGK : Hid (gk = l.length + 1 - k) := hgk
    have HWR : Hid (WordsAt base (xs ++ (l.take k).map digitsL) u0 wr) := hwr
    have HGR : Hid (w.grownBy wr v.ownBlock) := hgr
    have HOB : Hid (u0.ownBlock = v.ownBlock ∨ ∀ b, u0.ownBlock = some b → w.heap.size ≤ b) := hob
    have HBR : Hid (Below base w wr) := grown_below hgr hbw HW.out.lo
    have hwz := hgr.size
    clear hgk hwr hgr hob
    by_cases hkl : k < l.length
    · have hkz : (k : Int) < (l.length : Int) := by omega
      have hk0 : (0 : Int) ≤ (k : Int) := by omega
      obtain ⟨b, o, rfl, hbl, hne, hcell⟩ := HC.out (by omega)
      have d0 : wr.cell? ⟨b, o + k, none⟩ = some (.int .i64 ((l.getD k 0 : Nat) : Int)) := HGR.out.cell (hcell k hkl) (fun e => hne e.symm)
      obtain ⟨x, hxk⟩ : ∃ x, x = l.getD k 0 := ⟨_, rfl⟩
      rw [← hxk] at d0
      have hxlt : x < 9223372036854775808 := HLT.out x (by rw [hxk]; simp [List.getD, hkl])
      have HX : Hid (x = l.getD k 0) := hxk
      have hbl2 : b < wr.heap.size := by omega
      have HF : Hid (Calls Tryz.prog 50 #[.int .i64 (x : Int), .int .i64 10] wr fun e w' => e = .returned (.string (str (digitsL x))) ∧ Below wr.heap.size wr w') := formatI x (by omega) wr (HV.out.on HBR.out).here
      obtain ⟨d, hd⟩ : ∃ d, d = digitsL x := ⟨_, rfl⟩
      rw [← hd] at HF
      have HD : Hid (d = digitsL x) := hd
      obtain ⟨P, hP⟩ : ∃ P, P = xs ++ (l.take k).map digitsL := ⟨_, rfl⟩
      rw [← hP] at HWR
      have HPL : Hid (P.length ≤ 8000000) := by
        have : P.length ≤ 8000000 := by rw [hP]; simp; omega
        exact this
      have HP : Hid (P = xs ++ (l.take k).map digitsL) := hP
      obtain ⟨t0', hi0, hy0, hy1, hy2⟩ := info_parts infStr
      clear hxk hcell hP hd
      go_upto_region 5 with (first
        | (go_at_call 50; refine HF.out.mono ?_; rintro e w1 ⟨rfl, hb1⟩; have HB1 : Hid (Below wr.heap.size wr w1) := hb1; have hw1z := hb1.size; have HW1 : Hid (WordsAt base P u0 w1) := HWR.out.below hb1; clear hb1)
        | (at_builtin; refine wpList_append_lies _ rfl _ _ 42 rfl base 9 t0' (.string ⟨#[]⟩) 1 16 Tryz.underlying42 hi0 hy0 hy1 hy2 rfl (by decide) u0 P.length (P.map (fun p => Value.string (str p))) rfl (World.ownsRow.alloc HW1.out _) ⟨w1.heap.size, 0, none⟩ 1 1 [.string (str d)] rfl rfl ?c1 ?c2 (by decide) ?c3 ?c4 ?c5 _ rfl ?_))
      case c1 =>
        intro j u hu
        rcases j with _ | j
        · simp at hu; subst hu; simp [go_sem, Addr.add]
        · simp at hu
      case c2 => simp [Value.oneCell']
      case c3 => have := HPL.out; unfold maxLen; omega
      case c4 => have := HPL.out; omega
      case c5 => have := HPL.out; first | omega | (simp; omega)
      intro g9 cap9 w9 hown hgrow hat hlt9
      have HW9 : Hid (WordsAt base (P ++ [d]) (.slice (some ⟨g9, 0, none⟩) (P.length + 1) cap9) w9) := by
        have : WordsAt base (P ++ [d]) (.slice (some ⟨g9, 0, none⟩) (P.length + 1) cap9) w9 := by unfold WordsAt; simpa using hown
        exact this
      have hob1 : ∀ k2, u0.ownBlock = some k2 → k2 < w.heap.size → v.ownBlock = some k2 := fun k2 e hlt2 => by
        rcases HOB.out with h | h
        · rw [← h]; exact e
        · have := h k2 e; omega
      have HG9 : Hid (w.grownBy w9 v.ownBlock) := grown_then (grown_then (grown_then HGR.out (below_grown HB1.out u0.ownBlock) hob1) (World.grownBy_alloc w1 (.cells #[.string (str d)] 9) u0.ownBlock) hob1) hgrow hob1
      have HO9 : Hid ((Value.slice (some ⟨g9, 0, none⟩) (P.length + 1) cap9).ownBlock = v.ownBlock ∨ ∀ b, (Value.slice (some ⟨g9, 0, none⟩) (P.length + 1) cap9).ownBlock = some b → w.heap.size ≤ b) := by
        have : some g9 = v.ownBlock ∨ ∀ b, some g9 = some b → w.heap.size ≤ b := by
          rcases hat with hat | hat
          · rcases HOB.out with h | h
            · left; rw [← h, hat]
            · right; intro b e; have := h g9 hat; have e2 := Option.some.inj e; omega
          · right; intro b e
            have e2 := Option.some.inj e
            have h3 : (w1.alloc (.cells #[.string (str d)] 9)).heap.size = w1.heap.size + 1 := size_alloc _ _
            omega
        exact this
      clear hown hgrow hat hob1
      go_wp2
      have hgk := HGK.out
      go_roundg (gk - 1)
      case measure => omega
      case rel =>
        refine ⟨k + 1, by go_num, by omega, by omega, ?_, HG9.out, HO9.out⟩
        have e : l.take (k + 1) = l.take k ++ [x] := by rw [HX.out, List.take_succ_eq_append_getElem hkl]; simp [List.getD, hkl]
        have e2 : xs ++ (l.take (k + 1)).map digitsL = P ++ [d] := by rw [e, HP.out, HD.out]; simp
        rw [e2]
        exact HW9.out
    · obtain rfl : k = l.length := by omega
      have hkz : ¬ (l.length : Int) < (l.length : Int) := by omega
      go_wp2
      go_ret
      refine ⟨_, rfl, ?_, HGR.out⟩
      have h := HWR.out
      rw [List.take_length] at h
      exact h
set_option maxHeartbeats 1600000 in
theorem tellU (base : Nat) (l : List Nat) (xs : List (List UInt8)) (v : Value) (ao : Option Addr) (cap : Nat) (w : World) (hv : VarAt base w) (hbw : base ≤ w.heap.size) (hw : WordsAt base xs v w) (hx : xs.length ≤ 4000000) (hl : l.length ≤ 4000000) (hlt : ∀ x, x ∈ l → x < 4294967296) (hc : NumsAt .u32 ao l v w) :
    Calls Tryz.prog 32 #[v, .slice ao l.length cap] w fun e w' => ∃ v', e = .returned v' ∧ WordsAt base (xs ++ l.map digitsL) v' w' ∧ w.grownBy w' v.ownBlock := by
  have HV : Hid (VarAt base w) := hv
  have HW : Hid (WordsAt base xs v w) := hw
  have HC : Hid (NumsAt .u32 ao l v w) := hc
  have HLT : Hid (∀ x, x ∈ l → x < 4294967296) := hlt
  have hlz : (l.length : Int) ≤ 4000000 := by omega
  clear hv hw hc hlt
  go_enter Tryz.func32, Tryz.ntmps32
  go_wp2
  go_loopg [0, 6, 9] (l.length + 1) (fun gg v0 v6 t wr => ∃ (k : Nat), t = .int .i64 k ∧ k ≤ l.length ∧ gg = l.length + 1 - k ∧ WordsAt base (xs ++ (l.take k).map digitsL) v0 wr ∧ w.grownBy wr v.ownBlock ∧ (v0.ownBlock = v.ownBlock ∨ ∀ b, v0.ownBlock = some b → w.heap.size ≤ b))
  case atStart => exact ⟨0, rfl, by omega, by omega, by simpa using HW.out, ⟨rfl, rfl, rfl, Nat.le_refl _, fun _ _ _ => rfl⟩, Or.inl rfl⟩
  case round =>
    obtain ⟨k, rfl, hk, hgk, hwr, hgr, hob⟩ := hrel
    have HGK : Hid (gk = l.length + 1 - k) := hgk
    have HWR : Hid (WordsAt base (xs ++ (l.take k).map digitsL) u0 wr) := hwr
    have HGR : Hid (w.grownBy wr v.ownBlock) := hgr
    have HOB : Hid (u0.ownBlock = v.ownBlock ∨ ∀ b, u0.ownBlock = some b → w.heap.size ≤ b) := hob
    have HBR : Hid (Below base w wr) := grown_below hgr hbw HW.out.lo
    have hwz := hgr.size
    clear hgk hwr hgr hob
    by_cases hkl : k < l.length
    · have hkz : (k : Int) < (l.length : Int) := by omega
      have hk0 : (0 : Int) ≤ (k : Int) := by omega
      obtain ⟨b, o, rfl, hbl, hne, hcell⟩ := HC.out (by omega)
      have d0 : wr.cell? ⟨b, o + k, none⟩ = some (.int .u32 ((l.getD k 0 : Nat) : Int)) := HGR.out.cell (hcell k hkl) (fun e => hne e.symm)
      obtain ⟨x, hxk⟩ : ∃ x, x = l.getD k 0 := ⟨_, rfl⟩
      rw [← hxk] at d0
      have hxlt : x < 4294967296 := HLT.out x (by rw [hxk]; simp [List.getD, hkl])
      have HX : Hid (x = l.getD k 0) := hxk
      have hbl2 : b < wr.heap.size := by omega
      have HF : Hid (Calls Tryz.prog 50 #[.int .i64 (x : Int), .int .i64 10] wr fun e w' => e = .returned (.string (str (digitsL x))) ∧ Below wr.heap.size wr w') := formatI x (by omega) wr (HV.out.on HBR.out).here
      obtain ⟨d, hd⟩ : ∃ d, d = digitsL x := ⟨_, rfl⟩
      rw [← hd] at HF
      have HD : Hid (d = digitsL x) := hd
      obtain ⟨P, hP⟩ : ∃ P, P = xs ++ (l.take k).map digitsL := ⟨_, rfl⟩
      rw [← hP] at HWR
      have HPL : Hid (P.length ≤ 8000000) := by
        have : P.length ≤ 8000000 := by rw [hP]; simp; omega
        exact this
      have HP : Hid (P = xs ++ (l.take k).map digitsL) := hP
      obtain ⟨t0', hi0, hy0, hy1, hy2⟩ := info_parts infStr
      clear hxk hcell hP hd
      go_upto_region 5 with (first
        | (go_at_call 50; refine HF.out.mono ?_; rintro e w1 ⟨rfl, hb1⟩; have HB1 : Hid (Below wr.heap.size wr w1) := hb1; have hw1z := hb1.size; have HW1 : Hid (WordsAt base P u0 w1) := HWR.out.below hb1; clear hb1)
        | (at_builtin; refine wpList_append_lies _ rfl _ _ 42 rfl base 9 t0' (.string ⟨#[]⟩) 1 16 Tryz.underlying42 hi0 hy0 hy1 hy2 rfl (by decide) u0 P.length (P.map (fun p => Value.string (str p))) rfl (World.ownsRow.alloc HW1.out _) ⟨w1.heap.size, 0, none⟩ 1 1 [.string (str d)] rfl rfl ?c1 ?c2 (by decide) ?c3 ?c4 ?c5 _ rfl ?_))
      case c1 =>
        intro j u hu
        rcases j with _ | j
        · simp at hu; subst hu; simp [go_sem, Addr.add]
        · simp at hu
      case c2 => simp [Value.oneCell']
      case c3 => have := HPL.out; unfold maxLen; omega
      case c4 => have := HPL.out; omega
      case c5 => have := HPL.out; first | omega | (simp; omega)
      intro g9 cap9 w9 hown hgrow hat hlt9
      have HW9 : Hid (WordsAt base (P ++ [d]) (.slice (some ⟨g9, 0, none⟩) (P.length + 1) cap9) w9) := by
        have : WordsAt base (P ++ [d]) (.slice (some ⟨g9, 0, none⟩) (P.length + 1) cap9) w9 := by unfold WordsAt; simpa using hown
        exact this
      have hob1 : ∀ k2, u0.ownBlock = some k2 → k2 < w.heap.size → v.ownBlock = some k2 := fun k2 e hlt2 => by
        rcases HOB.out with h | h
        · rw [← h]; exact e
        · have := h k2 e; omega
      have HG9 : Hid (w.grownBy w9 v.ownBlock) := grown_then (grown_then (grown_then HGR.out (below_grown HB1.out u0.ownBlock) hob1) (World.grownBy_alloc w1 (.cells #[.string (str d)] 9) u0.ownBlock) hob1) hgrow hob1
      have HO9 : Hid ((Value.slice (some ⟨g9, 0, none⟩) (P.length + 1) cap9).ownBlock = v.ownBlock ∨ ∀ b, (Value.slice (some ⟨g9, 0, none⟩) (P.length + 1) cap9).ownBlock = some b → w.heap.size ≤ b) := by
        have : some g9 = v.ownBlock ∨ ∀ b, some g9 = some b → w.heap.size ≤ b := by
          rcases hat with hat | hat
          · rcases HOB.out with h | h
            · left; rw [← h, hat]
            · right; intro b e; have := h g9 hat; have e2 := Option.some.inj e; omega
          · right; intro b e
            have e2 := Option.some.inj e
            have h3 : (w1.alloc (.cells #[.string (str d)] 9)).heap.size = w1.heap.size + 1 := size_alloc _ _
            omega
        exact this
      clear hown hgrow hat hob1
      go_wp2
      have hgk := HGK.out
      go_roundg (gk - 1)
      case measure => omega
      case rel =>
        refine ⟨k + 1, by go_num, by omega, by omega, ?_, HG9.out, HO9.out⟩
        have e : l.take (k + 1) = l.take k ++ [x] := by rw [HX.out, List.take_succ_eq_append_getElem hkl]; simp [List.getD, hkl]
        have e2 : xs ++ (l.take (k + 1)).map digitsL = P ++ [d] := by rw [e, HP.out, HD.out]; simp
        rw [e2]
        exact HW9.out
    · obtain rfl : k = l.length := by omega
      have hkz : ¬ (l.length : Int) < (l.length : Int) := by omega
      go_wp2
      go_ret
      refine ⟨_, rfl, ?_, HGR.out⟩
      have h := HWR.out
      rw [List.take_length] at h
      exact h
theorem words_one (w : World) (base : Nat) (x : List UInt8) (hb : base ≤ w.heap.size) : WordsAt base [x] (.slice (some ⟨w.heap.size, 0, none⟩) 1 1) (w.alloc (.cells #[.string (str x)] 9)) :=
  ⟨by simp, Or.inr ⟨w.heap.size, 1, #[.string (str x)], rfl, hb, heap_alloc_new w _, Nat.le_refl _, by unfold maxLen; omega, rfl, rfl⟩⟩
theorem words_none (w : World) (base : Nat) : WordsAt base [] (.slice none 0 0) w := World.ownsRow_nil _ _ _ _
theorem refusalO (w : World) : Calls Tryz.prog 15 #[] w fun e w' => ∃ v', e = .returned v' ∧ WordsAt w.heap.size [sNo] v' w' ∧ Below w.heap.size w w' := by
  have HW : Hid (WordsAt w.heap.size [sNo] (.slice (some ⟨w.heap.size, 0, none⟩) 1 1) (w.alloc (.cells #[.string ⟨#[63]⟩] 9))) := words_one w w.heap.size sNo (Nat.le_refl _)
  go_enter Tryz.func15, Tryz.ntmps15
  go_wp2
  go_ret
  exact ⟨_, rfl, HW.out, (Below.refl _ _).alloc (Nat.le_refl _) _⟩
set_option maxHeartbeats 800000 in
theorem okO (n : Nat) (hn : n < 9223372036854775808) (w : World) (hv : VarOk w) : Calls Tryz.prog 18 #[.int .i64 (n : Int)] w fun e w' => ∃ v', e = .returned v' ∧ WordsAt w.heap.size [sOk, digitsL n] v' w' ∧ Below w.heap.size w w' := by
  obtain ⟨w1, hw1⟩ : ∃ w1, w1 = w.alloc (.cells #[.string ⟨#[111, 107]⟩] 9) := ⟨_, rfl⟩
  obtain ⟨w2, hw2⟩ : ∃ w2, w2 = w1.alloc (.cells #[.int .i64 (n : Int)] 3) := ⟨_, rfl⟩
  have s1 : w1.heap.size = w.heap.size + 1 := by rw [hw1]; exact size_alloc _ _
  have s2 : w2.heap.size = w1.heap.size + 1 := by rw [hw2]; exact size_alloc _ _
  have b1 : Below w.heap.size w w1 := by rw [hw1]; exact (Below.refl _ _).alloc (Nat.le_refl _) _
  have b2 : Below w1.heap.size w1 w2 := by rw [hw2]; exact (Below.refl _ _).alloc (Nat.le_refl _) _
  have hw : WordsAt w.heap.size [sOk] (.slice (some ⟨w.heap.size, 0, none⟩) 1 1) w1 := by rw [hw1]; exact words_one w w.heap.size sOk (Nat.le_refl _)
  have b3 := step_below b2 b1
  have hc : NumsAt .i64 (some ⟨w1.heap.size, 0, none⟩) [n] (.slice (some ⟨w.heap.size, 0, none⟩) 1 1) w2 := fun _ => ⟨w1.heap.size, 0, rfl, by omega, by simp [Value.ownBlock]; omega, fun j hj => by
    have : j = 0 := by simpa using hj
    subst this
    rw [hw2]
    simp [go_sem]⟩
  have H := tellI w.heap.size [n] [sOk] (.slice (some ⟨w.heap.size, 0, none⟩) 1 1) (some ⟨w1.heap.size, 0, none⟩) 1 w2 (hv.at.on b3) (by omega) (hw.below b2) (by simp) (by simp) (fun x hx => by rw [List.mem_singleton.1 hx]; exact hn) hc
  have HT : Hid (Calls Tryz.prog 30 #[.slice (some ⟨w.heap.size, 0, none⟩) 1 1, .slice (some ⟨w.heap.size + 1, 0, none⟩) 1 1] w2 fun e w' => ∃ v', e = .returned v' ∧ WordsAt w.heap.size [sOk, digitsL n] v' w' ∧ w2.grownBy w' (some w.heap.size)) := by rw [s1] at H; exact H
  have HB : Hid (Below w.heap.size w w2) := b3
  have HS : Hid (w2.heap.size = w1.heap.size + 1 ∧ w1.heap.size = w.heap.size + 1) := ⟨s2, s1⟩
  have HE : Hid (((w.alloc (.cells #[.string ⟨#[111, 107]⟩] 9)).alloc (.cells #[.int .i64 (n : Int)] 3)) = w2) := (by rw [hw2, hw1] : _ = w2)
  clear hv hw b1 b2 b3 hc H s1 s2 hw1 hw2
  go_enter Tryz.func18, Tryz.ntmps18
  go_wp2_with (rw [HE.out]; go_at_call 30; refine HT.out.mono ?_; rintro e w' ⟨v', rfl, hq, hg⟩; have HQ : Hid (WordsAt w.heap.size [sOk, digitsL n] v' w') := hq; have HG : Hid (w2.grownBy w' (some w.heap.size)) := hg; clear hq hg)
  go_ret
  have hs := HS.out
  exact ⟨_, rfl, HQ.out, HB.out.grown HG.out (by omega) (fun k e => by have := Option.some.inj e; omega)⟩
set_option maxHeartbeats 800000 in
theorem badO (n : Nat) (hn : n < 9223372036854775808) (w : World) (hv : VarOk w) : Calls Tryz.prog 31 #[.int .i64 (n : Int)] w fun e w' => ∃ v', e = .returned v' ∧ WordsAt w.heap.size [sBad, digitsL n] v' w' ∧ Below w.heap.size w w' := by
  obtain ⟨w1, hw1⟩ : ∃ w1, w1 = w.alloc (.cells #[.string ⟨#[98, 97, 100]⟩] 9) := ⟨_, rfl⟩
  obtain ⟨w2, hw2⟩ : ∃ w2, w2 = w1.alloc (.cells #[.int .i64 (n : Int)] 57) := ⟨_, rfl⟩
  have s1 : w1.heap.size = w.heap.size + 1 := by rw [hw1]; exact size_alloc _ _
  have s2 : w2.heap.size = w1.heap.size + 1 := by rw [hw2]; exact size_alloc _ _
  have b1 : Below w.heap.size w w1 := by rw [hw1]; exact (Below.refl _ _).alloc (Nat.le_refl _) _
  have b2 : Below w1.heap.size w1 w2 := by rw [hw2]; exact (Below.refl _ _).alloc (Nat.le_refl _) _
  have hw : WordsAt w.heap.size [sBad] (.slice (some ⟨w.heap.size, 0, none⟩) 1 1) w1 := by rw [hw1]; exact words_one w w.heap.size sBad (Nat.le_refl _)
  have b3 := step_below b2 b1
  have hc : NumsAt .i64 (some ⟨w1.heap.size, 0, none⟩) [n] (.slice (some ⟨w.heap.size, 0, none⟩) 1 1) w2 := fun _ => ⟨w1.heap.size, 0, rfl, by omega, by simp [Value.ownBlock]; omega, fun j hj => by
    have : j = 0 := by simpa using hj
    subst this
    rw [hw2]
    simp [go_sem]⟩
  have H := tellE w.heap.size [n] [sBad] (.slice (some ⟨w.heap.size, 0, none⟩) 1 1) (some ⟨w1.heap.size, 0, none⟩) 1 w2 (hv.at.on b3) (by omega) (hw.below b2) (by simp) (by simp) (fun x hx => by rw [List.mem_singleton.1 hx]; exact hn) hc
  have HT : Hid (Calls Tryz.prog 51 #[.slice (some ⟨w.heap.size, 0, none⟩) 1 1, .slice (some ⟨w.heap.size + 1, 0, none⟩) 1 1] w2 fun e w' => ∃ v', e = .returned v' ∧ WordsAt w.heap.size [sBad, digitsL n] v' w' ∧ w2.grownBy w' (some w.heap.size)) := by rw [s1] at H; exact H
  have HB : Hid (Below w.heap.size w w2) := b3
  have HS : Hid (w2.heap.size = w1.heap.size + 1 ∧ w1.heap.size = w.heap.size + 1) := ⟨s2, s1⟩
  have HE : Hid (((w.alloc (.cells #[.string ⟨#[98, 97, 100]⟩] 9)).alloc (.cells #[.int .i64 (n : Int)] 57)) = w2) := (by rw [hw2, hw1] : _ = w2)
  clear hv hw b1 b2 b3 hc H s1 s2 hw1 hw2
  go_enter Tryz.func31, Tryz.ntmps31
  go_wp2_with (rw [HE.out]; go_at_call 51; refine HT.out.mono ?_; rintro e w' ⟨v', rfl, hq, hg⟩; have HQ : Hid (WordsAt w.heap.size [sBad, digitsL n] v' w') := hq; have HG : Hid (w2.grownBy w' (some w.heap.size)) := hg; clear hq hg)
  go_ret
  have hs := HS.out
  exact ⟨_, rfl, HQ.out, HB.out.grown HG.out (by omega) (fun k e => by have := Option.some.inj e; omega)⟩
set_option maxHeartbeats 800000 in
theorem targetO (n : Nat) (hn : n < 4294967296) (w : World) : Calls Tryz.prog 22 #[.int .u32 (n : Int)] w fun e w' => e = .returned (.agg #[.int .i64 (n : Int)]) ∧ Below w.heap.size w w' := by
  have HB : Hid (∀ o : Obj, Below w.heap.size w (w.alloc o)) := fun o => (Below.refl _ _).alloc (Nat.le_refl _) _
  have hnz : (n : Int) < 4294967296 := by omega
  go_enter Tryz.func22, Tryz.ntmps22
  go_wp2
  refine bodyPost_ret (v := .agg #[.int .i64 (n : Int)]) ?_ rfl ?_
  · simp [results, Tryz.results22, go_sem]
  · exact ⟨rfl, HB.out _⟩
end form
/- The words of a line (drive: number, mayFollow, parse). -/
namespace form
open Go.RowKit
set_option maxRecDepth 100000
attribute [local go_sem ↓] Go.wp_at_zero Go.wp_at_succ
attribute [local go_sem] str_size str_list ByteArray.toList_mk
def NumbP (s : List UInt8) (w : World) (e : Ending) (w' : World) : Prop := (∃ (x : Nat) (ok : Bool), e = .returned (.tuple #[.int .u32 (x : Int), .bool ok]) ∧ x < 4294967296 ∧ (if ok = true then numL s = some x else numL s = none)) ∧ Below w.heap.size w w'
set_option maxHeartbeats 1600000 in
theorem numberO (s : List UInt8) (hs : s.length ≤ 4000000) (w : World) (hv : VarOk w) : Calls Tryz.prog 28 #[.string (str s)] w fun e w' => NumbP s w e w' := by
  have HV : Hid (VarOk w) := hv
  have HP := parseU s (by omega) w hv
  clear hv
  by_cases hx : ∃ v, Lib.parseUintB 32 s = .ok v
  · obtain ⟨v, hv⟩ := hx
    have hvl : v < 4294967296 := ((parse_of s v).1 hv).2.2.2
    have hvz : (v : Int) < 4294967296 := by omega
    have HPV : Hid (Lib.parseUintB 32 s = .ok v) := hv
    have H1 : Hid (Calls Tryz.prog 48 #[.string (str s), .int .i64 10, .int .i64 32] w fun e w' => e = .returned (.tuple #[.int .u64 (v : Nat), .nilIface]) ∧ Below w.heap.size w w') := HP.mono (by
      rintro e w' ⟨⟨v2, h2, rfl⟩ | ⟨h2, _⟩, hb⟩
      · have e2 := hv.symm.trans h2
        injection e2 with e2
        subst e2
        exact ⟨rfl, hb⟩
      · exact absurd hv (h2 v))
    have HF : Hid (∀ w1, VarOk w1 → Calls Tryz.prog 49 #[.int .u64 (v : Int), .int .i64 10] w1 fun e w' => e = .returned (.string (str (digitsL v))) ∧ Below w1.heap.size w1 w') := fun w1 h1 => formatU v (by omega) w1 h1
    obtain ⟨d, hd⟩ : ∃ d, d = digitsL v := ⟨_, rfl⟩
    rw [← hd] at HF
    have HD : Hid (d = digitsL v) := hd
    have hde := lit_eq d s
    obtain ⟨z, hz⟩ : ∃ z, z = decide (d = s) := ⟨_, rfl⟩
    rw [← hz] at hde
    have HZ : Hid (z = decide (d = s)) := hz
    clear hv hd hz HP
    go_enter Tryz.func28, Tryz.ntmps28
    go_wp2_with (first
      | (go_at_call 48; refine H1.out.mono ?_; rintro e w1 ⟨rfl, hb1⟩; have HB1 : Hid (Below w.heap.size w w1) := hb1; clear hb1)
      | (go_at_call 49; refine (HF.out _ (HV.out.on HB1.out)).mono ?_; rintro e w2 ⟨rfl, hb2⟩; have HB2 : Hid (Below w.heap.size w w2) := step_below hb2 HB1.out; clear hb2))
    go_ret2
    refine ⟨⟨v, z, rfl, hvl, ?_⟩, HB2.out⟩
    rcases Bool.eq_false_or_eq_true z with h | h
    · rw [if_pos h]
      rw [h] at HZ
      have e := of_decide_eq_true HZ.out.symm
      exact numL_yes HPV.out (by rw [← digits_dec, ← HD.out]; exact e)
    · rw [if_neg (by rw [h]; decide)]
      rw [h] at HZ
      have e := of_decide_eq_false HZ.out.symm
      refine numL_no fun x hx => ?_
      have e2 := HPV.out.symm.trans hx
      injection e2 with e2
      rw [← digits_dec, ← e2, ← HD.out]
      exact e
  · have HNO : Hid (∀ v, Lib.parseUintB 32 s ≠ .ok v) := fun v h => hx ⟨v, h⟩
    have H1 : Hid (Calls Tryz.prog 48 #[.string (str s), .int .i64 10, .int .i64 32] w fun e w' => ∃ (n : Nat) (tp : TypeId) (p : Value), n < 4294967296 ∧ e = .returned (.tuple #[.int .u64 n, .iface tp p]) ∧ Below w.heap.size w w') := HP.mono (by
      rintro e w' ⟨⟨v2, h2, rfl⟩ | ⟨h2, n, tp, p, hn, rfl⟩, hb⟩
      · exact absurd ⟨v2, h2⟩ hx
      · exact ⟨n, tp, p, hn, rfl, hb⟩)
    clear hx HP
    go_enter Tryz.func28, Tryz.ntmps28
    go_wp2_with (go_at_call 48; refine H1.out.mono ?_; rintro e w1 ⟨n, tp, p, hn, rfl, hb1⟩; have hnz : (n : Int) < 4294967296 := (by omega); have HB1 : Hid (Below w.heap.size w w1) := hb1; clear hb1)
    go_ret2
    exact ⟨⟨n, false, rfl, hn, by rw [if_neg (by decide)]; exact numL_no fun v hv => absurd hv (HNO.out v)⟩, HB1.out⟩
def mayL (s : List UInt8) (n : Nat) : Bool := if s = sNarrow ∨ s = sWide ∨ s = sNear then decide (n = 0) else if s = sRun ∨ s = sBytes then decide (n = 1) else if s = sOn then decide (n = 2) else if s = sCode then decide (n = 6) else decide (s = sIns)
theorem mayFollowO (s : List UInt8) (n : Nat) (w : World) : Calls Tryz.prog 29 #[.string (str s), .int .i64 (n : Int)] w fun e w' => e = .returned (.bool (mayL s n)) ∧ w' = w := by
  have e1 := lit_eq s [110, 97, 114, 114, 111, 119]
  have e2 := lit_eq s [119, 105, 100, 101]
  have e3 := lit_eq s [110, 101, 97, 114]
  have e4 := lit_eq s [114, 117, 110]
  have e5 := lit_eq s [98, 121, 116, 101, 115]
  have e6 := lit_eq s [111, 110]
  have e7 := lit_eq s [99, 111, 100, 101]
  have e8 := lit_eq s [105, 110, 115]
  have n0 : ((n : Int) == 0) = decide (n = 0) := by by_cases h : n = 0 <;> simp [h]
  have n1 : ((n : Int) == 1) = decide (n = 1) := by
    by_cases h : n = 1
    · simp [h]
    · have : ¬ (n : Int) = 1 := by omega
      simp [h, this]
  have n2 : ((n : Int) == 2) = decide (n = 2) := by
    by_cases h : n = 2
    · simp [h]
    · have : ¬ (n : Int) = 2 := by omega
      simp [h, this]
  have n6 : ((n : Int) == 6) = decide (n = 6) := by
    by_cases h : n = 6
    · simp [h]
    · have : ¬ (n : Int) = 6 := by omega
      simp [h, this]
  have hM : mayL s n = (if s = sNarrow ∨ s = sWide ∨ s = sNear then decide (n = 0) else if s = sRun ∨ s = sBytes then decide (n = 1) else if s = sOn then decide (n = 2) else if s = sCode then decide (n = 6) else decide (s = sIns)) := rfl
  obtain ⟨m, hm⟩ : ∃ m, m = mayL s n := ⟨_, rfl⟩
  rw [← hm] at hM ⊢
  have HM : Hid (m = (if s = sNarrow ∨ s = sWide ∨ s = sNear then decide (n = 0) else if s = sRun ∨ s = sBytes then decide (n = 1) else if s = sOn then decide (n = 2) else if s = sCode then decide (n = 6) else decide (s = sIns))) := hM
  clear hm hM
  obtain ⟨z0, hz0⟩ : ∃ z, z = decide (n = 0) := ⟨_, rfl⟩
  obtain ⟨z1, hz1⟩ : ∃ z, z = decide (n = 1) := ⟨_, rfl⟩
  obtain ⟨z2, hz2⟩ : ∃ z, z = decide (n = 2) := ⟨_, rfl⟩
  obtain ⟨z6, hz6⟩ : ∃ z, z = decide (n = 6) := ⟨_, rfl⟩
  rw [← hz0] at n0 HM
  rw [← hz1] at n1 HM
  rw [← hz2] at n2 HM
  rw [← hz6] at n6 HM
  clear hz0 hz1 hz2 hz6
  by_cases h1 : s = sNarrow
  · rw [decide_eq_true (show s = [110, 97, 114, 114, 111, 119] from h1)] at e1
    have HE : Hid (m = z0) := HM.out.trans (if_pos (Or.inl h1))
    clear h1 HM
    go_enter Tryz.func29, Tryz.ntmps29
    go_wp2
    go_ret
    exact ⟨by rw [HE.out]; rfl, rfl⟩
  rw [decide_eq_false (show ¬ s = [110, 97, 114, 114, 111, 119] from h1)] at e1
  by_cases h2 : s = sWide
  · rw [decide_eq_true (show s = [119, 105, 100, 101] from h2)] at e2
    have HE : Hid (m = z0) := HM.out.trans (if_pos (Or.inr (Or.inl h2)))
    clear h1 h2 HM
    go_enter Tryz.func29, Tryz.ntmps29
    go_wp2
    go_ret
    exact ⟨by rw [HE.out]; rfl, rfl⟩
  rw [decide_eq_false (show ¬ s = [119, 105, 100, 101] from h2)] at e2
  by_cases h3 : s = sNear
  · rw [decide_eq_true (show s = [110, 101, 97, 114] from h3)] at e3
    have HE : Hid (m = z0) := HM.out.trans (if_pos (Or.inr (Or.inr h3)))
    clear h1 h2 h3 HM
    go_enter Tryz.func29, Tryz.ntmps29
    go_wp2
    go_ret
    exact ⟨by rw [HE.out]; rfl, rfl⟩
  rw [decide_eq_false (show ¬ s = [110, 101, 97, 114] from h3)] at e3
  have H3 : Hid (¬ (s = sNarrow ∨ s = sWide ∨ s = sNear)) := fun h => by rcases h with h | h | h; exact h1 h; exact h2 h; exact h3 h
  clear h1 h2 h3
  by_cases h4 : s = sRun
  · rw [decide_eq_true (show s = [114, 117, 110] from h4)] at e4
    have HE : Hid (m = z1) := HM.out.trans ((if_neg H3.out).trans (if_pos (Or.inl h4)))
    clear h4 HM
    go_enter Tryz.func29, Tryz.ntmps29
    go_wp2
    go_ret
    exact ⟨by rw [HE.out]; rfl, rfl⟩
  rw [decide_eq_false (show ¬ s = [114, 117, 110] from h4)] at e4
  by_cases h5 : s = sBytes
  · rw [decide_eq_true (show s = [98, 121, 116, 101, 115] from h5)] at e5
    have HE : Hid (m = z1) := HM.out.trans ((if_neg H3.out).trans (if_pos (Or.inr h5)))
    clear h4 h5 HM
    go_enter Tryz.func29, Tryz.ntmps29
    go_wp2
    go_ret
    exact ⟨by rw [HE.out]; rfl, rfl⟩
  rw [decide_eq_false (show ¬ s = [98, 121, 116, 101, 115] from h5)] at e5
  have H5 : Hid (¬ (s = sRun ∨ s = sBytes)) := fun h => by rcases h with h | h; exact h4 h; exact h5 h
  clear h4 h5
  by_cases h6 : s = sOn
  · rw [decide_eq_true (show s = [111, 110] from h6)] at e6
    have HE : Hid (m = z2) := HM.out.trans ((if_neg H3.out).trans ((if_neg H5.out).trans (if_pos h6)))
    clear h6 HM
    go_enter Tryz.func29, Tryz.ntmps29
    go_wp2
    go_ret
    exact ⟨by rw [HE.out]; rfl, rfl⟩
  rw [decide_eq_false (show ¬ s = [111, 110] from h6)] at e6
  by_cases h7 : s = sCode
  · rw [decide_eq_true (show s = [99, 111, 100, 101] from h7)] at e7
    have HE : Hid (m = z6) := HM.out.trans ((if_neg H3.out).trans ((if_neg H5.out).trans ((if_neg h6).trans (if_pos h7))))
    clear h6 h7 HM
    go_enter Tryz.func29, Tryz.ntmps29
    go_wp2
    go_ret
    exact ⟨by rw [HE.out]; rfl, rfl⟩
  rw [decide_eq_false (show ¬ s = [99, 111, 100, 101] from h7)] at e7
  have HE : Hid (m = decide (s = sIns)) := HM.out.trans ((if_neg H3.out).trans ((if_neg H5.out).trans ((if_neg h6).trans (if_neg h7))))
  obtain ⟨z8, hz8⟩ : ∃ z, z = decide (s = [105, 110, 115]) := ⟨_, rfl⟩
  rw [← hz8] at e8
  have HZ8 : Hid (z8 = decide (s = [105, 110, 115])) := hz8
  clear h6 h7 HM hz8
  go_enter Tryz.func29, Tryz.ntmps29
  go_wp2
  go_ret
  exact ⟨by rw [HE.out, HZ8.out]; rfl, rfl⟩
end form
end Go.Proofs.YtikhedkhgpjaaacGreatDoor
