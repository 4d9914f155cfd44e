/- What the program tells of what may not be in one place (near.Of). -/
import Derived.Test.YtgeimilnddpdmabNearGiven
namespace Go.Proofs.Ytgeimilnddpdmab.form
open Go.RowKit
set_option linter.unusedVariables false
attribute [local go_sem ↓] Go.wp_at_zero Go.wp_at_succ

theorem nearF_iff {nB : Nat} {C : List LIns} {LN : List Bool} (hS : Snd nB C LN) (hC : Cls nB C LN) (hok : ∀ k, k < C.length → InsOk nB C.length (C.getD k .zero)) {k a b : Nat} (hk : k < C.length) (hb : b < nB) : NearF nB C LN k a b ↔ NearAt C k a b := by
  unfold NearF NearAt
  refine and_congr Iff.rfl (and_congr Iff.rfl ?_)
  constructor
  · rintro ⟨x, hx, ht⟩
    have h2 := goes_there hx
    unfold goesI at hx
    exact ⟨x.toNat, List.mem_map.2 ⟨x, (List.mem_filter.1 hx).1, rfl⟩, (flat_need hS hC (by omega) hb).1 ht⟩
  · rintro ⟨y, hy, hn⟩
    obtain ⟨x, hx, rfl⟩ := List.mem_map.1 hy
    have hb0 := nexts_bd (hok k hk) hk x hx
    have hl := need_lt hn
    refine ⟨x, ?_, (flat_need hS hC hl hb).2 hn⟩
    unfold goesI
    refine List.mem_filter.2 ⟨hx, ?_⟩
    unfold thereB
    simp
    omega

/-- What is near by what is needed first and by the instructions below k. -/
def AllP (nB : Nat) (C : List LIns) (LN : List Bool) (k : Nat) (x y : Nat) : Prop :=
  ¬ x = y ∧ ((getF nB LN 0 x = true ∧ getF nB LN 0 y = true) ∨ ∃ k', k' < k ∧ (NearF nB C LN k' x y ∨ NearF nB C LN k' y x))

theorem AllP.step {nB : Nat} {C : List LIns} {LN : List Bool} {k x y : Nat} : GivenP (AllP nB C LN k) nB C LN k x y ↔ AllP nB C LN (k + 1) x y := by
  unfold GivenP AllP
  constructor
  · rintro (⟨h1, h2 | ⟨k', hk, h2⟩⟩ | ⟨h1, h2⟩)
    · exact ⟨h1, Or.inl h2⟩
    · exact ⟨h1, Or.inr ⟨k', by omega, h2⟩⟩
    · exact ⟨h1, Or.inr ⟨k, by omega, h2⟩⟩
  · rintro ⟨h1, h2 | ⟨k', hk, h2⟩⟩
    · exact Or.inl ⟨h1, Or.inl h2⟩
    · by_cases e : k' < k
      · exact Or.inl ⟨h1, Or.inr ⟨k', e, h2⟩⟩
      · obtain rfl : k' = k := by omega
        exact Or.inr ⟨h1, h2⟩

theorem AllP.near {nB : Nat} {C : List LIns} {LN : List Bool} (hS : Snd nB C LN) (hC : Cls nB C LN) (hok : ∀ k, k < C.length → InsOk nB C.length (C.getD k .zero)) (hl : 1 ≤ C.length) {x y : Nat} (hx : x < nB) (hy : y < nB) : AllP nB C LN C.length x y ↔ Near C x y := by
  unfold AllP Near
  refine and_congr (by omega) (or_congr (and_congr (flat_need hS hC (by omega) hx) (flat_need hS hC (by omega) hy)) ?_)
  constructor
  · rintro ⟨k, hk, h⟩
    exact ⟨k, hk, h.imp (nearF_iff hS hC hok hk hy).1 (nearF_iff hS hC hok hk hx).1⟩
  · rintro ⟨k, hk, h⟩
    exact ⟨k, hk, h.imp (nearF_iff hS hC hok hk hy).2 (nearF_iff hS hC hok hk hx).2⟩

theorem Apart.row {lo hi : Nat} {w w' : World} {b : Nat} {t : TypeId} {cs : List Value} (h : Apart lo hi w w') (hr : Row w b t cs) (hn : ¬ (lo ≤ b ∧ b < hi)) : Row w' b t cs := by
  have := hr.lt
  unfold Row at *
  rw [h.block b this hn]; exact hr
theorem Apart.matF {lo hi : Nat} {w w' : World} {g nB nC : Nat} {L : List Bool} (h : Apart lo hi w w') (hM : MatF g nB nC L w) (hg : g + nC < lo) : MatF g nB nC L w' :=
  ⟨hM.len, fun k hk => h.cell (hM.top k hk) (by dsimp only; omega), fun k hk => h.row (hM.row k hk) (by omega)⟩

/-- The answer of near.Of where the program may be. -/
def OwnNear (nB : Nat) (C : List LIns) (e : Ending) (w : World) : Prop := ∃ gn L, e = .returned (.tuple #[.slice (some ⟨gn, 0, none⟩) nB nB, .int .i64 0]) ∧ MatF gn nB nB L w ∧ NrS nB L (fun x y => Near C x y)

set_option maxRecDepth 100000 in
set_option maxHeartbeats 1000000 in
theorem near_yes (b0 o0 c0 b1 o1 c1 : Nat) (B : List Bool) (C : List LIns) (w : World) (h : Held w b0 o0 b1 o1 B C) (hn : ∀ i, i < C.length → 0 ≤ (C.getD i .zero).n ∧ (C.getD i .zero).n < 4294967296) (hm : refMayB B C = true) :
    Calls Try.prog 20 #[progV b0 o0 B.length c0 b1 o1 C.length c1] w fun e w' => OwnNear B.length C e w' ∧ Below w.heap.size w w' := by
  have hs : sizesB B C = true := by unfold refMayB at hm; simp only [Bool.and_eq_true] at hm; exact hm.1
  obtain ⟨s1, s2, s3, s4⟩ := sizes_of hs
  have HOWN : Hid (∀ wx : World, Below w.heap.size w wx → Calls Try.prog 48 #[progV b0 o0 B.length c0 b1 o1 C.length c1] wx fun e w' => OwnAnsF wx.heap.size B.length C e w' ∧ Below wx.heap.size wx w') := fun wx hb => own_yesF b0 o0 c0 b1 o1 c1 B C wx (h.later hb) hn hm
  have HNO : Hid (∀ wx : World, Calls Try.prog 49 #[.int .i64 B.length] wx fun e w' => e = .returned (.slice (some ⟨wx.heap.size, 0, none⟩) B.length B.length) ∧ MatF wx.heap.size B.length B.length (List.replicate (B.length * B.length) false) w' ∧ Below wx.heap.size wx w') := fun wx => none5 B.length wx s2
  have HOK : Hid (∀ k, k < C.length → InsOk B.length C.length (C.getD k .zero)) := all_insOk hm hn
  have HKN : Hid (∀ k, k < C.length → knownB (C.getD k .zero).op = true) := all_known hm
  have HH : Hid (∀ wx : World, Below w.heap.size w wx → Held wx b0 o0 b1 o1 B C) := fun wx hb => h.later hb
  have hh0 := h.lt0
  have hh1 := h.lt1
  have y2 : (C.length : Int) ≤ 40 := by omega
  have y3 : (B.length : Int) ≤ 12 := by omega
  have y4 : (1 : Int) ≤ (C.length : Int) := by omega
  clear h hn hm hs
  unfold progV
  go_enter Try.func20, Try.ntmps20
  go_wp2_with (first
    | (go_at_call 48; refine (HOWN.out _ ?_).mono ?_; (exact (Below.refl _ _).alloc (Nat.le_refl _) _); rintro e w1 ⟨⟨g, LN, hg, rfl, hM1, hS1, hC1⟩, hb1⟩; have p0 : w1.cell? ⟨w.heap.size, 0, none⟩ = some (.slice (some ⟨b0, o0, none⟩) B.length c0) := step_cell hb1 (by simp [go_sem]); have p1 : w1.cell? ⟨w.heap.size, 1, none⟩ = some (.slice (some ⟨b1, o1, none⟩) C.length c1) := step_cell hb1 (by simp [go_sem]); have HB1 : Hid (Below w.heap.size w w1) := over_alloc hb1; have HM1 : Hid (MatF g B.length C.length LN w1) := hM1; have HS1 : Hid (Snd B.length C LN) := hS1; have HC1 : Hid (Cls B.length C LN) := hC1; clear hb1 hM1 hS1 hC1)
    | (go_at_call 49; refine (HNO.out _).mono ?_; rintro e w2 ⟨rfl, hM2, hb2⟩; have HM2 : Hid (MatF w1.heap.size B.length B.length (List.replicate (B.length * B.length) false) w2) := hM2; have HB2 : Hid (Below w.heap.size w w2) := step_below hb2 HB1.out; have HG2 : Hid (MatF g B.length C.length LN w2) := HM1.out.below hb2; have m0 := (HM1.out.below hb2).top 0 (by omega); have r0 := step_cell hb2 p0; have r1 := step_cell hb2 p1; have hgz : g + C.length < w1.heap.size := by (have := (HM1.out.row (C.length - 1) (by omega)).lt; omega)
       have hz2 : w1.heap.size + B.length < w2.heap.size := by (have := (hM2.row (B.length - 1) (by omega)).lt; omega)
       have hz1 : w.heap.size < w1.heap.size := World.block_lt_of_cell? w1 _ p0
       have hgw : w.heap.size < w2.heap.size := World.block_lt_of_cell? w2 _ r0
       have hgw2 : g < w2.heap.size := World.block_lt_of_cell? w2 _ m0
       clear hM2 hb2 p0 p1
       have HJF : Hid (∀ wx : World, Below w2.heap.size w2 wx → wx.cell? ⟨w2.heap.size, 0, none⟩ = some (.slice (some ⟨w1.heap.size, 0, none⟩) B.length B.length) → Calls Try.prog 51 #[.slice (some ⟨g + 1, 0, none⟩) B.length B.length, .func (.func 50) #[] #[.pointer (some ⟨w2.heap.size, 0, none⟩)]] wx fun e w' => e = .returned (.tuple #[]) ∧ ∃ L, NM wx w1.heap.size w2.heap.size B.length L w' ∧ NrS B.length L (AllP B.length C LN 0)) := (fun wx hb hx => by
         refine (joinFirst w1.heap.size w2.heap.size (g + 1) B.length (rowF B.length LN 0) _ _ wx s2 (by omega) (by omega) (fun j hj => by rw [getD_rowF hj]; exact step_cell hb (HG2.out.cell (k := 0) (by omega) hj)) ⟨Apart.refl _ _ _, HM2.out.below hb, hx⟩ (NrS.nothing _)).mono ?_
         rintro e w' ⟨rfl, L, h1, h2⟩
         refine ⟨rfl, L, h1, h2.congr fun x y hx hy => ?_⟩
         unfold FirstP AllP
         rw [getD_rowF hx, getD_rowF hy]
         simp [hx, hy]))
    | (go_at_call 51; refine (HJF.out _ ?_ ?_).mono ?_; (exact (Below.refl _ _).alloc (Nat.le_refl _) _); (simp [go_sem]); rintro e w3 ⟨rfl, L, hnm, hns⟩; have HNM : Hid (NM (w2.alloc (.cells #[.slice (some ⟨w1.heap.size, 0, none⟩) B.length B.length] 31)) w1.heap.size w2.heap.size B.length L w3) := hnm; have HNS : Hid (NrS B.length L (AllP B.length C LN 0)) := hns; have r2 : w3.cell? ⟨w.heap.size, 0, none⟩ = some (.slice (some ⟨b0, o0, none⟩) B.length c0) := hnm.bel.cell (step_cell ((Below.refl _ _).alloc (Nat.le_refl _) _) r0) (by dsimp only; omega); have r3 : w3.cell? ⟨w.heap.size, 1, none⟩ = some (.slice (some ⟨b1, o1, none⟩) C.length c1) := hnm.bel.cell (step_cell ((Below.refl _ _).alloc (Nat.le_refl _) _) r1) (by dsimp only; omega); clear hnm hns))
  obtain ⟨W, hW⟩ : ∃ W, W = w2.alloc (.cells #[.slice (some ⟨w1.heap.size, 0, none⟩) B.length B.length] 31) := ⟨_, rfl⟩
  rw [← hW] at HNM
  have hbW : Below w2.heap.size w2 W := by rw [hW]; exact (Below.refl _ _).alloc (Nat.le_refl _) _
  have HBW : Hid (Below w.heap.size w W) := step_below hbW HB2.out
  have HGW : Hid (MatF g B.length C.length LN W) := HG2.out.below hbW
  have t0 := step_cell hbW r0
  have t1 := step_cell hbW r1
  have hzW : w2.heap.size ≤ W.heap.size := hbW.size
  obtain ⟨gn, hgn⟩ : ∃ gn, gn = w1.heap.size := ⟨_, rfl⟩
  obtain ⟨bx, hbx⟩ : ∃ bx, bx = w2.heap.size := ⟨_, rfl⟩
  rw [← hgn, ← hbx] at HNM
  rw [← hgn] at hgz hz2 hz1
  rw [← hbx] at hz2 hzW hgw hgw2
  rw [← hbx]
  have HC0 : Hid (∀ (wx : World) (L : List Bool), NM W gn bx B.length L wx → wx.cell? ⟨w.heap.size, 0, none⟩ = some (.slice (some ⟨b0, o0, none⟩) B.length c0) ∧ wx.cell? ⟨w.heap.size, 1, none⟩ = some (.slice (some ⟨b1, o1, none⟩) C.length c1)) :=
    fun wx L hm => ⟨hm.bel.cell t0 (by dsimp only; omega), hm.bel.cell t1 (by dsimp only; omega)⟩
  have HBE : Hid (∀ (wx : World) (L : List Bool), NM W gn bx B.length L wx → Below w.heap.size w wx) := fun wx L hm => HBW.out.trans ((hm.bel.below (by omega)).mono (by omega))
  have HJG : Hid (∀ (wx : World) (L : List Bool) (k : Nat), NM W gn bx B.length L wx → k < C.length → NrS B.length L (AllP B.length C LN k) → Calls Try.prog 52 #[progV b0 o0 B.length c0 b1 o1 C.length c1, .slice (some ⟨g, 0, none⟩) C.length C.length, .int .i64 k, .func (.func 50) #[] #[.pointer (some ⟨bx, 0, none⟩)]] wx fun e w' => e = .returned (.tuple #[]) ∧ ∃ L', NM W gn bx B.length L' w' ∧ NrS B.length L' (AllP B.length C LN (k + 1))) := fun wx L k hm hk hs => by
    refine (joinGiven gn bx g b0 o0 c0 b1 o1 c1 B C LN L (AllP B.length C LN k) k wx s2 s4 (by omega) (by omega) (by omega) (by omega) (HH.out _ (HBE.out wx L hm)) HOK.out HKN.out (hm.bel.matF HGW.out (by omega)) hk ⟨Apart.refl _ _ _, hm.mat, hm.box⟩ hs s1).mono ?_
    rintro e w' ⟨rfl, L', h1, h2⟩
    exact ⟨rfl, L', ⟨hm.bel.trans h1.bel, h1.mat, h1.box⟩, h2.congr fun x y _ _ => AllP.step⟩
  clear HJF HNO HOWN HB1 HM1 HM2 HB2 HG2 m0 r0 r1 r2 r3 t0 t1 hW hbW hgn hbx hg
  unfold progV at HJG
  go_loopw [30] (fun kv wr => ∃ (k : Nat) (L : List Bool), kv = .int .i64 k ∧ k ≤ C.length ∧ NM W gn bx B.length L wr ∧ NrS B.length L (AllP B.length C LN k)) (fun kv _ => C.length - (intOf kv).toNat)
  case atStart => exact ⟨0, L, rfl, by omega, HNM.out, HNS.out⟩
  case round =>
    clear HNM HNS
    obtain ⟨k, L, rfl, hk, hnm, hns⟩ := hrel
    have HNM : Hid (NM W gn bx B.length L wr) := hnm
    have HNS : Hid (NrS B.length L (AllP B.length C LN k)) := hns
    obtain ⟨p0, p1⟩ := HC0.out wr L hnm
    have px := hnm.box
    clear hnm hns
    by_cases hlt : k < C.length
    case neg =>
      have y9 : ¬ (k : Int) < (C.length : Int) := by omega
      obtain rfl : k = C.length := by omega
      go_wp2
      refine bodyPost_ret (v := .tuple #[.slice (some ⟨gn, 0, none⟩) B.length B.length, .int .i64 0]) ?_ rfl ⟨⟨gn, L, rfl, HNM.out.mat, HNS.out.congr fun x y hx hy => AllP.near HS1.out HC1.out HOK.out s3 hx hy⟩, HBE.out _ _ HNM.out⟩
      simp [results, Try.results20, go_sem]
    have y8 : (k : Int) < (C.length : Int) := by omega
    have y7 : (0 : Int) ≤ (k : Int) := by omega
    go_wp2_with (go_at_call 52; refine (HJG.out _ L k HNM.out hlt HNS.out).mono ?_; rintro e w5 ⟨rfl, L', h1, h2⟩; have HN5 : Hid (NM W gn bx B.length L' w5) := h1; have HS5 : Hid (NrS B.length L' (AllP B.length C LN (k + 1))) := h2; clear h1 h2)
    exact ⟨⟨k + 1, L', by go_num, by omega, HN5.out, HS5.out⟩, by simp [intOf]; omega⟩

/-- Where it may not be. -/
theorem near_no (v : Value) (B : List Bool) (C : List LIns) (w : World) (h : ProgIs w v B C) (hm : refMayB B C = false) :
    Calls Try.prog 20 #[v] w fun e w' => e = .returned (.tuple #[.slice none 0 0, .int .i64 2]) ∧ Below w.heap.size w w' := by
  have h0 := h
  obtain ⟨⟨a0, c0, a1, c1, rfl, -⟩, -, -, -⟩ := h0
  have HO : Hid (∀ wx : World, Below w.heap.size w wx → Calls Try.prog 48 #[.agg #[.slice a0 B.length c0, .slice a1 C.length c1]] wx fun e w' => e = .returned (.tuple #[.slice none 0 0, .int .i64 2]) ∧ Below wx.heap.size wx w') := fun wx hb => own_no _ B C wx (h.later hb) hm
  clear h hm
  go_enter Try.func20, Try.ntmps20
  go_wp2_with (go_at_call 48; refine (HO.out _ ?_).mono ?_; (exact (Below.refl _ _).alloc (Nat.le_refl _) _); rintro e w1 ⟨rfl, hb1⟩; have HB1 : Hid (Below w.heap.size w w1) := over_alloc hb1; clear hb1)
  refine bodyPost_ret (v := .tuple #[.slice none 0 0, .int .i64 2]) ?_ rfl ⟨rfl, HB1.out⟩
  simp [results, Try.results20, go_sem]

end Go.Proofs.Ytgeimilnddpdmab.form
