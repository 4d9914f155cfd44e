/- Registers for temporaries: the program's own color.Make answers as it must. -/
import Derived.Test.YtikhedkhgpjaaacGreatDoorW30
import Derived.Test.YtikhedkhgpjaaacGreatDoorW16
import Derived.Test.YtikhedkhgpjaaacGreatDoorW19

namespace Go.Proofs.YtikhedkhgpjaaacGreatDoor
set_option linter.unusedVariables false
namespace form
open Go.RowKit
set_option maxRecDepth 100000
attribute [local go_sem ↓] Go.wp_at_zero Go.wp_at_succ
structure CmS (B : List Bool) (C : List LIns) (n gv : Nat) (w4 : World) (G : List LPlace) (wr : World) : Prop where
  len : G.length = B.length
  row : Row wr gv 137 (G.flatMap rgCs)
  grown : w4.grownBy wr (some gv)
theorem CmS.step {B : List Bool} {C : List LIns} {n gv : Nat} {w4 : World} {G : List LPlace} {wr w6 : World} (h : CmS B C n gv w4 G wr) (hb : Below wr.heap.size wr w6) {t : Nat} {q : LPlace} :
    CmS B C n gv w4 (G.set t q) ((w6.setCell ⟨gv, t * 2, none⟩ (.int .i64 q.kind)).setCell ⟨gv, t * 2 + 1, none⟩ (.int .i64 q.n)) := by
  refine ⟨by simp [h.len], ?_, ?_⟩
  · have := ((h.row.below hb).set (t * 2) (.int .i64 q.kind)).set (t * 2 + 1) (.int .i64 q.n)
    rwa [flat_set] at this
  · have hg := h.grown
    refine ⟨hb.os.trans hg.os, hb.tape.trans hg.tape, hb.output.trans hg.output, ?_, fun k hk hne => ?_⟩
    · have h1 := hg.size
      have h2 := hb.size
      simp [World.setCell]
      omega
    · have hk2 : k < wr.heap.size := Nat.lt_of_lt_of_le hk hg.size
      have hne2 : k ≠ gv := fun e => hne (by rw [e])
      rw [Below.heap_setCell _ _ _ _ (fun e => hne2 (by simpa using e)), Below.heap_setCell _ _ _ _ (fun e => hne2 (by simpa using e)), hb.block k hk2]
      exact hg.block k hk hne
set_option maxHeartbeats 1600000 in
theorem make_no (pv : Value) (B : List Bool) (C : List LIns) (n : Int) (w : World) (hp : ProgIs w pv B C) (hm : refMayB B C = false) :
    Calls Tryz.prog 97 #[pv, .int .i64 n] w fun e w' => e = .returned (.tuple #[.slice none 0 0, .int .i64 2]) ∧ Below w.heap.size w w' := by
  have h0 := hp
  obtain ⟨⟨a0, c0, a1, c1, rfl, -⟩, -, -, -⟩ := h0
  have HO : Hid (∀ wx : World, Below w.heap.size w wx → Calls Tryz.prog 41 #[.agg #[.slice a0 B.length c0, .slice a1 C.length c1]] wx fun e w' => e = .returned (.tuple #[.slice none 0 0, .int .i64 2]) ∧ Below wx.heap.size wx w') := fun wx hb => near_no _ B C wx (hp.later hb) hm
  clear hp hm
  go_enter Tryz.func97, Tryz.ntmps97
  go_wp2_with (go_at_call 41; refine (HO.out _ ?_).mono ?_; (exact (Below.refl _ _).alloc (Nat.le_refl _) _); rintro e w1 ⟨rfl, hb1⟩; have HB1 : Hid (Below w.heap.size w w1) := over_alloc hb1; clear hb1)
  refine bodyPost_ret (v := .tuple #[.slice none 0 0, .int .i64 2]) ?_ rfl ⟨rfl, HB1.out⟩
  simp [results, Tryz.results97, go_sem]
set_option maxHeartbeats 1600000 in
theorem make_range (b0 o0 c0 b1 o1 c1 : Nat) (B : List Bool) (C : List LIns) (n : Int) (w : World) (h : Held w b0 o0 b1 o1 B C) (hn : ∀ i, i < C.length → 0 ≤ (C.getD i .zero).n ∧ (C.getD i .zero).n < 4294967296) (hm : refMayB B C = true) (hbad : mayN n = false) :
    Calls Tryz.prog 97 #[progV b0 o0 B.length c0 b1 o1 C.length c1, .int .i64 n] w fun e w' => e = .returned (.tuple #[.slice none 0 0, .int .i64 3]) ∧ Below w.heap.size w w' := by
  have HO : Hid (∀ wx : World, Below w.heap.size w wx → Calls Tryz.prog 41 #[progV b0 o0 B.length c0 b1 o1 C.length c1] wx fun e w' => OwnNear B.length C e w' ∧ Below wx.heap.size wx w') := fun wx hb => near_yes b0 o0 c0 b1 o1 c1 B C wx (h.later hb) hn hm
  have HS : Hid (∀ wx : World, Calls Tryz.prog 130 #[.int .i64 n] wx fun e w' => e = .returned (.bool false) ∧ w' = wx) := fun wx => by have := singlesO n wx; rwa [hbad] at this
  clear h hn hm hbad
  unfold progV at HO ⊢
  go_enter Tryz.func97, Tryz.ntmps97
  go_wp2_with (first
    | (go_at_call 41; refine (HO.out _ ?_).mono ?_; (exact (Below.refl _ _).alloc (Nat.le_refl _) _); rintro e w1 ⟨⟨gn, L, rfl, -, -⟩, hb1⟩; have HB1 : Hid (Below w.heap.size w w1) := over_alloc hb1; clear hb1)
    | (go_at_call 130; refine (HS.out _).mono ?_; rintro e w2 ⟨rfl, hw2⟩; obtain rfl := hw2.symm))
  refine bodyPost_ret (v := .tuple #[.slice none 0 0, .int .i64 3]) ?_ rfl ⟨rfl, HB1.out⟩
  simp [results, Tryz.results97, go_sem]
def FreshAt (w w' : World) (v : Value) (L : List LPlace) : Prop := ∃ gv cap, v = .slice (some ⟨gv, 0, none⟩) L.length cap ∧ w.heap.size ≤ gv ∧ Row w' gv 137 (L.flatMap rgCs)
def MakeP (B : List Bool) (C : List LIns) (n : Nat) (w : World) (e : Ending) (w' : World) : Prop := (∃ v, e = .returned (.tuple #[v, .int .i64 0]) ∧ PlacesIs w' v (makeF B C n) ∧ FreshAt w w' v (makeF B C n)) ∧ Below w.heap.size w w'
set_option maxHeartbeats 3200000 in
theorem make_yes (b0 o0 c0 b1 o1 c1 : Nat) (B : List Bool) (C : List LIns) (n : Nat) (w : World) (h : Held w b0 o0 b1 o1 B C) (hn : ∀ i, i < C.length → 0 ≤ (C.getD i .zero).n ∧ (C.getD i .zero).n < 4294967296) (hm : refMayB B C = true) (h2 : n % 2 = 0) (h16 : n ≤ 16) :
    Calls Tryz.prog 97 #[progV b0 o0 B.length c0 b1 o1 C.length c1, .int .i64 n] w fun e w' => MakeP B C n w e w' := by
  have hs : sizesB B C = true := by
    have hm0 := hm
    unfold refMayB at hm0
    simp only [Bool.and_eq_true] at hm0
    exact hm0.1
  obtain ⟨s1, s2, s3, s4⟩ := sizes_of hs
  have HO : Hid (∀ wx : World, Below w.heap.size w wx → Calls Tryz.prog 41 #[progV b0 o0 B.length c0 b1 o1 C.length c1] wx fun e w' => OwnNear B.length C e w' ∧ Below wx.heap.size wx w') := fun wx hb => near_yes b0 o0 c0 b1 o1 c1 B C wx (h.later hb) hn hm
  have HS : Hid (∀ wx : World, Calls Tryz.prog 130 #[.int .i64 n] wx fun e w' => e = .returned (.bool true) ∧ w' = wx) := fun wx => by
    have h1 := singlesO n wx
    have h3 : mayN n = true := by
      unfold mayN
      simp
      omega
    rwa [h3] at h1
  have HH : Hid (∀ wx : World, Below w.heap.size w wx → ∀ i, i < B.length → wx.cell? ⟨b0, o0 + i, none⟩ = some (.bool (B.getD i false))) := fun wx hb => (h.later hb).wide
  have hb0 := h.lt0
  have HB0 : Hid (b0 < w.heap.size) := hb0
  have y1 : (B.length : Int) ≤ 12 := by omega
  have y2 : (1 : Int) ≤ (B.length : Int) := by omega
  have y3 : (n : Int) ≤ 16 := by omega
  have hmk := fun wx => makePl B.length s2 wx
  clear h hn hm hs
  unfold progV at HO ⊢
  go_enter Tryz.func97, Tryz.ntmps97
  go_upto_region 7 with (first
    | (go_at_call 41; refine (HO.out _ ?_).mono ?_; (exact (Below.refl _ _).alloc (Nat.le_refl _) _); rintro e w1 ⟨⟨gn, L, rfl, hM1, hN1⟩, hb1⟩; have HN1 : Hid (L = nearL B.length C) := near_only hN1; have p0 : w1.cell? ⟨w.heap.size, 0, none⟩ = some (.slice (some ⟨b0, o0, none⟩) B.length c0) := step_cell hb1 (by simp [go_sem]); have HB1 : Hid (Below w.heap.size w w1) := over_alloc hb1; have HM1 : Hid (MatF gn B.length B.length L w1) := hM1; have hp1 : w.heap.size < w1.heap.size := World.block_lt_of_cell? _ _ p0; clear hb1 hM1 hN1)
    | (go_at_call 130; refine (HS.out _).mono ?_; rintro e w2 ⟨rfl, hw2⟩; obtain rfl := hw2.symm))
  obtain ⟨w3, hw3⟩ : ∃ w3, w3 = w1.alloc (.cells ((List.replicate B.length LPlace.zero).flatMap rgCs).toArray 137) := ⟨_, rfl⟩
  have hb3 : Below w1.heap.size w1 w3 := by rw [hw3]; exact (Below.refl _ _).alloc (Nat.le_refl _) _
  have hr3 : Row w3 w1.heap.size 137 ((List.replicate B.length LPlace.zero).flatMap rgCs) := by rw [hw3]; exact Row.new _ _ _
  rw [← hw3]
  obtain ⟨gv, hgv⟩ : ∃ gv, gv = w1.heap.size := ⟨_, rfl⟩
  have hgn : gn + B.length < gv := by
    have := (HM1.out.row (B.length - 1) (by omega)).lt
    omega
  have p3 := step_cell hb3 p0
  have HB3 : Hid (Below w.heap.size w w3) := step_below hb3 HB1.out
  have HM3 : Hid (MatF gn B.length B.length L w3) := HM1.out.below hb3
  rw [← hgv] at hr3 hp1 ⊢
  have HR3 : Hid (Row w3 gv 137 ((List.replicate B.length LPlace.zero).flatMap rgCs)) := hr3
  have hg3 := hr3.lt
  clear hmk hw3 hb3 hr3 hgv p0 HB1 HM1 HO HS
  go_wp2_with (go_at_call 131; refine (orderO b0 o0 c0 gn B L n _ s1 s2 HM3.out (HH.out _ HB3.out) (by have := HB3.out.size; have := HB0.out; omega)).mono ?_; obtain ⟨l, hl0⟩ : ∃ l, l = orderL B L n := ⟨_, rfl⟩; have HL0 : Hid (l = orderL B L n) := hl0; rw [← hl0]; clear hl0; rintro e w4 ⟨⟨ob, oc, rfl, hl12, ho1, ho2, hcs⟩, hb4⟩; have HB4 : Hid (Below w.heap.size w w4) := step_below hb4 HB3.out; have HM4 : Hid (MatF gn B.length B.length L w4) := HM3.out.below hb4; have HR4 : Hid (Row w4 gv 137 ((List.replicate B.length LPlace.zero).flatMap rgCs)) := HR3.out.below hb4; have p4 := step_cell hb4 p3; have HCS : Hid (∀ j, j < l.length → w4.cell? ⟨ob, j, none⟩ = some (.int .i64 (l.getD j 0 : Nat)) ∧ l.getD j 0 < B.length) := hcs; have HS4 : Hid (w3.heap.size ≤ w4.heap.size) := hb4.size; clear hb4 hcs)
  have y4 : (l.length : Int) ≤ 12 := by omega
  have HP4 : Hid (w4.cell? ⟨w.heap.size, 0, none⟩ = some (.slice (some ⟨b0, o0, none⟩) B.length c0)) := p4
  clear p3 p4 HB3 HM3 HR3
  go_loopg [10, 32] (l.length + 1) (fun gg v10 v32 wr => ∃ (k : Nat) (G : List LPlace), v32 = .int .i64 k ∧ k ≤ l.length ∧ gg = l.length + 1 - k ∧ CmS B C n gv w4 G wr ∧ mkG B L n (l.drop k) G = makeF B C n)
  case atStart => exact ⟨0, _, rfl, by omega, by omega, ⟨by simp, HR4.out, ⟨rfl, rfl, rfl, Nat.le_refl _, fun _ _ _ => rfl⟩⟩, by unfold makeF; rw [List.drop_zero, HL0.out, HN1.out]⟩
  case round =>
    clear HR4
    obtain ⟨k, G, rfl, hk, hgk, hmk, hmg⟩ := hrel
    have HMG : Hid (mkG B L n (l.drop k) G = makeF B C n) := hmg
    clear hmg
    have HGK : Hid (gk = l.length + 1 - k) := hgk
    have HMK : Hid (CmS B C n gv w4 G wr) := hmk
    clear hgk hmk
    by_cases hlt : k < l.length
    case neg =>
      have y5 : ¬ (k : Int) < (l.length : Int) := by omega
      have hGl := HMK.out.len
      have HPL : Hid (PlacesIs wr (.slice (some ⟨gv, 0, none⟩) B.length B.length) (makeF B C n)) := by
        have := row_places (cap := B.length) HMK.out.row (by omega)
        rw [hGl] at this
        have e : G = makeF B C n := by
          have := HMG.out
          rw [List.drop_eq_nil_of_le (by omega)] at this
          exact this
        rw [e] at this
        exact this
      have HFA : Hid (FreshAt w wr (.slice (some ⟨gv, 0, none⟩) B.length B.length) (makeF B C n)) := by
        have e : G = makeF B C n := by
          have := HMG.out
          rw [List.drop_eq_nil_of_le (by omega)] at this
          exact this
        have hr := HMK.out.row
        rw [e] at hr hGl
        exact ⟨gv, B.length, by rw [hGl], by omega, hr⟩
      have HBE : Hid (Below w.heap.size w wr) := HB4.out.grown HMK.out.grown HB4.out.size (fun j hj => by simp at hj; omega)
      go_wp2
      refine bodyPost_ret (v := .tuple #[.slice (some ⟨gv, 0, none⟩) B.length B.length, .int .i64 0]) ?_ rfl ⟨⟨_, rfl, HPL.out, HFA.out⟩, HBE.out⟩
      simp [results, Tryz.results97, go_sem]
    have y5 : (k : Int) < (l.length : Int) := by omega
    have y6 : (0 : Int) ≤ (k : Int) := by omega
    have hGl := HMK.out.len
    obtain ⟨k1, ht⟩ := HCS.out k hlt
    have HSTP : Hid (makeF B C n = mkG B L n (l.drop (k + 1)) (G.set (l.getD k 0) (freeL (regsL (B.getD (l.getD k 0) false) n) G (rowF B.length L (l.getD k 0))))) := by
      show makeF B C n = _
      have e : l.drop k = l.getD k 0 :: l.drop (k + 1) := by
        rw [List.drop_eq_getElem_cons hlt]
        simp [List.getD, hlt]
      rw [← HMG.out, e]
      rfl
    obtain ⟨t, ht0⟩ : ∃ t, t = l.getD k 0 := ⟨_, rfl⟩
    rw [← ht0] at k1 ht HSTP
    clear ht0
    have hgr := HMK.out.grown
    have d1 : wr.cell? ⟨ob, k, none⟩ = some (.int .i64 (t : Nat)) := hgr.cell k1 (by simp; omega)
    have d2 : wr.cell? ⟨w.heap.size, 0, none⟩ = some (.slice (some ⟨b0, o0, none⟩) B.length c0) := hgr.cell HP4.out (by simp; omega)
    have d3 : wr.cell? ⟨b0, o0 + t, none⟩ = some (.bool (B.getD t false)) := hgr.cell (HH.out _ HB4.out t ht) (by have := HB0.out; simp; omega)
    have d4 : wr.cell? ⟨gn, t, none⟩ = some (.slice (some ⟨gn + 1 + t, 0, none⟩) B.length B.length) := hgr.cell (HM4.out.top t ht) (by simp; omega)
    have hTR : TruAt wr (gn + 1 + t) (rowF B.length L t) := fun j hj => by
      rw [len_rowF] at hj
      rw [getD_rowF hj]
      exact hgr.cell (HM4.out.cell ht hj) (by simp; omega)
    have HFR : Hid (∀ (rv : Value) (lo : Nat) (rl : List LPlace) (wx : World), Below wr.heap.size wr wx → RegsAt wx lo rv rl → rl.length ≤ 16 → Calls Tryz.prog 132 #[rv, .slice (some ⟨gv, 0, none⟩) B.length B.length, .slice (some ⟨gn + 1 + t, 0, none⟩) B.length B.length] wx fun e w' => FreeP rl G (rowF B.length L t) wx e w') := fun rv lo rl wx hb hrv hrl => by
      have := freeO lo rv rl gv (gn + 1 + t) B.length B.length G (rowF B.length L t) wx hrv hrl (by rw [len_rowF, hGl]) (by omega) (row_giv (HMK.out.row.below hb)) (hTR.later hb)
      rwa [len_rowF, hGl] at this
    have f1 := fun j => HMK.out.row.frozen j
    have f2 : wr.cell? ⟨gv, t * 2, none⟩ = some (.int .i64 (G.getD t .zero).kind) := (row_giv HMK.out.row t (by omega)).1
    have f3 : wr.cell? ⟨gv, t * 2 + 1, none⟩ = some (.int .i64 (G.getD t .zero).n) := (row_giv HMK.out.row t (by omega)).2
    have y7 : (t : Int) < (B.length : Int) := by omega
    have y8 : (0 : Int) ≤ (t : Int) := by omega
    obtain ⟨x, hx⟩ : ∃ x, x = B.getD t false := ⟨_, rfl⟩
    rw [← hx] at d3 HSTP
    have HX : Hid (x = B.getD t false) := hx
    have hbg : b0 < gv := by have := HB0.out; omega
    clear hx hgr hTR k1 hGl
    have HRG : Hid (∀ wx : World, Calls Tryz.prog 133 #[.bool x, .int .i64 n] wx fun e w' => (∃ v, e = .returned v ∧ RegsAt w' wx.heap.size v (regsL x n)) ∧ Below wx.heap.size wx w') := fun wx => registersO x n h16 wx
    go_wp2
    go_region_held3 (fun w' => w'.cell? ⟨w.heap.size, 0, none⟩ = some (.slice (some ⟨b0, o0, none⟩) B.length c0) ∧ w'.cell? ⟨b0, o0 + t, none⟩ = some (.bool x) ∧ w'.cell? ⟨gn, t, none⟩ = some (.slice (some ⟨gn + 1 + t, 0, none⟩) B.length B.length))
      ((go_split_ands; refine ⟨?_, ?_, ?_⟩ <;> first | exact step_cell hbc (by assumption) | assumption | exact cell_other (cell_other (by assumption) (by dsimp only; omega)) (by dsimp only; omega) | (go_keep; done)))
      (first
        | (go_at_call 133; refine (HRG.out _).mono ?_; rintro e w5 ⟨⟨rv, rfl, hrv⟩, hbc⟩; have HB5 : Hid (Below wr.heap.size wr w5) := step_below hbc (Below.refl _ _).drew; have HRV : Hid (RegsAt w5 wr.heap.size rv (regsL x n)) := hrv; clear hrv)
        | (go_at_call 132; refine (HFR.out rv _ (regsL x n) _ HB5.out HRV.out (regs_len x n h16)).mono ?_; obtain ⟨q, hqq⟩ : ∃ q, q = freeL (regsL x n) G (rowF B.length L t) := ⟨_, rfl⟩; have HQ : Hid (q = freeL (regsL x n) G (rowF B.length L t)) := hqq; unfold FreeP; rw [← hqq]; clear hqq; rintro e w6 ⟨hq0, hbc⟩; have hq1 : e = .returned (.agg #[.int .i64 q.kind, .int .i64 q.n]) := hq0; subst hq1; have HB6 : Hid (Below wr.heap.size wr w6) := step_below hbc HB5.out; have g2 := step_cell HB6.out f2; have g3 := step_cell HB6.out f3; have g4 : w6.frozen? ⟨gv, t * 2, none⟩ = false := (by rw [HB6.out.frozen (World.block_lt_of_cell? _ _ f2)]; exact f1 _); have g5 : w6.frozen? ⟨gv, t * 2 + 1, none⟩ = false := (by rw [HB6.out.frozen (World.block_lt_of_cell? _ _ f3)]; exact f1 _); clear hq0))
    have HN : Hid (CmS B C n gv w4 (G.set t q) ((w6.setCell ⟨gv, t * 2, none⟩ (.int .i64 q.kind)).setCell ⟨gv, t * 2 + 1, none⟩ (.int .i64 q.n))) := by
      exact HMK.out.step HB6.out
    clear g2 g3 g4 g5 f1 f2 f3 d1 d2 d3 d4
    go_wp2
    have hgk := HGK.out
    go_roundg (gk - 1)
    case measure => omega
    case rel => exact ⟨k + 1, G.set t q, by go_num, by omega, by omega, HN.out, by rw [HSTP.out, HQ.out]⟩
def ColorFun (F : List Bool → List LIns → Nat → List LPlace) : Prop := ∀ (pv : Value) (B : List Bool) (C : List LIns) (n : Int) (w : World), ProgIs w pv B C →
  Calls Tryz.prog 97 #[pv, .int .i64 n] w fun e w' =>
    ((refMayB B C = false ∧ e = .returned (.tuple #[.slice none 0 0, .int .i64 2])) ∨ (refMayB B C = true ∧ badN n ∧ e = .returned (.tuple #[.slice none 0 0, .int .i64 3])) ∨
      (refMayB B C = true ∧ ¬ badN n ∧ ∃ v, e = .returned (.tuple #[v, .int .i64 0]) ∧ PlacesIs w' v (F B C n.toNat) ∧ FreshAt w w' v (F B C n.toNat))) ∧ Below w.heap.size w w'
theorem makeFO : ColorFun makeF := by
  intro pv B C n w hp
  rcases Bool.eq_false_or_eq_true (refMayB B C) with hm | hm
  · have hs : sizesB B C = true := by
      have hm0 := hm
      unfold refMayB at hm0
      simp only [Bool.and_eq_true] at hm0
      exact hm0.1
    obtain ⟨s1, s2, s3, s4⟩ := sizes_of hs
    obtain ⟨⟨a0, c0, a1, c1, rfl, hh⟩, -, -, hn⟩ := hp
    obtain ⟨b0, o0, b1, o1, rfl, rfl, hH⟩ := hh s1 s3
    rcases Bool.eq_false_or_eq_true (mayN n) with hb | hb
    · have hnb : ¬ badN n := fun h => by rw [(mayN_bad n).2 h] at hb; cases hb
      obtain ⟨N, rfl⟩ : ∃ N : Nat, n = N := ⟨n.toNat, by unfold badN at hnb; omega⟩
      refine (make_yes b0 o0 c0 b1 o1 c1 B C N w hH hn hm (by unfold badN at hnb; omega) (by unfold badN at hnb; omega)).mono ?_
      rintro e w' ⟨h1, h2⟩
      exact ⟨Or.inr (Or.inr ⟨hm, hnb, h1⟩), h2⟩
    · refine (make_range b0 o0 c0 b1 o1 c1 B C n w hH hn hm hb).mono ?_
      rintro e w' ⟨rfl, h2⟩
      exact ⟨Or.inr (Or.inl ⟨hm, (mayN_bad n).1 hb, rfl⟩), h2⟩
  · refine (make_no pv B C n w hp hm).mono ?_
    rintro e w' ⟨rfl, h2⟩
    exact ⟨Or.inl ⟨hm, rfl⟩, h2⟩
end form
/- Places that are taken still are, where something is moved into a slot more ahead of an instruction. On plain numbers. -/
namespace form
open Go.RowKit num
end form
/- Places in which each temporary has a home: what is taken is brought from there, what is given is put there: they are taken. On plain numbers. -/
namespace form
open Go.RowKit
theorem same_is {a b : LPlace} (h : samePl a b = true) : a = b := samePl_eq h
theorem same_refl (p : LPlace) : samePl p p = true := by unfold samePl; simp
structure RowHome (B : List Bool) (C : List LIns) (home : Nat → LPlace) (k : Nat) (i : LIns) (r : LRow) : Prop where
  keep : ∀ m, m ∈ r.before → ∀ t : Nat, t < B.length → Need C t k → overB (home t) m.dst = false
  ua : 0 < manyI i.op → r.a = home i.a.toNat ∨ ∃ pre post, r.before = pre ++ ⟨r.a, home i.a.toNat, false, 0⟩ :: post ∧ ∀ m, m ∈ post → overB r.a m.dst = false
  ub : 1 < manyI i.op → r.b = home i.b.toNat ∨ ∃ pre post, r.before = pre ++ ⟨r.b, home i.b.toNat, false, 0⟩ :: post ∧ ∀ m, m ∈ post → overB r.b m.dst = false
  dest : givesB i.op = true → (r.dest = home i.dest.toNat ∧ r.after = []) ∨
    (r.after = [⟨home i.dest.toNat, r.dest, false, 0⟩] ∧ ∀ t : Nat, t < B.length → ¬ (t : Int) = i.dest → (∃ x, x ∈ nextsN i k ∧ Need C t x) → overB (home t) r.dest = false)
  none : givesB i.op = false → r.after = []
structure HomeOk (B : List Bool) (C : List LIns) (s slots : Int) (home : Nat → LPlace) : Prop where
  is : ∀ t, t < B.length → isB s slots (home t) = true
  fit : ∀ t, t < B.length → (home t).kind = 3 ∨ (home t).kind = if B.getD t false then 2 else 1
  apart : ∀ a b : Nat, a < B.length → b < B.length → Near C a b → overB (home a) (home b) = false
end form
/- Homes out of registers that color.Make gave, and of slots: none in the way of another one that is near, nor of registers that are left over. On plain numbers. -/
namespace form
open Go.RowKit
def homeC (off : Nat) (slot : Nat → Nat) (G : List LPlace) (t : Nat) : LPlace :=
  if (G.getD t .zero).kind = 0 then ⟨3, slot t⟩ else if (G.getD t .zero).kind = 1 then ⟨1, (G.getD t .zero).n + (off : Int)⟩ else ⟨2, (G.getD t .zero).n + ((off / 2 : Nat) : Int)⟩
theorem home_cases {B : List Bool} {C : List LIns} {n off : Nat} {slot : Nat → Nat} {G : List LPlace} (hG : GivOk B C n G) {t : Nat} (ht : t < B.length) :
    ((G.getD t .zero).kind = 0 ∧ homeC off slot G t = ⟨3, slot t⟩) ∨
    (B.getD t false = false ∧ (G.getD t .zero).kind = 1 ∧ 0 ≤ (G.getD t .zero).n ∧ (G.getD t .zero).n < n ∧ homeC off slot G t = ⟨1, (G.getD t .zero).n + (off : Int)⟩) ∨
    (B.getD t false = true ∧ (G.getD t .zero).kind = 2 ∧ 0 ≤ (G.getD t .zero).n ∧ 2 * (G.getD t .zero).n < n ∧ homeC off slot G t = ⟨2, (G.getD t .zero).n + ((off / 2 : Nat) : Int)⟩) := by
  rcases hG.reg t ht with ⟨h1, -⟩ | ⟨h1, h2⟩
  · exact Or.inl ⟨h1, by unfold homeC; rw [if_pos h1]⟩
  · right
    have hc := is_cases h2
    rcases Bool.eq_false_or_eq_true (B.getD t false) with hb | hb
    · rw [hb] at h1
      simp only [if_true] at h1
      right
      refine ⟨hb, h1, ?_, ?_, by unfold homeC; rw [if_neg (by omega), if_neg (by omega)]⟩ <;> omega
    · rw [hb] at h1
      simp only [Bool.false_eq_true, if_false] at h1
      left
      refine ⟨hb, h1, ?_, ?_, by unfold homeC; rw [if_neg (by omega), if_pos h1]⟩ <;> omega
theorem home_color {B : List Bool} {C : List LIns} {n off : Nat} {s slots : Int} {slot : Nat → Nat} {G : List LPlace} (hG : GivOk B C n G) (h2 : off % 2 = 0) (hs : (n : Int) + off ≤ s) (h100 : s ≤ 16)
    (hl : ∀ t, t < B.length → (G.getD t .zero).kind = 0 → (slot t : Int) < slots) (hd : ∀ a b, a < B.length → b < B.length → ¬ a = b → (G.getD a .zero).kind = 0 → (G.getD b .zero).kind = 0 → ¬ slot a = slot b) :
    HomeOk B C s slots (homeC off slot G) := by
  refine ⟨fun t ht => ?_, fun t ht => ?_, fun a b ha hb hn => ?_⟩
  · rcases home_cases (off := off) (slot := slot) hG ht with ⟨h0, e⟩ | ⟨-, -, h3, h4, e⟩ | ⟨-, -, h3, h4, e⟩
    · have := hl t ht h0
      rw [e]; unfold isB; simp; omega
    all_goals
      rw [e]
      generalize G.getD t .zero = q at h3 h4
      unfold isB
      simp
      omega
  · rcases home_cases (off := off) (slot := slot) hG ht with ⟨h0, e⟩ | ⟨hw, -, h3, h4, e⟩ | ⟨hw, -, h3, h4, e⟩
    · rw [e]; exact Or.inl rfl
    · rw [e, hw]; exact Or.inr rfl
    · rw [e, hw]; exact Or.inr rfl
  · have hab : ¬ a = b := fun e => hn.1 (by rw [e])
    have hfar := hG.far a b ha hb hn
    rcases home_cases (off := off) (slot := slot) hG ha with ⟨k1, e1⟩ | ⟨-, k1, a1, a2, e1⟩ | ⟨-, k1, a1, a2, e1⟩ <;> rcases home_cases (off := off) (slot := slot) hG hb with ⟨k2, e2⟩ | ⟨-, k2, b1, b2, e2⟩ | ⟨-, k2, b1, b2, e2⟩ <;> rw [e1, e2]
    · have := hd a b ha hb hab k1 k2
      unfold overB
      simp
      omega
    · unfold overB; simp
    · unfold overB; simp
    · unfold overB; simp
    all_goals try (unfold overB; simp; done)
    all_goals
      have hf := hfar (by omega) (by omega)
      generalize G.getD a .zero = q at *
      generalize G.getD b .zero = u at *
      unfold overB at hf ⊢
      simp [k1, k2] at hf ⊢
      omega
def Spare (n off : Nat) (p : LPlace) : Prop := (p.kind = 1 ∧ (p.n < off ∨ (n : Int) + off ≤ p.n)) ∨ (p.kind = 2 ∧ (2 * p.n + 1 < off ∨ (n : Int) + off ≤ 2 * p.n))
theorem home_spare {B : List Bool} {C : List LIns} {n off : Nat} {slot : Nat → Nat} {G : List LPlace} (hG : GivOk B C n G) (h2 : off % 2 = 0) (hn : n % 2 = 0) {p : LPlace} (hp : Spare n off p) {t : Nat} (ht : t < B.length) : overB (homeC off slot G t) p = false := by
  obtain ⟨pk, pn⟩ := p
  unfold Spare at hp
  simp only at hp
  rcases home_cases (off := off) (slot := slot) hG ht with ⟨h0, e⟩ | ⟨-, -, h3, h4, e⟩ | ⟨-, -, h3, h4, e⟩ <;> rw [e] <;> (try generalize G.getD t .zero = q at *) <;> rcases hp with ⟨rfl, hp⟩ | ⟨rfl, hp⟩ <;> unfold overB <;> simp <;> omega
end form
end Go.Proofs.YtikhedkhgpjaaacGreatDoor
