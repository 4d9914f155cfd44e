/- For every program, target and places, such as may not be among them, any ins and steps, what the program tells of how it runs in its places, or of what is wrong, is what the document's chapter on programs in their places says. No condition. -/
import Derived.Test.YtcmnmogmdhofcaaRows
import Derived.ShutString
import Derived.Test.YtcmnmogmdhofcaaB08
import Derived.Test.YtcmnmogmdhofcaaB03
import Derived.Test.YtcmnmogmdhofcaaB24
import Derived.Test.YtcmnmogmdhofcaaB23
import Derived.Test.YtcmnmogmdhofcaaB26
import Derived.Test.YtcmnmogmdhofcaaB25

namespace Go.Proofs.Ytcmnmogmdhofcaa.form
open Go.RowKit
set_option linter.unusedVariables false


theorem wrong7 (pv lv : Value) (B : List Bool) (C : List LIns) (s slots : Int) (R : List LRow) (ai : Option Addr) (nI ci : Nat) (steps : Int) (w : World) (hp : ProgIs w pv B C) (hl : PlacedIs w lv slots R) :
    Calls Try.prog 34 #[pv, targetV s, lv, .slice ai nI ci, .int .i64 steps] w fun e w' => e = .returned (.int .i64 (wrongP B C s slots R nI steps)) ∧ Below w.heap.size w w' := by
  have hp0 := hp
  obtain ⟨⟨a0, c0, a1, c1, rfl, -⟩, -, -, -⟩ := hp0
  have hl0 := hl
  obtain ⟨a2, c2, rfl, -⟩ := hl0
  have HM : Hid (∀ wx : World, Below w.heap.size w wx → Calls Try.prog 31 #[.agg #[.slice a0 B.length c0, .slice a1 C.length c1], .agg #[.int .i64 s], .agg #[.int .i64 slots, .slice a2 R.length c2]] wx fun e w' => e = .returned (.bool (placeMayB B C s slots R)) ∧ Below wx.heap.size wx w') := fun wx hb => may6 _ _ B C s slots R wx (hp.later hb) (hl.later hb)
  have HW : Hid (∀ wx : World, Below w.heap.size w wx → Calls Try.prog 21 #[.agg #[.slice a0 B.length c0, .slice a1 C.length c1], .slice ai nI ci, .int .i64 steps] wx fun e w' => e = .returned (.int .i64 (wrongI B C nI steps)) ∧ Below wx.heap.size wx w') := fun wx hb => wrong _ B C ai nI ci steps wx (hp.later hb)
  have HB3 : Hid (∀ o1 o2 o3 : Obj, Below w.heap.size w (((w.alloc o1).alloc o2).alloc o3)) := fun o1 o2 o3 => (((Below.refl _ _).alloc (Nat.le_refl _) _).alloc (by simp) _).alloc (by simp; omega) _
  clear hp hl
  unfold targetV wrongP
  obtain ⟨q, hq⟩ : ∃ q, q = placeMayB B C s slots R := ⟨_, rfl⟩
  rw [← hq] at HM ⊢
  clear hq
  cases q
  · go_enter Try.func34, Try.ntmps34
    go_wp2_with (go_at_call 31; refine (HM.out _ (HB3.out _ _ _)).mono ?_; rintro e w1 ⟨rfl, hb1⟩; have HB1 : Hid (Below w.heap.size w w1) := step_below hb1 (HB3.out _ _ _); clear hb1)
    go_ret
    exact ⟨ret_int (by simp), HB1.out⟩
  · go_enter Try.func34, Try.ntmps34
    go_wp2_with (first
      | (go_at_call 31; refine (HM.out _ (HB3.out _ _ _)).mono ?_; rintro e w1 ⟨rfl, hb1⟩; have HB1 : Hid (Below w.heap.size w w1) := step_below hb1 (HB3.out _ _ _); have p0 : w1.cell? ⟨w.heap.size, 0, none⟩ = some (.slice a0 B.length c0) := step_cell hb1 (by simp [go_sem]); have p1 : w1.cell? ⟨w.heap.size, 1, none⟩ = some (.slice a1 C.length c1) := step_cell hb1 (by simp [go_sem]); clear hb1)
      | (go_at_call 21; refine (HW.out _ HB1.out).mono ?_; rintro e w2 ⟨rfl, hb2⟩; have HB2 : Hid (Below w.heap.size w w2) := step_below hb2 HB1.out; clear hb2))
    go_ret
    exact ⟨ret_int (by simp), HB2.out⟩

end Go.Proofs.Ytcmnmogmdhofcaa.form

/- loanbooklaw.DoneRuns, out of what the program's own done.Run answers. -/
namespace Go.Proofs.Ytcmnmogmdhofcaa.doneRuns
open Go.ChangeShapes Go.WideShapes Go.ChangeAt Go.RowKit
open Go.Proofs.Ytcmnmogmdhofcaa.form
set_option linter.unusedVariables false

theorem own : ownKnob Try.prog.godebug = none := by kernel_rfl
theorem laidOut : laidOutB Try.prog = true := by kernel_rfl

set_option maxRecDepth 100000 in
set_option maxHeartbeats 1000000 in
theorem walk (doneO : DoneSpec) (pv lv iv : Value) (B : List Bool) (C : List LIns) (s slots : Int) (R : List LRow) (I : List Int) (steps : Int) (w : World) (hp : ProgIs w pv B C) (hl : PlacedIs w lv slots R) (hR : RowsOk R) (hI : InArg w iv I) :
    Calls Try.prog 13 #[pv, targetV s, lv, iv, .int .i64 steps] w fun e w' => e = .returned (.bool true) ∧ Below w.heap.size w w' := by
  have HDO : Hid DoneSpec := doneO
  have h0 := hp
  obtain ⟨⟨a0, c0, a1, c1, rfl, hh⟩, -, -, hnum⟩ := h0
  have h1 := hl
  obtain ⟨ao, cap, rfl, -, hrr⟩ := h1
  have hI0 := hI
  obtain ⟨ai, ci, rfl, -, -, hib, -⟩ := hI0
  have HP : Hid (ProgIs w (.agg #[.slice a0 B.length c0, .slice a1 C.length c1]) B C) := hp
  have HL : Hid (PlacedIs w (.agg #[.int .i64 slots, .slice ao R.length cap]) slots R) := hl
  have HIA : Hid (InArg w (.slice ai I.length ci) I) := hI
  have HRO : Hid (RowsOk R) := hR
  have HH : Hid _ := hh
  have HRR : Hid _ := hrr
  have HN : Hid _ := hnum
  have HIB : Hid _ := hib
  obtain ⟨x, hx⟩ : ∃ x, x = wrongP B C s slots R I.length steps := ⟨_, rfl⟩
  have HX : Hid (wrongP B C s slots R I.length steps = x) := hx.symm
  obtain ⟨M, hM⟩ : ∃ M, M = resP B C s slots R I steps := ⟨_, rfl⟩
  have HM : Hid (resP B C s slots R I steps = M) := hM.symm
  obtain ⟨wx, hwx⟩ : ∃ wx, wx = ((w.alloc (.cells #[.slice a0 B.length c0, .slice a1 C.length c1] 31)).alloc (.cells #[.int .i64 s] 52)).alloc (.cells #[.int .i64 slots, .slice ao R.length cap] 55) := ⟨_, rfl⟩
  have HWX : Hid (Below w.heap.size w wx) := by rw [hwx]; exact (((Below.refl _ _).alloc (Nat.le_refl _) _).alloc (by simp) _).alloc (by simp; omega) _
  have x0 : wx.cell? ⟨w.heap.size, 0, none⟩ = some (.slice a0 B.length c0) := by rw [hwx]; simp [go_sem]
  have x1 : wx.cell? ⟨w.heap.size, 1, none⟩ = some (.slice a1 C.length c1) := by rw [hwx]; simp [go_sem]
  have x2 : wx.cell? ⟨w.heap.size + 1, 0, none⟩ = some (.int .i64 s) := by rw [hwx]; simp [go_sem]
  have x3 : wx.cell? ⟨w.heap.size + 1 + 1, 0, none⟩ = some (.int .i64 slots) := by rw [hwx]; simp [go_sem]
  have x4 : wx.cell? ⟨w.heap.size + 1 + 1, 1, none⟩ = some (.slice ao R.length cap) := by rw [hwx]; simp [go_sem]
  have XA : Hid (∀ wz : World, Below wx.heap.size wx wz → wz.cell? ⟨w.heap.size, 0, none⟩ = some (.slice a0 B.length c0) ∧ wz.cell? ⟨w.heap.size, 1, none⟩ = some (.slice a1 C.length c1) ∧ wz.cell? ⟨w.heap.size + 1, 0, none⟩ = some (.int .i64 s) ∧ wz.cell? ⟨w.heap.size + 1 + 1, 0, none⟩ = some (.int .i64 slots) ∧ wz.cell? ⟨w.heap.size + 1 + 1, 1, none⟩ = some (.slice ao R.length cap)) :=
    fun wz hb => ⟨step_cell hb x0, step_cell hb x1, step_cell hb x2, step_cell hb x3, step_cell hb x4⟩
  have hzx : w.heap.size + 1 + 1 < wx.heap.size := by rw [hwx]; simp
  clear hp hl hh hrr hnum hib hI hR hx doneO
  unfold targetV
  by_cases hx0 : x = 0
  case neg =>
    have e1 : (x != 0) = true := by simp [hx0]
    have hMz : M = ⟨0, ⟨[], []⟩, 0, [], 0, 0⟩ := by rw [hM]; unfold resP; rw [HX.out, if_neg hx0]
    have HMZ : Hid (M = ⟨0, ⟨[], []⟩, 0, [], 0, 0⟩) := hMz
    clear hMz hM hx0
    go_enter Try.func13, Try.ntmps13
    go_upto_region 1 with fail
    rw [← hwx]
    clear hwx
    go_wp2_with fail
    go_at_call 33
    refine (HDO.out _ _ _ B C s slots R I steps _ (HP.out.later HWX.out) (HL.out.later HWX.out) HRO.out (HIA.out.later HWX.out)).mono ?_
    rw [HX.out, HM.out]
    rintro e w1 ⟨⟨sv, rfl, hsh⟩, hb1⟩
    have HS1 : Hid (ShownIs w1 sv M.state M.out M.steps) := hsh
    obtain ⟨ov, rfl, vo, vc, rfl, -, -⟩ := hsh
    have HB1 : Hid (Below wx.heap.size wx w1) := hb1
    clear hb1 x0 x1 x2 x3 x4
    have HA1 : Hid (∀ o1 : Obj, Below w1.heap.size w1 (w1.alloc o1)) := fun o1 => (Below.refl _ _).alloc (Nat.le_refl _) _
    obtain ⟨y0, y1, y2, y3, y4⟩ := XA.out _ HB1.out
    have hz1 : w.heap.size + 1 + 1 < w1.heap.size := Nat.lt_of_lt_of_le hzx HB1.out.size
    have q1 : w.heap.size < w1.heap.size := by omega
    have q2 : w.heap.size + 1 < w1.heap.size := by omega
    go_wp2_with fail
    go_at_call 34
    refine (wrong7 _ _ B C s slots R _ _ _ _ _ (HP.out.later (step_below (HA1.out _) (step_below HB1.out HWX.out))) (HL.out.later (step_below (HA1.out _) (step_below HB1.out HWX.out)))).mono ?_
    rw [HX.out]
    rintro e w2 ⟨rfl, hb2⟩
    have s0 : w2.cell? ⟨w1.heap.size, 0, none⟩ = some (.int .i64 M.state) := step_cell hb2 (by simp [go_sem])
    have s1 : w2.cell? ⟨w1.heap.size, 1, none⟩ = some (.slice vo M.out.length vc) := step_cell hb2 (by simp [go_sem])
    have s2 : w2.cell? ⟨w1.heap.size, 2, none⟩ = some (.int .i64 M.steps) := step_cell hb2 (by simp [go_sem])
    have HB2 : Hid (Below w1.heap.size w1 w2) := step_below hb2 (HA1.out _)
    clear hb2 y0 y1 y2 y3 y4
    go_wp2_with (go_at_call 22; refine (same _ _ M.state M.steps 0 0 M.out [] _ (HS1.out.later HB2.out) ⟨_, rfl, none, 0, rfl, by simp, fun hh => absurd hh (by simp)⟩).mono ?_; rintro e w3 ⟨rfl, hb3⟩)
    go_ret
    exact ⟨ret_bool (by rw [HMZ.out]; rfl), step_below hb3 (step_below HB2.out (step_below HB1.out HWX.out))⟩
  subst hx0
  obtain ⟨hmay, hw0⟩ := wrongP_zero HX.out
  obtain ⟨hm, h40, hst0, hst1⟩ := wrong_zero hw0
  have hm2 := hmay
  unfold placeMayB at hm2
  simp only [Bool.and_eq_true, Bool.not_eq_true', decide_eq_true_eq, decide_eq_false_iff_not] at hm2
  obtain ⟨⟨⟨⟨⟨-, htg⟩, hs0⟩, hs1⟩, hlen⟩, -⟩ := hm2
  have hsz : sizesB B C = true := by unfold refMayB at hm; simp only [Bool.and_eq_true] at hm; exact hm.1
  obtain ⟨z1, z2, z3, z4⟩ := sizes_of hsz
  obtain ⟨u1, u2, u3⟩ := target_of htg
  obtain ⟨b0, o0, b1, o1, rfl, rfl, hheld⟩ := HH.out z1 z3
  obtain ⟨b2, o2, rfl, hrows⟩ := HRR.out (by omega)
  obtain ⟨ns, rfl⟩ : ∃ ns : Nat, s = ns := Int.eq_ofNat_of_zero_le (by omega)
  obtain ⟨nl, rfl⟩ : ∃ nl : Nat, slots = nl := Int.eq_ofNat_of_zero_le (by omega)
  obtain ⟨n, rfl⟩ : ∃ n : Nat, steps = n := Int.eq_ofNat_of_zero_le hst0
  have hn3 : n ≤ 3000 := by omega
  have HMAY : Hid (placeMayB B C ns nl R = true) := hmay
  have HHE : Hid (Held w b0 o0 b1 o1 B C) := hheld
  have HRW : Hid (RowsHeld w b2 o2 R) := hrows
  have HRB : Hid (∀ k, k < C.length → ∀ x, x ∈ (R.getD k .zero).before ∨ x ∈ (R.getD k .zero).after → 0 ≤ x.n ∧ x.n < 4294967296) := rows_bd HRO.out hlen
  have HMP : Hid (playP C R ns nl I n = M) := by
    show playP C R ns nl I n = M
    rw [hM]; unfold resP; rw [if_pos HX.out]; simp
  clear hmay hheld hrows hM hw0 hm hsz htg hs0 hs1 hlen
  go_enter Try.func13, Try.ntmps13
  go_upto_region 1 with fail
  rw [← hwx]
  clear hwx
  go_wp2_with fail
  go_at_call 33
  refine (HDO.out _ _ _ B C ns nl R I n _ (HP.out.later HWX.out) (HL.out.later HWX.out) HRO.out (HIA.out.later HWX.out)).mono ?_
  rw [HX.out, HM.out]
  rintro e w1 ⟨⟨sv, rfl, hsh⟩, hb1⟩
  have HS1 : Hid (ShownIs w1 sv M.state M.out M.steps) := hsh
  obtain ⟨ov, rfl, vo, vc, rfl, -, -⟩ := hsh
  have HB1 : Hid (Below wx.heap.size wx w1) := hb1
  clear hb1 x0 x1 x2 x3 x4
  have HA1 : Hid (∀ o1 : Obj, Below w1.heap.size w1 (w1.alloc o1)) := fun o1 => (Below.refl _ _).alloc (Nat.le_refl _) _
  obtain ⟨y0, y1, y2, y3, y4⟩ := XA.out _ HB1.out
  have hz1 : w.heap.size + 1 + 1 < w1.heap.size := Nat.lt_of_lt_of_le hzx HB1.out.size
  have q1 : w.heap.size < w1.heap.size := by omega
  have q2 : w.heap.size + 1 < w1.heap.size := by omega
  go_wp2_with fail
  go_at_call 34
  refine (wrong7 _ _ B C ns nl R _ _ _ _ _ (HP.out.later (step_below (HA1.out _) (step_below HB1.out HWX.out))) (HL.out.later (step_below (HA1.out _) (step_below HB1.out HWX.out)))).mono ?_
  rw [HX.out]
  rintro e w2 ⟨rfl, hb2⟩
  have s0 : w2.cell? ⟨w1.heap.size, 0, none⟩ = some (.int .i64 M.state) := step_cell hb2 (by simp [go_sem])
  have s1 : w2.cell? ⟨w1.heap.size, 1, none⟩ = some (.slice vo M.out.length vc) := step_cell hb2 (by simp [go_sem])
  have s2 : w2.cell? ⟨w1.heap.size, 2, none⟩ = some (.int .i64 M.steps) := step_cell hb2 (by simp [go_sem])
  have HB2 : Hid (Below w1.heap.size w1 w2) := step_below hb2 (HA1.out _)
  have hz2 : w1.heap.size < w2.heap.size := by have := hb2.size; simp at this; omega
  clear hb2 y0 y1 y2 y3 y4
  obtain ⟨y0, y1, y2, y3, y4⟩ := XA.out _ (step_below HB2.out HB1.out)
  go_wp2_with fail
  go_at_call 35
  have HBW : Hid (Below w.heap.size w w2) := step_below HB2.out (step_below HB1.out HWX.out)
  refine (play7 b0 o0 c0 b1 o1 c1 b2 o2 cap B C R ns nl _ I n _ HMAY.out (HHE.out.later HBW.out) (HRW.out.later HBW.out) HN.out HRB.out ((HIA.out.out h40).later HBW.out) HIB.out hn3).mono ?_
  rw [HMP.out]
  rintro e w3 ⟨rv, rfl, hsh3, hb3⟩
  have HS3 : Hid (ShownIs w3 rv M.state M.out M.steps) := hsh3
  obtain ⟨ov3, rfl, vo3, vc3, rfl, -, -⟩ := hsh3
  have HB3 : Hid (Below w2.heap.size w2 w3) := hb3
  have s0 := step_cell hb3 s0
  have s1 := step_cell hb3 s1
  have s2 := step_cell hb3 s2
  have hz3 : w1.heap.size < w3.heap.size := Nat.lt_of_lt_of_le hz2 hb3.size
  have HA3 : Hid (∀ o1 : Obj, Below w3.heap.size w3 (w3.alloc o1)) := fun o1 => (Below.refl _ _).alloc (Nat.le_refl _) _
  clear hb3 y0 y1 y2 y3 y4
  go_wp2_with (go_at_call 22; refine (same _ _ M.state M.steps M.state M.steps M.out M.out _ (HS1.out.later (step_below (HA3.out _) (step_below HB3.out HB2.out))) (HS3.out.later (HA3.out _))).mono ?_; rintro e w4 ⟨rfl, hb4⟩)
  go_ret
  exact ⟨ret_bool (by unfold sameB; simp), step_below hb4 (step_below (HA3.out _) (step_below HB3.out (step_below HB2.out (step_below HB1.out HWX.out))))⟩

set_option maxRecDepth 100000 in
theorem lifted (doneO : DoneSpec) (os : Os) (started : os.Started) (H : Type) (enc : TypeId × Value → H) :
    ReturnsInHanded {} Try.checked os 13 .any (Rows.doneRunsSpec.pre6 enc Try.prog Try.f13 Rows.doneRunsRow.domain false) (Rows.doneRunsSpec.post enc Try.prog Try.f13 false true false false) := by
  refine returnsInHanded_of_change (C := Try.checked) own started (by kernel_rfl) Try.func13
    (ChangeSpec.witness6 (enc := enc) (C := Try.checked) false ⟨#[], #[.agg #[.slice none 0 0, .slice none 0 0], .agg #[.int .i64 0], .agg #[.int .i64 0, .slice none 0 0], .slice none 0 0, .int .i64 0], []⟩ 8 (by kernel_rfl) (by kernel_rfl) (by kernel_rfl) (by kernel_rfl)) ?_
  intro W base args ds gs before hval0 hW hcnd _
  have hval : ∀ (j : Nat) t v, Try.f13.params[j]? = some t → args[j]? = some v → Value.okWide Try.prog W .any base t v := hval0
  have hW' := hW
  obtain ⟨p, q, hA0, hV, rfl, hfz, hnd⟩ := hW
  have hA : DataW.TrodAll enc Try.prog W 0 (fun _ => true) true Try.f13.params.toList args.toList ds p := hA0
  rw [Try.params13] at hA hval
  obtain ⟨v0, vs0, d0, ds0, p0, q0, hargs, rfl, rfl, h0, r0⟩ := trodAll_cons hA
  obtain ⟨v1, vs1, d1, ds1, p1, q1, rfl, rfl, rfl, h1, r1⟩ := trodAll_cons r0
  obtain ⟨v2, vs2, d2, ds2, p2, q2, rfl, rfl, rfl, h2, r2⟩ := trodAll_cons r1
  obtain ⟨v3, vs3, d3, ds3, p3, q3, rfl, rfl, rfl, h3, r3⟩ := trodAll_cons r2
  obtain ⟨v4, vs4, d4, ds4, p4, q4, rfl, rfl, rfl, h4, r4⟩ := trodAll_cons r3
  obtain ⟨rfl, rfl, rfl⟩ := trodAll_nil r4
  obtain rfl : args = #[v0, v1, v2, v3, v4] := by cases args; simp_all
  obtain ⟨rfl, rfl⟩ := trodVars_none hV
  have k0 := h0
  have k1 := h1
  have k2 := h2
  have k3 := h3
  have k4 := h4
  have lt0 : ∀ x ∈ p0, x.block < W.heap.size := by obtain ⟨m, hm⟩ := k0; exact DataW.trod_lt m _ _ _ hm
  have lt1 : ∀ x ∈ p1, x.block < W.heap.size := by obtain ⟨m, hm⟩ := k1; exact DataW.trod_lt m _ _ _ hm
  have lt2 : ∀ x ∈ p2, x.block < W.heap.size := by obtain ⟨m, hm⟩ := k2; exact DataW.trod_lt m _ _ _ hm
  have lt3 : ∀ x ∈ p3, x.block < W.heap.size := by obtain ⟨m, hm⟩ := k3; exact DataW.trod_lt m _ _ _ hm
  have lt4 : ∀ x ∈ p4, x.block < W.heap.size := by obtain ⟨m, hm⟩ := k4; exact DataW.trod_lt m _ _ _ hm
  obtain ⟨B, C, hP⟩ := prog_is (hval 0 31 v0 rfl rfl) h0
  obtain ⟨s, rfl, -, -⟩ := target_is (hval 1 52 v1 rfl rfl) h1
  obtain ⟨slots, R, hL, hR, -, -⟩ := placed_is (hval 2 55 v2 rfl rfl) h2
  obtain ⟨I, hI⟩ := ins_is (hval 3 33 v3 rfl rfl) h3
  obtain ⟨steps, rfl, -, -, -⟩ := open_int Try.underlying3 (hval 4 3 v4 rfl rfl) h4
  clear hA0 hval0
  refine (walk doneO v0 v2 v3 B C s slots R I steps W hP hL hR hI).mono fun e W' ⟨he, bel⟩ => ?_
  subst he
  exact ⟨_, rfl, _, _, _, [], _, [], hW', trodAll_mk1 (shut_bool Try.underlying4 _),
    (trodAll_cons_mk (Below.trod laidOut (by kernel_rfl) (of_decide_eq_true (by kernel_rfl)) k0 bel lt0) (trodAll_cons_mk (Below.trod laidOut (by kernel_rfl) (of_decide_eq_true (by kernel_rfl)) k1 bel lt1) (trodAll_cons_mk (Below.trod laidOut (by kernel_rfl) (of_decide_eq_true (by kernel_rfl)) k2 bel lt2) (trodAll_cons_mk (Below.trod laidOut (by kernel_rfl) (of_decide_eq_true (by kernel_rfl)) k3 bel lt3) (trodAll_cons_mk (Below.trod laidOut (by kernel_rfl) (of_decide_eq_true (by kernel_rfl)) k4 bel lt4) trodAll_mk0))))), rfl, bel.frame _, fun h => by cases h⟩

theorem over (doneO : DoneSpec) : Rows.doneRunsRow.holds Try.pinned (OpenSpec.ofChange Rows.doneRunsSpec) :=
  OpenClaim.holds_of_wide 13 Try.f13 rfl rfl rfl rfl rfl rfl rfl ⟨rfl, rfl, rfl, rfl, rfl⟩ rfl rfl rfl rfl rfl (by kernel_rfl) Try.func13 (by kernel_rfl)
    (of_decide_eq_true (by kernel_rfl)) (by unfold Func.isWrapper; first | (rw [if_pos (by decide +kernel)]; kernel_rfl) | (rw [if_neg (by decide +kernel)]; exact ⟨rfl, rfl⟩))
    (fun os started H enc _ => lifted doneO os started H enc)

end Go.Proofs.Ytcmnmogmdhofcaa.doneRuns

namespace Go.Proofs.Ytcmnmogmdhofcaa

theorem doneRuns_holds : Rows.DoneRunsSaid := doneRuns.over form.doneO
#print axioms doneRuns_holds

end Go.Proofs.Ytcmnmogmdhofcaa
