/- loanbooklaw.CheckSound, out of what the program's own check.Takes answers. -/
import Derived.Test.YtdbjklngnloibabGreatRows
import Derived.ShutString
import Derived.Test.YtdbjklngnloibabGreatB34
import Derived.Test.YtdbjklngnloibabGreatB45
import Derived.Test.YtdbjklngnloibabGreatB31
import Derived.Test.YtdbjklngnloibabGreatB46
import Derived.Test.YtdbjklngnloibabGreatB28
import Derived.Test.YtdbjklngnloibabGreatB47

namespace Go.Proofs.YtdbjklngnloibabGreat.checkSound
open Go.ChangeShapes Go.WideShapes Go.ChangeAt Go.RowKit
open Go.Proofs.YtdbjklngnloibabGreat.form
set_option linter.unusedVariables false

theorem own : ownKnob Tryz.prog.godebug = none := by kernel_rfl
theorem laidOut : laidOutB Tryz.prog = true := by kernel_rfl

theorem zero_ok : RowsOk [LRow.zero] := by
  intro r hr
  have : r = 0 := by simp at hr; omega
  subst this
  exact ⟨fun k hk => absurd hk (by simp [LRow.zero]), fun k hk => absurd hk (by simp [LRow.zero])⟩

set_option maxRecDepth 100000 in
set_option maxHeartbeats 1000000 in
theorem walk_no (takesO : TakesSpec) (pv lv iv : Value) (B : List Bool) (C : List LIns) (s slots : Int) (R : List LRow) (I : List Int) (steps : Int) (w : World) (hp : ProgIs w pv B C) (hl : PlacedIs w lv slots R) (hR : RowsOk R) (hI : InArg w iv I) (ht : ¬ TakenP B C s slots R) :
    Calls Tryz.prog 4 #[pv, targetV s, lv, iv, .int .i64 steps] w fun e w' => e = .returned (.bool true) ∧ Below w.heap.size w w' := by
  have h0 := hp
  obtain ⟨⟨a0, c0, a1, c1, rfl, -⟩, -, -, -⟩ := h0
  have h1 := hl
  obtain ⟨ao, cap, rfl, -, -⟩ := h1
  obtain ⟨ai, ci, rfl, -, -, -, -⟩ := hI
  have HT : Hid (¬ TakenP B C s slots R) := ht
  have HTO : Hid TakesSpec := takesO
  have HRO : Hid (RowsOk R) := hR
  have HP : Hid (ProgIs w (.agg #[.slice a0 B.length c0, .slice a1 C.length c1]) B C) := hp
  have HL : Hid (PlacedIs w (.agg #[.int .i64 slots, .slice ao R.length cap]) slots R) := hl
  have HW : Hid (∀ o1 o2 o3 : Obj, Below w.heap.size w (((w.alloc o1).alloc o2).alloc o3)) := fun o1 o2 o3 => (((Below.refl _ _).alloc (Nat.le_refl _) _).alloc (by simp) _).alloc (by simp; omega) _
  clear hp hl ht takesO hR
  unfold targetV
  go_enter Tryz.func4, Tryz.ntmps4
  go_wp2_with fail
  go_at_call 5
  refine (HTO.out _ _ B C s slots R _ (HP.out.later (HW.out _ _ _)) (HL.out.later (HW.out _ _ _)) HRO.out).mono ?_
  rintro e w1 ⟨⟨b, rfl, hb⟩, hb1⟩
  have hbf : b = false := by cases b with | false => rfl | true => exact absurd (hb.1 rfl) HT.out
  subst hbf
  have HB1 : Hid (Below w.heap.size w w1) := step_below hb1 (HW.out _ _ _)
  clear hb hb1
  have HG : Hid (∀ o1 o2 o3 o4 : Obj, Below w1.heap.size w1 ((((w1.alloc o1).alloc o2).alloc o3).alloc o4)) := fun o1 o2 o3 o4 => ((((Below.refl _ _).alloc (Nat.le_refl _) _).alloc (by simp) _).alloc (by simp; omega) _).alloc (by simp; omega) _
  go_wp2_with fail
  go_at_call 5
  refine (HTO.out _ _ [false] [haltI] 4 0 [.zero] _ (one_prog (by simp [go_sem]) (by simp [go_sem]) (fun j h0 h5 => ?_) (by simp [go_sem])) (one_placed (fun j h6 => ?_) (by simp [go_sem]) (by simp [go_sem])) zero_ok).mono ?_
  · rcases (show j = 1 ∨ j = 2 ∨ j = 3 ∨ j = 4 by omega) with rfl | rfl | rfl | rfl <;> simp [go_sem]
  · rcases (show j = 0 ∨ j = 1 ∨ j = 2 ∨ j = 3 ∨ j = 4 ∨ j = 5 by omega) with rfl | rfl | rfl | rfl | rfl | rfl <;> simp [go_sem]
  rintro e w2 ⟨⟨b, rfl, hb⟩, hb2⟩
  have hbt : b = true := hb.2 taken_one
  subst hbt
  have HB2 : Hid (Below w1.heap.size w1 w2) := step_below hb2 (HG.out _ _ _ _)
  clear hb hb2
  go_wp2
  go_ret
  exact ⟨rfl, step_below HB2.out HB1.out⟩

set_option maxRecDepth 100000 in
set_option maxHeartbeats 1000000 in
theorem walk_yes (takesO : TakesSpec) (pv lv iv : Value) (B : List Bool) (C : List LIns) (s slots : Int) (R : List LRow) (I : List Int) (steps : Int) (w : World) (hp : ProgIs w pv B C) (hl : PlacedIs w lv slots R) (hR : RowsOk R) (hI : InArg w iv I) (ht : TakenP B C s slots R) :
    Calls Tryz.prog 4 #[pv, targetV s, lv, iv, .int .i64 steps] w fun e w' => e = .returned (.bool true) ∧ Below w.heap.size w w' := by
  have hmay := ht.1
  have hm2 := hmay
  unfold placeMayB at hm2
  simp only [Bool.and_eq_true, Bool.not_eq_true', decide_eq_true_eq, decide_eq_false_iff_not] at hm2
  obtain ⟨⟨⟨⟨⟨hm, htg⟩, hs0⟩, hs1⟩, hlen⟩, -⟩ := hm2
  have hsz : sizesB B C = true := by unfold refMayB at hm; simp only [Bool.and_eq_true] at hm; exact hm.1
  obtain ⟨z1, z2, z3, z4⟩ := sizes_of hsz
  obtain ⟨u1, u2, u3⟩ := target_of htg
  have h0 := hp
  obtain ⟨⟨a0, c0, a1, c1, rfl, hh⟩, -, -, hnum⟩ := h0
  obtain ⟨b0, o0, b1, o1, rfl, rfl, hheld⟩ := hh z1 z3
  have h1 := hl
  obtain ⟨ao, cap, rfl, -, hrr⟩ := h1
  obtain ⟨b2, o2, rfl, hrows⟩ := hrr (by omega)
  have hI0 := hI
  obtain ⟨ai, ci, rfl, -, -, hib, -⟩ := hI0
  obtain ⟨ns, rfl⟩ : ∃ ns : Nat, s = ns := Int.eq_ofNat_of_zero_le (by omega)
  obtain ⟨nl, rfl⟩ : ∃ nl : Nat, slots = nl := Int.eq_ofNat_of_zero_le (by omega)
  have HT : Hid (TakenP B C ns nl R) := ht
  have HTO : Hid TakesSpec := takesO
  have HRO : Hid (RowsOk R) := hR
  have HMAY : Hid (placeMayB B C ns nl R = true) := hmay
  have HMM : Hid (refMayB B C = true) := hm
  have HP : Hid (ProgIs w (.agg #[.slice (some ⟨b0, o0, none⟩) B.length c0, .slice (some ⟨b1, o1, none⟩) C.length c1]) B C) := hp
  have HL : Hid (PlacedIs w (.agg #[.int .i64 nl, .slice (some ⟨b2, o2, none⟩) R.length cap]) nl R) := hl
  have HH : Hid (Held w b0 o0 b1 o1 B C) := hheld
  have HRR : Hid (RowsHeld w b2 o2 R) := hrows
  have HN : Hid _ := hnum
  have HRB : Hid (∀ k, k < C.length → ∀ x, x ∈ (R.getD k .zero).before ∨ x ∈ (R.getD k .zero).after → 0 ≤ x.n ∧ x.n < 4294967296) := rows_bd hR hlen
  have HIA : Hid (InArg w (.slice ai I.length ci) I) := hI
  have HIB : Hid (∀ j, j < I.length → 0 ≤ I.getD j 0 ∧ I.getD j 0 < 4294967296) := hib
  obtain ⟨wx, hwx⟩ : ∃ wx, wx = ((w.alloc (.cells #[.slice (some ⟨b0, o0, none⟩) B.length c0, .slice (some ⟨b1, o1, none⟩) C.length c1] 25)).alloc (.cells #[.int .i64 ns] 27)).alloc (.cells #[.int .i64 nl, .slice (some ⟨b2, o2, none⟩) R.length cap] 30) := ⟨_, rfl⟩
  have HWX : Hid (Below w.heap.size w wx) := by rw [hwx]; exact (((Below.refl _ _).alloc (Nat.le_refl _) _).alloc (by simp) _).alloc (by simp; omega) _
  have x0 : wx.cell? ⟨w.heap.size, 0, none⟩ = some (.slice (some ⟨b0, o0, none⟩) B.length c0) := by rw [hwx]; simp [go_sem]
  have x1 : wx.cell? ⟨w.heap.size, 1, none⟩ = some (.slice (some ⟨b1, o1, none⟩) C.length c1) := by rw [hwx]; simp [go_sem]
  have x2 : wx.cell? ⟨w.heap.size + 1, 0, none⟩ = some (.int .i64 ns) := by rw [hwx]; simp [go_sem]
  have x3 : wx.cell? ⟨w.heap.size + 1 + 1, 0, none⟩ = some (.int .i64 nl) := by rw [hwx]; simp [go_sem]
  have x4 : wx.cell? ⟨w.heap.size + 1 + 1, 1, none⟩ = some (.slice (some ⟨b2, o2, none⟩) R.length cap) := by rw [hwx]; simp [go_sem]
  have XA : Hid (∀ wz : World, Below wx.heap.size wx wz → wz.cell? ⟨w.heap.size, 0, none⟩ = some (.slice (some ⟨b0, o0, none⟩) B.length c0) ∧ wz.cell? ⟨w.heap.size, 1, none⟩ = some (.slice (some ⟨b1, o1, none⟩) C.length c1) ∧ wz.cell? ⟨w.heap.size + 1, 0, none⟩ = some (.int .i64 ns) ∧ wz.cell? ⟨w.heap.size + 1 + 1, 0, none⟩ = some (.int .i64 nl) ∧ wz.cell? ⟨w.heap.size + 1 + 1, 1, none⟩ = some (.slice (some ⟨b2, o2, none⟩) R.length cap)) :=
    fun wz hb => ⟨step_cell hb x0, step_cell hb x1, step_cell hb x2, step_cell hb x3, step_cell hb x4⟩
  have hzx : w.heap.size + 1 + 1 < wx.heap.size := by rw [hwx]; simp
  clear hp hl hh hrr hheld hrows hnum hmay hm hsz hib hI ht hR htg hlen takesO
  unfold targetV
  obtain ⟨x, hx⟩ : ∃ x, x = wrongI B C I.length steps := ⟨_, rfl⟩
  have HX : Hid (wrongI B C I.length steps = x) := hx.symm
  clear hx
  by_cases hx0 : x = 0
  case neg =>
    have e1 : (x != 0) = true := by simp [hx0]
    clear hx0
    go_enter Tryz.func4, Tryz.ntmps4
    go_upto_region 1 with fail
    rw [← hwx]
    clear hwx
    go_wp2_with (first
      | (go_at_call 5; refine (HTO.out _ _ B C ns nl R _ (HP.out.later HWX.out) (HL.out.later HWX.out) HRO.out).mono ?_; rintro e w1 ⟨⟨b, rfl, hb⟩, hb1⟩; obtain rfl : b = true := hb.2 HT.out; clear hb x0 x1 x2 x3 x4; obtain ⟨y0, y1, y2, y3, y4⟩ := XA.out _ hb1; have HB1 : Hid (Below wx.heap.size wx w1) := hb1; clear hb1)
      | (go_at_call 7; refine (may6 _ _ B C ns nl R _ (HP.out.later (step_below HB1.out HWX.out)) (HL.out.later (step_below HB1.out HWX.out))).mono ?_; rw [HMAY.out]; rintro e w2 ⟨rfl, hb2⟩; clear y0 y1 y2 y3 y4; have HB2 : Hid (Below wx.heap.size wx w2) := step_below hb2 HB1.out; clear hb2; obtain ⟨y0, y1, y2, y3, y4⟩ := XA.out _ HB2.out)
      | (go_at_call 8; refine (wrong _ B C _ _ _ _ _ (HP.out.later (step_below HB2.out HWX.out))).mono ?_; rw [HX.out]; rintro e w3 ⟨rfl, hb3⟩; clear y0 y1 y2 y3 y4))
    go_ret
    exact ⟨rfl, step_below hb3 (step_below HB2.out HWX.out)⟩
  subst hx0
  obtain ⟨-, h40, hst0, hst1⟩ := wrong_zero HX.out
  obtain ⟨n, rfl⟩ : ∃ n : Nat, steps = n := Int.eq_ofNat_of_zero_le hst0
  have hn3 : n ≤ 3000 := by omega
  obtain ⟨e1, e2, e3⟩ := taken_same (ins := I) HT.out HN.out HRB.out HIB.out n
  have HE1 : Hid ((playP C R ns nl I n).out = (playM B C I n).out) := e1
  have HE2 : Hid ((playP C R ns nl I n).state = (playM B C I n).state) := e2
  have HE3 : Hid ((playP C R ns nl I n).steps = (playM B C I n).steps) := e3
  obtain ⟨M, hM⟩ : ∃ M, M = playM B C I n := ⟨_, rfl⟩
  have HM : Hid (playM B C I n = M) := hM.symm
  clear e1 e2 e3 hM
  go_enter Tryz.func4, Tryz.ntmps4
  go_upto_region 1 with fail
  rw [← hwx]
  clear hwx
  go_wp2_with (first
    | (go_at_call 5; refine (HTO.out _ _ B C ns nl R _ (HP.out.later HWX.out) (HL.out.later HWX.out) HRO.out).mono ?_; rintro e w1 ⟨⟨b, rfl, hb⟩, hb1⟩; obtain rfl : b = true := hb.2 HT.out; clear hb x0 x1 x2 x3 x4; obtain ⟨y0, y1, y2, y3, y4⟩ := XA.out _ hb1; have HB1 : Hid (Below wx.heap.size wx w1) := hb1; clear hb1)
    | (go_at_call 7; refine (may6 _ _ B C ns nl R _ (HP.out.later (step_below HB1.out HWX.out)) (HL.out.later (step_below HB1.out HWX.out))).mono ?_; rw [HMAY.out]; rintro e w2 ⟨rfl, hb2⟩; clear y0 y1 y2 y3 y4; have HB2 : Hid (Below wx.heap.size wx w2) := step_below hb2 HB1.out; clear hb2; obtain ⟨y0, y1, y2, y3, y4⟩ := XA.out _ HB2.out)
    | (go_at_call 8; refine (wrong _ B C _ _ _ _ _ (HP.out.later (step_below HB2.out HWX.out))).mono ?_; rw [HX.out]; rintro e w3 ⟨rfl, hb3⟩; clear y0 y1 y2 y3 y4; have HB3 : Hid (Below wx.heap.size wx w3) := step_below hb3 HB2.out; clear hb3; obtain ⟨y0, y1, y2, y3, y4⟩ := XA.out _ HB3.out))
  go_at_call 9
  have HBW : Hid (Below w.heap.size w w3) := step_below HB3.out HWX.out
  refine (play b0 o0 c0 b1 o1 c1 B C _ I n _ HMM.out (HH.out.later HBW.out) HN.out ((HIA.out.out h40).later HBW.out) HIB.out hn3).mono ?_
  rw [HM.out]
  rintro e w4 ⟨rv, rfl, hsh, hb4⟩
  clear y0 y1 y2 y3 y4
  have HS4 : Hid (ShownIs w4 rv M.state M.out M.steps) := hsh
  obtain ⟨ov, rfl, vo, vc, rfl, -, -⟩ := hsh
  have HB4 : Hid (Below wx.heap.size wx w4) := step_below hb4 HB3.out
  clear hb4
  have hz4 : w.heap.size + 1 + 1 < w4.heap.size := Nat.lt_of_lt_of_le hzx HB4.out.size
  have q1 : w.heap.size < w4.heap.size := by omega
  have q2 : w.heap.size + 1 < w4.heap.size := by omega
  obtain ⟨y0, y1, y2, y3, y4⟩ := XA.out _ HB4.out
  have HA4 : Hid (∀ o1 : Obj, Below w4.heap.size w4 (w4.alloc o1)) := fun o1 => (Below.refl _ _).alloc (Nat.le_refl _) _
  go_wp2_with fail
  go_at_call 10
  refine (play7 b0 o0 c0 b1 o1 c1 b2 o2 cap B C R ns nl _ I n _ HMAY.out (HH.out.later (step_below (HA4.out _) (step_below HB4.out HWX.out))) (HRR.out.later (step_below (HA4.out _) (step_below HB4.out HWX.out))) HN.out HRB.out ((HIA.out.out h40).later (step_below (HA4.out _) (step_below HB4.out HWX.out))) HIB.out hn3).mono ?_
  rw [HE1.out, HE2.out, HE3.out, HM.out]
  rintro e w5 ⟨rv5, rfl, hsh5, hb5⟩
  have HS5 : Hid (ShownIs w5 rv5 M.state M.out M.steps) := hsh5
  obtain ⟨ov5, rfl, vo5, vc5, rfl, -, -⟩ := hsh5
  have s0 : w5.cell? ⟨w4.heap.size, 0, none⟩ = some (.int .i64 M.state) := step_cell hb5 (by simp [go_sem])
  have s1 : w5.cell? ⟨w4.heap.size, 1, none⟩ = some (.slice vo M.out.length vc) := step_cell hb5 (by simp [go_sem])
  have s2 : w5.cell? ⟨w4.heap.size, 2, none⟩ = some (.int .i64 M.steps) := step_cell hb5 (by simp [go_sem])
  have hz5 : w4.heap.size < w5.heap.size := by have := hb5.size; simp at this; omega
  have HB5 : Hid (Below w4.heap.size w4 w5) := step_below hb5 (HA4.out _)
  clear hb5 y0 y1 y2 y3 y4
  have HA5 : Hid (∀ o1 : Obj, Below w5.heap.size w5 (w5.alloc o1)) := fun o1 => (Below.refl _ _).alloc (Nat.le_refl _) _
  go_wp2_with (go_at_call 11; refine (same _ _ M.state M.steps M.state M.steps M.out M.out _ (HS4.out.later (step_below (HA5.out _) HB5.out)) (HS5.out.later (HA5.out _))).mono ?_; rintro e w6 ⟨rfl, hb6⟩)
  go_ret
  exact ⟨ret_bool (by unfold sameB; simp), step_below hb6 (step_below (HA5.out _) (step_below HB5.out (step_below HB4.out HWX.out)))⟩

theorem walk (takesO : TakesSpec) (pv lv iv : Value) (B : List Bool) (C : List LIns) (s slots : Int) (R : List LRow) (I : List Int) (steps : Int) (w : World) (hp : ProgIs w pv B C) (hl : PlacedIs w lv slots R) (hR : RowsOk R) (hI : InArg w iv I) :
    Calls Tryz.prog 4 #[pv, targetV s, lv, iv, .int .i64 steps] w fun e w' => e = .returned (.bool true) ∧ Below w.heap.size w w' := by
  by_cases ht : TakenP B C s slots R
  · exact walk_yes takesO pv lv iv B C s slots R I steps w hp hl hR hI ht
  · exact walk_no takesO pv lv iv B C s slots R I steps w hp hl hR hI ht

set_option maxRecDepth 100000 in
theorem lifted (takesO : TakesSpec) (os : Os) (started : os.Started) (H : Type) (enc : TypeId × Value → H) :
    ReturnsInHanded {} Tryz.checked os 4 .any (Rows.checkSoundSpec.pre6 enc Tryz.prog Tryz.f4 Rows.checkSoundRow.domain false) (Rows.checkSoundSpec.post enc Tryz.prog Tryz.f4 false true false false) := by
  refine returnsInHanded_of_change (C := Tryz.checked) own started (by kernel_rfl) Tryz.func4
    (ChangeSpec.witness6 (enc := enc) (C := Tryz.checked) false ⟨#[], #[.agg #[.slice none 0 0, .slice none 0 0], .agg #[.int .i64 0], .agg #[.int .i64 0, .slice none 0 0], .slice none 0 0, .int .i64 0], []⟩ 8 (by kernel_rfl) (by kernel_rfl) (by kernel_rfl) (by kernel_rfl)) ?_
  intro W base args ds gs before hval0 hW hcnd _
  have hval : ∀ (j : Nat) t v, Tryz.f4.params[j]? = some t → args[j]? = some v → Value.okWide Tryz.prog W .any base t v := hval0
  have hW' := hW
  obtain ⟨p, q, hA0, hV, rfl, hfz, hnd⟩ := hW
  have hA : DataW.TrodAll enc Tryz.prog W 0 (fun _ => true) true Tryz.f4.params.toList args.toList ds p := hA0
  rw [Tryz.params4] at hA hval
  obtain ⟨v0, vs0, d0, ds0, p0, q0, hargs, rfl, rfl, h0, r0⟩ := trodAll_cons hA
  obtain ⟨v1, vs1, d1, ds1, p1, q1, rfl, rfl, rfl, h1, r1⟩ := trodAll_cons r0
  obtain ⟨v2, vs2, d2, ds2, p2, q2, rfl, rfl, rfl, h2, r2⟩ := trodAll_cons r1
  obtain ⟨v3, vs3, d3, ds3, p3, q3, rfl, rfl, rfl, h3, r3⟩ := trodAll_cons r2
  obtain ⟨v4, vs4, d4, ds4, p4, q4, rfl, rfl, rfl, h4, r4⟩ := trodAll_cons r3
  obtain ⟨rfl, rfl, rfl⟩ := trodAll_nil r4
  obtain rfl : args = #[v0, v1, v2, v3, v4] := by cases args; simp_all
  obtain ⟨rfl, rfl⟩ := trodVars_none hV
  have k0 := h0
  have k1 := h1
  have k2 := h2
  have k3 := h3
  have k4 := h4
  have lt0 : ∀ x ∈ p0, x.block < W.heap.size := by obtain ⟨m, hm⟩ := k0; exact DataW.trod_lt m _ _ _ hm
  have lt1 : ∀ x ∈ p1, x.block < W.heap.size := by obtain ⟨m, hm⟩ := k1; exact DataW.trod_lt m _ _ _ hm
  have lt2 : ∀ x ∈ p2, x.block < W.heap.size := by obtain ⟨m, hm⟩ := k2; exact DataW.trod_lt m _ _ _ hm
  have lt3 : ∀ x ∈ p3, x.block < W.heap.size := by obtain ⟨m, hm⟩ := k3; exact DataW.trod_lt m _ _ _ hm
  have lt4 : ∀ x ∈ p4, x.block < W.heap.size := by obtain ⟨m, hm⟩ := k4; exact DataW.trod_lt m _ _ _ hm
  obtain ⟨B, C, hP⟩ := prog_is (hval 0 25 v0 rfl rfl) h0
  obtain ⟨s, rfl, -, -⟩ := target_is (hval 1 27 v1 rfl rfl) h1
  obtain ⟨slots, R, hL, hR, -, -⟩ := placed_is (hval 2 30 v2 rfl rfl) h2
  obtain ⟨I, hI⟩ := ins_is (hval 3 32 v3 rfl rfl) h3
  obtain ⟨steps, rfl, -, -, -⟩ := open_int Tryz.underlying3 (hval 4 3 v4 rfl rfl) h4
  clear hA0 hval0
  refine (walk takesO v0 v2 v3 B C s slots R I steps W hP hL hR hI).mono fun e W' ⟨he, bel⟩ => ?_
  subst he
  exact ⟨_, rfl, _, _, _, [], _, [], hW', trodAll_mk1 (shut_bool Tryz.underlying4 _),
    (trodAll_cons_mk (Below.trod laidOut (by kernel_rfl) (of_decide_eq_true (by kernel_rfl)) k0 bel lt0) (trodAll_cons_mk (Below.trod laidOut (by kernel_rfl) (of_decide_eq_true (by kernel_rfl)) k1 bel lt1) (trodAll_cons_mk (Below.trod laidOut (by kernel_rfl) (of_decide_eq_true (by kernel_rfl)) k2 bel lt2) (trodAll_cons_mk (Below.trod laidOut (by kernel_rfl) (of_decide_eq_true (by kernel_rfl)) k3 bel lt3) (trodAll_cons_mk (Below.trod laidOut (by kernel_rfl) (of_decide_eq_true (by kernel_rfl)) k4 bel lt4) trodAll_mk0))))), rfl, bel.frame _, fun h => by cases h⟩

theorem over (takesO : TakesSpec) : Rows.checkSoundRow.holds Tryz.pinned (OpenSpec.ofChange Rows.checkSoundSpec) :=
  OpenClaim.holds_of_wide 4 Tryz.f4 rfl rfl rfl rfl rfl rfl rfl ⟨rfl, rfl, rfl, rfl, rfl⟩ rfl rfl rfl rfl rfl (by kernel_rfl) Tryz.func4 (by kernel_rfl)
    (of_decide_eq_true (by kernel_rfl)) (by unfold Func.isWrapper; first | (rw [if_pos (by decide +kernel)]; kernel_rfl) | (rw [if_neg (by decide +kernel)]; exact ⟨rfl, rfl⟩))
    (fun os started H enc _ => lifted takesO os started H enc)

end Go.Proofs.YtdbjklngnloibabGreat.checkSound
