/- loanbooklaw.BuildSame, out of what the program's own build.Build answers. -/
import Derived.Test.YtcmnmogmdhofcabRows
import Derived.ShutString
import Derived.Test.YtcmnmogmdhofcabT09
import Derived.Test.YtcmnmogmdhofcabT20
import Derived.Test.YtcmnmogmdhofcabT21

namespace Go.Proofs.Ytcmnmogmdhofcab.buildSame
open Go.ChangeShapes Go.WideShapes Go.ChangeAt Go.RowKit
open Go.Proofs.Ytcmnmogmdhofcab.form
set_option linter.unusedVariables false

theorem own : ownKnob Try.prog.godebug = none := by kernel_rfl
theorem laidOut : laidOutB Try.prog = true := by kernel_rfl

set_option maxRecDepth 100000 in
set_option maxHeartbeats 1000000 in
theorem walk_no (pv iv : Value) (B : List Bool) (C : List LIns) (s : Int) (I : List Int) (steps : Int) (w : World) (hp : ProgIs w pv B C) (hI : InArg w iv I) (hno : ¬ (targetB s = true ∧ wrongI B C I.length steps = 0)) :
    Calls Try.prog 5 #[pv, targetV s, iv, .int .i64 steps] w fun e w' => e = .returned (.bool true) ∧ Below w.heap.size w w' := by
  have h0 := hp
  obtain ⟨⟨a0, c0, a1, c1, rfl, -⟩, -, -, -⟩ := h0
  obtain ⟨ai, ci, rfl, -, -, -, -⟩ := hI
  have HP : Hid (ProgIs w (.agg #[.slice a0 B.length c0, .slice a1 C.length c1]) B C) := hp
  have HW : Hid (∀ o1 o2 : Obj, Below w.heap.size w ((w.alloc o1).alloc o2)) := fun o1 o2 => ((Below.refl _ _).alloc (Nat.le_refl _) _).alloc (by simp) _
  have HNO : Hid (¬ (targetB s = true ∧ wrongI B C I.length steps = 0)) := hno
  clear hp hno
  unfold targetV
  rcases Bool.eq_false_or_eq_true (refMayB B C) with hr | hr
  case inr =>
    have HR : Hid (refMayB B C = false) := hr
    clear hr
    go_enter Try.func5, Try.ntmps5
    go_wp2_with (go_at_call 8; refine (refMay _ B C _ (HP.out.later (HW.out _ _))).mono ?_; rw [HR.out]; rintro e w1 ⟨rfl, hb1⟩)
    go_ret
    exact ⟨rfl, step_below hb1 (HW.out _ _)⟩
  have HR : Hid (refMayB B C = true) := hr
  clear hr
  rcases Bool.eq_false_or_eq_true (targetB s) with ht | ht
  case inr =>
    have HT : Hid (targetB s = false) := ht
    clear ht
    go_enter Try.func5, Try.ntmps5
    go_wp2_with (first
      | (go_at_call 8; refine (refMay _ B C _ (HP.out.later (HW.out _ _))).mono ?_; rw [HR.out]; rintro e w1 ⟨rfl, hb1⟩; have y2 : w1.cell? ⟨w.heap.size + 1, 0, none⟩ = some (.int .i64 s) := step_cell hb1 (by simp [go_sem]); have HB1 : Hid (Below w.heap.size w w1) := step_below hb1 (HW.out _ _); clear hb1)
      | (go_at_call 13; refine (target s _).mono ?_; rw [HT.out]; rintro e w2 ⟨rfl, hb2⟩))
    go_ret
    exact ⟨rfl, step_below hb2 HB1.out⟩
  have HT : Hid (targetB s = true) := ht
  obtain ⟨x, hx⟩ : ∃ x, x = wrongI B C I.length steps := ⟨_, rfl⟩
  have HX : Hid (wrongI B C I.length steps = x) := hx.symm
  have hx0 : ¬ x = 0 := by rw [hx]; exact fun h => HNO.out ⟨ht, h⟩
  have e1 : (x != 0) = true := by simp [hx0]
  clear ht hx hx0
  go_enter Try.func5, Try.ntmps5
  go_wp2_with (first
    | (go_at_call 8; refine (refMay _ B C _ (HP.out.later (HW.out _ _))).mono ?_; rw [HR.out]; rintro e w1 ⟨rfl, hb1⟩; have y0 : w1.cell? ⟨w.heap.size, 0, none⟩ = some (.slice a0 B.length c0) := step_cell hb1 (by simp [go_sem]); have y1 : w1.cell? ⟨w.heap.size, 1, none⟩ = some (.slice a1 C.length c1) := step_cell hb1 (by simp [go_sem]); have y2 : w1.cell? ⟨w.heap.size + 1, 0, none⟩ = some (.int .i64 s) := step_cell hb1 (by simp [go_sem]); have HB1 : Hid (Below w.heap.size w w1) := step_below hb1 (HW.out _ _); clear hb1)
    | (go_at_call 13; refine (target s _).mono ?_; rw [HT.out]; rintro e w2 ⟨rfl, hb2⟩; have z0 := step_cell hb2 y0; have z1 := step_cell hb2 y1; have HB2 : Hid (Below w.heap.size w w2) := step_below hb2 HB1.out; clear hb2 y0 y1 y2)
    | (go_at_call 16; refine (wrong _ B C _ _ _ _ _ (HP.out.later HB2.out)).mono ?_; rw [HX.out]; rintro e w3 ⟨rfl, hb3⟩; clear z0 z1))
  go_ret
  exact ⟨rfl, step_below hb3 HB2.out⟩

set_option maxRecDepth 100000 in
set_option maxHeartbeats 1000000 in
theorem walk_yes {f : List Bool → List LIns → Int → Int × List LRow} (buildO : BuildSpec f) (hft : BuildTaken f) (pv iv : Value) (B : List Bool) (C : List LIns) (s : Int) (I : List Int) (steps : Int) (w : World) (hp : ProgIs w pv B C) (hI : InArg w iv I) (ht : targetB s = true) (hw0 : wrongI B C I.length steps = 0) :
    Calls Try.prog 5 #[pv, targetV s, iv, .int .i64 steps] w fun e w' => e = .returned (.bool true) ∧ Below w.heap.size w w' := by
  obtain ⟨hm, h40, hst0, hst1⟩ := wrong_zero hw0
  obtain ⟨htk, hro⟩ := hft B C s hp.num hm ht
  obtain ⟨slots, hslots⟩ : ∃ slots, slots = (f B C s).1 := ⟨_, rfl⟩
  obtain ⟨R, hR⟩ : ∃ R, R = (f B C s).2 := ⟨_, rfl⟩
  rw [← hslots, ← hR] at htk
  rw [← hR] at hro
  have HOB : Hid (∀ (wx : World), Below w.heap.size w wx → Calls Try.prog 12 #[pv, targetV s] wx fun e w' => (∃ lv, e = .returned (.tuple #[lv, .int .i64 0]) ∧ PlacedIs w' lv slots R) ∧ Below wx.heap.size wx w') := by
    intro wx hb
    refine (buildO pv B C s wx (hp.later hb)).mono ?_
    rintro e w' ⟨⟨h1, -⟩ | ⟨-, lv, rfl, hl⟩, hb'⟩
    · rw [hm, ht] at h1; exact absurd h1 (by simp)
    · rw [← hslots, ← hR] at hl; exact ⟨⟨lv, rfl, hl⟩, hb'⟩
  have hmay := htk.1
  have hm2 := hmay
  unfold placeMayB at hm2
  simp only [Bool.and_eq_true, Bool.not_eq_true', decide_eq_true_eq, decide_eq_false_iff_not] at hm2
  obtain ⟨⟨⟨⟨-, hs0⟩, hs1⟩, hlen⟩, -⟩ := hm2
  have hsz : sizesB B C = true := by unfold refMayB at hm; simp only [Bool.and_eq_true] at hm; exact hm.1
  obtain ⟨z1, z2, z3, z4⟩ := sizes_of hsz
  obtain ⟨u1, u2, u3⟩ := target_of ht
  have h0 := hp
  obtain ⟨⟨a0, c0, a1, c1, rfl, hh⟩, -, -, hnum⟩ := h0
  obtain ⟨b0, o0, b1, o1, rfl, rfl, hheld⟩ := hh z1 z3
  have hI0 := hI
  obtain ⟨ai, ci, rfl, -, -, hib, -⟩ := hI0
  obtain ⟨ns, rfl⟩ : ∃ ns : Nat, s = ns := Int.eq_ofNat_of_zero_le (by omega)
  obtain ⟨nl, rfl⟩ : ∃ nl : Nat, slots = nl := Int.eq_ofNat_of_zero_le (by omega)
  obtain ⟨n, rfl⟩ : ∃ n : Nat, steps = n := Int.eq_ofNat_of_zero_le hst0
  have hn3 : n ≤ 3000 := by omega
  have HX : Hid (wrongI B C I.length n = 0) := hw0
  have HMAY : Hid (placeMayB B C ns nl R = true) := hmay
  have HMM : Hid (refMayB B C = true) := hm
  have HTG : Hid (targetB ns = true) := ht
  have HP : Hid (ProgIs w (.agg #[.slice (some ⟨b0, o0, none⟩) B.length c0, .slice (some ⟨b1, o1, none⟩) C.length c1]) B C) := hp
  have HH : Hid (Held w b0 o0 b1 o1 B C) := hheld
  have HN : Hid _ := hnum
  have HRB : Hid (∀ k, k < C.length → ∀ x, x ∈ (R.getD k .zero).before ∨ x ∈ (R.getD k .zero).after → 0 ≤ x.n ∧ x.n < 4294967296) := rows_bd hro hlen
  have HIA : Hid (InArg w (.slice ai I.length ci) I) := hI
  have HIB : Hid (∀ j, j < I.length → 0 ≤ I.getD j 0 ∧ I.getD j 0 < 4294967296) := hib
  obtain ⟨e1, e2, e3⟩ := taken_same (ins := I) htk hnum HRB.out hib n
  have HE1 : Hid ((playP C R ns nl I n).out = (playM B C I n).out) := e1
  have HE2 : Hid ((playP C R ns nl I n).state = (playM B C I n).state) := e2
  have HE3 : Hid ((playP C R ns nl I n).steps = (playM B C I n).steps) := e3
  obtain ⟨M, hM⟩ : ∃ M, M = playM B C I n := ⟨_, rfl⟩
  have HM : Hid (playM B C I n = M) := hM.symm
  have HRL : Hid (0 < R.length) := by show 0 < R.length; omega
  have HW : Hid (∀ o1 o2 : Obj, Below w.heap.size w ((w.alloc o1).alloc o2)) := fun o1 o2 => ((Below.refl _ _).alloc (Nat.le_refl _) _).alloc (by simp) _
  clear hp hI hh hheld hnum hib hm ht hw0 hmay hft buildO htk hro hslots hR hs0 hs1 hlen hsz e1 e2 e3 hM z1 z2 z3 z4 u1 u2 u3
  unfold targetV
  unfold targetV at HOB
  go_enter Try.func5, Try.ntmps5
  go_wp2_with fail
  go_at_call 8
  refine (refMay _ B C _ (HP.out.later (HW.out _ _))).mono ?_
  rw [HMM.out]
  rintro e w1 ⟨rfl, hb1⟩
  have y0 : w1.cell? ⟨w.heap.size, 0, none⟩ = some (.slice (some ⟨b0, o0, none⟩) B.length c0) := step_cell hb1 (by simp [go_sem])
  have y1 : w1.cell? ⟨w.heap.size, 1, none⟩ = some (.slice (some ⟨b1, o1, none⟩) C.length c1) := step_cell hb1 (by simp [go_sem])
  have y2 : w1.cell? ⟨w.heap.size + 1, 0, none⟩ = some (.int .i64 ns) := step_cell hb1 (by simp [go_sem])
  have XA : Hid (∀ wz : World, Below w1.heap.size w1 wz → wz.cell? ⟨w.heap.size, 0, none⟩ = some (.slice (some ⟨b0, o0, none⟩) B.length c0) ∧ wz.cell? ⟨w.heap.size, 1, none⟩ = some (.slice (some ⟨b1, o1, none⟩) C.length c1) ∧ wz.cell? ⟨w.heap.size + 1, 0, none⟩ = some (.int .i64 ns)) := fun wz hb => ⟨step_cell hb y0, step_cell hb y1, step_cell hb y2⟩
  have hz1 : w.heap.size + 1 < w1.heap.size := by have := hb1.size; simp at this; omega
  have HB1 : Hid (Below w.heap.size w w1) := step_below hb1 (HW.out _ _)
  clear hb1
  go_wp2_with (first
    | (go_at_call 13; refine (target ns _).mono ?_; rw [HTG.out]; rintro e w2 ⟨rfl, hb2⟩; clear y0 y1 y2; have HB2 : Hid (Below w1.heap.size w1 w2) := hb2; clear hb2; obtain ⟨y0, y1, y2⟩ := XA.out _ HB2.out)
    | (go_at_call 16; refine (wrong _ B C _ _ _ _ _ (HP.out.later (step_below HB2.out HB1.out))).mono ?_; rw [HX.out]; rintro e w3 ⟨rfl, hb3⟩; clear y0 y1 y2; have HB3 : Hid (Below w1.heap.size w1 w3) := step_below hb3 HB2.out; clear hb3; obtain ⟨y0, y1, y2⟩ := XA.out _ HB3.out))
  go_at_call 12
  refine (HOB.out _ (step_below HB3.out HB1.out)).mono ?_
  rintro e w4 ⟨⟨lv, rfl, hl⟩, hb4⟩
  have HL : Hid (PlacedIs w4 lv nl R) := hl
  obtain ⟨lo, lc, rfl, -, hrr⟩ := hl
  obtain ⟨b2, o2, rfl, hrows⟩ := hrr HRL.out
  have HRR : Hid (RowsHeld w4 b2 o2 R) := hrows
  have HB4 : Hid (Below w1.heap.size w1 w4) := step_below hb4 HB3.out
  clear hb4 y0 y1 y2 hrr hrows
  obtain ⟨y0, y1, y2⟩ := XA.out _ HB4.out
  have hz4 : w.heap.size + 1 < w4.heap.size := Nat.lt_of_lt_of_le hz1 HB4.out.size
  have q4 : w.heap.size < w4.heap.size := by omega
  have HA4 : Hid (∀ o1 : Obj, Below w4.heap.size w4 (w4.alloc o1)) := fun o1 => (Below.refl _ _).alloc (Nat.le_refl _) _
  go_wp2_with fail
  go_at_call 17
  refine (may6 _ _ B C ns nl R _ (HP.out.later (step_below (HA4.out _) (step_below HB4.out HB1.out))) (HL.out.later (HA4.out _))).mono ?_
  rw [HMAY.out]
  rintro e w5 ⟨rfl, hb5⟩
  have l0 : w5.cell? ⟨w4.heap.size, 0, none⟩ = some (.int .i64 nl) := step_cell hb5 (by simp [go_sem])
  have l1 : w5.cell? ⟨w4.heap.size, 1, none⟩ = some (.slice (some ⟨b2, o2, none⟩) R.length lc) := step_cell hb5 (by simp [go_sem])
  have HB5 : Hid (Below w4.heap.size w4 w5) := step_below hb5 (HA4.out _)
  have hz5 : w4.heap.size < w5.heap.size := by have := hb5.size; simp at this; omega
  clear hb5 y0 y1 y2
  obtain ⟨y0, y1, y2⟩ := XA.out _ (step_below HB5.out HB4.out)
  go_wp2_with fail
  go_at_call 18
  have HBW : Hid (Below w.heap.size w w5) := step_below HB5.out (step_below HB4.out HB1.out)
  refine (play b0 o0 c0 b1 o1 c1 B C _ I n _ HMM.out (HH.out.later HBW.out) HN.out ((HIA.out.out h40).later HBW.out) HIB.out hn3).mono ?_
  rw [HM.out]
  rintro e w6 ⟨rv, rfl, hsh, hb6⟩
  have HS6 : Hid (ShownIs w6 rv M.state M.out M.steps) := hsh
  obtain ⟨ov, rfl, vo, vc, rfl, -, -⟩ := hsh
  have l0 := step_cell hb6 l0
  have l1 := step_cell hb6 l1
  have HB6 : Hid (Below w5.heap.size w5 w6) := hb6
  have hz6 : w4.heap.size < w6.heap.size := Nat.lt_of_lt_of_le hz5 hb6.size
  have q6 : w.heap.size + 1 < w6.heap.size := by omega
  have q7 : w.heap.size < w6.heap.size := by omega
  clear hb6 y0 y1 y2
  obtain ⟨y0, y1, y2⟩ := XA.out _ (step_below HB6.out (step_below HB5.out HB4.out))
  have HA6 : Hid (∀ o1 : Obj, Below w6.heap.size w6 (w6.alloc o1)) := fun o1 => (Below.refl _ _).alloc (Nat.le_refl _) _
  have HBX : Hid (Below w.heap.size w w6) := step_below HB6.out HBW.out
  have HRX : Hid (Below w4.heap.size w4 w6) := step_below HB6.out HB5.out
  go_wp2_with fail
  go_at_call 19
  refine (play7 b0 o0 c0 b1 o1 c1 b2 o2 lc B C R ns nl _ I n _ HMAY.out (HH.out.later (step_below (HA6.out _) HBX.out)) (HRR.out.later (step_below (HA6.out _) HRX.out)) HN.out HRB.out ((HIA.out.out h40).later (step_below (HA6.out _) HBX.out)) HIB.out hn3).mono ?_
  rw [HE1.out, HE2.out, HE3.out, HM.out]
  rintro e w7 ⟨rv7, rfl, hsh7, hb7⟩
  have HS7 : Hid (ShownIs w7 rv7 M.state M.out M.steps) := hsh7
  obtain ⟨ov7, rfl, vo7, vc7, rfl, -, -⟩ := hsh7
  have s0 : w7.cell? ⟨w6.heap.size, 0, none⟩ = some (.int .i64 M.state) := step_cell hb7 (by simp [go_sem])
  have s1 : w7.cell? ⟨w6.heap.size, 1, none⟩ = some (.slice vo M.out.length vc) := step_cell hb7 (by simp [go_sem])
  have s2 : w7.cell? ⟨w6.heap.size, 2, none⟩ = some (.int .i64 M.steps) := step_cell hb7 (by simp [go_sem])
  have hz7 : w6.heap.size < w7.heap.size := by have := hb7.size; simp at this; omega
  have HB7 : Hid (Below w6.heap.size w6 w7) := step_below hb7 (HA6.out _)
  clear hb7 y0 y1 y2 l0 l1
  have HA7 : Hid (∀ o1 : Obj, Below w7.heap.size w7 (w7.alloc o1)) := fun o1 => (Below.refl _ _).alloc (Nat.le_refl _) _
  go_wp2_with (go_at_call 20; refine (same _ _ M.state M.steps M.state M.steps M.out M.out _ (HS6.out.later (step_below (HA7.out _) HB7.out)) (HS7.out.later (HA7.out _))).mono ?_; rintro e w8 ⟨rfl, hb8⟩)
  go_ret
  exact ⟨ret_bool (by unfold sameB; simp), step_below hb8 (step_below (HA7.out _) (step_below HB7.out HBX.out))⟩

theorem walk {f : List Bool → List LIns → Int → Int × List LRow} (buildO : BuildSpec f) (hft : BuildTaken f) (pv iv : Value) (B : List Bool) (C : List LIns) (s : Int) (I : List Int) (steps : Int) (w : World) (hp : ProgIs w pv B C) (hI : InArg w iv I) :
    Calls Try.prog 5 #[pv, targetV s, iv, .int .i64 steps] w fun e w' => e = .returned (.bool true) ∧ Below w.heap.size w w' := by
  by_cases h : targetB s = true ∧ wrongI B C I.length steps = 0
  · exact walk_yes buildO hft pv iv B C s I steps w hp hI h.1 h.2
  · exact walk_no pv iv B C s I steps w hp hI h

set_option maxRecDepth 100000 in
theorem lifted {f : List Bool → List LIns → Int → Int × List LRow} (buildO : BuildSpec f) (hft : BuildTaken f) (os : Os) (started : os.Started) (H : Type) (enc : TypeId × Value → H) :
    ReturnsInHanded {} Try.checked os 5 .any (Rows.buildSameSpec.pre6 enc Try.prog Try.f5 Rows.buildSameRow.domain false) (Rows.buildSameSpec.post enc Try.prog Try.f5 false true false false) := by
  refine returnsInHanded_of_change (C := Try.checked) own started (by kernel_rfl) Try.func5
    (ChangeSpec.witness6 (enc := enc) (C := Try.checked) false ⟨#[], #[.agg #[.slice none 0 0, .slice none 0 0], .agg #[.int .i64 0], .slice none 0 0, .int .i64 0], []⟩ 8 (by kernel_rfl) (by kernel_rfl) (by kernel_rfl) (by kernel_rfl)) ?_
  intro W base args ds gs before hval0 hW hcnd _
  have hval : ∀ (j : Nat) t v, Try.f5.params[j]? = some t → args[j]? = some v → Value.okWide Try.prog W .any base t v := hval0
  have hW' := hW
  obtain ⟨p, q, hA0, hV, rfl, hfz, hnd⟩ := hW
  have hA : DataW.TrodAll enc Try.prog W 0 (fun _ => true) true Try.f5.params.toList args.toList ds p := hA0
  rw [Try.params5] at hA hval
  obtain ⟨v0, vs0, d0, ds0, p0, q0, hargs, rfl, rfl, h0, r0⟩ := trodAll_cons hA
  obtain ⟨v1, vs1, d1, ds1, p1, q1, rfl, rfl, rfl, h1, r1⟩ := trodAll_cons r0
  obtain ⟨v2, vs2, d2, ds2, p2, q2, rfl, rfl, rfl, h2, r2⟩ := trodAll_cons r1
  obtain ⟨v3, vs3, d3, ds3, p3, q3, rfl, rfl, rfl, h3, r3⟩ := trodAll_cons r2
  obtain ⟨rfl, rfl, rfl⟩ := trodAll_nil r3
  obtain rfl : args = #[v0, v1, v2, v3] := by cases args; simp_all
  obtain ⟨rfl, rfl⟩ := trodVars_none hV
  have k0 := h0
  have k1 := h1
  have k2 := h2
  have k3 := h3
  have lt0 : ∀ x ∈ p0, x.block < W.heap.size := by obtain ⟨m, hm⟩ := k0; exact DataW.trod_lt m _ _ _ hm
  have lt1 : ∀ x ∈ p1, x.block < W.heap.size := by obtain ⟨m, hm⟩ := k1; exact DataW.trod_lt m _ _ _ hm
  have lt2 : ∀ x ∈ p2, x.block < W.heap.size := by obtain ⟨m, hm⟩ := k2; exact DataW.trod_lt m _ _ _ hm
  have lt3 : ∀ x ∈ p3, x.block < W.heap.size := by obtain ⟨m, hm⟩ := k3; exact DataW.trod_lt m _ _ _ hm
  obtain ⟨B, C, hP⟩ := prog_is (hval 0 25 v0 rfl rfl) h0
  obtain ⟨s1, rfl, -, -⟩ := target_is (hval 1 37 v1 rfl rfl) h1
  obtain ⟨I, hI⟩ := ins_is (hval 2 49 v2 rfl rfl) h2
  obtain ⟨n3, rfl, -, -, -⟩ := open_int Try.underlying3 (hval 3 3 v3 rfl rfl) h3
  clear hA0 hval0
  refine (walk buildO hft v0 v2 B C s1 I n3 W hP hI).mono fun e W' ⟨he, bel⟩ => ?_
  subst he
  exact ⟨_, rfl, _, _, _, [], _, [], hW', trodAll_mk1 (shut_bool Try.underlying4 _),
    (trodAll_cons_mk (Below.trod laidOut (by kernel_rfl) (of_decide_eq_true (by kernel_rfl)) k0 bel lt0) (trodAll_cons_mk (Below.trod laidOut (by kernel_rfl) (of_decide_eq_true (by kernel_rfl)) k1 bel lt1) (trodAll_cons_mk (Below.trod laidOut (by kernel_rfl) (of_decide_eq_true (by kernel_rfl)) k2 bel lt2) (trodAll_cons_mk (Below.trod laidOut (by kernel_rfl) (of_decide_eq_true (by kernel_rfl)) k3 bel lt3) trodAll_mk0)))), rfl, bel.frame _, fun h => by cases h⟩

theorem over {f : List Bool → List LIns → Int → Int × List LRow} (buildO : BuildSpec f) (hft : BuildTaken f) : Rows.buildSameRow.holds Try.pinned (OpenSpec.ofChange Rows.buildSameSpec) :=
  OpenClaim.holds_of_wide 5 Try.f5 rfl rfl rfl rfl rfl rfl rfl ⟨rfl, rfl, rfl, rfl, rfl⟩ rfl rfl rfl rfl rfl (by kernel_rfl) Try.func5 (by kernel_rfl)
    (of_decide_eq_true (by kernel_rfl)) (by unfold Func.isWrapper; first | (rw [if_pos (by decide +kernel)]; kernel_rfl) | (rw [if_neg (by decide +kernel)]; exact ⟨rfl, rfl⟩))
    (fun os started H enc _ => lifted buildO hft os started H enc)

end Go.Proofs.Ytcmnmogmdhofcab.buildSame
