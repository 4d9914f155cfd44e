/- For every program, target and places, such as may not be among them, and any two places, what the program tells of whether they may be, and of whether these overlap, is what the document's chapter on places says. No condition. -/
import Derived.Test.YtcmnmogmdhofcaaPlaceOpen
import Derived.Test.YtcmnmogmdhofcaaPlaceOwnMay
import Derived.ShutString
namespace Go.Proofs.Ytcmnmogmdhofcaa.placeTells
open Go.ChangeShapes Go.WideShapes Go.ChangeAt Go.RowKit
open Go.Proofs.Ytcmnmogmdhofcaa.form
set_option linter.unusedVariables false

theorem own : ownKnob Try.prog.godebug = none := by kernel_rfl
theorem laidOut : laidOutB Try.prog = true := by kernel_rfl

theorem over_same (a b : LPlace) : overO a b = overB a b := by
  unfold overO singB overB
  rw [Bool.eq_iff_iff]
  split <;> (try split) <;> (try split) <;> simp_all <;> omega

set_option maxRecDepth 100000 in
set_option maxHeartbeats 1000000 in
theorem walk (pv lv : Value) (B : List Bool) (C : List LIns) (s slots : Int) (R : List LRow) (a b : LPlace) (w : World) (hp : ProgIs w pv B C) (hl : PlacedIs w lv slots R) (ha : I64 a.n) (hb : I64 b.n) :
    Calls Try.prog 11 #[pv, targetV s, lv, a.val, b.val] w fun e w' => e = .returned (.bool true) ∧ Below w.heap.size w w' := by
  have h0 := hp
  obtain ⟨⟨a0, c0, a1, c1, rfl, -⟩, -, -, -⟩ := h0
  have h1 := hl
  obtain ⟨ao, cap, rfl, -, -⟩ := h1
  obtain ⟨m, hm⟩ : ∃ m, m = placeMayB B C s slots R := ⟨_, rfl⟩
  obtain ⟨q, hq⟩ : ∃ q, q = overB a b := ⟨_, rfl⟩
  have HOWN : Hid (∀ wx : World, Below w.heap.size w wx → Calls Try.prog 29 #[.agg #[.slice a0 B.length c0, .slice a1 C.length c1], targetV s, .agg #[.int .i64 slots, .slice ao R.length cap]] wx fun e w' => e = .returned (.bool m) ∧ Below wx.heap.size wx w') := fun wx hb => by
    rw [hm]; exact mayO _ _ B C s slots R wx (hp.later hb) (hl.later hb)
  have HREF : Hid (∀ wx : World, Below w.heap.size w wx → Calls Try.prog 31 #[.agg #[.slice a0 B.length c0, .slice a1 C.length c1], targetV s, .agg #[.int .i64 slots, .slice ao R.length cap]] wx fun e w' => e = .returned (.bool m) ∧ Below wx.heap.size wx w') := fun wx hb => by
    rw [hm]; exact may6 _ _ B C s slots R wx (hp.later hb) (hl.later hb)
  have HOO : Hid (∀ wx : World, Calls Try.prog 30 #[a.val, b.val] wx fun e w' => e = .returned (.bool q) ∧ Below wx.heap.size wx w') := fun wx => by
    rw [hq, ← over_same]; exact overlapO a b wx
  have HOR : Hid (∀ wx : World, Calls Try.prog 32 #[a.val, b.val] wx fun e w' => e = .returned (.bool q) ∧ Below wx.heap.size wx w') := fun wx => by
    rw [hq]; exact overlap6 a b ha hb wx
  clear hp hl hm hq ha hb
  unfold targetV LPlace.val
  obtain ⟨wx, hwx⟩ : ∃ wx, wx = ((((w.alloc (.cells #[.slice a0 B.length c0, .slice a1 C.length c1] 31)).alloc (.cells #[.int .i64 s] 52)).alloc (.cells #[.int .i64 slots, .slice ao R.length cap] 55)).alloc (.cells #[.int .i64 a.kind, .int .i64 a.n] 57)).alloc (.cells #[.int .i64 b.kind, .int .i64 b.n] 57) := ⟨_, rfl⟩
  have HWX : Hid (Below w.heap.size w wx) := by rw [hwx]; exact (((((Below.refl _ _).alloc (Nat.le_refl _) _).alloc (by simp) _).alloc (by simp; omega) _).alloc (by simp; omega) _).alloc (by simp; omega) _
  have x0 : wx.cell? ⟨w.heap.size, 0, none⟩ = some (.slice a0 B.length c0) := by rw [hwx]; simp [go_sem]
  have x1 : wx.cell? ⟨w.heap.size, 1, none⟩ = some (.slice a1 C.length c1) := by rw [hwx]; simp [go_sem]
  have x2 : wx.cell? ⟨w.heap.size + 1, 0, none⟩ = some (.int .i64 s) := by rw [hwx]; simp [go_sem]
  have x3 : wx.cell? ⟨w.heap.size + 1 + 1, 0, none⟩ = some (.int .i64 slots) := by rw [hwx]; simp [go_sem]
  have x4 : wx.cell? ⟨w.heap.size + 1 + 1, 1, none⟩ = some (.slice ao R.length cap) := by rw [hwx]; simp [go_sem]
  have x5 : wx.cell? ⟨w.heap.size + 1 + 1 + 1, 0, none⟩ = some (.int .i64 a.kind) := by rw [hwx]; simp [go_sem]
  have x6 : wx.cell? ⟨w.heap.size + 1 + 1 + 1, 1, none⟩ = some (.int .i64 a.n) := by rw [hwx]; simp [go_sem]
  have x7 : wx.cell? ⟨w.heap.size + 1 + 1 + 1 + 1, 0, none⟩ = some (.int .i64 b.kind) := by rw [hwx]; simp [go_sem]
  have x8 : wx.cell? ⟨w.heap.size + 1 + 1 + 1 + 1, 1, none⟩ = some (.int .i64 b.n) := by rw [hwx]; simp [go_sem]
  have XA : Hid (wx.cell? ⟨w.heap.size, 0, none⟩ = some (.slice a0 B.length c0) ∧ wx.cell? ⟨w.heap.size, 1, none⟩ = some (.slice a1 C.length c1) ∧ wx.cell? ⟨w.heap.size + 1, 0, none⟩ = some (.int .i64 s) ∧ wx.cell? ⟨w.heap.size + 1 + 1, 0, none⟩ = some (.int .i64 slots) ∧ wx.cell? ⟨w.heap.size + 1 + 1, 1, none⟩ = some (.slice ao R.length cap) ∧ wx.cell? ⟨w.heap.size + 1 + 1 + 1, 0, none⟩ = some (.int .i64 a.kind) ∧ wx.cell? ⟨w.heap.size + 1 + 1 + 1, 1, none⟩ = some (.int .i64 a.n) ∧ wx.cell? ⟨w.heap.size + 1 + 1 + 1 + 1, 0, none⟩ = some (.int .i64 b.kind) ∧ wx.cell? ⟨w.heap.size + 1 + 1 + 1 + 1, 1, none⟩ = some (.int .i64 b.n)) := ⟨x0, x1, x2, x3, x4, x5, x6, x7, x8⟩
  go_enter Try.func11, Try.ntmps11
  go_upto_region 1 with fail
  rw [← hwx]
  clear hwx
  cases q <;> cases m
  all_goals
    go_wp2_with (first
      | (go_at_call 29; refine (HOWN.out _ HWX.out).mono ?_; rintro e w1 ⟨rfl, hb1⟩; clear x0 x1 x2 x3 x4 x5 x6 x7 x8; obtain ⟨y0, y1, y2, y3, y4, y5, y6, y7, y8⟩ := XA.out; have y0 := step_cell hb1 y0; have y1 := step_cell hb1 y1; have y2 := step_cell hb1 y2; have y3 := step_cell hb1 y3; have y4 := step_cell hb1 y4; have y5 := step_cell hb1 y5; have y6 := step_cell hb1 y6; have y7 := step_cell hb1 y7; have y8 := step_cell hb1 y8)
      | (go_at_call 30; refine (HOO.out _).mono ?_; rintro e w2 ⟨rfl, hb2⟩; have z0 := step_cell hb2 y0; have z1 := step_cell hb2 y1; have z2 := step_cell hb2 y2; have z3 := step_cell hb2 y3; have z4 := step_cell hb2 y4; have z5 := step_cell hb2 y5; have z6 := step_cell hb2 y6; have z7 := step_cell hb2 y7; have z8 := step_cell hb2 y8; clear y0 y1 y2 y3 y4 y5 y6 y7 y8)
      | (go_at_call 31; refine (HREF.out _ (step_below hb2 (step_below hb1 HWX.out))).mono ?_; rintro e w3 ⟨rfl, hb3⟩; have v5 := step_cell hb3 z5; have v6 := step_cell hb3 z6; have v7 := step_cell hb3 z7; have v8 := step_cell hb3 z8; clear z0 z1 z2 z3 z4 z5 z6 z7 z8)
      | (go_at_call 32; refine (HOR.out _).mono ?_; rintro e w4 ⟨rfl, hb4⟩))
    go_ret
    exact ⟨rfl, step_below hb4 (step_below hb3 (step_below hb2 (step_below hb1 HWX.out)))⟩

set_option maxRecDepth 100000 in
theorem lifted (os : Os) (started : os.Started) (H : Type) (enc : TypeId × Value → H) :
    ReturnsInHanded {} Try.checked os 11 .any (Rows.placeTellsSpec.pre6 enc Try.prog Try.f11 Rows.placeTellsRow.domain false) (Rows.placeTellsSpec.post enc Try.prog Try.f11 false true false false) := by
  refine returnsInHanded_of_change (C := Try.checked) own started (by kernel_rfl) Try.func11
    (ChangeSpec.witness6 (enc := enc) (C := Try.checked) false ⟨#[], #[.agg #[.slice none 0 0, .slice none 0 0], .agg #[.int .i64 0], .agg #[.int .i64 0, .slice none 0 0], .agg #[.int .i64 0, .int .i64 0], .agg #[.int .i64 0, .int .i64 0]], []⟩ 8 (by kernel_rfl) (by kernel_rfl) (by kernel_rfl) (by kernel_rfl)) ?_
  intro W base args ds gs before hval0 hW hcnd _
  have hval : ∀ (j : Nat) t v, Try.f11.params[j]? = some t → args[j]? = some v → Value.okWide Try.prog W .any base t v := hval0
  have hW' := hW
  obtain ⟨p, q, hA0, hV, rfl, hfz, hnd⟩ := hW
  have hA : DataW.TrodAll enc Try.prog W 0 (fun _ => true) true Try.f11.params.toList args.toList ds p := hA0
  rw [Try.params11] at hA hval
  obtain ⟨v0, vs0, d0, ds0, p0, q0, hargs, rfl, rfl, h0, r0⟩ := trodAll_cons hA
  obtain ⟨v1, vs1, d1, ds1, p1, q1, rfl, rfl, rfl, h1, r1⟩ := trodAll_cons r0
  obtain ⟨v2, vs2, d2, ds2, p2, q2, rfl, rfl, rfl, h2, r2⟩ := trodAll_cons r1
  obtain ⟨v3, vs3, d3, ds3, p3, q3, rfl, rfl, rfl, h3, r3⟩ := trodAll_cons r2
  obtain ⟨v4, vs4, d4, ds4, p4, q4, rfl, rfl, rfl, h4, r4⟩ := trodAll_cons r3
  obtain ⟨rfl, rfl, rfl⟩ := trodAll_nil r4
  obtain rfl : args = #[v0, v1, v2, v3, v4] := by cases args; simp_all
  obtain ⟨rfl, rfl⟩ := trodVars_none hV
  have k0 := h0
  have k1 := h1
  have k2 := h2
  have k3 := h3
  have k4 := h4
  have lt0 : ∀ x ∈ p0, x.block < W.heap.size := by obtain ⟨m, hm⟩ := k0; exact DataW.trod_lt m _ _ _ hm
  have lt1 : ∀ x ∈ p1, x.block < W.heap.size := by obtain ⟨m, hm⟩ := k1; exact DataW.trod_lt m _ _ _ hm
  have lt2 : ∀ x ∈ p2, x.block < W.heap.size := by obtain ⟨m, hm⟩ := k2; exact DataW.trod_lt m _ _ _ hm
  have lt3 : ∀ x ∈ p3, x.block < W.heap.size := by obtain ⟨m, hm⟩ := k3; exact DataW.trod_lt m _ _ _ hm
  have lt4 : ∀ x ∈ p4, x.block < W.heap.size := by obtain ⟨m, hm⟩ := k4; exact DataW.trod_lt m _ _ _ hm
  obtain ⟨B, C, hP⟩ := prog_is (hval 0 31 v0 rfl rfl) h0
  obtain ⟨s, rfl, -, -⟩ := target_is (hval 1 52 v1 rfl rfl) h1
  obtain ⟨slots, R, hL, -, -, -⟩ := placed_is (hval 2 55 v2 rfl rfl) h2
  obtain ⟨a, rfl, -, ha⟩ := place_is (hval 3 57 v3 rfl rfl) h3
  obtain ⟨b, rfl, -, hb⟩ := place_is (hval 4 57 v4 rfl rfl) h4
  clear hA0 hval0
  refine (walk v0 v2 B C s slots R a b W hP hL ha hb).mono fun e W' ⟨he, bel⟩ => ?_
  subst he
  exact ⟨_, rfl, _, _, _, [], _, [], hW', trodAll_mk1 (shut_bool Try.underlying4 _),
    (trodAll_cons_mk (Below.trod laidOut (by kernel_rfl) (of_decide_eq_true (by kernel_rfl)) k0 bel lt0) (trodAll_cons_mk (Below.trod laidOut (by kernel_rfl) (of_decide_eq_true (by kernel_rfl)) k1 bel lt1) (trodAll_cons_mk (Below.trod laidOut (by kernel_rfl) (of_decide_eq_true (by kernel_rfl)) k2 bel lt2) (trodAll_cons_mk (Below.trod laidOut (by kernel_rfl) (of_decide_eq_true (by kernel_rfl)) k3 bel lt3) (trodAll_cons_mk (Below.trod laidOut (by kernel_rfl) (of_decide_eq_true (by kernel_rfl)) k4 bel lt4) trodAll_mk0))))), rfl, bel.frame _, fun h => by cases h⟩

theorem over : Rows.placeTellsRow.holds Try.pinned (OpenSpec.ofChange Rows.placeTellsSpec) :=
  OpenClaim.holds_of_wide 11 Try.f11 rfl rfl rfl rfl rfl rfl rfl ⟨rfl, rfl, rfl, rfl, rfl⟩ rfl rfl rfl rfl rfl (by kernel_rfl) Try.func11 (by kernel_rfl)
    (of_decide_eq_true (by kernel_rfl)) (by unfold Func.isWrapper; first | (rw [if_pos (by decide +kernel)]; kernel_rfl) | (rw [if_neg (by decide +kernel)]; exact ⟨rfl, rfl⟩))
    (fun os started H enc _ => lifted os started H enc)

end Go.Proofs.Ytcmnmogmdhofcaa.placeTells
namespace Go.Proofs.Ytcmnmogmdhofcaa
theorem placeTells_holds : Rows.PlaceTellsSaid := placeTells.over
#print axioms placeTells_holds
end Go.Proofs.Ytcmnmogmdhofcaa
