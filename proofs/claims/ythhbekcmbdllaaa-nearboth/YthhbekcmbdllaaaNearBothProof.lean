/- For every program: who is near another one has that one near, and none is near itself; two that are needed ahead of the first instruction are near; what comes out has as many rows as there are temporaries, and instructions. No condition. -/
import Derived.Test.YthhbekcmbdllaaaFormOpen
import Derived.Test.YthhbekcmbdllaaaNearOwn
import Derived.ShutString
namespace Go.Proofs.Ythhbekcmbdllaaa.nearBoth
open Go.ChangeShapes Go.WideShapes Go.ChangeAt Go.RowKit
open Go.Proofs.Ythhbekcmbdllaaa.form (LIns ProgIs prog_is refMayB over_alloc step_below step_cell own_yesF own_no OwnAnsF near_yes near_no OwnNear MatF NrS getF Near Snd Cls flat_need sizesB sizes_of all_insOk progV Held Need need_iff)
set_option linter.unusedVariables false
attribute [local go_sem ↓] Go.wp_at_zero Go.wp_at_succ

theorem own : ownKnob Try.prog.godebug = none := by kernel_rfl
theorem laidOut : laidOutB Try.prog = true := by kernel_rfl

def C2 : List LIns := [⟨3, 0, 0, 0, 0, 0⟩, ⟨3, 1, 0, 0, 0, 0⟩, ⟨4, 0, 0, 0, 0, 0⟩, ⟨4, 0, 1, 0, 0, 0⟩]
def B2 : List Bool := [false, false]
theorem may2 : refMayB B2 C2 = true := by decide
theorem need2 : Need C2 0 2 := by
  rw [need_iff]
  exact ⟨by decide, Or.inl (by decide)⟩
theorem near2 : Near C2 ((0 : Nat) : Int) ((1 : Nat) : Int) := by
  refine ⟨by decide, Or.inr ⟨1, by decide, Or.inr ⟨by decide, by decide, 2, by decide, ?_⟩⟩⟩
  exact need2

/-- What near.Of tells of the two that are known. -/
theorem known2 (b0 b1 c0 c1 : Nat) (w : World) (h : Held w b0 0 b1 0 B2 C2) :
    Calls Try.prog 24 #[.agg #[.slice (some ⟨b0, 0, none⟩) 2 c0, .slice (some ⟨b1, 0, none⟩) 4 c1]] w fun e w' => (∃ gn, e = .returned (.tuple #[.slice (some ⟨gn, 0, none⟩) 2 2, .int .i64 0]) ∧ w'.cell? ⟨gn, 0, none⟩ = some (.slice (some ⟨gn + 1, 0, none⟩) 2 2) ∧ w'.cell? ⟨gn + 1, 1, none⟩ = some (.bool true)) ∧ Below w.heap.size w w' := by
  refine (near_yes b0 0 c0 b1 0 c1 B2 C2 w h (by decide) may2).mono ?_
  rintro e w' ⟨⟨gn, L, rfl, hM, hS⟩, hb⟩
  refine ⟨⟨gn, rfl, hM.top 0 (by decide), ?_⟩, hb⟩
  have := hM.cell (k := 0) (t := 1) (by decide) (by decide)
  rw [(hS.tru 0 1 (by decide) (by decide)).2 near2] at this
  exact this

def two1 : Obj := .cells #[.bool false, .bool false] 4
def two2 : Obj := .cells #[.int .i64 3, .int .i64 0, .int .i64 0, .int .i64 0, .int .i64 0, .int .u32 0, .int .i64 3, .int .i64 1, .int .i64 0, .int .i64 0, .int .i64 0, .int .u32 0,
  .int .i64 4, .int .i64 0, .int .i64 0, .int .i64 0, .int .i64 0, .int .u32 0, .int .i64 4, .int .i64 0, .int .i64 1, .int .i64 0, .int .i64 0, .int .u32 0] 50

theorem held2 (w : World) (o : Obj) : Held (((w.alloc two1).alloc two2).alloc o) w.heap.size 0 (w.heap.size + 1) 0 B2 C2 := by
  unfold two1 two2
  refine ⟨by simp; omega, by simp, fun i hi => ?_, fun i hi => ?_⟩
  · have hi : i < 2 := hi
    obtain rfl | rfl : i = 0 ∨ i = 1 := by omega
    · simp [go_sem, B2]
    · simp [go_sem, B2]
  · have hi : i < 4 := hi
    obtain rfl | rfl | rfl | rfl : i = 0 ∨ i = 1 ∨ i = 2 ∨ i = 3 := by omega
    all_goals simp [go_sem, C2]

theorem known2w (w : World) (o : Obj) :
    Calls Try.prog 24 #[.agg #[.slice (some ⟨w.heap.size, 0, none⟩) 2 2, .slice (some ⟨w.heap.size + 1, 0, none⟩) 4 4]] (((w.alloc two1).alloc two2).alloc o) fun e w' => (∃ gn, e = .returned (.tuple #[.slice (some ⟨gn, 0, none⟩) 2 2, .int .i64 0]) ∧ w'.cell? ⟨gn, 0, none⟩ = some (.slice (some ⟨gn + 1, 0, none⟩) 2 2) ∧ w'.cell? ⟨gn + 1, 1, none⟩ = some (.bool true)) ∧ Below w.heap.size w w' := by
  refine (known2 w.heap.size (w.heap.size + 1) 2 4 _ (held2 w o)).mono ?_
  rintro e w' ⟨h, hb⟩
  exact ⟨h, ((((Below.refl _ _).alloc (Nat.le_refl _) _).alloc (by simp) _).alloc (by simp; omega) _).trans (hb.mono (by simp; omega))⟩

set_option maxRecDepth 100000 in
theorem walk_no (v : Value) (B : List Bool) (C : List LIns) (w : World) (h : ProgIs w v B C) (hm : refMayB B C = false) :
    Calls Try.prog 10 #[v] w fun e w' => e = .returned (.bool true) ∧ Below w.heap.size w w' := by
  have HM : Hid (refMayB B C = false) := hm
  clear hm
  have h0 := h
  obtain ⟨⟨a0, c0, a1, c1, rfl, -⟩, -, -, -⟩ := h0
  have HP : Hid (ProgIs w (.agg #[.slice a0 B.length c0, .slice a1 C.length c1]) B C) := h
  clear h
  go_enter Try.func10, Try.ntmps10
  go_wp2_with (first
    | (have hgd := HB2; clear hgd; go_at_call 24; refine (known2w w2 _).mono ?_; rintro e w3 ⟨⟨gk, rfl, k0, k1⟩, hb3⟩; have HB3 : Hid (Below w.heap.size w w3) := step_below hb3 HB2.out; clear hb3)
    | (go_at_call 24; refine (near_no _ B C _ (HP.out.later ?_) HM.out).mono ?_; (exact (Below.refl _ _).alloc (Nat.le_refl _) _); rintro e w1 ⟨rfl, hb1⟩; have p0 : w1.cell? ⟨w.heap.size, 0, none⟩ = some (.slice a0 B.length c0) := step_cell hb1 (by simp [go_sem]); have p1 : w1.cell? ⟨w.heap.size, 1, none⟩ = some (.slice a1 C.length c1) := step_cell hb1 (by simp [go_sem]); have HB : Hid (Below w.heap.size w w1) := over_alloc hb1; clear hb1)
    | (go_at_call 21; refine (own_no _ B C _ (HP.out.later HB.out) HM.out).mono ?_; rintro e w2 ⟨rfl, hb2⟩; have HB2 : Hid (Below w.heap.size w w2) := step_below hb2 HB.out; clear hb2))
  go_ret
  exact ⟨rfl, HB3.out⟩

set_option maxRecDepth 100000 in
set_option maxHeartbeats 8000000 in
theorem walk_yes (b0 o0 c0 b1 o1 c1 : Nat) (B : List Bool) (C : List LIns) (w : World) (h : Held w b0 o0 b1 o1 B C) (hn : ∀ i, i < C.length → 0 ≤ (C.getD i .zero).n ∧ (C.getD i .zero).n < 4294967296) (hm : refMayB B C = true) :
    Calls Try.prog 10 #[progV b0 o0 B.length c0 b1 o1 C.length c1] w fun e w' => e = .returned (.bool true) ∧ Below w.heap.size w w' := by
  have hs : sizesB B C = true := by unfold refMayB at hm; simp only [Bool.and_eq_true] at hm; exact hm.1
  obtain ⟨s1, s2, s3, s4⟩ := sizes_of hs
  have HNEAR : Hid (∀ wx : World, Below w.heap.size w wx → Calls Try.prog 24 #[progV b0 o0 B.length c0 b1 o1 C.length c1] wx fun e w' => OwnNear B.length C e w' ∧ Below wx.heap.size wx w') := fun wx hb => near_yes b0 o0 c0 b1 o1 c1 B C wx (h.later hb) hn hm
  have HOWN : Hid (∀ wx : World, Below w.heap.size w wx → Calls Try.prog 21 #[progV b0 o0 B.length c0 b1 o1 C.length c1] wx fun e w' => OwnAnsF wx.heap.size B.length C e w' ∧ Below wx.heap.size wx w') := fun wx hb => own_yesF b0 o0 c0 b1 o1 c1 B C wx (h.later hb) hn hm
  clear h hn hm hs
  have y2 : (C.length : Int) ≤ 40 := by omega
  have y3 : (B.length : Int) ≤ 12 := by omega
  have y1 : (1 : Int) ≤ (C.length : Int) := by omega
  unfold progV
  go_enter Try.func10, Try.ntmps10
  go_wp2_with (first
    | (have hgd := HB2; clear hgd; go_at_call 24; refine (known2w w2 _).mono ?_; rintro e w3 ⟨⟨gk, rfl, k0, k1⟩, hb3⟩; have HB3 : Hid (Below w.heap.size w w3) := step_below hb3 HB2.out; have HL3 : Hid (MatF gn B.length B.length L w3) := HL2.out.below hb3; have HN3 : Hid (MatF g B.length C.length LN w3) := HN2.out.below hb3; have r0 := step_cell hb3 q0; have r1 := step_cell hb3 q1; clear hb3 q0 q1)
    | (go_at_call 24; refine (HNEAR.out _ ?_).mono ?_; (exact (Below.refl _ _).alloc (Nat.le_refl _) _); rintro e w1 ⟨⟨gn, L, rfl, hM1, hS1⟩, hb1⟩; have p0 : w1.cell? ⟨w.heap.size, 0, none⟩ = some (.slice (some ⟨b0, o0, none⟩) B.length c0) := step_cell hb1 (by simp [go_sem]); have p1 : w1.cell? ⟨w.heap.size, 1, none⟩ = some (.slice (some ⟨b1, o1, none⟩) C.length c1) := step_cell hb1 (by simp [go_sem]); have HB : Hid (Below w.heap.size w w1) := over_alloc hb1; have HL : Hid (MatF gn B.length B.length L w1) := hM1; have HS : Hid (NrS B.length L (fun x y => Near C x y)) := hS1; clear hb1 hM1 hS1)
    | (go_at_call 21; refine (HOWN.out _ HB.out).mono ?_; rintro e w2 ⟨⟨g, LN, hg, rfl, hM2, hS2, hC2⟩, hb2⟩; have HB2 : Hid (Below w.heap.size w w2) := step_below hb2 HB.out; have HL2 : Hid (MatF gn B.length B.length L w2) := HL.out.below hb2; have HN2 : Hid (MatF g B.length C.length LN w2) := hM2; have HS2 : Hid (Snd B.length C LN) := hS2; have HC2 : Hid (Cls B.length C LN) := hC2; have q0 := step_cell hb2 p0; have q1 := step_cell hb2 p1; clear hb2 hM2 hS2 hC2 p0 p1))
  clear HB HB2 HL HL2 HN2 k0 k1
  go_loopw [10] (fun av wr => ∃ (a : Nat), av = .int .i64 a ∧ a ≤ B.length ∧ Below w3.heap.size w3 wr) (fun av _ => B.length - (intOf av).toNat)
  case atStart => exact ⟨0, rfl, by omega, Below.refl _ _⟩
  case round =>
    obtain ⟨a, rfl, ha, hbw⟩ := hrel
    have HBW : Hid (Below w3.heap.size w3 wr) := hbw
    have e0 := step_cell hbw r0
    have e1 := step_cell hbw r1
    clear hbw
    by_cases hal : a < B.length
    case neg =>
      have y9 : ¬ (a : Int) < (B.length : Int) := by omega
      go_wp2
      go_ret
      exact ⟨rfl, step_below HBW.out HB3.out⟩
    have y8 : (a : Int) < (B.length : Int) := by omega
    have y7 : (0 : Int) ≤ (a : Int) := by omega
    go_wp2
    go_loopw [11] (fun bv wr => ∃ (b : Nat), bv = .int .i64 b ∧ b ≤ B.length ∧ Below w3.heap.size w3 wr) (fun bv _ => B.length - (intOf bv).toNat)
    case atStart => exact ⟨0, rfl, by omega, HBW.out⟩
    case round =>
      clear HBW e0 e1
      obtain ⟨b, rfl, hb, hbw⟩ := hrel
      have HBW : Hid (Below w3.heap.size w3 wr) := hbw
      clear hbw
      by_cases hbl : b < B.length
      case neg =>
        have z9 : ¬ (b : Int) < (B.length : Int) := by omega
        go_wp2
        go_roundw
        case rel => exact ⟨a + 1, by go_num, by omega, HBW.out⟩
        case measure => simp [intOf]; omega
      have z8 : (b : Int) < (B.length : Int) := by omega
      have z7 : (0 : Int) ≤ (b : Int) := by omega
      have t1 := (HL3.out.below HBW.out).top a hal
      have t2 := (HL3.out.below HBW.out).top b hbl
      have t3 := (HN3.out.below HBW.out).top 0 (by omega)
      have l1 := (HL3.out.below HBW.out).cell hal hbl
      have l2 := (HL3.out.below HBW.out).cell hbl hal
      have n1 := (HN3.out.below HBW.out).cell (k := 0) (by omega) hal
      have n2 := (HN3.out.below HBW.out).cell (k := 0) (by omega) hbl
      have sy : getF B.length L b a = getF B.length L a b := by
        rw [Bool.eq_iff_iff, HS.out.tru b a hbl hal, HS.out.tru a b hal hbl]
        exact ⟨fun h => h.symm, fun h => h.symm⟩
      have self : a = b → getF B.length L a b = false := by
        intro e
        cases hg : getF B.length L a b with
        | false => rfl
        | true => exact absurd (by rw [e]) ((HS.out.tru a b hal hbl).1 hg).1
      have both : ¬ a = b → getF B.length LN 0 a = true → getF B.length LN 0 b = true → getF B.length L a b = true := by
        intro e h1 h2
        rw [HS.out.tru a b hal hbl]
        exact ⟨by omega, Or.inl ⟨(flat_need HS2.out HC2.out (by omega) hal).1 h1, (flat_need HS2.out HC2.out (by omega) hbl).1 h2⟩⟩
      rw [sy] at l2
      obtain ⟨x, hx⟩ : ∃ x, x = getF B.length L a b := ⟨_, rfl⟩
      obtain ⟨na, hna⟩ : ∃ x, x = getF B.length LN 0 a := ⟨_, rfl⟩
      obtain ⟨nb, hnb⟩ : ∃ x, x = getF B.length LN 0 b := ⟨_, rfl⟩
      rw [← hx] at l1 l2 self both
      rw [← hna] at n1 both
      rw [← hnb] at n2 both
      clear hx hna hnb sy
      have z6 : (0 : Int) < (C.length : Int) := by omega
      by_cases hab : a = b
      · have z5 : (a : Int) = (b : Int) := by omega
        obtain rfl := (self hab).symm
        subst hab
        clear self both
        go_wp2
        go_quiet (fail)
        go_wp2
        exact ⟨⟨a + 1, by go_num, by omega, below_drewN HBW.out _⟩, by simp [intOf]; omega⟩
      · have z4 : ((a : Int) == (b : Int)) = false := by simp; omega
        have z3 : ((a : Int) != (b : Int)) = true := by simp; omega
        clear self
        cases x with
        | true =>
          clear both
          rcases Bool.eq_false_or_eq_true na with rfl | rfl <;> rcases Bool.eq_false_or_eq_true nb with rfl | rfl
          all_goals
            go_wp2
            go_quiet (fail)
            go_wp2
            exact ⟨⟨b + 1, by go_num, by omega, below_drewN HBW.out _⟩, by simp [intOf]; omega⟩
        | false =>
          cases na with
          | false =>
            clear both
            go_wp2
            go_quiet (fail)
            go_wp2
            exact ⟨⟨b + 1, by go_num, by omega, below_drewN HBW.out _⟩, by simp [intOf]; omega⟩
          | true =>
            cases nb with
            | true => exact absurd (both hab rfl rfl) (by simp)
            | false =>
              clear both
              go_wp2
              go_quiet (fail)
              go_wp2
              exact ⟨⟨b + 1, by go_num, by omega, below_drewN HBW.out _⟩, by simp [intOf]; omega⟩

theorem walk (v : Value) (B : List Bool) (C : List LIns) (w : World) (h : ProgIs w v B C) :
    Calls Try.prog 10 #[v] w fun e w' => e = .returned (.bool true) ∧ Below w.heap.size w w' := by
  cases hm : refMayB B C with
  | false => exact walk_no v B C w h hm
  | true =>
    have hs : sizesB B C = true := by unfold refMayB at hm; simp only [Bool.and_eq_true] at hm; exact hm.1
    obtain ⟨s1, s2, s3, s4⟩ := sizes_of hs
    obtain ⟨⟨a0, c0, a1, c1, rfl, hh⟩, l0, l1, hn⟩ := h
    obtain ⟨b0, o0, b1, o1, rfl, rfl, hH⟩ := hh s1 s3
    exact walk_yes b0 o0 c0 b1 o1 c1 B C w hH hn hm

set_option maxRecDepth 100000 in
theorem lifted (os : Os) (started : os.Started) (H : Type) (enc : TypeId × Value → H) :
    ReturnsInHanded {} Try.checked os 10 .any (Rows.nearBothSpec.pre6 enc Try.prog Try.f10 Rows.nearBothRow.domain false) (Rows.nearBothSpec.post enc Try.prog Try.f10 false true false false) := by
  refine returnsInHanded_of_change (C := Try.checked) own started (by kernel_rfl) Try.func10
    (ChangeSpec.witness6 (enc := enc) (C := Try.checked) false ⟨#[], #[.agg #[.slice none 0 0, .slice none 0 0]], []⟩ 8 (by kernel_rfl) (by kernel_rfl) (by kernel_rfl) (by kernel_rfl)) ?_
  intro W base args ds gs before hval0 hW hcnd _
  have hval : ∀ (j : Nat) t v, Try.f10.params[j]? = some t → args[j]? = some v → Value.okWide Try.prog W .any base t v := hval0
  have hW' := hW
  obtain ⟨p, q, hA0, hV, rfl, hfz, hnd⟩ := hW
  have hA : DataW.TrodAll enc Try.prog W 0 (fun _ => true) true Try.f10.params.toList args.toList ds p := hA0
  rw [Try.params10] at hA hval
  obtain ⟨v0, vs0, d0, ds0, p0, q0, hargs, rfl, rfl, h0, r0⟩ := trodAll_cons hA
  obtain ⟨rfl, rfl, rfl⟩ := trodAll_nil r0
  obtain rfl : args = #[v0] := by cases args; simp_all
  obtain ⟨rfl, rfl⟩ := trodVars_none hV
  have k0 := h0
  have lt0 : ∀ x ∈ p0, x.block < W.heap.size := by obtain ⟨m, hm⟩ := k0; exact DataW.trod_lt m _ _ _ hm
  obtain ⟨B, C, hP⟩ := prog_is (hval 0 31 v0 rfl rfl) h0
  clear hA0 hval0
  refine (walk v0 B C W hP).mono fun e W' ⟨he, bel⟩ => ?_
  subst he
  exact ⟨_, rfl, _, _, _, [], _, [], hW', trodAll_mk1 (shut_bool Try.underlying4 _), (trodAll_cons_mk (Below.trod laidOut (by kernel_rfl) (of_decide_eq_true (by kernel_rfl)) k0 bel lt0) trodAll_mk0), rfl, bel.frame _, fun h => by cases h⟩

theorem over : Rows.nearBothRow.holds Try.pinned (OpenSpec.ofChange Rows.nearBothSpec) :=
  OpenClaim.holds_of_wide 10 Try.f10 rfl rfl rfl rfl rfl rfl rfl ⟨rfl, rfl, rfl, rfl, rfl⟩ rfl rfl rfl rfl rfl (by kernel_rfl) Try.func10 (by kernel_rfl)
    (of_decide_eq_true (by kernel_rfl)) (by unfold Func.isWrapper; first | (rw [if_pos (by decide +kernel)]; kernel_rfl) | (rw [if_neg (by decide +kernel)]; exact ⟨rfl, rfl⟩))
    (fun os started H enc _ => lifted os started H enc)

end Go.Proofs.Ythhbekcmbdllaaa.nearBoth
namespace Go.Proofs.Ythhbekcmbdllaaa
theorem nearBoth_holds : Rows.NearBothSaid := nearBoth.over
#print axioms nearBoth_holds
end Go.Proofs.Ythhbekcmbdllaaa
