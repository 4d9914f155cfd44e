/- loanbooklaw.ColorApart, out of what the program's own color.Make answers. -/
import Derived.Test.YtgeimilnddpdmabRows
import Derived.Test.YtgeimilnddpdmabColorAns
import Derived.Test.YtgeimilnddpdmabFormOpen
import Derived.Test.YtgeimilnddpdmabNearOf
import Derived.ShutString
namespace Go.Proofs.Ytgeimilnddpdmab.colorApart
open Go.ChangeShapes Go.WideShapes Go.ChangeAt Go.RowKit
open Go.Proofs.Ytgeimilnddpdmab.form
set_option linter.unusedVariables false

theorem own : ownKnob Try.prog.godebug = none := by kernel_rfl
theorem laidOut : laidOutB Try.prog = true := by kernel_rfl

set_option maxRecDepth 100000 in
set_option maxHeartbeats 2000000 in
theorem walk_no (colorO : ColorSpec) (pv : Value) (B : List Bool) (C : List LIns) (n : Int) (w : World) (hp : ProgIs w pv B C) (hno : ¬ (refMayB B C = true ∧ ¬ badN n)) :
    Calls Try.prog 3 #[pv, .int .i64 n] w fun e w' => e = .returned (.bool true) ∧ Below w.heap.size w w' := by
  have HP : Hid (ProgIs w pv B C) := hp
  have HCO : Hid (∀ wx : World, Below w.heap.size w wx → Calls Try.prog 6 #[pv, .int .i64 n] wx fun e w' =>
    ((refMayB B C = false ∧ ∃ ao cap, e = .returned (.tuple #[.slice ao 0 cap, .int .i64 2])) ∨ (refMayB B C = true ∧ badN n ∧ ∃ ao cap, e = .returned (.tuple #[.slice ao 0 cap, .int .i64 3])) ∨
      (refMayB B C = true ∧ ¬ badN n ∧ ∃ v L, e = .returned (.tuple #[v, .int .i64 0]) ∧ PlacesIs w' v L ∧ ColorOk B C n L)) ∧ Below wx.heap.size wx w') := fun wx hb => colorO pv B C n wx (hp.later hb)
  have h0 := hp
  obtain ⟨⟨a0, c0, a1, c1, rfl, -⟩, -, -, -⟩ := h0
  have HW : Hid (∀ o : Obj, Below w.heap.size w (w.alloc o)) := fun o => (Below.refl _ _).alloc (Nat.le_refl _) _
  clear hp colorO
  rcases Bool.eq_false_or_eq_true (refMayB B C) with hr | hr
  case inr =>
    have HR : Hid (refMayB B C = false) := hr
    clear hr hno
    go_enter Try.func3, Try.ntmps3
    go_wp2_with fail
    go_at_call 6
    refine (HCO.out _ (HW.out _)).mono ?_
    rintro e w1 ⟨⟨-, ao, cap, rfl⟩ | ⟨h1, -⟩ | ⟨h1, -⟩, hb1⟩
    case inr.inl => rw [HR.out] at h1; cases h1
    case inr.inr => rw [HR.out] at h1; cases h1
    have y0 : w1.cell? ⟨w.heap.size, 0, none⟩ = some (.slice a0 B.length c0) := step_cell hb1 (by simp [go_sem])
    have y1 : w1.cell? ⟨w.heap.size, 1, none⟩ = some (.slice a1 C.length c1) := step_cell hb1 (by simp [go_sem])
    have HB1 : Hid (Below w.heap.size w w1) := step_below hb1 (HW.out _)
    clear hb1
    go_wp2_with (go_at_call 7; refine (refMay _ B C _ (HP.out.later HB1.out)).mono ?_; rw [HR.out]; rintro e w2 ⟨rfl, hb2⟩)
    go_ret
    exact ⟨rfl, step_below hb2 HB1.out⟩
  have HR : Hid (refMayB B C = true) := hr
  have hbad : badN n := Classical.byContradiction fun h => hno ⟨hr, h⟩
  have HBD : Hid (badN n) := hbad
  clear hr hno
  rcases (show n < 0 ∨ (¬ n < 0 ∧ 16 < n) ∨ (¬ n < 0 ∧ ¬ 16 < n ∧ ¬ n % 2 = 0) by unfold badN at hbad; omega) with h | ⟨h1, h2⟩ | ⟨h1, h2, h3⟩
  case' inl => have d1 : decide (n < 0) = true := by simp [h]
  case' inr.inl => have d1 : decide (n < 0) = false := by simp; omega
  case' inr.inl => have d2 : decide (16 < n) = true := by simp; omega
  case' inr.inr => have d1 : decide (n < 0) = false := by simp; omega
  case' inr.inr => have d2 : decide (16 < n) = false := by simp; omega
  case' inr.inr => have d3 : (n % 2 != 0) = true := by simp; omega
  all_goals
    clear hbad
    go_enter Try.func3, Try.ntmps3
    go_wp2_with fail
    go_at_call 6
    refine (HCO.out _ (HW.out _)).mono ?_
    rintro e w1 ⟨⟨k1, -⟩ | ⟨-, -, ao, cap, rfl⟩ | ⟨-, k1, -⟩, hb1⟩
    · rw [HR.out] at k1; cases k1
    case' inr.inr => exact absurd HBD.out k1
    have y0 : w1.cell? ⟨w.heap.size, 0, none⟩ = some (.slice a0 B.length c0) := step_cell hb1 (by simp [go_sem])
    have y1 : w1.cell? ⟨w.heap.size, 1, none⟩ = some (.slice a1 C.length c1) := step_cell hb1 (by simp [go_sem])
    have HB1 : Hid (Below w.heap.size w w1) := step_below hb1 (HW.out _)
    clear hb1
    go_wp2_with (go_at_call 7; refine (refMay _ B C _ (HP.out.later HB1.out)).mono ?_; rw [HR.out]; rintro e w2 ⟨rfl, hb2⟩)
    go_ret
    exact ⟨rfl, step_below hb2 HB1.out⟩


theorem reg_bd {n : Int} {q : LPlace} (hn : n ≤ 16) (h : isB n 0 q = true) : I64 q.n := by
  unfold isB at h
  unfold I64
  split at h
  · simp at h; omega
  split at h
  · simp at h; omega
  split at h
  · simp at h; omega
  · cases h

set_option maxRecDepth 100000 in
set_option maxHeartbeats 4000000 in
theorem walk_yes (colorO : ColorSpec) (pv : Value) (B : List Bool) (C : List LIns) (n : Int) (w : World) (hp : ProgIs w pv B C) (hm : refMayB B C = true) (hnb : ¬ badN n) :
    Calls Try.prog 3 #[pv, .int .i64 n] w fun e w' => e = .returned (.bool true) ∧ Below w.heap.size w w' := by
  have HP : Hid (ProgIs w pv B C) := hp
  have HCO : Hid (∀ wx : World, Below w.heap.size w wx → Calls Try.prog 6 #[pv, .int .i64 n] wx fun e w' => (∃ v L, e = .returned (.tuple #[v, .int .i64 0]) ∧ PlacesIs w' v L ∧ ColorOk B C n L) ∧ Below wx.heap.size wx w') := by
    intro wx hb
    refine (colorO pv B C n wx (hp.later hb)).mono ?_
    rintro e w' ⟨⟨k, -⟩ | ⟨-, k, -⟩ | ⟨-, -, k⟩, hb'⟩
    · rw [hm] at k; cases k
    · exact absurd k hnb
    · exact ⟨k, hb'⟩
  have h0 := hp
  obtain ⟨⟨a0, c0, a1, c1, rfl, hh⟩, -, -, hnum⟩ := h0
  have hsz : sizesB B C = true := by unfold refMayB at hm; simp only [Bool.and_eq_true] at hm; exact hm.1
  obtain ⟨z1, z2, z3, z4⟩ := sizes_of hsz
  obtain ⟨b0, o0, b1, o1, rfl, rfl, hheld⟩ := hh z1 z3
  have HHE : Hid (Held w b0 o0 b1 o1 B C) := hheld
  have HOK : Hid (∀ k, k < C.length → InsOk B.length C.length (C.getD k .zero)) := all_insOk hm hnum
  have HR : Hid (refMayB B C = true) := hm
  have HW : Hid (∀ o : Obj, Below w.heap.size w (w.alloc o)) := fun o => (Below.refl _ _).alloc (Nat.le_refl _) _
  have hn0 : ¬ n < 0 := fun h => hnb (Or.inl h)
  have hn1 : ¬ 16 < n := fun h => hnb (Or.inr (Or.inl h))
  have hn2 : n % 2 = 0 := Classical.byContradiction fun h => hnb (Or.inr (Or.inr h))
  have hn3 : (n % 2 != 0) = false := by simp [hn2]
  have d1 : decide (n < 0) = false := by simp; omega
  have d2 : decide (16 < n) = false := by simp; omega
  have hn16 : n ≤ 16 := by omega
  have zB : (B.length : Int) ≤ 12 := by omega
  clear hp colorO hh hnum hsz hheld hm hnb hn2
  go_enter Try.func3, Try.ntmps3
  go_wp2_with fail
  go_at_call 6
  refine (HCO.out _ (HW.out _)).mono ?_
  rintro e w1 ⟨⟨v, L, rfl, hpl, hco⟩, hb1⟩
  have HCK : Hid (ColorOk B C n L) := hco
  have HLL : Hid (L.length = B.length) := hco.len
  obtain ⟨ao, lcap, rfl, -, hpc⟩ := hpl
  rw [HLL.out]
  obtain ⟨lb, lo, rfl, hlb, hlc⟩ := hpc (by have := HLL.out; omega)
  have HLC : Hid (∀ k, k < B.length → w1.cell? ⟨lb, lo + k * 2, none⟩ = some (.int .i64 (L.getD k .zero).kind) ∧ w1.cell? ⟨lb, lo + k * 2 + 1, none⟩ = some (.int .i64 (L.getD k .zero).n)) := fun k hk => hlc k (by have := HLL.out; omega)
  have y0 : w1.cell? ⟨w.heap.size, 0, none⟩ = some (.slice (some ⟨b0, o0, none⟩) B.length c0) := step_cell hb1 (by simp [go_sem])
  have y1 : w1.cell? ⟨w.heap.size, 1, none⟩ = some (.slice (some ⟨b1, o1, none⟩) C.length c1) := step_cell hb1 (by simp [go_sem])
  have XA : Hid (∀ wz : World, Below w1.heap.size w1 wz → wz.cell? ⟨w.heap.size, 0, none⟩ = some (.slice (some ⟨b0, o0, none⟩) B.length c0) ∧ wz.cell? ⟨w.heap.size, 1, none⟩ = some (.slice (some ⟨b1, o1, none⟩) C.length c1)) := fun wz hb => ⟨step_cell hb y0, step_cell hb y1⟩
  have HB1 : Hid (Below w.heap.size w w1) := step_below hb1 (HW.out _)
  clear hb1 hpc hlc hco
  go_wp2_with fail
  go_at_call 7
  refine (refMay _ B C _ (HP.out.later HB1.out)).mono ?_
  rw [HR.out]
  rintro e w2 ⟨rfl, hb2⟩
  have HB2 : Hid (Below w1.heap.size w1 w2) := hb2
  clear y0 y1 hb2
  obtain ⟨y0, y1⟩ := XA.out _ HB2.out
  go_wp2_with fail
  go_at_call 8
  refine (of5 b0 o0 c0 b1 o1 c1 B C _ z2 z4 z3 (HHE.out.later (step_below HB2.out HB1.out)) HOK.out).mono ?_
  rintro e w3 ⟨⟨nv, R, rfl, hmat, hnm⟩, hb3⟩
  have HNM : Hid (NearMat B.length C R) := hnm
  have HRL : Hid (R.length = B.length) := hnm.len
  obtain ⟨no', ncap, rfl, -, hmc⟩ := hmat
  obtain ⟨nb, no, rfl, hnbl, hmrow⟩ := hmc (by have := HRL.out; omega)
  have HMR : Hid (∀ a, a < B.length → ∃ rb ro rc, w3.cell? ⟨nb, no + a, none⟩ = some (.slice (some ⟨rb, ro, none⟩) B.length rc) ∧ ∀ b, b < B.length → w3.cell? ⟨rb, ro + b, none⟩ = some (.bool ((R.getD a []).getD b false))) := by
    intro a ha
    obtain ⟨rv, hrv, ao2, rc, rfl, -, hrr⟩ := hmrow a (by have := HRL.out; omega)
    have hl := HNM.out.row a ha
    obtain ⟨rb, ro, rfl, -, hrc⟩ := hrr (by omega)
    rw [hl] at hrv hrc
    exact ⟨rb, ro, rc, hrv, hrc⟩
  rw [HRL.out]
  have HB3 : Hid (Below w1.heap.size w1 w3) := step_below hb3 HB2.out
  clear y0 y1 hb3 hnm hmc hmrow
  go_wp2
  go_loopw [8] (fun t wr => ∃ a : Nat, a ≤ B.length ∧ t = .int .i64 a ∧ Below w3.heap.size w3 wr) (fun t _ => B.length - (intOf t).toNat)
  case atStart => exact ⟨0, by omega, rfl, Below.refl _ _⟩
  case round =>
    obtain ⟨a, ha, rfl, hbr⟩ := hrel
    have HBR : Hid (Below w3.heap.size w3 wr) := hbr
    by_cases hlt : a < B.length
    case neg =>
      have y9 : ¬ (a : Int) < (B.length : Int) := by omega
      clear hbr
      go_wp2
      go_ret
      exact ⟨rfl, step_below HBR.out (step_below HB3.out HB1.out)⟩
    have y8 : (a : Int) < (B.length : Int) := by omega
    have y7 : (0 : Int) ≤ (a : Int) := by omega
    obtain ⟨x0, x1⟩ := XA.out _ (step_below hbr HB3.out)
    have xw := (HHE.out.later (step_below hbr (step_below HB3.out HB1.out))).wide a hlt
    obtain ⟨k0, k1⟩ := HLC.out a hlt
    have k0 := step_cell (step_below hbr HB3.out) k0
    have k1 := step_cell (step_below hbr HB3.out) k1
    obtain ⟨q, hq⟩ : ∃ q, q = L.getD a .zero := ⟨_, rfl⟩
    have HQ : Hid (L.getD a .zero = q) := hq.symm
    have hat := HCK.out.reg a hlt
    rw [← hq] at k0 k1 hat
    obtain ⟨wd, hwd⟩ : ∃ wd, wd = B.getD a false := ⟨_, rfl⟩
    rw [← hwd] at xw hat
    clear hq hwd hbr
    rcases hat with ⟨hk, hn⟩ | ⟨hk, his⟩
    · rw [hk] at k0
      rw [hn] at k1
      clear hk hn
      cases wd
      all_goals
        go_wp2
        go_loopw [11] (fun t wr2 => ∃ b : Nat, b ≤ a ∧ t = .int .i64 b ∧ Below w3.heap.size w3 wr2) (fun t _ => a - (intOf t).toNat)
        case atStart => exact ⟨0, by omega, rfl, HBR.out⟩
        case round =>
          clear x0 x1 xw k0 k1
          obtain ⟨b, hb, rfl, hb2⟩ := hrel
          have HB4 : Hid (Below w3.heap.size w3 wr) := hb2
          by_cases hbl : b < a
          case neg =>
            have v9 : ¬ (b : Int) < (a : Int) := by omega
            clear hb2
            go_wp2
            go_roundw
            case rel => exact ⟨a + 1, by omega, by go_num, HB4.out⟩
            case measure => simp [intOf]; omega
          have v8 : (b : Int) < (a : Int) := by omega
          have v7 : (0 : Int) ≤ (b : Int) := by omega
          have v6 : (b : Int) < (B.length : Int) := by omega
          obtain ⟨rb, ro, rc, hr1, hr2⟩ := HMR.out a hlt
          have r1 := step_cell hb2 hr1
          have r2 := step_cell hb2 (hr2 b (by omega))
          obtain ⟨u, hu⟩ : ∃ u, u = (R.getD a []).getD b false := ⟨_, rfl⟩
          rw [← hu] at r2
          clear hu hr1 hr2 hb2
          cases u
          all_goals
            go_wp2
            go_quiet (fail)
            go_wp2
            go_roundw
            case rel => exact ⟨b + 1, by omega, by go_num, below_drewN HB4.out _⟩
            case measure => simp [intOf]; omega
    · have HIS : Hid (isB n 0 q = true) := his
      have hkn : ¬ q.kind = 0 := by rw [hk]; split <;> omega
      have HKN : Hid (¬ q.kind = 0) := hkn
      have HKK : Hid (q.kind = (if wd = true then 2 else 1)) := hk
      have g0 : (q.kind == 0) = false := by simp [hkn]
      have g1 : (q.kind != (if wd = true then 2 else 1)) = false := by rw [hk]; simp
      clear hkn hk his
      cases wd
      all_goals
        first | rw [if_neg (by decide)] at g1 | rw [if_pos rfl] at g1
        go_wp2_with fail
        go_at_call 9
        refine (is6 n 0 q _).mono ?_
        rw [HIS.out]
        rintro e w4 ⟨rfl, hb4⟩
        have HBX : Hid (Below w3.heap.size w3 w4) := step_below hb4 HBR.out
        clear hb4 x0 x1 xw k0 k1 g1
        go_wp2
        go_loopw [11] (fun t wr2 => ∃ b : Nat, b ≤ a ∧ t = .int .i64 b ∧ Below w3.heap.size w3 wr2) (fun t _ => a - (intOf t).toNat)
        case atStart => exact ⟨0, by omega, rfl, HBX.out⟩
        case round =>
          obtain ⟨b, hb, rfl, hb2⟩ := hrel
          have HB4 : Hid (Below w3.heap.size w3 wr) := hb2
          by_cases hbl : b < a
          case neg =>
            have v9 : ¬ (b : Int) < (a : Int) := by omega
            clear hb2
            go_wp2
            go_roundw
            case rel => exact ⟨a + 1, by omega, by go_num, HB4.out⟩
            case measure => simp [intOf]; omega
          have v8 : (b : Int) < (a : Int) := by omega
          have v7 : (0 : Int) ≤ (b : Int) := by omega
          have v6 : (b : Int) < (B.length : Int) := by omega
          obtain ⟨rb, ro, rc, hr1, hr2⟩ := HMR.out a hlt
          have r1 := step_cell hb2 hr1
          have r2 := step_cell hb2 (hr2 b (by omega))
          have hnear := HNM.out.tru a hlt b (by omega)
          obtain ⟨l0, l1⟩ := HLC.out b (by omega)
          have l0 := step_cell (step_below hb2 HB3.out) l0
          have l1 := step_cell (step_below hb2 HB3.out) l1
          obtain ⟨k0, k1⟩ := HLC.out a hlt
          have k0 := step_cell (step_below hb2 HB3.out) k0
          have k1 := step_cell (step_below hb2 HB3.out) k1
          rw [HQ.out] at k0 k1
          have hfar := HCK.out.far a b hbl hlt
          have hatb := HCK.out.reg b (by omega)
          rw [HQ.out] at hfar
          obtain ⟨p, hpe⟩ : ∃ p, p = L.getD b .zero := ⟨_, rfl⟩
          rw [← hpe] at l0 l1 hfar hatb
          obtain ⟨u, hu⟩ : ∃ u, u = (R.getD a []).getD b false := ⟨_, rfl⟩
          rw [← hu] at r2 hnear
          clear hu hr1 hr2 hb2 hpe
          cases u with
          | false =>
            clear hnear hfar hatb
            go_wp2
            go_quiet (fail)
            go_wp2
            go_roundw
            case rel => exact ⟨b + 1, by omega, by go_num, below_drewN HB4.out _⟩
            case measure => simp [intOf]; omega
          | true =>
            have hnr : Near C a b := hnear.1 rfl
            by_cases hpk : p.kind = 0
            · have g2 : (p.kind != 0) = false := by simp [hpk]
              clear hnear hfar hatb hpk hnr
              go_wp2
              go_quiet (fail)
              go_wp2
              go_roundw
              case rel => exact ⟨b + 1, by omega, by go_num, below_drewN HB4.out _⟩
              case measure => simp [intOf]; omega
            · have g2 : (p.kind != 0) = true := by simp [hpk]
              have HOV : Hid (overB q p = false) := hfar hnr HKN.out hpk
              have HI1 : Hid (I64 q.n) := reg_bd hn16 HIS.out
              have HI2 : Hid (I64 p.n) := by
                rcases hatb with h | h
                · exact absurd h.1 hpk
                · exact reg_bd hn16 h.2
              clear hnear hfar hatb hpk hnr
              go_wp2
              go_region_held3 (fun w' => Below wr.heap.size wr w' ∧ w'.cell? ⟨nb, no + a, none⟩ = some (.slice (some ⟨rb, ro, none⟩) B.length rc) ∧ w'.cell? ⟨rb, ro + b, none⟩ = some (.bool true) ∧ w'.cell? ⟨lb, lo + a * 2, none⟩ = some (.int .i64 q.kind) ∧ w'.cell? ⟨lb, lo + a * 2 + 1, none⟩ = some (.int .i64 q.n) ∧ w'.cell? ⟨lb, lo + b * 2, none⟩ = some (.int .i64 p.kind) ∧ w'.cell? ⟨lb, lo + b * 2 + 1, none⟩ = some (.int .i64 p.n))
                ((go_split_ands; refine ⟨?_, ?_, ?_, ?_, ?_, ?_, ?_⟩ <;> first | exact step_below hbc (by assumption) | exact step_cell hbc (by assumption) | exact (Below.refl _ _).drew | (go_keep; done) | assumption))
                ((go_at_call 10; refine (overlap6 q p HI1.out HI2.out _).mono ?_; rw [HOV.out]; rintro e w5 ⟨rfl, hbc⟩; have HBC : Hid _ := hbc))
              go_wp2
              go_roundw
              case rel => exact ⟨b + 1, by omega, by go_num, step_below HBC.out (step_below (Below.refl _ _).drew HB4.out)⟩
              case measure => simp [intOf]; omega


theorem walk (colorO : ColorSpec) (pv : Value) (B : List Bool) (C : List LIns) (n : Int) (w : World) (hp : ProgIs w pv B C) :
    Calls Try.prog 3 #[pv, .int .i64 n] w fun e w' => e = .returned (.bool true) ∧ Below w.heap.size w w' := by
  by_cases h : refMayB B C = true ∧ ¬ badN n
  · exact walk_yes colorO pv B C n w hp h.1 h.2
  · exact walk_no colorO pv B C n w hp h

set_option maxRecDepth 100000 in
theorem lifted (colorO : ColorSpec) (os : Os) (started : os.Started) (H : Type) (enc : TypeId × Value → H) :
    ReturnsInHanded {} Try.checked os 3 .any (Rows.colorApartSpec.pre6 enc Try.prog Try.f3 Rows.colorApartRow.domain false) (Rows.colorApartSpec.post enc Try.prog Try.f3 false true false false) := by
  refine returnsInHanded_of_change (C := Try.checked) own started (by kernel_rfl) Try.func3
    (ChangeSpec.witness6 (enc := enc) (C := Try.checked) false ⟨#[], #[.agg #[.slice none 0 0, .slice none 0 0], .int .i64 0], []⟩ 8 (by kernel_rfl) (by kernel_rfl) (by kernel_rfl) (by kernel_rfl)) ?_
  intro W base args ds gs before hval0 hW hcnd _
  have hval : ∀ (j : Nat) t v, Try.f3.params[j]? = some t → args[j]? = some v → Value.okWide Try.prog W .any base t v := hval0
  have hW' := hW
  obtain ⟨p, q, hA0, hV, rfl, hfz, hnd⟩ := hW
  have hA : DataW.TrodAll enc Try.prog W 0 (fun _ => true) true Try.f3.params.toList args.toList ds p := hA0
  rw [Try.params3] at hA hval
  obtain ⟨v0, vs0, d0, ds0, p0, q0, hargs, rfl, rfl, h0, r0⟩ := trodAll_cons hA
  obtain ⟨v1, vs1, d1, ds1, p1, q1, rfl, rfl, rfl, h1, r1⟩ := trodAll_cons r0
  obtain ⟨rfl, rfl, rfl⟩ := trodAll_nil r1
  obtain rfl : args = #[v0, v1] := by cases args; simp_all
  obtain ⟨rfl, rfl⟩ := trodVars_none hV
  have k0 := h0
  have k1 := h1
  have lt0 : ∀ x ∈ p0, x.block < W.heap.size := by obtain ⟨m, hm⟩ := k0; exact DataW.trod_lt m _ _ _ hm
  have lt1 : ∀ x ∈ p1, x.block < W.heap.size := by obtain ⟨m, hm⟩ := k1; exact DataW.trod_lt m _ _ _ hm
  obtain ⟨B, C, hP⟩ := prog_is (hval 0 25 v0 rfl rfl) h0
  obtain ⟨n1, rfl, -, -, -⟩ := open_int Try.underlying3 (hval 1 3 v1 rfl rfl) h1
  clear hA0 hval0
  refine (walk colorO v0 B C n1 W hP).mono fun e W' ⟨he, bel⟩ => ?_
  subst he
  exact ⟨_, rfl, _, _, _, [], _, [], hW', trodAll_mk1 (shut_bool Try.underlying4 _),
    (trodAll_cons_mk (Below.trod laidOut (by kernel_rfl) (of_decide_eq_true (by kernel_rfl)) k0 bel lt0) (trodAll_cons_mk (Below.trod laidOut (by kernel_rfl) (of_decide_eq_true (by kernel_rfl)) k1 bel lt1) trodAll_mk0)), rfl, bel.frame _, fun h => by cases h⟩

theorem over (colorO : ColorSpec) : Rows.colorApartRow.holds Try.pinned (OpenSpec.ofChange Rows.colorApartSpec) :=
  OpenClaim.holds_of_wide 3 Try.f3 rfl rfl rfl rfl rfl rfl rfl ⟨rfl, rfl, rfl, rfl, rfl⟩ rfl rfl rfl rfl rfl (by kernel_rfl) Try.func3 (by kernel_rfl)
    (of_decide_eq_true (by kernel_rfl)) (by unfold Func.isWrapper; first | (rw [if_pos (by decide +kernel)]; kernel_rfl) | (rw [if_neg (by decide +kernel)]; exact ⟨rfl, rfl⟩))
    (fun os started H enc _ => lifted colorO os started H enc)

end Go.Proofs.Ytgeimilnddpdmab.colorApart
