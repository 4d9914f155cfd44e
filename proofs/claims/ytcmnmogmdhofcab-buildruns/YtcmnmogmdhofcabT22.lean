/- What the program's own run.Run must answer. -/
import Derived.Test.YtcmnmogmdhofcabRows
import Derived.ShutString
import Derived.Deep.OwnRows
import Derived.Test.YtcmnmogmdhofcabT19
import Derived.Test.YtcmnmogmdhofcabT03
import Derived.Test.YtcmnmogmdhofcabT08
import Derived.Test.YtcmnmogmdhofcabT06
import Derived.Test.YtcmnmogmdhofcabT02
import Derived.Test.YtcmnmogmdhofcabT09
import Derived.Test.YtcmnmogmdhofcabT20

namespace Go.Proofs.Ytcmnmogmdhofcab.form
open Go.RowKit
set_option linter.unusedVariables false

/-- What is shown. -/
def resM (B : List Bool) (C : List LIns) (I : List Int) (steps : Int) : Mac := if wrongI B C I.length steps = 0 then playM B C I steps.toNat else ⟨0, [], 0, [], 0, 0⟩
/-- What run.Run must answer. -/
def RunSpec : Prop := ∀ (v : Value) (B : List Bool) (C : List LIns) (iv : Value) (I : List Int) (steps : Int) (w : World), ProgIs w v B C → InArg w iv I →
  Calls Try.prog 21 #[v, iv, .int .i64 steps] w fun e w' =>
      (∃ sv, e = .returned (.tuple #[sv, .int .i64 (wrongI B C I.length steps)]) ∧ ShownIs w' sv (resM B C I steps).state (resM B C I steps).out (resM B C I steps).steps) ∧ Below w.heap.size w w'

end Go.Proofs.Ytcmnmogmdhofcab.form

/- What the program's own done.Run must answer. -/
namespace Go.Proofs.Ytcmnmogmdhofcab.form
open Go.RowKit
/-- What is wrong with a run in places. -/
def wrongP (B : List Bool) (C : List LIns) (s slots : Int) (R : List LRow) (nI : Nat) (steps : Int) : Int := if placeMayB B C s slots R = true then wrongI B C nI steps else 2
end Go.Proofs.Ytcmnmogmdhofcab.form
namespace Go.Proofs.Ytcmnmogmdhofcab.doneRuns
open Go.RowKit
open Go.Proofs.Ytcmnmogmdhofcab.form
set_option linter.unusedVariables false

/-- What is shown. -/
def resP (B : List Bool) (C : List LIns) (s slots : Int) (R : List LRow) (I : List Int) (steps : Int) : PMac := if wrongP B C s slots R I.length steps = 0 then playP C R s.toNat slots.toNat I steps.toNat else ⟨0, ⟨[], []⟩, 0, [], 0, 0⟩
/-- What done.Run must answer. -/
def DoneSpec : Prop := ∀ (pv lv iv : Value) (B : List Bool) (C : List LIns) (s slots : Int) (R : List LRow) (I : List Int) (steps : Int) (w : World), ProgIs w pv B C → PlacedIs w lv slots R → RowsOk R → InArg w iv I →
  Calls Try.prog 22 #[pv, targetV s, lv, iv, .int .i64 steps] w fun e w' => (∃ sv, e = .returned (.tuple #[sv, .int .i64 (wrongP B C s slots R I.length steps)]) ∧ ShownIs w' sv (resP B C s slots R I steps).state (resP B C s slots R I steps).out (resP B C s slots R I steps).steps) ∧ Below w.heap.size w w'

theorem wrongP_zero {B : List Bool} {C : List LIns} {s slots : Int} {R : List LRow} {nI : Nat} {steps : Int} (h : wrongP B C s slots R nI steps = 0) : placeMayB B C s slots R = true ∧ wrongI B C nI steps = 0 := by
  unfold wrongP at h
  split at h
  · rename_i h1; exact ⟨h1, h⟩
  · omega

end Go.Proofs.Ytcmnmogmdhofcab.doneRuns

/- loanbookkeep.BuildRuns, out of what the program's own build.Build, run.Run and done.Run answer. -/
namespace Go.Proofs.Ytcmnmogmdhofcab.buildRuns
open Go.ChangeShapes Go.WideShapes Go.ChangeAt Go.RowKit
open Go.Proofs.Ytcmnmogmdhofcab.form Go.Proofs.Ytcmnmogmdhofcab.doneRuns
set_option linter.unusedVariables false

theorem own : ownKnob Try.prog.godebug = none := by kernel_rfl
theorem laidOut : laidOutB Try.prog = true := by kernel_rfl

/-- What build.Build has made: places, or none. -/
structure Made (f : List Bool → List LIns → Int → Int × List LRow) (B : List Bool) (C : List LIns) (s : Int) (x : Int) (slots : Int) (R : List LRow) : Prop where
  yes : x = 0 → refMayB B C = true ∧ targetB s = true ∧ slots = (f B C s).1 ∧ R = (f B C s).2
  no : ¬ x = 0 → x = 2
  two : x = 0 ∨ x = 2

theorem made {f : List Bool → List LIns → Int → Int × List LRow} (buildO : BuildSpec f) (pv : Value) (B : List Bool) (C : List LIns) (s : Int) (w : World) (hp : ProgIs w pv B C) :
    Calls Try.prog 12 #[pv, targetV s] w fun e w' => ∃ lo lc x slots R, e = .returned (.tuple #[.agg #[.int .i64 slots, .slice lo R.length lc], .int .i64 x]) ∧ PlacedIs w' (.agg #[.int .i64 slots, .slice lo R.length lc]) slots R ∧ Made f B C s x slots R ∧ Below w.heap.size w w' := by
  refine (buildO pv B C s w hp).mono ?_
  rintro e w' ⟨⟨h1, lv, rfl, hl⟩ | ⟨h1, lv, rfl, hl⟩, hb⟩
  · have hl' := hl
    obtain ⟨lo, lc, rfl, -, -⟩ := hl'
    exact ⟨lo, lc, 2, 0, [], rfl, hl, ⟨fun h => by omega, fun _ => rfl, Or.inr rfl⟩, hb⟩
  · have hl' := hl
    obtain ⟨lo, lc, rfl, -, -⟩ := hl'
    rw [Bool.and_eq_true] at h1
    exact ⟨lo, lc, 0, _, _, rfl, hl, ⟨fun _ => ⟨h1.1, h1.2, rfl, rfl⟩, fun h => absurd rfl h, Or.inl rfl⟩, hb⟩

/-- In the places that are made it shows what it shows. -/
theorem made_same {f : List Bool → List LIns → Int → Int × List LRow} (hft : BuildTaken f) {B : List Bool} {C : List LIns} {s slots : Int} {R : List LRow} {I : List Int} {steps : Int} (hm : Made f B C s 0 slots R) (hn : ∀ i, i < C.length → 0 ≤ (C.getD i .zero).n ∧ (C.getD i .zero).n < 4294967296)
    (hib : ∀ j, j < I.length → 0 ≤ I.getD j 0 ∧ I.getD j 0 < 4294967296) (hw : wrongI B C I.length steps = 0) :
    RowsOk R ∧ R.length = C.length ∧ wrongP B C s slots R I.length steps = 0 ∧ (resP B C s slots R I steps).state = (resM B C I steps).state ∧ (resP B C s slots R I steps).out = (resM B C I steps).out ∧ (resP B C s slots R I steps).steps = (resM B C I steps).steps := by
  obtain ⟨h1, h2, rfl, rfl⟩ := hm.yes rfl
  obtain ⟨htk, hro⟩ := hft B C s hn h1 h2
  have hm2 := htk.1
  have hwp : wrongP B C s (f B C s).1 (f B C s).2 I.length steps = 0 := by unfold wrongP; rw [if_pos htk.1, hw]
  unfold placeMayB at hm2
  simp only [Bool.and_eq_true, Bool.not_eq_true', decide_eq_true_eq, decide_eq_false_iff_not] at hm2
  obtain ⟨⟨⟨⟨-, hs0⟩, hs1⟩, hlen⟩, -⟩ := hm2
  obtain ⟨u1, u2, u3⟩ := target_of h2
  obtain ⟨-, -, hst0, hst1⟩ := wrong_zero hw
  obtain ⟨ns, hns⟩ : ∃ ns : Nat, s = ns := Int.eq_ofNat_of_zero_le (by omega)
  obtain ⟨nl, hnl⟩ : ∃ nl : Nat, (f B C s).1 = nl := Int.eq_ofNat_of_zero_le (by omega)
  obtain ⟨n, rfl⟩ : ∃ n : Nat, steps = n := Int.eq_ofNat_of_zero_le hst0
  refine ⟨hro, hlen, hwp, ?_⟩
  unfold resP resM
  rw [if_pos hwp, if_pos hw]
  generalize (f B C s).2 = R at *
  generalize (f B C s).1 = slots at *
  subst hns hnl
  obtain ⟨e1, e2, e3⟩ := taken_same (ins := I) htk hn (rows_bd hro hlen) hib n
  exact ⟨e2, e1, e3⟩

set_option maxRecDepth 100000 in
set_option maxHeartbeats 2000000 in
theorem walk {f : List Bool → List LIns → Int → Int × List LRow} (buildO : BuildSpec f) (hft : BuildTaken f) (runO : RunSpec) (doneO : DoneSpec) (pv iv : Value) (B : List Bool) (C : List LIns) (s u : Int) (I : List Int) (steps : Int) (w : World) (hp : ProgIs w pv B C) (hI : InArg w iv I) :
    Calls Try.prog 6 #[pv, targetV s, targetV u, iv, .int .i64 steps] w fun e w' => e = .returned (.bool true) ∧ Below w.heap.size w w' := by
  have HBO : Hid (∀ (s : Int) (wx : World), Below w.heap.size w wx → Calls Try.prog 12 #[pv, .agg #[.int .i64 s]] wx fun e w' => ∃ lo lc x slots R, e = .returned (.tuple #[.agg #[.int .i64 slots, .slice lo R.length lc], .int .i64 x]) ∧ PlacedIs w' (.agg #[.int .i64 slots, .slice lo R.length lc]) slots R ∧ Made f B C s x slots R ∧ Below wx.heap.size wx w') := fun s wx hb => made buildO pv B C s wx (hp.later hb)
  have HRO : Hid (∀ wx : World, Below w.heap.size w wx → Calls Try.prog 21 #[pv, iv, .int .i64 steps] wx fun e w' =>
      (∃ sv, e = .returned (.tuple #[sv, .int .i64 (wrongI B C I.length steps)]) ∧ ShownIs w' sv (resM B C I steps).state (resM B C I steps).out (resM B C I steps).steps) ∧ Below wx.heap.size wx w') := fun wx hb => runO pv B C iv I steps wx (hp.later hb) (hI.later hb)
  have HDO : Hid DoneSpec := doneO
  have HFT : Hid (BuildTaken f) := hft
  have HP : Hid (ProgIs w pv B C) := hp
  have HIA : Hid (InArg w iv I) := hI
  have h0 := hp
  obtain ⟨⟨a0, c0, a1, c1, rfl, hh⟩, -, -, hnum⟩ := h0
  have hI0 := hI
  obtain ⟨ai, ci, rfl, -, -, hib, -⟩ := hI0
  have HN : Hid _ := hnum
  have HIB : Hid (∀ j, j < I.length → 0 ≤ I.getD j 0 ∧ I.getD j 0 < 4294967296) := hib
  obtain ⟨WA, hWA⟩ : ∃ WA, WA = ((w.alloc (.cells #[.slice a0 B.length c0, .slice a1 C.length c1] 25)).alloc (.cells #[.int .i64 s] 37)).alloc (.cells #[.int .i64 u] 37) := ⟨_, rfl⟩
  have HW : Hid (Below w.heap.size w WA) := by rw [hWA]; exact (((Below.refl _ _).alloc (Nat.le_refl _) _).alloc (by simp) _).alloc (by simp; omega) _
  have x0 : WA.cell? ⟨w.heap.size, 0, none⟩ = some (.slice a0 B.length c0) := by rw [hWA]; simp [go_sem]
  have x1 : WA.cell? ⟨w.heap.size, 1, none⟩ = some (.slice a1 C.length c1) := by rw [hWA]; simp [go_sem]
  have x2 : WA.cell? ⟨w.heap.size + 1, 0, none⟩ = some (.int .i64 s) := by rw [hWA]; simp [go_sem]
  have x3 : WA.cell? ⟨w.heap.size + 1 + 1, 0, none⟩ = some (.int .i64 u) := by rw [hWA]; simp [go_sem]
  have hzA : w.heap.size + 1 + 1 < WA.heap.size := by rw [hWA]; simp
  have XA : Hid (∀ wz : World, Below WA.heap.size WA wz → wz.cell? ⟨w.heap.size, 0, none⟩ = some (.slice a0 B.length c0) ∧ wz.cell? ⟨w.heap.size, 1, none⟩ = some (.slice a1 C.length c1) ∧ wz.cell? ⟨w.heap.size + 1, 0, none⟩ = some (.int .i64 s) ∧ wz.cell? ⟨w.heap.size + 1 + 1, 0, none⟩ = some (.int .i64 u)) :=
    fun wz hb => ⟨step_cell hb x0, step_cell hb x1, step_cell hb x2, step_cell hb x3⟩
  have ALC : Hid (∀ (wx : World) (o : Obj), Below wx.heap.size wx (wx.alloc o)) := fun wx o => (Below.refl _ _).alloc (Nat.le_refl _) _
  obtain ⟨x, hx⟩ : ∃ x, x = wrongI B C I.length steps := ⟨_, rfl⟩
  have HX : Hid (wrongI B C I.length steps = x) := hx.symm
  obtain ⟨M, hM⟩ : ∃ M, M = resM B C I steps := ⟨_, rfl⟩
  have HM : Hid (resM B C I steps = M) := hM.symm
  have HC0 : Hid (refMayB B C = true → 0 < C.length) := by
    intro hr
    have hsz : sizesB B C = true := by unfold refMayB at hr; simp only [Bool.and_eq_true] at hr; exact hr.1
    exact (sizes_of hsz).2.2.1
  have HML : Hid (x = 0 → (M.out.length : Int) ≤ steps) := by
    intro h0
    obtain ⟨-, -, hst0, -⟩ := wrong_zero (HX.out.trans h0)
    rw [hM]
    unfold resM
    rw [if_pos (HX.out.trans h0)]
    have := play_outs B C I steps.toNat
    omega
  clear hp hI hh hnum hib hx hM buildO hft runO doneO
  unfold targetV
  go_enter Try.func6, Try.ntmps6
  go_upto_region 1 with fail
  rw [← hWA]
  clear hWA
  go_wp2_with fail
  go_at_call 12
  refine (HBO.out s _ HW.out).mono ?_
  rintro e w1 ⟨lo1, lc1, e1, sl1, R1, rfl, hl1, hmd1, hb1⟩
  have HL1 : Hid (PlacedIs w1 (.agg #[.int .i64 sl1, .slice lo1 R1.length lc1]) sl1 R1) := hl1
  have HMD1 : Hid (Made f B C s e1 sl1 R1) := hmd1
  have HB1 : Hid (Below WA.heap.size WA w1) := hb1
  clear x0 x1 x2 x3 hl1 hmd1 hb1
  obtain ⟨x0, x1, x2, x3⟩ := XA.out _ HB1.out
  have hz1 : w.heap.size + 1 + 1 < w1.heap.size := Nat.lt_of_lt_of_le hzA HB1.out.size
  have q1 : w.heap.size < w1.heap.size := by omega
  have q2 : w.heap.size + 1 < w1.heap.size := by omega
  go_wp2_with fail
  go_at_call 12
  refine (HBO.out u _ (step_below (ALC.out _ _) (step_below HB1.out HW.out))).mono ?_
  rintro e w2 ⟨lo2, lc2, e2, sl2, R2, rfl, hl2, hmd2, hb2⟩
  have HL2 : Hid (PlacedIs w2 (.agg #[.int .i64 sl2, .slice lo2 R2.length lc2]) sl2 R2) := hl2
  have HMD2 : Hid (Made f B C u e2 sl2 R2) := hmd2
  have HB2 : Hid (Below w1.heap.size w1 w2) := step_below hb2 (ALC.out _ _)
  have l0 : w2.cell? ⟨w1.heap.size, 0, none⟩ = some (.int .i64 sl1) := step_cell hb2 (by simp [go_sem])
  have l1 : w2.cell? ⟨w1.heap.size, 1, none⟩ = some (.slice lo1 R1.length lc1) := step_cell hb2 (by simp [go_sem])
  have hz2 : w1.heap.size < w2.heap.size := by have := hb2.size; simp at this; omega
  have XL1 : Hid (∀ wz : World, Below w2.heap.size w2 wz → wz.cell? ⟨w1.heap.size, 0, none⟩ = some (.int .i64 sl1) ∧ wz.cell? ⟨w1.heap.size, 1, none⟩ = some (.slice lo1 R1.length lc1)) := fun wz hb => ⟨step_cell hb l0, step_cell hb l1⟩
  clear x0 x1 x2 x3 l0 l1 hl2 hmd2 hb2 q1 q2
  obtain ⟨x0, x1, x2, x3⟩ := XA.out _ (step_below HB2.out HB1.out)
  have q1 : w.heap.size < w2.heap.size := by omega
  have q2 : w.heap.size + 1 < w2.heap.size := by omega
  have q3 : w.heap.size + 1 + 1 < w2.heap.size := by omega
  go_wp2_with fail
  go_at_call 21
  refine (HRO.out _ (step_below (ALC.out _ _) (step_below HB2.out (step_below HB1.out HW.out)))).mono ?_
  rw [HX.out, HM.out]
  rintro e w3 ⟨⟨sv, rfl, hsh⟩, hb3⟩
  have HS3 : Hid (ShownIs w3 sv M.state M.out M.steps) := hsh
  obtain ⟨ov, rfl, vo, vc, rfl, -, -⟩ := hsh
  have HB3 : Hid (Below w2.heap.size w2 w3) := step_below hb3 (ALC.out _ _)
  have l2 : w3.cell? ⟨w2.heap.size, 0, none⟩ = some (.int .i64 sl2) := step_cell hb3 (by simp [go_sem])
  have l3 : w3.cell? ⟨w2.heap.size, 1, none⟩ = some (.slice lo2 R2.length lc2) := step_cell hb3 (by simp [go_sem])
  have hz3 : w2.heap.size < w3.heap.size := by have := hb3.size; simp at this; omega
  clear x0 x1 x2 x3 hb3 q1 q2 q3
  obtain ⟨x0, x1, x2, x3⟩ := XA.out _ (step_below HB3.out (step_below HB2.out HB1.out))
  obtain ⟨l0, l1⟩ := XL1.out _ HB3.out
  have q1 : w.heap.size < w3.heap.size := by omega
  have q2 : w.heap.size + 1 < w3.heap.size := by omega
  have q3 : w.heap.size + 1 + 1 < w3.heap.size := by omega
  have q4 : w1.heap.size < w3.heap.size := by omega
  have HBE : Hid (∀ o : Obj, Below w.heap.size w (w3.alloc o)) := fun o => step_below (ALC.out _ _) (step_below HB3.out (step_below HB2.out (step_below HB1.out HW.out)))
  by_cases hok : e1 = 0 ∧ e2 = 0 ∧ x = 0
  case neg =>
    have HOK : Hid (¬ (e1 = 0 ∧ e2 = 0 ∧ x = 0)) := hok
    rcases HMD1.out.two with h1 | h1 <;> rcases HMD2.out.two with h2 | h2 <;> by_cases h3 : x = 0
    · exact absurd ⟨h1, h2, h3⟩ hok
    all_goals
      subst h1 h2
      clear hok
      first | (have h9 := HML.out h3; subst h3) | (have h9 : (x != 0) = true := by simp [h3])
      go_wp2
      go_ret
      exact ⟨rfl, HBE.out _⟩
  obtain ⟨h1, h2, h3⟩ := hok
  subst h1 h2 h3
  obtain ⟨hr1, hn1, hw1, hs1, ho1, ht1⟩ := made_same HFT.out HMD1.out HN.out HIB.out HX.out
  obtain ⟨hr2, hn2, hw2, hs2, ho2, ht2⟩ := made_same HFT.out HMD2.out HN.out HIB.out HX.out
  have hc0 := HC0.out (HMD1.out.yes rfl).1
  rw [HM.out] at hs1 ho1 ht1 hs2 ho2 ht2
  have HD1 : Hid (∀ wx : World, Below w3.heap.size w3 wx → Calls Try.prog 22 #[.agg #[.slice a0 B.length c0, .slice a1 C.length c1], .agg #[.int .i64 s], .agg #[.int .i64 sl1, .slice lo1 R1.length lc1], .slice ai I.length ci, .int .i64 steps] wx fun e w' => (∃ sv, e = .returned (.tuple #[sv, .int .i64 0]) ∧ ShownIs w' sv M.state M.out M.steps) ∧ Below wx.heap.size wx w') := by
    intro wx hb
    have hbx := step_below hb (step_below HB3.out (step_below HB2.out (step_below HB1.out HW.out)))
    have := HDO.out _ _ _ B C s sl1 R1 I steps wx (HP.out.later hbx) (HL1.out.later (step_below hb (step_below HB3.out HB2.out))) hr1 (HIA.out.later hbx)
    rw [hw1, hs1, ho1, ht1] at this
    exact this
  have HD2 : Hid (∀ wx : World, Below w3.heap.size w3 wx → Calls Try.prog 22 #[.agg #[.slice a0 B.length c0, .slice a1 C.length c1], .agg #[.int .i64 u], .agg #[.int .i64 sl2, .slice lo2 R2.length lc2], .slice ai I.length ci, .int .i64 steps] wx fun e w' => (∃ sv, e = .returned (.tuple #[sv, .int .i64 0]) ∧ ShownIs w' sv M.state M.out M.steps) ∧ Below wx.heap.size wx w') := by
    intro wx hb
    have hbx := step_below hb (step_below HB3.out (step_below HB2.out (step_below HB1.out HW.out)))
    have := HDO.out _ _ _ B C u sl2 R2 I steps wx (HP.out.later hbx) (HL2.out.later (step_below hb HB3.out)) hr2 (HIA.out.later hbx)
    rw [hw2, hs2, ho2, ht2] at this
    exact this
  have HE1 : Hid (((R1.length : Int) == (C.length : Int)) = true) := by show _ = _; simp; omega
  have XL2 : Hid (∀ wz : World, Below w3.heap.size w3 wz → (wz.cell? ⟨w1.heap.size, 0, none⟩ = some (.int .i64 sl1) ∧ wz.cell? ⟨w1.heap.size, 1, none⟩ = some (.slice lo1 R1.length lc1)) ∧ (wz.cell? ⟨w2.heap.size, 0, none⟩ = some (.int .i64 sl2) ∧ wz.cell? ⟨w2.heap.size, 1, none⟩ = some (.slice lo2 R2.length lc2))) := fun wz hb => ⟨XL1.out _ (step_below hb HB3.out), step_cell hb l2, step_cell hb l3⟩
  have hcI : (0 : Int) < (C.length : Int) := by omega
  have HCN : Hid (0 < C.length) := hc0
  clear hr1 hn1 hw1 hs1 ho1 ht1 hr2 hn2 hw2 hs2 ho2 ht2 hc0
  go_wp2_with fail
  go_at_call 22
  refine (HD1.out _ (ALC.out _ _)).mono ?_
  rintro e w4 ⟨⟨sv4, rfl, hsh4⟩, hb4⟩
  have HS4 : Hid (ShownIs w4 sv4 M.state M.out M.steps) := hsh4
  obtain ⟨ov4, rfl, vo4, vc4, rfl, -, -⟩ := hsh4
  have HB4 : Hid (Below w3.heap.size w3 w4) := step_below hb4 (ALC.out _ _)
  have s0 : w4.cell? ⟨w3.heap.size, 0, none⟩ = some (.int .i64 M.state) := step_cell hb4 (by simp [go_sem])
  have s1 : w4.cell? ⟨w3.heap.size, 1, none⟩ = some (.slice vo M.out.length vc) := step_cell hb4 (by simp [go_sem])
  have s2 : w4.cell? ⟨w3.heap.size, 2, none⟩ = some (.int .i64 M.steps) := step_cell hb4 (by simp [go_sem])
  have XS : Hid (∀ wz : World, Below w4.heap.size w4 wz → wz.cell? ⟨w3.heap.size, 0, none⟩ = some (.int .i64 M.state) ∧ wz.cell? ⟨w3.heap.size, 1, none⟩ = some (.slice vo M.out.length vc) ∧ wz.cell? ⟨w3.heap.size, 2, none⟩ = some (.int .i64 M.steps)) := fun wz hb => ⟨step_cell hb s0, step_cell hb s1, step_cell hb s2⟩
  have hz4 : w3.heap.size < w4.heap.size := by have := hb4.size; simp at this; omega
  clear x0 x1 x2 x3 l0 l1 l2 l3 hb4 s0 s1 s2
  obtain ⟨x0, x1, x2, x3⟩ := XA.out _ (step_below HB4.out (step_below HB3.out (step_below HB2.out HB1.out)))
  obtain ⟨⟨l0, l1⟩, l2, l3⟩ := XL2.out _ HB4.out
  have q1 : w.heap.size < w4.heap.size := by omega
  have q2 : w.heap.size + 1 < w4.heap.size := by omega
  have q3 : w.heap.size + 1 + 1 < w4.heap.size := by omega
  have q4 : w1.heap.size < w4.heap.size := by omega
  have q5 : w2.heap.size < w4.heap.size := by omega
  go_wp2_with fail
  go_at_call 22
  refine (HD2.out _ (step_below (ALC.out _ _) HB4.out)).mono ?_
  rintro e w5 ⟨⟨sv5, rfl, hsh5⟩, hb5⟩
  have HS5 : Hid (ShownIs w5 sv5 M.state M.out M.steps) := hsh5
  obtain ⟨ov5, rfl, vo5, vc5, rfl, -, -⟩ := hsh5
  have HB5 : Hid (Below w4.heap.size w4 w5) := step_below hb5 (ALC.out _ _)
  have t0 : w5.cell? ⟨w4.heap.size, 0, none⟩ = some (.int .i64 M.state) := step_cell hb5 (by simp [go_sem])
  have t1 : w5.cell? ⟨w4.heap.size, 1, none⟩ = some (.slice vo4 M.out.length vc4) := step_cell hb5 (by simp [go_sem])
  have t2 : w5.cell? ⟨w4.heap.size, 2, none⟩ = some (.int .i64 M.steps) := step_cell hb5 (by simp [go_sem])
  have hz5 : w4.heap.size < w5.heap.size := by have := hb5.size; simp at this; omega
  obtain ⟨s0, s1, s2⟩ := XS.out _ HB5.out
  clear x0 x1 x2 x3 l0 l1 l2 l3 hb5
  have q6 : w3.heap.size < w5.heap.size := by omega
  have HB35 : Hid (Below w3.heap.size w3 w5) := step_below HB5.out HB4.out
  have HSA : Hid (∀ (wx : World), Below w5.heap.size w5 wx → ∀ v1 c1 v2 c2, ShownIs wx (.agg #[.int .i64 M.state, .slice v1 M.out.length c1, .int .i64 M.steps]) M.state M.out M.steps → ShownIs wx (.agg #[.int .i64 M.state, .slice v2 M.out.length c2, .int .i64 M.steps]) M.state M.out M.steps → Calls Try.prog 20 #[.agg #[.int .i64 M.state, .slice v1 M.out.length c1, .int .i64 M.steps], .agg #[.int .i64 M.state, .slice v2 M.out.length c2, .int .i64 M.steps]] wx fun e w' => e = .returned (.bool true) ∧ Below wx.heap.size wx w') := by
    intro wx hb v1 c1 v2 c2 h1 h2
    refine (same _ _ M.state M.steps M.state M.steps M.out M.out _ h1 h2).mono ?_
    rintro e w' ⟨rfl, hb'⟩
    exact ⟨ret_bool (by unfold sameB; simp), hb'⟩
  go_wp2_with fail
  go_at_call 20
  refine (HSA.out _ (ALC.out _ _) _ _ _ _ (HS4.out.later (step_below (ALC.out _ _) HB5.out)) (HS3.out.later (step_below (ALC.out _ _) HB35.out))).mono ?_
  rintro e w6 ⟨rfl, hb6⟩
  have HB6 : Hid (Below w5.heap.size w5 w6) := step_below hb6 (ALC.out _ _)
  have u0 : w6.cell? ⟨w5.heap.size, 0, none⟩ = some (.int .i64 M.state) := step_cell hb6 (by simp [go_sem])
  have u1 : w6.cell? ⟨w5.heap.size, 1, none⟩ = some (.slice vo5 M.out.length vc5) := step_cell hb6 (by simp [go_sem])
  have u2 : w6.cell? ⟨w5.heap.size, 2, none⟩ = some (.int .i64 M.steps) := step_cell hb6 (by simp [go_sem])
  clear s0 s1 s2 t0 t1 t2 hb6
  obtain ⟨s0, s1, s2⟩ := XS.out _ (step_below HB6.out HB5.out)
  go_wp2_with fail
  go_at_call 20
  refine (HSA.out _ HB6.out _ _ _ _ (HS5.out.later HB6.out) (HS3.out.later (step_below HB6.out HB35.out))).mono ?_
  rintro e w7 ⟨rfl, hb7⟩
  have HB7 : Hid (Below w3.heap.size w3 w7) := step_below hb7 (step_below HB6.out HB35.out)
  clear s0 s1 s2 u0 u1 u2 hb7
  obtain ⟨x0, x1, -, -⟩ := XA.out _ (step_below HB7.out (step_below HB3.out (step_below HB2.out HB1.out)))
  obtain ⟨⟨-, l1⟩, -, -⟩ := XL2.out _ HB7.out
  have he1 := HE1.out
  go_wp2
  go_ret
  exact ⟨ret_bool (by have := HCN.out; simp; omega), step_below HB7.out (step_below HB3.out (step_below HB2.out (step_below HB1.out HW.out)))⟩

set_option maxRecDepth 100000 in
theorem lifted {f : List Bool → List LIns → Int → Int × List LRow} (buildO : BuildSpec f) (hft : BuildTaken f) (runO : RunSpec) (doneO : DoneSpec) (os : Os) (started : os.Started) (H : Type) (enc : TypeId × Value → H) :
    ReturnsInHanded {} Try.checked os 6 .any (Rows.buildRunsSpec.pre6 enc Try.prog Try.f6 Rows.buildRunsRow.domain false) (Rows.buildRunsSpec.post enc Try.prog Try.f6 false true false false) := by
  refine returnsInHanded_of_change (C := Try.checked) own started (by kernel_rfl) Try.func6
    (ChangeSpec.witness6 (enc := enc) (C := Try.checked) false ⟨#[], #[.agg #[.slice none 0 0, .slice none 0 0], .agg #[.int .i64 0], .agg #[.int .i64 0], .slice none 0 0, .int .i64 0], []⟩ 8 (by kernel_rfl) (by kernel_rfl) (by kernel_rfl) (by kernel_rfl)) ?_
  intro W base args ds gs before hval0 hW hcnd _
  have hval : ∀ (j : Nat) t v, Try.f6.params[j]? = some t → args[j]? = some v → Value.okWide Try.prog W .any base t v := hval0
  have hW' := hW
  obtain ⟨p, q, hA0, hV, rfl, hfz, hnd⟩ := hW
  have hA : DataW.TrodAll enc Try.prog W 0 (fun _ => true) true Try.f6.params.toList args.toList ds p := hA0
  rw [Try.params6] at hA hval
  obtain ⟨v0, vs0, d0, ds0, p0, q0, hargs, rfl, rfl, h0, r0⟩ := trodAll_cons hA
  obtain ⟨v1, vs1, d1, ds1, p1, q1, rfl, rfl, rfl, h1, r1⟩ := trodAll_cons r0
  obtain ⟨v2, vs2, d2, ds2, p2, q2, rfl, rfl, rfl, h2, r2⟩ := trodAll_cons r1
  obtain ⟨v3, vs3, d3, ds3, p3, q3, rfl, rfl, rfl, h3, r3⟩ := trodAll_cons r2
  obtain ⟨v4, vs4, d4, ds4, p4, q4, rfl, rfl, rfl, h4, r4⟩ := trodAll_cons r3
  obtain ⟨rfl, rfl, rfl⟩ := trodAll_nil r4
  obtain rfl : args = #[v0, v1, v2, v3, v4] := by cases args; simp_all
  obtain ⟨rfl, rfl⟩ := trodVars_none hV
  have k0 := h0
  have k1 := h1
  have k2 := h2
  have k3 := h3
  have k4 := h4
  have lt0 : ∀ x ∈ p0, x.block < W.heap.size := by obtain ⟨m, hm⟩ := k0; exact DataW.trod_lt m _ _ _ hm
  have lt1 : ∀ x ∈ p1, x.block < W.heap.size := by obtain ⟨m, hm⟩ := k1; exact DataW.trod_lt m _ _ _ hm
  have lt2 : ∀ x ∈ p2, x.block < W.heap.size := by obtain ⟨m, hm⟩ := k2; exact DataW.trod_lt m _ _ _ hm
  have lt3 : ∀ x ∈ p3, x.block < W.heap.size := by obtain ⟨m, hm⟩ := k3; exact DataW.trod_lt m _ _ _ hm
  have lt4 : ∀ x ∈ p4, x.block < W.heap.size := by obtain ⟨m, hm⟩ := k4; exact DataW.trod_lt m _ _ _ hm
  obtain ⟨B, C, hP⟩ := prog_is (hval 0 25 v0 rfl rfl) h0
  obtain ⟨s1, rfl, -, -⟩ := target_is (hval 1 37 v1 rfl rfl) h1
  obtain ⟨s2, rfl, -, -⟩ := target_is (hval 2 37 v2 rfl rfl) h2
  obtain ⟨I, hI⟩ := ins_is (hval 3 49 v3 rfl rfl) h3
  obtain ⟨n4, rfl, -, -, -⟩ := open_int Try.underlying3 (hval 4 3 v4 rfl rfl) h4
  clear hA0 hval0
  refine (walk buildO hft runO doneO v0 v3 B C s1 s2 I n4 W hP hI).mono fun e W' ⟨he, bel⟩ => ?_
  subst he
  exact ⟨_, rfl, _, _, _, [], _, [], hW', trodAll_mk1 (shut_bool Try.underlying4 _),
    (trodAll_cons_mk (Below.trod laidOut (by kernel_rfl) (of_decide_eq_true (by kernel_rfl)) k0 bel lt0) (trodAll_cons_mk (Below.trod laidOut (by kernel_rfl) (of_decide_eq_true (by kernel_rfl)) k1 bel lt1) (trodAll_cons_mk (Below.trod laidOut (by kernel_rfl) (of_decide_eq_true (by kernel_rfl)) k2 bel lt2) (trodAll_cons_mk (Below.trod laidOut (by kernel_rfl) (of_decide_eq_true (by kernel_rfl)) k3 bel lt3) (trodAll_cons_mk (Below.trod laidOut (by kernel_rfl) (of_decide_eq_true (by kernel_rfl)) k4 bel lt4) trodAll_mk0))))), rfl, bel.frame _, fun h => by cases h⟩

theorem over {f : List Bool → List LIns → Int → Int × List LRow} (buildO : BuildSpec f) (hft : BuildTaken f) (runO : RunSpec) (doneO : DoneSpec) : Rows.buildRunsRow.holds Try.pinned (OpenSpec.ofChange Rows.buildRunsSpec) :=
  OpenClaim.holds_of_wide 6 Try.f6 rfl rfl rfl rfl rfl rfl rfl ⟨rfl, rfl, rfl, rfl, rfl⟩ rfl rfl rfl rfl rfl (by kernel_rfl) Try.func6 (by kernel_rfl)
    (of_decide_eq_true (by kernel_rfl)) (by unfold Func.isWrapper; first | (rw [if_pos (by decide +kernel)]; kernel_rfl) | (rw [if_neg (by decide +kernel)]; exact ⟨rfl, rfl⟩))
    (fun os started H enc _ => lifted buildO hft runO doneO os started H enc)

end Go.Proofs.Ytcmnmogmdhofcab.buildRuns

/- What the functions on numbers come to: the program's. -/
namespace Go.Proofs.Ytcmnmogmdhofcab.num
open Go.RowKit

theorem reckon64 (op a b : Int) (w : World) : Calls Try.prog 144 #[.int .i64 op, .int .u64 a, .int .u64 b] w fun e w' => e = .returned (.int .u64 (opR .u64 op a b)) ∧ w' = w := by
  go_enter Try.func144, Try.ntmps144
  go_wp2
  all_goals go_ret
  all_goals exact ⟨ret_int (by simp_all [opR]), rfl⟩

theorem reckon32 (op a b : Int) (w : World) : Calls Try.prog 145 #[.int .i64 op, .int .u32 a, .int .u32 b] w fun e w' => e = .returned (.int .u32 (opR .u32 op a b)) ∧ w' = w := by
  go_enter Try.func145, Try.ntmps145
  go_wp2
  all_goals go_ret
  all_goals exact ⟨ret_int (by simp_all [opR, IntKind.wrap_u32']), rfl⟩

theorem wide (op a b : Int) (w : World) : Calls Try.prog 131 #[.int .i64 op, .int .u64 a, .int .u64 b] w fun e w' => e = .returned (.int .u64 (opR .u64 op a b)) ∧ w' = w := by
  go_enter Try.func131, Try.ntmps131
  go_wp2_with (go_at_call 144; refine (reckon64 _ _ _ _).mono ?_; rintro e w' ⟨rfl, rfl⟩)
  go_ret
  exact ⟨rfl, rfl⟩

theorem narrow (op a b : Int) (w : World) : Calls Try.prog 133 #[.int .i64 op, .int .u32 a, .int .u32 b] w fun e w' => e = .returned (.int .u32 (opR .u32 op a b)) ∧ w' = w := by
  go_enter Try.func133, Try.ntmps133
  go_wp2_with (go_at_call 145; refine (reckon32 _ _ _ _).mono ?_; rintro e w' ⟨rfl, rfl⟩)
  go_ret
  exact ⟨rfl, rfl⟩

end Go.Proofs.Ytcmnmogmdhofcab.num

/- The program's own machine (package run) in memory: its state, what came out, the ins that are left; the store that its deeds read and write, whatever it is; how each part of it is written. -/
namespace Go.Proofs.Ytcmnmogmdhofcab.form
open Go.RowKit Go.Proofs.Ytcmnmogmdhofcab.num
set_option linter.unusedVariables false

/-- A kind of store: its type in memory, its cells, what it may be. -/
structure StoK where
  S : Type
  T : TypeId
  enc : S → List Value
  ok : S → Prop

/-- The blocks below a bound, but two, are as they were. -/
structure Ran (mb sb base : Nat) (w w' : World) : Prop where
  os : w'.os = w.os
  tape : w'.tape = w.tape
  output : w'.output = w.output
  size : w.heap.size ≤ w'.heap.size
  block : ∀ k, k < base → k ≠ mb → k ≠ sb → w'.heap[k]? = w.heap[k]?

theorem Ran.refl (mb sb base : Nat) (w : World) : Ran mb sb base w w := ⟨rfl, rfl, rfl, Nat.le_refl _, fun _ _ _ _ => rfl⟩
theorem Ran.trans {mb sb base : Nat} {a b c : World} (h : Ran mb sb base a b) (k : Ran mb sb base b c) : Ran mb sb base a c :=
  ⟨k.os.trans h.os, k.tape.trans h.tape, k.output.trans h.output, Nat.le_trans h.size k.size, fun i hi h1 h2 => (k.block i hi h1 h2).trans (h.block i hi h1 h2)⟩
theorem Ran.of_below {mb sb base : Nat} {w w' : World} (hz : base ≤ w.heap.size) (h : Below w.heap.size w w') : Ran mb sb base w w' := ⟨h.os, h.tape, h.output, h.size, fun k hk _ _ => h.block k (by omega)⟩
theorem Ran.set {mb sb base : Nat} {w w' : World} (h : Ran mb sb base w w') (j : Nat) (u : Value) : Ran mb sb base w (w'.setCell ⟨mb, j, none⟩ u) :=
  ⟨h.os, h.tape, h.output, by simpa [World.setCell] using h.size, fun k hk h1 h2 => by rw [Below.heap_setCell _ _ _ _ h1]; exact h.block k hk h1 h2⟩
theorem Ran.cell {mb sb base : Nat} {w w' : World} (h : Ran mb sb base w w') {p : Addr} {v : Value} (hc : w.cell? p = some v) (h1 : p.block < base) (h2 : p.block ≠ mb) (h3 : p.block ≠ sb) : w'.cell? p = some v := by
  rw [World.cell?_of_block (h.block p.block h1 h2 h3)]; exact hc

/-- All that was there, but three blocks, is as it was. -/
def Kept (mb sb db : Nat) (w1 w : World) : Prop := ∀ k, k < w1.heap.size → k ≠ mb → k ≠ sb → k ≠ db → w.heap[k]? = w1.heap[k]?
theorem Kept.refl (mb sb db : Nat) (w : World) : Kept mb sb db w w := fun _ _ _ _ _ => rfl
theorem Kept.cell {mb sb db : Nat} {w w' : World} (h : Kept mb sb db w w') {p : Addr} {v : Value} (hc : w.cell? p = some v) (h1 : p.block ≠ mb) (h2 : p.block ≠ sb) (h3 : p.block ≠ db) : w'.cell? p = some v := by
  rw [World.cell?_of_block (h p.block (World.block_lt_of_cell? w _ hc) h1 h2 h3)]; exact hc
theorem Kept.of_below {mb sb db : Nat} {w w' : World} (h : Below w.heap.size w w') : Kept mb sb db w w' := fun k hk _ _ _ => h.block k hk
theorem Kept.trans {mb sb db : Nat} {a b c : World} (h : Kept mb sb db a b) (hz : a.heap.size ≤ b.heap.size) (k : Kept mb sb db b c) : Kept mb sb db a c := fun j hj h1 h2 h3 => (k j (by omega) h1 h2 h3).trans (h j hj h1 h2 h3)
theorem Kept.set {mb sb db : Nat} (w : World) (j : Nat) (u : Value) : Kept mb sb db w (w.setCell ⟨db, j, none⟩ u) := fun k _ _ _ h3 => Below.heap_setCell _ _ _ _ h3
theorem Kept.ran {mb sb db base : Nat} {w1 w w' : World} (h : Kept mb sb db w1 w) (hz : w1.heap.size ≤ base) (hr : Ran mb sb base w w') : Kept mb sb db w1 w' := fun k hk hm hs hd => (hr.block k (by omega) hm hs).trans (h k hk hm hs hd)
theorem Kept.thenBelow {mb sb db : Nat} {w1 w w' : World} (h : Kept mb sb db w1 w) (hz : w1.heap.size ≤ w.heap.size) (hb : Below w.heap.size w w') : Kept mb sb db w1 w' := h.trans hz (Kept.of_below hb)

/-- All that was there, but one block, is as it was. -/
structure Only (sb : Nat) (w w' : World) : Prop where
  os : w'.os = w.os
  tape : w'.tape = w.tape
  output : w'.output = w.output
  size : w.heap.size ≤ w'.heap.size
  block : ∀ k, k < w.heap.size → k ≠ sb → w'.heap[k]? = w.heap[k]?
theorem Only.of_below {sb : Nat} {w w' : World} (h : Below w.heap.size w w') : Only sb w w' := ⟨h.os, h.tape, h.output, h.size, fun k hk _ => h.block k hk⟩
theorem Only.refl (sb : Nat) (w : World) : Only sb w w := Only.of_below (Below.refl _ _)
theorem Only.trans {sb : Nat} {a b c : World} (h : Only sb a b) (k : Only sb b c) : Only sb a c :=
  ⟨k.os.trans h.os, k.tape.trans h.tape, k.output.trans h.output, Nat.le_trans h.size k.size, fun i hi h1 => (k.block i (Nat.lt_of_lt_of_le hi h.size) h1).trans (h.block i hi h1)⟩
theorem Only.set {sb : Nat} {w w' : World} (h : Only sb w w') (j : Nat) (u : Value) : Only sb w (w'.setCell ⟨sb, j, none⟩ u) :=
  ⟨h.os, h.tape, h.output, by simpa [World.setCell] using h.size, fun k hk h1 => by rw [Below.heap_setCell _ _ _ _ h1]; exact h.block k hk h1⟩
theorem Only.cell {sb : Nat} {w w' : World} (h : Only sb w w') {p : Addr} {v : Value} (hc : w.cell? p = some v) (h1 : p.block ≠ sb) : w'.cell? p = some v := by
  rw [World.cell?_of_block (h.block p.block (World.block_lt_of_cell? w _ hc) h1)]; exact hc
theorem Only.ran {mb sb base : Nat} {w w' : World} (h : Only sb w w') (hz : base ≤ w.heap.size) : Ran mb sb base w w' := ⟨h.os, h.tape, h.output, h.size, fun k hk _ h2 => h.block k (by omega) h2⟩
theorem Only.kept {mb sb db : Nat} {w w' : World} (h : Only sb w w') : Kept mb sb db w w' := fun k hk _ h2 _ => h.block k hk h2

/-- The ins that are left. -/
def InsIs (mb sb base : Nat) (w : World) (iv : Value) (I : List Int) : Prop :=
  ∃ ai cap, iv = .slice ai I.length cap ∧ I.length ≤ cap ∧ I.length ≤ 40 ∧ (∀ j, j < I.length → 0 ≤ I.getD j 0 ∧ I.getD j 0 < 4294967296) ∧
    (0 < I.length → ∃ b o, ai = some ⟨b, o, none⟩ ∧ b < base ∧ b ≠ mb ∧ b ≠ sb ∧ ∀ j, j < I.length → w.cell? ⟨b, o + j, none⟩ = some (.int .u32 (I.getD j 0)))

theorem InsIs.ran {mb sb base : Nat} {w w' : World} {iv : Value} {I : List Int} (h : InsIs mb sb base w iv I) (hr : Ran mb sb base w w') : InsIs mb sb base w' iv I := by
  obtain ⟨ai, cap, e, h1, h2, h3, h4⟩ := h
  refine ⟨ai, cap, e, h1, h2, h3, fun h0 => ?_⟩
  obtain ⟨b, o, e2, hb, hm, hs, hc⟩ := h4 h0
  exact ⟨b, o, e2, hb, hm, hs, fun j hj => hr.cell (hc j hj) hb hm hs⟩

/-- The cells of a machine. -/
def macV (st k pc : Int) (ov iv : Value) : List Value := [.int .i64 st, ov, .int .i64 k, iv, .int .i64 pc]

structure MS (K : StoK) (mb sb base : Nat) (s : K.S) (ov : Value) (l : List Int) (st k : Int) (iv : Value) (I : List Int) (pc : Int) (w : World) : Prop where
  row : Row w mb 118 (macV st k pc ov iv)
  sto : Row w sb K.T (K.enc s)
  ok : K.ok s
  ne : mb ≠ sb
  lt : mb < base
  slt : sb < base
  sz : base ≤ w.heap.size
  own : w.ownsRow base 69 1 ov l.length (l.map (Value.int .u32))
  ins : InsIs mb sb base w iv I

section
variable {K : StoK} {mb sb base : Nat} {s : K.S} {ov : Value} {l : List Int} {st k : Int} {iv : Value} {I : List Int} {pc : Int} {w w' : World}

theorem MS.cst (h : MS K mb sb base s ov l st k iv I pc w) : w.cell? ⟨mb, 0, none⟩ = some (.int .i64 st) := h.row.cell 0
theorem MS.cov (h : MS K mb sb base s ov l st k iv I pc w) : w.cell? ⟨mb, 1, none⟩ = some ov := h.row.cell 1
theorem MS.ck (h : MS K mb sb base s ov l st k iv I pc w) : w.cell? ⟨mb, 2, none⟩ = some (.int .i64 k) := h.row.cell 2
theorem MS.civ (h : MS K mb sb base s ov l st k iv I pc w) : w.cell? ⟨mb, 3, none⟩ = some iv := h.row.cell 3
theorem MS.cpc (h : MS K mb sb base s ov l st k iv I pc w) : w.cell? ⟨mb, 4, none⟩ = some (.int .i64 pc) := h.row.cell 4
theorem MS.fz (h : MS K mb sb base s ov l st k iv I pc w) (j : Nat) : w.frozen? ⟨mb, j, none⟩ = false := h.row.frozen j
theorem MS.ownNe (h : MS K mb sb base s ov l st k iv I pc w) {b : Nat} (hb : b < base) : ov.ownBlock ≠ some b := fun e => by have := (World.ownsRow.lt h.own _ e).1; omega

theorem MS.below (h : MS K mb sb base s ov l st k iv I pc w) (hb : Below w.heap.size w w') : MS K mb sb base s ov l st k iv I pc w' :=
  ⟨h.row.below hb, h.sto.below hb, h.ok, h.ne, h.lt, h.slt, Nat.le_trans h.sz hb.size, World.ownsRow.kept h.own ⟨hb.os, hb.tape, hb.output, hb.size, fun j hj _ => hb.block j hj⟩ (row := none) (by cases ov.ownBlock <;> simp), h.ins.ran (Ran.of_below h.sz hb)⟩

/-- Behind what was put into the store. -/
theorem MS.wrote {s' : K.S} (h : MS K mb sb base s ov l st k iv I pc w) (hr : Row w' sb K.T (K.enc s')) (hk : K.ok s') (ho : Only sb w w') : MS K mb sb base s' ov l st k iv I pc w' := by
  refine ⟨?_, hr, hk, h.ne, h.lt, h.slt, Nat.le_trans h.sz ho.size, World.ownsRow.kept h.own ⟨ho.os, ho.tape, ho.output, ho.size, fun j hj hne => ho.block j hj (fun e => hne (by rw [e]))⟩ (row := some sb) ?_, h.ins.ran (ho.ran h.sz)⟩
  · have h1 := h.row.lt
    have h2 := h.row
    unfold Row at *
    rw [ho.block mb h1 h.ne]; exact h2
  · have := h.ownNe h.slt
    first | exact this | exact Or.inr this | (intro e; exact this e) | (cases hob : ov.ownBlock <;> simp_all)

theorem MS.setMac (h : MS K mb sb base s ov l st k iv I pc w) (j : Nat) (v : Value) {st' k' pc' : Int} {iv' : Value} {I' : List Int} (he : (macV st k pc ov iv).set j v = macV st' k' pc' ov iv') (hi : InsIs mb sb base w iv' I') : MS K mb sb base s ov l st' k' iv' I' pc' (w.setCell ⟨mb, j, none⟩ v) :=
  ⟨by have := h.row.set j v; rwa [he] at this, h.sto.other (by exact fun e => h.ne e.symm) _, h.ok, h.ne, h.lt, h.slt, by simpa [World.setCell] using h.sz, ownsRow_setCell_other h.own (h.ownNe h.lt) _, hi.ran ((Ran.refl _ _ _ _).set _ _)⟩
theorem MS.setState (h : MS K mb sb base s ov l st k iv I pc w) (x : Int) : MS K mb sb base s ov l x k iv I pc (w.setCell ⟨mb, 0, none⟩ (.int .i64 x)) := h.setMac 0 _ rfl h.ins
theorem MS.setSteps (h : MS K mb sb base s ov l st k iv I pc w) (x : Int) : MS K mb sb base s ov l st x iv I pc (w.setCell ⟨mb, 2, none⟩ (.int .i64 x)) := h.setMac 2 _ rfl h.ins
theorem MS.setPc (h : MS K mb sb base s ov l st k iv I pc w) (x : Int) : MS K mb sb base s ov l st k iv I x (w.setCell ⟨mb, 4, none⟩ (.int .i64 x)) := h.setMac 4 _ rfl h.ins
theorem MS.setIns (h : MS K mb sb base s ov l st k iv I pc w) {iv' : Value} {I' : List Int} (hi : InsIs mb sb base w iv' I') : MS K mb sb base s ov l st k iv' I' pc (w.setCell ⟨mb, 3, none⟩ iv') := h.setMac 3 _ rfl hi

/-- Behind 'm.Out = append(m.Out, x)'. -/
theorem MS.push (h : MS K mb sb base s ov l st k iv I pc w) {x : Int} {g cap : Nat} {wx w1 : World} (hx : Below w.heap.size w wx)
    (hown : w1.ownsRow base 69 1 (.slice (some ⟨g, 0, none⟩) (l.length + 1) cap) (l.length + 1) (l.map (Value.int .u32) ++ [.int .u32 x])) (hgrow : wx.grownBy w1 ov.ownBlock) :
    MS K mb sb base s (.slice (some ⟨g, 0, none⟩) (l.length + 1) cap) (l ++ [x]) st k iv I pc (w1.setCell ⟨mb, 1, none⟩ (.slice (some ⟨g, 0, none⟩) (l.length + 1) cap)) ∧ Ran mb sb base w w1 ∧ Row w1 mb 118 (macV st k pc ov iv) := by
  have hz := h.sz
  have hz1 := hx.size
  have hbl : Below base w w1 := ((hx.mono hz).grown hgrow (by omega) (fun j hj => (World.ownsRow.lt h.own _ hj).1))
  have hr : Ran mb sb base w w1 := ⟨hbl.os, hbl.tape, hbl.output, hbl.size, fun j hj _ _ => hbl.block j hj⟩
  have hrow : Row w1 mb 118 (macV st k pc ov iv) := by
    have := h.row
    unfold Row at *
    rw [hbl.block mb h.lt]; exact this
  have hsto : Row w1 sb K.T (K.enc s) := by
    have := h.sto
    unfold Row at *
    rw [hbl.block sb h.slt]; exact this
  refine ⟨⟨hrow.set 1 _, hsto.other (by exact fun e => h.ne e.symm) _, h.ok, h.ne, h.lt, h.slt, ?_, ?_, h.ins.ran (hr.set _ _)⟩, hr, hrow⟩
  · have := hbl.size; simp [World.setCell]; omega
  · have hne : (Value.slice (some ⟨g, 0, none⟩) (l.length + 1) cap).ownBlock ≠ some mb := fun e => by have := (World.ownsRow.lt hown _ e).1; have := h.lt; omega
    have := ownsRow_setCell_other (a := ⟨mb, 1, none⟩) hown hne (.slice (some ⟨g, 0, none⟩) (l.length + 1) cap)
    simpa using this
end

end Go.Proofs.Ytcmnmogmdhofcab.form
