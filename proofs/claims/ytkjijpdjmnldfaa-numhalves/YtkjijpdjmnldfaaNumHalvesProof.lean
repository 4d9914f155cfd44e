/- For every two numbers of 64 bits the lower half of their sum, difference, product and bitwise ones is that of the lower halves, and of the bitwise ones the upper half, too. No condition. -/
import Derived.Test.YtkjijpdjmnldfaaRows
import Derived.WalkKit
import Derived.ProofKit
import Derived.OpenShut
import Derived.ShutString
import Derived.Test.YtkjijpdjmnldfaaNumWalks
namespace Go.Proofs.Ytkjijpdjmnldfaa.numHalves
open Go.ChangeShapes Go.WideShapes Go.ChangeAt Go.RowKit
open Go.ChangeMaps (open_string shut_string)
set_option linter.unusedVariables false

theorem half (a : Int) (h0 : 0 ≤ a) (h : a < 18446744073709551616) : IntKind.u64.wrap (a.tdiv 4294967296) = a / 4294967296 := by
  rw [IntKind.wrap_u64, Int.tdiv_eq_ediv_of_nonneg h0]
  omega
theorem half_low (a : Int) (h0 : 0 ≤ a) (h : a < 18446744073709551616) : a / 4294967296 % 4294967296 = a / 4294967296 := by
  omega

theorem own : ownKnob Try.prog.godebug = none := by kernel_rfl

theorem walk (a0 : Int) (a1 : Int) (w0 : (Lit.int .u64 a0).wf = true) (w1 : (Lit.int .u64 a1).wf = true) (w : World) :
    Calls Try.prog 4 #[.int .u64 a0, .int .u64 a1] w fun e w' => e = .returned (.bool true) ∧ Grown w w' := by
  obtain ⟨l0, u0⟩ := bounds_u64 w0
  obtain ⟨l1, u1⟩ := bounds_u64 w1
  have H0 : Hid (a0 < 18446744073709551616) := by show a0 < _; omega
  have H1 : Hid (a1 < 18446744073709551616) := by show a1 < _; omega
  clear u0 u1 w0 w1
  go_enter Try.func4, Try.ntmps4
  go_wp2
  go_loop [5] (fun s => ∃ op : Int, 1 ≤ op ∧ op ≤ 6 ∧ s = .int .i64 op) (fun s => (6 - intOf s).toNat)
  case atStart => exact ⟨1, by omega, by omega, rfl⟩
  case round =>
    obtain ⟨op, h1, h6, rfl⟩ := hrel
    have q0 : IntKind.u64.wrap (a0.tdiv 4294967296) = a0 / 4294967296 := half a0 l0 H0.out
    have q1 : IntKind.u64.wrap (a1.tdiv 4294967296) = a1 / 4294967296 := half a1 l1 H1.out
    have r0 : a0 / 4294967296 % 4294967296 = a0 / 4294967296 := half_low a0 l0 H0.out
    have r1 : a1 / 4294967296 % 4294967296 = a1 / 4294967296 := half_low a1 l1 H1.out
    by_cases h5 : op ≤ 5
    · have hlo := num.opR_low op a0 a1 h1 h5 l0 H0.out l1 H1.out
      have hnn := (num.opR_u64_bd op a0 a1 l0 H0.out l1 H1.out).1
      by_cases h4 : 4 ≤ op
      · have hhi := num.opR_high op a0 a1 h4 h5 l0 H0.out l1 H1.out
        have hwh := half (num.opR .u64 op a0 a1) hnn (num.opR_u64_bd op a0 a1 l0 H0.out l1 H1.out).2
        rw [hhi] at hwh
        have hlow := half_low (num.opR .u64 op a0 a1) hnn (num.opR_u64_bd op a0 a1 l0 H0.out l1 H1.out).2
        rw [hhi] at hlow
        go_wp2_with (first | (go_at_call 6; refine (num.narrow _ _ _ _).mono ?_; rintro e w' ⟨rfl, rfl⟩) | (go_at_call 7; refine (num.wide _ _ _ _).mono ?_; rintro e w' ⟨rfl, rfl⟩))
        exact ⟨⟨op + 1, by omega, by omega, rfl⟩, by simp [intOf]; omega⟩
      · go_wp2_with (first | (go_at_call 6; refine (num.narrow _ _ _ _).mono ?_; rintro e w' ⟨rfl, rfl⟩) | (go_at_call 7; refine (num.wide _ _ _ _).mono ?_; rintro e w' ⟨rfl, rfl⟩))
        exact ⟨⟨op + 1, by omega, by omega, rfl⟩, by simp [intOf]; omega⟩
    · have k1 : num.opR .u64 1 1 1 = 2 := by decide
      have k2 : num.opR .u32 6 1 2 = 1 := by decide
      go_wp2_with (first | (go_at_call 6; refine (num.narrow _ _ _ _).mono ?_; rintro e w' ⟨rfl, rfl⟩) | (go_at_call 7; refine (num.wide _ _ _ _).mono ?_; rintro e w' ⟨rfl, rfl⟩))
      go_ret
      exact ⟨by simp, Grown.refl _⟩

set_option maxRecDepth 100000 in
theorem lifted (os : Os) (started : os.Started) (H : Type) (enc : TypeId × Value → H) :
    ReturnsInHanded {} Try.checked os 4 .any (Rows.numHalvesSpec.pre6 enc Try.prog Try.f4 Rows.numHalvesRow.domain false) (Rows.numHalvesSpec.post enc Try.prog Try.f4 false true false false) := by
  refine returnsInHanded_of_change (C := Try.checked) own started (by kernel_rfl) Try.func4
    (ChangeSpec.witness6 (enc := enc) (C := Try.checked) false ⟨#[], #[.int .u64 0, .int .u64 0], []⟩ 8 (by kernel_rfl) (by kernel_rfl) (by kernel_rfl) (by kernel_rfl)) ?_
  intro W base args ds gs before hval0 hW hcnd _
  have hval : ∀ (j : Nat) t v, Try.f4.params[j]? = some t → args[j]? = some v → Value.okWide Try.prog W .any base t v := hval0
  have hW' := hW
  obtain ⟨p, q, hA0, hV, rfl, hfz, hnd⟩ := hW
  have hA : DataW.TrodAll enc Try.prog W 0 (fun _ => true) true Try.f4.params.toList args.toList ds p := hA0
  rw [Try.params4] at hA hval
  obtain ⟨v0, vs0, d0, ds0, p0, q0, hargs, rfl, rfl, h0, r0⟩ := trodAll_cons hA
  obtain ⟨v1, vs1, d1, ds1, p1, q1, rfl, rfl, rfl, h1, r1⟩ := trodAll_cons r0
  obtain ⟨rfl, rfl, rfl⟩ := trodAll_nil r1
  obtain rfl : args = #[v0, v1] := by cases args; simp_all
  obtain ⟨rfl, rfl⟩ := trodVars_none hV
  obtain ⟨a0, rfl, rfl, rfl, w0⟩ := open_int Try.underlying22 (hval 0 22 v0 rfl rfl) h0
  obtain ⟨a1, rfl, rfl, rfl, w1⟩ := open_int Try.underlying22 (hval 1 22 v1 rfl rfl) h1
  clear hA0 hval0
  simp only [List.append_nil] at hW'
  refine (walk a0 a1 w0 w1 W).mono fun e W' ⟨he, hg⟩ => ?_
  subst he
  exact ⟨_, rfl, post_of_same (pa := []) (pv := []) hW' (fun _ _ _ => (trodAll_cons_mk (shut_bool Try.underlying4 _) trodAll_mk0)) (fun sp _ => (trodAll_cons_mk (shut_int Try.underlying22 w0) (trodAll_cons_mk (shut_int Try.underlying22 w1) trodAll_mk0))) (fun _ _ => rfl) rfl
    (hg.frame _) hg.2.1 (ok_one (by kernel_rfl) rfl (okWide_bool_mk Try.underlying4 _))⟩

theorem over : Rows.numHalvesRow.holds Try.pinned (OpenSpec.ofChange Rows.numHalvesSpec) :=
  OpenClaim.holds_of_wide 4 Try.f4 rfl rfl rfl rfl rfl rfl rfl ⟨rfl, rfl, rfl, rfl, rfl⟩ rfl rfl rfl rfl rfl (by kernel_rfl) Try.func4 (by kernel_rfl)
    (of_decide_eq_true (by kernel_rfl)) (by unfold Func.isWrapper; first | (rw [if_pos (by decide +kernel)]; kernel_rfl) | (rw [if_neg (by decide +kernel)]; exact ⟨rfl, rfl⟩))
    (fun os started H enc _ => lifted os started H enc)

theorem proved : Rows.NumHalvesSaid :=
  over
end Go.Proofs.Ytkjijpdjmnldfaa.numHalves
namespace Go.Proofs.Ytkjijpdjmnldfaa
theorem numHalves_holds : Rows.NumHalvesSaid := numHalves.proved
#print axioms numHalves_holds
end Go.Proofs.Ytkjijpdjmnldfaa
