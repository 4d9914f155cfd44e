/- loanbookkeep.DriveOn, out of what the program's own drive.Play answers. -/
import Derived.Test.YtgnhpfmdbclnkaaGreatDoorCards
import Derived.Test.YtgnhpfmdbclnkaaGreatDoorTie
import Derived.ShutString
import Derived.ProofKit
import Derived.OpenShut
import Derived.JoinedCond
import Derived.Deep.DrawnRows
import Derived.Deep.DeepCutAuto
import Derived.Test.YtgnhpfmdbclnkaaGreatDoorW09

namespace Go.Proofs.YtgnhpfmdbclnkaaGreatDoor
set_option linter.unusedVariables false
namespace driveOn
open Go.ChangeShapes Go.WideShapes Go.ChangeAt Go.RowKit
open Go.ChangeMaps (open_string shut_string)
open form
set_option maxRecDepth 100000
attribute [local go_sem ↓] Go.wp_at_zero Go.wp_at_succ
attribute [local go_sem] str_size str_list ByteArray.toList_mk
theorem own : ownKnob Tryz.prog.godebug = none := by kernel_rfl
theorem laidOut : laidOutB Tryz.prog = true := by kernel_rfl
set_option maxHeartbeats 800000 in
theorem walk (L : Lay) (hD : DriveSpec L) (a b : List UInt8) (hl : a.length + b.length ≤ 1900000) (w : World) (hv : VarOk w) :
    Calls Tryz.prog 4 #[.string (str a), .string (str b)] w fun e w' => e = .returned (.bool true) ∧ Below w.heap.size w w' := by
  have HD : Hid (DriveSpec L) := hD
  have HV : Hid (VarOk w) := hv
  obtain ⟨t, ht⟩ := play_on L a b
  have e10 : (⟨#[10]⟩ : ByteArray) = str [10] := rfl
  have ha1 := fun w => run_add_str (P := Tryz.prog) w a [10] (by simp; omega)
  rw [← e10] at ha1
  obtain ⟨x, hx⟩ : ∃ x, x = a ++ [10] := ⟨_, rfl⟩
  have hxl : x.length ≤ 1900001 := by rw [hx]; simp; omega
  have hxb : x.length + b.length ≤ 1900001 := by rw [hx]; simp; omega
  rw [← hx] at ha1 ht
  have ha2 := fun w => run_add_str (P := Tryz.prog) w x b (by omega)
  have c1 := fun wx (hv : VarOk wx) => HD.out x wx (by omega) hv
  have c2 := fun wx (hv : VarOk wx) => HD.out (x ++ b) wx (by simp; omega) hv
  have c3 := fun wx (hv : VarOk wx) => HD.out sNo wx (by decide) hv
  obtain ⟨ps, hps⟩ : ∃ z, z = playL L x := ⟨_, rfl⟩
  obtain ⟨pt, hpt⟩ : ∃ z, z = playL L (x ++ b) := ⟨_, rfl⟩
  rw [← hps] at c1 ht
  rw [← hpt] at c2 ht
  rw [play_no] at c3
  have hle : (ps.length : Int) ≤ (pt.length : Int) := by rw [ht]; simp; omega
  have hcut : ∀ w, (Instr.slice 9 (.string (str pt)) none (some (.int .i64 (ps.length : Int))) none).run Tryz.prog w = .ok (.string (str ps)) w := fun w => by
    rw [run_slice_string_to_if w 9 (str pt) .i64 (ps.length : Int) Tryz.underlying9, if_pos ⟨by omega, by rw [str_size]; exact hle⟩, str_cut]
    simp [ht]
  have H1 : Hid (∀ wx, VarOk wx → Calls Tryz.prog 7 #[.string (str x)] wx fun e w' => e = .returned (.string (str ps)) ∧ Below wx.heap.size wx w') := c1
  have H2 : Hid (∀ wx, VarOk wx → Calls Tryz.prog 7 #[.string (str (x ++ b))] wx fun e w' => e = .returned (.string (str pt)) ∧ Below wx.heap.size wx w') := c2
  have H3 : Hid (∀ wx, VarOk wx → Calls Tryz.prog 7 #[.string ⟨#[63]⟩] wx fun e w' => e = .returned (.string (str [63, 10])) ∧ Below wx.heap.size wx w') := c3
  have eo : (str [63, 10]) = (⟨#[63, 10]⟩ : ByteArray) := rfl
  rw [eo] at H3
  clear hv hD ht c1 c2 c3 hps hpt e10 eo hx
  go_enter Tryz.func4, Tryz.ntmps4
  go_upto_region 3 with (go_at_call 7; refine (H1.out _ HV.out).mono ?_; rintro e w1 ⟨rfl, hb1⟩; have HB1 : Hid (Below w.heap.size w w1) := hb1; clear hb1)
  go_upto_region 4 with (go_at_call 7; refine (H2.out _ (HV.out.on HB1.out)).mono ?_; rintro e w2 ⟨rfl, hb2⟩; have HB2 : Hid (Below w.heap.size w w2) := step_below hb2 HB1.out; clear hb2)
  go_wp2_with (go_at_call 7; refine (H3.out _ (HV.out.on HB2.out)).mono ?_; rintro e w3 ⟨rfl, hb3⟩; have HB3 : Hid (Below w.heap.size w w3) := step_below hb3 HB2.out; clear hb3)
  go_ret
  exact ⟨rfl, HB3.out⟩
theorem short {H : Type} {a b : ByteArray} (hk : Rows.uptoSmall H [.lit (.string a.data.toList), .lit (.string b.data.toList)] = true) : a.data.toList.length + b.data.toList.length ≤ 1900000 := by
  have h : Rows.uptoBulkAll [DataW.lit (H := H) (.string a.data.toList), .lit (.string b.data.toList)] ≤ 1048576 := of_decide_eq_true hk
  simp only [Rows.uptoBulkAll, Rows.uptoBulk] at h
  omega
theorem contract (L : Lay) (hD : DriveSpec L) (H : Type) (enc : TypeId × Value → H) (W : World) (base : Nat) (args : Array Value) (ds gs : List (DataW H)) (before : List MemPlace)
    (hval0 : ∀ (j : Nat) t v, Tryz.f4.params[j]? = some t → args[j]? = some v → Value.okWide Tryz.prog W .any base t v)
    (hW : DataW.Whole enc Tryz.prog Tryz.f4.params.toList Rows.driveOnSpec.vars false W args.toList ds gs before) (hk : Rows.uptoSmall H (ds ++ gs) = true) (hL : laidMetH Tryz.prog Rows.driveOnRow.laid W) :
    Calls Tryz.prog 4 args W fun e W' => ∃ v, e = .returned v ∧ Rows.driveOnSpec.post enc Tryz.prog Tryz.f4 false true false false W args v W' := by
  have hval := hval0
  have hW' := hW
  obtain ⟨p, q, hA0, hV, rfl, hfz, hnd⟩ := hW
  have hA : DataW.TrodAll enc Tryz.prog W 0 (fun _ => true) true Tryz.f4.params.toList args.toList ds p := hA0
  rw [Tryz.params4] at hA hval
  obtain ⟨v0, vs0, d0, ds0, p0, q0, hargs, rfl, rfl, h0, r0⟩ := trodAll_cons hA
  obtain ⟨v1, vs1, d1, ds1, p1, q1, rfl, rfl, rfl, h1, r1⟩ := trodAll_cons r0
  obtain ⟨rfl, rfl, rfl⟩ := trodAll_nil r1
  obtain rfl : args = #[v0, v1] := by cases args; simp_all
  obtain ⟨rfl, rfl⟩ := trodVars_none hV
  have k0 := h0
  have k1 := h1
  have lt0 : ∀ x ∈ p0, x.block < W.heap.size := by obtain ⟨m, hm⟩ := k0; exact DataW.trod_lt m _ _ _ hm
  have lt1 : ∀ x ∈ p1, x.block < W.heap.size := by obtain ⟨m, hm⟩ := k1; exact DataW.trod_lt m _ _ _ hm
  obtain ⟨a, rfl, rfl, rfl, -⟩ := open_string Tryz.underlying9 (hval 0 9 v0 rfl rfl) h0
  obtain ⟨b, rfl, rfl, rfl, -⟩ := open_string Tryz.underlying9 (hval 1 9 v1 rfl rfl) h1
  have hlen := short (by simpa using hk)
  have ea : a = str a.data.toList := by cases a; simp [str]
  have eb : b = str b.data.toList := by cases b; simp [str]
  clear hA0 hval0
  have hwk := walk L hD a.data.toList b.data.toList hlen W (laid_var hL)
  rw [← ea, ← eb] at hwk
  refine hwk.mono fun e W' ⟨he, bel⟩ => ?_
  subst he
  exact ⟨_, rfl, _, _, _, [], _, [], hW', trodAll_mk1 (shut_bool Tryz.underlying4 _),
    (trodAll_cons_mk (Below.trod laidOut (by kernel_rfl) (of_decide_eq_true (by kernel_rfl)) k0 bel lt0) (trodAll_cons_mk (Below.trod laidOut (by kernel_rfl) (of_decide_eq_true (by kernel_rfl)) k1 bel lt1) trodAll_mk0)), rfl, bel.frame _, fun h => by cases h⟩
theorem reads (os : Os) {H : Type} (enc : TypeId × Value → H) : ∃ places, DataW.whole enc Tryz.prog ((laidWorld os).forCall (fun _ _ => 0) ⟨#[], #[.string .empty, .string .empty], []⟩).memory Tryz.f4.params.toList Rows.driveOnSpec.vars false #[Value.string .empty, Value.string .empty].toList 8 = some ([.lit (.string []), .lit (.string [])], [], places) :=
  ⟨[], by kernel_rfl⟩
theorem lifted (L : Lay) (hD : DriveSpec L) (os : Os) (started : os.Started) (H : Type) (enc : TypeId × Value → H) (F : Stop.Interp) :
    ReturnsInHanded {} Tryz.checked os 4 .any ((Rows.OpenSpec.upto Rows.driveOnSpec).preRow enc Tryz.prog Tryz.f4 Rows.driveOnUptoRow.domain false Rows.driveOnUptoRow.laid) (((Rows.OpenSpec.upto Rows.driveOnSpec).at F).post enc Tryz.prog Tryz.f4 false true false false) := by
  obtain ⟨places, hx⟩ := reads os enc
  refine returnsInHanded_of_row (C := Tryz.checked) (s := Rows.OpenSpec.upto Rows.driveOnSpec) own started (by kernel_rfl) Tryz.func4
    (witness_row_atRef (enc := enc) (C := Tryz.checked) false (laidWorld os) #[.string .empty, .string .empty] rfl (by kernel_rfl) (by kernel_rfl) (by kernel_rfl)
      (OpenSpec.preRow_of_cond 8 hx (by kernel_rfl) (fun k hk => by cases hk; kernel_rfl) (by kernel_rfl) (laidWorld_met os _))) ?_
  intro W base args ds gs before hval hW _ hcond _ hL _ _
  exact contract L hD H enc W base args ds gs before hval hW (hcond _ rfl) hL
theorem over (L : Lay) (hD : DriveSpec L) : Rows.DriveOnUptoSaid :=
  OpenClaim.holds_of_cond 4 Tryz.f4 rfl rfl rfl rfl rfl rfl rfl ⟨rfl, rfl, rfl, rfl, rfl⟩ rfl rfl rfl rfl rfl (by kernel_rfl) Tryz.func4 (by kernel_rfl)
    (of_decide_eq_true (by kernel_rfl)) (by unfold Func.isWrapper; first | (rw [if_pos (by decide +kernel)]; kernel_rfl) | (rw [if_neg (by decide +kernel)]; exact ⟨rfl, rfl⟩))
    (fun os started H enc _ F => by rw [OpenClaim.pre_eq_preRow]; exact lifted L hD os started H enc F)
theorem plain (f : FuncId) (fn : Func) (hf : Tryz.pinned.checked.prog.funcNamed "loanbook/loanbookkeep.DriveOn" = some f) (hfn : Tryz.pinned.checked.prog.funcs[f]? = some fn) :
    true = Tryz.pinned.checked.prog.looks [] ∧ ∀ (j : Nat) t, fn.params[j]? = some t → Tryz.pinned.checked.prog.wantsStandIn t = false := by
  obtain rfl : f = 4 := Option.some.inj ((show Tryz.prog.funcNamed "loanbook/loanbookkeep.DriveOn" = some 4 by kernel_rfl).symm.trans hf) |>.symm
  obtain rfl : fn = Tryz.f4 := (Option.some.inj (Tryz.func4.symm.trans hfn)).symm
  refine ⟨by kernel_rfl, fun j t ht => ?_⟩
  rw [Tryz.params4] at ht
  obtain rfl : t = 9 := by simpa using Array.mem_of_getElem? ht
  exact (show Tryz.prog.wantsStandIn 9 = false by kernel_rfl)
theorem card (L : Lay) (hD : DriveSpec L) : Rows.DriveOnUptoCardSaid :=
  Claim7.holds_tied_plain_at .later [] _ _ _ _ (over L hD) (fun _ h => by cases h) (by kernel_rfl) (fun _ h => by cases h) driveOnUpto_row_tie rfl ⟨rfl, rfl⟩ (by kernel_rfl) rfl plain (by kernel_rfl)
end driveOn
end Go.Proofs.YtgnhpfmdbclnkaaGreatDoor
