/- For every bytes what the program tells of which places they are, or that they are none, is what the document's chapter on bytes says. No condition. -/
import Derived.Test.YtepfegfacdbhbabCodeOpen
import Derived.Test.YtepfegfacdbhbabCodeGetOwn
import Derived.Test.YtepfegfacdbhbabCodeRefSame
import Derived.ShutString
namespace Go.Proofs.Ytepfegfacdbhbab.codeGets
open Go.ChangeShapes Go.WideShapes Go.ChangeAt Go.RowKit
open Go.Proofs.Ytepfegfacdbhbab.form
set_option linter.unusedVariables false

theorem own : ownKnob Try.prog.godebug = none := by kernel_rfl
theorem laidOut : laidOutB Try.prog = true := by kernel_rfl

set_option maxRecDepth 100000 in
theorem walk (v : Value) (bs : List Int) (w : World) (h : BytesIs w v bs) :
    Calls Try.prog 8 #[v] w fun e w' => e = .returned (.bool true) ∧ Below w.heap.size w w' := by
  have HB : Hid (BytesIs w v bs) := h
  obtain ⟨ao, cap, rfl, -, -, -, -⟩ := h
  go_enter Try.func8, Try.ntmps8
  go_wp2_with fail
  go_at_call 31
  refine (getO _ bs _ HB.out).mono ?_
  rintro e w1 ⟨hb1, lv, er, slots, R, rfl, hl, hg⟩
  have HL1 : Hid (PlacedIs w1 lv slots R) := hl
  have HG1 : Hid (GetIs bs er slots R) := hg
  obtain ⟨lo, lc, rfl, -, -⟩ := hl
  have HB1 : Hid (Below w.heap.size w w1) := hb1
  clear hg hb1
  have HA1 : Hid (Below w1.heap.size w1 (w1.alloc (.cells #[.int .i64 slots, .slice lo R.length lc] 42))) := (Below.refl _ _).alloc (Nat.le_refl _) _
  go_wp2_with fail
  go_at_call 32
  refine (get_ans _ bs _ (HB.out.later (step_below HA1.out HB1.out))).mono ?_
  rintro e w2 ⟨hb2, lv2, er2, slots2, R2, rfl, hl2, hg2⟩
  obtain ⟨rfl, rfl, rfl⟩ := getIs_one HG1.out hg2
  have HL2 : Hid (PlacedIs w2 lv2 slots R) := hl2
  obtain ⟨lo2, lc2, rfl, -, -⟩ := hl2
  have x0 : w2.cell? ⟨w1.heap.size, 0, none⟩ = some (.int .i64 slots) := step_cell hb2 (by simp [go_sem])
  have x1 : w2.cell? ⟨w1.heap.size, 1, none⟩ = some (.slice lo R.length lc) := step_cell hb2 (by simp [go_sem])
  have hz2 : w1.heap.size < w2.heap.size := by have := hb2.size; simp at this; omega
  have HB2 : Hid (Below w1.heap.size w1 w2) := step_below hb2 HA1.out
  clear hb2 hg2
  have HA2 : Hid (Below w2.heap.size w2 (w2.alloc (.cells #[.int .i64 slots, .slice lo2 R.length lc2] 42))) := (Below.refl _ _).alloc (Nat.le_refl _) _
  go_wp2_with (go_at_call 18; refine (same11 _ _ slots R _ (HL1.out.later (step_below HA2.out HB2.out)) (HL2.out.later HA2.out)).mono ?_; rintro e w3 ⟨rfl, hb3⟩)
  go_ret
  exact ⟨rfl, step_below hb3 (step_below HA2.out (step_below HB2.out HB1.out))⟩

set_option maxRecDepth 100000 in
theorem lifted (os : Os) (started : os.Started) (H : Type) (enc : TypeId × Value → H) :
    ReturnsInHanded {} Try.checked os 8 .any (Rows.codeGetsSpec.pre6 enc Try.prog Try.f8 Rows.codeGetsRow.domain false) (Rows.codeGetsSpec.post enc Try.prog Try.f8 false true false false) := by
  refine returnsInHanded_of_change (C := Try.checked) own started (by kernel_rfl) Try.func8
    (ChangeSpec.witness6 (enc := enc) (C := Try.checked) false ⟨#[], #[.slice none 0 0], []⟩ 8 (by kernel_rfl) (by kernel_rfl) (by kernel_rfl) (by kernel_rfl)) ?_
  intro W base args ds gs before hval0 hW hcnd _
  have hval : ∀ (j : Nat) t v, Try.f8.params[j]? = some t → args[j]? = some v → Value.okWide Try.prog W .any base t v := hval0
  have hW' := hW
  obtain ⟨p, q, hA0, hV, rfl, hfz, hnd⟩ := hW
  have hA : DataW.TrodAll enc Try.prog W 0 (fun _ => true) true Try.f8.params.toList args.toList ds p := hA0
  rw [Try.params8] at hA hval
  obtain ⟨v0, vs0, d0, ds0, p0, q0, hargs, rfl, rfl, h0, r0⟩ := trodAll_cons hA
  obtain ⟨rfl, rfl, rfl⟩ := trodAll_nil r0
  obtain rfl : args = #[v0] := by cases args; simp_all
  obtain ⟨rfl, rfl⟩ := trodVars_none hV
  have k0 := h0
  have lt0 : ∀ x ∈ p0, x.block < W.heap.size := by obtain ⟨m, hm⟩ := k0; exact DataW.trod_lt m _ _ _ hm
  obtain ⟨bs, hB⟩ := bytes_is (hval 0 61 v0 rfl rfl) h0
  clear hA0 hval0
  refine (walk v0 bs W hB).mono fun e W' ⟨he, bel⟩ => ?_
  subst he
  exact ⟨_, rfl, _, _, _, [], _, [], hW', trodAll_mk1 (shut_bool Try.underlying4 _),
    (trodAll_cons_mk (Below.trod laidOut (by kernel_rfl) (of_decide_eq_true (by kernel_rfl)) k0 bel lt0) trodAll_mk0), rfl, bel.frame _, fun h => by cases h⟩

theorem over : Rows.codeGetsRow.holds Try.pinned (OpenSpec.ofChange Rows.codeGetsSpec) :=
  OpenClaim.holds_of_wide 8 Try.f8 rfl rfl rfl rfl rfl rfl rfl ⟨rfl, rfl, rfl, rfl, rfl⟩ rfl rfl rfl rfl rfl (by kernel_rfl) Try.func8 (by kernel_rfl)
    (of_decide_eq_true (by kernel_rfl)) (by unfold Func.isWrapper; first | (rw [if_pos (by decide +kernel)]; kernel_rfl) | (rw [if_neg (by decide +kernel)]; exact ⟨rfl, rfl⟩))
    (fun os started H enc _ => lifted os started H enc)

end Go.Proofs.Ytepfegfacdbhbab.codeGets
namespace Go.Proofs.Ytepfegfacdbhbab
theorem codeGets_holds : Rows.CodeGetsSaid := codeGets.over
#print axioms codeGets_holds
end Go.Proofs.Ytepfegfacdbhbab
