/- loanbookkeep.CodeBack, whatever is handed in, out of what the program's own code.Put and code.Get answer. -/
import Derived.Test.YtepfegfacdbhbabRows
import Derived.Test.YtepfegfacdbhbabPlaceOpen
import Derived.Test.YtepfegfacdbhbabCodeThereLift
import Derived.Test.YtepfegfacdbhbabCodePutAns
import Derived.Test.YtepfegfacdbhbabCodeAns
import Derived.Test.YtepfegfacdbhbabCodeRefSame
import Derived.ShutString
import Derived.ProofKit
import Derived.OpenShut
import Derived.JoinedCond
namespace Go.Proofs.Ytepfegfacdbhbab.codeBack
open Go.ChangeShapes Go.WideShapes Go.ChangeAt Go.RowKit
open Go.Proofs.Ytepfegfacdbhbab.form
set_option linter.unusedVariables false

theorem own : ownKnob Try.prog.godebug = none := by kernel_rfl
theorem laidOut : laidOutB Try.prog = true := by kernel_rfl

/-- What code.Put must answer. -/
def PutSpec : Prop := ∀ (lv : Value) (slots : Int) (R : List LRow) (w : World), PlacedIs w lv slots R → RowsOk R → Calls Try.prog 27 #[lv] w fun e w' => OwnPut w slots R e w'
/-- What code.Get must answer. -/
def GetSpec : Prop := ∀ (v : Value) (bs : List Int) (w : World), BytesIs w v bs → Calls Try.prog 31 #[v] w fun e w' => OwnGet w bs e w'

theorem u32_of {R : List LRow} (h : RowsOk R) : U32r R := by
  intro r hr
  obtain ⟨j, hj, rfl⟩ := List.getElem_of_mem hr
  have := h j hj
  rw [show R.getD j .zero = R[j] by simp [List.getD, hj]] at this
  exact ⟨fun m hm => moves_bd this.1 hm, fun m hm => moves_bd this.2 hm⟩
theorem bytes_take {w : World} {b9 o9 cap : Nat} {xs : List Int} (h : BytesIs w (.slice (some ⟨b9, o9, none⟩) xs.length cap) xs) {n : Nat} (hn : n ≤ xs.length) : BytesIs w (.slice (some ⟨b9, o9, none⟩) n cap) (xs.take n) := by
  obtain ⟨ao, c, e, h1, h2, h3, h4⟩ := h
  simp at e
  obtain ⟨rfl, rfl⟩ := e
  have hl : (xs.take n).length = n := by simp; omega
  have hg : ∀ j, j < n → (xs.take n).getD j 0 = xs.getD j 0 := fun j hj => by simp [List.getD, hj]
  refine ⟨_, _, by rw [hl], by omega, by omega, fun j hj => ?_, fun h0 => ?_⟩
  · rw [hl] at hj; rw [hg j hj]; exact h3 j (by omega)
  · obtain ⟨b, o, e1, e2, e3⟩ := h4 (by omega)
    refine ⟨b, o, e1, e2, fun j hj => ?_⟩
    rw [hl] at hj; rw [hg j hj]; exact e3 j (by omega)

set_option maxRecDepth 100000 in
set_option maxHeartbeats 1000000 in
theorem walk (putO : PutSpec) (getO : GetSpec) (lv : Value) (slots : Int) (R : List LRow) (n : Int) (w : World) (hl : PlacedIs w lv slots R) (hn : RowsOk R) (hn0 : 0 ≤ n) (hn1 : n < 65536) :
    Calls Try.prog 9 #[lv, .int .u16 n] w fun e w' => e = .returned (.bool true) ∧ Below w.heap.size w w' := by
  have HPUT : Hid PutSpec := putO
  have HGET : Hid GetSpec := getO
  have HL : Hid (PlacedIs w lv slots R) := hl
  have HN : Hid (RowsOk R) := hn
  have HU : Hid (U32r R) := u32_of hn
  obtain ⟨ao, cap, rfl, -, -⟩ := hl
  obtain ⟨xs, hxs⟩ : ∃ xs, xs = putB slots R := ⟨_, rfl⟩
  have HXS : Hid (xs = putB slots R) := hxs
  have hpos : 0 < xs.length := by rw [hxs]; simp [putB]
  have z1 : (0 : Int) < (xs.length : Int) := by omega
  have HW : Hid (∀ o1 : Obj, Below w.heap.size w (w.alloc o1)) := fun o1 => (Below.refl _ _).alloc (Nat.le_refl _) _
  clear hn hxs putO getO
  go_enter Try.func9, Try.ntmps9
  go_wp2_with fail
  go_at_call 27
  refine (HPUT.out _ slots R _ (HL.out.later (HW.out _)) HN.out).mono ?_
  rintro e w1 ⟨hb1, bv, er, rfl, hans⟩
  rw [← HXS.out] at hans
  have x0 : w1.cell? ⟨w.heap.size, 0, none⟩ = some (.int .i64 slots) := step_cell hb1 (by simp [go_sem])
  have x1 : w1.cell? ⟨w.heap.size, 1, none⟩ = some (.slice ao R.length cap) := step_cell hb1 (by simp [go_sem])
  have hz1 : w.heap.size < w1.heap.size := by have := hb1.size; simp at this; omega
  have HB1 : Hid (Below w.heap.size w w1) := over_alloc hb1
  clear hb1
  rcases hans with ⟨hsm, rfl, hby⟩ | ⟨hsm, rfl, hby⟩
  case inr =>
    obtain ⟨bo, bc, rfl, -, -, -, -⟩ := hby
    clear hsm
    go_wp2
    go_ret
    exact ⟨rfl, HB1.out⟩
  have HSM : Hid (smallB xs = true) := hsm
  have hxl : xs.length ≤ 1099511627776 := by have h9 := codeThere.put_short (by rw [← HXS.out]; exact hsm); rw [HXS.out]; exact h9
  have z0 : (xs.length : Int) ≤ 1099511627776 := by omega
  clear hxl
  have HBY : Hid (BytesIs w1 bv xs) := hby
  obtain ⟨bo, bc, rfl, hbc0, -, -, hbc⟩ := hby
  obtain ⟨b9, o9, rfl, -, hcells⟩ := hbc hpos
  have HCL : Hid (∀ j, j < xs.length → w1.cell? ⟨b9, o9 + j, none⟩ = some (.int .u8 (xs.getD j 0))) := hcells
  have HGP : Hid (getB xs = some (slots, R)) := by show getB xs = _; rw [HXS.out]; exact get_put slots R HU.out
  clear hsm hbc hcells
  go_wp2_with fail
  go_at_call 31
  refine (HGET.out _ xs _ HBY.out).mono ?_
  rintro e w2 ⟨hb2, lv2, er2, slots2, R2, rfl, hl2, hg2⟩
  obtain ⟨rfl, rfl, rfl⟩ := getIs_one hg2 (Or.inr ⟨HGP.out, rfl⟩)
  have HL2 : Hid (PlacedIs w2 lv2 slots2 R2) := hl2
  obtain ⟨lo2, lc2, rfl, -, -⟩ := hl2
  have x0 := step_cell hb2 x0
  have x1 := step_cell hb2 x1
  have HB2 : Hid (Below w1.heap.size w1 w2) := hb2
  have hz2 : w.heap.size < w2.heap.size := Nat.lt_of_lt_of_le hz1 hb2.size
  have HA2 : Hid (∀ o1 : Obj, Below w2.heap.size w2 (w2.alloc o1)) := fun o1 => (Below.refl _ _).alloc (Nat.le_refl _) _
  clear hb2 hg2
  go_wp2_with fail
  go_at_call 27
  refine (HPUT.out _ slots2 R2 _ (HL2.out.later (HA2.out _)) HN.out).mono ?_
  rintro e w3 ⟨hb3, cv, er3, rfl, hans3⟩
  rw [← HXS.out] at hans3
  rcases hans3 with ⟨-, rfl, hby3⟩ | ⟨hsm3, -, -⟩
  case inr => rw [HSM.out] at hsm3; exact absurd hsm3 (by simp)
  obtain ⟨co, cc, rfl, -, -, -, hcc⟩ := hby3
  obtain ⟨b8, o8, rfl, -, hcells3⟩ := hcc hpos
  have HCL3 : Hid (∀ j, j < xs.length → w3.cell? ⟨b8, o8 + j, none⟩ = some (.int .u8 (xs.getD j 0))) := hcells3
  have l0 : w3.cell? ⟨w2.heap.size, 0, none⟩ = some (.int .i64 slots2) := step_cell hb3 (by simp [go_sem])
  have l1 : w3.cell? ⟨w2.heap.size, 1, none⟩ = some (.slice lo2 R2.length lc2) := step_cell hb3 (by simp [go_sem])
  have x0 := step_cell hb3 (step_cell (HA2.out _) x0)
  have x1 := step_cell hb3 (step_cell (HA2.out _) x1)
  have HB3 : Hid (Below w2.heap.size w2 w3) := step_below hb3 (HA2.out _)
  have hz3 : w2.heap.size < w3.heap.size := by have := hb3.size; simp at this; omega
  have q3 : w.heap.size < w3.heap.size := by omega
  clear hb3 hcc hcells3
  have HEND : Hid (∀ wz : World, Below w3.heap.size w3 wz → (convert 61 9 (.slice (some ⟨b9, o9, none⟩) xs.length bc)).run Try.prog wz = .ok (.string (strOfNums xs)) wz ∧ (convert 61 9 (.slice (some ⟨b8, o8, none⟩) xs.length cc)).run Try.prog wz = .ok (.string (strOfNums xs)) wz) := fun wz hb =>
    ⟨run_convert_bytes_arg (P := Try.prog) wz 61 5 Try.underlying61 Try.underlying5 b9 o9 xs.length bc xs rfl (fun i hi => step_cell hb (step_cell (step_below HB3.out HB2.out) (HCL.out i hi))) 9 Try.underlying9,
     run_convert_bytes_arg (P := Try.prog) wz 61 5 Try.underlying61 Try.underlying5 b8 o8 xs.length cc xs rfl (fun i hi => step_cell hb (HCL3.out i hi)) 9 Try.underlying9⟩
  by_cases hcut : n < (xs.length : Int)
  · obtain ⟨k, rfl⟩ : ∃ k : Nat, n = k := Int.eq_ofNat_of_zero_le hn0
    have HCUT : Hid (getB (xs.take k) = none) := by
      show getB (xs.take k) = none
      rw [HXS.out]
      exact get_short HU.out (by rw [← HXS.out]; exact HSM.out) (by rw [← HXS.out]; omega)
    have hkl : k ≤ xs.length := by omega
    have HKL : Hid (k ≤ xs.length) := hkl
    have y3 : (k : Int) ≤ (bc : Int) := by omega
    clear hkl
    go_wp2_with fail
    go_at_call 31
    refine (HGET.out _ (xs.take k) _ ((bytes_take HBY.out HKL.out).later (step_below HB3.out HB2.out))).mono ?_
    rintro e w4 ⟨hb4, lv4, er4, slots4, R4, rfl, hl4, hg4⟩
    have her : er4 = 2 := by
      rcases hg4 with ⟨-, h, -, -⟩ | ⟨h, -⟩
      · exact h
      · rw [HCUT.out] at h; exact absurd h (by simp)
    subst her
    obtain ⟨lo4, lc4, rfl, -, -⟩ := hl4
    have l0 := step_cell hb4 l0
    have l1 := step_cell hb4 l1
    have x0 := step_cell hb4 x0
    have x1 := step_cell hb4 x1
    have HB4 : Hid (Below w3.heap.size w3 w4) := hb4
    have hz4 : w2.heap.size < w4.heap.size := Nat.lt_of_lt_of_le hz3 hb4.size
    have q4 : w.heap.size < w4.heap.size := by omega
    have HA4 : Hid (∀ o1 : Obj, Below w4.heap.size w4 (w4.alloc o1)) := fun o1 => (Below.refl _ _).alloc (Nat.le_refl _) _
    obtain ⟨v1, v2⟩ := HEND.out _ (step_below (HA4.out (.cells #[.int .i64 slots4, .slice lo4 R4.length lc4] 42)) HB4.out)
    clear hb4 hg4
    go_wp2_with (go_at_call 18; refine (same11 _ _ slots2 R2 _ (HL.out.later (step_below (HA4.out _) (step_below HB4.out (step_below HB3.out (step_below HB2.out HB1.out))))) (HL2.out.later (step_below (HA4.out _) (step_below HB4.out HB3.out)))).mono ?_; rintro e w5 ⟨rfl, hb5⟩)
    go_ret
    exact ⟨rfl, step_below hb5 (step_below (HA4.out _) (step_below HB4.out (step_below HB3.out (step_below HB2.out HB1.out))))⟩
  · obtain ⟨v1, v2⟩ := HEND.out _ (Below.refl _ _)
    go_wp2_with (go_at_call 18; refine (same11 _ _ slots2 R2 _ (HL.out.later (step_below HB3.out (step_below HB2.out HB1.out))) (HL2.out.later HB3.out)).mono ?_; rintro e w5 ⟨rfl, hb5⟩)
    go_ret
    exact ⟨rfl, step_below hb5 (step_below HB3.out (step_below HB2.out HB1.out))⟩

set_option maxRecDepth 100000 in
theorem lifted (putO : PutSpec) (getO : GetSpec) (os : Os) (started : os.Started) (H : Type) (enc : TypeId × Value → H) :
    ReturnsInHanded {} Try.checked os 9 .any (Rows.codeBackSpec.pre6 enc Try.prog Try.f9 Rows.codeBackRow.domain false) (Rows.codeBackSpec.post enc Try.prog Try.f9 false true false false) := by
  refine returnsInHanded_of_change (C := Try.checked) own started (by kernel_rfl) Try.func9
    (ChangeSpec.witness6 (enc := enc) (C := Try.checked) false ⟨#[], #[.agg #[.int .i64 0, .slice none 0 0], .int .u16 0], []⟩ 8 (by kernel_rfl) (by kernel_rfl) (by kernel_rfl) (by kernel_rfl)) ?_
  intro W base args ds gs before hval0 hW hcnd _
  have hval : ∀ (j : Nat) t v, Try.f9.params[j]? = some t → args[j]? = some v → Value.okWide Try.prog W .any base t v := hval0
  have hW' := hW
  obtain ⟨p, q, hA0, hV, rfl, hfz, hnd⟩ := hW
  have hA : DataW.TrodAll enc Try.prog W 0 (fun _ => true) true Try.f9.params.toList args.toList ds p := hA0
  rw [Try.params9] at hA hval
  obtain ⟨v0, vs0, d0, ds0, p0, q0, hargs, rfl, rfl, h0, r0⟩ := trodAll_cons hA
  obtain ⟨v1, vs1, d1, ds1, p1, q1, rfl, rfl, rfl, h1, r1⟩ := trodAll_cons r0
  obtain ⟨rfl, rfl, rfl⟩ := trodAll_nil r1
  obtain rfl : args = #[v0, v1] := by cases args; simp_all
  obtain ⟨rfl, rfl⟩ := trodVars_none hV
  have k0 := h0
  have k1 := h1
  have lt0 : ∀ x ∈ p0, x.block < W.heap.size := by obtain ⟨m, hm⟩ := k0; exact DataW.trod_lt m _ _ _ hm
  have lt1 : ∀ x ∈ p1, x.block < W.heap.size := by obtain ⟨m, hm⟩ := k1; exact DataW.trod_lt m _ _ _ hm
  obtain ⟨slots, R, hL, hR, -, -⟩ := placed_is (hval 0 42 v0 rfl rfl) h0
  obtain ⟨n, rfl, -, -, wn⟩ := open_int Try.underlying71 (hval 1 71 v1 rfl rfl) h1
  have wb : 0 ≤ n ∧ n < 65536 := by
    have := bounds_u16 wn
    omega
  clear hA0 hval0
  refine (walk putO getO v0 slots R n W hL hR wb.1 wb.2).mono fun e W' ⟨he, bel⟩ => ?_
  subst he
  exact ⟨_, rfl, _, _, _, [], _, [], hW', trodAll_mk1 (shut_bool Try.underlying4 _),
    (trodAll_cons_mk (Below.trod laidOut (by kernel_rfl) (of_decide_eq_true (by kernel_rfl)) k0 bel lt0) (trodAll_cons_mk (Below.trod laidOut (by kernel_rfl) (of_decide_eq_true (by kernel_rfl)) k1 bel lt1) trodAll_mk0)), rfl, bel.frame _, fun h => by cases h⟩

theorem over (putO : PutSpec) (getO : GetSpec) : Rows.codeBackRow.holds Try.pinned (OpenSpec.ofChange Rows.codeBackSpec) :=
  OpenClaim.holds_of_wide 9 Try.f9 rfl rfl rfl rfl rfl rfl rfl ⟨rfl, rfl, rfl, rfl, rfl⟩ rfl rfl rfl rfl rfl (by kernel_rfl) Try.func9 (by kernel_rfl)
    (of_decide_eq_true (by kernel_rfl)) (by unfold Func.isWrapper; first | (rw [if_pos (by decide +kernel)]; kernel_rfl) | (rw [if_neg (by decide +kernel)]; exact ⟨rfl, rfl⟩))
    (fun os started H enc _ => lifted putO getO os started H enc)

end Go.Proofs.Ytepfegfacdbhbab.codeBack
