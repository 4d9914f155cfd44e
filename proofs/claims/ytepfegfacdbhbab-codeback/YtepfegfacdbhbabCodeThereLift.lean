/- loanbookkeep.CodeThere, out of what the program's own code.Put and code.Get answer. -/
import Derived.Test.YtepfegfacdbhbabRows
import Derived.Test.YtepfegfacdbhbabCodeOpen
import Derived.Test.YtepfegfacdbhbabCodePutAns
import Derived.Test.YtepfegfacdbhbabCodeAns
import Derived.Test.YtepfegfacdbhbabCodeRefSame
import Derived.ShutString
namespace Go.Proofs.Ytepfegfacdbhbab.codeThere
open Go.ChangeShapes Go.WideShapes Go.ChangeAt Go.RowKit
open Go.Proofs.Ytepfegfacdbhbab.form
set_option linter.unusedVariables false

theorem own : ownKnob Try.prog.godebug = none := by kernel_rfl
theorem laidOut : laidOutB Try.prog = true := by kernel_rfl

/-- What code.Put must answer. -/
def PutSpec : Prop := ∀ (lv : Value) (slots : Int) (R : List LRow) (w : World), PlacedIs w lv slots R → RowsOk R → (putB slots R).length ≤ 1099511627776 → Calls Try.prog 27 #[lv] w fun e w' => OwnPut w slots R e w'
/-- What code.Get must answer. -/
def GetSpec : Prop := ∀ (v : Value) (bs : List Int) (w : World), BytesIs w v bs → Calls Try.prog 31 #[v] w fun e w' => OwnGet w bs e w'

theorem mem_getD {l : List LMove} {k : Nat} (hk : k < l.length) : l.getD k .zero ∈ l := by simp [List.getD, hk]
theorem rows_of {R : List LRow} (h : U32r R) : RowsOk R := by
  intro r hr
  have hm : R.getD r .zero ∈ R := by simp [List.getD, hr]
  obtain ⟨h1, h2⟩ := h _ hm
  exact ⟨fun k hk => h1 _ (mem_getD hk), fun k hk => h2 _ (mem_getD hk)⟩
theorem moves_small {l : List LMove} (h : smallB (putMoves l) = true) : (putMoves l).length ≤ 2296 := by
  unfold putMoves at h
  rw [small_cons] at h
  rw [putMoves_len]
  omega
theorem rows_small : ∀ {R : List LRow}, smallB (putRows R) = true → (putRows R).length ≤ 4598 * R.length
  | [], _ => by simp [putRows]
  | r :: R, h => by
    have e : putRows (r :: R) = putRow r ++ putRows R := rfl
    rw [e, small_append] at h
    have ih := rows_small h.2
    have h1 := h.1
    unfold putRow at h1
    rw [small_append, small_append] at h1
    have m1 := moves_small h1.2.1
    have m2 := moves_small h1.2.2
    rw [e, List.length_append, List.length_cons]
    have : (putRow r).length ≤ 4598 := by
      unfold putRow
      rw [List.length_append, List.length_append]
      simp only [List.length_cons, List.length_nil]
      omega
    omega
theorem put_short {slots : Int} {R : List LRow} (h : smallB (putB slots R) = true) : (putB slots R).length ≤ 1099511627776 := by
  unfold putB at h ⊢
  simp only [small_cons] at h
  have := rows_small h.2.2
  simp only [List.length_cons]
  omega
theorem small_of {bs : List Int} (h : ∀ j, j < bs.length → 0 ≤ bs.getD j 0 ∧ bs.getD j 0 ≤ 255) : smallB bs = true := by
  unfold smallB
  rw [List.all_eq_true]
  intro x hx
  obtain ⟨j, hj, rfl⟩ := List.getElem_of_mem hx
  have := h j hj
  rw [show bs.getD j 0 = bs[j] by simp [List.getD, hj]] at this
  simpa using this
theorem zero_placed (w : World) : PlacedIs w (.agg #[.int .i64 0, .slice none 0 0]) 0 [] := ⟨none, 0, rfl, by simp, fun hh => absurd hh (by simp)⟩

set_option maxRecDepth 100000 in
set_option maxHeartbeats 1000000 in
theorem walk (putO : PutSpec) (getO : GetSpec) (v : Value) (bs : List Int) (w : World) (h : BytesIs w v bs) :
    Calls Try.prog 10 #[v] w fun e w' => e = .returned (.bool true) ∧ Below w.heap.size w w' := by
  have HPUT : Hid PutSpec := putO
  have HGET : Hid GetSpec := getO
  have HBY : Hid (BytesIs w v bs) := h
  obtain ⟨ao, cap, rfl, -, hl63, hbd, hbc⟩ := h
  have HSM : Hid (smallB bs = true) := small_of hbd
  have HBC : Hid _ := hbc
  have hzz : smallB (putB 0 []) = true := by decide
  have HZZ : Hid (smallB (putB 0 []) = true) := hzz
  clear putO getO hbd hbc hzz
  go_enter Try.func10, Try.ntmps10
  go_wp2_with fail
  go_at_call 27
  refine (HPUT.out _ 0 [] _ (zero_placed _) (fun r hr => absurd hr (by simp)) (by simp [putB, putRows])).mono ?_
  rintro e w1 ⟨hb1, ov, er, rfl, hans⟩
  rcases hans with ⟨-, rfl, hby1⟩ | ⟨hsm1, -, -⟩
  case inr => rw [HZZ.out] at hsm1; exact absurd hsm1 (by simp)
  obtain ⟨oo, oc, rfl, -, -, -, -⟩ := hby1
  have e2 : (putB 0 []).length = 2 := rfl
  rw [e2]
  have HB1 : Hid (Below w.heap.size w w1) := hb1
  clear hb1 e2
  go_wp2_with fail
  go_at_call 31
  refine (HGET.out _ bs _ (HBY.out.later HB1.out)).mono ?_
  rintro e w2 ⟨hb2, lv2, er2, slots, R, rfl, hl2, hg2⟩
  have HL2 : Hid (PlacedIs w2 lv2 slots R) := hl2
  obtain ⟨lo2, lc2, rfl, -, -⟩ := hl2
  have HB2 : Hid (Below w.heap.size w w2) := step_below hb2 HB1.out
  have HA2 : Hid (∀ o1 : Obj, Below w2.heap.size w2 (w2.alloc o1)) := fun o1 => (Below.refl _ _).alloc (Nat.le_refl _) _
  clear hb2
  rcases hg2 with ⟨hno, rfl, rfl, rfl⟩ | ⟨hyes, rfl⟩
  · clear hno
    go_wp2_with (go_at_call 18; refine (same11 _ _ 0 [] _ (HL2.out.later (HA2.out _)) (zero_placed _)).mono ?_; rintro e w3 ⟨rfl, hb3⟩)
    go_ret
    exact ⟨rfl, step_below hb3 (step_below (HA2.out _) HB2.out)⟩
  obtain ⟨hput, hu⟩ := put_get HSM.out hyes
  have HPB : Hid (putB slots R = bs) := hput.symm
  have HRO : Hid (RowsOk R) := rows_of hu
  clear hyes hput hu
  go_wp2_with fail
  go_at_call 27
  refine (HPUT.out _ slots R _ (HL2.out.later (HA2.out _)) HRO.out (put_short (by rw [HPB.out]; exact HSM.out))).mono ?_
  rintro e w3 ⟨hb3, cv, er3, rfl, hans3⟩
  rw [HPB.out] at hans3
  rcases hans3 with ⟨-, rfl, hby3⟩ | ⟨hsm3, -, -⟩
  case inr => rw [HSM.out] at hsm3; exact absurd hsm3 (by simp)
  obtain ⟨co, cc, rfl, -, -, -, hcc⟩ := hby3
  have HB3 : Hid (Below w.heap.size w w3) := step_below hb3 (step_below (HA2.out _) HB2.out)
  by_cases hpos : 0 < bs.length
  · obtain ⟨b9, o9, rfl, -, hcells⟩ := HBC.out hpos
    obtain ⟨b8, o8, rfl, -, hcells3⟩ := hcc hpos
    have v1 := run_convert_bytes_arg (P := Try.prog) w3 61 5 Try.underlying61 Try.underlying5 b9 o9 bs.length cap bs rfl (fun i hi => step_cell HB3.out (hcells i hi)) 9 Try.underlying9
    have v2 := run_convert_bytes_arg (P := Try.prog) w3 61 5 Try.underlying61 Try.underlying5 b8 o8 bs.length cc bs rfl hcells3 9 Try.underlying9
    clear hb3 hcc hcells hcells3
    go_wp2
    go_ret
    exact ⟨rfl, HB3.out⟩
  · exfalso
    have hz : bs = [] := List.length_eq_zero_iff.1 (by omega)
    have := HPB.out
    rw [hz] at this
    exact absurd this (by simp [putB])

set_option maxRecDepth 100000 in
theorem lifted (putO : PutSpec) (getO : GetSpec) (os : Os) (started : os.Started) (H : Type) (enc : TypeId × Value → H) :
    ReturnsInHanded {} Try.checked os 10 .any (Rows.codeThereSpec.pre6 enc Try.prog Try.f10 Rows.codeThereRow.domain false) (Rows.codeThereSpec.post enc Try.prog Try.f10 false true false false) := by
  refine returnsInHanded_of_change (C := Try.checked) own started (by kernel_rfl) Try.func10
    (ChangeSpec.witness6 (enc := enc) (C := Try.checked) false ⟨#[], #[.slice none 0 0], []⟩ 8 (by kernel_rfl) (by kernel_rfl) (by kernel_rfl) (by kernel_rfl)) ?_
  intro W base args ds gs before hval0 hW hcnd _
  have hval : ∀ (j : Nat) t v, Try.f10.params[j]? = some t → args[j]? = some v → Value.okWide Try.prog W .any base t v := hval0
  have hW' := hW
  obtain ⟨p, q, hA0, hV, rfl, hfz, hnd⟩ := hW
  have hA : DataW.TrodAll enc Try.prog W 0 (fun _ => true) true Try.f10.params.toList args.toList ds p := hA0
  rw [Try.params10] at hA hval
  obtain ⟨v0, vs0, d0, ds0, p0, q0, hargs, rfl, rfl, h0, r0⟩ := trodAll_cons hA
  obtain ⟨rfl, rfl, rfl⟩ := trodAll_nil r0
  obtain rfl : args = #[v0] := by cases args; simp_all
  obtain ⟨rfl, rfl⟩ := trodVars_none hV
  have k0 := h0
  have lt0 : ∀ x ∈ p0, x.block < W.heap.size := by obtain ⟨m, hm⟩ := k0; exact DataW.trod_lt m _ _ _ hm
  obtain ⟨bs0, hB0⟩ := bytes_is (hval 0 61 v0 rfl rfl) h0
  clear hA0 hval0
  refine (walk putO getO v0 bs0 W hB0).mono fun e W' ⟨he, bel⟩ => ?_
  subst he
  exact ⟨_, rfl, _, _, _, [], _, [], hW', trodAll_mk1 (shut_bool Try.underlying4 _),
    (trodAll_cons_mk (Below.trod laidOut (by kernel_rfl) (of_decide_eq_true (by kernel_rfl)) k0 bel lt0) trodAll_mk0), rfl, bel.frame _, fun h => by cases h⟩

theorem over (putO : PutSpec) (getO : GetSpec) : Rows.codeThereRow.holds Try.pinned (OpenSpec.ofChange Rows.codeThereSpec) :=
  OpenClaim.holds_of_wide 10 Try.f10 rfl rfl rfl rfl rfl rfl rfl ⟨rfl, rfl, rfl, rfl, rfl⟩ rfl rfl rfl rfl rfl (by kernel_rfl) Try.func10 (by kernel_rfl)
    (of_decide_eq_true (by kernel_rfl)) (by unfold Func.isWrapper; first | (rw [if_pos (by decide +kernel)]; kernel_rfl) | (rw [if_neg (by decide +kernel)]; exact ⟨rfl, rfl⟩))
    (fun os started H enc _ => lifted putO getO os started H enc)

end Go.Proofs.Ytepfegfacdbhbab.codeThere
