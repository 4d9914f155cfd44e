/- The walk of loanbooklaw.CodePuts, out of what the program's own code.Put answers. -/
import Derived.Test.YtepfegfacdbhbabCodeBulk
import Derived.Test.YtepfegfacdbhbabCodePutAns
namespace Go.Proofs.Ytepfegfacdbhbab.codePuts
open Go.ChangeShapes Go.WideShapes Go.ChangeAt Go.RowKit
open Go.Proofs.Ytepfegfacdbhbab.form
set_option linter.unusedVariables false
attribute [local go_sem ↓] Go.wp_at_zero Go.wp_at_succ

set_option maxRecDepth 100000 in
set_option maxHeartbeats 1000000 in
theorem walk (putO : ∀ (lv : Value) (slots : Int) (R : List LRow) (w : World), PlacedIs w lv slots R → RowsOk R → (putB slots R).length ≤ 1099511627776 → Calls Try.prog 27 #[lv] w fun e w' => OwnPut w slots R e w') (lv : Value) (slots : Int) (R : List LRow) (w : World) (hl : PlacedIs w lv slots R) (hn : RowsOk R) (hlen : (putB slots R).length ≤ 1099511627776) :
    Calls Try.prog 7 #[lv] w fun e w' => e = .returned (.bool true) ∧ Below w.heap.size w w' := by
  have HPUT : Hid _ := putO
  clear putO
  have HL : Hid (PlacedIs w lv slots R) := hl
  have HN : Hid (RowsOk R) := hn
  obtain ⟨ao, cap, rfl, -, -⟩ := hl
  obtain ⟨xs, hxs⟩ : ∃ xs, xs = putB slots R := ⟨_, rfl⟩
  have HXS : Hid (xs = putB slots R) := hxs
  have HXL : Hid (xs.length ≤ 1099511627776) := by rw [hxs]; exact hlen
  have hpos : 0 < xs.length := by rw [hxs]; simp [putB]
  have HW : Hid (∀ o1 : Obj, Below w.heap.size w (w.alloc o1)) := fun o1 => (Below.refl _ _).alloc (Nat.le_refl _) _
  clear hn hlen hxs
  go_enter Try.func7, Try.ntmps7
  go_wp2_with fail
  go_at_call 27
  refine (HPUT.out _ slots R _ (HL.out.later (HW.out _)) HN.out (by rw [← HXS.out]; exact HXL.out)).mono ?_
  rintro e w1 ⟨hb1, bv, er, rfl, hans⟩
  rw [← HXS.out] at hans
  have x0 : w1.cell? ⟨w.heap.size, 0, none⟩ = some (.int .i64 slots) := step_cell hb1 (by simp [go_sem])
  have x1 : w1.cell? ⟨w.heap.size, 1, none⟩ = some (.slice ao R.length cap) := step_cell hb1 (by simp [go_sem])
  have HB1 : Hid (Below w.heap.size w w1) := over_alloc hb1
  clear hb1
  rcases hans with ⟨hsm, rfl, hby⟩ | ⟨hsm, rfl, hby⟩
  case inr =>
    have HSM : Hid (smallB xs = false) := hsm
    obtain ⟨bo, bc, rfl, -, -, -, -⟩ := hby
    clear hsm
    go_wp2_with (first
      | (go_at_call 28; refine (numbers11 _ slots R _ (HL.out.later HB1.out) HN.out (by rw [← HXS.out]; exact HXL.out)).mono ?_; rw [← HXS.out]; rintro e w2 ⟨u, rfl, hrs⟩; have HRS : Hid (RS w1 (w1.heap.size + 1) xs u w2) := hrs; obtain ⟨gu, cu, rfl, -, -⟩ := hrs.form hpos; clear hrs)
      | (go_at_call 29; refine (small11 _ xs _ (HRS.out.ints (by have := HXL.out; omega))).mono ?_; rw [HSM.out]; rintro e w3 ⟨rfl, hw3⟩; obtain rfl := hw3.symm))
    go_ret
    exact ⟨rfl, step_below HRS.out.bel HB1.out⟩
  case inl =>
    have HSM : Hid (smallB xs = true) := hsm
    have HBY : Hid (BytesIs w1 bv xs) := hby
    obtain ⟨bo, bc, rfl, -, -, -, hbc⟩ := hby
    obtain ⟨b9, o9, rfl, -, hcells⟩ := hbc hpos
    have HCL : Hid (∀ j, j < xs.length → w1.cell? ⟨b9, o9 + j, none⟩ = some (.int .u8 (xs.getD j 0))) := hcells
    clear hsm hbc hcells
    go_wp2_with (first
      | (go_at_call 28; refine (numbers11 _ slots R _ (HL.out.later HB1.out) HN.out (by rw [← HXS.out]; exact HXL.out)).mono ?_; rw [← HXS.out]; rintro e w2 ⟨u, rfl, hrs⟩; have HRS : Hid (RS w1 (w1.heap.size + 1) xs u w2) := hrs; obtain ⟨gu, cu, rfl, -, -⟩ := hrs.form hpos; clear hrs)
      | (go_at_call 29; refine (small11 _ xs _ (HRS.out.ints (by have := HXL.out; omega))).mono ?_; rw [HSM.out]; rintro e w3 ⟨rfl, hw3⟩; obtain rfl := hw3.symm))
    have HIN : Hid (IntsIs w2 (.slice (some ⟨gu, 0, none⟩) xs.length cu) xs) := HRS.out.ints (by have := HXL.out; omega)
    have HCV : Hid (∀ wz : World, Below w2.heap.size w2 wz → (convert 61 9 (.slice (some ⟨b9, o9, none⟩) xs.length bc)).run Try.prog wz = .ok (.string (strOfNums xs)) wz) := fun wz hb =>
      run_convert_bytes_arg (P := Try.prog) wz 61 5 Try.underlying61 Try.underlying5 b9 o9 xs.length bc xs rfl (fun i hi => step_cell hb (step_cell HRS.out.bel (HCL.out i hi))) 9 Try.underlying9
    refine wp_region_held_drew (S := (fun w' => Below w2.heap.size w2 w')) (by rfl) ?_ (fun hHeld => ?_)
    · (exact (Below.refl _ _).drew)
    refine wpAnyH_take (i := 0) (v := ?_) rfl (by kernel_rfl) (by kernel_rfl) (by kernel_rfl) (fun _ _ _ h => h) (Or.inl ⟨by rfl, ?_⟩) (by assumption) ?_
    case refine_2 => (intro w hSw; (try dsimp only at hSw); go_simp; first | done | (with_reducible rfl))
    show wpAnyH _ _ _ _ _ _ _ (Act.put _ (some 23) _) _
    simp only [Act.put, List.setIfInBounds_toArray, List.set_cons_zero, List.set_cons_succ]
    refine wpAnyH_take (i := 1) (v := ?_) rfl (by kernel_rfl) (by kernel_rfl) (by kernel_rfl) (fun _ _ _ h => h) (Or.inl ⟨by rfl, ?_⟩) (by assumption) ?_
    case refine_2 => (intro w hSw; (try dsimp only at hSw); go_simp; first | done | (with_reducible rfl))
    show wpAnyH _ _ _ _ _ _ _ (Act.put _ (some 24) _) _
    simp only [Act.put, List.setIfInBounds_toArray, List.set_cons_zero, List.set_cons_succ]
    refine wpAnyH_take (i := 2) (v := ?_) rfl (by kernel_rfl) (by kernel_rfl) (by kernel_rfl) (fun _ _ _ h => h) (Or.inl ⟨by rfl, ?_⟩) (by assumption) ?_
    case refine_2 => (intro w hSw; (try dsimp only at hSw); go_simp; first | done | (with_reducible rfl))
    show wpAnyH _ _ _ _ _ _ _ (Act.put _ (some 25) _) _
    simp only [Act.put, List.setIfInBounds_toArray, List.set_cons_zero, List.set_cons_succ]
    refine wpAnyH_take (i := 3) (v := ?_) rfl (by kernel_rfl) (by kernel_rfl) (by kernel_rfl) (fun _ _ _ h => h) (Or.inl ⟨by rfl, ?_⟩) (by assumption) ?_
    case refine_2 => (intro w hSw; (try dsimp only at hSw); go_simp; first | done | (with_reducible rfl))
    show wpAnyH _ _ _ _ _ _ _ (Act.put _ (some 26) _) _
    simp only [Act.put, List.setIfInBounds_toArray, List.set_cons_zero, List.set_cons_succ]
    refine wpAnyH_take (i := 4) (v := .string (strOfNums xs)) rfl (by kernel_rfl) (by kernel_rfl) (by kernel_rfl) (fun _ _ _ h => h) (Or.inl ⟨by rfl, ?_⟩) (by assumption) ?_
    case refine_1 => (intro w hSw; have hcw := HCV.out _ hSw; go_simp)
    show wpAnyH _ _ _ _ _ _ _ (Act.put _ (some 27) _) _
    simp only [Act.put, List.setIfInBounds_toArray, List.set_cons_zero, List.set_cons_succ]
    refine wpAnyH_take (i := 5) (v := ?_) rfl (by kernel_rfl) (by kernel_rfl) (by kernel_rfl) (fun _ _ _ h => h) (Or.inl ⟨by rfl, ?_⟩) (by assumption) ?_
    case refine_2 => (intro w hSw; (try dsimp only at hSw); go_simp; first | done | (with_reducible rfl))
    show wpAnyH _ _ _ _ _ _ _ (Act.put _ (some 28) _) _
    simp only [Act.put, List.setIfInBounds_toArray, List.set_cons_zero, List.set_cons_succ]
    refine wpAnyH_ready (rs := [6]) (by kernel_rfl) (by simp) ?_
    refine (AllReadyH.cons rfl (fun K hK => ?_) AllReadyH.nil)
    go_simp
    go_at_call 30
    refine (bytes11 _ xs _ (HIN.out.later hHeld) HSM.out HXL.out).mono ?_
    rintro e w4 ⟨rfl, hbr⟩
    go_wp2_with fail
    refine hK.out _ _ ?_ (fun hHeld => ?_)
    · (exact step_below hbr hHeld)
    clear hK K
    try simp only [Act.put, List.setIfInBounds_toArray, List.set_cons_zero, List.set_cons_succ]
    refine wpAnyH_take (i := 7) (v := ?_) rfl (by kernel_rfl) (by kernel_rfl) (by kernel_rfl) (fun _ _ _ h => h) (Or.inl ⟨by rfl, ?_⟩) (by assumption) ?_
    case refine_2 => (intro w hSw; (try dsimp only at hSw); go_simp; first | done | (with_reducible rfl))
    show wpAnyH _ _ _ _ _ _ _ (Act.put _ (some 30) _) _
    simp only [Act.put, List.setIfInBounds_toArray, List.set_cons_zero, List.set_cons_succ]
    refine wpAnyH_take (i := 8) (v := ?_) rfl (by kernel_rfl) (by kernel_rfl) (by kernel_rfl) (fun _ _ _ h => h) (Or.inl ⟨by rfl, ?_⟩) (by assumption) ?_
    case refine_2 => (intro w hSw; (try dsimp only at hSw); go_simp; first | done | (with_reducible rfl))
    show wpAnyH _ _ _ _ _ _ _ (Act.put _ (some 31) _) _
    simp only [Act.put, List.setIfInBounds_toArray, List.set_cons_zero, List.set_cons_succ]
    refine wpAnyH_take (i := 9) (v := ?_) rfl (by kernel_rfl) (by kernel_rfl) (by kernel_rfl) (fun _ _ _ h => h) (Or.inl ⟨by rfl, ?_⟩) (by assumption) ?_
    case refine_2 => (intro w hSw; (try dsimp only at hSw); go_simp; first | done | (with_reducible rfl))
    show wpAnyH _ _ _ _ _ _ _ (Act.put _ (some 2) _) _
    simp only [Act.put, List.setIfInBounds_toArray, List.set_cons_zero, List.set_cons_succ]
    refine wpAnyH_done (by kernel_rfl) ?_ _
    have HB4 : Hid (Below w2.heap.size w2 w4) := hHeld
    clear hHeld hbr
    go_wp2
    go_ret
    exact ⟨rfl, step_below HB4.out (step_below HRS.out.bel HB1.out)⟩

end Go.Proofs.Ytepfegfacdbhbab.codePuts
