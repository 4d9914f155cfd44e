/- loanbookkeep.CheckIdle, out of what check.Takes and build.Build answer, whatever 'taken' is. -/
import Derived.Deep.RegionHeld3
import Derived.Deep.DeepCutAuto
import Derived.Test.YtcmnmogmdhofcabGreatI06

namespace Go.Proofs.YtcmnmogmdhofcabGreat.form
open Go.RowKit
set_option linter.unusedVariables false
attribute [local go_sem ↓] Go.wp_at_zero Go.wp_at_succ

set_option maxRecDepth 100000 in
set_option maxHeartbeats 2000000 in
theorem idle_walk (T : List Bool → List LIns → Int → Int → List LRow → Prop) (takesO : TakesT T) (buildO : BuildT T) (hone : T [false] [haltI] 4 0 [.zero])
    (hidle : ∀ B C s slots R k n, GoodT T B C s slots R → slots < 12 → k < R.length → (R.getD k .zero).before.length < 6 → 0 ≤ n → n < s → T B C s (slots + 1) (R.set k { R.getD k .zero with before := ⟨⟨3, slots⟩, ⟨1, n⟩, false, 0⟩ :: (R.getD k .zero).before }))
    (pv : Value) (B : List Bool) (C : List LIns) (s at_ fr : Int) (w : World) (hp : ProgIs w pv B C) (ha0 : 0 ≤ at_) (ha1 : at_ < 256) (hf0 : 0 ≤ fr) (hf1 : fr < 256) :
    Calls Tryz.prog 5 #[pv, targetV s, .int .u8 at_, .int .u8 fr] w fun e w' => e = .returned (.bool true) ∧ Below w.heap.size w w' := by
  have HP : Hid (ProgIs w pv B C) := hp
  have HTO : Hid (TakesT T) := takesO
  have HBO : Hid (BuildT T) := buildO
  have HID : Hid _ := hidle
  have h0 := hp
  obtain ⟨⟨a0, c0, a1, c1, rfl, -⟩, -, -, -⟩ := h0
  obtain ⟨WA, hWA⟩ : ∃ WA, WA = (w.alloc (.cells #[.slice a0 B.length c0, .slice a1 C.length c1] 25)).alloc (.cells #[.int .i64 s] 27) := ⟨_, rfl⟩
  have HW : Hid (Below w.heap.size w WA) := by rw [hWA]; exact ((Below.refl _ _).alloc (Nat.le_refl _) _).alloc (by simp) _
  have x0 : WA.cell? ⟨w.heap.size, 0, none⟩ = some (.slice a0 B.length c0) := by rw [hWA]; simp [go_sem]
  have x1 : WA.cell? ⟨w.heap.size, 1, none⟩ = some (.slice a1 C.length c1) := by rw [hWA]; simp [go_sem]
  have x2 : WA.cell? ⟨w.heap.size + 1, 0, none⟩ = some (.int .i64 s) := by rw [hWA]; simp [go_sem]
  have hzA : w.heap.size + 1 < WA.heap.size := by rw [hWA]; simp
  have XA : Hid (∀ wz : World, Below WA.heap.size WA wz → wz.cell? ⟨w.heap.size, 0, none⟩ = some (.slice a0 B.length c0) ∧ wz.cell? ⟨w.heap.size, 1, none⟩ = some (.slice a1 C.length c1) ∧ wz.cell? ⟨w.heap.size + 1, 0, none⟩ = some (.int .i64 s)) := fun wz hb => ⟨step_cell hb x0, step_cell hb x1, step_cell hb x2⟩
  have ALC : Hid (∀ (wx : World) (o : Obj), Below wx.heap.size wx (wx.alloc o)) := fun wx o => (Below.refl _ _).alloc (Nat.le_refl _) _
  clear hp takesO buildO hidle
  unfold targetV
  go_enter Tryz.func5, Tryz.ntmps5
  go_upto_region 1 with fail
  rw [← hWA]
  clear hWA
  go_wp2_with fail
  go_at_call 13
  refine (HBO.out _ B C s _ (HP.out.later HW.out)).mono ?_
  rintro e w1 ⟨lo, lc, x, slots, R, rfl, hl1, hx2, hgood, hb1⟩
  have HL1 : Hid (PlacedIs w1 (.agg #[.int .i64 slots, .slice lo R.length lc]) slots R) := hl1
  have HB1 : Hid (Below WA.heap.size WA w1) := hb1
  have HGD : Hid (x = 0 → GoodT T B C s slots R) := hgood
  clear x0 x1 x2 hl1 hb1 hgood
  have hz1 : w.heap.size + 1 < w1.heap.size := Nat.lt_of_lt_of_le hzA HB1.out.size
  have q1 : w.heap.size < w1.heap.size := by omega
  have HBA : Hid (Below w.heap.size w w1) := step_below HB1.out HW.out
  rcases hx2 with rfl | rfl
  case inr =>
    go_wp2_with fail
    go_at_call 6
    refine (HTO.out _ _ [false] [haltI] 4 0 [.zero] _ ?_ ?_ ?_).mono ?_
    · refine one_prog ?_ ?_ (fun j hj1 hj2 => ?_) ?_
      · simp [go_sem]
      · simp [go_sem]
      · rcases (show j = 1 ∨ j = 2 ∨ j = 3 ∨ j = 4 by omega) with rfl | rfl | rfl | rfl <;> simp [go_sem]
      · simp [go_sem]
    · refine one_placed (fun j hj => ?_) ?_ ?_
      · rcases (show j = 0 ∨ j = 1 ∨ j = 2 ∨ j = 3 ∨ j = 4 ∨ j = 5 by omega) with rfl | rfl | rfl | rfl | rfl | rfl <;> simp [go_sem]
      · simp [go_sem]
      · simp [go_sem]
    · intro r hr
      have : r = 0 := by simp at hr; omega
      subst this
      exact ⟨fun k hk => absurd hk (by simp [LRow.zero]), fun k hk => absurd hk (by simp [LRow.zero])⟩
    rintro e w2 ⟨⟨b, rfl, hb⟩, hb2⟩
    obtain rfl : b = true := hb.2 hone
    go_wp2
    go_ret
    exact ⟨rfl, step_below (over_alloc (over_alloc (over_alloc (over_alloc (over_alloc hb2))))) HBA.out⟩
  have hgd := HGD.out rfl
  have HG : Hid (GoodT T B C s slots R) := hgd
  obtain ⟨-, -, g1, g2, g3, g4, g5, g6⟩ := hgd
  have zR : (R.length : Int) ≤ 40 := by omega
  have zR0 : (0 : Int) < (R.length : Int) := by omega
  have zR1 : ((R.length : Int) == 0) = false := by simp only [beq_eq_false_iff_ne, ne_eq]; omega
  obtain ⟨x0, x1, x2⟩ := XA.out _ HB1.out
  have HTK : Hid (∀ wx : World, Below w1.heap.size w1 wx → Calls Tryz.prog 6 #[.agg #[.slice a0 B.length c0, .slice a1 C.length c1], .agg #[.int .i64 s], .agg #[.int .i64 slots, .slice lo R.length lc]] wx fun e w' => e = .returned (.bool true) ∧ Below wx.heap.size wx w') := by
    intro wx hb
    refine (HTO.out _ _ B C s slots R wx (HP.out.later (step_below hb HBA.out)) (HL1.out.later hb) HG.out.ok).mono ?_
    rintro e w' ⟨⟨b, rfl, hb2⟩, hb3⟩
    obtain rfl : b = true := hb2.2 HG.out.tk
    exact ⟨rfl, hb3⟩
  go_wp2_with fail
  go_at_call 6
  refine (HTK.out _ (ALC.out _ _)).mono ?_
  rintro e w2 ⟨rfl, hb2⟩
  have l0 : w2.cell? ⟨w1.heap.size, 0, none⟩ = some (.int .i64 slots) := step_cell hb2 (by simp [go_sem])
  have l1 : w2.cell? ⟨w1.heap.size, 1, none⟩ = some (.slice lo R.length lc) := step_cell hb2 (by simp [go_sem])
  have HB2 : Hid (Below w1.heap.size w1 w2) := step_below hb2 (ALC.out _ _)
  have hz2 : w1.heap.size < w2.heap.size := by have := hb2.size; simp at this; omega
  have XL : Hid (∀ wz : World, Below w2.heap.size w2 wz → wz.cell? ⟨w1.heap.size, 0, none⟩ = some (.int .i64 slots) ∧ wz.cell? ⟨w1.heap.size, 1, none⟩ = some (.slice lo R.length lc)) := fun wz hb => ⟨step_cell hb l0, step_cell hb l1⟩
  clear x0 x1 x2 hb2
  obtain ⟨x0, x1, x2⟩ := XA.out _ (step_below HB2.out HB1.out)
  have p1 : w.heap.size < w2.heap.size := by omega
  have p2 : w.heap.size + 1 < w2.heap.size := by omega
  by_cases hs12 : 12 ≤ slots
  · go_wp2_with fail
    go_at_call 6
    refine (HTK.out _ HB2.out).mono ?_
    rintro e w3 ⟨rfl, hb3⟩
    obtain ⟨l0', l1'⟩ := XL.out _ hb3
    clear l0 l1 x0 x1 x2
    go_wp2
    go_ret
    exact ⟨ret_bool (by first | rfl | simp | (simp; omega)), step_below hb3 (step_below HB2.out HBA.out)⟩
  have e9 : decide (12 ≤ slots) = false := by simp; omega
  obtain ⟨b2, o2, rfl, hrows⟩ : ∃ b2 o2, lo = some ⟨b2, o2, none⟩ ∧ RowsHeld w1 b2 o2 R := by
    obtain ⟨ao, cap, e, -, h⟩ := HL1.out
    injection e with e
    have : (Value.slice lo R.length lc) = .slice ao R.length cap := by
      have := congrArg (fun a : Array Value => a[1]?) e
      simpa using this
    injection this with e1 e2 e3
    subst e1
    exact h (by omega)
  have HRW : Hid (RowsHeld w1 b2 o2 R) := hrows
  obtain ⟨k, hkat⟩ : ∃ k : Nat, at_ % (R.length : Int) = k := Int.eq_ofNat_of_zero_le (Int.emod_nonneg _ (by omega))
  have hkl : k < R.length := by have := Int.emod_lt_of_pos at_ zR0; omega
  obtain ⟨n, hfn⟩ : ∃ n : Int, fr % s = n := ⟨_, rfl⟩
  have hn0 : 0 ≤ n := by rw [← hfn]; exact Int.emod_nonneg _ (by omega)
  have hn1 : n < s := by rw [← hfn]; exact Int.emod_lt_of_pos _ (by omega)
  obtain ⟨t0, t1, t2, t3, t4, t5, vb, va, t6, t7, hvb, hva⟩ := (HRW.out.later HB2.out).rows k hkl
  have y8 : (k : Int) < (R.length : Int) := by omega
  obtain ⟨r, hr⟩ : ∃ r, r = R.getD k .zero := ⟨_, rfl⟩
  have HR : Hid (R.getD k .zero = r) := hr.symm
  rw [← hr] at t0 t1 t2 t3 t4 t5 hvb hva
  have HVB : Hid (MovesIs w2 vb r.before) := hvb
  obtain ⟨mo, mc, rfl, -, hmc⟩ := hvb
  have hs0 : (s == 0) = false := by simp; omega
  have hs00 : ¬ s = 0 := by omega
  have hnn : (IntKind.i64.wrap fr).tmod s = n := by
    have e2 : IntKind.i64.wrap fr = fr := by
      unfold IntKind.wrap
      simp [IntKind.signed, IntKind.bits]
      omega
    rw [e2, Int.tmod_eq_emod_of_nonneg hf0, hfn]
  have hrem : ∀ wx : World, Sem.run Tryz.prog (binOp BinOp.rem 3 (.int .i64 fr) (.int .i64 s)) wx = .ok (.int .i64 n) wx := by
    intro wx
    have e : fr.tmod s = n := by rw [Int.tmod_eq_emod_of_nonneg hf0, hfn]
    simp [go_sem, hs00, e]
  clear hr hva
  by_cases h6 : 6 ≤ r.before.length
  · have h6i : (6 : Int) ≤ (r.before.length : Int) := by omega
    clear hmc
    go_wp2
    go_ret
    exact ⟨rfl, step_below HB2.out HBA.out⟩
  have h6i : ¬ (6 : Int) ≤ (r.before.length : Int) := by omega
  go_wp2
  go_region_held3 (fun w' => w'.cell? ⟨w1.heap.size, 0, none⟩ = some (.int .i64 slots) ∧ w'.cell? ⟨w.heap.size + 1, 0, none⟩ = some (.int .i64 s))
    ((go_split_ands; refine ⟨?_, ?_⟩ <;> first | assumption | (go_keep; done)))
    (fail)
  rename_i hHeldx
  clear hHeldx
  obtain ⟨WM, hWM⟩ : ∃ WM, WM = (w2.alloc (.cells #[.int .i64 3, .int .i64 slots, .int .i64 1, .int .i64 n, .bool false, .int .u32 0] 52)).drew := ⟨_, rfl⟩
  have HBM : Hid (Below w2.heap.size w2 WM) := by rw [hWM]; exact ((Below.refl _ _).alloc (Nat.le_refl _) _).drew
  have hWMz : WM.heap.size = w2.heap.size + 1 := by rw [hWM]; simp
  have m0 : WM.cell? ⟨w2.heap.size, 0, none⟩ = some (.int .i64 3) := by rw [hWM]; simp [go_sem]
  have m1 : WM.cell? ⟨w2.heap.size, 1, none⟩ = some (.int .i64 slots) := by rw [hWM]; simp [go_sem]
  have m2 : WM.cell? ⟨w2.heap.size, 2, none⟩ = some (.int .i64 1) := by rw [hWM]; simp [go_sem]
  have m3 : WM.cell? ⟨w2.heap.size, 3, none⟩ = some (.int .i64 n) := by rw [hWM]; simp [go_sem]
  have m4 : WM.cell? ⟨w2.heap.size, 4, none⟩ = some (.bool false) := by rw [hWM]; simp [go_sem]
  have m5 : WM.cell? ⟨w2.heap.size, 5, none⟩ = some (.int .u32 0) := by rw [hWM]; simp [go_sem]
  rw [← hWM]
  have t6' := t6
  clear hWM x0 x1 x2 l0 l1 t0 t1 t2 t3 t4 t5 t6 t7
  obtain ⟨l0, l1⟩ := XL.out _ HBM.out
  have HBM1 : Hid (Below w1.heap.size w1 WM) := step_below HBM.out HB2.out
  have hcs := rows_cells HRW.out
  have HNW : Hid (∀ wx : World, Below w1.heap.size w1 wx → ∀ j u, (cellsAt w1 b2 o2 (R.length * 8))[j]? = some u → wx.cell? ((⟨b2, o2, none⟩ : Addr).add j) = some u) := fun wx hb j u hu => step_cell hb (cellsAt_news hcs j u hu)
  have HN1 : Hid (∀ u, u ∈ cellsAt w1 b2 o2 (R.length * 8) → u.oneCell' = true) := cellsAt_one hcs
  have HOW : Hid (World.ownsRow (WM.alloc (.cells #[] 40)) WM.heap.size 40 8 (.slice (some ⟨WM.heap.size, 0, none⟩) 0 0) 0 []) := World.ownsRow_made WM #[] 0 (Nat.le_refl _) (by unfold maxLen; omega) (by simp)
  obtain ⟨ti, hi0, hy0, hy1, hy2⟩ := info_parts infRowA
  have u1 : w1.heap.size < WM.heap.size := by omega
  have u2 : w1.heap.size ≠ WM.heap.size := by omega
  have HWMZ : Hid (WM.heap.size = w2.heap.size + 1) := hWMz
  clear hcs hWMz
/- REGION 11 -/
  have KP : Hid (∀ wx : World, Below WM.heap.size WM wx → wx.cell? ⟨w1.heap.size, 0, none⟩ = some (.int .i64 slots) ∧ wx.cell? ⟨w1.heap.size, 1, none⟩ = some (.slice (some ⟨b2, o2, none⟩) R.length lc)) := fun wx hb => ⟨step_cell hb l0, step_cell hb l1⟩
  have hws : IntKind.i64.wrap (slots + 1) = slots + 1 := by
    unfold IntKind.wrap
    simp [IntKind.signed, IntKind.bits]
    omega
  go_upto_region 11 with fail
  go_cut [14] (fun p wc => ∃ ob g cap, p = .pointer (some ⟨ob, 0, none⟩) ∧ IdleR w1 WM b2 o2 R.length (slots + 1) ob g cap wc)
  case first =>
    refine wp_region_held_drew (S := (fun w' => w'.cell? ⟨w1.heap.size, 0, none⟩ = some (.int .i64 slots) ∧ w'.cell? ⟨w1.heap.size, 1, none⟩ = some (.slice (some ⟨b2, o2, none⟩) R.length lc))) (by rfl) ?_ (fun hHeld => ?_)
    · (exact ⟨l0, l1⟩)
    refine wpAnyH_take (i := 0) (v := ?_) rfl (by kernel_rfl) (by kernel_rfl) (by kernel_rfl) (fun _ _ _ h => h) (Or.inl ⟨by rfl, ?_⟩) (by assumption) ?_
    case refine_2 => (intro w hSw; (try dsimp only at hSw); go_simp; first | done | (with_reducible rfl))
    show wpAnyH _ _ _ _ _ _ _ (Act.put _ (some 83) _) _
    simp only [Act.put, List.setIfInBounds_toArray, List.set_cons_zero, List.set_cons_succ]
    refine wpAnyH_take (i := 1) (v := ?_) rfl (by kernel_rfl) (by kernel_rfl) (by kernel_rfl) (fun _ _ _ h => h) (Or.inl ⟨by rfl, ?_⟩) (by assumption) ?_
    case refine_2 => (intro w hSw; (try dsimp only at hSw); go_simp; first | done | (with_reducible rfl))
    show wpAnyH _ _ _ _ _ _ _ (Act.put _ (some 84) _) _
    simp only [Act.put, List.setIfInBounds_toArray, List.set_cons_zero, List.set_cons_succ]
    refine wpAnyH_take (i := 2) (v := ?_) rfl (by kernel_rfl) (by kernel_rfl) (by kernel_rfl) (fun _ _ _ h => h) (Or.inl ⟨by rfl, ?_⟩) (by assumption) ?_
    case refine_2 => (intro w hSw; (try dsimp only at hSw); go_simp; first | done | (with_reducible rfl))
    show wpAnyH _ _ _ _ _ _ _ (Act.put _ (some 85) _) _
    simp only [Act.put, List.setIfInBounds_toArray, List.set_cons_zero, List.set_cons_succ]
    refine wpAnyH_take (i := 4) (v := ?_) rfl (by kernel_rfl) (by kernel_rfl) (by kernel_rfl) (fun _ _ _ h => h) (Or.inl ⟨by rfl, ?_⟩) (by assumption) ?_
    case refine_2 => (intro w hSw; (try dsimp only at hSw); go_simp; first | done | (with_reducible rfl))
    show wpAnyH _ _ _ _ _ _ _ (Act.put _ (some 87) _) _
    simp only [Act.put, List.setIfInBounds_toArray, List.set_cons_zero, List.set_cons_succ]
    refine wpAnyH_take (i := 5) (v := ?_) rfl (by kernel_rfl) (by kernel_rfl) (by kernel_rfl) (fun _ _ _ h => h) (Or.inl ⟨by rfl, ?_⟩) (by assumption) ?_
    case refine_2 => (intro w hSw; (try dsimp only at hSw); go_simp; first | done | (with_reducible rfl))
    show wpAnyH _ _ _ _ _ _ _ (Act.put _ (some 88) _) _
    simp only [Act.put, List.setIfInBounds_toArray, List.set_cons_zero, List.set_cons_succ]
    refine wpAnyH_ready (rs := [3, 8]) (by kernel_rfl) (by simp) ?_
    refine (AllReadyH.cons rfl (fun K hK => ?_) (AllReadyH.cons rfl (fun K hK => ?_) AllReadyH.nil))
    · go_simp
      refine hK.out _ _ ?_ (fun hHeld => ?_)
      · (exact KP.out _ (by first | exact hb3 | exact hb3.alloc hz3 _ | exact (hb3.setCell hzo _).setCell hzo _ | exact (Below.refl _ _).drew | exact ((Below.refl _ _).alloc (Nat.le_refl _) _).drew | exact (((Below.refl _ _).alloc (Nat.le_refl _) _).alloc (by simp) _).drew))
      clear hK K
      try simp only [Act.put, List.setIfInBounds_toArray, List.set_cons_zero, List.set_cons_succ]
      refine wpAnyH_ready (rs := [6, 8]) (by kernel_rfl) (by simp) ?_
      refine (AllReadyH.cons rfl (fun K hK => ?_) (AllReadyH.cons rfl (fun K hK => ?_) AllReadyH.nil))
      · refine step_append_lies _ (by rfl) _ _ _ (by rfl) WM.heap.size 40 ti _ 8 96 Tryz.underlying28 hi0 hy0 hy1 hy2 rfl (by omega) (.slice (some ⟨WM.heap.size, 0, none⟩) 0 0) 0 [] (by rfl) (World.ownsRow.drew (World.ownsRow_made WM #[] 0 (Nat.le_refl _) (by unfold maxLen; omega) (by simp))) ⟨b2, o2, none⟩ R.length lc (cellsAt w1 b2 o2 (R.length * 8)) (by rfl) (by rw [cellsAt_len]) (HNW.out _ (step_below (by first | exact (Below.refl _ _).drew | exact ((Below.refl _ _).alloc (Nat.le_refl _) _).drew | exact (((Below.refl _ _).alloc (Nat.le_refl _) _).alloc (by simp) _).drew) HBM1.out)) HN1.out g1 (by unfold maxLen; omega) (by omega) (by first | (simp; done) | (simp; omega)) _ rfl ?_
        intro g cap w3 hown hgrow hat hlt
        have hb3 : Below WM.heap.size WM w3 := (by first | exact (Below.refl _ _).drew | exact ((Below.refl _ _).alloc (Nat.le_refl _) _).drew | exact (((Below.refl _ _).alloc (Nat.le_refl _) _).alloc (by simp) _).drew : Below WM.heap.size WM (WM.alloc (.cells #[] 40)).drew).grown hgrow (by first | (simp; done) | (simp; omega)) (fun j hj => by cases hj; first | exact Nat.le_refl _ | exact Nat.le_succ _)
        have hz3 : WM.heap.size ≤ w3.heap.size := hb3.size
        obtain ⟨f1, f2, f3, f4⟩ := own_copied rfl HRW.out hown
        clear hgrow hat hlt
        refine hK.out _ _ ?_ (fun hHeld => ?_)
        · (exact KP.out _ (by first | exact hb3 | exact hb3.alloc hz3 _ | exact (hb3.setCell hzo _).setCell hzo _ | exact (Below.refl _ _).drew | exact ((Below.refl _ _).alloc (Nat.le_refl _) _).drew | exact (((Below.refl _ _).alloc (Nat.le_refl _) _).alloc (by simp) _).drew))
        clear hK K
        show wpAnyH _ _ _ _ _ _ _ (Act.put _ (some 89) _) _
        simp only [Act.put, List.setIfInBounds_toArray, List.set_cons_zero, List.set_cons_succ]
        refine wpAnyH_take (i := 7) (v := ?_) rfl (by kernel_rfl) (by kernel_rfl) (by kernel_rfl) (fun _ _ _ h => h) (Or.inl ⟨by rfl, ?_⟩) (by assumption) ?_
        case refine_2 => (intro w hSw; (try dsimp only at hSw); go_simp; first | done | (with_reducible rfl))
        show wpAnyH _ _ _ _ _ _ _ (Act.put _ (some 90) _) _
        simp only [Act.put, List.setIfInBounds_toArray, List.set_cons_zero, List.set_cons_succ]
        refine wpAnyH_ready (rs := [8]) (by kernel_rfl) (by simp) ?_
        refine (AllReadyH.cons rfl (fun K hK => ?_) AllReadyH.nil)
        go_simp
        refine hK.out _ _ ?_ (fun hHeld => ?_)
        · (exact KP.out _ (by first | exact hb3 | exact hb3.alloc hz3 _ | exact (hb3.setCell hzo _).setCell hzo _ | exact (Below.refl _ _).drew | exact ((Below.refl _ _).alloc (Nat.le_refl _) _).drew | exact (((Below.refl _ _).alloc (Nat.le_refl _) _).alloc (by simp) _).drew))
        clear hK K
        try simp only [Act.put, List.setIfInBounds_toArray, List.set_cons_zero, List.set_cons_succ]
        refine wpAnyH_ready (rs := [9]) (by kernel_rfl) (by simp) ?_
        refine (AllReadyH.cons rfl (fun K hK => ?_) AllReadyH.nil)
        go_simp
        refine hK.out _ _ ?_ (fun hHeld => ?_)
        · (exact KP.out _ (by first | exact hb3 | exact hb3.alloc hz3 _ | exact (hb3.setCell hzo _).setCell hzo _ | exact (Below.refl _ _).drew | exact ((Below.refl _ _).alloc (Nat.le_refl _) _).drew | exact (((Below.refl _ _).alloc (Nat.le_refl _) _).alloc (by simp) _).drew))
        clear hK K
        try simp only [Act.put, List.setIfInBounds_toArray, List.set_cons_zero, List.set_cons_succ]
        refine wpAnyH_done (by kernel_rfl) ?_ _
        clear hHeld
        go_wp2
        go_meet
        case rel =>
          refine ⟨w3.heap.size, g, cap, rfl, ⟨hb3.alloc hz3 _, by simp [go_sem], by simp [go_sem], hz3, f3, by omega, by simp, by simp; omega, fun j hj => ?_, fun j => ?_⟩⟩
          · exact (((Below.refl w3.heap.size w3).alloc (Nat.le_refl _) _).cell (p := ⟨g, j, none⟩) f4).trans (f1 j hj)
          · exact (froz_below ((Below.refl w3.heap.size w3).alloc (Nat.le_refl _) _) f4).trans (f2 j)
      · go_simp
        refine hK.out _ _ ?_ (fun hHeld => ?_)
        · (exact KP.out _ (by first | exact hb3 | exact hb3.alloc hz3 _ | exact (hb3.setCell hzo _).setCell hzo _ | exact (Below.refl _ _).drew | exact ((Below.refl _ _).alloc (Nat.le_refl _) _).drew | exact (((Below.refl _ _).alloc (Nat.le_refl _) _).alloc (by simp) _).drew))
        clear hK K
        try simp only [Act.put, List.setIfInBounds_toArray, List.set_cons_zero, List.set_cons_succ]
        refine wpAnyH_ready (rs := [6]) (by kernel_rfl) (by simp) ?_
        refine (AllReadyH.cons rfl (fun K hK => ?_) AllReadyH.nil)
        refine step_append_lies _ (by rfl) _ _ _ (by rfl) WM.heap.size 40 ti _ 8 96 Tryz.underlying28 hi0 hy0 hy1 hy2 rfl (by omega) (.slice (some ⟨WM.heap.size, 0, none⟩) 0 0) 0 [] (by rfl) (World.ownsRow.drew (World.ownsRow.alloc (World.ownsRow_made WM #[] 0 (Nat.le_refl _) (by unfold maxLen; omega) (by simp)) _)) ⟨b2, o2, none⟩ R.length lc (cellsAt w1 b2 o2 (R.length * 8)) (by rfl) (by rw [cellsAt_len]) (HNW.out _ (step_below (by first | exact (Below.refl _ _).drew | exact ((Below.refl _ _).alloc (Nat.le_refl _) _).drew | exact (((Below.refl _ _).alloc (Nat.le_refl _) _).alloc (by simp) _).drew) HBM1.out)) HN1.out g1 (by unfold maxLen; omega) (by omega) (by first | (simp; done) | (simp; omega)) _ rfl ?_
        intro g cap w3 hown hgrow hat hlt
        have hb3 : Below WM.heap.size WM w3 := (by first | exact (Below.refl _ _).drew | exact ((Below.refl _ _).alloc (Nat.le_refl _) _).drew | exact (((Below.refl _ _).alloc (Nat.le_refl _) _).alloc (by simp) _).drew : Below WM.heap.size WM ((WM.alloc (.cells #[] 40)).alloc (.cells #[.int .i64 0, .slice none 0 0] 30)).drew).grown hgrow (by first | (simp; done) | (simp; omega)) (fun j hj => by cases hj; first | exact Nat.le_refl _ | exact Nat.le_succ _)
        have hz3 : WM.heap.size ≤ w3.heap.size := hb3.size
        obtain ⟨f1, f2, f3, f4⟩ := own_copied rfl HRW.out hown
        have hro : Row w3 (WM.heap.size + 1) 30 [.int .i64 0, .slice none 0 0] := by
          have h0 : Row ((WM.alloc (.cells #[] 40)).alloc (.cells #[.int .i64 0, .slice none 0 0] 30)).drew (WM.heap.size + 1) 30 [.int .i64 0, .slice none 0 0] := by
            first
              | (have := Row.new (WM.alloc (.cells #[] 40)) 30 [.int .i64 0, .slice none 0 0]; simp at this; exact this)
              | exact ((Row.new WM 30 [.int .i64 0, .slice none 0 0]).alloc _)
          exact h0.grown hgrow (by simp [Value.ownBlock])
        have hol := hro.lt
        have hzo : WM.heap.size ≤ (WM.heap.size + 1) := by omega
        have hog : (WM.heap.size + 1) ≠ g := by
          intro e
          rcases hown.2 with ⟨e1, -⟩ | ⟨g', cap', cur, hv, -, hg, -⟩
          · cases e1
          · injection hv with e1
            injection e1 with e2
            injection e2 with e3
            subst e3
            unfold Row at hro
            rw [e, hg] at hro
            injection hro with hro
            injection hro with h1 h2
            revert h2
            decide
        have x10 := hro.cell 0
        have x11 := hro.cell 1
        have x12 := hro.frozen 0
        have x13 := hro.frozen 1
        simp at x10 x11
        clear hgrow hat hlt
        refine hK.out _ _ ?_ (fun hHeld => ?_)
        · (exact KP.out _ (by first | exact hb3 | exact hb3.alloc hz3 _ | exact (hb3.setCell hzo _).setCell hzo _ | exact (Below.refl _ _).drew | exact ((Below.refl _ _).alloc (Nat.le_refl _) _).drew | exact (((Below.refl _ _).alloc (Nat.le_refl _) _).alloc (by simp) _).drew))
        clear hK K
        show wpAnyH _ _ _ _ _ _ _ (Act.put _ (some 89) _) _
        simp only [Act.put, List.setIfInBounds_toArray, List.set_cons_zero, List.set_cons_succ]
        refine wpAnyH_take (i := 7) (v := ?_) rfl (by kernel_rfl) (by kernel_rfl) (by kernel_rfl) (fun _ _ _ h => h) (Or.inl ⟨by rfl, ?_⟩) (by assumption) ?_
        case refine_2 => (intro w hSw; (try dsimp only at hSw); go_simp; first | done | (with_reducible rfl))
        show wpAnyH _ _ _ _ _ _ _ (Act.put _ (some 90) _) _
        simp only [Act.put, List.setIfInBounds_toArray, List.set_cons_zero, List.set_cons_succ]
        refine wpAnyH_ready (rs := [9]) (by kernel_rfl) (by simp) ?_
        refine (AllReadyH.cons rfl (fun K hK => ?_) AllReadyH.nil)
        go_simp
        refine hK.out _ _ ?_ (fun hHeld => ?_)
        · (exact KP.out _ (by first | exact hb3 | exact hb3.alloc hz3 _ | exact (hb3.setCell hzo _).setCell hzo _ | exact (Below.refl _ _).drew | exact ((Below.refl _ _).alloc (Nat.le_refl _) _).drew | exact (((Below.refl _ _).alloc (Nat.le_refl _) _).alloc (by simp) _).drew))
        clear hK K
        try simp only [Act.put, List.setIfInBounds_toArray, List.set_cons_zero, List.set_cons_succ]
        refine wpAnyH_done (by kernel_rfl) ?_ _
        clear hHeld
        go_wp2
        go_meet
        case rel =>
          have hr2 := (hro.set 0 (.int .i64 (slots + 1))).set 1 (.slice (some ⟨g, 0, none⟩) R.length cap)
          have y10 := hr2.cell 0
          have y11 := hr2.cell 1
          simp at y10 y11
          refine ⟨WM.heap.size + 1, g, cap, rfl, ⟨(hb3.setCell hzo _).setCell hzo _, y10, y11, hzo, f3, hog, by simp; omega, by simp; omega, fun j hj => ?_, fun j => ?_⟩⟩
          · rw [← f1 j hj, World.cell?_setCell_far _ _ _ _ hog, World.cell?_setCell_far _ _ _ _ hog]
          · exact (froz_set (Ne.symm hog)).trans ((froz_set (Ne.symm hog)).trans (f2 j))
    ·   go_simp
        refine hK.out _ _ ?_ (fun hHeld => ?_)
        · (exact KP.out _ (by first | exact hb3 | exact hb3.alloc hz3 _ | exact (hb3.setCell hzo _).setCell hzo _ | exact (Below.refl _ _).drew | exact ((Below.refl _ _).alloc (Nat.le_refl _) _).drew | exact (((Below.refl _ _).alloc (Nat.le_refl _) _).alloc (by simp) _).drew))
        clear hK K
        try simp only [Act.put, List.setIfInBounds_toArray, List.set_cons_zero, List.set_cons_succ]
        refine wpAnyH_ready (rs := [3]) (by kernel_rfl) (by simp) ?_
        refine (AllReadyH.cons rfl (fun K hK => ?_) AllReadyH.nil)
        go_simp
        refine hK.out _ _ ?_ (fun hHeld => ?_)
        · (exact KP.out _ (by first | exact hb3 | exact hb3.alloc hz3 _ | exact (hb3.setCell hzo _).setCell hzo _ | exact (Below.refl _ _).drew | exact ((Below.refl _ _).alloc (Nat.le_refl _) _).drew | exact (((Below.refl _ _).alloc (Nat.le_refl _) _).alloc (by simp) _).drew))
        clear hK K
        try simp only [Act.put, List.setIfInBounds_toArray, List.set_cons_zero, List.set_cons_succ]
        refine wpAnyH_ready (rs := [6]) (by kernel_rfl) (by simp) ?_
        refine (AllReadyH.cons rfl (fun K hK => ?_) AllReadyH.nil)
        refine step_append_lies _ (by rfl) _ _ _ (by rfl) WM.heap.size 40 ti _ 8 96 Tryz.underlying28 hi0 hy0 hy1 hy2 rfl (by omega) (.slice (some ⟨WM.heap.size + 1, 0, none⟩) 0 0) 0 [] (by rfl) (World.ownsRow.drew (by have := World.ownsRow_made (e := 40) (size := 8) (base := WM.heap.size) (WM.alloc (.cells #[.int .i64 0, .slice none 0 0] 30)) #[] 0 (by simp) (by unfold maxLen; omega) (by simp); simpa using this)) ⟨b2, o2, none⟩ R.length lc (cellsAt w1 b2 o2 (R.length * 8)) (by rfl) (by rw [cellsAt_len]) (HNW.out _ (step_below (by first | exact (Below.refl _ _).drew | exact ((Below.refl _ _).alloc (Nat.le_refl _) _).drew | exact (((Below.refl _ _).alloc (Nat.le_refl _) _).alloc (by simp) _).drew) HBM1.out)) HN1.out g1 (by unfold maxLen; omega) (by omega) (by first | (simp; done) | (simp; omega)) _ rfl ?_
        intro g cap w3 hown hgrow hat hlt
        have hb3 : Below WM.heap.size WM w3 := (by first | exact (Below.refl _ _).drew | exact ((Below.refl _ _).alloc (Nat.le_refl _) _).drew | exact (((Below.refl _ _).alloc (Nat.le_refl _) _).alloc (by simp) _).drew : Below WM.heap.size WM ((WM.alloc (.cells #[.int .i64 0, .slice none 0 0] 30)).alloc (.cells #[] 40)).drew).grown hgrow (by first | (simp; done) | (simp; omega)) (fun j hj => by cases hj; first | exact Nat.le_refl _ | exact Nat.le_succ _)
        have hz3 : WM.heap.size ≤ w3.heap.size := hb3.size
        obtain ⟨f1, f2, f3, f4⟩ := own_copied rfl HRW.out hown
        have hro : Row w3 (WM.heap.size) 30 [.int .i64 0, .slice none 0 0] := by
          have h0 : Row ((WM.alloc (.cells #[.int .i64 0, .slice none 0 0] 30)).alloc (.cells #[] 40)).drew (WM.heap.size) 30 [.int .i64 0, .slice none 0 0] := by
            first
              | (have := Row.new (WM.alloc (.cells #[] 40)) 30 [.int .i64 0, .slice none 0 0]; simp at this; exact this)
              | exact ((Row.new WM 30 [.int .i64 0, .slice none 0 0]).alloc _)
          exact h0.grown hgrow (by simp [Value.ownBlock])
        have hol := hro.lt
        have hzo : WM.heap.size ≤ (WM.heap.size) := by omega
        have hog : (WM.heap.size) ≠ g := by
          intro e
          rcases hown.2 with ⟨e1, -⟩ | ⟨g', cap', cur, hv, -, hg, -⟩
          · cases e1
          · injection hv with e1
            injection e1 with e2
            injection e2 with e3
            subst e3
            unfold Row at hro
            rw [e, hg] at hro
            injection hro with hro
            injection hro with h1 h2
            revert h2
            decide
        have x10 := hro.cell 0
        have x11 := hro.cell 1
        have x12 := hro.frozen 0
        have x13 := hro.frozen 1
        simp at x10 x11
        clear hgrow hat hlt
        refine hK.out _ _ ?_ (fun hHeld => ?_)
        · (exact KP.out _ (by first | exact hb3 | exact hb3.alloc hz3 _ | exact (hb3.setCell hzo _).setCell hzo _ | exact (Below.refl _ _).drew | exact ((Below.refl _ _).alloc (Nat.le_refl _) _).drew | exact (((Below.refl _ _).alloc (Nat.le_refl _) _).alloc (by simp) _).drew))
        clear hK K
        show wpAnyH _ _ _ _ _ _ _ (Act.put _ (some 89) _) _
        simp only [Act.put, List.setIfInBounds_toArray, List.set_cons_zero, List.set_cons_succ]
        refine wpAnyH_take (i := 7) (v := ?_) rfl (by kernel_rfl) (by kernel_rfl) (by kernel_rfl) (fun _ _ _ h => h) (Or.inl ⟨by rfl, ?_⟩) (by assumption) ?_
        case refine_2 => (intro w hSw; (try dsimp only at hSw); go_simp; first | done | (with_reducible rfl))
        show wpAnyH _ _ _ _ _ _ _ (Act.put _ (some 90) _) _
        simp only [Act.put, List.setIfInBounds_toArray, List.set_cons_zero, List.set_cons_succ]
        refine wpAnyH_ready (rs := [9]) (by kernel_rfl) (by simp) ?_
        refine (AllReadyH.cons rfl (fun K hK => ?_) AllReadyH.nil)
        go_simp
        refine hK.out _ _ ?_ (fun hHeld => ?_)
        · (exact KP.out _ (by first | exact hb3 | exact hb3.alloc hz3 _ | exact (hb3.setCell hzo _).setCell hzo _ | exact (Below.refl _ _).drew | exact ((Below.refl _ _).alloc (Nat.le_refl _) _).drew | exact (((Below.refl _ _).alloc (Nat.le_refl _) _).alloc (by simp) _).drew))
        clear hK K
        try simp only [Act.put, List.setIfInBounds_toArray, List.set_cons_zero, List.set_cons_succ]
        refine wpAnyH_done (by kernel_rfl) ?_ _
        clear hHeld
        go_wp2
        go_meet
        case rel =>
          have hr2 := (hro.set 0 (.int .i64 (slots + 1))).set 1 (.slice (some ⟨g, 0, none⟩) R.length cap)
          have y10 := hr2.cell 0
          have y11 := hr2.cell 1
          simp at y10 y11
          refine ⟨WM.heap.size, g, cap, rfl, ⟨(hb3.setCell hzo _).setCell hzo _, y10, y11, hzo, f3, hog, by simp; omega, by simp; omega, fun j hj => ?_, fun j => ?_⟩⟩
          · rw [← f1 j hj, World.cell?_setCell_far _ _ _ _ hog, World.cell?_setCell_far _ _ _ _ hog]
          · exact (froz_set (Ne.symm hog)).trans ((froz_set (Ne.symm hog)).trans (f2 j))
  case rest =>
    obtain ⟨ob, g, cap, rfl, hir⟩ := hcut
    have HIR : Hid (IdleR w1 WM b2 o2 R.length (slots + 1) ob g cap wc) := hir
    have hzc : WM.heap.size ≤ wc.heap.size := hir.bel.size
    have hgl := hir.gl
    have hgg := hir.gg
    have hol := hir.ol
    have hog := hir.og
    have hne := hir.ne
    have HBC : Hid (Below WM.heap.size WM wc) := hir.bel
    have HBC1 : Hid (Below w1.heap.size w1 wc) := step_below hir.bel HBM1.out
    have hwm := HWMZ.out
    have hb2l := HRW.out.lt
    obtain ⟨-, -, -, -, -, -, vb2, va2, tt6, -, -, -⟩ := HRW.out.rows k hkl
    have e6 : vb2 = .slice mo r.before.length mc := by
      have h1 := step_cell HB2.out tt6
      rw [t6'] at h1
      injection h1 with h1
      exact h1.symm
    rw [e6] at tt6
    obtain ⟨ln, hln⟩ : ∃ ln, ln = r.before.length := ⟨_, rfl⟩
    have HLN : Hid (r.before.length = ln) := hln.symm
    have hmc2 : 0 < r.before.length → ∃ b o, mo = some ⟨b, o, none⟩ ∧ b < w2.heap.size ∧ ∀ k, k < r.before.length → w2.cell? ⟨b, o + k * 6, none⟩ = some (.int .i64 (r.before.getD k .zero).dst.kind) ∧ w2.cell? ⟨b, o + k * 6 + 1, none⟩ = some (.int .i64 (r.before.getD k .zero).dst.n) ∧ w2.cell? ⟨b, o + k * 6 + 2, none⟩ = some (.int .i64 (r.before.getD k .zero).src.kind) ∧ w2.cell? ⟨b, o + k * 6 + 3, none⟩ = some (.int .i64 (r.before.getD k .zero).src.n) ∧ w2.cell? ⟨b, o + k * 6 + 4, none⟩ = some (.bool (r.before.getD k .zero).cst) ∧ w2.cell? ⟨b, o + k * 6 + 5, none⟩ = some (.int .u32 (r.before.getD k .zero).n) := hmc
    have HMC : Hid _ := hmc2
    rw [← hln] at tt6 h6 h6i
    have HT6 : Hid (w1.cell? ⟨b2, o2 + k * 8 + 6, none⟩ = some (.slice mo ln mc)) := tt6
    clear hln hmc hmc2
    have SW : Hid (∀ wx : World, (∀ j, j < wc.heap.size → j ≠ g → wx.heap[j]? = wc.heap[j]?) → wx.cell? ⟨ob, 1, none⟩ = some (.slice (some ⟨g, 0, none⟩) R.length cap) ∧ wx.cell? ⟨w2.heap.size, 0, none⟩ = some (.int .i64 3) ∧ wx.cell? ⟨w2.heap.size, 1, none⟩ = some (.int .i64 slots) ∧ wx.cell? ⟨w2.heap.size, 2, none⟩ = some (.int .i64 1) ∧ wx.cell? ⟨w2.heap.size, 3, none⟩ = some (.int .i64 n) ∧ wx.cell? ⟨w2.heap.size, 4, none⟩ = some (.bool false) ∧ wx.cell? ⟨w2.heap.size, 5, none⟩ = some (.int .u32 0) ∧ wx.cell? ⟨w1.heap.size, 1, none⟩ = some (.slice (some ⟨b2, o2, none⟩) R.length lc) ∧ wx.cell? ⟨b2, o2 + k * 8 + 6, none⟩ = some (.slice mo ln mc)) := by
      intro wx hx
      have cl : ∀ (p : Addr) (v : Value), p.block < wc.heap.size → p.block ≠ g → wc.cell? p = some v → wx.cell? p = some v := fun p v h1 h2 h3 => by rw [World.cell?_of_block (hx p.block h1 h2)]; exact h3
      refine ⟨cl _ _ hol hne HIR.out.c1, cl _ _ (by dsimp only; omega) (by dsimp only; omega) (step_cell HBC.out m0), cl _ _ (by dsimp only; omega) (by dsimp only; omega) (step_cell HBC.out m1), cl _ _ (by dsimp only; omega) (by dsimp only; omega) (step_cell HBC.out m2), cl _ _ (by dsimp only; omega) (by dsimp only; omega) (step_cell HBC.out m3), cl _ _ (by dsimp only; omega) (by dsimp only; omega) (step_cell HBC.out m4), cl _ _ (by dsimp only; omega) (by dsimp only; omega) (step_cell HBC.out m5), cl _ _ (by dsimp only; omega) (by dsimp only; omega) (step_cell HBC.out l1), cl _ _ (by dsimp only; omega) (by dsimp only; omega) (step_cell HBC1.out tt6)⟩
    have hS0 := SW.out wc (fun _ _ _ => rfl)
    clear m0 m1 m2 m3 m4 m5 l0 l1 e6 tt6 t6'
    have HSW0 : Hid _ := hS0
    have hSC : Hid (∀ wx : World, Below wc.heap.size wc wx → ∀ j, j < wc.heap.size → j ≠ g → wx.heap[j]? = wc.heap[j]?) := fun wx hb j hj _ => hb.block j hj
    have hba : Below wc.heap.size wc ((wc.alloc (.cells #[.int .i64 3, .int .i64 slots, .int .i64 1, .int .i64 n, .bool false, .int .u32 0] 52)).drew) := ((Below.refl _ _).alloc (Nat.le_refl _) _).drew
    have hof := own_first wc ⟨⟨3, slots⟩, ⟨1, n⟩, false, 0⟩
    obtain ⟨tj, hj0, hk0, hk1, hk2⟩ := info_parts infMoveA
    have FIN : Hid (∀ (w5 : World) (h5 cap5 mb moff : Nat), Below wc.heap.size wc w5 → (0 < r.before.length → ∀ k, k < r.before.length → w2.cell? ⟨mb, moff + k * 6, none⟩ = some (.int .i64 (r.before.getD k .zero).dst.kind) ∧ w2.cell? ⟨mb, moff + k * 6 + 1, none⟩ = some (.int .i64 (r.before.getD k .zero).dst.n) ∧ w2.cell? ⟨mb, moff + k * 6 + 2, none⟩ = some (.int .i64 (r.before.getD k .zero).src.kind) ∧ w2.cell? ⟨mb, moff + k * 6 + 3, none⟩ = some (.int .i64 (r.before.getD k .zero).src.n) ∧ w2.cell? ⟨mb, moff + k * 6 + 4, none⟩ = some (.bool (r.before.getD k .zero).cst) ∧ w2.cell? ⟨mb, moff + k * 6 + 5, none⟩ = some (.int .u32 (r.before.getD k .zero).n)) → w5.ownsRow wc.heap.size 52 6 (.slice (some ⟨h5, 0, none⟩) (1 + ln) cap5) (1 + ln) (moveV ⟨⟨3, slots⟩, ⟨1, n⟩, false, 0⟩ ++ cellsAt w2 mb moff (ln * 6)) →
        Below w.heap.size w (w5.setCell ⟨g, k * 8 + 6, none⟩ (.slice (some ⟨h5, 0, none⟩) (1 + ln) cap5)) ∧ PlacedIs (w5.setCell ⟨g, k * 8 + 6, none⟩ (.slice (some ⟨h5, 0, none⟩) (1 + ln) cap5)) (.agg #[.int .i64 (slots + 1), .slice (some ⟨g, 0, none⟩) R.length cap]) (slots + 1) (R.set k { R.getD k .zero with before := ⟨⟨3, slots⟩, ⟨1, n⟩, false, 0⟩ :: (R.getD k .zero).before }) ∧
        (w5.setCell ⟨g, k * 8 + 6, none⟩ (.slice (some ⟨h5, 0, none⟩) (1 + ln) cap5)).cell? ⟨ob, 0, none⟩ = some (.int .i64 (slots + 1)) ∧ (w5.setCell ⟨g, k * 8 + 6, none⟩ (.slice (some ⟨h5, 0, none⟩) (1 + ln) cap5)).cell? ⟨ob, 1, none⟩ = some (.slice (some ⟨g, 0, none⟩) R.length cap) ∧ w5.cell? ⟨g, k * 8 + 6, none⟩ = some (.slice mo ln mc) ∧ w5.frozen? ⟨g, k * 8 + 6, none⟩ = false ∧ (∀ j, j < wc.heap.size → j ≠ g → (w5.setCell ⟨g, k * 8 + 6, none⟩ (.slice (some ⟨h5, 0, none⟩) (1 + ln) cap5)).heap[j]? = wc.heap[j]?)) := by
      intro w5 h5 cap5 mb moff hb5 hmcells hown5
      have hh5 := World.ownsRow.lt hown5 h5 rfl
      have hB1 : Below w1.heap.size w1 (w5.setCell ⟨g, k * 8 + 6, none⟩ (.slice (some ⟨h5, 0, none⟩) (1 + ln) cap5)) := (step_below hb5 HBC1.out).setCell (by dsimp only; omega) _
      have hown6 := ownsRow_setCell_other (a := ⟨g, k * 8 + 6, none⟩) hown5 (by intro e; injection e with e; dsimp only at e; omega) (.slice (some ⟨h5, 0, none⟩) (1 + ln) cap5)
      have hcg : ∀ j, w5.cell? ⟨g, j, none⟩ = wc.cell? ⟨g, j, none⟩ := fun j => hb5.cell (p := ⟨g, j, none⟩) hgl
      have hold : w5.cell? ⟨g, k * 8 + 6, none⟩ = some (.slice mo ln mc) := by
        rw [hcg, HIR.out.cells _ (by omega), show o2 + (k * 8 + 6) = o2 + k * 8 + 6 by omega]
        exact HT6.out
      refine ⟨step_below hB1 HBA.out, ?_, ?_, ?_, ?_, ?_, ?_⟩
      · refine ⟨_, cap, by simp, by simp; omega, fun _ => ⟨g, 0, rfl, ?_⟩⟩
        refine rows_put HRW.out hB1 (by simp; have := hb5.size; omega) hkl (fun j hj hne2 => ?_) ?_ ?_ (mv := .slice (some ⟨h5, 0, none⟩) (1 + ln) cap5)
        · rw [World.cell?_setCell_other _ _ _ _ (by intro e; injection e with e1 e2; exact hne2 e2.symm), hcg, HIR.out.cells j hj]
        · exact World.cell?_setCell_same _ _ _ hold
        · have hl6 : r.before.length ≤ 6 := by have := HLN.out; omega
          rw [← HLN.out] at hown6 ⊢
          rw [HR.out]
          exact moves_more hown6 hmcells hl6
      · exact cell_other (step_cell hb5 HIR.out.c0) hne
      · exact cell_other (step_cell hb5 HIR.out.c1) hne
      · exact hold
      · exact (froz_below hb5 hgl).trans (HIR.out.fz _)
      · exact fun j hj hjg => by rw [Below.heap_setCell _ _ _ _ hjg]; exact hb5.block j hj
    have XO : Hid (∀ wx : World, (∀ j, j < wc.heap.size → j ≠ g → wx.heap[j]? = wc.heap[j]?) → wx.cell? ⟨w.heap.size, 0, none⟩ = some (.slice a0 B.length c0) ∧ wx.cell? ⟨w.heap.size, 1, none⟩ = some (.slice a1 C.length c1) ∧ wx.cell? ⟨w.heap.size + 1, 0, none⟩ = some (.int .i64 s)) := by
      intro wx hx
      obtain ⟨y0, y1, y2⟩ := XA.out _ (step_below HBC1.out HB1.out)
      have cl : ∀ (p : Addr) (v : Value), p.block < wc.heap.size → p.block ≠ g → wc.cell? p = some v → wx.cell? p = some v := fun p v h1 h2 h3 => by rw [World.cell?_of_block (hx p.block h1 h2)]; exact h3
      exact ⟨cl _ _ (by dsimp only; omega) (by dsimp only; omega) y0, cl _ _ (by dsimp only; omega) (by dsimp only; omega) y1, cl _ _ (by dsimp only; omega) (by dsimp only; omega) y2⟩
    clear hS0
    rcases Nat.eq_zero_or_pos ln with hl0 | hl0
    · subst hl0
      rcases mo with _ | ma
      · go_wp2
        refine wp_region_held_drew (S := (fun w' => w'.cell? ⟨ob, 1, none⟩ = some (.slice (some ⟨g, 0, none⟩) R.length cap) ∧ w'.cell? ⟨w2.heap.size, 0, none⟩ = some (.int .i64 3) ∧ w'.cell? ⟨w2.heap.size, 1, none⟩ = some (.int .i64 slots) ∧ w'.cell? ⟨w2.heap.size, 2, none⟩ = some (.int .i64 1) ∧ w'.cell? ⟨w2.heap.size, 3, none⟩ = some (.int .i64 n) ∧ w'.cell? ⟨w2.heap.size, 4, none⟩ = some (.bool false) ∧ w'.cell? ⟨w2.heap.size, 5, none⟩ = some (.int .u32 0) ∧ w'.cell? ⟨w1.heap.size, 1, none⟩ = some (.slice (some ⟨b2, o2, none⟩) R.length lc) ∧ w'.cell? ⟨b2, o2 + k * 8 + 6, none⟩ = some (.slice none 0 mc))) (by rfl) ?_ (fun hHeld => ?_)
        · (exact HSW0.out)
        refine wpAnyH_take (i := 0) (v := ?_) rfl (by kernel_rfl) (by kernel_rfl) (by kernel_rfl) (fun _ _ _ h => h) (Or.inl ⟨by rfl, ?_⟩) (by assumption) ?_
        case refine_2 => (intro w hSw; (try dsimp only at hSw); go_simp; first | done | (with_reducible rfl))
        show wpAnyH _ _ _ _ _ _ _ (Act.put _ (some 91) _) _
        simp only [Act.put, List.setIfInBounds_toArray, List.set_cons_zero, List.set_cons_succ]
        refine wpAnyH_take (i := 1) (v := ?_) rfl (by kernel_rfl) (by kernel_rfl) (by kernel_rfl) (fun _ _ _ h => h) (Or.inl ⟨by rfl, ?_⟩) (by assumption) ?_
        case refine_2 => (intro w hSw; (try dsimp only at hSw); go_simp; first | done | (with_reducible rfl))
        show wpAnyH _ _ _ _ _ _ _ (Act.put _ (some 92) _) _
        simp only [Act.put, List.setIfInBounds_toArray, List.set_cons_zero, List.set_cons_succ]
        refine wpAnyH_take (i := 2) (v := ?_) rfl (by kernel_rfl) (by kernel_rfl) (by kernel_rfl) (fun _ _ _ h => h) (Or.inl ⟨by rfl, ?_⟩) (by assumption) ?_
        case refine_2 => (intro w hSw; (try dsimp only at hSw); go_simp; first | done | (with_reducible rfl))
        show wpAnyH _ _ _ _ _ _ _ (Act.put _ (some 93) _) _
        simp only [Act.put, List.setIfInBounds_toArray, List.set_cons_zero, List.set_cons_succ]
        refine wpAnyH_take (i := 3) (v := ?_) rfl (by kernel_rfl) (by kernel_rfl) (by kernel_rfl) (fun _ _ _ h => h) (Or.inl ⟨by rfl, ?_⟩) (by assumption) ?_
        case refine_2 => (intro w hSw; (try dsimp only at hSw); go_simp; first | done | (with_reducible rfl))
        show wpAnyH _ _ _ _ _ _ _ (Act.put _ (some 94) _) _
        simp only [Act.put, List.setIfInBounds_toArray, List.set_cons_zero, List.set_cons_succ]
        refine wpAnyH_take (i := 5) (v := ?_) rfl (by kernel_rfl) (by kernel_rfl) (by kernel_rfl) (fun _ _ _ h => h) (Or.inl ⟨by rfl, ?_⟩) (by assumption) ?_
        case refine_2 => (intro w hSw; (try dsimp only at hSw); go_simp; first | done | (with_reducible rfl))
        show wpAnyH _ _ _ _ _ _ _ (Act.put _ (some 96) _) _
        simp only [Act.put, List.setIfInBounds_toArray, List.set_cons_zero, List.set_cons_succ]
        refine wpAnyH_take (i := 6) (v := ?_) rfl (by kernel_rfl) (by kernel_rfl) (by kernel_rfl) (fun _ _ _ h => h) (Or.inl ⟨by rfl, ?_⟩) (by assumption) ?_
        case refine_2 => (intro w hSw; (try dsimp only at hSw); go_simp; first | done | (with_reducible rfl))
        show wpAnyH _ _ _ _ _ _ _ (Act.put _ (some 97) _) _
        simp only [Act.put, List.setIfInBounds_toArray, List.set_cons_zero, List.set_cons_succ]
        refine wpAnyH_take (i := 7) (v := ?_) rfl (by kernel_rfl) (by kernel_rfl) (by kernel_rfl) (fun _ _ _ h => h) (Or.inl ⟨by rfl, ?_⟩) (by assumption) ?_
        case refine_2 => (intro w hSw; (try dsimp only at hSw); go_simp; first | done | (with_reducible rfl))
        show wpAnyH _ _ _ _ _ _ _ (Act.put _ (some 98) _) _
        simp only [Act.put, List.setIfInBounds_toArray, List.set_cons_zero, List.set_cons_succ]
        refine wpAnyH_take (i := 8) (v := ?_) rfl (by kernel_rfl) (by kernel_rfl) (by kernel_rfl) (fun _ _ _ h => h) (Or.inl ⟨by rfl, ?_⟩) (by assumption) ?_
        case refine_2 => (intro w hSw; (try dsimp only at hSw); go_simp; first | done | (with_reducible rfl))
        show wpAnyH _ _ _ _ _ _ _ (Act.put _ (some 99) _) _
        simp only [Act.put, List.setIfInBounds_toArray, List.set_cons_zero, List.set_cons_succ]
        refine wpAnyH_take (i := 9) (v := ?_) rfl (by kernel_rfl) (by kernel_rfl) (by kernel_rfl) (fun _ _ _ h => h) (Or.inl ⟨by rfl, ?_⟩) (by assumption) ?_
        case refine_2 => (intro w hSw; (try dsimp only at hSw); go_simp; first | done | (with_reducible rfl))
        show wpAnyH _ _ _ _ _ _ _ (Act.put _ (some 100) _) _
        simp only [Act.put, List.setIfInBounds_toArray, List.set_cons_zero, List.set_cons_succ]
        refine wpAnyH_take (i := 10) (v := ?_) rfl (by kernel_rfl) (by kernel_rfl) (by kernel_rfl) (fun _ _ _ h => h) (Or.inl ⟨by rfl, ?_⟩) (by assumption) ?_
        case refine_2 => (intro w hSw; (try dsimp only at hSw); go_simp; first | done | (with_reducible rfl))
        show wpAnyH _ _ _ _ _ _ _ (Act.put _ (some 101) _) _
        simp only [Act.put, List.setIfInBounds_toArray, List.set_cons_zero, List.set_cons_succ]
        refine wpAnyH_ready (rs := [4]) (by kernel_rfl) (by simp) ?_
        refine (AllReadyH.cons rfl (fun K hK => ?_) AllReadyH.nil)
        go_simp
        refine hK.out _ _ ?_ (fun hHeld => ?_)
        · (exact SW.out _ (hSC.out _ hba))
        clear hK K
        try simp only [Act.put, List.setIfInBounds_toArray, List.set_cons_zero, List.set_cons_succ]
        refine wpAnyH_ready (rs := [11]) (by kernel_rfl) (by simp) ?_
        refine (AllReadyH.cons rfl (fun K hK => ?_) AllReadyH.nil)
        go_simp
        refine hK.out _ _ ?_ (fun hHeld => ?_)
        · (exact SW.out _ (hSC.out _ hba))
        clear hK K
        try simp only [Act.put, List.setIfInBounds_toArray, List.set_cons_zero, List.set_cons_succ]
        obtain ⟨w5, hw5⟩ : ∃ w5, w5 = (wc.alloc (.cells #[.int .i64 3, .int .i64 slots, .int .i64 1, .int .i64 n, .bool false, .int .u32 0] 52)).drew := ⟨_, rfl⟩
        have hb5 : Below wc.heap.size wc w5 := by rw [hw5]; exact hba
        have hown5 : w5.ownsRow wc.heap.size 52 6 (.slice (some ⟨wc.heap.size, 0, none⟩) (1 + 0) 1) (1 + 0) (moveV ⟨⟨3, slots⟩, ⟨1, n⟩, false, 0⟩ ++ cellsAt w2 0 0 (0 * 6)) := by
          have e : cellsAt w2 0 0 (0 * 6) = [] := rfl
          rw [hw5, e, List.append_nil]
          exact hof.drew
        rw [← hw5] at hHeld ⊢
        clear hw5
        obtain ⟨fA, fB, fC, fD, fE, fF, fG⟩ := FIN.out w5 wc.heap.size 1 0 0 hb5 (fun h => by rw [HLN.out] at h; omega) hown5
        simp only [Nat.add_zero] at fA fB fC fD fG
        have HFA : Hid _ := fA
        have HFB : Hid _ := fB
        have HFG : Hid _ := fG
        clear fA fB fG
        refine wpAnyH_take (i := 12) (v := ?_) rfl (by kernel_rfl) (by kernel_rfl) (by kernel_rfl) (fun _ _ _ h => h) (Or.inl ⟨by rfl, ?_⟩) (by assumption) ?_
        case refine_2 => (intro w hSw; (try dsimp only at hSw); go_simp; first | done | (with_reducible rfl))
        show wpAnyH _ _ _ _ _ _ _ (Act.put _ (some 103) _) _
        simp only [Act.put, List.setIfInBounds_toArray, List.set_cons_zero, List.set_cons_succ]
        refine wpAnyH_take (i := 13) (v := ?_) rfl (by kernel_rfl) (by kernel_rfl) (by kernel_rfl) (fun _ _ _ h => h) (Or.inl ⟨by rfl, ?_⟩) (by assumption) ?_
        case refine_2 => (intro w hSw; (try dsimp only at hSw); go_simp; first | done | (with_reducible rfl))
        show wpAnyH _ _ _ _ _ _ _ (Act.put _ (some 104) _) _
        simp only [Act.put, List.setIfInBounds_toArray, List.set_cons_zero, List.set_cons_succ]
        refine wpAnyH_ready (rs := [14]) (by kernel_rfl) (by simp) ?_
        refine (AllReadyH.cons rfl (fun K hK => ?_) AllReadyH.nil)
        go_simp
        refine hK.out _ _ ?_ (fun hHeld => ?_)
        · (exact SW.out _ HFG.out)
        clear hK K
        try simp only [Act.put, List.setIfInBounds_toArray, List.set_cons_zero, List.set_cons_succ]
        refine wpAnyH_done (by kernel_rfl) ?_ _
        clear hHeld
        obtain ⟨x0, x1, x2⟩ := XO.out _ HFG.out
        clear fE fF
        go_wp2_with fail
        go_at_call 6
        refine (HTO.out _ _ B C s (slots + 1) _ _ (HP.out.later HFA.out) HFB.out (rowsOk_put HG.out.ok hkl (by simp) (by simp))).mono ?_
        rintro e w7 ⟨⟨b, rfl, hb⟩, hb7⟩
        obtain rfl : b = true := hb.2 (HID.out B C s slots R k n HG.out (by omega) hkl (by rw [HR.out, HLN.out]; omega) hn0 hn1)
        go_wp2
        go_ret
        exact ⟨rfl, step_below hb7 HFA.out⟩
      · go_wp2
        refine wp_region_held_drew (S := (fun w' => w'.cell? ⟨ob, 1, none⟩ = some (.slice (some ⟨g, 0, none⟩) R.length cap) ∧ w'.cell? ⟨w2.heap.size, 0, none⟩ = some (.int .i64 3) ∧ w'.cell? ⟨w2.heap.size, 1, none⟩ = some (.int .i64 slots) ∧ w'.cell? ⟨w2.heap.size, 2, none⟩ = some (.int .i64 1) ∧ w'.cell? ⟨w2.heap.size, 3, none⟩ = some (.int .i64 n) ∧ w'.cell? ⟨w2.heap.size, 4, none⟩ = some (.bool false) ∧ w'.cell? ⟨w2.heap.size, 5, none⟩ = some (.int .u32 0) ∧ w'.cell? ⟨w1.heap.size, 1, none⟩ = some (.slice (some ⟨b2, o2, none⟩) R.length lc) ∧ w'.cell? ⟨b2, o2 + k * 8 + 6, none⟩ = some (.slice (some ma) 0 mc))) (by rfl) ?_ (fun hHeld => ?_)
        · (exact HSW0.out)
        refine wpAnyH_take (i := 0) (v := ?_) rfl (by kernel_rfl) (by kernel_rfl) (by kernel_rfl) (fun _ _ _ h => h) (Or.inl ⟨by rfl, ?_⟩) (by assumption) ?_
        case refine_2 => (intro w hSw; (try dsimp only at hSw); go_simp; first | done | (with_reducible rfl))
        show wpAnyH _ _ _ _ _ _ _ (Act.put _ (some 91) _) _
        simp only [Act.put, List.setIfInBounds_toArray, List.set_cons_zero, List.set_cons_succ]
        refine wpAnyH_take (i := 1) (v := ?_) rfl (by kernel_rfl) (by kernel_rfl) (by kernel_rfl) (fun _ _ _ h => h) (Or.inl ⟨by rfl, ?_⟩) (by assumption) ?_
        case refine_2 => (intro w hSw; (try dsimp only at hSw); go_simp; first | done | (with_reducible rfl))
        show wpAnyH _ _ _ _ _ _ _ (Act.put _ (some 92) _) _
        simp only [Act.put, List.setIfInBounds_toArray, List.set_cons_zero, List.set_cons_succ]
        refine wpAnyH_take (i := 2) (v := ?_) rfl (by kernel_rfl) (by kernel_rfl) (by kernel_rfl) (fun _ _ _ h => h) (Or.inl ⟨by rfl, ?_⟩) (by assumption) ?_
        case refine_2 => (intro w hSw; (try dsimp only at hSw); go_simp; first | done | (with_reducible rfl))
        show wpAnyH _ _ _ _ _ _ _ (Act.put _ (some 93) _) _
        simp only [Act.put, List.setIfInBounds_toArray, List.set_cons_zero, List.set_cons_succ]
        refine wpAnyH_take (i := 3) (v := ?_) rfl (by kernel_rfl) (by kernel_rfl) (by kernel_rfl) (fun _ _ _ h => h) (Or.inl ⟨by rfl, ?_⟩) (by assumption) ?_
        case refine_2 => (intro w hSw; (try dsimp only at hSw); go_simp; first | done | (with_reducible rfl))
        show wpAnyH _ _ _ _ _ _ _ (Act.put _ (some 94) _) _
        simp only [Act.put, List.setIfInBounds_toArray, List.set_cons_zero, List.set_cons_succ]
        refine wpAnyH_take (i := 5) (v := ?_) rfl (by kernel_rfl) (by kernel_rfl) (by kernel_rfl) (fun _ _ _ h => h) (Or.inl ⟨by rfl, ?_⟩) (by assumption) ?_
        case refine_2 => (intro w hSw; (try dsimp only at hSw); go_simp; first | done | (with_reducible rfl))
        show wpAnyH _ _ _ _ _ _ _ (Act.put _ (some 96) _) _
        simp only [Act.put, List.setIfInBounds_toArray, List.set_cons_zero, List.set_cons_succ]
        refine wpAnyH_take (i := 6) (v := ?_) rfl (by kernel_rfl) (by kernel_rfl) (by kernel_rfl) (fun _ _ _ h => h) (Or.inl ⟨by rfl, ?_⟩) (by assumption) ?_
        case refine_2 => (intro w hSw; (try dsimp only at hSw); go_simp; first | done | (with_reducible rfl))
        show wpAnyH _ _ _ _ _ _ _ (Act.put _ (some 97) _) _
        simp only [Act.put, List.setIfInBounds_toArray, List.set_cons_zero, List.set_cons_succ]
        refine wpAnyH_take (i := 7) (v := ?_) rfl (by kernel_rfl) (by kernel_rfl) (by kernel_rfl) (fun _ _ _ h => h) (Or.inl ⟨by rfl, ?_⟩) (by assumption) ?_
        case refine_2 => (intro w hSw; (try dsimp only at hSw); go_simp; first | done | (with_reducible rfl))
        show wpAnyH _ _ _ _ _ _ _ (Act.put _ (some 98) _) _
        simp only [Act.put, List.setIfInBounds_toArray, List.set_cons_zero, List.set_cons_succ]
        refine wpAnyH_take (i := 8) (v := ?_) rfl (by kernel_rfl) (by kernel_rfl) (by kernel_rfl) (fun _ _ _ h => h) (Or.inl ⟨by rfl, ?_⟩) (by assumption) ?_
        case refine_2 => (intro w hSw; (try dsimp only at hSw); go_simp; first | done | (with_reducible rfl))
        show wpAnyH _ _ _ _ _ _ _ (Act.put _ (some 99) _) _
        simp only [Act.put, List.setIfInBounds_toArray, List.set_cons_zero, List.set_cons_succ]
        refine wpAnyH_take (i := 9) (v := ?_) rfl (by kernel_rfl) (by kernel_rfl) (by kernel_rfl) (fun _ _ _ h => h) (Or.inl ⟨by rfl, ?_⟩) (by assumption) ?_
        case refine_2 => (intro w hSw; (try dsimp only at hSw); go_simp; first | done | (with_reducible rfl))
        show wpAnyH _ _ _ _ _ _ _ (Act.put _ (some 100) _) _
        simp only [Act.put, List.setIfInBounds_toArray, List.set_cons_zero, List.set_cons_succ]
        refine wpAnyH_take (i := 10) (v := ?_) rfl (by kernel_rfl) (by kernel_rfl) (by kernel_rfl) (fun _ _ _ h => h) (Or.inl ⟨by rfl, ?_⟩) (by assumption) ?_
        case refine_2 => (intro w hSw; (try dsimp only at hSw); go_simp; first | done | (with_reducible rfl))
        show wpAnyH _ _ _ _ _ _ _ (Act.put _ (some 101) _) _
        simp only [Act.put, List.setIfInBounds_toArray, List.set_cons_zero, List.set_cons_succ]
        refine wpAnyH_ready (rs := [4]) (by kernel_rfl) (by simp) ?_
        refine (AllReadyH.cons rfl (fun K hK => ?_) AllReadyH.nil)
        go_simp
        refine hK.out _ _ ?_ (fun hHeld => ?_)
        · (exact SW.out _ (hSC.out _ hba))
        clear hK K
        try simp only [Act.put, List.setIfInBounds_toArray, List.set_cons_zero, List.set_cons_succ]
        refine wpAnyH_ready (rs := [11]) (by kernel_rfl) (by simp) ?_
        refine (AllReadyH.cons rfl (fun K hK => ?_) AllReadyH.nil)
        go_simp
        refine hK.out _ _ ?_ (fun hHeld => ?_)
        · (exact SW.out _ (hSC.out _ hba))
        clear hK K
        try simp only [Act.put, List.setIfInBounds_toArray, List.set_cons_zero, List.set_cons_succ]
        obtain ⟨w5, hw5⟩ : ∃ w5, w5 = (wc.alloc (.cells #[.int .i64 3, .int .i64 slots, .int .i64 1, .int .i64 n, .bool false, .int .u32 0] 52)).drew := ⟨_, rfl⟩
        have hb5 : Below wc.heap.size wc w5 := by rw [hw5]; exact hba
        have hown5 : w5.ownsRow wc.heap.size 52 6 (.slice (some ⟨wc.heap.size, 0, none⟩) (1 + 0) 1) (1 + 0) (moveV ⟨⟨3, slots⟩, ⟨1, n⟩, false, 0⟩ ++ cellsAt w2 0 0 (0 * 6)) := by
          have e : cellsAt w2 0 0 (0 * 6) = [] := rfl
          rw [hw5, e, List.append_nil]
          exact hof.drew
        rw [← hw5] at hHeld ⊢
        clear hw5
        obtain ⟨fA, fB, fC, fD, fE, fF, fG⟩ := FIN.out w5 wc.heap.size 1 0 0 hb5 (fun h => by rw [HLN.out] at h; omega) hown5
        simp only [Nat.add_zero] at fA fB fC fD fG
        have HFA : Hid _ := fA
        have HFB : Hid _ := fB
        have HFG : Hid _ := fG
        clear fA fB fG
        refine wpAnyH_take (i := 12) (v := ?_) rfl (by kernel_rfl) (by kernel_rfl) (by kernel_rfl) (fun _ _ _ h => h) (Or.inl ⟨by rfl, ?_⟩) (by assumption) ?_
        case refine_2 => (intro w hSw; (try dsimp only at hSw); go_simp; first | done | (with_reducible rfl))
        show wpAnyH _ _ _ _ _ _ _ (Act.put _ (some 103) _) _
        simp only [Act.put, List.setIfInBounds_toArray, List.set_cons_zero, List.set_cons_succ]
        refine wpAnyH_take (i := 13) (v := ?_) rfl (by kernel_rfl) (by kernel_rfl) (by kernel_rfl) (fun _ _ _ h => h) (Or.inl ⟨by rfl, ?_⟩) (by assumption) ?_
        case refine_2 => (intro w hSw; (try dsimp only at hSw); go_simp; first | done | (with_reducible rfl))
        show wpAnyH _ _ _ _ _ _ _ (Act.put _ (some 104) _) _
        simp only [Act.put, List.setIfInBounds_toArray, List.set_cons_zero, List.set_cons_succ]
        refine wpAnyH_ready (rs := [14]) (by kernel_rfl) (by simp) ?_
        refine (AllReadyH.cons rfl (fun K hK => ?_) AllReadyH.nil)
        go_simp
        refine hK.out _ _ ?_ (fun hHeld => ?_)
        · (exact SW.out _ HFG.out)
        clear hK K
        try simp only [Act.put, List.setIfInBounds_toArray, List.set_cons_zero, List.set_cons_succ]
        refine wpAnyH_done (by kernel_rfl) ?_ _
        clear hHeld
        obtain ⟨x0, x1, x2⟩ := XO.out _ HFG.out
        clear fE fF
        go_wp2_with fail
        go_at_call 6
        refine (HTO.out _ _ B C s (slots + 1) _ _ (HP.out.later HFA.out) HFB.out (rowsOk_put HG.out.ok hkl (by simp) (by simp))).mono ?_
        rintro e w7 ⟨⟨b, rfl, hb⟩, hb7⟩
        obtain rfl : b = true := hb.2 (HID.out B C s slots R k n HG.out (by omega) hkl (by rw [HR.out, HLN.out]; omega) hn0 hn1)
        go_wp2
        go_ret
        exact ⟨rfl, step_below hb7 HFA.out⟩
    · obtain ⟨mb, moff, rfl, -, hmd⟩ := HMC.out (by rw [HLN.out]; exact hl0)
      have HMD : Hid _ := hmd
      have hcs2 := moves_cells hmd
      rw [HLN.out] at hcs2
      clear hmd
      go_wp2
      refine wp_region_held_drew (S := (fun w' => w'.cell? ⟨ob, 1, none⟩ = some (.slice (some ⟨g, 0, none⟩) R.length cap) ∧ w'.cell? ⟨w2.heap.size, 0, none⟩ = some (.int .i64 3) ∧ w'.cell? ⟨w2.heap.size, 1, none⟩ = some (.int .i64 slots) ∧ w'.cell? ⟨w2.heap.size, 2, none⟩ = some (.int .i64 1) ∧ w'.cell? ⟨w2.heap.size, 3, none⟩ = some (.int .i64 n) ∧ w'.cell? ⟨w2.heap.size, 4, none⟩ = some (.bool false) ∧ w'.cell? ⟨w2.heap.size, 5, none⟩ = some (.int .u32 0) ∧ w'.cell? ⟨w1.heap.size, 1, none⟩ = some (.slice (some ⟨b2, o2, none⟩) R.length lc) ∧ w'.cell? ⟨b2, o2 + k * 8 + 6, none⟩ = some (.slice (some ⟨mb, moff, none⟩) ln mc))) (by rfl) ?_ (fun hHeld => ?_)
      · (exact HSW0.out)
      refine wpAnyH_take (i := 0) (v := ?_) rfl (by kernel_rfl) (by kernel_rfl) (by kernel_rfl) (fun _ _ _ h => h) (Or.inl ⟨by rfl, ?_⟩) (by assumption) ?_
      case refine_2 => (intro w hSw; (try dsimp only at hSw); go_simp; first | done | (with_reducible rfl))
      show wpAnyH _ _ _ _ _ _ _ (Act.put _ (some 91) _) _
      simp only [Act.put, List.setIfInBounds_toArray, List.set_cons_zero, List.set_cons_succ]
      refine wpAnyH_take (i := 1) (v := ?_) rfl (by kernel_rfl) (by kernel_rfl) (by kernel_rfl) (fun _ _ _ h => h) (Or.inl ⟨by rfl, ?_⟩) (by assumption) ?_
      case refine_2 => (intro w hSw; (try dsimp only at hSw); go_simp; first | done | (with_reducible rfl))
      show wpAnyH _ _ _ _ _ _ _ (Act.put _ (some 92) _) _
      simp only [Act.put, List.setIfInBounds_toArray, List.set_cons_zero, List.set_cons_succ]
      refine wpAnyH_take (i := 2) (v := ?_) rfl (by kernel_rfl) (by kernel_rfl) (by kernel_rfl) (fun _ _ _ h => h) (Or.inl ⟨by rfl, ?_⟩) (by assumption) ?_
      case refine_2 => (intro w hSw; (try dsimp only at hSw); go_simp; first | done | (with_reducible rfl))
      show wpAnyH _ _ _ _ _ _ _ (Act.put _ (some 93) _) _
      simp only [Act.put, List.setIfInBounds_toArray, List.set_cons_zero, List.set_cons_succ]
      refine wpAnyH_take (i := 3) (v := ?_) rfl (by kernel_rfl) (by kernel_rfl) (by kernel_rfl) (fun _ _ _ h => h) (Or.inl ⟨by rfl, ?_⟩) (by assumption) ?_
      case refine_2 => (intro w hSw; (try dsimp only at hSw); go_simp; first | done | (with_reducible rfl))
      show wpAnyH _ _ _ _ _ _ _ (Act.put _ (some 94) _) _
      simp only [Act.put, List.setIfInBounds_toArray, List.set_cons_zero, List.set_cons_succ]
      refine wpAnyH_take (i := 5) (v := ?_) rfl (by kernel_rfl) (by kernel_rfl) (by kernel_rfl) (fun _ _ _ h => h) (Or.inl ⟨by rfl, ?_⟩) (by assumption) ?_
      case refine_2 => (intro w hSw; (try dsimp only at hSw); go_simp; first | done | (with_reducible rfl))
      show wpAnyH _ _ _ _ _ _ _ (Act.put _ (some 96) _) _
      simp only [Act.put, List.setIfInBounds_toArray, List.set_cons_zero, List.set_cons_succ]
      refine wpAnyH_take (i := 6) (v := ?_) rfl (by kernel_rfl) (by kernel_rfl) (by kernel_rfl) (fun _ _ _ h => h) (Or.inl ⟨by rfl, ?_⟩) (by assumption) ?_
      case refine_2 => (intro w hSw; (try dsimp only at hSw); go_simp; first | done | (with_reducible rfl))
      show wpAnyH _ _ _ _ _ _ _ (Act.put _ (some 97) _) _
      simp only [Act.put, List.setIfInBounds_toArray, List.set_cons_zero, List.set_cons_succ]
      refine wpAnyH_take (i := 7) (v := ?_) rfl (by kernel_rfl) (by kernel_rfl) (by kernel_rfl) (fun _ _ _ h => h) (Or.inl ⟨by rfl, ?_⟩) (by assumption) ?_
      case refine_2 => (intro w hSw; (try dsimp only at hSw); go_simp; first | done | (with_reducible rfl))
      show wpAnyH _ _ _ _ _ _ _ (Act.put _ (some 98) _) _
      simp only [Act.put, List.setIfInBounds_toArray, List.set_cons_zero, List.set_cons_succ]
      refine wpAnyH_take (i := 8) (v := ?_) rfl (by kernel_rfl) (by kernel_rfl) (by kernel_rfl) (fun _ _ _ h => h) (Or.inl ⟨by rfl, ?_⟩) (by assumption) ?_
      case refine_2 => (intro w hSw; (try dsimp only at hSw); go_simp; first | done | (with_reducible rfl))
      show wpAnyH _ _ _ _ _ _ _ (Act.put _ (some 99) _) _
      simp only [Act.put, List.setIfInBounds_toArray, List.set_cons_zero, List.set_cons_succ]
      refine wpAnyH_take (i := 9) (v := ?_) rfl (by kernel_rfl) (by kernel_rfl) (by kernel_rfl) (fun _ _ _ h => h) (Or.inl ⟨by rfl, ?_⟩) (by assumption) ?_
      case refine_2 => (intro w hSw; (try dsimp only at hSw); go_simp; first | done | (with_reducible rfl))
      show wpAnyH _ _ _ _ _ _ _ (Act.put _ (some 100) _) _
      simp only [Act.put, List.setIfInBounds_toArray, List.set_cons_zero, List.set_cons_succ]
      refine wpAnyH_take (i := 10) (v := ?_) rfl (by kernel_rfl) (by kernel_rfl) (by kernel_rfl) (fun _ _ _ h => h) (Or.inl ⟨by rfl, ?_⟩) (by assumption) ?_
      case refine_2 => (intro w hSw; (try dsimp only at hSw); go_simp; first | done | (with_reducible rfl))
      show wpAnyH _ _ _ _ _ _ _ (Act.put _ (some 101) _) _
      simp only [Act.put, List.setIfInBounds_toArray, List.set_cons_zero, List.set_cons_succ]
      refine wpAnyH_ready (rs := [4]) (by kernel_rfl) (by simp) ?_
      refine (AllReadyH.cons rfl (fun K hK => ?_) AllReadyH.nil)
      go_simp
      refine hK.out _ _ ?_ (fun hHeld => ?_)
      · (exact SW.out _ (hSC.out _ hba))
      clear hK K
      try simp only [Act.put, List.setIfInBounds_toArray, List.set_cons_zero, List.set_cons_succ]
      refine wpAnyH_ready (rs := [11]) (by kernel_rfl) (by simp) ?_
      refine (AllReadyH.cons rfl (fun K hK => ?_) AllReadyH.nil)
      refine step_append_lies _ (by rfl) _ _ _ (by rfl) wc.heap.size 52 tj _ 6 40 Tryz.underlying38 hj0 hk0 hk1 hk2 rfl (by omega) (.slice (some ⟨wc.heap.size, 0, none⟩) 1 1) 1 (moveV ⟨⟨3, slots⟩, ⟨1, n⟩, false, 0⟩) (by rfl) (hof.drew) ⟨mb, moff, none⟩ ln mc (cellsAt w2 mb moff (ln * 6)) (by rfl) (by rw [cellsAt_len]) (fun j u hu => step_cell (step_below hba (step_below HBC.out HBM.out)) (cellsAt_news hcs2 j u hu)) (cellsAt_one hcs2) hl0 (by unfold maxLen; omega) (by omega) (by simp) _ rfl ?_
      intro h5 cap5 w5 hown5 hgrow hat hlt
      have hb5 : Below wc.heap.size wc w5 := hba.grown hgrow (by simp) (fun j hj => by cases hj; exact Nat.le_refl _)
      clear hgrow hat hlt
      refine hK.out _ _ ?_ (fun hHeld => ?_)
      · (exact SW.out _ (hSC.out _ hb5))
      clear hK K
      show wpAnyH _ _ _ _ _ _ _ (Act.put _ (some 102) _) _
      simp only [Act.put, List.setIfInBounds_toArray, List.set_cons_zero, List.set_cons_succ]
      obtain ⟨fA, fB, fC, fD, fE, fF, fG⟩ := FIN.out w5 h5 cap5 mb moff hb5 (fun _ => HMD.out) hown5
      have HFA : Hid _ := fA
      have HFB : Hid _ := fB
      have HFG : Hid _ := fG
      clear fA fB fG
      refine wpAnyH_take (i := 12) (v := ?_) rfl (by kernel_rfl) (by kernel_rfl) (by kernel_rfl) (fun _ _ _ h => h) (Or.inl ⟨by rfl, ?_⟩) (by assumption) ?_
      case refine_2 => (intro w hSw; (try dsimp only at hSw); go_simp; first | done | (with_reducible rfl))
      show wpAnyH _ _ _ _ _ _ _ (Act.put _ (some 103) _) _
      simp only [Act.put, List.setIfInBounds_toArray, List.set_cons_zero, List.set_cons_succ]
      refine wpAnyH_take (i := 13) (v := ?_) rfl (by kernel_rfl) (by kernel_rfl) (by kernel_rfl) (fun _ _ _ h => h) (Or.inl ⟨by rfl, ?_⟩) (by assumption) ?_
      case refine_2 => (intro w hSw; (try dsimp only at hSw); go_simp; first | done | (with_reducible rfl))
      show wpAnyH _ _ _ _ _ _ _ (Act.put _ (some 104) _) _
      simp only [Act.put, List.setIfInBounds_toArray, List.set_cons_zero, List.set_cons_succ]
      refine wpAnyH_ready (rs := [14]) (by kernel_rfl) (by simp) ?_
      refine (AllReadyH.cons rfl (fun K hK => ?_) AllReadyH.nil)
      go_simp
      refine hK.out _ _ ?_ (fun hHeld => ?_)
      · (exact SW.out _ HFG.out)
      clear hK K
      try simp only [Act.put, List.setIfInBounds_toArray, List.set_cons_zero, List.set_cons_succ]
      refine wpAnyH_done (by kernel_rfl) ?_ _
      clear hHeld
      obtain ⟨x0, x1, x2⟩ := XO.out _ HFG.out
      clear fE fF
      go_wp2_with fail
      go_at_call 6
      refine (HTO.out _ _ B C s (slots + 1) _ _ (HP.out.later HFA.out) HFB.out (rowsOk_put HG.out.ok hkl (by simp) (by simp))).mono ?_
      rintro e w7 ⟨⟨b, rfl, hb⟩, hb7⟩
      obtain rfl : b = true := hb.2 (HID.out B C s slots R k n HG.out (by omega) hkl (by rw [HR.out, HLN.out]; omega) hn0 hn1)
      go_wp2
      go_ret
      exact ⟨rfl, step_below hb7 HFA.out⟩
end Go.Proofs.YtcmnmogmdhofcabGreat.form
