/- Whether an instruction's A and B are where its row says (world.finds). -/
import Derived.Test.YtdbjklngnloibabGreatT24

namespace Go.Proofs.YtdbjklngnloibabGreat.form
open Go.RowKit Go.Maps
set_option linter.unusedVariables false
set_option maxRecDepth 100000
attribute [local go_sem ↓] Go.wp_at_zero Go.wp_at_succ

theorem asAgg_run (P : Program) (cs : Array Value) (w : World) : Sem.run P (asAgg (.agg cs)) w = .ok cs w := rfl
theorem field_has (x y : Value) (w : World) : (Instr.field 96 (.agg #[x, y]) 0).run Tryz.prog w = .ok x w := by
  have hu := Tryz.underlying96
  simp [go_sem, Instr.field, asAgg_run]
attribute [local go_sem] field_has

theorem uses_has {B : List Bool} {s : Int} {ok : LFact → Prop} {N : List Int} {m m2 : FM} {i : LIns} {r : LRow} (hi2 : ∀ f, Kof N m2 f ↔ movesK ok r.before (Kof N m) f) (ha0 : 0 ≤ i.a) (hb0 : 0 ≤ i.b) (ra : fieldP B s (decide (0 < manyI i.op)) i.a r.a = true) (rb : fieldP B s (decide (1 < manyI i.op)) i.b r.b = true) :
    ((!decide (0 < manyI i.op) || (m2.has r.a).getLsbD i.a.toNat) && (!decide (1 < manyI i.op) || (m2.has r.b).getLsbD i.b.toNat)) = true ↔ usesK ok i r (Kof N m) := by
  have key : ∀ (p : LPlace) (t : Int), 0 ≤ t → (p.kind = 1 ∨ p.kind = 2) → (movesK ok r.before (Kof N m) ⟨p, true, t, 0⟩ ↔ (m2.has p).getLsbD t.toNat = true) := by
    intro p t h0 hk
    rw [← hi2]
    unfold Kof
    rw [if_neg (by simp only; omega), if_pos rfl]
    exact ⟨fun h => h.2.2, fun h => ⟨rfl, h0, h⟩⟩
  have kA : 0 < manyI i.op → (r.a.kind = 1 ∨ r.a.kind = 2) := fun hp => by
    unfold fieldP at ra
    rw [if_pos (by simpa using hp)] at ra
    exact (reg_is (slots := 0) ra).2.1
  have kB : 1 < manyI i.op → (r.b.kind = 1 ∨ r.b.kind = 2) := fun hp => by
    unfold fieldP at rb
    rw [if_pos (by simpa using hp)] at rb
    exact (reg_is (slots := 0) rb).2.1
  unfold usesK
  rw [Bool.and_eq_true]
  refine and_congr ?_ ?_
  · by_cases hp : 0 < manyI i.op
    · rw [key _ _ ha0 (kA hp)]
      simp [hp]
    · simp [hp]
  · by_cases hp : 1 < manyI i.op
    · rw [key _ _ hb0 (kB hp)]
      simp [hp]
    · simp [hp]

theorem row_wfA {B : List Bool} {C : List LIns} {A : List LPlace} {N : List Int} {s slots : Nat} {th : Bool} {t : Int} {p : LPlace} (hD : Dims B C s slots A N) (h : fieldP B s th t p = true) : PlWf p := by
  unfold fieldP at h
  split at h
  · exact hD.wf (reg_is (slots := slots) h).1
  · simp at h
    exact ⟨by omega, by omega, by omega, by omega⟩

/-- What finds answers. -/
def FindS (a ca b cb : Bool) : Bool := (!a || ca) && (!b || cb)

set_option maxHeartbeats 1600000 in
theorem findsW {w : World} {lim : Nat} {g : WB} {B : List Bool} {C : List LIns} {R : List LRow} {A : List LPlace} {N : List Int} {s slots : Nat} (hW : WorldAt w lim g B C R A N) (hD : Dims B C s slots A N) (hnd : A.Nodup) (hib : ∀ k, k < C.length → insB B C.length (C.getD k .zero) = true) (hrb : ∀ k, k < C.length → rowB B s slots (C.getD k .zero) (R.getD k .zero) = true) (hRl : R.length = C.length) (k : Nat) (hk : k < C.length) (q mp mt : Nat) (T : List Int) (hT : ∀ t, t ∈ T ↔ 0 ≤ t ∧ t < B.length) (hTl : T.length ≤ 12) (m : FM) (hF : FMAt w q mp mt A T m) (hok : FmOk B s slots N m) (hio : ∀ k, k < C.length → InsOk B.length C.length (C.getD k .zero)) :
    Calls Tryz.prog 15 #[.pointer (some ⟨g.q, 0, none⟩), .int .i64 k, .pointer (some ⟨q, 0, none⟩)] w fun e w' => (∃ z, e = .returned (.bool z) ∧ (z = true ↔ usesK (FactOk B s slots (NumP C)) (C.getD k .zero) (R.getD k .zero) (Kof N m))) ∧ Below w.heap.size w w' := by
  have HIO : Hid (InsOk B.length C.length (C.getD k .zero)) := hio k hk
  have hb12 := hD.b12
  clear hio
  have hkz : (k : Int) < (C.length : Int) := by omega
  have hkr : (k : Int) < (R.length : Int) := by omega
  have hc40 := hD.c40
  have hc40z : (C.length : Int) ≤ 40 := by omega
  have HW : Hid (WorldAt w lim g B C R A N) := hW
  have HD : Hid (Dims B C s slots A N) := hD
  have HF : Hid (FMAt w q mp mt A T m) := hF
  have HOK : Hid (FmOk B s slots N m) := hok
  have HND : Hid (A.Nodup) := hnd
  have HT : Hid (∀ t, t ∈ T ↔ 0 ≤ t ∧ t < B.length) := hT
  have hst := hW.stat
  have p1 := hst.p1
  have p2 := hst.p2
  have hgq := cell_lt p1
  obtain ⟨i0, i1, i2, i3, i4, i5⟩ := hst.held.code k hk
  obtain ⟨r0, r1, r2, r3, r4, r5, vb, va, r6, r7, hmb, hma⟩ := hst.rows.rows k (by omega)
  have HIB : Hid (insB B C.length (C.getD k .zero) = true) := hib k hk
  have HRB : Hid (rowB B s slots (C.getD k .zero) (R.getD k .zero) = true) := hrb k hk
  obtain ⟨i, hi⟩ : ∃ i, i = C.getD k .zero := ⟨_, rfl⟩
  obtain ⟨r, hr⟩ : ∃ r, r = R.getD k .zero := ⟨_, rfl⟩
  rw [← hi] at i0 i1 i2 i3 i4 i5 HIB HRB
  rw [← hr] at r0 r1 r2 r3 r4 r5 hmb hma HRB
  have HI : Hid (i = C.getD k .zero) := hi
  have HR : Hid (r = R.getD k .zero) := hr
  have hmb0 := hmb
  have hma0 := hma
  obtain ⟨aob, cb, hvb, _, _⟩ := hmb0
  obtain ⟨aoa, ca, hva, _, _⟩ := hma0
  subst hvb
  subst hva
  have HMB : Hid (MovesIs w (.slice aob r.before.length cb) r.before) := hmb
  have HMA : Hid (MovesIs w (.slice aoa r.after.length ca) r.after) := hma
  have hbl := cell_lt i0
  have hrl := cell_lt r0
  have o1 : ∀ x : Obj, Below w.heap.size w (w.alloc x).drew := fun x => ((Below.refl _ _).alloc (Nat.le_refl _) _).drew
  have o2 : ∀ x y : Obj, Below w.heap.size w ((w.alloc x).alloc y).drew := fun x y => (((Below.refl _ _).alloc (Nat.le_refl _) _).alloc (by simp) _).drew
  clear hW hD hF hok hnd hT hst hib hrb hi hr hmb hma
  go_enter Tryz.func15, Tryz.ntmps15
  go_upto_region 1 with fail
  go_cut [7, 8] (fun s7 s8 wq => BhR w i r (.slice aob r.before.length cb) (.slice aoa r.after.length ca) s7 s8 wq)
  case first =>
    refine wp_region_held_drew (S := (fun w' => Below w.heap.size w w')) (by rfl) ?_ (fun hHeld => ?_)
    · (exact (Below.refl _ _).drew)
    refine wpAnyH_take (i := 0) (v := ?_) rfl (by kernel_rfl) (by kernel_rfl) (by kernel_rfl) (fun _ _ _ h => h) (Or.inl ⟨by rfl, ?_⟩) (by assumption) ?_
    case refine_2 => (intro w hSw; (try dsimp only at hSw); go_simp; first | done | (with_reducible rfl))
    show wpAnyH _ _ _ _ _ _ _ (Act.put _ (some 13) _) _
    simp only [Act.put, List.setIfInBounds_toArray, List.set_cons_zero, List.set_cons_succ]
    refine wpAnyH_take (i := 1) (v := ?_) rfl (by kernel_rfl) (by kernel_rfl) (by kernel_rfl) (fun _ _ _ h => h) (Or.inl ⟨by rfl, ?_⟩) (by assumption) ?_
    case refine_2 => (intro w hSw; (try dsimp only at hSw); go_simp; first | done | (with_reducible rfl))
    show wpAnyH _ _ _ _ _ _ _ (Act.put _ (some 14) _) _
    simp only [Act.put, List.setIfInBounds_toArray, List.set_cons_zero, List.set_cons_succ]
    refine wpAnyH_take (i := 2) (v := ?_) rfl (by kernel_rfl) (by kernel_rfl) (by kernel_rfl) (fun _ _ _ h => h) (Or.inl ⟨by rfl, ?_⟩) (by assumption) ?_
    case refine_2 => (intro w hSw; (try dsimp only at hSw); go_simp; first | done | (with_reducible rfl))
    show wpAnyH _ _ _ _ _ _ _ (Act.put _ (some 15) _) _
    simp only [Act.put, List.setIfInBounds_toArray, List.set_cons_zero, List.set_cons_succ]
    refine wpAnyH_take (i := 3) (v := ?_) rfl (by kernel_rfl) (by kernel_rfl) (by kernel_rfl) (fun _ _ _ h => h) (Or.inl ⟨by rfl, ?_⟩) (by assumption) ?_
    case refine_2 => (intro w hSw; (try dsimp only at hSw); go_simp; first | done | (with_reducible rfl))
    show wpAnyH _ _ _ _ _ _ _ (Act.put _ (some 16) _) _
    simp only [Act.put, List.setIfInBounds_toArray, List.set_cons_zero, List.set_cons_succ]
    refine wpAnyH_take (i := 4) (v := ?_) rfl (by kernel_rfl) (by kernel_rfl) (by kernel_rfl) (fun _ _ _ h => h) (Or.inl ⟨by rfl, ?_⟩) (by assumption) ?_
    case refine_2 => (intro w5 hSw; (try dsimp only at hSw); have sp1 := step_cell hSw p1; go_simp; first | done | (with_reducible rfl))
    show wpAnyH _ _ _ _ _ _ _ (Act.put _ (some 17) _) _
    simp only [Act.put, List.setIfInBounds_toArray, List.set_cons_zero, List.set_cons_succ]
    refine wpAnyH_take (i := 5) (v := ?_) rfl (by kernel_rfl) (by kernel_rfl) (by kernel_rfl) (fun _ _ _ h => h) (Or.inl ⟨by rfl, ?_⟩) (by assumption) ?_
    case refine_2 => (intro w hSw; (try dsimp only at hSw); go_simp; first | done | (with_reducible rfl))
    show wpAnyH _ _ _ _ _ _ _ (Act.put _ (some 18) _) _
    simp only [Act.put, List.setIfInBounds_toArray, List.set_cons_zero, List.set_cons_succ]
    refine wpAnyH_take (i := 6) (v := ?_) rfl (by kernel_rfl) (by kernel_rfl) (by kernel_rfl) (fun _ _ _ h => h) (Or.inl ⟨by rfl, ?_⟩) (by assumption) ?_
    case refine_2 => (intro w hSw; (try dsimp only at hSw); go_simp; first | done | (with_reducible rfl))
    show wpAnyH _ _ _ _ _ _ _ (Act.put _ (some 19) _) _
    simp only [Act.put, List.setIfInBounds_toArray, List.set_cons_zero, List.set_cons_succ]
    refine wpAnyH_take (i := 7) (v := ?_) rfl (by kernel_rfl) (by kernel_rfl) (by kernel_rfl) (fun _ _ _ h => h) (Or.inl ⟨by rfl, ?_⟩) (by assumption) ?_
    case refine_2 => (intro w5 hSw; (try dsimp only at hSw); have si0 := step_cell hSw i0; have si1 := step_cell hSw i1; have si2 := step_cell hSw i2; have si3 := step_cell hSw i3; have si4 := step_cell hSw i4; have si5 := step_cell hSw i5; go_simp; first | done | (with_reducible rfl))
    show wpAnyH _ _ _ _ _ _ _ (Act.put _ (some 20) _) _
    simp only [Act.put, List.setIfInBounds_toArray, List.set_cons_zero, List.set_cons_succ]
    refine wpAnyH_take (i := 8) (v := ?_) rfl (by kernel_rfl) (by kernel_rfl) (by kernel_rfl) (fun _ _ _ h => h) (Or.inl ⟨by rfl, ?_⟩) (by assumption) ?_
    case refine_2 => (intro w hSw; (try dsimp only at hSw); go_simp; first | done | (with_reducible rfl))
    show wpAnyH _ _ _ _ _ _ _ (Act.put _ (some 21) _) _
    simp only [Act.put, List.setIfInBounds_toArray, List.set_cons_zero, List.set_cons_succ]
    refine wpAnyH_take (i := 9) (v := ?_) rfl (by kernel_rfl) (by kernel_rfl) (by kernel_rfl) (fun _ _ _ h => h) (Or.inl ⟨by rfl, ?_⟩) (by assumption) ?_
    case refine_2 => (intro w hSw; (try dsimp only at hSw); go_simp; first | done | (with_reducible rfl))
    show wpAnyH _ _ _ _ _ _ _ (Act.put _ (some 22) _) _
    simp only [Act.put, List.setIfInBounds_toArray, List.set_cons_zero, List.set_cons_succ]
    refine wpAnyH_take (i := 10) (v := ?_) rfl (by kernel_rfl) (by kernel_rfl) (by kernel_rfl) (fun _ _ _ h => h) (Or.inl ⟨by rfl, ?_⟩) (by assumption) ?_
    case refine_2 => (intro w hSw; (try dsimp only at hSw); go_simp; first | done | (with_reducible rfl))
    show wpAnyH _ _ _ _ _ _ _ (Act.put _ (some 23) _) _
    simp only [Act.put, List.setIfInBounds_toArray, List.set_cons_zero, List.set_cons_succ]
    refine wpAnyH_take (i := 11) (v := ?_) rfl (by kernel_rfl) (by kernel_rfl) (by kernel_rfl) (fun _ _ _ h => h) (Or.inl ⟨by rfl, ?_⟩) (by assumption) ?_
    case refine_2 => (intro w5 hSw; (try dsimp only at hSw); have sp2 := step_cell hSw p2; go_simp; first | done | (with_reducible rfl))
    show wpAnyH _ _ _ _ _ _ _ (Act.put _ (some 24) _) _
    simp only [Act.put, List.setIfInBounds_toArray, List.set_cons_zero, List.set_cons_succ]
    refine wpAnyH_take (i := 12) (v := ?_) rfl (by kernel_rfl) (by kernel_rfl) (by kernel_rfl) (fun _ _ _ h => h) (Or.inl ⟨by rfl, ?_⟩) (by assumption) ?_
    case refine_2 => (intro w hSw; (try dsimp only at hSw); go_simp; first | done | (with_reducible rfl))
    show wpAnyH _ _ _ _ _ _ _ (Act.put _ (some 25) _) _
    simp only [Act.put, List.setIfInBounds_toArray, List.set_cons_zero, List.set_cons_succ]
    refine wpAnyH_take (i := 13) (v := ?_) rfl (by kernel_rfl) (by kernel_rfl) (by kernel_rfl) (fun _ _ _ h => h) (Or.inl ⟨by rfl, ?_⟩) (by assumption) ?_
    case refine_2 => (intro w hSw; (try dsimp only at hSw); go_simp; first | done | (with_reducible rfl))
    show wpAnyH _ _ _ _ _ _ _ (Act.put _ (some 26) _) _
    simp only [Act.put, List.setIfInBounds_toArray, List.set_cons_zero, List.set_cons_succ]
    refine wpAnyH_take (i := 14) (v := ?_) rfl (by kernel_rfl) (by kernel_rfl) (by kernel_rfl) (fun _ _ _ h => h) (Or.inl ⟨by rfl, ?_⟩) (by assumption) ?_
    case refine_2 => (intro w5 hSw; (try dsimp only at hSw); have sr0 := step_cell hSw r0; have sr1 := step_cell hSw r1; have sr2 := step_cell hSw r2; have sr3 := step_cell hSw r3; have sr4 := step_cell hSw r4; have sr5 := step_cell hSw r5; have sr6 := step_cell hSw r6; have sr7 := step_cell hSw r7; go_simp; first | done | (with_reducible rfl))
    show wpAnyH _ _ _ _ _ _ _ (Act.put _ (some 27) _) _
    simp only [Act.put, List.setIfInBounds_toArray, List.set_cons_zero, List.set_cons_succ]
    refine wpAnyH_ready (rs := [15, 16]) (by kernel_rfl) (by simp) ?_
    refine (AllReadyH.cons rfl (fun K hK => ?_) (AllReadyH.cons rfl (fun K hK => ?_) AllReadyH.nil))
    · skip
      go_simp
      refine hK.out _ _ ?_ (fun hHeld => ?_)
      · (exact o1 _)
      clear hK K
      try simp only [Act.put, List.setIfInBounds_toArray, List.set_cons_zero, List.set_cons_succ]
      refine wpAnyH_ready (rs := [16]) (by kernel_rfl) (by simp) ?_
      refine (AllReadyH.cons rfl (fun K hK => ?_) AllReadyH.nil)
      go_simp
      refine hK.out _ _ ?_ (fun hHeld => ?_)
      · (exact o2 _ _)
      clear hK K
      try simp only [Act.put, List.setIfInBounds_toArray, List.set_cons_zero, List.set_cons_succ]
      refine wpAnyH_ready (rs := [17]) (by kernel_rfl) (by simp) ?_
      refine (AllReadyH.cons rfl (fun K hK => ?_) AllReadyH.nil)
      go_simp
      refine hK.out _ _ ?_ (fun hHeld => ?_)
      · (exact o2 _ _)
      clear hK K
      try simp only [Act.put, List.setIfInBounds_toArray, List.set_cons_zero, List.set_cons_succ]
      refine wpAnyH_ready (rs := [18]) (by kernel_rfl) (by simp) ?_
      refine (AllReadyH.cons rfl (fun K hK => ?_) AllReadyH.nil)
      go_simp
      refine hK.out _ _ ?_ (fun hHeld => ?_)
      · (exact o2 _ _)
      clear hK K
      try simp only [Act.put, List.setIfInBounds_toArray, List.set_cons_zero, List.set_cons_succ]
      refine wpAnyH_done (by kernel_rfl) ?_ _
      clear hHeld
      go_wp2_with fail
      go_meet
      case rel => exact bh12 w i r (.slice aob r.before.length cb) (.slice aoa r.after.length ca)
    · skip
      go_simp
      refine hK.out _ _ ?_ (fun hHeld => ?_)
      · (exact o1 _)
      clear hK K
      try simp only [Act.put, List.setIfInBounds_toArray, List.set_cons_zero, List.set_cons_succ]
      refine wpAnyH_ready (rs := [15]) (by kernel_rfl) (by simp) ?_
      refine (AllReadyH.cons rfl (fun K hK => ?_) AllReadyH.nil)
      go_simp
      refine hK.out _ _ ?_ (fun hHeld => ?_)
      · (exact o2 _ _)
      clear hK K
      try simp only [Act.put, List.setIfInBounds_toArray, List.set_cons_zero, List.set_cons_succ]
      refine wpAnyH_ready (rs := [17]) (by kernel_rfl) (by simp) ?_
      refine (AllReadyH.cons rfl (fun K hK => ?_) AllReadyH.nil)
      go_simp
      refine hK.out _ _ ?_ (fun hHeld => ?_)
      · (exact o2 _ _)
      clear hK K
      try simp only [Act.put, List.setIfInBounds_toArray, List.set_cons_zero, List.set_cons_succ]
      refine wpAnyH_ready (rs := [18]) (by kernel_rfl) (by simp) ?_
      refine (AllReadyH.cons rfl (fun K hK => ?_) AllReadyH.nil)
      go_simp
      refine hK.out _ _ ?_ (fun hHeld => ?_)
      · (exact o2 _ _)
      clear hK K
      try simp only [Act.put, List.setIfInBounds_toArray, List.set_cons_zero, List.set_cons_succ]
      refine wpAnyH_done (by kernel_rfl) ?_ _
      clear hHeld
      go_wp2_with fail
      go_meet
      case rel => exact bh21 w i r (.slice aob r.before.length cb) (.slice aoa r.after.length ca)
  case rest =>
    obtain ⟨bi, br, hs7, hs8, hbh⟩ := hcut
    subst hs7
    subst hs8
    obtain ⟨wd, hwd⟩ : ∃ wd, wd = wc := ⟨_, rfl⟩
    rw [← hwd] at hbh ⊢
    clear hwd i0 i1 i2 i3 i4 i5 r0 r1 r2 r3 r4 r5 r6 r7 p1 p2 o1 o2
    have HBH : Hid (BhS w i r (.slice aob r.before.length cb) (.slice aoa r.after.length ca) bi br wd) := hbh
    have hle := HW.out.le
    have hsz := hbh.bel.size
    have hbi := cell_lt hbh.i0
    have hbr := cell_lt hbh.r0
    have c := cloneF q mp mt A T m wd (HF.out.below hbh.bel)
    clear hbh
    go_upto_region 3 with (go_at_call 38; refine c.mono ?_; rintro e w1 ⟨q1, mp1, mt1, rfl, hq1, hp1, ht1, hf1, hb1⟩; have HF1 : Hid (FMAt w1 q1 mp1 mt1 A T m) := hf1; have HB1 : Hid (Below wd.heap.size wd w1) := hb1; clear hf1 hb1)
    clear c
    have HBH1 : Hid (BhS w i r (.slice aob r.before.length cb) (.slice aoa r.after.length ca) bi br w1) := HBH.out.below HB1.out
    have hr6 := HBH1.out.r6
    have hm0 := row_moves HRB.out
    have c := moveAllW HD.out q1 mp1 mt1 T (by omega) (by omega) r.before hm0.1.1 hm0.1.2 (.slice aob r.before.length cb) w1 (HW.out.below HBH1.out.bel) m HF1.out HOK.out (HMB.out.later HBH1.out.bel) (moves_ne HMB.out (by omega))
    clear hm0
    go_upto_region 4 with (go_at_call 39; refine c.mono ?_; rintro e w2 ⟨rfl, m2, hf2, hk2, hi2, hb2⟩; have HF2 : Hid (FMAt w2 q1 mp1 mt1 A T m2) := hf2; have HK2 : Hid (FmOk B s slots N m2) := hk2; have HI2 : Hid (∀ f, Kof N m2 f ↔ movesK (FactOk B s slots (NumP C)) r.before (Kof N m) f) := hi2; have HB2 : Hid (But mp1 mp1 w1 w2) := hb2; clear hf2 hk2 hi2 hb2)
    clear c hr6
    have HBH2 : Hid (BhS w i r (.slice aob r.before.length cb) (.slice aoa r.after.length ca) bi br w2) := HBH1.out.but HB2.out (Or.inr ⟨by omega, by omega, by omega⟩) (Or.inr ⟨by omega, by omega, by omega⟩)
    have h0 := HBH2.out.i0
    have c := has i.op w2
    rw [(isT_many (ins_known HIB.out)).1, (isT_many (ins_known HIB.out)).2] at c
    obtain ⟨gv, hgv⟩ : ∃ gv, gv = isT (kd i.op 0) := ⟨_, rfl⟩
    obtain ⟨aB, haB⟩ : ∃ aB, aB = decide (0 < manyI i.op) := ⟨_, rfl⟩
    obtain ⟨bB, hbB⟩ : ∃ bB, bB = decide (1 < manyI i.op) := ⟨_, rfl⟩
    rw [← hgv, ← haB, ← hbB] at c
    have HAB : Hid (aB = decide (0 < manyI i.op)) := haB
    have HBB : Hid (bB = decide (1 < manyI i.op)) := hbB
    clear hgv haB hbB
    go_upto_region 5 with (go_at_call 40; refine c.mono ?_; rintro e w3 ⟨rfl, hb3⟩; have HB3 : Hid (Below w2.heap.size w2 w3) := hb3; clear hb3)
    clear c h0
    have HBH3 : Hid (BhS w i r (.slice aob r.before.length cb) (.slice aoa r.after.length ca) bi br w3) := HBH2.out.below HB3.out
    have HF3 : Hid (FMAt w3 q1 mp1 mt1 A T m2) := HF2.out.below HB3.out
    have hio := HIO.out
    rw [← HI.out] at hio
    have ha0 := hio.a0
    have ha1 := hio.a1
    have hb0 := hio.b0
    have hb1 := hio.b1
    obtain ⟨ka, hka⟩ : ∃ ka : Nat, i.a = ka := ⟨i.a.toNat, by omega⟩
    obtain ⟨kb, hkb⟩ : ∃ kb : Nat, i.b = kb := ⟨i.b.toNat, by omega⟩
    have ha64 : ka < 64 := by omega
    have hb64 : kb < 64 := by omega
    have h2 := HBH3.out.i2
    have h3 := HBH3.out.i3
    rw [hka] at h2
    rw [hkb] at h3
    have k2 := HBH3.out.r2
    have k3 := HBH3.out.r3
    have k4 := HBH3.out.r4
    have k5 := HBH3.out.r5
    have c0 := HF3.out.c0
    have hwa : PlWf r.a := row_wfA (B := B) HD.out (row_fields HRB.out).2.1
    have hwb : PlWf r.b := row_wfA (B := B) HD.out (row_fields HRB.out).2.2
    obtain ⟨xa, hxa⟩ : ∃ x, x = m2.has r.a := ⟨_, rfl⟩
    obtain ⟨ya, hya⟩ : ∃ x, x = m2.is r.a := ⟨_, rfl⟩
    obtain ⟨xb, hxb⟩ : ∃ x, x = m2.has r.b := ⟨_, rfl⟩
    obtain ⟨yb, hyb⟩ : ∃ x, x = m2.is r.b := ⟨_, rfl⟩
    have hla : ∀ k, (Instr.lookup 97 (.map (some mp1)) (.agg #[.int .i64 r.a.kind, .int .i64 r.a.n]) false).run Tryz.prog (w3.drewN k) = .ok (.agg #[.int .u64 (bn xa), .int .u64 (bn ya)]) (w3.drewN k) := fun k => by
      have h := PMap.look (w := w3.drewN k) (HF3.out.pm.of_block rfl) hwa
      rw [← hxa, ← hya] at h
      exact h
    have hlb : ∀ k, (Instr.lookup 97 (.map (some mp1)) (.agg #[.int .i64 r.b.kind, .int .i64 r.b.n]) false).run Tryz.prog (w3.drewN k) = .ok (.agg #[.int .u64 (bn xb), .int .u64 (bn yb)]) (w3.drewN k) := fun k => by
      have h := PMap.look (w := w3.drewN k) (HF3.out.pm.of_block rfl) hwb
      rw [← hxb, ← hyb] at h
      exact h
    obtain ⟨fa, hfa⟩ : ∃ f, f = xa.getLsbD ka := ⟨_, rfl⟩
    obtain ⟨fb, hfb⟩ : ∃ f, f = xb.getLsbD kb := ⟨_, rfl⟩
    have cA := fun w => containsO xa ka ha64 w
    have cB := fun w => containsO xb kb hb64 w
    rw [← hfa] at cA
    rw [← hfb] at cB
    have HU : Hid (FindS aB fa bB fb = true ↔ usesK (FactOk B s slots (NumP C)) i r (Kof N m)) := by
      have h := uses_has (B := B) (s := s) HI2.out ha0 hb0 (row_fields HRB.out).2.1 (row_fields HRB.out).2.2
      rw [← HAB.out, ← HBB.out, ← hxa, ← hxb, show i.a.toNat = ka by rw [hka]; rfl, show i.b.toNat = kb by rw [hkb]; rfl, ← hfa, ← hfb] at h
      exact h
    clear hxa hya hxb hyb hfa hfb hwa hwb ha0 ha1 hb0 hb1 hka hkb hio HAB HBB
    have HBEL : Hid (∀ k, Below w.heap.size w (w3.drewN k)) := fun k => below_drewN HBH3.out.bel k
    rcases Bool.eq_false_or_eq_true aB with q1 | q1 <;> rcases Bool.eq_false_or_eq_true bB with q2 | q2 <;> rcases Bool.eq_false_or_eq_true fa with q3 | q3 <;> rcases Bool.eq_false_or_eq_true fb with q4 | q4 <;> subst q1 <;> subst q2 <;> subst q3 <;> subst q4
    all_goals
      go_big_quiet (first | (go_at_call_of 41 (Value.int .i64 (ka : Int)); exact Calls.quiet_of_same (cA _)) | (go_at_call_of 41 (Value.int .i64 (kb : Int)); exact Calls.quiet_of_same (cB _)))
      go_wp2_with fail
      go_ret
      refine ⟨⟨_, rfl, ?_⟩, HBEL.out _⟩
      rw [← HI.out, ← HR.out]
      exact HU.out
end Go.Proofs.YtdbjklngnloibabGreat.form
