/- What the closures do that the program's machine makes of an instruction, whatever its ends: a step's deed on the machine. -/
import Derived.Deep.AppendLies
import Derived.Test.YtcmnmogmdhofcaaB11

namespace Go.Proofs.Ytcmnmogmdhofcaa.form
open Go.RowKit Go.Proofs.Ytcmnmogmdhofcaa.num
set_option linter.unusedVariables false
set_option maxRecDepth 100000
attribute [local go_sem ↓] Go.wp_at_zero Go.wp_at_succ

section
variable {K : StoK} {mb sb db base bm bi be : Nat} {s : K.S} {ov : Value} {l : List Int} {st k : Int} {iv : Value} {I : List Int} {pc : Int} {i : LIns} {x : EndF} {w : World} {rdA rdB : K.S → Int} {wr : K.S → Int → K.S}

/-- An instruction that has no Dest leaves the store as it is. -/
theorem act_none (hg : ¬ givesB i.op = true) (y : Int) : (plainE rdA rdB wr).act i s y = s := by
  show (if givesB i.op = true then _ else _) = s
  rw [if_neg hg]; rfl

theorem deed2 (hb : Box mb sb db bm bi be i x w) (hm : MS K mb sb base s ov l st k iv I pc w) (ho : i.op = 8) :
    Calls Try.prog 81 #[.pointer (some ⟨bi, 0, none⟩), .pointer (some ⟨bm, 0, none⟩)] w fun e w' => e = .returned (.tuple #[]) ∧ Behind K mb sb base i (plainE rdA rdB wr) s l st k I pc w w' := by
  have cm := hb.pm
  have c4 := hb.i4
  have cp := hm.cpc
  have fz := hm.fz 4
  have HB : Hid (Behind K mb sb base i (plainE rdA rdB wr) s l st k I pc w (w.setCell ⟨mb, 4, none⟩ (.int .i64 i.c))) := by
    refine ⟨⟨ov, iv, ?_⟩, (Ran.refl _ _ _ _).set _ _⟩
    rw [act_none (by unfold givesB; simp [ho]), if_neg (by omega), if_neg (by omega), if_neg (by omega), if_pos (Or.inl ho)]
    exact hm.setPc i.c
  clear hm hb
  go_enter Try.func81, Try.ntmps81
  go_wp2
  go_end0
  exact ⟨rfl, HB.out⟩

theorem deed4 (hb : Box mb sb db bm bi be i x w) (hm : MS K mb sb base s ov l st k iv I pc w) (ho : i.op = 10) :
    Calls Try.prog 83 #[.pointer (some ⟨bm, 0, none⟩)] w fun e w' => e = .returned (.tuple #[]) ∧ Behind K mb sb base i (plainE rdA rdB wr) s l st k I pc w w' := by
  have cm := hb.pm
  have cp := hm.cst
  have fz := hm.fz 0
  have HB : Hid (Behind K mb sb base i (plainE rdA rdB wr) s l st k I pc w (w.setCell ⟨mb, 0, none⟩ (.int .i64 1))) := by
    refine ⟨⟨ov, iv, ?_⟩, (Ran.refl _ _ _ _).set _ _⟩
    rw [act_none (by unfold givesB; simp [ho]), if_neg (by omega), if_pos ho, if_neg (by omega), if_neg (by omega)]
    exact hm.setState 1
  clear hm hb
  go_enter Try.func83, Try.ntmps83
  go_wp2
  go_end0
  exact ⟨rfl, HB.out⟩

theorem deed3 (hb : Box mb sb db bm bi be i x w) (hm : MS K mb sb base s ov l st k iv I pc w) (ho : i.op = 9)
    (hent : ∀ w, Sem.run Try.prog (callFunc x.fa x.ca) w = .ok (.enter x.fa x.ca) w) (hc : ∀ w2, Below w.heap.size w w2 → Calls Try.prog x.fa x.ca w2 fun e w' => e = .returned (.int .u64 (rdA s)) ∧ Below w2.heap.size w2 w') :
    Calls Try.prog 82 #[.pointer (some ⟨be, 0, none⟩), .pointer (some ⟨bi, 0, none⟩), .pointer (some ⟨bm, 0, none⟩)] w fun e w' => e = .returned (.tuple #[]) ∧ Behind K mb sb base i (plainE rdA rdB wr) s l st k I pc w w' := by
  have ce := hb.e0
  have hg : ¬ givesB i.op = true := by unfold givesB; simp [ho]
  have HB1 : Hid (¬ rdA s = 0 → ∀ w1, Below w.heap.size w w1 → Behind K mb sb base i (plainE rdA rdB wr) s l st k I pc w (w1.setCell ⟨mb, 4, none⟩ (.int .i64 i.c))) := by
    intro h0 w1 hb1
    refine ⟨⟨ov, iv, ?_⟩, (Ran.of_below hm.sz hb1).set _ _⟩
    rw [act_none hg, if_neg (by omega), if_neg (by omega), if_neg (by omega), if_pos (Or.inr ⟨ho, h0⟩)]
    exact (hm.below hb1).setPc i.c
  have HB2 : Hid (rdA s = 0 → ∀ w1, Below w.heap.size w w1 → Behind K mb sb base i (plainE rdA rdB wr) s l st k I pc w w1) := by
    intro h0 w1 hb1
    refine ⟨⟨ov, iv, ?_⟩, (Ran.of_below hm.sz hb1)⟩
    rw [act_none hg, if_neg (by omega), if_neg (by omega), if_neg (by omega), if_neg (by show ¬ (i.op = 8 ∨ (i.op = 9 ∧ ¬ rdA s = 0)); rw [h0]; omega)]
    exact (hm.below hb1)
  have HM : Hid (MS K mb sb base s ov l st k iv I pc w) := hm
  have HBX : Hid (Box mb sb db bm bi be i x w) := hb
  have HC : Hid _ := hc
  generalize hae : rdA s = a at *
  clear hm hb hg hae hc
  go_enter Try.func82, Try.ntmps82
  go_wp2_with fail
  refine (HC.out _ (Below.refl _ _)).mono ?_
  rintro e w1 ⟨rfl, hb1⟩
  have cm := step_cell hb1 HBX.out.pm
  have c4 := step_cell hb1 HBX.out.i4
  have cp := (HM.out.below hb1).cpc
  have fz := (HM.out.below hb1).fz 4
  have HW : Hid (Below w.heap.size w w1) := hb1
  clear hb1
  go_wp2
  all_goals go_end0
  · exact ⟨rfl, HB1.out (by simp_all) _ HW.out⟩
  · exact ⟨rfl, HB2.out (by simp_all) _ HW.out⟩

theorem infU32 : (Try.prog.info? 23).map (fun i => (i.zero, i.size, i.bytes)) = some (some (.int .u32 0), 1, 4) := by kernel_rfl
end
end Go.Proofs.Ytcmnmogmdhofcaa.form

/- What the closure does that the program's machine makes of XOut, whatever its ends: what its A has comes out. -/
namespace Go.Proofs.Ytcmnmogmdhofcaa.form
open Go.RowKit Go.Proofs.Ytcmnmogmdhofcaa.num
set_option linter.unusedVariables false
set_option maxRecDepth 100000
attribute [local go_sem ↓] Go.wp_at_zero Go.wp_at_succ

section
variable {Z : StoK} {mb sb db base bm bi be : Nat} {s : Z.S} {ov : Value} {l : List Int} {st k : Int} {iv : Value} {I : List Int} {pc : Int} {i : LIns} {x : EndF} {w : World} {rdA rdB : Z.S → Int} {wr : Z.S → Int → Z.S}

set_option maxHeartbeats 1000000 in
theorem deed1 (hb : Box mb sb db bm bi be i x w) (hm : MS Z mb sb base s ov l st k iv I pc w) (ho : i.op = 4) (hA : RdAt w x.fa x.ca (rdA s)) (hl : l.length ≤ 3000) (hz1 : bm < base) (hz2 : be < base) :
    Calls Try.prog 80 #[.pointer (some ⟨bm, 0, none⟩), .pointer (some ⟨be, 0, none⟩)] w fun e w' => e = .returned (.tuple #[]) ∧ Behind Z mb sb base i (plainE rdA rdB wr) s l st k I pc w w' := by
  have cm := hb.pm
  have ce := hb.e0
  have co := hm.cov
  have HM : Hid (MS Z mb sb base s ov l st k iv I pc w) := hm
  have hg : ¬ givesB i.op = true := by unfold givesB; simp [ho]
  have hsz := hm.sz
  have hmlt := hm.lt
  have nm := hm.ownNe hz1
  have ni := hm.ownNe hz2
  have q1 : bm ≠ mb := hb.n1
  have q2 : be ≠ mb := hb.n3
  have HBE : Hid (∀ w', (∃ v', MS Z mb sb base s v' (l ++ [rdA s % 4294967296]) st k iv I pc w') → Ran mb sb base w w' → Behind Z mb sb base i (plainE rdA rdB wr) s l st k I pc w w') := by
    intro w' hv hr
    obtain ⟨v', hv⟩ := hv
    refine ⟨⟨v', iv, ?_⟩, hr⟩
    rw [act_none hg, if_pos ho, if_neg (by omega), if_neg (by omega), if_neg (by omega)]
    exact hv
  have ua := hA.bd
  have enA := hA.ent
  have HA : Hid _ := hA.call
  have HMW : Hid (∀ w1, Below w.heap.size w w1 → MS Z mb sb base s ov l st k iv I pc w1) := fun w1 h => hm.below h
  generalize rdA s = a at *
  obtain ⟨t0', hi0, hy0, hy1, hy2⟩ := info_parts infU32
  clear hm hb hg hA
  go_enter Try.func80, Try.ntmps80
  go_wp2
  refine wp_region_held_drew (S := (fun w' => w'.cell? ⟨bm, 0, none⟩ = some (.pointer (some ⟨mb, 0, none⟩)) ∧ w'.cell? ⟨be, 0, none⟩ = some (.func (.func x.fa) #[] x.ca))) (by rfl) ?_ (fun hHeld => ?_)
  · (refine ⟨?_, ?_⟩ <;> go_keep)
  refine wpAnyH_take (i := 0) (v := ?_) rfl (by kernel_rfl) (by kernel_rfl) (by kernel_rfl) (fun _ _ _ h => h) (Or.inl ⟨by rfl, ?_⟩) (by assumption) ?_
  case refine_2 => (intro w hSw; (try dsimp only at hSw); go_simp; first | done | (with_reducible rfl))
  show wpAnyH _ _ _ _ _ _ _ (Act.put _ (some 2) _) _
  simp only [Act.put, List.setIfInBounds_toArray, List.set_cons_zero, List.set_cons_succ]
  refine wpAnyH_take (i := 1) (v := ?_) rfl (by kernel_rfl) (by kernel_rfl) (by kernel_rfl) (fun _ _ _ h => h) (Or.inl ⟨by rfl, ?_⟩) (by assumption) ?_
  case refine_2 => (intro w hSw; (try dsimp only at hSw); go_simp; first | done | (with_reducible rfl))
  show wpAnyH _ _ _ _ _ _ _ (Act.put _ (some 3) _) _
  simp only [Act.put, List.setIfInBounds_toArray, List.set_cons_zero, List.set_cons_succ]
  refine wpAnyH_take (i := 2) (v := ?_) rfl (by kernel_rfl) (by kernel_rfl) (by kernel_rfl) (fun _ _ _ h => h) (Or.inl ⟨by rfl, ?_⟩) (by assumption) ?_
  case refine_2 => (intro w hSw; (try dsimp only at hSw); go_simp; first | done | (with_reducible rfl))
  show wpAnyH _ _ _ _ _ _ _ (Act.put _ (some 4) _) _
  simp only [Act.put, List.setIfInBounds_toArray, List.set_cons_zero, List.set_cons_succ]
  refine wpAnyH_take (i := 3) (v := ?_) rfl (by kernel_rfl) (by kernel_rfl) (by kernel_rfl) (fun _ _ _ h => h) (Or.inl ⟨by rfl, ?_⟩) (by assumption) ?_
  case refine_2 => (intro w hSw; (try dsimp only at hSw); go_simp; first | done | (with_reducible rfl))
  show wpAnyH _ _ _ _ _ _ _ (Act.put _ (some 5) _) _
  simp only [Act.put, List.setIfInBounds_toArray, List.set_cons_zero, List.set_cons_succ]
  refine wpAnyH_take (i := 4) (v := ?_) rfl (by kernel_rfl) (by kernel_rfl) (by kernel_rfl) (fun _ _ _ h => h) (Or.inl ⟨by rfl, ?_⟩) (by assumption) ?_
  case refine_2 => (intro w hSw; (try dsimp only at hSw); go_simp; first | done | (with_reducible rfl))
  show wpAnyH _ _ _ _ _ _ _ (Act.put _ (some 6) _) _
  simp only [Act.put, List.setIfInBounds_toArray, List.set_cons_zero, List.set_cons_succ]
  refine wpAnyH_take (i := 6) (v := ?_) rfl (by kernel_rfl) (by kernel_rfl) (by kernel_rfl) (fun _ _ _ h => h) (Or.inl ⟨by rfl, ?_⟩) (by assumption) ?_
  case refine_2 => (intro w hSw; (try dsimp only at hSw); go_simp; first | done | (with_reducible rfl))
  show wpAnyH _ _ _ _ _ _ _ (Act.put _ (some 8) _) _
  simp only [Act.put, List.setIfInBounds_toArray, List.set_cons_zero, List.set_cons_succ]
  refine wpAnyH_take (i := 7) (v := ?_) rfl (by kernel_rfl) (by kernel_rfl) (by kernel_rfl) (fun _ _ _ h => h) (Or.inl ⟨by rfl, ?_⟩) (by assumption) ?_
  case refine_2 => (intro w hSw; (try dsimp only at hSw); go_simp; first | done | (with_reducible rfl))
  show wpAnyH _ _ _ _ _ _ _ (Act.put _ (some 9) _) _
  simp only [Act.put, List.setIfInBounds_toArray, List.set_cons_zero, List.set_cons_succ]
  refine wpAnyH_ready (rs := [5, 8]) (by kernel_rfl) (by simp) ?_
  refine (AllReadyH.cons rfl (fun K hK => ?_) (AllReadyH.cons rfl (fun K hK => ?_) AllReadyH.nil))
  · go_simp
    refine hK.out _ _ ?_ (fun hHeld => ?_)
    · ((go_split_ands; refine ⟨?_, ?_⟩ <;> first | exact step_cell hbc (by assumption) | (go_keep; done) | assumption))
    clear hK K
    try simp only [Act.put, List.setIfInBounds_toArray, List.set_cons_zero, List.set_cons_succ]
    refine wpAnyH_ready (rs := [8]) (by kernel_rfl) (by simp) ?_
    refine (AllReadyH.cons rfl (fun K hK => ?_) AllReadyH.nil)
    go_simp
    refine (HA.out _ (Below.refl _ _).drew).mono ?_
    rintro e w1 ⟨rfl, hbd⟩
    have hbc : Below w.heap.size w w1 := step_below hbd ((Below.refl _ _).drew)
    have HBW : Hid (Below w.heap.size w w1) := hbc
    have HM1 : Hid (MS Z mb sb base s ov l st k iv I pc w1) := HMW.out _ hbc
    have HO : Hid (w1.ownsRow base 23 1 ov l.length (l.map (Value.int .u32))) := HM1.out.own
    have co1 := HM1.out.cov
    have hs1 := HM1.out.sz
    have hmb1 : mb < w1.heap.size := (by omega)
    go_wp2_with fail
    refine hK.out _ _ ?_ (fun hHeld => ?_)
    · ((go_split_ands; refine ⟨?_, ?_⟩ <;> first | exact step_cell hbc (by assumption) | (go_keep; done) | assumption))
    clear hK K
    try simp only [Act.put, List.setIfInBounds_toArray, List.set_cons_zero, List.set_cons_succ]
    clear hbd hbc
    refine wpAnyH_take (i := 9) (v := ?_) rfl (by kernel_rfl) (by kernel_rfl) (by kernel_rfl) (fun _ _ _ h => h) (Or.inl ⟨by rfl, ?_⟩) (by assumption) ?_
    case refine_2 => (intro w hSw; (try dsimp only at hSw); go_simp; first | done | (with_reducible rfl))
    show wpAnyH _ _ _ _ _ _ _ (Act.put _ (some 11) _) _
    simp only [Act.put, List.setIfInBounds_toArray, List.set_cons_zero, List.set_cons_succ]
    refine wpAnyH_ready (rs := [10]) (by kernel_rfl) (by simp) ?_
    refine (AllReadyH.cons rfl (fun K hK => ?_) AllReadyH.nil)
    go_simp
    refine hK.out _ _ ?_ (fun hHeld => ?_)
    · ((go_split_ands; refine ⟨?_, ?_⟩ <;> go_keep))
    clear hK K
    try simp only [Act.put, List.setIfInBounds_toArray, List.set_cons_zero, List.set_cons_succ]
    refine wpAnyH_ready (rs := [11]) (by kernel_rfl) (by simp) ?_
    refine (AllReadyH.cons rfl (fun K hK => ?_) AllReadyH.nil)
    (refine step_append_lies _ (by rfl) _ _ _ (by rfl) base 23 t0' _ 1 4 Try.underlying33 hi0 hy0 hy1 hy2 rfl (by omega) ov l.length (l.map (Value.int .u32)) (by rfl) (World.ownsRow.alloc HO.out _)
        ⟨w1.heap.size, 0, none⟩ 1 1 [.int .u32 (a % 4294967296)] (by rfl) (by rfl) (World.news_of_block (cs := #[.int .u32 (a % 4294967296)]) (t := 23) (fr := (0, 0)) (heap_alloc_new w1 _)) (by simp [Value.oneCell'])
        (by omega) (by unfold maxLen; omega) (by omega) (by simp; omega) (w1.heap.size + 1) (by simp) ?_; intro g2 cap2 w3 hown1 hgrow hat hlt3; have HP : Hid _ := HM1.out.push ((Below.refl _ _).alloc (Nat.le_refl _) _) hown1 hgrow; have fz := HP.out.2.2.frozen 1; have cz : w3.cell? ⟨mb, 1, none⟩ = some ov := HP.out.2.2.cell 1)
    refine hK.out _ _ ?_ (fun hHeld => ?_)
    · (go_split_ands
       refine ⟨?_, ?_⟩
       · (rw [hgrow.cell_far _ (by simp; omega) (Ne.symm nm)]; first | assumption | (simp [go_sem]; assumption))
       · (rw [hgrow.cell_far _ (by simp; omega) (Ne.symm ni)]; first | assumption | (simp [go_sem]; assumption)))
    clear hK K
    show wpAnyH _ _ _ _ _ _ _ (Act.put _ (some 13) _) _
    simp only [Act.put, List.setIfInBounds_toArray, List.set_cons_zero, List.set_cons_succ]
    refine wpAnyH_take (i := 12) (v := ?_) rfl (by kernel_rfl) (by kernel_rfl) (by kernel_rfl) (fun _ _ _ h => h) (Or.inl ⟨by rfl, ?_⟩) (by assumption) ?_
    case refine_2 => (intro w hSw; (try dsimp only at hSw); go_simp; first | done | (with_reducible rfl))
    show wpAnyH _ _ _ _ _ _ _ (Act.put _ (some 14) _) _
    simp only [Act.put, List.setIfInBounds_toArray, List.set_cons_zero, List.set_cons_succ]
    refine wpAnyH_take (i := 13) (v := ?_) rfl (by kernel_rfl) (by kernel_rfl) (by kernel_rfl) (fun _ _ _ h => h) (Or.inl ⟨by rfl, ?_⟩) (by assumption) ?_
    case refine_2 => (intro w hSw; (try dsimp only at hSw); go_simp; first | done | (with_reducible rfl))
    show wpAnyH _ _ _ _ _ _ _ (Act.put _ (some 15) _) _
    simp only [Act.put, List.setIfInBounds_toArray, List.set_cons_zero, List.set_cons_succ]
    refine wpAnyH_take (i := 14) (v := ?_) rfl (by kernel_rfl) (by kernel_rfl) (by kernel_rfl) (fun _ _ _ h => h) (Or.inl ⟨by rfl, ?_⟩) (by assumption) ?_
    case refine_2 => (intro w hSw; (try dsimp only at hSw); go_simp; first | done | (with_reducible rfl))
    show wpAnyH _ _ _ _ _ _ _ (Act.put _ (some 16) _) _
    simp only [Act.put, List.setIfInBounds_toArray, List.set_cons_zero, List.set_cons_succ]
    refine wpAnyH_ready (rs := [15]) (by kernel_rfl) (by simp) ?_
    refine (AllReadyH.cons rfl (fun K hK => ?_) AllReadyH.nil)
    go_simp
    refine hK.out _ _ ?_ (fun hHeld => ?_)
    · (go_split_ands
       refine ⟨?_, ?_⟩
       · (rw [World.cell?_setCell_far _ _ _ _ (Ne.symm q1)]; assumption)
       · (rw [World.cell?_setCell_far _ _ _ _ (Ne.symm q2)]; assumption))
    clear hK K
    try simp only [Act.put, List.setIfInBounds_toArray, List.set_cons_zero, List.set_cons_succ]
    refine wpAnyH_done (by kernel_rfl) ?_ _
    clear hHeld
    go_wp2
    go_end0
    exact ⟨rfl, HBE.out _ ⟨_, HP.out.1⟩ ((Ran.of_below hsz HBW.out).trans (HP.out.2.1.set _ _))⟩
  · go_simp
    refine (HA.out _ (Below.refl _ _).drew).mono ?_
    rintro e w1 ⟨rfl, hbd⟩
    have hbc : Below w.heap.size w w1 := step_below hbd ((Below.refl _ _).drew)
    have HBW : Hid (Below w.heap.size w w1) := hbc
    have HM1 : Hid (MS Z mb sb base s ov l st k iv I pc w1) := HMW.out _ hbc
    have HO : Hid (w1.ownsRow base 23 1 ov l.length (l.map (Value.int .u32))) := HM1.out.own
    have co1 := HM1.out.cov
    have hs1 := HM1.out.sz
    have hmb1 : mb < w1.heap.size := (by omega)
    go_wp2_with fail
    refine hK.out _ _ ?_ (fun hHeld => ?_)
    · ((go_split_ands; refine ⟨?_, ?_⟩ <;> first | exact step_cell hbc (by assumption) | (go_keep; done) | assumption))
    clear hK K
    try simp only [Act.put, List.setIfInBounds_toArray, List.set_cons_zero, List.set_cons_succ]
    clear hbd hbc
    refine wpAnyH_take (i := 9) (v := ?_) rfl (by kernel_rfl) (by kernel_rfl) (by kernel_rfl) (fun _ _ _ h => h) (Or.inl ⟨by rfl, ?_⟩) (by assumption) ?_
    case refine_2 => (intro w hSw; (try dsimp only at hSw); go_simp; first | done | (with_reducible rfl))
    show wpAnyH _ _ _ _ _ _ _ (Act.put _ (some 11) _) _
    simp only [Act.put, List.setIfInBounds_toArray, List.set_cons_zero, List.set_cons_succ]
    refine wpAnyH_ready (rs := [5, 10]) (by kernel_rfl) (by simp) ?_
    refine (AllReadyH.cons rfl (fun K hK => ?_) (AllReadyH.cons rfl (fun K hK => ?_) AllReadyH.nil))
    · go_simp
      refine hK.out _ _ ?_ (fun hHeld => ?_)
      · ((go_split_ands; refine ⟨?_, ?_⟩ <;> first | exact step_cell hbc (by assumption) | (go_keep; done) | assumption))
      clear hK K
      try simp only [Act.put, List.setIfInBounds_toArray, List.set_cons_zero, List.set_cons_succ]
      refine wpAnyH_ready (rs := [10]) (by kernel_rfl) (by simp) ?_
      refine (AllReadyH.cons rfl (fun K hK => ?_) AllReadyH.nil)
      go_simp
      refine hK.out _ _ ?_ (fun hHeld => ?_)
      · ((go_split_ands; refine ⟨?_, ?_⟩ <;> go_keep))
      clear hK K
      try simp only [Act.put, List.setIfInBounds_toArray, List.set_cons_zero, List.set_cons_succ]
      refine wpAnyH_ready (rs := [11]) (by kernel_rfl) (by simp) ?_
      refine (AllReadyH.cons rfl (fun K hK => ?_) AllReadyH.nil)
      (refine step_append_lies _ (by rfl) _ _ _ (by rfl) base 23 t0' _ 1 4 Try.underlying33 hi0 hy0 hy1 hy2 rfl (by omega) ov l.length (l.map (Value.int .u32)) (by rfl) (World.ownsRow.alloc HO.out _)
          ⟨w1.heap.size, 0, none⟩ 1 1 [.int .u32 (a % 4294967296)] (by rfl) (by rfl) (World.news_of_block (cs := #[.int .u32 (a % 4294967296)]) (t := 23) (fr := (0, 0)) (heap_alloc_new w1 _)) (by simp [Value.oneCell'])
          (by omega) (by unfold maxLen; omega) (by omega) (by simp; omega) (w1.heap.size + 1) (by simp) ?_; intro g2 cap2 w3 hown1 hgrow hat hlt3; have HP : Hid _ := HM1.out.push ((Below.refl _ _).alloc (Nat.le_refl _) _) hown1 hgrow; have fz := HP.out.2.2.frozen 1; have cz : w3.cell? ⟨mb, 1, none⟩ = some ov := HP.out.2.2.cell 1)
      refine hK.out _ _ ?_ (fun hHeld => ?_)
      · (go_split_ands
         refine ⟨?_, ?_⟩
         · (rw [hgrow.cell_far _ (by simp; omega) (Ne.symm nm)]; first | assumption | (simp [go_sem]; assumption))
         · (rw [hgrow.cell_far _ (by simp; omega) (Ne.symm ni)]; first | assumption | (simp [go_sem]; assumption)))
      clear hK K
      show wpAnyH _ _ _ _ _ _ _ (Act.put _ (some 13) _) _
      simp only [Act.put, List.setIfInBounds_toArray, List.set_cons_zero, List.set_cons_succ]
      refine wpAnyH_take (i := 12) (v := ?_) rfl (by kernel_rfl) (by kernel_rfl) (by kernel_rfl) (fun _ _ _ h => h) (Or.inl ⟨by rfl, ?_⟩) (by assumption) ?_
      case refine_2 => (intro w hSw; (try dsimp only at hSw); go_simp; first | done | (with_reducible rfl))
      show wpAnyH _ _ _ _ _ _ _ (Act.put _ (some 14) _) _
      simp only [Act.put, List.setIfInBounds_toArray, List.set_cons_zero, List.set_cons_succ]
      refine wpAnyH_take (i := 13) (v := ?_) rfl (by kernel_rfl) (by kernel_rfl) (by kernel_rfl) (fun _ _ _ h => h) (Or.inl ⟨by rfl, ?_⟩) (by assumption) ?_
      case refine_2 => (intro w hSw; (try dsimp only at hSw); go_simp; first | done | (with_reducible rfl))
      show wpAnyH _ _ _ _ _ _ _ (Act.put _ (some 15) _) _
      simp only [Act.put, List.setIfInBounds_toArray, List.set_cons_zero, List.set_cons_succ]
      refine wpAnyH_take (i := 14) (v := ?_) rfl (by kernel_rfl) (by kernel_rfl) (by kernel_rfl) (fun _ _ _ h => h) (Or.inl ⟨by rfl, ?_⟩) (by assumption) ?_
      case refine_2 => (intro w hSw; (try dsimp only at hSw); go_simp; first | done | (with_reducible rfl))
      show wpAnyH _ _ _ _ _ _ _ (Act.put _ (some 16) _) _
      simp only [Act.put, List.setIfInBounds_toArray, List.set_cons_zero, List.set_cons_succ]
      refine wpAnyH_ready (rs := [15]) (by kernel_rfl) (by simp) ?_
      refine (AllReadyH.cons rfl (fun K hK => ?_) AllReadyH.nil)
      go_simp
      refine hK.out _ _ ?_ (fun hHeld => ?_)
      · (go_split_ands
         refine ⟨?_, ?_⟩
         · (rw [World.cell?_setCell_far _ _ _ _ (Ne.symm q1)]; assumption)
         · (rw [World.cell?_setCell_far _ _ _ _ (Ne.symm q2)]; assumption))
      clear hK K
      try simp only [Act.put, List.setIfInBounds_toArray, List.set_cons_zero, List.set_cons_succ]
      refine wpAnyH_done (by kernel_rfl) ?_ _
      clear hHeld
      go_wp2
      go_end0
      exact ⟨rfl, HBE.out _ ⟨_, HP.out.1⟩ ((Ran.of_below hsz HBW.out).trans (HP.out.2.1.set _ _))⟩
    · go_simp
      refine hK.out _ _ ?_ (fun hHeld => ?_)
      · ((go_split_ands; refine ⟨?_, ?_⟩ <;> go_keep))
      clear hK K
      try simp only [Act.put, List.setIfInBounds_toArray, List.set_cons_zero, List.set_cons_succ]
      refine wpAnyH_ready (rs := [5]) (by kernel_rfl) (by simp) ?_
      refine (AllReadyH.cons rfl (fun K hK => ?_) AllReadyH.nil)
      go_simp
      refine hK.out _ _ ?_ (fun hHeld => ?_)
      · ((go_split_ands; refine ⟨?_, ?_⟩ <;> first | exact step_cell hbc (by assumption) | (go_keep; done) | assumption))
      clear hK K
      try simp only [Act.put, List.setIfInBounds_toArray, List.set_cons_zero, List.set_cons_succ]
      refine wpAnyH_ready (rs := [11]) (by kernel_rfl) (by simp) ?_
      refine (AllReadyH.cons rfl (fun K hK => ?_) AllReadyH.nil)
      (refine step_append_lies _ (by rfl) _ _ _ (by rfl) base 23 t0' _ 1 4 Try.underlying33 hi0 hy0 hy1 hy2 rfl (by omega) ov l.length (l.map (Value.int .u32)) (by rfl) (World.ownsRow.alloc HO.out _)
          ⟨w1.heap.size, 0, none⟩ 1 1 [.int .u32 (a % 4294967296)] (by rfl) (by rfl) (World.news_of_block (cs := #[.int .u32 (a % 4294967296)]) (t := 23) (fr := (0, 0)) (heap_alloc_new w1 _)) (by simp [Value.oneCell'])
          (by omega) (by unfold maxLen; omega) (by omega) (by simp; omega) (w1.heap.size + 1) (by simp) ?_; intro g2 cap2 w3 hown1 hgrow hat hlt3; have HP : Hid _ := HM1.out.push ((Below.refl _ _).alloc (Nat.le_refl _) _) hown1 hgrow; have fz := HP.out.2.2.frozen 1; have cz : w3.cell? ⟨mb, 1, none⟩ = some ov := HP.out.2.2.cell 1)
      refine hK.out _ _ ?_ (fun hHeld => ?_)
      · (go_split_ands
         refine ⟨?_, ?_⟩
         · (rw [hgrow.cell_far _ (by simp; omega) (Ne.symm nm)]; first | assumption | (simp [go_sem]; assumption))
         · (rw [hgrow.cell_far _ (by simp; omega) (Ne.symm ni)]; first | assumption | (simp [go_sem]; assumption)))
      clear hK K
      show wpAnyH _ _ _ _ _ _ _ (Act.put _ (some 13) _) _
      simp only [Act.put, List.setIfInBounds_toArray, List.set_cons_zero, List.set_cons_succ]
      refine wpAnyH_take (i := 12) (v := ?_) rfl (by kernel_rfl) (by kernel_rfl) (by kernel_rfl) (fun _ _ _ h => h) (Or.inl ⟨by rfl, ?_⟩) (by assumption) ?_
      case refine_2 => (intro w hSw; (try dsimp only at hSw); go_simp; first | done | (with_reducible rfl))
      show wpAnyH _ _ _ _ _ _ _ (Act.put _ (some 14) _) _
      simp only [Act.put, List.setIfInBounds_toArray, List.set_cons_zero, List.set_cons_succ]
      refine wpAnyH_take (i := 13) (v := ?_) rfl (by kernel_rfl) (by kernel_rfl) (by kernel_rfl) (fun _ _ _ h => h) (Or.inl ⟨by rfl, ?_⟩) (by assumption) ?_
      case refine_2 => (intro w hSw; (try dsimp only at hSw); go_simp; first | done | (with_reducible rfl))
      show wpAnyH _ _ _ _ _ _ _ (Act.put _ (some 15) _) _
      simp only [Act.put, List.setIfInBounds_toArray, List.set_cons_zero, List.set_cons_succ]
      refine wpAnyH_take (i := 14) (v := ?_) rfl (by kernel_rfl) (by kernel_rfl) (by kernel_rfl) (fun _ _ _ h => h) (Or.inl ⟨by rfl, ?_⟩) (by assumption) ?_
      case refine_2 => (intro w hSw; (try dsimp only at hSw); go_simp; first | done | (with_reducible rfl))
      show wpAnyH _ _ _ _ _ _ _ (Act.put _ (some 16) _) _
      simp only [Act.put, List.setIfInBounds_toArray, List.set_cons_zero, List.set_cons_succ]
      refine wpAnyH_ready (rs := [15]) (by kernel_rfl) (by simp) ?_
      refine (AllReadyH.cons rfl (fun K hK => ?_) AllReadyH.nil)
      go_simp
      refine hK.out _ _ ?_ (fun hHeld => ?_)
      · (go_split_ands
         refine ⟨?_, ?_⟩
         · (rw [World.cell?_setCell_far _ _ _ _ (Ne.symm q1)]; assumption)
         · (rw [World.cell?_setCell_far _ _ _ _ (Ne.symm q2)]; assumption))
      clear hK K
      try simp only [Act.put, List.setIfInBounds_toArray, List.set_cons_zero, List.set_cons_succ]
      refine wpAnyH_done (by kernel_rfl) ?_ _
      clear hHeld
      go_wp2
      go_end0
      exact ⟨rfl, HBE.out _ ⟨_, HP.out.1⟩ ((Ran.of_below hsz HBW.out).trans (HP.out.2.1.set _ _))⟩
end
end Go.Proofs.Ytcmnmogmdhofcaa.form

/- What the closure does that the program's machine makes of an instruction that has a Dest, whatever its ends: it gives Dest what another closure gives. -/
namespace Go.Proofs.Ytcmnmogmdhofcaa.form
open Go.RowKit Go.Proofs.Ytcmnmogmdhofcaa.num
set_option linter.unusedVariables false
set_option maxRecDepth 100000
attribute [local go_sem ↓] Go.wp_at_zero Go.wp_at_succ

section
variable {K : StoK} {mb sb db base bm bi be bg : Nat} {s : K.S} {ov : Value} {l : List Int} {st k : Int} {iv : Value} {I : List Int} {pc : Int} {i : LIns} {x : EndF} {w : World} {rdA rdB : K.S → Int} {wr : K.S → Int → K.S}

theorem deed5 (F : Nat) (caps : Array Value) (hent : ∀ w, Sem.run Try.prog (callFunc F caps) w = .ok (.enter F caps) w) (hb : Box mb sb db bm bi be i x w) (cg : w.cell? ⟨bg, 0, none⟩ = some (.func (.func F) #[] caps)) (hng : bg ≠ mb) (hns : bg ≠ sb) (hm : MS K mb sb base s ov l st k iv I pc w) (hg : givesB i.op = true)
    (hz2 : be < base) (hz3 : bg < base)
    (hc : ∀ w2, Below w.heap.size w w2 → Calls Try.prog F caps w2 fun e w' =>
      e = .returned (.int .u64 (gvI i (rdA s) (rdB s) (I.headD 0))) ∧ (∃ iv', MS K mb sb base s ov l st k iv' (if i.op = 3 then I.tail else I) pc w') ∧ Ran mb sb base w2 w')
    (hdent : ∀ y w, Sem.run Try.prog (callFunc x.fd #[y, x.d1, x.d2]) w = .ok (.enter x.fd #[y, x.d1, x.d2]) w)
    (hd : ∀ w2 iv', Ran mb sb base w w2 → MS K mb sb base s ov l st k iv' (if i.op = 3 then I.tail else I) pc w2 → Calls Try.prog x.fd #[.int .u64 (gvI i (rdA s) (rdB s) (I.headD 0)), x.d1, x.d2] w2 fun e w' => e = .returned (.tuple #[]) ∧ MS K mb sb base (wr s (gvI i (rdA s) (rdB s) (I.headD 0))) ov l st k iv' (if i.op = 3 then I.tail else I) pc w' ∧ Ran mb sb base w2 w') :
    Calls Try.prog 85 #[.pointer (some ⟨be, 0, none⟩), .pointer (some ⟨bg, 0, none⟩)] w fun e w' => e = .returned (.tuple #[]) ∧ Behind K mb sb base i (plainE rdA rdB wr) s l st k I pc w w' := by
  have ce := hb.e2
  have q2 : be ≠ mb := hb.n3
  have q3 : be ≠ sb := hb.s3
  have HC : Hid _ := hc
  have HD : Hid _ := hd
  have h4 : ¬ i.op = 4 := by intro e; unfold givesB at hg; simp [e] at hg
  have h8 : ¬ i.op = 8 := by intro e; unfold givesB at hg; simp [e] at hg
  have h9 : ¬ i.op = 9 := by intro e; unfold givesB at hg; simp [e] at hg
  have h10 : ¬ i.op = 10 := by intro e; unfold givesB at hg; simp [e] at hg
  have HBE : Hid (∀ w' iv', MS K mb sb base (wr s (gvI i (rdA s) (rdB s) (I.headD 0))) ov l st k iv' (if i.op = 3 then I.tail else I) pc w' → Ran mb sb base w w' → Behind K mb sb base i (plainE rdA rdB wr) s l st k I pc w w') := by
    intro w' iv' hv hr
    refine ⟨⟨ov, iv', ?_⟩, hr⟩
    have e : (plainE rdA rdB wr).act i s (I.headD 0) = wr s (gvI i (rdA s) (rdB s) (I.headD 0)) := by
      show (if givesB i.op = true then _ else _) = _
      rw [if_pos hg]; rfl
    rw [e, if_neg h4, if_neg h10, if_neg (show ¬ (i.op = 8 ∨ i.op = 9 ∧ ¬ _ = (0 : Int)) from fun h => h.elim h8 (fun h => h9 h.1))]
    exact hv
  have hsz := hm.sz
  generalize gvI i (rdA s) (rdB s) (I.headD 0) = g at *
  clear hm hb hc h4 h8 h9 h10 hd
  go_enter Try.func85, Try.ntmps85
  go_wp2
  go_region_held3 (fun w' => Ran mb sb base w w' ∧ w'.cell? ⟨be, 2, none⟩ = some (.func (.func x.fd) #[] #[x.d1, x.d2]) ∧ w'.cell? ⟨bg, 0, none⟩ = some (.func (.func F) #[] caps))
    ((go_split_ands; refine ⟨?_, ?_, ?_⟩ <;> first | exact Ran.trans (by assumption) hr | exact hr.cell (by assumption) (by assumption) (by assumption) (by assumption) | exact Ran.of_below hsz ((Below.refl _ _).drew) | (go_keep; done) | assumption))
    (first
      | (have hgd := HMS; clear hgd; refine (HD.out _ _ ?_ HMS.out).mono ?_; (go_split_ands; assumption); rintro e w1 ⟨rfl, hms2, hr⟩; have HMZ : Hid _ := hms2; clear hms2)
      | (refine (HC.out _ ((Below.refl _ _).drew)).mono ?_; rintro e w1 ⟨rfl, ⟨iv', hms⟩, hr⟩; have HMS : Hid _ := hms; clear hms))
  go_wp2
  go_end0
  exact ⟨rfl, HBE.out _ _ HMZ.out (by (go_split_ands; assumption))⟩
end
end Go.Proofs.Ytcmnmogmdhofcaa.form
