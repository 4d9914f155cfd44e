/- What the closure does that the program's machine makes of XOut, whatever its ends: what its A has comes out. -/
import Derived.Test.YtolhnlbgohobkaaRunDeed
namespace Go.Proofs.Ytolhnlbgohobkaa.form
open Go.RowKit Go.Proofs.Ytolhnlbgohobkaa.num
set_option linter.unusedVariables false
set_option maxRecDepth 100000
attribute [local go_sem ↓] Go.wp_at_zero Go.wp_at_succ

section
variable {Z : StoK} {mb sb db base bm bi be : Nat} {s : Z.S} {ov : Value} {l : List Int} {st k : Int} {iv : Value} {I : List Int} {pc : Int} {i : LIns} {x : EndF} {w : World} {rdA rdB : Z.S → Int} {wr : Z.S → Int → Z.S}

set_option maxHeartbeats 1000000 in
theorem deed1 (hb : Box mb sb db bm bi be i x w) (hm : MS Z mb sb base s ov l st k iv I pc w) (ho : i.op = 4) (hA : RdAt w x.fa x.ca (rdA s)) (hl : l.length ≤ 3000) (hz1 : bm < base) (hz2 : be < base) :
    Calls Try.prog 79 #[.pointer (some ⟨bm, 0, none⟩), .pointer (some ⟨be, 0, none⟩)] w fun e w' => e = .returned (.tuple #[]) ∧ Behind Z mb sb base i (plainE rdA rdB wr) s l st k I pc w w' := by
  have cm := hb.pm
  have ce := hb.e0
  have co := hm.cov
  have HM : Hid (MS Z mb sb base s ov l st k iv I pc w) := hm
  have hg : ¬ givesB i.op = true := by unfold givesB; simp [ho]
  have hsz := hm.sz
  have hmlt := hm.lt
  have nm := hm.ownNe hz1
  have ni := hm.ownNe hz2
  have q1 : bm ≠ mb := hb.n1
  have q2 : be ≠ mb := hb.n3
  have HBE : Hid (∀ w', (∃ v', MS Z mb sb base s v' (l ++ [rdA s % 4294967296]) st k iv I pc w') → Ran mb sb base w w' → Behind Z mb sb base i (plainE rdA rdB wr) s l st k I pc w w') := by
    intro w' hv hr
    obtain ⟨v', hv⟩ := hv
    refine ⟨⟨v', iv, ?_⟩, hr⟩
    rw [act_none hg, if_pos ho, if_neg (by omega), if_neg (by omega), if_neg (by omega)]
    exact hv
  have ua := hA.bd
  have enA := hA.ent
  have HA : Hid _ := hA.call
  have HMW : Hid (∀ w1, Below w.heap.size w w1 → MS Z mb sb base s ov l st k iv I pc w1) := fun w1 h => hm.below h
  generalize rdA s = a at *
  obtain ⟨t0', hi0, hy0, hy1, hy2⟩ := info_parts infU32
  clear hm hb hg hA
  go_enter Try.func79, Try.ntmps79
  go_wp2
  refine wp_region_held_drew (S := (fun w' => w'.cell? ⟨bm, 0, none⟩ = some (.pointer (some ⟨mb, 0, none⟩)) ∧ w'.cell? ⟨be, 0, none⟩ = some (.func (.func x.fa) #[] x.ca))) (by rfl) ?_ (fun hHeld => ?_)
  · (refine ⟨?_, ?_⟩ <;> go_keep)
  refine wpAnyH_take (i := 0) (v := ?_) rfl (by kernel_rfl) (by kernel_rfl) (by kernel_rfl) (fun _ _ _ h => h) (Or.inl ⟨by rfl, ?_⟩) (by assumption) ?_
  case refine_2 => (intro w hSw; (try dsimp only at hSw); go_simp; first | done | (with_reducible rfl))
  show wpAnyH _ _ _ _ _ _ _ (Act.put _ (some 2) _) _
  simp only [Act.put, List.setIfInBounds_toArray, List.set_cons_zero, List.set_cons_succ]
  refine wpAnyH_take (i := 1) (v := ?_) rfl (by kernel_rfl) (by kernel_rfl) (by kernel_rfl) (fun _ _ _ h => h) (Or.inl ⟨by rfl, ?_⟩) (by assumption) ?_
  case refine_2 => (intro w hSw; (try dsimp only at hSw); go_simp; first | done | (with_reducible rfl))
  show wpAnyH _ _ _ _ _ _ _ (Act.put _ (some 3) _) _
  simp only [Act.put, List.setIfInBounds_toArray, List.set_cons_zero, List.set_cons_succ]
  refine wpAnyH_take (i := 2) (v := ?_) rfl (by kernel_rfl) (by kernel_rfl) (by kernel_rfl) (fun _ _ _ h => h) (Or.inl ⟨by rfl, ?_⟩) (by assumption) ?_
  case refine_2 => (intro w hSw; (try dsimp only at hSw); go_simp; first | done | (with_reducible rfl))
  show wpAnyH _ _ _ _ _ _ _ (Act.put _ (some 4) _) _
  simp only [Act.put, List.setIfInBounds_toArray, List.set_cons_zero, List.set_cons_succ]
  refine wpAnyH_take (i := 3) (v := ?_) rfl (by kernel_rfl) (by kernel_rfl) (by kernel_rfl) (fun _ _ _ h => h) (Or.inl ⟨by rfl, ?_⟩) (by assumption) ?_
  case refine_2 => (intro w hSw; (try dsimp only at hSw); go_simp; first | done | (with_reducible rfl))
  show wpAnyH _ _ _ _ _ _ _ (Act.put _ (some 5) _) _
  simp only [Act.put, List.setIfInBounds_toArray, List.set_cons_zero, List.set_cons_succ]
  refine wpAnyH_take (i := 4) (v := ?_) rfl (by kernel_rfl) (by kernel_rfl) (by kernel_rfl) (fun _ _ _ h => h) (Or.inl ⟨by rfl, ?_⟩) (by assumption) ?_
  case refine_2 => (intro w hSw; (try dsimp only at hSw); go_simp; first | done | (with_reducible rfl))
  show wpAnyH _ _ _ _ _ _ _ (Act.put _ (some 6) _) _
  simp only [Act.put, List.setIfInBounds_toArray, List.set_cons_zero, List.set_cons_succ]
  refine wpAnyH_take (i := 6) (v := ?_) rfl (by kernel_rfl) (by kernel_rfl) (by kernel_rfl) (fun _ _ _ h => h) (Or.inl ⟨by rfl, ?_⟩) (by assumption) ?_
  case refine_2 => (intro w hSw; (try dsimp only at hSw); go_simp; first | done | (with_reducible rfl))
  show wpAnyH _ _ _ _ _ _ _ (Act.put _ (some 8) _) _
  simp only [Act.put, List.setIfInBounds_toArray, List.set_cons_zero, List.set_cons_succ]
  refine wpAnyH_take (i := 7) (v := ?_) rfl (by kernel_rfl) (by kernel_rfl) (by kernel_rfl) (fun _ _ _ h => h) (Or.inl ⟨by rfl, ?_⟩) (by assumption) ?_
  case refine_2 => (intro w hSw; (try dsimp only at hSw); go_simp; first | done | (with_reducible rfl))
  show wpAnyH _ _ _ _ _ _ _ (Act.put _ (some 9) _) _
  simp only [Act.put, List.setIfInBounds_toArray, List.set_cons_zero, List.set_cons_succ]
  refine wpAnyH_ready (rs := [5, 8]) (by kernel_rfl) (by simp) ?_
  refine (AllReadyH.cons rfl (fun K hK => ?_) (AllReadyH.cons rfl (fun K hK => ?_) AllReadyH.nil))
  · go_simp
    refine hK.out _ _ ?_ (fun hHeld => ?_)
    · ((go_split_ands; refine ⟨?_, ?_⟩ <;> first | exact step_cell hbc (by assumption) | (go_keep; done) | assumption))
    clear hK K
    try simp only [Act.put, List.setIfInBounds_toArray, List.set_cons_zero, List.set_cons_succ]
    refine wpAnyH_ready (rs := [8]) (by kernel_rfl) (by simp) ?_
    refine (AllReadyH.cons rfl (fun K hK => ?_) AllReadyH.nil)
    go_simp
    refine (HA.out _ (Below.refl _ _).drew).mono ?_
    rintro e w1 ⟨rfl, hbd⟩
    have hbc : Below w.heap.size w w1 := step_below hbd ((Below.refl _ _).drew)
    have HBW : Hid (Below w.heap.size w w1) := hbc
    have HM1 : Hid (MS Z mb sb base s ov l st k iv I pc w1) := HMW.out _ hbc
    have HO : Hid (w1.ownsRow base 23 1 ov l.length (l.map (Value.int .u32))) := HM1.out.own
    have co1 := HM1.out.cov
    have hs1 := HM1.out.sz
    have hmb1 : mb < w1.heap.size := (by omega)
    go_wp2_with fail
    refine hK.out _ _ ?_ (fun hHeld => ?_)
    · ((go_split_ands; refine ⟨?_, ?_⟩ <;> first | exact step_cell hbc (by assumption) | (go_keep; done) | assumption))
    clear hK K
    try simp only [Act.put, List.setIfInBounds_toArray, List.set_cons_zero, List.set_cons_succ]
    clear hbd hbc
    refine wpAnyH_take (i := 9) (v := ?_) rfl (by kernel_rfl) (by kernel_rfl) (by kernel_rfl) (fun _ _ _ h => h) (Or.inl ⟨by rfl, ?_⟩) (by assumption) ?_
    case refine_2 => (intro w hSw; (try dsimp only at hSw); go_simp; first | done | (with_reducible rfl))
    show wpAnyH _ _ _ _ _ _ _ (Act.put _ (some 11) _) _
    simp only [Act.put, List.setIfInBounds_toArray, List.set_cons_zero, List.set_cons_succ]
    refine wpAnyH_ready (rs := [10]) (by kernel_rfl) (by simp) ?_
    refine (AllReadyH.cons rfl (fun K hK => ?_) AllReadyH.nil)
    go_simp
    refine hK.out _ _ ?_ (fun hHeld => ?_)
    · ((go_split_ands; refine ⟨?_, ?_⟩ <;> go_keep))
    clear hK K
    try simp only [Act.put, List.setIfInBounds_toArray, List.set_cons_zero, List.set_cons_succ]
    refine wpAnyH_ready (rs := [11]) (by kernel_rfl) (by simp) ?_
    refine (AllReadyH.cons rfl (fun K hK => ?_) AllReadyH.nil)
    (refine step_append_lies _ (by rfl) _ _ _ (by rfl) base 23 t0' _ 1 4 Try.underlying33 hi0 hy0 hy1 hy2 rfl (by omega) ov l.length (l.map (Value.int .u32)) (by rfl) (World.ownsRow.alloc HO.out _)
        ⟨w1.heap.size, 0, none⟩ 1 1 [.int .u32 (a % 4294967296)] (by rfl) (by rfl) (World.news_of_block (cs := #[.int .u32 (a % 4294967296)]) (t := 23) (fr := (0, 0)) (heap_alloc_new w1 _)) (by simp [Value.oneCell'])
        (by omega) (by unfold maxLen; omega) (by omega) (by simp; omega) (w1.heap.size + 1) (by simp) ?_; intro g2 cap2 w3 hown1 hgrow hat hlt3; have HP : Hid _ := HM1.out.push ((Below.refl _ _).alloc (Nat.le_refl _) _) hown1 hgrow; have fz := HP.out.2.2.frozen 1; have cz : w3.cell? ⟨mb, 1, none⟩ = some ov := HP.out.2.2.cell 1)
    refine hK.out _ _ ?_ (fun hHeld => ?_)
    · (go_split_ands
       refine ⟨?_, ?_⟩
       · (rw [hgrow.cell_far _ (by simp; omega) (Ne.symm nm)]; first | assumption | (simp [go_sem]; assumption))
       · (rw [hgrow.cell_far _ (by simp; omega) (Ne.symm ni)]; first | assumption | (simp [go_sem]; assumption)))
    clear hK K
    show wpAnyH _ _ _ _ _ _ _ (Act.put _ (some 13) _) _
    simp only [Act.put, List.setIfInBounds_toArray, List.set_cons_zero, List.set_cons_succ]
    refine wpAnyH_take (i := 12) (v := ?_) rfl (by kernel_rfl) (by kernel_rfl) (by kernel_rfl) (fun _ _ _ h => h) (Or.inl ⟨by rfl, ?_⟩) (by assumption) ?_
    case refine_2 => (intro w hSw; (try dsimp only at hSw); go_simp; first | done | (with_reducible rfl))
    show wpAnyH _ _ _ _ _ _ _ (Act.put _ (some 14) _) _
    simp only [Act.put, List.setIfInBounds_toArray, List.set_cons_zero, List.set_cons_succ]
    refine wpAnyH_take (i := 13) (v := ?_) rfl (by kernel_rfl) (by kernel_rfl) (by kernel_rfl) (fun _ _ _ h => h) (Or.inl ⟨by rfl, ?_⟩) (by assumption) ?_
    case refine_2 => (intro w hSw; (try dsimp only at hSw); go_simp; first | done | (with_reducible rfl))
    show wpAnyH _ _ _ _ _ _ _ (Act.put _ (some 15) _) _
    simp only [Act.put, List.setIfInBounds_toArray, List.set_cons_zero, List.set_cons_succ]
    refine wpAnyH_take (i := 14) (v := ?_) rfl (by kernel_rfl) (by kernel_rfl) (by kernel_rfl) (fun _ _ _ h => h) (Or.inl ⟨by rfl, ?_⟩) (by assumption) ?_
    case refine_2 => (intro w hSw; (try dsimp only at hSw); go_simp; first | done | (with_reducible rfl))
    show wpAnyH _ _ _ _ _ _ _ (Act.put _ (some 16) _) _
    simp only [Act.put, List.setIfInBounds_toArray, List.set_cons_zero, List.set_cons_succ]
    refine wpAnyH_ready (rs := [15]) (by kernel_rfl) (by simp) ?_
    refine (AllReadyH.cons rfl (fun K hK => ?_) AllReadyH.nil)
    go_simp
    refine hK.out _ _ ?_ (fun hHeld => ?_)
    · (go_split_ands
       refine ⟨?_, ?_⟩
       · (rw [World.cell?_setCell_far _ _ _ _ (Ne.symm q1)]; assumption)
       · (rw [World.cell?_setCell_far _ _ _ _ (Ne.symm q2)]; assumption))
    clear hK K
    try simp only [Act.put, List.setIfInBounds_toArray, List.set_cons_zero, List.set_cons_succ]
    refine wpAnyH_done (by kernel_rfl) ?_ _
    clear hHeld
    go_wp2
    go_end0
    exact ⟨rfl, HBE.out _ ⟨_, HP.out.1⟩ ((Ran.of_below hsz HBW.out).trans (HP.out.2.1.set _ _))⟩
  · go_simp
    refine (HA.out _ (Below.refl _ _).drew).mono ?_
    rintro e w1 ⟨rfl, hbd⟩
    have hbc : Below w.heap.size w w1 := step_below hbd ((Below.refl _ _).drew)
    have HBW : Hid (Below w.heap.size w w1) := hbc
    have HM1 : Hid (MS Z mb sb base s ov l st k iv I pc w1) := HMW.out _ hbc
    have HO : Hid (w1.ownsRow base 23 1 ov l.length (l.map (Value.int .u32))) := HM1.out.own
    have co1 := HM1.out.cov
    have hs1 := HM1.out.sz
    have hmb1 : mb < w1.heap.size := (by omega)
    go_wp2_with fail
    refine hK.out _ _ ?_ (fun hHeld => ?_)
    · ((go_split_ands; refine ⟨?_, ?_⟩ <;> first | exact step_cell hbc (by assumption) | (go_keep; done) | assumption))
    clear hK K
    try simp only [Act.put, List.setIfInBounds_toArray, List.set_cons_zero, List.set_cons_succ]
    clear hbd hbc
    refine wpAnyH_take (i := 9) (v := ?_) rfl (by kernel_rfl) (by kernel_rfl) (by kernel_rfl) (fun _ _ _ h => h) (Or.inl ⟨by rfl, ?_⟩) (by assumption) ?_
    case refine_2 => (intro w hSw; (try dsimp only at hSw); go_simp; first | done | (with_reducible rfl))
    show wpAnyH _ _ _ _ _ _ _ (Act.put _ (some 11) _) _
    simp only [Act.put, List.setIfInBounds_toArray, List.set_cons_zero, List.set_cons_succ]
    refine wpAnyH_ready (rs := [5, 10]) (by kernel_rfl) (by simp) ?_
    refine (AllReadyH.cons rfl (fun K hK => ?_) (AllReadyH.cons rfl (fun K hK => ?_) AllReadyH.nil))
    · go_simp
      refine hK.out _ _ ?_ (fun hHeld => ?_)
      · ((go_split_ands; refine ⟨?_, ?_⟩ <;> first | exact step_cell hbc (by assumption) | (go_keep; done) | assumption))
      clear hK K
      try simp only [Act.put, List.setIfInBounds_toArray, List.set_cons_zero, List.set_cons_succ]
      refine wpAnyH_ready (rs := [10]) (by kernel_rfl) (by simp) ?_
      refine (AllReadyH.cons rfl (fun K hK => ?_) AllReadyH.nil)
      go_simp
      refine hK.out _ _ ?_ (fun hHeld => ?_)
      · ((go_split_ands; refine ⟨?_, ?_⟩ <;> go_keep))
      clear hK K
      try simp only [Act.put, List.setIfInBounds_toArray, List.set_cons_zero, List.set_cons_succ]
      refine wpAnyH_ready (rs := [11]) (by kernel_rfl) (by simp) ?_
      refine (AllReadyH.cons rfl (fun K hK => ?_) AllReadyH.nil)
      (refine step_append_lies _ (by rfl) _ _ _ (by rfl) base 23 t0' _ 1 4 Try.underlying33 hi0 hy0 hy1 hy2 rfl (by omega) ov l.length (l.map (Value.int .u32)) (by rfl) (World.ownsRow.alloc HO.out _)
          ⟨w1.heap.size, 0, none⟩ 1 1 [.int .u32 (a % 4294967296)] (by rfl) (by rfl) (World.news_of_block (cs := #[.int .u32 (a % 4294967296)]) (t := 23) (fr := (0, 0)) (heap_alloc_new w1 _)) (by simp [Value.oneCell'])
          (by omega) (by unfold maxLen; omega) (by omega) (by simp; omega) (w1.heap.size + 1) (by simp) ?_; intro g2 cap2 w3 hown1 hgrow hat hlt3; have HP : Hid _ := HM1.out.push ((Below.refl _ _).alloc (Nat.le_refl _) _) hown1 hgrow; have fz := HP.out.2.2.frozen 1; have cz : w3.cell? ⟨mb, 1, none⟩ = some ov := HP.out.2.2.cell 1)
      refine hK.out _ _ ?_ (fun hHeld => ?_)
      · (go_split_ands
         refine ⟨?_, ?_⟩
         · (rw [hgrow.cell_far _ (by simp; omega) (Ne.symm nm)]; first | assumption | (simp [go_sem]; assumption))
         · (rw [hgrow.cell_far _ (by simp; omega) (Ne.symm ni)]; first | assumption | (simp [go_sem]; assumption)))
      clear hK K
      show wpAnyH _ _ _ _ _ _ _ (Act.put _ (some 13) _) _
      simp only [Act.put, List.setIfInBounds_toArray, List.set_cons_zero, List.set_cons_succ]
      refine wpAnyH_take (i := 12) (v := ?_) rfl (by kernel_rfl) (by kernel_rfl) (by kernel_rfl) (fun _ _ _ h => h) (Or.inl ⟨by rfl, ?_⟩) (by assumption) ?_
      case refine_2 => (intro w hSw; (try dsimp only at hSw); go_simp; first | done | (with_reducible rfl))
      show wpAnyH _ _ _ _ _ _ _ (Act.put _ (some 14) _) _
      simp only [Act.put, List.setIfInBounds_toArray, List.set_cons_zero, List.set_cons_succ]
      refine wpAnyH_take (i := 13) (v := ?_) rfl (by kernel_rfl) (by kernel_rfl) (by kernel_rfl) (fun _ _ _ h => h) (Or.inl ⟨by rfl, ?_⟩) (by assumption) ?_
      case refine_2 => (intro w hSw; (try dsimp only at hSw); go_simp; first | done | (with_reducible rfl))
      show wpAnyH _ _ _ _ _ _ _ (Act.put _ (some 15) _) _
      simp only [Act.put, List.setIfInBounds_toArray, List.set_cons_zero, List.set_cons_succ]
      refine wpAnyH_take (i := 14) (v := ?_) rfl (by kernel_rfl) (by kernel_rfl) (by kernel_rfl) (fun _ _ _ h => h) (Or.inl ⟨by rfl, ?_⟩) (by assumption) ?_
      case refine_2 => (intro w hSw; (try dsimp only at hSw); go_simp; first | done | (with_reducible rfl))
      show wpAnyH _ _ _ _ _ _ _ (Act.put _ (some 16) _) _
      simp only [Act.put, List.setIfInBounds_toArray, List.set_cons_zero, List.set_cons_succ]
      refine wpAnyH_ready (rs := [15]) (by kernel_rfl) (by simp) ?_
      refine (AllReadyH.cons rfl (fun K hK => ?_) AllReadyH.nil)
      go_simp
      refine hK.out _ _ ?_ (fun hHeld => ?_)
      · (go_split_ands
         refine ⟨?_, ?_⟩
         · (rw [World.cell?_setCell_far _ _ _ _ (Ne.symm q1)]; assumption)
         · (rw [World.cell?_setCell_far _ _ _ _ (Ne.symm q2)]; assumption))
      clear hK K
      try simp only [Act.put, List.setIfInBounds_toArray, List.set_cons_zero, List.set_cons_succ]
      refine wpAnyH_done (by kernel_rfl) ?_ _
      clear hHeld
      go_wp2
      go_end0
      exact ⟨rfl, HBE.out _ ⟨_, HP.out.1⟩ ((Ran.of_below hsz HBW.out).trans (HP.out.2.1.set _ _))⟩
    · go_simp
      refine hK.out _ _ ?_ (fun hHeld => ?_)
      · ((go_split_ands; refine ⟨?_, ?_⟩ <;> go_keep))
      clear hK K
      try simp only [Act.put, List.setIfInBounds_toArray, List.set_cons_zero, List.set_cons_succ]
      refine wpAnyH_ready (rs := [5]) (by kernel_rfl) (by simp) ?_
      refine (AllReadyH.cons rfl (fun K hK => ?_) AllReadyH.nil)
      go_simp
      refine hK.out _ _ ?_ (fun hHeld => ?_)
      · ((go_split_ands; refine ⟨?_, ?_⟩ <;> first | exact step_cell hbc (by assumption) | (go_keep; done) | assumption))
      clear hK K
      try simp only [Act.put, List.setIfInBounds_toArray, List.set_cons_zero, List.set_cons_succ]
      refine wpAnyH_ready (rs := [11]) (by kernel_rfl) (by simp) ?_
      refine (AllReadyH.cons rfl (fun K hK => ?_) AllReadyH.nil)
      (refine step_append_lies _ (by rfl) _ _ _ (by rfl) base 23 t0' _ 1 4 Try.underlying33 hi0 hy0 hy1 hy2 rfl (by omega) ov l.length (l.map (Value.int .u32)) (by rfl) (World.ownsRow.alloc HO.out _)
          ⟨w1.heap.size, 0, none⟩ 1 1 [.int .u32 (a % 4294967296)] (by rfl) (by rfl) (World.news_of_block (cs := #[.int .u32 (a % 4294967296)]) (t := 23) (fr := (0, 0)) (heap_alloc_new w1 _)) (by simp [Value.oneCell'])
          (by omega) (by unfold maxLen; omega) (by omega) (by simp; omega) (w1.heap.size + 1) (by simp) ?_; intro g2 cap2 w3 hown1 hgrow hat hlt3; have HP : Hid _ := HM1.out.push ((Below.refl _ _).alloc (Nat.le_refl _) _) hown1 hgrow; have fz := HP.out.2.2.frozen 1; have cz : w3.cell? ⟨mb, 1, none⟩ = some ov := HP.out.2.2.cell 1)
      refine hK.out _ _ ?_ (fun hHeld => ?_)
      · (go_split_ands
         refine ⟨?_, ?_⟩
         · (rw [hgrow.cell_far _ (by simp; omega) (Ne.symm nm)]; first | assumption | (simp [go_sem]; assumption))
         · (rw [hgrow.cell_far _ (by simp; omega) (Ne.symm ni)]; first | assumption | (simp [go_sem]; assumption)))
      clear hK K
      show wpAnyH _ _ _ _ _ _ _ (Act.put _ (some 13) _) _
      simp only [Act.put, List.setIfInBounds_toArray, List.set_cons_zero, List.set_cons_succ]
      refine wpAnyH_take (i := 12) (v := ?_) rfl (by kernel_rfl) (by kernel_rfl) (by kernel_rfl) (fun _ _ _ h => h) (Or.inl ⟨by rfl, ?_⟩) (by assumption) ?_
      case refine_2 => (intro w hSw; (try dsimp only at hSw); go_simp; first | done | (with_reducible rfl))
      show wpAnyH _ _ _ _ _ _ _ (Act.put _ (some 14) _) _
      simp only [Act.put, List.setIfInBounds_toArray, List.set_cons_zero, List.set_cons_succ]
      refine wpAnyH_take (i := 13) (v := ?_) rfl (by kernel_rfl) (by kernel_rfl) (by kernel_rfl) (fun _ _ _ h => h) (Or.inl ⟨by rfl, ?_⟩) (by assumption) ?_
      case refine_2 => (intro w hSw; (try dsimp only at hSw); go_simp; first | done | (with_reducible rfl))
      show wpAnyH _ _ _ _ _ _ _ (Act.put _ (some 15) _) _
      simp only [Act.put, List.setIfInBounds_toArray, List.set_cons_zero, List.set_cons_succ]
      refine wpAnyH_take (i := 14) (v := ?_) rfl (by kernel_rfl) (by kernel_rfl) (by kernel_rfl) (fun _ _ _ h => h) (Or.inl ⟨by rfl, ?_⟩) (by assumption) ?_
      case refine_2 => (intro w hSw; (try dsimp only at hSw); go_simp; first | done | (with_reducible rfl))
      show wpAnyH _ _ _ _ _ _ _ (Act.put _ (some 16) _) _
      simp only [Act.put, List.setIfInBounds_toArray, List.set_cons_zero, List.set_cons_succ]
      refine wpAnyH_ready (rs := [15]) (by kernel_rfl) (by simp) ?_
      refine (AllReadyH.cons rfl (fun K hK => ?_) AllReadyH.nil)
      go_simp
      refine hK.out _ _ ?_ (fun hHeld => ?_)
      · (go_split_ands
         refine ⟨?_, ?_⟩
         · (rw [World.cell?_setCell_far _ _ _ _ (Ne.symm q1)]; assumption)
         · (rw [World.cell?_setCell_far _ _ _ _ (Ne.symm q2)]; assumption))
      clear hK K
      try simp only [Act.put, List.setIfInBounds_toArray, List.set_cons_zero, List.set_cons_succ]
      refine wpAnyH_done (by kernel_rfl) ?_ _
      clear hHeld
      go_wp2
      go_end0
      exact ⟨rfl, HBE.out _ ⟨_, HP.out.1⟩ ((Ran.of_below hsz HBW.out).trans (HP.out.2.1.set _ _))⟩
end
end Go.Proofs.Ytolhnlbgohobkaa.form
