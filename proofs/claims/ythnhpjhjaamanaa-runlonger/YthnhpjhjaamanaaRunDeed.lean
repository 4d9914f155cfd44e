/- What the closures do that the program's run makes of an instruction: a step's deed on the machine. -/
import Derived.Test.YthnhpjhjaamanaaRunGiving
import Derived.Deep.AppendLies
namespace Go.Proofs.Ythnhpjhjaamanaa.form
open Go.RowKit Go.Proofs.Ythnhpjhjaamanaa.num
set_option linter.unusedVariables false
attribute [local go_sem ↓] Go.wp_at_zero Go.wp_at_succ

/-- The machine behind a deed. -/
def Behind (mb base : Nat) (i : LIns) (ts l : List Int) (st k : Int) (I : List Int) (pc : Int) (w w' : World) : Prop :=
  (∃ ov' iv', MS mb base (if givesB i.op then ts.set i.dest.toNat (gvI i (ts.getD i.a.toNat 0) (ts.getD i.b.toNat 0) (I.headD 0)) else ts) ov' (if i.op = 4 then l ++ [ts.getD i.a.toNat 0 % 4294967296] else l)
    (if i.op = 10 then 1 else st) k iv' (if i.op = 3 then I.tail else I) (if i.op = 8 ∨ (i.op = 9 ∧ ¬ ts.getD i.a.toNat 0 = 0) then i.c else pc) w') ∧ Ran mb base w w'

def DeedSpec (mb db : Nat) (i : LIns) (w1 : World) (g : Value) : Prop := ∃ F caps, g = .func (.func F) #[] caps ∧ (∀ w, Sem.run Try.prog (callFunc F caps) w = .ok (.enter F caps) w) ∧ ∀ base ts ov l st k iv I pc w, Kept mb db w1 w → MS mb base ts ov l st k iv I pc w →
  w1.heap.size ≤ base → l.length ≤ 3000 → (i.op = 5 → ts.getD i.a.toNat 0 < 4294967296) → Calls Try.prog F caps w fun e w' => e = .returned (.tuple #[]) ∧ Behind mb base i ts l st k I pc w w'

theorem DeedSpec.later {mb db : Nat} {i : LIns} {g : Value} {w1 w2 : World} (h : DeedSpec mb db i w1 g) (hk : Kept mb db w1 w2) (hz2 : w1.heap.size ≤ w2.heap.size) : DeedSpec mb db i w2 g := by
  obtain ⟨F, caps, e, he, hc⟩ := h
  exact ⟨F, caps, e, he, fun base ts ov l st k iv I pc w hw hm hz => hc base ts ov l st k iv I pc w (hk.trans hz2 hw) hm (Nat.le_trans hz2 hz)⟩

section
variable {mb db base bm bi : Nat} {ts : List Int} {ov : Value} {l : List Int} {st k : Int} {iv : Value} {I : List Int} {pc : Int} {i : LIns} {w : World}

theorem deed2 (hb : Box mb db bm bi i w) (hm : MS mb base ts ov l st k iv I pc w) (ho : i.op = 8) :
    Calls Try.prog 41 #[.pointer (some ⟨bi, 0, none⟩), .pointer (some ⟨bm, 0, none⟩)] w fun e w' => e = .returned (.tuple #[]) ∧ Behind mb base i ts l st k I pc w w' := by
  have cm := hb.pm
  have c4 := hb.i4
  have cp := hm.cpc
  have fz := hm.fz 16
  have HB : Hid (Behind mb base i ts l st k I pc w (w.setCell ⟨mb, 16, none⟩ (.int .i64 i.c))) := by
    refine ⟨⟨ov, iv, ?_⟩, (Ran.refl _ _ _).set _ _⟩
    rw [if_neg (by unfold givesB; simp [ho]), if_neg (by omega), if_neg (by omega), if_neg (by omega), if_pos (Or.inl ho)]
    exact hm.setPc i.c
  clear hm hb
  go_enter Try.func41, Try.ntmps41
  go_wp2
  go_end0
  exact ⟨rfl, HB.out⟩

theorem deed4 (hb : Box mb db bm bi i w) (hm : MS mb base ts ov l st k iv I pc w) (ho : i.op = 10) :
    Calls Try.prog 43 #[.pointer (some ⟨bm, 0, none⟩)] w fun e w' => e = .returned (.tuple #[]) ∧ Behind mb base i ts l st k I pc w w' := by
  have cm := hb.pm
  have cp := hm.cst
  have fz := hm.fz 0
  have HB : Hid (Behind mb base i ts l st k I pc w (w.setCell ⟨mb, 0, none⟩ (.int .i64 1))) := by
    refine ⟨⟨ov, iv, ?_⟩, (Ran.refl _ _ _).set _ _⟩
    rw [if_neg (by unfold givesB; simp [ho]), if_neg (by omega), if_pos ho, if_neg (by omega), if_neg (by omega)]
    exact hm.setState 1
  clear hm hb
  go_enter Try.func43, Try.ntmps43
  go_wp2
  go_end0
  exact ⟨rfl, HB.out⟩

theorem deed3 (hb : Box mb db bm bi i w) (hm : MS mb base ts ov l st k iv I pc w) (ho : i.op = 9) (ha0 : 0 ≤ i.a) (ha1 : i.a < 12) :
    Calls Try.prog 42 #[.pointer (some ⟨bm, 0, none⟩), .pointer (some ⟨bi, 0, none⟩)] w fun e w' => e = .returned (.tuple #[]) ∧ Behind mb base i ts l st k I pc w w' := by
  have cm := hb.pm
  have c2 := hb.i2
  have c4 := hb.i4
  have cp := hm.cpc
  have fz := hm.fz 16
  have ca := hm.ctemp i.a.toNat (by omega)
  have hg : ¬ givesB i.op = true := by unfold givesB; simp [ho]
  have HB1 : Hid (¬ ts.getD i.a.toNat 0 = 0 → ∀ n, Behind mb base i ts l st k I pc w ((w.drewN n).setCell ⟨mb, 16, none⟩ (.int .i64 i.c))) := by
    intro h0 n
    refine ⟨⟨ov, iv, ?_⟩, (Ran.of_below hm.sz (below_drewN (Below.refl _ _) n)).set _ _⟩
    rw [if_neg hg, if_neg (by omega), if_neg (by omega), if_neg (by omega), if_pos (Or.inr ⟨ho, h0⟩)]
    exact (hm.below (below_drewN (Below.refl _ _) n)).setPc i.c
  have HB2 : Hid (ts.getD i.a.toNat 0 = 0 → ∀ n, Behind mb base i ts l st k I pc w (w.drewN n)) := by
    intro h0 n
    refine ⟨⟨ov, iv, ?_⟩, (Ran.of_below hm.sz (below_drewN (Below.refl _ _) n))⟩
    rw [if_neg hg, if_neg (by omega), if_neg (by omega), if_neg (by omega), if_neg (by rw [h0]; omega)]
    exact (hm.below (below_drewN (Below.refl _ _) n))
  generalize hae : ts.getD i.a.toNat 0 = a at *
  clear hm hb hg hae
  go_enter Try.func42, Try.ntmps42
  go_wp2
  go_quiet (fail)
  go_wp2
  all_goals go_end0
  · exact ⟨rfl, HB1.out (by simp_all) _⟩
  · exact ⟨rfl, HB2.out (by simp_all) _⟩

theorem infU32 : (Try.prog.info? 23).map (fun i => (i.zero, i.size, i.bytes)) = some (some (.int .u32 0), 1, 4) := by kernel_rfl

set_option maxRecDepth 100000 in
set_option maxHeartbeats 1000000 in
theorem deed1 (hb : Box mb db bm bi i w) (hm : MS mb base ts ov l st k iv I pc w) (ho : i.op = 4) (ha0 : 0 ≤ i.a) (ha1 : i.a < 12) (hl : l.length ≤ 3000) (hz1 : bm < base) (hz2 : bi < base) :
    Calls Try.prog 40 #[.pointer (some ⟨bm, 0, none⟩), .pointer (some ⟨bi, 0, none⟩)] w fun e w' => e = .returned (.tuple #[]) ∧ Behind mb base i ts l st k I pc w w' := by
  have cm := hb.pm
  have c2 := hb.i2
  have co := hm.cov
  have ca := hm.ctemp i.a.toNat (by omega)
  have HM : Hid (MS mb base ts ov l st k iv I pc w) := hm
  have hg : ¬ givesB i.op = true := by unfold givesB; simp [ho]
  have HO : Hid (w.ownsRow base 23 1 ov l.length (l.map (Value.int .u32))) := hm.own
  have hsz := hm.sz
  have hmlt := hm.lt
  have nm := hm.ownNe hz1
  have ni := hm.ownNe hz2
  have nb := hm.ownNe hm.lt
  have q1 : bm ≠ mb := hb.n1
  have q2 : bi ≠ mb := hb.n2
  have HBE : Hid (∀ w', MS mb base ts ov l st k iv I pc w → (∃ v', MS mb base ts v' (l ++ [ts.getD i.a.toNat 0 % 4294967296]) st k iv I pc w') → Ran mb base w w' → Behind mb base i ts l st k I pc w w') := by
    intro w' _ hv hr
    obtain ⟨v', hv⟩ := hv
    refine ⟨⟨v', iv, ?_⟩, hr⟩
    rw [if_neg hg, if_pos ho, if_neg (by omega), if_neg (by omega), if_neg (by omega)]
    exact hv
  generalize ts.getD i.a.toNat 0 = a at *
  obtain ⟨t0', hi0, hy0, hy1, hy2⟩ := info_parts infU32
  clear hm hb hg
  have hml : mb < w.heap.size := by omega
  have hml2 : bm < w.heap.size := by omega
  have hml3 : bi < w.heap.size := by omega
  go_enter Try.func40, Try.ntmps40
  go_wp2
  refine wp_region_held_drew (S := (fun w' => w'.cell? ⟨bm, 0, none⟩ = some (.pointer (some ⟨mb, 0, none⟩)) ∧ w'.cell? ⟨bi, 2, none⟩ = some (.int .i64 i.a) ∧ w'.cell? ⟨mb, 3 + i.a.toNat, none⟩ = some (.int .u64 a))) (by rfl) ?_ (fun hHeld => ?_)
  · (refine ⟨?_, ?_, ?_⟩ <;> go_keep)
  refine wpAnyH_take (i := 0) (v := ?_) rfl (by kernel_rfl) (by kernel_rfl) (by kernel_rfl) (fun _ _ _ h => h) (Or.inl ⟨by rfl, ?_⟩) (by assumption) ?_
  case refine_2 => (intro w hSw; (try dsimp only at hSw); go_simp; first | done | (with_reducible rfl))
  show wpAnyH _ _ _ _ _ _ _ (Act.put _ (some 2) _) _
  simp only [Act.put, List.setIfInBounds_toArray, List.set_cons_zero, List.set_cons_succ]
  refine wpAnyH_take (i := 1) (v := ?_) rfl (by kernel_rfl) (by kernel_rfl) (by kernel_rfl) (fun _ _ _ h => h) (Or.inl ⟨by rfl, ?_⟩) (by assumption) ?_
  case refine_2 => (intro w hSw; (try dsimp only at hSw); go_simp; first | done | (with_reducible rfl))
  show wpAnyH _ _ _ _ _ _ _ (Act.put _ (some 3) _) _
  simp only [Act.put, List.setIfInBounds_toArray, List.set_cons_zero, List.set_cons_succ]
  refine wpAnyH_take (i := 2) (v := ?_) rfl (by kernel_rfl) (by kernel_rfl) (by kernel_rfl) (fun _ _ _ h => h) (Or.inl ⟨by rfl, ?_⟩) (by assumption) ?_
  case refine_2 => (intro w hSw; (try dsimp only at hSw); go_simp; first | done | (with_reducible rfl))
  show wpAnyH _ _ _ _ _ _ _ (Act.put _ (some 4) _) _
  simp only [Act.put, List.setIfInBounds_toArray, List.set_cons_zero, List.set_cons_succ]
  refine wpAnyH_take (i := 3) (v := ?_) rfl (by kernel_rfl) (by kernel_rfl) (by kernel_rfl) (fun _ _ _ h => h) (Or.inl ⟨by rfl, ?_⟩) (by assumption) ?_
  case refine_2 => (intro w hSw; (try dsimp only at hSw); go_simp; first | done | (with_reducible rfl))
  show wpAnyH _ _ _ _ _ _ _ (Act.put _ (some 5) _) _
  simp only [Act.put, List.setIfInBounds_toArray, List.set_cons_zero, List.set_cons_succ]
  refine wpAnyH_take (i := 4) (v := ?_) rfl (by kernel_rfl) (by kernel_rfl) (by kernel_rfl) (fun _ _ _ h => h) (Or.inl ⟨by rfl, ?_⟩) (by assumption) ?_
  case refine_2 => (intro w hSw; (try dsimp only at hSw); go_simp; first | done | (with_reducible rfl))
  show wpAnyH _ _ _ _ _ _ _ (Act.put _ (some 6) _) _
  simp only [Act.put, List.setIfInBounds_toArray, List.set_cons_zero, List.set_cons_succ]
  refine wpAnyH_take (i := 6) (v := ?_) rfl (by kernel_rfl) (by kernel_rfl) (by kernel_rfl) (fun _ _ _ h => h) (Or.inl ⟨by rfl, ?_⟩) (by assumption) ?_
  case refine_2 => (intro w hSw; (try dsimp only at hSw); go_simp; first | done | (with_reducible rfl))
  show wpAnyH _ _ _ _ _ _ _ (Act.put _ (some 8) _) _
  simp only [Act.put, List.setIfInBounds_toArray, List.set_cons_zero, List.set_cons_succ]
  refine wpAnyH_take (i := 7) (v := ?_) rfl (by kernel_rfl) (by kernel_rfl) (by kernel_rfl) (fun _ _ _ h => h) (Or.inl ⟨by rfl, ?_⟩) (by assumption) ?_
  case refine_2 => (intro w hSw; (try dsimp only at hSw); go_simp; first | done | (with_reducible rfl))
  show wpAnyH _ _ _ _ _ _ _ (Act.put _ (some 9) _) _
  simp only [Act.put, List.setIfInBounds_toArray, List.set_cons_zero, List.set_cons_succ]
  refine wpAnyH_take (i := 8) (v := ?_) rfl (by kernel_rfl) (by kernel_rfl) (by kernel_rfl) (fun _ _ _ h => h) (Or.inl ⟨by rfl, ?_⟩) (by assumption) ?_
  case refine_2 => (intro w hSw; (try dsimp only at hSw); go_simp; first | done | (with_reducible rfl))
  show wpAnyH _ _ _ _ _ _ _ (Act.put _ (some 10) _) _
  simp only [Act.put, List.setIfInBounds_toArray, List.set_cons_zero, List.set_cons_succ]
  refine wpAnyH_take (i := 9) (v := ?_) rfl (by kernel_rfl) (by kernel_rfl) (by kernel_rfl) (fun _ _ _ h => h) (Or.inl ⟨by rfl, ?_⟩) (by assumption) ?_
  case refine_2 => (intro w hSw; (try dsimp only at hSw); go_simp; first | done | (with_reducible rfl))
  show wpAnyH _ _ _ _ _ _ _ (Act.put _ (some 11) _) _
  simp only [Act.put, List.setIfInBounds_toArray, List.set_cons_zero, List.set_cons_succ]
  refine wpAnyH_take (i := 10) (v := ?_) rfl (by kernel_rfl) (by kernel_rfl) (by kernel_rfl) (fun _ _ _ h => h) (Or.inl ⟨by rfl, ?_⟩) (by assumption) ?_
  case refine_2 => (intro w hSw; (try dsimp only at hSw); go_simp; first | done | (with_reducible rfl))
  show wpAnyH _ _ _ _ _ _ _ (Act.put _ (some 12) _) _
  simp only [Act.put, List.setIfInBounds_toArray, List.set_cons_zero, List.set_cons_succ]
  refine wpAnyH_take (i := 11) (v := ?_) rfl (by kernel_rfl) (by kernel_rfl) (by kernel_rfl) (fun _ _ _ h => h) (Or.inl ⟨by rfl, ?_⟩) (by assumption) ?_
  case refine_2 => (intro w hSw; (try dsimp only at hSw); go_simp; first | done | (with_reducible rfl))
  show wpAnyH _ _ _ _ _ _ _ (Act.put _ (some 13) _) _
  simp only [Act.put, List.setIfInBounds_toArray, List.set_cons_zero, List.set_cons_succ]
  refine wpAnyH_take (i := 12) (v := ?_) rfl (by kernel_rfl) (by kernel_rfl) (by kernel_rfl) (fun _ _ _ h => h) (Or.inl ⟨by rfl, ?_⟩) (by assumption) ?_
  case refine_2 => (intro w hSw; (try dsimp only at hSw); go_simp; first | done | (with_reducible rfl))
  show wpAnyH _ _ _ _ _ _ _ (Act.put _ (some 14) _) _
  simp only [Act.put, List.setIfInBounds_toArray, List.set_cons_zero, List.set_cons_succ]
  refine wpAnyH_take (i := 13) (v := ?_) rfl (by kernel_rfl) (by kernel_rfl) (by kernel_rfl) (fun _ _ _ h => h) (Or.inl ⟨by rfl, ?_⟩) (by assumption) ?_
  case refine_2 => (intro w hSw; (try dsimp only at hSw); go_simp; first | done | (with_reducible rfl))
  show wpAnyH _ _ _ _ _ _ _ (Act.put _ (some 15) _) _
  simp only [Act.put, List.setIfInBounds_toArray, List.set_cons_zero, List.set_cons_succ]
  refine wpAnyH_ready (rs := [5, 14]) (by kernel_rfl) (by simp) ?_
  refine AllReadyH.cons rfl (fun K hK => ?_) (AllReadyH.cons rfl (fun K hK => ?_) AllReadyH.nil)
  · go_simp
    refine hK.out _ _ ?_ (fun hHeld => ?_)
    · (go_split_ands; refine ⟨?_, ?_, ?_⟩ <;> go_keep)
    clear hK K
    try simp only [Act.put, List.setIfInBounds_toArray, List.set_cons_zero, List.set_cons_succ]
    refine wpAnyH_ready (rs := [14]) (by kernel_rfl) (by simp) ?_
    refine AllReadyH.cons rfl (fun K hK => ?_) AllReadyH.nil
    go_simp
    refine hK.out _ _ ?_ (fun hHeld => ?_)
    · (go_split_ands; refine ⟨?_, ?_, ?_⟩ <;> go_keep)
    clear hK K
    try simp only [Act.put, List.setIfInBounds_toArray, List.set_cons_zero, List.set_cons_succ]
    refine wpAnyH_ready (rs := [15]) (by kernel_rfl) (by simp) ?_
    refine AllReadyH.cons rfl (fun K hK => ?_) AllReadyH.nil
    (refine step_append_lies _ (by rfl) _ _ _ (by rfl) base 23 t0' _ 1 4 Try.underlying33 hi0 hy0 hy1 hy2 rfl (by omega) ov l.length (l.map (Value.int .u32)) (by rfl) ((World.ownsRow.alloc HO.out _).drew)
        ⟨w.heap.size, 0, none⟩ 1 1 [.int .u32 (a % 4294967296)] (by rfl) (by rfl) (World.news_of_block (cs := #[.int .u32 (a % 4294967296)]) (t := 23) (fr := (0, 0)) (heap_alloc_new w _)) (by simp [Value.oneCell'])
        (by omega) (by unfold maxLen; omega) (by omega) (by simp; omega) (w.heap.size + 1) (by simp) ?_; intro g2 cap2 w3 hown1 hgrow hat hlt3; have HP : Hid _ := HM.out.push (((Below.refl _ _).alloc (Nat.le_refl _) _).drew) hown1 hgrow; have fz := HP.out.2.2.frozen 1; have cz : w3.cell? ⟨mb, 1, none⟩ = some ov := HP.out.2.2.cell 1)
    refine hK.out _ _ ?_ (fun hHeld => ?_)
    · (go_split_ands
       refine ⟨?_, ?_, ?_⟩
       · (rw [hgrow.cell_far _ (by simp; omega) (Ne.symm nm)]; simp [go_sem]; assumption)
       · (rw [hgrow.cell_far _ (by simp; omega) (Ne.symm ni)]; simp [go_sem]; assumption)
       · (rw [hgrow.cell_far _ (by simp; omega) (Ne.symm nb)]; simp [go_sem]; assumption))
    clear hK K
    show wpAnyH _ _ _ _ _ _ _ (Act.put _ (some 17) _) _
    simp only [Act.put, List.setIfInBounds_toArray, List.set_cons_zero, List.set_cons_succ]
    refine wpAnyH_take (i := 16) (v := ?_) rfl (by kernel_rfl) (by kernel_rfl) (by kernel_rfl) (fun _ _ _ h => h) (Or.inl ⟨by rfl, ?_⟩) (by assumption) ?_
    case refine_2 => (intro w hSw; (try dsimp only at hSw); go_simp; first | done | (with_reducible rfl))
    show wpAnyH _ _ _ _ _ _ _ (Act.put _ (some 18) _) _
    simp only [Act.put, List.setIfInBounds_toArray, List.set_cons_zero, List.set_cons_succ]
    refine wpAnyH_take (i := 17) (v := ?_) rfl (by kernel_rfl) (by kernel_rfl) (by kernel_rfl) (fun _ _ _ h => h) (Or.inl ⟨by rfl, ?_⟩) (by assumption) ?_
    case refine_2 => (intro w hSw; (try dsimp only at hSw); go_simp; first | done | (with_reducible rfl))
    show wpAnyH _ _ _ _ _ _ _ (Act.put _ (some 19) _) _
    simp only [Act.put, List.setIfInBounds_toArray, List.set_cons_zero, List.set_cons_succ]
    refine wpAnyH_take (i := 18) (v := ?_) rfl (by kernel_rfl) (by kernel_rfl) (by kernel_rfl) (fun _ _ _ h => h) (Or.inl ⟨by rfl, ?_⟩) (by assumption) ?_
    case refine_2 => (intro w hSw; (try dsimp only at hSw); go_simp; first | done | (with_reducible rfl))
    show wpAnyH _ _ _ _ _ _ _ (Act.put _ (some 20) _) _
    simp only [Act.put, List.setIfInBounds_toArray, List.set_cons_zero, List.set_cons_succ]
    refine wpAnyH_ready (rs := [19]) (by kernel_rfl) (by simp) ?_
    refine AllReadyH.cons rfl (fun K hK => ?_) AllReadyH.nil
    go_simp
    refine hK.out _ _ ?_ (fun hHeld => ?_)
    · (go_split_ands
       refine ⟨?_, ?_, ?_⟩
       · (rw [World.cell?_setCell_far _ _ _ _ (Ne.symm q1)]; assumption)
       · (rw [World.cell?_setCell_far _ _ _ _ (Ne.symm q2)]; assumption)
       · (rw [World.cell?_setCell_other _ _ _ _ (by intro e; injection e with e1 e2; omega)]; assumption))
    clear hK K
    refine wpAnyH_done (by kernel_rfl) ?_ _
    clear hHeld
    go_wp2
    go_end0
    exact ⟨rfl, HBE.out _ HM.out ⟨_, HP.out.1⟩ (HP.out.2.1.set _ _)⟩
  · go_simp
    refine hK.out _ _ ?_ (fun hHeld => ?_)
    · (go_split_ands; refine ⟨?_, ?_, ?_⟩ <;> go_keep)
    clear hK K
    try simp only [Act.put, List.setIfInBounds_toArray, List.set_cons_zero, List.set_cons_succ]
    refine wpAnyH_ready (rs := [5]) (by kernel_rfl) (by simp) ?_
    refine AllReadyH.cons rfl (fun K hK => ?_) AllReadyH.nil
    go_simp
    refine hK.out _ _ ?_ (fun hHeld => ?_)
    · (go_split_ands; refine ⟨?_, ?_, ?_⟩ <;> go_keep)
    clear hK K
    try simp only [Act.put, List.setIfInBounds_toArray, List.set_cons_zero, List.set_cons_succ]
    refine wpAnyH_ready (rs := [15]) (by kernel_rfl) (by simp) ?_
    refine AllReadyH.cons rfl (fun K hK => ?_) AllReadyH.nil
    (refine step_append_lies _ (by rfl) _ _ _ (by rfl) base 23 t0' _ 1 4 Try.underlying33 hi0 hy0 hy1 hy2 rfl (by omega) ov l.length (l.map (Value.int .u32)) (by rfl) ((World.ownsRow.alloc HO.out _).drew)
        ⟨w.heap.size, 0, none⟩ 1 1 [.int .u32 (a % 4294967296)] (by rfl) (by rfl) (World.news_of_block (cs := #[.int .u32 (a % 4294967296)]) (t := 23) (fr := (0, 0)) (heap_alloc_new w _)) (by simp [Value.oneCell'])
        (by omega) (by unfold maxLen; omega) (by omega) (by simp; omega) (w.heap.size + 1) (by simp) ?_; intro g2 cap2 w3 hown1 hgrow hat hlt3; have HP : Hid _ := HM.out.push (((Below.refl _ _).alloc (Nat.le_refl _) _).drew) hown1 hgrow; have fz := HP.out.2.2.frozen 1; have cz : w3.cell? ⟨mb, 1, none⟩ = some ov := HP.out.2.2.cell 1)
    refine hK.out _ _ ?_ (fun hHeld => ?_)
    · (go_split_ands
       refine ⟨?_, ?_, ?_⟩
       · (rw [hgrow.cell_far _ (by simp; omega) (Ne.symm nm)]; simp [go_sem]; assumption)
       · (rw [hgrow.cell_far _ (by simp; omega) (Ne.symm ni)]; simp [go_sem]; assumption)
       · (rw [hgrow.cell_far _ (by simp; omega) (Ne.symm nb)]; simp [go_sem]; assumption))
    clear hK K
    show wpAnyH _ _ _ _ _ _ _ (Act.put _ (some 17) _) _
    simp only [Act.put, List.setIfInBounds_toArray, List.set_cons_zero, List.set_cons_succ]
    refine wpAnyH_take (i := 16) (v := ?_) rfl (by kernel_rfl) (by kernel_rfl) (by kernel_rfl) (fun _ _ _ h => h) (Or.inl ⟨by rfl, ?_⟩) (by assumption) ?_
    case refine_2 => (intro w hSw; (try dsimp only at hSw); go_simp; first | done | (with_reducible rfl))
    show wpAnyH _ _ _ _ _ _ _ (Act.put _ (some 18) _) _
    simp only [Act.put, List.setIfInBounds_toArray, List.set_cons_zero, List.set_cons_succ]
    refine wpAnyH_take (i := 17) (v := ?_) rfl (by kernel_rfl) (by kernel_rfl) (by kernel_rfl) (fun _ _ _ h => h) (Or.inl ⟨by rfl, ?_⟩) (by assumption) ?_
    case refine_2 => (intro w hSw; (try dsimp only at hSw); go_simp; first | done | (with_reducible rfl))
    show wpAnyH _ _ _ _ _ _ _ (Act.put _ (some 19) _) _
    simp only [Act.put, List.setIfInBounds_toArray, List.set_cons_zero, List.set_cons_succ]
    refine wpAnyH_take (i := 18) (v := ?_) rfl (by kernel_rfl) (by kernel_rfl) (by kernel_rfl) (fun _ _ _ h => h) (Or.inl ⟨by rfl, ?_⟩) (by assumption) ?_
    case refine_2 => (intro w hSw; (try dsimp only at hSw); go_simp; first | done | (with_reducible rfl))
    show wpAnyH _ _ _ _ _ _ _ (Act.put _ (some 20) _) _
    simp only [Act.put, List.setIfInBounds_toArray, List.set_cons_zero, List.set_cons_succ]
    refine wpAnyH_ready (rs := [19]) (by kernel_rfl) (by simp) ?_
    refine AllReadyH.cons rfl (fun K hK => ?_) AllReadyH.nil
    go_simp
    refine hK.out _ _ ?_ (fun hHeld => ?_)
    · (go_split_ands
       refine ⟨?_, ?_, ?_⟩
       · (rw [World.cell?_setCell_far _ _ _ _ (Ne.symm q1)]; assumption)
       · (rw [World.cell?_setCell_far _ _ _ _ (Ne.symm q2)]; assumption)
       · (rw [World.cell?_setCell_other _ _ _ _ (by intro e; injection e with e1 e2; omega)]; assumption))
    clear hK K
    refine wpAnyH_done (by kernel_rfl) ?_ _
    clear hHeld
    go_wp2
    go_end0
    exact ⟨rfl, HBE.out _ HM.out ⟨_, HP.out.1⟩ (HP.out.2.1.set _ _)⟩
/- END deed1 -/
end
end Go.Proofs.Ythnhpjhjaamanaa.form
