/- What the closure does that the program's machine makes of XOut, whatever its ends: what its A has comes out. -/
import Derived.Laws.EntriesVeiled
import Derived.Test.YtikhedkhgpjaaacGreatDoorW01
import Derived.Test.YtikhedkhgpjaaacGreatDoorW35
import Derived.Test.YtikhedkhgpjaaacGreatDoorW34

namespace Go.Proofs.YtikhedkhgpjaaacGreatDoor
set_option linter.unusedVariables false
namespace form
open Go.RowKit num
set_option maxRecDepth 100000
attribute [local go_sem ↓] Go.wp_at_zero Go.wp_at_succ
section
variable {Z : StoK} {mb sb db base bm bi be : Nat} {s : Z.S} {ov : Value} {l : List Int} {st k : Int} {iv : Value} {I : List Int} {pc : Int} {i : LIns} {x : EndF} {w : World} {rdA rdB : Z.S → Int} {wr : Z.S → Int → Z.S}
set_option maxHeartbeats 1000000 in
theorem deed1 (hb : Box mb sb db bm bi be i x w) (hm : MS Z mb sb base s ov l st k iv I pc w) (ho : i.op = 4) (hA : RdAt w x.fa x.ca (rdA s)) (hl : l.length ≤ 3000) (hz1 : bm < base) (hz2 : be < base) :
    Calls Tryz.prog 55 #[.pointer (some ⟨bm, 0, none⟩), .pointer (some ⟨be, 0, none⟩)] w fun e w' => e = .returned (.tuple #[]) ∧ Behind Z mb sb base i (plainE rdA rdB wr) s l st k I pc w w' := by
  have cm := hb.pm
  have ce := hb.e0
  have co := hm.cov
  have HM : Hid (MS Z mb sb base s ov l st k iv I pc w) := hm
  have hg : ¬ givesB i.op = true := by unfold givesB; simp [ho]
  have hsz := hm.sz
  have hmlt := hm.lt
  have nm := hm.ownNe hz1
  have ni := hm.ownNe hz2
  have q1 : bm ≠ mb := hb.n1
  have q2 : be ≠ mb := hb.n3
  have HBE : Hid (∀ w', (∃ v', MS Z mb sb base s v' (l ++ [rdA s % 4294967296]) st k iv I pc w') → Ran mb sb base w w' → Behind Z mb sb base i (plainE rdA rdB wr) s l st k I pc w w') := by
    intro w' hv hr
    obtain ⟨v', hv⟩ := hv
    refine ⟨⟨v', iv, ?_⟩, hr⟩
    rw [act_none hg, if_pos ho, if_neg (by omega), if_neg (by omega), if_neg (by omega)]
    exact hv
  have ua := hA.bd
  have enA := hA.ent
  have HA : Hid _ := hA.call
  have HMW : Hid (∀ w1, Below w.heap.size w w1 → MS Z mb sb base s ov l st k iv I pc w1) := fun w1 h => hm.below h
  generalize rdA s = a at *
  obtain ⟨t0', hi0, hy0, hy1, hy2⟩ := info_parts infU32
  clear hm hb hg hA
  go_enter Tryz.func55, Tryz.ntmps55
  go_wp2
  refine wp_region_held_drew (S := (fun w' => w'.cell? ⟨bm, 0, none⟩ = some (.pointer (some ⟨mb, 0, none⟩)) ∧ w'.cell? ⟨be, 0, none⟩ = some (.func (.func x.fa) #[] x.ca))) (by rfl) ?_ (fun hHeld => ?_)
  · (refine ⟨?_, ?_⟩ <;> go_keep)
  refine wpAnyH_take (i := 0) (v := ?_) rfl (by kernel_rfl) (by kernel_rfl) (by kernel_rfl) (fun _ _ _ h => h) (Or.inl ⟨by rfl, ?_⟩) (by assumption) ?_
  case refine_2 => (intro w hSw; (try dsimp only at hSw); go_simp; try with_reducible rfl)
  show wpAnyH _ _ _ _ _ _ _ (Act.put _ (some 2) _) _
  simp only [pz]
  refine wpAnyH_take (i := 1) (v := ?_) rfl (by kernel_rfl) (by kernel_rfl) (by kernel_rfl) (fun _ _ _ h => h) (Or.inl ⟨by rfl, ?_⟩) (by assumption) ?_
  case refine_2 => (intro w hSw; (try dsimp only at hSw); go_simp; try with_reducible rfl)
  show wpAnyH _ _ _ _ _ _ _ (Act.put _ (some 3) _) _
  simp only [pz]
  refine wpAnyH_take (i := 2) (v := ?_) rfl (by kernel_rfl) (by kernel_rfl) (by kernel_rfl) (fun _ _ _ h => h) (Or.inl ⟨by rfl, ?_⟩) (by assumption) ?_
  case refine_2 => (intro w hSw; (try dsimp only at hSw); go_simp; try with_reducible rfl)
  show wpAnyH _ _ _ _ _ _ _ (Act.put _ (some 4) _) _
  simp only [pz]
  refine wpAnyH_take (i := 3) (v := ?_) rfl (by kernel_rfl) (by kernel_rfl) (by kernel_rfl) (fun _ _ _ h => h) (Or.inl ⟨by rfl, ?_⟩) (by assumption) ?_
  case refine_2 => (intro w hSw; (try dsimp only at hSw); go_simp; try with_reducible rfl)
  show wpAnyH _ _ _ _ _ _ _ (Act.put _ (some 5) _) _
  simp only [pz]
  refine wpAnyH_take (i := 4) (v := ?_) rfl (by kernel_rfl) (by kernel_rfl) (by kernel_rfl) (fun _ _ _ h => h) (Or.inl ⟨by rfl, ?_⟩) (by assumption) ?_
  case refine_2 => (intro w hSw; (try dsimp only at hSw); go_simp; try with_reducible rfl)
  show wpAnyH _ _ _ _ _ _ _ (Act.put _ (some 6) _) _
  simp only [pz]
  refine wpAnyH_take (i := 6) (v := ?_) rfl (by kernel_rfl) (by kernel_rfl) (by kernel_rfl) (fun _ _ _ h => h) (Or.inl ⟨by rfl, ?_⟩) (by assumption) ?_
  case refine_2 => (intro w hSw; (try dsimp only at hSw); go_simp; try with_reducible rfl)
  show wpAnyH _ _ _ _ _ _ _ (Act.put _ (some 8) _) _
  simp only [pz]
  refine wpAnyH_take (i := 7) (v := ?_) rfl (by kernel_rfl) (by kernel_rfl) (by kernel_rfl) (fun _ _ _ h => h) (Or.inl ⟨by rfl, ?_⟩) (by assumption) ?_
  case refine_2 => (intro w hSw; (try dsimp only at hSw); go_simp; try with_reducible rfl)
  show wpAnyH _ _ _ _ _ _ _ (Act.put _ (some 9) _) _
  simp only [pz]
  refine wpAnyH_ready (rs := [5, 8]) (by kernel_rfl) (by simp) ?_
  refine (AllReadyH.cons rfl (fun K hK => ?_) (AllReadyH.cons rfl (fun K hK => ?_) AllReadyH.nil))
  · go_simp
    refine hK.out _ _ ?_ (fun hHeld => ?_)
    · ((go_split_ands; refine ⟨?_, ?_⟩ <;> first | exact step_cell hbc (by assumption) | (go_keep; done) | assumption))
    clear hK K
    try simp only [pz]
    refine wpAnyH_ready (rs := [8]) (by kernel_rfl) (by simp) ?_
    refine (AllReadyH.cons rfl (fun K hK => ?_) AllReadyH.nil)
    go_simp
    refine (HA.out _ (Below.refl _ _).drew).mono ?_
    rintro e w1 ⟨rfl, hbd⟩
    have hbc : Below w.heap.size w w1 := step_below hbd ((Below.refl _ _).drew)
    have HBW : Hid (Below w.heap.size w w1) := hbc
    have HM1 : Hid (MS Z mb sb base s ov l st k iv I pc w1) := HMW.out _ hbc
    have HO : Hid (w1.ownsRow base 60 1 ov l.length (l.map (Value.int .u32))) := HM1.out.own
    have co1 := HM1.out.cov
    have hs1 := HM1.out.sz
    have hmb1 : mb < w1.heap.size := (by omega)
    go_wp2_with fail
    refine hK.out _ _ ?_ (fun hHeld => ?_)
    · ((go_split_ands; refine ⟨?_, ?_⟩ <;> first | exact step_cell hbc (by assumption) | (go_keep; done) | assumption))
    clear hK K
    try simp only [pz]
    clear hbd hbc
    refine wpAnyH_take (i := 9) (v := ?_) rfl (by kernel_rfl) (by kernel_rfl) (by kernel_rfl) (fun _ _ _ h => h) (Or.inl ⟨by rfl, ?_⟩) (by assumption) ?_
    case refine_2 => (intro w hSw; (try dsimp only at hSw); go_simp; try with_reducible rfl)
    show wpAnyH _ _ _ _ _ _ _ (Act.put _ (some 11) _) _
    simp only [pz]
    refine wpAnyH_ready (rs := [10]) (by kernel_rfl) (by simp) ?_
    refine (AllReadyH.cons rfl (fun K hK => ?_) AllReadyH.nil)
    go_simp
    refine hK.out _ _ ?_ (fun hHeld => ?_)
    · ((go_split_ands; refine ⟨?_, ?_⟩ <;> go_keep))
    clear hK K
    try simp only [pz]
    refine wpAnyH_ready (rs := [11]) (by kernel_rfl) (by simp) ?_
    refine (AllReadyH.cons rfl (fun K hK => ?_) AllReadyH.nil)
    (refine step_append_lies _ (by rfl) _ _ _ (by rfl) base 60 t0' _ 1 4 Tryz.underlying28 hi0 hy0 hy1 hy2 rfl (by omega) ov l.length (l.map (Value.int .u32)) (by rfl) (World.ownsRow.alloc HO.out _)
        ⟨w1.heap.size, 0, none⟩ 1 1 [.int .u32 (a % 4294967296)] (by rfl) (by rfl) (World.news_of_block (cs := #[.int .u32 (a % 4294967296)]) (t := 60) (fr := (0, 0)) (heap_alloc_new w1 _)) (by simp [Value.oneCell'])
        (by omega) (by unfold maxLen; omega) (by omega) (by simp; omega) (w1.heap.size + 1) (by simp) ?_; intro g2 cap2 w3 hown1 hgrow hat hlt3; have HP : Hid _ := HM1.out.push ((Below.refl _ _).alloc (Nat.le_refl _) _) hown1 hgrow; have fz := HP.out.2.2.frozen 1; have cz : w3.cell? ⟨mb, 1, none⟩ = some ov := HP.out.2.2.cell 1)
    refine hK.out _ _ ?_ (fun hHeld => ?_)
    · (go_split_ands
       refine ⟨?_, ?_⟩
       · (rw [hgrow.cell_far _ (by simp; omega) (Ne.symm nm)]; first | assumption | (simp [go_sem]; assumption))
       · (rw [hgrow.cell_far _ (by simp; omega) (Ne.symm ni)]; first | assumption | (simp [go_sem]; assumption)))
    clear hK K
    show wpAnyH _ _ _ _ _ _ _ (Act.put _ (some 13) _) _
    simp only [pz]
    refine wpAnyH_take (i := 12) (v := ?_) rfl (by kernel_rfl) (by kernel_rfl) (by kernel_rfl) (fun _ _ _ h => h) (Or.inl ⟨by rfl, ?_⟩) (by assumption) ?_
    case refine_2 => (intro w hSw; (try dsimp only at hSw); go_simp; try with_reducible rfl)
    show wpAnyH _ _ _ _ _ _ _ (Act.put _ (some 14) _) _
    simp only [pz]
    refine wpAnyH_take (i := 13) (v := ?_) rfl (by kernel_rfl) (by kernel_rfl) (by kernel_rfl) (fun _ _ _ h => h) (Or.inl ⟨by rfl, ?_⟩) (by assumption) ?_
    case refine_2 => (intro w hSw; (try dsimp only at hSw); go_simp; try with_reducible rfl)
    show wpAnyH _ _ _ _ _ _ _ (Act.put _ (some 15) _) _
    simp only [pz]
    refine wpAnyH_take (i := 14) (v := ?_) rfl (by kernel_rfl) (by kernel_rfl) (by kernel_rfl) (fun _ _ _ h => h) (Or.inl ⟨by rfl, ?_⟩) (by assumption) ?_
    case refine_2 => (intro w hSw; (try dsimp only at hSw); go_simp; try with_reducible rfl)
    show wpAnyH _ _ _ _ _ _ _ (Act.put _ (some 16) _) _
    simp only [pz]
    refine wpAnyH_ready (rs := [15]) (by kernel_rfl) (by simp) ?_
    refine (AllReadyH.cons rfl (fun K hK => ?_) AllReadyH.nil)
    go_simp
    refine hK.out _ _ ?_ (fun hHeld => ?_)
    · (go_split_ands
       refine ⟨?_, ?_⟩
       · (rw [World.cell?_setCell_far _ _ _ _ (Ne.symm q1)]; assumption)
       · (rw [World.cell?_setCell_far _ _ _ _ (Ne.symm q2)]; assumption))
    clear hK K
    try simp only [pz]
    refine wpAnyH_done (by kernel_rfl) ?_ _
    clear hHeld
    go_wp2
    go_end0
    exact ⟨rfl, HBE.out _ ⟨_, HP.out.1⟩ ((Ran.of_below hsz HBW.out).trans (HP.out.2.1.set _ _))⟩
  · go_simp
    refine (HA.out _ (Below.refl _ _).drew).mono ?_
    rintro e w1 ⟨rfl, hbd⟩
    have hbc : Below w.heap.size w w1 := step_below hbd ((Below.refl _ _).drew)
    have HBW : Hid (Below w.heap.size w w1) := hbc
    have HM1 : Hid (MS Z mb sb base s ov l st k iv I pc w1) := HMW.out _ hbc
    have HO : Hid (w1.ownsRow base 60 1 ov l.length (l.map (Value.int .u32))) := HM1.out.own
    have co1 := HM1.out.cov
    have hs1 := HM1.out.sz
    have hmb1 : mb < w1.heap.size := (by omega)
    go_wp2_with fail
    refine hK.out _ _ ?_ (fun hHeld => ?_)
    · ((go_split_ands; refine ⟨?_, ?_⟩ <;> first | exact step_cell hbc (by assumption) | (go_keep; done) | assumption))
    clear hK K
    try simp only [pz]
    clear hbd hbc
    refine wpAnyH_take (i := 9) (v := ?_) rfl (by kernel_rfl) (by kernel_rfl) (by kernel_rfl) (fun _ _ _ h => h) (Or.inl ⟨by rfl, ?_⟩) (by assumption) ?_
    case refine_2 => (intro w hSw; (try dsimp only at hSw); go_simp; try with_reducible rfl)
    show wpAnyH _ _ _ _ _ _ _ (Act.put _ (some 11) _) _
    simp only [pz]
    refine wpAnyH_ready (rs := [5, 10]) (by kernel_rfl) (by simp) ?_
    refine (AllReadyH.cons rfl (fun K hK => ?_) (AllReadyH.cons rfl (fun K hK => ?_) AllReadyH.nil))
    · go_simp
      refine hK.out _ _ ?_ (fun hHeld => ?_)
      · ((go_split_ands; refine ⟨?_, ?_⟩ <;> first | exact step_cell hbc (by assumption) | (go_keep; done) | assumption))
      clear hK K
      try simp only [pz]
      refine wpAnyH_ready (rs := [10]) (by kernel_rfl) (by simp) ?_
      refine (AllReadyH.cons rfl (fun K hK => ?_) AllReadyH.nil)
      go_simp
      refine hK.out _ _ ?_ (fun hHeld => ?_)
      · ((go_split_ands; refine ⟨?_, ?_⟩ <;> go_keep))
      clear hK K
      try simp only [pz]
      refine wpAnyH_ready (rs := [11]) (by kernel_rfl) (by simp) ?_
      refine (AllReadyH.cons rfl (fun K hK => ?_) AllReadyH.nil)
      (refine step_append_lies _ (by rfl) _ _ _ (by rfl) base 60 t0' _ 1 4 Tryz.underlying28 hi0 hy0 hy1 hy2 rfl (by omega) ov l.length (l.map (Value.int .u32)) (by rfl) (World.ownsRow.alloc HO.out _)
          ⟨w1.heap.size, 0, none⟩ 1 1 [.int .u32 (a % 4294967296)] (by rfl) (by rfl) (World.news_of_block (cs := #[.int .u32 (a % 4294967296)]) (t := 60) (fr := (0, 0)) (heap_alloc_new w1 _)) (by simp [Value.oneCell'])
          (by omega) (by unfold maxLen; omega) (by omega) (by simp; omega) (w1.heap.size + 1) (by simp) ?_; intro g2 cap2 w3 hown1 hgrow hat hlt3; have HP : Hid _ := HM1.out.push ((Below.refl _ _).alloc (Nat.le_refl _) _) hown1 hgrow; have fz := HP.out.2.2.frozen 1; have cz : w3.cell? ⟨mb, 1, none⟩ = some ov := HP.out.2.2.cell 1)
      refine hK.out _ _ ?_ (fun hHeld => ?_)
      · (go_split_ands
         refine ⟨?_, ?_⟩
         · (rw [hgrow.cell_far _ (by simp; omega) (Ne.symm nm)]; first | assumption | (simp [go_sem]; assumption))
         · (rw [hgrow.cell_far _ (by simp; omega) (Ne.symm ni)]; first | assumption | (simp [go_sem]; assumption)))
      clear hK K
      show wpAnyH _ _ _ _ _ _ _ (Act.put _ (some 13) _) _
      simp only [pz]
      refine wpAnyH_take (i := 12) (v := ?_) rfl (by kernel_rfl) (by kernel_rfl) (by kernel_rfl) (fun _ _ _ h => h) (Or.inl ⟨by rfl, ?_⟩) (by assumption) ?_
      case refine_2 => (intro w hSw; (try dsimp only at hSw); go_simp; try with_reducible rfl)
      show wpAnyH _ _ _ _ _ _ _ (Act.put _ (some 14) _) _
      simp only [pz]
      refine wpAnyH_take (i := 13) (v := ?_) rfl (by kernel_rfl) (by kernel_rfl) (by kernel_rfl) (fun _ _ _ h => h) (Or.inl ⟨by rfl, ?_⟩) (by assumption) ?_
      case refine_2 => (intro w hSw; (try dsimp only at hSw); go_simp; try with_reducible rfl)
      show wpAnyH _ _ _ _ _ _ _ (Act.put _ (some 15) _) _
      simp only [pz]
      refine wpAnyH_take (i := 14) (v := ?_) rfl (by kernel_rfl) (by kernel_rfl) (by kernel_rfl) (fun _ _ _ h => h) (Or.inl ⟨by rfl, ?_⟩) (by assumption) ?_
      case refine_2 => (intro w hSw; (try dsimp only at hSw); go_simp; try with_reducible rfl)
      show wpAnyH _ _ _ _ _ _ _ (Act.put _ (some 16) _) _
      simp only [pz]
      refine wpAnyH_ready (rs := [15]) (by kernel_rfl) (by simp) ?_
      refine (AllReadyH.cons rfl (fun K hK => ?_) AllReadyH.nil)
      go_simp
      refine hK.out _ _ ?_ (fun hHeld => ?_)
      · (go_split_ands
         refine ⟨?_, ?_⟩
         · (rw [World.cell?_setCell_far _ _ _ _ (Ne.symm q1)]; assumption)
         · (rw [World.cell?_setCell_far _ _ _ _ (Ne.symm q2)]; assumption))
      clear hK K
      try simp only [pz]
      refine wpAnyH_done (by kernel_rfl) ?_ _
      clear hHeld
      go_wp2
      go_end0
      exact ⟨rfl, HBE.out _ ⟨_, HP.out.1⟩ ((Ran.of_below hsz HBW.out).trans (HP.out.2.1.set _ _))⟩
    · go_simp
      refine hK.out _ _ ?_ (fun hHeld => ?_)
      · ((go_split_ands; refine ⟨?_, ?_⟩ <;> go_keep))
      clear hK K
      try simp only [pz]
      refine wpAnyH_ready (rs := [5]) (by kernel_rfl) (by simp) ?_
      refine (AllReadyH.cons rfl (fun K hK => ?_) AllReadyH.nil)
      go_simp
      refine hK.out _ _ ?_ (fun hHeld => ?_)
      · ((go_split_ands; refine ⟨?_, ?_⟩ <;> first | exact step_cell hbc (by assumption) | (go_keep; done) | assumption))
      clear hK K
      try simp only [pz]
      refine wpAnyH_ready (rs := [11]) (by kernel_rfl) (by simp) ?_
      refine (AllReadyH.cons rfl (fun K hK => ?_) AllReadyH.nil)
      (refine step_append_lies _ (by rfl) _ _ _ (by rfl) base 60 t0' _ 1 4 Tryz.underlying28 hi0 hy0 hy1 hy2 rfl (by omega) ov l.length (l.map (Value.int .u32)) (by rfl) (World.ownsRow.alloc HO.out _)
          ⟨w1.heap.size, 0, none⟩ 1 1 [.int .u32 (a % 4294967296)] (by rfl) (by rfl) (World.news_of_block (cs := #[.int .u32 (a % 4294967296)]) (t := 60) (fr := (0, 0)) (heap_alloc_new w1 _)) (by simp [Value.oneCell'])
          (by omega) (by unfold maxLen; omega) (by omega) (by simp; omega) (w1.heap.size + 1) (by simp) ?_; intro g2 cap2 w3 hown1 hgrow hat hlt3; have HP : Hid _ := HM1.out.push ((Below.refl _ _).alloc (Nat.le_refl _) _) hown1 hgrow; have fz := HP.out.2.2.frozen 1; have cz : w3.cell? ⟨mb, 1, none⟩ = some ov := HP.out.2.2.cell 1)
      refine hK.out _ _ ?_ (fun hHeld => ?_)
      · (go_split_ands
         refine ⟨?_, ?_⟩
         · (rw [hgrow.cell_far _ (by simp; omega) (Ne.symm nm)]; first | assumption | (simp [go_sem]; assumption))
         · (rw [hgrow.cell_far _ (by simp; omega) (Ne.symm ni)]; first | assumption | (simp [go_sem]; assumption)))
      clear hK K
      show wpAnyH _ _ _ _ _ _ _ (Act.put _ (some 13) _) _
      simp only [pz]
      refine wpAnyH_take (i := 12) (v := ?_) rfl (by kernel_rfl) (by kernel_rfl) (by kernel_rfl) (fun _ _ _ h => h) (Or.inl ⟨by rfl, ?_⟩) (by assumption) ?_
      case refine_2 => (intro w hSw; (try dsimp only at hSw); go_simp; try with_reducible rfl)
      show wpAnyH _ _ _ _ _ _ _ (Act.put _ (some 14) _) _
      simp only [pz]
      refine wpAnyH_take (i := 13) (v := ?_) rfl (by kernel_rfl) (by kernel_rfl) (by kernel_rfl) (fun _ _ _ h => h) (Or.inl ⟨by rfl, ?_⟩) (by assumption) ?_
      case refine_2 => (intro w hSw; (try dsimp only at hSw); go_simp; try with_reducible rfl)
      show wpAnyH _ _ _ _ _ _ _ (Act.put _ (some 15) _) _
      simp only [pz]
      refine wpAnyH_take (i := 14) (v := ?_) rfl (by kernel_rfl) (by kernel_rfl) (by kernel_rfl) (fun _ _ _ h => h) (Or.inl ⟨by rfl, ?_⟩) (by assumption) ?_
      case refine_2 => (intro w hSw; (try dsimp only at hSw); go_simp; try with_reducible rfl)
      show wpAnyH _ _ _ _ _ _ _ (Act.put _ (some 16) _) _
      simp only [pz]
      refine wpAnyH_ready (rs := [15]) (by kernel_rfl) (by simp) ?_
      refine (AllReadyH.cons rfl (fun K hK => ?_) AllReadyH.nil)
      go_simp
      refine hK.out _ _ ?_ (fun hHeld => ?_)
      · (go_split_ands
         refine ⟨?_, ?_⟩
         · (rw [World.cell?_setCell_far _ _ _ _ (Ne.symm q1)]; assumption)
         · (rw [World.cell?_setCell_far _ _ _ _ (Ne.symm q2)]; assumption))
      clear hK K
      try simp only [pz]
      refine wpAnyH_done (by kernel_rfl) ?_ _
      clear hHeld
      go_wp2
      go_end0
      exact ⟨rfl, HBE.out _ ⟨_, HP.out.1⟩ ((Ran.of_below hsz HBW.out).trans (HP.out.2.1.set _ _))⟩
end
end form
/- What the closure does that the program's machine makes of an instruction that has a Dest, whatever its ends: it gives Dest what another closure gives. -/
namespace form
open Go.RowKit num
set_option maxRecDepth 100000
attribute [local go_sem ↓] Go.wp_at_zero Go.wp_at_succ
section
variable {K : StoK} {mb sb db base bm bi be bg : Nat} {s : K.S} {ov : Value} {l : List Int} {st k : Int} {iv : Value} {I : List Int} {pc : Int} {i : LIns} {x : EndF} {w : World} {rdA rdB : K.S → Int} {wr : K.S → Int → K.S}
theorem deed5 (F : Nat) (caps : Array Value) (hent : ∀ w, Sem.run Tryz.prog (callFunc F caps) w = .ok (.enter F caps) w) (hb : Box mb sb db bm bi be i x w) (cg : w.cell? ⟨bg, 0, none⟩ = some (.func (.func F) #[] caps)) (hng : bg ≠ mb) (hns : bg ≠ sb) (hm : MS K mb sb base s ov l st k iv I pc w) (hg : givesB i.op = true)
    (hz2 : be < base) (hz3 : bg < base)
    (hc : ∀ w2, Below w.heap.size w w2 → Calls Tryz.prog F caps w2 fun e w' =>
      e = .returned (.int .u64 (gvI i (rdA s) (rdB s) (I.headD 0))) ∧ (∃ iv', MS K mb sb base s ov l st k iv' (if i.op = 3 then I.tail else I) pc w') ∧ Ran mb sb base w2 w')
    (hdent : ∀ y w, Sem.run Tryz.prog (callFunc x.fd #[y, x.d1, x.d2]) w = .ok (.enter x.fd #[y, x.d1, x.d2]) w)
    (hd : ∀ w2 iv', Ran mb sb base w w2 → MS K mb sb base s ov l st k iv' (if i.op = 3 then I.tail else I) pc w2 → Calls Tryz.prog x.fd #[.int .u64 (gvI i (rdA s) (rdB s) (I.headD 0)), x.d1, x.d2] w2 fun e w' => e = .returned (.tuple #[]) ∧ MS K mb sb base (wr s (gvI i (rdA s) (rdB s) (I.headD 0))) ov l st k iv' (if i.op = 3 then I.tail else I) pc w' ∧ Ran mb sb base w2 w') :
    Calls Tryz.prog 60 #[.pointer (some ⟨be, 0, none⟩), .pointer (some ⟨bg, 0, none⟩)] w fun e w' => e = .returned (.tuple #[]) ∧ Behind K mb sb base i (plainE rdA rdB wr) s l st k I pc w w' := by
  have ce := hb.e2
  have q2 : be ≠ mb := hb.n3
  have q3 : be ≠ sb := hb.s3
  have HC : Hid _ := hc
  have HD : Hid _ := hd
  have h4 : ¬ i.op = 4 := by intro e; unfold givesB at hg; simp [e] at hg
  have h8 : ¬ i.op = 8 := by intro e; unfold givesB at hg; simp [e] at hg
  have h9 : ¬ i.op = 9 := by intro e; unfold givesB at hg; simp [e] at hg
  have h10 : ¬ i.op = 10 := by intro e; unfold givesB at hg; simp [e] at hg
  have HBE : Hid (∀ w' iv', MS K mb sb base (wr s (gvI i (rdA s) (rdB s) (I.headD 0))) ov l st k iv' (if i.op = 3 then I.tail else I) pc w' → Ran mb sb base w w' → Behind K mb sb base i (plainE rdA rdB wr) s l st k I pc w w') := by
    intro w' iv' hv hr
    refine ⟨⟨ov, iv', ?_⟩, hr⟩
    have e : (plainE rdA rdB wr).act i s (I.headD 0) = wr s (gvI i (rdA s) (rdB s) (I.headD 0)) := by
      show (if givesB i.op = true then _ else _) = _
      rw [if_pos hg]; rfl
    rw [e, if_neg h4, if_neg h10, if_neg (show ¬ (i.op = 8 ∨ i.op = 9 ∧ ¬ _ = (0 : Int)) from fun h => h.elim h8 (fun h => h9 h.1))]
    exact hv
  have hsz := hm.sz
  generalize gvI i (rdA s) (rdB s) (I.headD 0) = g at *
  clear hm hb hc h4 h8 h9 h10 hd
  go_enter Tryz.func60, Tryz.ntmps60
  go_wp2
  go_region_held3 (fun w' => Ran mb sb base w w' ∧ w'.cell? ⟨be, 2, none⟩ = some (.func (.func x.fd) #[] #[x.d1, x.d2]) ∧ w'.cell? ⟨bg, 0, none⟩ = some (.func (.func F) #[] caps))
    ((go_split_ands; refine ⟨?_, ?_, ?_⟩ <;> first | exact Ran.trans (by assumption) hr | exact hr.cell (by assumption) (by assumption) (by assumption) (by assumption) | exact Ran.of_below hsz ((Below.refl _ _).drew) | (go_keep; done) | assumption))
    (first
      | (have hgd := HMS; clear hgd; refine (HD.out _ _ ?_ HMS.out).mono ?_; (go_split_ands; assumption); rintro e w1 ⟨rfl, hms2, hr⟩; have HMZ : Hid _ := hms2; clear hms2)
      | (refine (HC.out _ ((Below.refl _ _).drew)).mono ?_; rintro e w1 ⟨rfl, ⟨iv', hms⟩, hr⟩; have HMS : Hid _ := hms; clear hms))
  go_wp2
  go_end0
  exact ⟨rfl, HBE.out _ _ HMZ.out (by (go_split_ands; assumption))⟩
end
end form
/- What the program's machine makes of an instruction: a closure that does what the instruction does, whatever its ends (Deed). -/
namespace form
open Go.RowKit num
set_option maxRecDepth 100000
attribute [local go_sem ↓] Go.wp_at_zero Go.wp_at_succ
section
variable {K : StoK} {mb sb db bm bi be bg nB nC : Nat} {i : LIns} {x : EndF} {w1 : World} {rdA rdB : K.S → Int} {wr : K.S → Int → K.S} {G : Prop}
theorem dspec1 (hb : Box mb sb db bm bi be i x w1) (hE : EndsIs K mb sb db w1 x rdA rdB wr G) (ho : i.op = 4) : DeedSpec K mb sb db i (plainE rdA rdB wr) w1 55 #[.pointer (some ⟨bm, 0, none⟩), .pointer (some ⟨be, 0, none⟩)] := by
  refine ⟨fun w => rfl, ?_⟩
  intro base s ov l st k iv I pc w hk hz0 hm hz hl h5
  have z1 := World.block_lt_of_cell? w1 _ hb.pm
  have z2 := World.block_lt_of_cell? w1 _ hb.e0
  simp only at z1 z2
  exact deed1 (hb.kept hk) hm ho (hE.a.rd hk hz0 hm) hl (by omega) (by omega)
theorem dspec2 (hb : Box mb sb db bm bi be i x w1) (ho : i.op = 8) : DeedSpec K mb sb db i (plainE rdA rdB wr) w1 56 #[.pointer (some ⟨bi, 0, none⟩), .pointer (some ⟨bm, 0, none⟩)] := by
  refine ⟨fun w => rfl, ?_⟩
  intro base s ov l st k iv I pc w hk hz0 hm hz hl h5
  exact deed2 (hb.kept hk) hm ho
theorem dspec3 (hb : Box mb sb db bm bi be i x w1) (hE : EndsIs K mb sb db w1 x rdA rdB wr G) (ho : i.op = 9) : DeedSpec K mb sb db i (plainE rdA rdB wr) w1 57 #[.pointer (some ⟨be, 0, none⟩), .pointer (some ⟨bi, 0, none⟩), .pointer (some ⟨bm, 0, none⟩)] := by
  refine ⟨fun w => rfl, ?_⟩
  intro base s ov l st k iv I pc w hk hz0 hm hz hl h5
  have hA := hE.a.rd hk hz0 hm
  exact deed3 (hb.kept hk) hm ho hA.ent hA.call
theorem dspec4 (hb : Box mb sb db bm bi be i x w1) (ho : i.op = 10) : DeedSpec K mb sb db i (plainE rdA rdB wr) w1 58 #[.pointer (some ⟨bm, 0, none⟩)] := by
  refine ⟨fun w => rfl, ?_⟩
  intro base s ov l st k iv I pc w hk hz0 hm hz hl h5
  exact deed4 (hb.kept hk) hm ho
theorem dspec5 {w0 : World} {F : Nat} {caps : Array Value} (hb : Box mb sb db bm bi be i x w1) (hi : InsOk nB nC i) (hE : EndsIs K mb sb db w1 x rdA rdB wr G) (hG : G) (hg : givesB i.op = true) (hs : GiveSpec K mb sb db i rdA rdB w0 F caps) (h01 : Kept mb sb db w0 w1) (hz01 : w0.heap.size ≤ w1.heap.size)
    (cg : w1.cell? ⟨bg, 0, none⟩ = some (.func (.func F) #[] caps)) (hng : bg ≠ mb) (hns : bg ≠ sb) (hnd : bg ≠ db) :
    DeedSpec K mb sb db i (plainE rdA rdB wr) w1 60 #[.pointer (some ⟨be, 0, none⟩), .pointer (some ⟨bg, 0, none⟩)] := by
  refine ⟨fun w => rfl, ?_⟩
  intro base s ov l st k iv I pc w hk hz0 hm hz hl h5
  have z2 := World.block_lt_of_cell? w1 _ hb.e2
  have z3 := World.block_lt_of_cell? w1 _ cg
  simp only at z2 z3
  have hx := head_bd hm
  have hgv : U64i (gvI i (rdA s) (rdB s) (I.headD 0)) := gvI_bd _ _ _ _ (hE.a.2.1 s hm.ok) (hE.b.2.1 s hm.ok) hx.1 hx.2 hi.n0 hi.n1
  refine deed5 F caps hs.1 (hb.kept hk) (hk.cell cg hng hns hnd) hng hns hm hg (by omega) (by omega) (fun w2 hw2 => ?_) (hE.d hG).1 (fun w2 iv' hr2 hm2 => ?_)
  · exact hs.2 base s ov l st k iv I pc w2 ((h01.trans hz01 hk).thenBelow (by omega) hw2) (Nat.le_trans hz01 (Nat.le_trans hz0 hw2.size)) (hm.below hw2) h5
  · have hk2 : Kept mb sb db w1 w2 := hk.ran hz hr2
    refine ((hE.d hG).2.2 s _ w2 hk2 (by have := hm2.sz; omega) hm2.sto hm2.ok hgv).mono ?_
    rintro e w' ⟨rfl, hrow, hon⟩
    exact ⟨rfl, hm2.wrote hrow ((hE.d hG).2.1 s _ hm2.ok hgv) hon, hon.ran hm2.sz⟩
theorem deed (hi : InsOk nB nC i) (hu : 10 < i.op → 21 ≤ i.op) (w : World) (hmb : mb < w.heap.size) (hsb : sb < w.heap.size) (hdb : db < w.heap.size) (hE : EndsIs K mb sb db w x rdA rdB wr (givesB i.op = true)) :
    Calls Tryz.prog 36 #[.pointer (some ⟨mb, 0, none⟩), i.val, x.val] w fun e w' => (∃ F caps, e = .returned (.func (.func F) #[] caps) ∧ DeedSpec K mb sb db i (plainE rdA rdB wr) w' F caps) ∧ Below w.heap.size w w' := by
  have HI : Hid (InsOk nB nC i) := hi
  have HB : Hid _ := box_new mb sb db i x w hmb hsb hdb
  have hbl := boxW_below mb i x w
  have HE : Hid (EndsIs K mb sb db (boxW mb i x w) x rdA rdB wr (givesB i.op = true)) := hE.later (Kept.of_below hbl) hbl.size
  have HBL : Hid (Below w.heap.size w (boxW mb i x w)) := hbl
  have HU : Hid (10 < i.op → 21 ≤ i.op) := hu
  clear hi hu hE hbl
  rcases (show (i.op == 4) = true ∨ ((i.op == 4) = false ∧ (i.op == 8) = true) ∨ ((i.op == 4) = false ∧ (i.op == 8) = false ∧ (i.op == 9) = true) ∨ ((i.op == 4) = false ∧ (i.op == 8) = false ∧ (i.op == 9) = false ∧ (i.op == 10) = true) ∨ ((i.op == 4) = false ∧ (i.op == 8) = false ∧ (i.op == 9) = false ∧ (i.op == 10) = false) by cases (i.op == 4) <;> cases (i.op == 8) <;> cases (i.op == 9) <;> cases (i.op == 10) <;> simp) with e1 | ⟨e1, e2⟩ | ⟨e1, e2, e3⟩ | ⟨e1, e2, e3, e4⟩ | ⟨e1, e2, e3, e4⟩
  · unfold LIns.val EndF.val
    go_enter Tryz.func36, Tryz.ntmps36
    go_wp2
    go_ret
    exact ⟨⟨_, _, rfl, dspec1 HB.out HE.out (by simpa using e1)⟩, HBL.out⟩
  · unfold LIns.val EndF.val
    go_enter Tryz.func36, Tryz.ntmps36
    go_wp2
    go_ret
    exact ⟨⟨_, _, rfl, dspec2 HB.out (by simpa using e2)⟩, HBL.out⟩
  · unfold LIns.val EndF.val
    go_enter Tryz.func36, Tryz.ntmps36
    go_wp2
    go_ret
    exact ⟨⟨_, _, rfl, dspec3 HB.out HE.out (by simpa using e3)⟩, HBL.out⟩
  · unfold LIns.val EndF.val
    go_enter Tryz.func36, Tryz.ntmps36
    go_wp2
    go_ret
    exact ⟨⟨_, _, rfl, dspec4 HB.out (by simpa using e4)⟩, HBL.out⟩
  · have hg : givesB i.op = true := by unfold givesB; simp_all
    have HG : Hid (givesB i.op = true) := hg
    have HGI : Hid (Calls Tryz.prog 59 #[.pointer (some ⟨mb, 0, none⟩), i.val, x.val] (boxW mb i x w) fun e w' => (∃ F caps, e = .returned (.func (.func F) #[] caps) ∧ GiveSpec K mb sb db i rdA rdB w' F caps) ∧ Below (boxW mb i x w).heap.size (boxW mb i x w) w') :=
      giving HI.out hg HU.out (boxW mb i x w) (by rw [boxW_size]; omega) (by rw [boxW_size]; omega) (by rw [boxW_size]; omega) HE.out
    clear hg
    unfold LIns.val EndF.val
    go_enter Tryz.func36, Tryz.ntmps36
    go_wp2_with fail
    go_at_call 59
    refine Calls.mono HGI.out ?_
    rintro e w2 ⟨⟨F, caps, rfl, hgs⟩, hb2⟩
    have HGS : Hid (GiveSpec K mb sb db i rdA rdB w2 F caps) := hgs
    have HB2 : Hid (Below (boxW mb i x w).heap.size (boxW mb i x w) w2) := hb2
    have hz2 : w.heap.size + 3 ≤ w2.heap.size := by have := hb2.size; rw [boxW_size] at this; exact this
    clear hgs hb2
    go_wp2
    go_ret
    have hb3 : Below w2.heap.size w2 (w2.alloc (Obj.cells #[Value.func (Fn.func F) #[] caps] 88)) := (Below.refl _ _).alloc (Nat.le_refl _) _
    have hk2 : Kept mb sb db (boxW mb i x w) (w2.alloc (Obj.cells #[Value.func (Fn.func F) #[] caps] 88)) := Kept.of_below (step_below hb3 HB2.out)
    refine ⟨⟨_, _, rfl, dspec5 (w0 := w2) (HB.out.kept hk2) HI.out (HE.out.later hk2 (step_below hb3 HB2.out).size) HG.out HG.out HGS.out (Kept.of_below hb3) hb3.size (by simp [go_sem]) (by omega) (by omega) (by omega)⟩, ?_⟩
    exact step_below hb3 (step_below HB2.out HBL.out)
end
end form
/- The program's own machine: a step, all steps, whatever the store and the deeds. -/
namespace form
open Go.RowKit num
attribute [local go_sem ↓] Go.wp_at_zero Go.wp_at_succ
theorem stepC {K : StoK} {mb sb base : Nat} {s : K.S} {ov : Value} {l : List Int} {st k : Int} {iv : Value} {I : List Int} {pc : Int} {i : LIns} {E : Eff K.S} {w : World} (F : Nat) (caps : Array Value)
    (hent : ∀ w, Sem.run Tryz.prog (callFunc F caps) w = .ok (.enter F caps) w) (hm : MS K mb sb base s ov l st k iv I pc w) (hk0 : 0 ≤ k) (hk1 : k ≤ 3000) (hp0 : 0 ≤ pc) (hp1 : pc ≤ 40)
    (hc : ∀ w2, MS K mb sb base s ov l st (k + 1) iv I (pc + 1) w2 → Ran mb sb base w w2 → Calls Tryz.prog F caps w2 fun e w' => e = .returned (.tuple #[]) ∧ Behind K mb sb base i E s l st (k + 1) I (pc + 1) w2 w') :
    Calls Tryz.prog 64 #[.pointer (some ⟨mb, 0, none⟩), .func (.func F) #[] caps] w fun e w' => e = .returned (.tuple #[]) ∧ Behind K mb sb base i E s l st (k + 1) I (pc + 1) w w' := by
  have ck := hm.ck
  have cp := hm.cpc
  have fk := hm.fz 2
  have fp := hm.fz 4
  have h1 := hm.setSteps (k + 1)
  have h2 := h1.setPc (pc + 1)
  have cp1 := h1.cpc
  have fp1 := h1.fz 4
  have hr : Ran mb sb base w ((w.setCell ⟨mb, 2, none⟩ (.int .i64 (k + 1))).setCell ⟨mb, 4, none⟩ (.int .i64 (pc + 1))) := ((Ran.refl _ _ _ _).set _ _).set _ _
  have HC : Hid _ := hc _ h2 hr
  have HR : Hid _ := hr
  clear h1 h2 hr hm hc
  go_enter Tryz.func64, Tryz.ntmps64
  go_wp2_with fail
  refine Calls.mono HC.out ?_
  rintro e w1 ⟨rfl, hbh⟩
  go_wp2
  go_end0
  exact ⟨rfl, hbh.1, HR.out.trans hbh.2⟩
def Stopped (K : StoK) (mb sb base : Nat) (M : GM K.S) (w w' : World) : Prop := (∃ s ov iv I pc, MS K mb sb base s ov M.out M.state M.steps iv I pc w') ∧ Ran mb sb base w w'
structure StepS (K : StoK) (Inv : K.S → Prop) (mb sb base n : Nat) (C : List LIns) (E : Nat → Eff K.S) (I : List Int) (M : GM K.S) (w : World) (g : Nat) (m : GM K.S) (ov iv : Value) (wr : World) : Prop where
  ms : MS K mb sb base m.sto ov m.out (if m.state = 1 then 1 else 0) m.steps iv (I.drop m.taken) m.pc wr
  gok : GOk C.length I.length m
  inv : Inv m.sto
  gh : m.steps + g = n + 1
  le : m.steps ≤ n
  ran : Ran mb sb base w wr
  fin : GM.go C E I (n - m.steps) m = M
theorem gs_step {K : StoK} {Inv : K.S → Prop} {mb sb base n nB : Nat} {C : List LIns} {E : Nat → Eff K.S} {I : List Int} {M : GM K.S} {w : World} {g : Nat} {m : GM K.S} {ov iv : Value} {wr w' : World} (h : StepS K Inv mb sb base n C E I M w g m ov iv wr) (h0 : m.state = 0) (hlt : m.steps < n)
    (hi : InsOk nB C.length (C.getD m.pc .zero)) (hin : ∀ j, j < I.length → 0 ≤ I.getD j 0 ∧ I.getD j 0 < 4294967296)
    (hinv : ∀ j, j < C.length → ∀ s x, Inv s → K.ok s → 0 ≤ x → x < 4294967296 → Inv ((E j).act (C.getD j .zero) s x))
    (hb : Behind K mb sb base (C.getD m.pc .zero) (E m.pc) m.sto m.out 0 (m.steps + 1) (I.drop m.taken) (m.pc + 1) wr w') :
    ∃ ov' iv', StepS K Inv mb sb base n C E I M w (g - 1) (m.step C E I) ov' iv' w' := by
  obtain ⟨⟨ov', iv', hms⟩, hr⟩ := hb
  have hpc := h.gok.pcok h0
  have ei : (I.drop m.taken).headD 0 = inOf I m.taken := by
    unfold inOf
    simp [List.headD_eq_head?_getD, List.getD]
  rw [ei] at hms
  have hx := inOf_bd hin m.taken
  refine ⟨ov', iv', ⟨?_, gok_step h.gok h0 hi, hinv m.pc hpc m.sto _ h.inv h.ms.ok hx.1 hx.2, ?_, ?_, h.ran.trans hr, ?_⟩⟩
  · have e1 : (E m.pc).act (C.getD m.pc .zero) m.sto (inOf I m.taken) = (m.step C E I).sto := rfl
    have e2 : (if (C.getD m.pc .zero).op = 4 then m.out ++ [(E m.pc).a m.sto % 4294967296] else m.out) = (m.step C E I).out := rfl
    have e3 : (if (C.getD m.pc .zero).op = 10 then (1 : Int) else 0) = if (m.step C E I).state = 1 then 1 else 0 := by
      have hs : (m.step C E I).state = stI (C.getD m.pc .zero) C.length (nxI (C.getD m.pc .zero) m.pc ((E m.pc).a m.sto)) := rfl
      generalize (m.step C E I).state = s at hs ⊢
      unfold stI at hs
      by_cases e : (C.getD m.pc .zero).op = 10
      · rw [if_pos e] at hs
        rw [if_pos e, if_pos hs]
      · rw [if_neg e] at hs
        rw [if_neg e, if_neg (by split at hs <;> omega)]
    have e4 : (if (C.getD m.pc .zero).op = 3 then (I.drop m.taken).tail else I.drop m.taken) = I.drop (m.step C E I).taken := by
      simp only [GM.step]
      by_cases e : (C.getD m.pc .zero).op = 3
      · by_cases e' : m.taken < I.length
        · rw [if_pos e, if_pos ⟨e, e'⟩]; simp
        · rw [if_pos e, if_neg (fun h => e' h.2), List.drop_of_length_le (by omega)]; rfl
      · rw [if_neg e, if_neg (fun h => e h.1)]
    have e5 : (if (C.getD m.pc .zero).op = 8 ∨ (C.getD m.pc .zero).op = 9 ∧ ¬ (E m.pc).a m.sto = 0 then (C.getD m.pc .zero).c else (m.pc : Int) + 1) = ((m.step C E I).pc : Int) := by
      simp only [GM.step]
      unfold nxI
      split
      · rename_i hc
        have := (hi.c (by rcases hc with hc | hc; exact Or.inl hc; exact Or.inr hc.1)).1
        omega
      · omega
    rw [e1, e2, e3, e4, e5] at hms
    have e6 : ((m.step C E I).steps : Int) = (m.steps : Int) + 1 := by simp [GM.step]
    rw [e6]
    exact hms
  · have := h.gh
    simp only [GM.step]
    omega
  · simp only [GM.step]; omega
  · rw [← h.fin]
    have e : n - m.steps = (n - (m.steps + 1)) + 1 := by omega
    rw [e]
    show _ = if m.state = 0 then _ else _
    rw [if_pos h0]
    rfl
set_option maxRecDepth 100000 in
set_option maxHeartbeats 1000000 in
theorem goOn (K : StoK) (Inv : K.S → Prop) (mb sb db n nB : Nat) (C : List LIns) (E : Nat → Eff K.S) (I : List Int) (s0 : K.S) (cs : List Value) (ov iv : Value) (w : World) (h1 : 1 ≤ C.length) (h40 : C.length ≤ 40) (hn : n ≤ 3000)
    (hok : ∀ k, k < C.length → InsOk nB C.length (C.getD k .zero)) (hin : ∀ j, j < I.length → 0 ≤ I.getD j 0 ∧ I.getD j 0 < 4294967296)
    (hinv : ∀ j, j < C.length → ∀ s x, Inv s → K.ok s → 0 ≤ x → x < 4294967296 → Inv ((E j).act (C.getD j .zero) s x)) (hnar : ∀ j, j < C.length → (C.getD j .zero).op = 5 → ∀ s, Inv s → K.ok s → (E j).a s < 4294967296) (hi0 : Inv s0)
    (hrow : Row w db 1 cs) (hlen : cs.length = C.length) (hspec : ∀ j, j < C.length → ∃ F caps, cs.getD j .nilFunc = .func (.func F) #[] caps ∧ DeedSpec K mb sb db (C.getD j .zero) (E j) w F caps) (hdb : db < w.heap.size) (hmb : mb ≠ db) (hsb : sb ≠ db)
    (hms : MS K mb sb w.heap.size s0 ov [] 0 0 iv I 0 w) :
    Calls Tryz.prog 38 #[.pointer (some ⟨mb, 0, none⟩), .slice (some ⟨db, 0, none⟩) C.length C.length, .int .i64 n] w fun e w' =>
      e = .returned (.tuple #[]) ∧ Stopped K mb sb w.heap.size (GM.go C E I n (GM.start s0)) w w' := by
  have HOK : Hid _ := hok
  have HIN : Hid _ := hin
  have HINV : Hid _ := hinv
  have HNAR : Hid _ := hnar
  have HROW : Hid (Row w db 1 cs) := hrow
  have HSPEC : Hid (∀ j, j < C.length → ∃ F caps, cs.getD j .nilFunc = .func (.func F) #[] caps ∧ DeedSpec K mb sb db (C.getD j .zero) (E j) w F caps) := hspec
  have HMS : Hid (MS K mb sb w.heap.size s0 ov [] 0 0 iv I 0 w) := hms
  obtain ⟨M, hM0⟩ : ∃ M, M = GM.go C E I n (GM.start s0) := ⟨_, rfl⟩
  have HM0 : Hid (GM.go C E I n (GM.start s0) = M) := hM0.symm
  rw [← hM0]
  have z40 : (C.length : Int) ≤ 40 := by omega
  have z3 : (n : Int) ≤ 3000 := by omega
  clear hok hin hinv hnar hrow hspec hms hM0
  go_enter Tryz.func38, Tryz.ntmps38
  go_wp2
  go_loopg [] (n + 1) (fun g wr => ∃ (m : GM K.S) (ov iv : Value), StepS K Inv mb sb w.heap.size n C E I M w g m ov iv wr)
  case atStart =>
    refine ⟨GM.start s0, ov, iv, ⟨?_, gok_start _ _ _ h1, hi0, by simp [GM.start], by simp [GM.start], Ran.refl _ _ _ _, by simpa [GM.start] using HM0.out⟩⟩
    simpa [GM.start] using HMS.out
  case round =>
    obtain ⟨m, ov, iv, hgs⟩ := hrel
    have HGS : Hid (StepS K Inv mb sb w.heap.size n C E I M w gk m ov iv wr) := hgs
    have t0 := hgs.ms.cst
    have t2 := hgs.ms.ck
    have t16 := hgs.ms.cpc
    have f0 := hgs.ms.fz 0
    have hle := hgs.le
    rcases hgs.gok.fin with hst | hst | ⟨hst, hpe⟩
    · rw [if_neg (by omega)] at t0
      have hpc := hgs.gok.pcok hst
      have y1 : (m.pc : Int) < (C.length : Int) := by omega
      have e1 : ((m.pc : Int) == (C.length : Int)) = false := by simp; omega
      rcases Nat.lt_or_ge m.steps n with hlt | hge
      · have e2 : ((m.steps : Int) == (n : Int)) = false := by simp; omega
        have hroww : Row wr db 1 cs := by
          have := HROW.out
          unfold Row at *
          rw [hgs.ran.block db hdb (Ne.symm hmb) (Ne.symm hsb)]
          exact this
        have cd := hroww.cell m.pc
        rw [List.getElem?_eq_getElem (by omega)] at cd
        obtain ⟨F, caps, hv, hent, hcall⟩ := (HSPEC.out m.pc hpc)
        rw [show cs.getD m.pc .nilFunc = cs[m.pc] by simp [List.getD, show m.pc < cs.length by omega]] at hv
        rw [hv] at cd
        have hstep : ∀ w2, MS K mb sb w.heap.size m.sto ov m.out 0 (m.steps + 1) iv (I.drop m.taken) (m.pc + 1) w2 → Ran mb sb w.heap.size wr w2 → Calls Tryz.prog F caps w2 fun e w' => e = .returned (.tuple #[]) ∧ Behind K mb sb w.heap.size (C.getD m.pc .zero) (E m.pc) m.sto m.out 0 (m.steps + 1) (I.drop m.taken) (m.pc + 1) w2 w' := by
          intro w2 h2 hr2
          exact hcall _ _ _ _ _ _ _ _ _ w2 (fun j hj hj1 hj2 hj3 => (hgs.ran.trans hr2).block j hj hj1 hj2) h2.sz h2 (Nat.le_refl _) (by have := hgs.gok.outs; omega) (fun h5 => HNAR.out m.pc hpc h5 _ hgs.inv hgs.ms.ok)
        have hms0 : MS K mb sb w.heap.size m.sto ov m.out 0 m.steps iv (I.drop m.taken) m.pc wr := by
          have := hgs.ms
          rwa [if_neg (by omega)] at this
        have HST : Hid (Calls Tryz.prog 64 #[.pointer (some ⟨mb, 0, none⟩), .func (.func F) #[] caps] wr fun e w' => e = .returned (.tuple #[]) ∧ Behind K mb sb w.heap.size (C.getD m.pc .zero) (E m.pc) m.sto m.out 0 (m.steps + 1) (I.drop m.taken) (m.pc + 1) wr w') :=
          stepC F caps hent hms0 (by omega) (by omega) (by omega) (by omega) hstep
        have hdbw : db < wr.heap.size := hroww.lt
        clear hstep hms0 hcall hent hv hroww hgs
        go_wp2_with (go_at_call 64; refine Calls.mono HST.out ?_; rintro e w1 ⟨rfl, hbh⟩)
        go_roundg (gk - 1)
        case measure => have := HGS.out.gh; omega
        case rel =>
          obtain ⟨ov', iv', hg2⟩ := gs_step HGS.out hst hlt (HOK.out m.pc hpc) HIN.out HINV.out hbh
          exact ⟨_, ov', iv', hg2⟩
      · have e2 : ((m.steps : Int) == (n : Int)) = true := by simp; omega
        clear hgs
        go_wp2
        refine bodyPost_ret (results_none rfl _ _ _) rfl ?_
        have hM : m = M := by
          rw [← HGS.out.fin, show n - m.steps = 0 by omega]; rfl
        have hq : MS K mb sb w.heap.size m.sto ov m.out m.state m.steps iv (I.drop m.taken) m.pc wr := by
          have := HGS.out.ms
          rw [if_neg (by omega)] at this
          rw [hst]
          exact this
        rw [← hM]
        exact ⟨rfl, ⟨_, _, _, _, _, hq⟩, HGS.out.ran⟩
    · rw [if_pos hst] at t0
      clear hgs
      go_wp2
      go_end0
      have hM : m = M := by
        rw [← HGS.out.fin, GM.go_stop (by omega)]
      have hq : MS K mb sb w.heap.size m.sto ov m.out m.state m.steps iv (I.drop m.taken) m.pc wr := by
        have := HGS.out.ms
        rw [if_pos hst] at this
        rw [hst]
        exact this
      rw [← hM]
      exact ⟨rfl, ⟨_, _, _, _, _, hq⟩, HGS.out.ran⟩
    · rw [if_neg (by omega)] at t0
      have e1 : ((m.pc : Int) == (C.length : Int)) = true := by simp; omega
      clear hgs
      go_wp2
      refine bodyPost_ret (results_none rfl _ _ _) rfl ?_
      have hM : m = M := by
        rw [← HGS.out.fin, GM.go_stop (by omega)]
      have hq : MS K mb sb w.heap.size m.sto ov m.out m.state m.steps iv (I.drop m.taken) m.pc (wr.setCell ⟨mb, 0, none⟩ (.int .i64 2)) := by
        rw [hst]
        exact HGS.out.ms.setState 2
      rw [← hM]
      exact ⟨rfl, ⟨_, _, _, _, _, hq⟩, HGS.out.ran.set _ _⟩
end form
end Go.Proofs.YtikhedkhgpjaaacGreatDoor
