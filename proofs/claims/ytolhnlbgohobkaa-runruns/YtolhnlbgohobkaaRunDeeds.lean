/- What the program's machine makes of an instruction: a closure that does what the instruction does, whatever its ends (Deed). -/
import Derived.Test.YtolhnlbgohobkaaRunDeed5
import Derived.Laws.EntriesVeiled
namespace Go.Proofs.Ytolhnlbgohobkaa.form
open Go.RowKit Go.Proofs.Ytolhnlbgohobkaa.num
set_option linter.unusedVariables false
set_option maxRecDepth 100000
attribute [local go_sem ↓] Go.wp_at_zero Go.wp_at_succ

section
variable {K : StoK} {mb sb db bm bi be bg nB nC : Nat} {i : LIns} {x : EndF} {w1 : World} {rdA rdB : K.S → Int} {wr : K.S → Int → K.S} {G : Prop}

theorem dspec1 (hb : Box mb sb db bm bi be i x w1) (hE : EndsIs K mb sb db w1 x rdA rdB wr G) (ho : i.op = 4) : DeedSpec K mb sb db i (plainE rdA rdB wr) w1 79 #[.pointer (some ⟨bm, 0, none⟩), .pointer (some ⟨be, 0, none⟩)] := by
  refine ⟨fun w => rfl, ?_⟩
  intro base s ov l st k iv I pc w hk hz0 hm hz hl h5
  have z1 := World.block_lt_of_cell? w1 _ hb.pm
  have z2 := World.block_lt_of_cell? w1 _ hb.e0
  simp only at z1 z2
  exact deed1 (hb.kept hk) hm ho (hE.a.rd hk hz0 hm) hl (by omega) (by omega)

theorem dspec2 (hb : Box mb sb db bm bi be i x w1) (ho : i.op = 8) : DeedSpec K mb sb db i (plainE rdA rdB wr) w1 80 #[.pointer (some ⟨bi, 0, none⟩), .pointer (some ⟨bm, 0, none⟩)] := by
  refine ⟨fun w => rfl, ?_⟩
  intro base s ov l st k iv I pc w hk hz0 hm hz hl h5
  exact deed2 (hb.kept hk) hm ho

theorem dspec3 (hb : Box mb sb db bm bi be i x w1) (hE : EndsIs K mb sb db w1 x rdA rdB wr G) (ho : i.op = 9) : DeedSpec K mb sb db i (plainE rdA rdB wr) w1 81 #[.pointer (some ⟨be, 0, none⟩), .pointer (some ⟨bi, 0, none⟩), .pointer (some ⟨bm, 0, none⟩)] := by
  refine ⟨fun w => rfl, ?_⟩
  intro base s ov l st k iv I pc w hk hz0 hm hz hl h5
  have hA := hE.a.rd hk hz0 hm
  exact deed3 (hb.kept hk) hm ho hA.ent hA.call

theorem dspec4 (hb : Box mb sb db bm bi be i x w1) (ho : i.op = 10) : DeedSpec K mb sb db i (plainE rdA rdB wr) w1 82 #[.pointer (some ⟨bm, 0, none⟩)] := by
  refine ⟨fun w => rfl, ?_⟩
  intro base s ov l st k iv I pc w hk hz0 hm hz hl h5
  exact deed4 (hb.kept hk) hm ho

theorem dspec5 {w0 : World} {F : Nat} {caps : Array Value} (hb : Box mb sb db bm bi be i x w1) (hi : InsOk nB nC i) (hE : EndsIs K mb sb db w1 x rdA rdB wr G) (hG : G) (hg : givesB i.op = true) (hs : GiveSpec K mb sb db i rdA rdB w0 F caps) (h01 : Kept mb sb db w0 w1) (hz01 : w0.heap.size ≤ w1.heap.size)
    (cg : w1.cell? ⟨bg, 0, none⟩ = some (.func (.func F) #[] caps)) (hng : bg ≠ mb) (hns : bg ≠ sb) (hnd : bg ≠ db) :
    DeedSpec K mb sb db i (plainE rdA rdB wr) w1 84 #[.pointer (some ⟨be, 0, none⟩), .pointer (some ⟨bg, 0, none⟩)] := by
  refine ⟨fun w => rfl, ?_⟩
  intro base s ov l st k iv I pc w hk hz0 hm hz hl h5
  have z2 := World.block_lt_of_cell? w1 _ hb.e2
  have z3 := World.block_lt_of_cell? w1 _ cg
  simp only at z2 z3
  have hx := head_bd hm
  have hgv : U64i (gvI i (rdA s) (rdB s) (I.headD 0)) := gvI_bd _ _ _ _ (hE.a.2.1 s hm.ok) (hE.b.2.1 s hm.ok) hx.1 hx.2 hi.n0 hi.n1
  refine deed5 F caps hs.1 (hb.kept hk) (hk.cell cg hng hns hnd) hng hns hm hg (by omega) (by omega) (fun w2 hw2 => ?_) (hE.d hG).1 (fun w2 iv' hr2 hm2 => ?_)
  · exact hs.2 base s ov l st k iv I pc w2 ((h01.trans hz01 hk).thenBelow (by omega) hw2) (Nat.le_trans hz01 (Nat.le_trans hz0 hw2.size)) (hm.below hw2) h5
  · have hk2 : Kept mb sb db w1 w2 := hk.ran hz hr2
    refine ((hE.d hG).2.2 s _ w2 hk2 (by have := hm2.sz; omega) hm2.sto hm2.ok hgv).mono ?_
    rintro e w' ⟨rfl, hrow, hon⟩
    exact ⟨rfl, hm2.wrote hrow ((hE.d hG).2.1 s _ hm2.ok hgv) hon, hon.ran hm2.sz⟩

theorem deed (hi : InsOk nB nC i) (hu : 10 < i.op → 21 ≤ i.op) (w : World) (hmb : mb < w.heap.size) (hsb : sb < w.heap.size) (hdb : db < w.heap.size) (hE : EndsIs K mb sb db w x rdA rdB wr (givesB i.op = true)) :
    Calls Try.prog 44 #[.pointer (some ⟨mb, 0, none⟩), i.val, x.val] w fun e w' => (∃ F caps, e = .returned (.func (.func F) #[] caps) ∧ DeedSpec K mb sb db i (plainE rdA rdB wr) w' F caps) ∧ Below w.heap.size w w' := by
  have HI : Hid (InsOk nB nC i) := hi
  have HB : Hid _ := box_new mb sb db i x w hmb hsb hdb
  have hbl := boxW_below mb i x w
  have HE : Hid (EndsIs K mb sb db (boxW mb i x w) x rdA rdB wr (givesB i.op = true)) := hE.later (Kept.of_below hbl) hbl.size
  have HBL : Hid (Below w.heap.size w (boxW mb i x w)) := hbl
  have HU : Hid (10 < i.op → 21 ≤ i.op) := hu
  clear hi hu hE hbl
  rcases (show (i.op == 4) = true ∨ ((i.op == 4) = false ∧ (i.op == 8) = true) ∨ ((i.op == 4) = false ∧ (i.op == 8) = false ∧ (i.op == 9) = true) ∨ ((i.op == 4) = false ∧ (i.op == 8) = false ∧ (i.op == 9) = false ∧ (i.op == 10) = true) ∨ ((i.op == 4) = false ∧ (i.op == 8) = false ∧ (i.op == 9) = false ∧ (i.op == 10) = false) by cases (i.op == 4) <;> cases (i.op == 8) <;> cases (i.op == 9) <;> cases (i.op == 10) <;> simp) with e1 | ⟨e1, e2⟩ | ⟨e1, e2, e3⟩ | ⟨e1, e2, e3, e4⟩ | ⟨e1, e2, e3, e4⟩
  · unfold LIns.val EndF.val
    go_enter Try.func44, Try.ntmps44
    go_wp2
    go_ret
    exact ⟨⟨_, _, rfl, dspec1 HB.out HE.out (by simpa using e1)⟩, HBL.out⟩
  · unfold LIns.val EndF.val
    go_enter Try.func44, Try.ntmps44
    go_wp2
    go_ret
    exact ⟨⟨_, _, rfl, dspec2 HB.out (by simpa using e2)⟩, HBL.out⟩
  · unfold LIns.val EndF.val
    go_enter Try.func44, Try.ntmps44
    go_wp2
    go_ret
    exact ⟨⟨_, _, rfl, dspec3 HB.out HE.out (by simpa using e3)⟩, HBL.out⟩
  · unfold LIns.val EndF.val
    go_enter Try.func44, Try.ntmps44
    go_wp2
    go_ret
    exact ⟨⟨_, _, rfl, dspec4 HB.out (by simpa using e4)⟩, HBL.out⟩
  · have hg : givesB i.op = true := by unfold givesB; simp_all
    have HG : Hid (givesB i.op = true) := hg
    have HGI : Hid (Calls Try.prog 83 #[.pointer (some ⟨mb, 0, none⟩), i.val, x.val] (boxW mb i x w) fun e w' => (∃ F caps, e = .returned (.func (.func F) #[] caps) ∧ GiveSpec K mb sb db i rdA rdB w' F caps) ∧ Below (boxW mb i x w).heap.size (boxW mb i x w) w') :=
      giving HI.out hg HU.out (boxW mb i x w) (by rw [boxW_size]; omega) (by rw [boxW_size]; omega) (by rw [boxW_size]; omega) HE.out
    clear hg
    unfold LIns.val EndF.val
    go_enter Try.func44, Try.ntmps44
    go_wp2_with fail
    go_at_call 83
    refine Calls.mono HGI.out ?_
    rintro e w2 ⟨⟨F, caps, rfl, hgs⟩, hb2⟩
    have HGS : Hid (GiveSpec K mb sb db i rdA rdB w2 F caps) := hgs
    have HB2 : Hid (Below (boxW mb i x w).heap.size (boxW mb i x w) w2) := hb2
    have hz2 : w.heap.size + 3 ≤ w2.heap.size := by have := hb2.size; rw [boxW_size] at this; exact this
    clear hgs hb2
    go_wp2
    go_ret
    have hb3 : Below w2.heap.size w2 (w2.alloc (Obj.cells #[Value.func (Fn.func F) #[] caps] 77)) := (Below.refl _ _).alloc (Nat.le_refl _) _
    have hk2 : Kept mb sb db (boxW mb i x w) (w2.alloc (Obj.cells #[Value.func (Fn.func F) #[] caps] 77)) := Kept.of_below (step_below hb3 HB2.out)
    refine ⟨⟨_, _, rfl, dspec5 (w0 := w2) (HB.out.kept hk2) HI.out (HE.out.later hk2 (step_below hb3 HB2.out).size) HG.out HG.out HGS.out (Kept.of_below hb3) hb3.size (by simp [go_sem]) (by omega) (by omega) (by omega)⟩, ?_⟩
    exact step_below hb3 (step_below HB2.out HBL.out)
end
end Go.Proofs.Ytolhnlbgohobkaa.form
