/- What the program's run makes of an instruction, and of a program's instructions: closures that do what the instructions do. -/
import Derived.Test.YthnhpjhjaamanaaRunDeed5
import Derived.Laws.EntriesVeiled
namespace Go.Proofs.Ythnhpjhjaamanaa.form
open Go.RowKit Go.Proofs.Ythnhpjhjaamanaa.num
set_option linter.unusedVariables false
attribute [local go_sem ↓] Go.wp_at_zero Go.wp_at_succ

section
variable {mb db bm bi bg nB nC : Nat} {i : LIns} {w1 : World}

theorem dspec1 (hb : Box mb db bm bi i w1) (hi : InsOk nB nC i) (h12 : nB ≤ 12) (ho : i.op = 4) : DeedSpec mb db i w1 (.func (.func 40) #[] #[.pointer (some ⟨bm, 0, none⟩), .pointer (some ⟨bi, 0, none⟩)]) := by
  refine ⟨_, _, rfl, fun w => rfl, ?_⟩
  intro base ts ov l st k iv I pc w hk hm hz hl h5
  have hb2 := hb.kept hk
  have a0 := hi.a0
  have a1 := hi.a1
  have z1 := World.block_lt_of_cell? w1 _ hb.pm
  have z2 := World.block_lt_of_cell? w1 _ hb.i0
  simp only at z1 z2
  exact deed1 hb2 hm ho a0 (by omega) hl (by omega) (by omega)

theorem dspec2 (hb : Box mb db bm bi i w1) (hi : InsOk nB nC i) (h12 : nB ≤ 12) (ho : i.op = 8) : DeedSpec mb db i w1 (.func (.func 41) #[] #[.pointer (some ⟨bi, 0, none⟩), .pointer (some ⟨bm, 0, none⟩)]) := by
  refine ⟨_, _, rfl, fun w => rfl, ?_⟩
  intro base ts ov l st k iv I pc w hk hm hz hl h5
  have hb2 := hb.kept hk
  have a0 := hi.a0
  have a1 := hi.a1
  have z1 := World.block_lt_of_cell? w1 _ hb.pm
  have z2 := World.block_lt_of_cell? w1 _ hb.i0
  simp only at z1 z2
  exact deed2 hb2 hm ho

theorem dspec3 (hb : Box mb db bm bi i w1) (hi : InsOk nB nC i) (h12 : nB ≤ 12) (ho : i.op = 9) : DeedSpec mb db i w1 (.func (.func 42) #[] #[.pointer (some ⟨bm, 0, none⟩), .pointer (some ⟨bi, 0, none⟩)]) := by
  refine ⟨_, _, rfl, fun w => rfl, ?_⟩
  intro base ts ov l st k iv I pc w hk hm hz hl h5
  have hb2 := hb.kept hk
  have a0 := hi.a0
  have a1 := hi.a1
  have z1 := World.block_lt_of_cell? w1 _ hb.pm
  have z2 := World.block_lt_of_cell? w1 _ hb.i0
  simp only at z1 z2
  exact deed3 hb2 hm ho a0 (by omega)

theorem dspec4 (hb : Box mb db bm bi i w1) (hi : InsOk nB nC i) (h12 : nB ≤ 12) (ho : i.op = 10) : DeedSpec mb db i w1 (.func (.func 43) #[] #[.pointer (some ⟨bm, 0, none⟩)]) := by
  refine ⟨_, _, rfl, fun w => rfl, ?_⟩
  intro base ts ov l st k iv I pc w hk hm hz hl h5
  have hb2 := hb.kept hk
  have a0 := hi.a0
  have a1 := hi.a1
  have z1 := World.block_lt_of_cell? w1 _ hb.pm
  have z2 := World.block_lt_of_cell? w1 _ hb.i0
  simp only at z1 z2
  exact deed4 hb2 hm ho

theorem dspec5 {w0 : World} {g : Value} (hb : Box mb db bm bi i w1) (hi : InsOk nB nC i) (h12 : nB ≤ 12) (hg : givesB i.op = true) (hs : GiveSpec mb db i w0 g) (h01 : Kept mb db w0 w1) (hz0 : w0.heap.size ≤ w1.heap.size) (cg : w1.cell? ⟨bg, 0, none⟩ = some g) (hng : bg ≠ mb) (hnd : bg ≠ db) :
    DeedSpec mb db i w1 (.func (.func 45) #[] #[.pointer (some ⟨bg, 0, none⟩), .pointer (some ⟨bm, 0, none⟩), .pointer (some ⟨bi, 0, none⟩)]) := by
  refine ⟨_, _, rfl, fun w => rfl, ?_⟩
  intro base ts ov l st k iv I pc w hk hm hz hl h5
  have hb2 := hb.kept hk
  obtain ⟨hd0, hd1⟩ := hi.d hg
  have z1 := World.block_lt_of_cell? w1 _ hb.pm
  have z2 := World.block_lt_of_cell? w1 _ hb.i0
  have z3 := World.block_lt_of_cell? w1 _ cg
  simp only at z1 z2 z3
  obtain ⟨F, caps, rfl, hent, hc⟩ := hs
  have hx : 0 ≤ I.headD 0 ∧ I.headD 0 < 4294967296 := by
    obtain ⟨ai, cap, -, -, -, hbd, -⟩ := hm.ins
    cases I with
    | nil => simp
    | cons y R => have := hbd 0 (by simp); simpa using this
  refine deed5 F caps hent hb2 (hk.cell cg hng hnd) hng hm hg hd0 (by omega) (by omega) (by omega) (by omega) (gvI_bd _ _ _ _ (hm.bd _) (hm.bd _) hx.1 hx.2 hi.n0 hi.n1) (fun w2 hw2 => ?_)
  refine hc base ts ov l st k iv I pc w2 (fun j hj hjm hjd => ?_) (hm.below hw2) h5
  have hjw : j < w.heap.size := by have := hm.sz; omega
  rw [hw2.block j hjw, hk j (by omega) hjm hjd, h01 j hj hjm hjd]

set_option maxRecDepth 100000 in
theorem deed (hi : InsOk nB nC i) (h12 : nB ≤ 12) (hu : 10 < i.op → 21 ≤ i.op) (w : World) (hmb : mb < w.heap.size) (hdb : db < w.heap.size) :
    Calls Try.prog 37 #[.pointer (some ⟨mb, 0, none⟩), i.val] w fun e w' => (∃ g, e = .returned g ∧ DeedSpec mb db i w' g) ∧ Below w.heap.size w w' := by
  have HI : Hid (InsOk nB nC i) := hi
  have HB : Hid _ := box_new mb db i w hmb hdb
  have hbl : Hid (∀ o1 o2 : Obj, Below w.heap.size w ((w.alloc o1).alloc o2)) := fun o1 o2 => ((Below.refl _ _).alloc (Nat.le_refl _) _).alloc (by simp) _
  have HU : Hid (10 < i.op → 21 ≤ i.op) := hu
  have p4 := HB.out.i0
  clear hi hu p4
  unfold LIns.val
  rcases (show (i.op == 4) = true ∨ ((i.op == 4) = false ∧ (i.op == 8) = true) ∨ ((i.op == 4) = false ∧ (i.op == 8) = false ∧ (i.op == 9) = true) ∨ ((i.op == 4) = false ∧ (i.op == 8) = false ∧ (i.op == 9) = false ∧ (i.op == 10) = true) ∨ ((i.op == 4) = false ∧ (i.op == 8) = false ∧ (i.op == 9) = false ∧ (i.op == 10) = false) by cases (i.op == 4) <;> cases (i.op == 8) <;> cases (i.op == 9) <;> cases (i.op == 10) <;> simp) with e1 | ⟨e1, e2⟩ | ⟨e1, e2, e3⟩ | ⟨e1, e2, e3, e4⟩ | ⟨e1, e2, e3, e4⟩
  · go_enter Try.func37, Try.ntmps37
    go_wp2
    go_ret
    exact ⟨⟨_, rfl, dspec1 HB.out HI.out h12 (by simpa using e1)⟩, hbl.out _ _⟩
  · go_enter Try.func37, Try.ntmps37
    go_wp2
    go_ret
    exact ⟨⟨_, rfl, dspec2 HB.out HI.out h12 (by simpa using e2)⟩, hbl.out _ _⟩
  · go_enter Try.func37, Try.ntmps37
    go_wp2
    go_ret
    exact ⟨⟨_, rfl, dspec3 HB.out HI.out h12 (by simpa using e3)⟩, hbl.out _ _⟩
  · go_enter Try.func37, Try.ntmps37
    go_wp2
    go_ret
    exact ⟨⟨_, rfl, dspec4 HB.out HI.out h12 (by simpa using e4)⟩, hbl.out _ _⟩
  · have hg : givesB i.op = true := by unfold givesB; simp_all
    have HG : Hid (givesB i.op = true) := hg
    clear hg
    go_enter Try.func37, Try.ntmps37
    go_wp2_with (go_at_call 44; refine (giving (mb := mb) (db := db) HI.out h12 HG.out HU.out _ (by simp; omega) (by simp; omega)).mono ?_; rintro e w2 ⟨⟨g, rfl, hgs⟩, hb2⟩; have HGS : Hid _ := hgs; obtain ⟨F, caps, rfl, -, -⟩ := hgs)
    go_ret
    have hz2 : w.heap.size + 2 ≤ w2.heap.size := by have := hb2.size; simpa using this
    have hb3 : Below w2.heap.size w2 (w2.alloc (Obj.cells #[Value.func (Fn.func F) #[] caps] 75)) := (Below.refl _ _).alloc (Nat.le_refl _) _
    refine ⟨⟨_, rfl, dspec5 (w0 := w2) ((HB.out.kept (Kept.of_below hb2)).kept (Kept.of_below hb3)) HI.out h12 HG.out HGS.out (Kept.of_below hb3) hb3.size (by simp [go_sem]) (by omega) (by omega)⟩, ?_⟩
    exact (step_below hb2 (hbl.out _ _)).alloc (by omega) _
end
end Go.Proofs.Ythnhpjhjaamanaa.form
