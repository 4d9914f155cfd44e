/- What the program's run makes of an instruction that has a Dest: a closure that gives what the instruction gives, whenever it is called. -/
import Derived.Test.YthnhpjhjaamanaaRunGive
namespace Go.Proofs.Ythnhpjhjaamanaa.form
open Go.RowKit Go.Proofs.Ythnhpjhjaamanaa.num
set_option linter.unusedVariables false
attribute [local go_sem ↓] Go.wp_at_zero Go.wp_at_succ

section
variable {mb db bm bi nB nC : Nat} {i : LIns} {w1 : World}

theorem spec1 (hb : Box mb db bm bi i w1) (hi : InsOk nB nC i) (h12 : nB ≤ 12) (ho : i.op = 1) : GiveSpec mb db i w1 (.func (.func 47) #[] #[.pointer (some ⟨bi, 0, none⟩)]) := by
  refine ⟨_, _, rfl, fun w => rfl, ?_⟩
  intro base ts ov l st k iv I pc w hk hm h5
  have hb2 := hb.kept hk
  have a0 := hi.a0
  have a1 := hi.a1
  have b0 := hi.b0
  have b1 := hi.b1
  have p0 := hi.p0
  have p1 := hi.p1
  refine (giv1 hb2 hi.n0 hi.n1).mono ?_
  rintro e w' ⟨rfl, hbl⟩
  exact ⟨ret_int (by unfold gvI; rw [if_pos ho]), ⟨iv, by rw [if_neg (by omega)]; exact hm.below hbl⟩, Ran.of_below hm.sz hbl⟩

theorem spec2 (hb : Box mb db bm bi i w1) (hi : InsOk nB nC i) (h12 : nB ≤ 12) (ho : i.op = 2) : GiveSpec mb db i w1 (.func (.func 48) #[] #[.pointer (some ⟨bm, 0, none⟩), .pointer (some ⟨bi, 0, none⟩)]) := by
  refine ⟨_, _, rfl, fun w => rfl, ?_⟩
  intro base ts ov l st k iv I pc w hk hm h5
  have hb2 := hb.kept hk
  have a0 := hi.a0
  have a1 := hi.a1
  have b0 := hi.b0
  have b1 := hi.b1
  have p0 := hi.p0
  have p1 := hi.p1
  refine (giv2 hb2 hm (by omega) (by omega)).mono ?_
  rintro e w' ⟨rfl, hbl⟩
  exact ⟨ret_int (by unfold gvI; rw [if_neg (by omega), if_pos ho]), ⟨iv, by rw [if_neg (by omega)]; exact hm.below hbl⟩, Ran.of_below hm.sz hbl⟩

theorem spec3 (hb : Box mb db bm bi i w1) (hi : InsOk nB nC i) (h12 : nB ≤ 12) (ho : i.op = 3) : GiveSpec mb db i w1 (.func (.func 49) #[] #[.pointer (some ⟨bm, 0, none⟩)]) := by
  refine ⟨_, _, rfl, fun w => rfl, ?_⟩
  intro base ts ov l st k iv I pc w hk hm h5
  have hb2 := hb.kept hk
  have a0 := hi.a0
  have a1 := hi.a1
  have b0 := hi.b0
  have b1 := hi.b1
  have p0 := hi.p0
  have p1 := hi.p1
  refine (giv3 hb2 hm).mono ?_
  rintro e w' ⟨rfl, hms, hr⟩
  exact ⟨ret_int (by unfold gvI; rw [if_neg (by omega), if_neg (by omega), if_pos ho]), by rw [if_pos ho]; exact hms, hr⟩

theorem spec4 (hb : Box mb db bm bi i w1) (hi : InsOk nB nC i) (h12 : nB ≤ 12) (ho : i.op = 5) : GiveSpec mb db i w1 (.func (.func 51) #[] #[.pointer (some ⟨bm, 0, none⟩), .pointer (some ⟨bi, 0, none⟩)]) := by
  refine ⟨_, _, rfl, fun w => rfl, ?_⟩
  intro base ts ov l st k iv I pc w hk hm h5
  have hb2 := hb.kept hk
  have a0 := hi.a0
  have a1 := hi.a1
  have b0 := hi.b0
  have b1 := hi.b1
  have p0 := hi.p0
  have p1 := hi.p1
  refine (giv4 hb2 hm (by omega) (by omega) (by omega) (by omega) (h5 ho)).mono ?_
  rintro e w' ⟨rfl, hbl⟩
  exact ⟨ret_int (by unfold gvI; rw [if_neg (by omega), if_neg (by omega), if_neg (by omega), if_pos ho]), ⟨iv, by rw [if_neg (by omega)]; exact hm.below hbl⟩, Ran.of_below hm.sz hbl⟩

theorem spec5 (hb : Box mb db bm bi i w1) (hi : InsOk nB nC i) (h12 : nB ≤ 12) (ho : i.op = 6) : GiveSpec mb db i w1 (.func (.func 52) #[] #[.pointer (some ⟨bm, 0, none⟩), .pointer (some ⟨bi, 0, none⟩)]) := by
  refine ⟨_, _, rfl, fun w => rfl, ?_⟩
  intro base ts ov l st k iv I pc w hk hm h5
  have hb2 := hb.kept hk
  have a0 := hi.a0
  have a1 := hi.a1
  have b0 := hi.b0
  have b1 := hi.b1
  have p0 := hi.p0
  have p1 := hi.p1
  refine (giv5 hb2 hm (by omega) (by omega)).mono ?_
  rintro e w' ⟨rfl, hbl⟩
  exact ⟨ret_int (by unfold gvI; rw [if_neg (by omega), if_neg (by omega), if_neg (by omega), if_neg (by omega), if_pos ho]), ⟨iv, by rw [if_neg (by omega)]; exact hm.below hbl⟩, Ran.of_below hm.sz hbl⟩

theorem spec6 (hb : Box mb db bm bi i w1) (hi : InsOk nB nC i) (h12 : nB ≤ 12) (ho : i.op = 7) : GiveSpec mb db i w1 (.func (.func 53) #[] #[.pointer (some ⟨bm, 0, none⟩), .pointer (some ⟨bi, 0, none⟩)]) := by
  refine ⟨_, _, rfl, fun w => rfl, ?_⟩
  intro base ts ov l st k iv I pc w hk hm h5
  have hb2 := hb.kept hk
  have a0 := hi.a0
  have a1 := hi.a1
  have b0 := hi.b0
  have b1 := hi.b1
  have p0 := hi.p0
  have p1 := hi.p1
  refine (giv6 hb2 hm (by omega) (by omega)).mono ?_
  rintro e w' ⟨rfl, hbl⟩
  exact ⟨ret_int (by unfold gvI; rw [if_neg (by omega), if_neg (by omega), if_neg (by omega), if_neg (by omega), if_neg (by omega), if_pos ho]), ⟨iv, by rw [if_neg (by omega)]; exact hm.below hbl⟩, Ran.of_below hm.sz hbl⟩

theorem spec7 (hb : Box mb db bm bi i w1) (hi : InsOk nB nC i) (h12 : nB ≤ 12) (ho : 40 < i.op) : GiveSpec mb db i w1 (.func (.func 54) #[] #[.pointer (some ⟨bi, 0, none⟩), .pointer (some ⟨bm, 0, none⟩)]) := by
  refine ⟨_, _, rfl, fun w => rfl, ?_⟩
  intro base ts ov l st k iv I pc w hk hm h5
  have hb2 := hb.kept hk
  have a0 := hi.a0
  have a1 := hi.a1
  have b0 := hi.b0
  have b1 := hi.b1
  have p0 := hi.p0
  have p1 := hi.p1
  refine (giv7 hb2 hm (by omega) (by omega) (by omega) (by omega) (by omega) (by omega)).mono ?_
  rintro e w' ⟨rfl, hbl⟩
  exact ⟨ret_int (by unfold gvI; rw [if_neg (by omega), if_neg (by omega), if_neg (by omega), if_neg (by omega), if_neg (by omega), if_neg (by omega), if_pos ho]), ⟨iv, by rw [if_neg (by omega)]; exact hm.below hbl⟩, Ran.of_below hm.sz hbl⟩

theorem spec8 (hb : Box mb db bm bi i w1) (hi : InsOk nB nC i) (h12 : nB ≤ 12) (ho : 10 < i.op ∧ i.op ≤ 40) : GiveSpec mb db i w1 (.func (.func 55) #[] #[.pointer (some ⟨bi, 0, none⟩), .pointer (some ⟨bm, 0, none⟩)]) := by
  refine ⟨_, _, rfl, fun w => rfl, ?_⟩
  intro base ts ov l st k iv I pc w hk hm h5
  have hb2 := hb.kept hk
  have a0 := hi.a0
  have a1 := hi.a1
  have b0 := hi.b0
  have b1 := hi.b1
  have p0 := hi.p0
  have p1 := hi.p1
  refine (giv8 hb2 hm (by omega) (by omega) (by omega) (by omega) (by omega) (by omega)).mono ?_
  rintro e w' ⟨rfl, hbl⟩
  exact ⟨ret_int (by unfold gvI; rw [if_neg (by omega), if_neg (by omega), if_neg (by omega), if_neg (by omega), if_neg (by omega), if_neg (by omega), if_neg (by omega)]), ⟨iv, by rw [if_neg (by omega)]; exact hm.below hbl⟩, Ran.of_below hm.sz hbl⟩

theorem box_new (mb db : Nat) (i : LIns) (w : World) (hmb : mb < w.heap.size) (hdb : db < w.heap.size) : Box mb db w.heap.size (w.heap.size + 1) i ((w.alloc (.cells #[.pointer (some ⟨mb, 0, none⟩)] 49)).alloc (.cells #[.int .i64 i.op, .int .i64 i.dest, .int .i64 i.a, .int .i64 i.b, .int .i64 i.c, .int .u32 i.n] 47)) := by
  refine ⟨?_, ?_, ?_, ?_, ?_, ?_, ?_, by omega, by omega, by omega, by omega⟩ <;> simp [go_sem]

set_option maxRecDepth 100000 in
theorem giving (hi : InsOk nB nC i) (h12 : nB ≤ 12) (hg : givesB i.op = true) (hu : 10 < i.op → 21 ≤ i.op) (w : World) (hmb : mb < w.heap.size) (hdb : db < w.heap.size) :
    Calls Try.prog 44 #[.pointer (some ⟨mb, 0, none⟩), i.val] w fun e w' => (∃ g, e = .returned g ∧ GiveSpec mb db i w' g) ∧ Below w.heap.size w w' := by
  have HI : Hid (InsOk nB nC i) := hi
  have HG : Hid (givesB i.op = true) := hg
  have HB : Hid _ := box_new mb db i w hmb hdb
  have hbl : Hid (∀ o1 o2 : Obj, Below w.heap.size w ((w.alloc o1).alloc o2)) := fun o1 o2 => ((Below.refl _ _).alloc (Nat.le_refl _) _).alloc (by simp) _
  have HU : Hid (10 < i.op → 21 ≤ i.op) := hu
  clear hi hg hu
  unfold LIns.val
  go_enter Try.func44, Try.ntmps44
  go_wp2
  all_goals
    go_ret
    refine ⟨⟨_, rfl, ?_⟩, hbl.out _ _⟩
    have hg := HG.out
    have hu := HU.out
    unfold givesB at hg
    simp at hg
  · exact spec1 HB.out HI.out h12 (by simp_all)
  · exact spec2 HB.out HI.out h12 (by simp_all)
  · exact spec3 HB.out HI.out h12 (by simp_all)
  · exact spec4 HB.out HI.out h12 (by simp_all)
  · exact spec5 HB.out HI.out h12 (by simp_all)
  · exact spec6 HB.out HI.out h12 (by simp_all)
  · exact spec7 HB.out HI.out h12 (by simp_all)
  · have := HI.out.p0
    exact spec8 HB.out HI.out h12 (by simp_all; omega)
end
end Go.Proofs.Ythnhpjhjaamanaa.form
