/- What the program's machine makes of an instruction that has a Dest: a closure that gives what the instruction gives, whenever it is called. -/
import Derived.Test.YtolhnlbgohobkaaRunGives
import Derived.Laws.EntriesVeiled
namespace Go.Proofs.Ytolhnlbgohobkaa.form
open Go.RowKit Go.Proofs.Ytolhnlbgohobkaa.num
set_option linter.unusedVariables false
set_option maxRecDepth 100000
attribute [local go_sem ↓] Go.wp_at_zero Go.wp_at_succ

section
variable {K : StoK} {mb sb db bm bi be nB nC : Nat} {i : LIns} {x : EndF} {w1 : World} {rdA rdB : K.S → Int} {wr : K.S → Int → K.S} {G : Prop}

theorem give_below {base : Nat} {s : K.S} {ov : Value} {l : List Int} {st k : Int} {iv : Value} {I : List Int} {pc : Int} {w w' : World} (hm : MS K mb sb base s ov l st k iv I pc w) (hb : Below w.heap.size w w') (h3 : ¬ i.op = 3) : (∃ iv', MS K mb sb base s ov l st k iv' (if i.op = 3 then I.tail else I) pc w') ∧ Ran mb sb base w w' :=
  ⟨⟨iv, by rw [if_neg h3]; exact hm.below hb⟩, Ran.of_below hm.sz hb⟩

theorem spec1 (hb : Box mb sb db bm bi be i x w1) (hi : InsOk nB nC i) (ho : i.op = 1) : GiveSpec K mb sb db i rdA rdB w1 109 #[.pointer (some ⟨bi, 0, none⟩)] := by
  refine ⟨fun w => rfl, ?_⟩
  intro base s ov l st k iv I pc w hk hz hm h5
  refine (giv1 (hb.kept hk) hi.n0 hi.n1).mono ?_
  rintro e w' ⟨rfl, hbl⟩
  exact ⟨ret_int (by unfold gvI; rw [if_pos ho]), give_below hm hbl (by omega)⟩

theorem specM (hE : EndsIs K mb sb db w1 x rdA rdB wr G) (ho : i.op = 2) : GiveSpec K mb sb db i rdA rdB w1 x.fa x.ca := by
  refine ⟨hE.a.1, ?_⟩
  intro base s ov l st k iv I pc w hk hz hm h5
  refine ((hE.a.rd hk hz hm).call w (Below.refl _ _)).mono ?_
  rintro e w' ⟨rfl, hbl⟩
  exact ⟨ret_int (by unfold gvI; rw [if_neg (by omega), if_pos ho]), give_below hm hbl (by omega)⟩

theorem spec2 (hb : Box mb sb db bm bi be i x w1) (ho : i.op = 3) : GiveSpec K mb sb db i rdA rdB w1 110 #[.pointer (some ⟨bm, 0, none⟩)] := by
  refine ⟨fun w => rfl, ?_⟩
  intro base s ov l st k iv I pc w hk hz hm h5
  refine (giv2 (hb.kept hk) hm).mono ?_
  rintro e w' ⟨rfl, hms, hr⟩
  exact ⟨ret_int (by unfold gvI; rw [if_neg (by omega), if_neg (by omega), if_pos ho]), by rw [if_pos ho]; exact hms, hr⟩

theorem spec3 (hb : Box mb sb db bm bi be i x w1) (hE : EndsIs K mb sb db w1 x rdA rdB wr G) (ho : i.op = 5) : GiveSpec K mb sb db i rdA rdB w1 112 #[.pointer (some ⟨be, 0, none⟩)] := by
  refine ⟨fun w => rfl, ?_⟩
  intro base s ov l st k iv I pc w hk hz hm h5
  refine (giv3 (hb.kept hk) (hE.a.rd hk hz hm) (hE.b.rd hk hz hm) (h5 ho)).mono ?_
  rintro e w' ⟨rfl, hbl⟩
  exact ⟨ret_int (by unfold gvI; rw [if_neg (by omega), if_neg (by omega), if_neg (by omega), if_pos ho]), give_below hm hbl (by omega)⟩

theorem spec4 (hb : Box mb sb db bm bi be i x w1) (hE : EndsIs K mb sb db w1 x rdA rdB wr G) (ho : i.op = 6) : GiveSpec K mb sb db i rdA rdB w1 113 #[.pointer (some ⟨be, 0, none⟩)] := by
  refine ⟨fun w => rfl, ?_⟩
  intro base s ov l st k iv I pc w hk hz hm h5
  refine (giv4 (hb.kept hk) (hE.a.rd hk hz hm)).mono ?_
  rintro e w' ⟨rfl, hbl⟩
  exact ⟨ret_int (by unfold gvI; rw [if_neg (by omega), if_neg (by omega), if_neg (by omega), if_neg (by omega), if_pos ho]), give_below hm hbl (by omega)⟩

theorem spec5 (hb : Box mb sb db bm bi be i x w1) (hE : EndsIs K mb sb db w1 x rdA rdB wr G) (ho : i.op = 7) : GiveSpec K mb sb db i rdA rdB w1 114 #[.pointer (some ⟨be, 0, none⟩)] := by
  refine ⟨fun w => rfl, ?_⟩
  intro base s ov l st k iv I pc w hk hz hm h5
  refine (giv5 (hb.kept hk) (hE.a.rd hk hz hm)).mono ?_
  rintro e w' ⟨rfl, hbl⟩
  exact ⟨ret_int (by unfold gvI; rw [if_neg (by omega), if_neg (by omega), if_neg (by omega), if_neg (by omega), if_neg (by omega), if_pos ho]), give_below hm hbl (by omega)⟩

theorem spec6 (hb : Box mb sb db bm bi be i x w1) (hE : EndsIs K mb sb db w1 x rdA rdB wr G) (hi : InsOk nB nC i) (ho : 40 < i.op) : GiveSpec K mb sb db i rdA rdB w1 115 #[.pointer (some ⟨bi, 0, none⟩), .pointer (some ⟨be, 0, none⟩)] := by
  refine ⟨fun w => rfl, ?_⟩
  intro base s ov l st k iv I pc w hk hz hm h5
  have p1 := hi.p1
  refine (giv6 (hb.kept hk) (hE.a.rd hk hz hm) (hE.b.rd hk hz hm) (by omega) (by omega)).mono ?_
  rintro e w' ⟨rfl, hbl⟩
  exact ⟨ret_int (by unfold gvI; rw [if_neg (by omega), if_neg (by omega), if_neg (by omega), if_neg (by omega), if_neg (by omega), if_neg (by omega), if_pos ho]), give_below hm hbl (by omega)⟩

theorem spec7 (hb : Box mb sb db bm bi be i x w1) (hE : EndsIs K mb sb db w1 x rdA rdB wr G) (ho : 10 < i.op ∧ i.op ≤ 40) : GiveSpec K mb sb db i rdA rdB w1 116 #[.pointer (some ⟨bi, 0, none⟩), .pointer (some ⟨be, 0, none⟩)] := by
  refine ⟨fun w => rfl, ?_⟩
  intro base s ov l st k iv I pc w hk hz hm h5
  refine (giv7 (hb.kept hk) (hE.a.rd hk hz hm) (hE.b.rd hk hz hm) (by omega) (by omega)).mono ?_
  rintro e w' ⟨rfl, hbl⟩
  exact ⟨ret_int (by unfold gvI; rw [if_neg (by omega), if_neg (by omega), if_neg (by omega), if_neg (by omega), if_neg (by omega), if_neg (by omega), if_neg (by omega)]), give_below hm hbl (by omega)⟩

/-- The three variables that are caught, just made. -/
def boxW (mb : Nat) (i : LIns) (x : EndF) (w : World) : World :=
  ((w.alloc (.cells #[.pointer (some ⟨mb, 0, none⟩)] 70)).alloc (.cells #[.int .i64 i.op, .int .i64 i.dest, .int .i64 i.a, .int .i64 i.b, .int .i64 i.c, .int .u32 i.n] 50)).alloc (.cells #[.func (.func x.fa) #[] x.ca, .func (.func x.fb) #[] x.cb, .func (.func x.fd) #[] #[x.d1, x.d2]] 80)
theorem boxW_below (mb : Nat) (i : LIns) (x : EndF) (w : World) : Below w.heap.size w (boxW mb i x w) := (((Below.refl _ _).alloc (Nat.le_refl _) _).alloc (by simp) _).alloc (by simp; omega) _
theorem boxW_size (mb : Nat) (i : LIns) (x : EndF) (w : World) : (boxW mb i x w).heap.size = w.heap.size + 3 := by simp [boxW]
theorem box_new (mb sb db : Nat) (i : LIns) (x : EndF) (w : World) (hmb : mb < w.heap.size) (hsb : sb < w.heap.size) (hdb : db < w.heap.size) : Box mb sb db w.heap.size (w.heap.size + 1) (w.heap.size + 1 + 1) i x (boxW mb i x w) := by
  refine ⟨?_, ?_, ?_, ?_, ?_, ?_, ?_, by omega, by omega, by omega, by omega, by omega, by omega, by omega, by omega, by omega⟩ <;> simp [go_sem, boxW]

def EndF.val (x : EndF) : Value := .agg #[.func (.func x.fa) #[] x.ca, .func (.func x.fb) #[] x.cb, .func (.func x.fd) #[] #[x.d1, x.d2]]

theorem giving (hi : InsOk nB nC i) (hg : givesB i.op = true) (hu : 10 < i.op → 21 ≤ i.op) (w : World) (hmb : mb < w.heap.size) (hsb : sb < w.heap.size) (hdb : db < w.heap.size) (hE : EndsIs K mb sb db w x rdA rdB wr G) :
    Calls Try.prog 83 #[.pointer (some ⟨mb, 0, none⟩), i.val, x.val] w fun e w' => (∃ F caps, e = .returned (.func (.func F) #[] caps) ∧ GiveSpec K mb sb db i rdA rdB w' F caps) ∧ Below w.heap.size w w' := by
  have HI : Hid (InsOk nB nC i) := hi
  have HG : Hid (givesB i.op = true) := hg
  have HB : Hid _ := box_new mb sb db i x w hmb hsb hdb
  have hbl := boxW_below mb i x w
  have HE : Hid (EndsIs K mb sb db (boxW mb i x w) x rdA rdB wr G) := hE.later (Kept.of_below hbl) hbl.size
  have HBL : Hid (Below w.heap.size w (boxW mb i x w)) := hbl
  have HU : Hid (10 < i.op → 21 ≤ i.op) := hu
  clear hi hg hu hE hbl
  unfold LIns.val EndF.val
  go_enter Try.func83, Try.ntmps83
  go_wp2
  all_goals
    go_ret
    refine ⟨⟨_, _, rfl, ?_⟩, HBL.out⟩
    have hg := HG.out
    have hu := HU.out
    unfold givesB at hg
    simp at hg
  · exact spec1 HB.out HI.out (by simp_all)
  · exact specM HE.out (by simp_all)
  · exact spec2 HB.out (by simp_all)
  · exact spec3 HB.out HE.out (by simp_all)
  · exact spec4 HB.out HE.out (by simp_all)
  · exact spec5 HB.out HE.out (by simp_all)
  · exact spec6 HB.out HE.out HI.out (by simp_all)
  · have := HI.out.p0
    exact spec7 HB.out HE.out (by simp_all; omega)
end
end Go.Proofs.Ytolhnlbgohobkaa.form
