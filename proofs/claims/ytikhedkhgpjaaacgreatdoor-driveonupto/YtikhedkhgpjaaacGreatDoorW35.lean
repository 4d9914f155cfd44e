/- What the closures give that the program's machine makes of an instruction that has a Dest, whatever its ends. -/
import Derived.Laws.EntriesVeiled
import Derived.Deep.AppendLies
import Derived.Test.YtikhedkhgpjaaacGreatDoorW34

namespace Go.Proofs.YtikhedkhgpjaaacGreatDoor
set_option linter.unusedVariables false
namespace form
open Go.RowKit num
set_option maxRecDepth 100000
attribute [local go_sem ↓] Go.wp_at_zero Go.wp_at_succ
section
variable {K : StoK} {mb sb db base bm bi be : Nat} {s : K.S} {ov : Value} {l : List Int} {st k : Int} {iv : Value} {I : List Int} {pc : Int} {i : LIns} {x : EndF} {w : World}
theorem giv1 (hb : Box mb sb db bm bi be i x w) (hn0 : 0 ≤ i.n) (hn1 : i.n < 4294967296) :
    Calls Tryz.prog 87 #[.pointer (some ⟨bi, 0, none⟩)] w fun e w' => e = .returned (.int .u64 i.n) ∧ Below w.heap.size w w' := by
  have c5 := hb.i5
  have e5 := wrap64_of i.n hn0 (by omega)
  clear hb
  go_enter Tryz.func87, Tryz.ntmps87
  go_wp2
  go_ret
  exact ⟨rfl, Below.refl _ _⟩
theorem takeIn (hm : MS K mb sb base s ov l st k iv I pc w) :
    Calls Tryz.prog 89 #[.pointer (some ⟨mb, 0, none⟩)] w fun e w' => e = .returned (.int .u32 (I.headD 0)) ∧ (∃ iv', MS K mb sb base s ov l st k iv' I.tail pc w') ∧ Ran mb sb base w w' := by
  have HM : Hid (MS K mb sb base s ov l st k iv I pc w) := hm
  obtain ⟨ai, cap, rfl, hcap, h40, hbd, hc⟩ := hm.ins
  have ci := hm.civ
  have fz := hm.fz 3
  have hlt := hm.lt
  have hsz := hm.sz
  clear hm
  cases I with
  | nil =>
    clear hc hbd
    go_enter Tryz.func89, Tryz.ntmps89
    go_wp2
    go_ret
    exact ⟨rfl, ⟨_, HM.out⟩, Ran.refl _ _ _ _⟩
  | cons y R =>
    obtain ⟨b, o, rfl, hb1, hb2, hb3, hcell⟩ := hc (by simp)
    have c0 := hcell 0 (by simp)
    have HC : Hid _ := hcell
    have HBD : Hid _ := hbd
    simp at c0
    clear hc hcell hbd
    go_enter Tryz.func89, Tryz.ntmps89
    go_wp2
    all_goals
      go_ret
      refine ⟨rfl, ⟨_, HM.out.setIns ?_⟩, (Ran.refl _ _ _ _).set _ _⟩
    · refine ⟨_, 0, rfl, by simp at hcap; omega, by simp at h40; omega, fun j hj => by simp at hcap; omega, fun h0 => by simp at hcap; omega⟩
    · refine ⟨_, cap - 1, rfl, by simp at hcap; omega, by simp at h40; omega, fun j hj => ?_, fun h0 => ⟨b, o + 1, rfl, hb1, hb2, hb3, fun j hj => ?_⟩⟩
      · have := HBD.out (j + 1) (by simp; omega)
        simpa using this
      · have := HC.out (j + 1) (by simp; omega)
        rw [show o + 1 + j = o + (j + 1) by omega]
        simpa using this
theorem head_bd (hm : MS K mb sb base s ov l st k iv I pc w) : 0 ≤ I.headD 0 ∧ I.headD 0 < 4294967296 := by
  obtain ⟨ai, cap, -, -, -, hbd, -⟩ := hm.ins
  cases I with
  | nil => simp
  | cons y R => have := hbd 0 (by simp); simpa using this
theorem giv2 (hb : Box mb sb db bm bi be i x w) (hm : MS K mb sb base s ov l st k iv I pc w) :
    Calls Tryz.prog 88 #[.pointer (some ⟨bm, 0, none⟩)] w fun e w' => e = .returned (.int .u64 (I.headD 0)) ∧ (∃ iv', MS K mb sb base s ov l st k iv' I.tail pc w') ∧ Ran mb sb base w w' := by
  have cm := hb.pm
  have HM : Hid (MS K mb sb base s ov l st k iv I pc w) := hm
  obtain ⟨y, hy⟩ : ∃ y, y = I.headD 0 := ⟨_, rfl⟩
  have hy2 : 0 ≤ y ∧ y < 4294967296 := by rw [hy]; exact head_bd hm
  have e5 := wrap64_of y hy2.1 (by omega)
  have HX : Hid (y = I.headD 0) := hy
  rw [← hy]
  clear hm hb hy hy2
  go_enter Tryz.func88, Tryz.ntmps88
  go_wp2_with (go_at_call 89; refine (takeIn HM.out).mono ?_; rw [← HX.out]; rintro e w1 ⟨rfl, hr1, hr2⟩)
  go_ret
  exact ⟨rfl, hr1, hr2⟩
end
end form
/- What the closures give of what their ends tell. -/
namespace form
open Go.RowKit num
set_option maxRecDepth 100000
attribute [local go_sem ↓] Go.wp_at_zero Go.wp_at_succ
structure RdAt (w : World) (F : Nat) (caps : Array Value) (a : Int) : Prop where
  ent : ∀ w, Sem.run Tryz.prog (callFunc F caps) w = .ok (.enter F caps) w
  bd : U64i a
  call : ∀ w2, Below w.heap.size w w2 → Calls Tryz.prog F caps w2 fun e w' => e = .returned (.int .u64 a) ∧ Below w2.heap.size w2 w'
theorem ReadSpec.rd {K : StoK} {mb sb db base : Nat} {w1 w : World} {F : Nat} {caps : Array Value} {rd : K.S → Int} {s : K.S} {ov : Value} {l : List Int} {st k : Int} {iv : Value} {I : List Int} {pc : Int}
    (h : ReadSpec K mb sb db w1 F caps rd) (hk : Kept mb sb db w1 w) (hz : w1.heap.size ≤ w.heap.size) (hm : MS K mb sb base s ov l st k iv I pc w) : RdAt w F caps (rd s) :=
  ⟨h.1, h.2.1 s hm.ok, fun w2 hb => h.2.2 s w2 (hk.thenBelow hz hb) (Nat.le_trans hz hb.size) (hm.sto.below hb) hm.ok⟩
section
variable {mb sb db bm bi be : Nat} {i : LIns} {x : EndF} {w : World} {a b : Int}
theorem giv3 (hb : Box mb sb db bm bi be i x w) (hA : RdAt w x.fa x.ca a) (hB : RdAt w x.fb x.cb b) (hn : a < 4294967296) :
    Calls Tryz.prog 90 #[.pointer (some ⟨be, 0, none⟩)] w fun e w' => e = .returned (.int .u64 (IntKind.u64.wrap (IntKind.u64.wrap (b * 4294967296) + a))) ∧ Below w.heap.size w w' := by
  have c0 := hb.e0
  have c1 := hb.e1
  have ua := hA.bd
  have ub := hB.bd
  have enA := hA.ent
  have enB := hB.ent
  have HA : Hid _ := hA.call
  have HB : Hid _ := hB.call
  have HE : Hid (bits BinOp.or IntKind.u64 (IntKind.u64.wrap (b * 4294967296)) a = IntKind.u64.wrap (IntKind.u64.wrap (b * 4294967296) + a)) := pair_of a b ua.1 hn ub
  clear hb hA hB ua ub
  go_enter Tryz.func90, Tryz.ntmps90
  go_wp2
  go_region_held3 (fun w' => Below w.heap.size w w' ∧ w'.cell? ⟨be, 0, none⟩ = some (.func (.func x.fa) #[] x.ca) ∧ w'.cell? ⟨be, 1, none⟩ = some (.func (.func x.fb) #[] x.cb))
    ((go_split_ands; refine ⟨?_, ?_, ?_⟩ <;> first | exact step_below hbc (by assumption) | exact step_cell hbc (by assumption) | exact (Below.refl _ _).drew | (go_keep; done) | assumption))
    (first
      | (refine (HB.out _ ?_).mono ?_; (go_split_ands; first | assumption | exact (Below.refl _ _).drew); rintro e w1 ⟨rfl, hbc⟩)
      | (refine (HA.out _ ?_).mono ?_; (go_split_ands; first | assumption | exact (Below.refl _ _).drew); rintro e w1 ⟨rfl, hbc⟩))
  go_wp2
  go_ret
  exact ⟨ret_int HE.out, by (go_split_ands; assumption)⟩
theorem giv4 (hb : Box mb sb db bm bi be i x w) (hA : RdAt w x.fa x.ca a) :
    Calls Tryz.prog 91 #[.pointer (some ⟨be, 0, none⟩)] w fun e w' => e = .returned (.int .u64 (a % 4294967296)) ∧ Below w.heap.size w w' := by
  have c0 := hb.e0
  have ua := hA.bd
  have enA := hA.ent
  have HA : Hid _ := hA.call
  clear hb hA
  go_enter Tryz.func91, Tryz.ntmps91
  go_wp2_with fail
  refine (HA.out _ (Below.refl _ _)).mono ?_
  rintro e w1 ⟨rfl, hbc⟩
  go_wp2
  go_ret
  exact ⟨rfl, hbc⟩
theorem giv5 (hb : Box mb sb db bm bi be i x w) (hA : RdAt w x.fa x.ca a) :
    Calls Tryz.prog 92 #[.pointer (some ⟨be, 0, none⟩)] w fun e w' => e = .returned (.int .u64 (a / 4294967296)) ∧ Below w.heap.size w w' := by
  have c0 := hb.e0
  have ua := hA.bd
  have enA := hA.ent
  have HA : Hid _ := hA.call
  clear hb hA
  go_enter Tryz.func92, Tryz.ntmps92
  go_wp2_with fail
  refine (HA.out _ (Below.refl _ _)).mono ?_
  rintro e w1 ⟨rfl, hbc⟩
  go_wp2
  go_ret
  exact ⟨rfl, hbc⟩
theorem wrapI_of (x : Int) (h0 : -9223372036854775808 ≤ x) (h1 : x ≤ 9223372036854775807) : IntKind.i64.wrap x = x := by
  simp [IntKind.wrap, IntKind.bits, IntKind.signed]
  split <;> omega
theorem u32_wrap (x : Int) : IntKind.u32.wrap x = x % 4294967296 := by simp [IntKind.wrap, IntKind.bits, IntKind.signed]
theorem giv6 (hb : Box mb sb db bm bi be i x w) (hA : RdAt w x.fa x.ca a) (hB : RdAt w x.fb x.cb b) (ho0 : 1 ≤ i.op) (ho1 : i.op ≤ 45) :
    Calls Tryz.prog 93 #[.pointer (some ⟨bi, 0, none⟩), .pointer (some ⟨be, 0, none⟩)] w fun e w' => e = .returned (.int .u64 (opR .u64 (i.op - 40) a b)) ∧ Below w.heap.size w w' := by
  have c0 := hb.e0
  have c1 := hb.e1
  have ci := hb.i0
  have ua := hA.bd
  have ub := hB.bd
  have enA := hA.ent
  have enB := hB.ent
  have HA : Hid _ := hA.call
  have HB : Hid _ := hB.call
  have HW : Hid (IntKind.i64.wrap (i.op - 40) = i.op - 40) := wrapI_of _ (by omega) (by omega)
  clear hb hA hB
  go_enter Tryz.func93, Tryz.ntmps93
  go_wp2
  go_region_held3 (fun w' => Below w.heap.size w w' ∧ w'.cell? ⟨be, 0, none⟩ = some (.func (.func x.fa) #[] x.ca) ∧ w'.cell? ⟨be, 1, none⟩ = some (.func (.func x.fb) #[] x.cb) ∧ w'.cell? ⟨bi, 0, none⟩ = some (.int .i64 i.op))
    ((go_split_ands; refine ⟨?_, ?_, ?_, ?_⟩ <;> first | exact step_below hbc (by assumption) | exact step_cell hbc (by assumption) | exact (Below.refl _ _).drew | (go_keep; done) | assumption))
    (first
      | (refine (HB.out _ ?_).mono ?_; (go_split_ands; first | assumption | exact (Below.refl _ _).drew); rintro e w1 ⟨rfl, hbc⟩)
      | (refine (HA.out _ ?_).mono ?_; (go_split_ands; first | assumption | exact (Below.refl _ _).drew); rintro e w1 ⟨rfl, hbc⟩)
      | (go_at_call 94; refine (wide _ _ _ _).mono ?_; rintro e w1 ⟨rfl, hw1⟩; subst hw1; have hbc := Below.refl w1.heap.size w1))
  go_wp2
  go_ret
  exact ⟨ret_int (by rw [HW.out]), by (go_split_ands; assumption)⟩
theorem giv7 (hb : Box mb sb db bm bi be i x w) (hA : RdAt w x.fa x.ca a) (hB : RdAt w x.fb x.cb b) (ho0 : 1 ≤ i.op) (ho1 : i.op ≤ 45) :
    Calls Tryz.prog 95 #[.pointer (some ⟨bi, 0, none⟩), .pointer (some ⟨be, 0, none⟩)] w fun e w' => e = .returned (.int .u64 (opR .u32 (i.op - 20) (a % 4294967296) (b % 4294967296))) ∧ Below w.heap.size w w' := by
  have c0 := hb.e0
  have c1 := hb.e1
  have ci := hb.i0
  have ua := hA.bd
  have ub := hB.bd
  have enA := hA.ent
  have enB := hB.ent
  have HA : Hid _ := hA.call
  have HB : Hid _ := hB.call
  have ob := opR_u32_bd (i.op - 20) a b
  have HO : Hid (IntKind.u64.wrap (opR .u32 (i.op - 20) (a % 4294967296) (b % 4294967296)) = opR .u32 (i.op - 20) (a % 4294967296) (b % 4294967296)) := wrap64_of _ ob.1 (by omega)
  have HW : Hid (IntKind.i64.wrap (i.op - 20) = i.op - 20) := wrapI_of _ (by omega) (by omega)
  clear hb hA hB ob
  go_enter Tryz.func95, Tryz.ntmps95
  go_wp2
  go_region_held3 (fun w' => Below w.heap.size w w' ∧ w'.cell? ⟨be, 0, none⟩ = some (.func (.func x.fa) #[] x.ca) ∧ w'.cell? ⟨be, 1, none⟩ = some (.func (.func x.fb) #[] x.cb) ∧ w'.cell? ⟨bi, 0, none⟩ = some (.int .i64 i.op))
    ((go_split_ands; refine ⟨?_, ?_, ?_, ?_⟩ <;> first | exact step_below hbc (by assumption) | exact step_cell hbc (by assumption) | exact (Below.refl _ _).drew | (go_keep; done) | assumption))
    (first
      | (refine (HB.out _ ?_).mono ?_; (go_split_ands; first | assumption | exact (Below.refl _ _).drew); rintro e w1 ⟨rfl, hbc⟩)
      | (refine (HA.out _ ?_).mono ?_; (go_split_ands; first | assumption | exact (Below.refl _ _).drew); rintro e w1 ⟨rfl, hbc⟩)
      | (go_at_call 96; refine (narrow _ _ _ _).mono ?_; rintro e w1 ⟨rfl, hw1⟩; subst hw1; have hbc := Below.refl w1.heap.size w1))
  go_wp2
  go_ret
  exact ⟨ret_int (by rw [HW.out, u32_wrap, u32_wrap, HO.out]), by (go_split_ands; assumption)⟩
end
end form
/- What the program's machine makes of an instruction that has a Dest: a closure that gives what the instruction gives, whenever it is called. -/
namespace form
open Go.RowKit num
set_option maxRecDepth 100000
attribute [local go_sem ↓] Go.wp_at_zero Go.wp_at_succ
section
variable {K : StoK} {mb sb db bm bi be nB nC : Nat} {i : LIns} {x : EndF} {w1 : World} {rdA rdB : K.S → Int} {wr : K.S → Int → K.S} {G : Prop}
theorem give_below {base : Nat} {s : K.S} {ov : Value} {l : List Int} {st k : Int} {iv : Value} {I : List Int} {pc : Int} {w w' : World} (hm : MS K mb sb base s ov l st k iv I pc w) (hb : Below w.heap.size w w') (h3 : ¬ i.op = 3) : (∃ iv', MS K mb sb base s ov l st k iv' (if i.op = 3 then I.tail else I) pc w') ∧ Ran mb sb base w w' :=
  ⟨⟨iv, by rw [if_neg h3]; exact hm.below hb⟩, Ran.of_below hm.sz hb⟩
theorem spec1 (hb : Box mb sb db bm bi be i x w1) (hi : InsOk nB nC i) (ho : i.op = 1) : GiveSpec K mb sb db i rdA rdB w1 87 #[.pointer (some ⟨bi, 0, none⟩)] := by
  refine ⟨fun w => rfl, ?_⟩
  intro base s ov l st k iv I pc w hk hz hm h5
  refine (giv1 (hb.kept hk) hi.n0 hi.n1).mono ?_
  rintro e w' ⟨rfl, hbl⟩
  exact ⟨ret_int (by unfold gvI; rw [if_pos ho]), give_below hm hbl (by omega)⟩
theorem specM (hE : EndsIs K mb sb db w1 x rdA rdB wr G) (ho : i.op = 2) : GiveSpec K mb sb db i rdA rdB w1 x.fa x.ca := by
  refine ⟨hE.a.1, ?_⟩
  intro base s ov l st k iv I pc w hk hz hm h5
  refine ((hE.a.rd hk hz hm).call w (Below.refl _ _)).mono ?_
  rintro e w' ⟨rfl, hbl⟩
  exact ⟨ret_int (by unfold gvI; rw [if_neg (by omega), if_pos ho]), give_below hm hbl (by omega)⟩
theorem spec2 (hb : Box mb sb db bm bi be i x w1) (ho : i.op = 3) : GiveSpec K mb sb db i rdA rdB w1 88 #[.pointer (some ⟨bm, 0, none⟩)] := by
  refine ⟨fun w => rfl, ?_⟩
  intro base s ov l st k iv I pc w hk hz hm h5
  refine (giv2 (hb.kept hk) hm).mono ?_
  rintro e w' ⟨rfl, hms, hr⟩
  exact ⟨ret_int (by unfold gvI; rw [if_neg (by omega), if_neg (by omega), if_pos ho]), by rw [if_pos ho]; exact hms, hr⟩
theorem spec3 (hb : Box mb sb db bm bi be i x w1) (hE : EndsIs K mb sb db w1 x rdA rdB wr G) (ho : i.op = 5) : GiveSpec K mb sb db i rdA rdB w1 90 #[.pointer (some ⟨be, 0, none⟩)] := by
  refine ⟨fun w => rfl, ?_⟩
  intro base s ov l st k iv I pc w hk hz hm h5
  refine (giv3 (hb.kept hk) (hE.a.rd hk hz hm) (hE.b.rd hk hz hm) (h5 ho)).mono ?_
  rintro e w' ⟨rfl, hbl⟩
  exact ⟨ret_int (by unfold gvI; rw [if_neg (by omega), if_neg (by omega), if_neg (by omega), if_pos ho]), give_below hm hbl (by omega)⟩
theorem spec4 (hb : Box mb sb db bm bi be i x w1) (hE : EndsIs K mb sb db w1 x rdA rdB wr G) (ho : i.op = 6) : GiveSpec K mb sb db i rdA rdB w1 91 #[.pointer (some ⟨be, 0, none⟩)] := by
  refine ⟨fun w => rfl, ?_⟩
  intro base s ov l st k iv I pc w hk hz hm h5
  refine (giv4 (hb.kept hk) (hE.a.rd hk hz hm)).mono ?_
  rintro e w' ⟨rfl, hbl⟩
  exact ⟨ret_int (by unfold gvI; rw [if_neg (by omega), if_neg (by omega), if_neg (by omega), if_neg (by omega), if_pos ho]), give_below hm hbl (by omega)⟩
theorem spec5 (hb : Box mb sb db bm bi be i x w1) (hE : EndsIs K mb sb db w1 x rdA rdB wr G) (ho : i.op = 7) : GiveSpec K mb sb db i rdA rdB w1 92 #[.pointer (some ⟨be, 0, none⟩)] := by
  refine ⟨fun w => rfl, ?_⟩
  intro base s ov l st k iv I pc w hk hz hm h5
  refine (giv5 (hb.kept hk) (hE.a.rd hk hz hm)).mono ?_
  rintro e w' ⟨rfl, hbl⟩
  exact ⟨ret_int (by unfold gvI; rw [if_neg (by omega), if_neg (by omega), if_neg (by omega), if_neg (by omega), if_neg (by omega), if_pos ho]), give_below hm hbl (by omega)⟩
theorem spec6 (hb : Box mb sb db bm bi be i x w1) (hE : EndsIs K mb sb db w1 x rdA rdB wr G) (hi : InsOk nB nC i) (ho : 40 < i.op) : GiveSpec K mb sb db i rdA rdB w1 93 #[.pointer (some ⟨bi, 0, none⟩), .pointer (some ⟨be, 0, none⟩)] := by
  refine ⟨fun w => rfl, ?_⟩
  intro base s ov l st k iv I pc w hk hz hm h5
  have p1 := hi.p1
  refine (giv6 (hb.kept hk) (hE.a.rd hk hz hm) (hE.b.rd hk hz hm) (by omega) (by omega)).mono ?_
  rintro e w' ⟨rfl, hbl⟩
  exact ⟨ret_int (by unfold gvI; rw [if_neg (by omega), if_neg (by omega), if_neg (by omega), if_neg (by omega), if_neg (by omega), if_neg (by omega), if_pos ho]), give_below hm hbl (by omega)⟩
theorem spec7 (hb : Box mb sb db bm bi be i x w1) (hE : EndsIs K mb sb db w1 x rdA rdB wr G) (ho : 10 < i.op ∧ i.op ≤ 40) : GiveSpec K mb sb db i rdA rdB w1 95 #[.pointer (some ⟨bi, 0, none⟩), .pointer (some ⟨be, 0, none⟩)] := by
  refine ⟨fun w => rfl, ?_⟩
  intro base s ov l st k iv I pc w hk hz hm h5
  refine (giv7 (hb.kept hk) (hE.a.rd hk hz hm) (hE.b.rd hk hz hm) (by omega) (by omega)).mono ?_
  rintro e w' ⟨rfl, hbl⟩
  exact ⟨ret_int (by unfold gvI; rw [if_neg (by omega), if_neg (by omega), if_neg (by omega), if_neg (by omega), if_neg (by omega), if_neg (by omega), if_neg (by omega)]), give_below hm hbl (by omega)⟩
def boxW (mb : Nat) (i : LIns) (x : EndF) (w : World) : World :=
  ((w.alloc (.cells #[.pointer (some ⟨mb, 0, none⟩)] 80)).alloc (.cells #[.int .i64 i.op, .int .i64 i.dest, .int .i64 i.a, .int .i64 i.b, .int .i64 i.c, .int .u32 i.n] 74)).alloc (.cells #[.func (.func x.fa) #[] x.ca, .func (.func x.fb) #[] x.cb, .func (.func x.fd) #[] #[x.d1, x.d2]] 91)
theorem boxW_below (mb : Nat) (i : LIns) (x : EndF) (w : World) : Below w.heap.size w (boxW mb i x w) := (((Below.refl _ _).alloc (Nat.le_refl _) _).alloc (by simp) _).alloc (by simp; omega) _
theorem boxW_size (mb : Nat) (i : LIns) (x : EndF) (w : World) : (boxW mb i x w).heap.size = w.heap.size + 3 := by simp [boxW]
theorem box_new (mb sb db : Nat) (i : LIns) (x : EndF) (w : World) (hmb : mb < w.heap.size) (hsb : sb < w.heap.size) (hdb : db < w.heap.size) : Box mb sb db w.heap.size (w.heap.size + 1) (w.heap.size + 1 + 1) i x (boxW mb i x w) := by
  refine ⟨?_, ?_, ?_, ?_, ?_, ?_, ?_, by omega, by omega, by omega, by omega, by omega, by omega, by omega, by omega, by omega⟩ <;> simp [go_sem, boxW]
def EndF.val (x : EndF) : Value := .agg #[.func (.func x.fa) #[] x.ca, .func (.func x.fb) #[] x.cb, .func (.func x.fd) #[] #[x.d1, x.d2]]
theorem giving (hi : InsOk nB nC i) (hg : givesB i.op = true) (hu : 10 < i.op → 21 ≤ i.op) (w : World) (hmb : mb < w.heap.size) (hsb : sb < w.heap.size) (hdb : db < w.heap.size) (hE : EndsIs K mb sb db w x rdA rdB wr G) :
    Calls Tryz.prog 59 #[.pointer (some ⟨mb, 0, none⟩), i.val, x.val] w fun e w' => (∃ F caps, e = .returned (.func (.func F) #[] caps) ∧ GiveSpec K mb sb db i rdA rdB w' F caps) ∧ Below w.heap.size w w' := by
  have HI : Hid (InsOk nB nC i) := hi
  have HG : Hid (givesB i.op = true) := hg
  have HB : Hid _ := box_new mb sb db i x w hmb hsb hdb
  have hbl := boxW_below mb i x w
  have HE : Hid (EndsIs K mb sb db (boxW mb i x w) x rdA rdB wr G) := hE.later (Kept.of_below hbl) hbl.size
  have HBL : Hid (Below w.heap.size w (boxW mb i x w)) := hbl
  have HU : Hid (10 < i.op → 21 ≤ i.op) := hu
  clear hi hg hu hE hbl
  unfold LIns.val EndF.val
  go_enter Tryz.func59, Tryz.ntmps59
  go_wp2
  all_goals
    go_ret
    refine ⟨⟨_, _, rfl, ?_⟩, HBL.out⟩
    have hg := HG.out
    have hu := HU.out
    unfold givesB at hg
    simp at hg
  · exact spec1 HB.out HI.out (by simp_all)
  · exact specM HE.out (by simp_all)
  · exact spec2 HB.out (by simp_all)
  · exact spec3 HB.out HE.out (by simp_all)
  · exact spec4 HB.out HE.out (by simp_all)
  · exact spec5 HB.out HE.out (by simp_all)
  · exact spec6 HB.out HE.out HI.out (by simp_all)
  · have := HI.out.p0
    exact spec7 HB.out HE.out (by simp_all; omega)
end
end form
/- What the closures do that the program's machine makes of an instruction, whatever its ends: a step's deed on the machine. -/
namespace form
open Go.RowKit num
set_option maxRecDepth 100000
attribute [local go_sem ↓] Go.wp_at_zero Go.wp_at_succ
section
variable {K : StoK} {mb sb db base bm bi be : Nat} {s : K.S} {ov : Value} {l : List Int} {st k : Int} {iv : Value} {I : List Int} {pc : Int} {i : LIns} {x : EndF} {w : World} {rdA rdB : K.S → Int} {wr : K.S → Int → K.S}
theorem act_none (hg : ¬ givesB i.op = true) (y : Int) : (plainE rdA rdB wr).act i s y = s := by
  show (if givesB i.op = true then _ else _) = s
  rw [if_neg hg]; rfl
theorem deed2 (hb : Box mb sb db bm bi be i x w) (hm : MS K mb sb base s ov l st k iv I pc w) (ho : i.op = 8) :
    Calls Tryz.prog 56 #[.pointer (some ⟨bi, 0, none⟩), .pointer (some ⟨bm, 0, none⟩)] w fun e w' => e = .returned (.tuple #[]) ∧ Behind K mb sb base i (plainE rdA rdB wr) s l st k I pc w w' := by
  have cm := hb.pm
  have c4 := hb.i4
  have cp := hm.cpc
  have fz := hm.fz 4
  have HB : Hid (Behind K mb sb base i (plainE rdA rdB wr) s l st k I pc w (w.setCell ⟨mb, 4, none⟩ (.int .i64 i.c))) := by
    refine ⟨⟨ov, iv, ?_⟩, (Ran.refl _ _ _ _).set _ _⟩
    rw [act_none (by unfold givesB; simp [ho]), if_neg (by omega), if_neg (by omega), if_neg (by omega), if_pos (Or.inl ho)]
    exact hm.setPc i.c
  clear hm hb
  go_enter Tryz.func56, Tryz.ntmps56
  go_wp2
  go_end0
  exact ⟨rfl, HB.out⟩
theorem deed4 (hb : Box mb sb db bm bi be i x w) (hm : MS K mb sb base s ov l st k iv I pc w) (ho : i.op = 10) :
    Calls Tryz.prog 58 #[.pointer (some ⟨bm, 0, none⟩)] w fun e w' => e = .returned (.tuple #[]) ∧ Behind K mb sb base i (plainE rdA rdB wr) s l st k I pc w w' := by
  have cm := hb.pm
  have cp := hm.cst
  have fz := hm.fz 0
  have HB : Hid (Behind K mb sb base i (plainE rdA rdB wr) s l st k I pc w (w.setCell ⟨mb, 0, none⟩ (.int .i64 1))) := by
    refine ⟨⟨ov, iv, ?_⟩, (Ran.refl _ _ _ _).set _ _⟩
    rw [act_none (by unfold givesB; simp [ho]), if_neg (by omega), if_pos ho, if_neg (by omega), if_neg (by omega)]
    exact hm.setState 1
  clear hm hb
  go_enter Tryz.func58, Tryz.ntmps58
  go_wp2
  go_end0
  exact ⟨rfl, HB.out⟩
theorem deed3 (hb : Box mb sb db bm bi be i x w) (hm : MS K mb sb base s ov l st k iv I pc w) (ho : i.op = 9)
    (hent : ∀ w, Sem.run Tryz.prog (callFunc x.fa x.ca) w = .ok (.enter x.fa x.ca) w) (hc : ∀ w2, Below w.heap.size w w2 → Calls Tryz.prog x.fa x.ca w2 fun e w' => e = .returned (.int .u64 (rdA s)) ∧ Below w2.heap.size w2 w') :
    Calls Tryz.prog 57 #[.pointer (some ⟨be, 0, none⟩), .pointer (some ⟨bi, 0, none⟩), .pointer (some ⟨bm, 0, none⟩)] w fun e w' => e = .returned (.tuple #[]) ∧ Behind K mb sb base i (plainE rdA rdB wr) s l st k I pc w w' := by
  have ce := hb.e0
  have hg : ¬ givesB i.op = true := by unfold givesB; simp [ho]
  have HB1 : Hid (¬ rdA s = 0 → ∀ w1, Below w.heap.size w w1 → Behind K mb sb base i (plainE rdA rdB wr) s l st k I pc w (w1.setCell ⟨mb, 4, none⟩ (.int .i64 i.c))) := by
    intro h0 w1 hb1
    refine ⟨⟨ov, iv, ?_⟩, (Ran.of_below hm.sz hb1).set _ _⟩
    rw [act_none hg, if_neg (by omega), if_neg (by omega), if_neg (by omega), if_pos (Or.inr ⟨ho, h0⟩)]
    exact (hm.below hb1).setPc i.c
  have HB2 : Hid (rdA s = 0 → ∀ w1, Below w.heap.size w w1 → Behind K mb sb base i (plainE rdA rdB wr) s l st k I pc w w1) := by
    intro h0 w1 hb1
    refine ⟨⟨ov, iv, ?_⟩, (Ran.of_below hm.sz hb1)⟩
    rw [act_none hg, if_neg (by omega), if_neg (by omega), if_neg (by omega), if_neg (by show ¬ (i.op = 8 ∨ (i.op = 9 ∧ ¬ rdA s = 0)); rw [h0]; omega)]
    exact (hm.below hb1)
  have HM : Hid (MS K mb sb base s ov l st k iv I pc w) := hm
  have HBX : Hid (Box mb sb db bm bi be i x w) := hb
  have HC : Hid _ := hc
  generalize hae : rdA s = a at *
  clear hm hb hg hae hc
  go_enter Tryz.func57, Tryz.ntmps57
  go_wp2_with fail
  refine (HC.out _ (Below.refl _ _)).mono ?_
  rintro e w1 ⟨rfl, hb1⟩
  have cm := step_cell hb1 HBX.out.pm
  have c4 := step_cell hb1 HBX.out.i4
  have cp := (HM.out.below hb1).cpc
  have fz := (HM.out.below hb1).fz 4
  have HW : Hid (Below w.heap.size w w1) := hb1
  clear hb1
  go_wp2
  all_goals go_end0
  · exact ⟨rfl, HB1.out (by simp_all) _ HW.out⟩
  · exact ⟨rfl, HB2.out (by simp_all) _ HW.out⟩
theorem infU32 : (Tryz.prog.info? 60).map (fun i => (i.zero, i.size, i.bytes)) = some (some (.int .u32 0), 1, 4) := by kernel_rfl
end
end form
end Go.Proofs.YtikhedkhgpjaaacGreatDoor
