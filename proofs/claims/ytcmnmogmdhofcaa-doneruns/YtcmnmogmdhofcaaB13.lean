/- What the program's machine makes of an instruction: a closure that does what the instruction does, whatever its ends (Deed). -/
import Derived.Laws.EntriesVeiled
import Derived.Test.YtcmnmogmdhofcaaB12
import Derived.Test.YtcmnmogmdhofcaaB11
import Derived.Test.YtcmnmogmdhofcaaB06

namespace Go.Proofs.Ytcmnmogmdhofcaa.form
open Go.RowKit Go.Proofs.Ytcmnmogmdhofcaa.num
set_option linter.unusedVariables false
set_option maxRecDepth 100000
attribute [local go_sem ↓] Go.wp_at_zero Go.wp_at_succ

section
variable {K : StoK} {mb sb db bm bi be bg nB nC : Nat} {i : LIns} {x : EndF} {w1 : World} {rdA rdB : K.S → Int} {wr : K.S → Int → K.S} {G : Prop}

theorem dspec1 (hb : Box mb sb db bm bi be i x w1) (hE : EndsIs K mb sb db w1 x rdA rdB wr G) (ho : i.op = 4) : DeedSpec K mb sb db i (plainE rdA rdB wr) w1 80 #[.pointer (some ⟨bm, 0, none⟩), .pointer (some ⟨be, 0, none⟩)] := by
  refine ⟨fun w => rfl, ?_⟩
  intro base s ov l st k iv I pc w hk hz0 hm hz hl h5
  have z1 := World.block_lt_of_cell? w1 _ hb.pm
  have z2 := World.block_lt_of_cell? w1 _ hb.e0
  simp only at z1 z2
  exact deed1 (hb.kept hk) hm ho (hE.a.rd hk hz0 hm) hl (by omega) (by omega)

theorem dspec2 (hb : Box mb sb db bm bi be i x w1) (ho : i.op = 8) : DeedSpec K mb sb db i (plainE rdA rdB wr) w1 81 #[.pointer (some ⟨bi, 0, none⟩), .pointer (some ⟨bm, 0, none⟩)] := by
  refine ⟨fun w => rfl, ?_⟩
  intro base s ov l st k iv I pc w hk hz0 hm hz hl h5
  exact deed2 (hb.kept hk) hm ho

theorem dspec3 (hb : Box mb sb db bm bi be i x w1) (hE : EndsIs K mb sb db w1 x rdA rdB wr G) (ho : i.op = 9) : DeedSpec K mb sb db i (plainE rdA rdB wr) w1 82 #[.pointer (some ⟨be, 0, none⟩), .pointer (some ⟨bi, 0, none⟩), .pointer (some ⟨bm, 0, none⟩)] := by
  refine ⟨fun w => rfl, ?_⟩
  intro base s ov l st k iv I pc w hk hz0 hm hz hl h5
  have hA := hE.a.rd hk hz0 hm
  exact deed3 (hb.kept hk) hm ho hA.ent hA.call

theorem dspec4 (hb : Box mb sb db bm bi be i x w1) (ho : i.op = 10) : DeedSpec K mb sb db i (plainE rdA rdB wr) w1 83 #[.pointer (some ⟨bm, 0, none⟩)] := by
  refine ⟨fun w => rfl, ?_⟩
  intro base s ov l st k iv I pc w hk hz0 hm hz hl h5
  exact deed4 (hb.kept hk) hm ho

theorem dspec5 {w0 : World} {F : Nat} {caps : Array Value} (hb : Box mb sb db bm bi be i x w1) (hi : InsOk nB nC i) (hE : EndsIs K mb sb db w1 x rdA rdB wr G) (hG : G) (hg : givesB i.op = true) (hs : GiveSpec K mb sb db i rdA rdB w0 F caps) (h01 : Kept mb sb db w0 w1) (hz01 : w0.heap.size ≤ w1.heap.size)
    (cg : w1.cell? ⟨bg, 0, none⟩ = some (.func (.func F) #[] caps)) (hng : bg ≠ mb) (hns : bg ≠ sb) (hnd : bg ≠ db) :
    DeedSpec K mb sb db i (plainE rdA rdB wr) w1 85 #[.pointer (some ⟨be, 0, none⟩), .pointer (some ⟨bg, 0, none⟩)] := by
  refine ⟨fun w => rfl, ?_⟩
  intro base s ov l st k iv I pc w hk hz0 hm hz hl h5
  have z2 := World.block_lt_of_cell? w1 _ hb.e2
  have z3 := World.block_lt_of_cell? w1 _ cg
  simp only at z2 z3
  have hx := head_bd hm
  have hgv : U64i (gvI i (rdA s) (rdB s) (I.headD 0)) := gvI_bd _ _ _ _ (hE.a.2.1 s hm.ok) (hE.b.2.1 s hm.ok) hx.1 hx.2 hi.n0 hi.n1
  refine deed5 F caps hs.1 (hb.kept hk) (hk.cell cg hng hns hnd) hng hns hm hg (by omega) (by omega) (fun w2 hw2 => ?_) (hE.d hG).1 (fun w2 iv' hr2 hm2 => ?_)
  · exact hs.2 base s ov l st k iv I pc w2 ((h01.trans hz01 hk).thenBelow (by omega) hw2) (Nat.le_trans hz01 (Nat.le_trans hz0 hw2.size)) (hm.below hw2) h5
  · have hk2 : Kept mb sb db w1 w2 := hk.ran hz hr2
    refine ((hE.d hG).2.2 s _ w2 hk2 (by have := hm2.sz; omega) hm2.sto hm2.ok hgv).mono ?_
    rintro e w' ⟨rfl, hrow, hon⟩
    exact ⟨rfl, hm2.wrote hrow ((hE.d hG).2.1 s _ hm2.ok hgv) hon, hon.ran hm2.sz⟩

theorem deed (hi : InsOk nB nC i) (hu : 10 < i.op → 21 ≤ i.op) (w : World) (hmb : mb < w.heap.size) (hsb : sb < w.heap.size) (hdb : db < w.heap.size) (hE : EndsIs K mb sb db w x rdA rdB wr (givesB i.op = true)) :
    Calls Try.prog 44 #[.pointer (some ⟨mb, 0, none⟩), i.val, x.val] w fun e w' => (∃ F caps, e = .returned (.func (.func F) #[] caps) ∧ DeedSpec K mb sb db i (plainE rdA rdB wr) w' F caps) ∧ Below w.heap.size w w' := by
  have HI : Hid (InsOk nB nC i) := hi
  have HB : Hid _ := box_new mb sb db i x w hmb hsb hdb
  have hbl := boxW_below mb i x w
  have HE : Hid (EndsIs K mb sb db (boxW mb i x w) x rdA rdB wr (givesB i.op = true)) := hE.later (Kept.of_below hbl) hbl.size
  have HBL : Hid (Below w.heap.size w (boxW mb i x w)) := hbl
  have HU : Hid (10 < i.op → 21 ≤ i.op) := hu
  clear hi hu hE hbl
  rcases (show (i.op == 4) = true ∨ ((i.op == 4) = false ∧ (i.op == 8) = true) ∨ ((i.op == 4) = false ∧ (i.op == 8) = false ∧ (i.op == 9) = true) ∨ ((i.op == 4) = false ∧ (i.op == 8) = false ∧ (i.op == 9) = false ∧ (i.op == 10) = true) ∨ ((i.op == 4) = false ∧ (i.op == 8) = false ∧ (i.op == 9) = false ∧ (i.op == 10) = false) by cases (i.op == 4) <;> cases (i.op == 8) <;> cases (i.op == 9) <;> cases (i.op == 10) <;> simp) with e1 | ⟨e1, e2⟩ | ⟨e1, e2, e3⟩ | ⟨e1, e2, e3, e4⟩ | ⟨e1, e2, e3, e4⟩
  · unfold LIns.val EndF.val
    go_enter Try.func44, Try.ntmps44
    go_wp2
    go_ret
    exact ⟨⟨_, _, rfl, dspec1 HB.out HE.out (by simpa using e1)⟩, HBL.out⟩
  · unfold LIns.val EndF.val
    go_enter Try.func44, Try.ntmps44
    go_wp2
    go_ret
    exact ⟨⟨_, _, rfl, dspec2 HB.out (by simpa using e2)⟩, HBL.out⟩
  · unfold LIns.val EndF.val
    go_enter Try.func44, Try.ntmps44
    go_wp2
    go_ret
    exact ⟨⟨_, _, rfl, dspec3 HB.out HE.out (by simpa using e3)⟩, HBL.out⟩
  · unfold LIns.val EndF.val
    go_enter Try.func44, Try.ntmps44
    go_wp2
    go_ret
    exact ⟨⟨_, _, rfl, dspec4 HB.out (by simpa using e4)⟩, HBL.out⟩
  · have hg : givesB i.op = true := by unfold givesB; simp_all
    have HG : Hid (givesB i.op = true) := hg
    have HGI : Hid (Calls Try.prog 84 #[.pointer (some ⟨mb, 0, none⟩), i.val, x.val] (boxW mb i x w) fun e w' => (∃ F caps, e = .returned (.func (.func F) #[] caps) ∧ GiveSpec K mb sb db i rdA rdB w' F caps) ∧ Below (boxW mb i x w).heap.size (boxW mb i x w) w') :=
      giving HI.out hg HU.out (boxW mb i x w) (by rw [boxW_size]; omega) (by rw [boxW_size]; omega) (by rw [boxW_size]; omega) HE.out
    clear hg
    unfold LIns.val EndF.val
    go_enter Try.func44, Try.ntmps44
    go_wp2_with fail
    go_at_call 84
    refine Calls.mono HGI.out ?_
    rintro e w2 ⟨⟨F, caps, rfl, hgs⟩, hb2⟩
    have HGS : Hid (GiveSpec K mb sb db i rdA rdB w2 F caps) := hgs
    have HB2 : Hid (Below (boxW mb i x w).heap.size (boxW mb i x w) w2) := hb2
    have hz2 : w.heap.size + 3 ≤ w2.heap.size := by have := hb2.size; rw [boxW_size] at this; exact this
    clear hgs hb2
    go_wp2
    go_ret
    have hb3 : Below w2.heap.size w2 (w2.alloc (Obj.cells #[Value.func (Fn.func F) #[] caps] 77)) := (Below.refl _ _).alloc (Nat.le_refl _) _
    have hk2 : Kept mb sb db (boxW mb i x w) (w2.alloc (Obj.cells #[Value.func (Fn.func F) #[] caps] 77)) := Kept.of_below (step_below hb3 HB2.out)
    refine ⟨⟨_, _, rfl, dspec5 (w0 := w2) (HB.out.kept hk2) HI.out (HE.out.later hk2 (step_below hb3 HB2.out).size) HG.out HG.out HGS.out (Kept.of_below hb3) hb3.size (by simp [go_sem]) (by omega) (by omega) (by omega)⟩, ?_⟩
    exact step_below hb3 (step_below HB2.out HBL.out)
end
end Go.Proofs.Ytcmnmogmdhofcaa.form

/- The ends of an instruction in its places, and its deed between its moves (package done): ends and between with their closures. -/
namespace Go.Proofs.Ytcmnmogmdhofcaa.form
open Go.RowKit Go.Proofs.Ytcmnmogmdhofcaa.num
set_option linter.unusedVariables false
set_option maxRecDepth 100000
attribute [local go_sem ↓] Go.wp_at_zero Go.wp_at_succ

/-- A row of places as a value; its lists of moves in memory. -/
def rowW (r : LRow) (vb va : Value) : Value := .agg #[.int .i64 r.dest.kind, .int .i64 r.dest.n, .int .i64 r.a.kind, .int .i64 r.a.n, .int .i64 r.b.kind, .int .i64 r.b.n, vb, va]
def rowCs (r : LRow) (vb va : Value) : Array Value := #[.int .i64 r.dest.kind, .int .i64 r.dest.n, .int .i64 r.a.kind, .int .i64 r.a.n, .int .i64 r.b.kind, .int .i64 r.b.n, vb, va]

/-- The variables that are caught: the store's pointer, the row. -/
structure RBox (mb sb db bs br : Nat) (r : LRow) (vb va : Value) (w : World) : Prop where
  ps : w.cell? ⟨bs, 0, none⟩ = some (.pointer (some ⟨sb, 0, none⟩))
  r0 : w.cell? ⟨br, 0, none⟩ = some (.int .i64 r.dest.kind)
  r1 : w.cell? ⟨br, 1, none⟩ = some (.int .i64 r.dest.n)
  r2 : w.cell? ⟨br, 2, none⟩ = some (.int .i64 r.a.kind)
  r3 : w.cell? ⟨br, 3, none⟩ = some (.int .i64 r.a.n)
  r4 : w.cell? ⟨br, 4, none⟩ = some (.int .i64 r.b.kind)
  r5 : w.cell? ⟨br, 5, none⟩ = some (.int .i64 r.b.n)
  r6 : w.cell? ⟨br, 6, none⟩ = some vb
  r7 : w.cell? ⟨br, 7, none⟩ = some va
  n1 : bs ≠ mb
  n2 : br ≠ mb
  s1 : bs ≠ sb
  s2 : br ≠ sb
  m1 : bs ≠ db
  m2 : br ≠ db

section
variable {ns nl mb sb db bs br bd : Nat} {r : LRow} {vb va : Value} {st : Sto} {w : World}

theorem RBox.kept {w' : World} (h : RBox mb sb db bs br r vb va w) (hk : Kept mb sb db w w') : RBox mb sb db bs br r vb va w' :=
  ⟨hk.cell h.ps h.n1 h.s1 h.m1, hk.cell h.r0 h.n2 h.s2 h.m2, hk.cell h.r1 h.n2 h.s2 h.m2, hk.cell h.r2 h.n2 h.s2 h.m2, hk.cell h.r3 h.n2 h.s2 h.m2, hk.cell h.r4 h.n2 h.s2 h.m2, hk.cell h.r5 h.n2 h.s2 h.m2, hk.cell h.r6 h.n2 h.s2 h.m2, hk.cell h.r7 h.n2 h.s2 h.m2, h.n1, h.n2, h.s1, h.s2, h.m1, h.m2⟩

theorem pend1 (hb : RBox mb sb db bs br r vb va w) (h : Row w sb 113 (stoE st)) (hs : StoAt ns nl st) (hp : PlIs ns nl r.a) :
    Calls Try.prog 103 #[.pointer (some ⟨bs, 0, none⟩), .pointer (some ⟨br, 0, none⟩)] w fun e w' => e = .returned (.int .u64 (getP st r.a)) ∧ Below w.heap.size w w' := by
  have c0 := hb.ps
  have c2 := hb.r2
  have c3 := hb.r3
  have HI : Hid (Calls Try.prog 104 #[.pointer (some ⟨sb, 0, none⟩), r.a.val] w fun e w' => e = .returned (.int .u64 (getP st r.a)) ∧ Below w.heap.size w w') := inO r.a h hs hp
  clear hb h hs hp
  go_enter Try.func103, Try.ntmps103
  go_wp2_with (go_at_call 104; refine Calls.mono HI.out ?_; rintro e w1 ⟨rfl, hbc⟩)
  go_ret
  exact ⟨rfl, hbc⟩

theorem pend2 (hb : RBox mb sb db bs br r vb va w) (h : Row w sb 113 (stoE st)) (hs : StoAt ns nl st) (hp : PlIs ns nl r.b) :
    Calls Try.prog 105 #[.pointer (some ⟨bs, 0, none⟩), .pointer (some ⟨br, 0, none⟩)] w fun e w' => e = .returned (.int .u64 (getP st r.b)) ∧ Below w.heap.size w w' := by
  have c0 := hb.ps
  have c4 := hb.r4
  have c5 := hb.r5
  have HI : Hid (Calls Try.prog 104 #[.pointer (some ⟨sb, 0, none⟩), r.b.val] w fun e w' => e = .returned (.int .u64 (getP st r.b)) ∧ Below w.heap.size w w') := inO r.b h hs hp
  clear hb h hs hp
  go_enter Try.func105, Try.ntmps105
  go_wp2_with (go_at_call 104; refine Calls.mono HI.out ?_; rintro e w1 ⟨rfl, hbc⟩)
  go_ret
  exact ⟨rfl, hbc⟩

theorem pend3 (x : Int) (hb : RBox mb sb db bs br r vb va w) (h : Row w sb 113 (stoE st)) (hs : StoAt ns nl st) (hp : PlIs ns nl r.dest) (hx : U64i x) :
    Calls Try.prog 106 #[.int .u64 x, .pointer (some ⟨bs, 0, none⟩), .pointer (some ⟨br, 0, none⟩)] w fun e w' => e = .returned (.tuple #[]) ∧ Row w' sb 113 (stoE (putP st r.dest x)) ∧ Only sb w w' := by
  have c0 := hb.ps
  have c1 := hb.r0
  have c2 := hb.r1
  have HI : Hid (Calls Try.prog 107 #[.pointer (some ⟨sb, 0, none⟩), r.dest.val, .int .u64 x] w fun e w' => e = .returned (.tuple #[]) ∧ Row w' sb 113 (stoE (putP st r.dest x)) ∧ Only sb w w') := becomeO r.dest x h hs hp hx
  clear hb h hs hp hx
  go_enter Try.func106, Try.ntmps106
  go_wp2_with (go_at_call 107; refine Calls.mono HI.out ?_; rintro e w1 ⟨rfl, hr1, ho1⟩)
  go_end0
  exact ⟨rfl, hr1, ho1⟩

/-- What an instruction does in its places. -/
def rowE (r : LRow) : Eff Sto := plainE (fun st => getP st r.a) (fun st => getP st r.b) (fun st v => putP st r.dest v)
def placeE (r : LRow) : Eff Sto := ⟨fun st => movesP st r.before, fun st => movesP st r.after, fun st => getP st r.a, fun st => getP st r.b, fun st v => putP st r.dest v⟩

theorem place_read1 (hb : RBox mb sb db bs br r vb va w) (hp : PlIs ns nl r.a) : ReadSpec (stoK ns nl) mb sb db w 103 #[.pointer (some ⟨bs, 0, none⟩), .pointer (some ⟨br, 0, none⟩)] (rowE r).rdA := by
  refine ⟨fun w => rfl, fun (s : Sto) hs => get_bd _ hs.ok, ?_⟩
  intro s w' hk hz hr ho
  exact pend1 (st := s) (hb.kept hk) hr ho hp
theorem place_read2 (hb : RBox mb sb db bs br r vb va w) (hp : PlIs ns nl r.b) : ReadSpec (stoK ns nl) mb sb db w 105 #[.pointer (some ⟨bs, 0, none⟩), .pointer (some ⟨br, 0, none⟩)] (rowE r).rdB := by
  refine ⟨fun w => rfl, fun (s : Sto) hs => get_bd _ hs.ok, ?_⟩
  intro s w' hk hz hr ho
  exact pend2 (st := s) (hb.kept hk) hr ho hp
theorem place_write (hb : RBox mb sb db bs br r vb va w) (hp : PlIs ns nl r.dest) : WriteSpec (stoK ns nl) mb sb db w 106 (.pointer (some ⟨bs, 0, none⟩)) (.pointer (some ⟨br, 0, none⟩)) (rowE r).wr := by
  refine ⟨fun x w => rfl, fun (s : Sto) x hs hx => sto_at_put hs hx, ?_⟩
  intro s x w' hk hz hr ho hx
  exact pend3 (st := s) x (hb.kept hk) hr ho hp hx

/-- The ends of an instruction in its places. -/
theorem placeEnds (G : Prop) (w : World) (hmb : mb < w.heap.size) (hsb : sb < w.heap.size) (hdb : db < w.heap.size) (hpa : PlIs ns nl r.a) (hpb : PlIs ns nl r.b) (hpd : PlIs ns nl r.dest) {wO : World} (hmv : MovesIs wO vb r.before) (hmv2 : MovesIs wO va r.after) :
    Calls Try.prog 70 #[.pointer (some ⟨sb, 0, none⟩), rowW r vb va] w fun e w' => (∃ x : EndF, e = .returned x.val ∧ EndsIs (stoK ns nl) mb sb db w' x (rowE r).rdA (rowE r).rdB (rowE r).wr G) ∧ Below w.heap.size w w' := by
  obtain ⟨ab, cb, rfl, -, -⟩ := hmv
  obtain ⟨aa, ca, rfl, -, -⟩ := hmv2
  have HT : Hid (∀ o : Obj, RBox mb sb db w.heap.size (w.heap.size + 1) r (.slice ab r.before.length cb) (.slice aa r.after.length ca) (((w.alloc (.cells #[.pointer (some ⟨sb, 0, none⟩)] 110)).alloc (.cells #[.int .i64 r.dest.kind, .int .i64 r.dest.n, .int .i64 r.a.kind, .int .i64 r.a.n, .int .i64 r.b.kind, .int .i64 r.b.n, .slice ab r.before.length cb, .slice aa r.after.length ca] 103)).alloc o)) := by
    intro o
    refine ⟨?_, ?_, ?_, ?_, ?_, ?_, ?_, ?_, ?_, by omega, by omega, by omega, by omega, by omega, by omega⟩ <;> simp [go_sem]
  have HB : Hid (∀ o1 o2 o3 : Obj, Below w.heap.size w (((w.alloc o1).alloc o2).alloc o3)) := fun o1 o2 o3 => (((Below.refl _ _).alloc (Nat.le_refl _) _).alloc (by simp) _).alloc (by simp; omega) _
  unfold rowW
  go_enter Try.func70, Try.ntmps70
  go_wp2
  refine bodyPost_ret (v := EndF.val ⟨103, #[.pointer (some ⟨w.heap.size, 0, none⟩), .pointer (some ⟨w.heap.size + 1, 0, none⟩)], 105, #[.pointer (some ⟨w.heap.size, 0, none⟩), .pointer (some ⟨w.heap.size + 1, 0, none⟩)], 106, .pointer (some ⟨w.heap.size, 0, none⟩), .pointer (some ⟨w.heap.size + 1, 0, none⟩)⟩) ?_ rfl ⟨⟨_, rfl, ?_⟩, ?_⟩
  · simp [results, Try.results70, go_sem, EndF.val]
  · exact ⟨place_read1 (HT.out _) hpa, place_read2 (HT.out _) hpb, fun _ => place_write (HT.out _) hpd⟩
  · exact HB.out _ _ _

/-- Moves that are there from the beginning on. -/
structure MvsAt (ns nl : Nat) (wO : World) (v : Value) (l : List LMove) : Prop where
  mvs : MovesIs wO v l
  six : l.length ≤ 6
  ok : ∀ x, x ∈ l → MoveIs ns nl x

theorem behind_between {base : Nat} {i : LIns} {s : Sto} {l : List Int} {st k : Int} {I : List Int} {pc : Int} {wa wb wc wd : World} (hr1 : Ran mb sb base wa wb)
    (h2 : Behind (stoK ns nl) mb sb base i (rowE r) (movesP s r.before) l st k I pc wb wc) (hok : StoAt ns nl (movesP ((rowE r).act i (movesP s r.before) (I.headD 0)) r.after))
    (h3 : Row wd sb 113 (stoE (movesP ((rowE r).act i (movesP s r.before) (I.headD 0)) r.after))) (ho : Only sb wc wd) :
    Behind (stoK ns nl) mb sb base i (placeE r) s l st k I pc wa wd := by
  obtain ⟨⟨ov', iv', hms⟩, hr2⟩ := h2
  have hok' : (stoK ns nl).ok (movesP ((rowE r).act i (movesP s r.before) (I.headD 0)) r.after) := hok
  have h3' : Row wd sb (stoK ns nl).T ((stoK ns nl).enc (movesP ((rowE r).act i (movesP s r.before) (I.headD 0)) r.after)) := h3
  exact ⟨⟨ov', iv', hms.wrote h3' hok' ho⟩, (hr1.trans hr2).trans (ho.ran hms.sz)⟩

set_option maxHeartbeats 1000000 in
theorem between1 {base : Nat} {i : LIns} {s : Sto} {ov : Value} {l : List Int} {sta k : Int} {iv : Value} {I : List Int} {pc : Int} (F : Nat) (caps : Array Value) (hent : ∀ w, Sem.run Try.prog (callFunc F caps) w = .ok (.enter F caps) w) (wO : World)
    (hb : RBox mb sb db bs br r vb va w) (cd : w.cell? ⟨bd, 0, none⟩ = some (.func (.func F) #[] caps)) (hm : MS (stoK ns nl) mb sb base s ov l sta k iv I pc w) (hzs : bs < base) (hzr : br < base) (hzd : bd < base) (hdm : bd ≠ mb) (hds : bd ≠ sb)
    (h1 : MvsAt ns nl wO vb r.before) (h2 : MvsAt ns nl wO va r.after) (hO : Old wO w) (hzO : wO.heap.size ≤ base) (hOs : wO.heap.size ≤ sb) (hOm : wO.heap.size ≤ mb)
    (hc : ∀ w2, Ran mb sb base w w2 → MS (stoK ns nl) mb sb base (movesP s r.before) ov l sta k iv I pc w2 → Calls Try.prog F caps w2 fun e w' => e = .returned (.tuple #[]) ∧ Behind (stoK ns nl) mb sb base i (rowE r) (movesP s r.before) l sta k I pc w2 w') :
    Calls Try.prog 101 #[.pointer (some ⟨bs, 0, none⟩), .pointer (some ⟨br, 0, none⟩), .pointer (some ⟨bd, 0, none⟩)] w fun e w' => e = .returned (.tuple #[]) ∧ Behind (stoK ns nl) mb sb base i (placeE r) s l sta k I pc w w' := by
  have HBX : Hid (RBox mb sb db bs br r vb va w) := hb
  have HM : Hid (MS (stoK ns nl) mb sb base s ov l sta k iv I pc w) := hm
  have HC : Hid _ := hc
  have HCD : Hid (w.cell? ⟨bd, 0, none⟩ = some (.func (.func F) #[] caps)) := cd
  have HOO : Hid (Old wO w) := hO
  have H1 : Hid (MvsAt ns nl wO vb r.before) := h1
  have H2 : Hid (MvsAt ns nl wO va r.after) := h2
  have hzw := hm.sz
  have c0 := hb.ps
  have c6 := hb.r6
  obtain ⟨ab, cb, rfl, -, -⟩ := h1.mvs
  obtain ⟨aa, ca, rfl, -, -⟩ := h2.mvs
  clear hb hm hc cd hO h1 h2
  go_enter Try.func101, Try.ntmps101
  go_wp2_with fail
  go_at_call 102
  refine (moveAllO (ns := ns) (nl := nl) _ r.before wO HM.out.sto HM.out.ok H1.out.mvs HOO.out (by omega) hOs H1.out.six H1.out.ok).mono ?_
  rintro e w1 ⟨rfl, hr1, ho1⟩
  have hm1 : MS (stoK ns nl) mb sb base (movesP s r.before) ov l sta k iv I pc w1 := HM.out.wrote hr1 (moves_at HM.out.ok H1.out.ok) ho1
  have hrn : Ran mb sb base w w1 := ho1.ran hzw
  have HRN : Hid (Ran mb sb base w w1) := hrn
  have HC1 : Hid _ := HC.out w1 hrn hm1
  have d1 := ho1.cell HCD.out hds
  clear hr1 ho1 hm1 hrn c0 c6
  go_wp2_with fail
  refine Calls.mono HC1.out ?_
  rintro e w2 ⟨rfl, hbh⟩
  have HBH : Hid (Behind (stoK ns nl) mb sb base i (rowE r) (movesP s r.before) l sta k I pc w1 w2) := hbh
  have hr2 : Ran mb sb base w w2 := HRN.out.trans hbh.2
  have c0 := hr2.cell HBX.out.ps hzs HBX.out.n1 HBX.out.s1
  have c7 := hr2.cell HBX.out.r7 hzr HBX.out.n2 HBX.out.s2
  obtain ⟨⟨ov2, iv2, hms2⟩, -⟩ := hbh
  have HMS2 : Hid _ := hms2
  have HO2 : Hid (Old wO w2) := fun j hj => (hr2.block j (by omega) (by omega) (by omega)).trans (HOO.out j hj)
  clear hr2 hms2 d1
  go_wp2_with fail
  go_at_call 102
  refine (moveAllO (ns := ns) (nl := nl) _ r.after wO HMS2.out.sto HMS2.out.ok H2.out.mvs HO2.out (by have := HMS2.out.sz; omega) hOs H2.out.six H2.out.ok).mono ?_
  rintro e w3 ⟨rfl, hr3, ho3⟩
  go_wp2
  go_end0
  exact ⟨rfl, behind_between HRN.out HBH.out (moves_at HMS2.out.ok H2.out.ok) hr3 ho3⟩

/-- The deed between its moves, whenever it is called. -/
theorem between_spec {i : LIns} {F : Nat} {caps : Array Value} {wO w1 w0 : World} (hb : RBox mb sb db bs br r vb va w1) (hs : DeedSpec (stoK ns nl) mb sb db i (rowE r) w0 F caps) (h01 : Kept mb sb db w0 w1) (hz01 : w0.heap.size ≤ w1.heap.size) (cd : w1.cell? ⟨bd, 0, none⟩ = some (.func (.func F) #[] caps)) (hdm : bd ≠ mb) (hds : bd ≠ sb) (hdd : bd ≠ db)
    (h1 : MvsAt ns nl wO vb r.before) (h2 : MvsAt ns nl wO va r.after) (hO : Old wO w1) (hzO : wO.heap.size ≤ w1.heap.size) (hOs : wO.heap.size ≤ sb) (hOm : wO.heap.size ≤ mb) (hOd : wO.heap.size ≤ db) :
    DeedSpec (stoK ns nl) mb sb db i (placeE r) w1 101 #[.pointer (some ⟨bs, 0, none⟩), .pointer (some ⟨br, 0, none⟩), .pointer (some ⟨bd, 0, none⟩)] := by
  refine ⟨fun w => rfl, ?_⟩
  intro base s ov l sta k iv I pc w hk hz0 hm hz hl h5
  have z1 := World.block_lt_of_cell? w1 _ hb.ps
  have z2 := World.block_lt_of_cell? w1 _ hb.r0
  have z3 := World.block_lt_of_cell? w1 _ cd
  simp only at z1 z2 z3
  refine between1 F caps hs.1 wO (hb.kept hk) (hk.cell cd hdm hds hdd) hm (by omega) (by omega) (by omega) hdm hds h1 h2 (fun j hj => (hk j (by omega) (by omega) (by omega) (by omega)).trans (hO j hj)) (by omega) hOs hOm (fun w2 hr2 hm2 => ?_)
  exact hs.2 base _ ov l sta k iv I pc w2 ((h01.trans hz01 hk).ran (by omega) hr2) (by have := hm2.sz; omega) hm2 (by omega) hl h5

theorem between {i : LIns} (F : Nat) (caps : Array Value) (wO w : World) (hs : DeedSpec (stoK ns nl) mb sb db i (rowE r) w F caps) (hmb : mb < w.heap.size) (hsb : sb < w.heap.size) (hdb : db < w.heap.size)
    (h1 : MvsAt ns nl wO vb r.before) (h2 : MvsAt ns nl wO va r.after) (hO : Old wO w) (hOs : wO.heap.size ≤ sb) (hOm : wO.heap.size ≤ mb) (hOd : wO.heap.size ≤ db) :
    Calls Try.prog 69 #[.pointer (some ⟨sb, 0, none⟩), rowW r vb va, .func (.func F) #[] caps] w fun e w' => (∃ F2 caps2, e = .returned (.func (.func F2) #[] caps2) ∧ DeedSpec (stoK ns nl) mb sb db i (placeE r) w' F2 caps2) ∧ Below w.heap.size w w' := by
  have H1 : Hid (MvsAt ns nl wO vb r.before) := h1
  have H2 : Hid (MvsAt ns nl wO va r.after) := h2
  obtain ⟨ab, cb, rfl, -, -⟩ := h1.mvs
  obtain ⟨aa, ca, rfl, -, -⟩ := h2.mvs
  obtain ⟨WB, hWB⟩ : ∃ WB, WB = ((w.alloc (.cells #[.pointer (some ⟨sb, 0, none⟩)] 110)).alloc (.cells #[.int .i64 r.dest.kind, .int .i64 r.dest.n, .int .i64 r.a.kind, .int .i64 r.a.n, .int .i64 r.b.kind, .int .i64 r.b.n, .slice ab r.before.length cb, .slice aa r.after.length ca] 103)).alloc (.cells #[.func (.func F) #[] caps] 1) := ⟨_, rfl⟩
  have HB : Hid (Below w.heap.size w WB) := by rw [hWB]; exact (((Below.refl _ _).alloc (Nat.le_refl _) _).alloc (by simp) _).alloc (by simp; omega) _
  have HX : Hid (RBox mb sb db w.heap.size (w.heap.size + 1) r (.slice ab r.before.length cb) (.slice aa r.after.length ca) WB) := by
    rw [hWB]
    refine ⟨?_, ?_, ?_, ?_, ?_, ?_, ?_, ?_, ?_, by omega, by omega, by omega, by omega, by omega, by omega⟩ <;> simp [go_sem]
  have HD : Hid (WB.cell? ⟨w.heap.size + 1 + 1, 0, none⟩ = some (.func (.func F) #[] caps)) := by rw [hWB]; show _ = _; simp [go_sem]
  have HS : Hid (DeedSpec (stoK ns nl) mb sb db i (rowE r) w F caps) := hs
  have HO : Hid (Old wO WB) := fun j hj => (HB.out.block j (by omega)).trans (hO j hj)
  clear hs h1 h2 hO
  unfold rowW
  go_enter Try.func69, Try.ntmps69
  go_wp2
  go_ret
  rw [← hWB]
  exact ⟨⟨_, _, rfl, between_spec (w0 := w) HX.out HS.out (Kept.of_below HB.out) HB.out.size HD.out (by omega) (by omega) (by omega) H1.out H2.out HO.out (by have := HB.out.size; omega) hOs hOm hOd⟩, HB.out⟩
end
end Go.Proofs.Ytcmnmogmdhofcaa.form

/- The program's own machine: a step, all steps, whatever the store and the deeds. -/
namespace Go.Proofs.Ytcmnmogmdhofcaa.form
open Go.RowKit Go.Proofs.Ytcmnmogmdhofcaa.num
set_option linter.unusedVariables false
attribute [local go_sem ↓] Go.wp_at_zero Go.wp_at_succ

/-- One step: counted, on to the next one, the deed. -/
theorem stepC {K : StoK} {mb sb base : Nat} {s : K.S} {ov : Value} {l : List Int} {st k : Int} {iv : Value} {I : List Int} {pc : Int} {i : LIns} {E : Eff K.S} {w : World} (F : Nat) (caps : Array Value)
    (hent : ∀ w, Sem.run Try.prog (callFunc F caps) w = .ok (.enter F caps) w) (hm : MS K mb sb base s ov l st k iv I pc w) (hk0 : 0 ≤ k) (hk1 : k ≤ 3000) (hp0 : 0 ≤ pc) (hp1 : pc ≤ 40)
    (hc : ∀ w2, MS K mb sb base s ov l st (k + 1) iv I (pc + 1) w2 → Ran mb sb base w w2 → Calls Try.prog F caps w2 fun e w' => e = .returned (.tuple #[]) ∧ Behind K mb sb base i E s l st (k + 1) I (pc + 1) w2 w') :
    Calls Try.prog 89 #[.pointer (some ⟨mb, 0, none⟩), .func (.func F) #[] caps] w fun e w' => e = .returned (.tuple #[]) ∧ Behind K mb sb base i E s l st (k + 1) I (pc + 1) w w' := by
  have ck := hm.ck
  have cp := hm.cpc
  have fk := hm.fz 2
  have fp := hm.fz 4
  have h1 := hm.setSteps (k + 1)
  have h2 := h1.setPc (pc + 1)
  have cp1 := h1.cpc
  have fp1 := h1.fz 4
  have hr : Ran mb sb base w ((w.setCell ⟨mb, 2, none⟩ (.int .i64 (k + 1))).setCell ⟨mb, 4, none⟩ (.int .i64 (pc + 1))) := ((Ran.refl _ _ _ _).set _ _).set _ _
  have HC : Hid _ := hc _ h2 hr
  have HR : Hid _ := hr
  clear h1 h2 hr hm hc
  go_enter Try.func89, Try.ntmps89
  go_wp2_with fail
  refine Calls.mono HC.out ?_
  rintro e w1 ⟨rfl, hbh⟩
  go_wp2
  go_end0
  exact ⟨rfl, hbh.1, HR.out.trans hbh.2⟩

/-- What the machine shows when it stops. -/
def Stopped (K : StoK) (mb sb base : Nat) (M : GM K.S) (w w' : World) : Prop := (∃ s ov iv I pc, MS K mb sb base s ov M.out M.state M.steps iv I pc w') ∧ Ran mb sb base w w'

/-- Between two steps. -/
structure StepS (K : StoK) (Inv : K.S → Prop) (mb sb base n : Nat) (C : List LIns) (E : Nat → Eff K.S) (I : List Int) (M : GM K.S) (w : World) (g : Nat) (m : GM K.S) (ov iv : Value) (wr : World) : Prop where
  ms : MS K mb sb base m.sto ov m.out (if m.state = 1 then 1 else 0) m.steps iv (I.drop m.taken) m.pc wr
  gok : GOk C.length I.length m
  inv : Inv m.sto
  gh : m.steps + g = n + 1
  le : m.steps ≤ n
  ran : Ran mb sb base w wr
  fin : GM.go C E I (n - m.steps) m = M

theorem gs_step {K : StoK} {Inv : K.S → Prop} {mb sb base n nB : Nat} {C : List LIns} {E : Nat → Eff K.S} {I : List Int} {M : GM K.S} {w : World} {g : Nat} {m : GM K.S} {ov iv : Value} {wr w' : World} (h : StepS K Inv mb sb base n C E I M w g m ov iv wr) (h0 : m.state = 0) (hlt : m.steps < n)
    (hi : InsOk nB C.length (C.getD m.pc .zero)) (hin : ∀ j, j < I.length → 0 ≤ I.getD j 0 ∧ I.getD j 0 < 4294967296)
    (hinv : ∀ j, j < C.length → ∀ s x, Inv s → K.ok s → 0 ≤ x → x < 4294967296 → Inv ((E j).act (C.getD j .zero) s x))
    (hb : Behind K mb sb base (C.getD m.pc .zero) (E m.pc) m.sto m.out 0 (m.steps + 1) (I.drop m.taken) (m.pc + 1) wr w') :
    ∃ ov' iv', StepS K Inv mb sb base n C E I M w (g - 1) (m.step C E I) ov' iv' w' := by
  obtain ⟨⟨ov', iv', hms⟩, hr⟩ := hb
  have hpc := h.gok.pcok h0
  have ei : (I.drop m.taken).headD 0 = inOf I m.taken := by
    unfold inOf
    simp [List.headD_eq_head?_getD, List.getD]
  rw [ei] at hms
  have hx := inOf_bd hin m.taken
  refine ⟨ov', iv', ⟨?_, gok_step h.gok h0 hi, hinv m.pc hpc m.sto _ h.inv h.ms.ok hx.1 hx.2, ?_, ?_, h.ran.trans hr, ?_⟩⟩
  · have e1 : (E m.pc).act (C.getD m.pc .zero) m.sto (inOf I m.taken) = (m.step C E I).sto := rfl
    have e2 : (if (C.getD m.pc .zero).op = 4 then m.out ++ [(E m.pc).a m.sto % 4294967296] else m.out) = (m.step C E I).out := rfl
    have e3 : (if (C.getD m.pc .zero).op = 10 then (1 : Int) else 0) = if (m.step C E I).state = 1 then 1 else 0 := by
      have hs : (m.step C E I).state = stI (C.getD m.pc .zero) C.length (nxI (C.getD m.pc .zero) m.pc ((E m.pc).a m.sto)) := rfl
      generalize (m.step C E I).state = s at hs ⊢
      unfold stI at hs
      by_cases e : (C.getD m.pc .zero).op = 10
      · rw [if_pos e] at hs
        rw [if_pos e, if_pos hs]
      · rw [if_neg e] at hs
        rw [if_neg e, if_neg (by split at hs <;> omega)]
    have e4 : (if (C.getD m.pc .zero).op = 3 then (I.drop m.taken).tail else I.drop m.taken) = I.drop (m.step C E I).taken := by
      simp only [GM.step]
      by_cases e : (C.getD m.pc .zero).op = 3
      · by_cases e' : m.taken < I.length
        · rw [if_pos e, if_pos ⟨e, e'⟩]; simp
        · rw [if_pos e, if_neg (fun h => e' h.2), List.drop_of_length_le (by omega)]; rfl
      · rw [if_neg e, if_neg (fun h => e h.1)]
    have e5 : (if (C.getD m.pc .zero).op = 8 ∨ (C.getD m.pc .zero).op = 9 ∧ ¬ (E m.pc).a m.sto = 0 then (C.getD m.pc .zero).c else (m.pc : Int) + 1) = ((m.step C E I).pc : Int) := by
      simp only [GM.step]
      unfold nxI
      split
      · rename_i hc
        have := (hi.c (by rcases hc with hc | hc; exact Or.inl hc; exact Or.inr hc.1)).1
        omega
      · omega
    rw [e1, e2, e3, e4, e5] at hms
    have e6 : ((m.step C E I).steps : Int) = (m.steps : Int) + 1 := by simp [GM.step]
    rw [e6]
    exact hms
  · have := h.gh
    simp only [GM.step]
    omega
  · simp only [GM.step]; omega
  · rw [← h.fin]
    have e : n - m.steps = (n - (m.steps + 1)) + 1 := by omega
    rw [e]
    show _ = if m.state = 0 then _ else _
    rw [if_pos h0]
    rfl

set_option maxRecDepth 100000 in
set_option maxHeartbeats 1000000 in
theorem goOn (K : StoK) (Inv : K.S → Prop) (mb sb db n nB : Nat) (C : List LIns) (E : Nat → Eff K.S) (I : List Int) (s0 : K.S) (cs : List Value) (ov iv : Value) (w : World) (h1 : 1 ≤ C.length) (h40 : C.length ≤ 40) (hn : n ≤ 3000)
    (hok : ∀ k, k < C.length → InsOk nB C.length (C.getD k .zero)) (hin : ∀ j, j < I.length → 0 ≤ I.getD j 0 ∧ I.getD j 0 < 4294967296)
    (hinv : ∀ j, j < C.length → ∀ s x, Inv s → K.ok s → 0 ≤ x → x < 4294967296 → Inv ((E j).act (C.getD j .zero) s x)) (hnar : ∀ j, j < C.length → (C.getD j .zero).op = 5 → ∀ s, Inv s → K.ok s → (E j).a s < 4294967296) (hi0 : Inv s0)
    (hrow : Row w db 1 cs) (hlen : cs.length = C.length) (hspec : ∀ j, j < C.length → ∃ F caps, cs.getD j .nilFunc = .func (.func F) #[] caps ∧ DeedSpec K mb sb db (C.getD j .zero) (E j) w F caps) (hdb : db < w.heap.size) (hmb : mb ≠ db) (hsb : sb ≠ db)
    (hms : MS K mb sb w.heap.size s0 ov [] 0 0 iv I 0 w) :
    Calls Try.prog 46 #[.pointer (some ⟨mb, 0, none⟩), .slice (some ⟨db, 0, none⟩) C.length C.length, .int .i64 n] w fun e w' =>
      e = .returned (.tuple #[]) ∧ Stopped K mb sb w.heap.size (GM.go C E I n (GM.start s0)) w w' := by
  have HOK : Hid _ := hok
  have HIN : Hid _ := hin
  have HINV : Hid _ := hinv
  have HNAR : Hid _ := hnar
  have HROW : Hid (Row w db 1 cs) := hrow
  have HSPEC : Hid (∀ j, j < C.length → ∃ F caps, cs.getD j .nilFunc = .func (.func F) #[] caps ∧ DeedSpec K mb sb db (C.getD j .zero) (E j) w F caps) := hspec
  have HMS : Hid (MS K mb sb w.heap.size s0 ov [] 0 0 iv I 0 w) := hms
  obtain ⟨M, hM0⟩ : ∃ M, M = GM.go C E I n (GM.start s0) := ⟨_, rfl⟩
  have HM0 : Hid (GM.go C E I n (GM.start s0) = M) := hM0.symm
  rw [← hM0]
  have z40 : (C.length : Int) ≤ 40 := by omega
  have z3 : (n : Int) ≤ 3000 := by omega
  clear hok hin hinv hnar hrow hspec hms hM0
  go_enter Try.func46, Try.ntmps46
  go_wp2
  go_loopg [] (n + 1) (fun g wr => ∃ (m : GM K.S) (ov iv : Value), StepS K Inv mb sb w.heap.size n C E I M w g m ov iv wr)
  case atStart =>
    refine ⟨GM.start s0, ov, iv, ⟨?_, gok_start _ _ _ h1, hi0, by simp [GM.start], by simp [GM.start], Ran.refl _ _ _ _, by simpa [GM.start] using HM0.out⟩⟩
    simpa [GM.start] using HMS.out
  case round =>
    obtain ⟨m, ov, iv, hgs⟩ := hrel
    have HGS : Hid (StepS K Inv mb sb w.heap.size n C E I M w gk m ov iv wr) := hgs
    have t0 := hgs.ms.cst
    have t2 := hgs.ms.ck
    have t16 := hgs.ms.cpc
    have f0 := hgs.ms.fz 0
    have hle := hgs.le
    rcases hgs.gok.fin with hst | hst | ⟨hst, hpe⟩
    · rw [if_neg (by omega)] at t0
      have hpc := hgs.gok.pcok hst
      have y1 : (m.pc : Int) < (C.length : Int) := by omega
      have e1 : ((m.pc : Int) == (C.length : Int)) = false := by simp; omega
      rcases Nat.lt_or_ge m.steps n with hlt | hge
      · have e2 : ((m.steps : Int) == (n : Int)) = false := by simp; omega
        have hroww : Row wr db 1 cs := by
          have := HROW.out
          unfold Row at *
          rw [hgs.ran.block db hdb (Ne.symm hmb) (Ne.symm hsb)]
          exact this
        have cd := hroww.cell m.pc
        rw [List.getElem?_eq_getElem (by omega)] at cd
        obtain ⟨F, caps, hv, hent, hcall⟩ := (HSPEC.out m.pc hpc)
        rw [show cs.getD m.pc .nilFunc = cs[m.pc] by simp [List.getD, show m.pc < cs.length by omega]] at hv
        rw [hv] at cd
        have hstep : ∀ w2, MS K mb sb w.heap.size m.sto ov m.out 0 (m.steps + 1) iv (I.drop m.taken) (m.pc + 1) w2 → Ran mb sb w.heap.size wr w2 → Calls Try.prog F caps w2 fun e w' => e = .returned (.tuple #[]) ∧ Behind K mb sb w.heap.size (C.getD m.pc .zero) (E m.pc) m.sto m.out 0 (m.steps + 1) (I.drop m.taken) (m.pc + 1) w2 w' := by
          intro w2 h2 hr2
          exact hcall _ _ _ _ _ _ _ _ _ w2 (fun j hj hj1 hj2 hj3 => (hgs.ran.trans hr2).block j hj hj1 hj2) h2.sz h2 (Nat.le_refl _) (by have := hgs.gok.outs; omega) (fun h5 => HNAR.out m.pc hpc h5 _ hgs.inv hgs.ms.ok)
        have hms0 : MS K mb sb w.heap.size m.sto ov m.out 0 m.steps iv (I.drop m.taken) m.pc wr := by
          have := hgs.ms
          rwa [if_neg (by omega)] at this
        have HST : Hid (Calls Try.prog 89 #[.pointer (some ⟨mb, 0, none⟩), .func (.func F) #[] caps] wr fun e w' => e = .returned (.tuple #[]) ∧ Behind K mb sb w.heap.size (C.getD m.pc .zero) (E m.pc) m.sto m.out 0 (m.steps + 1) (I.drop m.taken) (m.pc + 1) wr w') :=
          stepC F caps hent hms0 (by omega) (by omega) (by omega) (by omega) hstep
        have hdbw : db < wr.heap.size := hroww.lt
        clear hstep hms0 hcall hent hv hroww hgs
        go_wp2_with (go_at_call 89; refine Calls.mono HST.out ?_; rintro e w1 ⟨rfl, hbh⟩)
        go_roundg (gk - 1)
        case measure => have := HGS.out.gh; omega
        case rel =>
          obtain ⟨ov', iv', hg2⟩ := gs_step HGS.out hst hlt (HOK.out m.pc hpc) HIN.out HINV.out hbh
          exact ⟨_, ov', iv', hg2⟩
      · have e2 : ((m.steps : Int) == (n : Int)) = true := by simp; omega
        clear hgs
        go_wp2
        refine bodyPost_ret (results_none rfl _ _ _) rfl ?_
        have hM : m = M := by
          rw [← HGS.out.fin, show n - m.steps = 0 by omega]; rfl
        have hq : MS K mb sb w.heap.size m.sto ov m.out m.state m.steps iv (I.drop m.taken) m.pc wr := by
          have := HGS.out.ms
          rw [if_neg (by omega)] at this
          rw [hst]
          exact this
        rw [← hM]
        exact ⟨rfl, ⟨_, _, _, _, _, hq⟩, HGS.out.ran⟩
    · rw [if_pos hst] at t0
      clear hgs
      go_wp2
      go_end0
      have hM : m = M := by
        rw [← HGS.out.fin, GM.go_stop (by omega)]
      have hq : MS K mb sb w.heap.size m.sto ov m.out m.state m.steps iv (I.drop m.taken) m.pc wr := by
        have := HGS.out.ms
        rw [if_pos hst] at this
        rw [hst]
        exact this
      rw [← hM]
      exact ⟨rfl, ⟨_, _, _, _, _, hq⟩, HGS.out.ran⟩
    · rw [if_neg (by omega)] at t0
      have e1 : ((m.pc : Int) == (C.length : Int)) = true := by simp; omega
      clear hgs
      go_wp2
      refine bodyPost_ret (results_none rfl _ _ _) rfl ?_
      have hM : m = M := by
        rw [← HGS.out.fin, GM.go_stop (by omega)]
      have hq : MS K mb sb w.heap.size m.sto ov m.out m.state m.steps iv (I.drop m.taken) m.pc (wr.setCell ⟨mb, 0, none⟩ (.int .i64 2)) := by
        rw [hst]
        exact HGS.out.ms.setState 2
      rw [← hM]
      exact ⟨rfl, ⟨_, _, _, _, _, hq⟩, HGS.out.ran.set _ _⟩

end Go.Proofs.Ytcmnmogmdhofcaa.form
