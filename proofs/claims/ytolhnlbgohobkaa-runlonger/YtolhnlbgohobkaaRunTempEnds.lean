/- The ends of an instruction on temporaries, in the array of the program's run: ends and its closures. -/
import Derived.Test.YtolhnlbgohobkaaRunTemps
namespace Go.Proofs.Ytolhnlbgohobkaa.form
open Go.RowKit Go.Proofs.Ytolhnlbgohobkaa.num
set_option linter.unusedVariables false
set_option maxRecDepth 100000
attribute [local go_sem ↓] Go.wp_at_zero Go.wp_at_succ

/-- The temporaries in their array. -/
def arr (ts : List Int) : List Int := ts ++ List.replicate (12 - ts.length) 0
def tempK (nB : Nat) : StoK := ⟨List Int, 74, fun ts => (arr ts).map (Value.int .u64), fun ts => ts.length = nB ∧ ∀ j, U64i (ts.getD j 0)⟩

section
variable {nB mb sb db bt bi : Nat} {ts : List Int} {i : LIns} {w : World}

theorem arr_at (h : Row w sb 74 ((arr ts).map (Value.int .u64))) {j : Nat} (hj : j < ts.length) : w.cell? ⟨sb, j, none⟩ = some (.int .u64 (ts.getD j 0)) := by
  rw [h.cell, List.getElem?_map]
  unfold arr
  rw [List.getElem?_append_left hj]
  simp [List.getD, hj]
theorem arr_put (h : Row w sb 74 ((arr ts).map (Value.int .u64))) {j : Nat} (hj : j < ts.length) (v : Int) : Row (w.setCell ⟨sb, j, none⟩ (.int .u64 v)) sb 74 ((arr (ts.set j v)).map (Value.int .u64)) := by
  have := h.set j (.int .u64 v)
  have e : ((arr ts).map (Value.int .u64)).set j (.int .u64 v) = (arr (ts.set j v)).map (Value.int .u64) := by
    rw [← List.map_set]
    unfold arr
    simp [hj]
  rwa [e] at this

/-- The variables that the ends have caught. -/
structure TBox (mb sb db bt bi : Nat) (i : LIns) (w : World) : Prop where
  pt : w.cell? ⟨bt, 0, none⟩ = some (.pointer (some ⟨sb, 0, none⟩))
  i1 : w.cell? ⟨bi, 1, none⟩ = some (.int .i64 i.dest)
  i2 : w.cell? ⟨bi, 2, none⟩ = some (.int .i64 i.a)
  i3 : w.cell? ⟨bi, 3, none⟩ = some (.int .i64 i.b)
  n1 : bt ≠ mb
  n2 : bi ≠ mb
  s1 : bt ≠ sb
  s2 : bi ≠ sb
  m1 : bt ≠ db
  m2 : bi ≠ db
theorem TBox.kept {w' : World} (h : TBox mb sb db bt bi i w) (hk : Kept mb sb db w w') : TBox mb sb db bt bi i w' :=
  ⟨hk.cell h.pt h.n1 h.s1 h.m1, hk.cell h.i1 h.n2 h.s2 h.m2, hk.cell h.i2 h.n2 h.s2 h.m2, hk.cell h.i3 h.n2 h.s2 h.m2, h.n1, h.n2, h.s1, h.s2, h.m1, h.m2⟩

theorem tend1 (hb : TBox mb sb db bt bi i w) (h : Row w sb 74 ((arr ts).map (Value.int .u64))) (h12 : ts.length ≤ 12) (ha0 : 0 ≤ i.a) (ha1 : i.a < ts.length) :
    Calls Try.prog 85 #[.pointer (some ⟨bt, 0, none⟩), .pointer (some ⟨bi, 0, none⟩)] w fun e w' => e = .returned (.int .u64 (ts.getD i.a.toNat 0)) ∧ Below w.heap.size w w' := by
  have c0 := hb.pt
  have c2 := hb.i2
  have ca := arr_at h (show i.a.toNat < ts.length by omega)
  have y1 : i.a < 12 := by omega
  generalize ts.getD i.a.toNat 0 = a at *
  clear hb h h12 ha1
  go_enter Try.func85, Try.ntmps85
  go_wp2
  go_quiet (fail)
  go_wp2
  go_ret
  exact ⟨rfl, below_drewN (Below.refl _ _) _⟩

theorem tend2 (hb : TBox mb sb db bt bi i w) (h : Row w sb 74 ((arr ts).map (Value.int .u64))) (h12 : ts.length ≤ 12) (ha0 : 0 ≤ i.b) (ha1 : i.b < ts.length) :
    Calls Try.prog 86 #[.pointer (some ⟨bt, 0, none⟩), .pointer (some ⟨bi, 0, none⟩)] w fun e w' => e = .returned (.int .u64 (ts.getD i.b.toNat 0)) ∧ Below w.heap.size w w' := by
  have c0 := hb.pt
  have c3 := hb.i3
  have ca := arr_at h (show i.b.toNat < ts.length by omega)
  have y1 : i.b < 12 := by omega
  generalize ts.getD i.b.toNat 0 = a at *
  clear hb h h12 ha1
  go_enter Try.func86, Try.ntmps86
  go_wp2
  go_quiet (fail)
  go_wp2
  go_ret
  exact ⟨rfl, below_drewN (Below.refl _ _) _⟩

theorem tend3 (x : Int) (hb : TBox mb sb db bt bi i w) (h : Row w sb 74 ((arr ts).map (Value.int .u64))) (h12 : ts.length ≤ 12) (ha0 : 0 ≤ i.dest) (ha1 : i.dest < ts.length) :
    Calls Try.prog 87 #[.int .u64 x, .pointer (some ⟨bt, 0, none⟩), .pointer (some ⟨bi, 0, none⟩)] w fun e w' => e = .returned (.tuple #[]) ∧ Row w' sb 74 ((arr (ts.set i.dest.toNat x)).map (Value.int .u64)) ∧ Only sb w w' := by
  have c0 := hb.pt
  have c1 := hb.i1
  have ca := arr_at h (show i.dest.toNat < ts.length by omega)
  have fz := h.frozen i.dest.toNat
  have y1 : i.dest < 12 := by omega
  have q1 : bt ≠ sb := hb.s1
  have q2 : bi ≠ sb := hb.s2
  have HR : Hid (Row (w.setCell ⟨sb, i.dest.toNat, none⟩ (.int .u64 x)) sb 74 ((arr (ts.set i.dest.toNat x)).map (Value.int .u64))) := arr_put h (by omega) x
  have HO : Hid (Only sb w (w.setCell ⟨sb, i.dest.toNat, none⟩ (.int .u64 x))) := (Only.refl _ _).set _ _
  clear hb h h12 ha1
  go_enter Try.func87, Try.ntmps87
  go_wp2
  go_region_held3 (fun w' => w'.cell? ⟨bt, 0, none⟩ = some (.pointer (some ⟨sb, 0, none⟩)) ∧ w'.cell? ⟨bi, 1, none⟩ = some (.int .i64 i.dest))
    ((go_split_ands; refine ⟨?_, ?_⟩ <;> first | assumption | exact cell_other (by assumption) q1 | exact cell_other (by assumption) q2 | (go_keep; done)))
    (fail)
  go_wp2
  go_end0
  exact ⟨rfl, HR.out, HO.out.trans (Only.of_below (Below.refl _ _).drew)⟩

theorem temp_read1 (hb : TBox mb sb db bt bi i w) (h12 : nB ≤ 12) (ha0 : 0 ≤ i.a) (ha1 : i.a < nB) : ReadSpec (tempK nB) mb sb db w 85 #[.pointer (some ⟨bt, 0, none⟩), .pointer (some ⟨bi, 0, none⟩)] (fun (s : List Int) => s.getD i.a.toNat 0) := by
  refine ⟨fun w => rfl, fun (s : List Int) hs => hs.2 _, ?_⟩
  intro s w' hk hz hr ho
  obtain ⟨h1, h2⟩ := ho
  exact tend1 (ts := s) (hb.kept hk) hr (by omega) ha0 (by omega)
theorem temp_read2 (hb : TBox mb sb db bt bi i w) (h12 : nB ≤ 12) (ha0 : 0 ≤ i.b) (ha1 : i.b < nB) : ReadSpec (tempK nB) mb sb db w 86 #[.pointer (some ⟨bt, 0, none⟩), .pointer (some ⟨bi, 0, none⟩)] (fun (s : List Int) => s.getD i.b.toNat 0) := by
  refine ⟨fun w => rfl, fun (s : List Int) hs => hs.2 _, ?_⟩
  intro s w' hk hz hr ho
  obtain ⟨h1, h2⟩ := ho
  exact tend2 (ts := s) (hb.kept hk) hr (by omega) ha0 (by omega)
theorem temp_write (hb : TBox mb sb db bt bi i w) (h12 : nB ≤ 12) (ha0 : 0 ≤ i.dest) (ha1 : i.dest < nB) : WriteSpec (tempK nB) mb sb db w 87 (.pointer (some ⟨bt, 0, none⟩)) (.pointer (some ⟨bi, 0, none⟩)) (fun (s : List Int) x => s.set i.dest.toNat x) := by
  refine ⟨fun x w => rfl, fun (s : List Int) x hs hx => ⟨by rw [List.length_set]; exact hs.1, getD_set_bd hs.2 hx⟩, ?_⟩
  intro s x w' hk hz hr ho hx
  obtain ⟨h1, h2⟩ := ho
  exact tend3 (ts := s) x (hb.kept hk) hr (by omega) ha0 (by omega)

/-- The ends of an instruction. -/
theorem tempEnds (nC : Nat) (hi : InsOk nB nC i) (h12 : nB ≤ 12) (w : World) (hmb : mb < w.heap.size) (hsb : sb < w.heap.size) (hdb : db < w.heap.size) :
    Calls Try.prog 45 #[.pointer (some ⟨sb, 0, none⟩), i.val] w fun e w' => (∃ x : EndF, e = .returned x.val ∧ EndsIs (tempK nB) mb sb db w' x (tempE i).rdA (tempE i).rdB (tempE i).wr (givesB i.op = true)) ∧ Below w.heap.size w w' := by
  have HI : Hid (InsOk nB nC i) := hi
  have HT : Hid (∀ o : Obj, TBox mb sb db w.heap.size (w.heap.size + 1) i (((w.alloc (.cells #[.pointer (some ⟨sb, 0, none⟩)] 72)).alloc (.cells #[.int .i64 i.op, .int .i64 i.dest, .int .i64 i.a, .int .i64 i.b, .int .i64 i.c, .int .u32 i.n] 50)).alloc o)) := by
    intro o
    refine ⟨?_, ?_, ?_, ?_, by omega, by omega, by omega, by omega, by omega, by omega⟩ <;> simp [go_sem]
  have HB : Hid (∀ o1 o2 o3 : Obj, Below w.heap.size w (((w.alloc o1).alloc o2).alloc o3)) := fun o1 o2 o3 => (((Below.refl _ _).alloc (Nat.le_refl _) _).alloc (by simp) _).alloc (by simp; omega) _
  clear hi
  unfold LIns.val
  go_enter Try.func45, Try.ntmps45
  go_wp2
  refine bodyPost_ret (v := EndF.val ⟨85, #[.pointer (some ⟨w.heap.size, 0, none⟩), .pointer (some ⟨w.heap.size + 1, 0, none⟩)], 86, #[.pointer (some ⟨w.heap.size, 0, none⟩), .pointer (some ⟨w.heap.size + 1, 0, none⟩)], 87, .pointer (some ⟨w.heap.size, 0, none⟩), .pointer (some ⟨w.heap.size + 1, 0, none⟩)⟩) ?_ rfl ⟨⟨_, rfl, ?_⟩, ?_⟩
  · simp [results, Try.results45, go_sem, EndF.val]
  · refine ⟨temp_read1 ?_ h12 HI.out.a0 HI.out.a1, temp_read2 ?_ h12 HI.out.b0 HI.out.b1, fun hg => temp_write ?_ h12 (HI.out.d hg).1 (HI.out.d hg).2⟩
    all_goals exact HT.out _
  · exact HB.out _ _ _
end
end Go.Proofs.Ytolhnlbgohobkaa.form
