/- What the program's run makes ahead of its steps: a machine with its own copy of the ins (NewMachine), the ends of an instruction on temporaries (ends); what is wrong (Wrong). -/
import Derived.Laws.Cover3
import Derived.Test.YtcmnmogmdhofcabT24
import Derived.Test.YtcmnmogmdhofcabT19
import Derived.Test.YtcmnmogmdhofcabT13
import Derived.Test.YtcmnmogmdhofcabT09
import Derived.Test.YtcmnmogmdhofcabT22
import Derived.Test.YtcmnmogmdhofcabT23
import Derived.Test.YtcmnmogmdhofcabT05

namespace Go.Proofs.Ytcmnmogmdhofcab.form
open Go.RowKit Go.Proofs.Ytcmnmogmdhofcab.num
set_option linter.unusedVariables false
set_option maxRecDepth 100000
attribute [local go_sem ↓] Go.wp_at_zero Go.wp_at_succ

/-- A copy of the ins, below a block. -/
def InNew (w : World) (mb : Nat) (v : Value) (I : List Int) : Prop :=
  ∃ ai cap, v = .slice ai I.length cap ∧ I.length ≤ cap ∧ (0 < I.length → ∃ g, ai = some ⟨g, 0, none⟩ ∧ g < mb ∧ ∀ j, j < I.length → w.cell? ⟨g, j, none⟩ = some (.int .u32 (I.getD j 0)))

theorem InNew.ins {w w' : World} {mb sb base : Nat} {v : Value} {I : List Int} (h : InNew w mb v I) (hb : Below w.heap.size w w') (h40 : I.length ≤ 40) (hI : ∀ j, j < I.length → 0 ≤ I.getD j 0 ∧ I.getD j 0 < 4294967296) (hs : mb < sb) (hz : mb < base) : InsIs mb sb base w' v I := by
  obtain ⟨ai, cap, e, h1, h2⟩ := h
  refine ⟨ai, cap, e, h1, h40, hI, fun h0 => ?_⟩
  obtain ⟨g, e2, hg, hc⟩ := h2 h0
  exact ⟨g, 0, e2, by omega, by omega, by omega, fun j hj => by rw [Nat.zero_add]; exact step_cell hb (hc j hj)⟩

theorem own_new {w : World} {base g cap : Nat} {I : List Int} (h : w.ownsRow base 69 1 (.slice (some ⟨g, 0, none⟩) I.length cap) I.length (I.map (Value.int .u32))) (h0 : 0 < I.length) : I.length ≤ cap ∧ ∀ j, j < I.length → w.cell? ⟨g, j, none⟩ = some (.int .u32 (I.getD j 0)) := by
  rcases h.2 with ⟨h1, _⟩ | ⟨g', cap', cur, hv, hb, hg, hn, hc, hs, ht⟩
  · cases h1
  · injection hv with e1 e2 e3
    injection e1 with e4
    injection e4 with e5
    subst e5 e3
    refine ⟨hn, fun j hj => ?_⟩
    rw [cell_of_row w g j _ _ (0, 0) hg]
    have h2 : (cur.toList.take (I.length * 1))[j]? = (I.map (Value.int .u32))[j]? := by rw [ht]
    rw [List.getElem?_take_of_lt (by omega)] at h2
    rw [← Array.getElem?_toList, h2]
    simp [List.getD, hj]

theorem nil32 (ai : Option Addr) (n c : Nat) (w : World) : Sem.run Try.prog (binOp .eql 49 (.slice ai n c) (.slice none 0 0)) w = .ok (.bool ai.isNone) w := by
  simp only [binOp]
  simp [run_equal_slice_nil w 49 69 ai n c Try.underlying49]

theorem clone (iv : Value) (I : List Int) (w : World) (h : InArg w iv I) (h40 : I.length ≤ 40) :
    Calls Try.prog 84 #[iv] w fun e w' => (∃ v, e = .returned v ∧ InNew w' w'.heap.size v I) ∧ Below w.heap.size w w' := by
  obtain ⟨ai, cap, rfl, h1, h2, h3, h4⟩ := h
  have hnil := nil32 ai I.length cap
  rcases Nat.eq_zero_or_pos I.length with h0 | h0
  · obtain rfl : I = [] := List.length_eq_zero_iff.1 h0
    clear h4 h3 h2
    cases ai with
    | none =>
      have hnil := nil32 none 0 cap
      go_enter Try.func84, Try.ntmps84
      go_wp2
      go_ret
      exact ⟨⟨_, rfl, none, 0, rfl, by simp, fun h => absurd h (by simp)⟩, Below.refl _ _⟩
    | some a =>
      have hnil := nil32 (some a) 0 cap
      have HB : Hid (∀ o : Obj, Below w.heap.size w (w.alloc o)) := fun o => (Below.refl _ _).alloc (Nat.le_refl _) _
      go_enter Try.func84, Try.ntmps84
      go_wp2
      go_ret
      exact ⟨⟨_, rfl, _, 0, rfl, by simp, fun h => absurd h (by simp)⟩, HB.out _⟩
  · obtain ⟨b, o, rfl, hb, hc⟩ := h4 h0
    obtain ⟨t0', hi0, hy0, hy1, hy2⟩ := info_parts infU32
    have HC : Hid (∀ j, j < I.length → w.cell? ⟨b, o + j, none⟩ = some (.int .u32 (I.getD j 0))) := hc
    have HW : Hid (World.ownsRow (w.alloc (.cells #[] 69)) w.heap.size 69 1 (.slice (some ⟨w.heap.size, 0, none⟩) 0 0) 0 []) := World.ownsRow_made w #[] 0 (Nat.le_refl _) (by unfold maxLen; omega) (by simp)
    have HN : Hid (∀ j u, (I.map (Value.int .u32))[j]? = some u → (w.alloc (.cells #[] 69)).cell? ((⟨b, o, none⟩ : Addr).add j) = some u) := by
      intro j u hu
      have hj : j < I.length := by
        rcases Nat.lt_or_ge j I.length with h | h
        · exact h
        · rw [List.getElem?_eq_none (by simpa using h)] at hu; cases hu
      have := hc j hj
      rw [List.getElem?_map, List.getElem?_eq_getElem hj] at hu
      simp at hu
      rw [show (⟨b, o, none⟩ : Addr).add j = ⟨b, o + j, none⟩ by simp [Addr.add]]
      rw [step_cell ((Below.refl _ _).alloc (Nat.le_refl _) _) this, ← hu]
      simp [List.getD, hj]
    clear h2 h3 h4 hc
    go_enter Try.func84, Try.ntmps84
    go_wp2_with (at_builtin; refine wpList_append_lies _ rfl _ _ 49 rfl w.heap.size 69 t0' (.int .u32 0) 1 4 Try.underlying49 hi0 hy0 hy1 hy2 rfl (by decide) _ 0 [] rfl HW.out ⟨b, o, none⟩ I.length cap (I.map (Value.int .u32)) rfl (by simp) HN.out (fun u hu => (by simp only [List.mem_map] at hu; obtain ⟨y, -, rfl⟩ := hu; rfl)) h0 (by unfold maxLen; omega) (by omega) (by simp) (w.heap.size + 1) (by simp) ?_; intro g cap2 w1 hown hgrow hat hlt)
    go_ret
    have hbl : Below w.heap.size w w1 := (((Below.refl _ _).alloc (Nat.le_refl _) _)).grown hgrow (by simp) (fun j hj => (World.ownsRow.lt HW.out _ hj).1)
    have hown2 : w1.ownsRow w.heap.size 69 1 (.slice (some ⟨g, 0, none⟩) I.length cap2) I.length (I.map (Value.int .u32)) := by simpa using hown
    obtain ⟨hcap, hcells⟩ := own_new hown2 h0
    exact ⟨⟨_, rfl, some ⟨g, 0, none⟩, cap2, by simp, hcap, fun _ => ⟨g, rfl, hlt, hcells⟩⟩, hbl⟩

theorem newMachine (iv : Value) (I : List Int) (w : World) (h : InArg w iv I) (h40 : I.length ≤ 40) :
    Calls Try.prog 51 #[iv] w fun e w' => ∃ mb iv', e = .returned (.pointer (some ⟨mb, 0, none⟩)) ∧ w.heap.size ≤ mb ∧ w'.heap.size = mb + 1 ∧ Row w' mb 118 (macV 0 0 0 (.slice none 0 0) iv') ∧ InNew w' mb iv' I ∧ Below w.heap.size w w' := by
  have HA : Hid (InArg w iv I) := h
  clear h
  go_enter Try.func51, Try.ntmps51
  go_wp2_with (go_at_call 84; refine (clone iv I _ HA.out h40).mono ?_; rintro e w1 ⟨⟨v, rfl, hn⟩, hb1⟩; have HN : Hid _ := hn; obtain ⟨ai, cap, rfl, -, -⟩ := hn)
  go_ret
  have hba : Below w1.heap.size w1 (w1.alloc (.cells (macV 0 0 0 (.slice none 0 0) (.slice ai I.length cap)).toArray 118)) := (Below.refl _ _).alloc (Nat.le_refl _) _
  refine ⟨w1.heap.size, .slice ai I.length cap, rfl, hb1.size, by simp, Row.new w1 _ _, ?_, step_below hba hb1⟩
  obtain ⟨ai', cap', e, g1, g2⟩ := HN.out
  refine ⟨ai', cap', e, g1, fun h0 => ?_⟩
  obtain ⟨g, e2, hg, hc⟩ := g2 h0
  exact ⟨g, e2, hg, fun j hj => step_cell hba (hc j hj)⟩

/-- What is wrong with what comes in, or with the steps. -/
def wrongN (nI : Nat) (steps : Int) : Int := if 40 < nI then 1 else if steps < 0 ∨ 3000 < steps then 3 else 0
theorem wrongN_of {B : List Bool} {C : List LIns} {nI : Nat} {steps : Int} : wrongI B C nI steps = if refMayB B C = true then wrongN nI steps else 2 := by
  unfold wrongI wrongN
  cases refMayB B C <;> simp

theorem wrongO (ai : Option Addr) (nI ci : Nat) (steps : Int) (w : World) :
    Calls Try.prog 50 #[.slice ai nI ci, .int .i64 steps] w fun e w' => e = .returned (.int .i64 (wrongN nI steps)) ∧ w' = w := by
  go_enter Try.func50, Try.ntmps50
  go_wp2
  all_goals
    go_ret
    refine ⟨ret_int ?_, rfl⟩
    unfold wrongN
    simp_all
  all_goals omega
end Go.Proofs.Ytcmnmogmdhofcab.form

/- The ends of an instruction on temporaries, in the array of the program's run: ends and its closures. -/
namespace Go.Proofs.Ytcmnmogmdhofcab.form
open Go.RowKit Go.Proofs.Ytcmnmogmdhofcab.num
set_option linter.unusedVariables false
set_option maxRecDepth 100000
attribute [local go_sem ↓] Go.wp_at_zero Go.wp_at_succ

/-- The temporaries in their array. -/
def arr (ts : List Int) : List Int := ts ++ List.replicate (12 - ts.length) 0
def tempK (nB : Nat) : StoK := ⟨List Int, 108, fun ts => (arr ts).map (Value.int .u64), fun ts => ts.length = nB ∧ ∀ j, U64i (ts.getD j 0)⟩

section
variable {nB mb sb db bt bi : Nat} {ts : List Int} {i : LIns} {w : World}

theorem arr_at (h : Row w sb 108 ((arr ts).map (Value.int .u64))) {j : Nat} (hj : j < ts.length) : w.cell? ⟨sb, j, none⟩ = some (.int .u64 (ts.getD j 0)) := by
  rw [h.cell, List.getElem?_map]
  unfold arr
  rw [List.getElem?_append_left hj]
  simp [List.getD, hj]
theorem arr_put (h : Row w sb 108 ((arr ts).map (Value.int .u64))) {j : Nat} (hj : j < ts.length) (v : Int) : Row (w.setCell ⟨sb, j, none⟩ (.int .u64 v)) sb 108 ((arr (ts.set j v)).map (Value.int .u64)) := by
  have := h.set j (.int .u64 v)
  have e : ((arr ts).map (Value.int .u64)).set j (.int .u64 v) = (arr (ts.set j v)).map (Value.int .u64) := by
    rw [← List.map_set]
    unfold arr
    simp [hj]
  rwa [e] at this

/-- The variables that the ends have caught. -/
structure TBox (mb sb db bt bi : Nat) (i : LIns) (w : World) : Prop where
  pt : w.cell? ⟨bt, 0, none⟩ = some (.pointer (some ⟨sb, 0, none⟩))
  i1 : w.cell? ⟨bi, 1, none⟩ = some (.int .i64 i.dest)
  i2 : w.cell? ⟨bi, 2, none⟩ = some (.int .i64 i.a)
  i3 : w.cell? ⟨bi, 3, none⟩ = some (.int .i64 i.b)
  n1 : bt ≠ mb
  n2 : bi ≠ mb
  s1 : bt ≠ sb
  s2 : bi ≠ sb
  m1 : bt ≠ db
  m2 : bi ≠ db
theorem TBox.kept {w' : World} (h : TBox mb sb db bt bi i w) (hk : Kept mb sb db w w') : TBox mb sb db bt bi i w' :=
  ⟨hk.cell h.pt h.n1 h.s1 h.m1, hk.cell h.i1 h.n2 h.s2 h.m2, hk.cell h.i2 h.n2 h.s2 h.m2, hk.cell h.i3 h.n2 h.s2 h.m2, h.n1, h.n2, h.s1, h.s2, h.m1, h.m2⟩

theorem tend1 (hb : TBox mb sb db bt bi i w) (h : Row w sb 108 ((arr ts).map (Value.int .u64))) (h12 : ts.length ≤ 12) (ha0 : 0 ≤ i.a) (ha1 : i.a < ts.length) :
    Calls Try.prog 91 #[.pointer (some ⟨bt, 0, none⟩), .pointer (some ⟨bi, 0, none⟩)] w fun e w' => e = .returned (.int .u64 (ts.getD i.a.toNat 0)) ∧ Below w.heap.size w w' := by
  have c0 := hb.pt
  have c2 := hb.i2
  have ca := arr_at h (show i.a.toNat < ts.length by omega)
  have y1 : i.a < 12 := by omega
  generalize ts.getD i.a.toNat 0 = a at *
  clear hb h h12 ha1
  go_enter Try.func91, Try.ntmps91
  go_wp2
  go_quiet (fail)
  go_wp2
  go_ret
  exact ⟨rfl, below_drewN (Below.refl _ _) _⟩

theorem tend2 (hb : TBox mb sb db bt bi i w) (h : Row w sb 108 ((arr ts).map (Value.int .u64))) (h12 : ts.length ≤ 12) (ha0 : 0 ≤ i.b) (ha1 : i.b < ts.length) :
    Calls Try.prog 92 #[.pointer (some ⟨bt, 0, none⟩), .pointer (some ⟨bi, 0, none⟩)] w fun e w' => e = .returned (.int .u64 (ts.getD i.b.toNat 0)) ∧ Below w.heap.size w w' := by
  have c0 := hb.pt
  have c3 := hb.i3
  have ca := arr_at h (show i.b.toNat < ts.length by omega)
  have y1 : i.b < 12 := by omega
  generalize ts.getD i.b.toNat 0 = a at *
  clear hb h h12 ha1
  go_enter Try.func92, Try.ntmps92
  go_wp2
  go_quiet (fail)
  go_wp2
  go_ret
  exact ⟨rfl, below_drewN (Below.refl _ _) _⟩

theorem tend3 (x : Int) (hb : TBox mb sb db bt bi i w) (h : Row w sb 108 ((arr ts).map (Value.int .u64))) (h12 : ts.length ≤ 12) (ha0 : 0 ≤ i.dest) (ha1 : i.dest < ts.length) :
    Calls Try.prog 93 #[.int .u64 x, .pointer (some ⟨bt, 0, none⟩), .pointer (some ⟨bi, 0, none⟩)] w fun e w' => e = .returned (.tuple #[]) ∧ Row w' sb 108 ((arr (ts.set i.dest.toNat x)).map (Value.int .u64)) ∧ Only sb w w' := by
  have c0 := hb.pt
  have c1 := hb.i1
  have ca := arr_at h (show i.dest.toNat < ts.length by omega)
  have fz := h.frozen i.dest.toNat
  have y1 : i.dest < 12 := by omega
  have q1 : bt ≠ sb := hb.s1
  have q2 : bi ≠ sb := hb.s2
  have HR : Hid (Row (w.setCell ⟨sb, i.dest.toNat, none⟩ (.int .u64 x)) sb 108 ((arr (ts.set i.dest.toNat x)).map (Value.int .u64))) := arr_put h (by omega) x
  have HO : Hid (Only sb w (w.setCell ⟨sb, i.dest.toNat, none⟩ (.int .u64 x))) := (Only.refl _ _).set _ _
  clear hb h h12 ha1
  go_enter Try.func93, Try.ntmps93
  go_wp2
  go_region_held3 (fun w' => w'.cell? ⟨bt, 0, none⟩ = some (.pointer (some ⟨sb, 0, none⟩)) ∧ w'.cell? ⟨bi, 1, none⟩ = some (.int .i64 i.dest))
    ((go_split_ands; refine ⟨?_, ?_⟩ <;> first | assumption | exact cell_other (by assumption) q1 | exact cell_other (by assumption) q2 | (go_keep; done)))
    (fail)
  go_wp2
  go_end0
  exact ⟨rfl, HR.out, HO.out.trans (Only.of_below (Below.refl _ _).drew)⟩

theorem temp_read1 (hb : TBox mb sb db bt bi i w) (h12 : nB ≤ 12) (ha0 : 0 ≤ i.a) (ha1 : i.a < nB) : ReadSpec (tempK nB) mb sb db w 91 #[.pointer (some ⟨bt, 0, none⟩), .pointer (some ⟨bi, 0, none⟩)] (fun (s : List Int) => s.getD i.a.toNat 0) := by
  refine ⟨fun w => rfl, fun (s : List Int) hs => hs.2 _, ?_⟩
  intro s w' hk hz hr ho
  obtain ⟨h1, h2⟩ := ho
  exact tend1 (ts := s) (hb.kept hk) hr (by omega) ha0 (by omega)
theorem temp_read2 (hb : TBox mb sb db bt bi i w) (h12 : nB ≤ 12) (ha0 : 0 ≤ i.b) (ha1 : i.b < nB) : ReadSpec (tempK nB) mb sb db w 92 #[.pointer (some ⟨bt, 0, none⟩), .pointer (some ⟨bi, 0, none⟩)] (fun (s : List Int) => s.getD i.b.toNat 0) := by
  refine ⟨fun w => rfl, fun (s : List Int) hs => hs.2 _, ?_⟩
  intro s w' hk hz hr ho
  obtain ⟨h1, h2⟩ := ho
  exact tend2 (ts := s) (hb.kept hk) hr (by omega) ha0 (by omega)
theorem temp_write (hb : TBox mb sb db bt bi i w) (h12 : nB ≤ 12) (ha0 : 0 ≤ i.dest) (ha1 : i.dest < nB) : WriteSpec (tempK nB) mb sb db w 93 (.pointer (some ⟨bt, 0, none⟩)) (.pointer (some ⟨bi, 0, none⟩)) (fun (s : List Int) x => s.set i.dest.toNat x) := by
  refine ⟨fun x w => rfl, fun (s : List Int) x hs hx => ⟨by rw [List.length_set]; exact hs.1, getD_set_bd hs.2 hx⟩, ?_⟩
  intro s x w' hk hz hr ho hx
  obtain ⟨h1, h2⟩ := ho
  exact tend3 (ts := s) x (hb.kept hk) hr (by omega) ha0 (by omega)

/-- The ends of an instruction. -/
theorem tempEnds (nC : Nat) (hi : InsOk nB nC i) (h12 : nB ≤ 12) (w : World) (hmb : mb < w.heap.size) (hsb : sb < w.heap.size) (hdb : db < w.heap.size) :
    Calls Try.prog 53 #[.pointer (some ⟨sb, 0, none⟩), i.val] w fun e w' => (∃ x : EndF, e = .returned x.val ∧ EndsIs (tempK nB) mb sb db w' x (tempE i).rdA (tempE i).rdB (tempE i).wr (givesB i.op = true)) ∧ Below w.heap.size w w' := by
  have HI : Hid (InsOk nB nC i) := hi
  have HT : Hid (∀ o : Obj, TBox mb sb db w.heap.size (w.heap.size + 1) i (((w.alloc (.cells #[.pointer (some ⟨sb, 0, none⟩)] 106)).alloc (.cells #[.int .i64 i.op, .int .i64 i.dest, .int .i64 i.a, .int .i64 i.b, .int .i64 i.c, .int .u32 i.n] 71)).alloc o)) := by
    intro o
    refine ⟨?_, ?_, ?_, ?_, by omega, by omega, by omega, by omega, by omega, by omega⟩ <;> simp [go_sem]
  have HB : Hid (∀ o1 o2 o3 : Obj, Below w.heap.size w (((w.alloc o1).alloc o2).alloc o3)) := fun o1 o2 o3 => (((Below.refl _ _).alloc (Nat.le_refl _) _).alloc (by simp) _).alloc (by simp; omega) _
  clear hi
  unfold LIns.val
  go_enter Try.func53, Try.ntmps53
  go_wp2
  refine bodyPost_ret (v := EndF.val ⟨91, #[.pointer (some ⟨w.heap.size, 0, none⟩), .pointer (some ⟨w.heap.size + 1, 0, none⟩)], 92, #[.pointer (some ⟨w.heap.size, 0, none⟩), .pointer (some ⟨w.heap.size + 1, 0, none⟩)], 93, .pointer (some ⟨w.heap.size, 0, none⟩), .pointer (some ⟨w.heap.size + 1, 0, none⟩)⟩) ?_ rfl ⟨⟨_, rfl, ?_⟩, ?_⟩
  · simp [results, Try.results53, go_sem, EndF.val]
  · refine ⟨temp_read1 ?_ h12 HI.out.a0 HI.out.a1, temp_read2 ?_ h12 HI.out.b0 HI.out.b1, fun hg => temp_write ?_ h12 (HI.out.d hg).1 (HI.out.d hg).2⟩
    all_goals exact HT.out _
  · exact HB.out _ _ _
end
end Go.Proofs.Ytcmnmogmdhofcab.form

/- The program's own run.Run: what is wrong, or what the machine on plain numbers shows. -/
namespace Go.Proofs.Ytcmnmogmdhofcab.form
open Go.RowKit Go.Proofs.Ytcmnmogmdhofcab.num
set_option linter.unusedVariables false
attribute [local go_sem ↓] Go.wp_at_zero Go.wp_at_succ

theorem infoFunc : (Try.prog.info? 1).map (fun i => (i.zero, i.size, i.bytes)) = some (some .nilFunc, 1, 8) := by kernel_rfl

theorem made_func (n : Nat) : madeCells #[Value.nilFunc] n = (List.replicate n Value.nilFunc).toArray := by
  apply Array.toList_inj.1
  rw [toList_madeCells_one]

/-- The closures that are made up to some instruction. -/
structure DeedsS (K : StoK) (w : World) (mb sb : Nat) (C : List LIns) (E : Nat → Eff K.S) (k : Nat) (cs : List Value) (wr : World) : Prop where
  bel : Below w.heap.size w wr
  row : Row wr w.heap.size 1 cs
  len : cs.length = C.length
  spec : ∀ j, j < k → ∃ F caps, cs.getD j .nilFunc = .func (.func F) #[] caps ∧ DeedSpec K mb sb w.heap.size (C.getD j .zero) (E j) wr F caps

theorem deeds_start (K : StoK) (w : World) (mb sb : Nat) (C : List LIns) (E : Nat → Eff K.S) : DeedsS K w mb sb C E 0 (List.replicate C.length .nilFunc) (w.alloc (.cells (madeCells #[Value.nilFunc] C.length) 1)) :=
  ⟨(Below.refl _ _).alloc (Nat.le_refl _) _, by rw [made_func]; exact Row.new w _ _, by simp, fun j hj => absurd hj (by omega)⟩

theorem deeds_step {K : StoK} {w : World} {mb sb : Nat} {C : List LIns} {E : Nat → Eff K.S} {k : Nat} {cs : List Value} {wr w1 : World} (h : DeedsS K w mb sb C E k cs wr) (hlt : k < C.length) (hb : Below wr.heap.size wr w1) {F : Nat} {caps : Array Value} (hs : DeedSpec K mb sb w.heap.size (C.getD k .zero) (E k) w1 F caps) :
    DeedsS K w mb sb C E (k + 1) (cs.set k (.func (.func F) #[] caps)) (w1.setCell ⟨w.heap.size, k, none⟩ (.func (.func F) #[] caps)) := by
  have hln := h.len
  refine ⟨(step_below hb h.bel).setCell (by simp) _, (h.row.below hb).set k _, by simp [hln], fun j hj => ?_⟩
  have hz1 : (w1.setCell ⟨w.heap.size, k, none⟩ (.func (.func F) #[] caps)).heap.size = w1.heap.size := by simp [World.setCell]
  by_cases hjk : j = k
  · subst hjk
    refine ⟨F, caps, by simp [List.getD, hln, hlt], hs.later (Kept.set _ _ _) (by omega)⟩
  · obtain ⟨F', caps', e, hs'⟩ := h.spec j (by omega)
    refine ⟨F', caps', ?_, (hs'.later (Kept.of_below hb) hb.size).later (Kept.set _ _ _) (by omega)⟩
    rw [← e]
    simp [List.getD, Ne.symm hjk]

theorem start_ms {K : StoK} {w w' : World} {mb sb base : Nat} {iv : Value} {I : List Int} {s : K.S} (hr : Row w mb 118 (macV 0 0 0 (.slice none 0 0) iv)) (hn : InNew w mb iv I) (hb : Below w.heap.size w w') (hs : Row w' sb K.T (K.enc s)) (hk : K.ok s) (h40 : I.length ≤ 40) (hI : ∀ j, j < I.length → 0 ≤ I.getD j 0 ∧ I.getD j 0 < 4294967296)
    (hsb : mb < sb) (hz : sb < base) (hsz : base ≤ w'.heap.size) : MS K mb sb base s (.slice none 0 0) [] 0 0 iv I 0 w' :=
  ⟨hr.below hb, hs, hk, by omega, by omega, hz, hsz, World.ownsRow_nil _ _ _ _, hn.ins hb h40 hI hsb (by omega)⟩

theorem temps_start (n : Nat) (h : n ≤ 12) : (tempK n).ok (List.replicate n (0 : Int)) := by
  refine ⟨by simp, fun j => ?_⟩
  have : (List.replicate n (0 : Int)).getD j 0 = 0 := by by_cases hj : j < n <;> simp [List.getD, hj]
  rw [this]
  exact ⟨by omega, by omega⟩
theorem arr_start (n : Nat) (h : n ≤ 12) : arr (List.replicate n 0) = List.replicate 12 0 := by
  unfold arr
  rw [List.length_replicate, List.replicate_append_replicate, show n + (12 - n) = 12 by omega]

set_option maxRecDepth 100000 in
set_option maxHeartbeats 1000000 in
theorem runRun_no (v : Value) (B : List Bool) (C : List LIns) (iv : Value) (I : List Int) (steps : Int) (w : World) (h : ProgIs w v B C) (hI : InArg w iv I) (hx0 : ¬ wrongI B C I.length steps = 0) :
    Calls Try.prog 21 #[v, iv, .int .i64 steps] w fun e w' =>
      (∃ sv, e = .returned (.tuple #[sv, .int .i64 (wrongI B C I.length steps)]) ∧ ShownIs w' sv (resM B C I steps).state (resM B C I steps).out (resM B C I steps).steps) ∧ Below w.heap.size w w' := by
  have h0 := h
  obtain ⟨⟨a0, c0, a1, c1, rfl, -⟩, -, -, -⟩ := h0
  have HP : Hid (ProgIs w (.agg #[.slice a0 B.length c0, .slice a1 C.length c1]) B C) := h
  obtain ⟨ai, ci, rfl, -, -, -, -⟩ := hI
  have hres : resM B C I steps = ⟨0, [], 0, [], 0, 0⟩ := by unfold resM; rw [if_neg hx0]
  rw [hres]
  have hs := may_same B C
  have HS : Hid (mayB B C = refMayB B C) := hs
  have HW : Hid (Below w.heap.size w ((w.alloc (.cells #[.slice a0 B.length c0, .slice a1 C.length c1] 25)).alloc (.cells #[.int .i64 0, .slice none 0 0, .int .i64 0] 52))) := ((Below.refl _ _).alloc (Nat.le_refl _) _).alloc (by simp) _
  have hwr := wrongN_of (B := B) (C := C) (nI := I.length) (steps := steps)
  have HSH : Hid (∀ w' : World, ShownIs w' (.agg #[.int .i64 0, .slice none 0 0, .int .i64 0]) 0 [] 0) := fun w' => ⟨_, rfl, none, 0, rfl, by simp, fun hh => absurd hh (by simp)⟩
  clear hres hs h
  cases hm : refMayB B C with
  | false =>
    rw [hm, if_neg (by simp)] at hwr
    rw [hwr]
    have HM : Hid (refMayB B C = false) := hm
    clear hwr hm hx0
    go_enter Try.func21, Try.ntmps21
    go_wp2_with fail
    go_at_call 49
    refine (may _ B C _ (HP.out.later HW.out)).mono ?_
    rw [HS.out, HM.out]
    rintro e w1 ⟨rfl, hb1⟩
    have hr1 := (Row.new (w.alloc (.cells #[.slice a0 B.length c0, .slice a1 C.length c1] 25)) 52 [.int .i64 0, .slice none 0 0, .int .i64 0]).below hb1
    simp at hr1
    have f0 := hr1.frozen 0
    have f1 := hr1.frozen 1
    have f2 := hr1.frozen 2
    have r0 := hr1.cell 0
    have r1 := hr1.cell 1
    have r2 := hr1.cell 2
    simp at r0 r1 r2
    have HR1 : Hid (Row w1 (w.heap.size + 1) 52 [.int .i64 0, .slice none 0 0, .int .i64 0]) := hr1
    have HB1 : Hid (Below w.heap.size w w1) := step_below hb1 HW.out
    clear hr1 hb1
    go_wp2
    have r3 := ((HR1.out.set 0 (.int .i64 0)).set 1 (.slice none 0 0)).set 2 (.int .i64 0)
    have g0 := r3.cell 0
    have g1 := r3.cell 1
    have g2 := r3.cell 2
    simp at g0 g1 g2
    refine bodyPost_ret (v := .tuple #[.agg #[.int .i64 0, .slice none 0 0, .int .i64 0], .int .i64 2]) ?_ rfl ⟨⟨_, rfl, HSH.out _⟩, ?_⟩
    · simp [results, Try.results21, go_sem, g0, g1, g2]
    · exact ((HB1.out.setCell (by dsimp only; omega) _).setCell (by dsimp only; omega) _).setCell (by dsimp only; omega) _
  | true =>
    rw [hm, if_pos rfl] at hwr
    rw [hwr] at hx0 ⊢
    have HM : Hid (refMayB B C = true) := hm
    clear hwr hm
    obtain ⟨x, hx⟩ : ∃ x, x = wrongN I.length steps := ⟨_, rfl⟩
    rw [← hx] at hx0 ⊢
    have HX : Hid (wrongN I.length steps = x) := hx.symm
    have e1 : (x != 0) = true := by simp [hx0]
    clear hx hx0
    go_enter Try.func21, Try.ntmps21
    go_wp2_with fail
    go_at_call 49
    refine (may _ B C _ (HP.out.later HW.out)).mono ?_
    rw [HS.out, HM.out]
    rintro e w1 ⟨rfl, hb1⟩
    have hr1 := (Row.new (w.alloc (.cells #[.slice a0 B.length c0, .slice a1 C.length c1] 25)) 52 [.int .i64 0, .slice none 0 0, .int .i64 0]).below hb1
    simp at hr1
    have f0 := hr1.frozen 0
    have f1 := hr1.frozen 1
    have f2 := hr1.frozen 2
    have r0 := hr1.cell 0
    have r1 := hr1.cell 1
    have r2 := hr1.cell 2
    simp at r0 r1 r2
    have HR1 : Hid (Row w1 (w.heap.size + 1) 52 [.int .i64 0, .slice none 0 0, .int .i64 0]) := hr1
    have HB1 : Hid (Below w.heap.size w w1) := step_below hb1 HW.out
    clear hr1 hb1
    go_wp2_with (go_at_call 50; refine (wrongO _ _ _ _ _).mono ?_; rw [HX.out]; rintro e w2 ⟨rfl, hw2⟩; obtain rfl := hw2.symm)
    have r3 := ((HR1.out.set 0 (.int .i64 0)).set 1 (.slice none 0 0)).set 2 (.int .i64 0)
    have g0 := r3.cell 0
    have g1 := r3.cell 1
    have g2 := r3.cell 2
    simp at g0 g1 g2
    refine bodyPost_ret (v := .tuple #[.agg #[.int .i64 0, .slice none 0 0, .int .i64 0], .int .i64 x]) ?_ rfl ⟨⟨_, rfl, HSH.out _⟩, ?_⟩
    · simp [results, Try.results21, go_sem, g0, g1, g2]
    · exact ((HB1.out.setCell (by dsimp only; omega) _).setCell (by dsimp only; omega) _).setCell (by dsimp only; omega) _

end Go.Proofs.Ytcmnmogmdhofcab.form

/- The program's own run.Run, where nothing is wrong: it shows what the machine on plain numbers shows. -/
namespace Go.Proofs.Ytcmnmogmdhofcab.form
open Go.RowKit Go.Proofs.Ytcmnmogmdhofcab.num
set_option linter.unusedVariables false
attribute [local go_sem ↓] Go.wp_at_zero Go.wp_at_succ

theorem wok_act {B : List Bool} {nC : Nat} {i : LIns} {s : List Int} {x : Int} (h : insB B nC i = true) (hi : InsOk B.length nC i) (hl : s.length = B.length) (hb : ∀ j, U64i (s.getD j 0)) (hw : WOk B s) (hx0 : 0 ≤ x) (hx1 : x < 4294967296) : WOk B ((tempE i).act i s x) := by
  show WOk B (if givesB i.op = true then s.set i.dest.toNat (gvI i (s.getD i.a.toNat 0) (s.getD i.b.toNat 0) x) else s)
  split
  · rename_i hg
    obtain ⟨hd0, hd1⟩ := hi.d hg
    intro j hj hB
    by_cases hjd : i.dest.toNat = j
    · rw [show (s.set i.dest.toNat (gvI i (s.getD i.a.toNat 0) (s.getD i.b.toNat 0) x)).getD j 0 = gvI i (s.getD i.a.toNat 0) (s.getD i.b.toNat 0) x by rw [hjd]; simp [List.getD, hl, hj]]
      exact wok_give h hi hw hb hx0 hx1 hg (by rw [hjd]; exact hB)
    · have := hw j hj hB
      generalize i.dest.toNat = d at hjd ⊢
      simpa [List.getD, hjd] using this
  · exact hw

set_option maxRecDepth 100000 in
set_option maxHeartbeats 4000000 in
theorem runRun_yes (v : Value) (B : List Bool) (C : List LIns) (iv : Value) (I : List Int) (steps : Int) (w : World) (h : ProgIs w v B C) (hI : InArg w iv I) (hx : wrongI B C I.length steps = 0) :
    Calls Try.prog 21 #[v, iv, .int .i64 steps] w fun e w' =>
      (∃ sv, e = .returned (.tuple #[sv, .int .i64 (wrongI B C I.length steps)]) ∧ ShownIs w' sv (resM B C I steps).state (resM B C I steps).out (resM B C I steps).steps) ∧ Below w.heap.size w w' := by
  have HIA : Hid (InArg w iv I) := hI
  have h0 := h
  obtain ⟨⟨a0, c0, a1, c1, rfl, hh⟩, -, -, hnum⟩ := h0
  have HP : Hid (ProgIs w (.agg #[.slice a0 B.length c0, .slice a1 C.length c1]) B C) := h
  obtain ⟨ai, ci, rfl, -, -, hib, -⟩ := hI
  have HIB : Hid (∀ j, j < I.length → 0 ≤ I.getD j 0 ∧ I.getD j 0 < 4294967296) := hib
  obtain ⟨hmay, h40, hs0, hs1⟩ := wrong_zero hx
  have hsz : sizesB B C = true := by unfold refMayB at hmay; simp only [Bool.and_eq_true] at hmay; exact hmay.1
  obtain ⟨s1, s2, s3, s4⟩ := sizes_of hsz
  obtain ⟨b0, o0, b1, o1, rfl, rfl, hheld⟩ := hh s1 s3
  have HHE : Hid (Held w b0 o0 b1 o1 B C) := hheld
  have HOK : Hid (∀ k, k < C.length → InsOk B.length C.length (C.getD k .zero)) := all_insOk hmay hnum
  have hinsB : ∀ k, k < C.length → insB B C.length (C.getD k .zero) = true := by
    intro k hk
    unfold refMayB at hmay
    simp only [Bool.and_eq_true] at hmay
    exact List.all_eq_true.1 hmay.2 (C.getD k .zero) (by simp [List.getD, hk])
  have HINS : Hid (∀ k, k < C.length → insB B C.length (C.getD k .zero) = true) := hinsB
  obtain ⟨n, hn⟩ : ∃ n : Nat, steps = n := Int.eq_ofNat_of_zero_le hs0
  subst hn
  have hres : resM B C I n = playM B C I n := by unfold resM; rw [if_pos hx]; simp
  have HMW : Hid (mayB B C = true) := by show mayB B C = true; rw [may_same, hmay]
  have HWN : Hid (wrongN I.length n = 0) := by
    have := wrongN_of (B := B) (C := C) (nI := I.length) (steps := (n : Int))
    rw [hmay, if_pos rfl, hx] at this
    exact this.symm
  rw [hres, hx]
  have hb1 := hheld.lt1
  have HW : Hid (Below w.heap.size w ((w.alloc (.cells #[.slice (some ⟨b0, o0, none⟩) B.length c0, .slice (some ⟨b1, o1, none⟩) C.length c1] 25)).alloc (.cells #[.int .i64 0, .slice none 0 0, .int .i64 0] 52))) := ((Below.refl _ _).alloc (Nat.le_refl _) _).alloc (by simp) _
  have z40 : (C.length : Int) ≤ 40 := by omega
  have z3 : (n : Int) ≤ 3000 := by omega
  have hmk := fun wx => run_make_row' (P := Try.prog) 109 1 .nilFunc 8 Try.underlying109 infoFunc rfl .i64 .i64 C.length (by omega) (by omega) wx
  clear hmay hsz hheld hinsB hres hnum hh hib hx h hs0 hs1
  go_enter Try.func21, Try.ntmps21
  go_wp2_with fail
  go_at_call 49
  refine (may _ B C _ (HP.out.later HW.out)).mono ?_
  rw [HMW.out]
  rintro e w1 ⟨rfl, hb1w⟩
  have hr1 := (Row.new (w.alloc (.cells #[.slice (some ⟨b0, o0, none⟩) B.length c0, .slice (some ⟨b1, o1, none⟩) C.length c1] 25)) 52 [.int .i64 0, .slice none 0 0, .int .i64 0]).below hb1w
  simp at hr1
  have HR1 : Hid (Row w1 (w.heap.size + 1) 52 [.int .i64 0, .slice none 0 0, .int .i64 0]) := hr1
  have HC1 : Hid (w1.cell? ⟨w.heap.size, 1, none⟩ = some (.slice (some ⟨b1, o1, none⟩) C.length c1)) := step_cell hb1w (by simp [go_sem])
  have HB1 : Hid (Below w.heap.size w w1) := step_below hb1w HW.out
  have hz1 : w.heap.size + 1 < w1.heap.size := hr1.lt
  clear hr1 hb1w
  go_wp2_with fail
  go_at_call 50
  refine (wrongO _ _ _ _ _).mono ?_
  rw [HWN.out]
  rintro e w1' ⟨rfl, hw2⟩
  obtain rfl := hw2.symm
  clear hw2
  go_wp2_with fail
  go_at_call 51
  refine (newMachine _ I _ (HIA.out.later HB1.out) h40).mono ?_
  rintro e w2 ⟨mb, iv', rfl, hm1, hm2, hrow, hnew, hb2⟩
  have cp2 := step_cell hb2 HC1.out
  have HR2 : Hid (Row w2 (w.heap.size + 1) 52 [.int .i64 0, .slice none 0 0, .int .i64 0]) := HR1.out.below hb2
  have HB2 : Hid (Below w.heap.size w w2) := step_below hb2 HB1.out
  have HROW : Hid (Row w2 mb 118 (macV 0 0 0 (.slice none 0 0) iv')) := hrow
  have HNEW : Hid (InNew w2 mb iv' I) := hnew
  have hz2 : w.heap.size + 1 < w2.heap.size := HR2.out.lt
  have q0 : w.heap.size < w2.heap.size := by omega
  have q1 : w.heap.size < w2.heap.size + 1 := by omega
  have HM2 : Hid (w2.heap.size = mb + 1) := hm2
  have hmlt : mb < w2.heap.size := by omega
  clear hrow hnew hb2 hm2
  obtain ⟨W0, hW0⟩ : ∃ W0, W0 = w2.alloc (.cells #[.int .u64 0, .int .u64 0, .int .u64 0, .int .u64 0, .int .u64 0, .int .u64 0, .int .u64 0, .int .u64 0, .int .u64 0, .int .u64 0, .int .u64 0, .int .u64 0] 108) := ⟨_, rfl⟩
  have hW0z : W0.heap.size = w2.heap.size + 1 := by rw [hW0]; simp
  have HBW0 : Hid (Below w2.heap.size w2 W0) := by rw [hW0]; exact (Below.refl _ _).alloc (Nat.le_refl _) _
  have HSTO : Hid (Row W0 w2.heap.size 108 ((tempK B.length).enc (List.replicate B.length (0 : Int)))) := by
    show Row W0 w2.heap.size 108 ((arr (List.replicate B.length 0)).map (Value.int .u64))
    rw [arr_start _ s2, hW0]
    exact Row.new w2 _ _
  have HD0 : Hid (DeedsS (tempK B.length) W0 mb w2.heap.size C (fun k => tempE (C.getD k .zero)) 0 (List.replicate C.length .nilFunc) (W0.alloc (.cells (madeCells #[Value.nilFunc] C.length) 1))) := deeds_start _ _ _ _ _ _
  go_wp2
  rw [← hW0]
  go_loopw [36] (fun t wr => ∃ (k : Nat) (cs : List Value), k ≤ C.length ∧ t = .int .i64 k ∧ DeedsS (tempK B.length) W0 mb w2.heap.size C (fun k => tempE (C.getD k .zero)) k cs wr) (fun t _ => C.length - (intOf t).toNat)
  case atStart => exact ⟨0, _, by omega, rfl, HD0.out⟩
  case round =>
    obtain ⟨k, cs, hk, rfl, hds⟩ := hrel
    have HD : Hid (DeedsS (tempK B.length) W0 mb w2.heap.size C (fun k => tempE (C.getD k .zero)) k cs wr) := hds
    have hBz := hds.bel.size
    have HBR : Hid (Below w.heap.size w wr) := step_below hds.bel (step_below HBW0.out HB2.out)
    by_cases hlt : k < C.length
    case neg =>
      obtain rfl : k = C.length := by omega
      have y9 : ¬ (C.length : Int) < (C.length : Int) := by omega
      clear hds
      have hroww := HD.out.row
      have hmsw : MS (tempK B.length) mb w2.heap.size wr.heap.size (List.replicate B.length (0 : Int)) (.slice none 0 0) [] 0 0 iv' I 0 wr :=
        start_ms HROW.out HNEW.out (step_below HD.out.bel HBW0.out) (HSTO.out.below HD.out.bel) (temps_start _ s2) h40 HIB.out hmlt (by omega) (Nat.le_refl _)
      have HMSW : Hid _ := hmsw
      have HR3 : Hid (Row wr (w.heap.size + 1) 52 [.int .i64 0, .slice none 0 0, .int .i64 0]) := HR2.out.below (step_below HD.out.bel HBW0.out)
      have HGO : Hid (Calls Try.prog 54 #[.pointer (some ⟨mb, 0, none⟩), .slice (some ⟨w2.heap.size + 1, 0, none⟩) C.length C.length, .int .i64 n] wr fun e w' =>
          e = .returned (.tuple #[]) ∧ Stopped (tempK B.length) mb w2.heap.size wr.heap.size (playM B C I n).gen wr w') := by
        show Calls _ _ _ _ _
        rw [play_gen, ← hW0z]
        exact goOn (tempK B.length) (WOk B) mb w2.heap.size W0.heap.size n B.length C (fun k => tempE (C.getD k .zero)) I (List.replicate B.length (0 : Int)) cs _ _ wr s3 s4 (by omega) HOK.out HIB.out (fun j hj s x h1 h2 h3 h4 => wok_act (HINS.out j hj) (HOK.out j hj) h2.1 h2.2 h1 h3 h4) (fun j hj h5 s h1 h2 => pair_narrow (HINS.out j hj) (HOK.out j hj) h1 h5) (wok_start B) HD.out.row HD.out.len HD.out.spec HD.out.row.lt (by omega) (by omega) HMSW.out
      clear hroww hmsw
      go_wp2_with fail
      go_at_call 54
      refine Calls.mono HGO.out ?_
      rintro e w3 ⟨rfl, ⟨ts, ov, iv3, I3, pc3, hms3⟩, hran⟩
      have hms4 : MS (tempK B.length) mb w2.heap.size wr.heap.size ts ov (playM B C I n).out (playM B C I n).state (playM B C I n).steps iv3 I3 pc3 w3 := hms3
      clear hms3
      obtain ⟨ao, cap, hov, hcells⟩ := own_form32 hms4.own
      subst hov
      have m0 := hms4.cst
      have m1 := hms4.cov
      have m2 := hms4.ck
      have hr3 : Row w3 (w.heap.size + 1) 52 [.int .i64 0, .slice none 0 0, .int .i64 0] := by
        have := HR3.out
        unfold Row at *
        rw [hran.block _ (by omega) (by omega) (by omega)]
        exact this
      have HRS : Hid (Row w3 (w.heap.size + 1) 52 [.int .i64 0, .slice none 0 0, .int .i64 0]) := hr3
      have f0 := hr3.frozen 0
      have f1 := hr3.frozen 1
      have f2 := hr3.frozen 2
      have r0 := hr3.cell 0
      have r1 := hr3.cell 1
      have r2 := hr3.cell 2
      simp at r0 r1 r2
      have hbw3 : Below w.heap.size w w3 := HBR.out.trans ⟨hran.os, hran.tape, hran.output, hran.size, fun j hj => hran.block j (by have := HBR.out.size; omega) (by omega) (by omega)⟩
      have HBW3 : Hid (Below w.heap.size w w3) := hbw3
      have HCE : Hid _ := hcells
      have HML : Hid ((playM B C I n).out.length ≤ 1000000) := by
        have := play_outs B C I n
        show _ ≤ _
        omega
      have HLE : Hid (w.heap.size + 1 < wr.heap.size) := HR3.out.lt
      clear hcells hbw3 hr3 hms4 hran
      generalize hM : playM B C I n = M at m0 m1 m2 HCE HML
      have HM : Hid (playM B C I n = M) := hM
      clear hM
      go_wp2
      have rr := ((HRS.out.set 0 (.int .i64 M.state)).set 1 (.slice ao M.out.length cap)).set 2 (.int .i64 M.steps)
      have g0 := rr.cell 0
      have g1 := rr.cell 1
      have g2 := rr.cell 2
      simp at g0 g1 g2
      refine bodyPost_ret (v := .tuple #[.agg #[.int .i64 M.state, .slice ao M.out.length cap, .int .i64 M.steps], .int .i64 0]) ?_ rfl ⟨⟨_, rfl, ?_⟩, ?_⟩
      · simp [results, Try.results21, go_sem, g0, g1, g2]
      · rw [HM.out]
        refine ⟨_, rfl, ao, cap, rfl, HML.out, fun hp => ?_⟩
        obtain ⟨gb, go, e, hgb, hgl, hgc⟩ := HCE.out hp
        refine ⟨gb, go, e, by simpa [World.setCell] using hgl, fun j hj => ?_⟩
        have hne : gb ≠ w.heap.size + 1 := by have := HLE.out; omega
        exact cell_other (cell_other (cell_other (hgc j hj) hne) hne) hne
      · exact ((HBW3.out.setCell (by dsimp only; omega) _).setCell (by dsimp only; omega) _).setCell (by dsimp only; omega) _
    obtain ⟨d0, d1, d2, d3, d4, d5⟩ := (HHE.out.later HBR.out).code k hlt
    have hio := HOK.out k hlt
    have hiu := known_of (HINS.out k hlt)
    obtain ⟨i, hi⟩ : ∃ i, i = C.getD k .zero := ⟨_, rfl⟩
    rw [← hi] at d0 d1 d2 d3 d4 d5 hio hiu
    have HI : Hid (i = C.getD k .zero) := hi
    have HIO : Hid (InsOk B.length C.length i) := hio
    have HIU : Hid (10 < i.op → 21 ≤ i.op) := hiu
    have y1 : (k : Int) < (C.length : Int) := by omega
    have hrl := hds.row.lt
    have hln := hds.len
    have y3 : w2.heap.size + 1 ≠ wr.heap.size := by omega
    have y4 : w2.heap.size + 1 < wr.heap.size := by omega
    clear hi hio hiu hds hBz
    go_wp2
    obtain ⟨WA, hWA⟩ : ∃ WA, WA = wr.alloc (.cells #[.int .i64 i.op, .int .i64 i.dest, .int .i64 i.a, .int .i64 i.b, .int .i64 i.c, .int .u32 i.n] 71) := ⟨_, rfl⟩
    have HAB : Hid (Below wr.heap.size wr WA) := by rw [hWA]; exact (Below.refl _ _).alloc (Nat.le_refl _) _
    have i0 : WA.cell? ⟨wr.heap.size, 0, none⟩ = some (.int .i64 i.op) := by rw [hWA]; simp [go_sem]
    have i1 : WA.cell? ⟨wr.heap.size, 1, none⟩ = some (.int .i64 i.dest) := by rw [hWA]; simp [go_sem]
    have i2 : WA.cell? ⟨wr.heap.size, 2, none⟩ = some (.int .i64 i.a) := by rw [hWA]; simp [go_sem]
    have i3 : WA.cell? ⟨wr.heap.size, 3, none⟩ = some (.int .i64 i.b) := by rw [hWA]; simp [go_sem]
    have i4 : WA.cell? ⟨wr.heap.size, 4, none⟩ = some (.int .i64 i.c) := by rw [hWA]; simp [go_sem]
    have i5 : WA.cell? ⟨wr.heap.size, 5, none⟩ = some (.int .u32 i.n) := by rw [hWA]; simp [go_sem]
    have hWAz : WA.heap.size = wr.heap.size + 1 := by rw [hWA]; simp
    rw [← hWA]
    clear hWA d0 d1 d2 d3 d4 d5
    go_region_held3 (fun w' => w'.cell? ⟨wr.heap.size, 0, none⟩ = some (.int .i64 i.op) ∧ w'.cell? ⟨wr.heap.size, 1, none⟩ = some (.int .i64 i.dest) ∧ w'.cell? ⟨wr.heap.size, 2, none⟩ = some (.int .i64 i.a) ∧ w'.cell? ⟨wr.heap.size, 3, none⟩ = some (.int .i64 i.b) ∧ w'.cell? ⟨wr.heap.size, 4, none⟩ = some (.int .i64 i.c) ∧ w'.cell? ⟨wr.heap.size, 5, none⟩ = some (.int .u32 i.n))
      ((go_split_ands; refine ⟨?_, ?_, ?_, ?_, ?_, ?_⟩ <;> first | assumption | exact step_cell hbc (by assumption) | exact cell_other (by assumption) (Ne.symm y3) | (go_keep; done)))
      (first
        | (have hgd := HE; clear hgd; go_at_call 52; refine (deed (mb := mb) (sb := w2.heap.size) (db := W0.heap.size) HIO.out HIU.out _ (by omega) (by omega) (by omega) HE.out).mono ?_; rintro e wb ⟨⟨F, caps, rfl, hds⟩, hbc⟩; have HDS : Hid _ := hds; have HBB : Hid _ := hbc; have hrb : Row wb (w2.heap.size + 1) 1 cs := (by rw [← hW0z]; exact ((HD.out.row.below HAB.out).below HBA.out).below hbc); have fz := hrb.frozen k; have cz := hrb.cell k; rw [List.getElem?_eq_getElem (by omega)] at cz; clear hds hrb)
        | (go_at_call 53; refine (tempEnds (mb := mb) (sb := w2.heap.size) (db := W0.heap.size) C.length HIO.out s2 _ (by simp; omega) (by simp; omega) (by simp; omega)).mono ?_; rintro e wa ⟨⟨x, rfl, hE⟩, hbc⟩; have HE : Hid _ := hE; have HBA : Hid (Below WA.heap.size WA wa) := (step_below hbc (Below.refl _ _).drew); have hwaz := HBA.out.size; clear hE))
    go_wp2
    have hbw : Below wr.heap.size wr wb := step_below HBB.out (step_below HBA.out HAB.out)
    have hsp : DeedSpec (tempK B.length) mb w2.heap.size W0.heap.size (C.getD k .zero) (tempE (C.getD k .zero)) wb F caps := by rw [← HI.out]; exact HDS.out
    have hst := deeds_step HD.out hlt hbw hsp
    rw [hW0z] at hst
    exact ⟨⟨k + 1, _, by omega, by go_num, hst⟩, by simp [intOf]; omega⟩

theorem runRun (v : Value) (B : List Bool) (C : List LIns) (iv : Value) (I : List Int) (steps : Int) (w : World) (h : ProgIs w v B C) (hI : InArg w iv I) :
    Calls Try.prog 21 #[v, iv, .int .i64 steps] w fun e w' =>
      (∃ sv, e = .returned (.tuple #[sv, .int .i64 (wrongI B C I.length steps)]) ∧ ShownIs w' sv (resM B C I steps).state (resM B C I steps).out (resM B C I steps).steps) ∧ Below w.heap.size w w' := by
  by_cases hx : wrongI B C I.length steps = 0
  · exact runRun_yes v B C iv I steps w h hI hx
  · exact runRun_no v B C iv I steps w h hI hx

end Go.Proofs.Ytcmnmogmdhofcab.form

/- Registers and slots of the program's own (package done): a store in one block; what is in a place (in), what becomes of it (become). -/
namespace Go.Proofs.Ytcmnmogmdhofcab.form
open Go.RowKit Go.Proofs.Ytcmnmogmdhofcab.num
set_option linter.unusedVariables false
set_option maxRecDepth 100000
attribute [local go_sem ↓] Go.wp_at_zero Go.wp_at_succ

def padL (n : Nat) (l : List Int) : List Int := l ++ List.replicate (n - l.length) 0
theorem padL_len {n : Nat} {l : List Int} (h : l.length ≤ n) : (padL n l).length = n := by unfold padL; simp; omega
theorem padL_getD {n : Nat} {l : List Int} {j : Nat} (hj : j < l.length) : (padL n l)[j]? = some (l.getD j 0) := by
  unfold padL
  rw [List.getElem?_append_left hj]
  simp [List.getD, hj]
theorem padL_set {n : Nat} {l : List Int} {j : Nat} {v : Int} (hj : j < l.length) : (padL n l).set j v = padL n (l.set j v) := by
  unfold padL
  simp [hj]

/-- The cells of a store. -/
def stoE (st : Sto) : List Value := (padL 16 st.sing).map (Value.int .u32) ++ (padL 12 st.slot).map (Value.int .u64)

def stoK (ns nl : Nat) : StoK := ⟨Sto, 122, stoE, StoAt ns nl⟩

section
variable {ns nl sb : Nat} {st : Sto} {w : World}

theorem sing_at (h : Row w sb 122 (stoE st)) (ho : StoOk st) {j : Nat} (hj : j < st.sing.length) : w.cell? ⟨sb, j, none⟩ = some (.int .u32 (st.sing.getD j 0)) := by
  have hl := padL_len ho.n1
  have h16 := ho.n1
  rw [h.cell]
  unfold stoE
  rw [List.getElem?_append_left (by simp [hl]; omega), List.getElem?_map, padL_getD hj]
  rfl
theorem slot_at (h : Row w sb 122 (stoE st)) (ho : StoOk st) {j : Nat} (hj : j < st.slot.length) : w.cell? ⟨sb, 16 + j, none⟩ = some (.int .u64 (st.slot.getD j 0)) := by
  have hl := padL_len ho.n1
  rw [h.cell]
  unfold stoE
  rw [List.getElem?_append_right (by simp [hl]), List.getElem?_map]
  simp only [List.length_map, hl]
  rw [show 16 + j - 16 = j by omega, padL_getD hj]
  rfl
theorem sing_set (h : Row w sb 122 (stoE st)) (ho : StoOk st) {j : Nat} (hj : j < st.sing.length) (v : Int) : Row (w.setCell ⟨sb, j, none⟩ (.int .u32 v)) sb 122 (stoE ⟨st.sing.set j v, st.slot⟩) := by
  have hl := padL_len ho.n1
  have h16 := ho.n1
  have := h.set j (.int .u32 v)
  have e : (stoE st).set j (.int .u32 v) = stoE ⟨st.sing.set j v, st.slot⟩ := by
    unfold stoE
    rw [List.set_append_left _ _ (by simp [hl]; omega), ← List.map_set, padL_set hj]
  rwa [e] at this
theorem slot_set (h : Row w sb 122 (stoE st)) (ho : StoOk st) {j : Nat} (hj : j < st.slot.length) (v : Int) : Row (w.setCell ⟨sb, 16 + j, none⟩ (.int .u64 v)) sb 122 (stoE ⟨st.sing, st.slot.set j v⟩) := by
  have hl := padL_len ho.n1
  have := h.set (16 + j) (.int .u64 v)
  have e : (stoE st).set (16 + j) (.int .u64 v) = stoE ⟨st.sing, st.slot.set j v⟩ := by
    unfold stoE
    rw [List.set_append_right _ _ (by simp [hl]), ← List.map_set]
    simp only [List.length_map, hl]
    rw [show 16 + j - 16 = j by omega, padL_set hj]
  rwa [e] at this
end

section
variable {ns nl sb : Nat} {st : Sto} {w : World}

/-- A place of a machine, or none. -/
def PlIs (ns nl : Nat) (p : LPlace) : Prop := isB ns nl p = true ∨ (p.kind = 0 ∧ p.n = 0)

theorem pl_is_cases {p : LPlace} (h : StoAt ns nl st) (hp : PlIs ns nl p) : (p.kind = 1 ∧ 0 ≤ p.n ∧ p.n < st.sing.length) ∨ (p.kind = 2 ∧ 0 ≤ p.n ∧ 2 * p.n + 1 < st.sing.length) ∨ (p.kind = 3 ∧ 0 ≤ p.n ∧ p.n < st.slot.length) ∨ p.kind = 0 := by
  refine pl_cases h.ok ?_
  unfold PlOk
  rw [h.sl, h.ll]
  exact hp

set_option maxHeartbeats 1000000 in
theorem inO (p : LPlace) (h : Row w sb 122 (stoE st)) (hs : StoAt ns nl st) (hp : PlIs ns nl p) :
    Calls Try.prog 101 #[.pointer (some ⟨sb, 0, none⟩), p.val] w fun e w' => e = .returned (.int .u64 (getP st p)) ∧ Below w.heap.size w w' := by
  have ho := hs.ok
  have hx := h.lt
  have n1 : (st.sing.length : Int) ≤ 16 := by have := ho.n1; omega
  have n2 : (st.slot.length : Int) ≤ 12 := by have := ho.n2; omega
  have HB1 : Hid (∀ o1 : Obj, Below w.heap.size w (w.alloc o1)) := fun o1 => (Below.refl _ _).alloc (Nat.le_refl _) _
  have HB0 : Hid (Below w.heap.size w w) := Below.refl _ _
  unfold LPlace.val
  rcases pl_is_cases hs hp with ⟨e1, e2, e3⟩ | ⟨e1, e2, e3⟩ | ⟨e1, e2, e3⟩ | e1
  · have c0 := sing_at h ho (show p.n.toNat < st.sing.length by omega)
    obtain ⟨hu0, hu1⟩ := ho.s0 p.n.toNat
    obtain ⟨u, hue⟩ : ∃ u, u = st.sing.getD p.n.toNat 0 := ⟨_, rfl⟩
    rw [← hue] at c0 hu0 hu1
    have HE : Hid (getP st p = u) := by show getP st p = u; unfold getP; rw [if_pos e1, hue]
    have k1 : (p.kind == 1) = true := by simp [e1]
    have y1 : p.n < 16 := by omega
    have e5 := wrap64_of u hu0 (by omega)
    clear hue e1 h hs hp ho
    go_enter Try.func101, Try.ntmps101
    go_wp2
    go_quiet (fail)
    go_wp2
    go_ret
    exact ⟨ret_int HE.out.symm, below_drewN (by first | exact HB0.out | exact HB1.out _) _⟩
  · have c0 := sing_at h ho (show (2 * p.n + 1).toNat < st.sing.length by omega)
    have c1 := sing_at h ho (show (2 * p.n).toNat < st.sing.length by omega)
    obtain ⟨hu0, hu1⟩ := ho.s0 (2 * p.n + 1).toNat
    obtain ⟨hv0, hv1⟩ := ho.s0 (2 * p.n).toNat
    obtain ⟨u, hue⟩ : ∃ u, u = st.sing.getD (2 * p.n + 1).toNat 0 := ⟨_, rfl⟩
    obtain ⟨v, hve⟩ : ∃ u, u = st.sing.getD (2 * p.n).toNat 0 := ⟨_, rfl⟩
    rw [← hue] at c0 hu0 hu1
    rw [← hve] at c1 hv0 hv1
    have HE : Hid (getP st p = bits BinOp.or IntKind.u64 (u * 4294967296) v) := by
      show getP st p = _
      have hp := pair_of v u hv0 hv1 ⟨hu0, by omega⟩
      rw [wrap64_of (u * 4294967296) (by omega) (by omega), wrap64_of (u * 4294967296 + v) (by omega) (by omega)] at hp
      rw [hp]
      unfold getP; rw [if_neg (by omega), if_pos e1, hue, hve]
    have k1 : (p.kind == 1) = false := by simp [e1]
    have k2 : (p.kind == 2) = true := by simp [e1]
    have y1 : 2 * p.n < 16 := by omega
    have y3 : 2 * p.n + 1 < 16 := by omega
    have y0 : 0 ≤ 2 * p.n := by omega
    have y2 : 0 ≤ 2 * p.n + 1 := by omega
    have e5 := wrap64_of u hu0 (by omega)
    have e6 := wrap64_of v hv0 (by omega)
    clear hue hve e1 h hs hp ho
    go_enter Try.func101, Try.ntmps101
    go_wp2
    go_quiet (fail)
    go_wp2
    go_ret
    exact ⟨ret_int HE.out.symm, below_drewN (by first | exact HB0.out | exact HB1.out _) _⟩
  · have c0 := slot_at h ho (show p.n.toNat < st.slot.length by omega)
    obtain ⟨u, hue⟩ : ∃ u, u = st.slot.getD p.n.toNat 0 := ⟨_, rfl⟩
    rw [← hue] at c0
    have HE : Hid (getP st p = u) := by show getP st p = u; unfold getP; rw [if_neg (by omega), if_neg (by omega), if_pos e1, hue]
    have k1 : (p.kind == 1) = false := by simp [e1]
    have k2 : (p.kind == 2) = false := by simp [e1]
    have k3 : (p.kind == 3) = true := by simp [e1]
    have y1 : p.n < 12 := by omega
    clear hue e1 h hs hp ho
    go_enter Try.func101, Try.ntmps101
    go_wp2
    go_quiet (fail)
    go_wp2
    go_ret
    exact ⟨ret_int HE.out.symm, below_drewN (by first | exact HB0.out | exact HB1.out _) _⟩
  · have HE : Hid (getP st p = 0) := by show getP st p = 0; unfold getP; rw [if_neg (by omega), if_neg (by omega), if_neg (by omega)]
    have k1 : (p.kind == 1) = false := by simp [e1]
    have k2 : (p.kind == 2) = false := by simp [e1]
    have k3 : (p.kind == 3) = false := by simp [e1]
    clear e1 h hs hp ho
    go_enter Try.func101, Try.ntmps101
    go_wp2
    go_ret
    exact ⟨ret_int HE.out.symm, by first | exact HB0.out | exact HB1.out _⟩
end

end Go.Proofs.Ytcmnmogmdhofcab.form
