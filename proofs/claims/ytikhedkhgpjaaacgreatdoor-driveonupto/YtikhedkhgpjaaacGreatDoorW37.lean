/- What the program's run makes ahead of its steps: a machine with its own copy of the ins (NewMachine), the ends of an instruction on temporaries (ends); what is wrong (Wrong). -/
import Derived.Laws.Cover3
import Derived.Deep.OwnRows
import Derived.Deep.DeepCutAuto
import Derived.Test.YtikhedkhgpjaaacGreatDoorW36
import Derived.Test.YtikhedkhgpjaaacGreatDoorW07
import Derived.Test.YtikhedkhgpjaaacGreatDoorW11
import Derived.Test.YtikhedkhgpjaaacGreatDoorW23
import Derived.Test.YtikhedkhgpjaaacGreatDoorW12

namespace Go.Proofs.YtikhedkhgpjaaacGreatDoor
set_option linter.unusedVariables false
namespace form
open Go.RowKit num
set_option maxRecDepth 100000
attribute [local go_sem ↓] Go.wp_at_zero Go.wp_at_succ
def InNew (w : World) (mb : Nat) (v : Value) (I : List Int) : Prop :=
  ∃ ai cap, v = .slice ai I.length cap ∧ I.length ≤ cap ∧ (0 < I.length → ∃ g, ai = some ⟨g, 0, none⟩ ∧ g < mb ∧ ∀ j, j < I.length → w.cell? ⟨g, j, none⟩ = some (.int .u32 (I.getD j 0)))
theorem InNew.ins {w w' : World} {mb sb base : Nat} {v : Value} {I : List Int} (h : InNew w mb v I) (hb : Below w.heap.size w w') (h40 : I.length ≤ 40) (hI : ∀ j, j < I.length → 0 ≤ I.getD j 0 ∧ I.getD j 0 < 4294967296) (hs : mb < sb) (hz : mb < base) : InsIs mb sb base w' v I := by
  obtain ⟨ai, cap, e, h1, h2⟩ := h
  refine ⟨ai, cap, e, h1, h40, hI, fun h0 => ?_⟩
  obtain ⟨g, e2, hg, hc⟩ := h2 h0
  exact ⟨g, 0, e2, by omega, by omega, by omega, fun j hj => by rw [Nat.zero_add]; exact step_cell hb (hc j hj)⟩
theorem own_new {w : World} {base g cap : Nat} {I : List Int} (h : w.ownsRow base 60 1 (.slice (some ⟨g, 0, none⟩) I.length cap) I.length (I.map (Value.int .u32))) (h0 : 0 < I.length) : I.length ≤ cap ∧ ∀ j, j < I.length → w.cell? ⟨g, j, none⟩ = some (.int .u32 (I.getD j 0)) := by
  rcases h.2 with ⟨h1, _⟩ | ⟨g', cap', cur, hv, hb, hg, hn, hc, hs, ht⟩
  · cases h1
  · injection hv with e1 e2 e3
    injection e1 with e4
    injection e4 with e5
    subst e5 e3
    refine ⟨hn, fun j hj => ?_⟩
    rw [cell_of_row w g j _ _ (0, 0) hg]
    have h2 : (cur.toList.take (I.length * 1))[j]? = (I.map (Value.int .u32))[j]? := by rw [ht]
    rw [List.getElem?_take_of_lt (by omega)] at h2
    rw [← Array.getElem?_toList, h2]
    simp [List.getD, hj]
theorem nil32 (ai : Option Addr) (n c : Nat) (w : World) : Sem.run Tryz.prog (binOp .eql 28 (.slice ai n c) (.slice none 0 0)) w = .ok (.bool ai.isNone) w := by
  simp only [binOp]
  simp [run_equal_slice_nil w 28 60 ai n c Tryz.underlying28]
theorem clone (iv : Value) (I : List Int) (w : World) (h : InArg w iv I) (h40 : I.length ≤ 40) :
    Calls Tryz.prog 54 #[iv] w fun e w' => (∃ v, e = .returned v ∧ InNew w' w'.heap.size v I) ∧ Below w.heap.size w w' := by
  obtain ⟨ai, cap, rfl, h1, h2, h3, h4⟩ := h
  have hnil := nil32 ai I.length cap
  rcases Nat.eq_zero_or_pos I.length with h0 | h0
  · obtain rfl : I = [] := List.length_eq_zero_iff.1 h0
    clear h4 h3 h2
    cases ai with
    | none =>
      have hnil := nil32 none 0 cap
      go_enter Tryz.func54, Tryz.ntmps54
      go_wp2
      go_ret
      exact ⟨⟨_, rfl, none, 0, rfl, by simp, fun h => absurd h (by simp)⟩, Below.refl _ _⟩
    | some a =>
      have hnil := nil32 (some a) 0 cap
      have HB : Hid (∀ o : Obj, Below w.heap.size w (w.alloc o)) := fun o => (Below.refl _ _).alloc (Nat.le_refl _) _
      go_enter Tryz.func54, Tryz.ntmps54
      go_wp2
      go_ret
      exact ⟨⟨_, rfl, _, 0, rfl, by simp, fun h => absurd h (by simp)⟩, HB.out _⟩
  · obtain ⟨b, o, rfl, hb, hc⟩ := h4 h0
    obtain ⟨t0', hi0, hy0, hy1, hy2⟩ := info_parts infU32
    have HC : Hid (∀ j, j < I.length → w.cell? ⟨b, o + j, none⟩ = some (.int .u32 (I.getD j 0))) := hc
    have HW : Hid (World.ownsRow (w.alloc (.cells #[] 60)) w.heap.size 60 1 (.slice (some ⟨w.heap.size, 0, none⟩) 0 0) 0 []) := World.ownsRow_made w #[] 0 (Nat.le_refl _) (by unfold maxLen; omega) (by simp)
    have HN : Hid (∀ j u, (I.map (Value.int .u32))[j]? = some u → (w.alloc (.cells #[] 60)).cell? ((⟨b, o, none⟩ : Addr).add j) = some u) := by
      intro j u hu
      have hj : j < I.length := by
        rcases Nat.lt_or_ge j I.length with h | h
        · exact h
        · rw [List.getElem?_eq_none (by simpa using h)] at hu; cases hu
      have := hc j hj
      rw [List.getElem?_map, List.getElem?_eq_getElem hj] at hu
      simp at hu
      rw [show (⟨b, o, none⟩ : Addr).add j = ⟨b, o + j, none⟩ by simp [Addr.add]]
      rw [step_cell ((Below.refl _ _).alloc (Nat.le_refl _) _) this, ← hu]
      simp [List.getD, hj]
    clear h2 h3 h4 hc
    go_enter Tryz.func54, Tryz.ntmps54
    go_wp2_with (at_builtin; refine wpList_append_lies _ rfl _ _ 28 rfl w.heap.size 60 t0' (.int .u32 0) 1 4 Tryz.underlying28 hi0 hy0 hy1 hy2 rfl (by decide) _ 0 [] rfl HW.out ⟨b, o, none⟩ I.length cap (I.map (Value.int .u32)) rfl (by simp) HN.out (fun u hu => (by simp only [List.mem_map] at hu; obtain ⟨y, -, rfl⟩ := hu; rfl)) h0 (by unfold maxLen; omega) (by omega) (by simp) (w.heap.size + 1) (by simp) ?_; intro g cap2 w1 hown hgrow hat hlt)
    go_ret
    have hbl : Below w.heap.size w w1 := (((Below.refl _ _).alloc (Nat.le_refl _) _)).grown hgrow (by simp) (fun j hj => (World.ownsRow.lt HW.out _ hj).1)
    have hown2 : w1.ownsRow w.heap.size 60 1 (.slice (some ⟨g, 0, none⟩) I.length cap2) I.length (I.map (Value.int .u32)) := by simpa using hown
    obtain ⟨hcap, hcells⟩ := own_new hown2 h0
    exact ⟨⟨_, rfl, some ⟨g, 0, none⟩, cap2, by simp, hcap, fun _ => ⟨g, rfl, hlt, hcells⟩⟩, hbl⟩
theorem newMachine (iv : Value) (I : List Int) (w : World) (h : InArg w iv I) (h40 : I.length ≤ 40) :
    Calls Tryz.prog 35 #[iv] w fun e w' => ∃ mb iv', e = .returned (.pointer (some ⟨mb, 0, none⟩)) ∧ w.heap.size ≤ mb ∧ w'.heap.size = mb + 1 ∧ Row w' mb 95 (macV 0 0 0 (.slice none 0 0) iv') ∧ InNew w' mb iv' I ∧ Below w.heap.size w w' := by
  have HA : Hid (InArg w iv I) := h
  clear h
  go_enter Tryz.func35, Tryz.ntmps35
  go_wp2_with (go_at_call 54; refine (clone iv I _ HA.out h40).mono ?_; rintro e w1 ⟨⟨v, rfl, hn⟩, hb1⟩; have HN : Hid _ := hn; obtain ⟨ai, cap, rfl, -, -⟩ := hn)
  go_ret
  have hba : Below w1.heap.size w1 (w1.alloc (.cells (macV 0 0 0 (.slice none 0 0) (.slice ai I.length cap)).toArray 95)) := (Below.refl _ _).alloc (Nat.le_refl _) _
  refine ⟨w1.heap.size, .slice ai I.length cap, rfl, hb1.size, by simp, Row.new w1 _ _, ?_, step_below hba hb1⟩
  obtain ⟨ai', cap', e, g1, g2⟩ := HN.out
  refine ⟨ai', cap', e, g1, fun h0 => ?_⟩
  obtain ⟨g, e2, hg, hc⟩ := g2 h0
  exact ⟨g, e2, hg, fun j hj => step_cell hba (hc j hj)⟩
def wrongN (nI : Nat) (steps : Int) : Int := if 40 < nI then 1 else if steps < 0 ∨ 3000 < steps then 3 else 0
theorem wrongN_of {B : List Bool} {C : List LIns} {nI : Nat} {steps : Int} : wrongI B C nI steps = if refMayB B C = true then wrongN nI steps else 2 := by
  unfold wrongI wrongN
  cases refMayB B C <;> simp
theorem wrongO (ai : Option Addr) (nI ci : Nat) (steps : Int) (w : World) :
    Calls Tryz.prog 34 #[.slice ai nI ci, .int .i64 steps] w fun e w' => e = .returned (.int .i64 (wrongN nI steps)) ∧ w' = w := by
  go_enter Tryz.func34, Tryz.ntmps34
  go_wp2
  all_goals
    go_ret
    refine ⟨ret_int ?_, rfl⟩
    unfold wrongN
    simp_all
  all_goals omega
end form
/- The ends of an instruction on temporaries, in the array of the program's run: ends and its closures. -/
namespace form
open Go.RowKit num
set_option maxRecDepth 100000
attribute [local go_sem ↓] Go.wp_at_zero Go.wp_at_succ
def arr (ts : List Int) : List Int := ts ++ List.replicate (12 - ts.length) 0
def tempK (nB : Nat) : StoK := ⟨List Int, 85, fun ts => (arr ts).map (Value.int .u64), fun ts => ts.length = nB ∧ ∀ j, U64i (ts.getD j 0)⟩
section
variable {nB mb sb db bt bi : Nat} {ts : List Int} {i : LIns} {w : World}
theorem arr_at (h : Row w sb 85 ((arr ts).map (Value.int .u64))) {j : Nat} (hj : j < ts.length) : w.cell? ⟨sb, j, none⟩ = some (.int .u64 (ts.getD j 0)) := by
  rw [h.cell, List.getElem?_map]
  unfold arr
  rw [List.getElem?_append_left hj]
  simp [List.getD, hj]
theorem arr_put (h : Row w sb 85 ((arr ts).map (Value.int .u64))) {j : Nat} (hj : j < ts.length) (v : Int) : Row (w.setCell ⟨sb, j, none⟩ (.int .u64 v)) sb 85 ((arr (ts.set j v)).map (Value.int .u64)) := by
  have := h.set j (.int .u64 v)
  have e : ((arr ts).map (Value.int .u64)).set j (.int .u64 v) = (arr (ts.set j v)).map (Value.int .u64) := by
    rw [← List.map_set]
    unfold arr
    simp [hj]
  rwa [e] at this
structure TBox (mb sb db bt bi : Nat) (i : LIns) (w : World) : Prop where
  pt : w.cell? ⟨bt, 0, none⟩ = some (.pointer (some ⟨sb, 0, none⟩))
  i1 : w.cell? ⟨bi, 1, none⟩ = some (.int .i64 i.dest)
  i2 : w.cell? ⟨bi, 2, none⟩ = some (.int .i64 i.a)
  i3 : w.cell? ⟨bi, 3, none⟩ = some (.int .i64 i.b)
  n1 : bt ≠ mb
  n2 : bi ≠ mb
  s1 : bt ≠ sb
  s2 : bi ≠ sb
  m1 : bt ≠ db
  m2 : bi ≠ db
theorem TBox.kept {w' : World} (h : TBox mb sb db bt bi i w) (hk : Kept mb sb db w w') : TBox mb sb db bt bi i w' :=
  ⟨hk.cell h.pt h.n1 h.s1 h.m1, hk.cell h.i1 h.n2 h.s2 h.m2, hk.cell h.i2 h.n2 h.s2 h.m2, hk.cell h.i3 h.n2 h.s2 h.m2, h.n1, h.n2, h.s1, h.s2, h.m1, h.m2⟩
theorem tend1 (hb : TBox mb sb db bt bi i w) (h : Row w sb 85 ((arr ts).map (Value.int .u64))) (h12 : ts.length ≤ 12) (ha0 : 0 ≤ i.a) (ha1 : i.a < ts.length) :
    Calls Tryz.prog 61 #[.pointer (some ⟨bt, 0, none⟩), .pointer (some ⟨bi, 0, none⟩)] w fun e w' => e = .returned (.int .u64 (ts.getD i.a.toNat 0)) ∧ Below w.heap.size w w' := by
  have c0 := hb.pt
  have c2 := hb.i2
  have ca := arr_at h (show i.a.toNat < ts.length by omega)
  have y1 : i.a < 12 := by omega
  generalize ts.getD i.a.toNat 0 = a at *
  clear hb h h12 ha1
  go_enter Tryz.func61, Tryz.ntmps61
  go_wp2
  go_quiet (fail)
  go_wp2
  go_ret
  exact ⟨rfl, below_drewN (Below.refl _ _) _⟩
theorem tend2 (hb : TBox mb sb db bt bi i w) (h : Row w sb 85 ((arr ts).map (Value.int .u64))) (h12 : ts.length ≤ 12) (ha0 : 0 ≤ i.b) (ha1 : i.b < ts.length) :
    Calls Tryz.prog 62 #[.pointer (some ⟨bt, 0, none⟩), .pointer (some ⟨bi, 0, none⟩)] w fun e w' => e = .returned (.int .u64 (ts.getD i.b.toNat 0)) ∧ Below w.heap.size w w' := by
  have c0 := hb.pt
  have c3 := hb.i3
  have ca := arr_at h (show i.b.toNat < ts.length by omega)
  have y1 : i.b < 12 := by omega
  generalize ts.getD i.b.toNat 0 = a at *
  clear hb h h12 ha1
  go_enter Tryz.func62, Tryz.ntmps62
  go_wp2
  go_quiet (fail)
  go_wp2
  go_ret
  exact ⟨rfl, below_drewN (Below.refl _ _) _⟩
theorem tend3 (x : Int) (hb : TBox mb sb db bt bi i w) (h : Row w sb 85 ((arr ts).map (Value.int .u64))) (h12 : ts.length ≤ 12) (ha0 : 0 ≤ i.dest) (ha1 : i.dest < ts.length) :
    Calls Tryz.prog 63 #[.int .u64 x, .pointer (some ⟨bt, 0, none⟩), .pointer (some ⟨bi, 0, none⟩)] w fun e w' => e = .returned (.tuple #[]) ∧ Row w' sb 85 ((arr (ts.set i.dest.toNat x)).map (Value.int .u64)) ∧ Only sb w w' := by
  have c0 := hb.pt
  have c1 := hb.i1
  have ca := arr_at h (show i.dest.toNat < ts.length by omega)
  have fz := h.frozen i.dest.toNat
  have y1 : i.dest < 12 := by omega
  have q1 : bt ≠ sb := hb.s1
  have q2 : bi ≠ sb := hb.s2
  have HR : Hid (Row (w.setCell ⟨sb, i.dest.toNat, none⟩ (.int .u64 x)) sb 85 ((arr (ts.set i.dest.toNat x)).map (Value.int .u64))) := arr_put h (by omega) x
  have HO : Hid (Only sb w (w.setCell ⟨sb, i.dest.toNat, none⟩ (.int .u64 x))) := (Only.refl _ _).set _ _
  clear hb h h12 ha1
  go_enter Tryz.func63, Tryz.ntmps63
  go_wp2
  go_region_held3 (fun w' => w'.cell? ⟨bt, 0, none⟩ = some (.pointer (some ⟨sb, 0, none⟩)) ∧ w'.cell? ⟨bi, 1, none⟩ = some (.int .i64 i.dest))
    ((go_split_ands; refine ⟨?_, ?_⟩ <;> first | assumption | exact cell_other (by assumption) q1 | exact cell_other (by assumption) q2 | (go_keep; done)))
    (fail)
  go_wp2
  go_end0
  exact ⟨rfl, HR.out, HO.out.trans (Only.of_below (Below.refl _ _).drew)⟩
theorem temp_read1 (hb : TBox mb sb db bt bi i w) (h12 : nB ≤ 12) (ha0 : 0 ≤ i.a) (ha1 : i.a < nB) : ReadSpec (tempK nB) mb sb db w 61 #[.pointer (some ⟨bt, 0, none⟩), .pointer (some ⟨bi, 0, none⟩)] (fun (s : List Int) => s.getD i.a.toNat 0) := by
  refine ⟨fun w => rfl, fun (s : List Int) hs => hs.2 _, ?_⟩
  intro s w' hk hz hr ho
  obtain ⟨h1, h2⟩ := ho
  exact tend1 (ts := s) (hb.kept hk) hr (by omega) ha0 (by omega)
theorem temp_read2 (hb : TBox mb sb db bt bi i w) (h12 : nB ≤ 12) (ha0 : 0 ≤ i.b) (ha1 : i.b < nB) : ReadSpec (tempK nB) mb sb db w 62 #[.pointer (some ⟨bt, 0, none⟩), .pointer (some ⟨bi, 0, none⟩)] (fun (s : List Int) => s.getD i.b.toNat 0) := by
  refine ⟨fun w => rfl, fun (s : List Int) hs => hs.2 _, ?_⟩
  intro s w' hk hz hr ho
  obtain ⟨h1, h2⟩ := ho
  exact tend2 (ts := s) (hb.kept hk) hr (by omega) ha0 (by omega)
theorem temp_write (hb : TBox mb sb db bt bi i w) (h12 : nB ≤ 12) (ha0 : 0 ≤ i.dest) (ha1 : i.dest < nB) : WriteSpec (tempK nB) mb sb db w 63 (.pointer (some ⟨bt, 0, none⟩)) (.pointer (some ⟨bi, 0, none⟩)) (fun (s : List Int) x => s.set i.dest.toNat x) := by
  refine ⟨fun x w => rfl, fun (s : List Int) x hs hx => ⟨by rw [List.length_set]; exact hs.1, getD_set_bd hs.2 hx⟩, ?_⟩
  intro s x w' hk hz hr ho hx
  obtain ⟨h1, h2⟩ := ho
  exact tend3 (ts := s) x (hb.kept hk) hr (by omega) ha0 (by omega)
theorem tempEnds (nC : Nat) (hi : InsOk nB nC i) (h12 : nB ≤ 12) (w : World) (hmb : mb < w.heap.size) (hsb : sb < w.heap.size) (hdb : db < w.heap.size) :
    Calls Tryz.prog 37 #[.pointer (some ⟨sb, 0, none⟩), i.val] w fun e w' => (∃ x : EndF, e = .returned x.val ∧ EndsIs (tempK nB) mb sb db w' x (tempE i).rdA (tempE i).rdB (tempE i).wr (givesB i.op = true)) ∧ Below w.heap.size w w' := by
  have HI : Hid (InsOk nB nC i) := hi
  have HT : Hid (∀ o : Obj, TBox mb sb db w.heap.size (w.heap.size + 1) i (((w.alloc (.cells #[.pointer (some ⟨sb, 0, none⟩)] 82)).alloc (.cells #[.int .i64 i.op, .int .i64 i.dest, .int .i64 i.a, .int .i64 i.b, .int .i64 i.c, .int .u32 i.n] 74)).alloc o)) := by
    intro o
    refine ⟨?_, ?_, ?_, ?_, by omega, by omega, by omega, by omega, by omega, by omega⟩ <;> simp [go_sem]
  have HB : Hid (∀ o1 o2 o3 : Obj, Below w.heap.size w (((w.alloc o1).alloc o2).alloc o3)) := fun o1 o2 o3 => (((Below.refl _ _).alloc (Nat.le_refl _) _).alloc (by simp) _).alloc (by simp; omega) _
  clear hi
  unfold LIns.val
  go_enter Tryz.func37, Tryz.ntmps37
  go_wp2
  refine bodyPost_ret (v := EndF.val ⟨61, #[.pointer (some ⟨w.heap.size, 0, none⟩), .pointer (some ⟨w.heap.size + 1, 0, none⟩)], 62, #[.pointer (some ⟨w.heap.size, 0, none⟩), .pointer (some ⟨w.heap.size + 1, 0, none⟩)], 63, .pointer (some ⟨w.heap.size, 0, none⟩), .pointer (some ⟨w.heap.size + 1, 0, none⟩)⟩) ?_ rfl ⟨⟨_, rfl, ?_⟩, ?_⟩
  · simp [results, Tryz.results37, go_sem, EndF.val]
  · refine ⟨temp_read1 ?_ h12 HI.out.a0 HI.out.a1, temp_read2 ?_ h12 HI.out.b0 HI.out.b1, fun hg => temp_write ?_ h12 (HI.out.d hg).1 (HI.out.d hg).2⟩
    all_goals exact HT.out _
  · exact HB.out _ _ _
end
end form
/- What the document's run (loanbookref3.Play) shows: the machine on plain numbers, so many steps. -/
namespace form
open Go.RowKit num
attribute [local go_sem ↓] Go.wp_at_zero Go.wp_at_succ
section
variable {w : World} {b0 o0 c0 b1 o1 c1 : Nat} {B : List Bool} {C : List LIns} {ts : List Int} {v : Value} {l : List Int} {st k : Int} {wr w1 : World}
end
theorem own_form32 {w : World} {base : Nat} {e : TypeId} {v : Value} {xs : List Int} (h : w.ownsRow base e 1 v xs.length (xs.map (Value.int .u32))) :
    ∃ ao cap, v = .slice ao xs.length cap ∧ (0 < xs.length → ∃ b o, ao = some ⟨b, o, none⟩ ∧ base ≤ b ∧ b < w.heap.size ∧ ∀ j, j < xs.length → w.cell? ⟨b, o + j, none⟩ = some (.int .u32 (xs.getD j 0))) := by
  by_cases hn : 0 < xs.length
  · obtain ⟨g, cap, rfl, hbg, hlt⟩ := h.form hn
    refine ⟨_, cap, rfl, fun _ => ⟨g, 0, rfl, hbg, hlt, fun j hj => ?_⟩⟩
    rw [Nat.zero_add, World.ownsRow.cellAt h j (by omega)]
    simp [List.getD, hj]
  · rcases h.2 with ⟨rfl, h0⟩ | ⟨g, cap, cur, rfl, _⟩
    · exact ⟨none, 0, by rw [h0], fun hh => absurd hh hn⟩
    · exact ⟨_, cap, rfl, fun hh => absurd hh hn⟩
end form
/- The program's own run.Run: what is wrong, or what the machine on plain numbers shows. -/
namespace form
open Go.RowKit num
attribute [local go_sem ↓] Go.wp_at_zero Go.wp_at_succ
theorem infoFunc : (Tryz.prog.info? 1).map (fun i => (i.zero, i.size, i.bytes)) = some (some .nilFunc, 1, 8) := by kernel_rfl
theorem made_func (n : Nat) : madeCells #[Value.nilFunc] n = (List.replicate n Value.nilFunc).toArray := by
  apply Array.toList_inj.1
  rw [toList_madeCells_one]
structure DeedsS (K : StoK) (w : World) (mb sb : Nat) (C : List LIns) (E : Nat → Eff K.S) (k : Nat) (cs : List Value) (wr : World) : Prop where
  bel : Below w.heap.size w wr
  row : Row wr w.heap.size 1 cs
  len : cs.length = C.length
  spec : ∀ j, j < k → ∃ F caps, cs.getD j .nilFunc = .func (.func F) #[] caps ∧ DeedSpec K mb sb w.heap.size (C.getD j .zero) (E j) wr F caps
theorem deeds_start (K : StoK) (w : World) (mb sb : Nat) (C : List LIns) (E : Nat → Eff K.S) : DeedsS K w mb sb C E 0 (List.replicate C.length .nilFunc) (w.alloc (.cells (madeCells #[Value.nilFunc] C.length) 1)) :=
  ⟨(Below.refl _ _).alloc (Nat.le_refl _) _, by rw [made_func]; exact Row.new w _ _, by simp, fun j hj => absurd hj (by omega)⟩
theorem deeds_step {K : StoK} {w : World} {mb sb : Nat} {C : List LIns} {E : Nat → Eff K.S} {k : Nat} {cs : List Value} {wr w1 : World} (h : DeedsS K w mb sb C E k cs wr) (hlt : k < C.length) (hb : Below wr.heap.size wr w1) {F : Nat} {caps : Array Value} (hs : DeedSpec K mb sb w.heap.size (C.getD k .zero) (E k) w1 F caps) :
    DeedsS K w mb sb C E (k + 1) (cs.set k (.func (.func F) #[] caps)) (w1.setCell ⟨w.heap.size, k, none⟩ (.func (.func F) #[] caps)) := by
  have hln := h.len
  refine ⟨(step_below hb h.bel).setCell (by simp) _, (h.row.below hb).set k _, by simp [hln], fun j hj => ?_⟩
  have hz1 : (w1.setCell ⟨w.heap.size, k, none⟩ (.func (.func F) #[] caps)).heap.size = w1.heap.size := by simp [World.setCell]
  by_cases hjk : j = k
  · subst hjk
    refine ⟨F, caps, by simp [List.getD, hln, hlt], hs.later (Kept.set _ _ _) (by omega)⟩
  · obtain ⟨F', caps', e, hs'⟩ := h.spec j (by omega)
    refine ⟨F', caps', ?_, (hs'.later (Kept.of_below hb) hb.size).later (Kept.set _ _ _) (by omega)⟩
    rw [← e]
    simp [List.getD, Ne.symm hjk]
theorem start_ms {K : StoK} {w w' : World} {mb sb base : Nat} {iv : Value} {I : List Int} {s : K.S} (hr : Row w mb 95 (macV 0 0 0 (.slice none 0 0) iv)) (hn : InNew w mb iv I) (hb : Below w.heap.size w w') (hs : Row w' sb K.T (K.enc s)) (hk : K.ok s) (h40 : I.length ≤ 40) (hI : ∀ j, j < I.length → 0 ≤ I.getD j 0 ∧ I.getD j 0 < 4294967296)
    (hsb : mb < sb) (hz : sb < base) (hsz : base ≤ w'.heap.size) : MS K mb sb base s (.slice none 0 0) [] 0 0 iv I 0 w' :=
  ⟨hr.below hb, hs, hk, by omega, by omega, hz, hsz, World.ownsRow_nil _ _ _ _, hn.ins hb h40 hI hsb (by omega)⟩
theorem temps_start (n : Nat) (h : n ≤ 12) : (tempK n).ok (List.replicate n (0 : Int)) := by
  refine ⟨by simp, fun j => ?_⟩
  have : (List.replicate n (0 : Int)).getD j 0 = 0 := by by_cases hj : j < n <;> simp [List.getD, hj]
  rw [this]
  exact ⟨by omega, by omega⟩
theorem arr_start (n : Nat) (h : n ≤ 12) : arr (List.replicate n 0) = List.replicate 12 0 := by
  unfold arr
  rw [List.length_replicate, List.replicate_append_replicate, show n + (12 - n) = 12 by omega]
set_option maxRecDepth 100000 in
set_option maxHeartbeats 1000000 in
theorem runRun_no (v : Value) (B : List Bool) (C : List LIns) (iv : Value) (I : List Int) (steps : Int) (w : World) (h : ProgIs w v B C) (hI : InArg w iv I) (hx0 : ¬ wrongI B C I.length steps = 0) :
    Calls Tryz.prog 20 #[v, iv, .int .i64 steps] w fun e w' =>
      (∃ sv, e = .returned (.tuple #[sv, .int .i64 (wrongI B C I.length steps)]) ∧ ShownIs w' sv (resM B C I steps).state (resM B C I steps).out (resM B C I steps).steps) ∧ Below w.heap.size w w' := by
  have h0 := h
  obtain ⟨⟨a0, c0, a1, c1, rfl, -⟩, -, -, -⟩ := h0
  have HP : Hid (ProgIs w (.agg #[.slice a0 B.length c0, .slice a1 C.length c1]) B C) := h
  obtain ⟨ai, ci, rfl, -, -, -, -⟩ := hI
  have hres : resM B C I steps = ⟨0, [], 0, [], 0, 0⟩ := by unfold resM; rw [if_neg hx0]
  rw [hres]
  have hs := may_same B C
  have HS : Hid (mayB B C = refMayB B C) := hs
  have HW : Hid (Below w.heap.size w ((w.alloc (.cells #[.slice a0 B.length c0, .slice a1 C.length c1] 27)).alloc (.cells #[.int .i64 0, .slice none 0 0, .int .i64 0] 56))) := ((Below.refl _ _).alloc (Nat.le_refl _) _).alloc (by simp) _
  have hwr := wrongN_of (B := B) (C := C) (nI := I.length) (steps := steps)
  have HSH : Hid (∀ w' : World, ShownIs w' (.agg #[.int .i64 0, .slice none 0 0, .int .i64 0]) 0 [] 0) := fun w' => ⟨_, rfl, none, 0, rfl, by simp, fun hh => absurd hh (by simp)⟩
  clear hres hs h
  cases hm : refMayB B C with
  | false =>
    rw [hm, if_neg (by simp)] at hwr
    rw [hwr]
    have HM : Hid (refMayB B C = false) := hm
    clear hwr hm hx0
    go_enter Tryz.func20, Tryz.ntmps20
    go_wp2_with fail
    go_at_call 33
    refine (may _ B C _ (HP.out.later HW.out)).mono ?_
    rw [HS.out, HM.out]
    rintro e w1 ⟨rfl, hb1⟩
    have hr1 := (Row.new (w.alloc (.cells #[.slice a0 B.length c0, .slice a1 C.length c1] 27)) 56 [.int .i64 0, .slice none 0 0, .int .i64 0]).below hb1
    simp at hr1
    have f0 := hr1.frozen 0
    have f1 := hr1.frozen 1
    have f2 := hr1.frozen 2
    have r0 := hr1.cell 0
    have r1 := hr1.cell 1
    have r2 := hr1.cell 2
    simp at r0 r1 r2
    have HR1 : Hid (Row w1 (w.heap.size + 1) 56 [.int .i64 0, .slice none 0 0, .int .i64 0]) := hr1
    have HB1 : Hid (Below w.heap.size w w1) := step_below hb1 HW.out
    clear hr1 hb1
    go_wp2
    have r3 := ((HR1.out.set 0 (.int .i64 0)).set 1 (.slice none 0 0)).set 2 (.int .i64 0)
    have g0 := r3.cell 0
    have g1 := r3.cell 1
    have g2 := r3.cell 2
    simp at g0 g1 g2
    refine bodyPost_ret (v := .tuple #[.agg #[.int .i64 0, .slice none 0 0, .int .i64 0], .int .i64 2]) ?_ rfl ⟨⟨_, rfl, HSH.out _⟩, ?_⟩
    · simp [results, Tryz.results20, go_sem, g0, g1, g2]
    · exact ((HB1.out.setCell (by dsimp only; omega) _).setCell (by dsimp only; omega) _).setCell (by dsimp only; omega) _
  | true =>
    rw [hm, if_pos rfl] at hwr
    rw [hwr] at hx0 ⊢
    have HM : Hid (refMayB B C = true) := hm
    clear hwr hm
    obtain ⟨x, hx⟩ : ∃ x, x = wrongN I.length steps := ⟨_, rfl⟩
    rw [← hx] at hx0 ⊢
    have HX : Hid (wrongN I.length steps = x) := hx.symm
    have e1 : (x != 0) = true := by simp [hx0]
    clear hx hx0
    go_enter Tryz.func20, Tryz.ntmps20
    go_wp2_with fail
    go_at_call 33
    refine (may _ B C _ (HP.out.later HW.out)).mono ?_
    rw [HS.out, HM.out]
    rintro e w1 ⟨rfl, hb1⟩
    have hr1 := (Row.new (w.alloc (.cells #[.slice a0 B.length c0, .slice a1 C.length c1] 27)) 56 [.int .i64 0, .slice none 0 0, .int .i64 0]).below hb1
    simp at hr1
    have f0 := hr1.frozen 0
    have f1 := hr1.frozen 1
    have f2 := hr1.frozen 2
    have r0 := hr1.cell 0
    have r1 := hr1.cell 1
    have r2 := hr1.cell 2
    simp at r0 r1 r2
    have HR1 : Hid (Row w1 (w.heap.size + 1) 56 [.int .i64 0, .slice none 0 0, .int .i64 0]) := hr1
    have HB1 : Hid (Below w.heap.size w w1) := step_below hb1 HW.out
    clear hr1 hb1
    go_wp2_with (go_at_call 34; refine (wrongO _ _ _ _ _).mono ?_; rw [HX.out]; rintro e w2 ⟨rfl, hw2⟩; obtain rfl := hw2.symm)
    have r3 := ((HR1.out.set 0 (.int .i64 0)).set 1 (.slice none 0 0)).set 2 (.int .i64 0)
    have g0 := r3.cell 0
    have g1 := r3.cell 1
    have g2 := r3.cell 2
    simp at g0 g1 g2
    refine bodyPost_ret (v := .tuple #[.agg #[.int .i64 0, .slice none 0 0, .int .i64 0], .int .i64 x]) ?_ rfl ⟨⟨_, rfl, HSH.out _⟩, ?_⟩
    · simp [results, Tryz.results20, go_sem, g0, g1, g2]
    · exact ((HB1.out.setCell (by dsimp only; omega) _).setCell (by dsimp only; omega) _).setCell (by dsimp only; omega) _
end form
end Go.Proofs.YtikhedkhgpjaaacGreatDoor
