/- The program's own machine (package run) in memory: its state, its temporaries, what came out, the ins that are left; how each part of it is written. -/
import Derived.Test.YthnhpjhjaamanaaRunMac
import Derived.Test.YthnhpjhjaamanaaNumWalks
import Derived.Deep.OwnRows
namespace Go.Proofs.Ythnhpjhjaamanaa.form
open Go.RowKit Go.Proofs.Ythnhpjhjaamanaa.num
set_option linter.unusedVariables false

/-- The blocks below a bound, but one, are as they were. -/
structure Ran (mb base : Nat) (w w' : World) : Prop where
  os : w'.os = w.os
  tape : w'.tape = w.tape
  output : w'.output = w.output
  size : w.heap.size ≤ w'.heap.size
  block : ∀ k, k < base → k ≠ mb → w'.heap[k]? = w.heap[k]?

theorem Ran.refl (mb base : Nat) (w : World) : Ran mb base w w := ⟨rfl, rfl, rfl, Nat.le_refl _, fun _ _ _ => rfl⟩
theorem Ran.trans {mb base : Nat} {a b c : World} (h : Ran mb base a b) (k : Ran mb base b c) : Ran mb base a c :=
  ⟨k.os.trans h.os, k.tape.trans h.tape, k.output.trans h.output, Nat.le_trans h.size k.size, fun i hi h1 => (k.block i hi h1).trans (h.block i hi h1)⟩
theorem Ran.of_below {mb base : Nat} {w w' : World} (hz : base ≤ w.heap.size) (h : Below w.heap.size w w') : Ran mb base w w' := ⟨h.os, h.tape, h.output, h.size, fun k hk _ => h.block k (by omega)⟩
theorem Ran.set {mb base : Nat} {w w' : World} (h : Ran mb base w w') (j : Nat) (u : Value) : Ran mb base w (w'.setCell ⟨mb, j, none⟩ u) :=
  ⟨h.os, h.tape, h.output, by simpa [World.setCell] using h.size, fun k hk h1 => by rw [Below.heap_setCell _ _ _ _ h1]; exact h.block k hk h1⟩
theorem Ran.cell {mb base : Nat} {w w' : World} (h : Ran mb base w w') {p : Addr} {v : Value} (hc : w.cell? p = some v) (h1 : p.block < base) (h2 : p.block ≠ mb) : w'.cell? p = some v := by
  rw [World.cell?_of_block (h.block p.block h1 h2)]; exact hc

/-- All that was there, but two blocks, is as it was. -/
def Kept (mb db : Nat) (w1 w : World) : Prop := ∀ k, k < w1.heap.size → k ≠ mb → k ≠ db → w.heap[k]? = w1.heap[k]?
theorem Kept.cell {mb db : Nat} {w w' : World} (h : Kept mb db w w') {p : Addr} {v : Value} (hc : w.cell? p = some v) (h1 : p.block ≠ mb) (h2 : p.block ≠ db) : w'.cell? p = some v := by
  rw [World.cell?_of_block (h p.block (World.block_lt_of_cell? w _ hc) h1 h2)]; exact hc
theorem Kept.of_below {mb db : Nat} {w w' : World} (h : Below w.heap.size w w') : Kept mb db w w' := fun k hk _ _ => h.block k hk
theorem Kept.trans {mb db : Nat} {a b c : World} (h : Kept mb db a b) (hz : a.heap.size ≤ b.heap.size) (k : Kept mb db b c) : Kept mb db a c := fun j hj h1 h2 => (k j (by omega) h1 h2).trans (h j hj h1 h2)
theorem Kept.set {mb db : Nat} (w : World) (j : Nat) (u : Value) : Kept mb db w (w.setCell ⟨db, j, none⟩ u) := fun k _ _ h2 => Below.heap_setCell _ _ _ _ h2
theorem Kept.ran {mb db base : Nat} {w1 w w' : World} (h : Kept mb db w1 w) (hz : w1.heap.size ≤ base) (hr : Ran mb base w w') : Kept mb db w1 w' := fun k hk hm hd => (hr.block k (by omega) hm).trans (h k hk hm hd)

/-- The ins that are left. -/
def InsIs (mb base : Nat) (w : World) (iv : Value) (I : List Int) : Prop :=
  ∃ ai cap, iv = .slice ai I.length cap ∧ I.length ≤ cap ∧ I.length ≤ 40 ∧ (∀ j, j < I.length → 0 ≤ I.getD j 0 ∧ I.getD j 0 < 4294967296) ∧
    (0 < I.length → ∃ b o, ai = some ⟨b, o, none⟩ ∧ b < base ∧ b ≠ mb ∧ ∀ j, j < I.length → w.cell? ⟨b, o + j, none⟩ = some (.int .u32 (I.getD j 0)))

theorem InsIs.ran {mb base : Nat} {w w' : World} {iv : Value} {I : List Int} (h : InsIs mb base w iv I) (hr : Ran mb base w w') : InsIs mb base w' iv I := by
  obtain ⟨ai, cap, e, h1, h2, h3, h4⟩ := h
  refine ⟨ai, cap, e, h1, h2, h3, fun h0 => ?_⟩
  obtain ⟨b, o, e2, hb, hm, hc⟩ := h4 h0
  exact ⟨b, o, e2, hb, hm, fun j hj => hr.cell (hc j hj) hb hm⟩

/-- The cells of a machine. -/
def macV (st k pc : Int) (ov iv : Value) (ts : List Int) : List Value := .int .i64 st :: ov :: .int .i64 k :: (ts.map (Value.int .u64) ++ [iv, .int .i64 pc])

structure MS (mb base : Nat) (ts : List Int) (ov : Value) (l : List Int) (st k : Int) (iv : Value) (I : List Int) (pc : Int) (w : World) : Prop where
  row : Row w mb 52 (macV st k pc ov iv ts)
  len : ts.length = 12
  lt : mb < base
  sz : base ≤ w.heap.size
  own : w.ownsRow base 23 1 ov l.length (l.map (Value.int .u32))
  ins : InsIs mb base w iv I
  bd : ∀ j, U64i (ts.getD j 0)

section
variable {mb base : Nat} {ts : List Int} {ov : Value} {l : List Int} {st k : Int} {iv : Value} {I : List Int} {pc : Int} {w w' : World}

theorem MS.cst (h : MS mb base ts ov l st k iv I pc w) : w.cell? ⟨mb, 0, none⟩ = some (.int .i64 st) := h.row.cell 0
theorem MS.cov (h : MS mb base ts ov l st k iv I pc w) : w.cell? ⟨mb, 1, none⟩ = some ov := h.row.cell 1
theorem MS.ck (h : MS mb base ts ov l st k iv I pc w) : w.cell? ⟨mb, 2, none⟩ = some (.int .i64 k) := h.row.cell 2
theorem MS.ctemp (h : MS mb base ts ov l st k iv I pc w) (j : Nat) (hj : j < 12) : w.cell? ⟨mb, 3 + j, none⟩ = some (.int .u64 (ts.getD j 0)) := by
  rw [h.row.cell]
  have hl := h.len
  unfold macV
  rw [show 3 + j = j + 3 by omega]
  simp [List.getElem?_append_left, hl, hj, List.getD]
theorem MS.civ (h : MS mb base ts ov l st k iv I pc w) : w.cell? ⟨mb, 15, none⟩ = some iv := by
  rw [h.row.cell]
  have hl := h.len
  unfold macV
  simp [hl]
theorem MS.cpc (h : MS mb base ts ov l st k iv I pc w) : w.cell? ⟨mb, 16, none⟩ = some (.int .i64 pc) := by
  rw [h.row.cell]
  have hl := h.len
  unfold macV
  simp [hl]
theorem MS.fz (h : MS mb base ts ov l st k iv I pc w) (j : Nat) : w.frozen? ⟨mb, j, none⟩ = false := h.row.frozen j
theorem MS.ownNe (h : MS mb base ts ov l st k iv I pc w) {b : Nat} (hb : b < base) : ov.ownBlock ≠ some b := fun e => by have := (World.ownsRow.lt h.own _ e).1; omega

theorem MS.below (h : MS mb base ts ov l st k iv I pc w) (hb : Below w.heap.size w w') : MS mb base ts ov l st k iv I pc w' :=
  ⟨h.row.below hb, h.len, h.lt, Nat.le_trans h.sz hb.size, World.ownsRow.kept h.own ⟨hb.os, hb.tape, hb.output, hb.size, fun j hj _ => hb.block j hj⟩ (row := none) (by cases ov.ownBlock <;> simp), h.ins.ran (Ran.of_below h.sz hb), h.bd⟩

theorem MS.setTemp (h : MS mb base ts ov l st k iv I pc w) (d : Nat) (hd : d < 12) (x : Int) (hx : U64i x) : MS mb base (ts.set d x) ov l st k iv I pc (w.setCell ⟨mb, 3 + d, none⟩ (.int .u64 x)) := by
  refine ⟨?_, by simp [h.len], h.lt, by simpa [World.setCell] using h.sz, ownsRow_setCell_other h.own (h.ownNe h.lt) _, h.ins.ran ((Ran.refl _ _ _).set _ _), getD_set_bd h.bd hx⟩
  have := h.row.set (3 + d) (.int .u64 x)
  have e : (macV st k pc ov iv ts).set (3 + d) (.int .u64 x) = macV st k pc ov iv (ts.set d x) := by
    unfold macV
    rw [show 3 + d = d + 3 by omega]
    simp [h.len, hd, List.map_set]
  rwa [e] at this
theorem MS.setState (h : MS mb base ts ov l st k iv I pc w) (x : Int) : MS mb base ts ov l x k iv I pc (w.setCell ⟨mb, 0, none⟩ (.int .i64 x)) :=
  ⟨h.row.set 0 _, h.len, h.lt, by simpa [World.setCell] using h.sz, ownsRow_setCell_other h.own (h.ownNe h.lt) _, h.ins.ran ((Ran.refl _ _ _).set _ _), h.bd⟩
theorem MS.setSteps (h : MS mb base ts ov l st k iv I pc w) (x : Int) : MS mb base ts ov l st x iv I pc (w.setCell ⟨mb, 2, none⟩ (.int .i64 x)) :=
  ⟨h.row.set 2 _, h.len, h.lt, by simpa [World.setCell] using h.sz, ownsRow_setCell_other h.own (h.ownNe h.lt) _, h.ins.ran ((Ran.refl _ _ _).set _ _), h.bd⟩
theorem MS.setPc (h : MS mb base ts ov l st k iv I pc w) (x : Int) : MS mb base ts ov l st k iv I x (w.setCell ⟨mb, 16, none⟩ (.int .i64 x)) := by
  refine ⟨?_, h.len, h.lt, by simpa [World.setCell] using h.sz, ownsRow_setCell_other h.own (h.ownNe h.lt) _, h.ins.ran ((Ran.refl _ _ _).set _ _), h.bd⟩
  have := h.row.set 16 (.int .i64 x)
  have e : (macV st k pc ov iv ts).set 16 (.int .i64 x) = macV st k x ov iv ts := by
    unfold macV
    simp [h.len]
  rwa [e] at this
theorem MS.setIns (h : MS mb base ts ov l st k iv I pc w) {iv' : Value} {I' : List Int} (hi : InsIs mb base w iv' I') : MS mb base ts ov l st k iv' I' pc (w.setCell ⟨mb, 15, none⟩ iv') := by
  refine ⟨?_, h.len, h.lt, by simpa [World.setCell] using h.sz, ownsRow_setCell_other h.own (h.ownNe h.lt) _, hi.ran ((Ran.refl _ _ _).set _ _), h.bd⟩
  have := h.row.set 15 iv'
  have e : (macV st k pc ov iv ts).set 15 iv' = macV st k pc ov iv' ts := by
    unfold macV
    simp [h.len]
  rwa [e] at this

/-- Behind 'm.Out = append(m.Out, x)'. -/
theorem MS.push (h : MS mb base ts ov l st k iv I pc w) {x : Int} {g cap : Nat} {wx w1 : World} (hx : Below w.heap.size w wx)
    (hown : w1.ownsRow base 23 1 (.slice (some ⟨g, 0, none⟩) (l.length + 1) cap) (l.length + 1) (l.map (Value.int .u32) ++ [.int .u32 x])) (hgrow : wx.grownBy w1 ov.ownBlock) :
    MS mb base ts (.slice (some ⟨g, 0, none⟩) (l.length + 1) cap) (l ++ [x]) st k iv I pc (w1.setCell ⟨mb, 1, none⟩ (.slice (some ⟨g, 0, none⟩) (l.length + 1) cap)) ∧ Ran mb base w w1 ∧ Row w1 mb 52 (macV st k pc ov iv ts) := by
  have hz := h.sz
  have hz1 := hx.size
  have hbl : Below base w w1 := ((hx.mono hz).grown hgrow (by omega) (fun j hj => (World.ownsRow.lt h.own _ hj).1))
  have hr : Ran mb base w w1 := ⟨hbl.os, hbl.tape, hbl.output, hbl.size, fun j hj _ => hbl.block j hj⟩
  have hrow : Row w1 mb 52 (macV st k pc ov iv ts) := by
    have := h.row
    unfold Row at *
    rw [hbl.block mb h.lt]; exact this
  refine ⟨⟨hrow.set 1 _, h.len, h.lt, ?_, ?_, h.ins.ran (hr.set _ _), h.bd⟩, hr, hrow⟩
  · have := hbl.size; simp [World.setCell]; omega
  · have hne : (Value.slice (some ⟨g, 0, none⟩) (l.length + 1) cap).ownBlock ≠ some mb := fun e => by have := (World.ownsRow.lt hown _ e).1; have := h.lt; omega
    have := ownsRow_setCell_other (a := ⟨mb, 1, none⟩) hown hne (.slice (some ⟨g, 0, none⟩) (l.length + 1) cap)
    simpa using this
end

end Go.Proofs.Ythnhpjhjaamanaa.form
