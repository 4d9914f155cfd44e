/- The program's own machine (package run) in memory: its state, what came out, the ins that are left; the store that its deeds read and write, whatever it is; how each part of it is written. -/
import Derived.Deep.OwnRows
import Derived.Test.YtcmnmogmdhofcaaB04

namespace Go.Proofs.Ytcmnmogmdhofcaa.form
open Go.RowKit Go.Proofs.Ytcmnmogmdhofcaa.num
set_option linter.unusedVariables false

/-- A kind of store: its type in memory, its cells, what it may be. -/
structure StoK where
  S : Type
  T : TypeId
  enc : S → List Value
  ok : S → Prop

/-- The blocks below a bound, but two, are as they were. -/
structure Ran (mb sb base : Nat) (w w' : World) : Prop where
  os : w'.os = w.os
  tape : w'.tape = w.tape
  output : w'.output = w.output
  size : w.heap.size ≤ w'.heap.size
  block : ∀ k, k < base → k ≠ mb → k ≠ sb → w'.heap[k]? = w.heap[k]?

theorem Ran.refl (mb sb base : Nat) (w : World) : Ran mb sb base w w := ⟨rfl, rfl, rfl, Nat.le_refl _, fun _ _ _ _ => rfl⟩
theorem Ran.trans {mb sb base : Nat} {a b c : World} (h : Ran mb sb base a b) (k : Ran mb sb base b c) : Ran mb sb base a c :=
  ⟨k.os.trans h.os, k.tape.trans h.tape, k.output.trans h.output, Nat.le_trans h.size k.size, fun i hi h1 h2 => (k.block i hi h1 h2).trans (h.block i hi h1 h2)⟩
theorem Ran.of_below {mb sb base : Nat} {w w' : World} (hz : base ≤ w.heap.size) (h : Below w.heap.size w w') : Ran mb sb base w w' := ⟨h.os, h.tape, h.output, h.size, fun k hk _ _ => h.block k (by omega)⟩
theorem Ran.set {mb sb base : Nat} {w w' : World} (h : Ran mb sb base w w') (j : Nat) (u : Value) : Ran mb sb base w (w'.setCell ⟨mb, j, none⟩ u) :=
  ⟨h.os, h.tape, h.output, by simpa [World.setCell] using h.size, fun k hk h1 h2 => by rw [Below.heap_setCell _ _ _ _ h1]; exact h.block k hk h1 h2⟩
theorem Ran.cell {mb sb base : Nat} {w w' : World} (h : Ran mb sb base w w') {p : Addr} {v : Value} (hc : w.cell? p = some v) (h1 : p.block < base) (h2 : p.block ≠ mb) (h3 : p.block ≠ sb) : w'.cell? p = some v := by
  rw [World.cell?_of_block (h.block p.block h1 h2 h3)]; exact hc

/-- All that was there, but three blocks, is as it was. -/
def Kept (mb sb db : Nat) (w1 w : World) : Prop := ∀ k, k < w1.heap.size → k ≠ mb → k ≠ sb → k ≠ db → w.heap[k]? = w1.heap[k]?
theorem Kept.refl (mb sb db : Nat) (w : World) : Kept mb sb db w w := fun _ _ _ _ _ => rfl
theorem Kept.cell {mb sb db : Nat} {w w' : World} (h : Kept mb sb db w w') {p : Addr} {v : Value} (hc : w.cell? p = some v) (h1 : p.block ≠ mb) (h2 : p.block ≠ sb) (h3 : p.block ≠ db) : w'.cell? p = some v := by
  rw [World.cell?_of_block (h p.block (World.block_lt_of_cell? w _ hc) h1 h2 h3)]; exact hc
theorem Kept.of_below {mb sb db : Nat} {w w' : World} (h : Below w.heap.size w w') : Kept mb sb db w w' := fun k hk _ _ _ => h.block k hk
theorem Kept.trans {mb sb db : Nat} {a b c : World} (h : Kept mb sb db a b) (hz : a.heap.size ≤ b.heap.size) (k : Kept mb sb db b c) : Kept mb sb db a c := fun j hj h1 h2 h3 => (k j (by omega) h1 h2 h3).trans (h j hj h1 h2 h3)
theorem Kept.set {mb sb db : Nat} (w : World) (j : Nat) (u : Value) : Kept mb sb db w (w.setCell ⟨db, j, none⟩ u) := fun k _ _ _ h3 => Below.heap_setCell _ _ _ _ h3
theorem Kept.ran {mb sb db base : Nat} {w1 w w' : World} (h : Kept mb sb db w1 w) (hz : w1.heap.size ≤ base) (hr : Ran mb sb base w w') : Kept mb sb db w1 w' := fun k hk hm hs hd => (hr.block k (by omega) hm hs).trans (h k hk hm hs hd)
theorem Kept.thenBelow {mb sb db : Nat} {w1 w w' : World} (h : Kept mb sb db w1 w) (hz : w1.heap.size ≤ w.heap.size) (hb : Below w.heap.size w w') : Kept mb sb db w1 w' := h.trans hz (Kept.of_below hb)

/-- All that was there, but one block, is as it was. -/
structure Only (sb : Nat) (w w' : World) : Prop where
  os : w'.os = w.os
  tape : w'.tape = w.tape
  output : w'.output = w.output
  size : w.heap.size ≤ w'.heap.size
  block : ∀ k, k < w.heap.size → k ≠ sb → w'.heap[k]? = w.heap[k]?
theorem Only.of_below {sb : Nat} {w w' : World} (h : Below w.heap.size w w') : Only sb w w' := ⟨h.os, h.tape, h.output, h.size, fun k hk _ => h.block k hk⟩
theorem Only.refl (sb : Nat) (w : World) : Only sb w w := Only.of_below (Below.refl _ _)
theorem Only.trans {sb : Nat} {a b c : World} (h : Only sb a b) (k : Only sb b c) : Only sb a c :=
  ⟨k.os.trans h.os, k.tape.trans h.tape, k.output.trans h.output, Nat.le_trans h.size k.size, fun i hi h1 => (k.block i (Nat.lt_of_lt_of_le hi h.size) h1).trans (h.block i hi h1)⟩
theorem Only.set {sb : Nat} {w w' : World} (h : Only sb w w') (j : Nat) (u : Value) : Only sb w (w'.setCell ⟨sb, j, none⟩ u) :=
  ⟨h.os, h.tape, h.output, by simpa [World.setCell] using h.size, fun k hk h1 => by rw [Below.heap_setCell _ _ _ _ h1]; exact h.block k hk h1⟩
theorem Only.cell {sb : Nat} {w w' : World} (h : Only sb w w') {p : Addr} {v : Value} (hc : w.cell? p = some v) (h1 : p.block ≠ sb) : w'.cell? p = some v := by
  rw [World.cell?_of_block (h.block p.block (World.block_lt_of_cell? w _ hc) h1)]; exact hc
theorem Only.ran {mb sb base : Nat} {w w' : World} (h : Only sb w w') (hz : base ≤ w.heap.size) : Ran mb sb base w w' := ⟨h.os, h.tape, h.output, h.size, fun k hk _ h2 => h.block k (by omega) h2⟩
theorem Only.kept {mb sb db : Nat} {w w' : World} (h : Only sb w w') : Kept mb sb db w w' := fun k hk _ h2 _ => h.block k hk h2

/-- The ins that are left. -/
def InsIs (mb sb base : Nat) (w : World) (iv : Value) (I : List Int) : Prop :=
  ∃ ai cap, iv = .slice ai I.length cap ∧ I.length ≤ cap ∧ I.length ≤ 40 ∧ (∀ j, j < I.length → 0 ≤ I.getD j 0 ∧ I.getD j 0 < 4294967296) ∧
    (0 < I.length → ∃ b o, ai = some ⟨b, o, none⟩ ∧ b < base ∧ b ≠ mb ∧ b ≠ sb ∧ ∀ j, j < I.length → w.cell? ⟨b, o + j, none⟩ = some (.int .u32 (I.getD j 0)))

theorem InsIs.ran {mb sb base : Nat} {w w' : World} {iv : Value} {I : List Int} (h : InsIs mb sb base w iv I) (hr : Ran mb sb base w w') : InsIs mb sb base w' iv I := by
  obtain ⟨ai, cap, e, h1, h2, h3, h4⟩ := h
  refine ⟨ai, cap, e, h1, h2, h3, fun h0 => ?_⟩
  obtain ⟨b, o, e2, hb, hm, hs, hc⟩ := h4 h0
  exact ⟨b, o, e2, hb, hm, hs, fun j hj => hr.cell (hc j hj) hb hm hs⟩

/-- The cells of a machine. -/
def macV (st k pc : Int) (ov iv : Value) : List Value := [.int .i64 st, ov, .int .i64 k, iv, .int .i64 pc]

structure MS (K : StoK) (mb sb base : Nat) (s : K.S) (ov : Value) (l : List Int) (st k : Int) (iv : Value) (I : List Int) (pc : Int) (w : World) : Prop where
  row : Row w mb 84 (macV st k pc ov iv)
  sto : Row w sb K.T (K.enc s)
  ok : K.ok s
  ne : mb ≠ sb
  lt : mb < base
  slt : sb < base
  sz : base ≤ w.heap.size
  own : w.ownsRow base 23 1 ov l.length (l.map (Value.int .u32))
  ins : InsIs mb sb base w iv I

section
variable {K : StoK} {mb sb base : Nat} {s : K.S} {ov : Value} {l : List Int} {st k : Int} {iv : Value} {I : List Int} {pc : Int} {w w' : World}

theorem MS.cst (h : MS K mb sb base s ov l st k iv I pc w) : w.cell? ⟨mb, 0, none⟩ = some (.int .i64 st) := h.row.cell 0
theorem MS.cov (h : MS K mb sb base s ov l st k iv I pc w) : w.cell? ⟨mb, 1, none⟩ = some ov := h.row.cell 1
theorem MS.ck (h : MS K mb sb base s ov l st k iv I pc w) : w.cell? ⟨mb, 2, none⟩ = some (.int .i64 k) := h.row.cell 2
theorem MS.civ (h : MS K mb sb base s ov l st k iv I pc w) : w.cell? ⟨mb, 3, none⟩ = some iv := h.row.cell 3
theorem MS.cpc (h : MS K mb sb base s ov l st k iv I pc w) : w.cell? ⟨mb, 4, none⟩ = some (.int .i64 pc) := h.row.cell 4
theorem MS.fz (h : MS K mb sb base s ov l st k iv I pc w) (j : Nat) : w.frozen? ⟨mb, j, none⟩ = false := h.row.frozen j
theorem MS.ownNe (h : MS K mb sb base s ov l st k iv I pc w) {b : Nat} (hb : b < base) : ov.ownBlock ≠ some b := fun e => by have := (World.ownsRow.lt h.own _ e).1; omega

theorem MS.below (h : MS K mb sb base s ov l st k iv I pc w) (hb : Below w.heap.size w w') : MS K mb sb base s ov l st k iv I pc w' :=
  ⟨h.row.below hb, h.sto.below hb, h.ok, h.ne, h.lt, h.slt, Nat.le_trans h.sz hb.size, World.ownsRow.kept h.own ⟨hb.os, hb.tape, hb.output, hb.size, fun j hj _ => hb.block j hj⟩ (row := none) (by cases ov.ownBlock <;> simp), h.ins.ran (Ran.of_below h.sz hb)⟩

/-- Behind what was put into the store. -/
theorem MS.wrote {s' : K.S} (h : MS K mb sb base s ov l st k iv I pc w) (hr : Row w' sb K.T (K.enc s')) (hk : K.ok s') (ho : Only sb w w') : MS K mb sb base s' ov l st k iv I pc w' := by
  refine ⟨?_, hr, hk, h.ne, h.lt, h.slt, Nat.le_trans h.sz ho.size, World.ownsRow.kept h.own ⟨ho.os, ho.tape, ho.output, ho.size, fun j hj hne => ho.block j hj (fun e => hne (by rw [e]))⟩ (row := some sb) ?_, h.ins.ran (ho.ran h.sz)⟩
  · have h1 := h.row.lt
    have h2 := h.row
    unfold Row at *
    rw [ho.block mb h1 h.ne]; exact h2
  · have := h.ownNe h.slt
    first | exact this | exact Or.inr this | (intro e; exact this e) | (cases hob : ov.ownBlock <;> simp_all)

theorem MS.setMac (h : MS K mb sb base s ov l st k iv I pc w) (j : Nat) (v : Value) {st' k' pc' : Int} {iv' : Value} {I' : List Int} (he : (macV st k pc ov iv).set j v = macV st' k' pc' ov iv') (hi : InsIs mb sb base w iv' I') : MS K mb sb base s ov l st' k' iv' I' pc' (w.setCell ⟨mb, j, none⟩ v) :=
  ⟨by have := h.row.set j v; rwa [he] at this, h.sto.other (by exact fun e => h.ne e.symm) _, h.ok, h.ne, h.lt, h.slt, by simpa [World.setCell] using h.sz, ownsRow_setCell_other h.own (h.ownNe h.lt) _, hi.ran ((Ran.refl _ _ _ _).set _ _)⟩
theorem MS.setState (h : MS K mb sb base s ov l st k iv I pc w) (x : Int) : MS K mb sb base s ov l x k iv I pc (w.setCell ⟨mb, 0, none⟩ (.int .i64 x)) := h.setMac 0 _ rfl h.ins
theorem MS.setSteps (h : MS K mb sb base s ov l st k iv I pc w) (x : Int) : MS K mb sb base s ov l st x iv I pc (w.setCell ⟨mb, 2, none⟩ (.int .i64 x)) := h.setMac 2 _ rfl h.ins
theorem MS.setPc (h : MS K mb sb base s ov l st k iv I pc w) (x : Int) : MS K mb sb base s ov l st k iv I x (w.setCell ⟨mb, 4, none⟩ (.int .i64 x)) := h.setMac 4 _ rfl h.ins
theorem MS.setIns (h : MS K mb sb base s ov l st k iv I pc w) {iv' : Value} {I' : List Int} (hi : InsIs mb sb base w iv' I') : MS K mb sb base s ov l st k iv' I' pc (w.setCell ⟨mb, 3, none⟩ iv') := h.setMac 3 _ rfl hi

/-- Behind 'm.Out = append(m.Out, x)'. -/
theorem MS.push (h : MS K mb sb base s ov l st k iv I pc w) {x : Int} {g cap : Nat} {wx w1 : World} (hx : Below w.heap.size w wx)
    (hown : w1.ownsRow base 23 1 (.slice (some ⟨g, 0, none⟩) (l.length + 1) cap) (l.length + 1) (l.map (Value.int .u32) ++ [.int .u32 x])) (hgrow : wx.grownBy w1 ov.ownBlock) :
    MS K mb sb base s (.slice (some ⟨g, 0, none⟩) (l.length + 1) cap) (l ++ [x]) st k iv I pc (w1.setCell ⟨mb, 1, none⟩ (.slice (some ⟨g, 0, none⟩) (l.length + 1) cap)) ∧ Ran mb sb base w w1 ∧ Row w1 mb 84 (macV st k pc ov iv) := by
  have hz := h.sz
  have hz1 := hx.size
  have hbl : Below base w w1 := ((hx.mono hz).grown hgrow (by omega) (fun j hj => (World.ownsRow.lt h.own _ hj).1))
  have hr : Ran mb sb base w w1 := ⟨hbl.os, hbl.tape, hbl.output, hbl.size, fun j hj _ _ => hbl.block j hj⟩
  have hrow : Row w1 mb 84 (macV st k pc ov iv) := by
    have := h.row
    unfold Row at *
    rw [hbl.block mb h.lt]; exact this
  have hsto : Row w1 sb K.T (K.enc s) := by
    have := h.sto
    unfold Row at *
    rw [hbl.block sb h.slt]; exact this
  refine ⟨⟨hrow.set 1 _, hsto.other (by exact fun e => h.ne e.symm) _, h.ok, h.ne, h.lt, h.slt, ?_, ?_, h.ins.ran (hr.set _ _)⟩, hr, hrow⟩
  · have := hbl.size; simp [World.setCell]; omega
  · have hne : (Value.slice (some ⟨g, 0, none⟩) (l.length + 1) cap).ownBlock ≠ some mb := fun e => by have := (World.ownsRow.lt hown _ e).1; have := h.lt; omega
    have := ownsRow_setCell_other (a := ⟨mb, 1, none⟩) hown hne (.slice (some ⟨g, 0, none⟩) (l.length + 1) cap)
    simpa using this
end

end Go.Proofs.Ytcmnmogmdhofcaa.form

/- The machine on plain numbers: narrow temporaries hold narrow numbers; where a run has ended; what it shows in few steps and in more. -/
namespace Go.Proofs.Ytcmnmogmdhofcaa.form
open Go.RowKit Go.Proofs.Ytcmnmogmdhofcaa.num
set_option linter.unusedVariables false

/-- Narrow temporaries hold narrow numbers. -/
def WOk (B : List Bool) (ts : List Int) : Prop := ∀ j, j < B.length → B.getD j false = false → ts.getD j 0 < 4294967296

theorem wok_start (B : List Bool) : WOk B (Mac.start B.length).temps := by
  intro j hj _
  have : (Mac.start B.length).temps.getD j 0 = 0 := by simp [Mac.start, List.getD, hj]
  omega

theorem widths_of {B : List Bool} {nC : Nat} {i : LIns} (h : insB B nC i = true) : widthsB B i = true := by
  unfold insB at h
  simp only [Bool.and_eq_true] at h
  exact h.2

theorem known_of {B : List Bool} {nC : Nat} {i : LIns} (h : insB B nC i = true) : 10 < i.op → 21 ≤ i.op := by
  unfold insB at h
  simp only [Bool.and_eq_true] at h
  have hk := h.1.1.1.1.1.1
  unfold knownB at hk
  simp at hk
  omega

/-- The first of the two halves that are put together is narrow. -/
theorem pair_narrow {B : List Bool} {nC : Nat} {i : LIns} {ts : List Int} (h : insB B nC i = true) (hi : InsOk B.length nC i) (hw : WOk B ts) (ho : i.op = 5) : ts.getD i.a.toNat 0 < 4294967296 := by
  have h2 := widths_of h
  unfold widthsB at h2
  rw [if_neg (by omega), if_pos ho] at h2
  have hg : givesB i.op = true := by unfold givesB; simp [ho]
  have hm : manyI i.op = 2 := by unfold manyI; rw [if_neg (by omega), if_neg (by omega)]
  simp [wl, wl0, wl1, hg, hm, bw] at h2
  have := hi.a1
  have := hi.a0
  exact hw i.a.toNat (by omega) (by simpa [List.getD] using h2.1.2)

theorem wok_give {B : List Bool} {nC : Nat} {i : LIns} {ts : List Int} {x : Int} (h : insB B nC i = true) (hi : InsOk B.length nC i) (hw : WOk B ts) (hb : ∀ j, U64i (ts.getD j 0)) (hx0 : 0 ≤ x) (hx1 : x < 4294967296) (hg : givesB i.op = true)
    (hd : B.getD i.dest.toNat false = false) : gvI i (ts.getD i.a.toNat 0) (ts.getD i.b.toNat 0) x < 4294967296 := by
  have h2 := widths_of h
  have ha := hb i.a.toNat
  unfold U64i at ha
  have hd' : bw B i.dest = false := hd
  have a0 := hi.a0
  have a1 := hi.a1
  unfold gvI
  split
  · exact hi.n1
  split
  · rename_i h1 ho
    unfold widthsB at h2
    rw [if_pos ho] at h2
    have hm : manyI i.op = 1 := by unfold manyI; rw [if_neg (by omega), if_pos (by omega)]
    simp [wl, wl0, wl1, hg, hm, hd'] at h2
    exact hw _ (by omega) h2
  split
  · exact hx1
  split
  · rename_i h1 h2' h3 ho
    unfold widthsB at h2
    rw [if_neg (by omega), if_pos ho] at h2
    have hm : manyI i.op = 2 := by unfold manyI; rw [if_neg (by omega), if_neg (by omega)]
    simp [wl, wl0, wl1, hg, hm, hd'] at h2
  split
  · omega
  split
  · omega
  split
  · rename_i h1 h2' h3 h5 h6 h7 ho
    unfold widthsB at h2
    rw [if_neg (by omega), if_neg (by omega), if_neg (by omega)] at h2
    simp [wl, wl0, hg, hd'] at h2
    omega
  · exact (opR_u32_bd _ _ _).2

theorem wok_step {B : List Bool} {C : List LIns} {ins : List Int} {m : Mac} (h : insB B C.length (C.getD m.pc .zero) = true) (hi : InsOk B.length C.length (C.getD m.pc .zero)) (hw : WOk B m.temps) (hm : MOk B.length C.length ins.length m)
    (hin : ∀ j, j < ins.length → 0 ≤ ins.getD j 0 ∧ ins.getD j 0 < 4294967296) : WOk B (m.step C ins).temps := by
  simp only [Mac.step]
  split
  · rename_i hg
    obtain ⟨hd0, hd1⟩ := hi.d hg
    intro j hj hB
    by_cases hjd : (C.getD m.pc .zero).dest.toNat = j
    · have hl := hm.len
      rw [show (m.temps.set (C.getD m.pc .zero).dest.toNat (gvI (C.getD m.pc .zero) (m.temps.getD (C.getD m.pc .zero).a.toNat 0) (m.temps.getD (C.getD m.pc .zero).b.toNat 0) (inOf ins m.taken))).getD j 0 = gvI (C.getD m.pc .zero) (m.temps.getD (C.getD m.pc .zero).a.toNat 0) (m.temps.getD (C.getD m.pc .zero).b.toNat 0) (inOf ins m.taken) by
        rw [hjd]; simp [List.getD, hl, hj]]
      have hx := inOf_bd hin m.taken
      exact wok_give h hi hw hm.bd hx.1 hx.2 hg (by rw [hjd]; exact hB)
    · have := hw j hj hB
      generalize (C.getD m.pc .zero).dest.toNat = d at hjd ⊢
      simpa [List.getD, hjd] using this
  · exact hw

/-- A run stands somewhere, or behind the last instruction. -/
def MEnd (nC : Nat) (m : Mac) : Prop := m.state = 0 ∨ m.state = 1 ∨ (m.state = 2 ∧ m.pc = nC)

theorem mend_step {nB : Nat} {C : List LIns} {ins : List Int} {m : Mac} (hi : InsOk nB C.length (C.getD m.pc .zero)) (hpc : m.pc < C.length) : MEnd C.length (m.step C ins) := by
  unfold MEnd Mac.step
  simp only
  unfold stI
  split
  · exact Or.inr (Or.inl rfl)
  split
  · rename_i h1 h2
    refine Or.inr (Or.inr ⟨rfl, ?_⟩)
    unfold nxI at h2 ⊢
    split at h2
    · rename_i hc
      have := (hi.c (by rcases hc with hc | hc; exact Or.inl hc; exact Or.inr hc.1)).2
      omega
    · rename_i hc
      rw [if_neg hc]
      omega
  · exact Or.inl rfl

theorem go_add (C : List LIns) (ins : List Int) : ∀ (k j : Nat) (m : Mac), Mac.go C ins (k + j) m = Mac.go C ins j (Mac.go C ins k m)
  | 0, j, m => by rw [Nat.zero_add]; rfl
  | k + 1, j, m => by
    rw [show k + 1 + j = (k + j) + 1 by omega]
    by_cases h : m.state = 0
    · simp only [Mac.go, if_pos h]
      exact go_add C ins k j _
    · rw [Mac.go_stop h, Mac.go_stop h, Mac.go_stop h]

theorem go_steps (C : List LIns) (ins : List Int) : ∀ (k : Nat) (m : Mac), (Mac.go C ins k m).steps ≤ m.steps + k ∧ ((Mac.go C ins k m).state = 0 → (Mac.go C ins k m).steps = m.steps + k)
  | 0, m => ⟨by simp [Mac.go], fun _ => rfl⟩
  | k + 1, m => by
    by_cases h : m.state = 0
    · simp only [Mac.go, if_pos h]
      have := go_steps C ins k (m.step C ins)
      have e : (m.step C ins).steps = m.steps + 1 := rfl
      rw [e] at this
      exact ⟨by omega, fun hs => by have := this.2 hs; omega⟩
    · rw [Mac.go_stop h]
      exact ⟨by omega, fun hs => absurd hs h⟩

theorem go_prefix (C : List LIns) (ins : List Int) : ∀ (k : Nat) (m : Mac), m.out <+: (Mac.go C ins k m).out
  | 0, m => List.prefix_rfl
  | k + 1, m => by
    by_cases h : m.state = 0
    · simp only [Mac.go, if_pos h]
      refine List.IsPrefix.trans ?_ (go_prefix C ins k (m.step C ins))
      simp only [Mac.step]
      split
      · exact List.prefix_append _ _
      · exact List.prefix_rfl
    · rw [Mac.go_stop h]
      exact List.prefix_rfl

theorem go_outs (C : List LIns) (ins : List Int) : ∀ (k : Nat) (m : Mac), m.out.length ≤ m.steps → (Mac.go C ins k m).out.length ≤ (Mac.go C ins k m).steps
  | 0, m, h0 => h0
  | k + 1, m, h0 => by
    by_cases h : m.state = 0
    · simp only [Mac.go, if_pos h]
      refine go_outs C ins k (m.step C ins) ?_
      simp only [Mac.step]
      split
      · simp; omega
      · omega
    · rw [Mac.go_stop h]
      exact h0

theorem play_outs (B : List Bool) (C : List LIns) (ins : List Int) (n : Nat) : (playM B C ins n).out.length ≤ n := by
  have h1 := go_outs C ins n (Mac.start B.length) (by simp [Mac.start])
  have h2 := (go_steps C ins n (Mac.start B.length)).1
  unfold playM
  simp [Mac.start] at h1 h2 ⊢
  omega

end Go.Proofs.Ytcmnmogmdhofcaa.form

/- A machine on plain numbers, over whatever store: what each instruction does with it is handed in; the machine of temporaries is one of them. -/
namespace Go.Proofs.Ytcmnmogmdhofcaa.form
open Go.RowKit Go.Proofs.Ytcmnmogmdhofcaa.num
set_option linter.unusedVariables false

/-- What an instruction does with a store: what is done ahead of it and behind it, what it takes, what it gives. -/
structure Eff (S : Type) where
  pre : S → S
  post : S → S
  rdA : S → Int
  rdB : S → Int
  wr : S → Int → S

def plainE {S : Type} (rdA rdB : S → Int) (wr : S → Int → S) : Eff S := ⟨id, id, rdA, rdB, wr⟩

def Eff.a {S : Type} (E : Eff S) (s : S) : Int := E.rdA (E.pre s)
def Eff.act {S : Type} (E : Eff S) (i : LIns) (s : S) (x : Int) : S :=
  E.post (if givesB i.op = true then E.wr (E.pre s) (gvI i (E.rdA (E.pre s)) (E.rdB (E.pre s)) x) else E.pre s)

structure GM (S : Type) where
  pc : Nat
  sto : S
  taken : Nat
  out : List Int
  state : Int
  steps : Nat

def GM.step {S : Type} (C : List LIns) (E : Nat → Eff S) (ins : List Int) (m : GM S) : GM S :=
  { pc := (nxI (C.getD m.pc .zero) m.pc ((E m.pc).a m.sto)).toNat
    sto := (E m.pc).act (C.getD m.pc .zero) m.sto (inOf ins m.taken)
    taken := if (C.getD m.pc .zero).op = 3 ∧ m.taken < ins.length then m.taken + 1 else m.taken
    out := if (C.getD m.pc .zero).op = 4 then m.out ++ [(E m.pc).a m.sto % 4294967296] else m.out
    state := stI (C.getD m.pc .zero) C.length (nxI (C.getD m.pc .zero) m.pc ((E m.pc).a m.sto))
    steps := m.steps + 1 }

def GM.go {S : Type} (C : List LIns) (E : Nat → Eff S) (ins : List Int) : Nat → GM S → GM S
  | 0, m => m
  | k + 1, m => if m.state = 0 then GM.go C E ins k (m.step C E ins) else m

theorem GM.go_stop {S : Type} {C : List LIns} {E : Nat → Eff S} {ins : List Int} {m : GM S} (h : ¬ m.state = 0) : ∀ k, GM.go C E ins k m = m
  | 0 => rfl
  | k + 1 => by simp [GM.go, h]

def GM.start {S : Type} (s : S) : GM S := ⟨0, s, 0, [], 0, 0⟩

/-- Within its bounds. -/
structure GOk {S : Type} (nC nI : Nat) (m : GM S) : Prop where
  pcok : m.state = 0 → m.pc < nC
  tk : m.taken ≤ nI
  outs : m.out.length ≤ m.steps
  fin : m.state = 0 ∨ m.state = 1 ∨ (m.state = 2 ∧ m.pc = nC)

theorem gok_start {S : Type} (nC nI : Nat) (s : S) (h : 1 ≤ nC) : GOk nC nI (GM.start s) := ⟨fun _ => h, by simp [GM.start], by simp [GM.start], Or.inl rfl⟩

theorem gok_step {S : Type} {nB : Nat} {C : List LIns} {E : Nat → Eff S} {ins : List Int} {m : GM S} (h : GOk C.length ins.length m) (h0 : m.state = 0) (hi : InsOk nB C.length (C.getD m.pc .zero)) : GOk C.length ins.length (m.step C E ins) := by
  have hpc := h.pcok h0
  refine ⟨?_, ?_, ?_, ?_⟩
  · simp only [GM.step]
    intro hs
    unfold stI at hs
    split at hs
    · omega
    split at hs
    · omega
    · have hn : 0 ≤ nxI (C.getD m.pc .zero) m.pc ((E m.pc).a m.sto) := by
        unfold nxI
        split
        · rename_i hc
          exact (hi.c (by rcases hc with hc | hc; exact Or.inl hc; exact Or.inr hc.1)).1
        · omega
      omega
  · simp only [GM.step]
    split
    · rename_i hc; exact hc.2
    · exact h.tk
  · simp only [GM.step]
    have := h.outs
    split <;> simp <;> omega
  · simp only [GM.step]
    unfold stI
    split
    · exact Or.inr (Or.inl rfl)
    split
    · rename_i h1 h2
      refine Or.inr (Or.inr ⟨rfl, ?_⟩)
      unfold nxI at h2 ⊢
      split at h2
      · rename_i hc
        rw [if_pos hc]
        have := (hi.c (by rcases hc with hc | hc; exact Or.inl hc; exact Or.inr hc.1)).2
        omega
      · rename_i hc
        rw [if_neg hc]
        omega
    · exact Or.inl rfl

theorem ggo_outs {S : Type} (C : List LIns) (E : Nat → Eff S) (ins : List Int) : ∀ (k : Nat) (m : GM S), (GM.go C E ins k m).out.length ≤ m.out.length + k
  | 0, m => by simp [GM.go]
  | k + 1, m => by
    by_cases h : m.state = 0
    · simp only [GM.go, if_pos h]
      have h1 := ggo_outs C E ins k (m.step C E ins)
      have h2 : (m.step C E ins).out.length ≤ m.out.length + 1 := by simp only [GM.step]; split <;> simp
      omega
    · rw [GM.go_stop h]; omega

/-- The machine of temporaries. -/
def tempE (i : LIns) : Eff (List Int) := plainE (fun s => s.getD i.a.toNat 0) (fun s => s.getD i.b.toNat 0) (fun s x => s.set i.dest.toNat x)
def Mac.gen (m : Mac) : GM (List Int) := ⟨m.pc, m.temps, m.taken, m.out, m.state, m.steps⟩
theorem gen_step (C : List LIns) (ins : List Int) (m : Mac) : (m.step C ins).gen = m.gen.step C (fun k => tempE (C.getD k .zero)) ins := rfl
theorem gen_go (C : List LIns) (ins : List Int) : ∀ (k : Nat) (m : Mac), (Mac.go C ins k m).gen = GM.go C (fun k => tempE (C.getD k .zero)) ins k m.gen
  | 0, m => rfl
  | k + 1, m => by
    by_cases h : m.state = 0
    · have h' : m.gen.state = 0 := h
      simp only [Mac.go, GM.go, if_pos h, if_pos h', ← gen_step]
      exact gen_go C ins k (m.step C ins)
    · have h' : ¬ m.gen.state = 0 := h
      rw [Mac.go_stop h, GM.go_stop h']
theorem play_gen (B : List Bool) (C : List LIns) (ins : List Int) (n : Nat) : (playM B C ins n).gen = GM.go C (fun k => tempE (C.getD k .zero)) ins n (GM.start (List.replicate B.length 0)) := gen_go C ins n _

end Go.Proofs.Ytcmnmogmdhofcaa.form
