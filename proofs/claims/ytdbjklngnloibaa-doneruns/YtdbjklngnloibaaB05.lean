/- The machine on plain numbers keeps within its bounds, step by step. -/
import Derived.Deep.OwnRows
import Derived.Test.YtdbjklngnloibaaB04
import Derived.Test.YtdbjklngnloibaaB02

namespace Go.Proofs.Ytdbjklngnloibaa.form
open Go.RowKit Go.Proofs.Ytdbjklngnloibaa.num
set_option linter.unusedVariables false

theorem u64_wrap (x : Int) : U64i (IntKind.u64.wrap x) := by
  have e : IntKind.u64.wrap x = x % 18446744073709551616 := by simp [IntKind.wrap, IntKind.bits, IntKind.signed]
  unfold U64i
  rw [e]
  omega

theorem gvI_bd (i : LIns) (a b x : Int) (ha : U64i a) (hb : U64i b) (hx0 : 0 ≤ x) (hx1 : x < 4294967296) (hn0 : 0 ≤ i.n) (hn1 : i.n < 4294967296) : U64i (gvI i a b x) := by
  unfold gvI
  split
  · exact ⟨hn0, by omega⟩
  split
  · exact ha
  split
  · exact ⟨hx0, by omega⟩
  split
  · exact u64_wrap _
  split
  · have := ha.1; have := ha.2; exact ⟨by omega, by omega⟩
  split
  · have := ha.1; have := ha.2; exact ⟨by omega, by omega⟩
  split
  · exact opR_u64_bd _ _ _ ha.1 ha.2 hb.1 hb.2
  · have := opR_u32_bd (i.op - 20) a b; exact ⟨this.1, by omega⟩

/-- A machine within its bounds. -/
structure MOk (nB nC nI : Nat) (m : Mac) : Prop where
  len : m.temps.length = nB
  bd : ∀ j, U64i (m.temps.getD j 0)
  pcok : m.state = 0 → m.pc < nC
  tk : m.taken ≤ nI
  outs : m.out.length ≤ m.steps

theorem getD_set_bd {l : List Int} {k : Nat} {x : Int} (h : ∀ j, U64i (l.getD j 0)) (hx : U64i x) : ∀ j, U64i ((l.set k x).getD j 0) := by
  intro j
  by_cases hj : j < l.length
  · by_cases hk : k = j
    · subst hk; simpa [List.getD, hj] using hx
    · have := h j
      simpa [List.getD, hj, List.getElem_set, hk] using this
  · have : (l.set k x).getD j 0 = 0 := by simp [List.getD, List.getElem?_eq_none (show (l.set k x).length ≤ j by simp; omega)]
    rw [this]; exact ⟨by omega, by omega⟩

theorem mok_start (nB nC nI : Nat) (h : 1 ≤ nC) : MOk nB nC nI (Mac.start nB) := by
  refine ⟨by simp [Mac.start], fun j => ?_, fun _ => by simp [Mac.start]; omega, by simp [Mac.start], by simp [Mac.start]⟩
  have : (Mac.start nB).temps.getD j 0 = 0 := by
    unfold Mac.start
    by_cases hj : j < nB <;> simp [List.getD, hj]
  rw [this]; exact ⟨by omega, by omega⟩

theorem inOf_bd {ins : List Int} (h : ∀ j, j < ins.length → 0 ≤ ins.getD j 0 ∧ ins.getD j 0 < 4294967296) (k : Nat) : 0 ≤ inOf ins k ∧ inOf ins k < 4294967296 := by
  unfold inOf
  by_cases hk : k < ins.length
  · exact h k hk
  · rw [show ins.getD k 0 = 0 by simp [List.getD, List.getElem?_eq_none (show ins.length ≤ k by omega)]]; omega

theorem mok_step {nB : Nat} {C : List LIns} {ins : List Int} {m : Mac} (h : MOk nB C.length ins.length m) (h0 : m.state = 0) (hi : InsOk nB C.length (C.getD m.pc .zero)) (hin : ∀ j, j < ins.length → 0 ≤ ins.getD j 0 ∧ ins.getD j 0 < 4294967296) :
    MOk nB C.length ins.length (m.step C ins) := by
  refine ⟨?_, ?_, ?_, ?_, ?_⟩
  · simp only [Mac.step]; split <;> simp [h.len]
  · simp only [Mac.step]
    split
    · exact getD_set_bd h.bd (gvI_bd _ _ _ _ (h.bd _) (h.bd _) (inOf_bd hin _).1 (inOf_bd hin _).2 hi.n0 hi.n1)
    · exact h.bd
  · simp only [Mac.step]
    intro hs
    unfold stI at hs
    split at hs
    · omega
    split at hs
    · omega
    · have hn : 0 ≤ nxI (C.getD m.pc .zero) m.pc (m.temps.getD (C.getD m.pc .zero).a.toNat 0) := by
        unfold nxI
        split
        · rename_i hc
          exact (hi.c (by rcases hc with hc | hc; exact Or.inl hc; exact Or.inr hc.1)).1
        · omega
      omega
  · simp only [Mac.step]
    split
    · rename_i hc; exact hc.2
    · exact h.tk
  · simp only [Mac.step]
    have := h.outs
    split <;> simp <;> omega

end Go.Proofs.Ytdbjklngnloibaa.form

/- What the functions on numbers come to: the program's. -/
namespace Go.Proofs.Ytdbjklngnloibaa.num
open Go.RowKit

theorem reckon64 (op a b : Int) (w : World) : Calls Try.prog 37 #[.int .i64 op, .int .u64 a, .int .u64 b] w fun e w' => e = .returned (.int .u64 (opR .u64 op a b)) ∧ w' = w := by
  go_enter Try.func37, Try.ntmps37
  go_wp2
  all_goals go_ret
  all_goals exact ⟨ret_int (by simp_all [opR]), rfl⟩

theorem reckon32 (op a b : Int) (w : World) : Calls Try.prog 36 #[.int .i64 op, .int .u32 a, .int .u32 b] w fun e w' => e = .returned (.int .u32 (opR .u32 op a b)) ∧ w' = w := by
  go_enter Try.func36, Try.ntmps36
  go_wp2
  all_goals go_ret
  all_goals exact ⟨ret_int (by simp_all [opR, IntKind.wrap_u32']), rfl⟩

theorem wide (op a b : Int) (w : World) : Calls Try.prog 15 #[.int .i64 op, .int .u64 a, .int .u64 b] w fun e w' => e = .returned (.int .u64 (opR .u64 op a b)) ∧ w' = w := by
  go_enter Try.func15, Try.ntmps15
  go_wp2_with (go_at_call 37; refine (reckon64 _ _ _ _).mono ?_; rintro e w' ⟨rfl, rfl⟩)
  go_ret
  exact ⟨rfl, rfl⟩

theorem narrow (op a b : Int) (w : World) : Calls Try.prog 14 #[.int .i64 op, .int .u32 a, .int .u32 b] w fun e w' => e = .returned (.int .u32 (opR .u32 op a b)) ∧ w' = w := by
  go_enter Try.func14, Try.ntmps14
  go_wp2_with (go_at_call 36; refine (reckon32 _ _ _ _).mono ?_; rintro e w' ⟨rfl, rfl⟩)
  go_ret
  exact ⟨rfl, rfl⟩

end Go.Proofs.Ytdbjklngnloibaa.num

/- The program's own machine (package run) in memory: its state, what came out, the ins that are left; the store that its deeds read and write, whatever it is; how each part of it is written. -/
namespace Go.Proofs.Ytdbjklngnloibaa.form
open Go.RowKit Go.Proofs.Ytdbjklngnloibaa.num
set_option linter.unusedVariables false

/-- A kind of store: its type in memory, its cells, what it may be. -/
structure StoK where
  S : Type
  T : TypeId
  enc : S → List Value
  ok : S → Prop

/-- The blocks below a bound, but two, are as they were. -/
structure Ran (mb sb base : Nat) (w w' : World) : Prop where
  os : w'.os = w.os
  tape : w'.tape = w.tape
  output : w'.output = w.output
  size : w.heap.size ≤ w'.heap.size
  block : ∀ k, k < base → k ≠ mb → k ≠ sb → w'.heap[k]? = w.heap[k]?

theorem Ran.refl (mb sb base : Nat) (w : World) : Ran mb sb base w w := ⟨rfl, rfl, rfl, Nat.le_refl _, fun _ _ _ _ => rfl⟩
theorem Ran.trans {mb sb base : Nat} {a b c : World} (h : Ran mb sb base a b) (k : Ran mb sb base b c) : Ran mb sb base a c :=
  ⟨k.os.trans h.os, k.tape.trans h.tape, k.output.trans h.output, Nat.le_trans h.size k.size, fun i hi h1 h2 => (k.block i hi h1 h2).trans (h.block i hi h1 h2)⟩
theorem Ran.of_below {mb sb base : Nat} {w w' : World} (hz : base ≤ w.heap.size) (h : Below w.heap.size w w') : Ran mb sb base w w' := ⟨h.os, h.tape, h.output, h.size, fun k hk _ _ => h.block k (by omega)⟩
theorem Ran.set {mb sb base : Nat} {w w' : World} (h : Ran mb sb base w w') (j : Nat) (u : Value) : Ran mb sb base w (w'.setCell ⟨mb, j, none⟩ u) :=
  ⟨h.os, h.tape, h.output, by simpa [World.setCell] using h.size, fun k hk h1 h2 => by rw [Below.heap_setCell _ _ _ _ h1]; exact h.block k hk h1 h2⟩
theorem Ran.cell {mb sb base : Nat} {w w' : World} (h : Ran mb sb base w w') {p : Addr} {v : Value} (hc : w.cell? p = some v) (h1 : p.block < base) (h2 : p.block ≠ mb) (h3 : p.block ≠ sb) : w'.cell? p = some v := by
  rw [World.cell?_of_block (h.block p.block h1 h2 h3)]; exact hc

/-- All that was there, but three blocks, is as it was. -/
def Kept (mb sb db : Nat) (w1 w : World) : Prop := ∀ k, k < w1.heap.size → k ≠ mb → k ≠ sb → k ≠ db → w.heap[k]? = w1.heap[k]?
theorem Kept.refl (mb sb db : Nat) (w : World) : Kept mb sb db w w := fun _ _ _ _ _ => rfl
theorem Kept.cell {mb sb db : Nat} {w w' : World} (h : Kept mb sb db w w') {p : Addr} {v : Value} (hc : w.cell? p = some v) (h1 : p.block ≠ mb) (h2 : p.block ≠ sb) (h3 : p.block ≠ db) : w'.cell? p = some v := by
  rw [World.cell?_of_block (h p.block (World.block_lt_of_cell? w _ hc) h1 h2 h3)]; exact hc
theorem Kept.of_below {mb sb db : Nat} {w w' : World} (h : Below w.heap.size w w') : Kept mb sb db w w' := fun k hk _ _ _ => h.block k hk
theorem Kept.trans {mb sb db : Nat} {a b c : World} (h : Kept mb sb db a b) (hz : a.heap.size ≤ b.heap.size) (k : Kept mb sb db b c) : Kept mb sb db a c := fun j hj h1 h2 h3 => (k j (by omega) h1 h2 h3).trans (h j hj h1 h2 h3)
theorem Kept.set {mb sb db : Nat} (w : World) (j : Nat) (u : Value) : Kept mb sb db w (w.setCell ⟨db, j, none⟩ u) := fun k _ _ _ h3 => Below.heap_setCell _ _ _ _ h3
theorem Kept.ran {mb sb db base : Nat} {w1 w w' : World} (h : Kept mb sb db w1 w) (hz : w1.heap.size ≤ base) (hr : Ran mb sb base w w') : Kept mb sb db w1 w' := fun k hk hm hs hd => (hr.block k (by omega) hm hs).trans (h k hk hm hs hd)
theorem Kept.thenBelow {mb sb db : Nat} {w1 w w' : World} (h : Kept mb sb db w1 w) (hz : w1.heap.size ≤ w.heap.size) (hb : Below w.heap.size w w') : Kept mb sb db w1 w' := h.trans hz (Kept.of_below hb)

/-- All that was there, but one block, is as it was. -/
structure Only (sb : Nat) (w w' : World) : Prop where
  os : w'.os = w.os
  tape : w'.tape = w.tape
  output : w'.output = w.output
  size : w.heap.size ≤ w'.heap.size
  block : ∀ k, k < w.heap.size → k ≠ sb → w'.heap[k]? = w.heap[k]?
theorem Only.of_below {sb : Nat} {w w' : World} (h : Below w.heap.size w w') : Only sb w w' := ⟨h.os, h.tape, h.output, h.size, fun k hk _ => h.block k hk⟩
theorem Only.refl (sb : Nat) (w : World) : Only sb w w := Only.of_below (Below.refl _ _)
theorem Only.trans {sb : Nat} {a b c : World} (h : Only sb a b) (k : Only sb b c) : Only sb a c :=
  ⟨k.os.trans h.os, k.tape.trans h.tape, k.output.trans h.output, Nat.le_trans h.size k.size, fun i hi h1 => (k.block i (Nat.lt_of_lt_of_le hi h.size) h1).trans (h.block i hi h1)⟩
theorem Only.set {sb : Nat} {w w' : World} (h : Only sb w w') (j : Nat) (u : Value) : Only sb w (w'.setCell ⟨sb, j, none⟩ u) :=
  ⟨h.os, h.tape, h.output, by simpa [World.setCell] using h.size, fun k hk h1 => by rw [Below.heap_setCell _ _ _ _ h1]; exact h.block k hk h1⟩
theorem Only.cell {sb : Nat} {w w' : World} (h : Only sb w w') {p : Addr} {v : Value} (hc : w.cell? p = some v) (h1 : p.block ≠ sb) : w'.cell? p = some v := by
  rw [World.cell?_of_block (h.block p.block (World.block_lt_of_cell? w _ hc) h1)]; exact hc
theorem Only.ran {mb sb base : Nat} {w w' : World} (h : Only sb w w') (hz : base ≤ w.heap.size) : Ran mb sb base w w' := ⟨h.os, h.tape, h.output, h.size, fun k hk _ h2 => h.block k (by omega) h2⟩
theorem Only.kept {mb sb db : Nat} {w w' : World} (h : Only sb w w') : Kept mb sb db w w' := fun k hk _ h2 _ => h.block k hk h2

/-- The ins that are left. -/
def InsIs (mb sb base : Nat) (w : World) (iv : Value) (I : List Int) : Prop :=
  ∃ ai cap, iv = .slice ai I.length cap ∧ I.length ≤ cap ∧ I.length ≤ 40 ∧ (∀ j, j < I.length → 0 ≤ I.getD j 0 ∧ I.getD j 0 < 4294967296) ∧
    (0 < I.length → ∃ b o, ai = some ⟨b, o, none⟩ ∧ b < base ∧ b ≠ mb ∧ b ≠ sb ∧ ∀ j, j < I.length → w.cell? ⟨b, o + j, none⟩ = some (.int .u32 (I.getD j 0)))

theorem InsIs.ran {mb sb base : Nat} {w w' : World} {iv : Value} {I : List Int} (h : InsIs mb sb base w iv I) (hr : Ran mb sb base w w') : InsIs mb sb base w' iv I := by
  obtain ⟨ai, cap, e, h1, h2, h3, h4⟩ := h
  refine ⟨ai, cap, e, h1, h2, h3, fun h0 => ?_⟩
  obtain ⟨b, o, e2, hb, hm, hs, hc⟩ := h4 h0
  exact ⟨b, o, e2, hb, hm, hs, fun j hj => hr.cell (hc j hj) hb hm hs⟩

/-- The cells of a machine. -/
def macV (st k pc : Int) (ov iv : Value) : List Value := [.int .i64 st, ov, .int .i64 k, iv, .int .i64 pc]

structure MS (K : StoK) (mb sb base : Nat) (s : K.S) (ov : Value) (l : List Int) (st k : Int) (iv : Value) (I : List Int) (pc : Int) (w : World) : Prop where
  row : Row w mb 84 (macV st k pc ov iv)
  sto : Row w sb K.T (K.enc s)
  ok : K.ok s
  ne : mb ≠ sb
  lt : mb < base
  slt : sb < base
  sz : base ≤ w.heap.size
  own : w.ownsRow base 23 1 ov l.length (l.map (Value.int .u32))
  ins : InsIs mb sb base w iv I

section
variable {K : StoK} {mb sb base : Nat} {s : K.S} {ov : Value} {l : List Int} {st k : Int} {iv : Value} {I : List Int} {pc : Int} {w w' : World}

theorem MS.cst (h : MS K mb sb base s ov l st k iv I pc w) : w.cell? ⟨mb, 0, none⟩ = some (.int .i64 st) := h.row.cell 0
theorem MS.cov (h : MS K mb sb base s ov l st k iv I pc w) : w.cell? ⟨mb, 1, none⟩ = some ov := h.row.cell 1
theorem MS.ck (h : MS K mb sb base s ov l st k iv I pc w) : w.cell? ⟨mb, 2, none⟩ = some (.int .i64 k) := h.row.cell 2
theorem MS.civ (h : MS K mb sb base s ov l st k iv I pc w) : w.cell? ⟨mb, 3, none⟩ = some iv := h.row.cell 3
theorem MS.cpc (h : MS K mb sb base s ov l st k iv I pc w) : w.cell? ⟨mb, 4, none⟩ = some (.int .i64 pc) := h.row.cell 4
theorem MS.fz (h : MS K mb sb base s ov l st k iv I pc w) (j : Nat) : w.frozen? ⟨mb, j, none⟩ = false := h.row.frozen j
theorem MS.ownNe (h : MS K mb sb base s ov l st k iv I pc w) {b : Nat} (hb : b < base) : ov.ownBlock ≠ some b := fun e => by have := (World.ownsRow.lt h.own _ e).1; omega

theorem MS.below (h : MS K mb sb base s ov l st k iv I pc w) (hb : Below w.heap.size w w') : MS K mb sb base s ov l st k iv I pc w' :=
  ⟨h.row.below hb, h.sto.below hb, h.ok, h.ne, h.lt, h.slt, Nat.le_trans h.sz hb.size, World.ownsRow.kept h.own ⟨hb.os, hb.tape, hb.output, hb.size, fun j hj _ => hb.block j hj⟩ (row := none) (by cases ov.ownBlock <;> simp), h.ins.ran (Ran.of_below h.sz hb)⟩

/-- Behind what was put into the store. -/
theorem MS.wrote {s' : K.S} (h : MS K mb sb base s ov l st k iv I pc w) (hr : Row w' sb K.T (K.enc s')) (hk : K.ok s') (ho : Only sb w w') : MS K mb sb base s' ov l st k iv I pc w' := by
  refine ⟨?_, hr, hk, h.ne, h.lt, h.slt, Nat.le_trans h.sz ho.size, World.ownsRow.kept h.own ⟨ho.os, ho.tape, ho.output, ho.size, fun j hj hne => ho.block j hj (fun e => hne (by rw [e]))⟩ (row := some sb) ?_, h.ins.ran (ho.ran h.sz)⟩
  · have h1 := h.row.lt
    have h2 := h.row
    unfold Row at *
    rw [ho.block mb h1 h.ne]; exact h2
  · have := h.ownNe h.slt
    first | exact this | exact Or.inr this | (intro e; exact this e) | (cases hob : ov.ownBlock <;> simp_all)

theorem MS.setMac (h : MS K mb sb base s ov l st k iv I pc w) (j : Nat) (v : Value) {st' k' pc' : Int} {iv' : Value} {I' : List Int} (he : (macV st k pc ov iv).set j v = macV st' k' pc' ov iv') (hi : InsIs mb sb base w iv' I') : MS K mb sb base s ov l st' k' iv' I' pc' (w.setCell ⟨mb, j, none⟩ v) :=
  ⟨by have := h.row.set j v; rwa [he] at this, h.sto.other (by exact fun e => h.ne e.symm) _, h.ok, h.ne, h.lt, h.slt, by simpa [World.setCell] using h.sz, ownsRow_setCell_other h.own (h.ownNe h.lt) _, hi.ran ((Ran.refl _ _ _ _).set _ _)⟩
theorem MS.setState (h : MS K mb sb base s ov l st k iv I pc w) (x : Int) : MS K mb sb base s ov l x k iv I pc (w.setCell ⟨mb, 0, none⟩ (.int .i64 x)) := h.setMac 0 _ rfl h.ins
theorem MS.setSteps (h : MS K mb sb base s ov l st k iv I pc w) (x : Int) : MS K mb sb base s ov l st x iv I pc (w.setCell ⟨mb, 2, none⟩ (.int .i64 x)) := h.setMac 2 _ rfl h.ins
theorem MS.setPc (h : MS K mb sb base s ov l st k iv I pc w) (x : Int) : MS K mb sb base s ov l st k iv I x (w.setCell ⟨mb, 4, none⟩ (.int .i64 x)) := h.setMac 4 _ rfl h.ins
theorem MS.setIns (h : MS K mb sb base s ov l st k iv I pc w) {iv' : Value} {I' : List Int} (hi : InsIs mb sb base w iv' I') : MS K mb sb base s ov l st k iv' I' pc (w.setCell ⟨mb, 3, none⟩ iv') := h.setMac 3 _ rfl hi

/-- Behind 'm.Out = append(m.Out, x)'. -/
theorem MS.push (h : MS K mb sb base s ov l st k iv I pc w) {x : Int} {g cap : Nat} {wx w1 : World} (hx : Below w.heap.size w wx)
    (hown : w1.ownsRow base 23 1 (.slice (some ⟨g, 0, none⟩) (l.length + 1) cap) (l.length + 1) (l.map (Value.int .u32) ++ [.int .u32 x])) (hgrow : wx.grownBy w1 ov.ownBlock) :
    MS K mb sb base s (.slice (some ⟨g, 0, none⟩) (l.length + 1) cap) (l ++ [x]) st k iv I pc (w1.setCell ⟨mb, 1, none⟩ (.slice (some ⟨g, 0, none⟩) (l.length + 1) cap)) ∧ Ran mb sb base w w1 ∧ Row w1 mb 84 (macV st k pc ov iv) := by
  have hz := h.sz
  have hz1 := hx.size
  have hbl : Below base w w1 := ((hx.mono hz).grown hgrow (by omega) (fun j hj => (World.ownsRow.lt h.own _ hj).1))
  have hr : Ran mb sb base w w1 := ⟨hbl.os, hbl.tape, hbl.output, hbl.size, fun j hj _ _ => hbl.block j hj⟩
  have hrow : Row w1 mb 84 (macV st k pc ov iv) := by
    have := h.row
    unfold Row at *
    rw [hbl.block mb h.lt]; exact this
  have hsto : Row w1 sb K.T (K.enc s) := by
    have := h.sto
    unfold Row at *
    rw [hbl.block sb h.slt]; exact this
  refine ⟨⟨hrow.set 1 _, hsto.other (by exact fun e => h.ne e.symm) _, h.ok, h.ne, h.lt, h.slt, ?_, ?_, h.ins.ran (hr.set _ _)⟩, hr, hrow⟩
  · have := hbl.size; simp [World.setCell]; omega
  · have hne : (Value.slice (some ⟨g, 0, none⟩) (l.length + 1) cap).ownBlock ≠ some mb := fun e => by have := (World.ownsRow.lt hown _ e).1; have := h.lt; omega
    have := ownsRow_setCell_other (a := ⟨mb, 1, none⟩) hown hne (.slice (some ⟨g, 0, none⟩) (l.length + 1) cap)
    simpa using this
end

end Go.Proofs.Ytdbjklngnloibaa.form
