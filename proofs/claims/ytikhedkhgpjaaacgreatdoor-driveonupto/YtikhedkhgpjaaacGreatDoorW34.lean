/- What the functions on numbers come to: the program's. -/
import Derived.Deep.OwnRows
import Derived.Deep.RegionHeld3
import Derived.Test.YtikhedkhgpjaaacGreatDoorW06
import Derived.Test.YtikhedkhgpjaaacGreatDoorW11
import Derived.Test.YtikhedkhgpjaaacGreatDoorW15

namespace Go.Proofs.YtikhedkhgpjaaacGreatDoor
set_option linter.unusedVariables false
namespace num
open Go.RowKit
theorem reckon64 (op a b : Int) (w : World) : Calls Tryz.prog 128 #[.int .i64 op, .int .u64 a, .int .u64 b] w fun e w' => e = .returned (.int .u64 (opR .u64 op a b)) ∧ w' = w := by
  go_enter Tryz.func128, Tryz.ntmps128
  go_wp2
  all_goals go_ret
  all_goals exact ⟨ret_int (by simp_all [opR]), rfl⟩
theorem reckon32 (op a b : Int) (w : World) : Calls Tryz.prog 129 #[.int .i64 op, .int .u32 a, .int .u32 b] w fun e w' => e = .returned (.int .u32 (opR .u32 op a b)) ∧ w' = w := by
  go_enter Tryz.func129, Tryz.ntmps129
  go_wp2
  all_goals go_ret
  all_goals exact ⟨ret_int (by simp_all [opR, IntKind.wrap_u32']), rfl⟩
theorem wide (op a b : Int) (w : World) : Calls Tryz.prog 94 #[.int .i64 op, .int .u64 a, .int .u64 b] w fun e w' => e = .returned (.int .u64 (opR .u64 op a b)) ∧ w' = w := by
  go_enter Tryz.func94, Tryz.ntmps94
  go_wp2_with (go_at_call 128; refine (reckon64 _ _ _ _).mono ?_; rintro e w' ⟨rfl, rfl⟩)
  go_ret
  exact ⟨rfl, rfl⟩
theorem narrow (op a b : Int) (w : World) : Calls Tryz.prog 96 #[.int .i64 op, .int .u32 a, .int .u32 b] w fun e w' => e = .returned (.int .u32 (opR .u32 op a b)) ∧ w' = w := by
  go_enter Tryz.func96, Tryz.ntmps96
  go_wp2_with (go_at_call 129; refine (reckon32 _ _ _ _).mono ?_; rintro e w' ⟨rfl, rfl⟩)
  go_ret
  exact ⟨rfl, rfl⟩
end num
/- The program's own machine (package run) in memory: its state, what came out, the ins that are left; the store that its deeds read and write, whatever it is; how each part of it is written. -/
namespace form
open Go.RowKit num
structure StoK where
  S : Type
  T : TypeId
  enc : S → List Value
  ok : S → Prop
structure Ran (mb sb base : Nat) (w w' : World) : Prop where
  os : w'.os = w.os
  tape : w'.tape = w.tape
  output : w'.output = w.output
  size : w.heap.size ≤ w'.heap.size
  block : ∀ k, k < base → k ≠ mb → k ≠ sb → w'.heap[k]? = w.heap[k]?
theorem Ran.refl (mb sb base : Nat) (w : World) : Ran mb sb base w w := ⟨rfl, rfl, rfl, Nat.le_refl _, fun _ _ _ _ => rfl⟩
theorem Ran.trans {mb sb base : Nat} {a b c : World} (h : Ran mb sb base a b) (k : Ran mb sb base b c) : Ran mb sb base a c :=
  ⟨k.os.trans h.os, k.tape.trans h.tape, k.output.trans h.output, Nat.le_trans h.size k.size, fun i hi h1 h2 => (k.block i hi h1 h2).trans (h.block i hi h1 h2)⟩
theorem Ran.of_below {mb sb base : Nat} {w w' : World} (hz : base ≤ w.heap.size) (h : Below w.heap.size w w') : Ran mb sb base w w' := ⟨h.os, h.tape, h.output, h.size, fun k hk _ _ => h.block k (by omega)⟩
theorem Ran.set {mb sb base : Nat} {w w' : World} (h : Ran mb sb base w w') (j : Nat) (u : Value) : Ran mb sb base w (w'.setCell ⟨mb, j, none⟩ u) :=
  ⟨h.os, h.tape, h.output, by simpa [World.setCell] using h.size, fun k hk h1 h2 => by rw [Below.heap_setCell _ _ _ _ h1]; exact h.block k hk h1 h2⟩
theorem Ran.cell {mb sb base : Nat} {w w' : World} (h : Ran mb sb base w w') {p : Addr} {v : Value} (hc : w.cell? p = some v) (h1 : p.block < base) (h2 : p.block ≠ mb) (h3 : p.block ≠ sb) : w'.cell? p = some v := by
  rw [World.cell?_of_block (h.block p.block h1 h2 h3)]; exact hc
def Kept (mb sb db : Nat) (w1 w : World) : Prop := ∀ k, k < w1.heap.size → k ≠ mb → k ≠ sb → k ≠ db → w.heap[k]? = w1.heap[k]?
theorem Kept.cell {mb sb db : Nat} {w w' : World} (h : Kept mb sb db w w') {p : Addr} {v : Value} (hc : w.cell? p = some v) (h1 : p.block ≠ mb) (h2 : p.block ≠ sb) (h3 : p.block ≠ db) : w'.cell? p = some v := by
  rw [World.cell?_of_block (h p.block (World.block_lt_of_cell? w _ hc) h1 h2 h3)]; exact hc
theorem Kept.of_below {mb sb db : Nat} {w w' : World} (h : Below w.heap.size w w') : Kept mb sb db w w' := fun k hk _ _ _ => h.block k hk
theorem Kept.trans {mb sb db : Nat} {a b c : World} (h : Kept mb sb db a b) (hz : a.heap.size ≤ b.heap.size) (k : Kept mb sb db b c) : Kept mb sb db a c := fun j hj h1 h2 h3 => (k j (by omega) h1 h2 h3).trans (h j hj h1 h2 h3)
theorem Kept.set {mb sb db : Nat} (w : World) (j : Nat) (u : Value) : Kept mb sb db w (w.setCell ⟨db, j, none⟩ u) := fun k _ _ _ h3 => Below.heap_setCell _ _ _ _ h3
theorem Kept.ran {mb sb db base : Nat} {w1 w w' : World} (h : Kept mb sb db w1 w) (hz : w1.heap.size ≤ base) (hr : Ran mb sb base w w') : Kept mb sb db w1 w' := fun k hk hm hs hd => (hr.block k (by omega) hm hs).trans (h k hk hm hs hd)
theorem Kept.thenBelow {mb sb db : Nat} {w1 w w' : World} (h : Kept mb sb db w1 w) (hz : w1.heap.size ≤ w.heap.size) (hb : Below w.heap.size w w') : Kept mb sb db w1 w' := h.trans hz (Kept.of_below hb)
structure Only (sb : Nat) (w w' : World) : Prop where
  os : w'.os = w.os
  tape : w'.tape = w.tape
  output : w'.output = w.output
  size : w.heap.size ≤ w'.heap.size
  block : ∀ k, k < w.heap.size → k ≠ sb → w'.heap[k]? = w.heap[k]?
theorem Only.of_below {sb : Nat} {w w' : World} (h : Below w.heap.size w w') : Only sb w w' := ⟨h.os, h.tape, h.output, h.size, fun k hk _ => h.block k hk⟩
theorem Only.refl (sb : Nat) (w : World) : Only sb w w := Only.of_below (Below.refl _ _)
theorem Only.trans {sb : Nat} {a b c : World} (h : Only sb a b) (k : Only sb b c) : Only sb a c :=
  ⟨k.os.trans h.os, k.tape.trans h.tape, k.output.trans h.output, Nat.le_trans h.size k.size, fun i hi h1 => (k.block i (Nat.lt_of_lt_of_le hi h.size) h1).trans (h.block i hi h1)⟩
theorem Only.set {sb : Nat} {w w' : World} (h : Only sb w w') (j : Nat) (u : Value) : Only sb w (w'.setCell ⟨sb, j, none⟩ u) :=
  ⟨h.os, h.tape, h.output, by simpa [World.setCell] using h.size, fun k hk h1 => by rw [Below.heap_setCell _ _ _ _ h1]; exact h.block k hk h1⟩
theorem Only.cell {sb : Nat} {w w' : World} (h : Only sb w w') {p : Addr} {v : Value} (hc : w.cell? p = some v) (h1 : p.block ≠ sb) : w'.cell? p = some v := by
  rw [World.cell?_of_block (h.block p.block (World.block_lt_of_cell? w _ hc) h1)]; exact hc
theorem Only.ran {mb sb base : Nat} {w w' : World} (h : Only sb w w') (hz : base ≤ w.heap.size) : Ran mb sb base w w' := ⟨h.os, h.tape, h.output, h.size, fun k hk _ h2 => h.block k (by omega) h2⟩
def InsIs (mb sb base : Nat) (w : World) (iv : Value) (I : List Int) : Prop :=
  ∃ ai cap, iv = .slice ai I.length cap ∧ I.length ≤ cap ∧ I.length ≤ 40 ∧ (∀ j, j < I.length → 0 ≤ I.getD j 0 ∧ I.getD j 0 < 4294967296) ∧
    (0 < I.length → ∃ b o, ai = some ⟨b, o, none⟩ ∧ b < base ∧ b ≠ mb ∧ b ≠ sb ∧ ∀ j, j < I.length → w.cell? ⟨b, o + j, none⟩ = some (.int .u32 (I.getD j 0)))
theorem InsIs.ran {mb sb base : Nat} {w w' : World} {iv : Value} {I : List Int} (h : InsIs mb sb base w iv I) (hr : Ran mb sb base w w') : InsIs mb sb base w' iv I := by
  obtain ⟨ai, cap, e, h1, h2, h3, h4⟩ := h
  refine ⟨ai, cap, e, h1, h2, h3, fun h0 => ?_⟩
  obtain ⟨b, o, e2, hb, hm, hs, hc⟩ := h4 h0
  exact ⟨b, o, e2, hb, hm, hs, fun j hj => hr.cell (hc j hj) hb hm hs⟩
def macV (st k pc : Int) (ov iv : Value) : List Value := [.int .i64 st, ov, .int .i64 k, iv, .int .i64 pc]
structure MS (K : StoK) (mb sb base : Nat) (s : K.S) (ov : Value) (l : List Int) (st k : Int) (iv : Value) (I : List Int) (pc : Int) (w : World) : Prop where
  row : Row w mb 95 (macV st k pc ov iv)
  sto : Row w sb K.T (K.enc s)
  ok : K.ok s
  ne : mb ≠ sb
  lt : mb < base
  slt : sb < base
  sz : base ≤ w.heap.size
  own : w.ownsRow base 60 1 ov l.length (l.map (Value.int .u32))
  ins : InsIs mb sb base w iv I
section
variable {K : StoK} {mb sb base : Nat} {s : K.S} {ov : Value} {l : List Int} {st k : Int} {iv : Value} {I : List Int} {pc : Int} {w w' : World}
theorem MS.cst (h : MS K mb sb base s ov l st k iv I pc w) : w.cell? ⟨mb, 0, none⟩ = some (.int .i64 st) := h.row.cell 0
theorem MS.cov (h : MS K mb sb base s ov l st k iv I pc w) : w.cell? ⟨mb, 1, none⟩ = some ov := h.row.cell 1
theorem MS.ck (h : MS K mb sb base s ov l st k iv I pc w) : w.cell? ⟨mb, 2, none⟩ = some (.int .i64 k) := h.row.cell 2
theorem MS.civ (h : MS K mb sb base s ov l st k iv I pc w) : w.cell? ⟨mb, 3, none⟩ = some iv := h.row.cell 3
theorem MS.cpc (h : MS K mb sb base s ov l st k iv I pc w) : w.cell? ⟨mb, 4, none⟩ = some (.int .i64 pc) := h.row.cell 4
theorem MS.fz (h : MS K mb sb base s ov l st k iv I pc w) (j : Nat) : w.frozen? ⟨mb, j, none⟩ = false := h.row.frozen j
theorem MS.ownNe (h : MS K mb sb base s ov l st k iv I pc w) {b : Nat} (hb : b < base) : ov.ownBlock ≠ some b := fun e => by have := (World.ownsRow.lt h.own _ e).1; omega
theorem MS.below (h : MS K mb sb base s ov l st k iv I pc w) (hb : Below w.heap.size w w') : MS K mb sb base s ov l st k iv I pc w' :=
  ⟨h.row.below hb, h.sto.below hb, h.ok, h.ne, h.lt, h.slt, Nat.le_trans h.sz hb.size, World.ownsRow.kept h.own ⟨hb.os, hb.tape, hb.output, hb.size, fun j hj _ => hb.block j hj⟩ (row := none) (by cases ov.ownBlock <;> simp), h.ins.ran (Ran.of_below h.sz hb)⟩
theorem MS.wrote {s' : K.S} (h : MS K mb sb base s ov l st k iv I pc w) (hr : Row w' sb K.T (K.enc s')) (hk : K.ok s') (ho : Only sb w w') : MS K mb sb base s' ov l st k iv I pc w' := by
  refine ⟨?_, hr, hk, h.ne, h.lt, h.slt, Nat.le_trans h.sz ho.size, World.ownsRow.kept h.own ⟨ho.os, ho.tape, ho.output, ho.size, fun j hj hne => ho.block j hj (fun e => hne (by rw [e]))⟩ (row := some sb) ?_, h.ins.ran (ho.ran h.sz)⟩
  · have h1 := h.row.lt
    have h2 := h.row
    unfold Row at *
    rw [ho.block mb h1 h.ne]; exact h2
  · have := h.ownNe h.slt
    first | exact this | exact Or.inr this | (intro e; exact this e) | (cases hob : ov.ownBlock <;> simp_all)
theorem MS.setMac (h : MS K mb sb base s ov l st k iv I pc w) (j : Nat) (v : Value) {st' k' pc' : Int} {iv' : Value} {I' : List Int} (he : (macV st k pc ov iv).set j v = macV st' k' pc' ov iv') (hi : InsIs mb sb base w iv' I') : MS K mb sb base s ov l st' k' iv' I' pc' (w.setCell ⟨mb, j, none⟩ v) :=
  ⟨by have := h.row.set j v; rwa [he] at this, h.sto.other (by exact fun e => h.ne e.symm) _, h.ok, h.ne, h.lt, h.slt, by simpa [World.setCell] using h.sz, ownsRow_setCell_other h.own (h.ownNe h.lt) _, hi.ran ((Ran.refl _ _ _ _).set _ _)⟩
theorem MS.setState (h : MS K mb sb base s ov l st k iv I pc w) (x : Int) : MS K mb sb base s ov l x k iv I pc (w.setCell ⟨mb, 0, none⟩ (.int .i64 x)) := h.setMac 0 _ rfl h.ins
theorem MS.setSteps (h : MS K mb sb base s ov l st k iv I pc w) (x : Int) : MS K mb sb base s ov l st x iv I pc (w.setCell ⟨mb, 2, none⟩ (.int .i64 x)) := h.setMac 2 _ rfl h.ins
theorem MS.setPc (h : MS K mb sb base s ov l st k iv I pc w) (x : Int) : MS K mb sb base s ov l st k iv I x (w.setCell ⟨mb, 4, none⟩ (.int .i64 x)) := h.setMac 4 _ rfl h.ins
theorem MS.setIns (h : MS K mb sb base s ov l st k iv I pc w) {iv' : Value} {I' : List Int} (hi : InsIs mb sb base w iv' I') : MS K mb sb base s ov l st k iv' I' pc (w.setCell ⟨mb, 3, none⟩ iv') := h.setMac 3 _ rfl hi
theorem MS.push (h : MS K mb sb base s ov l st k iv I pc w) {x : Int} {g cap : Nat} {wx w1 : World} (hx : Below w.heap.size w wx)
    (hown : w1.ownsRow base 60 1 (.slice (some ⟨g, 0, none⟩) (l.length + 1) cap) (l.length + 1) (l.map (Value.int .u32) ++ [.int .u32 x])) (hgrow : wx.grownBy w1 ov.ownBlock) :
    MS K mb sb base s (.slice (some ⟨g, 0, none⟩) (l.length + 1) cap) (l ++ [x]) st k iv I pc (w1.setCell ⟨mb, 1, none⟩ (.slice (some ⟨g, 0, none⟩) (l.length + 1) cap)) ∧ Ran mb sb base w w1 ∧ Row w1 mb 95 (macV st k pc ov iv) := by
  have hz := h.sz
  have hz1 := hx.size
  have hbl : Below base w w1 := ((hx.mono hz).grown hgrow (by omega) (fun j hj => (World.ownsRow.lt h.own _ hj).1))
  have hr : Ran mb sb base w w1 := ⟨hbl.os, hbl.tape, hbl.output, hbl.size, fun j hj _ _ => hbl.block j hj⟩
  have hrow : Row w1 mb 95 (macV st k pc ov iv) := by
    have := h.row
    unfold Row at *
    rw [hbl.block mb h.lt]; exact this
  have hsto : Row w1 sb K.T (K.enc s) := by
    have := h.sto
    unfold Row at *
    rw [hbl.block sb h.slt]; exact this
  refine ⟨⟨hrow.set 1 _, hsto.other (by exact fun e => h.ne e.symm) _, h.ok, h.ne, h.lt, h.slt, ?_, ?_, h.ins.ran (hr.set _ _)⟩, hr, hrow⟩
  · have := hbl.size; simp [World.setCell]; omega
  · have hne : (Value.slice (some ⟨g, 0, none⟩) (l.length + 1) cap).ownBlock ≠ some mb := fun e => by have := (World.ownsRow.lt hown _ e).1; have := h.lt; omega
    have := ownsRow_setCell_other (a := ⟨mb, 1, none⟩) hown hne (.slice (some ⟨g, 0, none⟩) (l.length + 1) cap)
    simpa using this
end
end form
/- A machine on plain numbers, over whatever store: what each instruction does with it is handed in; the machine of temporaries is one of them. -/
namespace form
open Go.RowKit num
structure Eff (S : Type) where
  pre : S → S
  post : S → S
  rdA : S → Int
  rdB : S → Int
  wr : S → Int → S
def plainE {S : Type} (rdA rdB : S → Int) (wr : S → Int → S) : Eff S := ⟨id, id, rdA, rdB, wr⟩
def Eff.a {S : Type} (E : Eff S) (s : S) : Int := E.rdA (E.pre s)
def Eff.act {S : Type} (E : Eff S) (i : LIns) (s : S) (x : Int) : S :=
  E.post (if givesB i.op = true then E.wr (E.pre s) (gvI i (E.rdA (E.pre s)) (E.rdB (E.pre s)) x) else E.pre s)
structure GM (S : Type) where
  pc : Nat
  sto : S
  taken : Nat
  out : List Int
  state : Int
  steps : Nat
def GM.step {S : Type} (C : List LIns) (E : Nat → Eff S) (ins : List Int) (m : GM S) : GM S :=
  { pc := (nxI (C.getD m.pc .zero) m.pc ((E m.pc).a m.sto)).toNat
    sto := (E m.pc).act (C.getD m.pc .zero) m.sto (inOf ins m.taken)
    taken := if (C.getD m.pc .zero).op = 3 ∧ m.taken < ins.length then m.taken + 1 else m.taken
    out := if (C.getD m.pc .zero).op = 4 then m.out ++ [(E m.pc).a m.sto % 4294967296] else m.out
    state := stI (C.getD m.pc .zero) C.length (nxI (C.getD m.pc .zero) m.pc ((E m.pc).a m.sto))
    steps := m.steps + 1 }
def GM.go {S : Type} (C : List LIns) (E : Nat → Eff S) (ins : List Int) : Nat → GM S → GM S
  | 0, m => m
  | k + 1, m => if m.state = 0 then GM.go C E ins k (m.step C E ins) else m
theorem GM.go_stop {S : Type} {C : List LIns} {E : Nat → Eff S} {ins : List Int} {m : GM S} (h : ¬ m.state = 0) : ∀ k, GM.go C E ins k m = m
  | 0 => rfl
  | k + 1 => by simp [GM.go, h]
def GM.start {S : Type} (s : S) : GM S := ⟨0, s, 0, [], 0, 0⟩
structure GOk {S : Type} (nC nI : Nat) (m : GM S) : Prop where
  pcok : m.state = 0 → m.pc < nC
  tk : m.taken ≤ nI
  outs : m.out.length ≤ m.steps
  fin : m.state = 0 ∨ m.state = 1 ∨ (m.state = 2 ∧ m.pc = nC)
theorem gok_start {S : Type} (nC nI : Nat) (s : S) (h : 1 ≤ nC) : GOk nC nI (GM.start s) := ⟨fun _ => h, by simp [GM.start], by simp [GM.start], Or.inl rfl⟩
theorem gok_step {S : Type} {nB : Nat} {C : List LIns} {E : Nat → Eff S} {ins : List Int} {m : GM S} (h : GOk C.length ins.length m) (h0 : m.state = 0) (hi : InsOk nB C.length (C.getD m.pc .zero)) : GOk C.length ins.length (m.step C E ins) := by
  have hpc := h.pcok h0
  refine ⟨?_, ?_, ?_, ?_⟩
  · simp only [GM.step]
    intro hs
    unfold stI at hs
    split at hs
    · omega
    split at hs
    · omega
    · have hn : 0 ≤ nxI (C.getD m.pc .zero) m.pc ((E m.pc).a m.sto) := by
        unfold nxI
        split
        · rename_i hc
          exact (hi.c (by rcases hc with hc | hc; exact Or.inl hc; exact Or.inr hc.1)).1
        · omega
      omega
  · simp only [GM.step]
    split
    · rename_i hc; exact hc.2
    · exact h.tk
  · simp only [GM.step]
    have := h.outs
    split <;> simp <;> omega
  · simp only [GM.step]
    unfold stI
    split
    · exact Or.inr (Or.inl rfl)
    split
    · rename_i h1 h2
      refine Or.inr (Or.inr ⟨rfl, ?_⟩)
      unfold nxI at h2 ⊢
      split at h2
      · rename_i hc
        rw [if_pos hc]
        have := (hi.c (by rcases hc with hc | hc; exact Or.inl hc; exact Or.inr hc.1)).2
        omega
      · rename_i hc
        rw [if_neg hc]
        omega
    · exact Or.inl rfl
theorem ggo_outs {S : Type} (C : List LIns) (E : Nat → Eff S) (ins : List Int) : ∀ (k : Nat) (m : GM S), (GM.go C E ins k m).out.length ≤ m.out.length + k
  | 0, m => by simp [GM.go]
  | k + 1, m => by
    by_cases h : m.state = 0
    · simp only [GM.go, if_pos h]
      have h1 := ggo_outs C E ins k (m.step C E ins)
      have h2 : (m.step C E ins).out.length ≤ m.out.length + 1 := by simp only [GM.step]; split <;> simp
      omega
    · rw [GM.go_stop h]; omega
def tempE (i : LIns) : Eff (List Int) := plainE (fun s => s.getD i.a.toNat 0) (fun s => s.getD i.b.toNat 0) (fun s x => s.set i.dest.toNat x)
def Mac.gen (m : Mac) : GM (List Int) := ⟨m.pc, m.temps, m.taken, m.out, m.state, m.steps⟩
theorem gen_step (C : List LIns) (ins : List Int) (m : Mac) : (m.step C ins).gen = m.gen.step C (fun k => tempE (C.getD k .zero)) ins := rfl
theorem gen_go (C : List LIns) (ins : List Int) : ∀ (k : Nat) (m : Mac), (Mac.go C ins k m).gen = GM.go C (fun k => tempE (C.getD k .zero)) ins k m.gen
  | 0, m => rfl
  | k + 1, m => by
    by_cases h : m.state = 0
    · have h' : m.gen.state = 0 := h
      simp only [Mac.go, GM.go, if_pos h, if_pos h', ← gen_step]
      exact gen_go C ins k (m.step C ins)
    · have h' : ¬ m.gen.state = 0 := h
      rw [Mac.go_stop h, GM.go_stop h']
theorem play_gen (B : List Bool) (C : List LIns) (ins : List Int) (n : Nat) : (playM B C ins n).gen = GM.go C (fun k => tempE (C.getD k .zero)) ins n (GM.start (List.replicate B.length 0)) := gen_go C ins n _
end form
/- The ends of an instruction: closures that tell what is in its A and B, and give its Dest a number, whatever the store; what a closure has caught; what a closure gives. -/
namespace form
open Go.RowKit num
def ReadSpec (K : StoK) (mb sb db : Nat) (w1 : World) (F : Nat) (caps : Array Value) (rd : K.S → Int) : Prop :=
  (∀ w, Sem.run Tryz.prog (callFunc F caps) w = .ok (.enter F caps) w) ∧ (∀ s, K.ok s → U64i (rd s)) ∧
    ∀ s w, Kept mb sb db w1 w → w1.heap.size ≤ w.heap.size → Row w sb K.T (K.enc s) → K.ok s → Calls Tryz.prog F caps w fun e w' => e = .returned (.int .u64 (rd s)) ∧ Below w.heap.size w w'
def WriteSpec (K : StoK) (mb sb db : Nat) (w1 : World) (F : Nat) (c1 c2 : Value) (wr : K.S → Int → K.S) : Prop :=
  (∀ x w, Sem.run Tryz.prog (callFunc F #[x, c1, c2]) w = .ok (.enter F #[x, c1, c2]) w) ∧ (∀ s x, K.ok s → U64i x → K.ok (wr s x)) ∧
    ∀ s x w, Kept mb sb db w1 w → w1.heap.size ≤ w.heap.size → Row w sb K.T (K.enc s) → K.ok s → U64i x → Calls Tryz.prog F #[.int .u64 x, c1, c2] w fun e w' => e = .returned (.tuple #[]) ∧ Row w' sb K.T (K.enc (wr s x)) ∧ Only sb w w'
theorem ReadSpec.later {K : StoK} {mb sb db : Nat} {w1 w2 : World} {F : Nat} {caps : Array Value} {rd : K.S → Int} (h : ReadSpec K mb sb db w1 F caps rd) (hk : Kept mb sb db w1 w2) (hz : w1.heap.size ≤ w2.heap.size) : ReadSpec K mb sb db w2 F caps rd :=
  ⟨h.1, h.2.1, fun s w hw hz2 hr ho => h.2.2 s w (hk.trans hz hw) (Nat.le_trans hz hz2) hr ho⟩
theorem WriteSpec.later {K : StoK} {mb sb db : Nat} {w1 w2 : World} {F : Nat} {c1 c2 : Value} {wr : K.S → Int → K.S} (h : WriteSpec K mb sb db w1 F c1 c2 wr) (hk : Kept mb sb db w1 w2) (hz : w1.heap.size ≤ w2.heap.size) : WriteSpec K mb sb db w2 F c1 c2 wr :=
  ⟨h.1, h.2.1, fun s x w hw hz2 hr ho hx => h.2.2 s x w (hk.trans hz hw) (Nat.le_trans hz hz2) hr ho hx⟩
structure EndF where
  fa : Nat
  ca : Array Value
  fb : Nat
  cb : Array Value
  fd : Nat
  d1 : Value
  d2 : Value
structure EndsIs (K : StoK) (mb sb db : Nat) (w1 : World) (x : EndF) (rdA rdB : K.S → Int) (wr : K.S → Int → K.S) (G : Prop) : Prop where
  a : ReadSpec K mb sb db w1 x.fa x.ca rdA
  b : ReadSpec K mb sb db w1 x.fb x.cb rdB
  d : G → WriteSpec K mb sb db w1 x.fd x.d1 x.d2 wr
theorem EndsIs.later {K : StoK} {mb sb db : Nat} {w1 w2 : World} {x : EndF} {rdA rdB : K.S → Int} {wr : K.S → Int → K.S} {G : Prop} (h : EndsIs K mb sb db w1 x rdA rdB wr G) (hk : Kept mb sb db w1 w2) (hz : w1.heap.size ≤ w2.heap.size) : EndsIs K mb sb db w2 x rdA rdB wr G :=
  ⟨h.a.later hk hz, h.b.later hk hz, fun g => (h.d g).later hk hz⟩
structure Box (mb sb db bm bi be : Nat) (i : LIns) (x : EndF) (w : World) : Prop where
  pm : w.cell? ⟨bm, 0, none⟩ = some (.pointer (some ⟨mb, 0, none⟩))
  i0 : w.cell? ⟨bi, 0, none⟩ = some (.int .i64 i.op)
  i4 : w.cell? ⟨bi, 4, none⟩ = some (.int .i64 i.c)
  i5 : w.cell? ⟨bi, 5, none⟩ = some (.int .u32 i.n)
  e0 : w.cell? ⟨be, 0, none⟩ = some (.func (.func x.fa) #[] x.ca)
  e1 : w.cell? ⟨be, 1, none⟩ = some (.func (.func x.fb) #[] x.cb)
  e2 : w.cell? ⟨be, 2, none⟩ = some (.func (.func x.fd) #[] #[x.d1, x.d2])
  n1 : bm ≠ mb
  n2 : bi ≠ mb
  n3 : be ≠ mb
  s1 : bm ≠ sb
  s2 : bi ≠ sb
  s3 : be ≠ sb
  m1 : bm ≠ db
  m2 : bi ≠ db
  m3 : be ≠ db
theorem Box.kept {mb sb db bm bi be : Nat} {i : LIns} {x : EndF} {w w' : World} (h : Box mb sb db bm bi be i x w) (hk : Kept mb sb db w w') : Box mb sb db bm bi be i x w' :=
  ⟨hk.cell h.pm h.n1 h.s1 h.m1, hk.cell h.i0 h.n2 h.s2 h.m2, hk.cell h.i4 h.n2 h.s2 h.m2, hk.cell h.i5 h.n2 h.s2 h.m2, hk.cell h.e0 h.n3 h.s3 h.m3, hk.cell h.e1 h.n3 h.s3 h.m3, hk.cell h.e2 h.n3 h.s3 h.m3, h.n1, h.n2, h.n3, h.s1, h.s2, h.s3, h.m1, h.m2, h.m3⟩
def GiveSpec (K : StoK) (mb sb db : Nat) (i : LIns) (rdA rdB : K.S → Int) (w1 : World) (F : Nat) (caps : Array Value) : Prop := (∀ w, Sem.run Tryz.prog (callFunc F caps) w = .ok (.enter F caps) w) ∧ ∀ base s ov l st k iv I pc w, Kept mb sb db w1 w → w1.heap.size ≤ w.heap.size → MS K mb sb base s ov l st k iv I pc w →
  (i.op = 5 → rdA s < 4294967296) → Calls Tryz.prog F caps w fun e w' =>
    e = .returned (.int .u64 (gvI i (rdA s) (rdB s) (I.headD 0))) ∧ (∃ iv', MS K mb sb base s ov l st k iv' (if i.op = 3 then I.tail else I) pc w') ∧ Ran mb sb base w w'
def Behind (K : StoK) (mb sb base : Nat) (i : LIns) (E : Eff K.S) (s : K.S) (l : List Int) (st k : Int) (I : List Int) (pc : Int) (w w' : World) : Prop :=
  (∃ ov' iv', MS K mb sb base (E.act i s (I.headD 0)) ov' (if i.op = 4 then l ++ [E.a s % 4294967296] else l)
    (if i.op = 10 then 1 else st) k iv' (if i.op = 3 then I.tail else I) (if i.op = 8 ∨ (i.op = 9 ∧ ¬ E.a s = 0) then i.c else pc) w') ∧ Ran mb sb base w w'
def DeedSpec (K : StoK) (mb sb db : Nat) (i : LIns) (E : Eff K.S) (w1 : World) (F : Nat) (caps : Array Value) : Prop := (∀ w, Sem.run Tryz.prog (callFunc F caps) w = .ok (.enter F caps) w) ∧ ∀ base s ov l st k iv I pc w, Kept mb sb db w1 w → w1.heap.size ≤ w.heap.size → MS K mb sb base s ov l st k iv I pc w →
  w1.heap.size ≤ base → l.length ≤ 3000 → (i.op = 5 → E.a s < 4294967296) → Calls Tryz.prog F caps w fun e w' => e = .returned (.tuple #[]) ∧ Behind K mb sb base i E s l st k I pc w w'
theorem DeedSpec.later {K : StoK} {mb sb db : Nat} {i : LIns} {E : Eff K.S} {F : Nat} {caps : Array Value} {w1 w2 : World} (h : DeedSpec K mb sb db i E w1 F caps) (hk : Kept mb sb db w1 w2) (hz2 : w1.heap.size ≤ w2.heap.size) : DeedSpec K mb sb db i E w2 F caps :=
  ⟨h.1, fun base s ov l st k iv I pc w hw hz3 hm hz => h.2 base s ov l st k iv I pc w (hk.trans hz2 hw) (Nat.le_trans hz2 hz3) hm (Nat.le_trans hz2 hz)⟩
theorem pair_of (a b : Int) (ha0 : 0 ≤ a) (ha1 : a < 4294967296) (hb : U64i b) : bits BinOp.or IntKind.u64 (IntKind.u64.wrap (b * 4294967296)) a = IntKind.u64.wrap (IntKind.u64.wrap (b * 4294967296) + a) := by
  obtain ⟨b0, b1⟩ := hb
  obtain ⟨x, rfl⟩ := Int.eq_ofNat_of_zero_le ha0
  obtain ⟨y, rfl⟩ := Int.eq_ofNat_of_zero_le b0
  have e : IntKind.u64.wrap ((y : Int) * 4294967296) = ((2 ^ 32 * (y % 4294967296) : Nat) : Int) := by
    rw [show IntKind.u64.wrap ((y : Int) * 4294967296) = ((y : Int) * 4294967296) % 18446744073709551616 by simp [IntKind.wrap, IntKind.bits, IntKind.signed]]
    omega
  rw [e, u64_or_nat _ _ (by omega) (by omega), ← Nat.two_pow_add_eq_or_of_lt (by omega), wrap64_of _ (by omega) (by omega)]
  omega
end form
end Go.Proofs.YtikhedkhgpjaaacGreatDoor
