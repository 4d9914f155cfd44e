/- Programs that run, on plain numbers: a machine, a step, so many steps; rows of cells in memory. -/
import Derived.Test.YtepfegfacdbhbabPlain
import Derived.Test.YtepfegfacdbhbabFormProg
import Derived.Test.YtepfegfacdbhbabRefLeaves
import Derived.Laws.Rows
import Derived.OneCell
namespace Go.Proofs.Ytepfegfacdbhbab.form
open Go.RowKit Go.Proofs.Ytepfegfacdbhbab.num

/-- What an instruction gives, of what it takes and of what comes in. -/
def gvI (i : LIns) (a b x : Int) : Int :=
  if i.op = 1 then i.n else if i.op = 2 then a else if i.op = 3 then x else if i.op = 5 then IntKind.u64.wrap (IntKind.u64.wrap (b * 4294967296) + a)
  else if i.op = 6 then a % 4294967296 else if i.op = 7 then a / 4294967296
  else if 40 < i.op then opR .u64 (i.op - 40) a b else opR .u32 (i.op - 20) (a % 4294967296) (b % 4294967296)

/-- Where it goes on. -/
def nxI (i : LIns) (pc : Nat) (a : Int) : Int := if i.op = 8 ∨ (i.op = 9 ∧ ¬ a = 0) then i.c else pc + 1
def stI (i : LIns) (nC : Nat) (nx : Int) : Int := if i.op = 10 then 1 else if (nC : Int) ≤ nx then 2 else 0

/-- A machine: where it is, its temporaries, how many ins are taken, what came out, its state, its steps. -/
structure Mac where
  pc : Nat
  temps : List Int
  taken : Nat
  out : List Int
  state : Int
  steps : Nat

def Mac.start (nB : Nat) : Mac := ⟨0, List.replicate nB 0, 0, [], 0, 0⟩

def inOf (ins : List Int) (k : Nat) : Int := ins.getD k 0

def Mac.step (C : List LIns) (ins : List Int) (m : Mac) : Mac :=
  let i := C.getD m.pc .zero
  let a := m.temps.getD i.a.toNat 0
  let b := m.temps.getD i.b.toNat 0
  let nx := nxI i m.pc a
  { pc := nx.toNat
    temps := if givesB i.op then m.temps.set i.dest.toNat (gvI i a b (inOf ins m.taken)) else m.temps
    taken := if i.op = 3 ∧ m.taken < ins.length then m.taken + 1 else m.taken
    out := if i.op = 4 then m.out ++ [a % 4294967296] else m.out
    state := stI i C.length nx
    steps := m.steps + 1 }

/-- At most so many steps more. -/
def Mac.go (C : List LIns) (ins : List Int) : Nat → Mac → Mac
  | 0, m => m
  | k + 1, m => if m.state = 0 then Mac.go C ins k (m.step C ins) else m

def playM (B : List Bool) (C : List LIns) (ins : List Int) (n : Nat) : Mac := Mac.go C ins n (Mac.start B.length)

theorem Mac.go_stop {C : List LIns} {ins : List Int} {m : Mac} (h : ¬ m.state = 0) : ∀ k, Mac.go C ins k m = m
  | 0 => rfl
  | k + 1 => by simp [Mac.go, h]

/-- A row of cells that may be written. -/
def Row (w : World) (b : Nat) (t : TypeId) (cs : List Value) : Prop := w.heap[b]? = some (.cells cs.toArray t (0, 0))

theorem Row.lt {w : World} {b : Nat} {t : TypeId} {cs : List Value} (h : Row w b t cs) : b < w.heap.size := lt_of_block h
theorem Row.cell {w : World} {b : Nat} {t : TypeId} {cs : List Value} (h : Row w b t cs) (j : Nat) : w.cell? ⟨b, j, none⟩ = cs[j]? := by
  rw [cell_of_row w b j _ t (0, 0) h]; simp
theorem Row.frozen {w : World} {b : Nat} {t : TypeId} {cs : List Value} (h : Row w b t cs) (j : Nat) : w.frozen? ⟨b, j, none⟩ = false := by
  unfold Row at h; simp [World.frozen?, h]
theorem Row.set {w : World} {b : Nat} {t : TypeId} {cs : List Value} (h : Row w b t cs) (j : Nat) (v : Value) : Row (w.setCell ⟨b, j, none⟩ v) b t (cs.set j v) := by
  unfold Row at *
  rw [heap_setCell_same w b j _ t v h]; simp
theorem Row.other {w : World} {b : Nat} {t : TypeId} {cs : List Value} (h : Row w b t cs) {a : Addr} (ha : b ≠ a.block) (v : Value) : Row (w.setCell a v) b t cs := by
  unfold Row at *
  rw [heap_setCell_other w a b v ha]; exact h
theorem Row.below {w w' : World} {b : Nat} {t : TypeId} {cs : List Value} (h : Row w b t cs) (hb : Below w.heap.size w w') : Row w' b t cs := by
  have := h.lt
  unfold Row at *
  rw [hb.block b this]; exact h
theorem Row.alloc {w : World} {b : Nat} {t : TypeId} {cs : List Value} (h : Row w b t cs) (o : Obj) : Row (w.alloc o) b t cs := h.below ((Below.refl _ _).alloc (Nat.le_refl _) _)
theorem Row.drew {w : World} {b : Nat} {t : TypeId} {cs : List Value} (h : Row w b t cs) : Row w.drew b t cs := h
theorem Row.grown {w w' : World} {b : Nat} {t : TypeId} {cs : List Value} {row : Option Nat} (h : Row w b t cs) (hg : w.grownBy w' row) (hne : some b ≠ row) : Row w' b t cs := by
  have := h.lt
  unfold Row at *
  rw [hg.block b this hne]; exact h
theorem Row.new (w : World) (t : TypeId) (cs : List Value) : Row (w.alloc (.cells cs.toArray t)) w.heap.size t cs := heap_alloc_new w _

theorem cell_other {wr : World} {p q : Addr} {u u' : Value} (h : wr.cell? p = some u) (hne : p.block ≠ q.block) : (wr.setCell q u').cell? p = some u := by
  rw [World.cell?_of_block (Below.heap_setCell _ _ _ _ hne)]; exact h

end Go.Proofs.Ytepfegfacdbhbab.form
