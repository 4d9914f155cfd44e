/- What the document's function on places (loanbookref6.May) answers, of places whose lengths are right. -/
import Derived.Test.YtikhedkhgpjaaacGreatDoorW08
import Derived.Test.YtikhedkhgpjaaacGreatDoorW11

namespace Go.Proofs.YtikhedkhgpjaaacGreatDoor
set_option linter.unusedVariables false
namespace form
open Go.RowKit
attribute [local go_sem ↓] Go.wp_at_zero Go.wp_at_succ
def pjF (r : LRow) (j : Nat) : LPlace := ([r.dest, r.a, r.b] : List LPlace).getD j .zero
def fjF (i : LIns) (j : Nat) : Int := ([i.dest, i.a, i.b] : List Int).getD j 0
def tjF (i : LIns) (j : Nat) : Bool := ([givesB i.op, decide (0 < manyI i.op), decide (1 < manyI i.op)] : List Bool).getD j false
structure OS6 (w : World) (b0 o0 c0 b1 o1 c1 : Nat) (s slots : Int) (b2 o2 c2 nR : Nat) (B : List Bool) (C : List LIns) (wr : World) : Prop where
  bel : Below w.heap.size w wr
  size : w.heap.size + 3 ≤ wr.heap.size
  p0 : wr.cell? ⟨w.heap.size, 0, none⟩ = some (.slice (some ⟨b0, o0, none⟩) B.length c0)
  p1 : wr.cell? ⟨w.heap.size, 1, none⟩ = some (.slice (some ⟨b1, o1, none⟩) C.length c1)
  t0 : wr.cell? ⟨w.heap.size + 1, 0, none⟩ = some (.int .i64 s)
  l0 : wr.cell? ⟨w.heap.size + 1 + 1, 0, none⟩ = some (.int .i64 slots)
  l1 : wr.cell? ⟨w.heap.size + 1 + 1, 1, none⟩ = some (.slice (some ⟨b2, o2, none⟩) nR c2)
theorem OS6.below {w : World} {b0 o0 c0 b1 o1 c1 : Nat} {s slots : Int} {b2 o2 c2 nR : Nat} {B : List Bool} {C : List LIns} {wr w1 : World} (h : OS6 w b0 o0 c0 b1 o1 c1 s slots b2 o2 c2 nR B C wr) (hb : Below wr.heap.size wr w1) : OS6 w b0 o0 c0 b1 o1 c1 s slots b2 o2 c2 nR B C w1 :=
  ⟨step_below hb h.bel, Nat.le_trans h.size hb.size, step_cell hb h.p0, step_cell hb h.p1, step_cell hb h.t0, step_cell hb h.l0, step_cell hb h.l1⟩
theorem fj_bd {nB nC : Nat} {i : LIns} (h : InsOk nB nC i) {j : Nat} (hj : j < 3) (ht : tjF i j = true) : 0 ≤ fjF i j ∧ fjF i j < nB := by
  rcases (show j = 0 ∨ j = 1 ∨ j = 2 by omega) with rfl | rfl | rfl
  · exact h.d (by simpa [tjF] using ht)
  · exact ⟨h.a0, h.a1⟩
  · exact ⟨h.b0, h.b1⟩
theorem all_no {n k : Nat} {f : Nat → Bool} (hk : k < n) (h : f k = false) : false = (List.range n).all f := by
  rw [eq_comm, List.all_eq_false]
  exact ⟨k, by simpa using hk, by simp [h]⟩
end form
/- What the document's functions on stores answer (loanbookref7.get, put): registers and slots on plain numbers. -/
namespace form
open Go.RowKit num
attribute [local go_sem ↓] Go.wp_at_zero Go.wp_at_succ
structure Sto where
  sing : List Int
  slot : List Int
def getP (st : Sto) (p : LPlace) : Int :=
  if p.kind = 1 then st.sing.getD p.n.toNat 0 else if p.kind = 2 then st.sing.getD (2 * p.n + 1).toNat 0 * 4294967296 + st.sing.getD (2 * p.n).toNat 0
  else if p.kind = 3 then st.slot.getD p.n.toNat 0 else 0
def putP (st : Sto) (p : LPlace) (v : Int) : Sto :=
  if p.kind = 1 then ⟨st.sing.set p.n.toNat (v % 4294967296), st.slot⟩
  else if p.kind = 2 then ⟨(st.sing.set (2 * p.n).toNat (v % 4294967296)).set (2 * p.n + 1).toNat (v / 4294967296), st.slot⟩
  else if p.kind = 3 then ⟨st.sing, st.slot.set p.n.toNat v⟩ else st
structure StoOk (st : Sto) : Prop where
  s0 : ∀ j, 0 ≤ st.sing.getD j 0 ∧ st.sing.getD j 0 < 4294967296
  l0 : ∀ j, U64i (st.slot.getD j 0)
  n1 : st.sing.length ≤ 16
  n2 : st.slot.length ≤ 12
  ev : st.sing.length % 2 = 0
def PlOk (st : Sto) (p : LPlace) : Prop := isB st.sing.length st.slot.length p = true ∨ (p.kind = 0 ∧ p.n = 0)
theorem pl_cases {st : Sto} {p : LPlace} (ho : StoOk st) (hp : PlOk st p) : (p.kind = 1 ∧ 0 ≤ p.n ∧ p.n < st.sing.length) ∨ (p.kind = 2 ∧ 0 ≤ p.n ∧ 2 * p.n + 1 < st.sing.length) ∨ (p.kind = 3 ∧ 0 ≤ p.n ∧ p.n < st.slot.length) ∨ p.kind = 0 := by
  have := ho.ev
  rcases hp with hp | hp
  · unfold isB at hp
    by_cases e1 : p.kind = 1
    · rw [if_pos e1] at hp; simp at hp; exact Or.inl ⟨e1, by omega, by omega⟩
    · rw [if_neg e1] at hp
      by_cases e2 : p.kind = 2
      · rw [if_pos e2] at hp; simp at hp
        exact Or.inr (Or.inl ⟨e2, by omega, by omega⟩)
      · rw [if_neg e2] at hp
        by_cases e3 : p.kind = 3
        · rw [if_pos e3] at hp; simp at hp; exact Or.inr (Or.inr (Or.inl ⟨e3, by omega, by omega⟩))
        · rw [if_neg e3] at hp; simp at hp
  · exact Or.inr (Or.inr (Or.inr hp.1))
structure But (x y : Nat) (w w' : World) : Prop where
  os : w'.os = w.os
  tape : w'.tape = w.tape
  output : w'.output = w.output
  size : w.heap.size ≤ w'.heap.size
  block : ∀ k, k < w.heap.size → k ≠ x → k ≠ y → w'.heap[k]? = w.heap[k]?
theorem But.of_below {x y : Nat} {w w' : World} (h : Below w.heap.size w w') : But x y w w' := ⟨h.os, h.tape, h.output, h.size, fun k hk _ _ => h.block k hk⟩
theorem But.trans {x y : Nat} {a b c : World} (h : But x y a b) (k : But x y b c) : But x y a c :=
  ⟨k.os.trans h.os, k.tape.trans h.tape, k.output.trans h.output, Nat.le_trans h.size k.size, fun i hi h1 h2 => (k.block i (Nat.lt_of_lt_of_le hi h.size) h1 h2).trans (h.block i hi h1 h2)⟩
theorem But.set {x y : Nat} {w w' : World} (h : But x y w w') {a : Addr} (ha : a.block = x ∨ a.block = y) (u : Value) : But x y w (w'.setCell a u) :=
  ⟨h.os, h.tape, h.output, by simpa [World.setCell] using h.size, fun k hk h1 h2 => by rw [Below.heap_setCell _ _ _ _ (by rcases ha with ha | ha <;> rw [ha] <;> assumption)]; exact h.block k hk h1 h2⟩
theorem But.cell {x y : Nat} {w w' : World} (h : But x y w w') {p : Addr} {v : Value} (hc : w.cell? p = some v) (h1 : p.block ≠ x) (h2 : p.block ≠ y) : w'.cell? p = some v := by
  rw [World.cell?_of_block (h.block p.block (World.block_lt_of_cell? w _ hc) h1 h2)]; exact hc
theorem But.below {x y B : Nat} {w w' : World} (h : But x y w w') (hx : B ≤ x) (hy : B ≤ y) (hB : B ≤ w.heap.size) : Below B w w' :=
  ⟨h.os, h.tape, h.output, h.size, fun k hk => h.block k (by omega) (by omega) (by omega)⟩
theorem But.refl {x y : Nat} (w : World) : But x y w w := But.of_below (Below.refl _ _)
theorem But.setX {x y : Nat} {w w' : World} (h : But x y w w') (j : Nat) (u : Value) : But x y w (w'.setCell ⟨x, j, none⟩ u) := h.set (a := ⟨x, j, none⟩) (Or.inl rfl) u
theorem But.setY {x y : Nat} {w w' : World} (h : But x y w w') (j : Nat) (u : Value) : But x y w (w'.setCell ⟨y, j, none⟩ u) := h.set (a := ⟨y, j, none⟩) (Or.inr rfl) u
end form
/- What the document's moves (loanbookref7.moves) do to a store. -/
namespace form
open Go.RowKit num
attribute [local go_sem ↓] Go.wp_at_zero Go.wp_at_succ
def moveP (st : Sto) (m : LMove) : Sto := putP st m.dst (if m.cst then m.n else getP st m.src)
def movesP (st : Sto) (l : List LMove) : Sto := l.foldl moveP st
theorem putP_len (st : Sto) (p : LPlace) (v : Int) : (putP st p v).sing.length = st.sing.length ∧ (putP st p v).slot.length = st.slot.length := by
  unfold putP
  split
  · simp
  split
  · simp
  split <;> simp
theorem set_u32 {l : List Int} {k : Nat} {x : Int} (h : ∀ j, 0 ≤ l.getD j 0 ∧ l.getD j 0 < 4294967296) (hx0 : 0 ≤ x) (hx1 : x < 4294967296) : ∀ j, 0 ≤ (l.set k x).getD j 0 ∧ (l.set k x).getD j 0 < 4294967296 := by
  intro j
  by_cases hj : j < l.length
  · by_cases hk : k = j
    · subst hk
      rw [show (l.set k x).getD k 0 = x by simp [List.getD, hj]]
      exact ⟨hx0, hx1⟩
    · rw [show (l.set k x).getD j 0 = l.getD j 0 by simp [List.getD, hj, hk]]
      exact h j
  · rw [show (l.set k x).getD j 0 = 0 by simp [List.getD, List.getElem?_eq_none (show (l.set k x).length ≤ j by simp; omega)]]
    omega
theorem sto_put {st : Sto} {p : LPlace} {v : Int} (h : StoOk st) (hv : U64i v) : StoOk (putP st p v) := by
  have hl := putP_len st p v
  have h0 := hv.1
  have h1 := hv.2
  refine ⟨?_, ?_, by rw [hl.1]; exact h.n1, by rw [hl.2]; exact h.n2, by rw [hl.1]; exact h.ev⟩
  · unfold putP
    split
    · exact set_u32 h.s0 (by omega) (by omega)
    split
    · exact set_u32 (set_u32 h.s0 (by omega) (by omega)) (by omega) (by omega)
    split <;> exact h.s0
  · unfold putP
    split
    · exact h.l0
    split
    · exact h.l0
    split
    · exact getD_set_bd h.l0 hv
    · exact h.l0
theorem get_bd {st : Sto} (p : LPlace) (h : StoOk st) : U64i (getP st p) := by
  unfold getP
  split
  · have := h.s0 p.n.toNat; exact ⟨this.1, by omega⟩
  split
  · have := h.s0 (2 * p.n + 1).toNat; have := h.s0 (2 * p.n).toNat; exact ⟨by omega, by omega⟩
  split
  · exact h.l0 _
  · exact ⟨by omega, by omega⟩
theorem moves_succ (st : Sto) (l : List LMove) (k : Nat) (hk : k < l.length) : movesP st (l.take (k + 1)) = moveP (movesP st (l.take k)) (l.getD k .zero) := by
  unfold movesP
  rw [List.take_succ_eq_append_getElem hk, List.foldl_append]
  simp [List.getD, hk]
end form
/- The machine on plain numbers: narrow temporaries hold narrow numbers; where a run has ended; what it shows in few steps and in more. -/
namespace form
open Go.RowKit num
def WOk (B : List Bool) (ts : List Int) : Prop := ∀ j, j < B.length → B.getD j false = false → ts.getD j 0 < 4294967296
theorem wok_start (B : List Bool) : WOk B (Mac.start B.length).temps := by
  intro j hj _
  have : (Mac.start B.length).temps.getD j 0 = 0 := by simp [Mac.start, List.getD, hj]
  omega
theorem widths_of {B : List Bool} {nC : Nat} {i : LIns} (h : insB B nC i = true) : widthsB B i = true := by
  unfold insB at h
  simp only [Bool.and_eq_true] at h
  exact h.2
theorem known_of {B : List Bool} {nC : Nat} {i : LIns} (h : insB B nC i = true) : 10 < i.op → 21 ≤ i.op := by
  unfold insB at h
  simp only [Bool.and_eq_true] at h
  have hk := h.1.1.1.1.1.1
  unfold knownB at hk
  simp at hk
  omega
theorem pair_narrow {B : List Bool} {nC : Nat} {i : LIns} {ts : List Int} (h : insB B nC i = true) (hi : InsOk B.length nC i) (hw : WOk B ts) (ho : i.op = 5) : ts.getD i.a.toNat 0 < 4294967296 := by
  have h2 := widths_of h
  unfold widthsB at h2
  rw [if_neg (by omega), if_pos ho] at h2
  have hg : givesB i.op = true := by unfold givesB; simp [ho]
  have hm : manyI i.op = 2 := by unfold manyI; rw [if_neg (by omega), if_neg (by omega)]
  simp [wl, wl0, wl1, hg, hm, bw] at h2
  have := hi.a1
  have := hi.a0
  exact hw i.a.toNat (by omega) (by simpa [List.getD] using h2.1.2)
theorem wok_give {B : List Bool} {nC : Nat} {i : LIns} {ts : List Int} {x : Int} (h : insB B nC i = true) (hi : InsOk B.length nC i) (hw : WOk B ts) (hb : ∀ j, U64i (ts.getD j 0)) (hx0 : 0 ≤ x) (hx1 : x < 4294967296) (hg : givesB i.op = true)
    (hd : B.getD i.dest.toNat false = false) : gvI i (ts.getD i.a.toNat 0) (ts.getD i.b.toNat 0) x < 4294967296 := by
  have h2 := widths_of h
  have ha := hb i.a.toNat
  unfold U64i at ha
  have hd' : bw B i.dest = false := hd
  have a0 := hi.a0
  have a1 := hi.a1
  unfold gvI
  split
  · exact hi.n1
  split
  · rename_i h1 ho
    unfold widthsB at h2
    rw [if_pos ho] at h2
    have hm : manyI i.op = 1 := by unfold manyI; rw [if_neg (by omega), if_pos (by omega)]
    simp [wl, wl0, wl1, hg, hm, hd'] at h2
    exact hw _ (by omega) h2
  split
  · exact hx1
  split
  · rename_i h1 h2' h3 ho
    unfold widthsB at h2
    rw [if_neg (by omega), if_pos ho] at h2
    have hm : manyI i.op = 2 := by unfold manyI; rw [if_neg (by omega), if_neg (by omega)]
    simp [wl, wl0, wl1, hg, hm, hd'] at h2
  split
  · omega
  split
  · omega
  split
  · rename_i h1 h2' h3 h5 h6 h7 ho
    unfold widthsB at h2
    rw [if_neg (by omega), if_neg (by omega), if_neg (by omega)] at h2
    simp [wl, wl0, hg, hd'] at h2
    omega
  · exact (opR_u32_bd _ _ _).2
theorem go_steps (C : List LIns) (ins : List Int) : ∀ (k : Nat) (m : Mac), (Mac.go C ins k m).steps ≤ m.steps + k ∧ ((Mac.go C ins k m).state = 0 → (Mac.go C ins k m).steps = m.steps + k)
  | 0, m => ⟨by simp [Mac.go], fun _ => rfl⟩
  | k + 1, m => by
    by_cases h : m.state = 0
    · simp only [Mac.go, if_pos h]
      have := go_steps C ins k (m.step C ins)
      have e : (m.step C ins).steps = m.steps + 1 := rfl
      rw [e] at this
      exact ⟨by omega, fun hs => by have := this.2 hs; omega⟩
    · rw [Mac.go_stop h]
      exact ⟨by omega, fun hs => absurd hs h⟩
theorem go_outs (C : List LIns) (ins : List Int) : ∀ (k : Nat) (m : Mac), m.out.length ≤ m.steps → (Mac.go C ins k m).out.length ≤ (Mac.go C ins k m).steps
  | 0, m, h0 => h0
  | k + 1, m, h0 => by
    by_cases h : m.state = 0
    · simp only [Mac.go, if_pos h]
      refine go_outs C ins k (m.step C ins) ?_
      simp only [Mac.step]
      split
      · simp; omega
      · omega
    · rw [Mac.go_stop h]
      exact h0
theorem play_outs (B : List Bool) (C : List LIns) (ins : List Int) (n : Nat) : (playM B C ins n).out.length ≤ n := by
  have h1 := go_outs C ins n (Mac.start B.length) (by simp [Mac.start])
  have h2 := (go_steps C ins n (Mac.start B.length)).1
  unfold playM
  simp [Mac.start] at h1 h2 ⊢
  omega
end form
end Go.Proofs.YtikhedkhgpjaaacGreatDoor
