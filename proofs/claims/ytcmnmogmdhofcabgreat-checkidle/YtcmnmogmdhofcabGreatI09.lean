/- What the document's function on places (loanbookref6.May) answers, of places whose lengths are right. -/
import Derived.Test.YtcmnmogmdhofcabGreatI04
import Derived.Test.YtcmnmogmdhofcabGreatI08

namespace Go.Proofs.YtcmnmogmdhofcabGreat.form
open Go.RowKit
set_option linter.unusedVariables false
attribute [local go_sem ↓] Go.wp_at_zero Go.wp_at_succ

def pjF (r : LRow) (j : Nat) : LPlace := ([r.dest, r.a, r.b] : List LPlace).getD j .zero
def fjF (i : LIns) (j : Nat) : Int := ([i.dest, i.a, i.b] : List Int).getD j 0
def tjF (i : LIns) (j : Nat) : Bool := ([givesB i.op, decide (0 < manyI i.op), decide (1 < manyI i.op)] : List Bool).getD j false

structure OS6 (w : World) (b0 o0 c0 b1 o1 c1 : Nat) (s slots : Int) (b2 o2 c2 nR : Nat) (B : List Bool) (C : List LIns) (wr : World) : Prop where
  bel : Below w.heap.size w wr
  size : w.heap.size + 3 ≤ wr.heap.size
  p0 : wr.cell? ⟨w.heap.size, 0, none⟩ = some (.slice (some ⟨b0, o0, none⟩) B.length c0)
  p1 : wr.cell? ⟨w.heap.size, 1, none⟩ = some (.slice (some ⟨b1, o1, none⟩) C.length c1)
  t0 : wr.cell? ⟨w.heap.size + 1, 0, none⟩ = some (.int .i64 s)
  l0 : wr.cell? ⟨w.heap.size + 1 + 1, 0, none⟩ = some (.int .i64 slots)
  l1 : wr.cell? ⟨w.heap.size + 1 + 1, 1, none⟩ = some (.slice (some ⟨b2, o2, none⟩) nR c2)

theorem OS6.below {w : World} {b0 o0 c0 b1 o1 c1 : Nat} {s slots : Int} {b2 o2 c2 nR : Nat} {B : List Bool} {C : List LIns} {wr w1 : World} (h : OS6 w b0 o0 c0 b1 o1 c1 s slots b2 o2 c2 nR B C wr) (hb : Below wr.heap.size wr w1) : OS6 w b0 o0 c0 b1 o1 c1 s slots b2 o2 c2 nR B C w1 :=
  ⟨step_below hb h.bel, Nat.le_trans h.size hb.size, step_cell hb h.p0, step_cell hb h.p1, step_cell hb h.t0, step_cell hb h.l0, step_cell hb h.l1⟩

structure QS6 (i : LIns) (r : LRow) (vb va : Value) (ib rb pb tb hb : Nat) (wr : World) : Prop where
  i0 : wr.cell? ⟨ib, 0, none⟩ = some (.int .i64 i.op)
  r6 : wr.cell? ⟨rb, 6, none⟩ = some vb
  r7 : wr.cell? ⟨rb, 7, none⟩ = some va
  pk : ∀ j, j < 3 → wr.cell? ⟨pb, j * 2, none⟩ = some (.int .i64 (pjF r j).kind)
  pn : ∀ j, j < 3 → wr.cell? ⟨pb, j * 2 + 1, none⟩ = some (.int .i64 (pjF r j).n)
  tm : ∀ j, j < 3 → wr.cell? ⟨tb, j, none⟩ = some (.int .i64 (fjF i j))
  th : ∀ j, j < 3 → wr.cell? ⟨hb, j, none⟩ = some (.bool (tjF i j))

theorem QS6.below {i : LIns} {r : LRow} {vb va : Value} {ib rb pb tb hb : Nat} {wr w1 : World} (h : QS6 i r vb va ib rb pb tb hb wr) (hb1 : Below wr.heap.size wr w1) : QS6 i r vb va ib rb pb tb hb w1 :=
  ⟨step_cell hb1 h.i0, step_cell hb1 h.r6, step_cell hb1 h.r7, fun j hj => step_cell hb1 (h.pk j hj), fun j hj => step_cell hb1 (h.pn j hj), fun j hj => step_cell hb1 (h.tm j hj), fun j hj => step_cell hb1 (h.th j hj)⟩

theorem fj_bd {nB nC : Nat} {i : LIns} (h : InsOk nB nC i) {j : Nat} (hj : j < 3) (ht : tjF i j = true) : 0 ≤ fjF i j ∧ fjF i j < nB := by
  rcases (show j = 0 ∨ j = 1 ∨ j = 2 by omega) with rfl | rfl | rfl
  · exact h.d (by simpa [tjF] using ht)
  · exact ⟨h.a0, h.a1⟩
  · exact ⟨h.b0, h.b1⟩
theorem all_no {n k : Nat} {f : Nat → Bool} (hk : k < n) (h : f k = false) : false = (List.range n).all f := by
  rw [eq_comm, List.all_eq_false]
  exact ⟨k, by simpa using hk, by simp [h]⟩

end Go.Proofs.YtcmnmogmdhofcabGreat.form

/- What the document's functions on stores answer (loanbookref7.get, put): registers and slots on plain numbers. -/
namespace Go.Proofs.YtcmnmogmdhofcabGreat.form
open Go.RowKit Go.Proofs.YtcmnmogmdhofcabGreat.num
set_option linter.unusedVariables false
attribute [local go_sem ↓] Go.wp_at_zero Go.wp_at_succ

structure Sto where
  sing : List Int
  slot : List Int

def getP (st : Sto) (p : LPlace) : Int :=
  if p.kind = 1 then st.sing.getD p.n.toNat 0 else if p.kind = 2 then st.sing.getD (2 * p.n + 1).toNat 0 * 4294967296 + st.sing.getD (2 * p.n).toNat 0
  else if p.kind = 3 then st.slot.getD p.n.toNat 0 else 0
def putP (st : Sto) (p : LPlace) (v : Int) : Sto :=
  if p.kind = 1 then ⟨st.sing.set p.n.toNat (v % 4294967296), st.slot⟩
  else if p.kind = 2 then ⟨(st.sing.set (2 * p.n).toNat (v % 4294967296)).set (2 * p.n + 1).toNat (v / 4294967296), st.slot⟩
  else if p.kind = 3 then ⟨st.sing, st.slot.set p.n.toNat v⟩ else st

structure StoIs (w : World) (x y : Nat) (st : Sto) : Prop where
  sing : Row w x 33 (st.sing.map (Value.int .u32))
  slot : Row w y 77 (st.slot.map (Value.int .u64))
  ne : x ≠ y
theorem StoIs.below {w w' : World} {x y : Nat} {st : Sto} (h : StoIs w x y st) (hb : Below w.heap.size w w') : StoIs w' x y st := ⟨h.sing.below hb, h.slot.below hb, h.ne⟩

def PlOk (st : Sto) (p : LPlace) : Prop := isB st.sing.length st.slot.length p = true ∨ (p.kind = 0 ∧ p.n = 0)

structure But (x y : Nat) (w w' : World) : Prop where
  os : w'.os = w.os
  tape : w'.tape = w.tape
  output : w'.output = w.output
  size : w.heap.size ≤ w'.heap.size
  block : ∀ k, k < w.heap.size → k ≠ x → k ≠ y → w'.heap[k]? = w.heap[k]?

theorem But.of_below {x y : Nat} {w w' : World} (h : Below w.heap.size w w') : But x y w w' := ⟨h.os, h.tape, h.output, h.size, fun k hk _ _ => h.block k hk⟩
theorem But.trans {x y : Nat} {a b c : World} (h : But x y a b) (k : But x y b c) : But x y a c :=
  ⟨k.os.trans h.os, k.tape.trans h.tape, k.output.trans h.output, Nat.le_trans h.size k.size, fun i hi h1 h2 => (k.block i (Nat.lt_of_lt_of_le hi h.size) h1 h2).trans (h.block i hi h1 h2)⟩
theorem But.set {x y : Nat} {w w' : World} (h : But x y w w') {a : Addr} (ha : a.block = x ∨ a.block = y) (u : Value) : But x y w (w'.setCell a u) :=
  ⟨h.os, h.tape, h.output, by simpa [World.setCell] using h.size, fun k hk h1 h2 => by rw [Below.heap_setCell _ _ _ _ (by rcases ha with ha | ha <;> rw [ha] <;> assumption)]; exact h.block k hk h1 h2⟩
theorem But.cell {x y : Nat} {w w' : World} (h : But x y w w') {p : Addr} {v : Value} (hc : w.cell? p = some v) (h1 : p.block ≠ x) (h2 : p.block ≠ y) : w'.cell? p = some v := by
  rw [World.cell?_of_block (h.block p.block (World.block_lt_of_cell? w _ hc) h1 h2)]; exact hc
theorem But.row {x y : Nat} {w w' : World} {b : Nat} {t : TypeId} {cs : List Value} (h : But x y w w') (hr : Row w b t cs) (h1 : b ≠ x) (h2 : b ≠ y) : Row w' b t cs := by
  have := hr.lt
  unfold Row at *
  rw [h.block b this h1 h2]; exact hr
theorem But.below {x y B : Nat} {w w' : World} (h : But x y w w') (hx : B ≤ x) (hy : B ≤ y) (hB : B ≤ w.heap.size) : Below B w w' :=
  ⟨h.os, h.tape, h.output, h.size, fun k hk => h.block k (by omega) (by omega) (by omega)⟩

theorem But.refl {x y : Nat} (w : World) : But x y w w := But.of_below (Below.refl _ _)
theorem But.setX {x y : Nat} {w w' : World} (h : But x y w w') (j : Nat) (u : Value) : But x y w (w'.setCell ⟨x, j, none⟩ u) := h.set (a := ⟨x, j, none⟩) (Or.inl rfl) u
theorem But.setY {x y : Nat} {w w' : World} (h : But x y w w') (j : Nat) (u : Value) : But x y w (w'.setCell ⟨y, j, none⟩ u) := h.set (a := ⟨y, j, none⟩) (Or.inr rfl) u
end Go.Proofs.YtcmnmogmdhofcabGreat.form

/- What the document's moves (loanbookref7.moves) do to a store. -/
namespace Go.Proofs.YtcmnmogmdhofcabGreat.form
open Go.RowKit Go.Proofs.YtcmnmogmdhofcabGreat.num
set_option linter.unusedVariables false
attribute [local go_sem ↓] Go.wp_at_zero Go.wp_at_succ

def moveP (st : Sto) (m : LMove) : Sto := putP st m.dst (if m.cst then m.n else getP st m.src)
def movesP (st : Sto) (l : List LMove) : Sto := l.foldl moveP st

theorem PlOk.len {st st' : Sto} {p : LPlace} (h1 : st'.sing.length = st.sing.length) (h2 : st'.slot.length = st.slot.length) (h : PlOk st p) : PlOk st' p := by
  unfold PlOk at *
  rw [h1, h2]
  exact h
end Go.Proofs.YtcmnmogmdhofcabGreat.form

/- The machine on plain numbers: narrow temporaries hold narrow numbers; where a run has ended; what it shows in few steps and in more. -/
namespace Go.Proofs.YtcmnmogmdhofcabGreat.form
open Go.RowKit Go.Proofs.YtcmnmogmdhofcabGreat.num
set_option linter.unusedVariables false
end Go.Proofs.YtcmnmogmdhofcabGreat.form

/- What is needed, on plain numbers: the least truths; a search that is closed finds them; rows of truths in memory. -/
namespace Go.Proofs.YtcmnmogmdhofcabGreat.form
open Go.RowKit
set_option linter.unusedVariables false

def usesI (i : LIns) : List Int := ([i.a, i.b] : List Int).take (manyI i.op).toNat
def takesI (i : LIns) (t : Int) : Bool := (usesI i).contains t
def givesT (i : LIns) (t : Int) : Bool := givesB i.op && (i.dest == t)
def nextsI (i : LIns) (pc : Nat) : List Int := if i.op = 8 then [i.c] else if i.op = 10 then [] else if i.op = 9 then [(pc : Int) + 1, i.c] else [(pc : Int) + 1]
def nextsN (i : LIns) (pc : Nat) : List Nat := (nextsI i pc).map Int.toNat

def NeedN (C : List LIns) (t : Int) : Nat → Nat → Prop
  | 0, _ => False
  | n + 1, k => k < C.length ∧ (takesI (C.getD k .zero) t = true ∨ (givesT (C.getD k .zero) t = false ∧ ∃ x, x ∈ nextsN (C.getD k .zero) k ∧ NeedN C t n x))

def Need (C : List LIns) (t : Int) (k : Nat) : Prop := ∃ n, NeedN C t n k

theorem need_iff (C : List LIns) (t : Int) (k : Nat) :
    Need C t k ↔ k < C.length ∧ (takesI (C.getD k .zero) t = true ∨ (givesT (C.getD k .zero) t = false ∧ ∃ x, x ∈ nextsN (C.getD k .zero) k ∧ Need C t x)) := by
  constructor
  · rintro ⟨n, hn⟩
    cases n with
    | zero => exact hn.elim
    | succ n =>
      refine ⟨hn.1, hn.2.imp id (fun h => ⟨h.1, ?_⟩)⟩
      obtain ⟨x, hx, hn⟩ := h.2
      exact ⟨x, hx, n, hn⟩
  · rintro ⟨hk, h | ⟨hg, x, hx, n, hn⟩⟩
    · exact ⟨1, hk, Or.inl h⟩
    · exact ⟨n + 1, hk, Or.inr ⟨hg, x, hx, hn⟩⟩

theorem need_lt {C : List LIns} {t : Int} {k : Nat} (h : Need C t k) : k < C.length := ((need_iff C t k).1 h).1

theorem need_least (C : List LIns) (t : Int) (P : Nat → Prop)
    (h : ∀ k, k < C.length → (takesI (C.getD k .zero) t = true ∨ (givesT (C.getD k .zero) t = false ∧ ∃ x, x ∈ nextsN (C.getD k .zero) k ∧ P x)) → P k) : ∀ k, Need C t k → P k := by
  have hn : ∀ n k, NeedN C t n k → P k := by
    intro n
    induction n with
    | zero => exact fun k hk => hk.elim
    | succ n ih =>
      intro k hk
      refine h k hk.1 (hk.2.imp id (fun h2 => ⟨h2.1, ?_⟩))
      obtain ⟨x, hx, hxn⟩ := h2.2
      exact ⟨x, hx, ih x hxn⟩
  rintro k ⟨n, hk⟩
  exact hn n k hk

theorem need_none (C : List LIns) (t : Int) (W : Nat → Prop)
    (h : ∀ k, W k → takesI (C.getD k .zero) t = false ∧ (givesT (C.getD k .zero) t = true ∨ ∀ x, x ∈ nextsN (C.getD k .zero) k → x < C.length → W x)) : ∀ k, W k → ¬ Need C t k := by
  intro k hk hn
  refine (need_least C t (fun k => k < C.length ∧ ¬ W k) (fun k hlt hor => ⟨hlt, fun hW => ?_⟩) k hn).2 hk
  obtain ⟨h1, h2⟩ := h k hW
  rcases hor with hor | ⟨hg, x, hx, hxl, hxW⟩
  · rw [h1] at hor; exact absurd hor (by simp)
  · rcases h2 with h2 | h2
    · rw [hg] at h2; exact absurd h2 (by simp)
    · exact hxW (h2 x hx hxl)

theorem nexts_len (i : LIns) (pc : Nat) : (nextsI i pc).length ≤ 2 := by
  unfold nextsI
  split
  · simp
  split
  · simp
  split <;> simp

theorem nexts_bd {nB nC : Nat} {i : LIns} (hi : InsOk nB nC i) {pc : Nat} (hpc : pc < nC) : ∀ x, x ∈ nextsI i pc → 0 ≤ x ∧ x ≤ nC := by
  intro x hx
  unfold nextsI at hx
  split at hx
  · rename_i h8
    have := hi.c (Or.inl h8)
    simp at hx
    omega
  split at hx
  · simp at hx
  split at hx
  · rename_i h9
    have := hi.c (Or.inr h9)
    simp at hx
    omega
  · simp at hx
    omega

def BRowIs (w : World) (v : Value) (l : List Bool) : Prop :=
  ∃ ao cap, v = .slice ao l.length cap ∧ l.length ≤ 1000000 ∧ (0 < l.length → ∃ b o, ao = some ⟨b, o, none⟩ ∧ b < w.heap.size ∧ ∀ j, j < l.length → w.cell? ⟨b, o + j, none⟩ = some (.bool (l.getD j false)))
def MatIs (w : World) (v : Value) (R : List (List Bool)) : Prop :=
  ∃ ao cap, v = .slice ao R.length cap ∧ R.length ≤ 1000000 ∧ (0 < R.length → ∃ b o, ao = some ⟨b, o, none⟩ ∧ b < w.heap.size ∧ ∀ k, k < R.length → ∃ rv, w.cell? ⟨b, o + k, none⟩ = some rv ∧ BRowIs w rv (R.getD k []))

theorem BRowIs.later {w w' : World} {v : Value} {l : List Bool} (h : BRowIs w v l) (hb : Below w.heap.size w w') : BRowIs w' v l := by
  obtain ⟨ao, cap, hv, hl, hc⟩ := h
  refine ⟨ao, cap, hv, hl, fun h0 => ?_⟩
  obtain ⟨b, o, e, hlt, hcell⟩ := hc h0
  exact ⟨b, o, e, Nat.lt_of_lt_of_le hlt hb.size, fun j hj => step_cell hb (hcell j hj)⟩
theorem MatIs.later {w w' : World} {v : Value} {R : List (List Bool)} (h : MatIs w v R) (hb : Below w.heap.size w w') : MatIs w' v R := by
  obtain ⟨ao, cap, hv, hl, hc⟩ := h
  refine ⟨ao, cap, hv, hl, fun h0 => ?_⟩
  obtain ⟨b, o, e, hlt, hcell⟩ := hc h0
  refine ⟨b, o, e, Nat.lt_of_lt_of_le hlt hb.size, fun k hk => ?_⟩
  obtain ⟨rv, h1, h2⟩ := hcell k hk
  exact ⟨rv, step_cell hb h1, h2.later hb⟩

structure NeedMat (nB : Nat) (C : List LIns) (R : List (List Bool)) : Prop where
  len : R.length = C.length
  row : ∀ k, k < C.length → (R.getD k []).length = nB
  tru : ∀ k, k < C.length → ∀ t, t < nB → ((R.getD k []).getD t false = true ↔ Need C t k)

theorem NeedMat.only {nB : Nat} {C : List LIns} {R Q : List (List Bool)} (h : NeedMat nB C R) (g : NeedMat nB C Q) : R = Q := by
  apply List.ext_getElem (by rw [h.len, g.len])
  intro k hk1 hk2
  have hk : k < C.length := by rw [← h.len]; exact hk1
  have r1 := h.row k hk
  have q1 := g.row k hk
  have e1 : R.getD k [] = R[k] := by simp [List.getD, hk1]
  have e2 : Q.getD k [] = Q[k] := by simp [List.getD, hk2]
  have t1 := h.tru k hk
  have t2 := g.tru k hk
  rw [e1] at r1 t1
  rw [e2] at q1 t2
  apply List.ext_getElem (by rw [r1, q1])
  intro j hj1 hj2
  have a := t1 j (by omega)
  have b := t2 j (by omega)
  rw [show R[k].getD j false = R[k][j] by simp [List.getD, hj1]] at a
  rw [show Q[k].getD j false = Q[k][j] by simp [List.getD, hj2]] at b
  rw [Bool.eq_iff_iff, a, b]

end Go.Proofs.YtcmnmogmdhofcabGreat.form
