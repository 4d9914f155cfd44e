/- What the document's functions on stores answer (loanbookref7.get, put): registers and slots on plain numbers. -/
import Derived.Test.YtcmnmogmdhofcaaGreatF04
import Derived.Test.YtcmnmogmdhofcaaGreatF03

namespace Go.Proofs.YtcmnmogmdhofcaaGreat.form
open Go.RowKit Go.Proofs.YtcmnmogmdhofcaaGreat.num
set_option linter.unusedVariables false
attribute [local go_sem ↓] Go.wp_at_zero Go.wp_at_succ

structure Sto where
  sing : List Int
  slot : List Int

def getP (st : Sto) (p : LPlace) : Int :=
  if p.kind = 1 then st.sing.getD p.n.toNat 0 else if p.kind = 2 then st.sing.getD (2 * p.n + 1).toNat 0 * 4294967296 + st.sing.getD (2 * p.n).toNat 0
  else if p.kind = 3 then st.slot.getD p.n.toNat 0 else 0
structure But (x y : Nat) (w w' : World) : Prop where
  os : w'.os = w.os
  tape : w'.tape = w.tape
  output : w'.output = w.output
  size : w.heap.size ≤ w'.heap.size
  block : ∀ k, k < w.heap.size → k ≠ x → k ≠ y → w'.heap[k]? = w.heap[k]?

theorem But.of_below {x y : Nat} {w w' : World} (h : Below w.heap.size w w') : But x y w w' := ⟨h.os, h.tape, h.output, h.size, fun k hk _ _ => h.block k hk⟩
theorem But.trans {x y : Nat} {a b c : World} (h : But x y a b) (k : But x y b c) : But x y a c :=
  ⟨k.os.trans h.os, k.tape.trans h.tape, k.output.trans h.output, Nat.le_trans h.size k.size, fun i hi h1 h2 => (k.block i (Nat.lt_of_lt_of_le hi h.size) h1 h2).trans (h.block i hi h1 h2)⟩
theorem But.set {x y : Nat} {w w' : World} (h : But x y w w') {a : Addr} (ha : a.block = x ∨ a.block = y) (u : Value) : But x y w (w'.setCell a u) :=
  ⟨h.os, h.tape, h.output, by simpa [World.setCell] using h.size, fun k hk h1 h2 => by rw [Below.heap_setCell _ _ _ _ (by rcases ha with ha | ha <;> rw [ha] <;> assumption)]; exact h.block k hk h1 h2⟩
theorem But.refl {x y : Nat} (w : World) : But x y w w := But.of_below (Below.refl _ _)
theorem But.setX {x y : Nat} {w w' : World} (h : But x y w w') (j : Nat) (u : Value) : But x y w (w'.setCell ⟨x, j, none⟩ u) := h.set (a := ⟨x, j, none⟩) (Or.inl rfl) u
end Go.Proofs.YtcmnmogmdhofcaaGreat.form

/- What the document's moves (loanbookref7.moves) do to a store. -/
namespace Go.Proofs.YtcmnmogmdhofcaaGreat.form
open Go.RowKit Go.Proofs.YtcmnmogmdhofcaaGreat.num
set_option linter.unusedVariables false
attribute [local go_sem ↓] Go.wp_at_zero Go.wp_at_succ

theorem drew_below (w : World) : Below w.heap.size w w.drew := (Below.refl _ _).drew

end Go.Proofs.YtcmnmogmdhofcaaGreat.form

/- The machine on plain numbers: narrow temporaries hold narrow numbers; where a run has ended; what it shows in few steps and in more. -/
namespace Go.Proofs.YtcmnmogmdhofcaaGreat.form
open Go.RowKit Go.Proofs.YtcmnmogmdhofcaaGreat.num
set_option linter.unusedVariables false
end Go.Proofs.YtcmnmogmdhofcaaGreat.form

/- What is needed, on plain numbers: the least truths; a search that is closed finds them; rows of truths in memory. -/
namespace Go.Proofs.YtcmnmogmdhofcaaGreat.form
open Go.RowKit
set_option linter.unusedVariables false
def nextsI (i : LIns) (pc : Nat) : List Int := if i.op = 8 then [i.c] else if i.op = 10 then [] else if i.op = 9 then [(pc : Int) + 1, i.c] else [(pc : Int) + 1]
def nextsN (i : LIns) (pc : Nat) : List Nat := (nextsI i pc).map Int.toNat

theorem nexts_len (i : LIns) (pc : Nat) : (nextsI i pc).length ≤ 2 := by
  unfold nextsI
  split
  · simp
  split
  · simp
  split <;> simp

theorem nexts_bd {nB nC : Nat} {i : LIns} (hi : InsOk nB nC i) {pc : Nat} (hpc : pc < nC) : ∀ x, x ∈ nextsI i pc → 0 ≤ x ∧ x ≤ nC := by
  intro x hx
  unfold nextsI at hx
  split at hx
  · rename_i h8
    have := hi.c (Or.inl h8)
    simp at hx
    omega
  split at hx
  · simp at hx
  split at hx
  · rename_i h9
    have := hi.c (Or.inr h9)
    simp at hx
    omega
  · simp at hx
    omega

def BRowIs (w : World) (v : Value) (l : List Bool) : Prop :=
  ∃ ao cap, v = .slice ao l.length cap ∧ l.length ≤ 1000000 ∧ (0 < l.length → ∃ b o, ao = some ⟨b, o, none⟩ ∧ b < w.heap.size ∧ ∀ j, j < l.length → w.cell? ⟨b, o + j, none⟩ = some (.bool (l.getD j false)))
theorem BRowIs.later {w w' : World} {v : Value} {l : List Bool} (h : BRowIs w v l) (hb : Below w.heap.size w w') : BRowIs w' v l := by
  obtain ⟨ao, cap, hv, hl, hc⟩ := h
  refine ⟨ao, cap, hv, hl, fun h0 => ?_⟩
  obtain ⟨b, o, e, hlt, hcell⟩ := hc h0
  exact ⟨b, o, e, Nat.lt_of_lt_of_le hlt hb.size, fun j hj => step_cell hb (hcell j hj)⟩
end Go.Proofs.YtcmnmogmdhofcaaGreat.form

/- Facts on plain numbers: what a fact says of temporaries and a store; what is known behind a move and behind an instruction is so. -/
namespace Go.Proofs.YtcmnmogmdhofcaaGreat.form
open Go.RowKit Go.Proofs.YtcmnmogmdhofcaaGreat.num
set_option linter.unusedVariables false

structure LFact where
  pl : LPlace
  temp : Bool
  t : Int
  n : Int

def Holds (ts : List Int) (st : Sto) (f : LFact) : Prop :=
  if f.pl.kind = 0 then ts.getD f.t.toNat 0 = f.n else if f.temp = true then getP st f.pl = ts.getD f.t.toNat 0 else getP st f.pl = f.n

structure FactOk (B : List Bool) (s slots : Int) (num : Int → Prop) (f : LFact) : Prop where
  pl : (f.pl.kind = 0 ∧ f.pl.n = 0 ∧ f.temp = true) ∨ isB s slots f.pl = true
  t : f.temp = true → 0 ≤ f.t ∧ f.t < B.length
  nar : f.temp = true → f.pl.kind = 0 ∨ f.pl.kind = 1 → B.getD f.t.toNat false = false
  wid : f.temp = true → f.pl.kind = 2 → B.getD f.t.toNat false = true
  num : f.pl.kind = 0 ∨ f.temp = false → num f.n
  zn : ¬ f.pl.kind = 0 → f.temp = true → f.n = 0
  zt : f.temp = false → f.t = 0
  dbl : f.temp = false → ¬ f.pl.kind = 2

def zeroAt (t n : Int) : LFact := ⟨.zero, true, t, n⟩

def samePl (a b : LPlace) : Bool := (a.kind == b.kind) && (a.n == b.n)
theorem samePl_eq {a b : LPlace} (h : samePl a b = true) : a = b := by
  obtain ⟨x, y⟩ := a
  obtain ⟨z, u⟩ := b
  unfold samePl at h
  simp at h
  rw [h.1, h.2]

def moveK (ok : LFact → Prop) (m : LMove) (K : LFact → Prop) (f : LFact) : Prop :=
  ok f ∧ (if f.pl.kind = 0 ∨ overB f.pl m.dst = false then K f
    else samePl f.pl m.dst = true ∧ (if m.cst = false then K ⟨m.src, f.temp, f.t, f.n⟩ else if f.temp = true then K (zeroAt f.t m.n) else f.n = m.n))

def insK (ok : LFact → Prop) (i : LIns) (L : LPlace) (K : LFact → Prop) (f : LFact) : Prop :=
  ok f ∧
  (if i.op = 2 ∧ samePl f.pl L = true ∧ f.temp = true ∧ f.t = i.a then True
   else if i.op = 2 ∧ samePl f.pl L = true ∧ f.temp = false then K (zeroAt i.a f.n)
   else if i.op = 2 ∧ (f.temp = true ∧ f.t = i.dest) ∧ (f.pl.kind = 0 ∨ overB f.pl L = false) then K ⟨f.pl, f.temp, i.a, f.n⟩
   else if i.op = 1 ∧ (f.temp = true ∧ f.t = i.dest) ∧ ¬ f.pl.kind = 0 ∧ overB f.pl L = false then K ⟨f.pl, false, 0, i.n⟩
   else if i.op = 1 ∧ (((f.temp = true ∧ f.t = i.dest) ∧ f.pl.kind = 0) ∨ (samePl f.pl L = true ∧ f.temp = false)) then f.n = i.n
   else if samePl f.pl L = true ∧ (f.temp = true ∧ f.t = i.dest) ∧ ¬ f.pl.kind = 0 then True
   else K f ∧ ¬ (f.temp = true ∧ f.t = i.dest) ∧ (f.pl.kind = 0 ∨ overB f.pl L = false))

theorem is_cases {s slots : Int} {p : LPlace} (h : isB s slots p = true) : (p.kind = 1 ∧ 0 ≤ p.n ∧ p.n < s) ∨ (p.kind = 2 ∧ 0 ≤ p.n ∧ 2 * p.n < s) ∨ (p.kind = 3 ∧ 0 ≤ p.n ∧ p.n < slots) := by
  unfold isB at h
  by_cases e1 : p.kind = 1
  · rw [if_pos e1] at h; simp at h; exact Or.inl ⟨e1, by omega, by omega⟩
  · rw [if_neg e1] at h
    by_cases e2 : p.kind = 2
    · rw [if_pos e2] at h; simp at h; exact Or.inr (Or.inl ⟨e2, by omega, by omega⟩)
    · rw [if_neg e2] at h
      by_cases e3 : p.kind = 3
      · rw [if_pos e3] at h; simp at h; exact Or.inr (Or.inr ⟨e3, by omega, by omega⟩)
      · rw [if_neg e3] at h; exact absurd h (by simp)

theorem is_kind {s slots : Int} {p : LPlace} (h : isB s slots p = true) : ¬ p.kind = 0 := by rcases is_cases h with h | h | h <;> omega

def movesK (ok : LFact → Prop) (l : List LMove) (K : LFact → Prop) : LFact → Prop := l.foldl (fun K m => moveK ok m K) K

end Go.Proofs.YtcmnmogmdhofcaaGreat.form
