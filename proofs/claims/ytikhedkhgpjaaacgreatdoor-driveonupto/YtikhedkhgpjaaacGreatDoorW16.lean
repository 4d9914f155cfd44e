/- Facts on plain numbers: what a fact says of temporaries and a store; what is known behind a move and behind an instruction is so. -/
import Derived.Test.YtikhedkhgpjaaacGreatDoorW15
import Derived.Test.YtikhedkhgpjaaacGreatDoorW04
import Derived.Test.YtikhedkhgpjaaacGreatDoorW14
import Derived.Test.YtikhedkhgpjaaacGreatDoorW07
import Derived.Test.YtikhedkhgpjaaacGreatDoorW08

namespace Go.Proofs.YtikhedkhgpjaaacGreatDoor
set_option linter.unusedVariables false
namespace form
open Go.RowKit num
structure LFact where
  pl : LPlace
  temp : Bool
  t : Int
  n : Int
def Holds (ts : List Int) (st : Sto) (f : LFact) : Prop :=
  if f.pl.kind = 0 then ts.getD f.t.toNat 0 = f.n else if f.temp = true then getP st f.pl = ts.getD f.t.toNat 0 else getP st f.pl = f.n
structure FactOk (B : List Bool) (s slots : Int) (num : Int → Prop) (f : LFact) : Prop where
  pl : (f.pl.kind = 0 ∧ f.pl.n = 0 ∧ f.temp = true) ∨ isB s slots f.pl = true
  t : f.temp = true → 0 ≤ f.t ∧ f.t < B.length
  nar : f.temp = true → f.pl.kind = 0 ∨ f.pl.kind = 1 → B.getD f.t.toNat false = false
  wid : f.temp = true → f.pl.kind = 2 → B.getD f.t.toNat false = true
  num : f.pl.kind = 0 ∨ f.temp = false → num f.n
  zn : ¬ f.pl.kind = 0 → f.temp = true → f.n = 0
  zt : f.temp = false → f.t = 0
  dbl : f.temp = false → ¬ f.pl.kind = 2
def zeroAt (t n : Int) : LFact := ⟨.zero, true, t, n⟩
def samePl (a b : LPlace) : Bool := (a.kind == b.kind) && (a.n == b.n)
theorem samePl_eq {a b : LPlace} (h : samePl a b = true) : a = b := by
  obtain ⟨x, y⟩ := a
  obtain ⟨z, u⟩ := b
  unfold samePl at h
  simp at h
  rw [h.1, h.2]
def moveK (ok : LFact → Prop) (m : LMove) (K : LFact → Prop) (f : LFact) : Prop :=
  ok f ∧ (if f.pl.kind = 0 ∨ overB f.pl m.dst = false then K f
    else samePl f.pl m.dst = true ∧ (if m.cst = false then K ⟨m.src, f.temp, f.t, f.n⟩ else if f.temp = true then K (zeroAt f.t m.n) else f.n = m.n))
theorem is_cases {s slots : Int} {p : LPlace} (h : isB s slots p = true) : (p.kind = 1 ∧ 0 ≤ p.n ∧ p.n < s) ∨ (p.kind = 2 ∧ 0 ≤ p.n ∧ 2 * p.n < s) ∨ (p.kind = 3 ∧ 0 ≤ p.n ∧ p.n < slots) := by
  unfold isB at h
  by_cases e1 : p.kind = 1
  · rw [if_pos e1] at h; simp at h; exact Or.inl ⟨e1, by omega, by omega⟩
  · rw [if_neg e1] at h
    by_cases e2 : p.kind = 2
    · rw [if_pos e2] at h; simp at h; exact Or.inr (Or.inl ⟨e2, by omega, by omega⟩)
    · rw [if_neg e2] at h
      by_cases e3 : p.kind = 3
      · rw [if_pos e3] at h; simp at h; exact Or.inr (Or.inr ⟨e3, by omega, by omega⟩)
      · rw [if_neg e3] at h; exact absurd h (by simp)
theorem is_kind {s slots : Int} {p : LPlace} (h : isB s slots p = true) : ¬ p.kind = 0 := by rcases is_cases h with h | h | h <;> omega
structure StoAt (s slots : Int) (st : Sto) : Prop where
  ok : StoOk st
  sl : (st.sing.length : Int) = s
  ll : (st.slot.length : Int) = slots
theorem getD_set_ne {l : List Int} {i j : Nat} {x : Int} (h : i ≠ j) : (l.set i x).getD j 0 = l.getD j 0 := by simp [List.getD, h]
theorem getD_set_eq {l : List Int} {i : Nat} {x : Int} (h : i < l.length) : (l.set i x).getD i 0 = x := by simp [List.getD, h]
theorem get_one {st : Sto} {q : LPlace} (e : q.kind = 1) : getP st q = st.sing.getD q.n.toNat 0 := by unfold getP; rw [if_pos e]
theorem get_two {st : Sto} {q : LPlace} (e : q.kind = 2) : getP st q = st.sing.getD (2 * q.n + 1).toNat 0 * 4294967296 + st.sing.getD (2 * q.n).toNat 0 := by unfold getP; rw [if_neg (by omega), if_pos e]
theorem get_three {st : Sto} {q : LPlace} (e : q.kind = 3) : getP st q = st.slot.getD q.n.toNat 0 := by unfold getP; rw [if_neg (by omega), if_neg (by omega), if_pos e]
theorem put_one {st : Sto} {p : LPlace} {v : Int} (e : p.kind = 1) : putP st p v = ⟨st.sing.set p.n.toNat (v % 4294967296), st.slot⟩ := by unfold putP; rw [if_pos e]
theorem put_two {st : Sto} {p : LPlace} {v : Int} (e : p.kind = 2) : putP st p v = ⟨(st.sing.set (2 * p.n).toNat (v % 4294967296)).set (2 * p.n + 1).toNat (v / 4294967296), st.slot⟩ := by unfold putP; rw [if_neg (by omega), if_pos e]
theorem put_three {st : Sto} {p : LPlace} {v : Int} (e : p.kind = 3) : putP st p v = ⟨st.sing, st.slot.set p.n.toNat v⟩ := by unfold putP; rw [if_neg (by omega), if_neg (by omega), if_pos e]
theorem get_put_same {s slots : Int} {st : Sto} {p : LPlace} (h : StoAt s slots st) (hp : isB s slots p = true) (v : Int) (hv : U64i v) : getP (putP st p v) p = if p.kind = 1 then v % 4294967296 else v := by
  have h1 := h.sl
  have h2 := h.ll
  have hev := h.ok.ev
  obtain ⟨v0, v1⟩ := hv
  rcases is_cases hp with ⟨e, a, b⟩ | ⟨e, a, b⟩ | ⟨e, a, b⟩
  · rw [put_one e, get_one e, if_pos e]
    exact getD_set_eq (by omega)
  · rw [put_two e, get_two e, if_neg (by omega)]
    simp only
    rw [getD_set_eq (by simp; omega), getD_set_ne (by omega), getD_set_eq (by omega)]
    omega
  · rw [put_three e, get_three e, if_neg (by omega)]
    exact getD_set_eq (by omega)
theorem get_put_far {s slots : Int} {st : Sto} {p q : LPlace} (hp : isB s slots p = true) (hq : isB s slots q = true) (ho : overB q p = false) (v : Int) : getP (putP st p v) q = getP st q := by
  unfold overB at ho
  rcases is_cases hp with ⟨e, a, b⟩ | ⟨e, a, b⟩ | ⟨e, a, b⟩ <;> rcases is_cases hq with ⟨e', a', b'⟩ | ⟨e', a', b'⟩ | ⟨e', a', b'⟩
  · rw [if_pos (by omega)] at ho; simp at ho
    rw [put_one e, get_one e', get_one e', getD_set_ne (by omega)]
  · rw [if_neg (by omega), if_neg (by omega), if_pos (by omega)] at ho; simp at ho
    rw [put_one e, get_two e', get_two e', getD_set_ne (by omega), getD_set_ne (by omega)]
  · rw [put_one e, get_three e', get_three e']
  · rw [if_neg (by omega), if_pos (by omega)] at ho; simp at ho
    rw [put_two e, get_one e', get_one e', getD_set_ne (by omega), getD_set_ne (by omega)]
  · rw [if_pos (by omega)] at ho; simp at ho
    rw [put_two e, get_two e', get_two e', getD_set_ne (by omega), getD_set_ne (by omega), getD_set_ne (by omega), getD_set_ne (by omega)]
  · rw [put_two e, get_three e', get_three e']
  · rw [put_three e, get_one e', get_one e']
  · rw [put_three e, get_two e', get_two e']
  · rw [if_pos (by omega)] at ho; simp at ho
    rw [put_three e, get_three e', get_three e', getD_set_ne (by omega)]
theorem sto_at_put {s slots : Int} {st : Sto} {p : LPlace} {v : Int} (h : StoAt s slots st) (hv : U64i v) : StoAt s slots (putP st p v) := by
  have := putP_len st p v
  exact ⟨sto_put h.ok hv, by rw [this.1]; exact h.sl, by rw [this.2]; exact h.ll⟩
def AllHold (ts : List Int) (st : Sto) (K : LFact → Prop) : Prop := ∀ f, K f → Holds ts st f
theorem move_sound {B : List Bool} {s slots : Int} {num : Int → Prop} (hnum : ∀ x, num x → 0 ≤ x ∧ x < 4294967296) {ts : List Int} {st : Sto} {m : LMove} {K : LFact → Prop} (hm : moveB s slots m = true) (hn : 0 ≤ m.n ∧ m.n < 4294967296)
    (hst : StoAt s slots st) (hw : WOk B ts) (hts : ∀ j, U64i (ts.getD j 0)) (hK : AllHold ts st K) : AllHold ts (moveP st m) (moveK (FactOk B s slots num) m K) := by
  intro f hf
  obtain ⟨hok, hf⟩ := hf
  unfold moveB at hm
  simp only [Bool.and_eq_true] at hm
  obtain ⟨hd, hm⟩ := hm
  by_cases h0 : f.pl.kind = 0
  · rw [if_pos (Or.inl h0)] at hf
    have := hK f hf
    unfold Holds at this ⊢
    rw [if_pos h0] at this ⊢
    exact this
  have hfp : isB s slots f.pl = true := by rcases hok.pl with h | h; exact absurd h.1 h0; exact h
  by_cases ho : overB f.pl m.dst = false
  · rw [if_pos (Or.inr ho)] at hf
    have := hK f hf
    unfold Holds at this ⊢
    rw [if_neg h0] at this ⊢
    unfold moveP
    rw [get_put_far hd hfp ho]
    exact this
  rw [if_neg (by rintro (h | h); exact h0 h; exact ho h)] at hf
  obtain ⟨hpl, hf⟩ := hf
  replace hpl := samePl_eq hpl
  unfold Holds
  rw [if_neg h0]
  cases hc : m.cst with
  | false =>
    rw [if_pos hc] at hf
    rw [if_neg (by simp [hc])] at hm
    simp only [Bool.and_eq_true] at hm
    have hsrc := hm.1.2
    have hkk := hK _ hf
    unfold Holds at hkk
    simp only at hkk
    rw [if_neg (is_kind hsrc)] at hkk
    have hv : U64i (getP st m.src) := get_bd m.src hst.ok
    unfold moveP
    rw [show (if m.cst = true then m.n else getP st m.src) = getP st m.src by rw [hc]; simp, hpl, get_put_same hst hd _ hv]
    by_cases ht : f.temp = true
    · rw [if_pos ht] at hkk ⊢
      obtain ⟨t0, t1⟩ := hok.t ht
      split
      · rename_i h1
        have hw1 := hw f.t.toNat (by omega) (hok.nar ht (Or.inr (by rw [hpl]; exact h1)))
        have := hts f.t.toNat
        unfold U64i at this
        omega
      · exact hkk
    · rw [if_neg ht] at hkk ⊢
      have htf : f.temp = false := by simpa using ht
      have := hnum _ (hok.num (Or.inr htf))
      split <;> omega
  | true =>
    rw [if_neg (by simp [hc])] at hf
    rw [if_pos hc] at hm
    simp at hm
    unfold moveP
    rw [if_pos hc, hpl, get_put_same hst hd _ ⟨hn.1, by omega⟩, if_pos hm.2]
    by_cases ht : f.temp = true
    · rw [if_pos ht] at hf ⊢
      have hkk := hK _ hf
      unfold Holds zeroAt at hkk
      simp only at hkk
      rw [if_pos (show LPlace.zero.kind = 0 from rfl)] at hkk
      rw [hkk]
      omega
    · rw [if_neg ht] at hf ⊢
      omega
theorem sto_at_move {s slots : Int} {st : Sto} {m : LMove} (h : StoAt s slots st) (hn : 0 ≤ m.n ∧ m.n < 4294967296) : StoAt s slots (moveP st m) := by
  unfold moveP
  refine sto_at_put h ?_
  split
  · exact ⟨hn.1, by omega⟩
  · exact get_bd _ h.ok
end form
/- A machine in its places, on plain numbers; where what is taken is where it is said to be, it shows what the program shows. -/
namespace form
open Go.RowKit num
structure PMac where
  pc : Nat
  sto : Sto
  taken : Nat
  out : List Int
  state : Int
  steps : Nat
def PMac.start (s slots : Nat) : PMac := ⟨0, ⟨List.replicate s 0, List.replicate slots 0⟩, 0, [], 0, 0⟩
def PMac.step (C : List LIns) (R : List LRow) (ins : List Int) (m : PMac) : PMac :=
  let i := C.getD m.pc .zero
  let r := R.getD m.pc .zero
  let st := movesP m.sto r.before
  let a := getP st r.a
  let b := getP st r.b
  let nx := nxI i m.pc a
  { pc := nx.toNat
    sto := movesP (if givesB i.op then putP st r.dest (gvI i a b (inOf ins m.taken)) else st) r.after
    taken := if i.op = 3 ∧ m.taken < ins.length then m.taken + 1 else m.taken
    out := if i.op = 4 then m.out ++ [a % 4294967296] else m.out
    state := stI i C.length nx
    steps := m.steps + 1 }
def PMac.go (C : List LIns) (R : List LRow) (ins : List Int) : Nat → PMac → PMac
  | 0, m => m
  | k + 1, m => if m.state = 0 then PMac.go C R ins k (m.step C R ins) else m
def playP (C : List LIns) (R : List LRow) (s slots : Nat) (ins : List Int) (n : Nat) : PMac := PMac.go C R ins n (PMac.start s slots)
theorem PMac.go_stop {C : List LIns} {R : List LRow} {ins : List Int} {m : PMac} (h : ¬ m.state = 0) : ∀ k, PMac.go C R ins k m = m
  | 0 => rfl
  | k + 1 => by simp [PMac.go, h]
theorem reg_is {B : List Bool} {s slots t : Int} {p : LPlace} (h : regB B s t p = true) : isB s slots p = true ∧ (p.kind = 1 ∨ p.kind = 2) ∧ (p.kind = 1 → B.getD t.toNat false = false) := by
  unfold regB at h
  rw [Bool.and_eq_true] at h
  obtain ⟨h1, h2⟩ := h
  have hk : p.kind = 1 ∨ p.kind = 2 := by cases hB : B.getD t.toNat false <;> rw [hB] at h1 <;> simp at h1 <;> omega
  refine ⟨?_, hk, fun e => ?_⟩
  · unfold isB at h2 ⊢
    rcases hk with e | e
    · rw [if_pos e] at h2 ⊢; exact h2
    · rw [if_neg (by omega), if_pos e] at h2 ⊢; exact h2
  · cases hB : B.getD t.toNat false with
    | false => rfl
    | true => rw [hB] at h1; simp at h1; omega
theorem getD_rep (n j : Nat) : (List.replicate n (0 : Int)).getD j 0 = 0 := by
  by_cases h : j < n <;> simp [List.getD, h]
theorem sto_start {s slots : Nat} (hs : s ≤ 16) (he : s % 2 = 0) (hl : slots ≤ 12) : StoAt s slots (PMac.start s slots).sto := by
  refine ⟨⟨fun j => ?_, fun j => ?_, by simp [PMac.start]; omega, by simp [PMac.start]; omega, by simp [PMac.start]; omega⟩, by simp [PMac.start], by simp [PMac.start]⟩
  · unfold PMac.start; simp only; rw [getD_rep]; omega
  · unfold PMac.start; simp only; rw [getD_rep]; exact ⟨by omega, by omega⟩
theorem target_of {s : Int} (h : targetB s = true) : 4 ≤ s ∧ s ≤ 16 ∧ s % 2 = 0 := by
  unfold targetB at h
  simp at h
  omega
end form
/- What the program's own done.Run must answer. -/
namespace form
open Go.RowKit
def wrongP (B : List Bool) (C : List LIns) (s slots : Int) (R : List LRow) (nI : Nat) (steps : Int) : Int := if placeMayB B C s slots R = true then wrongI B C nI steps else 2
end form
namespace doneRuns
open Go.RowKit
open form
def resP (B : List Bool) (C : List LIns) (s slots : Int) (R : List LRow) (I : List Int) (steps : Int) : PMac := if wrongP B C s slots R I.length steps = 0 then playP C R s.toNat slots.toNat I steps.toNat else ⟨0, ⟨[], []⟩, 0, [], 0, 0⟩
def DoneSpec : Prop := ∀ (pv lv iv : Value) (B : List Bool) (C : List LIns) (s slots : Int) (R : List LRow) (I : List Int) (steps : Int) (w : World), ProgIs w pv B C → PlacedIs w lv slots R → RowsOk R → InArg w iv I →
  Calls Tryz.prog 40 #[pv, targetV s, lv, iv, .int .i64 steps] w fun e w' => (∃ sv, e = .returned (.tuple #[sv, .int .i64 (wrongP B C s slots R I.length steps)]) ∧ ShownIs w' sv (resP B C s slots R I steps).state (resP B C s slots R I steps).out (resP B C s slots R I steps).steps) ∧ Below w.heap.size w w'
theorem wrongP_zero {B : List Bool} {C : List LIns} {s slots : Int} {R : List LRow} {nI : Nat} {steps : Int} (h : wrongP B C s slots R nI steps = 0) : placeMayB B C s slots R = true ∧ wrongI B C nI steps = 0 := by
  unfold wrongP at h
  split at h
  · rename_i h1; exact ⟨h1, h⟩
  · omega
end doneRuns
/- Facts that are known ahead of each instruction: the greatest sets; places that are taken; they do what the program does. On plain numbers. -/
namespace form
open Go.RowKit num
end form
end Go.Proofs.YtikhedkhgpjaaacGreatDoor
