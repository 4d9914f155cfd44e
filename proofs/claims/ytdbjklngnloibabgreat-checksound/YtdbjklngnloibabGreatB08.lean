/- Facts on plain numbers: what a fact says of temporaries and a store; what is known behind a move and behind an instruction is so. -/
import Derived.Test.YtdbjklngnloibabGreatB07

namespace Go.Proofs.YtdbjklngnloibabGreat.form
open Go.RowKit Go.Proofs.YtdbjklngnloibabGreat.num
set_option linter.unusedVariables false

structure LFact where
  pl : LPlace
  temp : Bool
  t : Int
  n : Int

/-- What a fact says of temporaries and a store. -/
def Holds (ts : List Int) (st : Sto) (f : LFact) : Prop :=
  if f.pl.kind = 0 then ts.getD f.t.toNat 0 = f.n else if f.temp = true then getP st f.pl = ts.getD f.t.toNat 0 else getP st f.pl = f.n

/-- Facts that may be. -/
structure FactOk (B : List Bool) (s slots : Int) (num : Int → Prop) (f : LFact) : Prop where
  pl : (f.pl.kind = 0 ∧ f.pl.n = 0 ∧ f.temp = true) ∨ isB s slots f.pl = true
  t : f.temp = true → 0 ≤ f.t ∧ f.t < B.length
  nar : f.temp = true → f.pl.kind = 0 ∨ f.pl.kind = 1 → B.getD f.t.toNat false = false
  wid : f.temp = true → f.pl.kind = 2 → B.getD f.t.toNat false = true
  num : f.pl.kind = 0 ∨ f.temp = false → num f.n
  zn : ¬ f.pl.kind = 0 → f.temp = true → f.n = 0
  zt : f.temp = false → f.t = 0
  dbl : f.temp = false → ¬ f.pl.kind = 2

def zeroAt (t n : Int) : LFact := ⟨.zero, true, t, n⟩

def samePl (a b : LPlace) : Bool := (a.kind == b.kind) && (a.n == b.n)
theorem samePl_eq {a b : LPlace} (h : samePl a b = true) : a = b := by
  obtain ⟨x, y⟩ := a
  obtain ⟨z, u⟩ := b
  unfold samePl at h
  simp at h
  rw [h.1, h.2]

/-- What is known behind a move. -/
def moveK (ok : LFact → Prop) (m : LMove) (K : LFact → Prop) (f : LFact) : Prop :=
  ok f ∧ (if f.pl.kind = 0 ∨ overB f.pl m.dst = false then K f
    else samePl f.pl m.dst = true ∧ (if m.cst = false then K ⟨m.src, f.temp, f.t, f.n⟩ else if f.temp = true then K (zeroAt f.t m.n) else f.n = m.n))

/-- What is known behind an instruction that gives. -/
def insK (ok : LFact → Prop) (i : LIns) (L : LPlace) (K : LFact → Prop) (f : LFact) : Prop :=
  ok f ∧
  (if i.op = 2 ∧ samePl f.pl L = true ∧ f.temp = true ∧ f.t = i.a then True
   else if i.op = 2 ∧ samePl f.pl L = true ∧ f.temp = false then K (zeroAt i.a f.n)
   else if i.op = 2 ∧ (f.temp = true ∧ f.t = i.dest) ∧ (f.pl.kind = 0 ∨ overB f.pl L = false) then K ⟨f.pl, f.temp, i.a, f.n⟩
   else if i.op = 1 ∧ (f.temp = true ∧ f.t = i.dest) ∧ ¬ f.pl.kind = 0 ∧ overB f.pl L = false then K ⟨f.pl, false, 0, i.n⟩
   else if i.op = 1 ∧ (((f.temp = true ∧ f.t = i.dest) ∧ f.pl.kind = 0) ∨ (samePl f.pl L = true ∧ f.temp = false)) then f.n = i.n
   else if samePl f.pl L = true ∧ (f.temp = true ∧ f.t = i.dest) ∧ ¬ f.pl.kind = 0 then True
   else K f ∧ ¬ (f.temp = true ∧ f.t = i.dest) ∧ (f.pl.kind = 0 ∨ overB f.pl L = false))

/-- A place that is there, by its kind. -/
theorem is_cases {s slots : Int} {p : LPlace} (h : isB s slots p = true) : (p.kind = 1 ∧ 0 ≤ p.n ∧ p.n < s) ∨ (p.kind = 2 ∧ 0 ≤ p.n ∧ 2 * p.n < s) ∨ (p.kind = 3 ∧ 0 ≤ p.n ∧ p.n < slots) := by
  unfold isB at h
  by_cases e1 : p.kind = 1
  · rw [if_pos e1] at h; simp at h; exact Or.inl ⟨e1, by omega, by omega⟩
  · rw [if_neg e1] at h
    by_cases e2 : p.kind = 2
    · rw [if_pos e2] at h; simp at h; exact Or.inr (Or.inl ⟨e2, by omega, by omega⟩)
    · rw [if_neg e2] at h
      by_cases e3 : p.kind = 3
      · rw [if_pos e3] at h; simp at h; exact Or.inr (Or.inr ⟨e3, by omega, by omega⟩)
      · rw [if_neg e3] at h; exact absurd h (by simp)

theorem is_kind {s slots : Int} {p : LPlace} (h : isB s slots p = true) : ¬ p.kind = 0 := by rcases is_cases h with h | h | h <;> omega

/-- A store of a machine. -/
structure StoAt (s slots : Int) (st : Sto) : Prop where
  ok : StoOk st
  sl : (st.sing.length : Int) = s
  ll : (st.slot.length : Int) = slots

theorem getD_set_ne {l : List Int} {i j : Nat} {x : Int} (h : i ≠ j) : (l.set i x).getD j 0 = l.getD j 0 := by simp [List.getD, h]
theorem getD_set_eq {l : List Int} {i : Nat} {x : Int} (h : i < l.length) : (l.set i x).getD i 0 = x := by simp [List.getD, h]

theorem get_one {st : Sto} {q : LPlace} (e : q.kind = 1) : getP st q = st.sing.getD q.n.toNat 0 := by unfold getP; rw [if_pos e]
theorem get_two {st : Sto} {q : LPlace} (e : q.kind = 2) : getP st q = st.sing.getD (2 * q.n + 1).toNat 0 * 4294967296 + st.sing.getD (2 * q.n).toNat 0 := by unfold getP; rw [if_neg (by omega), if_pos e]
theorem get_three {st : Sto} {q : LPlace} (e : q.kind = 3) : getP st q = st.slot.getD q.n.toNat 0 := by unfold getP; rw [if_neg (by omega), if_neg (by omega), if_pos e]
theorem put_one {st : Sto} {p : LPlace} {v : Int} (e : p.kind = 1) : putP st p v = ⟨st.sing.set p.n.toNat (v % 4294967296), st.slot⟩ := by unfold putP; rw [if_pos e]
theorem put_two {st : Sto} {p : LPlace} {v : Int} (e : p.kind = 2) : putP st p v = ⟨(st.sing.set (2 * p.n).toNat (v % 4294967296)).set (2 * p.n + 1).toNat (v / 4294967296), st.slot⟩ := by unfold putP; rw [if_neg (by omega), if_pos e]
theorem put_three {st : Sto} {p : LPlace} {v : Int} (e : p.kind = 3) : putP st p v = ⟨st.sing, st.slot.set p.n.toNat v⟩ := by unfold putP; rw [if_neg (by omega), if_neg (by omega), if_pos e]

/-- What is put in a place is there: as much of it as goes in. -/
theorem get_put_same {s slots : Int} {st : Sto} {p : LPlace} (h : StoAt s slots st) (hp : isB s slots p = true) (v : Int) (hv : U64i v) : getP (putP st p v) p = if p.kind = 1 then v % 4294967296 else v := by
  have h1 := h.sl
  have h2 := h.ll
  have hev := h.ok.ev
  obtain ⟨v0, v1⟩ := hv
  rcases is_cases hp with ⟨e, a, b⟩ | ⟨e, a, b⟩ | ⟨e, a, b⟩
  · rw [put_one e, get_one e, if_pos e]
    exact getD_set_eq (by omega)
  · rw [put_two e, get_two e, if_neg (by omega)]
    simp only
    rw [getD_set_eq (by simp; omega), getD_set_ne (by omega), getD_set_eq (by omega)]
    omega
  · rw [put_three e, get_three e, if_neg (by omega)]
    exact getD_set_eq (by omega)

/-- What does not overlap stays. -/
theorem get_put_far {s slots : Int} {st : Sto} {p q : LPlace} (hp : isB s slots p = true) (hq : isB s slots q = true) (ho : overB q p = false) (v : Int) : getP (putP st p v) q = getP st q := by
  unfold overB at ho
  rcases is_cases hp with ⟨e, a, b⟩ | ⟨e, a, b⟩ | ⟨e, a, b⟩ <;> rcases is_cases hq with ⟨e', a', b'⟩ | ⟨e', a', b'⟩ | ⟨e', a', b'⟩
  · rw [if_pos (by omega)] at ho; simp at ho
    rw [put_one e, get_one e', get_one e', getD_set_ne (by omega)]
  · rw [if_neg (by omega), if_neg (by omega), if_pos (by omega)] at ho; simp at ho
    rw [put_one e, get_two e', get_two e', getD_set_ne (by omega), getD_set_ne (by omega)]
  · rw [put_one e, get_three e', get_three e']
  · rw [if_neg (by omega), if_pos (by omega)] at ho; simp at ho
    rw [put_two e, get_one e', get_one e', getD_set_ne (by omega), getD_set_ne (by omega)]
  · rw [if_pos (by omega)] at ho; simp at ho
    rw [put_two e, get_two e', get_two e', getD_set_ne (by omega), getD_set_ne (by omega), getD_set_ne (by omega), getD_set_ne (by omega)]
  · rw [put_two e, get_three e', get_three e']
  · rw [put_three e, get_one e', get_one e']
  · rw [put_three e, get_two e', get_two e']
  · rw [if_pos (by omega)] at ho; simp at ho
    rw [put_three e, get_three e', get_three e', getD_set_ne (by omega)]

theorem sto_at_put {s slots : Int} {st : Sto} {p : LPlace} {v : Int} (h : StoAt s slots st) (hv : U64i v) : StoAt s slots (putP st p v) := by
  have := putP_len st p v
  exact ⟨sto_put h.ok hv, by rw [this.1]; exact h.sl, by rw [this.2]; exact h.ll⟩

/-- What is known of a store is so. -/
def AllHold (ts : List Int) (st : Sto) (K : LFact → Prop) : Prop := ∀ f, K f → Holds ts st f

theorem move_sound {B : List Bool} {s slots : Int} {num : Int → Prop} (hnum : ∀ x, num x → 0 ≤ x ∧ x < 4294967296) {ts : List Int} {st : Sto} {m : LMove} {K : LFact → Prop} (hm : moveB s slots m = true) (hn : 0 ≤ m.n ∧ m.n < 4294967296)
    (hst : StoAt s slots st) (hw : WOk B ts) (hts : ∀ j, U64i (ts.getD j 0)) (hK : AllHold ts st K) : AllHold ts (moveP st m) (moveK (FactOk B s slots num) m K) := by
  intro f hf
  obtain ⟨hok, hf⟩ := hf
  unfold moveB at hm
  simp only [Bool.and_eq_true] at hm
  obtain ⟨hd, hm⟩ := hm
  by_cases h0 : f.pl.kind = 0
  · rw [if_pos (Or.inl h0)] at hf
    have := hK f hf
    unfold Holds at this ⊢
    rw [if_pos h0] at this ⊢
    exact this
  have hfp : isB s slots f.pl = true := by rcases hok.pl with h | h; exact absurd h.1 h0; exact h
  by_cases ho : overB f.pl m.dst = false
  · rw [if_pos (Or.inr ho)] at hf
    have := hK f hf
    unfold Holds at this ⊢
    rw [if_neg h0] at this ⊢
    unfold moveP
    rw [get_put_far hd hfp ho]
    exact this
  rw [if_neg (by rintro (h | h); exact h0 h; exact ho h)] at hf
  obtain ⟨hpl, hf⟩ := hf
  replace hpl := samePl_eq hpl
  unfold Holds
  rw [if_neg h0]
  cases hc : m.cst with
  | false =>
    rw [if_pos hc] at hf
    rw [if_neg (by simp [hc])] at hm
    simp only [Bool.and_eq_true] at hm
    have hsrc := hm.1.2
    have hkk := hK _ hf
    unfold Holds at hkk
    simp only at hkk
    rw [if_neg (is_kind hsrc)] at hkk
    have hv : U64i (getP st m.src) := get_bd m.src hst.ok
    unfold moveP
    rw [show (if m.cst = true then m.n else getP st m.src) = getP st m.src by rw [hc]; simp, hpl, get_put_same hst hd _ hv]
    by_cases ht : f.temp = true
    · rw [if_pos ht] at hkk ⊢
      obtain ⟨t0, t1⟩ := hok.t ht
      split
      · rename_i h1
        have hw1 := hw f.t.toNat (by omega) (hok.nar ht (Or.inr (by rw [hpl]; exact h1)))
        have := hts f.t.toNat
        unfold U64i at this
        omega
      · exact hkk
    · rw [if_neg ht] at hkk ⊢
      have htf : f.temp = false := by simpa using ht
      have := hnum _ (hok.num (Or.inr htf))
      split <;> omega
  | true =>
    rw [if_neg (by simp [hc])] at hf
    rw [if_pos hc] at hm
    simp at hm
    unfold moveP
    rw [if_pos hc, hpl, get_put_same hst hd _ ⟨hn.1, by omega⟩, if_pos hm.2]
    by_cases ht : f.temp = true
    · rw [if_pos ht] at hf ⊢
      have hkk := hK _ hf
      unfold Holds zeroAt at hkk
      simp only at hkk
      rw [if_pos (show LPlace.zero.kind = 0 from rfl)] at hkk
      rw [hkk]
      omega
    · rw [if_neg ht] at hf ⊢
      omega

theorem sto_at_move {s slots : Int} {st : Sto} {m : LMove} (h : StoAt s slots st) (hn : 0 ≤ m.n ∧ m.n < 4294967296) : StoAt s slots (moveP st m) := by
  unfold moveP
  refine sto_at_put h ?_
  split
  · exact ⟨hn.1, by omega⟩
  · exact get_bd _ h.ok

/-- Behind moves. -/
def movesK (ok : LFact → Prop) (l : List LMove) (K : LFact → Prop) : LFact → Prop := l.foldl (fun K m => moveK ok m K) K

theorem moves_sound {B : List Bool} {s slots : Int} {num : Int → Prop} (hnum : ∀ x, num x → 0 ≤ x ∧ x < 4294967296) {ts : List Int} (hw : WOk B ts) (hts : ∀ j, U64i (ts.getD j 0)) (l : List LMove) :
    ∀ (st : Sto) (K : LFact → Prop), (∀ m, m ∈ l → moveB s slots m = true ∧ 0 ≤ m.n ∧ m.n < 4294967296) → StoAt s slots st → AllHold ts st K → StoAt s slots (movesP st l) ∧ AllHold ts (movesP st l) (movesK (FactOk B s slots num) l K) := by
  induction l with
  | nil => exact fun st K _ h1 h2 => ⟨h1, h2⟩
  | cons m l ih =>
    intro st K hl h1 h2
    obtain ⟨a, b⟩ := hl m (by simp)
    exact ih (moveP st m) (moveK (FactOk B s slots num) m K) (fun x hx => hl x (by simp [hx])) (sto_at_move h1 b) (move_sound hnum a b h1 hw hts h2)

/-- An instruction that gives: what is known behind it is so. -/
theorem ins_sound {B : List Bool} {s slots : Int} {num : Int → Prop} {ts : List Int} {st : Sto} {i : LIns} {L : LPlace} {v : Int} {K : LFact → Prop} (hlen : ts.length = B.length) (hd0 : 0 ≤ i.dest) (hd1 : i.dest < B.length)
    (hL : isB s slots L = true) (hLk : L.kind = 1 ∨ L.kind = 2) (hLn : L.kind = 1 → v < 4294967296) (hv : U64i v) (hst : StoAt s slots st) (hc : i.op = 1 → v = i.n) (hm : i.op = 2 → v = ts.getD i.a.toNat 0) (ha : i.op = 2 → 0 ≤ i.a)
    (hKok : ∀ f, K f → FactOk B s slots num f) (hK : AllHold ts st K) : AllHold (ts.set i.dest.toNat v) (putP st L v) (insK (FactOk B s slots num) i L K) := by
  have hself : getP (putP st L v) L = v := by
    rw [get_put_same hst hL v hv]
    split
    · rename_i h1; have := hLn h1; have := hv.1; omega
    · rfl
  have hnewd : (ts.set i.dest.toNat v).getD i.dest.toNat 0 = v := getD_set_eq (by omega)
  have hLk0 : ¬ L.kind = 0 := by omega
  have hnew : ∀ t : Int, 0 ≤ t → ¬ t = i.dest → (ts.set i.dest.toNat v).getD t.toNat 0 = ts.getD t.toNat 0 := fun t ht hne => getD_set_ne (by omega)
  intro f hf
  obtain ⟨hok, hf⟩ := hf
  have hfp : ¬ f.pl.kind = 0 → isB s slots f.pl = true := fun h0 => by rcases hok.pl with h | h; exact absurd h.1 h0; exact h
  unfold Holds
  split at hf
  · rename_i hh
    obtain ⟨h2, h3, h4, h5⟩ := hh
    replace h3 := samePl_eq h3
    rw [if_neg (by rw [h3]; exact hLk0), if_pos h4, h3, hself, h5]
    by_cases e : i.a = i.dest
    · rw [e, hnewd]
    · rw [hnew _ (ha h2) e]; exact hm h2
  split at hf
  · rename_i _ hh
    obtain ⟨h2, h3, h4⟩ := hh
    replace h3 := samePl_eq h3
    rw [if_neg (by rw [h3]; exact hLk0), if_neg (by simp [h4]), h3, hself, hm h2]
    have := hK _ hf
    unfold Holds zeroAt at this
    simp only at this
    rw [if_pos (show LPlace.zero.kind = 0 from rfl)] at this
    exact this
  split at hf
  · rename_i _ _ hh
    obtain ⟨h2, ⟨h3, h4⟩, h5⟩ := hh
    have hk := hK _ hf
    unfold Holds at hk
    simp only at hk
    rw [h4, hnewd, hm h2]
    by_cases h0 : f.pl.kind = 0
    · rw [if_pos h0] at hk ⊢; exact hk
    · have ho : overB f.pl L = false := by rcases h5 with h5 | h5; exact absurd h5 h0; exact h5
      rw [if_neg h0, if_pos h3] at hk ⊢
      rw [get_put_far hL (hfp h0) ho]
      exact hk
  split at hf
  · rename_i _ _ _ hh
    obtain ⟨h1, ⟨h3, h4⟩, h0, ho⟩ := hh
    have hk := hK _ hf
    unfold Holds at hk
    simp only at hk
    rw [if_neg h0, if_neg (by simp)] at hk
    rw [if_neg h0, if_pos h3, h4, hnewd, get_put_far hL (hfp h0) ho, hk, hc h1]
  split at hf
  · rename_i _ _ _ _ hh
    obtain ⟨h1, hh⟩ := hh
    rcases hh with ⟨⟨h3, h4⟩, h0⟩ | ⟨h3, h4⟩
    · rw [if_pos h0, h4, hnewd, hf, hc h1]
    · replace h3 := samePl_eq h3
      rw [if_neg (by rw [h3]; exact hLk0), if_neg (by simp [h4]), h3, hself, hf, hc h1]
  split at hf
  · rename_i _ _ _ _ _ hh
    obtain ⟨h3, ⟨h4, h5⟩, h0⟩ := hh
    replace h3 := samePl_eq h3
    rw [if_neg h0, if_pos h4, h3, hself, h5, hnewd]
  · obtain ⟨hkf, hno, h5⟩ := hf
    have hk := hK _ hkf
    unfold Holds at hk
    by_cases h0 : f.pl.kind = 0
    · rw [if_pos h0] at hk ⊢
      have htmp : f.temp = true := by rcases hok.pl with h | h; exact h.2.2; exact absurd h0 (is_kind h)
      rw [hnew _ (hok.t htmp).1 (fun e => hno ⟨htmp, e⟩)]
      exact hk
    · have ho : overB f.pl L = false := by rcases h5 with h5 | h5; exact absurd h5 h0; exact h5
      rw [if_neg h0] at hk ⊢
      rw [get_put_far hL (hfp h0) ho]
      by_cases ht : f.temp = true
      · rw [if_pos ht] at hk ⊢
        rw [hnew _ (hok.t ht).1 (fun e => hno ⟨ht, e⟩)]
        exact hk
      · rw [if_neg ht] at hk ⊢
        exact hk

end Go.Proofs.YtdbjklngnloibabGreat.form

/- A machine in its places, on plain numbers; where what is taken is where it is said to be, it shows what the program shows. -/
namespace Go.Proofs.YtdbjklngnloibabGreat.form
open Go.RowKit Go.Proofs.YtdbjklngnloibabGreat.num
set_option linter.unusedVariables false

/-- A machine in its places: where it is, its store, how many ins are taken, what came out, its state, its steps. -/
structure PMac where
  pc : Nat
  sto : Sto
  taken : Nat
  out : List Int
  state : Int
  steps : Nat

def PMac.start (s slots : Nat) : PMac := ⟨0, ⟨List.replicate s 0, List.replicate slots 0⟩, 0, [], 0, 0⟩

def PMac.step (C : List LIns) (R : List LRow) (ins : List Int) (m : PMac) : PMac :=
  let i := C.getD m.pc .zero
  let r := R.getD m.pc .zero
  let st := movesP m.sto r.before
  let a := getP st r.a
  let b := getP st r.b
  let nx := nxI i m.pc a
  { pc := nx.toNat
    sto := movesP (if givesB i.op then putP st r.dest (gvI i a b (inOf ins m.taken)) else st) r.after
    taken := if i.op = 3 ∧ m.taken < ins.length then m.taken + 1 else m.taken
    out := if i.op = 4 then m.out ++ [a % 4294967296] else m.out
    state := stI i C.length nx
    steps := m.steps + 1 }

/-- At most so many steps more. -/
def PMac.go (C : List LIns) (R : List LRow) (ins : List Int) : Nat → PMac → PMac
  | 0, m => m
  | k + 1, m => if m.state = 0 then PMac.go C R ins k (m.step C R ins) else m

def playP (C : List LIns) (R : List LRow) (s slots : Nat) (ins : List Int) (n : Nat) : PMac := PMac.go C R ins n (PMac.start s slots)

theorem PMac.go_stop {C : List LIns} {R : List LRow} {ins : List Int} {m : PMac} (h : ¬ m.state = 0) : ∀ k, PMac.go C R ins k m = m
  | 0 => rfl
  | k + 1 => by simp [PMac.go, h]

/-- What is known behind an instruction and its moves. -/
def thruK (ok : LFact → Prop) (i : LIns) (r : LRow) (K : LFact → Prop) : LFact → Prop :=
  movesK ok r.after (if givesB i.op = true then insK ok i r.dest (movesK ok r.before K) else movesK ok r.before K)

/-- What is taken is where it is said to be. -/
def usesK (ok : LFact → Prop) (i : LIns) (r : LRow) (K : LFact → Prop) : Prop :=
  (0 < manyI i.op → movesK ok r.before K ⟨r.a, true, i.a, 0⟩) ∧ (1 < manyI i.op → movesK ok r.before K ⟨r.b, true, i.b, 0⟩)

/-- Sets of facts that go on as they must; come: a way leads there. -/
structure GoodK (B : List Bool) (C : List LIns) (s slots : Int) (R : List LRow) (num : Int → Prop) (come : Nat → Prop) (K : Nat → LFact → Prop) : Prop where
  c0 : come 0
  ok : ∀ k f, K k f → FactOk B s slots num f
  beg : ∀ f, K 0 f → f.n = 0
  next : ∀ k x, come k → k < C.length → x ∈ nextsN (C.getD k .zero) k → x < C.length → come x ∧ ∀ f, K x f → thruK (FactOk B s slots num) (C.getD k .zero) (R.getD k .zero) (K k) f

theorem gv_same {i : LIns} {a b a' b' x : Int} (hg : givesB i.op = true) (hk : knownB i.op = true) (ha : 0 < manyI i.op → a = a') (hb : 1 < manyI i.op → b = b') : gvI i a b x = gvI i a' b' x := by
  unfold gvI
  split
  · rfl
  split
  · rename_i h1 h2
    exact ha (by unfold manyI; rw [if_neg (by omega), if_pos (by omega)]; omega)
  split
  · rfl
  split
  · rename_i h1 h2 h3 h5
    rw [ha (by unfold manyI; rw [if_neg (by omega), if_neg (by omega)]; omega), hb (by unfold manyI; rw [if_neg (by omega), if_neg (by omega)]; omega)]
  split
  · rename_i h1 h2 h3 h5 h6
    rw [ha (by unfold manyI; rw [if_neg (by omega), if_pos (by omega)]; omega)]
  split
  · rename_i h1 h2 h3 h5 h6 h7
    rw [ha (by unfold manyI; rw [if_neg (by omega), if_pos (by omega)]; omega)]
  · rename_i h1 h2 h3 h5 h6 h7
    unfold knownB at hk
    unfold givesB at hg
    simp at hk hg
    rw [ha (by unfold manyI; rw [if_neg (by omega), if_neg (by omega)]; omega), hb (by unfold manyI; rw [if_neg (by omega), if_neg (by omega)]; omega)]

theorem nx_same {i : LIns} {pc : Nat} {a a' : Int} (ha : 0 < manyI i.op → a = a') : nxI i pc a = nxI i pc a' := by
  unfold nxI
  by_cases h9 : i.op = 9
  · rw [ha (by unfold manyI; rw [if_neg (by omega), if_pos (by omega)]; omega)]
  · by_cases h8 : i.op = 8
    · rw [if_pos (Or.inl h8), if_pos (Or.inl h8)]
    · rw [if_neg (by omega), if_neg (by omega)]

theorem nx_next {i : LIns} {nC pc : Nat} {a : Int} (h : stI i nC (nxI i pc a) = 0) : (nxI i pc a).toNat ∈ nextsN i pc ∧ nxI i pc a < nC := by
  unfold stI at h
  split at h
  · omega
  rename_i h10
  split at h
  · omega
  refine ⟨?_, by omega⟩
  unfold nextsN nextsI nxI
  by_cases h8 : i.op = 8
  · rw [if_pos (Or.inl h8), if_pos h8]; simp
  · by_cases h9 : i.op = 9
    · rw [if_neg h8, if_neg h10, if_pos h9]
      split <;> simp
    · rw [if_neg h8, if_neg h10, if_neg h9, if_neg (by omega)]; simp

theorem reg_is {B : List Bool} {s slots t : Int} {p : LPlace} (h : regB B s t p = true) : isB s slots p = true ∧ (p.kind = 1 ∨ p.kind = 2) ∧ (p.kind = 1 → B.getD t.toNat false = false) := by
  unfold regB at h
  rw [Bool.and_eq_true] at h
  obtain ⟨h1, h2⟩ := h
  have hk : p.kind = 1 ∨ p.kind = 2 := by cases hB : B.getD t.toNat false <;> rw [hB] at h1 <;> simp at h1 <;> omega
  refine ⟨?_, hk, fun e => ?_⟩
  · unfold isB at h2 ⊢
    rcases hk with e | e
    · rw [if_pos e] at h2 ⊢; exact h2
    · rw [if_neg (by omega), if_pos e] at h2 ⊢; exact h2
  · cases hB : B.getD t.toNat false with
    | false => rfl
    | true => rw [hB] at h1; simp at h1; omega

/-- Both machines are at one. -/
structure Sim (B : List Bool) (s slots : Int) (come : Nat → Prop) (K : Nat → LFact → Prop) (m : Mac) (p : PMac) : Prop where
  pc : p.pc = m.pc
  taken : p.taken = m.taken
  out : p.out = m.out
  state : p.state = m.state
  steps : p.steps = m.steps
  sto : StoAt s slots p.sto
  hold : m.state = 0 → come m.pc ∧ AllHold m.temps p.sto (K m.pc)

theorem sim_step {B : List Bool} {C : List LIns} {s slots : Int} {R : List LRow} {num : Int → Prop} (hnum : ∀ x, num x → 0 ≤ x ∧ x < 4294967296) {come : Nat → Prop} {K : Nat → LFact → Prop} {ins : List Int} {m : Mac} {p : PMac}
    (hG : GoodK B C s slots R num come K) (hU : ∀ k, come k → k < C.length → usesK (FactOk B s slots num) (C.getD k .zero) (R.getD k .zero) (K k))
    (hI : ∀ k, k < C.length → insB B C.length (C.getD k .zero) = true ∧ InsOk B.length C.length (C.getD k .zero)) (hR : ∀ k, k < C.length → rowB B s slots (C.getD k .zero) (R.getD k .zero) = true)
    (hRn : ∀ k, k < C.length → ∀ x, x ∈ (R.getD k .zero).before ∨ x ∈ (R.getD k .zero).after → 0 ≤ x.n ∧ x.n < 4294967296)
    (hin : ∀ j, j < ins.length → 0 ≤ ins.getD j 0 ∧ ins.getD j 0 < 4294967296) (hm : MOk B.length C.length ins.length m) (hw : WOk B m.temps) (h0 : m.state = 0) (h : Sim B s slots come K m p) : Sim B s slots come K (m.step C ins) (p.step C R ins) := by
  have hpc := hm.pcok h0
  obtain ⟨hcome, hold⟩ := h.hold h0
  obtain ⟨hib, hio⟩ := hI m.pc hpc
  have hrow := hR m.pc hpc
  have hrn := hRn m.pc hpc
  have hus := hU m.pc hcome hpc
  have hnx := hG.next m.pc
  have hKok := hG.ok m.pc
  unfold Mac.step PMac.step
  rw [h.pc, h.taken, h.out, h.steps]
  obtain ⟨i, hi⟩ : ∃ i, i = C.getD m.pc .zero := ⟨_, rfl⟩
  obtain ⟨r, hr⟩ : ∃ r, r = R.getD m.pc .zero := ⟨_, rfl⟩
  rw [← hi] at hib hio hrow hus hnx
  rw [← hr] at hrow hrn hus hnx
  rw [← hi, ← hr]
  unfold rowB at hrow
  simp only [Bool.and_eq_true] at hrow
  obtain ⟨⟨⟨⟨⟨rd, ra⟩, rb⟩, rbef⟩, raft⟩, _⟩ := hrow
  unfold movesB at rbef raft
  simp only [Bool.and_eq_true, List.all_eq_true] at rbef raft
  obtain ⟨st1, hst1⟩ : ∃ st1, st1 = movesP p.sto r.before := ⟨_, rfl⟩
  obtain ⟨hs1, hold1⟩ := moves_sound (B := B) (num := num) hnum hw hm.bd r.before p.sto (K m.pc) (fun x hx => ⟨rbef.2 x hx, hrn x (Or.inl hx)⟩) h.sto hold
  rw [← hst1] at hs1 hold1
  have hKb : ∀ f, movesK (FactOk B s slots num) r.before (K m.pc) f → FactOk B s slots num f := by
    have : ∀ (l : List LMove) (K : LFact → Prop), (∀ f, K f → FactOk B s slots num f) → ∀ f, movesK (FactOk B s slots num) l K f → FactOk B s slots num f := by
      intro l
      induction l with
      | nil => exact fun K h => h
      | cons x l ih => exact fun K h => ih _ (fun f hf => hf.1)
    exact this _ _ hKok
  have hA : 0 < manyI i.op → getP st1 r.a = m.temps.getD i.a.toNat 0 := fun hp => by
    have := hold1 _ (hus.1 hp)
    unfold fieldP at ra
    rw [if_pos (by simpa using hp)] at ra
    have hk := (reg_is (slots := slots) ra).2.1
    unfold Holds at this
    simp only at this
    rw [if_neg (by omega), if_pos trivial] at this
    exact this
  have hB : 1 < manyI i.op → getP st1 r.b = m.temps.getD i.b.toNat 0 := fun hp => by
    have := hold1 _ (hus.2 hp)
    unfold fieldP at rb
    rw [if_pos (by simpa using hp)] at rb
    have hk := (reg_is (slots := slots) rb).2.1
    unfold Holds at this
    simp only at this
    rw [if_neg (by omega), if_pos trivial] at this
    exact this
  have hkn : knownB i.op = true := by
    unfold insB at hib
    simp only [Bool.and_eq_true] at hib
    exact hib.1.1.1.1.1.1
  have hnxe : nxI i m.pc (getP st1 r.a) = nxI i m.pc (m.temps.getD i.a.toNat 0) := nx_same hA
  have hx := inOf_bd hin m.taken
  simp only
  rw [← hst1, hnxe]
  have hgve : givesB i.op = true → gvI i (getP st1 r.a) (getP st1 r.b) (inOf ins m.taken) = gvI i (m.temps.getD i.a.toNat 0) (m.temps.getD i.b.toNat 0) (inOf ins m.taken) := fun hg => gv_same hg hkn hA hB
  have hvb : U64i (gvI i (m.temps.getD i.a.toNat 0) (m.temps.getD i.b.toNat 0) (inOf ins m.taken)) := gvI_bd _ _ _ _ (hm.bd _) (hm.bd _) hx.1 hx.2 hio.n0 hio.n1
  -- behind the instruction
  have hmid : StoAt s slots (if givesB i.op = true then putP st1 r.dest (gvI i (getP st1 r.a) (getP st1 r.b) (inOf ins m.taken)) else st1) ∧
      AllHold (if givesB i.op = true then m.temps.set i.dest.toNat (gvI i (m.temps.getD i.a.toNat 0) (m.temps.getD i.b.toNat 0) (inOf ins m.taken)) else m.temps) (if givesB i.op = true then putP st1 r.dest (gvI i (getP st1 r.a) (getP st1 r.b) (inOf ins m.taken)) else st1)
        (if givesB i.op = true then insK (FactOk B s slots num) i r.dest (movesK (FactOk B s slots num) r.before (K m.pc)) else movesK (FactOk B s slots num) r.before (K m.pc)) := by
    cases hg : givesB i.op with
    | false => simp only [Bool.false_eq_true, if_false]; exact ⟨hs1, hold1⟩
    | true =>
      simp only [if_true]
      rw [hgve hg]
      unfold fieldP at rd
      rw [if_pos hg] at rd
      obtain ⟨r1, r2, r3⟩ := reg_is (slots := slots) rd
      obtain ⟨d0, d1⟩ := hio.d hg
      refine ⟨sto_at_put hs1 hvb, ins_sound hm.len d0 d1 r1 r2 (fun e => wok_give hib hio hw hm.bd hx.1 hx.2 hg (r3 e)) hvb hs1 ?_ ?_ (fun _ => hio.a0) hKb hold1⟩
      · intro e; unfold gvI; rw [if_pos e]
      · intro e; unfold gvI; rw [if_neg (by omega), if_pos e]
  have hw2 : WOk B (m.step C ins).temps := wok_step (by rw [← hi]; exact hib) (by rw [← hi]; exact hio) hw hm hin
  have hm2 : MOk B.length C.length ins.length (m.step C ins) := mok_step hm h0 (by rw [← hi]; exact hio) hin
  have e2 : (m.step C ins).temps = (if givesB i.op = true then m.temps.set i.dest.toNat (gvI i (m.temps.getD i.a.toNat 0) (m.temps.getD i.b.toNat 0) (inOf ins m.taken)) else m.temps) := by unfold Mac.step; rw [hi]
  have hb2 := hm2.bd
  rw [e2] at hw2 hb2
  obtain ⟨hs3, hold3⟩ := moves_sound (B := B) (num := num) hnum hw2 hb2 r.after _ _ (fun x hx => ⟨raft.2 x hx, hrn x (Or.inr hx)⟩) hmid.1 hmid.2
  refine ⟨rfl, rfl, ?_, rfl, rfl, hs3, fun hst => ?_⟩
  · by_cases h4 : i.op = 4
    · rw [if_pos h4, if_pos h4, hA (by unfold manyI; rw [if_neg (by omega), if_pos (by omega)]; omega)]
    · rw [if_neg h4, if_neg h4]
  · simp only at hst ⊢
    obtain ⟨n1, n2⟩ := nx_next hst
    have hpos : 0 ≤ nxI i m.pc (m.temps.getD i.a.toNat 0) := by
      unfold nxI
      split
      · rename_i h8
        exact (hio.c (by omega)).1
      · omega
    obtain ⟨q1, q2⟩ := hnx _ hcome hpc n1 (by omega)
    refine ⟨q1, fun f hf => ?_⟩
    exact hold3 f (q2 f hf)

theorem sim_go {B : List Bool} {C : List LIns} {s slots : Int} {R : List LRow} {num : Int → Prop} (hnum : ∀ x, num x → 0 ≤ x ∧ x < 4294967296) {come : Nat → Prop} {K : Nat → LFact → Prop} {ins : List Int}
    (hG : GoodK B C s slots R num come K) (hU : ∀ k, come k → k < C.length → usesK (FactOk B s slots num) (C.getD k .zero) (R.getD k .zero) (K k))
    (hI : ∀ k, k < C.length → insB B C.length (C.getD k .zero) = true ∧ InsOk B.length C.length (C.getD k .zero)) (hR : ∀ k, k < C.length → rowB B s slots (C.getD k .zero) (R.getD k .zero) = true)
    (hRn : ∀ k, k < C.length → ∀ x, x ∈ (R.getD k .zero).before ∨ x ∈ (R.getD k .zero).after → 0 ≤ x.n ∧ x.n < 4294967296)
    (hin : ∀ j, j < ins.length → 0 ≤ ins.getD j 0 ∧ ins.getD j 0 < 4294967296) : ∀ (n : Nat) (m : Mac) (p : PMac), MOk B.length C.length ins.length m → WOk B m.temps → Sim B s slots come K m p → Sim B s slots come K (Mac.go C ins n m) (PMac.go C R ins n p) := by
  intro n
  induction n with
  | zero => exact fun m p _ _ h => h
  | succ n ih =>
    intro m p hm hw h
    unfold Mac.go PMac.go
    by_cases h0 : m.state = 0
    · rw [if_pos h0, if_pos (by rw [h.state]; exact h0)]
      have hpc := hm.pcok h0
      exact ih _ _ (mok_step hm h0 (hI m.pc hpc).2 hin) (wok_step (hI m.pc hpc).1 (hI m.pc hpc).2 hw hm hin) (sim_step hnum hG hU hI hR hRn hin hm hw h0 h)
    · rw [if_neg h0, if_neg (by rw [h.state]; exact h0)]
      exact h

theorem getD_rep (n j : Nat) : (List.replicate n (0 : Int)).getD j 0 = 0 := by
  by_cases h : j < n <;> simp [List.getD, h]

theorem sto_start {s slots : Nat} (hs : s ≤ 16) (he : s % 2 = 0) (hl : slots ≤ 12) : StoAt s slots (PMac.start s slots).sto := by
  refine ⟨⟨fun j => ?_, fun j => ?_, by simp [PMac.start]; omega, by simp [PMac.start]; omega, by simp [PMac.start]; omega⟩, by simp [PMac.start], by simp [PMac.start]⟩
  · unfold PMac.start; simp only; rw [getD_rep]; omega
  · unfold PMac.start; simp only; rw [getD_rep]; exact ⟨by omega, by omega⟩

theorem get_start (s slots : Nat) (q : LPlace) : getP (PMac.start s slots).sto q = 0 := by
  unfold getP PMac.start
  simp only
  rw [getD_rep, getD_rep, getD_rep, getD_rep]
  split
  · rfl
  split
  · rfl
  split <;> rfl

theorem target_of {s : Int} (h : targetB s = true) : 4 ≤ s ∧ s ≤ 16 ∧ s % 2 = 0 := by
  unfold targetB at h
  simp at h
  omega

/-- What is taken does what the program does. -/
theorem sim_play {B : List Bool} {C : List LIns} {s slots : Nat} {R : List LRow} {num : Int → Prop} (hnum : ∀ x, num x → 0 ≤ x ∧ x < 4294967296) {come : Nat → Prop} {K : Nat → LFact → Prop} {ins : List Int}
    (hmay : placeMayB B C s slots R = true) (hn : ∀ i, i < C.length → 0 ≤ (C.getD i .zero).n ∧ (C.getD i .zero).n < 4294967296)
    (hG : GoodK B C s slots R num come K) (hU : ∀ k, come k → k < C.length → usesK (FactOk B s slots num) (C.getD k .zero) (R.getD k .zero) (K k))
    (hRn : ∀ k, k < C.length → ∀ x, x ∈ (R.getD k .zero).before ∨ x ∈ (R.getD k .zero).after → 0 ≤ x.n ∧ x.n < 4294967296)
    (hin : ∀ j, j < ins.length → 0 ≤ ins.getD j 0 ∧ ins.getD j 0 < 4294967296) (n : Nat) :
    (playP C R s slots ins n).out = (playM B C ins n).out ∧ (playP C R s slots ins n).state = (playM B C ins n).state ∧ (playP C R s slots ins n).steps = (playM B C ins n).steps := by
  unfold placeMayB at hmay
  simp only [Bool.and_eq_true, Bool.not_eq_true', decide_eq_true_eq, decide_eq_false_iff_not, List.all_eq_true, List.mem_range] at hmay
  obtain ⟨⟨⟨⟨⟨h1, h2⟩, h3⟩, h4⟩, h5⟩, h6⟩ := hmay
  have hs := target_of h2
  have hsz : sizesB B C = true := by unfold refMayB at h1; simp only [Bool.and_eq_true] at h1; exact h1.1
  obtain ⟨s1, s2, s3, s4⟩ := sizes_of hsz
  have hok := all_insOk h1 hn
  have hib : ∀ k, k < C.length → insB B C.length (C.getD k .zero) = true := fun k hk => by
    unfold refMayB at h1
    simp only [Bool.and_eq_true] at h1
    exact List.all_eq_true.1 h1.2 (C.getD k .zero) (by simp [List.getD, hk])
  have h0 : Sim B s slots come K (Mac.start B.length) (PMac.start s slots) := by
    refine ⟨rfl, rfl, rfl, rfl, rfl, sto_start (by omega) (by omega) (by omega), fun _ => ⟨hG.c0, fun f hf => ?_⟩⟩
    have hz := hG.beg f hf
    have ht : (Mac.start B.length).temps.getD f.t.toNat 0 = 0 := getD_rep _ _
    unfold Holds
    rw [ht, get_start, hz]
    split
    · rfl
    split <;> rfl
  have := sim_go hnum hG hU (fun k hk => ⟨hib k hk, hok k hk⟩) h6 hRn hin n _ _ (mok_start _ _ _ s3) (wok_start B) h0
  exact ⟨this.out, this.state, this.steps⟩

end Go.Proofs.YtdbjklngnloibabGreat.form

/- Facts that are known ahead of each instruction: the greatest sets; places that are taken; they do what the program does. On plain numbers. -/
namespace Go.Proofs.YtdbjklngnloibabGreat.form
open Go.RowKit Go.Proofs.YtdbjklngnloibabGreat.num
set_option linter.unusedVariables false

/-- The numbers of the program. -/
def NumP (C : List LIns) (x : Int) : Prop := x = 0 ∨ ∃ k, k < C.length ∧ (C.getD k .zero).op = 1 ∧ (C.getD k .zero).n = x

/-- A way leads there, in so many steps. -/
def ReachN (C : List LIns) : Nat → Nat → Prop
  | 0, k => k = 0
  | n + 1, k => ∃ j, ReachN C n j ∧ j < C.length ∧ k ∈ nextsN (C.getD j .zero) j ∧ k < C.length
def Reach (C : List LIns) (k : Nat) : Prop := ∃ n, ReachN C n k

theorem reach_start (C : List LIns) : Reach C 0 := ⟨0, rfl⟩
theorem reach_next {C : List LIns} {j k : Nat} (h : Reach C j) (hj : j < C.length) (hk : k ∈ nextsN (C.getD j .zero) j) (hl : k < C.length) : Reach C k := by
  obtain ⟨n, hn⟩ := h
  exact ⟨n + 1, j, hn, hj, hk, hl⟩
/-- The least one. -/
theorem reach_least {C : List LIns} {P : Nat → Prop} (h0 : P 0) (h : ∀ j k, P j → j < C.length → k ∈ nextsN (C.getD j .zero) j → k < C.length → P k) : ∀ k, Reach C k → P k := by
  have : ∀ n k, ReachN C n k → P k := by
    intro n
    induction n with
    | zero => intro k hk; rw [show k = 0 from hk]; exact h0
    | succ n ih =>
      rintro k ⟨j, hj, hl, hk, hkl⟩
      exact h j k (ih j hj) hl hk hkl
  rintro k ⟨n, hn⟩
  exact this n k hn
theorem reach_lt {C : List LIns} (h1 : 1 ≤ C.length) {k : Nat} (h : Reach C k) : k < C.length := by
  refine reach_least (C := C) (P := fun k => k < C.length) h1 (fun _ _ _ _ _ h => h) k h

theorem moveK_mono {ok : LFact → Prop} {m : LMove} {K K' : LFact → Prop} (h : ∀ f, K f → K' f) {f : LFact} (hf : moveK ok m K f) : moveK ok m K' f := by
  refine ⟨hf.1, ?_⟩
  have hf := hf.2
  split at hf
  · rename_i h1; rw [if_pos h1]; exact h _ hf
  · rename_i h1
    rw [if_neg h1]
    refine ⟨hf.1, ?_⟩
    have hf := hf.2
    split at hf
    · rename_i h2; rw [if_pos h2]; exact h _ hf
    · rename_i h2
      rw [if_neg h2]
      split at hf
      · rename_i h3; rw [if_pos h3]; exact h _ hf
      · rename_i h3; rw [if_neg h3]; exact hf
theorem movesK_mono {ok : LFact → Prop} (l : List LMove) : ∀ {K K' : LFact → Prop}, (∀ f, K f → K' f) → ∀ f, movesK ok l K f → movesK ok l K' f := by
  induction l with
  | nil => exact fun h f hf => h f hf
  | cons m l ih => exact fun h f hf => ih (fun f hf => moveK_mono h hf) f hf
theorem insK_mono {ok : LFact → Prop} {i : LIns} {L : LPlace} {K K' : LFact → Prop} (h : ∀ f, K f → K' f) {f : LFact} (hf : insK ok i L K f) : insK ok i L K' f := by
  refine ⟨hf.1, ?_⟩
  have hf := hf.2
  split at hf
  · rename_i h1; rw [if_pos h1]; trivial
  rename_i h1
  rw [if_neg h1]
  split at hf
  · rename_i h2; rw [if_pos h2]; exact h _ hf
  rename_i h2
  rw [if_neg h2]
  split at hf
  · rename_i h3; rw [if_pos h3]; exact h _ hf
  rename_i h3
  rw [if_neg h3]
  split at hf
  · rename_i h4; rw [if_pos h4]; exact h _ hf
  rename_i h4
  rw [if_neg h4]
  split at hf
  · rename_i h5; rw [if_pos h5]; exact hf
  rename_i h5
  rw [if_neg h5]
  split at hf
  · rename_i h6; rw [if_pos h6]; trivial
  rename_i h6
  rw [if_neg h6]
  exact ⟨h _ hf.1, hf.2⟩
theorem thruK_mono {ok : LFact → Prop} {i : LIns} {r : LRow} {K K' : LFact → Prop} (h : ∀ f, K f → K' f) {f : LFact} (hf : thruK ok i r K f) : thruK ok i r K' f := by
  unfold thruK at hf ⊢
  refine movesK_mono _ (fun g hg => ?_) f hf
  split at hg
  · rename_i h1; rw [if_pos h1]; exact insK_mono (movesK_mono _ h) hg
  · rename_i h1; rw [if_neg h1]; exact movesK_mono _ h g hg
theorem usesK_mono {ok : LFact → Prop} {i : LIns} {r : LRow} {K K' : LFact → Prop} (h : ∀ f, K f → K' f) (hu : usesK ok i r K) : usesK ok i r K' :=
  ⟨fun hp => movesK_mono _ h _ (hu.1 hp), fun hp => movesK_mono _ h _ (hu.2 hp)⟩

/-- The greatest sets. -/
def Known (B : List Bool) (C : List LIns) (s slots : Int) (R : List LRow) (k : Nat) (f : LFact) : Prop := ∃ K, GoodK B C s slots R (NumP C) (Reach C) K ∧ K k f

theorem known_good (B : List Bool) (C : List LIns) (s slots : Int) (R : List LRow) : GoodK B C s slots R (NumP C) (Reach C) (Known B C s slots R) := by
  refine ⟨reach_start C, ?_, ?_, ?_⟩
  · rintro k f ⟨K, hK, hf⟩; exact hK.ok k f hf
  · rintro f ⟨K, hK, hf⟩; exact hK.beg f hf
  · intro k x hk hl hx hxl
    refine ⟨reach_next hk hl hx hxl, ?_⟩
    rintro f ⟨K, hK, hf⟩
    exact thruK_mono (fun g hg => ⟨K, hK, hg⟩) ((hK.next k x hk hl hx hxl).2 f hf)

/-- Places that are taken. -/
def TakenP (B : List Bool) (C : List LIns) (s slots : Int) (R : List LRow) : Prop :=
  placeMayB B C s slots R = true ∧ ∀ k, Reach C k → k < C.length → usesK (FactOk B s slots (NumP C)) (C.getD k .zero) (R.getD k .zero) (Known B C s slots R k)

theorem num_bd {C : List LIns} (hn : ∀ i, i < C.length → 0 ≤ (C.getD i .zero).n ∧ (C.getD i .zero).n < 4294967296) : ∀ x, NumP C x → 0 ≤ x ∧ x < 4294967296 := by
  rintro x (rfl | ⟨k, hk, _, rfl⟩)
  · omega
  · exact hn k hk

/-- What is taken does what the program does. -/
theorem taken_same {B : List Bool} {C : List LIns} {s slots : Nat} {R : List LRow} {ins : List Int} (ht : TakenP B C s slots R) (hn : ∀ i, i < C.length → 0 ≤ (C.getD i .zero).n ∧ (C.getD i .zero).n < 4294967296)
    (hRn : ∀ k, k < C.length → ∀ x, x ∈ (R.getD k .zero).before ∨ x ∈ (R.getD k .zero).after → 0 ≤ x.n ∧ x.n < 4294967296)
    (hin : ∀ j, j < ins.length → 0 ≤ ins.getD j 0 ∧ ins.getD j 0 < 4294967296) (n : Nat) :
    (playP C R s slots ins n).out = (playM B C ins n).out ∧ (playP C R s slots ins n).state = (playM B C ins n).state ∧ (playP C R s slots ins n).steps = (playM B C ins n).steps :=
  sim_play (num_bd hn) ht.1 hn (known_good B C s slots R) ht.2 hRn hin n

/-- Sets that were found: within them are the greatest ones, and they go on as they must. -/
theorem found_known {B : List Bool} {C : List LIns} {s slots : Int} {R : List LRow} {S : Nat → LFact → Prop} (hok : ∀ k f, S k f → FactOk B s slots (NumP C) f) (hbeg : ∀ f, S 0 f → f.n = 0)
    (hnext : ∀ k x, Reach C k → k < C.length → x ∈ nextsN (C.getD k .zero) k → x < C.length → ∀ f, S x f → thruK (FactOk B s slots (NumP C)) (C.getD k .zero) (R.getD k .zero) (S k) f)
    (hup : ∀ k f, Reach C k → Known B C s slots R k f → S k f) {k : Nat} (hk : Reach C k) (f : LFact) : S k f ↔ Known B C s slots R k f :=
  ⟨fun h => ⟨S, ⟨reach_start C, hok, hbeg, fun k x hk hl hx hxl => ⟨reach_next hk hl hx hxl, hnext k x hk hl hx hxl⟩⟩, h⟩, hup k f hk⟩

end Go.Proofs.YtdbjklngnloibabGreat.form

/- All facts that may be, in their order, as a list on plain numbers; the numbers of a program, rising. -/
namespace Go.Proofs.YtdbjklngnloibabGreat.form
open Go.RowKit Go.Proofs.YtdbjklngnloibabGreat.num
set_option linter.unusedVariables false

/-- A number put into rising ones. -/
def insN (n : Int) : List Int → List Int
  | [] => [n]
  | x :: l => if x < n then x :: insN n l else if x = n then x :: l else n :: x :: l

theorem mem_insN {n y : Int} : ∀ {l : List Int}, y ∈ insN n l ↔ y = n ∨ y ∈ l
  | [] => by simp [insN]
  | x :: l => by
    unfold insN
    split
    · rw [List.mem_cons, mem_insN, List.mem_cons]
      constructor
      · rintro (h | h | h)
        · exact Or.inr (Or.inl h)
        · exact Or.inl h
        · exact Or.inr (Or.inr h)
      · rintro (h | h | h)
        · exact Or.inr (Or.inl h)
        · exact Or.inl h
        · exact Or.inr (Or.inr h)
    · split
      · rename_i h
        subst h
        simp
      · simp

theorem insN_sorted {n : Int} : ∀ {l : List Int}, l.Pairwise (· < ·) → (insN n l).Pairwise (· < ·)
  | [], _ => by simp [insN]
  | x :: l, h => by
    unfold insN
    rw [List.pairwise_cons] at h
    split
    · rename_i h1
      rw [List.pairwise_cons]
      refine ⟨fun y hy => ?_, insN_sorted h.2⟩
      rcases mem_insN.1 hy with rfl | hy
      · exact h1
      · exact h.1 y hy
    · split
      · rw [List.pairwise_cons]; exact h
      · rw [List.pairwise_cons, List.pairwise_cons]
        refine ⟨fun y hy => ?_, h⟩
        rcases List.mem_cons.1 hy with rfl | hy
        · omega
        · have := h.1 y hy; omega

/-- Where it goes. -/
theorem insN_at {n : Int} : ∀ {l : List Int} {k : Nat}, (∀ j, j < k → l.getD j 0 < n) → k ≤ l.length → (k < l.length → ¬ l.getD k 0 < n) → insN n l = if k < l.length ∧ l.getD k 0 = n then l else l.take k ++ n :: l.drop k
  | [], k, _, hk, _ => by
    have : k = 0 := by simpa using hk
    subst this
    simp [insN]
  | x :: l, 0, _, _, h => by
    have h0 := h (by simp)
    simp at h0
    unfold insN
    rw [if_neg (by omega)]
    by_cases e : x = n
    · simp [e]
    · simp [e]
  | x :: l, k + 1, h1, hk, h2 => by
    have h0 := h1 0 (by omega)
    simp at h0
    unfold insN
    rw [if_pos h0, insN_at (l := l) (k := k) (fun j hj => by have := h1 (j + 1) (by omega); simpa using this) (by simpa using hk) (fun hl => by have := h2 (by simpa using hl); simpa using this)]
    simp only [List.length_cons, Nat.add_lt_add_iff_right, List.getD_cons_succ, List.take_succ_cons, List.drop_succ_cons]
    split <;> simp

/-- The numbers of a program, rising. -/
def numsL (C : List LIns) : List Int := C.foldl (fun l i => if i.op = 1 then insN i.n l else l) [0]

theorem nums_fold (C : List LIns) : ∀ (l : List Int), l.Pairwise (· < ·) → (C.foldl (fun l i => if i.op = 1 then insN i.n l else l) l).Pairwise (· < ·) ∧ ∀ x, x ∈ C.foldl (fun l i => if i.op = 1 then insN i.n l else l) l ↔ x ∈ l ∨ ∃ i, i ∈ C ∧ i.op = 1 ∧ i.n = x := by
  induction C with
  | nil => exact fun l h => ⟨h, fun x => by simp⟩
  | cons i C ih =>
    intro l h
    simp only [List.foldl_cons]
    by_cases e : i.op = 1
    · rw [if_pos e]
      obtain ⟨a, b⟩ := ih (insN i.n l) (insN_sorted h)
      refine ⟨a, fun x => ?_⟩
      rw [b, mem_insN]
      constructor
      · rintro ((rfl | h1) | ⟨i', h1, h2, h3⟩)
        · exact Or.inr ⟨i, by simp, e, rfl⟩
        · exact Or.inl h1
        · exact Or.inr ⟨i', by simp [h1], h2, h3⟩
      · rintro (h1 | ⟨i', h1, h2, h3⟩)
        · exact Or.inl (Or.inr h1)
        · rcases List.mem_cons.1 h1 with rfl | h1
          · exact Or.inl (Or.inl h3.symm)
          · exact Or.inr ⟨i', h1, h2, h3⟩
    · rw [if_neg e]
      obtain ⟨a, b⟩ := ih l h
      refine ⟨a, fun x => ?_⟩
      rw [b]
      constructor
      · rintro (h1 | ⟨i', h1, h2, h3⟩)
        · exact Or.inl h1
        · exact Or.inr ⟨i', by simp [h1], h2, h3⟩
      · rintro (h1 | ⟨i', h1, h2, h3⟩)
        · exact Or.inl h1
        · rcases List.mem_cons.1 h1 with rfl | h1
          · exact absurd h2 e
          · exact Or.inr ⟨i', h1, h2, h3⟩

theorem nums_sorted (C : List LIns) : (numsL C).Pairwise (· < ·) := (nums_fold C [0] (by simp)).1
theorem nums_mem (C : List LIns) (x : Int) : x ∈ numsL C ↔ NumP C x := by
  unfold numsL NumP
  rw [(nums_fold C [0] (by simp)).2]
  constructor
  · rintro (h | ⟨i, h, h2, h3⟩)
    · exact Or.inl (by simpa using h)
    · obtain ⟨k, hk, rfl⟩ := List.getElem_of_mem h
      exact Or.inr ⟨k, hk, by simpa [List.getD, hk] using h2, by simpa [List.getD, hk] using h3⟩
  · rintro (h | ⟨k, hk, h2, h3⟩)
    · exact Or.inl (by simp [h])
    · exact Or.inr ⟨C.getD k .zero, by simp [List.getD, hk], h2, h3⟩

theorem insN_len (n : Int) : ∀ l : List Int, (insN n l).length ≤ l.length + 1
  | [] => by simp [insN]
  | x :: l => by
    unfold insN
    split
    · have := insN_len n l; simp; omega
    · split <;> simp
theorem nums_len (C : List LIns) : (numsL C).length ≤ C.length + 1 := by
  have : ∀ (C : List LIns) (l : List Int), (C.foldl (fun l i => if i.op = 1 then insN i.n l else l) l).length ≤ C.length + l.length := by
    intro C
    induction C with
    | nil => intro l; simp
    | cons i C ih =>
      intro l
      simp only [List.foldl_cons, List.length_cons]
      refine Nat.le_trans (ih _) ?_
      split
      · have := insN_len i.n l; omega
      · omega
  exact this C [0]

/-- May a place have a temporary? -/
def mayK (B : List Bool) (kind : Int) (x : Nat) : Bool := (kind == 3) || ((kind == 1) && !(B.getD x false)) || ((kind == 2) && B.getD x false)

def tempF (B : List Bool) (N : List Int) (x : Nat) : List LFact := if B.getD x false = true then [] else N.map fun n => ⟨.zero, true, x, n⟩
def placeF (B : List Bool) (N : List Int) (kind : Int) (n : Nat) : List LFact :=
  (if kind = 2 then [] else N.map fun v => ⟨⟨kind, n⟩, false, 0, v⟩) ++ ((List.range B.length).filter (mayK B kind)).map fun (x : Nat) => (⟨⟨kind, n⟩, true, x, 0⟩ : LFact)
def kindF (B : List Bool) (N : List Int) (kind : Int) (many : Nat) : List LFact := (List.range many).flatMap (placeF B N kind)
def allF (B : List Bool) (N : List Int) (s slots : Nat) : List LFact :=
  (List.range B.length).flatMap (tempF B N) ++ kindF B N 1 s ++ kindF B N 2 (s / 2) ++ kindF B N 3 slots

theorem mem_tempF {B : List Bool} {N : List Int} {x : Nat} {f : LFact} : f ∈ tempF B N x ↔ B.getD x false = false ∧ f.pl = .zero ∧ f.temp = true ∧ f.t = x ∧ f.n ∈ N := by
  unfold tempF
  cases h : B.getD x false with
  | true => simp
  | false =>
    simp only [Bool.false_eq_true, if_false, List.mem_map]
    constructor
    · rintro ⟨n, hn, rfl⟩; exact ⟨trivial, rfl, rfl, rfl, hn⟩
    · rintro ⟨_, h1, h2, h3, h4⟩
      obtain ⟨p, t, x', n⟩ := f
      simp only at h1 h2 h3 h4
      subst h1 h2 h3
      exact ⟨n, h4, rfl⟩

theorem mem_placeF {B : List Bool} {N : List Int} {kind : Int} {n : Nat} {f : LFact} : f ∈ placeF B N kind n ↔ f.pl = ⟨kind, n⟩ ∧ ((¬ kind = 2 ∧ f.temp = false ∧ f.t = 0 ∧ f.n ∈ N) ∨ (f.temp = true ∧ f.n = 0 ∧ ∃ x : Nat, x < B.length ∧ f.t = x ∧ mayK B kind x = true)) := by
  unfold placeF
  rw [List.mem_append]
  constructor
  · rintro (h | h)
    · split at h
      · simp at h
      · rename_i hk
        obtain ⟨v, hv, rfl⟩ := List.mem_map.1 h
        exact ⟨rfl, Or.inl ⟨hk, rfl, rfl, hv⟩⟩
    · obtain ⟨x, hx, rfl⟩ := List.mem_map.1 h
      rw [List.mem_filter, List.mem_range] at hx
      exact ⟨rfl, Or.inr ⟨rfl, rfl, x, hx.1, rfl, hx.2⟩⟩
  · obtain ⟨p, t, x', v⟩ := f
    rintro ⟨h, ⟨hk, h1, h2, h3⟩ | ⟨h1, h2, x, hx, h3, h4⟩⟩
    · simp only at h h1 h2 h3
      subst h h1 h2
      rw [if_neg hk]
      exact Or.inl (List.mem_map.2 ⟨v, h3, rfl⟩)
    · simp only at h h1 h2 h3
      subst h h1 h2 h3
      exact Or.inr (List.mem_map.2 ⟨x, by rw [List.mem_filter, List.mem_range]; exact ⟨hx, h4⟩, rfl⟩)

theorem mem_kindF {B : List Bool} {N : List Int} {kind : Int} {many : Nat} {f : LFact} : f ∈ kindF B N kind many ↔ ∃ n : Nat, n < many ∧ f ∈ placeF B N kind n := by
  unfold kindF
  rw [List.mem_flatMap]
  constructor
  · rintro ⟨n, hn, h⟩; exact ⟨n, by simpa using hn, h⟩
  · rintro ⟨n, hn, h⟩; exact ⟨n, by simpa using hn, h⟩

theorem pl_ext {p q : LPlace} (h1 : p.kind = q.kind) (h2 : p.n = q.n) : p = q := by
  obtain ⟨a, b⟩ := p
  obtain ⟨c, d⟩ := q
  simp only at h1 h2
  rw [h1, h2]

/-- They are those that may be. -/
theorem mem_allF {B : List Bool} {N : List Int} {s slots : Nat} (hs : s % 2 = 0) (hs2 : s ≤ 16) {f : LFact} : f ∈ allF B N s slots ↔ FactOk B s slots (· ∈ N) f := by
  unfold allF
  simp only [List.mem_append, List.mem_flatMap, List.mem_range, mem_tempF, mem_kindF, mem_placeF]
  constructor
  · rintro (((⟨x, hx, h0, h1, h2, h3, h4⟩ | ⟨n, hn, h1, h⟩) | ⟨n, hn, h1, h⟩) | ⟨n, hn, h1, h⟩)
    · have hk : f.pl.kind = 0 := by rw [h1]; rfl
      have hk2 : f.pl.n = 0 := by rw [h1]; rfl
      exact ⟨Or.inl ⟨hk, hk2, h2⟩, fun _ => by omega, fun _ _ => by rw [h3]; simpa using h0, fun _ e => by omega, fun _ => h4, fun e => absurd hk e, fun e => by rw [h2] at e; exact absurd e (by simp), fun e => by rw [h2] at e; exact absurd e (by simp)⟩
    · have hk : f.pl.kind = 1 := by rw [h1]
      have hn' : f.pl.n = n := by rw [h1]
      have his : isB s slots f.pl = true := by unfold isB; rw [if_pos hk]; simp; omega
      rcases h with ⟨h2, h3, h4, h5⟩ | ⟨h2, h3, x, hx, h4, h5⟩
      · exact ⟨Or.inr his, fun e => by rw [h3] at e; exact absurd e (by simp), fun e => by rw [h3] at e; exact absurd e (by simp), fun e => by rw [h3] at e; exact absurd e (by simp), fun _ => h5, fun _ e => by rw [h3] at e; exact absurd e (by simp), fun _ => h4, fun _ => by omega⟩
      · unfold mayK at h5
        simp at h5
        exact ⟨Or.inr his, fun _ => by omega, fun _ _ => by rw [h4]; simpa using h5, fun _ e => by omega, fun e => by rcases e with e | e; omega; rw [h2] at e; exact absurd e (by simp), fun _ _ => h3, fun e => by rw [h2] at e; exact absurd e (by simp), fun e => by rw [h2] at e; exact absurd e (by simp)⟩
    · have hk : f.pl.kind = 2 := by rw [h1]
      have hn' : f.pl.n = n := by rw [h1]
      have his : isB s slots f.pl = true := by unfold isB; rw [if_neg (by omega), if_pos hk]; simp; omega
      rcases h with ⟨h2, h3, h4, h5⟩ | ⟨h2, h3, x, hx, h4, h5⟩
      · exact absurd trivial h2
      · unfold mayK at h5
        simp at h5
        exact ⟨Or.inr his, fun _ => by omega, fun _ e => by omega, fun _ _ => by rw [h4]; simpa using h5, fun e => by rcases e with e | e; omega; rw [h2] at e; exact absurd e (by simp), fun _ _ => h3, fun e => by rw [h2] at e; exact absurd e (by simp), fun e => by rw [h2] at e; exact absurd e (by simp)⟩
    · have hk : f.pl.kind = 3 := by rw [h1]
      have hn' : f.pl.n = n := by rw [h1]
      have his : isB s slots f.pl = true := by unfold isB; rw [if_neg (by omega), if_neg (by omega), if_pos hk]; simp; omega
      rcases h with ⟨h2, h3, h4, h5⟩ | ⟨h2, h3, x, hx, h4, h5⟩
      · exact ⟨Or.inr his, fun e => by rw [h3] at e; exact absurd e (by simp), fun e => by rw [h3] at e; exact absurd e (by simp), fun e => by rw [h3] at e; exact absurd e (by simp), fun _ => h5, fun _ e => by rw [h3] at e; exact absurd e (by simp), fun _ => h4, fun _ => by omega⟩
      · exact ⟨Or.inr his, fun _ => by omega, fun _ e => by omega, fun _ e => by omega, fun e => by rcases e with e | e; omega; rw [h2] at e; exact absurd e (by simp), fun _ _ => h3, fun e => by rw [h2] at e; exact absurd e (by simp), fun e => by rw [h2] at e; exact absurd e (by simp)⟩
  · intro h
    by_cases h0 : f.pl.kind = 0
    · have hp : f.pl.n = 0 ∧ f.temp = true := by rcases h.pl with hp | hp; exact hp.2; exact absurd h0 (is_kind hp)
      obtain ⟨t0, t1⟩ := h.t hp.2
      refine Or.inl (Or.inl (Or.inl ⟨f.t.toNat, by omega, ?_, pl_ext h0 hp.1, hp.2, by omega, h.num (Or.inl h0)⟩))
      exact h.nar hp.2 (Or.inl h0)
    · have his : isB s slots f.pl = true := by rcases h.pl with hp | hp; exact absurd hp.1 h0; exact hp
      rcases is_cases his with ⟨e, a, b⟩ | ⟨e, a, b⟩ | ⟨e, a, b⟩
      · refine Or.inl (Or.inl (Or.inr ⟨f.pl.n.toNat, by omega, pl_ext e (by simp only; omega), ?_⟩))
        cases ht : f.temp with
        | false => exact Or.inl ⟨by omega, rfl, h.zt ht, h.num (Or.inr ht)⟩
        | true =>
          obtain ⟨t0, t1⟩ := h.t ht
          refine Or.inr ⟨rfl, h.zn h0 ht, f.t.toNat, by omega, by omega, ?_⟩
          have := h.nar ht (Or.inr e)
          unfold mayK
          rw [this]
          rfl
      · refine Or.inl (Or.inr ⟨f.pl.n.toNat, by omega, pl_ext e (by simp only; omega), ?_⟩)
        cases ht : f.temp with
        | false => exact absurd e (h.dbl ht)
        | true =>
          obtain ⟨t0, t1⟩ := h.t ht
          refine Or.inr ⟨rfl, h.zn h0 ht, f.t.toNat, by omega, by omega, ?_⟩
          have := h.wid ht e
          unfold mayK
          rw [this]
          rfl
      · refine Or.inr ⟨f.pl.n.toNat, by omega, pl_ext e (by simp only; omega), ?_⟩
        cases ht : f.temp with
        | false => exact Or.inl ⟨by omega, rfl, h.zt ht, h.num (Or.inr ht)⟩
        | true =>
          obtain ⟨t0, t1⟩ := h.t ht
          exact Or.inr ⟨rfl, h.zn h0 ht, f.t.toNat, by omega, by omega, rfl⟩

/-- Their order. -/
def factLt (f g : LFact) : Prop :=
  f.pl.kind < g.pl.kind ∨ (f.pl.kind = g.pl.kind ∧ (f.pl.n < g.pl.n ∨ (f.pl.n = g.pl.n ∧ ((f.temp = false ∧ g.temp = true) ∨ (f.temp = g.temp ∧ (f.t < g.t ∨ (f.t = g.t ∧ f.n < g.n)))))))

theorem factLt_ne {f : LFact} : ¬ factLt f f := by
  unfold factLt
  rintro (h | ⟨_, h | ⟨_, ⟨h1, h2⟩ | ⟨_, h | ⟨_, h⟩⟩⟩⟩)
  · omega
  · omega
  · rw [h1] at h2; exact absurd h2 (by simp)
  · omega
  · omega

theorem place_sorted {B : List Bool} {N : List Int} (hN : N.Pairwise (· < ·)) (kind : Int) (n : Nat) : (placeF B N kind n).Pairwise factLt := by
  unfold placeF
  rw [List.pairwise_append]
  refine ⟨?_, ?_, ?_⟩
  · split
    · exact List.Pairwise.nil
    · rw [List.pairwise_map]
      exact hN.imp (fun {a b} h => Or.inr ⟨rfl, Or.inr ⟨rfl, Or.inr ⟨rfl, Or.inr ⟨rfl, h⟩⟩⟩⟩)
  · rw [List.pairwise_map]
    refine (List.pairwise_lt_range.filter _).imp (fun {a b} h => Or.inr ⟨rfl, Or.inr ⟨rfl, Or.inr ⟨rfl, Or.inl ?_⟩⟩⟩)
    show (a : Int) < (b : Int)
    omega
  · intro f hf g hg
    split at hf
    · simp at hf
    · obtain ⟨v, _, rfl⟩ := List.mem_map.1 hf
      obtain ⟨x, _, rfl⟩ := List.mem_map.1 hg
      exact Or.inr ⟨rfl, Or.inr ⟨rfl, Or.inl ⟨rfl, rfl⟩⟩⟩

theorem kind_sorted {B : List Bool} {N : List Int} (hN : N.Pairwise (· < ·)) (kind : Int) (many : Nat) : (kindF B N kind many).Pairwise factLt := by
  unfold kindF
  rw [List.pairwise_flatMap]
  refine ⟨fun n _ => place_sorted hN kind n, ?_⟩
  refine List.pairwise_lt_range.imp (fun {a b} h f hf g hg => ?_)
  have h1 := (mem_placeF.1 hf).1
  have h2 := (mem_placeF.1 hg).1
  exact Or.inr ⟨by rw [h1, h2], Or.inl (by rw [h1, h2]; simp only; omega)⟩

theorem temp_sorted {B : List Bool} {N : List Int} (hN : N.Pairwise (· < ·)) : ((List.range B.length).flatMap (tempF B N)).Pairwise factLt := by
  rw [List.pairwise_flatMap]
  refine ⟨fun x _ => ?_, ?_⟩
  · unfold tempF
    split
    · exact List.Pairwise.nil
    · rw [List.pairwise_map]
      exact hN.imp (fun {a b} h => Or.inr ⟨rfl, Or.inr ⟨rfl, Or.inr ⟨rfl, Or.inr ⟨rfl, h⟩⟩⟩⟩)
  · refine List.pairwise_lt_range.imp (fun {a b} h f hf g hg => ?_)
    obtain ⟨_, h1, h2, h3, _⟩ := mem_tempF.1 hf
    obtain ⟨_, k1, k2, k3, _⟩ := mem_tempF.1 hg
    exact Or.inr ⟨by rw [h1, k1], Or.inr ⟨by rw [h1, k1], Or.inr ⟨by rw [h2, k2], Or.inl (by rw [h3, k3]; omega)⟩⟩⟩

theorem all_sorted {B : List Bool} {N : List Int} (hN : N.Pairwise (· < ·)) (s slots : Nat) : (allF B N s slots).Pairwise factLt := by
  have hk : ∀ kind many f, f ∈ kindF B N kind many → f.pl.kind = kind := fun kind many f hf => by
    obtain ⟨n, _, h⟩ := mem_kindF.1 hf
    rw [(mem_placeF.1 h).1]
  have h0 : ∀ f, f ∈ (List.range B.length).flatMap (tempF B N) → f.pl.kind = 0 := fun f hf => by
    obtain ⟨x, _, h⟩ := List.mem_flatMap.1 hf
    rw [(mem_tempF.1 h).2.1]; rfl
  unfold allF
  rw [List.pairwise_append, List.pairwise_append, List.pairwise_append]
  refine ⟨⟨⟨temp_sorted hN, kind_sorted hN 1 s, fun f hf g hg => Or.inl (by rw [h0 f hf, hk _ _ g hg]; omega)⟩, kind_sorted hN 2 _, fun f hf g hg => Or.inl ?_⟩, kind_sorted hN 3 _, fun f hf g hg => Or.inl ?_⟩
  · rw [hk _ _ g hg]
    rcases List.mem_append.1 hf with hf | hf
    · rw [h0 f hf]; omega
    · rw [hk _ _ f hf]; omega
  · rw [hk _ _ g hg]
    rcases List.mem_append.1 hf with hf | hf
    · rcases List.mem_append.1 hf with hf | hf
      · rw [h0 f hf]; omega
      · rw [hk _ _ f hf]; omega
    · rw [hk _ _ f hf]; omega

/-- Each stands once. -/
theorem sorted_inj {F : List LFact} (h : F.Pairwise factLt) {i j : Nat} {f : LFact} (hi : F[i]? = some f) (hj : F[j]? = some f) : i = j := by
  obtain ⟨hi', rfl⟩ := List.getElem?_eq_some_iff.1 hi
  obtain ⟨hj', e⟩ := List.getElem?_eq_some_iff.1 hj
  rw [List.pairwise_iff_getElem] at h
  rcases Nat.lt_trichotomy i j with hlt | hlt | hlt
  · have := h i j hi' hj' hlt
    rw [e] at this
    exact absurd this factLt_ne
  · exact hlt
  · have := h j i hj' hi' hlt
    rw [e] at this
    exact absurd this factLt_ne

end Go.Proofs.YtdbjklngnloibabGreat.form
