/- Facts on plain numbers: what a fact says of temporaries and a store; what is known behind a move and behind an instruction is so. -/
import Derived.Test.YtcmnmogmdhofcaaB09
import Derived.Test.YtcmnmogmdhofcaaB05
import Derived.Test.YtcmnmogmdhofcaaB06

namespace Go.Proofs.Ytcmnmogmdhofcaa.form
open Go.RowKit Go.Proofs.Ytcmnmogmdhofcaa.num
set_option linter.unusedVariables false

structure LFact where
  pl : LPlace
  temp : Bool
  t : Int
  n : Int

/-- What a fact says of temporaries and a store. -/
def Holds (ts : List Int) (st : Sto) (f : LFact) : Prop :=
  if f.pl.kind = 0 then ts.getD f.t.toNat 0 = f.n else if f.temp = true then getP st f.pl = ts.getD f.t.toNat 0 else getP st f.pl = f.n

/-- Facts that may be. -/
structure FactOk (B : List Bool) (s slots : Int) (num : Int → Prop) (f : LFact) : Prop where
  pl : (f.pl.kind = 0 ∧ f.pl.n = 0 ∧ f.temp = true) ∨ isB s slots f.pl = true
  t : f.temp = true → 0 ≤ f.t ∧ f.t < B.length
  nar : f.temp = true → f.pl.kind = 0 ∨ f.pl.kind = 1 → B.getD f.t.toNat false = false
  wid : f.temp = true → f.pl.kind = 2 → B.getD f.t.toNat false = true
  num : f.pl.kind = 0 ∨ f.temp = false → num f.n
  zn : ¬ f.pl.kind = 0 → f.temp = true → f.n = 0
  zt : f.temp = false → f.t = 0
  dbl : f.temp = false → ¬ f.pl.kind = 2

def zeroAt (t n : Int) : LFact := ⟨.zero, true, t, n⟩

def samePl (a b : LPlace) : Bool := (a.kind == b.kind) && (a.n == b.n)
theorem samePl_eq {a b : LPlace} (h : samePl a b = true) : a = b := by
  obtain ⟨x, y⟩ := a
  obtain ⟨z, u⟩ := b
  unfold samePl at h
  simp at h
  rw [h.1, h.2]

/-- What is known behind a move. -/
def moveK (ok : LFact → Prop) (m : LMove) (K : LFact → Prop) (f : LFact) : Prop :=
  ok f ∧ (if f.pl.kind = 0 ∨ overB f.pl m.dst = false then K f
    else samePl f.pl m.dst = true ∧ (if m.cst = false then K ⟨m.src, f.temp, f.t, f.n⟩ else if f.temp = true then K (zeroAt f.t m.n) else f.n = m.n))

/-- What is known behind an instruction that gives. -/
def insK (ok : LFact → Prop) (i : LIns) (L : LPlace) (K : LFact → Prop) (f : LFact) : Prop :=
  ok f ∧
  (if i.op = 2 ∧ samePl f.pl L = true ∧ f.temp = true ∧ f.t = i.a then True
   else if i.op = 2 ∧ samePl f.pl L = true ∧ f.temp = false then K (zeroAt i.a f.n)
   else if i.op = 2 ∧ (f.temp = true ∧ f.t = i.dest) ∧ (f.pl.kind = 0 ∨ overB f.pl L = false) then K ⟨f.pl, f.temp, i.a, f.n⟩
   else if i.op = 1 ∧ (f.temp = true ∧ f.t = i.dest) ∧ ¬ f.pl.kind = 0 ∧ overB f.pl L = false then K ⟨f.pl, false, 0, i.n⟩
   else if i.op = 1 ∧ (((f.temp = true ∧ f.t = i.dest) ∧ f.pl.kind = 0) ∨ (samePl f.pl L = true ∧ f.temp = false)) then f.n = i.n
   else if samePl f.pl L = true ∧ (f.temp = true ∧ f.t = i.dest) ∧ ¬ f.pl.kind = 0 then True
   else K f ∧ ¬ (f.temp = true ∧ f.t = i.dest) ∧ (f.pl.kind = 0 ∨ overB f.pl L = false))

/-- A place that is there, by its kind. -/
theorem is_cases {s slots : Int} {p : LPlace} (h : isB s slots p = true) : (p.kind = 1 ∧ 0 ≤ p.n ∧ p.n < s) ∨ (p.kind = 2 ∧ 0 ≤ p.n ∧ 2 * p.n < s) ∨ (p.kind = 3 ∧ 0 ≤ p.n ∧ p.n < slots) := by
  unfold isB at h
  by_cases e1 : p.kind = 1
  · rw [if_pos e1] at h; simp at h; exact Or.inl ⟨e1, by omega, by omega⟩
  · rw [if_neg e1] at h
    by_cases e2 : p.kind = 2
    · rw [if_pos e2] at h; simp at h; exact Or.inr (Or.inl ⟨e2, by omega, by omega⟩)
    · rw [if_neg e2] at h
      by_cases e3 : p.kind = 3
      · rw [if_pos e3] at h; simp at h; exact Or.inr (Or.inr ⟨e3, by omega, by omega⟩)
      · rw [if_neg e3] at h; exact absurd h (by simp)

theorem is_kind {s slots : Int} {p : LPlace} (h : isB s slots p = true) : ¬ p.kind = 0 := by rcases is_cases h with h | h | h <;> omega

/-- A store of a machine. -/
structure StoAt (s slots : Int) (st : Sto) : Prop where
  ok : StoOk st
  sl : (st.sing.length : Int) = s
  ll : (st.slot.length : Int) = slots

theorem getD_set_ne {l : List Int} {i j : Nat} {x : Int} (h : i ≠ j) : (l.set i x).getD j 0 = l.getD j 0 := by simp [List.getD, h]
theorem getD_set_eq {l : List Int} {i : Nat} {x : Int} (h : i < l.length) : (l.set i x).getD i 0 = x := by simp [List.getD, h]

theorem get_one {st : Sto} {q : LPlace} (e : q.kind = 1) : getP st q = st.sing.getD q.n.toNat 0 := by unfold getP; rw [if_pos e]
theorem get_two {st : Sto} {q : LPlace} (e : q.kind = 2) : getP st q = st.sing.getD (2 * q.n + 1).toNat 0 * 4294967296 + st.sing.getD (2 * q.n).toNat 0 := by unfold getP; rw [if_neg (by omega), if_pos e]
theorem get_three {st : Sto} {q : LPlace} (e : q.kind = 3) : getP st q = st.slot.getD q.n.toNat 0 := by unfold getP; rw [if_neg (by omega), if_neg (by omega), if_pos e]
theorem put_one {st : Sto} {p : LPlace} {v : Int} (e : p.kind = 1) : putP st p v = ⟨st.sing.set p.n.toNat (v % 4294967296), st.slot⟩ := by unfold putP; rw [if_pos e]
theorem put_two {st : Sto} {p : LPlace} {v : Int} (e : p.kind = 2) : putP st p v = ⟨(st.sing.set (2 * p.n).toNat (v % 4294967296)).set (2 * p.n + 1).toNat (v / 4294967296), st.slot⟩ := by unfold putP; rw [if_neg (by omega), if_pos e]
theorem put_three {st : Sto} {p : LPlace} {v : Int} (e : p.kind = 3) : putP st p v = ⟨st.sing, st.slot.set p.n.toNat v⟩ := by unfold putP; rw [if_neg (by omega), if_neg (by omega), if_pos e]

/-- What is put in a place is there: as much of it as goes in. -/
theorem get_put_same {s slots : Int} {st : Sto} {p : LPlace} (h : StoAt s slots st) (hp : isB s slots p = true) (v : Int) (hv : U64i v) : getP (putP st p v) p = if p.kind = 1 then v % 4294967296 else v := by
  have h1 := h.sl
  have h2 := h.ll
  have hev := h.ok.ev
  obtain ⟨v0, v1⟩ := hv
  rcases is_cases hp with ⟨e, a, b⟩ | ⟨e, a, b⟩ | ⟨e, a, b⟩
  · rw [put_one e, get_one e, if_pos e]
    exact getD_set_eq (by omega)
  · rw [put_two e, get_two e, if_neg (by omega)]
    simp only
    rw [getD_set_eq (by simp; omega), getD_set_ne (by omega), getD_set_eq (by omega)]
    omega
  · rw [put_three e, get_three e, if_neg (by omega)]
    exact getD_set_eq (by omega)

/-- What does not overlap stays. -/
theorem get_put_far {s slots : Int} {st : Sto} {p q : LPlace} (hp : isB s slots p = true) (hq : isB s slots q = true) (ho : overB q p = false) (v : Int) : getP (putP st p v) q = getP st q := by
  unfold overB at ho
  rcases is_cases hp with ⟨e, a, b⟩ | ⟨e, a, b⟩ | ⟨e, a, b⟩ <;> rcases is_cases hq with ⟨e', a', b'⟩ | ⟨e', a', b'⟩ | ⟨e', a', b'⟩
  · rw [if_pos (by omega)] at ho; simp at ho
    rw [put_one e, get_one e', get_one e', getD_set_ne (by omega)]
  · rw [if_neg (by omega), if_neg (by omega), if_pos (by omega)] at ho; simp at ho
    rw [put_one e, get_two e', get_two e', getD_set_ne (by omega), getD_set_ne (by omega)]
  · rw [put_one e, get_three e', get_three e']
  · rw [if_neg (by omega), if_pos (by omega)] at ho; simp at ho
    rw [put_two e, get_one e', get_one e', getD_set_ne (by omega), getD_set_ne (by omega)]
  · rw [if_pos (by omega)] at ho; simp at ho
    rw [put_two e, get_two e', get_two e', getD_set_ne (by omega), getD_set_ne (by omega), getD_set_ne (by omega), getD_set_ne (by omega)]
  · rw [put_two e, get_three e', get_three e']
  · rw [put_three e, get_one e', get_one e']
  · rw [put_three e, get_two e', get_two e']
  · rw [if_pos (by omega)] at ho; simp at ho
    rw [put_three e, get_three e', get_three e', getD_set_ne (by omega)]

theorem sto_at_put {s slots : Int} {st : Sto} {p : LPlace} {v : Int} (h : StoAt s slots st) (hv : U64i v) : StoAt s slots (putP st p v) := by
  have := putP_len st p v
  exact ⟨sto_put h.ok hv, by rw [this.1]; exact h.sl, by rw [this.2]; exact h.ll⟩

/-- What is known of a store is so. -/
def AllHold (ts : List Int) (st : Sto) (K : LFact → Prop) : Prop := ∀ f, K f → Holds ts st f

theorem move_sound {B : List Bool} {s slots : Int} {num : Int → Prop} (hnum : ∀ x, num x → 0 ≤ x ∧ x < 4294967296) {ts : List Int} {st : Sto} {m : LMove} {K : LFact → Prop} (hm : moveB s slots m = true) (hn : 0 ≤ m.n ∧ m.n < 4294967296)
    (hst : StoAt s slots st) (hw : WOk B ts) (hts : ∀ j, U64i (ts.getD j 0)) (hK : AllHold ts st K) : AllHold ts (moveP st m) (moveK (FactOk B s slots num) m K) := by
  intro f hf
  obtain ⟨hok, hf⟩ := hf
  unfold moveB at hm
  simp only [Bool.and_eq_true] at hm
  obtain ⟨hd, hm⟩ := hm
  by_cases h0 : f.pl.kind = 0
  · rw [if_pos (Or.inl h0)] at hf
    have := hK f hf
    unfold Holds at this ⊢
    rw [if_pos h0] at this ⊢
    exact this
  have hfp : isB s slots f.pl = true := by rcases hok.pl with h | h; exact absurd h.1 h0; exact h
  by_cases ho : overB f.pl m.dst = false
  · rw [if_pos (Or.inr ho)] at hf
    have := hK f hf
    unfold Holds at this ⊢
    rw [if_neg h0] at this ⊢
    unfold moveP
    rw [get_put_far hd hfp ho]
    exact this
  rw [if_neg (by rintro (h | h); exact h0 h; exact ho h)] at hf
  obtain ⟨hpl, hf⟩ := hf
  replace hpl := samePl_eq hpl
  unfold Holds
  rw [if_neg h0]
  cases hc : m.cst with
  | false =>
    rw [if_pos hc] at hf
    rw [if_neg (by simp [hc])] at hm
    simp only [Bool.and_eq_true] at hm
    have hsrc := hm.1.2
    have hkk := hK _ hf
    unfold Holds at hkk
    simp only at hkk
    rw [if_neg (is_kind hsrc)] at hkk
    have hv : U64i (getP st m.src) := get_bd m.src hst.ok
    unfold moveP
    rw [show (if m.cst = true then m.n else getP st m.src) = getP st m.src by rw [hc]; simp, hpl, get_put_same hst hd _ hv]
    by_cases ht : f.temp = true
    · rw [if_pos ht] at hkk ⊢
      obtain ⟨t0, t1⟩ := hok.t ht
      split
      · rename_i h1
        have hw1 := hw f.t.toNat (by omega) (hok.nar ht (Or.inr (by rw [hpl]; exact h1)))
        have := hts f.t.toNat
        unfold U64i at this
        omega
      · exact hkk
    · rw [if_neg ht] at hkk ⊢
      have htf : f.temp = false := by simpa using ht
      have := hnum _ (hok.num (Or.inr htf))
      split <;> omega
  | true =>
    rw [if_neg (by simp [hc])] at hf
    rw [if_pos hc] at hm
    simp at hm
    unfold moveP
    rw [if_pos hc, hpl, get_put_same hst hd _ ⟨hn.1, by omega⟩, if_pos hm.2]
    by_cases ht : f.temp = true
    · rw [if_pos ht] at hf ⊢
      have hkk := hK _ hf
      unfold Holds zeroAt at hkk
      simp only at hkk
      rw [if_pos (show LPlace.zero.kind = 0 from rfl)] at hkk
      rw [hkk]
      omega
    · rw [if_neg ht] at hf ⊢
      omega

theorem sto_at_move {s slots : Int} {st : Sto} {m : LMove} (h : StoAt s slots st) (hn : 0 ≤ m.n ∧ m.n < 4294967296) : StoAt s slots (moveP st m) := by
  unfold moveP
  refine sto_at_put h ?_
  split
  · exact ⟨hn.1, by omega⟩
  · exact get_bd _ h.ok

/-- Behind moves. -/
def movesK (ok : LFact → Prop) (l : List LMove) (K : LFact → Prop) : LFact → Prop := l.foldl (fun K m => moveK ok m K) K

theorem moves_sound {B : List Bool} {s slots : Int} {num : Int → Prop} (hnum : ∀ x, num x → 0 ≤ x ∧ x < 4294967296) {ts : List Int} (hw : WOk B ts) (hts : ∀ j, U64i (ts.getD j 0)) (l : List LMove) :
    ∀ (st : Sto) (K : LFact → Prop), (∀ m, m ∈ l → moveB s slots m = true ∧ 0 ≤ m.n ∧ m.n < 4294967296) → StoAt s slots st → AllHold ts st K → StoAt s slots (movesP st l) ∧ AllHold ts (movesP st l) (movesK (FactOk B s slots num) l K) := by
  induction l with
  | nil => exact fun st K _ h1 h2 => ⟨h1, h2⟩
  | cons m l ih =>
    intro st K hl h1 h2
    obtain ⟨a, b⟩ := hl m (by simp)
    exact ih (moveP st m) (moveK (FactOk B s slots num) m K) (fun x hx => hl x (by simp [hx])) (sto_at_move h1 b) (move_sound hnum a b h1 hw hts h2)

/-- An instruction that gives: what is known behind it is so. -/
theorem ins_sound {B : List Bool} {s slots : Int} {num : Int → Prop} {ts : List Int} {st : Sto} {i : LIns} {L : LPlace} {v : Int} {K : LFact → Prop} (hlen : ts.length = B.length) (hd0 : 0 ≤ i.dest) (hd1 : i.dest < B.length)
    (hL : isB s slots L = true) (hLk : L.kind = 1 ∨ L.kind = 2) (hLn : L.kind = 1 → v < 4294967296) (hv : U64i v) (hst : StoAt s slots st) (hc : i.op = 1 → v = i.n) (hm : i.op = 2 → v = ts.getD i.a.toNat 0) (ha : i.op = 2 → 0 ≤ i.a)
    (hKok : ∀ f, K f → FactOk B s slots num f) (hK : AllHold ts st K) : AllHold (ts.set i.dest.toNat v) (putP st L v) (insK (FactOk B s slots num) i L K) := by
  have hself : getP (putP st L v) L = v := by
    rw [get_put_same hst hL v hv]
    split
    · rename_i h1; have := hLn h1; have := hv.1; omega
    · rfl
  have hnewd : (ts.set i.dest.toNat v).getD i.dest.toNat 0 = v := getD_set_eq (by omega)
  have hLk0 : ¬ L.kind = 0 := by omega
  have hnew : ∀ t : Int, 0 ≤ t → ¬ t = i.dest → (ts.set i.dest.toNat v).getD t.toNat 0 = ts.getD t.toNat 0 := fun t ht hne => getD_set_ne (by omega)
  intro f hf
  obtain ⟨hok, hf⟩ := hf
  have hfp : ¬ f.pl.kind = 0 → isB s slots f.pl = true := fun h0 => by rcases hok.pl with h | h; exact absurd h.1 h0; exact h
  unfold Holds
  split at hf
  · rename_i hh
    obtain ⟨h2, h3, h4, h5⟩ := hh
    replace h3 := samePl_eq h3
    rw [if_neg (by rw [h3]; exact hLk0), if_pos h4, h3, hself, h5]
    by_cases e : i.a = i.dest
    · rw [e, hnewd]
    · rw [hnew _ (ha h2) e]; exact hm h2
  split at hf
  · rename_i _ hh
    obtain ⟨h2, h3, h4⟩ := hh
    replace h3 := samePl_eq h3
    rw [if_neg (by rw [h3]; exact hLk0), if_neg (by simp [h4]), h3, hself, hm h2]
    have := hK _ hf
    unfold Holds zeroAt at this
    simp only at this
    rw [if_pos (show LPlace.zero.kind = 0 from rfl)] at this
    exact this
  split at hf
  · rename_i _ _ hh
    obtain ⟨h2, ⟨h3, h4⟩, h5⟩ := hh
    have hk := hK _ hf
    unfold Holds at hk
    simp only at hk
    rw [h4, hnewd, hm h2]
    by_cases h0 : f.pl.kind = 0
    · rw [if_pos h0] at hk ⊢; exact hk
    · have ho : overB f.pl L = false := by rcases h5 with h5 | h5; exact absurd h5 h0; exact h5
      rw [if_neg h0, if_pos h3] at hk ⊢
      rw [get_put_far hL (hfp h0) ho]
      exact hk
  split at hf
  · rename_i _ _ _ hh
    obtain ⟨h1, ⟨h3, h4⟩, h0, ho⟩ := hh
    have hk := hK _ hf
    unfold Holds at hk
    simp only at hk
    rw [if_neg h0, if_neg (by simp)] at hk
    rw [if_neg h0, if_pos h3, h4, hnewd, get_put_far hL (hfp h0) ho, hk, hc h1]
  split at hf
  · rename_i _ _ _ _ hh
    obtain ⟨h1, hh⟩ := hh
    rcases hh with ⟨⟨h3, h4⟩, h0⟩ | ⟨h3, h4⟩
    · rw [if_pos h0, h4, hnewd, hf, hc h1]
    · replace h3 := samePl_eq h3
      rw [if_neg (by rw [h3]; exact hLk0), if_neg (by simp [h4]), h3, hself, hf, hc h1]
  split at hf
  · rename_i _ _ _ _ _ hh
    obtain ⟨h3, ⟨h4, h5⟩, h0⟩ := hh
    replace h3 := samePl_eq h3
    rw [if_neg h0, if_pos h4, h3, hself, h5, hnewd]
  · obtain ⟨hkf, hno, h5⟩ := hf
    have hk := hK _ hkf
    unfold Holds at hk
    by_cases h0 : f.pl.kind = 0
    · rw [if_pos h0] at hk ⊢
      have htmp : f.temp = true := by rcases hok.pl with h | h; exact h.2.2; exact absurd h0 (is_kind h)
      rw [hnew _ (hok.t htmp).1 (fun e => hno ⟨htmp, e⟩)]
      exact hk
    · have ho : overB f.pl L = false := by rcases h5 with h5 | h5; exact absurd h5 h0; exact h5
      rw [if_neg h0] at hk ⊢
      rw [get_put_far hL (hfp h0) ho]
      by_cases ht : f.temp = true
      · rw [if_pos ht] at hk ⊢
        rw [hnew _ (hok.t ht).1 (fun e => hno ⟨ht, e⟩)]
        exact hk
      · rw [if_neg ht] at hk ⊢
        exact hk

end Go.Proofs.Ytcmnmogmdhofcaa.form

/- Registers and slots of the program's own (package done): a store in one block; what is in a place (in), what becomes of it (become). -/
namespace Go.Proofs.Ytcmnmogmdhofcaa.form
open Go.RowKit Go.Proofs.Ytcmnmogmdhofcaa.num
set_option linter.unusedVariables false
set_option maxRecDepth 100000
attribute [local go_sem ↓] Go.wp_at_zero Go.wp_at_succ

def padL (n : Nat) (l : List Int) : List Int := l ++ List.replicate (n - l.length) 0
theorem padL_len {n : Nat} {l : List Int} (h : l.length ≤ n) : (padL n l).length = n := by unfold padL; simp; omega
theorem padL_getD {n : Nat} {l : List Int} {j : Nat} (hj : j < l.length) : (padL n l)[j]? = some (l.getD j 0) := by
  unfold padL
  rw [List.getElem?_append_left hj]
  simp [List.getD, hj]
theorem padL_set {n : Nat} {l : List Int} {j : Nat} {v : Int} (hj : j < l.length) : (padL n l).set j v = padL n (l.set j v) := by
  unfold padL
  simp [hj]

/-- The cells of a store. -/
def stoE (st : Sto) : List Value := (padL 16 st.sing).map (Value.int .u32) ++ (padL 12 st.slot).map (Value.int .u64)

def stoK (ns nl : Nat) : StoK := ⟨Sto, 113, stoE, StoAt ns nl⟩

section
variable {ns nl sb : Nat} {st : Sto} {w : World}

theorem sing_at (h : Row w sb 113 (stoE st)) (ho : StoOk st) {j : Nat} (hj : j < st.sing.length) : w.cell? ⟨sb, j, none⟩ = some (.int .u32 (st.sing.getD j 0)) := by
  have hl := padL_len ho.n1
  have h16 := ho.n1
  rw [h.cell]
  unfold stoE
  rw [List.getElem?_append_left (by simp [hl]; omega), List.getElem?_map, padL_getD hj]
  rfl
theorem slot_at (h : Row w sb 113 (stoE st)) (ho : StoOk st) {j : Nat} (hj : j < st.slot.length) : w.cell? ⟨sb, 16 + j, none⟩ = some (.int .u64 (st.slot.getD j 0)) := by
  have hl := padL_len ho.n1
  rw [h.cell]
  unfold stoE
  rw [List.getElem?_append_right (by simp [hl]), List.getElem?_map]
  simp only [List.length_map, hl]
  rw [show 16 + j - 16 = j by omega, padL_getD hj]
  rfl
theorem sing_set (h : Row w sb 113 (stoE st)) (ho : StoOk st) {j : Nat} (hj : j < st.sing.length) (v : Int) : Row (w.setCell ⟨sb, j, none⟩ (.int .u32 v)) sb 113 (stoE ⟨st.sing.set j v, st.slot⟩) := by
  have hl := padL_len ho.n1
  have h16 := ho.n1
  have := h.set j (.int .u32 v)
  have e : (stoE st).set j (.int .u32 v) = stoE ⟨st.sing.set j v, st.slot⟩ := by
    unfold stoE
    rw [List.set_append_left _ _ (by simp [hl]; omega), ← List.map_set, padL_set hj]
  rwa [e] at this
theorem slot_set (h : Row w sb 113 (stoE st)) (ho : StoOk st) {j : Nat} (hj : j < st.slot.length) (v : Int) : Row (w.setCell ⟨sb, 16 + j, none⟩ (.int .u64 v)) sb 113 (stoE ⟨st.sing, st.slot.set j v⟩) := by
  have hl := padL_len ho.n1
  have := h.set (16 + j) (.int .u64 v)
  have e : (stoE st).set (16 + j) (.int .u64 v) = stoE ⟨st.sing, st.slot.set j v⟩ := by
    unfold stoE
    rw [List.set_append_right _ _ (by simp [hl]), ← List.map_set]
    simp only [List.length_map, hl]
    rw [show 16 + j - 16 = j by omega, padL_set hj]
  rwa [e] at this
end

section
variable {ns nl sb : Nat} {st : Sto} {w : World}

/-- A place of a machine, or none. -/
def PlIs (ns nl : Nat) (p : LPlace) : Prop := isB ns nl p = true ∨ (p.kind = 0 ∧ p.n = 0)

theorem pl_is_cases {p : LPlace} (h : StoAt ns nl st) (hp : PlIs ns nl p) : (p.kind = 1 ∧ 0 ≤ p.n ∧ p.n < st.sing.length) ∨ (p.kind = 2 ∧ 0 ≤ p.n ∧ 2 * p.n + 1 < st.sing.length) ∨ (p.kind = 3 ∧ 0 ≤ p.n ∧ p.n < st.slot.length) ∨ p.kind = 0 := by
  refine pl_cases h.ok ?_
  unfold PlOk
  rw [h.sl, h.ll]
  exact hp

set_option maxHeartbeats 1000000 in
theorem inO (p : LPlace) (h : Row w sb 113 (stoE st)) (hs : StoAt ns nl st) (hp : PlIs ns nl p) :
    Calls Try.prog 104 #[.pointer (some ⟨sb, 0, none⟩), p.val] w fun e w' => e = .returned (.int .u64 (getP st p)) ∧ Below w.heap.size w w' := by
  have ho := hs.ok
  have hx := h.lt
  have n1 : (st.sing.length : Int) ≤ 16 := by have := ho.n1; omega
  have n2 : (st.slot.length : Int) ≤ 12 := by have := ho.n2; omega
  have HB1 : Hid (∀ o1 : Obj, Below w.heap.size w (w.alloc o1)) := fun o1 => (Below.refl _ _).alloc (Nat.le_refl _) _
  have HB0 : Hid (Below w.heap.size w w) := Below.refl _ _
  unfold LPlace.val
  rcases pl_is_cases hs hp with ⟨e1, e2, e3⟩ | ⟨e1, e2, e3⟩ | ⟨e1, e2, e3⟩ | e1
  · have c0 := sing_at h ho (show p.n.toNat < st.sing.length by omega)
    obtain ⟨hu0, hu1⟩ := ho.s0 p.n.toNat
    obtain ⟨u, hue⟩ : ∃ u, u = st.sing.getD p.n.toNat 0 := ⟨_, rfl⟩
    rw [← hue] at c0 hu0 hu1
    have HE : Hid (getP st p = u) := by show getP st p = u; unfold getP; rw [if_pos e1, hue]
    have k1 : (p.kind == 1) = true := by simp [e1]
    have y1 : p.n < 16 := by omega
    have e5 := wrap64_of u hu0 (by omega)
    clear hue e1 h hs hp ho
    go_enter Try.func104, Try.ntmps104
    go_wp2
    go_quiet (fail)
    go_wp2
    go_ret
    exact ⟨ret_int HE.out.symm, below_drewN (by first | exact HB0.out | exact HB1.out _) _⟩
  · have c0 := sing_at h ho (show (2 * p.n + 1).toNat < st.sing.length by omega)
    have c1 := sing_at h ho (show (2 * p.n).toNat < st.sing.length by omega)
    obtain ⟨hu0, hu1⟩ := ho.s0 (2 * p.n + 1).toNat
    obtain ⟨hv0, hv1⟩ := ho.s0 (2 * p.n).toNat
    obtain ⟨u, hue⟩ : ∃ u, u = st.sing.getD (2 * p.n + 1).toNat 0 := ⟨_, rfl⟩
    obtain ⟨v, hve⟩ : ∃ u, u = st.sing.getD (2 * p.n).toNat 0 := ⟨_, rfl⟩
    rw [← hue] at c0 hu0 hu1
    rw [← hve] at c1 hv0 hv1
    have HE : Hid (getP st p = bits BinOp.or IntKind.u64 (u * 4294967296) v) := by
      show getP st p = _
      have hp := pair_of v u hv0 hv1 ⟨hu0, by omega⟩
      rw [wrap64_of (u * 4294967296) (by omega) (by omega), wrap64_of (u * 4294967296 + v) (by omega) (by omega)] at hp
      rw [hp]
      unfold getP; rw [if_neg (by omega), if_pos e1, hue, hve]
    have k1 : (p.kind == 1) = false := by simp [e1]
    have k2 : (p.kind == 2) = true := by simp [e1]
    have y1 : 2 * p.n < 16 := by omega
    have y3 : 2 * p.n + 1 < 16 := by omega
    have y0 : 0 ≤ 2 * p.n := by omega
    have y2 : 0 ≤ 2 * p.n + 1 := by omega
    have e5 := wrap64_of u hu0 (by omega)
    have e6 := wrap64_of v hv0 (by omega)
    clear hue hve e1 h hs hp ho
    go_enter Try.func104, Try.ntmps104
    go_wp2
    go_quiet (fail)
    go_wp2
    go_ret
    exact ⟨ret_int HE.out.symm, below_drewN (by first | exact HB0.out | exact HB1.out _) _⟩
  · have c0 := slot_at h ho (show p.n.toNat < st.slot.length by omega)
    obtain ⟨u, hue⟩ : ∃ u, u = st.slot.getD p.n.toNat 0 := ⟨_, rfl⟩
    rw [← hue] at c0
    have HE : Hid (getP st p = u) := by show getP st p = u; unfold getP; rw [if_neg (by omega), if_neg (by omega), if_pos e1, hue]
    have k1 : (p.kind == 1) = false := by simp [e1]
    have k2 : (p.kind == 2) = false := by simp [e1]
    have k3 : (p.kind == 3) = true := by simp [e1]
    have y1 : p.n < 12 := by omega
    clear hue e1 h hs hp ho
    go_enter Try.func104, Try.ntmps104
    go_wp2
    go_quiet (fail)
    go_wp2
    go_ret
    exact ⟨ret_int HE.out.symm, below_drewN (by first | exact HB0.out | exact HB1.out _) _⟩
  · have HE : Hid (getP st p = 0) := by show getP st p = 0; unfold getP; rw [if_neg (by omega), if_neg (by omega), if_neg (by omega)]
    have k1 : (p.kind == 1) = false := by simp [e1]
    have k2 : (p.kind == 2) = false := by simp [e1]
    have k3 : (p.kind == 3) = false := by simp [e1]
    clear e1 h hs hp ho
    go_enter Try.func104, Try.ntmps104
    go_wp2
    go_ret
    exact ⟨ret_int HE.out.symm, by first | exact HB0.out | exact HB1.out _⟩
end

end Go.Proofs.Ytcmnmogmdhofcaa.form

/- What the closures give that the program's machine makes of an instruction that has a Dest, whatever its ends. -/
namespace Go.Proofs.Ytcmnmogmdhofcaa.form
open Go.RowKit Go.Proofs.Ytcmnmogmdhofcaa.num
set_option linter.unusedVariables false
set_option maxRecDepth 100000
attribute [local go_sem ↓] Go.wp_at_zero Go.wp_at_succ

section
variable {K : StoK} {mb sb db base bm bi be : Nat} {s : K.S} {ov : Value} {l : List Int} {st k : Int} {iv : Value} {I : List Int} {pc : Int} {i : LIns} {x : EndF} {w : World}

theorem giv1 (hb : Box mb sb db bm bi be i x w) (hn0 : 0 ≤ i.n) (hn1 : i.n < 4294967296) :
    Calls Try.prog 110 #[.pointer (some ⟨bi, 0, none⟩)] w fun e w' => e = .returned (.int .u64 i.n) ∧ Below w.heap.size w w' := by
  have c5 := hb.i5
  have e5 := wrap64_of i.n hn0 (by omega)
  clear hb
  go_enter Try.func110, Try.ntmps110
  go_wp2
  go_ret
  exact ⟨rfl, Below.refl _ _⟩

theorem takeIn (hm : MS K mb sb base s ov l st k iv I pc w) :
    Calls Try.prog 112 #[.pointer (some ⟨mb, 0, none⟩)] w fun e w' => e = .returned (.int .u32 (I.headD 0)) ∧ (∃ iv', MS K mb sb base s ov l st k iv' I.tail pc w') ∧ Ran mb sb base w w' := by
  have HM : Hid (MS K mb sb base s ov l st k iv I pc w) := hm
  obtain ⟨ai, cap, rfl, hcap, h40, hbd, hc⟩ := hm.ins
  have ci := hm.civ
  have fz := hm.fz 3
  have hlt := hm.lt
  have hsz := hm.sz
  clear hm
  cases I with
  | nil =>
    clear hc hbd
    go_enter Try.func112, Try.ntmps112
    go_wp2
    go_ret
    exact ⟨rfl, ⟨_, HM.out⟩, Ran.refl _ _ _ _⟩
  | cons y R =>
    obtain ⟨b, o, rfl, hb1, hb2, hb3, hcell⟩ := hc (by simp)
    have c0 := hcell 0 (by simp)
    have HC : Hid _ := hcell
    have HBD : Hid _ := hbd
    simp at c0
    clear hc hcell hbd
    go_enter Try.func112, Try.ntmps112
    go_wp2
    all_goals
      go_ret
      refine ⟨rfl, ⟨_, HM.out.setIns ?_⟩, (Ran.refl _ _ _ _).set _ _⟩
    · refine ⟨_, 0, rfl, by simp at hcap; omega, by simp at h40; omega, fun j hj => by simp at hcap; omega, fun h0 => by simp at hcap; omega⟩
    · refine ⟨_, cap - 1, rfl, by simp at hcap; omega, by simp at h40; omega, fun j hj => ?_, fun h0 => ⟨b, o + 1, rfl, hb1, hb2, hb3, fun j hj => ?_⟩⟩
      · have := HBD.out (j + 1) (by simp; omega)
        simpa using this
      · have := HC.out (j + 1) (by simp; omega)
        rw [show o + 1 + j = o + (j + 1) by omega]
        simpa using this

theorem head_bd (hm : MS K mb sb base s ov l st k iv I pc w) : 0 ≤ I.headD 0 ∧ I.headD 0 < 4294967296 := by
  obtain ⟨ai, cap, -, -, -, hbd, -⟩ := hm.ins
  cases I with
  | nil => simp
  | cons y R => have := hbd 0 (by simp); simpa using this

theorem giv2 (hb : Box mb sb db bm bi be i x w) (hm : MS K mb sb base s ov l st k iv I pc w) :
    Calls Try.prog 111 #[.pointer (some ⟨bm, 0, none⟩)] w fun e w' => e = .returned (.int .u64 (I.headD 0)) ∧ (∃ iv', MS K mb sb base s ov l st k iv' I.tail pc w') ∧ Ran mb sb base w w' := by
  have cm := hb.pm
  have HM : Hid (MS K mb sb base s ov l st k iv I pc w) := hm
  obtain ⟨y, hy⟩ : ∃ y, y = I.headD 0 := ⟨_, rfl⟩
  have hy2 : 0 ≤ y ∧ y < 4294967296 := by rw [hy]; exact head_bd hm
  have e5 := wrap64_of y hy2.1 (by omega)
  have HX : Hid (y = I.headD 0) := hy
  rw [← hy]
  clear hm hb hy hy2
  go_enter Try.func111, Try.ntmps111
  go_wp2_with (go_at_call 112; refine (takeIn HM.out).mono ?_; rw [← HX.out]; rintro e w1 ⟨rfl, hr1, hr2⟩)
  go_ret
  exact ⟨rfl, hr1, hr2⟩
end
end Go.Proofs.Ytcmnmogmdhofcaa.form
