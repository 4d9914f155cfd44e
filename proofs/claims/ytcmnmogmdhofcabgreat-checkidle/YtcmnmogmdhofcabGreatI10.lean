/- Facts on plain numbers: what a fact says of temporaries and a store; what is known behind a move and behind an instruction is so. -/
import Derived.Test.YtcmnmogmdhofcabGreatI09
import Derived.Test.YtcmnmogmdhofcabGreatI05

namespace Go.Proofs.YtcmnmogmdhofcabGreat.form
open Go.RowKit Go.Proofs.YtcmnmogmdhofcabGreat.num
set_option linter.unusedVariables false

structure LFact where
  pl : LPlace
  temp : Bool
  t : Int
  n : Int

def Holds (ts : List Int) (st : Sto) (f : LFact) : Prop :=
  if f.pl.kind = 0 then ts.getD f.t.toNat 0 = f.n else if f.temp = true then getP st f.pl = ts.getD f.t.toNat 0 else getP st f.pl = f.n

structure FactOk (B : List Bool) (s slots : Int) (num : Int → Prop) (f : LFact) : Prop where
  pl : (f.pl.kind = 0 ∧ f.pl.n = 0 ∧ f.temp = true) ∨ isB s slots f.pl = true
  t : f.temp = true → 0 ≤ f.t ∧ f.t < B.length
  nar : f.temp = true → f.pl.kind = 0 ∨ f.pl.kind = 1 → B.getD f.t.toNat false = false
  wid : f.temp = true → f.pl.kind = 2 → B.getD f.t.toNat false = true
  num : f.pl.kind = 0 ∨ f.temp = false → num f.n
  zn : ¬ f.pl.kind = 0 → f.temp = true → f.n = 0
  zt : f.temp = false → f.t = 0
  dbl : f.temp = false → ¬ f.pl.kind = 2

def zeroAt (t n : Int) : LFact := ⟨.zero, true, t, n⟩

def samePl (a b : LPlace) : Bool := (a.kind == b.kind) && (a.n == b.n)
theorem samePl_eq {a b : LPlace} (h : samePl a b = true) : a = b := by
  obtain ⟨x, y⟩ := a
  obtain ⟨z, u⟩ := b
  unfold samePl at h
  simp at h
  rw [h.1, h.2]

def moveK (ok : LFact → Prop) (m : LMove) (K : LFact → Prop) (f : LFact) : Prop :=
  ok f ∧ (if f.pl.kind = 0 ∨ overB f.pl m.dst = false then K f
    else samePl f.pl m.dst = true ∧ (if m.cst = false then K ⟨m.src, f.temp, f.t, f.n⟩ else if f.temp = true then K (zeroAt f.t m.n) else f.n = m.n))

def insK (ok : LFact → Prop) (i : LIns) (L : LPlace) (K : LFact → Prop) (f : LFact) : Prop :=
  ok f ∧
  (if i.op = 2 ∧ samePl f.pl L = true ∧ f.temp = true ∧ f.t = i.a then True
   else if i.op = 2 ∧ samePl f.pl L = true ∧ f.temp = false then K (zeroAt i.a f.n)
   else if i.op = 2 ∧ (f.temp = true ∧ f.t = i.dest) ∧ (f.pl.kind = 0 ∨ overB f.pl L = false) then K ⟨f.pl, f.temp, i.a, f.n⟩
   else if i.op = 1 ∧ (f.temp = true ∧ f.t = i.dest) ∧ ¬ f.pl.kind = 0 ∧ overB f.pl L = false then K ⟨f.pl, false, 0, i.n⟩
   else if i.op = 1 ∧ (((f.temp = true ∧ f.t = i.dest) ∧ f.pl.kind = 0) ∨ (samePl f.pl L = true ∧ f.temp = false)) then f.n = i.n
   else if samePl f.pl L = true ∧ (f.temp = true ∧ f.t = i.dest) ∧ ¬ f.pl.kind = 0 then True
   else K f ∧ ¬ (f.temp = true ∧ f.t = i.dest) ∧ (f.pl.kind = 0 ∨ overB f.pl L = false))

theorem is_cases {s slots : Int} {p : LPlace} (h : isB s slots p = true) : (p.kind = 1 ∧ 0 ≤ p.n ∧ p.n < s) ∨ (p.kind = 2 ∧ 0 ≤ p.n ∧ 2 * p.n < s) ∨ (p.kind = 3 ∧ 0 ≤ p.n ∧ p.n < slots) := by
  unfold isB at h
  by_cases e1 : p.kind = 1
  · rw [if_pos e1] at h; simp at h; exact Or.inl ⟨e1, by omega, by omega⟩
  · rw [if_neg e1] at h
    by_cases e2 : p.kind = 2
    · rw [if_pos e2] at h; simp at h; exact Or.inr (Or.inl ⟨e2, by omega, by omega⟩)
    · rw [if_neg e2] at h
      by_cases e3 : p.kind = 3
      · rw [if_pos e3] at h; simp at h; exact Or.inr (Or.inr ⟨e3, by omega, by omega⟩)
      · rw [if_neg e3] at h; exact absurd h (by simp)

theorem is_kind {s slots : Int} {p : LPlace} (h : isB s slots p = true) : ¬ p.kind = 0 := by rcases is_cases h with h | h | h <;> omega

def movesK (ok : LFact → Prop) (l : List LMove) (K : LFact → Prop) : LFact → Prop := l.foldl (fun K m => moveK ok m K) K

end Go.Proofs.YtcmnmogmdhofcabGreat.form

/- A machine in its places, on plain numbers; where what is taken is where it is said to be, it shows what the program shows. -/
namespace Go.Proofs.YtcmnmogmdhofcabGreat.form
open Go.RowKit Go.Proofs.YtcmnmogmdhofcabGreat.num
set_option linter.unusedVariables false

structure PMac where
  pc : Nat
  sto : Sto
  taken : Nat
  out : List Int
  state : Int
  steps : Nat

def PMac.start (s slots : Nat) : PMac := ⟨0, ⟨List.replicate s 0, List.replicate slots 0⟩, 0, [], 0, 0⟩

def PMac.step (C : List LIns) (R : List LRow) (ins : List Int) (m : PMac) : PMac :=
  let i := C.getD m.pc .zero
  let r := R.getD m.pc .zero
  let st := movesP m.sto r.before
  let a := getP st r.a
  let b := getP st r.b
  let nx := nxI i m.pc a
  { pc := nx.toNat
    sto := movesP (if givesB i.op then putP st r.dest (gvI i a b (inOf ins m.taken)) else st) r.after
    taken := if i.op = 3 ∧ m.taken < ins.length then m.taken + 1 else m.taken
    out := if i.op = 4 then m.out ++ [a % 4294967296] else m.out
    state := stI i C.length nx
    steps := m.steps + 1 }

def thruK (ok : LFact → Prop) (i : LIns) (r : LRow) (K : LFact → Prop) : LFact → Prop :=
  movesK ok r.after (if givesB i.op = true then insK ok i r.dest (movesK ok r.before K) else movesK ok r.before K)

def usesK (ok : LFact → Prop) (i : LIns) (r : LRow) (K : LFact → Prop) : Prop :=
  (0 < manyI i.op → movesK ok r.before K ⟨r.a, true, i.a, 0⟩) ∧ (1 < manyI i.op → movesK ok r.before K ⟨r.b, true, i.b, 0⟩)

structure GoodK (B : List Bool) (C : List LIns) (s slots : Int) (R : List LRow) (num : Int → Prop) (come : Nat → Prop) (K : Nat → LFact → Prop) : Prop where
  c0 : come 0
  ok : ∀ k f, K k f → FactOk B s slots num f
  beg : ∀ f, K 0 f → f.n = 0
  next : ∀ k x, come k → k < C.length → x ∈ nextsN (C.getD k .zero) k → x < C.length → come x ∧ ∀ f, K x f → thruK (FactOk B s slots num) (C.getD k .zero) (R.getD k .zero) (K k) f

theorem reg_is {B : List Bool} {s slots t : Int} {p : LPlace} (h : regB B s t p = true) : isB s slots p = true ∧ (p.kind = 1 ∨ p.kind = 2) ∧ (p.kind = 1 → B.getD t.toNat false = false) := by
  unfold regB at h
  rw [Bool.and_eq_true] at h
  obtain ⟨h1, h2⟩ := h
  have hk : p.kind = 1 ∨ p.kind = 2 := by cases hB : B.getD t.toNat false <;> rw [hB] at h1 <;> simp at h1 <;> omega
  refine ⟨?_, hk, fun e => ?_⟩
  · unfold isB at h2 ⊢
    rcases hk with e | e
    · rw [if_pos e] at h2 ⊢; exact h2
    · rw [if_neg (by omega), if_pos e] at h2 ⊢; exact h2
  · cases hB : B.getD t.toNat false with
    | false => rfl
    | true => rw [hB] at h1; simp at h1; omega

theorem target_of {s : Int} (h : targetB s = true) : 4 ≤ s ∧ s ≤ 16 ∧ s % 2 = 0 := by
  unfold targetB at h
  simp at h
  omega

end Go.Proofs.YtcmnmogmdhofcabGreat.form

/- Facts that are known ahead of each instruction: the greatest sets; places that are taken; they do what the program does. On plain numbers. -/
namespace Go.Proofs.YtcmnmogmdhofcabGreat.form
open Go.RowKit Go.Proofs.YtcmnmogmdhofcabGreat.num
set_option linter.unusedVariables false

def NumP (C : List LIns) (x : Int) : Prop := x = 0 ∨ ∃ k, k < C.length ∧ (C.getD k .zero).op = 1 ∧ (C.getD k .zero).n = x

def ReachN (C : List LIns) : Nat → Nat → Prop
  | 0, k => k = 0
  | n + 1, k => ∃ j, ReachN C n j ∧ j < C.length ∧ k ∈ nextsN (C.getD j .zero) j ∧ k < C.length
def Reach (C : List LIns) (k : Nat) : Prop := ∃ n, ReachN C n k

theorem reach_start (C : List LIns) : Reach C 0 := ⟨0, rfl⟩
theorem reach_next {C : List LIns} {j k : Nat} (h : Reach C j) (hj : j < C.length) (hk : k ∈ nextsN (C.getD j .zero) j) (hl : k < C.length) : Reach C k := by
  obtain ⟨n, hn⟩ := h
  exact ⟨n + 1, j, hn, hj, hk, hl⟩
theorem reach_least {C : List LIns} {P : Nat → Prop} (h0 : P 0) (h : ∀ j k, P j → j < C.length → k ∈ nextsN (C.getD j .zero) j → k < C.length → P k) : ∀ k, Reach C k → P k := by
  have : ∀ n k, ReachN C n k → P k := by
    intro n
    induction n with
    | zero => intro k hk; rw [show k = 0 from hk]; exact h0
    | succ n ih =>
      rintro k ⟨j, hj, hl, hk, hkl⟩
      exact h j k (ih j hj) hl hk hkl
  rintro k ⟨n, hn⟩
  exact this n k hn
theorem moveK_mono {ok : LFact → Prop} {m : LMove} {K K' : LFact → Prop} (h : ∀ f, K f → K' f) {f : LFact} (hf : moveK ok m K f) : moveK ok m K' f := by
  refine ⟨hf.1, ?_⟩
  have hf := hf.2
  split at hf
  · rename_i h1; rw [if_pos h1]; exact h _ hf
  · rename_i h1
    rw [if_neg h1]
    refine ⟨hf.1, ?_⟩
    have hf := hf.2
    split at hf
    · rename_i h2; rw [if_pos h2]; exact h _ hf
    · rename_i h2
      rw [if_neg h2]
      split at hf
      · rename_i h3; rw [if_pos h3]; exact h _ hf
      · rename_i h3; rw [if_neg h3]; exact hf
theorem movesK_mono {ok : LFact → Prop} (l : List LMove) : ∀ {K K' : LFact → Prop}, (∀ f, K f → K' f) → ∀ f, movesK ok l K f → movesK ok l K' f := by
  induction l with
  | nil => exact fun h f hf => h f hf
  | cons m l ih => exact fun h f hf => ih (fun f hf => moveK_mono h hf) f hf
theorem insK_mono {ok : LFact → Prop} {i : LIns} {L : LPlace} {K K' : LFact → Prop} (h : ∀ f, K f → K' f) {f : LFact} (hf : insK ok i L K f) : insK ok i L K' f := by
  refine ⟨hf.1, ?_⟩
  have hf := hf.2
  split at hf
  · rename_i h1; rw [if_pos h1]; trivial
  rename_i h1
  rw [if_neg h1]
  split at hf
  · rename_i h2; rw [if_pos h2]; exact h _ hf
  rename_i h2
  rw [if_neg h2]
  split at hf
  · rename_i h3; rw [if_pos h3]; exact h _ hf
  rename_i h3
  rw [if_neg h3]
  split at hf
  · rename_i h4; rw [if_pos h4]; exact h _ hf
  rename_i h4
  rw [if_neg h4]
  split at hf
  · rename_i h5; rw [if_pos h5]; exact hf
  rename_i h5
  rw [if_neg h5]
  split at hf
  · rename_i h6; rw [if_pos h6]; trivial
  rename_i h6
  rw [if_neg h6]
  exact ⟨h _ hf.1, hf.2⟩
theorem thruK_mono {ok : LFact → Prop} {i : LIns} {r : LRow} {K K' : LFact → Prop} (h : ∀ f, K f → K' f) {f : LFact} (hf : thruK ok i r K f) : thruK ok i r K' f := by
  unfold thruK at hf ⊢
  refine movesK_mono _ (fun g hg => ?_) f hf
  split at hg
  · rename_i h1; rw [if_pos h1]; exact insK_mono (movesK_mono _ h) hg
  · rename_i h1; rw [if_neg h1]; exact movesK_mono _ h g hg
theorem usesK_mono {ok : LFact → Prop} {i : LIns} {r : LRow} {K K' : LFact → Prop} (h : ∀ f, K f → K' f) (hu : usesK ok i r K) : usesK ok i r K' :=
  ⟨fun hp => movesK_mono _ h _ (hu.1 hp), fun hp => movesK_mono _ h _ (hu.2 hp)⟩

def Known (B : List Bool) (C : List LIns) (s slots : Int) (R : List LRow) (k : Nat) (f : LFact) : Prop := ∃ K, GoodK B C s slots R (NumP C) (Reach C) K ∧ K k f

theorem known_good (B : List Bool) (C : List LIns) (s slots : Int) (R : List LRow) : GoodK B C s slots R (NumP C) (Reach C) (Known B C s slots R) := by
  refine ⟨reach_start C, ?_, ?_, ?_⟩
  · rintro k f ⟨K, hK, hf⟩; exact hK.ok k f hf
  · rintro f ⟨K, hK, hf⟩; exact hK.beg f hf
  · intro k x hk hl hx hxl
    refine ⟨reach_next hk hl hx hxl, ?_⟩
    rintro f ⟨K, hK, hf⟩
    exact thruK_mono (fun g hg => ⟨K, hK, hg⟩) ((hK.next k x hk hl hx hxl).2 f hf)

def TakenP (B : List Bool) (C : List LIns) (s slots : Int) (R : List LRow) : Prop :=
  placeMayB B C s slots R = true ∧ ∀ k, Reach C k → k < C.length → usesK (FactOk B s slots (NumP C)) (C.getD k .zero) (R.getD k .zero) (Known B C s slots R k)

theorem found_known {B : List Bool} {C : List LIns} {s slots : Int} {R : List LRow} {S : Nat → LFact → Prop} (hok : ∀ k f, S k f → FactOk B s slots (NumP C) f) (hbeg : ∀ f, S 0 f → f.n = 0)
    (hnext : ∀ k x, Reach C k → k < C.length → x ∈ nextsN (C.getD k .zero) k → x < C.length → ∀ f, S x f → thruK (FactOk B s slots (NumP C)) (C.getD k .zero) (R.getD k .zero) (S k) f)
    (hup : ∀ k f, Reach C k → Known B C s slots R k f → S k f) {k : Nat} (hk : Reach C k) (f : LFact) : S k f ↔ Known B C s slots R k f :=
  ⟨fun h => ⟨S, ⟨reach_start C, hok, hbeg, fun k x hk hl hx hxl => ⟨reach_next hk hl hx hxl, hnext k x hk hl hx hxl⟩⟩, h⟩, hup k f hk⟩

end Go.Proofs.YtcmnmogmdhofcabGreat.form

/- What Takes must answer, by whatever way. -/
namespace Go.Proofs.YtcmnmogmdhofcabGreat.form
open Go.RowKit
set_option linter.unusedVariables false

def TakesAns (B : List Bool) (C : List LIns) (s slots : Int) (R : List LRow) (e : Ending) : Prop := ∃ b, e = .returned (.bool b) ∧ (b = true ↔ TakenP B C s slots R)
end Go.Proofs.YtcmnmogmdhofcabGreat.form

/- What check.Takes must answer. -/
namespace Go.Proofs.YtcmnmogmdhofcabGreat.form
open Go.RowKit
set_option linter.unusedVariables false

def TakesSpec : Prop := ∀ (pv lv : Value) (B : List Bool) (C : List LIns) (s slots : Int) (R : List LRow) (w : World), ProgIs w pv B C → PlacedIs w lv slots R → RowsOk R →
  Calls Tryz.prog 6 #[pv, targetV s, lv] w fun e w' => TakesAns B C s slots R e ∧ Below w.heap.size w w'

end Go.Proofs.YtcmnmogmdhofcabGreat.form
