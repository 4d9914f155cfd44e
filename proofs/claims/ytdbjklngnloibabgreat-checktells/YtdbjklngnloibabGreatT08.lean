/- Facts on plain numbers: what a fact says of temporaries and a store; what is known behind a move and behind an instruction is so. -/
import Derived.Test.YtdbjklngnloibabGreatT07

namespace Go.Proofs.YtdbjklngnloibabGreat.form
open Go.RowKit Go.Proofs.YtdbjklngnloibabGreat.num
set_option linter.unusedVariables false

structure LFact where
  pl : LPlace
  temp : Bool
  t : Int
  n : Int

/-- What a fact says of temporaries and a store. -/
def Holds (ts : List Int) (st : Sto) (f : LFact) : Prop :=
  if f.pl.kind = 0 then ts.getD f.t.toNat 0 = f.n else if f.temp = true then getP st f.pl = ts.getD f.t.toNat 0 else getP st f.pl = f.n

/-- Facts that may be. -/
structure FactOk (B : List Bool) (s slots : Int) (num : Int → Prop) (f : LFact) : Prop where
  pl : (f.pl.kind = 0 ∧ f.pl.n = 0 ∧ f.temp = true) ∨ isB s slots f.pl = true
  t : f.temp = true → 0 ≤ f.t ∧ f.t < B.length
  nar : f.temp = true → f.pl.kind = 0 ∨ f.pl.kind = 1 → B.getD f.t.toNat false = false
  wid : f.temp = true → f.pl.kind = 2 → B.getD f.t.toNat false = true
  num : f.pl.kind = 0 ∨ f.temp = false → num f.n
  zn : ¬ f.pl.kind = 0 → f.temp = true → f.n = 0
  zt : f.temp = false → f.t = 0
  dbl : f.temp = false → ¬ f.pl.kind = 2

def zeroAt (t n : Int) : LFact := ⟨.zero, true, t, n⟩

def samePl (a b : LPlace) : Bool := (a.kind == b.kind) && (a.n == b.n)
theorem samePl_eq {a b : LPlace} (h : samePl a b = true) : a = b := by
  obtain ⟨x, y⟩ := a
  obtain ⟨z, u⟩ := b
  unfold samePl at h
  simp at h
  rw [h.1, h.2]

/-- What is known behind a move. -/
def moveK (ok : LFact → Prop) (m : LMove) (K : LFact → Prop) (f : LFact) : Prop :=
  ok f ∧ (if f.pl.kind = 0 ∨ overB f.pl m.dst = false then K f
    else samePl f.pl m.dst = true ∧ (if m.cst = false then K ⟨m.src, f.temp, f.t, f.n⟩ else if f.temp = true then K (zeroAt f.t m.n) else f.n = m.n))

/-- What is known behind an instruction that gives. -/
def insK (ok : LFact → Prop) (i : LIns) (L : LPlace) (K : LFact → Prop) (f : LFact) : Prop :=
  ok f ∧
  (if i.op = 2 ∧ samePl f.pl L = true ∧ f.temp = true ∧ f.t = i.a then True
   else if i.op = 2 ∧ samePl f.pl L = true ∧ f.temp = false then K (zeroAt i.a f.n)
   else if i.op = 2 ∧ (f.temp = true ∧ f.t = i.dest) ∧ (f.pl.kind = 0 ∨ overB f.pl L = false) then K ⟨f.pl, f.temp, i.a, f.n⟩
   else if i.op = 1 ∧ (f.temp = true ∧ f.t = i.dest) ∧ ¬ f.pl.kind = 0 ∧ overB f.pl L = false then K ⟨f.pl, false, 0, i.n⟩
   else if i.op = 1 ∧ (((f.temp = true ∧ f.t = i.dest) ∧ f.pl.kind = 0) ∨ (samePl f.pl L = true ∧ f.temp = false)) then f.n = i.n
   else if samePl f.pl L = true ∧ (f.temp = true ∧ f.t = i.dest) ∧ ¬ f.pl.kind = 0 then True
   else K f ∧ ¬ (f.temp = true ∧ f.t = i.dest) ∧ (f.pl.kind = 0 ∨ overB f.pl L = false))

/-- A place that is there, by its kind. -/
theorem is_cases {s slots : Int} {p : LPlace} (h : isB s slots p = true) : (p.kind = 1 ∧ 0 ≤ p.n ∧ p.n < s) ∨ (p.kind = 2 ∧ 0 ≤ p.n ∧ 2 * p.n < s) ∨ (p.kind = 3 ∧ 0 ≤ p.n ∧ p.n < slots) := by
  unfold isB at h
  by_cases e1 : p.kind = 1
  · rw [if_pos e1] at h; simp at h; exact Or.inl ⟨e1, by omega, by omega⟩
  · rw [if_neg e1] at h
    by_cases e2 : p.kind = 2
    · rw [if_pos e2] at h; simp at h; exact Or.inr (Or.inl ⟨e2, by omega, by omega⟩)
    · rw [if_neg e2] at h
      by_cases e3 : p.kind = 3
      · rw [if_pos e3] at h; simp at h; exact Or.inr (Or.inr ⟨e3, by omega, by omega⟩)
      · rw [if_neg e3] at h; exact absurd h (by simp)

theorem is_kind {s slots : Int} {p : LPlace} (h : isB s slots p = true) : ¬ p.kind = 0 := by rcases is_cases h with h | h | h <;> omega

/-- Behind moves. -/
def movesK (ok : LFact → Prop) (l : List LMove) (K : LFact → Prop) : LFact → Prop := l.foldl (fun K m => moveK ok m K) K

end Go.Proofs.YtdbjklngnloibabGreat.form

/- A machine in its places, on plain numbers; where what is taken is where it is said to be, it shows what the program shows. -/
namespace Go.Proofs.YtdbjklngnloibabGreat.form
open Go.RowKit Go.Proofs.YtdbjklngnloibabGreat.num
set_option linter.unusedVariables false

/-- A machine in its places: where it is, its store, how many ins are taken, what came out, its state, its steps. -/
structure PMac where
  pc : Nat
  sto : Sto
  taken : Nat
  out : List Int
  state : Int
  steps : Nat

def PMac.start (s slots : Nat) : PMac := ⟨0, ⟨List.replicate s 0, List.replicate slots 0⟩, 0, [], 0, 0⟩

def PMac.step (C : List LIns) (R : List LRow) (ins : List Int) (m : PMac) : PMac :=
  let i := C.getD m.pc .zero
  let r := R.getD m.pc .zero
  let st := movesP m.sto r.before
  let a := getP st r.a
  let b := getP st r.b
  let nx := nxI i m.pc a
  { pc := nx.toNat
    sto := movesP (if givesB i.op then putP st r.dest (gvI i a b (inOf ins m.taken)) else st) r.after
    taken := if i.op = 3 ∧ m.taken < ins.length then m.taken + 1 else m.taken
    out := if i.op = 4 then m.out ++ [a % 4294967296] else m.out
    state := stI i C.length nx
    steps := m.steps + 1 }

/-- What is known behind an instruction and its moves. -/
def thruK (ok : LFact → Prop) (i : LIns) (r : LRow) (K : LFact → Prop) : LFact → Prop :=
  movesK ok r.after (if givesB i.op = true then insK ok i r.dest (movesK ok r.before K) else movesK ok r.before K)

/-- What is taken is where it is said to be. -/
def usesK (ok : LFact → Prop) (i : LIns) (r : LRow) (K : LFact → Prop) : Prop :=
  (0 < manyI i.op → movesK ok r.before K ⟨r.a, true, i.a, 0⟩) ∧ (1 < manyI i.op → movesK ok r.before K ⟨r.b, true, i.b, 0⟩)

/-- Sets of facts that go on as they must; come: a way leads there. -/
structure GoodK (B : List Bool) (C : List LIns) (s slots : Int) (R : List LRow) (num : Int → Prop) (come : Nat → Prop) (K : Nat → LFact → Prop) : Prop where
  c0 : come 0
  ok : ∀ k f, K k f → FactOk B s slots num f
  beg : ∀ f, K 0 f → f.n = 0
  next : ∀ k x, come k → k < C.length → x ∈ nextsN (C.getD k .zero) k → x < C.length → come x ∧ ∀ f, K x f → thruK (FactOk B s slots num) (C.getD k .zero) (R.getD k .zero) (K k) f

theorem reg_is {B : List Bool} {s slots t : Int} {p : LPlace} (h : regB B s t p = true) : isB s slots p = true ∧ (p.kind = 1 ∨ p.kind = 2) ∧ (p.kind = 1 → B.getD t.toNat false = false) := by
  unfold regB at h
  rw [Bool.and_eq_true] at h
  obtain ⟨h1, h2⟩ := h
  have hk : p.kind = 1 ∨ p.kind = 2 := by cases hB : B.getD t.toNat false <;> rw [hB] at h1 <;> simp at h1 <;> omega
  refine ⟨?_, hk, fun e => ?_⟩
  · unfold isB at h2 ⊢
    rcases hk with e | e
    · rw [if_pos e] at h2 ⊢; exact h2
    · rw [if_neg (by omega), if_pos e] at h2 ⊢; exact h2
  · cases hB : B.getD t.toNat false with
    | false => rfl
    | true => rw [hB] at h1; simp at h1; omega

theorem target_of {s : Int} (h : targetB s = true) : 4 ≤ s ∧ s ≤ 16 ∧ s % 2 = 0 := by
  unfold targetB at h
  simp at h
  omega

end Go.Proofs.YtdbjklngnloibabGreat.form

/- Facts that are known ahead of each instruction: the greatest sets; places that are taken; they do what the program does. On plain numbers. -/
namespace Go.Proofs.YtdbjklngnloibabGreat.form
open Go.RowKit Go.Proofs.YtdbjklngnloibabGreat.num
set_option linter.unusedVariables false

/-- The numbers of the program. -/
def NumP (C : List LIns) (x : Int) : Prop := x = 0 ∨ ∃ k, k < C.length ∧ (C.getD k .zero).op = 1 ∧ (C.getD k .zero).n = x

/-- A way leads there, in so many steps. -/
def ReachN (C : List LIns) : Nat → Nat → Prop
  | 0, k => k = 0
  | n + 1, k => ∃ j, ReachN C n j ∧ j < C.length ∧ k ∈ nextsN (C.getD j .zero) j ∧ k < C.length
def Reach (C : List LIns) (k : Nat) : Prop := ∃ n, ReachN C n k

theorem reach_start (C : List LIns) : Reach C 0 := ⟨0, rfl⟩
theorem reach_next {C : List LIns} {j k : Nat} (h : Reach C j) (hj : j < C.length) (hk : k ∈ nextsN (C.getD j .zero) j) (hl : k < C.length) : Reach C k := by
  obtain ⟨n, hn⟩ := h
  exact ⟨n + 1, j, hn, hj, hk, hl⟩
/-- The least one. -/
theorem reach_least {C : List LIns} {P : Nat → Prop} (h0 : P 0) (h : ∀ j k, P j → j < C.length → k ∈ nextsN (C.getD j .zero) j → k < C.length → P k) : ∀ k, Reach C k → P k := by
  have : ∀ n k, ReachN C n k → P k := by
    intro n
    induction n with
    | zero => intro k hk; rw [show k = 0 from hk]; exact h0
    | succ n ih =>
      rintro k ⟨j, hj, hl, hk, hkl⟩
      exact h j k (ih j hj) hl hk hkl
  rintro k ⟨n, hn⟩
  exact this n k hn
theorem reach_lt {C : List LIns} (h1 : 1 ≤ C.length) {k : Nat} (h : Reach C k) : k < C.length := by
  refine reach_least (C := C) (P := fun k => k < C.length) h1 (fun _ _ _ _ _ h => h) k h

theorem moveK_mono {ok : LFact → Prop} {m : LMove} {K K' : LFact → Prop} (h : ∀ f, K f → K' f) {f : LFact} (hf : moveK ok m K f) : moveK ok m K' f := by
  refine ⟨hf.1, ?_⟩
  have hf := hf.2
  split at hf
  · rename_i h1; rw [if_pos h1]; exact h _ hf
  · rename_i h1
    rw [if_neg h1]
    refine ⟨hf.1, ?_⟩
    have hf := hf.2
    split at hf
    · rename_i h2; rw [if_pos h2]; exact h _ hf
    · rename_i h2
      rw [if_neg h2]
      split at hf
      · rename_i h3; rw [if_pos h3]; exact h _ hf
      · rename_i h3; rw [if_neg h3]; exact hf
theorem movesK_mono {ok : LFact → Prop} (l : List LMove) : ∀ {K K' : LFact → Prop}, (∀ f, K f → K' f) → ∀ f, movesK ok l K f → movesK ok l K' f := by
  induction l with
  | nil => exact fun h f hf => h f hf
  | cons m l ih => exact fun h f hf => ih (fun f hf => moveK_mono h hf) f hf
theorem insK_mono {ok : LFact → Prop} {i : LIns} {L : LPlace} {K K' : LFact → Prop} (h : ∀ f, K f → K' f) {f : LFact} (hf : insK ok i L K f) : insK ok i L K' f := by
  refine ⟨hf.1, ?_⟩
  have hf := hf.2
  split at hf
  · rename_i h1; rw [if_pos h1]; trivial
  rename_i h1
  rw [if_neg h1]
  split at hf
  · rename_i h2; rw [if_pos h2]; exact h _ hf
  rename_i h2
  rw [if_neg h2]
  split at hf
  · rename_i h3; rw [if_pos h3]; exact h _ hf
  rename_i h3
  rw [if_neg h3]
  split at hf
  · rename_i h4; rw [if_pos h4]; exact h _ hf
  rename_i h4
  rw [if_neg h4]
  split at hf
  · rename_i h5; rw [if_pos h5]; exact hf
  rename_i h5
  rw [if_neg h5]
  split at hf
  · rename_i h6; rw [if_pos h6]; trivial
  rename_i h6
  rw [if_neg h6]
  exact ⟨h _ hf.1, hf.2⟩
theorem thruK_mono {ok : LFact → Prop} {i : LIns} {r : LRow} {K K' : LFact → Prop} (h : ∀ f, K f → K' f) {f : LFact} (hf : thruK ok i r K f) : thruK ok i r K' f := by
  unfold thruK at hf ⊢
  refine movesK_mono _ (fun g hg => ?_) f hf
  split at hg
  · rename_i h1; rw [if_pos h1]; exact insK_mono (movesK_mono _ h) hg
  · rename_i h1; rw [if_neg h1]; exact movesK_mono _ h g hg
theorem usesK_mono {ok : LFact → Prop} {i : LIns} {r : LRow} {K K' : LFact → Prop} (h : ∀ f, K f → K' f) (hu : usesK ok i r K) : usesK ok i r K' :=
  ⟨fun hp => movesK_mono _ h _ (hu.1 hp), fun hp => movesK_mono _ h _ (hu.2 hp)⟩

/-- The greatest sets. -/
def Known (B : List Bool) (C : List LIns) (s slots : Int) (R : List LRow) (k : Nat) (f : LFact) : Prop := ∃ K, GoodK B C s slots R (NumP C) (Reach C) K ∧ K k f

theorem known_good (B : List Bool) (C : List LIns) (s slots : Int) (R : List LRow) : GoodK B C s slots R (NumP C) (Reach C) (Known B C s slots R) := by
  refine ⟨reach_start C, ?_, ?_, ?_⟩
  · rintro k f ⟨K, hK, hf⟩; exact hK.ok k f hf
  · rintro f ⟨K, hK, hf⟩; exact hK.beg f hf
  · intro k x hk hl hx hxl
    refine ⟨reach_next hk hl hx hxl, ?_⟩
    rintro f ⟨K, hK, hf⟩
    exact thruK_mono (fun g hg => ⟨K, hK, hg⟩) ((hK.next k x hk hl hx hxl).2 f hf)

/-- Places that are taken. -/
def TakenP (B : List Bool) (C : List LIns) (s slots : Int) (R : List LRow) : Prop :=
  placeMayB B C s slots R = true ∧ ∀ k, Reach C k → k < C.length → usesK (FactOk B s slots (NumP C)) (C.getD k .zero) (R.getD k .zero) (Known B C s slots R k)

/-- Sets that were found: within them are the greatest ones, and they go on as they must. -/
theorem found_known {B : List Bool} {C : List LIns} {s slots : Int} {R : List LRow} {S : Nat → LFact → Prop} (hok : ∀ k f, S k f → FactOk B s slots (NumP C) f) (hbeg : ∀ f, S 0 f → f.n = 0)
    (hnext : ∀ k x, Reach C k → k < C.length → x ∈ nextsN (C.getD k .zero) k → x < C.length → ∀ f, S x f → thruK (FactOk B s slots (NumP C)) (C.getD k .zero) (R.getD k .zero) (S k) f)
    (hup : ∀ k f, Reach C k → Known B C s slots R k f → S k f) {k : Nat} (hk : Reach C k) (f : LFact) : S k f ↔ Known B C s slots R k f :=
  ⟨fun h => ⟨S, ⟨reach_start C, hok, hbeg, fun k x hk hl hx hxl => ⟨reach_next hk hl hx hxl, hnext k x hk hl hx hxl⟩⟩, h⟩, hup k f hk⟩

end Go.Proofs.YtdbjklngnloibabGreat.form

/- All facts that may be, in their order, as a list on plain numbers; the numbers of a program, rising. -/
namespace Go.Proofs.YtdbjklngnloibabGreat.form
open Go.RowKit Go.Proofs.YtdbjklngnloibabGreat.num
set_option linter.unusedVariables false

/-- A number put into rising ones. -/
def insN (n : Int) : List Int → List Int
  | [] => [n]
  | x :: l => if x < n then x :: insN n l else if x = n then x :: l else n :: x :: l

theorem mem_insN {n y : Int} : ∀ {l : List Int}, y ∈ insN n l ↔ y = n ∨ y ∈ l
  | [] => by simp [insN]
  | x :: l => by
    unfold insN
    split
    · rw [List.mem_cons, mem_insN, List.mem_cons]
      constructor
      · rintro (h | h | h)
        · exact Or.inr (Or.inl h)
        · exact Or.inl h
        · exact Or.inr (Or.inr h)
      · rintro (h | h | h)
        · exact Or.inr (Or.inl h)
        · exact Or.inl h
        · exact Or.inr (Or.inr h)
    · split
      · rename_i h
        subst h
        simp
      · simp

theorem insN_sorted {n : Int} : ∀ {l : List Int}, l.Pairwise (· < ·) → (insN n l).Pairwise (· < ·)
  | [], _ => by simp [insN]
  | x :: l, h => by
    unfold insN
    rw [List.pairwise_cons] at h
    split
    · rename_i h1
      rw [List.pairwise_cons]
      refine ⟨fun y hy => ?_, insN_sorted h.2⟩
      rcases mem_insN.1 hy with rfl | hy
      · exact h1
      · exact h.1 y hy
    · split
      · rw [List.pairwise_cons]; exact h
      · rw [List.pairwise_cons, List.pairwise_cons]
        refine ⟨fun y hy => ?_, h⟩
        rcases List.mem_cons.1 hy with rfl | hy
        · omega
        · have := h.1 y hy; omega

/-- Where it goes. -/
theorem insN_at {n : Int} : ∀ {l : List Int} {k : Nat}, (∀ j, j < k → l.getD j 0 < n) → k ≤ l.length → (k < l.length → ¬ l.getD k 0 < n) → insN n l = if k < l.length ∧ l.getD k 0 = n then l else l.take k ++ n :: l.drop k
  | [], k, _, hk, _ => by
    have : k = 0 := by simpa using hk
    subst this
    simp [insN]
  | x :: l, 0, _, _, h => by
    have h0 := h (by simp)
    simp at h0
    unfold insN
    rw [if_neg (by omega)]
    by_cases e : x = n
    · simp [e]
    · simp [e]
  | x :: l, k + 1, h1, hk, h2 => by
    have h0 := h1 0 (by omega)
    simp at h0
    unfold insN
    rw [if_pos h0, insN_at (l := l) (k := k) (fun j hj => by have := h1 (j + 1) (by omega); simpa using this) (by simpa using hk) (fun hl => by have := h2 (by simpa using hl); simpa using this)]
    simp only [List.length_cons, Nat.add_lt_add_iff_right, List.getD_cons_succ, List.take_succ_cons, List.drop_succ_cons]
    split <;> simp

/-- The numbers of a program, rising. -/
def numsL (C : List LIns) : List Int := C.foldl (fun l i => if i.op = 1 then insN i.n l else l) [0]

theorem nums_fold (C : List LIns) : ∀ (l : List Int), l.Pairwise (· < ·) → (C.foldl (fun l i => if i.op = 1 then insN i.n l else l) l).Pairwise (· < ·) ∧ ∀ x, x ∈ C.foldl (fun l i => if i.op = 1 then insN i.n l else l) l ↔ x ∈ l ∨ ∃ i, i ∈ C ∧ i.op = 1 ∧ i.n = x := by
  induction C with
  | nil => exact fun l h => ⟨h, fun x => by simp⟩
  | cons i C ih =>
    intro l h
    simp only [List.foldl_cons]
    by_cases e : i.op = 1
    · rw [if_pos e]
      obtain ⟨a, b⟩ := ih (insN i.n l) (insN_sorted h)
      refine ⟨a, fun x => ?_⟩
      rw [b, mem_insN]
      constructor
      · rintro ((rfl | h1) | ⟨i', h1, h2, h3⟩)
        · exact Or.inr ⟨i, by simp, e, rfl⟩
        · exact Or.inl h1
        · exact Or.inr ⟨i', by simp [h1], h2, h3⟩
      · rintro (h1 | ⟨i', h1, h2, h3⟩)
        · exact Or.inl (Or.inr h1)
        · rcases List.mem_cons.1 h1 with rfl | h1
          · exact Or.inl (Or.inl h3.symm)
          · exact Or.inr ⟨i', h1, h2, h3⟩
    · rw [if_neg e]
      obtain ⟨a, b⟩ := ih l h
      refine ⟨a, fun x => ?_⟩
      rw [b]
      constructor
      · rintro (h1 | ⟨i', h1, h2, h3⟩)
        · exact Or.inl h1
        · exact Or.inr ⟨i', by simp [h1], h2, h3⟩
      · rintro (h1 | ⟨i', h1, h2, h3⟩)
        · exact Or.inl h1
        · rcases List.mem_cons.1 h1 with rfl | h1
          · exact absurd h2 e
          · exact Or.inr ⟨i', h1, h2, h3⟩

theorem nums_sorted (C : List LIns) : (numsL C).Pairwise (· < ·) := (nums_fold C [0] (by simp)).1
theorem nums_mem (C : List LIns) (x : Int) : x ∈ numsL C ↔ NumP C x := by
  unfold numsL NumP
  rw [(nums_fold C [0] (by simp)).2]
  constructor
  · rintro (h | ⟨i, h, h2, h3⟩)
    · exact Or.inl (by simpa using h)
    · obtain ⟨k, hk, rfl⟩ := List.getElem_of_mem h
      exact Or.inr ⟨k, hk, by simpa [List.getD, hk] using h2, by simpa [List.getD, hk] using h3⟩
  · rintro (h | ⟨k, hk, h2, h3⟩)
    · exact Or.inl (by simp [h])
    · exact Or.inr ⟨C.getD k .zero, by simp [List.getD, hk], h2, h3⟩

theorem insN_len (n : Int) : ∀ l : List Int, (insN n l).length ≤ l.length + 1
  | [] => by simp [insN]
  | x :: l => by
    unfold insN
    split
    · have := insN_len n l; simp; omega
    · split <;> simp
theorem nums_len (C : List LIns) : (numsL C).length ≤ C.length + 1 := by
  have : ∀ (C : List LIns) (l : List Int), (C.foldl (fun l i => if i.op = 1 then insN i.n l else l) l).length ≤ C.length + l.length := by
    intro C
    induction C with
    | nil => intro l; simp
    | cons i C ih =>
      intro l
      simp only [List.foldl_cons, List.length_cons]
      refine Nat.le_trans (ih _) ?_
      split
      · have := insN_len i.n l; omega
      · omega
  exact this C [0]

/-- May a place have a temporary? -/
def mayK (B : List Bool) (kind : Int) (x : Nat) : Bool := (kind == 3) || ((kind == 1) && !(B.getD x false)) || ((kind == 2) && B.getD x false)

def tempF (B : List Bool) (N : List Int) (x : Nat) : List LFact := if B.getD x false = true then [] else N.map fun n => ⟨.zero, true, x, n⟩
def placeF (B : List Bool) (N : List Int) (kind : Int) (n : Nat) : List LFact :=
  (if kind = 2 then [] else N.map fun v => ⟨⟨kind, n⟩, false, 0, v⟩) ++ ((List.range B.length).filter (mayK B kind)).map fun (x : Nat) => (⟨⟨kind, n⟩, true, x, 0⟩ : LFact)
def kindF (B : List Bool) (N : List Int) (kind : Int) (many : Nat) : List LFact := (List.range many).flatMap (placeF B N kind)
def allF (B : List Bool) (N : List Int) (s slots : Nat) : List LFact :=
  (List.range B.length).flatMap (tempF B N) ++ kindF B N 1 s ++ kindF B N 2 (s / 2) ++ kindF B N 3 slots

theorem mem_tempF {B : List Bool} {N : List Int} {x : Nat} {f : LFact} : f ∈ tempF B N x ↔ B.getD x false = false ∧ f.pl = .zero ∧ f.temp = true ∧ f.t = x ∧ f.n ∈ N := by
  unfold tempF
  cases h : B.getD x false with
  | true => simp
  | false =>
    simp only [Bool.false_eq_true, if_false, List.mem_map]
    constructor
    · rintro ⟨n, hn, rfl⟩; exact ⟨trivial, rfl, rfl, rfl, hn⟩
    · rintro ⟨_, h1, h2, h3, h4⟩
      obtain ⟨p, t, x', n⟩ := f
      simp only at h1 h2 h3 h4
      subst h1 h2 h3
      exact ⟨n, h4, rfl⟩

theorem mem_placeF {B : List Bool} {N : List Int} {kind : Int} {n : Nat} {f : LFact} : f ∈ placeF B N kind n ↔ f.pl = ⟨kind, n⟩ ∧ ((¬ kind = 2 ∧ f.temp = false ∧ f.t = 0 ∧ f.n ∈ N) ∨ (f.temp = true ∧ f.n = 0 ∧ ∃ x : Nat, x < B.length ∧ f.t = x ∧ mayK B kind x = true)) := by
  unfold placeF
  rw [List.mem_append]
  constructor
  · rintro (h | h)
    · split at h
      · simp at h
      · rename_i hk
        obtain ⟨v, hv, rfl⟩ := List.mem_map.1 h
        exact ⟨rfl, Or.inl ⟨hk, rfl, rfl, hv⟩⟩
    · obtain ⟨x, hx, rfl⟩ := List.mem_map.1 h
      rw [List.mem_filter, List.mem_range] at hx
      exact ⟨rfl, Or.inr ⟨rfl, rfl, x, hx.1, rfl, hx.2⟩⟩
  · obtain ⟨p, t, x', v⟩ := f
    rintro ⟨h, ⟨hk, h1, h2, h3⟩ | ⟨h1, h2, x, hx, h3, h4⟩⟩
    · simp only at h h1 h2 h3
      subst h h1 h2
      rw [if_neg hk]
      exact Or.inl (List.mem_map.2 ⟨v, h3, rfl⟩)
    · simp only at h h1 h2 h3
      subst h h1 h2 h3
      exact Or.inr (List.mem_map.2 ⟨x, by rw [List.mem_filter, List.mem_range]; exact ⟨hx, h4⟩, rfl⟩)

theorem mem_kindF {B : List Bool} {N : List Int} {kind : Int} {many : Nat} {f : LFact} : f ∈ kindF B N kind many ↔ ∃ n : Nat, n < many ∧ f ∈ placeF B N kind n := by
  unfold kindF
  rw [List.mem_flatMap]
  constructor
  · rintro ⟨n, hn, h⟩; exact ⟨n, by simpa using hn, h⟩
  · rintro ⟨n, hn, h⟩; exact ⟨n, by simpa using hn, h⟩

theorem pl_ext {p q : LPlace} (h1 : p.kind = q.kind) (h2 : p.n = q.n) : p = q := by
  obtain ⟨a, b⟩ := p
  obtain ⟨c, d⟩ := q
  simp only at h1 h2
  rw [h1, h2]

/-- They are those that may be. -/
theorem mem_allF {B : List Bool} {N : List Int} {s slots : Nat} (hs : s % 2 = 0) (hs2 : s ≤ 16) {f : LFact} : f ∈ allF B N s slots ↔ FactOk B s slots (· ∈ N) f := by
  unfold allF
  simp only [List.mem_append, List.mem_flatMap, List.mem_range, mem_tempF, mem_kindF, mem_placeF]
  constructor
  · rintro (((⟨x, hx, h0, h1, h2, h3, h4⟩ | ⟨n, hn, h1, h⟩) | ⟨n, hn, h1, h⟩) | ⟨n, hn, h1, h⟩)
    · have hk : f.pl.kind = 0 := by rw [h1]; rfl
      have hk2 : f.pl.n = 0 := by rw [h1]; rfl
      exact ⟨Or.inl ⟨hk, hk2, h2⟩, fun _ => by omega, fun _ _ => by rw [h3]; simpa using h0, fun _ e => by omega, fun _ => h4, fun e => absurd hk e, fun e => by rw [h2] at e; exact absurd e (by simp), fun e => by rw [h2] at e; exact absurd e (by simp)⟩
    · have hk : f.pl.kind = 1 := by rw [h1]
      have hn' : f.pl.n = n := by rw [h1]
      have his : isB s slots f.pl = true := by unfold isB; rw [if_pos hk]; simp; omega
      rcases h with ⟨h2, h3, h4, h5⟩ | ⟨h2, h3, x, hx, h4, h5⟩
      · exact ⟨Or.inr his, fun e => by rw [h3] at e; exact absurd e (by simp), fun e => by rw [h3] at e; exact absurd e (by simp), fun e => by rw [h3] at e; exact absurd e (by simp), fun _ => h5, fun _ e => by rw [h3] at e; exact absurd e (by simp), fun _ => h4, fun _ => by omega⟩
      · unfold mayK at h5
        simp at h5
        exact ⟨Or.inr his, fun _ => by omega, fun _ _ => by rw [h4]; simpa using h5, fun _ e => by omega, fun e => by rcases e with e | e; omega; rw [h2] at e; exact absurd e (by simp), fun _ _ => h3, fun e => by rw [h2] at e; exact absurd e (by simp), fun e => by rw [h2] at e; exact absurd e (by simp)⟩
    · have hk : f.pl.kind = 2 := by rw [h1]
      have hn' : f.pl.n = n := by rw [h1]
      have his : isB s slots f.pl = true := by unfold isB; rw [if_neg (by omega), if_pos hk]; simp; omega
      rcases h with ⟨h2, h3, h4, h5⟩ | ⟨h2, h3, x, hx, h4, h5⟩
      · exact absurd trivial h2
      · unfold mayK at h5
        simp at h5
        exact ⟨Or.inr his, fun _ => by omega, fun _ e => by omega, fun _ _ => by rw [h4]; simpa using h5, fun e => by rcases e with e | e; omega; rw [h2] at e; exact absurd e (by simp), fun _ _ => h3, fun e => by rw [h2] at e; exact absurd e (by simp), fun e => by rw [h2] at e; exact absurd e (by simp)⟩
    · have hk : f.pl.kind = 3 := by rw [h1]
      have hn' : f.pl.n = n := by rw [h1]
      have his : isB s slots f.pl = true := by unfold isB; rw [if_neg (by omega), if_neg (by omega), if_pos hk]; simp; omega
      rcases h with ⟨h2, h3, h4, h5⟩ | ⟨h2, h3, x, hx, h4, h5⟩
      · exact ⟨Or.inr his, fun e => by rw [h3] at e; exact absurd e (by simp), fun e => by rw [h3] at e; exact absurd e (by simp), fun e => by rw [h3] at e; exact absurd e (by simp), fun _ => h5, fun _ e => by rw [h3] at e; exact absurd e (by simp), fun _ => h4, fun _ => by omega⟩
      · exact ⟨Or.inr his, fun _ => by omega, fun _ e => by omega, fun _ e => by omega, fun e => by rcases e with e | e; omega; rw [h2] at e; exact absurd e (by simp), fun _ _ => h3, fun e => by rw [h2] at e; exact absurd e (by simp), fun e => by rw [h2] at e; exact absurd e (by simp)⟩
  · intro h
    by_cases h0 : f.pl.kind = 0
    · have hp : f.pl.n = 0 ∧ f.temp = true := by rcases h.pl with hp | hp; exact hp.2; exact absurd h0 (is_kind hp)
      obtain ⟨t0, t1⟩ := h.t hp.2
      refine Or.inl (Or.inl (Or.inl ⟨f.t.toNat, by omega, ?_, pl_ext h0 hp.1, hp.2, by omega, h.num (Or.inl h0)⟩))
      exact h.nar hp.2 (Or.inl h0)
    · have his : isB s slots f.pl = true := by rcases h.pl with hp | hp; exact absurd hp.1 h0; exact hp
      rcases is_cases his with ⟨e, a, b⟩ | ⟨e, a, b⟩ | ⟨e, a, b⟩
      · refine Or.inl (Or.inl (Or.inr ⟨f.pl.n.toNat, by omega, pl_ext e (by simp only; omega), ?_⟩))
        cases ht : f.temp with
        | false => exact Or.inl ⟨by omega, rfl, h.zt ht, h.num (Or.inr ht)⟩
        | true =>
          obtain ⟨t0, t1⟩ := h.t ht
          refine Or.inr ⟨rfl, h.zn h0 ht, f.t.toNat, by omega, by omega, ?_⟩
          have := h.nar ht (Or.inr e)
          unfold mayK
          rw [this]
          rfl
      · refine Or.inl (Or.inr ⟨f.pl.n.toNat, by omega, pl_ext e (by simp only; omega), ?_⟩)
        cases ht : f.temp with
        | false => exact absurd e (h.dbl ht)
        | true =>
          obtain ⟨t0, t1⟩ := h.t ht
          refine Or.inr ⟨rfl, h.zn h0 ht, f.t.toNat, by omega, by omega, ?_⟩
          have := h.wid ht e
          unfold mayK
          rw [this]
          rfl
      · refine Or.inr ⟨f.pl.n.toNat, by omega, pl_ext e (by simp only; omega), ?_⟩
        cases ht : f.temp with
        | false => exact Or.inl ⟨by omega, rfl, h.zt ht, h.num (Or.inr ht)⟩
        | true =>
          obtain ⟨t0, t1⟩ := h.t ht
          exact Or.inr ⟨rfl, h.zn h0 ht, f.t.toNat, by omega, by omega, rfl⟩

/-- Their order. -/
def factLt (f g : LFact) : Prop :=
  f.pl.kind < g.pl.kind ∨ (f.pl.kind = g.pl.kind ∧ (f.pl.n < g.pl.n ∨ (f.pl.n = g.pl.n ∧ ((f.temp = false ∧ g.temp = true) ∨ (f.temp = g.temp ∧ (f.t < g.t ∨ (f.t = g.t ∧ f.n < g.n)))))))

theorem factLt_ne {f : LFact} : ¬ factLt f f := by
  unfold factLt
  rintro (h | ⟨_, h | ⟨_, ⟨h1, h2⟩ | ⟨_, h | ⟨_, h⟩⟩⟩⟩)
  · omega
  · omega
  · rw [h1] at h2; exact absurd h2 (by simp)
  · omega
  · omega

theorem place_sorted {B : List Bool} {N : List Int} (hN : N.Pairwise (· < ·)) (kind : Int) (n : Nat) : (placeF B N kind n).Pairwise factLt := by
  unfold placeF
  rw [List.pairwise_append]
  refine ⟨?_, ?_, ?_⟩
  · split
    · exact List.Pairwise.nil
    · rw [List.pairwise_map]
      exact hN.imp (fun {a b} h => Or.inr ⟨rfl, Or.inr ⟨rfl, Or.inr ⟨rfl, Or.inr ⟨rfl, h⟩⟩⟩⟩)
  · rw [List.pairwise_map]
    refine (List.pairwise_lt_range.filter _).imp (fun {a b} h => Or.inr ⟨rfl, Or.inr ⟨rfl, Or.inr ⟨rfl, Or.inl ?_⟩⟩⟩)
    show (a : Int) < (b : Int)
    omega
  · intro f hf g hg
    split at hf
    · simp at hf
    · obtain ⟨v, _, rfl⟩ := List.mem_map.1 hf
      obtain ⟨x, _, rfl⟩ := List.mem_map.1 hg
      exact Or.inr ⟨rfl, Or.inr ⟨rfl, Or.inl ⟨rfl, rfl⟩⟩⟩

theorem kind_sorted {B : List Bool} {N : List Int} (hN : N.Pairwise (· < ·)) (kind : Int) (many : Nat) : (kindF B N kind many).Pairwise factLt := by
  unfold kindF
  rw [List.pairwise_flatMap]
  refine ⟨fun n _ => place_sorted hN kind n, ?_⟩
  refine List.pairwise_lt_range.imp (fun {a b} h f hf g hg => ?_)
  have h1 := (mem_placeF.1 hf).1
  have h2 := (mem_placeF.1 hg).1
  exact Or.inr ⟨by rw [h1, h2], Or.inl (by rw [h1, h2]; simp only; omega)⟩

theorem temp_sorted {B : List Bool} {N : List Int} (hN : N.Pairwise (· < ·)) : ((List.range B.length).flatMap (tempF B N)).Pairwise factLt := by
  rw [List.pairwise_flatMap]
  refine ⟨fun x _ => ?_, ?_⟩
  · unfold tempF
    split
    · exact List.Pairwise.nil
    · rw [List.pairwise_map]
      exact hN.imp (fun {a b} h => Or.inr ⟨rfl, Or.inr ⟨rfl, Or.inr ⟨rfl, Or.inr ⟨rfl, h⟩⟩⟩⟩)
  · refine List.pairwise_lt_range.imp (fun {a b} h f hf g hg => ?_)
    obtain ⟨_, h1, h2, h3, _⟩ := mem_tempF.1 hf
    obtain ⟨_, k1, k2, k3, _⟩ := mem_tempF.1 hg
    exact Or.inr ⟨by rw [h1, k1], Or.inr ⟨by rw [h1, k1], Or.inr ⟨by rw [h2, k2], Or.inl (by rw [h3, k3]; omega)⟩⟩⟩

theorem all_sorted {B : List Bool} {N : List Int} (hN : N.Pairwise (· < ·)) (s slots : Nat) : (allF B N s slots).Pairwise factLt := by
  have hk : ∀ kind many f, f ∈ kindF B N kind many → f.pl.kind = kind := fun kind many f hf => by
    obtain ⟨n, _, h⟩ := mem_kindF.1 hf
    rw [(mem_placeF.1 h).1]
  have h0 : ∀ f, f ∈ (List.range B.length).flatMap (tempF B N) → f.pl.kind = 0 := fun f hf => by
    obtain ⟨x, _, h⟩ := List.mem_flatMap.1 hf
    rw [(mem_tempF.1 h).2.1]; rfl
  unfold allF
  rw [List.pairwise_append, List.pairwise_append, List.pairwise_append]
  refine ⟨⟨⟨temp_sorted hN, kind_sorted hN 1 s, fun f hf g hg => Or.inl (by rw [h0 f hf, hk _ _ g hg]; omega)⟩, kind_sorted hN 2 _, fun f hf g hg => Or.inl ?_⟩, kind_sorted hN 3 _, fun f hf g hg => Or.inl ?_⟩
  · rw [hk _ _ g hg]
    rcases List.mem_append.1 hf with hf | hf
    · rw [h0 f hf]; omega
    · rw [hk _ _ f hf]; omega
  · rw [hk _ _ g hg]
    rcases List.mem_append.1 hf with hf | hf
    · rcases List.mem_append.1 hf with hf | hf
      · rw [h0 f hf]; omega
      · rw [hk _ _ f hf]; omega
    · rw [hk _ _ f hf]; omega

/-- Each stands once. -/
theorem sorted_inj {F : List LFact} (h : F.Pairwise factLt) {i j : Nat} {f : LFact} (hi : F[i]? = some f) (hj : F[j]? = some f) : i = j := by
  obtain ⟨hi', rfl⟩ := List.getElem?_eq_some_iff.1 hi
  obtain ⟨hj', e⟩ := List.getElem?_eq_some_iff.1 hj
  rw [List.pairwise_iff_getElem] at h
  rcases Nat.lt_trichotomy i j with hlt | hlt | hlt
  · have := h i j hi' hj' hlt
    rw [e] at this
    exact absurd this factLt_ne
  · exact hlt
  · have := h j i hj' hi' hlt
    rw [e] at this
    exact absurd this factLt_ne

end Go.Proofs.YtdbjklngnloibabGreat.form
