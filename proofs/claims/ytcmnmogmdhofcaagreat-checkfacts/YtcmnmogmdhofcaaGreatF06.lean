/- A machine in its places, on plain numbers; where what is taken is where it is said to be, it shows what the program shows. -/
import Derived.Test.YtcmnmogmdhofcaaGreatProg
import Derived.WalkKit
import Derived.Test.YtcmnmogmdhofcaaGreatF05

namespace Go.Proofs.YtcmnmogmdhofcaaGreat.form
open Go.RowKit Go.Proofs.YtcmnmogmdhofcaaGreat.num
set_option linter.unusedVariables false
def thruK (ok : LFact → Prop) (i : LIns) (r : LRow) (K : LFact → Prop) : LFact → Prop :=
  movesK ok r.after (if givesB i.op = true then insK ok i r.dest (movesK ok r.before K) else movesK ok r.before K)

def usesK (ok : LFact → Prop) (i : LIns) (r : LRow) (K : LFact → Prop) : Prop :=
  (0 < manyI i.op → movesK ok r.before K ⟨r.a, true, i.a, 0⟩) ∧ (1 < manyI i.op → movesK ok r.before K ⟨r.b, true, i.b, 0⟩)

structure GoodK (B : List Bool) (C : List LIns) (s slots : Int) (R : List LRow) (num : Int → Prop) (come : Nat → Prop) (K : Nat → LFact → Prop) : Prop where
  c0 : come 0
  ok : ∀ k f, K k f → FactOk B s slots num f
  beg : ∀ f, K 0 f → f.n = 0
  next : ∀ k x, come k → k < C.length → x ∈ nextsN (C.getD k .zero) k → x < C.length → come x ∧ ∀ f, K x f → thruK (FactOk B s slots num) (C.getD k .zero) (R.getD k .zero) (K k) f

theorem reg_is {B : List Bool} {s slots t : Int} {p : LPlace} (h : regB B s t p = true) : isB s slots p = true ∧ (p.kind = 1 ∨ p.kind = 2) ∧ (p.kind = 1 → B.getD t.toNat false = false) := by
  unfold regB at h
  rw [Bool.and_eq_true] at h
  obtain ⟨h1, h2⟩ := h
  have hk : p.kind = 1 ∨ p.kind = 2 := by cases hB : B.getD t.toNat false <;> rw [hB] at h1 <;> simp at h1 <;> omega
  refine ⟨?_, hk, fun e => ?_⟩
  · unfold isB at h2 ⊢
    rcases hk with e | e
    · rw [if_pos e] at h2 ⊢; exact h2
    · rw [if_neg (by omega), if_pos e] at h2 ⊢; exact h2
  · cases hB : B.getD t.toNat false with
    | false => rfl
    | true => rw [hB] at h1; simp at h1; omega

theorem target_of {s : Int} (h : targetB s = true) : 4 ≤ s ∧ s ≤ 16 ∧ s % 2 = 0 := by
  unfold targetB at h
  simp at h
  omega

end Go.Proofs.YtcmnmogmdhofcaaGreat.form

/- Facts that are known ahead of each instruction: the greatest sets; places that are taken; they do what the program does. On plain numbers. -/
namespace Go.Proofs.YtcmnmogmdhofcaaGreat.form
open Go.RowKit Go.Proofs.YtcmnmogmdhofcaaGreat.num
set_option linter.unusedVariables false

def NumP (C : List LIns) (x : Int) : Prop := x = 0 ∨ ∃ k, k < C.length ∧ (C.getD k .zero).op = 1 ∧ (C.getD k .zero).n = x

def ReachN (C : List LIns) : Nat → Nat → Prop
  | 0, k => k = 0
  | n + 1, k => ∃ j, ReachN C n j ∧ j < C.length ∧ k ∈ nextsN (C.getD j .zero) j ∧ k < C.length
def Reach (C : List LIns) (k : Nat) : Prop := ∃ n, ReachN C n k

theorem reach_start (C : List LIns) : Reach C 0 := ⟨0, rfl⟩
theorem reach_next {C : List LIns} {j k : Nat} (h : Reach C j) (hj : j < C.length) (hk : k ∈ nextsN (C.getD j .zero) j) (hl : k < C.length) : Reach C k := by
  obtain ⟨n, hn⟩ := h
  exact ⟨n + 1, j, hn, hj, hk, hl⟩
theorem reach_least {C : List LIns} {P : Nat → Prop} (h0 : P 0) (h : ∀ j k, P j → j < C.length → k ∈ nextsN (C.getD j .zero) j → k < C.length → P k) : ∀ k, Reach C k → P k := by
  have : ∀ n k, ReachN C n k → P k := by
    intro n
    induction n with
    | zero => intro k hk; rw [show k = 0 from hk]; exact h0
    | succ n ih =>
      rintro k ⟨j, hj, hl, hk, hkl⟩
      exact h j k (ih j hj) hl hk hkl
  rintro k ⟨n, hn⟩
  exact this n k hn
theorem reach_lt {C : List LIns} (h1 : 1 ≤ C.length) {k : Nat} (h : Reach C k) : k < C.length := by
  refine reach_least (C := C) (P := fun k => k < C.length) h1 (fun _ _ _ _ _ h => h) k h

theorem moveK_mono {ok : LFact → Prop} {m : LMove} {K K' : LFact → Prop} (h : ∀ f, K f → K' f) {f : LFact} (hf : moveK ok m K f) : moveK ok m K' f := by
  refine ⟨hf.1, ?_⟩
  have hf := hf.2
  split at hf
  · rename_i h1; rw [if_pos h1]; exact h _ hf
  · rename_i h1
    rw [if_neg h1]
    refine ⟨hf.1, ?_⟩
    have hf := hf.2
    split at hf
    · rename_i h2; rw [if_pos h2]; exact h _ hf
    · rename_i h2
      rw [if_neg h2]
      split at hf
      · rename_i h3; rw [if_pos h3]; exact h _ hf
      · rename_i h3; rw [if_neg h3]; exact hf
theorem movesK_mono {ok : LFact → Prop} (l : List LMove) : ∀ {K K' : LFact → Prop}, (∀ f, K f → K' f) → ∀ f, movesK ok l K f → movesK ok l K' f := by
  induction l with
  | nil => exact fun h f hf => h f hf
  | cons m l ih => exact fun h f hf => ih (fun f hf => moveK_mono h hf) f hf
theorem insK_mono {ok : LFact → Prop} {i : LIns} {L : LPlace} {K K' : LFact → Prop} (h : ∀ f, K f → K' f) {f : LFact} (hf : insK ok i L K f) : insK ok i L K' f := by
  refine ⟨hf.1, ?_⟩
  have hf := hf.2
  split at hf
  · rename_i h1; rw [if_pos h1]; trivial
  rename_i h1
  rw [if_neg h1]
  split at hf
  · rename_i h2; rw [if_pos h2]; exact h _ hf
  rename_i h2
  rw [if_neg h2]
  split at hf
  · rename_i h3; rw [if_pos h3]; exact h _ hf
  rename_i h3
  rw [if_neg h3]
  split at hf
  · rename_i h4; rw [if_pos h4]; exact h _ hf
  rename_i h4
  rw [if_neg h4]
  split at hf
  · rename_i h5; rw [if_pos h5]; exact hf
  rename_i h5
  rw [if_neg h5]
  split at hf
  · rename_i h6; rw [if_pos h6]; trivial
  rename_i h6
  rw [if_neg h6]
  exact ⟨h _ hf.1, hf.2⟩
theorem thruK_mono {ok : LFact → Prop} {i : LIns} {r : LRow} {K K' : LFact → Prop} (h : ∀ f, K f → K' f) {f : LFact} (hf : thruK ok i r K f) : thruK ok i r K' f := by
  unfold thruK at hf ⊢
  refine movesK_mono _ (fun g hg => ?_) f hf
  split at hg
  · rename_i h1; rw [if_pos h1]; exact insK_mono (movesK_mono _ h) hg
  · rename_i h1; rw [if_neg h1]; exact movesK_mono _ h g hg
theorem usesK_mono {ok : LFact → Prop} {i : LIns} {r : LRow} {K K' : LFact → Prop} (h : ∀ f, K f → K' f) (hu : usesK ok i r K) : usesK ok i r K' :=
  ⟨fun hp => movesK_mono _ h _ (hu.1 hp), fun hp => movesK_mono _ h _ (hu.2 hp)⟩

def Known (B : List Bool) (C : List LIns) (s slots : Int) (R : List LRow) (k : Nat) (f : LFact) : Prop := ∃ K, GoodK B C s slots R (NumP C) (Reach C) K ∧ K k f

theorem known_good (B : List Bool) (C : List LIns) (s slots : Int) (R : List LRow) : GoodK B C s slots R (NumP C) (Reach C) (Known B C s slots R) := by
  refine ⟨reach_start C, ?_, ?_, ?_⟩
  · rintro k f ⟨K, hK, hf⟩; exact hK.ok k f hf
  · rintro f ⟨K, hK, hf⟩; exact hK.beg f hf
  · intro k x hk hl hx hxl
    refine ⟨reach_next hk hl hx hxl, ?_⟩
    rintro f ⟨K, hK, hf⟩
    exact thruK_mono (fun g hg => ⟨K, hK, hg⟩) ((hK.next k x hk hl hx hxl).2 f hf)

theorem found_known {B : List Bool} {C : List LIns} {s slots : Int} {R : List LRow} {S : Nat → LFact → Prop} (hok : ∀ k f, S k f → FactOk B s slots (NumP C) f) (hbeg : ∀ f, S 0 f → f.n = 0)
    (hnext : ∀ k x, Reach C k → k < C.length → x ∈ nextsN (C.getD k .zero) k → x < C.length → ∀ f, S x f → thruK (FactOk B s slots (NumP C)) (C.getD k .zero) (R.getD k .zero) (S k) f)
    (hup : ∀ k f, Reach C k → Known B C s slots R k f → S k f) {k : Nat} (hk : Reach C k) (f : LFact) : S k f ↔ Known B C s slots R k f :=
  ⟨fun h => ⟨S, ⟨reach_start C, hok, hbeg, fun k x hk hl hx hxl => ⟨reach_next hk hl hx hxl, hnext k x hk hl hx hxl⟩⟩, h⟩, hup k f hk⟩

end Go.Proofs.YtcmnmogmdhofcaaGreat.form

/- All facts that may be, in their order, as a list on plain numbers; the numbers of a program, rising. -/
namespace Go.Proofs.YtcmnmogmdhofcaaGreat.form
open Go.RowKit Go.Proofs.YtcmnmogmdhofcaaGreat.num
set_option linter.unusedVariables false

def insN (n : Int) : List Int → List Int
  | [] => [n]
  | x :: l => if x < n then x :: insN n l else if x = n then x :: l else n :: x :: l

theorem mem_insN {n y : Int} : ∀ {l : List Int}, y ∈ insN n l ↔ y = n ∨ y ∈ l
  | [] => by simp [insN]
  | x :: l => by
    unfold insN
    split
    · rw [List.mem_cons, mem_insN, List.mem_cons]
      constructor
      · rintro (h | h | h)
        · exact Or.inr (Or.inl h)
        · exact Or.inl h
        · exact Or.inr (Or.inr h)
      · rintro (h | h | h)
        · exact Or.inr (Or.inl h)
        · exact Or.inl h
        · exact Or.inr (Or.inr h)
    · split
      · rename_i h
        subst h
        simp
      · simp

theorem insN_sorted {n : Int} : ∀ {l : List Int}, l.Pairwise (· < ·) → (insN n l).Pairwise (· < ·)
  | [], _ => by simp [insN]
  | x :: l, h => by
    unfold insN
    rw [List.pairwise_cons] at h
    split
    · rename_i h1
      rw [List.pairwise_cons]
      refine ⟨fun y hy => ?_, insN_sorted h.2⟩
      rcases mem_insN.1 hy with rfl | hy
      · exact h1
      · exact h.1 y hy
    · split
      · rw [List.pairwise_cons]; exact h
      · rw [List.pairwise_cons, List.pairwise_cons]
        refine ⟨fun y hy => ?_, h⟩
        rcases List.mem_cons.1 hy with rfl | hy
        · omega
        · have := h.1 y hy; omega

theorem insN_at {n : Int} : ∀ {l : List Int} {k : Nat}, (∀ j, j < k → l.getD j 0 < n) → k ≤ l.length → (k < l.length → ¬ l.getD k 0 < n) → insN n l = if k < l.length ∧ l.getD k 0 = n then l else l.take k ++ n :: l.drop k
  | [], k, _, hk, _ => by
    have : k = 0 := by simpa using hk
    subst this
    simp [insN]
  | x :: l, 0, _, _, h => by
    have h0 := h (by simp)
    simp at h0
    unfold insN
    rw [if_neg (by omega)]
    by_cases e : x = n
    · simp [e]
    · simp [e]
  | x :: l, k + 1, h1, hk, h2 => by
    have h0 := h1 0 (by omega)
    simp at h0
    unfold insN
    rw [if_pos h0, insN_at (l := l) (k := k) (fun j hj => by have := h1 (j + 1) (by omega); simpa using this) (by simpa using hk) (fun hl => by have := h2 (by simpa using hl); simpa using this)]
    simp only [List.length_cons, Nat.add_lt_add_iff_right, List.getD_cons_succ, List.take_succ_cons, List.drop_succ_cons]
    split <;> simp

def numsL (C : List LIns) : List Int := C.foldl (fun l i => if i.op = 1 then insN i.n l else l) [0]

theorem nums_fold (C : List LIns) : ∀ (l : List Int), l.Pairwise (· < ·) → (C.foldl (fun l i => if i.op = 1 then insN i.n l else l) l).Pairwise (· < ·) ∧ ∀ x, x ∈ C.foldl (fun l i => if i.op = 1 then insN i.n l else l) l ↔ x ∈ l ∨ ∃ i, i ∈ C ∧ i.op = 1 ∧ i.n = x := by
  induction C with
  | nil => exact fun l h => ⟨h, fun x => by simp⟩
  | cons i C ih =>
    intro l h
    simp only [List.foldl_cons]
    by_cases e : i.op = 1
    · rw [if_pos e]
      obtain ⟨a, b⟩ := ih (insN i.n l) (insN_sorted h)
      refine ⟨a, fun x => ?_⟩
      rw [b, mem_insN]
      constructor
      · rintro ((rfl | h1) | ⟨i', h1, h2, h3⟩)
        · exact Or.inr ⟨i, by simp, e, rfl⟩
        · exact Or.inl h1
        · exact Or.inr ⟨i', by simp [h1], h2, h3⟩
      · rintro (h1 | ⟨i', h1, h2, h3⟩)
        · exact Or.inl (Or.inr h1)
        · rcases List.mem_cons.1 h1 with rfl | h1
          · exact Or.inl (Or.inl h3.symm)
          · exact Or.inr ⟨i', h1, h2, h3⟩
    · rw [if_neg e]
      obtain ⟨a, b⟩ := ih l h
      refine ⟨a, fun x => ?_⟩
      rw [b]
      constructor
      · rintro (h1 | ⟨i', h1, h2, h3⟩)
        · exact Or.inl h1
        · exact Or.inr ⟨i', by simp [h1], h2, h3⟩
      · rintro (h1 | ⟨i', h1, h2, h3⟩)
        · exact Or.inl h1
        · rcases List.mem_cons.1 h1 with rfl | h1
          · exact absurd h2 e
          · exact Or.inr ⟨i', h1, h2, h3⟩

theorem nums_sorted (C : List LIns) : (numsL C).Pairwise (· < ·) := (nums_fold C [0] (by simp)).1
theorem nums_mem (C : List LIns) (x : Int) : x ∈ numsL C ↔ NumP C x := by
  unfold numsL NumP
  rw [(nums_fold C [0] (by simp)).2]
  constructor
  · rintro (h | ⟨i, h, h2, h3⟩)
    · exact Or.inl (by simpa using h)
    · obtain ⟨k, hk, rfl⟩ := List.getElem_of_mem h
      exact Or.inr ⟨k, hk, by simpa [List.getD, hk] using h2, by simpa [List.getD, hk] using h3⟩
  · rintro (h | ⟨k, hk, h2, h3⟩)
    · exact Or.inl (by simp [h])
    · exact Or.inr ⟨C.getD k .zero, by simp [List.getD, hk], h2, h3⟩

theorem insN_len (n : Int) : ∀ l : List Int, (insN n l).length ≤ l.length + 1
  | [] => by simp [insN]
  | x :: l => by
    unfold insN
    split
    · have := insN_len n l; simp; omega
    · split <;> simp
theorem nums_len (C : List LIns) : (numsL C).length ≤ C.length + 1 := by
  have : ∀ (C : List LIns) (l : List Int), (C.foldl (fun l i => if i.op = 1 then insN i.n l else l) l).length ≤ C.length + l.length := by
    intro C
    induction C with
    | nil => intro l; simp
    | cons i C ih =>
      intro l
      simp only [List.foldl_cons, List.length_cons]
      refine Nat.le_trans (ih _) ?_
      split
      · have := insN_len i.n l; omega
      · omega
  exact this C [0]

def mayK (B : List Bool) (kind : Int) (x : Nat) : Bool := (kind == 3) || ((kind == 1) && !(B.getD x false)) || ((kind == 2) && B.getD x false)

def tempF (B : List Bool) (N : List Int) (x : Nat) : List LFact := if B.getD x false = true then [] else N.map fun n => ⟨.zero, true, x, n⟩
def placeF (B : List Bool) (N : List Int) (kind : Int) (n : Nat) : List LFact :=
  (if kind = 2 then [] else N.map fun v => ⟨⟨kind, n⟩, false, 0, v⟩) ++ ((List.range B.length).filter (mayK B kind)).map fun (x : Nat) => (⟨⟨kind, n⟩, true, x, 0⟩ : LFact)
def kindF (B : List Bool) (N : List Int) (kind : Int) (many : Nat) : List LFact := (List.range many).flatMap (placeF B N kind)
def allF (B : List Bool) (N : List Int) (s slots : Nat) : List LFact :=
  (List.range B.length).flatMap (tempF B N) ++ kindF B N 1 s ++ kindF B N 2 (s / 2) ++ kindF B N 3 slots

theorem mem_tempF {B : List Bool} {N : List Int} {x : Nat} {f : LFact} : f ∈ tempF B N x ↔ B.getD x false = false ∧ f.pl = .zero ∧ f.temp = true ∧ f.t = x ∧ f.n ∈ N := by
  unfold tempF
  cases h : B.getD x false with
  | true => simp
  | false =>
    simp only [Bool.false_eq_true, if_false, List.mem_map]
    constructor
    · rintro ⟨n, hn, rfl⟩; exact ⟨trivial, rfl, rfl, rfl, hn⟩
    · rintro ⟨_, h1, h2, h3, h4⟩
      obtain ⟨p, t, x', n⟩ := f
      simp only at h1 h2 h3 h4
      subst h1 h2 h3
      exact ⟨n, h4, rfl⟩

theorem mem_placeF {B : List Bool} {N : List Int} {kind : Int} {n : Nat} {f : LFact} : f ∈ placeF B N kind n ↔ f.pl = ⟨kind, n⟩ ∧ ((¬ kind = 2 ∧ f.temp = false ∧ f.t = 0 ∧ f.n ∈ N) ∨ (f.temp = true ∧ f.n = 0 ∧ ∃ x : Nat, x < B.length ∧ f.t = x ∧ mayK B kind x = true)) := by
  unfold placeF
  rw [List.mem_append]
  constructor
  · rintro (h | h)
    · split at h
      · simp at h
      · rename_i hk
        obtain ⟨v, hv, rfl⟩ := List.mem_map.1 h
        exact ⟨rfl, Or.inl ⟨hk, rfl, rfl, hv⟩⟩
    · obtain ⟨x, hx, rfl⟩ := List.mem_map.1 h
      rw [List.mem_filter, List.mem_range] at hx
      exact ⟨rfl, Or.inr ⟨rfl, rfl, x, hx.1, rfl, hx.2⟩⟩
  · obtain ⟨p, t, x', v⟩ := f
    rintro ⟨h, ⟨hk, h1, h2, h3⟩ | ⟨h1, h2, x, hx, h3, h4⟩⟩
    · simp only at h h1 h2 h3
      subst h h1 h2
      rw [if_neg hk]
      exact Or.inl (List.mem_map.2 ⟨v, h3, rfl⟩)
    · simp only at h h1 h2 h3
      subst h h1 h2 h3
      exact Or.inr (List.mem_map.2 ⟨x, by rw [List.mem_filter, List.mem_range]; exact ⟨hx, h4⟩, rfl⟩)

theorem mem_kindF {B : List Bool} {N : List Int} {kind : Int} {many : Nat} {f : LFact} : f ∈ kindF B N kind many ↔ ∃ n : Nat, n < many ∧ f ∈ placeF B N kind n := by
  unfold kindF
  rw [List.mem_flatMap]
  constructor
  · rintro ⟨n, hn, h⟩; exact ⟨n, by simpa using hn, h⟩
  · rintro ⟨n, hn, h⟩; exact ⟨n, by simpa using hn, h⟩

theorem pl_ext {p q : LPlace} (h1 : p.kind = q.kind) (h2 : p.n = q.n) : p = q := by
  obtain ⟨a, b⟩ := p
  obtain ⟨c, d⟩ := q
  simp only at h1 h2
  rw [h1, h2]

theorem mem_allF {B : List Bool} {N : List Int} {s slots : Nat} (hs : s % 2 = 0) (hs2 : s ≤ 16) {f : LFact} : f ∈ allF B N s slots ↔ FactOk B s slots (· ∈ N) f := by
  unfold allF
  simp only [List.mem_append, List.mem_flatMap, List.mem_range, mem_tempF, mem_kindF, mem_placeF]
  constructor
  · rintro (((⟨x, hx, h0, h1, h2, h3, h4⟩ | ⟨n, hn, h1, h⟩) | ⟨n, hn, h1, h⟩) | ⟨n, hn, h1, h⟩)
    · have hk : f.pl.kind = 0 := by rw [h1]; rfl
      have hk2 : f.pl.n = 0 := by rw [h1]; rfl
      exact ⟨Or.inl ⟨hk, hk2, h2⟩, fun _ => by omega, fun _ _ => by rw [h3]; simpa using h0, fun _ e => by omega, fun _ => h4, fun e => absurd hk e, fun e => by rw [h2] at e; exact absurd e (by simp), fun e => by rw [h2] at e; exact absurd e (by simp)⟩
    · have hk : f.pl.kind = 1 := by rw [h1]
      have hn' : f.pl.n = n := by rw [h1]
      have his : isB s slots f.pl = true := by unfold isB; rw [if_pos hk]; simp; omega
      rcases h with ⟨h2, h3, h4, h5⟩ | ⟨h2, h3, x, hx, h4, h5⟩
      · exact ⟨Or.inr his, fun e => by rw [h3] at e; exact absurd e (by simp), fun e => by rw [h3] at e; exact absurd e (by simp), fun e => by rw [h3] at e; exact absurd e (by simp), fun _ => h5, fun _ e => by rw [h3] at e; exact absurd e (by simp), fun _ => h4, fun _ => by omega⟩
      · unfold mayK at h5
        simp at h5
        exact ⟨Or.inr his, fun _ => by omega, fun _ _ => by rw [h4]; simpa using h5, fun _ e => by omega, fun e => by rcases e with e | e; omega; rw [h2] at e; exact absurd e (by simp), fun _ _ => h3, fun e => by rw [h2] at e; exact absurd e (by simp), fun e => by rw [h2] at e; exact absurd e (by simp)⟩
    · have hk : f.pl.kind = 2 := by rw [h1]
      have hn' : f.pl.n = n := by rw [h1]
      have his : isB s slots f.pl = true := by unfold isB; rw [if_neg (by omega), if_pos hk]; simp; omega
      rcases h with ⟨h2, h3, h4, h5⟩ | ⟨h2, h3, x, hx, h4, h5⟩
      · exact absurd trivial h2
      · unfold mayK at h5
        simp at h5
        exact ⟨Or.inr his, fun _ => by omega, fun _ e => by omega, fun _ _ => by rw [h4]; simpa using h5, fun e => by rcases e with e | e; omega; rw [h2] at e; exact absurd e (by simp), fun _ _ => h3, fun e => by rw [h2] at e; exact absurd e (by simp), fun e => by rw [h2] at e; exact absurd e (by simp)⟩
    · have hk : f.pl.kind = 3 := by rw [h1]
      have hn' : f.pl.n = n := by rw [h1]
      have his : isB s slots f.pl = true := by unfold isB; rw [if_neg (by omega), if_neg (by omega), if_pos hk]; simp; omega
      rcases h with ⟨h2, h3, h4, h5⟩ | ⟨h2, h3, x, hx, h4, h5⟩
      · exact ⟨Or.inr his, fun e => by rw [h3] at e; exact absurd e (by simp), fun e => by rw [h3] at e; exact absurd e (by simp), fun e => by rw [h3] at e; exact absurd e (by simp), fun _ => h5, fun _ e => by rw [h3] at e; exact absurd e (by simp), fun _ => h4, fun _ => by omega⟩
      · exact ⟨Or.inr his, fun _ => by omega, fun _ e => by omega, fun _ e => by omega, fun e => by rcases e with e | e; omega; rw [h2] at e; exact absurd e (by simp), fun _ _ => h3, fun e => by rw [h2] at e; exact absurd e (by simp), fun e => by rw [h2] at e; exact absurd e (by simp)⟩
  · intro h
    by_cases h0 : f.pl.kind = 0
    · have hp : f.pl.n = 0 ∧ f.temp = true := by rcases h.pl with hp | hp; exact hp.2; exact absurd h0 (is_kind hp)
      obtain ⟨t0, t1⟩ := h.t hp.2
      refine Or.inl (Or.inl (Or.inl ⟨f.t.toNat, by omega, ?_, pl_ext h0 hp.1, hp.2, by omega, h.num (Or.inl h0)⟩))
      exact h.nar hp.2 (Or.inl h0)
    · have his : isB s slots f.pl = true := by rcases h.pl with hp | hp; exact absurd hp.1 h0; exact hp
      rcases is_cases his with ⟨e, a, b⟩ | ⟨e, a, b⟩ | ⟨e, a, b⟩
      · refine Or.inl (Or.inl (Or.inr ⟨f.pl.n.toNat, by omega, pl_ext e (by simp only; omega), ?_⟩))
        cases ht : f.temp with
        | false => exact Or.inl ⟨by omega, rfl, h.zt ht, h.num (Or.inr ht)⟩
        | true =>
          obtain ⟨t0, t1⟩ := h.t ht
          refine Or.inr ⟨rfl, h.zn h0 ht, f.t.toNat, by omega, by omega, ?_⟩
          have := h.nar ht (Or.inr e)
          unfold mayK
          rw [this]
          rfl
      · refine Or.inl (Or.inr ⟨f.pl.n.toNat, by omega, pl_ext e (by simp only; omega), ?_⟩)
        cases ht : f.temp with
        | false => exact absurd e (h.dbl ht)
        | true =>
          obtain ⟨t0, t1⟩ := h.t ht
          refine Or.inr ⟨rfl, h.zn h0 ht, f.t.toNat, by omega, by omega, ?_⟩
          have := h.wid ht e
          unfold mayK
          rw [this]
          rfl
      · refine Or.inr ⟨f.pl.n.toNat, by omega, pl_ext e (by simp only; omega), ?_⟩
        cases ht : f.temp with
        | false => exact Or.inl ⟨by omega, rfl, h.zt ht, h.num (Or.inr ht)⟩
        | true =>
          obtain ⟨t0, t1⟩ := h.t ht
          exact Or.inr ⟨rfl, h.zn h0 ht, f.t.toNat, by omega, by omega, rfl⟩

def factLt (f g : LFact) : Prop :=
  f.pl.kind < g.pl.kind ∨ (f.pl.kind = g.pl.kind ∧ (f.pl.n < g.pl.n ∨ (f.pl.n = g.pl.n ∧ ((f.temp = false ∧ g.temp = true) ∨ (f.temp = g.temp ∧ (f.t < g.t ∨ (f.t = g.t ∧ f.n < g.n)))))))

theorem factLt_ne {f : LFact} : ¬ factLt f f := by
  unfold factLt
  rintro (h | ⟨_, h | ⟨_, ⟨h1, h2⟩ | ⟨_, h | ⟨_, h⟩⟩⟩⟩)
  · omega
  · omega
  · rw [h1] at h2; exact absurd h2 (by simp)
  · omega
  · omega

theorem place_sorted {B : List Bool} {N : List Int} (hN : N.Pairwise (· < ·)) (kind : Int) (n : Nat) : (placeF B N kind n).Pairwise factLt := by
  unfold placeF
  rw [List.pairwise_append]
  refine ⟨?_, ?_, ?_⟩
  · split
    · exact List.Pairwise.nil
    · rw [List.pairwise_map]
      exact hN.imp (fun {a b} h => Or.inr ⟨rfl, Or.inr ⟨rfl, Or.inr ⟨rfl, Or.inr ⟨rfl, h⟩⟩⟩⟩)
  · rw [List.pairwise_map]
    refine (List.pairwise_lt_range.filter _).imp (fun {a b} h => Or.inr ⟨rfl, Or.inr ⟨rfl, Or.inr ⟨rfl, Or.inl ?_⟩⟩⟩)
    show (a : Int) < (b : Int)
    omega
  · intro f hf g hg
    split at hf
    · simp at hf
    · obtain ⟨v, _, rfl⟩ := List.mem_map.1 hf
      obtain ⟨x, _, rfl⟩ := List.mem_map.1 hg
      exact Or.inr ⟨rfl, Or.inr ⟨rfl, Or.inl ⟨rfl, rfl⟩⟩⟩

theorem kind_sorted {B : List Bool} {N : List Int} (hN : N.Pairwise (· < ·)) (kind : Int) (many : Nat) : (kindF B N kind many).Pairwise factLt := by
  unfold kindF
  rw [List.pairwise_flatMap]
  refine ⟨fun n _ => place_sorted hN kind n, ?_⟩
  refine List.pairwise_lt_range.imp (fun {a b} h f hf g hg => ?_)
  have h1 := (mem_placeF.1 hf).1
  have h2 := (mem_placeF.1 hg).1
  exact Or.inr ⟨by rw [h1, h2], Or.inl (by rw [h1, h2]; simp only; omega)⟩

theorem temp_sorted {B : List Bool} {N : List Int} (hN : N.Pairwise (· < ·)) : ((List.range B.length).flatMap (tempF B N)).Pairwise factLt := by
  rw [List.pairwise_flatMap]
  refine ⟨fun x _ => ?_, ?_⟩
  · unfold tempF
    split
    · exact List.Pairwise.nil
    · rw [List.pairwise_map]
      exact hN.imp (fun {a b} h => Or.inr ⟨rfl, Or.inr ⟨rfl, Or.inr ⟨rfl, Or.inr ⟨rfl, h⟩⟩⟩⟩)
  · refine List.pairwise_lt_range.imp (fun {a b} h f hf g hg => ?_)
    obtain ⟨_, h1, h2, h3, _⟩ := mem_tempF.1 hf
    obtain ⟨_, k1, k2, k3, _⟩ := mem_tempF.1 hg
    exact Or.inr ⟨by rw [h1, k1], Or.inr ⟨by rw [h1, k1], Or.inr ⟨by rw [h2, k2], Or.inl (by rw [h3, k3]; omega)⟩⟩⟩

theorem all_sorted {B : List Bool} {N : List Int} (hN : N.Pairwise (· < ·)) (s slots : Nat) : (allF B N s slots).Pairwise factLt := by
  have hk : ∀ kind many f, f ∈ kindF B N kind many → f.pl.kind = kind := fun kind many f hf => by
    obtain ⟨n, _, h⟩ := mem_kindF.1 hf
    rw [(mem_placeF.1 h).1]
  have h0 : ∀ f, f ∈ (List.range B.length).flatMap (tempF B N) → f.pl.kind = 0 := fun f hf => by
    obtain ⟨x, _, h⟩ := List.mem_flatMap.1 hf
    rw [(mem_tempF.1 h).2.1]; rfl
  unfold allF
  rw [List.pairwise_append, List.pairwise_append, List.pairwise_append]
  refine ⟨⟨⟨temp_sorted hN, kind_sorted hN 1 s, fun f hf g hg => Or.inl (by rw [h0 f hf, hk _ _ g hg]; omega)⟩, kind_sorted hN 2 _, fun f hf g hg => Or.inl ?_⟩, kind_sorted hN 3 _, fun f hf g hg => Or.inl ?_⟩
  · rw [hk _ _ g hg]
    rcases List.mem_append.1 hf with hf | hf
    · rw [h0 f hf]; omega
    · rw [hk _ _ f hf]; omega
  · rw [hk _ _ g hg]
    rcases List.mem_append.1 hf with hf | hf
    · rcases List.mem_append.1 hf with hf | hf
      · rw [h0 f hf]; omega
      · rw [hk _ _ f hf]; omega
    · rw [hk _ _ f hf]; omega

theorem sorted_inj {F : List LFact} (h : F.Pairwise factLt) {i j : Nat} {f : LFact} (hi : F[i]? = some f) (hj : F[j]? = some f) : i = j := by
  obtain ⟨hi', rfl⟩ := List.getElem?_eq_some_iff.1 hi
  obtain ⟨hj', e⟩ := List.getElem?_eq_some_iff.1 hj
  rw [List.pairwise_iff_getElem] at h
  rcases Nat.lt_trichotomy i j with hlt | hlt | hlt
  · have := h i j hi' hj' hlt
    rw [e] at this
    exact absurd this factLt_ne
  · exact hlt
  · have := h j i hj' hi' hlt
    rw [e] at this
    exact absurd this factLt_ne

end Go.Proofs.YtcmnmogmdhofcaaGreat.form

/- Numbers of 64 bits as bits: the operations on them. -/
namespace Go.Proofs.YtcmnmogmdhofcaaGreat.form
open Go.RowKit
set_option linter.unusedVariables false

abbrev Bits := BitVec 64
def bn (x : Bits) : Int := (x.toNat : Int)
theorem bits_bd (x : Bits) : 0 ≤ bn x ∧ bn x < 18446744073709551616 := by have := x.isLt; unfold bn; omega
theorem bits_of {a : Int} (h0 : 0 ≤ a) (h1 : a < 18446744073709551616) : ∃ x : Bits, a = bn x := ⟨BitVec.ofNat 64 a.toNat, by unfold bn; rw [BitVec.toNat_ofNat, Nat.mod_eq_of_lt (by omega)]; omega⟩
theorem bits_inj {x y : Bits} (h : bn x = bn y) : x = y := BitVec.eq_of_toNat_eq (by unfold bn at h; omega)
theorem wrapU {x : Int} (h0 : 0 ≤ x) (h1 : x < 18446744073709551616) : IntKind.u64.wrap x = x := by
  simp [IntKind.wrap, IntKind.bits, IntKind.signed]
  omega
theorem ofInt_toNat (a : Bits) : BitVec.ofInt 64 (a.toNat : Int) = a := by
  apply BitVec.eq_of_toNat_eq
  simp
theorem and_is (a b : Bits) : Go.bits .and .u64 (bn a) (bn b) = bn (a &&& b) := by
  have h := bits_bd (a &&& b)
  show IntKind.u64.wrap ((BitVec.ofInt 64 (a.toNat : Int) &&& BitVec.ofInt 64 (b.toNat : Int)).toNat : Int) = _
  rw [ofInt_toNat, ofInt_toNat]
  exact wrapU h.1 h.2
theorem or_is (a b : Bits) : Go.bits .or .u64 (bn a) (bn b) = bn (a ||| b) := by
  have h := bits_bd (a ||| b)
  show IntKind.u64.wrap ((BitVec.ofInt 64 (a.toNat : Int) ||| BitVec.ofInt 64 (b.toNat : Int)).toNat : Int) = _
  rw [ofInt_toNat, ofInt_toNat]
  exact wrapU h.1 h.2
theorem andNot_is (a b : Bits) : Go.bits .andNot .u64 (bn a) (bn b) = bn (a &&& ~~~ b) := by
  have h := bits_bd (a &&& ~~~ b)
  show IntKind.u64.wrap ((BitVec.ofInt 64 (a.toNat : Int) &&& ~~~ BitVec.ofInt 64 (b.toNat : Int)).toNat : Int) = _
  rw [ofInt_toNat, ofInt_toNat]
  exact wrapU h.1 h.2
theorem ne_is (x : Bits) : (bn x != 0) = !(x == 0) := by
  unfold bn
  rw [Bool.eq_iff_iff]
  simp
  constructor
  · intro h e; rw [e] at h; simp at h
  · intro h e; exact h (BitVec.eq_of_toNat_eq (by simpa using e))
theorem xor_is (a b : Bits) : Go.bits .xor .u64 (bn a) (bn b) = bn (a ^^^ b) := by
  have h := bits_bd (a ^^^ b)
  show IntKind.u64.wrap ((BitVec.ofInt 64 (a.toNat : Int) ^^^ BitVec.ofInt 64 (b.toNat : Int)).toNat : Int) = _
  rw [ofInt_toNat, ofInt_toNat]
  exact wrapU h.1 h.2
theorem shlk_is (a : Bits) (k : Nat) : IntKind.u64.wrap (bn a * 2 ^ k) = bn (a <<< k) := by
  have e : bn (a <<< k) = ((a.toNat * 2 ^ k % 18446744073709551616 : Nat) : Int) := by
    unfold bn
    rw [BitVec.toNat_shiftLeft, Nat.shiftLeft_eq]
  rw [e]
  unfold bn
  simp [IntKind.wrap, IntKind.bits, IntKind.signed]
theorem shrk_is (a : Bits) (k : Nat) : bn a / 2 ^ k = bn (a >>> k) := by
  unfold bn
  rw [BitVec.toNat_ushiftRight, Nat.shiftRight_eq_div_pow]
  push_cast
  rfl
theorem and_low (a b : Bits) : bn (a &&& b) ≤ bn b := by
  unfold bn
  rw [BitVec.toNat_and]
  have := Nat.and_le_right (n := a.toNat) (m := b.toNat)
  omega

end Go.Proofs.YtcmnmogmdhofcaaGreat.form

/- Facts as bits, on plain numbers: of each place which temporaries it has, and which numbers it is; of each temporary which numbers it is. What comes of them by moves and by instructions is what is known. -/
namespace Go.Proofs.YtcmnmogmdhofcaaGreat.form
open Go.RowKit Go.Proofs.YtcmnmogmdhofcaaGreat.num
set_option linter.unusedVariables false

def only (k : Nat) : Bits := BitVec.twoPow 64 k
theorem only_bit {k j : Nat} (hk : k < 64) : (only k).getLsbD j = true ↔ j = k := by
  unfold only
  rw [BitVec.getLsbD_twoPow]
  simp [hk, eq_comm]
theorem bits_ne {x : Bits} : ¬ x = 0 ↔ ∃ k, x.getLsbD k = true := by
  constructor
  · intro h
    refine Classical.byContradiction fun hno => h ?_
    apply BitVec.eq_of_getLsbD_eq
    intro i hi
    cases hc : x.getLsbD i with
    | false => simp
    | true => exact absurd ⟨i, hc⟩ hno
  · rintro ⟨k, hk⟩ rfl
    simp at hk
theorem bits_and {x y : Bits} {k : Nat} : (x &&& y).getLsbD k = true ↔ x.getLsbD k = true ∧ y.getLsbD k = true := by simp
theorem bits_or {x y : Bits} {k : Nat} : (x ||| y).getLsbD k = true ↔ x.getLsbD k = true ∨ y.getLsbD k = true := by simp
theorem bits_or_only {x : Bits} {d k : Nat} (hd : d < 64) : (x ||| only d).getLsbD k = true ↔ x.getLsbD k = true ∨ k = d := by rw [bits_or, only_bit hd]
theorem bits_not_only {x : Bits} {d k : Nat} (hd : d < 64) : (x &&& ~~~ only d).getLsbD k = true ↔ x.getLsbD k = true ∧ ¬ k = d := by
  have h := only_bit (k := d) (j := k) hd
  by_cases hk : k < 64
  · rw [BitVec.getLsbD_and, BitVec.getLsbD_not, Bool.and_eq_true]
    simp only [hk, decide_true, Bool.true_and, Bool.not_eq_true', ← h, Bool.not_eq_true]
  · rw [BitVec.getLsbD_of_ge _ _ (Nat.le_of_not_lt hk), BitVec.getLsbD_of_ge _ _ (Nat.le_of_not_lt hk)]
    simp
def nAt (N : List Int) (k : Nat) : Int := N.getD k 0

structure FM where
  has : LPlace → Bits
  is : LPlace → Bits
  tmp : Int → Bits

def Kof (N : List Int) (m : FM) (f : LFact) : Prop :=
  if f.pl.kind = 0 then f.pl.n = 0 ∧ f.temp = true ∧ ∃ k, k < N.length ∧ nAt N k = f.n ∧ (m.tmp f.t).getLsbD k = true
  else if f.temp = true then f.n = 0 ∧ 0 ≤ f.t ∧ (m.has f.pl).getLsbD f.t.toNat = true
  else f.t = 0 ∧ ∃ k, k < N.length ∧ nAt N k = f.n ∧ (m.is f.pl).getLsbD k = true

structure FmOk (B : List Bool) (s slots : Int) (N : List Int) (m : FM) : Prop where
  has : ∀ p t, (m.has p).getLsbD t = true → isB s slots p = true ∧ t < B.length ∧ (p.kind = 1 → B.getD t false = false) ∧ (p.kind = 2 → B.getD t false = true)
  is : ∀ p k, (m.is p).getLsbD k = true → isB s slots p = true ∧ k < N.length ∧ ¬ p.kind = 2
  tmp : ∀ t k, (m.tmp t).getLsbD k = true → 0 ≤ t ∧ t < B.length ∧ B.getD t.toNat false = false ∧ k < N.length

def NumsOf (C : List LIns) (N : List Int) : Prop := ∀ x, (∃ k, k < N.length ∧ nAt N k = x) ↔ NumP C x

theorem Kof.ok {B : List Bool} {s slots : Int} {C : List LIns} {N : List Int} {m : FM} (hm : FmOk B s slots N m) (hN : NumsOf C N) {f : LFact} (h : Kof N m f) : FactOk B s slots (NumP C) f := by
  unfold Kof at h
  by_cases h0 : f.pl.kind = 0
  · rw [if_pos h0] at h
    obtain ⟨h1, h2, k, hk, hn, hb⟩ := h
    obtain ⟨t0, t1, tn, -⟩ := hm.tmp _ _ hb
    exact ⟨Or.inl ⟨h0, h1, h2⟩, fun _ => ⟨t0, t1⟩, fun _ _ => tn, fun _ h => by omega, fun _ => (hN _).1 ⟨k, hk, hn⟩, fun h => absurd h0 h, fun h => (by rw [h2] at h; cases h), fun h => (by rw [h2] at h; cases h)⟩
  rw [if_neg h0] at h
  by_cases ht : f.temp = true
  · rw [if_pos ht] at h
    obtain ⟨h1, h2, hb⟩ := h
    obtain ⟨p1, p2, p3, p4⟩ := hm.has _ _ hb
    exact ⟨Or.inr p1, fun _ => ⟨h2, by omega⟩, fun _ h => (by rcases h with h | h; exact absurd h h0; exact p3 h), fun _ h => p4 h, fun h => (by rcases h with h | h; exact absurd h h0; rw [ht] at h; cases h), fun _ _ => h1, fun h => (by rw [ht] at h; cases h), fun h => (by rw [ht] at h; cases h)⟩
  · rw [if_neg ht] at h
    obtain ⟨h1, k, hk, hn, hb⟩ := h
    obtain ⟨p1, p2, p3⟩ := hm.is _ _ hb
    exact ⟨Or.inr p1, fun h => absurd h ht, fun h => absurd h ht, fun h => absurd h ht, fun _ => (hN _).1 ⟨k, hk, hn⟩, fun _ h => absurd h ht, fun _ => h1, fun _ => p3⟩

def updP (g : LPlace → Bits) (q : LPlace) (x : Bits) : LPlace → Bits := fun p => if samePl p q = true then x else g p
def keepP (g : LPlace → Bits) (q : LPlace) : LPlace → Bits := fun p => if overB p q = true then 0 else g p
def updT (g : Int → Bits) (t : Int) (x : Bits) : Int → Bits := fun u => if u = t then x else g u

theorem samePl_refl (p : LPlace) : samePl p p = true := by simp [samePl]
theorem overB_refl (p : LPlace) : overB p p = true := by unfold overB; simp
theorem same_over {p q : LPlace} (h : samePl p q = true) : overB p q = true := by rw [samePl_eq h]; exact overB_refl q

def moveF (m : FM) (d : LPlace) (gh gi : Bits) : FM := ⟨updP (keepP m.has d) d gh, updP (keepP m.is d) d gi, m.tmp⟩

structure GotM (B : List Bool) (N : List Int) (m : FM) (v : LMove) (gh gi : Bits) : Prop where
  h : ∀ t, gh.getLsbD t = true ↔ if v.cst = true then (t < B.length ∧ ∃ k, k < N.length ∧ nAt N k = v.n ∧ (m.tmp t).getLsbD k = true) else ((m.has v.src).getLsbD t = true ∧ t < B.length ∧ (v.dst.kind = 3 ∨ B.getD t false = decide (v.dst.kind = 2)))
  i : ∀ k, gi.getLsbD k = true ↔ if v.cst = true then (k < N.length ∧ nAt N k = v.n) else ((m.is v.src).getLsbD k = true ∧ k < N.length ∧ ¬ v.dst.kind = 2)

theorem moveF_ok {B : List Bool} {s slots : Int} {N : List Int} {m : FM} {v : LMove} {gh gi : Bits} (hm : FmOk B s slots N m) (hv : moveB s slots v = true) (hg : GotM B N m v gh gi) : FmOk B s slots N (moveF m v.dst gh gi) := by
  unfold moveB at hv
  simp only [Bool.and_eq_true] at hv
  obtain ⟨hd, hv⟩ := hv
  refine ⟨fun p t h => ?_, fun p k h => ?_, hm.tmp⟩
  · simp only [moveF, updP, keepP] at h
    by_cases e : samePl p v.dst = true
    · rw [if_pos e] at h
      obtain rfl := samePl_eq e
      have h := (hg.h t).1 h
      by_cases hc : v.cst = true
      · rw [if_pos hc] at h
        rw [if_pos hc] at hv
        simp at hv
        obtain ⟨h1, k, hk, hn, hb⟩ := h
        obtain ⟨t0, t1, tn, -⟩ := hm.tmp _ _ hb
        simp at tn
        exact ⟨hd, h1, fun _ => by simpa using tn, fun h2 => by omega⟩
      · rw [if_neg hc] at h
        obtain ⟨h1, h2, h3⟩ := h
        refine ⟨hd, h2, fun h4 => ?_, fun h4 => ?_⟩
        · rcases h3 with h3 | h3
          · omega
          · rw [h3]; simp [h4]
        · rcases h3 with h3 | h3
          · omega
          · rw [h3]; simp [h4]
    · rw [if_neg e] at h
      split at h
      · simp at h
      · exact hm.has p t h
  · simp only [moveF, updP, keepP] at h
    by_cases e : samePl p v.dst = true
    · rw [if_pos e] at h
      obtain rfl := samePl_eq e
      have h := (hg.i k).1 h
      by_cases hc : v.cst = true
      · rw [if_pos hc] at h
        rw [if_pos hc] at hv
        simp at hv
        exact ⟨hd, h.1, by omega⟩
      · rw [if_neg hc] at h
        exact ⟨hd, h.2.1, h.2.2⟩
    · rw [if_neg e] at h
      split at h
      · simp at h
      · exact hm.is p k h

theorem moveF_is {B : List Bool} {s slots : Int} {C : List LIns} {N : List Int} {m : FM} {v : LMove} {gh gi : Bits} (hm : FmOk B s slots N m) (hN : NumsOf C N) (hv : moveB s slots v = true) (hg : GotM B N m v gh gi) (f : LFact) :
    Kof N (moveF m v.dst gh gi) f ↔ moveK (FactOk B s slots (NumP C)) v (Kof N m) f := by
  have hok' := moveF_ok hm hv hg
  have key : ∀ (hok : FactOk B s slots (NumP C) f), (Kof N (moveF m v.dst gh gi) f ↔ (if f.pl.kind = 0 ∨ overB f.pl v.dst = false then Kof N m f
    else samePl f.pl v.dst = true ∧ (if v.cst = false then Kof N m ⟨v.src, f.temp, f.t, f.n⟩ else if f.temp = true then Kof N m (zeroAt f.t v.n) else f.n = v.n))) := by
    intro hok
    unfold moveB at hv
    simp only [Bool.and_eq_true] at hv
    obtain ⟨hd, hv⟩ := hv
    by_cases h0 : f.pl.kind = 0
    · rw [if_pos (Or.inl h0)]
      unfold Kof
      rw [if_pos h0, if_pos h0]
      exact Iff.rfl
    by_cases ho : overB f.pl v.dst = false
    · rw [if_pos (Or.inr ho)]
      have hs : ¬ samePl f.pl v.dst = true := fun h => by rw [same_over h] at ho; cases ho
      have ho' : ¬ overB f.pl v.dst = true := by rw [ho]; simp
      unfold Kof
      rw [if_neg h0, if_neg h0]
      simp only [moveF, updP, keepP, if_neg hs, if_neg ho']
    rw [if_neg (by rintro (h | h); exact h0 h; exact ho h)]
    have ho' : overB f.pl v.dst = true := by simpa using ho
    by_cases hs : samePl f.pl v.dst = true
    case neg =>
      unfold Kof
      rw [if_neg h0]
      simp only [moveF, updP, keepP, if_neg hs, if_pos ho']
      simp [hs]
    have hp := samePl_eq hs
    have hk : v.dst.kind = f.pl.kind := by rw [hp]
    have hsk : v.cst = false → ¬ v.src.kind = 0 := fun hc => by
      rw [if_neg (by simp [hc])] at hv
      simp only [Bool.and_eq_true] at hv
      exact is_kind hv.1.2
    have hdk : v.cst = true → v.dst.kind = 1 := fun hc => by
      rw [if_pos hc] at hv
      simp at hv
      exact hv.2
    simp only [hs, true_and]
    conv => lhs; unfold Kof
    rw [if_neg h0]
    simp only [moveF, updP, if_pos hs]
    by_cases ht : f.temp = true
    · rw [if_pos ht, hg.h]
      obtain ⟨t0, t1⟩ := hok.t ht
      have hn0 := hok.zn h0 ht
      by_cases hc : v.cst = true
      · rw [if_pos hc, if_neg (by simp [hc]), if_pos ht]
        unfold Kof zeroAt
        rw [if_pos (show LPlace.zero.kind = 0 from rfl)]
        have e : ((f.t.toNat : Nat) : Int) = f.t := by omega
        rw [e]
        constructor
        · rintro ⟨_, _, _, h⟩
          exact ⟨rfl, rfl, h⟩
        · rintro ⟨_, _, h⟩
          exact ⟨hn0, t0, by omega, h⟩
      · have hc' : v.cst = false := by simpa using hc
        rw [if_neg hc, if_pos hc']
        unfold Kof
        simp only []
        rw [if_neg (hsk hc'), if_pos ht]
        constructor
        · rintro ⟨h1, h2, h3, _⟩
          exact ⟨h1, h2, h3⟩
        · rintro ⟨h1, h2, h3⟩
          refine ⟨h1, h2, h3, by omega, ?_⟩
          rcases hok.pl with hz | hz
          · exact absurd hz.1 h0
          rcases is_cases hz with ⟨e, _⟩ | ⟨e, _⟩ | ⟨e, _⟩
          · refine Or.inr ?_
            rw [hok.nar ht (Or.inr e), hk, e]
            simp
          · refine Or.inr ?_
            rw [hok.wid ht e, hk, e]
            simp
          · exact Or.inl (by rw [hk, e])
    · have htf : f.temp = false := by simpa using ht
      rw [if_neg ht]
      have hnum := hok.num (Or.inr htf)
      have hdb := hok.dbl htf
      have hzt := hok.zt htf
      by_cases hc : v.cst = true
      · rw [if_neg (by simp [hc]), if_neg ht]
        constructor
        · rintro ⟨_, k, hk, hn, hb⟩
          have := (hg.i k).1 hb
          rw [if_pos hc] at this
          rw [← hn, this.2]
        · intro h
          obtain ⟨k, hk, hn⟩ := (hN _).2 hnum
          refine ⟨hzt, k, hk, hn, (hg.i k).2 ?_⟩
          rw [if_pos hc]
          exact ⟨hk, by rw [hn, h]⟩
      · have hc' : v.cst = false := by simpa using hc
        rw [if_pos hc']
        unfold Kof
        simp only []
        rw [if_neg (hsk hc'), if_neg ht]
        constructor
        · rintro ⟨h1, k, hk, hn, hb⟩
          have := (hg.i k).1 hb
          rw [if_neg hc] at this
          exact ⟨h1, k, hk, hn, this.1⟩
        · rintro ⟨h1, k, hk2, hn, hb⟩
          refine ⟨h1, k, hk2, hn, (hg.i k).2 ?_⟩
          rw [if_neg hc]
          exact ⟨hb, hk2, by rw [hk]; exact hdb⟩
  constructor
  · intro h
    have hok := Kof.ok hok' hN h
    exact ⟨hok, (key hok).1 h⟩
  · rintro ⟨hok, h⟩
    exact (key hok).2 h

def giveF (s slots : Int) (m : FM) (d : Nat) (L : LPlace) (gh gi : Bits) (sm : LPlace → Bool) : FM :=
  ⟨updP (fun p => if isB s slots p = true then (if sm p = true then keepP m.has L p ||| only d else keepP m.has L p &&& ~~~ only d) else keepP m.has L p) L (gh ||| only d), updP (keepP m.is L) L gi, updT m.tmp d gi⟩

structure GotI (s slots : Int) (N : List Int) (m : FM) (i : LIns) (L : LPlace) (gh gi : Bits) (sm : LPlace → Bool) : Prop where
  hb : ∀ t : Nat, gh.getLsbD t = true ↔ i.op = 2 ∧ (t : Int) = i.a
  ib : ∀ k, gi.getLsbD k = true ↔ (i.op = 1 ∧ k < N.length ∧ nAt N k = i.n) ∨ (i.op = 2 ∧ (m.tmp i.a).getLsbD k = true)
  sb : ∀ p, isB s slots p = true → (sm p = true ↔ (i.op = 1 ∧ ∃ k, k < N.length ∧ nAt N k = i.n ∧ (keepP m.is L p).getLsbD k = true) ∨ (i.op = 2 ∧ (keepP m.has L p).getLsbD i.a.toNat = true))

structure GiveOk (B : List Bool) (s slots : Int) (i : LIns) (L : LPlace) : Prop where
  d0 : 0 ≤ i.dest
  d1 : i.dest < B.length
  is : isB s slots L = true
  nar : B.getD i.dest.toNat false = false → L.kind = 1
  wid : B.getD i.dest.toNat false = true → L.kind = 2
  one : i.op = 1 → B.getD i.dest.toNat false = false
  a0 : i.op = 2 → 0 ≤ i.a
  a1 : i.op = 2 → i.a < B.length
  aw : i.op = 2 → B.getD i.a.toNat false = B.getD i.dest.toNat false

theorem keep_bit {g : LPlace → Bits} {p q : LPlace} {k : Nat} : (keepP g q p).getLsbD k = true ↔ overB p q = false ∧ (g p).getLsbD k = true := by
  unfold keepP
  split
  · rename_i h; simp [h]
  · rename_i h; simp at h; simp [h]

theorem giveF_ok {B : List Bool} {s slots : Int} {N : List Int} {m : FM} {i : LIns} {L : LPlace} {gh gi : Bits} {sm : LPlace → Bool} (hB : B.length ≤ 12) (hm : FmOk B s slots N m) (hi : GiveOk B s slots i L) (hg : GotI s slots N m i L gh gi sm) :
    FmOk B s slots N (giveF s slots m i.dest.toNat L gh gi sm) := by
  have d0 := hi.d0
  have d1 := hi.d1
  have hd64 : i.dest.toNat < 64 := by omega
  have hLn : L.kind = 1 → B.getD i.dest.toNat false = false := fun h => by
    cases hc : B.getD i.dest.toNat false with
    | false => rfl
    | true => have := hi.wid hc; omega
  have hLw : L.kind = 2 → B.getD i.dest.toNat false = true := fun h => by
    cases hc : B.getD i.dest.toNat false with
    | true => rfl
    | false => have := hi.nar hc; omega
  refine ⟨fun p t h => ?_, fun p k h => ?_, fun t k h => ?_⟩
  · simp only [giveF, updP] at h
    by_cases e : samePl p L = true
    · rw [if_pos e, bits_or_only hd64] at h
      obtain rfl := samePl_eq e
      rcases h with h | h
      · obtain ⟨h1, h2⟩ := (hg.hb t).1 h
        have a0 := hi.a0 h1
        have a1 := hi.a1 h1
        have aw := hi.aw h1
        have e2 : i.a.toNat = t := by omega
        rw [e2] at aw
        exact ⟨hi.is, by omega, fun h3 => by rw [aw]; exact hLn h3, fun h3 => by rw [aw]; exact hLw h3⟩
      · subst h
        exact ⟨hi.is, by omega, hLn, hLw⟩
    · rw [if_neg e] at h
      by_cases hp : isB s slots p = true
      case neg => rw [if_neg hp, keep_bit] at h; exact hm.has p t h.2
      rw [if_pos hp] at h
      by_cases hs : sm p = true
      case neg => rw [if_neg hs, bits_not_only hd64, keep_bit] at h; exact hm.has p t h.1.2
      rw [if_pos hs, bits_or_only hd64, keep_bit] at h
      rcases h with h | h
      · exact hm.has p t h.2
      subst h
      refine ⟨hp, by omega, ?_⟩
      rcases (hg.sb p hp).1 hs with ⟨h1, k, hk, hn, hb⟩ | ⟨h1, hb⟩
      · rw [keep_bit] at hb
        obtain ⟨_, _, h3⟩ := hm.is p k hb.2
        exact ⟨fun _ => hi.one h1, fun h => absurd h h3⟩
      · rw [keep_bit] at hb
        obtain ⟨_, _, h3, h4⟩ := hm.has p _ hb.2
        have aw := hi.aw h1
        exact ⟨fun h => by rw [← aw]; exact h3 h, fun h => by rw [← aw]; exact h4 h⟩
  · simp only [giveF, updP] at h
    by_cases e : samePl p L = true
    · rw [if_pos e] at h
      obtain rfl := samePl_eq e
      rcases (hg.ib k).1 h with ⟨h1, h2, h3⟩ | ⟨h1, h2⟩
      · exact ⟨hi.is, h2, by have := hi.nar (hi.one h1); omega⟩
      · obtain ⟨_, _, h3, h4⟩ := hm.tmp _ _ h2
        exact ⟨hi.is, h4, by have := hi.nar (by rw [← hi.aw h1]; exact h3); omega⟩
    · rw [if_neg e, keep_bit] at h
      exact hm.is p k h.2
  · simp only [giveF, updT] at h
    by_cases e : t = i.dest.toNat
    · rw [if_pos e] at h
      have e2 : t.toNat = i.dest.toNat := by omega
      rcases (hg.ib k).1 h with ⟨h1, h2, h3⟩ | ⟨h1, h2⟩
      · exact ⟨by omega, by omega, by rw [e2]; exact hi.one h1, h2⟩
      · obtain ⟨_, _, h3, h4⟩ := hm.tmp _ _ h2
        exact ⟨by omega, by omega, by rw [e2, ← hi.aw h1]; exact h3, h4⟩
    · rw [if_neg e] at h
      exact hm.tmp t k h

theorem giveF_is {B : List Bool} {s slots : Int} {C : List LIns} {N : List Int} {m : FM} {i : LIns} {L : LPlace} {gh gi : Bits} {sm : LPlace → Bool} (hB : B.length ≤ 12) (hm : FmOk B s slots N m) (hN : NumsOf C N) (hi : GiveOk B s slots i L) (hg : GotI s slots N m i L gh gi sm) (f : LFact) :
    Kof N (giveF s slots m i.dest.toNat L gh gi sm) f ↔ insK (FactOk B s slots (NumP C)) i L (Kof N m) f := by
  have hok' := giveF_ok hB hm hi hg
  have d0 := hi.d0
  have d1 := hi.d1
  have hd64 : i.dest.toNat < 64 := by omega
  have hLk := is_kind hi.is
  have key : FactOk B s slots (NumP C) f → (Kof N (giveF s slots m i.dest.toNat L gh gi sm) f ↔ 
  (if i.op = 2 ∧ samePl f.pl L = true ∧ f.temp = true ∧ f.t = i.a then True
   else if i.op = 2 ∧ samePl f.pl L = true ∧ f.temp = false then Kof N m (zeroAt i.a f.n)
   else if i.op = 2 ∧ (f.temp = true ∧ f.t = i.dest) ∧ (f.pl.kind = 0 ∨ overB f.pl L = false) then Kof N m ⟨f.pl, f.temp, i.a, f.n⟩
   else if i.op = 1 ∧ (f.temp = true ∧ f.t = i.dest) ∧ ¬ f.pl.kind = 0 ∧ overB f.pl L = false then Kof N m ⟨f.pl, false, 0, i.n⟩
   else if i.op = 1 ∧ (((f.temp = true ∧ f.t = i.dest) ∧ f.pl.kind = 0) ∨ (samePl f.pl L = true ∧ f.temp = false)) then f.n = i.n
   else if samePl f.pl L = true ∧ (f.temp = true ∧ f.t = i.dest) ∧ ¬ f.pl.kind = 0 then True
   else Kof N m f ∧ ¬ (f.temp = true ∧ f.t = i.dest) ∧ (f.pl.kind = 0 ∨ overB f.pl L = false))) := by
    intro hok
    have e12 : i.op = 1 → ¬ i.op = 2 := fun h => by rw [h]; decide
    have hop3 : (i.op = 1) ∨ (i.op = 2) ∨ (¬ i.op = 1 ∧ ¬ i.op = 2) := by
      by_cases h1 : i.op = 1
      · exact Or.inl h1
      by_cases h2 : i.op = 2
      · exact Or.inr (Or.inl h2)
      exact Or.inr (Or.inr ⟨h1, h2⟩)
    by_cases h0 : f.pl.kind = 0
    · obtain ⟨_, hn0, ht⟩ : f.pl.kind = 0 ∧ f.pl.n = 0 ∧ f.temp = true := by rcases hok.pl with h | h; exact h; exact absurd h0 (is_kind h)
      have hs : samePl f.pl L = false := by
        cases hc : samePl f.pl L with
        | false => rfl
        | true => rw [samePl_eq hc] at h0; exact absurd h0 hLk
      obtain ⟨t0, t1⟩ := hok.t ht
      have hnum := hok.num (Or.inl h0)
      have lhs : Kof N (giveF s slots m i.dest.toNat L gh gi sm) f ↔ ∃ k, k < N.length ∧ nAt N k = f.n ∧ (updT m.tmp i.dest.toNat gi f.t).getLsbD k = true := by
        unfold Kof
        rw [if_pos h0]
        exact ⟨fun h => h.2.2, fun h => ⟨hn0, ht, h⟩⟩
      have mf : Kof N m f ↔ ∃ k, k < N.length ∧ nAt N k = f.n ∧ (m.tmp f.t).getLsbD k = true := by
        unfold Kof
        rw [if_pos h0]
        exact ⟨fun h => h.2.2, fun h => ⟨hn0, ht, h⟩⟩
      rw [lhs]
      unfold updT
      by_cases hd : f.t = i.dest
      · have e : f.t = ((i.dest.toNat : Nat) : Int) := hd.trans (Int.toNat_of_nonneg d0).symm
        rw [if_pos e]
        simp only [hg.ib]
        rcases hop3 with h1 | h2 | ⟨h1, h2⟩
        · have := e12 h1
          simp only [h1, hs, ht, hd, h0]
          simp
          constructor
          · rintro ⟨k, hk, hn, _, hn2⟩; rw [← hn, hn2]
          · intro h
            obtain ⟨k, hk, hn⟩ := (hN _).2 hnum
            exact ⟨k, hk, hn, hk, by rw [hn, h]⟩
        · simp only [h2, hs, ht, hd, h0]
          simp
          unfold Kof
          simp [h0, hn0]
        · simp [h1, h2, hs, ht, hd, h0]
      · have e : ¬ f.t = ((i.dest.toNat : Nat) : Int) := fun h => hd (h.trans (Int.toNat_of_nonneg d0))
        rw [if_neg e, ← mf]
        simp [hs, ht, hd, h0]
    have hp : isB s slots f.pl = true := by rcases hok.pl with h | h; exact absurd h.1 h0; exact h
    by_cases hs : samePl f.pl L = true
    · have ho := same_over hs
      by_cases ht : f.temp = true
      · obtain ⟨t0, t1⟩ := hok.t ht
        have hn0 := hok.zn h0 ht
        have lhs : Kof N (giveF s slots m i.dest.toNat L gh gi sm) f ↔ (i.op = 2 ∧ f.t = i.a) ∨ f.t = i.dest := by
          unfold Kof
          rw [if_neg h0, if_pos ht]
          simp only [giveF, updP, if_pos hs, bits_or_only hd64, hg.hb]
          have e : ((f.t.toNat : Nat) : Int) = f.t := by omega
          rw [e]
          constructor
          · rintro ⟨_, _, h | h⟩
            · exact Or.inl h
            · exact Or.inr (by omega)
          · rintro (h | h)
            · exact ⟨hn0, t0, Or.inl h⟩
            · exact ⟨hn0, t0, Or.inr (by omega)⟩
        rw [lhs]
        by_cases ha : i.op = 2 ∧ f.t = i.a
        · simp [ha, hs, ht]
        · by_cases hd : f.t = i.dest
          · rw [if_neg (by rintro ⟨x, _, _, y⟩; exact ha ⟨x, y⟩)]
            simp [hs, ht, ho, hd, h0]
          · rw [if_neg (by rintro ⟨x, _, _, y⟩; exact ha ⟨x, y⟩)]
            simp only [ha, hd]
            simp [hs, ht, ho, h0]
      · have htf : f.temp = false := by simpa using ht
        have hnum := hok.num (Or.inr htf)
        have hzt := hok.zt htf
        have lhs : Kof N (giveF s slots m i.dest.toNat L gh gi sm) f ↔ ∃ k, k < N.length ∧ nAt N k = f.n ∧ gi.getLsbD k = true := by
          unfold Kof
          rw [if_neg h0, if_neg ht]
          simp only [giveF, updP, if_pos hs]
          exact ⟨fun h => h.2, fun h => ⟨hzt, h⟩⟩
        rw [lhs]
        simp only [hg.ib]
        rcases hop3 with h1 | h2 | ⟨h1, h2⟩
        · simp [h1, hs, htf]
          constructor
          · rintro ⟨k, hk, hn, _, hn2⟩; rw [← hn, hn2]
          · intro h
            obtain ⟨k, hk, hn⟩ := (hN _).2 hnum
            exact ⟨k, hk, hn, hk, by rw [hn, h]⟩
        · simp [h2, hs, htf]
          unfold Kof zeroAt
          simp [LPlace.zero]
        · simp [h1, h2, hs, htf, ho, h0]
    have hsf : samePl f.pl L = false := by simpa using hs
    cases ho : overB f.pl L with
    | true =>
      have hsm : sm f.pl = false := by
        cases hc : sm f.pl with
        | false => rfl
        | true =>
          rcases (hg.sb _ hp).1 hc with ⟨_, k, _, _, hb⟩ | ⟨_, hb⟩
          · rw [keep_bit, ho] at hb; exact absurd hb.1 (by simp)
          · rw [keep_bit, ho] at hb; exact absurd hb.1 (by simp)
      have lhs : ¬ Kof N (giveF s slots m i.dest.toNat L gh gi sm) f := by
        unfold Kof
        rw [if_neg h0]
        simp only [giveF, updP, if_neg hs, if_pos hp, hsm]
        split
        · rintro ⟨_, _, h⟩
          simp [keepP, ho] at h
        · rintro ⟨_, k, _, _, h⟩
          simp [keepP, ho] at h
      simp [lhs, hsf, h0]
    | false =>
      have hkp : ∀ g : LPlace → Bits, keepP g L f.pl = g f.pl := fun g => by unfold keepP; rw [if_neg (by rw [ho]; simp)]
      by_cases ht : f.temp = true
      · obtain ⟨t0, t1⟩ := hok.t ht
        have hn0 := hok.zn h0 ht
        have hsm := hg.sb _ hp
        rw [hkp, hkp] at hsm
        by_cases hd : f.t = i.dest
        · have lhs : Kof N (giveF s slots m i.dest.toNat L gh gi sm) f ↔ sm f.pl = true := by
            unfold Kof
            rw [if_neg h0, if_pos ht]
            simp only [giveF, updP, if_neg hs, if_pos hp]
            have e : f.t.toNat = i.dest.toNat := by rw [hd]
            rw [e]
            constructor
            · rintro ⟨_, _, h⟩
              cases hc : sm f.pl with
              | true => rfl
              | false => rw [hc, if_neg (by simp), bits_not_only hd64] at h; exact absurd rfl h.2
            · intro h
              rw [if_pos h, bits_or_only hd64]
              exact ⟨hn0, t0, Or.inr rfl⟩
          rw [lhs, hsm]
          rcases hop3 with h1 | h2 | ⟨h1, h2⟩
          · simp [h1, hsf, ht, hd, h0]
            unfold Kof
            simp [h0]
          · have a0 := hi.a0 h2
            simp [h2, hsf, ht, hd, h0]
            unfold Kof
            simp [h0, hn0, a0]
          · simp [h1, h2, hsf, ht, hd, h0]
        · have lhs : Kof N (giveF s slots m i.dest.toNat L gh gi sm) f ↔ Kof N m f := by
            unfold Kof
            rw [if_neg h0, if_neg h0, if_pos ht, if_pos ht]
            simp only [giveF, updP, if_neg hs, if_pos hp, hkp]
            have e : ¬ f.t.toNat = i.dest.toNat := fun h => hd (by rw [← Int.toNat_of_nonneg t0, h, Int.toNat_of_nonneg d0])
            split
            · rw [bits_or_only hd64]; simp [e]
            · rw [bits_not_only hd64]; simp [e]
          rw [lhs]
          simp [hsf, ht, hd, h0]
      · have htf : f.temp = false := by simpa using ht
        have lhs : Kof N (giveF s slots m i.dest.toNat L gh gi sm) f ↔ Kof N m f := by
          unfold Kof
          rw [if_neg h0, if_neg h0, if_neg ht, if_neg ht]
          simp only [giveF, updP, if_neg hs, hkp]
        rw [lhs]
        simp [hsf, htf, h0]
  constructor
  · intro h
    have hok := Kof.ok hok' hN h
    exact ⟨hok, (key hok).1 h⟩
  · rintro ⟨hok, h⟩
    exact (key hok).2 h

def meetF (m n : FM) : FM := ⟨fun p => m.has p &&& n.has p, fun p => m.is p &&& n.is p, fun t => m.tmp t &&& n.tmp t⟩

theorem getD_inj {N : List Int} (hs : N.Pairwise (· < ·)) {j k : Nat} (hj : j < N.length) (hk : k < N.length) (h : nAt N j = nAt N k) : j = k := by
  rw [List.pairwise_iff_getElem] at hs
  simp only [nAt, List.getD, List.getElem?_eq_getElem hj, List.getElem?_eq_getElem hk, Option.getD_some] at h
  rcases Nat.lt_trichotomy j k with h1 | h1 | h1
  · have := hs j k hj hk h1; omega
  · exact h1
  · have := hs k j hk hj h1; omega

theorem meetF_is {N : List Int} (hs : N.Pairwise (· < ·)) (m n : FM) (f : LFact) : Kof N (meetF m n) f ↔ Kof N m f ∧ Kof N n f := by
  have two : ∀ x y : Bits, (∃ k, k < N.length ∧ nAt N k = f.n ∧ (x &&& y).getLsbD k = true) ↔ ((∃ k, k < N.length ∧ nAt N k = f.n ∧ x.getLsbD k = true) ∧ (∃ k, k < N.length ∧ nAt N k = f.n ∧ y.getLsbD k = true)) := fun x y => by
    constructor
    · rintro ⟨k, hk, hn, hb⟩
      rw [bits_and] at hb
      exact ⟨⟨k, hk, hn, hb.1⟩, ⟨k, hk, hn, hb.2⟩⟩
    · rintro ⟨⟨k, hk, hn, hb⟩, ⟨j, hj, hn2, hb2⟩⟩
      obtain rfl := getD_inj hs hk hj (by rw [hn, hn2])
      exact ⟨k, hk, hn, bits_and.2 ⟨hb, hb2⟩⟩
  unfold Kof
  simp only [meetF]
  split
  · rw [two]
    exact ⟨fun h => ⟨⟨h.1, h.2.1, h.2.2.1⟩, ⟨h.1, h.2.1, h.2.2.2⟩⟩, fun h => ⟨h.1.1, h.1.2.1, h.1.2.2, h.2.2.2⟩⟩
  · split
    · rw [bits_and]
      exact ⟨fun h => ⟨⟨h.1, h.2.1, h.2.2.1⟩, ⟨h.1, h.2.1, h.2.2.2⟩⟩, fun h => ⟨h.1.1, h.1.2.1, h.1.2.2, h.2.2.2⟩⟩
    · rw [two]
      exact ⟨fun h => ⟨⟨h.1, h.2.1⟩, ⟨h.1, h.2.2⟩⟩, fun h => ⟨h.1.1, h.1.2, h.2.2⟩⟩
theorem meetF_ok {B : List Bool} {s slots : Int} {N : List Int} {m n : FM} (hm : FmOk B s slots N m) : FmOk B s slots N (meetF m n) :=
  ⟨fun p t h => hm.has p t (bits_and.1 h).1, fun p k h => hm.is p k (bits_and.1 h).1, fun t k h => hm.tmp t k (bits_and.1 h).1⟩

end Go.Proofs.YtcmnmogmdhofcaaGreat.form
