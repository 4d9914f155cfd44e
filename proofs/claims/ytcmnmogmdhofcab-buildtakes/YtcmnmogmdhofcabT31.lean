/- All facts that may be, in their order, as a list on plain numbers; the numbers of a program, rising. -/
import Derived.Test.YtcmnmogmdhofcabT06
import Derived.Test.YtcmnmogmdhofcabT09
import Derived.Test.YtcmnmogmdhofcabT10

namespace Go.Proofs.Ytcmnmogmdhofcab.form
open Go.RowKit Go.Proofs.Ytcmnmogmdhofcab.num
set_option linter.unusedVariables false

/-- A number put into rising ones. -/
def insN (n : Int) : List Int → List Int
  | [] => [n]
  | x :: l => if x < n then x :: insN n l else if x = n then x :: l else n :: x :: l

theorem mem_insN {n y : Int} : ∀ {l : List Int}, y ∈ insN n l ↔ y = n ∨ y ∈ l
  | [] => by simp [insN]
  | x :: l => by
    unfold insN
    split
    · rw [List.mem_cons, mem_insN, List.mem_cons]
      constructor
      · rintro (h | h | h)
        · exact Or.inr (Or.inl h)
        · exact Or.inl h
        · exact Or.inr (Or.inr h)
      · rintro (h | h | h)
        · exact Or.inr (Or.inl h)
        · exact Or.inl h
        · exact Or.inr (Or.inr h)
    · split
      · rename_i h
        subst h
        simp
      · simp

theorem insN_sorted {n : Int} : ∀ {l : List Int}, l.Pairwise (· < ·) → (insN n l).Pairwise (· < ·)
  | [], _ => by simp [insN]
  | x :: l, h => by
    unfold insN
    rw [List.pairwise_cons] at h
    split
    · rename_i h1
      rw [List.pairwise_cons]
      refine ⟨fun y hy => ?_, insN_sorted h.2⟩
      rcases mem_insN.1 hy with rfl | hy
      · exact h1
      · exact h.1 y hy
    · split
      · rw [List.pairwise_cons]; exact h
      · rw [List.pairwise_cons, List.pairwise_cons]
        refine ⟨fun y hy => ?_, h⟩
        rcases List.mem_cons.1 hy with rfl | hy
        · omega
        · have := h.1 y hy; omega

/-- Where it goes. -/
theorem insN_at {n : Int} : ∀ {l : List Int} {k : Nat}, (∀ j, j < k → l.getD j 0 < n) → k ≤ l.length → (k < l.length → ¬ l.getD k 0 < n) → insN n l = if k < l.length ∧ l.getD k 0 = n then l else l.take k ++ n :: l.drop k
  | [], k, _, hk, _ => by
    have : k = 0 := by simpa using hk
    subst this
    simp [insN]
  | x :: l, 0, _, _, h => by
    have h0 := h (by simp)
    simp at h0
    unfold insN
    rw [if_neg (by omega)]
    by_cases e : x = n
    · simp [e]
    · simp [e]
  | x :: l, k + 1, h1, hk, h2 => by
    have h0 := h1 0 (by omega)
    simp at h0
    unfold insN
    rw [if_pos h0, insN_at (l := l) (k := k) (fun j hj => by have := h1 (j + 1) (by omega); simpa using this) (by simpa using hk) (fun hl => by have := h2 (by simpa using hl); simpa using this)]
    simp only [List.length_cons, Nat.add_lt_add_iff_right, List.getD_cons_succ, List.take_succ_cons, List.drop_succ_cons]
    split <;> simp

/-- The numbers of a program, rising. -/
def numsL (C : List LIns) : List Int := C.foldl (fun l i => if i.op = 1 then insN i.n l else l) [0]

theorem nums_fold (C : List LIns) : ∀ (l : List Int), l.Pairwise (· < ·) → (C.foldl (fun l i => if i.op = 1 then insN i.n l else l) l).Pairwise (· < ·) ∧ ∀ x, x ∈ C.foldl (fun l i => if i.op = 1 then insN i.n l else l) l ↔ x ∈ l ∨ ∃ i, i ∈ C ∧ i.op = 1 ∧ i.n = x := by
  induction C with
  | nil => exact fun l h => ⟨h, fun x => by simp⟩
  | cons i C ih =>
    intro l h
    simp only [List.foldl_cons]
    by_cases e : i.op = 1
    · rw [if_pos e]
      obtain ⟨a, b⟩ := ih (insN i.n l) (insN_sorted h)
      refine ⟨a, fun x => ?_⟩
      rw [b, mem_insN]
      constructor
      · rintro ((rfl | h1) | ⟨i', h1, h2, h3⟩)
        · exact Or.inr ⟨i, by simp, e, rfl⟩
        · exact Or.inl h1
        · exact Or.inr ⟨i', by simp [h1], h2, h3⟩
      · rintro (h1 | ⟨i', h1, h2, h3⟩)
        · exact Or.inl (Or.inr h1)
        · rcases List.mem_cons.1 h1 with rfl | h1
          · exact Or.inl (Or.inl h3.symm)
          · exact Or.inr ⟨i', h1, h2, h3⟩
    · rw [if_neg e]
      obtain ⟨a, b⟩ := ih l h
      refine ⟨a, fun x => ?_⟩
      rw [b]
      constructor
      · rintro (h1 | ⟨i', h1, h2, h3⟩)
        · exact Or.inl h1
        · exact Or.inr ⟨i', by simp [h1], h2, h3⟩
      · rintro (h1 | ⟨i', h1, h2, h3⟩)
        · exact Or.inl h1
        · rcases List.mem_cons.1 h1 with rfl | h1
          · exact absurd h2 e
          · exact Or.inr ⟨i', h1, h2, h3⟩

theorem nums_sorted (C : List LIns) : (numsL C).Pairwise (· < ·) := (nums_fold C [0] (by simp)).1
theorem nums_mem (C : List LIns) (x : Int) : x ∈ numsL C ↔ NumP C x := by
  unfold numsL NumP
  rw [(nums_fold C [0] (by simp)).2]
  constructor
  · rintro (h | ⟨i, h, h2, h3⟩)
    · exact Or.inl (by simpa using h)
    · obtain ⟨k, hk, rfl⟩ := List.getElem_of_mem h
      exact Or.inr ⟨k, hk, by simpa [List.getD, hk] using h2, by simpa [List.getD, hk] using h3⟩
  · rintro (h | ⟨k, hk, h2, h3⟩)
    · exact Or.inl (by simp [h])
    · exact Or.inr ⟨C.getD k .zero, by simp [List.getD, hk], h2, h3⟩

theorem insN_len (n : Int) : ∀ l : List Int, (insN n l).length ≤ l.length + 1
  | [] => by simp [insN]
  | x :: l => by
    unfold insN
    split
    · have := insN_len n l; simp; omega
    · split <;> simp
theorem nums_len (C : List LIns) : (numsL C).length ≤ C.length + 1 := by
  have : ∀ (C : List LIns) (l : List Int), (C.foldl (fun l i => if i.op = 1 then insN i.n l else l) l).length ≤ C.length + l.length := by
    intro C
    induction C with
    | nil => intro l; simp
    | cons i C ih =>
      intro l
      simp only [List.foldl_cons, List.length_cons]
      refine Nat.le_trans (ih _) ?_
      split
      · have := insN_len i.n l; omega
      · omega
  exact this C [0]

/-- May a place have a temporary? -/
def mayK (B : List Bool) (kind : Int) (x : Nat) : Bool := (kind == 3) || ((kind == 1) && !(B.getD x false)) || ((kind == 2) && B.getD x false)

def tempF (B : List Bool) (N : List Int) (x : Nat) : List LFact := if B.getD x false = true then [] else N.map fun n => ⟨.zero, true, x, n⟩
def placeF (B : List Bool) (N : List Int) (kind : Int) (n : Nat) : List LFact :=
  (if kind = 2 then [] else N.map fun v => ⟨⟨kind, n⟩, false, 0, v⟩) ++ ((List.range B.length).filter (mayK B kind)).map fun (x : Nat) => (⟨⟨kind, n⟩, true, x, 0⟩ : LFact)
def kindF (B : List Bool) (N : List Int) (kind : Int) (many : Nat) : List LFact := (List.range many).flatMap (placeF B N kind)
def allF (B : List Bool) (N : List Int) (s slots : Nat) : List LFact :=
  (List.range B.length).flatMap (tempF B N) ++ kindF B N 1 s ++ kindF B N 2 (s / 2) ++ kindF B N 3 slots

theorem mem_tempF {B : List Bool} {N : List Int} {x : Nat} {f : LFact} : f ∈ tempF B N x ↔ B.getD x false = false ∧ f.pl = .zero ∧ f.temp = true ∧ f.t = x ∧ f.n ∈ N := by
  unfold tempF
  cases h : B.getD x false with
  | true => simp
  | false =>
    simp only [Bool.false_eq_true, if_false, List.mem_map]
    constructor
    · rintro ⟨n, hn, rfl⟩; exact ⟨trivial, rfl, rfl, rfl, hn⟩
    · rintro ⟨_, h1, h2, h3, h4⟩
      obtain ⟨p, t, x', n⟩ := f
      simp only at h1 h2 h3 h4
      subst h1 h2 h3
      exact ⟨n, h4, rfl⟩

theorem mem_placeF {B : List Bool} {N : List Int} {kind : Int} {n : Nat} {f : LFact} : f ∈ placeF B N kind n ↔ f.pl = ⟨kind, n⟩ ∧ ((¬ kind = 2 ∧ f.temp = false ∧ f.t = 0 ∧ f.n ∈ N) ∨ (f.temp = true ∧ f.n = 0 ∧ ∃ x : Nat, x < B.length ∧ f.t = x ∧ mayK B kind x = true)) := by
  unfold placeF
  rw [List.mem_append]
  constructor
  · rintro (h | h)
    · split at h
      · simp at h
      · rename_i hk
        obtain ⟨v, hv, rfl⟩ := List.mem_map.1 h
        exact ⟨rfl, Or.inl ⟨hk, rfl, rfl, hv⟩⟩
    · obtain ⟨x, hx, rfl⟩ := List.mem_map.1 h
      rw [List.mem_filter, List.mem_range] at hx
      exact ⟨rfl, Or.inr ⟨rfl, rfl, x, hx.1, rfl, hx.2⟩⟩
  · obtain ⟨p, t, x', v⟩ := f
    rintro ⟨h, ⟨hk, h1, h2, h3⟩ | ⟨h1, h2, x, hx, h3, h4⟩⟩
    · simp only at h h1 h2 h3
      subst h h1 h2
      rw [if_neg hk]
      exact Or.inl (List.mem_map.2 ⟨v, h3, rfl⟩)
    · simp only at h h1 h2 h3
      subst h h1 h2 h3
      exact Or.inr (List.mem_map.2 ⟨x, by rw [List.mem_filter, List.mem_range]; exact ⟨hx, h4⟩, rfl⟩)

theorem mem_kindF {B : List Bool} {N : List Int} {kind : Int} {many : Nat} {f : LFact} : f ∈ kindF B N kind many ↔ ∃ n : Nat, n < many ∧ f ∈ placeF B N kind n := by
  unfold kindF
  rw [List.mem_flatMap]
  constructor
  · rintro ⟨n, hn, h⟩; exact ⟨n, by simpa using hn, h⟩
  · rintro ⟨n, hn, h⟩; exact ⟨n, by simpa using hn, h⟩

theorem pl_ext {p q : LPlace} (h1 : p.kind = q.kind) (h2 : p.n = q.n) : p = q := by
  obtain ⟨a, b⟩ := p
  obtain ⟨c, d⟩ := q
  simp only at h1 h2
  rw [h1, h2]

/-- They are those that may be. -/
theorem mem_allF {B : List Bool} {N : List Int} {s slots : Nat} (hs : s % 2 = 0) (hs2 : s ≤ 16) {f : LFact} : f ∈ allF B N s slots ↔ FactOk B s slots (· ∈ N) f := by
  unfold allF
  simp only [List.mem_append, List.mem_flatMap, List.mem_range, mem_tempF, mem_kindF, mem_placeF]
  constructor
  · rintro (((⟨x, hx, h0, h1, h2, h3, h4⟩ | ⟨n, hn, h1, h⟩) | ⟨n, hn, h1, h⟩) | ⟨n, hn, h1, h⟩)
    · have hk : f.pl.kind = 0 := by rw [h1]; rfl
      have hk2 : f.pl.n = 0 := by rw [h1]; rfl
      exact ⟨Or.inl ⟨hk, hk2, h2⟩, fun _ => by omega, fun _ _ => by rw [h3]; simpa using h0, fun _ e => by omega, fun _ => h4, fun e => absurd hk e, fun e => by rw [h2] at e; exact absurd e (by simp), fun e => by rw [h2] at e; exact absurd e (by simp)⟩
    · have hk : f.pl.kind = 1 := by rw [h1]
      have hn' : f.pl.n = n := by rw [h1]
      have his : isB s slots f.pl = true := by unfold isB; rw [if_pos hk]; simp; omega
      rcases h with ⟨h2, h3, h4, h5⟩ | ⟨h2, h3, x, hx, h4, h5⟩
      · exact ⟨Or.inr his, fun e => by rw [h3] at e; exact absurd e (by simp), fun e => by rw [h3] at e; exact absurd e (by simp), fun e => by rw [h3] at e; exact absurd e (by simp), fun _ => h5, fun _ e => by rw [h3] at e; exact absurd e (by simp), fun _ => h4, fun _ => by omega⟩
      · unfold mayK at h5
        simp at h5
        exact ⟨Or.inr his, fun _ => by omega, fun _ _ => by rw [h4]; simpa using h5, fun _ e => by omega, fun e => by rcases e with e | e; omega; rw [h2] at e; exact absurd e (by simp), fun _ _ => h3, fun e => by rw [h2] at e; exact absurd e (by simp), fun e => by rw [h2] at e; exact absurd e (by simp)⟩
    · have hk : f.pl.kind = 2 := by rw [h1]
      have hn' : f.pl.n = n := by rw [h1]
      have his : isB s slots f.pl = true := by unfold isB; rw [if_neg (by omega), if_pos hk]; simp; omega
      rcases h with ⟨h2, h3, h4, h5⟩ | ⟨h2, h3, x, hx, h4, h5⟩
      · exact absurd trivial h2
      · unfold mayK at h5
        simp at h5
        exact ⟨Or.inr his, fun _ => by omega, fun _ e => by omega, fun _ _ => by rw [h4]; simpa using h5, fun e => by rcases e with e | e; omega; rw [h2] at e; exact absurd e (by simp), fun _ _ => h3, fun e => by rw [h2] at e; exact absurd e (by simp), fun e => by rw [h2] at e; exact absurd e (by simp)⟩
    · have hk : f.pl.kind = 3 := by rw [h1]
      have hn' : f.pl.n = n := by rw [h1]
      have his : isB s slots f.pl = true := by unfold isB; rw [if_neg (by omega), if_neg (by omega), if_pos hk]; simp; omega
      rcases h with ⟨h2, h3, h4, h5⟩ | ⟨h2, h3, x, hx, h4, h5⟩
      · exact ⟨Or.inr his, fun e => by rw [h3] at e; exact absurd e (by simp), fun e => by rw [h3] at e; exact absurd e (by simp), fun e => by rw [h3] at e; exact absurd e (by simp), fun _ => h5, fun _ e => by rw [h3] at e; exact absurd e (by simp), fun _ => h4, fun _ => by omega⟩
      · exact ⟨Or.inr his, fun _ => by omega, fun _ e => by omega, fun _ e => by omega, fun e => by rcases e with e | e; omega; rw [h2] at e; exact absurd e (by simp), fun _ _ => h3, fun e => by rw [h2] at e; exact absurd e (by simp), fun e => by rw [h2] at e; exact absurd e (by simp)⟩
  · intro h
    by_cases h0 : f.pl.kind = 0
    · have hp : f.pl.n = 0 ∧ f.temp = true := by rcases h.pl with hp | hp; exact hp.2; exact absurd h0 (is_kind hp)
      obtain ⟨t0, t1⟩ := h.t hp.2
      refine Or.inl (Or.inl (Or.inl ⟨f.t.toNat, by omega, ?_, pl_ext h0 hp.1, hp.2, by omega, h.num (Or.inl h0)⟩))
      exact h.nar hp.2 (Or.inl h0)
    · have his : isB s slots f.pl = true := by rcases h.pl with hp | hp; exact absurd hp.1 h0; exact hp
      rcases is_cases his with ⟨e, a, b⟩ | ⟨e, a, b⟩ | ⟨e, a, b⟩
      · refine Or.inl (Or.inl (Or.inr ⟨f.pl.n.toNat, by omega, pl_ext e (by simp only; omega), ?_⟩))
        cases ht : f.temp with
        | false => exact Or.inl ⟨by omega, rfl, h.zt ht, h.num (Or.inr ht)⟩
        | true =>
          obtain ⟨t0, t1⟩ := h.t ht
          refine Or.inr ⟨rfl, h.zn h0 ht, f.t.toNat, by omega, by omega, ?_⟩
          have := h.nar ht (Or.inr e)
          unfold mayK
          rw [this]
          rfl
      · refine Or.inl (Or.inr ⟨f.pl.n.toNat, by omega, pl_ext e (by simp only; omega), ?_⟩)
        cases ht : f.temp with
        | false => exact absurd e (h.dbl ht)
        | true =>
          obtain ⟨t0, t1⟩ := h.t ht
          refine Or.inr ⟨rfl, h.zn h0 ht, f.t.toNat, by omega, by omega, ?_⟩
          have := h.wid ht e
          unfold mayK
          rw [this]
          rfl
      · refine Or.inr ⟨f.pl.n.toNat, by omega, pl_ext e (by simp only; omega), ?_⟩
        cases ht : f.temp with
        | false => exact Or.inl ⟨by omega, rfl, h.zt ht, h.num (Or.inr ht)⟩
        | true =>
          obtain ⟨t0, t1⟩ := h.t ht
          exact Or.inr ⟨rfl, h.zn h0 ht, f.t.toNat, by omega, by omega, rfl⟩

/-- Their order. -/
def factLt (f g : LFact) : Prop :=
  f.pl.kind < g.pl.kind ∨ (f.pl.kind = g.pl.kind ∧ (f.pl.n < g.pl.n ∨ (f.pl.n = g.pl.n ∧ ((f.temp = false ∧ g.temp = true) ∨ (f.temp = g.temp ∧ (f.t < g.t ∨ (f.t = g.t ∧ f.n < g.n)))))))

theorem factLt_ne {f : LFact} : ¬ factLt f f := by
  unfold factLt
  rintro (h | ⟨_, h | ⟨_, ⟨h1, h2⟩ | ⟨_, h | ⟨_, h⟩⟩⟩⟩)
  · omega
  · omega
  · rw [h1] at h2; exact absurd h2 (by simp)
  · omega
  · omega

theorem place_sorted {B : List Bool} {N : List Int} (hN : N.Pairwise (· < ·)) (kind : Int) (n : Nat) : (placeF B N kind n).Pairwise factLt := by
  unfold placeF
  rw [List.pairwise_append]
  refine ⟨?_, ?_, ?_⟩
  · split
    · exact List.Pairwise.nil
    · rw [List.pairwise_map]
      exact hN.imp (fun {a b} h => Or.inr ⟨rfl, Or.inr ⟨rfl, Or.inr ⟨rfl, Or.inr ⟨rfl, h⟩⟩⟩⟩)
  · rw [List.pairwise_map]
    refine (List.pairwise_lt_range.filter _).imp (fun {a b} h => Or.inr ⟨rfl, Or.inr ⟨rfl, Or.inr ⟨rfl, Or.inl ?_⟩⟩⟩)
    show (a : Int) < (b : Int)
    omega
  · intro f hf g hg
    split at hf
    · simp at hf
    · obtain ⟨v, _, rfl⟩ := List.mem_map.1 hf
      obtain ⟨x, _, rfl⟩ := List.mem_map.1 hg
      exact Or.inr ⟨rfl, Or.inr ⟨rfl, Or.inl ⟨rfl, rfl⟩⟩⟩

theorem kind_sorted {B : List Bool} {N : List Int} (hN : N.Pairwise (· < ·)) (kind : Int) (many : Nat) : (kindF B N kind many).Pairwise factLt := by
  unfold kindF
  rw [List.pairwise_flatMap]
  refine ⟨fun n _ => place_sorted hN kind n, ?_⟩
  refine List.pairwise_lt_range.imp (fun {a b} h f hf g hg => ?_)
  have h1 := (mem_placeF.1 hf).1
  have h2 := (mem_placeF.1 hg).1
  exact Or.inr ⟨by rw [h1, h2], Or.inl (by rw [h1, h2]; simp only; omega)⟩

theorem temp_sorted {B : List Bool} {N : List Int} (hN : N.Pairwise (· < ·)) : ((List.range B.length).flatMap (tempF B N)).Pairwise factLt := by
  rw [List.pairwise_flatMap]
  refine ⟨fun x _ => ?_, ?_⟩
  · unfold tempF
    split
    · exact List.Pairwise.nil
    · rw [List.pairwise_map]
      exact hN.imp (fun {a b} h => Or.inr ⟨rfl, Or.inr ⟨rfl, Or.inr ⟨rfl, Or.inr ⟨rfl, h⟩⟩⟩⟩)
  · refine List.pairwise_lt_range.imp (fun {a b} h f hf g hg => ?_)
    obtain ⟨_, h1, h2, h3, _⟩ := mem_tempF.1 hf
    obtain ⟨_, k1, k2, k3, _⟩ := mem_tempF.1 hg
    exact Or.inr ⟨by rw [h1, k1], Or.inr ⟨by rw [h1, k1], Or.inr ⟨by rw [h2, k2], Or.inl (by rw [h3, k3]; omega)⟩⟩⟩

theorem all_sorted {B : List Bool} {N : List Int} (hN : N.Pairwise (· < ·)) (s slots : Nat) : (allF B N s slots).Pairwise factLt := by
  have hk : ∀ kind many f, f ∈ kindF B N kind many → f.pl.kind = kind := fun kind many f hf => by
    obtain ⟨n, _, h⟩ := mem_kindF.1 hf
    rw [(mem_placeF.1 h).1]
  have h0 : ∀ f, f ∈ (List.range B.length).flatMap (tempF B N) → f.pl.kind = 0 := fun f hf => by
    obtain ⟨x, _, h⟩ := List.mem_flatMap.1 hf
    rw [(mem_tempF.1 h).2.1]; rfl
  unfold allF
  rw [List.pairwise_append, List.pairwise_append, List.pairwise_append]
  refine ⟨⟨⟨temp_sorted hN, kind_sorted hN 1 s, fun f hf g hg => Or.inl (by rw [h0 f hf, hk _ _ g hg]; omega)⟩, kind_sorted hN 2 _, fun f hf g hg => Or.inl ?_⟩, kind_sorted hN 3 _, fun f hf g hg => Or.inl ?_⟩
  · rw [hk _ _ g hg]
    rcases List.mem_append.1 hf with hf | hf
    · rw [h0 f hf]; omega
    · rw [hk _ _ f hf]; omega
  · rw [hk _ _ g hg]
    rcases List.mem_append.1 hf with hf | hf
    · rcases List.mem_append.1 hf with hf | hf
      · rw [h0 f hf]; omega
      · rw [hk _ _ f hf]; omega
    · rw [hk _ _ f hf]; omega

/-- Each stands once. -/
theorem sorted_inj {F : List LFact} (h : F.Pairwise factLt) {i j : Nat} {f : LFact} (hi : F[i]? = some f) (hj : F[j]? = some f) : i = j := by
  obtain ⟨hi', rfl⟩ := List.getElem?_eq_some_iff.1 hi
  obtain ⟨hj', e⟩ := List.getElem?_eq_some_iff.1 hj
  rw [List.pairwise_iff_getElem] at h
  rcases Nat.lt_trichotomy i j with hlt | hlt | hlt
  · have := h i j hi' hj' hlt
    rw [e] at this
    exact absurd this factLt_ne
  · exact hlt
  · have := h j i hj' hi' hlt
    rw [e] at this
    exact absurd this factLt_ne

end Go.Proofs.Ytcmnmogmdhofcab.form

/- The numbers of a program (loanbookref8.numbers): rising, each once. -/
namespace Go.Proofs.Ytcmnmogmdhofcab.form
open Go.RowKit Go.Proofs.Ytcmnmogmdhofcab.num
set_option linter.unusedVariables false
attribute [local go_sem ↓] Go.wp_at_zero Go.wp_at_succ

/-- A cell of the call's own row is written. -/
theorem own_set {w : World} {base : Nat} {e : TypeId} {g cap n : Nat} {xs : List Value} (h : w.ownsRow base e 1 (.slice (some ⟨g, 0, none⟩) n cap) n xs) {i : Nat} (hi : i < n) (u : Value) :
    (w.setCell ⟨g, i, none⟩ u).ownsRow base e 1 (.slice (some ⟨g, 0, none⟩) n cap) n (xs.set i u) := by
  refine ⟨by simp [h.1], ?_⟩
  rcases h.2 with ⟨hn, _⟩ | ⟨g', cap', cur, hv, hb, hgg, h1, h2, h3, h4⟩
  · exact absurd hn (by simp)
  · simp at hv
    obtain ⟨rfl, rfl⟩ := hv
    refine .inr ⟨g, cap, cur.setIfInBounds i u, rfl, hb, ?_, h1, h2, by simp [h3], ?_⟩
    · rw [heap_setCell_same w g i cur e u hgg]
    · simp only [Array.toList_setIfInBounds]
      rw [List.take_set, h4]
theorem own_cell {w : World} {base : Nat} {e : TypeId} {g cap n : Nat} {xs : List Value} (h : w.ownsRow base e 1 (.slice (some ⟨g, 0, none⟩) n cap) n xs) {i : Nat} (hi : i < n) : w.cell? ⟨g, i, none⟩ = xs[i]? := by
  rw [World.ownsRow.cellAt h i (by have := h.1; omega)]
theorem own_frozen {w : World} {base : Nat} {e : TypeId} {g cap n : Nat} {xs : List Value} (h : w.ownsRow base e 1 (.slice (some ⟨g, 0, none⟩) n cap) n xs) (i : Nat) : w.frozen? ⟨g, i, none⟩ = false := by
  rcases h.2 with ⟨hn, _⟩ | ⟨g', cap', cur, hv, hb, hgg, h1, h2, h3, h4⟩
  · exact absurd hn (by simp)
  · simp at hv
    obtain ⟨rfl, rfl⟩ := hv
    simp [World.frozen?, hgg]

/-- Numbers in new memory. -/
def U32sAt (lo : Nat) (w : World) (v : Value) (l : List Int) : Prop :=
  ∃ ao cap, v = .slice ao l.length cap ∧ (0 < l.length → ∃ b, ao = some ⟨b, 0, none⟩ ∧ lo ≤ b ∧ b < w.heap.size ∧ ∀ j, j < l.length → w.cell? ⟨b, j, none⟩ = some (.int .u32 (l.getD j 0)))

/-- What lies in memory meanwhile. -/
structure NuS (w : World) (b1 o1 c1 nC : Nat) (l : List Int) (v : Value) (wr : World) : Prop where
  bel : Below w.heap.size w wr
  p1 : wr.cell? ⟨w.heap.size, 1, none⟩ = some (.slice (some ⟨b1, o1, none⟩) nC c1)
  own : wr.ownsRow (w.heap.size + 1) 69 1 v l.length (l.map (Value.int .u32))

section
variable {w : World} {b1 o1 c1 nC : Nat} {l : List Int} {v : Value} {wr w1 : World}
theorem NuS.below (h : NuS w b1 o1 c1 nC l v wr) (hb : Below wr.heap.size wr w1) : NuS w b1 o1 c1 nC l v w1 := ⟨step_below hb h.bel, step_cell hb h.p1, own_below h.own hb⟩
theorem NuS.ownNe (h : NuS w b1 o1 c1 nC l v wr) {b : Nat} (hb : b < w.heap.size + 1) : v.ownBlock ≠ some b := fun e => by have := (World.ownsRow.lt h.own _ e).1; omega
theorem NuS.push (h : NuS w b1 o1 c1 nC l v wr) {g cap : Nat} {y : Int} (hz : w.heap.size + 1 ≤ wr.heap.size)
    (hown : w1.ownsRow (w.heap.size + 1) 69 1 (.slice (some ⟨g, 0, none⟩) (l.length + 1) cap) (l.length + 1) (l.map (Value.int .u32) ++ [.int .u32 y])) (hgrow : wr.grownBy w1 v.ownBlock) :
    NuS w b1 o1 c1 nC (l ++ [y]) (.slice (some ⟨g, 0, none⟩) (l.length + 1) cap) w1 :=
  ⟨h.bel.grown hgrow (by omega) (fun j hj => by have := (World.ownsRow.lt h.own _ hj).1; omega), by rw [hgrow.cell_far _ (by dsimp only; omega) (Ne.symm (h.ownNe (by dsimp only; omega)))]; exact h.p1, by simpa using hown⟩
theorem NuS.set {g cap : Nat} (h : NuS w b1 o1 c1 nC l (.slice (some ⟨g, 0, none⟩) l.length cap) wr) {i : Nat} (hi : i < l.length) (x : Int) : NuS w b1 o1 c1 nC (l.set i x) (.slice (some ⟨g, 0, none⟩) l.length cap) (wr.setCell ⟨g, i, none⟩ (.int .u32 x)) := by
  have hg : w.heap.size + 1 ≤ g := (World.ownsRow.lt h.own g rfl).1
  refine ⟨h.bel.setCell (by show w.heap.size ≤ g; omega) _, cell_other h.p1 (by show w.heap.size ≠ g; omega), ?_⟩
  have := own_set h.own hi (.int .u32 x)
  simpa [List.map_set] using this
theorem NuS.form (h : NuS w b1 o1 c1 nC l v wr) (hl : 0 < l.length) : ∃ g cap, v = .slice (some ⟨g, 0, none⟩) l.length cap ∧ w.heap.size + 1 ≤ g ∧ g < wr.heap.size ∧ ∀ j, j < l.length → wr.cell? ⟨g, j, none⟩ = some (.int .u32 (l.getD j 0)) := by
  obtain ⟨g, cap, rfl, hbg, hlt⟩ := h.own.form hl
  refine ⟨g, cap, rfl, hbg, hlt, fun j hj => ?_⟩
  rw [World.ownsRow.cellAt h.own j (by omega)]
  simp [List.getD, hj]
theorem NuS.u32s (h : NuS w b1 o1 c1 nC l v wr) (hl : 0 < l.length) : U32sAt w.heap.size wr v l := by
  obtain ⟨g, cap, rfl, h1, h2, h3⟩ := h.form hl
  exact ⟨_, cap, rfl, fun _ => ⟨g, rfl, by omega, h2, h3⟩⟩
end

/-- Numbers of so many instructions. -/
theorem nums_take {C : List LIns} {k : Nat} (hk : k < C.length) : numsL (C.take (k + 1)) = if (C.getD k .zero).op = 1 then insN (C.getD k .zero).n (numsL (C.take k)) else numsL (C.take k) := by
  have e : C.getD k .zero = C[k] := by simp [List.getD, hk]
  unfold numsL
  rw [List.take_succ_eq_append_getElem hk, List.foldl_append, e]
  rfl

theorem nums_pos (C : List LIns) : 0 < (numsL C).length := by
  have : (0 : Int) ∈ numsL C := (nums_mem C 0).2 (Or.inl rfl)
  exact List.length_pos_of_mem this

/-- Numbers moved on by one, down to some place. -/
def Shifted (l : List Int) (i : Nat) (X : List Int) : Prop := X.length = l.length + 1 ∧ ∀ j, j ≤ l.length → X.getD j 0 = if j ≤ i then (l ++ [0]).getD j 0 else l.getD (j - 1) 0

theorem shifted_step {l X : List Int} {i : Nat} (h : Shifted l (i + 1) X) (hi : i < l.length) : Shifted l i (X.set (i + 1) (X.getD i 0)) := by
  obtain ⟨h1, h2⟩ := h
  refine ⟨by simp [h1], fun j hj => ?_⟩
  by_cases e : j = i + 1
  · subst e
    rw [show (X.set (i + 1) (X.getD i 0)).getD (i + 1) 0 = X.getD i 0 by simp [List.getD, h1, hi], if_neg (by omega), h2 i (by omega), if_pos (by omega)]
    simp [List.getD, List.getElem?_append_left hi]
  · rw [show (X.set (i + 1) (X.getD i 0)).getD j 0 = X.getD j 0 by simp [List.getD, Ne.symm e], h2 j hj]
    by_cases h3 : j ≤ i
    · rw [if_pos (by omega), if_pos h3]
    · rw [if_neg (by omega), if_neg h3]
theorem shifted_end {l X : List Int} {k : Nat} {n : Int} (h : Shifted l k X) (hk : k ≤ l.length) : X.set k n = l.take k ++ n :: l.drop k := by
  obtain ⟨h1, h2⟩ := h
  apply List.ext_getElem (by simp [h1]; omega)
  intro j hj1 hj2
  have hj : j ≤ l.length := by simp [h1] at hj1; omega
  have hjx : j < X.length := by omega
  have g2 := h2 j hj
  rw [show X.getD j 0 = X[j] by simp [List.getD, hjx]] at g2
  rw [List.getElem_set]
  by_cases e : k = j
  · subst e
    rw [if_pos rfl, List.getElem_append_right (by simp; omega)]
    simp [Nat.min_eq_left hk]
  · rw [if_neg e, g2]
    by_cases h3 : j < k
    · rw [if_pos (by omega), List.getElem_append_left (by simp; omega)]
      simp [List.getD, List.getElem?_append_left (show j < l.length by omega), show j < l.length by omega]
    · rw [if_neg (by omega), List.getElem_append_right (by simp; omega)]
      have hm : (l.take k).length = k := by simp; omega
      have hjk : j - (l.take k).length = (j - k - 1) + 1 := by omega
      simp only [hjk, List.getElem_cons_succ, List.getElem_drop]
      have h4 : j - 1 < l.length := by omega
      have h5 : k + (j - k - 1) = j - 1 := by omega
      simp [List.getD, h4, h5]

theorem insN_stay {l : List Int} {a : Nat} {n : Int} (h1 : ∀ j, j < a → l.getD j 0 < n) (ha : a < l.length) (he : l.getD a 0 = n) : insN n l = l := by
  rw [insN_at h1 (by omega) (fun _ => by omega), if_pos ⟨ha, he⟩]
theorem insN_put {l X : List Int} {a : Nat} {n : Int} (h1 : ∀ j, j < a → l.getD j 0 < n) (ha : a ≤ l.length) (he : a < l.length → n < l.getD a 0) (hX : Shifted l a X) : X.set a n = insN n l := by
  rw [insN_at h1 ha (fun h => by have := he h; omega), if_neg (fun h => by have := he h.1; omega), shifted_end hX ha]

set_option maxRecDepth 100000 in
set_option maxHeartbeats 2000000 in
theorem numbers8 (b0 o0 c0 b1 o1 c1 : Nat) (B : List Bool) (C : List LIns) (w : World) (hC : C.length ≤ 40) (h : Held w b0 o0 b1 o1 B C) :
    Calls Try.prog 75 #[progV b0 o0 B.length c0 b1 o1 C.length c1] w fun e w' => (∃ v, e = .returned v ∧ U32sAt w.heap.size w' v (numsL C)) ∧ Below w.heap.size w w' := by
  have y2 : (C.length : Int) ≤ 40 := by omega
  have HH : Hid (Held w b0 o0 b1 o1 B C) := h
  have hlt1 := h.lt1
  clear h
  unfold progV
  go_enter Try.func75, Try.ntmps75
  go_wp2
  go_loopw [3, 4] (fun v kv wr => ∃ (k : Nat) (v0 : Value), v0 = v ∧ kv = .int .i64 k ∧ k ≤ C.length ∧ NuS w b1 o1 c1 C.length (numsL (C.take k)) v wr) (fun _ kv _ => C.length - (intOf kv).toNat)
  case atStart =>
    refine ⟨0, _, rfl, rfl, by omega, ((Below.refl _ _).alloc (Nat.le_refl _) _).alloc (by simp) _, by simp [go_sem], ?_⟩
    refine ⟨rfl, .inr ⟨w.heap.size + 1, 1, #[.int .u32 0], rfl, by omega, ?_, by simp [numsL], by unfold maxLen; omega, rfl, rfl⟩⟩
    have := heap_alloc_new (w.alloc (.cells #[.slice (some ⟨b0, o0, none⟩) B.length c0, .slice (some ⟨b1, o1, none⟩) C.length c1] 25)) (.cells #[.int .u32 0] 69)
    simpa using this
  case round =>
    obtain ⟨k, v, rfl, rfl, hk, hnu⟩ := hrel
    obtain ⟨wo, hwo⟩ : ∃ q, q = wr := ⟨_, rfl⟩
    subst hwo
    have HNU : Hid (NuS w b1 o1 c1 C.length (numsL (C.take k)) v wo) := hnu
    have p1 := hnu.p1
    have hll := nums_len (C.take k)
    have hlp := nums_pos (C.take k)
    have HNT : Hid (∀ hk : k < C.length, numsL (C.take (k + 1)) = if (C.getD k .zero).op = 1 then insN (C.getD k .zero).n (numsL (C.take k)) else numsL (C.take k)) := fun hk => nums_take hk
    by_cases hlt : k < C.length
    case neg =>
      have y9 : ¬ (k : Int) < (C.length : Int) := by omega
      clear hnu
      go_wp2
      go_ret
      refine ⟨⟨v, rfl, ?_⟩, HNU.out.bel⟩
      have e : C.take k = C := List.take_of_length_le (by omega)
      have := HNU.out.u32s hlp
      rwa [e] at this
    have y8 : (k : Int) < (C.length : Int) := by omega
    have y7 : (0 : Int) ≤ (k : Int) := by omega
    have hbel := hnu.bel
    obtain ⟨d0, d1, d2, d3, d4, d5⟩ := (HH.out.later hbel).code k hlt
    have hnt := HNT.out hlt
    obtain ⟨i, hi⟩ : ∃ i, i = C.getD k .zero := ⟨_, rfl⟩
    rw [← hi] at d0 d5 hnt
    obtain ⟨l, hl⟩ : ∃ l, l = numsL (C.take k) := ⟨_, rfl⟩
    rw [← hl] at hnt hll hlp HNU hnu
    have hl41 : l.length ≤ 41 := by have : (C.take k).length ≤ 40 := (by simp; omega); omega
    have HL : Hid (l = numsL (C.take k)) := hl
    have HNX : Hid (numsL (C.take (k + 1)) = if i.op = 1 then insN i.n l else l) := hnt
    have hzz : w.heap.size < wo.heap.size := World.block_lt_of_cell? wo _ p1
    clear hi hl hnt HNT d1 d2 d3 d4 hbel
    by_cases hop : i.op = 1
    case neg =>
      have hb : (i.op != 1) = true := by simp [hop]
      clear hnu
      go_wp2
      refine ⟨⟨k + 1, _, rfl, by go_num, by omega, ?_⟩, by simp [intOf]; omega⟩
      rw [HNX.out, if_neg hop]
      exact HNU.out
    have hb : (i.op != 1) = false := by simp [hop]
    have HNI : Hid (numsL (C.take (k + 1)) = insN i.n l) := by show _ = _; rw [HNX.out, if_pos hop]
    obtain ⟨g, cap, rfl, hg1, hg2, hgc⟩ := hnu.form hlp
    have HGC : Hid (∀ j, j < l.length → wo.cell? ⟨g, j, none⟩ = some (.int .u32 (l.getD j 0))) := hgc
    have z1 : (l.length : Int) ≤ 41 := by omega
    clear hnu hgc HNX hop
    go_wp2
    go_loopw [6] (fun av wr2 => ∃ a : Nat, av = .int .i64 a ∧ a ≤ l.length ∧ wr2 = wo ∧ ∀ j, j < a → l.getD j 0 < i.n) (fun av _ => l.length - (intOf av).toNat)
    case atStart => exact ⟨0, rfl, by omega, rfl, fun j hj => absurd hj (by omega)⟩
    case round =>
      obtain ⟨a, rfl, ha, hw, hall⟩ := hrel
      obtain rfl := hw.symm
      have HALL : Hid (∀ j, j < a → l.getD j 0 < i.n) := hall
      clear hall
      have x0 : (0 : Int) ≤ (a : Int) := by omega
      rcases (show (a < l.length ∧ l.getD a 0 < i.n) ∨ (a < l.length ∧ l.getD a 0 = i.n) ∨ (a = l.length ∨ (a < l.length ∧ i.n < l.getD a 0)) by omega) with ⟨h1, h2⟩ | ⟨h1, h2⟩ | h3
      · have ca := HGC.out a h1
        obtain ⟨u, hu⟩ : ∃ u, u = l.getD a 0 := ⟨_, rfl⟩
        rw [← hu] at ca h2
        have x1 : (a : Int) < (l.length : Int) := by omega
        have HU : Hid (u = l.getD a 0) := hu
        clear hu
        go_wp2
        refine ⟨⟨a + 1, by go_num, by omega, trivial, fun j hj => ?_⟩, by simp [intOf]; omega⟩
        by_cases e : j < a
        · exact HALL.out j e
        · obtain rfl : j = a := by omega
          rw [← HU.out]; exact h2
      · have ca := HGC.out a h1
        rw [h2] at ca
        have x1 : (a : Int) < (l.length : Int) := by omega
        have x2 : ¬ i.n < i.n := by omega
        have x3 : (i.n == i.n) = true := by simp
        have HST : Hid (insN i.n l = l) := insN_stay HALL.out h1 h2
        clear h2
        go_wp2
        go_roundw
        case rel =>
          refine ⟨k + 1, _, rfl, by go_num, by omega, ?_⟩
          rw [HNI.out, HST.out]
          exact HNU.out
        case measure => simp [intOf]; omega
      · have HE : Hid (a < l.length → i.n < l.getD a 0) := fun h => by rcases h3 with h3 | h3; omega; exact h3.2
        obtain ⟨t0', hi0, hy0, hy1, hy2⟩ := info_parts infoU32
        have x4 : (a : Int) ≤ (l.length : Int) := by omega
        rcases h3 with h3 | ⟨h3, h4⟩
        rotate_left
        · have ca := HGC.out a h3
          obtain ⟨u, hu⟩ : ∃ u, u = l.getD a 0 := ⟨_, rfl⟩
          rw [← hu] at ca h4
          have x1 : (a : Int) < (l.length : Int) := by omega
          have x2 : ¬ u < i.n := by omega
          have x3 : (u == i.n) = false := by simp; omega
          clear hu
          go_wp2_with (at_builtin; refine wpList_append_lies _ rfl _ _ 49 rfl (w.heap.size + 1) 69 t0' (.int .u32 0) 1 4 Try.underlying49 hi0 hy0 hy1 hy2 rfl (by decide) (.slice (some ⟨g, 0, none⟩) l.length cap) l.length (l.map (Value.int .u32)) rfl (World.ownsRow.alloc HNU.out.own _) ⟨wo.heap.size, 0, none⟩ 1 1 [.int .u32 0] rfl rfl ?c1 ?c2 (by decide) ?c3 ?c4 ?c5 _ rfl ?_)
          case c2 => simp [Value.oneCell']
          case c3 => unfold maxLen; omega
          case c4 => omega
          case c5 => first | omega | (simp; omega)
          intro g9 cap9 w9 hown hgrow hat hlt9
          have hP := (HNU.out.below ((Below.refl _ _).alloc (Nat.le_refl _) (.cells #[.int .u32 0] 69))).push (by simp; omega) hown hgrow
          have HP : Hid (NuS w b1 o1 c1 C.length (l ++ [0]) (.slice (some ⟨g9, 0, none⟩) (l.length + 1) cap9) w9) := hP
          clear hP hown hgrow hat
          go_wp2
          go_loopw [7] (fun iv wr3 => ∃ (q : Nat) (X : List Int), iv = .int .i64 q ∧ a ≤ q ∧ q ≤ l.length ∧ Shifted l q X ∧ NuS w b1 o1 c1 C.length X (.slice (some ⟨g9, 0, none⟩) (l.length + 1) cap9) wr3) (fun iv _ => (intOf iv).toNat - a)
          case atStart =>
            refine ⟨l.length, l ++ [0], by go_num, by omega, by omega, ⟨by simp, fun j hj => by rw [if_pos hj]⟩, HP.out⟩
          case round =>
            obtain ⟨q, X, rfl, hq1, hq2, hX, hnx⟩ := hrel
            have hXl : X.length = l.length + 1 := hX.1
            have HX : Hid (Shifted l q X) := hX
            have HNX : Hid (NuS w b1 o1 c1 C.length X (.slice (some ⟨g9, 0, none⟩) X.length cap9) wr) := by rw [hXl]; exact hnx
            have hf := HNX.out.form (by omega)
            obtain ⟨g', cap', hgg, hg3, hg4, hgc⟩ := hf
            simp at hgg
            obtain ⟨rfl, rfl⟩ := hgg
            have HGX : Hid (∀ j, j < X.length → wr.cell? ⟨g9, j, none⟩ = some (.int .u32 (X.getD j 0))) := hgc
            have hfz : ∀ j, wr.frozen? ⟨g9, j, none⟩ = false := fun j => own_frozen HNX.out.own j
            have HFZ : Hid (∀ j, wr.frozen? ⟨g9, j, none⟩ = false) := hfz
            clear hgc hX hnx hfz
            by_cases hqa : q = a
            · subst hqa
              have cq := HGX.out q (by omega)
              have fq := HFZ.out q
              have v1 : ¬ (q : Int) < (q : Int) := by omega
              have v2 : (q : Int) < (l.length : Int) + 1 := by omega
              go_wp2
              go_roundw
              case rel =>
                refine ⟨k + 1, _, rfl, by go_num, by omega, ?_⟩
                rw [HNI.out, ← insN_put HALL.out ha HE.out HX.out]
                have := HNX.out.set (i := q) (by omega) i.n
                rwa [hXl] at this
              case measure => simp [intOf]; omega
            · obtain ⟨r, rfl⟩ : ∃ r, q = r + 1 := ⟨q - 1, by omega⟩
              have cq := HGX.out (r + 1) (by omega)
              have cr := HGX.out r (by omega)
              have fq := HFZ.out (r + 1)
              have v1 : (a : Int) < ((r + 1 : Nat) : Int) := by omega
              have v2 : ((r + 1 : Nat) : Int) < (l.length : Int) + 1 := by omega
              have v3 : ((r + 1 : Nat) : Int) - 1 = (r : Int) := by omega
              have v4 : (r : Int) < (l.length : Int) + 1 := by omega
              have v5 : (0 : Int) ≤ (r : Int) := by omega
              obtain ⟨rr, hrr⟩ : ∃ rr : Nat, rr = r + 1 := ⟨_, rfl⟩
              rw [← hrr] at cq fq v1 v2 v3 ⊢
              have HRR : Hid (rr = r + 1) := hrr
              have v6 : (0 : Int) ≤ (rr : Int) := by omega
              clear hrr
              go_wp2
              refine ⟨⟨r, X.set (r + 1) (X.getD r 0), by rw [← v3], by have := HRR.out; omega, by omega, shifted_step HX.out (by omega), ?_⟩, by simp [intOf]; omega⟩
              have := HNX.out.set (i := r + 1) (by omega) (X.getD r 0)
              rw [hXl] at this
              rw [HRR.out]
              exact this
        · have x1 : ¬ (a : Int) < (l.length : Int) := by omega
          clear h3
          go_wp2_with (at_builtin; refine wpList_append_lies _ rfl _ _ 49 rfl (w.heap.size + 1) 69 t0' (.int .u32 0) 1 4 Try.underlying49 hi0 hy0 hy1 hy2 rfl (by decide) (.slice (some ⟨g, 0, none⟩) l.length cap) l.length (l.map (Value.int .u32)) rfl (World.ownsRow.alloc HNU.out.own _) ⟨wo.heap.size, 0, none⟩ 1 1 [.int .u32 0] rfl rfl ?c1 ?c2 (by decide) ?c3 ?c4 ?c5 _ rfl ?_)
          case c2 => simp [Value.oneCell']
          case c3 => unfold maxLen; omega
          case c4 => omega
          case c5 => first | omega | (simp; omega)
          intro g9 cap9 w9 hown hgrow hat hlt9
          have hP := (HNU.out.below ((Below.refl _ _).alloc (Nat.le_refl _) (.cells #[.int .u32 0] 69))).push (by simp; omega) hown hgrow
          have HP : Hid (NuS w b1 o1 c1 C.length (l ++ [0]) (.slice (some ⟨g9, 0, none⟩) (l.length + 1) cap9) w9) := hP
          clear hP hown hgrow hat
          go_wp2
          go_loopw [7] (fun iv wr3 => ∃ (q : Nat) (X : List Int), iv = .int .i64 q ∧ a ≤ q ∧ q ≤ l.length ∧ Shifted l q X ∧ NuS w b1 o1 c1 C.length X (.slice (some ⟨g9, 0, none⟩) (l.length + 1) cap9) wr3) (fun iv _ => (intOf iv).toNat - a)
          case atStart =>
            refine ⟨l.length, l ++ [0], by go_num, by omega, by omega, ⟨by simp, fun j hj => by rw [if_pos hj]⟩, HP.out⟩
          case round =>
            obtain ⟨q, X, rfl, hq1, hq2, hX, hnx⟩ := hrel
            have hXl : X.length = l.length + 1 := hX.1
            have HX : Hid (Shifted l q X) := hX
            have HNX : Hid (NuS w b1 o1 c1 C.length X (.slice (some ⟨g9, 0, none⟩) X.length cap9) wr) := by rw [hXl]; exact hnx
            have hf := HNX.out.form (by omega)
            obtain ⟨g', cap', hgg, hg3, hg4, hgc⟩ := hf
            simp at hgg
            obtain ⟨rfl, rfl⟩ := hgg
            have HGX : Hid (∀ j, j < X.length → wr.cell? ⟨g9, j, none⟩ = some (.int .u32 (X.getD j 0))) := hgc
            have hfz : ∀ j, wr.frozen? ⟨g9, j, none⟩ = false := fun j => own_frozen HNX.out.own j
            have HFZ : Hid (∀ j, wr.frozen? ⟨g9, j, none⟩ = false) := hfz
            clear hgc hX hnx hfz
            by_cases hqa : q = a
            · subst hqa
              have cq := HGX.out q (by omega)
              have fq := HFZ.out q
              have v1 : ¬ (q : Int) < (q : Int) := by omega
              have v2 : (q : Int) < (l.length : Int) + 1 := by omega
              go_wp2
              go_roundw
              case rel =>
                refine ⟨k + 1, _, rfl, by go_num, by omega, ?_⟩
                rw [HNI.out, ← insN_put HALL.out ha HE.out HX.out]
                have := HNX.out.set (i := q) (by omega) i.n
                rwa [hXl] at this
              case measure => simp [intOf]; omega
            · exfalso; omega

end Go.Proofs.Ytcmnmogmdhofcab.form

/- Places and facts held against each other (== on structs). -/
namespace Go.Proofs.Ytcmnmogmdhofcab.form
open Go.RowKit
set_option linter.unusedVariables false

theorem eqFact (w : World) (a b t n a' b' t' n' : Int) (x x' : Bool) : (binOp .eql 142 (.agg #[.int .i64 a, .int .i64 b, .bool x, .int .i64 t, .int .u32 n]) (.agg #[.int .i64 a', .int .i64 b', .bool x', .int .i64 t', .int .u32 n'])).run Try.prog w = .ok (.bool ((a == a') && (b == b') && (x == x') && (t == t') && (n == n'))) w := by
  have hu := Try.underlying142
  have hu2 := Try.underlying34
  have h3 : Try.prog.underlying 3 = some (.int .i64) := Try.underlying3
  have h4 : Try.prog.underlying 4 = some .bool := Try.underlying4
  have h5 : Try.prog.underlying 69 = some (.int .u32) := Try.underlying69
  have hin : ∀ wx : World, (Op.equalIn 9999 34 (.agg #[.int .i64 a, .int .i64 b]) (.agg #[.int .i64 a', .int .i64 b'])).run Try.prog wx = .ok ((a == a') && (b == b')) wx := by
    intro wx
    rw [run_equalIn_agg wx 9998 34 _ _ (by kernel_rfl) (by kernel_rfl)]
    simp [go_sem, Program.fieldsOf, hu2]
    by_cases e1 : a = a' <;> by_cases e2 : b = b' <;> simp [e1, e2]
  rw [run_eql_struct, run_equalIn_agg w 9999 142 _ _ (by kernel_rfl) (by kernel_rfl)]
  simp [go_sem, Program.fieldsOf, hu, hin]
  by_cases e1 : a = a' <;> by_cases e2 : b = b' <;> by_cases e3 : x = x' <;> by_cases e4 : t = t' <;> by_cases e5 : n = n' <;> simp [e1, e2, e3, e4, e5]

end Go.Proofs.Ytcmnmogmdhofcab.form

/- Facts in memory; whether a fact is in a set (loanbookref8.World.find). -/
namespace Go.Proofs.Ytcmnmogmdhofcab.form
open Go.RowKit Go.Proofs.Ytcmnmogmdhofcab.num
set_option linter.unusedVariables false
attribute [local go_sem ↓] Go.wp_at_zero Go.wp_at_succ

def LFact.zero : LFact := ⟨.zero, false, 0, 0⟩
def LFact.val (f : LFact) : Value := .agg #[.int .i64 f.pl.kind, .int .i64 f.pl.n, .bool f.temp, .int .i64 f.t, .int .u32 f.n]
def sameF (f g : LFact) : Bool := (f.pl.kind == g.pl.kind) && (f.pl.n == g.pl.n) && (f.temp == g.temp) && (f.t == g.t) && (f.n == g.n)
theorem sameF_iff {f g : LFact} : sameF f g = true ↔ f = g := by
  obtain ⟨⟨a, b⟩, c, d, e⟩ := f
  obtain ⟨⟨a', b'⟩, c', d', e'⟩ := g
  unfold sameF
  simp only [Bool.and_eq_true, beq_iff_eq, LFact.mk.injEq, LPlace.mk.injEq]
  constructor
  · rintro ⟨⟨⟨⟨h1, h2⟩, h3⟩, h4⟩, h5⟩; exact ⟨⟨h1, h2⟩, h3, h4, h5⟩
  · rintro ⟨⟨h1, h2⟩, h3, h4, h5⟩; exact ⟨⟨⟨⟨h1, h2⟩, h3⟩, h4⟩, h5⟩

/-- Facts in memory. -/
structure FactsHeld (w : World) (ga : Nat) (F : List LFact) : Prop where
  lt : ga < w.heap.size
  len : F.length ≤ 100000
  cells : ∀ k, k < F.length → w.cell? ⟨ga, k * 5, none⟩ = some (.int .i64 (F.getD k .zero).pl.kind) ∧ w.cell? ⟨ga, k * 5 + 1, none⟩ = some (.int .i64 (F.getD k .zero).pl.n) ∧ w.cell? ⟨ga, k * 5 + 2, none⟩ = some (.bool (F.getD k .zero).temp) ∧ w.cell? ⟨ga, k * 5 + 3, none⟩ = some (.int .i64 (F.getD k .zero).t) ∧ w.cell? ⟨ga, k * 5 + 4, none⟩ = some (.int .u32 (F.getD k .zero).n)

theorem FactsHeld.later {w w' : World} {ga : Nat} {F : List LFact} (h : FactsHeld w ga F) (hb : Below w.heap.size w w') : FactsHeld w' ga F := by
  refine ⟨Nat.lt_of_lt_of_le h.lt hb.size, h.len, fun k hk => ?_⟩
  obtain ⟨c0, c1, c2, c3, c4⟩ := h.cells k hk
  exact ⟨step_cell hb c0, step_cell hb c1, step_cell hb c2, step_cell hb c3, step_cell hb c4⟩

/-- Places of which there may be facts. -/
def PlaceOf (s slots : Int) (p : LPlace) : Prop := (p.kind = 0 ∧ p.n = 0) ∨ isB s slots p = true

/-- Where those of each place begin, in memory. -/
def StartsHeld (w : World) (gs : Nat) (s slots : Int) (st : LPlace → Nat) : Prop :=
  gs < w.heap.size ∧ ∀ p, PlaceOf s slots p → 0 ≤ p.n ∧ ∃ rb rl rc, w.cell? ⟨gs, p.kind.toNat, none⟩ = some (.slice (some ⟨rb, 0, none⟩) rl rc) ∧ rb < w.heap.size ∧ p.n < rl ∧ rl ≤ 100 ∧ w.cell? ⟨rb, p.n.toNat, none⟩ = some (.int .i64 (st p))
theorem StartsHeld.later {w w' : World} {gs : Nat} {s slots : Int} {st : LPlace → Nat} (h : StartsHeld w gs s slots st) (hb : Below w.heap.size w w') : StartsHeld w' gs s slots st := by
  refine ⟨Nat.lt_of_lt_of_le h.1 hb.size, fun p hp => ?_⟩
  obtain ⟨h0, rb, rl, rc, h1, h2, h3, h4, h5⟩ := h.2 p hp
  exact ⟨h0, rb, rl, rc, step_cell hb h1, Nat.lt_of_lt_of_le h2 hb.size, h3, h4, step_cell hb h5⟩

theorem place_i64 {s slots : Int} {p : LPlace} (h1 : s ≤ 100) (h2 : slots ≤ 100) (h : PlaceOf s slots p) : I64 p.n := by
  unfold I64
  rcases h with h | h
  · omega
  · rcases is_cases h with h | h | h <;> omega

/-- Those of a place stand together, from some number on. -/
def SegOk (F : List LFact) (p : LPlace) (a : Nat) : Prop :=
  a ≤ F.length ∧ (∀ i, i < F.length → (F.getD i .zero).pl = p → a ≤ i) ∧ (∀ i j, a ≤ j → j ≤ i → i < F.length → (F.getD i .zero).pl = p → (F.getD j .zero).pl = p)

/-- A set of facts, by marks. -/
def setP (F : List LFact) (S : List Bool) (f : LFact) : Prop := ∃ i, i < F.length ∧ F.getD i .zero = f ∧ S.getD i false = true

/-- All that a world of facts has. -/
structure FWorld (w : World) (s slots : Int) (F : List LFact) (ga gs : Nat) (st : LPlace → Nat) : Prop where
  facts : FactsHeld w ga F
  starts : StartsHeld w gs s slots st
  seg : ∀ p, PlaceOf s slots p → SegOk F p (st p)
  sorted : F.Pairwise factLt
  pls : ∀ f, f ∈ F → PlaceOf s slots f.pl
  bd : s ≤ 100 ∧ slots ≤ 100
theorem FWorld.later {w w' : World} {s slots : Int} {F : List LFact} {ga gs : Nat} {st : LPlace → Nat} (h : FWorld w s slots F ga gs st) (hb : Below w.heap.size w w') : FWorld w' s slots F ga gs st := ⟨h.facts.later hb, h.starts.later hb, h.seg, h.sorted, h.pls, h.bd⟩

def fwV (pw pc : Value) (ga nF ca gs cs : Nat) (nv : Value) : Value := .agg #[pw, pc, .slice (some ⟨ga, 0, none⟩) nF ca, .slice (some ⟨gs, 0, none⟩) 4 cs, nv]

/-- The answer. -/
def Says8 (s : Bool) (P : Prop) : Prop := s = true ↔ P
def FindAns (F : List LFact) (S : List Bool) (f : LFact) (e : Ending) : Prop := ∃ b, e = .returned (.bool b) ∧ Says8 b (setP F S f)

set_option maxRecDepth 100000 in
set_option maxHeartbeats 1000000 in
theorem find8 (ao0 : Option Addr) (n0 c0 : Nat) (ao1 : Option Addr) (n1 c1 : Nat) (ga ca gs cs : Nat) (ao4 : Option Addr) (n4 c4 : Nat) (s slots : Int) (F : List LFact) (st : LPlace → Nat) (sv : Value) (S : List Bool) (f : LFact) (w : World)
    (h : FWorld w s slots F ga gs st) (hS : BRowIs w sv S) (hl : S.length = F.length) (hf : PlaceOf s slots f.pl) :
    Calls Try.prog 118 #[fwV (.slice ao0 n0 c0) (.slice ao1 n1 c1) ga F.length ca gs cs (.slice ao4 n4 c4), sv, f.val] w fun e w' => FindAns F S f e ∧ Below w.heap.size w w' := by
  obtain ⟨p0, rb, rl, rc, k1, k2, k3, k4, k5⟩ := h.starts.2 f.pl hf
  have hgs := h.starts.1
  obtain ⟨sa, sb, sc⟩ := h.seg f.pl hf
  have hga := h.facts.lt
  have hFl := h.facts.len
  have HF : Hid (FactsHeld w ga F) := h.facts
  have HSO : Hid (F.Pairwise factLt) := h.sorted
  obtain ⟨sao, scap, rfl, hsl, hsc⟩ := hS
  have HSC : Hid (0 < S.length → ∃ b o, sao = some ⟨b, o, none⟩ ∧ b < w.heap.size ∧ ∀ j, j < S.length → w.cell? ⟨b, o + j, none⟩ = some (.bool (S.getD j false))) := hsc
  have HSB : Hid (∀ i, i < F.length → (F.getD i .zero).pl = f.pl → st f.pl ≤ i) := sb
  have HSS : Hid (∀ i j, st f.pl ≤ j → j ≤ i → i < F.length → (F.getD i .zero).pl = f.pl → (F.getD j .zero).pl = f.pl) := sc
  obtain ⟨a, ha⟩ : ∃ a, a = st f.pl := ⟨_, rfl⟩
  rw [← ha] at k5 sa HSB HSS
  have x0 : (0 : Int) ≤ f.pl.kind := by rcases hf with hf | hf; omega; rcases is_cases hf with h | h | h <;> omega
  have x1 : f.pl.kind < 4 := by rcases hf with hf | hf; omega; rcases is_cases hf with h | h | h <;> omega
  have x2 : f.pl.n < (rl : Int) := k3
  have x3 : (rl : Int) ≤ 100 := by omega
  have x4 : (F.length : Int) ≤ 100000 := by omega
  clear h hsc sb sc ha k3 k4
  rw [hl]
  have q57 := eqPlace
  have q98 := eqFact
  have g57 : Try.prog.eqGuardType Try.prog.depth 34 = false := by kernel_rfl
  have g98 : Try.prog.eqGuardType Try.prog.depth 142 = false := by kernel_rfl
  unfold fwV LFact.val
  go_enter Try.func118, Try.ntmps118
  go_wp2
  go_quiet (fail)
  go_wp2
  go_loopw [7] (fun iv wr => ∃ i : Nat, iv = .int .i64 i ∧ a ≤ i ∧ i ≤ F.length ∧ Below w.heap.size w wr ∧ (∀ j, a ≤ j → j < i → ¬ F.getD j .zero = f) ∧ wr.cell? ⟨w.heap.size, 2, none⟩ = some (.slice (some ⟨ga, 0, none⟩) F.length ca) ∧
      wr.cell? ⟨w.heap.size + 1, 0, none⟩ = some (.int .i64 f.pl.kind) ∧ wr.cell? ⟨w.heap.size + 1, 1, none⟩ = some (.int .i64 f.pl.n) ∧ wr.cell? ⟨w.heap.size + 1, 2, none⟩ = some (.bool f.temp) ∧ wr.cell? ⟨w.heap.size + 1, 3, none⟩ = some (.int .i64 f.t) ∧ wr.cell? ⟨w.heap.size + 1, 4, none⟩ = some (.int .u32 f.n)) (fun iv _ => F.length - (intOf iv).toNat)
  case atStart =>
    refine ⟨a, rfl, by omega, sa, below_drewN (((Below.refl _ _).alloc (Nat.le_refl _) _).alloc (by simp) _) _, fun j h1 h2 => absurd h2 (by omega), ?_, ?_, ?_, ?_, ?_, ?_⟩
    all_goals exact step_cell (below_drewN (Below.refl _ _) _) (by simp [go_sem])
  case round =>
    clear k1 k2 k5
    obtain ⟨i, rfl, hi1, hi2, hbel, hno, q2, f0, f1, f2, f3, f4⟩ := hrel
    have HB : Hid (Below w.heap.size w wr) := hbel
    have HNO : Hid (∀ j, a ≤ j → j < i → ¬ F.getD j .zero = f) := hno
    have y0 : (0 : Int) ≤ (i : Int) := by omega
    clear hno
    by_cases hlt : i < F.length
    case neg =>
      have y1 : ¬ (i : Int) < (F.length : Int) := by omega
      clear hbel
      go_wp2
      go_quiet (fail)
      go_wp2
      go_ret
      refine ⟨⟨false, rfl, ⟨fun h => absurd h (by simp), ?_⟩⟩, below_drewN HB.out _⟩
      rintro ⟨j, hj, he, _⟩
      exact absurd he (HNO.out j (HSB.out j hj (by rw [he])) (by omega))
    have y1 : (i : Int) < (F.length : Int) := by omega
    obtain ⟨e0, e1, e2, e3, e4⟩ := (HF.out.later hbel).cells i hlt
    obtain ⟨g, hg⟩ : ∃ g, g = F.getD i .zero := ⟨_, rfl⟩
    rw [← hg] at e0 e1 e2 e3 e4
    have HG : Hid (F.getD i .zero = g) := hg.symm
    clear hg hbel
    go_wp2
    go_quiet (fail)
    have hpl : (g.pl.kind == f.pl.kind && g.pl.n == f.pl.n) = true ↔ g.pl = f.pl := by
      rw [Bool.and_eq_true, beq_iff_eq, beq_iff_eq]
      exact ⟨fun h => pl_ext h.1 h.2, fun h => by rw [h]; exact ⟨rfl, rfl⟩⟩
    have hsf : (g.pl.kind == f.pl.kind && g.pl.n == f.pl.n && g.temp == f.temp && g.t == f.t && g.n == f.n) = true ↔ g = f := sameF_iff
    rcases Bool.eq_false_or_eq_true (g.pl.kind == f.pl.kind && g.pl.n == f.pl.n) with hc | hc
    rotate_left
    · rw [hc]
      have HNE : Hid (¬ g.pl = f.pl) := fun e => by have := hpl.2 e; rw [hc] at this; exact absurd this (by simp)
      clear hpl hsf
      go_wp2
      go_ret
      refine ⟨⟨false, rfl, ⟨fun h => absurd h (by simp), ?_⟩⟩, below_drewN HB.out _⟩
      rintro ⟨j, hj, he, _⟩
      have ha := HSB.out j hj (by rw [he])
      by_cases hji : j < i
      · exact absurd he (HNO.out j ha hji)
      · have := HSS.out j i (by omega) (by omega) hj (by rw [he])
        rw [HG.out] at this
        exact absurd this HNE.out
    · have HSF : Hid ((g.pl.kind == f.pl.kind && g.pl.n == f.pl.n && g.temp == f.temp && g.t == f.t && g.n == f.n) = true ↔ g = f) := hsf
      rw [hc]
      clear hpl hsf hc
      go_wp2
      go_quiet (fail)
      rcases Bool.eq_false_or_eq_true (g.pl.kind == f.pl.kind && g.pl.n == f.pl.n && g.temp == f.temp && g.t == f.t && g.n == f.n) with hd | hd
      · rw [hd]
        have hgf := HSF.out.1 hd
        obtain ⟨sb, so, rfl, hsb, hscell⟩ := HSC.out (by omega)
        obtain ⟨u, hu⟩ : ∃ u, u = S.getD i false := ⟨_, rfl⟩
        have ci : ∀ m, (wr.drewN m).cell? ⟨sb, so + i, none⟩ = some (.bool u) := fun m => by rw [hu]; exact step_cell (below_drewN HB.out m) (hscell i (by omega))
        have HU : Hid (S.getD i false = u) := hu.symm
        clear hu
        have HGF : Hid (g = f) := hgf
        clear hgf hscell hd
        go_wp2
        go_ret
        refine ⟨⟨u, rfl, ⟨fun h => ⟨i, hlt, by rw [HG.out]; exact HGF.out, HU.out.trans h⟩, ?_⟩⟩, below_drewN HB.out _⟩
        rintro ⟨j, hj, he, ht⟩
        have e1 : F[j]? = some f := by rw [← he]; simp [List.getD, hj]
        have e2 : F[i]? = some f := by rw [← HGF.out, ← HG.out]; simp [List.getD, hlt]
        rw [← HU.out, ← sorted_inj HSO.out e1 e2]
        exact ht
      · rw [hd]
        have HNE : Hid (¬ g = f) := fun e => by have := HSF.out.2 e; rw [hd] at this; exact absurd this (by simp)
        clear hd
        go_wp2
        refine ⟨⟨i + 1, by go_num, by omega, by omega, below_drewN HB.out _, fun j h1 h2 => ?_, q2, f0, f1, f2, f3, f4⟩, by simp [intOf]; omega⟩
        by_cases e : j < i
        · exact HNO.out j h1 e
        · obtain rfl : j = i := by omega
          rw [HG.out]
          exact HNE.out

end Go.Proofs.Ytcmnmogmdhofcab.form

/- All facts in order: those of a place stand together; where they begin. On plain numbers. -/
namespace Go.Proofs.Ytcmnmogmdhofcab.form
open Go.RowKit Go.Proofs.Ytcmnmogmdhofcab.num
set_option linter.unusedVariables false

theorem seg_split {F pre seg post : List LFact} {p : LPlace} (hF : F = pre ++ (seg ++ post)) (h1 : ∀ f, f ∈ pre → ¬ f.pl = p) (h2 : ∀ f, f ∈ seg → f.pl = p) (h3 : ∀ f, f ∈ post → ¬ f.pl = p) : SegOk F p pre.length := by
  have hl : F.length = pre.length + (seg.length + post.length) := by rw [hF]; simp
  have hg : ∀ i, i < F.length → F.getD i .zero = if i < pre.length then pre.getD i .zero else if i < pre.length + seg.length then seg.getD (i - pre.length) .zero else post.getD (i - pre.length - seg.length) .zero := fun i hi => by
    rw [hF]
    by_cases a : i < pre.length
    · rw [if_pos a]; simp [List.getD, List.getElem?_append_left a]
    · rw [if_neg a]
      by_cases b : i < pre.length + seg.length
      · rw [if_pos b]
        rw [List.getD, List.getElem?_append_right (by omega), List.getElem?_append_left (by omega)]
        rfl
      · rw [if_neg b]
        rw [List.getD, List.getElem?_append_right (by omega), List.getElem?_append_right (by omega)]
        rfl
  have hmem : ∀ (l : List LFact) (i : Nat), i < l.length → l.getD i .zero ∈ l := fun l i hi => by simp [List.getD, hi]
  refine ⟨by omega, fun i hi hp => ?_, fun i j hj hji hi hp => ?_⟩
  · by_cases a : i < pre.length
    · rw [hg i hi, if_pos a] at hp
      exact absurd hp (h1 _ (hmem _ _ a))
    · omega
  · by_cases b : i < pre.length + seg.length
    · rw [hg j (by omega), if_neg (by omega), if_pos (by omega)]
      exact h2 _ (hmem _ _ (by omega))
    · rw [hg i hi, if_neg (by omega), if_neg b] at hp
      exact absurd hp (h3 _ (hmem _ _ (by omega)))

theorem range_split {n many : Nat} (h : n < many) : List.range many = List.range n ++ n :: (List.range (many - n - 1)).map (· + (n + 1)) := by
  have e : many = n + (1 + (many - n - 1)) := by omega
  rw [e, List.range_add, List.range_add]
  simp only [List.range_one, List.map_cons, Nat.add_zero, List.map_map, List.singleton_append]
  congr 2
  have e2 : n + (1 + (many - n - 1)) - n - 1 = many - n - 1 := by omega
  rw [e2]
  apply List.map_congr_left
  intro a _
  simp only [Function.comp]
  omega

theorem kind_split {B : List Bool} {N : List Int} {kind : Int} {n many : Nat} (h : n < many) : ∃ post, kindF B N kind many = kindF B N kind n ++ (placeF B N kind n ++ post) ∧ ∀ f, f ∈ post → f.pl.kind = kind ∧ ¬ f.pl.n = n := by
  refine ⟨((List.range (many - n - 1)).map (· + (n + 1))).flatMap (placeF B N kind), ?_, fun f hf => ?_⟩
  · unfold kindF
    rw [range_split h, List.flatMap_append, List.flatMap_cons]
  · obtain ⟨m, hm, hf⟩ := List.mem_flatMap.1 hf
    obtain ⟨q, _, rfl⟩ := List.mem_map.1 hm
    have := (mem_placeF.1 hf).1
    rw [this]
    exact ⟨rfl, by simp only; omega⟩
theorem kind_pl {B : List Bool} {N : List Int} {kind : Int} {many : Nat} {f : LFact} (h : f ∈ kindF B N kind many) : f.pl.kind = kind ∧ ∃ n : Nat, n < many ∧ f.pl.n = n := by
  obtain ⟨n, hn, hf⟩ := mem_kindF.1 h
  have := (mem_placeF.1 hf).1
  rw [this]
  exact ⟨rfl, n, hn, rfl⟩
theorem temp_pl {B : List Bool} {N : List Int} {f : LFact} (h : f ∈ (List.range B.length).flatMap (tempF B N)) : f.pl.kind = 0 := by
  obtain ⟨x, _, hf⟩ := List.mem_flatMap.1 h
  rw [(mem_tempF.1 hf).2.1]; rfl

/-- Where the facts of a place begin. -/
def startF (B : List Bool) (N : List Int) (s : Nat) (p : LPlace) : Nat :=
  if p.kind = 0 then 0
  else if p.kind = 1 then ((List.range B.length).flatMap (tempF B N) ++ kindF B N 1 p.n.toNat).length
  else if p.kind = 2 then ((List.range B.length).flatMap (tempF B N) ++ kindF B N 1 s ++ kindF B N 2 p.n.toNat).length
  else ((List.range B.length).flatMap (tempF B N) ++ kindF B N 1 s ++ kindF B N 2 (s / 2) ++ kindF B N 3 p.n.toNat).length

theorem seg_all {B : List Bool} {N : List Int} {s slots : Nat} {p : LPlace} (hs : s % 2 = 0) (hp : PlaceOf s slots p) : SegOk (allF B N s slots) p (startF B N s p) := by
  unfold startF
  rcases hp with hp | hp
  · rw [if_pos hp.1]
    have := seg_split (F := allF B N s slots) (pre := []) (seg := (List.range B.length).flatMap (tempF B N)) (post := kindF B N 1 s ++ kindF B N 2 (s / 2) ++ kindF B N 3 slots) (p := p) (by unfold allF; simp [List.append_assoc]) (fun f hf => absurd hf (by simp)) (fun f hf => ?_) (fun f hf => ?_)
    · exact this
    · obtain ⟨x, _, hf⟩ := List.mem_flatMap.1 hf
      rw [(mem_tempF.1 hf).2.1]
      exact (pl_ext hp.1 hp.2).symm
    · intro e
      simp only [List.mem_append] at hf
      rcases hf with (hf | hf) | hf <;> have := (kind_pl hf).1 <;> rw [e] at this <;> omega
  · have hk := is_kind hp
    rw [if_neg hk]
    rcases is_cases hp with ⟨e, a, b⟩ | ⟨e, a, b⟩ | ⟨e, a, b⟩
    · rw [if_pos e]
      obtain ⟨post, h1, h2⟩ := kind_split (B := B) (N := N) (kind := 1) (n := p.n.toNat) (many := s) (by omega)
      refine seg_split (seg := placeF B N 1 p.n.toNat) (post := post ++ kindF B N 2 (s / 2) ++ kindF B N 3 slots) (by unfold allF; rw [h1]; simp [List.append_assoc]) (fun f hf => ?_) (fun f hf => ?_) (fun f hf => ?_)
      · intro e2
        rcases List.mem_append.1 hf with hf | hf
        · have := temp_pl hf; rw [e2] at this; omega
        · obtain ⟨_, n, hn, h3⟩ := kind_pl hf; rw [e2] at h3; omega
      · rw [(mem_placeF.1 hf).1]
        exact (pl_ext e (by simp only; omega)).symm
      · intro e2
        simp only [List.mem_append] at hf
        rcases hf with (hf | hf) | hf
        · have := (h2 f hf).2; rw [e2] at this; omega
        · have := (kind_pl hf).1; rw [e2] at this; omega
        · have := (kind_pl hf).1; rw [e2] at this; omega
    · rw [if_neg (by omega), if_pos e]
      obtain ⟨post, h1, h2⟩ := kind_split (B := B) (N := N) (kind := 2) (n := p.n.toNat) (many := s / 2) (by omega)
      refine seg_split (seg := placeF B N 2 p.n.toNat) (post := post ++ kindF B N 3 slots) (by unfold allF; rw [h1]; simp [List.append_assoc]) (fun f hf => ?_) (fun f hf => ?_) (fun f hf => ?_)
      · intro e2
        simp only [List.mem_append] at hf
        rcases hf with (hf | hf) | hf
        · have := temp_pl hf; rw [e2] at this; omega
        · have := (kind_pl hf).1; rw [e2] at this; omega
        · obtain ⟨_, n, hn, h3⟩ := kind_pl hf; rw [e2] at h3; omega
      · rw [(mem_placeF.1 hf).1]
        exact (pl_ext e (by simp only; omega)).symm
      · intro e2
        simp only [List.mem_append] at hf
        rcases hf with hf | hf
        · have := (h2 f hf).2; rw [e2] at this; omega
        · have := (kind_pl hf).1; rw [e2] at this; omega
    · rw [if_neg (by omega), if_neg (by omega)]
      obtain ⟨post, h1, h2⟩ := kind_split (B := B) (N := N) (kind := 3) (n := p.n.toNat) (many := slots) (by omega)
      refine seg_split (seg := placeF B N 3 p.n.toNat) (post := post) (by unfold allF; rw [h1]; simp [List.append_assoc]) (fun f hf => ?_) (fun f hf => ?_) (fun f hf => ?_)
      · intro e2
        simp only [List.mem_append] at hf
        rcases hf with ((hf | hf) | hf) | hf
        · have := temp_pl hf; rw [e2] at this; omega
        · have := (kind_pl hf).1; rw [e2] at this; omega
        · have := (kind_pl hf).1; rw [e2] at this; omega
        · obtain ⟨_, n, hn, h3⟩ := kind_pl hf; rw [e2] at h3; omega
      · rw [(mem_placeF.1 hf).1]
        exact (pl_ext e (by simp only; omega)).symm
      · intro e2
        have := (h2 f hf).2; rw [e2] at this; omega

end Go.Proofs.Ytcmnmogmdhofcab.form
