/- What is told of facts as bits: the row of them, rising: on plain numbers. -/
import Derived.Maps.RangeWalk
import Derived.Maps.OwnSet
import Derived.DeepKeys4
import Derived.OpenShut
import Derived.BigQuiet
import Derived.Deep.QuietTactic
import Derived.Test.YtdbjklngnloibaaGreatF09
import Derived.Test.YtdbjklngnloibaaGreatF13
import Derived.Test.YtdbjklngnloibaaGreatF17
import Derived.Test.YtdbjklngnloibaaGreatF01
import Derived.Test.YtdbjklngnloibaaGreatF03
import Derived.Test.YtdbjklngnloibaaGreatF07

namespace Go.Proofs.YtdbjklngnloibaaGreat.form
open Go.RowKit
set_option linter.unusedVariables false

/-- Of the first so many numbers those of a set. -/
def numIn (N : List Int) (x : Bits) (k : Nat) : List Int := ((List.range k).filter (fun j => x.getLsbD j)).map (nAt N)
theorem numIn_step (N : List Int) (x : Bits) (k : Nat) : numIn N x (k + 1) = numIn N x k ++ (if x.getLsbD k = true then [nAt N k] else []) := by
  unfold numIn
  rw [List.range_succ, List.filter_append, List.map_append]
  congr 1
  cases h : x.getLsbD k <;> simp [List.filter, h]
theorem numIn_len (N : List Int) (x : Bits) (k : Nat) : (numIn N x k).length ≤ k := by
  unfold numIn
  have := List.length_filter_le (fun j => x.getLsbD j) (List.range k)
  simp at this ⊢
  exact this
theorem numIn_mem {N : List Int} {x : Bits} {k : Nat} {n : Int} : n ∈ numIn N x k ↔ ∃ j, j < k ∧ nAt N j = n ∧ x.getLsbD j = true := by
  unfold numIn
  rw [List.mem_map]
  constructor
  · rintro ⟨j, hj, rfl⟩
    rw [List.mem_filter, List.mem_range] at hj
    exact ⟨j, hj.1, rfl, hj.2⟩
  · rintro ⟨j, h1, h2, h3⟩
    exact ⟨j, by rw [List.mem_filter, List.mem_range]; exact ⟨h1, h3⟩, h2⟩
theorem nAt_inc {N : List Int} (h : N.Pairwise (· < ·)) {i j : Nat} (hij : i < j) (hj : j < N.length) : nAt N i < nAt N j := by
  have := (List.pairwise_iff_getElem.1 h) i j (by omega) hj hij
  unfold nAt
  simpa [List.getD, hj, show i < N.length by omega] using this
theorem numIn_up {N : List Int} (h : N.Pairwise (· < ·)) (x : Bits) : (numIn N x N.length).Pairwise (· < ·) := by
  unfold numIn
  rw [List.pairwise_map]
  have hr : (List.range N.length).Pairwise (fun a b => a < b ∧ b < N.length) := by
    rw [List.pairwise_iff_getElem]
    intro i j hi hj hij
    simp only [List.length_range] at hi hj
    simp only [List.getElem_range]
    exact ⟨hij, hj⟩
  exact (hr.filter _).imp (fun {a b} hab => nAt_inc h hab.1 hab.2)

/-- That a temporary is a number. -/
def tFact (t : Nat) (n : Int) : LFact := ⟨.zero, true, (t : Int), n⟩
/-- That a place is a number. -/
def iFact (p : LPlace) (n : Int) : LFact := ⟨p, false, 0, n⟩
/-- That a place has a temporary. -/
def hFact (p : LPlace) (t : Nat) : LFact := ⟨p, true, (t : Int), 0⟩
def tellT1 (N : List Int) (m : FM) (t : Nat) : List LFact := (numIn N (m.tmp t) N.length).map (tFact t)
def tellT (N : List Int) (m : FM) (k : Nat) : List LFact := (List.range k).flatMap (tellT1 N m)
def tellI (N : List Int) (m : FM) (p : LPlace) : List LFact := (numIn N (m.is p) N.length).map (iFact p)
def tellH (m : FM) (p : LPlace) (k : Nat) : List LFact := ((List.range k).filter (fun t => (m.has p).getLsbD t)).map (hFact p)
def tellP1 (N : List Int) (m : FM) (nb : Nat) (p : LPlace) : List LFact := tellI N m p ++ tellH m p nb
def tellP (N : List Int) (m : FM) (nb : Nat) (A : List LPlace) (k : Nat) : List LFact := (A.take k).flatMap (tellP1 N m nb)
def tellL (N : List Int) (m : FM) (nb : Nat) (A : List LPlace) : List LFact := tellT N m nb ++ tellP N m nb A A.length

theorem tellT_step (N : List Int) (m : FM) (k : Nat) : tellT N m (k + 1) = tellT N m k ++ tellT1 N m k := by simp [tellT, List.range_succ]
theorem tellH_step (m : FM) (p : LPlace) (k : Nat) : tellH m p (k + 1) = tellH m p k ++ (if (m.has p).getLsbD k = true then [hFact p k] else []) := by
  unfold tellH
  rw [List.range_succ, List.filter_append, List.map_append]
  congr 1
  cases h : (m.has p).getLsbD k <;> simp [List.filter, h]
theorem tellP_step (N : List Int) (m : FM) (nb : Nat) {A : List LPlace} {k : Nat} (hk : k < A.length) : tellP N m nb A (k + 1) = tellP N m nb A k ++ tellP1 N m nb (A.getD k .zero) := by
  have e : A.take (k + 1) = A.take k ++ [A.getD k .zero] := by rw [List.take_succ_eq_append_getElem hk]; simp [List.getD, hk]
  unfold tellP
  rw [e, List.flatMap_append]
  simp
theorem tellT1_len (N : List Int) (m : FM) (t : Nat) : (tellT1 N m t).length ≤ N.length := by
  unfold tellT1
  rw [List.length_map]
  exact numIn_len _ _ _
theorem tellT_len (N : List Int) (m : FM) (k : Nat) : (tellT N m k).length ≤ k * N.length := by
  induction k with
  | zero => simp [tellT]
  | succ k ih =>
    rw [tellT_step, List.length_append, Nat.succ_mul]
    have := tellT1_len N m k
    omega
theorem tellH_len (m : FM) (p : LPlace) (k : Nat) : (tellH m p k).length ≤ k := by
  unfold tellH
  have := List.length_filter_le (fun t => (m.has p).getLsbD t) (List.range k)
  simp at this ⊢
  exact this
theorem tellI_len (N : List Int) (m : FM) (p : LPlace) : (tellI N m p).length ≤ N.length := by
  unfold tellI
  rw [List.length_map]
  exact numIn_len _ _ _
theorem tellP_len (N : List Int) (m : FM) (nb : Nat) (A : List LPlace) : ∀ k, k ≤ A.length → (tellP N m nb A k).length ≤ k * (N.length + nb) := by
  intro k
  induction k with
  | zero => intro _; simp [tellP]
  | succ k ih =>
    intro hk
    have h1 := ih (by omega)
    rw [tellP_step N m nb (by omega), List.length_append, Nat.succ_mul]
    unfold tellP1
    rw [List.length_append]
    have := tellI_len N m (A.getD k .zero)
    have := tellH_len m (A.getD k .zero) nb
    omega

theorem tell_mem {B : List Bool} {s slots : Int} {N : List Int} {m : FM} {A : List LPlace} (hA : ∀ p, p ∈ A ↔ isB s slots p = true) (hm : FmOk B s slots N m) (f : LFact) : f ∈ tellL N m B.length A ↔ Kof N m f := by
  have hkind : ∀ p, p ∈ A → ¬ p.kind = 0 := fun p hp e => by
    rcases is_cases ((hA p).1 hp) with h | h | h <;> omega
  unfold tellL
  rw [List.mem_append]
  have hT : f ∈ tellT N m B.length ↔ f.pl = .zero ∧ f.temp = true ∧ ∃ t : Nat, t < B.length ∧ f.t = t ∧ ∃ k, k < N.length ∧ nAt N k = f.n ∧ (m.tmp t).getLsbD k = true := by
    unfold tellT
    rw [List.mem_flatMap]
    constructor
    · rintro ⟨t, ht, hf⟩
      unfold tellT1 at hf
      rw [List.mem_map] at hf
      obtain ⟨n, hn, rfl⟩ := hf
      exact ⟨rfl, rfl, t, List.mem_range.1 ht, rfl, numIn_mem.1 hn⟩
    · rintro ⟨h1, h2, t, ht, h3, h4⟩
      refine ⟨t, List.mem_range.2 ht, ?_⟩
      unfold tellT1
      rw [List.mem_map]
      refine ⟨f.n, numIn_mem.2 h4, ?_⟩
      obtain ⟨a, b, c, d⟩ := f
      simp only at h1 h2 h3
      subst h1 h2 h3
      rfl
  have hP : f ∈ tellP N m B.length A A.length ↔ f.pl ∈ A ∧ ((f.temp = false ∧ f.t = 0 ∧ ∃ k, k < N.length ∧ nAt N k = f.n ∧ (m.is f.pl).getLsbD k = true) ∨ (f.temp = true ∧ f.n = 0 ∧ ∃ t : Nat, t < B.length ∧ f.t = t ∧ (m.has f.pl).getLsbD t = true)) := by
    unfold tellP
    rw [List.take_length, List.mem_flatMap]
    constructor
    · rintro ⟨p, hp, hf⟩
      unfold tellP1 at hf
      rw [List.mem_append] at hf
      rcases hf with hf | hf
      · unfold tellI at hf
        rw [List.mem_map] at hf
        obtain ⟨n, hn, rfl⟩ := hf
        exact ⟨hp, Or.inl ⟨rfl, rfl, numIn_mem.1 hn⟩⟩
      · unfold tellH at hf
        rw [List.mem_map] at hf
        obtain ⟨t, ht, rfl⟩ := hf
        rw [List.mem_filter, List.mem_range] at ht
        exact ⟨hp, Or.inr ⟨rfl, rfl, t, ht.1, rfl, ht.2⟩⟩
    · rintro ⟨hp, h⟩
      refine ⟨f.pl, hp, ?_⟩
      unfold tellP1
      rw [List.mem_append]
      rcases h with ⟨h1, h2, h3⟩ | ⟨h1, h2, t, h3, h4, h5⟩
      · left
        unfold tellI
        rw [List.mem_map]
        refine ⟨f.n, numIn_mem.2 h3, ?_⟩
        obtain ⟨a, b, c, d⟩ := f
        simp only at h1 h2
        subst h1 h2
        rfl
      · right
        unfold tellH
        rw [List.mem_map]
        refine ⟨t, by rw [List.mem_filter, List.mem_range]; exact ⟨h3, h5⟩, ?_⟩
        obtain ⟨a, b, c, d⟩ := f
        simp only at h1 h2 h4
        subst h1 h2 h4
        rfl
  rw [hT, hP]
  unfold Kof
  by_cases h0 : f.pl.kind = 0
  · rw [if_pos h0]
    constructor
    · rintro (⟨h1, h2, t, ht, h3, h4⟩ | ⟨h1, _⟩)
      · refine ⟨by rw [h1]; rfl, h2, ?_⟩
        rw [h3]; exact h4
      · exact absurd h0 (hkind _ h1)
    · rintro ⟨h1, h2, k, hk, h3, h4⟩
      obtain ⟨t0, t1, -, -⟩ := hm.tmp _ _ h4
      have e : ((f.t.toNat : Nat) : Int) = f.t := by omega
      refine Or.inl ⟨?_, h2, f.t.toNat, by omega, e.symm, k, hk, h3, by rw [e]; exact h4⟩
      obtain ⟨⟨a, a'⟩, b, c, d⟩ := f
      simp only at h0 h1
      subst h0 h1
      rfl
  rw [if_neg h0]
  have hz : ¬ f.pl = .zero := fun e => h0 (by rw [e]; rfl)
  by_cases ht : f.temp = true
  · rw [if_pos ht]
    constructor
    · rintro (⟨h1, _⟩ | ⟨h1, ⟨h2, _⟩ | ⟨h2, h3, t, h4, h5, h6⟩⟩)
      · exact absurd h1 hz
      · rw [ht] at h2; cases h2
      · exact ⟨h3, by omega, by rw [h5]; exact h6⟩
    · rintro ⟨h1, h2, h3⟩
      obtain ⟨p1, p2, -, -⟩ := hm.has _ _ h3
      exact Or.inr ⟨(hA _).2 p1, Or.inr ⟨ht, h1, f.t.toNat, p2, by omega, h3⟩⟩
  · rw [if_neg ht]
    constructor
    · rintro (⟨_, h1, _⟩ | ⟨h1, ⟨h2, h3, h4⟩ | ⟨h2, _⟩⟩)
      · exact absurd h1 ht
      · exact ⟨h3, h4⟩
      · exact absurd h2 ht
    · rintro ⟨h1, k, hk, h2, h3⟩
      obtain ⟨p1, -, -⟩ := hm.is _ _ h3
      exact Or.inr ⟨(hA _).2 p1, Or.inl ⟨by simpa using ht, h1, k, hk, h2, h3⟩⟩

theorem pair_flat {α β : Type} {R : β → β → Prop} {f : α → List β} : ∀ {l : List α}, (∀ a, a ∈ l → (f a).Pairwise R) → l.Pairwise (fun a b => ∀ x, x ∈ f a → ∀ y, y ∈ f b → R x y) → (l.flatMap f).Pairwise R
  | [], _, _ => by simp
  | a :: l, h1, h2 => by
    rw [List.pairwise_cons] at h2
    rw [List.flatMap_cons, List.pairwise_append]
    refine ⟨h1 a (by simp), pair_flat (fun b hb => h1 b (by simp [hb])) h2.2, fun x hx y hy => ?_⟩
    rw [List.mem_flatMap] at hy
    obtain ⟨b, hb, hy⟩ := hy
    exact h2.1 b hb x hx y hy

theorem tell_sorted {N : List Int} (hN : N.Pairwise (· < ·)) (m : FM) (nb : Nat) {A : List LPlace} (hA : A.Pairwise plLt) (hk : ∀ p, p ∈ A → 0 < p.kind) : (tellL N m nb A).Pairwise factLt := by
  unfold tellL
  rw [List.pairwise_append]
  have memT1 : ∀ t f, f ∈ tellT1 N m t → f.pl = .zero ∧ f.temp = true ∧ f.t = t := fun t f hf => by
    unfold tellT1 at hf
    rw [List.mem_map] at hf
    obtain ⟨n, _, rfl⟩ := hf
    exact ⟨rfl, rfl, rfl⟩
  have memP1 : ∀ p f, f ∈ tellP1 N m nb p → f.pl = p := fun p f hf => by
    unfold tellP1 at hf
    rw [List.mem_append] at hf
    rcases hf with hf | hf
    · unfold tellI at hf
      rw [List.mem_map] at hf
      obtain ⟨n, _, rfl⟩ := hf
      rfl
    · unfold tellH at hf
      rw [List.mem_map] at hf
      obtain ⟨n, _, rfl⟩ := hf
      rfl
  refine ⟨?_, ?_, ?_⟩
  · unfold tellT
    refine pair_flat (fun t _ => ?_) (List.pairwise_lt_range.imp (fun {a b} hab x hx y hy => ?_))
    · unfold tellT1
      rw [List.pairwise_map]
      exact (numIn_up hN _).imp (fun {a b} hab => Or.inr ⟨rfl, Or.inr ⟨rfl, Or.inr ⟨rfl, Or.inr ⟨rfl, hab⟩⟩⟩⟩)
    · obtain ⟨a1, a2, a3⟩ := memT1 a x hx
      obtain ⟨b1, b2, b3⟩ := memT1 b y hy
      exact Or.inr ⟨by rw [a1, b1], Or.inr ⟨by rw [a1, b1], Or.inr ⟨by rw [a2, b2], Or.inl (by omega)⟩⟩⟩
  · unfold tellP
    rw [List.take_length]
    refine pair_flat (fun p _ => ?_) (hA.imp (fun {a b} hab x hx y hy => ?_))
    · unfold tellP1
      rw [List.pairwise_append]
      refine ⟨?_, ?_, fun x hx y hy => ?_⟩
      · unfold tellI
        rw [List.pairwise_map]
        exact (numIn_up hN _).imp (fun {a b} hab => Or.inr ⟨rfl, Or.inr ⟨rfl, Or.inr ⟨rfl, Or.inr ⟨rfl, hab⟩⟩⟩⟩)
      · unfold tellH
        rw [List.pairwise_map]
        exact (List.pairwise_lt_range.filter _).imp (fun {a b} hab => Or.inr ⟨rfl, Or.inr ⟨rfl, Or.inr ⟨rfl, Or.inl (by simp only [hFact]; omega)⟩⟩⟩)
      · unfold tellI at hx
        unfold tellH at hy
        rw [List.mem_map] at hx hy
        obtain ⟨n, _, rfl⟩ := hx
        obtain ⟨t, _, rfl⟩ := hy
        exact Or.inr ⟨rfl, Or.inr ⟨rfl, Or.inl ⟨rfl, rfl⟩⟩⟩
    · have e1 := memP1 a x hx
      have e2 := memP1 b y hy
      rcases hab with h | ⟨h, h'⟩
      · exact Or.inl (by rw [e1, e2]; exact h)
      · exact Or.inr ⟨by rw [e1, e2]; exact h, Or.inl (by rw [e1, e2]; exact h')⟩
  · intro x hx y hy
    unfold tellT at hx
    rw [List.mem_flatMap] at hx
    obtain ⟨t, _, hx⟩ := hx
    unfold tellP at hy
    rw [List.take_length, List.mem_flatMap] at hy
    obtain ⟨p, hp, hy⟩ := hy
    have e1 := (memT1 t x hx).1
    have e2 := memP1 p y hy
    refine Or.inl ?_
    rw [e1, e2]
    exact hk p hp

end Go.Proofs.YtdbjklngnloibaaGreat.form

/- Maps of the call's own: of each place two numbers of 64 bits; of each temporary one: what each operation does with them. -/
namespace Go.Proofs.YtdbjklngnloibaaGreat.form
open Go.RowKit Go.Maps
set_option linter.unusedVariables false

def bitV (x : Bits) : Value := .int .u64 (bn x)
def knownV (h i : Bits) : Value := .agg #[.int .u64 (bn h), .int .u64 (bn i)]
def knownD (h i : Bits) : DataW Unit := .agg [.lit (.int .u64 (bn h)), .lit (.int .u64 (bn i))]

/-- How what is known of a place reads. -/
def knownElem (v : Value) : Option (DataW Unit × List MemPlace) :=
  match v with
  | .agg cs => match cs.toList with
    | [.int .u64 a, .int .u64 b] => if 0 ≤ a ∧ a < 18446744073709551616 ∧ 0 ≤ b ∧ b < 18446744073709551616 then some (.agg [.lit (.int .u64 a), .lit (.int .u64 b)], []) else none
    | _ => none
  | _ => none
theorem knownElem_mk (h i : Bits) : knownElem (knownV h i) = some (knownD h i, []) := by
  unfold knownElem knownV knownD
  simp only []
  rw [if_pos ⟨(bits_bd h).1, (bits_bd h).2, (bits_bd i).1, (bits_bd i).2⟩]
theorem knownElem_inv {v : Value} {y : DataW Unit × List MemPlace} (h : knownElem v = some y) : ∃ a b : Bits, v = knownV a b ∧ y = (knownD a b, []) := by
  unfold knownElem at h
  split at h
  · rename_i cs
    split at h
    · rename_i a b hcs
      split at h
      · rename_i hb
        obtain ⟨x, rfl⟩ := bits_of hb.1 hb.2.1
        obtain ⟨z, rfl⟩ := bits_of hb.2.2.1 hb.2.2.2
        refine ⟨x, z, ?_, (Option.some.inj h).symm⟩
        unfold knownV
        congr 1
        obtain ⟨l⟩ := cs
        simp at hcs
        rw [hcs]
      · cases h
    · cases h
  · cases h
theorem knownD_inj {a b c d : Bits} (h : knownD a b = knownD c d) : a = c ∧ b = d := by
  unfold knownD at h
  simp only [DataW.agg.injEq, List.cons.injEq, DataW.lit.injEq, Lit.int.injEq, true_and, and_true] at h
  exact ⟨bits_inj h.1, bits_inj h.2⟩

/-! Places as keys. -/
structure PlWf (p : LPlace) : Prop where
  k0 : -9223372036854775808 ≤ p.kind
  k1 : p.kind ≤ 9223372036854775807
  n0 : -9223372036854775808 ≤ p.n
  n1 : p.n ≤ 9223372036854775807

theorem laidOutP : laidOutB Tryz.prog = true := by kernel_rfl
theorem pkRow : (51 : TypeId) < Tryz.prog.types.size := of_decide_eq_true (by kernel_rfl)
theorem pkWide : (match Tryz.prog.underlying 51 with | some (.array _ _) | some (.struct _) => true | _ => false) = true := by kernel_rfl
set_option maxRecDepth 100000 in
theorem pkLaw : Keyed Tryz.prog 51 := Keyed.of_law (deep_law_laid laidOutP (m := 4) (by omega) pkRow (by kernel_rfl) pkWide)
theorem pkType : Tryz.prog.keyType 51 = true := by kernel_rfl
theorem pkCells : Tryz.prog.cellsOf 51 = 2 := by kernel_rfl
theorem pkFormed (p : LPlace) : (p.val).formed Tryz.prog 51 = true := by
  have hu := Tryz.underlying51
  simp [LPlace.val, Value.formed, hu, pkCells]
theorem i64_wfP {x : Int} (h0 : -9223372036854775808 ≤ x) (h1 : x ≤ 9223372036854775807) : (Lit.int .i64 x).wf = true := WalkArith.wf_i64 ⟨h0, h1⟩
theorem pkLits {p : LPlace} (hf : PlWf p) : Tryz.prog.keyLits (Tryz.prog.types.size + 1) 51 (p.val).cells.toList = some [.int .i64 p.kind, .int .i64 p.n] := by
  obtain ⟨m, hm⟩ : ∃ m, Tryz.prog.types.size + 1 = m + 2 := ⟨Tryz.prog.types.size - 1, by have : 2 ≤ Tryz.prog.types.size := of_decide_eq_true (by kernel_rfl); omega⟩
  have hp := Tryz.underlying51
  have hi : Tryz.prog.underlying 3 = some (.int .i64) := Tryz.underlying3
  have c2 : Tryz.prog.cellsOf 3 = 1 := by kernel_rfl
  have w1 := i64_wfP hf.k0 hf.k1
  have w2 := i64_wfP hf.n0 hf.n1
  rw [hm]
  have kI : ∀ d x, (Lit.int .i64 x).wf = true → Tryz.prog.keyLits (d + 1) 3 [.int .i64 x] = some [.int .i64 x] := fun d x h => by simp [Program.keyLits, hi, h]
  show Tryz.prog.keyLits (m + 1 + 1) 51 [.int .i64 p.kind, .int .i64 p.n] = _
  unfold Program.keyLits
  rw [hp]
  simp only []
  rw [if_pos ⟨by rw [pkCells]; rfl, by kernel_rfl⟩]
  simp [c2, kI m _ w1, kI m _ w2]
def placeKey (p : LPlace) : Lit := .string (keyBytes [.int .i64 p.kind, .int .i64 p.n])
theorem place_key {p : LPlace} (hf : PlWf p) : keyOf Tryz.prog 51 p.val = some (placeKey p) := by
  unfold keyOf
  have hu := Tryz.underlying51
  rw [hu]
  simp only [pkType, pkFormed, Bool.and_self, if_true, pkLits hf]
  rfl
theorem placeV_inj {p q : LPlace} (h : p.val = q.val) : p = q := by
  unfold LPlace.val at h
  obtain ⟨a, b⟩ := p
  obtain ⟨c, d⟩ := q
  simp at h
  obtain ⟨rfl, rfl⟩ := h
  rfl
theorem place_key_inj {p q : LPlace} (hp : PlWf p) (hq : PlWf q) (h : placeKey p = placeKey q) : p = q :=
  placeV_inj (pkLaw.inj (place_key hp) (h ▸ place_key hq))
theorem lits_intP {d : Nat} {v : Value} {l : List Lit} (h : Tryz.prog.keyLits (d + 1) 3 [v] = some l) : ∃ x, v = .int .i64 x ∧ -9223372036854775808 ≤ x ∧ x ≤ 9223372036854775807 ∧ l = [.int .i64 x] := by
  have hi : Tryz.prog.underlying 3 = some (.int .i64) := Tryz.underlying3
  unfold Program.keyLits at h
  rw [hi] at h
  cases v with
  | int q x =>
    simp at h
    obtain ⟨⟨rfl, hw⟩, rfl⟩ := h
    have := bounds_i64 hw
    exact ⟨x, rfl, this.1, this.2, rfl⟩
  | _ => simp at h
set_option maxRecDepth 100000 in
theorem place_inv {v : Value} {kl : Lit} (h : keyOf Tryz.prog 51 v = some kl) : ∃ p, PlWf p ∧ v = p.val ∧ kl = placeKey p := by
  have hp := Tryz.underlying51
  have c2 : Tryz.prog.cellsOf 3 = 1 := by kernel_rfl
  unfold keyOf at h
  rw [hp] at h
  simp only [pkType, Bool.true_and] at h
  by_cases hform : v.formed Tryz.prog 51 = true
  case neg => rw [if_neg hform] at h; cases h
  rw [if_pos hform] at h
  cases v with
  | agg cs =>
    simp [Value.formed, hp, pkCells] at hform
    obtain ⟨a, b, rfl⟩ : ∃ a b, cs = #[a, b] := by
      obtain ⟨l⟩ := cs
      simp at hform
      match l, hform with
      | [a, b], _ => exact ⟨a, b, rfl⟩
    obtain ⟨m, hm⟩ : ∃ m, Tryz.prog.types.size + 1 = m + 2 := ⟨Tryz.prog.types.size - 1, by have : 2 ≤ Tryz.prog.types.size := of_decide_eq_true (by kernel_rfl); omega⟩
    rw [hm] at h
    have h' : (Tryz.prog.keyLits (m + 1 + 1) 51 [a, b]).map (fun ls => Lit.string (keyBytes ls)) = some kl := h
    clear h
    unfold Program.keyLits at h'
    rw [hp] at h'
    simp only [] at h'
    rw [if_pos ⟨by rw [pkCells]; rfl, by kernel_rfl⟩] at h'
    simp [c2, Option.bind_eq_some_iff] at h'
    obtain ⟨l1, k1, l2, ⟨l3, k3, rfl⟩, rfl⟩ := h'
    obtain ⟨x1, rfl, p1, p2, rfl⟩ := lits_intP k1
    obtain ⟨x2, rfl, p3, p4, rfl⟩ := lits_intP k3
    exact ⟨⟨x1, x2⟩, ⟨p1, p2, p3, p4⟩, rfl, rfl⟩
  | _ => simp [Value.formed, hp] at hform
theorem placeKey_lit (p : LPlace) : WideAt.IsKeyLit (placeKey p) := by unfold placeKey; trivial
theorem sameKey_places {p q : LPlace} (hp : PlWf p) (hq : PlWf q) : (placeKey p).sameKey (placeKey q) = true ↔ p = q := by
  by_cases h : p = q
  · subst h
    simp [placeKey, Lit.sameKey]
  · rw [sameKey_ne (fun e => h (place_key_inj hp hq e))]
    simp [h]

/-! The map of places. -/

/-- What the map says: of places of the list alone. -/
structure PSays (A : List LPlace) (D : DataW Unit) (gh gi : LPlace → Bits) : Prop where
  keys : ∀ p, PlWf p → Maps.has D (placeKey p) = true → p ∈ A
  at_ : ∀ p, PlWf p → D.atKey (placeKey p) (knownD 0 0) = knownD (gh p) (gi p)
def PMap (w : World) (b : Nat) (A : List LPlace) (gh gi : LPlace → Bits) : Prop := ∃ D : DataW Unit, w.ownsMap Tryz.prog 51 knownElem b A.length D ∧ PSays A D gh gi

theorem PMap.lt {w : World} {b : Nat} {A : List LPlace} {gh gi : LPlace → Bits} (h : PMap w b A gh gi) : b < w.heap.size := by obtain ⟨D, h1, -⟩ := h; exact h1.lt
theorem PMap.kept {w w' : World} {b : Nat} {A : List LPlace} {gh gi : LPlace → Bits} {row : Option Nat} (h : PMap w b A gh gi) (hg : w.grownBy w' row) (hne : some b ≠ row) : PMap w' b A gh gi := by
  obtain ⟨D, h1, h2⟩ := h
  exact ⟨D, h1.kept hg hne, h2⟩
theorem PMap.congr {w : World} {b : Nat} {A : List LPlace} {gh gi gh' gi' : LPlace → Bits} (h : PMap w b A gh gi) (e1 : ∀ p, PlWf p → gh p = gh' p) (e2 : ∀ p, PlWf p → gi p = gi' p) : PMap w b A gh' gi' := by
  obtain ⟨D, h1, h2⟩ := h
  exact ⟨D, h1, h2.keys, fun p hp => by rw [h2.at_ p hp, e1 p hp, e2 p hp]⟩
theorem PMap.new (w : World) (A : List LPlace) : PMap (w.alloc (.map #[] 0)) w.heap.size A (fun _ => 0) (fun _ => 0) :=
  ⟨.map [], (World.ownsMap_made _ _ _ _).mono (Nat.zero_le _), fun p _ h => by simp [Maps.has] at h, fun p _ => atKey_of_not_has (by simp [Maps.has]) _⟩

theorem len_of_apartP {α : Type} : ∀ {l m : List α}, l.Pairwise (fun a b => a ≠ b) → (∀ a, a ∈ l → a ∈ m) → l.length ≤ m.length
  | [], m, _, _ => Nat.zero_le _
  | a :: l, m, hp, hs => by
    obtain ⟨p, q, rfl⟩ := List.append_of_mem (hs a (by simp))
    have h1 := (List.pairwise_cons.1 hp)
    have h2 := len_of_apartP (l := l) (m := p ++ q) h1.2 (fun b hb => by
      have h3 := hs b (by simp [hb])
      have h4 := h1.1 b hb
      simp only [List.mem_append, List.mem_cons] at h3 ⊢
      rcases h3 with h3 | h3 | h3
      · exact Or.inl h3
      · exact absurd h3.symm h4
      · exact Or.inr h3)
    simp at h2 ⊢
    omega
theorem own_tight {w : World} {b n : Nat} {D : DataW Unit} {A : List LPlace} (h : w.ownsMap Tryz.prog 51 knownElem b n D) (hk : ∀ p, PlWf p → Maps.has D (placeKey p) = true → p ∈ A) : w.ownsMap Tryz.prog 51 knownElem b A.length D := by
  obtain ⟨es, clock, hb, F, hs, hD⟩ := h
  refine ⟨es, clock, hb, F, ?_, hD⟩
  have hap := fit_apart pkLaw F
  have hks := fit_keys F
  have hl : (es.toList.map (fun x => (WideElems.rg (H := Unit) Tryz.prog 51 knownElem x).1)).length ≤ (A.map placeKey).length := by
    refine len_of_apartP ?_ (fun kl hkl => ?_)
    · rw [List.pairwise_map] at hap ⊢
      exact hap
    · rw [List.mem_map] at hkl
      obtain ⟨x, hx, rfl⟩ := hkl
      obtain ⟨v, hv⟩ := hks _ (List.mem_map.2 ⟨x, hx, rfl⟩)
      obtain ⟨p, hp, -, hkey⟩ := place_inv hv
      rw [hkey]
      refine List.mem_map.2 ⟨p, hk p hp ?_, rfl⟩
      rw [hD, has_eq, List.any_eq_true]
      refine ⟨WideElems.rg Tryz.prog 51 knownElem x, mem_sorted.2 (List.mem_map.2 ⟨x, hx, rfl⟩), ?_⟩
      rw [hkey]
      exact (sameKey_places hp hp).2 rfl
  simpa using hl

theorem zeroK (w : World) : (zeroValue 89).run Tryz.prog w = .ok (knownV 0 0) w := by kernel_rfl

/-- 'm[p]'. -/
theorem PMap.look {w : World} {b : Nat} {A : List LPlace} {gh gi : LPlace → Bits} (h : PMap w b A gh gi) {p : LPlace} (hp : PlWf p) : (Instr.lookup 84 (.map (some b)) p.val false).run Tryz.prog w = .ok (knownV (gh p) (gi p)) w := by
  obtain ⟨D, h1, h2⟩ := h
  obtain ⟨v, ps, hrun, hv⟩ := h1.lookup pkLaw Tryz.underlying84 (zeroK w) (knownElem_mk 0 0) (place_key hp)
  rw [h2.at_ p hp] at hv
  obtain ⟨x, y, rfl, hy⟩ := knownElem_inv hv
  simp only [Prod.mk.injEq] at hy
  obtain ⟨rfl, rfl⟩ := knownD_inj hy.1
  exact hrun

theorem PSays.put {A : List LPlace} {D : DataW Unit} {gh gi : LPlace → Bits} (h : PSays A D gh gi) (hD : IsMap D) {q : LPlace} (hq : PlWf q) (hA : q ∈ A) (x y : Bits) : PSays A (D.put (placeKey q) (knownD x y)) (updP gh q x) (updP gi q y) := by
  refine ⟨fun p hp hh => ?_, fun p hp => ?_⟩
  · by_cases e : p = q
    · rw [e]; exact hA
    · rw [has_put_other (fun h => e (place_key_inj hp hq h))] at hh
      exact h.keys p hp hh
  · by_cases e : p = q
    · subst e
      rw [atKey_put_same hD (placeKey_lit _)]
      unfold updP
      rw [if_pos (samePl_refl p), if_pos (samePl_refl p)]
    · rw [atKey_put_other (fun h => e (place_key_inj hp hq h)), h.at_ p hp]
      unfold updP
      rw [if_neg (fun h => e (samePl_eq h)), if_neg (fun h => e (samePl_eq h))]

section
variable (w : World) {ops : Array Oper} {rest : List Oper} {o : Oper} {a : Act} {Q : Exit → Act → World → Prop}
end

/-! The map of temporaries. -/
theorem tkLaw : Keyed Tryz.prog 3 := int_keyed Tryz.underlying3
def TWf (t : Int) : Prop := -9223372036854775808 ≤ t ∧ t ≤ 9223372036854775807
def tKey (t : Int) : Lit := .int .i64 t
theorem t_key {t : Int} (h : TWf t) : keyOf Tryz.prog 3 (.int .i64 t) = some (tKey t) := keyOf_int_mk Tryz.underlying3 (i64_wfP h.1 h.2)
theorem t_inv {v : Value} {kl : Lit} (h : keyOf Tryz.prog 3 v = some kl) : ∃ t, TWf t ∧ v = .int .i64 t ∧ kl = tKey t := by
  obtain ⟨x, rfl, rfl, hw⟩ := keyOf_int_inv Tryz.underlying3 h
  have := bounds_i64 hw
  exact ⟨x, ⟨this.1, this.2⟩, rfl, rfl⟩
theorem tKey_inj {s t : Int} (h : tKey s = tKey t) : s = t := by unfold tKey at h; simpa using h
theorem tKey_lit (t : Int) : WideAt.IsKeyLit (tKey t) := by unfold tKey; trivial
theorem sameKey_temps {s t : Int} : (tKey s).sameKey (tKey t) = true ↔ s = t := by
  by_cases h : s = t
  · subst h
    simp [tKey, Lit.sameKey]
  · rw [sameKey_ne (fun e => h (tKey_inj e))]
    simp [h]
theorem u64_wf (x : Bits) : (Lit.int .u64 (bn x)).wf = true := WalkArith.wf_u64 (by have := bits_bd x; omega)
def setD (x : Bits) : DataW Unit := .lit (.int .u64 (bn x))

structure TSays (A : List Int) (D : DataW Unit) (g : Int → Bits) : Prop where
  keys : ∀ t, TWf t → Maps.has D (tKey t) = true → t ∈ A
  at_ : ∀ t, TWf t → D.atKey (tKey t) (setD 0) = setD (g t)
def TMap (w : World) (b : Nat) (A : List Int) (g : Int → Bits) : Prop := ∃ D : DataW Unit, w.ownsMap Tryz.prog 3 (plainElem Tryz.prog 83) b A.length D ∧ TSays A D g

theorem TMap.lt {w : World} {b : Nat} {A : List Int} {g : Int → Bits} (h : TMap w b A g) : b < w.heap.size := by obtain ⟨D, h1, -⟩ := h; exact h1.lt
theorem TMap.kept {w w' : World} {b : Nat} {A : List Int} {g : Int → Bits} {row : Option Nat} (h : TMap w b A g) (hg : w.grownBy w' row) (hne : some b ≠ row) : TMap w' b A g := by
  obtain ⟨D, h1, h2⟩ := h
  exact ⟨D, h1.kept hg hne, h2⟩
theorem TMap.congr {w : World} {b : Nat} {A : List Int} {g g' : Int → Bits} (h : TMap w b A g) (e1 : ∀ t, TWf t → g t = g' t) : TMap w b A g' := by
  obtain ⟨D, h1, h2⟩ := h
  exact ⟨D, h1, h2.keys, fun p hp => by rw [h2.at_ p hp, e1 p hp]⟩
theorem TMap.new (w : World) (A : List Int) : TMap (w.alloc (.map #[] 0)) w.heap.size A (fun _ => 0) :=
  ⟨.map [], (World.ownsMap_made _ _ _ _).mono (Nat.zero_le _), fun p _ h => by simp [Maps.has] at h, fun p _ => atKey_of_not_has (by simp [Maps.has]) _⟩
theorem own_tightT {w : World} {b n : Nat} {D : DataW Unit} {A : List Int} (h : w.ownsMap Tryz.prog 3 (plainElem Tryz.prog 83) b n D) (hk : ∀ t, TWf t → Maps.has D (tKey t) = true → t ∈ A) : w.ownsMap Tryz.prog 3 (plainElem Tryz.prog 83) b A.length D := by
  obtain ⟨es, clock, hb, F, hs, hD⟩ := h
  refine ⟨es, clock, hb, F, ?_, hD⟩
  have hap := fit_apart tkLaw F
  have hks := fit_keys F
  have hl : (es.toList.map (fun x => (WideElems.rg (H := Unit) Tryz.prog 3 (plainElem Tryz.prog 83) x).1)).length ≤ (A.map tKey).length := by
    refine len_of_apartP ?_ (fun kl hkl => ?_)
    · rw [List.pairwise_map] at hap ⊢
      exact hap
    · rw [List.mem_map] at hkl
      obtain ⟨x, hx, rfl⟩ := hkl
      obtain ⟨v, hv⟩ := hks _ (List.mem_map.2 ⟨x, hx, rfl⟩)
      obtain ⟨t, ht, -, hkey⟩ := t_inv hv
      rw [hkey]
      refine List.mem_map.2 ⟨t, hk t ht ?_, rfl⟩
      rw [hD, has_eq, List.any_eq_true]
      refine ⟨WideElems.rg Tryz.prog 3 (plainElem Tryz.prog 83) x, mem_sorted.2 (List.mem_map.2 ⟨x, hx, rfl⟩), ?_⟩
      rw [hkey]
      exact sameKey_temps.2 rfl
  simpa using hl
theorem zeroS (w : World) : (zeroValue 83).run Tryz.prog w = .ok (.int .u64 0) w := by kernel_rfl
theorem TMap.look {w : World} {b : Nat} {A : List Int} {g : Int → Bits} (h : TMap w b A g) {t : Int} (ht : TWf t) : (Instr.lookup 85 (.map (some b)) (.int .i64 t) false).run Tryz.prog w = .ok (bitV (g t)) w := by
  obtain ⟨D, h1, h2⟩ := h
  obtain ⟨c, hrun, hat, hwc⟩ := h1.lookup_int tkLaw Tryz.underlying85 Tryz.underlying83 (zeroS w) (t_key ht)
  have h3 := h2.at_ t ht
  have e : setD 0 = .lit (.int .u64 0) := rfl
  rw [e, hat] at h3
  unfold setD at h3
  simp only [DataW.lit.injEq, Lit.int.injEq, true_and] at h3
  rw [hrun, h3]
  rfl
theorem TSays.put {A : List Int} {D : DataW Unit} {g : Int → Bits} (h : TSays A D g) (hD : IsMap D) {q : Int} (hA : q ∈ A) (x : Bits) : TSays A (D.put (tKey q) (setD x)) (updT g q x) := by
  refine ⟨fun p hp hh => ?_, fun p hp => ?_⟩
  · by_cases e : p = q
    · rw [e]; exact hA
    · rw [has_put_other (fun h => e (tKey_inj h))] at hh
      exact h.keys p hp hh
  · by_cases e : p = q
    · subst e
      rw [atKey_put_same hD (tKey_lit _)]
      unfold updT
      rw [if_pos rfl]
    · rw [atKey_put_other (fun h => e (tKey_inj h)), h.at_ p hp]
      unfold updT
      rw [if_neg e]
section
variable (w : World) {ops : Array Oper} {rest : List Oper} {o : Oper} {a : Act} {Q : Exit → Act → World → Prop}
end
end Go.Proofs.YtdbjklngnloibaaGreat.form

/- Numbers of 64 bits as bits: the operations; sets by them (check.only, set.contains, known.and). -/
namespace Go.Proofs.YtdbjklngnloibaaGreat.form
open Go.RowKit Go.Maps
set_option linter.unusedVariables false
attribute [local go_sem ↓] Go.wp_at_zero Go.wp_at_succ

theorem shl_is {k : Nat} (hk : k < 64) : IntKind.u64.wrap (2 ^ k) = bn (only k) := by
  have e : (only k).toNat = 2 ^ k := by
    unfold only
    rw [BitVec.toNat_twoPow]
    exact Nat.mod_eq_of_lt (Nat.pow_lt_pow_right (by omega) hk)
  have h := bits_bd (only k)
  unfold bn at h ⊢
  rw [e] at h ⊢
  push_cast at h ⊢
  exact wrapU h.1 h.2
theorem hasBit_is {x : Bits} {k : Nat} (hk : k < 64) : (!((x &&& only k) == 0)) = x.getLsbD k := by
  rw [Bool.eq_iff_iff]
  simp only [Bool.not_eq_true', beq_eq_false_iff_ne, ne_eq]
  rw [bits_ne]
  constructor
  · rintro ⟨j, hj⟩
    rw [bits_and, only_bit hk] at hj
    rw [← hj.2]; exact hj.1
  · intro h
    exact ⟨k, by rw [bits_and, only_bit hk]; exact ⟨h, rfl⟩⟩

theorem onlyO (k : Nat) (hk : k < 64) (w : World) : Calls Tryz.prog 51 #[.int .i64 k] w fun e w' => e = .returned (.int .u64 (bn (only k))) ∧ w' = w := by
  have h0 : (0 : Int) ≤ (k : Int) := by omega
  have h1 : (k : Int) ≤ 64 := by omega
  have hs := shl_is hk
  go_enter Tryz.func51, Tryz.ntmps51
  go_wp2
  go_ret
  exact ⟨rfl, rfl⟩

theorem containsO (x : Bits) (k : Nat) (hk : k < 64) (w : World) : Calls Tryz.prog 30 #[.int .u64 (bn x), .int .i64 k] w fun e w' => e = .returned (.bool (x.getLsbD k)) ∧ w' = w := by
  have ha := and_is x (only k)
  have hn := ne_is (x &&& only k)
  rw [hasBit_is hk] at hn
  go_enter Tryz.func30, Tryz.ntmps30
  go_wp2_with (go_at_call 51; refine (onlyO k hk _).mono ?_; rintro e w' ⟨rfl, hw'⟩; obtain rfl := hw'.symm)
  go_ret
  exact ⟨rfl, rfl⟩

theorem andO (a b c d : Bits) (w : World) : Calls Tryz.prog 97 #[knownV a b, knownV c d] w fun e w' => e = .returned (knownV (a &&& c) (b &&& d)) ∧ Below w.heap.size w w' := by
  have h1 := and_is a c
  have h2 := and_is b d
  unfold knownV
  have HB : Hid (∀ o1 o2 o3 : Obj, Below w.heap.size w (((w.alloc o1).alloc o2).alloc o3)) := fun o1 o2 o3 => (((Below.refl _ _).alloc (Nat.le_refl _) _).alloc (by simp) _).alloc (by simp; omega) _
  go_enter Tryz.func97, Tryz.ntmps97
  go_wp2
  refine bodyPost_ret (v := knownV (a &&& c) (b &&& d)) ?_ rfl ⟨rfl, HB.out _ _ _⟩
  simp [results, Tryz.results97, go_sem, knownV]

end Go.Proofs.YtdbjklngnloibaaGreat.form

/- What lies in memory while facts are found: the world of facts; facts in their maps. -/
namespace Go.Proofs.YtdbjklngnloibaaGreat.form
open Go.RowKit Go.Maps
set_option linter.unusedVariables false

theorem PMap.of_block {w w' : World} {b : Nat} {A : List LPlace} {gh gi : LPlace → Bits} (h : PMap w b A gh gi) (hb : w'.heap[b]? = w.heap[b]?) : PMap w' b A gh gi := by
  obtain ⟨D, ⟨es, clock, h1, F, hs, hD⟩, h2⟩ := h
  exact ⟨D, ⟨es, clock, hb.trans h1, F, hs, hD⟩, h2⟩
theorem TMap.of_block {w w' : World} {b : Nat} {A : List Int} {g : Int → Bits} (h : TMap w b A g) (hb : w'.heap[b]? = w.heap[b]?) : TMap w' b A g := by
  obtain ⟨D, ⟨es, clock, h1, F, hs, hD⟩, h2⟩ := h
  exact ⟨D, ⟨es, clock, hb.trans h1, F, hs, hD⟩, h2⟩
theorem PMap.below {w w' : World} {b : Nat} {A : List LPlace} {gh gi : LPlace → Bits} (h : PMap w b A gh gi) (hb : Below w.heap.size w w') : PMap w' b A gh gi := h.of_block (hb.block b h.lt)
theorem TMap.below {w w' : World} {b : Nat} {A : List Int} {g : Int → Bits} (h : TMap w b A g) (hb : Below w.heap.size w w') : TMap w' b A g := h.of_block (hb.block b h.lt)

/-- Facts of one point, in their maps. -/
structure FMAt (w : World) (q mp mt : Nat) (A : List LPlace) (T : List Int) (m : FM) : Prop where
  c0 : w.cell? ⟨q, 0, none⟩ = some (.map (some mp))
  c1 : w.cell? ⟨q, 1, none⟩ = some (.map (some mt))
  pm : PMap w mp A m.has m.is
  tm : TMap w mt T m.tmp
  n1 : q ≠ mp
  n2 : q ≠ mt
  n3 : mp ≠ mt
theorem cell_lt {w : World} {q o : Nat} {v : Value} (h : w.cell? ⟨q, o, none⟩ = some v) : q < w.heap.size := World.block_lt_of_cell? w _ h
theorem FMAt.lt {w : World} {q mp mt : Nat} {A : List LPlace} {T : List Int} {m : FM} (h : FMAt w q mp mt A T m) : q < w.heap.size ∧ mp < w.heap.size ∧ mt < w.heap.size := ⟨cell_lt h.c0, h.pm.lt, h.tm.lt⟩
theorem FMAt.below {w w' : World} {q mp mt : Nat} {A : List LPlace} {T : List Int} {m : FM} (h : FMAt w q mp mt A T m) (hb : Below w.heap.size w w') : FMAt w' q mp mt A T m :=
  ⟨step_cell hb h.c0, step_cell hb h.c1, h.pm.below hb, h.tm.below hb, h.n1, h.n2, h.n3⟩
theorem But.cellOf {x y : Nat} {w w' : World} (h : But x y w w') {q o : Nat} {v : Value} (hc : w.cell? ⟨q, o, none⟩ = some v) (h1 : q ≠ x) (h2 : q ≠ y) : w'.cell? ⟨q, o, none⟩ = some v := by
  rw [World.cell?_of_block (w := w) (h.block q (cell_lt hc) h1 h2)]
  exact hc
theorem FMAt.but {w w' : World} {q mp mt x y : Nat} {A : List LPlace} {T : List Int} {m : FM} (h : FMAt w q mp mt A T m) (hb : But x y w w') (h1 : q ≠ x ∧ q ≠ y) (h2 : mp ≠ x ∧ mp ≠ y) (h3 : mt ≠ x ∧ mt ≠ y) : FMAt w' q mp mt A T m :=
  ⟨hb.cellOf h.c0 h1.1 h1.2, hb.cellOf h.c1 h1.1 h1.2, h.pm.of_block (hb.block mp h.pm.lt h2.1 h2.2), h.tm.of_block (hb.block mt h.tm.lt h3.1 h3.2), h.n1, h.n2, h.n3⟩
theorem FMAt.lim {w : World} {q mp mt : Nat} {A : List LPlace} {T : List Int} {m m' : FM} (h : FMAt w q mp mt A T m) (e1 : ∀ p, PlWf p → m.has p = m'.has p) (e2 : ∀ p, PlWf p → m.is p = m'.is p) (e3 : ∀ t, TWf t → m.tmp t = m'.tmp t) : FMAt w q mp mt A T m' :=
  ⟨h.c0, h.c1, h.pm.congr e1 e2, h.tm.congr e3, h.n1, h.n2, h.n3⟩
theorem grown_but {w w' : World} {x y : Nat} (h : w.grownBy w' (some x)) : But x y w w' := ⟨h.os, h.tape, h.output, h.size, fun k hk h1 _ => h.block k hk (fun e => h1 (Option.some.inj e))⟩
theorem But.toBelow {x y lim : Nat} {w w' : World} (h : But x y w w') (hl : lim ≤ w.heap.size) (h1 : lim ≤ x) (h2 : lim ≤ y) : Below lim w w' := ⟨h.os, h.tape, h.output, h.size, fun k hk => h.block k (by omega) (by omega) (by omega)⟩
theorem But.mono {x y : Nat} {w0 w w' : World} (h : But x y w w') (hb : Below w0.heap.size w0 w) : But x y w0 w' := (But.of_below hb).trans h

/-- Where the world of facts lies. -/
structure WB where
  q : Nat
  b0 : Nat
  o0 : Nat
  c0 : Nat
  b1 : Nat
  o1 : Nat
  c1 : Nat
  b2 : Nat
  o2 : Nat
  c2 : Nat
  b3 : Nat
  c3 : Nat
  b4 : Nat
  c4 : Nat

structure Stat (w : World) (g : WB) (B : List Bool) (C : List LIns) (R : List LRow) (A : List LPlace) (N : List Int) : Prop where
  p0 : w.cell? ⟨g.q, 0, none⟩ = some (.slice (some ⟨g.b0, g.o0, none⟩) B.length g.c0)
  p1 : w.cell? ⟨g.q, 1, none⟩ = some (.slice (some ⟨g.b1, g.o1, none⟩) C.length g.c1)
  p2 : w.cell? ⟨g.q, 2, none⟩ = some (.slice (some ⟨g.b2, g.o2, none⟩) R.length g.c2)
  p3 : w.cell? ⟨g.q, 3, none⟩ = some (.slice (some ⟨g.b3, 0, none⟩) A.length g.c3)
  p4 : w.cell? ⟨g.q, 4, none⟩ = some (.slice (some ⟨g.b4, 0, none⟩) N.length g.c4)
  held : Held w g.b0 g.o0 g.b1 g.o1 B C
  rows : RowsHeld w g.b2 g.o2 R
  plc : ∀ j, j < A.length → w.cell? ⟨g.b3, j * 2, none⟩ = some (.int .i64 (A.getD j .zero).kind) ∧ w.cell? ⟨g.b3, j * 2 + 1, none⟩ = some (.int .i64 (A.getD j .zero).n)
  nums : ∀ j, j < N.length → w.cell? ⟨g.b4, j, none⟩ = some (.int .u32 (N.getD j 0))
theorem Stat.later {w w' : World} {g : WB} {B : List Bool} {C : List LIns} {R : List LRow} {A : List LPlace} {N : List Int} (h : Stat w g B C R A N) (hb : Below w.heap.size w w') : Stat w' g B C R A N :=
  ⟨step_cell hb h.p0, step_cell hb h.p1, step_cell hb h.p2, step_cell hb h.p3, step_cell hb h.p4, h.held.later hb, h.rows.later hb, fun j hj => ⟨step_cell hb (h.plc j hj).1, step_cell hb (h.plc j hj).2⟩, fun j hj => step_cell hb (h.nums j hj)⟩

/-- It has lain there since there were lim blocks, and lies there as it was. -/
def WorldAt (w : World) (lim : Nat) (g : WB) (B : List Bool) (C : List LIns) (R : List LRow) (A : List LPlace) (N : List Int) : Prop := ∃ w0 : World, w0.heap.size = lim ∧ Stat w0 g B C R A N ∧ Below lim w0 w
section
variable {w w' : World} {lim : Nat} {g : WB} {B : List Bool} {C : List LIns} {R : List LRow} {A : List LPlace} {N : List Int}
theorem WorldAt.stat (h : WorldAt w lim g B C R A N) : Stat w g B C R A N := by
  obtain ⟨w0, h1, h2, h3⟩ := h
  exact h2.later (by rw [h1]; exact h3)
theorem WorldAt.le (h : WorldAt w lim g B C R A N) : lim ≤ w.heap.size := by
  obtain ⟨w0, h1, h2, h3⟩ := h
  rw [← h1]; exact h3.size
theorem WorldAt.keep (h : WorldAt w lim g B C R A N) (hb : Below lim w w') : WorldAt w' lim g B C R A N := by
  obtain ⟨w0, h1, h2, h3⟩ := h
  exact ⟨w0, h1, h2, h3.trans hb⟩
theorem WorldAt.below (h : WorldAt w lim g B C R A N) (hb : Below w.heap.size w w') : WorldAt w' lim g B C R A N := h.keep (hb.mono h.le)
theorem WorldAt.but {x y : Nat} (h : WorldAt w lim g B C R A N) (hb : But x y w w') (h1 : lim ≤ x) (h2 : lim ≤ y) : WorldAt w' lim g B C R A N := h.keep (hb.toBelow h.le h1 h2)
theorem WorldAt.start (h : Stat w g B C R A N) : WorldAt w w.heap.size g B C R A N := ⟨w, rfl, h, Below.refl _ _⟩
end

/-- What is so of the numbers of a call of check's functions. -/
structure Dims (B : List Bool) (C : List LIns) (s slots : Nat) (A : List LPlace) (N : List Int) : Prop where
  b1 : 1 ≤ B.length
  b12 : B.length ≤ 12
  c1 : 1 ≤ C.length
  c40 : C.length ≤ 40
  s4 : 4 ≤ s
  s16 : s ≤ 16
  s2 : s % 2 = 0
  l12 : slots ≤ 12
  a36 : A.length ≤ 36
  all : ∀ p, p ∈ A ↔ isB s slots p = true
  n1 : 1 ≤ N.length
  n41 : N.length ≤ 41
  inc : N.Pairwise (· < ·)
  num : NumsOf C N

theorem Dims.wf {B : List Bool} {C : List LIns} {s slots : Nat} {A : List LPlace} {N : List Int} (h : Dims B C s slots A N) {p : LPlace} (hp : isB s slots p = true) : PlWf p := by
  have := h.s16
  have := h.l12
  rcases is_cases hp with ⟨a, b, c⟩ | ⟨a, b, c⟩ | ⟨a, b, c⟩ <;> exact ⟨by omega, by omega, by omega, by omega⟩
/-- The temporaries, as numbers. -/
def tempsL (n : Nat) : List Int := (List.range n).map (fun t : Nat => (t : Int))
theorem tempsL_len (n : Nat) : (tempsL n).length = n := by simp [tempsL]
theorem tempsL_mem {n : Nat} {t : Int} : t ∈ tempsL n ↔ 0 ≤ t ∧ t < n := by
  unfold tempsL
  rw [List.mem_map]
  constructor
  · rintro ⟨k, hk, rfl⟩
    have := List.mem_range.1 hk
    omega
  · rintro ⟨h0, h1⟩
    exact ⟨t.toNat, List.mem_range.2 (by omega), by omega⟩

end Go.Proofs.YtdbjklngnloibaaGreat.form
