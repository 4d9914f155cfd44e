/- Numbers of 64 bits as bits: the operations on them. -/
import Derived.Test.YtdbjklngnloibaaGreatProg
import Derived.WalkKit
import Derived.Test.YtdbjklngnloibaaGreatF08
import Derived.Test.YtdbjklngnloibaaGreatF07

namespace Go.Proofs.YtdbjklngnloibaaGreat.form
open Go.RowKit
set_option linter.unusedVariables false

abbrev Bits := BitVec 64
/-- The number that the bits are. -/
def bn (x : Bits) : Int := (x.toNat : Int)
theorem bits_bd (x : Bits) : 0 ≤ bn x ∧ bn x < 18446744073709551616 := by have := x.isLt; unfold bn; omega
theorem bits_of {a : Int} (h0 : 0 ≤ a) (h1 : a < 18446744073709551616) : ∃ x : Bits, a = bn x := ⟨BitVec.ofNat 64 a.toNat, by unfold bn; rw [BitVec.toNat_ofNat, Nat.mod_eq_of_lt (by omega)]; omega⟩
theorem bits_inj {x y : Bits} (h : bn x = bn y) : x = y := BitVec.eq_of_toNat_eq (by unfold bn at h; omega)
theorem wrapU {x : Int} (h0 : 0 ≤ x) (h1 : x < 18446744073709551616) : IntKind.u64.wrap x = x := by
  simp [IntKind.wrap, IntKind.bits, IntKind.signed]
  omega
theorem ofInt_toNat (a : Bits) : BitVec.ofInt 64 (a.toNat : Int) = a := by
  apply BitVec.eq_of_toNat_eq
  simp
theorem and_is (a b : Bits) : Go.bits .and .u64 (bn a) (bn b) = bn (a &&& b) := by
  have h := bits_bd (a &&& b)
  show IntKind.u64.wrap ((BitVec.ofInt 64 (a.toNat : Int) &&& BitVec.ofInt 64 (b.toNat : Int)).toNat : Int) = _
  rw [ofInt_toNat, ofInt_toNat]
  exact wrapU h.1 h.2
theorem or_is (a b : Bits) : Go.bits .or .u64 (bn a) (bn b) = bn (a ||| b) := by
  have h := bits_bd (a ||| b)
  show IntKind.u64.wrap ((BitVec.ofInt 64 (a.toNat : Int) ||| BitVec.ofInt 64 (b.toNat : Int)).toNat : Int) = _
  rw [ofInt_toNat, ofInt_toNat]
  exact wrapU h.1 h.2
theorem andNot_is (a b : Bits) : Go.bits .andNot .u64 (bn a) (bn b) = bn (a &&& ~~~ b) := by
  have h := bits_bd (a &&& ~~~ b)
  show IntKind.u64.wrap ((BitVec.ofInt 64 (a.toNat : Int) &&& ~~~ BitVec.ofInt 64 (b.toNat : Int)).toNat : Int) = _
  rw [ofInt_toNat, ofInt_toNat]
  exact wrapU h.1 h.2
theorem ne_is (x : Bits) : (bn x != 0) = !(x == 0) := by
  unfold bn
  rw [Bool.eq_iff_iff]
  simp
  constructor
  · intro h e; rw [e] at h; simp at h
  · intro h e; exact h (BitVec.eq_of_toNat_eq (by simpa using e))
theorem xor_is (a b : Bits) : Go.bits .xor .u64 (bn a) (bn b) = bn (a ^^^ b) := by
  have h := bits_bd (a ^^^ b)
  show IntKind.u64.wrap ((BitVec.ofInt 64 (a.toNat : Int) ^^^ BitVec.ofInt 64 (b.toNat : Int)).toNat : Int) = _
  rw [ofInt_toNat, ofInt_toNat]
  exact wrapU h.1 h.2
theorem shlk_is (a : Bits) (k : Nat) : IntKind.u64.wrap (bn a * 2 ^ k) = bn (a <<< k) := by
  have e : bn (a <<< k) = ((a.toNat * 2 ^ k % 18446744073709551616 : Nat) : Int) := by
    unfold bn
    rw [BitVec.toNat_shiftLeft, Nat.shiftLeft_eq]
  rw [e]
  unfold bn
  simp [IntKind.wrap, IntKind.bits, IntKind.signed]
theorem shrk_is (a : Bits) (k : Nat) : bn a / 2 ^ k = bn (a >>> k) := by
  unfold bn
  rw [BitVec.toNat_ushiftRight, Nat.shiftRight_eq_div_pow]
  push_cast
  rfl
theorem and_low (a b : Bits) : bn (a &&& b) ≤ bn b := by
  unfold bn
  rw [BitVec.toNat_and]
  have := Nat.and_le_right (n := a.toNat) (m := b.toNat)
  omega

end Go.Proofs.YtdbjklngnloibaaGreat.form

/- Facts as bits, on plain numbers: of each place which temporaries it has, and which numbers it is; of each temporary which numbers it is. What comes of them by moves and by instructions is what is known. -/
namespace Go.Proofs.YtdbjklngnloibaaGreat.form
open Go.RowKit Go.Proofs.YtdbjklngnloibaaGreat.num
set_option linter.unusedVariables false

def only (k : Nat) : Bits := BitVec.twoPow 64 k
theorem only_bit {k j : Nat} (hk : k < 64) : (only k).getLsbD j = true ↔ j = k := by
  unfold only
  rw [BitVec.getLsbD_twoPow]
  simp [hk, eq_comm]
theorem bits_ne {x : Bits} : ¬ x = 0 ↔ ∃ k, x.getLsbD k = true := by
  constructor
  · intro h
    refine Classical.byContradiction fun hno => h ?_
    apply BitVec.eq_of_getLsbD_eq
    intro i hi
    cases hc : x.getLsbD i with
    | false => simp
    | true => exact absurd ⟨i, hc⟩ hno
  · rintro ⟨k, hk⟩ rfl
    simp at hk
theorem bits_and {x y : Bits} {k : Nat} : (x &&& y).getLsbD k = true ↔ x.getLsbD k = true ∧ y.getLsbD k = true := by simp
theorem bits_or {x y : Bits} {k : Nat} : (x ||| y).getLsbD k = true ↔ x.getLsbD k = true ∨ y.getLsbD k = true := by simp
theorem bits_or_only {x : Bits} {d k : Nat} (hd : d < 64) : (x ||| only d).getLsbD k = true ↔ x.getLsbD k = true ∨ k = d := by rw [bits_or, only_bit hd]
theorem bits_not_only {x : Bits} {d k : Nat} (hd : d < 64) : (x &&& ~~~ only d).getLsbD k = true ↔ x.getLsbD k = true ∧ ¬ k = d := by
  have h := only_bit (k := d) (j := k) hd
  by_cases hk : k < 64
  · rw [BitVec.getLsbD_and, BitVec.getLsbD_not, Bool.and_eq_true]
    simp only [hk, decide_true, Bool.true_and, Bool.not_eq_true', ← h, Bool.not_eq_true]
  · rw [BitVec.getLsbD_of_ge _ _ (Nat.le_of_not_lt hk), BitVec.getLsbD_of_ge _ _ (Nat.le_of_not_lt hk)]
    simp
/-- A number by where it stands. -/
def nAt (N : List Int) (k : Nat) : Int := N.getD k 0

/-- What is known at one point. -/
structure FM where
  has : LPlace → Bits
  is : LPlace → Bits
  tmp : Int → Bits

/-- The facts. -/
def Kof (N : List Int) (m : FM) (f : LFact) : Prop :=
  if f.pl.kind = 0 then f.pl.n = 0 ∧ f.temp = true ∧ ∃ k, k < N.length ∧ nAt N k = f.n ∧ (m.tmp f.t).getLsbD k = true
  else if f.temp = true then f.n = 0 ∧ 0 ≤ f.t ∧ (m.has f.pl).getLsbD f.t.toNat = true
  else f.t = 0 ∧ ∃ k, k < N.length ∧ nAt N k = f.n ∧ (m.is f.pl).getLsbD k = true

/-- Only facts that may be. -/
structure FmOk (B : List Bool) (s slots : Int) (N : List Int) (m : FM) : Prop where
  has : ∀ p t, (m.has p).getLsbD t = true → isB s slots p = true ∧ t < B.length ∧ (p.kind = 1 → B.getD t false = false) ∧ (p.kind = 2 → B.getD t false = true)
  is : ∀ p k, (m.is p).getLsbD k = true → isB s slots p = true ∧ k < N.length ∧ ¬ p.kind = 2
  tmp : ∀ t k, (m.tmp t).getLsbD k = true → 0 ≤ t ∧ t < B.length ∧ B.getD t.toNat false = false ∧ k < N.length

/-- N has the numbers of the program. -/
def NumsOf (C : List LIns) (N : List Int) : Prop := ∀ x, (∃ k, k < N.length ∧ nAt N k = x) ↔ NumP C x

theorem Kof.ok {B : List Bool} {s slots : Int} {C : List LIns} {N : List Int} {m : FM} (hm : FmOk B s slots N m) (hN : NumsOf C N) {f : LFact} (h : Kof N m f) : FactOk B s slots (NumP C) f := by
  unfold Kof at h
  by_cases h0 : f.pl.kind = 0
  · rw [if_pos h0] at h
    obtain ⟨h1, h2, k, hk, hn, hb⟩ := h
    obtain ⟨t0, t1, tn, -⟩ := hm.tmp _ _ hb
    exact ⟨Or.inl ⟨h0, h1, h2⟩, fun _ => ⟨t0, t1⟩, fun _ _ => tn, fun _ h => by omega, fun _ => (hN _).1 ⟨k, hk, hn⟩, fun h => absurd h0 h, fun h => (by rw [h2] at h; cases h), fun h => (by rw [h2] at h; cases h)⟩
  rw [if_neg h0] at h
  by_cases ht : f.temp = true
  · rw [if_pos ht] at h
    obtain ⟨h1, h2, hb⟩ := h
    obtain ⟨p1, p2, p3, p4⟩ := hm.has _ _ hb
    exact ⟨Or.inr p1, fun _ => ⟨h2, by omega⟩, fun _ h => (by rcases h with h | h; exact absurd h h0; exact p3 h), fun _ h => p4 h, fun h => (by rcases h with h | h; exact absurd h h0; rw [ht] at h; cases h), fun _ _ => h1, fun h => (by rw [ht] at h; cases h), fun h => (by rw [ht] at h; cases h)⟩
  · rw [if_neg ht] at h
    obtain ⟨h1, k, hk, hn, hb⟩ := h
    obtain ⟨p1, p2, p3⟩ := hm.is _ _ hb
    exact ⟨Or.inr p1, fun h => absurd h ht, fun h => absurd h ht, fun h => absurd h ht, fun _ => (hN _).1 ⟨k, hk, hn⟩, fun _ h => absurd h ht, fun _ => h1, fun _ => p3⟩

def updP (g : LPlace → Bits) (q : LPlace) (x : Bits) : LPlace → Bits := fun p => if samePl p q = true then x else g p
def keepP (g : LPlace → Bits) (q : LPlace) : LPlace → Bits := fun p => if overB p q = true then 0 else g p
def updT (g : Int → Bits) (t : Int) (x : Bits) : Int → Bits := fun u => if u = t then x else g u

theorem samePl_refl (p : LPlace) : samePl p p = true := by simp [samePl]
theorem overB_refl (p : LPlace) : overB p p = true := by unfold overB; simp
theorem same_over {p q : LPlace} (h : samePl p q = true) : overB p q = true := by rw [samePl_eq h]; exact overB_refl q

/-- Behind a move. -/
def moveF (m : FM) (d : LPlace) (gh gi : Bits) : FM := ⟨updP (keepP m.has d) d gh, updP (keepP m.is d) d gi, m.tmp⟩

/-- What To has, and is, behind a move. -/
structure GotM (B : List Bool) (N : List Int) (m : FM) (v : LMove) (gh gi : Bits) : Prop where
  h : ∀ t, gh.getLsbD t = true ↔ if v.cst = true then (t < B.length ∧ ∃ k, k < N.length ∧ nAt N k = v.n ∧ (m.tmp t).getLsbD k = true) else ((m.has v.src).getLsbD t = true ∧ t < B.length ∧ (v.dst.kind = 3 ∨ B.getD t false = decide (v.dst.kind = 2)))
  i : ∀ k, gi.getLsbD k = true ↔ if v.cst = true then (k < N.length ∧ nAt N k = v.n) else ((m.is v.src).getLsbD k = true ∧ k < N.length ∧ ¬ v.dst.kind = 2)

theorem moveF_ok {B : List Bool} {s slots : Int} {N : List Int} {m : FM} {v : LMove} {gh gi : Bits} (hm : FmOk B s slots N m) (hv : moveB s slots v = true) (hg : GotM B N m v gh gi) : FmOk B s slots N (moveF m v.dst gh gi) := by
  unfold moveB at hv
  simp only [Bool.and_eq_true] at hv
  obtain ⟨hd, hv⟩ := hv
  refine ⟨fun p t h => ?_, fun p k h => ?_, hm.tmp⟩
  · simp only [moveF, updP, keepP] at h
    by_cases e : samePl p v.dst = true
    · rw [if_pos e] at h
      obtain rfl := samePl_eq e
      have h := (hg.h t).1 h
      by_cases hc : v.cst = true
      · rw [if_pos hc] at h
        rw [if_pos hc] at hv
        simp at hv
        obtain ⟨h1, k, hk, hn, hb⟩ := h
        obtain ⟨t0, t1, tn, -⟩ := hm.tmp _ _ hb
        simp at tn
        exact ⟨hd, h1, fun _ => by simpa using tn, fun h2 => by omega⟩
      · rw [if_neg hc] at h
        obtain ⟨h1, h2, h3⟩ := h
        refine ⟨hd, h2, fun h4 => ?_, fun h4 => ?_⟩
        · rcases h3 with h3 | h3
          · omega
          · rw [h3]; simp [h4]
        · rcases h3 with h3 | h3
          · omega
          · rw [h3]; simp [h4]
    · rw [if_neg e] at h
      split at h
      · simp at h
      · exact hm.has p t h
  · simp only [moveF, updP, keepP] at h
    by_cases e : samePl p v.dst = true
    · rw [if_pos e] at h
      obtain rfl := samePl_eq e
      have h := (hg.i k).1 h
      by_cases hc : v.cst = true
      · rw [if_pos hc] at h
        rw [if_pos hc] at hv
        simp at hv
        exact ⟨hd, h.1, by omega⟩
      · rw [if_neg hc] at h
        exact ⟨hd, h.2.1, h.2.2⟩
    · rw [if_neg e] at h
      split at h
      · simp at h
      · exact hm.is p k h

theorem moveF_is {B : List Bool} {s slots : Int} {C : List LIns} {N : List Int} {m : FM} {v : LMove} {gh gi : Bits} (hm : FmOk B s slots N m) (hN : NumsOf C N) (hv : moveB s slots v = true) (hg : GotM B N m v gh gi) (f : LFact) :
    Kof N (moveF m v.dst gh gi) f ↔ moveK (FactOk B s slots (NumP C)) v (Kof N m) f := by
  have hok' := moveF_ok hm hv hg
  have key : ∀ (hok : FactOk B s slots (NumP C) f), (Kof N (moveF m v.dst gh gi) f ↔ (if f.pl.kind = 0 ∨ overB f.pl v.dst = false then Kof N m f
    else samePl f.pl v.dst = true ∧ (if v.cst = false then Kof N m ⟨v.src, f.temp, f.t, f.n⟩ else if f.temp = true then Kof N m (zeroAt f.t v.n) else f.n = v.n))) := by
    intro hok
    unfold moveB at hv
    simp only [Bool.and_eq_true] at hv
    obtain ⟨hd, hv⟩ := hv
    by_cases h0 : f.pl.kind = 0
    · rw [if_pos (Or.inl h0)]
      unfold Kof
      rw [if_pos h0, if_pos h0]
      exact Iff.rfl
    by_cases ho : overB f.pl v.dst = false
    · rw [if_pos (Or.inr ho)]
      have hs : ¬ samePl f.pl v.dst = true := fun h => by rw [same_over h] at ho; cases ho
      have ho' : ¬ overB f.pl v.dst = true := by rw [ho]; simp
      unfold Kof
      rw [if_neg h0, if_neg h0]
      simp only [moveF, updP, keepP, if_neg hs, if_neg ho']
    rw [if_neg (by rintro (h | h); exact h0 h; exact ho h)]
    have ho' : overB f.pl v.dst = true := by simpa using ho
    by_cases hs : samePl f.pl v.dst = true
    case neg =>
      unfold Kof
      rw [if_neg h0]
      simp only [moveF, updP, keepP, if_neg hs, if_pos ho']
      simp [hs]
    have hp := samePl_eq hs
    have hk : v.dst.kind = f.pl.kind := by rw [hp]
    have hsk : v.cst = false → ¬ v.src.kind = 0 := fun hc => by
      rw [if_neg (by simp [hc])] at hv
      simp only [Bool.and_eq_true] at hv
      exact is_kind hv.1.2
    have hdk : v.cst = true → v.dst.kind = 1 := fun hc => by
      rw [if_pos hc] at hv
      simp at hv
      exact hv.2
    simp only [hs, true_and]
    conv => lhs; unfold Kof
    rw [if_neg h0]
    simp only [moveF, updP, if_pos hs]
    by_cases ht : f.temp = true
    · rw [if_pos ht, hg.h]
      obtain ⟨t0, t1⟩ := hok.t ht
      have hn0 := hok.zn h0 ht
      by_cases hc : v.cst = true
      · rw [if_pos hc, if_neg (by simp [hc]), if_pos ht]
        unfold Kof zeroAt
        rw [if_pos (show LPlace.zero.kind = 0 from rfl)]
        have e : ((f.t.toNat : Nat) : Int) = f.t := by omega
        rw [e]
        constructor
        · rintro ⟨_, _, _, h⟩
          exact ⟨rfl, rfl, h⟩
        · rintro ⟨_, _, h⟩
          exact ⟨hn0, t0, by omega, h⟩
      · have hc' : v.cst = false := by simpa using hc
        rw [if_neg hc, if_pos hc']
        unfold Kof
        simp only []
        rw [if_neg (hsk hc'), if_pos ht]
        constructor
        · rintro ⟨h1, h2, h3, _⟩
          exact ⟨h1, h2, h3⟩
        · rintro ⟨h1, h2, h3⟩
          refine ⟨h1, h2, h3, by omega, ?_⟩
          rcases hok.pl with hz | hz
          · exact absurd hz.1 h0
          rcases is_cases hz with ⟨e, _⟩ | ⟨e, _⟩ | ⟨e, _⟩
          · refine Or.inr ?_
            rw [hok.nar ht (Or.inr e), hk, e]
            simp
          · refine Or.inr ?_
            rw [hok.wid ht e, hk, e]
            simp
          · exact Or.inl (by rw [hk, e])
    · have htf : f.temp = false := by simpa using ht
      rw [if_neg ht]
      have hnum := hok.num (Or.inr htf)
      have hdb := hok.dbl htf
      have hzt := hok.zt htf
      by_cases hc : v.cst = true
      · rw [if_neg (by simp [hc]), if_neg ht]
        constructor
        · rintro ⟨_, k, hk, hn, hb⟩
          have := (hg.i k).1 hb
          rw [if_pos hc] at this
          rw [← hn, this.2]
        · intro h
          obtain ⟨k, hk, hn⟩ := (hN _).2 hnum
          refine ⟨hzt, k, hk, hn, (hg.i k).2 ?_⟩
          rw [if_pos hc]
          exact ⟨hk, by rw [hn, h]⟩
      · have hc' : v.cst = false := by simpa using hc
        rw [if_pos hc']
        unfold Kof
        simp only []
        rw [if_neg (hsk hc'), if_neg ht]
        constructor
        · rintro ⟨h1, k, hk, hn, hb⟩
          have := (hg.i k).1 hb
          rw [if_neg hc] at this
          exact ⟨h1, k, hk, hn, this.1⟩
        · rintro ⟨h1, k, hk2, hn, hb⟩
          refine ⟨h1, k, hk2, hn, (hg.i k).2 ?_⟩
          rw [if_neg hc]
          exact ⟨hb, hk2, by rw [hk]; exact hdb⟩
  constructor
  · intro h
    have hok := Kof.ok hok' hN h
    exact ⟨hok, (key hok).1 h⟩
  · rintro ⟨hok, h⟩
    exact (key hok).2 h

/-- Behind an instruction that gives. -/
def giveF (s slots : Int) (m : FM) (d : Nat) (L : LPlace) (gh gi : Bits) (sm : LPlace → Bool) : FM :=
  ⟨updP (fun p => if isB s slots p = true then (if sm p = true then keepP m.has L p ||| only d else keepP m.has L p &&& ~~~ only d) else keepP m.has L p) L (gh ||| only d), updP (keepP m.is L) L gi, updT m.tmp d gi⟩

/-- What is given, and where the same is. -/
structure GotI (s slots : Int) (N : List Int) (m : FM) (i : LIns) (L : LPlace) (gh gi : Bits) (sm : LPlace → Bool) : Prop where
  hb : ∀ t : Nat, gh.getLsbD t = true ↔ i.op = 2 ∧ (t : Int) = i.a
  ib : ∀ k, gi.getLsbD k = true ↔ (i.op = 1 ∧ k < N.length ∧ nAt N k = i.n) ∨ (i.op = 2 ∧ (m.tmp i.a).getLsbD k = true)
  sb : ∀ p, isB s slots p = true → (sm p = true ↔ (i.op = 1 ∧ ∃ k, k < N.length ∧ nAt N k = i.n ∧ (keepP m.is L p).getLsbD k = true) ∨ (i.op = 2 ∧ (keepP m.has L p).getLsbD i.a.toNat = true))

/-- What an instruction that gives must be like. -/
structure GiveOk (B : List Bool) (s slots : Int) (i : LIns) (L : LPlace) : Prop where
  d0 : 0 ≤ i.dest
  d1 : i.dest < B.length
  is : isB s slots L = true
  nar : B.getD i.dest.toNat false = false → L.kind = 1
  wid : B.getD i.dest.toNat false = true → L.kind = 2
  one : i.op = 1 → B.getD i.dest.toNat false = false
  a0 : i.op = 2 → 0 ≤ i.a
  a1 : i.op = 2 → i.a < B.length
  aw : i.op = 2 → B.getD i.a.toNat false = B.getD i.dest.toNat false

theorem keep_bit {g : LPlace → Bits} {p q : LPlace} {k : Nat} : (keepP g q p).getLsbD k = true ↔ overB p q = false ∧ (g p).getLsbD k = true := by
  unfold keepP
  split
  · rename_i h; simp [h]
  · rename_i h; simp at h; simp [h]

theorem giveF_ok {B : List Bool} {s slots : Int} {N : List Int} {m : FM} {i : LIns} {L : LPlace} {gh gi : Bits} {sm : LPlace → Bool} (hB : B.length ≤ 12) (hm : FmOk B s slots N m) (hi : GiveOk B s slots i L) (hg : GotI s slots N m i L gh gi sm) :
    FmOk B s slots N (giveF s slots m i.dest.toNat L gh gi sm) := by
  have d0 := hi.d0
  have d1 := hi.d1
  have hd64 : i.dest.toNat < 64 := by omega
  have hLn : L.kind = 1 → B.getD i.dest.toNat false = false := fun h => by
    cases hc : B.getD i.dest.toNat false with
    | false => rfl
    | true => have := hi.wid hc; omega
  have hLw : L.kind = 2 → B.getD i.dest.toNat false = true := fun h => by
    cases hc : B.getD i.dest.toNat false with
    | true => rfl
    | false => have := hi.nar hc; omega
  refine ⟨fun p t h => ?_, fun p k h => ?_, fun t k h => ?_⟩
  · simp only [giveF, updP] at h
    by_cases e : samePl p L = true
    · rw [if_pos e, bits_or_only hd64] at h
      obtain rfl := samePl_eq e
      rcases h with h | h
      · obtain ⟨h1, h2⟩ := (hg.hb t).1 h
        have a0 := hi.a0 h1
        have a1 := hi.a1 h1
        have aw := hi.aw h1
        have e2 : i.a.toNat = t := by omega
        rw [e2] at aw
        exact ⟨hi.is, by omega, fun h3 => by rw [aw]; exact hLn h3, fun h3 => by rw [aw]; exact hLw h3⟩
      · subst h
        exact ⟨hi.is, by omega, hLn, hLw⟩
    · rw [if_neg e] at h
      by_cases hp : isB s slots p = true
      case neg => rw [if_neg hp, keep_bit] at h; exact hm.has p t h.2
      rw [if_pos hp] at h
      by_cases hs : sm p = true
      case neg => rw [if_neg hs, bits_not_only hd64, keep_bit] at h; exact hm.has p t h.1.2
      rw [if_pos hs, bits_or_only hd64, keep_bit] at h
      rcases h with h | h
      · exact hm.has p t h.2
      subst h
      refine ⟨hp, by omega, ?_⟩
      rcases (hg.sb p hp).1 hs with ⟨h1, k, hk, hn, hb⟩ | ⟨h1, hb⟩
      · rw [keep_bit] at hb
        obtain ⟨_, _, h3⟩ := hm.is p k hb.2
        exact ⟨fun _ => hi.one h1, fun h => absurd h h3⟩
      · rw [keep_bit] at hb
        obtain ⟨_, _, h3, h4⟩ := hm.has p _ hb.2
        have aw := hi.aw h1
        exact ⟨fun h => by rw [← aw]; exact h3 h, fun h => by rw [← aw]; exact h4 h⟩
  · simp only [giveF, updP] at h
    by_cases e : samePl p L = true
    · rw [if_pos e] at h
      obtain rfl := samePl_eq e
      rcases (hg.ib k).1 h with ⟨h1, h2, h3⟩ | ⟨h1, h2⟩
      · exact ⟨hi.is, h2, by have := hi.nar (hi.one h1); omega⟩
      · obtain ⟨_, _, h3, h4⟩ := hm.tmp _ _ h2
        exact ⟨hi.is, h4, by have := hi.nar (by rw [← hi.aw h1]; exact h3); omega⟩
    · rw [if_neg e, keep_bit] at h
      exact hm.is p k h.2
  · simp only [giveF, updT] at h
    by_cases e : t = i.dest.toNat
    · rw [if_pos e] at h
      have e2 : t.toNat = i.dest.toNat := by omega
      rcases (hg.ib k).1 h with ⟨h1, h2, h3⟩ | ⟨h1, h2⟩
      · exact ⟨by omega, by omega, by rw [e2]; exact hi.one h1, h2⟩
      · obtain ⟨_, _, h3, h4⟩ := hm.tmp _ _ h2
        exact ⟨by omega, by omega, by rw [e2, ← hi.aw h1]; exact h3, h4⟩
    · rw [if_neg e] at h
      exact hm.tmp t k h

theorem giveF_is {B : List Bool} {s slots : Int} {C : List LIns} {N : List Int} {m : FM} {i : LIns} {L : LPlace} {gh gi : Bits} {sm : LPlace → Bool} (hB : B.length ≤ 12) (hm : FmOk B s slots N m) (hN : NumsOf C N) (hi : GiveOk B s slots i L) (hg : GotI s slots N m i L gh gi sm) (f : LFact) :
    Kof N (giveF s slots m i.dest.toNat L gh gi sm) f ↔ insK (FactOk B s slots (NumP C)) i L (Kof N m) f := by
  have hok' := giveF_ok hB hm hi hg
  have d0 := hi.d0
  have d1 := hi.d1
  have hd64 : i.dest.toNat < 64 := by omega
  have hLk := is_kind hi.is
  have key : FactOk B s slots (NumP C) f → (Kof N (giveF s slots m i.dest.toNat L gh gi sm) f ↔ 
  (if i.op = 2 ∧ samePl f.pl L = true ∧ f.temp = true ∧ f.t = i.a then True
   else if i.op = 2 ∧ samePl f.pl L = true ∧ f.temp = false then Kof N m (zeroAt i.a f.n)
   else if i.op = 2 ∧ (f.temp = true ∧ f.t = i.dest) ∧ (f.pl.kind = 0 ∨ overB f.pl L = false) then Kof N m ⟨f.pl, f.temp, i.a, f.n⟩
   else if i.op = 1 ∧ (f.temp = true ∧ f.t = i.dest) ∧ ¬ f.pl.kind = 0 ∧ overB f.pl L = false then Kof N m ⟨f.pl, false, 0, i.n⟩
   else if i.op = 1 ∧ (((f.temp = true ∧ f.t = i.dest) ∧ f.pl.kind = 0) ∨ (samePl f.pl L = true ∧ f.temp = false)) then f.n = i.n
   else if samePl f.pl L = true ∧ (f.temp = true ∧ f.t = i.dest) ∧ ¬ f.pl.kind = 0 then True
   else Kof N m f ∧ ¬ (f.temp = true ∧ f.t = i.dest) ∧ (f.pl.kind = 0 ∨ overB f.pl L = false))) := by
    intro hok
    have e12 : i.op = 1 → ¬ i.op = 2 := fun h => by rw [h]; decide
    have hop3 : (i.op = 1) ∨ (i.op = 2) ∨ (¬ i.op = 1 ∧ ¬ i.op = 2) := by
      by_cases h1 : i.op = 1
      · exact Or.inl h1
      by_cases h2 : i.op = 2
      · exact Or.inr (Or.inl h2)
      exact Or.inr (Or.inr ⟨h1, h2⟩)
    by_cases h0 : f.pl.kind = 0
    · obtain ⟨_, hn0, ht⟩ : f.pl.kind = 0 ∧ f.pl.n = 0 ∧ f.temp = true := by rcases hok.pl with h | h; exact h; exact absurd h0 (is_kind h)
      have hs : samePl f.pl L = false := by
        cases hc : samePl f.pl L with
        | false => rfl
        | true => rw [samePl_eq hc] at h0; exact absurd h0 hLk
      obtain ⟨t0, t1⟩ := hok.t ht
      have hnum := hok.num (Or.inl h0)
      have lhs : Kof N (giveF s slots m i.dest.toNat L gh gi sm) f ↔ ∃ k, k < N.length ∧ nAt N k = f.n ∧ (updT m.tmp i.dest.toNat gi f.t).getLsbD k = true := by
        unfold Kof
        rw [if_pos h0]
        exact ⟨fun h => h.2.2, fun h => ⟨hn0, ht, h⟩⟩
      have mf : Kof N m f ↔ ∃ k, k < N.length ∧ nAt N k = f.n ∧ (m.tmp f.t).getLsbD k = true := by
        unfold Kof
        rw [if_pos h0]
        exact ⟨fun h => h.2.2, fun h => ⟨hn0, ht, h⟩⟩
      rw [lhs]
      unfold updT
      by_cases hd : f.t = i.dest
      · have e : f.t = ((i.dest.toNat : Nat) : Int) := hd.trans (Int.toNat_of_nonneg d0).symm
        rw [if_pos e]
        simp only [hg.ib]
        rcases hop3 with h1 | h2 | ⟨h1, h2⟩
        · have := e12 h1
          simp only [h1, hs, ht, hd, h0]
          simp
          constructor
          · rintro ⟨k, hk, hn, _, hn2⟩; rw [← hn, hn2]
          · intro h
            obtain ⟨k, hk, hn⟩ := (hN _).2 hnum
            exact ⟨k, hk, hn, hk, by rw [hn, h]⟩
        · simp only [h2, hs, ht, hd, h0]
          simp
          unfold Kof
          simp [h0, hn0]
        · simp [h1, h2, hs, ht, hd, h0]
      · have e : ¬ f.t = ((i.dest.toNat : Nat) : Int) := fun h => hd (h.trans (Int.toNat_of_nonneg d0))
        rw [if_neg e, ← mf]
        simp [hs, ht, hd, h0]
    have hp : isB s slots f.pl = true := by rcases hok.pl with h | h; exact absurd h.1 h0; exact h
    by_cases hs : samePl f.pl L = true
    · have ho := same_over hs
      by_cases ht : f.temp = true
      · obtain ⟨t0, t1⟩ := hok.t ht
        have hn0 := hok.zn h0 ht
        have lhs : Kof N (giveF s slots m i.dest.toNat L gh gi sm) f ↔ (i.op = 2 ∧ f.t = i.a) ∨ f.t = i.dest := by
          unfold Kof
          rw [if_neg h0, if_pos ht]
          simp only [giveF, updP, if_pos hs, bits_or_only hd64, hg.hb]
          have e : ((f.t.toNat : Nat) : Int) = f.t := by omega
          rw [e]
          constructor
          · rintro ⟨_, _, h | h⟩
            · exact Or.inl h
            · exact Or.inr (by omega)
          · rintro (h | h)
            · exact ⟨hn0, t0, Or.inl h⟩
            · exact ⟨hn0, t0, Or.inr (by omega)⟩
        rw [lhs]
        by_cases ha : i.op = 2 ∧ f.t = i.a
        · simp [ha, hs, ht]
        · by_cases hd : f.t = i.dest
          · rw [if_neg (by rintro ⟨x, _, _, y⟩; exact ha ⟨x, y⟩)]
            simp [hs, ht, ho, hd, h0]
          · rw [if_neg (by rintro ⟨x, _, _, y⟩; exact ha ⟨x, y⟩)]
            simp only [ha, hd]
            simp [hs, ht, ho, h0]
      · have htf : f.temp = false := by simpa using ht
        have hnum := hok.num (Or.inr htf)
        have hzt := hok.zt htf
        have lhs : Kof N (giveF s slots m i.dest.toNat L gh gi sm) f ↔ ∃ k, k < N.length ∧ nAt N k = f.n ∧ gi.getLsbD k = true := by
          unfold Kof
          rw [if_neg h0, if_neg ht]
          simp only [giveF, updP, if_pos hs]
          exact ⟨fun h => h.2, fun h => ⟨hzt, h⟩⟩
        rw [lhs]
        simp only [hg.ib]
        rcases hop3 with h1 | h2 | ⟨h1, h2⟩
        · simp [h1, hs, htf]
          constructor
          · rintro ⟨k, hk, hn, _, hn2⟩; rw [← hn, hn2]
          · intro h
            obtain ⟨k, hk, hn⟩ := (hN _).2 hnum
            exact ⟨k, hk, hn, hk, by rw [hn, h]⟩
        · simp [h2, hs, htf]
          unfold Kof zeroAt
          simp [LPlace.zero]
        · simp [h1, h2, hs, htf, ho, h0]
    have hsf : samePl f.pl L = false := by simpa using hs
    cases ho : overB f.pl L with
    | true =>
      have hsm : sm f.pl = false := by
        cases hc : sm f.pl with
        | false => rfl
        | true =>
          rcases (hg.sb _ hp).1 hc with ⟨_, k, _, _, hb⟩ | ⟨_, hb⟩
          · rw [keep_bit, ho] at hb; exact absurd hb.1 (by simp)
          · rw [keep_bit, ho] at hb; exact absurd hb.1 (by simp)
      have lhs : ¬ Kof N (giveF s slots m i.dest.toNat L gh gi sm) f := by
        unfold Kof
        rw [if_neg h0]
        simp only [giveF, updP, if_neg hs, if_pos hp, hsm]
        split
        · rintro ⟨_, _, h⟩
          simp [keepP, ho] at h
        · rintro ⟨_, k, _, _, h⟩
          simp [keepP, ho] at h
      simp [lhs, hsf, h0]
    | false =>
      have hkp : ∀ g : LPlace → Bits, keepP g L f.pl = g f.pl := fun g => by unfold keepP; rw [if_neg (by rw [ho]; simp)]
      by_cases ht : f.temp = true
      · obtain ⟨t0, t1⟩ := hok.t ht
        have hn0 := hok.zn h0 ht
        have hsm := hg.sb _ hp
        rw [hkp, hkp] at hsm
        by_cases hd : f.t = i.dest
        · have lhs : Kof N (giveF s slots m i.dest.toNat L gh gi sm) f ↔ sm f.pl = true := by
            unfold Kof
            rw [if_neg h0, if_pos ht]
            simp only [giveF, updP, if_neg hs, if_pos hp]
            have e : f.t.toNat = i.dest.toNat := by rw [hd]
            rw [e]
            constructor
            · rintro ⟨_, _, h⟩
              cases hc : sm f.pl with
              | true => rfl
              | false => rw [hc, if_neg (by simp), bits_not_only hd64] at h; exact absurd rfl h.2
            · intro h
              rw [if_pos h, bits_or_only hd64]
              exact ⟨hn0, t0, Or.inr rfl⟩
          rw [lhs, hsm]
          rcases hop3 with h1 | h2 | ⟨h1, h2⟩
          · simp [h1, hsf, ht, hd, h0]
            unfold Kof
            simp [h0]
          · have a0 := hi.a0 h2
            simp [h2, hsf, ht, hd, h0]
            unfold Kof
            simp [h0, hn0, a0]
          · simp [h1, h2, hsf, ht, hd, h0]
        · have lhs : Kof N (giveF s slots m i.dest.toNat L gh gi sm) f ↔ Kof N m f := by
            unfold Kof
            rw [if_neg h0, if_neg h0, if_pos ht, if_pos ht]
            simp only [giveF, updP, if_neg hs, if_pos hp, hkp]
            have e : ¬ f.t.toNat = i.dest.toNat := fun h => hd (by rw [← Int.toNat_of_nonneg t0, h, Int.toNat_of_nonneg d0])
            split
            · rw [bits_or_only hd64]; simp [e]
            · rw [bits_not_only hd64]; simp [e]
          rw [lhs]
          simp [hsf, ht, hd, h0]
      · have htf : f.temp = false := by simpa using ht
        have lhs : Kof N (giveF s slots m i.dest.toNat L gh gi sm) f ↔ Kof N m f := by
          unfold Kof
          rw [if_neg h0, if_neg h0, if_neg ht, if_neg ht]
          simp only [giveF, updP, if_neg hs, hkp]
        rw [lhs]
        simp [hsf, htf, h0]
  constructor
  · intro h
    have hok := Kof.ok hok' hN h
    exact ⟨hok, (key hok).1 h⟩
  · rintro ⟨hok, h⟩
    exact (key hok).2 h

/-- What both have. -/
def meetF (m n : FM) : FM := ⟨fun p => m.has p &&& n.has p, fun p => m.is p &&& n.is p, fun t => m.tmp t &&& n.tmp t⟩

theorem getD_inj {N : List Int} (hs : N.Pairwise (· < ·)) {j k : Nat} (hj : j < N.length) (hk : k < N.length) (h : nAt N j = nAt N k) : j = k := by
  rw [List.pairwise_iff_getElem] at hs
  simp only [nAt, List.getD, List.getElem?_eq_getElem hj, List.getElem?_eq_getElem hk, Option.getD_some] at h
  rcases Nat.lt_trichotomy j k with h1 | h1 | h1
  · have := hs j k hj hk h1; omega
  · exact h1
  · have := hs k j hk hj h1; omega

theorem meetF_is {N : List Int} (hs : N.Pairwise (· < ·)) (m n : FM) (f : LFact) : Kof N (meetF m n) f ↔ Kof N m f ∧ Kof N n f := by
  have two : ∀ x y : Bits, (∃ k, k < N.length ∧ nAt N k = f.n ∧ (x &&& y).getLsbD k = true) ↔ ((∃ k, k < N.length ∧ nAt N k = f.n ∧ x.getLsbD k = true) ∧ (∃ k, k < N.length ∧ nAt N k = f.n ∧ y.getLsbD k = true)) := fun x y => by
    constructor
    · rintro ⟨k, hk, hn, hb⟩
      rw [bits_and] at hb
      exact ⟨⟨k, hk, hn, hb.1⟩, ⟨k, hk, hn, hb.2⟩⟩
    · rintro ⟨⟨k, hk, hn, hb⟩, ⟨j, hj, hn2, hb2⟩⟩
      obtain rfl := getD_inj hs hk hj (by rw [hn, hn2])
      exact ⟨k, hk, hn, bits_and.2 ⟨hb, hb2⟩⟩
  unfold Kof
  simp only [meetF]
  split
  · rw [two]
    exact ⟨fun h => ⟨⟨h.1, h.2.1, h.2.2.1⟩, ⟨h.1, h.2.1, h.2.2.2⟩⟩, fun h => ⟨h.1.1, h.1.2.1, h.1.2.2, h.2.2.2⟩⟩
  · split
    · rw [bits_and]
      exact ⟨fun h => ⟨⟨h.1, h.2.1, h.2.2.1⟩, ⟨h.1, h.2.1, h.2.2.2⟩⟩, fun h => ⟨h.1.1, h.1.2.1, h.1.2.2, h.2.2.2⟩⟩
    · rw [two]
      exact ⟨fun h => ⟨⟨h.1, h.2.1⟩, ⟨h.1, h.2.2⟩⟩, fun h => ⟨h.1.1, h.1.2, h.2.2⟩⟩
theorem meetF_ok {B : List Bool} {s slots : Int} {N : List Int} {m n : FM} (hm : FmOk B s slots N m) : FmOk B s slots N (meetF m n) :=
  ⟨fun p t h => hm.has p t (bits_and.1 h).1, fun p k h => hm.is p k (bits_and.1 h).1, fun t k h => hm.tmp t k (bits_and.1 h).1⟩

end Go.Proofs.YtdbjklngnloibaaGreat.form

/- A search along the ways of a program, on plain numbers: what it has come to, and what it has done with. -/
namespace Go.Proofs.YtdbjklngnloibaaGreat.form
open Go.RowKit
set_option linter.unusedVariables false

structure Srch (C : List LIns) (t : Int) (s : Nat) (come : List Bool) (way : List Nat) (k : Nat) : Prop where
  clen : come.length = C.length
  mark : ∀ x, x < C.length → (come.getD x false = true ↔ x ∈ way)
  inb : ∀ x, x ∈ way → x < C.length
  cnt : way.length = come.count true
  st : s ∈ way
  back : ∀ x, x ∈ way → Need C t x → Need C t s
  done : ∀ j, j < k → takesI (C.getD (way.getD j 0) .zero) t = false ∧ (givesT (C.getD (way.getD j 0) .zero) t = true ∨ ∀ y, y ∈ nextsN (C.getD (way.getD j 0) .zero) (way.getD j 0) → y < C.length → y ∈ way)

theorem Srch.len {C : List LIns} {t : Int} {s : Nat} {come : List Bool} {way : List Nat} {k : Nat} (h : Srch C t s come way k) : way.length ≤ C.length := by
  rw [h.cnt, ← h.clen]; exact List.count_le_length

theorem count_mark (l : List Bool) (y : Nat) (hy : y < l.length) (h : l.getD y false = false) : (l.set y true).count true = l.count true + 1 := by
  have e : l[y] = false := by simpa [List.getD, hy] using h
  rw [List.count_set hy]
  simp [e]

theorem getD_append_left {l r : List Nat} {j : Nat} (h : j < l.length) : (l ++ r).getD j 0 = l.getD j 0 := by simp [List.getD, List.getElem?_append_left h]

/-- One more is come to. -/
theorem Srch.push {C : List LIns} {t : Int} {s : Nat} {come : List Bool} {way : List Nat} {k x y : Nat} (h : Srch C t s come way k) (hk : k ≤ way.length) (hx : x ∈ way) (hg : givesT (C.getD x .zero) t = false) (hy : y ∈ nextsN (C.getD x .zero) x) (hyl : y < C.length) (hc : come.getD y false = false) :
    Srch C t s (come.set y true) (way ++ [y]) k := by
  have hyc : y < come.length := by rw [h.clen]; exact hyl
  refine ⟨by simp [h.clen], fun z hz => ?_, fun z hz => ?_, ?_, by simp [h.st], fun z hz hn => ?_, fun j hj => ?_⟩
  · by_cases e : y = z
    · subst e; simp [List.getD, hyc]
    · have e' : ¬ z = y := fun h => e h.symm
      have := h.mark z hz
      have e3 : (come.set y true).getD z false = come.getD z false := by simp [List.getD, e]
      rw [e3, this]
      simp [e']
  · rcases List.mem_append.1 hz with hz | hz
    · exact h.inb z hz
    · simp at hz; omega
  · rw [count_mark _ _ hyc hc, ← h.cnt]; simp
  · rcases List.mem_append.1 hz with hz | hz
    · exact h.back z hz hn
    · simp at hz
      subst hz
      exact h.back x hx ((need_iff C t x).2 ⟨h.inb x hx, Or.inr ⟨hg, _, hy, hn⟩⟩)
  · rw [getD_append_left (by omega)]
    obtain ⟨h1, h2⟩ := h.done j hj
    exact ⟨h1, h2.imp id (fun h3 y hy hyl => List.mem_append.2 (Or.inl (h3 y hy hyl)))⟩

/-- An instruction is done with. -/
theorem Srch.next {C : List LIns} {t : Int} {s : Nat} {come : List Bool} {way : List Nat} {k : Nat} (h : Srch C t s come way k) (ht : takesI (C.getD (way.getD k 0) .zero) t = false)
    (hg : givesT (C.getD (way.getD k 0) .zero) t = true ∨ ∀ y, y ∈ nextsN (C.getD (way.getD k 0) .zero) (way.getD k 0) → y < C.length → y ∈ way) : Srch C t s come way (k + 1) := by
  refine ⟨h.clen, h.mark, h.inb, h.cnt, h.st, h.back, fun j hj => ?_⟩
  by_cases e : j = k
  · subst e; exact ⟨ht, hg⟩
  · exact h.done j (by omega)

/-- It has found none. -/
theorem Srch.none {C : List LIns} {t : Int} {s : Nat} {come : List Bool} {way : List Nat} {k : Nat} (h : Srch C t s come way k) (hk : way.length ≤ k) : ¬ Need C t s := by
  refine need_none C t (fun x => x ∈ way) (fun x hx => ?_) s h.st
  obtain ⟨j, hj, rfl⟩ := List.getElem_of_mem hx
  have := h.done j (by omega)
  rwa [show way.getD j 0 = way[j] by simp [List.getD, hj]] at this

end Go.Proofs.YtdbjklngnloibaaGreat.form

/- Where an instruction goes on (loanbookref2.Nexts). -/
namespace Go.Proofs.YtdbjklngnloibaaGreat.form
open Go.RowKit
set_option linter.unusedVariables false
attribute [local go_sem ↓] Go.wp_at_zero Go.wp_at_succ

/-- A row of numbers in new memory. -/
def IntsAt (lo : Nat) (w : World) (v : Value) (l : List Int) : Prop :=
  ∃ ao cap, v = .slice ao l.length cap ∧ (0 < l.length → ∃ b, ao = some ⟨b, 0, none⟩ ∧ lo ≤ b ∧ b < w.heap.size ∧ ∀ j, j < l.length → w.cell? ⟨b, j, none⟩ = some (.int .i64 (l.getD j 0)))

theorem ints_one {lo : Nat} {w : World} {b : Nat} {x : Int} {cap : Nat} (hlo : lo ≤ b) (h : w.cell? ⟨b, 0, none⟩ = some (.int .i64 x)) : IntsAt lo w (.slice (some ⟨b, 0, none⟩) 1 cap) [x] :=
  ⟨_, _, rfl, fun _ => ⟨b, rfl, hlo, World.block_lt_of_cell? w _ h, fun j hj => by
    obtain rfl : j = 0 := by simp at hj; omega
    simpa using h⟩⟩
theorem ints_two {lo : Nat} {w : World} {b : Nat} {x y : Int} {cap : Nat} (hlo : lo ≤ b) (h : w.cell? ⟨b, 0, none⟩ = some (.int .i64 x)) (g : w.cell? ⟨b, 1, none⟩ = some (.int .i64 y)) : IntsAt lo w (.slice (some ⟨b, 0, none⟩) 2 cap) [x, y] :=
  ⟨_, _, rfl, fun _ => ⟨b, rfl, hlo, World.block_lt_of_cell? w _ h, fun j hj => by
    rcases (show j = 0 ∨ j = 1 by simp at hj; omega) with rfl | rfl
    · simpa using h
    · simpa using g⟩⟩

theorem nexts2 (i : LIns) (pc : Nat) (hpc : pc ≤ 40) (w : World) :
    Calls Tryz.prog 38 #[i.val, .int .i64 pc] w fun e w' => (∃ v, e = .returned v ∧ IntsAt w.heap.size w' v (nextsI i pc)) ∧ Below w.heap.size w w' := by
  unfold LIns.val
  have y1 : (pc : Int) ≤ 40 := by omega
  have y0 : (0 : Int) ≤ (pc : Int) := by omega
  have HB2 : Hid (∀ o1 o2 : Obj, Below w.heap.size w ((w.alloc o1).alloc o2)) := fun o1 o2 => ((Below.refl _ _).alloc (Nat.le_refl _) _).alloc (by simp) _
  go_enter Tryz.func38, Tryz.ntmps38
  go_wp2
  all_goals go_ret
  · refine ⟨⟨.slice (some ⟨w.heap.size + 1, 0, none⟩) 1 1, rfl, ?_⟩, HB2.out _ _⟩
    rw [show nextsI i pc = [i.c] by unfold nextsI; simp_all]
    exact ints_one (by omega) (by simp [go_sem])
  · refine ⟨⟨.slice none 0 0, rfl, ?_⟩, (Below.refl _ _).alloc (Nat.le_refl _) _⟩
    rw [show nextsI i pc = [] by unfold nextsI; simp_all]
    exact ⟨none, 0, rfl, fun hh => absurd hh (by simp)⟩
  · refine ⟨⟨.slice (some ⟨w.heap.size + 1, 0, none⟩) 2 2, rfl, ?_⟩, HB2.out _ _⟩
    rw [show nextsI i pc = [(pc : Int) + 1, i.c] by unfold nextsI; simp_all]
    exact ints_two (by omega) (by simp [go_sem]) (by simp [go_sem])
  · refine ⟨⟨.slice (some ⟨w.heap.size + 1, 0, none⟩) 1 1, rfl, ?_⟩, HB2.out _ _⟩
    rw [show nextsI i pc = [(pc : Int) + 1] by unfold nextsI; simp_all]
    exact ints_one (by omega) (by simp [go_sem])

end Go.Proofs.YtdbjklngnloibaaGreat.form
