/- Numbers of 64 bits as bits: the operations on them. -/
import Derived.Test.YtcmnmogmdhofcabGreatProg
import Derived.WalkKit
import Derived.Maps.RangeWalk
import Derived.Maps.OwnSet
import Derived.DeepKeys4
import Derived.OpenShut
import Derived.BigQuiet
import Derived.Deep.QuietTactic
import Derived.Test.YtcmnmogmdhofcabGreatI11
import Derived.Test.YtcmnmogmdhofcabGreatI01
import Derived.Test.YtcmnmogmdhofcabGreatI04
import Derived.Test.YtcmnmogmdhofcabGreatI09

namespace Go.Proofs.YtcmnmogmdhofcabGreat.form
open Go.RowKit
set_option linter.unusedVariables false

abbrev Bits := BitVec 64
def bn (x : Bits) : Int := (x.toNat : Int)
theorem bits_bd (x : Bits) : 0 ≤ bn x ∧ bn x < 18446744073709551616 := by have := x.isLt; unfold bn; omega
theorem bits_of {a : Int} (h0 : 0 ≤ a) (h1 : a < 18446744073709551616) : ∃ x : Bits, a = bn x := ⟨BitVec.ofNat 64 a.toNat, by unfold bn; rw [BitVec.toNat_ofNat, Nat.mod_eq_of_lt (by omega)]; omega⟩
theorem bits_inj {x y : Bits} (h : bn x = bn y) : x = y := BitVec.eq_of_toNat_eq (by unfold bn at h; omega)
theorem wrapU {x : Int} (h0 : 0 ≤ x) (h1 : x < 18446744073709551616) : IntKind.u64.wrap x = x := by
  simp [IntKind.wrap, IntKind.bits, IntKind.signed]
  omega
theorem ofInt_toNat (a : Bits) : BitVec.ofInt 64 (a.toNat : Int) = a := by
  apply BitVec.eq_of_toNat_eq
  simp
theorem and_is (a b : Bits) : Go.bits .and .u64 (bn a) (bn b) = bn (a &&& b) := by
  have h := bits_bd (a &&& b)
  show IntKind.u64.wrap ((BitVec.ofInt 64 (a.toNat : Int) &&& BitVec.ofInt 64 (b.toNat : Int)).toNat : Int) = _
  rw [ofInt_toNat, ofInt_toNat]
  exact wrapU h.1 h.2
theorem or_is (a b : Bits) : Go.bits .or .u64 (bn a) (bn b) = bn (a ||| b) := by
  have h := bits_bd (a ||| b)
  show IntKind.u64.wrap ((BitVec.ofInt 64 (a.toNat : Int) ||| BitVec.ofInt 64 (b.toNat : Int)).toNat : Int) = _
  rw [ofInt_toNat, ofInt_toNat]
  exact wrapU h.1 h.2
theorem andNot_is (a b : Bits) : Go.bits .andNot .u64 (bn a) (bn b) = bn (a &&& ~~~ b) := by
  have h := bits_bd (a &&& ~~~ b)
  show IntKind.u64.wrap ((BitVec.ofInt 64 (a.toNat : Int) &&& ~~~ BitVec.ofInt 64 (b.toNat : Int)).toNat : Int) = _
  rw [ofInt_toNat, ofInt_toNat]
  exact wrapU h.1 h.2
theorem ne_is (x : Bits) : (bn x != 0) = !(x == 0) := by
  unfold bn
  rw [Bool.eq_iff_iff]
  simp
  constructor
  · intro h e; rw [e] at h; simp at h
  · intro h e; exact h (BitVec.eq_of_toNat_eq (by simpa using e))
theorem xor_is (a b : Bits) : Go.bits .xor .u64 (bn a) (bn b) = bn (a ^^^ b) := by
  have h := bits_bd (a ^^^ b)
  show IntKind.u64.wrap ((BitVec.ofInt 64 (a.toNat : Int) ^^^ BitVec.ofInt 64 (b.toNat : Int)).toNat : Int) = _
  rw [ofInt_toNat, ofInt_toNat]
  exact wrapU h.1 h.2
theorem shlk_is (a : Bits) (k : Nat) : IntKind.u64.wrap (bn a * 2 ^ k) = bn (a <<< k) := by
  have e : bn (a <<< k) = ((a.toNat * 2 ^ k % 18446744073709551616 : Nat) : Int) := by
    unfold bn
    rw [BitVec.toNat_shiftLeft, Nat.shiftLeft_eq]
  rw [e]
  unfold bn
  simp [IntKind.wrap, IntKind.bits, IntKind.signed]
theorem shrk_is (a : Bits) (k : Nat) : bn a / 2 ^ k = bn (a >>> k) := by
  unfold bn
  rw [BitVec.toNat_ushiftRight, Nat.shiftRight_eq_div_pow]
  push_cast
  rfl
theorem and_low (a b : Bits) : bn (a &&& b) ≤ bn b := by
  unfold bn
  rw [BitVec.toNat_and]
  have := Nat.and_le_right (n := a.toNat) (m := b.toNat)
  omega

end Go.Proofs.YtcmnmogmdhofcabGreat.form

/- Facts as bits, on plain numbers: of each place which temporaries it has, and which numbers it is; of each temporary which numbers it is. What comes of them by moves and by instructions is what is known. -/
namespace Go.Proofs.YtcmnmogmdhofcabGreat.form
open Go.RowKit Go.Proofs.YtcmnmogmdhofcabGreat.num
set_option linter.unusedVariables false

def only (k : Nat) : Bits := BitVec.twoPow 64 k
theorem only_bit {k j : Nat} (hk : k < 64) : (only k).getLsbD j = true ↔ j = k := by
  unfold only
  rw [BitVec.getLsbD_twoPow]
  simp [hk, eq_comm]
theorem bits_ne {x : Bits} : ¬ x = 0 ↔ ∃ k, x.getLsbD k = true := by
  constructor
  · intro h
    refine Classical.byContradiction fun hno => h ?_
    apply BitVec.eq_of_getLsbD_eq
    intro i hi
    cases hc : x.getLsbD i with
    | false => simp
    | true => exact absurd ⟨i, hc⟩ hno
  · rintro ⟨k, hk⟩ rfl
    simp at hk
theorem bits_and {x y : Bits} {k : Nat} : (x &&& y).getLsbD k = true ↔ x.getLsbD k = true ∧ y.getLsbD k = true := by simp
theorem bits_or {x y : Bits} {k : Nat} : (x ||| y).getLsbD k = true ↔ x.getLsbD k = true ∨ y.getLsbD k = true := by simp
theorem bits_or_only {x : Bits} {d k : Nat} (hd : d < 64) : (x ||| only d).getLsbD k = true ↔ x.getLsbD k = true ∨ k = d := by rw [bits_or, only_bit hd]
theorem bits_not_only {x : Bits} {d k : Nat} (hd : d < 64) : (x &&& ~~~ only d).getLsbD k = true ↔ x.getLsbD k = true ∧ ¬ k = d := by
  have h := only_bit (k := d) (j := k) hd
  by_cases hk : k < 64
  · rw [BitVec.getLsbD_and, BitVec.getLsbD_not, Bool.and_eq_true]
    simp only [hk, decide_true, Bool.true_and, Bool.not_eq_true', ← h, Bool.not_eq_true]
  · rw [BitVec.getLsbD_of_ge _ _ (Nat.le_of_not_lt hk), BitVec.getLsbD_of_ge _ _ (Nat.le_of_not_lt hk)]
    simp
def nAt (N : List Int) (k : Nat) : Int := N.getD k 0

structure FM where
  has : LPlace → Bits
  is : LPlace → Bits
  tmp : Int → Bits

def Kof (N : List Int) (m : FM) (f : LFact) : Prop :=
  if f.pl.kind = 0 then f.pl.n = 0 ∧ f.temp = true ∧ ∃ k, k < N.length ∧ nAt N k = f.n ∧ (m.tmp f.t).getLsbD k = true
  else if f.temp = true then f.n = 0 ∧ 0 ≤ f.t ∧ (m.has f.pl).getLsbD f.t.toNat = true
  else f.t = 0 ∧ ∃ k, k < N.length ∧ nAt N k = f.n ∧ (m.is f.pl).getLsbD k = true

structure FmOk (B : List Bool) (s slots : Int) (N : List Int) (m : FM) : Prop where
  has : ∀ p t, (m.has p).getLsbD t = true → isB s slots p = true ∧ t < B.length ∧ (p.kind = 1 → B.getD t false = false) ∧ (p.kind = 2 → B.getD t false = true)
  is : ∀ p k, (m.is p).getLsbD k = true → isB s slots p = true ∧ k < N.length ∧ ¬ p.kind = 2
  tmp : ∀ t k, (m.tmp t).getLsbD k = true → 0 ≤ t ∧ t < B.length ∧ B.getD t.toNat false = false ∧ k < N.length

def NumsOf (C : List LIns) (N : List Int) : Prop := ∀ x, (∃ k, k < N.length ∧ nAt N k = x) ↔ NumP C x

theorem Kof.ok {B : List Bool} {s slots : Int} {C : List LIns} {N : List Int} {m : FM} (hm : FmOk B s slots N m) (hN : NumsOf C N) {f : LFact} (h : Kof N m f) : FactOk B s slots (NumP C) f := by
  unfold Kof at h
  by_cases h0 : f.pl.kind = 0
  · rw [if_pos h0] at h
    obtain ⟨h1, h2, k, hk, hn, hb⟩ := h
    obtain ⟨t0, t1, tn, -⟩ := hm.tmp _ _ hb
    exact ⟨Or.inl ⟨h0, h1, h2⟩, fun _ => ⟨t0, t1⟩, fun _ _ => tn, fun _ h => by omega, fun _ => (hN _).1 ⟨k, hk, hn⟩, fun h => absurd h0 h, fun h => (by rw [h2] at h; cases h), fun h => (by rw [h2] at h; cases h)⟩
  rw [if_neg h0] at h
  by_cases ht : f.temp = true
  · rw [if_pos ht] at h
    obtain ⟨h1, h2, hb⟩ := h
    obtain ⟨p1, p2, p3, p4⟩ := hm.has _ _ hb
    exact ⟨Or.inr p1, fun _ => ⟨h2, by omega⟩, fun _ h => (by rcases h with h | h; exact absurd h h0; exact p3 h), fun _ h => p4 h, fun h => (by rcases h with h | h; exact absurd h h0; rw [ht] at h; cases h), fun _ _ => h1, fun h => (by rw [ht] at h; cases h), fun h => (by rw [ht] at h; cases h)⟩
  · rw [if_neg ht] at h
    obtain ⟨h1, k, hk, hn, hb⟩ := h
    obtain ⟨p1, p2, p3⟩ := hm.is _ _ hb
    exact ⟨Or.inr p1, fun h => absurd h ht, fun h => absurd h ht, fun h => absurd h ht, fun _ => (hN _).1 ⟨k, hk, hn⟩, fun _ h => absurd h ht, fun _ => h1, fun _ => p3⟩

def updP (g : LPlace → Bits) (q : LPlace) (x : Bits) : LPlace → Bits := fun p => if samePl p q = true then x else g p
def keepP (g : LPlace → Bits) (q : LPlace) : LPlace → Bits := fun p => if overB p q = true then 0 else g p
def updT (g : Int → Bits) (t : Int) (x : Bits) : Int → Bits := fun u => if u = t then x else g u

theorem samePl_refl (p : LPlace) : samePl p p = true := by simp [samePl]
theorem overB_refl (p : LPlace) : overB p p = true := by unfold overB; simp
theorem same_over {p q : LPlace} (h : samePl p q = true) : overB p q = true := by rw [samePl_eq h]; exact overB_refl q

def moveF (m : FM) (d : LPlace) (gh gi : Bits) : FM := ⟨updP (keepP m.has d) d gh, updP (keepP m.is d) d gi, m.tmp⟩

structure GotM (B : List Bool) (N : List Int) (m : FM) (v : LMove) (gh gi : Bits) : Prop where
  h : ∀ t, gh.getLsbD t = true ↔ if v.cst = true then (t < B.length ∧ ∃ k, k < N.length ∧ nAt N k = v.n ∧ (m.tmp t).getLsbD k = true) else ((m.has v.src).getLsbD t = true ∧ t < B.length ∧ (v.dst.kind = 3 ∨ B.getD t false = decide (v.dst.kind = 2)))
  i : ∀ k, gi.getLsbD k = true ↔ if v.cst = true then (k < N.length ∧ nAt N k = v.n) else ((m.is v.src).getLsbD k = true ∧ k < N.length ∧ ¬ v.dst.kind = 2)

theorem moveF_ok {B : List Bool} {s slots : Int} {N : List Int} {m : FM} {v : LMove} {gh gi : Bits} (hm : FmOk B s slots N m) (hv : moveB s slots v = true) (hg : GotM B N m v gh gi) : FmOk B s slots N (moveF m v.dst gh gi) := by
  unfold moveB at hv
  simp only [Bool.and_eq_true] at hv
  obtain ⟨hd, hv⟩ := hv
  refine ⟨fun p t h => ?_, fun p k h => ?_, hm.tmp⟩
  · simp only [moveF, updP, keepP] at h
    by_cases e : samePl p v.dst = true
    · rw [if_pos e] at h
      obtain rfl := samePl_eq e
      have h := (hg.h t).1 h
      by_cases hc : v.cst = true
      · rw [if_pos hc] at h
        rw [if_pos hc] at hv
        simp at hv
        obtain ⟨h1, k, hk, hn, hb⟩ := h
        obtain ⟨t0, t1, tn, -⟩ := hm.tmp _ _ hb
        simp at tn
        exact ⟨hd, h1, fun _ => by simpa using tn, fun h2 => by omega⟩
      · rw [if_neg hc] at h
        obtain ⟨h1, h2, h3⟩ := h
        refine ⟨hd, h2, fun h4 => ?_, fun h4 => ?_⟩
        · rcases h3 with h3 | h3
          · omega
          · rw [h3]; simp [h4]
        · rcases h3 with h3 | h3
          · omega
          · rw [h3]; simp [h4]
    · rw [if_neg e] at h
      split at h
      · simp at h
      · exact hm.has p t h
  · simp only [moveF, updP, keepP] at h
    by_cases e : samePl p v.dst = true
    · rw [if_pos e] at h
      obtain rfl := samePl_eq e
      have h := (hg.i k).1 h
      by_cases hc : v.cst = true
      · rw [if_pos hc] at h
        rw [if_pos hc] at hv
        simp at hv
        exact ⟨hd, h.1, by omega⟩
      · rw [if_neg hc] at h
        exact ⟨hd, h.2.1, h.2.2⟩
    · rw [if_neg e] at h
      split at h
      · simp at h
      · exact hm.is p k h

theorem moveF_is {B : List Bool} {s slots : Int} {C : List LIns} {N : List Int} {m : FM} {v : LMove} {gh gi : Bits} (hm : FmOk B s slots N m) (hN : NumsOf C N) (hv : moveB s slots v = true) (hg : GotM B N m v gh gi) (f : LFact) :
    Kof N (moveF m v.dst gh gi) f ↔ moveK (FactOk B s slots (NumP C)) v (Kof N m) f := by
  have hok' := moveF_ok hm hv hg
  have key : ∀ (hok : FactOk B s slots (NumP C) f), (Kof N (moveF m v.dst gh gi) f ↔ (if f.pl.kind = 0 ∨ overB f.pl v.dst = false then Kof N m f
    else samePl f.pl v.dst = true ∧ (if v.cst = false then Kof N m ⟨v.src, f.temp, f.t, f.n⟩ else if f.temp = true then Kof N m (zeroAt f.t v.n) else f.n = v.n))) := by
    intro hok
    unfold moveB at hv
    simp only [Bool.and_eq_true] at hv
    obtain ⟨hd, hv⟩ := hv
    by_cases h0 : f.pl.kind = 0
    · rw [if_pos (Or.inl h0)]
      unfold Kof
      rw [if_pos h0, if_pos h0]
      exact Iff.rfl
    by_cases ho : overB f.pl v.dst = false
    · rw [if_pos (Or.inr ho)]
      have hs : ¬ samePl f.pl v.dst = true := fun h => by rw [same_over h] at ho; cases ho
      have ho' : ¬ overB f.pl v.dst = true := by rw [ho]; simp
      unfold Kof
      rw [if_neg h0, if_neg h0]
      simp only [moveF, updP, keepP, if_neg hs, if_neg ho']
    rw [if_neg (by rintro (h | h); exact h0 h; exact ho h)]
    have ho' : overB f.pl v.dst = true := by simpa using ho
    by_cases hs : samePl f.pl v.dst = true
    case neg =>
      unfold Kof
      rw [if_neg h0]
      simp only [moveF, updP, keepP, if_neg hs, if_pos ho']
      simp [hs]
    have hp := samePl_eq hs
    have hk : v.dst.kind = f.pl.kind := by rw [hp]
    have hsk : v.cst = false → ¬ v.src.kind = 0 := fun hc => by
      rw [if_neg (by simp [hc])] at hv
      simp only [Bool.and_eq_true] at hv
      exact is_kind hv.1.2
    have hdk : v.cst = true → v.dst.kind = 1 := fun hc => by
      rw [if_pos hc] at hv
      simp at hv
      exact hv.2
    simp only [hs, true_and]
    conv => lhs; unfold Kof
    rw [if_neg h0]
    simp only [moveF, updP, if_pos hs]
    by_cases ht : f.temp = true
    · rw [if_pos ht, hg.h]
      obtain ⟨t0, t1⟩ := hok.t ht
      have hn0 := hok.zn h0 ht
      by_cases hc : v.cst = true
      · rw [if_pos hc, if_neg (by simp [hc]), if_pos ht]
        unfold Kof zeroAt
        rw [if_pos (show LPlace.zero.kind = 0 from rfl)]
        have e : ((f.t.toNat : Nat) : Int) = f.t := by omega
        rw [e]
        constructor
        · rintro ⟨_, _, _, h⟩
          exact ⟨rfl, rfl, h⟩
        · rintro ⟨_, _, h⟩
          exact ⟨hn0, t0, by omega, h⟩
      · have hc' : v.cst = false := by simpa using hc
        rw [if_neg hc, if_pos hc']
        unfold Kof
        simp only []
        rw [if_neg (hsk hc'), if_pos ht]
        constructor
        · rintro ⟨h1, h2, h3, _⟩
          exact ⟨h1, h2, h3⟩
        · rintro ⟨h1, h2, h3⟩
          refine ⟨h1, h2, h3, by omega, ?_⟩
          rcases hok.pl with hz | hz
          · exact absurd hz.1 h0
          rcases is_cases hz with ⟨e, _⟩ | ⟨e, _⟩ | ⟨e, _⟩
          · refine Or.inr ?_
            rw [hok.nar ht (Or.inr e), hk, e]
            simp
          · refine Or.inr ?_
            rw [hok.wid ht e, hk, e]
            simp
          · exact Or.inl (by rw [hk, e])
    · have htf : f.temp = false := by simpa using ht
      rw [if_neg ht]
      have hnum := hok.num (Or.inr htf)
      have hdb := hok.dbl htf
      have hzt := hok.zt htf
      by_cases hc : v.cst = true
      · rw [if_neg (by simp [hc]), if_neg ht]
        constructor
        · rintro ⟨_, k, hk, hn, hb⟩
          have := (hg.i k).1 hb
          rw [if_pos hc] at this
          rw [← hn, this.2]
        · intro h
          obtain ⟨k, hk, hn⟩ := (hN _).2 hnum
          refine ⟨hzt, k, hk, hn, (hg.i k).2 ?_⟩
          rw [if_pos hc]
          exact ⟨hk, by rw [hn, h]⟩
      · have hc' : v.cst = false := by simpa using hc
        rw [if_pos hc']
        unfold Kof
        simp only []
        rw [if_neg (hsk hc'), if_neg ht]
        constructor
        · rintro ⟨h1, k, hk, hn, hb⟩
          have := (hg.i k).1 hb
          rw [if_neg hc] at this
          exact ⟨h1, k, hk, hn, this.1⟩
        · rintro ⟨h1, k, hk2, hn, hb⟩
          refine ⟨h1, k, hk2, hn, (hg.i k).2 ?_⟩
          rw [if_neg hc]
          exact ⟨hb, hk2, by rw [hk]; exact hdb⟩
  constructor
  · intro h
    have hok := Kof.ok hok' hN h
    exact ⟨hok, (key hok).1 h⟩
  · rintro ⟨hok, h⟩
    exact (key hok).2 h

def giveF (s slots : Int) (m : FM) (d : Nat) (L : LPlace) (gh gi : Bits) (sm : LPlace → Bool) : FM :=
  ⟨updP (fun p => if isB s slots p = true then (if sm p = true then keepP m.has L p ||| only d else keepP m.has L p &&& ~~~ only d) else keepP m.has L p) L (gh ||| only d), updP (keepP m.is L) L gi, updT m.tmp d gi⟩

structure GotI (s slots : Int) (N : List Int) (m : FM) (i : LIns) (L : LPlace) (gh gi : Bits) (sm : LPlace → Bool) : Prop where
  hb : ∀ t : Nat, gh.getLsbD t = true ↔ i.op = 2 ∧ (t : Int) = i.a
  ib : ∀ k, gi.getLsbD k = true ↔ (i.op = 1 ∧ k < N.length ∧ nAt N k = i.n) ∨ (i.op = 2 ∧ (m.tmp i.a).getLsbD k = true)
  sb : ∀ p, isB s slots p = true → (sm p = true ↔ (i.op = 1 ∧ ∃ k, k < N.length ∧ nAt N k = i.n ∧ (keepP m.is L p).getLsbD k = true) ∨ (i.op = 2 ∧ (keepP m.has L p).getLsbD i.a.toNat = true))

structure GiveOk (B : List Bool) (s slots : Int) (i : LIns) (L : LPlace) : Prop where
  d0 : 0 ≤ i.dest
  d1 : i.dest < B.length
  is : isB s slots L = true
  nar : B.getD i.dest.toNat false = false → L.kind = 1
  wid : B.getD i.dest.toNat false = true → L.kind = 2
  one : i.op = 1 → B.getD i.dest.toNat false = false
  a0 : i.op = 2 → 0 ≤ i.a
  a1 : i.op = 2 → i.a < B.length
  aw : i.op = 2 → B.getD i.a.toNat false = B.getD i.dest.toNat false

theorem keep_bit {g : LPlace → Bits} {p q : LPlace} {k : Nat} : (keepP g q p).getLsbD k = true ↔ overB p q = false ∧ (g p).getLsbD k = true := by
  unfold keepP
  split
  · rename_i h; simp [h]
  · rename_i h; simp at h; simp [h]

theorem giveF_ok {B : List Bool} {s slots : Int} {N : List Int} {m : FM} {i : LIns} {L : LPlace} {gh gi : Bits} {sm : LPlace → Bool} (hB : B.length ≤ 12) (hm : FmOk B s slots N m) (hi : GiveOk B s slots i L) (hg : GotI s slots N m i L gh gi sm) :
    FmOk B s slots N (giveF s slots m i.dest.toNat L gh gi sm) := by
  have d0 := hi.d0
  have d1 := hi.d1
  have hd64 : i.dest.toNat < 64 := by omega
  have hLn : L.kind = 1 → B.getD i.dest.toNat false = false := fun h => by
    cases hc : B.getD i.dest.toNat false with
    | false => rfl
    | true => have := hi.wid hc; omega
  have hLw : L.kind = 2 → B.getD i.dest.toNat false = true := fun h => by
    cases hc : B.getD i.dest.toNat false with
    | true => rfl
    | false => have := hi.nar hc; omega
  refine ⟨fun p t h => ?_, fun p k h => ?_, fun t k h => ?_⟩
  · simp only [giveF, updP] at h
    by_cases e : samePl p L = true
    · rw [if_pos e, bits_or_only hd64] at h
      obtain rfl := samePl_eq e
      rcases h with h | h
      · obtain ⟨h1, h2⟩ := (hg.hb t).1 h
        have a0 := hi.a0 h1
        have a1 := hi.a1 h1
        have aw := hi.aw h1
        have e2 : i.a.toNat = t := by omega
        rw [e2] at aw
        exact ⟨hi.is, by omega, fun h3 => by rw [aw]; exact hLn h3, fun h3 => by rw [aw]; exact hLw h3⟩
      · subst h
        exact ⟨hi.is, by omega, hLn, hLw⟩
    · rw [if_neg e] at h
      by_cases hp : isB s slots p = true
      case neg => rw [if_neg hp, keep_bit] at h; exact hm.has p t h.2
      rw [if_pos hp] at h
      by_cases hs : sm p = true
      case neg => rw [if_neg hs, bits_not_only hd64, keep_bit] at h; exact hm.has p t h.1.2
      rw [if_pos hs, bits_or_only hd64, keep_bit] at h
      rcases h with h | h
      · exact hm.has p t h.2
      subst h
      refine ⟨hp, by omega, ?_⟩
      rcases (hg.sb p hp).1 hs with ⟨h1, k, hk, hn, hb⟩ | ⟨h1, hb⟩
      · rw [keep_bit] at hb
        obtain ⟨_, _, h3⟩ := hm.is p k hb.2
        exact ⟨fun _ => hi.one h1, fun h => absurd h h3⟩
      · rw [keep_bit] at hb
        obtain ⟨_, _, h3, h4⟩ := hm.has p _ hb.2
        have aw := hi.aw h1
        exact ⟨fun h => by rw [← aw]; exact h3 h, fun h => by rw [← aw]; exact h4 h⟩
  · simp only [giveF, updP] at h
    by_cases e : samePl p L = true
    · rw [if_pos e] at h
      obtain rfl := samePl_eq e
      rcases (hg.ib k).1 h with ⟨h1, h2, h3⟩ | ⟨h1, h2⟩
      · exact ⟨hi.is, h2, by have := hi.nar (hi.one h1); omega⟩
      · obtain ⟨_, _, h3, h4⟩ := hm.tmp _ _ h2
        exact ⟨hi.is, h4, by have := hi.nar (by rw [← hi.aw h1]; exact h3); omega⟩
    · rw [if_neg e, keep_bit] at h
      exact hm.is p k h.2
  · simp only [giveF, updT] at h
    by_cases e : t = i.dest.toNat
    · rw [if_pos e] at h
      have e2 : t.toNat = i.dest.toNat := by omega
      rcases (hg.ib k).1 h with ⟨h1, h2, h3⟩ | ⟨h1, h2⟩
      · exact ⟨by omega, by omega, by rw [e2]; exact hi.one h1, h2⟩
      · obtain ⟨_, _, h3, h4⟩ := hm.tmp _ _ h2
        exact ⟨by omega, by omega, by rw [e2, ← hi.aw h1]; exact h3, h4⟩
    · rw [if_neg e] at h
      exact hm.tmp t k h

theorem giveF_is {B : List Bool} {s slots : Int} {C : List LIns} {N : List Int} {m : FM} {i : LIns} {L : LPlace} {gh gi : Bits} {sm : LPlace → Bool} (hB : B.length ≤ 12) (hm : FmOk B s slots N m) (hN : NumsOf C N) (hi : GiveOk B s slots i L) (hg : GotI s slots N m i L gh gi sm) (f : LFact) :
    Kof N (giveF s slots m i.dest.toNat L gh gi sm) f ↔ insK (FactOk B s slots (NumP C)) i L (Kof N m) f := by
  have hok' := giveF_ok hB hm hi hg
  have d0 := hi.d0
  have d1 := hi.d1
  have hd64 : i.dest.toNat < 64 := by omega
  have hLk := is_kind hi.is
  have key : FactOk B s slots (NumP C) f → (Kof N (giveF s slots m i.dest.toNat L gh gi sm) f ↔ 
  (if i.op = 2 ∧ samePl f.pl L = true ∧ f.temp = true ∧ f.t = i.a then True
   else if i.op = 2 ∧ samePl f.pl L = true ∧ f.temp = false then Kof N m (zeroAt i.a f.n)
   else if i.op = 2 ∧ (f.temp = true ∧ f.t = i.dest) ∧ (f.pl.kind = 0 ∨ overB f.pl L = false) then Kof N m ⟨f.pl, f.temp, i.a, f.n⟩
   else if i.op = 1 ∧ (f.temp = true ∧ f.t = i.dest) ∧ ¬ f.pl.kind = 0 ∧ overB f.pl L = false then Kof N m ⟨f.pl, false, 0, i.n⟩
   else if i.op = 1 ∧ (((f.temp = true ∧ f.t = i.dest) ∧ f.pl.kind = 0) ∨ (samePl f.pl L = true ∧ f.temp = false)) then f.n = i.n
   else if samePl f.pl L = true ∧ (f.temp = true ∧ f.t = i.dest) ∧ ¬ f.pl.kind = 0 then True
   else Kof N m f ∧ ¬ (f.temp = true ∧ f.t = i.dest) ∧ (f.pl.kind = 0 ∨ overB f.pl L = false))) := by
    intro hok
    have e12 : i.op = 1 → ¬ i.op = 2 := fun h => by rw [h]; decide
    have hop3 : (i.op = 1) ∨ (i.op = 2) ∨ (¬ i.op = 1 ∧ ¬ i.op = 2) := by
      by_cases h1 : i.op = 1
      · exact Or.inl h1
      by_cases h2 : i.op = 2
      · exact Or.inr (Or.inl h2)
      exact Or.inr (Or.inr ⟨h1, h2⟩)
    by_cases h0 : f.pl.kind = 0
    · obtain ⟨_, hn0, ht⟩ : f.pl.kind = 0 ∧ f.pl.n = 0 ∧ f.temp = true := by rcases hok.pl with h | h; exact h; exact absurd h0 (is_kind h)
      have hs : samePl f.pl L = false := by
        cases hc : samePl f.pl L with
        | false => rfl
        | true => rw [samePl_eq hc] at h0; exact absurd h0 hLk
      obtain ⟨t0, t1⟩ := hok.t ht
      have hnum := hok.num (Or.inl h0)
      have lhs : Kof N (giveF s slots m i.dest.toNat L gh gi sm) f ↔ ∃ k, k < N.length ∧ nAt N k = f.n ∧ (updT m.tmp i.dest.toNat gi f.t).getLsbD k = true := by
        unfold Kof
        rw [if_pos h0]
        exact ⟨fun h => h.2.2, fun h => ⟨hn0, ht, h⟩⟩
      have mf : Kof N m f ↔ ∃ k, k < N.length ∧ nAt N k = f.n ∧ (m.tmp f.t).getLsbD k = true := by
        unfold Kof
        rw [if_pos h0]
        exact ⟨fun h => h.2.2, fun h => ⟨hn0, ht, h⟩⟩
      rw [lhs]
      unfold updT
      by_cases hd : f.t = i.dest
      · have e : f.t = ((i.dest.toNat : Nat) : Int) := hd.trans (Int.toNat_of_nonneg d0).symm
        rw [if_pos e]
        simp only [hg.ib]
        rcases hop3 with h1 | h2 | ⟨h1, h2⟩
        · have := e12 h1
          simp only [h1, hs, ht, hd, h0]
          simp
          constructor
          · rintro ⟨k, hk, hn, _, hn2⟩; rw [← hn, hn2]
          · intro h
            obtain ⟨k, hk, hn⟩ := (hN _).2 hnum
            exact ⟨k, hk, hn, hk, by rw [hn, h]⟩
        · simp only [h2, hs, ht, hd, h0]
          simp
          unfold Kof
          simp [h0, hn0]
        · simp [h1, h2, hs, ht, hd, h0]
      · have e : ¬ f.t = ((i.dest.toNat : Nat) : Int) := fun h => hd (h.trans (Int.toNat_of_nonneg d0))
        rw [if_neg e, ← mf]
        simp [hs, ht, hd, h0]
    have hp : isB s slots f.pl = true := by rcases hok.pl with h | h; exact absurd h.1 h0; exact h
    by_cases hs : samePl f.pl L = true
    · have ho := same_over hs
      by_cases ht : f.temp = true
      · obtain ⟨t0, t1⟩ := hok.t ht
        have hn0 := hok.zn h0 ht
        have lhs : Kof N (giveF s slots m i.dest.toNat L gh gi sm) f ↔ (i.op = 2 ∧ f.t = i.a) ∨ f.t = i.dest := by
          unfold Kof
          rw [if_neg h0, if_pos ht]
          simp only [giveF, updP, if_pos hs, bits_or_only hd64, hg.hb]
          have e : ((f.t.toNat : Nat) : Int) = f.t := by omega
          rw [e]
          constructor
          · rintro ⟨_, _, h | h⟩
            · exact Or.inl h
            · exact Or.inr (by omega)
          · rintro (h | h)
            · exact ⟨hn0, t0, Or.inl h⟩
            · exact ⟨hn0, t0, Or.inr (by omega)⟩
        rw [lhs]
        by_cases ha : i.op = 2 ∧ f.t = i.a
        · simp [ha, hs, ht]
        · by_cases hd : f.t = i.dest
          · rw [if_neg (by rintro ⟨x, _, _, y⟩; exact ha ⟨x, y⟩)]
            simp [hs, ht, ho, hd, h0]
          · rw [if_neg (by rintro ⟨x, _, _, y⟩; exact ha ⟨x, y⟩)]
            simp only [ha, hd]
            simp [hs, ht, ho, h0]
      · have htf : f.temp = false := by simpa using ht
        have hnum := hok.num (Or.inr htf)
        have hzt := hok.zt htf
        have lhs : Kof N (giveF s slots m i.dest.toNat L gh gi sm) f ↔ ∃ k, k < N.length ∧ nAt N k = f.n ∧ gi.getLsbD k = true := by
          unfold Kof
          rw [if_neg h0, if_neg ht]
          simp only [giveF, updP, if_pos hs]
          exact ⟨fun h => h.2, fun h => ⟨hzt, h⟩⟩
        rw [lhs]
        simp only [hg.ib]
        rcases hop3 with h1 | h2 | ⟨h1, h2⟩
        · simp [h1, hs, htf]
          constructor
          · rintro ⟨k, hk, hn, _, hn2⟩; rw [← hn, hn2]
          · intro h
            obtain ⟨k, hk, hn⟩ := (hN _).2 hnum
            exact ⟨k, hk, hn, hk, by rw [hn, h]⟩
        · simp [h2, hs, htf]
          unfold Kof zeroAt
          simp [LPlace.zero]
        · simp [h1, h2, hs, htf, ho, h0]
    have hsf : samePl f.pl L = false := by simpa using hs
    cases ho : overB f.pl L with
    | true =>
      have hsm : sm f.pl = false := by
        cases hc : sm f.pl with
        | false => rfl
        | true =>
          rcases (hg.sb _ hp).1 hc with ⟨_, k, _, _, hb⟩ | ⟨_, hb⟩
          · rw [keep_bit, ho] at hb; exact absurd hb.1 (by simp)
          · rw [keep_bit, ho] at hb; exact absurd hb.1 (by simp)
      have lhs : ¬ Kof N (giveF s slots m i.dest.toNat L gh gi sm) f := by
        unfold Kof
        rw [if_neg h0]
        simp only [giveF, updP, if_neg hs, if_pos hp, hsm]
        split
        · rintro ⟨_, _, h⟩
          simp [keepP, ho] at h
        · rintro ⟨_, k, _, _, h⟩
          simp [keepP, ho] at h
      simp [lhs, hsf, h0]
    | false =>
      have hkp : ∀ g : LPlace → Bits, keepP g L f.pl = g f.pl := fun g => by unfold keepP; rw [if_neg (by rw [ho]; simp)]
      by_cases ht : f.temp = true
      · obtain ⟨t0, t1⟩ := hok.t ht
        have hn0 := hok.zn h0 ht
        have hsm := hg.sb _ hp
        rw [hkp, hkp] at hsm
        by_cases hd : f.t = i.dest
        · have lhs : Kof N (giveF s slots m i.dest.toNat L gh gi sm) f ↔ sm f.pl = true := by
            unfold Kof
            rw [if_neg h0, if_pos ht]
            simp only [giveF, updP, if_neg hs, if_pos hp]
            have e : f.t.toNat = i.dest.toNat := by rw [hd]
            rw [e]
            constructor
            · rintro ⟨_, _, h⟩
              cases hc : sm f.pl with
              | true => rfl
              | false => rw [hc, if_neg (by simp), bits_not_only hd64] at h; exact absurd rfl h.2
            · intro h
              rw [if_pos h, bits_or_only hd64]
              exact ⟨hn0, t0, Or.inr rfl⟩
          rw [lhs, hsm]
          rcases hop3 with h1 | h2 | ⟨h1, h2⟩
          · simp [h1, hsf, ht, hd, h0]
            unfold Kof
            simp [h0]
          · have a0 := hi.a0 h2
            simp [h2, hsf, ht, hd, h0]
            unfold Kof
            simp [h0, hn0, a0]
          · simp [h1, h2, hsf, ht, hd, h0]
        · have lhs : Kof N (giveF s slots m i.dest.toNat L gh gi sm) f ↔ Kof N m f := by
            unfold Kof
            rw [if_neg h0, if_neg h0, if_pos ht, if_pos ht]
            simp only [giveF, updP, if_neg hs, if_pos hp, hkp]
            have e : ¬ f.t.toNat = i.dest.toNat := fun h => hd (by rw [← Int.toNat_of_nonneg t0, h, Int.toNat_of_nonneg d0])
            split
            · rw [bits_or_only hd64]; simp [e]
            · rw [bits_not_only hd64]; simp [e]
          rw [lhs]
          simp [hsf, ht, hd, h0]
      · have htf : f.temp = false := by simpa using ht
        have lhs : Kof N (giveF s slots m i.dest.toNat L gh gi sm) f ↔ Kof N m f := by
          unfold Kof
          rw [if_neg h0, if_neg h0, if_neg ht, if_neg ht]
          simp only [giveF, updP, if_neg hs, hkp]
        rw [lhs]
        simp [hsf, htf, h0]
  constructor
  · intro h
    have hok := Kof.ok hok' hN h
    exact ⟨hok, (key hok).1 h⟩
  · rintro ⟨hok, h⟩
    exact (key hok).2 h

def meetF (m n : FM) : FM := ⟨fun p => m.has p &&& n.has p, fun p => m.is p &&& n.is p, fun t => m.tmp t &&& n.tmp t⟩

theorem getD_inj {N : List Int} (hs : N.Pairwise (· < ·)) {j k : Nat} (hj : j < N.length) (hk : k < N.length) (h : nAt N j = nAt N k) : j = k := by
  rw [List.pairwise_iff_getElem] at hs
  simp only [nAt, List.getD, List.getElem?_eq_getElem hj, List.getElem?_eq_getElem hk, Option.getD_some] at h
  rcases Nat.lt_trichotomy j k with h1 | h1 | h1
  · have := hs j k hj hk h1; omega
  · exact h1
  · have := hs k j hk hj h1; omega

theorem meetF_is {N : List Int} (hs : N.Pairwise (· < ·)) (m n : FM) (f : LFact) : Kof N (meetF m n) f ↔ Kof N m f ∧ Kof N n f := by
  have two : ∀ x y : Bits, (∃ k, k < N.length ∧ nAt N k = f.n ∧ (x &&& y).getLsbD k = true) ↔ ((∃ k, k < N.length ∧ nAt N k = f.n ∧ x.getLsbD k = true) ∧ (∃ k, k < N.length ∧ nAt N k = f.n ∧ y.getLsbD k = true)) := fun x y => by
    constructor
    · rintro ⟨k, hk, hn, hb⟩
      rw [bits_and] at hb
      exact ⟨⟨k, hk, hn, hb.1⟩, ⟨k, hk, hn, hb.2⟩⟩
    · rintro ⟨⟨k, hk, hn, hb⟩, ⟨j, hj, hn2, hb2⟩⟩
      obtain rfl := getD_inj hs hk hj (by rw [hn, hn2])
      exact ⟨k, hk, hn, bits_and.2 ⟨hb, hb2⟩⟩
  unfold Kof
  simp only [meetF]
  split
  · rw [two]
    exact ⟨fun h => ⟨⟨h.1, h.2.1, h.2.2.1⟩, ⟨h.1, h.2.1, h.2.2.2⟩⟩, fun h => ⟨h.1.1, h.1.2.1, h.1.2.2, h.2.2.2⟩⟩
  · split
    · rw [bits_and]
      exact ⟨fun h => ⟨⟨h.1, h.2.1, h.2.2.1⟩, ⟨h.1, h.2.1, h.2.2.2⟩⟩, fun h => ⟨h.1.1, h.1.2.1, h.1.2.2, h.2.2.2⟩⟩
    · rw [two]
      exact ⟨fun h => ⟨⟨h.1, h.2.1⟩, ⟨h.1, h.2.2⟩⟩, fun h => ⟨h.1.1, h.1.2, h.2.2⟩⟩
theorem meetF_ok {B : List Bool} {s slots : Int} {N : List Int} {m n : FM} (hm : FmOk B s slots N m) : FmOk B s slots N (meetF m n) :=
  ⟨fun p t h => hm.has p t (bits_and.1 h).1, fun p k h => hm.is p k (bits_and.1 h).1, fun t k h => hm.tmp t k (bits_and.1 h).1⟩

end Go.Proofs.YtcmnmogmdhofcabGreat.form

/- Maps of the call's own: of each place two numbers of 64 bits; of each temporary one: what each operation does with them. -/
namespace Go.Proofs.YtcmnmogmdhofcabGreat.form
open Go.RowKit Go.Maps
set_option linter.unusedVariables false

def bitV (x : Bits) : Value := .int .u64 (bn x)
def knownV (h i : Bits) : Value := .agg #[.int .u64 (bn h), .int .u64 (bn i)]
def knownD (h i : Bits) : DataW Unit := .agg [.lit (.int .u64 (bn h)), .lit (.int .u64 (bn i))]

def knownElem (v : Value) : Option (DataW Unit × List MemPlace) :=
  match v with
  | .agg cs => match cs.toList with
    | [.int .u64 a, .int .u64 b] => if 0 ≤ a ∧ a < 18446744073709551616 ∧ 0 ≤ b ∧ b < 18446744073709551616 then some (.agg [.lit (.int .u64 a), .lit (.int .u64 b)], []) else none
    | _ => none
  | _ => none
theorem knownElem_mk (h i : Bits) : knownElem (knownV h i) = some (knownD h i, []) := by
  unfold knownElem knownV knownD
  simp only []
  rw [if_pos ⟨(bits_bd h).1, (bits_bd h).2, (bits_bd i).1, (bits_bd i).2⟩]
theorem knownElem_inv {v : Value} {y : DataW Unit × List MemPlace} (h : knownElem v = some y) : ∃ a b : Bits, v = knownV a b ∧ y = (knownD a b, []) := by
  unfold knownElem at h
  split at h
  · rename_i cs
    split at h
    · rename_i a b hcs
      split at h
      · rename_i hb
        obtain ⟨x, rfl⟩ := bits_of hb.1 hb.2.1
        obtain ⟨z, rfl⟩ := bits_of hb.2.2.1 hb.2.2.2
        refine ⟨x, z, ?_, (Option.some.inj h).symm⟩
        unfold knownV
        congr 1
        obtain ⟨l⟩ := cs
        simp at hcs
        rw [hcs]
      · cases h
    · cases h
  · cases h
theorem knownD_inj {a b c d : Bits} (h : knownD a b = knownD c d) : a = c ∧ b = d := by
  unfold knownD at h
  simp only [DataW.agg.injEq, List.cons.injEq, DataW.lit.injEq, Lit.int.injEq, true_and, and_true] at h
  exact ⟨bits_inj h.1, bits_inj h.2⟩

/-! Places as keys. -/
structure PlWf (p : LPlace) : Prop where
  k0 : -9223372036854775808 ≤ p.kind
  k1 : p.kind ≤ 9223372036854775807
  n0 : -9223372036854775808 ≤ p.n
  n1 : p.n ≤ 9223372036854775807

theorem laidOutP : laidOutB Tryz.prog = true := by kernel_rfl
theorem pkRow : (37 : TypeId) < Tryz.prog.types.size := of_decide_eq_true (by kernel_rfl)
theorem pkWide : (match Tryz.prog.underlying 37 with | some (.array _ _) | some (.struct _) => true | _ => false) = true := by kernel_rfl
set_option maxRecDepth 100000 in
theorem pkLaw : Keyed Tryz.prog 37 := Keyed.of_law (deep_law_laid laidOutP (m := 4) (by omega) pkRow (by kernel_rfl) pkWide)
theorem pkType : Tryz.prog.keyType 37 = true := by kernel_rfl
theorem pkCells : Tryz.prog.cellsOf 37 = 2 := by kernel_rfl
theorem pkFormed (p : LPlace) : (p.val).formed Tryz.prog 37 = true := by
  have hu := Tryz.underlying37
  simp [LPlace.val, Value.formed, hu, pkCells]
theorem i64_wfP {x : Int} (h0 : -9223372036854775808 ≤ x) (h1 : x ≤ 9223372036854775807) : (Lit.int .i64 x).wf = true := WalkArith.wf_i64 ⟨h0, h1⟩
theorem pkLits {p : LPlace} (hf : PlWf p) : Tryz.prog.keyLits (Tryz.prog.types.size + 1) 37 (p.val).cells.toList = some [.int .i64 p.kind, .int .i64 p.n] := by
  obtain ⟨m, hm⟩ : ∃ m, Tryz.prog.types.size + 1 = m + 2 := ⟨Tryz.prog.types.size - 1, by have : 2 ≤ Tryz.prog.types.size := of_decide_eq_true (by kernel_rfl); omega⟩
  have hp := Tryz.underlying37
  have hi : Tryz.prog.underlying 3 = some (.int .i64) := Tryz.underlying3
  have c2 : Tryz.prog.cellsOf 3 = 1 := by kernel_rfl
  have w1 := i64_wfP hf.k0 hf.k1
  have w2 := i64_wfP hf.n0 hf.n1
  rw [hm]
  have kI : ∀ d x, (Lit.int .i64 x).wf = true → Tryz.prog.keyLits (d + 1) 3 [.int .i64 x] = some [.int .i64 x] := fun d x h => by simp [Program.keyLits, hi, h]
  show Tryz.prog.keyLits (m + 1 + 1) 37 [.int .i64 p.kind, .int .i64 p.n] = _
  unfold Program.keyLits
  rw [hp]
  simp only []
  rw [if_pos ⟨by rw [pkCells]; rfl, by kernel_rfl⟩]
  simp [c2, kI m _ w1, kI m _ w2]
def placeKey (p : LPlace) : Lit := .string (keyBytes [.int .i64 p.kind, .int .i64 p.n])
theorem place_key {p : LPlace} (hf : PlWf p) : keyOf Tryz.prog 37 p.val = some (placeKey p) := by
  unfold keyOf
  have hu := Tryz.underlying37
  rw [hu]
  simp only [pkType, pkFormed, Bool.and_self, if_true, pkLits hf]
  rfl
theorem placeV_inj {p q : LPlace} (h : p.val = q.val) : p = q := by
  unfold LPlace.val at h
  obtain ⟨a, b⟩ := p
  obtain ⟨c, d⟩ := q
  simp at h
  obtain ⟨rfl, rfl⟩ := h
  rfl
theorem place_key_inj {p q : LPlace} (hp : PlWf p) (hq : PlWf q) (h : placeKey p = placeKey q) : p = q :=
  placeV_inj (pkLaw.inj (place_key hp) (h ▸ place_key hq))
theorem lits_intP {d : Nat} {v : Value} {l : List Lit} (h : Tryz.prog.keyLits (d + 1) 3 [v] = some l) : ∃ x, v = .int .i64 x ∧ -9223372036854775808 ≤ x ∧ x ≤ 9223372036854775807 ∧ l = [.int .i64 x] := by
  have hi : Tryz.prog.underlying 3 = some (.int .i64) := Tryz.underlying3
  unfold Program.keyLits at h
  rw [hi] at h
  cases v with
  | int q x =>
    simp at h
    obtain ⟨⟨rfl, hw⟩, rfl⟩ := h
    have := bounds_i64 hw
    exact ⟨x, rfl, this.1, this.2, rfl⟩
  | _ => simp at h
set_option maxRecDepth 100000 in
theorem place_inv {v : Value} {kl : Lit} (h : keyOf Tryz.prog 37 v = some kl) : ∃ p, PlWf p ∧ v = p.val ∧ kl = placeKey p := by
  have hp := Tryz.underlying37
  have c2 : Tryz.prog.cellsOf 3 = 1 := by kernel_rfl
  unfold keyOf at h
  rw [hp] at h
  simp only [pkType, Bool.true_and] at h
  by_cases hform : v.formed Tryz.prog 37 = true
  case neg => rw [if_neg hform] at h; cases h
  rw [if_pos hform] at h
  cases v with
  | agg cs =>
    simp [Value.formed, hp, pkCells] at hform
    obtain ⟨a, b, rfl⟩ : ∃ a b, cs = #[a, b] := by
      obtain ⟨l⟩ := cs
      simp at hform
      match l, hform with
      | [a, b], _ => exact ⟨a, b, rfl⟩
    obtain ⟨m, hm⟩ : ∃ m, Tryz.prog.types.size + 1 = m + 2 := ⟨Tryz.prog.types.size - 1, by have : 2 ≤ Tryz.prog.types.size := of_decide_eq_true (by kernel_rfl); omega⟩
    rw [hm] at h
    have h' : (Tryz.prog.keyLits (m + 1 + 1) 37 [a, b]).map (fun ls => Lit.string (keyBytes ls)) = some kl := h
    clear h
    unfold Program.keyLits at h'
    rw [hp] at h'
    simp only [] at h'
    rw [if_pos ⟨by rw [pkCells]; rfl, by kernel_rfl⟩] at h'
    simp [c2, Option.bind_eq_some_iff] at h'
    obtain ⟨l1, k1, l2, ⟨l3, k3, rfl⟩, rfl⟩ := h'
    obtain ⟨x1, rfl, p1, p2, rfl⟩ := lits_intP k1
    obtain ⟨x2, rfl, p3, p4, rfl⟩ := lits_intP k3
    exact ⟨⟨x1, x2⟩, ⟨p1, p2, p3, p4⟩, rfl, rfl⟩
  | _ => simp [Value.formed, hp] at hform
theorem placeKey_lit (p : LPlace) : WideAt.IsKeyLit (placeKey p) := by unfold placeKey; trivial
theorem sameKey_places {p q : LPlace} (hp : PlWf p) (hq : PlWf q) : (placeKey p).sameKey (placeKey q) = true ↔ p = q := by
  by_cases h : p = q
  · subst h
    simp [placeKey, Lit.sameKey]
  · rw [sameKey_ne (fun e => h (place_key_inj hp hq e))]
    simp [h]

/-! The map of places. -/

structure PSays (A : List LPlace) (D : DataW Unit) (gh gi : LPlace → Bits) : Prop where
  keys : ∀ p, PlWf p → Maps.has D (placeKey p) = true → p ∈ A
  at_ : ∀ p, PlWf p → D.atKey (placeKey p) (knownD 0 0) = knownD (gh p) (gi p)
def PMap (w : World) (b : Nat) (A : List LPlace) (gh gi : LPlace → Bits) : Prop := ∃ D : DataW Unit, w.ownsMap Tryz.prog 37 knownElem b A.length D ∧ PSays A D gh gi

theorem PMap.lt {w : World} {b : Nat} {A : List LPlace} {gh gi : LPlace → Bits} (h : PMap w b A gh gi) : b < w.heap.size := by obtain ⟨D, h1, -⟩ := h; exact h1.lt
theorem PMap.kept {w w' : World} {b : Nat} {A : List LPlace} {gh gi : LPlace → Bits} {row : Option Nat} (h : PMap w b A gh gi) (hg : w.grownBy w' row) (hne : some b ≠ row) : PMap w' b A gh gi := by
  obtain ⟨D, h1, h2⟩ := h
  exact ⟨D, h1.kept hg hne, h2⟩
theorem PMap.congr {w : World} {b : Nat} {A : List LPlace} {gh gi gh' gi' : LPlace → Bits} (h : PMap w b A gh gi) (e1 : ∀ p, PlWf p → gh p = gh' p) (e2 : ∀ p, PlWf p → gi p = gi' p) : PMap w b A gh' gi' := by
  obtain ⟨D, h1, h2⟩ := h
  exact ⟨D, h1, h2.keys, fun p hp => by rw [h2.at_ p hp, e1 p hp, e2 p hp]⟩
theorem PMap.new (w : World) (A : List LPlace) : PMap (w.alloc (.map #[] 0)) w.heap.size A (fun _ => 0) (fun _ => 0) :=
  ⟨.map [], (World.ownsMap_made _ _ _ _).mono (Nat.zero_le _), fun p _ h => by simp [Maps.has] at h, fun p _ => atKey_of_not_has (by simp [Maps.has]) _⟩

theorem len_of_apartP {α : Type} : ∀ {l m : List α}, l.Pairwise (fun a b => a ≠ b) → (∀ a, a ∈ l → a ∈ m) → l.length ≤ m.length
  | [], m, _, _ => Nat.zero_le _
  | a :: l, m, hp, hs => by
    obtain ⟨p, q, rfl⟩ := List.append_of_mem (hs a (by simp))
    have h1 := (List.pairwise_cons.1 hp)
    have h2 := len_of_apartP (l := l) (m := p ++ q) h1.2 (fun b hb => by
      have h3 := hs b (by simp [hb])
      have h4 := h1.1 b hb
      simp only [List.mem_append, List.mem_cons] at h3 ⊢
      rcases h3 with h3 | h3 | h3
      · exact Or.inl h3
      · exact absurd h3.symm h4
      · exact Or.inr h3)
    simp at h2 ⊢
    omega
theorem own_tight {w : World} {b n : Nat} {D : DataW Unit} {A : List LPlace} (h : w.ownsMap Tryz.prog 37 knownElem b n D) (hk : ∀ p, PlWf p → Maps.has D (placeKey p) = true → p ∈ A) : w.ownsMap Tryz.prog 37 knownElem b A.length D := by
  obtain ⟨es, clock, hb, F, hs, hD⟩ := h
  refine ⟨es, clock, hb, F, ?_, hD⟩
  have hap := fit_apart pkLaw F
  have hks := fit_keys F
  have hl : (es.toList.map (fun x => (WideElems.rg (H := Unit) Tryz.prog 37 knownElem x).1)).length ≤ (A.map placeKey).length := by
    refine len_of_apartP ?_ (fun kl hkl => ?_)
    · rw [List.pairwise_map] at hap ⊢
      exact hap
    · rw [List.mem_map] at hkl
      obtain ⟨x, hx, rfl⟩ := hkl
      obtain ⟨v, hv⟩ := hks _ (List.mem_map.2 ⟨x, hx, rfl⟩)
      obtain ⟨p, hp, -, hkey⟩ := place_inv hv
      rw [hkey]
      refine List.mem_map.2 ⟨p, hk p hp ?_, rfl⟩
      rw [hD, has_eq, List.any_eq_true]
      refine ⟨WideElems.rg Tryz.prog 37 knownElem x, mem_sorted.2 (List.mem_map.2 ⟨x, hx, rfl⟩), ?_⟩
      rw [hkey]
      exact (sameKey_places hp hp).2 rfl
  simpa using hl

theorem zeroK (w : World) : (zeroValue 108).run Tryz.prog w = .ok (knownV 0 0) w := by kernel_rfl

theorem PMap.look {w : World} {b : Nat} {A : List LPlace} {gh gi : LPlace → Bits} (h : PMap w b A gh gi) {p : LPlace} (hp : PlWf p) : (Instr.lookup 109 (.map (some b)) p.val false).run Tryz.prog w = .ok (knownV (gh p) (gi p)) w := by
  obtain ⟨D, h1, h2⟩ := h
  obtain ⟨v, ps, hrun, hv⟩ := h1.lookup pkLaw Tryz.underlying109 (zeroK w) (knownElem_mk 0 0) (place_key hp)
  rw [h2.at_ p hp] at hv
  obtain ⟨x, y, rfl, hy⟩ := knownElem_inv hv
  simp only [Prod.mk.injEq] at hy
  obtain ⟨rfl, rfl⟩ := knownD_inj hy.1
  exact hrun

theorem PSays.put {A : List LPlace} {D : DataW Unit} {gh gi : LPlace → Bits} (h : PSays A D gh gi) (hD : IsMap D) {q : LPlace} (hq : PlWf q) (hA : q ∈ A) (x y : Bits) : PSays A (D.put (placeKey q) (knownD x y)) (updP gh q x) (updP gi q y) := by
  refine ⟨fun p hp hh => ?_, fun p hp => ?_⟩
  · by_cases e : p = q
    · rw [e]; exact hA
    · rw [has_put_other (fun h => e (place_key_inj hp hq h))] at hh
      exact h.keys p hp hh
  · by_cases e : p = q
    · subst e
      rw [atKey_put_same hD (placeKey_lit _)]
      unfold updP
      rw [if_pos (samePl_refl p), if_pos (samePl_refl p)]
    · rw [atKey_put_other (fun h => e (place_key_inj hp hq h)), h.at_ p hp]
      unfold updP
      rw [if_neg (fun h => e (samePl_eq h)), if_neg (fun h => e (samePl_eq h))]

section
variable (w : World) {ops : Array Oper} {rest : List Oper} {o : Oper} {a : Act} {Q : Exit → Act → World → Prop}
end

/-! The map of temporaries. -/
theorem tkLaw : Keyed Tryz.prog 3 := int_keyed Tryz.underlying3
def TWf (t : Int) : Prop := -9223372036854775808 ≤ t ∧ t ≤ 9223372036854775807
def tKey (t : Int) : Lit := .int .i64 t
theorem t_key {t : Int} (h : TWf t) : keyOf Tryz.prog 3 (.int .i64 t) = some (tKey t) := keyOf_int_mk Tryz.underlying3 (i64_wfP h.1 h.2)
theorem t_inv {v : Value} {kl : Lit} (h : keyOf Tryz.prog 3 v = some kl) : ∃ t, TWf t ∧ v = .int .i64 t ∧ kl = tKey t := by
  obtain ⟨x, rfl, rfl, hw⟩ := keyOf_int_inv Tryz.underlying3 h
  have := bounds_i64 hw
  exact ⟨x, ⟨this.1, this.2⟩, rfl, rfl⟩
theorem tKey_inj {s t : Int} (h : tKey s = tKey t) : s = t := by unfold tKey at h; simpa using h
theorem tKey_lit (t : Int) : WideAt.IsKeyLit (tKey t) := by unfold tKey; trivial
theorem sameKey_temps {s t : Int} : (tKey s).sameKey (tKey t) = true ↔ s = t := by
  by_cases h : s = t
  · subst h
    simp [tKey, Lit.sameKey]
  · rw [sameKey_ne (fun e => h (tKey_inj e))]
    simp [h]
theorem u64_wf (x : Bits) : (Lit.int .u64 (bn x)).wf = true := WalkArith.wf_u64 (by have := bits_bd x; omega)
def setD (x : Bits) : DataW Unit := .lit (.int .u64 (bn x))

structure TSays (A : List Int) (D : DataW Unit) (g : Int → Bits) : Prop where
  keys : ∀ t, TWf t → Maps.has D (tKey t) = true → t ∈ A
  at_ : ∀ t, TWf t → D.atKey (tKey t) (setD 0) = setD (g t)
def TMap (w : World) (b : Nat) (A : List Int) (g : Int → Bits) : Prop := ∃ D : DataW Unit, w.ownsMap Tryz.prog 3 (plainElem Tryz.prog 106) b A.length D ∧ TSays A D g

theorem TMap.lt {w : World} {b : Nat} {A : List Int} {g : Int → Bits} (h : TMap w b A g) : b < w.heap.size := by obtain ⟨D, h1, -⟩ := h; exact h1.lt
theorem TMap.kept {w w' : World} {b : Nat} {A : List Int} {g : Int → Bits} {row : Option Nat} (h : TMap w b A g) (hg : w.grownBy w' row) (hne : some b ≠ row) : TMap w' b A g := by
  obtain ⟨D, h1, h2⟩ := h
  exact ⟨D, h1.kept hg hne, h2⟩
theorem TMap.congr {w : World} {b : Nat} {A : List Int} {g g' : Int → Bits} (h : TMap w b A g) (e1 : ∀ t, TWf t → g t = g' t) : TMap w b A g' := by
  obtain ⟨D, h1, h2⟩ := h
  exact ⟨D, h1, h2.keys, fun p hp => by rw [h2.at_ p hp, e1 p hp]⟩
theorem TMap.new (w : World) (A : List Int) : TMap (w.alloc (.map #[] 0)) w.heap.size A (fun _ => 0) :=
  ⟨.map [], (World.ownsMap_made _ _ _ _).mono (Nat.zero_le _), fun p _ h => by simp [Maps.has] at h, fun p _ => atKey_of_not_has (by simp [Maps.has]) _⟩
theorem own_tightT {w : World} {b n : Nat} {D : DataW Unit} {A : List Int} (h : w.ownsMap Tryz.prog 3 (plainElem Tryz.prog 106) b n D) (hk : ∀ t, TWf t → Maps.has D (tKey t) = true → t ∈ A) : w.ownsMap Tryz.prog 3 (plainElem Tryz.prog 106) b A.length D := by
  obtain ⟨es, clock, hb, F, hs, hD⟩ := h
  refine ⟨es, clock, hb, F, ?_, hD⟩
  have hap := fit_apart tkLaw F
  have hks := fit_keys F
  have hl : (es.toList.map (fun x => (WideElems.rg (H := Unit) Tryz.prog 3 (plainElem Tryz.prog 106) x).1)).length ≤ (A.map tKey).length := by
    refine len_of_apartP ?_ (fun kl hkl => ?_)
    · rw [List.pairwise_map] at hap ⊢
      exact hap
    · rw [List.mem_map] at hkl
      obtain ⟨x, hx, rfl⟩ := hkl
      obtain ⟨v, hv⟩ := hks _ (List.mem_map.2 ⟨x, hx, rfl⟩)
      obtain ⟨t, ht, -, hkey⟩ := t_inv hv
      rw [hkey]
      refine List.mem_map.2 ⟨t, hk t ht ?_, rfl⟩
      rw [hD, has_eq, List.any_eq_true]
      refine ⟨WideElems.rg Tryz.prog 3 (plainElem Tryz.prog 106) x, mem_sorted.2 (List.mem_map.2 ⟨x, hx, rfl⟩), ?_⟩
      rw [hkey]
      exact sameKey_temps.2 rfl
  simpa using hl
theorem zeroS (w : World) : (zeroValue 106).run Tryz.prog w = .ok (.int .u64 0) w := by kernel_rfl
theorem TMap.look {w : World} {b : Nat} {A : List Int} {g : Int → Bits} (h : TMap w b A g) {t : Int} (ht : TWf t) : (Instr.lookup 110 (.map (some b)) (.int .i64 t) false).run Tryz.prog w = .ok (bitV (g t)) w := by
  obtain ⟨D, h1, h2⟩ := h
  obtain ⟨c, hrun, hat, hwc⟩ := h1.lookup_int tkLaw Tryz.underlying110 Tryz.underlying106 (zeroS w) (t_key ht)
  have h3 := h2.at_ t ht
  have e : setD 0 = .lit (.int .u64 0) := rfl
  rw [e, hat] at h3
  unfold setD at h3
  simp only [DataW.lit.injEq, Lit.int.injEq, true_and] at h3
  rw [hrun, h3]
  rfl
theorem TSays.put {A : List Int} {D : DataW Unit} {g : Int → Bits} (h : TSays A D g) (hD : IsMap D) {q : Int} (hA : q ∈ A) (x : Bits) : TSays A (D.put (tKey q) (setD x)) (updT g q x) := by
  refine ⟨fun p hp hh => ?_, fun p hp => ?_⟩
  · by_cases e : p = q
    · rw [e]; exact hA
    · rw [has_put_other (fun h => e (tKey_inj h))] at hh
      exact h.keys p hp hh
  · by_cases e : p = q
    · subst e
      rw [atKey_put_same hD (tKey_lit _)]
      unfold updT
      rw [if_pos rfl]
    · rw [atKey_put_other (fun h => e (tKey_inj h)), h.at_ p hp]
      unfold updT
      rw [if_neg e]
section
variable (w : World) {ops : Array Oper} {rest : List Oper} {o : Oper} {a : Act} {Q : Exit → Act → World → Prop}
end
end Go.Proofs.YtcmnmogmdhofcabGreat.form

/- Numbers of 64 bits as bits: the operations; sets by them (check.only, set.contains, known.and). -/
namespace Go.Proofs.YtcmnmogmdhofcabGreat.form
open Go.RowKit Go.Maps
set_option linter.unusedVariables false
attribute [local go_sem ↓] Go.wp_at_zero Go.wp_at_succ

theorem shl_is {k : Nat} (hk : k < 64) : IntKind.u64.wrap (2 ^ k) = bn (only k) := by
  have e : (only k).toNat = 2 ^ k := by
    unfold only
    rw [BitVec.toNat_twoPow]
    exact Nat.mod_eq_of_lt (Nat.pow_lt_pow_right (by omega) hk)
  have h := bits_bd (only k)
  unfold bn at h ⊢
  rw [e] at h ⊢
  push_cast at h ⊢
  exact wrapU h.1 h.2
theorem hasBit_is {x : Bits} {k : Nat} (hk : k < 64) : (!((x &&& only k) == 0)) = x.getLsbD k := by
  rw [Bool.eq_iff_iff]
  simp only [Bool.not_eq_true', beq_eq_false_iff_ne, ne_eq]
  rw [bits_ne]
  constructor
  · rintro ⟨j, hj⟩
    rw [bits_and, only_bit hk] at hj
    rw [← hj.2]; exact hj.1
  · intro h
    exact ⟨k, by rw [bits_and, only_bit hk]; exact ⟨h, rfl⟩⟩

theorem onlyO (k : Nat) (hk : k < 64) (w : World) : Calls Tryz.prog 77 #[.int .i64 k] w fun e w' => e = .returned (.int .u64 (bn (only k))) ∧ w' = w := by
  have h0 : (0 : Int) ≤ (k : Int) := by omega
  have h1 : (k : Int) ≤ 64 := by omega
  have hs := shl_is hk
  go_enter Tryz.func77, Tryz.ntmps77
  go_wp2
  go_ret
  exact ⟨rfl, rfl⟩

theorem containsO (x : Bits) (k : Nat) (hk : k < 64) (w : World) : Calls Tryz.prog 46 #[.int .u64 (bn x), .int .i64 k] w fun e w' => e = .returned (.bool (x.getLsbD k)) ∧ w' = w := by
  have ha := and_is x (only k)
  have hn := ne_is (x &&& only k)
  rw [hasBit_is hk] at hn
  go_enter Tryz.func46, Tryz.ntmps46
  go_wp2_with (go_at_call 77; refine (onlyO k hk _).mono ?_; rintro e w' ⟨rfl, hw'⟩; obtain rfl := hw'.symm)
  go_ret
  exact ⟨rfl, rfl⟩

theorem andO (a b c d : Bits) (w : World) : Calls Tryz.prog 107 #[knownV a b, knownV c d] w fun e w' => e = .returned (knownV (a &&& c) (b &&& d)) ∧ Below w.heap.size w w' := by
  have h1 := and_is a c
  have h2 := and_is b d
  unfold knownV
  have HB : Hid (∀ o1 o2 o3 : Obj, Below w.heap.size w (((w.alloc o1).alloc o2).alloc o3)) := fun o1 o2 o3 => (((Below.refl _ _).alloc (Nat.le_refl _) _).alloc (by simp) _).alloc (by simp; omega) _
  go_enter Tryz.func107, Tryz.ntmps107
  go_wp2
  refine bodyPost_ret (v := knownV (a &&& c) (b &&& d)) ?_ rfl ⟨rfl, HB.out _ _ _⟩
  simp [results, Tryz.results107, go_sem, knownV]

end Go.Proofs.YtcmnmogmdhofcabGreat.form

/- What lies in memory while facts are found: the world of facts; facts in their maps. -/
namespace Go.Proofs.YtcmnmogmdhofcabGreat.form
open Go.RowKit Go.Maps
set_option linter.unusedVariables false

theorem PMap.of_block {w w' : World} {b : Nat} {A : List LPlace} {gh gi : LPlace → Bits} (h : PMap w b A gh gi) (hb : w'.heap[b]? = w.heap[b]?) : PMap w' b A gh gi := by
  obtain ⟨D, ⟨es, clock, h1, F, hs, hD⟩, h2⟩ := h
  exact ⟨D, ⟨es, clock, hb.trans h1, F, hs, hD⟩, h2⟩
theorem TMap.of_block {w w' : World} {b : Nat} {A : List Int} {g : Int → Bits} (h : TMap w b A g) (hb : w'.heap[b]? = w.heap[b]?) : TMap w' b A g := by
  obtain ⟨D, ⟨es, clock, h1, F, hs, hD⟩, h2⟩ := h
  exact ⟨D, ⟨es, clock, hb.trans h1, F, hs, hD⟩, h2⟩
theorem PMap.below {w w' : World} {b : Nat} {A : List LPlace} {gh gi : LPlace → Bits} (h : PMap w b A gh gi) (hb : Below w.heap.size w w') : PMap w' b A gh gi := h.of_block (hb.block b h.lt)
theorem TMap.below {w w' : World} {b : Nat} {A : List Int} {g : Int → Bits} (h : TMap w b A g) (hb : Below w.heap.size w w') : TMap w' b A g := h.of_block (hb.block b h.lt)

structure FMAt (w : World) (q mp mt : Nat) (A : List LPlace) (T : List Int) (m : FM) : Prop where
  c0 : w.cell? ⟨q, 0, none⟩ = some (.map (some mp))
  c1 : w.cell? ⟨q, 1, none⟩ = some (.map (some mt))
  pm : PMap w mp A m.has m.is
  tm : TMap w mt T m.tmp
  n1 : q ≠ mp
  n2 : q ≠ mt
  n3 : mp ≠ mt
theorem cell_lt {w : World} {q o : Nat} {v : Value} (h : w.cell? ⟨q, o, none⟩ = some v) : q < w.heap.size := World.block_lt_of_cell? w _ h
theorem FMAt.lt {w : World} {q mp mt : Nat} {A : List LPlace} {T : List Int} {m : FM} (h : FMAt w q mp mt A T m) : q < w.heap.size ∧ mp < w.heap.size ∧ mt < w.heap.size := ⟨cell_lt h.c0, h.pm.lt, h.tm.lt⟩
theorem FMAt.below {w w' : World} {q mp mt : Nat} {A : List LPlace} {T : List Int} {m : FM} (h : FMAt w q mp mt A T m) (hb : Below w.heap.size w w') : FMAt w' q mp mt A T m :=
  ⟨step_cell hb h.c0, step_cell hb h.c1, h.pm.below hb, h.tm.below hb, h.n1, h.n2, h.n3⟩
theorem But.cellOf {x y : Nat} {w w' : World} (h : But x y w w') {q o : Nat} {v : Value} (hc : w.cell? ⟨q, o, none⟩ = some v) (h1 : q ≠ x) (h2 : q ≠ y) : w'.cell? ⟨q, o, none⟩ = some v := by
  rw [World.cell?_of_block (w := w) (h.block q (cell_lt hc) h1 h2)]
  exact hc
theorem FMAt.but {w w' : World} {q mp mt x y : Nat} {A : List LPlace} {T : List Int} {m : FM} (h : FMAt w q mp mt A T m) (hb : But x y w w') (h1 : q ≠ x ∧ q ≠ y) (h2 : mp ≠ x ∧ mp ≠ y) (h3 : mt ≠ x ∧ mt ≠ y) : FMAt w' q mp mt A T m :=
  ⟨hb.cellOf h.c0 h1.1 h1.2, hb.cellOf h.c1 h1.1 h1.2, h.pm.of_block (hb.block mp h.pm.lt h2.1 h2.2), h.tm.of_block (hb.block mt h.tm.lt h3.1 h3.2), h.n1, h.n2, h.n3⟩
theorem FMAt.lim {w : World} {q mp mt : Nat} {A : List LPlace} {T : List Int} {m m' : FM} (h : FMAt w q mp mt A T m) (e1 : ∀ p, PlWf p → m.has p = m'.has p) (e2 : ∀ p, PlWf p → m.is p = m'.is p) (e3 : ∀ t, TWf t → m.tmp t = m'.tmp t) : FMAt w q mp mt A T m' :=
  ⟨h.c0, h.c1, h.pm.congr e1 e2, h.tm.congr e3, h.n1, h.n2, h.n3⟩
theorem grown_but {w w' : World} {x y : Nat} (h : w.grownBy w' (some x)) : But x y w w' := ⟨h.os, h.tape, h.output, h.size, fun k hk h1 _ => h.block k hk (fun e => h1 (Option.some.inj e))⟩
theorem But.toBelow {x y lim : Nat} {w w' : World} (h : But x y w w') (hl : lim ≤ w.heap.size) (h1 : lim ≤ x) (h2 : lim ≤ y) : Below lim w w' := ⟨h.os, h.tape, h.output, h.size, fun k hk => h.block k (by omega) (by omega) (by omega)⟩
theorem But.mono {x y : Nat} {w0 w w' : World} (h : But x y w w') (hb : Below w0.heap.size w0 w) : But x y w0 w' := (But.of_below hb).trans h

structure WB where
  q : Nat
  b0 : Nat
  o0 : Nat
  c0 : Nat
  b1 : Nat
  o1 : Nat
  c1 : Nat
  b2 : Nat
  o2 : Nat
  c2 : Nat
  b3 : Nat
  c3 : Nat
  b4 : Nat
  c4 : Nat

structure Stat (w : World) (g : WB) (B : List Bool) (C : List LIns) (R : List LRow) (A : List LPlace) (N : List Int) : Prop where
  p0 : w.cell? ⟨g.q, 0, none⟩ = some (.slice (some ⟨g.b0, g.o0, none⟩) B.length g.c0)
  p1 : w.cell? ⟨g.q, 1, none⟩ = some (.slice (some ⟨g.b1, g.o1, none⟩) C.length g.c1)
  p2 : w.cell? ⟨g.q, 2, none⟩ = some (.slice (some ⟨g.b2, g.o2, none⟩) R.length g.c2)
  p3 : w.cell? ⟨g.q, 3, none⟩ = some (.slice (some ⟨g.b3, 0, none⟩) A.length g.c3)
  p4 : w.cell? ⟨g.q, 4, none⟩ = some (.slice (some ⟨g.b4, 0, none⟩) N.length g.c4)
  held : Held w g.b0 g.o0 g.b1 g.o1 B C
  rows : RowsHeld w g.b2 g.o2 R
  plc : ∀ j, j < A.length → w.cell? ⟨g.b3, j * 2, none⟩ = some (.int .i64 (A.getD j .zero).kind) ∧ w.cell? ⟨g.b3, j * 2 + 1, none⟩ = some (.int .i64 (A.getD j .zero).n)
  nums : ∀ j, j < N.length → w.cell? ⟨g.b4, j, none⟩ = some (.int .u32 (N.getD j 0))
theorem Stat.later {w w' : World} {g : WB} {B : List Bool} {C : List LIns} {R : List LRow} {A : List LPlace} {N : List Int} (h : Stat w g B C R A N) (hb : Below w.heap.size w w') : Stat w' g B C R A N :=
  ⟨step_cell hb h.p0, step_cell hb h.p1, step_cell hb h.p2, step_cell hb h.p3, step_cell hb h.p4, h.held.later hb, h.rows.later hb, fun j hj => ⟨step_cell hb (h.plc j hj).1, step_cell hb (h.plc j hj).2⟩, fun j hj => step_cell hb (h.nums j hj)⟩

def WorldAt (w : World) (lim : Nat) (g : WB) (B : List Bool) (C : List LIns) (R : List LRow) (A : List LPlace) (N : List Int) : Prop := ∃ w0 : World, w0.heap.size = lim ∧ Stat w0 g B C R A N ∧ Below lim w0 w
section
variable {w w' : World} {lim : Nat} {g : WB} {B : List Bool} {C : List LIns} {R : List LRow} {A : List LPlace} {N : List Int}
theorem WorldAt.stat (h : WorldAt w lim g B C R A N) : Stat w g B C R A N := by
  obtain ⟨w0, h1, h2, h3⟩ := h
  exact h2.later (by rw [h1]; exact h3)
theorem WorldAt.le (h : WorldAt w lim g B C R A N) : lim ≤ w.heap.size := by
  obtain ⟨w0, h1, h2, h3⟩ := h
  rw [← h1]; exact h3.size
theorem WorldAt.keep (h : WorldAt w lim g B C R A N) (hb : Below lim w w') : WorldAt w' lim g B C R A N := by
  obtain ⟨w0, h1, h2, h3⟩ := h
  exact ⟨w0, h1, h2, h3.trans hb⟩
theorem WorldAt.below (h : WorldAt w lim g B C R A N) (hb : Below w.heap.size w w') : WorldAt w' lim g B C R A N := h.keep (hb.mono h.le)
theorem WorldAt.but {x y : Nat} (h : WorldAt w lim g B C R A N) (hb : But x y w w') (h1 : lim ≤ x) (h2 : lim ≤ y) : WorldAt w' lim g B C R A N := h.keep (hb.toBelow h.le h1 h2)
theorem WorldAt.start (h : Stat w g B C R A N) : WorldAt w w.heap.size g B C R A N := ⟨w, rfl, h, Below.refl _ _⟩
end

structure Dims (B : List Bool) (C : List LIns) (s slots : Nat) (A : List LPlace) (N : List Int) : Prop where
  b1 : 1 ≤ B.length
  b12 : B.length ≤ 12
  c1 : 1 ≤ C.length
  c40 : C.length ≤ 40
  s4 : 4 ≤ s
  s16 : s ≤ 16
  s2 : s % 2 = 0
  l12 : slots ≤ 12
  a36 : A.length ≤ 36
  all : ∀ p, p ∈ A ↔ isB s slots p = true
  n1 : 1 ≤ N.length
  n41 : N.length ≤ 41
  inc : N.Pairwise (· < ·)
  num : NumsOf C N

theorem Dims.wf {B : List Bool} {C : List LIns} {s slots : Nat} {A : List LPlace} {N : List Int} (h : Dims B C s slots A N) {p : LPlace} (hp : isB s slots p = true) : PlWf p := by
  have := h.s16
  have := h.l12
  rcases is_cases hp with ⟨a, b, c⟩ | ⟨a, b, c⟩ | ⟨a, b, c⟩ <;> exact ⟨by omega, by omega, by omega, by omega⟩
def tempsL (n : Nat) : List Int := (List.range n).map (fun t : Nat => (t : Int))
theorem tempsL_len (n : Nat) : (tempsL n).length = n := by simp [tempsL]
theorem tempsL_mem {n : Nat} {t : Int} : t ∈ tempsL n ↔ 0 ≤ t ∧ t < n := by
  unfold tempsL
  rw [List.mem_map]
  constructor
  · rintro ⟨k, hk, rfl⟩
    have := List.mem_range.1 hk
    omega
  · rintro ⟨h0, h1⟩
    exact ⟨t.toNat, List.mem_range.2 (by omega), by omega⟩

end Go.Proofs.YtcmnmogmdhofcabGreat.form
