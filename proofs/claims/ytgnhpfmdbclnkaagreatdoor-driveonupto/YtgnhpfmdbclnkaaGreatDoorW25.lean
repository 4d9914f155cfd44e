/- Places that are taken still are, where something is moved into a slot more ahead of an instruction. On plain numbers. -/
import Derived.Test.YtgnhpfmdbclnkaaGreatDoorW13
import Derived.Test.YtgnhpfmdbclnkaaGreatDoorW15
import Derived.Test.YtgnhpfmdbclnkaaGreatDoorW24
import Derived.Test.YtgnhpfmdbclnkaaGreatDoorW22

namespace Go.Proofs.YtgnhpfmdbclnkaaGreatDoor
set_option linter.unusedVariables false
namespace form
open Go.RowKit num
end form
/- Places in which each temporary has a home: what is taken is brought from there, what is given is put there: they are taken. On plain numbers. -/
namespace form
open Go.RowKit
theorem same_is {a b : LPlace} (h : samePl a b = true) : a = b := samePl_eq h
theorem same_refl (p : LPlace) : samePl p p = true := by unfold samePl; simp
structure RowHome (B : List Bool) (C : List LIns) (home : Nat → LPlace) (k : Nat) (i : LIns) (r : LRow) : Prop where
  keep : ∀ m, m ∈ r.before → ∀ t : Nat, t < B.length → Need C t k → overB (home t) m.dst = false
  ua : 0 < manyI i.op → r.a = home i.a.toNat ∨ ∃ pre post, r.before = pre ++ ⟨r.a, home i.a.toNat, false, 0⟩ :: post ∧ ∀ m, m ∈ post → overB r.a m.dst = false
  ub : 1 < manyI i.op → r.b = home i.b.toNat ∨ ∃ pre post, r.before = pre ++ ⟨r.b, home i.b.toNat, false, 0⟩ :: post ∧ ∀ m, m ∈ post → overB r.b m.dst = false
  dest : givesB i.op = true → (r.dest = home i.dest.toNat ∧ r.after = []) ∨
    (r.after = [⟨home i.dest.toNat, r.dest, false, 0⟩] ∧ ∀ t : Nat, t < B.length → ¬ (t : Int) = i.dest → (∃ x, x ∈ nextsN i k ∧ Need C t x) → overB (home t) r.dest = false)
  none : givesB i.op = false → r.after = []
structure HomeOk (B : List Bool) (C : List LIns) (s slots : Int) (home : Nat → LPlace) : Prop where
  is : ∀ t, t < B.length → isB s slots (home t) = true
  fit : ∀ t, t < B.length → (home t).kind = 3 ∨ (home t).kind = if B.getD t false then 2 else 1
  apart : ∀ a b : Nat, a < B.length → b < B.length → Near C a b → overB (home a) (home b) = false
end form
/- Homes out of registers that color.Make gave, and of slots: none in the way of another one that is near, nor of registers that are left over. On plain numbers. -/
namespace form
open Go.RowKit
def homeC (off : Nat) (slot : Nat → Nat) (G : List LPlace) (t : Nat) : LPlace :=
  if (G.getD t .zero).kind = 0 then ⟨3, slot t⟩ else if (G.getD t .zero).kind = 1 then ⟨1, (G.getD t .zero).n + (off : Int)⟩ else ⟨2, (G.getD t .zero).n + ((off / 2 : Nat) : Int)⟩
theorem home_cases {B : List Bool} {C : List LIns} {n off : Nat} {slot : Nat → Nat} {G : List LPlace} (hG : GivOk B C n G) {t : Nat} (ht : t < B.length) :
    ((G.getD t .zero).kind = 0 ∧ homeC off slot G t = ⟨3, slot t⟩) ∨
    (B.getD t false = false ∧ (G.getD t .zero).kind = 1 ∧ 0 ≤ (G.getD t .zero).n ∧ (G.getD t .zero).n < n ∧ homeC off slot G t = ⟨1, (G.getD t .zero).n + (off : Int)⟩) ∨
    (B.getD t false = true ∧ (G.getD t .zero).kind = 2 ∧ 0 ≤ (G.getD t .zero).n ∧ 2 * (G.getD t .zero).n < n ∧ homeC off slot G t = ⟨2, (G.getD t .zero).n + ((off / 2 : Nat) : Int)⟩) := by
  rcases hG.reg t ht with ⟨h1, -⟩ | ⟨h1, h2⟩
  · exact Or.inl ⟨h1, by unfold homeC; rw [if_pos h1]⟩
  · right
    have hc := is_cases h2
    rcases Bool.eq_false_or_eq_true (B.getD t false) with hb | hb
    · rw [hb] at h1
      simp only [if_true] at h1
      right
      refine ⟨hb, h1, ?_, ?_, by unfold homeC; rw [if_neg (by omega), if_neg (by omega)]⟩ <;> omega
    · rw [hb] at h1
      simp only [Bool.false_eq_true, if_false] at h1
      left
      refine ⟨hb, h1, ?_, ?_, by unfold homeC; rw [if_neg (by omega), if_pos h1]⟩ <;> omega
theorem home_color {B : List Bool} {C : List LIns} {n off : Nat} {s slots : Int} {slot : Nat → Nat} {G : List LPlace} (hG : GivOk B C n G) (h2 : off % 2 = 0) (hs : (n : Int) + off ≤ s) (h100 : s ≤ 16)
    (hl : ∀ t, t < B.length → (G.getD t .zero).kind = 0 → (slot t : Int) < slots) (hd : ∀ a b, a < B.length → b < B.length → ¬ a = b → (G.getD a .zero).kind = 0 → (G.getD b .zero).kind = 0 → ¬ slot a = slot b) :
    HomeOk B C s slots (homeC off slot G) := by
  refine ⟨fun t ht => ?_, fun t ht => ?_, fun a b ha hb hn => ?_⟩
  · rcases home_cases (off := off) (slot := slot) hG ht with ⟨h0, e⟩ | ⟨-, -, h3, h4, e⟩ | ⟨-, -, h3, h4, e⟩
    · have := hl t ht h0
      rw [e]; unfold isB; simp; omega
    all_goals
      rw [e]
      generalize G.getD t .zero = q at h3 h4
      unfold isB
      simp
      omega
  · rcases home_cases (off := off) (slot := slot) hG ht with ⟨h0, e⟩ | ⟨hw, -, h3, h4, e⟩ | ⟨hw, -, h3, h4, e⟩
    · rw [e]; exact Or.inl rfl
    · rw [e, hw]; exact Or.inr rfl
    · rw [e, hw]; exact Or.inr rfl
  · have hab : ¬ a = b := fun e => hn.1 (by rw [e])
    have hfar := hG.far a b ha hb hn
    rcases home_cases (off := off) (slot := slot) hG ha with ⟨k1, e1⟩ | ⟨-, k1, a1, a2, e1⟩ | ⟨-, k1, a1, a2, e1⟩ <;> rcases home_cases (off := off) (slot := slot) hG hb with ⟨k2, e2⟩ | ⟨-, k2, b1, b2, e2⟩ | ⟨-, k2, b1, b2, e2⟩ <;> rw [e1, e2]
    · have := hd a b ha hb hab k1 k2
      unfold overB
      simp
      omega
    · unfold overB; simp
    · unfold overB; simp
    · unfold overB; simp
    all_goals try (unfold overB; simp; done)
    all_goals
      have hf := hfar (by omega) (by omega)
      generalize G.getD a .zero = q at *
      generalize G.getD b .zero = u at *
      unfold overB at hf ⊢
      simp [k1, k2] at hf ⊢
      omega
def Spare (n off : Nat) (p : LPlace) : Prop := (p.kind = 1 ∧ (p.n < off ∨ (n : Int) + off ≤ p.n)) ∨ (p.kind = 2 ∧ (2 * p.n + 1 < off ∨ (n : Int) + off ≤ 2 * p.n))
theorem home_spare {B : List Bool} {C : List LIns} {n off : Nat} {slot : Nat → Nat} {G : List LPlace} (hG : GivOk B C n G) (h2 : off % 2 = 0) (hn : n % 2 = 0) {p : LPlace} (hp : Spare n off p) {t : Nat} (ht : t < B.length) : overB (homeC off slot G t) p = false := by
  obtain ⟨pk, pn⟩ := p
  unfold Spare at hp
  simp only at hp
  rcases home_cases (off := off) (slot := slot) hG ht with ⟨h0, e⟩ | ⟨-, -, h3, h4, e⟩ | ⟨-, -, h3, h4, e⟩ <;> rw [e] <;> (try generalize G.getD t .zero = q at *) <;> rcases hp with ⟨rfl, hp⟩ | ⟨rfl, hp⟩ <;> unfold overB <;> simp <;> omega
end form
/- The places that the program's own build.Build makes, on plain numbers: homes out of color's registers and of slots, two ferries: they are taken. -/
namespace form
open Go.RowKit
def hasZ (G : List LPlace) : Bool := G.any (fun p => samePl p .zero)
noncomputable def regsF (B : List Bool) (C : List LIns) (n : Nat) : List LPlace := if hasZ (makeF B C n) then makeF B C (n - 4) else makeF B C n
def noneN (G : List LPlace) : Nat := (G.filter (fun p => decide (p.kind = 0))).length
theorem noneN_app (a b : List LPlace) : noneN (a ++ b) = noneN a + noneN b := by simp [noneN]
theorem noneN_le (G : List LPlace) : noneN G ≤ G.length := List.length_filter_le _ _
theorem noneN_one (p : LPlace) : noneN [p] = if p.kind = 0 then 1 else 0 := by
  unfold noneN
  by_cases h : p.kind = 0 <;> simp [h]
def giveL : Nat → List LPlace → List LPlace
  | _, [] => []
  | m, p :: l => (if p.kind = 0 then ⟨3, (m : Int)⟩ else p) :: giveL (m + noneN [p]) l
theorem giveL_len : ∀ (l : List LPlace) (m : Nat), (giveL m l).length = l.length
  | [], _ => rfl
  | p :: l, m => by simp [giveL, giveL_len l]
theorem giveL_app : ∀ (a b : List LPlace) (m : Nat), giveL m (a ++ b) = giveL m a ++ giveL (m + noneN a) b
  | [], b, m => by simp [giveL, noneN]
  | p :: a, b, m => by
    have h : noneN (p :: a) = noneN [p] + noneN a := noneN_app [p] a
    simp only [List.cons_append, giveL]
    rw [giveL_app a b, h, Nat.add_assoc]
theorem giveL_get : ∀ (G : List LPlace) (m t : Nat), t < G.length → (giveL m G).getD t .zero = if (G.getD t .zero).kind = 0 then ⟨3, ((m + noneN (G.take t) : Nat) : Int)⟩ else G.getD t .zero
  | [], _, _, h => by simp at h
  | p :: l, m, 0, _ => by simp [giveL, noneN]
  | p :: l, m, t + 1, h => by
    have ih := giveL_get l (m + noneN [p]) t (by simpa using h)
    have e : noneN ((p :: l).take (t + 1)) = noneN [p] + noneN (l.take t) := by rw [List.take_succ_cons]; exact noneN_app [p] _
    simp only [giveL, List.getD_cons_succ]
    rw [ih, e, Nat.add_assoc]
def giveU (G : List LPlace) (k : Nat) : List LPlace := giveL 0 (G.take k) ++ G.drop k
theorem giveU_zero (G : List LPlace) : giveU G 0 = G := by simp [giveU, giveL]
theorem giveU_all (G : List LPlace) : giveU G G.length = giveL 0 G := by simp [giveU]
theorem giveU_len (G : List LPlace) (k : Nat) : (giveU G k).length = G.length := by
  simp only [giveU, List.length_append, giveL_len, List.length_take, List.length_drop]
  omega
theorem take_oneP {G : List LPlace} {k : Nat} (h : k < G.length) : G.take (k + 1) = G.take k ++ [G.getD k .zero] := by
  rw [List.take_add_one]
  simp [List.getD, h]
theorem drop_oneP {G : List LPlace} {k : Nat} (h : k < G.length) : G.drop k = G.getD k .zero :: G.drop (k + 1) := by
  rw [List.drop_eq_getElem_cons h]
  simp [List.getD, h]
theorem giveU_get {G : List LPlace} {k : Nat} (h : k < G.length) : (giveU G k).getD k .zero = G.getD k .zero := by
  have e : (giveL 0 (G.take k)).length = k := by rw [giveL_len, List.length_take]; omega
  unfold giveU
  rw [drop_oneP h]
  simp only [List.getD_eq_getElem?_getD]
  rw [List.getElem?_append_right (by omega), e, Nat.sub_self]
  simp
theorem giveU_one {G : List LPlace} {k : Nat} (h : k < G.length) : giveU G (k + 1) = giveL 0 (G.take k) ++ (if (G.getD k .zero).kind = 0 then ⟨3, (noneN (G.take k) : Int)⟩ else G.getD k .zero) :: G.drop (k + 1) := by
  unfold giveU
  rw [take_oneP h, giveL_app]
  simp [giveL]
theorem giveU_yes {G : List LPlace} {k : Nat} (h : k < G.length) (h0 : (G.getD k .zero).kind = 0) : giveU G (k + 1) = (giveU G k).set k ⟨3, (noneN (G.take k) : Int)⟩ ∧ noneN (G.take (k + 1)) = noneN (G.take k) + 1 := by
  refine ⟨?_, by rw [take_oneP h, noneN_app, noneN_one, if_pos h0]⟩
  have e : (giveL 0 (G.take k)).length = k := by rw [giveL_len, List.length_take]; omega
  rw [giveU_one h, if_pos h0]
  unfold giveU
  rw [drop_oneP h, List.set_append_right _ _ (by omega), e, Nat.sub_self, List.set_cons_zero]
theorem giveU_no {G : List LPlace} {k : Nat} (h : k < G.length) (h0 : ¬ (G.getD k .zero).kind = 0) : giveU G (k + 1) = giveU G k ∧ noneN (G.take (k + 1)) = noneN (G.take k) := by
  refine ⟨?_, by rw [take_oneP h, noneN_app, noneN_one, if_neg h0, Nat.add_zero]⟩
  rw [giveU_one h, if_neg h0]
  unfold giveU
  rw [drop_oneP h]
def regL (B : List Bool) (H : List LPlace) (t : Nat) (f : Int) : LPlace := if (H.getD t .zero).kind = 3 then (if B.getD t false then ⟨2, f⟩ else ⟨1, 2 * f⟩) else H.getD t .zero
def bringL (l : List LMove) (dst src : LPlace) : List LMove := if samePl dst src then l else l ++ [⟨dst, src, false, 0⟩]
def rowPA (B : List Bool) (H : List LPlace) (f0 : Int) (i : LIns) : LPlace := if 0 < manyI i.op then regL B H i.a.toNat f0 else .zero
def rowMA (B : List Bool) (H : List LPlace) (f0 : Int) (i : LIns) : List LMove := if 0 < manyI i.op then bringL [] (regL B H i.a.toNat f0) (H.getD i.a.toNat .zero) else []
def rowBB (B : List Bool) (H : List LPlace) (f1 : Int) (i : LIns) : LPlace := if 1 < manyI i.op then regL B H i.b.toNat f1 else .zero
def rowMB (B : List Bool) (H : List LPlace) (f1 : Int) (i : LIns) (l : List LMove) : List LMove := if 1 < manyI i.op then bringL l (regL B H i.b.toNat f1) (H.getD i.b.toNat .zero) else l
def rowD (B : List Bool) (H : List LPlace) (f0 : Int) (i : LIns) : LPlace := if givesB i.op then regL B H i.dest.toNat f0 else .zero
def rowMD (B : List Bool) (H : List LPlace) (f0 : Int) (i : LIns) : List LMove := if givesB i.op then bringL [] (H.getD i.dest.toNat .zero) (regL B H i.dest.toNat f0) else []
def rowL (B : List Bool) (H : List LPlace) (f0 f1 : Int) (i : LIns) : LRow := ⟨rowD B H f0 i, rowPA B H f0 i, rowBB B H f1 i, rowMB B H f1 i (rowMA B H f0 i), rowMD B H f0 i⟩
noncomputable def buildF (B : List Bool) (C : List LIns) (s : Int) : Int × List LRow :=
  ((noneN (regsF B C s.toNat) : Int), C.map (rowL B (giveL 0 (regsF B C s.toNat)) (s / 2 - 2) (s / 2 - 1)))
theorem HomeOk.same {B : List Bool} {C : List LIns} {s slots : Int} {h1 h2 : Nat → LPlace} (h : HomeOk B C s slots h1) (e : ∀ t, t < B.length → h2 t = h1 t) : HomeOk B C s slots h2 :=
  ⟨fun t ht => by rw [e t ht]; exact h.is t ht, fun t ht => by rw [e t ht]; exact h.fit t ht, fun a b ha hb hn => by rw [e a ha, e b hb]; exact h.apart a b ha hb hn⟩
structure FerryOk (B : List Bool) (C : List LIns) (s slots : Int) (H : List LPlace) : Prop where
  ok : HomeOk B C s slots (fun t => H.getD t .zero)
  sp : ∀ t, t < B.length → (H.getD t .zero).kind = 3 → ∀ u, u < B.length → ∀ p : LPlace, (p.kind = 2 ∧ s ≤ 2 * p.n + 4) ∨ (p.kind = 1 ∧ s ≤ p.n + 4) → overB (H.getD u .zero) p = false
theorem noneN_slot {G : List LPlace} {a b : Nat} (hb : b < G.length) (hab : a < b) (ha : (G.getD a .zero).kind = 0) : noneN (G.take a) < noneN (G.take b) := by
  have e : G.take b = G.take (a + 1) ++ (G.take b).drop (a + 1) := by
    have := (List.take_append_drop (a + 1) (G.take b)).symm
    rw [List.take_take, Nat.min_eq_left (by omega)] at this
    exact this
  rw [e, noneN_app, (giveU_yes (by omega) ha).2]
  omega
theorem noneN_slots {G : List LPlace} {a : Nat} (h : a < G.length) (ha : (G.getD a .zero).kind = 0) : noneN (G.take a) < noneN G := by
  have e : G = G.take (a + 1) ++ G.drop (a + 1) := (List.take_append_drop _ _).symm
  have : noneN G = noneN (G.take (a + 1)) + noneN (G.drop (a + 1)) := by rw [← noneN_app, ← e]
  rw [this, (giveU_yes h ha).2]
  omega
theorem give_home {B : List Bool} {C : List LIns} {n : Nat} {G : List LPlace} (hG : GivOk B C n G) {t : Nat} (ht : t < B.length) : (giveL 0 G).getD t .zero = homeC 0 (fun t => noneN (G.take t)) G t := by
  rw [giveL_get _ _ _ (by rw [hG.len]; exact ht)]
  unfold homeC
  simp only [Nat.zero_add]
  by_cases h0 : (G.getD t .zero).kind = 0
  · rw [if_pos h0, if_pos h0]
  · rw [if_neg h0, if_neg h0]
    rcases hG.reg t ht with ⟨h1, -⟩ | ⟨-, h2⟩
    · exact absurd h1 h0
    · have hc := is_cases h2
      obtain ⟨x, hx⟩ : ∃ x, x = G.getD t .zero := ⟨_, rfl⟩
      rw [← hx] at hc h0 ⊢
      obtain ⟨k, m⟩ := x
      simp only at hc h0 ⊢
      by_cases h1 : k = 1
      · rw [if_pos h1, h1]; simp
      · rw [if_neg h1, show k = 2 by omega]; simp
theorem give_ferry {B : List Bool} {C : List LIns} {n : Nat} {s : Int} {G : List LPlace} (hG : GivOk B C n G) (hn : n % 2 = 0) (hns : (n : Int) ≤ s) (h16 : s ≤ 16) (hz : (∀ t, t < B.length → ¬ (G.getD t .zero).kind = 0) ∨ (n : Int) + 4 ≤ s) : FerryOk B C s (noneN G) (giveL 0 G) := by
  have hl := hG.len
  refine ⟨(home_color (off := 0) (slot := fun t => noneN (G.take t)) hG (by omega) (by omega) h16 (fun t ht h0 => ?_) (fun a b ha hb hab h1 h2 => ?_)).same (fun t ht => give_home hG ht), fun t ht h3 u hu p hp => ?_⟩
  · have := noneN_slots (G := G) (a := t) (by omega) h0
    show ((noneN (G.take t) : Nat) : Int) < _
    omega
  · show ¬ noneN (G.take a) = noneN (G.take b)
    rcases Nat.lt_or_gt_of_ne hab with h | h
    · have := noneN_slot (G := G) (by omega) h h1; omega
    · have := noneN_slot (G := G) (by omega) h h2; omega
  · rcases hz with hz | hz
    · exfalso
      rw [giveL_get _ _ _ (by omega), if_neg (hz t ht)] at h3
      rcases hG.reg t ht with ⟨h1, -⟩ | ⟨-, h2⟩
      · exact hz t ht h1
      · have := is_cases h2; omega
    · rw [give_home hG hu]
      refine home_spare hG (by omega) hn ?_ hu
      unfold Spare
      omega
theorem hasZ_no {B : List Bool} {C : List LIns} {n : Nat} {G : List LPlace} (hG : GivOk B C n G) (h : hasZ G = false) : ∀ t, t < B.length → ¬ (G.getD t .zero).kind = 0 := by
  intro t ht h0
  have hl := hG.len
  rcases hG.reg t ht with ⟨-, h1⟩ | ⟨-, h2⟩
  · unfold hasZ at h
    rw [List.any_eq_false] at h
    have hm : G.getD t .zero ∈ G := by simp [List.getD, show t < G.length by omega]
    refine h _ hm ?_
    unfold samePl
    rw [h0, h1]
    rfl
  · exact is_kind h2 h0
theorem regs_ferry {B : List Bool} {C : List LIns} {s : Int} (h1 : 1 ≤ B.length) (hs : targetB s = true) : (regsF B C s.toNat).length = B.length ∧ FerryOk B C s (noneN (regsF B C s.toNat)) (giveL 0 (regsF B C s.toNat)) := by
  unfold targetB at hs
  simp only [Bool.or_eq_true, beq_iff_eq] at hs
  obtain ⟨n, rfl⟩ : ∃ n : Nat, s = n := ⟨s.toNat, by omega⟩
  have e : ((n : Int)).toNat = n := by omega
  rw [e]
  have hG : GivOk B C n (makeF B C n) := makeF_ok h1 (by omega) (by omega)
  have hG4 : GivOk B C (n - 4) (makeF B C (n - 4)) := makeF_ok h1 (by omega) (by omega)
  unfold regsF
  rcases Bool.eq_false_or_eq_true (hasZ (makeF B C n)) with hz | hz
  · rw [if_pos hz]
    exact ⟨hG4.len, give_ferry hG4 (by omega) (by omega) (by omega) (Or.inr (by omega))⟩
  · rw [if_neg (by rw [hz]; simp)]
    exact ⟨hG.len, give_ferry hG (by omega) (by omega) (by omega) (Or.inl (hasZ_no hG hz))⟩
theorem moves_zero (s slots : Int) : movesB s slots [] = true := rfl
theorem moves_one {s slots : Int} {m : LMove} (h : moveB s slots m = true) : movesB s slots [m] = true := by simp [movesB, h]
theorem moves_two {s slots : Int} {m m2 : LMove} (h : moveB s slots m = true) (h2 : moveB s slots m2 = true) : movesB s slots ([m] ++ [m2]) = true := by simp [movesB, h, h2]
section
variable {B : List Bool} {C : List LIns} {s slots : Int} {H : List LPlace}
theorem reg_cases (h : FerryOk B C s slots H) {t : Nat} (ht : t < B.length) (f : Int) : (regL B H t f = H.getD t .zero ∧ ¬ (H.getD t .zero).kind = 3) ∨ ((H.getD t .zero).kind = 3 ∧ ((B.getD t false = true ∧ regL B H t f = ⟨2, f⟩) ∨ (B.getD t false = false ∧ regL B H t f = ⟨1, 2 * f⟩))) := by
  unfold regL
  by_cases h3 : (H.getD t .zero).kind = 3
  · right
    rw [if_pos h3]
    refine ⟨h3, ?_⟩
    rcases Bool.eq_false_or_eq_true (B.getD t false) with hb | hb
    · exact Or.inl ⟨hb, by rw [hb]; rfl⟩
    · exact Or.inr ⟨hb, by rw [hb]; rfl⟩
  · left
    rw [if_neg h3]
    exact ⟨rfl, h3⟩
theorem reg_reg (h : FerryOk B C s slots H) {t : Nat} (ht : t < B.length) {f : Int} (h0 : 0 ≤ f) (h1 : 2 * f < s) (h16 : s ≤ 16) : regB B s t (regL B H t f) = true := by
  unfold regB
  rw [Int.toNat_natCast]
  rcases reg_cases h ht f with ⟨e, h3⟩ | ⟨h3, ⟨hb, e⟩ | ⟨hb, e⟩⟩
  · rw [e]
    have h4 : isB s slots (H.getD t .zero) = true := h.ok.is t ht
    have h5 : (H.getD t .zero).kind = 3 ∨ (H.getD t .zero).kind = if B.getD t false then 2 else 1 := h.ok.fit t ht
    obtain ⟨p, hp⟩ : ∃ p, p = H.getD t .zero := ⟨_, rfl⟩
    rw [← hp] at h3 h4 h5 ⊢
    have h6 := is_cases h4
    have h7 : p.kind = if B.getD t false then 2 else 1 := by
      rcases h5 with h5 | h5
      · exact absurd h5 h3
      · exact h5
    simp only [Bool.and_eq_true, beq_iff_eq]
    refine ⟨h7, ?_⟩
    unfold isB
    by_cases k1 : p.kind = 1
    · rw [if_pos k1]; simp; omega
    · rw [if_neg k1, if_pos (by omega)]; simp; omega
  · rw [e, hb]; unfold isB; simp; omega
  · rw [e, hb]; unfold isB; simp; omega
theorem bring_cases (l : List LMove) (d c : LPlace) : (d = c ∧ bringL l d c = l) ∨ bringL l d c = l ++ [⟨d, c, false, 0⟩] := by
  unfold bringL
  rcases Bool.eq_false_or_eq_true (samePl d c) with e | e
  · exact Or.inl ⟨same_is e, by rw [e]; rfl⟩
  · exact Or.inr (by rw [e]; rfl)
theorem bring_home (h : FerryOk B C s slots H) {t : Nat} (ht : t < B.length) (f : Int) (l : List LMove) :
    (¬ (H.getD t .zero).kind = 3 ∧ regL B H t f = H.getD t .zero ∧ bringL l (regL B H t f) (H.getD t .zero) = l ∧ bringL l (H.getD t .zero) (regL B H t f) = l) ∨
    ((H.getD t .zero).kind = 3 ∧ ((regL B H t f).kind = 2 ∧ (regL B H t f).n = f ∨ (regL B H t f).kind = 1 ∧ (regL B H t f).n = 2 * f) ∧ bringL l (regL B H t f) (H.getD t .zero) = l ++ [⟨regL B H t f, H.getD t .zero, false, 0⟩] ∧ bringL l (H.getD t .zero) (regL B H t f) = l ++ [⟨H.getD t .zero, regL B H t f, false, 0⟩]) := by
  rcases reg_cases h ht f with ⟨e, h3⟩ | ⟨h3, h4⟩
  · left
    refine ⟨h3, e, ?_, ?_⟩ <;> rw [e] <;> unfold bringL <;> rw [same_refl] <;> rfl
  · right
    have hk : (regL B H t f).kind = 2 ∧ (regL B H t f).n = f ∨ (regL B H t f).kind = 1 ∧ (regL B H t f).n = 2 * f := by
      rcases h4 with ⟨-, e⟩ | ⟨-, e⟩ <;> rw [e] <;> simp
    refine ⟨h3, hk, ?_, ?_⟩
    · rcases bring_cases l (regL B H t f) (H.getD t .zero) with ⟨e, -⟩ | e
      · rw [e] at hk; omega
      · exact e
    · rcases bring_cases l (H.getD t .zero) (regL B H t f) with ⟨e, -⟩ | e
      · rw [← e] at hk; omega
      · exact e
theorem row_home (h : FerryOk B C s slots H) (hs : targetB s = true) {i : LIns} (hi : InsOk B.length C.length i) (k : Nat) : RowHome B C (fun t => H.getD t .zero) k i (rowL B H (s / 2 - 2) (s / 2 - 1) i) := by
  unfold targetB at hs
  simp only [Bool.or_eq_true, beq_iff_eq] at hs
  obtain ⟨a, ha⟩ : ∃ a : Nat, i.a = a := ⟨i.a.toNat, by have := hi.a0; omega⟩
  obtain ⟨b, hb⟩ : ∃ b : Nat, i.b = b := ⟨i.b.toNat, by have := hi.b0; omega⟩
  have hal : a < B.length := by have := hi.a1; omega
  have hbl : b < B.length := by have := hi.b1; omega
  have ca := fun l => bring_home h hal (s / 2 - 2) l
  have cb := fun l => bring_home h hbl (s / 2 - 1) l
  refine ⟨?_, ?_, ?_, ?_, ?_⟩
  · intro m hm t ht hn
    simp only [rowL, rowMB, rowMA, ha, hb, Int.toNat_natCast] at hm
    have key : ∀ l, m ∈ bringL l (regL B H a (s / 2 - 2)) (H.getD a .zero) → m ∈ l ∨ overB (H.getD t .zero) m.dst = false := by
      intro l hm
      rcases ca l with ⟨-, -, e, -⟩ | ⟨h3, hk, e, -⟩
      · rw [e] at hm; exact Or.inl hm
      · rw [e, List.mem_append, List.mem_singleton] at hm
        rcases hm with hm | hm
        · exact Or.inl hm
        · right
          rw [hm]
          exact h.sp a hal h3 t ht _ (by simp only; omega)
    have key2 : ∀ l, m ∈ bringL l (regL B H b (s / 2 - 1)) (H.getD b .zero) → m ∈ l ∨ overB (H.getD t .zero) m.dst = false := by
      intro l hm
      rcases cb l with ⟨-, -, e, -⟩ | ⟨h3, hk, e, -⟩
      · rw [e] at hm; exact Or.inl hm
      · rw [e, List.mem_append, List.mem_singleton] at hm
        rcases hm with hm | hm
        · exact Or.inl hm
        · right
          rw [hm]
          exact h.sp b hbl h3 t ht _ (by simp only; omega)
    have fin : m ∈ (if 0 < manyI i.op then bringL [] (regL B H a (s / 2 - 2)) (H.getD a .zero) else []) → overB (H.getD t .zero) m.dst = false := by
      intro hm
      split at hm
      · rcases key _ hm with e | e
        · simp at e
        · exact e
      · simp at hm
    split at hm
    · rcases key2 _ hm with e | e
      · exact fin e
      · exact e
    · exact fin hm
  · intro hm
    simp only [rowL, rowPA, rowMB, rowMA, ha, hb, Int.toNat_natCast, if_pos hm]
    rcases ca [] with ⟨-, e, -, -⟩ | ⟨h3, hk, e, -⟩
    · exact Or.inl e
    · right
      rw [e]
      by_cases hm2 : 1 < manyI i.op
      · rw [if_pos hm2]
        rcases cb ([] ++ [⟨regL B H a (s / 2 - 2), H.getD a .zero, false, 0⟩]) with ⟨-, -, e2, -⟩ | ⟨h32, hk2, e2, -⟩
        · rw [e2]
          exact ⟨[], [], rfl, fun m hm => by simp at hm⟩
        · rw [e2]
          refine ⟨[], [⟨regL B H b (s / 2 - 1), H.getD b .zero, false, 0⟩], rfl, fun m hm => ?_⟩
          rw [List.mem_singleton.1 hm]
          simp only
          generalize regL B H a (s / 2 - 2) = p at hk
          generalize regL B H b (s / 2 - 1) = q at hk2
          unfold overB
          rcases hk with ⟨k1, k2⟩ | ⟨k1, k2⟩ <;> rcases hk2 with ⟨l1, l2⟩ | ⟨l1, l2⟩ <;> simp [k1, k2, l1, l2] <;> omega
      · rw [if_neg hm2]
        exact ⟨[], [], rfl, fun m hm => by simp at hm⟩
  · intro hm
    simp only [rowL, rowBB, rowMB, rowMA, ha, hb, Int.toNat_natCast, if_pos hm]
    rcases cb (if 0 < manyI i.op then bringL [] (regL B H a (s / 2 - 2)) (H.getD a .zero) else []) with ⟨-, e, -, -⟩ | ⟨h3, hk, e, -⟩
    · exact Or.inl e
    · exact Or.inr ⟨_, [], e, fun m hm => by simp at hm⟩
  · intro hg
    obtain ⟨d0, d1⟩ := hi.d hg
    obtain ⟨d, hd⟩ : ∃ d : Nat, i.dest = d := ⟨i.dest.toNat, by omega⟩
    have hdl : d < B.length := by omega
    simp only [rowL, rowD, rowMD, hd, Int.toNat_natCast, if_pos hg]
    rcases bring_home h hdl (s / 2 - 2) [] with ⟨-, e, -, e2⟩ | ⟨h3, hk, -, e2⟩
    · exact Or.inl ⟨e, e2⟩
    · exact Or.inr ⟨e2, fun t ht _ _ => h.sp d hdl h3 t ht _ (by omega)⟩
  · intro hg
    simp only [rowL, rowMD]
    rw [hg]
    rfl
theorem row_may (h : FerryOk B C s slots H) (hs : targetB s = true) {i : LIns} (hi : InsOk B.length C.length i) : rowB B s slots i (rowL B H (s / 2 - 2) (s / 2 - 1) i) = true := by
  unfold targetB at hs
  simp only [Bool.or_eq_true, beq_iff_eq] at hs
  obtain ⟨a, ha⟩ : ∃ a : Nat, i.a = a := ⟨i.a.toNat, by have := hi.a0; omega⟩
  obtain ⟨b, hb⟩ : ∃ b : Nat, i.b = b := ⟨i.b.toNat, by have := hi.b0; omega⟩
  have hal : a < B.length := by have := hi.a1; omega
  have hbl : b < B.length := by have := hi.b1; omega
  -- a move from a home, and one to it
  have isr : ∀ {t : Nat} {f : Int}, t < B.length → 0 ≤ f → 2 * f < s → isB s slots (regL B H t f) = true := fun {t f} ht h0 h1 => by
    have hh := reg_reg h ht h0 h1 (by omega)
    unfold regB at hh
    simp only [Bool.and_eq_true, beq_iff_eq] at hh
    obtain ⟨-, hh⟩ := hh
    rcases is_cases hh with ⟨k1, k2, k3⟩ | ⟨k1, k2, k3⟩ | ⟨k1, k2, k3⟩
    · unfold isB; rw [if_pos k1]; simp; omega
    · unfold isB; rw [if_neg (by omega), if_pos k1]; simp; omega
    · omega
  have mv1 : ∀ {t : Nat} {f : Int}, t < B.length → 0 ≤ f → 2 * f < s → (H.getD t .zero).kind = 3 → (regL B H t f).kind = 2 ∨ (regL B H t f).kind = 1 → moveB s slots ⟨regL B H t f, H.getD t .zero, false, 0⟩ = true := fun {t f} ht h0 h1 h3 hk => by
    have i1 := isr ht h0 h1
    have i2 : isB s slots (H.getD t .zero) = true := h.ok.is t ht
    unfold moveB
    simp only [i1, i2, h3]
    rcases hk with hk | hk <;> rw [hk] <;> simp
  have mv2 : ∀ {t : Nat} {f : Int}, t < B.length → 0 ≤ f → 2 * f < s → (H.getD t .zero).kind = 3 → (regL B H t f).kind = 2 ∨ (regL B H t f).kind = 1 → moveB s slots ⟨H.getD t .zero, regL B H t f, false, 0⟩ = true := fun {t f} ht h0 h1 h3 hk => by
    have i1 := isr ht h0 h1
    have i2 : isB s slots (H.getD t .zero) = true := h.ok.is t ht
    unfold moveB
    simp only [i1, i2, h3]
    rcases hk with hk | hk <;> rw [hk] <;> simp
  have fz : fieldP B s false i.a .zero = true ∧ fieldP B s false i.b .zero = true ∧ fieldP B s false i.dest .zero = true := ⟨rfl, rfl, rfl⟩
  have pA : fieldP B s (decide (0 < manyI i.op)) i.a (rowPA B H (s / 2 - 2) i) = true := by
    unfold rowPA
    by_cases hm : 0 < manyI i.op
    · rw [if_pos hm, decide_eq_true hm, ha, Int.toNat_natCast]; exact reg_reg h hal (by omega) (by omega) (by omega)
    · rw [if_neg hm, decide_eq_false hm]; exact fz.1
  have pB : fieldP B s (decide (1 < manyI i.op)) i.b (rowBB B H (s / 2 - 1) i) = true := by
    unfold rowBB
    by_cases hm : 1 < manyI i.op
    · rw [if_pos hm, decide_eq_true hm, hb, Int.toNat_natCast]; exact reg_reg h hbl (by omega) (by omega) (by omega)
    · rw [if_neg hm, decide_eq_false hm]; exact fz.2.1
  have pD : fieldP B s (givesB i.op) i.dest (rowD B H (s / 2 - 2) i) = true := by
    unfold rowD
    rcases Bool.eq_false_or_eq_true (givesB i.op) with hg | hg
    · obtain ⟨d0, d1⟩ := hi.d hg
      obtain ⟨d, hd⟩ : ∃ d : Nat, i.dest = d := ⟨i.dest.toNat, by omega⟩
      rw [hg, hd, Int.toNat_natCast]
      exact reg_reg h (by omega) (by omega) (by omega) (by omega)
    · rw [hg]; exact fz.2.2
  have mA : rowMA B H (s / 2 - 2) i = [] ∨ ∃ m, rowMA B H (s / 2 - 2) i = [m] ∧ moveB s slots m = true := by
    unfold rowMA
    split
    · rw [ha, Int.toNat_natCast]
      rcases bring_home h hal (s / 2 - 2) [] with ⟨-, -, e, -⟩ | ⟨h3, hk, e, -⟩
      · exact Or.inl e
      · exact Or.inr ⟨_, e, mv1 hal (by omega) (by omega) h3 (by omega)⟩
    · exact Or.inl rfl
  have mB : movesB s slots (rowMB B H (s / 2 - 1) i (rowMA B H (s / 2 - 2) i)) = true := by
    have base : movesB s slots (rowMA B H (s / 2 - 2) i) = true := by
      rcases mA with e | ⟨m, e, hm⟩ <;> rw [e]
      · exact moves_zero _ _
      · exact moves_one hm
    unfold rowMB
    split
    · rw [hb, Int.toNat_natCast]
      rcases bring_home h hbl (s / 2 - 1) (rowMA B H (s / 2 - 2) i) with ⟨-, -, e, -⟩ | ⟨h3, hk, e, -⟩
      · rw [e]; exact base
      · rw [e]
        have h2 := mv1 (f := s / 2 - 1) hbl (by omega) (by omega) h3 (by omega)
        rcases mA with e2 | ⟨m, e2, hm⟩ <;> rw [e2]
        · exact moves_one h2
        · exact moves_two hm h2
    · exact base
  have mD : (rowMD B H (s / 2 - 2) i = [] ∨ givesB i.op = true) ∧ movesB s slots (rowMD B H (s / 2 - 2) i) = true := by
    unfold rowMD
    rcases Bool.eq_false_or_eq_true (givesB i.op) with hg | hg
    · refine ⟨Or.inr hg, ?_⟩
      obtain ⟨d0, d1⟩ := hi.d hg
      obtain ⟨d, hd⟩ : ∃ d : Nat, i.dest = d := ⟨i.dest.toNat, by omega⟩
      rw [hg, hd, Int.toNat_natCast]
      rcases bring_home h (t := d) (by omega) (s / 2 - 2) [] with ⟨-, -, -, e⟩ | ⟨h3, hk, -, e⟩
      · simp only [if_true]; rw [e]; rfl
      · simp only [if_true]
        rw [e]
        have h2 := mv2 (t := d) (f := s / 2 - 2) (by omega) (by omega) (by omega) h3 (by omega)
        exact moves_one h2
    · rw [hg]; exact ⟨Or.inl rfl, rfl⟩
  have pJ : (!((i.op == 8 || i.op == 9 || i.op == 10) && decide (0 < (rowMD B H (s / 2 - 2) i).length))) = true := by
    rcases mD.1 with e | e
    · rw [e]; simp
    · unfold givesB at e
      simp only [Bool.and_eq_true, Bool.not_eq_true', beq_eq_false_iff_ne, ne_eq] at e
      simp [e]
  unfold rowB rowL
  simp only [pA, pB, pD, mB, mD.2, pJ, Bool.and_self]
end
theorem rowL_ok (B : List Bool) (H : List LPlace) (f0 f1 : Int) (i : LIns) : MovesOk (rowL B H f0 f1 i).before ∧ MovesOk (rowL B H f0 f1 i).after := by
  have step : ∀ l d c, (∀ m : LMove, m ∈ l → m.n = 0) → ∀ m : LMove, m ∈ bringL l d c → m.n = 0 := by
    intro l d c hl m hm
    rcases bring_cases l d c with ⟨-, e⟩ | e
    · rw [e] at hm; exact hl m hm
    · rw [e, List.mem_append, List.mem_singleton] at hm
      rcases hm with hm | hm
      · exact hl m hm
      · rw [hm]
  have fin : ∀ l : List LMove, (∀ m : LMove, m ∈ l → m.n = 0) → MovesOk l := by
    intro l hl k hk
    have := hl (l.getD k .zero) (by simp [List.getD, hk])
    omega
  refine ⟨fin _ ?_, fin _ ?_⟩
  · simp only [rowL, rowMB, rowMA]
    split
    · refine step _ _ _ ?_
      split
      · exact step _ _ _ (fun m hm => by simp at hm)
      · exact fun m hm => by simp at hm
    · split
      · exact step _ _ _ (fun m hm => by simp at hm)
      · exact fun m hm => by simp at hm
  · simp only [rowL, rowMD]
    split
    · exact step _ _ _ (fun m hm => by simp at hm)
    · exact fun m hm => by simp at hm
theorem build_get (B : List Bool) (C : List LIns) (s : Int) {k : Nat} (hk : k < C.length) : (buildF B C s).2.getD k .zero = rowL B (giveL 0 (regsF B C s.toNat)) (s / 2 - 2) (s / 2 - 1) (C.getD k .zero) := by
  simp [buildF, List.getD, hk]
theorem build_mayB (B : List Bool) (C : List LIns) (s : Int) (hn : ∀ i, i < C.length → 0 ≤ (C.getD i .zero).n ∧ (C.getD i .zero).n < 4294967296) (hm : refMayB B C = true) (ht : targetB s = true) : placeMayB B C s (buildF B C s).1 (buildF B C s).2 = true ∧ RowsOk (buildF B C s).2 := by
  have hs : sizesB B C = true := by
    have hm0 := hm
    unfold refMayB at hm0
    simp only [Bool.and_eq_true] at hm0
    exact hm0.1
  obtain ⟨s1, s2, s3, s4⟩ := sizes_of hs
  obtain ⟨hl, hF⟩ := regs_ferry (C := C) s1 ht
  have hio := all_insOk hm hn
  have hle := noneN_le (regsF B C s.toNat)
  have e1 : (buildF B C s).1 = (noneN (regsF B C s.toNat) : Int) := rfl
  have e2 : (buildF B C s).2.length = C.length := by simp [buildF]
  refine ⟨?_, fun r hr => ?_⟩
  · unfold placeMayB
    simp only [hm, ht, Bool.true_and, Bool.and_eq_true, Bool.not_eq_true', decide_eq_true_eq, decide_eq_false_iff_not, List.all_eq_true]
    refine ⟨⟨⟨by omega, by omega⟩, e2⟩, fun k hk => ?_⟩
    have hk2 := List.mem_range.1 hk
    rw [build_get B C s hk2, e1]
    exact row_may hF ht (hio k hk2)
  · rw [build_get B C s (by omega)]
    exact rowL_ok _ _ _ _ _
end form
/- A builder in memory; where an instruction has a temporary, and what must be moved for it (build.builder.register, build.bring). -/
namespace form
open Go.RowKit
set_option maxRecDepth 100000
attribute [local go_sem ↓] Go.wp_at_zero Go.wp_at_succ
theorem wrapB {x : Int} (h0 : -9223372036854775808 ≤ x) (h1 : x ≤ 9223372036854775807) : IntKind.i64.wrap x = x := by
  simp [IntKind.wrap, IntKind.bits, IntKind.signed]
  split <;> omega
def bdC (b0 o0 nB c0 b1 o1 nC c1 gv cap : Nat) (slots f0 f1 : Int) : List Value := [.slice (some ⟨b0, o0, none⟩) nB c0, .slice (some ⟨b1, o1, none⟩) nC c1, .slice (some ⟨gv, 0, none⟩) nB cap, .int .i64 slots, .int .i64 f0, .int .i64 f1]
structure BdR (bb b0 o0 c0 b1 o1 c1 gv cap : Nat) (B : List Bool) (C : List LIns) (H : List LPlace) (slots f0 f1 : Int) (w : World) : Prop where
  held : Held w b0 o0 b1 o1 B C
  bd : Row w bb 107 (bdC b0 o0 B.length c0 b1 o1 C.length c1 gv cap slots f0 f1)
  len : H.length = B.length
  row : GivAt w gv H
section
variable {bb b0 o0 c0 b1 o1 c1 gv cap : Nat} {B : List Bool} {C : List LIns} {H : List LPlace} {slots f0 f1 : Int} {w w' : World}
theorem BdR.later (h : BdR bb b0 o0 c0 b1 o1 c1 gv cap B C H slots f0 f1 w) (hb : Below w.heap.size w w') : BdR bb b0 o0 c0 b1 o1 c1 gv cap B C H slots f0 f1 w' :=
  ⟨h.held.later hb, h.bd.below hb, h.len, h.row.later hb⟩
theorem BdR.p0 (h : BdR bb b0 o0 c0 b1 o1 c1 gv cap B C H slots f0 f1 w) : w.cell? ⟨bb, 0, none⟩ = some (.slice (some ⟨b0, o0, none⟩) B.length c0) := h.bd.cell 0
theorem BdR.p1 (h : BdR bb b0 o0 c0 b1 o1 c1 gv cap B C H slots f0 f1 w) : w.cell? ⟨bb, 1, none⟩ = some (.slice (some ⟨b1, o1, none⟩) C.length c1) := h.bd.cell 1
theorem BdR.p2 (h : BdR bb b0 o0 c0 b1 o1 c1 gv cap B C H slots f0 f1 w) : w.cell? ⟨bb, 2, none⟩ = some (.slice (some ⟨gv, 0, none⟩) B.length cap) := h.bd.cell 2
theorem BdR.p3 (h : BdR bb b0 o0 c0 b1 o1 c1 gv cap B C H slots f0 f1 w) : w.cell? ⟨bb, 3, none⟩ = some (.int .i64 slots) := h.bd.cell 3
theorem BdR.p4 (h : BdR bb b0 o0 c0 b1 o1 c1 gv cap B C H slots f0 f1 w) : w.cell? ⟨bb, 4, none⟩ = some (.int .i64 f0) := h.bd.cell 4
theorem BdR.p5 (h : BdR bb b0 o0 c0 b1 o1 c1 gv cap B C H slots f0 f1 w) : w.cell? ⟨bb, 5, none⟩ = some (.int .i64 f1) := h.bd.cell 5
end
def RegP (B : List Bool) (H : List LPlace) (t : Nat) (f : Int) (w : World) (e : Ending) (w' : World) : Prop := e = .returned (regL B H t f).val ∧ Below w.heap.size w w'
set_option maxHeartbeats 1600000 in
theorem registerO {bb b0 o0 c0 b1 o1 c1 gv cap : Nat} {B : List Bool} {C : List LIns} {H : List LPlace} {slots f0 f1 : Int} {w : World} (h : BdR bb b0 o0 c0 b1 o1 c1 gv cap B C H slots f0 f1 w) (t : Nat) (ht : t < B.length) (f : Int) (hf0 : 0 ≤ f) (hf1 : f ≤ 100) :
    Calls Tryz.prog 119 #[.pointer (some ⟨bb, 0, none⟩), .int .i64 t, .int .i64 f] w fun e w' => RegP B H t f w e w' := by
  have p0 := h.p0
  have p2 := h.p2
  have hlt := h.len
  obtain ⟨e0, e1⟩ := h.row t (by omega)
  have e2 := h.held.wide t ht
  have hbb := World.block_lt_of_cell? _ _ p0
  have hgv := World.block_lt_of_cell? _ _ e0
  have hb0 := h.held.lt0
  have y1 : (t : Int) < (B.length : Int) := by omega
  have y2 : (0 : Int) ≤ (t : Int) := by omega
  have HW0 : Hid (∀ o : Obj, Below w.heap.size w (w.alloc o)) := fun o => (Below.refl _ _).alloc (Nat.le_refl _) _
  have hwr : IntKind.i64.wrap (2 * f) = 2 * f := wrapB (by omega) (by omega)
  have HRL : Hid (regL B H t f = if (H.getD t .zero).kind = 3 then (if B.getD t false then ⟨2, f⟩ else ⟨1, 2 * f⟩) else H.getD t .zero) := rfl
  obtain ⟨p, hp⟩ : ∃ p, p = H.getD t .zero := ⟨_, rfl⟩
  obtain ⟨x, hx⟩ : ∃ x, x = B.getD t false := ⟨_, rfl⟩
  rw [← hp] at e0 e1 HRL
  rw [← hx] at e2 HRL
  clear hp hx h hlt
  by_cases hk : p.kind = 3
  · have HK : Hid (p.kind = 3) := hk
    rw [hk] at e0
    clear hk
    rcases Bool.eq_false_or_eq_true x with hc | hc
    · subst hc
      have hrl : regL B H t f = ⟨2, f⟩ := by rw [HRL.out, if_pos HK.out]; rfl
      have HR : Hid (regL B H t f = ⟨2, f⟩) := hrl
      clear hrl HRL HK
      go_enter Tryz.func119, Tryz.ntmps119
      go_wp2
      refine bodyPost_ret (v := (LPlace.mk 2 f).val) ?_ rfl ⟨by rw [HR.out], ?_⟩
      · simp [results, Tryz.results119, go_sem, LPlace.val]
      · first | exact HW0.out _ | exact ((HW0.out _).setCell (by dsimp only; omega) _).setCell (by dsimp only; omega) _
    · subst hc
      have hrl : regL B H t f = ⟨1, 2 * f⟩ := by rw [HRL.out, if_pos HK.out]; rfl
      have HR : Hid (regL B H t f = ⟨1, 2 * f⟩) := hrl
      clear hrl HRL HK
      go_enter Tryz.func119, Tryz.ntmps119
      go_wp2
      refine bodyPost_ret (v := (LPlace.mk 1 (2 * f)).val) ?_ rfl ⟨by rw [HR.out], ?_⟩
      · simp [results, Tryz.results119, go_sem, LPlace.val]
      · first | exact HW0.out _ | exact ((HW0.out _).setCell (by dsimp only; omega) _).setCell (by dsimp only; omega) _
  · have hrl : regL B H t f = p := by rw [HRL.out, if_neg hk]
    have HR : Hid (regL B H t f = p) := hrl
    clear hrl HRL
    obtain ⟨pk, pn⟩ := p
    dsimp only at e0 e1 hk
    have hk2 : (pk == 3) = false := by simpa using hk
    go_enter Tryz.func119, Tryz.ntmps119
    go_wp2
    refine bodyPost_ret (v := (LPlace.mk pk pn).val) ?_ rfl ⟨by rw [HR.out], ?_⟩
    · simp [results, Tryz.results119, go_sem, LPlace.val]
    · first | exact HW0.out _ | exact ((HW0.out _).setCell (by dsimp only; omega) _).setCell (by dsimp only; omega) _
def MvB (base : Nat) (l : List LMove) (v : Value) (w : World) : Prop := w.ownsRow base 196 6 v l.length (l.flatMap mvC)
theorem MvB.below {base : Nat} {l : List LMove} {v : Value} {w w' : World} (h : MvB base l v w) (hb : Below w.heap.size w w') : MvB base l v w' :=
  World.ownsRow.kept h ⟨hb.os, hb.tape, hb.output, hb.size, fun j hj _ => hb.block j hj⟩ (row := none) (by cases v.ownBlock <;> simp)
def BringP (base : Nat) (l : List LMove) (d c : LPlace) (w : World) (e : Ending) (w' : World) : Prop := ∃ v, e = .returned v ∧ MvB base (bringL l d c) v w' ∧ Below base w w'
set_option maxHeartbeats 1600000 in
theorem bring_a (base : Nat) (l : List LMove) (dk dn ck cn : Int) (v : Value) (w : World) (h : MvB base l v w) (hb : base ≤ w.heap.size) (h6 : l.length ≤ 6) (hk : ¬ dk = ck) :
    Calls Tryz.prog 120 #[v, .agg #[.int .i64 dk, .int .i64 dn], .agg #[.int .i64 ck, .int .i64 cn]] w fun e w' => ∃ v, e = .returned v ∧ MvB base (l ++ [⟨⟨dk, dn⟩, ⟨ck, cn⟩, false, 0⟩]) v w' ∧ Below base w w' := by
  have HW2 : Hid (∀ o1 o2 : Obj, Below w.heap.size w ((w.alloc o1).alloc o2)) := fun o1 o2 => ((Below.refl _ _).alloc (Nat.le_refl _) _).alloc (by simp) _
  have HM : Hid (MvB base l v w) := h
  clear h
  obtain ⟨t0', hi0, hy0, hy1, hy2⟩ := info_parts (P := Tryz.prog) (e := 196) (z := .agg #[.int .i64 0, .int .i64 0, .int .i64 0, .int .i64 0, .bool false, .int .u32 0]) (size := 6) (bytes := 40) (by kernel_rfl)
  go_enter Tryz.func120, Tryz.ntmps120
  go_wp2_with (at_builtin; refine wpList_append_lies _ rfl _ _ 116 rfl base 196 t0' (.agg #[.int .i64 0, .int .i64 0, .int .i64 0, .int .i64 0, .bool false, .int .u32 0]) 6 40 Tryz.underlying116 hi0 hy0 hy1 hy2 rfl (by decide) v l.length (l.flatMap mvC) rfl (World.ownsRow.alloc (HM.out.below (HW2.out _ _)) _) ⟨w.heap.size + 1 + 1, 0, none⟩ 1 1 [.int .i64 dk, .int .i64 dn, .int .i64 ck, .int .i64 cn, .bool false, .int .u32 0] rfl rfl ?c1 ?c2 (by decide) ?c3 ?c4 ?c5 _ rfl ?_)
  case c1 =>
    intro j u hu
    rcases j with _ | _ | _ | _ | _ | _ | j
    all_goals first | (simp at hu; subst hu; simp [go_sem, Addr.add]; done) | simp at hu
  case c2 => simp [Value.oneCell']
  case c3 => unfold maxLen; omega
  case c4 => omega
  case c5 => first | omega | (simp; omega)
  intro g9 cap9 w9 hown hgrow hat hlt9
  have HA : Hid (Below base w w9) := by
    have h3 : ∀ o1 o2 o3 : Obj, Below base w (((w.alloc o1).alloc o2).alloc o3) := fun o1 o2 o3 => ((HW2.out o1 o2).mono hb).alloc (by simp; omega) _
    exact (h3 _ _ _).grown hgrow (by simp; omega) (fun j hj => by have := (World.ownsRow.lt HM.out _ hj).1; omega)
  have HO : Hid (MvB base (l ++ [⟨⟨dk, dn⟩, ⟨ck, cn⟩, false, 0⟩]) (.slice (some ⟨g9, 0, none⟩) (l.length + 1) cap9) w9) := by
    show MvB _ _ _ _
    unfold MvB
    simpa [mvC] using hown
  clear hown hgrow hat
  go_wp2
  go_ret
  exact ⟨_, rfl, HO.out, HA.out⟩
set_option maxHeartbeats 1600000 in
theorem bring_b (base : Nat) (l : List LMove) (dn ck cn : Int) (v : Value) (w : World) (h : MvB base l v w) (hb : base ≤ w.heap.size) (h6 : l.length ≤ 6) (hn : ¬ dn = cn) :
    Calls Tryz.prog 120 #[v, .agg #[.int .i64 ck, .int .i64 dn], .agg #[.int .i64 ck, .int .i64 cn]] w fun e w' => ∃ v, e = .returned v ∧ MvB base (l ++ [⟨⟨ck, dn⟩, ⟨ck, cn⟩, false, 0⟩]) v w' ∧ Below base w w' := by
  have HW2 : Hid (∀ o1 o2 : Obj, Below w.heap.size w ((w.alloc o1).alloc o2)) := fun o1 o2 => ((Below.refl _ _).alloc (Nat.le_refl _) _).alloc (by simp) _
  have HM : Hid (MvB base l v w) := h
  clear h
  obtain ⟨t0', hi0, hy0, hy1, hy2⟩ := info_parts (P := Tryz.prog) (e := 196) (z := .agg #[.int .i64 0, .int .i64 0, .int .i64 0, .int .i64 0, .bool false, .int .u32 0]) (size := 6) (bytes := 40) (by kernel_rfl)
  go_enter Tryz.func120, Tryz.ntmps120
  go_wp2_with (at_builtin; refine wpList_append_lies _ rfl _ _ 116 rfl base 196 t0' (.agg #[.int .i64 0, .int .i64 0, .int .i64 0, .int .i64 0, .bool false, .int .u32 0]) 6 40 Tryz.underlying116 hi0 hy0 hy1 hy2 rfl (by decide) v l.length (l.flatMap mvC) rfl (World.ownsRow.alloc (HM.out.below (HW2.out _ _)) _) ⟨w.heap.size + 1 + 1, 0, none⟩ 1 1 [.int .i64 ck, .int .i64 dn, .int .i64 ck, .int .i64 cn, .bool false, .int .u32 0] rfl rfl ?c1 ?c2 (by decide) ?c3 ?c4 ?c5 _ rfl ?_)
  case c1 =>
    intro j u hu
    rcases j with _ | _ | _ | _ | _ | _ | j
    all_goals first | (simp at hu; subst hu; simp [go_sem, Addr.add]; done) | simp at hu
  case c2 => simp [Value.oneCell']
  case c3 => unfold maxLen; omega
  case c4 => omega
  case c5 => first | omega | (simp; omega)
  intro g9 cap9 w9 hown hgrow hat hlt9
  have HA : Hid (Below base w w9) := by
    have h3 : ∀ o1 o2 o3 : Obj, Below base w (((w.alloc o1).alloc o2).alloc o3) := fun o1 o2 o3 => ((HW2.out o1 o2).mono hb).alloc (by simp; omega) _
    exact (h3 _ _ _).grown hgrow (by simp; omega) (fun j hj => by have := (World.ownsRow.lt HM.out _ hj).1; omega)
  have HO : Hid (MvB base (l ++ [⟨⟨ck, dn⟩, ⟨ck, cn⟩, false, 0⟩]) (.slice (some ⟨g9, 0, none⟩) (l.length + 1) cap9) w9) := by
    show MvB _ _ _ _
    unfold MvB
    simpa [mvC] using hown
  clear hown hgrow hat
  go_wp2
  go_ret
  exact ⟨_, rfl, HO.out, HA.out⟩
set_option maxHeartbeats 1600000 in
theorem bring_c (base : Nat) (l : List LMove) (ck cn : Int) (v : Value) (w : World) (h : MvB base l v w) (hb : base ≤ w.heap.size) :
    Calls Tryz.prog 120 #[v, .agg #[.int .i64 ck, .int .i64 cn], .agg #[.int .i64 ck, .int .i64 cn]] w fun e w' => ∃ v, e = .returned v ∧ MvB base l v w' ∧ Below base w w' := by
  have HW2 : Hid (∀ o1 o2 : Obj, Below w.heap.size w ((w.alloc o1).alloc o2)) := fun o1 o2 => ((Below.refl _ _).alloc (Nat.le_refl _) _).alloc (by simp) _
  have HM : Hid (MvB base l v w) := h
  clear h
  go_enter Tryz.func120, Tryz.ntmps120
  go_wp2
  go_ret
  exact ⟨v, rfl, HM.out.below (HW2.out _ _), (HW2.out _ _).mono hb⟩
theorem bringO (base : Nat) (l : List LMove) (d c : LPlace) (v : Value) (w : World) (h : MvB base l v w) (hb : base ≤ w.heap.size) (h6 : l.length ≤ 6) :
    Calls Tryz.prog 120 #[v, d.val, c.val] w fun e w' => BringP base l d c w e w' := by
  obtain ⟨dk, dn⟩ := d
  obtain ⟨ck, cn⟩ := c
  unfold BringP bringL samePl LPlace.val
  by_cases hk : dk = ck
  · subst hk
    by_cases hn : dn = cn
    · subst hn
      have := bring_c base l dk dn v w h hb
      simpa using this
    · have := bring_b base l dn dk cn v w h hb h6 hn
      simpa [hn] using this
  · have := bring_a base l dk dn ck cn v w h hb h6 hk
    simpa [hk] using this
end form
end Go.Proofs.YtgnhpfmdbclnkaaGreatDoor
