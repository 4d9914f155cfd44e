/- The places that the program's own build.Build makes, on plain numbers: homes out of color's registers and of slots, two ferries: they are taken. -/
import Derived.Test.YtikhedkhgpjaaacGreatDoorW31
import Derived.Test.YtikhedkhgpjaaacGreatDoorW17
import Derived.Test.YtikhedkhgpjaaacGreatDoorW28
import Derived.Test.YtikhedkhgpjaaacGreatDoorW01
import Derived.Test.YtikhedkhgpjaaacGreatDoorW20

namespace Go.Proofs.YtikhedkhgpjaaacGreatDoor
set_option linter.unusedVariables false
namespace form
open Go.RowKit
def hasZ (G : List LPlace) : Bool := G.any (fun p => samePl p .zero)
noncomputable def regsF (B : List Bool) (C : List LIns) (n : Nat) : List LPlace := if hasZ (makeF B C n) then makeF B C (n - 4) else makeF B C n
def noneN (G : List LPlace) : Nat := (G.filter (fun p => decide (p.kind = 0))).length
theorem noneN_app (a b : List LPlace) : noneN (a ++ b) = noneN a + noneN b := by simp [noneN]
theorem noneN_le (G : List LPlace) : noneN G ≤ G.length := List.length_filter_le _ _
theorem noneN_one (p : LPlace) : noneN [p] = if p.kind = 0 then 1 else 0 := by
  unfold noneN
  by_cases h : p.kind = 0 <;> simp [h]
def giveL : Nat → List LPlace → List LPlace
  | _, [] => []
  | m, p :: l => (if p.kind = 0 then ⟨3, (m : Int)⟩ else p) :: giveL (m + noneN [p]) l
theorem giveL_len : ∀ (l : List LPlace) (m : Nat), (giveL m l).length = l.length
  | [], _ => rfl
  | p :: l, m => by simp [giveL, giveL_len l]
theorem giveL_app : ∀ (a b : List LPlace) (m : Nat), giveL m (a ++ b) = giveL m a ++ giveL (m + noneN a) b
  | [], b, m => by simp [giveL, noneN]
  | p :: a, b, m => by
    have h : noneN (p :: a) = noneN [p] + noneN a := noneN_app [p] a
    simp only [List.cons_append, giveL]
    rw [giveL_app a b, h, Nat.add_assoc]
theorem giveL_get : ∀ (G : List LPlace) (m t : Nat), t < G.length → (giveL m G).getD t .zero = if (G.getD t .zero).kind = 0 then ⟨3, ((m + noneN (G.take t) : Nat) : Int)⟩ else G.getD t .zero
  | [], _, _, h => by simp at h
  | p :: l, m, 0, _ => by simp [giveL, noneN]
  | p :: l, m, t + 1, h => by
    have ih := giveL_get l (m + noneN [p]) t (by simpa using h)
    have e : noneN ((p :: l).take (t + 1)) = noneN [p] + noneN (l.take t) := by rw [List.take_succ_cons]; exact noneN_app [p] _
    simp only [giveL, List.getD_cons_succ]
    rw [ih, e, Nat.add_assoc]
def giveU (G : List LPlace) (k : Nat) : List LPlace := giveL 0 (G.take k) ++ G.drop k
theorem giveU_zero (G : List LPlace) : giveU G 0 = G := by simp [giveU, giveL]
theorem giveU_all (G : List LPlace) : giveU G G.length = giveL 0 G := by simp [giveU]
theorem giveU_len (G : List LPlace) (k : Nat) : (giveU G k).length = G.length := by
  simp only [giveU, List.length_append, giveL_len, List.length_take, List.length_drop]
  omega
theorem take_oneP {G : List LPlace} {k : Nat} (h : k < G.length) : G.take (k + 1) = G.take k ++ [G.getD k .zero] := by
  rw [List.take_add_one]
  simp [List.getD, h]
theorem drop_oneP {G : List LPlace} {k : Nat} (h : k < G.length) : G.drop k = G.getD k .zero :: G.drop (k + 1) := by
  rw [List.drop_eq_getElem_cons h]
  simp [List.getD, h]
theorem giveU_get {G : List LPlace} {k : Nat} (h : k < G.length) : (giveU G k).getD k .zero = G.getD k .zero := by
  have e : (giveL 0 (G.take k)).length = k := by rw [giveL_len, List.length_take]; omega
  unfold giveU
  rw [drop_oneP h]
  simp only [List.getD_eq_getElem?_getD]
  rw [List.getElem?_append_right (by omega), e, Nat.sub_self]
  simp
theorem giveU_one {G : List LPlace} {k : Nat} (h : k < G.length) : giveU G (k + 1) = giveL 0 (G.take k) ++ (if (G.getD k .zero).kind = 0 then ⟨3, (noneN (G.take k) : Int)⟩ else G.getD k .zero) :: G.drop (k + 1) := by
  unfold giveU
  rw [take_oneP h, giveL_app]
  simp [giveL]
theorem giveU_yes {G : List LPlace} {k : Nat} (h : k < G.length) (h0 : (G.getD k .zero).kind = 0) : giveU G (k + 1) = (giveU G k).set k ⟨3, (noneN (G.take k) : Int)⟩ ∧ noneN (G.take (k + 1)) = noneN (G.take k) + 1 := by
  refine ⟨?_, by rw [take_oneP h, noneN_app, noneN_one, if_pos h0]⟩
  have e : (giveL 0 (G.take k)).length = k := by rw [giveL_len, List.length_take]; omega
  rw [giveU_one h, if_pos h0]
  unfold giveU
  rw [drop_oneP h, List.set_append_right _ _ (by omega), e, Nat.sub_self, List.set_cons_zero]
theorem giveU_no {G : List LPlace} {k : Nat} (h : k < G.length) (h0 : ¬ (G.getD k .zero).kind = 0) : giveU G (k + 1) = giveU G k ∧ noneN (G.take (k + 1)) = noneN (G.take k) := by
  refine ⟨?_, by rw [take_oneP h, noneN_app, noneN_one, if_neg h0, Nat.add_zero]⟩
  rw [giveU_one h, if_neg h0]
  unfold giveU
  rw [drop_oneP h]
def regL (B : List Bool) (H : List LPlace) (t : Nat) (f : Int) : LPlace := if (H.getD t .zero).kind = 3 then (if B.getD t false then ⟨2, f⟩ else ⟨1, 2 * f⟩) else H.getD t .zero
def bringL (l : List LMove) (dst src : LPlace) : List LMove := if samePl dst src then l else l ++ [⟨dst, src, false, 0⟩]
def rowPA (B : List Bool) (H : List LPlace) (f0 : Int) (i : LIns) : LPlace := if 0 < manyI i.op then regL B H i.a.toNat f0 else .zero
def rowMA (B : List Bool) (H : List LPlace) (f0 : Int) (i : LIns) : List LMove := if 0 < manyI i.op then bringL [] (regL B H i.a.toNat f0) (H.getD i.a.toNat .zero) else []
def rowBB (B : List Bool) (H : List LPlace) (f1 : Int) (i : LIns) : LPlace := if 1 < manyI i.op then regL B H i.b.toNat f1 else .zero
def rowMB (B : List Bool) (H : List LPlace) (f1 : Int) (i : LIns) (l : List LMove) : List LMove := if 1 < manyI i.op then bringL l (regL B H i.b.toNat f1) (H.getD i.b.toNat .zero) else l
def rowD (B : List Bool) (H : List LPlace) (f0 : Int) (i : LIns) : LPlace := if givesB i.op then regL B H i.dest.toNat f0 else .zero
def rowMD (B : List Bool) (H : List LPlace) (f0 : Int) (i : LIns) : List LMove := if givesB i.op then bringL [] (H.getD i.dest.toNat .zero) (regL B H i.dest.toNat f0) else []
def rowL (B : List Bool) (H : List LPlace) (f0 f1 : Int) (i : LIns) : LRow := ⟨rowD B H f0 i, rowPA B H f0 i, rowBB B H f1 i, rowMB B H f1 i (rowMA B H f0 i), rowMD B H f0 i⟩
noncomputable def buildF (B : List Bool) (C : List LIns) (s : Int) : Int × List LRow :=
  ((noneN (regsF B C s.toNat) : Int), C.map (rowL B (giveL 0 (regsF B C s.toNat)) (s / 2 - 2) (s / 2 - 1)))
theorem HomeOk.same {B : List Bool} {C : List LIns} {s slots : Int} {h1 h2 : Nat → LPlace} (h : HomeOk B C s slots h1) (e : ∀ t, t < B.length → h2 t = h1 t) : HomeOk B C s slots h2 :=
  ⟨fun t ht => by rw [e t ht]; exact h.is t ht, fun t ht => by rw [e t ht]; exact h.fit t ht, fun a b ha hb hn => by rw [e a ha, e b hb]; exact h.apart a b ha hb hn⟩
structure FerryOk (B : List Bool) (C : List LIns) (s slots : Int) (H : List LPlace) : Prop where
  ok : HomeOk B C s slots (fun t => H.getD t .zero)
  sp : ∀ t, t < B.length → (H.getD t .zero).kind = 3 → ∀ u, u < B.length → ∀ p : LPlace, (p.kind = 2 ∧ s ≤ 2 * p.n + 4) ∨ (p.kind = 1 ∧ s ≤ p.n + 4) → overB (H.getD u .zero) p = false
theorem noneN_slot {G : List LPlace} {a b : Nat} (hb : b < G.length) (hab : a < b) (ha : (G.getD a .zero).kind = 0) : noneN (G.take a) < noneN (G.take b) := by
  have e : G.take b = G.take (a + 1) ++ (G.take b).drop (a + 1) := by
    have := (List.take_append_drop (a + 1) (G.take b)).symm
    rw [List.take_take, Nat.min_eq_left (by omega)] at this
    exact this
  rw [e, noneN_app, (giveU_yes (by omega) ha).2]
  omega
theorem noneN_slots {G : List LPlace} {a : Nat} (h : a < G.length) (ha : (G.getD a .zero).kind = 0) : noneN (G.take a) < noneN G := by
  have e : G = G.take (a + 1) ++ G.drop (a + 1) := (List.take_append_drop _ _).symm
  have : noneN G = noneN (G.take (a + 1)) + noneN (G.drop (a + 1)) := by rw [← noneN_app, ← e]
  rw [this, (giveU_yes h ha).2]
  omega
theorem give_home {B : List Bool} {C : List LIns} {n : Nat} {G : List LPlace} (hG : GivOk B C n G) {t : Nat} (ht : t < B.length) : (giveL 0 G).getD t .zero = homeC 0 (fun t => noneN (G.take t)) G t := by
  rw [giveL_get _ _ _ (by rw [hG.len]; exact ht)]
  unfold homeC
  simp only [Nat.zero_add]
  by_cases h0 : (G.getD t .zero).kind = 0
  · rw [if_pos h0, if_pos h0]
  · rw [if_neg h0, if_neg h0]
    rcases hG.reg t ht with ⟨h1, -⟩ | ⟨-, h2⟩
    · exact absurd h1 h0
    · have hc := is_cases h2
      obtain ⟨x, hx⟩ : ∃ x, x = G.getD t .zero := ⟨_, rfl⟩
      rw [← hx] at hc h0 ⊢
      obtain ⟨k, m⟩ := x
      simp only at hc h0 ⊢
      by_cases h1 : k = 1
      · rw [if_pos h1, h1]; simp
      · rw [if_neg h1, show k = 2 by omega]; simp
theorem give_ferry {B : List Bool} {C : List LIns} {n : Nat} {s : Int} {G : List LPlace} (hG : GivOk B C n G) (hn : n % 2 = 0) (hns : (n : Int) ≤ s) (h16 : s ≤ 16) (hz : (∀ t, t < B.length → ¬ (G.getD t .zero).kind = 0) ∨ (n : Int) + 4 ≤ s) : FerryOk B C s (noneN G) (giveL 0 G) := by
  have hl := hG.len
  refine ⟨(home_color (off := 0) (slot := fun t => noneN (G.take t)) hG (by omega) (by omega) h16 (fun t ht h0 => ?_) (fun a b ha hb hab h1 h2 => ?_)).same (fun t ht => give_home hG ht), fun t ht h3 u hu p hp => ?_⟩
  · have := noneN_slots (G := G) (a := t) (by omega) h0
    show ((noneN (G.take t) : Nat) : Int) < _
    omega
  · show ¬ noneN (G.take a) = noneN (G.take b)
    rcases Nat.lt_or_gt_of_ne hab with h | h
    · have := noneN_slot (G := G) (by omega) h h1; omega
    · have := noneN_slot (G := G) (by omega) h h2; omega
  · rcases hz with hz | hz
    · exfalso
      rw [giveL_get _ _ _ (by omega), if_neg (hz t ht)] at h3
      rcases hG.reg t ht with ⟨h1, -⟩ | ⟨-, h2⟩
      · exact hz t ht h1
      · have := is_cases h2; omega
    · rw [give_home hG hu]
      refine home_spare hG (by omega) hn ?_ hu
      unfold Spare
      omega
theorem hasZ_no {B : List Bool} {C : List LIns} {n : Nat} {G : List LPlace} (hG : GivOk B C n G) (h : hasZ G = false) : ∀ t, t < B.length → ¬ (G.getD t .zero).kind = 0 := by
  intro t ht h0
  have hl := hG.len
  rcases hG.reg t ht with ⟨-, h1⟩ | ⟨-, h2⟩
  · unfold hasZ at h
    rw [List.any_eq_false] at h
    have hm : G.getD t .zero ∈ G := by simp [List.getD, show t < G.length by omega]
    refine h _ hm ?_
    unfold samePl
    rw [h0, h1]
    rfl
  · exact is_kind h2 h0
theorem regs_ferry {B : List Bool} {C : List LIns} {s : Int} (h1 : 1 ≤ B.length) (hs : targetB s = true) : (regsF B C s.toNat).length = B.length ∧ FerryOk B C s (noneN (regsF B C s.toNat)) (giveL 0 (regsF B C s.toNat)) := by
  unfold targetB at hs
  simp only [Bool.or_eq_true, beq_iff_eq] at hs
  obtain ⟨n, rfl⟩ : ∃ n : Nat, s = n := ⟨s.toNat, by omega⟩
  have e : ((n : Int)).toNat = n := by omega
  rw [e]
  have hG : GivOk B C n (makeF B C n) := makeF_ok h1 (by omega) (by omega)
  have hG4 : GivOk B C (n - 4) (makeF B C (n - 4)) := makeF_ok h1 (by omega) (by omega)
  unfold regsF
  rcases Bool.eq_false_or_eq_true (hasZ (makeF B C n)) with hz | hz
  · rw [if_pos hz]
    exact ⟨hG4.len, give_ferry hG4 (by omega) (by omega) (by omega) (Or.inr (by omega))⟩
  · rw [if_neg (by rw [hz]; simp)]
    exact ⟨hG.len, give_ferry hG (by omega) (by omega) (by omega) (Or.inl (hasZ_no hG hz))⟩
theorem moves_zero (s slots : Int) : movesB s slots [] = true := rfl
theorem moves_one {s slots : Int} {m : LMove} (h : moveB s slots m = true) : movesB s slots [m] = true := by simp [movesB, h]
theorem moves_two {s slots : Int} {m m2 : LMove} (h : moveB s slots m = true) (h2 : moveB s slots m2 = true) : movesB s slots ([m] ++ [m2]) = true := by simp [movesB, h, h2]
section
variable {B : List Bool} {C : List LIns} {s slots : Int} {H : List LPlace}
theorem reg_cases (h : FerryOk B C s slots H) {t : Nat} (ht : t < B.length) (f : Int) : (regL B H t f = H.getD t .zero ∧ ¬ (H.getD t .zero).kind = 3) ∨ ((H.getD t .zero).kind = 3 ∧ ((B.getD t false = true ∧ regL B H t f = ⟨2, f⟩) ∨ (B.getD t false = false ∧ regL B H t f = ⟨1, 2 * f⟩))) := by
  unfold regL
  by_cases h3 : (H.getD t .zero).kind = 3
  · right
    rw [if_pos h3]
    refine ⟨h3, ?_⟩
    rcases Bool.eq_false_or_eq_true (B.getD t false) with hb | hb
    · exact Or.inl ⟨hb, by rw [hb]; rfl⟩
    · exact Or.inr ⟨hb, by rw [hb]; rfl⟩
  · left
    rw [if_neg h3]
    exact ⟨rfl, h3⟩
theorem reg_reg (h : FerryOk B C s slots H) {t : Nat} (ht : t < B.length) {f : Int} (h0 : 0 ≤ f) (h1 : 2 * f < s) (h16 : s ≤ 16) : regB B s t (regL B H t f) = true := by
  unfold regB
  rw [Int.toNat_natCast]
  rcases reg_cases h ht f with ⟨e, h3⟩ | ⟨h3, ⟨hb, e⟩ | ⟨hb, e⟩⟩
  · rw [e]
    have h4 : isB s slots (H.getD t .zero) = true := h.ok.is t ht
    have h5 : (H.getD t .zero).kind = 3 ∨ (H.getD t .zero).kind = if B.getD t false then 2 else 1 := h.ok.fit t ht
    obtain ⟨p, hp⟩ : ∃ p, p = H.getD t .zero := ⟨_, rfl⟩
    rw [← hp] at h3 h4 h5 ⊢
    have h6 := is_cases h4
    have h7 : p.kind = if B.getD t false then 2 else 1 := by
      rcases h5 with h5 | h5
      · exact absurd h5 h3
      · exact h5
    simp only [Bool.and_eq_true, beq_iff_eq]
    refine ⟨h7, ?_⟩
    unfold isB
    by_cases k1 : p.kind = 1
    · rw [if_pos k1]; simp; omega
    · rw [if_neg k1, if_pos (by omega)]; simp; omega
  · rw [e, hb]; unfold isB; simp; omega
  · rw [e, hb]; unfold isB; simp; omega
theorem bring_cases (l : List LMove) (d c : LPlace) : (d = c ∧ bringL l d c = l) ∨ bringL l d c = l ++ [⟨d, c, false, 0⟩] := by
  unfold bringL
  rcases Bool.eq_false_or_eq_true (samePl d c) with e | e
  · exact Or.inl ⟨same_is e, by rw [e]; rfl⟩
  · exact Or.inr (by rw [e]; rfl)
theorem bring_home (h : FerryOk B C s slots H) {t : Nat} (ht : t < B.length) (f : Int) (l : List LMove) :
    (¬ (H.getD t .zero).kind = 3 ∧ regL B H t f = H.getD t .zero ∧ bringL l (regL B H t f) (H.getD t .zero) = l ∧ bringL l (H.getD t .zero) (regL B H t f) = l) ∨
    ((H.getD t .zero).kind = 3 ∧ ((regL B H t f).kind = 2 ∧ (regL B H t f).n = f ∨ (regL B H t f).kind = 1 ∧ (regL B H t f).n = 2 * f) ∧ bringL l (regL B H t f) (H.getD t .zero) = l ++ [⟨regL B H t f, H.getD t .zero, false, 0⟩] ∧ bringL l (H.getD t .zero) (regL B H t f) = l ++ [⟨H.getD t .zero, regL B H t f, false, 0⟩]) := by
  rcases reg_cases h ht f with ⟨e, h3⟩ | ⟨h3, h4⟩
  · left
    refine ⟨h3, e, ?_, ?_⟩ <;> rw [e] <;> unfold bringL <;> rw [same_refl] <;> rfl
  · right
    have hk : (regL B H t f).kind = 2 ∧ (regL B H t f).n = f ∨ (regL B H t f).kind = 1 ∧ (regL B H t f).n = 2 * f := by
      rcases h4 with ⟨-, e⟩ | ⟨-, e⟩ <;> rw [e] <;> simp
    refine ⟨h3, hk, ?_, ?_⟩
    · rcases bring_cases l (regL B H t f) (H.getD t .zero) with ⟨e, -⟩ | e
      · rw [e] at hk; omega
      · exact e
    · rcases bring_cases l (H.getD t .zero) (regL B H t f) with ⟨e, -⟩ | e
      · rw [← e] at hk; omega
      · exact e
theorem row_home (h : FerryOk B C s slots H) (hs : targetB s = true) {i : LIns} (hi : InsOk B.length C.length i) (k : Nat) : RowHome B C (fun t => H.getD t .zero) k i (rowL B H (s / 2 - 2) (s / 2 - 1) i) := by
  unfold targetB at hs
  simp only [Bool.or_eq_true, beq_iff_eq] at hs
  obtain ⟨a, ha⟩ : ∃ a : Nat, i.a = a := ⟨i.a.toNat, by have := hi.a0; omega⟩
  obtain ⟨b, hb⟩ : ∃ b : Nat, i.b = b := ⟨i.b.toNat, by have := hi.b0; omega⟩
  have hal : a < B.length := by have := hi.a1; omega
  have hbl : b < B.length := by have := hi.b1; omega
  have ca := fun l => bring_home h hal (s / 2 - 2) l
  have cb := fun l => bring_home h hbl (s / 2 - 1) l
  refine ⟨?_, ?_, ?_, ?_, ?_⟩
  · intro m hm t ht hn
    simp only [rowL, rowMB, rowMA, ha, hb, Int.toNat_natCast] at hm
    have key : ∀ l, m ∈ bringL l (regL B H a (s / 2 - 2)) (H.getD a .zero) → m ∈ l ∨ overB (H.getD t .zero) m.dst = false := by
      intro l hm
      rcases ca l with ⟨-, -, e, -⟩ | ⟨h3, hk, e, -⟩
      · rw [e] at hm; exact Or.inl hm
      · rw [e, List.mem_append, List.mem_singleton] at hm
        rcases hm with hm | hm
        · exact Or.inl hm
        · right
          rw [hm]
          exact h.sp a hal h3 t ht _ (by simp only; omega)
    have key2 : ∀ l, m ∈ bringL l (regL B H b (s / 2 - 1)) (H.getD b .zero) → m ∈ l ∨ overB (H.getD t .zero) m.dst = false := by
      intro l hm
      rcases cb l with ⟨-, -, e, -⟩ | ⟨h3, hk, e, -⟩
      · rw [e] at hm; exact Or.inl hm
      · rw [e, List.mem_append, List.mem_singleton] at hm
        rcases hm with hm | hm
        · exact Or.inl hm
        · right
          rw [hm]
          exact h.sp b hbl h3 t ht _ (by simp only; omega)
    have fin : m ∈ (if 0 < manyI i.op then bringL [] (regL B H a (s / 2 - 2)) (H.getD a .zero) else []) → overB (H.getD t .zero) m.dst = false := by
      intro hm
      split at hm
      · rcases key _ hm with e | e
        · simp at e
        · exact e
      · simp at hm
    split at hm
    · rcases key2 _ hm with e | e
      · exact fin e
      · exact e
    · exact fin hm
  · intro hm
    simp only [rowL, rowPA, rowMB, rowMA, ha, hb, Int.toNat_natCast, if_pos hm]
    rcases ca [] with ⟨-, e, -, -⟩ | ⟨h3, hk, e, -⟩
    · exact Or.inl e
    · right
      rw [e]
      by_cases hm2 : 1 < manyI i.op
      · rw [if_pos hm2]
        rcases cb ([] ++ [⟨regL B H a (s / 2 - 2), H.getD a .zero, false, 0⟩]) with ⟨-, -, e2, -⟩ | ⟨h32, hk2, e2, -⟩
        · rw [e2]
          exact ⟨[], [], rfl, fun m hm => by simp at hm⟩
        · rw [e2]
          refine ⟨[], [⟨regL B H b (s / 2 - 1), H.getD b .zero, false, 0⟩], rfl, fun m hm => ?_⟩
          rw [List.mem_singleton.1 hm]
          simp only
          generalize regL B H a (s / 2 - 2) = p at hk
          generalize regL B H b (s / 2 - 1) = q at hk2
          unfold overB
          rcases hk with ⟨k1, k2⟩ | ⟨k1, k2⟩ <;> rcases hk2 with ⟨l1, l2⟩ | ⟨l1, l2⟩ <;> simp [k1, k2, l1, l2] <;> omega
      · rw [if_neg hm2]
        exact ⟨[], [], rfl, fun m hm => by simp at hm⟩
  · intro hm
    simp only [rowL, rowBB, rowMB, rowMA, ha, hb, Int.toNat_natCast, if_pos hm]
    rcases cb (if 0 < manyI i.op then bringL [] (regL B H a (s / 2 - 2)) (H.getD a .zero) else []) with ⟨-, e, -, -⟩ | ⟨h3, hk, e, -⟩
    · exact Or.inl e
    · exact Or.inr ⟨_, [], e, fun m hm => by simp at hm⟩
  · intro hg
    obtain ⟨d0, d1⟩ := hi.d hg
    obtain ⟨d, hd⟩ : ∃ d : Nat, i.dest = d := ⟨i.dest.toNat, by omega⟩
    have hdl : d < B.length := by omega
    simp only [rowL, rowD, rowMD, hd, Int.toNat_natCast, if_pos hg]
    rcases bring_home h hdl (s / 2 - 2) [] with ⟨-, e, -, e2⟩ | ⟨h3, hk, -, e2⟩
    · exact Or.inl ⟨e, e2⟩
    · exact Or.inr ⟨e2, fun t ht _ _ => h.sp d hdl h3 t ht _ (by omega)⟩
  · intro hg
    simp only [rowL, rowMD]
    rw [hg]
    rfl
theorem row_may (h : FerryOk B C s slots H) (hs : targetB s = true) {i : LIns} (hi : InsOk B.length C.length i) : rowB B s slots i (rowL B H (s / 2 - 2) (s / 2 - 1) i) = true := by
  unfold targetB at hs
  simp only [Bool.or_eq_true, beq_iff_eq] at hs
  obtain ⟨a, ha⟩ : ∃ a : Nat, i.a = a := ⟨i.a.toNat, by have := hi.a0; omega⟩
  obtain ⟨b, hb⟩ : ∃ b : Nat, i.b = b := ⟨i.b.toNat, by have := hi.b0; omega⟩
  have hal : a < B.length := by have := hi.a1; omega
  have hbl : b < B.length := by have := hi.b1; omega
  -- a move from a home, and one to it
  have isr : ∀ {t : Nat} {f : Int}, t < B.length → 0 ≤ f → 2 * f < s → isB s slots (regL B H t f) = true := fun {t f} ht h0 h1 => by
    have hh := reg_reg h ht h0 h1 (by omega)
    unfold regB at hh
    simp only [Bool.and_eq_true, beq_iff_eq] at hh
    obtain ⟨-, hh⟩ := hh
    rcases is_cases hh with ⟨k1, k2, k3⟩ | ⟨k1, k2, k3⟩ | ⟨k1, k2, k3⟩
    · unfold isB; rw [if_pos k1]; simp; omega
    · unfold isB; rw [if_neg (by omega), if_pos k1]; simp; omega
    · omega
  have mv1 : ∀ {t : Nat} {f : Int}, t < B.length → 0 ≤ f → 2 * f < s → (H.getD t .zero).kind = 3 → (regL B H t f).kind = 2 ∨ (regL B H t f).kind = 1 → moveB s slots ⟨regL B H t f, H.getD t .zero, false, 0⟩ = true := fun {t f} ht h0 h1 h3 hk => by
    have i1 := isr ht h0 h1
    have i2 : isB s slots (H.getD t .zero) = true := h.ok.is t ht
    unfold moveB
    simp only [i1, i2, h3]
    rcases hk with hk | hk <;> rw [hk] <;> simp
  have mv2 : ∀ {t : Nat} {f : Int}, t < B.length → 0 ≤ f → 2 * f < s → (H.getD t .zero).kind = 3 → (regL B H t f).kind = 2 ∨ (regL B H t f).kind = 1 → moveB s slots ⟨H.getD t .zero, regL B H t f, false, 0⟩ = true := fun {t f} ht h0 h1 h3 hk => by
    have i1 := isr ht h0 h1
    have i2 : isB s slots (H.getD t .zero) = true := h.ok.is t ht
    unfold moveB
    simp only [i1, i2, h3]
    rcases hk with hk | hk <;> rw [hk] <;> simp
  have fz : fieldP B s false i.a .zero = true ∧ fieldP B s false i.b .zero = true ∧ fieldP B s false i.dest .zero = true := ⟨rfl, rfl, rfl⟩
  have pA : fieldP B s (decide (0 < manyI i.op)) i.a (rowPA B H (s / 2 - 2) i) = true := by
    unfold rowPA
    by_cases hm : 0 < manyI i.op
    · rw [if_pos hm, decide_eq_true hm, ha, Int.toNat_natCast]; exact reg_reg h hal (by omega) (by omega) (by omega)
    · rw [if_neg hm, decide_eq_false hm]; exact fz.1
  have pB : fieldP B s (decide (1 < manyI i.op)) i.b (rowBB B H (s / 2 - 1) i) = true := by
    unfold rowBB
    by_cases hm : 1 < manyI i.op
    · rw [if_pos hm, decide_eq_true hm, hb, Int.toNat_natCast]; exact reg_reg h hbl (by omega) (by omega) (by omega)
    · rw [if_neg hm, decide_eq_false hm]; exact fz.2.1
  have pD : fieldP B s (givesB i.op) i.dest (rowD B H (s / 2 - 2) i) = true := by
    unfold rowD
    rcases Bool.eq_false_or_eq_true (givesB i.op) with hg | hg
    · obtain ⟨d0, d1⟩ := hi.d hg
      obtain ⟨d, hd⟩ : ∃ d : Nat, i.dest = d := ⟨i.dest.toNat, by omega⟩
      rw [hg, hd, Int.toNat_natCast]
      exact reg_reg h (by omega) (by omega) (by omega) (by omega)
    · rw [hg]; exact fz.2.2
  have mA : rowMA B H (s / 2 - 2) i = [] ∨ ∃ m, rowMA B H (s / 2 - 2) i = [m] ∧ moveB s slots m = true := by
    unfold rowMA
    split
    · rw [ha, Int.toNat_natCast]
      rcases bring_home h hal (s / 2 - 2) [] with ⟨-, -, e, -⟩ | ⟨h3, hk, e, -⟩
      · exact Or.inl e
      · exact Or.inr ⟨_, e, mv1 hal (by omega) (by omega) h3 (by omega)⟩
    · exact Or.inl rfl
  have mB : movesB s slots (rowMB B H (s / 2 - 1) i (rowMA B H (s / 2 - 2) i)) = true := by
    have base : movesB s slots (rowMA B H (s / 2 - 2) i) = true := by
      rcases mA with e | ⟨m, e, hm⟩ <;> rw [e]
      · exact moves_zero _ _
      · exact moves_one hm
    unfold rowMB
    split
    · rw [hb, Int.toNat_natCast]
      rcases bring_home h hbl (s / 2 - 1) (rowMA B H (s / 2 - 2) i) with ⟨-, -, e, -⟩ | ⟨h3, hk, e, -⟩
      · rw [e]; exact base
      · rw [e]
        have h2 := mv1 (f := s / 2 - 1) hbl (by omega) (by omega) h3 (by omega)
        rcases mA with e2 | ⟨m, e2, hm⟩ <;> rw [e2]
        · exact moves_one h2
        · exact moves_two hm h2
    · exact base
  have mD : (rowMD B H (s / 2 - 2) i = [] ∨ givesB i.op = true) ∧ movesB s slots (rowMD B H (s / 2 - 2) i) = true := by
    unfold rowMD
    rcases Bool.eq_false_or_eq_true (givesB i.op) with hg | hg
    · refine ⟨Or.inr hg, ?_⟩
      obtain ⟨d0, d1⟩ := hi.d hg
      obtain ⟨d, hd⟩ : ∃ d : Nat, i.dest = d := ⟨i.dest.toNat, by omega⟩
      rw [hg, hd, Int.toNat_natCast]
      rcases bring_home h (t := d) (by omega) (s / 2 - 2) [] with ⟨-, -, -, e⟩ | ⟨h3, hk, -, e⟩
      · simp only [if_true]; rw [e]; rfl
      · simp only [if_true]
        rw [e]
        have h2 := mv2 (t := d) (f := s / 2 - 2) (by omega) (by omega) (by omega) h3 (by omega)
        exact moves_one h2
    · rw [hg]; exact ⟨Or.inl rfl, rfl⟩
  have pJ : (!((i.op == 8 || i.op == 9 || i.op == 10) && decide (0 < (rowMD B H (s / 2 - 2) i).length))) = true := by
    rcases mD.1 with e | e
    · rw [e]; simp
    · unfold givesB at e
      simp only [Bool.and_eq_true, Bool.not_eq_true', beq_eq_false_iff_ne, ne_eq] at e
      simp [e]
  unfold rowB rowL
  simp only [pA, pB, pD, mB, mD.2, pJ, Bool.and_self]
end
theorem rowL_ok (B : List Bool) (H : List LPlace) (f0 f1 : Int) (i : LIns) : MovesOk (rowL B H f0 f1 i).before ∧ MovesOk (rowL B H f0 f1 i).after := by
  have step : ∀ l d c, (∀ m : LMove, m ∈ l → m.n = 0) → ∀ m : LMove, m ∈ bringL l d c → m.n = 0 := by
    intro l d c hl m hm
    rcases bring_cases l d c with ⟨-, e⟩ | e
    · rw [e] at hm; exact hl m hm
    · rw [e, List.mem_append, List.mem_singleton] at hm
      rcases hm with hm | hm
      · exact hl m hm
      · rw [hm]
  have fin : ∀ l : List LMove, (∀ m : LMove, m ∈ l → m.n = 0) → MovesOk l := by
    intro l hl k hk
    have := hl (l.getD k .zero) (by simp [List.getD, hk])
    omega
  refine ⟨fin _ ?_, fin _ ?_⟩
  · simp only [rowL, rowMB, rowMA]
    split
    · refine step _ _ _ ?_
      split
      · exact step _ _ _ (fun m hm => by simp at hm)
      · exact fun m hm => by simp at hm
    · split
      · exact step _ _ _ (fun m hm => by simp at hm)
      · exact fun m hm => by simp at hm
  · simp only [rowL, rowMD]
    split
    · exact step _ _ _ (fun m hm => by simp at hm)
    · exact fun m hm => by simp at hm
theorem build_get (B : List Bool) (C : List LIns) (s : Int) {k : Nat} (hk : k < C.length) : (buildF B C s).2.getD k .zero = rowL B (giveL 0 (regsF B C s.toNat)) (s / 2 - 2) (s / 2 - 1) (C.getD k .zero) := by
  simp [buildF, List.getD, hk]
theorem build_mayB (B : List Bool) (C : List LIns) (s : Int) (hn : ∀ i, i < C.length → 0 ≤ (C.getD i .zero).n ∧ (C.getD i .zero).n < 4294967296) (hm : refMayB B C = true) (ht : targetB s = true) : placeMayB B C s (buildF B C s).1 (buildF B C s).2 = true ∧ RowsOk (buildF B C s).2 := by
  have hs : sizesB B C = true := by
    have hm0 := hm
    unfold refMayB at hm0
    simp only [Bool.and_eq_true] at hm0
    exact hm0.1
  obtain ⟨s1, s2, s3, s4⟩ := sizes_of hs
  obtain ⟨hl, hF⟩ := regs_ferry (C := C) s1 ht
  have hio := all_insOk hm hn
  have hle := noneN_le (regsF B C s.toNat)
  have e1 : (buildF B C s).1 = (noneN (regsF B C s.toNat) : Int) := rfl
  have e2 : (buildF B C s).2.length = C.length := by simp [buildF]
  refine ⟨?_, fun r hr => ?_⟩
  · unfold placeMayB
    simp only [hm, ht, Bool.true_and, Bool.and_eq_true, Bool.not_eq_true', decide_eq_true_eq, decide_eq_false_iff_not, List.all_eq_true]
    refine ⟨⟨⟨by omega, by omega⟩, e2⟩, fun k hk => ?_⟩
    have hk2 := List.mem_range.1 hk
    rw [build_get B C s hk2, e1]
    exact row_may hF ht (hio k hk2)
  · rw [build_get B C s (by omega)]
    exact rowL_ok _ _ _ _ _
end form
/- A builder in memory; where an instruction has a temporary, and what must be moved for it (build.builder.register, build.bring). -/
namespace form
open Go.RowKit
set_option maxRecDepth 100000
attribute [local go_sem ↓] Go.wp_at_zero Go.wp_at_succ
theorem wrapB {x : Int} (h0 : -9223372036854775808 ≤ x) (h1 : x ≤ 9223372036854775807) : IntKind.i64.wrap x = x := by
  simp [IntKind.wrap, IntKind.bits, IntKind.signed]
  split <;> omega
def bdC (b0 o0 nB c0 b1 o1 nC c1 gv cap : Nat) (slots f0 f1 : Int) : List Value := [.slice (some ⟨b0, o0, none⟩) nB c0, .slice (some ⟨b1, o1, none⟩) nC c1, .slice (some ⟨gv, 0, none⟩) nB cap, .int .i64 slots, .int .i64 f0, .int .i64 f1]
structure BdR (bb b0 o0 c0 b1 o1 c1 gv cap : Nat) (B : List Bool) (C : List LIns) (H : List LPlace) (slots f0 f1 : Int) (w : World) : Prop where
  held : Held w b0 o0 b1 o1 B C
  bd : Row w bb 129 (bdC b0 o0 B.length c0 b1 o1 C.length c1 gv cap slots f0 f1)
  len : H.length = B.length
  row : GivAt w gv H
section
variable {bb b0 o0 c0 b1 o1 c1 gv cap : Nat} {B : List Bool} {C : List LIns} {H : List LPlace} {slots f0 f1 : Int} {w w' : World}
theorem BdR.later (h : BdR bb b0 o0 c0 b1 o1 c1 gv cap B C H slots f0 f1 w) (hb : Below w.heap.size w w') : BdR bb b0 o0 c0 b1 o1 c1 gv cap B C H slots f0 f1 w' :=
  ⟨h.held.later hb, h.bd.below hb, h.len, h.row.later hb⟩
theorem BdR.p0 (h : BdR bb b0 o0 c0 b1 o1 c1 gv cap B C H slots f0 f1 w) : w.cell? ⟨bb, 0, none⟩ = some (.slice (some ⟨b0, o0, none⟩) B.length c0) := h.bd.cell 0
theorem BdR.p1 (h : BdR bb b0 o0 c0 b1 o1 c1 gv cap B C H slots f0 f1 w) : w.cell? ⟨bb, 1, none⟩ = some (.slice (some ⟨b1, o1, none⟩) C.length c1) := h.bd.cell 1
theorem BdR.p2 (h : BdR bb b0 o0 c0 b1 o1 c1 gv cap B C H slots f0 f1 w) : w.cell? ⟨bb, 2, none⟩ = some (.slice (some ⟨gv, 0, none⟩) B.length cap) := h.bd.cell 2
theorem BdR.p3 (h : BdR bb b0 o0 c0 b1 o1 c1 gv cap B C H slots f0 f1 w) : w.cell? ⟨bb, 3, none⟩ = some (.int .i64 slots) := h.bd.cell 3
theorem BdR.p4 (h : BdR bb b0 o0 c0 b1 o1 c1 gv cap B C H slots f0 f1 w) : w.cell? ⟨bb, 4, none⟩ = some (.int .i64 f0) := h.bd.cell 4
theorem BdR.p5 (h : BdR bb b0 o0 c0 b1 o1 c1 gv cap B C H slots f0 f1 w) : w.cell? ⟨bb, 5, none⟩ = some (.int .i64 f1) := h.bd.cell 5
end
def RegP (B : List Bool) (H : List LPlace) (t : Nat) (f : Int) (w : World) (e : Ending) (w' : World) : Prop := e = .returned (regL B H t f).val ∧ Below w.heap.size w w'
set_option maxHeartbeats 1600000 in
theorem registerO {bb b0 o0 c0 b1 o1 c1 gv cap : Nat} {B : List Bool} {C : List LIns} {H : List LPlace} {slots f0 f1 : Int} {w : World} (h : BdR bb b0 o0 c0 b1 o1 c1 gv cap B C H slots f0 f1 w) (t : Nat) (ht : t < B.length) (f : Int) (hf0 : 0 ≤ f) (hf1 : f ≤ 100) :
    Calls Tryz.prog 136 #[.pointer (some ⟨bb, 0, none⟩), .int .i64 t, .int .i64 f] w fun e w' => RegP B H t f w e w' := by
  have p0 := h.p0
  have p2 := h.p2
  have hlt := h.len
  obtain ⟨e0, e1⟩ := h.row t (by omega)
  have e2 := h.held.wide t ht
  have hbb := World.block_lt_of_cell? _ _ p0
  have hgv := World.block_lt_of_cell? _ _ e0
  have hb0 := h.held.lt0
  have y1 : (t : Int) < (B.length : Int) := by omega
  have y2 : (0 : Int) ≤ (t : Int) := by omega
  have HW0 : Hid (∀ o : Obj, Below w.heap.size w (w.alloc o)) := fun o => (Below.refl _ _).alloc (Nat.le_refl _) _
  have hwr : IntKind.i64.wrap (2 * f) = 2 * f := wrapB (by omega) (by omega)
  have HRL : Hid (regL B H t f = if (H.getD t .zero).kind = 3 then (if B.getD t false then ⟨2, f⟩ else ⟨1, 2 * f⟩) else H.getD t .zero) := rfl
  obtain ⟨p, hp⟩ : ∃ p, p = H.getD t .zero := ⟨_, rfl⟩
  obtain ⟨x, hx⟩ : ∃ x, x = B.getD t false := ⟨_, rfl⟩
  rw [← hp] at e0 e1 HRL
  rw [← hx] at e2 HRL
  clear hp hx h hlt
  by_cases hk : p.kind = 3
  · have HK : Hid (p.kind = 3) := hk
    rw [hk] at e0
    clear hk
    rcases Bool.eq_false_or_eq_true x with hc | hc
    · subst hc
      have hrl : regL B H t f = ⟨2, f⟩ := by rw [HRL.out, if_pos HK.out]; rfl
      have HR : Hid (regL B H t f = ⟨2, f⟩) := hrl
      clear hrl HRL HK
      go_enter Tryz.func136, Tryz.ntmps136
      go_wp2
      refine bodyPost_ret (v := (LPlace.mk 2 f).val) ?_ rfl ⟨by rw [HR.out], ?_⟩
      · simp [results, Tryz.results136, go_sem, LPlace.val]
      · first | exact HW0.out _ | exact ((HW0.out _).setCell (by dsimp only; omega) _).setCell (by dsimp only; omega) _
    · subst hc
      have hrl : regL B H t f = ⟨1, 2 * f⟩ := by rw [HRL.out, if_pos HK.out]; rfl
      have HR : Hid (regL B H t f = ⟨1, 2 * f⟩) := hrl
      clear hrl HRL HK
      go_enter Tryz.func136, Tryz.ntmps136
      go_wp2
      refine bodyPost_ret (v := (LPlace.mk 1 (2 * f)).val) ?_ rfl ⟨by rw [HR.out], ?_⟩
      · simp [results, Tryz.results136, go_sem, LPlace.val]
      · first | exact HW0.out _ | exact ((HW0.out _).setCell (by dsimp only; omega) _).setCell (by dsimp only; omega) _
  · have hrl : regL B H t f = p := by rw [HRL.out, if_neg hk]
    have HR : Hid (regL B H t f = p) := hrl
    clear hrl HRL
    obtain ⟨pk, pn⟩ := p
    dsimp only at e0 e1 hk
    have hk2 : (pk == 3) = false := by simpa using hk
    go_enter Tryz.func136, Tryz.ntmps136
    go_wp2
    refine bodyPost_ret (v := (LPlace.mk pk pn).val) ?_ rfl ⟨by rw [HR.out], ?_⟩
    · simp [results, Tryz.results136, go_sem, LPlace.val]
    · first | exact HW0.out _ | exact ((HW0.out _).setCell (by dsimp only; omega) _).setCell (by dsimp only; omega) _
def MvB (base : Nat) (l : List LMove) (v : Value) (w : World) : Prop := w.ownsRow base 208 6 v l.length (l.flatMap mvC)
theorem MvB.below {base : Nat} {l : List LMove} {v : Value} {w w' : World} (h : MvB base l v w) (hb : Below w.heap.size w w') : MvB base l v w' :=
  World.ownsRow.kept h ⟨hb.os, hb.tape, hb.output, hb.size, fun j hj _ => hb.block j hj⟩ (row := none) (by cases v.ownBlock <;> simp)
def BringP (base : Nat) (l : List LMove) (d c : LPlace) (w : World) (e : Ending) (w' : World) : Prop := ∃ v, e = .returned v ∧ MvB base (bringL l d c) v w' ∧ Below base w w'
set_option maxHeartbeats 1600000 in
theorem bring_a (base : Nat) (l : List LMove) (dk dn ck cn : Int) (v : Value) (w : World) (h : MvB base l v w) (hb : base ≤ w.heap.size) (h6 : l.length ≤ 6) (hk : ¬ dk = ck) :
    Calls Tryz.prog 137 #[v, .agg #[.int .i64 dk, .int .i64 dn], .agg #[.int .i64 ck, .int .i64 cn]] w fun e w' => ∃ v, e = .returned v ∧ MvB base (l ++ [⟨⟨dk, dn⟩, ⟨ck, cn⟩, false, 0⟩]) v w' ∧ Below base w w' := by
  have HW2 : Hid (∀ o1 o2 : Obj, Below w.heap.size w ((w.alloc o1).alloc o2)) := fun o1 o2 => ((Below.refl _ _).alloc (Nat.le_refl _) _).alloc (by simp) _
  have HM : Hid (MvB base l v w) := h
  clear h
  obtain ⟨t0', hi0, hy0, hy1, hy2⟩ := info_parts (P := Tryz.prog) (e := 208) (z := .agg #[.int .i64 0, .int .i64 0, .int .i64 0, .int .i64 0, .bool false, .int .u32 0]) (size := 6) (bytes := 40) (by kernel_rfl)
  go_enter Tryz.func137, Tryz.ntmps137
  go_wp2_with (at_builtin; refine wpList_append_lies _ rfl _ _ 138 rfl base 208 t0' (.agg #[.int .i64 0, .int .i64 0, .int .i64 0, .int .i64 0, .bool false, .int .u32 0]) 6 40 Tryz.underlying138 hi0 hy0 hy1 hy2 rfl (by decide) v l.length (l.flatMap mvC) rfl (World.ownsRow.alloc (HM.out.below (HW2.out _ _)) _) ⟨w.heap.size + 1 + 1, 0, none⟩ 1 1 [.int .i64 dk, .int .i64 dn, .int .i64 ck, .int .i64 cn, .bool false, .int .u32 0] rfl rfl ?c1 ?c2 (by decide) ?c3 ?c4 ?c5 _ rfl ?_)
  case c1 =>
    intro j u hu
    rcases j with _ | _ | _ | _ | _ | _ | j
    all_goals first | (simp at hu; subst hu; simp [go_sem, Addr.add]; done) | simp at hu
  case c2 => simp [Value.oneCell']
  case c3 => unfold maxLen; omega
  case c4 => omega
  case c5 => first | omega | (simp; omega)
  intro g9 cap9 w9 hown hgrow hat hlt9
  have HA : Hid (Below base w w9) := by
    have h3 : ∀ o1 o2 o3 : Obj, Below base w (((w.alloc o1).alloc o2).alloc o3) := fun o1 o2 o3 => ((HW2.out o1 o2).mono hb).alloc (by simp; omega) _
    exact (h3 _ _ _).grown hgrow (by simp; omega) (fun j hj => by have := (World.ownsRow.lt HM.out _ hj).1; omega)
  have HO : Hid (MvB base (l ++ [⟨⟨dk, dn⟩, ⟨ck, cn⟩, false, 0⟩]) (.slice (some ⟨g9, 0, none⟩) (l.length + 1) cap9) w9) := by
    show MvB _ _ _ _
    unfold MvB
    simpa [mvC] using hown
  clear hown hgrow hat
  go_wp2
  go_ret
  exact ⟨_, rfl, HO.out, HA.out⟩
set_option maxHeartbeats 1600000 in
theorem bring_b (base : Nat) (l : List LMove) (dn ck cn : Int) (v : Value) (w : World) (h : MvB base l v w) (hb : base ≤ w.heap.size) (h6 : l.length ≤ 6) (hn : ¬ dn = cn) :
    Calls Tryz.prog 137 #[v, .agg #[.int .i64 ck, .int .i64 dn], .agg #[.int .i64 ck, .int .i64 cn]] w fun e w' => ∃ v, e = .returned v ∧ MvB base (l ++ [⟨⟨ck, dn⟩, ⟨ck, cn⟩, false, 0⟩]) v w' ∧ Below base w w' := by
  have HW2 : Hid (∀ o1 o2 : Obj, Below w.heap.size w ((w.alloc o1).alloc o2)) := fun o1 o2 => ((Below.refl _ _).alloc (Nat.le_refl _) _).alloc (by simp) _
  have HM : Hid (MvB base l v w) := h
  clear h
  obtain ⟨t0', hi0, hy0, hy1, hy2⟩ := info_parts (P := Tryz.prog) (e := 208) (z := .agg #[.int .i64 0, .int .i64 0, .int .i64 0, .int .i64 0, .bool false, .int .u32 0]) (size := 6) (bytes := 40) (by kernel_rfl)
  go_enter Tryz.func137, Tryz.ntmps137
  go_wp2_with (at_builtin; refine wpList_append_lies _ rfl _ _ 138 rfl base 208 t0' (.agg #[.int .i64 0, .int .i64 0, .int .i64 0, .int .i64 0, .bool false, .int .u32 0]) 6 40 Tryz.underlying138 hi0 hy0 hy1 hy2 rfl (by decide) v l.length (l.flatMap mvC) rfl (World.ownsRow.alloc (HM.out.below (HW2.out _ _)) _) ⟨w.heap.size + 1 + 1, 0, none⟩ 1 1 [.int .i64 ck, .int .i64 dn, .int .i64 ck, .int .i64 cn, .bool false, .int .u32 0] rfl rfl ?c1 ?c2 (by decide) ?c3 ?c4 ?c5 _ rfl ?_)
  case c1 =>
    intro j u hu
    rcases j with _ | _ | _ | _ | _ | _ | j
    all_goals first | (simp at hu; subst hu; simp [go_sem, Addr.add]; done) | simp at hu
  case c2 => simp [Value.oneCell']
  case c3 => unfold maxLen; omega
  case c4 => omega
  case c5 => first | omega | (simp; omega)
  intro g9 cap9 w9 hown hgrow hat hlt9
  have HA : Hid (Below base w w9) := by
    have h3 : ∀ o1 o2 o3 : Obj, Below base w (((w.alloc o1).alloc o2).alloc o3) := fun o1 o2 o3 => ((HW2.out o1 o2).mono hb).alloc (by simp; omega) _
    exact (h3 _ _ _).grown hgrow (by simp; omega) (fun j hj => by have := (World.ownsRow.lt HM.out _ hj).1; omega)
  have HO : Hid (MvB base (l ++ [⟨⟨ck, dn⟩, ⟨ck, cn⟩, false, 0⟩]) (.slice (some ⟨g9, 0, none⟩) (l.length + 1) cap9) w9) := by
    show MvB _ _ _ _
    unfold MvB
    simpa [mvC] using hown
  clear hown hgrow hat
  go_wp2
  go_ret
  exact ⟨_, rfl, HO.out, HA.out⟩
set_option maxHeartbeats 1600000 in
theorem bring_c (base : Nat) (l : List LMove) (ck cn : Int) (v : Value) (w : World) (h : MvB base l v w) (hb : base ≤ w.heap.size) :
    Calls Tryz.prog 137 #[v, .agg #[.int .i64 ck, .int .i64 cn], .agg #[.int .i64 ck, .int .i64 cn]] w fun e w' => ∃ v, e = .returned v ∧ MvB base l v w' ∧ Below base w w' := by
  have HW2 : Hid (∀ o1 o2 : Obj, Below w.heap.size w ((w.alloc o1).alloc o2)) := fun o1 o2 => ((Below.refl _ _).alloc (Nat.le_refl _) _).alloc (by simp) _
  have HM : Hid (MvB base l v w) := h
  clear h
  go_enter Tryz.func137, Tryz.ntmps137
  go_wp2
  go_ret
  exact ⟨v, rfl, HM.out.below (HW2.out _ _), (HW2.out _ _).mono hb⟩
theorem bringO (base : Nat) (l : List LMove) (d c : LPlace) (v : Value) (w : World) (h : MvB base l v w) (hb : base ≤ w.heap.size) (h6 : l.length ≤ 6) :
    Calls Tryz.prog 137 #[v, d.val, c.val] w fun e w' => BringP base l d c w e w' := by
  obtain ⟨dk, dn⟩ := d
  obtain ⟨ck, cn⟩ := c
  unfold BringP bringL samePl LPlace.val
  by_cases hk : dk = ck
  · subst hk
    by_cases hn : dn = cn
    · subst hn
      have := bring_c base l dk dn v w h hb
      simpa using this
    · have := bring_b base l dn dk cn v w h hb h6 hn
      simpa [hn] using this
  · have := bring_a base l dk dn ck cn v w h hb h6 hk
    simpa [hk] using this
end form
/- Whether one has no register (slices.Contains at []api.Place), and slots for those that have none (build.builder.giveSlots). -/
namespace form
open Go.RowKit
set_option maxRecDepth 100000
attribute [local go_sem ↓] Go.wp_at_zero Go.wp_at_succ
def IdxP (G : List LPlace) (w : World) (e : Ending) (w' : World) : Prop := ∃ r : Int, e = .returned (.int .i64 r) ∧ (0 ≤ r ↔ hasZ G = true) ∧ Below w.heap.size w w'
theorem hasZ_at {G : List LPlace} {k : Nat} (h : k < G.length) (e : G.getD k .zero = .zero) : hasZ G = true := by
  unfold hasZ
  rw [List.any_eq_true]
  exact ⟨G.getD k .zero, by simp [List.getD, h], by rw [e]; exact same_refl _⟩
theorem hasZ_more {G : List LPlace} {k : Nat} (h : k < G.length) (h0 : hasZ (G.take k) = false) (e : ¬ G.getD k .zero = .zero) : hasZ (G.take (k + 1)) = false := by
  rw [take_oneP h]
  unfold hasZ at h0 ⊢
  rw [List.any_append, h0, Bool.false_or, List.any_cons, List.any_nil, Bool.or_false]
  rcases Bool.eq_false_or_eq_true (samePl (G.getD k .zero) .zero) with c | c
  · exact absurd (same_is c) e
  · exact c
set_option maxHeartbeats 1600000 in
theorem indexO (gv cap : Nat) (G : List LPlace) (w : World) (hG : GivAt w gv G) (h12 : G.length ≤ 12) :
    Calls Tryz.prog 134 #[.slice (some ⟨gv, 0, none⟩) G.length cap, .agg #[.int .i64 0, .int .i64 0]] w fun e w' => IdxP G w e w' := by
  have HG : Hid (∀ wx, Below w.heap.size w wx → GivAt wx gv G) := fun wx hb => hG.later hb
  have HW0 : Hid (∀ o : Obj, Below w.heap.size w (w.alloc o)) := fun o => (Below.refl _ _).alloc (Nat.le_refl _) _
  have y1 : (G.length : Int) ≤ 12 := by omega
  clear hG
  go_enter Tryz.func134, Tryz.ntmps134
  go_wp2
  go_loopg [5, 8] (G.length + 1) (fun gg v5 v8 wr => ∃ (k : Nat), v8 = .int .i64 k ∧ k ≤ G.length ∧ gg = G.length + 1 - k ∧ Below w.heap.size w wr ∧ (wr.cell? ⟨w.heap.size, 0, none⟩ = some (.int .i64 0) ∧ wr.cell? ⟨w.heap.size, 1, none⟩ = some (.int .i64 0)) ∧ hasZ (G.take k) = false)
  case atStart => exact ⟨0, rfl, by omega, by omega, HW0.out _, ⟨by simp [go_sem], by simp [go_sem]⟩, by simp [hasZ]⟩
  case round =>
    obtain ⟨k, rfl, hk, hgk, hb, ⟨c0, c1'⟩, hz⟩ := hrel
    have HGK : Hid (gk = G.length + 1 - k) := hgk
    have HB : Hid (Below w.heap.size w wr) := hb
    have HZ : Hid (hasZ (G.take k) = false) := hz
    clear hgk hb hz
    by_cases hlt : k < G.length
    case neg =>
      have y2 : ¬ (k : Int) < (G.length : Int) := by omega
      obtain rfl : k = G.length := by omega
      go_wp2
      go_ret
      have hf := HZ.out
      rw [List.take_length] at hf
      exact ⟨-1, rfl, by rw [hf]; simp, HB.out⟩
    have y2 : (k : Int) < (G.length : Int) := by omega
    have y3 : (0 : Int) ≤ (k : Int) := by omega
    obtain ⟨e0, e1⟩ := HG.out wr HB.out k hlt
    obtain ⟨p, hp⟩ : ∃ p, p = G.getD k .zero := ⟨_, rfl⟩
    rw [← hp] at e0 e1
    have HP : Hid (p = G.getD k .zero) := hp
    clear hp
    obtain ⟨pk, pn⟩ := p
    dsimp only at e0 e1
    by_cases hpz : pk = 0 ∧ pn = 0
    · obtain ⟨rfl, rfl⟩ := hpz
      have hy := hasZ_at hlt HP.out.symm
      have HY : Hid (hasZ G = true) := hy
      clear hy
      go_wp2
      go_quiet (fail)
      go_wp2
      go_ret
      exact ⟨k, rfl, by rw [HY.out]; simp, below_drewN HB.out _⟩
    · have HN : Hid (hasZ (G.take (k + 1)) = false) := hasZ_more hlt HZ.out (fun e => hpz (by have := HP.out.trans e; unfold LPlace.zero at this; simpa using this))
      by_cases hpk : pk = 0
      · have hf : ((0 : Int) == pn) = false := by
          rw [beq_eq_false_iff_ne]
          exact fun e => hpz ⟨hpk, e.symm⟩
        clear hpz
        subst hpk
        go_wp2
        go_quiet (fail)
        go_wp2
        have hgk := HGK.out
        go_roundg (gk - 1)
        case measure => omega
        case rel => exact ⟨k + 1, by go_num, by omega, by omega, below_drewN HB.out _, ⟨c0, c1'⟩, HN.out⟩
      · have hf : ((0 : Int) == pk) = false := by
          rw [beq_eq_false_iff_ne]
          exact fun e => hpk e.symm
        clear hpz hpk
        go_wp2
        go_quiet (fail)
        go_wp2
        have hgk := HGK.out
        go_roundg (gk - 1)
        case measure => omega
        case rel => exact ⟨k + 1, by go_num, by omega, by omega, below_drewN HB.out _, ⟨c0, c1'⟩, HN.out⟩
set_option maxHeartbeats 1600000 in
theorem containsZ (gv cap : Nat) (G : List LPlace) (w : World) (hG : GivAt w gv G) (h12 : G.length ≤ 12) :
    Calls Tryz.prog 98 #[.slice (some ⟨gv, 0, none⟩) G.length cap, .agg #[.int .i64 0, .int .i64 0]] w fun e w' => e = .returned (.bool (hasZ G)) ∧ Below w.heap.size w w' := by
  have HI : Hid (∀ wx, Below w.heap.size w wx → Calls Tryz.prog 134 #[.slice (some ⟨gv, 0, none⟩) G.length cap, .agg #[.int .i64 0, .int .i64 0]] wx fun e w' => IdxP G wx e w') := fun wx hb => indexO gv cap G wx (hG.later hb) h12
  have HW0 : Hid (∀ o : Obj, Below w.heap.size w (w.alloc o)) := fun o => (Below.refl _ _).alloc (Nat.le_refl _) _
  clear hG
  go_enter Tryz.func98, Tryz.ntmps98
  go_wp2_with (go_at_call 134; refine (HI.out _ (HW0.out _)).mono ?_; rintro e w1 ⟨r, rfl, hr, hb1⟩; have HR : Hid (0 ≤ r ↔ hasZ G = true) := hr; have HB1 : Hid (Below w.heap.size w w1) := step_below hb1 (HW0.out _); clear hr hb1)
  go_ret
  refine ⟨ret_bool ?_, HB1.out⟩
  have := HR.out
  rcases Bool.eq_false_or_eq_true (hasZ G) with c | c
  · rw [c] at this ⊢; simp at this; simpa using this
  · rw [c] at this ⊢; simp at this; simpa using this
structure GvS (bb b0 o0 c0 b1 o1 c1 gv cap : Nat) (B : List Bool) (C : List LIns) (G : List LPlace) (f0 f1 : Int) (w : World) (k : Nat) (wr : World) : Prop where
  bd : Row wr bb 129 (bdC b0 o0 B.length c0 b1 o1 C.length c1 gv cap (noneN (G.take k)) f0 f1)
  row : Row wr gv 137 ((giveU G k).flatMap rgCs)
  but : But bb gv w wr
section
variable {bb b0 o0 c0 b1 o1 c1 gv cap : Nat} {B : List Bool} {C : List LIns} {G : List LPlace} {f0 f1 : Int} {w wr w1 : World} {k : Nat}
theorem GvS.below (h : GvS bb b0 o0 c0 b1 o1 c1 gv cap B C G f0 f1 w k wr) (hb : Below wr.heap.size wr w1) : GvS bb b0 o0 c0 b1 o1 c1 gv cap B C G f0 f1 w k w1 := ⟨h.bd.below hb, h.row.below hb, h.but.trans (But.of_below hb)⟩
theorem GvS.no (h : GvS bb b0 o0 c0 b1 o1 c1 gv cap B C G f0 f1 w k wr) (hk : k < G.length) (h0 : ¬ (G.getD k .zero).kind = 0) : GvS bb b0 o0 c0 b1 o1 c1 gv cap B C G f0 f1 w (k + 1) wr := by
  obtain ⟨e1, e2⟩ := giveU_no hk h0
  exact ⟨by rw [e2]; exact h.bd, by rw [e1]; exact h.row, h.but⟩
theorem GvS.yes (h : GvS bb b0 o0 c0 b1 o1 c1 gv cap B C G f0 f1 w k wr) (hne : bb ≠ gv) (hk : k < G.length) (h0 : (G.getD k .zero).kind = 0) :
    GvS bb b0 o0 c0 b1 o1 c1 gv cap B C G f0 f1 w (k + 1) (((wr.setCell ⟨gv, k * 2, none⟩ (.int .i64 3)).setCell ⟨gv, k * 2 + 1, none⟩ (.int .i64 (noneN (G.take k)))).setCell ⟨bb, 3, none⟩ (.int .i64 ((noneN (G.take k) : Nat) + 1))) := by
  obtain ⟨e1, e2⟩ := giveU_yes hk h0
  refine ⟨?_, ?_, ((h.but.setY _ _).setY _ _).setX _ _⟩
  · rw [e2]
    have := ((h.bd.other (a := ⟨gv, k * 2, none⟩) hne (.int .i64 3)).other (a := ⟨gv, k * 2 + 1, none⟩) hne (.int .i64 (noneN (G.take k)))).set 3 (.int .i64 ((noneN (G.take k) : Nat) + 1))
    exact this
  · rw [e1]
    have := ((h.row.set (k * 2) (.int .i64 3)).set (k * 2 + 1) (.int .i64 (noneN (G.take k))))
    have e := flat_set (giveU G k) k ⟨3, (noneN (G.take k) : Int)⟩
    dsimp only at e
    rw [e] at this
    exact this.other (a := ⟨bb, 3, none⟩) (fun e => hne e.symm) _
end
set_option maxHeartbeats 3200000 in
theorem giveSlotsO (bb b0 o0 c0 b1 o1 c1 gv cap : Nat) (B : List Bool) (C : List LIns) (G : List LPlace) (f0 f1 : Int) (w : World) (hl : G.length = B.length) (h12 : B.length ≤ 12) (hne : bb ≠ gv)
    (hbd : Row w bb 129 (bdC b0 o0 B.length c0 b1 o1 C.length c1 gv cap 0 f0 f1)) (hrow : Row w gv 137 (G.flatMap rgCs)) :
    Calls Tryz.prog 67 #[.pointer (some ⟨bb, 0, none⟩)] w fun e w' => e = .returned (.tuple #[]) ∧ GvS bb b0 o0 c0 b1 o1 c1 gv cap B C G f0 f1 w B.length w' := by
  have h2 : w.cell? ⟨bb, 2, none⟩ = some (.slice (some ⟨gv, 0, none⟩) B.length cap) := hbd.cell 2
  have HS : Hid (GvS bb b0 o0 c0 b1 o1 c1 gv cap B C G f0 f1 w 0 w) := ⟨by simpa [noneN] using hbd, by rw [giveU_zero]; exact hrow, But.refl _⟩
  have y1 : (B.length : Int) ≤ 12 := by omega
  clear hbd hrow
  go_enter Tryz.func67, Tryz.ntmps67
  go_wp2
  clear h2
  go_loopg [2, 3, 9] (B.length + 1) (fun gg v2 v3 v9 wr => ∃ (k : Nat), v9 = .int .i64 k ∧ k ≤ B.length ∧ gg = B.length + 1 - k ∧ GvS bb b0 o0 c0 b1 o1 c1 gv cap B C G f0 f1 w k wr)
  case atStart => exact ⟨0, rfl, by omega, by omega, HS.out⟩
  case round =>
    clear HS
    obtain ⟨k, rfl, hk, hgk, hs⟩ := hrel
    have HGK : Hid (gk = B.length + 1 - k) := hgk
    have HS : Hid (GvS bb b0 o0 c0 b1 o1 c1 gv cap B C G f0 f1 w k wr) := hs
    clear hgk hs
    by_cases hlt : k < B.length
    case neg =>
      have y2 : ¬ (k : Int) < (B.length : Int) := by omega
      go_wp2
      go_end0
      refine ⟨rfl, ?_⟩
      have := HS.out
      rwa [show k = B.length by omega] at this
    have y2 : (k : Int) < (B.length : Int) := by omega
    have y3 : (0 : Int) ≤ (k : Int) := by omega
    have hltg : k < G.length := by omega
    have HLT : Hid (k < G.length) := hltg
    clear hltg
    have q2 : wr.cell? ⟨bb, 2, none⟩ = some (.slice (some ⟨gv, 0, none⟩) B.length cap) := HS.out.bd.cell 2
    have q3 : wr.cell? ⟨bb, 3, none⟩ = some (.int .i64 (noneN (G.take k))) := HS.out.bd.cell 3
    have hgt := row_giv HS.out.row k (by rw [giveU_len]; omega)
    rw [giveU_get (by omega)] at hgt
    obtain ⟨e0, e1⟩ := hgt
    have hbb := World.block_lt_of_cell? _ _ q2
    have hgv := World.block_lt_of_cell? _ _ e0
    have z0 := fun j => HS.out.bd.frozen j
    have z1 := fun j => HS.out.row.frozen j
    obtain ⟨m, hm⟩ : ∃ m, m = noneN (G.take k) := ⟨_, rfl⟩
    have HM : Hid (m = noneN (G.take k)) := hm
    have hm12 : m ≤ 12 := by rw [hm]; have := noneN_le (G.take k); simp at this; omega
    have y4 : (m : Int) ≤ 12 := by omega
    have y5 : (0 : Int) ≤ (m : Int) := by omega
    rw [← hm] at q3
    clear hm hm12
    by_cases hz : (G.getD k .zero).kind = 0
    · have HZ : Hid ((G.getD k .zero).kind = 0) := hz
      rw [hz] at e0
      clear hz
      obtain ⟨pn, hpn⟩ : ∃ pn, pn = (G.getD k .zero).n := ⟨_, rfl⟩
      rw [← hpn] at e1
      clear hpn
      go_upto_region 4 with fail
      obtain ⟨w5, hw5⟩ : ∃ w5, w5 = wr.alloc (.cells #[.int .i64 0, .int .i64 pn] 137) := ⟨_, rfl⟩
      have hb5 : Below wr.heap.size wr w5 := by rw [hw5]; exact (Below.refl _ _).alloc (Nat.le_refl _) _
      rw [← hw5]
      clear hw5
      have HS5 : Hid (GvS bb b0 o0 c0 b1 o1 c1 gv cap B C G f0 f1 w k w5) := HS.out.below hb5
      have q2 := step_cell hb5 q2
      have q3 := step_cell hb5 q3
      have e0 := step_cell hb5 e0
      have e1 := step_cell hb5 e1
      have z0 : ∀ j, w5.frozen? ⟨bb, j, none⟩ = false := fun j => HS5.out.bd.frozen j
      have z1 : ∀ j, w5.frozen? ⟨gv, j, none⟩ = false := fun j => HS5.out.row.frozen j
      have hbb5 := World.block_lt_of_cell? _ _ q2
      have hgv5 := World.block_lt_of_cell? _ _ e0
      clear hb5
      go_region_held3 (fun w' => w'.cell? ⟨bb, 2, none⟩ = some (.slice (some ⟨gv, 0, none⟩) B.length cap) ∧ w'.cell? ⟨bb, 3, none⟩ = some (.int .i64 (m : Int)))
        ((go_split_ands; refine ⟨?_, ?_⟩ <;> first | assumption | exact cell_other (cell_other (by assumption) (by dsimp only; omega)) (by dsimp only; omega) | (go_keep; done)))
        (fail)
      go_wp2
      have hgk := HGK.out
      go_roundg (gk - 1)
      case measure => omega
      case rel =>
        have := HS5.out.yes hne HLT.out HZ.out
        rw [← HM.out] at this
        exact ⟨k + 1, by go_num, by omega, by omega, this.below (Below.refl _ _).drew⟩
    · obtain ⟨p, hp⟩ : ∃ p, p = G.getD k .zero := ⟨_, rfl⟩
      have HP : Hid (p = G.getD k .zero) := hp
      rw [← hp] at e0 e1 hz
      clear hp
      obtain ⟨pk, pn⟩ := p
      dsimp only at e0 e1 hz
      go_wp2
      have hgk := HGK.out
      go_roundg (gk - 1)
      case measure => omega
      case rel => exact ⟨k + 1, by go_num, by omega, by omega, (HS.out.below ((Below.refl _ _).alloc (Nat.le_refl _) _)).no HLT.out (by rw [← HP.out]; exact hz)⟩
end form
/- Where the A and the B of an instruction go, and what must be moved for that (build.builder.take). -/
namespace form
open Go.RowKit
set_option maxRecDepth 100000
attribute [local go_sem ↓] Go.wp_at_zero Go.wp_at_succ
structure TbS (w1 : World) (pa pb : Bool) (a b : Int) (x y : Nat) (wq : World) : Prop where
  bel : Below w1.heap.size w1 wq
  lo : w1.heap.size ≤ x ∧ w1.heap.size ≤ y
  x0 : wq.cell? ⟨x, 0, none⟩ = some (.bool pa)
  x1 : wq.cell? ⟨x, 1, none⟩ = some (.bool pb)
  y0 : wq.cell? ⟨y, 0, none⟩ = some (.int .i64 a)
  y1 : wq.cell? ⟨y, 1, none⟩ = some (.int .i64 b)
def TbR (w1 : World) (pa pb : Bool) (a b : Int) (s9 s10 : Value) (wq : World) : Prop := ∃ x y, s9 = .pointer (some ⟨x, 0, none⟩) ∧ s10 = .pointer (some ⟨y, 0, none⟩) ∧ TbS w1 pa pb a b x y wq
theorem tb12 (w1 : World) (pa pb : Bool) (a b : Int) : TbR w1 pa pb a b (.pointer (some ⟨w1.heap.size, 0, none⟩)) (.pointer (some ⟨w1.heap.size + 1, 0, none⟩)) ((w1.alloc (.cells #[.bool pa, .bool pb] 225)).alloc (.cells #[.int .i64 a, .int .i64 b] 127)).drew :=
  ⟨_, _, rfl, rfl, ((((Below.refl _ _).alloc (Nat.le_refl _) _).alloc (by simp) _).drew), ⟨Nat.le_refl _, Nat.le_succ _⟩, by simp [go_sem], by simp [go_sem], by simp [go_sem], by simp [go_sem]⟩
theorem tb21 (w1 : World) (pa pb : Bool) (a b : Int) : TbR w1 pa pb a b (.pointer (some ⟨w1.heap.size + 1, 0, none⟩)) (.pointer (some ⟨w1.heap.size, 0, none⟩)) ((w1.alloc (.cells #[.int .i64 a, .int .i64 b] 127)).alloc (.cells #[.bool pa, .bool pb] 225)).drew :=
  ⟨_, _, rfl, rfl, ((((Below.refl _ _).alloc (Nat.le_refl _) _).alloc (by simp) _).drew), ⟨Nat.le_succ _, Nat.le_refl _⟩, by simp [go_sem], by simp [go_sem], by simp [go_sem], by simp [go_sem]⟩
structure TkS (w : World) (base x : Nat) (pa pb : Bool) (p q : LPlace) (l : List LMove) (v : Value) (wr : World) : Prop where
  bel : Below w.heap.size w wr
  sz : base ≤ wr.heap.size
  lt : w.heap.size + 1 < base ∧ w.heap.size + 1 < x ∧ x < base
  x0 : wr.cell? ⟨x, 0, none⟩ = some (.bool pa)
  x1 : wr.cell? ⟨x, 1, none⟩ = some (.bool pb)
  row : Row wr (w.heap.size + 1) 201 [.int .i64 p.kind, .int .i64 p.n, .int .i64 q.kind, .int .i64 q.n]
  mv : MvB base l v wr
section
variable {w : World} {base x : Nat} {pa pb : Bool} {p q : LPlace} {l : List LMove} {v : Value} {wr w1 : World}
theorem TkS.below (h : TkS w base x pa pb p q l v wr) (hb : Below wr.heap.size wr w1) : TkS w base x pa pb p q l v w1 :=
  ⟨step_below hb h.bel, Nat.le_trans h.sz hb.size, h.lt, step_cell hb h.x0, step_cell hb h.x1, h.row.below hb, h.mv.below hb⟩
theorem MvB.other {base : Nat} {l : List LMove} {v : Value} {w : World} (h : MvB base l v w) {a : Addr} (ha : a.block < base) (u : Value) : MvB base l v (w.setCell a u) := by
  refine World.ownsRow.kept h (row := some a.block) ⟨rfl, rfl, rfl, by simp, fun k hk hne => heap_setCell_other w a k u (fun e => hne (by rw [e]))⟩ ?_
  cases hv : v.ownBlock with
  | none => exact Or.inl rfl
  | some k => exact Or.inr (fun e => by have := (World.ownsRow.lt h k hv).1; simp at e; omega)
theorem MvB.lower {base base' : Nat} {l : List LMove} {v : Value} {w : World} (h : MvB base l v w) (hb : base' ≤ base) : MvB base' l v w := by
  obtain ⟨h1, h2⟩ := h
  refine ⟨h1, ?_⟩
  rcases h2 with h2 | ⟨g, cap, cur, e, hg, r⟩
  · exact Or.inl h2
  · exact Or.inr ⟨g, cap, cur, e, Nat.le_trans hb hg, r⟩
theorem TkS.putA (h : TkS w base x pa pb p q l v wr) (r : LPlace) : TkS w base x pa pb r q l v ((wr.setCell ⟨w.heap.size + 1, 0, none⟩ (.int .i64 r.kind)).setCell ⟨w.heap.size + 1, 1, none⟩ (.int .i64 r.n)) := by
  obtain ⟨h1, h2, h3⟩ := h.lt
  exact ⟨(h.bel.setCell (by dsimp only; omega) _).setCell (by dsimp only; omega) _, by simpa [World.setCell] using h.sz, h.lt, cell_other (cell_other h.x0 (by dsimp only; omega)) (by dsimp only; omega), cell_other (cell_other h.x1 (by dsimp only; omega)) (by dsimp only; omega), (h.row.set 0 _).set 1 _, (h.mv.other (by dsimp only; omega) _).other (by dsimp only; omega) _⟩
theorem TkS.putB (h : TkS w base x pa pb p q l v wr) (r : LPlace) : TkS w base x pa pb p r l v ((wr.setCell ⟨w.heap.size + 1, 2, none⟩ (.int .i64 r.kind)).setCell ⟨w.heap.size + 1, 3, none⟩ (.int .i64 r.n)) := by
  obtain ⟨h1, h2, h3⟩ := h.lt
  exact ⟨(h.bel.setCell (by dsimp only; omega) _).setCell (by dsimp only; omega) _, by simpa [World.setCell] using h.sz, h.lt, cell_other (cell_other h.x0 (by dsimp only; omega)) (by dsimp only; omega), cell_other (cell_other h.x1 (by dsimp only; omega)) (by dsimp only; omega), (h.row.set 2 _).set 3 _, (h.mv.other (by dsimp only; omega) _).other (by dsimp only; omega) _⟩
theorem TkS.bring (h : TkS w base x pa pb p q l v wr) {l2 : List LMove} {v2 : Value} (hm : MvB base l2 v2 w1) (hb : Below base wr w1) : TkS w base x pa pb p q l2 v2 w1 := by
  obtain ⟨h1, h2, h3⟩ := h.lt
  refine ⟨h.bel.trans (hb.mono (by omega)), Nat.le_trans h.sz hb.size, h.lt, ?_, ?_, ?_, hm⟩
  · rw [World.cell?_of_block (w := wr) (hb.block x h3)]; exact h.x0
  · rw [World.cell?_of_block (w := wr) (hb.block x h3)]; exact h.x1
  · have := h.row
    unfold Row at this ⊢
    rw [hb.block _ (by omega)]
    exact this
end
def TakeP (B : List Bool) (H : List LPlace) (f0 f1 : Int) (i : LIns) (w : World) (e : Ending) (w' : World) : Prop :=
  ∃ v, e = .returned (.tuple #[.agg #[.int .i64 (rowPA B H f0 i).kind, .int .i64 (rowPA B H f0 i).n, .int .i64 (rowBB B H f1 i).kind, .int .i64 (rowBB B H f1 i).n], v]) ∧ MvB w.heap.size (rowMB B H f1 i (rowMA B H f0 i)) v w' ∧ Below w.heap.size w w'
theorem bringL_len (l : List LMove) (d c : LPlace) : (bringL l d c).length ≤ l.length + 1 := by
  rcases bring_cases l d c with ⟨-, e⟩ | e <;> rw [e] <;> simp
theorem rowMA_len (B : List Bool) (H : List LPlace) (f0 : Int) (i : LIns) : (rowMA B H f0 i).length ≤ 1 := by
  unfold rowMA
  split
  · exact bringL_len [] _ _
  · simp
set_option maxHeartbeats 4000000 in
theorem takeO {bb b0 o0 c0 b1 o1 c1 gv cap : Nat} {B : List Bool} {C : List LIns} {H : List LPlace} {slots f0 f1 : Int} {w : World} (h : BdR bb b0 o0 c0 b1 o1 c1 gv cap B C H slots f0 f1 w) (h12 : B.length ≤ 12) (hf0 : 0 ≤ f0 ∧ f0 ≤ 100) (hf1 : 0 ≤ f1 ∧ f1 ≤ 100) (i : LIns) (hi : InsOk B.length C.length i) (hkn : knownB i.op = true) :
    Calls Tryz.prog 135 #[.pointer (some ⟨bb, 0, none⟩), i.val] w fun e w' => TakeP B H f0 f1 i w e w' := by
  obtain ⟨a, ha⟩ : ∃ a : Nat, i.a = a := ⟨i.a.toNat, by have := hi.a0; omega⟩
  obtain ⟨b, hb⟩ : ∃ b : Nat, i.b = b := ⟨i.b.toNat, by have := hi.b0; omega⟩
  have hal : a < B.length := by have := hi.a1; omega
  have hbl : b < B.length := by have := hi.b1; omega
  have HHas : Hid (∀ wx : World, Calls Tryz.prog 112 #[.int .i64 i.op] wx fun e w' => e = .returned (.tuple #[.bool (givesB i.op), .bool (decide (0 < manyI i.op)), .bool (decide (1 < manyI i.op))]) ∧ Below wx.heap.size wx w') := fun wx => by
    have := has i.op wx
    rwa [isT_gives hkn, (isT_many hkn).1, (isT_many hkn).2] at this
  have HBD : Hid (BdR bb b0 o0 c0 b1 o1 c1 gv cap B C H slots f0 f1 w) := h
  have HRA : Hid (rowPA B H f0 i = if 0 < manyI i.op then regL B H a f0 else .zero) := by show _ = _; unfold rowPA; rw [ha]; rfl
  have HRB : Hid (rowBB B H f1 i = if 1 < manyI i.op then regL B H b f1 else .zero) := by show _ = _; unfold rowBB; rw [hb]; rfl
  have HMA : Hid (rowMA B H f0 i = if 0 < manyI i.op then bringL [] (regL B H a f0) (H.getD a .zero) else []) := by show _ = _; unfold rowMA; rw [ha]; rfl
  have HMB : Hid (rowMB B H f1 i (rowMA B H f0 i) = if 1 < manyI i.op then bringL (rowMA B H f0 i) (regL B H b f1) (H.getD b .zero) else rowMA B H f0 i) := by show _ = _; unfold rowMB; rw [hb]; rfl
  have HAL : Hid (a < B.length) := hal
  have HBL : Hid (b < B.length) := hbl
  have HL1 : Hid ((rowMA B H f0 i).length ≤ 1) := rowMA_len B H f0 i
  have HPW : Hid (Below w.heap.size w w) := Below.refl _ _
  have hlt0 := World.block_lt_of_cell? _ _ h.p0
  obtain ⟨pa, hpa⟩ : ∃ pa, pa = decide (0 < manyI i.op) := ⟨_, rfl⟩
  obtain ⟨pb, hpb⟩ : ∃ pb, pb = decide (1 < manyI i.op) := ⟨_, rfl⟩
  have HPA : Hid (pa = decide (0 < manyI i.op)) := hpa
  have HPB : Hid (pb = decide (1 < manyI i.op)) := hpb
  rw [← hpa, ← hpb] at HHas
  obtain ⟨gg0, hgg0⟩ : ∃ gg0, gg0 = givesB i.op := ⟨_, rfl⟩
  rw [← hgg0] at HHas
  clear h hi hkn hpa hpb hgg0
  unfold LIns.val
  obtain ⟨op, hop⟩ : ∃ op, op = i.op := ⟨_, rfl⟩
  rw [← hop] at HHas ⊢
  clear hop
  obtain ⟨de, hde⟩ : ∃ de, de = i.dest := ⟨_, rfl⟩
  rw [ha, hb, ← hde]
  clear hde ha hb
  obtain ⟨ic, hic⟩ : ∃ ic, ic = i.c := ⟨_, rfl⟩
  obtain ⟨im, him⟩ : ∃ im, im = i.n := ⟨_, rfl⟩
  rw [← hic, ← him]
  clear hic him
  go_enter Tryz.func135, Tryz.ntmps135
  go_upto_region 2 with (go_at_call 112; refine (HHas.out _).mono ?_; rintro e w1 ⟨rfl, hb1⟩; have i2 : w1.cell? ⟨w.heap.size, 2, none⟩ = some (.int .i64 (a : Int)) := step_cell hb1 (by simp [go_sem]); have i3 : w1.cell? ⟨w.heap.size, 3, none⟩ = some (.int .i64 (b : Int)) := step_cell hb1 (by simp [go_sem]); have HB1 : Hid (Below w.heap.size w w1) := step_below hb1 (((Below.refl _ _).alloc (Nat.le_refl _) _).alloc (by simp) _); have HR1 : Hid (Row w1 (w.heap.size + 1) 201 [.int .i64 0, .int .i64 0, .int .i64 0, .int .i64 0]) := Row.below (by have := Row.new (w.alloc (.cells #[.int .i64 op, .int .i64 de, .int .i64 a, .int .i64 b, .int .i64 ic, .int .u32 im] 74)) 201 [.int .i64 0, .int .i64 0, .int .i64 0, .int .i64 0]; simpa using this) hb1; clear hb1)
  have hz1 := HR1.out.lt
  have o1 : ∀ x : Obj, Below w1.heap.size w1 (w1.alloc x).drew := fun x => ((Below.refl _ _).alloc (Nat.le_refl _) _).drew
  have o2 : ∀ x y : Obj, Below w1.heap.size w1 ((w1.alloc x).alloc y).drew := fun x y => (((Below.refl _ _).alloc (Nat.le_refl _) _).alloc (by simp) _).drew
  go_cut [9, 10] (fun s9 s10 wq => TbR w1 pa pb a b s9 s10 wq)
  case first =>
    refine wp_region_held_drew (S := (fun w' => Below w1.heap.size w1 w')) (by rfl) ?_ (fun hHeld => ?_)
    · (exact (Below.refl _ _).drew)
    refine wpAnyH_take (i := 0) (v := ?_) rfl (by kernel_rfl) (by kernel_rfl) (by kernel_rfl) (fun _ _ _ h => h) (Or.inl ⟨by rfl, ?_⟩) (by assumption) ?_
    case refine_2 => (intro w hSw; (try dsimp only at hSw); go_simp; try with_reducible rfl)
    show wpAnyH _ _ _ _ _ _ _ (Act.put _ (some 20) _) _
    simp only [pz]
    refine wpAnyH_take (i := 1) (v := ?_) rfl (by kernel_rfl) (by kernel_rfl) (by kernel_rfl) (fun _ _ _ h => h) (Or.inl ⟨by rfl, ?_⟩) (by assumption) ?_
    case refine_2 => (intro w hSw; (try dsimp only at hSw); go_simp; try with_reducible rfl)
    show wpAnyH _ _ _ _ _ _ _ (Act.put _ (some 21) _) _
    simp only [pz]
    refine wpAnyH_take (i := 2) (v := ?_) rfl (by kernel_rfl) (by kernel_rfl) (by kernel_rfl) (fun _ _ _ h => h) (Or.inl ⟨by rfl, ?_⟩) (by assumption) ?_
    case refine_2 => (intro w hSw; (try dsimp only at hSw); go_simp; try with_reducible rfl)
    show wpAnyH _ _ _ _ _ _ _ (Act.put _ (some 22) _) _
    simp only [pz]
    refine wpAnyH_take (i := 3) (v := ?_) rfl (by kernel_rfl) (by kernel_rfl) (by kernel_rfl) (fun _ _ _ h => h) (Or.inl ⟨by rfl, ?_⟩) (by assumption) ?_
    case refine_2 => (intro w hSw; (try dsimp only at hSw); go_simp; try with_reducible rfl)
    show wpAnyH _ _ _ _ _ _ _ (Act.put _ (some 23) _) _
    simp only [pz]
    refine wpAnyH_take (i := 4) (v := ?_) rfl (by kernel_rfl) (by kernel_rfl) (by kernel_rfl) (fun _ _ _ h => h) (Or.inl ⟨by rfl, ?_⟩) (by assumption) ?_
    case refine_2 => (intro w5 hSw; (try dsimp only at hSw); have si2 := step_cell hSw i2; go_simp; try with_reducible rfl)
    show wpAnyH _ _ _ _ _ _ _ (Act.put _ (some 24) _) _
    simp only [pz]
    refine wpAnyH_take (i := 5) (v := ?_) rfl (by kernel_rfl) (by kernel_rfl) (by kernel_rfl) (fun _ _ _ h => h) (Or.inl ⟨by rfl, ?_⟩) (by assumption) ?_
    case refine_2 => (intro w hSw; (try dsimp only at hSw); go_simp; try with_reducible rfl)
    show wpAnyH _ _ _ _ _ _ _ (Act.put _ (some 25) _) _
    simp only [pz]
    refine wpAnyH_take (i := 6) (v := ?_) rfl (by kernel_rfl) (by kernel_rfl) (by kernel_rfl) (fun _ _ _ h => h) (Or.inl ⟨by rfl, ?_⟩) (by assumption) ?_
    case refine_2 => (intro w5 hSw; (try dsimp only at hSw); have si3 := step_cell hSw i3; go_simp; try with_reducible rfl)
    show wpAnyH _ _ _ _ _ _ _ (Act.put _ (some 26) _) _
    simp only [pz]
    refine wpAnyH_take (i := 7) (v := ?_) rfl (by kernel_rfl) (by kernel_rfl) (by kernel_rfl) (fun _ _ _ h => h) (Or.inl ⟨by rfl, ?_⟩) (by assumption) ?_
    case refine_2 => (intro w hSw; (try dsimp only at hSw); go_simp; try with_reducible rfl)
    show wpAnyH _ _ _ _ _ _ _ (Act.put _ (some 27) _) _
    simp only [pz]
    refine wpAnyH_ready (rs := [8, 9]) (by kernel_rfl) (by simp) ?_
    refine (AllReadyH.cons rfl (fun K hK => ?_) (AllReadyH.cons rfl (fun K hK => ?_) AllReadyH.nil))
    · skip
      go_simp
      refine hK.out _ _ ?_ (fun hHeld => ?_)
      · (exact o1 _)
      clear hK K
      try simp only [pz]
      refine wpAnyH_ready (rs := [9]) (by kernel_rfl) (by simp) ?_
      refine (AllReadyH.cons rfl (fun K hK => ?_) AllReadyH.nil)
      go_simp
      refine hK.out _ _ ?_ (fun hHeld => ?_)
      · (exact o2 _ _)
      clear hK K
      try simp only [pz]
      refine wpAnyH_ready (rs := [10]) (by kernel_rfl) (by simp) ?_
      refine (AllReadyH.cons rfl (fun K hK => ?_) AllReadyH.nil)
      go_simp
      refine hK.out _ _ ?_ (fun hHeld => ?_)
      · (exact o2 _ _)
      clear hK K
      try simp only [pz]
      refine wpAnyH_ready (rs := [11]) (by kernel_rfl) (by simp) ?_
      refine (AllReadyH.cons rfl (fun K hK => ?_) AllReadyH.nil)
      go_simp
      refine hK.out _ _ ?_ (fun hHeld => ?_)
      · (exact o2 _ _)
      clear hK K
      try simp only [pz]
      refine wpAnyH_done (by kernel_rfl) ?_ _
      clear hHeld
      go_wp2_with fail
      go_meet
      case rel => exact tb12 w1 pa pb a b
    · skip
      go_simp
      refine hK.out _ _ ?_ (fun hHeld => ?_)
      · (exact o1 _)
      clear hK K
      try simp only [pz]
      refine wpAnyH_ready (rs := [8]) (by kernel_rfl) (by simp) ?_
      refine (AllReadyH.cons rfl (fun K hK => ?_) AllReadyH.nil)
      go_simp
      refine hK.out _ _ ?_ (fun hHeld => ?_)
      · (exact o2 _ _)
      clear hK K
      try simp only [pz]
      refine wpAnyH_ready (rs := [10]) (by kernel_rfl) (by simp) ?_
      refine (AllReadyH.cons rfl (fun K hK => ?_) AllReadyH.nil)
      go_simp
      refine hK.out _ _ ?_ (fun hHeld => ?_)
      · (exact o2 _ _)
      clear hK K
      try simp only [pz]
      refine wpAnyH_ready (rs := [11]) (by kernel_rfl) (by simp) ?_
      refine (AllReadyH.cons rfl (fun K hK => ?_) AllReadyH.nil)
      go_simp
      refine hK.out _ _ ?_ (fun hHeld => ?_)
      · (exact o2 _ _)
      clear hK K
      try simp only [pz]
      refine wpAnyH_done (by kernel_rfl) ?_ _
      clear hHeld
      go_wp2_with fail
      go_meet
      case rel => exact tb21 w1 pa pb a b
  case rest =>
    obtain ⟨x, y, hs9, hs10, htb⟩ := hcut
    subst hs9
    subst hs10
    obtain ⟨wd, hwd⟩ : ∃ wd, wd = wc := ⟨_, rfl⟩
    rw [← hwd] at htb ⊢
    clear hwd o1 o2 i2 i3
    have HTK : Hid (TkS w wd.heap.size x pa pb .zero .zero [] (.slice none 0 0) wd) := ⟨step_below htb.bel HB1.out, Nat.le_refl _, ⟨Nat.lt_of_lt_of_le hz1 htb.bel.size, Nat.lt_of_lt_of_le hz1 htb.lo.1, World.block_lt_of_cell? _ _ htb.x0⟩, htb.x0, htb.x1, HR1.out.below htb.bel, World.ownsRow_nil _ _ _ _⟩
    have y0 := htb.y0
    have y1 := htb.y1
    obtain ⟨base, hbase⟩ : ∃ base, base = wd.heap.size := ⟨_, rfl⟩
    rw [← hbase] at HTK
    clear htb hbase HR1 HB1 hz1
    go_wp2
    clear y0 y1
    go_loopg [5, 11, 12, 29] 3 (fun gg v5 v11 v12 v29 wr => ∃ k : Nat, v29 = .int .i64 k ∧ k ≤ 2 ∧ gg = 3 - k ∧ TkS w base x pa pb (if k = 0 then .zero else rowPA B H f0 i) (if k = 2 then rowBB B H f1 i else .zero) (if k = 0 then [] else if k = 1 then rowMA B H f0 i else rowMB B H f1 i (rowMA B H f0 i)) v5 wr)
    case atStart => exact ⟨0, rfl, by omega, by omega, HTK.out⟩
    case round =>
      clear HTK
      obtain ⟨k, rfl, hk, hgk, htk⟩ := hrel
      have HGK : Hid (gk = 3 - k) := hgk
      clear hgk
      rcases (show k = 0 ∨ k = 1 ∨ k = 2 by omega) with rfl | rfl | rfl
      · have ix0 : ∀ w, (Instr.index 127 (.agg #[.int .i64 (a : Int), .int .i64 (b : Int)]) (.int .i64 0)).run Tryz.prog w = .ok (.int .i64 (a : Int)) w := fun _ => by kernel_rfl
        have htk2 : TkS w base x pa pb LPlace.zero LPlace.zero ([] : List LMove) u5 wr := by simpa using htk
        have HT : Hid (TkS w base x pa pb LPlace.zero LPlace.zero ([] : List LMove) u5 wr) := htk2
        clear htk2
        clear htk
        have x0 := HT.out.x0
        have hxl := World.block_lt_of_cell? _ _ x0
        have g0 : wr.cell? ⟨w.heap.size + 1, 0, none⟩ = some (.int .i64 LPlace.zero.kind) := HT.out.row.cell 0
        have g1 : wr.cell? ⟨w.heap.size + 1, 1, none⟩ = some (.int .i64 LPlace.zero.n) := HT.out.row.cell 1
        have g2 : wr.cell? ⟨w.heap.size + 1, 2, none⟩ = some (.int .i64 LPlace.zero.kind) := HT.out.row.cell 2
        have g3 : wr.cell? ⟨w.heap.size + 1, 3, none⟩ = some (.int .i64 LPlace.zero.n) := HT.out.row.cell 3
        have hlt1 := World.block_lt_of_cell? _ _ g0
        rcases Bool.eq_false_or_eq_true pa with hc | hc
        · have hm : 0 < manyI i.op := by have := HPA.out; rw [hc] at this; exact of_decide_eq_true this.symm
          have HRX : Hid (rowPA B H f0 i = regL B H a f0) := by show _ = _; rw [HRA.out, if_pos hm]
          have HMX : Hid ((rowMA B H f0 i) = bringL ([] : List LMove) (regL B H a f0) (H.getD a .zero)) := by show _ = _; rw [HMA.out, if_pos hm]
          rw [hc] at x0
          clear hc hm
          have hbd := HBD.out.later HT.out.bel
          have p2 := hbd.p2
          have p4 := hbd.p4
          obtain ⟨e0, e1⟩ := hbd.row a (by rw [hbd.len]; exact HAL.out)
          have hbbl := World.block_lt_of_cell? _ _ p2
          have hgvl := World.block_lt_of_cell? _ _ e0
          have HRG : Hid (Calls Tryz.prog 136 #[.pointer (some ⟨bb, 0, none⟩), .int .i64 (a : Nat), .int .i64 f0] wr fun e w' => RegP B H a f0 wr e w') := registerO hbd a HAL.out f0 hf0.1 hf0.2
          have yt : (a : Int) < (B.length : Int) := by have := HAL.out; omega
          have yt0 : (0 : Int) ≤ (a : Int) := by omega
          have hgv0 : gv < w.heap.size := World.block_lt_of_cell? _ _ (HBD.out.row a (by rw [HBD.out.len]; exact HAL.out)).1
          have HGV0 : Hid (gv < w.heap.size) := hgv0
          clear hgv0
          have hnb : ¬ bb = w.heap.size + 1 ∧ ¬ gv = w.heap.size + 1 := ⟨by have := hlt0; omega, by have h9 : gv < w.heap.size := World.block_lt_of_cell? _ _ (HBD.out.row a (by rw [HBD.out.len]; exact HAL.out)).1; omega⟩
          obtain ⟨p, hp⟩ : ∃ p, p = regL B H a f0 := ⟨_, rfl⟩
          unfold RegP at HRG
          rw [← hp] at HRG HRX HMX
          obtain ⟨q, hq⟩ : ∃ q, q = H.getD a .zero := ⟨_, rfl⟩
          rw [← hq] at e0 e1 HMX
          clear hp hq hbd
          have zf := fun j => HT.out.row.frozen j
          go_upto_region 8 with (go_at_call 136; refine HRG.out.mono ?_; rintro e w2 ⟨rfl, hb2⟩; unfold LPlace.val; have HB2 : Hid (Below wr.heap.size wr w2) := hb2; have g0 := step_cell hb2 g0; have g1 := step_cell hb2 g1; have g2 := step_cell hb2 g2; have g3 := step_cell hb2 g3; have zf : ∀ j, w2.frozen? ⟨w.heap.size + 1, j, none⟩ = false := (fun j => (HT.out.row.below hb2).frozen j); clear hb2)
          have HT3 := (HT.out.below HB2.out).putA p
          obtain ⟨w3, hw3⟩ : ∃ w3, w3 = (w2.setCell ⟨w.heap.size + 1, 0, none⟩ (.int .i64 p.kind)).setCell ⟨w.heap.size + 1, 1, none⟩ (.int .i64 p.n) := ⟨_, rfl⟩
          have r2 : w3.cell? ⟨bb, 2, none⟩ = some (.slice (some ⟨gv, 0, none⟩) B.length cap) := by rw [hw3]; exact cell_other (cell_other (step_cell HB2.out p2) (by dsimp only; omega)) (by dsimp only; omega)
          have r3 : w3.cell? ⟨gv, a * 2, none⟩ = some (.int .i64 q.kind) := by rw [hw3]; exact cell_other (cell_other (step_cell HB2.out e0) (by dsimp only; omega)) (by dsimp only; omega)
          have r4 : w3.cell? ⟨gv, a * 2 + 1, none⟩ = some (.int .i64 q.n) := by rw [hw3]; exact cell_other (cell_other (step_cell HB2.out e1) (by dsimp only; omega)) (by dsimp only; omega)
          rw [← hw3] at HT3 ⊢
          clear hw3 HB2 HT HRG g0 g1 g2 g3 x0 p2 p4 e0 e1 zf hxl
          have HT4 : Hid (TkS w base x pa pb p LPlace.zero ([] : List LMove) u5 w3) := HT3
          have r0 : w3.cell? ⟨w.heap.size + 1, 0, none⟩ = some (.int .i64 p.kind) := HT3.row.cell 0
          have r1 : w3.cell? ⟨w.heap.size + 1, 1, none⟩ = some (.int .i64 p.n) := HT3.row.cell 1
          have hl3 := World.block_lt_of_cell? _ _ r0
          have hbb3 := World.block_lt_of_cell? _ _ r2
          have hgv3 := World.block_lt_of_cell? _ _ r3
          clear HT3
          have HBR : Hid (∀ wx : World, Below w3.heap.size w3 wx → Calls Tryz.prog 137 #[u5, .agg #[.int .i64 p.kind, .int .i64 p.n], .agg #[.int .i64 q.kind, .int .i64 q.n]] wx fun e w' => BringP base ([] : List LMove) p q wx e w') := fun wx hb => bringO base ([] : List LMove) p q u5 wx (HT4.out.mv.below hb) (Nat.le_trans HT4.out.sz hb.size) (by simp)
          go_region_held3 (fun w' => w'.cell? ⟨w.heap.size + 1, 0, none⟩ = some (.int .i64 p.kind) ∧ w'.cell? ⟨w.heap.size + 1, 1, none⟩ = some (.int .i64 p.n) ∧ w'.cell? ⟨bb, 2, none⟩ = some (.slice (some ⟨gv, 0, none⟩) B.length cap) ∧ w'.cell? ⟨gv, a * 2, none⟩ = some (.int .i64 q.kind) ∧ w'.cell? ⟨gv, a * 2 + 1, none⟩ = some (.int .i64 q.n))
            ((go_split_ands; refine ⟨?_, ?_, ?_, ?_, ?_⟩ <;> first | assumption | (go_keep; done)))
            (first | (go_at_call 137; refine (HBR.out _ (Below.refl _ _).drew).mono ?_; rintro e w6 ⟨v6, rfl, hm6, hb6⟩; have HT6 : Hid (TkS w base x pa pb p LPlace.zero (bringL ([] : List LMove) p q) v6 w6) := (HT4.out.below (Below.refl _ _).drew).bring hm6 hb6; have rr : ∀ (bk j : Nat) (u : Value), bk < base → w3.cell? ⟨bk, j, none⟩ = some u → w6.cell? ⟨bk, j, none⟩ = some u := (fun bk j u hbk hc => (World.cell?_of_block (w := w3.drew) (hb6.block bk hbk)).trans hc); have HLB : Hid (w.heap.size + 1 < base) := HT4.out.lt.1; have r0 := rr _ _ _ HLB.out r0; have r1 := rr _ _ _ HLB.out r1; have r2 := rr _ _ _ (by have := HLB.out; omega) r2; have r3 := rr _ _ _ (by have := HLB.out; have := HGV0.out; omega) r3; have r4 := rr _ _ _ (by have := HLB.out; have := HGV0.out; omega) r4; clear rr hm6 hb6))
          go_wp2
          have hgk := HGK.out
          go_roundg (gk - 1)
          case measure => omega
          case rel =>
            refine ⟨1, by go_num, by omega, by omega, ?_⟩
            have := HT6.out
            rw [← HMX.out, ← HRX.out] at this
            simpa using this
        · have hm : ¬ 0 < manyI i.op := by have := HPA.out; rw [hc] at this; exact of_decide_eq_false this.symm
          have HRX : Hid (rowPA B H f0 i = LPlace.zero) := by show _ = _; rw [HRA.out, if_neg hm]
          have HMX : Hid ((rowMA B H f0 i) = ([] : List LMove)) := by show _ = _; rw [HMA.out, if_neg hm]
          rw [hc] at x0
          clear hc hm
          go_wp2
          have hgk := HGK.out
          go_roundg (gk - 1)
          case measure => omega
          case rel =>
            refine ⟨1, by go_num, by omega, by omega, ?_⟩
            have := HT.out
            rw [← HMX.out] at this
            simpa [HRX.out] using this
      · have ix1 : ∀ w, (Instr.index 127 (.agg #[.int .i64 (a : Int), .int .i64 (b : Int)]) (.int .i64 1)).run Tryz.prog w = .ok (.int .i64 (b : Int)) w := fun _ => by kernel_rfl
        have htk2 : TkS w base x pa pb (rowPA B H f0 i) LPlace.zero (rowMA B H f0 i) u5 wr := by simpa using htk
        have HT : Hid (TkS w base x pa pb (rowPA B H f0 i) LPlace.zero (rowMA B H f0 i) u5 wr) := htk2
        clear htk2
        clear htk
        have x1 := HT.out.x1
        have hxl := World.block_lt_of_cell? _ _ x1
        have g0 : wr.cell? ⟨w.heap.size + 1, 0, none⟩ = some (.int .i64 (rowPA B H f0 i).kind) := HT.out.row.cell 0
        have g1 : wr.cell? ⟨w.heap.size + 1, 1, none⟩ = some (.int .i64 (rowPA B H f0 i).n) := HT.out.row.cell 1
        have g2 : wr.cell? ⟨w.heap.size + 1, 2, none⟩ = some (.int .i64 LPlace.zero.kind) := HT.out.row.cell 2
        have g3 : wr.cell? ⟨w.heap.size + 1, 3, none⟩ = some (.int .i64 LPlace.zero.n) := HT.out.row.cell 3
        have hlt1 := World.block_lt_of_cell? _ _ g0
        rcases Bool.eq_false_or_eq_true pb with hc | hc
        · have hm : 1 < manyI i.op := by have := HPB.out; rw [hc] at this; exact of_decide_eq_true this.symm
          have HRX : Hid (rowBB B H f1 i = regL B H b f1) := by show _ = _; rw [HRB.out, if_pos hm]
          have HMX : Hid ((rowMB B H f1 i (rowMA B H f0 i)) = bringL (rowMA B H f0 i) (regL B H b f1) (H.getD b .zero)) := by show _ = _; rw [HMB.out, if_pos hm]
          rw [hc] at x1
          clear hc hm
          have hbd := HBD.out.later HT.out.bel
          have p2 := hbd.p2
          have p5 := hbd.p5
          obtain ⟨e0, e1⟩ := hbd.row b (by rw [hbd.len]; exact HBL.out)
          have hbbl := World.block_lt_of_cell? _ _ p2
          have hgvl := World.block_lt_of_cell? _ _ e0
          have HRG : Hid (Calls Tryz.prog 136 #[.pointer (some ⟨bb, 0, none⟩), .int .i64 (b : Nat), .int .i64 f1] wr fun e w' => RegP B H b f1 wr e w') := registerO hbd b HBL.out f1 hf1.1 hf1.2
          have yt : (b : Int) < (B.length : Int) := by have := HBL.out; omega
          have yt0 : (0 : Int) ≤ (b : Int) := by omega
          have hgv0 : gv < w.heap.size := World.block_lt_of_cell? _ _ (HBD.out.row b (by rw [HBD.out.len]; exact HBL.out)).1
          have HGV0 : Hid (gv < w.heap.size) := hgv0
          clear hgv0
          have hnb : ¬ bb = w.heap.size + 1 ∧ ¬ gv = w.heap.size + 1 := ⟨by have := hlt0; omega, by have h9 : gv < w.heap.size := World.block_lt_of_cell? _ _ (HBD.out.row b (by rw [HBD.out.len]; exact HBL.out)).1; omega⟩
          obtain ⟨p, hp⟩ : ∃ p, p = regL B H b f1 := ⟨_, rfl⟩
          unfold RegP at HRG
          rw [← hp] at HRG HRX HMX
          obtain ⟨q, hq⟩ : ∃ q, q = H.getD b .zero := ⟨_, rfl⟩
          rw [← hq] at e0 e1 HMX
          clear hp hq hbd
          have zf := fun j => HT.out.row.frozen j
          go_upto_region 8 with (go_at_call 136; refine HRG.out.mono ?_; rintro e w2 ⟨rfl, hb2⟩; unfold LPlace.val; have HB2 : Hid (Below wr.heap.size wr w2) := hb2; have g0 := step_cell hb2 g0; have g1 := step_cell hb2 g1; have g2 := step_cell hb2 g2; have g3 := step_cell hb2 g3; have zf : ∀ j, w2.frozen? ⟨w.heap.size + 1, j, none⟩ = false := (fun j => (HT.out.row.below hb2).frozen j); clear hb2)
          have HT3 := (HT.out.below HB2.out).putB p
          obtain ⟨w3, hw3⟩ : ∃ w3, w3 = (w2.setCell ⟨w.heap.size + 1, 2, none⟩ (.int .i64 p.kind)).setCell ⟨w.heap.size + 1, 3, none⟩ (.int .i64 p.n) := ⟨_, rfl⟩
          have r2 : w3.cell? ⟨bb, 2, none⟩ = some (.slice (some ⟨gv, 0, none⟩) B.length cap) := by rw [hw3]; exact cell_other (cell_other (step_cell HB2.out p2) (by dsimp only; omega)) (by dsimp only; omega)
          have r3 : w3.cell? ⟨gv, b * 2, none⟩ = some (.int .i64 q.kind) := by rw [hw3]; exact cell_other (cell_other (step_cell HB2.out e0) (by dsimp only; omega)) (by dsimp only; omega)
          have r4 : w3.cell? ⟨gv, b * 2 + 1, none⟩ = some (.int .i64 q.n) := by rw [hw3]; exact cell_other (cell_other (step_cell HB2.out e1) (by dsimp only; omega)) (by dsimp only; omega)
          rw [← hw3] at HT3 ⊢
          clear hw3 HB2 HT HRG g0 g1 g2 g3 x1 p2 p5 e0 e1 zf hxl
          have HT4 : Hid (TkS w base x pa pb (rowPA B H f0 i) p (rowMA B H f0 i) u5 w3) := HT3
          have r0 : w3.cell? ⟨w.heap.size + 1, 2, none⟩ = some (.int .i64 p.kind) := HT3.row.cell 2
          have r1 : w3.cell? ⟨w.heap.size + 1, 3, none⟩ = some (.int .i64 p.n) := HT3.row.cell 3
          have hl3 := World.block_lt_of_cell? _ _ r0
          have hbb3 := World.block_lt_of_cell? _ _ r2
          have hgv3 := World.block_lt_of_cell? _ _ r3
          clear HT3
          have HBR : Hid (∀ wx : World, Below w3.heap.size w3 wx → Calls Tryz.prog 137 #[u5, .agg #[.int .i64 p.kind, .int .i64 p.n], .agg #[.int .i64 q.kind, .int .i64 q.n]] wx fun e w' => BringP base (rowMA B H f0 i) p q wx e w') := fun wx hb => bringO base (rowMA B H f0 i) p q u5 wx (HT4.out.mv.below hb) (Nat.le_trans HT4.out.sz hb.size) (by have := HL1.out; omega)
          go_region_held3 (fun w' => w'.cell? ⟨w.heap.size + 1, 2, none⟩ = some (.int .i64 p.kind) ∧ w'.cell? ⟨w.heap.size + 1, 3, none⟩ = some (.int .i64 p.n) ∧ w'.cell? ⟨bb, 2, none⟩ = some (.slice (some ⟨gv, 0, none⟩) B.length cap) ∧ w'.cell? ⟨gv, b * 2, none⟩ = some (.int .i64 q.kind) ∧ w'.cell? ⟨gv, b * 2 + 1, none⟩ = some (.int .i64 q.n))
            ((go_split_ands; refine ⟨?_, ?_, ?_, ?_, ?_⟩ <;> first | assumption | (go_keep; done)))
            (first | (go_at_call 137; refine (HBR.out _ (Below.refl _ _).drew).mono ?_; rintro e w6 ⟨v6, rfl, hm6, hb6⟩; have HT6 : Hid (TkS w base x pa pb (rowPA B H f0 i) p (bringL (rowMA B H f0 i) p q) v6 w6) := (HT4.out.below (Below.refl _ _).drew).bring hm6 hb6; have rr : ∀ (bk j : Nat) (u : Value), bk < base → w3.cell? ⟨bk, j, none⟩ = some u → w6.cell? ⟨bk, j, none⟩ = some u := (fun bk j u hbk hc => (World.cell?_of_block (w := w3.drew) (hb6.block bk hbk)).trans hc); have HLB : Hid (w.heap.size + 1 < base) := HT4.out.lt.1; have r0 := rr _ _ _ HLB.out r0; have r1 := rr _ _ _ HLB.out r1; have r2 := rr _ _ _ (by have := HLB.out; omega) r2; have r3 := rr _ _ _ (by have := HLB.out; have := HGV0.out; omega) r3; have r4 := rr _ _ _ (by have := HLB.out; have := HGV0.out; omega) r4; clear rr hm6 hb6))
          go_wp2
          have hgk := HGK.out
          go_roundg (gk - 1)
          case measure => omega
          case rel =>
            refine ⟨2, by go_num, by omega, by omega, ?_⟩
            have := HT6.out
            rw [← HMX.out, ← HRX.out] at this
            simpa using this
        · have hm : ¬ 1 < manyI i.op := by have := HPB.out; rw [hc] at this; exact of_decide_eq_false this.symm
          have HRX : Hid (rowBB B H f1 i = LPlace.zero) := by show _ = _; rw [HRB.out, if_neg hm]
          have HMX : Hid ((rowMB B H f1 i (rowMA B H f0 i)) = (rowMA B H f0 i)) := by show _ = _; rw [HMB.out, if_neg hm]
          rw [hc] at x1
          clear hc hm
          go_wp2
          have hgk := HGK.out
          go_roundg (gk - 1)
          case measure => omega
          case rel =>
            refine ⟨2, by go_num, by omega, by omega, ?_⟩
            have := HT.out
            rw [← HMX.out] at this
            simpa [HRX.out] using this
      · have htk2 : TkS w base x pa pb (rowPA B H f0 i) (rowBB B H f1 i) (rowMB B H f1 i (rowMA B H f0 i)) u5 wr := by simpa using htk
        have HT : Hid (TkS w base x pa pb (rowPA B H f0 i) (rowBB B H f1 i) (rowMB B H f1 i (rowMA B H f0 i)) u5 wr) := htk2
        clear htk2
        clear htk
        obtain ⟨p, hp⟩ : ∃ p, p = rowPA B H f0 i := ⟨_, rfl⟩
        obtain ⟨q, hq⟩ : ∃ q, q = rowBB B H f1 i := ⟨_, rfl⟩
        have HP2 : Hid (p = rowPA B H f0 i) := hp
        have HQ2 : Hid (q = rowBB B H f1 i) := hq
        rw [← hp, ← hq] at HT
        clear hp hq
        have g0 : wr.cell? ⟨w.heap.size + 1, 0, none⟩ = some (.int .i64 p.kind) := HT.out.row.cell 0
        have g1 : wr.cell? ⟨w.heap.size + 1, 1, none⟩ = some (.int .i64 p.n) := HT.out.row.cell 1
        have g2 : wr.cell? ⟨w.heap.size + 1, 2, none⟩ = some (.int .i64 q.kind) := HT.out.row.cell 2
        have g3 : wr.cell? ⟨w.heap.size + 1, 3, none⟩ = some (.int .i64 q.n) := HT.out.row.cell 3
        have zf := fun j => HT.out.row.frozen j
        have HF1 := (HT.out.putA p).putB q
        have HF : Hid (TkS w base x pa pb p q (rowMB B H f1 i (rowMA B H f0 i)) u5 ((((wr.setCell ⟨w.heap.size + 1, 0, none⟩ (.int .i64 p.kind)).setCell ⟨w.heap.size + 1, 1, none⟩ (.int .i64 p.n)).setCell ⟨w.heap.size + 1, 2, none⟩ (.int .i64 q.kind)).setCell ⟨w.heap.size + 1, 3, none⟩ (.int .i64 q.n))) := HF1
        clear HF1
        go_wp2
        refine bodyPost_ret (v := .tuple #[.agg #[.int .i64 p.kind, .int .i64 p.n, .int .i64 q.kind, .int .i64 q.n], u5]) ?_ rfl ⟨u5, by rw [← HP2.out, ← HQ2.out], ?_, HF.out.bel⟩
        · simp [results, Tryz.results135, go_sem, g0, g1, g2, g3]
        · exact HF.out.mv.lower (by have := HF.out.lt.1; omega)
end form
end Go.Proofs.YtikhedkhgpjaaacGreatDoor
