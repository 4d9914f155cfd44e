/- What the functions on numbers come to: the document's. -/
import Derived.Test.YtcmnmogmdhofcabGreatProg
import Derived.OwnWalk
import Derived.Below
import Derived.Test.YtcmnmogmdhofcabGreatE02
import Derived.Test.YtcmnmogmdhofcabGreatE01

namespace Go.Proofs.YtcmnmogmdhofcabGreat.num
open Go.RowKit

theorem ret_int {k : IntKind} {a b : Int} (h : a = b) : Ending.returned (.int k a) = .returned (.int k b) := by rw [h]

set_option maxRecDepth 100000 in
set_option maxHeartbeats 400000 in
theorem refBits (and : Bool) (x y : Nat) (hx : x < 18446744073709551616) (hy : y < 18446744073709551616) (w : World) :
    Calls Tryz.prog 84 #[.bool and, .int .u64 x, .int .u64 y] w fun e w' => e = .returned (.int .u64 (natBit and x y : Nat)) ∧ w' = w := by
  go_enter Tryz.func84, Tryz.ntmps84
  go_wp2
  go_loop [1, 2, 7, 8, 9] (fun sa sb sn sp si => ∃ i a b n p : Nat, i ≤ 64 ∧ Inv and x y i a b n p ∧ sa = .int .u64 a ∧ sb = .int .u64 b ∧ sn = .int .u64 n ∧ sp = .int .u64 p ∧ si = .int .i64 i) (fun _ _ _ _ si => 64 - (intOf si).toNat)
  case atStart => exact ⟨0, x, y, 0, 1, by omega, Inv.start and x y, rfl, rfl, rfl, rfl, rfl⟩
  case round =>
    obtain ⟨i, a, b, n, p, hi, hinv, rfl, rfl, rfl, rfl, rfl⟩ := hrel
    by_cases hlt : i < 64
    · have hst := hinv.step hx hy hlt
      have hbd := hinv.bound hx hy hlt
      obtain ⟨ha, hb, hnp, hp, -⟩ := hbd
      have hpp : IntKind.u64.wrap ((p : Int) + (p : Int)) = (((p + p) % 18446744073709551616 : Nat) : Int) := wrap_u64_nat (p + p)
      have hon : Hid (bitOn and a b = true → Inv and x y (i + 1) (a / 2) (b / 2) (n + p) ((p + p) % 18446744073709551616)) := fun h => by rw [h] at hst; exact hst
      have hoff : Hid (bitOn and a b = false → Inv and x y (i + 1) (a / 2) (b / 2) n ((p + p) % 18446744073709551616)) := fun h => by rw [h] at hst; exact hst
      have hbit : Hid (bitOn and a b = _) := bitOn_int and a b
      have HP : Hid _ := hpp
      clear hpp hst hinv
      cases and
      · go_wp2
        · refine ⟨⟨i + 1, a / 2, b / 2, n + p, (p + p) % 18446744073709551616, by omega, hon.out (hbit.out.trans ?_), rfl, rfl, rfl, by rw [HP.out], rfl⟩, by simp [intOf]; omega⟩
          rw [if_neg (by simp)]; assumption
        · refine ⟨⟨i + 1, a / 2, b / 2, n, (p + p) % 18446744073709551616, by omega, hoff.out (hbit.out.trans ?_), rfl, rfl, rfl, by rw [HP.out], rfl⟩, by simp [intOf]; omega⟩
          rw [if_neg (by simp)]; assumption
      · go_wp2
        · refine ⟨⟨i + 1, a / 2, b / 2, n + p, (p + p) % 18446744073709551616, by omega, hon.out (hbit.out.trans ?_), rfl, rfl, rfl, by rw [HP.out], rfl⟩, by simp [intOf]; omega⟩
          rw [if_pos rfl]; exact beq_iff_eq.2 (by omega)
        · refine ⟨⟨i + 1, a / 2, b / 2, n, (p + p) % 18446744073709551616, by omega, hoff.out (hbit.out.trans ?_), rfl, rfl, rfl, by rw [HP.out], rfl⟩, by simp [intOf]; omega⟩
          rw [if_pos rfl]; exact beq_eq_false_iff_ne.2 (by omega)
    · have hi64 : i = 64 := by omega
      go_wp2
      go_ret
      exact ⟨ret_int (by subst hi64; rw [hinv.fin hx hy]), rfl⟩

def U64 (x : Nat) : Prop := x < 18446744073709551616

set_option maxRecDepth 100000 in
set_option maxHeartbeats 400000 in
theorem refWide' (op : Int) (x y : Nat) (hx : U64 x) (hy : U64 y) (w : World) :
    Calls Tryz.prog 55 #[.int .i64 op, .int .u64 x, .int .u64 y] w fun e w' => e = .returned (.int .u64 (opR .u64 op x y)) ∧ w' = w := by
  have HA : Hid _ := bits_natBit true x y hx hy
  have HX : Hid _ := bits_natBit false x y hx hy
  go_enter Tryz.func55, Tryz.ntmps55
  go_wp2_with (go_at_call 84; refine (refBits _ x y hx hy _).mono ?_; rintro e w' ⟨rfl, rfl⟩)
  all_goals go_ret
  all_goals exact ⟨ret_int (by have h1 := HA.out; have h2 := HX.out; simp_all [opR]), rfl⟩

theorem refWide (op a b : Int) (ha : 0 ≤ a) (ha' : a < 18446744073709551616) (hb : 0 ≤ b) (hb' : b < 18446744073709551616) (w : World) :
    Calls Tryz.prog 55 #[.int .i64 op, .int .u64 a, .int .u64 b] w fun e w' => e = .returned (.int .u64 (opR .u64 op a b)) ∧ w' = w := by
  obtain ⟨x, rfl⟩ := Int.eq_ofNat_of_zero_le ha
  obtain ⟨y, rfl⟩ := Int.eq_ofNat_of_zero_le hb
  exact refWide' op x y (by unfold U64; omega) (by unfold U64; omega) w

theorem refNarrow (op a b : Int) (ha : 0 ≤ a) (ha' : a < 4294967296) (hb : 0 ≤ b) (hb' : b < 4294967296) (w : World) :
    Calls Tryz.prog 56 #[.int .i64 op, .int .u32 a, .int .u32 b] w fun e w' => e = .returned (.int .u32 (opR .u32 op a b)) ∧ w' = w := by
  have HC : Hid _ := opR_cut op a b ha ha' hb hb'
  have hd := opR_u64_bd op a b ha (by omega) hb (by omega)
  have h0 := hd.1
  clear hd
  go_enter Tryz.func56, Tryz.ntmps56
  go_wp2_with (go_at_call 55; refine (refWide op a b ha (by omega) hb (by omega) _).mono ?_; rintro e w' ⟨rfl, rfl⟩)
  go_ret
  exact ⟨ret_int (by have h1 := HC.out; omega), rfl⟩
end Go.Proofs.YtcmnmogmdhofcabGreat.num

/- What the document's functions on runs answer: Wrong, Gives, Next, Same. -/
namespace Go.Proofs.YtcmnmogmdhofcabGreat.form
open Go.RowKit Go.Proofs.YtcmnmogmdhofcabGreat.num
set_option linter.unusedVariables false
attribute [local go_sem ↓] Go.wp_at_zero Go.wp_at_succ

def wrongI (B : List Bool) (C : List LIns) (nI : Nat) (steps : Int) : Int :=
  if refMayB B C = false then 2 else if 40 < nI then 1 else if steps < 0 ∨ 3000 < steps then 3 else 0

theorem wrong (v : Value) (B : List Bool) (C : List LIns) (ai : Option Addr) (nI ci : Nat) (steps : Int) (w : World) (h : ProgIs w v B C) :
    Calls Tryz.prog 9 #[v, .slice ai nI ci, .int .i64 steps] w fun e w' => e = .returned (.int .i64 (wrongI B C nI steps)) ∧ Below w.heap.size w w' := by
  have h0 := h
  obtain ⟨⟨a0, c0, a1, c1, rfl, -⟩, -, -, -⟩ := h0
  have HP : Hid (ProgIs w (.agg #[.slice a0 B.length c0, .slice a1 C.length c1]) B C) := h
  clear h
  go_enter Tryz.func9, Tryz.ntmps9
  go_wp2_with (go_at_call 20; refine (refMay _ B C _ ?_).mono ?_; (exact HP.out.later ((Below.refl _ _).alloc (Nat.le_refl _) _)); rintro e w1 ⟨rfl, hb1⟩)
  all_goals
    go_ret
    refine ⟨ret_int ?_, over_alloc hb1⟩
    unfold wrongI
    simp_all
  all_goals omega

theorem wrap64_of (x : Int) (h : 0 ≤ x) (h' : x < 18446744073709551616) : IntKind.u64.wrap x = x := by
  obtain ⟨n, rfl⟩ := Int.eq_ofNat_of_zero_le h
  rw [wrap_u64_nat]
  omega
theorem opR_u32_bd (op a b : Int) : 0 ≤ opR .u32 op (a % 4294967296) (b % 4294967296) ∧ opR .u32 op (a % 4294967296) (b % 4294967296) < 4294967296 := by
  rw [← opR_cut op (a % 4294967296) (b % 4294967296) (by omega) (by omega) (by omega) (by omega)]
  omega
theorem half_of (a : Int) (h : 0 ≤ a) (h' : a < 18446744073709551616) : IntKind.u64.wrap (a.tdiv 4294967296) = a / 4294967296 := by
  rw [Int.tdiv_eq_ediv_of_nonneg h]
  exact wrap64_of _ (by omega) (by omega)

def U64i (x : Int) : Prop := 0 ≤ x ∧ x < 18446744073709551616

set_option maxRecDepth 100000 in
set_option maxHeartbeats 1000000 in
theorem gives3 (i : LIns) (a b x : Int) (ha : U64i a) (hb : U64i b) (hx0 : 0 ≤ x) (hx1 : x < 4294967296) (hn0 : 0 ≤ i.n) (hn1 : i.n < 4294967296) (hk : -1000 ≤ i.op) (hk2 : i.op ≤ 1000) (w : World) :
    Calls Tryz.prog 26 #[i.val, .int .u64 a, .int .u64 b, .int .u32 x] w fun e w' => e = .returned (.int .u64 (gvI i a b x)) ∧ Below w.heap.size w w' := by
  unfold LIns.val
  have a0 := ha.1
  have b0 := hb.1
  go_enter Tryz.func26, Tryz.ntmps26
  go_wp2_with (first
    | (go_at_call 55; refine (refWide _ a b ha.1 ha.2 hb.1 hb.2 _).mono ?_; rintro e w1 ⟨rfl, rfl⟩)
    | (go_at_call 56; refine (refNarrow _ _ _ (Int.emod_nonneg _ (by decide)) (Int.emod_lt_of_pos _ (by decide)) (Int.emod_nonneg _ (by decide)) (Int.emod_lt_of_pos _ (by decide)) _).mono ?_; rintro e w1 ⟨rfl, rfl⟩))
  all_goals
    go_ret
    refine ⟨ret_int ?_, (Below.refl _ _).alloc (Nat.le_refl _) _⟩
    unfold gvI
    first
      | (simp_all; done)
      | (have hq := half_of a ha.1 ha.2; simp_all; done)
      | (have hb3 := opR_u32_bd (i.op - 20) a b; rw [wrap64_of _ hb3.1 (by omega)]; simp_all; omega)

set_option maxRecDepth 100000 in
set_option maxHeartbeats 1000000 in
theorem next3 (b0 o0 c0 b1 o1 c1 : Nat) (B : List Bool) (C : List LIns) (pc : Nat) (a : Int) (w : World) (hC : C.length ≤ 40) (h : Held w b0 o0 b1 o1 B C) (hpc : pc < C.length) :
    Calls Tryz.prog 27 #[progV b0 o0 B.length c0 b1 o1 C.length c1, .int .i64 pc, .int .u64 a] w fun e w' =>
      e = .returned (.tuple #[.int .i64 (nxI (C.getD pc .zero) pc a), .int .i64 (stI (C.getD pc .zero) C.length (nxI (C.getD pc .zero) pc a))]) ∧ Below w.heap.size w w' := by
  obtain ⟨d0, d1, d2, d3, d4, d5⟩ := h.code pc hpc
  generalize C.getD pc .zero = i at *
  have hlt1 := h.lt1
  have y1 : (0 : Int) ≤ (pc : Int) := by omega
  have y2 : (pc : Int) < (C.length : Int) := by omega
  have y3 : (C.length : Int) ≤ 40 := by omega
  clear hpc h
  unfold progV
  rcases (show ((i.op == 8) = true) ∨ ((i.op == 8) = false ∧ (i.op == 9) = true ∧ (a != 0) = true) ∨ ((i.op == 8) = false ∧ (i.op == 9) = true ∧ (a != 0) = false) ∨ ((i.op == 8) = false ∧ (i.op == 9) = false) by cases (i.op == 8) <;> cases (i.op == 9) <;> cases (a != 0) <;> simp) with e8 | ⟨e8, e9, ea⟩ | ⟨e8, e9, ea⟩ | ⟨e8, e9⟩
  all_goals
    have HN : Hid _ := (rfl : nxI i pc a = nxI i pc a)
    go_enter Tryz.func27, Tryz.ntmps27
    go_wp2
    all_goals
      go_ret2
      refine ⟨?_, ((Below.refl _ _).alloc (Nat.le_refl _) _).alloc (by simp) _⟩
      clear d0 d1 d2 d3 d4 d5
      simp_all [nxI, stI]
  all_goals omega

def OutIs (w : World) (v : Value) (l : List Int) : Prop :=
  ∃ ao cap, v = .slice ao l.length cap ∧ l.length ≤ 1000000 ∧ (0 < l.length → ∃ b o, ao = some ⟨b, o, none⟩ ∧ b < w.heap.size ∧ ∀ j, j < l.length → w.cell? ⟨b, o + j, none⟩ = some (.int .u32 (l.getD j 0)))
def ShownIs (w : World) (v : Value) (st : Int) (l : List Int) (k : Int) : Prop := ∃ ov, v = .agg #[.int .i64 st, ov, .int .i64 k] ∧ OutIs w ov l

theorem OutIs.later {w w' : World} {v : Value} {l : List Int} (h : OutIs w v l) (hb : Below w.heap.size w w') : OutIs w' v l := by
  obtain ⟨ao, cap, hv, hl, hc⟩ := h
  refine ⟨ao, cap, hv, hl, fun h0 => ?_⟩
  obtain ⟨b, o, e, hlt, hcell⟩ := hc h0
  exact ⟨b, o, e, Nat.lt_of_lt_of_le hlt hb.size, fun j hj => step_cell hb (hcell j hj)⟩
theorem ShownIs.later {w w' : World} {v : Value} {st k : Int} {l : List Int} (h : ShownIs w v st l k) (hb : Below w.heap.size w w') : ShownIs w' v st l k := by
  obtain ⟨ov, hv, ho⟩ := h
  exact ⟨ov, hv, ho.later hb⟩

def sameB (s1 k1 s2 k2 : Int) (l1 l2 : List Int) : Bool := decide (s1 = s2) && decide (k1 = k2) && decide (l1 = l2)

set_option maxRecDepth 100000 in
set_option maxHeartbeats 1000000 in
theorem same (va vb : Value) (s1 k1 s2 k2 : Int) (l1 l2 : List Int) (w : World) (h1 : ShownIs w va s1 l1 k1) (h2 : ShownIs w vb s2 l2 k2) :
    Calls Tryz.prog 12 #[va, vb] w fun e w' => e = .returned (.bool (sameB s1 k1 s2 k2 l1 l2)) ∧ Below w.heap.size w w' := by
  obtain ⟨ov, rfl, ao, cap, rfl, hl1, hc1⟩ := h1
  obtain ⟨ov, rfl, bo, cbp, rfl, hl2, hc2⟩ := h2
  have HC1 : Hid _ := hc1
  have HC2 : Hid _ := hc2
  clear hc1 hc2
  by_cases hs : s1 = s2 ∧ k1 = k2 ∧ l1.length = l2.length
  case neg =>
    have hf : sameB s1 k1 s2 k2 l1 l2 = false := by
      unfold sameB
      simp only [Bool.and_eq_false_iff, decide_eq_false_iff_not]
      by_cases e1 : s1 = s2
      · by_cases e2 : k1 = k2
        · exact Or.inr (fun e => hs ⟨e1, e2, by rw [e]⟩)
        · exact Or.inl (Or.inr e2)
      · exact Or.inl (Or.inl e1)
    rw [hf]
    rcases (show (s1 != s2) = true ∨ ((s1 != s2) = false ∧ (k1 != k2) = true) ∨ ((s1 != s2) = false ∧ (k1 != k2) = false ∧ ((l1.length : Int) != (l2.length : Int)) = true) by
      by_cases e1 : s1 = s2
      · by_cases e2 : k1 = k2
        · have : ¬ l1.length = l2.length := fun e => hs ⟨e1, e2, e⟩
          exact Or.inr (Or.inr ⟨by simp [e1], by simp [e2], by simp; omega⟩)
        · exact Or.inr (Or.inl ⟨by simp [e1], by simp [e2]⟩)
      · exact Or.inl (by simp [e1])) with e1 | ⟨e1, e2⟩ | ⟨e1, e2, e3⟩
    all_goals
      clear hs hf
      go_enter Tryz.func12, Tryz.ntmps12
      go_wp2
      go_ret
      exact ⟨rfl, ((Below.refl _ _).alloc (Nat.le_refl _) _).alloc (by simp) _⟩
  obtain ⟨rfl, rfl, hlen⟩ := hs
  have HL : Hid (l1.length = l2.length) := hlen
  have hll : (l1.length : Int) = (l2.length : Int) := by omega
  have e3 : ((l1.length : Int) != (l2.length : Int)) = false := by simp [hlen]
  clear hlen hll
  go_enter Tryz.func12, Tryz.ntmps12
  go_wp2
  go_loopw [5] (fun i wr => ∃ k : Nat, k ≤ l1.length ∧ i = .int .i64 k ∧ Below w.heap.size w wr ∧
      wr.cell? ⟨w.heap.size, 1, none⟩ = some (.slice ao l1.length cap) ∧ wr.cell? ⟨w.heap.size + 1, 1, none⟩ = some (.slice bo l2.length cbp) ∧ (∀ j, j < k → l1.getD j 0 = l2.getD j 0))
    (fun i _ => l1.length - (intOf i).toNat)
  case atStart => exact ⟨0, by omega, rfl, ((Below.refl _ _).alloc (Nat.le_refl _) _).alloc (by simp) _, by simp [go_sem], by simp [go_sem], fun j hj => absurd hj (by omega)⟩
  case round =>
    obtain ⟨k, hk, rfl, hbel, p1, q1, hall⟩ := hrel
    have F : Hid _ := hall
    clear hall
    by_cases hlt : k < l1.length
    · obtain ⟨ba, oa, rfl, hb1, hcell1⟩ := HC1.out (by omega)
      obtain ⟨bb, ob, rfl, hb2, hcell2⟩ := HC2.out (by have := HL.out; omega)
      have x1 := step_cell hbel (hcell1 k hlt)
      have x2 := step_cell hbel (hcell2 k (by have := HL.out; omega))
      have y1 : (0 : Int) ≤ (k : Int) := by omega
      have y2 : (k : Int) < (l1.length : Int) := by omega
      have y3 : (k : Int) < (l2.length : Int) := by have := HL.out; omega
      obtain ⟨u1, hu1⟩ : ∃ u, u = l1.getD k 0 := ⟨_, rfl⟩
      obtain ⟨u2, hu2⟩ : ∃ u, u = l2.getD k 0 := ⟨_, rfl⟩
      rw [← hu1] at x1
      rw [← hu2] at x2
      have HU1 : Hid (u1 = l1.getD k 0) := hu1
      have HU2 : Hid (u2 = l2.getD k 0) := hu2
      clear hu1 hu2 hcell1 hcell2
      go_wp2
      go_quiet (fail)
      go_wp2
      · go_ret
        refine ⟨ret_bool ?_, below_drewN hbel _⟩
        have hne : (u1 != u2) = true := by assumption
        unfold sameB
        rw [eq_comm]
        simp only [Bool.and_eq_false_iff, decide_eq_false_iff_not]
        right
        intro e
        rw [HU1.out, HU2.out, e] at hne
        simp at hne
      · refine ⟨⟨k + 1, by omega, by go_num, below_drewN hbel _, p1, q1, ?_⟩, by simp [intOf]; omega⟩
        have hne : (u1 != u2) = false := by assumption
        intro j hj
        by_cases hjk : j < k
        · exact F.out j hjk
        · obtain rfl : j = k := by omega
          rw [← HU1.out, ← HU2.out]
          simpa using hne
    · go_wp2
      go_ret
      refine ⟨ret_bool ?_, hbel⟩
      unfold sameB
      have he : l1 = l2 := by
        apply List.ext_getElem HL.out
        intro j h1 h2
        have := F.out j (by omega)
        simpa [List.getD, h1, h2] using this
      simp [he]

end Go.Proofs.YtcmnmogmdhofcabGreat.form

/- Of a program that may be every instruction's fields are within their bounds. -/
namespace Go.Proofs.YtcmnmogmdhofcabGreat.form
open Go.RowKit
set_option linter.unusedVariables false

structure InsOk (nB nC : Nat) (i : LIns) : Prop where
  a0 : 0 ≤ i.a
  a1 : i.a < nB
  b0 : 0 ≤ i.b
  b1 : i.b < nB
  d : givesB i.op = true → 0 ≤ i.dest ∧ i.dest < nB
  c : i.op = 8 ∨ i.op = 9 → 0 ≤ i.c ∧ i.c < nC
  n0 : 0 ≤ i.n
  n1 : i.n < 4294967296
  p0 : 1 ≤ i.op
  p1 : i.op ≤ 45

theorem field_bd {B : List Bool} {t : Bool} {f : Int} (hB : 1 ≤ B.length) (h : fieldB B t f = true) : 0 ≤ f ∧ f < B.length := by
  unfold fieldB at h
  cases t <;> simp at h <;> omega

theorem insOk {B : List Bool} {nC : Nat} {i : LIns} (hB : 1 ≤ B.length) (h : insB B nC i = true) (hn0 : 0 ≤ i.n) (hn1 : i.n < 4294967296) : InsOk B.length nC i := by
  unfold insB at h
  simp only [Bool.and_eq_true] at h
  obtain ⟨⟨⟨⟨⟨⟨hk, _⟩, hd⟩, ha⟩, hb⟩, hl⟩, _⟩ := h
  have hk2 : 1 ≤ i.op ∧ i.op ≤ 45 := by unfold knownB at hk; simp at hk; omega
  refine ⟨(field_bd hB ha).1, (field_bd hB ha).2, (field_bd hB hb).1, (field_bd hB hb).2, fun _ => field_bd hB hd, fun hop => ?_, hn0, hn1, hk2.1, hk2.2⟩
  unfold lineB at hl
  rw [if_pos hop] at hl
  simpa using hl

theorem all_insOk {B : List Bool} {C : List LIns} (h : refMayB B C = true) (hn : ∀ i, i < C.length → 0 ≤ (C.getD i .zero).n ∧ (C.getD i .zero).n < 4294967296) : ∀ k, k < C.length → InsOk B.length C.length (C.getD k .zero) := by
  unfold refMayB at h
  simp only [Bool.and_eq_true] at h
  obtain ⟨s1, s2, s3, s4⟩ := sizes_of h.1
  intro k hk
  refine insOk s1 ?_ (hn k hk).1 (hn k hk).2
  have := List.all_eq_true.1 h.2 (C.getD k .zero) (by simp [List.getD, hk])
  exact this

end Go.Proofs.YtcmnmogmdhofcabGreat.form

/- The machine on plain numbers keeps within its bounds, step by step. -/
namespace Go.Proofs.YtcmnmogmdhofcabGreat.form
open Go.RowKit Go.Proofs.YtcmnmogmdhofcabGreat.num
set_option linter.unusedVariables false

theorem u64_wrap (x : Int) : U64i (IntKind.u64.wrap x) := by
  have e : IntKind.u64.wrap x = x % 18446744073709551616 := by simp [IntKind.wrap, IntKind.bits, IntKind.signed]
  unfold U64i
  rw [e]
  omega

theorem gvI_bd (i : LIns) (a b x : Int) (ha : U64i a) (hb : U64i b) (hx0 : 0 ≤ x) (hx1 : x < 4294967296) (hn0 : 0 ≤ i.n) (hn1 : i.n < 4294967296) : U64i (gvI i a b x) := by
  unfold gvI
  split
  · exact ⟨hn0, by omega⟩
  split
  · exact ha
  split
  · exact ⟨hx0, by omega⟩
  split
  · exact u64_wrap _
  split
  · have := ha.1; have := ha.2; exact ⟨by omega, by omega⟩
  split
  · have := ha.1; have := ha.2; exact ⟨by omega, by omega⟩
  split
  · exact opR_u64_bd _ _ _ ha.1 ha.2 hb.1 hb.2
  · have := opR_u32_bd (i.op - 20) a b; exact ⟨this.1, by omega⟩

structure MOk (nB nC nI : Nat) (m : Mac) : Prop where
  len : m.temps.length = nB
  bd : ∀ j, U64i (m.temps.getD j 0)
  pcok : m.state = 0 → m.pc < nC
  tk : m.taken ≤ nI
  outs : m.out.length ≤ m.steps

theorem getD_set_bd {l : List Int} {k : Nat} {x : Int} (h : ∀ j, U64i (l.getD j 0)) (hx : U64i x) : ∀ j, U64i ((l.set k x).getD j 0) := by
  intro j
  by_cases hj : j < l.length
  · by_cases hk : k = j
    · subst hk; simpa [List.getD, hj] using hx
    · have := h j
      simpa [List.getD, hj, List.getElem_set, hk] using this
  · have : (l.set k x).getD j 0 = 0 := by simp [List.getD, List.getElem?_eq_none (show (l.set k x).length ≤ j by simp; omega)]
    rw [this]; exact ⟨by omega, by omega⟩

theorem mok_start (nB nC nI : Nat) (h : 1 ≤ nC) : MOk nB nC nI (Mac.start nB) := by
  refine ⟨by simp [Mac.start], fun j => ?_, fun _ => by simp [Mac.start]; omega, by simp [Mac.start], by simp [Mac.start]⟩
  have : (Mac.start nB).temps.getD j 0 = 0 := by
    unfold Mac.start
    by_cases hj : j < nB <;> simp [List.getD, hj]
  rw [this]; exact ⟨by omega, by omega⟩

theorem inOf_bd {ins : List Int} (h : ∀ j, j < ins.length → 0 ≤ ins.getD j 0 ∧ ins.getD j 0 < 4294967296) (k : Nat) : 0 ≤ inOf ins k ∧ inOf ins k < 4294967296 := by
  unfold inOf
  by_cases hk : k < ins.length
  · exact h k hk
  · rw [show ins.getD k 0 = 0 by simp [List.getD, List.getElem?_eq_none (show ins.length ≤ k by omega)]]; omega

theorem mok_step {nB : Nat} {C : List LIns} {ins : List Int} {m : Mac} (h : MOk nB C.length ins.length m) (h0 : m.state = 0) (hi : InsOk nB C.length (C.getD m.pc .zero)) (hin : ∀ j, j < ins.length → 0 ≤ ins.getD j 0 ∧ ins.getD j 0 < 4294967296) :
    MOk nB C.length ins.length (m.step C ins) := by
  refine ⟨?_, ?_, ?_, ?_, ?_⟩
  · simp only [Mac.step]; split <;> simp [h.len]
  · simp only [Mac.step]
    split
    · exact getD_set_bd h.bd (gvI_bd _ _ _ _ (h.bd _) (h.bd _) (inOf_bd hin _).1 (inOf_bd hin _).2 hi.n0 hi.n1)
    · exact h.bd
  · simp only [Mac.step]
    intro hs
    unfold stI at hs
    split at hs
    · omega
    split at hs
    · omega
    · have hn : 0 ≤ nxI (C.getD m.pc .zero) m.pc (m.temps.getD (C.getD m.pc .zero).a.toNat 0) := by
        unfold nxI
        split
        · rename_i hc
          exact (hi.c (by rcases hc with hc | hc; exact Or.inl hc; exact Or.inr hc.1)).1
        · omega
      omega
  · simp only [Mac.step]
    split
    · rename_i hc; exact hc.2
    · exact h.tk
  · simp only [Mac.step]
    have := h.outs
    split <;> simp <;> omega

end Go.Proofs.YtcmnmogmdhofcabGreat.form
