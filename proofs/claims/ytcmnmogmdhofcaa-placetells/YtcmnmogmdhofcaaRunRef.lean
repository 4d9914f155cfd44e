/- What the document's functions on runs answer: Wrong, Gives, Next, Same. -/
import Derived.Test.YtcmnmogmdhofcaaRunPlain
import Derived.Test.YtcmnmogmdhofcaaNumRef
import Derived.Test.YtcmnmogmdhofcaaFormRefMay
namespace Go.Proofs.Ytcmnmogmdhofcaa.form
open Go.RowKit Go.Proofs.Ytcmnmogmdhofcaa.num
set_option linter.unusedVariables false
attribute [local go_sem ↓] Go.wp_at_zero Go.wp_at_succ

def wrongI (B : List Bool) (C : List LIns) (nI : Nat) (steps : Int) : Int :=
  if refMayB B C = false then 2 else if 40 < nI then 1 else if steps < 0 ∨ 3000 < steps then 3 else 0

theorem wrong (v : Value) (B : List Bool) (C : List LIns) (ai : Option Addr) (nI ci : Nat) (steps : Int) (w : World) (h : ProgIs w v B C) :
    Calls Try.prog 21 #[v, .slice ai nI ci, .int .i64 steps] w fun e w' => e = .returned (.int .i64 (wrongI B C nI steps)) ∧ Below w.heap.size w w' := by
  have h0 := h
  obtain ⟨⟨a0, c0, a1, c1, rfl, -⟩, -, -, -⟩ := h0
  have HP : Hid (ProgIs w (.agg #[.slice a0 B.length c0, .slice a1 C.length c1]) B C) := h
  clear h
  go_enter Try.func21, Try.ntmps21
  go_wp2_with (go_at_call 19; refine (refMay _ B C _ ?_).mono ?_; (exact HP.out.later ((Below.refl _ _).alloc (Nat.le_refl _) _)); rintro e w1 ⟨rfl, hb1⟩)
  all_goals
    go_ret
    refine ⟨ret_int ?_, over_alloc hb1⟩
    unfold wrongI
    simp_all
  all_goals omega

theorem wrap64_of (x : Int) (h : 0 ≤ x) (h' : x < 18446744073709551616) : IntKind.u64.wrap x = x := by
  obtain ⟨n, rfl⟩ := Int.eq_ofNat_of_zero_le h
  rw [wrap_u64_nat]
  omega
theorem opR_u32_bd (op a b : Int) : 0 ≤ opR .u32 op (a % 4294967296) (b % 4294967296) ∧ opR .u32 op (a % 4294967296) (b % 4294967296) < 4294967296 := by
  rw [← opR_cut op (a % 4294967296) (b % 4294967296) (by omega) (by omega) (by omega) (by omega)]
  omega
theorem half_of (a : Int) (h : 0 ≤ a) (h' : a < 18446744073709551616) : IntKind.u64.wrap (a.tdiv 4294967296) = a / 4294967296 := by
  rw [Int.tdiv_eq_ediv_of_nonneg h]
  exact wrap64_of _ (by omega) (by omega)

/-- A number of 64 bits, kept from the walk. -/
def U64i (x : Int) : Prop := 0 ≤ x ∧ x < 18446744073709551616

set_option maxRecDepth 100000 in
set_option maxHeartbeats 1000000 in
theorem gives3 (i : LIns) (a b x : Int) (ha : U64i a) (hb : U64i b) (hx0 : 0 ≤ x) (hx1 : x < 4294967296) (hn0 : 0 ≤ i.n) (hn1 : i.n < 4294967296) (hk : -1000 ≤ i.op) (hk2 : i.op ≤ 1000) (w : World) :
    Calls Try.prog 48 #[i.val, .int .u64 a, .int .u64 b, .int .u32 x] w fun e w' => e = .returned (.int .u64 (gvI i a b x)) ∧ Below w.heap.size w w' := by
  unfold LIns.val
  have a0 := ha.1
  have b0 := hb.1
  go_enter Try.func48, Try.ntmps48
  go_wp2_with (first
    | (go_at_call 17; refine (refWide _ a b ha.1 ha.2 hb.1 hb.2 _).mono ?_; rintro e w1 ⟨rfl, rfl⟩)
    | (go_at_call 16; refine (refNarrow _ _ _ (Int.emod_nonneg _ (by decide)) (Int.emod_lt_of_pos _ (by decide)) (Int.emod_nonneg _ (by decide)) (Int.emod_lt_of_pos _ (by decide)) _).mono ?_; rintro e w1 ⟨rfl, rfl⟩))
  all_goals
    go_ret
    refine ⟨ret_int ?_, (Below.refl _ _).alloc (Nat.le_refl _) _⟩
    unfold gvI
    first
      | (simp_all; done)
      | (have hq := half_of a ha.1 ha.2; simp_all; done)
      | (have hb3 := opR_u32_bd (i.op - 20) a b; rw [wrap64_of _ hb3.1 (by omega)]; simp_all; omega)

set_option maxRecDepth 100000 in
set_option maxHeartbeats 1000000 in
theorem next3 (b0 o0 c0 b1 o1 c1 : Nat) (B : List Bool) (C : List LIns) (pc : Nat) (a : Int) (w : World) (hC : C.length ≤ 40) (h : Held w b0 o0 b1 o1 B C) (hpc : pc < C.length) :
    Calls Try.prog 49 #[progV b0 o0 B.length c0 b1 o1 C.length c1, .int .i64 pc, .int .u64 a] w fun e w' =>
      e = .returned (.tuple #[.int .i64 (nxI (C.getD pc .zero) pc a), .int .i64 (stI (C.getD pc .zero) C.length (nxI (C.getD pc .zero) pc a))]) ∧ Below w.heap.size w w' := by
  obtain ⟨d0, d1, d2, d3, d4, d5⟩ := h.code pc hpc
  generalize C.getD pc .zero = i at *
  have hlt1 := h.lt1
  have y1 : (0 : Int) ≤ (pc : Int) := by omega
  have y2 : (pc : Int) < (C.length : Int) := by omega
  have y3 : (C.length : Int) ≤ 40 := by omega
  clear hpc h
  unfold progV
  rcases (show ((i.op == 8) = true) ∨ ((i.op == 8) = false ∧ (i.op == 9) = true ∧ (a != 0) = true) ∨ ((i.op == 8) = false ∧ (i.op == 9) = true ∧ (a != 0) = false) ∨ ((i.op == 8) = false ∧ (i.op == 9) = false) by cases (i.op == 8) <;> cases (i.op == 9) <;> cases (a != 0) <;> simp) with e8 | ⟨e8, e9, ea⟩ | ⟨e8, e9, ea⟩ | ⟨e8, e9⟩
  all_goals
    have HN : Hid _ := (rfl : nxI i pc a = nxI i pc a)
    go_enter Try.func49, Try.ntmps49
    go_wp2
    all_goals
      go_ret2
      refine ⟨?_, ((Below.refl _ _).alloc (Nat.le_refl _) _).alloc (by simp) _⟩
      clear d0 d1 d2 d3 d4 d5
      simp_all [nxI, stI]
  all_goals omega

/-- What came out, as a list. -/
def OutIs (w : World) (v : Value) (l : List Int) : Prop :=
  ∃ ao cap, v = .slice ao l.length cap ∧ l.length ≤ 1000000 ∧ (0 < l.length → ∃ b o, ao = some ⟨b, o, none⟩ ∧ b < w.heap.size ∧ ∀ j, j < l.length → w.cell? ⟨b, o + j, none⟩ = some (.int .u32 (l.getD j 0)))
def ShownIs (w : World) (v : Value) (st : Int) (l : List Int) (k : Int) : Prop := ∃ ov, v = .agg #[.int .i64 st, ov, .int .i64 k] ∧ OutIs w ov l

theorem OutIs.later {w w' : World} {v : Value} {l : List Int} (h : OutIs w v l) (hb : Below w.heap.size w w') : OutIs w' v l := by
  obtain ⟨ao, cap, hv, hl, hc⟩ := h
  refine ⟨ao, cap, hv, hl, fun h0 => ?_⟩
  obtain ⟨b, o, e, hlt, hcell⟩ := hc h0
  exact ⟨b, o, e, Nat.lt_of_lt_of_le hlt hb.size, fun j hj => step_cell hb (hcell j hj)⟩
theorem ShownIs.later {w w' : World} {v : Value} {st k : Int} {l : List Int} (h : ShownIs w v st l k) (hb : Below w.heap.size w w') : ShownIs w' v st l k := by
  obtain ⟨ov, hv, ho⟩ := h
  exact ⟨ov, hv, ho.later hb⟩

def sameB (s1 k1 s2 k2 : Int) (l1 l2 : List Int) : Bool := decide (s1 = s2) && decide (k1 = k2) && decide (l1 = l2)

set_option maxRecDepth 100000 in
set_option maxHeartbeats 1000000 in
theorem same (va vb : Value) (s1 k1 s2 k2 : Int) (l1 l2 : List Int) (w : World) (h1 : ShownIs w va s1 l1 k1) (h2 : ShownIs w vb s2 l2 k2) :
    Calls Try.prog 22 #[va, vb] w fun e w' => e = .returned (.bool (sameB s1 k1 s2 k2 l1 l2)) ∧ Below w.heap.size w w' := by
  obtain ⟨ov, rfl, ao, cap, rfl, hl1, hc1⟩ := h1
  obtain ⟨ov, rfl, bo, cbp, rfl, hl2, hc2⟩ := h2
  have HC1 : Hid _ := hc1
  have HC2 : Hid _ := hc2
  clear hc1 hc2
  by_cases hs : s1 = s2 ∧ k1 = k2 ∧ l1.length = l2.length
  case neg =>
    have hf : sameB s1 k1 s2 k2 l1 l2 = false := by
      unfold sameB
      simp only [Bool.and_eq_false_iff, decide_eq_false_iff_not]
      by_cases e1 : s1 = s2
      · by_cases e2 : k1 = k2
        · exact Or.inr (fun e => hs ⟨e1, e2, by rw [e]⟩)
        · exact Or.inl (Or.inr e2)
      · exact Or.inl (Or.inl e1)
    rw [hf]
    rcases (show (s1 != s2) = true ∨ ((s1 != s2) = false ∧ (k1 != k2) = true) ∨ ((s1 != s2) = false ∧ (k1 != k2) = false ∧ ((l1.length : Int) != (l2.length : Int)) = true) by
      by_cases e1 : s1 = s2
      · by_cases e2 : k1 = k2
        · have : ¬ l1.length = l2.length := fun e => hs ⟨e1, e2, e⟩
          exact Or.inr (Or.inr ⟨by simp [e1], by simp [e2], by simp; omega⟩)
        · exact Or.inr (Or.inl ⟨by simp [e1], by simp [e2]⟩)
      · exact Or.inl (by simp [e1])) with e1 | ⟨e1, e2⟩ | ⟨e1, e2, e3⟩
    all_goals
      clear hs hf
      go_enter Try.func22, Try.ntmps22
      go_wp2
      go_ret
      exact ⟨rfl, ((Below.refl _ _).alloc (Nat.le_refl _) _).alloc (by simp) _⟩
  obtain ⟨rfl, rfl, hlen⟩ := hs
  have HL : Hid (l1.length = l2.length) := hlen
  have hll : (l1.length : Int) = (l2.length : Int) := by omega
  have e3 : ((l1.length : Int) != (l2.length : Int)) = false := by simp [hlen]
  clear hlen hll
  go_enter Try.func22, Try.ntmps22
  go_wp2
  go_loopw [5] (fun i wr => ∃ k : Nat, k ≤ l1.length ∧ i = .int .i64 k ∧ Below w.heap.size w wr ∧
      wr.cell? ⟨w.heap.size, 1, none⟩ = some (.slice ao l1.length cap) ∧ wr.cell? ⟨w.heap.size + 1, 1, none⟩ = some (.slice bo l2.length cbp) ∧ (∀ j, j < k → l1.getD j 0 = l2.getD j 0))
    (fun i _ => l1.length - (intOf i).toNat)
  case atStart => exact ⟨0, by omega, rfl, ((Below.refl _ _).alloc (Nat.le_refl _) _).alloc (by simp) _, by simp [go_sem], by simp [go_sem], fun j hj => absurd hj (by omega)⟩
  case round =>
    obtain ⟨k, hk, rfl, hbel, p1, q1, hall⟩ := hrel
    have F : Hid _ := hall
    clear hall
    by_cases hlt : k < l1.length
    · obtain ⟨ba, oa, rfl, hb1, hcell1⟩ := HC1.out (by omega)
      obtain ⟨bb, ob, rfl, hb2, hcell2⟩ := HC2.out (by have := HL.out; omega)
      have x1 := step_cell hbel (hcell1 k hlt)
      have x2 := step_cell hbel (hcell2 k (by have := HL.out; omega))
      have y1 : (0 : Int) ≤ (k : Int) := by omega
      have y2 : (k : Int) < (l1.length : Int) := by omega
      have y3 : (k : Int) < (l2.length : Int) := by have := HL.out; omega
      obtain ⟨u1, hu1⟩ : ∃ u, u = l1.getD k 0 := ⟨_, rfl⟩
      obtain ⟨u2, hu2⟩ : ∃ u, u = l2.getD k 0 := ⟨_, rfl⟩
      rw [← hu1] at x1
      rw [← hu2] at x2
      have HU1 : Hid (u1 = l1.getD k 0) := hu1
      have HU2 : Hid (u2 = l2.getD k 0) := hu2
      clear hu1 hu2 hcell1 hcell2
      go_wp2
      go_quiet (fail)
      go_wp2
      · go_ret
        refine ⟨ret_bool ?_, below_drewN hbel _⟩
        have hne : (u1 != u2) = true := by assumption
        unfold sameB
        rw [eq_comm]
        simp only [Bool.and_eq_false_iff, decide_eq_false_iff_not]
        right
        intro e
        rw [HU1.out, HU2.out, e] at hne
        simp at hne
      · refine ⟨⟨k + 1, by omega, by go_num, below_drewN hbel _, p1, q1, ?_⟩, by simp [intOf]; omega⟩
        have hne : (u1 != u2) = false := by assumption
        intro j hj
        by_cases hjk : j < k
        · exact F.out j hjk
        · obtain rfl : j = k := by omega
          rw [← HU1.out, ← HU2.out]
          simpa using hne
    · go_wp2
      go_ret
      refine ⟨ret_bool ?_, hbel⟩
      unfold sameB
      have he : l1 = l2 := by
        apply List.ext_getElem HL.out
        intro j h1 h2
        have := F.out j (by omega)
        simpa [List.getD, h1, h2] using this
      simp [he]

end Go.Proofs.Ytcmnmogmdhofcaa.form
