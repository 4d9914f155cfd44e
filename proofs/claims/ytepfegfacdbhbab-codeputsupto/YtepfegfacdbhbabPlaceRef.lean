/- What the document's functions on places answer: Target, Is, Overlap, move, register. -/
import Derived.Test.YtepfegfacdbhbabFormRefMay
namespace Go.Proofs.Ytepfegfacdbhbab.form
open Go.RowKit
set_option linter.unusedVariables false
attribute [local go_sem ↓] Go.wp_at_zero Go.wp_at_succ

structure LPlace where
  kind : Int
  n : Int
structure LMove where
  dst : LPlace
  src : LPlace
  cst : Bool
  n : Int
def LPlace.zero : LPlace := ⟨0, 0⟩
def LMove.zero : LMove := ⟨.zero, .zero, false, 0⟩
def LPlace.val (p : LPlace) : Value := .agg #[.int .i64 p.kind, .int .i64 p.n]
def LMove.val (m : LMove) : Value := .agg #[.int .i64 m.dst.kind, .int .i64 m.dst.n, .int .i64 m.src.kind, .int .i64 m.src.n, .bool m.cst, .int .u32 m.n]
def targetV (s : Int) : Value := .agg #[.int .i64 s]

def targetB (s : Int) : Bool := s == 4 || s == 6 || s == 8 || s == 10 || s == 12 || s == 14 || s == 16
def isB (s slots : Int) (p : LPlace) : Bool :=
  if p.kind = 1 then decide (0 ≤ p.n) && decide (p.n < s) else if p.kind = 2 then decide (0 ≤ p.n) && decide (2 * p.n < s) && decide (p.n < 100)
  else if p.kind = 3 then decide (0 ≤ p.n) && decide (p.n < slots) else false
def overB (a b : LPlace) : Bool :=
  if a.kind = b.kind then decide (a.n = b.n) else if a.kind = 1 ∧ b.kind = 2 then decide (a.n = 2 * b.n ∨ a.n = 2 * b.n + 1) else if a.kind = 2 ∧ b.kind = 1 then decide (b.n = 2 * a.n ∨ b.n = 2 * a.n + 1) else false
def moveB (s slots : Int) (m : LMove) : Bool :=
  isB s slots m.dst && (if m.cst then (m.src.kind == 0) && (m.src.n == 0) && (m.dst.kind == 1)
    else (m.n == 0) && isB s slots m.src && (if m.dst.kind == 3 then m.src.kind != 3 else (m.src.kind == 3) || (m.src.kind == m.dst.kind)))

set_option maxRecDepth 100000 in
set_option maxHeartbeats 1000000 in
theorem target (s : Int) (w : World) : Calls Try.prog 17 #[targetV s] w fun e w' => e = .returned (.bool (targetB s)) ∧ Below w.heap.size w w' := by
  unfold targetV
  go_enter Try.func17, Try.ntmps17
  go_wp2
  go_loop [3] (fun t => ∃ k : Nat, k ≤ 7 ∧ t = .int .i64 (4 + 2 * k : Nat) ∧ ∀ j : Nat, j < k → ¬ s = (4 + 2 * j : Nat)) (fun t => 18 - (intOf t).toNat)
  case atStart => exact ⟨0, by omega, rfl, fun j hj => absurd hj (by omega)⟩
  case round =>
    obtain ⟨k, hk, rfl, hall⟩ := hrel
    have F : Hid _ := hall
    clear hall
    by_cases hlt : k < 7
    · have hb : ((4 + 2 * k : Nat) : Int) ≤ 16 := by omega
      go_wp2
      · have hs : (s == ((4 + 2 * k : Nat) : Int)) = true := by simp_all
        go_ret
        refine ⟨ret_bool ?_, (Below.refl _ _).alloc (Nat.le_refl _) _⟩
        have : s = ((4 + 2 * k : Nat) : Int) := by simpa using hs
        rw [this]
        rcases (show k = 0 ∨ k = 1 ∨ k = 2 ∨ k = 3 ∨ k = 4 ∨ k = 5 ∨ k = 6 by omega) with rfl | rfl | rfl | rfl | rfl | rfl | rfl <;> rfl
      · refine ⟨⟨k + 1, by omega, by go_num, ?_⟩, by simp [intOf]; omega⟩
        intro j hj
        by_cases hjk : j < k
        · exact F.out j hjk
        · obtain rfl : j = k := by omega
          simp_all
    · go_wp2
      go_ret
      refine ⟨ret_bool ?_, (Below.refl _ _).alloc (Nat.le_refl _) _⟩
      unfold targetB
      have e0 := F.out 0 (by omega)
      have e1 := F.out 1 (by omega)
      have e2 := F.out 2 (by omega)
      have e3 := F.out 3 (by omega)
      have e4 := F.out 4 (by omega)
      have e5 := F.out 5 (by omega)
      have e6 := F.out 6 (by omega)
      simp at e0 e1 e2 e3 e4 e5 e6
      simp [e0, e1, e2, e3, e4, e5, e6]

set_option maxRecDepth 100000 in
set_option maxHeartbeats 1000000 in
theorem is6 (s slots : Int) (p : LPlace) (w : World) : Calls Try.prog 14 #[targetV s, .int .i64 slots, p.val] w fun e w' => e = .returned (.bool (isB s slots p)) ∧ Below w.heap.size w w' := by
  unfold targetV LPlace.val
  rcases (show p.kind = 1 ∨ (p.kind = 2 ∧ 0 ≤ p.n ∧ p.n < 100) ∨ (p.kind = 2 ∧ p.n < 0) ∨ (p.kind = 2 ∧ 100 ≤ p.n) ∨ p.kind = 3 ∨ (¬ p.kind = 1 ∧ ¬ p.kind = 2 ∧ ¬ p.kind = 3) by omega) with e | ⟨e, e1, e2⟩ | ⟨e, e1⟩ | ⟨e, e1⟩ | e | ⟨e, e1, e2⟩
  all_goals
    go_enter Try.func14, Try.ntmps14
    go_wp2
    all_goals
      go_ret
      refine ⟨ret_bool ?_, ((Below.refl _ _).alloc (Nat.le_refl _) _).alloc (by simp) _⟩
      unfold isB
      rw [Bool.eq_iff_iff]
      simp_all
  all_goals omega

def nearB (n : Int) : Bool := decide (-4611686018427387904 ≤ n) && decide (n ≤ 4611686018427387903)

theorem near6 (n : Int) (w : World) : Calls Try.prog 41 #[.int .i64 n] w fun e w' => e = .returned (.bool (nearB n)) ∧ w' = w := by
  go_enter Try.func41, Try.ntmps41
  go_wp2
  all_goals
    go_ret
    exact ⟨ret_bool (by unfold nearB; rw [Bool.eq_iff_iff]; simp; try omega), rfl⟩

theorem half6 (s d : Int) (h1 : -4611686018427387904 ≤ d) (h2 : d ≤ 4611686018427387903) (w : World) :
    Calls Try.prog 42 #[.int .i64 s, .int .i64 d] w fun e w' => e = .returned (.bool (decide (s = 2 * d ∨ s = 2 * d + 1))) ∧ w' = w := by
  go_enter Try.func42, Try.ntmps42
  go_wp2
  all_goals
    go_ret
    exact ⟨ret_bool (by rw [Bool.eq_iff_iff]; simp; try omega), rfl⟩

/-- An int: what fits its kind. -/
def I64 (x : Int) : Prop := -9223372036854775808 ≤ x ∧ x ≤ 9223372036854775807

theorem near_of {d s : Int} (hs : I64 s) (h : nearB d = false) : ¬ (s = 2 * d ∨ s = 2 * d + 1) := by
  have h1 := hs.1
  have h2 := hs.2
  unfold nearB at h
  simp at h
  omega
theorem near_bd {d : Int} (h : nearB d = true) : -4611686018427387904 ≤ d ∧ d ≤ 4611686018427387903 := by
  unfold nearB at h; simpa using h

set_option maxRecDepth 100000 in
set_option maxHeartbeats 1000000 in
theorem overlap6 (a b : LPlace) (ha : I64 a.n) (hb : I64 b.n) (w : World) : Calls Try.prog 15 #[a.val, b.val] w fun e w' => e = .returned (.bool (overB a b)) ∧ Below w.heap.size w w' := by
  unfold LPlace.val
  by_cases hk : a.kind = b.kind
  · have e1 : (a.kind == b.kind) = true := by simp [hk]
    have HE : Hid (overB a b = decide (a.n = b.n)) := by show overB a b = _; unfold overB; rw [if_pos hk]
    clear hk
    go_enter Try.func15, Try.ntmps15
    go_wp2
    go_ret
    exact ⟨ret_bool (by rw [HE.out]; rfl), ((Below.refl _ _).alloc (Nat.le_refl _) _).alloc (by simp) _⟩
  have e1 : (a.kind == b.kind) = false := by simp [hk]
  by_cases h12 : a.kind = 1 ∧ b.kind = 2
  · have HE : Hid (overB a b = decide (a.n = 2 * b.n ∨ a.n = 2 * b.n + 1)) := by show overB a b = _; unfold overB; rw [if_neg hk, if_pos h12]
    have e2 : (a.kind == 1) = true := by simp [h12.1]
    have e3 : (b.kind == 2) = true := by simp [h12.2]
    clear hk h12
    cases hn : nearB b.n
    · have HN : Hid _ := near_of ha hn
      go_enter Try.func15, Try.ntmps15
      go_wp2_with (go_at_call 41; refine (near6 _ _).mono ?_; rintro e w' ⟨rfl, rfl⟩; rw [hn])
      go_ret
      exact ⟨ret_bool (by rw [HE.out, eq_comm, decide_eq_false_iff_not]; exact HN.out), ((Below.refl _ _).alloc (Nat.le_refl _) _).alloc (by simp) _⟩
    · have HN : Hid _ := near_bd hn
      go_enter Try.func15, Try.ntmps15
      go_wp2_with (first | (go_at_call 41; refine (near6 _ _).mono ?_; rintro e w' ⟨rfl, rfl⟩; rw [hn]) | (go_at_call 42; refine (half6 _ _ HN.out.1 HN.out.2 _).mono ?_; rintro e w' ⟨rfl, rfl⟩))
      go_ret
      exact ⟨ret_bool (by rw [HE.out]; try simp), ((Below.refl _ _).alloc (Nat.le_refl _) _).alloc (by simp) _⟩
  by_cases h21 : a.kind = 2 ∧ b.kind = 1
  · have HE : Hid (overB a b = decide (b.n = 2 * a.n ∨ b.n = 2 * a.n + 1)) := by show overB a b = _; unfold overB; rw [if_neg hk, if_neg h12, if_pos h21]
    have e2 : (a.kind == 1) = false := by simp [h21.1]
    have e3 : (a.kind == 2) = true := by simp [h21.1]
    have e4 : (b.kind == 1) = true := by simp [h21.2]
    clear hk h12 h21
    cases hn : nearB a.n
    · have HN : Hid _ := near_of hb hn
      go_enter Try.func15, Try.ntmps15
      go_wp2_with (go_at_call 41; refine (near6 _ _).mono ?_; rintro e w' ⟨rfl, rfl⟩; rw [hn])
      go_ret
      exact ⟨ret_bool (by rw [HE.out, eq_comm, decide_eq_false_iff_not]; exact HN.out), ((Below.refl _ _).alloc (Nat.le_refl _) _).alloc (by simp) _⟩
    · have HN : Hid _ := near_bd hn
      go_enter Try.func15, Try.ntmps15
      go_wp2_with (first | (go_at_call 41; refine (near6 _ _).mono ?_; rintro e w' ⟨rfl, rfl⟩; rw [hn]) | (go_at_call 42; refine (half6 _ _ HN.out.1 HN.out.2 _).mono ?_; rintro e w' ⟨rfl, rfl⟩))
      go_ret
      exact ⟨ret_bool (by rw [HE.out]; try simp), ((Below.refl _ _).alloc (Nat.le_refl _) _).alloc (by simp) _⟩
  have HE : Hid (overB a b = false) := by show overB a b = _; unfold overB; rw [if_neg hk, if_neg h12, if_neg h21]
  rcases (show ((a.kind == 1) = true ∧ (b.kind == 2) = false) ∨ ((a.kind == 1) = false ∧ (a.kind == 2) = true ∧ (b.kind == 1) = false) ∨ ((a.kind == 1) = false ∧ (a.kind == 2) = false) by simp; omega) with ⟨e2, e3⟩ | ⟨e2, e3, e4⟩ | ⟨e2, e3⟩
  case inl =>
    have e4 : (a.kind == 2) = false := by simp at e2 ⊢; omega
    clear hk h12 h21
    go_enter Try.func15, Try.ntmps15
    go_wp2
    go_ret
    exact ⟨ret_bool (by rw [HE.out]), ((Below.refl _ _).alloc (Nat.le_refl _) _).alloc (by simp) _⟩
  all_goals
    clear hk h12 h21
    go_enter Try.func15, Try.ntmps15
    go_wp2
    go_ret
    exact ⟨ret_bool (by rw [HE.out]), ((Below.refl _ _).alloc (Nat.le_refl _) _).alloc (by simp) _⟩

end Go.Proofs.Ytepfegfacdbhbab.form
