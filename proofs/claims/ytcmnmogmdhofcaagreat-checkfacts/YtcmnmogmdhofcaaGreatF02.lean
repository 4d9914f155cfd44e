/- What the document's functions on places answer: Target, Is, Overlap, move, register. -/
import Derived.Deep.DeepCutAuto
import Derived.WalkKit
import Derived.Laws.BitsAllLaws
import Derived.Laws.Rows
import Derived.OneCell
import Derived.Test.YtcmnmogmdhofcaaGreatF01

namespace Go.Proofs.YtcmnmogmdhofcaaGreat.form
open Go.RowKit
set_option linter.unusedVariables false
attribute [local go_sem ↓] Go.wp_at_zero Go.wp_at_succ

structure LPlace where
  kind : Int
  n : Int
structure LMove where
  dst : LPlace
  src : LPlace
  cst : Bool
  n : Int
def LPlace.zero : LPlace := ⟨0, 0⟩
def LMove.zero : LMove := ⟨.zero, .zero, false, 0⟩
def LPlace.val (p : LPlace) : Value := .agg #[.int .i64 p.kind, .int .i64 p.n]
def LMove.val (m : LMove) : Value := .agg #[.int .i64 m.dst.kind, .int .i64 m.dst.n, .int .i64 m.src.kind, .int .i64 m.src.n, .bool m.cst, .int .u32 m.n]
def targetV (s : Int) : Value := .agg #[.int .i64 s]

def targetB (s : Int) : Bool := s == 4 || s == 6 || s == 8 || s == 10 || s == 12 || s == 14 || s == 16
def isB (s slots : Int) (p : LPlace) : Bool :=
  if p.kind = 1 then decide (0 ≤ p.n) && decide (p.n < s) else if p.kind = 2 then decide (0 ≤ p.n) && decide (2 * p.n < s) && decide (p.n < 100)
  else if p.kind = 3 then decide (0 ≤ p.n) && decide (p.n < slots) else false
def overB (a b : LPlace) : Bool :=
  if a.kind = b.kind then decide (a.n = b.n) else if a.kind = 1 ∧ b.kind = 2 then decide (a.n = 2 * b.n ∨ a.n = 2 * b.n + 1) else if a.kind = 2 ∧ b.kind = 1 then decide (b.n = 2 * a.n ∨ b.n = 2 * a.n + 1) else false
def moveB (s slots : Int) (m : LMove) : Bool :=
  isB s slots m.dst && (if m.cst then (m.src.kind == 0) && (m.src.n == 0) && (m.dst.kind == 1)
    else (m.n == 0) && isB s slots m.src && (if m.dst.kind == 3 then m.src.kind != 3 else (m.src.kind == 3) || (m.src.kind == m.dst.kind)))

set_option maxRecDepth 100000 in
set_option maxHeartbeats 1000000 in
theorem target (s : Int) (w : World) : Calls Tryz.prog 13 #[targetV s] w fun e w' => e = .returned (.bool (targetB s)) ∧ Below w.heap.size w w' := by
  unfold targetV
  go_enter Tryz.func13, Tryz.ntmps13
  go_wp2
  go_loop [3] (fun t => ∃ k : Nat, k ≤ 7 ∧ t = .int .i64 (4 + 2 * k : Nat) ∧ ∀ j : Nat, j < k → ¬ s = (4 + 2 * j : Nat)) (fun t => 18 - (intOf t).toNat)
  case atStart => exact ⟨0, by omega, rfl, fun j hj => absurd hj (by omega)⟩
  case round =>
    obtain ⟨k, hk, rfl, hall⟩ := hrel
    have F : Hid _ := hall
    clear hall
    by_cases hlt : k < 7
    · have hb : ((4 + 2 * k : Nat) : Int) ≤ 16 := by omega
      go_wp2
      · have hs : (s == ((4 + 2 * k : Nat) : Int)) = true := by simp_all
        go_ret
        refine ⟨ret_bool ?_, (Below.refl _ _).alloc (Nat.le_refl _) _⟩
        have : s = ((4 + 2 * k : Nat) : Int) := by simpa using hs
        rw [this]
        rcases (show k = 0 ∨ k = 1 ∨ k = 2 ∨ k = 3 ∨ k = 4 ∨ k = 5 ∨ k = 6 by omega) with rfl | rfl | rfl | rfl | rfl | rfl | rfl <;> rfl
      · refine ⟨⟨k + 1, by omega, by go_num, ?_⟩, by simp [intOf]; omega⟩
        intro j hj
        by_cases hjk : j < k
        · exact F.out j hjk
        · obtain rfl : j = k := by omega
          simp_all
    · go_wp2
      go_ret
      refine ⟨ret_bool ?_, (Below.refl _ _).alloc (Nat.le_refl _) _⟩
      unfold targetB
      have e0 := F.out 0 (by omega)
      have e1 := F.out 1 (by omega)
      have e2 := F.out 2 (by omega)
      have e3 := F.out 3 (by omega)
      have e4 := F.out 4 (by omega)
      have e5 := F.out 5 (by omega)
      have e6 := F.out 6 (by omega)
      simp at e0 e1 e2 e3 e4 e5 e6
      simp [e0, e1, e2, e3, e4, e5, e6]

set_option maxRecDepth 100000 in
set_option maxHeartbeats 1000000 in
theorem is6 (s slots : Int) (p : LPlace) (w : World) : Calls Tryz.prog 32 #[targetV s, .int .i64 slots, p.val] w fun e w' => e = .returned (.bool (isB s slots p)) ∧ Below w.heap.size w w' := by
  unfold targetV LPlace.val
  rcases (show p.kind = 1 ∨ (p.kind = 2 ∧ 0 ≤ p.n ∧ p.n < 100) ∨ (p.kind = 2 ∧ p.n < 0) ∨ (p.kind = 2 ∧ 100 ≤ p.n) ∨ p.kind = 3 ∨ (¬ p.kind = 1 ∧ ¬ p.kind = 2 ∧ ¬ p.kind = 3) by omega) with e | ⟨e, e1, e2⟩ | ⟨e, e1⟩ | ⟨e, e1⟩ | e | ⟨e, e1, e2⟩
  all_goals
    go_enter Tryz.func32, Tryz.ntmps32
    go_wp2
    all_goals
      go_ret
      refine ⟨ret_bool ?_, ((Below.refl _ _).alloc (Nat.le_refl _) _).alloc (by simp) _⟩
      unfold isB
      rw [Bool.eq_iff_iff]
      simp_all
  all_goals omega

def nearB (n : Int) : Bool := decide (-4611686018427387904 ≤ n) && decide (n ≤ 4611686018427387903)

theorem near6 (n : Int) (w : World) : Calls Tryz.prog 98 #[.int .i64 n] w fun e w' => e = .returned (.bool (nearB n)) ∧ w' = w := by
  go_enter Tryz.func98, Tryz.ntmps98
  go_wp2
  all_goals
    go_ret
    exact ⟨ret_bool (by unfold nearB; rw [Bool.eq_iff_iff]; simp; try omega), rfl⟩

theorem half6 (s d : Int) (h1 : -4611686018427387904 ≤ d) (h2 : d ≤ 4611686018427387903) (w : World) :
    Calls Tryz.prog 99 #[.int .i64 s, .int .i64 d] w fun e w' => e = .returned (.bool (decide (s = 2 * d ∨ s = 2 * d + 1))) ∧ w' = w := by
  go_enter Tryz.func99, Tryz.ntmps99
  go_wp2
  all_goals
    go_ret
    exact ⟨ret_bool (by rw [Bool.eq_iff_iff]; simp; try omega), rfl⟩

def I64 (x : Int) : Prop := -9223372036854775808 ≤ x ∧ x ≤ 9223372036854775807

theorem near_of {d s : Int} (hs : I64 s) (h : nearB d = false) : ¬ (s = 2 * d ∨ s = 2 * d + 1) := by
  have h1 := hs.1
  have h2 := hs.2
  unfold nearB at h
  simp at h
  omega
theorem near_bd {d : Int} (h : nearB d = true) : -4611686018427387904 ≤ d ∧ d ≤ 4611686018427387903 := by
  unfold nearB at h; simpa using h

set_option maxRecDepth 100000 in
set_option maxHeartbeats 1000000 in
theorem overlap6 (a b : LPlace) (ha : I64 a.n) (hb : I64 b.n) (w : World) : Calls Tryz.prog 74 #[a.val, b.val] w fun e w' => e = .returned (.bool (overB a b)) ∧ Below w.heap.size w w' := by
  unfold LPlace.val
  by_cases hk : a.kind = b.kind
  · have e1 : (a.kind == b.kind) = true := by simp [hk]
    have HE : Hid (overB a b = decide (a.n = b.n)) := by show overB a b = _; unfold overB; rw [if_pos hk]
    clear hk
    go_enter Tryz.func74, Tryz.ntmps74
    go_wp2
    go_ret
    exact ⟨ret_bool (by rw [HE.out]; rfl), ((Below.refl _ _).alloc (Nat.le_refl _) _).alloc (by simp) _⟩
  have e1 : (a.kind == b.kind) = false := by simp [hk]
  by_cases h12 : a.kind = 1 ∧ b.kind = 2
  · have HE : Hid (overB a b = decide (a.n = 2 * b.n ∨ a.n = 2 * b.n + 1)) := by show overB a b = _; unfold overB; rw [if_neg hk, if_pos h12]
    have e2 : (a.kind == 1) = true := by simp [h12.1]
    have e3 : (b.kind == 2) = true := by simp [h12.2]
    clear hk h12
    cases hn : nearB b.n
    · have HN : Hid _ := near_of ha hn
      go_enter Tryz.func74, Tryz.ntmps74
      go_wp2_with (go_at_call 98; refine (near6 _ _).mono ?_; rintro e w' ⟨rfl, rfl⟩; rw [hn])
      go_ret
      exact ⟨ret_bool (by rw [HE.out, eq_comm, decide_eq_false_iff_not]; exact HN.out), ((Below.refl _ _).alloc (Nat.le_refl _) _).alloc (by simp) _⟩
    · have HN : Hid _ := near_bd hn
      go_enter Tryz.func74, Tryz.ntmps74
      go_wp2_with (first | (go_at_call 98; refine (near6 _ _).mono ?_; rintro e w' ⟨rfl, rfl⟩; rw [hn]) | (go_at_call 99; refine (half6 _ _ HN.out.1 HN.out.2 _).mono ?_; rintro e w' ⟨rfl, rfl⟩))
      go_ret
      exact ⟨ret_bool (by rw [HE.out]; try simp), ((Below.refl _ _).alloc (Nat.le_refl _) _).alloc (by simp) _⟩
  by_cases h21 : a.kind = 2 ∧ b.kind = 1
  · have HE : Hid (overB a b = decide (b.n = 2 * a.n ∨ b.n = 2 * a.n + 1)) := by show overB a b = _; unfold overB; rw [if_neg hk, if_neg h12, if_pos h21]
    have e2 : (a.kind == 1) = false := by simp [h21.1]
    have e3 : (a.kind == 2) = true := by simp [h21.1]
    have e4 : (b.kind == 1) = true := by simp [h21.2]
    clear hk h12 h21
    cases hn : nearB a.n
    · have HN : Hid _ := near_of hb hn
      go_enter Tryz.func74, Tryz.ntmps74
      go_wp2_with (go_at_call 98; refine (near6 _ _).mono ?_; rintro e w' ⟨rfl, rfl⟩; rw [hn])
      go_ret
      exact ⟨ret_bool (by rw [HE.out, eq_comm, decide_eq_false_iff_not]; exact HN.out), ((Below.refl _ _).alloc (Nat.le_refl _) _).alloc (by simp) _⟩
    · have HN : Hid _ := near_bd hn
      go_enter Tryz.func74, Tryz.ntmps74
      go_wp2_with (first | (go_at_call 98; refine (near6 _ _).mono ?_; rintro e w' ⟨rfl, rfl⟩; rw [hn]) | (go_at_call 99; refine (half6 _ _ HN.out.1 HN.out.2 _).mono ?_; rintro e w' ⟨rfl, rfl⟩))
      go_ret
      exact ⟨ret_bool (by rw [HE.out]; try simp), ((Below.refl _ _).alloc (Nat.le_refl _) _).alloc (by simp) _⟩
  have HE : Hid (overB a b = false) := by show overB a b = _; unfold overB; rw [if_neg hk, if_neg h12, if_neg h21]
  rcases (show ((a.kind == 1) = true ∧ (b.kind == 2) = false) ∨ ((a.kind == 1) = false ∧ (a.kind == 2) = true ∧ (b.kind == 1) = false) ∨ ((a.kind == 1) = false ∧ (a.kind == 2) = false) by simp; omega) with ⟨e2, e3⟩ | ⟨e2, e3, e4⟩ | ⟨e2, e3⟩
  case inl =>
    have e4 : (a.kind == 2) = false := by simp at e2 ⊢; omega
    clear hk h12 h21
    go_enter Tryz.func74, Tryz.ntmps74
    go_wp2
    go_ret
    exact ⟨ret_bool (by rw [HE.out]), ((Below.refl _ _).alloc (Nat.le_refl _) _).alloc (by simp) _⟩
  all_goals
    clear hk h12 h21
    go_enter Tryz.func74, Tryz.ntmps74
    go_wp2
    go_ret
    exact ⟨ret_bool (by rw [HE.out]), ((Below.refl _ _).alloc (Nat.le_refl _) _).alloc (by simp) _⟩

end Go.Proofs.YtcmnmogmdhofcaaGreat.form

/- What the document's functions on moves answer: move, moves, register. -/
namespace Go.Proofs.YtcmnmogmdhofcaaGreat.form
open Go.RowKit
set_option linter.unusedVariables false
attribute [local go_sem ↓] Go.wp_at_zero Go.wp_at_succ

set_option maxRecDepth 100000 in
set_option maxHeartbeats 1000000 in
theorem move6 (s slots : Int) (m : LMove) (w : World) : Calls Tryz.prog 33 #[targetV s, .int .i64 slots, m.val] w fun e w' => e = .returned (.bool (moveB s slots m)) ∧ Below w.heap.size w w' := by
  unfold targetV LMove.val
  cases hd : isB s slots m.dst
  case false =>
    go_enter Tryz.func33, Tryz.ntmps33
    go_wp2_with (go_at_call 32; refine (is6 s slots m.dst _).mono ?_; rintro e w1 ⟨rfl, hb1⟩; rw [hd])
    go_ret
    exact ⟨ret_bool (by simp [moveB, hd]), over_alloc (over_alloc hb1)⟩
  cases hc : m.cst
  case true =>
    rcases (show (m.src.kind == 0) = false ∨ ((m.src.kind == 0) = true ∧ (m.src.n == 0) = false) ∨ ((m.src.kind == 0) = true ∧ (m.src.n == 0) = true) by cases (m.src.kind == 0) <;> cases (m.src.n == 0) <;> simp) with e1 | ⟨e1, e2⟩ | ⟨e1, e2⟩
    all_goals
      go_enter Tryz.func33, Tryz.ntmps33
      go_wp2_with (go_at_call 32; refine (is6 s slots m.dst _).mono ?_; rintro e w1 ⟨rfl, hb1⟩; rw [hd]; have t4 : w1.cell? ⟨w.heap.size + 1, 4, none⟩ = some (.bool true) := step_cell hb1 (by simp [go_sem]); have t2 : w1.cell? ⟨w.heap.size + 1, 2, none⟩ = some (.int .i64 m.src.kind) := step_cell hb1 (by simp [go_sem]); have t3 : w1.cell? ⟨w.heap.size + 1, 3, none⟩ = some (.int .i64 m.src.n) := step_cell hb1 (by simp [go_sem]); have t0 : w1.cell? ⟨w.heap.size + 1, 0, none⟩ = some (.int .i64 m.dst.kind) := step_cell hb1 (by simp [go_sem]))
      go_ret
      refine ⟨ret_bool ?_, over_alloc (over_alloc hb1)⟩
      unfold moveB
      rw [hd, hc, e1]
      first | rfl | (rw [e2]; rfl)
  case false =>
    have step : ∀ (w1 : World), Below ((w.alloc (.cells #[.int .i64 s] 27)).alloc (.cells #[.int .i64 m.dst.kind, .int .i64 m.dst.n, .int .i64 m.src.kind, .int .i64 m.src.n, .bool false, .int .u32 m.n] 94)).heap.size ((w.alloc (.cells #[.int .i64 s] 27)).alloc (.cells #[.int .i64 m.dst.kind, .int .i64 m.dst.n, .int .i64 m.src.kind, .int .i64 m.src.n, .bool false, .int .u32 m.n] 94)) w1 →
        w1.cell? ⟨w.heap.size, 0, none⟩ = some (.int .i64 s) ∧ w1.cell? ⟨w.heap.size + 1, 0, none⟩ = some (.int .i64 m.dst.kind) ∧ w1.cell? ⟨w.heap.size + 1, 2, none⟩ = some (.int .i64 m.src.kind) ∧ w1.cell? ⟨w.heap.size + 1, 3, none⟩ = some (.int .i64 m.src.n) ∧ w1.cell? ⟨w.heap.size + 1, 4, none⟩ = some (.bool false) ∧ w1.cell? ⟨w.heap.size + 1, 5, none⟩ = some (.int .u32 m.n) := by
      intro w1 hb1
      exact ⟨step_cell hb1 (by simp [go_sem]), step_cell hb1 (by simp [go_sem]), step_cell hb1 (by simp [go_sem]), step_cell hb1 (by simp [go_sem]), step_cell hb1 (by simp [go_sem]), step_cell hb1 (by simp [go_sem])⟩
    have HS : Hid _ := step
    clear step
    rcases Bool.eq_false_or_eq_true (m.n != 0) with en | en
    · go_enter Tryz.func33, Tryz.ntmps33
      go_wp2_with (go_at_call 32; refine (is6 s slots m.dst _).mono ?_; rintro e w1 ⟨rfl, hb1⟩; rw [hd]; obtain ⟨t0, t1, t2, t3, t4, t5⟩ := HS.out w1 hb1)
      go_ret
      refine ⟨ret_bool ?_, over_alloc (over_alloc hb1)⟩
      unfold moveB
      rw [hd, hc, show (m.n == 0) = false by simpa using en]
      rfl
    · have en2 : (m.n == 0) = true := by simpa using en
      cases hq : isB s slots m.src
      · have HQ : Hid (moveB s slots m = false) := by show moveB s slots m = false; unfold moveB; rw [hd, hc, en2, hq]; rfl
        go_enter Tryz.func33, Tryz.ntmps33
        go_wp2_with fail
        go_at_call 32
        refine (is6 s slots m.dst _).mono ?_
        rintro e w1 ⟨rfl, hb1⟩
        rw [hd]
        obtain ⟨t0, t1, t2, t3, t4, t5⟩ := HS.out w1 hb1
        go_wp2_with fail
        go_at_call 32
        refine (is6 s slots m.src _).mono ?_
        rintro e w2 ⟨rfl, hb2⟩
        rw [hq]
        go_wp2
        go_ret
        exact ⟨ret_bool HQ.out.symm, step_below hb2 (over_alloc (over_alloc hb1))⟩
      · rcases (show (m.dst.kind == 3) = true ∨ ((m.dst.kind == 3) = false ∧ (m.src.kind == 3) = true) ∨ ((m.dst.kind == 3) = false ∧ (m.src.kind == 3) = false) by cases (m.dst.kind == 3) <;> cases (m.src.kind == 3) <;> simp) with e1 | ⟨e1, e2⟩ | ⟨e1, e2⟩
        all_goals
          have HQ : Hid (moveB s slots m = if m.dst.kind == 3 then m.src.kind != 3 else (m.src.kind == 3) || (m.src.kind == m.dst.kind)) := by show moveB s slots m = _; unfold moveB; rw [hd, hc, en2, hq]; rfl
          go_enter Tryz.func33, Tryz.ntmps33
          go_wp2_with fail
          go_at_call 32
          refine (is6 s slots m.dst _).mono ?_
          rintro e w1 ⟨rfl, hb1⟩
          rw [hd]
          obtain ⟨t0, t1, t2, t3, t4, t5⟩ := HS.out w1 hb1
          go_wp2_with fail
          go_at_call 32
          refine (is6 s slots m.src _).mono ?_
          rintro e w2 ⟨rfl, hb2⟩
          rw [hq]
          have v1 := step_cell hb2 t1
          have v2 := step_cell hb2 t2
          clear t0 t1 t2 t3 t4 t5
          go_wp2
          go_ret
          refine ⟨ret_bool ?_, step_below hb2 (over_alloc (over_alloc hb1))⟩
          rw [HQ.out, e1]
          first | rfl | (rw [e2]; rfl)

def MovesIs (w : World) (v : Value) (l : List LMove) : Prop :=
  ∃ ao cap, v = .slice ao l.length cap ∧ l.length ≤ 9223372036854775807 ∧ (0 < l.length → ∃ b o, ao = some ⟨b, o, none⟩ ∧ b < w.heap.size ∧ ∀ k, k < l.length → w.cell? ⟨b, o + k * 6, none⟩ = some (.int .i64 (l.getD k .zero).dst.kind) ∧ w.cell? ⟨b, o + k * 6 + 1, none⟩ = some (.int .i64 (l.getD k .zero).dst.n) ∧ w.cell? ⟨b, o + k * 6 + 2, none⟩ = some (.int .i64 (l.getD k .zero).src.kind) ∧ w.cell? ⟨b, o + k * 6 + 3, none⟩ = some (.int .i64 (l.getD k .zero).src.n) ∧ w.cell? ⟨b, o + k * 6 + 4, none⟩ = some (.bool (l.getD k .zero).cst) ∧ w.cell? ⟨b, o + k * 6 + 5, none⟩ = some (.int .u32 (l.getD k .zero).n))

theorem MovesIs.later {w w' : World} {v : Value} {l : List LMove} (h : MovesIs w v l) (hb : Below w.heap.size w w') : MovesIs w' v l := by
  obtain ⟨ao, cap, hv, hl, hc⟩ := h
  refine ⟨ao, cap, hv, hl, fun h0 => ?_⟩
  obtain ⟨b, o, e, hlt, hcell⟩ := hc h0
  refine ⟨b, o, e, Nat.lt_of_lt_of_le hlt hb.size, fun k hk => ?_⟩
  obtain ⟨c0, c1, c2, c3, c4, c5⟩ := hcell k hk
  exact ⟨step_cell hb c0, step_cell hb c1, step_cell hb c2, step_cell hb c3, step_cell hb c4, step_cell hb c5⟩

def movesB (s slots : Int) (l : List LMove) : Bool := decide (l.length ≤ 6) && l.all (moveB s slots)

set_option maxRecDepth 100000 in
set_option maxHeartbeats 1000000 in
theorem moves6 (s slots : Int) (v : Value) (l : List LMove) (w : World) (h : MovesIs w v l) : Calls Tryz.prog 17 #[targetV s, .int .i64 slots, v] w fun e w' => e = .returned (.bool (movesB s slots l)) ∧ Below w.heap.size w w' := by
  obtain ⟨ao, cap, rfl, hl, hc⟩ := h
  have HC : Hid _ := hc
  clear hc
  unfold targetV
  by_cases h6 : l.length ≤ 6
  case neg =>
    have hg : (6 : Int) < (l.length : Int) := by omega
    go_enter Tryz.func17, Tryz.ntmps17
    go_wp2
    go_ret
    exact ⟨ret_bool (by simp [movesB, h6]), (Below.refl _ _).alloc (Nat.le_refl _) _⟩
  have hg : (l.length : Int) ≤ 6 := by omega
  go_enter Tryz.func17, Tryz.ntmps17
  go_wp2
  go_loopw [7] (fun i wr => ∃ k : Nat, k ≤ l.length ∧ i = .int .i64 k ∧ Below w.heap.size w wr ∧ wr.cell? ⟨w.heap.size, 0, none⟩ = some (.int .i64 s) ∧ (∀ j, j < k → moveB s slots (l.getD j .zero) = true)) (fun i _ => l.length - (intOf i).toNat)
  case atStart => exact ⟨0, by omega, rfl, (Below.refl _ _).alloc (Nat.le_refl _) _, by simp [go_sem], fun j hj => absurd hj (by omega)⟩
  case round =>
    obtain ⟨k, hk, rfl, hbel, cp0, hall⟩ := hrel
    have F : Hid _ := hall
    clear hall
    by_cases hlt : k < l.length
    · obtain ⟨b, o, rfl, hbl, hcell⟩ := HC.out (by omega)
      obtain ⟨d0, d1, d2, d3, d4, d5⟩ := hcell k hlt
      have d0 := step_cell hbel d0
      have d1 := step_cell hbel d1
      have d2 := step_cell hbel d2
      have d3 := step_cell hbel d3
      have d4 := step_cell hbel d4
      have d5 := step_cell hbel d5
      obtain ⟨m, hi⟩ : ∃ m, m = l.getD k .zero := ⟨_, rfl⟩
      rw [← hi] at d0 d1 d2 d3 d4 d5
      have HI : Hid (m = l.getD k .zero) := hi
      clear hi hcell
      have y1 : (0 : Int) ≤ (k : Int) := by omega
      have y2 : (k : Int) < (l.length : Int) := by omega
      go_wp2
      go_region_held3 (fun w' => Below wr.heap.size wr w' ∧ w'.cell? ⟨w.heap.size, 0, none⟩ = some (.int .i64 s) ∧ w'.cell? ⟨b, o + k * 6, none⟩ = some (.int .i64 m.dst.kind) ∧ w'.cell? ⟨b, o + k * 6 + 1, none⟩ = some (.int .i64 m.dst.n) ∧ w'.cell? ⟨b, o + k * 6 + 2, none⟩ = some (.int .i64 m.src.kind) ∧ w'.cell? ⟨b, o + k * 6 + 3, none⟩ = some (.int .i64 m.src.n) ∧ w'.cell? ⟨b, o + k * 6 + 4, none⟩ = some (.bool m.cst) ∧ w'.cell? ⟨b, o + k * 6 + 5, none⟩ = some (.int .u32 m.n))
        ((go_split_ands; refine ⟨?_, ?_, ?_, ?_, ?_, ?_, ?_, ?_⟩ <;> first | exact (Below.refl _ _).drew | exact ((Below.refl _ _).drew).trans hb1 | exact step_cell hb1 (by assumption) | go_keep))
        ((go_at_call 33; refine (move6 s slots m _).mono ?_; rintro e w1 ⟨rfl, hb1⟩))
      rename_i hHeldx
      have hb2 : Below wr.heap.size wr w1 := hHeldx.1
      clear hHeldx hb1
      have R : Hid _ := (⟨step_below hb2 hbel, step_cell hb2 cp0⟩ : _ ∧ _)
      clear hb2 d0 d1 d2 d3 d4 d5 cp0
      go_wp2
      · go_ret
        refine ⟨ret_bool ?_, R.out.1⟩
        have hf : moveB s slots m = false := by simp_all
        unfold movesB
        rw [eq_comm, Bool.and_eq_false_iff]
        right
        rw [List.all_eq_false]
        refine ⟨m, ?_, by simp [hf]⟩
        rw [HI.out]
        simp [List.getD, hlt]
      · obtain ⟨r1, r2⟩ := R.out
        refine ⟨⟨k + 1, by omega, by go_num, r1, r2, ?_⟩, by simp [intOf]; omega⟩
        intro j hj
        by_cases hjk : j < k
        · exact F.out j hjk
        · obtain rfl : j = k := by omega
          rw [← HI.out]
          simp_all
    · go_wp2
      go_ret
      refine ⟨ret_bool ?_, hbel⟩
      unfold movesB
      rw [eq_comm, Bool.and_eq_true]
      refine ⟨by simp [h6], ?_⟩
      rw [List.all_eq_true]
      intro x hx
      obtain ⟨j, hj, rfl⟩ := List.getElem_of_mem hx
      have := F.out j (by omega)
      simpa [List.getD, hj] using this

def regB (B : List Bool) (s : Int) (t : Int) (p : LPlace) : Bool := (p.kind == if B.getD t.toNat false then 2 else 1) && isB s 0 p

set_option maxRecDepth 100000 in
set_option maxHeartbeats 1000000 in
theorem register6 (b0 o0 c0 b1 o1 c1 : Nat) (B : List Bool) (C : List LIns) (s t : Int) (p : LPlace) (w : World) (hB : B.length ≤ 12) (h : Held w b0 o0 b1 o1 B C) (ht0 : 0 ≤ t) (ht1 : t < B.length) :
    Calls Tryz.prog 16 #[progV b0 o0 B.length c0 b1 o1 C.length c1, targetV s, .int .i64 t, p.val] w fun e w' => e = .returned (.bool (regB B s t p)) ∧ Below w.heap.size w w' := by
  have hc := h.wide t.toNat (by omega)
  have hlt0 := h.lt0
  have hlt0b : b0 < w.heap.size + 1 := by omega
  have hlt0c : b0 < w.heap.size + 1 + 1 := by omega
  have HE : Hid (regB B s t p = ((p.kind == if B.getD t.toNat false then 2 else 1) && isB s 0 p)) := rfl
  obtain ⟨x, hx⟩ : ∃ x, x = B.getD t.toNat false := ⟨_, rfl⟩
  rw [← hx] at hc
  have HE2 : Hid (regB B s t p = ((p.kind == if x then 2 else 1) && isB s 0 p)) := by rw [hx]; exact HE.out
  clear hx HE
  unfold progV targetV LPlace.val
  cases x
  · rcases Bool.eq_false_or_eq_true (p.kind == 1) with e1 | e1
    all_goals
      go_enter Tryz.func16, Tryz.ntmps16
      go_wp2_with (go_at_call 32; refine (is6 s 0 p _).mono ?_; rintro e w1 ⟨rfl, hb1⟩)
      go_ret
    · exact ⟨ret_bool (by rw [HE2.out]; simp only [Bool.false_eq_true, if_false]; rw [e1]; try simp), over_alloc (over_alloc (over_alloc hb1))⟩
    · exact ⟨ret_bool (by rw [HE2.out]; simp only [Bool.false_eq_true, if_false]; rw [e1]; rfl), (((Below.refl _ _).alloc (Nat.le_refl _) _).alloc (by simp) _).alloc (by simp; omega) _⟩
  · rcases Bool.eq_false_or_eq_true (p.kind == 2) with e1 | e1
    all_goals
      go_enter Tryz.func16, Tryz.ntmps16
      go_wp2_with (go_at_call 32; refine (is6 s 0 p _).mono ?_; rintro e w1 ⟨rfl, hb1⟩)
      go_ret
    · exact ⟨ret_bool (by rw [HE2.out]; simp only [if_true]; rw [e1]; try simp), over_alloc (over_alloc (over_alloc hb1))⟩
    · exact ⟨ret_bool (by rw [HE2.out]; simp only [if_true]; rw [e1]; rfl), (((Below.refl _ _).alloc (Nat.le_refl _) _).alloc (by simp) _).alloc (by simp; omega) _⟩

end Go.Proofs.YtcmnmogmdhofcaaGreat.form

/- What the document's function on places (loanbookref6.May) answers. -/
namespace Go.Proofs.YtcmnmogmdhofcaaGreat.form
open Go.RowKit
set_option linter.unusedVariables false
attribute [local go_sem ↓] Go.wp_at_zero Go.wp_at_succ

structure LRow where
  dest : LPlace
  a : LPlace
  b : LPlace
  before : List LMove
  after : List LMove
def LRow.zero : LRow := ⟨.zero, .zero, .zero, [], []⟩

structure RowsHeld (w : World) (b2 o2 : Nat) (R : List LRow) : Prop where
  lt : b2 < w.heap.size
  rows : ∀ r, r < R.length → w.cell? ⟨b2, o2 + r * 8, none⟩ = some (.int .i64 (R.getD r .zero).dest.kind) ∧ w.cell? ⟨b2, o2 + r * 8 + 1, none⟩ = some (.int .i64 (R.getD r .zero).dest.n) ∧ w.cell? ⟨b2, o2 + r * 8 + 2, none⟩ = some (.int .i64 (R.getD r .zero).a.kind) ∧ w.cell? ⟨b2, o2 + r * 8 + 3, none⟩ = some (.int .i64 (R.getD r .zero).a.n) ∧ w.cell? ⟨b2, o2 + r * 8 + 4, none⟩ = some (.int .i64 (R.getD r .zero).b.kind) ∧ w.cell? ⟨b2, o2 + r * 8 + 5, none⟩ = some (.int .i64 (R.getD r .zero).b.n) ∧
    ∃ vb va, w.cell? ⟨b2, o2 + r * 8 + 6, none⟩ = some vb ∧ w.cell? ⟨b2, o2 + r * 8 + 7, none⟩ = some va ∧ MovesIs w vb (R.getD r .zero).before ∧ MovesIs w va (R.getD r .zero).after

theorem RowsHeld.later {w w' : World} {b2 o2 : Nat} {R : List LRow} (h : RowsHeld w b2 o2 R) (hb : Below w.heap.size w w') : RowsHeld w' b2 o2 R := by
  refine ⟨Nat.lt_of_lt_of_le h.lt hb.size, fun r hr => ?_⟩
  obtain ⟨c0, c1, c2, c3, c4, c5, vb, va, c6, c7, m0, m1⟩ := h.rows r hr
  exact ⟨step_cell hb c0, step_cell hb c1, step_cell hb c2, step_cell hb c3, step_cell hb c4, step_cell hb c5, vb, va, step_cell hb c6, step_cell hb c7, m0.later hb, m1.later hb⟩

def PlacedIs (w : World) (v : Value) (slots : Int) (R : List LRow) : Prop :=
  ∃ ao cap, v = .agg #[.int .i64 slots, .slice ao R.length cap] ∧ R.length ≤ 9223372036854775807 ∧ (0 < R.length → ∃ b2 o2, ao = some ⟨b2, o2, none⟩ ∧ RowsHeld w b2 o2 R)

theorem PlacedIs.later {w w' : World} {v : Value} {slots : Int} {R : List LRow} (h : PlacedIs w v slots R) (hb : Below w.heap.size w w') : PlacedIs w' v slots R := by
  obtain ⟨ao, cap, hv, hl, hc⟩ := h
  refine ⟨ao, cap, hv, hl, fun h0 => ?_⟩
  obtain ⟨b2, o2, e, hr⟩ := hc h0
  exact ⟨b2, o2, e, hr.later hb⟩

def fieldP (B : List Bool) (s : Int) (there : Bool) (t : Int) (p : LPlace) : Bool := if there then regB B s t p else !(p.kind != 0 || p.n != 0)
def rowB (B : List Bool) (s slots : Int) (i : LIns) (r : LRow) : Bool :=
  fieldP B s (givesB i.op) i.dest r.dest && fieldP B s (decide (0 < manyI i.op)) i.a r.a && fieldP B s (decide (1 < manyI i.op)) i.b r.b &&
  movesB s slots r.before && movesB s slots r.after && !((i.op == 8 || i.op == 9 || i.op == 10) && decide (0 < r.after.length))
def placeMayB (B : List Bool) (C : List LIns) (s slots : Int) (R : List LRow) : Bool :=
  refMayB B C && targetB s && !decide (slots < 0) && !decide (12 < slots) && decide (R.length = C.length) && (List.range C.length).all (fun k => rowB B s slots (C.getD k .zero) (R.getD k .zero))

set_option maxRecDepth 100000 in
set_option maxHeartbeats 1000000 in
theorem may6_no (pv lv : Value) (B : List Bool) (C : List LIns) (s slots : Int) (R : List LRow) (w : World) (hp : ProgIs w pv B C) (hl : PlacedIs w lv slots R)
    (hno : (refMayB B C && targetB s && !decide (slots < 0) && !decide (12 < slots) && decide (R.length = C.length)) = false) :
    Calls Tryz.prog 5 #[pv, targetV s, lv] w fun e w' => e = .returned (.bool false) ∧ Below w.heap.size w w' := by
  have h0 := hp
  obtain ⟨⟨a0, c0, a1, c1, rfl, -⟩, -, lC, -⟩ := h0
  have HP : Hid (ProgIs w (.agg #[.slice a0 B.length c0, .slice a1 C.length c1]) B C) := hp
  obtain ⟨ao, cap, rfl, lR, -⟩ := hl
  clear hp
  unfold targetV
  have HW : Hid (Below w.heap.size w (((w.alloc (.cells #[.slice a0 B.length c0, .slice a1 C.length c1] 25)).alloc (.cells #[.int .i64 s] 27)).alloc (.cells #[.int .i64 slots, .slice ao R.length cap] 30))) := (((Below.refl _ _).alloc (Nat.le_refl _) _).alloc (by simp) _).alloc (by simp; omega) _
  rcases (show refMayB B C = false ∨ (refMayB B C = true ∧ targetB s = false) ∨ (refMayB B C = true ∧ targetB s = true ∧ slots < 0) ∨ (refMayB B C = true ∧ targetB s = true ∧ ¬ slots < 0 ∧ 12 < slots) ∨ (refMayB B C = true ∧ targetB s = true ∧ ¬ slots < 0 ∧ ¬ 12 < slots ∧ ((R.length : Int) != (C.length : Int)) = true) by
    cases hm : refMayB B C
    · exact Or.inl rfl
    · cases ht : targetB s
      · exact Or.inr (Or.inl ⟨rfl, rfl⟩)
      · rw [hm, ht] at hno
        simp at hno
        by_cases x1 : slots < 0
        · exact Or.inr (Or.inr (Or.inl ⟨rfl, rfl, x1⟩))
        · by_cases x2 : 12 < slots
          · exact Or.inr (Or.inr (Or.inr (Or.inl ⟨rfl, rfl, x1, x2⟩)))
          · refine Or.inr (Or.inr (Or.inr (Or.inr ⟨rfl, rfl, x1, x2, ?_⟩)))
            have := hno (by omega) (by omega)
            simp; omega) with e1 | ⟨e1, e2⟩ | ⟨e1, e2, e3⟩ | ⟨e1, e2, e3, e4⟩ | ⟨e1, e2, e3, e4, e5⟩
  case inl =>
    clear hno
    go_enter Tryz.func5, Tryz.ntmps5
    go_wp2_with (go_at_call 12; refine (refMay _ B C _ (HP.out.later HW.out)).mono ?_; rintro e w1 ⟨rfl, hb1⟩; rw [e1])
    go_ret
    exact ⟨rfl, step_below hb1 HW.out⟩
  all_goals
    clear hno
    go_enter Tryz.func5, Tryz.ntmps5
    go_wp2_with (first | (go_at_call 12; refine (refMay _ B C _ (HP.out.later HW.out)).mono ?_; rintro e w1 ⟨rfl, hb1⟩; rw [e1]; have t0 : w1.cell? ⟨w.heap.size + 1, 0, none⟩ = some (.int .i64 s) := step_cell hb1 (by simp [go_sem]); have t1 : w1.cell? ⟨w.heap.size + 1 + 1, 0, none⟩ = some (.int .i64 slots) := step_cell hb1 (by simp [go_sem]); have t2 : w1.cell? ⟨w.heap.size + 1 + 1, 1, none⟩ = some (.slice ao R.length cap) := step_cell hb1 (by simp [go_sem]); have t3 : w1.cell? ⟨w.heap.size, 1, none⟩ = some (.slice a1 C.length c1) := step_cell hb1 (by simp [go_sem])) | (go_at_call 13; refine (target s _).mono ?_; rintro e w2 ⟨rfl, hb2⟩; rw [e2]; have t1' := step_cell hb2 t1; have t2' := step_cell hb2 t2; have t3' := step_cell hb2 t3))
    go_ret
    exact ⟨rfl, step_below hb2 (step_below hb1 HW.out)⟩

end Go.Proofs.YtcmnmogmdhofcaaGreat.form

/- Plain facts on numbers of 32 and 64 bits: what each operation comes to, and the document's bit-by-bit reckoning; no program in sight. -/
namespace Go.Proofs.YtcmnmogmdhofcaaGreat.num
theorem and_low (x y : Nat) : (x &&& y) % 4294967296 = (x % 4294967296) &&& (y % 4294967296) := Nat.and_mod_two_pow (n := 32)
end Go.Proofs.YtcmnmogmdhofcaaGreat.num

/- Programs that run, on plain numbers: a machine, a step, so many steps; rows of cells in memory. -/
namespace Go.Proofs.YtcmnmogmdhofcaaGreat.form
open Go.RowKit Go.Proofs.YtcmnmogmdhofcaaGreat.num
def Row (w : World) (b : Nat) (t : TypeId) (cs : List Value) : Prop := w.heap[b]? = some (.cells cs.toArray t (0, 0))

theorem Row.lt {w : World} {b : Nat} {t : TypeId} {cs : List Value} (h : Row w b t cs) : b < w.heap.size := lt_of_block h
theorem Row.cell {w : World} {b : Nat} {t : TypeId} {cs : List Value} (h : Row w b t cs) (j : Nat) : w.cell? ⟨b, j, none⟩ = cs[j]? := by
  rw [cell_of_row w b j _ t (0, 0) h]; simp
theorem Row.frozen {w : World} {b : Nat} {t : TypeId} {cs : List Value} (h : Row w b t cs) (j : Nat) : w.frozen? ⟨b, j, none⟩ = false := by
  unfold Row at h; simp [World.frozen?, h]
theorem Row.set {w : World} {b : Nat} {t : TypeId} {cs : List Value} (h : Row w b t cs) (j : Nat) (v : Value) : Row (w.setCell ⟨b, j, none⟩ v) b t (cs.set j v) := by
  unfold Row at *
  rw [heap_setCell_same w b j _ t v h]; simp
theorem Row.other {w : World} {b : Nat} {t : TypeId} {cs : List Value} (h : Row w b t cs) {a : Addr} (ha : b ≠ a.block) (v : Value) : Row (w.setCell a v) b t cs := by
  unfold Row at *
  rw [heap_setCell_other w a b v ha]; exact h
theorem Row.below {w w' : World} {b : Nat} {t : TypeId} {cs : List Value} (h : Row w b t cs) (hb : Below w.heap.size w w') : Row w' b t cs := by
  have := h.lt
  unfold Row at *
  rw [hb.block b this]; exact h
theorem Row.alloc {w : World} {b : Nat} {t : TypeId} {cs : List Value} (h : Row w b t cs) (o : Obj) : Row (w.alloc o) b t cs := h.below ((Below.refl _ _).alloc (Nat.le_refl _) _)
theorem Row.drew {w : World} {b : Nat} {t : TypeId} {cs : List Value} (h : Row w b t cs) : Row w.drew b t cs := h
theorem Row.grown {w w' : World} {b : Nat} {t : TypeId} {cs : List Value} {row : Option Nat} (h : Row w b t cs) (hg : w.grownBy w' row) (hne : some b ≠ row) : Row w' b t cs := by
  have := h.lt
  unfold Row at *
  rw [hg.block b this hne]; exact h
theorem Row.new (w : World) (t : TypeId) (cs : List Value) : Row (w.alloc (.cells cs.toArray t)) w.heap.size t cs := heap_alloc_new w _

theorem cell_other {wr : World} {p q : Addr} {u u' : Value} (h : wr.cell? p = some u) (hne : p.block ≠ q.block) : (wr.setCell q u').cell? p = some u := by
  rw [World.cell?_of_block (Below.heap_setCell _ _ _ _ hne)]; exact h

end Go.Proofs.YtcmnmogmdhofcaaGreat.form
