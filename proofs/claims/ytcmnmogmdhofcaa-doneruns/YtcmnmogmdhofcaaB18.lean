/- Places held against each other (== on structs). -/
import Derived.Test.YtcmnmogmdhofcaaProg
import Derived.Laws.StructEq
import Derived.WalkKit
import Derived.BigQuiet
import Derived.Deep.QuietTactic
import Derived.Test.YtcmnmogmdhofcaaB06

namespace Go.Proofs.Ytcmnmogmdhofcaa.form
open Go.RowKit
set_option linter.unusedVariables false

theorem eqPlace (w : World) (a b c d : Int) : (binOp .eql 57 (.agg #[.int .i64 a, .int .i64 b]) (.agg #[.int .i64 c, .int .i64 d])).run Try.prog w = .ok (.bool ((a == c) && (b == d))) w := by
  have hu := Try.underlying57
  have h3 : Try.prog.underlying 3 = some (.int .i64) := Try.underlying3
  rw [run_eql_struct, run_equalIn_agg w 9999 57 _ _ (by kernel_rfl) (by kernel_rfl)]
  simp [go_sem, Program.fieldsOf, hu]
  by_cases e1 : a = c <;> by_cases e2 : b = d <;> simp [e1, e2]

theorem neqPlace (w : World) (a b c d : Int) : (binOp .neq 57 (.agg #[.int .i64 a, .int .i64 b]) (.agg #[.int .i64 c, .int .i64 d])).run Try.prog w = .ok (.bool (!((a == c) && (b == d)))) w := by
  have hu := Try.underlying57
  have h3 : Try.prog.underlying 3 = some (.int .i64) := Try.underlying3
  rw [run_neq_struct, run_equalIn_agg w 9999 57 _ _ (by kernel_rfl) (by kernel_rfl)]
  simp [go_sem, Program.fieldsOf, hu]
  by_cases e1 : a = c <;> by_cases e2 : b = d <;> simp [e1, e2]

end Go.Proofs.Ytcmnmogmdhofcaa.form

/- What the program's own small functions on places answer. -/
namespace Go.Proofs.Ytcmnmogmdhofcaa.form
open Go.RowKit
set_option linter.unusedVariables false
attribute [local go_sem ↓] Go.wp_at_zero Go.wp_at_succ

def singB (d s : LPlace) : Bool := (d.kind == 2) && (s.kind == 1) && (s.n / 2 == d.n)

set_option maxRecDepth 100000 in
set_option maxHeartbeats 1000000 in
theorem hasSingle (d s : LPlace) (w : World) : Calls Try.prog 62 #[d.val, s.val] w fun e w' => e = .returned (.bool (singB d s)) ∧ Below w.heap.size w w' := by
  unfold LPlace.val
  have HB : Hid (∀ o1 o2 : Obj, Below w.heap.size w ((w.alloc o1).alloc o2)) := fun o1 o2 => ((Below.refl _ _).alloc (Nat.le_refl _) _).alloc (by simp) _
  rcases Bool.eq_false_or_eq_true (d.kind == 2) with e1 | e1 <;> rcases Bool.eq_false_or_eq_true (s.kind == 1) with e2 | e2
  all_goals
    go_enter Try.func62, Try.ntmps62
    go_wp2
    go_ret
    refine ⟨ret_bool ?_, HB.out _ _⟩
    unfold singB
    rw [e1, e2]
    simp

def roomV (a b c : Int) : Value := .agg #[.int .i64 0, .int .i64 a, .int .i64 b, .int .i64 c]
def hasB (a b c : Int) (p : LPlace) : Bool :=
  if p.kind = 1 then decide (0 ≤ p.n) && decide (p.n < a) else if p.kind = 2 then decide (0 ≤ p.n) && decide (p.n < b) else if p.kind = 3 then decide (0 ≤ p.n) && decide (p.n < c) else false

set_option maxRecDepth 100000 in
set_option maxHeartbeats 1000000 in
theorem roomHas (a b c : Int) (p : LPlace) (w : World) : Calls Try.prog 125 #[roomV a b c, p.val] w fun e w' => e = .returned (.bool (hasB a b c p)) ∧ Below w.heap.size w w' := by
  unfold roomV LPlace.val
  have HB : Hid (∀ o1 o2 : Obj, Below w.heap.size w ((w.alloc o1).alloc o2)) := fun o1 o2 => ((Below.refl _ _).alloc (Nat.le_refl _) _).alloc (by simp) _
  rcases (show p.kind < 0 ∨ (p.kind = 0 ∨ p.kind = 1 ∨ p.kind = 2 ∨ p.kind = 3) ∨ 4 ≤ p.kind by omega) with hk | hk | hk
  · have d1 : decide ((0 : Int) ≤ p.kind) = false := by simp; omega
    have HE : Hid (hasB a b c p = false) := by show hasB a b c p = false; unfold hasB; rw [if_neg (by omega), if_neg (by omega), if_neg (by omega)]
    clear hk
    go_enter Try.func125, Try.ntmps125
    go_wp2
    go_quiet (fail)
    go_wp2
    go_ret
    exact ⟨ret_bool HE.out.symm, below_drewN (HB.out _ _) _⟩
  · by_cases hn : 0 ≤ p.n
    · have d3 : decide ((0 : Int) ≤ p.n) = true := by simp [hn]
      rcases hk with hk | hk | hk | hk
      all_goals
        have HE : Hid (hasB a b c p = decide (p.n < (if p.kind = 0 then 0 else if p.kind = 1 then a else if p.kind = 2 then b else c))) := by show hasB a b c p = _; unfold hasB; rw [hk]; simp; try omega
        rw [hk]
        rw [hk] at HE
        clear hk hn
        go_enter Try.func125, Try.ntmps125
        go_wp2
        go_quiet (fail)
        go_wp2
        go_ret
        exact ⟨ret_bool (by rw [HE.out]; simp), below_drewN (HB.out _ _) _⟩
    · have d3 : decide ((0 : Int) ≤ p.n) = false := by simp; omega
      have d1 : decide ((0 : Int) ≤ p.kind) = true := by simp; omega
      have d2 : decide (p.kind < (4 : Int)) = true := by simp; omega
      have HE : Hid (hasB a b c p = false) := by show hasB a b c p = false; unfold hasB; rcases hk with hk | hk | hk | hk <;> rw [hk] <;> simp <;> omega
      clear hk hn
      go_enter Try.func125, Try.ntmps125
      go_wp2
      go_quiet (fail)
      go_wp2
      go_ret
      exact ⟨ret_bool HE.out.symm, below_drewN (HB.out _ _) _⟩
  · have d1 : decide ((0 : Int) ≤ p.kind) = true := by simp; omega
    have d2 : decide (p.kind < (4 : Int)) = false := by simp; omega
    have HE : Hid (hasB a b c p = false) := by show hasB a b c p = false; unfold hasB; rw [if_neg (by omega), if_neg (by omega), if_neg (by omega)]
    clear hk
    go_enter Try.func125, Try.ntmps125
    go_wp2
    go_quiet (fail)
    go_wp2
    go_ret
    exact ⟨ret_bool HE.out.symm, below_drewN (HB.out _ _) _⟩

def overO (a b : LPlace) : Bool := ((a.kind == b.kind) && (a.n == b.n)) || singB a b || singB b a

set_option maxRecDepth 100000 in
set_option maxHeartbeats 1000000 in
theorem overlapO (a b : LPlace) (w : World) : Calls Try.prog 30 #[a.val, b.val] w fun e w' => e = .returned (.bool (overO a b)) ∧ Below w.heap.size w w' := by
  unfold LPlace.val
  have HB : Hid (∀ o1 o2 : Obj, Below w.heap.size w ((w.alloc o1).alloc o2)) := fun o1 o2 => ((Below.refl _ _).alloc (Nat.le_refl _) _).alloc (by simp) _
  have q57 := eqPlace
  obtain ⟨x, hx⟩ : ∃ x, x = ((a.kind == b.kind) && (a.n == b.n)) := ⟨_, rfl⟩
  obtain ⟨y, hy⟩ : ∃ y, y = singB a b := ⟨_, rfl⟩
  have HO : Hid (overO a b = (x || y || singB b a)) := by show overO a b = _; unfold overO; rw [hx, hy]
  have HY : Hid (singB a b = y) := hy.symm
  have hx2 : ((a.kind == b.kind) && (a.n == b.n)) = x := hx.symm
  clear hx hy
  cases x
  · cases y
    · go_enter Try.func30, Try.ntmps30
      go_wp2_with fail
      go_at_call 62
      refine (hasSingle a b _).mono ?_
      rw [HY.out]
      rintro e w1 ⟨rfl, hb1⟩
      have c0 : w1.cell? ⟨w.heap.size, 0, none⟩ = some (.int .i64 a.kind) := step_cell hb1 (by simp [go_sem])
      have c1 : w1.cell? ⟨w.heap.size, 1, none⟩ = some (.int .i64 a.n) := step_cell hb1 (by simp [go_sem])
      have c2 : w1.cell? ⟨w.heap.size + 1, 0, none⟩ = some (.int .i64 b.kind) := step_cell hb1 (by simp [go_sem])
      have c3 : w1.cell? ⟨w.heap.size + 1, 1, none⟩ = some (.int .i64 b.n) := step_cell hb1 (by simp [go_sem])
      have HB1 : Hid (Below w.heap.size w w1) := over_alloc (over_alloc hb1)
      clear hb1
      go_wp2_with (go_at_call 62; refine (hasSingle b a _).mono ?_; rintro e w2 ⟨rfl, hb2⟩)
      go_ret
      exact ⟨ret_bool (by rw [HO.out]; rfl), step_below hb2 HB1.out⟩
    · go_enter Try.func30, Try.ntmps30
      go_wp2_with (go_at_call 62; refine (hasSingle a b _).mono ?_; rw [HY.out]; rintro e w1 ⟨rfl, hb1⟩)
      go_ret
      exact ⟨ret_bool (by rw [HO.out]; rfl), over_alloc (over_alloc hb1)⟩
  · go_enter Try.func30, Try.ntmps30
    go_wp2
    go_ret
    exact ⟨ret_bool (by rw [HO.out]; rfl), HB.out _ _⟩

end Go.Proofs.Ytcmnmogmdhofcaa.form

/- What the program's own functions on moves and targets answer: holds, isEmpty, kindsMay, moveMay, movesMay, mostAfter, targetMay, roomOf. -/
namespace Go.Proofs.Ytcmnmogmdhofcaa.form
open Go.RowKit
set_option linter.unusedVariables false
attribute [local go_sem ↓] Go.wp_at_zero Go.wp_at_succ

def emptyB (p : LPlace) : Bool := (p.kind == 0) && (p.n == 0)

set_option maxRecDepth 100000 in
theorem isEmpty (p : LPlace) (w : World) : Calls Try.prog 122 #[p.val] w fun e w' => e = .returned (.bool (emptyB p)) ∧ Below w.heap.size w w' := by
  unfold LPlace.val
  have HB : Hid (∀ o1 : Obj, Below w.heap.size w (w.alloc o1)) := fun o1 => (Below.refl _ _).alloc (Nat.le_refl _) _
  have q57 := eqPlace
  go_enter Try.func122, Try.ntmps122
  go_wp2
  go_ret
  exact ⟨ret_bool rfl, HB.out _⟩

def kindsB (a b : Int) : Bool := if a = b then a != 3 else (a == 3) || (b == 3)
theorem kindsMay (a b : Int) (w : World) : Calls Try.prog 126 #[.int .i64 a, .int .i64 b] w fun e w' => e = .returned (.bool (kindsB a b)) ∧ w' = w := by
  by_cases h : a = b
  · have e1 : (a == b) = true := by simp [h]
    have HE : Hid (kindsB a b = (a != 3)) := by show kindsB a b = _; unfold kindsB; rw [if_pos h]
    clear h
    go_enter Try.func126, Try.ntmps126
    go_wp2
    go_ret
    exact ⟨ret_bool (by rw [HE.out]; try rfl), rfl⟩
  · have e1 : (a == b) = false := by simp [h]
    have HE : Hid (kindsB a b = ((a == 3) || (b == 3))) := by show kindsB a b = _; unfold kindsB; rw [if_neg h]
    clear h
    rcases Bool.eq_false_or_eq_true (a == 3) with e2 | e2
    all_goals
      go_enter Try.func126, Try.ntmps126
      go_wp2
      go_ret
      exact ⟨ret_bool (by rw [HE.out, e2]; simp), rfl⟩

def holdB (a b c : Int) (p : LPlace) (wide : Bool) : Bool := (p.kind == if wide then 2 else 1) && hasB a b c p
set_option maxRecDepth 100000 in
set_option maxHeartbeats 1000000 in
theorem holds (a b c : Int) (p : LPlace) (wide : Bool) (w : World) : Calls Try.prog 121 #[roomV a b c, p.val, .bool wide] w fun e w' => e = .returned (.bool (holdB a b c p wide)) ∧ Below w.heap.size w w' := by
  unfold roomV LPlace.val
  have HB : Hid (∀ o1 o2 : Obj, Below w.heap.size w ((w.alloc o1).alloc o2)) := fun o1 o2 => ((Below.refl _ _).alloc (Nat.le_refl _) _).alloc (by simp) _
  cases wide
  · have HE : Hid (holdB a b c p false = ((p.kind == 1) && hasB a b c p)) := rfl
    rcases Bool.eq_false_or_eq_true (p.kind == 1) with e1 | e1
    all_goals
      go_enter Try.func121, Try.ntmps121
      go_wp2_with (go_at_call 125; refine (roomHas a b c p _).mono ?_; rintro e w1 ⟨rfl, hb1⟩)
      go_ret
    · exact ⟨ret_bool (by rw [HE.out, e1]; rfl), over_alloc (over_alloc hb1)⟩
    · exact ⟨ret_bool (by rw [HE.out, e1]; rfl), HB.out _ _⟩
  · have HE : Hid (holdB a b c p true = ((p.kind == 2) && hasB a b c p)) := rfl
    rcases Bool.eq_false_or_eq_true (p.kind == 2) with e1 | e1
    all_goals
      go_enter Try.func121, Try.ntmps121
      go_wp2_with (go_at_call 125; refine (roomHas a b c p _).mono ?_; rintro e w1 ⟨rfl, hb1⟩)
      go_ret
    · exact ⟨ret_bool (by rw [HE.out, e1]; rfl), over_alloc (over_alloc hb1)⟩
    · exact ⟨ret_bool (by rw [HE.out, e1]; rfl), HB.out _ _⟩

def mostI (op : Int) : Int := if op = 8 ∨ op = 9 ∨ op = 10 then 0 else 6
theorem mostAfter (op : Int) (w : World) : Calls Try.prog 98 #[.int .i64 op] w fun e w' => e = .returned (.int .i64 (mostI op)) ∧ w' = w := by
  go_enter Try.func98, Try.ntmps98
  go_wp2
  all_goals
    go_ret
    refine ⟨?_, rfl⟩
    unfold mostI
    simp_all

set_option maxRecDepth 100000 in
theorem targetMay (s : Int) (w : World) : Calls Try.prog 58 #[targetV s] w fun e w' => e = .returned (.bool (targetB s)) ∧ Below w.heap.size w w' := by
  unfold targetV
  have HB : Hid (∀ o1 : Obj, Below w.heap.size w (w.alloc o1)) := fun o1 => (Below.refl _ _).alloc (Nat.le_refl _) _
  rcases (show ¬ 4 ≤ s ∨ (4 ≤ s ∧ ¬ s ≤ 16) ∨ (4 ≤ s ∧ s ≤ 16) by omega) with h | ⟨h, h1⟩ | ⟨h, h1⟩
  · have HE : Hid (targetB s = false) := by show targetB s = false; unfold targetB; simp; omega
    go_enter Try.func58, Try.ntmps58
    go_wp2
    go_ret
    exact ⟨ret_bool HE.out.symm, HB.out _⟩
  · have HE : Hid (targetB s = false) := by show targetB s = false; unfold targetB; simp; omega
    go_enter Try.func58, Try.ntmps58
    go_wp2
    go_ret
    exact ⟨ret_bool HE.out.symm, HB.out _⟩
  · have HE : Hid (targetB s = (s % 2 == 0)) := by show targetB s = _; unfold targetB; rw [Bool.eq_iff_iff]; simp; omega
    go_enter Try.func58, Try.ntmps58
    go_wp2
    go_ret
    exact ⟨ret_bool (by rw [HE.out]; try rfl), HB.out _⟩

set_option maxRecDepth 100000 in
theorem roomOf (s slots : Int) (h0 : 4 ≤ s) (h1 : s ≤ 16) (w : World) : Calls Try.prog 60 #[targetV s, .int .i64 slots] w fun e w' => e = .returned (roomV s (s / 2) slots) ∧ Below w.heap.size w w' := by
  unfold targetV
  have HB : Hid (∀ o1 o2 : Obj, Below w.heap.size w ((w.alloc o1).alloc o2)) := fun o1 o2 => ((Below.refl _ _).alloc (Nat.le_refl _) _).alloc (by simp) _
  go_enter Try.func60, Try.ntmps60
  go_wp2
  refine bodyPost_ret (v := roomV s (s / 2) slots) ?_ rfl ⟨rfl, HB.out _ _⟩
  simp [results, Try.results60, go_sem, roomV]

def moveO (a b c : Int) (m : LMove) : Bool := if m.cst then emptyB m.src && holdB a b c m.dst false else (m.n == 0) && hasB a b c m.dst && hasB a b c m.src && kindsB m.dst.kind m.src.kind

set_option maxRecDepth 100000 in
set_option maxHeartbeats 1000000 in
theorem moveMay (a b c : Int) (m : LMove) (w : World) : Calls Try.prog 123 #[roomV a b c, m.val] w fun e w' => e = .returned (.bool (moveO a b c m)) ∧ Below w.heap.size w w' := by
  unfold roomV LMove.val
  have HB : Hid (∀ o1 o2 : Obj, Below w.heap.size w ((w.alloc o1).alloc o2)) := fun o1 o2 => ((Below.refl _ _).alloc (Nat.le_refl _) _).alloc (by simp) _
  obtain ⟨k, hk⟩ : ∃ k, k = m.cst := ⟨_, rfl⟩
  rw [← hk]
  have HK : Hid (m.cst = k) := hk.symm
  clear hk
  have step : ∀ (w1 : World), Below ((w.alloc (.cells #[.int .i64 0, .int .i64 a, .int .i64 b, .int .i64 c] 99)).alloc (.cells #[.int .i64 m.dst.kind, .int .i64 m.dst.n, .int .i64 m.src.kind, .int .i64 m.src.n, .bool k, .int .u32 m.n] 143)).heap.size ((w.alloc (.cells #[.int .i64 0, .int .i64 a, .int .i64 b, .int .i64 c] 99)).alloc (.cells #[.int .i64 m.dst.kind, .int .i64 m.dst.n, .int .i64 m.src.kind, .int .i64 m.src.n, .bool k, .int .u32 m.n] 143)) w1 →
      Below w.heap.size w w1 ∧ w1.cell? ⟨w.heap.size, 0, none⟩ = some (.int .i64 0) ∧ w1.cell? ⟨w.heap.size, 1, none⟩ = some (.int .i64 a) ∧ w1.cell? ⟨w.heap.size, 2, none⟩ = some (.int .i64 b) ∧ w1.cell? ⟨w.heap.size, 3, none⟩ = some (.int .i64 c) ∧ w1.cell? ⟨w.heap.size + 1, 0, none⟩ = some (.int .i64 m.dst.kind) ∧ w1.cell? ⟨w.heap.size + 1, 1, none⟩ = some (.int .i64 m.dst.n) ∧ w1.cell? ⟨w.heap.size + 1, 2, none⟩ = some (.int .i64 m.src.kind) ∧ w1.cell? ⟨w.heap.size + 1, 3, none⟩ = some (.int .i64 m.src.n) := by
    intro w1 hb1
    exact ⟨over_alloc (over_alloc hb1), step_cell hb1 (by simp [go_sem]), step_cell hb1 (by simp [go_sem]), step_cell hb1 (by simp [go_sem]), step_cell hb1 (by simp [go_sem]), step_cell hb1 (by simp [go_sem]), step_cell hb1 (by simp [go_sem]), step_cell hb1 (by simp [go_sem]), step_cell hb1 (by simp [go_sem])⟩
  have HS : Hid _ := step
  clear step
  cases k
  · have HE : Hid (moveO a b c m = ((m.n == 0) && hasB a b c m.dst && hasB a b c m.src && kindsB m.dst.kind m.src.kind)) := by show moveO a b c m = _; unfold moveO; rw [HK.out]; rfl
    rcases Bool.eq_false_or_eq_true (m.n == 0) with e1 | e1
    · cases hd : hasB a b c m.dst
      · have HE2 : Hid (moveO a b c m = false) := by show moveO a b c m = _; rw [HE.out, hd]; simp
        go_enter Try.func123, Try.ntmps123
        go_wp2_with (go_at_call 125; refine (roomHas a b c m.dst _).mono ?_; rw [hd]; rintro e w1 ⟨rfl, hb1⟩)
        go_ret
        exact ⟨ret_bool HE2.out.symm, over_alloc (over_alloc hb1)⟩
      · cases hq : hasB a b c m.src
        · have HE2 : Hid (moveO a b c m = false) := by show moveO a b c m = _; rw [HE.out, hq]; simp
          go_enter Try.func123, Try.ntmps123
          go_wp2_with fail
          go_at_call 125
          refine (roomHas a b c m.dst _).mono ?_
          rw [hd]
          rintro e w1 ⟨rfl, hb1⟩
          obtain ⟨hbel, r0, r1, r2, r3, t0, t1, t2, t3⟩ := HS.out w1 hb1
          clear hb1
          go_wp2_with (go_at_call 125; refine (roomHas a b c m.src _).mono ?_; rw [hq]; rintro e w2 ⟨rfl, hb2⟩)
          go_ret
          exact ⟨ret_bool HE2.out.symm, step_below hb2 hbel⟩
        · have HE2 : Hid (moveO a b c m = kindsB m.dst.kind m.src.kind) := by show moveO a b c m = _; rw [HE.out, hq, hd, e1]; simp
          go_enter Try.func123, Try.ntmps123
          go_wp2_with fail
          go_at_call 125
          refine (roomHas a b c m.dst _).mono ?_
          rw [hd]
          rintro e w1 ⟨rfl, hb1⟩
          obtain ⟨hbel, r0, r1, r2, r3, t0, t1, t2, t3⟩ := HS.out w1 hb1
          clear hb1
          go_wp2_with (first | (go_at_call 125; refine (roomHas a b c m.src _).mono ?_; rw [hq]; rintro e w2 ⟨rfl, hb2⟩; have v0 := step_cell hb2 t0; have v2 := step_cell hb2 t2) | (go_at_call 126; refine (kindsMay _ _ _).mono ?_; rintro e w3 ⟨rfl, hw3⟩; obtain rfl := hw3.symm))
          go_ret
          exact ⟨ret_bool HE2.out.symm, step_below hb2 hbel⟩
    · have HE2 : Hid (moveO a b c m = false) := by show moveO a b c m = _; rw [HE.out, e1]; rfl
      go_enter Try.func123, Try.ntmps123
      go_wp2
      go_ret
      exact ⟨ret_bool HE2.out.symm, HB.out _ _⟩
  · have HE : Hid (moveO a b c m = (emptyB m.src && holdB a b c m.dst false)) := by show moveO a b c m = _; unfold moveO; rw [HK.out]; rfl
    cases he : emptyB m.src
    · have HE2 : Hid (moveO a b c m = false) := by show moveO a b c m = _; rw [HE.out, he]; rfl
      go_enter Try.func123, Try.ntmps123
      go_wp2_with (go_at_call 122; refine (isEmpty m.src _).mono ?_; rw [he]; rintro e w1 ⟨rfl, hb1⟩)
      go_ret
      exact ⟨ret_bool HE2.out.symm, over_alloc (over_alloc hb1)⟩
    · have HE2 : Hid (moveO a b c m = holdB a b c m.dst false) := by show moveO a b c m = _; rw [HE.out, he]; rfl
      go_enter Try.func123, Try.ntmps123
      go_wp2_with (first | (go_at_call 122; refine (isEmpty m.src _).mono ?_; rw [he]; rintro e w1 ⟨rfl, hb1⟩; obtain ⟨hbel, r0, r1, r2, r3, t0, t1, t2, t3⟩ := HS.out w1 hb1; clear hb1) | (go_at_call 121; refine (holds a b c m.dst false _).mono ?_; rintro e w2 ⟨rfl, hb2⟩))
      go_ret
      exact ⟨ret_bool HE2.out.symm, step_below hb2 hbel⟩

def movesO (a b c : Int) (l : List LMove) (most : Int) : Bool := decide ((l.length : Int) ≤ most) && l.all (moveO a b c)

set_option maxRecDepth 100000 in
set_option maxHeartbeats 1000000 in
theorem movesMay (a b c : Int) (v : Value) (l : List LMove) (most : Int) (hm : most ≤ 6) (w : World) (h : MovesIs w v l) : Calls Try.prog 97 #[roomV a b c, v, .int .i64 most] w fun e w' => e = .returned (.bool (movesO a b c l most)) ∧ Below w.heap.size w w' := by
  obtain ⟨ao, cap, rfl, hl, hc⟩ := h
  have HC : Hid _ := hc
  clear hc
  unfold roomV
  by_cases h6 : (l.length : Int) ≤ most
  case neg =>
    have HN : Hid (movesO a b c l most = false) := by show movesO a b c l most = false; simp [movesO, h6]
    go_enter Try.func97, Try.ntmps97
    go_wp2
    go_ret
    exact ⟨ret_bool HN.out.symm, (Below.refl _ _).alloc (Nat.le_refl _) _⟩
  have hg : (l.length : Int) ≤ 6 := by omega
  go_enter Try.func97, Try.ntmps97
  go_wp2
  go_loopw [15] (fun i wr => ∃ k : Nat, k ≤ l.length ∧ i = .int .i64 k ∧ Below w.heap.size w wr ∧ w.heap.size < wr.heap.size ∧ wr.cell? ⟨w.heap.size, 0, none⟩ = some (.int .i64 0) ∧ wr.cell? ⟨w.heap.size, 1, none⟩ = some (.int .i64 a) ∧ wr.cell? ⟨w.heap.size, 2, none⟩ = some (.int .i64 b) ∧ wr.cell? ⟨w.heap.size, 3, none⟩ = some (.int .i64 c) ∧ (∀ j, j < k → moveO a b c (l.getD j .zero) = true)) (fun i _ => l.length - (intOf i).toNat)
  case atStart => exact ⟨0, by omega, rfl, (Below.refl _ _).alloc (Nat.le_refl _) _, by simp, by simp [go_sem], by simp [go_sem], by simp [go_sem], by simp [go_sem], fun j hj => absurd hj (by omega)⟩
  case round =>
    obtain ⟨k, hk, rfl, hbel, hsz, r0, r1, r2, r3, hall⟩ := hrel
    have F : Hid _ := hall
    clear hall
    by_cases hlt : k < l.length
    · obtain ⟨b9, o, rfl, hbl, hcell⟩ := HC.out (by omega)
      obtain ⟨d0, d1, d2, d3, d4, d5⟩ := hcell k hlt
      have d0 := step_cell hbel d0
      have d1 := step_cell hbel d1
      have d2 := step_cell hbel d2
      have d3 := step_cell hbel d3
      have d4 := step_cell hbel d4
      have d5 := step_cell hbel d5
      obtain ⟨m, hi⟩ : ∃ m, m = l.getD k .zero := ⟨_, rfl⟩
      rw [← hi] at d0 d1 d2 d3 d4 d5
      have HI : Hid (m = l.getD k .zero) := hi
      clear hi hcell
      have y1 : (0 : Int) ≤ (k : Int) := by omega
      have y2 : (k : Int) < (l.length : Int) := by omega
      have hbl2 : b9 < wr.heap.size := by have := hbel.size; omega
      go_wp2_with (go_at_call 123; refine (moveMay a b c m _).mono ?_; rintro e w1 ⟨rfl, hb1⟩)
      all_goals
        have hb2 := over_alloc hb1
        have hbel1 := step_below hb2 hbel
      · go_ret
        refine ⟨ret_bool ?_, hbel1⟩
        have hf : moveO a b c m = false := by simp_all
        unfold movesO
        rw [eq_comm, Bool.and_eq_false_iff]
        right
        rw [List.all_eq_false]
        refine ⟨m, ?_, by simp [hf]⟩
        rw [HI.out]
        simp [List.getD, hlt]
      · refine ⟨⟨k + 1, by omega, by go_num, hbel1, Nat.lt_of_lt_of_le hsz hb2.size, step_cell hb2 r0, step_cell hb2 r1, step_cell hb2 r2, step_cell hb2 r3, ?_⟩, by simp [intOf]; omega⟩
        intro j hj
        by_cases hjk : j < k
        · exact F.out j hjk
        · obtain rfl : j = k := by omega
          rw [← HI.out]
          simp_all
    · go_wp2
      go_ret
      refine ⟨ret_bool ?_, hbel⟩
      unfold movesO
      rw [eq_comm, Bool.and_eq_true]
      refine ⟨by simp [h6], ?_⟩
      rw [List.all_eq_true]
      intro x hx
      obtain ⟨j, hj, rfl⟩ := List.getElem_of_mem hx
      have := F.out j (by omega)
      simpa [List.getD, hj] using this

end Go.Proofs.Ytcmnmogmdhofcaa.form
