/- What layout.kindsOf, settle and fits answer. -/
import Derived.BigQuiet
import Derived.Deep.QuietTactic
import Derived.Test.YtcmnmogmdhofcabGreatE11
import Derived.Test.YtcmnmogmdhofcabGreatE01
import Derived.Test.YtcmnmogmdhofcabGreatE05
import Derived.Test.YtcmnmogmdhofcabGreatE02

namespace Go.Proofs.YtcmnmogmdhofcabGreat.form
open Go.RowKit
set_option linter.unusedVariables false

def fitB (B : List Bool) (nC : Nat) (k x : Int) : Bool :=
  if k = 0 then x == 0 else if k = 1 then decide (0 ≤ x) && decide (x < B.length) && !(B.getD x.toNat false)
  else if k = 2 then decide (0 ≤ x) && decide (x < B.length) && B.getD x.toNat false else if k = 4 then decide (0 ≤ x) && decide (x < nC) else k == 5

set_option maxRecDepth 100000 in
set_option maxHeartbeats 400000 in
theorem fits (b0 o0 c0 b1 o1 c1 : Nat) (B : List Bool) (C : List LIns) (k x : Int) (w : World) (hB : B.length ≤ 12) (hC : C.length ≤ 40) (h : Held w b0 o0 b1 o1 B C) :
    Calls Tryz.prog 123 #[progV b0 o0 B.length c0 b1 o1 C.length c1, .int .i64 k, .int .i64 x] w fun e w' => e = .returned (.bool (fitB B C.length k x)) ∧ Below w.heap.size w w' := by
  have hlt0 := h.lt0
  have hcell : 0 ≤ x ∧ x < B.length → w.cell? ⟨b0, o0 + x.toNat, none⟩ = some (.bool (B.getD x.toNat false)) := fun hx => h.wide _ (by omega)
  unfold progV
  go_enter Tryz.func123, Tryz.ntmps123
  go_wp2_with (go_at_call 103; refine (isIn _ _ _).mono ?_; rintro e w' ⟨rfl, rfl⟩)
  all_goals
    go_ret
    exact ⟨ret_bool (by clear hcell; simp_all [fitB]; try (intro hx; exfalso; omega)), (Below.refl _ _).alloc (Nat.le_refl _) _⟩

def kd (op : Int) (j : Nat) : Int :=
  (if op = 1 then [1, 0, 0, 0, 5] else if op = 2 then [3, 3, 0, 0, 0] else if op = 3 then [1, 0, 0, 0, 0] else if op = 4 then [0, 1, 0, 0, 0] else if op = 5 then [2, 1, 1, 0, 0]
  else if op = 6 ∨ op = 7 then [1, 2, 0, 0, 0] else if op = 8 then [0, 0, 0, 4, 0] else if op = 9 then [0, 1, 0, 4, 0] else if op = 10 then [0, 0, 0, 0, 0]
  else if 21 ≤ op ∧ op ≤ 26 then [1, 1, 1, 0, 0] else if 41 ≤ op ∧ op ≤ 45 then [2, 2, 2, 0, 0] else [0, 0, 0, 0, 0]).getD j 0

def fiveV (k0 k1 k2 k3 k4 : Int) : Value := .agg #[.int .i64 k0, .int .i64 k1, .int .i64 k2, .int .i64 k3, .int .i64 k4]

theorem kd_narrow (op : Int) (h1 : 21 ≤ op) (h2 : op ≤ 26) : kd op = fun j => ([1, 1, 1, 0, 0] : List Int).getD j 0 := by
  funext j
  unfold kd
  rw [if_neg (by omega), if_neg (by omega), if_neg (by omega), if_neg (by omega), if_neg (by omega), if_neg (by omega), if_neg (by omega), if_neg (by omega), if_neg (by omega), if_pos (by omega)]
theorem kd_wide (op : Int) (h1 : 41 ≤ op) (h2 : op ≤ 45) : kd op = fun j => ([2, 2, 2, 0, 0] : List Int).getD j 0 := by
  funext j
  unfold kd
  rw [if_neg (by omega), if_neg (by omega), if_neg (by omega), if_neg (by omega), if_neg (by omega), if_neg (by omega), if_neg (by omega), if_neg (by omega), if_neg (by omega), if_neg (by omega), if_pos (by omega)]
theorem known_narrow (op : Int) (h1 : 21 ≤ op) (h2 : op ≤ 26) : knownB op = true := by unfold knownB; simp; omega
theorem known_wide (op : Int) (h1 : 41 ≤ op) (h2 : op ≤ 45) : knownB op = true := by unfold knownB; simp; omega
theorem kd_none (op : Int) (h : knownB op = false) : kd op = (fun j => ([0, 0, 0, 0, 0] : List Int).getD j 0) ∧ knownB op = false := by
  refine ⟨?_, h⟩
  unfold knownB at h
  simp at h
  funext j
  unfold kd
  rw [if_neg (by omega), if_neg (by omega), if_neg (by omega), if_neg (by omega), if_neg (by omega), if_neg (by omega), if_neg (by omega), if_neg (by omega), if_neg (by omega), if_neg (by omega), if_neg (by omega)]

set_option maxRecDepth 100000 in
set_option maxHeartbeats 400000 in
theorem kindsOf (op : Int) (w : World) :
    Calls Tryz.prog 75 #[.int .i64 op] w fun e w' => e = .returned (.tuple #[fiveV (kd op 0) (kd op 1) (kd op 2) (kd op 3) (kd op 4), .bool (knownB op)]) ∧ Below w.heap.size w w' := by
  rcases (show op = 1 ∨ op = 2 ∨ op = 3 ∨ op = 4 ∨ op = 5 ∨ op = 6 ∨ op = 7 ∨ op = 8 ∨ op = 9 ∨ op = 10 ∨ (21 ≤ op ∧ op ≤ 26) ∨ (41 ≤ op ∧ op ≤ 45) ∨ op < 1 ∨ (10 < op ∧ op < 21) ∨ (26 < op ∧ op < 41) ∨ 45 < op by omega) with rfl | rfl | rfl | rfl | rfl | rfl | rfl | rfl | rfl | rfl | ⟨h1, h2⟩ | ⟨h1, h2⟩ | h1 | ⟨h1, h2⟩ | ⟨h1, h2⟩ | h1
  all_goals
    go_enter Tryz.func75, Tryz.ntmps75
    go_wp2
    refine bodyPost_ret (v := .tuple #[fiveV (kd _ 0) (kd _ 1) (kd _ 2) (kd _ 3) (kd _ 4), .bool (knownB _)]) ?_ rfl ⟨rfl, ?_⟩
    rotate_left
    · exact (Below.refl _ _).alloc (Nat.le_refl _) _
  iterate 10 (case refine_1 => simp [results, Tryz.results75, go_sem, fiveV, kd, knownB])
  case refine_1 => simp [results, Tryz.results75, go_sem, fiveV, kd_narrow op h1 h2, known_narrow op h1 h2]
  case refine_1 => simp [results, Tryz.results75, go_sem, fiveV, kd_wide op h1 h2, known_wide op h1 h2]
  all_goals simp [results, Tryz.results75, go_sem, fiveV, (kd_none op (by unfold knownB; simp; omega)).1, (kd_none op (by unfold knownB; simp; omega)).2]

def st (k width : Int) : Int := if k = 3 then width else k

set_option maxRecDepth 100000 in
set_option maxHeartbeats 400000 in
theorem settle (k0 k1 k2 k3 k4 width : Int) (w : World) :
    Calls Tryz.prog 95 #[fiveV k0 k1 k2 k3 k4, .int .i64 width] w fun e w' => e = .returned (fiveV (st k0 width) (st k1 width) (st k2 width) (st k3 width) (st k4 width)) ∧ Below w.heap.size w w' := by
  unfold fiveV
  have i0 : ∀ w, (Instr.index 141 (.agg #[.int .i64 k0, .int .i64 k1, .int .i64 k2, .int .i64 k3, .int .i64 k4]) (.int .i64 0)).run Tryz.prog w = .ok (.int .i64 k0) w := fun _ => by kernel_rfl
  have i1 : ∀ w, (Instr.index 141 (.agg #[.int .i64 k0, .int .i64 k1, .int .i64 k2, .int .i64 k3, .int .i64 k4]) (.int .i64 1)).run Tryz.prog w = .ok (.int .i64 k1) w := fun _ => by kernel_rfl
  have i2 : ∀ w, (Instr.index 141 (.agg #[.int .i64 k0, .int .i64 k1, .int .i64 k2, .int .i64 k3, .int .i64 k4]) (.int .i64 2)).run Tryz.prog w = .ok (.int .i64 k2) w := fun _ => by kernel_rfl
  have i3 : ∀ w, (Instr.index 141 (.agg #[.int .i64 k0, .int .i64 k1, .int .i64 k2, .int .i64 k3, .int .i64 k4]) (.int .i64 3)).run Tryz.prog w = .ok (.int .i64 k3) w := fun _ => by kernel_rfl
  have i4 : ∀ w, (Instr.index 141 (.agg #[.int .i64 k0, .int .i64 k1, .int .i64 k2, .int .i64 k3, .int .i64 k4]) (.int .i64 4)).run Tryz.prog w = .ok (.int .i64 k4) w := fun _ => by kernel_rfl
  go_enter Tryz.func95, Tryz.ntmps95
  go_wp2
  go_loopw [8] (fun i wr => ∃ k : Nat, ∃ u0 u1 u2 u3 u4 : Int, k ≤ 5 ∧ i = .int .i64 k ∧ wr = (w.alloc (.cells #[.int .i64 u0, .int .i64 u1, .int .i64 u2, .int .i64 u3, .int .i64 u4] 141)).alloc (.cells #[.int .i64 0, .int .i64 0, .int .i64 0, .int .i64 0, .int .i64 0] 141) ∧
      u0 = (if 0 < k then st k0 width else k0) ∧ u1 = (if 1 < k then st k1 width else k1) ∧ u2 = (if 2 < k then st k2 width else k2) ∧ u3 = (if 3 < k then st k3 width else k3) ∧ u4 = (if 4 < k then st k4 width else k4))
    (fun i _ => 5 - (intOf i).toNat)
  case atStart => exact ⟨0, k0, k1, k2, k3, k4, by omega, rfl, rfl, rfl, rfl, rfl, rfl, rfl⟩
  case round =>
    obtain ⟨k, u0, u1, u2, u3, u4, hk, rfl, rfl, e0, e1, e2, e3, e4⟩ := hrel
    rcases (show k = 0 ∨ k = 1 ∨ k = 2 ∨ k = 3 ∨ k = 4 ∨ k = 5 by omega) with rfl | rfl | rfl | rfl | rfl | rfl
    all_goals
      have H0 : Hid _ := e0
      have H1 : Hid _ := e1
      have H2 : Hid _ := e2
      have H3 : Hid _ := e3
      have H4 : Hid _ := e4
      clear e0 e1 e2 e3 e4
      go_wp2
    case roundEnd | roundEnd => refine ⟨⟨1, _, _, _, _, _, by omega, rfl, rfl, ?_, ?_, ?_, ?_, ?_⟩, by simp [intOf]⟩ <;> simp_all [st, Hid]
    case roundEnd | roundEnd => refine ⟨⟨2, _, _, _, _, _, by omega, rfl, rfl, ?_, ?_, ?_, ?_, ?_⟩, by simp [intOf]⟩ <;> simp_all [st, Hid]
    case roundEnd | roundEnd => refine ⟨⟨3, _, _, _, _, _, by omega, rfl, rfl, ?_, ?_, ?_, ?_, ?_⟩, by simp [intOf]⟩ <;> simp_all [st, Hid]
    case roundEnd | roundEnd => refine ⟨⟨4, _, _, _, _, _, by omega, rfl, rfl, ?_, ?_, ?_, ?_, ?_⟩, by simp [intOf]⟩ <;> simp_all [st, Hid]
    case roundEnd | roundEnd => refine ⟨⟨5, _, _, _, _, _, by omega, rfl, rfl, ?_, ?_, ?_, ?_, ?_⟩, by simp [intOf]⟩ <;> simp_all [st, Hid]
    · refine bodyPost_ret (v := fiveV (st k0 width) (st k1 width) (st k2 width) (st k3 width) (st k4 width)) ?_ rfl ⟨rfl, ?_⟩
      · have e0 := H0.out
        have e1 := H1.out
        have e2 := H2.out
        have e3 := H3.out
        have e4 := H4.out
        simp at e0 e1 e2 e3 e4
        simp [results, Tryz.results95, go_sem, fiveV, e0, e1, e2, e3, e4]
      · exact ((Below.refl _ _).alloc (Nat.le_refl _) _).alloc (by simp) _

end Go.Proofs.YtcmnmogmdhofcabGreat.form

/- A search along the ways of a program, on plain numbers: what it has come to, and what it has done with. -/
namespace Go.Proofs.YtcmnmogmdhofcabGreat.form
open Go.RowKit
set_option linter.unusedVariables false
end Go.Proofs.YtcmnmogmdhofcabGreat.form

/- Where an instruction goes on (loanbookref2.Nexts). -/
namespace Go.Proofs.YtcmnmogmdhofcabGreat.form
open Go.RowKit
set_option linter.unusedVariables false
attribute [local go_sem ↓] Go.wp_at_zero Go.wp_at_succ

def IntsAt (lo : Nat) (w : World) (v : Value) (l : List Int) : Prop :=
  ∃ ao cap, v = .slice ao l.length cap ∧ (0 < l.length → ∃ b, ao = some ⟨b, 0, none⟩ ∧ lo ≤ b ∧ b < w.heap.size ∧ ∀ j, j < l.length → w.cell? ⟨b, j, none⟩ = some (.int .i64 (l.getD j 0)))

theorem ints_one {lo : Nat} {w : World} {b : Nat} {x : Int} {cap : Nat} (hlo : lo ≤ b) (h : w.cell? ⟨b, 0, none⟩ = some (.int .i64 x)) : IntsAt lo w (.slice (some ⟨b, 0, none⟩) 1 cap) [x] :=
  ⟨_, _, rfl, fun _ => ⟨b, rfl, hlo, World.block_lt_of_cell? w _ h, fun j hj => by
    obtain rfl : j = 0 := by simp at hj; omega
    simpa using h⟩⟩
theorem ints_two {lo : Nat} {w : World} {b : Nat} {x y : Int} {cap : Nat} (hlo : lo ≤ b) (h : w.cell? ⟨b, 0, none⟩ = some (.int .i64 x)) (g : w.cell? ⟨b, 1, none⟩ = some (.int .i64 y)) : IntsAt lo w (.slice (some ⟨b, 0, none⟩) 2 cap) [x, y] :=
  ⟨_, _, rfl, fun _ => ⟨b, rfl, hlo, World.block_lt_of_cell? w _ h, fun j hj => by
    rcases (show j = 0 ∨ j = 1 by simp at hj; omega) with rfl | rfl
    · simpa using h
    · simpa using g⟩⟩

end Go.Proofs.YtcmnmogmdhofcabGreat.form

/- What is needed, found by adding from nothing: the truths of all instructions in one row, on plain numbers and in memory. -/
namespace Go.Proofs.YtcmnmogmdhofcabGreat.form
open Go.RowKit
set_option linter.unusedVariables false
end Go.Proofs.YtcmnmogmdhofcabGreat.form

/- What layout's functions on an instruction's fields and ways answer (layout.isTemp, Has, leads). -/
namespace Go.Proofs.YtcmnmogmdhofcabGreat.form
open Go.RowKit
set_option linter.unusedVariables false
attribute [local go_sem ↓] Go.wp_at_zero Go.wp_at_succ

def isT (k : Int) : Bool := k == 1 || k == 2 || k == 3

theorem isTemp (k : Int) (w : World) :
    Calls Tryz.prog 76 #[.int .i64 k] w fun e w' => e = .returned (.bool (isT k)) ∧ w' = w := by
  go_enter Tryz.func76, Tryz.ntmps76
  go_wp2
  all_goals
    go_ret
    exact ⟨ret_bool (by simp_all [isT]), rfl⟩

theorem isT_gives {op : Int} (h : knownB op = true) : isT (kd op 0) = givesB op := by
  unfold knownB at h
  simp at h
  unfold kd isT givesB
  rcases h with (h | h) | h
  · rcases (show op = 1 ∨ op = 2 ∨ op = 3 ∨ op = 4 ∨ op = 5 ∨ op = 6 ∨ op = 7 ∨ op = 8 ∨ op = 9 ∨ op = 10 by omega) with rfl | rfl | rfl | rfl | rfl | rfl | rfl | rfl | rfl | rfl <;> simp
  · rcases (show op = 21 ∨ op = 22 ∨ op = 23 ∨ op = 24 ∨ op = 25 ∨ op = 26 by omega) with rfl | rfl | rfl | rfl | rfl | rfl <;> simp
  · rcases (show op = 41 ∨ op = 42 ∨ op = 43 ∨ op = 44 ∨ op = 45 by omega) with rfl | rfl | rfl | rfl | rfl <;> simp
theorem isT_many {op : Int} (h : knownB op = true) : isT (kd op 1) = decide (0 < manyI op) ∧ isT (kd op 2) = decide (1 < manyI op) := by
  unfold knownB at h
  simp at h
  unfold kd isT manyI
  rcases h with (h | h) | h
  · rcases (show op = 1 ∨ op = 2 ∨ op = 3 ∨ op = 4 ∨ op = 5 ∨ op = 6 ∨ op = 7 ∨ op = 8 ∨ op = 9 ∨ op = 10 by omega) with rfl | rfl | rfl | rfl | rfl | rfl | rfl | rfl | rfl | rfl <;> simp
  · rcases (show op = 21 ∨ op = 22 ∨ op = 23 ∨ op = 24 ∨ op = 25 ∨ op = 26 by omega) with rfl | rfl | rfl | rfl | rfl | rfl <;> simp
  · rcases (show op = 41 ∨ op = 42 ∨ op = 43 ∨ op = 44 ∨ op = 45 by omega) with rfl | rfl | rfl | rfl | rfl <;> simp
set_option maxRecDepth 100000 in
theorem has (op : Int) (w : World) :
    Calls Tryz.prog 45 #[.int .i64 op] w fun e w' => e = .returned (.tuple #[.bool (isT (kd op 0)), .bool (isT (kd op 1)), .bool (isT (kd op 2))]) ∧ Below w.heap.size w w' := by
  go_enter Tryz.func45, Tryz.ntmps45
  go_wp2_with (go_at_call 75; refine (kindsOf _ _).mono ?_; rintro e w1 ⟨rfl, hb1⟩; unfold fiveV)
  go_quiet (first | (go_at_call_of 76 (Value.int .i64 (kd op 0)); exact Calls.quiet_of_same (isTemp _ _)) | (go_at_call_of 76 (Value.int .i64 (kd op 1)); exact Calls.quiet_of_same (isTemp _ _)) | (go_at_call_of 76 (Value.int .i64 (kd op 2)); exact Calls.quiet_of_same (isTemp _ _)))
  go_wp2
  refine bodyPost_ret (v := .tuple #[.bool (isT (kd op 0)), .bool (isT (kd op 1)), .bool (isT (kd op 2))]) ?_ rfl ⟨rfl, ?_⟩
  · simp [results, Tryz.results45, go_sem]
  · exact below_drewN (hb1.alloc hb1.size _) _

theorem leads (i : LIns) (pc : Nat) (hpc : pc ≤ 40) (w : World) :
    Calls Tryz.prog 104 #[i.val, .int .i64 pc] w fun e w' => (∃ v, e = .returned v ∧ IntsAt w.heap.size w' v (nextsI i pc)) ∧ Below w.heap.size w w' := by
  unfold LIns.val
  have y1 : (pc : Int) ≤ 40 := by omega
  have y0 : (0 : Int) ≤ (pc : Int) := by omega
  have HB2 : Hid (∀ o1 o2 : Obj, Below w.heap.size w ((w.alloc o1).alloc o2)) := fun o1 o2 => ((Below.refl _ _).alloc (Nat.le_refl _) _).alloc (by simp) _
  go_enter Tryz.func104, Tryz.ntmps104
  go_wp2
  all_goals go_ret
  · refine ⟨⟨.slice (some ⟨w.heap.size + 1, 0, none⟩) 1 1, rfl, ?_⟩, HB2.out _ _⟩
    rw [show nextsI i pc = [i.c] by unfold nextsI; simp_all]
    exact ints_one (by omega) (by simp [go_sem])
  · refine ⟨⟨.slice (some ⟨w.heap.size + 1, 0, none⟩) 2 2, rfl, ?_⟩, HB2.out _ _⟩
    rw [show nextsI i pc = [(pc : Int) + 1, i.c] by unfold nextsI; simp_all]
    exact ints_two (by omega) (by simp [go_sem]) (by simp [go_sem])
  · refine ⟨⟨.slice none 0 0, rfl, ?_⟩, (Below.refl _ _).alloc (Nat.le_refl _) _⟩
    rw [show nextsI i pc = [] by unfold nextsI; simp_all]
    exact ⟨none, 0, rfl, fun hh => absurd hh (by simp)⟩
  · refine ⟨⟨.slice (some ⟨w.heap.size + 1, 0, none⟩) 1 1, rfl, ?_⟩, HB2.out _ _⟩
    rw [show nextsI i pc = [(pc : Int) + 1] by unfold nextsI; simp_all]
    exact ints_one (by omega) (by simp [go_sem])

end Go.Proofs.YtcmnmogmdhofcabGreat.form
