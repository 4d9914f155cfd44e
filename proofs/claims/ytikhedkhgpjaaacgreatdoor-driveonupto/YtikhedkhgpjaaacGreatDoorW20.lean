/- What layout.within and isIn answer. -/
import Derived.BigQuiet
import Derived.Deep.QuietTactic
import Derived.Test.YtikhedkhgpjaaacGreatDoorW03
import Derived.Test.YtikhedkhgpjaaacGreatDoorW01
import Derived.Test.YtikhedkhgpjaaacGreatDoorW19
import Derived.Test.YtikhedkhgpjaaacGreatDoorW06

namespace Go.Proofs.YtikhedkhgpjaaacGreatDoor
set_option linter.unusedVariables false
namespace form
open Go.RowKit
theorem within (a b : Int) (w : World) :
    Calls Tryz.prog 52 #[.int .i64 a, .int .i64 b] w fun e w' => e = .returned (.bool (decide (1 ≤ a) && decide (a ≤ b))) ∧ w' = w := by
  go_enter Tryz.func52, Tryz.ntmps52
  go_wp2
  all_goals
    go_ret
    exact ⟨ret_bool (by rw [Bool.eq_iff_iff]; simp; try omega), rfl⟩
theorem isIn (a b : Int) (w : World) :
    Calls Tryz.prog 144 #[.int .i64 a, .int .i64 b] w fun e w' => e = .returned (.bool (decide (0 ≤ a) && decide (a < b))) ∧ w' = w := by
  go_enter Tryz.func144, Tryz.ntmps144
  go_wp2
  all_goals
    go_ret
    exact ⟨ret_bool (by rw [Bool.eq_iff_iff]; simp; try omega), rfl⟩
end form
/- What layout.kindsOf, settle and fits answer. -/
namespace form
open Go.RowKit
def fitB (B : List Bool) (nC : Nat) (k x : Int) : Bool :=
  if k = 0 then x == 0 else if k = 1 then decide (0 ≤ x) && decide (x < B.length) && !(B.getD x.toNat false)
  else if k = 2 then decide (0 ≤ x) && decide (x < B.length) && B.getD x.toNat false else if k = 4 then decide (0 ≤ x) && decide (x < nC) else k == 5
set_option maxRecDepth 100000 in
set_option maxHeartbeats 400000 in
theorem fits (b0 o0 c0 b1 o1 c1 : Nat) (B : List Bool) (C : List LIns) (k x : Int) (w : World) (hB : B.length ≤ 12) (hC : C.length ≤ 40) (h : Held w b0 o0 b1 o1 B C) :
    Calls Tryz.prog 127 #[progV b0 o0 B.length c0 b1 o1 C.length c1, .int .i64 k, .int .i64 x] w fun e w' => e = .returned (.bool (fitB B C.length k x)) ∧ Below w.heap.size w w' := by
  have hlt0 := h.lt0
  have hcell : 0 ≤ x ∧ x < B.length → w.cell? ⟨b0, o0 + x.toNat, none⟩ = some (.bool (B.getD x.toNat false)) := fun hx => h.wide _ (by omega)
  unfold progV
  go_enter Tryz.func127, Tryz.ntmps127
  go_wp2_with (go_at_call 144; refine (isIn _ _ _).mono ?_; rintro e w' ⟨rfl, rfl⟩)
  all_goals
    go_ret
    exact ⟨ret_bool (by clear hcell; simp_all [fitB]; try (intro hx; exfalso; omega)), (Below.refl _ _).alloc (Nat.le_refl _) _⟩
def kd (op : Int) (j : Nat) : Int :=
  (if op = 1 then [1, 0, 0, 0, 5] else if op = 2 then [3, 3, 0, 0, 0] else if op = 3 then [1, 0, 0, 0, 0] else if op = 4 then [0, 1, 0, 0, 0] else if op = 5 then [2, 1, 1, 0, 0]
  else if op = 6 ∨ op = 7 then [1, 2, 0, 0, 0] else if op = 8 then [0, 0, 0, 4, 0] else if op = 9 then [0, 1, 0, 4, 0] else if op = 10 then [0, 0, 0, 0, 0]
  else if 21 ≤ op ∧ op ≤ 26 then [1, 1, 1, 0, 0] else if 41 ≤ op ∧ op ≤ 45 then [2, 2, 2, 0, 0] else [0, 0, 0, 0, 0]).getD j 0
def fiveV (k0 k1 k2 k3 k4 : Int) : Value := .agg #[.int .i64 k0, .int .i64 k1, .int .i64 k2, .int .i64 k3, .int .i64 k4]
theorem kd_narrow (op : Int) (h1 : 21 ≤ op) (h2 : op ≤ 26) : kd op = fun j => ([1, 1, 1, 0, 0] : List Int).getD j 0 := by
  funext j
  unfold kd
  rw [if_neg (by omega), if_neg (by omega), if_neg (by omega), if_neg (by omega), if_neg (by omega), if_neg (by omega), if_neg (by omega), if_neg (by omega), if_neg (by omega), if_pos (by omega)]
theorem kd_wide (op : Int) (h1 : 41 ≤ op) (h2 : op ≤ 45) : kd op = fun j => ([2, 2, 2, 0, 0] : List Int).getD j 0 := by
  funext j
  unfold kd
  rw [if_neg (by omega), if_neg (by omega), if_neg (by omega), if_neg (by omega), if_neg (by omega), if_neg (by omega), if_neg (by omega), if_neg (by omega), if_neg (by omega), if_neg (by omega), if_pos (by omega)]
theorem known_narrow (op : Int) (h1 : 21 ≤ op) (h2 : op ≤ 26) : knownB op = true := by unfold knownB; simp; omega
theorem known_wide (op : Int) (h1 : 41 ≤ op) (h2 : op ≤ 45) : knownB op = true := by unfold knownB; simp; omega
theorem kd_none (op : Int) (h : knownB op = false) : kd op = (fun j => ([0, 0, 0, 0, 0] : List Int).getD j 0) ∧ knownB op = false := by
  refine ⟨?_, h⟩
  unfold knownB at h
  simp at h
  funext j
  unfold kd
  rw [if_neg (by omega), if_neg (by omega), if_neg (by omega), if_neg (by omega), if_neg (by omega), if_neg (by omega), if_neg (by omega), if_neg (by omega), if_neg (by omega), if_neg (by omega), if_neg (by omega)]
set_option maxRecDepth 100000 in
set_option maxHeartbeats 400000 in
theorem kindsOf (op : Int) (w : World) :
    Calls Tryz.prog 84 #[.int .i64 op] w fun e w' => e = .returned (.tuple #[fiveV (kd op 0) (kd op 1) (kd op 2) (kd op 3) (kd op 4), .bool (knownB op)]) ∧ Below w.heap.size w w' := by
  rcases (show op = 1 ∨ op = 2 ∨ op = 3 ∨ op = 4 ∨ op = 5 ∨ op = 6 ∨ op = 7 ∨ op = 8 ∨ op = 9 ∨ op = 10 ∨ (21 ≤ op ∧ op ≤ 26) ∨ (41 ≤ op ∧ op ≤ 45) ∨ op < 1 ∨ (10 < op ∧ op < 21) ∨ (26 < op ∧ op < 41) ∨ 45 < op by omega) with rfl | rfl | rfl | rfl | rfl | rfl | rfl | rfl | rfl | rfl | ⟨h1, h2⟩ | ⟨h1, h2⟩ | h1 | ⟨h1, h2⟩ | ⟨h1, h2⟩ | h1
  all_goals
    go_enter Tryz.func84, Tryz.ntmps84
    go_wp2
    refine bodyPost_ret (v := .tuple #[fiveV (kd _ 0) (kd _ 1) (kd _ 2) (kd _ 3) (kd _ 4), .bool (knownB _)]) ?_ rfl ⟨rfl, ?_⟩
    rotate_left
    · exact (Below.refl _ _).alloc (Nat.le_refl _) _
  iterate 10 (case refine_1 => simp [results, Tryz.results84, go_sem, fiveV, kd, knownB])
  case refine_1 => simp [results, Tryz.results84, go_sem, fiveV, kd_narrow op h1 h2, known_narrow op h1 h2]
  case refine_1 => simp [results, Tryz.results84, go_sem, fiveV, kd_wide op h1 h2, known_wide op h1 h2]
  all_goals simp [results, Tryz.results84, go_sem, fiveV, (kd_none op (by unfold knownB; simp; omega)).1, (kd_none op (by unfold knownB; simp; omega)).2]
def st (k width : Int) : Int := if k = 3 then width else k
set_option maxRecDepth 100000 in
set_option maxHeartbeats 400000 in
theorem settle (k0 k1 k2 k3 k4 width : Int) (w : World) :
    Calls Tryz.prog 86 #[fiveV k0 k1 k2 k3 k4, .int .i64 width] w fun e w' => e = .returned (fiveV (st k0 width) (st k1 width) (st k2 width) (st k3 width) (st k4 width)) ∧ Below w.heap.size w w' := by
  unfold fiveV
  have i0 : ∀ w, (Instr.index 156 (.agg #[.int .i64 k0, .int .i64 k1, .int .i64 k2, .int .i64 k3, .int .i64 k4]) (.int .i64 0)).run Tryz.prog w = .ok (.int .i64 k0) w := fun _ => by kernel_rfl
  have i1 : ∀ w, (Instr.index 156 (.agg #[.int .i64 k0, .int .i64 k1, .int .i64 k2, .int .i64 k3, .int .i64 k4]) (.int .i64 1)).run Tryz.prog w = .ok (.int .i64 k1) w := fun _ => by kernel_rfl
  have i2 : ∀ w, (Instr.index 156 (.agg #[.int .i64 k0, .int .i64 k1, .int .i64 k2, .int .i64 k3, .int .i64 k4]) (.int .i64 2)).run Tryz.prog w = .ok (.int .i64 k2) w := fun _ => by kernel_rfl
  have i3 : ∀ w, (Instr.index 156 (.agg #[.int .i64 k0, .int .i64 k1, .int .i64 k2, .int .i64 k3, .int .i64 k4]) (.int .i64 3)).run Tryz.prog w = .ok (.int .i64 k3) w := fun _ => by kernel_rfl
  have i4 : ∀ w, (Instr.index 156 (.agg #[.int .i64 k0, .int .i64 k1, .int .i64 k2, .int .i64 k3, .int .i64 k4]) (.int .i64 4)).run Tryz.prog w = .ok (.int .i64 k4) w := fun _ => by kernel_rfl
  go_enter Tryz.func86, Tryz.ntmps86
  go_wp2
  go_loopw [8] (fun i wr => ∃ k : Nat, ∃ u0 u1 u2 u3 u4 : Int, k ≤ 5 ∧ i = .int .i64 k ∧ wr = (w.alloc (.cells #[.int .i64 u0, .int .i64 u1, .int .i64 u2, .int .i64 u3, .int .i64 u4] 156)).alloc (.cells #[.int .i64 0, .int .i64 0, .int .i64 0, .int .i64 0, .int .i64 0] 156) ∧
      u0 = (if 0 < k then st k0 width else k0) ∧ u1 = (if 1 < k then st k1 width else k1) ∧ u2 = (if 2 < k then st k2 width else k2) ∧ u3 = (if 3 < k then st k3 width else k3) ∧ u4 = (if 4 < k then st k4 width else k4))
    (fun i _ => 5 - (intOf i).toNat)
  case atStart => exact ⟨0, k0, k1, k2, k3, k4, by omega, rfl, rfl, rfl, rfl, rfl, rfl, rfl⟩
  case round =>
    obtain ⟨k, u0, u1, u2, u3, u4, hk, rfl, rfl, e0, e1, e2, e3, e4⟩ := hrel
    rcases (show k = 0 ∨ k = 1 ∨ k = 2 ∨ k = 3 ∨ k = 4 ∨ k = 5 by omega) with rfl | rfl | rfl | rfl | rfl | rfl
    all_goals
      have H0 : Hid _ := e0
      have H1 : Hid _ := e1
      have H2 : Hid _ := e2
      have H3 : Hid _ := e3
      have H4 : Hid _ := e4
      clear e0 e1 e2 e3 e4
      go_wp2
    case roundEnd | roundEnd => refine ⟨⟨1, _, _, _, _, _, by omega, rfl, rfl, ?_, ?_, ?_, ?_, ?_⟩, by simp [intOf]⟩ <;> simp_all [st, Hid]
    case roundEnd | roundEnd => refine ⟨⟨2, _, _, _, _, _, by omega, rfl, rfl, ?_, ?_, ?_, ?_, ?_⟩, by simp [intOf]⟩ <;> simp_all [st, Hid]
    case roundEnd | roundEnd => refine ⟨⟨3, _, _, _, _, _, by omega, rfl, rfl, ?_, ?_, ?_, ?_, ?_⟩, by simp [intOf]⟩ <;> simp_all [st, Hid]
    case roundEnd | roundEnd => refine ⟨⟨4, _, _, _, _, _, by omega, rfl, rfl, ?_, ?_, ?_, ?_, ?_⟩, by simp [intOf]⟩ <;> simp_all [st, Hid]
    case roundEnd | roundEnd => refine ⟨⟨5, _, _, _, _, _, by omega, rfl, rfl, ?_, ?_, ?_, ?_, ?_⟩, by simp [intOf]⟩ <;> simp_all [st, Hid]
    · refine bodyPost_ret (v := fiveV (st k0 width) (st k1 width) (st k2 width) (st k3 width) (st k4 width)) ?_ rfl ⟨rfl, ?_⟩
      · have e0 := H0.out
        have e1 := H1.out
        have e2 := H2.out
        have e3 := H3.out
        have e4 := H4.out
        simp at e0 e1 e2 e3 e4
        simp [results, Tryz.results86, go_sem, fiveV, e0, e1, e2, e3, e4]
      · exact ((Below.refl _ _).alloc (Nat.le_refl _) _).alloc (by simp) _
end form
/- What layout's functions on an instruction's fields and ways answer (layout.isTemp, Has, leads). -/
namespace form
open Go.RowKit
attribute [local go_sem ↓] Go.wp_at_zero Go.wp_at_succ
def isT (k : Int) : Bool := k == 1 || k == 2 || k == 3
theorem isTemp (k : Int) (w : World) :
    Calls Tryz.prog 143 #[.int .i64 k] w fun e w' => e = .returned (.bool (isT k)) ∧ w' = w := by
  go_enter Tryz.func143, Tryz.ntmps143
  go_wp2
  all_goals
    go_ret
    exact ⟨ret_bool (by simp_all [isT]), rfl⟩
theorem isT_gives {op : Int} (h : knownB op = true) : isT (kd op 0) = givesB op := by
  unfold knownB at h
  simp at h
  unfold kd isT givesB
  rcases h with (h | h) | h
  · rcases (show op = 1 ∨ op = 2 ∨ op = 3 ∨ op = 4 ∨ op = 5 ∨ op = 6 ∨ op = 7 ∨ op = 8 ∨ op = 9 ∨ op = 10 by omega) with rfl | rfl | rfl | rfl | rfl | rfl | rfl | rfl | rfl | rfl <;> simp
  · rcases (show op = 21 ∨ op = 22 ∨ op = 23 ∨ op = 24 ∨ op = 25 ∨ op = 26 by omega) with rfl | rfl | rfl | rfl | rfl | rfl <;> simp
  · rcases (show op = 41 ∨ op = 42 ∨ op = 43 ∨ op = 44 ∨ op = 45 by omega) with rfl | rfl | rfl | rfl | rfl <;> simp
theorem isT_many {op : Int} (h : knownB op = true) : isT (kd op 1) = decide (0 < manyI op) ∧ isT (kd op 2) = decide (1 < manyI op) := by
  unfold knownB at h
  simp at h
  unfold kd isT manyI
  rcases h with (h | h) | h
  · rcases (show op = 1 ∨ op = 2 ∨ op = 3 ∨ op = 4 ∨ op = 5 ∨ op = 6 ∨ op = 7 ∨ op = 8 ∨ op = 9 ∨ op = 10 by omega) with rfl | rfl | rfl | rfl | rfl | rfl | rfl | rfl | rfl | rfl <;> simp
  · rcases (show op = 21 ∨ op = 22 ∨ op = 23 ∨ op = 24 ∨ op = 25 ∨ op = 26 by omega) with rfl | rfl | rfl | rfl | rfl | rfl <;> simp
  · rcases (show op = 41 ∨ op = 42 ∨ op = 43 ∨ op = 44 ∨ op = 45 by omega) with rfl | rfl | rfl | rfl | rfl <;> simp
theorem isT_takes {i : LIns} (h : knownB i.op = true) (t : Int) : takesI i t = (isT (kd i.op 1) && (i.a == t) || isT (kd i.op 2) && (i.b == t)) := by
  obtain ⟨m, hm, hm2⟩ : ∃ m : Nat, manyI i.op = m ∧ m ≤ 2 := by
    rcases many_of i.op with h | h | h
    · exact ⟨0, h, by omega⟩
    · exact ⟨1, h, by omega⟩
    · exact ⟨2, h, by omega⟩
  have hh := isT_many h
  rw [takes_of i m hm hm2 t, hh.1, hh.2, hm]
  rcases (show m = 0 ∨ m = 1 ∨ m = 2 by omega) with rfl | rfl | rfl <;> simp
set_option maxRecDepth 100000 in
theorem has (op : Int) (w : World) :
    Calls Tryz.prog 112 #[.int .i64 op] w fun e w' => e = .returned (.tuple #[.bool (isT (kd op 0)), .bool (isT (kd op 1)), .bool (isT (kd op 2))]) ∧ Below w.heap.size w w' := by
  go_enter Tryz.func112, Tryz.ntmps112
  go_wp2_with (go_at_call 84; refine (kindsOf _ _).mono ?_; rintro e w1 ⟨rfl, hb1⟩; unfold fiveV)
  go_quiet (first | (go_at_call_of 143 (Value.int .i64 (kd op 0)); exact Calls.quiet_of_same (isTemp _ _)) | (go_at_call_of 143 (Value.int .i64 (kd op 1)); exact Calls.quiet_of_same (isTemp _ _)) | (go_at_call_of 143 (Value.int .i64 (kd op 2)); exact Calls.quiet_of_same (isTemp _ _)))
  go_wp2
  refine bodyPost_ret (v := .tuple #[.bool (isT (kd op 0)), .bool (isT (kd op 1)), .bool (isT (kd op 2))]) ?_ rfl ⟨rfl, ?_⟩
  · simp [results, Tryz.results112, go_sem]
  · exact below_drewN (hb1.alloc hb1.size _) _
theorem leads (i : LIns) (pc : Nat) (hpc : pc ≤ 40) (w : World) :
    Calls Tryz.prog 145 #[i.val, .int .i64 pc] w fun e w' => (∃ v, e = .returned v ∧ IntsAt w.heap.size w' v (nextsI i pc)) ∧ Below w.heap.size w w' := by
  unfold LIns.val
  have y1 : (pc : Int) ≤ 40 := by omega
  have y0 : (0 : Int) ≤ (pc : Int) := by omega
  have HB2 : Hid (∀ o1 o2 : Obj, Below w.heap.size w ((w.alloc o1).alloc o2)) := fun o1 o2 => ((Below.refl _ _).alloc (Nat.le_refl _) _).alloc (by simp) _
  go_enter Tryz.func145, Tryz.ntmps145
  go_wp2
  all_goals go_ret
  · refine ⟨⟨.slice (some ⟨w.heap.size + 1, 0, none⟩) 1 1, rfl, ?_⟩, HB2.out _ _⟩
    rw [show nextsI i pc = [i.c] by unfold nextsI; simp_all]
    exact ints_one (by omega) (by simp [go_sem])
  · refine ⟨⟨.slice (some ⟨w.heap.size + 1, 0, none⟩) 2 2, rfl, ?_⟩, HB2.out _ _⟩
    rw [show nextsI i pc = [(pc : Int) + 1, i.c] by unfold nextsI; simp_all]
    exact ints_two (by omega) (by simp [go_sem]) (by simp [go_sem])
  · refine ⟨⟨.slice none 0 0, rfl, ?_⟩, (Below.refl _ _).alloc (Nat.le_refl _) _⟩
    rw [show nextsI i pc = [] by unfold nextsI; simp_all]
    exact ⟨none, 0, rfl, fun hh => absurd hh (by simp)⟩
  · refine ⟨⟨.slice (some ⟨w.heap.size + 1, 0, none⟩) 1 1, rfl, ?_⟩, HB2.out _ _⟩
    rw [show nextsI i pc = [(pc : Int) + 1] by unfold nextsI; simp_all]
    exact ints_one (by omega) (by simp [go_sem])
end form
/- With which instructions a program goes on behind one (layout.GoesOn): such of its ways as are there. -/
namespace form
open Go.RowKit
attribute [local go_sem ↓] Go.wp_at_zero Go.wp_at_succ
def thereB (nC : Nat) (x : Int) : Bool := decide (0 ≤ x) && decide (x < nC)
def goesI (nC : Nat) (i : LIns) (pc : Nat) : List Int := (nextsI i pc).filter (thereB nC)
def intV (x : Int) : Value := .int .i64 x
structure GS (w : World) (b1 o1 c1 nC : Nat) (l : List Int) (v : Value) (wr : World) : Prop where
  bel : Below w.heap.size w wr
  p1 : wr.cell? ⟨w.heap.size, 1, none⟩ = some (.slice (some ⟨b1, o1, none⟩) nC c1)
  own : wr.ownsRow (w.heap.size + 1) 3 1 v l.length (l.map intV)
section
variable {w : World} {b1 o1 c1 nC : Nat} {l : List Int} {v : Value} {wr w1 : World}
theorem GS.below (h : GS w b1 o1 c1 nC l v wr) (hb : Below wr.heap.size wr w1) : GS w b1 o1 c1 nC l v w1 :=
  ⟨step_below hb h.bel, step_cell hb h.p1, World.ownsRow.kept h.own ⟨hb.os, hb.tape, hb.output, hb.size, fun j hj _ => hb.block j hj⟩ (row := none) (by cases v.ownBlock <;> simp)⟩
theorem GS.ownNe (h : GS w b1 o1 c1 nC l v wr) {b : Nat} (hb : b < w.heap.size + 1) : v.ownBlock ≠ some b := fun e => by have := (World.ownsRow.lt h.own _ e).1; omega
theorem GS.push (h : GS w b1 o1 c1 nC l v wr) {g cap : Nat} {y : Int} (hz : w.heap.size + 1 ≤ wr.heap.size)
    (hown : w1.ownsRow (w.heap.size + 1) 3 1 (.slice (some ⟨g, 0, none⟩) (l.length + 1) cap) (l.length + 1) (l.map intV ++ [.int .i64 y])) (hgrow : wr.grownBy w1 v.ownBlock) :
    GS w b1 o1 c1 nC (l ++ [y]) (.slice (some ⟨g, 0, none⟩) (l.length + 1) cap) w1 :=
  ⟨h.bel.grown hgrow (by omega) (fun j hj => by have := (World.ownsRow.lt h.own _ hj).1; omega), by rw [hgrow.cell_far _ (by dsimp only; omega) (Ne.symm (h.ownNe (by dsimp only; omega)))]; exact h.p1, by simpa [intV] using hown⟩
theorem GS.ints (h : GS w b1 o1 c1 nC l v wr) : IntsAt w.heap.size wr v l := by
  by_cases hn : 0 < l.length
  · obtain ⟨g, cap, rfl, hbg, hlt⟩ := h.own.form hn
    refine ⟨_, cap, rfl, fun _ => ⟨g, rfl, by omega, hlt, fun j hj => ?_⟩⟩
    rw [World.ownsRow.cellAt h.own j (by omega)]
    simp [List.getD, hj, intV]
  · have hl : l = [] := List.length_eq_zero_iff.1 (by omega)
    subst hl
    rcases h.own.2 with ⟨rfl, _⟩ | ⟨g, cap, cur, rfl, _⟩
    · exact ⟨none, 0, rfl, fun hh => absurd hh (by simp)⟩
    · exact ⟨_, cap, rfl, fun hh => absurd hh (by simp)⟩
end
theorem take_filter {N : List Int} {q : Int → Bool} {j : Nat} (hj : j < N.length) : (N.take (j + 1)).filter q = (N.take j).filter q ++ (if q (N.getD j 0) then [N.getD j 0] else []) := by
  have e : N.getD j 0 = N[j] := by simp [List.getD, hj]
  rw [List.take_succ_eq_append_getElem hj, List.filter_append, e]
  cases h : q N[j] <;> simp [h]
set_option maxRecDepth 100000 in
set_option maxHeartbeats 1000000 in
theorem goesOn (b0 o0 c0 b1 o1 c1 : Nat) (B : List Bool) (C : List LIns) (k : Nat) (w : World) (hC : C.length ≤ 40) (h : Held w b0 o0 b1 o1 B C) (hk : k < C.length) :
    Calls Tryz.prog 113 #[progV b0 o0 B.length c0 b1 o1 C.length c1, .int .i64 k] w fun e w' => (∃ v, e = .returned v ∧ IntsAt w.heap.size w' v (goesI C.length (C.getD k .zero) k)) ∧ Below w.heap.size w w' := by
  obtain ⟨d0, d1, d2, d3, d4, d5⟩ := h.code k hk
  obtain ⟨i, hi⟩ : ∃ i, i = C.getD k .zero := ⟨_, rfl⟩
  rw [← hi] at d0 d1 d2 d3 d4 d5 ⊢
  clear hi
  have hlt1 := h.lt1
  have y0 : (0 : Int) ≤ (k : Int) := by omega
  have y1 : (k : Int) < (C.length : Int) := by omega
  have y2 : (C.length : Int) ≤ 40 := by omega
  unfold progV
  go_enter Tryz.func113, Tryz.ntmps113
  go_wp2_with (first
    | (go_at_call 144; refine (isIn _ _ _).mono ?_; rintro e w' ⟨rfl, rfl⟩)
    | (go_at_call 145; refine (leads i k (by omega) _).mono ?_; rintro e w3 ⟨⟨nv, rfl, hnv⟩, hb3⟩; have HNV : Hid _ := hnv; obtain ⟨nao, ncap, rfl, -⟩ := hnv; have HB3 : Hid (Below (w.alloc (.cells #[.slice (some ⟨b0, o0, none⟩) B.length c0, .slice (some ⟨b1, o1, none⟩) C.length c1] 27)).heap.size (w.alloc (.cells #[.slice (some ⟨b0, o0, none⟩) B.length c0, .slice (some ⟨b1, o1, none⟩) C.length c1] 27)) w3) := hb3))
  have hnl : (nextsI i k).length ≤ 2 := nexts_len i k
  obtain ⟨N, hN⟩ : ∃ N, N = nextsI i k := ⟨_, rfl⟩
  rw [← hN] at hnl HNV ⊢
  have HN : Hid (nextsI i k = N) := hN.symm
  clear hN
  have z3 : (N.length : Int) ≤ 2 := by omega
  have HG0 : Hid (GS w b1 o1 c1 C.length [] (.slice none 0 0) w3) := ⟨over_alloc HB3.out, step_cell HB3.out (by simp [go_sem]), World.ownsRow_nil _ _ _ _⟩
  have HW3 : Hid (0 < N.length → ∃ gb, nao = some ⟨gb, 0, none⟩ ∧ w.heap.size + 1 ≤ gb ∧ gb < w3.heap.size ∧ ∀ q, q < N.length → w3.cell? ⟨gb, q, none⟩ = some (.int .i64 (N.getD q 0))) := by
    intro h0
    obtain ⟨_, _, he, hh⟩ := HNV.out
    simp at he
    obtain ⟨rfl, rfl⟩ := he
    obtain ⟨gb, e1, e2, e3, e4⟩ := hh h0
    simp at e2
    exact ⟨gb, e1, by omega, e3, e4⟩
  clear HNV HB3 hb3 d0 d1 d2 d3 d4 d5
  go_loopw [5, 22] (fun v jv wr => ∃ (j : Nat) (v0 : Value), v0 = v ∧ jv = .int .i64 j ∧ j ≤ N.length ∧ GS w b1 o1 c1 C.length ((N.take j).filter (thereB C.length)) v wr ∧
      (0 < N.length → ∃ gb, nao = some ⟨gb, 0, none⟩ ∧ w.heap.size + 1 ≤ gb ∧ gb < wr.heap.size ∧ v.ownBlock ≠ some gb ∧ ∀ q, q < N.length → wr.cell? ⟨gb, q, none⟩ = some (.int .i64 (N.getD q 0)))) (fun _ jv _ => N.length - (intOf jv).toNat)
  case atStart =>
    refine ⟨0, _, rfl, rfl, by omega, by simpa using HG0.out, fun h0 => ?_⟩
    obtain ⟨gb, e1, e2, e3, e4⟩ := HW3.out h0
    exact ⟨gb, e1, e2, e3, by simp [Value.ownBlock], e4⟩
  case round =>
    obtain ⟨j, v, rfl, rfl, hj, hgs, hnx⟩ := hrel
    obtain ⟨l, hl⟩ : ∃ l, l = (N.take j).filter (thereB C.length) := ⟨_, rfl⟩
    rw [← hl] at hgs
    have HL : Hid (l = (N.take j).filter (thereB C.length)) := hl
    have hll : l.length ≤ 2 := by rw [hl]; exact Nat.le_trans (List.length_filter_le _ _) (by simp; omega)
    clear hl
    have HGS : Hid (GS w b1 o1 c1 C.length l v wr) := hgs
    have HNX : Hid (0 < N.length → ∃ gb, nao = some ⟨gb, 0, none⟩ ∧ w.heap.size + 1 ≤ gb ∧ gb < wr.heap.size ∧ v.ownBlock ≠ some gb ∧ ∀ q, q < N.length → wr.cell? ⟨gb, q, none⟩ = some (.int .i64 (N.getD q 0))) := hnx
    have p1 := hgs.p1
    have hzz : w.heap.size < wr.heap.size := World.block_lt_of_cell? wr _ p1
    clear hgs hnx
    by_cases hjl : j < N.length
    case neg =>
      have y9 : ¬ (j : Int) < (N.length : Int) := by omega
      go_wp2
      go_ret
      refine ⟨⟨_, rfl, ?_⟩, HGS.out.bel⟩
      obtain rfl : j = N.length := by omega
      have := HGS.out.ints
      rw [HL.out, List.take_length] at this
      unfold goesI
      rw [HN.out]
      exact this
    obtain ⟨gb, rfl, hgb1, hgb2, hgb3, hgbc⟩ := HNX.out (by omega)
    have nj := hgbc j hjl
    obtain ⟨Y, hY⟩ : ∃ Y, Y = N.getD j 0 := ⟨_, rfl⟩
    rw [← hY] at nj
    have HY : Hid (Y = N.getD j 0) := hY
    have HGBC : Hid (∀ q, q < N.length → wr.cell? ⟨gb, q, none⟩ = some (.int .i64 (N.getD q 0))) := hgbc
    have y8 : (j : Int) < (N.length : Int) := by omega
    have y7 : (0 : Int) ≤ (j : Int) := by omega
    clear hgbc hY
    obtain ⟨t0', hi0, hy0, hy1, hy2⟩ := info_parts infInt
    cases hq : thereB C.length Y with
    | false =>
      have HQ : Hid (thereB C.length Y = false) := hq
      have hq2 : (decide (0 ≤ Y) && decide (Y < (C.length : Int))) = false := hq
      clear hq
      go_wp2_with (go_at_call 144; refine (isIn _ _ _).mono ?_; rw [hq2]; rintro e w' ⟨rfl, hw'⟩; obtain rfl := hw'.symm)
      refine ⟨⟨j + 1, _, rfl, by go_num, by omega, ?_, fun _ => ⟨gb, rfl, hgb1, hgb2, hgb3, HGBC.out⟩⟩, by simp [intOf]; omega⟩
      rw [take_filter hjl, ← HL.out, ← HY.out, HQ.out]
      simpa using HGS.out
    | true =>
      have HQ : Hid (thereB C.length Y = true) := hq
      have hq2 : (decide (0 ≤ Y) && decide (Y < (C.length : Int))) = true := hq
      clear hq
      go_wp2_with (first | (go_at_call 144; refine (isIn _ _ _).mono ?_; rw [hq2]; rintro e w' ⟨rfl, hw'⟩; obtain rfl := hw'.symm) | (at_builtin; refine wpList_append_lies _ rfl _ _ 114 rfl (w.heap.size + 1) 3 t0' (.int .i64 0) 1 8 Tryz.underlying114 hi0 hy0 hy1 hy2 rfl (by decide) v l.length (l.map intV) rfl (World.ownsRow.alloc HGS.out.own _) ⟨wr.heap.size, 0, none⟩ 1 1 [.int .i64 Y] rfl rfl ?c1 ?c2 (by decide) ?c3 ?c4 ?c5 _ rfl ?_))
      case c1 => exact World.news_of_block (cs := #[.int .i64 Y]) (t := 3) (fr := (0, 0)) (by have := heap_alloc_new wr (.cells #[.int .i64 Y] 3); simpa using this)
      case c2 => simp [Value.oneCell']
      case c3 => unfold maxLen; omega
      case c4 => omega
      case c5 => simp; omega
      intro g9 cap9 w9 hown hgrow hat hlt9
      have hP := (HGS.out.below ((Below.refl _ _).alloc (Nat.le_refl _) (.cells #[.int .i64 Y] 3))).push (by simp; omega) hown hgrow
      have hN9 : ∃ gb', some (⟨gb, 0, none⟩ : Addr) = some ⟨gb', 0, none⟩ ∧ w.heap.size + 1 ≤ gb' ∧ gb' < w9.heap.size ∧ (Value.slice (some ⟨g9, 0, none⟩) (l.length + 1) cap9).ownBlock ≠ some gb' ∧ ∀ q, q < N.length → w9.cell? ⟨gb', q, none⟩ = some (.int .i64 (N.getD q 0)) := by
        have hz9 : wr.heap.size < w9.heap.size := by have := hgrow.size; simp at this; omega
        refine ⟨gb, rfl, hgb1, by omega, ?_, fun q hq => ?_⟩
        · simp only [Value.ownBlock, ne_eq, Option.some.injEq]
          rcases hat with hat | hat
          · intro e; rw [e] at hat; exact hgb3 hat
          · omega
        · rw [hgrow.cell_far _ (by simp; omega) (Ne.symm hgb3)]
          exact step_cell ((Below.refl _ _).alloc (Nat.le_refl _) _) (HGBC.out q hq)
      have R : Hid (GS w b1 o1 c1 C.length (l ++ [Y]) (.slice (some ⟨g9, 0, none⟩) (l.length + 1) cap9) w9) := hP
      have RN : Hid (∃ gb', some (⟨gb, 0, none⟩ : Addr) = some ⟨gb', 0, none⟩ ∧ w.heap.size + 1 ≤ gb' ∧ gb' < w9.heap.size ∧ (Value.slice (some ⟨g9, 0, none⟩) (l.length + 1) cap9).ownBlock ≠ some gb' ∧ ∀ q, q < N.length → w9.cell? ⟨gb', q, none⟩ = some (.int .i64 (N.getD q 0))) := hN9
      clear hP hN9 hown hgrow hat
      go_wp2
      refine ⟨⟨j + 1, _, rfl, by go_num, by omega, ?_, fun _ => RN.out⟩, by simp [intOf]; omega⟩
      rw [take_filter hjl, ← HL.out, ← HY.out, HQ.out]
      simpa using R.out
end form
end Go.Proofs.YtikhedkhgpjaaacGreatDoor
