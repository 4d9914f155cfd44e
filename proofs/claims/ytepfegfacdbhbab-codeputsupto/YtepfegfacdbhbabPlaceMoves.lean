/- What the document's functions on moves answer: move, moves, register. -/
import Derived.Test.YtepfegfacdbhbabPlaceRef
namespace Go.Proofs.Ytepfegfacdbhbab.form
open Go.RowKit
set_option linter.unusedVariables false
attribute [local go_sem ↓] Go.wp_at_zero Go.wp_at_succ

set_option maxRecDepth 100000 in
set_option maxHeartbeats 1000000 in
theorem move6 (s slots : Int) (m : LMove) (w : World) : Calls Try.prog 93 #[targetV s, .int .i64 slots, m.val] w fun e w' => e = .returned (.bool (moveB s slots m)) ∧ Below w.heap.size w w' := by
  unfold targetV LMove.val
  cases hd : isB s slots m.dst
  case false =>
    go_enter Try.func93, Try.ntmps93
    go_wp2_with (go_at_call 14; refine (is6 s slots m.dst _).mono ?_; rintro e w1 ⟨rfl, hb1⟩; rw [hd])
    go_ret
    exact ⟨ret_bool (by simp [moveB, hd]), over_alloc (over_alloc hb1)⟩
  cases hc : m.cst
  case true =>
    rcases (show (m.src.kind == 0) = false ∨ ((m.src.kind == 0) = true ∧ (m.src.n == 0) = false) ∨ ((m.src.kind == 0) = true ∧ (m.src.n == 0) = true) by cases (m.src.kind == 0) <;> cases (m.src.n == 0) <;> simp) with e1 | ⟨e1, e2⟩ | ⟨e1, e2⟩
    all_goals
      go_enter Try.func93, Try.ntmps93
      go_wp2_with (go_at_call 14; refine (is6 s slots m.dst _).mono ?_; rintro e w1 ⟨rfl, hb1⟩; rw [hd]; have t4 : w1.cell? ⟨w.heap.size + 1, 4, none⟩ = some (.bool true) := step_cell hb1 (by simp [go_sem]); have t2 : w1.cell? ⟨w.heap.size + 1, 2, none⟩ = some (.int .i64 m.src.kind) := step_cell hb1 (by simp [go_sem]); have t3 : w1.cell? ⟨w.heap.size + 1, 3, none⟩ = some (.int .i64 m.src.n) := step_cell hb1 (by simp [go_sem]); have t0 : w1.cell? ⟨w.heap.size + 1, 0, none⟩ = some (.int .i64 m.dst.kind) := step_cell hb1 (by simp [go_sem]))
      go_ret
      refine ⟨ret_bool ?_, over_alloc (over_alloc hb1)⟩
      unfold moveB
      rw [hd, hc, e1]
      first | rfl | (rw [e2]; rfl)
  case false =>
    have step : ∀ (w1 : World), Below ((w.alloc (.cells #[.int .i64 s] 37)).alloc (.cells #[.int .i64 m.dst.kind, .int .i64 m.dst.n, .int .i64 m.src.kind, .int .i64 m.src.n, .bool false, .int .u32 m.n] 158)).heap.size ((w.alloc (.cells #[.int .i64 s] 37)).alloc (.cells #[.int .i64 m.dst.kind, .int .i64 m.dst.n, .int .i64 m.src.kind, .int .i64 m.src.n, .bool false, .int .u32 m.n] 158)) w1 →
        w1.cell? ⟨w.heap.size, 0, none⟩ = some (.int .i64 s) ∧ w1.cell? ⟨w.heap.size + 1, 0, none⟩ = some (.int .i64 m.dst.kind) ∧ w1.cell? ⟨w.heap.size + 1, 2, none⟩ = some (.int .i64 m.src.kind) ∧ w1.cell? ⟨w.heap.size + 1, 3, none⟩ = some (.int .i64 m.src.n) ∧ w1.cell? ⟨w.heap.size + 1, 4, none⟩ = some (.bool false) ∧ w1.cell? ⟨w.heap.size + 1, 5, none⟩ = some (.int .u32 m.n) := by
      intro w1 hb1
      exact ⟨step_cell hb1 (by simp [go_sem]), step_cell hb1 (by simp [go_sem]), step_cell hb1 (by simp [go_sem]), step_cell hb1 (by simp [go_sem]), step_cell hb1 (by simp [go_sem]), step_cell hb1 (by simp [go_sem])⟩
    have HS : Hid _ := step
    clear step
    rcases Bool.eq_false_or_eq_true (m.n != 0) with en | en
    · go_enter Try.func93, Try.ntmps93
      go_wp2_with (go_at_call 14; refine (is6 s slots m.dst _).mono ?_; rintro e w1 ⟨rfl, hb1⟩; rw [hd]; obtain ⟨t0, t1, t2, t3, t4, t5⟩ := HS.out w1 hb1)
      go_ret
      refine ⟨ret_bool ?_, over_alloc (over_alloc hb1)⟩
      unfold moveB
      rw [hd, hc, show (m.n == 0) = false by simpa using en]
      rfl
    · have en2 : (m.n == 0) = true := by simpa using en
      cases hq : isB s slots m.src
      · have HQ : Hid (moveB s slots m = false) := by show moveB s slots m = false; unfold moveB; rw [hd, hc, en2, hq]; rfl
        go_enter Try.func93, Try.ntmps93
        go_wp2_with fail
        go_at_call 14
        refine (is6 s slots m.dst _).mono ?_
        rintro e w1 ⟨rfl, hb1⟩
        rw [hd]
        obtain ⟨t0, t1, t2, t3, t4, t5⟩ := HS.out w1 hb1
        go_wp2_with fail
        go_at_call 14
        refine (is6 s slots m.src _).mono ?_
        rintro e w2 ⟨rfl, hb2⟩
        rw [hq]
        go_wp2
        go_ret
        exact ⟨ret_bool HQ.out.symm, step_below hb2 (over_alloc (over_alloc hb1))⟩
      · rcases (show (m.dst.kind == 3) = true ∨ ((m.dst.kind == 3) = false ∧ (m.src.kind == 3) = true) ∨ ((m.dst.kind == 3) = false ∧ (m.src.kind == 3) = false) by cases (m.dst.kind == 3) <;> cases (m.src.kind == 3) <;> simp) with e1 | ⟨e1, e2⟩ | ⟨e1, e2⟩
        all_goals
          have HQ : Hid (moveB s slots m = if m.dst.kind == 3 then m.src.kind != 3 else (m.src.kind == 3) || (m.src.kind == m.dst.kind)) := by show moveB s slots m = _; unfold moveB; rw [hd, hc, en2, hq]; rfl
          go_enter Try.func93, Try.ntmps93
          go_wp2_with fail
          go_at_call 14
          refine (is6 s slots m.dst _).mono ?_
          rintro e w1 ⟨rfl, hb1⟩
          rw [hd]
          obtain ⟨t0, t1, t2, t3, t4, t5⟩ := HS.out w1 hb1
          go_wp2_with fail
          go_at_call 14
          refine (is6 s slots m.src _).mono ?_
          rintro e w2 ⟨rfl, hb2⟩
          rw [hq]
          have v1 := step_cell hb2 t1
          have v2 := step_cell hb2 t2
          clear t0 t1 t2 t3 t4 t5
          go_wp2
          go_ret
          refine ⟨ret_bool ?_, step_below hb2 (over_alloc (over_alloc hb1))⟩
          rw [HQ.out, e1]
          first | rfl | (rw [e2]; rfl)

/-- Some moves in memory. -/
def MovesIs (w : World) (v : Value) (l : List LMove) : Prop :=
  ∃ ao cap, v = .slice ao l.length cap ∧ l.length ≤ 9223372036854775807 ∧ (0 < l.length → ∃ b o, ao = some ⟨b, o, none⟩ ∧ b < w.heap.size ∧ ∀ k, k < l.length → w.cell? ⟨b, o + k * 6, none⟩ = some (.int .i64 (l.getD k .zero).dst.kind) ∧ w.cell? ⟨b, o + k * 6 + 1, none⟩ = some (.int .i64 (l.getD k .zero).dst.n) ∧ w.cell? ⟨b, o + k * 6 + 2, none⟩ = some (.int .i64 (l.getD k .zero).src.kind) ∧ w.cell? ⟨b, o + k * 6 + 3, none⟩ = some (.int .i64 (l.getD k .zero).src.n) ∧ w.cell? ⟨b, o + k * 6 + 4, none⟩ = some (.bool (l.getD k .zero).cst) ∧ w.cell? ⟨b, o + k * 6 + 5, none⟩ = some (.int .u32 (l.getD k .zero).n))

theorem MovesIs.later {w w' : World} {v : Value} {l : List LMove} (h : MovesIs w v l) (hb : Below w.heap.size w w') : MovesIs w' v l := by
  obtain ⟨ao, cap, hv, hl, hc⟩ := h
  refine ⟨ao, cap, hv, hl, fun h0 => ?_⟩
  obtain ⟨b, o, e, hlt, hcell⟩ := hc h0
  refine ⟨b, o, e, Nat.lt_of_lt_of_le hlt hb.size, fun k hk => ?_⟩
  obtain ⟨c0, c1, c2, c3, c4, c5⟩ := hcell k hk
  exact ⟨step_cell hb c0, step_cell hb c1, step_cell hb c2, step_cell hb c3, step_cell hb c4, step_cell hb c5⟩

def movesB (s slots : Int) (l : List LMove) : Bool := decide (l.length ≤ 6) && l.all (moveB s slots)

set_option maxRecDepth 100000 in
set_option maxHeartbeats 1000000 in
theorem moves6 (s slots : Int) (v : Value) (l : List LMove) (w : World) (h : MovesIs w v l) : Calls Try.prog 53 #[targetV s, .int .i64 slots, v] w fun e w' => e = .returned (.bool (movesB s slots l)) ∧ Below w.heap.size w w' := by
  obtain ⟨ao, cap, rfl, hl, hc⟩ := h
  have HC : Hid _ := hc
  clear hc
  unfold targetV
  by_cases h6 : l.length ≤ 6
  case neg =>
    have hg : (6 : Int) < (l.length : Int) := by omega
    go_enter Try.func53, Try.ntmps53
    go_wp2
    go_ret
    exact ⟨ret_bool (by simp [movesB, h6]), (Below.refl _ _).alloc (Nat.le_refl _) _⟩
  have hg : (l.length : Int) ≤ 6 := by omega
  go_enter Try.func53, Try.ntmps53
  go_wp2
  go_loopw [7] (fun i wr => ∃ k : Nat, k ≤ l.length ∧ i = .int .i64 k ∧ Below w.heap.size w wr ∧ wr.cell? ⟨w.heap.size, 0, none⟩ = some (.int .i64 s) ∧ (∀ j, j < k → moveB s slots (l.getD j .zero) = true)) (fun i _ => l.length - (intOf i).toNat)
  case atStart => exact ⟨0, by omega, rfl, (Below.refl _ _).alloc (Nat.le_refl _) _, by simp [go_sem], fun j hj => absurd hj (by omega)⟩
  case round =>
    obtain ⟨k, hk, rfl, hbel, cp0, hall⟩ := hrel
    have F : Hid _ := hall
    clear hall
    by_cases hlt : k < l.length
    · obtain ⟨b, o, rfl, hbl, hcell⟩ := HC.out (by omega)
      obtain ⟨d0, d1, d2, d3, d4, d5⟩ := hcell k hlt
      have d0 := step_cell hbel d0
      have d1 := step_cell hbel d1
      have d2 := step_cell hbel d2
      have d3 := step_cell hbel d3
      have d4 := step_cell hbel d4
      have d5 := step_cell hbel d5
      obtain ⟨m, hi⟩ : ∃ m, m = l.getD k .zero := ⟨_, rfl⟩
      rw [← hi] at d0 d1 d2 d3 d4 d5
      have HI : Hid (m = l.getD k .zero) := hi
      clear hi hcell
      have y1 : (0 : Int) ≤ (k : Int) := by omega
      have y2 : (k : Int) < (l.length : Int) := by omega
      go_wp2
      go_region_held3 (fun w' => Below wr.heap.size wr w' ∧ w'.cell? ⟨w.heap.size, 0, none⟩ = some (.int .i64 s) ∧ w'.cell? ⟨b, o + k * 6, none⟩ = some (.int .i64 m.dst.kind) ∧ w'.cell? ⟨b, o + k * 6 + 1, none⟩ = some (.int .i64 m.dst.n) ∧ w'.cell? ⟨b, o + k * 6 + 2, none⟩ = some (.int .i64 m.src.kind) ∧ w'.cell? ⟨b, o + k * 6 + 3, none⟩ = some (.int .i64 m.src.n) ∧ w'.cell? ⟨b, o + k * 6 + 4, none⟩ = some (.bool m.cst) ∧ w'.cell? ⟨b, o + k * 6 + 5, none⟩ = some (.int .u32 m.n))
        ((go_split_ands; refine ⟨?_, ?_, ?_, ?_, ?_, ?_, ?_, ?_⟩ <;> first | exact (Below.refl _ _).drew | exact ((Below.refl _ _).drew).trans hb1 | exact step_cell hb1 (by assumption) | go_keep))
        ((go_at_call 93; refine (move6 s slots m _).mono ?_; rintro e w1 ⟨rfl, hb1⟩))
      rename_i hHeldx
      have hb2 : Below wr.heap.size wr w1 := hHeldx.1
      clear hHeldx hb1
      have R : Hid _ := (⟨step_below hb2 hbel, step_cell hb2 cp0⟩ : _ ∧ _)
      clear hb2 d0 d1 d2 d3 d4 d5 cp0
      go_wp2
      · go_ret
        refine ⟨ret_bool ?_, R.out.1⟩
        have hf : moveB s slots m = false := by simp_all
        unfold movesB
        rw [eq_comm, Bool.and_eq_false_iff]
        right
        rw [List.all_eq_false]
        refine ⟨m, ?_, by simp [hf]⟩
        rw [HI.out]
        simp [List.getD, hlt]
      · obtain ⟨r1, r2⟩ := R.out
        refine ⟨⟨k + 1, by omega, by go_num, r1, r2, ?_⟩, by simp [intOf]; omega⟩
        intro j hj
        by_cases hjk : j < k
        · exact F.out j hjk
        · obtain rfl : j = k := by omega
          rw [← HI.out]
          simp_all
    · go_wp2
      go_ret
      refine ⟨ret_bool ?_, hbel⟩
      unfold movesB
      rw [eq_comm, Bool.and_eq_true]
      refine ⟨by simp [h6], ?_⟩
      rw [List.all_eq_true]
      intro x hx
      obtain ⟨j, hj, rfl⟩ := List.getElem_of_mem hx
      have := F.out j (by omega)
      simpa [List.getD, hj] using this

def regB (B : List Bool) (s : Int) (t : Int) (p : LPlace) : Bool := (p.kind == if B.getD t.toNat false then 2 else 1) && isB s 0 p

set_option maxRecDepth 100000 in
set_option maxHeartbeats 1000000 in
theorem register6 (b0 o0 c0 b1 o1 c1 : Nat) (B : List Bool) (C : List LIns) (s t : Int) (p : LPlace) (w : World) (hB : B.length ≤ 12) (h : Held w b0 o0 b1 o1 B C) (ht0 : 0 ≤ t) (ht1 : t < B.length) :
    Calls Try.prog 52 #[progV b0 o0 B.length c0 b1 o1 C.length c1, targetV s, .int .i64 t, p.val] w fun e w' => e = .returned (.bool (regB B s t p)) ∧ Below w.heap.size w w' := by
  have hc := h.wide t.toNat (by omega)
  have hlt0 := h.lt0
  have hlt0b : b0 < w.heap.size + 1 := by omega
  have hlt0c : b0 < w.heap.size + 1 + 1 := by omega
  have HE : Hid (regB B s t p = ((p.kind == if B.getD t.toNat false then 2 else 1) && isB s 0 p)) := rfl
  obtain ⟨x, hx⟩ : ∃ x, x = B.getD t.toNat false := ⟨_, rfl⟩
  rw [← hx] at hc
  have HE2 : Hid (regB B s t p = ((p.kind == if x then 2 else 1) && isB s 0 p)) := by rw [hx]; exact HE.out
  clear hx HE
  unfold progV targetV LPlace.val
  cases x
  · rcases Bool.eq_false_or_eq_true (p.kind == 1) with e1 | e1
    all_goals
      go_enter Try.func52, Try.ntmps52
      go_wp2_with (go_at_call 14; refine (is6 s 0 p _).mono ?_; rintro e w1 ⟨rfl, hb1⟩)
      go_ret
    · exact ⟨ret_bool (by rw [HE2.out]; simp only [Bool.false_eq_true, if_false]; rw [e1]; try simp), over_alloc (over_alloc (over_alloc hb1))⟩
    · exact ⟨ret_bool (by rw [HE2.out]; simp only [Bool.false_eq_true, if_false]; rw [e1]; rfl), (((Below.refl _ _).alloc (Nat.le_refl _) _).alloc (by simp) _).alloc (by simp; omega) _⟩
  · rcases Bool.eq_false_or_eq_true (p.kind == 2) with e1 | e1
    all_goals
      go_enter Try.func52, Try.ntmps52
      go_wp2_with (go_at_call 14; refine (is6 s 0 p _).mono ?_; rintro e w1 ⟨rfl, hb1⟩)
      go_ret
    · exact ⟨ret_bool (by rw [HE2.out]; simp only [if_true]; rw [e1]; try simp), over_alloc (over_alloc (over_alloc hb1))⟩
    · exact ⟨ret_bool (by rw [HE2.out]; simp only [if_true]; rw [e1]; rfl), (((Below.refl _ _).alloc (Nat.le_refl _) _).alloc (by simp) _).alloc (by simp; omega) _⟩

end Go.Proofs.Ytepfegfacdbhbab.form
