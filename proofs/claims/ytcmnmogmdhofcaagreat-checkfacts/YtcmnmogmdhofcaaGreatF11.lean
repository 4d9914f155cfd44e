/- What the program's own functions on moves and targets answer: holds, isEmpty, kindsMay, moveMay, movesMay, mostAfter, targetMay, roomOf. -/
import Derived.Deep.RegionHeld3
import Derived.Deep.DrawnRows
import Derived.Test.YtcmnmogmdhofcaaGreatF10
import Derived.Test.YtcmnmogmdhofcaaGreatF04

namespace Go.Proofs.YtcmnmogmdhofcaaGreat.form
open Go.RowKit
set_option linter.unusedVariables false
attribute [local go_sem ↓] Go.wp_at_zero Go.wp_at_succ

def emptyB (p : LPlace) : Bool := (p.kind == 0) && (p.n == 0)

set_option maxRecDepth 100000 in
theorem isEmpty (p : LPlace) (w : World) : Calls Tryz.prog 63 #[p.val] w fun e w' => e = .returned (.bool (emptyB p)) ∧ Below w.heap.size w w' := by
  unfold LPlace.val
  have HB : Hid (∀ o1 : Obj, Below w.heap.size w (w.alloc o1)) := fun o1 => (Below.refl _ _).alloc (Nat.le_refl _) _
  have q57 := eqPlace
  go_enter Tryz.func63, Tryz.ntmps63
  go_wp2
  go_ret
  exact ⟨ret_bool rfl, HB.out _⟩

def kindsB (a b : Int) : Bool := if a = b then a != 3 else (a == 3) || (b == 3)
theorem kindsMay (a b : Int) (w : World) : Calls Tryz.prog 78 #[.int .i64 a, .int .i64 b] w fun e w' => e = .returned (.bool (kindsB a b)) ∧ w' = w := by
  by_cases h : a = b
  · have e1 : (a == b) = true := by simp [h]
    have HE : Hid (kindsB a b = (a != 3)) := by show kindsB a b = _; unfold kindsB; rw [if_pos h]
    clear h
    go_enter Tryz.func78, Tryz.ntmps78
    go_wp2
    go_ret
    exact ⟨ret_bool (by rw [HE.out]; try rfl), rfl⟩
  · have e1 : (a == b) = false := by simp [h]
    have HE : Hid (kindsB a b = ((a == 3) || (b == 3))) := by show kindsB a b = _; unfold kindsB; rw [if_neg h]
    clear h
    rcases Bool.eq_false_or_eq_true (a == 3) with e2 | e2
    all_goals
      go_enter Tryz.func78, Tryz.ntmps78
      go_wp2
      go_ret
      exact ⟨ret_bool (by rw [HE.out, e2]; simp), rfl⟩

def holdB (a b c : Int) (p : LPlace) (wide : Bool) : Bool := (p.kind == if wide then 2 else 1) && hasB a b c p
set_option maxRecDepth 100000 in
set_option maxHeartbeats 1000000 in
theorem holds (a b c : Int) (p : LPlace) (wide : Bool) (w : World) : Calls Tryz.prog 62 #[roomV a b c, p.val, .bool wide] w fun e w' => e = .returned (.bool (holdB a b c p wide)) ∧ Below w.heap.size w w' := by
  unfold roomV LPlace.val
  have HB : Hid (∀ o1 o2 : Obj, Below w.heap.size w ((w.alloc o1).alloc o2)) := fun o1 o2 => ((Below.refl _ _).alloc (Nat.le_refl _) _).alloc (by simp) _
  cases wide
  · have HE : Hid (holdB a b c p false = ((p.kind == 1) && hasB a b c p)) := rfl
    rcases Bool.eq_false_or_eq_true (p.kind == 1) with e1 | e1
    all_goals
      go_enter Tryz.func62, Tryz.ntmps62
      go_wp2_with (go_at_call 77; refine (roomHas a b c p _).mono ?_; rintro e w1 ⟨rfl, hb1⟩)
      go_ret
    · exact ⟨ret_bool (by rw [HE.out, e1]; rfl), over_alloc (over_alloc hb1)⟩
    · exact ⟨ret_bool (by rw [HE.out, e1]; rfl), HB.out _ _⟩
  · have HE : Hid (holdB a b c p true = ((p.kind == 2) && hasB a b c p)) := rfl
    rcases Bool.eq_false_or_eq_true (p.kind == 2) with e1 | e1
    all_goals
      go_enter Tryz.func62, Tryz.ntmps62
      go_wp2_with (go_at_call 77; refine (roomHas a b c p _).mono ?_; rintro e w1 ⟨rfl, hb1⟩)
      go_ret
    · exact ⟨ret_bool (by rw [HE.out, e1]; rfl), over_alloc (over_alloc hb1)⟩
    · exact ⟨ret_bool (by rw [HE.out, e1]; rfl), HB.out _ _⟩

def mostI (op : Int) : Int := if op = 8 ∨ op = 9 ∨ op = 10 then 0 else 6
theorem mostAfter (op : Int) (w : World) : Calls Tryz.prog 43 #[.int .i64 op] w fun e w' => e = .returned (.int .i64 (mostI op)) ∧ w' = w := by
  go_enter Tryz.func43, Tryz.ntmps43
  go_wp2
  all_goals
    go_ret
    refine ⟨?_, rfl⟩
    unfold mostI
    simp_all

set_option maxRecDepth 100000 in
theorem targetMay (s : Int) (w : World) : Calls Tryz.prog 21 #[targetV s] w fun e w' => e = .returned (.bool (targetB s)) ∧ Below w.heap.size w w' := by
  unfold targetV
  have HB : Hid (∀ o1 : Obj, Below w.heap.size w (w.alloc o1)) := fun o1 => (Below.refl _ _).alloc (Nat.le_refl _) _
  rcases (show ¬ 4 ≤ s ∨ (4 ≤ s ∧ ¬ s ≤ 16) ∨ (4 ≤ s ∧ s ≤ 16) by omega) with h | ⟨h, h1⟩ | ⟨h, h1⟩
  · have HE : Hid (targetB s = false) := by show targetB s = false; unfold targetB; simp; omega
    go_enter Tryz.func21, Tryz.ntmps21
    go_wp2
    go_ret
    exact ⟨ret_bool HE.out.symm, HB.out _⟩
  · have HE : Hid (targetB s = false) := by show targetB s = false; unfold targetB; simp; omega
    go_enter Tryz.func21, Tryz.ntmps21
    go_wp2
    go_ret
    exact ⟨ret_bool HE.out.symm, HB.out _⟩
  · have HE : Hid (targetB s = (s % 2 == 0)) := by show targetB s = _; unfold targetB; rw [Bool.eq_iff_iff]; simp; omega
    go_enter Tryz.func21, Tryz.ntmps21
    go_wp2
    go_ret
    exact ⟨ret_bool (by rw [HE.out]; try rfl), HB.out _⟩

set_option maxRecDepth 100000 in
theorem roomOf (s slots : Int) (h0 : 4 ≤ s) (h1 : s ≤ 16) (w : World) : Calls Tryz.prog 23 #[targetV s, .int .i64 slots] w fun e w' => e = .returned (roomV s (s / 2) slots) ∧ Below w.heap.size w w' := by
  unfold targetV
  have HB : Hid (∀ o1 o2 : Obj, Below w.heap.size w ((w.alloc o1).alloc o2)) := fun o1 o2 => ((Below.refl _ _).alloc (Nat.le_refl _) _).alloc (by simp) _
  go_enter Tryz.func23, Tryz.ntmps23
  go_wp2
  refine bodyPost_ret (v := roomV s (s / 2) slots) ?_ rfl ⟨rfl, HB.out _ _⟩
  simp [results, Tryz.results23, go_sem, roomV]

def moveO (a b c : Int) (m : LMove) : Bool := if m.cst then emptyB m.src && holdB a b c m.dst false else (m.n == 0) && hasB a b c m.dst && hasB a b c m.src && kindsB m.dst.kind m.src.kind

set_option maxRecDepth 100000 in
set_option maxHeartbeats 1000000 in
theorem moveMay (a b c : Int) (m : LMove) (w : World) : Calls Tryz.prog 64 #[roomV a b c, m.val] w fun e w' => e = .returned (.bool (moveO a b c m)) ∧ Below w.heap.size w w' := by
  unfold roomV LMove.val
  have HB : Hid (∀ o1 o2 : Obj, Below w.heap.size w ((w.alloc o1).alloc o2)) := fun o1 o2 => ((Below.refl _ _).alloc (Nat.le_refl _) _).alloc (by simp) _
  obtain ⟨k, hk⟩ : ∃ k, k = m.cst := ⟨_, rfl⟩
  rw [← hk]
  have HK : Hid (m.cst = k) := hk.symm
  clear hk
  have step : ∀ (w1 : World), Below ((w.alloc (.cells #[.int .i64 0, .int .i64 a, .int .i64 b, .int .i64 c] 72)).alloc (.cells #[.int .i64 m.dst.kind, .int .i64 m.dst.n, .int .i64 m.src.kind, .int .i64 m.src.n, .bool k, .int .u32 m.n] 94)).heap.size ((w.alloc (.cells #[.int .i64 0, .int .i64 a, .int .i64 b, .int .i64 c] 72)).alloc (.cells #[.int .i64 m.dst.kind, .int .i64 m.dst.n, .int .i64 m.src.kind, .int .i64 m.src.n, .bool k, .int .u32 m.n] 94)) w1 →
      Below w.heap.size w w1 ∧ w1.cell? ⟨w.heap.size, 0, none⟩ = some (.int .i64 0) ∧ w1.cell? ⟨w.heap.size, 1, none⟩ = some (.int .i64 a) ∧ w1.cell? ⟨w.heap.size, 2, none⟩ = some (.int .i64 b) ∧ w1.cell? ⟨w.heap.size, 3, none⟩ = some (.int .i64 c) ∧ w1.cell? ⟨w.heap.size + 1, 0, none⟩ = some (.int .i64 m.dst.kind) ∧ w1.cell? ⟨w.heap.size + 1, 1, none⟩ = some (.int .i64 m.dst.n) ∧ w1.cell? ⟨w.heap.size + 1, 2, none⟩ = some (.int .i64 m.src.kind) ∧ w1.cell? ⟨w.heap.size + 1, 3, none⟩ = some (.int .i64 m.src.n) := by
    intro w1 hb1
    exact ⟨over_alloc (over_alloc hb1), step_cell hb1 (by simp [go_sem]), step_cell hb1 (by simp [go_sem]), step_cell hb1 (by simp [go_sem]), step_cell hb1 (by simp [go_sem]), step_cell hb1 (by simp [go_sem]), step_cell hb1 (by simp [go_sem]), step_cell hb1 (by simp [go_sem]), step_cell hb1 (by simp [go_sem])⟩
  have HS : Hid _ := step
  clear step
  cases k
  · have HE : Hid (moveO a b c m = ((m.n == 0) && hasB a b c m.dst && hasB a b c m.src && kindsB m.dst.kind m.src.kind)) := by show moveO a b c m = _; unfold moveO; rw [HK.out]; rfl
    rcases Bool.eq_false_or_eq_true (m.n == 0) with e1 | e1
    · cases hd : hasB a b c m.dst
      · have HE2 : Hid (moveO a b c m = false) := by show moveO a b c m = _; rw [HE.out, hd]; simp
        go_enter Tryz.func64, Tryz.ntmps64
        go_wp2_with (go_at_call 77; refine (roomHas a b c m.dst _).mono ?_; rw [hd]; rintro e w1 ⟨rfl, hb1⟩)
        go_ret
        exact ⟨ret_bool HE2.out.symm, over_alloc (over_alloc hb1)⟩
      · cases hq : hasB a b c m.src
        · have HE2 : Hid (moveO a b c m = false) := by show moveO a b c m = _; rw [HE.out, hq]; simp
          go_enter Tryz.func64, Tryz.ntmps64
          go_wp2_with fail
          go_at_call 77
          refine (roomHas a b c m.dst _).mono ?_
          rw [hd]
          rintro e w1 ⟨rfl, hb1⟩
          obtain ⟨hbel, r0, r1, r2, r3, t0, t1, t2, t3⟩ := HS.out w1 hb1
          clear hb1
          go_wp2_with (go_at_call 77; refine (roomHas a b c m.src _).mono ?_; rw [hq]; rintro e w2 ⟨rfl, hb2⟩)
          go_ret
          exact ⟨ret_bool HE2.out.symm, step_below hb2 hbel⟩
        · have HE2 : Hid (moveO a b c m = kindsB m.dst.kind m.src.kind) := by show moveO a b c m = _; rw [HE.out, hq, hd, e1]; simp
          go_enter Tryz.func64, Tryz.ntmps64
          go_wp2_with fail
          go_at_call 77
          refine (roomHas a b c m.dst _).mono ?_
          rw [hd]
          rintro e w1 ⟨rfl, hb1⟩
          obtain ⟨hbel, r0, r1, r2, r3, t0, t1, t2, t3⟩ := HS.out w1 hb1
          clear hb1
          go_wp2_with (first | (go_at_call 77; refine (roomHas a b c m.src _).mono ?_; rw [hq]; rintro e w2 ⟨rfl, hb2⟩; have v0 := step_cell hb2 t0; have v2 := step_cell hb2 t2) | (go_at_call 78; refine (kindsMay _ _ _).mono ?_; rintro e w3 ⟨rfl, hw3⟩; obtain rfl := hw3.symm))
          go_ret
          exact ⟨ret_bool HE2.out.symm, step_below hb2 hbel⟩
    · have HE2 : Hid (moveO a b c m = false) := by show moveO a b c m = _; rw [HE.out, e1]; rfl
      go_enter Tryz.func64, Tryz.ntmps64
      go_wp2
      go_ret
      exact ⟨ret_bool HE2.out.symm, HB.out _ _⟩
  · have HE : Hid (moveO a b c m = (emptyB m.src && holdB a b c m.dst false)) := by show moveO a b c m = _; unfold moveO; rw [HK.out]; rfl
    cases he : emptyB m.src
    · have HE2 : Hid (moveO a b c m = false) := by show moveO a b c m = _; rw [HE.out, he]; rfl
      go_enter Tryz.func64, Tryz.ntmps64
      go_wp2_with (go_at_call 63; refine (isEmpty m.src _).mono ?_; rw [he]; rintro e w1 ⟨rfl, hb1⟩)
      go_ret
      exact ⟨ret_bool HE2.out.symm, over_alloc (over_alloc hb1)⟩
    · have HE2 : Hid (moveO a b c m = holdB a b c m.dst false) := by show moveO a b c m = _; rw [HE.out, he]; rfl
      go_enter Tryz.func64, Tryz.ntmps64
      go_wp2_with (first | (go_at_call 63; refine (isEmpty m.src _).mono ?_; rw [he]; rintro e w1 ⟨rfl, hb1⟩; obtain ⟨hbel, r0, r1, r2, r3, t0, t1, t2, t3⟩ := HS.out w1 hb1; clear hb1) | (go_at_call 62; refine (holds a b c m.dst false _).mono ?_; rintro e w2 ⟨rfl, hb2⟩))
      go_ret
      exact ⟨ret_bool HE2.out.symm, step_below hb2 hbel⟩

def movesO (a b c : Int) (l : List LMove) (most : Int) : Bool := decide ((l.length : Int) ≤ most) && l.all (moveO a b c)

set_option maxRecDepth 100000 in
set_option maxHeartbeats 1000000 in
theorem movesMay (a b c : Int) (v : Value) (l : List LMove) (most : Int) (hm : most ≤ 6) (w : World) (h : MovesIs w v l) : Calls Tryz.prog 42 #[roomV a b c, v, .int .i64 most] w fun e w' => e = .returned (.bool (movesO a b c l most)) ∧ Below w.heap.size w w' := by
  obtain ⟨ao, cap, rfl, hl, hc⟩ := h
  have HC : Hid _ := hc
  clear hc
  unfold roomV
  by_cases h6 : (l.length : Int) ≤ most
  case neg =>
    have HN : Hid (movesO a b c l most = false) := by show movesO a b c l most = false; simp [movesO, h6]
    go_enter Tryz.func42, Tryz.ntmps42
    go_wp2
    go_ret
    exact ⟨ret_bool HN.out.symm, (Below.refl _ _).alloc (Nat.le_refl _) _⟩
  have hg : (l.length : Int) ≤ 6 := by omega
  go_enter Tryz.func42, Tryz.ntmps42
  go_wp2
  go_loopw [15] (fun i wr => ∃ k : Nat, k ≤ l.length ∧ i = .int .i64 k ∧ Below w.heap.size w wr ∧ w.heap.size < wr.heap.size ∧ wr.cell? ⟨w.heap.size, 0, none⟩ = some (.int .i64 0) ∧ wr.cell? ⟨w.heap.size, 1, none⟩ = some (.int .i64 a) ∧ wr.cell? ⟨w.heap.size, 2, none⟩ = some (.int .i64 b) ∧ wr.cell? ⟨w.heap.size, 3, none⟩ = some (.int .i64 c) ∧ (∀ j, j < k → moveO a b c (l.getD j .zero) = true)) (fun i _ => l.length - (intOf i).toNat)
  case atStart => exact ⟨0, by omega, rfl, (Below.refl _ _).alloc (Nat.le_refl _) _, by simp, by simp [go_sem], by simp [go_sem], by simp [go_sem], by simp [go_sem], fun j hj => absurd hj (by omega)⟩
  case round =>
    obtain ⟨k, hk, rfl, hbel, hsz, r0, r1, r2, r3, hall⟩ := hrel
    have F : Hid _ := hall
    clear hall
    by_cases hlt : k < l.length
    · obtain ⟨b9, o, rfl, hbl, hcell⟩ := HC.out (by omega)
      obtain ⟨d0, d1, d2, d3, d4, d5⟩ := hcell k hlt
      have d0 := step_cell hbel d0
      have d1 := step_cell hbel d1
      have d2 := step_cell hbel d2
      have d3 := step_cell hbel d3
      have d4 := step_cell hbel d4
      have d5 := step_cell hbel d5
      obtain ⟨m, hi⟩ : ∃ m, m = l.getD k .zero := ⟨_, rfl⟩
      rw [← hi] at d0 d1 d2 d3 d4 d5
      have HI : Hid (m = l.getD k .zero) := hi
      clear hi hcell
      have y1 : (0 : Int) ≤ (k : Int) := by omega
      have y2 : (k : Int) < (l.length : Int) := by omega
      have hbl2 : b9 < wr.heap.size := by have := hbel.size; omega
      go_wp2_with (go_at_call 64; refine (moveMay a b c m _).mono ?_; rintro e w1 ⟨rfl, hb1⟩)
      all_goals
        have hb2 := over_alloc hb1
        have hbel1 := step_below hb2 hbel
      · go_ret
        refine ⟨ret_bool ?_, hbel1⟩
        have hf : moveO a b c m = false := by simp_all
        unfold movesO
        rw [eq_comm, Bool.and_eq_false_iff]
        right
        rw [List.all_eq_false]
        refine ⟨m, ?_, by simp [hf]⟩
        rw [HI.out]
        simp [List.getD, hlt]
      · refine ⟨⟨k + 1, by omega, by go_num, hbel1, Nat.lt_of_lt_of_le hsz hb2.size, step_cell hb2 r0, step_cell hb2 r1, step_cell hb2 r2, step_cell hb2 r3, ?_⟩, by simp [intOf]; omega⟩
        intro j hj
        by_cases hjk : j < k
        · exact F.out j hjk
        · obtain rfl : j = k := by omega
          rw [← HI.out]
          simp_all
    · go_wp2
      go_ret
      refine ⟨ret_bool ?_, hbel⟩
      unfold movesO
      rw [eq_comm, Bool.and_eq_true]
      refine ⟨by simp [h6], ?_⟩
      rw [List.all_eq_true]
      intro x hx
      obtain ⟨j, hj, rfl⟩ := List.getElem_of_mem hx
      have := F.out j (by omega)
      simpa [List.getD, hj] using this

end Go.Proofs.YtcmnmogmdhofcaaGreat.form

/- What the program's own function on the three fields of a row (place.room.fieldsMay) answers. -/
namespace Go.Proofs.YtcmnmogmdhofcaaGreat.form
open Go.RowKit
set_option linter.unusedVariables false
attribute [local go_sem ↓] Go.wp_at_zero Go.wp_at_succ

def rowV (r : LRow) (ab : Option Addr) (cb : Nat) (aa : Option Addr) (ca : Nat) : Value := .agg #[.int .i64 r.dest.kind, .int .i64 r.dest.n, .int .i64 r.a.kind, .int .i64 r.a.n, .int .i64 r.b.kind, .int .i64 r.b.n, .slice ab r.before.length cb, .slice aa r.after.length ca]
def fieldO (B : List Bool) (a b c : Int) (x : Bool) (t : Int) (p : LPlace) : Bool := if x then holdB a b c p (B.getD t.toNat false) else emptyB p
def fieldsO (B : List Bool) (a b c : Int) (i : LIns) (r : LRow) : Bool := (List.range 3).all (fun j => fieldO B a b c (tjF i j) (fjF i j) (pjF r j))
theorem isT_tj {i : LIns} (h : knownB i.op = true) : ∀ j, j < 3 → isT (kd i.op j) = tjF i j := by
  intro j hj
  rcases (show j = 0 ∨ j = 1 ∨ j = 2 by omega) with rfl | rfl | rfl
  · exact isT_gives h
  · exact (isT_many h).1
  · exact (isT_many h).2

structure FS (w : World) (a b c : Int) (b0 o0 c0 nB : Nat) (i : LIns) (nb : Nat) (wr : World) : Prop where
  bel : Below w.heap.size w wr
  lt : w.heap.size + 4 ≤ nb
  size : nb + 2 ≤ wr.heap.size
  r0 : wr.cell? ⟨w.heap.size, 0, none⟩ = some (.int .i64 0)
  r1 : wr.cell? ⟨w.heap.size, 1, none⟩ = some (.int .i64 a)
  r2 : wr.cell? ⟨w.heap.size, 2, none⟩ = some (.int .i64 b)
  r3 : wr.cell? ⟨w.heap.size, 3, none⟩ = some (.int .i64 c)
  p0 : wr.cell? ⟨w.heap.size + 1, 0, none⟩ = some (.slice (some ⟨b0, o0, none⟩) nB c0)
  nm : ∀ j, j < 3 → wr.cell? ⟨nb, j, none⟩ = some (.bool (tjF i j))
  tm : ∀ j, j < 3 → wr.cell? ⟨nb + 1, j, none⟩ = some (.int .i64 (fjF i j))
theorem FS.below {w : World} {a b c : Int} {b0 o0 c0 nB : Nat} {i : LIns} {nb : Nat} {wr w1 : World} (h : FS w a b c b0 o0 c0 nB i nb wr) (hb : Below wr.heap.size wr w1) : FS w a b c b0 o0 c0 nB i nb w1 :=
  ⟨step_below hb h.bel, h.lt, Nat.le_trans h.size hb.size, step_cell hb h.r0, step_cell hb h.r1, step_cell hb h.r2, step_cell hb h.r3, step_cell hb h.p0, fun j hj => step_cell hb (h.nm j hj), fun j hj => step_cell hb (h.tm j hj)⟩

set_option maxRecDepth 100000 in
set_option maxHeartbeats 8000000 in
theorem fieldsMay (b0 o0 c0 b1 o1 c1 : Nat) (B : List Bool) (C : List LIns) (a b c : Int) (i : LIns) (r : LRow) (ab : Option Addr) (cb : Nat) (aa : Option Addr) (ca : Nat) (w : World) (hB : B.length ≤ 12) (h : Held w b0 o0 b1 o1 B C)
    (hk : knownB i.op = true) (hf : ∀ j, j < 3 → tjF i j = true → 0 ≤ fjF i j ∧ fjF i j < B.length) :
    Calls Tryz.prog 41 #[roomV a b c, progV b0 o0 B.length c0 b1 o1 C.length c1, i.val, rowV r ab cb aa ca] w fun e w' => e = .returned (.bool (fieldsO B a b c i r)) ∧ Below w.heap.size w w' := by
  have HF : Hid (∀ j, j < 3 → tjF i j = true → 0 ≤ fjF i j ∧ fjF i j < B.length) := hf
  have HT : Hid (∀ j, j < 3 → isT (kd i.op j) = tjF i j) := isT_tj hk
  clear hf hk
  have hidx : ∀ j : Nat, j < 3 → ∀ w, (Instr.index 126 (.agg #[.int .i64 r.dest.kind, .int .i64 r.dest.n, .int .i64 r.a.kind, .int .i64 r.a.n, .int .i64 r.b.kind, .int .i64 r.b.n]) (.int .i64 j)).run Tryz.prog w = .ok (.agg #[.int .i64 (pjF r j).kind, .int .i64 (pjF r j).n]) w := by
    intro j hj w
    rcases (show j = 0 ∨ j = 1 ∨ j = 2 by omega) with rfl | rfl | rfl <;> kernel_rfl
  have HX : Hid (∀ j : Nat, j < 3 → ∀ w, (Instr.index 126 (.agg #[.int .i64 r.dest.kind, .int .i64 r.dest.n, .int .i64 r.a.kind, .int .i64 r.a.n, .int .i64 r.b.kind, .int .i64 r.b.n]) (.int .i64 j)).run Tryz.prog w = .ok (.agg #[.int .i64 (pjF r j).kind, .int .i64 (pjF r j).n]) w) := hidx
  clear hidx
  have HH : Hid (Held w b0 o0 b1 o1 B C) := h
  have hlt0 := h.lt0
  clear h
  unfold roomV progV LIns.val rowV
  go_enter Tryz.func41, Tryz.ntmps41
  have HAS := has i.op
  rw [HT.out 0 (by omega), HT.out 1 (by omega), HT.out 2 (by omega)] at HAS
  have HA : Hid _ := HAS
  clear HAS
  go_wp2_with (go_at_call 61; refine (HA.out _).mono ?_; rintro e w1 ⟨rfl, hb1⟩; have i1 : w1.cell? ⟨w.heap.size + 1 + 1, 1, none⟩ = some (.int .i64 i.dest) := step_cell hb1 (by simp [go_sem]); have i2 : w1.cell? ⟨w.heap.size + 1 + 1, 2, none⟩ = some (.int .i64 i.a) := step_cell hb1 (by simp [go_sem]); have i3 : w1.cell? ⟨w.heap.size + 1 + 1, 3, none⟩ = some (.int .i64 i.b) := step_cell hb1 (by simp [go_sem]); have k0 : w1.cell? ⟨w.heap.size + 1 + 1 + 1, 0, none⟩ = some (.int .i64 r.dest.kind) := step_cell hb1 (by simp [go_sem]); have k1 : w1.cell? ⟨w.heap.size + 1 + 1 + 1, 1, none⟩ = some (.int .i64 r.dest.n) := step_cell hb1 (by simp [go_sem]); have k2 : w1.cell? ⟨w.heap.size + 1 + 1 + 1, 2, none⟩ = some (.int .i64 r.a.kind) := step_cell hb1 (by simp [go_sem]); have k3 : w1.cell? ⟨w.heap.size + 1 + 1 + 1, 3, none⟩ = some (.int .i64 r.a.n) := step_cell hb1 (by simp [go_sem]); have k4 : w1.cell? ⟨w.heap.size + 1 + 1 + 1, 4, none⟩ = some (.int .i64 r.b.kind) := step_cell hb1 (by simp [go_sem]); have k5 : w1.cell? ⟨w.heap.size + 1 + 1 + 1, 5, none⟩ = some (.int .i64 r.b.n) := step_cell hb1 (by simp [go_sem]); have hz : w.heap.size + 1 + 1 + 1 + 1 ≤ w1.heap.size := (by have := hb1.size; simpa using this); have hz1 : w.heap.size + 1 + 1 + 1 < w1.heap.size := (by omega); have hz2 : w.heap.size + 1 + 1 < w1.heap.size := (by omega); have hz3 : w.heap.size + 1 + 1 + 1 < w1.heap.size + 1 := (by omega); have hz4 : w.heap.size + 1 + 1 + 1 < w1.heap.size + 1 + 1 := (by omega); have hz5 : w.heap.size + 1 + 1 < w1.heap.size + 1 := (by omega))
  have HFS : Hid (FS w a b c b0 o0 c0 B.length i w1.heap.size ((w1.alloc (.cells #[.bool (tjF i 0), .bool (tjF i 1), .bool (tjF i 2)] 124)).alloc (.cells #[.int .i64 i.dest, .int .i64 i.a, .int .i64 i.b] 125))) := by
    have g1 : Below w1.heap.size w1 ((w1.alloc (.cells #[.bool (tjF i 0), .bool (tjF i 1), .bool (tjF i 2)] 124)).alloc (.cells #[.int .i64 i.dest, .int .i64 i.a, .int .i64 i.b] 125)) := ((Below.refl _ _).alloc (Nat.le_refl _) _).alloc (by simp) _
    refine ⟨step_below g1 (over_alloc (over_alloc (over_alloc (over_alloc hb1)))), by omega, by simp, step_cell g1 (step_cell hb1 (by simp [go_sem])), step_cell g1 (step_cell hb1 (by simp [go_sem])), step_cell g1 (step_cell hb1 (by simp [go_sem])), step_cell g1 (step_cell hb1 (by simp [go_sem])), step_cell g1 (step_cell hb1 (by simp [go_sem])), fun j hj => ?_, fun j hj => ?_⟩
    · rcases (show j = 0 ∨ j = 1 ∨ j = 2 by omega) with rfl | rfl | rfl <;> simp [go_sem]
    · rcases (show j = 0 ∨ j = 1 ∨ j = 2 by omega) with rfl | rfl | rfl <;> simp [go_sem, fjF]
  obtain ⟨nb, hnb⟩ : ∃ nb, nb = w1.heap.size := ⟨_, rfl⟩
  rw [← hnb]
  rw [← hnb] at HFS
  clear i1 i2 i3 k0 k1 k2 k3 k4 k5 hz hz1 hz2 hz3 hz4 hz5 hb1
  go_loopw [41] (fun t wr => ∃ j : Nat, j ≤ 3 ∧ t = .int .i64 j ∧ FS w a b c b0 o0 c0 B.length i nb wr ∧ (∀ x, x < j → fieldO B a b c (tjF i x) (fjF i x) (pjF r x) = true)) (fun t _ => 3 - (intOf t).toNat)
  case atStart => exact ⟨0, by omega, rfl, HFS.out, fun j hj => absurd hj (by omega)⟩
  clear HFS hnb
  case round =>
    obtain ⟨j, hj, rfl, hfs, hall⟩ := hrel
    have F : Hid (∀ x, x < j → fieldO B a b c (tjF i x) (fjF i x) (pjF r x) = true) := hall
    have HFS : Hid (FS w a b c b0 o0 c0 B.length i nb wr) := hfs
    clear hall
    by_cases hlt : j < 3
    case neg =>
      have y1 : ¬ (j : Int) < 3 := by omega
      clear hfs
      go_wp2
      go_ret
      refine ⟨ret_bool ?_, HFS.out.bel⟩
      unfold fieldsO
      rw [eq_comm, List.all_eq_true]
      intro x hx
      exact F.out x (by simp at hx; omega)
    have y1 : (j : Int) < 3 := by omega
    have y0 : (0 : Int) ≤ (j : Int) := by omega
    have hidx := HX.out j hlt
    have hfsx := fun o => hfs.below ((Below.refl _ _).alloc (Nat.le_refl _) o)
    obtain ⟨tv, htv⟩ : ∃ x, x = tjF i j := ⟨_, rfl⟩
    obtain ⟨fv, hfv⟩ : ∃ x, x = fjF i j := ⟨_, rfl⟩
    obtain ⟨pv, hpv⟩ : ∃ x, x = pjF r j := ⟨_, rfl⟩
    rw [← hpv] at hidx
    have HTV : Hid (tv = tjF i j) := htv
    have HFV : Hid (fv = fjF i j) := hfv
    have HPV : Hid (pv = pjF r j) := hpv
    have NO : Hid (fieldO B a b c tv fv pv = false → fieldsO B a b c i r = false) := by
      intro hno
      unfold fieldsO
      rw [List.all_eq_false]
      exact ⟨j, by simpa using hlt, by rw [← htv, ← hfv, ← hpv, hno]; simp⟩
    have YES : Hid (fieldO B a b c tv fv pv = true → ∀ x, x < j + 1 → fieldO B a b c (tjF i x) (fjF i x) (pjF r x) = true) := by
      intro hyes x hx
      by_cases hxj : x < j
      · exact F.out x hxj
      · obtain rfl : x = j := by omega
        rw [← htv, ← hfv, ← hpv]; exact hyes
    have q0 : nb < wr.heap.size := by have := hfs.size; omega
    have q1 : nb + 1 < wr.heap.size := by have := hfs.size; omega
    have q2 : w.heap.size < wr.heap.size := by have := hfs.size; have := hfs.lt; omega
    have q3 : w.heap.size + 1 < wr.heap.size := by have := hfs.size; have := hfs.lt; omega
    have HLT : Hid (b0 < wr.heap.size) := by have := hfs.bel.size; show b0 < wr.heap.size; omega
    clear htv hfv hpv hfs
    go_upto_region 7 with fail
    obtain ⟨wx, hwx⟩ : ∃ wx, wx = wr.alloc (.cells #[.int .i64 pv.kind, .int .i64 pv.n] 51) := ⟨_, rfl⟩
    have hfx : FS w a b c b0 o0 c0 B.length i nb wx := by rw [hwx]; exact hfsx _
    have m0 : wx.cell? ⟨wr.heap.size, 0, none⟩ = some (.int .i64 pv.kind) := by rw [hwx]; simp [go_sem]
    have m1 : wx.cell? ⟨wr.heap.size, 1, none⟩ = some (.int .i64 pv.n) := by rw [hwx]; simp [go_sem]
    rw [← hwx]
    clear hfsx hidx hwx
    obtain ⟨pb, hpb⟩ : ∃ pb, pb = wr.heap.size := ⟨_, rfl⟩
    rw [← hpb] at m0 m1
    rw [← hpb]
    have HFX : Hid (FS w a b c b0 o0 c0 B.length i nb wx) := hfx
    have n0 := hfx.nm j hlt
    have n1 := hfx.tm j hlt
    rw [← HTV.out] at n0
    rw [← HFV.out] at n1
    obtain ⟨-, -, -, r0, r1, r2, r3, p0, -, -⟩ := hfx
    clear hpb q0 q1 q2 q3
    cases tv
    · cases hr : emptyB pv
      · skip
        refine wp_region_held_drew (S := (fun w' => Below wx.heap.size wx w' ∧ w'.cell? ⟨w.heap.size, 0, none⟩ = some (.int .i64 0) ∧ w'.cell? ⟨w.heap.size, 1, none⟩ = some (.int .i64 a) ∧ w'.cell? ⟨w.heap.size, 2, none⟩ = some (.int .i64 b) ∧ w'.cell? ⟨w.heap.size, 3, none⟩ = some (.int .i64 c) ∧ w'.cell? ⟨w.heap.size + 1, 0, none⟩ = some (.slice (some ⟨b0, o0, none⟩) B.length c0) ∧ w'.cell? ⟨nb, j, none⟩ = some (.bool false) ∧ w'.cell? ⟨nb + 1, j, none⟩ = some (.int .i64 fv) ∧ w'.cell? ⟨pb, 0, none⟩ = some (.int .i64 pv.kind) ∧ w'.cell? ⟨pb, 1, none⟩ = some (.int .i64 pv.n))) (by rfl) ?_ (fun hHeld => ?_)
        · (go_split_ands; refine ⟨?_, ?_, ?_, ?_, ?_, ?_, ?_, ?_, ?_, ?_⟩ <;> first | exact (Below.refl _ _).drew | exact ((Below.refl _ _).drew).trans hbr | exact step_below hbr (by assumption) | exact step_cell hbr (by assumption) | go_keep)
        refine wpAnyH_take (i := 0) (v := ?_) rfl (by kernel_rfl) (by kernel_rfl) (by kernel_rfl) (fun _ _ _ h => h) (Or.inl ⟨by rfl, ?_⟩) (by assumption) ?_
        case refine_2 => (intro w hSw; (try dsimp only at hSw); go_simp; first | done | (with_reducible rfl))
        show wpAnyH _ _ _ _ _ _ _ (Act.put _ (some 45) _) _
        simp only [Act.put, List.setIfInBounds_toArray, List.set_cons_zero, List.set_cons_succ]
        refine wpAnyH_take (i := 1) (v := ?_) rfl (by kernel_rfl) (by kernel_rfl) (by kernel_rfl) (fun _ _ _ h => h) (Or.inl ⟨by rfl, ?_⟩) (by assumption) ?_
        case refine_2 => (intro w hSw; (try dsimp only at hSw); go_simp; first | done | (with_reducible rfl))
        show wpAnyH _ _ _ _ _ _ _ (Act.put _ (some 46) _) _
        simp only [Act.put, List.setIfInBounds_toArray, List.set_cons_zero, List.set_cons_succ]
        refine wpAnyH_take (i := 2) (v := ?_) rfl (by kernel_rfl) (by kernel_rfl) (by kernel_rfl) (fun _ _ _ h => h) (Or.inl ⟨by rfl, ?_⟩) (by assumption) ?_
        case refine_2 => (intro w hSw; (try dsimp only at hSw); go_simp; first | done | (with_reducible rfl))
        show wpAnyH _ _ _ _ _ _ _ (Act.put _ (some 47) _) _
        simp only [Act.put, List.setIfInBounds_toArray, List.set_cons_zero, List.set_cons_succ]
        refine wpAnyH_take (i := 3) (v := ?_) rfl (by kernel_rfl) (by kernel_rfl) (by kernel_rfl) (fun _ _ _ h => h) (Or.inl ⟨by rfl, ?_⟩) (by assumption) ?_
        case refine_2 => (intro w hSw; (try dsimp only at hSw); go_simp; first | done | (with_reducible rfl))
        show wpAnyH _ _ _ _ _ _ _ (Act.put _ (some 48) _) _
        simp only [Act.put, List.setIfInBounds_toArray, List.set_cons_zero, List.set_cons_succ]
        refine wpAnyH_take (i := 4) (v := undef) rfl (by kernel_rfl) (by kernel_rfl) (by kernel_rfl) (fun _ _ _ h => h) (Or.inr ⟨by rfl, rfl⟩) (by assumption) ?_
        show wpAnyH _ _ _ _ _ _ _ (Act.put _ (some 49) _) _
        simp only [Act.put, List.setIfInBounds_toArray, List.set_cons_zero, List.set_cons_succ]
        refine wpAnyH_take (i := 5) (v := undef) rfl (by kernel_rfl) (by kernel_rfl) (by kernel_rfl) (fun _ _ _ h => h) (Or.inr ⟨by rfl, rfl⟩) (by assumption) ?_
        show wpAnyH _ _ _ _ _ _ _ (Act.put _ (some 50) _) _
        simp only [Act.put, List.setIfInBounds_toArray, List.set_cons_zero, List.set_cons_succ]
        refine wpAnyH_take (i := 6) (v := undef) rfl (by kernel_rfl) (by kernel_rfl) (by kernel_rfl) (fun _ _ _ h => h) (Or.inr ⟨by rfl, rfl⟩) (by assumption) ?_
        show wpAnyH _ _ _ _ _ _ _ (Act.put _ (some 51) _) _
        simp only [Act.put, List.setIfInBounds_toArray, List.set_cons_zero, List.set_cons_succ]
        refine wpAnyH_take (i := 7) (v := undef) rfl (by kernel_rfl) (by kernel_rfl) (by kernel_rfl) (fun _ _ _ h => h) (Or.inr ⟨by rfl, rfl⟩) (by assumption) ?_
        show wpAnyH _ _ _ _ _ _ _ (Act.put _ (some 52) _) _
        simp only [Act.put, List.setIfInBounds_toArray, List.set_cons_zero, List.set_cons_succ]
        refine wpAnyH_take (i := 8) (v := undef) rfl (by kernel_rfl) (by kernel_rfl) (by kernel_rfl) (fun _ _ _ h => h) (Or.inr ⟨by rfl, rfl⟩) (by assumption) ?_
        show wpAnyH _ _ _ _ _ _ _ (Act.put _ (some 53) _) _
        simp only [Act.put, List.setIfInBounds_toArray, List.set_cons_zero, List.set_cons_succ]
        refine wpAnyH_take (i := 9) (v := undef) rfl (by kernel_rfl) (by kernel_rfl) (by kernel_rfl) (fun _ _ _ h => h) (Or.inr ⟨by rfl, rfl⟩) (by assumption) ?_
        show wpAnyH _ _ _ _ _ _ _ (Act.put _ (some 54) _) _
        simp only [Act.put, List.setIfInBounds_toArray, List.set_cons_zero, List.set_cons_succ]
        refine wpAnyH_take (i := 10) (v := undef) rfl (by kernel_rfl) (by kernel_rfl) (by kernel_rfl) (fun _ _ _ h => h) (Or.inr ⟨by rfl, rfl⟩) (by assumption) ?_
        show wpAnyH _ _ _ _ _ _ _ (Act.put _ (some 55) _) _
        simp only [Act.put, List.setIfInBounds_toArray, List.set_cons_zero, List.set_cons_succ]
        refine wpAnyH_take (i := 11) (v := undef) rfl (by kernel_rfl) (by kernel_rfl) (by kernel_rfl) (fun _ _ _ h => h) (Or.inr ⟨by rfl, rfl⟩) (by assumption) ?_
        show wpAnyH _ _ _ _ _ _ _ (Act.put _ (some 56) _) _
        simp only [Act.put, List.setIfInBounds_toArray, List.set_cons_zero, List.set_cons_succ]
        refine wpAnyH_take (i := 12) (v := undef) rfl (by kernel_rfl) (by kernel_rfl) (by kernel_rfl) (fun _ _ _ h => h) (Or.inr ⟨by rfl, rfl⟩) (by assumption) ?_
        show wpAnyH _ _ _ _ _ _ _ (Act.put _ (some 57) _) _
        simp only [Act.put, List.setIfInBounds_toArray, List.set_cons_zero, List.set_cons_succ]
        refine wpAnyH_take (i := 13) (v := undef) rfl (by kernel_rfl) (by kernel_rfl) (by kernel_rfl) (fun _ _ _ h => h) (Or.inr ⟨by rfl, rfl⟩) (by assumption) ?_
        show wpAnyH _ _ _ _ _ _ _ (Act.put _ (some 58) _) _
        simp only [Act.put, List.setIfInBounds_toArray, List.set_cons_zero, List.set_cons_succ]
        refine wpAnyH_take (i := 14) (v := undef) rfl (by kernel_rfl) (by kernel_rfl) (by kernel_rfl) (fun _ _ _ h => h) (Or.inr ⟨by rfl, rfl⟩) (by assumption) ?_
        show wpAnyH _ _ _ _ _ _ _ (Act.put _ (some 59) _) _
        simp only [Act.put, List.setIfInBounds_toArray, List.set_cons_zero, List.set_cons_succ]
        refine wpAnyH_take (i := 15) (v := ?_) rfl (by kernel_rfl) (by kernel_rfl) (by kernel_rfl) (fun _ _ _ h => h) (Or.inl ⟨by rfl, ?_⟩) (by assumption) ?_
        case refine_2 => (intro w hSw; (try dsimp only at hSw); go_simp; first | done | (with_reducible rfl))
        show wpAnyH _ _ _ _ _ _ _ (Act.put _ (some 60) _) _
        simp only [Act.put, List.setIfInBounds_toArray, List.set_cons_zero, List.set_cons_succ]
        refine wpAnyH_take (i := 16) (v := ?_) rfl (by kernel_rfl) (by kernel_rfl) (by kernel_rfl) (fun _ _ _ h => h) (Or.inl ⟨by rfl, ?_⟩) (by assumption) ?_
        case refine_2 => (intro w hSw; (try dsimp only at hSw); go_simp; first | done | (with_reducible rfl))
        show wpAnyH _ _ _ _ _ _ _ (Act.put _ (some 61) _) _
        simp only [Act.put, List.setIfInBounds_toArray, List.set_cons_zero, List.set_cons_succ]
        refine wpAnyH_take (i := 17) (v := ?_) rfl (by kernel_rfl) (by kernel_rfl) (by kernel_rfl) (fun _ _ _ h => h) (Or.inl ⟨by rfl, ?_⟩) (by assumption) ?_
        case refine_2 => (intro w hSw; (try dsimp only at hSw); go_simp; first | done | (with_reducible rfl))
        show wpAnyH _ _ _ _ _ _ _ (Act.put _ (some 62) _) _
        simp only [Act.put, List.setIfInBounds_toArray, List.set_cons_zero, List.set_cons_succ]
        refine wpAnyH_take (i := 18) (v := ?_) rfl (by kernel_rfl) (by kernel_rfl) (by kernel_rfl) (fun _ _ _ h => h) (Or.inl ⟨by rfl, ?_⟩) (by assumption) ?_
        case refine_2 => (intro w hSw; (try dsimp only at hSw); go_simp; first | done | (with_reducible rfl))
        show wpAnyH _ _ _ _ _ _ _ (Act.put _ (some 63) _) _
        simp only [Act.put, List.setIfInBounds_toArray, List.set_cons_zero, List.set_cons_succ]
        refine wpAnyH_take (i := 19) (v := ?_) rfl (by kernel_rfl) (by kernel_rfl) (by kernel_rfl) (fun _ _ _ h => h) (Or.inl ⟨by rfl, ?_⟩) (by assumption) ?_
        case refine_2 => (intro w hSw; (try dsimp only at hSw); go_simp; first | done | (with_reducible rfl))
        show wpAnyH _ _ _ _ _ _ _ (Act.put _ (some 64) _) _
        simp only [Act.put, List.setIfInBounds_toArray, List.set_cons_zero, List.set_cons_succ]
        refine wpAnyH_take (i := 20) (v := ?_) rfl (by kernel_rfl) (by kernel_rfl) (by kernel_rfl) (fun _ _ _ h => h) (Or.inl ⟨by rfl, ?_⟩) (by assumption) ?_
        case refine_2 => (intro w hSw; (try dsimp only at hSw); go_simp; first | done | (with_reducible rfl))
        show wpAnyH _ _ _ _ _ _ _ (Act.put _ (some 65) _) _
        simp only [Act.put, List.setIfInBounds_toArray, List.set_cons_zero, List.set_cons_succ]
        refine wpAnyH_take (i := 21) (v := ?_) rfl (by kernel_rfl) (by kernel_rfl) (by kernel_rfl) (fun _ _ _ h => h) (Or.inl ⟨by rfl, ?_⟩) (by assumption) ?_
        case refine_2 => (intro w hSw; (try dsimp only at hSw); go_simp; first | done | (with_reducible rfl))
        show wpAnyH _ _ _ _ _ _ _ (Act.put _ (some 66) _) _
        simp only [Act.put, List.setIfInBounds_toArray, List.set_cons_zero, List.set_cons_succ]
        refine wpAnyH_take (i := 22) (v := ?_) rfl (by kernel_rfl) (by kernel_rfl) (by kernel_rfl) (fun _ _ _ h => h) (Or.inl ⟨by rfl, ?_⟩) (by assumption) ?_
        case refine_2 => (intro w hSw; (try dsimp only at hSw); go_simp; first | done | (with_reducible rfl))
        show wpAnyH _ _ _ _ _ _ _ (Act.put _ (some 67) _) _
        simp only [Act.put, List.setIfInBounds_toArray, List.set_cons_zero, List.set_cons_succ]
        refine wpAnyH_ready (rs := [23]) (by kernel_rfl) (by simp) ?_
        refine (AllReadyH.cons rfl (fun K hK => ?_) AllReadyH.nil)
        go_simp
        go_at_call 63
        refine (isEmpty pv _).mono ?_
        rintro e w1 ⟨rfl, hbr⟩
        rw [hr]
        go_wp2_with fail
        refine hK.out _ _ ?_ (fun hHeld => ?_)
        · (go_split_ands; refine ⟨?_, ?_, ?_, ?_, ?_, ?_, ?_, ?_, ?_, ?_⟩ <;> first | exact (Below.refl _ _).drew | exact ((Below.refl _ _).drew).trans hbr | exact step_below hbr (by assumption) | exact step_cell hbr (by assumption) | go_keep)
        clear hK K
        try simp only [Act.put, List.setIfInBounds_toArray, List.set_cons_zero, List.set_cons_succ]
        refine wpAnyH_take (i := 24) (v := ?_) rfl (by kernel_rfl) (by kernel_rfl) (by kernel_rfl) (fun _ _ _ h => h) (Or.inl ⟨by rfl, ?_⟩) (by assumption) ?_
        case refine_2 => (intro w hSw; (try dsimp only at hSw); go_simp; first | done | (with_reducible rfl))
        show wpAnyH _ _ _ _ _ _ _ (Act.put _ (some 69) _) _
        simp only [Act.put, List.setIfInBounds_toArray, List.set_cons_zero, List.set_cons_succ]
        refine wpAnyH_take (i := 25) (v := ?_) rfl (by kernel_rfl) (by kernel_rfl) (by kernel_rfl) (fun _ _ _ h => h) (Or.inl ⟨by rfl, ?_⟩) (by assumption) ?_
        case refine_2 => (intro w hSw; (try dsimp only at hSw); go_simp; first | done | (with_reducible rfl))
        show wpAnyH _ _ _ _ _ _ _ (Act.put _ (some 70) _) _
        simp only [Act.put, List.setIfInBounds_toArray, List.set_cons_zero, List.set_cons_succ]
        refine wpAnyH_take (i := 26) (v := ?_) rfl (by kernel_rfl) (by kernel_rfl) (by kernel_rfl) (fun _ _ _ h => h) (Or.inl ⟨by rfl, ?_⟩) (by assumption) ?_
        case refine_2 => (intro w hSw; (try dsimp only at hSw); go_simp; first | done | (with_reducible rfl))
        show wpAnyH _ _ _ _ _ _ _ (Act.put _ (some 71) _) _
        simp only [Act.put, List.setIfInBounds_toArray, List.set_cons_zero, List.set_cons_succ]
        refine wpAnyH_done (by kernel_rfl) ?_ _
        have HB9 : Hid (Below wx.heap.size wx w1) := hHeld.1
        clear hHeld hbr
        go_wp2
        go_ret
        exact ⟨ret_bool (NO.out (by unfold fieldO; rw [if_neg (by simp)]; exact hr)).symm, step_below HB9.out HFX.out.bel⟩
      · skip
        refine wp_region_held_drew (S := (fun w' => Below wx.heap.size wx w' ∧ w'.cell? ⟨w.heap.size, 0, none⟩ = some (.int .i64 0) ∧ w'.cell? ⟨w.heap.size, 1, none⟩ = some (.int .i64 a) ∧ w'.cell? ⟨w.heap.size, 2, none⟩ = some (.int .i64 b) ∧ w'.cell? ⟨w.heap.size, 3, none⟩ = some (.int .i64 c) ∧ w'.cell? ⟨w.heap.size + 1, 0, none⟩ = some (.slice (some ⟨b0, o0, none⟩) B.length c0) ∧ w'.cell? ⟨nb, j, none⟩ = some (.bool false) ∧ w'.cell? ⟨nb + 1, j, none⟩ = some (.int .i64 fv) ∧ w'.cell? ⟨pb, 0, none⟩ = some (.int .i64 pv.kind) ∧ w'.cell? ⟨pb, 1, none⟩ = some (.int .i64 pv.n))) (by rfl) ?_ (fun hHeld => ?_)
        · (go_split_ands; refine ⟨?_, ?_, ?_, ?_, ?_, ?_, ?_, ?_, ?_, ?_⟩ <;> first | exact (Below.refl _ _).drew | exact ((Below.refl _ _).drew).trans hbr | exact step_below hbr (by assumption) | exact step_cell hbr (by assumption) | go_keep)
        refine wpAnyH_take (i := 0) (v := ?_) rfl (by kernel_rfl) (by kernel_rfl) (by kernel_rfl) (fun _ _ _ h => h) (Or.inl ⟨by rfl, ?_⟩) (by assumption) ?_
        case refine_2 => (intro w hSw; (try dsimp only at hSw); go_simp; first | done | (with_reducible rfl))
        show wpAnyH _ _ _ _ _ _ _ (Act.put _ (some 45) _) _
        simp only [Act.put, List.setIfInBounds_toArray, List.set_cons_zero, List.set_cons_succ]
        refine wpAnyH_take (i := 1) (v := ?_) rfl (by kernel_rfl) (by kernel_rfl) (by kernel_rfl) (fun _ _ _ h => h) (Or.inl ⟨by rfl, ?_⟩) (by assumption) ?_
        case refine_2 => (intro w hSw; (try dsimp only at hSw); go_simp; first | done | (with_reducible rfl))
        show wpAnyH _ _ _ _ _ _ _ (Act.put _ (some 46) _) _
        simp only [Act.put, List.setIfInBounds_toArray, List.set_cons_zero, List.set_cons_succ]
        refine wpAnyH_take (i := 2) (v := ?_) rfl (by kernel_rfl) (by kernel_rfl) (by kernel_rfl) (fun _ _ _ h => h) (Or.inl ⟨by rfl, ?_⟩) (by assumption) ?_
        case refine_2 => (intro w hSw; (try dsimp only at hSw); go_simp; first | done | (with_reducible rfl))
        show wpAnyH _ _ _ _ _ _ _ (Act.put _ (some 47) _) _
        simp only [Act.put, List.setIfInBounds_toArray, List.set_cons_zero, List.set_cons_succ]
        refine wpAnyH_take (i := 3) (v := ?_) rfl (by kernel_rfl) (by kernel_rfl) (by kernel_rfl) (fun _ _ _ h => h) (Or.inl ⟨by rfl, ?_⟩) (by assumption) ?_
        case refine_2 => (intro w hSw; (try dsimp only at hSw); go_simp; first | done | (with_reducible rfl))
        show wpAnyH _ _ _ _ _ _ _ (Act.put _ (some 48) _) _
        simp only [Act.put, List.setIfInBounds_toArray, List.set_cons_zero, List.set_cons_succ]
        refine wpAnyH_take (i := 4) (v := undef) rfl (by kernel_rfl) (by kernel_rfl) (by kernel_rfl) (fun _ _ _ h => h) (Or.inr ⟨by rfl, rfl⟩) (by assumption) ?_
        show wpAnyH _ _ _ _ _ _ _ (Act.put _ (some 49) _) _
        simp only [Act.put, List.setIfInBounds_toArray, List.set_cons_zero, List.set_cons_succ]
        refine wpAnyH_take (i := 5) (v := undef) rfl (by kernel_rfl) (by kernel_rfl) (by kernel_rfl) (fun _ _ _ h => h) (Or.inr ⟨by rfl, rfl⟩) (by assumption) ?_
        show wpAnyH _ _ _ _ _ _ _ (Act.put _ (some 50) _) _
        simp only [Act.put, List.setIfInBounds_toArray, List.set_cons_zero, List.set_cons_succ]
        refine wpAnyH_take (i := 6) (v := undef) rfl (by kernel_rfl) (by kernel_rfl) (by kernel_rfl) (fun _ _ _ h => h) (Or.inr ⟨by rfl, rfl⟩) (by assumption) ?_
        show wpAnyH _ _ _ _ _ _ _ (Act.put _ (some 51) _) _
        simp only [Act.put, List.setIfInBounds_toArray, List.set_cons_zero, List.set_cons_succ]
        refine wpAnyH_take (i := 7) (v := undef) rfl (by kernel_rfl) (by kernel_rfl) (by kernel_rfl) (fun _ _ _ h => h) (Or.inr ⟨by rfl, rfl⟩) (by assumption) ?_
        show wpAnyH _ _ _ _ _ _ _ (Act.put _ (some 52) _) _
        simp only [Act.put, List.setIfInBounds_toArray, List.set_cons_zero, List.set_cons_succ]
        refine wpAnyH_take (i := 8) (v := undef) rfl (by kernel_rfl) (by kernel_rfl) (by kernel_rfl) (fun _ _ _ h => h) (Or.inr ⟨by rfl, rfl⟩) (by assumption) ?_
        show wpAnyH _ _ _ _ _ _ _ (Act.put _ (some 53) _) _
        simp only [Act.put, List.setIfInBounds_toArray, List.set_cons_zero, List.set_cons_succ]
        refine wpAnyH_take (i := 9) (v := undef) rfl (by kernel_rfl) (by kernel_rfl) (by kernel_rfl) (fun _ _ _ h => h) (Or.inr ⟨by rfl, rfl⟩) (by assumption) ?_
        show wpAnyH _ _ _ _ _ _ _ (Act.put _ (some 54) _) _
        simp only [Act.put, List.setIfInBounds_toArray, List.set_cons_zero, List.set_cons_succ]
        refine wpAnyH_take (i := 10) (v := undef) rfl (by kernel_rfl) (by kernel_rfl) (by kernel_rfl) (fun _ _ _ h => h) (Or.inr ⟨by rfl, rfl⟩) (by assumption) ?_
        show wpAnyH _ _ _ _ _ _ _ (Act.put _ (some 55) _) _
        simp only [Act.put, List.setIfInBounds_toArray, List.set_cons_zero, List.set_cons_succ]
        refine wpAnyH_take (i := 11) (v := undef) rfl (by kernel_rfl) (by kernel_rfl) (by kernel_rfl) (fun _ _ _ h => h) (Or.inr ⟨by rfl, rfl⟩) (by assumption) ?_
        show wpAnyH _ _ _ _ _ _ _ (Act.put _ (some 56) _) _
        simp only [Act.put, List.setIfInBounds_toArray, List.set_cons_zero, List.set_cons_succ]
        refine wpAnyH_take (i := 12) (v := undef) rfl (by kernel_rfl) (by kernel_rfl) (by kernel_rfl) (fun _ _ _ h => h) (Or.inr ⟨by rfl, rfl⟩) (by assumption) ?_
        show wpAnyH _ _ _ _ _ _ _ (Act.put _ (some 57) _) _
        simp only [Act.put, List.setIfInBounds_toArray, List.set_cons_zero, List.set_cons_succ]
        refine wpAnyH_take (i := 13) (v := undef) rfl (by kernel_rfl) (by kernel_rfl) (by kernel_rfl) (fun _ _ _ h => h) (Or.inr ⟨by rfl, rfl⟩) (by assumption) ?_
        show wpAnyH _ _ _ _ _ _ _ (Act.put _ (some 58) _) _
        simp only [Act.put, List.setIfInBounds_toArray, List.set_cons_zero, List.set_cons_succ]
        refine wpAnyH_take (i := 14) (v := undef) rfl (by kernel_rfl) (by kernel_rfl) (by kernel_rfl) (fun _ _ _ h => h) (Or.inr ⟨by rfl, rfl⟩) (by assumption) ?_
        show wpAnyH _ _ _ _ _ _ _ (Act.put _ (some 59) _) _
        simp only [Act.put, List.setIfInBounds_toArray, List.set_cons_zero, List.set_cons_succ]
        refine wpAnyH_take (i := 15) (v := ?_) rfl (by kernel_rfl) (by kernel_rfl) (by kernel_rfl) (fun _ _ _ h => h) (Or.inl ⟨by rfl, ?_⟩) (by assumption) ?_
        case refine_2 => (intro w hSw; (try dsimp only at hSw); go_simp; first | done | (with_reducible rfl))
        show wpAnyH _ _ _ _ _ _ _ (Act.put _ (some 60) _) _
        simp only [Act.put, List.setIfInBounds_toArray, List.set_cons_zero, List.set_cons_succ]
        refine wpAnyH_take (i := 16) (v := ?_) rfl (by kernel_rfl) (by kernel_rfl) (by kernel_rfl) (fun _ _ _ h => h) (Or.inl ⟨by rfl, ?_⟩) (by assumption) ?_
        case refine_2 => (intro w hSw; (try dsimp only at hSw); go_simp; first | done | (with_reducible rfl))
        show wpAnyH _ _ _ _ _ _ _ (Act.put _ (some 61) _) _
        simp only [Act.put, List.setIfInBounds_toArray, List.set_cons_zero, List.set_cons_succ]
        refine wpAnyH_take (i := 17) (v := ?_) rfl (by kernel_rfl) (by kernel_rfl) (by kernel_rfl) (fun _ _ _ h => h) (Or.inl ⟨by rfl, ?_⟩) (by assumption) ?_
        case refine_2 => (intro w hSw; (try dsimp only at hSw); go_simp; first | done | (with_reducible rfl))
        show wpAnyH _ _ _ _ _ _ _ (Act.put _ (some 62) _) _
        simp only [Act.put, List.setIfInBounds_toArray, List.set_cons_zero, List.set_cons_succ]
        refine wpAnyH_take (i := 18) (v := ?_) rfl (by kernel_rfl) (by kernel_rfl) (by kernel_rfl) (fun _ _ _ h => h) (Or.inl ⟨by rfl, ?_⟩) (by assumption) ?_
        case refine_2 => (intro w hSw; (try dsimp only at hSw); go_simp; first | done | (with_reducible rfl))
        show wpAnyH _ _ _ _ _ _ _ (Act.put _ (some 63) _) _
        simp only [Act.put, List.setIfInBounds_toArray, List.set_cons_zero, List.set_cons_succ]
        refine wpAnyH_take (i := 19) (v := ?_) rfl (by kernel_rfl) (by kernel_rfl) (by kernel_rfl) (fun _ _ _ h => h) (Or.inl ⟨by rfl, ?_⟩) (by assumption) ?_
        case refine_2 => (intro w hSw; (try dsimp only at hSw); go_simp; first | done | (with_reducible rfl))
        show wpAnyH _ _ _ _ _ _ _ (Act.put _ (some 64) _) _
        simp only [Act.put, List.setIfInBounds_toArray, List.set_cons_zero, List.set_cons_succ]
        refine wpAnyH_take (i := 20) (v := ?_) rfl (by kernel_rfl) (by kernel_rfl) (by kernel_rfl) (fun _ _ _ h => h) (Or.inl ⟨by rfl, ?_⟩) (by assumption) ?_
        case refine_2 => (intro w hSw; (try dsimp only at hSw); go_simp; first | done | (with_reducible rfl))
        show wpAnyH _ _ _ _ _ _ _ (Act.put _ (some 65) _) _
        simp only [Act.put, List.setIfInBounds_toArray, List.set_cons_zero, List.set_cons_succ]
        refine wpAnyH_take (i := 21) (v := ?_) rfl (by kernel_rfl) (by kernel_rfl) (by kernel_rfl) (fun _ _ _ h => h) (Or.inl ⟨by rfl, ?_⟩) (by assumption) ?_
        case refine_2 => (intro w hSw; (try dsimp only at hSw); go_simp; first | done | (with_reducible rfl))
        show wpAnyH _ _ _ _ _ _ _ (Act.put _ (some 66) _) _
        simp only [Act.put, List.setIfInBounds_toArray, List.set_cons_zero, List.set_cons_succ]
        refine wpAnyH_take (i := 22) (v := ?_) rfl (by kernel_rfl) (by kernel_rfl) (by kernel_rfl) (fun _ _ _ h => h) (Or.inl ⟨by rfl, ?_⟩) (by assumption) ?_
        case refine_2 => (intro w hSw; (try dsimp only at hSw); go_simp; first | done | (with_reducible rfl))
        show wpAnyH _ _ _ _ _ _ _ (Act.put _ (some 67) _) _
        simp only [Act.put, List.setIfInBounds_toArray, List.set_cons_zero, List.set_cons_succ]
        refine wpAnyH_ready (rs := [23]) (by kernel_rfl) (by simp) ?_
        refine (AllReadyH.cons rfl (fun K hK => ?_) AllReadyH.nil)
        go_simp
        go_at_call 63
        refine (isEmpty pv _).mono ?_
        rintro e w1 ⟨rfl, hbr⟩
        rw [hr]
        go_wp2_with fail
        refine hK.out _ _ ?_ (fun hHeld => ?_)
        · (go_split_ands; refine ⟨?_, ?_, ?_, ?_, ?_, ?_, ?_, ?_, ?_, ?_⟩ <;> first | exact (Below.refl _ _).drew | exact ((Below.refl _ _).drew).trans hbr | exact step_below hbr (by assumption) | exact step_cell hbr (by assumption) | go_keep)
        clear hK K
        try simp only [Act.put, List.setIfInBounds_toArray, List.set_cons_zero, List.set_cons_succ]
        refine wpAnyH_take (i := 24) (v := ?_) rfl (by kernel_rfl) (by kernel_rfl) (by kernel_rfl) (fun _ _ _ h => h) (Or.inl ⟨by rfl, ?_⟩) (by assumption) ?_
        case refine_2 => (intro w hSw; (try dsimp only at hSw); go_simp; first | done | (with_reducible rfl))
        show wpAnyH _ _ _ _ _ _ _ (Act.put _ (some 69) _) _
        simp only [Act.put, List.setIfInBounds_toArray, List.set_cons_zero, List.set_cons_succ]
        refine wpAnyH_take (i := 25) (v := ?_) rfl (by kernel_rfl) (by kernel_rfl) (by kernel_rfl) (fun _ _ _ h => h) (Or.inl ⟨by rfl, ?_⟩) (by assumption) ?_
        case refine_2 => (intro w hSw; (try dsimp only at hSw); go_simp; first | done | (with_reducible rfl))
        show wpAnyH _ _ _ _ _ _ _ (Act.put _ (some 70) _) _
        simp only [Act.put, List.setIfInBounds_toArray, List.set_cons_zero, List.set_cons_succ]
        refine wpAnyH_take (i := 26) (v := ?_) rfl (by kernel_rfl) (by kernel_rfl) (by kernel_rfl) (fun _ _ _ h => h) (Or.inl ⟨by rfl, ?_⟩) (by assumption) ?_
        case refine_2 => (intro w hSw; (try dsimp only at hSw); go_simp; first | done | (with_reducible rfl))
        show wpAnyH _ _ _ _ _ _ _ (Act.put _ (some 71) _) _
        simp only [Act.put, List.setIfInBounds_toArray, List.set_cons_zero, List.set_cons_succ]
        refine wpAnyH_done (by kernel_rfl) ?_ _
        have HB9 : Hid (Below wx.heap.size wx w1) := hHeld.1
        clear hHeld hbr
        go_wp2
        exact ⟨⟨j + 1, by omega, by go_num, HFX.out.below HB9.out, YES.out (by unfold fieldO; rw [if_neg (by simp)]; exact hr)⟩, by simp [intOf]; omega⟩
    · obtain ⟨hf0, hf1⟩ := HF.out j hlt HTV.out.symm
      rw [← HFV.out] at hf0 hf1
      have wc0 := (HH.out.later HFX.out.bel).wide fv.toNat (by omega)
      obtain ⟨wv, hwv⟩ : ∃ x, x = B.getD fv.toNat false := ⟨_, rfl⟩
      rw [← hwv] at wc0
      have HWV : Hid (wv = B.getD fv.toNat false) := hwv
      clear hwv
      cases hr : holdB a b c pv wv
      · skip
        refine wp_region_held_drew (S := (fun w' => Below wx.heap.size wx w' ∧ w'.cell? ⟨w.heap.size, 0, none⟩ = some (.int .i64 0) ∧ w'.cell? ⟨w.heap.size, 1, none⟩ = some (.int .i64 a) ∧ w'.cell? ⟨w.heap.size, 2, none⟩ = some (.int .i64 b) ∧ w'.cell? ⟨w.heap.size, 3, none⟩ = some (.int .i64 c) ∧ w'.cell? ⟨w.heap.size + 1, 0, none⟩ = some (.slice (some ⟨b0, o0, none⟩) B.length c0) ∧ w'.cell? ⟨nb, j, none⟩ = some (.bool true) ∧ w'.cell? ⟨nb + 1, j, none⟩ = some (.int .i64 fv) ∧ w'.cell? ⟨pb, 0, none⟩ = some (.int .i64 pv.kind) ∧ w'.cell? ⟨pb, 1, none⟩ = some (.int .i64 pv.n) ∧ w'.cell? ⟨b0, o0 + fv.toNat, none⟩ = some (.bool wv))) (by rfl) ?_ (fun hHeld => ?_)
        · (go_split_ands; refine ⟨?_, ?_, ?_, ?_, ?_, ?_, ?_, ?_, ?_, ?_, ?_⟩ <;> first | exact (Below.refl _ _).drew | exact ((Below.refl _ _).drew).trans hbr | exact step_below hbr (by assumption) | exact step_cell hbr (by assumption) | go_keep)
        refine wpAnyH_take (i := 0) (v := ?_) rfl (by kernel_rfl) (by kernel_rfl) (by kernel_rfl) (fun _ _ _ h => h) (Or.inl ⟨by rfl, ?_⟩) (by assumption) ?_
        case refine_2 => (intro w hSw; (try dsimp only at hSw); go_simp; first | done | (with_reducible rfl))
        show wpAnyH _ _ _ _ _ _ _ (Act.put _ (some 45) _) _
        simp only [Act.put, List.setIfInBounds_toArray, List.set_cons_zero, List.set_cons_succ]
        refine wpAnyH_take (i := 1) (v := ?_) rfl (by kernel_rfl) (by kernel_rfl) (by kernel_rfl) (fun _ _ _ h => h) (Or.inl ⟨by rfl, ?_⟩) (by assumption) ?_
        case refine_2 => (intro w hSw; (try dsimp only at hSw); go_simp; first | done | (with_reducible rfl))
        show wpAnyH _ _ _ _ _ _ _ (Act.put _ (some 46) _) _
        simp only [Act.put, List.setIfInBounds_toArray, List.set_cons_zero, List.set_cons_succ]
        refine wpAnyH_take (i := 2) (v := ?_) rfl (by kernel_rfl) (by kernel_rfl) (by kernel_rfl) (fun _ _ _ h => h) (Or.inl ⟨by rfl, ?_⟩) (by assumption) ?_
        case refine_2 => (intro w hSw; (try dsimp only at hSw); go_simp; first | done | (with_reducible rfl))
        show wpAnyH _ _ _ _ _ _ _ (Act.put _ (some 47) _) _
        simp only [Act.put, List.setIfInBounds_toArray, List.set_cons_zero, List.set_cons_succ]
        refine wpAnyH_take (i := 3) (v := ?_) rfl (by kernel_rfl) (by kernel_rfl) (by kernel_rfl) (fun _ _ _ h => h) (Or.inl ⟨by rfl, ?_⟩) (by assumption) ?_
        case refine_2 => (intro w hSw; (try dsimp only at hSw); go_simp; first | done | (with_reducible rfl))
        show wpAnyH _ _ _ _ _ _ _ (Act.put _ (some 48) _) _
        simp only [Act.put, List.setIfInBounds_toArray, List.set_cons_zero, List.set_cons_succ]
        refine wpAnyH_take (i := 4) (v := ?_) rfl (by kernel_rfl) (by kernel_rfl) (by kernel_rfl) (fun _ _ _ h => h) (Or.inl ⟨by rfl, ?_⟩) (by assumption) ?_
        case refine_2 => (intro w hSw; (try dsimp only at hSw); go_simp; first | done | (with_reducible rfl))
        show wpAnyH _ _ _ _ _ _ _ (Act.put _ (some 49) _) _
        simp only [Act.put, List.setIfInBounds_toArray, List.set_cons_zero, List.set_cons_succ]
        refine wpAnyH_take (i := 5) (v := ?_) rfl (by kernel_rfl) (by kernel_rfl) (by kernel_rfl) (fun _ _ _ h => h) (Or.inl ⟨by rfl, ?_⟩) (by assumption) ?_
        case refine_2 => (intro w hSw; (try dsimp only at hSw); go_simp; first | done | (with_reducible rfl))
        show wpAnyH _ _ _ _ _ _ _ (Act.put _ (some 50) _) _
        simp only [Act.put, List.setIfInBounds_toArray, List.set_cons_zero, List.set_cons_succ]
        refine wpAnyH_take (i := 6) (v := ?_) rfl (by kernel_rfl) (by kernel_rfl) (by kernel_rfl) (fun _ _ _ h => h) (Or.inl ⟨by rfl, ?_⟩) (by assumption) ?_
        case refine_2 => (intro w hSw; (try dsimp only at hSw); go_simp; first | done | (with_reducible rfl))
        show wpAnyH _ _ _ _ _ _ _ (Act.put _ (some 51) _) _
        simp only [Act.put, List.setIfInBounds_toArray, List.set_cons_zero, List.set_cons_succ]
        refine wpAnyH_take (i := 7) (v := ?_) rfl (by kernel_rfl) (by kernel_rfl) (by kernel_rfl) (fun _ _ _ h => h) (Or.inl ⟨by rfl, ?_⟩) (by assumption) ?_
        case refine_2 => (intro w hSw; (try dsimp only at hSw); go_simp; first | done | (with_reducible rfl))
        show wpAnyH _ _ _ _ _ _ _ (Act.put _ (some 52) _) _
        simp only [Act.put, List.setIfInBounds_toArray, List.set_cons_zero, List.set_cons_succ]
        refine wpAnyH_take (i := 8) (v := ?_) rfl (by kernel_rfl) (by kernel_rfl) (by kernel_rfl) (fun _ _ _ h => h) (Or.inl ⟨by rfl, ?_⟩) (by assumption) ?_
        case refine_2 => (intro w hSw; (try dsimp only at hSw); go_simp; first | done | (with_reducible rfl))
        show wpAnyH _ _ _ _ _ _ _ (Act.put _ (some 53) _) _
        simp only [Act.put, List.setIfInBounds_toArray, List.set_cons_zero, List.set_cons_succ]
        refine wpAnyH_take (i := 9) (v := ?_) rfl (by kernel_rfl) (by kernel_rfl) (by kernel_rfl) (fun _ _ _ h => h) (Or.inl ⟨by rfl, ?_⟩) (by assumption) ?_
        case refine_2 => (intro w hSw; (try dsimp only at hSw); go_simp; first | done | (with_reducible rfl))
        show wpAnyH _ _ _ _ _ _ _ (Act.put _ (some 54) _) _
        simp only [Act.put, List.setIfInBounds_toArray, List.set_cons_zero, List.set_cons_succ]
        refine wpAnyH_take (i := 10) (v := ?_) rfl (by kernel_rfl) (by kernel_rfl) (by kernel_rfl) (fun _ _ _ h => h) (Or.inl ⟨by rfl, ?_⟩) (by assumption) ?_
        case refine_2 => (intro w hSw; (try dsimp only at hSw); go_simp; first | done | (with_reducible rfl))
        show wpAnyH _ _ _ _ _ _ _ (Act.put _ (some 55) _) _
        simp only [Act.put, List.setIfInBounds_toArray, List.set_cons_zero, List.set_cons_succ]
        refine wpAnyH_take (i := 11) (v := ?_) rfl (by kernel_rfl) (by kernel_rfl) (by kernel_rfl) (fun _ _ _ h => h) (Or.inl ⟨by rfl, ?_⟩) (by assumption) ?_
        case refine_2 => (intro w hSw; (try dsimp only at hSw); go_simp; first | done | (with_reducible rfl))
        show wpAnyH _ _ _ _ _ _ _ (Act.put _ (some 56) _) _
        simp only [Act.put, List.setIfInBounds_toArray, List.set_cons_zero, List.set_cons_succ]
        refine wpAnyH_take (i := 12) (v := ?_) rfl (by kernel_rfl) (by kernel_rfl) (by kernel_rfl) (fun _ _ _ h => h) (Or.inl ⟨by rfl, ?_⟩) (by assumption) ?_
        case refine_2 => (intro w hSw; (try dsimp only at hSw); go_simp; first | done | (with_reducible rfl))
        show wpAnyH _ _ _ _ _ _ _ (Act.put _ (some 57) _) _
        simp only [Act.put, List.setIfInBounds_toArray, List.set_cons_zero, List.set_cons_succ]
        refine wpAnyH_ready (rs := [13]) (by kernel_rfl) (by simp) ?_
        refine (AllReadyH.cons rfl (fun K hK => ?_) AllReadyH.nil)
        go_simp
        go_at_call 62
        refine (holds a b c pv wv _).mono ?_
        rintro e w1 ⟨rfl, hbr⟩
        rw [hr]
        go_wp2_with fail
        refine hK.out _ _ ?_ (fun hHeld => ?_)
        · (go_split_ands; refine ⟨?_, ?_, ?_, ?_, ?_, ?_, ?_, ?_, ?_, ?_, ?_⟩ <;> first | exact (Below.refl _ _).drew | exact ((Below.refl _ _).drew).trans hbr | exact step_below hbr (by assumption) | exact step_cell hbr (by assumption) | go_keep)
        clear hK K
        try simp only [Act.put, List.setIfInBounds_toArray, List.set_cons_zero, List.set_cons_succ]
        refine wpAnyH_take (i := 14) (v := ?_) rfl (by kernel_rfl) (by kernel_rfl) (by kernel_rfl) (fun _ _ _ h => h) (Or.inl ⟨by rfl, ?_⟩) (by assumption) ?_
        case refine_2 => (intro w hSw; (try dsimp only at hSw); go_simp; first | done | (with_reducible rfl))
        show wpAnyH _ _ _ _ _ _ _ (Act.put _ (some 59) _) _
        simp only [Act.put, List.setIfInBounds_toArray, List.set_cons_zero, List.set_cons_succ]
        refine wpAnyH_take (i := 15) (v := ?_) rfl (by kernel_rfl) (by kernel_rfl) (by kernel_rfl) (fun _ _ _ h => h) (Or.inl ⟨by rfl, ?_⟩) (by assumption) ?_
        case refine_2 => (intro w hSw; (try dsimp only at hSw); go_simp; first | done | (with_reducible rfl))
        show wpAnyH _ _ _ _ _ _ _ (Act.put _ (some 60) _) _
        simp only [Act.put, List.setIfInBounds_toArray, List.set_cons_zero, List.set_cons_succ]
        refine wpAnyH_take (i := 16) (v := ?_) rfl (by kernel_rfl) (by kernel_rfl) (by kernel_rfl) (fun _ _ _ h => h) (Or.inl ⟨by rfl, ?_⟩) (by assumption) ?_
        case refine_2 => (intro w hSw; (try dsimp only at hSw); go_simp; first | done | (with_reducible rfl))
        show wpAnyH _ _ _ _ _ _ _ (Act.put _ (some 61) _) _
        simp only [Act.put, List.setIfInBounds_toArray, List.set_cons_zero, List.set_cons_succ]
        refine wpAnyH_take (i := 17) (v := undef) rfl (by kernel_rfl) (by kernel_rfl) (by kernel_rfl) (fun _ _ _ h => h) (Or.inr ⟨by rfl, rfl⟩) (by assumption) ?_
        show wpAnyH _ _ _ _ _ _ _ (Act.put _ (some 62) _) _
        simp only [Act.put, List.setIfInBounds_toArray, List.set_cons_zero, List.set_cons_succ]
        refine wpAnyH_take (i := 18) (v := undef) rfl (by kernel_rfl) (by kernel_rfl) (by kernel_rfl) (fun _ _ _ h => h) (Or.inr ⟨by rfl, rfl⟩) (by assumption) ?_
        show wpAnyH _ _ _ _ _ _ _ (Act.put _ (some 63) _) _
        simp only [Act.put, List.setIfInBounds_toArray, List.set_cons_zero, List.set_cons_succ]
        refine wpAnyH_take (i := 19) (v := undef) rfl (by kernel_rfl) (by kernel_rfl) (by kernel_rfl) (fun _ _ _ h => h) (Or.inr ⟨by rfl, rfl⟩) (by assumption) ?_
        show wpAnyH _ _ _ _ _ _ _ (Act.put _ (some 64) _) _
        simp only [Act.put, List.setIfInBounds_toArray, List.set_cons_zero, List.set_cons_succ]
        refine wpAnyH_take (i := 20) (v := undef) rfl (by kernel_rfl) (by kernel_rfl) (by kernel_rfl) (fun _ _ _ h => h) (Or.inr ⟨by rfl, rfl⟩) (by assumption) ?_
        show wpAnyH _ _ _ _ _ _ _ (Act.put _ (some 65) _) _
        simp only [Act.put, List.setIfInBounds_toArray, List.set_cons_zero, List.set_cons_succ]
        refine wpAnyH_take (i := 21) (v := undef) rfl (by kernel_rfl) (by kernel_rfl) (by kernel_rfl) (fun _ _ _ h => h) (Or.inr ⟨by rfl, rfl⟩) (by assumption) ?_
        show wpAnyH _ _ _ _ _ _ _ (Act.put _ (some 66) _) _
        simp only [Act.put, List.setIfInBounds_toArray, List.set_cons_zero, List.set_cons_succ]
        refine wpAnyH_take (i := 22) (v := undef) rfl (by kernel_rfl) (by kernel_rfl) (by kernel_rfl) (fun _ _ _ h => h) (Or.inr ⟨by rfl, rfl⟩) (by assumption) ?_
        show wpAnyH _ _ _ _ _ _ _ (Act.put _ (some 67) _) _
        simp only [Act.put, List.setIfInBounds_toArray, List.set_cons_zero, List.set_cons_succ]
        refine wpAnyH_take (i := 23) (v := undef) rfl (by kernel_rfl) (by kernel_rfl) (by kernel_rfl) (fun _ _ _ h => h) (Or.inr ⟨by rfl, rfl⟩) (by assumption) ?_
        show wpAnyH _ _ _ _ _ _ _ (Act.put _ (some 68) _) _
        simp only [Act.put, List.setIfInBounds_toArray, List.set_cons_zero, List.set_cons_succ]
        refine wpAnyH_take (i := 24) (v := undef) rfl (by kernel_rfl) (by kernel_rfl) (by kernel_rfl) (fun _ _ _ h => h) (Or.inr ⟨by rfl, rfl⟩) (by assumption) ?_
        show wpAnyH _ _ _ _ _ _ _ (Act.put _ (some 69) _) _
        simp only [Act.put, List.setIfInBounds_toArray, List.set_cons_zero, List.set_cons_succ]
        refine wpAnyH_take (i := 25) (v := undef) rfl (by kernel_rfl) (by kernel_rfl) (by kernel_rfl) (fun _ _ _ h => h) (Or.inr ⟨by rfl, rfl⟩) (by assumption) ?_
        show wpAnyH _ _ _ _ _ _ _ (Act.put _ (some 70) _) _
        simp only [Act.put, List.setIfInBounds_toArray, List.set_cons_zero, List.set_cons_succ]
        refine wpAnyH_take (i := 26) (v := ?_) rfl (by kernel_rfl) (by kernel_rfl) (by kernel_rfl) (fun _ _ _ h => h) (Or.inl ⟨by rfl, ?_⟩) (by assumption) ?_
        case refine_2 => (intro w hSw; (try dsimp only at hSw); go_simp; first | done | (with_reducible rfl))
        show wpAnyH _ _ _ _ _ _ _ (Act.put _ (some 71) _) _
        simp only [Act.put, List.setIfInBounds_toArray, List.set_cons_zero, List.set_cons_succ]
        refine wpAnyH_done (by kernel_rfl) ?_ _
        have HB9 : Hid (Below wx.heap.size wx w1) := hHeld.1
        clear hHeld hbr
        go_wp2
        go_ret
        exact ⟨ret_bool (NO.out (by unfold fieldO; rw [if_pos rfl, ← HWV.out]; exact hr)).symm, step_below HB9.out HFX.out.bel⟩
      · skip
        refine wp_region_held_drew (S := (fun w' => Below wx.heap.size wx w' ∧ w'.cell? ⟨w.heap.size, 0, none⟩ = some (.int .i64 0) ∧ w'.cell? ⟨w.heap.size, 1, none⟩ = some (.int .i64 a) ∧ w'.cell? ⟨w.heap.size, 2, none⟩ = some (.int .i64 b) ∧ w'.cell? ⟨w.heap.size, 3, none⟩ = some (.int .i64 c) ∧ w'.cell? ⟨w.heap.size + 1, 0, none⟩ = some (.slice (some ⟨b0, o0, none⟩) B.length c0) ∧ w'.cell? ⟨nb, j, none⟩ = some (.bool true) ∧ w'.cell? ⟨nb + 1, j, none⟩ = some (.int .i64 fv) ∧ w'.cell? ⟨pb, 0, none⟩ = some (.int .i64 pv.kind) ∧ w'.cell? ⟨pb, 1, none⟩ = some (.int .i64 pv.n) ∧ w'.cell? ⟨b0, o0 + fv.toNat, none⟩ = some (.bool wv))) (by rfl) ?_ (fun hHeld => ?_)
        · (go_split_ands; refine ⟨?_, ?_, ?_, ?_, ?_, ?_, ?_, ?_, ?_, ?_, ?_⟩ <;> first | exact (Below.refl _ _).drew | exact ((Below.refl _ _).drew).trans hbr | exact step_below hbr (by assumption) | exact step_cell hbr (by assumption) | go_keep)
        refine wpAnyH_take (i := 0) (v := ?_) rfl (by kernel_rfl) (by kernel_rfl) (by kernel_rfl) (fun _ _ _ h => h) (Or.inl ⟨by rfl, ?_⟩) (by assumption) ?_
        case refine_2 => (intro w hSw; (try dsimp only at hSw); go_simp; first | done | (with_reducible rfl))
        show wpAnyH _ _ _ _ _ _ _ (Act.put _ (some 45) _) _
        simp only [Act.put, List.setIfInBounds_toArray, List.set_cons_zero, List.set_cons_succ]
        refine wpAnyH_take (i := 1) (v := ?_) rfl (by kernel_rfl) (by kernel_rfl) (by kernel_rfl) (fun _ _ _ h => h) (Or.inl ⟨by rfl, ?_⟩) (by assumption) ?_
        case refine_2 => (intro w hSw; (try dsimp only at hSw); go_simp; first | done | (with_reducible rfl))
        show wpAnyH _ _ _ _ _ _ _ (Act.put _ (some 46) _) _
        simp only [Act.put, List.setIfInBounds_toArray, List.set_cons_zero, List.set_cons_succ]
        refine wpAnyH_take (i := 2) (v := ?_) rfl (by kernel_rfl) (by kernel_rfl) (by kernel_rfl) (fun _ _ _ h => h) (Or.inl ⟨by rfl, ?_⟩) (by assumption) ?_
        case refine_2 => (intro w hSw; (try dsimp only at hSw); go_simp; first | done | (with_reducible rfl))
        show wpAnyH _ _ _ _ _ _ _ (Act.put _ (some 47) _) _
        simp only [Act.put, List.setIfInBounds_toArray, List.set_cons_zero, List.set_cons_succ]
        refine wpAnyH_take (i := 3) (v := ?_) rfl (by kernel_rfl) (by kernel_rfl) (by kernel_rfl) (fun _ _ _ h => h) (Or.inl ⟨by rfl, ?_⟩) (by assumption) ?_
        case refine_2 => (intro w hSw; (try dsimp only at hSw); go_simp; first | done | (with_reducible rfl))
        show wpAnyH _ _ _ _ _ _ _ (Act.put _ (some 48) _) _
        simp only [Act.put, List.setIfInBounds_toArray, List.set_cons_zero, List.set_cons_succ]
        refine wpAnyH_take (i := 4) (v := ?_) rfl (by kernel_rfl) (by kernel_rfl) (by kernel_rfl) (fun _ _ _ h => h) (Or.inl ⟨by rfl, ?_⟩) (by assumption) ?_
        case refine_2 => (intro w hSw; (try dsimp only at hSw); go_simp; first | done | (with_reducible rfl))
        show wpAnyH _ _ _ _ _ _ _ (Act.put _ (some 49) _) _
        simp only [Act.put, List.setIfInBounds_toArray, List.set_cons_zero, List.set_cons_succ]
        refine wpAnyH_take (i := 5) (v := ?_) rfl (by kernel_rfl) (by kernel_rfl) (by kernel_rfl) (fun _ _ _ h => h) (Or.inl ⟨by rfl, ?_⟩) (by assumption) ?_
        case refine_2 => (intro w hSw; (try dsimp only at hSw); go_simp; first | done | (with_reducible rfl))
        show wpAnyH _ _ _ _ _ _ _ (Act.put _ (some 50) _) _
        simp only [Act.put, List.setIfInBounds_toArray, List.set_cons_zero, List.set_cons_succ]
        refine wpAnyH_take (i := 6) (v := ?_) rfl (by kernel_rfl) (by kernel_rfl) (by kernel_rfl) (fun _ _ _ h => h) (Or.inl ⟨by rfl, ?_⟩) (by assumption) ?_
        case refine_2 => (intro w hSw; (try dsimp only at hSw); go_simp; first | done | (with_reducible rfl))
        show wpAnyH _ _ _ _ _ _ _ (Act.put _ (some 51) _) _
        simp only [Act.put, List.setIfInBounds_toArray, List.set_cons_zero, List.set_cons_succ]
        refine wpAnyH_take (i := 7) (v := ?_) rfl (by kernel_rfl) (by kernel_rfl) (by kernel_rfl) (fun _ _ _ h => h) (Or.inl ⟨by rfl, ?_⟩) (by assumption) ?_
        case refine_2 => (intro w hSw; (try dsimp only at hSw); go_simp; first | done | (with_reducible rfl))
        show wpAnyH _ _ _ _ _ _ _ (Act.put _ (some 52) _) _
        simp only [Act.put, List.setIfInBounds_toArray, List.set_cons_zero, List.set_cons_succ]
        refine wpAnyH_take (i := 8) (v := ?_) rfl (by kernel_rfl) (by kernel_rfl) (by kernel_rfl) (fun _ _ _ h => h) (Or.inl ⟨by rfl, ?_⟩) (by assumption) ?_
        case refine_2 => (intro w hSw; (try dsimp only at hSw); go_simp; first | done | (with_reducible rfl))
        show wpAnyH _ _ _ _ _ _ _ (Act.put _ (some 53) _) _
        simp only [Act.put, List.setIfInBounds_toArray, List.set_cons_zero, List.set_cons_succ]
        refine wpAnyH_take (i := 9) (v := ?_) rfl (by kernel_rfl) (by kernel_rfl) (by kernel_rfl) (fun _ _ _ h => h) (Or.inl ⟨by rfl, ?_⟩) (by assumption) ?_
        case refine_2 => (intro w hSw; (try dsimp only at hSw); go_simp; first | done | (with_reducible rfl))
        show wpAnyH _ _ _ _ _ _ _ (Act.put _ (some 54) _) _
        simp only [Act.put, List.setIfInBounds_toArray, List.set_cons_zero, List.set_cons_succ]
        refine wpAnyH_take (i := 10) (v := ?_) rfl (by kernel_rfl) (by kernel_rfl) (by kernel_rfl) (fun _ _ _ h => h) (Or.inl ⟨by rfl, ?_⟩) (by assumption) ?_
        case refine_2 => (intro w hSw; (try dsimp only at hSw); go_simp; first | done | (with_reducible rfl))
        show wpAnyH _ _ _ _ _ _ _ (Act.put _ (some 55) _) _
        simp only [Act.put, List.setIfInBounds_toArray, List.set_cons_zero, List.set_cons_succ]
        refine wpAnyH_take (i := 11) (v := ?_) rfl (by kernel_rfl) (by kernel_rfl) (by kernel_rfl) (fun _ _ _ h => h) (Or.inl ⟨by rfl, ?_⟩) (by assumption) ?_
        case refine_2 => (intro w hSw; (try dsimp only at hSw); go_simp; first | done | (with_reducible rfl))
        show wpAnyH _ _ _ _ _ _ _ (Act.put _ (some 56) _) _
        simp only [Act.put, List.setIfInBounds_toArray, List.set_cons_zero, List.set_cons_succ]
        refine wpAnyH_take (i := 12) (v := ?_) rfl (by kernel_rfl) (by kernel_rfl) (by kernel_rfl) (fun _ _ _ h => h) (Or.inl ⟨by rfl, ?_⟩) (by assumption) ?_
        case refine_2 => (intro w hSw; (try dsimp only at hSw); go_simp; first | done | (with_reducible rfl))
        show wpAnyH _ _ _ _ _ _ _ (Act.put _ (some 57) _) _
        simp only [Act.put, List.setIfInBounds_toArray, List.set_cons_zero, List.set_cons_succ]
        refine wpAnyH_ready (rs := [13]) (by kernel_rfl) (by simp) ?_
        refine (AllReadyH.cons rfl (fun K hK => ?_) AllReadyH.nil)
        go_simp
        go_at_call 62
        refine (holds a b c pv wv _).mono ?_
        rintro e w1 ⟨rfl, hbr⟩
        rw [hr]
        go_wp2_with fail
        refine hK.out _ _ ?_ (fun hHeld => ?_)
        · (go_split_ands; refine ⟨?_, ?_, ?_, ?_, ?_, ?_, ?_, ?_, ?_, ?_, ?_⟩ <;> first | exact (Below.refl _ _).drew | exact ((Below.refl _ _).drew).trans hbr | exact step_below hbr (by assumption) | exact step_cell hbr (by assumption) | go_keep)
        clear hK K
        try simp only [Act.put, List.setIfInBounds_toArray, List.set_cons_zero, List.set_cons_succ]
        refine wpAnyH_take (i := 14) (v := ?_) rfl (by kernel_rfl) (by kernel_rfl) (by kernel_rfl) (fun _ _ _ h => h) (Or.inl ⟨by rfl, ?_⟩) (by assumption) ?_
        case refine_2 => (intro w hSw; (try dsimp only at hSw); go_simp; first | done | (with_reducible rfl))
        show wpAnyH _ _ _ _ _ _ _ (Act.put _ (some 59) _) _
        simp only [Act.put, List.setIfInBounds_toArray, List.set_cons_zero, List.set_cons_succ]
        refine wpAnyH_take (i := 15) (v := ?_) rfl (by kernel_rfl) (by kernel_rfl) (by kernel_rfl) (fun _ _ _ h => h) (Or.inl ⟨by rfl, ?_⟩) (by assumption) ?_
        case refine_2 => (intro w hSw; (try dsimp only at hSw); go_simp; first | done | (with_reducible rfl))
        show wpAnyH _ _ _ _ _ _ _ (Act.put _ (some 60) _) _
        simp only [Act.put, List.setIfInBounds_toArray, List.set_cons_zero, List.set_cons_succ]
        refine wpAnyH_take (i := 16) (v := ?_) rfl (by kernel_rfl) (by kernel_rfl) (by kernel_rfl) (fun _ _ _ h => h) (Or.inl ⟨by rfl, ?_⟩) (by assumption) ?_
        case refine_2 => (intro w hSw; (try dsimp only at hSw); go_simp; first | done | (with_reducible rfl))
        show wpAnyH _ _ _ _ _ _ _ (Act.put _ (some 61) _) _
        simp only [Act.put, List.setIfInBounds_toArray, List.set_cons_zero, List.set_cons_succ]
        refine wpAnyH_take (i := 17) (v := ?_) rfl (by kernel_rfl) (by kernel_rfl) (by kernel_rfl) (fun _ _ _ h => h) (Or.inl ⟨by rfl, ?_⟩) (by assumption) ?_
        case refine_2 => (intro w hSw; (try dsimp only at hSw); go_simp; first | done | (with_reducible rfl))
        show wpAnyH _ _ _ _ _ _ _ (Act.put _ (some 62) _) _
        simp only [Act.put, List.setIfInBounds_toArray, List.set_cons_zero, List.set_cons_succ]
        refine wpAnyH_take (i := 18) (v := ?_) rfl (by kernel_rfl) (by kernel_rfl) (by kernel_rfl) (fun _ _ _ h => h) (Or.inl ⟨by rfl, ?_⟩) (by assumption) ?_
        case refine_2 => (intro w hSw; (try dsimp only at hSw); go_simp; first | done | (with_reducible rfl))
        show wpAnyH _ _ _ _ _ _ _ (Act.put _ (some 63) _) _
        simp only [Act.put, List.setIfInBounds_toArray, List.set_cons_zero, List.set_cons_succ]
        refine wpAnyH_take (i := 19) (v := ?_) rfl (by kernel_rfl) (by kernel_rfl) (by kernel_rfl) (fun _ _ _ h => h) (Or.inl ⟨by rfl, ?_⟩) (by assumption) ?_
        case refine_2 => (intro w hSw; (try dsimp only at hSw); go_simp; first | done | (with_reducible rfl))
        show wpAnyH _ _ _ _ _ _ _ (Act.put _ (some 64) _) _
        simp only [Act.put, List.setIfInBounds_toArray, List.set_cons_zero, List.set_cons_succ]
        refine wpAnyH_take (i := 20) (v := ?_) rfl (by kernel_rfl) (by kernel_rfl) (by kernel_rfl) (fun _ _ _ h => h) (Or.inl ⟨by rfl, ?_⟩) (by assumption) ?_
        case refine_2 => (intro w hSw; (try dsimp only at hSw); go_simp; first | done | (with_reducible rfl))
        show wpAnyH _ _ _ _ _ _ _ (Act.put _ (some 65) _) _
        simp only [Act.put, List.setIfInBounds_toArray, List.set_cons_zero, List.set_cons_succ]
        refine wpAnyH_take (i := 21) (v := ?_) rfl (by kernel_rfl) (by kernel_rfl) (by kernel_rfl) (fun _ _ _ h => h) (Or.inl ⟨by rfl, ?_⟩) (by assumption) ?_
        case refine_2 => (intro w hSw; (try dsimp only at hSw); go_simp; first | done | (with_reducible rfl))
        show wpAnyH _ _ _ _ _ _ _ (Act.put _ (some 66) _) _
        simp only [Act.put, List.setIfInBounds_toArray, List.set_cons_zero, List.set_cons_succ]
        refine wpAnyH_take (i := 22) (v := undef) rfl (by kernel_rfl) (by kernel_rfl) (by kernel_rfl) (fun _ _ _ h => h) (Or.inr ⟨by rfl, rfl⟩) (by assumption) ?_
        show wpAnyH _ _ _ _ _ _ _ (Act.put _ (some 67) _) _
        simp only [Act.put, List.setIfInBounds_toArray, List.set_cons_zero, List.set_cons_succ]
        refine wpAnyH_take (i := 23) (v := undef) rfl (by kernel_rfl) (by kernel_rfl) (by kernel_rfl) (fun _ _ _ h => h) (Or.inr ⟨by rfl, rfl⟩) (by assumption) ?_
        show wpAnyH _ _ _ _ _ _ _ (Act.put _ (some 68) _) _
        simp only [Act.put, List.setIfInBounds_toArray, List.set_cons_zero, List.set_cons_succ]
        refine wpAnyH_take (i := 24) (v := undef) rfl (by kernel_rfl) (by kernel_rfl) (by kernel_rfl) (fun _ _ _ h => h) (Or.inr ⟨by rfl, rfl⟩) (by assumption) ?_
        show wpAnyH _ _ _ _ _ _ _ (Act.put _ (some 69) _) _
        simp only [Act.put, List.setIfInBounds_toArray, List.set_cons_zero, List.set_cons_succ]
        refine wpAnyH_take (i := 25) (v := ?_) rfl (by kernel_rfl) (by kernel_rfl) (by kernel_rfl) (fun _ _ _ h => h) (Or.inl ⟨by rfl, ?_⟩) (by assumption) ?_
        case refine_2 => (intro w hSw; (try dsimp only at hSw); go_simp; first | done | (with_reducible rfl))
        show wpAnyH _ _ _ _ _ _ _ (Act.put _ (some 70) _) _
        simp only [Act.put, List.setIfInBounds_toArray, List.set_cons_zero, List.set_cons_succ]
        refine wpAnyH_take (i := 26) (v := ?_) rfl (by kernel_rfl) (by kernel_rfl) (by kernel_rfl) (fun _ _ _ h => h) (Or.inl ⟨by rfl, ?_⟩) (by assumption) ?_
        case refine_2 => (intro w hSw; (try dsimp only at hSw); go_simp; first | done | (with_reducible rfl))
        show wpAnyH _ _ _ _ _ _ _ (Act.put _ (some 71) _) _
        simp only [Act.put, List.setIfInBounds_toArray, List.set_cons_zero, List.set_cons_succ]
        refine wpAnyH_done (by kernel_rfl) ?_ _
        have HB9 : Hid (Below wx.heap.size wx w1) := hHeld.1
        clear hHeld hbr
        go_wp2
        exact ⟨⟨j + 1, by omega, by go_num, HFX.out.below HB9.out, YES.out (by unfold fieldO; rw [if_pos rfl, ← HWV.out]; exact hr)⟩, by simp [intOf]; omega⟩

end Go.Proofs.YtcmnmogmdhofcaaGreat.form

/- What the program's own function on a row of places (place.room.rowMay) answers, and that it is the document's. -/
namespace Go.Proofs.YtcmnmogmdhofcaaGreat.form
open Go.RowKit
set_option linter.unusedVariables false
attribute [local go_sem ↓] Go.wp_at_zero Go.wp_at_succ

def rowO (B : List Bool) (a b c : Int) (i : LIns) (r : LRow) : Bool := fieldsO B a b c i r && movesO a b c r.before 6 && movesO a b c r.after (mostI i.op)
theorem most_le (op : Int) : mostI op ≤ 6 := by unfold mostI; split <;> omega

theorem has_is {s slots : Int} (h : targetB s = true) (p : LPlace) : hasB s (s / 2) slots p = isB s slots p := by
  have hs : s = 4 ∨ s = 6 ∨ s = 8 ∨ s = 10 ∨ s = 12 ∨ s = 14 ∨ s = 16 := by unfold targetB at h; simp at h; omega
  unfold hasB isB
  split
  · rfl
  · split
    · rw [Bool.eq_iff_iff]; simp; omega
    · rfl
theorem hold_reg {B : List Bool} {s slots : Int} (h : targetB s = true) (p : LPlace) (t : Int) : holdB s (s / 2) slots p (B.getD t.toNat false) = regB B s t p := by
  unfold holdB regB
  rw [has_is h]
  cases B.getD t.toNat false
  · simp only [Bool.false_eq_true, if_false]
    by_cases e : p.kind = 1
    · unfold isB; simp [e]
    · rw [show (p.kind == 1) = false by simpa using e]; rfl
  · simp only [if_true]
    by_cases e : p.kind = 2
    · unfold isB; simp [e]
    · rw [show (p.kind == 2) = false by simpa using e]; rfl
theorem field_same {B : List Bool} {s slots : Int} (h : targetB s = true) (x : Bool) (t : Int) (p : LPlace) : fieldO B s (s / 2) slots x t p = fieldP B s x t p := by
  unfold fieldO fieldP
  cases x
  · simp only [Bool.false_eq_true, if_false, emptyB]; cases h1 : (p.kind == 0) <;> cases h2 : (p.n == 0) <;> simp_all
  · simp only [if_true]; exact hold_reg h p t
theorem fields_same {B : List Bool} {s slots : Int} (h : targetB s = true) (i : LIns) (r : LRow) : fieldsO B s (s / 2) slots i r = (fieldP B s (givesB i.op) i.dest r.dest && fieldP B s (decide (0 < manyI i.op)) i.a r.a && fieldP B s (decide (1 < manyI i.op)) i.b r.b) := by
  unfold fieldsO
  simp only [field_same h]
  rw [show List.range 3 = [0, 1, 2] by decide]
  simp only [List.all_cons, List.all_nil, Bool.and_true, Bool.and_assoc]
  rfl
theorem move_same {s slots : Int} (h : targetB s = true) (m : LMove) : moveO s (s / 2) slots m = moveB s slots m := by
  unfold moveO moveB holdB emptyB
  rw [has_is h, has_is h]
  have hk : kindsB m.dst.kind m.src.kind = (if m.dst.kind == 3 then m.src.kind != 3 else (m.src.kind == 3) || (m.src.kind == m.dst.kind)) := by
    unfold kindsB
    rw [Bool.eq_iff_iff]
    split <;> split <;> simp_all <;> omega
  rw [hk]
  cases m.cst <;> simp only [Bool.false_eq_true, if_false, if_true] <;> cases isB s slots m.dst <;> cases isB s slots m.src <;> cases (m.n == 0) <;> simp
theorem moves_same {s slots : Int} (h : targetB s = true) (l : List LMove) (most : Int) : movesO s (s / 2) slots l most = (decide ((l.length : Int) ≤ most) && l.all (moveB s slots)) := by
  unfold movesO
  rw [show moveO s (s / 2) slots = moveB s slots from funext (move_same h)]
theorem row_same {B : List Bool} {s slots : Int} (h : targetB s = true) (i : LIns) (r : LRow) : rowO B s (s / 2) slots i r = rowB B s slots i r := by
  unfold rowO rowB
  rw [fields_same h, moves_same h, moves_same h]
  unfold movesB mostI
  generalize (fieldP B s (givesB i.op) i.dest r.dest && fieldP B s (decide (0 < manyI i.op)) i.a r.a && fieldP B s (decide (1 < manyI i.op)) i.b r.b) = x
  generalize r.before.all (moveB s slots) = y
  generalize r.after.all (moveB s slots) = z
  rw [show decide ((r.before.length : Int) ≤ 6) = decide (r.before.length ≤ 6) by rw [Bool.eq_iff_iff]; simp; omega]
  generalize decide (r.before.length ≤ 6) = u
  by_cases e : i.op = 8 ∨ i.op = 9 ∨ i.op = 10
  · rw [if_pos e, show ((i.op == 8 || i.op == 9 || i.op == 10)) = true by simpa [or_assoc] using e]
    by_cases e0 : r.after.length = 0
    · simp [e0, Bool.and_assoc]
    · have e1 : 0 < r.after.length := by omega
      have e2 : ¬ (r.after.length : Int) ≤ 0 := by omega
      rw [decide_eq_false e2, decide_eq_true e1]
      simp
  · rw [if_neg e, show ((i.op == 8 || i.op == 9 || i.op == 10)) = false by simpa [or_assoc, and_assoc] using e]
    rw [show decide ((r.after.length : Int) ≤ 6) = decide (r.after.length ≤ 6) by rw [Bool.eq_iff_iff]; simp; omega]
    simp [Bool.and_assoc]

set_option maxRecDepth 100000 in
set_option maxHeartbeats 8000000 in
theorem rowMay (b0 o0 c0 b1 o1 c1 : Nat) (B : List Bool) (C : List LIns) (a b c : Int) (i : LIns) (r : LRow) (ab : Option Addr) (cb : Nat) (aa : Option Addr) (ca : Nat) (w : World) (hB : B.length ≤ 12) (h : Held w b0 o0 b1 o1 B C)
    (hk : knownB i.op = true) (hf : ∀ j, j < 3 → tjF i j = true → 0 ≤ fjF i j ∧ fjF i j < B.length) (hmb : MovesIs w (.slice ab r.before.length cb) r.before) (hma : MovesIs w (.slice aa r.after.length ca) r.after) :
    Calls Tryz.prog 24 #[roomV a b c, progV b0 o0 B.length c0 b1 o1 C.length c1, i.val, rowV r ab cb aa ca] w fun e w' => e = .returned (.bool (rowO B a b c i r)) ∧ Below w.heap.size w w' := by
  have HF : Hid (∀ j, j < 3 → tjF i j = true → 0 ≤ fjF i j ∧ fjF i j < B.length) := hf
  have HK : Hid (knownB i.op = true) := hk
  have HH : Hid (Held w b0 o0 b1 o1 B C) := h
  have HMB : Hid (MovesIs w (.slice ab r.before.length cb) r.before) := hmb
  have HMA : Hid (MovesIs w (.slice aa r.after.length ca) r.after) := hma
  have HR : Hid (rowO B a b c i r = (fieldsO B a b c i r && movesO a b c r.before 6 && movesO a b c r.after (mostI i.op))) := rfl
  clear hf hk h hmb hma
  unfold roomV progV LIns.val rowV
  go_enter Tryz.func24, Tryz.ntmps24
  go_upto_region 1 with fail
  obtain ⟨wx, hwx⟩ : ∃ wx, wx = (((w.alloc (.cells #[.int .i64 0, .int .i64 a, .int .i64 b, .int .i64 c] 72)).alloc (.cells #[.slice (some ⟨b0, o0, none⟩) B.length c0, .slice (some ⟨b1, o1, none⟩) C.length c1] 25)).alloc (.cells #[.int .i64 i.op, .int .i64 i.dest, .int .i64 i.a, .int .i64 i.b, .int .i64 i.c, .int .u32 i.n] 49)).alloc (.cells #[.int .i64 r.dest.kind, .int .i64 r.dest.n, .int .i64 r.a.kind, .int .i64 r.a.n, .int .i64 r.b.kind, .int .i64 r.b.n, .slice ab r.before.length cb, .slice aa r.after.length ca] 54) := ⟨_, rfl⟩
  rw [← hwx]
  have HWX : Hid (Below w.heap.size w wx) := by rw [hwx]; exact ((((Below.refl _ _).alloc (Nat.le_refl _) _).alloc (by simp) _).alloc (by simp; omega) _).alloc (by simp; omega) _
  have x0 : wx.cell? ⟨w.heap.size, 0, none⟩ = some (.int .i64 0) := by rw [hwx]; simp [go_sem]
  have x1 : wx.cell? ⟨w.heap.size, 1, none⟩ = some (.int .i64 a) := by rw [hwx]; simp [go_sem]
  have x2 : wx.cell? ⟨w.heap.size, 2, none⟩ = some (.int .i64 b) := by rw [hwx]; simp [go_sem]
  have x3 : wx.cell? ⟨w.heap.size, 3, none⟩ = some (.int .i64 c) := by rw [hwx]; simp [go_sem]
  have x4 : wx.cell? ⟨w.heap.size + 1, 0, none⟩ = some (.slice (some ⟨b0, o0, none⟩) B.length c0) := by rw [hwx]; simp [go_sem]
  have x5 : wx.cell? ⟨w.heap.size + 1, 1, none⟩ = some (.slice (some ⟨b1, o1, none⟩) C.length c1) := by rw [hwx]; simp [go_sem]
  have x6 : wx.cell? ⟨w.heap.size + 1 + 1, 0, none⟩ = some (.int .i64 i.op) := by rw [hwx]; simp [go_sem]
  have x7 : wx.cell? ⟨w.heap.size + 1 + 1, 1, none⟩ = some (.int .i64 i.dest) := by rw [hwx]; simp [go_sem]
  have x8 : wx.cell? ⟨w.heap.size + 1 + 1, 2, none⟩ = some (.int .i64 i.a) := by rw [hwx]; simp [go_sem]
  have x9 : wx.cell? ⟨w.heap.size + 1 + 1, 3, none⟩ = some (.int .i64 i.b) := by rw [hwx]; simp [go_sem]
  have x10 : wx.cell? ⟨w.heap.size + 1 + 1, 4, none⟩ = some (.int .i64 i.c) := by rw [hwx]; simp [go_sem]
  have x11 : wx.cell? ⟨w.heap.size + 1 + 1, 5, none⟩ = some (.int .u32 i.n) := by rw [hwx]; simp [go_sem]
  have x12 : wx.cell? ⟨w.heap.size + 1 + 1 + 1, 0, none⟩ = some (.int .i64 r.dest.kind) := by rw [hwx]; simp [go_sem]
  have x13 : wx.cell? ⟨w.heap.size + 1 + 1 + 1, 1, none⟩ = some (.int .i64 r.dest.n) := by rw [hwx]; simp [go_sem]
  have x14 : wx.cell? ⟨w.heap.size + 1 + 1 + 1, 2, none⟩ = some (.int .i64 r.a.kind) := by rw [hwx]; simp [go_sem]
  have x15 : wx.cell? ⟨w.heap.size + 1 + 1 + 1, 3, none⟩ = some (.int .i64 r.a.n) := by rw [hwx]; simp [go_sem]
  have x16 : wx.cell? ⟨w.heap.size + 1 + 1 + 1, 4, none⟩ = some (.int .i64 r.b.kind) := by rw [hwx]; simp [go_sem]
  have x17 : wx.cell? ⟨w.heap.size + 1 + 1 + 1, 5, none⟩ = some (.int .i64 r.b.n) := by rw [hwx]; simp [go_sem]
  have x18 : wx.cell? ⟨w.heap.size + 1 + 1 + 1, 6, none⟩ = some (.slice ab r.before.length cb) := by rw [hwx]; simp [go_sem]
  have x19 : wx.cell? ⟨w.heap.size + 1 + 1 + 1, 7, none⟩ = some (.slice aa r.after.length ca) := by rw [hwx]; simp [go_sem]
  clear hwx
  cases hf1 : fieldsO B a b c i r
  · skip
    refine wp_region_held_drew (S := (fun w' => Below wx.heap.size wx w' ∧ w'.cell? ⟨w.heap.size, 0, none⟩ = some (.int .i64 0) ∧ w'.cell? ⟨w.heap.size, 1, none⟩ = some (.int .i64 a) ∧ w'.cell? ⟨w.heap.size, 2, none⟩ = some (.int .i64 b) ∧ w'.cell? ⟨w.heap.size, 3, none⟩ = some (.int .i64 c) ∧ w'.cell? ⟨w.heap.size + 1, 0, none⟩ = some (.slice (some ⟨b0, o0, none⟩) B.length c0) ∧ w'.cell? ⟨w.heap.size + 1, 1, none⟩ = some (.slice (some ⟨b1, o1, none⟩) C.length c1) ∧ w'.cell? ⟨w.heap.size + 1 + 1, 0, none⟩ = some (.int .i64 i.op) ∧ w'.cell? ⟨w.heap.size + 1 + 1, 1, none⟩ = some (.int .i64 i.dest) ∧ w'.cell? ⟨w.heap.size + 1 + 1, 2, none⟩ = some (.int .i64 i.a) ∧ w'.cell? ⟨w.heap.size + 1 + 1, 3, none⟩ = some (.int .i64 i.b) ∧ w'.cell? ⟨w.heap.size + 1 + 1, 4, none⟩ = some (.int .i64 i.c) ∧ w'.cell? ⟨w.heap.size + 1 + 1, 5, none⟩ = some (.int .u32 i.n) ∧ w'.cell? ⟨w.heap.size + 1 + 1 + 1, 0, none⟩ = some (.int .i64 r.dest.kind) ∧ w'.cell? ⟨w.heap.size + 1 + 1 + 1, 1, none⟩ = some (.int .i64 r.dest.n) ∧ w'.cell? ⟨w.heap.size + 1 + 1 + 1, 2, none⟩ = some (.int .i64 r.a.kind) ∧ w'.cell? ⟨w.heap.size + 1 + 1 + 1, 3, none⟩ = some (.int .i64 r.a.n) ∧ w'.cell? ⟨w.heap.size + 1 + 1 + 1, 4, none⟩ = some (.int .i64 r.b.kind) ∧ w'.cell? ⟨w.heap.size + 1 + 1 + 1, 5, none⟩ = some (.int .i64 r.b.n) ∧ w'.cell? ⟨w.heap.size + 1 + 1 + 1, 6, none⟩ = some (.slice ab r.before.length cb) ∧ w'.cell? ⟨w.heap.size + 1 + 1 + 1, 7, none⟩ = some (.slice aa r.after.length ca))) (by rfl) ?_ (fun hHeld => ?_)
    · (go_split_ands; refine ⟨?_, ?_, ?_, ?_, ?_, ?_, ?_, ?_, ?_, ?_, ?_, ?_, ?_, ?_, ?_, ?_, ?_, ?_, ?_, ?_, ?_⟩ <;> first | exact (Below.refl _ _).drew | exact ((Below.refl _ _).drew).trans hbr | exact step_below hbr (by assumption) | exact step_cell hbr (by assumption) | go_keep)
    refine wpAnyH_take (i := 0) (v := ?_) rfl (by kernel_rfl) (by kernel_rfl) (by kernel_rfl) (fun _ _ _ h => h) (Or.inl ⟨by rfl, ?_⟩) (by assumption) ?_
    case refine_2 => (intro w hSw; (try dsimp only at hSw); go_simp; first | done | (with_reducible rfl))
    show wpAnyH _ _ _ _ _ _ _ (Act.put _ (some 9) _) _
    simp only [Act.put, List.setIfInBounds_toArray, List.set_cons_zero, List.set_cons_succ]
    refine wpAnyH_take (i := 1) (v := ?_) rfl (by kernel_rfl) (by kernel_rfl) (by kernel_rfl) (fun _ _ _ h => h) (Or.inl ⟨by rfl, ?_⟩) (by assumption) ?_
    case refine_2 => (intro w hSw; (try dsimp only at hSw); go_simp; first | done | (with_reducible rfl))
    show wpAnyH _ _ _ _ _ _ _ (Act.put _ (some 10) _) _
    simp only [Act.put, List.setIfInBounds_toArray, List.set_cons_zero, List.set_cons_succ]
    refine wpAnyH_take (i := 2) (v := ?_) rfl (by kernel_rfl) (by kernel_rfl) (by kernel_rfl) (fun _ _ _ h => h) (Or.inl ⟨by rfl, ?_⟩) (by assumption) ?_
    case refine_2 => (intro w hSw; (try dsimp only at hSw); go_simp; first | done | (with_reducible rfl))
    show wpAnyH _ _ _ _ _ _ _ (Act.put _ (some 11) _) _
    simp only [Act.put, List.setIfInBounds_toArray, List.set_cons_zero, List.set_cons_succ]
    refine wpAnyH_take (i := 3) (v := ?_) rfl (by kernel_rfl) (by kernel_rfl) (by kernel_rfl) (fun _ _ _ h => h) (Or.inl ⟨by rfl, ?_⟩) (by assumption) ?_
    case refine_2 => (intro w hSw; (try dsimp only at hSw); go_simp; first | done | (with_reducible rfl))
    show wpAnyH _ _ _ _ _ _ _ (Act.put _ (some 12) _) _
    simp only [Act.put, List.setIfInBounds_toArray, List.set_cons_zero, List.set_cons_succ]
    refine wpAnyH_ready (rs := [4]) (by kernel_rfl) (by simp) ?_
    refine (AllReadyH.cons rfl (fun K hK => ?_) AllReadyH.nil)
    go_simp
    go_at_call 41
    refine (fieldsMay b0 o0 c0 b1 o1 c1 B C a b c i r ab cb aa ca _ hB (HH.out.later (step_below hHeld.1 HWX.out)) HK.out HF.out).mono ?_
    rw [hf1]
    rintro e w1 ⟨rfl, hbr⟩
    go_wp2_with fail
    refine hK.out _ _ ?_ (fun hHeld => ?_)
    · (exact ⟨step_below hbr hHeld.1, step_cell hbr hHeld.2.1, step_cell hbr hHeld.2.2.1, step_cell hbr hHeld.2.2.2.1, step_cell hbr hHeld.2.2.2.2.1, step_cell hbr hHeld.2.2.2.2.2.1, step_cell hbr hHeld.2.2.2.2.2.2.1, step_cell hbr hHeld.2.2.2.2.2.2.2.1, step_cell hbr hHeld.2.2.2.2.2.2.2.2.1, step_cell hbr hHeld.2.2.2.2.2.2.2.2.2.1, step_cell hbr hHeld.2.2.2.2.2.2.2.2.2.2.1, step_cell hbr hHeld.2.2.2.2.2.2.2.2.2.2.2.1, step_cell hbr hHeld.2.2.2.2.2.2.2.2.2.2.2.2.1, step_cell hbr hHeld.2.2.2.2.2.2.2.2.2.2.2.2.2.1, step_cell hbr hHeld.2.2.2.2.2.2.2.2.2.2.2.2.2.2.1, step_cell hbr hHeld.2.2.2.2.2.2.2.2.2.2.2.2.2.2.2.1, step_cell hbr hHeld.2.2.2.2.2.2.2.2.2.2.2.2.2.2.2.2.1, step_cell hbr hHeld.2.2.2.2.2.2.2.2.2.2.2.2.2.2.2.2.2.1, step_cell hbr hHeld.2.2.2.2.2.2.2.2.2.2.2.2.2.2.2.2.2.2.1, step_cell hbr hHeld.2.2.2.2.2.2.2.2.2.2.2.2.2.2.2.2.2.2.2.1, step_cell hbr hHeld.2.2.2.2.2.2.2.2.2.2.2.2.2.2.2.2.2.2.2.2⟩)
    clear hK K
    try simp only [Act.put, List.setIfInBounds_toArray, List.set_cons_zero, List.set_cons_succ]
    refine wpAnyH_take (i := 5) (v := ?_) rfl (by kernel_rfl) (by kernel_rfl) (by kernel_rfl) (fun _ _ _ h => h) (Or.inl ⟨by rfl, ?_⟩) (by assumption) ?_
    case refine_2 => (intro w hSw; (try dsimp only at hSw); go_simp; first | done | (with_reducible rfl))
    show wpAnyH _ _ _ _ _ _ _ (Act.put _ (some 14) _) _
    simp only [Act.put, List.setIfInBounds_toArray, List.set_cons_zero, List.set_cons_succ]
    refine wpAnyH_take (i := 6) (v := undef) rfl (by kernel_rfl) (by kernel_rfl) (by kernel_rfl) (fun _ _ _ h => h) (Or.inr ⟨by rfl, rfl⟩) (by assumption) ?_
    show wpAnyH _ _ _ _ _ _ _ (Act.put _ (some 15) _) _
    simp only [Act.put, List.setIfInBounds_toArray, List.set_cons_zero, List.set_cons_succ]
    refine wpAnyH_take (i := 7) (v := undef) rfl (by kernel_rfl) (by kernel_rfl) (by kernel_rfl) (fun _ _ _ h => h) (Or.inr ⟨by rfl, rfl⟩) (by assumption) ?_
    show wpAnyH _ _ _ _ _ _ _ (Act.put _ (some 16) _) _
    simp only [Act.put, List.setIfInBounds_toArray, List.set_cons_zero, List.set_cons_succ]
    refine wpAnyH_take (i := 8) (v := undef) rfl (by kernel_rfl) (by kernel_rfl) (by kernel_rfl) (fun _ _ _ h => h) (Or.inr ⟨by rfl, rfl⟩) (by assumption) ?_
    show wpAnyH _ _ _ _ _ _ _ (Act.put _ (some 17) _) _
    simp only [Act.put, List.setIfInBounds_toArray, List.set_cons_zero, List.set_cons_succ]
    refine wpAnyH_take (i := 9) (v := undef) rfl (by kernel_rfl) (by kernel_rfl) (by kernel_rfl) (fun _ _ _ h => h) (Or.inr ⟨by rfl, rfl⟩) (by assumption) ?_
    show wpAnyH _ _ _ _ _ _ _ (Act.put _ (some 18) _) _
    simp only [Act.put, List.setIfInBounds_toArray, List.set_cons_zero, List.set_cons_succ]
    refine wpAnyH_take (i := 10) (v := ?_) rfl (by kernel_rfl) (by kernel_rfl) (by kernel_rfl) (fun _ _ _ h => h) (Or.inl ⟨by rfl, ?_⟩) (by assumption) ?_
    case refine_2 => (intro w hSw; (try dsimp only at hSw); go_simp; first | done | (with_reducible rfl))
    show wpAnyH _ _ _ _ _ _ _ (Act.put _ (some 19) _) _
    simp only [Act.put, List.setIfInBounds_toArray, List.set_cons_zero, List.set_cons_succ]
    refine wpAnyH_take (i := 11) (v := ?_) rfl (by kernel_rfl) (by kernel_rfl) (by kernel_rfl) (fun _ _ _ h => h) (Or.inl ⟨by rfl, ?_⟩) (by assumption) ?_
    case refine_2 => (intro w hSw; (try dsimp only at hSw); go_simp; first | done | (with_reducible rfl))
    show wpAnyH _ _ _ _ _ _ _ (Act.put _ (some 20) _) _
    simp only [Act.put, List.setIfInBounds_toArray, List.set_cons_zero, List.set_cons_succ]
    refine wpAnyH_take (i := 12) (v := undef) rfl (by kernel_rfl) (by kernel_rfl) (by kernel_rfl) (fun _ _ _ h => h) (Or.inr ⟨by rfl, rfl⟩) (by assumption) ?_
    show wpAnyH _ _ _ _ _ _ _ (Act.put _ (some 21) _) _
    simp only [Act.put, List.setIfInBounds_toArray, List.set_cons_zero, List.set_cons_succ]
    refine wpAnyH_take (i := 13) (v := undef) rfl (by kernel_rfl) (by kernel_rfl) (by kernel_rfl) (fun _ _ _ h => h) (Or.inr ⟨by rfl, rfl⟩) (by assumption) ?_
    show wpAnyH _ _ _ _ _ _ _ (Act.put _ (some 22) _) _
    simp only [Act.put, List.setIfInBounds_toArray, List.set_cons_zero, List.set_cons_succ]
    refine wpAnyH_take (i := 14) (v := undef) rfl (by kernel_rfl) (by kernel_rfl) (by kernel_rfl) (fun _ _ _ h => h) (Or.inr ⟨by rfl, rfl⟩) (by assumption) ?_
    show wpAnyH _ _ _ _ _ _ _ (Act.put _ (some 23) _) _
    simp only [Act.put, List.setIfInBounds_toArray, List.set_cons_zero, List.set_cons_succ]
    refine wpAnyH_take (i := 15) (v := undef) rfl (by kernel_rfl) (by kernel_rfl) (by kernel_rfl) (fun _ _ _ h => h) (Or.inr ⟨by rfl, rfl⟩) (by assumption) ?_
    show wpAnyH _ _ _ _ _ _ _ (Act.put _ (some 24) _) _
    simp only [Act.put, List.setIfInBounds_toArray, List.set_cons_zero, List.set_cons_succ]
    refine wpAnyH_take (i := 16) (v := undef) rfl (by kernel_rfl) (by kernel_rfl) (by kernel_rfl) (fun _ _ _ h => h) (Or.inr ⟨by rfl, rfl⟩) (by assumption) ?_
    show wpAnyH _ _ _ _ _ _ _ (Act.put _ (some 25) _) _
    simp only [Act.put, List.setIfInBounds_toArray, List.set_cons_zero, List.set_cons_succ]
    refine wpAnyH_take (i := 17) (v := undef) rfl (by kernel_rfl) (by kernel_rfl) (by kernel_rfl) (fun _ _ _ h => h) (Or.inr ⟨by rfl, rfl⟩) (by assumption) ?_
    show wpAnyH _ _ _ _ _ _ _ (Act.put _ (some 26) _) _
    simp only [Act.put, List.setIfInBounds_toArray, List.set_cons_zero, List.set_cons_succ]
    refine wpAnyH_take (i := 18) (v := undef) rfl (by kernel_rfl) (by kernel_rfl) (by kernel_rfl) (fun _ _ _ h => h) (Or.inr ⟨by rfl, rfl⟩) (by assumption) ?_
    show wpAnyH _ _ _ _ _ _ _ (Act.put _ (some 27) _) _
    simp only [Act.put, List.setIfInBounds_toArray, List.set_cons_zero, List.set_cons_succ]
    refine wpAnyH_take (i := 19) (v := ?_) rfl (by kernel_rfl) (by kernel_rfl) (by kernel_rfl) (fun _ _ _ h => h) (Or.inl ⟨by rfl, ?_⟩) (by assumption) ?_
    case refine_2 => (intro w hSw; (try dsimp only at hSw); go_simp; first | done | (with_reducible rfl))
    show wpAnyH _ _ _ _ _ _ _ (Act.put _ (some 28) _) _
    simp only [Act.put, List.setIfInBounds_toArray, List.set_cons_zero, List.set_cons_succ]
    refine wpAnyH_take (i := 20) (v := ?_) rfl (by kernel_rfl) (by kernel_rfl) (by kernel_rfl) (fun _ _ _ h => h) (Or.inl ⟨by rfl, ?_⟩) (by assumption) ?_
    case refine_2 => (intro w hSw; (try dsimp only at hSw); go_simp; first | done | (with_reducible rfl))
    show wpAnyH _ _ _ _ _ _ _ (Act.put _ (some 8) _) _
    simp only [Act.put, List.setIfInBounds_toArray, List.set_cons_zero, List.set_cons_succ]
    refine wpAnyH_done (by kernel_rfl) ?_ _
    have HB9 : Hid (Below wx.heap.size wx w1) := hHeld.1
    clear hHeld hbr
    go_wp2
    go_ret
    exact ⟨ret_bool (by rw [HR.out, hf1]; rfl), step_below HB9.out HWX.out⟩
  · cases hf2 : movesO a b c r.before 6
    · skip
      refine wp_region_held_drew (S := (fun w' => Below wx.heap.size wx w' ∧ w'.cell? ⟨w.heap.size, 0, none⟩ = some (.int .i64 0) ∧ w'.cell? ⟨w.heap.size, 1, none⟩ = some (.int .i64 a) ∧ w'.cell? ⟨w.heap.size, 2, none⟩ = some (.int .i64 b) ∧ w'.cell? ⟨w.heap.size, 3, none⟩ = some (.int .i64 c) ∧ w'.cell? ⟨w.heap.size + 1, 0, none⟩ = some (.slice (some ⟨b0, o0, none⟩) B.length c0) ∧ w'.cell? ⟨w.heap.size + 1, 1, none⟩ = some (.slice (some ⟨b1, o1, none⟩) C.length c1) ∧ w'.cell? ⟨w.heap.size + 1 + 1, 0, none⟩ = some (.int .i64 i.op) ∧ w'.cell? ⟨w.heap.size + 1 + 1, 1, none⟩ = some (.int .i64 i.dest) ∧ w'.cell? ⟨w.heap.size + 1 + 1, 2, none⟩ = some (.int .i64 i.a) ∧ w'.cell? ⟨w.heap.size + 1 + 1, 3, none⟩ = some (.int .i64 i.b) ∧ w'.cell? ⟨w.heap.size + 1 + 1, 4, none⟩ = some (.int .i64 i.c) ∧ w'.cell? ⟨w.heap.size + 1 + 1, 5, none⟩ = some (.int .u32 i.n) ∧ w'.cell? ⟨w.heap.size + 1 + 1 + 1, 0, none⟩ = some (.int .i64 r.dest.kind) ∧ w'.cell? ⟨w.heap.size + 1 + 1 + 1, 1, none⟩ = some (.int .i64 r.dest.n) ∧ w'.cell? ⟨w.heap.size + 1 + 1 + 1, 2, none⟩ = some (.int .i64 r.a.kind) ∧ w'.cell? ⟨w.heap.size + 1 + 1 + 1, 3, none⟩ = some (.int .i64 r.a.n) ∧ w'.cell? ⟨w.heap.size + 1 + 1 + 1, 4, none⟩ = some (.int .i64 r.b.kind) ∧ w'.cell? ⟨w.heap.size + 1 + 1 + 1, 5, none⟩ = some (.int .i64 r.b.n) ∧ w'.cell? ⟨w.heap.size + 1 + 1 + 1, 6, none⟩ = some (.slice ab r.before.length cb) ∧ w'.cell? ⟨w.heap.size + 1 + 1 + 1, 7, none⟩ = some (.slice aa r.after.length ca))) (by rfl) ?_ (fun hHeld => ?_)
      · (go_split_ands; refine ⟨?_, ?_, ?_, ?_, ?_, ?_, ?_, ?_, ?_, ?_, ?_, ?_, ?_, ?_, ?_, ?_, ?_, ?_, ?_, ?_, ?_⟩ <;> first | exact (Below.refl _ _).drew | exact ((Below.refl _ _).drew).trans hbr | exact step_below hbr (by assumption) | exact step_cell hbr (by assumption) | go_keep)
      refine wpAnyH_take (i := 0) (v := ?_) rfl (by kernel_rfl) (by kernel_rfl) (by kernel_rfl) (fun _ _ _ h => h) (Or.inl ⟨by rfl, ?_⟩) (by assumption) ?_
      case refine_2 => (intro w hSw; (try dsimp only at hSw); go_simp; first | done | (with_reducible rfl))
      show wpAnyH _ _ _ _ _ _ _ (Act.put _ (some 9) _) _
      simp only [Act.put, List.setIfInBounds_toArray, List.set_cons_zero, List.set_cons_succ]
      refine wpAnyH_take (i := 1) (v := ?_) rfl (by kernel_rfl) (by kernel_rfl) (by kernel_rfl) (fun _ _ _ h => h) (Or.inl ⟨by rfl, ?_⟩) (by assumption) ?_
      case refine_2 => (intro w hSw; (try dsimp only at hSw); go_simp; first | done | (with_reducible rfl))
      show wpAnyH _ _ _ _ _ _ _ (Act.put _ (some 10) _) _
      simp only [Act.put, List.setIfInBounds_toArray, List.set_cons_zero, List.set_cons_succ]
      refine wpAnyH_take (i := 2) (v := ?_) rfl (by kernel_rfl) (by kernel_rfl) (by kernel_rfl) (fun _ _ _ h => h) (Or.inl ⟨by rfl, ?_⟩) (by assumption) ?_
      case refine_2 => (intro w hSw; (try dsimp only at hSw); go_simp; first | done | (with_reducible rfl))
      show wpAnyH _ _ _ _ _ _ _ (Act.put _ (some 11) _) _
      simp only [Act.put, List.setIfInBounds_toArray, List.set_cons_zero, List.set_cons_succ]
      refine wpAnyH_take (i := 3) (v := ?_) rfl (by kernel_rfl) (by kernel_rfl) (by kernel_rfl) (fun _ _ _ h => h) (Or.inl ⟨by rfl, ?_⟩) (by assumption) ?_
      case refine_2 => (intro w hSw; (try dsimp only at hSw); go_simp; first | done | (with_reducible rfl))
      show wpAnyH _ _ _ _ _ _ _ (Act.put _ (some 12) _) _
      simp only [Act.put, List.setIfInBounds_toArray, List.set_cons_zero, List.set_cons_succ]
      refine wpAnyH_ready (rs := [4]) (by kernel_rfl) (by simp) ?_
      refine (AllReadyH.cons rfl (fun K hK => ?_) AllReadyH.nil)
      go_simp
      go_at_call 41
      refine (fieldsMay b0 o0 c0 b1 o1 c1 B C a b c i r ab cb aa ca _ hB (HH.out.later (step_below hHeld.1 HWX.out)) HK.out HF.out).mono ?_
      rw [hf1]
      rintro e w1 ⟨rfl, hbr⟩
      go_wp2_with fail
      refine hK.out _ _ ?_ (fun hHeld => ?_)
      · (exact ⟨step_below hbr hHeld.1, step_cell hbr hHeld.2.1, step_cell hbr hHeld.2.2.1, step_cell hbr hHeld.2.2.2.1, step_cell hbr hHeld.2.2.2.2.1, step_cell hbr hHeld.2.2.2.2.2.1, step_cell hbr hHeld.2.2.2.2.2.2.1, step_cell hbr hHeld.2.2.2.2.2.2.2.1, step_cell hbr hHeld.2.2.2.2.2.2.2.2.1, step_cell hbr hHeld.2.2.2.2.2.2.2.2.2.1, step_cell hbr hHeld.2.2.2.2.2.2.2.2.2.2.1, step_cell hbr hHeld.2.2.2.2.2.2.2.2.2.2.2.1, step_cell hbr hHeld.2.2.2.2.2.2.2.2.2.2.2.2.1, step_cell hbr hHeld.2.2.2.2.2.2.2.2.2.2.2.2.2.1, step_cell hbr hHeld.2.2.2.2.2.2.2.2.2.2.2.2.2.2.1, step_cell hbr hHeld.2.2.2.2.2.2.2.2.2.2.2.2.2.2.2.1, step_cell hbr hHeld.2.2.2.2.2.2.2.2.2.2.2.2.2.2.2.2.1, step_cell hbr hHeld.2.2.2.2.2.2.2.2.2.2.2.2.2.2.2.2.2.1, step_cell hbr hHeld.2.2.2.2.2.2.2.2.2.2.2.2.2.2.2.2.2.2.1, step_cell hbr hHeld.2.2.2.2.2.2.2.2.2.2.2.2.2.2.2.2.2.2.2.1, step_cell hbr hHeld.2.2.2.2.2.2.2.2.2.2.2.2.2.2.2.2.2.2.2.2⟩)
      clear hK K
      try simp only [Act.put, List.setIfInBounds_toArray, List.set_cons_zero, List.set_cons_succ]
      refine wpAnyH_take (i := 5) (v := ?_) rfl (by kernel_rfl) (by kernel_rfl) (by kernel_rfl) (fun _ _ _ h => h) (Or.inl ⟨by rfl, ?_⟩) (by assumption) ?_
      case refine_2 => (intro w hSw; (try dsimp only at hSw); go_simp; first | done | (with_reducible rfl))
      show wpAnyH _ _ _ _ _ _ _ (Act.put _ (some 14) _) _
      simp only [Act.put, List.setIfInBounds_toArray, List.set_cons_zero, List.set_cons_succ]
      refine wpAnyH_take (i := 6) (v := ?_) rfl (by kernel_rfl) (by kernel_rfl) (by kernel_rfl) (fun _ _ _ h => h) (Or.inl ⟨by rfl, ?_⟩) (by assumption) ?_
      case refine_2 => (intro w hSw; (try dsimp only at hSw); go_simp; first | done | (with_reducible rfl))
      show wpAnyH _ _ _ _ _ _ _ (Act.put _ (some 15) _) _
      simp only [Act.put, List.setIfInBounds_toArray, List.set_cons_zero, List.set_cons_succ]
      refine wpAnyH_take (i := 7) (v := ?_) rfl (by kernel_rfl) (by kernel_rfl) (by kernel_rfl) (fun _ _ _ h => h) (Or.inl ⟨by rfl, ?_⟩) (by assumption) ?_
      case refine_2 => (intro w hSw; (try dsimp only at hSw); go_simp; first | done | (with_reducible rfl))
      show wpAnyH _ _ _ _ _ _ _ (Act.put _ (some 16) _) _
      simp only [Act.put, List.setIfInBounds_toArray, List.set_cons_zero, List.set_cons_succ]
      refine wpAnyH_take (i := 8) (v := ?_) rfl (by kernel_rfl) (by kernel_rfl) (by kernel_rfl) (fun _ _ _ h => h) (Or.inl ⟨by rfl, ?_⟩) (by assumption) ?_
      case refine_2 => (intro w hSw; (try dsimp only at hSw); go_simp; first | done | (with_reducible rfl))
      show wpAnyH _ _ _ _ _ _ _ (Act.put _ (some 17) _) _
      simp only [Act.put, List.setIfInBounds_toArray, List.set_cons_zero, List.set_cons_succ]
      refine wpAnyH_ready (rs := [9]) (by kernel_rfl) (by simp) ?_
      refine (AllReadyH.cons rfl (fun K hK => ?_) AllReadyH.nil)
      go_simp
      go_at_call 42
      refine (movesMay a b c _ r.before 6 (by omega) _ (HMB.out.later (step_below hHeld.1 HWX.out))).mono ?_
      rw [hf2]
      rintro e w2 ⟨rfl, hbr⟩
      go_wp2_with fail
      refine hK.out _ _ ?_ (fun hHeld => ?_)
      · (exact ⟨step_below hbr hHeld.1, step_cell hbr hHeld.2.1, step_cell hbr hHeld.2.2.1, step_cell hbr hHeld.2.2.2.1, step_cell hbr hHeld.2.2.2.2.1, step_cell hbr hHeld.2.2.2.2.2.1, step_cell hbr hHeld.2.2.2.2.2.2.1, step_cell hbr hHeld.2.2.2.2.2.2.2.1, step_cell hbr hHeld.2.2.2.2.2.2.2.2.1, step_cell hbr hHeld.2.2.2.2.2.2.2.2.2.1, step_cell hbr hHeld.2.2.2.2.2.2.2.2.2.2.1, step_cell hbr hHeld.2.2.2.2.2.2.2.2.2.2.2.1, step_cell hbr hHeld.2.2.2.2.2.2.2.2.2.2.2.2.1, step_cell hbr hHeld.2.2.2.2.2.2.2.2.2.2.2.2.2.1, step_cell hbr hHeld.2.2.2.2.2.2.2.2.2.2.2.2.2.2.1, step_cell hbr hHeld.2.2.2.2.2.2.2.2.2.2.2.2.2.2.2.1, step_cell hbr hHeld.2.2.2.2.2.2.2.2.2.2.2.2.2.2.2.2.1, step_cell hbr hHeld.2.2.2.2.2.2.2.2.2.2.2.2.2.2.2.2.2.1, step_cell hbr hHeld.2.2.2.2.2.2.2.2.2.2.2.2.2.2.2.2.2.2.1, step_cell hbr hHeld.2.2.2.2.2.2.2.2.2.2.2.2.2.2.2.2.2.2.2.1, step_cell hbr hHeld.2.2.2.2.2.2.2.2.2.2.2.2.2.2.2.2.2.2.2.2⟩)
      clear hK K
      try simp only [Act.put, List.setIfInBounds_toArray, List.set_cons_zero, List.set_cons_succ]
      refine wpAnyH_take (i := 10) (v := ?_) rfl (by kernel_rfl) (by kernel_rfl) (by kernel_rfl) (fun _ _ _ h => h) (Or.inl ⟨by rfl, ?_⟩) (by assumption) ?_
      case refine_2 => (intro w hSw; (try dsimp only at hSw); go_simp; first | done | (with_reducible rfl))
      show wpAnyH _ _ _ _ _ _ _ (Act.put _ (some 19) _) _
      simp only [Act.put, List.setIfInBounds_toArray, List.set_cons_zero, List.set_cons_succ]
      refine wpAnyH_take (i := 11) (v := ?_) rfl (by kernel_rfl) (by kernel_rfl) (by kernel_rfl) (fun _ _ _ h => h) (Or.inl ⟨by rfl, ?_⟩) (by assumption) ?_
      case refine_2 => (intro w hSw; (try dsimp only at hSw); go_simp; first | done | (with_reducible rfl))
      show wpAnyH _ _ _ _ _ _ _ (Act.put _ (some 20) _) _
      simp only [Act.put, List.setIfInBounds_toArray, List.set_cons_zero, List.set_cons_succ]
      refine wpAnyH_take (i := 12) (v := undef) rfl (by kernel_rfl) (by kernel_rfl) (by kernel_rfl) (fun _ _ _ h => h) (Or.inr ⟨by rfl, rfl⟩) (by assumption) ?_
      show wpAnyH _ _ _ _ _ _ _ (Act.put _ (some 21) _) _
      simp only [Act.put, List.setIfInBounds_toArray, List.set_cons_zero, List.set_cons_succ]
      refine wpAnyH_take (i := 13) (v := undef) rfl (by kernel_rfl) (by kernel_rfl) (by kernel_rfl) (fun _ _ _ h => h) (Or.inr ⟨by rfl, rfl⟩) (by assumption) ?_
      show wpAnyH _ _ _ _ _ _ _ (Act.put _ (some 22) _) _
      simp only [Act.put, List.setIfInBounds_toArray, List.set_cons_zero, List.set_cons_succ]
      refine wpAnyH_take (i := 14) (v := undef) rfl (by kernel_rfl) (by kernel_rfl) (by kernel_rfl) (fun _ _ _ h => h) (Or.inr ⟨by rfl, rfl⟩) (by assumption) ?_
      show wpAnyH _ _ _ _ _ _ _ (Act.put _ (some 23) _) _
      simp only [Act.put, List.setIfInBounds_toArray, List.set_cons_zero, List.set_cons_succ]
      refine wpAnyH_take (i := 15) (v := undef) rfl (by kernel_rfl) (by kernel_rfl) (by kernel_rfl) (fun _ _ _ h => h) (Or.inr ⟨by rfl, rfl⟩) (by assumption) ?_
      show wpAnyH _ _ _ _ _ _ _ (Act.put _ (some 24) _) _
      simp only [Act.put, List.setIfInBounds_toArray, List.set_cons_zero, List.set_cons_succ]
      refine wpAnyH_take (i := 16) (v := undef) rfl (by kernel_rfl) (by kernel_rfl) (by kernel_rfl) (fun _ _ _ h => h) (Or.inr ⟨by rfl, rfl⟩) (by assumption) ?_
      show wpAnyH _ _ _ _ _ _ _ (Act.put _ (some 25) _) _
      simp only [Act.put, List.setIfInBounds_toArray, List.set_cons_zero, List.set_cons_succ]
      refine wpAnyH_take (i := 17) (v := undef) rfl (by kernel_rfl) (by kernel_rfl) (by kernel_rfl) (fun _ _ _ h => h) (Or.inr ⟨by rfl, rfl⟩) (by assumption) ?_
      show wpAnyH _ _ _ _ _ _ _ (Act.put _ (some 26) _) _
      simp only [Act.put, List.setIfInBounds_toArray, List.set_cons_zero, List.set_cons_succ]
      refine wpAnyH_take (i := 18) (v := undef) rfl (by kernel_rfl) (by kernel_rfl) (by kernel_rfl) (fun _ _ _ h => h) (Or.inr ⟨by rfl, rfl⟩) (by assumption) ?_
      show wpAnyH _ _ _ _ _ _ _ (Act.put _ (some 27) _) _
      simp only [Act.put, List.setIfInBounds_toArray, List.set_cons_zero, List.set_cons_succ]
      refine wpAnyH_take (i := 19) (v := ?_) rfl (by kernel_rfl) (by kernel_rfl) (by kernel_rfl) (fun _ _ _ h => h) (Or.inl ⟨by rfl, ?_⟩) (by assumption) ?_
      case refine_2 => (intro w hSw; (try dsimp only at hSw); go_simp; first | done | (with_reducible rfl))
      show wpAnyH _ _ _ _ _ _ _ (Act.put _ (some 28) _) _
      simp only [Act.put, List.setIfInBounds_toArray, List.set_cons_zero, List.set_cons_succ]
      refine wpAnyH_take (i := 20) (v := ?_) rfl (by kernel_rfl) (by kernel_rfl) (by kernel_rfl) (fun _ _ _ h => h) (Or.inl ⟨by rfl, ?_⟩) (by assumption) ?_
      case refine_2 => (intro w hSw; (try dsimp only at hSw); go_simp; first | done | (with_reducible rfl))
      show wpAnyH _ _ _ _ _ _ _ (Act.put _ (some 8) _) _
      simp only [Act.put, List.setIfInBounds_toArray, List.set_cons_zero, List.set_cons_succ]
      refine wpAnyH_done (by kernel_rfl) ?_ _
      have HB9 : Hid (Below wx.heap.size wx w2) := hHeld.1
      clear hHeld hbr
      go_wp2
      go_ret
      exact ⟨ret_bool (by rw [HR.out, hf1, hf2]; rfl), step_below HB9.out HWX.out⟩
    · skip
      refine wp_region_held_drew (S := (fun w' => Below wx.heap.size wx w' ∧ w'.cell? ⟨w.heap.size, 0, none⟩ = some (.int .i64 0) ∧ w'.cell? ⟨w.heap.size, 1, none⟩ = some (.int .i64 a) ∧ w'.cell? ⟨w.heap.size, 2, none⟩ = some (.int .i64 b) ∧ w'.cell? ⟨w.heap.size, 3, none⟩ = some (.int .i64 c) ∧ w'.cell? ⟨w.heap.size + 1, 0, none⟩ = some (.slice (some ⟨b0, o0, none⟩) B.length c0) ∧ w'.cell? ⟨w.heap.size + 1, 1, none⟩ = some (.slice (some ⟨b1, o1, none⟩) C.length c1) ∧ w'.cell? ⟨w.heap.size + 1 + 1, 0, none⟩ = some (.int .i64 i.op) ∧ w'.cell? ⟨w.heap.size + 1 + 1, 1, none⟩ = some (.int .i64 i.dest) ∧ w'.cell? ⟨w.heap.size + 1 + 1, 2, none⟩ = some (.int .i64 i.a) ∧ w'.cell? ⟨w.heap.size + 1 + 1, 3, none⟩ = some (.int .i64 i.b) ∧ w'.cell? ⟨w.heap.size + 1 + 1, 4, none⟩ = some (.int .i64 i.c) ∧ w'.cell? ⟨w.heap.size + 1 + 1, 5, none⟩ = some (.int .u32 i.n) ∧ w'.cell? ⟨w.heap.size + 1 + 1 + 1, 0, none⟩ = some (.int .i64 r.dest.kind) ∧ w'.cell? ⟨w.heap.size + 1 + 1 + 1, 1, none⟩ = some (.int .i64 r.dest.n) ∧ w'.cell? ⟨w.heap.size + 1 + 1 + 1, 2, none⟩ = some (.int .i64 r.a.kind) ∧ w'.cell? ⟨w.heap.size + 1 + 1 + 1, 3, none⟩ = some (.int .i64 r.a.n) ∧ w'.cell? ⟨w.heap.size + 1 + 1 + 1, 4, none⟩ = some (.int .i64 r.b.kind) ∧ w'.cell? ⟨w.heap.size + 1 + 1 + 1, 5, none⟩ = some (.int .i64 r.b.n) ∧ w'.cell? ⟨w.heap.size + 1 + 1 + 1, 6, none⟩ = some (.slice ab r.before.length cb) ∧ w'.cell? ⟨w.heap.size + 1 + 1 + 1, 7, none⟩ = some (.slice aa r.after.length ca))) (by rfl) ?_ (fun hHeld => ?_)
      · (go_split_ands; refine ⟨?_, ?_, ?_, ?_, ?_, ?_, ?_, ?_, ?_, ?_, ?_, ?_, ?_, ?_, ?_, ?_, ?_, ?_, ?_, ?_, ?_⟩ <;> first | exact (Below.refl _ _).drew | exact ((Below.refl _ _).drew).trans hbr | exact step_below hbr (by assumption) | exact step_cell hbr (by assumption) | go_keep)
      refine wpAnyH_take (i := 0) (v := ?_) rfl (by kernel_rfl) (by kernel_rfl) (by kernel_rfl) (fun _ _ _ h => h) (Or.inl ⟨by rfl, ?_⟩) (by assumption) ?_
      case refine_2 => (intro w hSw; (try dsimp only at hSw); go_simp; first | done | (with_reducible rfl))
      show wpAnyH _ _ _ _ _ _ _ (Act.put _ (some 9) _) _
      simp only [Act.put, List.setIfInBounds_toArray, List.set_cons_zero, List.set_cons_succ]
      refine wpAnyH_take (i := 1) (v := ?_) rfl (by kernel_rfl) (by kernel_rfl) (by kernel_rfl) (fun _ _ _ h => h) (Or.inl ⟨by rfl, ?_⟩) (by assumption) ?_
      case refine_2 => (intro w hSw; (try dsimp only at hSw); go_simp; first | done | (with_reducible rfl))
      show wpAnyH _ _ _ _ _ _ _ (Act.put _ (some 10) _) _
      simp only [Act.put, List.setIfInBounds_toArray, List.set_cons_zero, List.set_cons_succ]
      refine wpAnyH_take (i := 2) (v := ?_) rfl (by kernel_rfl) (by kernel_rfl) (by kernel_rfl) (fun _ _ _ h => h) (Or.inl ⟨by rfl, ?_⟩) (by assumption) ?_
      case refine_2 => (intro w hSw; (try dsimp only at hSw); go_simp; first | done | (with_reducible rfl))
      show wpAnyH _ _ _ _ _ _ _ (Act.put _ (some 11) _) _
      simp only [Act.put, List.setIfInBounds_toArray, List.set_cons_zero, List.set_cons_succ]
      refine wpAnyH_take (i := 3) (v := ?_) rfl (by kernel_rfl) (by kernel_rfl) (by kernel_rfl) (fun _ _ _ h => h) (Or.inl ⟨by rfl, ?_⟩) (by assumption) ?_
      case refine_2 => (intro w hSw; (try dsimp only at hSw); go_simp; first | done | (with_reducible rfl))
      show wpAnyH _ _ _ _ _ _ _ (Act.put _ (some 12) _) _
      simp only [Act.put, List.setIfInBounds_toArray, List.set_cons_zero, List.set_cons_succ]
      refine wpAnyH_ready (rs := [4]) (by kernel_rfl) (by simp) ?_
      refine (AllReadyH.cons rfl (fun K hK => ?_) AllReadyH.nil)
      go_simp
      go_at_call 41
      refine (fieldsMay b0 o0 c0 b1 o1 c1 B C a b c i r ab cb aa ca _ hB (HH.out.later (step_below hHeld.1 HWX.out)) HK.out HF.out).mono ?_
      rw [hf1]
      rintro e w1 ⟨rfl, hbr⟩
      go_wp2_with fail
      refine hK.out _ _ ?_ (fun hHeld => ?_)
      · (exact ⟨step_below hbr hHeld.1, step_cell hbr hHeld.2.1, step_cell hbr hHeld.2.2.1, step_cell hbr hHeld.2.2.2.1, step_cell hbr hHeld.2.2.2.2.1, step_cell hbr hHeld.2.2.2.2.2.1, step_cell hbr hHeld.2.2.2.2.2.2.1, step_cell hbr hHeld.2.2.2.2.2.2.2.1, step_cell hbr hHeld.2.2.2.2.2.2.2.2.1, step_cell hbr hHeld.2.2.2.2.2.2.2.2.2.1, step_cell hbr hHeld.2.2.2.2.2.2.2.2.2.2.1, step_cell hbr hHeld.2.2.2.2.2.2.2.2.2.2.2.1, step_cell hbr hHeld.2.2.2.2.2.2.2.2.2.2.2.2.1, step_cell hbr hHeld.2.2.2.2.2.2.2.2.2.2.2.2.2.1, step_cell hbr hHeld.2.2.2.2.2.2.2.2.2.2.2.2.2.2.1, step_cell hbr hHeld.2.2.2.2.2.2.2.2.2.2.2.2.2.2.2.1, step_cell hbr hHeld.2.2.2.2.2.2.2.2.2.2.2.2.2.2.2.2.1, step_cell hbr hHeld.2.2.2.2.2.2.2.2.2.2.2.2.2.2.2.2.2.1, step_cell hbr hHeld.2.2.2.2.2.2.2.2.2.2.2.2.2.2.2.2.2.2.1, step_cell hbr hHeld.2.2.2.2.2.2.2.2.2.2.2.2.2.2.2.2.2.2.2.1, step_cell hbr hHeld.2.2.2.2.2.2.2.2.2.2.2.2.2.2.2.2.2.2.2.2⟩)
      clear hK K
      try simp only [Act.put, List.setIfInBounds_toArray, List.set_cons_zero, List.set_cons_succ]
      refine wpAnyH_take (i := 5) (v := ?_) rfl (by kernel_rfl) (by kernel_rfl) (by kernel_rfl) (fun _ _ _ h => h) (Or.inl ⟨by rfl, ?_⟩) (by assumption) ?_
      case refine_2 => (intro w hSw; (try dsimp only at hSw); go_simp; first | done | (with_reducible rfl))
      show wpAnyH _ _ _ _ _ _ _ (Act.put _ (some 14) _) _
      simp only [Act.put, List.setIfInBounds_toArray, List.set_cons_zero, List.set_cons_succ]
      refine wpAnyH_take (i := 6) (v := ?_) rfl (by kernel_rfl) (by kernel_rfl) (by kernel_rfl) (fun _ _ _ h => h) (Or.inl ⟨by rfl, ?_⟩) (by assumption) ?_
      case refine_2 => (intro w hSw; (try dsimp only at hSw); go_simp; first | done | (with_reducible rfl))
      show wpAnyH _ _ _ _ _ _ _ (Act.put _ (some 15) _) _
      simp only [Act.put, List.setIfInBounds_toArray, List.set_cons_zero, List.set_cons_succ]
      refine wpAnyH_take (i := 7) (v := ?_) rfl (by kernel_rfl) (by kernel_rfl) (by kernel_rfl) (fun _ _ _ h => h) (Or.inl ⟨by rfl, ?_⟩) (by assumption) ?_
      case refine_2 => (intro w hSw; (try dsimp only at hSw); go_simp; first | done | (with_reducible rfl))
      show wpAnyH _ _ _ _ _ _ _ (Act.put _ (some 16) _) _
      simp only [Act.put, List.setIfInBounds_toArray, List.set_cons_zero, List.set_cons_succ]
      refine wpAnyH_take (i := 8) (v := ?_) rfl (by kernel_rfl) (by kernel_rfl) (by kernel_rfl) (fun _ _ _ h => h) (Or.inl ⟨by rfl, ?_⟩) (by assumption) ?_
      case refine_2 => (intro w hSw; (try dsimp only at hSw); go_simp; first | done | (with_reducible rfl))
      show wpAnyH _ _ _ _ _ _ _ (Act.put _ (some 17) _) _
      simp only [Act.put, List.setIfInBounds_toArray, List.set_cons_zero, List.set_cons_succ]
      refine wpAnyH_ready (rs := [9]) (by kernel_rfl) (by simp) ?_
      refine (AllReadyH.cons rfl (fun K hK => ?_) AllReadyH.nil)
      go_simp
      go_at_call 42
      refine (movesMay a b c _ r.before 6 (by omega) _ (HMB.out.later (step_below hHeld.1 HWX.out))).mono ?_
      rw [hf2]
      rintro e w2 ⟨rfl, hbr⟩
      go_wp2_with fail
      refine hK.out _ _ ?_ (fun hHeld => ?_)
      · (exact ⟨step_below hbr hHeld.1, step_cell hbr hHeld.2.1, step_cell hbr hHeld.2.2.1, step_cell hbr hHeld.2.2.2.1, step_cell hbr hHeld.2.2.2.2.1, step_cell hbr hHeld.2.2.2.2.2.1, step_cell hbr hHeld.2.2.2.2.2.2.1, step_cell hbr hHeld.2.2.2.2.2.2.2.1, step_cell hbr hHeld.2.2.2.2.2.2.2.2.1, step_cell hbr hHeld.2.2.2.2.2.2.2.2.2.1, step_cell hbr hHeld.2.2.2.2.2.2.2.2.2.2.1, step_cell hbr hHeld.2.2.2.2.2.2.2.2.2.2.2.1, step_cell hbr hHeld.2.2.2.2.2.2.2.2.2.2.2.2.1, step_cell hbr hHeld.2.2.2.2.2.2.2.2.2.2.2.2.2.1, step_cell hbr hHeld.2.2.2.2.2.2.2.2.2.2.2.2.2.2.1, step_cell hbr hHeld.2.2.2.2.2.2.2.2.2.2.2.2.2.2.2.1, step_cell hbr hHeld.2.2.2.2.2.2.2.2.2.2.2.2.2.2.2.2.1, step_cell hbr hHeld.2.2.2.2.2.2.2.2.2.2.2.2.2.2.2.2.2.1, step_cell hbr hHeld.2.2.2.2.2.2.2.2.2.2.2.2.2.2.2.2.2.2.1, step_cell hbr hHeld.2.2.2.2.2.2.2.2.2.2.2.2.2.2.2.2.2.2.2.1, step_cell hbr hHeld.2.2.2.2.2.2.2.2.2.2.2.2.2.2.2.2.2.2.2.2⟩)
      clear hK K
      try simp only [Act.put, List.setIfInBounds_toArray, List.set_cons_zero, List.set_cons_succ]
      refine wpAnyH_take (i := 10) (v := ?_) rfl (by kernel_rfl) (by kernel_rfl) (by kernel_rfl) (fun _ _ _ h => h) (Or.inl ⟨by rfl, ?_⟩) (by assumption) ?_
      case refine_2 => (intro w hSw; (try dsimp only at hSw); go_simp; first | done | (with_reducible rfl))
      show wpAnyH _ _ _ _ _ _ _ (Act.put _ (some 19) _) _
      simp only [Act.put, List.setIfInBounds_toArray, List.set_cons_zero, List.set_cons_succ]
      refine wpAnyH_take (i := 11) (v := ?_) rfl (by kernel_rfl) (by kernel_rfl) (by kernel_rfl) (fun _ _ _ h => h) (Or.inl ⟨by rfl, ?_⟩) (by assumption) ?_
      case refine_2 => (intro w hSw; (try dsimp only at hSw); go_simp; first | done | (with_reducible rfl))
      show wpAnyH _ _ _ _ _ _ _ (Act.put _ (some 20) _) _
      simp only [Act.put, List.setIfInBounds_toArray, List.set_cons_zero, List.set_cons_succ]
      refine wpAnyH_take (i := 12) (v := ?_) rfl (by kernel_rfl) (by kernel_rfl) (by kernel_rfl) (fun _ _ _ h => h) (Or.inl ⟨by rfl, ?_⟩) (by assumption) ?_
      case refine_2 => (intro w hSw; (try dsimp only at hSw); go_simp; first | done | (with_reducible rfl))
      show wpAnyH _ _ _ _ _ _ _ (Act.put _ (some 21) _) _
      simp only [Act.put, List.setIfInBounds_toArray, List.set_cons_zero, List.set_cons_succ]
      refine wpAnyH_take (i := 13) (v := ?_) rfl (by kernel_rfl) (by kernel_rfl) (by kernel_rfl) (fun _ _ _ h => h) (Or.inl ⟨by rfl, ?_⟩) (by assumption) ?_
      case refine_2 => (intro w hSw; (try dsimp only at hSw); go_simp; first | done | (with_reducible rfl))
      show wpAnyH _ _ _ _ _ _ _ (Act.put _ (some 22) _) _
      simp only [Act.put, List.setIfInBounds_toArray, List.set_cons_zero, List.set_cons_succ]
      refine wpAnyH_take (i := 14) (v := ?_) rfl (by kernel_rfl) (by kernel_rfl) (by kernel_rfl) (fun _ _ _ h => h) (Or.inl ⟨by rfl, ?_⟩) (by assumption) ?_
      case refine_2 => (intro w hSw; (try dsimp only at hSw); go_simp; first | done | (with_reducible rfl))
      show wpAnyH _ _ _ _ _ _ _ (Act.put _ (some 23) _) _
      simp only [Act.put, List.setIfInBounds_toArray, List.set_cons_zero, List.set_cons_succ]
      refine wpAnyH_take (i := 15) (v := ?_) rfl (by kernel_rfl) (by kernel_rfl) (by kernel_rfl) (fun _ _ _ h => h) (Or.inl ⟨by rfl, ?_⟩) (by assumption) ?_
      case refine_2 => (intro w hSw; (try dsimp only at hSw); go_simp; first | done | (with_reducible rfl))
      show wpAnyH _ _ _ _ _ _ _ (Act.put _ (some 24) _) _
      simp only [Act.put, List.setIfInBounds_toArray, List.set_cons_zero, List.set_cons_succ]
      refine wpAnyH_take (i := 16) (v := ?_) rfl (by kernel_rfl) (by kernel_rfl) (by kernel_rfl) (fun _ _ _ h => h) (Or.inl ⟨by rfl, ?_⟩) (by assumption) ?_
      case refine_2 => (intro w hSw; (try dsimp only at hSw); go_simp; first | done | (with_reducible rfl))
      show wpAnyH _ _ _ _ _ _ _ (Act.put _ (some 25) _) _
      simp only [Act.put, List.setIfInBounds_toArray, List.set_cons_zero, List.set_cons_succ]
      refine wpAnyH_ready (rs := [17]) (by kernel_rfl) (by simp) ?_
      refine (AllReadyH.cons rfl (fun K hK => ?_) AllReadyH.nil)
      go_simp
      go_at_call 43
      refine (mostAfter i.op _).mono ?_
      rintro e w3 ⟨rfl, hw3⟩
      obtain rfl := hw3.symm
      clear hw3
      go_wp2_with fail
      refine hK.out _ _ ?_ (fun hHeld => ?_)
      · (exact hHeld)
      clear hK K
      try simp only [Act.put, List.setIfInBounds_toArray, List.set_cons_zero, List.set_cons_succ]
      refine wpAnyH_ready (rs := [18]) (by kernel_rfl) (by simp) ?_
      refine (AllReadyH.cons rfl (fun K hK => ?_) AllReadyH.nil)
      go_simp
      go_at_call 42
      refine (movesMay a b c _ r.after (mostI i.op) (most_le i.op) _ (HMA.out.later (step_below hHeld.1 HWX.out))).mono ?_
      rintro e w4 ⟨rfl, hbr⟩
      go_wp2_with fail
      refine hK.out _ _ ?_ (fun hHeld => ?_)
      · (exact ⟨step_below hbr hHeld.1, step_cell hbr hHeld.2.1, step_cell hbr hHeld.2.2.1, step_cell hbr hHeld.2.2.2.1, step_cell hbr hHeld.2.2.2.2.1, step_cell hbr hHeld.2.2.2.2.2.1, step_cell hbr hHeld.2.2.2.2.2.2.1, step_cell hbr hHeld.2.2.2.2.2.2.2.1, step_cell hbr hHeld.2.2.2.2.2.2.2.2.1, step_cell hbr hHeld.2.2.2.2.2.2.2.2.2.1, step_cell hbr hHeld.2.2.2.2.2.2.2.2.2.2.1, step_cell hbr hHeld.2.2.2.2.2.2.2.2.2.2.2.1, step_cell hbr hHeld.2.2.2.2.2.2.2.2.2.2.2.2.1, step_cell hbr hHeld.2.2.2.2.2.2.2.2.2.2.2.2.2.1, step_cell hbr hHeld.2.2.2.2.2.2.2.2.2.2.2.2.2.2.1, step_cell hbr hHeld.2.2.2.2.2.2.2.2.2.2.2.2.2.2.2.1, step_cell hbr hHeld.2.2.2.2.2.2.2.2.2.2.2.2.2.2.2.2.1, step_cell hbr hHeld.2.2.2.2.2.2.2.2.2.2.2.2.2.2.2.2.2.1, step_cell hbr hHeld.2.2.2.2.2.2.2.2.2.2.2.2.2.2.2.2.2.2.1, step_cell hbr hHeld.2.2.2.2.2.2.2.2.2.2.2.2.2.2.2.2.2.2.2.1, step_cell hbr hHeld.2.2.2.2.2.2.2.2.2.2.2.2.2.2.2.2.2.2.2.2⟩)
      clear hK K
      try simp only [Act.put, List.setIfInBounds_toArray, List.set_cons_zero, List.set_cons_succ]
      refine wpAnyH_take (i := 19) (v := ?_) rfl (by kernel_rfl) (by kernel_rfl) (by kernel_rfl) (fun _ _ _ h => h) (Or.inl ⟨by rfl, ?_⟩) (by assumption) ?_
      case refine_2 => (intro w hSw; (try dsimp only at hSw); go_simp; first | done | (with_reducible rfl))
      show wpAnyH _ _ _ _ _ _ _ (Act.put _ (some 28) _) _
      simp only [Act.put, List.setIfInBounds_toArray, List.set_cons_zero, List.set_cons_succ]
      refine wpAnyH_take (i := 20) (v := ?_) rfl (by kernel_rfl) (by kernel_rfl) (by kernel_rfl) (fun _ _ _ h => h) (Or.inl ⟨by rfl, ?_⟩) (by assumption) ?_
      case refine_2 => (intro w hSw; (try dsimp only at hSw); go_simp; first | done | (with_reducible rfl))
      show wpAnyH _ _ _ _ _ _ _ (Act.put _ (some 8) _) _
      simp only [Act.put, List.setIfInBounds_toArray, List.set_cons_zero, List.set_cons_succ]
      refine wpAnyH_done (by kernel_rfl) ?_ _
      have HB9 : Hid (Below wx.heap.size wx w4) := hHeld.1
      clear hHeld hbr
      go_wp2
      go_ret
      exact ⟨ret_bool (by rw [HR.out, hf1, hf2]; rfl), step_below HB9.out HWX.out⟩

end Go.Proofs.YtcmnmogmdhofcaaGreat.form

/- What layout.fit answers. -/
namespace Go.Proofs.YtcmnmogmdhofcaaGreat.form
open Go.RowKit
set_option linter.unusedVariables false
attribute [local go_sem ↓] Go.wp_at_zero Go.wp_at_succ

def fit5 (B : List Bool) (nC : Nat) (k0 k1 k2 k3 k4 x0 x1 x2 x3 x4 : Int) : Bool :=
  fitB B nC k0 x0 && fitB B nC k1 x1 && fitB B nC k2 x2 && fitB B nC k3 x3 && fitB B nC k4 x4

theorem below_cell {W w1 : World} {B : Nat} (hb : Below B W w1) {b o : Nat} {v : Value} (h : b < B) (hc : W.cell? ⟨b, o, none⟩ = some v) : w1.cell? ⟨b, o, none⟩ = some v := by
  rw [hb.cell (p := ⟨b, o, none⟩) h]; exact hc

set_option maxRecDepth 100000 in
set_option maxHeartbeats 1000000 in
theorem fit (b0 o0 c0 b1 o1 c1 : Nat) (B : List Bool) (C : List LIns) (k0 k1 k2 k3 k4 x0 x1 x2 x3 x4 : Int) (w : World) (hB : B.length ≤ 12) (hC : C.length ≤ 40) (h : Held w b0 o0 b1 o1 B C) :
    Calls Tryz.prog 59 #[progV b0 o0 B.length c0 b1 o1 C.length c1, fiveV k0 k1 k2 k3 k4, fiveV x0 x1 x2 x3 x4] w fun e w' => e = .returned (.bool (fit5 B C.length k0 k1 k2 k3 k4 x0 x1 x2 x3 x4)) ∧ Below w.heap.size w w' := by
  unfold progV fiveV
  have i0 : ∀ w, (Instr.index 116 (.agg #[.int .i64 k0, .int .i64 k1, .int .i64 k2, .int .i64 k3, .int .i64 k4]) (.int .i64 0)).run Tryz.prog w = .ok (.int .i64 k0) w := fun _ => by kernel_rfl
  have i1 : ∀ w, (Instr.index 116 (.agg #[.int .i64 k0, .int .i64 k1, .int .i64 k2, .int .i64 k3, .int .i64 k4]) (.int .i64 1)).run Tryz.prog w = .ok (.int .i64 k1) w := fun _ => by kernel_rfl
  have i2 : ∀ w, (Instr.index 116 (.agg #[.int .i64 k0, .int .i64 k1, .int .i64 k2, .int .i64 k3, .int .i64 k4]) (.int .i64 2)).run Tryz.prog w = .ok (.int .i64 k2) w := fun _ => by kernel_rfl
  have i3 : ∀ w, (Instr.index 116 (.agg #[.int .i64 k0, .int .i64 k1, .int .i64 k2, .int .i64 k3, .int .i64 k4]) (.int .i64 3)).run Tryz.prog w = .ok (.int .i64 k3) w := fun _ => by kernel_rfl
  have i4 : ∀ w, (Instr.index 116 (.agg #[.int .i64 k0, .int .i64 k1, .int .i64 k2, .int .i64 k3, .int .i64 k4]) (.int .i64 4)).run Tryz.prog w = .ok (.int .i64 k4) w := fun _ => by kernel_rfl
  go_enter Tryz.func59, Tryz.ntmps59
  go_wp2
  go_loopw [10] (fun i wr => ∃ k : Nat, k ≤ 5 ∧ i = .int .i64 k ∧ Below w.heap.size w wr ∧ w.heap.size + 3 ≤ wr.heap.size ∧
      wr.cell? ⟨w.heap.size, 0, none⟩ = some (.slice (some ⟨b0, o0, none⟩) B.length c0) ∧ wr.cell? ⟨w.heap.size, 1, none⟩ = some (.slice (some ⟨b1, o1, none⟩) C.length c1) ∧
      wr.cell? ⟨w.heap.size + 2, 0, none⟩ = some (.int .i64 x0) ∧ wr.cell? ⟨w.heap.size + 2, 1, none⟩ = some (.int .i64 x1) ∧ wr.cell? ⟨w.heap.size + 2, 2, none⟩ = some (.int .i64 x2) ∧ wr.cell? ⟨w.heap.size + 2, 3, none⟩ = some (.int .i64 x3) ∧ wr.cell? ⟨w.heap.size + 2, 4, none⟩ = some (.int .i64 x4) ∧
      (0 < k → fitB B C.length k0 x0 = true) ∧ (1 < k → fitB B C.length k1 x1 = true) ∧ (2 < k → fitB B C.length k2 x2 = true) ∧ (3 < k → fitB B C.length k3 x3 = true) ∧ (4 < k → fitB B C.length k4 x4 = true))
    (fun i _ => 5 - (intOf i).toNat)
  case atStart => exact ⟨0, by omega, rfl, (((Below.refl _ _).alloc (Nat.le_refl _) _).alloc (by simp) _).alloc (by simp; omega) _, by simp, by simp [go_sem], by simp [go_sem], by simp [go_sem], by simp [go_sem], by simp [go_sem], by simp [go_sem], by simp [go_sem], by simp, by simp, by simp, by simp, by simp⟩
  case round =>
    obtain ⟨k, hk, rfl, hbel, hsz, cp0, cp1, cx0, cx1, cx2, cx3, cx4, f0, f1, f2, f3, f4⟩ := hrel
    have F : Hid _ := (⟨f0, f1, f2, f3, f4⟩ : _ ∧ _ ∧ _ ∧ _ ∧ _)
    clear f0 f1 f2 f3 f4
    rcases (show k = 0 ∨ k = 1 ∨ k = 2 ∨ k = 3 ∨ k = 4 ∨ k = 5 by omega) with rfl | rfl | rfl | rfl | rfl | rfl
    · go_wp2
      go_region_held3 (fun w' => Below wr.heap.size wr w' ∧ w'.cell? ⟨w.heap.size, 0, none⟩ = some (.slice (some ⟨b0, o0, none⟩) B.length c0) ∧ w'.cell? ⟨w.heap.size, 1, none⟩ = some (.slice (some ⟨b1, o1, none⟩) C.length c1) ∧ w'.cell? ⟨w.heap.size + 2, 0, none⟩ = some (.int .i64 x0)) ((go_split_ands; refine ⟨?_, ?_, ?_, ?_⟩ <;> first | exact (Below.refl _ _).drew | exact ((Below.refl _ _).drew).trans hb1 | exact below_cell hb1 (show _ < wr.heap.size by omega) cp0 | exact below_cell hb1 (show _ < wr.heap.size by omega) cp1 | exact below_cell hb1 (show _ < wr.heap.size by omega) cx0 | go_keep))
        ((go_at_call 75; refine (fits b0 o0 c0 b1 o1 c1 B C k0 x0 _ hB hC ?_).mono ?_; (exact h.later hbel.drew); rintro e w1 ⟨rfl, hb1⟩))
      rename_i hHeldx; clear hHeldx
      have hs1 : wr.heap.size ≤ w1.heap.size := hb1.size
      have R : Hid _ := (⟨hbel.drew.trans (hb1.mono hbel.size), Nat.le_trans hsz hs1, below_cell hb1 (show _ < wr.heap.size by omega) cp0, below_cell hb1 (show _ < wr.heap.size by omega) cp1, below_cell hb1 (show _ < wr.heap.size by omega) cx0, below_cell hb1 (show _ < wr.heap.size by omega) cx1, below_cell hb1 (show _ < wr.heap.size by omega) cx2, below_cell hb1 (show _ < wr.heap.size by omega) cx3, below_cell hb1 (show _ < wr.heap.size by omega) cx4⟩ : Below w.heap.size w w1 ∧ w.heap.size + 3 ≤ w1.heap.size ∧ _ ∧ _ ∧ _ ∧ _ ∧ _ ∧ _ ∧ _)
      clear hb1 cp0 cp1 cx0 cx1 cx2 cx3 cx4 hbel
      go_wp2
      · go_ret
        exact ⟨ret_bool (by simp_all [fit5]), R.out.1⟩
      · obtain ⟨r1, r2, r3, r4, r5, r6, r7, r8, r9⟩ := R.out
        obtain ⟨f0, f1, f2, f3, f4⟩ := F.out
        refine ⟨⟨1, by omega, rfl, r1, r2, r3, r4, r5, r6, r7, r8, r9, ?_, ?_, ?_, ?_, ?_⟩, by simp [intOf]⟩
        all_goals first | assumption | (intro hz; first | (exact absurd hz (by omega)) | (simp_all))
    · go_wp2
      go_region_held3 (fun w' => Below wr.heap.size wr w' ∧ w'.cell? ⟨w.heap.size, 0, none⟩ = some (.slice (some ⟨b0, o0, none⟩) B.length c0) ∧ w'.cell? ⟨w.heap.size, 1, none⟩ = some (.slice (some ⟨b1, o1, none⟩) C.length c1) ∧ w'.cell? ⟨w.heap.size + 2, 1, none⟩ = some (.int .i64 x1)) ((go_split_ands; refine ⟨?_, ?_, ?_, ?_⟩ <;> first | exact (Below.refl _ _).drew | exact ((Below.refl _ _).drew).trans hb1 | exact below_cell hb1 (show _ < wr.heap.size by omega) cp0 | exact below_cell hb1 (show _ < wr.heap.size by omega) cp1 | exact below_cell hb1 (show _ < wr.heap.size by omega) cx1 | go_keep))
        ((go_at_call 75; refine (fits b0 o0 c0 b1 o1 c1 B C k1 x1 _ hB hC ?_).mono ?_; (exact h.later hbel.drew); rintro e w1 ⟨rfl, hb1⟩))
      rename_i hHeldx; clear hHeldx
      have hs1 : wr.heap.size ≤ w1.heap.size := hb1.size
      have R : Hid _ := (⟨hbel.drew.trans (hb1.mono hbel.size), Nat.le_trans hsz hs1, below_cell hb1 (show _ < wr.heap.size by omega) cp0, below_cell hb1 (show _ < wr.heap.size by omega) cp1, below_cell hb1 (show _ < wr.heap.size by omega) cx0, below_cell hb1 (show _ < wr.heap.size by omega) cx1, below_cell hb1 (show _ < wr.heap.size by omega) cx2, below_cell hb1 (show _ < wr.heap.size by omega) cx3, below_cell hb1 (show _ < wr.heap.size by omega) cx4⟩ : Below w.heap.size w w1 ∧ w.heap.size + 3 ≤ w1.heap.size ∧ _ ∧ _ ∧ _ ∧ _ ∧ _ ∧ _ ∧ _)
      clear hb1 cp0 cp1 cx0 cx1 cx2 cx3 cx4 hbel
      go_wp2
      · go_ret
        exact ⟨ret_bool (by simp_all [fit5]), R.out.1⟩
      · obtain ⟨r1, r2, r3, r4, r5, r6, r7, r8, r9⟩ := R.out
        obtain ⟨f0, f1, f2, f3, f4⟩ := F.out
        refine ⟨⟨2, by omega, rfl, r1, r2, r3, r4, r5, r6, r7, r8, r9, ?_, ?_, ?_, ?_, ?_⟩, by simp [intOf]⟩
        all_goals first | assumption | (intro hz; first | (exact absurd hz (by omega)) | (simp_all))
    · go_wp2
      go_region_held3 (fun w' => Below wr.heap.size wr w' ∧ w'.cell? ⟨w.heap.size, 0, none⟩ = some (.slice (some ⟨b0, o0, none⟩) B.length c0) ∧ w'.cell? ⟨w.heap.size, 1, none⟩ = some (.slice (some ⟨b1, o1, none⟩) C.length c1) ∧ w'.cell? ⟨w.heap.size + 2, 2, none⟩ = some (.int .i64 x2)) ((go_split_ands; refine ⟨?_, ?_, ?_, ?_⟩ <;> first | exact (Below.refl _ _).drew | exact ((Below.refl _ _).drew).trans hb1 | exact below_cell hb1 (show _ < wr.heap.size by omega) cp0 | exact below_cell hb1 (show _ < wr.heap.size by omega) cp1 | exact below_cell hb1 (show _ < wr.heap.size by omega) cx2 | go_keep))
        ((go_at_call 75; refine (fits b0 o0 c0 b1 o1 c1 B C k2 x2 _ hB hC ?_).mono ?_; (exact h.later hbel.drew); rintro e w1 ⟨rfl, hb1⟩))
      rename_i hHeldx; clear hHeldx
      have hs1 : wr.heap.size ≤ w1.heap.size := hb1.size
      have R : Hid _ := (⟨hbel.drew.trans (hb1.mono hbel.size), Nat.le_trans hsz hs1, below_cell hb1 (show _ < wr.heap.size by omega) cp0, below_cell hb1 (show _ < wr.heap.size by omega) cp1, below_cell hb1 (show _ < wr.heap.size by omega) cx0, below_cell hb1 (show _ < wr.heap.size by omega) cx1, below_cell hb1 (show _ < wr.heap.size by omega) cx2, below_cell hb1 (show _ < wr.heap.size by omega) cx3, below_cell hb1 (show _ < wr.heap.size by omega) cx4⟩ : Below w.heap.size w w1 ∧ w.heap.size + 3 ≤ w1.heap.size ∧ _ ∧ _ ∧ _ ∧ _ ∧ _ ∧ _ ∧ _)
      clear hb1 cp0 cp1 cx0 cx1 cx2 cx3 cx4 hbel
      go_wp2
      · go_ret
        exact ⟨ret_bool (by simp_all [fit5]), R.out.1⟩
      · obtain ⟨r1, r2, r3, r4, r5, r6, r7, r8, r9⟩ := R.out
        obtain ⟨f0, f1, f2, f3, f4⟩ := F.out
        refine ⟨⟨3, by omega, rfl, r1, r2, r3, r4, r5, r6, r7, r8, r9, ?_, ?_, ?_, ?_, ?_⟩, by simp [intOf]⟩
        all_goals first | assumption | (intro hz; first | (exact absurd hz (by omega)) | (simp_all))
    · go_wp2
      go_region_held3 (fun w' => Below wr.heap.size wr w' ∧ w'.cell? ⟨w.heap.size, 0, none⟩ = some (.slice (some ⟨b0, o0, none⟩) B.length c0) ∧ w'.cell? ⟨w.heap.size, 1, none⟩ = some (.slice (some ⟨b1, o1, none⟩) C.length c1) ∧ w'.cell? ⟨w.heap.size + 2, 3, none⟩ = some (.int .i64 x3)) ((go_split_ands; refine ⟨?_, ?_, ?_, ?_⟩ <;> first | exact (Below.refl _ _).drew | exact ((Below.refl _ _).drew).trans hb1 | exact below_cell hb1 (show _ < wr.heap.size by omega) cp0 | exact below_cell hb1 (show _ < wr.heap.size by omega) cp1 | exact below_cell hb1 (show _ < wr.heap.size by omega) cx3 | go_keep))
        ((go_at_call 75; refine (fits b0 o0 c0 b1 o1 c1 B C k3 x3 _ hB hC ?_).mono ?_; (exact h.later hbel.drew); rintro e w1 ⟨rfl, hb1⟩))
      rename_i hHeldx; clear hHeldx
      have hs1 : wr.heap.size ≤ w1.heap.size := hb1.size
      have R : Hid _ := (⟨hbel.drew.trans (hb1.mono hbel.size), Nat.le_trans hsz hs1, below_cell hb1 (show _ < wr.heap.size by omega) cp0, below_cell hb1 (show _ < wr.heap.size by omega) cp1, below_cell hb1 (show _ < wr.heap.size by omega) cx0, below_cell hb1 (show _ < wr.heap.size by omega) cx1, below_cell hb1 (show _ < wr.heap.size by omega) cx2, below_cell hb1 (show _ < wr.heap.size by omega) cx3, below_cell hb1 (show _ < wr.heap.size by omega) cx4⟩ : Below w.heap.size w w1 ∧ w.heap.size + 3 ≤ w1.heap.size ∧ _ ∧ _ ∧ _ ∧ _ ∧ _ ∧ _ ∧ _)
      clear hb1 cp0 cp1 cx0 cx1 cx2 cx3 cx4 hbel
      go_wp2
      · go_ret
        exact ⟨ret_bool (by simp_all [fit5]), R.out.1⟩
      · obtain ⟨r1, r2, r3, r4, r5, r6, r7, r8, r9⟩ := R.out
        obtain ⟨f0, f1, f2, f3, f4⟩ := F.out
        refine ⟨⟨4, by omega, rfl, r1, r2, r3, r4, r5, r6, r7, r8, r9, ?_, ?_, ?_, ?_, ?_⟩, by simp [intOf]⟩
        all_goals first | assumption | (intro hz; first | (exact absurd hz (by omega)) | (simp_all))
    · go_wp2
      go_region_held3 (fun w' => Below wr.heap.size wr w' ∧ w'.cell? ⟨w.heap.size, 0, none⟩ = some (.slice (some ⟨b0, o0, none⟩) B.length c0) ∧ w'.cell? ⟨w.heap.size, 1, none⟩ = some (.slice (some ⟨b1, o1, none⟩) C.length c1) ∧ w'.cell? ⟨w.heap.size + 2, 4, none⟩ = some (.int .i64 x4)) ((go_split_ands; refine ⟨?_, ?_, ?_, ?_⟩ <;> first | exact (Below.refl _ _).drew | exact ((Below.refl _ _).drew).trans hb1 | exact below_cell hb1 (show _ < wr.heap.size by omega) cp0 | exact below_cell hb1 (show _ < wr.heap.size by omega) cp1 | exact below_cell hb1 (show _ < wr.heap.size by omega) cx4 | go_keep))
        ((go_at_call 75; refine (fits b0 o0 c0 b1 o1 c1 B C k4 x4 _ hB hC ?_).mono ?_; (exact h.later hbel.drew); rintro e w1 ⟨rfl, hb1⟩))
      rename_i hHeldx; clear hHeldx
      have hs1 : wr.heap.size ≤ w1.heap.size := hb1.size
      have R : Hid _ := (⟨hbel.drew.trans (hb1.mono hbel.size), Nat.le_trans hsz hs1, below_cell hb1 (show _ < wr.heap.size by omega) cp0, below_cell hb1 (show _ < wr.heap.size by omega) cp1, below_cell hb1 (show _ < wr.heap.size by omega) cx0, below_cell hb1 (show _ < wr.heap.size by omega) cx1, below_cell hb1 (show _ < wr.heap.size by omega) cx2, below_cell hb1 (show _ < wr.heap.size by omega) cx3, below_cell hb1 (show _ < wr.heap.size by omega) cx4⟩ : Below w.heap.size w w1 ∧ w.heap.size + 3 ≤ w1.heap.size ∧ _ ∧ _ ∧ _ ∧ _ ∧ _ ∧ _ ∧ _)
      clear hb1 cp0 cp1 cx0 cx1 cx2 cx3 cx4 hbel
      go_wp2
      · go_ret
        exact ⟨ret_bool (by simp_all [fit5]), R.out.1⟩
      · obtain ⟨r1, r2, r3, r4, r5, r6, r7, r8, r9⟩ := R.out
        obtain ⟨f0, f1, f2, f3, f4⟩ := F.out
        refine ⟨⟨5, by omega, rfl, r1, r2, r3, r4, r5, r6, r7, r8, r9, ?_, ?_, ?_, ?_, ?_⟩, by simp [intOf]⟩
        all_goals first | assumption | (intro hz; first | (exact absurd hz (by omega)) | (simp_all))
    · go_wp2
      go_ret
      obtain ⟨f0, f1, f2, f3, f4⟩ := F.out
      exact ⟨ret_bool (by simp [fit5, f0 (by omega), f1 (by omega), f2 (by omega), f3 (by omega), f4 (by omega)]), hbel⟩

end Go.Proofs.YtcmnmogmdhofcaaGreat.form

/- What layout.mayStand answers. -/
namespace Go.Proofs.YtcmnmogmdhofcaaGreat.form
open Go.RowKit
set_option linter.unusedVariables false
attribute [local go_sem ↓] Go.wp_at_zero Go.wp_at_succ

def fitAs (B : List Bool) (nC : Nat) (i : LIns) (width : Int) : Bool :=
  fit5 B nC (st (kd i.op 0) width) (st (kd i.op 1) width) (st (kd i.op 2) width) (st (kd i.op 3) width) (st (kd i.op 4) width) i.dest i.a i.b i.c i.n
def standB (B : List Bool) (nC : Nat) (i : LIns) : Bool := knownB i.op && (fitAs B nC i 1 || fitAs B nC i 2)

set_option maxRecDepth 100000 in
set_option maxHeartbeats 1000000 in
theorem mayStand (b0 o0 c0 b1 o1 c1 : Nat) (B : List Bool) (C : List LIns) (i : LIns) (w : World) (hB : B.length ≤ 12) (hC : C.length ≤ 40) (h : Held w b0 o0 b1 o1 B C) (hn0 : 0 ≤ i.n) (hn1 : i.n < 4294967296) :
    Calls Tryz.prog 40 #[progV b0 o0 B.length c0 b1 o1 C.length c1, i.val] w fun e w' => e = .returned (.bool (standB B C.length i)) ∧ Below w.heap.size w w' := by
  unfold progV LIns.val
  by_cases hkn : knownB i.op = true
  case neg =>
    have hkf : knownB i.op = false := by simpa using hkn
    clear hkn
    go_enter Tryz.func40, Tryz.ntmps40
    go_wp2_with (go_at_call 58; refine (kindsOf _ _).mono ?_; rintro e w1 ⟨rfl, hb1⟩; unfold fiveV)
    go_ret
    exact ⟨ret_bool (by simp [standB, hkf]), ((((Below.refl _ _).alloc (Nat.le_refl _) _).alloc (by simp) _).trans (hb1.mono (by simp; omega))).alloc (by have := hb1.size; simp at this; omega) _⟩
  case pos =>
    go_enter Tryz.func40, Tryz.ntmps40
    go_wp2_with (go_at_call 58; refine (kindsOf _ _).mono ?_; rintro e w1 ⟨rfl, hb1⟩; unfold fiveV; have p0 : w1.cell? ⟨w.heap.size, 0, none⟩ = some (.slice (some ⟨b0, o0, none⟩) B.length c0) := step_cell hb1 (by simp [go_sem]); have p1 : w1.cell? ⟨w.heap.size, 1, none⟩ = some (.slice (some ⟨b1, o1, none⟩) C.length c1) := step_cell hb1 (by simp [go_sem]); have d1 : w1.cell? ⟨w.heap.size + 1, 1, none⟩ = some (.int .i64 i.dest) := step_cell hb1 (by simp [go_sem]); have d2 : w1.cell? ⟨w.heap.size + 1, 2, none⟩ = some (.int .i64 i.a) := step_cell hb1 (by simp [go_sem]); have d3 : w1.cell? ⟨w.heap.size + 1, 3, none⟩ = some (.int .i64 i.b) := step_cell hb1 (by simp [go_sem]); have d4 : w1.cell? ⟨w.heap.size + 1, 4, none⟩ = some (.int .i64 i.c) := step_cell hb1 (by simp [go_sem]); have d5 : w1.cell? ⟨w.heap.size + 1, 5, none⟩ = some (.int .u32 i.n) := step_cell hb1 (by simp [go_sem]); have hz1 : w.heap.size + 1 < w1.heap.size := (by have := hb1.size; simp at this; omega); have hz0 : w.heap.size < w1.heap.size := (by omega); have HB : Hid (Below w.heap.size w w1) := ((((Below.refl _ _).alloc (Nat.le_refl _) _).alloc (by simp) _).trans (hb1.mono (by simp; omega))); clear hb1)
    have HW : Hid (Below w.heap.size w ((w1.alloc (.cells #[.int .i64 (kd i.op 0), .int .i64 (kd i.op 1), .int .i64 (kd i.op 2), .int .i64 (kd i.op 3), .int .i64 (kd i.op 4)] 116)).alloc (.cells #[.int .i64 i.dest, .int .i64 i.a, .int .i64 i.b, .int .i64 i.c, .int .i64 i.n] 119))) := ((HB.out.alloc (by omega) _).alloc (by simp; omega) _)
    cases hf1 : fit5 B C.length (st (kd i.op 0) 1) (st (kd i.op 1) 1) (st (kd i.op 2) 1) (st (kd i.op 3) 1) (st (kd i.op 4) 1) i.dest i.a i.b i.c i.n
    case true =>
      refine wp_region_held_drew (S := (fun w' => Below w.heap.size w w' ∧ w'.cell? ⟨w.heap.size, 0, none⟩ = some (.slice (some ⟨b0, o0, none⟩) B.length c0) ∧ w'.cell? ⟨w.heap.size, 1, none⟩ = some (.slice (some ⟨b1, o1, none⟩) C.length c1) ∧ w'.cell? ⟨w1.heap.size, 0, none⟩ = some (.int .i64 (kd i.op 0)) ∧ w'.cell? ⟨w1.heap.size, 1, none⟩ = some (.int .i64 (kd i.op 1)) ∧ w'.cell? ⟨w1.heap.size, 2, none⟩ = some (.int .i64 (kd i.op 2)) ∧ w'.cell? ⟨w1.heap.size, 3, none⟩ = some (.int .i64 (kd i.op 3)) ∧ w'.cell? ⟨w1.heap.size, 4, none⟩ = some (.int .i64 (kd i.op 4)) ∧ w'.cell? ⟨w1.heap.size + 1, 0, none⟩ = some (.int .i64 i.dest) ∧ w'.cell? ⟨w1.heap.size + 1, 1, none⟩ = some (.int .i64 i.a) ∧ w'.cell? ⟨w1.heap.size + 1, 2, none⟩ = some (.int .i64 i.b) ∧ w'.cell? ⟨w1.heap.size + 1, 3, none⟩ = some (.int .i64 i.c) ∧ w'.cell? ⟨w1.heap.size + 1, 4, none⟩ = some (.int .i64 i.n))) (by kernel_rfl) ?_ (fun hHeld => ?_)
      · ((go_split_ands; refine ⟨?_, ?_, ?_, ?_, ?_, ?_, ?_, ?_, ?_, ?_, ?_, ?_, ?_⟩ <;> first | exact HW.out.drew | assumption | exact step_below (by assumption) (by assumption) | exact step_cell (by assumption) (by assumption) | go_keep))
      refine wpAnyH_take (i := 0) (v := ?_) rfl (by kernel_rfl) (by kernel_rfl) (by kernel_rfl) (fun _ _ _ h => h) (Or.inl ⟨by rfl, ?_⟩) (by assumption) ?_
      case refine_2 => (intro w hSw; (try dsimp only at hSw); go_simp; first | done | (with_reducible rfl))
      show wpAnyH _ _ _ _ _ _ _ (Act.put _ (some 28) _) _
      try simp only [Act.put]
      refine wpAnyH_take (i := 1) (v := ?_) rfl (by kernel_rfl) (by kernel_rfl) (by kernel_rfl) (fun _ _ _ h => h) (Or.inl ⟨by rfl, ?_⟩) (by assumption) ?_
      case refine_2 => (intro w hSw; (try dsimp only at hSw); go_simp; first | done | (with_reducible rfl))
      show wpAnyH _ _ _ _ _ _ _ (Act.put _ (some 29) _) _
      try simp only [Act.put]
      refine wpAnyH_take (i := 3) (v := ?_) rfl (by kernel_rfl) (by kernel_rfl) (by kernel_rfl) (fun _ _ _ h => h) (Or.inl ⟨by rfl, ?_⟩) (by assumption) ?_
      case refine_2 => (intro w hSw; (try dsimp only at hSw); go_simp; first | done | (with_reducible rfl))
      show wpAnyH _ _ _ _ _ _ _ (Act.put _ (some 31) _) _
      try simp only [Act.put]
      refine wpAnyH_ready (rs := [2]) (by kernel_rfl) (by simp) ?_
      refine AllReadyH.cons rfl (fun K hK => ?_) AllReadyH.nil
      go_simp
      go_at_call 60; refine (settle _ _ _ _ _ _ _).mono ?_; rintro e wa ⟨rfl, hba⟩; unfold fiveV
      go_wp2_with fail
      refine hK.out _ _ ?_ (fun hHeld => ?_)
      · ((go_split_ands; refine ⟨?_, ?_, ?_, ?_, ?_, ?_, ?_, ?_, ?_, ?_, ?_, ?_, ?_⟩ <;> first | exact HW.out.drew | assumption | exact step_below (by assumption) (by assumption) | exact step_cell (by assumption) (by assumption) | go_keep))
      clear hK K
      try simp only [Act.put]
      refine wpAnyH_ready (rs := [4]) (by kernel_rfl) (by simp) ?_
      refine AllReadyH.cons rfl (fun K hK => ?_) AllReadyH.nil
      go_simp
      go_at_call 59; refine (fit b0 o0 c0 b1 o1 c1 B C _ _ _ _ _ _ _ _ _ _ _ hB hC ?_).mono ?_; (go_split_ands; exact h.later (by assumption)); rintro e wb ⟨rfl, hbb⟩; rw [hf1]
      go_wp2_with fail
      refine hK.out _ _ ?_ (fun hHeld => ?_)
      · ((go_split_ands; refine ⟨?_, ?_, ?_, ?_, ?_, ?_, ?_, ?_, ?_, ?_, ?_, ?_, ?_⟩ <;> first | exact HW.out.drew | assumption | exact step_below (by assumption) (by assumption) | exact step_cell (by assumption) (by assumption) | go_keep))
      clear hK K
      try simp only [Act.put]
      refine wpAnyH_take (i := 5) (v := ?_) rfl (by kernel_rfl) (by kernel_rfl) (by kernel_rfl) (fun _ _ _ h => h) (Or.inl ⟨by rfl, ?_⟩) (by assumption) ?_
      case refine_2 => (intro w hSw; (try dsimp only at hSw); go_simp; first | done | (with_reducible rfl))
      show wpAnyH _ _ _ _ _ _ _ (Act.put _ (some 33) _) _
      try simp only [Act.put]
      refine wpAnyH_take (i := 6) (v := undef) rfl (by kernel_rfl) (by kernel_rfl) (by kernel_rfl) (fun _ _ _ h => h) (Or.inr ⟨by rfl, rfl⟩) (by assumption) ?_
      show wpAnyH _ _ _ _ _ _ _ (Act.put _ (some 34) _) _
      try simp only [Act.put]
      refine wpAnyH_take (i := 7) (v := undef) rfl (by kernel_rfl) (by kernel_rfl) (by kernel_rfl) (fun _ _ _ h => h) (Or.inr ⟨by rfl, rfl⟩) (by assumption) ?_
      show wpAnyH _ _ _ _ _ _ _ (Act.put _ (some 35) _) _
      try simp only [Act.put]
      refine wpAnyH_take (i := 9) (v := undef) rfl (by kernel_rfl) (by kernel_rfl) (by kernel_rfl) (fun _ _ _ h => h) (Or.inr ⟨by rfl, rfl⟩) (by assumption) ?_
      show wpAnyH _ _ _ _ _ _ _ (Act.put _ (some 37) _) _
      try simp only [Act.put]
      refine wpAnyH_take (i := 8) (v := undef) rfl (by kernel_rfl) (by kernel_rfl) (by kernel_rfl) (fun _ _ _ h => h) (Or.inr ⟨by rfl, rfl⟩) (by assumption) ?_
      show wpAnyH _ _ _ _ _ _ _ (Act.put _ (some 36) _) _
      try simp only [Act.put]
      refine wpAnyH_take (i := 10) (v := undef) rfl (by kernel_rfl) (by kernel_rfl) (by kernel_rfl) (fun _ _ _ h => h) (Or.inr ⟨by rfl, rfl⟩) (by assumption) ?_
      show wpAnyH _ _ _ _ _ _ _ (Act.put _ (some 38) _) _
      try simp only [Act.put]
      refine wpAnyH_take (i := 11) (v := ?_) rfl (by kernel_rfl) (by kernel_rfl) (by kernel_rfl) (fun _ _ _ h => h) (Or.inl ⟨by rfl, ?_⟩) (by assumption) ?_
      case refine_2 => (intro w hSw; (try dsimp only at hSw); go_simp; first | done | (with_reducible rfl))
      show wpAnyH _ _ _ _ _ _ _ (Act.put _ (some 39) _) _
      try simp only [Act.put]
      refine wpAnyH_take (i := 12) (v := ?_) rfl (by kernel_rfl) (by kernel_rfl) (by kernel_rfl) (fun _ _ _ h => h) (Or.inl ⟨by rfl, ?_⟩) (by assumption) ?_
      case refine_2 => (intro w hSw; (try dsimp only at hSw); go_simp; first | done | (with_reducible rfl))
      show wpAnyH _ _ _ _ _ _ _ (Act.put _ (some 4) _) _
      try simp only [Act.put]
      refine wpAnyH_done (by kernel_rfl) ?_ _
      go_wp2
      go_ret
      refine ⟨?_, hHeld.1⟩
      rw [show standB B C.length i = true by simp [standB, fitAs, hkn, hf1]]
      kernel_rfl
    case false =>
      go_region_held3 (fun w' => Below w.heap.size w w' ∧ w'.cell? ⟨w.heap.size, 0, none⟩ = some (.slice (some ⟨b0, o0, none⟩) B.length c0) ∧ w'.cell? ⟨w.heap.size, 1, none⟩ = some (.slice (some ⟨b1, o1, none⟩) C.length c1) ∧ w'.cell? ⟨w1.heap.size, 0, none⟩ = some (.int .i64 (kd i.op 0)) ∧ w'.cell? ⟨w1.heap.size, 1, none⟩ = some (.int .i64 (kd i.op 1)) ∧ w'.cell? ⟨w1.heap.size, 2, none⟩ = some (.int .i64 (kd i.op 2)) ∧ w'.cell? ⟨w1.heap.size, 3, none⟩ = some (.int .i64 (kd i.op 3)) ∧ w'.cell? ⟨w1.heap.size, 4, none⟩ = some (.int .i64 (kd i.op 4)) ∧ w'.cell? ⟨w1.heap.size + 1, 0, none⟩ = some (.int .i64 i.dest) ∧ w'.cell? ⟨w1.heap.size + 1, 1, none⟩ = some (.int .i64 i.a) ∧ w'.cell? ⟨w1.heap.size + 1, 2, none⟩ = some (.int .i64 i.b) ∧ w'.cell? ⟨w1.heap.size + 1, 3, none⟩ = some (.int .i64 i.c) ∧ w'.cell? ⟨w1.heap.size + 1, 4, none⟩ = some (.int .i64 i.n))
      ((go_split_ands; refine ⟨?_, ?_, ?_, ?_, ?_, ?_, ?_, ?_, ?_, ?_, ?_, ?_, ?_⟩ <;> first | exact HW.out.drew | assumption | exact step_below (by assumption) (by assumption) | exact step_cell (by assumption) (by assumption) | go_keep))
      ((first | (go_at_call 60; refine (settle _ _ _ _ _ _ _).mono ?_; rintro e wa ⟨rfl, hba⟩; unfold fiveV) | (go_at_call 59; refine (fit b0 o0 c0 b1 o1 c1 B C _ _ _ _ _ _ _ _ _ _ _ hB hC ?_).mono ?_; (go_split_ands; exact h.later (by assumption)); rintro e wb ⟨rfl, hbb⟩; (try rw [hf1]))))
      go_wp2
      go_ret
      rename_i hHeldx
      exact ⟨ret_bool (by simp [standB, fitAs, hkn, hf1]), hHeldx.1⟩

end Go.Proofs.YtcmnmogmdhofcaaGreat.form
