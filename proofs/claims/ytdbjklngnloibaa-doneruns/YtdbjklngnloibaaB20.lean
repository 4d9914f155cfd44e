/- What the program's own functions on moves and targets answer: holds, isEmpty, kindsMay, moveMay, movesMay, mostAfter, targetMay, roomOf. -/
import Derived.Test.YtdbjklngnloibaaB19
import Derived.Test.YtdbjklngnloibaaB09

namespace Go.Proofs.Ytdbjklngnloibaa.form
open Go.RowKit
set_option linter.unusedVariables false
attribute [local go_sem ↓] Go.wp_at_zero Go.wp_at_succ

def emptyB (p : LPlace) : Bool := (p.kind == 0) && (p.n == 0)

set_option maxRecDepth 100000 in
theorem isEmpty (p : LPlace) (w : World) : Calls Try.prog 122 #[p.val] w fun e w' => e = .returned (.bool (emptyB p)) ∧ Below w.heap.size w w' := by
  unfold LPlace.val
  have HB : Hid (∀ o1 : Obj, Below w.heap.size w (w.alloc o1)) := fun o1 => (Below.refl _ _).alloc (Nat.le_refl _) _
  have q57 := eqPlace
  go_enter Try.func122, Try.ntmps122
  go_wp2
  go_ret
  exact ⟨ret_bool rfl, HB.out _⟩

def kindsB (a b : Int) : Bool := if a = b then a != 3 else (a == 3) || (b == 3)
theorem kindsMay (a b : Int) (w : World) : Calls Try.prog 126 #[.int .i64 a, .int .i64 b] w fun e w' => e = .returned (.bool (kindsB a b)) ∧ w' = w := by
  by_cases h : a = b
  · have e1 : (a == b) = true := by simp [h]
    have HE : Hid (kindsB a b = (a != 3)) := by show kindsB a b = _; unfold kindsB; rw [if_pos h]
    clear h
    go_enter Try.func126, Try.ntmps126
    go_wp2
    go_ret
    exact ⟨ret_bool (by rw [HE.out]; try rfl), rfl⟩
  · have e1 : (a == b) = false := by simp [h]
    have HE : Hid (kindsB a b = ((a == 3) || (b == 3))) := by show kindsB a b = _; unfold kindsB; rw [if_neg h]
    clear h
    rcases Bool.eq_false_or_eq_true (a == 3) with e2 | e2
    all_goals
      go_enter Try.func126, Try.ntmps126
      go_wp2
      go_ret
      exact ⟨ret_bool (by rw [HE.out, e2]; simp), rfl⟩

def holdB (a b c : Int) (p : LPlace) (wide : Bool) : Bool := (p.kind == if wide then 2 else 1) && hasB a b c p
set_option maxRecDepth 100000 in
set_option maxHeartbeats 1000000 in
theorem holds (a b c : Int) (p : LPlace) (wide : Bool) (w : World) : Calls Try.prog 121 #[roomV a b c, p.val, .bool wide] w fun e w' => e = .returned (.bool (holdB a b c p wide)) ∧ Below w.heap.size w w' := by
  unfold roomV LPlace.val
  have HB : Hid (∀ o1 o2 : Obj, Below w.heap.size w ((w.alloc o1).alloc o2)) := fun o1 o2 => ((Below.refl _ _).alloc (Nat.le_refl _) _).alloc (by simp) _
  cases wide
  · have HE : Hid (holdB a b c p false = ((p.kind == 1) && hasB a b c p)) := rfl
    rcases Bool.eq_false_or_eq_true (p.kind == 1) with e1 | e1
    all_goals
      go_enter Try.func121, Try.ntmps121
      go_wp2_with (go_at_call 125; refine (roomHas a b c p _).mono ?_; rintro e w1 ⟨rfl, hb1⟩)
      go_ret
    · exact ⟨ret_bool (by rw [HE.out, e1]; rfl), over_alloc (over_alloc hb1)⟩
    · exact ⟨ret_bool (by rw [HE.out, e1]; rfl), HB.out _ _⟩
  · have HE : Hid (holdB a b c p true = ((p.kind == 2) && hasB a b c p)) := rfl
    rcases Bool.eq_false_or_eq_true (p.kind == 2) with e1 | e1
    all_goals
      go_enter Try.func121, Try.ntmps121
      go_wp2_with (go_at_call 125; refine (roomHas a b c p _).mono ?_; rintro e w1 ⟨rfl, hb1⟩)
      go_ret
    · exact ⟨ret_bool (by rw [HE.out, e1]; rfl), over_alloc (over_alloc hb1)⟩
    · exact ⟨ret_bool (by rw [HE.out, e1]; rfl), HB.out _ _⟩

def mostI (op : Int) : Int := if op = 8 ∨ op = 9 ∨ op = 10 then 0 else 6
theorem mostAfter (op : Int) (w : World) : Calls Try.prog 98 #[.int .i64 op] w fun e w' => e = .returned (.int .i64 (mostI op)) ∧ w' = w := by
  go_enter Try.func98, Try.ntmps98
  go_wp2
  all_goals
    go_ret
    refine ⟨?_, rfl⟩
    unfold mostI
    simp_all

set_option maxRecDepth 100000 in
theorem targetMay (s : Int) (w : World) : Calls Try.prog 58 #[targetV s] w fun e w' => e = .returned (.bool (targetB s)) ∧ Below w.heap.size w w' := by
  unfold targetV
  have HB : Hid (∀ o1 : Obj, Below w.heap.size w (w.alloc o1)) := fun o1 => (Below.refl _ _).alloc (Nat.le_refl _) _
  rcases (show ¬ 4 ≤ s ∨ (4 ≤ s ∧ ¬ s ≤ 16) ∨ (4 ≤ s ∧ s ≤ 16) by omega) with h | ⟨h, h1⟩ | ⟨h, h1⟩
  · have HE : Hid (targetB s = false) := by show targetB s = false; unfold targetB; simp; omega
    go_enter Try.func58, Try.ntmps58
    go_wp2
    go_ret
    exact ⟨ret_bool HE.out.symm, HB.out _⟩
  · have HE : Hid (targetB s = false) := by show targetB s = false; unfold targetB; simp; omega
    go_enter Try.func58, Try.ntmps58
    go_wp2
    go_ret
    exact ⟨ret_bool HE.out.symm, HB.out _⟩
  · have HE : Hid (targetB s = (s % 2 == 0)) := by show targetB s = _; unfold targetB; rw [Bool.eq_iff_iff]; simp; omega
    go_enter Try.func58, Try.ntmps58
    go_wp2
    go_ret
    exact ⟨ret_bool (by rw [HE.out]; try rfl), HB.out _⟩

set_option maxRecDepth 100000 in
theorem roomOf (s slots : Int) (h0 : 4 ≤ s) (h1 : s ≤ 16) (w : World) : Calls Try.prog 60 #[targetV s, .int .i64 slots] w fun e w' => e = .returned (roomV s (s / 2) slots) ∧ Below w.heap.size w w' := by
  unfold targetV
  have HB : Hid (∀ o1 o2 : Obj, Below w.heap.size w ((w.alloc o1).alloc o2)) := fun o1 o2 => ((Below.refl _ _).alloc (Nat.le_refl _) _).alloc (by simp) _
  go_enter Try.func60, Try.ntmps60
  go_wp2
  refine bodyPost_ret (v := roomV s (s / 2) slots) ?_ rfl ⟨rfl, HB.out _ _⟩
  simp [results, Try.results60, go_sem, roomV]

def moveO (a b c : Int) (m : LMove) : Bool := if m.cst then emptyB m.src && holdB a b c m.dst false else (m.n == 0) && hasB a b c m.dst && hasB a b c m.src && kindsB m.dst.kind m.src.kind

set_option maxRecDepth 100000 in
set_option maxHeartbeats 1000000 in
theorem moveMay (a b c : Int) (m : LMove) (w : World) : Calls Try.prog 123 #[roomV a b c, m.val] w fun e w' => e = .returned (.bool (moveO a b c m)) ∧ Below w.heap.size w w' := by
  unfold roomV LMove.val
  have HB : Hid (∀ o1 o2 : Obj, Below w.heap.size w ((w.alloc o1).alloc o2)) := fun o1 o2 => ((Below.refl _ _).alloc (Nat.le_refl _) _).alloc (by simp) _
  obtain ⟨k, hk⟩ : ∃ k, k = m.cst := ⟨_, rfl⟩
  rw [← hk]
  have HK : Hid (m.cst = k) := hk.symm
  clear hk
  have step : ∀ (w1 : World), Below ((w.alloc (.cells #[.int .i64 0, .int .i64 a, .int .i64 b, .int .i64 c] 99)).alloc (.cells #[.int .i64 m.dst.kind, .int .i64 m.dst.n, .int .i64 m.src.kind, .int .i64 m.src.n, .bool k, .int .u32 m.n] 143)).heap.size ((w.alloc (.cells #[.int .i64 0, .int .i64 a, .int .i64 b, .int .i64 c] 99)).alloc (.cells #[.int .i64 m.dst.kind, .int .i64 m.dst.n, .int .i64 m.src.kind, .int .i64 m.src.n, .bool k, .int .u32 m.n] 143)) w1 →
      Below w.heap.size w w1 ∧ w1.cell? ⟨w.heap.size, 0, none⟩ = some (.int .i64 0) ∧ w1.cell? ⟨w.heap.size, 1, none⟩ = some (.int .i64 a) ∧ w1.cell? ⟨w.heap.size, 2, none⟩ = some (.int .i64 b) ∧ w1.cell? ⟨w.heap.size, 3, none⟩ = some (.int .i64 c) ∧ w1.cell? ⟨w.heap.size + 1, 0, none⟩ = some (.int .i64 m.dst.kind) ∧ w1.cell? ⟨w.heap.size + 1, 1, none⟩ = some (.int .i64 m.dst.n) ∧ w1.cell? ⟨w.heap.size + 1, 2, none⟩ = some (.int .i64 m.src.kind) ∧ w1.cell? ⟨w.heap.size + 1, 3, none⟩ = some (.int .i64 m.src.n) := by
    intro w1 hb1
    exact ⟨over_alloc (over_alloc hb1), step_cell hb1 (by simp [go_sem]), step_cell hb1 (by simp [go_sem]), step_cell hb1 (by simp [go_sem]), step_cell hb1 (by simp [go_sem]), step_cell hb1 (by simp [go_sem]), step_cell hb1 (by simp [go_sem]), step_cell hb1 (by simp [go_sem]), step_cell hb1 (by simp [go_sem])⟩
  have HS : Hid _ := step
  clear step
  cases k
  · have HE : Hid (moveO a b c m = ((m.n == 0) && hasB a b c m.dst && hasB a b c m.src && kindsB m.dst.kind m.src.kind)) := by show moveO a b c m = _; unfold moveO; rw [HK.out]; rfl
    rcases Bool.eq_false_or_eq_true (m.n == 0) with e1 | e1
    · cases hd : hasB a b c m.dst
      · have HE2 : Hid (moveO a b c m = false) := by show moveO a b c m = _; rw [HE.out, hd]; simp
        go_enter Try.func123, Try.ntmps123
        go_wp2_with (go_at_call 125; refine (roomHas a b c m.dst _).mono ?_; rw [hd]; rintro e w1 ⟨rfl, hb1⟩)
        go_ret
        exact ⟨ret_bool HE2.out.symm, over_alloc (over_alloc hb1)⟩
      · cases hq : hasB a b c m.src
        · have HE2 : Hid (moveO a b c m = false) := by show moveO a b c m = _; rw [HE.out, hq]; simp
          go_enter Try.func123, Try.ntmps123
          go_wp2_with fail
          go_at_call 125
          refine (roomHas a b c m.dst _).mono ?_
          rw [hd]
          rintro e w1 ⟨rfl, hb1⟩
          obtain ⟨hbel, r0, r1, r2, r3, t0, t1, t2, t3⟩ := HS.out w1 hb1
          clear hb1
          go_wp2_with (go_at_call 125; refine (roomHas a b c m.src _).mono ?_; rw [hq]; rintro e w2 ⟨rfl, hb2⟩)
          go_ret
          exact ⟨ret_bool HE2.out.symm, step_below hb2 hbel⟩
        · have HE2 : Hid (moveO a b c m = kindsB m.dst.kind m.src.kind) := by show moveO a b c m = _; rw [HE.out, hq, hd, e1]; simp
          go_enter Try.func123, Try.ntmps123
          go_wp2_with fail
          go_at_call 125
          refine (roomHas a b c m.dst _).mono ?_
          rw [hd]
          rintro e w1 ⟨rfl, hb1⟩
          obtain ⟨hbel, r0, r1, r2, r3, t0, t1, t2, t3⟩ := HS.out w1 hb1
          clear hb1
          go_wp2_with (first | (go_at_call 125; refine (roomHas a b c m.src _).mono ?_; rw [hq]; rintro e w2 ⟨rfl, hb2⟩; have v0 := step_cell hb2 t0; have v2 := step_cell hb2 t2) | (go_at_call 126; refine (kindsMay _ _ _).mono ?_; rintro e w3 ⟨rfl, hw3⟩; obtain rfl := hw3.symm))
          go_ret
          exact ⟨ret_bool HE2.out.symm, step_below hb2 hbel⟩
    · have HE2 : Hid (moveO a b c m = false) := by show moveO a b c m = _; rw [HE.out, e1]; rfl
      go_enter Try.func123, Try.ntmps123
      go_wp2
      go_ret
      exact ⟨ret_bool HE2.out.symm, HB.out _ _⟩
  · have HE : Hid (moveO a b c m = (emptyB m.src && holdB a b c m.dst false)) := by show moveO a b c m = _; unfold moveO; rw [HK.out]; rfl
    cases he : emptyB m.src
    · have HE2 : Hid (moveO a b c m = false) := by show moveO a b c m = _; rw [HE.out, he]; rfl
      go_enter Try.func123, Try.ntmps123
      go_wp2_with (go_at_call 122; refine (isEmpty m.src _).mono ?_; rw [he]; rintro e w1 ⟨rfl, hb1⟩)
      go_ret
      exact ⟨ret_bool HE2.out.symm, over_alloc (over_alloc hb1)⟩
    · have HE2 : Hid (moveO a b c m = holdB a b c m.dst false) := by show moveO a b c m = _; rw [HE.out, he]; rfl
      go_enter Try.func123, Try.ntmps123
      go_wp2_with (first | (go_at_call 122; refine (isEmpty m.src _).mono ?_; rw [he]; rintro e w1 ⟨rfl, hb1⟩; obtain ⟨hbel, r0, r1, r2, r3, t0, t1, t2, t3⟩ := HS.out w1 hb1; clear hb1) | (go_at_call 121; refine (holds a b c m.dst false _).mono ?_; rintro e w2 ⟨rfl, hb2⟩))
      go_ret
      exact ⟨ret_bool HE2.out.symm, step_below hb2 hbel⟩

def movesO (a b c : Int) (l : List LMove) (most : Int) : Bool := decide ((l.length : Int) ≤ most) && l.all (moveO a b c)

set_option maxRecDepth 100000 in
set_option maxHeartbeats 1000000 in
theorem movesMay (a b c : Int) (v : Value) (l : List LMove) (most : Int) (hm : most ≤ 6) (w : World) (h : MovesIs w v l) : Calls Try.prog 97 #[roomV a b c, v, .int .i64 most] w fun e w' => e = .returned (.bool (movesO a b c l most)) ∧ Below w.heap.size w w' := by
  obtain ⟨ao, cap, rfl, hl, hc⟩ := h
  have HC : Hid _ := hc
  clear hc
  unfold roomV
  by_cases h6 : (l.length : Int) ≤ most
  case neg =>
    have HN : Hid (movesO a b c l most = false) := by show movesO a b c l most = false; simp [movesO, h6]
    go_enter Try.func97, Try.ntmps97
    go_wp2
    go_ret
    exact ⟨ret_bool HN.out.symm, (Below.refl _ _).alloc (Nat.le_refl _) _⟩
  have hg : (l.length : Int) ≤ 6 := by omega
  go_enter Try.func97, Try.ntmps97
  go_wp2
  go_loopw [15] (fun i wr => ∃ k : Nat, k ≤ l.length ∧ i = .int .i64 k ∧ Below w.heap.size w wr ∧ w.heap.size < wr.heap.size ∧ wr.cell? ⟨w.heap.size, 0, none⟩ = some (.int .i64 0) ∧ wr.cell? ⟨w.heap.size, 1, none⟩ = some (.int .i64 a) ∧ wr.cell? ⟨w.heap.size, 2, none⟩ = some (.int .i64 b) ∧ wr.cell? ⟨w.heap.size, 3, none⟩ = some (.int .i64 c) ∧ (∀ j, j < k → moveO a b c (l.getD j .zero) = true)) (fun i _ => l.length - (intOf i).toNat)
  case atStart => exact ⟨0, by omega, rfl, (Below.refl _ _).alloc (Nat.le_refl _) _, by simp, by simp [go_sem], by simp [go_sem], by simp [go_sem], by simp [go_sem], fun j hj => absurd hj (by omega)⟩
  case round =>
    obtain ⟨k, hk, rfl, hbel, hsz, r0, r1, r2, r3, hall⟩ := hrel
    have F : Hid _ := hall
    clear hall
    by_cases hlt : k < l.length
    · obtain ⟨b9, o, rfl, hbl, hcell⟩ := HC.out (by omega)
      obtain ⟨d0, d1, d2, d3, d4, d5⟩ := hcell k hlt
      have d0 := step_cell hbel d0
      have d1 := step_cell hbel d1
      have d2 := step_cell hbel d2
      have d3 := step_cell hbel d3
      have d4 := step_cell hbel d4
      have d5 := step_cell hbel d5
      obtain ⟨m, hi⟩ : ∃ m, m = l.getD k .zero := ⟨_, rfl⟩
      rw [← hi] at d0 d1 d2 d3 d4 d5
      have HI : Hid (m = l.getD k .zero) := hi
      clear hi hcell
      have y1 : (0 : Int) ≤ (k : Int) := by omega
      have y2 : (k : Int) < (l.length : Int) := by omega
      have hbl2 : b9 < wr.heap.size := by have := hbel.size; omega
      go_wp2_with (go_at_call 123; refine (moveMay a b c m _).mono ?_; rintro e w1 ⟨rfl, hb1⟩)
      all_goals
        have hb2 := over_alloc hb1
        have hbel1 := step_below hb2 hbel
      · go_ret
        refine ⟨ret_bool ?_, hbel1⟩
        have hf : moveO a b c m = false := by simp_all
        unfold movesO
        rw [eq_comm, Bool.and_eq_false_iff]
        right
        rw [List.all_eq_false]
        refine ⟨m, ?_, by simp [hf]⟩
        rw [HI.out]
        simp [List.getD, hlt]
      · refine ⟨⟨k + 1, by omega, by go_num, hbel1, Nat.lt_of_lt_of_le hsz hb2.size, step_cell hb2 r0, step_cell hb2 r1, step_cell hb2 r2, step_cell hb2 r3, ?_⟩, by simp [intOf]; omega⟩
        intro j hj
        by_cases hjk : j < k
        · exact F.out j hjk
        · obtain rfl : j = k := by omega
          rw [← HI.out]
          simp_all
    · go_wp2
      go_ret
      refine ⟨ret_bool ?_, hbel⟩
      unfold movesO
      rw [eq_comm, Bool.and_eq_true]
      refine ⟨by simp [h6], ?_⟩
      rw [List.all_eq_true]
      intro x hx
      obtain ⟨j, hj, rfl⟩ := List.getElem_of_mem hx
      have := F.out j (by omega)
      simpa [List.getD, hj] using this

end Go.Proofs.Ytdbjklngnloibaa.form

/- A search along the ways of a program, on plain numbers: what it has come to, and what it has done with. -/
namespace Go.Proofs.Ytdbjklngnloibaa.form
open Go.RowKit
set_option linter.unusedVariables false

structure Srch (C : List LIns) (t : Int) (s : Nat) (come : List Bool) (way : List Nat) (k : Nat) : Prop where
  clen : come.length = C.length
  mark : ∀ x, x < C.length → (come.getD x false = true ↔ x ∈ way)
  inb : ∀ x, x ∈ way → x < C.length
  cnt : way.length = come.count true
  st : s ∈ way
  back : ∀ x, x ∈ way → Need C t x → Need C t s
  done : ∀ j, j < k → takesI (C.getD (way.getD j 0) .zero) t = false ∧ (givesT (C.getD (way.getD j 0) .zero) t = true ∨ ∀ y, y ∈ nextsN (C.getD (way.getD j 0) .zero) (way.getD j 0) → y < C.length → y ∈ way)

theorem Srch.len {C : List LIns} {t : Int} {s : Nat} {come : List Bool} {way : List Nat} {k : Nat} (h : Srch C t s come way k) : way.length ≤ C.length := by
  rw [h.cnt, ← h.clen]; exact List.count_le_length

theorem count_mark (l : List Bool) (y : Nat) (hy : y < l.length) (h : l.getD y false = false) : (l.set y true).count true = l.count true + 1 := by
  have e : l[y] = false := by simpa [List.getD, hy] using h
  rw [List.count_set hy]
  simp [e]

theorem srch_start (C : List LIns) (t : Int) (s : Nat) (hs : s < C.length) : Srch C t s ((List.replicate C.length false).set s true) [s] 0 := by
  refine ⟨by simp, fun x hx => ?_, fun x hx => ?_, ?_, by simp, fun x hx h => ?_, fun j hj => absurd hj (by omega)⟩
  · by_cases e : s = x
    · subst e; simp [List.getD, hx]
    · have : ¬ x = s := fun h => e h.symm
      simp [List.getD, hx, e, this]
  · simp at hx; omega
  · rw [count_mark _ _ (by simpa using hs) (by simp [List.getD, hs])]
    simp [List.count_replicate]
  · simp at hx; subst hx; exact h

theorem getD_append_left {l r : List Nat} {j : Nat} (h : j < l.length) : (l ++ r).getD j 0 = l.getD j 0 := by simp [List.getD, List.getElem?_append_left h]

/-- One more is come to. -/
theorem Srch.push {C : List LIns} {t : Int} {s : Nat} {come : List Bool} {way : List Nat} {k x y : Nat} (h : Srch C t s come way k) (hk : k ≤ way.length) (hx : x ∈ way) (hg : givesT (C.getD x .zero) t = false) (hy : y ∈ nextsN (C.getD x .zero) x) (hyl : y < C.length) (hc : come.getD y false = false) :
    Srch C t s (come.set y true) (way ++ [y]) k := by
  have hyc : y < come.length := by rw [h.clen]; exact hyl
  refine ⟨by simp [h.clen], fun z hz => ?_, fun z hz => ?_, ?_, by simp [h.st], fun z hz hn => ?_, fun j hj => ?_⟩
  · by_cases e : y = z
    · subst e; simp [List.getD, hyc]
    · have e' : ¬ z = y := fun h => e h.symm
      have := h.mark z hz
      have e3 : (come.set y true).getD z false = come.getD z false := by simp [List.getD, e]
      rw [e3, this]
      simp [e']
  · rcases List.mem_append.1 hz with hz | hz
    · exact h.inb z hz
    · simp at hz; omega
  · rw [count_mark _ _ hyc hc, ← h.cnt]; simp
  · rcases List.mem_append.1 hz with hz | hz
    · exact h.back z hz hn
    · simp at hz
      subst hz
      exact h.back x hx ((need_iff C t x).2 ⟨h.inb x hx, Or.inr ⟨hg, _, hy, hn⟩⟩)
  · rw [getD_append_left (by omega)]
    obtain ⟨h1, h2⟩ := h.done j hj
    exact ⟨h1, h2.imp id (fun h3 y hy hyl => List.mem_append.2 (Or.inl (h3 y hy hyl)))⟩

/-- An instruction is done with. -/
theorem Srch.next {C : List LIns} {t : Int} {s : Nat} {come : List Bool} {way : List Nat} {k : Nat} (h : Srch C t s come way k) (ht : takesI (C.getD (way.getD k 0) .zero) t = false)
    (hg : givesT (C.getD (way.getD k 0) .zero) t = true ∨ ∀ y, y ∈ nextsN (C.getD (way.getD k 0) .zero) (way.getD k 0) → y < C.length → y ∈ way) : Srch C t s come way (k + 1) := by
  refine ⟨h.clen, h.mark, h.inb, h.cnt, h.st, h.back, fun j hj => ?_⟩
  by_cases e : j = k
  · subst e; exact ⟨ht, hg⟩
  · exact h.done j (by omega)

/-- It has found one. -/
theorem Srch.found {C : List LIns} {t : Int} {s : Nat} {come : List Bool} {way : List Nat} {k : Nat} (h : Srch C t s come way k) (hk : k < way.length) (ht : takesI (C.getD (way.getD k 0) .zero) t = true) : Need C t s := by
  have hm : way.getD k 0 ∈ way := by simp [List.getD, hk]
  exact h.back _ hm ((need_iff C t _).2 ⟨h.inb _ hm, Or.inl ht⟩)

/-- It has found none. -/
theorem Srch.none {C : List LIns} {t : Int} {s : Nat} {come : List Bool} {way : List Nat} {k : Nat} (h : Srch C t s come way k) (hk : way.length ≤ k) : ¬ Need C t s := by
  refine need_none C t (fun x => x ∈ way) (fun x hx => ?_) s h.st
  obtain ⟨j, hj, rfl⟩ := List.getElem_of_mem hx
  have := h.done j (by omega)
  rwa [show way.getD j 0 = way[j] by simp [List.getD, hj]] at this

end Go.Proofs.Ytdbjklngnloibaa.form

/- Where an instruction goes on (loanbookref2.Nexts). -/
namespace Go.Proofs.Ytdbjklngnloibaa.form
open Go.RowKit
set_option linter.unusedVariables false
attribute [local go_sem ↓] Go.wp_at_zero Go.wp_at_succ

/-- A row of numbers in new memory. -/
def IntsAt (lo : Nat) (w : World) (v : Value) (l : List Int) : Prop :=
  ∃ ao cap, v = .slice ao l.length cap ∧ (0 < l.length → ∃ b, ao = some ⟨b, 0, none⟩ ∧ lo ≤ b ∧ b < w.heap.size ∧ ∀ j, j < l.length → w.cell? ⟨b, j, none⟩ = some (.int .i64 (l.getD j 0)))

theorem ints_one {lo : Nat} {w : World} {b : Nat} {x : Int} {cap : Nat} (hlo : lo ≤ b) (h : w.cell? ⟨b, 0, none⟩ = some (.int .i64 x)) : IntsAt lo w (.slice (some ⟨b, 0, none⟩) 1 cap) [x] :=
  ⟨_, _, rfl, fun _ => ⟨b, rfl, hlo, World.block_lt_of_cell? w _ h, fun j hj => by
    obtain rfl : j = 0 := by simp at hj; omega
    simpa using h⟩⟩
theorem ints_two {lo : Nat} {w : World} {b : Nat} {x y : Int} {cap : Nat} (hlo : lo ≤ b) (h : w.cell? ⟨b, 0, none⟩ = some (.int .i64 x)) (g : w.cell? ⟨b, 1, none⟩ = some (.int .i64 y)) : IntsAt lo w (.slice (some ⟨b, 0, none⟩) 2 cap) [x, y] :=
  ⟨_, _, rfl, fun _ => ⟨b, rfl, hlo, World.block_lt_of_cell? w _ h, fun j hj => by
    rcases (show j = 0 ∨ j = 1 by simp at hj; omega) with rfl | rfl
    · simpa using h
    · simpa using g⟩⟩

theorem nexts2 (i : LIns) (pc : Nat) (hpc : pc ≤ 40) (w : World) :
    Calls Try.prog 92 #[i.val, .int .i64 pc] w fun e w' => (∃ v, e = .returned v ∧ IntsAt w.heap.size w' v (nextsI i pc)) ∧ Below w.heap.size w w' := by
  unfold LIns.val
  have y1 : (pc : Int) ≤ 40 := by omega
  have y0 : (0 : Int) ≤ (pc : Int) := by omega
  have HB2 : Hid (∀ o1 o2 : Obj, Below w.heap.size w ((w.alloc o1).alloc o2)) := fun o1 o2 => ((Below.refl _ _).alloc (Nat.le_refl _) _).alloc (by simp) _
  go_enter Try.func92, Try.ntmps92
  go_wp2
  all_goals go_ret
  · refine ⟨⟨.slice (some ⟨w.heap.size + 1, 0, none⟩) 1 1, rfl, ?_⟩, HB2.out _ _⟩
    rw [show nextsI i pc = [i.c] by unfold nextsI; simp_all]
    exact ints_one (by omega) (by simp [go_sem])
  · refine ⟨⟨.slice none 0 0, rfl, ?_⟩, (Below.refl _ _).alloc (Nat.le_refl _) _⟩
    rw [show nextsI i pc = [] by unfold nextsI; simp_all]
    exact ⟨none, 0, rfl, fun hh => absurd hh (by simp)⟩
  · refine ⟨⟨.slice (some ⟨w.heap.size + 1, 0, none⟩) 2 2, rfl, ?_⟩, HB2.out _ _⟩
    rw [show nextsI i pc = [(pc : Int) + 1, i.c] by unfold nextsI; simp_all]
    exact ints_two (by omega) (by simp [go_sem]) (by simp [go_sem])
  · refine ⟨⟨.slice (some ⟨w.heap.size + 1, 0, none⟩) 1 1, rfl, ?_⟩, HB2.out _ _⟩
    rw [show nextsI i pc = [(pc : Int) + 1] by unfold nextsI; simp_all]
    exact ints_one (by omega) (by simp [go_sem])

theorem takes_of (i : LIns) (m : Nat) (hm : manyI i.op = m) (hm2 : m ≤ 2) (t : Int) : takesI i t = (decide (0 < m) && (i.a == t) || decide (1 < m) && (i.b == t)) := by
  unfold takesI usesI
  rw [hm]
  rcases (show m = 0 ∨ m = 1 ∨ m = 2 by omega) with rfl | rfl | rfl
  · simp
  · rw [Bool.eq_iff_iff]; simp; omega
  · rw [Bool.eq_iff_iff]; simp; omega

end Go.Proofs.Ytdbjklngnloibaa.form
