/- What the program's own function on a row of places (place.room.rowMay) answers, and that it is the document's. -/
import Derived.Deep.RegionHeld3
import Derived.Deep.DrawnRows
import Derived.Test.YtcmnmogmdhofcabGreatE15
import Derived.Test.YtcmnmogmdhofcabGreatE12
import Derived.Test.YtcmnmogmdhofcabGreatE01

namespace Go.Proofs.YtcmnmogmdhofcabGreat.form
open Go.RowKit
set_option linter.unusedVariables false
attribute [local go_sem ↓] Go.wp_at_zero Go.wp_at_succ

def rowO (B : List Bool) (a b c : Int) (i : LIns) (r : LRow) : Bool := fieldsO B a b c i r && movesO a b c r.before 6 && movesO a b c r.after (mostI i.op)
theorem most_le (op : Int) : mostI op ≤ 6 := by unfold mostI; split <;> omega

theorem has_is {s slots : Int} (h : targetB s = true) (p : LPlace) : hasB s (s / 2) slots p = isB s slots p := by
  have hs : s = 4 ∨ s = 6 ∨ s = 8 ∨ s = 10 ∨ s = 12 ∨ s = 14 ∨ s = 16 := by unfold targetB at h; simp at h; omega
  unfold hasB isB
  split
  · rfl
  · split
    · rw [Bool.eq_iff_iff]; simp; omega
    · rfl
theorem hold_reg {B : List Bool} {s slots : Int} (h : targetB s = true) (p : LPlace) (t : Int) : holdB s (s / 2) slots p (B.getD t.toNat false) = regB B s t p := by
  unfold holdB regB
  rw [has_is h]
  cases B.getD t.toNat false
  · simp only [Bool.false_eq_true, if_false]
    by_cases e : p.kind = 1
    · unfold isB; simp [e]
    · rw [show (p.kind == 1) = false by simpa using e]; rfl
  · simp only [if_true]
    by_cases e : p.kind = 2
    · unfold isB; simp [e]
    · rw [show (p.kind == 2) = false by simpa using e]; rfl
theorem field_same {B : List Bool} {s slots : Int} (h : targetB s = true) (x : Bool) (t : Int) (p : LPlace) : fieldO B s (s / 2) slots x t p = fieldP B s x t p := by
  unfold fieldO fieldP
  cases x
  · simp only [Bool.false_eq_true, if_false, emptyB]; cases h1 : (p.kind == 0) <;> cases h2 : (p.n == 0) <;> simp_all
  · simp only [if_true]; exact hold_reg h p t
theorem fields_same {B : List Bool} {s slots : Int} (h : targetB s = true) (i : LIns) (r : LRow) : fieldsO B s (s / 2) slots i r = (fieldP B s (givesB i.op) i.dest r.dest && fieldP B s (decide (0 < manyI i.op)) i.a r.a && fieldP B s (decide (1 < manyI i.op)) i.b r.b) := by
  unfold fieldsO
  simp only [field_same h]
  rw [show List.range 3 = [0, 1, 2] by decide]
  simp only [List.all_cons, List.all_nil, Bool.and_true, Bool.and_assoc]
  rfl
theorem move_same {s slots : Int} (h : targetB s = true) (m : LMove) : moveO s (s / 2) slots m = moveB s slots m := by
  unfold moveO moveB holdB emptyB
  rw [has_is h, has_is h]
  have hk : kindsB m.dst.kind m.src.kind = (if m.dst.kind == 3 then m.src.kind != 3 else (m.src.kind == 3) || (m.src.kind == m.dst.kind)) := by
    unfold kindsB
    rw [Bool.eq_iff_iff]
    split <;> split <;> simp_all <;> omega
  rw [hk]
  cases m.cst <;> simp only [Bool.false_eq_true, if_false, if_true] <;> cases isB s slots m.dst <;> cases isB s slots m.src <;> cases (m.n == 0) <;> simp
theorem moves_same {s slots : Int} (h : targetB s = true) (l : List LMove) (most : Int) : movesO s (s / 2) slots l most = (decide ((l.length : Int) ≤ most) && l.all (moveB s slots)) := by
  unfold movesO
  rw [show moveO s (s / 2) slots = moveB s slots from funext (move_same h)]
theorem row_same {B : List Bool} {s slots : Int} (h : targetB s = true) (i : LIns) (r : LRow) : rowO B s (s / 2) slots i r = rowB B s slots i r := by
  unfold rowO rowB
  rw [fields_same h, moves_same h, moves_same h]
  unfold movesB mostI
  generalize (fieldP B s (givesB i.op) i.dest r.dest && fieldP B s (decide (0 < manyI i.op)) i.a r.a && fieldP B s (decide (1 < manyI i.op)) i.b r.b) = x
  generalize r.before.all (moveB s slots) = y
  generalize r.after.all (moveB s slots) = z
  rw [show decide ((r.before.length : Int) ≤ 6) = decide (r.before.length ≤ 6) by rw [Bool.eq_iff_iff]; simp; omega]
  generalize decide (r.before.length ≤ 6) = u
  by_cases e : i.op = 8 ∨ i.op = 9 ∨ i.op = 10
  · rw [if_pos e, show ((i.op == 8 || i.op == 9 || i.op == 10)) = true by simpa [or_assoc] using e]
    by_cases e0 : r.after.length = 0
    · simp [e0, Bool.and_assoc]
    · have e1 : 0 < r.after.length := by omega
      have e2 : ¬ (r.after.length : Int) ≤ 0 := by omega
      rw [decide_eq_false e2, decide_eq_true e1]
      simp
  · rw [if_neg e, show ((i.op == 8 || i.op == 9 || i.op == 10)) = false by simpa [or_assoc, and_assoc] using e]
    rw [show decide ((r.after.length : Int) ≤ 6) = decide (r.after.length ≤ 6) by rw [Bool.eq_iff_iff]; simp; omega]
    simp [Bool.and_assoc]

set_option maxRecDepth 100000 in
set_option maxHeartbeats 8000000 in
theorem rowMay (b0 o0 c0 b1 o1 c1 : Nat) (B : List Bool) (C : List LIns) (a b c : Int) (i : LIns) (r : LRow) (ab : Option Addr) (cb : Nat) (aa : Option Addr) (ca : Nat) (w : World) (hB : B.length ≤ 12) (h : Held w b0 o0 b1 o1 B C)
    (hk : knownB i.op = true) (hf : ∀ j, j < 3 → tjF i j = true → 0 ≤ fjF i j ∧ fjF i j < B.length) (hmb : MovesIs w (.slice ab r.before.length cb) r.before) (hma : MovesIs w (.slice aa r.after.length ca) r.after) :
    Calls Tryz.prog 38 #[roomV a b c, progV b0 o0 B.length c0 b1 o1 C.length c1, i.val, rowV r ab cb aa ca] w fun e w' => e = .returned (.bool (rowO B a b c i r)) ∧ Below w.heap.size w w' := by
  have HF : Hid (∀ j, j < 3 → tjF i j = true → 0 ≤ fjF i j ∧ fjF i j < B.length) := hf
  have HK : Hid (knownB i.op = true) := hk
  have HH : Hid (Held w b0 o0 b1 o1 B C) := h
  have HMB : Hid (MovesIs w (.slice ab r.before.length cb) r.before) := hmb
  have HMA : Hid (MovesIs w (.slice aa r.after.length ca) r.after) := hma
  have HR : Hid (rowO B a b c i r = (fieldsO B a b c i r && movesO a b c r.before 6 && movesO a b c r.after (mostI i.op))) := rfl
  clear hf hk h hmb hma
  unfold roomV progV LIns.val rowV
  go_enter Tryz.func38, Tryz.ntmps38
  go_upto_region 1 with fail
  obtain ⟨wx, hwx⟩ : ∃ wx, wx = (((w.alloc (.cells #[.int .i64 0, .int .i64 a, .int .i64 b, .int .i64 c] 94)).alloc (.cells #[.slice (some ⟨b0, o0, none⟩) B.length c0, .slice (some ⟨b1, o1, none⟩) C.length c1] 25)).alloc (.cells #[.int .i64 i.op, .int .i64 i.dest, .int .i64 i.a, .int .i64 i.b, .int .i64 i.c, .int .u32 i.n] 35)).alloc (.cells #[.int .i64 r.dest.kind, .int .i64 r.dest.n, .int .i64 r.a.kind, .int .i64 r.a.n, .int .i64 r.b.kind, .int .i64 r.b.n, .slice ab r.before.length cb, .slice aa r.after.length ca] 40) := ⟨_, rfl⟩
  rw [← hwx]
  have HWX : Hid (Below w.heap.size w wx) := by rw [hwx]; exact ((((Below.refl _ _).alloc (Nat.le_refl _) _).alloc (by simp) _).alloc (by simp; omega) _).alloc (by simp; omega) _
  have x0 : wx.cell? ⟨w.heap.size, 0, none⟩ = some (.int .i64 0) := by rw [hwx]; simp [go_sem]
  have x1 : wx.cell? ⟨w.heap.size, 1, none⟩ = some (.int .i64 a) := by rw [hwx]; simp [go_sem]
  have x2 : wx.cell? ⟨w.heap.size, 2, none⟩ = some (.int .i64 b) := by rw [hwx]; simp [go_sem]
  have x3 : wx.cell? ⟨w.heap.size, 3, none⟩ = some (.int .i64 c) := by rw [hwx]; simp [go_sem]
  have x4 : wx.cell? ⟨w.heap.size + 1, 0, none⟩ = some (.slice (some ⟨b0, o0, none⟩) B.length c0) := by rw [hwx]; simp [go_sem]
  have x5 : wx.cell? ⟨w.heap.size + 1, 1, none⟩ = some (.slice (some ⟨b1, o1, none⟩) C.length c1) := by rw [hwx]; simp [go_sem]
  have x6 : wx.cell? ⟨w.heap.size + 1 + 1, 0, none⟩ = some (.int .i64 i.op) := by rw [hwx]; simp [go_sem]
  have x7 : wx.cell? ⟨w.heap.size + 1 + 1, 1, none⟩ = some (.int .i64 i.dest) := by rw [hwx]; simp [go_sem]
  have x8 : wx.cell? ⟨w.heap.size + 1 + 1, 2, none⟩ = some (.int .i64 i.a) := by rw [hwx]; simp [go_sem]
  have x9 : wx.cell? ⟨w.heap.size + 1 + 1, 3, none⟩ = some (.int .i64 i.b) := by rw [hwx]; simp [go_sem]
  have x10 : wx.cell? ⟨w.heap.size + 1 + 1, 4, none⟩ = some (.int .i64 i.c) := by rw [hwx]; simp [go_sem]
  have x11 : wx.cell? ⟨w.heap.size + 1 + 1, 5, none⟩ = some (.int .u32 i.n) := by rw [hwx]; simp [go_sem]
  have x12 : wx.cell? ⟨w.heap.size + 1 + 1 + 1, 0, none⟩ = some (.int .i64 r.dest.kind) := by rw [hwx]; simp [go_sem]
  have x13 : wx.cell? ⟨w.heap.size + 1 + 1 + 1, 1, none⟩ = some (.int .i64 r.dest.n) := by rw [hwx]; simp [go_sem]
  have x14 : wx.cell? ⟨w.heap.size + 1 + 1 + 1, 2, none⟩ = some (.int .i64 r.a.kind) := by rw [hwx]; simp [go_sem]
  have x15 : wx.cell? ⟨w.heap.size + 1 + 1 + 1, 3, none⟩ = some (.int .i64 r.a.n) := by rw [hwx]; simp [go_sem]
  have x16 : wx.cell? ⟨w.heap.size + 1 + 1 + 1, 4, none⟩ = some (.int .i64 r.b.kind) := by rw [hwx]; simp [go_sem]
  have x17 : wx.cell? ⟨w.heap.size + 1 + 1 + 1, 5, none⟩ = some (.int .i64 r.b.n) := by rw [hwx]; simp [go_sem]
  have x18 : wx.cell? ⟨w.heap.size + 1 + 1 + 1, 6, none⟩ = some (.slice ab r.before.length cb) := by rw [hwx]; simp [go_sem]
  have x19 : wx.cell? ⟨w.heap.size + 1 + 1 + 1, 7, none⟩ = some (.slice aa r.after.length ca) := by rw [hwx]; simp [go_sem]
  clear hwx
  cases hf1 : fieldsO B a b c i r
  · skip
    refine wp_region_held_drew (S := (fun w' => Below wx.heap.size wx w' ∧ w'.cell? ⟨w.heap.size, 0, none⟩ = some (.int .i64 0) ∧ w'.cell? ⟨w.heap.size, 1, none⟩ = some (.int .i64 a) ∧ w'.cell? ⟨w.heap.size, 2, none⟩ = some (.int .i64 b) ∧ w'.cell? ⟨w.heap.size, 3, none⟩ = some (.int .i64 c) ∧ w'.cell? ⟨w.heap.size + 1, 0, none⟩ = some (.slice (some ⟨b0, o0, none⟩) B.length c0) ∧ w'.cell? ⟨w.heap.size + 1, 1, none⟩ = some (.slice (some ⟨b1, o1, none⟩) C.length c1) ∧ w'.cell? ⟨w.heap.size + 1 + 1, 0, none⟩ = some (.int .i64 i.op) ∧ w'.cell? ⟨w.heap.size + 1 + 1, 1, none⟩ = some (.int .i64 i.dest) ∧ w'.cell? ⟨w.heap.size + 1 + 1, 2, none⟩ = some (.int .i64 i.a) ∧ w'.cell? ⟨w.heap.size + 1 + 1, 3, none⟩ = some (.int .i64 i.b) ∧ w'.cell? ⟨w.heap.size + 1 + 1, 4, none⟩ = some (.int .i64 i.c) ∧ w'.cell? ⟨w.heap.size + 1 + 1, 5, none⟩ = some (.int .u32 i.n) ∧ w'.cell? ⟨w.heap.size + 1 + 1 + 1, 0, none⟩ = some (.int .i64 r.dest.kind) ∧ w'.cell? ⟨w.heap.size + 1 + 1 + 1, 1, none⟩ = some (.int .i64 r.dest.n) ∧ w'.cell? ⟨w.heap.size + 1 + 1 + 1, 2, none⟩ = some (.int .i64 r.a.kind) ∧ w'.cell? ⟨w.heap.size + 1 + 1 + 1, 3, none⟩ = some (.int .i64 r.a.n) ∧ w'.cell? ⟨w.heap.size + 1 + 1 + 1, 4, none⟩ = some (.int .i64 r.b.kind) ∧ w'.cell? ⟨w.heap.size + 1 + 1 + 1, 5, none⟩ = some (.int .i64 r.b.n) ∧ w'.cell? ⟨w.heap.size + 1 + 1 + 1, 6, none⟩ = some (.slice ab r.before.length cb) ∧ w'.cell? ⟨w.heap.size + 1 + 1 + 1, 7, none⟩ = some (.slice aa r.after.length ca))) (by rfl) ?_ (fun hHeld => ?_)
    · (go_split_ands; refine ⟨?_, ?_, ?_, ?_, ?_, ?_, ?_, ?_, ?_, ?_, ?_, ?_, ?_, ?_, ?_, ?_, ?_, ?_, ?_, ?_, ?_⟩ <;> first | exact (Below.refl _ _).drew | exact ((Below.refl _ _).drew).trans hbr | exact step_below hbr (by assumption) | exact step_cell hbr (by assumption) | go_keep)
    refine wpAnyH_take (i := 0) (v := ?_) rfl (by kernel_rfl) (by kernel_rfl) (by kernel_rfl) (fun _ _ _ h => h) (Or.inl ⟨by rfl, ?_⟩) (by assumption) ?_
    case refine_2 => (intro w hSw; (try dsimp only at hSw); go_simp; first | done | (with_reducible rfl))
    show wpAnyH _ _ _ _ _ _ _ (Act.put _ (some 9) _) _
    simp only [Act.put, List.setIfInBounds_toArray, List.set_cons_zero, List.set_cons_succ]
    refine wpAnyH_take (i := 1) (v := ?_) rfl (by kernel_rfl) (by kernel_rfl) (by kernel_rfl) (fun _ _ _ h => h) (Or.inl ⟨by rfl, ?_⟩) (by assumption) ?_
    case refine_2 => (intro w hSw; (try dsimp only at hSw); go_simp; first | done | (with_reducible rfl))
    show wpAnyH _ _ _ _ _ _ _ (Act.put _ (some 10) _) _
    simp only [Act.put, List.setIfInBounds_toArray, List.set_cons_zero, List.set_cons_succ]
    refine wpAnyH_take (i := 2) (v := ?_) rfl (by kernel_rfl) (by kernel_rfl) (by kernel_rfl) (fun _ _ _ h => h) (Or.inl ⟨by rfl, ?_⟩) (by assumption) ?_
    case refine_2 => (intro w hSw; (try dsimp only at hSw); go_simp; first | done | (with_reducible rfl))
    show wpAnyH _ _ _ _ _ _ _ (Act.put _ (some 11) _) _
    simp only [Act.put, List.setIfInBounds_toArray, List.set_cons_zero, List.set_cons_succ]
    refine wpAnyH_take (i := 3) (v := ?_) rfl (by kernel_rfl) (by kernel_rfl) (by kernel_rfl) (fun _ _ _ h => h) (Or.inl ⟨by rfl, ?_⟩) (by assumption) ?_
    case refine_2 => (intro w hSw; (try dsimp only at hSw); go_simp; first | done | (with_reducible rfl))
    show wpAnyH _ _ _ _ _ _ _ (Act.put _ (some 12) _) _
    simp only [Act.put, List.setIfInBounds_toArray, List.set_cons_zero, List.set_cons_succ]
    refine wpAnyH_ready (rs := [4]) (by kernel_rfl) (by simp) ?_
    refine (AllReadyH.cons rfl (fun K hK => ?_) AllReadyH.nil)
    go_simp
    go_at_call 62
    refine (fieldsMay b0 o0 c0 b1 o1 c1 B C a b c i r ab cb aa ca _ hB (HH.out.later (step_below hHeld.1 HWX.out)) HK.out HF.out).mono ?_
    rw [hf1]
    rintro e w1 ⟨rfl, hbr⟩
    go_wp2_with fail
    refine hK.out _ _ ?_ (fun hHeld => ?_)
    · (exact ⟨step_below hbr hHeld.1, step_cell hbr hHeld.2.1, step_cell hbr hHeld.2.2.1, step_cell hbr hHeld.2.2.2.1, step_cell hbr hHeld.2.2.2.2.1, step_cell hbr hHeld.2.2.2.2.2.1, step_cell hbr hHeld.2.2.2.2.2.2.1, step_cell hbr hHeld.2.2.2.2.2.2.2.1, step_cell hbr hHeld.2.2.2.2.2.2.2.2.1, step_cell hbr hHeld.2.2.2.2.2.2.2.2.2.1, step_cell hbr hHeld.2.2.2.2.2.2.2.2.2.2.1, step_cell hbr hHeld.2.2.2.2.2.2.2.2.2.2.2.1, step_cell hbr hHeld.2.2.2.2.2.2.2.2.2.2.2.2.1, step_cell hbr hHeld.2.2.2.2.2.2.2.2.2.2.2.2.2.1, step_cell hbr hHeld.2.2.2.2.2.2.2.2.2.2.2.2.2.2.1, step_cell hbr hHeld.2.2.2.2.2.2.2.2.2.2.2.2.2.2.2.1, step_cell hbr hHeld.2.2.2.2.2.2.2.2.2.2.2.2.2.2.2.2.1, step_cell hbr hHeld.2.2.2.2.2.2.2.2.2.2.2.2.2.2.2.2.2.1, step_cell hbr hHeld.2.2.2.2.2.2.2.2.2.2.2.2.2.2.2.2.2.2.1, step_cell hbr hHeld.2.2.2.2.2.2.2.2.2.2.2.2.2.2.2.2.2.2.2.1, step_cell hbr hHeld.2.2.2.2.2.2.2.2.2.2.2.2.2.2.2.2.2.2.2.2⟩)
    clear hK K
    try simp only [Act.put, List.setIfInBounds_toArray, List.set_cons_zero, List.set_cons_succ]
    refine wpAnyH_take (i := 5) (v := ?_) rfl (by kernel_rfl) (by kernel_rfl) (by kernel_rfl) (fun _ _ _ h => h) (Or.inl ⟨by rfl, ?_⟩) (by assumption) ?_
    case refine_2 => (intro w hSw; (try dsimp only at hSw); go_simp; first | done | (with_reducible rfl))
    show wpAnyH _ _ _ _ _ _ _ (Act.put _ (some 14) _) _
    simp only [Act.put, List.setIfInBounds_toArray, List.set_cons_zero, List.set_cons_succ]
    refine wpAnyH_take (i := 6) (v := undef) rfl (by kernel_rfl) (by kernel_rfl) (by kernel_rfl) (fun _ _ _ h => h) (Or.inr ⟨by rfl, rfl⟩) (by assumption) ?_
    show wpAnyH _ _ _ _ _ _ _ (Act.put _ (some 15) _) _
    simp only [Act.put, List.setIfInBounds_toArray, List.set_cons_zero, List.set_cons_succ]
    refine wpAnyH_take (i := 7) (v := undef) rfl (by kernel_rfl) (by kernel_rfl) (by kernel_rfl) (fun _ _ _ h => h) (Or.inr ⟨by rfl, rfl⟩) (by assumption) ?_
    show wpAnyH _ _ _ _ _ _ _ (Act.put _ (some 16) _) _
    simp only [Act.put, List.setIfInBounds_toArray, List.set_cons_zero, List.set_cons_succ]
    refine wpAnyH_take (i := 8) (v := undef) rfl (by kernel_rfl) (by kernel_rfl) (by kernel_rfl) (fun _ _ _ h => h) (Or.inr ⟨by rfl, rfl⟩) (by assumption) ?_
    show wpAnyH _ _ _ _ _ _ _ (Act.put _ (some 17) _) _
    simp only [Act.put, List.setIfInBounds_toArray, List.set_cons_zero, List.set_cons_succ]
    refine wpAnyH_take (i := 9) (v := undef) rfl (by kernel_rfl) (by kernel_rfl) (by kernel_rfl) (fun _ _ _ h => h) (Or.inr ⟨by rfl, rfl⟩) (by assumption) ?_
    show wpAnyH _ _ _ _ _ _ _ (Act.put _ (some 18) _) _
    simp only [Act.put, List.setIfInBounds_toArray, List.set_cons_zero, List.set_cons_succ]
    refine wpAnyH_take (i := 10) (v := ?_) rfl (by kernel_rfl) (by kernel_rfl) (by kernel_rfl) (fun _ _ _ h => h) (Or.inl ⟨by rfl, ?_⟩) (by assumption) ?_
    case refine_2 => (intro w hSw; (try dsimp only at hSw); go_simp; first | done | (with_reducible rfl))
    show wpAnyH _ _ _ _ _ _ _ (Act.put _ (some 19) _) _
    simp only [Act.put, List.setIfInBounds_toArray, List.set_cons_zero, List.set_cons_succ]
    refine wpAnyH_take (i := 11) (v := ?_) rfl (by kernel_rfl) (by kernel_rfl) (by kernel_rfl) (fun _ _ _ h => h) (Or.inl ⟨by rfl, ?_⟩) (by assumption) ?_
    case refine_2 => (intro w hSw; (try dsimp only at hSw); go_simp; first | done | (with_reducible rfl))
    show wpAnyH _ _ _ _ _ _ _ (Act.put _ (some 20) _) _
    simp only [Act.put, List.setIfInBounds_toArray, List.set_cons_zero, List.set_cons_succ]
    refine wpAnyH_take (i := 12) (v := undef) rfl (by kernel_rfl) (by kernel_rfl) (by kernel_rfl) (fun _ _ _ h => h) (Or.inr ⟨by rfl, rfl⟩) (by assumption) ?_
    show wpAnyH _ _ _ _ _ _ _ (Act.put _ (some 21) _) _
    simp only [Act.put, List.setIfInBounds_toArray, List.set_cons_zero, List.set_cons_succ]
    refine wpAnyH_take (i := 13) (v := undef) rfl (by kernel_rfl) (by kernel_rfl) (by kernel_rfl) (fun _ _ _ h => h) (Or.inr ⟨by rfl, rfl⟩) (by assumption) ?_
    show wpAnyH _ _ _ _ _ _ _ (Act.put _ (some 22) _) _
    simp only [Act.put, List.setIfInBounds_toArray, List.set_cons_zero, List.set_cons_succ]
    refine wpAnyH_take (i := 14) (v := undef) rfl (by kernel_rfl) (by kernel_rfl) (by kernel_rfl) (fun _ _ _ h => h) (Or.inr ⟨by rfl, rfl⟩) (by assumption) ?_
    show wpAnyH _ _ _ _ _ _ _ (Act.put _ (some 23) _) _
    simp only [Act.put, List.setIfInBounds_toArray, List.set_cons_zero, List.set_cons_succ]
    refine wpAnyH_take (i := 15) (v := undef) rfl (by kernel_rfl) (by kernel_rfl) (by kernel_rfl) (fun _ _ _ h => h) (Or.inr ⟨by rfl, rfl⟩) (by assumption) ?_
    show wpAnyH _ _ _ _ _ _ _ (Act.put _ (some 24) _) _
    simp only [Act.put, List.setIfInBounds_toArray, List.set_cons_zero, List.set_cons_succ]
    refine wpAnyH_take (i := 16) (v := undef) rfl (by kernel_rfl) (by kernel_rfl) (by kernel_rfl) (fun _ _ _ h => h) (Or.inr ⟨by rfl, rfl⟩) (by assumption) ?_
    show wpAnyH _ _ _ _ _ _ _ (Act.put _ (some 25) _) _
    simp only [Act.put, List.setIfInBounds_toArray, List.set_cons_zero, List.set_cons_succ]
    refine wpAnyH_take (i := 17) (v := undef) rfl (by kernel_rfl) (by kernel_rfl) (by kernel_rfl) (fun _ _ _ h => h) (Or.inr ⟨by rfl, rfl⟩) (by assumption) ?_
    show wpAnyH _ _ _ _ _ _ _ (Act.put _ (some 26) _) _
    simp only [Act.put, List.setIfInBounds_toArray, List.set_cons_zero, List.set_cons_succ]
    refine wpAnyH_take (i := 18) (v := undef) rfl (by kernel_rfl) (by kernel_rfl) (by kernel_rfl) (fun _ _ _ h => h) (Or.inr ⟨by rfl, rfl⟩) (by assumption) ?_
    show wpAnyH _ _ _ _ _ _ _ (Act.put _ (some 27) _) _
    simp only [Act.put, List.setIfInBounds_toArray, List.set_cons_zero, List.set_cons_succ]
    refine wpAnyH_take (i := 19) (v := ?_) rfl (by kernel_rfl) (by kernel_rfl) (by kernel_rfl) (fun _ _ _ h => h) (Or.inl ⟨by rfl, ?_⟩) (by assumption) ?_
    case refine_2 => (intro w hSw; (try dsimp only at hSw); go_simp; first | done | (with_reducible rfl))
    show wpAnyH _ _ _ _ _ _ _ (Act.put _ (some 28) _) _
    simp only [Act.put, List.setIfInBounds_toArray, List.set_cons_zero, List.set_cons_succ]
    refine wpAnyH_take (i := 20) (v := ?_) rfl (by kernel_rfl) (by kernel_rfl) (by kernel_rfl) (fun _ _ _ h => h) (Or.inl ⟨by rfl, ?_⟩) (by assumption) ?_
    case refine_2 => (intro w hSw; (try dsimp only at hSw); go_simp; first | done | (with_reducible rfl))
    show wpAnyH _ _ _ _ _ _ _ (Act.put _ (some 8) _) _
    simp only [Act.put, List.setIfInBounds_toArray, List.set_cons_zero, List.set_cons_succ]
    refine wpAnyH_done (by kernel_rfl) ?_ _
    have HB9 : Hid (Below wx.heap.size wx w1) := hHeld.1
    clear hHeld hbr
    go_wp2
    go_ret
    exact ⟨ret_bool (by rw [HR.out, hf1]; rfl), step_below HB9.out HWX.out⟩
  · cases hf2 : movesO a b c r.before 6
    · skip
      refine wp_region_held_drew (S := (fun w' => Below wx.heap.size wx w' ∧ w'.cell? ⟨w.heap.size, 0, none⟩ = some (.int .i64 0) ∧ w'.cell? ⟨w.heap.size, 1, none⟩ = some (.int .i64 a) ∧ w'.cell? ⟨w.heap.size, 2, none⟩ = some (.int .i64 b) ∧ w'.cell? ⟨w.heap.size, 3, none⟩ = some (.int .i64 c) ∧ w'.cell? ⟨w.heap.size + 1, 0, none⟩ = some (.slice (some ⟨b0, o0, none⟩) B.length c0) ∧ w'.cell? ⟨w.heap.size + 1, 1, none⟩ = some (.slice (some ⟨b1, o1, none⟩) C.length c1) ∧ w'.cell? ⟨w.heap.size + 1 + 1, 0, none⟩ = some (.int .i64 i.op) ∧ w'.cell? ⟨w.heap.size + 1 + 1, 1, none⟩ = some (.int .i64 i.dest) ∧ w'.cell? ⟨w.heap.size + 1 + 1, 2, none⟩ = some (.int .i64 i.a) ∧ w'.cell? ⟨w.heap.size + 1 + 1, 3, none⟩ = some (.int .i64 i.b) ∧ w'.cell? ⟨w.heap.size + 1 + 1, 4, none⟩ = some (.int .i64 i.c) ∧ w'.cell? ⟨w.heap.size + 1 + 1, 5, none⟩ = some (.int .u32 i.n) ∧ w'.cell? ⟨w.heap.size + 1 + 1 + 1, 0, none⟩ = some (.int .i64 r.dest.kind) ∧ w'.cell? ⟨w.heap.size + 1 + 1 + 1, 1, none⟩ = some (.int .i64 r.dest.n) ∧ w'.cell? ⟨w.heap.size + 1 + 1 + 1, 2, none⟩ = some (.int .i64 r.a.kind) ∧ w'.cell? ⟨w.heap.size + 1 + 1 + 1, 3, none⟩ = some (.int .i64 r.a.n) ∧ w'.cell? ⟨w.heap.size + 1 + 1 + 1, 4, none⟩ = some (.int .i64 r.b.kind) ∧ w'.cell? ⟨w.heap.size + 1 + 1 + 1, 5, none⟩ = some (.int .i64 r.b.n) ∧ w'.cell? ⟨w.heap.size + 1 + 1 + 1, 6, none⟩ = some (.slice ab r.before.length cb) ∧ w'.cell? ⟨w.heap.size + 1 + 1 + 1, 7, none⟩ = some (.slice aa r.after.length ca))) (by rfl) ?_ (fun hHeld => ?_)
      · (go_split_ands; refine ⟨?_, ?_, ?_, ?_, ?_, ?_, ?_, ?_, ?_, ?_, ?_, ?_, ?_, ?_, ?_, ?_, ?_, ?_, ?_, ?_, ?_⟩ <;> first | exact (Below.refl _ _).drew | exact ((Below.refl _ _).drew).trans hbr | exact step_below hbr (by assumption) | exact step_cell hbr (by assumption) | go_keep)
      refine wpAnyH_take (i := 0) (v := ?_) rfl (by kernel_rfl) (by kernel_rfl) (by kernel_rfl) (fun _ _ _ h => h) (Or.inl ⟨by rfl, ?_⟩) (by assumption) ?_
      case refine_2 => (intro w hSw; (try dsimp only at hSw); go_simp; first | done | (with_reducible rfl))
      show wpAnyH _ _ _ _ _ _ _ (Act.put _ (some 9) _) _
      simp only [Act.put, List.setIfInBounds_toArray, List.set_cons_zero, List.set_cons_succ]
      refine wpAnyH_take (i := 1) (v := ?_) rfl (by kernel_rfl) (by kernel_rfl) (by kernel_rfl) (fun _ _ _ h => h) (Or.inl ⟨by rfl, ?_⟩) (by assumption) ?_
      case refine_2 => (intro w hSw; (try dsimp only at hSw); go_simp; first | done | (with_reducible rfl))
      show wpAnyH _ _ _ _ _ _ _ (Act.put _ (some 10) _) _
      simp only [Act.put, List.setIfInBounds_toArray, List.set_cons_zero, List.set_cons_succ]
      refine wpAnyH_take (i := 2) (v := ?_) rfl (by kernel_rfl) (by kernel_rfl) (by kernel_rfl) (fun _ _ _ h => h) (Or.inl ⟨by rfl, ?_⟩) (by assumption) ?_
      case refine_2 => (intro w hSw; (try dsimp only at hSw); go_simp; first | done | (with_reducible rfl))
      show wpAnyH _ _ _ _ _ _ _ (Act.put _ (some 11) _) _
      simp only [Act.put, List.setIfInBounds_toArray, List.set_cons_zero, List.set_cons_succ]
      refine wpAnyH_take (i := 3) (v := ?_) rfl (by kernel_rfl) (by kernel_rfl) (by kernel_rfl) (fun _ _ _ h => h) (Or.inl ⟨by rfl, ?_⟩) (by assumption) ?_
      case refine_2 => (intro w hSw; (try dsimp only at hSw); go_simp; first | done | (with_reducible rfl))
      show wpAnyH _ _ _ _ _ _ _ (Act.put _ (some 12) _) _
      simp only [Act.put, List.setIfInBounds_toArray, List.set_cons_zero, List.set_cons_succ]
      refine wpAnyH_ready (rs := [4]) (by kernel_rfl) (by simp) ?_
      refine (AllReadyH.cons rfl (fun K hK => ?_) AllReadyH.nil)
      go_simp
      go_at_call 62
      refine (fieldsMay b0 o0 c0 b1 o1 c1 B C a b c i r ab cb aa ca _ hB (HH.out.later (step_below hHeld.1 HWX.out)) HK.out HF.out).mono ?_
      rw [hf1]
      rintro e w1 ⟨rfl, hbr⟩
      go_wp2_with fail
      refine hK.out _ _ ?_ (fun hHeld => ?_)
      · (exact ⟨step_below hbr hHeld.1, step_cell hbr hHeld.2.1, step_cell hbr hHeld.2.2.1, step_cell hbr hHeld.2.2.2.1, step_cell hbr hHeld.2.2.2.2.1, step_cell hbr hHeld.2.2.2.2.2.1, step_cell hbr hHeld.2.2.2.2.2.2.1, step_cell hbr hHeld.2.2.2.2.2.2.2.1, step_cell hbr hHeld.2.2.2.2.2.2.2.2.1, step_cell hbr hHeld.2.2.2.2.2.2.2.2.2.1, step_cell hbr hHeld.2.2.2.2.2.2.2.2.2.2.1, step_cell hbr hHeld.2.2.2.2.2.2.2.2.2.2.2.1, step_cell hbr hHeld.2.2.2.2.2.2.2.2.2.2.2.2.1, step_cell hbr hHeld.2.2.2.2.2.2.2.2.2.2.2.2.2.1, step_cell hbr hHeld.2.2.2.2.2.2.2.2.2.2.2.2.2.2.1, step_cell hbr hHeld.2.2.2.2.2.2.2.2.2.2.2.2.2.2.2.1, step_cell hbr hHeld.2.2.2.2.2.2.2.2.2.2.2.2.2.2.2.2.1, step_cell hbr hHeld.2.2.2.2.2.2.2.2.2.2.2.2.2.2.2.2.2.1, step_cell hbr hHeld.2.2.2.2.2.2.2.2.2.2.2.2.2.2.2.2.2.2.1, step_cell hbr hHeld.2.2.2.2.2.2.2.2.2.2.2.2.2.2.2.2.2.2.2.1, step_cell hbr hHeld.2.2.2.2.2.2.2.2.2.2.2.2.2.2.2.2.2.2.2.2⟩)
      clear hK K
      try simp only [Act.put, List.setIfInBounds_toArray, List.set_cons_zero, List.set_cons_succ]
      refine wpAnyH_take (i := 5) (v := ?_) rfl (by kernel_rfl) (by kernel_rfl) (by kernel_rfl) (fun _ _ _ h => h) (Or.inl ⟨by rfl, ?_⟩) (by assumption) ?_
      case refine_2 => (intro w hSw; (try dsimp only at hSw); go_simp; first | done | (with_reducible rfl))
      show wpAnyH _ _ _ _ _ _ _ (Act.put _ (some 14) _) _
      simp only [Act.put, List.setIfInBounds_toArray, List.set_cons_zero, List.set_cons_succ]
      refine wpAnyH_take (i := 6) (v := ?_) rfl (by kernel_rfl) (by kernel_rfl) (by kernel_rfl) (fun _ _ _ h => h) (Or.inl ⟨by rfl, ?_⟩) (by assumption) ?_
      case refine_2 => (intro w hSw; (try dsimp only at hSw); go_simp; first | done | (with_reducible rfl))
      show wpAnyH _ _ _ _ _ _ _ (Act.put _ (some 15) _) _
      simp only [Act.put, List.setIfInBounds_toArray, List.set_cons_zero, List.set_cons_succ]
      refine wpAnyH_take (i := 7) (v := ?_) rfl (by kernel_rfl) (by kernel_rfl) (by kernel_rfl) (fun _ _ _ h => h) (Or.inl ⟨by rfl, ?_⟩) (by assumption) ?_
      case refine_2 => (intro w hSw; (try dsimp only at hSw); go_simp; first | done | (with_reducible rfl))
      show wpAnyH _ _ _ _ _ _ _ (Act.put _ (some 16) _) _
      simp only [Act.put, List.setIfInBounds_toArray, List.set_cons_zero, List.set_cons_succ]
      refine wpAnyH_take (i := 8) (v := ?_) rfl (by kernel_rfl) (by kernel_rfl) (by kernel_rfl) (fun _ _ _ h => h) (Or.inl ⟨by rfl, ?_⟩) (by assumption) ?_
      case refine_2 => (intro w hSw; (try dsimp only at hSw); go_simp; first | done | (with_reducible rfl))
      show wpAnyH _ _ _ _ _ _ _ (Act.put _ (some 17) _) _
      simp only [Act.put, List.setIfInBounds_toArray, List.set_cons_zero, List.set_cons_succ]
      refine wpAnyH_ready (rs := [9]) (by kernel_rfl) (by simp) ?_
      refine (AllReadyH.cons rfl (fun K hK => ?_) AllReadyH.nil)
      go_simp
      go_at_call 63
      refine (movesMay a b c _ r.before 6 (by omega) _ (HMB.out.later (step_below hHeld.1 HWX.out))).mono ?_
      rw [hf2]
      rintro e w2 ⟨rfl, hbr⟩
      go_wp2_with fail
      refine hK.out _ _ ?_ (fun hHeld => ?_)
      · (exact ⟨step_below hbr hHeld.1, step_cell hbr hHeld.2.1, step_cell hbr hHeld.2.2.1, step_cell hbr hHeld.2.2.2.1, step_cell hbr hHeld.2.2.2.2.1, step_cell hbr hHeld.2.2.2.2.2.1, step_cell hbr hHeld.2.2.2.2.2.2.1, step_cell hbr hHeld.2.2.2.2.2.2.2.1, step_cell hbr hHeld.2.2.2.2.2.2.2.2.1, step_cell hbr hHeld.2.2.2.2.2.2.2.2.2.1, step_cell hbr hHeld.2.2.2.2.2.2.2.2.2.2.1, step_cell hbr hHeld.2.2.2.2.2.2.2.2.2.2.2.1, step_cell hbr hHeld.2.2.2.2.2.2.2.2.2.2.2.2.1, step_cell hbr hHeld.2.2.2.2.2.2.2.2.2.2.2.2.2.1, step_cell hbr hHeld.2.2.2.2.2.2.2.2.2.2.2.2.2.2.1, step_cell hbr hHeld.2.2.2.2.2.2.2.2.2.2.2.2.2.2.2.1, step_cell hbr hHeld.2.2.2.2.2.2.2.2.2.2.2.2.2.2.2.2.1, step_cell hbr hHeld.2.2.2.2.2.2.2.2.2.2.2.2.2.2.2.2.2.1, step_cell hbr hHeld.2.2.2.2.2.2.2.2.2.2.2.2.2.2.2.2.2.2.1, step_cell hbr hHeld.2.2.2.2.2.2.2.2.2.2.2.2.2.2.2.2.2.2.2.1, step_cell hbr hHeld.2.2.2.2.2.2.2.2.2.2.2.2.2.2.2.2.2.2.2.2⟩)
      clear hK K
      try simp only [Act.put, List.setIfInBounds_toArray, List.set_cons_zero, List.set_cons_succ]
      refine wpAnyH_take (i := 10) (v := ?_) rfl (by kernel_rfl) (by kernel_rfl) (by kernel_rfl) (fun _ _ _ h => h) (Or.inl ⟨by rfl, ?_⟩) (by assumption) ?_
      case refine_2 => (intro w hSw; (try dsimp only at hSw); go_simp; first | done | (with_reducible rfl))
      show wpAnyH _ _ _ _ _ _ _ (Act.put _ (some 19) _) _
      simp only [Act.put, List.setIfInBounds_toArray, List.set_cons_zero, List.set_cons_succ]
      refine wpAnyH_take (i := 11) (v := ?_) rfl (by kernel_rfl) (by kernel_rfl) (by kernel_rfl) (fun _ _ _ h => h) (Or.inl ⟨by rfl, ?_⟩) (by assumption) ?_
      case refine_2 => (intro w hSw; (try dsimp only at hSw); go_simp; first | done | (with_reducible rfl))
      show wpAnyH _ _ _ _ _ _ _ (Act.put _ (some 20) _) _
      simp only [Act.put, List.setIfInBounds_toArray, List.set_cons_zero, List.set_cons_succ]
      refine wpAnyH_take (i := 12) (v := undef) rfl (by kernel_rfl) (by kernel_rfl) (by kernel_rfl) (fun _ _ _ h => h) (Or.inr ⟨by rfl, rfl⟩) (by assumption) ?_
      show wpAnyH _ _ _ _ _ _ _ (Act.put _ (some 21) _) _
      simp only [Act.put, List.setIfInBounds_toArray, List.set_cons_zero, List.set_cons_succ]
      refine wpAnyH_take (i := 13) (v := undef) rfl (by kernel_rfl) (by kernel_rfl) (by kernel_rfl) (fun _ _ _ h => h) (Or.inr ⟨by rfl, rfl⟩) (by assumption) ?_
      show wpAnyH _ _ _ _ _ _ _ (Act.put _ (some 22) _) _
      simp only [Act.put, List.setIfInBounds_toArray, List.set_cons_zero, List.set_cons_succ]
      refine wpAnyH_take (i := 14) (v := undef) rfl (by kernel_rfl) (by kernel_rfl) (by kernel_rfl) (fun _ _ _ h => h) (Or.inr ⟨by rfl, rfl⟩) (by assumption) ?_
      show wpAnyH _ _ _ _ _ _ _ (Act.put _ (some 23) _) _
      simp only [Act.put, List.setIfInBounds_toArray, List.set_cons_zero, List.set_cons_succ]
      refine wpAnyH_take (i := 15) (v := undef) rfl (by kernel_rfl) (by kernel_rfl) (by kernel_rfl) (fun _ _ _ h => h) (Or.inr ⟨by rfl, rfl⟩) (by assumption) ?_
      show wpAnyH _ _ _ _ _ _ _ (Act.put _ (some 24) _) _
      simp only [Act.put, List.setIfInBounds_toArray, List.set_cons_zero, List.set_cons_succ]
      refine wpAnyH_take (i := 16) (v := undef) rfl (by kernel_rfl) (by kernel_rfl) (by kernel_rfl) (fun _ _ _ h => h) (Or.inr ⟨by rfl, rfl⟩) (by assumption) ?_
      show wpAnyH _ _ _ _ _ _ _ (Act.put _ (some 25) _) _
      simp only [Act.put, List.setIfInBounds_toArray, List.set_cons_zero, List.set_cons_succ]
      refine wpAnyH_take (i := 17) (v := undef) rfl (by kernel_rfl) (by kernel_rfl) (by kernel_rfl) (fun _ _ _ h => h) (Or.inr ⟨by rfl, rfl⟩) (by assumption) ?_
      show wpAnyH _ _ _ _ _ _ _ (Act.put _ (some 26) _) _
      simp only [Act.put, List.setIfInBounds_toArray, List.set_cons_zero, List.set_cons_succ]
      refine wpAnyH_take (i := 18) (v := undef) rfl (by kernel_rfl) (by kernel_rfl) (by kernel_rfl) (fun _ _ _ h => h) (Or.inr ⟨by rfl, rfl⟩) (by assumption) ?_
      show wpAnyH _ _ _ _ _ _ _ (Act.put _ (some 27) _) _
      simp only [Act.put, List.setIfInBounds_toArray, List.set_cons_zero, List.set_cons_succ]
      refine wpAnyH_take (i := 19) (v := ?_) rfl (by kernel_rfl) (by kernel_rfl) (by kernel_rfl) (fun _ _ _ h => h) (Or.inl ⟨by rfl, ?_⟩) (by assumption) ?_
      case refine_2 => (intro w hSw; (try dsimp only at hSw); go_simp; first | done | (with_reducible rfl))
      show wpAnyH _ _ _ _ _ _ _ (Act.put _ (some 28) _) _
      simp only [Act.put, List.setIfInBounds_toArray, List.set_cons_zero, List.set_cons_succ]
      refine wpAnyH_take (i := 20) (v := ?_) rfl (by kernel_rfl) (by kernel_rfl) (by kernel_rfl) (fun _ _ _ h => h) (Or.inl ⟨by rfl, ?_⟩) (by assumption) ?_
      case refine_2 => (intro w hSw; (try dsimp only at hSw); go_simp; first | done | (with_reducible rfl))
      show wpAnyH _ _ _ _ _ _ _ (Act.put _ (some 8) _) _
      simp only [Act.put, List.setIfInBounds_toArray, List.set_cons_zero, List.set_cons_succ]
      refine wpAnyH_done (by kernel_rfl) ?_ _
      have HB9 : Hid (Below wx.heap.size wx w2) := hHeld.1
      clear hHeld hbr
      go_wp2
      go_ret
      exact ⟨ret_bool (by rw [HR.out, hf1, hf2]; rfl), step_below HB9.out HWX.out⟩
    · skip
      refine wp_region_held_drew (S := (fun w' => Below wx.heap.size wx w' ∧ w'.cell? ⟨w.heap.size, 0, none⟩ = some (.int .i64 0) ∧ w'.cell? ⟨w.heap.size, 1, none⟩ = some (.int .i64 a) ∧ w'.cell? ⟨w.heap.size, 2, none⟩ = some (.int .i64 b) ∧ w'.cell? ⟨w.heap.size, 3, none⟩ = some (.int .i64 c) ∧ w'.cell? ⟨w.heap.size + 1, 0, none⟩ = some (.slice (some ⟨b0, o0, none⟩) B.length c0) ∧ w'.cell? ⟨w.heap.size + 1, 1, none⟩ = some (.slice (some ⟨b1, o1, none⟩) C.length c1) ∧ w'.cell? ⟨w.heap.size + 1 + 1, 0, none⟩ = some (.int .i64 i.op) ∧ w'.cell? ⟨w.heap.size + 1 + 1, 1, none⟩ = some (.int .i64 i.dest) ∧ w'.cell? ⟨w.heap.size + 1 + 1, 2, none⟩ = some (.int .i64 i.a) ∧ w'.cell? ⟨w.heap.size + 1 + 1, 3, none⟩ = some (.int .i64 i.b) ∧ w'.cell? ⟨w.heap.size + 1 + 1, 4, none⟩ = some (.int .i64 i.c) ∧ w'.cell? ⟨w.heap.size + 1 + 1, 5, none⟩ = some (.int .u32 i.n) ∧ w'.cell? ⟨w.heap.size + 1 + 1 + 1, 0, none⟩ = some (.int .i64 r.dest.kind) ∧ w'.cell? ⟨w.heap.size + 1 + 1 + 1, 1, none⟩ = some (.int .i64 r.dest.n) ∧ w'.cell? ⟨w.heap.size + 1 + 1 + 1, 2, none⟩ = some (.int .i64 r.a.kind) ∧ w'.cell? ⟨w.heap.size + 1 + 1 + 1, 3, none⟩ = some (.int .i64 r.a.n) ∧ w'.cell? ⟨w.heap.size + 1 + 1 + 1, 4, none⟩ = some (.int .i64 r.b.kind) ∧ w'.cell? ⟨w.heap.size + 1 + 1 + 1, 5, none⟩ = some (.int .i64 r.b.n) ∧ w'.cell? ⟨w.heap.size + 1 + 1 + 1, 6, none⟩ = some (.slice ab r.before.length cb) ∧ w'.cell? ⟨w.heap.size + 1 + 1 + 1, 7, none⟩ = some (.slice aa r.after.length ca))) (by rfl) ?_ (fun hHeld => ?_)
      · (go_split_ands; refine ⟨?_, ?_, ?_, ?_, ?_, ?_, ?_, ?_, ?_, ?_, ?_, ?_, ?_, ?_, ?_, ?_, ?_, ?_, ?_, ?_, ?_⟩ <;> first | exact (Below.refl _ _).drew | exact ((Below.refl _ _).drew).trans hbr | exact step_below hbr (by assumption) | exact step_cell hbr (by assumption) | go_keep)
      refine wpAnyH_take (i := 0) (v := ?_) rfl (by kernel_rfl) (by kernel_rfl) (by kernel_rfl) (fun _ _ _ h => h) (Or.inl ⟨by rfl, ?_⟩) (by assumption) ?_
      case refine_2 => (intro w hSw; (try dsimp only at hSw); go_simp; first | done | (with_reducible rfl))
      show wpAnyH _ _ _ _ _ _ _ (Act.put _ (some 9) _) _
      simp only [Act.put, List.setIfInBounds_toArray, List.set_cons_zero, List.set_cons_succ]
      refine wpAnyH_take (i := 1) (v := ?_) rfl (by kernel_rfl) (by kernel_rfl) (by kernel_rfl) (fun _ _ _ h => h) (Or.inl ⟨by rfl, ?_⟩) (by assumption) ?_
      case refine_2 => (intro w hSw; (try dsimp only at hSw); go_simp; first | done | (with_reducible rfl))
      show wpAnyH _ _ _ _ _ _ _ (Act.put _ (some 10) _) _
      simp only [Act.put, List.setIfInBounds_toArray, List.set_cons_zero, List.set_cons_succ]
      refine wpAnyH_take (i := 2) (v := ?_) rfl (by kernel_rfl) (by kernel_rfl) (by kernel_rfl) (fun _ _ _ h => h) (Or.inl ⟨by rfl, ?_⟩) (by assumption) ?_
      case refine_2 => (intro w hSw; (try dsimp only at hSw); go_simp; first | done | (with_reducible rfl))
      show wpAnyH _ _ _ _ _ _ _ (Act.put _ (some 11) _) _
      simp only [Act.put, List.setIfInBounds_toArray, List.set_cons_zero, List.set_cons_succ]
      refine wpAnyH_take (i := 3) (v := ?_) rfl (by kernel_rfl) (by kernel_rfl) (by kernel_rfl) (fun _ _ _ h => h) (Or.inl ⟨by rfl, ?_⟩) (by assumption) ?_
      case refine_2 => (intro w hSw; (try dsimp only at hSw); go_simp; first | done | (with_reducible rfl))
      show wpAnyH _ _ _ _ _ _ _ (Act.put _ (some 12) _) _
      simp only [Act.put, List.setIfInBounds_toArray, List.set_cons_zero, List.set_cons_succ]
      refine wpAnyH_ready (rs := [4]) (by kernel_rfl) (by simp) ?_
      refine (AllReadyH.cons rfl (fun K hK => ?_) AllReadyH.nil)
      go_simp
      go_at_call 62
      refine (fieldsMay b0 o0 c0 b1 o1 c1 B C a b c i r ab cb aa ca _ hB (HH.out.later (step_below hHeld.1 HWX.out)) HK.out HF.out).mono ?_
      rw [hf1]
      rintro e w1 ⟨rfl, hbr⟩
      go_wp2_with fail
      refine hK.out _ _ ?_ (fun hHeld => ?_)
      · (exact ⟨step_below hbr hHeld.1, step_cell hbr hHeld.2.1, step_cell hbr hHeld.2.2.1, step_cell hbr hHeld.2.2.2.1, step_cell hbr hHeld.2.2.2.2.1, step_cell hbr hHeld.2.2.2.2.2.1, step_cell hbr hHeld.2.2.2.2.2.2.1, step_cell hbr hHeld.2.2.2.2.2.2.2.1, step_cell hbr hHeld.2.2.2.2.2.2.2.2.1, step_cell hbr hHeld.2.2.2.2.2.2.2.2.2.1, step_cell hbr hHeld.2.2.2.2.2.2.2.2.2.2.1, step_cell hbr hHeld.2.2.2.2.2.2.2.2.2.2.2.1, step_cell hbr hHeld.2.2.2.2.2.2.2.2.2.2.2.2.1, step_cell hbr hHeld.2.2.2.2.2.2.2.2.2.2.2.2.2.1, step_cell hbr hHeld.2.2.2.2.2.2.2.2.2.2.2.2.2.2.1, step_cell hbr hHeld.2.2.2.2.2.2.2.2.2.2.2.2.2.2.2.1, step_cell hbr hHeld.2.2.2.2.2.2.2.2.2.2.2.2.2.2.2.2.1, step_cell hbr hHeld.2.2.2.2.2.2.2.2.2.2.2.2.2.2.2.2.2.1, step_cell hbr hHeld.2.2.2.2.2.2.2.2.2.2.2.2.2.2.2.2.2.2.1, step_cell hbr hHeld.2.2.2.2.2.2.2.2.2.2.2.2.2.2.2.2.2.2.2.1, step_cell hbr hHeld.2.2.2.2.2.2.2.2.2.2.2.2.2.2.2.2.2.2.2.2⟩)
      clear hK K
      try simp only [Act.put, List.setIfInBounds_toArray, List.set_cons_zero, List.set_cons_succ]
      refine wpAnyH_take (i := 5) (v := ?_) rfl (by kernel_rfl) (by kernel_rfl) (by kernel_rfl) (fun _ _ _ h => h) (Or.inl ⟨by rfl, ?_⟩) (by assumption) ?_
      case refine_2 => (intro w hSw; (try dsimp only at hSw); go_simp; first | done | (with_reducible rfl))
      show wpAnyH _ _ _ _ _ _ _ (Act.put _ (some 14) _) _
      simp only [Act.put, List.setIfInBounds_toArray, List.set_cons_zero, List.set_cons_succ]
      refine wpAnyH_take (i := 6) (v := ?_) rfl (by kernel_rfl) (by kernel_rfl) (by kernel_rfl) (fun _ _ _ h => h) (Or.inl ⟨by rfl, ?_⟩) (by assumption) ?_
      case refine_2 => (intro w hSw; (try dsimp only at hSw); go_simp; first | done | (with_reducible rfl))
      show wpAnyH _ _ _ _ _ _ _ (Act.put _ (some 15) _) _
      simp only [Act.put, List.setIfInBounds_toArray, List.set_cons_zero, List.set_cons_succ]
      refine wpAnyH_take (i := 7) (v := ?_) rfl (by kernel_rfl) (by kernel_rfl) (by kernel_rfl) (fun _ _ _ h => h) (Or.inl ⟨by rfl, ?_⟩) (by assumption) ?_
      case refine_2 => (intro w hSw; (try dsimp only at hSw); go_simp; first | done | (with_reducible rfl))
      show wpAnyH _ _ _ _ _ _ _ (Act.put _ (some 16) _) _
      simp only [Act.put, List.setIfInBounds_toArray, List.set_cons_zero, List.set_cons_succ]
      refine wpAnyH_take (i := 8) (v := ?_) rfl (by kernel_rfl) (by kernel_rfl) (by kernel_rfl) (fun _ _ _ h => h) (Or.inl ⟨by rfl, ?_⟩) (by assumption) ?_
      case refine_2 => (intro w hSw; (try dsimp only at hSw); go_simp; first | done | (with_reducible rfl))
      show wpAnyH _ _ _ _ _ _ _ (Act.put _ (some 17) _) _
      simp only [Act.put, List.setIfInBounds_toArray, List.set_cons_zero, List.set_cons_succ]
      refine wpAnyH_ready (rs := [9]) (by kernel_rfl) (by simp) ?_
      refine (AllReadyH.cons rfl (fun K hK => ?_) AllReadyH.nil)
      go_simp
      go_at_call 63
      refine (movesMay a b c _ r.before 6 (by omega) _ (HMB.out.later (step_below hHeld.1 HWX.out))).mono ?_
      rw [hf2]
      rintro e w2 ⟨rfl, hbr⟩
      go_wp2_with fail
      refine hK.out _ _ ?_ (fun hHeld => ?_)
      · (exact ⟨step_below hbr hHeld.1, step_cell hbr hHeld.2.1, step_cell hbr hHeld.2.2.1, step_cell hbr hHeld.2.2.2.1, step_cell hbr hHeld.2.2.2.2.1, step_cell hbr hHeld.2.2.2.2.2.1, step_cell hbr hHeld.2.2.2.2.2.2.1, step_cell hbr hHeld.2.2.2.2.2.2.2.1, step_cell hbr hHeld.2.2.2.2.2.2.2.2.1, step_cell hbr hHeld.2.2.2.2.2.2.2.2.2.1, step_cell hbr hHeld.2.2.2.2.2.2.2.2.2.2.1, step_cell hbr hHeld.2.2.2.2.2.2.2.2.2.2.2.1, step_cell hbr hHeld.2.2.2.2.2.2.2.2.2.2.2.2.1, step_cell hbr hHeld.2.2.2.2.2.2.2.2.2.2.2.2.2.1, step_cell hbr hHeld.2.2.2.2.2.2.2.2.2.2.2.2.2.2.1, step_cell hbr hHeld.2.2.2.2.2.2.2.2.2.2.2.2.2.2.2.1, step_cell hbr hHeld.2.2.2.2.2.2.2.2.2.2.2.2.2.2.2.2.1, step_cell hbr hHeld.2.2.2.2.2.2.2.2.2.2.2.2.2.2.2.2.2.1, step_cell hbr hHeld.2.2.2.2.2.2.2.2.2.2.2.2.2.2.2.2.2.2.1, step_cell hbr hHeld.2.2.2.2.2.2.2.2.2.2.2.2.2.2.2.2.2.2.2.1, step_cell hbr hHeld.2.2.2.2.2.2.2.2.2.2.2.2.2.2.2.2.2.2.2.2⟩)
      clear hK K
      try simp only [Act.put, List.setIfInBounds_toArray, List.set_cons_zero, List.set_cons_succ]
      refine wpAnyH_take (i := 10) (v := ?_) rfl (by kernel_rfl) (by kernel_rfl) (by kernel_rfl) (fun _ _ _ h => h) (Or.inl ⟨by rfl, ?_⟩) (by assumption) ?_
      case refine_2 => (intro w hSw; (try dsimp only at hSw); go_simp; first | done | (with_reducible rfl))
      show wpAnyH _ _ _ _ _ _ _ (Act.put _ (some 19) _) _
      simp only [Act.put, List.setIfInBounds_toArray, List.set_cons_zero, List.set_cons_succ]
      refine wpAnyH_take (i := 11) (v := ?_) rfl (by kernel_rfl) (by kernel_rfl) (by kernel_rfl) (fun _ _ _ h => h) (Or.inl ⟨by rfl, ?_⟩) (by assumption) ?_
      case refine_2 => (intro w hSw; (try dsimp only at hSw); go_simp; first | done | (with_reducible rfl))
      show wpAnyH _ _ _ _ _ _ _ (Act.put _ (some 20) _) _
      simp only [Act.put, List.setIfInBounds_toArray, List.set_cons_zero, List.set_cons_succ]
      refine wpAnyH_take (i := 12) (v := ?_) rfl (by kernel_rfl) (by kernel_rfl) (by kernel_rfl) (fun _ _ _ h => h) (Or.inl ⟨by rfl, ?_⟩) (by assumption) ?_
      case refine_2 => (intro w hSw; (try dsimp only at hSw); go_simp; first | done | (with_reducible rfl))
      show wpAnyH _ _ _ _ _ _ _ (Act.put _ (some 21) _) _
      simp only [Act.put, List.setIfInBounds_toArray, List.set_cons_zero, List.set_cons_succ]
      refine wpAnyH_take (i := 13) (v := ?_) rfl (by kernel_rfl) (by kernel_rfl) (by kernel_rfl) (fun _ _ _ h => h) (Or.inl ⟨by rfl, ?_⟩) (by assumption) ?_
      case refine_2 => (intro w hSw; (try dsimp only at hSw); go_simp; first | done | (with_reducible rfl))
      show wpAnyH _ _ _ _ _ _ _ (Act.put _ (some 22) _) _
      simp only [Act.put, List.setIfInBounds_toArray, List.set_cons_zero, List.set_cons_succ]
      refine wpAnyH_take (i := 14) (v := ?_) rfl (by kernel_rfl) (by kernel_rfl) (by kernel_rfl) (fun _ _ _ h => h) (Or.inl ⟨by rfl, ?_⟩) (by assumption) ?_
      case refine_2 => (intro w hSw; (try dsimp only at hSw); go_simp; first | done | (with_reducible rfl))
      show wpAnyH _ _ _ _ _ _ _ (Act.put _ (some 23) _) _
      simp only [Act.put, List.setIfInBounds_toArray, List.set_cons_zero, List.set_cons_succ]
      refine wpAnyH_take (i := 15) (v := ?_) rfl (by kernel_rfl) (by kernel_rfl) (by kernel_rfl) (fun _ _ _ h => h) (Or.inl ⟨by rfl, ?_⟩) (by assumption) ?_
      case refine_2 => (intro w hSw; (try dsimp only at hSw); go_simp; first | done | (with_reducible rfl))
      show wpAnyH _ _ _ _ _ _ _ (Act.put _ (some 24) _) _
      simp only [Act.put, List.setIfInBounds_toArray, List.set_cons_zero, List.set_cons_succ]
      refine wpAnyH_take (i := 16) (v := ?_) rfl (by kernel_rfl) (by kernel_rfl) (by kernel_rfl) (fun _ _ _ h => h) (Or.inl ⟨by rfl, ?_⟩) (by assumption) ?_
      case refine_2 => (intro w hSw; (try dsimp only at hSw); go_simp; first | done | (with_reducible rfl))
      show wpAnyH _ _ _ _ _ _ _ (Act.put _ (some 25) _) _
      simp only [Act.put, List.setIfInBounds_toArray, List.set_cons_zero, List.set_cons_succ]
      refine wpAnyH_ready (rs := [17]) (by kernel_rfl) (by simp) ?_
      refine (AllReadyH.cons rfl (fun K hK => ?_) AllReadyH.nil)
      go_simp
      go_at_call 64
      refine (mostAfter i.op _).mono ?_
      rintro e w3 ⟨rfl, hw3⟩
      obtain rfl := hw3.symm
      clear hw3
      go_wp2_with fail
      refine hK.out _ _ ?_ (fun hHeld => ?_)
      · (exact hHeld)
      clear hK K
      try simp only [Act.put, List.setIfInBounds_toArray, List.set_cons_zero, List.set_cons_succ]
      refine wpAnyH_ready (rs := [18]) (by kernel_rfl) (by simp) ?_
      refine (AllReadyH.cons rfl (fun K hK => ?_) AllReadyH.nil)
      go_simp
      go_at_call 63
      refine (movesMay a b c _ r.after (mostI i.op) (most_le i.op) _ (HMA.out.later (step_below hHeld.1 HWX.out))).mono ?_
      rintro e w4 ⟨rfl, hbr⟩
      go_wp2_with fail
      refine hK.out _ _ ?_ (fun hHeld => ?_)
      · (exact ⟨step_below hbr hHeld.1, step_cell hbr hHeld.2.1, step_cell hbr hHeld.2.2.1, step_cell hbr hHeld.2.2.2.1, step_cell hbr hHeld.2.2.2.2.1, step_cell hbr hHeld.2.2.2.2.2.1, step_cell hbr hHeld.2.2.2.2.2.2.1, step_cell hbr hHeld.2.2.2.2.2.2.2.1, step_cell hbr hHeld.2.2.2.2.2.2.2.2.1, step_cell hbr hHeld.2.2.2.2.2.2.2.2.2.1, step_cell hbr hHeld.2.2.2.2.2.2.2.2.2.2.1, step_cell hbr hHeld.2.2.2.2.2.2.2.2.2.2.2.1, step_cell hbr hHeld.2.2.2.2.2.2.2.2.2.2.2.2.1, step_cell hbr hHeld.2.2.2.2.2.2.2.2.2.2.2.2.2.1, step_cell hbr hHeld.2.2.2.2.2.2.2.2.2.2.2.2.2.2.1, step_cell hbr hHeld.2.2.2.2.2.2.2.2.2.2.2.2.2.2.2.1, step_cell hbr hHeld.2.2.2.2.2.2.2.2.2.2.2.2.2.2.2.2.1, step_cell hbr hHeld.2.2.2.2.2.2.2.2.2.2.2.2.2.2.2.2.2.1, step_cell hbr hHeld.2.2.2.2.2.2.2.2.2.2.2.2.2.2.2.2.2.2.1, step_cell hbr hHeld.2.2.2.2.2.2.2.2.2.2.2.2.2.2.2.2.2.2.2.1, step_cell hbr hHeld.2.2.2.2.2.2.2.2.2.2.2.2.2.2.2.2.2.2.2.2⟩)
      clear hK K
      try simp only [Act.put, List.setIfInBounds_toArray, List.set_cons_zero, List.set_cons_succ]
      refine wpAnyH_take (i := 19) (v := ?_) rfl (by kernel_rfl) (by kernel_rfl) (by kernel_rfl) (fun _ _ _ h => h) (Or.inl ⟨by rfl, ?_⟩) (by assumption) ?_
      case refine_2 => (intro w hSw; (try dsimp only at hSw); go_simp; first | done | (with_reducible rfl))
      show wpAnyH _ _ _ _ _ _ _ (Act.put _ (some 28) _) _
      simp only [Act.put, List.setIfInBounds_toArray, List.set_cons_zero, List.set_cons_succ]
      refine wpAnyH_take (i := 20) (v := ?_) rfl (by kernel_rfl) (by kernel_rfl) (by kernel_rfl) (fun _ _ _ h => h) (Or.inl ⟨by rfl, ?_⟩) (by assumption) ?_
      case refine_2 => (intro w hSw; (try dsimp only at hSw); go_simp; first | done | (with_reducible rfl))
      show wpAnyH _ _ _ _ _ _ _ (Act.put _ (some 8) _) _
      simp only [Act.put, List.setIfInBounds_toArray, List.set_cons_zero, List.set_cons_succ]
      refine wpAnyH_done (by kernel_rfl) ?_ _
      have HB9 : Hid (Below wx.heap.size wx w4) := hHeld.1
      clear hHeld hbr
      go_wp2
      go_ret
      exact ⟨ret_bool (by rw [HR.out, hf1, hf2]; rfl), step_below HB9.out HWX.out⟩

end Go.Proofs.YtcmnmogmdhofcabGreat.form

/- What layout.fit answers. -/
namespace Go.Proofs.YtcmnmogmdhofcabGreat.form
open Go.RowKit
set_option linter.unusedVariables false
attribute [local go_sem ↓] Go.wp_at_zero Go.wp_at_succ

def fit5 (B : List Bool) (nC : Nat) (k0 k1 k2 k3 k4 x0 x1 x2 x3 x4 : Int) : Bool :=
  fitB B nC k0 x0 && fitB B nC k1 x1 && fitB B nC k2 x2 && fitB B nC k3 x3 && fitB B nC k4 x4

theorem below_cell {W w1 : World} {B : Nat} (hb : Below B W w1) {b o : Nat} {v : Value} (h : b < B) (hc : W.cell? ⟨b, o, none⟩ = some v) : w1.cell? ⟨b, o, none⟩ = some v := by
  rw [hb.cell (p := ⟨b, o, none⟩) h]; exact hc

set_option maxRecDepth 100000 in
set_option maxHeartbeats 1000000 in
theorem fit (b0 o0 c0 b1 o1 c1 : Nat) (B : List Bool) (C : List LIns) (k0 k1 k2 k3 k4 x0 x1 x2 x3 x4 : Int) (w : World) (hB : B.length ≤ 12) (hC : C.length ≤ 40) (h : Held w b0 o0 b1 o1 B C) :
    Calls Tryz.prog 94 #[progV b0 o0 B.length c0 b1 o1 C.length c1, fiveV k0 k1 k2 k3 k4, fiveV x0 x1 x2 x3 x4] w fun e w' => e = .returned (.bool (fit5 B C.length k0 k1 k2 k3 k4 x0 x1 x2 x3 x4)) ∧ Below w.heap.size w w' := by
  unfold progV fiveV
  have i0 : ∀ w, (Instr.index 141 (.agg #[.int .i64 k0, .int .i64 k1, .int .i64 k2, .int .i64 k3, .int .i64 k4]) (.int .i64 0)).run Tryz.prog w = .ok (.int .i64 k0) w := fun _ => by kernel_rfl
  have i1 : ∀ w, (Instr.index 141 (.agg #[.int .i64 k0, .int .i64 k1, .int .i64 k2, .int .i64 k3, .int .i64 k4]) (.int .i64 1)).run Tryz.prog w = .ok (.int .i64 k1) w := fun _ => by kernel_rfl
  have i2 : ∀ w, (Instr.index 141 (.agg #[.int .i64 k0, .int .i64 k1, .int .i64 k2, .int .i64 k3, .int .i64 k4]) (.int .i64 2)).run Tryz.prog w = .ok (.int .i64 k2) w := fun _ => by kernel_rfl
  have i3 : ∀ w, (Instr.index 141 (.agg #[.int .i64 k0, .int .i64 k1, .int .i64 k2, .int .i64 k3, .int .i64 k4]) (.int .i64 3)).run Tryz.prog w = .ok (.int .i64 k3) w := fun _ => by kernel_rfl
  have i4 : ∀ w, (Instr.index 141 (.agg #[.int .i64 k0, .int .i64 k1, .int .i64 k2, .int .i64 k3, .int .i64 k4]) (.int .i64 4)).run Tryz.prog w = .ok (.int .i64 k4) w := fun _ => by kernel_rfl
  go_enter Tryz.func94, Tryz.ntmps94
  go_wp2
  go_loopw [10] (fun i wr => ∃ k : Nat, k ≤ 5 ∧ i = .int .i64 k ∧ Below w.heap.size w wr ∧ w.heap.size + 3 ≤ wr.heap.size ∧
      wr.cell? ⟨w.heap.size, 0, none⟩ = some (.slice (some ⟨b0, o0, none⟩) B.length c0) ∧ wr.cell? ⟨w.heap.size, 1, none⟩ = some (.slice (some ⟨b1, o1, none⟩) C.length c1) ∧
      wr.cell? ⟨w.heap.size + 2, 0, none⟩ = some (.int .i64 x0) ∧ wr.cell? ⟨w.heap.size + 2, 1, none⟩ = some (.int .i64 x1) ∧ wr.cell? ⟨w.heap.size + 2, 2, none⟩ = some (.int .i64 x2) ∧ wr.cell? ⟨w.heap.size + 2, 3, none⟩ = some (.int .i64 x3) ∧ wr.cell? ⟨w.heap.size + 2, 4, none⟩ = some (.int .i64 x4) ∧
      (0 < k → fitB B C.length k0 x0 = true) ∧ (1 < k → fitB B C.length k1 x1 = true) ∧ (2 < k → fitB B C.length k2 x2 = true) ∧ (3 < k → fitB B C.length k3 x3 = true) ∧ (4 < k → fitB B C.length k4 x4 = true))
    (fun i _ => 5 - (intOf i).toNat)
  case atStart => exact ⟨0, by omega, rfl, (((Below.refl _ _).alloc (Nat.le_refl _) _).alloc (by simp) _).alloc (by simp; omega) _, by simp, by simp [go_sem], by simp [go_sem], by simp [go_sem], by simp [go_sem], by simp [go_sem], by simp [go_sem], by simp [go_sem], by simp, by simp, by simp, by simp, by simp⟩
  case round =>
    obtain ⟨k, hk, rfl, hbel, hsz, cp0, cp1, cx0, cx1, cx2, cx3, cx4, f0, f1, f2, f3, f4⟩ := hrel
    have F : Hid _ := (⟨f0, f1, f2, f3, f4⟩ : _ ∧ _ ∧ _ ∧ _ ∧ _)
    clear f0 f1 f2 f3 f4
    rcases (show k = 0 ∨ k = 1 ∨ k = 2 ∨ k = 3 ∨ k = 4 ∨ k = 5 by omega) with rfl | rfl | rfl | rfl | rfl | rfl
    · go_wp2
      go_region_held3 (fun w' => Below wr.heap.size wr w' ∧ w'.cell? ⟨w.heap.size, 0, none⟩ = some (.slice (some ⟨b0, o0, none⟩) B.length c0) ∧ w'.cell? ⟨w.heap.size, 1, none⟩ = some (.slice (some ⟨b1, o1, none⟩) C.length c1) ∧ w'.cell? ⟨w.heap.size + 2, 0, none⟩ = some (.int .i64 x0)) ((go_split_ands; refine ⟨?_, ?_, ?_, ?_⟩ <;> first | exact (Below.refl _ _).drew | exact ((Below.refl _ _).drew).trans hb1 | exact below_cell hb1 (show _ < wr.heap.size by omega) cp0 | exact below_cell hb1 (show _ < wr.heap.size by omega) cp1 | exact below_cell hb1 (show _ < wr.heap.size by omega) cx0 | go_keep))
        ((go_at_call 123; refine (fits b0 o0 c0 b1 o1 c1 B C k0 x0 _ hB hC ?_).mono ?_; (exact h.later hbel.drew); rintro e w1 ⟨rfl, hb1⟩))
      rename_i hHeldx; clear hHeldx
      have hs1 : wr.heap.size ≤ w1.heap.size := hb1.size
      have R : Hid _ := (⟨hbel.drew.trans (hb1.mono hbel.size), Nat.le_trans hsz hs1, below_cell hb1 (show _ < wr.heap.size by omega) cp0, below_cell hb1 (show _ < wr.heap.size by omega) cp1, below_cell hb1 (show _ < wr.heap.size by omega) cx0, below_cell hb1 (show _ < wr.heap.size by omega) cx1, below_cell hb1 (show _ < wr.heap.size by omega) cx2, below_cell hb1 (show _ < wr.heap.size by omega) cx3, below_cell hb1 (show _ < wr.heap.size by omega) cx4⟩ : Below w.heap.size w w1 ∧ w.heap.size + 3 ≤ w1.heap.size ∧ _ ∧ _ ∧ _ ∧ _ ∧ _ ∧ _ ∧ _)
      clear hb1 cp0 cp1 cx0 cx1 cx2 cx3 cx4 hbel
      go_wp2
      · go_ret
        exact ⟨ret_bool (by simp_all [fit5]), R.out.1⟩
      · obtain ⟨r1, r2, r3, r4, r5, r6, r7, r8, r9⟩ := R.out
        obtain ⟨f0, f1, f2, f3, f4⟩ := F.out
        refine ⟨⟨1, by omega, rfl, r1, r2, r3, r4, r5, r6, r7, r8, r9, ?_, ?_, ?_, ?_, ?_⟩, by simp [intOf]⟩
        all_goals first | assumption | (intro hz; first | (exact absurd hz (by omega)) | (simp_all))
    · go_wp2
      go_region_held3 (fun w' => Below wr.heap.size wr w' ∧ w'.cell? ⟨w.heap.size, 0, none⟩ = some (.slice (some ⟨b0, o0, none⟩) B.length c0) ∧ w'.cell? ⟨w.heap.size, 1, none⟩ = some (.slice (some ⟨b1, o1, none⟩) C.length c1) ∧ w'.cell? ⟨w.heap.size + 2, 1, none⟩ = some (.int .i64 x1)) ((go_split_ands; refine ⟨?_, ?_, ?_, ?_⟩ <;> first | exact (Below.refl _ _).drew | exact ((Below.refl _ _).drew).trans hb1 | exact below_cell hb1 (show _ < wr.heap.size by omega) cp0 | exact below_cell hb1 (show _ < wr.heap.size by omega) cp1 | exact below_cell hb1 (show _ < wr.heap.size by omega) cx1 | go_keep))
        ((go_at_call 123; refine (fits b0 o0 c0 b1 o1 c1 B C k1 x1 _ hB hC ?_).mono ?_; (exact h.later hbel.drew); rintro e w1 ⟨rfl, hb1⟩))
      rename_i hHeldx; clear hHeldx
      have hs1 : wr.heap.size ≤ w1.heap.size := hb1.size
      have R : Hid _ := (⟨hbel.drew.trans (hb1.mono hbel.size), Nat.le_trans hsz hs1, below_cell hb1 (show _ < wr.heap.size by omega) cp0, below_cell hb1 (show _ < wr.heap.size by omega) cp1, below_cell hb1 (show _ < wr.heap.size by omega) cx0, below_cell hb1 (show _ < wr.heap.size by omega) cx1, below_cell hb1 (show _ < wr.heap.size by omega) cx2, below_cell hb1 (show _ < wr.heap.size by omega) cx3, below_cell hb1 (show _ < wr.heap.size by omega) cx4⟩ : Below w.heap.size w w1 ∧ w.heap.size + 3 ≤ w1.heap.size ∧ _ ∧ _ ∧ _ ∧ _ ∧ _ ∧ _ ∧ _)
      clear hb1 cp0 cp1 cx0 cx1 cx2 cx3 cx4 hbel
      go_wp2
      · go_ret
        exact ⟨ret_bool (by simp_all [fit5]), R.out.1⟩
      · obtain ⟨r1, r2, r3, r4, r5, r6, r7, r8, r9⟩ := R.out
        obtain ⟨f0, f1, f2, f3, f4⟩ := F.out
        refine ⟨⟨2, by omega, rfl, r1, r2, r3, r4, r5, r6, r7, r8, r9, ?_, ?_, ?_, ?_, ?_⟩, by simp [intOf]⟩
        all_goals first | assumption | (intro hz; first | (exact absurd hz (by omega)) | (simp_all))
    · go_wp2
      go_region_held3 (fun w' => Below wr.heap.size wr w' ∧ w'.cell? ⟨w.heap.size, 0, none⟩ = some (.slice (some ⟨b0, o0, none⟩) B.length c0) ∧ w'.cell? ⟨w.heap.size, 1, none⟩ = some (.slice (some ⟨b1, o1, none⟩) C.length c1) ∧ w'.cell? ⟨w.heap.size + 2, 2, none⟩ = some (.int .i64 x2)) ((go_split_ands; refine ⟨?_, ?_, ?_, ?_⟩ <;> first | exact (Below.refl _ _).drew | exact ((Below.refl _ _).drew).trans hb1 | exact below_cell hb1 (show _ < wr.heap.size by omega) cp0 | exact below_cell hb1 (show _ < wr.heap.size by omega) cp1 | exact below_cell hb1 (show _ < wr.heap.size by omega) cx2 | go_keep))
        ((go_at_call 123; refine (fits b0 o0 c0 b1 o1 c1 B C k2 x2 _ hB hC ?_).mono ?_; (exact h.later hbel.drew); rintro e w1 ⟨rfl, hb1⟩))
      rename_i hHeldx; clear hHeldx
      have hs1 : wr.heap.size ≤ w1.heap.size := hb1.size
      have R : Hid _ := (⟨hbel.drew.trans (hb1.mono hbel.size), Nat.le_trans hsz hs1, below_cell hb1 (show _ < wr.heap.size by omega) cp0, below_cell hb1 (show _ < wr.heap.size by omega) cp1, below_cell hb1 (show _ < wr.heap.size by omega) cx0, below_cell hb1 (show _ < wr.heap.size by omega) cx1, below_cell hb1 (show _ < wr.heap.size by omega) cx2, below_cell hb1 (show _ < wr.heap.size by omega) cx3, below_cell hb1 (show _ < wr.heap.size by omega) cx4⟩ : Below w.heap.size w w1 ∧ w.heap.size + 3 ≤ w1.heap.size ∧ _ ∧ _ ∧ _ ∧ _ ∧ _ ∧ _ ∧ _)
      clear hb1 cp0 cp1 cx0 cx1 cx2 cx3 cx4 hbel
      go_wp2
      · go_ret
        exact ⟨ret_bool (by simp_all [fit5]), R.out.1⟩
      · obtain ⟨r1, r2, r3, r4, r5, r6, r7, r8, r9⟩ := R.out
        obtain ⟨f0, f1, f2, f3, f4⟩ := F.out
        refine ⟨⟨3, by omega, rfl, r1, r2, r3, r4, r5, r6, r7, r8, r9, ?_, ?_, ?_, ?_, ?_⟩, by simp [intOf]⟩
        all_goals first | assumption | (intro hz; first | (exact absurd hz (by omega)) | (simp_all))
    · go_wp2
      go_region_held3 (fun w' => Below wr.heap.size wr w' ∧ w'.cell? ⟨w.heap.size, 0, none⟩ = some (.slice (some ⟨b0, o0, none⟩) B.length c0) ∧ w'.cell? ⟨w.heap.size, 1, none⟩ = some (.slice (some ⟨b1, o1, none⟩) C.length c1) ∧ w'.cell? ⟨w.heap.size + 2, 3, none⟩ = some (.int .i64 x3)) ((go_split_ands; refine ⟨?_, ?_, ?_, ?_⟩ <;> first | exact (Below.refl _ _).drew | exact ((Below.refl _ _).drew).trans hb1 | exact below_cell hb1 (show _ < wr.heap.size by omega) cp0 | exact below_cell hb1 (show _ < wr.heap.size by omega) cp1 | exact below_cell hb1 (show _ < wr.heap.size by omega) cx3 | go_keep))
        ((go_at_call 123; refine (fits b0 o0 c0 b1 o1 c1 B C k3 x3 _ hB hC ?_).mono ?_; (exact h.later hbel.drew); rintro e w1 ⟨rfl, hb1⟩))
      rename_i hHeldx; clear hHeldx
      have hs1 : wr.heap.size ≤ w1.heap.size := hb1.size
      have R : Hid _ := (⟨hbel.drew.trans (hb1.mono hbel.size), Nat.le_trans hsz hs1, below_cell hb1 (show _ < wr.heap.size by omega) cp0, below_cell hb1 (show _ < wr.heap.size by omega) cp1, below_cell hb1 (show _ < wr.heap.size by omega) cx0, below_cell hb1 (show _ < wr.heap.size by omega) cx1, below_cell hb1 (show _ < wr.heap.size by omega) cx2, below_cell hb1 (show _ < wr.heap.size by omega) cx3, below_cell hb1 (show _ < wr.heap.size by omega) cx4⟩ : Below w.heap.size w w1 ∧ w.heap.size + 3 ≤ w1.heap.size ∧ _ ∧ _ ∧ _ ∧ _ ∧ _ ∧ _ ∧ _)
      clear hb1 cp0 cp1 cx0 cx1 cx2 cx3 cx4 hbel
      go_wp2
      · go_ret
        exact ⟨ret_bool (by simp_all [fit5]), R.out.1⟩
      · obtain ⟨r1, r2, r3, r4, r5, r6, r7, r8, r9⟩ := R.out
        obtain ⟨f0, f1, f2, f3, f4⟩ := F.out
        refine ⟨⟨4, by omega, rfl, r1, r2, r3, r4, r5, r6, r7, r8, r9, ?_, ?_, ?_, ?_, ?_⟩, by simp [intOf]⟩
        all_goals first | assumption | (intro hz; first | (exact absurd hz (by omega)) | (simp_all))
    · go_wp2
      go_region_held3 (fun w' => Below wr.heap.size wr w' ∧ w'.cell? ⟨w.heap.size, 0, none⟩ = some (.slice (some ⟨b0, o0, none⟩) B.length c0) ∧ w'.cell? ⟨w.heap.size, 1, none⟩ = some (.slice (some ⟨b1, o1, none⟩) C.length c1) ∧ w'.cell? ⟨w.heap.size + 2, 4, none⟩ = some (.int .i64 x4)) ((go_split_ands; refine ⟨?_, ?_, ?_, ?_⟩ <;> first | exact (Below.refl _ _).drew | exact ((Below.refl _ _).drew).trans hb1 | exact below_cell hb1 (show _ < wr.heap.size by omega) cp0 | exact below_cell hb1 (show _ < wr.heap.size by omega) cp1 | exact below_cell hb1 (show _ < wr.heap.size by omega) cx4 | go_keep))
        ((go_at_call 123; refine (fits b0 o0 c0 b1 o1 c1 B C k4 x4 _ hB hC ?_).mono ?_; (exact h.later hbel.drew); rintro e w1 ⟨rfl, hb1⟩))
      rename_i hHeldx; clear hHeldx
      have hs1 : wr.heap.size ≤ w1.heap.size := hb1.size
      have R : Hid _ := (⟨hbel.drew.trans (hb1.mono hbel.size), Nat.le_trans hsz hs1, below_cell hb1 (show _ < wr.heap.size by omega) cp0, below_cell hb1 (show _ < wr.heap.size by omega) cp1, below_cell hb1 (show _ < wr.heap.size by omega) cx0, below_cell hb1 (show _ < wr.heap.size by omega) cx1, below_cell hb1 (show _ < wr.heap.size by omega) cx2, below_cell hb1 (show _ < wr.heap.size by omega) cx3, below_cell hb1 (show _ < wr.heap.size by omega) cx4⟩ : Below w.heap.size w w1 ∧ w.heap.size + 3 ≤ w1.heap.size ∧ _ ∧ _ ∧ _ ∧ _ ∧ _ ∧ _ ∧ _)
      clear hb1 cp0 cp1 cx0 cx1 cx2 cx3 cx4 hbel
      go_wp2
      · go_ret
        exact ⟨ret_bool (by simp_all [fit5]), R.out.1⟩
      · obtain ⟨r1, r2, r3, r4, r5, r6, r7, r8, r9⟩ := R.out
        obtain ⟨f0, f1, f2, f3, f4⟩ := F.out
        refine ⟨⟨5, by omega, rfl, r1, r2, r3, r4, r5, r6, r7, r8, r9, ?_, ?_, ?_, ?_, ?_⟩, by simp [intOf]⟩
        all_goals first | assumption | (intro hz; first | (exact absurd hz (by omega)) | (simp_all))
    · go_wp2
      go_ret
      obtain ⟨f0, f1, f2, f3, f4⟩ := F.out
      exact ⟨ret_bool (by simp [fit5, f0 (by omega), f1 (by omega), f2 (by omega), f3 (by omega), f4 (by omega)]), hbel⟩

end Go.Proofs.YtcmnmogmdhofcabGreat.form

/- What layout.mayStand answers. -/
namespace Go.Proofs.YtcmnmogmdhofcabGreat.form
open Go.RowKit
set_option linter.unusedVariables false
attribute [local go_sem ↓] Go.wp_at_zero Go.wp_at_succ

def fitAs (B : List Bool) (nC : Nat) (i : LIns) (width : Int) : Bool :=
  fit5 B nC (st (kd i.op 0) width) (st (kd i.op 1) width) (st (kd i.op 2) width) (st (kd i.op 3) width) (st (kd i.op 4) width) i.dest i.a i.b i.c i.n
def standB (B : List Bool) (nC : Nat) (i : LIns) : Bool := knownB i.op && (fitAs B nC i 1 || fitAs B nC i 2)

set_option maxRecDepth 100000 in
set_option maxHeartbeats 1000000 in
theorem mayStand (b0 o0 c0 b1 o1 c1 : Nat) (B : List Bool) (C : List LIns) (i : LIns) (w : World) (hB : B.length ≤ 12) (hC : C.length ≤ 40) (h : Held w b0 o0 b1 o1 B C) (hn0 : 0 ≤ i.n) (hn1 : i.n < 4294967296) :
    Calls Tryz.prog 61 #[progV b0 o0 B.length c0 b1 o1 C.length c1, i.val] w fun e w' => e = .returned (.bool (standB B C.length i)) ∧ Below w.heap.size w w' := by
  unfold progV LIns.val
  by_cases hkn : knownB i.op = true
  case neg =>
    have hkf : knownB i.op = false := by simpa using hkn
    clear hkn
    go_enter Tryz.func61, Tryz.ntmps61
    go_wp2_with (go_at_call 75; refine (kindsOf _ _).mono ?_; rintro e w1 ⟨rfl, hb1⟩; unfold fiveV)
    go_ret
    exact ⟨ret_bool (by simp [standB, hkf]), ((((Below.refl _ _).alloc (Nat.le_refl _) _).alloc (by simp) _).trans (hb1.mono (by simp; omega))).alloc (by have := hb1.size; simp at this; omega) _⟩
  case pos =>
    go_enter Tryz.func61, Tryz.ntmps61
    go_wp2_with (go_at_call 75; refine (kindsOf _ _).mono ?_; rintro e w1 ⟨rfl, hb1⟩; unfold fiveV; have p0 : w1.cell? ⟨w.heap.size, 0, none⟩ = some (.slice (some ⟨b0, o0, none⟩) B.length c0) := step_cell hb1 (by simp [go_sem]); have p1 : w1.cell? ⟨w.heap.size, 1, none⟩ = some (.slice (some ⟨b1, o1, none⟩) C.length c1) := step_cell hb1 (by simp [go_sem]); have d1 : w1.cell? ⟨w.heap.size + 1, 1, none⟩ = some (.int .i64 i.dest) := step_cell hb1 (by simp [go_sem]); have d2 : w1.cell? ⟨w.heap.size + 1, 2, none⟩ = some (.int .i64 i.a) := step_cell hb1 (by simp [go_sem]); have d3 : w1.cell? ⟨w.heap.size + 1, 3, none⟩ = some (.int .i64 i.b) := step_cell hb1 (by simp [go_sem]); have d4 : w1.cell? ⟨w.heap.size + 1, 4, none⟩ = some (.int .i64 i.c) := step_cell hb1 (by simp [go_sem]); have d5 : w1.cell? ⟨w.heap.size + 1, 5, none⟩ = some (.int .u32 i.n) := step_cell hb1 (by simp [go_sem]); have hz1 : w.heap.size + 1 < w1.heap.size := (by have := hb1.size; simp at this; omega); have hz0 : w.heap.size < w1.heap.size := (by omega); have HB : Hid (Below w.heap.size w w1) := ((((Below.refl _ _).alloc (Nat.le_refl _) _).alloc (by simp) _).trans (hb1.mono (by simp; omega))); clear hb1)
    have HW : Hid (Below w.heap.size w ((w1.alloc (.cells #[.int .i64 (kd i.op 0), .int .i64 (kd i.op 1), .int .i64 (kd i.op 2), .int .i64 (kd i.op 3), .int .i64 (kd i.op 4)] 141)).alloc (.cells #[.int .i64 i.dest, .int .i64 i.a, .int .i64 i.b, .int .i64 i.c, .int .i64 i.n] 162))) := ((HB.out.alloc (by omega) _).alloc (by simp; omega) _)
    cases hf1 : fit5 B C.length (st (kd i.op 0) 1) (st (kd i.op 1) 1) (st (kd i.op 2) 1) (st (kd i.op 3) 1) (st (kd i.op 4) 1) i.dest i.a i.b i.c i.n
    case true =>
      refine wp_region_held_drew (S := (fun w' => Below w.heap.size w w' ∧ w'.cell? ⟨w.heap.size, 0, none⟩ = some (.slice (some ⟨b0, o0, none⟩) B.length c0) ∧ w'.cell? ⟨w.heap.size, 1, none⟩ = some (.slice (some ⟨b1, o1, none⟩) C.length c1) ∧ w'.cell? ⟨w1.heap.size, 0, none⟩ = some (.int .i64 (kd i.op 0)) ∧ w'.cell? ⟨w1.heap.size, 1, none⟩ = some (.int .i64 (kd i.op 1)) ∧ w'.cell? ⟨w1.heap.size, 2, none⟩ = some (.int .i64 (kd i.op 2)) ∧ w'.cell? ⟨w1.heap.size, 3, none⟩ = some (.int .i64 (kd i.op 3)) ∧ w'.cell? ⟨w1.heap.size, 4, none⟩ = some (.int .i64 (kd i.op 4)) ∧ w'.cell? ⟨w1.heap.size + 1, 0, none⟩ = some (.int .i64 i.dest) ∧ w'.cell? ⟨w1.heap.size + 1, 1, none⟩ = some (.int .i64 i.a) ∧ w'.cell? ⟨w1.heap.size + 1, 2, none⟩ = some (.int .i64 i.b) ∧ w'.cell? ⟨w1.heap.size + 1, 3, none⟩ = some (.int .i64 i.c) ∧ w'.cell? ⟨w1.heap.size + 1, 4, none⟩ = some (.int .i64 i.n))) (by kernel_rfl) ?_ (fun hHeld => ?_)
      · ((go_split_ands; refine ⟨?_, ?_, ?_, ?_, ?_, ?_, ?_, ?_, ?_, ?_, ?_, ?_, ?_⟩ <;> first | exact HW.out.drew | assumption | exact step_below (by assumption) (by assumption) | exact step_cell (by assumption) (by assumption) | go_keep))
      refine wpAnyH_take (i := 0) (v := ?_) rfl (by kernel_rfl) (by kernel_rfl) (by kernel_rfl) (fun _ _ _ h => h) (Or.inl ⟨by rfl, ?_⟩) (by assumption) ?_
      case refine_2 => (intro w hSw; (try dsimp only at hSw); go_simp; first | done | (with_reducible rfl))
      show wpAnyH _ _ _ _ _ _ _ (Act.put _ (some 28) _) _
      try simp only [Act.put]
      refine wpAnyH_take (i := 1) (v := ?_) rfl (by kernel_rfl) (by kernel_rfl) (by kernel_rfl) (fun _ _ _ h => h) (Or.inl ⟨by rfl, ?_⟩) (by assumption) ?_
      case refine_2 => (intro w hSw; (try dsimp only at hSw); go_simp; first | done | (with_reducible rfl))
      show wpAnyH _ _ _ _ _ _ _ (Act.put _ (some 29) _) _
      try simp only [Act.put]
      refine wpAnyH_take (i := 3) (v := ?_) rfl (by kernel_rfl) (by kernel_rfl) (by kernel_rfl) (fun _ _ _ h => h) (Or.inl ⟨by rfl, ?_⟩) (by assumption) ?_
      case refine_2 => (intro w hSw; (try dsimp only at hSw); go_simp; first | done | (with_reducible rfl))
      show wpAnyH _ _ _ _ _ _ _ (Act.put _ (some 31) _) _
      try simp only [Act.put]
      refine wpAnyH_ready (rs := [2]) (by kernel_rfl) (by simp) ?_
      refine AllReadyH.cons rfl (fun K hK => ?_) AllReadyH.nil
      go_simp
      go_at_call 95; refine (settle _ _ _ _ _ _ _).mono ?_; rintro e wa ⟨rfl, hba⟩; unfold fiveV
      go_wp2_with fail
      refine hK.out _ _ ?_ (fun hHeld => ?_)
      · ((go_split_ands; refine ⟨?_, ?_, ?_, ?_, ?_, ?_, ?_, ?_, ?_, ?_, ?_, ?_, ?_⟩ <;> first | exact HW.out.drew | assumption | exact step_below (by assumption) (by assumption) | exact step_cell (by assumption) (by assumption) | go_keep))
      clear hK K
      try simp only [Act.put]
      refine wpAnyH_ready (rs := [4]) (by kernel_rfl) (by simp) ?_
      refine AllReadyH.cons rfl (fun K hK => ?_) AllReadyH.nil
      go_simp
      go_at_call 94; refine (fit b0 o0 c0 b1 o1 c1 B C _ _ _ _ _ _ _ _ _ _ _ hB hC ?_).mono ?_; (go_split_ands; exact h.later (by assumption)); rintro e wb ⟨rfl, hbb⟩; rw [hf1]
      go_wp2_with fail
      refine hK.out _ _ ?_ (fun hHeld => ?_)
      · ((go_split_ands; refine ⟨?_, ?_, ?_, ?_, ?_, ?_, ?_, ?_, ?_, ?_, ?_, ?_, ?_⟩ <;> first | exact HW.out.drew | assumption | exact step_below (by assumption) (by assumption) | exact step_cell (by assumption) (by assumption) | go_keep))
      clear hK K
      try simp only [Act.put]
      refine wpAnyH_take (i := 5) (v := ?_) rfl (by kernel_rfl) (by kernel_rfl) (by kernel_rfl) (fun _ _ _ h => h) (Or.inl ⟨by rfl, ?_⟩) (by assumption) ?_
      case refine_2 => (intro w hSw; (try dsimp only at hSw); go_simp; first | done | (with_reducible rfl))
      show wpAnyH _ _ _ _ _ _ _ (Act.put _ (some 33) _) _
      try simp only [Act.put]
      refine wpAnyH_take (i := 6) (v := undef) rfl (by kernel_rfl) (by kernel_rfl) (by kernel_rfl) (fun _ _ _ h => h) (Or.inr ⟨by rfl, rfl⟩) (by assumption) ?_
      show wpAnyH _ _ _ _ _ _ _ (Act.put _ (some 34) _) _
      try simp only [Act.put]
      refine wpAnyH_take (i := 7) (v := undef) rfl (by kernel_rfl) (by kernel_rfl) (by kernel_rfl) (fun _ _ _ h => h) (Or.inr ⟨by rfl, rfl⟩) (by assumption) ?_
      show wpAnyH _ _ _ _ _ _ _ (Act.put _ (some 35) _) _
      try simp only [Act.put]
      refine wpAnyH_take (i := 9) (v := undef) rfl (by kernel_rfl) (by kernel_rfl) (by kernel_rfl) (fun _ _ _ h => h) (Or.inr ⟨by rfl, rfl⟩) (by assumption) ?_
      show wpAnyH _ _ _ _ _ _ _ (Act.put _ (some 37) _) _
      try simp only [Act.put]
      refine wpAnyH_take (i := 8) (v := undef) rfl (by kernel_rfl) (by kernel_rfl) (by kernel_rfl) (fun _ _ _ h => h) (Or.inr ⟨by rfl, rfl⟩) (by assumption) ?_
      show wpAnyH _ _ _ _ _ _ _ (Act.put _ (some 36) _) _
      try simp only [Act.put]
      refine wpAnyH_take (i := 10) (v := undef) rfl (by kernel_rfl) (by kernel_rfl) (by kernel_rfl) (fun _ _ _ h => h) (Or.inr ⟨by rfl, rfl⟩) (by assumption) ?_
      show wpAnyH _ _ _ _ _ _ _ (Act.put _ (some 38) _) _
      try simp only [Act.put]
      refine wpAnyH_take (i := 11) (v := ?_) rfl (by kernel_rfl) (by kernel_rfl) (by kernel_rfl) (fun _ _ _ h => h) (Or.inl ⟨by rfl, ?_⟩) (by assumption) ?_
      case refine_2 => (intro w hSw; (try dsimp only at hSw); go_simp; first | done | (with_reducible rfl))
      show wpAnyH _ _ _ _ _ _ _ (Act.put _ (some 39) _) _
      try simp only [Act.put]
      refine wpAnyH_take (i := 12) (v := ?_) rfl (by kernel_rfl) (by kernel_rfl) (by kernel_rfl) (fun _ _ _ h => h) (Or.inl ⟨by rfl, ?_⟩) (by assumption) ?_
      case refine_2 => (intro w hSw; (try dsimp only at hSw); go_simp; first | done | (with_reducible rfl))
      show wpAnyH _ _ _ _ _ _ _ (Act.put _ (some 4) _) _
      try simp only [Act.put]
      refine wpAnyH_done (by kernel_rfl) ?_ _
      go_wp2
      go_ret
      refine ⟨?_, hHeld.1⟩
      rw [show standB B C.length i = true by simp [standB, fitAs, hkn, hf1]]
      kernel_rfl
    case false =>
      go_region_held3 (fun w' => Below w.heap.size w w' ∧ w'.cell? ⟨w.heap.size, 0, none⟩ = some (.slice (some ⟨b0, o0, none⟩) B.length c0) ∧ w'.cell? ⟨w.heap.size, 1, none⟩ = some (.slice (some ⟨b1, o1, none⟩) C.length c1) ∧ w'.cell? ⟨w1.heap.size, 0, none⟩ = some (.int .i64 (kd i.op 0)) ∧ w'.cell? ⟨w1.heap.size, 1, none⟩ = some (.int .i64 (kd i.op 1)) ∧ w'.cell? ⟨w1.heap.size, 2, none⟩ = some (.int .i64 (kd i.op 2)) ∧ w'.cell? ⟨w1.heap.size, 3, none⟩ = some (.int .i64 (kd i.op 3)) ∧ w'.cell? ⟨w1.heap.size, 4, none⟩ = some (.int .i64 (kd i.op 4)) ∧ w'.cell? ⟨w1.heap.size + 1, 0, none⟩ = some (.int .i64 i.dest) ∧ w'.cell? ⟨w1.heap.size + 1, 1, none⟩ = some (.int .i64 i.a) ∧ w'.cell? ⟨w1.heap.size + 1, 2, none⟩ = some (.int .i64 i.b) ∧ w'.cell? ⟨w1.heap.size + 1, 3, none⟩ = some (.int .i64 i.c) ∧ w'.cell? ⟨w1.heap.size + 1, 4, none⟩ = some (.int .i64 i.n))
      ((go_split_ands; refine ⟨?_, ?_, ?_, ?_, ?_, ?_, ?_, ?_, ?_, ?_, ?_, ?_, ?_⟩ <;> first | exact HW.out.drew | assumption | exact step_below (by assumption) (by assumption) | exact step_cell (by assumption) (by assumption) | go_keep))
      ((first | (go_at_call 95; refine (settle _ _ _ _ _ _ _).mono ?_; rintro e wa ⟨rfl, hba⟩; unfold fiveV) | (go_at_call 94; refine (fit b0 o0 c0 b1 o1 c1 B C _ _ _ _ _ _ _ _ _ _ _ hB hC ?_).mono ?_; (go_split_ands; exact h.later (by assumption)); rintro e wb ⟨rfl, hbb⟩; (try rw [hf1]))))
      go_wp2
      go_ret
      rename_i hHeldx
      exact ⟨ret_bool (by simp [standB, fitAs, hkn, hf1]), hHeldx.1⟩

end Go.Proofs.YtcmnmogmdhofcabGreat.form

/- What layout.May answers. -/
namespace Go.Proofs.YtcmnmogmdhofcabGreat.form
open Go.RowKit
set_option linter.unusedVariables false

def mayB (B : List Bool) (C : List LIns) : Bool := sizesB B C && C.all (standB B C.length)

theorem may_no (v : Value) (B : List Bool) (C : List LIns) (w : World) (h : ProgIs w v B C) (hs : sizesB B C = false) :
    Calls Tryz.prog 35 #[v] w fun e w' => e = .returned (.bool false) ∧ Below w.heap.size w w' := by
  obtain ⟨⟨a0, c0, a1, c1, rfl, -⟩, l0, l1, -⟩ := h
  have hs' : ¬ (1 ≤ B.length ∧ B.length ≤ 12 ∧ 1 ≤ C.length ∧ C.length ≤ 40) := by
    intro hh; unfold sizesB at hs; simp at hs; omega
  have HS : Hid _ := hs'
  clear hs hs'
  go_enter Tryz.func35, Tryz.ntmps35
  go_wp2_with (go_at_call 60; refine (within _ _ _).mono ?_; rintro e w' ⟨rfl, rfl⟩)
  all_goals first
    | (go_ret; exact ⟨rfl, (Below.refl _ _).alloc (Nat.le_refl _) _⟩)
    | (exfalso; apply HS.out; simp_all; omega)

set_option maxRecDepth 100000 in
set_option maxHeartbeats 1000000 in
theorem may_yes (b0 o0 c0 b1 o1 c1 : Nat) (B : List Bool) (C : List LIns) (w : World) (h : Held w b0 o0 b1 o1 B C) (hn : ∀ i, i < C.length → 0 ≤ (C.getD i .zero).n ∧ (C.getD i .zero).n < 4294967296) (hs : sizesB B C = true) :
    Calls Tryz.prog 35 #[progV b0 o0 B.length c0 b1 o1 C.length c1] w fun e w' => e = .returned (.bool (C.all (standB B C.length))) ∧ Below w.heap.size w w' := by
  obtain ⟨s1, s2, s3, s4⟩ := sizes_of hs
  have j1 : (1 : Int) ≤ (B.length : Int) := by omega
  have j2 : (B.length : Int) ≤ 12 := by omega
  have j3 : (1 : Int) ≤ (C.length : Int) := by omega
  have j4 : (C.length : Int) ≤ 40 := by omega
  unfold progV
  go_enter Tryz.func35, Tryz.ntmps35
  go_wp2_with (go_at_call 60; refine (within _ _ _).mono ?_; rintro e w' ⟨rfl, rfl⟩)
  go_loopw [20] (fun i wr => ∃ k : Nat, k ≤ C.length ∧ i = .int .i64 k ∧ Below w.heap.size w wr ∧ w.heap.size < wr.heap.size ∧
      wr.cell? ⟨w.heap.size, 0, none⟩ = some (.slice (some ⟨b0, o0, none⟩) B.length c0) ∧ wr.cell? ⟨w.heap.size, 1, none⟩ = some (.slice (some ⟨b1, o1, none⟩) C.length c1) ∧
      (∀ j, j < k → standB B C.length (C.getD j .zero) = true))
    (fun i _ => C.length - (intOf i).toNat)
  case atStart => exact ⟨0, by omega, rfl, (Below.refl _ _).alloc (Nat.le_refl _) _, by simp, by simp [go_sem], by simp [go_sem], fun j hj => absurd hj (by omega)⟩
  case round =>
    obtain ⟨k, hk, rfl, hbel, hsz, cp0, cp1, hall⟩ := hrel
    have F : Hid _ := hall
    have HN : Hid _ := hn
    clear hall hn
    have hh := h.later hbel
    by_cases hlt : k < C.length
    · obtain ⟨d0, d1, d2, d3, d4, d5⟩ := hh.code k hlt
      obtain ⟨n0, n1⟩ := HN.out k hlt
      obtain ⟨i, hi⟩ : ∃ i, i = C.getD k .zero := ⟨_, rfl⟩
      rw [← hi] at d0 d1 d2 d3 d4 d5 n0 n1
      have HI : Hid _ := hi
      clear hi
      go_wp2_with (go_at_call 61; refine (mayStand b0 o0 c0 b1 o1 c1 B C i _ s2 s4 ?_ n0 n1).mono ?_; (exact hh.alloc _); rintro e w1 ⟨rfl, hb1⟩)
      all_goals
        have hb2 := over_alloc hb1
        have hbel1 := step_below hb2 hbel
      · go_ret
        refine ⟨ret_bool ?_, hbel1⟩
        have hf : standB B C.length i = false := by simp_all
        rw [eq_comm, List.all_eq_false]
        refine ⟨i, ?_, by simp [hf]⟩
        rw [HI.out]
        simp [List.getD, hlt]
      · refine ⟨⟨k + 1, by omega, by go_num, hbel1, Nat.lt_of_lt_of_le hsz hb2.size, step_cell hb2 cp0, step_cell hb2 cp1, ?_⟩, by simp [intOf]; omega⟩
        intro j hj
        by_cases hjk : j < k
        · exact F.out j hjk
        · obtain rfl : j = k := by omega
          rw [← HI.out]
          simp_all
    · go_wp2
      go_ret
      exact ⟨ret_bool (by
        rw [List.all_eq_true.2]
        intro x hx
        obtain ⟨j, hj, rfl⟩ := List.getElem_of_mem hx
        have := F.out j (by omega)
        simpa [List.getD, hj] using this), hbel⟩

theorem may (v : Value) (B : List Bool) (C : List LIns) (w : World) (h : ProgIs w v B C) :
    Calls Tryz.prog 35 #[v] w fun e w' => e = .returned (.bool (mayB B C)) ∧ Below w.heap.size w w' := by
  cases hs : sizesB B C with
  | false => rw [show mayB B C = false by simp [mayB, hs]]; exact may_no v B C w h hs
  | true =>
    rw [show mayB B C = C.all (standB B C.length) by simp [mayB, hs]]
    obtain ⟨s1, s2, s3, s4⟩ := sizes_of hs
    obtain ⟨⟨a0, c0, a1, c1, rfl, hh⟩, l0, l1, hn⟩ := h
    obtain ⟨b0, o0, b1, o1, rfl, rfl, hH⟩ := hh s1 s3
    exact may_yes b0 o0 c0 b1 o1 c1 B C w hH hn hs

end Go.Proofs.YtcmnmogmdhofcabGreat.form

/- The program's answer to whether an instruction may stand is the document's. -/
namespace Go.Proofs.YtcmnmogmdhofcabGreat.form
set_option linter.unusedVariables false

theorem same_at (B : List Bool) (nC : Nat) (i : LIns) (n : Int) (hop : i.op = n) (hn : n = 1 ∨ n = 2 ∨ n = 3 ∨ n = 4 ∨ n = 5 ∨ n = 6 ∨ n = 7 ∨ n = 8 ∨ n = 9 ∨ n = 10) : standB B nC i = insB B nC i := by
  obtain ⟨op, d, a, b, c, N⟩ := i
  simp only at hop
  subst hop
  rw [Bool.eq_iff_iff]
  rcases hn with rfl | rfl | rfl | rfl | rfl | rfl | rfl | rfl | rfl | rfl
  all_goals simp [standB, fitAs, fit5, fitB, st, kd, knownB, insB, fieldB, lineB, widthsB, wl, wl0, wl1, givesB, manyI, bw]
  case inr.inl =>
    generalize B[d.toNat]?.getD false = x
    generalize B[a.toNat]?.getD false = y
    cases x <;> cases y <;> simp <;> omega
  all_goals
    generalize B[d.toNat]?.getD false = x
    generalize B[a.toNat]?.getD false = y
    generalize B[b.toNat]?.getD false = z
    constructor <;> intro h <;> simp_all

theorem same_narrow (B : List Bool) (nC : Nat) (i : LIns) (h1 : 21 ≤ i.op) (h2 : i.op ≤ 26) : standB B nC i = insB B nC i := by
  have hk := known_narrow i.op h1 h2
  have hd := kd_narrow i.op h1 h2
  have hg : givesB i.op = true := by unfold givesB; simp; omega
  have hm : manyI i.op = 2 := by unfold manyI; rw [if_neg (by omega), if_neg (by omega)]
  have hl : lineB nC i = (i.c == 0) := by unfold lineB; rw [if_neg (by omega)]
  have h1' : (i.op == 1) = false := by simp; omega
  have hw : widthsB B i = (wl B i).all (fun x => x == false) := by
    unfold widthsB
    rw [if_neg (by omega), if_neg (by omega), if_neg (by omega), show decide (40 < i.op) = false by simp; omega]
  rw [Bool.eq_iff_iff]
  simp [standB, fitAs, fit5, hk, hd, insB, hg, hm, hl, h1', hw, st, fitB, fieldB, wl, wl0, wl1, bw]
  clear hw
  generalize B[i.dest.toNat]?.getD false = x
  generalize B[i.a.toNat]?.getD false = y
  generalize B[i.b.toNat]?.getD false = z
  constructor <;> intro h <;> simp_all

theorem same_wide (B : List Bool) (nC : Nat) (i : LIns) (h1 : 41 ≤ i.op) (h2 : i.op ≤ 45) : standB B nC i = insB B nC i := by
  have hk := known_wide i.op h1 h2
  have hd := kd_wide i.op h1 h2
  have hg : givesB i.op = true := by unfold givesB; simp; omega
  have hm : manyI i.op = 2 := by unfold manyI; rw [if_neg (by omega), if_neg (by omega)]
  have hl : lineB nC i = (i.c == 0) := by unfold lineB; rw [if_neg (by omega)]
  have h1' : (i.op == 1) = false := by simp; omega
  have hw : widthsB B i = (wl B i).all (fun x => x == true) := by
    unfold widthsB
    rw [if_neg (by omega), if_neg (by omega), if_neg (by omega), show decide (40 < i.op) = true by simp; omega]
  rw [Bool.eq_iff_iff]
  simp [standB, fitAs, fit5, hk, hd, insB, hg, hm, hl, h1', hw, st, fitB, fieldB, wl, wl0, wl1, bw]
  clear hw
  generalize B[i.dest.toNat]?.getD false = x
  generalize B[i.a.toNat]?.getD false = y
  generalize B[i.b.toNat]?.getD false = z
  constructor <;> intro h <;> simp_all

theorem stand_ins (B : List Bool) (nC : Nat) (i : LIns) : standB B nC i = insB B nC i := by
  cases hk : knownB i.op with
  | false => simp [standB, insB, hk]
  | true =>
    have hk' := hk
    unfold knownB at hk'
    simp at hk'
    rcases hk' with (⟨h1, h2⟩ | ⟨h1, h2⟩) | ⟨h1, h2⟩
    · exact same_at B nC i i.op rfl (by omega)
    · exact same_narrow B nC i h1 h2
    · exact same_wide B nC i h1 h2

theorem may_same (B : List Bool) (C : List LIns) : mayB B C = refMayB B C := by
  unfold mayB refMayB
  rw [show standB B C.length = insB B C.length from funext (stand_ins B C.length)]

end Go.Proofs.YtcmnmogmdhofcabGreat.form
