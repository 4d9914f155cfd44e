/- What the program's own function on a row of places (place.room.rowMay) answers, and that it is the document's. -/
import Derived.Test.YtcmnmogmdhofcaaPlaceOwnFields
namespace Go.Proofs.Ytcmnmogmdhofcaa.form
open Go.RowKit
set_option linter.unusedVariables false
attribute [local go_sem ↓] Go.wp_at_zero Go.wp_at_succ

def rowO (B : List Bool) (a b c : Int) (i : LIns) (r : LRow) : Bool := fieldsO B a b c i r && movesO a b c r.before 6 && movesO a b c r.after (mostI i.op)
theorem most_le (op : Int) : mostI op ≤ 6 := by unfold mostI; split <;> omega

theorem has_is {s slots : Int} (h : targetB s = true) (p : LPlace) : hasB s (s / 2) slots p = isB s slots p := by
  have hs : s = 4 ∨ s = 6 ∨ s = 8 ∨ s = 10 ∨ s = 12 ∨ s = 14 ∨ s = 16 := by unfold targetB at h; simp at h; omega
  unfold hasB isB
  split
  · rfl
  · split
    · rw [Bool.eq_iff_iff]; simp; omega
    · rfl
theorem hold_reg {B : List Bool} {s slots : Int} (h : targetB s = true) (p : LPlace) (t : Int) : holdB s (s / 2) slots p (B.getD t.toNat false) = regB B s t p := by
  unfold holdB regB
  rw [has_is h]
  cases B.getD t.toNat false
  · simp only [Bool.false_eq_true, if_false]
    by_cases e : p.kind = 1
    · unfold isB; simp [e]
    · rw [show (p.kind == 1) = false by simpa using e]; rfl
  · simp only [if_true]
    by_cases e : p.kind = 2
    · unfold isB; simp [e]
    · rw [show (p.kind == 2) = false by simpa using e]; rfl
theorem field_same {B : List Bool} {s slots : Int} (h : targetB s = true) (x : Bool) (t : Int) (p : LPlace) : fieldO B s (s / 2) slots x t p = fieldP B s x t p := by
  unfold fieldO fieldP
  cases x
  · simp only [Bool.false_eq_true, if_false, emptyB]; cases h1 : (p.kind == 0) <;> cases h2 : (p.n == 0) <;> simp_all
  · simp only [if_true]; exact hold_reg h p t
theorem fields_same {B : List Bool} {s slots : Int} (h : targetB s = true) (i : LIns) (r : LRow) : fieldsO B s (s / 2) slots i r = (fieldP B s (givesB i.op) i.dest r.dest && fieldP B s (decide (0 < manyI i.op)) i.a r.a && fieldP B s (decide (1 < manyI i.op)) i.b r.b) := by
  unfold fieldsO
  simp only [field_same h]
  rw [show List.range 3 = [0, 1, 2] by decide]
  simp only [List.all_cons, List.all_nil, Bool.and_true, Bool.and_assoc]
  rfl
theorem move_same {s slots : Int} (h : targetB s = true) (m : LMove) : moveO s (s / 2) slots m = moveB s slots m := by
  unfold moveO moveB holdB emptyB
  rw [has_is h, has_is h]
  have hk : kindsB m.dst.kind m.src.kind = (if m.dst.kind == 3 then m.src.kind != 3 else (m.src.kind == 3) || (m.src.kind == m.dst.kind)) := by
    unfold kindsB
    rw [Bool.eq_iff_iff]
    split <;> split <;> simp_all <;> omega
  rw [hk]
  cases m.cst <;> simp only [Bool.false_eq_true, if_false, if_true] <;> cases isB s slots m.dst <;> cases isB s slots m.src <;> cases (m.n == 0) <;> simp
theorem moves_same {s slots : Int} (h : targetB s = true) (l : List LMove) (most : Int) : movesO s (s / 2) slots l most = (decide ((l.length : Int) ≤ most) && l.all (moveB s slots)) := by
  unfold movesO
  rw [show moveO s (s / 2) slots = moveB s slots from funext (move_same h)]
theorem row_same {B : List Bool} {s slots : Int} (h : targetB s = true) (i : LIns) (r : LRow) : rowO B s (s / 2) slots i r = rowB B s slots i r := by
  unfold rowO rowB
  rw [fields_same h, moves_same h, moves_same h]
  unfold movesB mostI
  generalize (fieldP B s (givesB i.op) i.dest r.dest && fieldP B s (decide (0 < manyI i.op)) i.a r.a && fieldP B s (decide (1 < manyI i.op)) i.b r.b) = x
  generalize r.before.all (moveB s slots) = y
  generalize r.after.all (moveB s slots) = z
  rw [show decide ((r.before.length : Int) ≤ 6) = decide (r.before.length ≤ 6) by rw [Bool.eq_iff_iff]; simp; omega]
  generalize decide (r.before.length ≤ 6) = u
  by_cases e : i.op = 8 ∨ i.op = 9 ∨ i.op = 10
  · rw [if_pos e, show ((i.op == 8 || i.op == 9 || i.op == 10)) = true by simpa [or_assoc] using e]
    by_cases e0 : r.after.length = 0
    · simp [e0, Bool.and_assoc]
    · have e1 : 0 < r.after.length := by omega
      have e2 : ¬ (r.after.length : Int) ≤ 0 := by omega
      rw [decide_eq_false e2, decide_eq_true e1]
      simp
  · rw [if_neg e, show ((i.op == 8 || i.op == 9 || i.op == 10)) = false by simpa [or_assoc, and_assoc] using e]
    rw [show decide ((r.after.length : Int) ≤ 6) = decide (r.after.length ≤ 6) by rw [Bool.eq_iff_iff]; simp; omega]
    simp [Bool.and_assoc]

set_option maxRecDepth 100000 in
set_option maxHeartbeats 8000000 in
theorem rowMay (b0 o0 c0 b1 o1 c1 : Nat) (B : List Bool) (C : List LIns) (a b c : Int) (i : LIns) (r : LRow) (ab : Option Addr) (cb : Nat) (aa : Option Addr) (ca : Nat) (w : World) (hB : B.length ≤ 12) (h : Held w b0 o0 b1 o1 B C)
    (hk : knownB i.op = true) (hf : ∀ j, j < 3 → tjF i j = true → 0 ≤ fjF i j ∧ fjF i j < B.length) (hmb : MovesIs w (.slice ab r.before.length cb) r.before) (hma : MovesIs w (.slice aa r.after.length ca) r.after) :
    Calls Try.prog 61 #[roomV a b c, progV b0 o0 B.length c0 b1 o1 C.length c1, i.val, rowV r ab cb aa ca] w fun e w' => e = .returned (.bool (rowO B a b c i r)) ∧ Below w.heap.size w w' := by
  have HF : Hid (∀ j, j < 3 → tjF i j = true → 0 ≤ fjF i j ∧ fjF i j < B.length) := hf
  have HK : Hid (knownB i.op = true) := hk
  have HH : Hid (Held w b0 o0 b1 o1 B C) := h
  have HMB : Hid (MovesIs w (.slice ab r.before.length cb) r.before) := hmb
  have HMA : Hid (MovesIs w (.slice aa r.after.length ca) r.after) := hma
  have HR : Hid (rowO B a b c i r = (fieldsO B a b c i r && movesO a b c r.before 6 && movesO a b c r.after (mostI i.op))) := rfl
  clear hf hk h hmb hma
  unfold roomV progV LIns.val rowV
  go_enter Try.func61, Try.ntmps61
  go_upto_region 1 with fail
  obtain ⟨wx, hwx⟩ : ∃ wx, wx = (((w.alloc (.cells #[.int .i64 0, .int .i64 a, .int .i64 b, .int .i64 c] 99)).alloc (.cells #[.slice (some ⟨b0, o0, none⟩) B.length c0, .slice (some ⟨b1, o1, none⟩) C.length c1] 31)).alloc (.cells #[.int .i64 i.op, .int .i64 i.dest, .int .i64 i.a, .int .i64 i.b, .int .i64 i.c, .int .u32 i.n] 50)).alloc (.cells #[.int .i64 r.dest.kind, .int .i64 r.dest.n, .int .i64 r.a.kind, .int .i64 r.a.n, .int .i64 r.b.kind, .int .i64 r.b.n, .slice ab r.before.length cb, .slice aa r.after.length ca] 103) := ⟨_, rfl⟩
  rw [← hwx]
  have HWX : Hid (Below w.heap.size w wx) := by rw [hwx]; exact ((((Below.refl _ _).alloc (Nat.le_refl _) _).alloc (by simp) _).alloc (by simp; omega) _).alloc (by simp; omega) _
  have x0 : wx.cell? ⟨w.heap.size, 0, none⟩ = some (.int .i64 0) := by rw [hwx]; simp [go_sem]
  have x1 : wx.cell? ⟨w.heap.size, 1, none⟩ = some (.int .i64 a) := by rw [hwx]; simp [go_sem]
  have x2 : wx.cell? ⟨w.heap.size, 2, none⟩ = some (.int .i64 b) := by rw [hwx]; simp [go_sem]
  have x3 : wx.cell? ⟨w.heap.size, 3, none⟩ = some (.int .i64 c) := by rw [hwx]; simp [go_sem]
  have x4 : wx.cell? ⟨w.heap.size + 1, 0, none⟩ = some (.slice (some ⟨b0, o0, none⟩) B.length c0) := by rw [hwx]; simp [go_sem]
  have x5 : wx.cell? ⟨w.heap.size + 1, 1, none⟩ = some (.slice (some ⟨b1, o1, none⟩) C.length c1) := by rw [hwx]; simp [go_sem]
  have x6 : wx.cell? ⟨w.heap.size + 1 + 1, 0, none⟩ = some (.int .i64 i.op) := by rw [hwx]; simp [go_sem]
  have x7 : wx.cell? ⟨w.heap.size + 1 + 1, 1, none⟩ = some (.int .i64 i.dest) := by rw [hwx]; simp [go_sem]
  have x8 : wx.cell? ⟨w.heap.size + 1 + 1, 2, none⟩ = some (.int .i64 i.a) := by rw [hwx]; simp [go_sem]
  have x9 : wx.cell? ⟨w.heap.size + 1 + 1, 3, none⟩ = some (.int .i64 i.b) := by rw [hwx]; simp [go_sem]
  have x10 : wx.cell? ⟨w.heap.size + 1 + 1, 4, none⟩ = some (.int .i64 i.c) := by rw [hwx]; simp [go_sem]
  have x11 : wx.cell? ⟨w.heap.size + 1 + 1, 5, none⟩ = some (.int .u32 i.n) := by rw [hwx]; simp [go_sem]
  have x12 : wx.cell? ⟨w.heap.size + 1 + 1 + 1, 0, none⟩ = some (.int .i64 r.dest.kind) := by rw [hwx]; simp [go_sem]
  have x13 : wx.cell? ⟨w.heap.size + 1 + 1 + 1, 1, none⟩ = some (.int .i64 r.dest.n) := by rw [hwx]; simp [go_sem]
  have x14 : wx.cell? ⟨w.heap.size + 1 + 1 + 1, 2, none⟩ = some (.int .i64 r.a.kind) := by rw [hwx]; simp [go_sem]
  have x15 : wx.cell? ⟨w.heap.size + 1 + 1 + 1, 3, none⟩ = some (.int .i64 r.a.n) := by rw [hwx]; simp [go_sem]
  have x16 : wx.cell? ⟨w.heap.size + 1 + 1 + 1, 4, none⟩ = some (.int .i64 r.b.kind) := by rw [hwx]; simp [go_sem]
  have x17 : wx.cell? ⟨w.heap.size + 1 + 1 + 1, 5, none⟩ = some (.int .i64 r.b.n) := by rw [hwx]; simp [go_sem]
  have x18 : wx.cell? ⟨w.heap.size + 1 + 1 + 1, 6, none⟩ = some (.slice ab r.before.length cb) := by rw [hwx]; simp [go_sem]
  have x19 : wx.cell? ⟨w.heap.size + 1 + 1 + 1, 7, none⟩ = some (.slice aa r.after.length ca) := by rw [hwx]; simp [go_sem]
  clear hwx
  cases hf1 : fieldsO B a b c i r
  · skip
    refine wp_region_held_drew (S := (fun w' => Below wx.heap.size wx w' ∧ w'.cell? ⟨w.heap.size, 0, none⟩ = some (.int .i64 0) ∧ w'.cell? ⟨w.heap.size, 1, none⟩ = some (.int .i64 a) ∧ w'.cell? ⟨w.heap.size, 2, none⟩ = some (.int .i64 b) ∧ w'.cell? ⟨w.heap.size, 3, none⟩ = some (.int .i64 c) ∧ w'.cell? ⟨w.heap.size + 1, 0, none⟩ = some (.slice (some ⟨b0, o0, none⟩) B.length c0) ∧ w'.cell? ⟨w.heap.size + 1, 1, none⟩ = some (.slice (some ⟨b1, o1, none⟩) C.length c1) ∧ w'.cell? ⟨w.heap.size + 1 + 1, 0, none⟩ = some (.int .i64 i.op) ∧ w'.cell? ⟨w.heap.size + 1 + 1, 1, none⟩ = some (.int .i64 i.dest) ∧ w'.cell? ⟨w.heap.size + 1 + 1, 2, none⟩ = some (.int .i64 i.a) ∧ w'.cell? ⟨w.heap.size + 1 + 1, 3, none⟩ = some (.int .i64 i.b) ∧ w'.cell? ⟨w.heap.size + 1 + 1, 4, none⟩ = some (.int .i64 i.c) ∧ w'.cell? ⟨w.heap.size + 1 + 1, 5, none⟩ = some (.int .u32 i.n) ∧ w'.cell? ⟨w.heap.size + 1 + 1 + 1, 0, none⟩ = some (.int .i64 r.dest.kind) ∧ w'.cell? ⟨w.heap.size + 1 + 1 + 1, 1, none⟩ = some (.int .i64 r.dest.n) ∧ w'.cell? ⟨w.heap.size + 1 + 1 + 1, 2, none⟩ = some (.int .i64 r.a.kind) ∧ w'.cell? ⟨w.heap.size + 1 + 1 + 1, 3, none⟩ = some (.int .i64 r.a.n) ∧ w'.cell? ⟨w.heap.size + 1 + 1 + 1, 4, none⟩ = some (.int .i64 r.b.kind) ∧ w'.cell? ⟨w.heap.size + 1 + 1 + 1, 5, none⟩ = some (.int .i64 r.b.n) ∧ w'.cell? ⟨w.heap.size + 1 + 1 + 1, 6, none⟩ = some (.slice ab r.before.length cb) ∧ w'.cell? ⟨w.heap.size + 1 + 1 + 1, 7, none⟩ = some (.slice aa r.after.length ca))) (by rfl) ?_ (fun hHeld => ?_)
    · (go_split_ands; refine ⟨?_, ?_, ?_, ?_, ?_, ?_, ?_, ?_, ?_, ?_, ?_, ?_, ?_, ?_, ?_, ?_, ?_, ?_, ?_, ?_, ?_⟩ <;> first | exact (Below.refl _ _).drew | exact ((Below.refl _ _).drew).trans hbr | exact step_below hbr (by assumption) | exact step_cell hbr (by assumption) | go_keep)
    refine wpAnyH_take (i := 0) (v := ?_) rfl (by kernel_rfl) (by kernel_rfl) (by kernel_rfl) (fun _ _ _ h => h) (Or.inl ⟨by rfl, ?_⟩) (by assumption) ?_
    case refine_2 => (intro w hSw; (try dsimp only at hSw); go_simp; first | done | (with_reducible rfl))
    show wpAnyH _ _ _ _ _ _ _ (Act.put _ (some 9) _) _
    simp only [Act.put, List.setIfInBounds_toArray, List.set_cons_zero, List.set_cons_succ]
    refine wpAnyH_take (i := 1) (v := ?_) rfl (by kernel_rfl) (by kernel_rfl) (by kernel_rfl) (fun _ _ _ h => h) (Or.inl ⟨by rfl, ?_⟩) (by assumption) ?_
    case refine_2 => (intro w hSw; (try dsimp only at hSw); go_simp; first | done | (with_reducible rfl))
    show wpAnyH _ _ _ _ _ _ _ (Act.put _ (some 10) _) _
    simp only [Act.put, List.setIfInBounds_toArray, List.set_cons_zero, List.set_cons_succ]
    refine wpAnyH_take (i := 2) (v := ?_) rfl (by kernel_rfl) (by kernel_rfl) (by kernel_rfl) (fun _ _ _ h => h) (Or.inl ⟨by rfl, ?_⟩) (by assumption) ?_
    case refine_2 => (intro w hSw; (try dsimp only at hSw); go_simp; first | done | (with_reducible rfl))
    show wpAnyH _ _ _ _ _ _ _ (Act.put _ (some 11) _) _
    simp only [Act.put, List.setIfInBounds_toArray, List.set_cons_zero, List.set_cons_succ]
    refine wpAnyH_take (i := 3) (v := ?_) rfl (by kernel_rfl) (by kernel_rfl) (by kernel_rfl) (fun _ _ _ h => h) (Or.inl ⟨by rfl, ?_⟩) (by assumption) ?_
    case refine_2 => (intro w hSw; (try dsimp only at hSw); go_simp; first | done | (with_reducible rfl))
    show wpAnyH _ _ _ _ _ _ _ (Act.put _ (some 12) _) _
    simp only [Act.put, List.setIfInBounds_toArray, List.set_cons_zero, List.set_cons_succ]
    refine wpAnyH_ready (rs := [4]) (by kernel_rfl) (by simp) ?_
    refine (AllReadyH.cons rfl (fun K hK => ?_) AllReadyH.nil)
    go_simp
    go_at_call 96
    refine (fieldsMay b0 o0 c0 b1 o1 c1 B C a b c i r ab cb aa ca _ hB (HH.out.later (step_below hHeld.1 HWX.out)) HK.out HF.out).mono ?_
    rw [hf1]
    rintro e w1 ⟨rfl, hbr⟩
    go_wp2_with fail
    refine hK.out _ _ ?_ (fun hHeld => ?_)
    · (exact ⟨step_below hbr hHeld.1, step_cell hbr hHeld.2.1, step_cell hbr hHeld.2.2.1, step_cell hbr hHeld.2.2.2.1, step_cell hbr hHeld.2.2.2.2.1, step_cell hbr hHeld.2.2.2.2.2.1, step_cell hbr hHeld.2.2.2.2.2.2.1, step_cell hbr hHeld.2.2.2.2.2.2.2.1, step_cell hbr hHeld.2.2.2.2.2.2.2.2.1, step_cell hbr hHeld.2.2.2.2.2.2.2.2.2.1, step_cell hbr hHeld.2.2.2.2.2.2.2.2.2.2.1, step_cell hbr hHeld.2.2.2.2.2.2.2.2.2.2.2.1, step_cell hbr hHeld.2.2.2.2.2.2.2.2.2.2.2.2.1, step_cell hbr hHeld.2.2.2.2.2.2.2.2.2.2.2.2.2.1, step_cell hbr hHeld.2.2.2.2.2.2.2.2.2.2.2.2.2.2.1, step_cell hbr hHeld.2.2.2.2.2.2.2.2.2.2.2.2.2.2.2.1, step_cell hbr hHeld.2.2.2.2.2.2.2.2.2.2.2.2.2.2.2.2.1, step_cell hbr hHeld.2.2.2.2.2.2.2.2.2.2.2.2.2.2.2.2.2.1, step_cell hbr hHeld.2.2.2.2.2.2.2.2.2.2.2.2.2.2.2.2.2.2.1, step_cell hbr hHeld.2.2.2.2.2.2.2.2.2.2.2.2.2.2.2.2.2.2.2.1, step_cell hbr hHeld.2.2.2.2.2.2.2.2.2.2.2.2.2.2.2.2.2.2.2.2⟩)
    clear hK K
    try simp only [Act.put, List.setIfInBounds_toArray, List.set_cons_zero, List.set_cons_succ]
    refine wpAnyH_take (i := 5) (v := ?_) rfl (by kernel_rfl) (by kernel_rfl) (by kernel_rfl) (fun _ _ _ h => h) (Or.inl ⟨by rfl, ?_⟩) (by assumption) ?_
    case refine_2 => (intro w hSw; (try dsimp only at hSw); go_simp; first | done | (with_reducible rfl))
    show wpAnyH _ _ _ _ _ _ _ (Act.put _ (some 14) _) _
    simp only [Act.put, List.setIfInBounds_toArray, List.set_cons_zero, List.set_cons_succ]
    refine wpAnyH_take (i := 6) (v := undef) rfl (by kernel_rfl) (by kernel_rfl) (by kernel_rfl) (fun _ _ _ h => h) (Or.inr ⟨by rfl, rfl⟩) (by assumption) ?_
    show wpAnyH _ _ _ _ _ _ _ (Act.put _ (some 15) _) _
    simp only [Act.put, List.setIfInBounds_toArray, List.set_cons_zero, List.set_cons_succ]
    refine wpAnyH_take (i := 7) (v := undef) rfl (by kernel_rfl) (by kernel_rfl) (by kernel_rfl) (fun _ _ _ h => h) (Or.inr ⟨by rfl, rfl⟩) (by assumption) ?_
    show wpAnyH _ _ _ _ _ _ _ (Act.put _ (some 16) _) _
    simp only [Act.put, List.setIfInBounds_toArray, List.set_cons_zero, List.set_cons_succ]
    refine wpAnyH_take (i := 8) (v := undef) rfl (by kernel_rfl) (by kernel_rfl) (by kernel_rfl) (fun _ _ _ h => h) (Or.inr ⟨by rfl, rfl⟩) (by assumption) ?_
    show wpAnyH _ _ _ _ _ _ _ (Act.put _ (some 17) _) _
    simp only [Act.put, List.setIfInBounds_toArray, List.set_cons_zero, List.set_cons_succ]
    refine wpAnyH_take (i := 9) (v := undef) rfl (by kernel_rfl) (by kernel_rfl) (by kernel_rfl) (fun _ _ _ h => h) (Or.inr ⟨by rfl, rfl⟩) (by assumption) ?_
    show wpAnyH _ _ _ _ _ _ _ (Act.put _ (some 18) _) _
    simp only [Act.put, List.setIfInBounds_toArray, List.set_cons_zero, List.set_cons_succ]
    refine wpAnyH_take (i := 10) (v := ?_) rfl (by kernel_rfl) (by kernel_rfl) (by kernel_rfl) (fun _ _ _ h => h) (Or.inl ⟨by rfl, ?_⟩) (by assumption) ?_
    case refine_2 => (intro w hSw; (try dsimp only at hSw); go_simp; first | done | (with_reducible rfl))
    show wpAnyH _ _ _ _ _ _ _ (Act.put _ (some 19) _) _
    simp only [Act.put, List.setIfInBounds_toArray, List.set_cons_zero, List.set_cons_succ]
    refine wpAnyH_take (i := 11) (v := ?_) rfl (by kernel_rfl) (by kernel_rfl) (by kernel_rfl) (fun _ _ _ h => h) (Or.inl ⟨by rfl, ?_⟩) (by assumption) ?_
    case refine_2 => (intro w hSw; (try dsimp only at hSw); go_simp; first | done | (with_reducible rfl))
    show wpAnyH _ _ _ _ _ _ _ (Act.put _ (some 20) _) _
    simp only [Act.put, List.setIfInBounds_toArray, List.set_cons_zero, List.set_cons_succ]
    refine wpAnyH_take (i := 12) (v := undef) rfl (by kernel_rfl) (by kernel_rfl) (by kernel_rfl) (fun _ _ _ h => h) (Or.inr ⟨by rfl, rfl⟩) (by assumption) ?_
    show wpAnyH _ _ _ _ _ _ _ (Act.put _ (some 21) _) _
    simp only [Act.put, List.setIfInBounds_toArray, List.set_cons_zero, List.set_cons_succ]
    refine wpAnyH_take (i := 13) (v := undef) rfl (by kernel_rfl) (by kernel_rfl) (by kernel_rfl) (fun _ _ _ h => h) (Or.inr ⟨by rfl, rfl⟩) (by assumption) ?_
    show wpAnyH _ _ _ _ _ _ _ (Act.put _ (some 22) _) _
    simp only [Act.put, List.setIfInBounds_toArray, List.set_cons_zero, List.set_cons_succ]
    refine wpAnyH_take (i := 14) (v := undef) rfl (by kernel_rfl) (by kernel_rfl) (by kernel_rfl) (fun _ _ _ h => h) (Or.inr ⟨by rfl, rfl⟩) (by assumption) ?_
    show wpAnyH _ _ _ _ _ _ _ (Act.put _ (some 23) _) _
    simp only [Act.put, List.setIfInBounds_toArray, List.set_cons_zero, List.set_cons_succ]
    refine wpAnyH_take (i := 15) (v := undef) rfl (by kernel_rfl) (by kernel_rfl) (by kernel_rfl) (fun _ _ _ h => h) (Or.inr ⟨by rfl, rfl⟩) (by assumption) ?_
    show wpAnyH _ _ _ _ _ _ _ (Act.put _ (some 24) _) _
    simp only [Act.put, List.setIfInBounds_toArray, List.set_cons_zero, List.set_cons_succ]
    refine wpAnyH_take (i := 16) (v := undef) rfl (by kernel_rfl) (by kernel_rfl) (by kernel_rfl) (fun _ _ _ h => h) (Or.inr ⟨by rfl, rfl⟩) (by assumption) ?_
    show wpAnyH _ _ _ _ _ _ _ (Act.put _ (some 25) _) _
    simp only [Act.put, List.setIfInBounds_toArray, List.set_cons_zero, List.set_cons_succ]
    refine wpAnyH_take (i := 17) (v := undef) rfl (by kernel_rfl) (by kernel_rfl) (by kernel_rfl) (fun _ _ _ h => h) (Or.inr ⟨by rfl, rfl⟩) (by assumption) ?_
    show wpAnyH _ _ _ _ _ _ _ (Act.put _ (some 26) _) _
    simp only [Act.put, List.setIfInBounds_toArray, List.set_cons_zero, List.set_cons_succ]
    refine wpAnyH_take (i := 18) (v := undef) rfl (by kernel_rfl) (by kernel_rfl) (by kernel_rfl) (fun _ _ _ h => h) (Or.inr ⟨by rfl, rfl⟩) (by assumption) ?_
    show wpAnyH _ _ _ _ _ _ _ (Act.put _ (some 27) _) _
    simp only [Act.put, List.setIfInBounds_toArray, List.set_cons_zero, List.set_cons_succ]
    refine wpAnyH_take (i := 19) (v := ?_) rfl (by kernel_rfl) (by kernel_rfl) (by kernel_rfl) (fun _ _ _ h => h) (Or.inl ⟨by rfl, ?_⟩) (by assumption) ?_
    case refine_2 => (intro w hSw; (try dsimp only at hSw); go_simp; first | done | (with_reducible rfl))
    show wpAnyH _ _ _ _ _ _ _ (Act.put _ (some 28) _) _
    simp only [Act.put, List.setIfInBounds_toArray, List.set_cons_zero, List.set_cons_succ]
    refine wpAnyH_take (i := 20) (v := ?_) rfl (by kernel_rfl) (by kernel_rfl) (by kernel_rfl) (fun _ _ _ h => h) (Or.inl ⟨by rfl, ?_⟩) (by assumption) ?_
    case refine_2 => (intro w hSw; (try dsimp only at hSw); go_simp; first | done | (with_reducible rfl))
    show wpAnyH _ _ _ _ _ _ _ (Act.put _ (some 8) _) _
    simp only [Act.put, List.setIfInBounds_toArray, List.set_cons_zero, List.set_cons_succ]
    refine wpAnyH_done (by kernel_rfl) ?_ _
    have HB9 : Hid (Below wx.heap.size wx w1) := hHeld.1
    clear hHeld hbr
    go_wp2
    go_ret
    exact ⟨ret_bool (by rw [HR.out, hf1]; rfl), step_below HB9.out HWX.out⟩
  · cases hf2 : movesO a b c r.before 6
    · skip
      refine wp_region_held_drew (S := (fun w' => Below wx.heap.size wx w' ∧ w'.cell? ⟨w.heap.size, 0, none⟩ = some (.int .i64 0) ∧ w'.cell? ⟨w.heap.size, 1, none⟩ = some (.int .i64 a) ∧ w'.cell? ⟨w.heap.size, 2, none⟩ = some (.int .i64 b) ∧ w'.cell? ⟨w.heap.size, 3, none⟩ = some (.int .i64 c) ∧ w'.cell? ⟨w.heap.size + 1, 0, none⟩ = some (.slice (some ⟨b0, o0, none⟩) B.length c0) ∧ w'.cell? ⟨w.heap.size + 1, 1, none⟩ = some (.slice (some ⟨b1, o1, none⟩) C.length c1) ∧ w'.cell? ⟨w.heap.size + 1 + 1, 0, none⟩ = some (.int .i64 i.op) ∧ w'.cell? ⟨w.heap.size + 1 + 1, 1, none⟩ = some (.int .i64 i.dest) ∧ w'.cell? ⟨w.heap.size + 1 + 1, 2, none⟩ = some (.int .i64 i.a) ∧ w'.cell? ⟨w.heap.size + 1 + 1, 3, none⟩ = some (.int .i64 i.b) ∧ w'.cell? ⟨w.heap.size + 1 + 1, 4, none⟩ = some (.int .i64 i.c) ∧ w'.cell? ⟨w.heap.size + 1 + 1, 5, none⟩ = some (.int .u32 i.n) ∧ w'.cell? ⟨w.heap.size + 1 + 1 + 1, 0, none⟩ = some (.int .i64 r.dest.kind) ∧ w'.cell? ⟨w.heap.size + 1 + 1 + 1, 1, none⟩ = some (.int .i64 r.dest.n) ∧ w'.cell? ⟨w.heap.size + 1 + 1 + 1, 2, none⟩ = some (.int .i64 r.a.kind) ∧ w'.cell? ⟨w.heap.size + 1 + 1 + 1, 3, none⟩ = some (.int .i64 r.a.n) ∧ w'.cell? ⟨w.heap.size + 1 + 1 + 1, 4, none⟩ = some (.int .i64 r.b.kind) ∧ w'.cell? ⟨w.heap.size + 1 + 1 + 1, 5, none⟩ = some (.int .i64 r.b.n) ∧ w'.cell? ⟨w.heap.size + 1 + 1 + 1, 6, none⟩ = some (.slice ab r.before.length cb) ∧ w'.cell? ⟨w.heap.size + 1 + 1 + 1, 7, none⟩ = some (.slice aa r.after.length ca))) (by rfl) ?_ (fun hHeld => ?_)
      · (go_split_ands; refine ⟨?_, ?_, ?_, ?_, ?_, ?_, ?_, ?_, ?_, ?_, ?_, ?_, ?_, ?_, ?_, ?_, ?_, ?_, ?_, ?_, ?_⟩ <;> first | exact (Below.refl _ _).drew | exact ((Below.refl _ _).drew).trans hbr | exact step_below hbr (by assumption) | exact step_cell hbr (by assumption) | go_keep)
      refine wpAnyH_take (i := 0) (v := ?_) rfl (by kernel_rfl) (by kernel_rfl) (by kernel_rfl) (fun _ _ _ h => h) (Or.inl ⟨by rfl, ?_⟩) (by assumption) ?_
      case refine_2 => (intro w hSw; (try dsimp only at hSw); go_simp; first | done | (with_reducible rfl))
      show wpAnyH _ _ _ _ _ _ _ (Act.put _ (some 9) _) _
      simp only [Act.put, List.setIfInBounds_toArray, List.set_cons_zero, List.set_cons_succ]
      refine wpAnyH_take (i := 1) (v := ?_) rfl (by kernel_rfl) (by kernel_rfl) (by kernel_rfl) (fun _ _ _ h => h) (Or.inl ⟨by rfl, ?_⟩) (by assumption) ?_
      case refine_2 => (intro w hSw; (try dsimp only at hSw); go_simp; first | done | (with_reducible rfl))
      show wpAnyH _ _ _ _ _ _ _ (Act.put _ (some 10) _) _
      simp only [Act.put, List.setIfInBounds_toArray, List.set_cons_zero, List.set_cons_succ]
      refine wpAnyH_take (i := 2) (v := ?_) rfl (by kernel_rfl) (by kernel_rfl) (by kernel_rfl) (fun _ _ _ h => h) (Or.inl ⟨by rfl, ?_⟩) (by assumption) ?_
      case refine_2 => (intro w hSw; (try dsimp only at hSw); go_simp; first | done | (with_reducible rfl))
      show wpAnyH _ _ _ _ _ _ _ (Act.put _ (some 11) _) _
      simp only [Act.put, List.setIfInBounds_toArray, List.set_cons_zero, List.set_cons_succ]
      refine wpAnyH_take (i := 3) (v := ?_) rfl (by kernel_rfl) (by kernel_rfl) (by kernel_rfl) (fun _ _ _ h => h) (Or.inl ⟨by rfl, ?_⟩) (by assumption) ?_
      case refine_2 => (intro w hSw; (try dsimp only at hSw); go_simp; first | done | (with_reducible rfl))
      show wpAnyH _ _ _ _ _ _ _ (Act.put _ (some 12) _) _
      simp only [Act.put, List.setIfInBounds_toArray, List.set_cons_zero, List.set_cons_succ]
      refine wpAnyH_ready (rs := [4]) (by kernel_rfl) (by simp) ?_
      refine (AllReadyH.cons rfl (fun K hK => ?_) AllReadyH.nil)
      go_simp
      go_at_call 96
      refine (fieldsMay b0 o0 c0 b1 o1 c1 B C a b c i r ab cb aa ca _ hB (HH.out.later (step_below hHeld.1 HWX.out)) HK.out HF.out).mono ?_
      rw [hf1]
      rintro e w1 ⟨rfl, hbr⟩
      go_wp2_with fail
      refine hK.out _ _ ?_ (fun hHeld => ?_)
      · (exact ⟨step_below hbr hHeld.1, step_cell hbr hHeld.2.1, step_cell hbr hHeld.2.2.1, step_cell hbr hHeld.2.2.2.1, step_cell hbr hHeld.2.2.2.2.1, step_cell hbr hHeld.2.2.2.2.2.1, step_cell hbr hHeld.2.2.2.2.2.2.1, step_cell hbr hHeld.2.2.2.2.2.2.2.1, step_cell hbr hHeld.2.2.2.2.2.2.2.2.1, step_cell hbr hHeld.2.2.2.2.2.2.2.2.2.1, step_cell hbr hHeld.2.2.2.2.2.2.2.2.2.2.1, step_cell hbr hHeld.2.2.2.2.2.2.2.2.2.2.2.1, step_cell hbr hHeld.2.2.2.2.2.2.2.2.2.2.2.2.1, step_cell hbr hHeld.2.2.2.2.2.2.2.2.2.2.2.2.2.1, step_cell hbr hHeld.2.2.2.2.2.2.2.2.2.2.2.2.2.2.1, step_cell hbr hHeld.2.2.2.2.2.2.2.2.2.2.2.2.2.2.2.1, step_cell hbr hHeld.2.2.2.2.2.2.2.2.2.2.2.2.2.2.2.2.1, step_cell hbr hHeld.2.2.2.2.2.2.2.2.2.2.2.2.2.2.2.2.2.1, step_cell hbr hHeld.2.2.2.2.2.2.2.2.2.2.2.2.2.2.2.2.2.2.1, step_cell hbr hHeld.2.2.2.2.2.2.2.2.2.2.2.2.2.2.2.2.2.2.2.1, step_cell hbr hHeld.2.2.2.2.2.2.2.2.2.2.2.2.2.2.2.2.2.2.2.2⟩)
      clear hK K
      try simp only [Act.put, List.setIfInBounds_toArray, List.set_cons_zero, List.set_cons_succ]
      refine wpAnyH_take (i := 5) (v := ?_) rfl (by kernel_rfl) (by kernel_rfl) (by kernel_rfl) (fun _ _ _ h => h) (Or.inl ⟨by rfl, ?_⟩) (by assumption) ?_
      case refine_2 => (intro w hSw; (try dsimp only at hSw); go_simp; first | done | (with_reducible rfl))
      show wpAnyH _ _ _ _ _ _ _ (Act.put _ (some 14) _) _
      simp only [Act.put, List.setIfInBounds_toArray, List.set_cons_zero, List.set_cons_succ]
      refine wpAnyH_take (i := 6) (v := ?_) rfl (by kernel_rfl) (by kernel_rfl) (by kernel_rfl) (fun _ _ _ h => h) (Or.inl ⟨by rfl, ?_⟩) (by assumption) ?_
      case refine_2 => (intro w hSw; (try dsimp only at hSw); go_simp; first | done | (with_reducible rfl))
      show wpAnyH _ _ _ _ _ _ _ (Act.put _ (some 15) _) _
      simp only [Act.put, List.setIfInBounds_toArray, List.set_cons_zero, List.set_cons_succ]
      refine wpAnyH_take (i := 7) (v := ?_) rfl (by kernel_rfl) (by kernel_rfl) (by kernel_rfl) (fun _ _ _ h => h) (Or.inl ⟨by rfl, ?_⟩) (by assumption) ?_
      case refine_2 => (intro w hSw; (try dsimp only at hSw); go_simp; first | done | (with_reducible rfl))
      show wpAnyH _ _ _ _ _ _ _ (Act.put _ (some 16) _) _
      simp only [Act.put, List.setIfInBounds_toArray, List.set_cons_zero, List.set_cons_succ]
      refine wpAnyH_take (i := 8) (v := ?_) rfl (by kernel_rfl) (by kernel_rfl) (by kernel_rfl) (fun _ _ _ h => h) (Or.inl ⟨by rfl, ?_⟩) (by assumption) ?_
      case refine_2 => (intro w hSw; (try dsimp only at hSw); go_simp; first | done | (with_reducible rfl))
      show wpAnyH _ _ _ _ _ _ _ (Act.put _ (some 17) _) _
      simp only [Act.put, List.setIfInBounds_toArray, List.set_cons_zero, List.set_cons_succ]
      refine wpAnyH_ready (rs := [9]) (by kernel_rfl) (by simp) ?_
      refine (AllReadyH.cons rfl (fun K hK => ?_) AllReadyH.nil)
      go_simp
      go_at_call 97
      refine (movesMay a b c _ r.before 6 (by omega) _ (HMB.out.later (step_below hHeld.1 HWX.out))).mono ?_
      rw [hf2]
      rintro e w2 ⟨rfl, hbr⟩
      go_wp2_with fail
      refine hK.out _ _ ?_ (fun hHeld => ?_)
      · (exact ⟨step_below hbr hHeld.1, step_cell hbr hHeld.2.1, step_cell hbr hHeld.2.2.1, step_cell hbr hHeld.2.2.2.1, step_cell hbr hHeld.2.2.2.2.1, step_cell hbr hHeld.2.2.2.2.2.1, step_cell hbr hHeld.2.2.2.2.2.2.1, step_cell hbr hHeld.2.2.2.2.2.2.2.1, step_cell hbr hHeld.2.2.2.2.2.2.2.2.1, step_cell hbr hHeld.2.2.2.2.2.2.2.2.2.1, step_cell hbr hHeld.2.2.2.2.2.2.2.2.2.2.1, step_cell hbr hHeld.2.2.2.2.2.2.2.2.2.2.2.1, step_cell hbr hHeld.2.2.2.2.2.2.2.2.2.2.2.2.1, step_cell hbr hHeld.2.2.2.2.2.2.2.2.2.2.2.2.2.1, step_cell hbr hHeld.2.2.2.2.2.2.2.2.2.2.2.2.2.2.1, step_cell hbr hHeld.2.2.2.2.2.2.2.2.2.2.2.2.2.2.2.1, step_cell hbr hHeld.2.2.2.2.2.2.2.2.2.2.2.2.2.2.2.2.1, step_cell hbr hHeld.2.2.2.2.2.2.2.2.2.2.2.2.2.2.2.2.2.1, step_cell hbr hHeld.2.2.2.2.2.2.2.2.2.2.2.2.2.2.2.2.2.2.1, step_cell hbr hHeld.2.2.2.2.2.2.2.2.2.2.2.2.2.2.2.2.2.2.2.1, step_cell hbr hHeld.2.2.2.2.2.2.2.2.2.2.2.2.2.2.2.2.2.2.2.2⟩)
      clear hK K
      try simp only [Act.put, List.setIfInBounds_toArray, List.set_cons_zero, List.set_cons_succ]
      refine wpAnyH_take (i := 10) (v := ?_) rfl (by kernel_rfl) (by kernel_rfl) (by kernel_rfl) (fun _ _ _ h => h) (Or.inl ⟨by rfl, ?_⟩) (by assumption) ?_
      case refine_2 => (intro w hSw; (try dsimp only at hSw); go_simp; first | done | (with_reducible rfl))
      show wpAnyH _ _ _ _ _ _ _ (Act.put _ (some 19) _) _
      simp only [Act.put, List.setIfInBounds_toArray, List.set_cons_zero, List.set_cons_succ]
      refine wpAnyH_take (i := 11) (v := ?_) rfl (by kernel_rfl) (by kernel_rfl) (by kernel_rfl) (fun _ _ _ h => h) (Or.inl ⟨by rfl, ?_⟩) (by assumption) ?_
      case refine_2 => (intro w hSw; (try dsimp only at hSw); go_simp; first | done | (with_reducible rfl))
      show wpAnyH _ _ _ _ _ _ _ (Act.put _ (some 20) _) _
      simp only [Act.put, List.setIfInBounds_toArray, List.set_cons_zero, List.set_cons_succ]
      refine wpAnyH_take (i := 12) (v := undef) rfl (by kernel_rfl) (by kernel_rfl) (by kernel_rfl) (fun _ _ _ h => h) (Or.inr ⟨by rfl, rfl⟩) (by assumption) ?_
      show wpAnyH _ _ _ _ _ _ _ (Act.put _ (some 21) _) _
      simp only [Act.put, List.setIfInBounds_toArray, List.set_cons_zero, List.set_cons_succ]
      refine wpAnyH_take (i := 13) (v := undef) rfl (by kernel_rfl) (by kernel_rfl) (by kernel_rfl) (fun _ _ _ h => h) (Or.inr ⟨by rfl, rfl⟩) (by assumption) ?_
      show wpAnyH _ _ _ _ _ _ _ (Act.put _ (some 22) _) _
      simp only [Act.put, List.setIfInBounds_toArray, List.set_cons_zero, List.set_cons_succ]
      refine wpAnyH_take (i := 14) (v := undef) rfl (by kernel_rfl) (by kernel_rfl) (by kernel_rfl) (fun _ _ _ h => h) (Or.inr ⟨by rfl, rfl⟩) (by assumption) ?_
      show wpAnyH _ _ _ _ _ _ _ (Act.put _ (some 23) _) _
      simp only [Act.put, List.setIfInBounds_toArray, List.set_cons_zero, List.set_cons_succ]
      refine wpAnyH_take (i := 15) (v := undef) rfl (by kernel_rfl) (by kernel_rfl) (by kernel_rfl) (fun _ _ _ h => h) (Or.inr ⟨by rfl, rfl⟩) (by assumption) ?_
      show wpAnyH _ _ _ _ _ _ _ (Act.put _ (some 24) _) _
      simp only [Act.put, List.setIfInBounds_toArray, List.set_cons_zero, List.set_cons_succ]
      refine wpAnyH_take (i := 16) (v := undef) rfl (by kernel_rfl) (by kernel_rfl) (by kernel_rfl) (fun _ _ _ h => h) (Or.inr ⟨by rfl, rfl⟩) (by assumption) ?_
      show wpAnyH _ _ _ _ _ _ _ (Act.put _ (some 25) _) _
      simp only [Act.put, List.setIfInBounds_toArray, List.set_cons_zero, List.set_cons_succ]
      refine wpAnyH_take (i := 17) (v := undef) rfl (by kernel_rfl) (by kernel_rfl) (by kernel_rfl) (fun _ _ _ h => h) (Or.inr ⟨by rfl, rfl⟩) (by assumption) ?_
      show wpAnyH _ _ _ _ _ _ _ (Act.put _ (some 26) _) _
      simp only [Act.put, List.setIfInBounds_toArray, List.set_cons_zero, List.set_cons_succ]
      refine wpAnyH_take (i := 18) (v := undef) rfl (by kernel_rfl) (by kernel_rfl) (by kernel_rfl) (fun _ _ _ h => h) (Or.inr ⟨by rfl, rfl⟩) (by assumption) ?_
      show wpAnyH _ _ _ _ _ _ _ (Act.put _ (some 27) _) _
      simp only [Act.put, List.setIfInBounds_toArray, List.set_cons_zero, List.set_cons_succ]
      refine wpAnyH_take (i := 19) (v := ?_) rfl (by kernel_rfl) (by kernel_rfl) (by kernel_rfl) (fun _ _ _ h => h) (Or.inl ⟨by rfl, ?_⟩) (by assumption) ?_
      case refine_2 => (intro w hSw; (try dsimp only at hSw); go_simp; first | done | (with_reducible rfl))
      show wpAnyH _ _ _ _ _ _ _ (Act.put _ (some 28) _) _
      simp only [Act.put, List.setIfInBounds_toArray, List.set_cons_zero, List.set_cons_succ]
      refine wpAnyH_take (i := 20) (v := ?_) rfl (by kernel_rfl) (by kernel_rfl) (by kernel_rfl) (fun _ _ _ h => h) (Or.inl ⟨by rfl, ?_⟩) (by assumption) ?_
      case refine_2 => (intro w hSw; (try dsimp only at hSw); go_simp; first | done | (with_reducible rfl))
      show wpAnyH _ _ _ _ _ _ _ (Act.put _ (some 8) _) _
      simp only [Act.put, List.setIfInBounds_toArray, List.set_cons_zero, List.set_cons_succ]
      refine wpAnyH_done (by kernel_rfl) ?_ _
      have HB9 : Hid (Below wx.heap.size wx w2) := hHeld.1
      clear hHeld hbr
      go_wp2
      go_ret
      exact ⟨ret_bool (by rw [HR.out, hf1, hf2]; rfl), step_below HB9.out HWX.out⟩
    · skip
      refine wp_region_held_drew (S := (fun w' => Below wx.heap.size wx w' ∧ w'.cell? ⟨w.heap.size, 0, none⟩ = some (.int .i64 0) ∧ w'.cell? ⟨w.heap.size, 1, none⟩ = some (.int .i64 a) ∧ w'.cell? ⟨w.heap.size, 2, none⟩ = some (.int .i64 b) ∧ w'.cell? ⟨w.heap.size, 3, none⟩ = some (.int .i64 c) ∧ w'.cell? ⟨w.heap.size + 1, 0, none⟩ = some (.slice (some ⟨b0, o0, none⟩) B.length c0) ∧ w'.cell? ⟨w.heap.size + 1, 1, none⟩ = some (.slice (some ⟨b1, o1, none⟩) C.length c1) ∧ w'.cell? ⟨w.heap.size + 1 + 1, 0, none⟩ = some (.int .i64 i.op) ∧ w'.cell? ⟨w.heap.size + 1 + 1, 1, none⟩ = some (.int .i64 i.dest) ∧ w'.cell? ⟨w.heap.size + 1 + 1, 2, none⟩ = some (.int .i64 i.a) ∧ w'.cell? ⟨w.heap.size + 1 + 1, 3, none⟩ = some (.int .i64 i.b) ∧ w'.cell? ⟨w.heap.size + 1 + 1, 4, none⟩ = some (.int .i64 i.c) ∧ w'.cell? ⟨w.heap.size + 1 + 1, 5, none⟩ = some (.int .u32 i.n) ∧ w'.cell? ⟨w.heap.size + 1 + 1 + 1, 0, none⟩ = some (.int .i64 r.dest.kind) ∧ w'.cell? ⟨w.heap.size + 1 + 1 + 1, 1, none⟩ = some (.int .i64 r.dest.n) ∧ w'.cell? ⟨w.heap.size + 1 + 1 + 1, 2, none⟩ = some (.int .i64 r.a.kind) ∧ w'.cell? ⟨w.heap.size + 1 + 1 + 1, 3, none⟩ = some (.int .i64 r.a.n) ∧ w'.cell? ⟨w.heap.size + 1 + 1 + 1, 4, none⟩ = some (.int .i64 r.b.kind) ∧ w'.cell? ⟨w.heap.size + 1 + 1 + 1, 5, none⟩ = some (.int .i64 r.b.n) ∧ w'.cell? ⟨w.heap.size + 1 + 1 + 1, 6, none⟩ = some (.slice ab r.before.length cb) ∧ w'.cell? ⟨w.heap.size + 1 + 1 + 1, 7, none⟩ = some (.slice aa r.after.length ca))) (by rfl) ?_ (fun hHeld => ?_)
      · (go_split_ands; refine ⟨?_, ?_, ?_, ?_, ?_, ?_, ?_, ?_, ?_, ?_, ?_, ?_, ?_, ?_, ?_, ?_, ?_, ?_, ?_, ?_, ?_⟩ <;> first | exact (Below.refl _ _).drew | exact ((Below.refl _ _).drew).trans hbr | exact step_below hbr (by assumption) | exact step_cell hbr (by assumption) | go_keep)
      refine wpAnyH_take (i := 0) (v := ?_) rfl (by kernel_rfl) (by kernel_rfl) (by kernel_rfl) (fun _ _ _ h => h) (Or.inl ⟨by rfl, ?_⟩) (by assumption) ?_
      case refine_2 => (intro w hSw; (try dsimp only at hSw); go_simp; first | done | (with_reducible rfl))
      show wpAnyH _ _ _ _ _ _ _ (Act.put _ (some 9) _) _
      simp only [Act.put, List.setIfInBounds_toArray, List.set_cons_zero, List.set_cons_succ]
      refine wpAnyH_take (i := 1) (v := ?_) rfl (by kernel_rfl) (by kernel_rfl) (by kernel_rfl) (fun _ _ _ h => h) (Or.inl ⟨by rfl, ?_⟩) (by assumption) ?_
      case refine_2 => (intro w hSw; (try dsimp only at hSw); go_simp; first | done | (with_reducible rfl))
      show wpAnyH _ _ _ _ _ _ _ (Act.put _ (some 10) _) _
      simp only [Act.put, List.setIfInBounds_toArray, List.set_cons_zero, List.set_cons_succ]
      refine wpAnyH_take (i := 2) (v := ?_) rfl (by kernel_rfl) (by kernel_rfl) (by kernel_rfl) (fun _ _ _ h => h) (Or.inl ⟨by rfl, ?_⟩) (by assumption) ?_
      case refine_2 => (intro w hSw; (try dsimp only at hSw); go_simp; first | done | (with_reducible rfl))
      show wpAnyH _ _ _ _ _ _ _ (Act.put _ (some 11) _) _
      simp only [Act.put, List.setIfInBounds_toArray, List.set_cons_zero, List.set_cons_succ]
      refine wpAnyH_take (i := 3) (v := ?_) rfl (by kernel_rfl) (by kernel_rfl) (by kernel_rfl) (fun _ _ _ h => h) (Or.inl ⟨by rfl, ?_⟩) (by assumption) ?_
      case refine_2 => (intro w hSw; (try dsimp only at hSw); go_simp; first | done | (with_reducible rfl))
      show wpAnyH _ _ _ _ _ _ _ (Act.put _ (some 12) _) _
      simp only [Act.put, List.setIfInBounds_toArray, List.set_cons_zero, List.set_cons_succ]
      refine wpAnyH_ready (rs := [4]) (by kernel_rfl) (by simp) ?_
      refine (AllReadyH.cons rfl (fun K hK => ?_) AllReadyH.nil)
      go_simp
      go_at_call 96
      refine (fieldsMay b0 o0 c0 b1 o1 c1 B C a b c i r ab cb aa ca _ hB (HH.out.later (step_below hHeld.1 HWX.out)) HK.out HF.out).mono ?_
      rw [hf1]
      rintro e w1 ⟨rfl, hbr⟩
      go_wp2_with fail
      refine hK.out _ _ ?_ (fun hHeld => ?_)
      · (exact ⟨step_below hbr hHeld.1, step_cell hbr hHeld.2.1, step_cell hbr hHeld.2.2.1, step_cell hbr hHeld.2.2.2.1, step_cell hbr hHeld.2.2.2.2.1, step_cell hbr hHeld.2.2.2.2.2.1, step_cell hbr hHeld.2.2.2.2.2.2.1, step_cell hbr hHeld.2.2.2.2.2.2.2.1, step_cell hbr hHeld.2.2.2.2.2.2.2.2.1, step_cell hbr hHeld.2.2.2.2.2.2.2.2.2.1, step_cell hbr hHeld.2.2.2.2.2.2.2.2.2.2.1, step_cell hbr hHeld.2.2.2.2.2.2.2.2.2.2.2.1, step_cell hbr hHeld.2.2.2.2.2.2.2.2.2.2.2.2.1, step_cell hbr hHeld.2.2.2.2.2.2.2.2.2.2.2.2.2.1, step_cell hbr hHeld.2.2.2.2.2.2.2.2.2.2.2.2.2.2.1, step_cell hbr hHeld.2.2.2.2.2.2.2.2.2.2.2.2.2.2.2.1, step_cell hbr hHeld.2.2.2.2.2.2.2.2.2.2.2.2.2.2.2.2.1, step_cell hbr hHeld.2.2.2.2.2.2.2.2.2.2.2.2.2.2.2.2.2.1, step_cell hbr hHeld.2.2.2.2.2.2.2.2.2.2.2.2.2.2.2.2.2.2.1, step_cell hbr hHeld.2.2.2.2.2.2.2.2.2.2.2.2.2.2.2.2.2.2.2.1, step_cell hbr hHeld.2.2.2.2.2.2.2.2.2.2.2.2.2.2.2.2.2.2.2.2⟩)
      clear hK K
      try simp only [Act.put, List.setIfInBounds_toArray, List.set_cons_zero, List.set_cons_succ]
      refine wpAnyH_take (i := 5) (v := ?_) rfl (by kernel_rfl) (by kernel_rfl) (by kernel_rfl) (fun _ _ _ h => h) (Or.inl ⟨by rfl, ?_⟩) (by assumption) ?_
      case refine_2 => (intro w hSw; (try dsimp only at hSw); go_simp; first | done | (with_reducible rfl))
      show wpAnyH _ _ _ _ _ _ _ (Act.put _ (some 14) _) _
      simp only [Act.put, List.setIfInBounds_toArray, List.set_cons_zero, List.set_cons_succ]
      refine wpAnyH_take (i := 6) (v := ?_) rfl (by kernel_rfl) (by kernel_rfl) (by kernel_rfl) (fun _ _ _ h => h) (Or.inl ⟨by rfl, ?_⟩) (by assumption) ?_
      case refine_2 => (intro w hSw; (try dsimp only at hSw); go_simp; first | done | (with_reducible rfl))
      show wpAnyH _ _ _ _ _ _ _ (Act.put _ (some 15) _) _
      simp only [Act.put, List.setIfInBounds_toArray, List.set_cons_zero, List.set_cons_succ]
      refine wpAnyH_take (i := 7) (v := ?_) rfl (by kernel_rfl) (by kernel_rfl) (by kernel_rfl) (fun _ _ _ h => h) (Or.inl ⟨by rfl, ?_⟩) (by assumption) ?_
      case refine_2 => (intro w hSw; (try dsimp only at hSw); go_simp; first | done | (with_reducible rfl))
      show wpAnyH _ _ _ _ _ _ _ (Act.put _ (some 16) _) _
      simp only [Act.put, List.setIfInBounds_toArray, List.set_cons_zero, List.set_cons_succ]
      refine wpAnyH_take (i := 8) (v := ?_) rfl (by kernel_rfl) (by kernel_rfl) (by kernel_rfl) (fun _ _ _ h => h) (Or.inl ⟨by rfl, ?_⟩) (by assumption) ?_
      case refine_2 => (intro w hSw; (try dsimp only at hSw); go_simp; first | done | (with_reducible rfl))
      show wpAnyH _ _ _ _ _ _ _ (Act.put _ (some 17) _) _
      simp only [Act.put, List.setIfInBounds_toArray, List.set_cons_zero, List.set_cons_succ]
      refine wpAnyH_ready (rs := [9]) (by kernel_rfl) (by simp) ?_
      refine (AllReadyH.cons rfl (fun K hK => ?_) AllReadyH.nil)
      go_simp
      go_at_call 97
      refine (movesMay a b c _ r.before 6 (by omega) _ (HMB.out.later (step_below hHeld.1 HWX.out))).mono ?_
      rw [hf2]
      rintro e w2 ⟨rfl, hbr⟩
      go_wp2_with fail
      refine hK.out _ _ ?_ (fun hHeld => ?_)
      · (exact ⟨step_below hbr hHeld.1, step_cell hbr hHeld.2.1, step_cell hbr hHeld.2.2.1, step_cell hbr hHeld.2.2.2.1, step_cell hbr hHeld.2.2.2.2.1, step_cell hbr hHeld.2.2.2.2.2.1, step_cell hbr hHeld.2.2.2.2.2.2.1, step_cell hbr hHeld.2.2.2.2.2.2.2.1, step_cell hbr hHeld.2.2.2.2.2.2.2.2.1, step_cell hbr hHeld.2.2.2.2.2.2.2.2.2.1, step_cell hbr hHeld.2.2.2.2.2.2.2.2.2.2.1, step_cell hbr hHeld.2.2.2.2.2.2.2.2.2.2.2.1, step_cell hbr hHeld.2.2.2.2.2.2.2.2.2.2.2.2.1, step_cell hbr hHeld.2.2.2.2.2.2.2.2.2.2.2.2.2.1, step_cell hbr hHeld.2.2.2.2.2.2.2.2.2.2.2.2.2.2.1, step_cell hbr hHeld.2.2.2.2.2.2.2.2.2.2.2.2.2.2.2.1, step_cell hbr hHeld.2.2.2.2.2.2.2.2.2.2.2.2.2.2.2.2.1, step_cell hbr hHeld.2.2.2.2.2.2.2.2.2.2.2.2.2.2.2.2.2.1, step_cell hbr hHeld.2.2.2.2.2.2.2.2.2.2.2.2.2.2.2.2.2.2.1, step_cell hbr hHeld.2.2.2.2.2.2.2.2.2.2.2.2.2.2.2.2.2.2.2.1, step_cell hbr hHeld.2.2.2.2.2.2.2.2.2.2.2.2.2.2.2.2.2.2.2.2⟩)
      clear hK K
      try simp only [Act.put, List.setIfInBounds_toArray, List.set_cons_zero, List.set_cons_succ]
      refine wpAnyH_take (i := 10) (v := ?_) rfl (by kernel_rfl) (by kernel_rfl) (by kernel_rfl) (fun _ _ _ h => h) (Or.inl ⟨by rfl, ?_⟩) (by assumption) ?_
      case refine_2 => (intro w hSw; (try dsimp only at hSw); go_simp; first | done | (with_reducible rfl))
      show wpAnyH _ _ _ _ _ _ _ (Act.put _ (some 19) _) _
      simp only [Act.put, List.setIfInBounds_toArray, List.set_cons_zero, List.set_cons_succ]
      refine wpAnyH_take (i := 11) (v := ?_) rfl (by kernel_rfl) (by kernel_rfl) (by kernel_rfl) (fun _ _ _ h => h) (Or.inl ⟨by rfl, ?_⟩) (by assumption) ?_
      case refine_2 => (intro w hSw; (try dsimp only at hSw); go_simp; first | done | (with_reducible rfl))
      show wpAnyH _ _ _ _ _ _ _ (Act.put _ (some 20) _) _
      simp only [Act.put, List.setIfInBounds_toArray, List.set_cons_zero, List.set_cons_succ]
      refine wpAnyH_take (i := 12) (v := ?_) rfl (by kernel_rfl) (by kernel_rfl) (by kernel_rfl) (fun _ _ _ h => h) (Or.inl ⟨by rfl, ?_⟩) (by assumption) ?_
      case refine_2 => (intro w hSw; (try dsimp only at hSw); go_simp; first | done | (with_reducible rfl))
      show wpAnyH _ _ _ _ _ _ _ (Act.put _ (some 21) _) _
      simp only [Act.put, List.setIfInBounds_toArray, List.set_cons_zero, List.set_cons_succ]
      refine wpAnyH_take (i := 13) (v := ?_) rfl (by kernel_rfl) (by kernel_rfl) (by kernel_rfl) (fun _ _ _ h => h) (Or.inl ⟨by rfl, ?_⟩) (by assumption) ?_
      case refine_2 => (intro w hSw; (try dsimp only at hSw); go_simp; first | done | (with_reducible rfl))
      show wpAnyH _ _ _ _ _ _ _ (Act.put _ (some 22) _) _
      simp only [Act.put, List.setIfInBounds_toArray, List.set_cons_zero, List.set_cons_succ]
      refine wpAnyH_take (i := 14) (v := ?_) rfl (by kernel_rfl) (by kernel_rfl) (by kernel_rfl) (fun _ _ _ h => h) (Or.inl ⟨by rfl, ?_⟩) (by assumption) ?_
      case refine_2 => (intro w hSw; (try dsimp only at hSw); go_simp; first | done | (with_reducible rfl))
      show wpAnyH _ _ _ _ _ _ _ (Act.put _ (some 23) _) _
      simp only [Act.put, List.setIfInBounds_toArray, List.set_cons_zero, List.set_cons_succ]
      refine wpAnyH_take (i := 15) (v := ?_) rfl (by kernel_rfl) (by kernel_rfl) (by kernel_rfl) (fun _ _ _ h => h) (Or.inl ⟨by rfl, ?_⟩) (by assumption) ?_
      case refine_2 => (intro w hSw; (try dsimp only at hSw); go_simp; first | done | (with_reducible rfl))
      show wpAnyH _ _ _ _ _ _ _ (Act.put _ (some 24) _) _
      simp only [Act.put, List.setIfInBounds_toArray, List.set_cons_zero, List.set_cons_succ]
      refine wpAnyH_take (i := 16) (v := ?_) rfl (by kernel_rfl) (by kernel_rfl) (by kernel_rfl) (fun _ _ _ h => h) (Or.inl ⟨by rfl, ?_⟩) (by assumption) ?_
      case refine_2 => (intro w hSw; (try dsimp only at hSw); go_simp; first | done | (with_reducible rfl))
      show wpAnyH _ _ _ _ _ _ _ (Act.put _ (some 25) _) _
      simp only [Act.put, List.setIfInBounds_toArray, List.set_cons_zero, List.set_cons_succ]
      refine wpAnyH_ready (rs := [17]) (by kernel_rfl) (by simp) ?_
      refine (AllReadyH.cons rfl (fun K hK => ?_) AllReadyH.nil)
      go_simp
      go_at_call 98
      refine (mostAfter i.op _).mono ?_
      rintro e w3 ⟨rfl, hw3⟩
      obtain rfl := hw3.symm
      clear hw3
      go_wp2_with fail
      refine hK.out _ _ ?_ (fun hHeld => ?_)
      · (exact hHeld)
      clear hK K
      try simp only [Act.put, List.setIfInBounds_toArray, List.set_cons_zero, List.set_cons_succ]
      refine wpAnyH_ready (rs := [18]) (by kernel_rfl) (by simp) ?_
      refine (AllReadyH.cons rfl (fun K hK => ?_) AllReadyH.nil)
      go_simp
      go_at_call 97
      refine (movesMay a b c _ r.after (mostI i.op) (most_le i.op) _ (HMA.out.later (step_below hHeld.1 HWX.out))).mono ?_
      rintro e w4 ⟨rfl, hbr⟩
      go_wp2_with fail
      refine hK.out _ _ ?_ (fun hHeld => ?_)
      · (exact ⟨step_below hbr hHeld.1, step_cell hbr hHeld.2.1, step_cell hbr hHeld.2.2.1, step_cell hbr hHeld.2.2.2.1, step_cell hbr hHeld.2.2.2.2.1, step_cell hbr hHeld.2.2.2.2.2.1, step_cell hbr hHeld.2.2.2.2.2.2.1, step_cell hbr hHeld.2.2.2.2.2.2.2.1, step_cell hbr hHeld.2.2.2.2.2.2.2.2.1, step_cell hbr hHeld.2.2.2.2.2.2.2.2.2.1, step_cell hbr hHeld.2.2.2.2.2.2.2.2.2.2.1, step_cell hbr hHeld.2.2.2.2.2.2.2.2.2.2.2.1, step_cell hbr hHeld.2.2.2.2.2.2.2.2.2.2.2.2.1, step_cell hbr hHeld.2.2.2.2.2.2.2.2.2.2.2.2.2.1, step_cell hbr hHeld.2.2.2.2.2.2.2.2.2.2.2.2.2.2.1, step_cell hbr hHeld.2.2.2.2.2.2.2.2.2.2.2.2.2.2.2.1, step_cell hbr hHeld.2.2.2.2.2.2.2.2.2.2.2.2.2.2.2.2.1, step_cell hbr hHeld.2.2.2.2.2.2.2.2.2.2.2.2.2.2.2.2.2.1, step_cell hbr hHeld.2.2.2.2.2.2.2.2.2.2.2.2.2.2.2.2.2.2.1, step_cell hbr hHeld.2.2.2.2.2.2.2.2.2.2.2.2.2.2.2.2.2.2.2.1, step_cell hbr hHeld.2.2.2.2.2.2.2.2.2.2.2.2.2.2.2.2.2.2.2.2⟩)
      clear hK K
      try simp only [Act.put, List.setIfInBounds_toArray, List.set_cons_zero, List.set_cons_succ]
      refine wpAnyH_take (i := 19) (v := ?_) rfl (by kernel_rfl) (by kernel_rfl) (by kernel_rfl) (fun _ _ _ h => h) (Or.inl ⟨by rfl, ?_⟩) (by assumption) ?_
      case refine_2 => (intro w hSw; (try dsimp only at hSw); go_simp; first | done | (with_reducible rfl))
      show wpAnyH _ _ _ _ _ _ _ (Act.put _ (some 28) _) _
      simp only [Act.put, List.setIfInBounds_toArray, List.set_cons_zero, List.set_cons_succ]
      refine wpAnyH_take (i := 20) (v := ?_) rfl (by kernel_rfl) (by kernel_rfl) (by kernel_rfl) (fun _ _ _ h => h) (Or.inl ⟨by rfl, ?_⟩) (by assumption) ?_
      case refine_2 => (intro w hSw; (try dsimp only at hSw); go_simp; first | done | (with_reducible rfl))
      show wpAnyH _ _ _ _ _ _ _ (Act.put _ (some 8) _) _
      simp only [Act.put, List.setIfInBounds_toArray, List.set_cons_zero, List.set_cons_succ]
      refine wpAnyH_done (by kernel_rfl) ?_ _
      have HB9 : Hid (Below wx.heap.size wx w4) := hHeld.1
      clear hHeld hbr
      go_wp2
      go_ret
      exact ⟨ret_bool (by rw [HR.out, hf1, hf2]; rfl), step_below HB9.out HWX.out⟩

end Go.Proofs.Ytcmnmogmdhofcaa.form
