/- What the program's own function on the three fields of a row (place.room.fieldsMay) answers. -/
import Derived.Deep.RegionHeld3
import Derived.Test.YtikhedkhgpjaaacGreatDoorW01
import Derived.Test.YtikhedkhgpjaaacGreatDoorW33
import Derived.Test.YtikhedkhgpjaaacGreatDoorW15
import Derived.Test.YtikhedkhgpjaaacGreatDoorW20
import Derived.Test.YtikhedkhgpjaaacGreatDoorW23
import Derived.Test.YtikhedkhgpjaaacGreatDoorW16
import Derived.Test.YtikhedkhgpjaaacGreatDoorW37

namespace Go.Proofs.YtikhedkhgpjaaacGreatDoor
set_option linter.unusedVariables false
namespace form
open Go.RowKit
attribute [local go_sem ↓] Go.wp_at_zero Go.wp_at_succ
def rowV (r : LRow) (ab : Option Addr) (cb : Nat) (aa : Option Addr) (ca : Nat) : Value := .agg #[.int .i64 r.dest.kind, .int .i64 r.dest.n, .int .i64 r.a.kind, .int .i64 r.a.n, .int .i64 r.b.kind, .int .i64 r.b.n, .slice ab r.before.length cb, .slice aa r.after.length ca]
def fieldO (B : List Bool) (a b c : Int) (x : Bool) (t : Int) (p : LPlace) : Bool := if x then holdB a b c p (B.getD t.toNat false) else emptyB p
def fieldsO (B : List Bool) (a b c : Int) (i : LIns) (r : LRow) : Bool := (List.range 3).all (fun j => fieldO B a b c (tjF i j) (fjF i j) (pjF r j))
theorem isT_tj {i : LIns} (h : knownB i.op = true) : ∀ j, j < 3 → isT (kd i.op j) = tjF i j := by
  intro j hj
  rcases (show j = 0 ∨ j = 1 ∨ j = 2 by omega) with rfl | rfl | rfl
  · exact isT_gives h
  · exact (isT_many h).1
  · exact (isT_many h).2
structure FS (w : World) (a b c : Int) (b0 o0 c0 nB : Nat) (i : LIns) (nb : Nat) (wr : World) : Prop where
  bel : Below w.heap.size w wr
  lt : w.heap.size + 4 ≤ nb
  size : nb + 2 ≤ wr.heap.size
  r0 : wr.cell? ⟨w.heap.size, 0, none⟩ = some (.int .i64 0)
  r1 : wr.cell? ⟨w.heap.size, 1, none⟩ = some (.int .i64 a)
  r2 : wr.cell? ⟨w.heap.size, 2, none⟩ = some (.int .i64 b)
  r3 : wr.cell? ⟨w.heap.size, 3, none⟩ = some (.int .i64 c)
  p0 : wr.cell? ⟨w.heap.size + 1, 0, none⟩ = some (.slice (some ⟨b0, o0, none⟩) nB c0)
  nm : ∀ j, j < 3 → wr.cell? ⟨nb, j, none⟩ = some (.bool (tjF i j))
  tm : ∀ j, j < 3 → wr.cell? ⟨nb + 1, j, none⟩ = some (.int .i64 (fjF i j))
theorem FS.below {w : World} {a b c : Int} {b0 o0 c0 nB : Nat} {i : LIns} {nb : Nat} {wr w1 : World} (h : FS w a b c b0 o0 c0 nB i nb wr) (hb : Below wr.heap.size wr w1) : FS w a b c b0 o0 c0 nB i nb w1 :=
  ⟨step_below hb h.bel, h.lt, Nat.le_trans h.size hb.size, step_cell hb h.r0, step_cell hb h.r1, step_cell hb h.r2, step_cell hb h.r3, step_cell hb h.p0, fun j hj => step_cell hb (h.nm j hj), fun j hj => step_cell hb (h.tm j hj)⟩
set_option maxRecDepth 100000 in
set_option maxHeartbeats 8000000 in
theorem fieldsMay (b0 o0 c0 b1 o1 c1 : Nat) (B : List Bool) (C : List LIns) (a b c : Int) (i : LIns) (r : LRow) (ab : Option Addr) (cb : Nat) (aa : Option Addr) (ca : Nat) (w : World) (hB : B.length ≤ 12) (h : Held w b0 o0 b1 o1 B C)
    (hk : knownB i.op = true) (hf : ∀ j, j < 3 → tjF i j = true → 0 ≤ fjF i j ∧ fjF i j < B.length) :
    Calls Tryz.prog 138 #[roomV a b c, progV b0 o0 B.length c0 b1 o1 C.length c1, i.val, rowV r ab cb aa ca] w fun e w' => e = .returned (.bool (fieldsO B a b c i r)) ∧ Below w.heap.size w w' := by
  have HF : Hid (∀ j, j < 3 → tjF i j = true → 0 ≤ fjF i j ∧ fjF i j < B.length) := hf
  have HT : Hid (∀ j, j < 3 → isT (kd i.op j) = tjF i j) := isT_tj hk
  clear hf hk
  have hidx : ∀ j : Nat, j < 3 → ∀ w, (Instr.index 228 (.agg #[.int .i64 r.dest.kind, .int .i64 r.dest.n, .int .i64 r.a.kind, .int .i64 r.a.n, .int .i64 r.b.kind, .int .i64 r.b.n]) (.int .i64 j)).run Tryz.prog w = .ok (.agg #[.int .i64 (pjF r j).kind, .int .i64 (pjF r j).n]) w := by
    intro j hj w
    rcases (show j = 0 ∨ j = 1 ∨ j = 2 by omega) with rfl | rfl | rfl <;> kernel_rfl
  have HX : Hid (∀ j : Nat, j < 3 → ∀ w, (Instr.index 228 (.agg #[.int .i64 r.dest.kind, .int .i64 r.dest.n, .int .i64 r.a.kind, .int .i64 r.a.n, .int .i64 r.b.kind, .int .i64 r.b.n]) (.int .i64 j)).run Tryz.prog w = .ok (.agg #[.int .i64 (pjF r j).kind, .int .i64 (pjF r j).n]) w) := hidx
  clear hidx
  have HH : Hid (Held w b0 o0 b1 o1 B C) := h
  have hlt0 := h.lt0
  clear h
  unfold roomV progV LIns.val rowV
  go_enter Tryz.func138, Tryz.ntmps138
  have HAS := has i.op
  rw [HT.out 0 (by omega), HT.out 1 (by omega), HT.out 2 (by omega)] at HAS
  have HA : Hid _ := HAS
  clear HAS
  go_wp2_with (go_at_call 112; refine (HA.out _).mono ?_; rintro e w1 ⟨rfl, hb1⟩; have i1 : w1.cell? ⟨w.heap.size + 1 + 1, 1, none⟩ = some (.int .i64 i.dest) := step_cell hb1 (by simp [go_sem]); have i2 : w1.cell? ⟨w.heap.size + 1 + 1, 2, none⟩ = some (.int .i64 i.a) := step_cell hb1 (by simp [go_sem]); have i3 : w1.cell? ⟨w.heap.size + 1 + 1, 3, none⟩ = some (.int .i64 i.b) := step_cell hb1 (by simp [go_sem]); have k0 : w1.cell? ⟨w.heap.size + 1 + 1 + 1, 0, none⟩ = some (.int .i64 r.dest.kind) := step_cell hb1 (by simp [go_sem]); have k1 : w1.cell? ⟨w.heap.size + 1 + 1 + 1, 1, none⟩ = some (.int .i64 r.dest.n) := step_cell hb1 (by simp [go_sem]); have k2 : w1.cell? ⟨w.heap.size + 1 + 1 + 1, 2, none⟩ = some (.int .i64 r.a.kind) := step_cell hb1 (by simp [go_sem]); have k3 : w1.cell? ⟨w.heap.size + 1 + 1 + 1, 3, none⟩ = some (.int .i64 r.a.n) := step_cell hb1 (by simp [go_sem]); have k4 : w1.cell? ⟨w.heap.size + 1 + 1 + 1, 4, none⟩ = some (.int .i64 r.b.kind) := step_cell hb1 (by simp [go_sem]); have k5 : w1.cell? ⟨w.heap.size + 1 + 1 + 1, 5, none⟩ = some (.int .i64 r.b.n) := step_cell hb1 (by simp [go_sem]); have hz : w.heap.size + 1 + 1 + 1 + 1 ≤ w1.heap.size := (by have := hb1.size; simpa using this); have hz1 : w.heap.size + 1 + 1 + 1 < w1.heap.size := (by omega); have hz2 : w.heap.size + 1 + 1 < w1.heap.size := (by omega); have hz3 : w.heap.size + 1 + 1 + 1 < w1.heap.size + 1 := (by omega); have hz4 : w.heap.size + 1 + 1 + 1 < w1.heap.size + 1 + 1 := (by omega); have hz5 : w.heap.size + 1 + 1 < w1.heap.size + 1 := (by omega))
  have HFS : Hid (FS w a b c b0 o0 c0 B.length i w1.heap.size ((w1.alloc (.cells #[.bool (tjF i 0), .bool (tjF i 1), .bool (tjF i 2)] 226)).alloc (.cells #[.int .i64 i.dest, .int .i64 i.a, .int .i64 i.b] 227))) := by
    have g1 : Below w1.heap.size w1 ((w1.alloc (.cells #[.bool (tjF i 0), .bool (tjF i 1), .bool (tjF i 2)] 226)).alloc (.cells #[.int .i64 i.dest, .int .i64 i.a, .int .i64 i.b] 227)) := ((Below.refl _ _).alloc (Nat.le_refl _) _).alloc (by simp) _
    refine ⟨step_below g1 (over_alloc (over_alloc (over_alloc (over_alloc hb1)))), by omega, by simp, step_cell g1 (step_cell hb1 (by simp [go_sem])), step_cell g1 (step_cell hb1 (by simp [go_sem])), step_cell g1 (step_cell hb1 (by simp [go_sem])), step_cell g1 (step_cell hb1 (by simp [go_sem])), step_cell g1 (step_cell hb1 (by simp [go_sem])), fun j hj => ?_, fun j hj => ?_⟩
    · rcases (show j = 0 ∨ j = 1 ∨ j = 2 by omega) with rfl | rfl | rfl <;> simp [go_sem]
    · rcases (show j = 0 ∨ j = 1 ∨ j = 2 by omega) with rfl | rfl | rfl <;> simp [go_sem, fjF]
  obtain ⟨nb, hnb⟩ : ∃ nb, nb = w1.heap.size := ⟨_, rfl⟩
  rw [← hnb]
  rw [← hnb] at HFS
  clear i1 i2 i3 k0 k1 k2 k3 k4 k5 hz hz1 hz2 hz3 hz4 hz5 hb1
  go_loopw [41] (fun t wr => ∃ j : Nat, j ≤ 3 ∧ t = .int .i64 j ∧ FS w a b c b0 o0 c0 B.length i nb wr ∧ (∀ x, x < j → fieldO B a b c (tjF i x) (fjF i x) (pjF r x) = true)) (fun t _ => 3 - (intOf t).toNat)
  case atStart => exact ⟨0, by omega, rfl, HFS.out, fun j hj => absurd hj (by omega)⟩
  clear HFS hnb
  case round =>
    obtain ⟨j, hj, rfl, hfs, hall⟩ := hrel
    have F : Hid (∀ x, x < j → fieldO B a b c (tjF i x) (fjF i x) (pjF r x) = true) := hall
    have HFS : Hid (FS w a b c b0 o0 c0 B.length i nb wr) := hfs
    clear hall
    by_cases hlt : j < 3
    case neg =>
      have y1 : ¬ (j : Int) < 3 := by omega
      clear hfs
      go_wp2
      go_ret
      refine ⟨ret_bool ?_, HFS.out.bel⟩
      unfold fieldsO
      rw [eq_comm, List.all_eq_true]
      intro x hx
      exact F.out x (by simp at hx; omega)
    have y1 : (j : Int) < 3 := by omega
    have y0 : (0 : Int) ≤ (j : Int) := by omega
    have hidx := HX.out j hlt
    have hfsx := fun o => hfs.below ((Below.refl _ _).alloc (Nat.le_refl _) o)
    obtain ⟨tv, htv⟩ : ∃ x, x = tjF i j := ⟨_, rfl⟩
    obtain ⟨fv, hfv⟩ : ∃ x, x = fjF i j := ⟨_, rfl⟩
    obtain ⟨pv, hpv⟩ : ∃ x, x = pjF r j := ⟨_, rfl⟩
    rw [← hpv] at hidx
    have HTV : Hid (tv = tjF i j) := htv
    have HFV : Hid (fv = fjF i j) := hfv
    have HPV : Hid (pv = pjF r j) := hpv
    have NO : Hid (fieldO B a b c tv fv pv = false → fieldsO B a b c i r = false) := by
      intro hno
      unfold fieldsO
      rw [List.all_eq_false]
      exact ⟨j, by simpa using hlt, by rw [← htv, ← hfv, ← hpv, hno]; simp⟩
    have YES : Hid (fieldO B a b c tv fv pv = true → ∀ x, x < j + 1 → fieldO B a b c (tjF i x) (fjF i x) (pjF r x) = true) := by
      intro hyes x hx
      by_cases hxj : x < j
      · exact F.out x hxj
      · obtain rfl : x = j := by omega
        rw [← htv, ← hfv, ← hpv]; exact hyes
    have q0 : nb < wr.heap.size := by have := hfs.size; omega
    have q1 : nb + 1 < wr.heap.size := by have := hfs.size; omega
    have q2 : w.heap.size < wr.heap.size := by have := hfs.size; have := hfs.lt; omega
    have q3 : w.heap.size + 1 < wr.heap.size := by have := hfs.size; have := hfs.lt; omega
    have HLT : Hid (b0 < wr.heap.size) := by have := hfs.bel.size; show b0 < wr.heap.size; omega
    clear htv hfv hpv hfs
    go_upto_region 7 with fail
    obtain ⟨wx, hwx⟩ : ∃ wx, wx = wr.alloc (.cells #[.int .i64 pv.kind, .int .i64 pv.n] 137) := ⟨_, rfl⟩
    have hfx : FS w a b c b0 o0 c0 B.length i nb wx := by rw [hwx]; exact hfsx _
    have m0 : wx.cell? ⟨wr.heap.size, 0, none⟩ = some (.int .i64 pv.kind) := by rw [hwx]; simp [go_sem]
    have m1 : wx.cell? ⟨wr.heap.size, 1, none⟩ = some (.int .i64 pv.n) := by rw [hwx]; simp [go_sem]
    rw [← hwx]
    clear hfsx hidx hwx
    obtain ⟨pb, hpb⟩ : ∃ pb, pb = wr.heap.size := ⟨_, rfl⟩
    rw [← hpb] at m0 m1
    rw [← hpb]
    have HFX : Hid (FS w a b c b0 o0 c0 B.length i nb wx) := hfx
    have n0 := hfx.nm j hlt
    have n1 := hfx.tm j hlt
    rw [← HTV.out] at n0
    rw [← HFV.out] at n1
    obtain ⟨-, -, -, r0, r1, r2, r3, p0, -, -⟩ := hfx
    clear hpb q0 q1 q2 q3
    cases tv
    · cases hr : emptyB pv
      · skip
        refine wp_region_held_drew (S := (fun w' => Below wx.heap.size wx w' ∧ w'.cell? ⟨w.heap.size, 0, none⟩ = some (.int .i64 0) ∧ w'.cell? ⟨w.heap.size, 1, none⟩ = some (.int .i64 a) ∧ w'.cell? ⟨w.heap.size, 2, none⟩ = some (.int .i64 b) ∧ w'.cell? ⟨w.heap.size, 3, none⟩ = some (.int .i64 c) ∧ w'.cell? ⟨w.heap.size + 1, 0, none⟩ = some (.slice (some ⟨b0, o0, none⟩) B.length c0) ∧ w'.cell? ⟨nb, j, none⟩ = some (.bool false) ∧ w'.cell? ⟨nb + 1, j, none⟩ = some (.int .i64 fv) ∧ w'.cell? ⟨pb, 0, none⟩ = some (.int .i64 pv.kind) ∧ w'.cell? ⟨pb, 1, none⟩ = some (.int .i64 pv.n))) (by rfl) ?_ (fun hHeld => ?_)
        · (go_split_ands; refine ⟨?_, ?_, ?_, ?_, ?_, ?_, ?_, ?_, ?_, ?_⟩ <;> first | exact (Below.refl _ _).drew | exact ((Below.refl _ _).drew).trans hbr | exact step_below hbr (by assumption) | exact step_cell hbr (by assumption) | go_keep)
        refine wpAnyH_take (i := 0) (v := ?_) rfl (by kernel_rfl) (by kernel_rfl) (by kernel_rfl) (fun _ _ _ h => h) (Or.inl ⟨by rfl, ?_⟩) (by assumption) ?_
        case refine_2 => (intro w hSw; (try dsimp only at hSw); go_simp; try with_reducible rfl)
        show wpAnyH _ _ _ _ _ _ _ (Act.put _ (some 45) _) _
        simp only [pz]
        refine wpAnyH_take (i := 1) (v := ?_) rfl (by kernel_rfl) (by kernel_rfl) (by kernel_rfl) (fun _ _ _ h => h) (Or.inl ⟨by rfl, ?_⟩) (by assumption) ?_
        case refine_2 => (intro w hSw; (try dsimp only at hSw); go_simp; try with_reducible rfl)
        show wpAnyH _ _ _ _ _ _ _ (Act.put _ (some 46) _) _
        simp only [pz]
        refine wpAnyH_take (i := 2) (v := ?_) rfl (by kernel_rfl) (by kernel_rfl) (by kernel_rfl) (fun _ _ _ h => h) (Or.inl ⟨by rfl, ?_⟩) (by assumption) ?_
        case refine_2 => (intro w hSw; (try dsimp only at hSw); go_simp; try with_reducible rfl)
        show wpAnyH _ _ _ _ _ _ _ (Act.put _ (some 47) _) _
        simp only [pz]
        refine wpAnyH_take (i := 3) (v := ?_) rfl (by kernel_rfl) (by kernel_rfl) (by kernel_rfl) (fun _ _ _ h => h) (Or.inl ⟨by rfl, ?_⟩) (by assumption) ?_
        case refine_2 => (intro w hSw; (try dsimp only at hSw); go_simp; try with_reducible rfl)
        show wpAnyH _ _ _ _ _ _ _ (Act.put _ (some 48) _) _
        simp only [pz]
        refine wpAnyH_take (i := 4) (v := undef) rfl (by kernel_rfl) (by kernel_rfl) (by kernel_rfl) (fun _ _ _ h => h) (Or.inr ⟨by rfl, rfl⟩) (by assumption) ?_
        show wpAnyH _ _ _ _ _ _ _ (Act.put _ (some 49) _) _
        simp only [pz]
        refine wpAnyH_take (i := 5) (v := undef) rfl (by kernel_rfl) (by kernel_rfl) (by kernel_rfl) (fun _ _ _ h => h) (Or.inr ⟨by rfl, rfl⟩) (by assumption) ?_
        show wpAnyH _ _ _ _ _ _ _ (Act.put _ (some 50) _) _
        simp only [pz]
        refine wpAnyH_take (i := 6) (v := undef) rfl (by kernel_rfl) (by kernel_rfl) (by kernel_rfl) (fun _ _ _ h => h) (Or.inr ⟨by rfl, rfl⟩) (by assumption) ?_
        show wpAnyH _ _ _ _ _ _ _ (Act.put _ (some 51) _) _
        simp only [pz]
        refine wpAnyH_take (i := 7) (v := undef) rfl (by kernel_rfl) (by kernel_rfl) (by kernel_rfl) (fun _ _ _ h => h) (Or.inr ⟨by rfl, rfl⟩) (by assumption) ?_
        show wpAnyH _ _ _ _ _ _ _ (Act.put _ (some 52) _) _
        simp only [pz]
        refine wpAnyH_take (i := 8) (v := undef) rfl (by kernel_rfl) (by kernel_rfl) (by kernel_rfl) (fun _ _ _ h => h) (Or.inr ⟨by rfl, rfl⟩) (by assumption) ?_
        show wpAnyH _ _ _ _ _ _ _ (Act.put _ (some 53) _) _
        simp only [pz]
        refine wpAnyH_take (i := 9) (v := undef) rfl (by kernel_rfl) (by kernel_rfl) (by kernel_rfl) (fun _ _ _ h => h) (Or.inr ⟨by rfl, rfl⟩) (by assumption) ?_
        show wpAnyH _ _ _ _ _ _ _ (Act.put _ (some 54) _) _
        simp only [pz]
        refine wpAnyH_take (i := 10) (v := undef) rfl (by kernel_rfl) (by kernel_rfl) (by kernel_rfl) (fun _ _ _ h => h) (Or.inr ⟨by rfl, rfl⟩) (by assumption) ?_
        show wpAnyH _ _ _ _ _ _ _ (Act.put _ (some 55) _) _
        simp only [pz]
        refine wpAnyH_take (i := 11) (v := undef) rfl (by kernel_rfl) (by kernel_rfl) (by kernel_rfl) (fun _ _ _ h => h) (Or.inr ⟨by rfl, rfl⟩) (by assumption) ?_
        show wpAnyH _ _ _ _ _ _ _ (Act.put _ (some 56) _) _
        simp only [pz]
        refine wpAnyH_take (i := 12) (v := undef) rfl (by kernel_rfl) (by kernel_rfl) (by kernel_rfl) (fun _ _ _ h => h) (Or.inr ⟨by rfl, rfl⟩) (by assumption) ?_
        show wpAnyH _ _ _ _ _ _ _ (Act.put _ (some 57) _) _
        simp only [pz]
        refine wpAnyH_take (i := 13) (v := undef) rfl (by kernel_rfl) (by kernel_rfl) (by kernel_rfl) (fun _ _ _ h => h) (Or.inr ⟨by rfl, rfl⟩) (by assumption) ?_
        show wpAnyH _ _ _ _ _ _ _ (Act.put _ (some 58) _) _
        simp only [pz]
        refine wpAnyH_take (i := 14) (v := undef) rfl (by kernel_rfl) (by kernel_rfl) (by kernel_rfl) (fun _ _ _ h => h) (Or.inr ⟨by rfl, rfl⟩) (by assumption) ?_
        show wpAnyH _ _ _ _ _ _ _ (Act.put _ (some 59) _) _
        simp only [pz]
        refine wpAnyH_take (i := 15) (v := ?_) rfl (by kernel_rfl) (by kernel_rfl) (by kernel_rfl) (fun _ _ _ h => h) (Or.inl ⟨by rfl, ?_⟩) (by assumption) ?_
        case refine_2 => (intro w hSw; (try dsimp only at hSw); go_simp; try with_reducible rfl)
        show wpAnyH _ _ _ _ _ _ _ (Act.put _ (some 60) _) _
        simp only [pz]
        refine wpAnyH_take (i := 16) (v := ?_) rfl (by kernel_rfl) (by kernel_rfl) (by kernel_rfl) (fun _ _ _ h => h) (Or.inl ⟨by rfl, ?_⟩) (by assumption) ?_
        case refine_2 => (intro w hSw; (try dsimp only at hSw); go_simp; try with_reducible rfl)
        show wpAnyH _ _ _ _ _ _ _ (Act.put _ (some 61) _) _
        simp only [pz]
        refine wpAnyH_take (i := 17) (v := ?_) rfl (by kernel_rfl) (by kernel_rfl) (by kernel_rfl) (fun _ _ _ h => h) (Or.inl ⟨by rfl, ?_⟩) (by assumption) ?_
        case refine_2 => (intro w hSw; (try dsimp only at hSw); go_simp; try with_reducible rfl)
        show wpAnyH _ _ _ _ _ _ _ (Act.put _ (some 62) _) _
        simp only [pz]
        refine wpAnyH_take (i := 18) (v := ?_) rfl (by kernel_rfl) (by kernel_rfl) (by kernel_rfl) (fun _ _ _ h => h) (Or.inl ⟨by rfl, ?_⟩) (by assumption) ?_
        case refine_2 => (intro w hSw; (try dsimp only at hSw); go_simp; try with_reducible rfl)
        show wpAnyH _ _ _ _ _ _ _ (Act.put _ (some 63) _) _
        simp only [pz]
        refine wpAnyH_take (i := 19) (v := ?_) rfl (by kernel_rfl) (by kernel_rfl) (by kernel_rfl) (fun _ _ _ h => h) (Or.inl ⟨by rfl, ?_⟩) (by assumption) ?_
        case refine_2 => (intro w hSw; (try dsimp only at hSw); go_simp; try with_reducible rfl)
        show wpAnyH _ _ _ _ _ _ _ (Act.put _ (some 64) _) _
        simp only [pz]
        refine wpAnyH_take (i := 20) (v := ?_) rfl (by kernel_rfl) (by kernel_rfl) (by kernel_rfl) (fun _ _ _ h => h) (Or.inl ⟨by rfl, ?_⟩) (by assumption) ?_
        case refine_2 => (intro w hSw; (try dsimp only at hSw); go_simp; try with_reducible rfl)
        show wpAnyH _ _ _ _ _ _ _ (Act.put _ (some 65) _) _
        simp only [pz]
        refine wpAnyH_take (i := 21) (v := ?_) rfl (by kernel_rfl) (by kernel_rfl) (by kernel_rfl) (fun _ _ _ h => h) (Or.inl ⟨by rfl, ?_⟩) (by assumption) ?_
        case refine_2 => (intro w hSw; (try dsimp only at hSw); go_simp; try with_reducible rfl)
        show wpAnyH _ _ _ _ _ _ _ (Act.put _ (some 66) _) _
        simp only [pz]
        refine wpAnyH_take (i := 22) (v := ?_) rfl (by kernel_rfl) (by kernel_rfl) (by kernel_rfl) (fun _ _ _ h => h) (Or.inl ⟨by rfl, ?_⟩) (by assumption) ?_
        case refine_2 => (intro w hSw; (try dsimp only at hSw); go_simp; try with_reducible rfl)
        show wpAnyH _ _ _ _ _ _ _ (Act.put _ (some 67) _) _
        simp only [pz]
        refine wpAnyH_ready (rs := [23]) (by kernel_rfl) (by simp) ?_
        refine (AllReadyH.cons rfl (fun K hK => ?_) AllReadyH.nil)
        go_simp
        go_at_call 162
        refine (isEmpty pv _).mono ?_
        rintro e w1 ⟨rfl, hbr⟩
        rw [hr]
        go_wp2_with fail
        refine hK.out _ _ ?_ (fun hHeld => ?_)
        · (go_split_ands; refine ⟨?_, ?_, ?_, ?_, ?_, ?_, ?_, ?_, ?_, ?_⟩ <;> first | exact (Below.refl _ _).drew | exact ((Below.refl _ _).drew).trans hbr | exact step_below hbr (by assumption) | exact step_cell hbr (by assumption) | go_keep)
        clear hK K
        try simp only [pz]
        refine wpAnyH_take (i := 24) (v := ?_) rfl (by kernel_rfl) (by kernel_rfl) (by kernel_rfl) (fun _ _ _ h => h) (Or.inl ⟨by rfl, ?_⟩) (by assumption) ?_
        case refine_2 => (intro w hSw; (try dsimp only at hSw); go_simp; try with_reducible rfl)
        show wpAnyH _ _ _ _ _ _ _ (Act.put _ (some 69) _) _
        simp only [pz]
        refine wpAnyH_take (i := 25) (v := ?_) rfl (by kernel_rfl) (by kernel_rfl) (by kernel_rfl) (fun _ _ _ h => h) (Or.inl ⟨by rfl, ?_⟩) (by assumption) ?_
        case refine_2 => (intro w hSw; (try dsimp only at hSw); go_simp; try with_reducible rfl)
        show wpAnyH _ _ _ _ _ _ _ (Act.put _ (some 70) _) _
        simp only [pz]
        refine wpAnyH_take (i := 26) (v := ?_) rfl (by kernel_rfl) (by kernel_rfl) (by kernel_rfl) (fun _ _ _ h => h) (Or.inl ⟨by rfl, ?_⟩) (by assumption) ?_
        case refine_2 => (intro w hSw; (try dsimp only at hSw); go_simp; try with_reducible rfl)
        show wpAnyH _ _ _ _ _ _ _ (Act.put _ (some 71) _) _
        simp only [pz]
        refine wpAnyH_done (by kernel_rfl) ?_ _
        have HB9 : Hid (Below wx.heap.size wx w1) := hHeld.1
        clear hHeld hbr
        go_wp2
        go_ret
        exact ⟨ret_bool (NO.out (by unfold fieldO; rw [if_neg (by simp)]; exact hr)).symm, step_below HB9.out HFX.out.bel⟩
      · skip
        refine wp_region_held_drew (S := (fun w' => Below wx.heap.size wx w' ∧ w'.cell? ⟨w.heap.size, 0, none⟩ = some (.int .i64 0) ∧ w'.cell? ⟨w.heap.size, 1, none⟩ = some (.int .i64 a) ∧ w'.cell? ⟨w.heap.size, 2, none⟩ = some (.int .i64 b) ∧ w'.cell? ⟨w.heap.size, 3, none⟩ = some (.int .i64 c) ∧ w'.cell? ⟨w.heap.size + 1, 0, none⟩ = some (.slice (some ⟨b0, o0, none⟩) B.length c0) ∧ w'.cell? ⟨nb, j, none⟩ = some (.bool false) ∧ w'.cell? ⟨nb + 1, j, none⟩ = some (.int .i64 fv) ∧ w'.cell? ⟨pb, 0, none⟩ = some (.int .i64 pv.kind) ∧ w'.cell? ⟨pb, 1, none⟩ = some (.int .i64 pv.n))) (by rfl) ?_ (fun hHeld => ?_)
        · (go_split_ands; refine ⟨?_, ?_, ?_, ?_, ?_, ?_, ?_, ?_, ?_, ?_⟩ <;> first | exact (Below.refl _ _).drew | exact ((Below.refl _ _).drew).trans hbr | exact step_below hbr (by assumption) | exact step_cell hbr (by assumption) | go_keep)
        refine wpAnyH_take (i := 0) (v := ?_) rfl (by kernel_rfl) (by kernel_rfl) (by kernel_rfl) (fun _ _ _ h => h) (Or.inl ⟨by rfl, ?_⟩) (by assumption) ?_
        case refine_2 => (intro w hSw; (try dsimp only at hSw); go_simp; try with_reducible rfl)
        show wpAnyH _ _ _ _ _ _ _ (Act.put _ (some 45) _) _
        simp only [pz]
        refine wpAnyH_take (i := 1) (v := ?_) rfl (by kernel_rfl) (by kernel_rfl) (by kernel_rfl) (fun _ _ _ h => h) (Or.inl ⟨by rfl, ?_⟩) (by assumption) ?_
        case refine_2 => (intro w hSw; (try dsimp only at hSw); go_simp; try with_reducible rfl)
        show wpAnyH _ _ _ _ _ _ _ (Act.put _ (some 46) _) _
        simp only [pz]
        refine wpAnyH_take (i := 2) (v := ?_) rfl (by kernel_rfl) (by kernel_rfl) (by kernel_rfl) (fun _ _ _ h => h) (Or.inl ⟨by rfl, ?_⟩) (by assumption) ?_
        case refine_2 => (intro w hSw; (try dsimp only at hSw); go_simp; try with_reducible rfl)
        show wpAnyH _ _ _ _ _ _ _ (Act.put _ (some 47) _) _
        simp only [pz]
        refine wpAnyH_take (i := 3) (v := ?_) rfl (by kernel_rfl) (by kernel_rfl) (by kernel_rfl) (fun _ _ _ h => h) (Or.inl ⟨by rfl, ?_⟩) (by assumption) ?_
        case refine_2 => (intro w hSw; (try dsimp only at hSw); go_simp; try with_reducible rfl)
        show wpAnyH _ _ _ _ _ _ _ (Act.put _ (some 48) _) _
        simp only [pz]
        refine wpAnyH_take (i := 4) (v := undef) rfl (by kernel_rfl) (by kernel_rfl) (by kernel_rfl) (fun _ _ _ h => h) (Or.inr ⟨by rfl, rfl⟩) (by assumption) ?_
        show wpAnyH _ _ _ _ _ _ _ (Act.put _ (some 49) _) _
        simp only [pz]
        refine wpAnyH_take (i := 5) (v := undef) rfl (by kernel_rfl) (by kernel_rfl) (by kernel_rfl) (fun _ _ _ h => h) (Or.inr ⟨by rfl, rfl⟩) (by assumption) ?_
        show wpAnyH _ _ _ _ _ _ _ (Act.put _ (some 50) _) _
        simp only [pz]
        refine wpAnyH_take (i := 6) (v := undef) rfl (by kernel_rfl) (by kernel_rfl) (by kernel_rfl) (fun _ _ _ h => h) (Or.inr ⟨by rfl, rfl⟩) (by assumption) ?_
        show wpAnyH _ _ _ _ _ _ _ (Act.put _ (some 51) _) _
        simp only [pz]
        refine wpAnyH_take (i := 7) (v := undef) rfl (by kernel_rfl) (by kernel_rfl) (by kernel_rfl) (fun _ _ _ h => h) (Or.inr ⟨by rfl, rfl⟩) (by assumption) ?_
        show wpAnyH _ _ _ _ _ _ _ (Act.put _ (some 52) _) _
        simp only [pz]
        refine wpAnyH_take (i := 8) (v := undef) rfl (by kernel_rfl) (by kernel_rfl) (by kernel_rfl) (fun _ _ _ h => h) (Or.inr ⟨by rfl, rfl⟩) (by assumption) ?_
        show wpAnyH _ _ _ _ _ _ _ (Act.put _ (some 53) _) _
        simp only [pz]
        refine wpAnyH_take (i := 9) (v := undef) rfl (by kernel_rfl) (by kernel_rfl) (by kernel_rfl) (fun _ _ _ h => h) (Or.inr ⟨by rfl, rfl⟩) (by assumption) ?_
        show wpAnyH _ _ _ _ _ _ _ (Act.put _ (some 54) _) _
        simp only [pz]
        refine wpAnyH_take (i := 10) (v := undef) rfl (by kernel_rfl) (by kernel_rfl) (by kernel_rfl) (fun _ _ _ h => h) (Or.inr ⟨by rfl, rfl⟩) (by assumption) ?_
        show wpAnyH _ _ _ _ _ _ _ (Act.put _ (some 55) _) _
        simp only [pz]
        refine wpAnyH_take (i := 11) (v := undef) rfl (by kernel_rfl) (by kernel_rfl) (by kernel_rfl) (fun _ _ _ h => h) (Or.inr ⟨by rfl, rfl⟩) (by assumption) ?_
        show wpAnyH _ _ _ _ _ _ _ (Act.put _ (some 56) _) _
        simp only [pz]
        refine wpAnyH_take (i := 12) (v := undef) rfl (by kernel_rfl) (by kernel_rfl) (by kernel_rfl) (fun _ _ _ h => h) (Or.inr ⟨by rfl, rfl⟩) (by assumption) ?_
        show wpAnyH _ _ _ _ _ _ _ (Act.put _ (some 57) _) _
        simp only [pz]
        refine wpAnyH_take (i := 13) (v := undef) rfl (by kernel_rfl) (by kernel_rfl) (by kernel_rfl) (fun _ _ _ h => h) (Or.inr ⟨by rfl, rfl⟩) (by assumption) ?_
        show wpAnyH _ _ _ _ _ _ _ (Act.put _ (some 58) _) _
        simp only [pz]
        refine wpAnyH_take (i := 14) (v := undef) rfl (by kernel_rfl) (by kernel_rfl) (by kernel_rfl) (fun _ _ _ h => h) (Or.inr ⟨by rfl, rfl⟩) (by assumption) ?_
        show wpAnyH _ _ _ _ _ _ _ (Act.put _ (some 59) _) _
        simp only [pz]
        refine wpAnyH_take (i := 15) (v := ?_) rfl (by kernel_rfl) (by kernel_rfl) (by kernel_rfl) (fun _ _ _ h => h) (Or.inl ⟨by rfl, ?_⟩) (by assumption) ?_
        case refine_2 => (intro w hSw; (try dsimp only at hSw); go_simp; try with_reducible rfl)
        show wpAnyH _ _ _ _ _ _ _ (Act.put _ (some 60) _) _
        simp only [pz]
        refine wpAnyH_take (i := 16) (v := ?_) rfl (by kernel_rfl) (by kernel_rfl) (by kernel_rfl) (fun _ _ _ h => h) (Or.inl ⟨by rfl, ?_⟩) (by assumption) ?_
        case refine_2 => (intro w hSw; (try dsimp only at hSw); go_simp; try with_reducible rfl)
        show wpAnyH _ _ _ _ _ _ _ (Act.put _ (some 61) _) _
        simp only [pz]
        refine wpAnyH_take (i := 17) (v := ?_) rfl (by kernel_rfl) (by kernel_rfl) (by kernel_rfl) (fun _ _ _ h => h) (Or.inl ⟨by rfl, ?_⟩) (by assumption) ?_
        case refine_2 => (intro w hSw; (try dsimp only at hSw); go_simp; try with_reducible rfl)
        show wpAnyH _ _ _ _ _ _ _ (Act.put _ (some 62) _) _
        simp only [pz]
        refine wpAnyH_take (i := 18) (v := ?_) rfl (by kernel_rfl) (by kernel_rfl) (by kernel_rfl) (fun _ _ _ h => h) (Or.inl ⟨by rfl, ?_⟩) (by assumption) ?_
        case refine_2 => (intro w hSw; (try dsimp only at hSw); go_simp; try with_reducible rfl)
        show wpAnyH _ _ _ _ _ _ _ (Act.put _ (some 63) _) _
        simp only [pz]
        refine wpAnyH_take (i := 19) (v := ?_) rfl (by kernel_rfl) (by kernel_rfl) (by kernel_rfl) (fun _ _ _ h => h) (Or.inl ⟨by rfl, ?_⟩) (by assumption) ?_
        case refine_2 => (intro w hSw; (try dsimp only at hSw); go_simp; try with_reducible rfl)
        show wpAnyH _ _ _ _ _ _ _ (Act.put _ (some 64) _) _
        simp only [pz]
        refine wpAnyH_take (i := 20) (v := ?_) rfl (by kernel_rfl) (by kernel_rfl) (by kernel_rfl) (fun _ _ _ h => h) (Or.inl ⟨by rfl, ?_⟩) (by assumption) ?_
        case refine_2 => (intro w hSw; (try dsimp only at hSw); go_simp; try with_reducible rfl)
        show wpAnyH _ _ _ _ _ _ _ (Act.put _ (some 65) _) _
        simp only [pz]
        refine wpAnyH_take (i := 21) (v := ?_) rfl (by kernel_rfl) (by kernel_rfl) (by kernel_rfl) (fun _ _ _ h => h) (Or.inl ⟨by rfl, ?_⟩) (by assumption) ?_
        case refine_2 => (intro w hSw; (try dsimp only at hSw); go_simp; try with_reducible rfl)
        show wpAnyH _ _ _ _ _ _ _ (Act.put _ (some 66) _) _
        simp only [pz]
        refine wpAnyH_take (i := 22) (v := ?_) rfl (by kernel_rfl) (by kernel_rfl) (by kernel_rfl) (fun _ _ _ h => h) (Or.inl ⟨by rfl, ?_⟩) (by assumption) ?_
        case refine_2 => (intro w hSw; (try dsimp only at hSw); go_simp; try with_reducible rfl)
        show wpAnyH _ _ _ _ _ _ _ (Act.put _ (some 67) _) _
        simp only [pz]
        refine wpAnyH_ready (rs := [23]) (by kernel_rfl) (by simp) ?_
        refine (AllReadyH.cons rfl (fun K hK => ?_) AllReadyH.nil)
        go_simp
        go_at_call 162
        refine (isEmpty pv _).mono ?_
        rintro e w1 ⟨rfl, hbr⟩
        rw [hr]
        go_wp2_with fail
        refine hK.out _ _ ?_ (fun hHeld => ?_)
        · (go_split_ands; refine ⟨?_, ?_, ?_, ?_, ?_, ?_, ?_, ?_, ?_, ?_⟩ <;> first | exact (Below.refl _ _).drew | exact ((Below.refl _ _).drew).trans hbr | exact step_below hbr (by assumption) | exact step_cell hbr (by assumption) | go_keep)
        clear hK K
        try simp only [pz]
        refine wpAnyH_take (i := 24) (v := ?_) rfl (by kernel_rfl) (by kernel_rfl) (by kernel_rfl) (fun _ _ _ h => h) (Or.inl ⟨by rfl, ?_⟩) (by assumption) ?_
        case refine_2 => (intro w hSw; (try dsimp only at hSw); go_simp; try with_reducible rfl)
        show wpAnyH _ _ _ _ _ _ _ (Act.put _ (some 69) _) _
        simp only [pz]
        refine wpAnyH_take (i := 25) (v := ?_) rfl (by kernel_rfl) (by kernel_rfl) (by kernel_rfl) (fun _ _ _ h => h) (Or.inl ⟨by rfl, ?_⟩) (by assumption) ?_
        case refine_2 => (intro w hSw; (try dsimp only at hSw); go_simp; try with_reducible rfl)
        show wpAnyH _ _ _ _ _ _ _ (Act.put _ (some 70) _) _
        simp only [pz]
        refine wpAnyH_take (i := 26) (v := ?_) rfl (by kernel_rfl) (by kernel_rfl) (by kernel_rfl) (fun _ _ _ h => h) (Or.inl ⟨by rfl, ?_⟩) (by assumption) ?_
        case refine_2 => (intro w hSw; (try dsimp only at hSw); go_simp; try with_reducible rfl)
        show wpAnyH _ _ _ _ _ _ _ (Act.put _ (some 71) _) _
        simp only [pz]
        refine wpAnyH_done (by kernel_rfl) ?_ _
        have HB9 : Hid (Below wx.heap.size wx w1) := hHeld.1
        clear hHeld hbr
        go_wp2
        exact ⟨⟨j + 1, by omega, by go_num, HFX.out.below HB9.out, YES.out (by unfold fieldO; rw [if_neg (by simp)]; exact hr)⟩, by simp [intOf]; omega⟩
    · obtain ⟨hf0, hf1⟩ := HF.out j hlt HTV.out.symm
      rw [← HFV.out] at hf0 hf1
      have wc0 := (HH.out.later HFX.out.bel).wide fv.toNat (by omega)
      obtain ⟨wv, hwv⟩ : ∃ x, x = B.getD fv.toNat false := ⟨_, rfl⟩
      rw [← hwv] at wc0
      have HWV : Hid (wv = B.getD fv.toNat false) := hwv
      clear hwv
      cases hr : holdB a b c pv wv
      · skip
        refine wp_region_held_drew (S := (fun w' => Below wx.heap.size wx w' ∧ w'.cell? ⟨w.heap.size, 0, none⟩ = some (.int .i64 0) ∧ w'.cell? ⟨w.heap.size, 1, none⟩ = some (.int .i64 a) ∧ w'.cell? ⟨w.heap.size, 2, none⟩ = some (.int .i64 b) ∧ w'.cell? ⟨w.heap.size, 3, none⟩ = some (.int .i64 c) ∧ w'.cell? ⟨w.heap.size + 1, 0, none⟩ = some (.slice (some ⟨b0, o0, none⟩) B.length c0) ∧ w'.cell? ⟨nb, j, none⟩ = some (.bool true) ∧ w'.cell? ⟨nb + 1, j, none⟩ = some (.int .i64 fv) ∧ w'.cell? ⟨pb, 0, none⟩ = some (.int .i64 pv.kind) ∧ w'.cell? ⟨pb, 1, none⟩ = some (.int .i64 pv.n) ∧ w'.cell? ⟨b0, o0 + fv.toNat, none⟩ = some (.bool wv))) (by rfl) ?_ (fun hHeld => ?_)
        · (go_split_ands; refine ⟨?_, ?_, ?_, ?_, ?_, ?_, ?_, ?_, ?_, ?_, ?_⟩ <;> first | exact (Below.refl _ _).drew | exact ((Below.refl _ _).drew).trans hbr | exact step_below hbr (by assumption) | exact step_cell hbr (by assumption) | go_keep)
        refine wpAnyH_take (i := 0) (v := ?_) rfl (by kernel_rfl) (by kernel_rfl) (by kernel_rfl) (fun _ _ _ h => h) (Or.inl ⟨by rfl, ?_⟩) (by assumption) ?_
        case refine_2 => (intro w hSw; (try dsimp only at hSw); go_simp; try with_reducible rfl)
        show wpAnyH _ _ _ _ _ _ _ (Act.put _ (some 45) _) _
        simp only [pz]
        refine wpAnyH_take (i := 1) (v := ?_) rfl (by kernel_rfl) (by kernel_rfl) (by kernel_rfl) (fun _ _ _ h => h) (Or.inl ⟨by rfl, ?_⟩) (by assumption) ?_
        case refine_2 => (intro w hSw; (try dsimp only at hSw); go_simp; try with_reducible rfl)
        show wpAnyH _ _ _ _ _ _ _ (Act.put _ (some 46) _) _
        simp only [pz]
        refine wpAnyH_take (i := 2) (v := ?_) rfl (by kernel_rfl) (by kernel_rfl) (by kernel_rfl) (fun _ _ _ h => h) (Or.inl ⟨by rfl, ?_⟩) (by assumption) ?_
        case refine_2 => (intro w hSw; (try dsimp only at hSw); go_simp; try with_reducible rfl)
        show wpAnyH _ _ _ _ _ _ _ (Act.put _ (some 47) _) _
        simp only [pz]
        refine wpAnyH_take (i := 3) (v := ?_) rfl (by kernel_rfl) (by kernel_rfl) (by kernel_rfl) (fun _ _ _ h => h) (Or.inl ⟨by rfl, ?_⟩) (by assumption) ?_
        case refine_2 => (intro w hSw; (try dsimp only at hSw); go_simp; try with_reducible rfl)
        show wpAnyH _ _ _ _ _ _ _ (Act.put _ (some 48) _) _
        simp only [pz]
        refine wpAnyH_take (i := 4) (v := ?_) rfl (by kernel_rfl) (by kernel_rfl) (by kernel_rfl) (fun _ _ _ h => h) (Or.inl ⟨by rfl, ?_⟩) (by assumption) ?_
        case refine_2 => (intro w hSw; (try dsimp only at hSw); go_simp; try with_reducible rfl)
        show wpAnyH _ _ _ _ _ _ _ (Act.put _ (some 49) _) _
        simp only [pz]
        refine wpAnyH_take (i := 5) (v := ?_) rfl (by kernel_rfl) (by kernel_rfl) (by kernel_rfl) (fun _ _ _ h => h) (Or.inl ⟨by rfl, ?_⟩) (by assumption) ?_
        case refine_2 => (intro w hSw; (try dsimp only at hSw); go_simp; try with_reducible rfl)
        show wpAnyH _ _ _ _ _ _ _ (Act.put _ (some 50) _) _
        simp only [pz]
        refine wpAnyH_take (i := 6) (v := ?_) rfl (by kernel_rfl) (by kernel_rfl) (by kernel_rfl) (fun _ _ _ h => h) (Or.inl ⟨by rfl, ?_⟩) (by assumption) ?_
        case refine_2 => (intro w hSw; (try dsimp only at hSw); go_simp; try with_reducible rfl)
        show wpAnyH _ _ _ _ _ _ _ (Act.put _ (some 51) _) _
        simp only [pz]
        refine wpAnyH_take (i := 7) (v := ?_) rfl (by kernel_rfl) (by kernel_rfl) (by kernel_rfl) (fun _ _ _ h => h) (Or.inl ⟨by rfl, ?_⟩) (by assumption) ?_
        case refine_2 => (intro w hSw; (try dsimp only at hSw); go_simp; try with_reducible rfl)
        show wpAnyH _ _ _ _ _ _ _ (Act.put _ (some 52) _) _
        simp only [pz]
        refine wpAnyH_take (i := 8) (v := ?_) rfl (by kernel_rfl) (by kernel_rfl) (by kernel_rfl) (fun _ _ _ h => h) (Or.inl ⟨by rfl, ?_⟩) (by assumption) ?_
        case refine_2 => (intro w hSw; (try dsimp only at hSw); go_simp; try with_reducible rfl)
        show wpAnyH _ _ _ _ _ _ _ (Act.put _ (some 53) _) _
        simp only [pz]
        refine wpAnyH_take (i := 9) (v := ?_) rfl (by kernel_rfl) (by kernel_rfl) (by kernel_rfl) (fun _ _ _ h => h) (Or.inl ⟨by rfl, ?_⟩) (by assumption) ?_
        case refine_2 => (intro w hSw; (try dsimp only at hSw); go_simp; try with_reducible rfl)
        show wpAnyH _ _ _ _ _ _ _ (Act.put _ (some 54) _) _
        simp only [pz]
        refine wpAnyH_take (i := 10) (v := ?_) rfl (by kernel_rfl) (by kernel_rfl) (by kernel_rfl) (fun _ _ _ h => h) (Or.inl ⟨by rfl, ?_⟩) (by assumption) ?_
        case refine_2 => (intro w hSw; (try dsimp only at hSw); go_simp; try with_reducible rfl)
        show wpAnyH _ _ _ _ _ _ _ (Act.put _ (some 55) _) _
        simp only [pz]
        refine wpAnyH_take (i := 11) (v := ?_) rfl (by kernel_rfl) (by kernel_rfl) (by kernel_rfl) (fun _ _ _ h => h) (Or.inl ⟨by rfl, ?_⟩) (by assumption) ?_
        case refine_2 => (intro w hSw; (try dsimp only at hSw); go_simp; try with_reducible rfl)
        show wpAnyH _ _ _ _ _ _ _ (Act.put _ (some 56) _) _
        simp only [pz]
        refine wpAnyH_take (i := 12) (v := ?_) rfl (by kernel_rfl) (by kernel_rfl) (by kernel_rfl) (fun _ _ _ h => h) (Or.inl ⟨by rfl, ?_⟩) (by assumption) ?_
        case refine_2 => (intro w hSw; (try dsimp only at hSw); go_simp; try with_reducible rfl)
        show wpAnyH _ _ _ _ _ _ _ (Act.put _ (some 57) _) _
        simp only [pz]
        refine wpAnyH_ready (rs := [13]) (by kernel_rfl) (by simp) ?_
        refine (AllReadyH.cons rfl (fun K hK => ?_) AllReadyH.nil)
        go_simp
        go_at_call 161
        refine (holds a b c pv wv _).mono ?_
        rintro e w1 ⟨rfl, hbr⟩
        rw [hr]
        go_wp2_with fail
        refine hK.out _ _ ?_ (fun hHeld => ?_)
        · (go_split_ands; refine ⟨?_, ?_, ?_, ?_, ?_, ?_, ?_, ?_, ?_, ?_, ?_⟩ <;> first | exact (Below.refl _ _).drew | exact ((Below.refl _ _).drew).trans hbr | exact step_below hbr (by assumption) | exact step_cell hbr (by assumption) | go_keep)
        clear hK K
        try simp only [pz]
        refine wpAnyH_take (i := 14) (v := ?_) rfl (by kernel_rfl) (by kernel_rfl) (by kernel_rfl) (fun _ _ _ h => h) (Or.inl ⟨by rfl, ?_⟩) (by assumption) ?_
        case refine_2 => (intro w hSw; (try dsimp only at hSw); go_simp; try with_reducible rfl)
        show wpAnyH _ _ _ _ _ _ _ (Act.put _ (some 59) _) _
        simp only [pz]
        refine wpAnyH_take (i := 15) (v := ?_) rfl (by kernel_rfl) (by kernel_rfl) (by kernel_rfl) (fun _ _ _ h => h) (Or.inl ⟨by rfl, ?_⟩) (by assumption) ?_
        case refine_2 => (intro w hSw; (try dsimp only at hSw); go_simp; try with_reducible rfl)
        show wpAnyH _ _ _ _ _ _ _ (Act.put _ (some 60) _) _
        simp only [pz]
        refine wpAnyH_take (i := 16) (v := ?_) rfl (by kernel_rfl) (by kernel_rfl) (by kernel_rfl) (fun _ _ _ h => h) (Or.inl ⟨by rfl, ?_⟩) (by assumption) ?_
        case refine_2 => (intro w hSw; (try dsimp only at hSw); go_simp; try with_reducible rfl)
        show wpAnyH _ _ _ _ _ _ _ (Act.put _ (some 61) _) _
        simp only [pz]
        refine wpAnyH_take (i := 17) (v := undef) rfl (by kernel_rfl) (by kernel_rfl) (by kernel_rfl) (fun _ _ _ h => h) (Or.inr ⟨by rfl, rfl⟩) (by assumption) ?_
        show wpAnyH _ _ _ _ _ _ _ (Act.put _ (some 62) _) _
        simp only [pz]
        refine wpAnyH_take (i := 18) (v := undef) rfl (by kernel_rfl) (by kernel_rfl) (by kernel_rfl) (fun _ _ _ h => h) (Or.inr ⟨by rfl, rfl⟩) (by assumption) ?_
        show wpAnyH _ _ _ _ _ _ _ (Act.put _ (some 63) _) _
        simp only [pz]
        refine wpAnyH_take (i := 19) (v := undef) rfl (by kernel_rfl) (by kernel_rfl) (by kernel_rfl) (fun _ _ _ h => h) (Or.inr ⟨by rfl, rfl⟩) (by assumption) ?_
        show wpAnyH _ _ _ _ _ _ _ (Act.put _ (some 64) _) _
        simp only [pz]
        refine wpAnyH_take (i := 20) (v := undef) rfl (by kernel_rfl) (by kernel_rfl) (by kernel_rfl) (fun _ _ _ h => h) (Or.inr ⟨by rfl, rfl⟩) (by assumption) ?_
        show wpAnyH _ _ _ _ _ _ _ (Act.put _ (some 65) _) _
        simp only [pz]
        refine wpAnyH_take (i := 21) (v := undef) rfl (by kernel_rfl) (by kernel_rfl) (by kernel_rfl) (fun _ _ _ h => h) (Or.inr ⟨by rfl, rfl⟩) (by assumption) ?_
        show wpAnyH _ _ _ _ _ _ _ (Act.put _ (some 66) _) _
        simp only [pz]
        refine wpAnyH_take (i := 22) (v := undef) rfl (by kernel_rfl) (by kernel_rfl) (by kernel_rfl) (fun _ _ _ h => h) (Or.inr ⟨by rfl, rfl⟩) (by assumption) ?_
        show wpAnyH _ _ _ _ _ _ _ (Act.put _ (some 67) _) _
        simp only [pz]
        refine wpAnyH_take (i := 23) (v := undef) rfl (by kernel_rfl) (by kernel_rfl) (by kernel_rfl) (fun _ _ _ h => h) (Or.inr ⟨by rfl, rfl⟩) (by assumption) ?_
        show wpAnyH _ _ _ _ _ _ _ (Act.put _ (some 68) _) _
        simp only [pz]
        refine wpAnyH_take (i := 24) (v := undef) rfl (by kernel_rfl) (by kernel_rfl) (by kernel_rfl) (fun _ _ _ h => h) (Or.inr ⟨by rfl, rfl⟩) (by assumption) ?_
        show wpAnyH _ _ _ _ _ _ _ (Act.put _ (some 69) _) _
        simp only [pz]
        refine wpAnyH_take (i := 25) (v := undef) rfl (by kernel_rfl) (by kernel_rfl) (by kernel_rfl) (fun _ _ _ h => h) (Or.inr ⟨by rfl, rfl⟩) (by assumption) ?_
        show wpAnyH _ _ _ _ _ _ _ (Act.put _ (some 70) _) _
        simp only [pz]
        refine wpAnyH_take (i := 26) (v := ?_) rfl (by kernel_rfl) (by kernel_rfl) (by kernel_rfl) (fun _ _ _ h => h) (Or.inl ⟨by rfl, ?_⟩) (by assumption) ?_
        case refine_2 => (intro w hSw; (try dsimp only at hSw); go_simp; try with_reducible rfl)
        show wpAnyH _ _ _ _ _ _ _ (Act.put _ (some 71) _) _
        simp only [pz]
        refine wpAnyH_done (by kernel_rfl) ?_ _
        have HB9 : Hid (Below wx.heap.size wx w1) := hHeld.1
        clear hHeld hbr
        go_wp2
        go_ret
        exact ⟨ret_bool (NO.out (by unfold fieldO; rw [if_pos rfl, ← HWV.out]; exact hr)).symm, step_below HB9.out HFX.out.bel⟩
      · skip
        refine wp_region_held_drew (S := (fun w' => Below wx.heap.size wx w' ∧ w'.cell? ⟨w.heap.size, 0, none⟩ = some (.int .i64 0) ∧ w'.cell? ⟨w.heap.size, 1, none⟩ = some (.int .i64 a) ∧ w'.cell? ⟨w.heap.size, 2, none⟩ = some (.int .i64 b) ∧ w'.cell? ⟨w.heap.size, 3, none⟩ = some (.int .i64 c) ∧ w'.cell? ⟨w.heap.size + 1, 0, none⟩ = some (.slice (some ⟨b0, o0, none⟩) B.length c0) ∧ w'.cell? ⟨nb, j, none⟩ = some (.bool true) ∧ w'.cell? ⟨nb + 1, j, none⟩ = some (.int .i64 fv) ∧ w'.cell? ⟨pb, 0, none⟩ = some (.int .i64 pv.kind) ∧ w'.cell? ⟨pb, 1, none⟩ = some (.int .i64 pv.n) ∧ w'.cell? ⟨b0, o0 + fv.toNat, none⟩ = some (.bool wv))) (by rfl) ?_ (fun hHeld => ?_)
        · (go_split_ands; refine ⟨?_, ?_, ?_, ?_, ?_, ?_, ?_, ?_, ?_, ?_, ?_⟩ <;> first | exact (Below.refl _ _).drew | exact ((Below.refl _ _).drew).trans hbr | exact step_below hbr (by assumption) | exact step_cell hbr (by assumption) | go_keep)
        refine wpAnyH_take (i := 0) (v := ?_) rfl (by kernel_rfl) (by kernel_rfl) (by kernel_rfl) (fun _ _ _ h => h) (Or.inl ⟨by rfl, ?_⟩) (by assumption) ?_
        case refine_2 => (intro w hSw; (try dsimp only at hSw); go_simp; try with_reducible rfl)
        show wpAnyH _ _ _ _ _ _ _ (Act.put _ (some 45) _) _
        simp only [pz]
        refine wpAnyH_take (i := 1) (v := ?_) rfl (by kernel_rfl) (by kernel_rfl) (by kernel_rfl) (fun _ _ _ h => h) (Or.inl ⟨by rfl, ?_⟩) (by assumption) ?_
        case refine_2 => (intro w hSw; (try dsimp only at hSw); go_simp; try with_reducible rfl)
        show wpAnyH _ _ _ _ _ _ _ (Act.put _ (some 46) _) _
        simp only [pz]
        refine wpAnyH_take (i := 2) (v := ?_) rfl (by kernel_rfl) (by kernel_rfl) (by kernel_rfl) (fun _ _ _ h => h) (Or.inl ⟨by rfl, ?_⟩) (by assumption) ?_
        case refine_2 => (intro w hSw; (try dsimp only at hSw); go_simp; try with_reducible rfl)
        show wpAnyH _ _ _ _ _ _ _ (Act.put _ (some 47) _) _
        simp only [pz]
        refine wpAnyH_take (i := 3) (v := ?_) rfl (by kernel_rfl) (by kernel_rfl) (by kernel_rfl) (fun _ _ _ h => h) (Or.inl ⟨by rfl, ?_⟩) (by assumption) ?_
        case refine_2 => (intro w hSw; (try dsimp only at hSw); go_simp; try with_reducible rfl)
        show wpAnyH _ _ _ _ _ _ _ (Act.put _ (some 48) _) _
        simp only [pz]
        refine wpAnyH_take (i := 4) (v := ?_) rfl (by kernel_rfl) (by kernel_rfl) (by kernel_rfl) (fun _ _ _ h => h) (Or.inl ⟨by rfl, ?_⟩) (by assumption) ?_
        case refine_2 => (intro w hSw; (try dsimp only at hSw); go_simp; try with_reducible rfl)
        show wpAnyH _ _ _ _ _ _ _ (Act.put _ (some 49) _) _
        simp only [pz]
        refine wpAnyH_take (i := 5) (v := ?_) rfl (by kernel_rfl) (by kernel_rfl) (by kernel_rfl) (fun _ _ _ h => h) (Or.inl ⟨by rfl, ?_⟩) (by assumption) ?_
        case refine_2 => (intro w hSw; (try dsimp only at hSw); go_simp; try with_reducible rfl)
        show wpAnyH _ _ _ _ _ _ _ (Act.put _ (some 50) _) _
        simp only [pz]
        refine wpAnyH_take (i := 6) (v := ?_) rfl (by kernel_rfl) (by kernel_rfl) (by kernel_rfl) (fun _ _ _ h => h) (Or.inl ⟨by rfl, ?_⟩) (by assumption) ?_
        case refine_2 => (intro w hSw; (try dsimp only at hSw); go_simp; try with_reducible rfl)
        show wpAnyH _ _ _ _ _ _ _ (Act.put _ (some 51) _) _
        simp only [pz]
        refine wpAnyH_take (i := 7) (v := ?_) rfl (by kernel_rfl) (by kernel_rfl) (by kernel_rfl) (fun _ _ _ h => h) (Or.inl ⟨by rfl, ?_⟩) (by assumption) ?_
        case refine_2 => (intro w hSw; (try dsimp only at hSw); go_simp; try with_reducible rfl)
        show wpAnyH _ _ _ _ _ _ _ (Act.put _ (some 52) _) _
        simp only [pz]
        refine wpAnyH_take (i := 8) (v := ?_) rfl (by kernel_rfl) (by kernel_rfl) (by kernel_rfl) (fun _ _ _ h => h) (Or.inl ⟨by rfl, ?_⟩) (by assumption) ?_
        case refine_2 => (intro w hSw; (try dsimp only at hSw); go_simp; try with_reducible rfl)
        show wpAnyH _ _ _ _ _ _ _ (Act.put _ (some 53) _) _
        simp only [pz]
        refine wpAnyH_take (i := 9) (v := ?_) rfl (by kernel_rfl) (by kernel_rfl) (by kernel_rfl) (fun _ _ _ h => h) (Or.inl ⟨by rfl, ?_⟩) (by assumption) ?_
        case refine_2 => (intro w hSw; (try dsimp only at hSw); go_simp; try with_reducible rfl)
        show wpAnyH _ _ _ _ _ _ _ (Act.put _ (some 54) _) _
        simp only [pz]
        refine wpAnyH_take (i := 10) (v := ?_) rfl (by kernel_rfl) (by kernel_rfl) (by kernel_rfl) (fun _ _ _ h => h) (Or.inl ⟨by rfl, ?_⟩) (by assumption) ?_
        case refine_2 => (intro w hSw; (try dsimp only at hSw); go_simp; try with_reducible rfl)
        show wpAnyH _ _ _ _ _ _ _ (Act.put _ (some 55) _) _
        simp only [pz]
        refine wpAnyH_take (i := 11) (v := ?_) rfl (by kernel_rfl) (by kernel_rfl) (by kernel_rfl) (fun _ _ _ h => h) (Or.inl ⟨by rfl, ?_⟩) (by assumption) ?_
        case refine_2 => (intro w hSw; (try dsimp only at hSw); go_simp; try with_reducible rfl)
        show wpAnyH _ _ _ _ _ _ _ (Act.put _ (some 56) _) _
        simp only [pz]
        refine wpAnyH_take (i := 12) (v := ?_) rfl (by kernel_rfl) (by kernel_rfl) (by kernel_rfl) (fun _ _ _ h => h) (Or.inl ⟨by rfl, ?_⟩) (by assumption) ?_
        case refine_2 => (intro w hSw; (try dsimp only at hSw); go_simp; try with_reducible rfl)
        show wpAnyH _ _ _ _ _ _ _ (Act.put _ (some 57) _) _
        simp only [pz]
        refine wpAnyH_ready (rs := [13]) (by kernel_rfl) (by simp) ?_
        refine (AllReadyH.cons rfl (fun K hK => ?_) AllReadyH.nil)
        go_simp
        go_at_call 161
        refine (holds a b c pv wv _).mono ?_
        rintro e w1 ⟨rfl, hbr⟩
        rw [hr]
        go_wp2_with fail
        refine hK.out _ _ ?_ (fun hHeld => ?_)
        · (go_split_ands; refine ⟨?_, ?_, ?_, ?_, ?_, ?_, ?_, ?_, ?_, ?_, ?_⟩ <;> first | exact (Below.refl _ _).drew | exact ((Below.refl _ _).drew).trans hbr | exact step_below hbr (by assumption) | exact step_cell hbr (by assumption) | go_keep)
        clear hK K
        try simp only [pz]
        refine wpAnyH_take (i := 14) (v := ?_) rfl (by kernel_rfl) (by kernel_rfl) (by kernel_rfl) (fun _ _ _ h => h) (Or.inl ⟨by rfl, ?_⟩) (by assumption) ?_
        case refine_2 => (intro w hSw; (try dsimp only at hSw); go_simp; try with_reducible rfl)
        show wpAnyH _ _ _ _ _ _ _ (Act.put _ (some 59) _) _
        simp only [pz]
        refine wpAnyH_take (i := 15) (v := ?_) rfl (by kernel_rfl) (by kernel_rfl) (by kernel_rfl) (fun _ _ _ h => h) (Or.inl ⟨by rfl, ?_⟩) (by assumption) ?_
        case refine_2 => (intro w hSw; (try dsimp only at hSw); go_simp; try with_reducible rfl)
        show wpAnyH _ _ _ _ _ _ _ (Act.put _ (some 60) _) _
        simp only [pz]
        refine wpAnyH_take (i := 16) (v := ?_) rfl (by kernel_rfl) (by kernel_rfl) (by kernel_rfl) (fun _ _ _ h => h) (Or.inl ⟨by rfl, ?_⟩) (by assumption) ?_
        case refine_2 => (intro w hSw; (try dsimp only at hSw); go_simp; try with_reducible rfl)
        show wpAnyH _ _ _ _ _ _ _ (Act.put _ (some 61) _) _
        simp only [pz]
        refine wpAnyH_take (i := 17) (v := ?_) rfl (by kernel_rfl) (by kernel_rfl) (by kernel_rfl) (fun _ _ _ h => h) (Or.inl ⟨by rfl, ?_⟩) (by assumption) ?_
        case refine_2 => (intro w hSw; (try dsimp only at hSw); go_simp; try with_reducible rfl)
        show wpAnyH _ _ _ _ _ _ _ (Act.put _ (some 62) _) _
        simp only [pz]
        refine wpAnyH_take (i := 18) (v := ?_) rfl (by kernel_rfl) (by kernel_rfl) (by kernel_rfl) (fun _ _ _ h => h) (Or.inl ⟨by rfl, ?_⟩) (by assumption) ?_
        case refine_2 => (intro w hSw; (try dsimp only at hSw); go_simp; try with_reducible rfl)
        show wpAnyH _ _ _ _ _ _ _ (Act.put _ (some 63) _) _
        simp only [pz]
        refine wpAnyH_take (i := 19) (v := ?_) rfl (by kernel_rfl) (by kernel_rfl) (by kernel_rfl) (fun _ _ _ h => h) (Or.inl ⟨by rfl, ?_⟩) (by assumption) ?_
        case refine_2 => (intro w hSw; (try dsimp only at hSw); go_simp; try with_reducible rfl)
        show wpAnyH _ _ _ _ _ _ _ (Act.put _ (some 64) _) _
        simp only [pz]
        refine wpAnyH_take (i := 20) (v := ?_) rfl (by kernel_rfl) (by kernel_rfl) (by kernel_rfl) (fun _ _ _ h => h) (Or.inl ⟨by rfl, ?_⟩) (by assumption) ?_
        case refine_2 => (intro w hSw; (try dsimp only at hSw); go_simp; try with_reducible rfl)
        show wpAnyH _ _ _ _ _ _ _ (Act.put _ (some 65) _) _
        simp only [pz]
        refine wpAnyH_take (i := 21) (v := ?_) rfl (by kernel_rfl) (by kernel_rfl) (by kernel_rfl) (fun _ _ _ h => h) (Or.inl ⟨by rfl, ?_⟩) (by assumption) ?_
        case refine_2 => (intro w hSw; (try dsimp only at hSw); go_simp; try with_reducible rfl)
        show wpAnyH _ _ _ _ _ _ _ (Act.put _ (some 66) _) _
        simp only [pz]
        refine wpAnyH_take (i := 22) (v := undef) rfl (by kernel_rfl) (by kernel_rfl) (by kernel_rfl) (fun _ _ _ h => h) (Or.inr ⟨by rfl, rfl⟩) (by assumption) ?_
        show wpAnyH _ _ _ _ _ _ _ (Act.put _ (some 67) _) _
        simp only [pz]
        refine wpAnyH_take (i := 23) (v := undef) rfl (by kernel_rfl) (by kernel_rfl) (by kernel_rfl) (fun _ _ _ h => h) (Or.inr ⟨by rfl, rfl⟩) (by assumption) ?_
        show wpAnyH _ _ _ _ _ _ _ (Act.put _ (some 68) _) _
        simp only [pz]
        refine wpAnyH_take (i := 24) (v := undef) rfl (by kernel_rfl) (by kernel_rfl) (by kernel_rfl) (fun _ _ _ h => h) (Or.inr ⟨by rfl, rfl⟩) (by assumption) ?_
        show wpAnyH _ _ _ _ _ _ _ (Act.put _ (some 69) _) _
        simp only [pz]
        refine wpAnyH_take (i := 25) (v := ?_) rfl (by kernel_rfl) (by kernel_rfl) (by kernel_rfl) (fun _ _ _ h => h) (Or.inl ⟨by rfl, ?_⟩) (by assumption) ?_
        case refine_2 => (intro w hSw; (try dsimp only at hSw); go_simp; try with_reducible rfl)
        show wpAnyH _ _ _ _ _ _ _ (Act.put _ (some 70) _) _
        simp only [pz]
        refine wpAnyH_take (i := 26) (v := ?_) rfl (by kernel_rfl) (by kernel_rfl) (by kernel_rfl) (fun _ _ _ h => h) (Or.inl ⟨by rfl, ?_⟩) (by assumption) ?_
        case refine_2 => (intro w hSw; (try dsimp only at hSw); go_simp; try with_reducible rfl)
        show wpAnyH _ _ _ _ _ _ _ (Act.put _ (some 71) _) _
        simp only [pz]
        refine wpAnyH_done (by kernel_rfl) ?_ _
        have HB9 : Hid (Below wx.heap.size wx w1) := hHeld.1
        clear hHeld hbr
        go_wp2
        exact ⟨⟨j + 1, by omega, by go_num, HFX.out.below HB9.out, YES.out (by unfold fieldO; rw [if_pos rfl, ← HWV.out]; exact hr)⟩, by simp [intOf]; omega⟩
end form
/- What the program's own function on a row of places (place.room.rowMay) answers, and that it is the document's. -/
namespace form
open Go.RowKit
attribute [local go_sem ↓] Go.wp_at_zero Go.wp_at_succ
def rowO (B : List Bool) (a b c : Int) (i : LIns) (r : LRow) : Bool := fieldsO B a b c i r && movesO a b c r.before 6 && movesO a b c r.after (mostI i.op)
theorem most_le (op : Int) : mostI op ≤ 6 := by unfold mostI; split <;> omega
theorem has_is {s slots : Int} (h : targetB s = true) (p : LPlace) : hasB s (s / 2) slots p = isB s slots p := by
  have hs : s = 4 ∨ s = 6 ∨ s = 8 ∨ s = 10 ∨ s = 12 ∨ s = 14 ∨ s = 16 := by unfold targetB at h; simp at h; omega
  unfold hasB isB
  split
  · rfl
  · split
    · rw [Bool.eq_iff_iff]; simp; omega
    · rfl
theorem hold_reg {B : List Bool} {s slots : Int} (h : targetB s = true) (p : LPlace) (t : Int) : holdB s (s / 2) slots p (B.getD t.toNat false) = regB B s t p := by
  unfold holdB regB
  rw [has_is h]
  cases B.getD t.toNat false
  · simp only [Bool.false_eq_true, if_false]
    by_cases e : p.kind = 1
    · unfold isB; simp [e]
    · rw [show (p.kind == 1) = false by simpa using e]; rfl
  · simp only [if_true]
    by_cases e : p.kind = 2
    · unfold isB; simp [e]
    · rw [show (p.kind == 2) = false by simpa using e]; rfl
theorem field_same {B : List Bool} {s slots : Int} (h : targetB s = true) (x : Bool) (t : Int) (p : LPlace) : fieldO B s (s / 2) slots x t p = fieldP B s x t p := by
  unfold fieldO fieldP
  cases x
  · simp only [Bool.false_eq_true, if_false, emptyB]; cases h1 : (p.kind == 0) <;> cases h2 : (p.n == 0) <;> simp_all
  · simp only [if_true]; exact hold_reg h p t
theorem fields_same {B : List Bool} {s slots : Int} (h : targetB s = true) (i : LIns) (r : LRow) : fieldsO B s (s / 2) slots i r = (fieldP B s (givesB i.op) i.dest r.dest && fieldP B s (decide (0 < manyI i.op)) i.a r.a && fieldP B s (decide (1 < manyI i.op)) i.b r.b) := by
  unfold fieldsO
  simp only [field_same h]
  rw [show List.range 3 = [0, 1, 2] by decide]
  simp only [List.all_cons, List.all_nil, Bool.and_true, Bool.and_assoc]
  rfl
theorem move_same {s slots : Int} (h : targetB s = true) (m : LMove) : moveO s (s / 2) slots m = moveB s slots m := by
  unfold moveO moveB holdB emptyB
  rw [has_is h, has_is h]
  have hk : kindsB m.dst.kind m.src.kind = (if m.dst.kind == 3 then m.src.kind != 3 else (m.src.kind == 3) || (m.src.kind == m.dst.kind)) := by
    unfold kindsB
    rw [Bool.eq_iff_iff]
    split <;> split <;> simp_all <;> omega
  rw [hk]
  cases m.cst <;> simp only [Bool.false_eq_true, if_false, if_true] <;> cases isB s slots m.dst <;> cases isB s slots m.src <;> cases (m.n == 0) <;> simp
theorem moves_same {s slots : Int} (h : targetB s = true) (l : List LMove) (most : Int) : movesO s (s / 2) slots l most = (decide ((l.length : Int) ≤ most) && l.all (moveB s slots)) := by
  unfold movesO
  rw [show moveO s (s / 2) slots = moveB s slots from funext (move_same h)]
theorem row_same {B : List Bool} {s slots : Int} (h : targetB s = true) (i : LIns) (r : LRow) : rowO B s (s / 2) slots i r = rowB B s slots i r := by
  unfold rowO rowB
  rw [fields_same h, moves_same h, moves_same h]
  unfold movesB mostI
  generalize (fieldP B s (givesB i.op) i.dest r.dest && fieldP B s (decide (0 < manyI i.op)) i.a r.a && fieldP B s (decide (1 < manyI i.op)) i.b r.b) = x
  generalize r.before.all (moveB s slots) = y
  generalize r.after.all (moveB s slots) = z
  rw [show decide ((r.before.length : Int) ≤ 6) = decide (r.before.length ≤ 6) by rw [Bool.eq_iff_iff]; simp; omega]
  generalize decide (r.before.length ≤ 6) = u
  by_cases e : i.op = 8 ∨ i.op = 9 ∨ i.op = 10
  · rw [if_pos e, show ((i.op == 8 || i.op == 9 || i.op == 10)) = true by simpa [or_assoc] using e]
    by_cases e0 : r.after.length = 0
    · simp [e0, Bool.and_assoc]
    · have e1 : 0 < r.after.length := by omega
      have e2 : ¬ (r.after.length : Int) ≤ 0 := by omega
      rw [decide_eq_false e2, decide_eq_true e1]
      simp
  · rw [if_neg e, show ((i.op == 8 || i.op == 9 || i.op == 10)) = false by simpa [or_assoc, and_assoc] using e]
    rw [show decide ((r.after.length : Int) ≤ 6) = decide (r.after.length ≤ 6) by rw [Bool.eq_iff_iff]; simp; omega]
    simp [Bool.and_assoc]
set_option maxRecDepth 100000 in
set_option maxHeartbeats 8000000 in
theorem rowMay (b0 o0 c0 b1 o1 c1 : Nat) (B : List Bool) (C : List LIns) (a b c : Int) (i : LIns) (r : LRow) (ab : Option Addr) (cb : Nat) (aa : Option Addr) (ca : Nat) (w : World) (hB : B.length ≤ 12) (h : Held w b0 o0 b1 o1 B C)
    (hk : knownB i.op = true) (hf : ∀ j, j < 3 → tjF i j = true → 0 ≤ fjF i j ∧ fjF i j < B.length) (hmb : MovesIs w (.slice ab r.before.length cb) r.before) (hma : MovesIs w (.slice aa r.after.length ca) r.after) :
    Calls Tryz.prog 102 #[roomV a b c, progV b0 o0 B.length c0 b1 o1 C.length c1, i.val, rowV r ab cb aa ca] w fun e w' => e = .returned (.bool (rowO B a b c i r)) ∧ Below w.heap.size w w' := by
  have HF : Hid (∀ j, j < 3 → tjF i j = true → 0 ≤ fjF i j ∧ fjF i j < B.length) := hf
  have HK : Hid (knownB i.op = true) := hk
  have HH : Hid (Held w b0 o0 b1 o1 B C) := h
  have HMB : Hid (MovesIs w (.slice ab r.before.length cb) r.before) := hmb
  have HMA : Hid (MovesIs w (.slice aa r.after.length ca) r.after) := hma
  have HR : Hid (rowO B a b c i r = (fieldsO B a b c i r && movesO a b c r.before 6 && movesO a b c r.after (mostI i.op))) := rfl
  clear hf hk h hmb hma
  unfold roomV progV LIns.val rowV
  go_enter Tryz.func102, Tryz.ntmps102
  go_upto_region 1 with fail
  obtain ⟨wx, hwx⟩ : ∃ wx, wx = (((w.alloc (.cells #[.int .i64 0, .int .i64 a, .int .i64 b, .int .i64 c] 169)).alloc (.cells #[.slice (some ⟨b0, o0, none⟩) B.length c0, .slice (some ⟨b1, o1, none⟩) C.length c1] 27)).alloc (.cells #[.int .i64 i.op, .int .i64 i.dest, .int .i64 i.a, .int .i64 i.b, .int .i64 i.c, .int .u32 i.n] 74)).alloc (.cells #[.int .i64 r.dest.kind, .int .i64 r.dest.n, .int .i64 r.a.kind, .int .i64 r.a.n, .int .i64 r.b.kind, .int .i64 r.b.n, .slice ab r.before.length cb, .slice aa r.after.length ca] 140) := ⟨_, rfl⟩
  rw [← hwx]
  have HWX : Hid (Below w.heap.size w wx) := by rw [hwx]; exact ((((Below.refl _ _).alloc (Nat.le_refl _) _).alloc (by simp) _).alloc (by simp; omega) _).alloc (by simp; omega) _
  have x0 : wx.cell? ⟨w.heap.size, 0, none⟩ = some (.int .i64 0) := by rw [hwx]; simp [go_sem]
  have x1 : wx.cell? ⟨w.heap.size, 1, none⟩ = some (.int .i64 a) := by rw [hwx]; simp [go_sem]
  have x2 : wx.cell? ⟨w.heap.size, 2, none⟩ = some (.int .i64 b) := by rw [hwx]; simp [go_sem]
  have x3 : wx.cell? ⟨w.heap.size, 3, none⟩ = some (.int .i64 c) := by rw [hwx]; simp [go_sem]
  have x4 : wx.cell? ⟨w.heap.size + 1, 0, none⟩ = some (.slice (some ⟨b0, o0, none⟩) B.length c0) := by rw [hwx]; simp [go_sem]
  have x5 : wx.cell? ⟨w.heap.size + 1, 1, none⟩ = some (.slice (some ⟨b1, o1, none⟩) C.length c1) := by rw [hwx]; simp [go_sem]
  have x6 : wx.cell? ⟨w.heap.size + 1 + 1, 0, none⟩ = some (.int .i64 i.op) := by rw [hwx]; simp [go_sem]
  have x7 : wx.cell? ⟨w.heap.size + 1 + 1, 1, none⟩ = some (.int .i64 i.dest) := by rw [hwx]; simp [go_sem]
  have x8 : wx.cell? ⟨w.heap.size + 1 + 1, 2, none⟩ = some (.int .i64 i.a) := by rw [hwx]; simp [go_sem]
  have x9 : wx.cell? ⟨w.heap.size + 1 + 1, 3, none⟩ = some (.int .i64 i.b) := by rw [hwx]; simp [go_sem]
  have x10 : wx.cell? ⟨w.heap.size + 1 + 1, 4, none⟩ = some (.int .i64 i.c) := by rw [hwx]; simp [go_sem]
  have x11 : wx.cell? ⟨w.heap.size + 1 + 1, 5, none⟩ = some (.int .u32 i.n) := by rw [hwx]; simp [go_sem]
  have x12 : wx.cell? ⟨w.heap.size + 1 + 1 + 1, 0, none⟩ = some (.int .i64 r.dest.kind) := by rw [hwx]; simp [go_sem]
  have x13 : wx.cell? ⟨w.heap.size + 1 + 1 + 1, 1, none⟩ = some (.int .i64 r.dest.n) := by rw [hwx]; simp [go_sem]
  have x14 : wx.cell? ⟨w.heap.size + 1 + 1 + 1, 2, none⟩ = some (.int .i64 r.a.kind) := by rw [hwx]; simp [go_sem]
  have x15 : wx.cell? ⟨w.heap.size + 1 + 1 + 1, 3, none⟩ = some (.int .i64 r.a.n) := by rw [hwx]; simp [go_sem]
  have x16 : wx.cell? ⟨w.heap.size + 1 + 1 + 1, 4, none⟩ = some (.int .i64 r.b.kind) := by rw [hwx]; simp [go_sem]
  have x17 : wx.cell? ⟨w.heap.size + 1 + 1 + 1, 5, none⟩ = some (.int .i64 r.b.n) := by rw [hwx]; simp [go_sem]
  have x18 : wx.cell? ⟨w.heap.size + 1 + 1 + 1, 6, none⟩ = some (.slice ab r.before.length cb) := by rw [hwx]; simp [go_sem]
  have x19 : wx.cell? ⟨w.heap.size + 1 + 1 + 1, 7, none⟩ = some (.slice aa r.after.length ca) := by rw [hwx]; simp [go_sem]
  clear hwx
  cases hf1 : fieldsO B a b c i r
  · skip
    refine wp_region_held_drew (S := (fun w' => Below wx.heap.size wx w' ∧ w'.cell? ⟨w.heap.size, 0, none⟩ = some (.int .i64 0) ∧ w'.cell? ⟨w.heap.size, 1, none⟩ = some (.int .i64 a) ∧ w'.cell? ⟨w.heap.size, 2, none⟩ = some (.int .i64 b) ∧ w'.cell? ⟨w.heap.size, 3, none⟩ = some (.int .i64 c) ∧ w'.cell? ⟨w.heap.size + 1, 0, none⟩ = some (.slice (some ⟨b0, o0, none⟩) B.length c0) ∧ w'.cell? ⟨w.heap.size + 1, 1, none⟩ = some (.slice (some ⟨b1, o1, none⟩) C.length c1) ∧ w'.cell? ⟨w.heap.size + 1 + 1, 0, none⟩ = some (.int .i64 i.op) ∧ w'.cell? ⟨w.heap.size + 1 + 1, 1, none⟩ = some (.int .i64 i.dest) ∧ w'.cell? ⟨w.heap.size + 1 + 1, 2, none⟩ = some (.int .i64 i.a) ∧ w'.cell? ⟨w.heap.size + 1 + 1, 3, none⟩ = some (.int .i64 i.b) ∧ w'.cell? ⟨w.heap.size + 1 + 1, 4, none⟩ = some (.int .i64 i.c) ∧ w'.cell? ⟨w.heap.size + 1 + 1, 5, none⟩ = some (.int .u32 i.n) ∧ w'.cell? ⟨w.heap.size + 1 + 1 + 1, 0, none⟩ = some (.int .i64 r.dest.kind) ∧ w'.cell? ⟨w.heap.size + 1 + 1 + 1, 1, none⟩ = some (.int .i64 r.dest.n) ∧ w'.cell? ⟨w.heap.size + 1 + 1 + 1, 2, none⟩ = some (.int .i64 r.a.kind) ∧ w'.cell? ⟨w.heap.size + 1 + 1 + 1, 3, none⟩ = some (.int .i64 r.a.n) ∧ w'.cell? ⟨w.heap.size + 1 + 1 + 1, 4, none⟩ = some (.int .i64 r.b.kind) ∧ w'.cell? ⟨w.heap.size + 1 + 1 + 1, 5, none⟩ = some (.int .i64 r.b.n) ∧ w'.cell? ⟨w.heap.size + 1 + 1 + 1, 6, none⟩ = some (.slice ab r.before.length cb) ∧ w'.cell? ⟨w.heap.size + 1 + 1 + 1, 7, none⟩ = some (.slice aa r.after.length ca))) (by rfl) ?_ (fun hHeld => ?_)
    · (go_split_ands; refine ⟨?_, ?_, ?_, ?_, ?_, ?_, ?_, ?_, ?_, ?_, ?_, ?_, ?_, ?_, ?_, ?_, ?_, ?_, ?_, ?_, ?_⟩ <;> first | exact (Below.refl _ _).drew | exact ((Below.refl _ _).drew).trans hbr | exact step_below hbr (by assumption) | exact step_cell hbr (by assumption) | go_keep)
    refine wpAnyH_take (i := 0) (v := ?_) rfl (by kernel_rfl) (by kernel_rfl) (by kernel_rfl) (fun _ _ _ h => h) (Or.inl ⟨by rfl, ?_⟩) (by assumption) ?_
    case refine_2 => (intro w hSw; (try dsimp only at hSw); go_simp; try with_reducible rfl)
    show wpAnyH _ _ _ _ _ _ _ (Act.put _ (some 9) _) _
    simp only [pz]
    refine wpAnyH_take (i := 1) (v := ?_) rfl (by kernel_rfl) (by kernel_rfl) (by kernel_rfl) (fun _ _ _ h => h) (Or.inl ⟨by rfl, ?_⟩) (by assumption) ?_
    case refine_2 => (intro w hSw; (try dsimp only at hSw); go_simp; try with_reducible rfl)
    show wpAnyH _ _ _ _ _ _ _ (Act.put _ (some 10) _) _
    simp only [pz]
    refine wpAnyH_take (i := 2) (v := ?_) rfl (by kernel_rfl) (by kernel_rfl) (by kernel_rfl) (fun _ _ _ h => h) (Or.inl ⟨by rfl, ?_⟩) (by assumption) ?_
    case refine_2 => (intro w hSw; (try dsimp only at hSw); go_simp; try with_reducible rfl)
    show wpAnyH _ _ _ _ _ _ _ (Act.put _ (some 11) _) _
    simp only [pz]
    refine wpAnyH_take (i := 3) (v := ?_) rfl (by kernel_rfl) (by kernel_rfl) (by kernel_rfl) (fun _ _ _ h => h) (Or.inl ⟨by rfl, ?_⟩) (by assumption) ?_
    case refine_2 => (intro w hSw; (try dsimp only at hSw); go_simp; try with_reducible rfl)
    show wpAnyH _ _ _ _ _ _ _ (Act.put _ (some 12) _) _
    simp only [pz]
    refine wpAnyH_ready (rs := [4]) (by kernel_rfl) (by simp) ?_
    refine (AllReadyH.cons rfl (fun K hK => ?_) AllReadyH.nil)
    go_simp
    go_at_call 138
    refine (fieldsMay b0 o0 c0 b1 o1 c1 B C a b c i r ab cb aa ca _ hB (HH.out.later (step_below hHeld.1 HWX.out)) HK.out HF.out).mono ?_
    rw [hf1]
    rintro e w1 ⟨rfl, hbr⟩
    go_wp2_with fail
    refine hK.out _ _ ?_ (fun hHeld => ?_)
    · (exact ⟨step_below hbr hHeld.1, step_cell hbr hHeld.2.1, step_cell hbr hHeld.2.2.1, step_cell hbr hHeld.2.2.2.1, step_cell hbr hHeld.2.2.2.2.1, step_cell hbr hHeld.2.2.2.2.2.1, step_cell hbr hHeld.2.2.2.2.2.2.1, step_cell hbr hHeld.2.2.2.2.2.2.2.1, step_cell hbr hHeld.2.2.2.2.2.2.2.2.1, step_cell hbr hHeld.2.2.2.2.2.2.2.2.2.1, step_cell hbr hHeld.2.2.2.2.2.2.2.2.2.2.1, step_cell hbr hHeld.2.2.2.2.2.2.2.2.2.2.2.1, step_cell hbr hHeld.2.2.2.2.2.2.2.2.2.2.2.2.1, step_cell hbr hHeld.2.2.2.2.2.2.2.2.2.2.2.2.2.1, step_cell hbr hHeld.2.2.2.2.2.2.2.2.2.2.2.2.2.2.1, step_cell hbr hHeld.2.2.2.2.2.2.2.2.2.2.2.2.2.2.2.1, step_cell hbr hHeld.2.2.2.2.2.2.2.2.2.2.2.2.2.2.2.2.1, step_cell hbr hHeld.2.2.2.2.2.2.2.2.2.2.2.2.2.2.2.2.2.1, step_cell hbr hHeld.2.2.2.2.2.2.2.2.2.2.2.2.2.2.2.2.2.2.1, step_cell hbr hHeld.2.2.2.2.2.2.2.2.2.2.2.2.2.2.2.2.2.2.2.1, step_cell hbr hHeld.2.2.2.2.2.2.2.2.2.2.2.2.2.2.2.2.2.2.2.2⟩)
    clear hK K
    try simp only [pz]
    refine wpAnyH_take (i := 5) (v := ?_) rfl (by kernel_rfl) (by kernel_rfl) (by kernel_rfl) (fun _ _ _ h => h) (Or.inl ⟨by rfl, ?_⟩) (by assumption) ?_
    case refine_2 => (intro w hSw; (try dsimp only at hSw); go_simp; try with_reducible rfl)
    show wpAnyH _ _ _ _ _ _ _ (Act.put _ (some 14) _) _
    simp only [pz]
    refine wpAnyH_take (i := 6) (v := undef) rfl (by kernel_rfl) (by kernel_rfl) (by kernel_rfl) (fun _ _ _ h => h) (Or.inr ⟨by rfl, rfl⟩) (by assumption) ?_
    show wpAnyH _ _ _ _ _ _ _ (Act.put _ (some 15) _) _
    simp only [pz]
    refine wpAnyH_take (i := 7) (v := undef) rfl (by kernel_rfl) (by kernel_rfl) (by kernel_rfl) (fun _ _ _ h => h) (Or.inr ⟨by rfl, rfl⟩) (by assumption) ?_
    show wpAnyH _ _ _ _ _ _ _ (Act.put _ (some 16) _) _
    simp only [pz]
    refine wpAnyH_take (i := 8) (v := undef) rfl (by kernel_rfl) (by kernel_rfl) (by kernel_rfl) (fun _ _ _ h => h) (Or.inr ⟨by rfl, rfl⟩) (by assumption) ?_
    show wpAnyH _ _ _ _ _ _ _ (Act.put _ (some 17) _) _
    simp only [pz]
    refine wpAnyH_take (i := 9) (v := undef) rfl (by kernel_rfl) (by kernel_rfl) (by kernel_rfl) (fun _ _ _ h => h) (Or.inr ⟨by rfl, rfl⟩) (by assumption) ?_
    show wpAnyH _ _ _ _ _ _ _ (Act.put _ (some 18) _) _
    simp only [pz]
    refine wpAnyH_take (i := 10) (v := ?_) rfl (by kernel_rfl) (by kernel_rfl) (by kernel_rfl) (fun _ _ _ h => h) (Or.inl ⟨by rfl, ?_⟩) (by assumption) ?_
    case refine_2 => (intro w hSw; (try dsimp only at hSw); go_simp; try with_reducible rfl)
    show wpAnyH _ _ _ _ _ _ _ (Act.put _ (some 19) _) _
    simp only [pz]
    refine wpAnyH_take (i := 11) (v := ?_) rfl (by kernel_rfl) (by kernel_rfl) (by kernel_rfl) (fun _ _ _ h => h) (Or.inl ⟨by rfl, ?_⟩) (by assumption) ?_
    case refine_2 => (intro w hSw; (try dsimp only at hSw); go_simp; try with_reducible rfl)
    show wpAnyH _ _ _ _ _ _ _ (Act.put _ (some 20) _) _
    simp only [pz]
    refine wpAnyH_take (i := 12) (v := undef) rfl (by kernel_rfl) (by kernel_rfl) (by kernel_rfl) (fun _ _ _ h => h) (Or.inr ⟨by rfl, rfl⟩) (by assumption) ?_
    show wpAnyH _ _ _ _ _ _ _ (Act.put _ (some 21) _) _
    simp only [pz]
    refine wpAnyH_take (i := 13) (v := undef) rfl (by kernel_rfl) (by kernel_rfl) (by kernel_rfl) (fun _ _ _ h => h) (Or.inr ⟨by rfl, rfl⟩) (by assumption) ?_
    show wpAnyH _ _ _ _ _ _ _ (Act.put _ (some 22) _) _
    simp only [pz]
    refine wpAnyH_take (i := 14) (v := undef) rfl (by kernel_rfl) (by kernel_rfl) (by kernel_rfl) (fun _ _ _ h => h) (Or.inr ⟨by rfl, rfl⟩) (by assumption) ?_
    show wpAnyH _ _ _ _ _ _ _ (Act.put _ (some 23) _) _
    simp only [pz]
    refine wpAnyH_take (i := 15) (v := undef) rfl (by kernel_rfl) (by kernel_rfl) (by kernel_rfl) (fun _ _ _ h => h) (Or.inr ⟨by rfl, rfl⟩) (by assumption) ?_
    show wpAnyH _ _ _ _ _ _ _ (Act.put _ (some 24) _) _
    simp only [pz]
    refine wpAnyH_take (i := 16) (v := undef) rfl (by kernel_rfl) (by kernel_rfl) (by kernel_rfl) (fun _ _ _ h => h) (Or.inr ⟨by rfl, rfl⟩) (by assumption) ?_
    show wpAnyH _ _ _ _ _ _ _ (Act.put _ (some 25) _) _
    simp only [pz]
    refine wpAnyH_take (i := 17) (v := undef) rfl (by kernel_rfl) (by kernel_rfl) (by kernel_rfl) (fun _ _ _ h => h) (Or.inr ⟨by rfl, rfl⟩) (by assumption) ?_
    show wpAnyH _ _ _ _ _ _ _ (Act.put _ (some 26) _) _
    simp only [pz]
    refine wpAnyH_take (i := 18) (v := undef) rfl (by kernel_rfl) (by kernel_rfl) (by kernel_rfl) (fun _ _ _ h => h) (Or.inr ⟨by rfl, rfl⟩) (by assumption) ?_
    show wpAnyH _ _ _ _ _ _ _ (Act.put _ (some 27) _) _
    simp only [pz]
    refine wpAnyH_take (i := 19) (v := ?_) rfl (by kernel_rfl) (by kernel_rfl) (by kernel_rfl) (fun _ _ _ h => h) (Or.inl ⟨by rfl, ?_⟩) (by assumption) ?_
    case refine_2 => (intro w hSw; (try dsimp only at hSw); go_simp; try with_reducible rfl)
    show wpAnyH _ _ _ _ _ _ _ (Act.put _ (some 28) _) _
    simp only [pz]
    refine wpAnyH_take (i := 20) (v := ?_) rfl (by kernel_rfl) (by kernel_rfl) (by kernel_rfl) (fun _ _ _ h => h) (Or.inl ⟨by rfl, ?_⟩) (by assumption) ?_
    case refine_2 => (intro w hSw; (try dsimp only at hSw); go_simp; try with_reducible rfl)
    show wpAnyH _ _ _ _ _ _ _ (Act.put _ (some 8) _) _
    simp only [pz]
    refine wpAnyH_done (by kernel_rfl) ?_ _
    have HB9 : Hid (Below wx.heap.size wx w1) := hHeld.1
    clear hHeld hbr
    go_wp2
    go_ret
    exact ⟨ret_bool (by rw [HR.out, hf1]; rfl), step_below HB9.out HWX.out⟩
  · cases hf2 : movesO a b c r.before 6
    · skip
      refine wp_region_held_drew (S := (fun w' => Below wx.heap.size wx w' ∧ w'.cell? ⟨w.heap.size, 0, none⟩ = some (.int .i64 0) ∧ w'.cell? ⟨w.heap.size, 1, none⟩ = some (.int .i64 a) ∧ w'.cell? ⟨w.heap.size, 2, none⟩ = some (.int .i64 b) ∧ w'.cell? ⟨w.heap.size, 3, none⟩ = some (.int .i64 c) ∧ w'.cell? ⟨w.heap.size + 1, 0, none⟩ = some (.slice (some ⟨b0, o0, none⟩) B.length c0) ∧ w'.cell? ⟨w.heap.size + 1, 1, none⟩ = some (.slice (some ⟨b1, o1, none⟩) C.length c1) ∧ w'.cell? ⟨w.heap.size + 1 + 1, 0, none⟩ = some (.int .i64 i.op) ∧ w'.cell? ⟨w.heap.size + 1 + 1, 1, none⟩ = some (.int .i64 i.dest) ∧ w'.cell? ⟨w.heap.size + 1 + 1, 2, none⟩ = some (.int .i64 i.a) ∧ w'.cell? ⟨w.heap.size + 1 + 1, 3, none⟩ = some (.int .i64 i.b) ∧ w'.cell? ⟨w.heap.size + 1 + 1, 4, none⟩ = some (.int .i64 i.c) ∧ w'.cell? ⟨w.heap.size + 1 + 1, 5, none⟩ = some (.int .u32 i.n) ∧ w'.cell? ⟨w.heap.size + 1 + 1 + 1, 0, none⟩ = some (.int .i64 r.dest.kind) ∧ w'.cell? ⟨w.heap.size + 1 + 1 + 1, 1, none⟩ = some (.int .i64 r.dest.n) ∧ w'.cell? ⟨w.heap.size + 1 + 1 + 1, 2, none⟩ = some (.int .i64 r.a.kind) ∧ w'.cell? ⟨w.heap.size + 1 + 1 + 1, 3, none⟩ = some (.int .i64 r.a.n) ∧ w'.cell? ⟨w.heap.size + 1 + 1 + 1, 4, none⟩ = some (.int .i64 r.b.kind) ∧ w'.cell? ⟨w.heap.size + 1 + 1 + 1, 5, none⟩ = some (.int .i64 r.b.n) ∧ w'.cell? ⟨w.heap.size + 1 + 1 + 1, 6, none⟩ = some (.slice ab r.before.length cb) ∧ w'.cell? ⟨w.heap.size + 1 + 1 + 1, 7, none⟩ = some (.slice aa r.after.length ca))) (by rfl) ?_ (fun hHeld => ?_)
      · (go_split_ands; refine ⟨?_, ?_, ?_, ?_, ?_, ?_, ?_, ?_, ?_, ?_, ?_, ?_, ?_, ?_, ?_, ?_, ?_, ?_, ?_, ?_, ?_⟩ <;> first | exact (Below.refl _ _).drew | exact ((Below.refl _ _).drew).trans hbr | exact step_below hbr (by assumption) | exact step_cell hbr (by assumption) | go_keep)
      refine wpAnyH_take (i := 0) (v := ?_) rfl (by kernel_rfl) (by kernel_rfl) (by kernel_rfl) (fun _ _ _ h => h) (Or.inl ⟨by rfl, ?_⟩) (by assumption) ?_
      case refine_2 => (intro w hSw; (try dsimp only at hSw); go_simp; try with_reducible rfl)
      show wpAnyH _ _ _ _ _ _ _ (Act.put _ (some 9) _) _
      simp only [pz]
      refine wpAnyH_take (i := 1) (v := ?_) rfl (by kernel_rfl) (by kernel_rfl) (by kernel_rfl) (fun _ _ _ h => h) (Or.inl ⟨by rfl, ?_⟩) (by assumption) ?_
      case refine_2 => (intro w hSw; (try dsimp only at hSw); go_simp; try with_reducible rfl)
      show wpAnyH _ _ _ _ _ _ _ (Act.put _ (some 10) _) _
      simp only [pz]
      refine wpAnyH_take (i := 2) (v := ?_) rfl (by kernel_rfl) (by kernel_rfl) (by kernel_rfl) (fun _ _ _ h => h) (Or.inl ⟨by rfl, ?_⟩) (by assumption) ?_
      case refine_2 => (intro w hSw; (try dsimp only at hSw); go_simp; try with_reducible rfl)
      show wpAnyH _ _ _ _ _ _ _ (Act.put _ (some 11) _) _
      simp only [pz]
      refine wpAnyH_take (i := 3) (v := ?_) rfl (by kernel_rfl) (by kernel_rfl) (by kernel_rfl) (fun _ _ _ h => h) (Or.inl ⟨by rfl, ?_⟩) (by assumption) ?_
      case refine_2 => (intro w hSw; (try dsimp only at hSw); go_simp; try with_reducible rfl)
      show wpAnyH _ _ _ _ _ _ _ (Act.put _ (some 12) _) _
      simp only [pz]
      refine wpAnyH_ready (rs := [4]) (by kernel_rfl) (by simp) ?_
      refine (AllReadyH.cons rfl (fun K hK => ?_) AllReadyH.nil)
      go_simp
      go_at_call 138
      refine (fieldsMay b0 o0 c0 b1 o1 c1 B C a b c i r ab cb aa ca _ hB (HH.out.later (step_below hHeld.1 HWX.out)) HK.out HF.out).mono ?_
      rw [hf1]
      rintro e w1 ⟨rfl, hbr⟩
      go_wp2_with fail
      refine hK.out _ _ ?_ (fun hHeld => ?_)
      · (exact ⟨step_below hbr hHeld.1, step_cell hbr hHeld.2.1, step_cell hbr hHeld.2.2.1, step_cell hbr hHeld.2.2.2.1, step_cell hbr hHeld.2.2.2.2.1, step_cell hbr hHeld.2.2.2.2.2.1, step_cell hbr hHeld.2.2.2.2.2.2.1, step_cell hbr hHeld.2.2.2.2.2.2.2.1, step_cell hbr hHeld.2.2.2.2.2.2.2.2.1, step_cell hbr hHeld.2.2.2.2.2.2.2.2.2.1, step_cell hbr hHeld.2.2.2.2.2.2.2.2.2.2.1, step_cell hbr hHeld.2.2.2.2.2.2.2.2.2.2.2.1, step_cell hbr hHeld.2.2.2.2.2.2.2.2.2.2.2.2.1, step_cell hbr hHeld.2.2.2.2.2.2.2.2.2.2.2.2.2.1, step_cell hbr hHeld.2.2.2.2.2.2.2.2.2.2.2.2.2.2.1, step_cell hbr hHeld.2.2.2.2.2.2.2.2.2.2.2.2.2.2.2.1, step_cell hbr hHeld.2.2.2.2.2.2.2.2.2.2.2.2.2.2.2.2.1, step_cell hbr hHeld.2.2.2.2.2.2.2.2.2.2.2.2.2.2.2.2.2.1, step_cell hbr hHeld.2.2.2.2.2.2.2.2.2.2.2.2.2.2.2.2.2.2.1, step_cell hbr hHeld.2.2.2.2.2.2.2.2.2.2.2.2.2.2.2.2.2.2.2.1, step_cell hbr hHeld.2.2.2.2.2.2.2.2.2.2.2.2.2.2.2.2.2.2.2.2⟩)
      clear hK K
      try simp only [pz]
      refine wpAnyH_take (i := 5) (v := ?_) rfl (by kernel_rfl) (by kernel_rfl) (by kernel_rfl) (fun _ _ _ h => h) (Or.inl ⟨by rfl, ?_⟩) (by assumption) ?_
      case refine_2 => (intro w hSw; (try dsimp only at hSw); go_simp; try with_reducible rfl)
      show wpAnyH _ _ _ _ _ _ _ (Act.put _ (some 14) _) _
      simp only [pz]
      refine wpAnyH_take (i := 6) (v := ?_) rfl (by kernel_rfl) (by kernel_rfl) (by kernel_rfl) (fun _ _ _ h => h) (Or.inl ⟨by rfl, ?_⟩) (by assumption) ?_
      case refine_2 => (intro w hSw; (try dsimp only at hSw); go_simp; try with_reducible rfl)
      show wpAnyH _ _ _ _ _ _ _ (Act.put _ (some 15) _) _
      simp only [pz]
      refine wpAnyH_take (i := 7) (v := ?_) rfl (by kernel_rfl) (by kernel_rfl) (by kernel_rfl) (fun _ _ _ h => h) (Or.inl ⟨by rfl, ?_⟩) (by assumption) ?_
      case refine_2 => (intro w hSw; (try dsimp only at hSw); go_simp; try with_reducible rfl)
      show wpAnyH _ _ _ _ _ _ _ (Act.put _ (some 16) _) _
      simp only [pz]
      refine wpAnyH_take (i := 8) (v := ?_) rfl (by kernel_rfl) (by kernel_rfl) (by kernel_rfl) (fun _ _ _ h => h) (Or.inl ⟨by rfl, ?_⟩) (by assumption) ?_
      case refine_2 => (intro w hSw; (try dsimp only at hSw); go_simp; try with_reducible rfl)
      show wpAnyH _ _ _ _ _ _ _ (Act.put _ (some 17) _) _
      simp only [pz]
      refine wpAnyH_ready (rs := [9]) (by kernel_rfl) (by simp) ?_
      refine (AllReadyH.cons rfl (fun K hK => ?_) AllReadyH.nil)
      go_simp
      go_at_call 139
      refine (movesMay a b c _ r.before 6 (by omega) _ (HMB.out.later (step_below hHeld.1 HWX.out))).mono ?_
      rw [hf2]
      rintro e w2 ⟨rfl, hbr⟩
      go_wp2_with fail
      refine hK.out _ _ ?_ (fun hHeld => ?_)
      · (exact ⟨step_below hbr hHeld.1, step_cell hbr hHeld.2.1, step_cell hbr hHeld.2.2.1, step_cell hbr hHeld.2.2.2.1, step_cell hbr hHeld.2.2.2.2.1, step_cell hbr hHeld.2.2.2.2.2.1, step_cell hbr hHeld.2.2.2.2.2.2.1, step_cell hbr hHeld.2.2.2.2.2.2.2.1, step_cell hbr hHeld.2.2.2.2.2.2.2.2.1, step_cell hbr hHeld.2.2.2.2.2.2.2.2.2.1, step_cell hbr hHeld.2.2.2.2.2.2.2.2.2.2.1, step_cell hbr hHeld.2.2.2.2.2.2.2.2.2.2.2.1, step_cell hbr hHeld.2.2.2.2.2.2.2.2.2.2.2.2.1, step_cell hbr hHeld.2.2.2.2.2.2.2.2.2.2.2.2.2.1, step_cell hbr hHeld.2.2.2.2.2.2.2.2.2.2.2.2.2.2.1, step_cell hbr hHeld.2.2.2.2.2.2.2.2.2.2.2.2.2.2.2.1, step_cell hbr hHeld.2.2.2.2.2.2.2.2.2.2.2.2.2.2.2.2.1, step_cell hbr hHeld.2.2.2.2.2.2.2.2.2.2.2.2.2.2.2.2.2.1, step_cell hbr hHeld.2.2.2.2.2.2.2.2.2.2.2.2.2.2.2.2.2.2.1, step_cell hbr hHeld.2.2.2.2.2.2.2.2.2.2.2.2.2.2.2.2.2.2.2.1, step_cell hbr hHeld.2.2.2.2.2.2.2.2.2.2.2.2.2.2.2.2.2.2.2.2⟩)
      clear hK K
      try simp only [pz]
      refine wpAnyH_take (i := 10) (v := ?_) rfl (by kernel_rfl) (by kernel_rfl) (by kernel_rfl) (fun _ _ _ h => h) (Or.inl ⟨by rfl, ?_⟩) (by assumption) ?_
      case refine_2 => (intro w hSw; (try dsimp only at hSw); go_simp; try with_reducible rfl)
      show wpAnyH _ _ _ _ _ _ _ (Act.put _ (some 19) _) _
      simp only [pz]
      refine wpAnyH_take (i := 11) (v := ?_) rfl (by kernel_rfl) (by kernel_rfl) (by kernel_rfl) (fun _ _ _ h => h) (Or.inl ⟨by rfl, ?_⟩) (by assumption) ?_
      case refine_2 => (intro w hSw; (try dsimp only at hSw); go_simp; try with_reducible rfl)
      show wpAnyH _ _ _ _ _ _ _ (Act.put _ (some 20) _) _
      simp only [pz]
      refine wpAnyH_take (i := 12) (v := undef) rfl (by kernel_rfl) (by kernel_rfl) (by kernel_rfl) (fun _ _ _ h => h) (Or.inr ⟨by rfl, rfl⟩) (by assumption) ?_
      show wpAnyH _ _ _ _ _ _ _ (Act.put _ (some 21) _) _
      simp only [pz]
      refine wpAnyH_take (i := 13) (v := undef) rfl (by kernel_rfl) (by kernel_rfl) (by kernel_rfl) (fun _ _ _ h => h) (Or.inr ⟨by rfl, rfl⟩) (by assumption) ?_
      show wpAnyH _ _ _ _ _ _ _ (Act.put _ (some 22) _) _
      simp only [pz]
      refine wpAnyH_take (i := 14) (v := undef) rfl (by kernel_rfl) (by kernel_rfl) (by kernel_rfl) (fun _ _ _ h => h) (Or.inr ⟨by rfl, rfl⟩) (by assumption) ?_
      show wpAnyH _ _ _ _ _ _ _ (Act.put _ (some 23) _) _
      simp only [pz]
      refine wpAnyH_take (i := 15) (v := undef) rfl (by kernel_rfl) (by kernel_rfl) (by kernel_rfl) (fun _ _ _ h => h) (Or.inr ⟨by rfl, rfl⟩) (by assumption) ?_
      show wpAnyH _ _ _ _ _ _ _ (Act.put _ (some 24) _) _
      simp only [pz]
      refine wpAnyH_take (i := 16) (v := undef) rfl (by kernel_rfl) (by kernel_rfl) (by kernel_rfl) (fun _ _ _ h => h) (Or.inr ⟨by rfl, rfl⟩) (by assumption) ?_
      show wpAnyH _ _ _ _ _ _ _ (Act.put _ (some 25) _) _
      simp only [pz]
      refine wpAnyH_take (i := 17) (v := undef) rfl (by kernel_rfl) (by kernel_rfl) (by kernel_rfl) (fun _ _ _ h => h) (Or.inr ⟨by rfl, rfl⟩) (by assumption) ?_
      show wpAnyH _ _ _ _ _ _ _ (Act.put _ (some 26) _) _
      simp only [pz]
      refine wpAnyH_take (i := 18) (v := undef) rfl (by kernel_rfl) (by kernel_rfl) (by kernel_rfl) (fun _ _ _ h => h) (Or.inr ⟨by rfl, rfl⟩) (by assumption) ?_
      show wpAnyH _ _ _ _ _ _ _ (Act.put _ (some 27) _) _
      simp only [pz]
      refine wpAnyH_take (i := 19) (v := ?_) rfl (by kernel_rfl) (by kernel_rfl) (by kernel_rfl) (fun _ _ _ h => h) (Or.inl ⟨by rfl, ?_⟩) (by assumption) ?_
      case refine_2 => (intro w hSw; (try dsimp only at hSw); go_simp; try with_reducible rfl)
      show wpAnyH _ _ _ _ _ _ _ (Act.put _ (some 28) _) _
      simp only [pz]
      refine wpAnyH_take (i := 20) (v := ?_) rfl (by kernel_rfl) (by kernel_rfl) (by kernel_rfl) (fun _ _ _ h => h) (Or.inl ⟨by rfl, ?_⟩) (by assumption) ?_
      case refine_2 => (intro w hSw; (try dsimp only at hSw); go_simp; try with_reducible rfl)
      show wpAnyH _ _ _ _ _ _ _ (Act.put _ (some 8) _) _
      simp only [pz]
      refine wpAnyH_done (by kernel_rfl) ?_ _
      have HB9 : Hid (Below wx.heap.size wx w2) := hHeld.1
      clear hHeld hbr
      go_wp2
      go_ret
      exact ⟨ret_bool (by rw [HR.out, hf1, hf2]; rfl), step_below HB9.out HWX.out⟩
    · skip
      refine wp_region_held_drew (S := (fun w' => Below wx.heap.size wx w' ∧ w'.cell? ⟨w.heap.size, 0, none⟩ = some (.int .i64 0) ∧ w'.cell? ⟨w.heap.size, 1, none⟩ = some (.int .i64 a) ∧ w'.cell? ⟨w.heap.size, 2, none⟩ = some (.int .i64 b) ∧ w'.cell? ⟨w.heap.size, 3, none⟩ = some (.int .i64 c) ∧ w'.cell? ⟨w.heap.size + 1, 0, none⟩ = some (.slice (some ⟨b0, o0, none⟩) B.length c0) ∧ w'.cell? ⟨w.heap.size + 1, 1, none⟩ = some (.slice (some ⟨b1, o1, none⟩) C.length c1) ∧ w'.cell? ⟨w.heap.size + 1 + 1, 0, none⟩ = some (.int .i64 i.op) ∧ w'.cell? ⟨w.heap.size + 1 + 1, 1, none⟩ = some (.int .i64 i.dest) ∧ w'.cell? ⟨w.heap.size + 1 + 1, 2, none⟩ = some (.int .i64 i.a) ∧ w'.cell? ⟨w.heap.size + 1 + 1, 3, none⟩ = some (.int .i64 i.b) ∧ w'.cell? ⟨w.heap.size + 1 + 1, 4, none⟩ = some (.int .i64 i.c) ∧ w'.cell? ⟨w.heap.size + 1 + 1, 5, none⟩ = some (.int .u32 i.n) ∧ w'.cell? ⟨w.heap.size + 1 + 1 + 1, 0, none⟩ = some (.int .i64 r.dest.kind) ∧ w'.cell? ⟨w.heap.size + 1 + 1 + 1, 1, none⟩ = some (.int .i64 r.dest.n) ∧ w'.cell? ⟨w.heap.size + 1 + 1 + 1, 2, none⟩ = some (.int .i64 r.a.kind) ∧ w'.cell? ⟨w.heap.size + 1 + 1 + 1, 3, none⟩ = some (.int .i64 r.a.n) ∧ w'.cell? ⟨w.heap.size + 1 + 1 + 1, 4, none⟩ = some (.int .i64 r.b.kind) ∧ w'.cell? ⟨w.heap.size + 1 + 1 + 1, 5, none⟩ = some (.int .i64 r.b.n) ∧ w'.cell? ⟨w.heap.size + 1 + 1 + 1, 6, none⟩ = some (.slice ab r.before.length cb) ∧ w'.cell? ⟨w.heap.size + 1 + 1 + 1, 7, none⟩ = some (.slice aa r.after.length ca))) (by rfl) ?_ (fun hHeld => ?_)
      · (go_split_ands; refine ⟨?_, ?_, ?_, ?_, ?_, ?_, ?_, ?_, ?_, ?_, ?_, ?_, ?_, ?_, ?_, ?_, ?_, ?_, ?_, ?_, ?_⟩ <;> first | exact (Below.refl _ _).drew | exact ((Below.refl _ _).drew).trans hbr | exact step_below hbr (by assumption) | exact step_cell hbr (by assumption) | go_keep)
      refine wpAnyH_take (i := 0) (v := ?_) rfl (by kernel_rfl) (by kernel_rfl) (by kernel_rfl) (fun _ _ _ h => h) (Or.inl ⟨by rfl, ?_⟩) (by assumption) ?_
      case refine_2 => (intro w hSw; (try dsimp only at hSw); go_simp; try with_reducible rfl)
      show wpAnyH _ _ _ _ _ _ _ (Act.put _ (some 9) _) _
      simp only [pz]
      refine wpAnyH_take (i := 1) (v := ?_) rfl (by kernel_rfl) (by kernel_rfl) (by kernel_rfl) (fun _ _ _ h => h) (Or.inl ⟨by rfl, ?_⟩) (by assumption) ?_
      case refine_2 => (intro w hSw; (try dsimp only at hSw); go_simp; try with_reducible rfl)
      show wpAnyH _ _ _ _ _ _ _ (Act.put _ (some 10) _) _
      simp only [pz]
      refine wpAnyH_take (i := 2) (v := ?_) rfl (by kernel_rfl) (by kernel_rfl) (by kernel_rfl) (fun _ _ _ h => h) (Or.inl ⟨by rfl, ?_⟩) (by assumption) ?_
      case refine_2 => (intro w hSw; (try dsimp only at hSw); go_simp; try with_reducible rfl)
      show wpAnyH _ _ _ _ _ _ _ (Act.put _ (some 11) _) _
      simp only [pz]
      refine wpAnyH_take (i := 3) (v := ?_) rfl (by kernel_rfl) (by kernel_rfl) (by kernel_rfl) (fun _ _ _ h => h) (Or.inl ⟨by rfl, ?_⟩) (by assumption) ?_
      case refine_2 => (intro w hSw; (try dsimp only at hSw); go_simp; try with_reducible rfl)
      show wpAnyH _ _ _ _ _ _ _ (Act.put _ (some 12) _) _
      simp only [pz]
      refine wpAnyH_ready (rs := [4]) (by kernel_rfl) (by simp) ?_
      refine (AllReadyH.cons rfl (fun K hK => ?_) AllReadyH.nil)
      go_simp
      go_at_call 138
      refine (fieldsMay b0 o0 c0 b1 o1 c1 B C a b c i r ab cb aa ca _ hB (HH.out.later (step_below hHeld.1 HWX.out)) HK.out HF.out).mono ?_
      rw [hf1]
      rintro e w1 ⟨rfl, hbr⟩
      go_wp2_with fail
      refine hK.out _ _ ?_ (fun hHeld => ?_)
      · (exact ⟨step_below hbr hHeld.1, step_cell hbr hHeld.2.1, step_cell hbr hHeld.2.2.1, step_cell hbr hHeld.2.2.2.1, step_cell hbr hHeld.2.2.2.2.1, step_cell hbr hHeld.2.2.2.2.2.1, step_cell hbr hHeld.2.2.2.2.2.2.1, step_cell hbr hHeld.2.2.2.2.2.2.2.1, step_cell hbr hHeld.2.2.2.2.2.2.2.2.1, step_cell hbr hHeld.2.2.2.2.2.2.2.2.2.1, step_cell hbr hHeld.2.2.2.2.2.2.2.2.2.2.1, step_cell hbr hHeld.2.2.2.2.2.2.2.2.2.2.2.1, step_cell hbr hHeld.2.2.2.2.2.2.2.2.2.2.2.2.1, step_cell hbr hHeld.2.2.2.2.2.2.2.2.2.2.2.2.2.1, step_cell hbr hHeld.2.2.2.2.2.2.2.2.2.2.2.2.2.2.1, step_cell hbr hHeld.2.2.2.2.2.2.2.2.2.2.2.2.2.2.2.1, step_cell hbr hHeld.2.2.2.2.2.2.2.2.2.2.2.2.2.2.2.2.1, step_cell hbr hHeld.2.2.2.2.2.2.2.2.2.2.2.2.2.2.2.2.2.1, step_cell hbr hHeld.2.2.2.2.2.2.2.2.2.2.2.2.2.2.2.2.2.2.1, step_cell hbr hHeld.2.2.2.2.2.2.2.2.2.2.2.2.2.2.2.2.2.2.2.1, step_cell hbr hHeld.2.2.2.2.2.2.2.2.2.2.2.2.2.2.2.2.2.2.2.2⟩)
      clear hK K
      try simp only [pz]
      refine wpAnyH_take (i := 5) (v := ?_) rfl (by kernel_rfl) (by kernel_rfl) (by kernel_rfl) (fun _ _ _ h => h) (Or.inl ⟨by rfl, ?_⟩) (by assumption) ?_
      case refine_2 => (intro w hSw; (try dsimp only at hSw); go_simp; try with_reducible rfl)
      show wpAnyH _ _ _ _ _ _ _ (Act.put _ (some 14) _) _
      simp only [pz]
      refine wpAnyH_take (i := 6) (v := ?_) rfl (by kernel_rfl) (by kernel_rfl) (by kernel_rfl) (fun _ _ _ h => h) (Or.inl ⟨by rfl, ?_⟩) (by assumption) ?_
      case refine_2 => (intro w hSw; (try dsimp only at hSw); go_simp; try with_reducible rfl)
      show wpAnyH _ _ _ _ _ _ _ (Act.put _ (some 15) _) _
      simp only [pz]
      refine wpAnyH_take (i := 7) (v := ?_) rfl (by kernel_rfl) (by kernel_rfl) (by kernel_rfl) (fun _ _ _ h => h) (Or.inl ⟨by rfl, ?_⟩) (by assumption) ?_
      case refine_2 => (intro w hSw; (try dsimp only at hSw); go_simp; try with_reducible rfl)
      show wpAnyH _ _ _ _ _ _ _ (Act.put _ (some 16) _) _
      simp only [pz]
      refine wpAnyH_take (i := 8) (v := ?_) rfl (by kernel_rfl) (by kernel_rfl) (by kernel_rfl) (fun _ _ _ h => h) (Or.inl ⟨by rfl, ?_⟩) (by assumption) ?_
      case refine_2 => (intro w hSw; (try dsimp only at hSw); go_simp; try with_reducible rfl)
      show wpAnyH _ _ _ _ _ _ _ (Act.put _ (some 17) _) _
      simp only [pz]
      refine wpAnyH_ready (rs := [9]) (by kernel_rfl) (by simp) ?_
      refine (AllReadyH.cons rfl (fun K hK => ?_) AllReadyH.nil)
      go_simp
      go_at_call 139
      refine (movesMay a b c _ r.before 6 (by omega) _ (HMB.out.later (step_below hHeld.1 HWX.out))).mono ?_
      rw [hf2]
      rintro e w2 ⟨rfl, hbr⟩
      go_wp2_with fail
      refine hK.out _ _ ?_ (fun hHeld => ?_)
      · (exact ⟨step_below hbr hHeld.1, step_cell hbr hHeld.2.1, step_cell hbr hHeld.2.2.1, step_cell hbr hHeld.2.2.2.1, step_cell hbr hHeld.2.2.2.2.1, step_cell hbr hHeld.2.2.2.2.2.1, step_cell hbr hHeld.2.2.2.2.2.2.1, step_cell hbr hHeld.2.2.2.2.2.2.2.1, step_cell hbr hHeld.2.2.2.2.2.2.2.2.1, step_cell hbr hHeld.2.2.2.2.2.2.2.2.2.1, step_cell hbr hHeld.2.2.2.2.2.2.2.2.2.2.1, step_cell hbr hHeld.2.2.2.2.2.2.2.2.2.2.2.1, step_cell hbr hHeld.2.2.2.2.2.2.2.2.2.2.2.2.1, step_cell hbr hHeld.2.2.2.2.2.2.2.2.2.2.2.2.2.1, step_cell hbr hHeld.2.2.2.2.2.2.2.2.2.2.2.2.2.2.1, step_cell hbr hHeld.2.2.2.2.2.2.2.2.2.2.2.2.2.2.2.1, step_cell hbr hHeld.2.2.2.2.2.2.2.2.2.2.2.2.2.2.2.2.1, step_cell hbr hHeld.2.2.2.2.2.2.2.2.2.2.2.2.2.2.2.2.2.1, step_cell hbr hHeld.2.2.2.2.2.2.2.2.2.2.2.2.2.2.2.2.2.2.1, step_cell hbr hHeld.2.2.2.2.2.2.2.2.2.2.2.2.2.2.2.2.2.2.2.1, step_cell hbr hHeld.2.2.2.2.2.2.2.2.2.2.2.2.2.2.2.2.2.2.2.2⟩)
      clear hK K
      try simp only [pz]
      refine wpAnyH_take (i := 10) (v := ?_) rfl (by kernel_rfl) (by kernel_rfl) (by kernel_rfl) (fun _ _ _ h => h) (Or.inl ⟨by rfl, ?_⟩) (by assumption) ?_
      case refine_2 => (intro w hSw; (try dsimp only at hSw); go_simp; try with_reducible rfl)
      show wpAnyH _ _ _ _ _ _ _ (Act.put _ (some 19) _) _
      simp only [pz]
      refine wpAnyH_take (i := 11) (v := ?_) rfl (by kernel_rfl) (by kernel_rfl) (by kernel_rfl) (fun _ _ _ h => h) (Or.inl ⟨by rfl, ?_⟩) (by assumption) ?_
      case refine_2 => (intro w hSw; (try dsimp only at hSw); go_simp; try with_reducible rfl)
      show wpAnyH _ _ _ _ _ _ _ (Act.put _ (some 20) _) _
      simp only [pz]
      refine wpAnyH_take (i := 12) (v := ?_) rfl (by kernel_rfl) (by kernel_rfl) (by kernel_rfl) (fun _ _ _ h => h) (Or.inl ⟨by rfl, ?_⟩) (by assumption) ?_
      case refine_2 => (intro w hSw; (try dsimp only at hSw); go_simp; try with_reducible rfl)
      show wpAnyH _ _ _ _ _ _ _ (Act.put _ (some 21) _) _
      simp only [pz]
      refine wpAnyH_take (i := 13) (v := ?_) rfl (by kernel_rfl) (by kernel_rfl) (by kernel_rfl) (fun _ _ _ h => h) (Or.inl ⟨by rfl, ?_⟩) (by assumption) ?_
      case refine_2 => (intro w hSw; (try dsimp only at hSw); go_simp; try with_reducible rfl)
      show wpAnyH _ _ _ _ _ _ _ (Act.put _ (some 22) _) _
      simp only [pz]
      refine wpAnyH_take (i := 14) (v := ?_) rfl (by kernel_rfl) (by kernel_rfl) (by kernel_rfl) (fun _ _ _ h => h) (Or.inl ⟨by rfl, ?_⟩) (by assumption) ?_
      case refine_2 => (intro w hSw; (try dsimp only at hSw); go_simp; try with_reducible rfl)
      show wpAnyH _ _ _ _ _ _ _ (Act.put _ (some 23) _) _
      simp only [pz]
      refine wpAnyH_take (i := 15) (v := ?_) rfl (by kernel_rfl) (by kernel_rfl) (by kernel_rfl) (fun _ _ _ h => h) (Or.inl ⟨by rfl, ?_⟩) (by assumption) ?_
      case refine_2 => (intro w hSw; (try dsimp only at hSw); go_simp; try with_reducible rfl)
      show wpAnyH _ _ _ _ _ _ _ (Act.put _ (some 24) _) _
      simp only [pz]
      refine wpAnyH_take (i := 16) (v := ?_) rfl (by kernel_rfl) (by kernel_rfl) (by kernel_rfl) (fun _ _ _ h => h) (Or.inl ⟨by rfl, ?_⟩) (by assumption) ?_
      case refine_2 => (intro w hSw; (try dsimp only at hSw); go_simp; try with_reducible rfl)
      show wpAnyH _ _ _ _ _ _ _ (Act.put _ (some 25) _) _
      simp only [pz]
      refine wpAnyH_ready (rs := [17]) (by kernel_rfl) (by simp) ?_
      refine (AllReadyH.cons rfl (fun K hK => ?_) AllReadyH.nil)
      go_simp
      go_at_call 140
      refine (mostAfter i.op _).mono ?_
      rintro e w3 ⟨rfl, hw3⟩
      obtain rfl := hw3.symm
      clear hw3
      go_wp2_with fail
      refine hK.out _ _ ?_ (fun hHeld => ?_)
      · (exact hHeld)
      clear hK K
      try simp only [pz]
      refine wpAnyH_ready (rs := [18]) (by kernel_rfl) (by simp) ?_
      refine (AllReadyH.cons rfl (fun K hK => ?_) AllReadyH.nil)
      go_simp
      go_at_call 139
      refine (movesMay a b c _ r.after (mostI i.op) (most_le i.op) _ (HMA.out.later (step_below hHeld.1 HWX.out))).mono ?_
      rintro e w4 ⟨rfl, hbr⟩
      go_wp2_with fail
      refine hK.out _ _ ?_ (fun hHeld => ?_)
      · (exact ⟨step_below hbr hHeld.1, step_cell hbr hHeld.2.1, step_cell hbr hHeld.2.2.1, step_cell hbr hHeld.2.2.2.1, step_cell hbr hHeld.2.2.2.2.1, step_cell hbr hHeld.2.2.2.2.2.1, step_cell hbr hHeld.2.2.2.2.2.2.1, step_cell hbr hHeld.2.2.2.2.2.2.2.1, step_cell hbr hHeld.2.2.2.2.2.2.2.2.1, step_cell hbr hHeld.2.2.2.2.2.2.2.2.2.1, step_cell hbr hHeld.2.2.2.2.2.2.2.2.2.2.1, step_cell hbr hHeld.2.2.2.2.2.2.2.2.2.2.2.1, step_cell hbr hHeld.2.2.2.2.2.2.2.2.2.2.2.2.1, step_cell hbr hHeld.2.2.2.2.2.2.2.2.2.2.2.2.2.1, step_cell hbr hHeld.2.2.2.2.2.2.2.2.2.2.2.2.2.2.1, step_cell hbr hHeld.2.2.2.2.2.2.2.2.2.2.2.2.2.2.2.1, step_cell hbr hHeld.2.2.2.2.2.2.2.2.2.2.2.2.2.2.2.2.1, step_cell hbr hHeld.2.2.2.2.2.2.2.2.2.2.2.2.2.2.2.2.2.1, step_cell hbr hHeld.2.2.2.2.2.2.2.2.2.2.2.2.2.2.2.2.2.2.1, step_cell hbr hHeld.2.2.2.2.2.2.2.2.2.2.2.2.2.2.2.2.2.2.2.1, step_cell hbr hHeld.2.2.2.2.2.2.2.2.2.2.2.2.2.2.2.2.2.2.2.2⟩)
      clear hK K
      try simp only [pz]
      refine wpAnyH_take (i := 19) (v := ?_) rfl (by kernel_rfl) (by kernel_rfl) (by kernel_rfl) (fun _ _ _ h => h) (Or.inl ⟨by rfl, ?_⟩) (by assumption) ?_
      case refine_2 => (intro w hSw; (try dsimp only at hSw); go_simp; try with_reducible rfl)
      show wpAnyH _ _ _ _ _ _ _ (Act.put _ (some 28) _) _
      simp only [pz]
      refine wpAnyH_take (i := 20) (v := ?_) rfl (by kernel_rfl) (by kernel_rfl) (by kernel_rfl) (fun _ _ _ h => h) (Or.inl ⟨by rfl, ?_⟩) (by assumption) ?_
      case refine_2 => (intro w hSw; (try dsimp only at hSw); go_simp; try with_reducible rfl)
      show wpAnyH _ _ _ _ _ _ _ (Act.put _ (some 8) _) _
      simp only [pz]
      refine wpAnyH_done (by kernel_rfl) ?_ _
      have HB9 : Hid (Below wx.heap.size wx w4) := hHeld.1
      clear hHeld hbr
      go_wp2
      go_ret
      exact ⟨ret_bool (by rw [HR.out, hf1, hf2]; rfl), step_below HB9.out HWX.out⟩
end form
/- What the program's own function on places (place.May) answers. -/
namespace form
open Go.RowKit
attribute [local go_sem ↓] Go.wp_at_zero Go.wp_at_succ
theorem mayR (v : Value) (B : List Bool) (C : List LIns) (w : World) (h : ProgIs w v B C) :
    Calls Tryz.prog 33 #[v] w fun e w' => e = .returned (.bool (refMayB B C)) ∧ Below w.heap.size w w' := by
  rw [← may_same]; exact may v B C w h
theorem slotsMay (slots : Int) (w : World) : Calls Tryz.prog 100 #[.int .i64 slots] w fun e w' => e = .returned (.bool (!decide (slots < 0) && !decide (12 < slots))) ∧ w' = w := by
  rcases (show slots < 0 ∨ (¬ slots < 0 ∧ 12 < slots) ∨ (¬ slots < 0 ∧ ¬ 12 < slots) by omega) with h | ⟨h, h1⟩ | ⟨h, h1⟩
  · go_enter Tryz.func100, Tryz.ntmps100
    go_wp2
    go_ret
    exact ⟨ret_bool (by first | (simp; done) | (simp; omega)), rfl⟩
  all_goals
    go_enter Tryz.func100, Tryz.ntmps100
    go_wp2
    go_ret
    exact ⟨ret_bool (by simp; omega), rfl⟩
set_option maxRecDepth 100000 in
set_option maxHeartbeats 1000000 in
theorem mayO_no (pv lv : Value) (B : List Bool) (C : List LIns) (s slots : Int) (R : List LRow) (w : World) (hp : ProgIs w pv B C) (hl : PlacedIs w lv slots R)
    (hno : (refMayB B C && targetB s && !decide (slots < 0) && !decide (12 < slots) && decide (R.length = C.length)) = false) :
    Calls Tryz.prog 69 #[pv, targetV s, lv] w fun e w' => e = .returned (.bool false) ∧ Below w.heap.size w w' := by
  have h0 := hp
  obtain ⟨⟨a0, c0, a1, c1, rfl, -⟩, -, lC, -⟩ := h0
  have HP : Hid (ProgIs w (.agg #[.slice a0 B.length c0, .slice a1 C.length c1]) B C) := hp
  obtain ⟨ao, cap, rfl, lR, -⟩ := hl
  clear hp
  unfold targetV
  have HW : Hid (Below w.heap.size w (((w.alloc (.cells #[.slice a0 B.length c0, .slice a1 C.length c1] 27)).alloc (.cells #[.int .i64 s] 63)).alloc (.cells #[.int .i64 slots, .slice ao R.length cap] 98))) := (((Below.refl _ _).alloc (Nat.le_refl _) _).alloc (by simp) _).alloc (by simp; omega) _
  rcases (show refMayB B C = false ∨ (refMayB B C = true ∧ targetB s = false) ∨ (refMayB B C = true ∧ targetB s = true ∧ slots < 0) ∨ (refMayB B C = true ∧ targetB s = true ∧ ¬ slots < 0 ∧ 12 < slots) ∨ (refMayB B C = true ∧ targetB s = true ∧ ¬ slots < 0 ∧ ¬ 12 < slots ∧ ((R.length : Int) != (C.length : Int)) = true) by
    cases hm : refMayB B C
    · exact Or.inl rfl
    · cases ht : targetB s
      · exact Or.inr (Or.inl ⟨rfl, rfl⟩)
      · rw [hm, ht] at hno
        simp at hno
        by_cases x1 : slots < 0
        · exact Or.inr (Or.inr (Or.inl ⟨rfl, rfl, x1⟩))
        · by_cases x2 : 12 < slots
          · exact Or.inr (Or.inr (Or.inr (Or.inl ⟨rfl, rfl, x1, x2⟩)))
          · refine Or.inr (Or.inr (Or.inr (Or.inr ⟨rfl, rfl, x1, x2, ?_⟩)))
            have := hno (by omega) (by omega)
            simp; omega) with e1 | ⟨e1, e2⟩ | ⟨e1, e2, e3⟩ | ⟨e1, e2, e3, e4⟩ | ⟨e1, e2, e3, e4, e5⟩
  case inl =>
    clear hno
    go_enter Tryz.func69, Tryz.ntmps69
    go_wp2_with (go_at_call 33; refine (mayR _ B C _ (HP.out.later HW.out)).mono ?_; rintro e w1 ⟨rfl, hb1⟩; rw [e1])
    go_ret
    exact ⟨rfl, step_below hb1 HW.out⟩
  all_goals
    clear hno
    go_enter Tryz.func69, Tryz.ntmps69
    go_wp2_with (first | (go_at_call 33; refine (mayR _ B C _ (HP.out.later HW.out)).mono ?_; rintro e w1 ⟨rfl, hb1⟩; rw [e1]; have t0 : w1.cell? ⟨w.heap.size + 1, 0, none⟩ = some (.int .i64 s) := step_cell hb1 (by simp [go_sem]); have t1 : w1.cell? ⟨w.heap.size + 1 + 1, 0, none⟩ = some (.int .i64 slots) := step_cell hb1 (by simp [go_sem]); have t2 : w1.cell? ⟨w.heap.size + 1 + 1, 1, none⟩ = some (.slice ao R.length cap) := step_cell hb1 (by simp [go_sem]); have t3 : w1.cell? ⟨w.heap.size, 1, none⟩ = some (.slice a1 C.length c1) := step_cell hb1 (by simp [go_sem])) | (go_at_call 65; refine (targetMay s _).mono ?_; rintro e w2 ⟨rfl, hb2⟩; rw [e2]; have t1' := step_cell hb2 t1; have t2' := step_cell hb2 t2; have t3' := step_cell hb2 t3) | (go_at_call 100; refine (slotsMay slots _).mono ?_; (first | rw [show (!decide (slots < 0) && !decide (12 < slots)) = false by simp; omega] | rw [show (!decide (slots < 0) && !decide (12 < slots)) = true by simp; omega]); rintro e w' ⟨rfl, hw'⟩; obtain rfl := hw'.symm))
    go_ret
    exact ⟨rfl, step_below hb2 (step_below hb1 HW.out)⟩
structure OM (w : World) (b0 o0 c0 b1 o1 c1 : Nat) (s slots : Int) (b2 o2 c2 nR : Nat) (B : List Bool) (C : List LIns) (rb : Nat) (wr : World) : Prop where
  os : OS6 w b0 o0 c0 b1 o1 c1 s slots b2 o2 c2 nR B C wr
  lt : rb < wr.heap.size
  r0 : wr.cell? ⟨rb, 0, none⟩ = some (.int .i64 0)
  r1 : wr.cell? ⟨rb, 1, none⟩ = some (.int .i64 s)
  r2 : wr.cell? ⟨rb, 2, none⟩ = some (.int .i64 (s / 2))
  r3 : wr.cell? ⟨rb, 3, none⟩ = some (.int .i64 slots)
theorem OM.below {w : World} {b0 o0 c0 b1 o1 c1 : Nat} {s slots : Int} {b2 o2 c2 nR : Nat} {B : List Bool} {C : List LIns} {rb : Nat} {wr w1 : World} (h : OM w b0 o0 c0 b1 o1 c1 s slots b2 o2 c2 nR B C rb wr) (hb : Below wr.heap.size wr w1) : OM w b0 o0 c0 b1 o1 c1 s slots b2 o2 c2 nR B C rb w1 :=
  ⟨h.os.below hb, Nat.lt_of_lt_of_le h.lt hb.size, step_cell hb h.r0, step_cell hb h.r1, step_cell hb h.r2, step_cell hb h.r3⟩
theorem known_ofP {B : List Bool} {C : List LIns} (h : refMayB B C = true) : ∀ k, k < C.length → knownB (C.getD k .zero).op = true := by
  intro k hk
  unfold refMayB at h
  simp only [Bool.and_eq_true] at h
  have := List.all_eq_true.1 h.2 (C.getD k .zero) (by simp [List.getD, hk])
  unfold insB at this
  simp only [Bool.and_eq_true] at this
  exact this.1.1.1.1.1.1
set_option maxRecDepth 100000 in
set_option maxHeartbeats 8000000 in
theorem mayO_yes (b0 o0 c0 b1 o1 c1 b2 o2 c2 : Nat) (B : List Bool) (C : List LIns) (s slots : Int) (R : List LRow) (w : World) (h : Held w b0 o0 b1 o1 B C) (hR : RowsHeld w b2 o2 R)
    (hn : ∀ i, i < C.length → 0 ≤ (C.getD i .zero).n ∧ (C.getD i .zero).n < 4294967296) (hm : refMayB B C = true) (ht : targetB s = true) (hs0 : ¬ slots < 0) (hs1 : ¬ 12 < slots) (hlen : R.length = C.length) :
    Calls Tryz.prog 69 #[progV b0 o0 B.length c0 b1 o1 C.length c1, targetV s, .agg #[.int .i64 slots, .slice (some ⟨b2, o2, none⟩) R.length c2]] w fun e w' =>
      e = .returned (.bool ((List.range C.length).all (fun k => rowB B s slots (C.getD k .zero) (R.getD k .zero)))) ∧ Below w.heap.size w w' := by
  have hsz : sizesB B C = true := by unfold refMayB at hm; simp only [Bool.and_eq_true] at hm; exact hm.1
  obtain ⟨s1, s2, s3, s4⟩ := sizes_of hsz
  have HOK : Hid (∀ k, k < C.length → InsOk B.length C.length (C.getD k .zero)) := all_insOk hm hn
  have HKN0 : Hid (∀ k, k < C.length → knownB (C.getD k .zero).op = true) := known_ofP hm
  have HP : Hid (ProgIs w (.agg #[.slice (some ⟨b0, o0, none⟩) B.length c0, .slice (some ⟨b1, o1, none⟩) C.length c1]) B C) := ⟨⟨_, _, _, _, rfl, fun _ _ => ⟨b0, o0, b1, o1, rfl, rfl, h⟩⟩, by omega, by omega, hn⟩
  have HLEN : Hid (R.length = C.length) := hlen
  have HTG : Hid (targetB s = true) := ht
  have HS4 : Hid (4 ≤ s ∧ s ≤ 16) := by unfold targetB at ht; simp at ht; show 4 ≤ s ∧ s ≤ 16; omega
  have e5 : ((R.length : Int) != (C.length : Int)) = false := by simp [hlen]
  have z4 : (R.length : Int) ≤ 40 := by omega
  have HH : Hid (Held w b0 o0 b1 o1 B C) := h
  have HRR : Hid (RowsHeld w b2 o2 R) := hR
  clear hsz hn hlen h hR
  unfold progV targetV
  have HW : Hid (Below w.heap.size w (((w.alloc (.cells #[.slice (some ⟨b0, o0, none⟩) B.length c0, .slice (some ⟨b1, o1, none⟩) C.length c1] 27)).alloc (.cells #[.int .i64 s] 63)).alloc (.cells #[.int .i64 slots, .slice (some ⟨b2, o2, none⟩) R.length c2] 98))) := (((Below.refl _ _).alloc (Nat.le_refl _) _).alloc (by simp) _).alloc (by simp; omega) _
  go_enter Tryz.func69, Tryz.ntmps69
  go_wp2_with (first
    | (go_at_call 33; refine (mayR _ B C _ (HP.out.later HW.out)).mono ?_; rintro e w1 ⟨rfl, hb1⟩; rw [hm]; have t0 : w1.cell? ⟨w.heap.size + 1, 0, none⟩ = some (.int .i64 s) := step_cell hb1 (by simp [go_sem]); have t1 : w1.cell? ⟨w.heap.size + 1 + 1, 0, none⟩ = some (.int .i64 slots) := step_cell hb1 (by simp [go_sem]); have t2 : w1.cell? ⟨w.heap.size + 1 + 1, 1, none⟩ = some (.slice (some ⟨b2, o2, none⟩) R.length c2) := step_cell hb1 (by simp [go_sem]); have t3 : w1.cell? ⟨w.heap.size, 1, none⟩ = some (.slice (some ⟨b1, o1, none⟩) C.length c1) := step_cell hb1 (by simp [go_sem]); have t4 : w1.cell? ⟨w.heap.size, 0, none⟩ = some (.slice (some ⟨b0, o0, none⟩) B.length c0) := step_cell hb1 (by simp [go_sem]))
    | (go_at_call 65; refine (targetMay s _).mono ?_; rintro e w2 ⟨rfl, hb2⟩; rw [ht]; have t0' := step_cell hb2 t0; have t1' := step_cell hb2 t1; have t2' := step_cell hb2 t2; have t3' := step_cell hb2 t3)
    | (go_at_call 100; refine (slotsMay slots _).mono ?_; rw [show (!decide (slots < 0) && !decide (12 < slots)) = true by simp; omega]; rintro e w' ⟨rfl, hw'⟩; obtain rfl := hw'.symm)
    | (go_at_call 101; refine (roomOf s slots HS4.out.1 HS4.out.2 _).mono ?_; rintro e w3 ⟨rfl, hb3⟩; unfold roomV; have hzz : w.heap.size + 3 ≤ w3.heap.size := (Nat.le_trans (by have := hb1.size; simp at this; omega) (Nat.le_trans hb2.size hb3.size)); have v2 := step_cell hb3 t2'; have u2 : w.heap.size + 1 + 1 < w3.heap.size := (by omega)))
  have HO : Hid (OM w b0 o0 c0 b1 o1 c1 s slots b2 o2 c2 R.length B C w3.heap.size (w3.alloc (.cells #[.int .i64 0, .int .i64 s, .int .i64 (s / 2), .int .i64 slots] 169))) := by
    have g1 : Below w3.heap.size w3 (w3.alloc (.cells #[.int .i64 0, .int .i64 s, .int .i64 (s / 2), .int .i64 slots] 169)) := (Below.refl _ _).alloc (Nat.le_refl _) _
    have hos : OS6 w b0 o0 c0 b1 o1 c1 s slots b2 o2 c2 R.length B C w3 := ⟨step_below hb3 (step_below hb2 (step_below hb1 HW.out)), hzz, step_cell hb3 (step_cell hb2 t4), step_cell hb3 t3', step_cell hb3 t0', step_cell hb3 t1', v2⟩
    exact ⟨hos.below g1, by simp, by simp [go_sem], by simp [go_sem], by simp [go_sem], by simp [go_sem]⟩
  obtain ⟨rb, hrb⟩ : ∃ rb, rb = w3.heap.size := ⟨_, rfl⟩
  rw [← hrb]
  rw [← hrb] at HO
  clear t0 t1 t2 t3 t4 t0' t1' t2' t3' hb1 hb2 hb3 hzz v2 u2
  go_loopw [40] (fun t wr => ∃ k : Nat, k ≤ C.length ∧ t = .int .i64 k ∧ OM w b0 o0 c0 b1 o1 c1 s slots b2 o2 c2 R.length B C rb wr ∧ (∀ j, j < k → rowB B s slots (C.getD j .zero) (R.getD j .zero) = true)) (fun t _ => C.length - (intOf t).toNat)
  case atStart => exact ⟨0, by omega, rfl, HO.out, fun j hj => absurd hj (by omega)⟩
  clear HO hrb
  case round =>
    obtain ⟨k, hk, rfl, hos, hall⟩ := hrel
    have F : Hid (∀ j, j < k → rowB B s slots (C.getD j .zero) (R.getD j .zero) = true) := hall
    have HO : Hid (OM w b0 o0 c0 b1 o1 c1 s slots b2 o2 c2 R.length B C rb wr) := hos
    clear hall
    by_cases hlt : k < C.length
    case neg =>
      have hge : ¬ (k : Int) < (R.length : Int) := by have := HLEN.out; omega
      clear hos
      go_wp2
      go_ret
      refine ⟨ret_bool ?_, HO.out.os.bel⟩
      rw [eq_comm, List.all_eq_true]
      intro x hx
      exact F.out x (by simp at hx; omega)
    have hltR : k < R.length := by have := HLEN.out; omega
    have y0 : (0 : Int) ≤ (k : Int) := by omega
    have y1 : (k : Int) < (R.length : Int) := by omega
    have y2 : (k : Int) < (C.length : Int) := by omega
    obtain ⟨f0, f1, f2, f3, f4, f5, vb, va, f6, f7, mb, ma⟩ := (HRR.out.later hos.os.bel).rows k hltR
    have lb2 := (HRR.out.later hos.os.bel).lt
    obtain ⟨r, hr⟩ : ∃ r, r = R.getD k .zero := ⟨_, rfl⟩
    rw [← hr] at f0 f1 f2 f3 f4 f5 mb ma
    have HR : Hid (r = R.getD k .zero) := hr
    obtain ⟨abo, abc, hvb, abl, abh⟩ := mb
    obtain ⟨aao, aac, hva, aal, aah⟩ := ma
    have HMB0 : Hid (MovesIs wr vb r.before) := ⟨abo, abc, hvb, abl, abh⟩
    have HMA0 : Hid (MovesIs wr va r.after) := ⟨aao, aac, hva, aal, aah⟩
    subst hvb
    subst hva
    clear hr hos abh aah
    go_upto_region 7 with fail
    obtain ⟨wx, hwx⟩ : ∃ wx, wx = wr.alloc (.cells #[.int .i64 r.dest.kind, .int .i64 r.dest.n, .int .i64 r.a.kind, .int .i64 r.a.n, .int .i64 r.b.kind, .int .i64 r.b.n, .slice abo r.before.length abc, .slice aao r.after.length aac] 140) := ⟨_, rfl⟩
    have HG : Hid (Below wr.heap.size wr wx) := by rw [hwx]; exact (Below.refl _ _).alloc (Nat.le_refl _) _
    have hox := HO.out.below HG.out
    have HHX : Hid (Held wx b0 o0 b1 o1 B C) := HH.out.later hox.os.bel
    have HMB : Hid (MovesIs wx (.slice abo r.before.length abc) r.before) := HMB0.out.later HG.out
    have HMA : Hid (MovesIs wx (.slice aao r.after.length aac) r.after) := HMA0.out.later HG.out
    obtain ⟨x6, x7, x8, x9, x10, x11⟩ := HHX.out.code k hlt
    obtain ⟨i, hi⟩ : ∃ i, i = C.getD k .zero := ⟨_, rfl⟩
    rw [← hi] at x6 x7 x8 x9 x10 x11
    have HI : Hid (i = C.getD k .zero) := hi
    have HKN : Hid (knownB i.op = true) := by have := HKN0.out k hlt; rw [← hi] at this; exact this
    have HIF : Hid (∀ j, j < 3 → tjF i j = true → 0 ≤ fjF i j ∧ fjF i j < B.length) := by
      have := HOK.out k hlt
      rw [← hi] at this
      exact fun j hj ht => fj_bd this hj ht
    have x0 := hox.r0
    have x1 := hox.r1
    have x2 := hox.r2
    have x3 := hox.r3
    have x4 := hox.os.p0
    have x5 := hox.os.p1
    have x12 : wx.cell? ⟨wr.heap.size, 0, none⟩ = some (.int .i64 r.dest.kind) := by rw [hwx]; simp [go_sem]
    have x13 : wx.cell? ⟨wr.heap.size, 1, none⟩ = some (.int .i64 r.dest.n) := by rw [hwx]; simp [go_sem]
    have x14 : wx.cell? ⟨wr.heap.size, 2, none⟩ = some (.int .i64 r.a.kind) := by rw [hwx]; simp [go_sem]
    have x15 : wx.cell? ⟨wr.heap.size, 3, none⟩ = some (.int .i64 r.a.n) := by rw [hwx]; simp [go_sem]
    have x16 : wx.cell? ⟨wr.heap.size, 4, none⟩ = some (.int .i64 r.b.kind) := by rw [hwx]; simp [go_sem]
    have x17 : wx.cell? ⟨wr.heap.size, 5, none⟩ = some (.int .i64 r.b.n) := by rw [hwx]; simp [go_sem]
    have x18 : wx.cell? ⟨wr.heap.size, 6, none⟩ = some (.slice abo r.before.length abc) := by rw [hwx]; simp [go_sem]
    have x19 : wx.cell? ⟨wr.heap.size, 7, none⟩ = some (.slice aao r.after.length aac) := by rw [hwx]; simp [go_sem]
    rw [← hwx]
    obtain ⟨qb, hqb⟩ : ∃ qb, qb = wr.heap.size := ⟨_, rfl⟩
    rw [← hqb] at x12 x13 x14 x15 x16 x17 x18 x19
    rw [← hqb]
    have HOX : Hid (OM w b0 o0 c0 b1 o1 c1 s slots b2 o2 c2 R.length B C rb wx) := hox
    clear f0 f1 f2 f3 f4 f5 f6 f7 lb2 hox hwx hqb hi
    cases hr9 : rowO B s (s / 2) slots i r
    · skip
      refine wp_region_held_drew (S := (fun w' => Below wx.heap.size wx w' ∧ w'.cell? ⟨rb, 0, none⟩ = some (.int .i64 0) ∧ w'.cell? ⟨rb, 1, none⟩ = some (.int .i64 s) ∧ w'.cell? ⟨rb, 2, none⟩ = some (.int .i64 (s / 2)) ∧ w'.cell? ⟨rb, 3, none⟩ = some (.int .i64 slots) ∧ w'.cell? ⟨w.heap.size, 0, none⟩ = some (.slice (some ⟨b0, o0, none⟩) B.length c0) ∧ w'.cell? ⟨w.heap.size, 1, none⟩ = some (.slice (some ⟨b1, o1, none⟩) C.length c1) ∧ w'.cell? ⟨b1, o1 + k * 6, none⟩ = some (.int .i64 i.op) ∧ w'.cell? ⟨b1, o1 + k * 6 + 1, none⟩ = some (.int .i64 i.dest) ∧ w'.cell? ⟨b1, o1 + k * 6 + 2, none⟩ = some (.int .i64 i.a) ∧ w'.cell? ⟨b1, o1 + k * 6 + 3, none⟩ = some (.int .i64 i.b) ∧ w'.cell? ⟨b1, o1 + k * 6 + 4, none⟩ = some (.int .i64 i.c) ∧ w'.cell? ⟨b1, o1 + k * 6 + 5, none⟩ = some (.int .u32 i.n) ∧ w'.cell? ⟨qb, 0, none⟩ = some (.int .i64 r.dest.kind) ∧ w'.cell? ⟨qb, 1, none⟩ = some (.int .i64 r.dest.n) ∧ w'.cell? ⟨qb, 2, none⟩ = some (.int .i64 r.a.kind) ∧ w'.cell? ⟨qb, 3, none⟩ = some (.int .i64 r.a.n) ∧ w'.cell? ⟨qb, 4, none⟩ = some (.int .i64 r.b.kind) ∧ w'.cell? ⟨qb, 5, none⟩ = some (.int .i64 r.b.n) ∧ w'.cell? ⟨qb, 6, none⟩ = some (.slice abo r.before.length abc) ∧ w'.cell? ⟨qb, 7, none⟩ = some (.slice aao r.after.length aac))) (by rfl) ?_ (fun hHeld => ?_)
      · (exact ⟨(Below.refl _ _).drew, step_cell (Below.refl _ _).drew x0, step_cell (Below.refl _ _).drew x1, step_cell (Below.refl _ _).drew x2, step_cell (Below.refl _ _).drew x3, step_cell (Below.refl _ _).drew x4, step_cell (Below.refl _ _).drew x5, step_cell (Below.refl _ _).drew x6, step_cell (Below.refl _ _).drew x7, step_cell (Below.refl _ _).drew x8, step_cell (Below.refl _ _).drew x9, step_cell (Below.refl _ _).drew x10, step_cell (Below.refl _ _).drew x11, step_cell (Below.refl _ _).drew x12, step_cell (Below.refl _ _).drew x13, step_cell (Below.refl _ _).drew x14, step_cell (Below.refl _ _).drew x15, step_cell (Below.refl _ _).drew x16, step_cell (Below.refl _ _).drew x17, step_cell (Below.refl _ _).drew x18, step_cell (Below.refl _ _).drew x19⟩)
      refine wpAnyH_take (i := 0) (v := ?_) rfl (by kernel_rfl) (by kernel_rfl) (by kernel_rfl) (fun _ _ _ h => h) (Or.inl ⟨by rfl, ?_⟩) (by assumption) ?_
      case refine_2 => (intro w hSw; (try dsimp only at hSw); go_simp; try with_reducible rfl)
      show wpAnyH _ _ _ _ _ _ _ (Act.put _ (some 45) _) _
      simp only [pz]
      refine wpAnyH_take (i := 1) (v := ?_) rfl (by kernel_rfl) (by kernel_rfl) (by kernel_rfl) (fun _ _ _ h => h) (Or.inl ⟨by rfl, ?_⟩) (by assumption) ?_
      case refine_2 => (intro w hSw; (try dsimp only at hSw); go_simp; try with_reducible rfl)
      show wpAnyH _ _ _ _ _ _ _ (Act.put _ (some 46) _) _
      simp only [pz]
      refine wpAnyH_take (i := 2) (v := ?_) rfl (by kernel_rfl) (by kernel_rfl) (by kernel_rfl) (fun _ _ _ h => h) (Or.inl ⟨by rfl, ?_⟩) (by assumption) ?_
      case refine_2 => (intro w hSw; (try dsimp only at hSw); go_simp; try with_reducible rfl)
      show wpAnyH _ _ _ _ _ _ _ (Act.put _ (some 47) _) _
      simp only [pz]
      refine wpAnyH_take (i := 3) (v := ?_) rfl (by kernel_rfl) (by kernel_rfl) (by kernel_rfl) (fun _ _ _ h => h) (Or.inl ⟨by rfl, ?_⟩) (by assumption) ?_
      case refine_2 => (intro w hSw; (try dsimp only at hSw); go_simp; try with_reducible rfl)
      show wpAnyH _ _ _ _ _ _ _ (Act.put _ (some 48) _) _
      simp only [pz]
      refine wpAnyH_take (i := 4) (v := ?_) rfl (by kernel_rfl) (by kernel_rfl) (by kernel_rfl) (fun _ _ _ h => h) (Or.inl ⟨by rfl, ?_⟩) (by assumption) ?_
      case refine_2 => (intro w hSw; (try dsimp only at hSw); go_simp; try with_reducible rfl)
      show wpAnyH _ _ _ _ _ _ _ (Act.put _ (some 49) _) _
      simp only [pz]
      refine wpAnyH_take (i := 5) (v := ?_) rfl (by kernel_rfl) (by kernel_rfl) (by kernel_rfl) (fun _ _ _ h => h) (Or.inl ⟨by rfl, ?_⟩) (by assumption) ?_
      case refine_2 => (intro w hSw; (try dsimp only at hSw); go_simp; try with_reducible rfl)
      show wpAnyH _ _ _ _ _ _ _ (Act.put _ (some 50) _) _
      simp only [pz]
      refine wpAnyH_take (i := 6) (v := ?_) rfl (by kernel_rfl) (by kernel_rfl) (by kernel_rfl) (fun _ _ _ h => h) (Or.inl ⟨by rfl, ?_⟩) (by assumption) ?_
      case refine_2 => (intro w hSw; (try dsimp only at hSw); go_simp; try with_reducible rfl)
      show wpAnyH _ _ _ _ _ _ _ (Act.put _ (some 51) _) _
      simp only [pz]
      refine wpAnyH_take (i := 7) (v := ?_) rfl (by kernel_rfl) (by kernel_rfl) (by kernel_rfl) (fun _ _ _ h => h) (Or.inl ⟨by rfl, ?_⟩) (by assumption) ?_
      case refine_2 => (intro w hSw; (try dsimp only at hSw); go_simp; try with_reducible rfl)
      show wpAnyH _ _ _ _ _ _ _ (Act.put _ (some 52) _) _
      simp only [pz]
      refine wpAnyH_ready (rs := [8]) (by kernel_rfl) (by simp) ?_
      refine (AllReadyH.cons rfl (fun K hK => ?_) AllReadyH.nil)
      go_simp
      go_at_call 102
      refine (rowMay b0 o0 c0 b1 o1 c1 B C s (s / 2) slots i r abo abc aao aac _ s2 (HHX.out.later hHeld.1) HKN.out HIF.out (HMB.out.later hHeld.1) (HMA.out.later hHeld.1)).mono ?_
      rw [hr9]
      rintro e w9 ⟨rfl, hbr⟩
      go_wp2_with fail
      refine hK.out _ _ ?_ (fun hHeld => ?_)
      · (exact ⟨step_below hbr hHeld.1, step_cell hbr hHeld.2.1, step_cell hbr hHeld.2.2.1, step_cell hbr hHeld.2.2.2.1, step_cell hbr hHeld.2.2.2.2.1, step_cell hbr hHeld.2.2.2.2.2.1, step_cell hbr hHeld.2.2.2.2.2.2.1, step_cell hbr hHeld.2.2.2.2.2.2.2.1, step_cell hbr hHeld.2.2.2.2.2.2.2.2.1, step_cell hbr hHeld.2.2.2.2.2.2.2.2.2.1, step_cell hbr hHeld.2.2.2.2.2.2.2.2.2.2.1, step_cell hbr hHeld.2.2.2.2.2.2.2.2.2.2.2.1, step_cell hbr hHeld.2.2.2.2.2.2.2.2.2.2.2.2.1, step_cell hbr hHeld.2.2.2.2.2.2.2.2.2.2.2.2.2.1, step_cell hbr hHeld.2.2.2.2.2.2.2.2.2.2.2.2.2.2.1, step_cell hbr hHeld.2.2.2.2.2.2.2.2.2.2.2.2.2.2.2.1, step_cell hbr hHeld.2.2.2.2.2.2.2.2.2.2.2.2.2.2.2.2.1, step_cell hbr hHeld.2.2.2.2.2.2.2.2.2.2.2.2.2.2.2.2.2.1, step_cell hbr hHeld.2.2.2.2.2.2.2.2.2.2.2.2.2.2.2.2.2.2.1, step_cell hbr hHeld.2.2.2.2.2.2.2.2.2.2.2.2.2.2.2.2.2.2.2.1, step_cell hbr hHeld.2.2.2.2.2.2.2.2.2.2.2.2.2.2.2.2.2.2.2.2⟩)
      clear hK K
      try simp only [pz]
      refine wpAnyH_take (i := 9) (v := ?_) rfl (by kernel_rfl) (by kernel_rfl) (by kernel_rfl) (fun _ _ _ h => h) (Or.inl ⟨by rfl, ?_⟩) (by assumption) ?_
      case refine_2 => (intro w hSw; (try dsimp only at hSw); go_simp; try with_reducible rfl)
      show wpAnyH _ _ _ _ _ _ _ (Act.put _ (some 54) _) _
      simp only [pz]
      refine wpAnyH_done (by kernel_rfl) ?_ _
      have HB9 : Hid (Below wx.heap.size wx w9) := hHeld.1
      clear hHeld hbr
      go_wp2
      go_ret
      refine ⟨ret_bool (all_no hlt ?_), step_below HB9.out HOX.out.os.bel⟩
      rw [← HI.out, ← HR.out, ← row_same HTG.out]; exact hr9
    · skip
      refine wp_region_held_drew (S := (fun w' => Below wx.heap.size wx w' ∧ w'.cell? ⟨rb, 0, none⟩ = some (.int .i64 0) ∧ w'.cell? ⟨rb, 1, none⟩ = some (.int .i64 s) ∧ w'.cell? ⟨rb, 2, none⟩ = some (.int .i64 (s / 2)) ∧ w'.cell? ⟨rb, 3, none⟩ = some (.int .i64 slots) ∧ w'.cell? ⟨w.heap.size, 0, none⟩ = some (.slice (some ⟨b0, o0, none⟩) B.length c0) ∧ w'.cell? ⟨w.heap.size, 1, none⟩ = some (.slice (some ⟨b1, o1, none⟩) C.length c1) ∧ w'.cell? ⟨b1, o1 + k * 6, none⟩ = some (.int .i64 i.op) ∧ w'.cell? ⟨b1, o1 + k * 6 + 1, none⟩ = some (.int .i64 i.dest) ∧ w'.cell? ⟨b1, o1 + k * 6 + 2, none⟩ = some (.int .i64 i.a) ∧ w'.cell? ⟨b1, o1 + k * 6 + 3, none⟩ = some (.int .i64 i.b) ∧ w'.cell? ⟨b1, o1 + k * 6 + 4, none⟩ = some (.int .i64 i.c) ∧ w'.cell? ⟨b1, o1 + k * 6 + 5, none⟩ = some (.int .u32 i.n) ∧ w'.cell? ⟨qb, 0, none⟩ = some (.int .i64 r.dest.kind) ∧ w'.cell? ⟨qb, 1, none⟩ = some (.int .i64 r.dest.n) ∧ w'.cell? ⟨qb, 2, none⟩ = some (.int .i64 r.a.kind) ∧ w'.cell? ⟨qb, 3, none⟩ = some (.int .i64 r.a.n) ∧ w'.cell? ⟨qb, 4, none⟩ = some (.int .i64 r.b.kind) ∧ w'.cell? ⟨qb, 5, none⟩ = some (.int .i64 r.b.n) ∧ w'.cell? ⟨qb, 6, none⟩ = some (.slice abo r.before.length abc) ∧ w'.cell? ⟨qb, 7, none⟩ = some (.slice aao r.after.length aac))) (by rfl) ?_ (fun hHeld => ?_)
      · (exact ⟨(Below.refl _ _).drew, step_cell (Below.refl _ _).drew x0, step_cell (Below.refl _ _).drew x1, step_cell (Below.refl _ _).drew x2, step_cell (Below.refl _ _).drew x3, step_cell (Below.refl _ _).drew x4, step_cell (Below.refl _ _).drew x5, step_cell (Below.refl _ _).drew x6, step_cell (Below.refl _ _).drew x7, step_cell (Below.refl _ _).drew x8, step_cell (Below.refl _ _).drew x9, step_cell (Below.refl _ _).drew x10, step_cell (Below.refl _ _).drew x11, step_cell (Below.refl _ _).drew x12, step_cell (Below.refl _ _).drew x13, step_cell (Below.refl _ _).drew x14, step_cell (Below.refl _ _).drew x15, step_cell (Below.refl _ _).drew x16, step_cell (Below.refl _ _).drew x17, step_cell (Below.refl _ _).drew x18, step_cell (Below.refl _ _).drew x19⟩)
      refine wpAnyH_take (i := 0) (v := ?_) rfl (by kernel_rfl) (by kernel_rfl) (by kernel_rfl) (fun _ _ _ h => h) (Or.inl ⟨by rfl, ?_⟩) (by assumption) ?_
      case refine_2 => (intro w hSw; (try dsimp only at hSw); go_simp; try with_reducible rfl)
      show wpAnyH _ _ _ _ _ _ _ (Act.put _ (some 45) _) _
      simp only [pz]
      refine wpAnyH_take (i := 1) (v := ?_) rfl (by kernel_rfl) (by kernel_rfl) (by kernel_rfl) (fun _ _ _ h => h) (Or.inl ⟨by rfl, ?_⟩) (by assumption) ?_
      case refine_2 => (intro w hSw; (try dsimp only at hSw); go_simp; try with_reducible rfl)
      show wpAnyH _ _ _ _ _ _ _ (Act.put _ (some 46) _) _
      simp only [pz]
      refine wpAnyH_take (i := 2) (v := ?_) rfl (by kernel_rfl) (by kernel_rfl) (by kernel_rfl) (fun _ _ _ h => h) (Or.inl ⟨by rfl, ?_⟩) (by assumption) ?_
      case refine_2 => (intro w hSw; (try dsimp only at hSw); go_simp; try with_reducible rfl)
      show wpAnyH _ _ _ _ _ _ _ (Act.put _ (some 47) _) _
      simp only [pz]
      refine wpAnyH_take (i := 3) (v := ?_) rfl (by kernel_rfl) (by kernel_rfl) (by kernel_rfl) (fun _ _ _ h => h) (Or.inl ⟨by rfl, ?_⟩) (by assumption) ?_
      case refine_2 => (intro w hSw; (try dsimp only at hSw); go_simp; try with_reducible rfl)
      show wpAnyH _ _ _ _ _ _ _ (Act.put _ (some 48) _) _
      simp only [pz]
      refine wpAnyH_take (i := 4) (v := ?_) rfl (by kernel_rfl) (by kernel_rfl) (by kernel_rfl) (fun _ _ _ h => h) (Or.inl ⟨by rfl, ?_⟩) (by assumption) ?_
      case refine_2 => (intro w hSw; (try dsimp only at hSw); go_simp; try with_reducible rfl)
      show wpAnyH _ _ _ _ _ _ _ (Act.put _ (some 49) _) _
      simp only [pz]
      refine wpAnyH_take (i := 5) (v := ?_) rfl (by kernel_rfl) (by kernel_rfl) (by kernel_rfl) (fun _ _ _ h => h) (Or.inl ⟨by rfl, ?_⟩) (by assumption) ?_
      case refine_2 => (intro w hSw; (try dsimp only at hSw); go_simp; try with_reducible rfl)
      show wpAnyH _ _ _ _ _ _ _ (Act.put _ (some 50) _) _
      simp only [pz]
      refine wpAnyH_take (i := 6) (v := ?_) rfl (by kernel_rfl) (by kernel_rfl) (by kernel_rfl) (fun _ _ _ h => h) (Or.inl ⟨by rfl, ?_⟩) (by assumption) ?_
      case refine_2 => (intro w hSw; (try dsimp only at hSw); go_simp; try with_reducible rfl)
      show wpAnyH _ _ _ _ _ _ _ (Act.put _ (some 51) _) _
      simp only [pz]
      refine wpAnyH_take (i := 7) (v := ?_) rfl (by kernel_rfl) (by kernel_rfl) (by kernel_rfl) (fun _ _ _ h => h) (Or.inl ⟨by rfl, ?_⟩) (by assumption) ?_
      case refine_2 => (intro w hSw; (try dsimp only at hSw); go_simp; try with_reducible rfl)
      show wpAnyH _ _ _ _ _ _ _ (Act.put _ (some 52) _) _
      simp only [pz]
      refine wpAnyH_ready (rs := [8]) (by kernel_rfl) (by simp) ?_
      refine (AllReadyH.cons rfl (fun K hK => ?_) AllReadyH.nil)
      go_simp
      go_at_call 102
      refine (rowMay b0 o0 c0 b1 o1 c1 B C s (s / 2) slots i r abo abc aao aac _ s2 (HHX.out.later hHeld.1) HKN.out HIF.out (HMB.out.later hHeld.1) (HMA.out.later hHeld.1)).mono ?_
      rw [hr9]
      rintro e w9 ⟨rfl, hbr⟩
      go_wp2_with fail
      refine hK.out _ _ ?_ (fun hHeld => ?_)
      · (exact ⟨step_below hbr hHeld.1, step_cell hbr hHeld.2.1, step_cell hbr hHeld.2.2.1, step_cell hbr hHeld.2.2.2.1, step_cell hbr hHeld.2.2.2.2.1, step_cell hbr hHeld.2.2.2.2.2.1, step_cell hbr hHeld.2.2.2.2.2.2.1, step_cell hbr hHeld.2.2.2.2.2.2.2.1, step_cell hbr hHeld.2.2.2.2.2.2.2.2.1, step_cell hbr hHeld.2.2.2.2.2.2.2.2.2.1, step_cell hbr hHeld.2.2.2.2.2.2.2.2.2.2.1, step_cell hbr hHeld.2.2.2.2.2.2.2.2.2.2.2.1, step_cell hbr hHeld.2.2.2.2.2.2.2.2.2.2.2.2.1, step_cell hbr hHeld.2.2.2.2.2.2.2.2.2.2.2.2.2.1, step_cell hbr hHeld.2.2.2.2.2.2.2.2.2.2.2.2.2.2.1, step_cell hbr hHeld.2.2.2.2.2.2.2.2.2.2.2.2.2.2.2.1, step_cell hbr hHeld.2.2.2.2.2.2.2.2.2.2.2.2.2.2.2.2.1, step_cell hbr hHeld.2.2.2.2.2.2.2.2.2.2.2.2.2.2.2.2.2.1, step_cell hbr hHeld.2.2.2.2.2.2.2.2.2.2.2.2.2.2.2.2.2.2.1, step_cell hbr hHeld.2.2.2.2.2.2.2.2.2.2.2.2.2.2.2.2.2.2.2.1, step_cell hbr hHeld.2.2.2.2.2.2.2.2.2.2.2.2.2.2.2.2.2.2.2.2⟩)
      clear hK K
      try simp only [pz]
      refine wpAnyH_take (i := 9) (v := ?_) rfl (by kernel_rfl) (by kernel_rfl) (by kernel_rfl) (fun _ _ _ h => h) (Or.inl ⟨by rfl, ?_⟩) (by assumption) ?_
      case refine_2 => (intro w hSw; (try dsimp only at hSw); go_simp; try with_reducible rfl)
      show wpAnyH _ _ _ _ _ _ _ (Act.put _ (some 54) _) _
      simp only [pz]
      refine wpAnyH_done (by kernel_rfl) ?_ _
      have HB9 : Hid (Below wx.heap.size wx w9) := hHeld.1
      clear hHeld hbr
      go_wp2
      refine ⟨⟨k + 1, by omega, by go_num, HOX.out.below HB9.out, fun x hx => ?_⟩, by simp [intOf]; omega⟩
      by_cases hxk : x < k
      · exact F.out x hxk
      · obtain rfl : x = k := by omega
        rw [← HI.out, ← HR.out, ← row_same HTG.out]; exact hr9
theorem mayO (pv lv : Value) (B : List Bool) (C : List LIns) (s slots : Int) (R : List LRow) (w : World) (hp : ProgIs w pv B C) (hl : PlacedIs w lv slots R) :
    Calls Tryz.prog 69 #[pv, targetV s, lv] w fun e w' => e = .returned (.bool (placeMayB B C s slots R)) ∧ Below w.heap.size w w' := by
  cases hc : (refMayB B C && targetB s && !decide (slots < 0) && !decide (12 < slots) && decide (R.length = C.length))
  · rw [show placeMayB B C s slots R = false by unfold placeMayB; rw [hc]; rfl]
    exact mayO_no pv lv B C s slots R w hp hl hc
  · rw [show placeMayB B C s slots R = (List.range C.length).all (fun k => rowB B s slots (C.getD k .zero) (R.getD k .zero)) by unfold placeMayB; rw [hc]; rfl]
    simp only [Bool.and_eq_true, Bool.not_eq_true', decide_eq_true_eq, decide_eq_false_iff_not] at hc
    obtain ⟨⟨⟨⟨hm, ht⟩, hs0⟩, hs1⟩, hlen⟩ := hc
    have hsz : sizesB B C = true := by unfold refMayB at hm; simp only [Bool.and_eq_true] at hm; exact hm.1
    obtain ⟨s1, s2, s3, s4⟩ := sizes_of hsz
    obtain ⟨⟨a0, c0, a1, c1, rfl, hh⟩, l0, l1, hn⟩ := hp
    obtain ⟨b0, o0, b1, o1, rfl, rfl, hH⟩ := hh s1 s3
    obtain ⟨ao, cap, rfl, lR, hr⟩ := hl
    obtain ⟨b2, o2, rfl, hR⟩ := hr (by omega)
    exact mayO_yes b0 o0 c0 b1 o1 c1 b2 o2 cap B C s slots R w hH hR hn hm ht hs0 hs1 hlen
end form
/- What the document's run in places (loanbookref7.Play) shows: the machine in its places on plain numbers, so many steps. -/
namespace form
open Go.RowKit num
attribute [local go_sem ↓] Go.wp_at_zero Go.wp_at_succ
section
variable {w : World} {b0 o0 c0 b1 o1 c1 b2 o2 c2 : Nat} {B : List Bool} {C : List LIns} {R : List LRow} {x y z ns nl : Nat} {sto sto' : Sto} {v : Value} {l : List Int} {st k : Int} {wr w1 : World}
end
theorem field_is {B : List Bool} {ns nl : Nat} {there : Bool} {t : Int} {q : LPlace} (h : fieldP B ns there t q = true) : isB ns nl q = true ∨ (q.kind = 0 ∧ q.n = 0) := by
  unfold fieldP at h
  cases there with
  | true => rw [if_pos rfl] at h; exact Or.inl (reg_is h).1
  | false => simp at h; exact Or.inr h
end form
end Go.Proofs.YtikhedkhgpjaaacGreatDoor
