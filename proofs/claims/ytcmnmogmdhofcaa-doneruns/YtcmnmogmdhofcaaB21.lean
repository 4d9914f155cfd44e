/- What the program's own function on places (place.May) answers. -/
import Derived.Test.YtcmnmogmdhofcaaB20
import Derived.Test.YtcmnmogmdhofcaaB16

namespace Go.Proofs.Ytcmnmogmdhofcaa.form
open Go.RowKit
set_option linter.unusedVariables false
attribute [local go_sem ↓] Go.wp_at_zero Go.wp_at_succ

theorem mayR (v : Value) (B : List Bool) (C : List LIns) (w : World) (h : ProgIs w v B C) :
    Calls Try.prog 18 #[v] w fun e w' => e = .returned (.bool (refMayB B C)) ∧ Below w.heap.size w w' := by
  rw [← may_same]; exact may v B C w h

/-- How many slots there may be. -/
theorem slotsMay (slots : Int) (w : World) : Calls Try.prog 59 #[.int .i64 slots] w fun e w' => e = .returned (.bool (!decide (slots < 0) && !decide (12 < slots))) ∧ w' = w := by
  rcases (show slots < 0 ∨ (¬ slots < 0 ∧ 12 < slots) ∨ (¬ slots < 0 ∧ ¬ 12 < slots) by omega) with h | ⟨h, h1⟩ | ⟨h, h1⟩
  · go_enter Try.func59, Try.ntmps59
    go_wp2
    go_ret
    exact ⟨ret_bool (by first | (simp; done) | (simp; omega)), rfl⟩
  all_goals
    go_enter Try.func59, Try.ntmps59
    go_wp2
    go_ret
    exact ⟨ret_bool (by simp; omega), rfl⟩

set_option maxRecDepth 100000 in
set_option maxHeartbeats 1000000 in
theorem mayO_no (pv lv : Value) (B : List Bool) (C : List LIns) (s slots : Int) (R : List LRow) (w : World) (hp : ProgIs w pv B C) (hl : PlacedIs w lv slots R)
    (hno : (refMayB B C && targetB s && !decide (slots < 0) && !decide (12 < slots) && decide (R.length = C.length)) = false) :
    Calls Try.prog 29 #[pv, targetV s, lv] w fun e w' => e = .returned (.bool false) ∧ Below w.heap.size w w' := by
  have h0 := hp
  obtain ⟨⟨a0, c0, a1, c1, rfl, -⟩, -, lC, -⟩ := h0
  have HP : Hid (ProgIs w (.agg #[.slice a0 B.length c0, .slice a1 C.length c1]) B C) := hp
  obtain ⟨ao, cap, rfl, lR, -⟩ := hl
  clear hp
  unfold targetV
  have HW : Hid (Below w.heap.size w (((w.alloc (.cells #[.slice a0 B.length c0, .slice a1 C.length c1] 31)).alloc (.cells #[.int .i64 s] 52)).alloc (.cells #[.int .i64 slots, .slice ao R.length cap] 55))) := (((Below.refl _ _).alloc (Nat.le_refl _) _).alloc (by simp) _).alloc (by simp; omega) _
  rcases (show refMayB B C = false ∨ (refMayB B C = true ∧ targetB s = false) ∨ (refMayB B C = true ∧ targetB s = true ∧ slots < 0) ∨ (refMayB B C = true ∧ targetB s = true ∧ ¬ slots < 0 ∧ 12 < slots) ∨ (refMayB B C = true ∧ targetB s = true ∧ ¬ slots < 0 ∧ ¬ 12 < slots ∧ ((R.length : Int) != (C.length : Int)) = true) by
    cases hm : refMayB B C
    · exact Or.inl rfl
    · cases ht : targetB s
      · exact Or.inr (Or.inl ⟨rfl, rfl⟩)
      · rw [hm, ht] at hno
        simp at hno
        by_cases x1 : slots < 0
        · exact Or.inr (Or.inr (Or.inl ⟨rfl, rfl, x1⟩))
        · by_cases x2 : 12 < slots
          · exact Or.inr (Or.inr (Or.inr (Or.inl ⟨rfl, rfl, x1, x2⟩)))
          · refine Or.inr (Or.inr (Or.inr (Or.inr ⟨rfl, rfl, x1, x2, ?_⟩)))
            have := hno (by omega) (by omega)
            simp; omega) with e1 | ⟨e1, e2⟩ | ⟨e1, e2, e3⟩ | ⟨e1, e2, e3, e4⟩ | ⟨e1, e2, e3, e4, e5⟩
  case inl =>
    clear hno
    go_enter Try.func29, Try.ntmps29
    go_wp2_with (go_at_call 18; refine (mayR _ B C _ (HP.out.later HW.out)).mono ?_; rintro e w1 ⟨rfl, hb1⟩; rw [e1])
    go_ret
    exact ⟨rfl, step_below hb1 HW.out⟩
  all_goals
    clear hno
    go_enter Try.func29, Try.ntmps29
    go_wp2_with (first | (go_at_call 18; refine (mayR _ B C _ (HP.out.later HW.out)).mono ?_; rintro e w1 ⟨rfl, hb1⟩; rw [e1]; have t0 : w1.cell? ⟨w.heap.size + 1, 0, none⟩ = some (.int .i64 s) := step_cell hb1 (by simp [go_sem]); have t1 : w1.cell? ⟨w.heap.size + 1 + 1, 0, none⟩ = some (.int .i64 slots) := step_cell hb1 (by simp [go_sem]); have t2 : w1.cell? ⟨w.heap.size + 1 + 1, 1, none⟩ = some (.slice ao R.length cap) := step_cell hb1 (by simp [go_sem]); have t3 : w1.cell? ⟨w.heap.size, 1, none⟩ = some (.slice a1 C.length c1) := step_cell hb1 (by simp [go_sem])) | (go_at_call 58; refine (targetMay s _).mono ?_; rintro e w2 ⟨rfl, hb2⟩; rw [e2]; have t1' := step_cell hb2 t1; have t2' := step_cell hb2 t2; have t3' := step_cell hb2 t3) | (go_at_call 59; refine (slotsMay slots _).mono ?_; (first | rw [show (!decide (slots < 0) && !decide (12 < slots)) = false by simp; omega] | rw [show (!decide (slots < 0) && !decide (12 < slots)) = true by simp; omega]); rintro e w' ⟨rfl, hw'⟩; obtain rfl := hw'.symm))
    go_ret
    exact ⟨rfl, step_below hb2 (step_below hb1 HW.out)⟩

/-- The boxes of a call, and the room. -/
structure OM (w : World) (b0 o0 c0 b1 o1 c1 : Nat) (s slots : Int) (b2 o2 c2 nR : Nat) (B : List Bool) (C : List LIns) (rb : Nat) (wr : World) : Prop where
  os : OS6 w b0 o0 c0 b1 o1 c1 s slots b2 o2 c2 nR B C wr
  lt : rb < wr.heap.size
  r0 : wr.cell? ⟨rb, 0, none⟩ = some (.int .i64 0)
  r1 : wr.cell? ⟨rb, 1, none⟩ = some (.int .i64 s)
  r2 : wr.cell? ⟨rb, 2, none⟩ = some (.int .i64 (s / 2))
  r3 : wr.cell? ⟨rb, 3, none⟩ = some (.int .i64 slots)
theorem OM.below {w : World} {b0 o0 c0 b1 o1 c1 : Nat} {s slots : Int} {b2 o2 c2 nR : Nat} {B : List Bool} {C : List LIns} {rb : Nat} {wr w1 : World} (h : OM w b0 o0 c0 b1 o1 c1 s slots b2 o2 c2 nR B C rb wr) (hb : Below wr.heap.size wr w1) : OM w b0 o0 c0 b1 o1 c1 s slots b2 o2 c2 nR B C rb w1 :=
  ⟨h.os.below hb, Nat.lt_of_lt_of_le h.lt hb.size, step_cell hb h.r0, step_cell hb h.r1, step_cell hb h.r2, step_cell hb h.r3⟩

theorem known_ofP {B : List Bool} {C : List LIns} (h : refMayB B C = true) : ∀ k, k < C.length → knownB (C.getD k .zero).op = true := by
  intro k hk
  unfold refMayB at h
  simp only [Bool.and_eq_true] at h
  have := List.all_eq_true.1 h.2 (C.getD k .zero) (by simp [List.getD, hk])
  unfold insB at this
  simp only [Bool.and_eq_true] at this
  exact this.1.1.1.1.1.1

set_option maxRecDepth 100000 in
set_option maxHeartbeats 8000000 in
theorem mayO_yes (b0 o0 c0 b1 o1 c1 b2 o2 c2 : Nat) (B : List Bool) (C : List LIns) (s slots : Int) (R : List LRow) (w : World) (h : Held w b0 o0 b1 o1 B C) (hR : RowsHeld w b2 o2 R)
    (hn : ∀ i, i < C.length → 0 ≤ (C.getD i .zero).n ∧ (C.getD i .zero).n < 4294967296) (hm : refMayB B C = true) (ht : targetB s = true) (hs0 : ¬ slots < 0) (hs1 : ¬ 12 < slots) (hlen : R.length = C.length) :
    Calls Try.prog 29 #[progV b0 o0 B.length c0 b1 o1 C.length c1, targetV s, .agg #[.int .i64 slots, .slice (some ⟨b2, o2, none⟩) R.length c2]] w fun e w' =>
      e = .returned (.bool ((List.range C.length).all (fun k => rowB B s slots (C.getD k .zero) (R.getD k .zero)))) ∧ Below w.heap.size w w' := by
  have hsz : sizesB B C = true := by unfold refMayB at hm; simp only [Bool.and_eq_true] at hm; exact hm.1
  obtain ⟨s1, s2, s3, s4⟩ := sizes_of hsz
  have HOK : Hid (∀ k, k < C.length → InsOk B.length C.length (C.getD k .zero)) := all_insOk hm hn
  have HKN0 : Hid (∀ k, k < C.length → knownB (C.getD k .zero).op = true) := known_ofP hm
  have HP : Hid (ProgIs w (.agg #[.slice (some ⟨b0, o0, none⟩) B.length c0, .slice (some ⟨b1, o1, none⟩) C.length c1]) B C) := ⟨⟨_, _, _, _, rfl, fun _ _ => ⟨b0, o0, b1, o1, rfl, rfl, h⟩⟩, by omega, by omega, hn⟩
  have HLEN : Hid (R.length = C.length) := hlen
  have HTG : Hid (targetB s = true) := ht
  have HS4 : Hid (4 ≤ s ∧ s ≤ 16) := by unfold targetB at ht; simp at ht; show 4 ≤ s ∧ s ≤ 16; omega
  have e5 : ((R.length : Int) != (C.length : Int)) = false := by simp [hlen]
  have z4 : (R.length : Int) ≤ 40 := by omega
  have HH : Hid (Held w b0 o0 b1 o1 B C) := h
  have HRR : Hid (RowsHeld w b2 o2 R) := hR
  clear hsz hn hlen h hR
  unfold progV targetV
  have HW : Hid (Below w.heap.size w (((w.alloc (.cells #[.slice (some ⟨b0, o0, none⟩) B.length c0, .slice (some ⟨b1, o1, none⟩) C.length c1] 31)).alloc (.cells #[.int .i64 s] 52)).alloc (.cells #[.int .i64 slots, .slice (some ⟨b2, o2, none⟩) R.length c2] 55))) := (((Below.refl _ _).alloc (Nat.le_refl _) _).alloc (by simp) _).alloc (by simp; omega) _
  go_enter Try.func29, Try.ntmps29
  go_wp2_with (first
    | (go_at_call 18; refine (mayR _ B C _ (HP.out.later HW.out)).mono ?_; rintro e w1 ⟨rfl, hb1⟩; rw [hm]; have t0 : w1.cell? ⟨w.heap.size + 1, 0, none⟩ = some (.int .i64 s) := step_cell hb1 (by simp [go_sem]); have t1 : w1.cell? ⟨w.heap.size + 1 + 1, 0, none⟩ = some (.int .i64 slots) := step_cell hb1 (by simp [go_sem]); have t2 : w1.cell? ⟨w.heap.size + 1 + 1, 1, none⟩ = some (.slice (some ⟨b2, o2, none⟩) R.length c2) := step_cell hb1 (by simp [go_sem]); have t3 : w1.cell? ⟨w.heap.size, 1, none⟩ = some (.slice (some ⟨b1, o1, none⟩) C.length c1) := step_cell hb1 (by simp [go_sem]); have t4 : w1.cell? ⟨w.heap.size, 0, none⟩ = some (.slice (some ⟨b0, o0, none⟩) B.length c0) := step_cell hb1 (by simp [go_sem]))
    | (go_at_call 58; refine (targetMay s _).mono ?_; rintro e w2 ⟨rfl, hb2⟩; rw [ht]; have t0' := step_cell hb2 t0; have t1' := step_cell hb2 t1; have t2' := step_cell hb2 t2; have t3' := step_cell hb2 t3)
    | (go_at_call 59; refine (slotsMay slots _).mono ?_; rw [show (!decide (slots < 0) && !decide (12 < slots)) = true by simp; omega]; rintro e w' ⟨rfl, hw'⟩; obtain rfl := hw'.symm)
    | (go_at_call 60; refine (roomOf s slots HS4.out.1 HS4.out.2 _).mono ?_; rintro e w3 ⟨rfl, hb3⟩; unfold roomV; have hzz : w.heap.size + 3 ≤ w3.heap.size := (Nat.le_trans (by have := hb1.size; simp at this; omega) (Nat.le_trans hb2.size hb3.size)); have v2 := step_cell hb3 t2'; have u2 : w.heap.size + 1 + 1 < w3.heap.size := (by omega)))
  have HO : Hid (OM w b0 o0 c0 b1 o1 c1 s slots b2 o2 c2 R.length B C w3.heap.size (w3.alloc (.cells #[.int .i64 0, .int .i64 s, .int .i64 (s / 2), .int .i64 slots] 99))) := by
    have g1 : Below w3.heap.size w3 (w3.alloc (.cells #[.int .i64 0, .int .i64 s, .int .i64 (s / 2), .int .i64 slots] 99)) := (Below.refl _ _).alloc (Nat.le_refl _) _
    have hos : OS6 w b0 o0 c0 b1 o1 c1 s slots b2 o2 c2 R.length B C w3 := ⟨step_below hb3 (step_below hb2 (step_below hb1 HW.out)), hzz, step_cell hb3 (step_cell hb2 t4), step_cell hb3 t3', step_cell hb3 t0', step_cell hb3 t1', v2⟩
    exact ⟨hos.below g1, by simp, by simp [go_sem], by simp [go_sem], by simp [go_sem], by simp [go_sem]⟩
  obtain ⟨rb, hrb⟩ : ∃ rb, rb = w3.heap.size := ⟨_, rfl⟩
  rw [← hrb]
  rw [← hrb] at HO
  clear t0 t1 t2 t3 t4 t0' t1' t2' t3' hb1 hb2 hb3 hzz v2 u2
  go_loopw [40] (fun t wr => ∃ k : Nat, k ≤ C.length ∧ t = .int .i64 k ∧ OM w b0 o0 c0 b1 o1 c1 s slots b2 o2 c2 R.length B C rb wr ∧ (∀ j, j < k → rowB B s slots (C.getD j .zero) (R.getD j .zero) = true)) (fun t _ => C.length - (intOf t).toNat)
  case atStart => exact ⟨0, by omega, rfl, HO.out, fun j hj => absurd hj (by omega)⟩
  clear HO hrb
  case round =>
    obtain ⟨k, hk, rfl, hos, hall⟩ := hrel
    have F : Hid (∀ j, j < k → rowB B s slots (C.getD j .zero) (R.getD j .zero) = true) := hall
    have HO : Hid (OM w b0 o0 c0 b1 o1 c1 s slots b2 o2 c2 R.length B C rb wr) := hos
    clear hall
    by_cases hlt : k < C.length
    case neg =>
      have hge : ¬ (k : Int) < (R.length : Int) := by have := HLEN.out; omega
      clear hos
      go_wp2
      go_ret
      refine ⟨ret_bool ?_, HO.out.os.bel⟩
      rw [eq_comm, List.all_eq_true]
      intro x hx
      exact F.out x (by simp at hx; omega)
    have hltR : k < R.length := by have := HLEN.out; omega
    have y0 : (0 : Int) ≤ (k : Int) := by omega
    have y1 : (k : Int) < (R.length : Int) := by omega
    have y2 : (k : Int) < (C.length : Int) := by omega
    obtain ⟨f0, f1, f2, f3, f4, f5, vb, va, f6, f7, mb, ma⟩ := (HRR.out.later hos.os.bel).rows k hltR
    have lb2 := (HRR.out.later hos.os.bel).lt
    obtain ⟨r, hr⟩ : ∃ r, r = R.getD k .zero := ⟨_, rfl⟩
    rw [← hr] at f0 f1 f2 f3 f4 f5 mb ma
    have HR : Hid (r = R.getD k .zero) := hr
    obtain ⟨abo, abc, hvb, abl, abh⟩ := mb
    obtain ⟨aao, aac, hva, aal, aah⟩ := ma
    have HMB0 : Hid (MovesIs wr vb r.before) := ⟨abo, abc, hvb, abl, abh⟩
    have HMA0 : Hid (MovesIs wr va r.after) := ⟨aao, aac, hva, aal, aah⟩
    subst hvb
    subst hva
    clear hr hos abh aah
    go_upto_region 7 with fail
    obtain ⟨wx, hwx⟩ : ∃ wx, wx = wr.alloc (.cells #[.int .i64 r.dest.kind, .int .i64 r.dest.n, .int .i64 r.a.kind, .int .i64 r.a.n, .int .i64 r.b.kind, .int .i64 r.b.n, .slice abo r.before.length abc, .slice aao r.after.length aac] 103) := ⟨_, rfl⟩
    have HG : Hid (Below wr.heap.size wr wx) := by rw [hwx]; exact (Below.refl _ _).alloc (Nat.le_refl _) _
    have hox := HO.out.below HG.out
    have HHX : Hid (Held wx b0 o0 b1 o1 B C) := HH.out.later hox.os.bel
    have HMB : Hid (MovesIs wx (.slice abo r.before.length abc) r.before) := HMB0.out.later HG.out
    have HMA : Hid (MovesIs wx (.slice aao r.after.length aac) r.after) := HMA0.out.later HG.out
    obtain ⟨x6, x7, x8, x9, x10, x11⟩ := HHX.out.code k hlt
    obtain ⟨i, hi⟩ : ∃ i, i = C.getD k .zero := ⟨_, rfl⟩
    rw [← hi] at x6 x7 x8 x9 x10 x11
    have HI : Hid (i = C.getD k .zero) := hi
    have HKN : Hid (knownB i.op = true) := by have := HKN0.out k hlt; rw [← hi] at this; exact this
    have HIF : Hid (∀ j, j < 3 → tjF i j = true → 0 ≤ fjF i j ∧ fjF i j < B.length) := by
      have := HOK.out k hlt
      rw [← hi] at this
      exact fun j hj ht => fj_bd this hj ht
    have x0 := hox.r0
    have x1 := hox.r1
    have x2 := hox.r2
    have x3 := hox.r3
    have x4 := hox.os.p0
    have x5 := hox.os.p1
    have x12 : wx.cell? ⟨wr.heap.size, 0, none⟩ = some (.int .i64 r.dest.kind) := by rw [hwx]; simp [go_sem]
    have x13 : wx.cell? ⟨wr.heap.size, 1, none⟩ = some (.int .i64 r.dest.n) := by rw [hwx]; simp [go_sem]
    have x14 : wx.cell? ⟨wr.heap.size, 2, none⟩ = some (.int .i64 r.a.kind) := by rw [hwx]; simp [go_sem]
    have x15 : wx.cell? ⟨wr.heap.size, 3, none⟩ = some (.int .i64 r.a.n) := by rw [hwx]; simp [go_sem]
    have x16 : wx.cell? ⟨wr.heap.size, 4, none⟩ = some (.int .i64 r.b.kind) := by rw [hwx]; simp [go_sem]
    have x17 : wx.cell? ⟨wr.heap.size, 5, none⟩ = some (.int .i64 r.b.n) := by rw [hwx]; simp [go_sem]
    have x18 : wx.cell? ⟨wr.heap.size, 6, none⟩ = some (.slice abo r.before.length abc) := by rw [hwx]; simp [go_sem]
    have x19 : wx.cell? ⟨wr.heap.size, 7, none⟩ = some (.slice aao r.after.length aac) := by rw [hwx]; simp [go_sem]
    rw [← hwx]
    obtain ⟨qb, hqb⟩ : ∃ qb, qb = wr.heap.size := ⟨_, rfl⟩
    rw [← hqb] at x12 x13 x14 x15 x16 x17 x18 x19
    rw [← hqb]
    have HOX : Hid (OM w b0 o0 c0 b1 o1 c1 s slots b2 o2 c2 R.length B C rb wx) := hox
    clear f0 f1 f2 f3 f4 f5 f6 f7 lb2 hox hwx hqb hi
    cases hr9 : rowO B s (s / 2) slots i r
    · skip
      refine wp_region_held_drew (S := (fun w' => Below wx.heap.size wx w' ∧ w'.cell? ⟨rb, 0, none⟩ = some (.int .i64 0) ∧ w'.cell? ⟨rb, 1, none⟩ = some (.int .i64 s) ∧ w'.cell? ⟨rb, 2, none⟩ = some (.int .i64 (s / 2)) ∧ w'.cell? ⟨rb, 3, none⟩ = some (.int .i64 slots) ∧ w'.cell? ⟨w.heap.size, 0, none⟩ = some (.slice (some ⟨b0, o0, none⟩) B.length c0) ∧ w'.cell? ⟨w.heap.size, 1, none⟩ = some (.slice (some ⟨b1, o1, none⟩) C.length c1) ∧ w'.cell? ⟨b1, o1 + k * 6, none⟩ = some (.int .i64 i.op) ∧ w'.cell? ⟨b1, o1 + k * 6 + 1, none⟩ = some (.int .i64 i.dest) ∧ w'.cell? ⟨b1, o1 + k * 6 + 2, none⟩ = some (.int .i64 i.a) ∧ w'.cell? ⟨b1, o1 + k * 6 + 3, none⟩ = some (.int .i64 i.b) ∧ w'.cell? ⟨b1, o1 + k * 6 + 4, none⟩ = some (.int .i64 i.c) ∧ w'.cell? ⟨b1, o1 + k * 6 + 5, none⟩ = some (.int .u32 i.n) ∧ w'.cell? ⟨qb, 0, none⟩ = some (.int .i64 r.dest.kind) ∧ w'.cell? ⟨qb, 1, none⟩ = some (.int .i64 r.dest.n) ∧ w'.cell? ⟨qb, 2, none⟩ = some (.int .i64 r.a.kind) ∧ w'.cell? ⟨qb, 3, none⟩ = some (.int .i64 r.a.n) ∧ w'.cell? ⟨qb, 4, none⟩ = some (.int .i64 r.b.kind) ∧ w'.cell? ⟨qb, 5, none⟩ = some (.int .i64 r.b.n) ∧ w'.cell? ⟨qb, 6, none⟩ = some (.slice abo r.before.length abc) ∧ w'.cell? ⟨qb, 7, none⟩ = some (.slice aao r.after.length aac))) (by rfl) ?_ (fun hHeld => ?_)
      · (exact ⟨(Below.refl _ _).drew, step_cell (Below.refl _ _).drew x0, step_cell (Below.refl _ _).drew x1, step_cell (Below.refl _ _).drew x2, step_cell (Below.refl _ _).drew x3, step_cell (Below.refl _ _).drew x4, step_cell (Below.refl _ _).drew x5, step_cell (Below.refl _ _).drew x6, step_cell (Below.refl _ _).drew x7, step_cell (Below.refl _ _).drew x8, step_cell (Below.refl _ _).drew x9, step_cell (Below.refl _ _).drew x10, step_cell (Below.refl _ _).drew x11, step_cell (Below.refl _ _).drew x12, step_cell (Below.refl _ _).drew x13, step_cell (Below.refl _ _).drew x14, step_cell (Below.refl _ _).drew x15, step_cell (Below.refl _ _).drew x16, step_cell (Below.refl _ _).drew x17, step_cell (Below.refl _ _).drew x18, step_cell (Below.refl _ _).drew x19⟩)
      refine wpAnyH_take (i := 0) (v := ?_) rfl (by kernel_rfl) (by kernel_rfl) (by kernel_rfl) (fun _ _ _ h => h) (Or.inl ⟨by rfl, ?_⟩) (by assumption) ?_
      case refine_2 => (intro w hSw; (try dsimp only at hSw); go_simp; first | done | (with_reducible rfl))
      show wpAnyH _ _ _ _ _ _ _ (Act.put _ (some 45) _) _
      simp only [Act.put, List.setIfInBounds_toArray, List.set_cons_zero, List.set_cons_succ]
      refine wpAnyH_take (i := 1) (v := ?_) rfl (by kernel_rfl) (by kernel_rfl) (by kernel_rfl) (fun _ _ _ h => h) (Or.inl ⟨by rfl, ?_⟩) (by assumption) ?_
      case refine_2 => (intro w hSw; (try dsimp only at hSw); go_simp; first | done | (with_reducible rfl))
      show wpAnyH _ _ _ _ _ _ _ (Act.put _ (some 46) _) _
      simp only [Act.put, List.setIfInBounds_toArray, List.set_cons_zero, List.set_cons_succ]
      refine wpAnyH_take (i := 2) (v := ?_) rfl (by kernel_rfl) (by kernel_rfl) (by kernel_rfl) (fun _ _ _ h => h) (Or.inl ⟨by rfl, ?_⟩) (by assumption) ?_
      case refine_2 => (intro w hSw; (try dsimp only at hSw); go_simp; first | done | (with_reducible rfl))
      show wpAnyH _ _ _ _ _ _ _ (Act.put _ (some 47) _) _
      simp only [Act.put, List.setIfInBounds_toArray, List.set_cons_zero, List.set_cons_succ]
      refine wpAnyH_take (i := 3) (v := ?_) rfl (by kernel_rfl) (by kernel_rfl) (by kernel_rfl) (fun _ _ _ h => h) (Or.inl ⟨by rfl, ?_⟩) (by assumption) ?_
      case refine_2 => (intro w hSw; (try dsimp only at hSw); go_simp; first | done | (with_reducible rfl))
      show wpAnyH _ _ _ _ _ _ _ (Act.put _ (some 48) _) _
      simp only [Act.put, List.setIfInBounds_toArray, List.set_cons_zero, List.set_cons_succ]
      refine wpAnyH_take (i := 4) (v := ?_) rfl (by kernel_rfl) (by kernel_rfl) (by kernel_rfl) (fun _ _ _ h => h) (Or.inl ⟨by rfl, ?_⟩) (by assumption) ?_
      case refine_2 => (intro w hSw; (try dsimp only at hSw); go_simp; first | done | (with_reducible rfl))
      show wpAnyH _ _ _ _ _ _ _ (Act.put _ (some 49) _) _
      simp only [Act.put, List.setIfInBounds_toArray, List.set_cons_zero, List.set_cons_succ]
      refine wpAnyH_take (i := 5) (v := ?_) rfl (by kernel_rfl) (by kernel_rfl) (by kernel_rfl) (fun _ _ _ h => h) (Or.inl ⟨by rfl, ?_⟩) (by assumption) ?_
      case refine_2 => (intro w hSw; (try dsimp only at hSw); go_simp; first | done | (with_reducible rfl))
      show wpAnyH _ _ _ _ _ _ _ (Act.put _ (some 50) _) _
      simp only [Act.put, List.setIfInBounds_toArray, List.set_cons_zero, List.set_cons_succ]
      refine wpAnyH_take (i := 6) (v := ?_) rfl (by kernel_rfl) (by kernel_rfl) (by kernel_rfl) (fun _ _ _ h => h) (Or.inl ⟨by rfl, ?_⟩) (by assumption) ?_
      case refine_2 => (intro w hSw; (try dsimp only at hSw); go_simp; first | done | (with_reducible rfl))
      show wpAnyH _ _ _ _ _ _ _ (Act.put _ (some 51) _) _
      simp only [Act.put, List.setIfInBounds_toArray, List.set_cons_zero, List.set_cons_succ]
      refine wpAnyH_take (i := 7) (v := ?_) rfl (by kernel_rfl) (by kernel_rfl) (by kernel_rfl) (fun _ _ _ h => h) (Or.inl ⟨by rfl, ?_⟩) (by assumption) ?_
      case refine_2 => (intro w hSw; (try dsimp only at hSw); go_simp; first | done | (with_reducible rfl))
      show wpAnyH _ _ _ _ _ _ _ (Act.put _ (some 52) _) _
      simp only [Act.put, List.setIfInBounds_toArray, List.set_cons_zero, List.set_cons_succ]
      refine wpAnyH_ready (rs := [8]) (by kernel_rfl) (by simp) ?_
      refine (AllReadyH.cons rfl (fun K hK => ?_) AllReadyH.nil)
      go_simp
      go_at_call 61
      refine (rowMay b0 o0 c0 b1 o1 c1 B C s (s / 2) slots i r abo abc aao aac _ s2 (HHX.out.later hHeld.1) HKN.out HIF.out (HMB.out.later hHeld.1) (HMA.out.later hHeld.1)).mono ?_
      rw [hr9]
      rintro e w9 ⟨rfl, hbr⟩
      go_wp2_with fail
      refine hK.out _ _ ?_ (fun hHeld => ?_)
      · (exact ⟨step_below hbr hHeld.1, step_cell hbr hHeld.2.1, step_cell hbr hHeld.2.2.1, step_cell hbr hHeld.2.2.2.1, step_cell hbr hHeld.2.2.2.2.1, step_cell hbr hHeld.2.2.2.2.2.1, step_cell hbr hHeld.2.2.2.2.2.2.1, step_cell hbr hHeld.2.2.2.2.2.2.2.1, step_cell hbr hHeld.2.2.2.2.2.2.2.2.1, step_cell hbr hHeld.2.2.2.2.2.2.2.2.2.1, step_cell hbr hHeld.2.2.2.2.2.2.2.2.2.2.1, step_cell hbr hHeld.2.2.2.2.2.2.2.2.2.2.2.1, step_cell hbr hHeld.2.2.2.2.2.2.2.2.2.2.2.2.1, step_cell hbr hHeld.2.2.2.2.2.2.2.2.2.2.2.2.2.1, step_cell hbr hHeld.2.2.2.2.2.2.2.2.2.2.2.2.2.2.1, step_cell hbr hHeld.2.2.2.2.2.2.2.2.2.2.2.2.2.2.2.1, step_cell hbr hHeld.2.2.2.2.2.2.2.2.2.2.2.2.2.2.2.2.1, step_cell hbr hHeld.2.2.2.2.2.2.2.2.2.2.2.2.2.2.2.2.2.1, step_cell hbr hHeld.2.2.2.2.2.2.2.2.2.2.2.2.2.2.2.2.2.2.1, step_cell hbr hHeld.2.2.2.2.2.2.2.2.2.2.2.2.2.2.2.2.2.2.2.1, step_cell hbr hHeld.2.2.2.2.2.2.2.2.2.2.2.2.2.2.2.2.2.2.2.2⟩)
      clear hK K
      try simp only [Act.put, List.setIfInBounds_toArray, List.set_cons_zero, List.set_cons_succ]
      refine wpAnyH_take (i := 9) (v := ?_) rfl (by kernel_rfl) (by kernel_rfl) (by kernel_rfl) (fun _ _ _ h => h) (Or.inl ⟨by rfl, ?_⟩) (by assumption) ?_
      case refine_2 => (intro w hSw; (try dsimp only at hSw); go_simp; first | done | (with_reducible rfl))
      show wpAnyH _ _ _ _ _ _ _ (Act.put _ (some 54) _) _
      simp only [Act.put, List.setIfInBounds_toArray, List.set_cons_zero, List.set_cons_succ]
      refine wpAnyH_done (by kernel_rfl) ?_ _
      have HB9 : Hid (Below wx.heap.size wx w9) := hHeld.1
      clear hHeld hbr
      go_wp2
      go_ret
      refine ⟨ret_bool (all_no hlt ?_), step_below HB9.out HOX.out.os.bel⟩
      rw [← HI.out, ← HR.out, ← row_same HTG.out]; exact hr9
    · skip
      refine wp_region_held_drew (S := (fun w' => Below wx.heap.size wx w' ∧ w'.cell? ⟨rb, 0, none⟩ = some (.int .i64 0) ∧ w'.cell? ⟨rb, 1, none⟩ = some (.int .i64 s) ∧ w'.cell? ⟨rb, 2, none⟩ = some (.int .i64 (s / 2)) ∧ w'.cell? ⟨rb, 3, none⟩ = some (.int .i64 slots) ∧ w'.cell? ⟨w.heap.size, 0, none⟩ = some (.slice (some ⟨b0, o0, none⟩) B.length c0) ∧ w'.cell? ⟨w.heap.size, 1, none⟩ = some (.slice (some ⟨b1, o1, none⟩) C.length c1) ∧ w'.cell? ⟨b1, o1 + k * 6, none⟩ = some (.int .i64 i.op) ∧ w'.cell? ⟨b1, o1 + k * 6 + 1, none⟩ = some (.int .i64 i.dest) ∧ w'.cell? ⟨b1, o1 + k * 6 + 2, none⟩ = some (.int .i64 i.a) ∧ w'.cell? ⟨b1, o1 + k * 6 + 3, none⟩ = some (.int .i64 i.b) ∧ w'.cell? ⟨b1, o1 + k * 6 + 4, none⟩ = some (.int .i64 i.c) ∧ w'.cell? ⟨b1, o1 + k * 6 + 5, none⟩ = some (.int .u32 i.n) ∧ w'.cell? ⟨qb, 0, none⟩ = some (.int .i64 r.dest.kind) ∧ w'.cell? ⟨qb, 1, none⟩ = some (.int .i64 r.dest.n) ∧ w'.cell? ⟨qb, 2, none⟩ = some (.int .i64 r.a.kind) ∧ w'.cell? ⟨qb, 3, none⟩ = some (.int .i64 r.a.n) ∧ w'.cell? ⟨qb, 4, none⟩ = some (.int .i64 r.b.kind) ∧ w'.cell? ⟨qb, 5, none⟩ = some (.int .i64 r.b.n) ∧ w'.cell? ⟨qb, 6, none⟩ = some (.slice abo r.before.length abc) ∧ w'.cell? ⟨qb, 7, none⟩ = some (.slice aao r.after.length aac))) (by rfl) ?_ (fun hHeld => ?_)
      · (exact ⟨(Below.refl _ _).drew, step_cell (Below.refl _ _).drew x0, step_cell (Below.refl _ _).drew x1, step_cell (Below.refl _ _).drew x2, step_cell (Below.refl _ _).drew x3, step_cell (Below.refl _ _).drew x4, step_cell (Below.refl _ _).drew x5, step_cell (Below.refl _ _).drew x6, step_cell (Below.refl _ _).drew x7, step_cell (Below.refl _ _).drew x8, step_cell (Below.refl _ _).drew x9, step_cell (Below.refl _ _).drew x10, step_cell (Below.refl _ _).drew x11, step_cell (Below.refl _ _).drew x12, step_cell (Below.refl _ _).drew x13, step_cell (Below.refl _ _).drew x14, step_cell (Below.refl _ _).drew x15, step_cell (Below.refl _ _).drew x16, step_cell (Below.refl _ _).drew x17, step_cell (Below.refl _ _).drew x18, step_cell (Below.refl _ _).drew x19⟩)
      refine wpAnyH_take (i := 0) (v := ?_) rfl (by kernel_rfl) (by kernel_rfl) (by kernel_rfl) (fun _ _ _ h => h) (Or.inl ⟨by rfl, ?_⟩) (by assumption) ?_
      case refine_2 => (intro w hSw; (try dsimp only at hSw); go_simp; first | done | (with_reducible rfl))
      show wpAnyH _ _ _ _ _ _ _ (Act.put _ (some 45) _) _
      simp only [Act.put, List.setIfInBounds_toArray, List.set_cons_zero, List.set_cons_succ]
      refine wpAnyH_take (i := 1) (v := ?_) rfl (by kernel_rfl) (by kernel_rfl) (by kernel_rfl) (fun _ _ _ h => h) (Or.inl ⟨by rfl, ?_⟩) (by assumption) ?_
      case refine_2 => (intro w hSw; (try dsimp only at hSw); go_simp; first | done | (with_reducible rfl))
      show wpAnyH _ _ _ _ _ _ _ (Act.put _ (some 46) _) _
      simp only [Act.put, List.setIfInBounds_toArray, List.set_cons_zero, List.set_cons_succ]
      refine wpAnyH_take (i := 2) (v := ?_) rfl (by kernel_rfl) (by kernel_rfl) (by kernel_rfl) (fun _ _ _ h => h) (Or.inl ⟨by rfl, ?_⟩) (by assumption) ?_
      case refine_2 => (intro w hSw; (try dsimp only at hSw); go_simp; first | done | (with_reducible rfl))
      show wpAnyH _ _ _ _ _ _ _ (Act.put _ (some 47) _) _
      simp only [Act.put, List.setIfInBounds_toArray, List.set_cons_zero, List.set_cons_succ]
      refine wpAnyH_take (i := 3) (v := ?_) rfl (by kernel_rfl) (by kernel_rfl) (by kernel_rfl) (fun _ _ _ h => h) (Or.inl ⟨by rfl, ?_⟩) (by assumption) ?_
      case refine_2 => (intro w hSw; (try dsimp only at hSw); go_simp; first | done | (with_reducible rfl))
      show wpAnyH _ _ _ _ _ _ _ (Act.put _ (some 48) _) _
      simp only [Act.put, List.setIfInBounds_toArray, List.set_cons_zero, List.set_cons_succ]
      refine wpAnyH_take (i := 4) (v := ?_) rfl (by kernel_rfl) (by kernel_rfl) (by kernel_rfl) (fun _ _ _ h => h) (Or.inl ⟨by rfl, ?_⟩) (by assumption) ?_
      case refine_2 => (intro w hSw; (try dsimp only at hSw); go_simp; first | done | (with_reducible rfl))
      show wpAnyH _ _ _ _ _ _ _ (Act.put _ (some 49) _) _
      simp only [Act.put, List.setIfInBounds_toArray, List.set_cons_zero, List.set_cons_succ]
      refine wpAnyH_take (i := 5) (v := ?_) rfl (by kernel_rfl) (by kernel_rfl) (by kernel_rfl) (fun _ _ _ h => h) (Or.inl ⟨by rfl, ?_⟩) (by assumption) ?_
      case refine_2 => (intro w hSw; (try dsimp only at hSw); go_simp; first | done | (with_reducible rfl))
      show wpAnyH _ _ _ _ _ _ _ (Act.put _ (some 50) _) _
      simp only [Act.put, List.setIfInBounds_toArray, List.set_cons_zero, List.set_cons_succ]
      refine wpAnyH_take (i := 6) (v := ?_) rfl (by kernel_rfl) (by kernel_rfl) (by kernel_rfl) (fun _ _ _ h => h) (Or.inl ⟨by rfl, ?_⟩) (by assumption) ?_
      case refine_2 => (intro w hSw; (try dsimp only at hSw); go_simp; first | done | (with_reducible rfl))
      show wpAnyH _ _ _ _ _ _ _ (Act.put _ (some 51) _) _
      simp only [Act.put, List.setIfInBounds_toArray, List.set_cons_zero, List.set_cons_succ]
      refine wpAnyH_take (i := 7) (v := ?_) rfl (by kernel_rfl) (by kernel_rfl) (by kernel_rfl) (fun _ _ _ h => h) (Or.inl ⟨by rfl, ?_⟩) (by assumption) ?_
      case refine_2 => (intro w hSw; (try dsimp only at hSw); go_simp; first | done | (with_reducible rfl))
      show wpAnyH _ _ _ _ _ _ _ (Act.put _ (some 52) _) _
      simp only [Act.put, List.setIfInBounds_toArray, List.set_cons_zero, List.set_cons_succ]
      refine wpAnyH_ready (rs := [8]) (by kernel_rfl) (by simp) ?_
      refine (AllReadyH.cons rfl (fun K hK => ?_) AllReadyH.nil)
      go_simp
      go_at_call 61
      refine (rowMay b0 o0 c0 b1 o1 c1 B C s (s / 2) slots i r abo abc aao aac _ s2 (HHX.out.later hHeld.1) HKN.out HIF.out (HMB.out.later hHeld.1) (HMA.out.later hHeld.1)).mono ?_
      rw [hr9]
      rintro e w9 ⟨rfl, hbr⟩
      go_wp2_with fail
      refine hK.out _ _ ?_ (fun hHeld => ?_)
      · (exact ⟨step_below hbr hHeld.1, step_cell hbr hHeld.2.1, step_cell hbr hHeld.2.2.1, step_cell hbr hHeld.2.2.2.1, step_cell hbr hHeld.2.2.2.2.1, step_cell hbr hHeld.2.2.2.2.2.1, step_cell hbr hHeld.2.2.2.2.2.2.1, step_cell hbr hHeld.2.2.2.2.2.2.2.1, step_cell hbr hHeld.2.2.2.2.2.2.2.2.1, step_cell hbr hHeld.2.2.2.2.2.2.2.2.2.1, step_cell hbr hHeld.2.2.2.2.2.2.2.2.2.2.1, step_cell hbr hHeld.2.2.2.2.2.2.2.2.2.2.2.1, step_cell hbr hHeld.2.2.2.2.2.2.2.2.2.2.2.2.1, step_cell hbr hHeld.2.2.2.2.2.2.2.2.2.2.2.2.2.1, step_cell hbr hHeld.2.2.2.2.2.2.2.2.2.2.2.2.2.2.1, step_cell hbr hHeld.2.2.2.2.2.2.2.2.2.2.2.2.2.2.2.1, step_cell hbr hHeld.2.2.2.2.2.2.2.2.2.2.2.2.2.2.2.2.1, step_cell hbr hHeld.2.2.2.2.2.2.2.2.2.2.2.2.2.2.2.2.2.1, step_cell hbr hHeld.2.2.2.2.2.2.2.2.2.2.2.2.2.2.2.2.2.2.1, step_cell hbr hHeld.2.2.2.2.2.2.2.2.2.2.2.2.2.2.2.2.2.2.2.1, step_cell hbr hHeld.2.2.2.2.2.2.2.2.2.2.2.2.2.2.2.2.2.2.2.2⟩)
      clear hK K
      try simp only [Act.put, List.setIfInBounds_toArray, List.set_cons_zero, List.set_cons_succ]
      refine wpAnyH_take (i := 9) (v := ?_) rfl (by kernel_rfl) (by kernel_rfl) (by kernel_rfl) (fun _ _ _ h => h) (Or.inl ⟨by rfl, ?_⟩) (by assumption) ?_
      case refine_2 => (intro w hSw; (try dsimp only at hSw); go_simp; first | done | (with_reducible rfl))
      show wpAnyH _ _ _ _ _ _ _ (Act.put _ (some 54) _) _
      simp only [Act.put, List.setIfInBounds_toArray, List.set_cons_zero, List.set_cons_succ]
      refine wpAnyH_done (by kernel_rfl) ?_ _
      have HB9 : Hid (Below wx.heap.size wx w9) := hHeld.1
      clear hHeld hbr
      go_wp2
      refine ⟨⟨k + 1, by omega, by go_num, HOX.out.below HB9.out, fun x hx => ?_⟩, by simp [intOf]; omega⟩
      by_cases hxk : x < k
      · exact F.out x hxk
      · obtain rfl : x = k := by omega
        rw [← HI.out, ← HR.out, ← row_same HTG.out]; exact hr9

/-- place.May, whatever came in. -/
theorem mayO (pv lv : Value) (B : List Bool) (C : List LIns) (s slots : Int) (R : List LRow) (w : World) (hp : ProgIs w pv B C) (hl : PlacedIs w lv slots R) :
    Calls Try.prog 29 #[pv, targetV s, lv] w fun e w' => e = .returned (.bool (placeMayB B C s slots R)) ∧ Below w.heap.size w w' := by
  cases hc : (refMayB B C && targetB s && !decide (slots < 0) && !decide (12 < slots) && decide (R.length = C.length))
  · rw [show placeMayB B C s slots R = false by unfold placeMayB; rw [hc]; rfl]
    exact mayO_no pv lv B C s slots R w hp hl hc
  · rw [show placeMayB B C s slots R = (List.range C.length).all (fun k => rowB B s slots (C.getD k .zero) (R.getD k .zero)) by unfold placeMayB; rw [hc]; rfl]
    simp only [Bool.and_eq_true, Bool.not_eq_true', decide_eq_true_eq, decide_eq_false_iff_not] at hc
    obtain ⟨⟨⟨⟨hm, ht⟩, hs0⟩, hs1⟩, hlen⟩ := hc
    have hsz : sizesB B C = true := by unfold refMayB at hm; simp only [Bool.and_eq_true] at hm; exact hm.1
    obtain ⟨s1, s2, s3, s4⟩ := sizes_of hsz
    obtain ⟨⟨a0, c0, a1, c1, rfl, hh⟩, l0, l1, hn⟩ := hp
    obtain ⟨b0, o0, b1, o1, rfl, rfl, hH⟩ := hh s1 s3
    obtain ⟨ao, cap, rfl, lR, hr⟩ := hl
    obtain ⟨b2, o2, rfl, hR⟩ := hr (by omega)
    exact mayO_yes b0 o0 c0 b1 o1 c1 b2 o2 cap B C s slots R w hH hR hn hm ht hs0 hs1 hlen

end Go.Proofs.Ytcmnmogmdhofcaa.form
