/- What the document's function on places (loanbookref6.May) answers, of places whose lengths are right. -/
import Derived.Test.YtcmnmogmdhofcaaGreatF02
import Derived.Test.YtcmnmogmdhofcaaGreatF03

namespace Go.Proofs.YtcmnmogmdhofcaaGreat.form
open Go.RowKit
set_option linter.unusedVariables false
attribute [local go_sem ↓] Go.wp_at_zero Go.wp_at_succ

def pjF (r : LRow) (j : Nat) : LPlace := ([r.dest, r.a, r.b] : List LPlace).getD j .zero
def fjF (i : LIns) (j : Nat) : Int := ([i.dest, i.a, i.b] : List Int).getD j 0
def tjF (i : LIns) (j : Nat) : Bool := ([givesB i.op, decide (0 < manyI i.op), decide (1 < manyI i.op)] : List Bool).getD j false

structure OS6 (w : World) (b0 o0 c0 b1 o1 c1 : Nat) (s slots : Int) (b2 o2 c2 nR : Nat) (B : List Bool) (C : List LIns) (wr : World) : Prop where
  bel : Below w.heap.size w wr
  size : w.heap.size + 3 ≤ wr.heap.size
  p0 : wr.cell? ⟨w.heap.size, 0, none⟩ = some (.slice (some ⟨b0, o0, none⟩) B.length c0)
  p1 : wr.cell? ⟨w.heap.size, 1, none⟩ = some (.slice (some ⟨b1, o1, none⟩) C.length c1)
  t0 : wr.cell? ⟨w.heap.size + 1, 0, none⟩ = some (.int .i64 s)
  l0 : wr.cell? ⟨w.heap.size + 1 + 1, 0, none⟩ = some (.int .i64 slots)
  l1 : wr.cell? ⟨w.heap.size + 1 + 1, 1, none⟩ = some (.slice (some ⟨b2, o2, none⟩) nR c2)

theorem OS6.below {w : World} {b0 o0 c0 b1 o1 c1 : Nat} {s slots : Int} {b2 o2 c2 nR : Nat} {B : List Bool} {C : List LIns} {wr w1 : World} (h : OS6 w b0 o0 c0 b1 o1 c1 s slots b2 o2 c2 nR B C wr) (hb : Below wr.heap.size wr w1) : OS6 w b0 o0 c0 b1 o1 c1 s slots b2 o2 c2 nR B C w1 :=
  ⟨step_below hb h.bel, Nat.le_trans h.size hb.size, step_cell hb h.p0, step_cell hb h.p1, step_cell hb h.t0, step_cell hb h.l0, step_cell hb h.l1⟩

structure QS6 (i : LIns) (r : LRow) (vb va : Value) (ib rb pb tb hb : Nat) (wr : World) : Prop where
  i0 : wr.cell? ⟨ib, 0, none⟩ = some (.int .i64 i.op)
  r6 : wr.cell? ⟨rb, 6, none⟩ = some vb
  r7 : wr.cell? ⟨rb, 7, none⟩ = some va
  pk : ∀ j, j < 3 → wr.cell? ⟨pb, j * 2, none⟩ = some (.int .i64 (pjF r j).kind)
  pn : ∀ j, j < 3 → wr.cell? ⟨pb, j * 2 + 1, none⟩ = some (.int .i64 (pjF r j).n)
  tm : ∀ j, j < 3 → wr.cell? ⟨tb, j, none⟩ = some (.int .i64 (fjF i j))
  th : ∀ j, j < 3 → wr.cell? ⟨hb, j, none⟩ = some (.bool (tjF i j))

theorem fj_bd {nB nC : Nat} {i : LIns} (h : InsOk nB nC i) {j : Nat} (hj : j < 3) (ht : tjF i j = true) : 0 ≤ fjF i j ∧ fjF i j < nB := by
  rcases (show j = 0 ∨ j = 1 ∨ j = 2 by omega) with rfl | rfl | rfl
  · exact h.d (by simpa [tjF] using ht)
  · exact ⟨h.a0, h.a1⟩
  · exact ⟨h.b0, h.b1⟩
theorem row_no {B : List Bool} {s slots : Int} {i : LIns} {r : LRow} {j : Nat} (hj : j < 3) (h : fieldP B s (tjF i j) (fjF i j) (pjF r j) = false) : rowB B s slots i r = false := by
  rcases (show j = 0 ∨ j = 1 ∨ j = 2 by omega) with rfl | rfl | rfl
  · have h' : fieldP B s (givesB i.op) i.dest r.dest = false := h
    simp [rowB, h']
  · have h' : fieldP B s (decide (0 < manyI i.op)) i.a r.a = false := h
    simp [rowB, h']
  · have h' : fieldP B s (decide (1 < manyI i.op)) i.b r.b = false := h
    simp [rowB, h']
theorem row_three {B : List Bool} {s slots : Int} {i : LIns} {r : LRow} (h : ∀ x, x < 3 → fieldP B s (tjF i x) (fjF i x) (pjF r x) = true) :
    rowB B s slots i r = (movesB s slots r.before && movesB s slots r.after && !((i.op == 8 || i.op == 9 || i.op == 10) && decide (0 < r.after.length))) := by
  have h0 : fieldP B s (givesB i.op) i.dest r.dest = true := h 0 (by omega)
  have h1 : fieldP B s (decide (0 < manyI i.op)) i.a r.a = true := h 1 (by omega)
  have h2 : fieldP B s (decide (1 < manyI i.op)) i.b r.b = true := h 2 (by omega)
  unfold rowB
  rw [h0, h1, h2]
  rfl
theorem all_no {n k : Nat} {f : Nat → Bool} (hk : k < n) (h : f k = false) : false = (List.range n).all f := by
  rw [eq_comm, List.all_eq_false]
  exact ⟨k, by simpa using hk, by simp [h]⟩

set_option maxRecDepth 100000 in
set_option maxHeartbeats 8000000 in
theorem may6_yes (b0 o0 c0 b1 o1 c1 b2 o2 c2 : Nat) (B : List Bool) (C : List LIns) (s slots : Int) (R : List LRow) (w : World) (h : Held w b0 o0 b1 o1 B C) (hR : RowsHeld w b2 o2 R)
    (hn : ∀ i, i < C.length → 0 ≤ (C.getD i .zero).n ∧ (C.getD i .zero).n < 4294967296) (hm : refMayB B C = true) (ht : targetB s = true) (hs0 : ¬ slots < 0) (hs1 : ¬ 12 < slots) (hlen : R.length = C.length) :
    Calls Tryz.prog 5 #[progV b0 o0 B.length c0 b1 o1 C.length c1, targetV s, .agg #[.int .i64 slots, .slice (some ⟨b2, o2, none⟩) R.length c2]] w fun e w' =>
      e = .returned (.bool ((List.range C.length).all (fun k => rowB B s slots (C.getD k .zero) (R.getD k .zero)))) ∧ Below w.heap.size w w' := by
  have hsz : sizesB B C = true := by unfold refMayB at hm; simp only [Bool.and_eq_true] at hm; exact hm.1
  obtain ⟨s1, s2, s3, s4⟩ := sizes_of hsz
  have HOK : Hid (∀ k, k < C.length → InsOk B.length C.length (C.getD k .zero)) := all_insOk hm hn
  have HP : Hid (ProgIs w (.agg #[.slice (some ⟨b0, o0, none⟩) B.length c0, .slice (some ⟨b1, o1, none⟩) C.length c1]) B C) := ⟨⟨_, _, _, _, rfl, fun _ _ => ⟨b0, o0, b1, o1, rfl, rfl, h⟩⟩, by omega, by omega, hn⟩
  have HLEN : Hid (R.length = C.length) := hlen
  have e5 : ((R.length : Int) != (C.length : Int)) = false := by simp [hlen]
  have z4 : (R.length : Int) ≤ 40 := by omega
  clear hsz hn hlen
  unfold progV targetV
  have HW : Hid (Below w.heap.size w (((w.alloc (.cells #[.slice (some ⟨b0, o0, none⟩) B.length c0, .slice (some ⟨b1, o1, none⟩) C.length c1] 25)).alloc (.cells #[.int .i64 s] 27)).alloc (.cells #[.int .i64 slots, .slice (some ⟨b2, o2, none⟩) R.length c2] 30))) := (((Below.refl _ _).alloc (Nat.le_refl _) _).alloc (by simp) _).alloc (by simp; omega) _
  go_enter Tryz.func5, Tryz.ntmps5
  go_wp2_with (first | (go_at_call 12; refine (refMay _ B C _ (HP.out.later HW.out)).mono ?_; rintro e w1 ⟨rfl, hb1⟩; rw [hm]; have t0 : w1.cell? ⟨w.heap.size + 1, 0, none⟩ = some (.int .i64 s) := step_cell hb1 (by simp [go_sem]); have t1 : w1.cell? ⟨w.heap.size + 1 + 1, 0, none⟩ = some (.int .i64 slots) := step_cell hb1 (by simp [go_sem]); have t2 : w1.cell? ⟨w.heap.size + 1 + 1, 1, none⟩ = some (.slice (some ⟨b2, o2, none⟩) R.length c2) := step_cell hb1 (by simp [go_sem]); have t3 : w1.cell? ⟨w.heap.size, 1, none⟩ = some (.slice (some ⟨b1, o1, none⟩) C.length c1) := step_cell hb1 (by simp [go_sem]); have t4 : w1.cell? ⟨w.heap.size, 0, none⟩ = some (.slice (some ⟨b0, o0, none⟩) B.length c0) := step_cell hb1 (by simp [go_sem])) | (go_at_call 13; refine (target s _).mono ?_; rintro e w2 ⟨rfl, hb2⟩; rw [ht]; have t1' := step_cell hb2 t1; have t2' := step_cell hb2 t2; have t3' := step_cell hb2 t3))
  have HO : Hid (OS6 w b0 o0 c0 b1 o1 c1 s slots b2 o2 c2 R.length B C w2) := ⟨step_below hb2 (step_below hb1 HW.out), Nat.le_trans (by have := hb1.size; simp at this; omega) hb2.size, step_cell hb2 t4, t3', step_cell hb2 t0, t1', t2'⟩
  clear t0 t1 t2 t3 t4 t1' t2' t3' hb1 hb2
  go_loopw [7] (fun t wr => ∃ k : Nat, k ≤ C.length ∧ t = .int .i64 k ∧ OS6 w b0 o0 c0 b1 o1 c1 s slots b2 o2 c2 R.length B C wr ∧ (∀ j, j < k → rowB B s slots (C.getD j .zero) (R.getD j .zero) = true)) (fun t _ => C.length - (intOf t).toNat)
  case atStart => exact ⟨0, by omega, rfl, HO.out, fun j hj => absurd hj (by omega)⟩
  clear HO
  case round =>
    obtain ⟨k, hk, rfl, hos, hall⟩ := hrel
    have F : Hid (∀ j, j < k → rowB B s slots (C.getD j .zero) (R.getD j .zero) = true) := hall
    have HO : Hid (OS6 w b0 o0 c0 b1 o1 c1 s slots b2 o2 c2 R.length B C wr) := hos
    have l1 := hos.l1
    have p1 := hos.p1
    clear hall
    by_cases hlt : k < C.length
    case neg =>
      have hge : ¬ (k : Int) < (R.length : Int) := by have := HLEN.out; omega
      clear hos
      go_wp2
      go_ret
      refine ⟨ret_bool ?_, HO.out.bel⟩
      rw [eq_comm, List.all_eq_true]
      intro x hx
      exact F.out x (by simp at hx; omega)
    have hltR : k < R.length := by have := HLEN.out; omega
    have y1 : (k : Int) < (R.length : Int) := by omega
    have y2 : (k : Int) < (C.length : Int) := by omega
    obtain ⟨d0, d1, d2, d3, d4, d5⟩ := (h.later hos.bel).code k hlt
    obtain ⟨f0, f1, f2, f3, f4, f5, vb, va, f6, f7, mb, ma⟩ := (hR.later hos.bel).rows k hltR
    have lb1 := (h.later hos.bel).lt1
    have lb2 := (hR.later hos.bel).lt
    have hz := hos.size
    obtain ⟨i, hi⟩ : ∃ i, i = C.getD k .zero := ⟨_, rfl⟩
    obtain ⟨r, hr⟩ : ∃ r, r = R.getD k .zero := ⟨_, rfl⟩
    rw [← hi] at d0 d1 d2 d3 d4 d5
    rw [← hr] at f0 f1 f2 f3 f4 f5 mb ma
    have HI : Hid (i = C.getD k .zero) := hi
    have HR : Hid (r = R.getD k .zero) := hr
    have HIO : Hid (InsOk B.length C.length i) := by have := HOK.out k hlt; rw [← hi] at this; exact this
    obtain ⟨abo, abc, hvb, abl, abh⟩ := mb
    obtain ⟨aao, aac, hva, aal, aah⟩ := ma
    have HMB : Hid (MovesIs wr vb r.before) := ⟨abo, abc, hvb, abl, abh⟩
    have HMA : Hid (MovesIs wr va r.after) := ⟨aao, aac, hva, aal, aah⟩
    subst hvb
    subst hva
    have q1 : w.heap.size < wr.heap.size := by omega
    have q2 : w.heap.size + 1 < wr.heap.size := by omega
    have q3 : w.heap.size + 1 + 1 < wr.heap.size := by omega
    have q1' : w.heap.size < wr.heap.size + 1 := by omega
    have q3' : w.heap.size + 1 + 1 < wr.heap.size + 1 := by omega
    have lb2' : b2 < wr.heap.size + 1 := by omega
    clear hi hr hos abh aah
    go_upto_region 10 with fail
    go_cut [12] (fun x wq => x = .slice (some ⟨wr.heap.size + 1 + 1 + 1 + 1, 0, none⟩) 3 3 ∧ Below wr.heap.size wr wq ∧ QS6 i r (.slice abo r.before.length abc) (.slice aao r.after.length aac) wr.heap.size (wr.heap.size + 1) (wr.heap.size + 1 + 1) (wr.heap.size + 1 + 1 + 1) (wr.heap.size + 1 + 1 + 1 + 1) wq)
    case first =>
      go_region_held3 (fun w' => w'.cell? ⟨wr.heap.size, 0, none⟩ = some (.int .i64 i.op)) (first | (go_keep; done) | exact ((((((Row.new wr 49 [.int .i64 i.op, .int .i64 i.dest, .int .i64 i.a, .int .i64 i.b, .int .i64 i.c, .int .u32 i.n]).alloc _).alloc _).alloc _).alloc _).drew).cell 0)
        ((first | (go_at_call 14; refine (gives _ _).mono ?_; rintro e w' ⟨rfl, rfl⟩) | (go_at_call 15; refine (many _ _).mono ?_; rintro e w' ⟨rfl, rfl⟩)))
      go_wp2
      go_meet
      case rel =>
        refine ⟨rfl, ((((((Below.refl _ _).alloc (Nat.le_refl _) _).alloc (by simp) _).alloc (by simp; omega) _).alloc (by simp; omega) _).alloc (by simp; omega) _).drew, ⟨by simp [go_sem], by simp [go_sem], by simp [go_sem], ?_, ?_, ?_, ?_⟩⟩
        all_goals
          intro j hj
          rcases (show j = 0 ∨ j = 1 ∨ j = 2 by omega) with rfl | rfl | rfl <;> simp [go_sem, pjF, fjF, tjF]
    obtain ⟨rfl, hbq, hqs⟩ := hcut
    have HO2 : Hid (OS6 w b0 o0 c0 b1 o1 c1 s slots b2 o2 c2 R.length B C wc) := HO.out.below hbq
    have HH2 : Hid (Held wc b0 o0 b1 o1 B C) := h.later HO2.out.bel
    have HMB2 : Hid (MovesIs wc (.slice abo r.before.length abc) r.before) := HMB.out.later hbq
    have HMA2 : Hid (MovesIs wc (.slice aao r.after.length aac) r.after) := HMA.out.later hbq
    clear hbq HMB HMA HO d0 d1 d2 d3 d4 d5 f0 f1 f2 f3 f4 f5 f6 f7 l1 p1 lb1 lb2 lb2' q1 q2 q3 q1' q3' hz
    generalize wr.heap.size = ib at hqs ⊢
    have HQ : Hid (QS6 i r (.slice abo r.before.length abc) (.slice aao r.after.length aac) ib (ib + 1) (ib + 1 + 1) (ib + 1 + 1 + 1) (ib + 1 + 1 + 1 + 1) wc) := hqs
    clear hqs
    go_wp2
    go_loopw [13] (fun t wq => ∃ j : Nat, j ≤ 3 ∧ t = .int .i64 j ∧ Below wc.heap.size wc wq ∧ (∀ x, x < j → fieldP B s (tjF i x) (fjF i x) (pjF r x) = true)) (fun t _ => 3 - (intOf t).toNat)
    case atStart => exact ⟨0, by omega, rfl, Below.refl _ _, fun x hx => absurd hx (by omega)⟩
    case round =>
      obtain ⟨j, hj, rfl, hbw, hall⟩ := hrel
      have FJ : Hid (∀ x, x < j → fieldP B s (tjF i x) (fjF i x) (pjF r x) = true) := hall
      clear hall
      by_cases hj3 : j < 3
      case neg =>
        have hrow : rowB B s slots i r = (movesB s slots r.before && movesB s slots r.after && !((i.op == 8 || i.op == 9 || i.op == 10) && decide (0 < r.after.length))) := row_three (fun x hx => FJ.out x (by omega))
        have HROW : Hid _ := hrow
        have hge : ¬ (j : Int) < 3 := by omega
        have u0 := step_cell hbw HO2.out.t0
        have u1 := step_cell hbw HO2.out.l0
        have u2 := step_cell hbw HQ.out.r6
        have u3 := step_cell hbw HQ.out.r7
        have u4 := step_cell hbw HQ.out.i0
        clear hrow
        cases hmb : movesB s slots r.before
        · go_wp2_with fail
          go_at_call 17
          refine (moves6 s slots _ r.before _ (HMB2.out.later hbw)).mono ?_
          rintro e w1 ⟨rfl, hb1⟩
          rw [hmb]
          go_wp2
          go_ret
          exact ⟨ret_bool (all_no hlt (by rw [← HI.out, ← HR.out, HROW.out, hmb]; rfl)), step_below hb1 (step_below hbw HO2.out.bel)⟩
        · cases hma : movesB s slots r.after
          · go_wp2_with fail
            go_at_call 17
            refine (moves6 s slots _ r.before _ (HMB2.out.later hbw)).mono ?_
            rintro e w1 ⟨rfl, hb1⟩
            rw [hmb]
            have v0 := step_cell hb1 u0
            have v1 := step_cell hb1 u1
            have v3 := step_cell hb1 u3
            go_wp2_with fail
            go_at_call 17
            refine (moves6 s slots _ r.after _ ((HMA2.out.later hbw).later hb1)).mono ?_
            rintro e w2 ⟨rfl, hb2⟩
            rw [hma]
            go_wp2
            go_ret
            exact ⟨ret_bool (all_no hlt (by rw [← HI.out, ← HR.out, HROW.out, hmb, hma]; rfl)), step_below hb2 (step_below hb1 (step_below hbw HO2.out.bel))⟩
          · rcases (show ((i.op == 8) = true) ∨ ((i.op == 8) = false ∧ (i.op == 9) = true) ∨ ((i.op == 8) = false ∧ (i.op == 9) = false ∧ (i.op == 10) = true) ∨ ((i.op == 8) = false ∧ (i.op == 9) = false ∧ (i.op == 10) = false) by cases (i.op == 8) <;> cases (i.op == 9) <;> cases (i.op == 10) <;> simp) with e8 | ⟨e8, e9⟩ | ⟨e8, e9, e10⟩ | ⟨e8, e9, e10⟩
            all_goals
              by_cases hla : 0 < r.after.length
              all_goals
                have hli : decide ((0 : Int) < (r.after.length : Int)) = decide (0 < r.after.length) := by simp
                have HLI : Hid _ := hli
                clear hli
                go_wp2_with fail
                go_at_call 17
                refine (moves6 s slots _ r.before _ (HMB2.out.later hbw)).mono ?_
                rintro e w1 ⟨rfl, hb1⟩
                rw [hmb]
                have v0 := step_cell hb1 u0
                have v1 := step_cell hb1 u1
                have v3 := step_cell hb1 u3
                have v4 := step_cell hb1 u4
                go_wp2_with fail
                go_at_call 17
                refine (moves6 s slots _ r.after _ ((HMA2.out.later hbw).later hb1)).mono ?_
                rintro e w2 ⟨rfl, hb2⟩
                rw [hma]
                have x3 := step_cell hb2 v3
                have x4 := step_cell hb2 v4
                clear u0 u1 u2 u3 u4 v0 v1 v3 v4
                have hb3 : Below w.heap.size w w2 := step_below hb2 (step_below hb1 (step_below hbw HO2.out.bel))
                have HB3 : Hid (Below w.heap.size w w2) := hb3
                have HBK : Hid (Below wc.heap.size wc w2) := step_below hb2 (step_below hb1 hbw)
                clear hb3
                go_wp2
            all_goals first
              | (go_ret; exact ⟨ret_bool (all_no hlt (by rw [← HI.out, ← HR.out, HROW.out, hmb, hma]; simp_all)), HB3.out⟩)
              | skip
            all_goals
              refine ⟨⟨k + 1, by omega, by go_num, HO2.out.below HBK.out, fun x hx => ?_⟩, by simp [intOf]; omega⟩
              by_cases hxk : x < k
              · exact F.out x hxk
              · obtain rfl : x = k := by omega
                rw [← HI.out, ← HR.out, HROW.out, hmb, hma]
                simp_all
      have g0 := step_cell hbw HO2.out.p0
      have g1 := step_cell hbw HO2.out.p1
      have g2 := step_cell hbw HO2.out.t0
      have gh := step_cell hbw (HQ.out.th j hj3)
      have gt := step_cell hbw (HQ.out.tm j hj3)
      have gk := step_cell hbw (HQ.out.pk j hj3)
      have gn := step_cell hbw (HQ.out.pn j hj3)
      have hHr0 := HH2.out.later hbw
      obtain ⟨tv, htv⟩ : ∃ x, x = tjF i j := ⟨_, rfl⟩
      obtain ⟨fv, hfv⟩ : ∃ x, x = fjF i j := ⟨_, rfl⟩
      obtain ⟨pv, hpv⟩ : ∃ x, x = pjF r j := ⟨_, rfl⟩
      rw [← htv] at gh
      rw [← hfv] at gt
      rw [← hpv] at gk gn
      have HTV : Hid (tv = tjF i j) := htv
      have HFV : Hid (fv = fjF i j) := hfv
      have HPV : Hid (pv = pjF r j) := hpv
      have w1' : (j : Int) < 3 := by omega
      clear htv hfv hpv
      cases tv
      · rcases (show (pv.kind != 0) = true ∨ ((pv.kind != 0) = false ∧ (pv.n != 0) = true) ∨ ((pv.kind != 0) = false ∧ (pv.n != 0) = false) by cases (pv.kind != 0) <;> cases (pv.n != 0) <;> simp) with e1 | ⟨e1, e2⟩ | ⟨e1, e2⟩
        · go_wp2
          go_quiet (fail)
          go_wp2
          go_ret
          exact ⟨ret_bool (all_no hlt (by rw [← HI.out, ← HR.out]; exact row_no hj3 (by rw [← HTV.out, ← HPV.out]; simp only [fieldP, Bool.false_eq_true, if_false]; rw [e1]; rfl))), below_drewN (step_below hbw HO2.out.bel) _⟩
        · go_wp2
          go_quiet (fail)
          go_wp2
          go_ret
          exact ⟨ret_bool (all_no hlt (by rw [← HI.out, ← HR.out]; exact row_no hj3 (by rw [← HTV.out, ← HPV.out]; simp only [fieldP, Bool.false_eq_true, if_false]; rw [e1, e2]; rfl))), below_drewN (step_below hbw HO2.out.bel) _⟩
        · go_wp2
          go_quiet (fail)
          go_wp2
          refine ⟨⟨j + 1, by omega, by go_num, below_drewN hbw _, fun x hx => ?_⟩, by simp [intOf]; omega⟩
          by_cases hxj : x < j
          · exact FJ.out x hxj
          · obtain rfl : x = j := by omega
            rw [← HTV.out, ← HPV.out]; simp only [fieldP, Bool.false_eq_true, if_false]; rw [e1, e2]; rfl
      · obtain ⟨hf0, hf1⟩ := fj_bd HIO.out hj3 HTV.out.symm
        rw [← HFV.out] at hf0 hf1
        have hHr := hHr0.drew
        go_wp2
        cases hr : regB B s fv pv
        · refine wp_region_held_drew (S := (fun w' => Below wr.heap.size wr w' ∧ w'.cell? ⟨w.heap.size, 0, none⟩ = some (.slice (some ⟨b0, o0, none⟩) B.length c0) ∧ w'.cell? ⟨w.heap.size, 1, none⟩ = some (.slice (some ⟨b1, o1, none⟩) C.length c1) ∧ w'.cell? ⟨w.heap.size + 1, 0, none⟩ = some (.int .i64 s) ∧ w'.cell? ⟨ib + 1 + 1 + 1 + 1, j, none⟩ = some (.bool true) ∧ w'.cell? ⟨ib + 1 + 1 + 1, j, none⟩ = some (.int .i64 fv) ∧ w'.cell? ⟨ib + 1 + 1, j * 2, none⟩ = some (.int .i64 pv.kind) ∧ w'.cell? ⟨ib + 1 + 1, j * 2 + 1, none⟩ = some (.int .i64 pv.n))) (by kernel_rfl) ?_ (fun hHeld => ?_)
          · ((go_split_ands; refine ⟨?_, ?_, ?_, ?_, ?_, ?_, ?_, ?_⟩ <;> first | exact (Below.refl _ _).drew | exact ((Below.refl _ _).drew).trans hbr | exact step_cell hbr (by assumption) | go_keep))
          refine wpAnyH_take (i := 0) (v := ?_) rfl (by kernel_rfl) (by kernel_rfl) (by kernel_rfl) (fun _ _ _ h => h) (Or.inl ⟨by rfl, ?_⟩) (by assumption) ?_
          case refine_2 => (intro w hSw; (try dsimp only at hSw); go_simp; first | done | (with_reducible rfl))
          show wpAnyH _ _ _ _ _ _ _ (Act.put _ (some 88) _) _
          simp only [Act.put, List.setIfInBounds_toArray, List.set_cons_zero, List.set_cons_succ]
          refine wpAnyH_take (i := 1) (v := ?_) rfl (by kernel_rfl) (by kernel_rfl) (by kernel_rfl) (fun _ _ _ h => h) (Or.inl ⟨by rfl, ?_⟩) (by assumption) ?_
          case refine_2 => (intro w hSw; (try dsimp only at hSw); go_simp; first | done | (with_reducible rfl))
          show wpAnyH _ _ _ _ _ _ _ (Act.put _ (some 89) _) _
          simp only [Act.put, List.setIfInBounds_toArray, List.set_cons_zero, List.set_cons_succ]
          refine wpAnyH_take (i := 2) (v := ?_) rfl (by kernel_rfl) (by kernel_rfl) (by kernel_rfl) (fun _ _ _ h => h) (Or.inl ⟨by rfl, ?_⟩) (by assumption) ?_
          case refine_2 => (intro w hSw; (try dsimp only at hSw); go_simp; first | done | (with_reducible rfl))
          show wpAnyH _ _ _ _ _ _ _ (Act.put _ (some 90) _) _
          simp only [Act.put, List.setIfInBounds_toArray, List.set_cons_zero, List.set_cons_succ]
          refine wpAnyH_take (i := 3) (v := ?_) rfl (by kernel_rfl) (by kernel_rfl) (by kernel_rfl) (fun _ _ _ h => h) (Or.inl ⟨by rfl, ?_⟩) (by assumption) ?_
          case refine_2 => (intro w hSw; (try dsimp only at hSw); go_simp; first | done | (with_reducible rfl))
          show wpAnyH _ _ _ _ _ _ _ (Act.put _ (some 91) _) _
          simp only [Act.put, List.setIfInBounds_toArray, List.set_cons_zero, List.set_cons_succ]
          refine wpAnyH_take (i := 4) (v := ?_) rfl (by kernel_rfl) (by kernel_rfl) (by kernel_rfl) (fun _ _ _ h => h) (Or.inl ⟨by rfl, ?_⟩) (by assumption) ?_
          case refine_2 => (intro w hSw; (try dsimp only at hSw); go_simp; first | done | (with_reducible rfl))
          show wpAnyH _ _ _ _ _ _ _ (Act.put _ (some 92) _) _
          simp only [Act.put, List.setIfInBounds_toArray, List.set_cons_zero, List.set_cons_succ]
          refine wpAnyH_take (i := 5) (v := ?_) rfl (by kernel_rfl) (by kernel_rfl) (by kernel_rfl) (fun _ _ _ h => h) (Or.inl ⟨by rfl, ?_⟩) (by assumption) ?_
          case refine_2 => (intro w hSw; (try dsimp only at hSw); go_simp; first | done | (with_reducible rfl))
          show wpAnyH _ _ _ _ _ _ _ (Act.put _ (some 93) _) _
          simp only [Act.put, List.setIfInBounds_toArray, List.set_cons_zero, List.set_cons_succ]
          refine wpAnyH_take (i := 6) (v := ?_) rfl (by kernel_rfl) (by kernel_rfl) (by kernel_rfl) (fun _ _ _ h => h) (Or.inl ⟨by rfl, ?_⟩) (by assumption) ?_
          case refine_2 => (intro w hSw; (try dsimp only at hSw); go_simp; first | done | (with_reducible rfl))
          show wpAnyH _ _ _ _ _ _ _ (Act.put _ (some 94) _) _
          simp only [Act.put, List.setIfInBounds_toArray, List.set_cons_zero, List.set_cons_succ]
          refine wpAnyH_take (i := 7) (v := ?_) rfl (by kernel_rfl) (by kernel_rfl) (by kernel_rfl) (fun _ _ _ h => h) (Or.inl ⟨by rfl, ?_⟩) (by assumption) ?_
          case refine_2 => (intro w hSw; (try dsimp only at hSw); go_simp; first | done | (with_reducible rfl))
          show wpAnyH _ _ _ _ _ _ _ (Act.put _ (some 95) _) _
          simp only [Act.put, List.setIfInBounds_toArray, List.set_cons_zero, List.set_cons_succ]
          refine wpAnyH_take (i := 8) (v := ?_) rfl (by kernel_rfl) (by kernel_rfl) (by kernel_rfl) (fun _ _ _ h => h) (Or.inl ⟨by rfl, ?_⟩) (by assumption) ?_
          case refine_2 => (intro w hSw; (try dsimp only at hSw); go_simp; first | done | (with_reducible rfl))
          show wpAnyH _ _ _ _ _ _ _ (Act.put _ (some 96) _) _
          simp only [Act.put, List.setIfInBounds_toArray, List.set_cons_zero, List.set_cons_succ]
          refine wpAnyH_take (i := 9) (v := ?_) rfl (by kernel_rfl) (by kernel_rfl) (by kernel_rfl) (fun _ _ _ h => h) (Or.inl ⟨by rfl, ?_⟩) (by assumption) ?_
          case refine_2 => (intro w hSw; (try dsimp only at hSw); go_simp; first | done | (with_reducible rfl))
          show wpAnyH _ _ _ _ _ _ _ (Act.put _ (some 97) _) _
          simp only [Act.put, List.setIfInBounds_toArray, List.set_cons_zero, List.set_cons_succ]
          refine wpAnyH_take (i := 10) (v := ?_) rfl (by kernel_rfl) (by kernel_rfl) (by kernel_rfl) (fun _ _ _ h => h) (Or.inl ⟨by rfl, ?_⟩) (by assumption) ?_
          case refine_2 => (intro w hSw; (try dsimp only at hSw); go_simp; first | done | (with_reducible rfl))
          show wpAnyH _ _ _ _ _ _ _ (Act.put _ (some 98) _) _
          simp only [Act.put, List.setIfInBounds_toArray, List.set_cons_zero, List.set_cons_succ]
          refine wpAnyH_take (i := 11) (v := ?_) rfl (by kernel_rfl) (by kernel_rfl) (by kernel_rfl) (fun _ _ _ h => h) (Or.inl ⟨by rfl, ?_⟩) (by assumption) ?_
          case refine_2 => (intro w hSw; (try dsimp only at hSw); go_simp; first | done | (with_reducible rfl))
          show wpAnyH _ _ _ _ _ _ _ (Act.put _ (some 99) _) _
          simp only [Act.put, List.setIfInBounds_toArray, List.set_cons_zero, List.set_cons_succ]
          refine wpAnyH_take (i := 12) (v := ?_) rfl (by kernel_rfl) (by kernel_rfl) (by kernel_rfl) (fun _ _ _ h => h) (Or.inl ⟨by rfl, ?_⟩) (by assumption) ?_
          case refine_2 => (intro w hSw; (try dsimp only at hSw); go_simp; first | done | (with_reducible rfl))
          show wpAnyH _ _ _ _ _ _ _ (Act.put _ (some 100) _) _
          simp only [Act.put, List.setIfInBounds_toArray, List.set_cons_zero, List.set_cons_succ]
          refine wpAnyH_take (i := 13) (v := ?_) rfl (by kernel_rfl) (by kernel_rfl) (by kernel_rfl) (fun _ _ _ h => h) (Or.inl ⟨by rfl, ?_⟩) (by assumption) ?_
          case refine_2 => (intro w hSw; (try dsimp only at hSw); go_simp; first | done | (with_reducible rfl))
          show wpAnyH _ _ _ _ _ _ _ (Act.put _ (some 101) _) _
          simp only [Act.put, List.setIfInBounds_toArray, List.set_cons_zero, List.set_cons_succ]
          refine wpAnyH_take (i := 14) (v := ?_) rfl (by kernel_rfl) (by kernel_rfl) (by kernel_rfl) (fun _ _ _ h => h) (Or.inl ⟨by rfl, ?_⟩) (by assumption) ?_
          case refine_2 => (intro w hSw; (try dsimp only at hSw); go_simp; first | done | (with_reducible rfl))
          show wpAnyH _ _ _ _ _ _ _ (Act.put _ (some 102) _) _
          simp only [Act.put, List.setIfInBounds_toArray, List.set_cons_zero, List.set_cons_succ]
          refine wpAnyH_ready (rs := [15]) (by kernel_rfl) (by simp) ?_
          refine AllReadyH.cons rfl (fun K hK => ?_) AllReadyH.nil
          go_simp
          go_at_call 16
          refine (register6 b0 o0 c0 b1 o1 c1 B C s fv pv _ s2 hHr hf0 hf1).mono ?_
          rintro e w1 ⟨rfl, hbr⟩
          rw [hr]
          go_wp2_with fail
          refine hK.out _ _ ?_ (fun hHeld => ?_)
          · ((go_split_ands; refine ⟨?_, ?_, ?_, ?_, ?_, ?_, ?_, ?_⟩ <;> first | exact (Below.refl _ _).drew | exact ((Below.refl _ _).drew).trans hbr | exact step_cell hbr (by assumption) | go_keep))
          clear hK K
          refine wpAnyH_take (i := 16) (v := ?_) rfl (by kernel_rfl) (by kernel_rfl) (by kernel_rfl) (fun _ _ _ h => h) (Or.inl ⟨by rfl, ?_⟩) (by assumption) ?_
          case refine_2 => (intro w hSw; (try dsimp only at hSw); go_simp; first | done | (with_reducible rfl))
          show wpAnyH _ _ _ _ _ _ _ (Act.put _ (some 104) _) _
          simp only [Act.put, List.setIfInBounds_toArray, List.set_cons_zero, List.set_cons_succ]
          refine wpAnyH_take (i := 17) (v := ?_) rfl (by kernel_rfl) (by kernel_rfl) (by kernel_rfl) (fun _ _ _ h => h) (Or.inl ⟨by rfl, ?_⟩) (by assumption) ?_
          case refine_2 => (intro w hSw; (try dsimp only at hSw); go_simp; first | done | (with_reducible rfl))
          show wpAnyH _ _ _ _ _ _ _ (Act.put _ (some 105) _) _
          simp only [Act.put, List.setIfInBounds_toArray, List.set_cons_zero, List.set_cons_succ]
          refine wpAnyH_take (i := 18) (v := ?_) rfl (by kernel_rfl) (by kernel_rfl) (by kernel_rfl) (fun _ _ _ h => h) (Or.inl ⟨by rfl, ?_⟩) (by assumption) ?_
          case refine_2 => (intro w hSw; (try dsimp only at hSw); go_simp; first | done | (with_reducible rfl))
          show wpAnyH _ _ _ _ _ _ _ (Act.put _ (some 106) _) _
          simp only [Act.put, List.setIfInBounds_toArray, List.set_cons_zero, List.set_cons_succ]
          refine wpAnyH_take (i := 19) (v := undef) rfl (by kernel_rfl) (by kernel_rfl) (by kernel_rfl) (fun _ _ _ h => h) (Or.inr ⟨by rfl, rfl⟩) (by assumption) ?_
          show wpAnyH _ _ _ _ _ _ _ (Act.put _ (some 107) _) _
          simp only [Act.put, List.setIfInBounds_toArray, List.set_cons_zero, List.set_cons_succ]
          refine wpAnyH_take (i := 20) (v := undef) rfl (by kernel_rfl) (by kernel_rfl) (by kernel_rfl) (fun _ _ _ h => h) (Or.inr ⟨by rfl, rfl⟩) (by assumption) ?_
          show wpAnyH _ _ _ _ _ _ _ (Act.put _ (some 108) _) _
          simp only [Act.put, List.setIfInBounds_toArray, List.set_cons_zero, List.set_cons_succ]
          refine wpAnyH_take (i := 21) (v := undef) rfl (by kernel_rfl) (by kernel_rfl) (by kernel_rfl) (fun _ _ _ h => h) (Or.inr ⟨by rfl, rfl⟩) (by assumption) ?_
          show wpAnyH _ _ _ _ _ _ _ (Act.put _ (some 109) _) _
          simp only [Act.put, List.setIfInBounds_toArray, List.set_cons_zero, List.set_cons_succ]
          refine wpAnyH_take (i := 22) (v := undef) rfl (by kernel_rfl) (by kernel_rfl) (by kernel_rfl) (fun _ _ _ h => h) (Or.inr ⟨by rfl, rfl⟩) (by assumption) ?_
          show wpAnyH _ _ _ _ _ _ _ (Act.put _ (some 110) _) _
          simp only [Act.put, List.setIfInBounds_toArray, List.set_cons_zero, List.set_cons_succ]
          refine wpAnyH_take (i := 23) (v := undef) rfl (by kernel_rfl) (by kernel_rfl) (by kernel_rfl) (fun _ _ _ h => h) (Or.inr ⟨by rfl, rfl⟩) (by assumption) ?_
          show wpAnyH _ _ _ _ _ _ _ (Act.put _ (some 111) _) _
          simp only [Act.put, List.setIfInBounds_toArray, List.set_cons_zero, List.set_cons_succ]
          refine wpAnyH_take (i := 24) (v := undef) rfl (by kernel_rfl) (by kernel_rfl) (by kernel_rfl) (fun _ _ _ h => h) (Or.inr ⟨by rfl, rfl⟩) (by assumption) ?_
          show wpAnyH _ _ _ _ _ _ _ (Act.put _ (some 112) _) _
          simp only [Act.put, List.setIfInBounds_toArray, List.set_cons_zero, List.set_cons_succ]
          refine wpAnyH_take (i := 25) (v := undef) rfl (by kernel_rfl) (by kernel_rfl) (by kernel_rfl) (fun _ _ _ h => h) (Or.inr ⟨by rfl, rfl⟩) (by assumption) ?_
          show wpAnyH _ _ _ _ _ _ _ (Act.put _ (some 113) _) _
          simp only [Act.put, List.setIfInBounds_toArray, List.set_cons_zero, List.set_cons_succ]
          refine wpAnyH_take (i := 26) (v := undef) rfl (by kernel_rfl) (by kernel_rfl) (by kernel_rfl) (fun _ _ _ h => h) (Or.inr ⟨by rfl, rfl⟩) (by assumption) ?_
          show wpAnyH _ _ _ _ _ _ _ (Act.put _ (some 114) _) _
          simp only [Act.put, List.setIfInBounds_toArray, List.set_cons_zero, List.set_cons_succ]
          refine wpAnyH_take (i := 27) (v := undef) rfl (by kernel_rfl) (by kernel_rfl) (by kernel_rfl) (fun _ _ _ h => h) (Or.inr ⟨by rfl, rfl⟩) (by assumption) ?_
          show wpAnyH _ _ _ _ _ _ _ (Act.put _ (some 115) _) _
          simp only [Act.put, List.setIfInBounds_toArray, List.set_cons_zero, List.set_cons_succ]
          refine wpAnyH_take (i := 28) (v := undef) rfl (by kernel_rfl) (by kernel_rfl) (by kernel_rfl) (fun _ _ _ h => h) (Or.inr ⟨by rfl, rfl⟩) (by assumption) ?_
          show wpAnyH _ _ _ _ _ _ _ (Act.put _ (some 116) _) _
          simp only [Act.put, List.setIfInBounds_toArray, List.set_cons_zero, List.set_cons_succ]
          refine wpAnyH_take (i := 29) (v := undef) rfl (by kernel_rfl) (by kernel_rfl) (by kernel_rfl) (fun _ _ _ h => h) (Or.inr ⟨by rfl, rfl⟩) (by assumption) ?_
          show wpAnyH _ _ _ _ _ _ _ (Act.put _ (some 117) _) _
          simp only [Act.put, List.setIfInBounds_toArray, List.set_cons_zero, List.set_cons_succ]
          refine wpAnyH_take (i := 30) (v := undef) rfl (by kernel_rfl) (by kernel_rfl) (by kernel_rfl) (fun _ _ _ h => h) (Or.inr ⟨by rfl, rfl⟩) (by assumption) ?_
          show wpAnyH _ _ _ _ _ _ _ (Act.put _ (some 118) _) _
          simp only [Act.put, List.setIfInBounds_toArray, List.set_cons_zero, List.set_cons_succ]
          refine wpAnyH_take (i := 31) (v := undef) rfl (by kernel_rfl) (by kernel_rfl) (by kernel_rfl) (fun _ _ _ h => h) (Or.inr ⟨by rfl, rfl⟩) (by assumption) ?_
          show wpAnyH _ _ _ _ _ _ _ (Act.put _ (some 119) _) _
          simp only [Act.put, List.setIfInBounds_toArray, List.set_cons_zero, List.set_cons_succ]
          refine wpAnyH_take (i := 32) (v := undef) rfl (by kernel_rfl) (by kernel_rfl) (by kernel_rfl) (fun _ _ _ h => h) (Or.inr ⟨by rfl, rfl⟩) (by assumption) ?_
          show wpAnyH _ _ _ _ _ _ _ (Act.put _ (some 120) _) _
          simp only [Act.put, List.setIfInBounds_toArray, List.set_cons_zero, List.set_cons_succ]
          refine wpAnyH_take (i := 33) (v := undef) rfl (by kernel_rfl) (by kernel_rfl) (by kernel_rfl) (fun _ _ _ h => h) (Or.inr ⟨by rfl, rfl⟩) (by assumption) ?_
          show wpAnyH _ _ _ _ _ _ _ (Act.put _ (some 121) _) _
          simp only [Act.put, List.setIfInBounds_toArray, List.set_cons_zero, List.set_cons_succ]
          refine wpAnyH_take (i := 34) (v := undef) rfl (by kernel_rfl) (by kernel_rfl) (by kernel_rfl) (fun _ _ _ h => h) (Or.inr ⟨by rfl, rfl⟩) (by assumption) ?_
          show wpAnyH _ _ _ _ _ _ _ (Act.put _ (some 122) _) _
          simp only [Act.put, List.setIfInBounds_toArray, List.set_cons_zero, List.set_cons_succ]
          refine wpAnyH_take (i := 35) (v := undef) rfl (by kernel_rfl) (by kernel_rfl) (by kernel_rfl) (fun _ _ _ h => h) (Or.inr ⟨by rfl, rfl⟩) (by assumption) ?_
          show wpAnyH _ _ _ _ _ _ _ (Act.put _ (some 123) _) _
          simp only [Act.put, List.setIfInBounds_toArray, List.set_cons_zero, List.set_cons_succ]
          refine wpAnyH_take (i := 36) (v := undef) rfl (by kernel_rfl) (by kernel_rfl) (by kernel_rfl) (fun _ _ _ h => h) (Or.inr ⟨by rfl, rfl⟩) (by assumption) ?_
          show wpAnyH _ _ _ _ _ _ _ (Act.put _ (some 124) _) _
          simp only [Act.put, List.setIfInBounds_toArray, List.set_cons_zero, List.set_cons_succ]
          refine wpAnyH_take (i := 37) (v := undef) rfl (by kernel_rfl) (by kernel_rfl) (by kernel_rfl) (fun _ _ _ h => h) (Or.inr ⟨by rfl, rfl⟩) (by assumption) ?_
          show wpAnyH _ _ _ _ _ _ _ (Act.put _ (some 125) _) _
          simp only [Act.put, List.setIfInBounds_toArray, List.set_cons_zero, List.set_cons_succ]
          refine wpAnyH_take (i := 38) (v := undef) rfl (by kernel_rfl) (by kernel_rfl) (by kernel_rfl) (fun _ _ _ h => h) (Or.inr ⟨by rfl, rfl⟩) (by assumption) ?_
          show wpAnyH _ _ _ _ _ _ _ (Act.put _ (some 126) _) _
          simp only [Act.put, List.setIfInBounds_toArray, List.set_cons_zero, List.set_cons_succ]
          refine wpAnyH_take (i := 39) (v := undef) rfl (by kernel_rfl) (by kernel_rfl) (by kernel_rfl) (fun _ _ _ h => h) (Or.inr ⟨by rfl, rfl⟩) (by assumption) ?_
          show wpAnyH _ _ _ _ _ _ _ (Act.put _ (some 127) _) _
          simp only [Act.put, List.setIfInBounds_toArray, List.set_cons_zero, List.set_cons_succ]
          refine wpAnyH_take (i := 40) (v := ?_) rfl (by kernel_rfl) (by kernel_rfl) (by kernel_rfl) (fun _ _ _ h => h) (Or.inl ⟨by rfl, ?_⟩) (by assumption) ?_
          case refine_2 => (intro w hSw; (try dsimp only at hSw); go_simp; first | done | (with_reducible rfl))
          show wpAnyH _ _ _ _ _ _ _ (Act.put _ (some 128) _) _
          simp only [Act.put, List.setIfInBounds_toArray, List.set_cons_zero, List.set_cons_succ]
          refine wpAnyH_done (by kernel_rfl) ?_ _
          go_wp2
          go_ret
          exact ⟨ret_bool (all_no hlt (by rw [← HI.out, ← HR.out]; exact row_no hj3 (by rw [← HTV.out, ← HFV.out, ← HPV.out]; exact hr))), step_below hbr (step_below hbw HO2.out.bel).drew⟩
        · refine wp_region_held_drew (S := (fun w' => Below wr.heap.size wr w' ∧ w'.cell? ⟨w.heap.size, 0, none⟩ = some (.slice (some ⟨b0, o0, none⟩) B.length c0) ∧ w'.cell? ⟨w.heap.size, 1, none⟩ = some (.slice (some ⟨b1, o1, none⟩) C.length c1) ∧ w'.cell? ⟨w.heap.size + 1, 0, none⟩ = some (.int .i64 s) ∧ w'.cell? ⟨ib + 1 + 1 + 1 + 1, j, none⟩ = some (.bool true) ∧ w'.cell? ⟨ib + 1 + 1 + 1, j, none⟩ = some (.int .i64 fv) ∧ w'.cell? ⟨ib + 1 + 1, j * 2, none⟩ = some (.int .i64 pv.kind) ∧ w'.cell? ⟨ib + 1 + 1, j * 2 + 1, none⟩ = some (.int .i64 pv.n))) (by kernel_rfl) ?_ (fun hHeld => ?_)
          · ((go_split_ands; refine ⟨?_, ?_, ?_, ?_, ?_, ?_, ?_, ?_⟩ <;> first | exact (Below.refl _ _).drew | exact ((Below.refl _ _).drew).trans hbr | exact step_cell hbr (by assumption) | go_keep))
          refine wpAnyH_take (i := 0) (v := ?_) rfl (by kernel_rfl) (by kernel_rfl) (by kernel_rfl) (fun _ _ _ h => h) (Or.inl ⟨by rfl, ?_⟩) (by assumption) ?_
          case refine_2 => (intro w hSw; (try dsimp only at hSw); go_simp; first | done | (with_reducible rfl))
          show wpAnyH _ _ _ _ _ _ _ (Act.put _ (some 88) _) _
          simp only [Act.put, List.setIfInBounds_toArray, List.set_cons_zero, List.set_cons_succ]
          refine wpAnyH_take (i := 1) (v := ?_) rfl (by kernel_rfl) (by kernel_rfl) (by kernel_rfl) (fun _ _ _ h => h) (Or.inl ⟨by rfl, ?_⟩) (by assumption) ?_
          case refine_2 => (intro w hSw; (try dsimp only at hSw); go_simp; first | done | (with_reducible rfl))
          show wpAnyH _ _ _ _ _ _ _ (Act.put _ (some 89) _) _
          simp only [Act.put, List.setIfInBounds_toArray, List.set_cons_zero, List.set_cons_succ]
          refine wpAnyH_take (i := 2) (v := ?_) rfl (by kernel_rfl) (by kernel_rfl) (by kernel_rfl) (fun _ _ _ h => h) (Or.inl ⟨by rfl, ?_⟩) (by assumption) ?_
          case refine_2 => (intro w hSw; (try dsimp only at hSw); go_simp; first | done | (with_reducible rfl))
          show wpAnyH _ _ _ _ _ _ _ (Act.put _ (some 90) _) _
          simp only [Act.put, List.setIfInBounds_toArray, List.set_cons_zero, List.set_cons_succ]
          refine wpAnyH_take (i := 3) (v := ?_) rfl (by kernel_rfl) (by kernel_rfl) (by kernel_rfl) (fun _ _ _ h => h) (Or.inl ⟨by rfl, ?_⟩) (by assumption) ?_
          case refine_2 => (intro w hSw; (try dsimp only at hSw); go_simp; first | done | (with_reducible rfl))
          show wpAnyH _ _ _ _ _ _ _ (Act.put _ (some 91) _) _
          simp only [Act.put, List.setIfInBounds_toArray, List.set_cons_zero, List.set_cons_succ]
          refine wpAnyH_take (i := 4) (v := ?_) rfl (by kernel_rfl) (by kernel_rfl) (by kernel_rfl) (fun _ _ _ h => h) (Or.inl ⟨by rfl, ?_⟩) (by assumption) ?_
          case refine_2 => (intro w hSw; (try dsimp only at hSw); go_simp; first | done | (with_reducible rfl))
          show wpAnyH _ _ _ _ _ _ _ (Act.put _ (some 92) _) _
          simp only [Act.put, List.setIfInBounds_toArray, List.set_cons_zero, List.set_cons_succ]
          refine wpAnyH_take (i := 5) (v := ?_) rfl (by kernel_rfl) (by kernel_rfl) (by kernel_rfl) (fun _ _ _ h => h) (Or.inl ⟨by rfl, ?_⟩) (by assumption) ?_
          case refine_2 => (intro w hSw; (try dsimp only at hSw); go_simp; first | done | (with_reducible rfl))
          show wpAnyH _ _ _ _ _ _ _ (Act.put _ (some 93) _) _
          simp only [Act.put, List.setIfInBounds_toArray, List.set_cons_zero, List.set_cons_succ]
          refine wpAnyH_take (i := 6) (v := ?_) rfl (by kernel_rfl) (by kernel_rfl) (by kernel_rfl) (fun _ _ _ h => h) (Or.inl ⟨by rfl, ?_⟩) (by assumption) ?_
          case refine_2 => (intro w hSw; (try dsimp only at hSw); go_simp; first | done | (with_reducible rfl))
          show wpAnyH _ _ _ _ _ _ _ (Act.put _ (some 94) _) _
          simp only [Act.put, List.setIfInBounds_toArray, List.set_cons_zero, List.set_cons_succ]
          refine wpAnyH_take (i := 7) (v := ?_) rfl (by kernel_rfl) (by kernel_rfl) (by kernel_rfl) (fun _ _ _ h => h) (Or.inl ⟨by rfl, ?_⟩) (by assumption) ?_
          case refine_2 => (intro w hSw; (try dsimp only at hSw); go_simp; first | done | (with_reducible rfl))
          show wpAnyH _ _ _ _ _ _ _ (Act.put _ (some 95) _) _
          simp only [Act.put, List.setIfInBounds_toArray, List.set_cons_zero, List.set_cons_succ]
          refine wpAnyH_take (i := 8) (v := ?_) rfl (by kernel_rfl) (by kernel_rfl) (by kernel_rfl) (fun _ _ _ h => h) (Or.inl ⟨by rfl, ?_⟩) (by assumption) ?_
          case refine_2 => (intro w hSw; (try dsimp only at hSw); go_simp; first | done | (with_reducible rfl))
          show wpAnyH _ _ _ _ _ _ _ (Act.put _ (some 96) _) _
          simp only [Act.put, List.setIfInBounds_toArray, List.set_cons_zero, List.set_cons_succ]
          refine wpAnyH_take (i := 9) (v := ?_) rfl (by kernel_rfl) (by kernel_rfl) (by kernel_rfl) (fun _ _ _ h => h) (Or.inl ⟨by rfl, ?_⟩) (by assumption) ?_
          case refine_2 => (intro w hSw; (try dsimp only at hSw); go_simp; first | done | (with_reducible rfl))
          show wpAnyH _ _ _ _ _ _ _ (Act.put _ (some 97) _) _
          simp only [Act.put, List.setIfInBounds_toArray, List.set_cons_zero, List.set_cons_succ]
          refine wpAnyH_take (i := 10) (v := ?_) rfl (by kernel_rfl) (by kernel_rfl) (by kernel_rfl) (fun _ _ _ h => h) (Or.inl ⟨by rfl, ?_⟩) (by assumption) ?_
          case refine_2 => (intro w hSw; (try dsimp only at hSw); go_simp; first | done | (with_reducible rfl))
          show wpAnyH _ _ _ _ _ _ _ (Act.put _ (some 98) _) _
          simp only [Act.put, List.setIfInBounds_toArray, List.set_cons_zero, List.set_cons_succ]
          refine wpAnyH_take (i := 11) (v := ?_) rfl (by kernel_rfl) (by kernel_rfl) (by kernel_rfl) (fun _ _ _ h => h) (Or.inl ⟨by rfl, ?_⟩) (by assumption) ?_
          case refine_2 => (intro w hSw; (try dsimp only at hSw); go_simp; first | done | (with_reducible rfl))
          show wpAnyH _ _ _ _ _ _ _ (Act.put _ (some 99) _) _
          simp only [Act.put, List.setIfInBounds_toArray, List.set_cons_zero, List.set_cons_succ]
          refine wpAnyH_take (i := 12) (v := ?_) rfl (by kernel_rfl) (by kernel_rfl) (by kernel_rfl) (fun _ _ _ h => h) (Or.inl ⟨by rfl, ?_⟩) (by assumption) ?_
          case refine_2 => (intro w hSw; (try dsimp only at hSw); go_simp; first | done | (with_reducible rfl))
          show wpAnyH _ _ _ _ _ _ _ (Act.put _ (some 100) _) _
          simp only [Act.put, List.setIfInBounds_toArray, List.set_cons_zero, List.set_cons_succ]
          refine wpAnyH_take (i := 13) (v := ?_) rfl (by kernel_rfl) (by kernel_rfl) (by kernel_rfl) (fun _ _ _ h => h) (Or.inl ⟨by rfl, ?_⟩) (by assumption) ?_
          case refine_2 => (intro w hSw; (try dsimp only at hSw); go_simp; first | done | (with_reducible rfl))
          show wpAnyH _ _ _ _ _ _ _ (Act.put _ (some 101) _) _
          simp only [Act.put, List.setIfInBounds_toArray, List.set_cons_zero, List.set_cons_succ]
          refine wpAnyH_take (i := 14) (v := ?_) rfl (by kernel_rfl) (by kernel_rfl) (by kernel_rfl) (fun _ _ _ h => h) (Or.inl ⟨by rfl, ?_⟩) (by assumption) ?_
          case refine_2 => (intro w hSw; (try dsimp only at hSw); go_simp; first | done | (with_reducible rfl))
          show wpAnyH _ _ _ _ _ _ _ (Act.put _ (some 102) _) _
          simp only [Act.put, List.setIfInBounds_toArray, List.set_cons_zero, List.set_cons_succ]
          refine wpAnyH_ready (rs := [15]) (by kernel_rfl) (by simp) ?_
          refine AllReadyH.cons rfl (fun K hK => ?_) AllReadyH.nil
          go_simp
          go_at_call 16
          refine (register6 b0 o0 c0 b1 o1 c1 B C s fv pv _ s2 hHr hf0 hf1).mono ?_
          rintro e w1 ⟨rfl, hbr⟩
          rw [hr]
          go_wp2_with fail
          refine hK.out _ _ ?_ (fun hHeld => ?_)
          · ((go_split_ands; refine ⟨?_, ?_, ?_, ?_, ?_, ?_, ?_, ?_⟩ <;> first | exact (Below.refl _ _).drew | exact ((Below.refl _ _).drew).trans hbr | exact step_cell hbr (by assumption) | go_keep))
          clear hK K
          refine wpAnyH_take (i := 16) (v := ?_) rfl (by kernel_rfl) (by kernel_rfl) (by kernel_rfl) (fun _ _ _ h => h) (Or.inl ⟨by rfl, ?_⟩) (by assumption) ?_
          case refine_2 => (intro w hSw; (try dsimp only at hSw); go_simp; first | done | (with_reducible rfl))
          show wpAnyH _ _ _ _ _ _ _ (Act.put _ (some 104) _) _
          simp only [Act.put, List.setIfInBounds_toArray, List.set_cons_zero, List.set_cons_succ]
          refine wpAnyH_take (i := 17) (v := ?_) rfl (by kernel_rfl) (by kernel_rfl) (by kernel_rfl) (fun _ _ _ h => h) (Or.inl ⟨by rfl, ?_⟩) (by assumption) ?_
          case refine_2 => (intro w hSw; (try dsimp only at hSw); go_simp; first | done | (with_reducible rfl))
          show wpAnyH _ _ _ _ _ _ _ (Act.put _ (some 105) _) _
          simp only [Act.put, List.setIfInBounds_toArray, List.set_cons_zero, List.set_cons_succ]
          refine wpAnyH_take (i := 18) (v := ?_) rfl (by kernel_rfl) (by kernel_rfl) (by kernel_rfl) (fun _ _ _ h => h) (Or.inl ⟨by rfl, ?_⟩) (by assumption) ?_
          case refine_2 => (intro w hSw; (try dsimp only at hSw); go_simp; first | done | (with_reducible rfl))
          show wpAnyH _ _ _ _ _ _ _ (Act.put _ (some 106) _) _
          simp only [Act.put, List.setIfInBounds_toArray, List.set_cons_zero, List.set_cons_succ]
          refine wpAnyH_take (i := 19) (v := ?_) rfl (by kernel_rfl) (by kernel_rfl) (by kernel_rfl) (fun _ _ _ h => h) (Or.inl ⟨by rfl, ?_⟩) (by assumption) ?_
          case refine_2 => (intro w hSw; (try dsimp only at hSw); go_simp; first | done | (with_reducible rfl))
          show wpAnyH _ _ _ _ _ _ _ (Act.put _ (some 107) _) _
          simp only [Act.put, List.setIfInBounds_toArray, List.set_cons_zero, List.set_cons_succ]
          refine wpAnyH_take (i := 20) (v := ?_) rfl (by kernel_rfl) (by kernel_rfl) (by kernel_rfl) (fun _ _ _ h => h) (Or.inl ⟨by rfl, ?_⟩) (by assumption) ?_
          case refine_2 => (intro w hSw; (try dsimp only at hSw); go_simp; first | done | (with_reducible rfl))
          show wpAnyH _ _ _ _ _ _ _ (Act.put _ (some 108) _) _
          simp only [Act.put, List.setIfInBounds_toArray, List.set_cons_zero, List.set_cons_succ]
          refine wpAnyH_take (i := 21) (v := ?_) rfl (by kernel_rfl) (by kernel_rfl) (by kernel_rfl) (fun _ _ _ h => h) (Or.inl ⟨by rfl, ?_⟩) (by assumption) ?_
          case refine_2 => (intro w hSw; (try dsimp only at hSw); go_simp; first | done | (with_reducible rfl))
          show wpAnyH _ _ _ _ _ _ _ (Act.put _ (some 109) _) _
          simp only [Act.put, List.setIfInBounds_toArray, List.set_cons_zero, List.set_cons_succ]
          refine wpAnyH_take (i := 22) (v := ?_) rfl (by kernel_rfl) (by kernel_rfl) (by kernel_rfl) (fun _ _ _ h => h) (Or.inl ⟨by rfl, ?_⟩) (by assumption) ?_
          case refine_2 => (intro w hSw; (try dsimp only at hSw); go_simp; first | done | (with_reducible rfl))
          show wpAnyH _ _ _ _ _ _ _ (Act.put _ (some 110) _) _
          simp only [Act.put, List.setIfInBounds_toArray, List.set_cons_zero, List.set_cons_succ]
          refine wpAnyH_take (i := 23) (v := ?_) rfl (by kernel_rfl) (by kernel_rfl) (by kernel_rfl) (fun _ _ _ h => h) (Or.inl ⟨by rfl, ?_⟩) (by assumption) ?_
          case refine_2 => (intro w hSw; (try dsimp only at hSw); go_simp; first | done | (with_reducible rfl))
          show wpAnyH _ _ _ _ _ _ _ (Act.put _ (some 111) _) _
          simp only [Act.put, List.setIfInBounds_toArray, List.set_cons_zero, List.set_cons_succ]
          refine wpAnyH_take (i := 24) (v := ?_) rfl (by kernel_rfl) (by kernel_rfl) (by kernel_rfl) (fun _ _ _ h => h) (Or.inl ⟨by rfl, ?_⟩) (by assumption) ?_
          case refine_2 => (intro w hSw; (try dsimp only at hSw); go_simp; first | done | (with_reducible rfl))
          show wpAnyH _ _ _ _ _ _ _ (Act.put _ (some 112) _) _
          simp only [Act.put, List.setIfInBounds_toArray, List.set_cons_zero, List.set_cons_succ]
          refine wpAnyH_take (i := 25) (v := undef) rfl (by kernel_rfl) (by kernel_rfl) (by kernel_rfl) (fun _ _ _ h => h) (Or.inr ⟨by rfl, rfl⟩) (by assumption) ?_
          show wpAnyH _ _ _ _ _ _ _ (Act.put _ (some 113) _) _
          simp only [Act.put, List.setIfInBounds_toArray, List.set_cons_zero, List.set_cons_succ]
          refine wpAnyH_take (i := 26) (v := undef) rfl (by kernel_rfl) (by kernel_rfl) (by kernel_rfl) (fun _ _ _ h => h) (Or.inr ⟨by rfl, rfl⟩) (by assumption) ?_
          show wpAnyH _ _ _ _ _ _ _ (Act.put _ (some 114) _) _
          simp only [Act.put, List.setIfInBounds_toArray, List.set_cons_zero, List.set_cons_succ]
          refine wpAnyH_take (i := 27) (v := undef) rfl (by kernel_rfl) (by kernel_rfl) (by kernel_rfl) (fun _ _ _ h => h) (Or.inr ⟨by rfl, rfl⟩) (by assumption) ?_
          show wpAnyH _ _ _ _ _ _ _ (Act.put _ (some 115) _) _
          simp only [Act.put, List.setIfInBounds_toArray, List.set_cons_zero, List.set_cons_succ]
          refine wpAnyH_take (i := 28) (v := undef) rfl (by kernel_rfl) (by kernel_rfl) (by kernel_rfl) (fun _ _ _ h => h) (Or.inr ⟨by rfl, rfl⟩) (by assumption) ?_
          show wpAnyH _ _ _ _ _ _ _ (Act.put _ (some 116) _) _
          simp only [Act.put, List.setIfInBounds_toArray, List.set_cons_zero, List.set_cons_succ]
          refine wpAnyH_take (i := 29) (v := undef) rfl (by kernel_rfl) (by kernel_rfl) (by kernel_rfl) (fun _ _ _ h => h) (Or.inr ⟨by rfl, rfl⟩) (by assumption) ?_
          show wpAnyH _ _ _ _ _ _ _ (Act.put _ (some 117) _) _
          simp only [Act.put, List.setIfInBounds_toArray, List.set_cons_zero, List.set_cons_succ]
          refine wpAnyH_take (i := 30) (v := undef) rfl (by kernel_rfl) (by kernel_rfl) (by kernel_rfl) (fun _ _ _ h => h) (Or.inr ⟨by rfl, rfl⟩) (by assumption) ?_
          show wpAnyH _ _ _ _ _ _ _ (Act.put _ (some 118) _) _
          simp only [Act.put, List.setIfInBounds_toArray, List.set_cons_zero, List.set_cons_succ]
          refine wpAnyH_take (i := 31) (v := undef) rfl (by kernel_rfl) (by kernel_rfl) (by kernel_rfl) (fun _ _ _ h => h) (Or.inr ⟨by rfl, rfl⟩) (by assumption) ?_
          show wpAnyH _ _ _ _ _ _ _ (Act.put _ (some 119) _) _
          simp only [Act.put, List.setIfInBounds_toArray, List.set_cons_zero, List.set_cons_succ]
          refine wpAnyH_take (i := 32) (v := undef) rfl (by kernel_rfl) (by kernel_rfl) (by kernel_rfl) (fun _ _ _ h => h) (Or.inr ⟨by rfl, rfl⟩) (by assumption) ?_
          show wpAnyH _ _ _ _ _ _ _ (Act.put _ (some 120) _) _
          simp only [Act.put, List.setIfInBounds_toArray, List.set_cons_zero, List.set_cons_succ]
          refine wpAnyH_take (i := 33) (v := undef) rfl (by kernel_rfl) (by kernel_rfl) (by kernel_rfl) (fun _ _ _ h => h) (Or.inr ⟨by rfl, rfl⟩) (by assumption) ?_
          show wpAnyH _ _ _ _ _ _ _ (Act.put _ (some 121) _) _
          simp only [Act.put, List.setIfInBounds_toArray, List.set_cons_zero, List.set_cons_succ]
          refine wpAnyH_take (i := 34) (v := undef) rfl (by kernel_rfl) (by kernel_rfl) (by kernel_rfl) (fun _ _ _ h => h) (Or.inr ⟨by rfl, rfl⟩) (by assumption) ?_
          show wpAnyH _ _ _ _ _ _ _ (Act.put _ (some 122) _) _
          simp only [Act.put, List.setIfInBounds_toArray, List.set_cons_zero, List.set_cons_succ]
          refine wpAnyH_take (i := 35) (v := undef) rfl (by kernel_rfl) (by kernel_rfl) (by kernel_rfl) (fun _ _ _ h => h) (Or.inr ⟨by rfl, rfl⟩) (by assumption) ?_
          show wpAnyH _ _ _ _ _ _ _ (Act.put _ (some 123) _) _
          simp only [Act.put, List.setIfInBounds_toArray, List.set_cons_zero, List.set_cons_succ]
          refine wpAnyH_take (i := 36) (v := undef) rfl (by kernel_rfl) (by kernel_rfl) (by kernel_rfl) (fun _ _ _ h => h) (Or.inr ⟨by rfl, rfl⟩) (by assumption) ?_
          show wpAnyH _ _ _ _ _ _ _ (Act.put _ (some 124) _) _
          simp only [Act.put, List.setIfInBounds_toArray, List.set_cons_zero, List.set_cons_succ]
          refine wpAnyH_take (i := 37) (v := undef) rfl (by kernel_rfl) (by kernel_rfl) (by kernel_rfl) (fun _ _ _ h => h) (Or.inr ⟨by rfl, rfl⟩) (by assumption) ?_
          show wpAnyH _ _ _ _ _ _ _ (Act.put _ (some 125) _) _
          simp only [Act.put, List.setIfInBounds_toArray, List.set_cons_zero, List.set_cons_succ]
          refine wpAnyH_take (i := 38) (v := undef) rfl (by kernel_rfl) (by kernel_rfl) (by kernel_rfl) (fun _ _ _ h => h) (Or.inr ⟨by rfl, rfl⟩) (by assumption) ?_
          show wpAnyH _ _ _ _ _ _ _ (Act.put _ (some 126) _) _
          simp only [Act.put, List.setIfInBounds_toArray, List.set_cons_zero, List.set_cons_succ]
          refine wpAnyH_take (i := 39) (v := ?_) rfl (by kernel_rfl) (by kernel_rfl) (by kernel_rfl) (fun _ _ _ h => h) (Or.inl ⟨by rfl, ?_⟩) (by assumption) ?_
          case refine_2 => (intro w hSw; (try dsimp only at hSw); go_simp; first | done | (with_reducible rfl))
          show wpAnyH _ _ _ _ _ _ _ (Act.put _ (some 127) _) _
          simp only [Act.put, List.setIfInBounds_toArray, List.set_cons_zero, List.set_cons_succ]
          refine wpAnyH_take (i := 40) (v := ?_) rfl (by kernel_rfl) (by kernel_rfl) (by kernel_rfl) (fun _ _ _ h => h) (Or.inl ⟨by rfl, ?_⟩) (by assumption) ?_
          case refine_2 => (intro w hSw; (try dsimp only at hSw); go_simp; first | done | (with_reducible rfl))
          show wpAnyH _ _ _ _ _ _ _ (Act.put _ (some 128) _) _
          simp only [Act.put, List.setIfInBounds_toArray, List.set_cons_zero, List.set_cons_succ]
          refine wpAnyH_done (by kernel_rfl) ?_ _
          go_wp2
          refine ⟨⟨j + 1, by omega, by go_num, step_below hbr hbw.drew, fun x hx => ?_⟩, by simp [intOf]; omega⟩
          by_cases hxj : x < j
          · exact FJ.out x hxj
          · obtain rfl : x = j := by omega
            rw [← HTV.out, ← HFV.out, ← HPV.out]; exact hr

theorem may6 (pv lv : Value) (B : List Bool) (C : List LIns) (s slots : Int) (R : List LRow) (w : World) (hp : ProgIs w pv B C) (hl : PlacedIs w lv slots R) :
    Calls Tryz.prog 5 #[pv, targetV s, lv] w fun e w' => e = .returned (.bool (placeMayB B C s slots R)) ∧ Below w.heap.size w w' := by
  cases hc : (refMayB B C && targetB s && !decide (slots < 0) && !decide (12 < slots) && decide (R.length = C.length))
  · rw [show placeMayB B C s slots R = false by unfold placeMayB; rw [hc]; rfl]
    exact may6_no pv lv B C s slots R w hp hl hc
  · rw [show placeMayB B C s slots R = (List.range C.length).all (fun k => rowB B s slots (C.getD k .zero) (R.getD k .zero)) by unfold placeMayB; rw [hc]; rfl]
    simp only [Bool.and_eq_true, Bool.not_eq_true', decide_eq_true_eq, decide_eq_false_iff_not] at hc
    obtain ⟨⟨⟨⟨hm, ht⟩, hs0⟩, hs1⟩, hlen⟩ := hc
    have hsz : sizesB B C = true := by unfold refMayB at hm; simp only [Bool.and_eq_true] at hm; exact hm.1
    obtain ⟨s1, s2, s3, s4⟩ := sizes_of hsz
    obtain ⟨⟨a0, c0, a1, c1, rfl, hh⟩, l0, l1, hn⟩ := hp
    obtain ⟨b0, o0, b1, o1, rfl, rfl, hH⟩ := hh s1 s3
    obtain ⟨ao, cap, rfl, lR, hr⟩ := hl
    obtain ⟨b2, o2, rfl, hR⟩ := hr (by omega)
    exact may6_yes b0 o0 c0 b1 o1 c1 b2 o2 cap B C s slots R w hH hR hn hm ht hs0 hs1 hlen

end Go.Proofs.YtcmnmogmdhofcaaGreat.form
