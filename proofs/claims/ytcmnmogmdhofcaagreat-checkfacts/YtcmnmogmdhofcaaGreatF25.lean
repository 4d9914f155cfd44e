/- The world of all facts that may be (loanbookref8.Of). -/
import Derived.Deep.RegionHeld3
import Derived.Deep.DeepCutAuto
import Derived.Test.YtcmnmogmdhofcaaGreatF24

namespace Go.Proofs.YtcmnmogmdhofcaaGreat.form
open Go.RowKit Go.Proofs.YtcmnmogmdhofcaaGreat.num
set_option linter.unusedVariables false
attribute [local go_sem ↓] Go.wp_at_zero Go.wp_at_succ

structure Of0 (w : World) (b0 o0 nB c0 b1 o1 nC c1 s : Nat) (N : List Int) (bw nb nc : Nat) (wq : World) : Prop where
  bel : Below w.heap.size w wq
  p0 : wq.cell? ⟨w.heap.size, 0, none⟩ = some (.slice (some ⟨b0, o0, none⟩) nB c0)
  p1 : wq.cell? ⟨w.heap.size, 1, none⟩ = some (.slice (some ⟨b1, o1, none⟩) nC c1)
  t0 : wq.cell? ⟨w.heap.size + 1, 0, none⟩ = some (.int .i64 s)
  r : Row wq (w.heap.size + 1 + 1) 66 [.slice none 0 0, .slice none 0 0, .slice none 0 0, .slice none 0 0, .slice none 0 0]
  rb : Row wq bw 66 [.slice (some ⟨b0, o0, none⟩) nB c0, .slice (some ⟨b1, o1, none⟩) nC c1, .slice none 0 0, .slice none 0 0, .slice (some ⟨nb, 0, none⟩) N.length nc]
  nlo : w.heap.size + 3 ≤ bw ∧ w.heap.size + 3 ≤ nb ∧ nb ≠ bw ∧ nb < wq.heap.size
  nums : ∀ j, j < N.length → wq.cell? ⟨nb, j, none⟩ = some (.int .u32 (N.getD j 0))

theorem of0_A {w wB w1 : World} {b0 o0 nB c0 b1 o1 nC c1 s : Nat} {N : List Int} {nao : Option Addr} {ncap : Nat} (HBB : Below w.heap.size w wB) (hz : wB.heap.size = w.heap.size + 3) (h0 : wB.cell? ⟨w.heap.size, 0, none⟩ = some (.slice (some ⟨b0, o0, none⟩) nB c0)) (h1 : wB.cell? ⟨w.heap.size, 1, none⟩ = some (.slice (some ⟨b1, o1, none⟩) nC c1)) (ht : wB.cell? ⟨w.heap.size + 1, 0, none⟩ = some (.int .i64 s))
    (hr : Row wB (w.heap.size + 1 + 1) 66 [.slice none 0 0, .slice none 0 0, .slice none 0 0, .slice none 0 0, .slice none 0 0]) (hu : U32sAt wB.heap.size w1 (.slice nao N.length ncap) N) (hb : Below wB.heap.size wB w1) (hN : 1 ≤ N.length) :
    ∃ nb nc, Of0 w b0 o0 nB c0 b1 o1 nC c1 s N w1.heap.size nb nc (w1.alloc (.cells #[.slice (some ⟨b0, o0, none⟩) nB c0, .slice (some ⟨b1, o1, none⟩) nC c1, .slice none 0 0, .slice none 0 0, .slice nao N.length ncap] 66)) := by
  obtain ⟨_, _, he, hh⟩ := hu
  simp only [Value.slice.injEq] at he
  obtain ⟨rfl, -, rfl⟩ := he
  obtain ⟨nb, rfl, e2, e3, e4⟩ := hh (by omega)
  have ha : Below w1.heap.size w1 (w1.alloc (.cells #[.slice (some ⟨b0, o0, none⟩) nB c0, .slice (some ⟨b1, o1, none⟩) nC c1, .slice none 0 0, .slice none 0 0, .slice (some ⟨nb, 0, none⟩) N.length ncap] 66)) := (Below.refl _ _).alloc (Nat.le_refl _) _
  have hs := hb.size
  refine ⟨nb, ncap, step_below ha (step_below hb HBB), step_cell ha (step_cell hb h0), step_cell ha (step_cell hb h1), step_cell ha (step_cell hb ht), (hr.below hb).below ha, ?_, ⟨by omega, by omega, by omega, Nat.lt_of_lt_of_le e3 ha.size⟩, fun j hj => step_cell ha (e4 j hj)⟩
  exact Row.new w1 66 [.slice (some ⟨b0, o0, none⟩) nB c0, .slice (some ⟨b1, o1, none⟩) nC c1, .slice none 0 0, .slice none 0 0, .slice (some ⟨nb, 0, none⟩) N.length ncap]

theorem of0_B {w wB w1 : World} {b0 o0 nB c0 b1 o1 nC c1 s : Nat} {N : List Int} {nao : Option Addr} {ncap : Nat} (HBB : Below w.heap.size w wB) (hz : wB.heap.size = w.heap.size + 3) (h0 : wB.cell? ⟨w.heap.size, 0, none⟩ = some (.slice (some ⟨b0, o0, none⟩) nB c0)) (h1 : wB.cell? ⟨w.heap.size, 1, none⟩ = some (.slice (some ⟨b1, o1, none⟩) nC c1)) (ht : wB.cell? ⟨w.heap.size + 1, 0, none⟩ = some (.int .i64 s))
    (hr : Row wB (w.heap.size + 1 + 1) 66 [.slice none 0 0, .slice none 0 0, .slice none 0 0, .slice none 0 0, .slice none 0 0]) (hu : U32sAt (wB.heap.size + 1) w1 (.slice nao N.length ncap) N) (hb : Below wB.heap.size wB w1) (hw : Row w1 wB.heap.size 66 [.slice none 0 0, .slice none 0 0, .slice none 0 0, .slice none 0 0, .slice none 0 0]) (hN : 1 ≤ N.length) :
    ∃ nb nc, Of0 w b0 o0 nB c0 b1 o1 nC c1 s N wB.heap.size nb nc (((((w1.setCell ⟨wB.heap.size, 0, none⟩ (.slice (some ⟨b0, o0, none⟩) nB c0)).setCell ⟨wB.heap.size, 1, none⟩ (.slice (some ⟨b1, o1, none⟩) nC c1)).setCell ⟨wB.heap.size, 2, none⟩ (.slice none 0 0)).setCell ⟨wB.heap.size, 3, none⟩ (.slice none 0 0)).setCell ⟨wB.heap.size, 4, none⟩ (.slice nao N.length ncap)) := by
  obtain ⟨_, _, he, hh⟩ := hu
  simp only [Value.slice.injEq] at he
  obtain ⟨rfl, -, rfl⟩ := he
  obtain ⟨nb, rfl, e2, e3, e4⟩ := hh (by omega)
  have hs := hb.size
  have cell : ∀ (p : Addr) (v : Value), p.block ≠ wB.heap.size → w1.cell? p = some v → (((((w1.setCell ⟨wB.heap.size, 0, none⟩ (.slice (some ⟨b0, o0, none⟩) nB c0)).setCell ⟨wB.heap.size, 1, none⟩ (.slice (some ⟨b1, o1, none⟩) nC c1)).setCell ⟨wB.heap.size, 2, none⟩ (.slice none 0 0)).setCell ⟨wB.heap.size, 3, none⟩ (.slice none 0 0)).setCell ⟨wB.heap.size, 4, none⟩ (.slice (some ⟨nb, 0, none⟩) N.length ncap)).cell? p = some v := fun p v hn hc =>
    cell_other (cell_other (cell_other (cell_other (cell_other hc (by exact hn)) (by exact hn)) (by exact hn)) (by exact hn)) (by exact hn)
  refine ⟨nb, ncap, ?_, cell _ _ (by dsimp only; omega) (step_cell hb h0), cell _ _ (by dsimp only; omega) (step_cell hb h1), cell _ _ (by dsimp only; omega) (step_cell hb ht), ?_, ?_, ⟨by omega, by omega, by omega, by simpa using e3⟩, fun j hj => cell _ _ (by dsimp only; omega) (e4 j hj)⟩
  · exact (((((step_below hb HBB).setCell (by dsimp only; omega) _).setCell (by dsimp only; omega) _).setCell (by dsimp only; omega) _).setCell (by dsimp only; omega) _).setCell (by dsimp only; omega) _
  · exact (((((hr.below hb).other (by dsimp only; omega) _).other (by dsimp only; omega) _).other (by dsimp only; omega) _).other (by dsimp only; omega) _).other (by dsimp only; omega) _
  · have := ((((hw.set 0 (.slice (some ⟨b0, o0, none⟩) nB c0)).set 1 (.slice (some ⟨b1, o1, none⟩) nC c1)).set 2 (.slice none 0 0)).set 3 (.slice none 0 0)).set 4 (.slice (some ⟨nb, 0, none⟩) N.length ncap)
    simpa using this

set_option maxRecDepth 100000 in
set_option maxHeartbeats 8000000 in
theorem of8 (b0 o0 c0 b1 o1 c1 : Nat) (B : List Bool) (C : List LIns) (s slots : Nat) (w : World) (h : Held w b0 o0 b1 o1 B C) (hB1 : 1 ≤ B.length) (hB : B.length ≤ 12) (hC : C.length ≤ 40) (hs0 : s % 2 = 0) (hs1 : 4 ≤ s) (hs2 : s ≤ 16) (hsl : slots ≤ 12) :
    Calls Tryz.prog 18 #[progV b0 o0 B.length c0 b1 o1 C.length c1, targetV s, .int .i64 slots] w fun e w' => OfAns8 b0 o0 c0 b1 o1 c1 B C s slots e w' ∧ Below w.heap.size w w' := by
  have hNl : (numsL C).length ≤ 41 := Nat.le_trans (nums_len C) (by omega)
  have hN1 : 1 ≤ (numsL C).length := by
    have : (0 : Int) ∈ numsL C := (nums_mem C 0).2 (Or.inl rfl)
    exact List.length_pos_of_mem this
  have HNU : Hid (∀ wx : World, Below w.heap.size w wx → Calls Tryz.prog 34 #[.agg #[.slice (some ⟨b0, o0, none⟩) B.length c0, .slice (some ⟨b1, o1, none⟩) C.length c1]] wx fun e w' => (∃ v, e = .returned v ∧ U32sAt wx.heap.size w' v (numsL C)) ∧ Below wx.heap.size wx w') := fun wx hb => numbers8 b0 o0 c0 b1 o1 c1 B C wx hC (h.later hb)
  have HMA : Hid (∀ (wx : World) (kind : Int) (x : Nat), Below w.heap.size w wx → x < B.length → Calls Tryz.prog 35 #[.agg #[.slice (some ⟨b0, o0, none⟩) B.length c0, .slice (some ⟨b1, o1, none⟩) C.length c1], .int .i64 kind, .int .i64 x] wx fun e w' => e = .returned (.bool (mayK B kind x)) ∧ Below wx.heap.size wx w') := fun wx kind x hb hx => may8 b0 o0 c0 b1 o1 c1 B C kind x wx hB (h.later hb) hx
  have HWI : Hid (∀ (wx : World) (x : Nat), Below w.heap.size w wx → x < B.length → wx.cell? ⟨b0, o0 + x, none⟩ = some (.bool (B.getD x false))) := fun wx x hb hx => (h.later hb).wide x hx
  have hh0 := h.lt0
  obtain ⟨N, hN⟩ : ∃ N, N = numsL C := ⟨_, rfl⟩
  rw [← hN] at hNl hN1 HNU
  have HN : Hid (numsL C = N) := hN.symm
  clear hN h
  have y2 : (C.length : Int) ≤ 40 := by omega
  have y3 : (B.length : Int) ≤ 12 := by omega
  have y4 : (N.length : Int) ≤ 41 := by omega
  have y5 : (s : Int) ≤ 16 := by omega
  have y6 : (slots : Int) ≤ 12 := by omega
  unfold progV targetV
  go_enter Tryz.func18, Tryz.ntmps18
  go_upto_region 1 with fail
  go_cut [7, 18, 19] (fun s7 s18 s19 wq => ∃ bw nb nc, s7 = .pointer (some ⟨bw, 0, none⟩) ∧ Of0 w b0 o0 B.length c0 b1 o1 C.length c1 s N bw nb nc wq)
  case first =>
    have HB3 : Hid (∀ o1 o2 o3 : Obj, Below w.heap.size w (((w.alloc o1).alloc o2).alloc o3)) := fun o1 o2 o3 => (((Below.refl _ _).alloc (Nat.le_refl _) _).alloc (by simp) _).alloc (by simp; omega) _
    obtain ⟨wB, hwB⟩ : ∃ wB, wB = ((w.alloc (.cells #[.slice (some ⟨b0, o0, none⟩) B.length c0, .slice (some ⟨b1, o1, none⟩) C.length c1] 25)).alloc (.cells #[.int .i64 s] 27)).alloc (.cells #[.slice none 0 0, .slice none 0 0, .slice none 0 0, .slice none 0 0, .slice none 0 0] 66) := ⟨_, rfl⟩
    rw [← hwB]
    have p0 : wB.cell? ⟨w.heap.size, 0, none⟩ = some (.slice (some ⟨b0, o0, none⟩) B.length c0) := by rw [hwB]; simp [go_sem]
    have p1 : wB.cell? ⟨w.heap.size, 1, none⟩ = some (.slice (some ⟨b1, o1, none⟩) C.length c1) := by rw [hwB]; simp [go_sem]
    have HT0 : Hid (wB.cell? ⟨w.heap.size + 1, 0, none⟩ = some (.int .i64 s)) := by
      have : wB.cell? ⟨w.heap.size + 1, 0, none⟩ = some (.int .i64 s) := by rw [hwB]; simp [go_sem]
      exact this
    have HR0 : Hid (Row wB (w.heap.size + 1 + 1) 66 [.slice none 0 0, .slice none 0 0, .slice none 0 0, .slice none 0 0, .slice none 0 0]) := by
      have := Row.new ((w.alloc (.cells #[.slice (some ⟨b0, o0, none⟩) B.length c0, .slice (some ⟨b1, o1, none⟩) C.length c1] 25)).alloc (.cells #[.int .i64 s] 27)) 66 [.slice none 0 0, .slice none 0 0, .slice none 0 0, .slice none 0 0, .slice none 0 0]
      have t : Row wB (w.heap.size + 1 + 1) 66 [.slice none 0 0, .slice none 0 0, .slice none 0 0, .slice none 0 0, .slice none 0 0] := by rw [hwB]; simpa using this
      exact t
    have HBB : Hid (Below w.heap.size w wB) := by rw [hwB]; exact HB3.out _ _ _
    have hzB : wB.heap.size = w.heap.size + 3 := by rw [hwB]; simp
    have HP0 : Hid (wB.cell? ⟨w.heap.size, 0, none⟩ = some (.slice (some ⟨b0, o0, none⟩) B.length c0)) := p0
    have HP1 : Hid (wB.cell? ⟨w.heap.size, 1, none⟩ = some (.slice (some ⟨b1, o1, none⟩) C.length c1)) := p1
    have HZB : Hid (wB.heap.size = w.heap.size + 3) := hzB
    clear hwB HB3 hzB
    /- REGION 1 -/
    refine wp_region_held_drew (S := (fun w' => w'.cell? ⟨w.heap.size, 0, none⟩ = some (.slice (some ⟨b0, o0, none⟩) B.length c0) ∧ w'.cell? ⟨w.heap.size, 1, none⟩ = some (.slice (some ⟨b1, o1, none⟩) C.length c1))) (by rfl) ?_ (fun hHeld => ?_)
    · (refine ⟨?_, ?_⟩ <;> go_keep)
    refine wpAnyH_take (i := 0) (v := ?_) rfl (by kernel_rfl) (by kernel_rfl) (by kernel_rfl) (fun _ _ _ h => h) (Or.inl ⟨by rfl, ?_⟩) (by assumption) ?_
    case refine_2 => (intro w hSw; (try dsimp only at hSw); go_simp; first | done | (with_reducible rfl))
    show wpAnyH _ _ _ _ _ _ _ (Act.put _ (some 16) _) _
    simp only [Act.put, List.setIfInBounds_toArray, List.set_cons_zero, List.set_cons_succ]
    refine wpAnyH_take (i := 1) (v := ?_) rfl (by kernel_rfl) (by kernel_rfl) (by kernel_rfl) (fun _ _ _ h => h) (Or.inl ⟨by rfl, ?_⟩) (by assumption) ?_
    case refine_2 => (intro w hSw; (try dsimp only at hSw); go_simp; first | done | (with_reducible rfl))
    show wpAnyH _ _ _ _ _ _ _ (Act.put _ (some 17) _) _
    simp only [Act.put, List.setIfInBounds_toArray, List.set_cons_zero, List.set_cons_succ]
    refine wpAnyH_ready (rs := [2, 4]) (by kernel_rfl) (by simp) ?_
    refine (AllReadyH.cons rfl (fun K hK => ?_) (AllReadyH.cons rfl (fun K hK => ?_) AllReadyH.nil))
    · go_simp
      go_at_call 34; refine (HNU.out wB.drew HBB.out.drew).mono ?_; rintro e w1 ⟨⟨v, rfl, hu⟩, hb1⟩
      have HU1 : Hid (U32sAt wB.heap.size w1 v N) := hu
      have HB1 : Hid (Below wB.heap.size wB w1) := ((Below.refl _ _).drew).trans hb1
      have k0 := step_cell HB1.out HP0.out
      have k1 := step_cell HB1.out HP1.out
      obtain ⟨nao, ncap, rfl, -⟩ := hu
      clear hb1
      go_wp2_with fail
      refine hK.out _ _ ?_ (fun hHeld => ?_)
      · (go_split_ands; refine ⟨?_, ?_⟩ <;> first | assumption | go_keep)
      clear hK K
      try simp only [Act.put, List.setIfInBounds_toArray, List.set_cons_zero, List.set_cons_succ]
      refine wpAnyH_take (i := 3) (v := ?_) rfl (by kernel_rfl) (by kernel_rfl) (by kernel_rfl) (fun _ _ _ h => h) (Or.inl ⟨by rfl, ?_⟩) (by assumption) ?_
      case refine_2 => (intro w hSw; (try dsimp only at hSw); go_simp; first | done | (with_reducible rfl))
      show wpAnyH _ _ _ _ _ _ _ (Act.put _ (some 19) _) _
      simp only [Act.put, List.setIfInBounds_toArray, List.set_cons_zero, List.set_cons_succ]
      refine wpAnyH_ready (rs := [4]) (by kernel_rfl) (by simp) ?_
      refine (AllReadyH.cons rfl (fun K hK => ?_) AllReadyH.nil)
      go_simp
      refine hK.out _ _ ?_ (fun hHeld => ?_)
      · (go_split_ands; refine ⟨?_, ?_⟩ <;> first | assumption | go_keep)
      clear hK K
      try simp only [Act.put, List.setIfInBounds_toArray, List.set_cons_zero, List.set_cons_succ]
      refine wpAnyH_ready (rs := [5]) (by kernel_rfl) (by simp) ?_
      refine (AllReadyH.cons rfl (fun K hK => ?_) AllReadyH.nil)
      go_simp
      refine hK.out _ _ ?_ (fun hHeld => ?_)
      · (go_split_ands; refine ⟨?_, ?_⟩ <;> first | assumption | go_keep)
      clear hK K
      try simp only [Act.put, List.setIfInBounds_toArray, List.set_cons_zero, List.set_cons_succ]
      refine wpAnyH_done (by kernel_rfl) ?_ _
      clear hHeld
      go_wp2
      go_meet
      case rel =>
        obtain ⟨nb, nc, hof⟩ := of0_A HBB.out HZB.out HP0.out HP1.out HT0.out HR0.out HU1.out HB1.out hN1
        exact ⟨_, nb, nc, rfl, hof⟩
    · go_simp
      refine hK.out _ _ ?_ (fun hHeld => ?_)
      · (go_split_ands; refine ⟨?_, ?_⟩ <;> first | assumption | go_keep)
      clear hK K
      try simp only [Act.put, List.setIfInBounds_toArray, List.set_cons_zero, List.set_cons_succ]
      refine wpAnyH_ready (rs := [2]) (by kernel_rfl) (by simp) ?_
      refine (AllReadyH.cons rfl (fun K hK => ?_) AllReadyH.nil)
      go_simp
      go_at_call 34; refine (HNU.out _ (HBB.out.alloc (by have := HZB.out; omega) _).drew).mono ?_; rintro e w1 ⟨⟨v, rfl, hu⟩, hb1⟩
      have hu2 : U32sAt (wB.heap.size + 1) w1 v N := by simpa using hu
      have HU1 : Hid (U32sAt (wB.heap.size + 1) w1 v N) := hu2
      have hrw : Row w1 wB.heap.size 66 [.slice none 0 0, .slice none 0 0, .slice none 0 0, .slice none 0 0, .slice none 0 0] := by
        refine Row.below (w := (wB.alloc (.cells #[.slice none 0 0, .slice none 0 0, .slice none 0 0, .slice none 0 0, .slice none 0 0] 66)).drew) ?_ hb1
        exact Row.new wB 66 [.slice none 0 0, .slice none 0 0, .slice none 0 0, .slice none 0 0, .slice none 0 0]
      have HRW : Hid (Row w1 wB.heap.size 66 [.slice none 0 0, .slice none 0 0, .slice none 0 0, .slice none 0 0, .slice none 0 0]) := hrw
      have HB1 : Hid (Below wB.heap.size wB w1) := (((Below.refl _ _).alloc (Nat.le_refl _) _).drew).trans (hb1.mono (by simp))
      have k0 := step_cell HB1.out HP0.out
      have k1 := step_cell HB1.out HP1.out
      have z0 := hrw.cell 0
      have f0 := hrw.frozen 0
      have z1 := hrw.cell 1
      have f1 := hrw.frozen 1
      have z2 := hrw.cell 2
      have f2 := hrw.frozen 2
      have z3 := hrw.cell 3
      have f3 := hrw.frozen 3
      have z4 := hrw.cell 4
      have f4 := hrw.frozen 4
      simp only [List.getElem?_cons_zero, List.getElem?_cons_succ] at z0 z1 z2 z3 z4
      obtain ⟨nao, ncap, rfl, -⟩ := hu
      clear hu2 hrw hb1
      go_wp2_with fail
      refine hK.out _ _ ?_ (fun hHeld => ?_)
      · (go_split_ands; refine ⟨?_, ?_⟩ <;> first | assumption | go_keep)
      clear hK K
      try simp only [Act.put, List.setIfInBounds_toArray, List.set_cons_zero, List.set_cons_succ]
      refine wpAnyH_take (i := 3) (v := ?_) rfl (by kernel_rfl) (by kernel_rfl) (by kernel_rfl) (fun _ _ _ h => h) (Or.inl ⟨by rfl, ?_⟩) (by assumption) ?_
      case refine_2 => (intro w hSw; (try dsimp only at hSw); go_simp; first | done | (with_reducible rfl))
      show wpAnyH _ _ _ _ _ _ _ (Act.put _ (some 19) _) _
      simp only [Act.put, List.setIfInBounds_toArray, List.set_cons_zero, List.set_cons_succ]
      refine wpAnyH_ready (rs := [5]) (by kernel_rfl) (by simp) ?_
      refine (AllReadyH.cons rfl (fun K hK => ?_) AllReadyH.nil)
      go_simp
      refine hK.out _ _ ?_ (fun hHeld => ?_)
      · (go_split_ands; have hne : w.heap.size ≠ wB.heap.size := by (have := HZB.out; omega)
         refine ⟨?_, ?_⟩
         · exact cell_other (cell_other (cell_other (cell_other (cell_other k0 (by exact hne)) (by exact hne)) (by exact hne)) (by exact hne)) (by exact hne)
         · exact cell_other (cell_other (cell_other (cell_other (cell_other k1 (by exact hne)) (by exact hne)) (by exact hne)) (by exact hne)) (by exact hne))
      clear hK K
      try simp only [Act.put, List.setIfInBounds_toArray, List.set_cons_zero, List.set_cons_succ]
      refine wpAnyH_done (by kernel_rfl) ?_ _
      clear hHeld
      go_wp2
      go_meet
      case rel =>
        obtain ⟨nb, nc, hof⟩ := of0_B HBB.out HZB.out HP0.out HP1.out HT0.out HR0.out HU1.out HB1.out HRW.out hN1
        exact ⟨_, nb, nc, rfl, hof⟩
  obtain ⟨bw, nb, nc, rfl, hof⟩ := hcut
  obtain ⟨wz, hwz⟩ : ∃ wz, wz = wc := ⟨_, rfl⟩
  subst hwz
  have HO : Hid (Of0 w b0 o0 B.length c0 b1 o1 C.length c1 s N bw nb nc wz) := hof
  have hbwl := hof.rb.lt
  obtain ⟨hlo1, hlo2, hnbw, hnbl⟩ := hof.nlo
  have HP0 : Hid (wz.cell? ⟨w.heap.size, 0, none⟩ = some (.slice (some ⟨b0, o0, none⟩) B.length c0)) := hof.p0
  have HP1 : Hid (wz.cell? ⟨w.heap.size, 1, none⟩ = some (.slice (some ⟨b1, o1, none⟩) C.length c1)) := hof.p1
  have HTW : Hid (∀ (wr : World) (l : List LFact) (av : Value), OfT wz bw (.slice (some ⟨b0, o0, none⟩) B.length c0) (.slice (some ⟨b1, o1, none⟩) C.length c1) (.slice (some ⟨nb, 0, none⟩) N.length nc) l av wr → wr.cell? ⟨w.heap.size, 0, none⟩ = some (.slice (some ⟨b0, o0, none⟩) B.length c0) ∧ (∀ x, x < B.length → wr.cell? ⟨b0, o0 + x, none⟩ = some (.bool (B.getD x false))) ∧ (∀ j, j < N.length → wr.cell? ⟨nb, j, none⟩ = some (.int .u32 (N.getD j 0)))) :=
    fun wr l av ht => ⟨ht.old HP0.out (by dsimp only; omega), fun x hx => ht.old (HWI.out wz x HO.out.bel hx) (by dsimp only; omega), fun j hj => ht.old (HO.out.nums j hj) (by dsimp only; omega)⟩
  clear hof
  have HOT0 : Hid (OfT wz bw (.slice (some ⟨b0, o0, none⟩) B.length c0) (.slice (some ⟨b1, o1, none⟩) C.length c1) (.slice (some ⟨nb, 0, none⟩) N.length nc) [] (.slice none 0 0) wz) := ⟨⟨rfl, rfl, rfl, Nat.le_refl _, fun _ _ _ => rfl⟩, hbwl, HO.out.rb, World.ownsRow_nil _ _ _ _⟩
  go_wp2
  go_loopw [8] (fun xv wr => ∃ (x : Nat) (av : Value), xv = .int .i64 x ∧ x ≤ B.length ∧ OfT wz bw (.slice (some ⟨b0, o0, none⟩) B.length c0) (.slice (some ⟨b1, o1, none⟩) C.length c1) (.slice (some ⟨nb, 0, none⟩) N.length nc) ((List.range x).flatMap (tempF B N)) av wr) (fun xv _ => B.length - (intOf xv).toNat)
  case atStart => exact ⟨0, _, rfl, by omega, HOT0.out⟩
  case round =>
    clear HOT0
    obtain ⟨x, av, rfl, hx, hot⟩ := hrel
    have HOT : Hid (OfT wz bw (.slice (some ⟨b0, o0, none⟩) B.length c0) (.slice (some ⟨b1, o1, none⟩) C.length c1) (.slice (some ⟨nb, 0, none⟩) N.length nc) ((List.range x).flatMap (tempF B N)) av wr) := hot
    obtain ⟨p0, -, -⟩ := HTW.out wr _ av hot
    clear hot
    by_cases hxl : x < B.length
    case neg =>
      have y9 : ¬ (x : Int) < (B.length : Int) := by omega
      obtain rfl : x = B.length := by omega
      have t0 : wr.cell? ⟨w.heap.size + 1, 0, none⟩ = some (.int .i64 s) := HOT.out.old HO.out.t0 (by dsimp only; omega)
      have c3 : wr.cell? ⟨bw, 3, none⟩ = some (.slice none 0 0) := HOT.out.rb.cell 3
      have f3 := HOT.out.rb.frozen 3
      have hgrs := HOT.out.gr.size
      have hbwr : bw < wr.heap.size := by omega
      have hb1 : bw < wr.heap.size + 1 := by omega
      have hb2 : bw < wr.heap.size + 1 + 1 := by omega
      have hb3 : bw < wr.heap.size + 1 + 1 + 1 := by omega
      have hb4 : bw < wr.heap.size + 1 + 1 + 1 + 1 := by omega
      have hb5 : bw < wr.heap.size + 1 + 1 + 1 + 1 + 1 := by omega
      go_wp2
      obtain ⟨W, hW⟩ : ∃ W, W = ((((((wr.setCell ⟨bw, 3, none⟩ (.slice (some ⟨wr.heap.size + 1 + 1 + 1 + 1 + 1, 0, none⟩) 4 4)).alloc (.cells #[.int .i64 0, .int .i64 s, .int .i64 ((s : Int) / 2), .int .i64 slots] 3)).alloc (.cells #[.int .i64 0] 3)).alloc (.cells #[] 3)).alloc (.cells #[] 3)).alloc (.cells #[] 3)).alloc
        (.cells #[.slice (some ⟨wr.heap.size + 1, 0, none⟩) 1 1, .slice (some ⟨wr.heap.size + 1 + 1, 0, none⟩) 0 0, .slice (some ⟨wr.heap.size + 1 + 1 + 1, 0, none⟩) 0 0, .slice (some ⟨wr.heap.size + 1 + 1 + 1 + 1, 0, none⟩) 0 0] 56) := ⟨_, rfl⟩
      rw [← hW]
      obtain ⟨hR, hF, hm⟩ := ofR_start (B := B) (N := N) (s := s) (slots := slots) HOT.out _ _ _ _ hW
      obtain ⟨bm, hbm⟩ : ∃ bm, bm = wr.heap.size := ⟨_, rfl⟩
      obtain ⟨gs, hgs⟩ : ∃ gs, gs = wr.heap.size + 1 + 1 + 1 + 1 + 1 := ⟨_, rfl⟩
      rw [← hgs] at hR hF
      rw [← hbm] at hR hF hm
      rw [← hbm]
      have hbmr : wz.heap.size ≤ bm := by omega
      obtain ⟨MS, hMS⟩ : ∃ MS, MS = [Value.int .i64 0, .int .i64 s, .int .i64 ((s : Int) / 2), .int .i64 slots] := ⟨_, rfl⟩
      rw [← hMS] at hm
      obtain ⟨PW, hPW⟩ : ∃ PW, PW = Value.slice (some ⟨b0, o0, none⟩) B.length c0 := ⟨_, rfl⟩
      obtain ⟨PC, hPC⟩ : ∃ PC, PC = Value.slice (some ⟨b1, o1, none⟩) C.length c1 := ⟨_, rfl⟩
      obtain ⟨NV, hNV⟩ : ∃ NV, NV = Value.slice (some ⟨nb, 0, none⟩) N.length nc := ⟨_, rfl⟩
      rw [← hPW, ← hPC, ← hNV] at hR
      have HMS : Hid (MS = [Value.int .i64 0, .int .i64 s, .int .i64 ((s : Int) / 2), .int .i64 slots]) := hMS
      have HPW : Hid (PW = Value.slice (some ⟨b0, o0, none⟩) B.length c0) := hPW
      have HPC : Hid (PC = Value.slice (some ⟨b1, o1, none⟩) C.length c1) := hPC
      have HNV : Hid (NV = Value.slice (some ⟨nb, 0, none⟩) N.length nc) := hNV
      have HQ0 : Hid (OfQ wz bw gs PW PC NV bm MS (preF B N s slots 1) av (svN bm) (stF B N s slots 1 0) W) := ⟨hR, hF, hm⟩
      clear hR hF hm hW hMS hPW hPC hNV hbm hgs HOT t0 c3 f3 hgrs hbwr hb1 hb2 hb3 hb4 hb5 p0 hxl hx HTW
      have HCW : Hid (∀ (wx : World) (l : List LFact) (av : Value) (sv : Nat → Value) (st : Nat → List Nat), OfQ wz bw gs PW PC NV bm MS l av sv st wx → wx.cell? ⟨w.heap.size, 0, none⟩ = some (.slice (some ⟨b0, o0, none⟩) B.length c0) ∧ wx.cell? ⟨w.heap.size, 1, none⟩ = some (.slice (some ⟨b1, o1, none⟩) C.length c1) ∧ (∀ j, j < N.length → wx.cell? ⟨nb, j, none⟩ = some (.int .u32 (N.getD j 0))) ∧ Below w.heap.size w wx) :=
        fun wx l av sv st ht => ⟨ht.r.old HP0.out (by dsimp only; omega), ht.r.old HP1.out (by dsimp only; omega), fun j hj => ht.r.old (HO.out.nums j hj) (by dsimp only; omega), HO.out.bel.grown ht.r.os.gr (by omega) (fun k e => by simp at e; omega)⟩
      have HCM : Hid (∀ (wx : World) (l : List LFact) (av : Value) (sv : Nat → Value) (st : Nat → List Nat) (kind : Nat), 1 ≤ kind → kind ≤ 3 → OfQ wz bw gs PW PC NV bm MS l av sv st wx → wx.cell? ⟨bm, kind, none⟩ = some (.int .i64 (manyF s slots kind : Nat))) := fun wx l av sv st kind h1 h2 ht => by
        rw [ht.rm.cell kind, HMS.out]
        rcases (show kind = 1 ∨ kind = 2 ∨ kind = 3 by omega) with rfl | rfl | rfl
        · simp [manyF]
        · simp [manyF]
        · simp [manyF]
      obtain ⟨t0', hi0, hy0, hy1, hy2⟩ := info_parts infFact8
      obtain ⟨t1', hj0, hj1, hj2, hj3⟩ := info_parts infInt
      go_loopw [11] (fun kv wr => ∃ (kind : Nat) (av : Value) (sv : Nat → Value), kv = .int .i64 kind ∧ 1 ≤ kind ∧ kind ≤ 4 ∧ OfQ wz bw gs PW PC NV bm MS (preF B N s slots kind) av sv (stF B N s slots kind 0) wr) (fun kv _ => 4 - (intOf kv).toNat)
      case atStart => exact ⟨1, av, _, rfl, by omega, by omega, HQ0.out⟩
      case round =>
        clear HQ0
        obtain ⟨kind, av, sv, rfl, hk1, hk4, hq⟩ := hrel
        have HQ : Hid (OfQ wz bw gs PW PC NV bm MS (preF B N s slots kind) av sv (stF B N s slots kind 0) wr) := hq
        clear hq
        by_cases hk3 : kind ≤ 3
        case neg =>
          obtain rfl : kind = 4 := by omega
          have hQ : OfQ wz bw gs PW PC NV bm MS (allF B (numsL C) s slots) av sv (stF B (numsL C) s slots 4 0) wr := by
            rw [HN.out, ← preF_all]; exact HQ.out
          obtain ⟨ga, ca, hav, -⟩ := ofR_world (wf := wr) hQ.r (fun _ _ _ h => h) (Nat.le_refl _) hB (by rw [HN.out]; exact hNl) (by rw [HN.out]; exact hN1) hs0 hs1 hs2 hsl
          have HQQ : Hid (OfQ wz bw gs PW PC NV bm MS (allF B (numsL C) s slots) av sv (stF B (numsL C) s slots 4 0) wr) := hQ
          have hrb := hQ.r.rb
          rw [hav, HPW.out, HPC.out, HNV.out] at hrb
          have HAV : Hid (av = .slice (some ⟨ga, 0, none⟩) (allF B (numsL C) s slots).length ca) := hav
          obtain ⟨LL, hLL⟩ : ∃ LL, LL = (allF B (numsL C) s slots).length := ⟨_, rfl⟩
          rw [← hLL] at hrb
          have HLL : Hid (LL = (allF B (numsL C) s slots).length) := hLL
          clear hQ hav hLL
          have e0 := hrb.cell 0
          have e1 := hrb.cell 1
          have e2 := hrb.cell 2
          have e3 := hrb.cell 3
          have e4 := hrb.cell 4
          simp only [List.getElem?_cons_zero, List.getElem?_cons_succ] at e0 e1 e2 e3 e4
          have hrr : Row wr (w.heap.size + 1 + 1) 66 [.slice none 0 0, .slice none 0 0, .slice none 0 0, .slice none 0 0, .slice none 0 0] := HO.out.r.grown HQ.out.r.os.gr (by simp; omega)
          have g0 := hrr.cell 0
          have g1 := hrr.cell 1
          have g2 := hrr.cell 2
          have g3 := hrr.cell 3
          have g4 := hrr.cell 4
          simp only [List.getElem?_cons_zero, List.getElem?_cons_succ] at g0 g1 g2 g3 g4
          have k0 := hrr.frozen 0
          have k1 := hrr.frozen 1
          have k2 := hrr.frozen 2
          have k3 := hrr.frozen 3
          have k4 := hrr.frozen 4
          have HRR : Hid (Row wr (w.heap.size + 1 + 1) 66 [.slice none 0 0, .slice none 0 0, .slice none 0 0, .slice none 0 0, .slice none 0 0]) := hrr
          clear hrb hrr
          go_wp2
          have r0 := ((((HRR.out.set 0 (.slice (some ⟨b0, o0, none⟩) B.length c0)).set 1 (.slice (some ⟨b1, o1, none⟩) C.length c1)).set 2 (.slice (some ⟨ga, 0, none⟩) LL ca)).set 3 (.slice (some ⟨gs, 0, none⟩) 4 4)).set 4 (.slice (some ⟨nb, 0, none⟩) N.length nc)
          obtain ⟨WF, hWF⟩ : ∃ WF, WF = ((((wr.setCell ⟨w.heap.size + 1 + 1, 0, none⟩ (.slice (some ⟨b0, o0, none⟩) B.length c0)).setCell ⟨w.heap.size + 1 + 1, 1, none⟩ (.slice (some ⟨b1, o1, none⟩) C.length c1)).setCell ⟨w.heap.size + 1 + 1, 2, none⟩ (.slice (some ⟨ga, 0, none⟩) LL ca)).setCell ⟨w.heap.size + 1 + 1, 3, none⟩ (.slice (some ⟨gs, 0, none⟩) 4 4)).setCell ⟨w.heap.size + 1 + 1, 4, none⟩ (.slice (some ⟨nb, 0, none⟩) N.length nc) := ⟨_, rfl⟩
          rw [← hWF] at r0
          rw [← hWF]
          have x0 := r0.cell 0
          have x1 := r0.cell 1
          have x2 := r0.cell 2
          have x3 := r0.cell 3
          have x4 := r0.cell 4
          simp at x0 x1 x2 x3 x4
          clear g0 g1 g2 g3 g4 k0 k1 k2 k3 k4
          refine bodyPost_ret (v := .agg #[.slice (some ⟨b0, o0, none⟩) B.length c0, .slice (some ⟨b1, o1, none⟩) C.length c1, .slice (some ⟨ga, 0, none⟩) LL ca, .slice (some ⟨gs, 0, none⟩) 4 4, .slice (some ⟨nb, 0, none⟩) N.length nc]) ?_ rfl ?_
          · simp [results, Tryz.results18, go_sem, x0, x1, x2, x3, x4]
          rw [hWF]
          have hne : ∀ p : Addr, wz.heap.size ≤ p.block → p.block ≠ w.heap.size + 1 + 1 := fun p hp => by omega
          obtain ⟨ga2, ca2, hav2, hFW⟩ := ofR_world (wf := ((((wr.setCell ⟨w.heap.size + 1 + 1, 0, none⟩ (.slice (some ⟨b0, o0, none⟩) B.length c0)).setCell ⟨w.heap.size + 1 + 1, 1, none⟩ (.slice (some ⟨b1, o1, none⟩) C.length c1)).setCell ⟨w.heap.size + 1 + 1, 2, none⟩ (.slice (some ⟨ga, 0, none⟩) LL ca)).setCell ⟨w.heap.size + 1 + 1, 3, none⟩ (.slice (some ⟨gs, 0, none⟩) 4 4)).setCell ⟨w.heap.size + 1 + 1, 4, none⟩ (.slice (some ⟨nb, 0, none⟩) N.length nc)) HQQ.out.r
            (fun p v hp hc => cell_other (cell_other (cell_other (cell_other (cell_other hc (by exact hne p hp)) (by exact hne p hp)) (by exact hne p hp)) (by exact hne p hp)) (by exact hne p hp)) (by simp) hB (by rw [HN.out]; exact hNl) (by rw [HN.out]; exact hN1) hs0 hs1 hs2 hsl
          rw [HAV.out] at hav2
          simp only [Value.slice.injEq, Option.some.injEq, Addr.mk.injEq, and_true, true_and] at hav2
          obtain ⟨rfl, rfl⟩ := hav2
          refine ⟨⟨ga, ca, gs, 4, some ⟨nb, 0, none⟩, N.length, nc, _, ?_, hFW⟩, ?_⟩
          · rw [← HLL.out]; rfl
          · exact ((((((HCW.out _ _ _ _ _ HQQ.out).2.2.2).setCell (by dsimp only; omega) _).setCell (by dsimp only; omega) _).setCell (by dsimp only; omega) _).setCell (by dsimp only; omega) _).setCell (by dsimp only; omega) _
        have y8 : (kind : Int) ≤ 3 := by omega
        have y7 : (1 : Int) ≤ (kind : Int) := by omega
        go_wp2
        go_loopw [12] (fun n' wr => ∃ (n : Nat) (av : Value) (sv : Nat → Value), n' = .int .i64 n ∧ n ≤ manyF s slots kind ∧ OfQ wz bw gs PW PC NV bm MS (preF B N s slots kind ++ kindF B N kind n) av sv (stF B N s slots kind n) wr) (fun n' _ => manyF s slots kind - (intOf n').toNat)
        case atStart => exact ⟨0, av, sv, rfl, by omega, by simpa [kindF] using HQ.out⟩
        case round =>
          clear HQ
          obtain ⟨n, av, sv, rfl, hn, hq⟩ := hrel
          have cm := HCM.out wr _ _ _ _ kind hk1 hk3 hq
          have HQ : Hid (OfQ wz bw gs PW PC NV bm MS (preF B N s slots kind ++ kindF B N kind n) av sv (stF B N s slots kind n) wr) := hq
          clear hq
          obtain ⟨M, hM⟩ : ∃ M, M = manyF s slots kind := ⟨_, rfl⟩
          have hMl : M ≤ 16 := by rw [hM]; unfold manyF; split; omega; split; omega; split <;> omega
          rw [← hM] at cm hn
          have HM : Hid (manyF s slots kind = M) := hM.symm
          clear hM
          by_cases hnl : n < M
          case neg =>
            have z9 : ¬ (n : Int) < (M : Int) := by omega
            obtain rfl : n = M := by omega
            go_wp2
            go_roundw
            case rel =>
              refine ⟨kind + 1, av, sv, by go_num, by omega, by omega, ?_⟩
              rw [preF_next hk1, ← stF_next, HM.out]
              exact HQ.out
            case measure => simp [intOf]; omega
          have z8 : (n : Int) < (M : Int) := by omega
          have z7 : (0 : Int) ≤ (n : Int) := by omega
          have zM : (M : Int) ≤ 16 := by omega
          go_upto_region 18 with fail
          have hA := HQ.out.place [Value.int .i64 kind, .int .i64 n]
          obtain ⟨wa, hwa⟩ : ∃ wa, wa = wr.alloc (.cells #[.int .i64 kind, .int .i64 n] 51) := ⟨_, rfl⟩
          obtain ⟨ba, hba⟩ : ∃ ba, ba = wr.heap.size := ⟨_, rfl⟩
          have HA : Hid (OfA wz bw gs PW PC NV bm MS ba [.int .i64 kind, .int .i64 n] (preF B N s slots kind ++ kindF B N kind n) av sv (stF B N s slots kind n) wa) := by
            have : OfA wz bw gs PW PC NV bm MS ba [.int .i64 kind, .int .i64 n] (preF B N s slots kind ++ kindF B N kind n) av sv (stF B N s slots kind n) wa := by rw [hwa, hba]; exact hA
            exact this
          rw [← hwa, ← hba]
          clear hA hwa hba cm HQ
          have y6 : (kind : Int) < 4 := by omega
          have y5 : (0 : Int) ≤ (kind : Int) := by omega
          have hbl : (preF B N s slots kind ++ kindF B N kind n).length ≤ 12 * 41 + 36 * 53 + 16 * 53 := by
            rw [List.length_append]
            have h1 := len_pre (B := B) (N := N) (s := s) (slots := slots) hB hNl hs2 hsl (kind := kind) (by omega)
            have h2 := len_kind (B := B) (N := N) (kind : Int) n
            have h3 := Nat.mul_le_mul (show n ≤ 16 by omega) (show N.length + B.length ≤ 53 by omega)
            omega
          go_cut [] (fun wq => ∃ sv', OfA wz bw gs PW PC NV bm MS ba [.int .i64 kind, .int .i64 n] (preF B N s slots kind ++ kindF B N kind n) av sv' (stF B N s slots kind (n + 1)) wq)
          case first =>
            obtain ⟨ll, hll⟩ : ∃ ll, ll = (preF B N s slots kind ++ kindF B N kind n).length := ⟨_, rfl⟩
            have HLL : Hid ((preF B N s slots kind ++ kindF B N kind n).length = ll) := hll.symm
            rw [← hll] at hbl
            obtain ⟨ao, acap, hav⟩ : ∃ ao acap, av = .slice ao ll acap := by
              have h0 := HA.out.q.r.os.all.2
              rw [← hll] at h0
              rcases h0 with ⟨e1, e2⟩ | ⟨g, cap, cur, e1, -⟩
              · exact ⟨none, 0, by rw [e1, e2]⟩
              · exact ⟨_, cap, e1⟩
            have c2 : wa.cell? ⟨bw, 2, none⟩ = some av := HA.out.q.r.rb.cell 2
            rw [hav] at c2
            have c3 : wa.cell? ⟨bw, 3, none⟩ = some (.slice (some ⟨gs, 0, none⟩) 4 4) := HA.out.q.r.rb.cell 3
            obtain ⟨sk, hsk⟩ : ∃ sk, sk = sv kind := ⟨_, rfl⟩
            have c7 : wa.cell? ⟨gs, kind, none⟩ = some sk := by rw [hsk]; exact HA.out.q.r.os.top kind (by omega)
            obtain ⟨sl, hsl9⟩ : ∃ sl, sl = stF B N s slots kind n kind := ⟨_, rfl⟩
            have hsll : sl.length ≤ 16 := by rw [hsl9]; unfold stF; rw [if_neg (by omega), if_neg (by omega), if_pos rfl]; simp; omega
            have HOW : Hid (wa.ownsRow wz.heap.size 3 1 sk sl.length (sl.map (fun n : Nat => Value.int .i64 (n : Int)))) := by
              have : wa.ownsRow wz.heap.size 3 1 sk sl.length (sl.map (fun n : Nat => Value.int .i64 (n : Int))) := by rw [hsk, hsl9]; exact HA.out.q.r.os.row kind (by omega)
              exact this
            have nsb : sk.ownBlock ≠ some bw := by rw [hsk]; exact HA.out.q.r.os.sb kind (by omega)
            have nsg : sk.ownBlock ≠ some gs := by rw [hsk]; exact HA.out.q.r.os.sg kind (by omega)
            have hbwa := HA.out.q.r.rb.lt
            have hgsa := HA.out.q.r.rg.lt
            have hgra := HA.out.q.r.os.gr.size
            have hbg := HA.out.q.r.os.ne
            have HSK : Hid (sk = sv kind) := hsk
            have HSL : Hid (sl = stF B N s slots kind n kind) := hsl9
            clear hll hav hsk hsl9
            /- REGION 18 -/
            refine wp_region_held_drew (S := (fun w' => w'.cell? ⟨bw, 3, none⟩ = some (.slice (some ⟨gs, 0, none⟩) 4 4) ∧ w'.cell? ⟨bw, 2, none⟩ = some (.slice ao ll acap))) (by rfl) ?_ (fun hHeld => ?_)
            · (refine ⟨?_, ?_⟩ <;> go_keep)
            refine wpAnyH_take (i := 0) (v := ?_) rfl (by kernel_rfl) (by kernel_rfl) (by kernel_rfl) (fun _ _ _ h => h) (Or.inl ⟨by rfl, ?_⟩) (by assumption) ?_
            case refine_2 => (intro w hSw; (try dsimp only at hSw); go_simp; first | done | (with_reducible rfl))
            show wpAnyH _ _ _ _ _ _ _ (Act.put _ (some 82) _) _
            simp only [Act.put, List.setIfInBounds_toArray, List.set_cons_zero, List.set_cons_succ]
            refine wpAnyH_take (i := 1) (v := ?_) rfl (by kernel_rfl) (by kernel_rfl) (by kernel_rfl) (fun _ _ _ h => h) (Or.inl ⟨by rfl, ?_⟩) (by assumption) ?_
            case refine_2 => (intro w hSw; (try dsimp only at hSw); go_simp; first | done | (with_reducible rfl))
            show wpAnyH _ _ _ _ _ _ _ (Act.put _ (some 83) _) _
            simp only [Act.put, List.setIfInBounds_toArray, List.set_cons_zero, List.set_cons_succ]
            refine wpAnyH_take (i := 2) (v := ?_) rfl (by kernel_rfl) (by kernel_rfl) (by kernel_rfl) (fun _ _ _ h => h) (Or.inl ⟨by rfl, ?_⟩) (by assumption) ?_
            case refine_2 => (intro w hSw; (try dsimp only at hSw); go_simp; first | done | (with_reducible rfl))
            show wpAnyH _ _ _ _ _ _ _ (Act.put _ (some 84) _) _
            simp only [Act.put, List.setIfInBounds_toArray, List.set_cons_zero, List.set_cons_succ]
            refine wpAnyH_take (i := 3) (v := ?_) rfl (by kernel_rfl) (by kernel_rfl) (by kernel_rfl) (fun _ _ _ h => h) (Or.inl ⟨by rfl, ?_⟩) (by assumption) ?_
            case refine_2 => (intro w hSw; (try dsimp only at hSw); go_simp; first | done | (with_reducible rfl))
            show wpAnyH _ _ _ _ _ _ _ (Act.put _ (some 85) _) _
            simp only [Act.put, List.setIfInBounds_toArray, List.set_cons_zero, List.set_cons_succ]
            refine wpAnyH_take (i := 4) (v := ?_) rfl (by kernel_rfl) (by kernel_rfl) (by kernel_rfl) (fun _ _ _ h => h) (Or.inl ⟨by rfl, ?_⟩) (by assumption) ?_
            case refine_2 => (intro w hSw; (try dsimp only at hSw); go_simp; first | done | (with_reducible rfl))
            show wpAnyH _ _ _ _ _ _ _ (Act.put _ (some 86) _) _
            simp only [Act.put, List.setIfInBounds_toArray, List.set_cons_zero, List.set_cons_succ]
            refine wpAnyH_take (i := 5) (v := ?_) rfl (by kernel_rfl) (by kernel_rfl) (by kernel_rfl) (fun _ _ _ h => h) (Or.inl ⟨by rfl, ?_⟩) (by assumption) ?_
            case refine_2 => (intro w hSw; (try dsimp only at hSw); go_simp; first | done | (with_reducible rfl))
            show wpAnyH _ _ _ _ _ _ _ (Act.put _ (some 87) _) _
            simp only [Act.put, List.setIfInBounds_toArray, List.set_cons_zero, List.set_cons_succ]
            refine wpAnyH_take (i := 6) (v := ?_) rfl (by kernel_rfl) (by kernel_rfl) (by kernel_rfl) (fun _ _ _ h => h) (Or.inl ⟨by rfl, ?_⟩) (by assumption) ?_
            case refine_2 => (intro w hSw; (try dsimp only at hSw); go_simp; first | done | (with_reducible rfl))
            show wpAnyH _ _ _ _ _ _ _ (Act.put _ (some 88) _) _
            simp only [Act.put, List.setIfInBounds_toArray, List.set_cons_zero, List.set_cons_succ]
            refine wpAnyH_take (i := 8) (v := ?_) rfl (by kernel_rfl) (by kernel_rfl) (by kernel_rfl) (fun _ _ _ h => h) (Or.inl ⟨by rfl, ?_⟩) (by assumption) ?_
            case refine_2 => (intro w hSw; (try dsimp only at hSw); go_simp; first | done | (with_reducible rfl))
            show wpAnyH _ _ _ _ _ _ _ (Act.put _ (some 90) _) _
            simp only [Act.put, List.setIfInBounds_toArray, List.set_cons_zero, List.set_cons_succ]
            refine wpAnyH_take (i := 9) (v := ?_) rfl (by kernel_rfl) (by kernel_rfl) (by kernel_rfl) (fun _ _ _ h => h) (Or.inl ⟨by rfl, ?_⟩) (by assumption) ?_
            case refine_2 => (intro w hSw; (try dsimp only at hSw); go_simp; first | done | (with_reducible rfl))
            show wpAnyH _ _ _ _ _ _ _ (Act.put _ (some 91) _) _
            simp only [Act.put, List.setIfInBounds_toArray, List.set_cons_zero, List.set_cons_succ]
            refine wpAnyH_take (i := 10) (v := ?_) rfl (by kernel_rfl) (by kernel_rfl) (by kernel_rfl) (fun _ _ _ h => h) (Or.inl ⟨by rfl, ?_⟩) (by assumption) ?_
            case refine_2 => (intro w hSw; (try dsimp only at hSw); go_simp; first | done | (with_reducible rfl))
            show wpAnyH _ _ _ _ _ _ _ (Act.put _ (some 92) _) _
            simp only [Act.put, List.setIfInBounds_toArray, List.set_cons_zero, List.set_cons_succ]
            refine wpAnyH_ready (rs := [7, 11]) (by kernel_rfl) (by simp) ?_
            refine (AllReadyH.cons rfl (fun K hK => ?_) (AllReadyH.cons rfl (fun K hK => ?_) AllReadyH.nil))
            · go_simp
              refine hK.out _ _ ?_ (fun hHeld => ?_)
              · (go_split_ands; refine ⟨?_, ?_⟩ <;> first | assumption | go_keep)
              clear hK K
              try simp only [Act.put, List.setIfInBounds_toArray, List.set_cons_zero, List.set_cons_succ]
              refine wpAnyH_ready (rs := [11]) (by kernel_rfl) (by simp) ?_
              refine (AllReadyH.cons rfl (fun K hK => ?_) AllReadyH.nil)
              go_simp
              refine hK.out _ _ ?_ (fun hHeld => ?_)
              · (go_split_ands; refine ⟨?_, ?_⟩ <;> first | assumption | go_keep)
              clear hK K
              try simp only [Act.put, List.setIfInBounds_toArray, List.set_cons_zero, List.set_cons_succ]
              refine wpAnyH_ready (rs := [12]) (by kernel_rfl) (by simp) ?_
              refine (AllReadyH.cons rfl (fun K hK => ?_) AllReadyH.nil)
              (refine step_append_lies _ (by rfl) _ _ _ (by rfl) wz.heap.size 3 t1' (.int .i64 0) 1 8 Tryz.underlying56 hj0 hj1 hj2 hj3 rfl (by decide) sk sl.length (sl.map (fun n : Nat => Value.int .i64 (n : Int))) (by rfl) ((World.ownsRow.alloc HOW.out _).drew)
                 ⟨wa.heap.size, 0, none⟩ 1 1 [.int .i64 ll] (by rfl) (by rfl) (World.news_of_block (cs := #[.int .i64 ll]) (t := 3) (fr := (0, 0)) (heap_alloc_new wa _)) (by simp [Value.oneCell'])
                 (by omega) (by unfold maxLen; omega) (by omega) (by simp; omega) (wa.heap.size + 1) (by simp) ?_)
              intro g9 cap9 w9 hown hgrow hat hlt9
              have HA6 : Hid (OfA wz bw gs PW PC NV bm MS ba [.int .i64 kind, .int .i64 n] (preF B N s slots kind ++ kindF B N kind n) av sv (stF B N s slots kind n) (wa.alloc (.cells #[.int .i64 ll] 3)).drew) := HA.out.below (((Below.refl _ _).alloc (Nat.le_refl _) _).drew)
              have HP : Hid (∃ sv', OfA wz bw gs PW PC NV bm MS ba [.int .i64 kind, .int .i64 n] (preF B N s slots kind ++ kindF B N kind n) av sv' (stF B N s slots kind (n + 1)) (w9.setCell ⟨gs, kind, none⟩ (.slice (some ⟨g9, 0, none⟩) (sl.length + 1) cap9))) := by
                rw [HSK.out] at hgrow hat
                rw [HSL.out] at hown ⊢
                have := HA6.out.mark (p := kind) (n := ll) (by omega) hown hgrow (by simpa using hat)
                rw [← HLL.out, stF_mark hk1] at this
                exact ⟨_, this⟩
              have hr9 := HA6.out.q.r.rg.grown hgrow (Ne.symm nsg)
              have cz : w9.cell? ⟨gs, kind, none⟩ = some sk := by
                rw [hgrow.cell_far _ (by simp; omega) (Ne.symm nsg)]
                exact step_cell (((Below.refl _ _).alloc (Nat.le_refl _) _).drew) c7
              have fz := hr9.frozen kind
              clear hr9 HA6
              refine hK.out _ _ ?_ (fun hHeld => ?_)
              · (go_split_ands
                 refine ⟨?_, ?_⟩
                 · (rw [hgrow.cell_far _ (by simp; omega) (Ne.symm nsb)]; simp [go_sem]; assumption)
                 · (rw [hgrow.cell_far _ (by simp; omega) (Ne.symm nsb)]; simp [go_sem]; assumption))
              clear hK K
              show wpAnyH _ _ _ _ _ _ _ (Act.put _ (some 94) _) _
              simp only [Act.put, List.setIfInBounds_toArray, List.set_cons_zero, List.set_cons_succ]
              refine wpAnyH_take (i := 13) (v := ?_) rfl (by kernel_rfl) (by kernel_rfl) (by kernel_rfl) (fun _ _ _ h => h) (Or.inl ⟨by rfl, ?_⟩) (by assumption) ?_
              case refine_2 => (intro w hSw; (try dsimp only at hSw); go_simp; first | done | (with_reducible rfl))
              show wpAnyH _ _ _ _ _ _ _ (Act.put _ (some 95) _) _
              simp only [Act.put, List.setIfInBounds_toArray, List.set_cons_zero, List.set_cons_succ]
              refine wpAnyH_ready (rs := [14]) (by kernel_rfl) (by simp) ?_
              refine (AllReadyH.cons rfl (fun K hK => ?_) AllReadyH.nil)
              go_simp
              refine hK.out _ _ ?_ (fun hHeld => ?_)
              · (go_split_ands
                 refine ⟨?_, ?_⟩
                 · (rw [World.cell?_setCell_far _ _ _ _ (by exact Ne.symm hbg)]; assumption)
                 · (rw [World.cell?_setCell_far _ _ _ _ (by exact Ne.symm hbg)]; assumption))
              clear hK K
              try simp only [Act.put, List.setIfInBounds_toArray, List.set_cons_zero, List.set_cons_succ]
              refine wpAnyH_done (by kernel_rfl) ?_ _
              clear hHeld
              clear hown hgrow hat cz fz
              go_wp2
              go_meet
              case rel => exact HP.out
            · go_simp
              refine hK.out _ _ ?_ (fun hHeld => ?_)
              · (go_split_ands; refine ⟨?_, ?_⟩ <;> first | assumption | go_keep)
              clear hK K
              try simp only [Act.put, List.setIfInBounds_toArray, List.set_cons_zero, List.set_cons_succ]
              refine wpAnyH_ready (rs := [7]) (by kernel_rfl) (by simp) ?_
              refine (AllReadyH.cons rfl (fun K hK => ?_) AllReadyH.nil)
              go_simp
              refine hK.out _ _ ?_ (fun hHeld => ?_)
              · (go_split_ands; refine ⟨?_, ?_⟩ <;> first | assumption | go_keep)
              clear hK K
              try simp only [Act.put, List.setIfInBounds_toArray, List.set_cons_zero, List.set_cons_succ]
              refine wpAnyH_ready (rs := [12]) (by kernel_rfl) (by simp) ?_
              refine (AllReadyH.cons rfl (fun K hK => ?_) AllReadyH.nil)
              (refine step_append_lies _ (by rfl) _ _ _ (by rfl) wz.heap.size 3 t1' (.int .i64 0) 1 8 Tryz.underlying56 hj0 hj1 hj2 hj3 rfl (by decide) sk sl.length (sl.map (fun n : Nat => Value.int .i64 (n : Int))) (by rfl) ((World.ownsRow.alloc HOW.out _).drew)
                 ⟨wa.heap.size, 0, none⟩ 1 1 [.int .i64 ll] (by rfl) (by rfl) (World.news_of_block (cs := #[.int .i64 ll]) (t := 3) (fr := (0, 0)) (heap_alloc_new wa _)) (by simp [Value.oneCell'])
                 (by omega) (by unfold maxLen; omega) (by omega) (by simp; omega) (wa.heap.size + 1) (by simp) ?_)
              intro g9 cap9 w9 hown hgrow hat hlt9
              have HA6 : Hid (OfA wz bw gs PW PC NV bm MS ba [.int .i64 kind, .int .i64 n] (preF B N s slots kind ++ kindF B N kind n) av sv (stF B N s slots kind n) (wa.alloc (.cells #[.int .i64 ll] 3)).drew) := HA.out.below (((Below.refl _ _).alloc (Nat.le_refl _) _).drew)
              have HP : Hid (∃ sv', OfA wz bw gs PW PC NV bm MS ba [.int .i64 kind, .int .i64 n] (preF B N s slots kind ++ kindF B N kind n) av sv' (stF B N s slots kind (n + 1)) (w9.setCell ⟨gs, kind, none⟩ (.slice (some ⟨g9, 0, none⟩) (sl.length + 1) cap9))) := by
                rw [HSK.out] at hgrow hat
                rw [HSL.out] at hown ⊢
                have := HA6.out.mark (p := kind) (n := ll) (by omega) hown hgrow (by simpa using hat)
                rw [← HLL.out, stF_mark hk1] at this
                exact ⟨_, this⟩
              have hr9 := HA6.out.q.r.rg.grown hgrow (Ne.symm nsg)
              have cz : w9.cell? ⟨gs, kind, none⟩ = some sk := by
                rw [hgrow.cell_far _ (by simp; omega) (Ne.symm nsg)]
                exact step_cell (((Below.refl _ _).alloc (Nat.le_refl _) _).drew) c7
              have fz := hr9.frozen kind
              clear hr9 HA6
              refine hK.out _ _ ?_ (fun hHeld => ?_)
              · (go_split_ands
                 refine ⟨?_, ?_⟩
                 · (rw [hgrow.cell_far _ (by simp; omega) (Ne.symm nsb)]; simp [go_sem]; assumption)
                 · (rw [hgrow.cell_far _ (by simp; omega) (Ne.symm nsb)]; simp [go_sem]; assumption))
              clear hK K
              show wpAnyH _ _ _ _ _ _ _ (Act.put _ (some 94) _) _
              simp only [Act.put, List.setIfInBounds_toArray, List.set_cons_zero, List.set_cons_succ]
              refine wpAnyH_take (i := 13) (v := ?_) rfl (by kernel_rfl) (by kernel_rfl) (by kernel_rfl) (fun _ _ _ h => h) (Or.inl ⟨by rfl, ?_⟩) (by assumption) ?_
              case refine_2 => (intro w hSw; (try dsimp only at hSw); go_simp; first | done | (with_reducible rfl))
              show wpAnyH _ _ _ _ _ _ _ (Act.put _ (some 95) _) _
              simp only [Act.put, List.setIfInBounds_toArray, List.set_cons_zero, List.set_cons_succ]
              refine wpAnyH_ready (rs := [14]) (by kernel_rfl) (by simp) ?_
              refine (AllReadyH.cons rfl (fun K hK => ?_) AllReadyH.nil)
              go_simp
              refine hK.out _ _ ?_ (fun hHeld => ?_)
              · (go_split_ands
                 refine ⟨?_, ?_⟩
                 · (rw [World.cell?_setCell_far _ _ _ _ (by exact Ne.symm hbg)]; assumption)
                 · (rw [World.cell?_setCell_far _ _ _ _ (by exact Ne.symm hbg)]; assumption))
              clear hK K
              try simp only [Act.put, List.setIfInBounds_toArray, List.set_cons_zero, List.set_cons_succ]
              refine wpAnyH_done (by kernel_rfl) ?_ _
              clear hHeld
              clear hown hgrow hat cz fz
              go_wp2
              go_meet
              case rel => exact HP.out
          obtain ⟨sv', hA⟩ := hcut
          obtain ⟨wy, hwy⟩ : ∃ wy, wy = wc := ⟨_, rfl⟩
          subst hwy
          obtain ⟨sv, hsv⟩ : ∃ sv, sv = sv' := ⟨_, rfl⟩
          subst hsv
          clear HA
          have HA : Hid (OfA wz bw gs PW PC NV bm MS ba [.int .i64 kind, .int .i64 n] (preF B N s slots kind ++ kindF B N kind n) av sv (stF B N s slots kind (n + 1)) wy) := hA
          clear hA
          by_cases hkd : kind = 2
          · have e5 : ((kind : Int) != 2) = false := by simp; omega
            have HKD : Hid (kind = 2) := hkd
            clear hkd
            go_wp2
            go_loopw [14] (fun kv wr => ∃ (av : Value), kv = .int .i64 0 ∧ OfA wz bw gs PW PC NV bm MS ba [.int .i64 kind, .int .i64 n] (preF B N s slots kind ++ kindF B N kind n) av sv (stF B N s slots kind (n + 1)) wr) (fun _ _ => 0)
            case atStart => exact ⟨av, rfl, HA.out⟩
            case round =>
              clear HA
              obtain ⟨av, rfl, hA⟩ := hrel
              have c4 : wr.cell? ⟨bw, 4, none⟩ = some NV := hA.q.r.rb.cell 4
              rw [HNV.out] at c4
              have z6 : (0 : Int) < (N.length : Int) := by omega
              obtain ⟨p0, p1, -, -⟩ := HCW.out wr _ _ _ _ hA.q
              have HA : Hid (OfA wz bw gs PW PC NV bm MS ba [.int .i64 kind, .int .i64 n] (preF B N s slots kind ++ kindF B N kind n) av sv (stF B N s slots kind (n + 1)) wr) := hA
              clear hA
              go_wp2
              go_loopw [15] (fun xv wr => ∃ (x : Nat) (av : Value), xv = .int .i64 x ∧ x ≤ B.length ∧ OfA wz bw gs PW PC NV bm MS ba [.int .i64 kind, .int .i64 n] ((preF B N s slots kind ++ kindF B N kind n) ++ ((List.range x).filter (mayK B kind)).map (fun (x : Nat) => (⟨⟨kind, n⟩, true, x, 0⟩ : LFact))) av sv (stF B N s slots kind (n + 1)) wr) (fun xv _ => B.length - (intOf xv).toNat)
              case atStart => exact ⟨0, av, rfl, by omega, by simpa using HA.out⟩
              case round =>
                clear HA
                obtain ⟨x, av, rfl, hx, hA⟩ := hrel
                obtain ⟨p0, p1, -, hbe⟩ := HCW.out wr _ _ _ _ hA.q
                obtain ⟨l, hl⟩ : ∃ l, l = (preF B N s slots kind ++ kindF B N kind n) ++ ((List.range x).filter (mayK B kind)).map (fun (x : Nat) => (⟨⟨kind, n⟩, true, x, 0⟩ : LFact)) := ⟨_, rfl⟩
                rw [← hl] at hA
                have HL : Hid ((preF B N s slots kind ++ kindF B N kind n) ++ ((List.range x).filter (mayK B kind)).map (fun (x : Nat) => (⟨⟨kind, n⟩, true, x, 0⟩ : LFact)) = l) := hl.symm
                have hll : l.length ≤ 10000 := by
                  rw [hl, List.length_append, List.length_map]
                  have h1 := List.length_filter_le (mayK B kind) (List.range x)
                  simp only [List.length_range] at h1
                  omega
                clear hl
                have HA : Hid (OfA wz bw gs PW PC NV bm MS ba [.int .i64 kind, .int .i64 n] l av sv (stF B N s slots kind (n + 1)) wr) := hA
                have HBE : Hid (Below w.heap.size w wr) := hbe
                clear hA hbe
                by_cases hxl : x < B.length
                case neg =>
                  have z9 : ¬ (x : Int) < (B.length : Int) := by omega
                  obtain rfl : x = B.length := by omega
                  go_wp2
                  go_roundw
                  case rel =>
                    refine ⟨n + 1, av, sv, by go_num, by rw [HM.out]; omega, ?_⟩
                    have e := HL.out
                    rw [kindF_succ, placeF, if_pos (by have := HKD.out; omega), ← List.append_assoc]
                    rw [List.nil_append]; rw [e]
                    exact HA.out.q
                  case measure => have := HM.out; simp [intOf]; omega
                have z8 : (x : Int) < (B.length : Int) := by omega
                have z7 : (0 : Int) ≤ (x : Int) := by omega
                obtain ⟨my, hmy⟩ : ∃ my, my = mayK B kind x := ⟨_, rfl⟩
                have HMY : Hid (mayK B kind x = my) := hmy.symm
                clear hmy
                cases my with
                | false =>
                  go_wp2_with (go_at_call 35; refine (HMA.out wr kind x HBE.out hxl).mono ?_; rw [HMY.out]; rintro e w5 ⟨rfl, hb5⟩; have HA5 : Hid (OfA wz bw gs PW PC NV bm MS ba [.int .i64 kind, .int .i64 n] l av sv (stF B N s slots kind (n + 1)) w5) := HA.out.below hb5; clear hb5)
                  refine ⟨⟨x + 1, av, by go_num, by omega, ?_⟩, by simp [intOf]; omega⟩
                  rw [mays_succ, HMY.out, if_neg (by simp), List.append_nil, HL.out]
                  exact HA5.out
                | true =>
                  go_wp2_with (first
                    | (go_at_call 35; refine (HMA.out wr kind x HBE.out hxl).mono ?_; rw [HMY.out]; rintro e w5 ⟨rfl, hb5⟩
                       have HA5 : Hid (OfA wz bw gs PW PC NV bm MS ba [.int .i64 kind, .int .i64 n] l av sv (stF B N s slots kind (n + 1)) w5) := HA.out.below hb5
                       have c2 : w5.cell? ⟨bw, 2, none⟩ = some av := HA5.out.q.r.rb.cell 2
                       have a0 : w5.cell? ⟨ba, 0, none⟩ = some (.int .i64 kind) := HA5.out.ra.cell 0
                       have a1 : w5.cell? ⟨ba, 1, none⟩ = some (.int .i64 n) := HA5.out.ra.cell 1
                       have hbw5 := HA5.out.q.r.rb.lt
                       have hba5 := HA5.out.fa.lt
                       have hgr5 := HA5.out.q.r.os.gr.size
                       clear hb5)
                    | (at_builtin; refine wpList_append_lies _ rfl _ _ 43 rfl wz.heap.size 62 t0' (.agg #[.int .i64 0, .int .i64 0, .bool false, .int .i64 0, .int .u32 0]) 5 40 Tryz.underlying43 hi0 hy0 hy1 hy2 rfl (by decide) av l.length (l.flatMap factCs) rfl (World.ownsRow.alloc HA5.out.q.r.os.all _) ⟨w5.heap.size, 0, none⟩ 1 1 [.int .i64 kind, .int .i64 n, .bool true, .int .i64 x, .int .u32 0] rfl rfl ?c1 ?c2 (by decide) ?c3 ?c4 ?c5 _ rfl ?_))
                  case c1 => exact World.news_of_block (cs := #[.int .i64 kind, .int .i64 n, .bool true, .int .i64 x, .int .u32 0]) (t := 62) (fr := (0, 0)) (by have := heap_alloc_new w5 (.cells #[.int .i64 kind, .int .i64 n, .bool true, .int .i64 x, .int .u32 0] 62); simpa using this)
                  case c2 => simp [Value.oneCell']
                  case c3 => unfold maxLen; omega
                  case c4 => omega
                  case c5 => simp; omega
                  intro g9 cap9 w9 hown hgrow hat hlt9
                  have hat2 : av.ownBlock = some g9 ∨ g9 = (w5.alloc (.cells #[.int .i64 kind, .int .i64 n, .bool true, .int .i64 x, .int .u32 0] 62)).heap.size := by simpa using hat
                  have HA6 : Hid (OfA wz bw gs PW PC NV bm MS ba [.int .i64 kind, .int .i64 n] l av sv (stF B N s slots kind (n + 1)) (w5.alloc (.cells #[.int .i64 kind, .int .i64 n, .bool true, .int .i64 x, .int .u32 0] 62))) := HA5.out.below ((Below.refl _ _).alloc (Nat.le_refl _) _)
                  have HP : Hid (OfA wz bw gs PW PC NV bm MS ba [.int .i64 kind, .int .i64 n] (l ++ [⟨⟨kind, n⟩, true, x, 0⟩]) (.slice (some ⟨g9, 0, none⟩) (l.length + 1) cap9) sv (stF B N s slots kind (n + 1)) (w9.setCell ⟨bw, 2, none⟩ (.slice (some ⟨g9, 0, none⟩) (l.length + 1) cap9))) := HA6.out.fact hown hgrow hat2
                  have hr9 := HA6.out.q.r.rb.grown hgrow (Ne.symm HA6.out.q.r.os.apb)
                  have cz : w9.cell? ⟨bw, 2, none⟩ = some av := hr9.cell 2
                  have fz := hr9.frozen 2
                  clear hr9 hown hgrow hat hat2 HA6
                  go_wp2
                  refine ⟨⟨x + 1, .slice (some ⟨g9, 0, none⟩) (l.length + 1) cap9, by go_num, by omega, ?_⟩, by simp [intOf]; omega⟩
                  rw [mays_succ, HMY.out, if_pos rfl, ← List.append_assoc, HL.out]
                  exact HP.out
          · have e5 : ((kind : Int) != 2) = true := by simp; omega
            have HKD : Hid (¬ kind = 2) := hkd
            clear hkd
            go_wp2
            go_loopw [14] (fun kv wr => ∃ (k : Nat) (av : Value), kv = .int .i64 k ∧ k ≤ N.length ∧ OfA wz bw gs PW PC NV bm MS ba [.int .i64 kind, .int .i64 n] ((preF B N s slots kind ++ kindF B N kind n) ++ (N.take k).map fun v => (⟨⟨kind, n⟩, false, 0, v⟩ : LFact)) av sv (stF B N s slots kind (n + 1)) wr) (fun kv _ => N.length - (intOf kv).toNat)
            case atStart => exact ⟨0, av, rfl, by omega, by simpa using HA.out⟩
            case round =>
              clear HA
              obtain ⟨k, av, rfl, hk, hA⟩ := hrel
              have c4 : wr.cell? ⟨bw, 4, none⟩ = some NV := hA.q.r.rb.cell 4
              rw [HNV.out] at c4
              obtain ⟨p0, p1, pn, -⟩ := HCW.out wr _ _ _ _ hA.q
              by_cases hkl : k < N.length
              case neg =>
                have z9 : ¬ (k : Int) < (N.length : Int) := by omega
                obtain rfl : k = N.length := by omega
                rw [List.take_length] at hA
                have HA : Hid (OfA wz bw gs PW PC NV bm MS ba [.int .i64 kind, .int .i64 n] ((preF B N s slots kind ++ kindF B N kind n) ++ N.map fun v => (⟨⟨kind, n⟩, false, 0, v⟩ : LFact)) av sv (stF B N s slots kind (n + 1)) wr) := hA
                clear hA pn
                go_wp2
                go_loopw [15] (fun xv wr => ∃ (x : Nat) (av : Value), xv = .int .i64 x ∧ x ≤ B.length ∧ OfA wz bw gs PW PC NV bm MS ba [.int .i64 kind, .int .i64 n] (((preF B N s slots kind ++ kindF B N kind n) ++ N.map fun v => (⟨⟨kind, n⟩, false, 0, v⟩ : LFact)) ++ ((List.range x).filter (mayK B kind)).map (fun (x : Nat) => (⟨⟨kind, n⟩, true, x, 0⟩ : LFact))) av sv (stF B N s slots kind (n + 1)) wr) (fun xv _ => B.length - (intOf xv).toNat)
                case atStart => exact ⟨0, av, rfl, by omega, by simpa using HA.out⟩
                case round =>
                  clear HA
                  obtain ⟨x, av, rfl, hx, hA⟩ := hrel
                  obtain ⟨p0, p1, -, hbe⟩ := HCW.out wr _ _ _ _ hA.q
                  obtain ⟨l, hl⟩ : ∃ l, l = ((preF B N s slots kind ++ kindF B N kind n) ++ N.map fun v => (⟨⟨kind, n⟩, false, 0, v⟩ : LFact)) ++ ((List.range x).filter (mayK B kind)).map (fun (x : Nat) => (⟨⟨kind, n⟩, true, x, 0⟩ : LFact)) := ⟨_, rfl⟩
                  rw [← hl] at hA
                  have HL : Hid (((preF B N s slots kind ++ kindF B N kind n) ++ N.map fun v => (⟨⟨kind, n⟩, false, 0, v⟩ : LFact)) ++ ((List.range x).filter (mayK B kind)).map (fun (x : Nat) => (⟨⟨kind, n⟩, true, x, 0⟩ : LFact)) = l) := hl.symm
                  have hll : l.length ≤ 10000 := by
                    rw [hl, List.length_append, List.length_map, List.length_append, List.length_map]
                    have h1 := List.length_filter_le (mayK B kind) (List.range x)
                    simp only [List.length_range] at h1
                    omega
                  clear hl
                  have HA : Hid (OfA wz bw gs PW PC NV bm MS ba [.int .i64 kind, .int .i64 n] l av sv (stF B N s slots kind (n + 1)) wr) := hA
                  have HBE : Hid (Below w.heap.size w wr) := hbe
                  clear hA hbe
                  by_cases hxl : x < B.length
                  case neg =>
                    have z9 : ¬ (x : Int) < (B.length : Int) := by omega
                    obtain rfl : x = B.length := by omega
                    go_wp2
                    go_roundw
                    case rel =>
                      refine ⟨n + 1, av, sv, by go_num, by rw [HM.out]; omega, ?_⟩
                      have e := HL.out
                      rw [kindF_succ, placeF, if_neg (by have := HKD.out; omega), ← List.append_assoc]
                      rw [← List.append_assoc, e]
                      exact HA.out.q
                    case measure => have := HM.out; simp [intOf]; omega
                  have z8 : (x : Int) < (B.length : Int) := by omega
                  have z7 : (0 : Int) ≤ (x : Int) := by omega
                  obtain ⟨my, hmy⟩ : ∃ my, my = mayK B kind x := ⟨_, rfl⟩
                  have HMY : Hid (mayK B kind x = my) := hmy.symm
                  clear hmy
                  cases my with
                  | false =>
                    go_wp2_with (go_at_call 35; refine (HMA.out wr kind x HBE.out hxl).mono ?_; rw [HMY.out]; rintro e w5 ⟨rfl, hb5⟩; have HA5 : Hid (OfA wz bw gs PW PC NV bm MS ba [.int .i64 kind, .int .i64 n] l av sv (stF B N s slots kind (n + 1)) w5) := HA.out.below hb5; clear hb5)
                    refine ⟨⟨x + 1, av, by go_num, by omega, ?_⟩, by simp [intOf]; omega⟩
                    rw [mays_succ, HMY.out, if_neg (by simp), List.append_nil, HL.out]
                    exact HA5.out
                  | true =>
                    go_wp2_with (first
                      | (go_at_call 35; refine (HMA.out wr kind x HBE.out hxl).mono ?_; rw [HMY.out]; rintro e w5 ⟨rfl, hb5⟩
                         have HA5 : Hid (OfA wz bw gs PW PC NV bm MS ba [.int .i64 kind, .int .i64 n] l av sv (stF B N s slots kind (n + 1)) w5) := HA.out.below hb5
                         have c2 : w5.cell? ⟨bw, 2, none⟩ = some av := HA5.out.q.r.rb.cell 2
                         have a0 : w5.cell? ⟨ba, 0, none⟩ = some (.int .i64 kind) := HA5.out.ra.cell 0
                         have a1 : w5.cell? ⟨ba, 1, none⟩ = some (.int .i64 n) := HA5.out.ra.cell 1
                         have hbw5 := HA5.out.q.r.rb.lt
                         have hba5 := HA5.out.fa.lt
                         have hgr5 := HA5.out.q.r.os.gr.size
                         clear hb5)
                      | (at_builtin; refine wpList_append_lies _ rfl _ _ 43 rfl wz.heap.size 62 t0' (.agg #[.int .i64 0, .int .i64 0, .bool false, .int .i64 0, .int .u32 0]) 5 40 Tryz.underlying43 hi0 hy0 hy1 hy2 rfl (by decide) av l.length (l.flatMap factCs) rfl (World.ownsRow.alloc HA5.out.q.r.os.all _) ⟨w5.heap.size, 0, none⟩ 1 1 [.int .i64 kind, .int .i64 n, .bool true, .int .i64 x, .int .u32 0] rfl rfl ?c1 ?c2 (by decide) ?c3 ?c4 ?c5 _ rfl ?_))
                    case c1 => exact World.news_of_block (cs := #[.int .i64 kind, .int .i64 n, .bool true, .int .i64 x, .int .u32 0]) (t := 62) (fr := (0, 0)) (by have := heap_alloc_new w5 (.cells #[.int .i64 kind, .int .i64 n, .bool true, .int .i64 x, .int .u32 0] 62); simpa using this)
                    case c2 => simp [Value.oneCell']
                    case c3 => unfold maxLen; omega
                    case c4 => omega
                    case c5 => simp; omega
                    intro g9 cap9 w9 hown hgrow hat hlt9
                    have hat2 : av.ownBlock = some g9 ∨ g9 = (w5.alloc (.cells #[.int .i64 kind, .int .i64 n, .bool true, .int .i64 x, .int .u32 0] 62)).heap.size := by simpa using hat
                    have HA6 : Hid (OfA wz bw gs PW PC NV bm MS ba [.int .i64 kind, .int .i64 n] l av sv (stF B N s slots kind (n + 1)) (w5.alloc (.cells #[.int .i64 kind, .int .i64 n, .bool true, .int .i64 x, .int .u32 0] 62))) := HA5.out.below ((Below.refl _ _).alloc (Nat.le_refl _) _)
                    have HP : Hid (OfA wz bw gs PW PC NV bm MS ba [.int .i64 kind, .int .i64 n] (l ++ [⟨⟨kind, n⟩, true, x, 0⟩]) (.slice (some ⟨g9, 0, none⟩) (l.length + 1) cap9) sv (stF B N s slots kind (n + 1)) (w9.setCell ⟨bw, 2, none⟩ (.slice (some ⟨g9, 0, none⟩) (l.length + 1) cap9))) := HA6.out.fact hown hgrow hat2
                    have hr9 := HA6.out.q.r.rb.grown hgrow (Ne.symm HA6.out.q.r.os.apb)
                    have cz : w9.cell? ⟨bw, 2, none⟩ = some av := hr9.cell 2
                    have fz := hr9.frozen 2
                    clear hr9 hown hgrow hat hat2 HA6
                    go_wp2
                    refine ⟨⟨x + 1, .slice (some ⟨g9, 0, none⟩) (l.length + 1) cap9, by go_num, by omega, ?_⟩, by simp [intOf]; omega⟩
                    rw [mays_succ, HMY.out, if_pos rfl, ← List.append_assoc, HL.out]
                    exact HP.out
              have z8 : (k : Int) < (N.length : Int) := by omega
              have z7' : (0 : Int) ≤ (k : Int) := by omega
              obtain ⟨l, hl⟩ : ∃ l, l = (preF B N s slots kind ++ kindF B N kind n) ++ (N.take k).map fun v => (⟨⟨kind, n⟩, false, 0, v⟩ : LFact) := ⟨_, rfl⟩
              rw [← hl] at hA
              have HL : Hid ((preF B N s slots kind ++ kindF B N kind n) ++ ((N.take k).map fun v => (⟨⟨kind, n⟩, false, 0, v⟩ : LFact)) = l) := hl.symm
              have hll : l.length ≤ 10000 := by
                rw [hl, List.length_append, List.length_map, List.length_take]
                omega
              clear hl
              have cn := pn k hkl
              obtain ⟨nk, hnk⟩ : ∃ nk, nk = N.getD k 0 := ⟨_, rfl⟩
              rw [← hnk] at cn
              have HNK : Hid (N.getD k 0 = nk) := hnk.symm
              have c2 : wr.cell? ⟨bw, 2, none⟩ = some av := hA.q.r.rb.cell 2
              have a0 : wr.cell? ⟨ba, 0, none⟩ = some (.int .i64 kind) := hA.ra.cell 0
              have a1 : wr.cell? ⟨ba, 1, none⟩ = some (.int .i64 n) := hA.ra.cell 1
              have nbw := hA.q.r.os.apb
              have nnb : av.ownBlock ≠ some nb := fun e => by have := (World.ownsRow.lt hA.q.r.os.all _ e).1; omega
              have nba := hA.fa.a
              have hbaw := hA.fa.b
              have hbal := hA.fa.lt
              have hbwl2 := hA.q.r.rb.lt
              have hgr2 := hA.q.r.os.gr.size
              have HA : Hid (OfA wz bw gs PW PC NV bm MS ba [.int .i64 kind, .int .i64 n] l av sv (stF B N s slots kind (n + 1)) wr) := hA
              clear hA hnk pn
              go_upto_region 22 with fail
              /- REGION 22 -/
              refine wp_region_held_drew (S := (fun w' => w'.cell? ⟨bw, 4, none⟩ = some (.slice (some ⟨nb, 0, none⟩) N.length nc) ∧ w'.cell? ⟨nb, k, none⟩ = some (.int .u32 nk) ∧ w'.cell? ⟨ba, 0, none⟩ = some (.int .i64 kind) ∧ w'.cell? ⟨ba, 1, none⟩ = some (.int .i64 n))) (by rfl) ?_ (fun hHeld => ?_)
              · (refine ⟨?_, ?_, ?_, ?_⟩ <;> go_keep)
              refine wpAnyH_take (i := 0) (v := ?_) rfl (by kernel_rfl) (by kernel_rfl) (by kernel_rfl) (fun _ _ _ h => h) (Or.inl ⟨by rfl, ?_⟩) (by assumption) ?_
              case refine_2 => (intro w hSw; (try dsimp only at hSw); go_simp; first | done | (with_reducible rfl))
              show wpAnyH _ _ _ _ _ _ _ (Act.put _ (some 107) _) _
              simp only [Act.put, List.setIfInBounds_toArray, List.set_cons_zero, List.set_cons_succ]
              refine wpAnyH_take (i := 2) (v := ?_) rfl (by kernel_rfl) (by kernel_rfl) (by kernel_rfl) (fun _ _ _ h => h) (Or.inl ⟨by rfl, ?_⟩) (by assumption) ?_
              case refine_2 => (intro w hSw; (try dsimp only at hSw); go_simp; first | done | (with_reducible rfl))
              show wpAnyH _ _ _ _ _ _ _ (Act.put _ (some 109) _) _
              simp only [Act.put, List.setIfInBounds_toArray, List.set_cons_zero, List.set_cons_succ]
              refine wpAnyH_take (i := 3) (v := ?_) rfl (by kernel_rfl) (by kernel_rfl) (by kernel_rfl) (fun _ _ _ h => h) (Or.inl ⟨by rfl, ?_⟩) (by assumption) ?_
              case refine_2 => (intro w hSw; (try dsimp only at hSw); go_simp; first | done | (with_reducible rfl))
              show wpAnyH _ _ _ _ _ _ _ (Act.put _ (some 110) _) _
              simp only [Act.put, List.setIfInBounds_toArray, List.set_cons_zero, List.set_cons_succ]
              refine wpAnyH_take (i := 4) (v := ?_) rfl (by kernel_rfl) (by kernel_rfl) (by kernel_rfl) (fun _ _ _ h => h) (Or.inl ⟨by rfl, ?_⟩) (by assumption) ?_
              case refine_2 => (intro w hSw; (try dsimp only at hSw); go_simp; first | done | (with_reducible rfl))
              show wpAnyH _ _ _ _ _ _ _ (Act.put _ (some 111) _) _
              simp only [Act.put, List.setIfInBounds_toArray, List.set_cons_zero, List.set_cons_succ]
              refine wpAnyH_take (i := 5) (v := ?_) rfl (by kernel_rfl) (by kernel_rfl) (by kernel_rfl) (fun _ _ _ h => h) (Or.inl ⟨by rfl, ?_⟩) (by assumption) ?_
              case refine_2 => (intro w hSw; (try dsimp only at hSw); go_simp; first | done | (with_reducible rfl))
              show wpAnyH _ _ _ _ _ _ _ (Act.put _ (some 112) _) _
              simp only [Act.put, List.setIfInBounds_toArray, List.set_cons_zero, List.set_cons_succ]
              refine wpAnyH_take (i := 6) (v := ?_) rfl (by kernel_rfl) (by kernel_rfl) (by kernel_rfl) (fun _ _ _ h => h) (Or.inl ⟨by rfl, ?_⟩) (by assumption) ?_
              case refine_2 => (intro w hSw; (try dsimp only at hSw); go_simp; first | done | (with_reducible rfl))
              show wpAnyH _ _ _ _ _ _ _ (Act.put _ (some 113) _) _
              simp only [Act.put, List.setIfInBounds_toArray, List.set_cons_zero, List.set_cons_succ]
              refine wpAnyH_take (i := 7) (v := ?_) rfl (by kernel_rfl) (by kernel_rfl) (by kernel_rfl) (fun _ _ _ h => h) (Or.inl ⟨by rfl, ?_⟩) (by assumption) ?_
              case refine_2 => (intro w hSw; (try dsimp only at hSw); go_simp; first | done | (with_reducible rfl))
              show wpAnyH _ _ _ _ _ _ _ (Act.put _ (some 114) _) _
              simp only [Act.put, List.setIfInBounds_toArray, List.set_cons_zero, List.set_cons_succ]
              refine wpAnyH_take (i := 8) (v := ?_) rfl (by kernel_rfl) (by kernel_rfl) (by kernel_rfl) (fun _ _ _ h => h) (Or.inl ⟨by rfl, ?_⟩) (by assumption) ?_
              case refine_2 => (intro w hSw; (try dsimp only at hSw); go_simp; first | done | (with_reducible rfl))
              show wpAnyH _ _ _ _ _ _ _ (Act.put _ (some 115) _) _
              simp only [Act.put, List.setIfInBounds_toArray, List.set_cons_zero, List.set_cons_succ]
              refine wpAnyH_ready (rs := [1, 9]) (by kernel_rfl) (by simp) ?_
              refine (AllReadyH.cons rfl (fun K hK => ?_) (AllReadyH.cons rfl (fun K hK => ?_) AllReadyH.nil))
              · go_simp
                refine hK.out _ _ ?_ (fun hHeld => ?_)
                · (go_split_ands; refine ⟨?_, ?_, ?_, ?_⟩ <;> first | assumption | go_keep)
                clear hK K
                try simp only [Act.put, List.setIfInBounds_toArray, List.set_cons_zero, List.set_cons_succ]
                refine wpAnyH_ready (rs := [9]) (by kernel_rfl) (by simp) ?_
                refine (AllReadyH.cons rfl (fun K hK => ?_) AllReadyH.nil)
                go_simp
                refine hK.out _ _ ?_ (fun hHeld => ?_)
                · (go_split_ands; refine ⟨?_, ?_, ?_, ?_⟩ <;> first | assumption | go_keep)
                clear hK K
                try simp only [Act.put, List.setIfInBounds_toArray, List.set_cons_zero, List.set_cons_succ]
                refine wpAnyH_ready (rs := [10]) (by kernel_rfl) (by simp) ?_
                refine (AllReadyH.cons rfl (fun K hK => ?_) AllReadyH.nil)
                (refine step_append_lies _ (by rfl) _ _ _ (by rfl) wz.heap.size 62 t0' (.agg #[.int .i64 0, .int .i64 0, .bool false, .int .i64 0, .int .u32 0]) 5 40 Tryz.underlying43 hi0 hy0 hy1 hy2 rfl (by decide) av l.length (l.flatMap factCs) (by rfl) ((World.ownsRow.alloc HA.out.q.r.os.all _).drew)
                   ⟨wr.heap.size, 0, none⟩ 1 1 [.int .i64 kind, .int .i64 n, .bool false, .int .i64 0, .int .u32 nk] (by rfl) (by rfl) (World.news_of_block (cs := #[.int .i64 kind, .int .i64 n, .bool false, .int .i64 0, .int .u32 nk]) (t := 62) (fr := (0, 0)) (heap_alloc_new wr _)) (by simp [Value.oneCell'])
                   (by omega) (by unfold maxLen; omega) (by omega) (by simp; omega) (wr.heap.size + 1) (by simp) ?_)
                intro g9 cap9 w9 hown hgrow hat hlt9
                have HA6 : Hid (OfA wz bw gs PW PC NV bm MS ba [.int .i64 kind, .int .i64 n] l av sv (stF B N s slots kind (n + 1)) (wr.alloc (.cells #[.int .i64 kind, .int .i64 n, .bool false, .int .i64 0, .int .u32 nk] 62)).drew) := HA.out.below (((Below.refl _ _).alloc (Nat.le_refl _) _).drew)
                have HP : Hid (OfA wz bw gs PW PC NV bm MS ba [.int .i64 kind, .int .i64 n] (l ++ [⟨⟨kind, n⟩, false, 0, nk⟩]) (.slice (some ⟨g9, 0, none⟩) (l.length + 1) cap9) sv (stF B N s slots kind (n + 1)) (w9.setCell ⟨bw, 2, none⟩ (.slice (some ⟨g9, 0, none⟩) (l.length + 1) cap9))) := HA6.out.fact hown hgrow (by simpa using hat)
                have hr9 := HA6.out.q.r.rb.grown hgrow (Ne.symm nbw)
                have cz : w9.cell? ⟨bw, 2, none⟩ = some av := hr9.cell 2
                have fz := hr9.frozen 2
                clear hr9 HA6
                refine hK.out _ _ ?_ (fun hHeld => ?_)
                · (go_split_ands
                   refine ⟨?_, ?_, ?_, ?_⟩
                   · (rw [hgrow.cell_far _ (by simp; omega) (Ne.symm nbw)]; simp [go_sem]; assumption)
                   · (rw [hgrow.cell_far _ (by simp; omega) (Ne.symm nnb)]; simp [go_sem]; assumption)
                   · (rw [hgrow.cell_far _ (by simp; omega) (Ne.symm nba)]; simp [go_sem]; assumption)
                   · (rw [hgrow.cell_far _ (by simp; omega) (Ne.symm nba)]; simp [go_sem]; assumption))
                clear hK K
                show wpAnyH _ _ _ _ _ _ _ (Act.put _ (some 117) _) _
                simp only [Act.put, List.setIfInBounds_toArray, List.set_cons_zero, List.set_cons_succ]
                refine wpAnyH_take (i := 11) (v := ?_) rfl (by kernel_rfl) (by kernel_rfl) (by kernel_rfl) (fun _ _ _ h => h) (Or.inl ⟨by rfl, ?_⟩) (by assumption) ?_
                case refine_2 => (intro w hSw; (try dsimp only at hSw); go_simp; first | done | (with_reducible rfl))
                show wpAnyH _ _ _ _ _ _ _ (Act.put _ (some 118) _) _
                simp only [Act.put, List.setIfInBounds_toArray, List.set_cons_zero, List.set_cons_succ]
                refine wpAnyH_ready (rs := [12]) (by kernel_rfl) (by simp) ?_
                refine (AllReadyH.cons rfl (fun K hK => ?_) AllReadyH.nil)
                go_simp
                refine hK.out _ _ ?_ (fun hHeld => ?_)
                · (go_split_ands
                   refine ⟨?_, ?_, ?_, ?_⟩
                   · (rw [World.cell?_setCell_other _ _ _ _ (by intro e; injection e with e1 e2; omega)]; assumption)
                   · (rw [World.cell?_setCell_far _ _ _ _ (by exact Ne.symm hnbw)]; assumption)
                   · (rw [World.cell?_setCell_far _ _ _ _ (by exact Ne.symm hbaw)]; assumption)
                   · (rw [World.cell?_setCell_far _ _ _ _ (by exact Ne.symm hbaw)]; assumption))
                clear hK K
                try simp only [Act.put, List.setIfInBounds_toArray, List.set_cons_zero, List.set_cons_succ]
                refine wpAnyH_done (by kernel_rfl) ?_ _
                clear hHeld
                clear hown hgrow hat cz fz
                go_wp2
                refine ⟨⟨k + 1, .slice (some ⟨g9, 0, none⟩) (l.length + 1) cap9, by go_num, by omega, ?_⟩, by simp [intOf]; omega⟩
                rw [take_map_succ hkl, HNK.out, ← List.append_assoc, HL.out]
                exact HP.out
              · go_simp
                refine hK.out _ _ ?_ (fun hHeld => ?_)
                · (go_split_ands; refine ⟨?_, ?_, ?_, ?_⟩ <;> first | assumption | go_keep)
                clear hK K
                try simp only [Act.put, List.setIfInBounds_toArray, List.set_cons_zero, List.set_cons_succ]
                refine wpAnyH_ready (rs := [1]) (by kernel_rfl) (by simp) ?_
                refine (AllReadyH.cons rfl (fun K hK => ?_) AllReadyH.nil)
                go_simp
                refine hK.out _ _ ?_ (fun hHeld => ?_)
                · (go_split_ands; refine ⟨?_, ?_, ?_, ?_⟩ <;> first | assumption | go_keep)
                clear hK K
                try simp only [Act.put, List.setIfInBounds_toArray, List.set_cons_zero, List.set_cons_succ]
                refine wpAnyH_ready (rs := [10]) (by kernel_rfl) (by simp) ?_
                refine (AllReadyH.cons rfl (fun K hK => ?_) AllReadyH.nil)
                (refine step_append_lies _ (by rfl) _ _ _ (by rfl) wz.heap.size 62 t0' (.agg #[.int .i64 0, .int .i64 0, .bool false, .int .i64 0, .int .u32 0]) 5 40 Tryz.underlying43 hi0 hy0 hy1 hy2 rfl (by decide) av l.length (l.flatMap factCs) (by rfl) ((World.ownsRow.alloc HA.out.q.r.os.all _).drew)
                   ⟨wr.heap.size, 0, none⟩ 1 1 [.int .i64 kind, .int .i64 n, .bool false, .int .i64 0, .int .u32 nk] (by rfl) (by rfl) (World.news_of_block (cs := #[.int .i64 kind, .int .i64 n, .bool false, .int .i64 0, .int .u32 nk]) (t := 62) (fr := (0, 0)) (heap_alloc_new wr _)) (by simp [Value.oneCell'])
                   (by omega) (by unfold maxLen; omega) (by omega) (by simp; omega) (wr.heap.size + 1) (by simp) ?_)
                intro g9 cap9 w9 hown hgrow hat hlt9
                have HA6 : Hid (OfA wz bw gs PW PC NV bm MS ba [.int .i64 kind, .int .i64 n] l av sv (stF B N s slots kind (n + 1)) (wr.alloc (.cells #[.int .i64 kind, .int .i64 n, .bool false, .int .i64 0, .int .u32 nk] 62)).drew) := HA.out.below (((Below.refl _ _).alloc (Nat.le_refl _) _).drew)
                have HP : Hid (OfA wz bw gs PW PC NV bm MS ba [.int .i64 kind, .int .i64 n] (l ++ [⟨⟨kind, n⟩, false, 0, nk⟩]) (.slice (some ⟨g9, 0, none⟩) (l.length + 1) cap9) sv (stF B N s slots kind (n + 1)) (w9.setCell ⟨bw, 2, none⟩ (.slice (some ⟨g9, 0, none⟩) (l.length + 1) cap9))) := HA6.out.fact hown hgrow (by simpa using hat)
                have hr9 := HA6.out.q.r.rb.grown hgrow (Ne.symm nbw)
                have cz : w9.cell? ⟨bw, 2, none⟩ = some av := hr9.cell 2
                have fz := hr9.frozen 2
                clear hr9 HA6
                refine hK.out _ _ ?_ (fun hHeld => ?_)
                · (go_split_ands
                   refine ⟨?_, ?_, ?_, ?_⟩
                   · (rw [hgrow.cell_far _ (by simp; omega) (Ne.symm nbw)]; simp [go_sem]; assumption)
                   · (rw [hgrow.cell_far _ (by simp; omega) (Ne.symm nnb)]; simp [go_sem]; assumption)
                   · (rw [hgrow.cell_far _ (by simp; omega) (Ne.symm nba)]; simp [go_sem]; assumption)
                   · (rw [hgrow.cell_far _ (by simp; omega) (Ne.symm nba)]; simp [go_sem]; assumption))
                clear hK K
                show wpAnyH _ _ _ _ _ _ _ (Act.put _ (some 117) _) _
                simp only [Act.put, List.setIfInBounds_toArray, List.set_cons_zero, List.set_cons_succ]
                refine wpAnyH_take (i := 11) (v := ?_) rfl (by kernel_rfl) (by kernel_rfl) (by kernel_rfl) (fun _ _ _ h => h) (Or.inl ⟨by rfl, ?_⟩) (by assumption) ?_
                case refine_2 => (intro w hSw; (try dsimp only at hSw); go_simp; first | done | (with_reducible rfl))
                show wpAnyH _ _ _ _ _ _ _ (Act.put _ (some 118) _) _
                simp only [Act.put, List.setIfInBounds_toArray, List.set_cons_zero, List.set_cons_succ]
                refine wpAnyH_ready (rs := [12]) (by kernel_rfl) (by simp) ?_
                refine (AllReadyH.cons rfl (fun K hK => ?_) AllReadyH.nil)
                go_simp
                refine hK.out _ _ ?_ (fun hHeld => ?_)
                · (go_split_ands
                   refine ⟨?_, ?_, ?_, ?_⟩
                   · (rw [World.cell?_setCell_other _ _ _ _ (by intro e; injection e with e1 e2; omega)]; assumption)
                   · (rw [World.cell?_setCell_far _ _ _ _ (by exact Ne.symm hnbw)]; assumption)
                   · (rw [World.cell?_setCell_far _ _ _ _ (by exact Ne.symm hbaw)]; assumption)
                   · (rw [World.cell?_setCell_far _ _ _ _ (by exact Ne.symm hbaw)]; assumption))
                clear hK K
                try simp only [Act.put, List.setIfInBounds_toArray, List.set_cons_zero, List.set_cons_succ]
                refine wpAnyH_done (by kernel_rfl) ?_ _
                clear hHeld
                clear hown hgrow hat cz fz
                go_wp2
                refine ⟨⟨k + 1, .slice (some ⟨g9, 0, none⟩) (l.length + 1) cap9, by go_num, by omega, ?_⟩, by simp [intOf]; omega⟩
                rw [take_map_succ hkl, HNK.out, ← List.append_assoc, HL.out]
                exact HP.out
    have y8 : (x : Int) < (B.length : Int) := by omega
    have y7 : (0 : Int) ≤ (x : Int) := by omega
    go_wp2
    go_loopw [9] (fun kv wr => ∃ (k : Nat) (av : Value), kv = .int .i64 k ∧ k ≤ N.length ∧ (0 < k → B.getD x false = false) ∧ OfT wz bw (.slice (some ⟨b0, o0, none⟩) B.length c0) (.slice (some ⟨b1, o1, none⟩) C.length c1) (.slice (some ⟨nb, 0, none⟩) N.length nc) ((List.range x).flatMap (tempF B N) ++ (N.take k).map fun n => ⟨.zero, true, x, n⟩) av wr) (fun kv _ => N.length - (intOf kv).toNat)
    case atStart => exact ⟨0, av, rfl, by omega, fun h => absurd h (by omega), by simpa using HOT.out⟩
    case round =>
      clear HOT p0
      obtain ⟨k, av, rfl, hk, hwx, hot⟩ := hrel
      obtain ⟨l, hl⟩ : ∃ l, l = (List.range x).flatMap (tempF B N) ++ (N.take k).map fun n => (⟨.zero, true, x, n⟩ : LFact) := ⟨_, rfl⟩
      rw [← hl] at hot
      have HL : Hid ((List.range x).flatMap (tempF B N) ++ ((N.take k).map fun n => (⟨.zero, true, x, n⟩ : LFact)) = l) := hl.symm
      have hll : l.length ≤ 12 * 41 + 41 := by rw [hl]; simp only [List.length_append, List.length_map, List.length_take]; have := len_temps (B := B) (N := N) x; have := Nat.mul_le_mul (show x ≤ 12 by omega) hNl; omega
      clear hl
      have HOT : Hid (OfT wz bw (.slice (some ⟨b0, o0, none⟩) B.length c0) (.slice (some ⟨b1, o1, none⟩) C.length c1) (.slice (some ⟨nb, 0, none⟩) N.length nc) l av wr) := hot
      obtain ⟨p0, pw, pn⟩ := HTW.out wr _ av hot
      have pwx := pw x hxl
      have c2 : wr.cell? ⟨bw, 2, none⟩ = some av := hot.rb.cell 2
      have c4 : wr.cell? ⟨bw, 4, none⟩ = some (.slice (some ⟨nb, 0, none⟩) N.length nc) := hot.rb.cell 4
      have nbw := hot.ne
      have nnb : av.ownBlock ≠ some nb := fun e => by have := (World.ownsRow.lt hot.all _ e).1; omega
      have hgrs := hot.gr.size
      have HPN : Hid (∀ j, j < N.length → wr.cell? ⟨nb, j, none⟩ = some (.int .u32 (N.getD j 0))) := pn
      have HWX : Hid (0 < k → B.getD x false = false) := hwx
      clear hot pw pn hwx
      obtain ⟨bx, hbx⟩ : ∃ bx, bx = B.getD x false := ⟨_, rfl⟩
      rw [← hbx] at pwx
      have HBX : Hid (B.getD x false = bx) := hbx.symm
      clear hbx
      by_cases hkl : k < N.length
      case neg =>
        have z9 : ¬ (k : Int) < (N.length : Int) := by omega
        obtain rfl : k = N.length := by omega
        go_wp2
        go_roundw
        case rel =>
          refine ⟨x + 1, av, by go_num, by omega, ?_⟩
          have e := HWX.out (by omega)
          have h9 := HL.out
          rw [List.take_length] at h9
          rw [temps_succ, tempF, if_neg (by rw [e]; simp), h9]
          exact HOT.out
        case measure => simp [intOf]; omega
      have z8 : (k : Int) < (N.length : Int) := by omega
      have z7 : (0 : Int) ≤ (k : Int) := by omega
      cases bx with
      | true =>
        go_wp2
        go_roundw
        case rel =>
          refine ⟨x + 1, av, by go_num, by omega, ?_⟩
          have e := HBX.out
          have hk0 : k = 0 := by
            rcases Nat.eq_zero_or_pos k with h | h
            · exact h
            · have := HWX.out h; rw [e] at this; exact absurd this (by simp)
          subst hk0
          have := HL.out
          rw [temps_succ, tempF, if_pos e]
          simp only [List.take_zero, List.map_nil] at this
          rw [this]
          exact HOT.out
        case measure => simp [intOf]; omega
      | false =>
        have hwx := HBX.out
        have cn := HPN.out k hkl
        obtain ⟨nk, hnk⟩ : ∃ nk, nk = N.getD k 0 := ⟨_, rfl⟩
        rw [← hnk] at cn
        have HNK : Hid (N.getD k 0 = nk) := hnk.symm
        clear hnk
        obtain ⟨t0', hi0, hy0, hy1, hy2⟩ := info_parts infFact8
        have hnbr : nb < wr.heap.size := by omega
        have hbwr : bw < wr.heap.size := by omega
        go_upto_region 8 with fail
        /- REGION 8 -/
        refine wp_region_held_drew (S := (fun w' => w'.cell? ⟨bw, 4, none⟩ = some (.slice (some ⟨nb, 0, none⟩) N.length nc) ∧ w'.cell? ⟨nb, k, none⟩ = some (.int .u32 nk))) (by rfl) ?_ (fun hHeld => ?_)
        · (refine ⟨?_, ?_⟩ <;> go_keep)
        refine wpAnyH_take (i := 0) (v := ?_) rfl (by kernel_rfl) (by kernel_rfl) (by kernel_rfl) (fun _ _ _ h => h) (Or.inl ⟨by rfl, ?_⟩) (by assumption) ?_
        case refine_2 => (intro w hSw; (try dsimp only at hSw); go_simp; first | done | (with_reducible rfl))
        show wpAnyH _ _ _ _ _ _ _ (Act.put _ (some 42) _) _
        simp only [Act.put, List.setIfInBounds_toArray, List.set_cons_zero, List.set_cons_succ]
        refine wpAnyH_take (i := 2) (v := ?_) rfl (by kernel_rfl) (by kernel_rfl) (by kernel_rfl) (fun _ _ _ h => h) (Or.inl ⟨by rfl, ?_⟩) (by assumption) ?_
        case refine_2 => (intro w hSw; (try dsimp only at hSw); go_simp; first | done | (with_reducible rfl))
        show wpAnyH _ _ _ _ _ _ _ (Act.put _ (some 44) _) _
        simp only [Act.put, List.setIfInBounds_toArray, List.set_cons_zero, List.set_cons_succ]
        refine wpAnyH_take (i := 3) (v := ?_) rfl (by kernel_rfl) (by kernel_rfl) (by kernel_rfl) (fun _ _ _ h => h) (Or.inl ⟨by rfl, ?_⟩) (by assumption) ?_
        case refine_2 => (intro w hSw; (try dsimp only at hSw); go_simp; first | done | (with_reducible rfl))
        show wpAnyH _ _ _ _ _ _ _ (Act.put _ (some 45) _) _
        simp only [Act.put, List.setIfInBounds_toArray, List.set_cons_zero, List.set_cons_succ]
        refine wpAnyH_take (i := 4) (v := ?_) rfl (by kernel_rfl) (by kernel_rfl) (by kernel_rfl) (fun _ _ _ h => h) (Or.inl ⟨by rfl, ?_⟩) (by assumption) ?_
        case refine_2 => (intro w hSw; (try dsimp only at hSw); go_simp; first | done | (with_reducible rfl))
        show wpAnyH _ _ _ _ _ _ _ (Act.put _ (some 46) _) _
        simp only [Act.put, List.setIfInBounds_toArray, List.set_cons_zero, List.set_cons_succ]
        refine wpAnyH_take (i := 5) (v := ?_) rfl (by kernel_rfl) (by kernel_rfl) (by kernel_rfl) (fun _ _ _ h => h) (Or.inl ⟨by rfl, ?_⟩) (by assumption) ?_
        case refine_2 => (intro w hSw; (try dsimp only at hSw); go_simp; first | done | (with_reducible rfl))
        show wpAnyH _ _ _ _ _ _ _ (Act.put _ (some 47) _) _
        simp only [Act.put, List.setIfInBounds_toArray, List.set_cons_zero, List.set_cons_succ]
        refine wpAnyH_take (i := 6) (v := ?_) rfl (by kernel_rfl) (by kernel_rfl) (by kernel_rfl) (fun _ _ _ h => h) (Or.inl ⟨by rfl, ?_⟩) (by assumption) ?_
        case refine_2 => (intro w hSw; (try dsimp only at hSw); go_simp; first | done | (with_reducible rfl))
        show wpAnyH _ _ _ _ _ _ _ (Act.put _ (some 48) _) _
        simp only [Act.put, List.setIfInBounds_toArray, List.set_cons_zero, List.set_cons_succ]
        refine wpAnyH_take (i := 7) (v := ?_) rfl (by kernel_rfl) (by kernel_rfl) (by kernel_rfl) (fun _ _ _ h => h) (Or.inl ⟨by rfl, ?_⟩) (by assumption) ?_
        case refine_2 => (intro w hSw; (try dsimp only at hSw); go_simp; first | done | (with_reducible rfl))
        show wpAnyH _ _ _ _ _ _ _ (Act.put _ (some 49) _) _
        simp only [Act.put, List.setIfInBounds_toArray, List.set_cons_zero, List.set_cons_succ]
        refine wpAnyH_take (i := 8) (v := ?_) rfl (by kernel_rfl) (by kernel_rfl) (by kernel_rfl) (fun _ _ _ h => h) (Or.inl ⟨by rfl, ?_⟩) (by assumption) ?_
        case refine_2 => (intro w hSw; (try dsimp only at hSw); go_simp; first | done | (with_reducible rfl))
        show wpAnyH _ _ _ _ _ _ _ (Act.put _ (some 50) _) _
        simp only [Act.put, List.setIfInBounds_toArray, List.set_cons_zero, List.set_cons_succ]
        refine wpAnyH_ready (rs := [1, 9]) (by kernel_rfl) (by simp) ?_
        refine (AllReadyH.cons rfl (fun K hK => ?_) (AllReadyH.cons rfl (fun K hK => ?_) AllReadyH.nil))
        · go_simp
          refine hK.out _ _ ?_ (fun hHeld => ?_)
          · (go_split_ands; refine ⟨?_, ?_⟩ <;> first | assumption | go_keep)
          clear hK K
          try simp only [Act.put, List.setIfInBounds_toArray, List.set_cons_zero, List.set_cons_succ]
          refine wpAnyH_ready (rs := [9]) (by kernel_rfl) (by simp) ?_
          refine (AllReadyH.cons rfl (fun K hK => ?_) AllReadyH.nil)
          go_simp
          refine hK.out _ _ ?_ (fun hHeld => ?_)
          · (go_split_ands; refine ⟨?_, ?_⟩ <;> first | assumption | go_keep)
          clear hK K
          try simp only [Act.put, List.setIfInBounds_toArray, List.set_cons_zero, List.set_cons_succ]
          refine wpAnyH_ready (rs := [10]) (by kernel_rfl) (by simp) ?_
          refine (AllReadyH.cons rfl (fun K hK => ?_) AllReadyH.nil)
          (refine step_append_lies _ (by rfl) _ _ _ (by rfl) wz.heap.size 62 t0' (.agg #[.int .i64 0, .int .i64 0, .bool false, .int .i64 0, .int .u32 0]) 5 40 Tryz.underlying43 hi0 hy0 hy1 hy2 rfl (by decide) av l.length (l.flatMap factCs) (by rfl) ((World.ownsRow.alloc HOT.out.all _).drew)
             ⟨wr.heap.size, 0, none⟩ 1 1 [.int .i64 0, .int .i64 0, .bool true, .int .i64 x, .int .u32 nk] (by rfl) (by rfl) (World.news_of_block (cs := #[.int .i64 0, .int .i64 0, .bool true, .int .i64 x, .int .u32 nk]) (t := 62) (fr := (0, 0)) (heap_alloc_new wr _)) (by simp [Value.oneCell'])
             (by omega) (by unfold maxLen; omega) (by omega) (by simp; omega) (wr.heap.size + 1) (by simp) ?_)
          intro g9 cap9 w9 hown hgrow hat hlt9
          have HP : Hid (OfT wz bw (.slice (some ⟨b0, o0, none⟩) B.length c0) (.slice (some ⟨b1, o1, none⟩) C.length c1) (.slice (some ⟨nb, 0, none⟩) N.length nc) (l ++ [⟨.zero, true, x, nk⟩]) (.slice (some ⟨g9, 0, none⟩) (l.length + 1) cap9) (w9.setCell ⟨bw, 2, none⟩ (.slice (some ⟨g9, 0, none⟩) (l.length + 1) cap9))) := (HOT.out.below (((Below.refl _ _).alloc (Nat.le_refl _) _).drew)).fact hown hgrow
          have hr9 := (HOT.out.below (((Below.refl _ _).alloc (Nat.le_refl _) (.cells #[.int .i64 0, .int .i64 0, .bool true, .int .i64 x, .int .u32 nk] 62)).drew)).rb.grown hgrow (Ne.symm nbw)
          have cz : w9.cell? ⟨bw, 2, none⟩ = some av := hr9.cell 2
          have fz := hr9.frozen 2
          clear hr9
          refine hK.out _ _ ?_ (fun hHeld => ?_)
          · (go_split_ands
             refine ⟨?_, ?_⟩
             · (rw [hgrow.cell_far _ (by simp; omega) (Ne.symm nbw)]; simp [go_sem]; assumption)
             · (rw [hgrow.cell_far _ (by simp; omega) (Ne.symm nnb)]; simp [go_sem]; assumption))
          clear hK K
          show wpAnyH _ _ _ _ _ _ _ (Act.put _ (some 52) _) _
          simp only [Act.put, List.setIfInBounds_toArray, List.set_cons_zero, List.set_cons_succ]
          refine wpAnyH_take (i := 11) (v := ?_) rfl (by kernel_rfl) (by kernel_rfl) (by kernel_rfl) (fun _ _ _ h => h) (Or.inl ⟨by rfl, ?_⟩) (by assumption) ?_
          case refine_2 => (intro w hSw; (try dsimp only at hSw); go_simp; first | done | (with_reducible rfl))
          show wpAnyH _ _ _ _ _ _ _ (Act.put _ (some 53) _) _
          simp only [Act.put, List.setIfInBounds_toArray, List.set_cons_zero, List.set_cons_succ]
          refine wpAnyH_ready (rs := [12]) (by kernel_rfl) (by simp) ?_
          refine (AllReadyH.cons rfl (fun K hK => ?_) AllReadyH.nil)
          go_simp
          refine hK.out _ _ ?_ (fun hHeld => ?_)
          · (go_split_ands
             refine ⟨?_, ?_⟩
             · (rw [World.cell?_setCell_other _ _ _ _ (by intro e; injection e with e1 e2; omega)]; assumption)
             · (rw [World.cell?_setCell_far _ _ _ _ (by exact Ne.symm hnbw)]; assumption))
          clear hK K
          try simp only [Act.put, List.setIfInBounds_toArray, List.set_cons_zero, List.set_cons_succ]
          refine wpAnyH_done (by kernel_rfl) ?_ _
          clear hHeld
          clear hown hgrow hat cz fz
          go_wp2
          refine ⟨⟨k + 1, .slice (some ⟨g9, 0, none⟩) (l.length + 1) cap9, by go_num, by omega, fun _ => hwx, ?_⟩, by simp [intOf]; omega⟩
          rw [take_map_succ hkl, HNK.out, ← List.append_assoc, HL.out]
          exact HP.out
        · go_simp
          refine hK.out _ _ ?_ (fun hHeld => ?_)
          · (go_split_ands; refine ⟨?_, ?_⟩ <;> first | assumption | go_keep)
          clear hK K
          try simp only [Act.put, List.setIfInBounds_toArray, List.set_cons_zero, List.set_cons_succ]
          refine wpAnyH_ready (rs := [1]) (by kernel_rfl) (by simp) ?_
          refine (AllReadyH.cons rfl (fun K hK => ?_) AllReadyH.nil)
          go_simp
          refine hK.out _ _ ?_ (fun hHeld => ?_)
          · (go_split_ands; refine ⟨?_, ?_⟩ <;> first | assumption | go_keep)
          clear hK K
          try simp only [Act.put, List.setIfInBounds_toArray, List.set_cons_zero, List.set_cons_succ]
          refine wpAnyH_ready (rs := [10]) (by kernel_rfl) (by simp) ?_
          refine (AllReadyH.cons rfl (fun K hK => ?_) AllReadyH.nil)
          (refine step_append_lies _ (by rfl) _ _ _ (by rfl) wz.heap.size 62 t0' (.agg #[.int .i64 0, .int .i64 0, .bool false, .int .i64 0, .int .u32 0]) 5 40 Tryz.underlying43 hi0 hy0 hy1 hy2 rfl (by decide) av l.length (l.flatMap factCs) (by rfl) ((World.ownsRow.alloc HOT.out.all _).drew)
             ⟨wr.heap.size, 0, none⟩ 1 1 [.int .i64 0, .int .i64 0, .bool true, .int .i64 x, .int .u32 nk] (by rfl) (by rfl) (World.news_of_block (cs := #[.int .i64 0, .int .i64 0, .bool true, .int .i64 x, .int .u32 nk]) (t := 62) (fr := (0, 0)) (heap_alloc_new wr _)) (by simp [Value.oneCell'])
             (by omega) (by unfold maxLen; omega) (by omega) (by simp; omega) (wr.heap.size + 1) (by simp) ?_)
          intro g9 cap9 w9 hown hgrow hat hlt9
          have HP : Hid (OfT wz bw (.slice (some ⟨b0, o0, none⟩) B.length c0) (.slice (some ⟨b1, o1, none⟩) C.length c1) (.slice (some ⟨nb, 0, none⟩) N.length nc) (l ++ [⟨.zero, true, x, nk⟩]) (.slice (some ⟨g9, 0, none⟩) (l.length + 1) cap9) (w9.setCell ⟨bw, 2, none⟩ (.slice (some ⟨g9, 0, none⟩) (l.length + 1) cap9))) := (HOT.out.below (((Below.refl _ _).alloc (Nat.le_refl _) _).drew)).fact hown hgrow
          have hr9 := (HOT.out.below (((Below.refl _ _).alloc (Nat.le_refl _) (.cells #[.int .i64 0, .int .i64 0, .bool true, .int .i64 x, .int .u32 nk] 62)).drew)).rb.grown hgrow (Ne.symm nbw)
          have cz : w9.cell? ⟨bw, 2, none⟩ = some av := hr9.cell 2
          have fz := hr9.frozen 2
          clear hr9
          refine hK.out _ _ ?_ (fun hHeld => ?_)
          · (go_split_ands
             refine ⟨?_, ?_⟩
             · (rw [hgrow.cell_far _ (by simp; omega) (Ne.symm nbw)]; simp [go_sem]; assumption)
             · (rw [hgrow.cell_far _ (by simp; omega) (Ne.symm nnb)]; simp [go_sem]; assumption))
          clear hK K
          show wpAnyH _ _ _ _ _ _ _ (Act.put _ (some 52) _) _
          simp only [Act.put, List.setIfInBounds_toArray, List.set_cons_zero, List.set_cons_succ]
          refine wpAnyH_take (i := 11) (v := ?_) rfl (by kernel_rfl) (by kernel_rfl) (by kernel_rfl) (fun _ _ _ h => h) (Or.inl ⟨by rfl, ?_⟩) (by assumption) ?_
          case refine_2 => (intro w hSw; (try dsimp only at hSw); go_simp; first | done | (with_reducible rfl))
          show wpAnyH _ _ _ _ _ _ _ (Act.put _ (some 53) _) _
          simp only [Act.put, List.setIfInBounds_toArray, List.set_cons_zero, List.set_cons_succ]
          refine wpAnyH_ready (rs := [12]) (by kernel_rfl) (by simp) ?_
          refine (AllReadyH.cons rfl (fun K hK => ?_) AllReadyH.nil)
          go_simp
          refine hK.out _ _ ?_ (fun hHeld => ?_)
          · (go_split_ands
             refine ⟨?_, ?_⟩
             · (rw [World.cell?_setCell_other _ _ _ _ (by intro e; injection e with e1 e2; omega)]; assumption)
             · (rw [World.cell?_setCell_far _ _ _ _ (by exact Ne.symm hnbw)]; assumption))
          clear hK K
          try simp only [Act.put, List.setIfInBounds_toArray, List.set_cons_zero, List.set_cons_succ]
          refine wpAnyH_done (by kernel_rfl) ?_ _
          clear hHeld
          clear hown hgrow hat cz fz
          go_wp2
          refine ⟨⟨k + 1, .slice (some ⟨g9, 0, none⟩) (l.length + 1) cap9, by go_num, by omega, fun _ => hwx, ?_⟩, by simp [intOf]; omega⟩
          rw [take_map_succ hkl, HNK.out, ← List.append_assoc, HL.out]
          exact HP.out

end Go.Proofs.YtcmnmogmdhofcaaGreat.form
