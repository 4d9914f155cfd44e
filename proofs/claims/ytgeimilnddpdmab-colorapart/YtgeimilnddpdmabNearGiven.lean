/- What may not be in one place, the program's own: what an instruction gives with what is needed behind it (near.joinGiven). -/
import Derived.Test.YtgeimilnddpdmabNearFirst
namespace Go.Proofs.Ytgeimilnddpdmab.form
open Go.RowKit
set_option linter.unusedVariables false
attribute [local go_sem ↓] Go.wp_at_zero Go.wp_at_succ

theorem isMoved (i : LIns) (t : Nat) (w : World) :
    Calls Try.prog 94 #[i.val, .int .i64 t] w fun e w' => e = .returned (.bool ((i.op == 2) && (i.a == (t : Int)))) ∧ Below w.heap.size w w' := by
  unfold LIns.val
  have HB : Hid (∀ o : Obj, Below w.heap.size w (w.alloc o)) := fun o => (Below.refl _ _).alloc (Nat.le_refl _) _
  go_enter Try.func94, Try.ntmps94
  go_wp2
  · go_ret
    rename_i hne
    exact ⟨ret_bool (by simp [hne]), HB.out _⟩
  · go_ret
    rename_i heq
    exact ⟨ret_bool (by simp [heq]), HB.out _⟩

/-- By the truths of what is needed: an instruction gives the one where the other one is needed behind it. -/
def NearF (nB : Nat) (C : List LIns) (LN : List Bool) (k a b : Nat) : Prop :=
  givesT (C.getD k .zero) a = true ∧ ¬ ((C.getD k .zero).op = 2 ∧ (C.getD k .zero).a = (b : Int)) ∧ ∃ x, x ∈ goesI C.length (C.getD k .zero) k ∧ getF nB LN x.toNat b = true
def GivenP (P : Nat → Nat → Prop) (nB : Nat) (C : List LIns) (LN : List Bool) (k : Nat) (x y : Nat) : Prop := P x y ∨ (¬ x = y ∧ (NearF nB C LN k x y ∨ NearF nB C LN k y x))

set_option maxRecDepth 100000 in
set_option maxHeartbeats 1000000 in
theorem joinGiven (gn bx g b0 o0 c0 b1 o1 c1 : Nat) (B : List Bool) (C : List LIns) (LN L0 : List Bool) (P : Nat → Nat → Prop) (k : Nat) (w : World) (hB : B.length ≤ 12) (hC : C.length ≤ 40) (hxn : ¬ (gn ≤ bx ∧ bx < gn + 1 + B.length)) (hgn : g + C.length < gn) (hg0 : b0 < gn) (hg1 : b1 < gn) (h : Held w b0 o0 b1 o1 B C)
    (hok : ∀ k, k < C.length → InsOk B.length C.length (C.getD k .zero)) (hkn : ∀ k, k < C.length → knownB (C.getD k .zero).op = true) (hM : MatF g B.length C.length LN w) (hk : k < C.length) (hN : NM w gn bx B.length L0 w) (hS : NrS B.length L0 P) (hB1 : 1 ≤ B.length) :
    Calls Try.prog 52 #[progV b0 o0 B.length c0 b1 o1 C.length c1, .slice (some ⟨g, 0, none⟩) C.length C.length, .int .i64 k, .func (.func 50) #[] #[.pointer (some ⟨bx, 0, none⟩)]] w fun e w' => e = .returned (.tuple #[]) ∧ ∃ L, NM w gn bx B.length L w' ∧ NrS B.length L (GivenP P B.length C LN k) := by
  have hgl : gn + B.length < w.heap.size := by have := (hN.mat.row (B.length - 1) (by omega)).lt; omega
  obtain ⟨d0, d1, d2, d3, d4, d5⟩ := h.code k hk
  have HGO : Hid (∀ wx : World, Below w.heap.size w wx → Calls Try.prog 93 #[progV b0 o0 B.length c0 b1 o1 C.length c1, .int .i64 k] wx fun e w' => (∃ v, e = .returned v ∧ IntsAt wx.heap.size w' v (goesI C.length (C.getD k .zero) k)) ∧ Below wx.heap.size wx w') := fun wx hb => goesOn b0 o0 c0 b1 o1 c1 B C k wx hC (h.later hb) hk
  have HTH : Hid (∀ x, x ∈ goesI C.length (C.getD k .zero) k → 0 ≤ x ∧ x < C.length) := fun x hx => goes_there hx
  have hgi := goes_len C.length (C.getD k .zero) k
  have hdest : givesB (C.getD k .zero).op = true → 0 ≤ (C.getD k .zero).dest ∧ (C.getD k .zero).dest < B.length := (hok k hk).d
  have hP0 : isT (kd (C.getD k .zero).op 0) = givesB (C.getD k .zero).op := isT_gives (hkn k hk)
  have HH : Hid (∀ wx : World, Calls Try.prog 92 #[.int .i64 (C.getD k .zero).op] wx fun e w' => e = .returned (.tuple #[.bool (givesB (C.getD k .zero).op), .bool (isT (kd (C.getD k .zero).op 1)), .bool (isT (kd (C.getD k .zero).op 2))]) ∧ Below wx.heap.size wx w') := fun wx => by rw [← hP0]; exact has (C.getD k .zero).op wx
  have HJ : Hid (∀ (wx : World) (L : List Bool) (a b : Nat), NM w gn bx B.length L wx → a < B.length → b < B.length → Calls Try.prog 50 #[.int .i64 a, .int .i64 b, .pointer (some ⟨bx, 0, none⟩)] wx fun e w' => e = .returned (.tuple #[]) ∧ MatF gn B.length B.length (joinL B.length L a b) w' ∧ Apart gn (gn + 1 + B.length) wx w') :=
    fun wx L a b hm ha hb => Go.Proofs.Ytgeimilnddpdmab.form.join gn bx B.length a b L wx hB hm.box hxn hm.mat ha hb
  unfold GivenP NearF
  obtain ⟨i, hi⟩ : ∃ i, i = C.getD k .zero := ⟨_, rfl⟩
  rw [← hi] at d0 d1 d2 d3 d4 d5 HGO HTH HH hgi hdest
  rw [← hi]
  obtain ⟨N, hN9⟩ : ∃ N, N = goesI C.length i k := ⟨_, rfl⟩
  rw [← hN9] at HGO HTH hgi
  rw [← hN9]
  clear hi hN9 hP0
  have hlt1 := h.lt1
  have HM : Hid (MatF g B.length C.length LN w) := hM
  have HN0 : Hid (NM w gn bx B.length L0 w) := hN
  have HS0 : Hid (NrS B.length L0 P) := hS
  have y0 : (0 : Int) ≤ (k : Int) := by omega
  have y1 : (k : Int) < (C.length : Int) := by omega
  have y2 : (C.length : Int) ≤ 40 := by omega
  have x2 : (B.length : Int) ≤ 12 := by omega
  clear hM hok hkn h hN hS
  unfold progV
  obtain ⟨P1, hP1⟩ : ∃ x, x = isT (kd i.op 1) := ⟨_, rfl⟩
  obtain ⟨P2, hP2⟩ : ∃ x, x = isT (kd i.op 2) := ⟨_, rfl⟩
  rw [← hP1, ← hP2] at HH
  clear hP1 hP2
  rcases Bool.eq_false_or_eq_true (givesB i.op) with hgv | hgv
  case inr =>
    rw [hgv] at HH
    have HGV : Hid (givesB i.op = false) := hgv
    clear hgv hdest
    go_enter Try.func52, Try.ntmps52
    go_wp2_with (go_at_call 92; refine (HH.out _).mono ?_; rintro e w1 ⟨rfl, hb1⟩; have HB1 : Hid (Below w.heap.size w w1) := ((((Below.refl _ _).alloc (Nat.le_refl _) _).alloc (by simp) _).trans (hb1.mono (by simp; omega))))
    refine bodyPost_ret (results_none rfl _ _ _) rfl ?_
    refine ⟨rfl, L0, HN0.out.below HB1.out, HS0.out.congr fun x y _ _ => ?_⟩
    unfold givesT
    rw [HGV.out]
    simp
  rw [hgv] at HH
  obtain ⟨hd0, hd1⟩ := hdest hgv
  obtain ⟨D, hD⟩ : ∃ D : Nat, i.dest = D := Int.eq_ofNat_of_zero_le hd0
  have hDB : D < B.length := by omega
  rw [hD] at d1
  have HD : Hid (i.dest = (D : Int)) := hD
  clear hD hd0 hd1
  have HGV : Hid (givesB i.op = true) := hgv
  clear hgv hdest
  go_enter Try.func52, Try.ntmps52
  go_wp2_with (first
      | (go_at_call 92; refine (HH.out _).mono ?_; rintro e w1 ⟨rfl, hb1⟩; have HB1 : Hid (Below w.heap.size w w1) := ((((Below.refl _ _).alloc (Nat.le_refl _) _).alloc (by simp) _).trans (hb1.mono (by simp; omega))); have f0 : w1.cell? ⟨w.heap.size + 1, 0, none⟩ = some (.int .i64 i.op) := step_cell hb1 (by simp [go_sem]); have f1 : w1.cell? ⟨w.heap.size + 1, 1, none⟩ = some (.int .i64 D) := step_cell hb1 (by simp [go_sem]); have f2 : w1.cell? ⟨w.heap.size + 1, 2, none⟩ = some (.int .i64 i.a) := step_cell hb1 (by simp [go_sem]); have f3 : w1.cell? ⟨w.heap.size + 1, 3, none⟩ = some (.int .i64 i.b) := step_cell hb1 (by simp [go_sem]); have f4 : w1.cell? ⟨w.heap.size + 1, 4, none⟩ = some (.int .i64 i.c) := step_cell hb1 (by simp [go_sem]); have f5 : w1.cell? ⟨w.heap.size + 1, 5, none⟩ = some (.int .u32 i.n) := step_cell hb1 (by simp [go_sem]); have p0 : w1.cell? ⟨w.heap.size, 0, none⟩ = some (.slice (some ⟨b0, o0, none⟩) B.length c0) := step_cell hb1 (by simp [go_sem]); have p1 : w1.cell? ⟨w.heap.size, 1, none⟩ = some (.slice (some ⟨b1, o1, none⟩) C.length c1) := step_cell hb1 (by simp [go_sem]); clear hb1)
      | (go_at_call 93; refine (HGO.out _ HB1.out).mono ?_; rintro e w3 ⟨⟨nv, rfl, hnv⟩, hb3⟩; have HNV : Hid _ := hnv; obtain ⟨nao, ncap, rfl, -⟩ := hnv; have HB3 : Hid (Below w.heap.size w w3) := step_below hb3 HB1.out; have q0 := step_cell hb3 f0; have q1 := step_cell hb3 f1; have q2 := step_cell hb3 f2; have q3 := step_cell hb3 f3; have q4 := step_cell hb3 f4; have q5 := step_cell hb3 f5; have hz1 : w.heap.size + 1 < w1.heap.size := World.block_lt_of_cell? w1 _ f0; have hz13 := hb3.size; clear hb3))
  have HIM : Hid (∀ (t : Nat) (wx : World), Calls Try.prog 94 #[.agg #[.int .i64 i.op, .int .i64 D, .int .i64 i.a, .int .i64 i.b, .int .i64 i.c, .int .u32 i.n], .int .i64 t] wx fun e w' => e = .returned (.bool ((i.op == 2) && (i.a == (t : Int)))) ∧ Below wx.heap.size wx w') := fun t wx => by
    have := isMoved i t wx
    unfold LIns.val at this
    rwa [HD.out] at this
  have HJ3 : Hid (∀ (wx : World) (L : List Bool) (a b : Nat), NM w3 gn bx B.length L wx → a < B.length → b < B.length → Calls Try.prog 50 #[.int .i64 a, .int .i64 b, .pointer (some ⟨bx, 0, none⟩)] wx fun e w' => e = .returned (.tuple #[]) ∧ MatF gn B.length B.length (joinL B.length L a b) w' ∧ Apart gn (gn + 1 + B.length) wx w') :=
    fun wx L a b hm ha hb => Go.Proofs.Ytgeimilnddpdmab.form.join gn bx B.length a b L wx hB hm.box hxn hm.mat ha hb
  have HM3 : Hid (MatF g B.length C.length LN w3) := HM.out.below HB3.out
  have HN3 : Hid (NM w3 gn bx B.length L0 w3) := ⟨Apart.refl _ _ _, (HN0.out.below HB3.out).mat, (HN0.out.below HB3.out).box⟩
  have HNW : Hid (∀ (wx : World) (L : List Bool), NM w3 gn bx B.length L wx → NM w gn bx B.length L wx) := fun wx L hm => ⟨(Apart.of_below HB3.out).trans hm.bel, hm.mat, hm.box⟩
  have HQ : Hid (∀ (wx : World) (L : List Bool), NM w3 gn bx B.length L wx → wx.cell? ⟨w.heap.size + 1, 0, none⟩ = some (.int .i64 i.op) ∧ wx.cell? ⟨w.heap.size + 1, 1, none⟩ = some (.int .i64 D) ∧ wx.cell? ⟨w.heap.size + 1, 2, none⟩ = some (.int .i64 i.a) ∧ wx.cell? ⟨w.heap.size + 1, 3, none⟩ = some (.int .i64 i.b) ∧ wx.cell? ⟨w.heap.size + 1, 4, none⟩ = some (.int .i64 i.c) ∧ wx.cell? ⟨w.heap.size + 1, 5, none⟩ = some (.int .u32 i.n)) :=
    fun wx L hm => ⟨hm.bel.cell q0 (by dsimp only; omega), hm.bel.cell q1 (by dsimp only; omega), hm.bel.cell q2 (by dsimp only; omega), hm.bel.cell q3 (by dsimp only; omega), hm.bel.cell q4 (by dsimp only; omega), hm.bel.cell q5 (by dsimp only; omega)⟩
  have HR : Hid (∀ (wx : World) (L : List Bool) (Y : Nat), NM w3 gn bx B.length L wx → Y < C.length → wx.cell? ⟨g, Y, none⟩ = some (.slice (some ⟨g + 1 + Y, 0, none⟩) B.length B.length) ∧ ∀ t, t < B.length → wx.cell? ⟨g + 1 + Y, t, none⟩ = some (.bool (getF B.length LN Y t))) :=
    fun wx L Y hm hY => ⟨hm.bel.cell (HM3.out.top Y hY) (by dsimp only; omega), fun t ht => hm.bel.cell (HM3.out.cell hY ht) (by dsimp only; omega)⟩
  have HW3 : Hid (∀ (wx : World) (L : List Bool), NM w3 gn bx B.length L wx → 0 < N.length → ∃ gb, nao = some ⟨gb, 0, none⟩ ∧ gb < w3.heap.size ∧ ∀ q, q < N.length → wx.cell? ⟨gb, q, none⟩ = some (.int .i64 (N.getD q 0))) := by
    intro wx L hm h0
    obtain ⟨_, _, he, hh⟩ := HNV.out
    simp at he
    obtain ⟨rfl, rfl⟩ := he
    obtain ⟨gb, e1, e2, e3, e4⟩ := hh h0
    exact ⟨gb, e1, e3, fun q hq => hm.bel.cell (e4 q hq) (by dsimp only; omega)⟩
  have z3 : (N.length : Int) ≤ 2 := by omega
  clear HNV HB1 p0 p1 f0 f1 f2 f3 f4 f5 d0 d1 d2 d3 d4 d5 q0 q1 q2 q3 q4 q5 HJ
  go_loopw [34] (fun jv wr => ∃ (j : Nat) (L : List Bool), jv = .int .i64 j ∧ j ≤ N.length ∧ NM w3 gn bx B.length L wr ∧ NrS B.length L (JoinP P D (fun t => (∃ q, q < j ∧ getF B.length LN (N.getD q 0).toNat t = true) ∧ ¬ (i.op = 2 ∧ i.a = (t : Int))))) (fun jv _ => N.length - (intOf jv).toNat)
  case atStart => exact ⟨0, L0, rfl, by omega, HN3.out, HS0.out.congr fun x y _ _ => by unfold JoinP; grind⟩
  case round =>
    obtain ⟨j, L, rfl, hj, hnm, hns⟩ := hrel
    have HNM : Hid (NM w3 gn bx B.length L wr) := hnm
    have HNS : Hid (NrS B.length L (JoinP P D (fun t => (∃ q, q < j ∧ getF B.length LN (N.getD q 0).toNat t = true) ∧ ¬ (i.op = 2 ∧ i.a = (t : Int))))) := hns
    clear hnm hns
    by_cases hjl : j < N.length
    case neg =>
      have y9 : ¬ (j : Int) < (N.length : Int) := by omega
      go_wp2
      go_end0
      refine ⟨rfl, L, HNW.out _ _ HNM.out, HNS.out.congr fun x y _ _ => ?_⟩
      obtain rfl : j = N.length := by omega
      have hmem : ∀ b : Nat, (∃ q, q < N.length ∧ getF B.length LN (N.getD q 0).toNat b = true) ↔ ∃ x, x ∈ N ∧ getF B.length LN x.toNat b = true := by
        intro b
        constructor
        · rintro ⟨q, hq, hg⟩
          exact ⟨N.getD q 0, by simp [List.getD, hq], hg⟩
        · rintro ⟨x, hx, hg⟩
          obtain ⟨q, hq, rfl⟩ := List.getElem_of_mem hx
          exact ⟨q, hq, by rw [show N.getD q 0 = N[q] by simp [List.getD, hq]]; exact hg⟩
      have hgt : ∀ b : Nat, givesT i b = true ↔ b = D := by
        intro b
        unfold givesT
        rw [HGV.out, HD.out]
        simp
        omega
      unfold JoinP
      simp only [hmem, hgt]
      grind
    obtain ⟨gb, rfl, hgb2, hgbc⟩ := HW3.out wr L HNM.out (by omega)
    have nj := hgbc j hjl
    have hmem : N.getD j 0 ∈ N := by simp [List.getD, hjl]
    have hyb := HTH.out _ hmem
    obtain ⟨Y, hY⟩ : ∃ Y : Nat, N.getD j 0 = Y := Int.eq_ofNat_of_zero_le hyb.1
    rw [hY] at nj hyb
    have HY : Hid (N.getD j 0 = (Y : Int)) := hY
    clear hgbc hY hmem
    have hYC : Y < C.length := by omega
    obtain ⟨m1, -⟩ := HR.out wr L Y HNM.out hYC
    have y8 : (j : Int) < (N.length : Int) := by omega
    have y7 : (0 : Int) ≤ (j : Int) := by omega
    have y6 : (0 : Int) ≤ (Y : Int) := by omega
    have y5 : (Y : Int) < (C.length : Int) := by omega
    go_wp2
    go_loopw [43] (fun tv wr2 => ∃ (t : Nat) (L : List Bool), tv = .int .i64 t ∧ t ≤ B.length ∧ NM w3 gn bx B.length L wr2 ∧ NrS B.length L (JoinP P D (fun t' => ((∃ q, q < j ∧ getF B.length LN (N.getD q 0).toNat t' = true) ∨ (t' < t ∧ getF B.length LN Y t' = true)) ∧ ¬ (i.op = 2 ∧ i.a = (t' : Int))))) (fun tv _ => B.length - (intOf tv).toNat)
    case atStart => exact ⟨0, L, rfl, by omega, HNM.out, HNS.out.congr fun x y _ _ => by unfold JoinP; grind⟩
    case round =>
      clear HNM HNS m1 nj
      obtain ⟨t, L, rfl, ht, hnm, hns⟩ := hrel
      have HNM : Hid (NM w3 gn bx B.length L wr) := hnm
      have HNS : Hid (NrS B.length L (JoinP P D (fun t' => ((∃ q, q < j ∧ getF B.length LN (N.getD q 0).toNat t' = true) ∨ (t' < t ∧ getF B.length LN Y t' = true)) ∧ ¬ (i.op = 2 ∧ i.a = (t' : Int))))) := hns
      clear hnm hns
      by_cases htl : t < B.length
      case neg =>
        have z9 : ¬ (t : Int) < (B.length : Int) := by omega
        go_wp2
        go_roundw
        case rel =>
          refine ⟨j + 1, L, by go_num, by omega, HNM.out, HNS.out.congr fun x y hx hy => ?_⟩
          have hex : ∀ b : Nat, (∃ q, q < j + 1 ∧ getF B.length LN (N.getD q 0).toNat b = true) ↔ (∃ q, q < j ∧ getF B.length LN (N.getD q 0).toNat b = true) ∨ getF B.length LN Y b = true := by
            intro b
            have e : (N.getD j 0).toNat = Y := by rw [HY.out]; simp
            constructor
            · rintro ⟨q, hq, hg⟩
              by_cases hqj : q < j
              · exact Or.inl ⟨q, hqj, hg⟩
              · obtain rfl : q = j := by omega
                rw [e] at hg
                exact Or.inr hg
            · rintro (⟨q, hq, hg⟩ | hg)
              · exact ⟨q, by omega, hg⟩
              · exact ⟨j, by omega, by rw [e]; exact hg⟩
          unfold JoinP
          simp only [hex]
          have hxt : x < t := by omega
          have hyt : y < t := by omega
          simp only [hxt, hyt, true_and]
        case measure => simp [intOf]; omega
      have z8 : (t : Int) < (B.length : Int) := by omega
      have z7 : (0 : Int) ≤ (t : Int) := by omega
      have m2 := (HR.out wr L Y HNM.out hYC).2 t htl
      obtain ⟨q0, q1, q2, q3, q4, q5⟩ := HQ.out wr L HNM.out
      obtain ⟨u, hu⟩ : ∃ u, u = getF B.length LN Y t := ⟨_, rfl⟩
      rw [← hu] at m2
      have HU : Hid (getF B.length LN Y t = u) := hu.symm
      clear hu
      obtain ⟨mv, hmv⟩ : ∃ mv, mv = ((i.op == 2) && (i.a == (t : Int))) := ⟨_, rfl⟩
      have HMV : Hid (((i.op == 2) && (i.a == (t : Int))) = mv) := hmv.symm
      clear hmv
      have hzz : w.heap.size + 1 < wr.heap.size := World.block_lt_of_cell? wr _ q0
      cases u with
      | false =>
        go_wp2
        refine ⟨⟨t + 1, L, by go_num, by omega, HNM.out, HNS.out.congr fun x y _ _ => ?_⟩, by simp [intOf]; omega⟩
        have := HU.out
        have e : ∀ b : Nat, (b < t + 1 ∧ getF B.length LN Y b = true) ↔ (b < t ∧ getF B.length LN Y b = true) := by grind
        unfold JoinP
        simp only [e]
      | true =>
        cases mv with
        | true =>
          go_wp2_with (go_at_call 94; refine (HIM.out t _).mono ?_; rw [HMV.out]; rintro e w5 ⟨rfl, hb5⟩; have HN5 : Hid (NM w3 gn bx B.length L w5) := HNM.out.below hb5; clear hb5)
          refine ⟨⟨t + 1, L, by go_num, by omega, HN5.out, HNS.out.congr fun x y _ _ => ?_⟩, by simp [intOf]; omega⟩
          have h1 := HMV.out
          simp only [Bool.and_eq_true, beq_iff_eq] at h1
          have e : ∀ b : Nat, (((∃ q, q < j ∧ getF B.length LN (N.getD q 0).toNat b = true) ∨ (b < t ∧ getF B.length LN Y b = true)) ∧ ¬ (i.op = 2 ∧ i.a = (b : Int))) ↔ (((∃ q, q < j ∧ getF B.length LN (N.getD q 0).toNat b = true) ∨ (b < t + 1 ∧ getF B.length LN Y b = true)) ∧ ¬ (i.op = 2 ∧ i.a = (b : Int))) := by
            intro b
            by_cases hb : b = t
            · subst hb; simp [h1]
            · rw [show (b < t + 1) ↔ (b < t) by omega]
          unfold JoinP
          simp only [e]
        | false =>
          go_wp2_with (first
            | (go_at_call 94; refine (HIM.out t _).mono ?_; rw [HMV.out]; rintro e w5 ⟨rfl, hb5⟩; have HN5 : Hid (NM w3 gn bx B.length L w5) := HNM.out.below hb5; clear hb5; clear q0 q1 q2 q3 q4 q5; obtain ⟨q0, q1, q2, q3, q4, q5⟩ := HQ.out w5 L HN5.out)
            | (go_at_call 50; refine (HJ3.out _ L D t HN5.out hDB htl).mono ?_; rintro e w6 ⟨rfl, hM6, hA6⟩; have HN6 : Hid (NM w3 gn bx B.length (joinL B.length L D t) w6) := HN5.out.join hxn hM6 hA6; clear hM6 hA6))
          refine ⟨⟨t + 1, joinL B.length L D t, by go_num, by omega, HN6.out, (HNS.out.join hDB htl).congr fun x y _ _ => ?_⟩, by simp [intOf]; omega⟩
          have h1 := HMV.out
          have h2 := HU.out
          simp only [Bool.and_eq_false_iff, beq_eq_false_iff_ne, ne_eq] at h1
          have e : ∀ b : Nat, ((((∃ q, q < j ∧ getF B.length LN (N.getD q 0).toNat b = true) ∨ (b < t ∧ getF B.length LN Y b = true)) ∧ ¬ (i.op = 2 ∧ i.a = (b : Int))) ∨ b = t) ↔ (((∃ q, q < j ∧ getF B.length LN (N.getD q 0).toNat b = true) ∨ (b < t + 1 ∧ getF B.length LN Y b = true)) ∧ ¬ (i.op = 2 ∧ i.a = (b : Int))) := by
            intro b
            by_cases hb : b = t
            · subst hb
              simp only [h2, or_true, true_iff, Nat.lt_add_one, true_and]
              grind
            · rw [show (b < t + 1) ↔ (b < t) by omega]
              simp only [hb, or_false]
          unfold JoinP
          simp only [e]

end Go.Proofs.Ytgeimilnddpdmab.form
