/- How many pairs are near (drive: near). -/
import Derived.Deep.DeepCutAuto
import Derived.Deep.RegionHeld3
import Derived.BigQuiet
import Derived.Test.YtikhedkhgpjaaacGreatDoorW25
import Derived.Test.YtikhedkhgpjaaacGreatDoorW24
import Derived.Test.YtikhedkhgpjaaacGreatDoorW01

namespace Go.Proofs.YtikhedkhgpjaaacGreatDoor
set_option linter.unusedVariables false
namespace form
open Go.RowKit
set_option maxRecDepth 100000
attribute [local go_sem ↓] Go.wp_at_zero Go.wp_at_succ
attribute [local go_sem] str_size str_list ByteArray.toList_mk
def NearCap (r : Int × Nat) (n : Nat) (w : World) (e : Ending) (w' : World) : Prop :=
  ((¬ r.1 = 0 ∧ 0 ≤ r.1 ∧ r.1 < 9223372036854775808 ∧ ∃ ao c, e = .returned (.tuple #[.slice ao 0 c, .int .i64 r.1])) ∨
    (r.1 = 0 ∧ ∃ (X : Nat → Nat → Bool) (b cap : Nat) (Rw : Nat → Nat), e = .returned (.tuple #[.slice (some ⟨b, 0, none⟩) n cap, .int .i64 0]) ∧ r.2 = pairCount X n ∧
      ∀ a, a < n → w'.cell? ⟨b, a, none⟩ = some (.slice (some ⟨Rw a, 0, none⟩) n n) ∧ ∀ c, c < n → w'.cell? ⟨Rw a, c, none⟩ = some (.bool (X a c)))) ∧ Below w.heap.size w w'
def LayCap (L : Lay) : Prop := ∀ (pv : Value) (B : List Bool) (C : List LIns) (w : World), ProgIs w pv B C → B.length ≤ 12 → Calls Tryz.prog 41 #[pv] w fun e w' => NearCap (L.near B C) B.length w e w'
set_option maxHeartbeats 800000 in
theorem nearO {base q : Nat} {g : PL} {wv cv iv : Value} {w : World} (L : Lay) (hL : LayCap L) (hP : PlS base q g wv cv iv w) (hv : VarOk w) :
    Calls Tryz.prog 23 #[.pointer (some ⟨q, 0, none⟩)] w fun e w' => ShwP (countL (L.near g.wide g.code)) w e w' := by
  have HV : Hid (VarOk w) := hv
  have hqr := hP.lt
  have q0 := hP.c0
  have q1 := hP.c1
  have hbw := hP.bw
  obtain ⟨aW, kW, rfl, -, -⟩ := row_form hP.wide
  obtain ⟨aC, kC, rfl, -, -⟩ := row_form hP.code
  have c := hL (.agg #[.slice aW g.wide.length kW, .slice aC g.code.length kC]) g.wide g.code w hP.prog hbw
  obtain ⟨nr, hnr⟩ : ∃ x, x = L.near g.wide g.code := ⟨_, rfl⟩
  rw [← hnr] at c ⊢
  obtain ⟨an, han⟩ : ∃ z, z = countL nr := ⟨_, rfl⟩
  have HAN : Hid (an = countL nr) := han
  rw [← han]
  obtain ⟨n, hn⟩ : ∃ n, n = g.wide.length := ⟨_, rfl⟩
  have HC : Hid (Calls Tryz.prog 41 #[.agg #[.slice aW g.wide.length kW, .slice aC g.code.length kC]] w fun e w' => NearCap nr n w e w') := (by rw [hn]; exact c : Calls Tryz.prog 41 #[.agg #[.slice aW g.wide.length kW, .slice aC g.code.length kC]] w fun e w' => NearCap nr n w e w')
  have hn12 : n ≤ 12 := by omega
  clear hnr han hn c hP hL hv
  by_cases he : nr.1 = 0
  case neg =>
    have HC2 : Hid (Calls Tryz.prog 41 #[.agg #[.slice aW g.wide.length kW, .slice aC g.code.length kC]] w fun e w' => ∃ (en : Nat) (ao : Option Addr) (c : Nat), nr.1 = en ∧ en < 9223372036854775808 ∧ e = .returned (.tuple #[.slice ao 0 c, .int .i64 (en : Int)]) ∧ Below w.heap.size w w') := HC.out.mono (by
      rintro e w' ⟨⟨_, h0, h1, ao, c, rfl⟩ | ⟨h0, _⟩, hb⟩
      · refine ⟨nr.1.toNat, ao, c, by omega, by omega, ?_, hb⟩
        rw [Int.toNat_of_nonneg h0]
      · exact absurd h0 he)
    have HNE : Hid (¬ nr.1 = 0) := he
    clear he HC
    go_enter Tryz.func23, Tryz.ntmps23
    go_upto_region 2 with (go_at_call 41; refine HC2.out.mono ?_; rintro e w1 ⟨en, ao, c, hen, hen1, rfl, hb1⟩; have HB1 : Hid (Below w.heap.size w w1) := hb1; have HEN : Hid (nr.1 = (en : Int)) := hen; clear hb1 hen)
    have hez : ((en : Int) != 0) = true := by
      have h1 := HNE.out
      have h2 := HEN.out
      have : ¬ (en : Int) = 0 := by omega
      simpa using this
    have HBD := badO en hen1 w1 (HV.out.on HB1.out)
    clear q0 q1
    go_wp2_with (go_at_call 31; refine HBD.mono ?_; rintro e w11 ⟨v11, rfl, hw11, hb11⟩; have HW11 : Hid (WordsAt w1.heap.size [sBad, digitsL en] v11 w11) := hw11; have HB11 : Hid (Below w.heap.size w w11) := step_below hb11 HB1.out; clear hw11 hb11)
    go_ret
    refine ⟨_, _, rfl, HW11.out.down HB1.out.size, by simp, by simp, ?_, HB11.out⟩
    rw [HAN.out]
    unfold countL
    rw [if_neg HNE.out, HEN.out, Int.toNat_natCast]
    exact words_bad en
  have HC2 : Hid (Calls Tryz.prog 41 #[.agg #[.slice aW g.wide.length kW, .slice aC g.code.length kC]] w fun e w' => ∃ (X : Nat → Nat → Bool) (b cap : Nat) (Rw : Nat → Nat), e = .returned (.tuple #[.slice (some ⟨b, 0, none⟩) n cap, .int .i64 0]) ∧ nr.2 = pairCount X n ∧ (∀ a, a < n → w'.cell? ⟨b, a, none⟩ = some (.slice (some ⟨Rw a, 0, none⟩) n n) ∧ ∀ c, c < n → w'.cell? ⟨Rw a, c, none⟩ = some (.bool (X a c))) ∧ Below w.heap.size w w') := HC.out.mono (by
    rintro e w' ⟨⟨h0, _⟩ | ⟨h0, X, b, cap, Rw, rfl, h1, h2⟩, hb⟩
    · exact absurd he h0
    · exact ⟨X, b, cap, Rw, rfl, h1, h2, hb⟩)
  have HE0 : Hid (nr.1 = 0) := he
  clear he HC
  go_enter Tryz.func23, Tryz.ntmps23
  go_upto_region 2 with (go_at_call 41; refine HC2.out.mono ?_; rintro e w4 ⟨X, b, cap, Rw, rfl, hpc, hce, hb1⟩; have HB1 : Hid (Below w.heap.size w w4) := hb1; have HPC : Hid (nr.2 = pairCount X n) := hpc; have HCE : Hid (∀ a, a < n → w4.cell? ⟨b, a, none⟩ = some (.slice (some ⟨Rw a, 0, none⟩) n n) ∧ ∀ c, c < n → w4.cell? ⟨Rw a, c, none⟩ = some (.bool (X a c))) := hce; clear hb1 hpc hce)
  clear HC2 q0 q1
  go_wp2
  go_loopg [5, 6, 7, 9, 24] (n + 1) (fun gg v5 v6 v7 v9 t wr => ∃ (a m : Nat), t = .int .i64 a ∧ v5 = .int .i64 m ∧ a ≤ n ∧ gg = n + 1 - a ∧ m = pairCount X a ∧ wr = w4)
  case atStart => exact ⟨0, 0, rfl, rfl, by omega, by omega, rfl, rfl⟩
  case round =>
    obtain ⟨a, m, rfl, rfl, ha, hga, hm, hwr⟩ := hrel
    have hwr2 := hwr.symm
    subst hwr2
    have HGA : Hid (gk = n + 1 - a) := hga
    have HM : Hid (m = pairCount X a) := hm
    have hml : m ≤ 144 := by
      have h1 := pairCount_le X 12 a (by omega)
      omega
    clear hga hm hwr
    by_cases han : a < n
    case neg =>
      obtain rfl : a = n := by omega
      have haz : ¬ (a : Int) < (a : Int) := by omega
      have HT := oneO m (by omega) w4 (HV.out.on HB1.out)
      go_wp2_with (go_at_call 30; refine HT.mono ?_; rintro e w11 ⟨v11, rfl, hw11, hb11⟩; have HW11 : Hid (WordsAt w4.heap.size [digitsL m] v11 w11) := hw11; have HB11 : Hid (Below w.heap.size w w11) := step_below hb11 HB1.out; clear hw11 hb11)
      go_ret
      refine ⟨_, _, rfl, HW11.out.down HB1.out.size, by simp, by simp, ?_, HB11.out⟩
      rw [HAN.out]
      unfold countL
      rw [if_pos HE0.out, HPC.out, ← HM.out]
      exact joinW_one _
    have haz : (a : Int) < (n : Int) := by omega
    have ha0 : (0 : Int) ≤ (a : Int) := by omega
    obtain ⟨d1, d2⟩ := HCE.out a han
    have hb1 := World.block_lt_of_cell? _ _ d1
    obtain ⟨b2, hb2⟩ : ∃ z, z = Rw a := ⟨_, rfl⟩
    rw [← hb2] at d1 d2
    have HD2 : Hid (∀ c, c < n → w4.cell? ⟨b2, c, none⟩ = some (.bool (X a c))) := d2
    have hsl : ∀ W, (Instr.slice 24 (.slice (some ⟨b2, 0, none⟩) n n) none (some (.int .i64 (a : Int))) none).run Tryz.prog W = .ok (.slice (some ⟨b2, 0, none⟩) a n) W := fun W => by
      rw [run_slice_h W 24 _ _ _ (by kernel_rfl) .i64 (a : Int) (by omega) (by omega), show Tryz.prog.elem 24 = 4 by kernel_rfl]
      go_simp
    clear hb2 d2
    go_wp2
    obtain ⟨gA, hgA⟩ : ∃ x, x = gk := ⟨_, rfl⟩
    subst hgA
    go_loopg [5, 9, 33] (a + 1) (fun gg v5 v9 v wq => ∃ (y k : Nat), v = .int .i64 y ∧ v5 = .int .i64 k ∧ y ≤ a ∧ gg = a + 1 - y ∧ k = m + rowCount X a y ∧ wq = w4)
    case atStart => exact ⟨0, m, rfl, rfl, by omega, by omega, rfl, rfl⟩
    case round =>
      obtain ⟨y, k, rfl, rfl, hy, hgk, hk, hwq⟩ := hrel
      have HGY : Hid (gk = a + 1 - y) := hgk
      have HK : Hid (k = m + rowCount X a y) := hk
      have hkl : k ≤ 200 := by have := rowCount_le X a y; omega
      have hwq2 := hwq.symm
      subst hwq2
      clear hgk hk hwq
      by_cases hya : y < a
      case neg =>
        obtain rfl : y = a := by omega
        have hyz : ¬ (y : Int) < (y : Int) := by omega
        go_wp2
        have hgk := HGA.out
        go_roundg (gA - 1)
        case measure => omega
        case rel =>
          refine ⟨y + 1, k, by go_num, rfl, by omega, by omega, ?_, rfl⟩
          rw [HK.out, HM.out, pairCount_step]
      have hyz : (y : Int) < (a : Int) := by omega
      have hy0 : (0 : Int) ≤ (y : Int) := by omega
      have d3 := HD2.out y (by omega)
      have hb3 := World.block_lt_of_cell? _ _ d3
      obtain ⟨z, hz⟩ : ∃ z, z = X a y := ⟨_, rfl⟩
      rw [← hz] at d3
      have HZY : Hid (z = X a y) := hz
      clear hz
      rcases Bool.eq_false_or_eq_true z with hz | hz
      · subst hz
        go_wp2
        have hgk := HGY.out
        go_roundg (gk - 1)
        case measure => omega
        case rel =>
          refine ⟨y + 1, k + 1, by go_num, by go_num, by omega, by omega, ?_, rfl⟩
          rw [rowCount_step, if_pos HZY.out.symm, HK.out]
          omega
      · subst hz
        go_wp2
        have hgk := HGY.out
        go_roundg (gk - 1)
        case measure => omega
        case rel =>
          refine ⟨y + 1, k, by go_num, rfl, by omega, by omega, ?_, rfl⟩
          rw [rowCount_step, ← HZY.out, if_neg (by simp), HK.out]
          omega
end form
/- Who is near, in rows that are as long as they may be: near.Of. -/
namespace form
open Go.RowKit
theorem lay_cap {f : List Bool → List LIns → Int → Int × List LRow} : LayCap (layOf f) := by
  intro pv B C w hp _
  rcases Bool.eq_false_or_eq_true (refMayB B C) with hm | hm
  · have hl : (layOf f).near B C = (0, pairCount (nearX C) B.length) := by
      show (if refMayB B C = true then _ else _) = _
      rw [if_pos hm]
    rw [hl]
    have hs : sizesB B C = true := by
      have h := hm
      unfold refMayB at h
      simp only [Bool.and_eq_true] at h
      exact h.1
    obtain ⟨s1, s2, s3, s4⟩ := sizes_of hs
    obtain ⟨⟨a0, c0, a1, c1, rfl, hh⟩, -, -, hn⟩ := hp
    obtain ⟨b0, o0, b1, o1, rfl, rfl, hH⟩ := hh s1 s3
    refine (near_yes b0 o0 c0 b1 o1 c1 B C w hH hn hm).mono ?_
    rintro e w' ⟨⟨gn, LN, rfl, hM, hS⟩, hb⟩
    refine ⟨Or.inr ⟨rfl, nearX C, gn, B.length, fun a => gn + 1 + a, rfl, rfl, fun a ha => ⟨hM.top a ha, fun c hc => ?_⟩⟩, hb⟩
    have e1 : getF B.length LN a c = nearX C a c := by
      rw [Bool.eq_iff_iff, hS.tru a c ha hc]
      exact ⟨fun h => @decide_eq_true _ (Classical.propDecidable _) h, fun h => @of_decide_eq_true _ (Classical.propDecidable _) h⟩
    rw [← e1]
    exact hM.cell ha hc
  · have hl : (layOf f).near B C = (2, 0) := by
      show (if refMayB B C = true then _ else _) = _
      rw [if_neg (by rw [hm]; simp)]
    rw [hl]
    refine (near_no pv B C w hp hm).mono ?_
    rintro e w' ⟨rfl, hb⟩
    exact ⟨Or.inl ⟨by simp, by simp, by simp, none, 0, rfl⟩, hb⟩
end form
/- A run in places (drive: on). -/
namespace form
open Go.RowKit
set_option maxRecDepth 100000
attribute [local go_sem ↓] Go.wp_at_zero Go.wp_at_succ
attribute [local go_sem] str_size str_list ByteArray.toList_mk
set_option maxHeartbeats 3200000 in
theorem onO {base q : Nat} {g : PL} {wv cv iv : Value} {w : World} (L : Lay) (hL : LayIs L) (hP : PlS base q g wv cv iv w) (hv : VarOk w) (x y : Nat) :
    Calls Tryz.prog 21 #[.pointer (some ⟨q, 0, none⟩), .agg #[.int .i64 (x : Int)], .int .i64 (y : Int)] w fun e w' => ShwP (shownL (L.on g.wide g.code x g.ins y)) w e w' := by
  have HL : Hid (LayIs L) := hL
  have HP : Hid (PlS base q g wv cv iv w) := hP
  have HV : Hid (VarOk w) := hv
  have hqr := hP.lt
  obtain ⟨aW, kW, rfl, -, -⟩ := row_form hP.wide
  obtain ⟨aC, kC, rfl, -, -⟩ := row_form hP.code
  obtain ⟨aI, kI, rfl, -, -⟩ := row_form hP.ins
  obtain ⟨rr, hrr⟩ : ∃ rr, rr = L.on g.wide g.code x g.ins (y : Int) := ⟨_, rfl⟩
  have HRR : Hid (rr = L.on g.wide g.code x g.ins (y : Int)) := hrr
  have HRO : Hid (RunOk rr) := (by rw [hrr]; exact hL.ook _ _ _ _ _ hP.oc hP.oi : RunOk rr)
  rw [← hrr]
  obtain ⟨an, han⟩ : ∃ z, z = shownL rr := ⟨_, rfl⟩
  have HAN : Hid (an = shownL rr) := han
  rw [← han]
  clear hrr han
  obtain ⟨wt, hwt⟩ : ∃ z, z = w.alloc (.cells #[.int .i64 (x : Int)] 63) := ⟨_, rfl⟩
  have t0 : wt.cell? ⟨w.heap.size, 0, none⟩ = some (.int .i64 (x : Int)) := by rw [hwt]; simp [go_sem]
  have hbt : Below w.heap.size w wt := by rw [hwt]; exact (Below.refl _ _).alloc (Nat.le_refl _) _
  have HWT : Hid (wt = w.alloc (.cells #[.int .i64 (x : Int)] 63)) := hwt
  have HBT : Hid (Below w.heap.size w wt) := hbt
  have htl := World.block_lt_of_cell? wt _ t0
  have q0 := step_cell hbt hP.c0
  have q1 := step_cell hbt hP.c1
  have q2 := step_cell hbt hP.c2
  have HPT : Hid (PlS base q g (.slice aW g.wide.length kW) (.slice aC g.code.length kC) (.slice aI g.ins.length kI) wt) := hP.below hbt
  have HBC : Hid (∀ wx : World, Below wt.heap.size wt wx → Calls Tryz.prog 39 #[.agg #[.slice aW g.wide.length kW, .slice aC g.code.length kC], .agg #[.int .i64 (x : Int)]] wx fun e w' => BuildIs L g.wide g.code x wx e w') := fun wx hb => HL.out.build _ g.wide g.code x wx (HPT.out.below hb).prog
  clear hwt hbt hP hL hv
  go_enter Tryz.func21, Tryz.ntmps21
  go_upto_region 1 with fail
  rw [← HWT.out]
  clear HWT
  go_cut [7, 8] (fun s7 s8 wq => PbR L g.wide g.code x wt s7 s8 wq)
  case first => as_aux_lemma =>
    refine wp_region_held_drew (S := (fun w' => Below wt.heap.size wt w')) (by rfl) ?_ (fun hHeld => ?_)
    · (exact (Below.refl _ _).drew)
    refine wpAnyH_take (i := 0) (v := ?_) rfl (by kernel_rfl) (by kernel_rfl) (by kernel_rfl) (fun _ _ _ h => h) (Or.inl ⟨by rfl, ?_⟩) (by assumption) ?_
    case refine_2 => (intro w hSw; (try dsimp only at hSw); go_simp; try with_reducible rfl)
    show wpAnyH _ _ _ _ _ _ _ (Act.put _ (some 10) _) _
    simp only [pz]
    refine wpAnyH_take (i := 1) (v := ?_) rfl (by kernel_rfl) (by kernel_rfl) (by kernel_rfl) (fun _ _ _ h => h) (Or.inl ⟨by rfl, ?_⟩) (by assumption) ?_
    case refine_2 => (intro w hSw; (try dsimp only at hSw); go_simp; try with_reducible rfl)
    show wpAnyH _ _ _ _ _ _ _ (Act.put _ (some 11) _) _
    simp only [pz]
    refine wpAnyH_take (i := 2) (v := ?_) rfl (by kernel_rfl) (by kernel_rfl) (by kernel_rfl) (fun _ _ _ h => h) (Or.inl ⟨by rfl, ?_⟩) (by assumption) ?_
    case refine_2 => (intro w hSw; (try dsimp only at hSw); go_simp; try with_reducible rfl)
    show wpAnyH _ _ _ _ _ _ _ (Act.put _ (some 12) _) _
    simp only [pz]
    refine wpAnyH_take (i := 3) (v := ?_) rfl (by kernel_rfl) (by kernel_rfl) (by kernel_rfl) (fun _ _ _ h => h) (Or.inl ⟨by rfl, ?_⟩) (by assumption) ?_
    case refine_2 => (intro w5 hSw; (try dsimp only at hSw); have sq0 := step_cell hSw q0; have sq1 := step_cell hSw q1; go_simp; try with_reducible rfl)
    show wpAnyH _ _ _ _ _ _ _ (Act.put _ (some 13) _) _
    simp only [pz]
    refine wpAnyH_take (i := 4) (v := ?_) rfl (by kernel_rfl) (by kernel_rfl) (by kernel_rfl) (fun _ _ _ h => h) (Or.inl ⟨by rfl, ?_⟩) (by assumption) ?_
    case refine_2 => (intro w5 hSw; (try dsimp only at hSw); have st0 := step_cell hSw t0; go_simp; try with_reducible rfl)
    show wpAnyH _ _ _ _ _ _ _ (Act.put _ (some 14) _) _
    simp only [pz]
    refine wpAnyH_ready (rs := [5, 9]) (by kernel_rfl) (by simp) ?_
    refine (AllReadyH.cons rfl (fun K hK => ?_) (AllReadyH.cons rfl (fun K hK => ?_) AllReadyH.nil))
    · skip
      have h8 := hHeld
      go_simp
      go_at_call 39
      refine (HBC.out _ h8).mono ?_
      rintro e w5 ⟨⟨sl, ao, n, c, er, rfl, hpo⟩, hb5⟩
      go_wp2_with fail
      refine hK.out _ _ ?_ (fun hHeld => ?_)
      · (exact step_below hb5 h8)
      clear hK K
      try simp only [pz]
      refine wpAnyH_take (i := 6) (v := ?_) rfl (by kernel_rfl) (by kernel_rfl) (by kernel_rfl) (fun _ _ _ h => h) (Or.inl ⟨by rfl, ?_⟩) (by assumption) ?_
      case refine_2 => (intro w hSw; (try dsimp only at hSw); go_simp; try with_reducible rfl)
      show wpAnyH _ _ _ _ _ _ _ (Act.put _ (some 9) _) _
      simp only [pz]
      refine wpAnyH_take (i := 7) (v := ?_) rfl (by kernel_rfl) (by kernel_rfl) (by kernel_rfl) (fun _ _ _ h => h) (Or.inl ⟨by rfl, ?_⟩) (by assumption) ?_
      case refine_2 => (intro w hSw; (try dsimp only at hSw); go_simp; try with_reducible rfl)
      show wpAnyH _ _ _ _ _ _ _ (Act.put _ (some 16) _) _
      simp only [pz]
      refine wpAnyH_take (i := 8) (v := ?_) rfl (by kernel_rfl) (by kernel_rfl) (by kernel_rfl) (fun _ _ _ h => h) (Or.inl ⟨by rfl, ?_⟩) (by assumption) ?_
      case refine_2 => (intro w hSw; (try dsimp only at hSw); go_simp; try with_reducible rfl)
      show wpAnyH _ _ _ _ _ _ _ (Act.put _ (some 17) _) _
      simp only [pz]
      have h9 := hHeld
      refine wpAnyH_ready (rs := [9]) (by kernel_rfl) (by simp) ?_
      refine (AllReadyH.cons rfl (fun K hK => ?_) AllReadyH.nil)
      go_simp
      refine hK.out _ _ ?_ (fun hHeld => ?_)
      · (exact step_below ((Below.refl _ _).alloc (Nat.le_refl _) _) h9)
      clear hK K
      try simp only [pz]
      refine wpAnyH_ready (rs := [10]) (by kernel_rfl) (by simp) ?_
      refine (AllReadyH.cons rfl (fun K hK => ?_) AllReadyH.nil)
      go_simp
      refine hK.out _ _ ?_ (fun hHeld => ?_)
      · (exact step_below ((Below.refl _ _).alloc (Nat.le_refl _) _) h9)
      clear hK K
      try simp only [pz]
      refine wpAnyH_ready (rs := [11]) (by kernel_rfl) (by simp) ?_
      refine (AllReadyH.cons rfl (fun K hK => ?_) AllReadyH.nil)
      go_simp
      refine hK.out _ _ ?_ (fun hHeld => ?_)
      · (exact step_below ((Below.refl _ _).alloc (Nat.le_refl _) _) h9)
      clear hK K
      try simp only [pz]
      refine wpAnyH_done (by kernel_rfl) ?_ _
      clear hHeld
      go_wp2_with fail
      go_meet
      case rel => exact PbR.mk1 hpo h9 rfl
    · skip
      have h7 := hHeld
      go_simp
      refine hK.out _ _ ?_ (fun hHeld => ?_)
      · (exact step_below ((Below.refl _ _).alloc (Nat.le_refl _) _) h7)
      clear hK K
      try simp only [pz]
      obtain ⟨w4, hw4⟩ : ∃ x, x = (wt.alloc (.cells #[.int .i64 0, .slice none 0 0] 98)).drew := ⟨_, rfl⟩
      rw [← hw4] at hHeld ⊢
      have m0 : w4.cell? ⟨wt.heap.size, 0, none⟩ = some (.int .i64 0) := by rw [hw4]; simp [go_sem]
      have f0 : w4.frozen? ⟨wt.heap.size, 0, none⟩ = false := by rw [hw4]; simp [go_sem]
      have m1 : w4.cell? ⟨wt.heap.size, 1, none⟩ = some (.slice none 0 0) := by rw [hw4]; simp [go_sem]
      have f1 : w4.frozen? ⟨wt.heap.size, 1, none⟩ = false := by rw [hw4]; simp [go_sem]
      have mm : ∀ j, 2 ≤ j → w4.cell? ⟨wt.heap.size, j, none⟩ = none := fun j hj => by rw [hw4]; simp [go_sem, hj]
      have hlt4 : wt.heap.size < w4.heap.size := World.block_lt_of_cell? w4 _ m0
      clear hw4
      refine wpAnyH_ready (rs := [5]) (by kernel_rfl) (by simp) ?_
      refine (AllReadyH.cons rfl (fun K hK => ?_) AllReadyH.nil)
      have h8 := hHeld
      go_simp
      go_at_call 39
      refine (HBC.out _ h8).mono ?_
      rintro e w5 ⟨⟨sl, ao, n, c, er, rfl, hpo⟩, hb5⟩
      go_wp2_with fail
      refine hK.out _ _ ?_ (fun hHeld => ?_)
      · (exact step_below hb5 h8)
      clear hK K
      try simp only [pz]
      refine wpAnyH_take (i := 6) (v := ?_) rfl (by kernel_rfl) (by kernel_rfl) (by kernel_rfl) (fun _ _ _ h => h) (Or.inl ⟨by rfl, ?_⟩) (by assumption) ?_
      case refine_2 => (intro w hSw; (try dsimp only at hSw); go_simp; try with_reducible rfl)
      show wpAnyH _ _ _ _ _ _ _ (Act.put _ (some 9) _) _
      simp only [pz]
      refine wpAnyH_take (i := 7) (v := ?_) rfl (by kernel_rfl) (by kernel_rfl) (by kernel_rfl) (fun _ _ _ h => h) (Or.inl ⟨by rfl, ?_⟩) (by assumption) ?_
      case refine_2 => (intro w hSw; (try dsimp only at hSw); go_simp; try with_reducible rfl)
      show wpAnyH _ _ _ _ _ _ _ (Act.put _ (some 16) _) _
      simp only [pz]
      refine wpAnyH_take (i := 8) (v := ?_) rfl (by kernel_rfl) (by kernel_rfl) (by kernel_rfl) (fun _ _ _ h => h) (Or.inl ⟨by rfl, ?_⟩) (by assumption) ?_
      case refine_2 => (intro w hSw; (try dsimp only at hSw); go_simp; try with_reducible rfl)
      show wpAnyH _ _ _ _ _ _ _ (Act.put _ (some 17) _) _
      simp only [pz]
      have hb9 : Below w4.heap.size w4 w5 := hb5
      have n0 := step_cell hb9 m0
      have o0 := frozenK hb9 hlt4 f0
      have n1 := step_cell hb9 m1
      have o1 := frozenK hb9 hlt4 f1
      have hlt5 : wt.heap.size < w5.heap.size := World.block_lt_of_cell? w5 _ n0
      have h9 := hHeld
      refine wpAnyH_ready (rs := [10]) (by kernel_rfl) (by simp) ?_
      refine (AllReadyH.cons rfl (fun K hK => ?_) AllReadyH.nil)
      go_simp
      refine hK.out _ _ ?_ (fun hHeld => ?_)
      · (exact (h9.setCell (Nat.le_refl _) _).setCell (Nat.le_refl _) _)
      clear hK K
      try simp only [pz]
      refine wpAnyH_ready (rs := [11]) (by kernel_rfl) (by simp) ?_
      refine (AllReadyH.cons rfl (fun K hK => ?_) AllReadyH.nil)
      go_simp
      refine hK.out _ _ ?_ (fun hHeld => ?_)
      · (exact (h9.setCell (Nat.le_refl _) _).setCell (Nat.le_refl _) _)
      clear hK K
      try simp only [pz]
      refine wpAnyH_done (by kernel_rfl) ?_ _
      clear hHeld
      go_wp2_with fail
      go_meet
      case rel => exact PbR.mk2 (Nat.le_refl _) m0 m1 mm hb9 hpo h9 rfl
  case rest =>
    obtain ⟨bx, sl, ao, n, c, er, hs20, hs21, z0, z1, hpo, hbq⟩ := hcut
    subst hs20
    subst hs21
    obtain ⟨wd, hwd⟩ : ∃ wd, wd = wc := ⟨_, rfl⟩
    rw [← hwd] at hbq hpo z0 z1 ⊢
    have HBQ : Hid (Below wt.heap.size wt wd) := hbq
    have HBQR : Hid (Below w.heap.size w wd) := step_below hbq HBT.out
    have HPO : Hid (PlacesOk L g.wide g.code x (.agg #[.int .i64 sl, .slice ao n c]) er wd) := hpo
    have hbxl := World.block_lt_of_cell? wd _ z0
    have t0 := step_cell hbq t0
    have q0 := step_cell hbq q0
    have q1 := step_cell hbq q1
    have q2 := step_cell hbq q2
    have hqd := World.block_lt_of_cell? wd _ q0
    have htd := World.block_lt_of_cell? wd _ t0
    have HVD : Hid (VarOk wd) := HV.out.on HBQR.out
    clear hwd hbq hpo HBC
    obtain ⟨en, hen⟩ : ∃ n : Nat, er = n := ⟨er.toNat, by have := HPO.out.1; omega⟩
    have hen1 : en < 9223372036854775808 := by have := HPO.out.2.1; omega
    subst hen
    by_cases he : en = 0
    case neg =>
      have hez : ((en : Int) != 0) = true := by
        have : ¬ (en : Int) = 0 := by omega
        simpa using this
      have HBD := badO en hen1 wd HVD.out
      have HE : Hid (an = saidL sBad [en]) := (by
        have h1 : rr.err = (en : Int) := by rw [HRR.out]; exact (HPO.out.2.2.1 (by omega)).2 g.ins y
        rw [HAN.out]
        unfold shownL
        rw [h1, if_neg (by omega), Int.toNat_natCast] : an = saidL sBad [en])
      clear he t0 q0 q1 q2 z0 z1
      go_wp2_with (go_at_call 31; refine HBD.mono ?_; rintro e w11 ⟨v11, rfl, hw11, hb11⟩; have HW11 : Hid (WordsAt wd.heap.size [sBad, digitsL en] v11 w11) := hw11; have HB11 : Hid (Below w.heap.size w w11) := step_below hb11 HBQR.out; clear hw11 hb11)
      go_ret
      refine ⟨_, _, rfl, HW11.out.down HBQR.out.size, by simp, by simp, ?_, HB11.out⟩
      rw [HE.out]
      exact words_bad en
    have hez : ((en : Int) != 0) = false := by subst he; rfl
    have hez0 : ((en : Nat) : Int) = 0 := by omega
    obtain ⟨slots, RR, hpl, hdn, -⟩ := HPO.out.2.2.2 hez0
    have HPD : Hid (PlS base q g (.slice aW g.wide.length kW) (.slice aC g.code.length kC) (.slice aI g.ins.length kI) wd) := HPT.out.below HBQ.out
    have HRC : Hid (∀ wx : World, Below wd.heap.size wd wx → Calls Tryz.prog 40 #[.agg #[.slice aW g.wide.length kW, .slice aC g.code.length kC], .agg #[.int .i64 (x : Int)], .agg #[.int .i64 sl, .slice ao n c], .slice aI g.ins.length kI, .int .i64 (y : Int)] wx fun e w' => RunIs rr wx e w') := fun wx hb => by
      rw [HRR.out]
      exact hdn wx _ _ g.ins y (hpl.later hb) (HPD.out.below hb).prog (HPD.out.below hb).inArg
    clear he hpl hdn
    go_upto_region 4 with fail
    refine wp_region_held_drew (S := (fun w' => Below wd.heap.size wd w')) (by rfl) ?_ (fun hHeld => ?_)
    · (exact (Below.refl _ _).drew)
    refine wpAnyH_take (i := 0) (v := ?_) rfl (by kernel_rfl) (by kernel_rfl) (by kernel_rfl) (fun _ _ _ h => h) (Or.inl ⟨by rfl, ?_⟩) (by assumption) ?_
    case refine_2 => (intro w hSw; (try dsimp only at hSw); go_simp; try with_reducible rfl)
    show wpAnyH _ _ _ _ _ _ _ (Act.put _ (some 22) _) _
    simp only [pz]
    refine wpAnyH_take (i := 1) (v := ?_) rfl (by kernel_rfl) (by kernel_rfl) (by kernel_rfl) (fun _ _ _ h => h) (Or.inl ⟨by rfl, ?_⟩) (by assumption) ?_
    case refine_2 => (intro w hSw; (try dsimp only at hSw); go_simp; try with_reducible rfl)
    show wpAnyH _ _ _ _ _ _ _ (Act.put _ (some 23) _) _
    simp only [pz]
    refine wpAnyH_take (i := 2) (v := ?_) rfl (by kernel_rfl) (by kernel_rfl) (by kernel_rfl) (fun _ _ _ h => h) (Or.inl ⟨by rfl, ?_⟩) (by assumption) ?_
    case refine_2 => (intro w hSw; (try dsimp only at hSw); go_simp; try with_reducible rfl)
    show wpAnyH _ _ _ _ _ _ _ (Act.put _ (some 24) _) _
    simp only [pz]
    refine wpAnyH_take (i := 3) (v := ?_) rfl (by kernel_rfl) (by kernel_rfl) (by kernel_rfl) (fun _ _ _ h => h) (Or.inl ⟨by rfl, ?_⟩) (by assumption) ?_
    case refine_2 => (intro w5 hSw; (try dsimp only at hSw); have sq0 := step_cell hSw q0; have sq1 := step_cell hSw q1; go_simp; try with_reducible rfl)
    show wpAnyH _ _ _ _ _ _ _ (Act.put _ (some 25) _) _
    simp only [pz]
    refine wpAnyH_take (i := 4) (v := ?_) rfl (by kernel_rfl) (by kernel_rfl) (by kernel_rfl) (fun _ _ _ h => h) (Or.inl ⟨by rfl, ?_⟩) (by assumption) ?_
    case refine_2 => (intro w5 hSw; (try dsimp only at hSw); have st0 := step_cell hSw t0; go_simp; try with_reducible rfl)
    show wpAnyH _ _ _ _ _ _ _ (Act.put _ (some 26) _) _
    simp only [pz]
    refine wpAnyH_take (i := 5) (v := ?_) rfl (by kernel_rfl) (by kernel_rfl) (by kernel_rfl) (fun _ _ _ h => h) (Or.inl ⟨by rfl, ?_⟩) (by assumption) ?_
    case refine_2 => (intro w5 hSw; (try dsimp only at hSw); have sz0 := step_cell hSw z0; have sz1 := step_cell hSw z1; go_simp; try with_reducible rfl)
    show wpAnyH _ _ _ _ _ _ _ (Act.put _ (some 27) _) _
    simp only [pz]
    refine wpAnyH_take (i := 6) (v := ?_) rfl (by kernel_rfl) (by kernel_rfl) (by kernel_rfl) (fun _ _ _ h => h) (Or.inl ⟨by rfl, ?_⟩) (by assumption) ?_
    case refine_2 => (intro w hSw; (try dsimp only at hSw); go_simp; try with_reducible rfl)
    show wpAnyH _ _ _ _ _ _ _ (Act.put _ (some 28) _) _
    simp only [pz]
    refine wpAnyH_take (i := 7) (v := ?_) rfl (by kernel_rfl) (by kernel_rfl) (by kernel_rfl) (fun _ _ _ h => h) (Or.inl ⟨by rfl, ?_⟩) (by assumption) ?_
    case refine_2 => (intro w hSw; (try dsimp only at hSw); go_simp; try with_reducible rfl)
    show wpAnyH _ _ _ _ _ _ _ (Act.put _ (some 29) _) _
    simp only [pz]
    refine wpAnyH_take (i := 8) (v := ?_) rfl (by kernel_rfl) (by kernel_rfl) (by kernel_rfl) (fun _ _ _ h => h) (Or.inl ⟨by rfl, ?_⟩) (by assumption) ?_
    case refine_2 => (intro w hSw; (try dsimp only at hSw); go_simp; try with_reducible rfl)
    show wpAnyH _ _ _ _ _ _ _ (Act.put _ (some 30) _) _
    simp only [pz]
    refine wpAnyH_take (i := 9) (v := ?_) rfl (by kernel_rfl) (by kernel_rfl) (by kernel_rfl) (fun _ _ _ h => h) (Or.inl ⟨by rfl, ?_⟩) (by assumption) ?_
    case refine_2 => (intro w5 hSw; (try dsimp only at hSw); have sq2 := step_cell hSw q2; go_simp; try with_reducible rfl)
    show wpAnyH _ _ _ _ _ _ _ (Act.put _ (some 31) _) _
    simp only [pz]
    refine wpAnyH_take (i := 10) (v := ?_) rfl (by kernel_rfl) (by kernel_rfl) (by kernel_rfl) (fun _ _ _ h => h) (Or.inl ⟨by rfl, ?_⟩) (by assumption) ?_
    case refine_2 => (intro w hSw; (try dsimp only at hSw); go_simp; try with_reducible rfl)
    show wpAnyH _ _ _ _ _ _ _ (Act.put _ (some 32) _) _
    simp only [pz]
    have h8 := hHeld
    refine wpAnyH_ready (rs := [11]) (by kernel_rfl) (by simp) ?_
    refine (AllReadyH.cons rfl (fun K hK => ?_) AllReadyH.nil)
    go_simp
    go_at_call 40
    refine (HRC.out _ h8).mono ?_
    rintro e w5 ⟨⟨sv, rfl, hsv⟩, hb5⟩
    go_wp2_with fail
    refine hK.out _ _ ?_ (fun hHeld => ?_)
    · (exact step_below hb5 h8)
    clear hK K
    try simp only [pz]
    refine wpAnyH_take (i := 12) (v := ?_) rfl (by kernel_rfl) (by kernel_rfl) (by kernel_rfl) (fun _ _ _ h => h) (Or.inl ⟨by rfl, ?_⟩) (by assumption) ?_
    case refine_2 => (intro w hSw; (try dsimp only at hSw); go_simp; try with_reducible rfl)
    show wpAnyH _ _ _ _ _ _ _ (Act.put _ (some 34) _) _
    simp only [pz]
    refine wpAnyH_take (i := 13) (v := ?_) rfl (by kernel_rfl) (by kernel_rfl) (by kernel_rfl) (fun _ _ _ h => h) (Or.inl ⟨by rfl, ?_⟩) (by assumption) ?_
    case refine_2 => (intro w hSw; (try dsimp only at hSw); go_simp; try with_reducible rfl)
    show wpAnyH _ _ _ _ _ _ _ (Act.put _ (some 35) _) _
    simp only [pz]
    have h9 := hHeld
    have HB15 : Hid (Below wd.heap.size wd w5) := h9
    have cs := shownO rr HRO.out sv w5 hsv (HV.out.on (step_below h9 HBQR.out))
    rw [← HAN.out] at cs
    refine wpAnyH_ready (rs := [14]) (by kernel_rfl) (by simp) ?_
    refine (AllReadyH.cons rfl (fun K hK => ?_) AllReadyH.nil)
    go_simp
    go_at_call 19
    refine cs.mono ?_
    rintro e w6 ⟨v6, xs6, rfl, hw6, hx6, hl6, hj6, hb6⟩
    have HW6 : Hid (WordsAt w5.heap.size xs6 v6 w6) := hw6
    have HB6 : Hid (Below w.heap.size w w6) := step_below (step_below hb6 h9) HBQR.out
    go_wp2_with fail
    refine hK.out _ _ ?_ (fun hHeld => ?_)
    · (exact step_below hb6 h9)
    clear hK K
    try simp only [pz]
    refine wpAnyH_ready (rs := [15]) (by kernel_rfl) (by simp) ?_
    refine (AllReadyH.cons rfl (fun K hK => ?_) AllReadyH.nil)
    go_simp
    refine hK.out _ _ ?_ (fun hHeld => ?_)
    · (exact step_below hb6 h9)
    clear hK K
    try simp only [pz]
    refine wpAnyH_done (by kernel_rfl) ?_ _
    clear hHeld
    go_wp2
    go_ret
    refine ⟨_, _, rfl, HW6.out.down (by have := HBQR.out.size; have := HB15.out.size; omega), hx6, hl6, hj6, HB6.out⟩
end form
/- An instruction more (drive: addCode). -/
namespace form
open Go.RowKit
set_option maxRecDepth 100000
attribute [local go_sem ↓] Go.wp_at_zero Go.wp_at_succ
attribute [local go_sem] str_size str_list ByteArray.toList_mk
theorem infInsD : (Tryz.prog.info? 74).map (fun i => (i.zero, i.size, i.bytes)) = some (some (.agg #[.int .i64 0, .int .i64 0, .int .i64 0, .int .i64 0, .int .i64 0, .int .u32 0]), 6, 48) := by kernel_rfl
theorem cell_otherD {w : World} {b o q j : Nat} {u x : Value} (h : w.cell? ⟨b, o, none⟩ = some u) (hne : b ≠ q) : (w.setCell ⟨q, j, none⟩ x).cell? ⟨b, o, none⟩ = some u := by
  rw [World.cell?_of_block (Below.heap_setCell _ _ _ _ hne)]
  exact h
theorem wrapD {x : Int} (h0 : 0 ≤ x) (h1 : x < 9223372036854775808) : IntKind.i64.wrap x = x := by rw [IntKind.wrap_i64]; omega
set_option maxHeartbeats 3200000 in
theorem addCodeO {base q : Nat} {g : PL} {wv cv iv : Value} {w : World} (hP : PlS base q g wv cv iv w) (hT : PlT q w) (hv : VarAt base w) (bl cl : Nat) (y0 y1 y2 y3 y4 y5 : Nat) (hy0 : y0 < 4294967296) (hy1 : y1 < 4294967296) (hy2 : y2 < 4294967296) (hy3 : y3 < 4294967296) (hy4 : y4 < 4294967296) (hy5 : y5 < 4294967296) (x0 : w.cell? ⟨bl, 0, none⟩ = some (.int .u32 (y0 : Int))) (x1 : w.cell? ⟨bl, 1, none⟩ = some (.int .u32 (y1 : Int))) (x2 : w.cell? ⟨bl, 2, none⟩ = some (.int .u32 (y2 : Int))) (x3 : w.cell? ⟨bl, 3, none⟩ = some (.int .u32 (y3 : Int))) (x4 : w.cell? ⟨bl, 4, none⟩ = some (.int .u32 (y4 : Int))) (x5 : w.cell? ⟨bl, 5, none⟩ = some (.int .u32 (y5 : Int))) (hnc : cv.ownBlock ≠ some bl) (hnq : bl ≠ q) (r : PL × List UInt8) (hr : r = if g.code.length < 40 then (⟨g.wide, g.code ++ [⟨(y0 : Int), (y1 : Int), (y2 : Int), (y3 : Int), (y4 : Int), (y5 : Int)⟩], g.ins⟩, saidL sOk [g.code.length + 1]) else (g, sNo)) :
    Calls Tryz.prog 17 #[.pointer (some ⟨q, 0, none⟩), .slice (some ⟨bl, 0, none⟩) 6 cl] w fun e w' => DrvAns base q wv cv r w e w' := by
  have HP : Hid (PlS base q g wv cv iv w) := hP
  have HT : Hid (PlT q w) := hT
  have HV : Hid (VarAt base w) := hv
  have hbase := hP.base_le
  have hqr := hP.lt
  have q1 := hP.c1
  have hbc := hP.bc
  have hblt := World.block_lt_of_cell? w _ x0
  have HRW : Hid (w.ownsRow base 74 6 cv g.code.length (g.code.flatMap insCs)) := hP.code
  obtain ⟨aC, kC, rfl, hkC, -⟩ := row_form hP.code
  clear hP hT hv
  by_cases h40 : g.code.length < 40
  case neg =>
    have hz : ((g.code.length : Int) == 40) = true := by
      have : g.code.length = 40 := by omega
      rw [this]; rfl
    have HA : Hid (r = (g, sNo)) := hr.trans (if_neg h40)
    have HR := refusalO w
    clear h40 hr x0 x1 x2 x3 x4 x5
    go_enter Tryz.func17, Tryz.ntmps17
    go_wp2_with (go_at_call 15; refine HR.mono ?_; rintro e w1 ⟨v1, rfl, hw1, hb1⟩; have HW1 : Hid (WordsAt w.heap.size [sNo] v1 w1) := hw1; have HB1 : Hid (Below w.heap.size w w1) := hb1; clear hw1 hb1)
    go_ret
    rw [HA.out]
    exact (DrvAns.same HP.out HT.out HW1.out (by simp) (by simp) (joinW_one _) HB1.out)
  have hz : ((g.code.length : Int) == 40) = false := by
    have : ¬ (g.code.length : Int) = 40 := by omega
    simp [this]
  have HC4 : Hid (g.code.length < 40) := h40
  have HA : Hid (r = (⟨g.wide, g.code ++ [⟨(y0 : Int), (y1 : Int), (y2 : Int), (y3 : Int), (y4 : Int), (y5 : Int)⟩], g.ins⟩, saidL sOk [g.code.length + 1])) := hr.trans (if_pos h40)
  have hyz0 : (y0 : Int) < 4294967296 := by omega
  have hyw0 : IntKind.i64.wrap (y0 : Int) = (y0 : Int) := wrapD (by omega) (by omega)
  have hyz1 : (y1 : Int) < 4294967296 := by omega
  have hyw1 : IntKind.i64.wrap (y1 : Int) = (y1 : Int) := wrapD (by omega) (by omega)
  have hyz2 : (y2 : Int) < 4294967296 := by omega
  have hyw2 : IntKind.i64.wrap (y2 : Int) = (y2 : Int) := wrapD (by omega) (by omega)
  have hyz3 : (y3 : Int) < 4294967296 := by omega
  have hyw3 : IntKind.i64.wrap (y3 : Int) = (y3 : Int) := wrapD (by omega) (by omega)
  have hyz4 : (y4 : Int) < 4294967296 := by omega
  have hyw4 : IntKind.i64.wrap (y4 : Int) = (y4 : Int) := wrapD (by omega) (by omega)
  have hyz5 : (y5 : Int) < 4294967296 := by omega
  have hyw5 : IntKind.i64.wrap (y5 : Int) = (y5 : Int) := wrapD (by omega) (by omega)
  have fz := HP.out.f1
  have HNB : Hid (some bl ≠ (Value.slice aC g.code.length kC).ownBlock) := fun e => hnc e.symm
  obtain ⟨t0', hi0, hy0', hy1', hy2'⟩ := info_parts infInsD
  clear h40 hr hnc
  go_enter Tryz.func17, Tryz.ntmps17
  go_upto_region 3 with fail
  go_cut [] (fun wq => ∃ g9 cap9, PlS base q ⟨g.wide, g.code ++ [⟨(y0 : Int), (y1 : Int), (y2 : Int), (y3 : Int), (y4 : Int), (y5 : Int)⟩], g.ins⟩ wv (.slice (some ⟨g9, 0, none⟩) (g.code.length + 1) cap9) iv wq ∧ OffP q wv (.slice aC g.code.length kC) w wq ∧ PlT q wq)
  case first =>
    refine wp_region_held_drew (S := (fun w' => w'.cell? ⟨bl, 0, none⟩ = some (.int .u32 (y0 : Int)) ∧ w'.cell? ⟨bl, 1, none⟩ = some (.int .u32 (y1 : Int)) ∧ w'.cell? ⟨bl, 2, none⟩ = some (.int .u32 (y2 : Int)) ∧ w'.cell? ⟨bl, 3, none⟩ = some (.int .u32 (y3 : Int)) ∧ w'.cell? ⟨bl, 4, none⟩ = some (.int .u32 (y4 : Int)) ∧ w'.cell? ⟨bl, 5, none⟩ = some (.int .u32 (y5 : Int)))) (by rfl) ?_ (fun hHeld => ?_)
    · (exact ⟨x0, x1, x2, x3, x4, x5⟩)
    refine wpAnyH_take (i := 0) (v := ?_) rfl (by kernel_rfl) (by kernel_rfl) (by kernel_rfl) (fun _ _ _ h => h) (Or.inl ⟨by rfl, ?_⟩) (by assumption) ?_
    case refine_2 => (intro w hSw; (try dsimp only at hSw); go_simp; try with_reducible rfl)
    show wpAnyH _ _ _ _ _ _ _ (Act.put _ (some 13) _) _
    simp only [pz]
    refine wpAnyH_take (i := 1) (v := ?_) rfl (by kernel_rfl) (by kernel_rfl) (by kernel_rfl) (fun _ _ _ h => h) (Or.inl ⟨by rfl, ?_⟩) (by assumption) ?_
    case refine_2 => (intro w hSw; (try dsimp only at hSw); go_simp; try with_reducible rfl)
    show wpAnyH _ _ _ _ _ _ _ (Act.put _ (some 14) _) _
    simp only [pz]
    refine wpAnyH_take (i := 2) (v := ?_) rfl (by kernel_rfl) (by kernel_rfl) (by kernel_rfl) (fun _ _ _ h => h) (Or.inl ⟨by rfl, ?_⟩) (by assumption) ?_
    case refine_2 => (intro w hSw; (try dsimp only at hSw); go_simp; try with_reducible rfl)
    show wpAnyH _ _ _ _ _ _ _ (Act.put _ (some 15) _) _
    simp only [pz]
    refine wpAnyH_take (i := 3) (v := ?_) rfl (by kernel_rfl) (by kernel_rfl) (by kernel_rfl) (fun _ _ _ h => h) (Or.inl ⟨by rfl, ?_⟩) (by assumption) ?_
    case refine_2 => (intro w hSw; (try dsimp only at hSw); go_simp; try with_reducible rfl)
    show wpAnyH _ _ _ _ _ _ _ (Act.put _ (some 16) _) _
    simp only [pz]
    refine wpAnyH_take (i := 4) (v := ?_) rfl (by kernel_rfl) (by kernel_rfl) (by kernel_rfl) (fun _ _ _ h => h) (Or.inl ⟨by rfl, ?_⟩) (by assumption) ?_
    case refine_2 => (intro w hSw; (try dsimp only at hSw); go_simp; try with_reducible rfl)
    show wpAnyH _ _ _ _ _ _ _ (Act.put _ (some 17) _) _
    simp only [pz]
    refine wpAnyH_take (i := 6) (v := ?_) rfl (by kernel_rfl) (by kernel_rfl) (by kernel_rfl) (fun _ _ _ h => h) (Or.inl ⟨by rfl, ?_⟩) (by assumption) ?_
    case refine_2 => (intro w hSw; (try dsimp only at hSw); go_simp; try with_reducible rfl)
    show wpAnyH _ _ _ _ _ _ _ (Act.put _ (some 19) _) _
    simp only [pz]
    refine wpAnyH_take (i := 7) (v := ?_) rfl (by kernel_rfl) (by kernel_rfl) (by kernel_rfl) (fun _ _ _ h => h) (Or.inl ⟨by rfl, ?_⟩) (by assumption) ?_
    case refine_2 => (intro w hSw; (try dsimp only at hSw); go_simp; try with_reducible rfl)
    show wpAnyH _ _ _ _ _ _ _ (Act.put _ (some 20) _) _
    simp only [pz]
    refine wpAnyH_take (i := 8) (v := ?_) rfl (by kernel_rfl) (by kernel_rfl) (by kernel_rfl) (fun _ _ _ h => h) (Or.inl ⟨by rfl, ?_⟩) (by assumption) ?_
    case refine_2 => (intro w hSw; (try dsimp only at hSw); go_simp; try with_reducible rfl)
    show wpAnyH _ _ _ _ _ _ _ (Act.put _ (some 21) _) _
    simp only [pz]
    refine wpAnyH_take (i := 9) (v := ?_) rfl (by kernel_rfl) (by kernel_rfl) (by kernel_rfl) (fun _ _ _ h => h) (Or.inl ⟨by rfl, ?_⟩) (by assumption) ?_
    case refine_2 => (intro w hSw; (try dsimp only at hSw); go_simp; try with_reducible rfl)
    show wpAnyH _ _ _ _ _ _ _ (Act.put _ (some 22) _) _
    simp only [pz]
    refine wpAnyH_take (i := 10) (v := ?_) rfl (by kernel_rfl) (by kernel_rfl) (by kernel_rfl) (fun _ _ _ h => h) (Or.inl ⟨by rfl, ?_⟩) (by assumption) ?_
    case refine_2 => (intro w hSw; (try dsimp only at hSw); go_simp; try with_reducible rfl)
    show wpAnyH _ _ _ _ _ _ _ (Act.put _ (some 23) _) _
    simp only [pz]
    refine wpAnyH_take (i := 11) (v := ?_) rfl (by kernel_rfl) (by kernel_rfl) (by kernel_rfl) (fun _ _ _ h => h) (Or.inl ⟨by rfl, ?_⟩) (by assumption) ?_
    case refine_2 => (intro w hSw; (try dsimp only at hSw); go_simp; try with_reducible rfl)
    show wpAnyH _ _ _ _ _ _ _ (Act.put _ (some 24) _) _
    simp only [pz]
    refine wpAnyH_take (i := 12) (v := ?_) rfl (by kernel_rfl) (by kernel_rfl) (by kernel_rfl) (fun _ _ _ h => h) (Or.inl ⟨by rfl, ?_⟩) (by assumption) ?_
    case refine_2 => (intro w hSw; (try dsimp only at hSw); go_simp; try with_reducible rfl)
    show wpAnyH _ _ _ _ _ _ _ (Act.put _ (some 25) _) _
    simp only [pz]
    refine wpAnyH_take (i := 13) (v := ?_) rfl (by kernel_rfl) (by kernel_rfl) (by kernel_rfl) (fun _ _ _ h => h) (Or.inl ⟨by rfl, ?_⟩) (by assumption) ?_
    case refine_2 => (intro w hSw; (try dsimp only at hSw); go_simp; try with_reducible rfl)
    show wpAnyH _ _ _ _ _ _ _ (Act.put _ (some 26) _) _
    simp only [pz]
    refine wpAnyH_take (i := 14) (v := ?_) rfl (by kernel_rfl) (by kernel_rfl) (by kernel_rfl) (fun _ _ _ h => h) (Or.inl ⟨by rfl, ?_⟩) (by assumption) ?_
    case refine_2 => (intro w hSw; (try dsimp only at hSw); go_simp; try with_reducible rfl)
    show wpAnyH _ _ _ _ _ _ _ (Act.put _ (some 27) _) _
    simp only [pz]
    refine wpAnyH_take (i := 15) (v := ?_) rfl (by kernel_rfl) (by kernel_rfl) (by kernel_rfl) (fun _ _ _ h => h) (Or.inl ⟨by rfl, ?_⟩) (by assumption) ?_
    case refine_2 => (intro w hSw; (try dsimp only at hSw); go_simp; try with_reducible rfl)
    show wpAnyH _ _ _ _ _ _ _ (Act.put _ (some 28) _) _
    simp only [pz]
    refine wpAnyH_take (i := 16) (v := ?_) rfl (by kernel_rfl) (by kernel_rfl) (by kernel_rfl) (fun _ _ _ h => h) (Or.inl ⟨by rfl, ?_⟩) (by assumption) ?_
    case refine_2 => (intro w hSw; (try dsimp only at hSw); go_simp; try with_reducible rfl)
    show wpAnyH _ _ _ _ _ _ _ (Act.put _ (some 29) _) _
    simp only [pz]
    refine wpAnyH_take (i := 17) (v := ?_) rfl (by kernel_rfl) (by kernel_rfl) (by kernel_rfl) (fun _ _ _ h => h) (Or.inl ⟨by rfl, ?_⟩) (by assumption) ?_
    case refine_2 => (intro w hSw; (try dsimp only at hSw); go_simp; try with_reducible rfl)
    show wpAnyH _ _ _ _ _ _ _ (Act.put _ (some 30) _) _
    simp only [pz]
    refine wpAnyH_take (i := 18) (v := ?_) rfl (by kernel_rfl) (by kernel_rfl) (by kernel_rfl) (fun _ _ _ h => h) (Or.inl ⟨by rfl, ?_⟩) (by assumption) ?_
    case refine_2 => (intro w hSw; (try dsimp only at hSw); go_simp; try with_reducible rfl)
    show wpAnyH _ _ _ _ _ _ _ (Act.put _ (some 31) _) _
    simp only [pz]
    refine wpAnyH_take (i := 19) (v := ?_) rfl (by kernel_rfl) (by kernel_rfl) (by kernel_rfl) (fun _ _ _ h => h) (Or.inl ⟨by rfl, ?_⟩) (by assumption) ?_
    case refine_2 => (intro w hSw; (try dsimp only at hSw); go_simp; try with_reducible rfl)
    show wpAnyH _ _ _ _ _ _ _ (Act.put _ (some 32) _) _
    simp only [pz]
    refine wpAnyH_take (i := 20) (v := ?_) rfl (by kernel_rfl) (by kernel_rfl) (by kernel_rfl) (fun _ _ _ h => h) (Or.inl ⟨by rfl, ?_⟩) (by assumption) ?_
    case refine_2 => (intro w hSw; (try dsimp only at hSw); go_simp; try with_reducible rfl)
    show wpAnyH _ _ _ _ _ _ _ (Act.put _ (some 33) _) _
    simp only [pz]
    refine wpAnyH_take (i := 21) (v := ?_) rfl (by kernel_rfl) (by kernel_rfl) (by kernel_rfl) (fun _ _ _ h => h) (Or.inl ⟨by rfl, ?_⟩) (by assumption) ?_
    case refine_2 => (intro w hSw; (try dsimp only at hSw); go_simp; try with_reducible rfl)
    show wpAnyH _ _ _ _ _ _ _ (Act.put _ (some 34) _) _
    simp only [pz]
    refine wpAnyH_take (i := 22) (v := ?_) rfl (by kernel_rfl) (by kernel_rfl) (by kernel_rfl) (fun _ _ _ h => h) (Or.inl ⟨by rfl, ?_⟩) (by assumption) ?_
    case refine_2 => (intro w hSw; (try dsimp only at hSw); go_simp; try with_reducible rfl)
    show wpAnyH _ _ _ _ _ _ _ (Act.put _ (some 35) _) _
    simp only [pz]
    refine wpAnyH_take (i := 23) (v := ?_) rfl (by kernel_rfl) (by kernel_rfl) (by kernel_rfl) (fun _ _ _ h => h) (Or.inl ⟨by rfl, ?_⟩) (by assumption) ?_
    case refine_2 => (intro w hSw; (try dsimp only at hSw); go_simp; try with_reducible rfl)
    show wpAnyH _ _ _ _ _ _ _ (Act.put _ (some 36) _) _
    simp only [pz]
    refine wpAnyH_take (i := 24) (v := ?_) rfl (by kernel_rfl) (by kernel_rfl) (by kernel_rfl) (fun _ _ _ h => h) (Or.inl ⟨by rfl, ?_⟩) (by assumption) ?_
    case refine_2 => (intro w hSw; (try dsimp only at hSw); go_simp; try with_reducible rfl)
    show wpAnyH _ _ _ _ _ _ _ (Act.put _ (some 37) _) _
    simp only [pz]
    refine wpAnyH_take (i := 25) (v := ?_) rfl (by kernel_rfl) (by kernel_rfl) (by kernel_rfl) (fun _ _ _ h => h) (Or.inl ⟨by rfl, ?_⟩) (by assumption) ?_
    case refine_2 => (intro w hSw; (try dsimp only at hSw); go_simp; try with_reducible rfl)
    show wpAnyH _ _ _ _ _ _ _ (Act.put _ (some 38) _) _
    simp only [pz]
    refine wpAnyH_take (i := 26) (v := ?_) rfl (by kernel_rfl) (by kernel_rfl) (by kernel_rfl) (fun _ _ _ h => h) (Or.inl ⟨by rfl, ?_⟩) (by assumption) ?_
    case refine_2 => (intro w hSw; (try dsimp only at hSw); go_simp; try with_reducible rfl)
    show wpAnyH _ _ _ _ _ _ _ (Act.put _ (some 39) _) _
    simp only [pz]
    refine wpAnyH_take (i := 27) (v := ?_) rfl (by kernel_rfl) (by kernel_rfl) (by kernel_rfl) (fun _ _ _ h => h) (Or.inl ⟨by rfl, ?_⟩) (by assumption) ?_
    case refine_2 => (intro w hSw; (try dsimp only at hSw); go_simp; try with_reducible rfl)
    show wpAnyH _ _ _ _ _ _ _ (Act.put _ (some 40) _) _
    simp only [pz]
    refine wpAnyH_take (i := 28) (v := ?_) rfl (by kernel_rfl) (by kernel_rfl) (by kernel_rfl) (fun _ _ _ h => h) (Or.inl ⟨by rfl, ?_⟩) (by assumption) ?_
    case refine_2 => (intro w hSw; (try dsimp only at hSw); go_simp; try with_reducible rfl)
    show wpAnyH _ _ _ _ _ _ _ (Act.put _ (some 41) _) _
    simp only [pz]
    refine wpAnyH_take (i := 29) (v := ?_) rfl (by kernel_rfl) (by kernel_rfl) (by kernel_rfl) (fun _ _ _ h => h) (Or.inl ⟨by rfl, ?_⟩) (by assumption) ?_
    case refine_2 => (intro w hSw; (try dsimp only at hSw); go_simp; try with_reducible rfl)
    show wpAnyH _ _ _ _ _ _ _ (Act.put _ (some 42) _) _
    simp only [pz]
    refine wpAnyH_ready (rs := [5, 30]) (by kernel_rfl) (by simp) ?_
    refine (AllReadyH.cons rfl (fun K hK => ?_) (AllReadyH.cons rfl (fun K hK => ?_) AllReadyH.nil))
    · skip
      go_simp
      refine hK.out _ _ ?_ (fun hHeld => ?_)
      · (exact hHeld)
      clear hK K
      try simp only [pz]
      refine wpAnyH_ready (rs := [30]) (by kernel_rfl) (by simp) ?_
      refine (AllReadyH.cons rfl (fun K hK => ?_) AllReadyH.nil)
      go_simp
      refine hK.out _ _ ?_ (fun hHeld => ?_)
      · (exact ⟨(step_cell (((Below.refl _ _).alloc (Nat.le_refl _) _).drew) x0), (step_cell (((Below.refl _ _).alloc (Nat.le_refl _) _).drew) x1), (step_cell (((Below.refl _ _).alloc (Nat.le_refl _) _).drew) x2), (step_cell (((Below.refl _ _).alloc (Nat.le_refl _) _).drew) x3), (step_cell (((Below.refl _ _).alloc (Nat.le_refl _) _).drew) x4), (step_cell (((Below.refl _ _).alloc (Nat.le_refl _) _).drew) x5)⟩)
      clear hK K
      try simp only [pz]
      refine wpAnyH_ready (rs := [31]) (by kernel_rfl) (by simp) ?_
      refine (AllReadyH.cons rfl (fun K hK => ?_) AllReadyH.nil)
      refine step_append_lies _ (by rfl) _ _ _ (by rfl) base 74 t0' (.agg #[.int .i64 0, .int .i64 0, .int .i64 0, .int .i64 0, .int .i64 0, .int .u32 0]) 6 48 Tryz.underlying25 hi0 hy0' hy1' hy2' rfl (by decide) (.slice aC g.code.length kC) g.code.length (g.code.flatMap insCs) (by rfl) ((World.ownsRow.alloc HRW.out _).drew) ⟨w.heap.size, 0, none⟩ 1 1 [.int .i64 (y0 : Int), .int .i64 (y1 : Int), .int .i64 (y2 : Int), .int .i64 (y3 : Int), .int .i64 (y4 : Int), .int .u32 (y5 : Int)] (by rfl) (by rfl) (World.news_of_block (cs := #[.int .i64 (y0 : Int), .int .i64 (y1 : Int), .int .i64 (y2 : Int), .int .i64 (y3 : Int), .int .i64 (y4 : Int), .int .u32 (y5 : Int)]) (t := 74) (fr := (0, 0)) (heap_alloc_new w _)) (by simp [Value.oneCell']) (by omega) (by unfold maxLen; omega) (by omega) (by simp; omega) (w.heap.size + 1) (by simp) ?_
      intro g9 cap9 w9 hown hgrow hat hlt9
      have hal := HP.out.below (((Below.refl _ _).alloc (Nat.le_refl _) (.cells #[.int .i64 (y0 : Int), .int .i64 (y1 : Int), .int .i64 (y2 : Int), .int .i64 (y3 : Int), .int .i64 (y4 : Int), .int .u32 (y5 : Int)] 74)).drew)
      have hset := hal.setC (i := ⟨(y0 : Int), (y1 : Int), (y2 : Int), (y3 : Int), (y4 : Int), (y5 : Int)⟩) HC4.out ⟨by simp only; omega, by simp only; omega⟩ hown hgrow (by simpa using hat)
      have HSET : Hid (PlS base q ⟨g.wide, g.code ++ [⟨(y0 : Int), (y1 : Int), (y2 : Int), (y3 : Int), (y4 : Int), (y5 : Int)⟩], g.ins⟩ wv (.slice (some ⟨g9, 0, none⟩) (g.code.length + 1) cap9) iv (w9.setCell ⟨q, 1, none⟩ (.slice (some ⟨g9, 0, none⟩) (g.code.length + 1) cap9))) := hset
      have d9 : w9.cell? ⟨q, 1, none⟩ = some (.slice aC g.code.length kC) := by rw [hgrow.cell_far _ (by exact hal.lt) hal.neC]; exact hal.c1
      have z9 : w9.frozen? ⟨q, 1, none⟩ = false := by rw [World.frozen?_of_block (w := (w.alloc (.cells #[.int .i64 (y0 : Int), .int .i64 (y1 : Int), .int .i64 (y2 : Int), .int .i64 (y3 : Int), .int .i64 (y4 : Int), .int .u32 (y5 : Int)] 74)).drew) (hgrow.block q hal.lt hal.neC)]; exact hal.f1
      have hba : Below w.heap.size w (w.alloc (.cells #[.int .i64 (y0 : Int), .int .i64 (y1 : Int), .int .i64 (y2 : Int), .int .i64 (y3 : Int), .int .i64 (y4 : Int), .int .u32 (y5 : Int)] 74)).drew := ((Below.refl _ _).alloc (Nat.le_refl _) _).drew
      have HO9 : Hid (OffP q wv (.slice aC g.code.length kC) w (w9.setCell ⟨q, 1, none⟩ (.slice (some ⟨g9, 0, none⟩) (g.code.length + 1) cap9))) :=
        ⟨hgrow.os.trans hba.os, hgrow.tape.trans hba.tape, hgrow.output.trans hba.output, by have h1 := hgrow.size; have h2 := hba.size; simp [World.setCell]; omega, fun k hk h1 h2 h3 => by
          rw [Below.heap_setCell _ _ _ _ h1, hgrow.block k (Nat.lt_of_lt_of_le hk hba.size) (fun e => h3 e.symm)]
          exact hba.block k hk⟩
      have HT9 : Hid (PlT q (w9.setCell ⟨q, 1, none⟩ (.slice (some ⟨g9, 0, none⟩) (g.code.length + 1) cap9))) := ((HT.out.of (hba.block q hqr)).of (hgrow.block q hal.lt hal.neC)).set 1 _
      have hq9 : q < w9.heap.size := Nat.lt_of_lt_of_le hal.lt hgrow.size
      have hbi9 : bl < (w.alloc (.cells #[.int .i64 (y0 : Int), .int .i64 (y1 : Int), .int .i64 (y2 : Int), .int .i64 (y3 : Int), .int .i64 (y4 : Int), .int .u32 (y5 : Int)] 74)).drew.heap.size := World.block_lt_of_cell? _ _ (step_cell hba x0)
      have hfar : ∀ (o : Nat) (u : Value), (w.alloc (.cells #[.int .i64 (y0 : Int), .int .i64 (y1 : Int), .int .i64 (y2 : Int), .int .i64 (y3 : Int), .int .i64 (y4 : Int), .int .u32 (y5 : Int)] 74)).drew.cell? ⟨bl, o, none⟩ = some u → w9.cell? ⟨bl, o, none⟩ = some u := fun o u h => by rw [hgrow.cell_far _ (by exact hbi9) HNB.out]; exact h
      clear hset hown hat
      refine hK.out _ _ ?_ (fun hHeld => ?_)
      · (exact ⟨hfar _ _ (step_cell (((Below.refl _ _).alloc (Nat.le_refl _) _).drew) x0), hfar _ _ (step_cell (((Below.refl _ _).alloc (Nat.le_refl _) _).drew) x1), hfar _ _ (step_cell (((Below.refl _ _).alloc (Nat.le_refl _) _).drew) x2), hfar _ _ (step_cell (((Below.refl _ _).alloc (Nat.le_refl _) _).drew) x3), hfar _ _ (step_cell (((Below.refl _ _).alloc (Nat.le_refl _) _).drew) x4), hfar _ _ (step_cell (((Below.refl _ _).alloc (Nat.le_refl _) _).drew) x5)⟩)
      clear hK K
      show wpAnyH _ _ _ _ _ _ _ (Act.put _ (some 44) _) _
      simp only [pz]
      refine wpAnyH_take (i := 32) (v := ?_) rfl (by kernel_rfl) (by kernel_rfl) (by kernel_rfl) (fun _ _ _ h => h) (Or.inl ⟨by rfl, ?_⟩) (by assumption) ?_
      case refine_2 => (intro w hSw; (try dsimp only at hSw); go_simp; try with_reducible rfl)
      show wpAnyH _ _ _ _ _ _ _ (Act.put _ (some 45) _) _
      simp only [pz]
      refine wpAnyH_take (i := 33) (v := ?_) rfl (by kernel_rfl) (by kernel_rfl) (by kernel_rfl) (fun _ _ _ h => h) (Or.inl ⟨by rfl, ?_⟩) (by assumption) ?_
      case refine_2 => (intro w hSw; (try dsimp only at hSw); go_simp; try with_reducible rfl)
      show wpAnyH _ _ _ _ _ _ _ (Act.put _ (some 46) _) _
      simp only [pz]
      refine wpAnyH_take (i := 34) (v := ?_) rfl (by kernel_rfl) (by kernel_rfl) (by kernel_rfl) (fun _ _ _ h => h) (Or.inl ⟨by rfl, ?_⟩) (by assumption) ?_
      case refine_2 => (intro w hSw; (try dsimp only at hSw); go_simp; try with_reducible rfl)
      show wpAnyH _ _ _ _ _ _ _ (Act.put _ (some 47) _) _
      simp only [pz]
      refine wpAnyH_ready (rs := [35]) (by kernel_rfl) (by simp) ?_
      refine (AllReadyH.cons rfl (fun K hK => ?_) AllReadyH.nil)
      go_simp
      refine hK.out _ _ ?_ (fun hHeld => ?_)
      · (exact ⟨cell_otherD (hfar _ _ (step_cell (((Below.refl _ _).alloc (Nat.le_refl _) _).drew) x0)) hnq, cell_otherD (hfar _ _ (step_cell (((Below.refl _ _).alloc (Nat.le_refl _) _).drew) x1)) hnq, cell_otherD (hfar _ _ (step_cell (((Below.refl _ _).alloc (Nat.le_refl _) _).drew) x2)) hnq, cell_otherD (hfar _ _ (step_cell (((Below.refl _ _).alloc (Nat.le_refl _) _).drew) x3)) hnq, cell_otherD (hfar _ _ (step_cell (((Below.refl _ _).alloc (Nat.le_refl _) _).drew) x4)) hnq, cell_otherD (hfar _ _ (step_cell (((Below.refl _ _).alloc (Nat.le_refl _) _).drew) x5)) hnq⟩)
      clear hK K
      try simp only [pz]
      refine wpAnyH_done (by kernel_rfl) ?_ _
      clear hHeld
      go_wp2_with fail
      go_meet
      case rel => exact ⟨g9, cap9, HSET.out, HO9.out, HT9.out⟩
    · skip
      go_simp
      refine hK.out _ _ ?_ (fun hHeld => ?_)
      · (exact ⟨(step_cell (((Below.refl _ _).alloc (Nat.le_refl _) _).drew) x0), (step_cell (((Below.refl _ _).alloc (Nat.le_refl _) _).drew) x1), (step_cell (((Below.refl _ _).alloc (Nat.le_refl _) _).drew) x2), (step_cell (((Below.refl _ _).alloc (Nat.le_refl _) _).drew) x3), (step_cell (((Below.refl _ _).alloc (Nat.le_refl _) _).drew) x4), (step_cell (((Below.refl _ _).alloc (Nat.le_refl _) _).drew) x5)⟩)
      clear hK K
      try simp only [pz]
      have q1' : (w.alloc (.cells #[.int .i64 (y0 : Int), .int .i64 (y1 : Int), .int .i64 (y2 : Int), .int .i64 (y3 : Int), .int .i64 (y4 : Int), .int .u32 (y5 : Int)] 74)).drew.cell? ⟨q, 1, none⟩ = some (.slice aC g.code.length kC) := step_cell (((Below.refl _ _).alloc (Nat.le_refl _) _).drew) q1
      refine wpAnyH_ready (rs := [5]) (by kernel_rfl) (by simp) ?_
      refine (AllReadyH.cons rfl (fun K hK => ?_) AllReadyH.nil)
      go_simp
      refine hK.out _ _ ?_ (fun hHeld => ?_)
      · (exact hHeld)
      clear hK K
      try simp only [pz]
      refine wpAnyH_ready (rs := [31]) (by kernel_rfl) (by simp) ?_
      refine (AllReadyH.cons rfl (fun K hK => ?_) AllReadyH.nil)
      refine step_append_lies _ (by rfl) _ _ _ (by rfl) base 74 t0' (.agg #[.int .i64 0, .int .i64 0, .int .i64 0, .int .i64 0, .int .i64 0, .int .u32 0]) 6 48 Tryz.underlying25 hi0 hy0' hy1' hy2' rfl (by decide) (.slice aC g.code.length kC) g.code.length (g.code.flatMap insCs) (by rfl) ((World.ownsRow.alloc HRW.out _).drew) ⟨w.heap.size, 0, none⟩ 1 1 [.int .i64 (y0 : Int), .int .i64 (y1 : Int), .int .i64 (y2 : Int), .int .i64 (y3 : Int), .int .i64 (y4 : Int), .int .u32 (y5 : Int)] (by rfl) (by rfl) (World.news_of_block (cs := #[.int .i64 (y0 : Int), .int .i64 (y1 : Int), .int .i64 (y2 : Int), .int .i64 (y3 : Int), .int .i64 (y4 : Int), .int .u32 (y5 : Int)]) (t := 74) (fr := (0, 0)) (heap_alloc_new w _)) (by simp [Value.oneCell']) (by omega) (by unfold maxLen; omega) (by omega) (by simp; omega) (w.heap.size + 1) (by simp) ?_
      intro g9 cap9 w9 hown hgrow hat hlt9
      have hal := HP.out.below (((Below.refl _ _).alloc (Nat.le_refl _) (.cells #[.int .i64 (y0 : Int), .int .i64 (y1 : Int), .int .i64 (y2 : Int), .int .i64 (y3 : Int), .int .i64 (y4 : Int), .int .u32 (y5 : Int)] 74)).drew)
      have hset := hal.setC (i := ⟨(y0 : Int), (y1 : Int), (y2 : Int), (y3 : Int), (y4 : Int), (y5 : Int)⟩) HC4.out ⟨by simp only; omega, by simp only; omega⟩ hown hgrow (by simpa using hat)
      have HSET : Hid (PlS base q ⟨g.wide, g.code ++ [⟨(y0 : Int), (y1 : Int), (y2 : Int), (y3 : Int), (y4 : Int), (y5 : Int)⟩], g.ins⟩ wv (.slice (some ⟨g9, 0, none⟩) (g.code.length + 1) cap9) iv (w9.setCell ⟨q, 1, none⟩ (.slice (some ⟨g9, 0, none⟩) (g.code.length + 1) cap9))) := hset
      have d9 : w9.cell? ⟨q, 1, none⟩ = some (.slice aC g.code.length kC) := by rw [hgrow.cell_far _ (by exact hal.lt) hal.neC]; exact hal.c1
      have z9 : w9.frozen? ⟨q, 1, none⟩ = false := by rw [World.frozen?_of_block (w := (w.alloc (.cells #[.int .i64 (y0 : Int), .int .i64 (y1 : Int), .int .i64 (y2 : Int), .int .i64 (y3 : Int), .int .i64 (y4 : Int), .int .u32 (y5 : Int)] 74)).drew) (hgrow.block q hal.lt hal.neC)]; exact hal.f1
      have hba : Below w.heap.size w (w.alloc (.cells #[.int .i64 (y0 : Int), .int .i64 (y1 : Int), .int .i64 (y2 : Int), .int .i64 (y3 : Int), .int .i64 (y4 : Int), .int .u32 (y5 : Int)] 74)).drew := ((Below.refl _ _).alloc (Nat.le_refl _) _).drew
      have HO9 : Hid (OffP q wv (.slice aC g.code.length kC) w (w9.setCell ⟨q, 1, none⟩ (.slice (some ⟨g9, 0, none⟩) (g.code.length + 1) cap9))) :=
        ⟨hgrow.os.trans hba.os, hgrow.tape.trans hba.tape, hgrow.output.trans hba.output, by have h1 := hgrow.size; have h2 := hba.size; simp [World.setCell]; omega, fun k hk h1 h2 h3 => by
          rw [Below.heap_setCell _ _ _ _ h1, hgrow.block k (Nat.lt_of_lt_of_le hk hba.size) (fun e => h3 e.symm)]
          exact hba.block k hk⟩
      have HT9 : Hid (PlT q (w9.setCell ⟨q, 1, none⟩ (.slice (some ⟨g9, 0, none⟩) (g.code.length + 1) cap9))) := ((HT.out.of (hba.block q hqr)).of (hgrow.block q hal.lt hal.neC)).set 1 _
      have hq9 : q < w9.heap.size := Nat.lt_of_lt_of_le hal.lt hgrow.size
      have hbi9 : bl < (w.alloc (.cells #[.int .i64 (y0 : Int), .int .i64 (y1 : Int), .int .i64 (y2 : Int), .int .i64 (y3 : Int), .int .i64 (y4 : Int), .int .u32 (y5 : Int)] 74)).drew.heap.size := World.block_lt_of_cell? _ _ (step_cell hba x0)
      have hfar : ∀ (o : Nat) (u : Value), (w.alloc (.cells #[.int .i64 (y0 : Int), .int .i64 (y1 : Int), .int .i64 (y2 : Int), .int .i64 (y3 : Int), .int .i64 (y4 : Int), .int .u32 (y5 : Int)] 74)).drew.cell? ⟨bl, o, none⟩ = some u → w9.cell? ⟨bl, o, none⟩ = some u := fun o u h => by rw [hgrow.cell_far _ (by exact hbi9) HNB.out]; exact h
      clear hset hown hat
      refine hK.out _ _ ?_ (fun hHeld => ?_)
      · (exact ⟨hfar _ _ (step_cell (((Below.refl _ _).alloc (Nat.le_refl _) _).drew) x0), hfar _ _ (step_cell (((Below.refl _ _).alloc (Nat.le_refl _) _).drew) x1), hfar _ _ (step_cell (((Below.refl _ _).alloc (Nat.le_refl _) _).drew) x2), hfar _ _ (step_cell (((Below.refl _ _).alloc (Nat.le_refl _) _).drew) x3), hfar _ _ (step_cell (((Below.refl _ _).alloc (Nat.le_refl _) _).drew) x4), hfar _ _ (step_cell (((Below.refl _ _).alloc (Nat.le_refl _) _).drew) x5)⟩)
      clear hK K
      show wpAnyH _ _ _ _ _ _ _ (Act.put _ (some 44) _) _
      simp only [pz]
      refine wpAnyH_take (i := 32) (v := ?_) rfl (by kernel_rfl) (by kernel_rfl) (by kernel_rfl) (fun _ _ _ h => h) (Or.inl ⟨by rfl, ?_⟩) (by assumption) ?_
      case refine_2 => (intro w hSw; (try dsimp only at hSw); go_simp; try with_reducible rfl)
      show wpAnyH _ _ _ _ _ _ _ (Act.put _ (some 45) _) _
      simp only [pz]
      refine wpAnyH_take (i := 33) (v := ?_) rfl (by kernel_rfl) (by kernel_rfl) (by kernel_rfl) (fun _ _ _ h => h) (Or.inl ⟨by rfl, ?_⟩) (by assumption) ?_
      case refine_2 => (intro w hSw; (try dsimp only at hSw); go_simp; try with_reducible rfl)
      show wpAnyH _ _ _ _ _ _ _ (Act.put _ (some 46) _) _
      simp only [pz]
      refine wpAnyH_take (i := 34) (v := ?_) rfl (by kernel_rfl) (by kernel_rfl) (by kernel_rfl) (fun _ _ _ h => h) (Or.inl ⟨by rfl, ?_⟩) (by assumption) ?_
      case refine_2 => (intro w hSw; (try dsimp only at hSw); go_simp; try with_reducible rfl)
      show wpAnyH _ _ _ _ _ _ _ (Act.put _ (some 47) _) _
      simp only [pz]
      refine wpAnyH_ready (rs := [35]) (by kernel_rfl) (by simp) ?_
      refine (AllReadyH.cons rfl (fun K hK => ?_) AllReadyH.nil)
      go_simp
      refine hK.out _ _ ?_ (fun hHeld => ?_)
      · (exact ⟨cell_otherD (hfar _ _ (step_cell (((Below.refl _ _).alloc (Nat.le_refl _) _).drew) x0)) hnq, cell_otherD (hfar _ _ (step_cell (((Below.refl _ _).alloc (Nat.le_refl _) _).drew) x1)) hnq, cell_otherD (hfar _ _ (step_cell (((Below.refl _ _).alloc (Nat.le_refl _) _).drew) x2)) hnq, cell_otherD (hfar _ _ (step_cell (((Below.refl _ _).alloc (Nat.le_refl _) _).drew) x3)) hnq, cell_otherD (hfar _ _ (step_cell (((Below.refl _ _).alloc (Nat.le_refl _) _).drew) x4)) hnq, cell_otherD (hfar _ _ (step_cell (((Below.refl _ _).alloc (Nat.le_refl _) _).drew) x5)) hnq⟩)
      clear hK K
      try simp only [pz]
      refine wpAnyH_done (by kernel_rfl) ?_ _
      clear hHeld
      go_wp2_with fail
      go_meet
      case rel => exact ⟨g9, cap9, HSET.out, HO9.out, HT9.out⟩
  case rest =>
    obtain ⟨g9, cap9, hpl, hoq, htq⟩ := hcut
    obtain ⟨wd, hwd⟩ : ∃ wd, wd = wc := ⟨_, rfl⟩
    rw [← hwd] at hpl hoq htq ⊢
    have HPL : Hid (PlS base q ⟨g.wide, g.code ++ [⟨(y0 : Int), (y1 : Int), (y2 : Int), (y3 : Int), (y4 : Int), (y5 : Int)⟩], g.ins⟩ wv (.slice (some ⟨g9, 0, none⟩) (g.code.length + 1) cap9) iv wd) := hpl
    have HOQ : Hid (OffP q wv (.slice aC g.code.length kC) w wd) := hoq
    have HTQ : Hid (PlT q wd) := htq
    have c1 := hpl.c1
    have hqd := hpl.lt
    have HOK : Hid (Calls Tryz.prog 18 #[.int .i64 ((g.code.length : Int) + 1)] wd fun e w' => ∃ v', e = .returned v' ∧ WordsAt wd.heap.size [sOk, digitsL (g.code.length + 1)] v' w' ∧ Below wd.heap.size wd w') := by
      have h := okO (g.code.length + 1) (by omega) wd (HV.out.on (hoq.below HP.out)).here
      exact h
    clear hwd hpl hoq htq q1 fz x0 x1 x2 x3 x4 x5
    go_wp2_with (go_at_call 18; refine HOK.out.mono ?_; rintro e w11 ⟨v11, rfl, hw11, hb11⟩; have HW11 : Hid (WordsAt wd.heap.size [sOk, digitsL (g.code.length + 1)] v11 w11) := hw11; have HB11 : Hid (Below wd.heap.size wd w11) := hb11; clear hw11 hb11)
    go_ret
    rw [HA.out]
    exact ⟨_, _, _, _, _, rfl, HW11.out.down HOQ.out.size, by simp, by simp, words_ok _, HPL.out.below HB11.out, HOQ.out.later HB11.out, HTQ.out.of (HB11.out.block q hqd)⟩
end form
end Go.Proofs.YtikhedkhgpjaaacGreatDoor
