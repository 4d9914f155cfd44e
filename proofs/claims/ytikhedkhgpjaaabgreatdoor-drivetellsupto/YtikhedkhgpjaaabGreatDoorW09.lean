/- A run in places (loanbookkeep: line). -/
import Derived.Test.YtikhedkhgpjaaabGreatDoorW01
import Derived.Test.YtikhedkhgpjaaabGreatDoorW07
import Derived.Test.YtikhedkhgpjaaabGreatDoorW08

namespace Go.Proofs.YtikhedkhgpjaaabGreatDoor
set_option linter.unusedVariables false
namespace form
open Go.RowKit
set_option maxRecDepth 100000
attribute [local go_sem ↓] Go.wp_at_zero Go.wp_at_succ
attribute [local go_sem] str_size str_list ByteArray.toList_mk
set_option maxHeartbeats 1600000 in
theorem lineOn {base q : Nat} {g : PL} {wv cv iv : Value} {w : World} (L : Lay) (hL : LayIs L) (hP : PlS base q g wv cv iv w) (s : List UInt8) (hs : s.length ≤ 2000000) (hall : ∀ p, p ∈ (splitL 32 s).tail → numB p = true) (r : PL × List UInt8) (hr : r = wordL L g s ((splitL 32 s).tail.map valL)) (hns : ¬ s = sNarrow ∧ ¬ s = sWide ∧ ¬ s = sNear) (hwd : (splitL 32 s).getD 0 [] = sOn) :
    Calls Tryz.prog 5 #[.pointer (some ⟨q, 0, none⟩), .string (str s)] w fun e w' => LineAns base q r w e w' := by
  have HL : Hid (LayIs L) := hL
  obtain ⟨aW, kW, hwv, -, -⟩ := row_form hP.wide
  obtain ⟨aC, kC, hcv, -, -⟩ := row_form hP.code
  obtain ⟨aI, kI, hiv, -, -⟩ := row_form hP.ins
  subst hwv hcv hiv
  have HP : Hid (PlS base q g (.slice aW g.wide.length kW) (.slice aC g.code.length kC) (.slice aI g.ins.length kI) w) := hP
  have hbase : base ≤ w.heap.size := Nat.le_of_lt (Nat.lt_of_le_of_lt hP.lo hP.lt)
  have hqlt := hP.lt
  have hbw := hP.bw
  have hbc := hP.bc
  have hbi := hP.bi
  have HSK : Hid (∀ wx : World, Calls Tryz.prog 4 #[.string (str s), .int .u8 32] wx fun e w' => ∃ v, e = .returned v ∧ StS wx wx.heap.size (splitL 32 s) v w') := fun wx => splitK s 32 (by omega) wx
  have HW1 : Hid (1 ≤ (splitL 32 s).length) := splitL_pos 32 s
  have HWL : Hid ((splitL 32 s).length ≤ s.length + 1) := splitL_len 32 s
  have HWE : Hid (∀ p, p ∈ splitL 32 s → p.length ≤ s.length) := splitL_each 32 s
  clear hP hL
  have HNS : Hid (¬ s = sNarrow ∧ ¬ s = sWide ∧ ¬ s = sNear) := hns
  clear hns
  obtain ⟨W, hW⟩ : ∃ W, W = splitL 32 s := ⟨_, rfl⟩
  rw [← hW] at HSK HW1 HWL HWE hall hr hwd
  have HR : Hid (r = wordL L g s (W.tail.map valL)) := hr
  clear hr
  have HWD : Hid (W.getD 0 [] = sOn) := hwd
  clear hwd
  have HW : Hid (W = splitL 32 s) := hW
  clear hW
  have hW1 := HW1.out
  have hWz : (W.length : Int) ≤ 2000001 := by have := HWL.out; omega
  go_enter Tryz.func5, Tryz.ntmps5
  go_upto_region 2 with (go_at_call 4; refine (HSK.out _).mono ?_; rintro e w1 ⟨v, rfl, hst⟩; have HST : Hid (StS w w.heap.size W v w1) := hst; clear hst)
  obtain ⟨bw, capw, hv, hbwge, hbwlt⟩ := HST.out.own.form hW1
  subst hv
  have HWC : Hid (∀ j, j < W.length → w1.cell? ⟨bw, j, none⟩ = some (.string (str (W.getD j [])))) := fun j hj => by
    rw [World.ownsRow.cellAt HST.out.own j (by omega)]
    simp [List.getD, hj]
  have HP1 : Hid (PlS base q g (.slice aW g.wide.length kW) (.slice aC g.code.length kC) (.slice aI g.ins.length kI) w1) := HP.out.below HST.out.bel
  have HB1 : Hid (Below w.heap.size w w1) := HST.out.bel
  clear HSK HST hbwge
  go_wp2
  go_loopg [6, 7, 8, 9] W.length (fun gg v6 v v8 v9 wr => ∃ (i : Nat), v = .int .i64 i ∧ 1 ≤ i ∧ i ≤ W.length ∧ gg = W.length + 1 - i ∧ NlS w1 ((W.tail.take (i - 1)).map valL) v6 wr ∧ ∀ p, p ∈ W.tail.take (i - 1) → numB p = true)
  case atStart => exact ⟨1, rfl, by omega, by omega, by omega, ⟨Below.refl _ _, World.ownsRow_nil _ _ _ _⟩, fun p hp => by simp at hp⟩
  case round =>
    obtain ⟨i, rfl, hi1, hi, hgk, hnl, hal⟩ := hrel
    have HGK : Hid (gk = W.length + 1 - i) := hgk
    obtain ⟨l, hl⟩ : ∃ l, l = (W.tail.take (i - 1)).map valL := ⟨_, rfl⟩
    rw [← hl] at hnl
    have HLI : Hid (l = (W.tail.take (i - 1)).map valL) := hl
    have hll : l.length = i - 1 := by rw [hl]; simp; omega
    have hllz : l.length ≤ 2000001 := by omega
    have HLL : Hid (l.length = i - 1) := hll
    have HNL : Hid (NlS w1 l u6 wr) := hnl
    have HAL : Hid (∀ p, p ∈ W.tail.take (i - 1) → numB p = true) := hal
    have hwz := hnl.bel.size
    clear hgk hnl hl hal hll
    by_cases hil : i < W.length
    case pos =>
      have hiz : (i : Int) < (W.length : Int) := by omega
      have d0 := step_cell HNL.out.bel (HWC.out i hil)
      have hbl := World.block_lt_of_cell? wr _ d0
      obtain ⟨p, hp⟩ : ∃ p, p = W.getD i [] := ⟨_, rfl⟩
      rw [← hp] at d0
      have HPP : Hid (p = W.getD i []) := hp
      have hpt : W.tail.take (i + 1 - 1) = W.tail.take (i - 1) ++ [p] := by rw [hp]; exact tail_take hi1 hil
      have HPT : Hid (W.tail.take (i + 1 - 1) = W.tail.take (i - 1) ++ [p]) := hpt
      have hpm : p ∈ W := by rw [hp]; simp [List.getD, hil]
      have c := numberK p (by have := HWE.out p hpm; omega) wr
      have HPM : Hid (p ∈ W.tail) := by
        have h2 : p ∈ W.tail.take (i + 1 - 1) := by rw [hpt]; simp
        exact List.mem_of_mem_take h2
      clear hp hpt hpm
      unfold NumAns at c
      have HPB : Hid (numB p = true) := hall p HPM.out
      rw [HPB.out] at c
      go_upto_if 45 with (go_at_call 7; refine c.mono ?_; rintro e w2 ⟨⟨y, rfl, hy⟩, hw2⟩; obtain rfl := hw2.symm; have HY : Hid (y = valL p) := hy (by trivial); clear hw2 hy)
      obtain ⟨x, hx⟩ : ∃ x : Nat, x = valL p := ⟨_, rfl⟩
      have hyx : y = (x : Int) := by rw [hx]; exact HY.out
      subst hyx
      have HXV : Hid (x = valL p) := hx
      clear c HY hx
      obtain ⟨t0', hi0, hy0, hy1, hy2⟩ := info_parts infU32K
      go_wp2_with (at_builtin; refine wpList_append_lies _ rfl _ _ 29 rfl w1.heap.size 34 t0' (.int .u32 0) 1 4 Tryz.underlying29 hi0 hy0 hy1 hy2 rfl (by decide) u6 l.length (l.map (fun x : Nat => Value.int .u32 x)) rfl (World.ownsRow.alloc HNL.out.own _) ⟨wr.heap.size, 0, none⟩ 1 1 [.int .u32 (x : Int)] rfl rfl ?c1 ?c2 (by decide) ?c3 ?c4 ?c5 _ rfl ?_)
      case c1 =>
        intro j u hu
        rcases j with _ | j
        · simp at hu; subst hu; simp [go_sem, Addr.add]
        · simp at hu
      case c2 => simp [Value.oneCell']
      case c3 => unfold maxLen; omega
      case c4 => omega
      case c5 => first | omega | (simp; omega)
      intro g9 cap9 w9 hown hgrow hat hlt9
      have hPu := (HNL.out.below ((Below.refl _ _).alloc (Nat.le_refl _) (.cells #[.int .u32 (x : Int)] 34))).push hown hgrow
      have HPU : Hid (NlS w1 (l ++ [x]) (.slice (some ⟨g9, 0, none⟩) (l.length + 1) cap9) w9) := hPu
      clear hPu hown hgrow hat
      go_wp2
      have hgk := HGK.out
      go_roundg (gk - 1)
      case measure => omega
      case rel =>
        refine ⟨i + 1, by go_num, by omega, by omega, by omega, ?_, ?_⟩
        · rw [HPT.out, List.map_append, ← HLI.out]
          have e : [p].map valL = [x] := by rw [HXV.out]; rfl
          rw [e]
          exact HPU.out
        · intro p2 hp2
          rw [HPT.out] at hp2
          rcases List.mem_append.1 hp2 with h | h
          · exact HAL.out p2 h
          · have : p2 = p := by simpa using h
            rw [this]; exact HPB.out
    obtain rfl : i = W.length := by omega
    have hiz : ¬ (W.length : Int) < (W.length : Int) := by omega
    have HLT : Hid (l = W.tail.map valL) := by
      show l = W.tail.map valL
      rw [HLI.out]
      congr 1
      exact List.take_of_length_le (by simp)
    have HRL : Hid (r = wordL L g s l) := by
      show r = wordL L g s l
      rw [HR.out, HLT.out]
    obtain ⟨al, cl, hu6, hlcl, hform⟩ := row_form HNL.out.own
    subst hu6
    have HPR : Hid (PlS base q g (.slice aW g.wide.length kW) (.slice aC g.code.length kC) (.slice aI g.ins.length kI) wr) := HP1.out.below HNL.out.bel
    have HBR : Hid (Below w.heap.size w wr) := step_below HNL.out.bel HB1.out
    have hbr : base ≤ wr.heap.size := Nat.le_trans hbase HBR.out.size
    have hqr := HPR.out.lt
    have e0 := step_cell HNL.out.bel (HWC.out 0 hW1)
    have hbw0 := World.block_lt_of_cell? wr _ e0
    obtain ⟨p0, hp0⟩ : ∃ p, p = W.getD 0 [] := ⟨_, rfl⟩
    rw [← hp0] at e0
    have HP0 : Hid (p0 = W.getD 0 []) := hp0
    have q0 := HPR.out.c0
    have q1 := HPR.out.c1
    have q2 := HPR.out.c2
    clear hp0 HGK
    have hc1 : (s == [110, 97, 114, 114, 111, 119]) = false := by rw [lit_eq]; exact decide_eq_false HNS.out.1
    have hc2 : (s == [119, 105, 100, 101]) = false := by rw [lit_eq]; exact decide_eq_false HNS.out.2.1
    have hc3 : (s == [110, 101, 97, 114]) = false := by rw [lit_eq]; exact decide_eq_false HNS.out.2.2
    have HPW : Hid (p0 = sOn) := by
      show p0 = _
      rw [HP0.out]
      exact HWD.out
    have hw0 : (p0 == [99, 111, 100, 101]) = false := by rw [HPW.out]; rfl
    have hw1 : (p0 == [105, 110, 115]) = false := by rw [HPW.out]; rfl
    have hw2 : (p0 == [114, 117, 110]) = false := by rw [HPW.out]; rfl
    have hw3 : (p0 == [111, 110]) = true := by rw [HPW.out]; rfl
    have HWA : Hid (wordL L g s l = if l.length = 2 then (g, shownL (L.on g.wide g.code (l.getD 0 0 : Nat) g.ins (l.getD 1 0 : Nat))) else (g, sNo)) := by
      show wordL L g s l = _
      unfold wordL
      rw [if_neg (fun h => by rcases h with h | h; exact HNS.out.1 h; exact HNS.out.2.1 h), if_neg HNS.out.2.2]
      dsimp only
      rw [← HW.out, ← HP0.out, HPW.out]
      rfl
    by_cases hl1 : l.length = 2
    case neg =>
      have hl1z : ((l.length : Int) == 2) = false := by simp; omega
      have HL1 : Hid (¬ l.length = 2) := hl1
      clear hl1
      go_wp2
      go_ret
      rw [HRL.out, HWA.out, if_neg HL1.out]
      exact LineAns.same HPR.out HBR.out hbase
    have hl1z : ((l.length : Int) == 2) = true := by simp; omega
    have HL1 : Hid (l.length = 2) := hl1
    obtain ⟨bl, hal2, hblge, hbllt⟩ := hform (by omega)
    subst hal2
    have HXA : Hid (∀ k, k < l.length → wr.cell? ⟨bl, k, none⟩ = some (.int .u32 ((l.getD k 0 : Nat) : Int)) ∧ l.getD k 0 < 4294967296) := fun k hk => by
      refine ⟨?_, ?_⟩
      · rw [World.ownsRow.cellAt HNL.out.own k (by omega)]
        simp [List.getD, hk]
      · exact l_small hall HLT.out _ (by simp [List.getD, hk])
    obtain ⟨x, hx⟩ : ∃ x : Nat, x = l.getD 0 0 := ⟨_, rfl⟩
    obtain ⟨x0, hxl⟩ := HXA.out 0 (by omega)
    rw [← hx] at x0 hxl
    have HX : Hid (x = l.getD 0 0) := hx
    have hxz : (x : Int) < 4294967296 := by omega
    have hl0 : 0 < l.length := by omega
    have hxw : IntKind.i64.wrap (x : Int) = (x : Int) := wrapK (by omega) (by omega)
    have HSB : Hid (∀ (b cap : Nat) (x : Int) (wx : World), 0 ≤ x → x < 9223372036854775808 → wx.cell? ⟨b, 0, none⟩ = some (.int .i64 x) → Calls Tryz.prog 8 #[.string ⟨#[98, 97, 100]⟩, .slice (some ⟨b, 0, none⟩) 1 cap] wx fun e w' => e = .returned (.string (str (saidL sBad [x.toNat]))) ∧ Below wx.heap.size wx w') := fun b cap x wx h0 h1 h => said_one sBad x (by decide) h0 h1 b cap wx h
    obtain ⟨y, hy⟩ : ∃ y : Nat, y = l.getD 1 0 := ⟨_, rfl⟩
    obtain ⟨x1, hyl⟩ := HXA.out 1 (by omega)
    rw [← hy] at x1 hyl
    have HY : Hid (y = l.getD 1 0) := hy
    have hyz : (y : Int) < 4294967296 := by omega
    have hl2 : (1 : Int) < (l.length : Int) := by omega
    have hyw : IntKind.i64.wrap (y : Int) = (y : Int) := wrapK (by omega) (by omega)
    clear hx hy hl1
    go_upto_region 46 with fail
    obtain ⟨wt, hwt⟩ : ∃ z, z = wr.alloc (.cells #[.int .i64 (x : Int)] 51) := ⟨_, rfl⟩
    have t0 : wt.cell? ⟨wr.heap.size, 0, none⟩ = some (.int .i64 (x : Int)) := by rw [hwt]; simp [go_sem]
    have hbt : Below wr.heap.size wr wt := by rw [hwt]; exact (Below.refl _ _).alloc (Nat.le_refl _) _
    rw [← hwt]
    clear hwt
    have HBT : Hid (Below wr.heap.size wr wt) := hbt
    have q0 := step_cell hbt q0
    have q1 := step_cell hbt q1
    have q2 := step_cell hbt q2
    have x1 := step_cell hbt x1
    have HPT : Hid (PlS base q g (.slice aW g.wide.length kW) (.slice aC g.code.length kC) (.slice aI g.ins.length kI) wt) := HPR.out.below hbt
    have HBC : Hid (∀ wx : World, Below wt.heap.size wt wx → Calls Tryz.prog 13 #[.agg #[.slice aW g.wide.length kW, .slice aC g.code.length kC], .agg #[.int .i64 (x : Int)]] wx fun e w' => BuildIs L g.wide g.code x wx e w') := fun wx hb => HL.out.build _ g.wide g.code x wx (HPT.out.below hb).prog
    clear hbt e0 x0
    go_cut [20, 21] (fun s20 s21 wq => PbR L g.wide g.code x wt s20 s21 wq)
    case first => as_aux_lemma =>
      refine wp_region_held_drew (S := (fun w' => Below wt.heap.size wt w')) (by rfl) ?_ (fun hHeld => ?_)
      · (exact (Below.refl _ _).drew)
      refine wpAnyH_take (i := 0) (v := ?_) rfl (by kernel_rfl) (by kernel_rfl) (by kernel_rfl) (fun _ _ _ h => h) (Or.inl ⟨by rfl, ?_⟩) (by assumption) ?_
      case refine_2 => (intro w hSw; (try dsimp only at hSw); go_simp; try with_reducible rfl)
      show wpAnyH _ _ _ _ _ _ _ (Act.put _ (some 225) _) _
      simp only [pz]
      refine wpAnyH_take (i := 1) (v := ?_) rfl (by kernel_rfl) (by kernel_rfl) (by kernel_rfl) (fun _ _ _ h => h) (Or.inl ⟨by rfl, ?_⟩) (by assumption) ?_
      case refine_2 => (intro w hSw; (try dsimp only at hSw); go_simp; try with_reducible rfl)
      show wpAnyH _ _ _ _ _ _ _ (Act.put _ (some 226) _) _
      simp only [pz]
      refine wpAnyH_take (i := 2) (v := ?_) rfl (by kernel_rfl) (by kernel_rfl) (by kernel_rfl) (fun _ _ _ h => h) (Or.inl ⟨by rfl, ?_⟩) (by assumption) ?_
      case refine_2 => (intro w hSw; (try dsimp only at hSw); go_simp; try with_reducible rfl)
      show wpAnyH _ _ _ _ _ _ _ (Act.put _ (some 227) _) _
      simp only [pz]
      refine wpAnyH_take (i := 3) (v := ?_) rfl (by kernel_rfl) (by kernel_rfl) (by kernel_rfl) (fun _ _ _ h => h) (Or.inl ⟨by rfl, ?_⟩) (by assumption) ?_
      case refine_2 => (intro w5 hSw; (try dsimp only at hSw); have sq0 := step_cell hSw q0; have sq1 := step_cell hSw q1; go_simp; try with_reducible rfl)
      show wpAnyH _ _ _ _ _ _ _ (Act.put _ (some 228) _) _
      simp only [pz]
      refine wpAnyH_take (i := 4) (v := ?_) rfl (by kernel_rfl) (by kernel_rfl) (by kernel_rfl) (fun _ _ _ h => h) (Or.inl ⟨by rfl, ?_⟩) (by assumption) ?_
      case refine_2 => (intro w5 hSw; (try dsimp only at hSw); have st0 := step_cell hSw t0; go_simp; try with_reducible rfl)
      show wpAnyH _ _ _ _ _ _ _ (Act.put _ (some 229) _) _
      simp only [pz]
      refine wpAnyH_ready (rs := [5, 9]) (by kernel_rfl) (by simp) ?_
      refine (AllReadyH.cons rfl (fun K hK => ?_) (AllReadyH.cons rfl (fun K hK => ?_) AllReadyH.nil))
      · skip
        have h8 := hHeld
        go_simp
        go_at_call 13
        refine (HBC.out _ h8).mono ?_
        rintro e w5 ⟨⟨sl, ao, n, c, er, rfl, hpo⟩, hb5⟩
        go_wp2_with fail
        refine hK.out _ _ ?_ (fun hHeld => ?_)
        · (exact step_below hb5 h8)
        clear hK K
        try simp only [pz]
        refine wpAnyH_take (i := 6) (v := ?_) rfl (by kernel_rfl) (by kernel_rfl) (by kernel_rfl) (fun _ _ _ h => h) (Or.inl ⟨by rfl, ?_⟩) (by assumption) ?_
        case refine_2 => (intro w hSw; (try dsimp only at hSw); go_simp; try with_reducible rfl)
        show wpAnyH _ _ _ _ _ _ _ (Act.put _ (some 224) _) _
        simp only [pz]
        refine wpAnyH_take (i := 7) (v := ?_) rfl (by kernel_rfl) (by kernel_rfl) (by kernel_rfl) (fun _ _ _ h => h) (Or.inl ⟨by rfl, ?_⟩) (by assumption) ?_
        case refine_2 => (intro w hSw; (try dsimp only at hSw); go_simp; try with_reducible rfl)
        show wpAnyH _ _ _ _ _ _ _ (Act.put _ (some 231) _) _
        simp only [pz]
        refine wpAnyH_take (i := 8) (v := ?_) rfl (by kernel_rfl) (by kernel_rfl) (by kernel_rfl) (fun _ _ _ h => h) (Or.inl ⟨by rfl, ?_⟩) (by assumption) ?_
        case refine_2 => (intro w hSw; (try dsimp only at hSw); go_simp; try with_reducible rfl)
        show wpAnyH _ _ _ _ _ _ _ (Act.put _ (some 232) _) _
        simp only [pz]
        have h9 := hHeld
        refine wpAnyH_ready (rs := [9]) (by kernel_rfl) (by simp) ?_
        refine (AllReadyH.cons rfl (fun K hK => ?_) AllReadyH.nil)
        go_simp
        refine hK.out _ _ ?_ (fun hHeld => ?_)
        · (exact step_below ((Below.refl _ _).alloc (Nat.le_refl _) _) h9)
        clear hK K
        try simp only [pz]
        refine wpAnyH_ready (rs := [10]) (by kernel_rfl) (by simp) ?_
        refine (AllReadyH.cons rfl (fun K hK => ?_) AllReadyH.nil)
        go_simp
        refine hK.out _ _ ?_ (fun hHeld => ?_)
        · (exact step_below ((Below.refl _ _).alloc (Nat.le_refl _) _) h9)
        clear hK K
        try simp only [pz]
        refine wpAnyH_ready (rs := [11]) (by kernel_rfl) (by simp) ?_
        refine (AllReadyH.cons rfl (fun K hK => ?_) AllReadyH.nil)
        go_simp
        refine hK.out _ _ ?_ (fun hHeld => ?_)
        · (exact step_below ((Below.refl _ _).alloc (Nat.le_refl _) _) h9)
        clear hK K
        try simp only [pz]
        refine wpAnyH_done (by kernel_rfl) ?_ _
        clear hHeld
        go_wp2_with fail
        go_meet
        case rel => exact PbR.mk1 hpo h9 rfl
      · skip
        have h7 := hHeld
        go_simp
        refine hK.out _ _ ?_ (fun hHeld => ?_)
        · (exact step_below ((Below.refl _ _).alloc (Nat.le_refl _) _) h7)
        clear hK K
        try simp only [pz]
        obtain ⟨w4, hw4⟩ : ∃ x, x = (wt.alloc (.cells #[.int .i64 0, .slice none 0 0] 54)).drew := ⟨_, rfl⟩
        rw [← hw4] at hHeld ⊢
        have m0 : w4.cell? ⟨wt.heap.size, 0, none⟩ = some (.int .i64 0) := by rw [hw4]; simp [go_sem]
        have f0 : w4.frozen? ⟨wt.heap.size, 0, none⟩ = false := by rw [hw4]; simp [go_sem]
        have m1 : w4.cell? ⟨wt.heap.size, 1, none⟩ = some (.slice none 0 0) := by rw [hw4]; simp [go_sem]
        have f1 : w4.frozen? ⟨wt.heap.size, 1, none⟩ = false := by rw [hw4]; simp [go_sem]
        have mm : ∀ j, 2 ≤ j → w4.cell? ⟨wt.heap.size, j, none⟩ = none := fun j hj => by rw [hw4]; simp [go_sem, hj]
        have hlt4 : wt.heap.size < w4.heap.size := World.block_lt_of_cell? w4 _ m0
        clear hw4
        refine wpAnyH_ready (rs := [5]) (by kernel_rfl) (by simp) ?_
        refine (AllReadyH.cons rfl (fun K hK => ?_) AllReadyH.nil)
        have h8 := hHeld
        go_simp
        go_at_call 13
        refine (HBC.out _ h8).mono ?_
        rintro e w5 ⟨⟨sl, ao, n, c, er, rfl, hpo⟩, hb5⟩
        go_wp2_with fail
        refine hK.out _ _ ?_ (fun hHeld => ?_)
        · (exact step_below hb5 h8)
        clear hK K
        try simp only [pz]
        refine wpAnyH_take (i := 6) (v := ?_) rfl (by kernel_rfl) (by kernel_rfl) (by kernel_rfl) (fun _ _ _ h => h) (Or.inl ⟨by rfl, ?_⟩) (by assumption) ?_
        case refine_2 => (intro w hSw; (try dsimp only at hSw); go_simp; try with_reducible rfl)
        show wpAnyH _ _ _ _ _ _ _ (Act.put _ (some 224) _) _
        simp only [pz]
        refine wpAnyH_take (i := 7) (v := ?_) rfl (by kernel_rfl) (by kernel_rfl) (by kernel_rfl) (fun _ _ _ h => h) (Or.inl ⟨by rfl, ?_⟩) (by assumption) ?_
        case refine_2 => (intro w hSw; (try dsimp only at hSw); go_simp; try with_reducible rfl)
        show wpAnyH _ _ _ _ _ _ _ (Act.put _ (some 231) _) _
        simp only [pz]
        refine wpAnyH_take (i := 8) (v := ?_) rfl (by kernel_rfl) (by kernel_rfl) (by kernel_rfl) (fun _ _ _ h => h) (Or.inl ⟨by rfl, ?_⟩) (by assumption) ?_
        case refine_2 => (intro w hSw; (try dsimp only at hSw); go_simp; try with_reducible rfl)
        show wpAnyH _ _ _ _ _ _ _ (Act.put _ (some 232) _) _
        simp only [pz]
        have hb9 : Below w4.heap.size w4 w5 := hb5
        have n0 := step_cell hb9 m0
        have o0 := frozenK hb9 hlt4 f0
        have n1 := step_cell hb9 m1
        have o1 := frozenK hb9 hlt4 f1
        have hlt5 : wt.heap.size < w5.heap.size := World.block_lt_of_cell? w5 _ n0
        have h9 := hHeld
        refine wpAnyH_ready (rs := [10]) (by kernel_rfl) (by simp) ?_
        refine (AllReadyH.cons rfl (fun K hK => ?_) AllReadyH.nil)
        go_simp
        refine hK.out _ _ ?_ (fun hHeld => ?_)
        · (exact (h9.setCell (Nat.le_refl _) _).setCell (Nat.le_refl _) _)
        clear hK K
        try simp only [pz]
        refine wpAnyH_ready (rs := [11]) (by kernel_rfl) (by simp) ?_
        refine (AllReadyH.cons rfl (fun K hK => ?_) AllReadyH.nil)
        go_simp
        refine hK.out _ _ ?_ (fun hHeld => ?_)
        · (exact (h9.setCell (Nat.le_refl _) _).setCell (Nat.le_refl _) _)
        clear hK K
        try simp only [pz]
        refine wpAnyH_done (by kernel_rfl) ?_ _
        clear hHeld
        go_wp2_with fail
        go_meet
        case rel => exact PbR.mk2 (Nat.le_refl _) m0 m1 mm hb9 hpo h9 rfl
    case rest =>
      obtain ⟨bx, sl, ao, n, c, er, hs20, hs21, z0, z1, hpo, hbq⟩ := hcut
      subst hs20
      subst hs21
      obtain ⟨wd, hwd⟩ : ∃ wd, wd = wc := ⟨_, rfl⟩
      rw [← hwd] at hbq hpo z0 z1 ⊢
      have HBQ : Hid (Below wt.heap.size wt wd) := hbq
      have HBQR : Hid (Below wr.heap.size wr wd) := step_below hbq HBT.out
      have HPO : Hid (PlacesOk L g.wide g.code x (.agg #[.int .i64 sl, .slice ao n c]) er wd) := hpo
      have hbxl := World.block_lt_of_cell? wd _ z0
      have t0 := step_cell hbq t0
      have q0 := step_cell hbq q0
      have q1 := step_cell hbq q1
      have q2 := step_cell hbq q2
      have x1 := step_cell hbq x1
      obtain ⟨wdd, hwdd⟩ : ∃ z, z = wd := ⟨_, rfl⟩
      clear hwd hbq hpo HBC hwdd wdd
      by_cases he : er = 0
      case neg =>
        have hez : (er != 0) = true := by simpa using he
        have h0 := HPO.out.1
        have h1 := HPO.out.2.1
        have HE : Hid ((L.on g.wide g.code x g.ins y).err = er) := (HPO.out.2.2.1 he).2 g.ins y
        have HNE : Hid (¬ er = 0) := he
        clear he t0 q0 q1 q2 x1
        go_wp2_with (go_at_call 8; refine (HSB.out _ _ er _ h0 h1 (by simp [go_sem])).mono ?_; rintro e w11 ⟨rfl, hb11⟩; have HB11 : Hid (Below wr.heap.size wr w11) := step_below hb11 (step_below ((Below.refl _ _).alloc (Nat.le_refl _) _) HBQR.out); clear hb11)
        go_ret
        rw [HRL.out, HWA.out, if_pos HL1.out, ← HX.out, ← HY.out]
        unfold shownL
        rw [HE.out, if_neg HNE.out]
        exact LineAns.same (HPR.out.below HB11.out) (step_below HB11.out HBR.out) hbase
      have hez : (er != 0) = false := by simpa using he
      obtain ⟨slots, RR, hpl, hdn, -⟩ := HPO.out.2.2.2 he
      obtain ⟨rr, hrr⟩ : ∃ rr, rr = L.on g.wide g.code x g.ins (y : Int) := ⟨_, rfl⟩
      have HRR : Hid (rr = L.on g.wide g.code x g.ins (y : Int)) := hrr
      have HRO : Hid (RunOk rr) := by
        show RunOk rr
        rw [hrr]; exact HL.out.ook _ _ _ _ _ HPR.out.oc HPR.out.oi
      have HPD : Hid (PlS base q g (.slice aW g.wide.length kW) (.slice aC g.code.length kC) (.slice aI g.ins.length kI) wd) := HPR.out.below HBQR.out
      have HRC : Hid (∀ wx : World, Below wd.heap.size wd wx → Calls Tryz.prog 14 #[.agg #[.slice aW g.wide.length kW, .slice aC g.code.length kC], .agg #[.int .i64 (x : Int)], .agg #[.int .i64 sl, .slice ao n c], .slice aI g.ins.length kI, .int .i64 (y : Int)] wx fun e w' => RunIs rr wx e w') := fun wx hb => by
        rw [HRR.out]
        exact hdn wx _ _ g.ins y (hpl.later hb) (HPD.out.below hb).prog (HPD.out.below hb).inArg
      clear he hpl hdn hrr
      go_upto_region 49 with fail
      go_cut [22, 23] (fun s22 s23 wq => ShR wd rr s22 s23 wq)
      case first => as_aux_lemma =>
        refine wp_region_held_drew (S := (fun w' => Below wd.heap.size wd w')) (by rfl) ?_ (fun hHeld => ?_)
        · (exact (Below.refl _ _).drew)
        refine wpAnyH_take (i := 0) (v := ?_) rfl (by kernel_rfl) (by kernel_rfl) (by kernel_rfl) (fun _ _ _ h => h) (Or.inl ⟨by rfl, ?_⟩) (by assumption) ?_
        case refine_2 => (intro w hSw; (try dsimp only at hSw); go_simp; try with_reducible rfl)
        show wpAnyH _ _ _ _ _ _ _ (Act.put _ (some 239) _) _
        simp only [pz]
        refine wpAnyH_take (i := 1) (v := ?_) rfl (by kernel_rfl) (by kernel_rfl) (by kernel_rfl) (fun _ _ _ h => h) (Or.inl ⟨by rfl, ?_⟩) (by assumption) ?_
        case refine_2 => (intro w hSw; (try dsimp only at hSw); go_simp; try with_reducible rfl)
        show wpAnyH _ _ _ _ _ _ _ (Act.put _ (some 240) _) _
        simp only [pz]
        refine wpAnyH_take (i := 2) (v := ?_) rfl (by kernel_rfl) (by kernel_rfl) (by kernel_rfl) (fun _ _ _ h => h) (Or.inl ⟨by rfl, ?_⟩) (by assumption) ?_
        case refine_2 => (intro w hSw; (try dsimp only at hSw); go_simp; try with_reducible rfl)
        show wpAnyH _ _ _ _ _ _ _ (Act.put _ (some 241) _) _
        simp only [pz]
        refine wpAnyH_take (i := 3) (v := ?_) rfl (by kernel_rfl) (by kernel_rfl) (by kernel_rfl) (fun _ _ _ h => h) (Or.inl ⟨by rfl, ?_⟩) (by assumption) ?_
        case refine_2 => (intro w5 hSw; (try dsimp only at hSw); have sq0 := step_cell hSw q0; have sq1 := step_cell hSw q1; go_simp; try with_reducible rfl)
        show wpAnyH _ _ _ _ _ _ _ (Act.put _ (some 242) _) _
        simp only [pz]
        refine wpAnyH_take (i := 4) (v := ?_) rfl (by kernel_rfl) (by kernel_rfl) (by kernel_rfl) (fun _ _ _ h => h) (Or.inl ⟨by rfl, ?_⟩) (by assumption) ?_
        case refine_2 => (intro w5 hSw; (try dsimp only at hSw); have st0 := step_cell hSw t0; go_simp; try with_reducible rfl)
        show wpAnyH _ _ _ _ _ _ _ (Act.put _ (some 243) _) _
        simp only [pz]
        refine wpAnyH_take (i := 5) (v := ?_) rfl (by kernel_rfl) (by kernel_rfl) (by kernel_rfl) (fun _ _ _ h => h) (Or.inl ⟨by rfl, ?_⟩) (by assumption) ?_
        case refine_2 => (intro w5 hSw; (try dsimp only at hSw); have sz0 := step_cell hSw z0; have sz1 := step_cell hSw z1; go_simp; try with_reducible rfl)
        show wpAnyH _ _ _ _ _ _ _ (Act.put _ (some 244) _) _
        simp only [pz]
        refine wpAnyH_take (i := 6) (v := ?_) rfl (by kernel_rfl) (by kernel_rfl) (by kernel_rfl) (fun _ _ _ h => h) (Or.inl ⟨by rfl, ?_⟩) (by assumption) ?_
        case refine_2 => (intro w hSw; (try dsimp only at hSw); go_simp; try with_reducible rfl)
        show wpAnyH _ _ _ _ _ _ _ (Act.put _ (some 245) _) _
        simp only [pz]
        refine wpAnyH_take (i := 7) (v := ?_) rfl (by kernel_rfl) (by kernel_rfl) (by kernel_rfl) (fun _ _ _ h => h) (Or.inl ⟨by rfl, ?_⟩) (by assumption) ?_
        case refine_2 => (intro w hSw; (try dsimp only at hSw); go_simp; try with_reducible rfl)
        show wpAnyH _ _ _ _ _ _ _ (Act.put _ (some 246) _) _
        simp only [pz]
        refine wpAnyH_take (i := 8) (v := ?_) rfl (by kernel_rfl) (by kernel_rfl) (by kernel_rfl) (fun _ _ _ h => h) (Or.inl ⟨by rfl, ?_⟩) (by assumption) ?_
        case refine_2 => (intro w hSw; (try dsimp only at hSw); go_simp; try with_reducible rfl)
        show wpAnyH _ _ _ _ _ _ _ (Act.put _ (some 247) _) _
        simp only [pz]
        refine wpAnyH_take (i := 9) (v := ?_) rfl (by kernel_rfl) (by kernel_rfl) (by kernel_rfl) (fun _ _ _ h => h) (Or.inl ⟨by rfl, ?_⟩) (by assumption) ?_
        case refine_2 => (intro w5 hSw; (try dsimp only at hSw); have sq2 := step_cell hSw q2; go_simp; try with_reducible rfl)
        show wpAnyH _ _ _ _ _ _ _ (Act.put _ (some 248) _) _
        simp only [pz]
        refine wpAnyH_take (i := 10) (v := ?_) rfl (by kernel_rfl) (by kernel_rfl) (by kernel_rfl) (fun _ _ _ h => h) (Or.inl ⟨by rfl, ?_⟩) (by assumption) ?_
        case refine_2 => (intro w hSw; (try dsimp only at hSw); go_simp; try with_reducible rfl)
        show wpAnyH _ _ _ _ _ _ _ (Act.put _ (some 249) _) _
        simp only [pz]
        refine wpAnyH_take (i := 11) (v := ?_) rfl (by kernel_rfl) (by kernel_rfl) (by kernel_rfl) (fun _ _ _ h => h) (Or.inl ⟨by rfl, ?_⟩) (by assumption) ?_
        case refine_2 => (intro w hSw; (try dsimp only at hSw); go_simp; try with_reducible rfl)
        show wpAnyH _ _ _ _ _ _ _ (Act.put _ (some 250) _) _
        simp only [pz]
        refine wpAnyH_take (i := 12) (v := ?_) rfl (by kernel_rfl) (by kernel_rfl) (by kernel_rfl) (fun _ _ _ h => h) (Or.inl ⟨by rfl, ?_⟩) (by assumption) ?_
        case refine_2 => (intro w5 hSw; (try dsimp only at hSw); have sx1 := step_cell hSw x1; go_simp; try with_reducible rfl)
        show wpAnyH _ _ _ _ _ _ _ (Act.put _ (some 251) _) _
        simp only [pz]
        refine wpAnyH_take (i := 13) (v := ?_) rfl (by kernel_rfl) (by kernel_rfl) (by kernel_rfl) (fun _ _ _ h => h) (Or.inl ⟨by rfl, ?_⟩) (by assumption) ?_
        case refine_2 => (intro w hSw; (try dsimp only at hSw); go_simp; try with_reducible rfl)
        show wpAnyH _ _ _ _ _ _ _ (Act.put _ (some 252) _) _
        simp only [pz]
        refine wpAnyH_ready (rs := [14, 18]) (by kernel_rfl) (by simp) ?_
        refine (AllReadyH.cons rfl (fun K hK => ?_) (AllReadyH.cons rfl (fun K hK => ?_) AllReadyH.nil))
        · skip
          have h8 := hHeld
          go_simp
          go_at_call 14
          refine (HRC.out _ h8).mono ?_
          rintro e w5 ⟨⟨sv, rfl, ov, hsv, hout⟩, hb5⟩
          subst hsv
          have hout2 := hout
          obtain ⟨ao, cap, hov, -, -⟩ := hout2
          subst hov
          go_wp2_with fail
          refine hK.out _ _ ?_ (fun hHeld => ?_)
          · (exact step_below hb5 h8)
          clear hK K
          try simp only [pz]
          refine wpAnyH_take (i := 15) (v := ?_) rfl (by kernel_rfl) (by kernel_rfl) (by kernel_rfl) (fun _ _ _ h => h) (Or.inl ⟨by rfl, ?_⟩) (by assumption) ?_
          case refine_2 => (intro w hSw; (try dsimp only at hSw); go_simp; try with_reducible rfl)
          show wpAnyH _ _ _ _ _ _ _ (Act.put _ (some 238) _) _
          simp only [pz]
          refine wpAnyH_take (i := 16) (v := ?_) rfl (by kernel_rfl) (by kernel_rfl) (by kernel_rfl) (fun _ _ _ h => h) (Or.inl ⟨by rfl, ?_⟩) (by assumption) ?_
          case refine_2 => (intro w hSw; (try dsimp only at hSw); go_simp; try with_reducible rfl)
          show wpAnyH _ _ _ _ _ _ _ (Act.put _ (some 254) _) _
          simp only [pz]
          refine wpAnyH_take (i := 17) (v := ?_) rfl (by kernel_rfl) (by kernel_rfl) (by kernel_rfl) (fun _ _ _ h => h) (Or.inl ⟨by rfl, ?_⟩) (by assumption) ?_
          case refine_2 => (intro w hSw; (try dsimp only at hSw); go_simp; try with_reducible rfl)
          show wpAnyH _ _ _ _ _ _ _ (Act.put _ (some 255) _) _
          simp only [pz]
          have h9 := hHeld
          refine wpAnyH_ready (rs := [18]) (by kernel_rfl) (by simp) ?_
          refine (AllReadyH.cons rfl (fun K hK => ?_) AllReadyH.nil)
          go_simp
          refine hK.out _ _ ?_ (fun hHeld => ?_)
          · (exact step_below ((Below.refl _ _).alloc (Nat.le_refl _) _) h9)
          clear hK K
          try simp only [pz]
          refine wpAnyH_ready (rs := [19]) (by kernel_rfl) (by simp) ?_
          refine (AllReadyH.cons rfl (fun K hK => ?_) AllReadyH.nil)
          go_simp
          refine hK.out _ _ ?_ (fun hHeld => ?_)
          · (exact step_below ((Below.refl _ _).alloc (Nat.le_refl _) _) h9)
          clear hK K
          try simp only [pz]
          refine wpAnyH_ready (rs := [20]) (by kernel_rfl) (by simp) ?_
          refine (AllReadyH.cons rfl (fun K hK => ?_) AllReadyH.nil)
          go_simp
          refine hK.out _ _ ?_ (fun hHeld => ?_)
          · (exact step_below ((Below.refl _ _).alloc (Nat.le_refl _) _) h9)
          clear hK K
          try simp only [pz]
          refine wpAnyH_done (by kernel_rfl) ?_ _
          clear hHeld
          go_wp2_with fail
          go_meet
          case rel => exact ShR.mk1 hout h9 rfl
        · skip
          have h7 := hHeld
          go_simp
          refine hK.out _ _ ?_ (fun hHeld => ?_)
          · (exact step_below ((Below.refl _ _).alloc (Nat.le_refl _) _) h7)
          clear hK K
          try simp only [pz]
          obtain ⟨w4, hw4⟩ : ∃ x, x = (wd.alloc (.cells #[.int .i64 0, .slice none 0 0, .int .i64 0] 46)).drew := ⟨_, rfl⟩
          rw [← hw4] at hHeld ⊢
          have m0 : w4.cell? ⟨wd.heap.size, 0, none⟩ = some (.int .i64 0) := by rw [hw4]; simp [go_sem]
          have f0 : w4.frozen? ⟨wd.heap.size, 0, none⟩ = false := by rw [hw4]; simp [go_sem]
          have m1 : w4.cell? ⟨wd.heap.size, 1, none⟩ = some (.slice none 0 0) := by rw [hw4]; simp [go_sem]
          have f1 : w4.frozen? ⟨wd.heap.size, 1, none⟩ = false := by rw [hw4]; simp [go_sem]
          have m2 : w4.cell? ⟨wd.heap.size, 2, none⟩ = some (.int .i64 0) := by rw [hw4]; simp [go_sem]
          have f2 : w4.frozen? ⟨wd.heap.size, 2, none⟩ = false := by rw [hw4]; simp [go_sem]
          have mm : ∀ j, 3 ≤ j → w4.cell? ⟨wd.heap.size, j, none⟩ = none := fun j hj => by rw [hw4]; simp [go_sem, hj]
          have hlt4 : wd.heap.size < w4.heap.size := World.block_lt_of_cell? w4 _ m0
          clear hw4
          refine wpAnyH_ready (rs := [14]) (by kernel_rfl) (by simp) ?_
          refine (AllReadyH.cons rfl (fun K hK => ?_) AllReadyH.nil)
          have h8 := hHeld
          go_simp
          go_at_call 14
          refine (HRC.out _ h8).mono ?_
          rintro e w5 ⟨⟨sv, rfl, ov, hsv, hout⟩, hb5⟩
          subst hsv
          have hout2 := hout
          obtain ⟨ao, cap, hov, -, -⟩ := hout2
          subst hov
          go_wp2_with fail
          refine hK.out _ _ ?_ (fun hHeld => ?_)
          · (exact step_below hb5 h8)
          clear hK K
          try simp only [pz]
          refine wpAnyH_take (i := 15) (v := ?_) rfl (by kernel_rfl) (by kernel_rfl) (by kernel_rfl) (fun _ _ _ h => h) (Or.inl ⟨by rfl, ?_⟩) (by assumption) ?_
          case refine_2 => (intro w hSw; (try dsimp only at hSw); go_simp; try with_reducible rfl)
          show wpAnyH _ _ _ _ _ _ _ (Act.put _ (some 238) _) _
          simp only [pz]
          refine wpAnyH_take (i := 16) (v := ?_) rfl (by kernel_rfl) (by kernel_rfl) (by kernel_rfl) (fun _ _ _ h => h) (Or.inl ⟨by rfl, ?_⟩) (by assumption) ?_
          case refine_2 => (intro w hSw; (try dsimp only at hSw); go_simp; try with_reducible rfl)
          show wpAnyH _ _ _ _ _ _ _ (Act.put _ (some 254) _) _
          simp only [pz]
          refine wpAnyH_take (i := 17) (v := ?_) rfl (by kernel_rfl) (by kernel_rfl) (by kernel_rfl) (fun _ _ _ h => h) (Or.inl ⟨by rfl, ?_⟩) (by assumption) ?_
          case refine_2 => (intro w hSw; (try dsimp only at hSw); go_simp; try with_reducible rfl)
          show wpAnyH _ _ _ _ _ _ _ (Act.put _ (some 255) _) _
          simp only [pz]
          have hb9 : Below w4.heap.size w4 w5 := hb5
          have n0 := step_cell hb9 m0
          have o0 := frozenK hb9 hlt4 f0
          have n1 := step_cell hb9 m1
          have o1 := frozenK hb9 hlt4 f1
          have n2 := step_cell hb9 m2
          have o2 := frozenK hb9 hlt4 f2
          have hlt5 : wd.heap.size < w5.heap.size := World.block_lt_of_cell? w5 _ n0
          have h9 := hHeld
          refine wpAnyH_ready (rs := [19]) (by kernel_rfl) (by simp) ?_
          refine (AllReadyH.cons rfl (fun K hK => ?_) AllReadyH.nil)
          go_simp
          refine hK.out _ _ ?_ (fun hHeld => ?_)
          · (exact ((h9.setCell (Nat.le_refl _) _).setCell (Nat.le_refl _) _).setCell (Nat.le_refl _) _)
          clear hK K
          try simp only [pz]
          refine wpAnyH_ready (rs := [20]) (by kernel_rfl) (by simp) ?_
          refine (AllReadyH.cons rfl (fun K hK => ?_) AllReadyH.nil)
          go_simp
          refine hK.out _ _ ?_ (fun hHeld => ?_)
          · (exact ((h9.setCell (Nat.le_refl _) _).setCell (Nat.le_refl _) _).setCell (Nat.le_refl _) _)
          clear hK K
          try simp only [pz]
          refine wpAnyH_done (by kernel_rfl) ?_ _
          clear hHeld
          go_wp2_with fail
          go_meet
          case rel => exact ShR.mk2 (Nat.le_refl _) m0 m1 m2 mm hb9 hout h9 rfl
      case rest =>
        obtain ⟨by', ao', cap', hs22, hs23, z0', z1', z2', hout, hbq⟩ := hcut
        subst hs22
        subst hs23
        obtain ⟨wf, hwf⟩ : ∃ wf, wf = wc := ⟨_, rfl⟩
        rw [← hwf] at hbq hout z0' z1' z2' ⊢
        have HBF : Hid (Below wr.heap.size wr wf) := step_below hbq HBQR.out
        have HSH : Hid (ShownIs wf (.agg #[.int .i64 rr.state, .slice ao' rr.out.length cap', .int .i64 rr.steps]) rr.state rr.out rr.steps) := ⟨_, rfl, hout⟩
        have hbyl := World.block_lt_of_cell? wf _ z0'
        have cs := shownK rr HRO.out _ wf HSH.out
        clear hwf hbq hout t0 q0 q1 q2 x1 z0 z1
        go_wp2_with (go_at_call 12; refine cs.mono ?_; rintro e w11 ⟨rfl, hb11⟩; have HB11 : Hid (Below wr.heap.size wr w11) := step_below hb11 HBF.out; clear hb11)
        go_ret
        rw [HRL.out, HWA.out, if_pos HL1.out, ← HX.out, ← HY.out, ← HRR.out]
        exact LineAns.same (HPR.out.below HB11.out) (step_below HB11.out HBR.out) hbase
end form
/- How many bytes (loanbookkeep: line). -/
namespace form
open Go.RowKit
set_option maxRecDepth 100000
attribute [local go_sem ↓] Go.wp_at_zero Go.wp_at_succ
attribute [local go_sem] str_size str_list ByteArray.toList_mk
set_option maxHeartbeats 1600000 in
theorem lineBytes {base q : Nat} {g : PL} {wv cv iv : Value} {w : World} (L : Lay) (hL : LayIs L) (hP : PlS base q g wv cv iv w) (s : List UInt8) (hs : s.length ≤ 2000000) (hall : ∀ p, p ∈ (splitL 32 s).tail → numB p = true) (r : PL × List UInt8) (hr : r = wordL L g s ((splitL 32 s).tail.map valL)) (hns : ¬ s = sNarrow ∧ ¬ s = sWide ∧ ¬ s = sNear) (hwd : (splitL 32 s).getD 0 [] = sBytes) :
    Calls Tryz.prog 5 #[.pointer (some ⟨q, 0, none⟩), .string (str s)] w fun e w' => LineAns base q r w e w' := by
  have HL : Hid (LayIs L) := hL
  obtain ⟨aW, kW, hwv, -, -⟩ := row_form hP.wide
  obtain ⟨aC, kC, hcv, -, -⟩ := row_form hP.code
  obtain ⟨aI, kI, hiv, -, -⟩ := row_form hP.ins
  subst hwv hcv hiv
  have HP : Hid (PlS base q g (.slice aW g.wide.length kW) (.slice aC g.code.length kC) (.slice aI g.ins.length kI) w) := hP
  have hbase : base ≤ w.heap.size := Nat.le_of_lt (Nat.lt_of_le_of_lt hP.lo hP.lt)
  have hqlt := hP.lt
  have hbw := hP.bw
  have hbc := hP.bc
  have hbi := hP.bi
  have HSK : Hid (∀ wx : World, Calls Tryz.prog 4 #[.string (str s), .int .u8 32] wx fun e w' => ∃ v, e = .returned v ∧ StS wx wx.heap.size (splitL 32 s) v w') := fun wx => splitK s 32 (by omega) wx
  have HW1 : Hid (1 ≤ (splitL 32 s).length) := splitL_pos 32 s
  have HWL : Hid ((splitL 32 s).length ≤ s.length + 1) := splitL_len 32 s
  have HWE : Hid (∀ p, p ∈ splitL 32 s → p.length ≤ s.length) := splitL_each 32 s
  clear hP hL
  have HNS : Hid (¬ s = sNarrow ∧ ¬ s = sWide ∧ ¬ s = sNear) := hns
  clear hns
  obtain ⟨W, hW⟩ : ∃ W, W = splitL 32 s := ⟨_, rfl⟩
  rw [← hW] at HSK HW1 HWL HWE hall hr hwd
  have HR : Hid (r = wordL L g s (W.tail.map valL)) := hr
  clear hr
  have HWD : Hid (W.getD 0 [] = sBytes) := hwd
  clear hwd
  have HW : Hid (W = splitL 32 s) := hW
  clear hW
  have hW1 := HW1.out
  have hWz : (W.length : Int) ≤ 2000001 := by have := HWL.out; omega
  go_enter Tryz.func5, Tryz.ntmps5
  go_upto_region 2 with (go_at_call 4; refine (HSK.out _).mono ?_; rintro e w1 ⟨v, rfl, hst⟩; have HST : Hid (StS w w.heap.size W v w1) := hst; clear hst)
  obtain ⟨bw, capw, hv, hbwge, hbwlt⟩ := HST.out.own.form hW1
  subst hv
  have HWC : Hid (∀ j, j < W.length → w1.cell? ⟨bw, j, none⟩ = some (.string (str (W.getD j [])))) := fun j hj => by
    rw [World.ownsRow.cellAt HST.out.own j (by omega)]
    simp [List.getD, hj]
  have HP1 : Hid (PlS base q g (.slice aW g.wide.length kW) (.slice aC g.code.length kC) (.slice aI g.ins.length kI) w1) := HP.out.below HST.out.bel
  have HB1 : Hid (Below w.heap.size w w1) := HST.out.bel
  clear HSK HST hbwge
  go_wp2
  go_loopg [6, 7, 8, 9] W.length (fun gg v6 v v8 v9 wr => ∃ (i : Nat), v = .int .i64 i ∧ 1 ≤ i ∧ i ≤ W.length ∧ gg = W.length + 1 - i ∧ NlS w1 ((W.tail.take (i - 1)).map valL) v6 wr ∧ ∀ p, p ∈ W.tail.take (i - 1) → numB p = true)
  case atStart => exact ⟨1, rfl, by omega, by omega, by omega, ⟨Below.refl _ _, World.ownsRow_nil _ _ _ _⟩, fun p hp => by simp at hp⟩
  case round =>
    obtain ⟨i, rfl, hi1, hi, hgk, hnl, hal⟩ := hrel
    have HGK : Hid (gk = W.length + 1 - i) := hgk
    obtain ⟨l, hl⟩ : ∃ l, l = (W.tail.take (i - 1)).map valL := ⟨_, rfl⟩
    rw [← hl] at hnl
    have HLI : Hid (l = (W.tail.take (i - 1)).map valL) := hl
    have hll : l.length = i - 1 := by rw [hl]; simp; omega
    have hllz : l.length ≤ 2000001 := by omega
    have HLL : Hid (l.length = i - 1) := hll
    have HNL : Hid (NlS w1 l u6 wr) := hnl
    have HAL : Hid (∀ p, p ∈ W.tail.take (i - 1) → numB p = true) := hal
    have hwz := hnl.bel.size
    clear hgk hnl hl hal hll
    by_cases hil : i < W.length
    case pos =>
      have hiz : (i : Int) < (W.length : Int) := by omega
      have d0 := step_cell HNL.out.bel (HWC.out i hil)
      have hbl := World.block_lt_of_cell? wr _ d0
      obtain ⟨p, hp⟩ : ∃ p, p = W.getD i [] := ⟨_, rfl⟩
      rw [← hp] at d0
      have HPP : Hid (p = W.getD i []) := hp
      have hpt : W.tail.take (i + 1 - 1) = W.tail.take (i - 1) ++ [p] := by rw [hp]; exact tail_take hi1 hil
      have HPT : Hid (W.tail.take (i + 1 - 1) = W.tail.take (i - 1) ++ [p]) := hpt
      have hpm : p ∈ W := by rw [hp]; simp [List.getD, hil]
      have c := numberK p (by have := HWE.out p hpm; omega) wr
      have HPM : Hid (p ∈ W.tail) := by
        have h2 : p ∈ W.tail.take (i + 1 - 1) := by rw [hpt]; simp
        exact List.mem_of_mem_take h2
      clear hp hpt hpm
      unfold NumAns at c
      have HPB : Hid (numB p = true) := hall p HPM.out
      rw [HPB.out] at c
      go_upto_if 45 with (go_at_call 7; refine c.mono ?_; rintro e w2 ⟨⟨y, rfl, hy⟩, hw2⟩; obtain rfl := hw2.symm; have HY : Hid (y = valL p) := hy (by trivial); clear hw2 hy)
      obtain ⟨x, hx⟩ : ∃ x : Nat, x = valL p := ⟨_, rfl⟩
      have hyx : y = (x : Int) := by rw [hx]; exact HY.out
      subst hyx
      have HXV : Hid (x = valL p) := hx
      clear c HY hx
      obtain ⟨t0', hi0, hy0, hy1, hy2⟩ := info_parts infU32K
      go_wp2_with (at_builtin; refine wpList_append_lies _ rfl _ _ 29 rfl w1.heap.size 34 t0' (.int .u32 0) 1 4 Tryz.underlying29 hi0 hy0 hy1 hy2 rfl (by decide) u6 l.length (l.map (fun x : Nat => Value.int .u32 x)) rfl (World.ownsRow.alloc HNL.out.own _) ⟨wr.heap.size, 0, none⟩ 1 1 [.int .u32 (x : Int)] rfl rfl ?c1 ?c2 (by decide) ?c3 ?c4 ?c5 _ rfl ?_)
      case c1 =>
        intro j u hu
        rcases j with _ | j
        · simp at hu; subst hu; simp [go_sem, Addr.add]
        · simp at hu
      case c2 => simp [Value.oneCell']
      case c3 => unfold maxLen; omega
      case c4 => omega
      case c5 => first | omega | (simp; omega)
      intro g9 cap9 w9 hown hgrow hat hlt9
      have hPu := (HNL.out.below ((Below.refl _ _).alloc (Nat.le_refl _) (.cells #[.int .u32 (x : Int)] 34))).push hown hgrow
      have HPU : Hid (NlS w1 (l ++ [x]) (.slice (some ⟨g9, 0, none⟩) (l.length + 1) cap9) w9) := hPu
      clear hPu hown hgrow hat
      go_wp2
      have hgk := HGK.out
      go_roundg (gk - 1)
      case measure => omega
      case rel =>
        refine ⟨i + 1, by go_num, by omega, by omega, by omega, ?_, ?_⟩
        · rw [HPT.out, List.map_append, ← HLI.out]
          have e : [p].map valL = [x] := by rw [HXV.out]; rfl
          rw [e]
          exact HPU.out
        · intro p2 hp2
          rw [HPT.out] at hp2
          rcases List.mem_append.1 hp2 with h | h
          · exact HAL.out p2 h
          · have : p2 = p := by simpa using h
            rw [this]; exact HPB.out
    obtain rfl : i = W.length := by omega
    have hiz : ¬ (W.length : Int) < (W.length : Int) := by omega
    have HLT : Hid (l = W.tail.map valL) := by
      show l = W.tail.map valL
      rw [HLI.out]
      congr 1
      exact List.take_of_length_le (by simp)
    have HRL : Hid (r = wordL L g s l) := by
      show r = wordL L g s l
      rw [HR.out, HLT.out]
    obtain ⟨al, cl, hu6, hlcl, hform⟩ := row_form HNL.out.own
    subst hu6
    have HPR : Hid (PlS base q g (.slice aW g.wide.length kW) (.slice aC g.code.length kC) (.slice aI g.ins.length kI) wr) := HP1.out.below HNL.out.bel
    have HBR : Hid (Below w.heap.size w wr) := step_below HNL.out.bel HB1.out
    have hbr : base ≤ wr.heap.size := Nat.le_trans hbase HBR.out.size
    have hqr := HPR.out.lt
    have e0 := step_cell HNL.out.bel (HWC.out 0 hW1)
    have hbw0 := World.block_lt_of_cell? wr _ e0
    obtain ⟨p0, hp0⟩ : ∃ p, p = W.getD 0 [] := ⟨_, rfl⟩
    rw [← hp0] at e0
    have HP0 : Hid (p0 = W.getD 0 []) := hp0
    have q0 := HPR.out.c0
    have q1 := HPR.out.c1
    have q2 := HPR.out.c2
    clear hp0 HGK
    have hc1 : (s == [110, 97, 114, 114, 111, 119]) = false := by rw [lit_eq]; exact decide_eq_false HNS.out.1
    have hc2 : (s == [119, 105, 100, 101]) = false := by rw [lit_eq]; exact decide_eq_false HNS.out.2.1
    have hc3 : (s == [110, 101, 97, 114]) = false := by rw [lit_eq]; exact decide_eq_false HNS.out.2.2
    have HPW : Hid (p0 = sBytes) := by
      show p0 = _
      rw [HP0.out]
      exact HWD.out
    have hw0 : (p0 == [99, 111, 100, 101]) = false := by rw [HPW.out]; rfl
    have hw1 : (p0 == [105, 110, 115]) = false := by rw [HPW.out]; rfl
    have hw2 : (p0 == [114, 117, 110]) = false := by rw [HPW.out]; rfl
    have hw3 : (p0 == [111, 110]) = false := by rw [HPW.out]; rfl
    have hw4 : (p0 == [98, 121, 116, 101, 115]) = true := by rw [HPW.out]; rfl
    have HWA : Hid (wordL L g s l = if l.length = 1 then (g, countL (L.bytes g.wide g.code (l.getD 0 0 : Nat))) else (g, sNo)) := by
      show wordL L g s l = _
      unfold wordL
      rw [if_neg (fun h => by rcases h with h | h; exact HNS.out.1 h; exact HNS.out.2.1 h), if_neg HNS.out.2.2]
      dsimp only
      rw [← HW.out, ← HP0.out, HPW.out]
      rfl
    by_cases hl1 : l.length = 1
    case neg =>
      have hl1z : ((l.length : Int) == 1) = false := by simp; omega
      have HL1 : Hid (¬ l.length = 1) := hl1
      clear hl1
      go_wp2
      go_ret
      rw [HRL.out, HWA.out, if_neg HL1.out]
      exact LineAns.same HPR.out HBR.out hbase
    have hl1z : ((l.length : Int) == 1) = true := by simp; omega
    have HL1 : Hid (l.length = 1) := hl1
    obtain ⟨bl, hal2, hblge, hbllt⟩ := hform (by omega)
    subst hal2
    have HXA : Hid (∀ k, k < l.length → wr.cell? ⟨bl, k, none⟩ = some (.int .u32 ((l.getD k 0 : Nat) : Int)) ∧ l.getD k 0 < 4294967296) := fun k hk => by
      refine ⟨?_, ?_⟩
      · rw [World.ownsRow.cellAt HNL.out.own k (by omega)]
        simp [List.getD, hk]
      · exact l_small hall HLT.out _ (by simp [List.getD, hk])
    obtain ⟨x, hx⟩ : ∃ x : Nat, x = l.getD 0 0 := ⟨_, rfl⟩
    obtain ⟨x0, hxl⟩ := HXA.out 0 (by omega)
    rw [← hx] at x0 hxl
    have HX : Hid (x = l.getD 0 0) := hx
    have hxz : (x : Int) < 4294967296 := by omega
    have hl0 : 0 < l.length := by omega
    have hxw : IntKind.i64.wrap (x : Int) = (x : Int) := wrapK (by omega) (by omega)
    have HSB : Hid (∀ (b cap : Nat) (x : Int) (wx : World), 0 ≤ x → x < 9223372036854775808 → wx.cell? ⟨b, 0, none⟩ = some (.int .i64 x) → Calls Tryz.prog 8 #[.string ⟨#[98, 97, 100]⟩, .slice (some ⟨b, 0, none⟩) 1 cap] wx fun e w' => e = .returned (.string (str (saidL sBad [x.toNat]))) ∧ Below wx.heap.size wx w') := fun b cap x wx h0 h1 h => said_one sBad x (by decide) h0 h1 b cap wx h
    have HBC : Hid (∀ wx : World, Below wr.heap.size wr wx → Calls Tryz.prog 13 #[.agg #[.slice aW g.wide.length kW, .slice aC g.code.length kC], .agg #[.int .i64 (x : Int)]] wx fun e w' => BuildIs L g.wide g.code x wx e w') := fun wx hb => HL.out.build _ g.wide g.code x wx (HPR.out.below hb).prog
    clear hx hl1
    go_upto_region 53 with fail
    go_cut [24, 25] (fun s24 s25 wq => PbR L g.wide g.code x wr s24 s25 wq)
    case first =>
      refine wp_region_held_drew (S := (fun w' => Below wr.heap.size wr w')) (by rfl) ?_ (fun hHeld => ?_)
      · (exact (Below.refl _ _).drew)
      refine wpAnyH_take (i := 0) (v := ?_) rfl (by kernel_rfl) (by kernel_rfl) (by kernel_rfl) (fun _ _ _ h => h) (Or.inl ⟨by rfl, ?_⟩) (by assumption) ?_
      case refine_2 => (intro w hSw; (try dsimp only at hSw); go_simp; try with_reducible rfl)
      show wpAnyH _ _ _ _ _ _ _ (Act.put _ (some 264) _) _
      simp only [pz]
      refine wpAnyH_take (i := 1) (v := ?_) rfl (by kernel_rfl) (by kernel_rfl) (by kernel_rfl) (fun _ _ _ h => h) (Or.inl ⟨by rfl, ?_⟩) (by assumption) ?_
      case refine_2 => (intro w hSw; (try dsimp only at hSw); go_simp; try with_reducible rfl)
      show wpAnyH _ _ _ _ _ _ _ (Act.put _ (some 265) _) _
      simp only [pz]
      refine wpAnyH_take (i := 2) (v := ?_) rfl (by kernel_rfl) (by kernel_rfl) (by kernel_rfl) (fun _ _ _ h => h) (Or.inl ⟨by rfl, ?_⟩) (by assumption) ?_
      case refine_2 => (intro w hSw; (try dsimp only at hSw); go_simp; try with_reducible rfl)
      show wpAnyH _ _ _ _ _ _ _ (Act.put _ (some 266) _) _
      simp only [pz]
      refine wpAnyH_take (i := 3) (v := ?_) rfl (by kernel_rfl) (by kernel_rfl) (by kernel_rfl) (fun _ _ _ h => h) (Or.inl ⟨by rfl, ?_⟩) (by assumption) ?_
      case refine_2 => (intro w5 hSw; (try dsimp only at hSw); have sq0 := step_cell hSw q0; have sq1 := step_cell hSw q1; go_simp; try with_reducible rfl)
      show wpAnyH _ _ _ _ _ _ _ (Act.put _ (some 267) _) _
      simp only [pz]
      refine wpAnyH_take (i := 4) (v := ?_) rfl (by kernel_rfl) (by kernel_rfl) (by kernel_rfl) (fun _ _ _ h => h) (Or.inl ⟨by rfl, ?_⟩) (by assumption) ?_
      case refine_2 => (intro w hSw; (try dsimp only at hSw); go_simp; try with_reducible rfl)
      show wpAnyH _ _ _ _ _ _ _ (Act.put _ (some 268) _) _
      simp only [pz]
      refine wpAnyH_take (i := 5) (v := ?_) rfl (by kernel_rfl) (by kernel_rfl) (by kernel_rfl) (fun _ _ _ h => h) (Or.inl ⟨by rfl, ?_⟩) (by assumption) ?_
      case refine_2 => (intro w hSw; (try dsimp only at hSw); go_simp; try with_reducible rfl)
      show wpAnyH _ _ _ _ _ _ _ (Act.put _ (some 269) _) _
      simp only [pz]
      refine wpAnyH_take (i := 6) (v := ?_) rfl (by kernel_rfl) (by kernel_rfl) (by kernel_rfl) (fun _ _ _ h => h) (Or.inl ⟨by rfl, ?_⟩) (by assumption) ?_
      case refine_2 => (intro w5 hSw; (try dsimp only at hSw); have sx0 := step_cell hSw x0; go_simp; try with_reducible rfl)
      show wpAnyH _ _ _ _ _ _ _ (Act.put _ (some 270) _) _
      simp only [pz]
      refine wpAnyH_take (i := 7) (v := ?_) rfl (by kernel_rfl) (by kernel_rfl) (by kernel_rfl) (fun _ _ _ h => h) (Or.inl ⟨by rfl, ?_⟩) (by assumption) ?_
      case refine_2 => (intro w hSw; (try dsimp only at hSw); go_simp; try with_reducible rfl)
      show wpAnyH _ _ _ _ _ _ _ (Act.put _ (some 271) _) _
      simp only [pz]
      refine wpAnyH_take (i := 8) (v := ?_) rfl (by kernel_rfl) (by kernel_rfl) (by kernel_rfl) (fun _ _ _ h => h) (Or.inl ⟨by rfl, ?_⟩) (by assumption) ?_
      case refine_2 => (intro w hSw; (try dsimp only at hSw); go_simp; try with_reducible rfl)
      show wpAnyH _ _ _ _ _ _ _ (Act.put _ (some 272) _) _
      simp only [pz]
      refine wpAnyH_ready (rs := [9, 13]) (by kernel_rfl) (by simp) ?_
      refine (AllReadyH.cons rfl (fun K hK => ?_) (AllReadyH.cons rfl (fun K hK => ?_) AllReadyH.nil))
      · skip
        have h8 := hHeld
        go_simp
        go_at_call 13
        refine (HBC.out _ h8).mono ?_
        rintro e w5 ⟨⟨sl, ao, n, c, er, rfl, hpo⟩, hb5⟩
        go_wp2_with fail
        refine hK.out _ _ ?_ (fun hHeld => ?_)
        · (exact step_below hb5 h8)
        clear hK K
        try simp only [pz]
        refine wpAnyH_take (i := 10) (v := ?_) rfl (by kernel_rfl) (by kernel_rfl) (by kernel_rfl) (fun _ _ _ h => h) (Or.inl ⟨by rfl, ?_⟩) (by assumption) ?_
        case refine_2 => (intro w hSw; (try dsimp only at hSw); go_simp; try with_reducible rfl)
        show wpAnyH _ _ _ _ _ _ _ (Act.put _ (some 263) _) _
        simp only [pz]
        refine wpAnyH_take (i := 11) (v := ?_) rfl (by kernel_rfl) (by kernel_rfl) (by kernel_rfl) (fun _ _ _ h => h) (Or.inl ⟨by rfl, ?_⟩) (by assumption) ?_
        case refine_2 => (intro w hSw; (try dsimp only at hSw); go_simp; try with_reducible rfl)
        show wpAnyH _ _ _ _ _ _ _ (Act.put _ (some 274) _) _
        simp only [pz]
        refine wpAnyH_take (i := 12) (v := ?_) rfl (by kernel_rfl) (by kernel_rfl) (by kernel_rfl) (fun _ _ _ h => h) (Or.inl ⟨by rfl, ?_⟩) (by assumption) ?_
        case refine_2 => (intro w hSw; (try dsimp only at hSw); go_simp; try with_reducible rfl)
        show wpAnyH _ _ _ _ _ _ _ (Act.put _ (some 275) _) _
        simp only [pz]
        have h9 := hHeld
        refine wpAnyH_ready (rs := [13]) (by kernel_rfl) (by simp) ?_
        refine (AllReadyH.cons rfl (fun K hK => ?_) AllReadyH.nil)
        go_simp
        refine hK.out _ _ ?_ (fun hHeld => ?_)
        · (exact step_below ((Below.refl _ _).alloc (Nat.le_refl _) _) h9)
        clear hK K
        try simp only [pz]
        refine wpAnyH_ready (rs := [14]) (by kernel_rfl) (by simp) ?_
        refine (AllReadyH.cons rfl (fun K hK => ?_) AllReadyH.nil)
        go_simp
        refine hK.out _ _ ?_ (fun hHeld => ?_)
        · (exact step_below ((Below.refl _ _).alloc (Nat.le_refl _) _) h9)
        clear hK K
        try simp only [pz]
        refine wpAnyH_ready (rs := [15]) (by kernel_rfl) (by simp) ?_
        refine (AllReadyH.cons rfl (fun K hK => ?_) AllReadyH.nil)
        go_simp
        refine hK.out _ _ ?_ (fun hHeld => ?_)
        · (exact step_below ((Below.refl _ _).alloc (Nat.le_refl _) _) h9)
        clear hK K
        try simp only [pz]
        refine wpAnyH_done (by kernel_rfl) ?_ _
        clear hHeld
        go_wp2_with fail
        go_meet
        case rel => exact PbR.mk1 hpo h9 rfl
      · skip
        have h7 := hHeld
        go_simp
        refine hK.out _ _ ?_ (fun hHeld => ?_)
        · (exact step_below ((Below.refl _ _).alloc (Nat.le_refl _) _) h7)
        clear hK K
        try simp only [pz]
        obtain ⟨w4, hw4⟩ : ∃ x, x = (wr.alloc (.cells #[.int .i64 0, .slice none 0 0] 54)).drew := ⟨_, rfl⟩
        rw [← hw4] at hHeld ⊢
        have m0 : w4.cell? ⟨wr.heap.size, 0, none⟩ = some (.int .i64 0) := by rw [hw4]; simp [go_sem]
        have f0 : w4.frozen? ⟨wr.heap.size, 0, none⟩ = false := by rw [hw4]; simp [go_sem]
        have m1 : w4.cell? ⟨wr.heap.size, 1, none⟩ = some (.slice none 0 0) := by rw [hw4]; simp [go_sem]
        have f1 : w4.frozen? ⟨wr.heap.size, 1, none⟩ = false := by rw [hw4]; simp [go_sem]
        have mm : ∀ j, 2 ≤ j → w4.cell? ⟨wr.heap.size, j, none⟩ = none := fun j hj => by rw [hw4]; simp [go_sem, hj]
        have hlt4 : wr.heap.size < w4.heap.size := World.block_lt_of_cell? w4 _ m0
        clear hw4
        refine wpAnyH_ready (rs := [9]) (by kernel_rfl) (by simp) ?_
        refine (AllReadyH.cons rfl (fun K hK => ?_) AllReadyH.nil)
        have h8 := hHeld
        go_simp
        go_at_call 13
        refine (HBC.out _ h8).mono ?_
        rintro e w5 ⟨⟨sl, ao, n, c, er, rfl, hpo⟩, hb5⟩
        go_wp2_with fail
        refine hK.out _ _ ?_ (fun hHeld => ?_)
        · (exact step_below hb5 h8)
        clear hK K
        try simp only [pz]
        refine wpAnyH_take (i := 10) (v := ?_) rfl (by kernel_rfl) (by kernel_rfl) (by kernel_rfl) (fun _ _ _ h => h) (Or.inl ⟨by rfl, ?_⟩) (by assumption) ?_
        case refine_2 => (intro w hSw; (try dsimp only at hSw); go_simp; try with_reducible rfl)
        show wpAnyH _ _ _ _ _ _ _ (Act.put _ (some 263) _) _
        simp only [pz]
        refine wpAnyH_take (i := 11) (v := ?_) rfl (by kernel_rfl) (by kernel_rfl) (by kernel_rfl) (fun _ _ _ h => h) (Or.inl ⟨by rfl, ?_⟩) (by assumption) ?_
        case refine_2 => (intro w hSw; (try dsimp only at hSw); go_simp; try with_reducible rfl)
        show wpAnyH _ _ _ _ _ _ _ (Act.put _ (some 274) _) _
        simp only [pz]
        refine wpAnyH_take (i := 12) (v := ?_) rfl (by kernel_rfl) (by kernel_rfl) (by kernel_rfl) (fun _ _ _ h => h) (Or.inl ⟨by rfl, ?_⟩) (by assumption) ?_
        case refine_2 => (intro w hSw; (try dsimp only at hSw); go_simp; try with_reducible rfl)
        show wpAnyH _ _ _ _ _ _ _ (Act.put _ (some 275) _) _
        simp only [pz]
        have hb9 : Below w4.heap.size w4 w5 := hb5
        have n0 := step_cell hb9 m0
        have o0 := frozenK hb9 hlt4 f0
        have n1 := step_cell hb9 m1
        have o1 := frozenK hb9 hlt4 f1
        have hlt5 : wr.heap.size < w5.heap.size := World.block_lt_of_cell? w5 _ n0
        have h9 := hHeld
        refine wpAnyH_ready (rs := [14]) (by kernel_rfl) (by simp) ?_
        refine (AllReadyH.cons rfl (fun K hK => ?_) AllReadyH.nil)
        go_simp
        refine hK.out _ _ ?_ (fun hHeld => ?_)
        · (exact (h9.setCell (Nat.le_refl _) _).setCell (Nat.le_refl _) _)
        clear hK K
        try simp only [pz]
        refine wpAnyH_ready (rs := [15]) (by kernel_rfl) (by simp) ?_
        refine (AllReadyH.cons rfl (fun K hK => ?_) AllReadyH.nil)
        go_simp
        refine hK.out _ _ ?_ (fun hHeld => ?_)
        · (exact (h9.setCell (Nat.le_refl _) _).setCell (Nat.le_refl _) _)
        clear hK K
        try simp only [pz]
        refine wpAnyH_done (by kernel_rfl) ?_ _
        clear hHeld
        go_wp2_with fail
        go_meet
        case rel => exact PbR.mk2 (Nat.le_refl _) m0 m1 mm hb9 hpo h9 rfl
    case rest =>
      obtain ⟨bx, sl, ao, n, c, er, hs24, hs25, z0, z1, hpo, hbq⟩ := hcut
      subst hs24
      subst hs25
      obtain ⟨wd, hwd⟩ : ∃ wd, wd = wc := ⟨_, rfl⟩
      rw [← hwd] at hbq hpo z0 z1 ⊢
      have HBQ : Hid (Below wr.heap.size wr wd) := hbq
      have HPO : Hid (PlacesOk L g.wide g.code x (.agg #[.int .i64 sl, .slice ao n c]) er wd) := hpo
      have hbxl := World.block_lt_of_cell? wd _ z0
      clear hwd hbq hpo q0 q1 q2 x0 e0
      by_cases he : er = 0
      case neg =>
        have hez : (er != 0) = true := by simpa using he
        have h0 := HPO.out.1
        have h1 := HPO.out.2.1
        have HE : Hid (L.bytes g.wide g.code x = (er, 0)) := (HPO.out.2.2.1 he).1
        have HNE : Hid (¬ er = 0) := he
        clear he
        go_wp2_with (go_at_call 8; refine (HSB.out _ _ er _ h0 h1 (by simp [go_sem])).mono ?_; rintro e w11 ⟨rfl, hb11⟩; have HB11 : Hid (Below wr.heap.size wr w11) := step_below hb11 (step_below ((Below.refl _ _).alloc (Nat.le_refl _) _) HBQ.out); clear hb11)
        go_ret
        rw [HRL.out, HWA.out, if_pos HL1.out, ← HX.out, HE.out]
        unfold countL
        rw [if_neg HNE.out]
        exact LineAns.same (HPR.out.below HB11.out) (step_below HB11.out HBR.out) hbase
      have hez : (er != 0) = false := by simpa using he
      obtain ⟨slots, RR, hpl, -, hput⟩ := HPO.out.2.2.2 he
      have cp := hput wd hpl
      obtain ⟨by', hby⟩ : ∃ z, z = L.bytes g.wide g.code x := ⟨_, rfl⟩
      rw [← hby] at cp
      have HBY : Hid (by' = L.bytes g.wide g.code x) := hby
      clear he hpl hput hby
      go_upto_region 57 with (go_at_call 15; refine cp.mono ?_; rintro e w6 ⟨⟨ao2, n2, c2, rfl, hp0, hp1, hpn⟩, hb6⟩; have HB6 : Hid (Below wr.heap.size wr w6) := step_below hb6 HBQ.out; have HPN : Hid (by'.1 = 0 → n2 = by'.2 ∧ n2 < 9223372036854775808) := hpn; clear hb6 hpn)
      obtain ⟨er2, her2⟩ : ∃ z, z = by'.1 := ⟨_, rfl⟩
      rw [← her2] at hp0 hp1 HPN ⊢
      have HER : Hid (er2 = by'.1) := her2
      clear her2 cp z0 z1
      by_cases he2 : er2 = 0
      · have hez2 : (er2 != 0) = false := by simpa using he2
        obtain ⟨hn2, hn2l⟩ := HPN.out he2
        have HN2 : Hid (n2 = by'.2) := hn2
        have HE2 : Hid (er2 = 0) := he2
        have hdk := digitsK n2 hn2l
        clear he2 hn2
        go_wp2_with (go_at_call 10; refine (hdk _).mono ?_; rintro e w11 ⟨rfl, hb11⟩; have HB11 : Hid (Below wr.heap.size wr w11) := step_below hb11 HB6.out; clear hb11)
        go_ret
        rw [HRL.out, HWA.out, if_pos HL1.out, ← HX.out, ← HBY.out]
        unfold countL
        rw [← HER.out, if_pos HE2.out, ← HN2.out]
        exact LineAns.same (HPR.out.below HB11.out) (step_below HB11.out HBR.out) hbase
      · have hez2 : (er2 != 0) = true := by simpa using he2
        have HE2 : Hid (¬ er2 = 0) := he2
        clear he2
        go_wp2_with (go_at_call 8; refine (HSB.out _ _ er2 _ hp0 hp1 (by simp [go_sem])).mono ?_; rintro e w11 ⟨rfl, hb11⟩; have HB11 : Hid (Below wr.heap.size wr w11) := step_below hb11 (step_below ((Below.refl _ _).alloc (Nat.le_refl _) _) HB6.out); clear hb11)
        go_ret
        rw [HRL.out, HWA.out, if_pos HL1.out, ← HX.out, ← HBY.out]
        unfold countL
        rw [← HER.out, if_neg HE2.out]
        exact LineAns.same (HPR.out.below HB11.out) (step_below HB11.out HBR.out) hbase
end form
/- A line with another word (loanbookkeep: line). -/
namespace form
open Go.RowKit
set_option maxRecDepth 100000
attribute [local go_sem ↓] Go.wp_at_zero Go.wp_at_succ
attribute [local go_sem] str_size str_list ByteArray.toList_mk
set_option maxHeartbeats 1600000 in
theorem lineElse {base q : Nat} {g : PL} {wv cv iv : Value} {w : World} (L : Lay) (hL : LayIs L) (hP : PlS base q g wv cv iv w) (s : List UInt8) (hs : s.length ≤ 2000000) (hall : ∀ p, p ∈ (splitL 32 s).tail → numB p = true) (r : PL × List UInt8) (hr : r = wordL L g s ((splitL 32 s).tail.map valL)) (hns : ¬ s = sNarrow ∧ ¬ s = sWide ∧ ¬ s = sNear) (hel : ¬ (splitL 32 s).getD 0 [] = sCode ∧ ¬ (splitL 32 s).getD 0 [] = sIns ∧ ¬ (splitL 32 s).getD 0 [] = sRun ∧ ¬ (splitL 32 s).getD 0 [] = sOn ∧ ¬ (splitL 32 s).getD 0 [] = sBytes) :
    Calls Tryz.prog 5 #[.pointer (some ⟨q, 0, none⟩), .string (str s)] w fun e w' => LineAns base q r w e w' := by
  have HL : Hid (LayIs L) := hL
  obtain ⟨aW, kW, hwv, -, -⟩ := row_form hP.wide
  obtain ⟨aC, kC, hcv, -, -⟩ := row_form hP.code
  obtain ⟨aI, kI, hiv, -, -⟩ := row_form hP.ins
  subst hwv hcv hiv
  have HP : Hid (PlS base q g (.slice aW g.wide.length kW) (.slice aC g.code.length kC) (.slice aI g.ins.length kI) w) := hP
  have hbase : base ≤ w.heap.size := Nat.le_of_lt (Nat.lt_of_le_of_lt hP.lo hP.lt)
  have hqlt := hP.lt
  have hbw := hP.bw
  have hbc := hP.bc
  have hbi := hP.bi
  have HSK : Hid (∀ wx : World, Calls Tryz.prog 4 #[.string (str s), .int .u8 32] wx fun e w' => ∃ v, e = .returned v ∧ StS wx wx.heap.size (splitL 32 s) v w') := fun wx => splitK s 32 (by omega) wx
  have HW1 : Hid (1 ≤ (splitL 32 s).length) := splitL_pos 32 s
  have HWL : Hid ((splitL 32 s).length ≤ s.length + 1) := splitL_len 32 s
  have HWE : Hid (∀ p, p ∈ splitL 32 s → p.length ≤ s.length) := splitL_each 32 s
  clear hP hL
  have HNS : Hid (¬ s = sNarrow ∧ ¬ s = sWide ∧ ¬ s = sNear) := hns
  clear hns
  obtain ⟨W, hW⟩ : ∃ W, W = splitL 32 s := ⟨_, rfl⟩
  rw [← hW] at HSK HW1 HWL HWE hall hr hel
  have HR : Hid (r = wordL L g s (W.tail.map valL)) := hr
  clear hr
  have HEL : Hid (¬ W.getD 0 [] = sCode ∧ ¬ W.getD 0 [] = sIns ∧ ¬ W.getD 0 [] = sRun ∧ ¬ W.getD 0 [] = sOn ∧ ¬ W.getD 0 [] = sBytes) := hel
  clear hel
  have HW : Hid (W = splitL 32 s) := hW
  clear hW
  have hW1 := HW1.out
  have hWz : (W.length : Int) ≤ 2000001 := by have := HWL.out; omega
  go_enter Tryz.func5, Tryz.ntmps5
  go_upto_region 2 with (go_at_call 4; refine (HSK.out _).mono ?_; rintro e w1 ⟨v, rfl, hst⟩; have HST : Hid (StS w w.heap.size W v w1) := hst; clear hst)
  obtain ⟨bw, capw, hv, hbwge, hbwlt⟩ := HST.out.own.form hW1
  subst hv
  have HWC : Hid (∀ j, j < W.length → w1.cell? ⟨bw, j, none⟩ = some (.string (str (W.getD j [])))) := fun j hj => by
    rw [World.ownsRow.cellAt HST.out.own j (by omega)]
    simp [List.getD, hj]
  have HP1 : Hid (PlS base q g (.slice aW g.wide.length kW) (.slice aC g.code.length kC) (.slice aI g.ins.length kI) w1) := HP.out.below HST.out.bel
  have HB1 : Hid (Below w.heap.size w w1) := HST.out.bel
  clear HSK HST hbwge
  go_wp2
  go_loopg [6, 7, 8, 9] W.length (fun gg v6 v v8 v9 wr => ∃ (i : Nat), v = .int .i64 i ∧ 1 ≤ i ∧ i ≤ W.length ∧ gg = W.length + 1 - i ∧ NlS w1 ((W.tail.take (i - 1)).map valL) v6 wr ∧ ∀ p, p ∈ W.tail.take (i - 1) → numB p = true)
  case atStart => exact ⟨1, rfl, by omega, by omega, by omega, ⟨Below.refl _ _, World.ownsRow_nil _ _ _ _⟩, fun p hp => by simp at hp⟩
  case round =>
    obtain ⟨i, rfl, hi1, hi, hgk, hnl, hal⟩ := hrel
    have HGK : Hid (gk = W.length + 1 - i) := hgk
    obtain ⟨l, hl⟩ : ∃ l, l = (W.tail.take (i - 1)).map valL := ⟨_, rfl⟩
    rw [← hl] at hnl
    have HLI : Hid (l = (W.tail.take (i - 1)).map valL) := hl
    have hll : l.length = i - 1 := by rw [hl]; simp; omega
    have hllz : l.length ≤ 2000001 := by omega
    have HLL : Hid (l.length = i - 1) := hll
    have HNL : Hid (NlS w1 l u6 wr) := hnl
    have HAL : Hid (∀ p, p ∈ W.tail.take (i - 1) → numB p = true) := hal
    have hwz := hnl.bel.size
    clear hgk hnl hl hal hll
    by_cases hil : i < W.length
    case pos =>
      have hiz : (i : Int) < (W.length : Int) := by omega
      have d0 := step_cell HNL.out.bel (HWC.out i hil)
      have hbl := World.block_lt_of_cell? wr _ d0
      obtain ⟨p, hp⟩ : ∃ p, p = W.getD i [] := ⟨_, rfl⟩
      rw [← hp] at d0
      have HPP : Hid (p = W.getD i []) := hp
      have hpt : W.tail.take (i + 1 - 1) = W.tail.take (i - 1) ++ [p] := by rw [hp]; exact tail_take hi1 hil
      have HPT : Hid (W.tail.take (i + 1 - 1) = W.tail.take (i - 1) ++ [p]) := hpt
      have hpm : p ∈ W := by rw [hp]; simp [List.getD, hil]
      have c := numberK p (by have := HWE.out p hpm; omega) wr
      have HPM : Hid (p ∈ W.tail) := by
        have h2 : p ∈ W.tail.take (i + 1 - 1) := by rw [hpt]; simp
        exact List.mem_of_mem_take h2
      clear hp hpt hpm
      unfold NumAns at c
      have HPB : Hid (numB p = true) := hall p HPM.out
      rw [HPB.out] at c
      go_upto_if 45 with (go_at_call 7; refine c.mono ?_; rintro e w2 ⟨⟨y, rfl, hy⟩, hw2⟩; obtain rfl := hw2.symm; have HY : Hid (y = valL p) := hy (by trivial); clear hw2 hy)
      obtain ⟨x, hx⟩ : ∃ x : Nat, x = valL p := ⟨_, rfl⟩
      have hyx : y = (x : Int) := by rw [hx]; exact HY.out
      subst hyx
      have HXV : Hid (x = valL p) := hx
      clear c HY hx
      obtain ⟨t0', hi0, hy0, hy1, hy2⟩ := info_parts infU32K
      go_wp2_with (at_builtin; refine wpList_append_lies _ rfl _ _ 29 rfl w1.heap.size 34 t0' (.int .u32 0) 1 4 Tryz.underlying29 hi0 hy0 hy1 hy2 rfl (by decide) u6 l.length (l.map (fun x : Nat => Value.int .u32 x)) rfl (World.ownsRow.alloc HNL.out.own _) ⟨wr.heap.size, 0, none⟩ 1 1 [.int .u32 (x : Int)] rfl rfl ?c1 ?c2 (by decide) ?c3 ?c4 ?c5 _ rfl ?_)
      case c1 =>
        intro j u hu
        rcases j with _ | j
        · simp at hu; subst hu; simp [go_sem, Addr.add]
        · simp at hu
      case c2 => simp [Value.oneCell']
      case c3 => unfold maxLen; omega
      case c4 => omega
      case c5 => first | omega | (simp; omega)
      intro g9 cap9 w9 hown hgrow hat hlt9
      have hPu := (HNL.out.below ((Below.refl _ _).alloc (Nat.le_refl _) (.cells #[.int .u32 (x : Int)] 34))).push hown hgrow
      have HPU : Hid (NlS w1 (l ++ [x]) (.slice (some ⟨g9, 0, none⟩) (l.length + 1) cap9) w9) := hPu
      clear hPu hown hgrow hat
      go_wp2
      have hgk := HGK.out
      go_roundg (gk - 1)
      case measure => omega
      case rel =>
        refine ⟨i + 1, by go_num, by omega, by omega, by omega, ?_, ?_⟩
        · rw [HPT.out, List.map_append, ← HLI.out]
          have e : [p].map valL = [x] := by rw [HXV.out]; rfl
          rw [e]
          exact HPU.out
        · intro p2 hp2
          rw [HPT.out] at hp2
          rcases List.mem_append.1 hp2 with h | h
          · exact HAL.out p2 h
          · have : p2 = p := by simpa using h
            rw [this]; exact HPB.out
    obtain rfl : i = W.length := by omega
    have hiz : ¬ (W.length : Int) < (W.length : Int) := by omega
    have HLT : Hid (l = W.tail.map valL) := by
      show l = W.tail.map valL
      rw [HLI.out]
      congr 1
      exact List.take_of_length_le (by simp)
    have HRL : Hid (r = wordL L g s l) := by
      show r = wordL L g s l
      rw [HR.out, HLT.out]
    obtain ⟨al, cl, hu6, hlcl, hform⟩ := row_form HNL.out.own
    subst hu6
    have HPR : Hid (PlS base q g (.slice aW g.wide.length kW) (.slice aC g.code.length kC) (.slice aI g.ins.length kI) wr) := HP1.out.below HNL.out.bel
    have HBR : Hid (Below w.heap.size w wr) := step_below HNL.out.bel HB1.out
    have hbr : base ≤ wr.heap.size := Nat.le_trans hbase HBR.out.size
    have hqr := HPR.out.lt
    have e0 := step_cell HNL.out.bel (HWC.out 0 hW1)
    have hbw0 := World.block_lt_of_cell? wr _ e0
    obtain ⟨p0, hp0⟩ : ∃ p, p = W.getD 0 [] := ⟨_, rfl⟩
    rw [← hp0] at e0
    have HP0 : Hid (p0 = W.getD 0 []) := hp0
    have q0 := HPR.out.c0
    have q1 := HPR.out.c1
    have q2 := HPR.out.c2
    clear hp0 HGK
    have hc1 : (s == [110, 97, 114, 114, 111, 119]) = false := by rw [lit_eq]; exact decide_eq_false HNS.out.1
    have hc2 : (s == [119, 105, 100, 101]) = false := by rw [lit_eq]; exact decide_eq_false HNS.out.2.1
    have hc3 : (s == [110, 101, 97, 114]) = false := by rw [lit_eq]; exact decide_eq_false HNS.out.2.2
    have HE2 : Hid (¬ p0 = sCode ∧ ¬ p0 = sIns ∧ ¬ p0 = sRun ∧ ¬ p0 = sOn ∧ ¬ p0 = sBytes) := by
      show ¬ p0 = sCode ∧ _
      rw [HP0.out]
      exact HEL.out
    have hw0 : (p0 == [99, 111, 100, 101]) = false := by rw [lit_eq]; exact decide_eq_false HE2.out.1
    have hw1 : (p0 == [105, 110, 115]) = false := by rw [lit_eq]; exact decide_eq_false HE2.out.2.1
    have hw2 : (p0 == [114, 117, 110]) = false := by rw [lit_eq]; exact decide_eq_false HE2.out.2.2.1
    have hw3 : (p0 == [111, 110]) = false := by rw [lit_eq]; exact decide_eq_false HE2.out.2.2.2.1
    have hw4 : (p0 == [98, 121, 116, 101, 115]) = false := by rw [lit_eq]; exact decide_eq_false HE2.out.2.2.2.2
    have HWA : Hid (wordL L g s l = (g, sNo)) := by
      show wordL L g s l = _
      unfold wordL
      rw [if_neg (fun h => by rcases h with h | h; exact HNS.out.1 h; exact HNS.out.2.1 h), if_neg HNS.out.2.2]
      dsimp only
      rw [← HW.out, ← HP0.out, if_neg HE2.out.1, if_neg HE2.out.2.1, if_neg HE2.out.2.2.1, if_neg HE2.out.2.2.2.1, if_neg HE2.out.2.2.2.2]
    go_wp2
    go_ret
    rw [HRL.out, HWA.out]
    exact LineAns.same HPR.out HBR.out hbase
end form
/- Whatever the line (loanbookkeep: line). -/
namespace form
open Go.RowKit
theorem lineK {base q : Nat} {g : PL} {wv cv iv : Value} {w : World} (L : Lay) (hL : LayIs L) (hP : PlS base q g wv cv iv w) (s : List UInt8) (hs : s.length ≤ 2000000) :
    Calls Tryz.prog 5 #[.pointer (some ⟨q, 0, none⟩), .string (str s)] w fun e w' => LineAns base q (lineL L g s) w e w' := by
  by_cases hall : ∀ p, p ∈ (splitL 32 s).tail → numB p = true
  case neg =>
    have hb : ∃ p, p ∈ (splitL 32 s).tail ∧ numB p = false := Classical.byContradiction fun h => hall fun p hp => by
      cases hc : numB p with
      | true => rfl
      | false => exact absurd ⟨p, hp, hc⟩ h
    obtain ⟨p, hp, hpb⟩ := hb
    have e : lineL L g s = (g, sNo) := by
      unfold lineL
      rw [nums_bad hp hpb]
    rw [e]
    exact lineNo L hL hP s hs ⟨p, hp, hpb⟩
  have e : lineL L g s = wordL L g s ((splitL 32 s).tail.map valL) := by
    unfold lineL
    rw [nums_all hall]
  rw [e]
  by_cases h1 : s = sNarrow
  · exact lineNW L hL hP s hs hall _ rfl false (by simpa using h1)
  by_cases h2 : s = sWide
  · exact lineNW L hL hP s hs hall _ rfl true (by simpa using h2)
  by_cases h3 : s = sNear
  · exact lineNear L hL hP s hs hall _ rfl h3
  have hns : ¬ s = sNarrow ∧ ¬ s = sWide ∧ ¬ s = sNear := ⟨h1, h2, h3⟩
  by_cases k1 : (splitL 32 s).getD 0 [] = sCode
  · exact lineCode L hL hP s hs hall _ rfl hns k1
  by_cases k2 : (splitL 32 s).getD 0 [] = sIns
  · exact lineIns L hL hP s hs hall _ rfl hns k2
  by_cases k3 : (splitL 32 s).getD 0 [] = sRun
  · exact lineRun L hL hP s hs hall _ rfl hns k3
  by_cases k4 : (splitL 32 s).getD 0 [] = sOn
  · exact lineOn L hL hP s hs hall _ rfl hns k4
  by_cases k5 : (splitL 32 s).getD 0 [] = sBytes
  · exact lineBytes L hL hP s hs hall _ rfl hns k5
  exact lineElse L hL hP s hs hall _ rfl hns ⟨k1, k2, k3, k4, k5⟩
structure LayLen (L : Lay) : Prop where
  ro : ∀ B C I st, (L.run B C I st).out.length ≤ 1000000
  oo : ∀ B C s I st, (L.on B C s I st).out.length ≤ 1000000
  n1 : ∀ B C, (L.near B C).1 < 9223372036854775808
  n2 : ∀ B C, (L.near B C).2 < 9223372036854775808
  b1 : ∀ B C s, (L.bytes B C s).1 < 9223372036854775808
  b2 : ∀ B C s, (L.bytes B C s).2 < 9223372036854775808
theorem said1_len (wd : List UInt8) {x : Nat} (h : x < 18446744073709551616) : (saidL wd [x]).length ≤ wd.length + 21 := by
  have := saidL_len wd [x] (fun y hy => by have : y = x := (by simpa using hy); omega)
  simpa using this
theorem shownL_len {r : RunR} (hr : RunOk r) (ho : r.out.length ≤ 1000000) : (shownL r).length ≤ 21000041 := by
  unfold shownL
  split
  · have h1 := saidL_lenO (saidL (digitsL r.state.toNat) [r.steps.toNat]) r.out hr.o
    have h2 := said1_len (digitsL r.state.toNat) (x := r.steps.toNat) (by have := hr.k1; omega)
    have h3 := digits_small (n := r.state.toNat) (by have := hr.s1; omega)
    omega
  · have h2 := said1_len sBad (x := r.err.toNat) (by have := hr.e1; omega)
    have : sBad.length = 3 := rfl
    omega
theorem countL_len {r : Int × Nat} (h1 : r.1 < 9223372036854775808) (h2 : r.2 < 9223372036854775808) : (countL r).length ≤ 24 := by
  unfold countL
  split
  · have := digits_small (n := r.2) (by omega)
    omega
  · have h3 := said1_len sBad (x := r.1.toNat) (by omega)
    have : sBad.length = 3 := rfl
    omega
theorem line_len {L : Lay} (hL : LayIs L) (hN : LayLen L) {g : PL} (hw : g.wide.length ≤ 12) (hc : g.code.length ≤ 40) (hoc : ∀ i, i ∈ g.code → 0 ≤ i.n ∧ i.n < 4294967296) (hoi : ∀ x, x ∈ g.ins → 0 ≤ x ∧ x < 4294967296) {s : List UInt8} (hs : s.length ≤ 2000000) : (lineL L g s).2.length ≤ 21000041 := by
  have hok : ∀ n : Nat, n < 18446744073709551616 → (saidL sOk [n]).length ≤ 21000041 := fun n h => by
    have h2 := said1_len sOk h
    have : sOk.length = 2 := rfl
    omega
  have hno : sNo.length ≤ 21000041 := by decide
  unfold lineL
  cases hn : numsOf (splitL 32 s).tail with
  | none => exact hno
  | some l =>
    have hl : l.length ≤ 2000001 := by
      have h1 := splitL_len 32 s
      have h2 : ∀ (ps : List (List UInt8)) (l : List Nat), numsOf ps = some l → l.length = ps.length := by
        intro ps
        induction ps with
        | nil => intro l h; unfold numsOf at h; cases h; rfl
        | cons p ps ih =>
          intro l h
          unfold numsOf at h
          cases hp : numL p with
          | none => rw [hp] at h; simp at h
          | some x =>
            cases hq : numsOf ps with
            | none => rw [hp, hq] at h; simp at h
            | some k =>
              rw [hp, hq] at h
              simp at h
              subst h
              simp [ih k hq]
      have h3 := h2 _ l hn
      simp at h3
      omega
    show (wordL L g s l).2.length ≤ _
    unfold wordL
    split
    · split
      · exact hno
      · exact hok _ (by omega)
    split
    · have := countL_len (hN.n1 g.wide g.code) (hN.n2 g.wide g.code)
      show (countL _).length ≤ _
      omega
    dsimp only
    split
    · split
      · exact hok _ (by omega)
      · exact hno
    split
    · exact hok _ (by omega)
    split
    · split
      · exact shownL_len (hL.rok _ _ _ _ hoc hoi) (hN.ro _ _ _ _)
      · exact hno
    split
    · split
      · exact shownL_len (hL.ook _ _ _ _ _ hoc hoi) (hN.oo _ _ _ _ _)
      · exact hno
    split
    · split
      · have := countL_len (hN.b1 g.wide g.code (l.getD 0 0 : Nat)) (hN.b2 g.wide g.code (l.getD 0 0 : Nat))
        show (countL _).length ≤ _
        omega
      · exact hno
    exact hno
end form
end Go.Proofs.YtikhedkhgpjaaabGreatDoor
