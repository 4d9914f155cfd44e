/- How many are near (loanbookkeep: line). -/
import Derived.Test.YtikhedkhgpjaaabGreatDoorW07
import Derived.Test.YtikhedkhgpjaaabGreatDoorW01

namespace Go.Proofs.YtikhedkhgpjaaabGreatDoor
set_option linter.unusedVariables false
namespace form
open Go.RowKit
set_option maxRecDepth 100000
attribute [local go_sem ↓] Go.wp_at_zero Go.wp_at_succ
attribute [local go_sem] str_size str_list ByteArray.toList_mk
set_option maxHeartbeats 1600000 in
theorem lineNear {base q : Nat} {g : PL} {wv cv iv : Value} {w : World} (L : Lay) (hL : LayIs L) (hP : PlS base q g wv cv iv w) (s : List UInt8) (hs : s.length ≤ 2000000) (hall : ∀ p, p ∈ (splitL 32 s).tail → numB p = true) (r : PL × List UInt8) (hr : r = wordL L g s ((splitL 32 s).tail.map valL)) (hsn : s = sNear) :
    Calls Tryz.prog 5 #[.pointer (some ⟨q, 0, none⟩), .string (str s)] w fun e w' => LineAns base q r w e w' := by
  have HL : Hid (LayIs L) := hL
  obtain ⟨aW, kW, hwv, -, -⟩ := row_form hP.wide
  obtain ⟨aC, kC, hcv, -, -⟩ := row_form hP.code
  obtain ⟨aI, kI, hiv, -, -⟩ := row_form hP.ins
  subst hwv hcv hiv
  have HP : Hid (PlS base q g (.slice aW g.wide.length kW) (.slice aC g.code.length kC) (.slice aI g.ins.length kI) w) := hP
  have hbase : base ≤ w.heap.size := Nat.le_of_lt (Nat.lt_of_le_of_lt hP.lo hP.lt)
  have hqlt := hP.lt
  have hbw := hP.bw
  have hbc := hP.bc
  have hbi := hP.bi
  have HSK : Hid (∀ wx : World, Calls Tryz.prog 4 #[.string (str s), .int .u8 32] wx fun e w' => ∃ v, e = .returned v ∧ StS wx wx.heap.size (splitL 32 s) v w') := fun wx => splitK s 32 (by omega) wx
  have HW1 : Hid (1 ≤ (splitL 32 s).length) := splitL_pos 32 s
  have HWL : Hid ((splitL 32 s).length ≤ s.length + 1) := splitL_len 32 s
  have HWE : Hid (∀ p, p ∈ splitL 32 s → p.length ≤ s.length) := splitL_each 32 s
  clear hP hL
  have HSN : Hid (s = sNear) := hsn
  clear hsn
  obtain ⟨W, hW⟩ : ∃ W, W = splitL 32 s := ⟨_, rfl⟩
  rw [← hW] at HSK HW1 HWL HWE hall hr
  have HR : Hid (r = wordL L g s (W.tail.map valL)) := hr
  clear hr
  have HW : Hid (W = splitL 32 s) := hW
  clear hW
  have hW1 := HW1.out
  have hWz : (W.length : Int) ≤ 2000001 := by have := HWL.out; omega
  go_enter Tryz.func5, Tryz.ntmps5
  go_upto_region 2 with (go_at_call 4; refine (HSK.out _).mono ?_; rintro e w1 ⟨v, rfl, hst⟩; have HST : Hid (StS w w.heap.size W v w1) := hst; clear hst)
  obtain ⟨bw, capw, hv, hbwge, hbwlt⟩ := HST.out.own.form hW1
  subst hv
  have HWC : Hid (∀ j, j < W.length → w1.cell? ⟨bw, j, none⟩ = some (.string (str (W.getD j [])))) := fun j hj => by
    rw [World.ownsRow.cellAt HST.out.own j (by omega)]
    simp [List.getD, hj]
  have HP1 : Hid (PlS base q g (.slice aW g.wide.length kW) (.slice aC g.code.length kC) (.slice aI g.ins.length kI) w1) := HP.out.below HST.out.bel
  have HB1 : Hid (Below w.heap.size w w1) := HST.out.bel
  clear HSK HST hbwge
  go_wp2
  go_loopg [6, 7, 8, 9] W.length (fun gg v6 v v8 v9 wr => ∃ (i : Nat), v = .int .i64 i ∧ 1 ≤ i ∧ i ≤ W.length ∧ gg = W.length + 1 - i ∧ NlS w1 ((W.tail.take (i - 1)).map valL) v6 wr ∧ ∀ p, p ∈ W.tail.take (i - 1) → numB p = true)
  case atStart => exact ⟨1, rfl, by omega, by omega, by omega, ⟨Below.refl _ _, World.ownsRow_nil _ _ _ _⟩, fun p hp => by simp at hp⟩
  case round =>
    obtain ⟨i, rfl, hi1, hi, hgk, hnl, hal⟩ := hrel
    have HGK : Hid (gk = W.length + 1 - i) := hgk
    obtain ⟨l, hl⟩ : ∃ l, l = (W.tail.take (i - 1)).map valL := ⟨_, rfl⟩
    rw [← hl] at hnl
    have HLI : Hid (l = (W.tail.take (i - 1)).map valL) := hl
    have hll : l.length = i - 1 := by rw [hl]; simp; omega
    have hllz : l.length ≤ 2000001 := by omega
    have HLL : Hid (l.length = i - 1) := hll
    have HNL : Hid (NlS w1 l u6 wr) := hnl
    have HAL : Hid (∀ p, p ∈ W.tail.take (i - 1) → numB p = true) := hal
    have hwz := hnl.bel.size
    clear hgk hnl hl hal hll
    by_cases hil : i < W.length
    case pos =>
      have hiz : (i : Int) < (W.length : Int) := by omega
      have d0 := step_cell HNL.out.bel (HWC.out i hil)
      have hbl := World.block_lt_of_cell? wr _ d0
      obtain ⟨p, hp⟩ : ∃ p, p = W.getD i [] := ⟨_, rfl⟩
      rw [← hp] at d0
      have HPP : Hid (p = W.getD i []) := hp
      have hpt : W.tail.take (i + 1 - 1) = W.tail.take (i - 1) ++ [p] := by rw [hp]; exact tail_take hi1 hil
      have HPT : Hid (W.tail.take (i + 1 - 1) = W.tail.take (i - 1) ++ [p]) := hpt
      have hpm : p ∈ W := by rw [hp]; simp [List.getD, hil]
      have c := numberK p (by have := HWE.out p hpm; omega) wr
      have HPM : Hid (p ∈ W.tail) := by
        have h2 : p ∈ W.tail.take (i + 1 - 1) := by rw [hpt]; simp
        exact List.mem_of_mem_take h2
      clear hp hpt hpm
      unfold NumAns at c
      have HPB : Hid (numB p = true) := hall p HPM.out
      rw [HPB.out] at c
      go_upto_if 45 with (go_at_call 7; refine c.mono ?_; rintro e w2 ⟨⟨y, rfl, hy⟩, hw2⟩; obtain rfl := hw2.symm; have HY : Hid (y = valL p) := hy (by trivial); clear hw2 hy)
      obtain ⟨x, hx⟩ : ∃ x : Nat, x = valL p := ⟨_, rfl⟩
      have hyx : y = (x : Int) := by rw [hx]; exact HY.out
      subst hyx
      have HXV : Hid (x = valL p) := hx
      clear c HY hx
      obtain ⟨t0', hi0, hy0, hy1, hy2⟩ := info_parts infU32K
      go_wp2_with (at_builtin; refine wpList_append_lies _ rfl _ _ 29 rfl w1.heap.size 34 t0' (.int .u32 0) 1 4 Tryz.underlying29 hi0 hy0 hy1 hy2 rfl (by decide) u6 l.length (l.map (fun x : Nat => Value.int .u32 x)) rfl (World.ownsRow.alloc HNL.out.own _) ⟨wr.heap.size, 0, none⟩ 1 1 [.int .u32 (x : Int)] rfl rfl ?c1 ?c2 (by decide) ?c3 ?c4 ?c5 _ rfl ?_)
      case c1 =>
        intro j u hu
        rcases j with _ | j
        · simp at hu; subst hu; simp [go_sem, Addr.add]
        · simp at hu
      case c2 => simp [Value.oneCell']
      case c3 => unfold maxLen; omega
      case c4 => omega
      case c5 => first | omega | (simp; omega)
      intro g9 cap9 w9 hown hgrow hat hlt9
      have hPu := (HNL.out.below ((Below.refl _ _).alloc (Nat.le_refl _) (.cells #[.int .u32 (x : Int)] 34))).push hown hgrow
      have HPU : Hid (NlS w1 (l ++ [x]) (.slice (some ⟨g9, 0, none⟩) (l.length + 1) cap9) w9) := hPu
      clear hPu hown hgrow hat
      go_wp2
      have hgk := HGK.out
      go_roundg (gk - 1)
      case measure => omega
      case rel =>
        refine ⟨i + 1, by go_num, by omega, by omega, by omega, ?_, ?_⟩
        · rw [HPT.out, List.map_append, ← HLI.out]
          have e : [p].map valL = [x] := by rw [HXV.out]; rfl
          rw [e]
          exact HPU.out
        · intro p2 hp2
          rw [HPT.out] at hp2
          rcases List.mem_append.1 hp2 with h | h
          · exact HAL.out p2 h
          · have : p2 = p := by simpa using h
            rw [this]; exact HPB.out
    obtain rfl : i = W.length := by omega
    have hiz : ¬ (W.length : Int) < (W.length : Int) := by omega
    have HLT : Hid (l = W.tail.map valL) := by
      show l = W.tail.map valL
      rw [HLI.out]
      congr 1
      exact List.take_of_length_le (by simp)
    have HRL : Hid (r = wordL L g s l) := by
      show r = wordL L g s l
      rw [HR.out, HLT.out]
    obtain ⟨al, cl, hu6, hlcl, hform⟩ := row_form HNL.out.own
    subst hu6
    have HPR : Hid (PlS base q g (.slice aW g.wide.length kW) (.slice aC g.code.length kC) (.slice aI g.ins.length kI) wr) := HP1.out.below HNL.out.bel
    have HBR : Hid (Below w.heap.size w wr) := step_below HNL.out.bel HB1.out
    have hbr : base ≤ wr.heap.size := Nat.le_trans hbase HBR.out.size
    have hqr := HPR.out.lt
    have e0 := step_cell HNL.out.bel (HWC.out 0 hW1)
    have hbw0 := World.block_lt_of_cell? wr _ e0
    obtain ⟨p0, hp0⟩ : ∃ p, p = W.getD 0 [] := ⟨_, rfl⟩
    rw [← hp0] at e0
    have HP0 : Hid (p0 = W.getD 0 []) := hp0
    have q0 := HPR.out.c0
    have q1 := HPR.out.c1
    have q2 := HPR.out.c2
    clear hp0 HGK
    have hc1 : (s == [110, 97, 114, 114, 111, 119]) = false := by rw [HSN.out]; rfl
    have hc2 : (s == [119, 105, 100, 101]) = false := by rw [HSN.out]; rfl
    have hc3 : (s == [110, 101, 97, 114]) = true := by rw [HSN.out]; rfl
    have HWA : Hid (wordL L g s l = (g, countL (L.near g.wide g.code))) := by
      show wordL L g s l = _
      unfold wordL
      rw [HSN.out]
      rfl
    have HSB : Hid (∀ (b cap : Nat) (x : Int) (wx : World), 0 ≤ x → x < 9223372036854775808 → wx.cell? ⟨b, 0, none⟩ = some (.int .i64 x) → Calls Tryz.prog 8 #[.string ⟨#[98, 97, 100]⟩, .slice (some ⟨b, 0, none⟩) 1 cap] wx fun e w' => e = .returned (.string (str (saidL sBad [x.toNat]))) ∧ Below wx.heap.size wx w') := fun b cap x wx h0 h1 h => said_one sBad x (by decide) h0 h1 b cap wx h
    have c := HL.out.near (.agg #[.slice aW g.wide.length kW, .slice aC g.code.length kC]) g.wide g.code wr HPR.out.prog hbw
    obtain ⟨nr, hnr⟩ : ∃ x, x = L.near g.wide g.code := ⟨_, rfl⟩
    rw [← hnr] at c
    have HNRE : Hid (nr = L.near g.wide g.code) := hnr
    clear hnr e0
    go_upto_region 18 with (go_at_call 9; refine c.mono ?_; rintro e w4 ⟨hans, hb4⟩; have HB4 : Hid (Below wr.heap.size wr w4) := hb4; clear hb4; rcases hans with ⟨hne, h0, h1, ao, co, rfl⟩ | ⟨hz, X, b, capx, RR, rfl, hcnt, hcell⟩)
    · have HNE : Hid (¬ nr.1 = 0) := hne
      have hnez : (nr.1 != 0) = true := by simpa using hne
      obtain ⟨er, her⟩ : ∃ x, x = nr.1 := ⟨_, rfl⟩
      have HER : Hid (er = nr.1) := her
      rw [← her] at hnez h0 h1 ⊢
      clear c hne her q0 q1 q2
      go_wp2_with (go_at_call 8; refine (HSB.out _ _ er _ h0 h1 (by simp [go_sem])).mono ?_; rintro e w5 ⟨rfl, hb5⟩; have HB5 : Hid (Below wr.heap.size wr w5) := step_below hb5 (step_below ((Below.refl _ _).alloc (Nat.le_refl _) _) HB4.out); clear hb5)
      go_ret
      rw [HRL.out, HWA.out, ← HNRE.out]
      unfold countL
      rw [if_neg HNE.out, ← HER.out]
      exact LineAns.same (HPR.out.below HB5.out) (step_below HB5.out HBR.out) hbase
    · have HZ : Hid (nr.1 = 0) := hz
      have HCN : Hid (nr.2 = pairCount X g.wide.length) := hcnt
      have HCE : Hid (∀ a, a < g.wide.length → w4.cell? ⟨b, a, none⟩ = some (.slice (some ⟨(RR a).1, 0, none⟩) g.wide.length (RR a).2) ∧ ∀ c, c < g.wide.length → w4.cell? ⟨(RR a).1, c, none⟩ = some (.bool (X a c))) := hcell
      have hbwz : (g.wide.length : Int) ≤ 12 := by omega
      clear c hz hcnt hcell q0 q1 q2
      go_wp2
      obtain ⟨wo, hwo⟩ : ∃ x, x = wr := ⟨_, rfl⟩
      obtain ⟨gX, hgX⟩ : ∃ x, x = gk := ⟨_, rfl⟩
      subst hwo hgX
      go_loopg [13, 14, 15] (g.wide.length + 1) (fun gg v13 v v15 wq => ∃ (a m : Nat), v = .int .i64 a ∧ v13 = .int .i64 m ∧ a ≤ g.wide.length ∧ gg = g.wide.length + 1 - a ∧ m = pairCount X a ∧ wq = w4)
      case atStart => exact ⟨0, 0, rfl, rfl, by omega, by omega, rfl, rfl⟩
      case round =>
        obtain ⟨a, m, rfl, rfl, ha, hgk, hm, hwq⟩ := hrel
        obtain rfl := hwq.symm
        have HGA : Hid (gk = g.wide.length + 1 - a) := hgk
        have HM : Hid (m = pairCount X a) := hm
        have hml : m ≤ 144 := by
          have h2 := pairCount_le X g.wide.length a ha
          have h3 : a * g.wide.length ≤ 12 * 12 := Nat.mul_le_mul (by omega) hbw
          omega
        clear hgk hm hwq
        by_cases hal : a < g.wide.length
        case neg =>
          obtain rfl : a = g.wide.length := by omega
          have haz : ¬ (g.wide.length : Int) < (g.wide.length : Int) := by omega
          have hdk := digitsK m (by omega)
          go_wp2_with (go_at_call 10; refine (hdk _).mono ?_; rintro e w5 ⟨rfl, hb5⟩; have HB5 : Hid (Below wo.heap.size wo w5) := step_below hb5 HB4.out; clear hb5)
          go_ret
          rw [HRL.out, HWA.out, ← HNRE.out]
          unfold countL
          rw [if_pos HZ.out, HCN.out, ← HM.out]
          exact LineAns.same (HPR.out.below HB5.out) (step_below HB5.out HBR.out) hbase
        have haz : (a : Int) < (g.wide.length : Int) := by omega
        go_wp2
        obtain ⟨gA, hgA⟩ : ∃ x, x = gk := ⟨_, rfl⟩
        subst hgA
        go_loopg [13, 15] (a + 1) (fun gg v13 v wq => ∃ (y k : Nat), v = .int .i64 y ∧ v13 = .int .i64 k ∧ y ≤ a ∧ gg = a + 1 - y ∧ k = m + rowCount X a y ∧ wq = w4)
        case atStart => exact ⟨0, m, rfl, rfl, by omega, by omega, rfl, rfl⟩
        case round =>
          obtain ⟨y, k, rfl, rfl, hy, hgk, hk, hwq⟩ := hrel
          have HGY : Hid (gk = a + 1 - y) := hgk
          have HK : Hid (k = m + rowCount X a y) := hk
          have hkl : k ≤ 200 := by have := rowCount_le X a y; omega
          have hwq2 := hwq.symm
          subst hwq2
          clear hgk hk hwq
          by_cases hya : y < a
          case neg =>
            obtain rfl : y = a := by omega
            have hyz : ¬ (y : Int) < (y : Int) := by omega
            go_wp2
            have hgk := HGA.out
            go_roundg (gA - 1)
            case measure => omega
            case rel =>
              refine ⟨y + 1, k, by go_num, rfl, by omega, by omega, ?_, rfl⟩
              rw [HK.out, HM.out, pairCount_step]
          have hyz : (y : Int) < (a : Int) := by omega
          have hyn : (y : Int) < (g.wide.length : Int) := by omega
          obtain ⟨d1, d2⟩ := HCE.out a hal
          have d3 := d2 y (by omega)
          have hb1 := World.block_lt_of_cell? _ _ d1
          have hb2 := World.block_lt_of_cell? _ _ d3
          obtain ⟨z, hz⟩ : ∃ z, z = X a y := ⟨_, rfl⟩
          rw [← hz] at d3
          have HZY : Hid (z = X a y) := hz
          clear d2 hz
          rcases Bool.eq_false_or_eq_true z with hz | hz
          · subst hz
            go_wp2
            have hgk := HGY.out
            go_roundg (gk - 1)
            case measure => omega
            case rel =>
              refine ⟨y + 1, k + 1, by go_num, by go_num, by omega, by omega, ?_, rfl⟩
              rw [rowCount_step, if_pos HZY.out.symm, HK.out]
              omega
          · subst hz
            go_wp2
            have hgk := HGY.out
            go_roundg (gk - 1)
            case measure => omega
            case rel =>
              refine ⟨y + 1, k, by go_num, rfl, by omega, by omega, ?_, rfl⟩
              rw [rowCount_step, ← HZY.out, if_neg (by simp), HK.out]
              omega
end form
/- An instruction more (loanbookkeep: line). -/
namespace form
open Go.RowKit
set_option maxRecDepth 100000
attribute [local go_sem ↓] Go.wp_at_zero Go.wp_at_succ
attribute [local go_sem] str_size str_list ByteArray.toList_mk
theorem infInsK : (Tryz.prog.info? 44).map (fun i => (i.zero, i.size, i.bytes)) = some (some (.agg #[.int .i64 0, .int .i64 0, .int .i64 0, .int .i64 0, .int .i64 0, .int .u32 0]), 6, 48) := by kernel_rfl
set_option maxHeartbeats 1600000 in
theorem lineCode {base q : Nat} {g : PL} {wv cv iv : Value} {w : World} (L : Lay) (hL : LayIs L) (hP : PlS base q g wv cv iv w) (s : List UInt8) (hs : s.length ≤ 2000000) (hall : ∀ p, p ∈ (splitL 32 s).tail → numB p = true) (r : PL × List UInt8) (hr : r = wordL L g s ((splitL 32 s).tail.map valL)) (hns : ¬ s = sNarrow ∧ ¬ s = sWide ∧ ¬ s = sNear) (hwd : (splitL 32 s).getD 0 [] = sCode) :
    Calls Tryz.prog 5 #[.pointer (some ⟨q, 0, none⟩), .string (str s)] w fun e w' => LineAns base q r w e w' := by
  have HL : Hid (LayIs L) := hL
  obtain ⟨aW, kW, hwv, -, -⟩ := row_form hP.wide
  obtain ⟨aC, kC, hcv, -, -⟩ := row_form hP.code
  obtain ⟨aI, kI, hiv, -, -⟩ := row_form hP.ins
  subst hwv hcv hiv
  have HP : Hid (PlS base q g (.slice aW g.wide.length kW) (.slice aC g.code.length kC) (.slice aI g.ins.length kI) w) := hP
  have hbase : base ≤ w.heap.size := Nat.le_of_lt (Nat.lt_of_le_of_lt hP.lo hP.lt)
  have hqlt := hP.lt
  have hbw := hP.bw
  have hbc := hP.bc
  have hbi := hP.bi
  have HSK : Hid (∀ wx : World, Calls Tryz.prog 4 #[.string (str s), .int .u8 32] wx fun e w' => ∃ v, e = .returned v ∧ StS wx wx.heap.size (splitL 32 s) v w') := fun wx => splitK s 32 (by omega) wx
  have HW1 : Hid (1 ≤ (splitL 32 s).length) := splitL_pos 32 s
  have HWL : Hid ((splitL 32 s).length ≤ s.length + 1) := splitL_len 32 s
  have HWE : Hid (∀ p, p ∈ splitL 32 s → p.length ≤ s.length) := splitL_each 32 s
  clear hP hL
  have HNS : Hid (¬ s = sNarrow ∧ ¬ s = sWide ∧ ¬ s = sNear) := hns
  clear hns
  obtain ⟨W, hW⟩ : ∃ W, W = splitL 32 s := ⟨_, rfl⟩
  rw [← hW] at HSK HW1 HWL HWE hall hr hwd
  have HR : Hid (r = wordL L g s (W.tail.map valL)) := hr
  clear hr
  have HWD : Hid (W.getD 0 [] = sCode) := hwd
  clear hwd
  have HW : Hid (W = splitL 32 s) := hW
  clear hW
  have hW1 := HW1.out
  have hWz : (W.length : Int) ≤ 2000001 := by have := HWL.out; omega
  go_enter Tryz.func5, Tryz.ntmps5
  go_upto_region 2 with (go_at_call 4; refine (HSK.out _).mono ?_; rintro e w1 ⟨v, rfl, hst⟩; have HST : Hid (StS w w.heap.size W v w1) := hst; clear hst)
  obtain ⟨bw, capw, hv, hbwge, hbwlt⟩ := HST.out.own.form hW1
  subst hv
  have HWC : Hid (∀ j, j < W.length → w1.cell? ⟨bw, j, none⟩ = some (.string (str (W.getD j [])))) := fun j hj => by
    rw [World.ownsRow.cellAt HST.out.own j (by omega)]
    simp [List.getD, hj]
  have HP1 : Hid (PlS base q g (.slice aW g.wide.length kW) (.slice aC g.code.length kC) (.slice aI g.ins.length kI) w1) := HP.out.below HST.out.bel
  have HB1 : Hid (Below w.heap.size w w1) := HST.out.bel
  clear HSK HST hbwge
  go_wp2
  go_loopg [6, 7, 8, 9] W.length (fun gg v6 v v8 v9 wr => ∃ (i : Nat), v = .int .i64 i ∧ 1 ≤ i ∧ i ≤ W.length ∧ gg = W.length + 1 - i ∧ NlS w1 ((W.tail.take (i - 1)).map valL) v6 wr ∧ ∀ p, p ∈ W.tail.take (i - 1) → numB p = true)
  case atStart => exact ⟨1, rfl, by omega, by omega, by omega, ⟨Below.refl _ _, World.ownsRow_nil _ _ _ _⟩, fun p hp => by simp at hp⟩
  case round =>
    obtain ⟨i, rfl, hi1, hi, hgk, hnl, hal⟩ := hrel
    have HGK : Hid (gk = W.length + 1 - i) := hgk
    obtain ⟨l, hl⟩ : ∃ l, l = (W.tail.take (i - 1)).map valL := ⟨_, rfl⟩
    rw [← hl] at hnl
    have HLI : Hid (l = (W.tail.take (i - 1)).map valL) := hl
    have hll : l.length = i - 1 := by rw [hl]; simp; omega
    have hllz : l.length ≤ 2000001 := by omega
    have HLL : Hid (l.length = i - 1) := hll
    have HNL : Hid (NlS w1 l u6 wr) := hnl
    have HAL : Hid (∀ p, p ∈ W.tail.take (i - 1) → numB p = true) := hal
    have hwz := hnl.bel.size
    clear hgk hnl hl hal hll
    by_cases hil : i < W.length
    case pos =>
      have hiz : (i : Int) < (W.length : Int) := by omega
      have d0 := step_cell HNL.out.bel (HWC.out i hil)
      have hbl := World.block_lt_of_cell? wr _ d0
      obtain ⟨p, hp⟩ : ∃ p, p = W.getD i [] := ⟨_, rfl⟩
      rw [← hp] at d0
      have HPP : Hid (p = W.getD i []) := hp
      have hpt : W.tail.take (i + 1 - 1) = W.tail.take (i - 1) ++ [p] := by rw [hp]; exact tail_take hi1 hil
      have HPT : Hid (W.tail.take (i + 1 - 1) = W.tail.take (i - 1) ++ [p]) := hpt
      have hpm : p ∈ W := by rw [hp]; simp [List.getD, hil]
      have c := numberK p (by have := HWE.out p hpm; omega) wr
      have HPM : Hid (p ∈ W.tail) := by
        have h2 : p ∈ W.tail.take (i + 1 - 1) := by rw [hpt]; simp
        exact List.mem_of_mem_take h2
      clear hp hpt hpm
      unfold NumAns at c
      have HPB : Hid (numB p = true) := hall p HPM.out
      rw [HPB.out] at c
      go_upto_if 45 with (go_at_call 7; refine c.mono ?_; rintro e w2 ⟨⟨y, rfl, hy⟩, hw2⟩; obtain rfl := hw2.symm; have HY : Hid (y = valL p) := hy (by trivial); clear hw2 hy)
      obtain ⟨x, hx⟩ : ∃ x : Nat, x = valL p := ⟨_, rfl⟩
      have hyx : y = (x : Int) := by rw [hx]; exact HY.out
      subst hyx
      have HXV : Hid (x = valL p) := hx
      clear c HY hx
      obtain ⟨t0', hi0, hy0, hy1, hy2⟩ := info_parts infU32K
      go_wp2_with (at_builtin; refine wpList_append_lies _ rfl _ _ 29 rfl w1.heap.size 34 t0' (.int .u32 0) 1 4 Tryz.underlying29 hi0 hy0 hy1 hy2 rfl (by decide) u6 l.length (l.map (fun x : Nat => Value.int .u32 x)) rfl (World.ownsRow.alloc HNL.out.own _) ⟨wr.heap.size, 0, none⟩ 1 1 [.int .u32 (x : Int)] rfl rfl ?c1 ?c2 (by decide) ?c3 ?c4 ?c5 _ rfl ?_)
      case c1 =>
        intro j u hu
        rcases j with _ | j
        · simp at hu; subst hu; simp [go_sem, Addr.add]
        · simp at hu
      case c2 => simp [Value.oneCell']
      case c3 => unfold maxLen; omega
      case c4 => omega
      case c5 => first | omega | (simp; omega)
      intro g9 cap9 w9 hown hgrow hat hlt9
      have hPu := (HNL.out.below ((Below.refl _ _).alloc (Nat.le_refl _) (.cells #[.int .u32 (x : Int)] 34))).push hown hgrow
      have HPU : Hid (NlS w1 (l ++ [x]) (.slice (some ⟨g9, 0, none⟩) (l.length + 1) cap9) w9) := hPu
      clear hPu hown hgrow hat
      go_wp2
      have hgk := HGK.out
      go_roundg (gk - 1)
      case measure => omega
      case rel =>
        refine ⟨i + 1, by go_num, by omega, by omega, by omega, ?_, ?_⟩
        · rw [HPT.out, List.map_append, ← HLI.out]
          have e : [p].map valL = [x] := by rw [HXV.out]; rfl
          rw [e]
          exact HPU.out
        · intro p2 hp2
          rw [HPT.out] at hp2
          rcases List.mem_append.1 hp2 with h | h
          · exact HAL.out p2 h
          · have : p2 = p := by simpa using h
            rw [this]; exact HPB.out
    obtain rfl : i = W.length := by omega
    have hiz : ¬ (W.length : Int) < (W.length : Int) := by omega
    have HLT : Hid (l = W.tail.map valL) := by
      show l = W.tail.map valL
      rw [HLI.out]
      congr 1
      exact List.take_of_length_le (by simp)
    have HRL : Hid (r = wordL L g s l) := by
      show r = wordL L g s l
      rw [HR.out, HLT.out]
    obtain ⟨al, cl, hu6, hlcl, hform⟩ := row_form HNL.out.own
    subst hu6
    have HPR : Hid (PlS base q g (.slice aW g.wide.length kW) (.slice aC g.code.length kC) (.slice aI g.ins.length kI) wr) := HP1.out.below HNL.out.bel
    have HBR : Hid (Below w.heap.size w wr) := step_below HNL.out.bel HB1.out
    have hbr : base ≤ wr.heap.size := Nat.le_trans hbase HBR.out.size
    have hqr := HPR.out.lt
    have e0 := step_cell HNL.out.bel (HWC.out 0 hW1)
    have hbw0 := World.block_lt_of_cell? wr _ e0
    obtain ⟨p0, hp0⟩ : ∃ p, p = W.getD 0 [] := ⟨_, rfl⟩
    rw [← hp0] at e0
    have HP0 : Hid (p0 = W.getD 0 []) := hp0
    have q0 := HPR.out.c0
    have q1 := HPR.out.c1
    have q2 := HPR.out.c2
    clear hp0 HGK
    have hc1 : (s == [110, 97, 114, 114, 111, 119]) = false := by rw [lit_eq]; exact decide_eq_false HNS.out.1
    have hc2 : (s == [119, 105, 100, 101]) = false := by rw [lit_eq]; exact decide_eq_false HNS.out.2.1
    have hc3 : (s == [110, 101, 97, 114]) = false := by rw [lit_eq]; exact decide_eq_false HNS.out.2.2
    have HPW : Hid (p0 = sCode) := by
      show p0 = _
      rw [HP0.out]
      exact HWD.out
    have hw0 : (p0 == [99, 111, 100, 101]) = true := by rw [HPW.out]; rfl
    have HWA : Hid (wordL L g s l = if l.length = 6 ∧ g.code.length < 40 then (⟨g.wide, g.code ++ [⟨(l.getD 0 0 : Nat), (l.getD 1 0 : Nat), (l.getD 2 0 : Nat), (l.getD 3 0 : Nat), (l.getD 4 0 : Nat), (l.getD 5 0 : Nat)⟩], g.ins⟩, saidL sOk [g.code.length + 1]) else (g, sNo)) := by
      show wordL L g s l = _
      unfold wordL
      rw [if_neg (fun h => by rcases h with h | h; exact HNS.out.1 h; exact HNS.out.2.1 h), if_neg HNS.out.2.2]
      dsimp only
      rw [← HW.out, ← HP0.out, HPW.out]
      rfl
    by_cases hl1 : l.length = 6
    case neg =>
      have hl1z : ((l.length : Int) == 6) = false := by simp; omega
      have HL1 : Hid (¬ l.length = 6) := hl1
      clear hl1
      go_wp2
      go_ret
      rw [HRL.out, HWA.out, if_neg (fun h => HL1.out h.1)]
      exact LineAns.same HPR.out HBR.out hbase
    have hl1z : ((l.length : Int) == 6) = true := by simp; omega
    have HL1 : Hid (l.length = 6) := hl1
    by_cases hc4 : g.code.length < 40
    case neg =>
      have hc4z : ¬ (g.code.length : Int) < 40 := by omega
      have HC4 : Hid (¬ g.code.length < 40) := hc4
      clear hc4 hl1
      go_wp2
      go_ret
      rw [HRL.out, HWA.out, if_neg (fun h => HC4.out h.2)]
      exact LineAns.same HPR.out HBR.out hbase
    have hc4z : (g.code.length : Int) < 40 := by omega
    have HC4 : Hid (g.code.length < 40) := hc4
    obtain ⟨bl, hal2, hblge, hbllt⟩ := hform (by omega)
    subst hal2
    have HXA : Hid (∀ k, k < l.length → wr.cell? ⟨bl, k, none⟩ = some (.int .u32 ((l.getD k 0 : Nat) : Int)) ∧ l.getD k 0 < 4294967296) := fun k hk => by
      refine ⟨?_, ?_⟩
      · rw [World.ownsRow.cellAt HNL.out.own k (by omega)]
        simp [List.getD, hk]
      · exact l_small hall HLT.out _ (by simp [List.getD, hk])
    obtain ⟨y0, hy0⟩ : ∃ x : Nat, x = l.getD 0 0 := ⟨_, rfl⟩
    obtain ⟨x0, hyl0⟩ := HXA.out 0 (by omega)
    rw [← hy0] at x0 hyl0
    have HY0 : Hid (y0 = l.getD 0 0) := hy0
    have hyz0 : (y0 : Int) < 4294967296 := by omega
    have hyw0 : IntKind.i64.wrap (y0 : Int) = (y0 : Int) := wrapK (by omega) (by omega)
    clear hy0
    obtain ⟨y1, hy1⟩ : ∃ x : Nat, x = l.getD 1 0 := ⟨_, rfl⟩
    obtain ⟨x1, hyl1⟩ := HXA.out 1 (by omega)
    rw [← hy1] at x1 hyl1
    have HY1 : Hid (y1 = l.getD 1 0) := hy1
    have hyz1 : (y1 : Int) < 4294967296 := by omega
    have hyw1 : IntKind.i64.wrap (y1 : Int) = (y1 : Int) := wrapK (by omega) (by omega)
    clear hy1
    obtain ⟨y2, hy2⟩ : ∃ x : Nat, x = l.getD 2 0 := ⟨_, rfl⟩
    obtain ⟨x2, hyl2⟩ := HXA.out 2 (by omega)
    rw [← hy2] at x2 hyl2
    have HY2 : Hid (y2 = l.getD 2 0) := hy2
    have hyz2 : (y2 : Int) < 4294967296 := by omega
    have hyw2 : IntKind.i64.wrap (y2 : Int) = (y2 : Int) := wrapK (by omega) (by omega)
    clear hy2
    obtain ⟨y3, hy3⟩ : ∃ x : Nat, x = l.getD 3 0 := ⟨_, rfl⟩
    obtain ⟨x3, hyl3⟩ := HXA.out 3 (by omega)
    rw [← hy3] at x3 hyl3
    have HY3 : Hid (y3 = l.getD 3 0) := hy3
    have hyz3 : (y3 : Int) < 4294967296 := by omega
    have hyw3 : IntKind.i64.wrap (y3 : Int) = (y3 : Int) := wrapK (by omega) (by omega)
    clear hy3
    obtain ⟨y4, hy4⟩ : ∃ x : Nat, x = l.getD 4 0 := ⟨_, rfl⟩
    obtain ⟨x4, hyl4⟩ := HXA.out 4 (by omega)
    rw [← hy4] at x4 hyl4
    have HY4 : Hid (y4 = l.getD 4 0) := hy4
    have hyz4 : (y4 : Int) < 4294967296 := by omega
    have hyw4 : IntKind.i64.wrap (y4 : Int) = (y4 : Int) := wrapK (by omega) (by omega)
    clear hy4
    obtain ⟨y5, hy5⟩ : ∃ x : Nat, x = l.getD 5 0 := ⟨_, rfl⟩
    obtain ⟨x5, hyl5⟩ := HXA.out 5 (by omega)
    rw [← hy5] at x5 hyl5
    have HY5 : Hid (y5 = l.getD 5 0) := hy5
    have hyz5 : (y5 : Int) < 4294967296 := by omega
    have hyw5 : IntKind.i64.wrap (y5 : Int) = (y5 : Int) := wrapK (by omega) (by omega)
    clear hy5
    have hlz0 : (0 : Int) < (l.length : Int) := by omega
    have hlz1 : (1 : Int) < (l.length : Int) := by omega
    have hlz2 : (2 : Int) < (l.length : Int) := by omega
    have hlz3 : (3 : Int) < (l.length : Int) := by omega
    have hlz4 : (4 : Int) < (l.length : Int) := by omega
    have hlz5 : (5 : Int) < (l.length : Int) := by omega
    have hl0 : 0 < l.length := by omega
    have HSO : Hid (∀ (b cap n : Nat) (wx : World), n < 9223372036854775808 → wx.cell? ⟨b, 0, none⟩ = some (.int .i64 (n : Int)) → Calls Tryz.prog 8 #[.string ⟨#[111, 107]⟩, .slice (some ⟨b, 0, none⟩) 1 cap] wx fun e w' => e = .returned (.string (str (saidL sOk [n]))) ∧ Below wx.heap.size wx w') := fun b cap n wx hn h => by
      have h2 := said_one sOk (n : Int) (by decide) (by omega) (by omega) b cap wx h
      rw [Int.toNat_natCast] at h2
      exact h2
    clear hl1 hc4
    go_upto_region 33 with fail
    refine wp_region_held_drew (S := (fun w' => Below wr.heap.size wr w')) (by rfl) ?_ (fun hHeld => ?_)
    · (exact (Below.refl _ _).drew)
    refine wpAnyH_take (i := 0) (v := ?_) rfl (by kernel_rfl) (by kernel_rfl) (by kernel_rfl) (fun _ _ _ h => h) (Or.inl ⟨by rfl, ?_⟩) (by assumption) ?_
    case refine_2 => (intro w hSw; (try dsimp only at hSw); go_simp; try with_reducible rfl)
    show wpAnyH _ _ _ _ _ _ _ (Act.put _ (some 139) _) _
    simp only [pz]
    refine wpAnyH_take (i := 1) (v := ?_) rfl (by kernel_rfl) (by kernel_rfl) (by kernel_rfl) (fun _ _ _ h => h) (Or.inl ⟨by rfl, ?_⟩) (by assumption) ?_
    case refine_2 => (intro w hSw; (try dsimp only at hSw); go_simp; try with_reducible rfl)
    show wpAnyH _ _ _ _ _ _ _ (Act.put _ (some 140) _) _
    simp only [pz]
    refine wpAnyH_take (i := 2) (v := ?_) rfl (by kernel_rfl) (by kernel_rfl) (by kernel_rfl) (fun _ _ _ h => h) (Or.inl ⟨by rfl, ?_⟩) (by assumption) ?_
    case refine_2 => (intro w5 hSw; (try dsimp only at hSw); have sx0 := step_cell hSw x0; go_simp; try with_reducible rfl)
    show wpAnyH _ _ _ _ _ _ _ (Act.put _ (some 141) _) _
    simp only [pz]
    refine wpAnyH_take (i := 3) (v := ?_) rfl (by kernel_rfl) (by kernel_rfl) (by kernel_rfl) (fun _ _ _ h => h) (Or.inl ⟨by rfl, ?_⟩) (by assumption) ?_
    case refine_2 => (intro w hSw; (try dsimp only at hSw); go_simp; try with_reducible rfl)
    show wpAnyH _ _ _ _ _ _ _ (Act.put _ (some 142) _) _
    simp only [pz]
    refine wpAnyH_take (i := 4) (v := ?_) rfl (by kernel_rfl) (by kernel_rfl) (by kernel_rfl) (fun _ _ _ h => h) (Or.inl ⟨by rfl, ?_⟩) (by assumption) ?_
    case refine_2 => (intro w hSw; (try dsimp only at hSw); go_simp; try with_reducible rfl)
    show wpAnyH _ _ _ _ _ _ _ (Act.put _ (some 143) _) _
    simp only [pz]
    refine wpAnyH_take (i := 5) (v := ?_) rfl (by kernel_rfl) (by kernel_rfl) (by kernel_rfl) (fun _ _ _ h => h) (Or.inl ⟨by rfl, ?_⟩) (by assumption) ?_
    case refine_2 => (intro w hSw; (try dsimp only at hSw); go_simp; try with_reducible rfl)
    show wpAnyH _ _ _ _ _ _ _ (Act.put _ (some 144) _) _
    simp only [pz]
    refine wpAnyH_take (i := 6) (v := ?_) rfl (by kernel_rfl) (by kernel_rfl) (by kernel_rfl) (fun _ _ _ h => h) (Or.inl ⟨by rfl, ?_⟩) (by assumption) ?_
    case refine_2 => (intro w5 hSw; (try dsimp only at hSw); have sx1 := step_cell hSw x1; go_simp; try with_reducible rfl)
    show wpAnyH _ _ _ _ _ _ _ (Act.put _ (some 145) _) _
    simp only [pz]
    refine wpAnyH_take (i := 7) (v := ?_) rfl (by kernel_rfl) (by kernel_rfl) (by kernel_rfl) (fun _ _ _ h => h) (Or.inl ⟨by rfl, ?_⟩) (by assumption) ?_
    case refine_2 => (intro w hSw; (try dsimp only at hSw); go_simp; try with_reducible rfl)
    show wpAnyH _ _ _ _ _ _ _ (Act.put _ (some 146) _) _
    simp only [pz]
    refine wpAnyH_take (i := 8) (v := ?_) rfl (by kernel_rfl) (by kernel_rfl) (by kernel_rfl) (fun _ _ _ h => h) (Or.inl ⟨by rfl, ?_⟩) (by assumption) ?_
    case refine_2 => (intro w hSw; (try dsimp only at hSw); go_simp; try with_reducible rfl)
    show wpAnyH _ _ _ _ _ _ _ (Act.put _ (some 147) _) _
    simp only [pz]
    refine wpAnyH_take (i := 9) (v := ?_) rfl (by kernel_rfl) (by kernel_rfl) (by kernel_rfl) (fun _ _ _ h => h) (Or.inl ⟨by rfl, ?_⟩) (by assumption) ?_
    case refine_2 => (intro w hSw; (try dsimp only at hSw); go_simp; try with_reducible rfl)
    show wpAnyH _ _ _ _ _ _ _ (Act.put _ (some 148) _) _
    simp only [pz]
    refine wpAnyH_take (i := 10) (v := ?_) rfl (by kernel_rfl) (by kernel_rfl) (by kernel_rfl) (fun _ _ _ h => h) (Or.inl ⟨by rfl, ?_⟩) (by assumption) ?_
    case refine_2 => (intro w5 hSw; (try dsimp only at hSw); have sx2 := step_cell hSw x2; go_simp; try with_reducible rfl)
    show wpAnyH _ _ _ _ _ _ _ (Act.put _ (some 149) _) _
    simp only [pz]
    refine wpAnyH_take (i := 11) (v := ?_) rfl (by kernel_rfl) (by kernel_rfl) (by kernel_rfl) (fun _ _ _ h => h) (Or.inl ⟨by rfl, ?_⟩) (by assumption) ?_
    case refine_2 => (intro w hSw; (try dsimp only at hSw); go_simp; try with_reducible rfl)
    show wpAnyH _ _ _ _ _ _ _ (Act.put _ (some 150) _) _
    simp only [pz]
    refine wpAnyH_take (i := 12) (v := ?_) rfl (by kernel_rfl) (by kernel_rfl) (by kernel_rfl) (fun _ _ _ h => h) (Or.inl ⟨by rfl, ?_⟩) (by assumption) ?_
    case refine_2 => (intro w hSw; (try dsimp only at hSw); go_simp; try with_reducible rfl)
    show wpAnyH _ _ _ _ _ _ _ (Act.put _ (some 151) _) _
    simp only [pz]
    refine wpAnyH_take (i := 13) (v := ?_) rfl (by kernel_rfl) (by kernel_rfl) (by kernel_rfl) (fun _ _ _ h => h) (Or.inl ⟨by rfl, ?_⟩) (by assumption) ?_
    case refine_2 => (intro w hSw; (try dsimp only at hSw); go_simp; try with_reducible rfl)
    show wpAnyH _ _ _ _ _ _ _ (Act.put _ (some 152) _) _
    simp only [pz]
    refine wpAnyH_take (i := 14) (v := ?_) rfl (by kernel_rfl) (by kernel_rfl) (by kernel_rfl) (fun _ _ _ h => h) (Or.inl ⟨by rfl, ?_⟩) (by assumption) ?_
    case refine_2 => (intro w5 hSw; (try dsimp only at hSw); have sx3 := step_cell hSw x3; go_simp; try with_reducible rfl)
    show wpAnyH _ _ _ _ _ _ _ (Act.put _ (some 153) _) _
    simp only [pz]
    refine wpAnyH_take (i := 15) (v := ?_) rfl (by kernel_rfl) (by kernel_rfl) (by kernel_rfl) (fun _ _ _ h => h) (Or.inl ⟨by rfl, ?_⟩) (by assumption) ?_
    case refine_2 => (intro w hSw; (try dsimp only at hSw); go_simp; try with_reducible rfl)
    show wpAnyH _ _ _ _ _ _ _ (Act.put _ (some 154) _) _
    simp only [pz]
    refine wpAnyH_take (i := 16) (v := ?_) rfl (by kernel_rfl) (by kernel_rfl) (by kernel_rfl) (fun _ _ _ h => h) (Or.inl ⟨by rfl, ?_⟩) (by assumption) ?_
    case refine_2 => (intro w hSw; (try dsimp only at hSw); go_simp; try with_reducible rfl)
    show wpAnyH _ _ _ _ _ _ _ (Act.put _ (some 155) _) _
    simp only [pz]
    refine wpAnyH_take (i := 17) (v := ?_) rfl (by kernel_rfl) (by kernel_rfl) (by kernel_rfl) (fun _ _ _ h => h) (Or.inl ⟨by rfl, ?_⟩) (by assumption) ?_
    case refine_2 => (intro w hSw; (try dsimp only at hSw); go_simp; try with_reducible rfl)
    show wpAnyH _ _ _ _ _ _ _ (Act.put _ (some 156) _) _
    simp only [pz]
    refine wpAnyH_take (i := 18) (v := ?_) rfl (by kernel_rfl) (by kernel_rfl) (by kernel_rfl) (fun _ _ _ h => h) (Or.inl ⟨by rfl, ?_⟩) (by assumption) ?_
    case refine_2 => (intro w5 hSw; (try dsimp only at hSw); have sx4 := step_cell hSw x4; go_simp; try with_reducible rfl)
    show wpAnyH _ _ _ _ _ _ _ (Act.put _ (some 157) _) _
    simp only [pz]
    refine wpAnyH_take (i := 19) (v := ?_) rfl (by kernel_rfl) (by kernel_rfl) (by kernel_rfl) (fun _ _ _ h => h) (Or.inl ⟨by rfl, ?_⟩) (by assumption) ?_
    case refine_2 => (intro w hSw; (try dsimp only at hSw); go_simp; try with_reducible rfl)
    show wpAnyH _ _ _ _ _ _ _ (Act.put _ (some 158) _) _
    simp only [pz]
    refine wpAnyH_take (i := 20) (v := ?_) rfl (by kernel_rfl) (by kernel_rfl) (by kernel_rfl) (fun _ _ _ h => h) (Or.inl ⟨by rfl, ?_⟩) (by assumption) ?_
    case refine_2 => (intro w hSw; (try dsimp only at hSw); go_simp; try with_reducible rfl)
    show wpAnyH _ _ _ _ _ _ _ (Act.put _ (some 159) _) _
    simp only [pz]
    refine wpAnyH_take (i := 21) (v := ?_) rfl (by kernel_rfl) (by kernel_rfl) (by kernel_rfl) (fun _ _ _ h => h) (Or.inl ⟨by rfl, ?_⟩) (by assumption) ?_
    case refine_2 => (intro w hSw; (try dsimp only at hSw); go_simp; try with_reducible rfl)
    show wpAnyH _ _ _ _ _ _ _ (Act.put _ (some 160) _) _
    simp only [pz]
    refine wpAnyH_take (i := 22) (v := ?_) rfl (by kernel_rfl) (by kernel_rfl) (by kernel_rfl) (fun _ _ _ h => h) (Or.inl ⟨by rfl, ?_⟩) (by assumption) ?_
    case refine_2 => (intro w5 hSw; (try dsimp only at hSw); have sx5 := step_cell hSw x5; go_simp; try with_reducible rfl)
    show wpAnyH _ _ _ _ _ _ _ (Act.put _ (some 161) _) _
    simp only [pz]
    refine wpAnyH_take (i := 23) (v := ?_) rfl (by kernel_rfl) (by kernel_rfl) (by kernel_rfl) (fun _ _ _ h => h) (Or.inl ⟨by rfl, ?_⟩) (by assumption) ?_
    case refine_2 => (intro w hSw; (try dsimp only at hSw); go_simp; try with_reducible rfl)
    show wpAnyH _ _ _ _ _ _ _ (Act.put _ (some 162) _) _
    simp only [pz]
    have h7 := hHeld
    refine wpAnyH_ready (rs := [24]) (by kernel_rfl) (by simp) ?_
    refine (AllReadyH.cons rfl (fun K hK => ?_) AllReadyH.nil)
    go_simp
    refine hK.out _ _ ?_ (fun hHeld => ?_)
    · (exact step_below ((Below.refl _ _).alloc (Nat.le_refl _) _) h7)
    clear hK K
    try simp only [pz]
    refine wpAnyH_ready (rs := [25]) (by kernel_rfl) (by simp) ?_
    refine (AllReadyH.cons rfl (fun K hK => ?_) AllReadyH.nil)
    go_simp
    refine hK.out _ _ ?_ (fun hHeld => ?_)
    · (exact step_below ((Below.refl _ _).alloc (Nat.le_refl _) _) h7)
    clear hK K
    try simp only [pz]
    refine wpAnyH_done (by kernel_rfl) ?_ _
    clear hHeld
    obtain ⟨wx, hwx⟩ : ∃ z, z = (wr.alloc (.cells #[.int .i64 (y0 : Int), .int .i64 (y1 : Int), .int .i64 (y2 : Int), .int .i64 (y3 : Int), .int .i64 (y4 : Int), .int .u32 (y5 : Int)] 44)).drew := ⟨_, rfl⟩
    have hbx : Below wr.heap.size wr wx := by rw [hwx]; exact ((Below.refl _ _).alloc (Nat.le_refl _) _).drew
    have v0 : wx.cell? ⟨wr.heap.size, 0, none⟩ = some (.int .i64 (y0 : Int)) := by rw [hwx]; simp [go_sem]
    have v1 : wx.cell? ⟨wr.heap.size, 1, none⟩ = some (.int .i64 (y1 : Int)) := by rw [hwx]; simp [go_sem]
    have v2 : wx.cell? ⟨wr.heap.size, 2, none⟩ = some (.int .i64 (y2 : Int)) := by rw [hwx]; simp [go_sem]
    have v3 : wx.cell? ⟨wr.heap.size, 3, none⟩ = some (.int .i64 (y3 : Int)) := by rw [hwx]; simp [go_sem]
    have v4 : wx.cell? ⟨wr.heap.size, 4, none⟩ = some (.int .i64 (y4 : Int)) := by rw [hwx]; simp [go_sem]
    have v5 : wx.cell? ⟨wr.heap.size, 5, none⟩ = some (.int .u32 (y5 : Int)) := by rw [hwx]; simp [go_sem]
    rw [← hwx]
    clear hwx
    have HBX : Hid (Below base w wx) := (step_below hbx HBR.out).mono hbase
    have HPX : Hid (PlS base q g (.slice aW g.wide.length kW) (.slice aC g.code.length kC) (.slice aI g.ins.length kI) wx) := HPR.out.below hbx
    have q1 := HPX.out.c1
    have fz := HPX.out.f1
    have hqx := HPX.out.lt
    have hnq : wr.heap.size ≠ q := by have := HPR.out.lt; omega
    have HRW : Hid (wx.ownsRow base 44 6 (.slice aC g.code.length kC) g.code.length (g.code.flatMap insCs)) := HPX.out.code
    have HNB : Hid (some wr.heap.size ≠ (Value.slice aC g.code.length kC).ownBlock) := fun e => by
      have := (World.ownsRow.lt HPR.out.code _ e.symm).2
      omega
    have hbxs : base ≤ wx.heap.size := Nat.le_trans hbr hbx.size
    have hcl40 : g.code.length < 40 := HC4.out
    obtain ⟨t0', hi0, hy0', hy1', hy2'⟩ := info_parts infInsK
    clear hbx q0 q2 e0 x0 x1 x2 x3 x4 x5
    go_upto_region 34 with fail
    go_cut [] (fun wq => ∃ g9 cap9, PlS base q ⟨g.wide, g.code ++ [⟨(y0 : Int), (y1 : Int), (y2 : Int), (y3 : Int), (y4 : Int), (y5 : Int)⟩], g.ins⟩ (.slice aW g.wide.length kW) (.slice (some ⟨g9, 0, none⟩) (g.code.length + 1) cap9) (.slice aI g.ins.length kI) wq ∧ Below base w wq)
    case first =>
      refine wp_region_held_drew (S := (fun w' => w'.cell? ⟨wr.heap.size, 0, none⟩ = some (.int .i64 (y0 : Int)) ∧ w'.cell? ⟨wr.heap.size, 1, none⟩ = some (.int .i64 (y1 : Int)) ∧ w'.cell? ⟨wr.heap.size, 2, none⟩ = some (.int .i64 (y2 : Int)) ∧ w'.cell? ⟨wr.heap.size, 3, none⟩ = some (.int .i64 (y3 : Int)) ∧ w'.cell? ⟨wr.heap.size, 4, none⟩ = some (.int .i64 (y4 : Int)) ∧ w'.cell? ⟨wr.heap.size, 5, none⟩ = some (.int .u32 (y5 : Int)))) (by rfl) ?_ (fun hHeld => ?_)
      · (exact ⟨v0, v1, v2, v3, v4, v5⟩)
      refine wpAnyH_take (i := 0) (v := ?_) rfl (by kernel_rfl) (by kernel_rfl) (by kernel_rfl) (fun _ _ _ h => h) (Or.inl ⟨by rfl, ?_⟩) (by assumption) ?_
      case refine_2 => (intro w hSw; (try dsimp only at hSw); go_simp; try with_reducible rfl)
      show wpAnyH _ _ _ _ _ _ _ (Act.put _ (some 163) _) _
      simp only [pz]
      refine wpAnyH_take (i := 1) (v := ?_) rfl (by kernel_rfl) (by kernel_rfl) (by kernel_rfl) (fun _ _ _ h => h) (Or.inl ⟨by rfl, ?_⟩) (by assumption) ?_
      case refine_2 => (intro w hSw; (try dsimp only at hSw); go_simp; try with_reducible rfl)
      show wpAnyH _ _ _ _ _ _ _ (Act.put _ (some 164) _) _
      simp only [pz]
      refine wpAnyH_take (i := 2) (v := ?_) rfl (by kernel_rfl) (by kernel_rfl) (by kernel_rfl) (fun _ _ _ h => h) (Or.inl ⟨by rfl, ?_⟩) (by assumption) ?_
      case refine_2 => (intro w hSw; (try dsimp only at hSw); go_simp; try with_reducible rfl)
      show wpAnyH _ _ _ _ _ _ _ (Act.put _ (some 165) _) _
      simp only [pz]
      refine wpAnyH_take (i := 3) (v := ?_) rfl (by kernel_rfl) (by kernel_rfl) (by kernel_rfl) (fun _ _ _ h => h) (Or.inl ⟨by rfl, ?_⟩) (by assumption) ?_
      case refine_2 => (intro w hSw; (try dsimp only at hSw); go_simp; try with_reducible rfl)
      show wpAnyH _ _ _ _ _ _ _ (Act.put _ (some 166) _) _
      simp only [pz]
      refine wpAnyH_take (i := 4) (v := ?_) rfl (by kernel_rfl) (by kernel_rfl) (by kernel_rfl) (fun _ _ _ h => h) (Or.inl ⟨by rfl, ?_⟩) (by assumption) ?_
      case refine_2 => (intro w hSw; (try dsimp only at hSw); go_simp; try with_reducible rfl)
      show wpAnyH _ _ _ _ _ _ _ (Act.put _ (some 167) _) _
      simp only [pz]
      refine wpAnyH_take (i := 6) (v := ?_) rfl (by kernel_rfl) (by kernel_rfl) (by kernel_rfl) (fun _ _ _ h => h) (Or.inl ⟨by rfl, ?_⟩) (by assumption) ?_
      case refine_2 => (intro w hSw; (try dsimp only at hSw); go_simp; try with_reducible rfl)
      show wpAnyH _ _ _ _ _ _ _ (Act.put _ (some 169) _) _
      simp only [pz]
      refine wpAnyH_ready (rs := [5, 7]) (by kernel_rfl) (by simp) ?_
      refine (AllReadyH.cons rfl (fun K hK => ?_) (AllReadyH.cons rfl (fun K hK => ?_) AllReadyH.nil))
      · skip
        go_simp
        refine hK.out _ _ ?_ (fun hHeld => ?_)
        · (exact hHeld)
        clear hK K
        try simp only [pz]
        refine wpAnyH_ready (rs := [7]) (by kernel_rfl) (by simp) ?_
        refine (AllReadyH.cons rfl (fun K hK => ?_) AllReadyH.nil)
        go_simp
        refine hK.out _ _ ?_ (fun hHeld => ?_)
        · (exact ⟨(step_cell (((Below.refl _ _).alloc (Nat.le_refl _) _).drew) v0), (step_cell (((Below.refl _ _).alloc (Nat.le_refl _) _).drew) v1), (step_cell (((Below.refl _ _).alloc (Nat.le_refl _) _).drew) v2), (step_cell (((Below.refl _ _).alloc (Nat.le_refl _) _).drew) v3), (step_cell (((Below.refl _ _).alloc (Nat.le_refl _) _).drew) v4), (step_cell (((Below.refl _ _).alloc (Nat.le_refl _) _).drew) v5)⟩)
        clear hK K
        try simp only [pz]
        refine wpAnyH_ready (rs := [8]) (by kernel_rfl) (by simp) ?_
        refine (AllReadyH.cons rfl (fun K hK => ?_) AllReadyH.nil)
        refine step_append_lies _ (by rfl) _ _ _ (by rfl) base 44 t0' (.agg #[.int .i64 0, .int .i64 0, .int .i64 0, .int .i64 0, .int .i64 0, .int .u32 0]) 6 48 Tryz.underlying26 hi0 hy0' hy1' hy2' rfl (by decide) (.slice aC g.code.length kC) g.code.length (g.code.flatMap insCs) (by rfl) ((World.ownsRow.alloc HRW.out _).drew) ⟨wx.heap.size, 0, none⟩ 1 1 [.int .i64 (y0 : Int), .int .i64 (y1 : Int), .int .i64 (y2 : Int), .int .i64 (y3 : Int), .int .i64 (y4 : Int), .int .u32 (y5 : Int)] (by rfl) (by rfl) (World.news_of_block (cs := #[.int .i64 (y0 : Int), .int .i64 (y1 : Int), .int .i64 (y2 : Int), .int .i64 (y3 : Int), .int .i64 (y4 : Int), .int .u32 (y5 : Int)]) (t := 44) (fr := (0, 0)) (heap_alloc_new wx _)) (by simp [Value.oneCell']) (by omega) (by unfold maxLen; omega) (by omega) (by simp; omega) (wx.heap.size + 1) (by simp) ?_
        intro g9 cap9 w9 hown hgrow hat hlt9
        have hal := HPX.out.below (((Below.refl _ _).alloc (Nat.le_refl _) (.cells #[.int .i64 (y0 : Int), .int .i64 (y1 : Int), .int .i64 (y2 : Int), .int .i64 (y3 : Int), .int .i64 (y4 : Int), .int .u32 (y5 : Int)] 44)).drew)
        have hset := hal.setC (i := ⟨(y0 : Int), (y1 : Int), (y2 : Int), (y3 : Int), (y4 : Int), (y5 : Int)⟩) HC4.out ⟨by simp only; omega, by simp only; omega⟩ hown hgrow (by simpa using hat)
        have HSET : Hid (PlS base q ⟨g.wide, g.code ++ [⟨(y0 : Int), (y1 : Int), (y2 : Int), (y3 : Int), (y4 : Int), (y5 : Int)⟩], g.ins⟩ (.slice aW g.wide.length kW) (.slice (some ⟨g9, 0, none⟩) (g.code.length + 1) cap9) (.slice aI g.ins.length kI) (w9.setCell ⟨q, 1, none⟩ (.slice (some ⟨g9, 0, none⟩) (g.code.length + 1) cap9))) := hset
        have d9 : w9.cell? ⟨q, 1, none⟩ = some (.slice aC g.code.length kC) := by rw [hgrow.cell_far _ (by exact hal.lt) hal.neC]; exact hal.c1
        have z9 : w9.frozen? ⟨q, 1, none⟩ = false := by rw [World.frozen?_of_block (w := (wx.alloc (.cells #[.int .i64 (y0 : Int), .int .i64 (y1 : Int), .int .i64 (y2 : Int), .int .i64 (y3 : Int), .int .i64 (y4 : Int), .int .u32 (y5 : Int)] 44)).drew) (hgrow.block q hal.lt hal.neC)]; exact hal.f1
        have HB9 : Hid (Below base w (w9.setCell ⟨q, 1, none⟩ (.slice (some ⟨g9, 0, none⟩) (g.code.length + 1) cap9))) := by
          have h1 : Below base w (wx.alloc (.cells #[.int .i64 (y0 : Int), .int .i64 (y1 : Int), .int .i64 (y2 : Int), .int .i64 (y3 : Int), .int .i64 (y4 : Int), .int .u32 (y5 : Int)] 44)).drew := HBX.out.trans ((((Below.refl _ _).alloc (Nat.le_refl _) _).drew).mono (by exact hbxs))
          have h2 : Below base w w9 := h1.grown hgrow (by have := h1.size; omega) (fun j hj => (World.ownsRow.lt hal.code j hj).1)
          exact h2.setCell hal.lo _
        have hq9 : q < w9.heap.size := Nat.lt_of_lt_of_le hal.lt hgrow.size
        have hbi9 : wr.heap.size < (wx.alloc (.cells #[.int .i64 (y0 : Int), .int .i64 (y1 : Int), .int .i64 (y2 : Int), .int .i64 (y3 : Int), .int .i64 (y4 : Int), .int .u32 (y5 : Int)] 44)).drew.heap.size := World.block_lt_of_cell? _ _ (step_cell (((Below.refl _ _).alloc (Nat.le_refl _) _).drew) v0)
        have hfar : ∀ (o : Nat) (u : Value), (wx.alloc (.cells #[.int .i64 (y0 : Int), .int .i64 (y1 : Int), .int .i64 (y2 : Int), .int .i64 (y3 : Int), .int .i64 (y4 : Int), .int .u32 (y5 : Int)] 44)).drew.cell? ⟨wr.heap.size, o, none⟩ = some u → w9.cell? ⟨wr.heap.size, o, none⟩ = some u := fun o u h => by rw [hgrow.cell_far _ (by exact hbi9) HNB.out]; exact h
        clear hset hown hat
        refine hK.out _ _ ?_ (fun hHeld => ?_)
        · (exact ⟨hfar _ _ (step_cell (((Below.refl _ _).alloc (Nat.le_refl _) _).drew) v0), hfar _ _ (step_cell (((Below.refl _ _).alloc (Nat.le_refl _) _).drew) v1), hfar _ _ (step_cell (((Below.refl _ _).alloc (Nat.le_refl _) _).drew) v2), hfar _ _ (step_cell (((Below.refl _ _).alloc (Nat.le_refl _) _).drew) v3), hfar _ _ (step_cell (((Below.refl _ _).alloc (Nat.le_refl _) _).drew) v4), hfar _ _ (step_cell (((Below.refl _ _).alloc (Nat.le_refl _) _).drew) v5)⟩)
        clear hK K
        show wpAnyH _ _ _ _ _ _ _ (Act.put _ (some 171) _) _
        simp only [pz]
        refine wpAnyH_take (i := 9) (v := ?_) rfl (by kernel_rfl) (by kernel_rfl) (by kernel_rfl) (fun _ _ _ h => h) (Or.inl ⟨by rfl, ?_⟩) (by assumption) ?_
        case refine_2 => (intro w hSw; (try dsimp only at hSw); go_simp; try with_reducible rfl)
        show wpAnyH _ _ _ _ _ _ _ (Act.put _ (some 172) _) _
        simp only [pz]
        refine wpAnyH_take (i := 10) (v := ?_) rfl (by kernel_rfl) (by kernel_rfl) (by kernel_rfl) (fun _ _ _ h => h) (Or.inl ⟨by rfl, ?_⟩) (by assumption) ?_
        case refine_2 => (intro w hSw; (try dsimp only at hSw); go_simp; try with_reducible rfl)
        show wpAnyH _ _ _ _ _ _ _ (Act.put _ (some 173) _) _
        simp only [pz]
        refine wpAnyH_take (i := 11) (v := ?_) rfl (by kernel_rfl) (by kernel_rfl) (by kernel_rfl) (fun _ _ _ h => h) (Or.inl ⟨by rfl, ?_⟩) (by assumption) ?_
        case refine_2 => (intro w hSw; (try dsimp only at hSw); go_simp; try with_reducible rfl)
        show wpAnyH _ _ _ _ _ _ _ (Act.put _ (some 174) _) _
        simp only [pz]
        refine wpAnyH_ready (rs := [12]) (by kernel_rfl) (by simp) ?_
        refine (AllReadyH.cons rfl (fun K hK => ?_) AllReadyH.nil)
        go_simp
        refine hK.out _ _ ?_ (fun hHeld => ?_)
        · (exact ⟨cell_other (hfar _ _ (step_cell (((Below.refl _ _).alloc (Nat.le_refl _) _).drew) v0)) hnq, cell_other (hfar _ _ (step_cell (((Below.refl _ _).alloc (Nat.le_refl _) _).drew) v1)) hnq, cell_other (hfar _ _ (step_cell (((Below.refl _ _).alloc (Nat.le_refl _) _).drew) v2)) hnq, cell_other (hfar _ _ (step_cell (((Below.refl _ _).alloc (Nat.le_refl _) _).drew) v3)) hnq, cell_other (hfar _ _ (step_cell (((Below.refl _ _).alloc (Nat.le_refl _) _).drew) v4)) hnq, cell_other (hfar _ _ (step_cell (((Below.refl _ _).alloc (Nat.le_refl _) _).drew) v5)) hnq⟩)
        clear hK K
        try simp only [pz]
        refine wpAnyH_done (by kernel_rfl) ?_ _
        clear hHeld
        go_wp2_with fail
        go_meet
        case rel => exact ⟨g9, cap9, HSET.out, HB9.out⟩
      · skip
        go_simp
        refine hK.out _ _ ?_ (fun hHeld => ?_)
        · (exact ⟨(step_cell (((Below.refl _ _).alloc (Nat.le_refl _) _).drew) v0), (step_cell (((Below.refl _ _).alloc (Nat.le_refl _) _).drew) v1), (step_cell (((Below.refl _ _).alloc (Nat.le_refl _) _).drew) v2), (step_cell (((Below.refl _ _).alloc (Nat.le_refl _) _).drew) v3), (step_cell (((Below.refl _ _).alloc (Nat.le_refl _) _).drew) v4), (step_cell (((Below.refl _ _).alloc (Nat.le_refl _) _).drew) v5)⟩)
        clear hK K
        try simp only [pz]
        have q1' : (wx.alloc (.cells #[.int .i64 (y0 : Int), .int .i64 (y1 : Int), .int .i64 (y2 : Int), .int .i64 (y3 : Int), .int .i64 (y4 : Int), .int .u32 (y5 : Int)] 44)).drew.cell? ⟨q, 1, none⟩ = some (.slice aC g.code.length kC) := step_cell (((Below.refl _ _).alloc (Nat.le_refl _) _).drew) q1
        refine wpAnyH_ready (rs := [5]) (by kernel_rfl) (by simp) ?_
        refine (AllReadyH.cons rfl (fun K hK => ?_) AllReadyH.nil)
        go_simp
        refine hK.out _ _ ?_ (fun hHeld => ?_)
        · (exact hHeld)
        clear hK K
        try simp only [pz]
        refine wpAnyH_ready (rs := [8]) (by kernel_rfl) (by simp) ?_
        refine (AllReadyH.cons rfl (fun K hK => ?_) AllReadyH.nil)
        refine step_append_lies _ (by rfl) _ _ _ (by rfl) base 44 t0' (.agg #[.int .i64 0, .int .i64 0, .int .i64 0, .int .i64 0, .int .i64 0, .int .u32 0]) 6 48 Tryz.underlying26 hi0 hy0' hy1' hy2' rfl (by decide) (.slice aC g.code.length kC) g.code.length (g.code.flatMap insCs) (by rfl) ((World.ownsRow.alloc HRW.out _).drew) ⟨wx.heap.size, 0, none⟩ 1 1 [.int .i64 (y0 : Int), .int .i64 (y1 : Int), .int .i64 (y2 : Int), .int .i64 (y3 : Int), .int .i64 (y4 : Int), .int .u32 (y5 : Int)] (by rfl) (by rfl) (World.news_of_block (cs := #[.int .i64 (y0 : Int), .int .i64 (y1 : Int), .int .i64 (y2 : Int), .int .i64 (y3 : Int), .int .i64 (y4 : Int), .int .u32 (y5 : Int)]) (t := 44) (fr := (0, 0)) (heap_alloc_new wx _)) (by simp [Value.oneCell']) (by omega) (by unfold maxLen; omega) (by omega) (by simp; omega) (wx.heap.size + 1) (by simp) ?_
        intro g9 cap9 w9 hown hgrow hat hlt9
        have hal := HPX.out.below (((Below.refl _ _).alloc (Nat.le_refl _) (.cells #[.int .i64 (y0 : Int), .int .i64 (y1 : Int), .int .i64 (y2 : Int), .int .i64 (y3 : Int), .int .i64 (y4 : Int), .int .u32 (y5 : Int)] 44)).drew)
        have hset := hal.setC (i := ⟨(y0 : Int), (y1 : Int), (y2 : Int), (y3 : Int), (y4 : Int), (y5 : Int)⟩) HC4.out ⟨by simp only; omega, by simp only; omega⟩ hown hgrow (by simpa using hat)
        have HSET : Hid (PlS base q ⟨g.wide, g.code ++ [⟨(y0 : Int), (y1 : Int), (y2 : Int), (y3 : Int), (y4 : Int), (y5 : Int)⟩], g.ins⟩ (.slice aW g.wide.length kW) (.slice (some ⟨g9, 0, none⟩) (g.code.length + 1) cap9) (.slice aI g.ins.length kI) (w9.setCell ⟨q, 1, none⟩ (.slice (some ⟨g9, 0, none⟩) (g.code.length + 1) cap9))) := hset
        have d9 : w9.cell? ⟨q, 1, none⟩ = some (.slice aC g.code.length kC) := by rw [hgrow.cell_far _ (by exact hal.lt) hal.neC]; exact hal.c1
        have z9 : w9.frozen? ⟨q, 1, none⟩ = false := by rw [World.frozen?_of_block (w := (wx.alloc (.cells #[.int .i64 (y0 : Int), .int .i64 (y1 : Int), .int .i64 (y2 : Int), .int .i64 (y3 : Int), .int .i64 (y4 : Int), .int .u32 (y5 : Int)] 44)).drew) (hgrow.block q hal.lt hal.neC)]; exact hal.f1
        have HB9 : Hid (Below base w (w9.setCell ⟨q, 1, none⟩ (.slice (some ⟨g9, 0, none⟩) (g.code.length + 1) cap9))) := by
          have h1 : Below base w (wx.alloc (.cells #[.int .i64 (y0 : Int), .int .i64 (y1 : Int), .int .i64 (y2 : Int), .int .i64 (y3 : Int), .int .i64 (y4 : Int), .int .u32 (y5 : Int)] 44)).drew := HBX.out.trans ((((Below.refl _ _).alloc (Nat.le_refl _) _).drew).mono (by exact hbxs))
          have h2 : Below base w w9 := h1.grown hgrow (by have := h1.size; omega) (fun j hj => (World.ownsRow.lt hal.code j hj).1)
          exact h2.setCell hal.lo _
        have hq9 : q < w9.heap.size := Nat.lt_of_lt_of_le hal.lt hgrow.size
        have hbi9 : wr.heap.size < (wx.alloc (.cells #[.int .i64 (y0 : Int), .int .i64 (y1 : Int), .int .i64 (y2 : Int), .int .i64 (y3 : Int), .int .i64 (y4 : Int), .int .u32 (y5 : Int)] 44)).drew.heap.size := World.block_lt_of_cell? _ _ (step_cell (((Below.refl _ _).alloc (Nat.le_refl _) _).drew) v0)
        have hfar : ∀ (o : Nat) (u : Value), (wx.alloc (.cells #[.int .i64 (y0 : Int), .int .i64 (y1 : Int), .int .i64 (y2 : Int), .int .i64 (y3 : Int), .int .i64 (y4 : Int), .int .u32 (y5 : Int)] 44)).drew.cell? ⟨wr.heap.size, o, none⟩ = some u → w9.cell? ⟨wr.heap.size, o, none⟩ = some u := fun o u h => by rw [hgrow.cell_far _ (by exact hbi9) HNB.out]; exact h
        clear hset hown hat
        refine hK.out _ _ ?_ (fun hHeld => ?_)
        · (exact ⟨hfar _ _ (step_cell (((Below.refl _ _).alloc (Nat.le_refl _) _).drew) v0), hfar _ _ (step_cell (((Below.refl _ _).alloc (Nat.le_refl _) _).drew) v1), hfar _ _ (step_cell (((Below.refl _ _).alloc (Nat.le_refl _) _).drew) v2), hfar _ _ (step_cell (((Below.refl _ _).alloc (Nat.le_refl _) _).drew) v3), hfar _ _ (step_cell (((Below.refl _ _).alloc (Nat.le_refl _) _).drew) v4), hfar _ _ (step_cell (((Below.refl _ _).alloc (Nat.le_refl _) _).drew) v5)⟩)
        clear hK K
        show wpAnyH _ _ _ _ _ _ _ (Act.put _ (some 171) _) _
        simp only [pz]
        refine wpAnyH_take (i := 9) (v := ?_) rfl (by kernel_rfl) (by kernel_rfl) (by kernel_rfl) (fun _ _ _ h => h) (Or.inl ⟨by rfl, ?_⟩) (by assumption) ?_
        case refine_2 => (intro w hSw; (try dsimp only at hSw); go_simp; try with_reducible rfl)
        show wpAnyH _ _ _ _ _ _ _ (Act.put _ (some 172) _) _
        simp only [pz]
        refine wpAnyH_take (i := 10) (v := ?_) rfl (by kernel_rfl) (by kernel_rfl) (by kernel_rfl) (fun _ _ _ h => h) (Or.inl ⟨by rfl, ?_⟩) (by assumption) ?_
        case refine_2 => (intro w hSw; (try dsimp only at hSw); go_simp; try with_reducible rfl)
        show wpAnyH _ _ _ _ _ _ _ (Act.put _ (some 173) _) _
        simp only [pz]
        refine wpAnyH_take (i := 11) (v := ?_) rfl (by kernel_rfl) (by kernel_rfl) (by kernel_rfl) (fun _ _ _ h => h) (Or.inl ⟨by rfl, ?_⟩) (by assumption) ?_
        case refine_2 => (intro w hSw; (try dsimp only at hSw); go_simp; try with_reducible rfl)
        show wpAnyH _ _ _ _ _ _ _ (Act.put _ (some 174) _) _
        simp only [pz]
        refine wpAnyH_ready (rs := [12]) (by kernel_rfl) (by simp) ?_
        refine (AllReadyH.cons rfl (fun K hK => ?_) AllReadyH.nil)
        go_simp
        refine hK.out _ _ ?_ (fun hHeld => ?_)
        · (exact ⟨cell_other (hfar _ _ (step_cell (((Below.refl _ _).alloc (Nat.le_refl _) _).drew) v0)) hnq, cell_other (hfar _ _ (step_cell (((Below.refl _ _).alloc (Nat.le_refl _) _).drew) v1)) hnq, cell_other (hfar _ _ (step_cell (((Below.refl _ _).alloc (Nat.le_refl _) _).drew) v2)) hnq, cell_other (hfar _ _ (step_cell (((Below.refl _ _).alloc (Nat.le_refl _) _).drew) v3)) hnq, cell_other (hfar _ _ (step_cell (((Below.refl _ _).alloc (Nat.le_refl _) _).drew) v4)) hnq, cell_other (hfar _ _ (step_cell (((Below.refl _ _).alloc (Nat.le_refl _) _).drew) v5)) hnq⟩)
        clear hK K
        try simp only [pz]
        refine wpAnyH_done (by kernel_rfl) ?_ _
        clear hHeld
        go_wp2_with fail
        go_meet
        case rel => exact ⟨g9, cap9, HSET.out, HB9.out⟩
    case rest =>
      obtain ⟨g9, cap9, hpl, hbq⟩ := hcut
      obtain ⟨wd, hwd⟩ : ∃ wd, wd = wc := ⟨_, rfl⟩
      rw [← hwd] at hpl hbq ⊢
      have HPL : Hid (PlS base q ⟨g.wide, g.code ++ [⟨(y0 : Int), (y1 : Int), (y2 : Int), (y3 : Int), (y4 : Int), (y5 : Int)⟩], g.ins⟩ (.slice aW g.wide.length kW) (.slice (some ⟨g9, 0, none⟩) (g.code.length + 1) cap9) (.slice aI g.ins.length kI) wd) := hpl
      have HBQ : Hid (Below base w wd) := hbq
      have c1 := hpl.c1
      have hqd := hpl.lt
      clear hwd hpl hbq q1 fz v0 v1 v2 v3 v4 v5
      go_wp2_with (go_at_call 8; refine (HSO.out _ _ (g.code.length + 1) _ (by omega) (by simp [go_sem])).mono ?_; rintro e w11 ⟨rfl, hb11⟩; have HB11 : Hid (Below wd.heap.size wd w11) := step_below hb11 ((Below.refl _ _).alloc (Nat.le_refl _) _); clear hb11)
      go_ret
      rw [HRL.out, HWA.out, if_pos ⟨HL1.out, HC4.out⟩, ← HY0.out, ← HY1.out, ← HY2.out, ← HY3.out, ← HY4.out, ← HY5.out]
      exact ⟨rfl, ⟨_, _, _, HPL.out.below HB11.out⟩, HBQ.out.trans (HB11.out.mono (by have := HBQ.out.size; omega))⟩
end form
/- Other ins (loanbookkeep: line). -/
namespace form
open Go.RowKit
set_option maxRecDepth 100000
attribute [local go_sem ↓] Go.wp_at_zero Go.wp_at_succ
attribute [local go_sem] str_size str_list ByteArray.toList_mk
set_option maxHeartbeats 1600000 in
theorem lineIns {base q : Nat} {g : PL} {wv cv iv : Value} {w : World} (L : Lay) (hL : LayIs L) (hP : PlS base q g wv cv iv w) (s : List UInt8) (hs : s.length ≤ 2000000) (hall : ∀ p, p ∈ (splitL 32 s).tail → numB p = true) (r : PL × List UInt8) (hr : r = wordL L g s ((splitL 32 s).tail.map valL)) (hns : ¬ s = sNarrow ∧ ¬ s = sWide ∧ ¬ s = sNear) (hwd : (splitL 32 s).getD 0 [] = sIns) :
    Calls Tryz.prog 5 #[.pointer (some ⟨q, 0, none⟩), .string (str s)] w fun e w' => LineAns base q r w e w' := by
  have HL : Hid (LayIs L) := hL
  obtain ⟨aW, kW, hwv, -, -⟩ := row_form hP.wide
  obtain ⟨aC, kC, hcv, -, -⟩ := row_form hP.code
  obtain ⟨aI, kI, hiv, -, -⟩ := row_form hP.ins
  subst hwv hcv hiv
  have HP : Hid (PlS base q g (.slice aW g.wide.length kW) (.slice aC g.code.length kC) (.slice aI g.ins.length kI) w) := hP
  have hbase : base ≤ w.heap.size := Nat.le_of_lt (Nat.lt_of_le_of_lt hP.lo hP.lt)
  have hqlt := hP.lt
  have hbw := hP.bw
  have hbc := hP.bc
  have hbi := hP.bi
  have HSK : Hid (∀ wx : World, Calls Tryz.prog 4 #[.string (str s), .int .u8 32] wx fun e w' => ∃ v, e = .returned v ∧ StS wx wx.heap.size (splitL 32 s) v w') := fun wx => splitK s 32 (by omega) wx
  have HW1 : Hid (1 ≤ (splitL 32 s).length) := splitL_pos 32 s
  have HWL : Hid ((splitL 32 s).length ≤ s.length + 1) := splitL_len 32 s
  have HWE : Hid (∀ p, p ∈ splitL 32 s → p.length ≤ s.length) := splitL_each 32 s
  clear hP hL
  have HNS : Hid (¬ s = sNarrow ∧ ¬ s = sWide ∧ ¬ s = sNear) := hns
  clear hns
  obtain ⟨W, hW⟩ : ∃ W, W = splitL 32 s := ⟨_, rfl⟩
  rw [← hW] at HSK HW1 HWL HWE hall hr hwd
  have HR : Hid (r = wordL L g s (W.tail.map valL)) := hr
  clear hr
  have HWD : Hid (W.getD 0 [] = sIns) := hwd
  clear hwd
  have HW : Hid (W = splitL 32 s) := hW
  clear hW
  have hW1 := HW1.out
  have hWz : (W.length : Int) ≤ 2000001 := by have := HWL.out; omega
  go_enter Tryz.func5, Tryz.ntmps5
  go_upto_region 2 with (go_at_call 4; refine (HSK.out _).mono ?_; rintro e w1 ⟨v, rfl, hst⟩; have HST : Hid (StS w w.heap.size W v w1) := hst; clear hst)
  obtain ⟨bw, capw, hv, hbwge, hbwlt⟩ := HST.out.own.form hW1
  subst hv
  have HWC : Hid (∀ j, j < W.length → w1.cell? ⟨bw, j, none⟩ = some (.string (str (W.getD j [])))) := fun j hj => by
    rw [World.ownsRow.cellAt HST.out.own j (by omega)]
    simp [List.getD, hj]
  have HP1 : Hid (PlS base q g (.slice aW g.wide.length kW) (.slice aC g.code.length kC) (.slice aI g.ins.length kI) w1) := HP.out.below HST.out.bel
  have HB1 : Hid (Below w.heap.size w w1) := HST.out.bel
  clear HSK HST hbwge
  go_wp2
  go_loopg [6, 7, 8, 9] W.length (fun gg v6 v v8 v9 wr => ∃ (i : Nat), v = .int .i64 i ∧ 1 ≤ i ∧ i ≤ W.length ∧ gg = W.length + 1 - i ∧ NlS w1 ((W.tail.take (i - 1)).map valL) v6 wr ∧ ∀ p, p ∈ W.tail.take (i - 1) → numB p = true)
  case atStart => exact ⟨1, rfl, by omega, by omega, by omega, ⟨Below.refl _ _, World.ownsRow_nil _ _ _ _⟩, fun p hp => by simp at hp⟩
  case round =>
    obtain ⟨i, rfl, hi1, hi, hgk, hnl, hal⟩ := hrel
    have HGK : Hid (gk = W.length + 1 - i) := hgk
    obtain ⟨l, hl⟩ : ∃ l, l = (W.tail.take (i - 1)).map valL := ⟨_, rfl⟩
    rw [← hl] at hnl
    have HLI : Hid (l = (W.tail.take (i - 1)).map valL) := hl
    have hll : l.length = i - 1 := by rw [hl]; simp; omega
    have hllz : l.length ≤ 2000001 := by omega
    have HLL : Hid (l.length = i - 1) := hll
    have HNL : Hid (NlS w1 l u6 wr) := hnl
    have HAL : Hid (∀ p, p ∈ W.tail.take (i - 1) → numB p = true) := hal
    have hwz := hnl.bel.size
    clear hgk hnl hl hal hll
    by_cases hil : i < W.length
    case pos =>
      have hiz : (i : Int) < (W.length : Int) := by omega
      have d0 := step_cell HNL.out.bel (HWC.out i hil)
      have hbl := World.block_lt_of_cell? wr _ d0
      obtain ⟨p, hp⟩ : ∃ p, p = W.getD i [] := ⟨_, rfl⟩
      rw [← hp] at d0
      have HPP : Hid (p = W.getD i []) := hp
      have hpt : W.tail.take (i + 1 - 1) = W.tail.take (i - 1) ++ [p] := by rw [hp]; exact tail_take hi1 hil
      have HPT : Hid (W.tail.take (i + 1 - 1) = W.tail.take (i - 1) ++ [p]) := hpt
      have hpm : p ∈ W := by rw [hp]; simp [List.getD, hil]
      have c := numberK p (by have := HWE.out p hpm; omega) wr
      have HPM : Hid (p ∈ W.tail) := by
        have h2 : p ∈ W.tail.take (i + 1 - 1) := by rw [hpt]; simp
        exact List.mem_of_mem_take h2
      clear hp hpt hpm
      unfold NumAns at c
      have HPB : Hid (numB p = true) := hall p HPM.out
      rw [HPB.out] at c
      go_upto_if 45 with (go_at_call 7; refine c.mono ?_; rintro e w2 ⟨⟨y, rfl, hy⟩, hw2⟩; obtain rfl := hw2.symm; have HY : Hid (y = valL p) := hy (by trivial); clear hw2 hy)
      obtain ⟨x, hx⟩ : ∃ x : Nat, x = valL p := ⟨_, rfl⟩
      have hyx : y = (x : Int) := by rw [hx]; exact HY.out
      subst hyx
      have HXV : Hid (x = valL p) := hx
      clear c HY hx
      obtain ⟨t0', hi0, hy0, hy1, hy2⟩ := info_parts infU32K
      go_wp2_with (at_builtin; refine wpList_append_lies _ rfl _ _ 29 rfl w1.heap.size 34 t0' (.int .u32 0) 1 4 Tryz.underlying29 hi0 hy0 hy1 hy2 rfl (by decide) u6 l.length (l.map (fun x : Nat => Value.int .u32 x)) rfl (World.ownsRow.alloc HNL.out.own _) ⟨wr.heap.size, 0, none⟩ 1 1 [.int .u32 (x : Int)] rfl rfl ?c1 ?c2 (by decide) ?c3 ?c4 ?c5 _ rfl ?_)
      case c1 =>
        intro j u hu
        rcases j with _ | j
        · simp at hu; subst hu; simp [go_sem, Addr.add]
        · simp at hu
      case c2 => simp [Value.oneCell']
      case c3 => unfold maxLen; omega
      case c4 => omega
      case c5 => first | omega | (simp; omega)
      intro g9 cap9 w9 hown hgrow hat hlt9
      have hPu := (HNL.out.below ((Below.refl _ _).alloc (Nat.le_refl _) (.cells #[.int .u32 (x : Int)] 34))).push hown hgrow
      have HPU : Hid (NlS w1 (l ++ [x]) (.slice (some ⟨g9, 0, none⟩) (l.length + 1) cap9) w9) := hPu
      clear hPu hown hgrow hat
      go_wp2
      have hgk := HGK.out
      go_roundg (gk - 1)
      case measure => omega
      case rel =>
        refine ⟨i + 1, by go_num, by omega, by omega, by omega, ?_, ?_⟩
        · rw [HPT.out, List.map_append, ← HLI.out]
          have e : [p].map valL = [x] := by rw [HXV.out]; rfl
          rw [e]
          exact HPU.out
        · intro p2 hp2
          rw [HPT.out] at hp2
          rcases List.mem_append.1 hp2 with h | h
          · exact HAL.out p2 h
          · have : p2 = p := by simpa using h
            rw [this]; exact HPB.out
    obtain rfl : i = W.length := by omega
    have hiz : ¬ (W.length : Int) < (W.length : Int) := by omega
    have HLT : Hid (l = W.tail.map valL) := by
      show l = W.tail.map valL
      rw [HLI.out]
      congr 1
      exact List.take_of_length_le (by simp)
    have HRL : Hid (r = wordL L g s l) := by
      show r = wordL L g s l
      rw [HR.out, HLT.out]
    obtain ⟨al, cl, hu6, hlcl, hform⟩ := row_form HNL.out.own
    subst hu6
    have HPR : Hid (PlS base q g (.slice aW g.wide.length kW) (.slice aC g.code.length kC) (.slice aI g.ins.length kI) wr) := HP1.out.below HNL.out.bel
    have HBR : Hid (Below w.heap.size w wr) := step_below HNL.out.bel HB1.out
    have hbr : base ≤ wr.heap.size := Nat.le_trans hbase HBR.out.size
    have hqr := HPR.out.lt
    have e0 := step_cell HNL.out.bel (HWC.out 0 hW1)
    have hbw0 := World.block_lt_of_cell? wr _ e0
    obtain ⟨p0, hp0⟩ : ∃ p, p = W.getD 0 [] := ⟨_, rfl⟩
    rw [← hp0] at e0
    have HP0 : Hid (p0 = W.getD 0 []) := hp0
    have q0 := HPR.out.c0
    have q1 := HPR.out.c1
    have q2 := HPR.out.c2
    clear hp0 HGK
    have hc1 : (s == [110, 97, 114, 114, 111, 119]) = false := by rw [lit_eq]; exact decide_eq_false HNS.out.1
    have hc2 : (s == [119, 105, 100, 101]) = false := by rw [lit_eq]; exact decide_eq_false HNS.out.2.1
    have hc3 : (s == [110, 101, 97, 114]) = false := by rw [lit_eq]; exact decide_eq_false HNS.out.2.2
    have HPW : Hid (p0 = sIns) := by
      show p0 = _
      rw [HP0.out]
      exact HWD.out
    have hw0 : (p0 == [99, 111, 100, 101]) = false := by rw [HPW.out]; rfl
    have hw1 : (p0 == [105, 110, 115]) = true := by rw [HPW.out]; rfl
    have HWA : Hid (wordL L g s l = (⟨g.wide, g.code, l.map (fun x : Nat => (x : Int))⟩, saidL sOk [l.length])) := by
      show wordL L g s l = _
      unfold wordL
      rw [if_neg (fun h => by rcases h with h | h; exact HNS.out.1 h; exact HNS.out.2.1 h), if_neg HNS.out.2.2]
      dsimp only
      rw [← HW.out, ← HP0.out, HPW.out]
      rfl
    have HSO : Hid (∀ (b cap n : Nat) (wx : World), n < 9223372036854775808 → wx.cell? ⟨b, 0, none⟩ = some (.int .i64 (n : Int)) → Calls Tryz.prog 8 #[.string ⟨#[111, 107]⟩, .slice (some ⟨b, 0, none⟩) 1 cap] wx fun e w' => e = .returned (.string (str (saidL sOk [n]))) ∧ Below wx.heap.size wx w') := fun b cap n wx hn h => by
      have h2 := said_one sOk (n : Int) (by decide) (by omega) (by omega) b cap wx h
      rw [Int.toNat_natCast] at h2
      exact h2
    have fz := HPR.out.f2
    have hb1s := HB1.out.size
    have hset := HPR.out.setI (l := l.map (fun x : Nat => (x : Int))) (lo := w1.heap.size) (lv := .slice al l.length cl) (by have h := HNL.out.own; simpa [List.map_map, Function.comp_def] using h) (Nat.le_trans hbase hb1s) HP1.out.lt (fun b hb => (World.ownsRow.lt HP1.out.wide b hb).2) (fun b hb => (World.ownsRow.lt HP1.out.code b hb).2) (by simp; omega) (fun x hx => by
      obtain ⟨y, hy, rfl⟩ := List.mem_map.1 hx
      rw [HLT.out] at hy
      obtain ⟨p, hp, rfl⟩ := List.mem_map.1 hy
      have h2 := hall p hp
      unfold numB at h2
      simp only [Bool.and_eq_true, decide_eq_true_eq] at h2
      have h3 := h2.2
      omega)
    have HSET : Hid (PlS base q ⟨g.wide, g.code, l.map (fun x : Nat => (x : Int))⟩ (.slice aW g.wide.length kW) (.slice aC g.code.length kC) (.slice al l.length cl) (wr.setCell ⟨q, 2, none⟩ (.slice al l.length cl))) := hset
    have HB9 : Hid (Below base w (wr.setCell ⟨q, 2, none⟩ (.slice al l.length cl))) := (HBR.out.mono hbase).setCell HPR.out.lo _
    clear hset
    go_upto_region 38 with fail
    obtain ⟨w10, hw10⟩ : ∃ x, x = wr.setCell ⟨q, 2, none⟩ (.slice al l.length cl) := ⟨_, rfl⟩
    rw [← hw10] at HSET HB9 ⊢
    have hq10 := HSET.out.lt
    clear hw10 q0 q1 q2 e0 fz
    go_wp2_with (go_at_call 8; refine (HSO.out _ _ l.length _ (by omega) (by simp [go_sem])).mono ?_; rintro e w11 ⟨rfl, hb11⟩; have HB11 : Hid (Below w10.heap.size w10 w11) := step_below hb11 ((Below.refl _ _).alloc (Nat.le_refl _) _); clear hb11)
    go_ret
    rw [HRL.out, HWA.out]
    exact ⟨rfl, ⟨_, _, _, HSET.out.below HB11.out⟩, HB9.out.trans (HB11.out.mono (by have := HB9.out.size; omega))⟩
end form
/- A run (loanbookkeep: line). -/
namespace form
open Go.RowKit
set_option maxRecDepth 100000
attribute [local go_sem ↓] Go.wp_at_zero Go.wp_at_succ
attribute [local go_sem] str_size str_list ByteArray.toList_mk
set_option maxHeartbeats 1600000 in
theorem lineRun {base q : Nat} {g : PL} {wv cv iv : Value} {w : World} (L : Lay) (hL : LayIs L) (hP : PlS base q g wv cv iv w) (s : List UInt8) (hs : s.length ≤ 2000000) (hall : ∀ p, p ∈ (splitL 32 s).tail → numB p = true) (r : PL × List UInt8) (hr : r = wordL L g s ((splitL 32 s).tail.map valL)) (hns : ¬ s = sNarrow ∧ ¬ s = sWide ∧ ¬ s = sNear) (hwd : (splitL 32 s).getD 0 [] = sRun) :
    Calls Tryz.prog 5 #[.pointer (some ⟨q, 0, none⟩), .string (str s)] w fun e w' => LineAns base q r w e w' := by
  have HL : Hid (LayIs L) := hL
  obtain ⟨aW, kW, hwv, -, -⟩ := row_form hP.wide
  obtain ⟨aC, kC, hcv, -, -⟩ := row_form hP.code
  obtain ⟨aI, kI, hiv, -, -⟩ := row_form hP.ins
  subst hwv hcv hiv
  have HP : Hid (PlS base q g (.slice aW g.wide.length kW) (.slice aC g.code.length kC) (.slice aI g.ins.length kI) w) := hP
  have hbase : base ≤ w.heap.size := Nat.le_of_lt (Nat.lt_of_le_of_lt hP.lo hP.lt)
  have hqlt := hP.lt
  have hbw := hP.bw
  have hbc := hP.bc
  have hbi := hP.bi
  have HSK : Hid (∀ wx : World, Calls Tryz.prog 4 #[.string (str s), .int .u8 32] wx fun e w' => ∃ v, e = .returned v ∧ StS wx wx.heap.size (splitL 32 s) v w') := fun wx => splitK s 32 (by omega) wx
  have HW1 : Hid (1 ≤ (splitL 32 s).length) := splitL_pos 32 s
  have HWL : Hid ((splitL 32 s).length ≤ s.length + 1) := splitL_len 32 s
  have HWE : Hid (∀ p, p ∈ splitL 32 s → p.length ≤ s.length) := splitL_each 32 s
  clear hP hL
  have HNS : Hid (¬ s = sNarrow ∧ ¬ s = sWide ∧ ¬ s = sNear) := hns
  clear hns
  obtain ⟨W, hW⟩ : ∃ W, W = splitL 32 s := ⟨_, rfl⟩
  rw [← hW] at HSK HW1 HWL HWE hall hr hwd
  have HR : Hid (r = wordL L g s (W.tail.map valL)) := hr
  clear hr
  have HWD : Hid (W.getD 0 [] = sRun) := hwd
  clear hwd
  have HW : Hid (W = splitL 32 s) := hW
  clear hW
  have hW1 := HW1.out
  have hWz : (W.length : Int) ≤ 2000001 := by have := HWL.out; omega
  go_enter Tryz.func5, Tryz.ntmps5
  go_upto_region 2 with (go_at_call 4; refine (HSK.out _).mono ?_; rintro e w1 ⟨v, rfl, hst⟩; have HST : Hid (StS w w.heap.size W v w1) := hst; clear hst)
  obtain ⟨bw, capw, hv, hbwge, hbwlt⟩ := HST.out.own.form hW1
  subst hv
  have HWC : Hid (∀ j, j < W.length → w1.cell? ⟨bw, j, none⟩ = some (.string (str (W.getD j [])))) := fun j hj => by
    rw [World.ownsRow.cellAt HST.out.own j (by omega)]
    simp [List.getD, hj]
  have HP1 : Hid (PlS base q g (.slice aW g.wide.length kW) (.slice aC g.code.length kC) (.slice aI g.ins.length kI) w1) := HP.out.below HST.out.bel
  have HB1 : Hid (Below w.heap.size w w1) := HST.out.bel
  clear HSK HST hbwge
  go_wp2
  go_loopg [6, 7, 8, 9] W.length (fun gg v6 v v8 v9 wr => ∃ (i : Nat), v = .int .i64 i ∧ 1 ≤ i ∧ i ≤ W.length ∧ gg = W.length + 1 - i ∧ NlS w1 ((W.tail.take (i - 1)).map valL) v6 wr ∧ ∀ p, p ∈ W.tail.take (i - 1) → numB p = true)
  case atStart => exact ⟨1, rfl, by omega, by omega, by omega, ⟨Below.refl _ _, World.ownsRow_nil _ _ _ _⟩, fun p hp => by simp at hp⟩
  case round =>
    obtain ⟨i, rfl, hi1, hi, hgk, hnl, hal⟩ := hrel
    have HGK : Hid (gk = W.length + 1 - i) := hgk
    obtain ⟨l, hl⟩ : ∃ l, l = (W.tail.take (i - 1)).map valL := ⟨_, rfl⟩
    rw [← hl] at hnl
    have HLI : Hid (l = (W.tail.take (i - 1)).map valL) := hl
    have hll : l.length = i - 1 := by rw [hl]; simp; omega
    have hllz : l.length ≤ 2000001 := by omega
    have HLL : Hid (l.length = i - 1) := hll
    have HNL : Hid (NlS w1 l u6 wr) := hnl
    have HAL : Hid (∀ p, p ∈ W.tail.take (i - 1) → numB p = true) := hal
    have hwz := hnl.bel.size
    clear hgk hnl hl hal hll
    by_cases hil : i < W.length
    case pos =>
      have hiz : (i : Int) < (W.length : Int) := by omega
      have d0 := step_cell HNL.out.bel (HWC.out i hil)
      have hbl := World.block_lt_of_cell? wr _ d0
      obtain ⟨p, hp⟩ : ∃ p, p = W.getD i [] := ⟨_, rfl⟩
      rw [← hp] at d0
      have HPP : Hid (p = W.getD i []) := hp
      have hpt : W.tail.take (i + 1 - 1) = W.tail.take (i - 1) ++ [p] := by rw [hp]; exact tail_take hi1 hil
      have HPT : Hid (W.tail.take (i + 1 - 1) = W.tail.take (i - 1) ++ [p]) := hpt
      have hpm : p ∈ W := by rw [hp]; simp [List.getD, hil]
      have c := numberK p (by have := HWE.out p hpm; omega) wr
      have HPM : Hid (p ∈ W.tail) := by
        have h2 : p ∈ W.tail.take (i + 1 - 1) := by rw [hpt]; simp
        exact List.mem_of_mem_take h2
      clear hp hpt hpm
      unfold NumAns at c
      have HPB : Hid (numB p = true) := hall p HPM.out
      rw [HPB.out] at c
      go_upto_if 45 with (go_at_call 7; refine c.mono ?_; rintro e w2 ⟨⟨y, rfl, hy⟩, hw2⟩; obtain rfl := hw2.symm; have HY : Hid (y = valL p) := hy (by trivial); clear hw2 hy)
      obtain ⟨x, hx⟩ : ∃ x : Nat, x = valL p := ⟨_, rfl⟩
      have hyx : y = (x : Int) := by rw [hx]; exact HY.out
      subst hyx
      have HXV : Hid (x = valL p) := hx
      clear c HY hx
      obtain ⟨t0', hi0, hy0, hy1, hy2⟩ := info_parts infU32K
      go_wp2_with (at_builtin; refine wpList_append_lies _ rfl _ _ 29 rfl w1.heap.size 34 t0' (.int .u32 0) 1 4 Tryz.underlying29 hi0 hy0 hy1 hy2 rfl (by decide) u6 l.length (l.map (fun x : Nat => Value.int .u32 x)) rfl (World.ownsRow.alloc HNL.out.own _) ⟨wr.heap.size, 0, none⟩ 1 1 [.int .u32 (x : Int)] rfl rfl ?c1 ?c2 (by decide) ?c3 ?c4 ?c5 _ rfl ?_)
      case c1 =>
        intro j u hu
        rcases j with _ | j
        · simp at hu; subst hu; simp [go_sem, Addr.add]
        · simp at hu
      case c2 => simp [Value.oneCell']
      case c3 => unfold maxLen; omega
      case c4 => omega
      case c5 => first | omega | (simp; omega)
      intro g9 cap9 w9 hown hgrow hat hlt9
      have hPu := (HNL.out.below ((Below.refl _ _).alloc (Nat.le_refl _) (.cells #[.int .u32 (x : Int)] 34))).push hown hgrow
      have HPU : Hid (NlS w1 (l ++ [x]) (.slice (some ⟨g9, 0, none⟩) (l.length + 1) cap9) w9) := hPu
      clear hPu hown hgrow hat
      go_wp2
      have hgk := HGK.out
      go_roundg (gk - 1)
      case measure => omega
      case rel =>
        refine ⟨i + 1, by go_num, by omega, by omega, by omega, ?_, ?_⟩
        · rw [HPT.out, List.map_append, ← HLI.out]
          have e : [p].map valL = [x] := by rw [HXV.out]; rfl
          rw [e]
          exact HPU.out
        · intro p2 hp2
          rw [HPT.out] at hp2
          rcases List.mem_append.1 hp2 with h | h
          · exact HAL.out p2 h
          · have : p2 = p := by simpa using h
            rw [this]; exact HPB.out
    obtain rfl : i = W.length := by omega
    have hiz : ¬ (W.length : Int) < (W.length : Int) := by omega
    have HLT : Hid (l = W.tail.map valL) := by
      show l = W.tail.map valL
      rw [HLI.out]
      congr 1
      exact List.take_of_length_le (by simp)
    have HRL : Hid (r = wordL L g s l) := by
      show r = wordL L g s l
      rw [HR.out, HLT.out]
    obtain ⟨al, cl, hu6, hlcl, hform⟩ := row_form HNL.out.own
    subst hu6
    have HPR : Hid (PlS base q g (.slice aW g.wide.length kW) (.slice aC g.code.length kC) (.slice aI g.ins.length kI) wr) := HP1.out.below HNL.out.bel
    have HBR : Hid (Below w.heap.size w wr) := step_below HNL.out.bel HB1.out
    have hbr : base ≤ wr.heap.size := Nat.le_trans hbase HBR.out.size
    have hqr := HPR.out.lt
    have e0 := step_cell HNL.out.bel (HWC.out 0 hW1)
    have hbw0 := World.block_lt_of_cell? wr _ e0
    obtain ⟨p0, hp0⟩ : ∃ p, p = W.getD 0 [] := ⟨_, rfl⟩
    rw [← hp0] at e0
    have HP0 : Hid (p0 = W.getD 0 []) := hp0
    have q0 := HPR.out.c0
    have q1 := HPR.out.c1
    have q2 := HPR.out.c2
    clear hp0 HGK
    have hc1 : (s == [110, 97, 114, 114, 111, 119]) = false := by rw [lit_eq]; exact decide_eq_false HNS.out.1
    have hc2 : (s == [119, 105, 100, 101]) = false := by rw [lit_eq]; exact decide_eq_false HNS.out.2.1
    have hc3 : (s == [110, 101, 97, 114]) = false := by rw [lit_eq]; exact decide_eq_false HNS.out.2.2
    have HPW : Hid (p0 = sRun) := by
      show p0 = _
      rw [HP0.out]
      exact HWD.out
    have hw0 : (p0 == [99, 111, 100, 101]) = false := by rw [HPW.out]; rfl
    have hw1 : (p0 == [105, 110, 115]) = false := by rw [HPW.out]; rfl
    have hw2 : (p0 == [114, 117, 110]) = true := by rw [HPW.out]; rfl
    have HWA : Hid (wordL L g s l = if l.length = 1 then (g, shownL (L.run g.wide g.code g.ins (l.getD 0 0 : Nat))) else (g, sNo)) := by
      show wordL L g s l = _
      unfold wordL
      rw [if_neg (fun h => by rcases h with h | h; exact HNS.out.1 h; exact HNS.out.2.1 h), if_neg HNS.out.2.2]
      dsimp only
      rw [← HW.out, ← HP0.out, HPW.out]
      rfl
    by_cases hl1 : l.length = 1
    case neg =>
      have hl1z : ((l.length : Int) == 1) = false := by simp; omega
      have HL1 : Hid (¬ l.length = 1) := hl1
      clear hl1
      go_wp2
      go_ret
      rw [HRL.out, HWA.out, if_neg HL1.out]
      exact LineAns.same HPR.out HBR.out hbase
    have hl1z : ((l.length : Int) == 1) = true := by simp; omega
    have HL1 : Hid (l.length = 1) := hl1
    obtain ⟨bl, hal2, hblge, hbllt⟩ := hform (by omega)
    subst hal2
    have HX0 : Hid (∃ x : Nat, x = l.getD 0 0 ∧ wr.cell? ⟨bl, 0, none⟩ = some (.int .u32 (x : Int)) ∧ x < 4294967296) := by
      refine ⟨l.getD 0 0, rfl, ?_, ?_⟩
      · rw [World.ownsRow.cellAt HNL.out.own 0 (by omega)]
        simp [List.getD, show 0 < l.length by omega]
      · exact l_small hall HLT.out _ (by simp [List.getD, show 0 < l.length by omega])
    obtain ⟨x, hx, x0, hxl⟩ := HX0.out
    have HX : Hid (x = l.getD 0 0) := hx
    have hxz : (x : Int) < 4294967296 := by omega
    obtain ⟨rr, hrr⟩ : ∃ rr, rr = L.run g.wide g.code g.ins (x : Int) := ⟨_, rfl⟩
    have HRR : Hid (rr = L.run g.wide g.code g.ins (x : Int)) := hrr
    have HRO : Hid (RunOk rr) := by
      show RunOk rr
      rw [hrr]; exact HL.out.rok _ _ _ _ HPR.out.oc HPR.out.oi
    have HRC : Hid (∀ wx : World, Below wr.heap.size wr wx → Calls Tryz.prog 11 #[.agg #[.slice aW g.wide.length kW, .slice aC g.code.length kC], .slice aI g.ins.length kI, .int .i64 (x : Int)] wx fun e w' => RunIs rr wx e w') := fun wx hb => by
      rw [HRR.out]
      exact HL.out.run _ _ g.wide g.code g.ins x wx (HPR.out.below hb).prog (HPR.out.below hb).inArg
    have hl0 : 0 < l.length := by omega
    have hxw : IntKind.i64.wrap (x : Int) = (x : Int) := wrapK (by omega) (by omega)
    clear HX0 hx hrr hl1
    go_upto_region 41 with fail
    go_cut [17, 18] (fun s17 s18 wq => ShR wr rr s17 s18 wq)
    case first =>
      refine wp_region_held_drew (S := (fun w' => Below wr.heap.size wr w')) (by rfl) ?_ (fun hHeld => ?_)
      · (exact (Below.refl _ _).drew)
      refine wpAnyH_take (i := 0) (v := ?_) rfl (by kernel_rfl) (by kernel_rfl) (by kernel_rfl) (fun _ _ _ h => h) (Or.inl ⟨by rfl, ?_⟩) (by assumption) ?_
      case refine_2 => (intro w hSw; (try dsimp only at hSw); go_simp; try with_reducible rfl)
      show wpAnyH _ _ _ _ _ _ _ (Act.put _ (some 197) _) _
      simp only [pz]
      refine wpAnyH_take (i := 1) (v := ?_) rfl (by kernel_rfl) (by kernel_rfl) (by kernel_rfl) (fun _ _ _ h => h) (Or.inl ⟨by rfl, ?_⟩) (by assumption) ?_
      case refine_2 => (intro w hSw; (try dsimp only at hSw); go_simp; try with_reducible rfl)
      show wpAnyH _ _ _ _ _ _ _ (Act.put _ (some 198) _) _
      simp only [pz]
      refine wpAnyH_take (i := 2) (v := ?_) rfl (by kernel_rfl) (by kernel_rfl) (by kernel_rfl) (fun _ _ _ h => h) (Or.inl ⟨by rfl, ?_⟩) (by assumption) ?_
      case refine_2 => (intro w hSw; (try dsimp only at hSw); go_simp; try with_reducible rfl)
      show wpAnyH _ _ _ _ _ _ _ (Act.put _ (some 199) _) _
      simp only [pz]
      refine wpAnyH_take (i := 3) (v := ?_) rfl (by kernel_rfl) (by kernel_rfl) (by kernel_rfl) (fun _ _ _ h => h) (Or.inl ⟨by rfl, ?_⟩) (by assumption) ?_
      case refine_2 => (intro w5 hSw; (try dsimp only at hSw); have sq0 := step_cell hSw q0; have sq1 := step_cell hSw q1; go_simp; try with_reducible rfl)
      show wpAnyH _ _ _ _ _ _ _ (Act.put _ (some 200) _) _
      simp only [pz]
      refine wpAnyH_take (i := 4) (v := ?_) rfl (by kernel_rfl) (by kernel_rfl) (by kernel_rfl) (fun _ _ _ h => h) (Or.inl ⟨by rfl, ?_⟩) (by assumption) ?_
      case refine_2 => (intro w hSw; (try dsimp only at hSw); go_simp; try with_reducible rfl)
      show wpAnyH _ _ _ _ _ _ _ (Act.put _ (some 201) _) _
      simp only [pz]
      refine wpAnyH_take (i := 5) (v := ?_) rfl (by kernel_rfl) (by kernel_rfl) (by kernel_rfl) (fun _ _ _ h => h) (Or.inl ⟨by rfl, ?_⟩) (by assumption) ?_
      case refine_2 => (intro w hSw; (try dsimp only at hSw); go_simp; try with_reducible rfl)
      show wpAnyH _ _ _ _ _ _ _ (Act.put _ (some 202) _) _
      simp only [pz]
      refine wpAnyH_take (i := 6) (v := ?_) rfl (by kernel_rfl) (by kernel_rfl) (by kernel_rfl) (fun _ _ _ h => h) (Or.inl ⟨by rfl, ?_⟩) (by assumption) ?_
      case refine_2 => (intro w hSw; (try dsimp only at hSw); go_simp; try with_reducible rfl)
      show wpAnyH _ _ _ _ _ _ _ (Act.put _ (some 203) _) _
      simp only [pz]
      refine wpAnyH_take (i := 7) (v := ?_) rfl (by kernel_rfl) (by kernel_rfl) (by kernel_rfl) (fun _ _ _ h => h) (Or.inl ⟨by rfl, ?_⟩) (by assumption) ?_
      case refine_2 => (intro w5 hSw; (try dsimp only at hSw); have sq2 := step_cell hSw q2; go_simp; try with_reducible rfl)
      show wpAnyH _ _ _ _ _ _ _ (Act.put _ (some 204) _) _
      simp only [pz]
      refine wpAnyH_take (i := 8) (v := ?_) rfl (by kernel_rfl) (by kernel_rfl) (by kernel_rfl) (fun _ _ _ h => h) (Or.inl ⟨by rfl, ?_⟩) (by assumption) ?_
      case refine_2 => (intro w hSw; (try dsimp only at hSw); go_simp; try with_reducible rfl)
      show wpAnyH _ _ _ _ _ _ _ (Act.put _ (some 205) _) _
      simp only [pz]
      refine wpAnyH_take (i := 9) (v := ?_) rfl (by kernel_rfl) (by kernel_rfl) (by kernel_rfl) (fun _ _ _ h => h) (Or.inl ⟨by rfl, ?_⟩) (by assumption) ?_
      case refine_2 => (intro w hSw; (try dsimp only at hSw); go_simp; try with_reducible rfl)
      show wpAnyH _ _ _ _ _ _ _ (Act.put _ (some 206) _) _
      simp only [pz]
      refine wpAnyH_take (i := 10) (v := ?_) rfl (by kernel_rfl) (by kernel_rfl) (by kernel_rfl) (fun _ _ _ h => h) (Or.inl ⟨by rfl, ?_⟩) (by assumption) ?_
      case refine_2 => (intro w5 hSw; (try dsimp only at hSw); have sx0 := step_cell hSw x0; go_simp; try with_reducible rfl)
      show wpAnyH _ _ _ _ _ _ _ (Act.put _ (some 207) _) _
      simp only [pz]
      refine wpAnyH_take (i := 11) (v := ?_) rfl (by kernel_rfl) (by kernel_rfl) (by kernel_rfl) (fun _ _ _ h => h) (Or.inl ⟨by rfl, ?_⟩) (by assumption) ?_
      case refine_2 => (intro w hSw; (try dsimp only at hSw); go_simp; try with_reducible rfl)
      show wpAnyH _ _ _ _ _ _ _ (Act.put _ (some 208) _) _
      simp only [pz]
      refine wpAnyH_ready (rs := [12, 16]) (by kernel_rfl) (by simp) ?_
      refine (AllReadyH.cons rfl (fun K hK => ?_) (AllReadyH.cons rfl (fun K hK => ?_) AllReadyH.nil))
      · skip
        have h8 := hHeld
        go_simp
        go_at_call 11
        refine (HRC.out _ h8).mono ?_
        rintro e w5 ⟨⟨sv, rfl, ov, hsv, hout⟩, hb5⟩
        subst hsv
        have hout2 := hout
        obtain ⟨ao, cap, hov, -, -⟩ := hout2
        subst hov
        go_wp2_with fail
        refine hK.out _ _ ?_ (fun hHeld => ?_)
        · (exact step_below hb5 h8)
        clear hK K
        try simp only [pz]
        refine wpAnyH_take (i := 13) (v := ?_) rfl (by kernel_rfl) (by kernel_rfl) (by kernel_rfl) (fun _ _ _ h => h) (Or.inl ⟨by rfl, ?_⟩) (by assumption) ?_
        case refine_2 => (intro w hSw; (try dsimp only at hSw); go_simp; try with_reducible rfl)
        show wpAnyH _ _ _ _ _ _ _ (Act.put _ (some 196) _) _
        simp only [pz]
        refine wpAnyH_take (i := 14) (v := ?_) rfl (by kernel_rfl) (by kernel_rfl) (by kernel_rfl) (fun _ _ _ h => h) (Or.inl ⟨by rfl, ?_⟩) (by assumption) ?_
        case refine_2 => (intro w hSw; (try dsimp only at hSw); go_simp; try with_reducible rfl)
        show wpAnyH _ _ _ _ _ _ _ (Act.put _ (some 210) _) _
        simp only [pz]
        refine wpAnyH_take (i := 15) (v := ?_) rfl (by kernel_rfl) (by kernel_rfl) (by kernel_rfl) (fun _ _ _ h => h) (Or.inl ⟨by rfl, ?_⟩) (by assumption) ?_
        case refine_2 => (intro w hSw; (try dsimp only at hSw); go_simp; try with_reducible rfl)
        show wpAnyH _ _ _ _ _ _ _ (Act.put _ (some 211) _) _
        simp only [pz]
        have h9 := hHeld
        refine wpAnyH_ready (rs := [16]) (by kernel_rfl) (by simp) ?_
        refine (AllReadyH.cons rfl (fun K hK => ?_) AllReadyH.nil)
        go_simp
        refine hK.out _ _ ?_ (fun hHeld => ?_)
        · (exact step_below ((Below.refl _ _).alloc (Nat.le_refl _) _) h9)
        clear hK K
        try simp only [pz]
        refine wpAnyH_ready (rs := [17]) (by kernel_rfl) (by simp) ?_
        refine (AllReadyH.cons rfl (fun K hK => ?_) AllReadyH.nil)
        go_simp
        refine hK.out _ _ ?_ (fun hHeld => ?_)
        · (exact step_below ((Below.refl _ _).alloc (Nat.le_refl _) _) h9)
        clear hK K
        try simp only [pz]
        refine wpAnyH_ready (rs := [18]) (by kernel_rfl) (by simp) ?_
        refine (AllReadyH.cons rfl (fun K hK => ?_) AllReadyH.nil)
        go_simp
        refine hK.out _ _ ?_ (fun hHeld => ?_)
        · (exact step_below ((Below.refl _ _).alloc (Nat.le_refl _) _) h9)
        clear hK K
        try simp only [pz]
        refine wpAnyH_done (by kernel_rfl) ?_ _
        clear hHeld
        go_wp2_with fail
        go_meet
        case rel => exact ShR.mk1 hout h9 rfl
      · skip
        have h7 := hHeld
        go_simp
        refine hK.out _ _ ?_ (fun hHeld => ?_)
        · (exact step_below ((Below.refl _ _).alloc (Nat.le_refl _) _) h7)
        clear hK K
        try simp only [pz]
        obtain ⟨w4, hw4⟩ : ∃ x, x = (wr.alloc (.cells #[.int .i64 0, .slice none 0 0, .int .i64 0] 46)).drew := ⟨_, rfl⟩
        rw [← hw4] at hHeld ⊢
        have m0 : w4.cell? ⟨wr.heap.size, 0, none⟩ = some (.int .i64 0) := by rw [hw4]; simp [go_sem]
        have f0 : w4.frozen? ⟨wr.heap.size, 0, none⟩ = false := by rw [hw4]; simp [go_sem]
        have m1 : w4.cell? ⟨wr.heap.size, 1, none⟩ = some (.slice none 0 0) := by rw [hw4]; simp [go_sem]
        have f1 : w4.frozen? ⟨wr.heap.size, 1, none⟩ = false := by rw [hw4]; simp [go_sem]
        have m2 : w4.cell? ⟨wr.heap.size, 2, none⟩ = some (.int .i64 0) := by rw [hw4]; simp [go_sem]
        have f2 : w4.frozen? ⟨wr.heap.size, 2, none⟩ = false := by rw [hw4]; simp [go_sem]
        have mm : ∀ j, 3 ≤ j → w4.cell? ⟨wr.heap.size, j, none⟩ = none := fun j hj => by rw [hw4]; simp [go_sem, hj]
        have hlt4 : wr.heap.size < w4.heap.size := World.block_lt_of_cell? w4 _ m0
        clear hw4
        refine wpAnyH_ready (rs := [12]) (by kernel_rfl) (by simp) ?_
        refine (AllReadyH.cons rfl (fun K hK => ?_) AllReadyH.nil)
        have h8 := hHeld
        go_simp
        go_at_call 11
        refine (HRC.out _ h8).mono ?_
        rintro e w5 ⟨⟨sv, rfl, ov, hsv, hout⟩, hb5⟩
        subst hsv
        have hout2 := hout
        obtain ⟨ao, cap, hov, -, -⟩ := hout2
        subst hov
        go_wp2_with fail
        refine hK.out _ _ ?_ (fun hHeld => ?_)
        · (exact step_below hb5 h8)
        clear hK K
        try simp only [pz]
        refine wpAnyH_take (i := 13) (v := ?_) rfl (by kernel_rfl) (by kernel_rfl) (by kernel_rfl) (fun _ _ _ h => h) (Or.inl ⟨by rfl, ?_⟩) (by assumption) ?_
        case refine_2 => (intro w hSw; (try dsimp only at hSw); go_simp; try with_reducible rfl)
        show wpAnyH _ _ _ _ _ _ _ (Act.put _ (some 196) _) _
        simp only [pz]
        refine wpAnyH_take (i := 14) (v := ?_) rfl (by kernel_rfl) (by kernel_rfl) (by kernel_rfl) (fun _ _ _ h => h) (Or.inl ⟨by rfl, ?_⟩) (by assumption) ?_
        case refine_2 => (intro w hSw; (try dsimp only at hSw); go_simp; try with_reducible rfl)
        show wpAnyH _ _ _ _ _ _ _ (Act.put _ (some 210) _) _
        simp only [pz]
        refine wpAnyH_take (i := 15) (v := ?_) rfl (by kernel_rfl) (by kernel_rfl) (by kernel_rfl) (fun _ _ _ h => h) (Or.inl ⟨by rfl, ?_⟩) (by assumption) ?_
        case refine_2 => (intro w hSw; (try dsimp only at hSw); go_simp; try with_reducible rfl)
        show wpAnyH _ _ _ _ _ _ _ (Act.put _ (some 211) _) _
        simp only [pz]
        have hb9 : Below w4.heap.size w4 w5 := hb5
        have n0 := step_cell hb9 m0
        have o0 := frozenK hb9 hlt4 f0
        have n1 := step_cell hb9 m1
        have o1 := frozenK hb9 hlt4 f1
        have n2 := step_cell hb9 m2
        have o2 := frozenK hb9 hlt4 f2
        have hlt5 : wr.heap.size < w5.heap.size := World.block_lt_of_cell? w5 _ n0
        have h9 := hHeld
        refine wpAnyH_ready (rs := [17]) (by kernel_rfl) (by simp) ?_
        refine (AllReadyH.cons rfl (fun K hK => ?_) AllReadyH.nil)
        go_simp
        refine hK.out _ _ ?_ (fun hHeld => ?_)
        · (exact ((h9.setCell (Nat.le_refl _) _).setCell (Nat.le_refl _) _).setCell (Nat.le_refl _) _)
        clear hK K
        try simp only [pz]
        refine wpAnyH_ready (rs := [18]) (by kernel_rfl) (by simp) ?_
        refine (AllReadyH.cons rfl (fun K hK => ?_) AllReadyH.nil)
        go_simp
        refine hK.out _ _ ?_ (fun hHeld => ?_)
        · (exact ((h9.setCell (Nat.le_refl _) _).setCell (Nat.le_refl _) _).setCell (Nat.le_refl _) _)
        clear hK K
        try simp only [pz]
        refine wpAnyH_done (by kernel_rfl) ?_ _
        clear hHeld
        go_wp2_with fail
        go_meet
        case rel => exact ShR.mk2 (Nat.le_refl _) m0 m1 m2 mm hb9 hout h9 rfl
    case rest =>
      obtain ⟨bx, ao, cap, hs17, hs18, z0, z1, z2, hout, hbq⟩ := hcut
      subst hs17
      subst hs18
      obtain ⟨wd, hwd⟩ : ∃ wd, wd = wc := ⟨_, rfl⟩
      rw [← hwd] at hbq hout z0 z1 z2 ⊢
      have HBQ : Hid (Below wr.heap.size wr wd) := hbq
      have HSH : Hid (ShownIs wd (.agg #[.int .i64 rr.state, .slice ao rr.out.length cap, .int .i64 rr.steps]) rr.state rr.out rr.steps) := ⟨_, rfl, hout⟩
      have hbxl := World.block_lt_of_cell? wd _ z0
      have c := shownK rr HRO.out _ wd HSH.out
      clear hwd hbq hout q0 q1 q2 x0 e0
      go_wp2_with (go_at_call 12; refine c.mono ?_; rintro e w11 ⟨rfl, hb11⟩; have HB11 : Hid (Below wr.heap.size wr w11) := step_below hb11 HBQ.out; clear hb11)
      go_ret
      rw [HRL.out, HWA.out, if_pos HL1.out, ← HX.out, ← HRR.out]
      exact LineAns.same (HPR.out.below HB11.out) (step_below HB11.out HBR.out) hbase
end form
end Go.Proofs.YtikhedkhgpjaaabGreatDoor
