/- What drive.Play must answer. -/
import Derived.Test.YtikhedkhgpjaaabGreatDoorProg
import Derived.Test.YtikhedkhgpjaaabGreatDoorRows
import Derived.Stop.LaidErr
import Derived.Lib.LaidTab
import Derived.Deep.DeepHandedRow
import Derived.Deep.DeepWitnessRowRef
import Derived.KernelRfl
import Derived.Test.YtikhedkhgpjaaabGreatDoorCards
import Derived.Test.YtikhedkhgpjaaabGreatDoorTie
import Derived.ShutString
import Derived.ProofKit
import Derived.OpenShut
import Derived.JoinedCond
import Derived.Test.YtikhedkhgpjaaabGreatDoorW10
import Derived.Test.YtikhedkhgpjaaabGreatDoorW09
import Derived.Test.YtikhedkhgpjaaabGreatDoorW05
import Derived.Test.YtikhedkhgpjaaabGreatDoorW02

namespace Go.Proofs.YtikhedkhgpjaaabGreatDoor
set_option linter.unusedVariables false
namespace form
open Go.RowKit
def DriveSpec (L : Lay) : Prop := ∀ (s : List UInt8) (w : World), s.length ≤ 2000000 → VarOk w → Calls Tryz.prog 6 #[.string (str s)] w fun e w' => e = .returned (.string (str (playL L s))) ∧ Below w.heap.size w w'
end form
/- What of the library's variables a script's road reads: out of what the rows list; a world in which they lie so. -/
namespace form
open Go.RowKit
set_option maxRecDepth 100000
theorem gPow : Tryz.prog.globalNamed "internal/strconv.uint64pow10" = some 3 := by kernel_rfl
theorem gPowT : (Tryz.prog.globals[3]?).map (·.type) = some 237 := by kernel_rfl
theorem gSyn : Tryz.prog.globalNamed "strconv.ErrSyntax" = some 1 := by kernel_rfl
theorem gSynT : (Tryz.prog.globals[1]?).map (·.type) = some 69 := by kernel_rfl
theorem gRng : Tryz.prog.globalNamed "strconv.ErrRange" = some 2 := by kernel_rfl
theorem gRngT : (Tryz.prog.globals[2]?).map (·.type) = some 69 := by kernel_rfl
theorem starE : "*" ++ "errors.errorString" = "*errors.errorString" := by decide
theorem rowErr (u : TypeId) (h : Tryz.prog.typeName? 3 u = some "*errors.errorString") : u = 240 :=
  typeName_ptr_named (nm := "errors.errorString") (by rw [starE]; kernel_rfl) (by kernel_rfl) (by decide) u (by rw [starE]; exact h)
theorem laid_var {W : World} (h : laidMetH Tryz.prog Rows.driveTellsRow.laid W) : VarOk W := by
  have h0 : laidMet Tryz.prog Rows.driveTellsRow.laid W := h
  have h1 : laidMet Tryz.prog (("internal/strconv.uint64pow10", Rows.laid_internal_strconv_uint64pow10) :: [("strconv.ErrRange", Rows.laid_strconv_ErrRange), ("strconv.ErrSyntax", Rows.laid_strconv_ErrSyntax)]) W := h0.tail.tail
  obtain ⟨a1, s1, hv1, -, -, -⟩ := laid_sentinel h1.tail gRng gRngT Tryz.underlying69 rowErr Tryz.underlying240 Tryz.underlying242 rfl rfl Tryz.underlying9 (by kernel_rfl) (by kernel_rfl)
  obtain ⟨a2, s2, hv2, -, -, -⟩ := laid_sentinel h1.tail.tail gSyn gSynT Tryz.underlying69 rowErr Tryz.underlying240 Tryz.underlying242 rfl rfl Tryz.underlying9 (by kernel_rfl) (by kernel_rfl)
  refine ⟨?_, ⟨_, _, hv2⟩, ⟨_, _, hv1⟩⟩
  exact Lib.tabIs_of_head (rest := [("strconv.ErrRange", Rows.laid_strconv_ErrRange), ("strconv.ErrSyntax", Rows.laid_strconv_ErrSyntax)]) (zs := Lib.pow10Tab) gPow gPowT Tryz.underlying237 Tryz.underlying86 (by kernel_rfl) (by kernel_rfl) h1
noncomputable def low : Nat := (World.holding Tryz.prog default ⟨#[], #[], []⟩).heap.size
noncomputable def laidWorld (os : Os) : World :=
  let w0 := World.holding Tryz.prog os ⟨#[.cells #[.string ⟨#[105, 110, 118, 97, 108, 105, 100, 32, 115, 121, 110, 116, 97, 120]⟩] 242, .cells #[.string ⟨#[118, 97, 108, 117, 101, 32, 111, 117, 116, 32, 111, 102, 32, 114, 97, 110, 103, 101]⟩] 242], #[], []⟩
  { w0 with heap := ((((w0.heap.modify 1 fun
      | .cells _ t frozen => .cells #[.iface 240 (.pointer (some ⟨low, 0, none⟩))] t frozen
      | o => o).modify 2 fun
      | .cells _ t frozen => .cells #[.iface 240 (.pointer (some ⟨low + 1, 0, none⟩))] t frozen
      | o => o).modify 3 fun
      | .cells _ t frozen => .cells #[.int .u64 1, .int .u64 10, .int .u64 100, .int .u64 1000, .int .u64 10000, .int .u64 100000, .int .u64 1000000, .int .u64 10000000, .int .u64 100000000, .int .u64 1000000000, .int .u64 10000000000, .int .u64 100000000000, .int .u64 1000000000000, .int .u64 10000000000000, .int .u64 100000000000000, .int .u64 1000000000000000, .int .u64 10000000000000000, .int .u64 100000000000000000, .int .u64 1000000000000000000, .int .u64 10000000000000000000] t frozen
      | o => o).modify 4 fun
      | .cells _ t frozen => .cells #[.int .u8 0, .int .u8 1, .int .u8 28, .int .u8 2, .int .u8 29, .int .u8 14, .int .u8 24, .int .u8 3, .int .u8 30, .int .u8 22, .int .u8 20, .int .u8 15, .int .u8 25, .int .u8 17, .int .u8 4, .int .u8 8, .int .u8 31, .int .u8 27, .int .u8 13, .int .u8 23, .int .u8 21, .int .u8 19, .int .u8 16, .int .u8 7, .int .u8 26, .int .u8 12, .int .u8 18, .int .u8 6, .int .u8 11, .int .u8 5, .int .u8 10, .int .u8 9] t frozen
      | o => o).modify 5 fun
      | .cells _ t frozen => .cells #[.int .u8 0, .int .u8 1, .int .u8 56, .int .u8 2, .int .u8 57, .int .u8 49, .int .u8 28, .int .u8 3, .int .u8 61, .int .u8 58, .int .u8 42, .int .u8 50, .int .u8 38, .int .u8 29, .int .u8 17, .int .u8 4, .int .u8 62, .int .u8 47, .int .u8 59, .int .u8 36, .int .u8 45, .int .u8 43, .int .u8 51, .int .u8 22, .int .u8 53, .int .u8 39, .int .u8 33, .int .u8 30, .int .u8 24, .int .u8 18, .int .u8 12, .int .u8 5, .int .u8 63, .int .u8 55, .int .u8 48, .int .u8 27, .int .u8 60, .int .u8 41, .int .u8 37, .int .u8 16, .int .u8 46, .int .u8 35, .int .u8 44, .int .u8 21, .int .u8 52, .int .u8 32, .int .u8 23, .int .u8 11, .int .u8 54, .int .u8 26, .int .u8 40, .int .u8 15, .int .u8 34, .int .u8 20, .int .u8 31, .int .u8 10, .int .u8 25, .int .u8 14, .int .u8 19, .int .u8 9, .int .u8 13, .int .u8 8, .int .u8 7, .int .u8 6] t frozen
      | o => o }
theorem laidWorld_met (os : Os) (args : Array Value) : laidMet Tryz.prog Rows.driveTellsRow.laid ((laidWorld os).forCall (fun _ _ => 0) ⟨#[], args, []⟩).memory :=
  laidMet_of_run' 8 (by kernel_rfl) (by kernel_rfl)
end form
/- loanbookkeep.DriveTells, out of what the program's own drive.Play answers. -/
namespace driveTells
open Go.ChangeShapes Go.WideShapes Go.ChangeAt Go.RowKit
open Go.ChangeMaps (open_string shut_string)
open form
set_option maxRecDepth 100000
attribute [local go_sem ↓] Go.wp_at_zero Go.wp_at_succ
attribute [local go_sem] str_size str_list ByteArray.toList_mk
theorem own : ownKnob Tryz.prog.godebug = none := by kernel_rfl
theorem laidOut : laidOutB Tryz.prog = true := by kernel_rfl
theorem split_last (s : List UInt8) : (splitL 10 s).getD ((splitL 10 s).length - 1) [] = (splitA 10 s).2 := by
  unfold splitL
  simp [List.getD]
theorem lines_short {s : List UInt8} (h : (splitA 10 s).2 = []) : linesL s = (splitL 10 s).take ((splitL 10 s).length - 1) := by
  unfold linesL
  rw [if_pos h]
  unfold splitL
  simp
theorem lines_long {s : List UInt8} (h : ¬ (splitA 10 s).2 = []) : linesL s = splitL 10 s := by
  unfold linesL
  rw [if_neg h]
theorem take_more {α : Type} {l : List α} {i : Nat} {d : α} (hi : i < l.length) : l.take (i + 1) = l.take i ++ [l.getD i d] := by
  rw [List.take_succ_eq_append_getElem hi]
  simp [List.getD, hi]
theorem new_player (w : World) : PlS w.heap.size w.heap.size ⟨[], [], []⟩ (.slice none 0 0) (.slice none 0 0) (.slice none 0 0) (w.alloc (.cells #[.slice none 0 0, .slice none 0 0, .slice none 0 0] 31)) :=
  ⟨Nat.le_refl _, by simp [go_sem], by simp [go_sem], by simp [go_sem], by simp [go_sem], by simp [go_sem], by simp [go_sem], World.ownsRow_nil _ _ _ _, World.ownsRow_nil _ _ _ _, World.ownsRow_nil _ _ _ _, by simp [Value.ownBlock], by simp [Value.ownBlock], by simp [Value.ownBlock], Or.inl rfl, Or.inl rfl, Or.inl rfl, by simp, by simp, by simp, fun i h => by simp at h, fun i h => by simp at h⟩
structure DtS (L : Lay) (base q : Nat) (LL : List (List UInt8)) (w1 : World) (i : Nat) (wr : World) : Prop where
  pl : ∃ wv cv iv, PlS base q (goL L (LL.take i)).1 wv cv iv wr
  bel : Below base w1 wr
set_option maxHeartbeats 1600000 in
theorem walk (L : Lay) (hL : LayIs L) (hN : LayLen L) (hD : DriveSpec L) (s : List UInt8) (hs : s.length ≤ 1048576) (w : World) (hv : VarOk w) :
    Calls Tryz.prog 3 #[.string (str s)] w fun e w' => e = .returned (.bool true) ∧ Below w.heap.size w w' := by
  have HL : Hid (LayIs L) := hL
  have HN : Hid (LayLen L) := hN
  have HD : Hid (DriveSpec L) := hD
  have HV : Hid (VarOk w) := hv
  have HSK : Hid (∀ wx : World, Calls Tryz.prog 4 #[.string (str s), .int .u8 10] wx fun e w' => ∃ v, e = .returned v ∧ StS wx wx.heap.size (splitL 10 s) v w') := fun wx => splitK s 10 (by omega) wx
  have HW1 : Hid (1 ≤ (splitL 10 s).length) := splitL_pos 10 s
  have HWL : Hid ((splitL 10 s).length ≤ s.length + 1) := splitL_len 10 s
  have HWE : Hid (∀ p, p ∈ splitL 10 s → p.length ≤ s.length) := splitL_each 10 s
  have HLA : Hid ((splitL 10 s).getD ((splitL 10 s).length - 1) [] = (splitA 10 s).2) := split_last s
  have HSH : Hid ((splitA 10 s).2 = [] → linesL s = (splitL 10 s).take ((splitL 10 s).length - 1)) := lines_short
  have HLO : Hid (¬ (splitA 10 s).2 = [] → linesL s = splitL 10 s) := lines_long
  clear hL hN hD hv
  obtain ⟨W, hW⟩ : ∃ W, W = splitL 10 s := ⟨_, rfl⟩
  rw [← hW] at HSK HW1 HWL HWE HLA HSH HLO
  clear hW
  obtain ⟨la, hla⟩ : ∃ la, la = (splitA 10 s).2 := ⟨_, rfl⟩
  rw [← hla] at HLA HSH HLO
  clear hla
  have hW1 := HW1.out
  have hWz : (W.length : Int) ≤ 1048577 := by have := HWL.out; omega
  go_enter Tryz.func3, Tryz.ntmps3
  go_upto_region 2 with (go_at_call 4; refine (HSK.out _).mono ?_; rintro e w1 ⟨v, rfl, hst⟩; have HST : Hid (StS w w.heap.size W v w1) := hst; clear hst)
  obtain ⟨bw, capw, hv, hbwge, hbwlt⟩ := HST.out.own.form hW1
  subst hv
  have hcap : W.length ≤ capw := by
    obtain ⟨ao, c, e, h, -⟩ := row_form HST.out.own
    cases e
    exact h
  have HWC : Hid (∀ j, j < W.length → w1.cell? ⟨bw, j, none⟩ = some (.string (str (W.getD j [])))) := fun j hj => by
    rw [World.ownsRow.cellAt HST.out.own j (by omega)]
    simp [List.getD, hj]
  have HB1 : Hid (Below w.heap.size w w1) := HST.out.bel
  obtain ⟨m, hm⟩ : ∃ m, W.length = m + 1 := ⟨W.length - 1, by omega⟩
  have HM : Hid (W.length = m + 1) := hm
  have d0 := HWC.out m (by omega)
  have hlm : W.getD m [] = la := by
    have h := HLA.out
    rw [hm] at h
    exact h
  rw [hlm] at d0
  rw [hm] at hcap ⊢
  obtain ⟨LL, hLL⟩ : ∃ LL, LL = linesL s := ⟨_, rfl⟩
  have HLL : Hid (LL = linesL s) := hLL
  have HL0 : Hid (la = [] → LL.length = m ∧ ∀ j, j < LL.length → LL.getD j [] = W.getD j []) := fun h => by
    have h2 := HSH.out h
    rw [hm] at h2
    rw [hLL, h2]
    have e : (W.take (m + 1 - 1)).length = m := by rw [List.length_take, hm]; omega
    refine ⟨e, fun j hj => ?_⟩
    rw [e] at hj
    simp [List.getD, hj]
  have HL9 : Hid (¬ la = [] → LL.length = m + 1 ∧ ∀ j, j < LL.length → LL.getD j [] = W.getD j []) := fun h => by
    have h2 := HLO.out h
    rw [hLL, h2]
    exact ⟨hm, fun _ _ => rfl⟩
  have hmz : (m : Int) ≤ 1048576 := by omega
  have hbwl : bw < w1.heap.size := hbwlt
  clear hWz hW1 hm hlm hLL HLA HSH HLO
  go_upto_if 16 with fail
  go_cut [3] (fun s3 wq => s3 = .slice (some ⟨bw, 0, none⟩) LL.length capw ∧ LL.length ≤ m + 1 ∧ (∀ j, j < LL.length → LL.getD j [] = W.getD j []) ∧ wq = w1)
  case first =>
    by_cases hle : la = []
    · have hlz : la.isEmpty = true := by simp [hle]
      have hmc : (m : Int) ≤ (capw : Int) := by omega
      have HLE : Hid (la = []) := hle
      rw [hlz]
      clear hle
      go_wp2_with fail
      go_meet
      case rel => exact ⟨by rw [(HL0.out HLE.out).1], by have := (HL0.out HLE.out).1; omega, (HL0.out HLE.out).2, rfl⟩
    · have hlz : la.isEmpty = false := by simpa using hle
      have HLE : Hid (¬ la = []) := hle
      rw [hlz]
      clear hle
      go_wp2_with fail
      go_meet
      case rel => exact ⟨by rw [(HL9.out HLE.out).1], by have := (HL9.out HLE.out).1; omega, (HL9.out HLE.out).2, rfl⟩
  case rest =>
    obtain ⟨hs3, hLm, hLg, hwq⟩ := hcut
    subst hs3
    obtain rfl := hwq.symm
    have HLG : Hid (∀ j, j < LL.length → LL.getD j [] = W.getD j []) := hLg
    have HLM : Hid (LL.length ≤ m + 1) := hLm
    have hLz : (LL.length : Int) ≤ 1048577 := by omega
    have hLz2 : LL.length ≤ 1048577 := by omega
    clear hwq hLg hLm hmz d0 HL0 HL9
    go_wp2
    obtain ⟨w2, hw2⟩ : ∃ z, z = w1.alloc (.cells #[.slice none 0 0, .slice none 0 0, .slice none 0 0] 31) := ⟨_, rfl⟩
    have HPN : Hid (PlS w1.heap.size w1.heap.size ⟨[], [], []⟩ (.slice none 0 0) (.slice none 0 0) (.slice none 0 0) w2) := by
      show PlS w1.heap.size w1.heap.size _ _ _ _ w2
      rw [hw2]; exact new_player w1
    have HB2 : Hid (Below w1.heap.size w1 w2) := by
      show Below w1.heap.size w1 w2
      rw [hw2]; exact (Below.refl _ _).alloc (Nat.le_refl _) _
    rw [← hw2]
    clear hw2
    go_loopg [5, 6, 7] (LL.length + 1) (fun gg v5 v v7 wr => ∃ (i : Nat), v = .int .i64 i ∧ v5 = .string (str (goL L (LL.take i)).2) ∧ i ≤ LL.length ∧ i ≤ 60 ∧ gg = LL.length + 1 - i ∧ (goL L (LL.take i)).2.length ≤ i * 21000042 ∧ DtS L w1.heap.size w1.heap.size LL w1 i wr)
    case atStart => exact ⟨0, rfl, rfl, by omega, by omega, by omega, by simp [goL], ⟨_, _, _, HPN.out⟩, HB2.out⟩
    case round =>
      obtain ⟨i, rfl, rfl, hi, hi60, hgk, hlen, hdt⟩ := hrel
      have HGK : Hid (gk = LL.length + 1 - i) := hgk
      obtain ⟨G, hG⟩ : ∃ G, G = goL L (LL.take i) := ⟨_, rfl⟩
      have HG : Hid (G = goL L (LL.take i)) := hG
      obtain ⟨⟨wv, cv, iv, hpl⟩, hbr⟩ := hdt
      rw [← hG] at hlen hpl ⊢
      have HPL : Hid (PlS w1.heap.size w1.heap.size G.1 wv cv iv wr) := hpl
      have HBR : Hid (Below w1.heap.size w1 wr) := hbr
      obtain ⟨t, ht⟩ : ∃ t, t = G.2 := ⟨_, rfl⟩
      rw [← ht] at hlen ⊢
      have HT : Hid (t = G.2) := ht
      have htl : t.length ≤ 1260002520 := by omega
      have HTL : Hid (t.length ≤ i * 21000042) := hlen
      clear hgk hG hpl hbr ht hlen
      by_cases hgo : i < LL.length ∧ i < 60
      case neg =>
        have hfin : LL.take i = LL.take 60 := by
          by_cases h : i < LL.length
          · have : i = 60 := by
              have h6 : ¬ i < 60 := fun h6 => hgo ⟨h, h6⟩
              omega
            rw [this]
          · rw [List.take_of_length_le (by omega), List.take_of_length_le (by omega)]
        have heq : (playL L s == t) = true := by
          have e : playL L s = t := by
            unfold playL
            rw [HT.out, HG.out, ← HLL.out, hfin]
          rw [e]; simp
        have c := HD.out s wr (by omega) (HV.out.on (HB1.out.trans (HBR.out.mono HB1.out.size)))
        obtain ⟨ps, hps⟩ : ∃ x, x = playL L s := ⟨_, rfl⟩
        rw [← hps] at c heq
        clear hps hfin
        have hcase : (i : Int) < (LL.length : Int) ∧ ¬ (i : Int) < 60 ∨ ¬ (i : Int) < (LL.length : Int) := by omega
        clear hgo
        rcases hcase with ⟨hz1, hz2⟩ | hz1
        all_goals
          go_wp2_with (go_at_call 6; refine c.mono ?_; rintro e w9 ⟨rfl, hb9⟩; have HB9 : Hid (Below w.heap.size w w9) := step_below hb9 (HB1.out.trans (HBR.out.mono HB1.out.size)); clear hb9)
          go_ret
          exact ⟨rfl, HB9.out⟩
      have hz1 : (i : Int) < (LL.length : Int) := by omega
      have hz2 : (i : Int) < 60 := by omega
      have HGO : Hid (i < LL.length ∧ i < 60) := hgo
      obtain ⟨p, hp⟩ : ∃ p, p = LL.getD i [] := ⟨_, rfl⟩
      have HP : Hid (p = LL.getD i []) := hp
      have hLm := HM.out
      have hLm2 := HLM.out
      have hpW : p = W.getD i [] := by rw [hp]; exact HLG.out i hgo.1
      have d0 := step_cell HBR.out (HWC.out i (by omega))
      rw [← hpW] at d0
      have hdl := World.block_lt_of_cell? wr _ d0
      have hpl : p.length ≤ 2000000 := by
        have h := HWE.out p (by rw [hpW]; simp [List.getD, show i < W.length by omega])
        omega
      have c := lineK L HL.out HPL.out p hpl
      obtain ⟨r, hr⟩ : ∃ r, r = lineL L G.1 p := ⟨_, rfl⟩
      have hrl : r.2.length ≤ 21000041 := by rw [hr]; exact line_len HL.out HN.out HPL.out.bw HPL.out.bc HPL.out.oc HPL.out.oi hpl
      rw [← hr] at c
      have HR : Hid (r = lineL L G.1 p) := hr
      obtain ⟨a, ha⟩ : ∃ a, a = r.2 := ⟨_, rfl⟩
      rw [← ha] at hrl
      have HA : Hid (a = r.2) := ha
      have e10 : (⟨#[10]⟩ : ByteArray) = str [10] := rfl
      have ha1 := fun w => run_add_str (P := Tryz.prog) w t a (by omega)
      have ha2 := fun w => run_add_str (P := Tryz.prog) w (t ++ a) [10] (by simp; omega)
      rw [← e10] at ha2
      clear hgo hp hpW hr ha hLm hLm2
      go_wp2_with (go_at_call 5; refine c.mono ?_; rintro e w9 ⟨rfl, ⟨wv9, cv9, iv9, hpl9⟩, hb9⟩; rw [← HA.out]; have HP9 : Hid (PlS w1.heap.size w1.heap.size r.1 wv9 cv9 iv9 w9) := hpl9; have HB9 : Hid (Below w1.heap.size wr w9) := hb9; clear hpl9 hb9)
      have hgk := HGK.out
      have hgo := HGO.out
      go_roundg (gk - 1)
      case measure => omega
      case rel =>
        have e : goL L (LL.take (i + 1)) = (r.1, (t ++ a) ++ [10]) := by
          rw [take_more (d := []) hgo.1, ← HP.out, goL_snoc, ← HG.out, ← HR.out, ← HT.out, ← HA.out]
        refine ⟨i + 1, by go_num, ?_, by omega, by omega, by omega, ?_, ⟨wv9, cv9, iv9, ?_⟩, HBR.out.trans HB9.out⟩
        · rw [e]
          first | rfl | (rw [e10, str_add, str_add])
        · rw [e]
          have := HTL.out
          simp
          omega
        · rw [e]
          exact HP9.out
theorem short {H : Type} {s : ByteArray} (hk : Rows.uptoSmall H [.lit (.string s.data.toList)] = true) : s.data.toList.length ≤ 1048576 := by
  have h : Rows.uptoBulkAll [DataW.lit (H := H) (.string s.data.toList)] ≤ 1048576 := of_decide_eq_true hk
  simp only [Rows.uptoBulkAll, Rows.uptoBulk] at h
  omega
theorem contract (L : Lay) (hL : LayIs L) (hN : LayLen L) (hD : DriveSpec L) (H : Type) (enc : TypeId × Value → H) (W : World) (base : Nat) (args : Array Value) (ds gs : List (DataW H)) (before : List MemPlace)
    (hval0 : ∀ (j : Nat) t v, Tryz.f3.params[j]? = some t → args[j]? = some v → Value.okWide Tryz.prog W .any base t v)
    (hW : DataW.Whole enc Tryz.prog Tryz.f3.params.toList Rows.driveTellsSpec.vars false W args.toList ds gs before) (hk : Rows.uptoSmall H (ds ++ gs) = true) (hLd : laidMetH Tryz.prog Rows.driveTellsRow.laid W) :
    Calls Tryz.prog 3 args W fun e W' => ∃ v, e = .returned v ∧ Rows.driveTellsSpec.post enc Tryz.prog Tryz.f3 false true false false W args v W' := by
  have hval := hval0
  have hW' := hW
  obtain ⟨p, q, hA0, hV, rfl, hfz, hnd⟩ := hW
  have hA : DataW.TrodAll enc Tryz.prog W 0 (fun _ => true) true Tryz.f3.params.toList args.toList ds p := hA0
  rw [Tryz.params3] at hA hval
  obtain ⟨v0, vs0, d0, ds0, p0, q0, hargs, rfl, rfl, h0, r0⟩ := trodAll_cons hA
  obtain ⟨rfl, rfl, rfl⟩ := trodAll_nil r0
  obtain rfl : args = #[v0] := by cases args; simp_all
  obtain ⟨rfl, rfl⟩ := trodVars_none hV
  have k0 := h0
  have lt0 : ∀ x ∈ p0, x.block < W.heap.size := by obtain ⟨m, hm⟩ := k0; exact DataW.trod_lt m _ _ _ hm
  obtain ⟨s, rfl, rfl, rfl, hmax⟩ := open_string Tryz.underlying9 (hval 0 9 v0 rfl rfl) h0
  have hlen := short (by simpa using hk)
  have es : s = str s.data.toList := by cases s; simp [str]
  clear hA0 hval0
  have hwk := walk L hL hN hD s.data.toList hlen W (laid_var hLd)
  rw [← es] at hwk
  refine hwk.mono fun e W' ⟨he, bel⟩ => ?_
  subst he
  exact ⟨_, rfl, _, _, _, [], _, [], hW', trodAll_mk1 (shut_bool Tryz.underlying4 _),
    (trodAll_cons_mk (Below.trod laidOut (by kernel_rfl) (of_decide_eq_true (by kernel_rfl)) k0 bel lt0) trodAll_mk0), rfl, bel.frame _, fun h => by cases h⟩
theorem reads (os : Os) {H : Type} (enc : TypeId × Value → H) : ∃ places, DataW.whole enc Tryz.prog ((laidWorld os).forCall (fun _ _ => 0) ⟨#[], #[.string .empty], []⟩).memory Tryz.f3.params.toList Rows.driveTellsSpec.vars false #[Value.string .empty].toList 8 = some ([.lit (.string [])], [], places) :=
  ⟨[], by kernel_rfl⟩
theorem lifted (L : Lay) (hL : LayIs L) (hN : LayLen L) (hD : DriveSpec L) (os : Os) (started : os.Started) (H : Type) (enc : TypeId × Value → H) (F : Stop.Interp) :
    ReturnsInHanded {} Tryz.checked os 3 .any ((Rows.OpenSpec.upto Rows.driveTellsSpec).preRow enc Tryz.prog Tryz.f3 Rows.driveTellsUptoRow.domain false Rows.driveTellsUptoRow.laid) (((Rows.OpenSpec.upto Rows.driveTellsSpec).at F).post enc Tryz.prog Tryz.f3 false true false false) := by
  obtain ⟨places, hx⟩ := reads os enc
  refine returnsInHanded_of_row (C := Tryz.checked) (s := Rows.OpenSpec.upto Rows.driveTellsSpec) own started (by kernel_rfl) Tryz.func3
    (witness_row_atRef (enc := enc) (C := Tryz.checked) false (laidWorld os) #[.string .empty] rfl (by kernel_rfl) (by kernel_rfl) (by kernel_rfl)
      (OpenSpec.preRow_of_cond 8 hx (by kernel_rfl) (fun k hk => by cases hk; kernel_rfl) (by kernel_rfl) (laidWorld_met os _))) ?_
  intro W base args ds gs before hval hW _ hcond _ hLd _ _
  exact contract L hL hN hD H enc W base args ds gs before hval hW (hcond _ rfl) hLd
theorem over (L : Lay) (hL : LayIs L) (hN : LayLen L) (hD : DriveSpec L) : Rows.DriveTellsUptoSaid :=
  OpenClaim.holds_of_cond 3 Tryz.f3 rfl rfl rfl rfl rfl rfl rfl ⟨rfl, rfl, rfl, rfl, rfl⟩ rfl rfl rfl rfl rfl (by kernel_rfl) Tryz.func3 (by kernel_rfl)
    (of_decide_eq_true (by kernel_rfl)) (by unfold Func.isWrapper; first | (rw [if_pos (by decide +kernel)]; kernel_rfl) | (rw [if_neg (by decide +kernel)]; exact ⟨rfl, rfl⟩))
    (fun os started H enc _ F => by rw [OpenClaim.pre_eq_preRow]; exact lifted L hL hN hD os started H enc F)
theorem plain (f : FuncId) (fn : Func) (hf : Tryz.pinned.checked.prog.funcNamed "loanbook/loanbookkeep.DriveTells" = some f) (hfn : Tryz.pinned.checked.prog.funcs[f]? = some fn) :
    true = Tryz.pinned.checked.prog.looks [] ∧ ∀ (j : Nat) t, fn.params[j]? = some t → Tryz.pinned.checked.prog.wantsStandIn t = false := by
  obtain rfl : f = 3 := Option.some.inj ((show Tryz.prog.funcNamed "loanbook/loanbookkeep.DriveTells" = some 3 by kernel_rfl).symm.trans hf) |>.symm
  obtain rfl : fn = Tryz.f3 := (Option.some.inj (Tryz.func3.symm.trans hfn)).symm
  refine ⟨by kernel_rfl, fun j t ht => ?_⟩
  rw [Tryz.params3] at ht
  obtain rfl : t = 9 := by simpa using Array.mem_of_getElem? ht
  exact (show Tryz.prog.wantsStandIn 9 = false by kernel_rfl)
theorem card (L : Lay) (hL : LayIs L) (hN : LayLen L) (hD : DriveSpec L) : Rows.DriveTellsUptoCardSaid :=
  Claim7.holds_tied_plain_at .later [] _ _ _ _ (over L hL hN hD) (fun _ h => by cases h) (by kernel_rfl) (fun _ h => by cases h) driveTellsUpto_row_tie rfl ⟨rfl, rfl⟩ (by kernel_rfl) rfl plain (by kernel_rfl)
end driveTells
/- The machine on plain numbers keeps within its bounds, step by step. -/
namespace form
open Go.RowKit num
theorem u64_wrap (x : Int) : U64i (IntKind.u64.wrap x) := by
  have e : IntKind.u64.wrap x = x % 18446744073709551616 := by simp [IntKind.wrap, IntKind.bits, IntKind.signed]
  unfold U64i
  rw [e]
  omega
theorem gvI_bd (i : LIns) (a b x : Int) (ha : U64i a) (hb : U64i b) (hx0 : 0 ≤ x) (hx1 : x < 4294967296) (hn0 : 0 ≤ i.n) (hn1 : i.n < 4294967296) : U64i (gvI i a b x) := by
  unfold gvI
  split
  · exact ⟨hn0, by omega⟩
  split
  · exact ha
  split
  · exact ⟨hx0, by omega⟩
  split
  · exact u64_wrap _
  split
  · have := ha.1; have := ha.2; exact ⟨by omega, by omega⟩
  split
  · have := ha.1; have := ha.2; exact ⟨by omega, by omega⟩
  split
  · exact opR_u64_bd _ _ _ ha.1 ha.2 hb.1 hb.2
  · have := opR_u32_bd (i.op - 20) a b; exact ⟨this.1, by omega⟩
theorem getD_set_bd {l : List Int} {k : Nat} {x : Int} (h : ∀ j, U64i (l.getD j 0)) (hx : U64i x) : ∀ j, U64i ((l.set k x).getD j 0) := by
  intro j
  by_cases hj : j < l.length
  · by_cases hk : k = j
    · subst hk; simpa [List.getD, hj] using hx
    · have := h j
      simpa [List.getD, hj, List.getElem_set, hk] using this
  · have : (l.set k x).getD j 0 = 0 := by simp [List.getD, List.getElem?_eq_none (show (l.set k x).length ≤ j by simp; omega)]
    rw [this]; exact ⟨by omega, by omega⟩
theorem inOf_bd {ins : List Int} (h : ∀ j, j < ins.length → 0 ≤ ins.getD j 0 ∧ ins.getD j 0 < 4294967296) (k : Nat) : 0 ≤ inOf ins k ∧ inOf ins k < 4294967296 := by
  unfold inOf
  by_cases hk : k < ins.length
  · exact h k hk
  · rw [show ins.getD k 0 = 0 by simp [List.getD, List.getElem?_eq_none (show ins.length ≤ k by omega)]]; omega
end form
end Go.Proofs.YtikhedkhgpjaaabGreatDoor
