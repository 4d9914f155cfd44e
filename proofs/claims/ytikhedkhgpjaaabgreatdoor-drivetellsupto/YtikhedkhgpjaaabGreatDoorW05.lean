/- What the functions on numbers come to: the document's. -/
import Derived.Test.YtikhedkhgpjaaabGreatDoorProg
import Derived.OwnWalk
import Derived.Below
import Derived.Test.YtikhedkhgpjaaabGreatDoorW03
import Derived.Test.YtikhedkhgpjaaabGreatDoorW04
import Derived.Test.YtikhedkhgpjaaabGreatDoorW02
import Derived.Test.YtikhedkhgpjaaabGreatDoorW01

namespace Go.Proofs.YtikhedkhgpjaaabGreatDoor
set_option linter.unusedVariables false
namespace num
open Go.RowKit
theorem ret_int {k : IntKind} {a b : Int} (h : a = b) : Ending.returned (.int k a) = .returned (.int k b) := by rw [h]
end num
/- What the document's functions on runs answer: Wrong, Gives, Next, Same. -/
namespace form
open Go.RowKit num
attribute [local go_sem ↓] Go.wp_at_zero Go.wp_at_succ
def wrongI (B : List Bool) (C : List LIns) (nI : Nat) (steps : Int) : Int :=
  if refMayB B C = false then 2 else if 40 < nI then 1 else if steps < 0 ∨ 3000 < steps then 3 else 0
theorem wrap64_of (x : Int) (h : 0 ≤ x) (h' : x < 18446744073709551616) : IntKind.u64.wrap x = x := by
  obtain ⟨n, rfl⟩ := Int.eq_ofNat_of_zero_le h
  rw [wrap_u64_nat]
  omega
theorem opR_u32_bd (op a b : Int) : 0 ≤ opR .u32 op (a % 4294967296) (b % 4294967296) ∧ opR .u32 op (a % 4294967296) (b % 4294967296) < 4294967296 := by
  rw [← opR_cut op (a % 4294967296) (b % 4294967296) (by omega) (by omega) (by omega) (by omega)]
  omega
def U64i (x : Int) : Prop := 0 ≤ x ∧ x < 18446744073709551616
def OutIs (w : World) (v : Value) (l : List Int) : Prop :=
  ∃ ao cap, v = .slice ao l.length cap ∧ l.length ≤ 1000000 ∧ (0 < l.length → ∃ b o, ao = some ⟨b, o, none⟩ ∧ b < w.heap.size ∧ ∀ j, j < l.length → w.cell? ⟨b, o + j, none⟩ = some (.int .u32 (l.getD j 0)))
def ShownIs (w : World) (v : Value) (st : Int) (l : List Int) (k : Int) : Prop := ∃ ov, v = .agg #[.int .i64 st, ov, .int .i64 k] ∧ OutIs w ov l
theorem OutIs.later {w w' : World} {v : Value} {l : List Int} (h : OutIs w v l) (hb : Below w.heap.size w w') : OutIs w' v l := by
  obtain ⟨ao, cap, hv, hl, hc⟩ := h
  refine ⟨ao, cap, hv, hl, fun h0 => ?_⟩
  obtain ⟨b, o, e, hlt, hcell⟩ := hc h0
  exact ⟨b, o, e, Nat.lt_of_lt_of_le hlt hb.size, fun j hj => step_cell hb (hcell j hj)⟩
end form
/- What a run's answer reads (loanbookkeep: shown). -/
namespace form
open Go.RowKit
set_option maxRecDepth 100000
attribute [local go_sem ↓] Go.wp_at_zero Go.wp_at_succ
attribute [local go_sem] str_size str_list
structure RunOk (r : RunR) : Prop where
  e0 : 0 ≤ r.err
  e1 : r.err < 9223372036854775808
  s0 : 0 ≤ r.state
  s1 : r.state < 9223372036854775808
  k0 : 0 ≤ r.steps
  k1 : r.steps < 9223372036854775808
  o : ∀ x, x ∈ r.out → 0 ≤ x ∧ x < 4294967296
theorem said_one (wd : List UInt8) (x : Int) (hwd : wd.length ≤ 30000000) (h0 : 0 ≤ x) (h1 : x < 9223372036854775808) (b cap : Nat) (w : World) (hc : w.cell? ⟨b, 0, none⟩ = some (.int .i64 x)) :
    Calls Tryz.prog 8 #[.string (str wd), .slice (some ⟨b, 0, none⟩) 1 cap] w fun e w' => e = .returned (.string (str (saidL wd [x.toNat]))) ∧ Below w.heap.size w w' :=
  saidK wd [x.toNat] hwd (by simp) (fun y hy => by have : y = x.toNat := (by simpa using hy); omega) _ cap w (fun _ => ⟨b, rfl, fun j hj => by
    have : j = 0 := by simpa using hj
    subst this
    rw [hc]
    have : ((x.toNat : Nat) : Int) = x := by omega
    simp [this]⟩)
theorem saidL_outs (wd : List UInt8) (l : List Int) (x : Int) : saidL wd ((l ++ [x]).map Int.toNat) = saidL (saidL wd (l.map Int.toNat)) [x.toNat] := by simp [saidL]
theorem saidL_lenO (wd : List UInt8) (l : List Int) (h : ∀ x, x ∈ l → 0 ≤ x ∧ x < 4294967296) : (saidL wd (l.map Int.toNat)).length ≤ wd.length + 21 * l.length := by
  have := saidL_len wd (l.map Int.toNat) (fun x hx => by
    obtain ⟨y, hy, rfl⟩ := List.mem_map.1 hx
    have := h y hy
    omega)
  simpa using this
set_option maxHeartbeats 1600000 in
theorem shownK (r : RunR) (hr : RunOk r) (sv : Value) (w : World) (hs : ShownIs w sv r.state r.out r.steps) :
    Calls Tryz.prog 12 #[sv, .int .i64 r.err] w fun e w' => e = .returned (.string (str (shownL r))) ∧ Below w.heap.size w w' := by
  obtain ⟨ov, rfl, ao, cap, rfl, hol, hoc⟩ := hs
  have HOC : Hid (0 < r.out.length → ∃ b o, ao = some ⟨b, o, none⟩ ∧ b < w.heap.size ∧ ∀ j, j < r.out.length → w.cell? ⟨b, o + j, none⟩ = some (.int .u32 (r.out.getD j 0))) := hoc
  have HR : Hid (RunOk r) := hr
  have hoz : (r.out.length : Int) ≤ 1000000 := by omega
  clear hoc hr
  by_cases he : r.err = 0
  case neg =>
    have hez : (r.err != 0) = true := by simpa using he
    have HE : Hid (¬ r.err = 0) := he
    clear he
    have HB : Hid (∀ o1 o2 : Obj, Below w.heap.size w ((w.alloc o1).alloc o2)) := fun o1 o2 => ((Below.refl _ _).alloc (Nat.le_refl _) _).alloc (by simp) _
    have HSD : Hid (∀ (b cap : Nat) (wx : World), wx.cell? ⟨b, 0, none⟩ = some (.int .i64 r.err) → Calls Tryz.prog 8 #[.string ⟨#[98, 97, 100]⟩, .slice (some ⟨b, 0, none⟩) 1 cap] wx fun e w' => e = .returned (.string (str (saidL sBad [r.err.toNat]))) ∧ Below wx.heap.size wx w') := fun b cap wx h => said_one sBad r.err (by decide) HR.out.e0 HR.out.e1 b cap wx h
    go_enter Tryz.func12, Tryz.ntmps12
    go_wp2_with (go_at_call 8; refine (HSD.out _ _ _ (by simp [go_sem])).mono ?_; rintro e w1 ⟨rfl, hb1⟩; have HB1 : Hid (Below w.heap.size w w1) := step_below hb1 (HB.out _ _); clear hb1)
    go_ret
    refine ⟨?_, HB1.out⟩
    unfold shownL
    rw [if_neg HE.out]
    rfl
  have hez : (r.err != 0) = false := by simpa using he
  have HE : Hid (r.err = 0) := he
  obtain ⟨X, hX⟩ : ∃ X, X = saidL (digitsL r.state.toNat) [r.steps.toNat] := ⟨_, rfl⟩
  have HX : Hid (X = saidL (digitsL r.state.toNat) [r.steps.toNat]) := hX
  have hds := digits_small (n := r.state.toNat) (by have := HR.out.s1; omega)
  have hXl : X.length ≤ 41 := by
    rw [hX]
    have := saidL_len (digitsL r.state.toNat) [r.steps.toNat] (fun y hy => by have : y = r.steps.toNat := (by simpa using hy); have := HR.out.k1; omega)
    simp at this
    omega
  have HDG : Hid (∀ wx : World, Calls Tryz.prog 10 #[.int .i64 r.state] wx fun e w' => e = .returned (.string (str (digitsL r.state.toNat))) ∧ Below wx.heap.size wx w') := fun wx => by
    have := digitsK r.state.toNat (by have := HR.out.s1; omega) wx
    have e : ((r.state.toNat : Nat) : Int) = r.state := by have := HR.out.s0; omega
    rw [e] at this
    exact this
  have HSD : Hid (∀ (b : Nat) (wx : World), wx.cell? ⟨b, 0, none⟩ = some (.int .i64 r.steps) → Calls Tryz.prog 8 #[.string (str (digitsL r.state.toNat)), .slice (some ⟨b, 0, none⟩) 1 1] wx fun e w' => e = .returned (.string (str X)) ∧ Below wx.heap.size wx w') := fun b wx h => by
    rw [HX.out]
    exact said_one (digitsL r.state.toNat) r.steps (by omega) HR.out.k0 HR.out.k1 b 1 wx h
  clear he hX hds
  go_enter Tryz.func12, Tryz.ntmps12
  go_upto_region 3 with fail
  obtain ⟨wx, hwx⟩ : ∃ wx, wx = w.alloc (.cells #[.int .i64 r.state, .slice ao r.out.length cap, .int .i64 r.steps] 46) := ⟨_, rfl⟩
  have x0 : wx.cell? ⟨w.heap.size, 0, none⟩ = some (.int .i64 r.state) := by rw [hwx]; simp [go_sem]
  have x1 : wx.cell? ⟨w.heap.size, 1, none⟩ = some (.slice ao r.out.length cap) := by rw [hwx]; simp [go_sem]
  have x2 : wx.cell? ⟨w.heap.size, 2, none⟩ = some (.int .i64 r.steps) := by rw [hwx]; simp [go_sem]
  have hbx : Below w.heap.size w wx := by rw [hwx]; exact (Below.refl _ _).alloc (Nat.le_refl _) _
  have HBX : Hid (Below w.heap.size w wx) := hbx
  rw [← hwx]
  clear hwx hbx
  go_cut [5] (fun s5 wq => s5 = .string (str X) ∧ Below wx.heap.size wx wq)
  case first =>
    refine wp_region_held_drew (S := (fun w' => Below wx.heap.size wx w' ∧ w'.cell? ⟨w.heap.size, 0, none⟩ = some (.int .i64 r.state) ∧ w'.cell? ⟨w.heap.size, 2, none⟩ = some (.int .i64 r.steps))) (by rfl) ?_ (fun hHeld => ?_)
    · (exact ⟨(Below.refl _ _).drew, x0, x2⟩)
    refine wpAnyH_take (i := 0) (v := ?_) rfl (by kernel_rfl) (by kernel_rfl) (by kernel_rfl) (fun _ _ _ h => h) (Or.inl ⟨by rfl, ?_⟩) (by assumption) ?_
    case refine_2 => (intro w hSw; (try dsimp only at hSw); go_simp; try with_reducible rfl)
    show wpAnyH _ _ _ _ _ _ _ (Act.put _ (some 12) _) _
    simp only [pz]
    refine wpAnyH_take (i := 1) (v := ?_) rfl (by kernel_rfl) (by kernel_rfl) (by kernel_rfl) (fun _ _ _ h => h) (Or.inl ⟨by rfl, ?_⟩) (by assumption) ?_
    case refine_2 => (intro w hSw; (try dsimp only at hSw); go_simp; try with_reducible rfl)
    show wpAnyH _ _ _ _ _ _ _ (Act.put _ (some 13) _) _
    simp only [pz]
    refine wpAnyH_take (i := 3) (v := ?_) rfl (by kernel_rfl) (by kernel_rfl) (by kernel_rfl) (fun _ _ _ h => h) (Or.inl ⟨by rfl, ?_⟩) (by assumption) ?_
    case refine_2 => (intro w hSw; (try dsimp only at hSw); go_simp; try with_reducible rfl)
    show wpAnyH _ _ _ _ _ _ _ (Act.put _ (some 15) _) _
    simp only [pz]
    refine wpAnyH_take (i := 4) (v := ?_) rfl (by kernel_rfl) (by kernel_rfl) (by kernel_rfl) (fun _ _ _ h => h) (Or.inl ⟨by rfl, ?_⟩) (by assumption) ?_
    case refine_2 => (intro w hSw; (try dsimp only at hSw); go_simp; try with_reducible rfl)
    show wpAnyH _ _ _ _ _ _ _ (Act.put _ (some 16) _) _
    simp only [pz]
    refine wpAnyH_ready (rs := [2, 5]) (by kernel_rfl) (by simp) ?_
    refine (AllReadyH.cons rfl (fun K hK => ?_) (AllReadyH.cons rfl (fun K hK => ?_) AllReadyH.nil))
    · skip
      go_simp
      go_at_call 10
      refine (HDG.out _).mono ?_
      rintro e w5 ⟨rfl, hbw5⟩
      go_wp2_with fail
      refine hK.out _ _ ?_ (fun hHeld => ?_)
      · (exact ⟨step_below hbw5 hHeld.1, step_cell hbw5 hHeld.2.1, step_cell hbw5 hHeld.2.2⟩)
      clear hK K
      try simp only [pz]
      have HB5 : Hid (Below wx.heap.size wx w5) := step_below hbw5 (Below.refl _ _).drew
      clear hbw5
      refine wpAnyH_ready (rs := [5]) (by kernel_rfl) (by simp) ?_
      refine (AllReadyH.cons rfl (fun K hK => ?_) AllReadyH.nil)
      go_simp
      refine hK.out _ _ ?_ (fun hHeld => ?_)
      · (exact ⟨step_below ((Below.refl _ _).alloc (Nat.le_refl _) _) hHeld.1, step_cell ((Below.refl _ _).alloc (Nat.le_refl _) _) hHeld.2.1, step_cell ((Below.refl _ _).alloc (Nat.le_refl _) _) hHeld.2.2⟩)
      clear hK K
      try simp only [pz]
      refine wpAnyH_ready (rs := [6]) (by kernel_rfl) (by simp) ?_
      refine (AllReadyH.cons rfl (fun K hK => ?_) AllReadyH.nil)
      go_simp
      go_at_call 8
      refine (HSD.out _ _ (by simp [go_sem])).mono ?_
      rintro e w8 ⟨rfl, hb8⟩
      go_wp2_with fail
      refine hK.out _ _ ?_ (fun hHeld => ?_)
      · (exact ⟨step_below hb8 hHeld.1, step_cell hb8 hHeld.2.1, step_cell hb8 hHeld.2.2⟩)
      clear hK K
      try simp only [pz]
      have HB8 : Hid (Below wx.heap.size wx w8) := step_below hb8 (step_below ((Below.refl _ _).alloc (Nat.le_refl _) _) HB5.out)
      clear hb8
      have hh := hHeld
      refine wpAnyH_ready (rs := [7]) (by kernel_rfl) (by simp) ?_
      refine (AllReadyH.cons rfl (fun K hK => ?_) AllReadyH.nil)
      go_simp
      refine hK.out _ _ ?_ (fun hHeld => ?_)
      · (exact hHeld)
      clear hK K
      try simp only [pz]
      refine wpAnyH_done (by kernel_rfl) ?_ _
      clear hHeld
      go_wp2_with fail
      go_meet
      case rel => exact ⟨rfl, HB8.out⟩
    · skip
      go_simp
      refine hK.out _ _ ?_ (fun hHeld => ?_)
      · (exact ⟨step_below ((Below.refl _ _).alloc (Nat.le_refl _) _) hHeld.1, step_cell ((Below.refl _ _).alloc (Nat.le_refl _) _) hHeld.2.1, step_cell ((Below.refl _ _).alloc (Nat.le_refl _) _) hHeld.2.2⟩)
      clear hK K
      try simp only [pz]
      have y0 : (wx.drew.alloc (.cells #[.int .i64 r.steps] 2)).cell? ⟨wx.heap.size, 0, none⟩ = some (.int .i64 r.steps) := by simp [go_sem]
      refine wpAnyH_ready (rs := [2]) (by kernel_rfl) (by simp) ?_
      refine (AllReadyH.cons rfl (fun K hK => ?_) AllReadyH.nil)
      go_simp
      go_at_call 10
      refine (HDG.out _).mono ?_
      rintro e w5 ⟨rfl, hbw5⟩
      go_wp2_with fail
      refine hK.out _ _ ?_ (fun hHeld => ?_)
      · (exact ⟨step_below hbw5 hHeld.1, step_cell hbw5 hHeld.2.1, step_cell hbw5 hHeld.2.2⟩)
      clear hK K
      try simp only [pz]
      have y1 := step_cell hbw5 y0
      have HB5 : Hid (Below wx.heap.size wx w5) := step_below hbw5 (step_below ((Below.refl _ _).alloc (Nat.le_refl _) _) (Below.refl _ _).drew)
      clear hbw5 y0
      refine wpAnyH_ready (rs := [6]) (by kernel_rfl) (by simp) ?_
      refine (AllReadyH.cons rfl (fun K hK => ?_) AllReadyH.nil)
      go_simp
      go_at_call 8
      refine (HSD.out _ _ y1).mono ?_
      rintro e w8 ⟨rfl, hb8⟩
      go_wp2_with fail
      refine hK.out _ _ ?_ (fun hHeld => ?_)
      · (exact ⟨step_below hb8 hHeld.1, step_cell hb8 hHeld.2.1, step_cell hb8 hHeld.2.2⟩)
      clear hK K
      try simp only [pz]
      have HB8 : Hid (Below wx.heap.size wx w8) := step_below hb8 HB5.out
      clear hb8
      have hh := hHeld
      refine wpAnyH_ready (rs := [7]) (by kernel_rfl) (by simp) ?_
      refine (AllReadyH.cons rfl (fun K hK => ?_) AllReadyH.nil)
      go_simp
      refine hK.out _ _ ?_ (fun hHeld => ?_)
      · (exact hHeld)
      clear hK K
      try simp only [pz]
      refine wpAnyH_done (by kernel_rfl) ?_ _
      clear hHeld
      go_wp2_with fail
      go_meet
      case rel => exact ⟨rfl, HB8.out⟩
  case rest =>
    obtain ⟨hs5, hbq⟩ := hcut
    subst hs5
    obtain ⟨wd, hwd⟩ : ∃ wd, wd = wc := ⟨_, rfl⟩
    rw [← hwd] at hbq ⊢
    have z1 := step_cell hbq x1
    have HBD : Hid (Below w.heap.size w wd) := step_below hbq HBX.out
    have HZ1 : Hid (wd.cell? ⟨w.heap.size, 1, none⟩ = some (.slice ao r.out.length cap)) := z1
    clear hwd hbq x0 x1 x2 z1 HDG HSD
    go_wp2
    go_loopg [5, 6] (r.out.length + 1) (fun gg v5 v wr => ∃ (k : Nat), v = .int .i64 k ∧ v5 = .string (str (saidL X ((r.out.take k).map Int.toNat))) ∧ k ≤ r.out.length ∧ gg = r.out.length + 1 - k ∧ Below wd.heap.size wd wr)
    case atStart => exact ⟨0, rfl, rfl, by omega, by omega, Below.refl _ _⟩
    case round =>
      obtain ⟨k, rfl, rfl, hk, hgk, hbr⟩ := hrel
      have HGK : Hid (gk = r.out.length + 1 - k) := hgk
      have HBR : Hid (Below wd.heap.size wd wr) := hbr
      obtain ⟨sd, hsd⟩ : ∃ x, x = saidL X ((r.out.take k).map Int.toNat) := ⟨_, rfl⟩
      rw [← hsd]
      have HSD : Hid (sd = saidL X ((r.out.take k).map Int.toNat)) := hsd
      have hsl : sd.length ≤ 30000000 := by
        rw [hsd]
        have h1 := saidL_lenO X (r.out.take k) (fun x hx => HR.out.o x (List.mem_of_mem_take hx))
        have h2 : (r.out.take k).length ≤ r.out.length := List.length_take_le' _ _
        omega
      have z1 := step_cell hbr HZ1.out
      have hz1 := World.block_lt_of_cell? wr _ z1
      clear hgk hbr hsd
      by_cases hkl : k < r.out.length
      · have hkz : (k : Int) < (r.out.length : Int) := by omega
        obtain ⟨b, o, rfl, hblt, hcell⟩ := HOC.out (by omega)
        have d0 := step_cell (step_below HBR.out HBD.out) (hcell k hkl)
        have hbl := World.block_lt_of_cell? wr _ d0
        obtain ⟨x, hx⟩ : ∃ x, x = r.out.getD k 0 := ⟨_, rfl⟩
        rw [← hx] at d0
        have hxb : 0 ≤ x ∧ x < 4294967296 := HR.out.o x (by rw [hx]; simp [List.getD, hkl])
        obtain ⟨hx0, hx1⟩ := hxb
        have HX : Hid (x = r.out.getD k 0) := hx
        have HSN : Hid (∀ (b : Nat) (wx : World), wx.cell? ⟨b, 0, none⟩ = some (.int .i64 x) → Calls Tryz.prog 8 #[.string (str sd), .slice (some ⟨b, 0, none⟩) 1 1] wx fun e w' => e = .returned (.string (str (saidL sd [x.toNat]))) ∧ Below wx.heap.size wx w') := fun b wx h => said_one sd x hsl hx0 (by omega) b 1 wx h
        have HBA : Hid (∀ o : Obj, Below wd.heap.size wd (wr.alloc o)) := fun o => step_below ((Below.refl _ _).alloc (Nat.le_refl _) _) HBR.out
        clear hx hcell hblt
        go_wp2_with (go_at_call 8; refine (HSN.out _ _ (by simp [go_sem])).mono ?_; rintro e w1 ⟨rfl, hb1⟩; have HB1 : Hid (Below wd.heap.size wd w1) := step_below hb1 (HBA.out _); clear hb1)
        have hgk := HGK.out
        go_roundg (gk - 1)
        case measure => omega
        case rel =>
          refine ⟨k + 1, by go_num, ?_, by omega, by omega, HB1.out⟩
          have e : r.out.take (k + 1) = r.out.take k ++ [x] := by rw [HX.out, List.take_succ_eq_append_getElem hkl]; simp [List.getD, hkl]
          rw [e, saidL_outs, ← HSD.out]
      · obtain rfl : k = r.out.length := by omega
        have hkz : ¬ (r.out.length : Int) < (r.out.length : Int) := by omega
        go_wp2
        go_ret
        refine ⟨?_, step_below HBR.out HBD.out⟩
        have h := HSD.out
        rw [List.take_length] at h
        unfold shownL
        rw [if_pos HE.out, ← HX.out, ← h]
        rfl
end form
/- A NUMBER (loanbookkeep: number). -/
namespace form
open Go.RowKit
set_option maxRecDepth 100000
attribute [local go_sem ↓] Go.wp_at_zero Go.wp_at_succ
attribute [local go_sem] str_size str_list
def NumAns (s : List UInt8) (w : World) (e : Ending) (w' : World) : Prop := (∃ y : Int, e = .returned (.tuple #[.int .u32 y, .bool (numB s)]) ∧ (numB s = true → y = valL s)) ∧ w' = w
theorem all_snoc (s : List UInt8) (c : UInt8) : (s ++ [c]).all digB = (s.all digB && digB c) := by simp
theorem num_bad {s : List UInt8} (h : ¬ (1 ≤ s.length ∧ s.length ≤ 10 ∧ ¬ (s.getD 0 0 = 48 ∧ 1 < s.length))) : numB s = false := by
  unfold numB
  by_cases h1 : 1 ≤ s.length
  · by_cases h2 : s.length ≤ 10
    · have h3 : s.getD 0 0 = 48 ∧ 1 < s.length := Classical.byContradiction fun hn => h ⟨h1, h2, hn⟩
      rw [show decide (s.getD 0 0 = 48) = true from decide_eq_true h3.1, show decide (1 < s.length) = true from decide_eq_true h3.2]
      simp
    · rw [show decide (s.length ≤ 10) = false from decide_eq_false h2]
      simp
  · rw [show decide (1 ≤ s.length) = false from decide_eq_false h1]
    simp
theorem num_nodig {s : List UInt8} (h : s.all digB = false) : numB s = false := by unfold numB; rw [h]; simp
theorem num_good {s : List UInt8} (h1 : 1 ≤ s.length) (h2 : s.length ≤ 10) (h3 : ¬ (s.getD 0 0 = 48 ∧ 1 < s.length)) (h4 : s.all digB = true) : numB s = decide (valL s < 4294967296) := by
  unfold numB
  have e : (decide (s.getD 0 0 = 48) && decide (1 < s.length)) = false := by
    rw [Bool.and_eq_false_iff]
    by_cases h : s.getD 0 0 = 48
    · exact Or.inr (decide_eq_false (fun h5 => h3 ⟨h, h5⟩))
    · exact Or.inl (decide_eq_false h)
  rw [decide_eq_true h1, decide_eq_true h2, e, h4]
  simp
theorem nodig_of {s : List UInt8} {i : Nat} (hi : i < s.length) (h : digB (s.getD i 0) = false) : s.all digB = false := by
  rw [List.all_eq_false]
  refine ⟨s.getD i 0, by simp [List.getD, hi], ?_⟩
  rw [h]; simp
set_option maxHeartbeats 1600000 in
theorem numberK (s : List UInt8) (hs : s.length ≤ 4000000) (w : World) : Calls Tryz.prog 7 #[.string (str s)] w fun e w' => NumAns s w e w' := by
  have hsz : (s.length : Int) ≤ 4000000 := by omega
  by_cases h1 : s.length < 1
  · have h1z : (s.length : Int) < 1 := by omega
    have hb := num_bad (s := s) (fun h => by omega)
    have HB : Hid (numB s = false) := hb
    clear hb
    go_enter Tryz.func7, Tryz.ntmps7
    go_wp2
    refine bodyPost_ret (v := .tuple #[.int .u32 0, .bool false]) ?_ rfl ?_
    · simp [results, Tryz.results7, go_sem]
    exact ⟨⟨0, by rw [HB.out], fun h => by rw [HB.out] at h; cases h⟩, rfl⟩
  have h1z : ¬ (s.length : Int) < 1 := by omega
  by_cases h2 : 10 < s.length
  · have h2z : (10 : Int) < (s.length : Int) := by omega
    have hb := num_bad (s := s) (fun h => by omega)
    have HB : Hid (numB s = false) := hb
    clear hb
    go_enter Tryz.func7, Tryz.ntmps7
    go_wp2
    refine bodyPost_ret (v := .tuple #[.int .u32 0, .bool false]) ?_ rfl ?_
    · simp [results, Tryz.results7, go_sem]
    exact ⟨⟨0, by rw [HB.out], fun h => by rw [HB.out] at h; cases h⟩, rfl⟩
  have h2z : ¬ (10 : Int) < (s.length : Int) := by omega
  have hix := fun w => run_index_str (P := Tryz.prog) w 9 s .i64 0 ustr (by omega)
  obtain ⟨c, hc⟩ : ∃ c, c = s.getD 0 0 := ⟨_, rfl⟩
  rw [← hc] at hix
  have HC0 : Hid (c = s.getD 0 0) := hc
  have hbe := byte_eq c 48
  have e48 : (((48 : UInt8).toNat : Nat) : Int) = 48 := rfl
  rw [e48] at hbe
  simp only [Int.natCast_zero] at hix
  clear hc e48
  by_cases h3 : c = 48 ∧ 1 < s.length
  · have hb := num_bad (s := s) (fun h => h.2.2 (by rw [← HC0.out]; exact h3))
    have HB : Hid (numB s = false) := hb
    have h3z : (1 : Int) < (s.length : Int) := by omega
    rw [decide_eq_true h3.1] at hbe
    clear hb h3
    go_enter Tryz.func7, Tryz.ntmps7
    go_wp2
    refine bodyPost_ret (v := .tuple #[.int .u32 0, .bool false]) ?_ rfl ?_
    · simp [results, Tryz.results7, go_sem]
    exact ⟨⟨0, by rw [HB.out], fun h => by rw [HB.out] at h; cases h⟩, rfl⟩
  have HGD : Hid (s.all digB = true → numB s = decide (valL s < 4294967296)) := fun h => num_good (by omega) (by omega) (by rw [← HC0.out]; exact h3) h
  have h3' : ¬ c = 48 ∨ ¬ (1 : Int) < (s.length : Int) := by
    by_cases h : c = 48
    · exact Or.inr (fun h5 => h3 ⟨h, by omega⟩)
    · exact Or.inl h
  have hround : ∀ z : Bool, (((c.toNat : Nat) : Int) == 48) = z → (z = true → ¬ (1 : Int) < (s.length : Int)) → Calls Tryz.prog 7 #[.string (str s)] w fun e w' => NumAns s w e w' := by
    intro z hz h4
    clear hbe h3 h3'
    rcases Bool.eq_false_or_eq_true z with hz2 | hz2
    · subst hz2
      have h5 := h4 rfl
      clear h4
      go_enter Tryz.func7, Tryz.ntmps7
      go_wp2
      clear hz hix
      go_loopg [4, 5] (s.length + 1) (fun gg v4 v wr => ∃ (i n : Nat), v = .int .i64 i ∧ v4 = .int .i64 n ∧ i ≤ s.length ∧ gg = s.length + 1 - i ∧ (s.take i).all digB = true ∧ n = valL (s.take i) ∧ wr = w)
      case atStart => exact ⟨0, 0, rfl, rfl, by omega, by omega, by simp, rfl, rfl⟩
      case round =>
        obtain ⟨i, n, rfl, rfl, hi, hgk, hall, hn, hwr⟩ := hrel
        obtain rfl := hwr.symm
        have HGK : Hid (gk = s.length + 1 - i) := hgk
        have HALL : Hid ((s.take i).all digB = true) := hall
        have HN : Hid (n = valL (s.take i)) := hn
        have hnl : n < 10000000000 := by
          have h := valL_lt (s.take i) hall
          rw [← hn] at h
          have h6 : (10 : Nat) ^ (s.take i).length ≤ 10 ^ 10 := Nat.pow_le_pow_right (by omega) (by simp; omega)
          omega
        clear hgk hall hn hwr
        by_cases hil : i < s.length
        case neg =>
          obtain rfl : i = s.length := by omega
          have hiz : ¬ (s.length : Int) < (s.length : Int) := by omega
          have hall := HALL.out
          have hn := HN.out
          rw [List.take_length] at hall hn
          have HG : Hid (numB s = decide (valL s < 4294967296)) := HGD.out hall
          have HNN : Hid (n = valL s) := hn
          clear hall hn
          go_wp2
          all_goals
            refine bodyPost_ret (v := .tuple #[.int .u32 ((n : Int) % 4294967296), .bool (numB s)]) ?_ rfl ?_
            · rw [HG.out]
              simp [results, Tryz.results7, go_sem]
              rw [← HNN.out]; omega
            refine ⟨⟨_, rfl, fun h => ?_⟩, rfl⟩
            rw [HG.out] at h
            have h7 := of_decide_eq_true h
            rw [← HNN.out] at h7 ⊢
            omega
        have hiz : (i : Int) < (s.length : Int) := by omega
        have hix := fun w => run_index_str (P := Tryz.prog) w 9 s .i64 i ustr hil
        obtain ⟨d, hd⟩ : ∃ d, d = s.getD i 0 := ⟨_, rfl⟩
        rw [← hd] at hix
        have HD : Hid (d = s.getD i 0) := hd
        have HIL : Hid (i < s.length) := hil
        have hd8 : (d.toNat : Int) < 256 := by have := d.toNat_lt; omega
        clear hd hil
        by_cases hdg : digB d = true
        case neg =>
          have hb : numB s = false := num_nodig (nodig_of HIL.out (by rw [← HD.out]; simpa using hdg))
          have HB : Hid (numB s = false) := hb
          clear hb
          have hor : (d.toNat : Int) < 48 ∨ ¬ (d.toNat : Int) < 48 ∧ (57 : Int) < (d.toNat : Int) := by
            unfold digB at hdg
            simp at hdg
            omega
          clear hdg
          rcases hor with hor | ⟨hor, hor2⟩
          all_goals
            go_wp2
            refine bodyPost_ret (v := .tuple #[.int .u32 0, .bool false]) ?_ rfl ?_
            · simp [results, Tryz.results7, go_sem]
            exact ⟨⟨0, by rw [HB.out], fun h => by rw [HB.out] at h; cases h⟩, rfl⟩
        have HDG : Hid (digB d = true) := hdg
        have hlo : ¬ (d.toNat : Int) < 48 := by unfold digB at hdg; simp at hdg; omega
        have hhi : ¬ (57 : Int) < (d.toNat : Int) := by unfold digB at hdg; simp at hdg; omega
        clear hdg
        go_wp2
        have hgk := HGK.out
        go_roundg (gk - 1)
        case measure => omega
        case rel =>
          refine ⟨i + 1, 10 * n + (d.toNat - 48), by go_num, by go_num, by have := HIL.out; omega, by have := HIL.out; omega, ?_, ?_, rfl⟩
          · rw [take_snoc HIL.out, all_snoc, HALL.out, ← HD.out, HDG.out]
            rfl
          · rw [take_snoc HIL.out, valL_snoc, ← HN.out, ← HD.out]
    · subst hz2
      clear h4
      go_enter Tryz.func7, Tryz.ntmps7
      go_wp2
      clear hz hix
      go_loopg [4, 5] (s.length + 1) (fun gg v4 v wr => ∃ (i n : Nat), v = .int .i64 i ∧ v4 = .int .i64 n ∧ i ≤ s.length ∧ gg = s.length + 1 - i ∧ (s.take i).all digB = true ∧ n = valL (s.take i) ∧ wr = w)
      case atStart => exact ⟨0, 0, rfl, rfl, by omega, by omega, by simp, rfl, rfl⟩
      case round =>
        obtain ⟨i, n, rfl, rfl, hi, hgk, hall, hn, hwr⟩ := hrel
        obtain rfl := hwr.symm
        have HGK : Hid (gk = s.length + 1 - i) := hgk
        have HALL : Hid ((s.take i).all digB = true) := hall
        have HN : Hid (n = valL (s.take i)) := hn
        have hnl : n < 10000000000 := by
          have h := valL_lt (s.take i) hall
          rw [← hn] at h
          have h6 : (10 : Nat) ^ (s.take i).length ≤ 10 ^ 10 := Nat.pow_le_pow_right (by omega) (by simp; omega)
          omega
        clear hgk hall hn hwr
        by_cases hil : i < s.length
        case neg =>
          obtain rfl : i = s.length := by omega
          have hiz : ¬ (s.length : Int) < (s.length : Int) := by omega
          have hall := HALL.out
          have hn := HN.out
          rw [List.take_length] at hall hn
          have HG : Hid (numB s = decide (valL s < 4294967296)) := HGD.out hall
          have HNN : Hid (n = valL s) := hn
          clear hall hn
          go_wp2
          all_goals
            refine bodyPost_ret (v := .tuple #[.int .u32 ((n : Int) % 4294967296), .bool (numB s)]) ?_ rfl ?_
            · rw [HG.out]
              simp [results, Tryz.results7, go_sem]
              rw [← HNN.out]; omega
            refine ⟨⟨_, rfl, fun h => ?_⟩, rfl⟩
            rw [HG.out] at h
            have h7 := of_decide_eq_true h
            rw [← HNN.out] at h7 ⊢
            omega
        have hiz : (i : Int) < (s.length : Int) := by omega
        have hix := fun w => run_index_str (P := Tryz.prog) w 9 s .i64 i ustr hil
        obtain ⟨d, hd⟩ : ∃ d, d = s.getD i 0 := ⟨_, rfl⟩
        rw [← hd] at hix
        have HD : Hid (d = s.getD i 0) := hd
        have HIL : Hid (i < s.length) := hil
        have hd8 : (d.toNat : Int) < 256 := by have := d.toNat_lt; omega
        clear hd hil
        by_cases hdg : digB d = true
        case neg =>
          have hb : numB s = false := num_nodig (nodig_of HIL.out (by rw [← HD.out]; simpa using hdg))
          have HB : Hid (numB s = false) := hb
          clear hb
          have hor : (d.toNat : Int) < 48 ∨ ¬ (d.toNat : Int) < 48 ∧ (57 : Int) < (d.toNat : Int) := by
            unfold digB at hdg
            simp at hdg
            omega
          clear hdg
          rcases hor with hor | ⟨hor, hor2⟩
          all_goals
            go_wp2
            refine bodyPost_ret (v := .tuple #[.int .u32 0, .bool false]) ?_ rfl ?_
            · simp [results, Tryz.results7, go_sem]
            exact ⟨⟨0, by rw [HB.out], fun h => by rw [HB.out] at h; cases h⟩, rfl⟩
        have HDG : Hid (digB d = true) := hdg
        have hlo : ¬ (d.toNat : Int) < 48 := by unfold digB at hdg; simp at hdg; omega
        have hhi : ¬ (57 : Int) < (d.toNat : Int) := by unfold digB at hdg; simp at hdg; omega
        clear hdg
        go_wp2
        have hgk := HGK.out
        go_roundg (gk - 1)
        case measure => omega
        case rel =>
          refine ⟨i + 1, 10 * n + (d.toNat - 48), by go_num, by go_num, by have := HIL.out; omega, by have := HIL.out; omega, ?_, ?_, rfl⟩
          · rw [take_snoc HIL.out, all_snoc, HALL.out, ← HD.out, HDG.out]
            rfl
          · rw [take_snoc HIL.out, valL_snoc, ← HN.out, ← HD.out]
  refine hround _ rfl (fun h => ?_)
  rw [hbe] at h
  rcases h3' with h5 | h5
  · exact absurd (of_decide_eq_true h) h5
  · exact h5
end form
end Go.Proofs.YtikhedkhgpjaaabGreatDoor
