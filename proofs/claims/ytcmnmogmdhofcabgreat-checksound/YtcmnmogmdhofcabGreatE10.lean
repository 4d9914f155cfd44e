/- Rows of numbers of 32 bits that are sorted in place: patterns that are broken (slices.breakPatternsOrdered). -/
import Derived.Deep.DeepFit
import Derived.Lib.SliceRun
import Derived.Deep.CutRange
import Derived.Deep.DeepCutAuto
import Derived.Deep.LoopGhost
import Derived.Test.YtcmnmogmdhofcabGreatE09
import Derived.Test.YtcmnmogmdhofcabGreatE06
import Derived.Test.YtcmnmogmdhofcabGreatE08

namespace Go.Proofs.YtcmnmogmdhofcabGreat.sortu
open Go.RowKit Go.Sort Go.Proofs.YtcmnmogmdhofcabGreat.form
set_option linter.unusedVariables false
set_option maxRecDepth 100000

set_option maxHeartbeats 4000000 in
theorem nextPowU (n : Nat) (h8 : 8 ≤ n) (hn : n < 50) (w : World) : Calls Tryz.prog 149 #[.int .i64 n] w fun e w' => (∃ M : Nat, e = .returned (.int .u64 M) ∧ n < M ∧ M ≤ 2 * n) ∧ w' = w := by
  have hk : bitsLen n ≤ 6 := (bitsLen_le_iff n 6).2 (by omega)
  have h1 := lt_two_pow_bitsLen n
  have h2 := two_pow_bitsLen_le (n := n) (by omega)
  obtain ⟨k, hkk⟩ : ∃ k, k = bitsLen n := ⟨_, rfl⟩
  rw [← hkk] at hk h1 h2
  have HK : Hid (k = bitsLen n) := hkk
  have hs : IntKind.u64.wrap (2 ^ k) = ((2 ^ k : Nat) : Int) := by
    have e : ((2 ^ k : Nat) : Int) = 2 ^ k := by push_cast; rfl
    rw [← e]
    exact wrapU (by omega) (by omega)
  have h64 : (k : Int) ≤ 64 := by omega
  have h0 : (0 : Int) ≤ (k : Int) := by omega
  have H1 : Hid (n < 2 ^ k ∧ 2 ^ k ≤ 2 * n) := ⟨h1, h2⟩
  have hu : IntKind.u64.wrap (n : Int) = n := wrapU (by omega) (by omega)
  clear hkk h1 h2
  go_enter Tryz.func149, Tryz.ntmps149
  go_wp2_with (go_at_call 100; refine (lenU n hn _).mono ?_; rw [← HK.out]; rintro e w' ⟨rfl, hw'⟩; obtain rfl := hw'.symm)
  go_ret
  exact ⟨⟨2 ^ k, by simp, H1.out.1, H1.out.2⟩, rfl⟩

structure Rnd (w0 : World) (rb : Nat) (X : Bits) (w : World) : Prop where
  cell : w.cell? ⟨rb, 0, none⟩ = some (.int .u64 (bn X))
  fr : w.frozen? ⟨rb, 0, none⟩ = false
  grown : w0.grownBy w (some rb)
theorem Rnd.put {w0 w : World} {rb : Nat} {X : Bits} (h : Rnd w0 rb X w) (Y : Bits) (q : Nat) : Rnd w0 rb Y ((w.drewN q).setCell ⟨rb, 0, none⟩ (.int .u64 (bn Y))) := by
  have hc := h.cell
  have hc2 : (w.drewN q).cell? ⟨rb, 0, none⟩ = some (.int .u64 (bn X)) := hc
  refine ⟨by simp [go_sem, hc2], by have := h.fr; simpa [go_sem] using this, ⟨h.grown.os, h.grown.tape, h.grown.output, by simpa [World.setCell] using h.grown.size, fun k hk hne2 => ?_⟩⟩
  rw [Below.heap_setCell _ _ _ _ (by intro e; exact hne2 (by rw [e]))]
  exact h.grown.block k hk hne2

set_option maxHeartbeats 4000000 in
theorem nextXU (rb : Nat) (X : Bits) (w : World) (hR : Rnd w rb X w) : Calls Tryz.prog 150 #[.pointer (some ⟨rb, 0, none⟩)] w fun e w' => ∃ Y, e = .returned (.int .u64 (bn Y)) ∧ Rnd w rb Y w' := by
  have x1 : IntKind.u64.wrap (bn X * 8192) = bn (X <<< 13) := shlk_is X 13
  have x2 := xor_is X (X <<< 13)
  obtain ⟨X1, hX1⟩ : ∃ X1, X1 = X ^^^ X <<< 13 := ⟨_, rfl⟩
  rw [← hX1] at x2
  have x3 : bn X1 / (128 : Int) = bn (X1 >>> 7) := by have := shrk_is X1 7; simpa using this
  have x4 := xor_is X1 (X1 >>> 7)
  obtain ⟨X2, hX2⟩ : ∃ X2, X2 = X1 ^^^ X1 >>> 7 := ⟨_, rfl⟩
  rw [← hX2, ← x3] at x4
  clear x3
  have x5 : IntKind.u64.wrap (bn X2 * 131072) = bn (X2 <<< 17) := shlk_is X2 17
  have x6 := xor_is X2 (X2 <<< 17)
  obtain ⟨X3, hX3⟩ : ∃ X3, X3 = X2 ^^^ X2 <<< 17 := ⟨_, rfl⟩
  rw [← hX3] at x6
  clear hX1 hX2 hX3
  have hc := hR.cell
  have hf := hR.fr
  have HR : Hid (Rnd w rb X w) := hR
  clear hR
  go_enter Tryz.func150, Tryz.ntmps150
  go_wp2
  go_region
  all_goals go_wp2
  obtain ⟨wa, hwa⟩ : ∃ wa, wa = (w.setCell ⟨rb, 0, none⟩ (.int .u64 (bn X1))).drew := ⟨_, rfl⟩
  rw [← hwa]
  have h1 : Rnd w rb X1 wa := hwa ▸ HR.out.put X1 1
  clear HR hc hf hwa
  have hc := h1.cell
  have hf := h1.fr
  have H1 : Hid (Rnd w rb X1 wa) := h1
  clear h1
  go_region
  all_goals go_wp2
  obtain ⟨wb, hwb⟩ : ∃ wb, wb = (wa.setCell ⟨rb, 0, none⟩ (.int .u64 (bn X2))).drew := ⟨_, rfl⟩
  rw [← hwb]
  have h2 : Rnd w rb X2 wb := hwb ▸ H1.out.put X2 1
  clear H1 hc hf hwb
  have hc := h2.cell
  have hf := h2.fr
  have H2 : Hid (Rnd w rb X2 wb) := h2
  clear h2
  go_region
  all_goals go_wp2
  go_ret
  exact ⟨X3, rfl, H2.out.put X3 1⟩

theorem far_cell {w : World} {sb blk x y q : Nat} {u v : Value} {z : Value} (hne : sb ≠ blk) (h : w.cell? ⟨sb, 0, none⟩ = some z) : (((w.drewN q).setCell ⟨blk, x, none⟩ u).setCell ⟨blk, y, none⟩ v).cell? ⟨sb, 0, none⟩ = some z := by
  rw [World.cell?_of_block (w := (w.drewN q).setCell ⟨blk, x, none⟩ u) (Below.heap_setCell _ _ _ _ hne), World.cell?_of_block (w := w.drewN q) (Below.heap_setCell _ _ _ _ hne)]
  exact h
theorem far_fr {w : World} {sb blk x y q : Nat} {u v : Value} (h : w.frozen? ⟨sb, 0, none⟩ = false) : (((w.drewN q).setCell ⟨blk, x, none⟩ u).setCell ⟨blk, y, none⟩ v).frozen? ⟨sb, 0, none⟩ = false := by
  simpa [go_sem] using h

set_option maxHeartbeats 8000000 in
theorem breakU (blk off cap a b : Nat) (d : Array Int) (w : World) (hH : Holds encU w blk off d) (hlt : blk < w.heap.size) (hab : a + 12 < b) (hb : b ≤ d.size) (hsz : d.size < 50) :
    Calls Tryz.prog 128 #[.slice (some ⟨blk, off, none⟩) d.size cap, .int .i64 a, .int .i64 b] w fun e w' =>
      e = .returned (.tuple #[]) ∧ ∃ d', Row w blk off d' w' ∧ PermIn a b d d' := by
  obtain ⟨L, hL, hLb⟩ : ∃ L : Nat, (b : Int) - (a : Int) = L ∧ L = b - a := ⟨b - a, by omega, rfl⟩
  obtain ⟨q, hq, hqb⟩ : ∃ q : Nat, (L : Int).tdiv 4 = q ∧ q = L / 4 := ⟨L / 4, by rw [Int.tdiv_eq_ediv_of_nonneg (by omega)]; omega, rfl⟩
  obtain ⟨i0, hi0⟩ : ∃ i0 : Nat, i0 = a + q * 2 - 1 := ⟨_, rfl⟩
  have hi0z : (a : Int) + (q : Int) * 2 - 1 = i0 := by omega
  have hi2z : (a : Int) + (q : Int) * 2 + 1 = ((i0 + 2 : Nat) : Int) := by omega
  have HQB : Hid (3 ≤ q ∧ 4 * q ≤ L ∧ L = b - a ∧ i0 = a + q * 2 - 1) := ⟨by omega, by omega, hLb, hi0⟩
  have hL8 : 8 ≤ L := by omega
  have hL50 : L < 50 := by omega
  have hi0b : i0 + 2 < b := by omega
  have hi0a : a ≤ i0 := by omega
  have hu : IntKind.u64.wrap (L : Int) = L := wrapU (by omega) (by omega)
  have HHH : Hid (Holds encU w blk off d) := hH
  have hLbn : (L : Int) = bn (BitVec.ofNat 64 L) := by unfold bn; rw [BitVec.toNat_ofNat, Nat.mod_eq_of_lt (by omega)]
  have HLB : Hid ((L : Int) = bn (BitVec.ofNat 64 L)) := hLbn
  clear hH hLb hqb hi0 hLbn
  have hne : w.heap.size ≠ blk := by omega
  go_enter Tryz.func128, Tryz.ntmps128
  go_wp2_with (go_at_call 149; refine (nextPowU L hL8 hL50 _).mono ?_; rintro e w1 ⟨⟨M, rfl, hM1, hM2⟩, hw1⟩; obtain rfl := hw1.symm)
  have HM : Hid (L < M ∧ M ≤ 2 * L) := ⟨hM1, hM2⟩
  have hM100 : (M : Int) ≤ 100 := by omega
  have hM0 : (0 : Int) < (M : Int) := by omega
  obtain ⟨Z, hZ⟩ : ∃ Z : Bits, (M : Int) - 1 = bn Z := ⟨BitVec.ofNat 64 (M - 1), by unfold bn; rw [BitVec.toNat_ofNat, Nat.mod_eq_of_lt (by omega)]; omega⟩
  have HZ : Hid ((M : Int) - 1 = bn Z) := hZ
  have HRN : Hid (Rnd (w.alloc (.cells #[.int .u64 L] 214)) w.heap.size (BitVec.ofNat 64 L) (w.alloc (.cells #[.int .u64 L] 214))) := ⟨by simp [go_sem]; exact HLB.out, by simp [go_sem], ⟨rfl, rfl, rfl, Nat.le_refl _, fun _ _ _ => rfl⟩⟩
  have HRW : Hid (Row w blk off d (w.alloc (.cells #[.int .u64 L] 214))) := by
    have hb := (Below.refl w.heap.size w).alloc (Nat.le_refl _) (.cells #[.int .u64 L] 214)
    refine ⟨fun j hj => ⟨by rw [hb.cell (p := ⟨blk, off + j, none⟩) hlt]; exact (HHH.out j hj).1, by rw [World.frozen?_of_block (w := w) (hb.block blk hlt)]; exact (HHH.out j hj).2⟩, ⟨hb.os, hb.tape, hb.output, hb.size, fun k hk _ => hb.block k hk⟩⟩
  clear hM1 hM2
  go_loopw [9] (fun v wr => ∃ (i : Nat) (dk : Array Int) (X : Bits), v = .int .i64 i ∧ i0 ≤ i ∧ i ≤ i0 + 3 ∧ dk.size = d.size ∧ Row w blk off dk wr ∧ PermIn a b d dk ∧ wr.cell? ⟨w.heap.size, 0, none⟩ = some (.int .u64 (bn X)) ∧ wr.frozen? ⟨w.heap.size, 0, none⟩ = false) (fun v _ => i0 + 3 - (numOf v).toNat)
  case atStart => exact ⟨i0, d, BitVec.ofNat 64 L, rfl, Nat.le_refl _, by omega, rfl, HRW.out, permIn_refl _ _ _, HRN.out.cell, HRN.out.fr⟩
  case round =>
    clear HRN HRW
    obtain ⟨i, dj, X, rfl, hi1, hi2, hsj, hrow, hP, hxc, hxf⟩ := hrel
    have HR : Hid (Row w blk off dj wr) := hrow
    have HP : Hid (PermIn a b d dj) := hP
    have HX : Hid (Rnd wr w.heap.size X wr) := ⟨hxc, hxf, ⟨rfl, rfl, rfl, Nat.le_refl _, fun _ _ _ => rfl⟩⟩
    clear hrow hP hxc hxf
    by_cases hend : i ≤ i0 + 2
    case neg =>
      have hez : ¬ (i : Int) ≤ ((i0 + 2 : Nat) : Int) := by omega
      go_wp2
      go_end0
      exact ⟨rfl, dj, HR.out, HP.out⟩
    have hez : (i : Int) ≤ ((i0 + 2 : Nat) : Int) := by omega
    go_wp2_with fail
    go_at_call 150
    refine (nextXU w.heap.size X _ HX.out).mono ?_
    rintro e w2 ⟨Y, rfl, hx2⟩
    have hyz := and_is Y Z
    have hlow := and_low Y Z
    have hbd := bits_bd (Y &&& Z)
    have hzz := HZ.out
    have hmm := HM.out
    obtain ⟨o, ho⟩ : ∃ o : Nat, bn (Y &&& Z) = (o : Int) := ⟨(bn (Y &&& Z)).toNat, by omega⟩
    have hoM : o < M := by omega
    have hyo : Go.bits .and .u64 (bn Y) (bn Z) = (o : Int) := hyz.trans ho
    have hr2 : Row w blk off dj w2 := ⟨fun j hj => ⟨by rw [World.cell?_of_block (w := wr) (hx2.grown.block blk (by have := HR.out.grown.size; omega) (by simp; omega))]; exact (HR.out.holds j hj).1, by rw [World.frozen?_of_block (w := wr) (hx2.grown.block blk (by have := HR.out.grown.size; omega) (by simp; omega))]; exact (HR.out.holds j hj).2⟩,
      HR.out.grown.andThen hx2.grown (fun j hj => Or.inl (by cases hj; exact Nat.le_refl _))⟩
    have HR2 : Hid (Row w blk off dj w2) := hr2
    have HX2 : Hid (Rnd wr w.heap.size Y w2) := hx2
    have hoo : ∃ o2 : Nat, o2 < L ∧ (o < L ∧ o2 = o ∨ L ≤ o ∧ o2 = o - L) := by
      by_cases h : o < L
      · exact ⟨o, h, Or.inl ⟨h, rfl⟩⟩
      · exact ⟨o - L, by omega, Or.inr ⟨by omega, rfl⟩⟩
    obtain ⟨o2, ho2, hoc⟩ := hoo
    have HO2 : Hid (o < L ∧ o2 = o ∨ L ≤ o ∧ o2 = o - L) := hoc
    have ha2 : a + o2 < d.size := by have := HQB.out; omega
    have hid : i < d.size := by omega
    have hib : i < b := by omega
    have HAB : Hid (a + o2 < b) := by have := HQB.out; show a + o2 < b; omega
    have hxc := hx2.cell
    obtain ⟨G, hG⟩ : ∃ G : Nat → Int, ∀ t, G t = dj[t]! := ⟨fun t => dj[t]!, fun _ => rfl⟩
    have hcw : ∀ t, t < d.size → w2.cell? ⟨blk, off + t, none⟩ = some (.int .u32 (G t)) := fun t ht => by rw [hG]; exact (hr2.holds t (by omega)).1
    have hfw : ∀ t, t < d.size → w2.frozen? ⟨blk, off + t, none⟩ = false := fun t ht => (hr2.holds t (by omega)).2
    have HG : Hid (∀ t, G t = dj[t]!) := hG
    clear hyz hlow hbd hzz hmm ho hr2 hx2 hoc hG
    rcases HO2.out with ⟨hoL, ho3⟩ | ⟨hoL, ho3⟩
    · have hoz : ¬ (L : Int) ≤ (o : Int) := by omega
      subst ho3
      rcases Nat.lt_trichotomy i (a + o2) with hcmp | hcmp | hcmp
      · have hsw := (HR2.out.drewN 1).swap (i := i) (j := a + o2) (by omega) (by omega)
        rw [← HG.out, ← HG.out] at hsw
        have HSW : Hid _ := hsw
        have hP2 : PermIn a b d (swp dj i (a + o2)) := permIn_trans _ _ _ _ _ HP.out (swp_permIn dj a b i (a + o2) (by omega) hib (by omega) HAB.out (by omega))
        have HP2 : Hid (PermIn a b d (swp dj i (a + o2))) := hP2
        clear hsw hP2
        go_wp2
        go_region
        all_goals go_wp2
        go_roundw
        case rel => exact ⟨i + 1, swp dj i (a + o2), Y, by go_num, by omega, by omega, by rw [size_swp]; exact hsj, HSW.out, HP2.out, far_cell hne HX2.out.cell, far_fr HX2.out.fr⟩
        case measure => simp [numOf]; omega
      · have hsw := (HR2.out.drewN 1).swap (i := i) (j := i) (by omega) (by omega)
        rw [← HG.out] at hsw
        have HSW : Hid _ := hsw
        have hP2 : PermIn a b d (swp dj i i) := permIn_trans _ _ _ _ _ HP.out (swp_permIn dj a b i i (by omega) hib (by omega) hib (by omega))
        have HP2 : Hid (PermIn a b d (swp dj i i)) := hP2
        clear hsw hP2
        have hcz : (a : Int) + (o2 : Int) = (i : Int) := by omega
        have HCM : Hid (i = a + o2) := hcmp
        clear hcmp
        go_wp2
        go_region
        all_goals go_wp2
        go_roundw
        case rel => exact ⟨i + 1, swp dj i i, Y, by go_num, by omega, by omega, by rw [size_swp]; exact hsj, HSW.out, HP2.out, far_cell hne HX2.out.cell, far_fr HX2.out.fr⟩
        case measure => simp [numOf]; omega
      · have hsw := (HR2.out.drewN 1).swap (i := i) (j := a + o2) (by omega) (by omega)
        rw [← HG.out, ← HG.out] at hsw
        have HSW : Hid _ := hsw
        have hP2 : PermIn a b d (swp dj i (a + o2)) := permIn_trans _ _ _ _ _ HP.out (swp_permIn dj a b i (a + o2) (by omega) hib (by omega) HAB.out (by omega))
        have HP2 : Hid (PermIn a b d (swp dj i (a + o2))) := hP2
        clear hsw hP2
        go_wp2
        go_region
        all_goals go_wp2
        go_roundw
        case rel => exact ⟨i + 1, swp dj i (a + o2), Y, by go_num, by omega, by omega, by rw [size_swp]; exact hsj, HSW.out, HP2.out, far_cell hne HX2.out.cell, far_fr HX2.out.fr⟩
        case measure => simp [numOf]; omega
    · have hoz : (L : Int) ≤ (o : Int) := by omega
      have hol : (o : Int) - (L : Int) = ((o2 : Nat) : Int) := by omega
      have HO3 : Hid (o2 = o - L) := ho3
      clear ho3
      rcases Nat.lt_trichotomy i (a + o2) with hcmp | hcmp | hcmp
      · have hsw := (HR2.out.drewN 1).swap (i := i) (j := a + o2) (by omega) (by omega)
        rw [← HG.out, ← HG.out] at hsw
        have HSW : Hid _ := hsw
        have hP2 : PermIn a b d (swp dj i (a + o2)) := permIn_trans _ _ _ _ _ HP.out (swp_permIn dj a b i (a + o2) (by omega) hib (by omega) HAB.out (by omega))
        have HP2 : Hid (PermIn a b d (swp dj i (a + o2))) := hP2
        clear hsw hP2
        go_wp2
        go_region
        all_goals go_wp2
        go_roundw
        case rel => exact ⟨i + 1, swp dj i (a + o2), Y, by go_num, by omega, by omega, by rw [size_swp]; exact hsj, HSW.out, HP2.out, far_cell hne HX2.out.cell, far_fr HX2.out.fr⟩
        case measure => simp [numOf]; omega
      · have hsw := (HR2.out.drewN 1).swap (i := i) (j := i) (by omega) (by omega)
        rw [← HG.out] at hsw
        have HSW : Hid _ := hsw
        have hP2 : PermIn a b d (swp dj i i) := permIn_trans _ _ _ _ _ HP.out (swp_permIn dj a b i i (by omega) hib (by omega) hib (by omega))
        have HP2 : Hid (PermIn a b d (swp dj i i)) := hP2
        clear hsw hP2
        have hcz : (a : Int) + (o2 : Int) = (i : Int) := by omega
        have HCM : Hid (i = a + o2) := hcmp
        clear hcmp
        go_wp2
        go_region
        all_goals go_wp2
        go_roundw
        case rel => exact ⟨i + 1, swp dj i i, Y, by go_num, by omega, by omega, by rw [size_swp]; exact hsj, HSW.out, HP2.out, far_cell hne HX2.out.cell, far_fr HX2.out.fr⟩
        case measure => simp [numOf]; omega
      · have hsw := (HR2.out.drewN 1).swap (i := i) (j := a + o2) (by omega) (by omega)
        rw [← HG.out, ← HG.out] at hsw
        have HSW : Hid _ := hsw
        have hP2 : PermIn a b d (swp dj i (a + o2)) := permIn_trans _ _ _ _ _ HP.out (swp_permIn dj a b i (a + o2) (by omega) hib (by omega) HAB.out (by omega))
        have HP2 : Hid (PermIn a b d (swp dj i (a + o2))) := hP2
        clear hsw hP2
        go_wp2
        go_region
        all_goals go_wp2
        go_roundw
        case rel => exact ⟨i + 1, swp dj i (a + o2), Y, by go_num, by omega, by omega, by rw [size_swp]; exact hsj, HSW.out, HP2.out, far_cell hne HX2.out.cell, far_fr HX2.out.fr⟩
        case measure => simp [numOf]; omega
end Go.Proofs.YtcmnmogmdhofcabGreat.sortu

/- Rows of numbers of 32 bits that are sorted in place: slices.pdqsortOrdered, slices.Sort at []uint32. -/
namespace Go.Proofs.YtcmnmogmdhofcabGreat.sortu
open Go.RowKit Go.Sort
set_option linter.unusedVariables false
set_option maxRecDepth 100000

def PdqOk (n : Nat) : Prop := ∀ (blk off cap a b : Nat) (lim : Int) (d : Array Int) (len : Nat) (w : World), b - a ≤ n → d.size = len → Holds encU w blk off d → blk < w.heap.size → a ≤ b → b ≤ d.size → d.size < 50 → 0 ≤ lim → lim ≤ 64 → Go.Sort.Below ltInt a b d →
  Calls Tryz.prog 99 #[.slice (some ⟨blk, off, none⟩) len cap, .int .i64 a, .int .i64 b, .int .i64 lim] w fun e w' => e = .returned (.tuple #[]) ∧ ∃ d', Row w blk off d' w' ∧ PermIn a b d d' ∧ SortedIn ltInt a b d'

structure PR (w : World) (blk off a b : Nat) (d : Array Int) (a' b' : Nat) (dk : Array Int) (wr : World) : Prop where
  row : Row w blk off dk wr
  sz : dk.size = d.size
  ab : a' ≤ b'
  bd : b' ≤ d.size
  bel : Go.Sort.Below ltInt a' b' dk
  fin : ∀ R, PermIn a' b' dk R → SortedIn ltInt a' b' R → PermIn a b d R ∧ SortedIn ltInt a b R

theorem PR.perm {w : World} {blk off a b : Nat} {d : Array Int} {a' b' : Nat} {dk dk2 : Array Int} {wr w2 : World} (h : PR w blk off a b d a' b' dk wr) (hr : Row wr blk off dk2 w2) (hp : PermIn a' b' dk dk2) : PR w blk off a b d a' b' dk2 w2 :=
  ⟨h.row.trans hr, by rw [hp.1]; exact h.sz, h.ab, h.bd, h.bel.perm (by rw [h.sz]; exact h.bd) hp, fun R h1 h2 => h.fin R (permIn_trans _ _ _ _ _ hp h1) h2⟩
theorem PR.lt {w : World} {blk off a b : Nat} {d : Array Int} {a' b' : Nat} {dk : Array Int} {wr : World} (h : PR w blk off a b d a' b' dk wr) (hb : blk < w.heap.size) : blk < wr.heap.size := Nat.lt_of_lt_of_le hb h.row.grown.size
theorem PR.same {w : World} {blk off a b : Nat} {d : Array Int} {a' b' : Nat} {dk : Array Int} {wr w2 : World} (h : PR w blk off a b d a' b' dk wr) (hr : Row wr blk off dk w2) : PR w blk off a b d a' b' dk w2 := h.perm hr (permIn_refl _ _ _)
theorem PR.drewN {w : World} {blk off a b : Nat} {d : Array Int} {a' b' : Nat} {dk : Array Int} {wr : World} (h : PR w blk off a b d a' b' dk wr) (q : Nat) : PR w blk off a b d a' b' dk (wr.drewN q) := ⟨h.row.drewN q, h.sz, h.ab, h.bd, h.bel, h.fin⟩

set_option maxHeartbeats 16000000 in
theorem pdq_step (n : Nat) (IH : ∀ m, m < n → PdqOk m) : PdqOk n := by
  intro blk off cap a b lim d len w hn hlen hH hlt hab hb hsz hl0 hl1 hB
  subst hlen
  have HIH : Hid (∀ m, m < n → PdqOk m) := IH
  have HS : Hid (PR w blk off a b d a b d w) := ⟨Row.start hH, rfl, hab, hb, hB, fun R h1 h2 => ⟨h1, h2⟩⟩
  clear IH hH hB
  go_enter Tryz.func99, Tryz.ntmps99
  go_wp2
  go_loopg [1, 2, 3, 8, 9] (b - a + 1) (fun g va vb vl v8 v9 wr => ∃ (a' b' : Nat) (lim' : Int) (wb wp : Bool) (dk : Array Int), va = .int .i64 a' ∧ vb = .int .i64 b' ∧ vl = .int .i64 lim' ∧ v8 = .bool wb ∧ v9 = .bool wp ∧ 0 ≤ lim' ∧ lim' ≤ 64 ∧ b' - a' ≤ n ∧ g = b' - a' + 1 ∧ PR w blk off a b d a' b' dk wr)
  case atStart => exact ⟨a, b, lim, true, true, d, rfl, rfl, rfl, rfl, rfl, hl0, hl1, hn, rfl, HS.out⟩
  case round =>
    clear HS
    obtain ⟨a', b', lim', wb, wp, dk, rfl, rfl, rfl, rfl, rfl, hl0', hl1', hn', hgk, hpr⟩ := hrel
    have HGK : Hid (gk = b' - a' + 1) := hgk
    have hab' := hpr.ab
    have hbd' := hpr.bd
    have hsk := hpr.sz
    have HP : Hid (PR w blk off a b d a' b' dk wr) := hpr
    have hblk : blk < wr.heap.size := hpr.lt hlt
    obtain ⟨L, hL, hLb⟩ : ∃ L : Nat, (b' : Int) - (a' : Int) = L ∧ L = b' - a' := ⟨b' - a', by omega, rfl⟩
    have HL : Hid (L = b' - a') := hLb
    clear hgk hpr
    by_cases h12 : L ≤ 12
    · have h12z : (L : Int) ≤ 12 := by omega
      clear hLb
      have c := insertU blk off cap a' b' dk wr HP.out.row.holds hab' (by omega) (by omega)
      rw [hsk] at c
      go_wp2_with (go_at_call 126; refine c.mono ?_; rintro e w1 ⟨rfl, hrow1⟩)
      refine bodyPost_ret (results_none rfl _ _ _) rfl ?_
      obtain ⟨hp1, hs1⟩ := insertionSort_holds swo_ltInt dk a' b' hab' (by rw [HP.out.sz]; exact HP.out.bd)
      obtain ⟨f1, f2⟩ := HP.out.fin _ hp1 hs1
      exact ⟨rfl, _, HP.out.row.trans hrow1, f1, f2⟩
    have h12z : ¬ (L : Int) ≤ 12 := by omega
    have hab12 : a' + 12 < b' := by omega
    clear hLb
    by_cases hlz : lim' = 0
    · subst hlz
      have c := heapU blk off cap a' b' dk wr HP.out.row.holds (by omega) (by omega) (by omega)
      rw [hsk] at c
      go_wp2_with (go_at_call 127; refine c.mono ?_; rintro e w1 ⟨rfl, hrow1⟩)
      refine bodyPost_ret (results_none rfl _ _ _) rfl ?_
      obtain ⟨hp1, hs1⟩ := heapSort_holds swo_ltInt dk a' b' hab' (by rw [HP.out.sz]; exact HP.out.bd)
      obtain ⟨f1, f2⟩ := HP.out.fin _ hp1 hs1
      exact ⟨rfl, _, HP.out.row.trans hrow1, f1, f2⟩
    go_upto_if 35 with fail
    go_cut [3] (fun s wq => ∃ (lim2 : Int) (d2 : Array Int), s = .int .i64 lim2 ∧ 0 ≤ lim2 ∧ lim2 ≤ 64 ∧ PR w blk off a b d a' b' d2 wq)
    case first =>
      cases wb with
      | true =>
        go_wp2
        go_meet
        case rel => exact ⟨lim', dk, rfl, hl0', hl1', HP.out⟩
      | false =>
        have c := breakU blk off cap a' b' dk wr HP.out.row.holds hblk hab12 (by omega) (by omega)
        rw [hsk] at c
        go_wp2_with (go_at_call 128; refine c.mono ?_; rintro e w1 ⟨rfl, d2, hrow1, hp1⟩)
        go_meet
        case rel => exact ⟨lim' - 1, d2, rfl, by omega, by omega, HP.out.perm hrow1 hp1⟩
    case rest =>
      obtain ⟨lim2, d2, hls, hl20, hl21, hpr2⟩ := hcut
      subst hls
      clear HP hsk hblk
      obtain ⟨wx, hwx⟩ : ∃ wx, wx = wc := ⟨_, rfl⟩
      rw [← hwx] at hpr2 ⊢
      clear hwx
      have hsk2 := hpr2.sz
      have HP2 : Hid (PR w blk off a b d a' b' d2 wx) := hpr2
      have hblk2 : blk < wx.heap.size := hpr2.lt hlt
      clear hpr2
      have c := pivotU blk off cap a' b' d2 wx HP2.out.row.holds hblk2 hab12 (by omega) (by omega)
      rw [hsk2] at c
      go_upto_if 50 with (go_at_call 129; refine c.mono ?_; rintro e w3 ⟨p, hint, rfl, hh3, hp1, hp2, hrow3⟩)
      have HP3 : Hid (PR w blk off a b d a' b' d2 w3) := HP2.out.same hrow3
      clear hrow3 HP2 c
      go_cut [11, 12] (fun s u wq => ∃ (p3 h3 : Nat) (d3 : Array Int), s = .int .i64 p3 ∧ u = .int .i64 h3 ∧ a' < p3 ∧ p3 < b' ∧ PR w blk off a b d a' b' d3 wq)
      case first =>
        by_cases hh2 : hint = 2
        · subst hh2
          have c := reverseU blk off cap a' b' d2 w3 HP3.out.row.holds (by omega) (by omega) (by omega)
          rw [hsk2] at c
          go_wp2_with (go_at_call 130; refine c.mono ?_; rintro e w4 ⟨rfl, d3, hrow4, hp4⟩)
          go_meet
          case rel => exact ⟨b' - 1 - (p - a'), 1, d3, by congr 1; omega, rfl, by omega, by omega, HP3.out.perm hrow4 hp4⟩
        · have hh2z : ¬ (hint : Int) = 2 := by omega
          go_wp2
          go_meet
          case rel => exact ⟨p, hint, d2, rfl, rfl, by omega, by omega, HP3.out⟩
      case rest =>
        obtain ⟨p3, h3, d3, hs11, hs12, hpa, hpb, hpr3⟩ := hcut
        subst hs11 hs12
        clear HP3 hsk2 hblk2 hh3 hp1 hp2
        obtain ⟨wy, hwx⟩ : ∃ wx, wx = wc := ⟨_, rfl⟩
        rw [← hwx] at hpr3 ⊢
        clear hwx
        have hsk3 := hpr3.sz
        have hblk3 : blk < wy.heap.size := hpr3.lt hlt
        have HP3 : Hid (PR w blk off a b d a' b' d3 wy) := hpr3
        clear hpr3
        go_upto_region 15 with fail
        go_cut [68] (fun s wq => ∃ t : Bool, s = .bool t ∧ wq = wy)
        case first =>
          rcases Bool.eq_false_or_eq_true wb with hwb | hwb <;> rcases Bool.eq_false_or_eq_true wp with hwp | hwp
          all_goals subst hwb hwp
          all_goals go_wp2
          all_goals go_meet
          all_goals exact ⟨_, rfl, rfl⟩
        case rest =>
          obtain ⟨t, ht, hwq⟩ := hcut
          subst ht hwq
          go_upto_if 68 with fail
          go_cut [] (fun wq => PR w blk off a b d a' b' d3 wq)
          case first =>
            cases t with
            | false =>
              go_wp2
              go_meet
              exact HP3.out
            | true =>
              have c := partialU blk off cap a' b' d3 wc HP3.out.row.holds (by omega) (by omega) (by omega)
              rw [hsk3] at c
              go_wp2_with (go_at_call 131; refine c.mono ?_; rintro e w4 ⟨r, rfl, hr, hrow4⟩; have HR4 : Hid (r = true → SortedIn ltInt a' b' d3) := hr; clear hr; rcases Bool.eq_false_or_eq_true r with hr2 | hr2 <;> subst hr2)
              · refine bodyPost_ret (results_none rfl _ _ _) rfl ?_
                obtain ⟨f1, f2⟩ := HP3.out.fin d3 (permIn_refl _ _ _) (HR4.out trivial)
                exact ⟨rfl, d3, HP3.out.row.trans hrow4, f1, f2⟩
              · go_meet
                exact HP3.out.same hrow4
          case rest =>
            clear HP3 hblk3
            obtain ⟨wz, hwx⟩ : ∃ wx, wx = wc := ⟨_, rfl⟩
            rw [← hwx] at hcut ⊢
            clear hwx
            have hpr4 : PR w blk off a b d a' b' d3 wz := hcut
            clear hcut
            have hblk4 : blk < wz.heap.size := hpr4.lt hlt
            have HP4 : Hid (PR w blk off a b d a' b' d3 wz) := hpr4
            obtain ⟨G, hG⟩ : ∃ G : Nat → Int, ∀ t, G t = d3[t]! := ⟨fun t => d3[t]!, fun _ => rfl⟩
            have HG : Hid (∀ t, G t = d3[t]!) := hG
            have hcw : ∀ t, t < d.size → wz.cell? ⟨blk, off + t, none⟩ = some (.int .u32 (G t)) := fun t ht => by rw [hG]; exact (hpr4.row.holds t (by omega)).1
            obtain ⟨te, hte⟩ : ∃ te, te = (decide (0 < a') && !ltInt (G (a' - 1)) (G p3)) := ⟨_, rfl⟩
            have HTE : Hid (te = (decide (0 < a') && !ltInt (G (a' - 1)) (G p3))) := hte
            clear hpr4 hG hte
            go_upto_region 17 with fail
            go_cut [87] (fun s wq => s = .bool te ∧ PR w blk off a b d a' b' d3 wq)
            case first =>
              by_cases ha0 : 0 < a'
              · have haz : (0 : Int) < (a' : Int) := by omega
                go_big_quiet (first | (go_at_call 132; refine Calls.quiet_of_same (lessU _ _ _)))
                go_wp2_with fail
                go_meet
                case rel => exact ⟨by rw [HTE.out]; simp [ha0], HP4.out.drewN nq⟩
              · have haz : decide ((0 : Int) < (a' : Int)) = false := decide_eq_false (by omega)
                go_big_quiet (first | (go_at_call 132; refine Calls.quiet_of_same (lessU _ _ _)))
                go_wp2_with fail
                go_meet
                case rel => exact ⟨by rw [HTE.out]; simp [ha0], HP4.out.drewN nq⟩
            case rest =>
              obtain ⟨hs87, hpr5⟩ := hcut
              subst hs87
              clear HP4 hblk4 hcw
              obtain ⟨wu, hwx⟩ : ∃ wx, wx = wc := ⟨_, rfl⟩
              rw [← hwx] at hpr5 ⊢
              clear hwx
              have hblk5 : blk < wu.heap.size := hpr5.lt hlt
              have HP5 : Hid (PR w blk off a b d a' b' d3 wu) := hpr5
              clear hpr5
              cases te with
              | true =>
                have htt : 0 < a' ∧ (!ltInt d3[a' - 1]! d3[p3]!) = true := by have := HTE.out; simp only [HG.out] at this; exact and_true_of this
                have HTT : Hid _ := htt
                clear htt
                have c := partEqU blk off cap a' b' p3 d3 wu HP5.out.row.holds hpa hpb (by omega) (by omega)
                rw [hsk3] at c
                go_wp2_with (go_at_call 133; refine c.mono ?_; rintro e w6 ⟨mid, d4, rfl, hrow6, hpe⟩)
                obtain ⟨e1, e2, e3, e4, e5⟩ := round_eq swo_ltInt (partitionEqual_holds ltInt) HTT.out.1 (Nat.le_of_lt hpa) hpb (by rw [hsk3]; exact hbd') HP5.out.bel (by have := HTT.out.2; simpa using this) hpe
                have hpr6 : PR w blk off a b d mid b' d4 w6 := ⟨HP5.out.row.trans hrow6, by rw [e3]; exact hsk3, e2, hbd', e4, fun R h1 h2 => by obtain ⟨g1, g2⟩ := e5 R h1 h2; exact HP5.out.fin R g1 g2⟩
                have hgk := HGK.out
                go_roundg (b' - mid + 1)
                case measure => omega
                case rel => exact ⟨mid, b', lim2, wb, wp, d4, rfl, rfl, rfl, rfl, rfl, hl20, hl21, by omega, rfl, hpr6⟩
              | false =>
                have c := partU blk off cap a' b' p3 d3 wu HP5.out.row.holds hpa hpb (by omega) (by omega)
                rw [hsk3] at c
                go_upto_if 113 with (go_at_call 134; refine c.mono ?_; rintro e w6 ⟨mid, ap, d4, rfl, hrow6, hpt⟩; obtain ⟨e1, e2, e37⟩ := round_part swo_ltInt (partition_holds ltInt) (Nat.le_of_lt hpa) hpb (by rw [hsk3]; exact hbd') HP5.out.bel hpt; have HE37 : Hid _ := e37; have HROW6 : Hid (Row wu blk off d4 w6) := hrow6; clear e37 hrow6 hpt)
                obtain ⟨e3, e4, e5, e6, e7⟩ := HE37.out
                have hrow6 := HROW6.out
                have HR6 : Hid (Row w blk off d4 w6) := HP5.out.row.trans hrow6
                have hblk6 : blk < w6.heap.size := Nat.lt_of_lt_of_le hblk5 hrow6.grown.size
                have hsk4 : d4.size = d.size := by rw [e3]; exact hsk3
                have HE4 : Hid (Go.Sort.Below ltInt a' mid d4) := e4
                have HE5 : Hid (Go.Sort.Below ltInt (mid + 1) b' d4) := e5
                have HE6 : Hid (∀ L, PermIn a' mid d4 L → SortedIn ltInt a' mid L → Go.Sort.Below ltInt (mid + 1) b' L ∧ ∀ R, PermIn (mid + 1) b' L R → SortedIn ltInt (mid + 1) b' R → PermIn a' b' d3 R ∧ SortedIn ltInt a' b' R) := e6
                have HE7 : Hid (∀ L, PermIn (mid + 1) b' d4 L → SortedIn ltInt (mid + 1) b' L → Go.Sort.Below ltInt a' mid L ∧ ∀ R, PermIn a' mid L R → SortedIn ltInt a' mid R → PermIn a' b' d3 R ∧ SortedIn ltInt a' b' R) := e7
                clear e3 e4 e5 e6 e7 hrow6 HE37 HROW6 c
                by_cases hlr : (mid : Int) - (a' : Int) < (b' : Int) - (mid : Int)
                · have c := HIH.out (mid - a') (by omega) blk off cap a' mid lim2 d4 d.size w6 (Nat.le_refl _) hsk4 HR6.out.holds hblk6 e1 (by omega) (by omega) hl20 hl21 HE4.out
                  go_wp2_with fail
                  go_at_call 99
                  go_fit c
                  rintro e w7 ⟨rfl, d5, hrow7, hp7, hs7⟩
                  have HR7 : Hid (Row w6 blk off d5 w7) := hrow7
                  have HP7 : Hid (PermIn a' mid d4 d5) := hp7
                  have HS7 : Hid (SortedIn ltInt a' mid d5) := hs7
                  clear hrow7 hp7 hs7 c
                  go_wp2_with fail
                  have hrow7 := HR7.out
                  have hp7 := HP7.out
                  obtain ⟨f1, f2⟩ := HE6.out d5 hp7 HS7.out
                  have hpr7 : PR w blk off a b d (mid + 1) b' d5 w7 := ⟨HR6.out.trans hrow7, by rw [hp7.1]; exact hsk4, by omega, hbd', f1, fun R h1 h2 => by obtain ⟨g1, g2⟩ := f2 R h1 h2; exact HP5.out.fin R g1 g2⟩
                  have hgk := HGK.out
                  go_roundg (b' - (mid + 1) + 1)
                  case measure => omega
                  case rel => exact ⟨mid + 1, b', lim2, _, ap, d5, by go_num, rfl, rfl, rfl, rfl, hl20, hl21, by omega, rfl, hpr7⟩
                · have c := HIH.out (b' - (mid + 1)) (by omega) blk off cap (mid + 1) b' lim2 d4 d.size w6 (Nat.le_refl _) hsk4 HR6.out.holds hblk6 (by omega) (by omega) (by omega) hl20 hl21 HE5.out
                  have hmz : ((mid + 1 : Nat) : Int) = (mid : Int) + 1 := by omega
                  rw [hmz] at c
                  clear hmz
                  go_wp2_with fail
                  go_at_call 99
                  go_fit c
                  rintro e w7 ⟨rfl, d5, hrow7, hp7, hs7⟩
                  have HR7 : Hid (Row w6 blk off d5 w7) := hrow7
                  have HP7 : Hid (PermIn (mid + 1) b' d4 d5) := hp7
                  have HS7 : Hid (SortedIn ltInt (mid + 1) b' d5) := hs7
                  clear hrow7 hp7 hs7 c
                  go_wp2_with fail
                  have hrow7 := HR7.out
                  have hp7 := HP7.out
                  obtain ⟨f1, f2⟩ := HE7.out d5 hp7 HS7.out
                  have hpr7 : PR w blk off a b d a' mid d5 w7 := ⟨HR6.out.trans hrow7, by rw [hp7.1]; exact hsk4, e1, by omega, f1, fun R h1 h2 => by obtain ⟨g1, g2⟩ := f2 R h1 h2; exact HP5.out.fin R g1 g2⟩
                  have hgk := HGK.out
                  go_roundg (mid - a' + 1)
                  case measure => omega
                  case rel => exact ⟨a', mid, lim2, _, ap, d5, rfl, rfl, rfl, rfl, rfl, hl20, hl21, by omega, rfl, hpr7⟩

theorem pdqU : ∀ n, PdqOk n := fun n => Nat.strongRecOn n (fun m h => pdq_step m h)

end Go.Proofs.YtcmnmogmdhofcabGreat.sortu

/- Rows of numbers of 32 bits: slices.Sort; each number once (slices.Compact); where a number is (slices.BinarySearch). -/
namespace Go.Proofs.YtcmnmogmdhofcabGreat.sortu
open Go.RowKit Go.Sort
set_option linter.unusedVariables false
set_option maxRecDepth 100000

set_option maxHeartbeats 4000000 in
theorem sortU (blk off cap : Nat) (d : Array Int) (w : World) (hH : Holds encU w blk off d) (hlt : blk < w.heap.size) (hsz : d.size < 50) :
    Calls Tryz.prog 65 #[.slice (some ⟨blk, off, none⟩) d.size cap] w fun e w' => e = .returned (.tuple #[]) ∧ ∃ d', Row w blk off d' w' ∧ PermIn 0 d.size d d' ∧ SortedIn ltInt 0 d.size d' := by
  have hk : bitsLen d.size ≤ 6 := (bitsLen_le_iff _ 6).2 (by omega)
  have hu : IntKind.u64.wrap (d.size : Int) = d.size := Go.Proofs.YtcmnmogmdhofcabGreat.form.wrapU (by omega) (by omega)
  have c1 := lenU d.size hsz w
  have c2 := pdqU d.size blk off cap 0 d.size (bitsLen d.size) d d.size w (by omega) rfl hH hlt (by omega) (Nat.le_refl _) hsz (by omega) (by omega) (Or.inl rfl)
  go_enter Tryz.func65, Tryz.ntmps65
  go_wp2_with (first | (go_at_call 100; refine c1.mono ?_; rintro e w' ⟨rfl, hw'⟩; obtain rfl := hw'.symm) | (go_at_call 99; refine c2.mono ?_; rintro e w1 ⟨rfl, d', h1, h2, h3⟩; have H1 : Hid (Row w blk off d' w1) := h1; have H2 : Hid (PermIn 0 d.size d d') := h2; have H3 : Hid (SortedIn ltInt 0 d.size d') := h3; clear h1 h2 h3))
  go_end0
  exact ⟨rfl, d', H1.out, H2.out, H3.out⟩

theorem Row.set {w0 w : World} {blk off : Nat} {d : Array Int} (h : Row w0 blk off d w) {i : Nat} (hi : i < d.size) (x : Int) : Row w0 blk off (d.setIfInBounds i x) (w.setCell ⟨blk, off + i, none⟩ (encU x)) := by
  have e : w.setCell ⟨blk, off + i, none⟩ (encU x) = putRow encU w blk off (d.setIfInBounds i x) := by
    have := putRow_set encU w blk off d i x hi
    rwa [putRow_self encU w blk off d h.holds] at this
  rw [e]
  refine ⟨holds_putRow encU w blk off d _ h.holds (by simp), ?_⟩
  refine ⟨h.grown.os, h.grown.tape, h.grown.output, by rw [size_putRow]; exact h.grown.size, fun k hk hne => ?_⟩
  rw [← h.grown.block k hk hne]
  simp only [putRow, mapBlock, Array.getElem?_modify]
  rw [if_neg (fun e => hne (by rw [e]))]

structure Cp (d : Array Int) (m kk : Nat) (dk : Array Int) : Prop where
  sz : dk.size = d.size
  k1 : 1 ≤ kk
  km : kk ≤ m
  inc : ∀ j, 1 ≤ j → j < kk → dk[j - 1]! < dk[j]!
  last : dk[kk - 1]! = d[m - 1]!
  mem : ∀ x, (∃ j, j < kk ∧ dk[j]! = x) ↔ (∃ j, j < m ∧ d[j]! = x)
  rest : ∀ j, m - 1 ≤ j → dk[j]! = d[j]!

theorem cp_start (d : Array Int) : Cp d 1 1 d := ⟨rfl, by omega, by omega, fun j h1 h2 => by omega, rfl, fun x => Iff.rfl, fun j _ => rfl⟩
theorem Cp.next {d : Array Int} {m : Nat} (h : Cp d m m d) (hlt : d[m - 1]! < d[m]!) : Cp d (m + 1) (m + 1) d := by
  refine ⟨rfl, by omega, by omega, fun j h1 h2 => ?_, rfl, fun x => Iff.rfl, fun j _ => rfl⟩
  by_cases e : j = m
  · subst e; exact hlt
  · exact h.inc j h1 (by omega)
theorem Cp.same {d : Array Int} {m kk : Nat} {dk : Array Int} (h : Cp d m kk dk) (he : d[m]! = d[m - 1]!) (hm : 1 ≤ m) : Cp d (m + 1) kk dk := by
  refine ⟨h.sz, h.k1, by have := h.km; omega, h.inc, by rw [h.last, Nat.add_sub_cancel, he], fun x => ?_, fun j hj => h.rest j (by omega)⟩
  rw [h.mem]
  constructor
  · rintro ⟨j, hj, hx⟩; exact ⟨j, by omega, hx⟩
  · rintro ⟨j, hj, hx⟩
    by_cases e : j = m
    · subst e; exact ⟨j - 1, by omega, by rw [← he]; exact hx⟩
    · exact ⟨j, by omega, hx⟩
theorem Cp.put {d : Array Int} {m kk : Nat} {dk : Array Int} (h : Cp d m kk dk) (hkm : kk < m) (hm : m < d.size) (hlt : d[m - 1]! < d[m]!) : Cp d (m + 1) (kk + 1) (dk.setIfInBounds kk d[m]!) := by
  have hk := h.k1
  have hsz := h.sz
  have e1 : (dk.setIfInBounds kk d[m]!)[kk]! = d[m]! := getElem!_set_same dk kk _ (by omega)
  have e2 : ∀ j, j ≠ kk → (dk.setIfInBounds kk d[m]!)[j]! = dk[j]! := fun j hj => getElem!_set_other dk kk j _ hj
  refine ⟨by simp [hsz], by omega, by omega, fun j h1 h2 => ?_, by rw [Nat.add_sub_cancel, Nat.add_sub_cancel, e1], fun x => ?_, fun j hj => ?_⟩
  · by_cases e : j = kk
    · subst e
      rw [e1, e2 (j - 1) (by omega), h.last]
      exact hlt
    · rw [e2 j e, e2 (j - 1) (by omega)]
      exact h.inc j h1 (by omega)
  · constructor
    · rintro ⟨j, hj, hx⟩
      by_cases e : j = kk
      · subst e; rw [e1] at hx; exact ⟨m, by omega, hx⟩
      · rw [e2 j e] at hx
        obtain ⟨i, hi, hi2⟩ := (h.mem x).1 ⟨j, by omega, hx⟩
        exact ⟨i, by omega, hi2⟩
    · rintro ⟨j, hj, hx⟩
      by_cases e : j = m
      · subst e; exact ⟨kk, by omega, by rw [e1]; exact hx⟩
      · obtain ⟨i, hi, hi2⟩ := (h.mem x).2 ⟨j, by omega, hx⟩
        exact ⟨i, by omega, by rw [e2 i (by omega)]; exact hi2⟩
  · rw [e2 j (by omega)]
    exact h.rest j (by omega)
theorem sorted_step {d : Array Int} {n m : Nat} (h : SortedIn ltInt 0 n d) (h1 : 1 ≤ m) (hm : m < n) (hne : ¬ d[m]! = d[m - 1]!) : d[m - 1]! < d[m]! := by
  have := h (m - 1) m (by omega) (by omega) hm
  unfold ltInt at this
  simp at this
  omega

def firstL (dk : Array Int) (kk : Nat) : List Int := (List.range kk).map (fun j => dk[j]!)
theorem firstL_len (dk : Array Int) (kk : Nat) : (firstL dk kk).length = kk := by simp [firstL]
theorem firstL_get (dk : Array Int) {kk j : Nat} (h : j < kk) : (firstL dk kk).getD j 0 = dk[j]! := by simp [firstL, List.getD, h]
theorem firstL_inc {dk : Array Int} {kk : Nat} (h : ∀ j, 1 ≤ j → j < kk → dk[j - 1]! < dk[j]!) : (firstL dk kk).Pairwise (· < ·) := by
  have hh : ∀ n i, i + n + 1 < kk → dk[i]! < dk[i + n + 1]! := by
    intro n
    induction n with
    | zero => intro i hi; have := h (i + 1) (by omega) (by omega); simpa using this
    | succ n ih =>
      intro i hi
      have h1 := ih i (by omega)
      have h2 := h (i + n + 1 + 1) (by omega) (by omega)
      simp only [Nat.add_sub_cancel] at h2
      have e : i + (n + 1) + 1 = i + n + 1 + 1 := by omega
      rw [e]
      omega
  rw [firstL, List.pairwise_map, List.pairwise_iff_getElem]
  intro i j hi hj hij
  simp at hi hj
  simp only [List.getElem_range]
  have := hh (j - i - 1) i (by omega)
  have e : i + (j - i - 1) + 1 = j := by omega
  rwa [e] at this
theorem firstL_mem {dk : Array Int} {kk : Nat} {x : Int} : x ∈ firstL dk kk ↔ ∃ j, j < kk ∧ dk[j]! = x := by
  simp [firstL]

structure Once (w : World) (blk off cap : Nat) (d : Array Int) (E : List Int) (w' : World) : Prop where
  le : E.length ≤ d.size
  one : 1 ≤ E.length
  inc : E.Pairwise (· < ·)
  mem : ∀ x, x ∈ E ↔ ∃ j, j < d.size ∧ d[j]! = x
  cells : ∀ j, j < E.length → w'.cell? ⟨blk, off + j, none⟩ = some (.int .u32 (E.getD j 0))
  grown : w.grownBy w' (some blk)

theorem Cp.once {w w' : World} {blk off cap : Nat} {d : Array Int} {kk : Nat} {dk : Array Int} (h : Cp d d.size kk dk) (hc : ∀ j, j < kk → w'.cell? ⟨blk, off + j, none⟩ = some (.int .u32 (dk[j]!))) (hg : w.grownBy w' (some blk)) : Once w blk off cap d (firstL dk kk) w' :=
  ⟨by rw [firstL_len]; exact h.km, by rw [firstL_len]; exact h.k1, firstL_inc h.inc, fun x => by rw [firstL_mem, h.mem], fun j hj => by rw [firstL_len] at hj; rw [firstL_get dk hj]; exact hc j hj, hg⟩

end Go.Proofs.YtcmnmogmdhofcabGreat.sortu

/- Rows of numbers of 32 bits: each number once (slices.Compact); where a number is (slices.BinarySearch). -/
namespace Go.Proofs.YtcmnmogmdhofcabGreat.sortu
open Go.RowKit Go.Sort
set_option linter.unusedVariables false
set_option maxRecDepth 100000

theorem zeroU32 (w : World) : (zeroValue 33).run Tryz.prog w = .ok (.int .u32 0) w := by kernel_rfl
theorem grown_setCells {w : World} {b o : Nat} : ∀ (vs : List Value) (w' : World) (o' : Nat), w.grownBy w' (some b) → w.grownBy (w'.setCells b o' vs) (some b)
  | [], w', o', h => h
  | v :: vs, w', o', h => by
    refine grown_setCells (o := o) vs _ _ ?_
    refine ⟨h.os, h.tape, h.output, by simpa [World.setCell] using h.size, fun k hk hne => ?_⟩
    rw [Below.heap_setCell _ _ _ _ (fun e => hne (by rw [e]))]
    exact h.block k hk hne

set_option maxHeartbeats 8000000 in
theorem compactU (blk off cap : Nat) (d : Array Int) (w : World) (hH : Holds encU w blk off d) (h1 : 1 ≤ d.size) (hsz : d.size < 50) (hcap : d.size ≤ cap) (hS : SortedIn ltInt 0 d.size d) :
    Calls Tryz.prog 66 #[.slice (some ⟨blk, off, none⟩) d.size cap] w fun e w' => ∃ E : List Int, e = .returned (.slice (some ⟨blk, off, none⟩) E.length cap) ∧ Once w blk off cap d E w' := by
  have HH : Hid (Row w blk off d w) := Row.start hH
  have HS : Hid (SortedIn ltInt 0 d.size d) := hS
  clear hH hS
  obtain ⟨G, hG⟩ : ∃ G : Nat → Int, ∀ t, G t = d[t]! := ⟨fun t => d[t]!, fun _ => rfl⟩
  have HG : Hid (∀ t, G t = d[t]!) := hG
  clear hG
  by_cases h2 : d.size < 2
  · have hz : (d.size : Int) < 2 := by omega
    go_enter Tryz.func66, Tryz.ntmps66
    go_wp2
    go_ret
    have hcp := cp_start d
    have e1 : d.size = 1 := by omega
    refine ⟨firstL d 1, by rw [firstL_len, e1]; rfl, (show Cp d d.size 1 d from by rw [e1]; exact hcp).once (fun j hj => (HH.out.holds j (by omega)).1) HH.out.grown⟩
  have hz : ¬ (d.size : Int) < 2 := by omega
  go_enter Tryz.func66, Tryz.ntmps66
  go_wp2
  go_loopg [3] d.size (fun g v wr => ∃ k : Nat, v = .int .i64 k ∧ 1 ≤ k ∧ k ≤ d.size ∧ g = d.size + 1 - k ∧ Row w blk off d wr ∧ Cp d k k d)
  case atStart => exact ⟨1, rfl, Nat.le_refl _, by omega, by omega, HH.out, cp_start d⟩
  case round =>
    clear HH
    obtain ⟨k, rfl, hk1, hk2, hgk, hrow, hcp⟩ := hrel
    have HGK : Hid (gk = d.size + 1 - k) := hgk
    have HR : Hid (Row w blk off d wr) := hrow
    have HC : Hid (Cp d k k d) := hcp
    have hcw : ∀ t, t < d.size → wr.cell? ⟨blk, off + t, none⟩ = some (.int .u32 (G t)) := fun t ht => by rw [HG.out]; exact (hrow.holds t ht).1
    clear hgk hrow hcp
    by_cases hkn : k < d.size
    case neg =>
      have hkz : ¬ (k : Int) < (d.size : Int) := by omega
      go_wp2
      go_ret
      have ek : k = d.size := by omega
      subst ek
      exact ⟨firstL d d.size, by rw [firstL_len]; rfl, HC.out.once (fun j hj => (HR.out.holds j hj).1) HR.out.grown⟩
    have hkz : (k : Int) < (d.size : Int) := by omega
    by_cases heq : G k = G (k - 1)
    · have heqz : (G k == G (k - 1)) = true := by simp [heq]
      have HEQ : Hid (G k = G (k - 1)) := heq
      clear heq
      go_upto_region 6 with fail
      go_cut [25] (fun s wq => s = .bool true ∧ Row w blk off d wq)
      case first =>
        go_quiet (fail)
        go_wp2_with fail
        go_meet
        case rel => exact ⟨rfl, HR.out.drewN nq⟩
      case rest =>
        obtain ⟨hs25, hrow2⟩ := hcut
        subst hs25
        have HR2 : Hid (Row w blk off d wc) := hrow2
        have HC2 : Hid (Cp d (k + 1) k d) := HC.out.same (by rw [← HG.out, ← HG.out]; exact HEQ.out) hk1
        have hkc : k ≤ cap := by omega
        clear HR hcw hrow2 HC
        go_wp2
        go_loopg [3, 5] (d.size - k) (fun g v u wr => ∃ (kk k2 : Nat) (dk : Array Int), v = .int .i64 kk ∧ u = .int .i64 k2 ∧ 1 ≤ k2 ∧ k + k2 ≤ d.size ∧ kk < k + k2 ∧ g = d.size - (k + k2) + 1 ∧ Row w blk off dk wr ∧ Cp d (k + k2) kk dk)
        case atStart => exact ⟨k, 1, d, rfl, rfl, Nat.le_refl _, by omega, by omega, by omega, HR2.out, HC2.out⟩
        case round =>
          clear HR2 HC2
          obtain ⟨kk, k2, dk, rfl, rfl, hk21, hk22, hkk, hgk, hrow, hcp⟩ := hrel
          have HGK2 : Hid (gk = d.size - (k + k2) + 1) := hgk
          have HR : Hid (Row w blk off dk wr) := hrow
          have HC : Hid (Cp d (k + k2) kk dk) := hcp
          have hsk := hcp.sz
          have hkk1 := hcp.k1
          have hcw : ∀ t, k + k2 - 1 ≤ t ∧ t < d.size → wr.cell? ⟨blk, off + t, none⟩ = some (.int .u32 (G t)) := fun t ht => by rw [HG.out, ← hcp.rest t ht.1]; exact (hrow.holds t (by omega)).1
          obtain ⟨u0, hu0⟩ : ∃ u0, u0 = dk[kk]! := ⟨_, rfl⟩
          have hkn2 : kk < d.size := by omega
          have hck : wr.cell? ⟨blk, off + kk, none⟩ = some (.int .u32 u0) := by rw [hu0]; exact (hrow.holds kk (by omega)).1
          have hfk : wr.frozen? ⟨blk, off + kk, none⟩ = false := (hrow.holds kk (by omega)).2
          clear hgk hcp hu0
          by_cases hk2n : k + k2 < d.size
          case neg =>
            have hk2z : ¬ (k2 : Int) < ((d.size - k : Nat) : Int) := by omega
            have hcl : ∀ ty, (Builtin.clear_ #[32] ty #[.slice (some ⟨blk, off + kk, none⟩) (d.size - kk) (cap - kk)]).run Tryz.prog wr = .ok (.tuple #[]) (wr.setCells blk (off + kk) (List.replicate (d.size - kk) (.int .u32 0))) :=
              fun ty => Lib.run_clear_slice wr _ _ ty _ Tryz.underlying32 zeroU32 rfl rfl blk (off + kk) _ _ (by omega) (fun j hj => by rw [show off + kk + j = off + (kk + j) by omega, (hrow.holds (kk + j) (by omega)).1]; rfl) (fun j hj => by rw [show off + kk + j = off + (kk + j) by omega]; exact (hrow.holds (kk + j) (by omega)).2)
            have hkc2 : kk ≤ cap := by omega
            clear hrow hcw hck hfk
            go_wp2
            go_ret
            have e9 : k + k2 = d.size := by omega
            have hcp9 : Cp d d.size kk dk := by rw [← e9]; exact HC.out
            refine ⟨firstL dk kk, by rw [firstL_len]; rfl, hcp9.once (fun j hj => ?_) (grown_setCells (o := 0) _ _ _ HR.out.grown)⟩
            rw [World.cell?_setCells_out _ _ _ _ _ (fun _ _ => Or.inl (by dsimp only; omega))]
            exact (HR.out.holds j (by omega)).1
          have hk2z : (k2 : Int) < ((d.size - k : Nat) : Int) := by omega
          by_cases hne : G (k + k2) = G (k + k2 - 1)
          · have hnez : (G (k + k2) != G (k + k2 - 1)) = false := by simp [hne]
            have HC3 : Hid (Cp d (k + k2 + 1) kk dk) := HC.out.same (by rw [← HG.out, ← HG.out]; exact hne) (by omega)
            clear hrow hne
            go_upto_region 11 with fail
            go_cut [44] (fun s wq => s = .bool false ∧ Row w blk off dk wq)
            case first =>
              go_quiet (fail)
              go_wp2_with fail
              go_meet
              case rel => exact ⟨by rw [← hnez]; congr 2 <;> (congr 1; omega), HR.out.drewN nq⟩
            case rest =>
              obtain ⟨hs44, hrow4⟩ := hcut
              subst hs44
              have HR4 : Hid (Row w blk off dk wc) := hrow4
              clear hrow4 hcw hck hfk
              go_wp2
              have hgk := HGK2.out
              go_roundg (gk - 1)
              case measure => omega
              case rel => exact ⟨kk, k2 + 1, dk, rfl, by go_num, by omega, by omega, by omega, by omega, HR4.out, HC3.out⟩
          · have hnez : (G (k + k2) != G (k + k2 - 1)) = true := by simp [hne]
            have HC3 : Hid (Cp d (k + k2 + 1) (kk + 1) (dk.setIfInBounds kk d[k + k2]!)) := HC.out.put hkk hk2n (sorted_step HS.out (by omega) hk2n (by rw [← HG.out, ← HG.out]; exact hne))
            clear hrow hne
            go_upto_region 11 with fail
            go_cut [44] (fun s wq => s = .bool true ∧ Row w blk off dk wq)
            case first =>
              go_quiet (fail)
              go_wp2_with fail
              go_meet
              case rel => exact ⟨by rw [← hnez]; congr 2 <;> (congr 1; omega), HR.out.drewN nq⟩
            case rest =>
              obtain ⟨hs44, hrow4⟩ := hcut
              subst hs44
              have HR4 : Hid (Row w blk off dk wc) := hrow4
              clear hcw hck hfk
              have hc1 : wc.cell? ⟨blk, off + k + k2, none⟩ = some (.int .u32 (G (k + k2))) := by rw [HG.out, ← HC.out.rest (k + k2) (by omega), show off + k + k2 = off + (k + k2) by omega]; exact (hrow4.holds (k + k2) (by omega)).1
              obtain ⟨u0, hu0⟩ : ∃ u0, u0 = dk[kk]! := ⟨_, rfl⟩
              have hck : wc.cell? ⟨blk, off + kk, none⟩ = some (.int .u32 u0) := by rw [hu0]; exact (hrow4.holds kk (by omega)).1
              have hfk : wc.frozen? ⟨blk, off + kk, none⟩ = false := (hrow4.holds kk (by omega)).2
              have hset := HR4.out.set (i := kk) (by omega) (G (k + k2))
              have HST : Hid (Row w blk off (dk.setIfInBounds kk (G (k + k2))) (wc.setCell ⟨blk, off + kk, none⟩ (encU (G (k + k2))))) := hset
              clear hrow4 hu0 hset
              go_wp2
              have hgk := HGK2.out
              go_roundg (gk - 1)
              case measure => omega
              case rel => exact ⟨kk + 1, k2 + 1, dk.setIfInBounds kk d[k + k2]!, by go_num, by go_num, by omega, by omega, by omega, by omega, by rw [← HG.out]; exact HST.out, HC3.out⟩
    · have heqz : (G k == G (k - 1)) = false := by simp [heq]
      have HC3 : Hid (Cp d (k + 1) (k + 1) d) := HC.out.next (sorted_step HS.out hk1 hkn (by rw [← HG.out, ← HG.out]; exact heq))
      clear heq
      go_upto_region 6 with fail
      go_cut [25] (fun s wq => s = .bool false ∧ Row w blk off d wq)
      case first =>
        go_quiet (fail)
        go_wp2_with fail
        go_meet
        case rel => exact ⟨rfl, HR.out.drewN nq⟩
      case rest =>
        obtain ⟨hs25, hrow2⟩ := hcut
        subst hs25
        have HR2 : Hid (Row w blk off d wc) := hrow2
        clear hrow2 hcw HR
        go_wp2
        have hgk := HGK.out
        go_roundg (gk - 1)
        case measure => omega
        case rel => exact ⟨k + 1, by go_num, by omega, by omega, by omega, HR2.out, HC3.out⟩
theorem isNaNS (x : Int) (w : World) : Calls Tryz.prog 137 #[.int .u32 x] w fun e w' => e = .returned (.bool false) ∧ w' = w := by
  go_enter Tryz.func137, Tryz.ntmps137
  go_wp2
  go_ret
  exact ⟨by simp, rfl⟩

def FoundAt (E : List Int) (n : Nat) (x : Int) (e : Ending) : Prop := ∃ (k : Nat) (f : Bool), e = .returned (.tuple #[.int .i64 k, .bool f]) ∧ (f = true → k < n ∧ E.getD k 0 = x) ∧ (f = false → ∀ j, j < n → ¬ E.getD j 0 = x)

set_option maxHeartbeats 4000000 in
theorem searchU (blk off cap : Nat) (E : List Int) (x : Int) (w : World) (hc : ∀ j, j < E.length → w.cell? ⟨blk, off + j, none⟩ = some (.int .u32 (E.getD j 0))) (hlen : E.length < 50) (hinc : E.Pairwise (· < ·)) :
    Calls Tryz.prog 101 #[.slice (some ⟨blk, off, none⟩) E.length cap, .int .u32 x] w fun e w' => FoundAt E E.length x e ∧ w' = w := by
  obtain ⟨G, hG⟩ : ∃ G : Nat → Int, ∀ t, G t = E.getD t 0 := ⟨fun t => E.getD t 0, fun _ => rfl⟩
  have hcw : ∀ t, t < E.length → w.cell? ⟨blk, off + t, none⟩ = some (.int .u32 (G t)) := fun t ht => by rw [hG]; exact hc t ht
  have HG : Hid (∀ t, G t = E.getD t 0) := hG
  have HI : Hid (∀ i j, i < j → j < E.length → G i < G j) := fun i j hij hj => by
    rw [hG, hG]
    rw [List.pairwise_iff_getElem] at hinc
    have := hinc i j (by omega) hj hij
    simpa [List.getD, hj, Nat.lt_trans hij hj] using this
  clear hc hG hinc
  obtain ⟨n, hn⟩ : ∃ n, n = E.length := ⟨_, rfl⟩
  rw [← hn] at hcw hlen HI ⊢
  have HN : Hid (n = E.length) := hn
  clear hn
  go_enter Tryz.func101, Tryz.ntmps101
  go_wp2
  go_loopw [7, 8] (fun v u wr => ∃ i j : Nat, v = .int .i64 i ∧ u = .int .i64 j ∧ i ≤ j ∧ j ≤ n ∧ wr = w ∧ (∀ t, t < i → G t < x) ∧ (∀ t, j ≤ t → t < n → x ≤ G t)) (fun v u _ => (numOf u).toNat - (numOf v).toNat)
  case atStart => exact ⟨0, n, rfl, rfl, by omega, Nat.le_refl _, rfl, fun t ht => by omega, fun t h1 h2 => by omega⟩
  case round =>
    obtain ⟨i, j, rfl, rfl, hij, hjn, hwr, hlo, hhi⟩ := hrel
    subst hwr
    have HLO : Hid (∀ t, t < i → G t < x) := hlo
    have HHI : Hid (∀ t, j ≤ t → t < n → x ≤ G t) := hhi
    clear hlo hhi
    by_cases hlt : i < j
    · have hltz : (i : Int) < (j : Int) := by omega
      obtain ⟨h, hh, hh2⟩ : ∃ h : Nat, ((i : Int) + (j : Int)) / 2 = (h : Int) ∧ h = (i + j) / 2 := ⟨(i + j) / 2, by omega, rfl⟩
      have hih : i ≤ h := by omega
      have hhj : h < j := by omega
      have hu : IntKind.u64.wrap ((i : Int) + (j : Int)) = (i : Int) + (j : Int) := Go.Proofs.YtcmnmogmdhofcabGreat.form.wrapU (by omega) (by omega)
      clear hh2
      by_cases hl : G h < x
      · have hlb : ltInt (G h) x = true := by simp [ltInt, hl]
        go_wp2_with (go_at_call 132; refine (lessU _ _ _).mono ?_; rw [hlb]; rintro e w' ⟨rfl, hw'⟩; obtain rfl := hw'.symm)
        go_roundw
        case rel => exact ⟨h + 1, j, by go_num, rfl, by omega, hjn, trivial, fun t ht => by rcases Nat.eq_or_lt_of_le (show t ≤ h by omega) with e | e; (rw [e]; exact hl); (have := HI.out t h e (by omega); omega), HHI.out⟩
        case measure => simp [numOf]; omega
      · have hlb : ltInt (G h) x = false := by simp [ltInt, hl]
        go_wp2_with (go_at_call 132; refine (lessU _ _ _).mono ?_; rw [hlb]; rintro e w' ⟨rfl, hw'⟩; obtain rfl := hw'.symm)
        go_roundw
        case rel => exact ⟨i, h, rfl, rfl, hih, by omega, trivial, HLO.out, fun t h1 h2 => by rcases Nat.eq_or_lt_of_le h1 with e | e; (rw [← e]; omega); (have := HI.out h t e h2; omega)⟩
        case measure => simp [numOf]; omega
    · obtain rfl : i = j := by omega
      have HLE : Hid (n = E.length) := HN
      have fin : ∀ f : Bool, (f = true → i < n ∧ G i = x) → (f = false → ∀ t, t < n → ¬ G t = x) → ∀ e w', e = Ending.returned (.tuple #[.int .i64 ((i : Nat) : Int), .bool f]) → w' = wr → (FoundAt E n x e ∧ w' = wr) :=
        fun f h1 h2 e w' he hw => ⟨⟨i, f, he, fun hf => by obtain ⟨a1, a2⟩ := h1 hf; exact ⟨a1, by rw [← HG.out]; exact a2⟩, fun hf j hj => by rw [← HG.out]; exact h2 hf j hj⟩, hw⟩
      have FIN : Hid _ := fin
      clear fin
      by_cases hin : i < n
      · have hinz : (i : Int) < (n : Int) := by omega
        by_cases hgx : G i = x
        · have hgz : (G i == x) = true := by simp [hgx]
          have HGX : Hid (G i = x) := hgx
          clear hgx
          go_wp2
          refine bodyPost_ret (v := .tuple #[.int .i64 ((i : Nat) : Int), .bool true]) ?_ rfl (FIN.out true (fun _ => ⟨hin, HGX.out⟩) (fun h => (by cases h)) _ _ rfl rfl)
          simp [results, Tryz.results101, go_sem]
        · have hgz : (G i == x) = false := by simp [hgx]
          go_wp2_with (go_at_call 137; refine (isNaNS _ _).mono ?_; rintro e w' ⟨rfl, hw'⟩; obtain rfl := hw'.symm)
          refine bodyPost_ret (v := .tuple #[.int .i64 ((i : Nat) : Int), .bool false]) ?_ rfl (FIN.out false (fun h => (by cases h)) (fun _ t ht => ?_) _ _ rfl rfl)
          · simp [results, Tryz.results101, go_sem]
          · rcases Nat.lt_trichotomy t i with e | e | e
            · have := HLO.out t e; omega
            · rw [e]; exact hgx
            · have h1 := HHI.out i (Nat.le_refl _) hin
              have h2 := HI.out i t e ht
              omega
      · have hinz : ¬ (i : Int) < (n : Int) := by omega
        go_wp2
        refine bodyPost_ret (v := .tuple #[.int .i64 ((i : Nat) : Int), .bool false]) ?_ rfl (FIN.out false (fun h => (by cases h)) (fun _ t ht => by have := HLO.out t (by omega); omega) _ _ rfl rfl)
        simp [results, Tryz.results101, go_sem]

end Go.Proofs.YtcmnmogmdhofcabGreat.sortu

/- What the world of facts tells of numbers and kinds (world.number, world.may). -/
namespace Go.Proofs.YtcmnmogmdhofcabGreat.form
open Go.RowKit Go.Maps
set_option linter.unusedVariables false
set_option maxRecDepth 100000
attribute [local go_sem ↓] Go.wp_at_zero Go.wp_at_succ

def NumS (N : List Int) (n : Int) (x : Bits) : Prop := ∀ k, x.getLsbD k = true ↔ k < N.length ∧ nAt N k = n

theorem numberO {w : World} {lim : Nat} {g : WB} {B : List Bool} {C : List LIns} {R : List LRow} {A : List LPlace} {N : List Int} {s slots : Nat} (hW : WorldAt w lim g B C R A N) (hD : Dims B C s slots A N) (n : Int) :
    Calls Tryz.prog 67 #[.pointer (some ⟨g.q, 0, none⟩), .int .u32 n] w fun e w' => (∃ x, e = .returned (.int .u64 (bn x)) ∧ NumS N n x) ∧ w' = w := by
  have y4 := hW.stat.p4
  have h41 := hD.n41
  have HI : Hid (N.Pairwise (· < ·)) := hD.inc
  have c := Go.Proofs.YtcmnmogmdhofcabGreat.sortu.searchU g.b4 0 g.c4 N n w (fun j hj => by rw [Nat.zero_add]; exact hW.stat.nums j hj) (by omega) hD.inc
  clear hD hW
  go_enter Tryz.func67, Tryz.ntmps67
  go_wp2_with (go_at_call 101; refine c.mono ?_; rintro e w1 ⟨⟨k, f, rfl, hf1, hf2⟩, hw1⟩; obtain rfl := hw1.symm; have HF1 : Hid (f = true → k < N.length ∧ N.getD k 0 = n) := hf1; have HF2 : Hid (f = false → ∀ j, j < N.length → ¬ N.getD j 0 = n) := hf2; clear hf1 hf2; rcases Bool.eq_false_or_eq_true f with hf | hf <;> subst hf)
  · obtain ⟨h1, h2⟩ := HF1.out trivial
    have h64 : k < 64 := by omega
    go_wp2_with (go_at_call 77; refine (onlyO k h64 _).mono ?_; rintro e w1 ⟨rfl, hw1⟩; obtain rfl := hw1.symm)
    go_ret
    refine ⟨⟨only k, rfl, fun j => ?_⟩, rfl⟩
    rw [only_bit h64]
    constructor
    · rintro rfl; exact ⟨h1, h2⟩
    · rintro ⟨h3, h4⟩; exact getD_inj HI.out h3 h1 (by unfold nAt at h4 ⊢; rw [h4, h2])
  · go_wp2
    go_ret
    refine ⟨⟨0, rfl, fun j => ?_⟩, rfl⟩
    constructor
    · intro h; simp at h
    · rintro ⟨h3, h4⟩; exact absurd h4 (HF2.out trivial j h3)

theorem only_less {n : Nat} (hn : n < 64) : ∃ X : Bits, IntKind.u64.wrap (bn (only n) - 1) = bn X ∧ ∀ k, X.getLsbD k = true ↔ k < n := by
  refine ⟨BitVec.ofNat 64 (2 ^ n - 1), ?_, fun k => ?_⟩
  · have e : (only n).toNat = 2 ^ n := by
      unfold only
      rw [BitVec.toNat_twoPow]
      exact Nat.mod_eq_of_lt (Nat.pow_lt_pow_right (by omega) hn)
    have h1 : 2 ^ n < 2 ^ 64 := Nat.pow_lt_pow_right (by omega) hn
    have h2 : 0 < 2 ^ n := Nat.pow_pos (by omega)
    have e2 : bn (BitVec.ofNat 64 (2 ^ n - 1)) = ((2 ^ n - 1 : Nat) : Int) := by
      unfold bn
      rw [BitVec.toNat_ofNat, Nat.mod_eq_of_lt (by omega)]
    rw [e2]
    unfold bn
    rw [e]
    have e3 : (((2 ^ n : Nat) : Int) - 1) = ((2 ^ n - 1 : Nat) : Int) := by omega
    rw [e3]
    exact wrapU (by omega) (by omega)
  · rw [BitVec.getLsbD_ofNat, Nat.testBit_two_pow_sub_one]
    simp
    omega

def mayT (B : List Bool) (kind : Int) (t : Nat) : Bool := (kind == 3) || (B.getD t false == (kind == 2))

structure MyS (w : World) (lim : Nat) (g : WB) (B : List Bool) (C : List LIns) (R : List LRow) (A : List LPlace) (N : List Int) (kind : Int) (j : Nat) (h : Bits) (wr : World) : Prop where
  bel : Below w.heap.size w wr
  z : w.heap.size + 1 < wr.heap.size
  a0 : wr.cell? ⟨w.heap.size + 1, 0, none⟩ = some (.int .u64 (bn h))
  a1 : wr.cell? ⟨w.heap.size + 1, 1, none⟩ = some (.int .u64 0)
  f0 : wr.frozen? ⟨w.heap.size + 1, 0, none⟩ = false
  f1 : wr.frozen? ⟨w.heap.size + 1, 1, none⟩ = false
  r0 : wr.cell? ⟨w.heap.size, 0, none⟩ = some (.int .u64 0)
  r1 : wr.cell? ⟨w.heap.size, 1, none⟩ = some (.int .u64 0)
  s0 : wr.frozen? ⟨w.heap.size, 0, none⟩ = false
  s1 : wr.frozen? ⟨w.heap.size, 1, none⟩ = false
  bits : ∀ t, h.getLsbD t = true ↔ t < j ∧ mayT B kind t = true

theorem MyS.drewN {w : World} {lim : Nat} {g : WB} {B : List Bool} {C : List LIns} {R : List LRow} {A : List LPlace} {N : List Int} {kind : Int} {j : Nat} {h : Bits} {wr : World} (hs : MyS w lim g B C R A N kind j h wr) (q : Nat) : MyS w lim g B C R A N kind j h (wr.drewN q) :=
  ⟨below_drewN hs.bel q, hs.z, hs.a0, hs.a1, hs.f0, hs.f1, hs.r0, hs.r1, hs.s0, hs.s1, hs.bits⟩

theorem MyS.put {w : World} {lim : Nat} {g : WB} {B : List Bool} {C : List LIns} {R : List LRow} {A : List LPlace} {N : List Int} {kind : Int} {j j' : Nat} {h h' : Bits} {wr : World} (hs : MyS w lim g B C R A N kind j h wr) (hb : ∀ t, h'.getLsbD t = true ↔ t < j' ∧ mayT B kind t = true) :
    MyS w lim g B C R A N kind j' h' (wr.setCell ⟨w.heap.size + 1, 0, none⟩ (.int .u64 (bn h'))) := by
  have a0 := hs.a0
  have a1 := hs.a1
  have r0 := hs.r0
  have r1 := hs.r1
  have e1 : ∀ o, (wr.setCell ⟨w.heap.size + 1, 0, none⟩ (.int .u64 (bn h'))).cell? ⟨w.heap.size, o, none⟩ = wr.cell? ⟨w.heap.size, o, none⟩ := fun o => World.cell?_of_block (Below.heap_setCell _ _ _ _ (by dsimp only; omega))
  exact ⟨hs.bel.setCell (by dsimp only; omega) _, by have := hs.z; simpa [World.setCell] using this, by simp [go_sem, a0], by simp [go_sem, a1], by have := hs.f0; simpa [go_sem] using this, by have := hs.f1; simpa [go_sem] using this, by rw [e1]; exact r0, by rw [e1]; exact r1, by have := hs.s0; simpa [go_sem] using this, by have := hs.s1; simpa [go_sem] using this, hb⟩
theorem MyS.skip {w : World} {lim : Nat} {g : WB} {B : List Bool} {C : List LIns} {R : List LRow} {A : List LPlace} {N : List Int} {kind : Int} {j : Nat} {h : Bits} {wr : World} (hs : MyS w lim g B C R A N kind j h wr) (hc : mayT B kind j = false) : MyS w lim g B C R A N kind (j + 1) h wr :=
  ⟨hs.bel, hs.z, hs.a0, hs.a1, hs.f0, hs.f1, hs.r0, hs.r1, hs.s0, hs.s1, fun t => by
    rw [hs.bits]
    constructor
    · rintro ⟨h1, h2⟩; exact ⟨by omega, h2⟩
    · rintro ⟨h1, h2⟩
      refine ⟨?_, h2⟩
      rcases Nat.eq_or_lt_of_le (Nat.le_of_lt_succ h1) with e | e
      · rw [e, hc] at h2; cases h2
      · exact e⟩
theorem may_or {B : List Bool} {kind : Int} {j : Nat} {h : Bits} (hj : j < 64) (hb : ∀ t, h.getLsbD t = true ↔ t < j ∧ mayT B kind t = true) (hc : mayT B kind j = true) : ∀ t, (h ||| only j).getLsbD t = true ↔ t < j + 1 ∧ mayT B kind t = true := by
  intro t
  rw [bits_or_only hj, hb]
  constructor
  · rintro (⟨h1, h2⟩ | rfl)
    · exact ⟨by omega, h2⟩
    · exact ⟨by omega, hc⟩
  · rintro ⟨h1, h2⟩
    rcases Nat.eq_or_lt_of_le (Nat.le_of_lt_succ h1) with e | e
    · exact Or.inr e
    · exact Or.inl ⟨e, h2⟩

set_option maxHeartbeats 4000000 in
theorem mayW {w : World} {lim : Nat} {g : WB} {B : List Bool} {C : List LIns} {R : List LRow} {A : List LPlace} {N : List Int} {s slots : Nat} (hW : WorldAt w lim g B C R A N) (hD : Dims B C s slots A N) (kind : Int) :
    Calls Tryz.prog 68 #[.pointer (some ⟨g.q, 0, none⟩), .int .i64 kind] w fun e w' => ∃ x y, e = .returned (knownV x y) ∧ (∀ t, x.getLsbD t = true ↔ t < B.length ∧ mayT B kind t = true) ∧ (∀ k, y.getLsbD k = true ↔ k < N.length ∧ ¬ kind = 2) ∧ Below w.heap.size w w' := by
  have hb12 := hD.b12
  have h41 := hD.n41
  have HW : Hid (WorldAt w lim g B C R A N) := hW
  have y0 := hW.stat.p0
  have hq := cell_lt y0
  have hz : MyS w lim g B C R A N kind 0 0 ((w.alloc (.cells #[.int .u64 0, .int .u64 0] 108)).alloc (.cells #[.int .u64 0, .int .u64 0] 108)) :=
    ⟨((Below.refl _ _).alloc (Nat.le_refl _) _).alloc (by simp) _, by simp, by simp [go_sem]; rfl, by simp [go_sem], by simp [go_sem], by simp [go_sem], by simp [go_sem], by simp [go_sem], by simp [go_sem], by simp [go_sem], fun t => by simp⟩
  have HZ : Hid (MyS w lim g B C R A N kind 0 0 ((w.alloc (.cells #[.int .u64 0, .int .u64 0] 108)).alloc (.cells #[.int .u64 0, .int .u64 0] 108))) := hz
  clear hz hW hD
  go_enter Tryz.func68, Tryz.ntmps68
  go_wp2
  go_loopg [6, 7, 14] (B.length + 1) (fun gg v6 v7 v wr => ∃ (j : Nat) (h : Bits), v = .int .i64 j ∧ j ≤ B.length ∧ gg = B.length + 1 - j ∧ MyS w lim g B C R A N kind j h wr)
  case atStart => exact ⟨0, 0, rfl, by omega, by omega, HZ.out⟩
  case round =>
    clear HZ
    obtain ⟨j, h, rfl, hj, hgk, hs⟩ := hrel
    have HGK : Hid (gk = B.length + 1 - j) := hgk
    have HS : Hid (MyS w lim g B C R A N kind j h wr) := hs
    have z1 := hs.z
    have a0 := hs.a0
    have a1 := hs.a1
    have f0 := hs.f0
    have f1 := hs.f1
    have r0 := hs.r0
    have r1 := hs.r1
    have s0 := hs.s0
    have s1 := hs.s1
    clear hgk hs
    by_cases hjl : j < B.length
    · have hjz : (j : Int) < (B.length : Int) := by omega
      have hc := (HW.out.below HS.out.bel).stat.held.wide j hjl
      obtain ⟨bj, hbj⟩ : ∃ bj, bj = B.getD j false := ⟨_, rfl⟩
      rw [← hbj] at hc
      obtain ⟨c, hcc⟩ : ∃ c, c = mayT B kind j := ⟨_, rfl⟩
      have HC : Hid (c = mayT B kind j) := hcc
      have HCB : Hid (c = ((kind == 3) || (bj == (kind == 2)))) := by show c = _; rw [hcc, hbj]; rfl
      clear hcc hbj
      go_upto_region 5 with fail
      go_cut [26] (fun s wq => s = .bool c ∧ wq = wr)
      case first =>
        by_cases hk3 : kind = 3
        · have hk3z : (kind == 3) = true := by simp [hk3]
          go_wp2
          go_meet
          case rel => exact ⟨by rw [HCB.out]; simp [hk3], rfl⟩
        · have hk3z : (kind == 3) = false := by simp [hk3]
          go_wp2
          go_meet
          case rel => exact ⟨by rw [HCB.out, hk3z]; simp, rfl⟩
      case rest =>
        obtain ⟨hs26, hwc⟩ := hcut
        have hwc2 := hwc.symm
        subst hs26 hwc2
        clear hwc
        have h64 : j < 64 := by omega
        cases c with
        | false =>
          go_wp2
          have hgk := HGK.out
          go_roundg (gk - 1)
          case measure => omega
          case rel => exact ⟨j + 1, h, by go_num, by omega, by omega, HS.out.skip HC.out.symm⟩
        | true =>
          have hor := or_is h (only j)
          have hput := (HS.out.drewN 1).put (may_or h64 HS.out.bits HC.out.symm)
          have HPUT : Hid (MyS w lim g B C R A N kind (j + 1) (h ||| only j) ((wr.drewN 1).setCell ⟨w.heap.size + 1, 0, none⟩ (.int .u64 (bn (h ||| only j))))) := hput
          clear hput
          go_wp2
          go_region_with (go_at_call 77; refine (onlyO j h64 _).mono ?_; rintro e w1 ⟨rfl, hw1⟩; obtain rfl := hw1.symm)
          all_goals
            go_wp2_with fail
            have hgk := HGK.out
            go_roundg (gk - 1)
            case measure => omega
            case rel => exact ⟨j + 1, h ||| only j, by go_num, by omega, by omega, HPUT.out⟩
    · obtain rfl : j = B.length := by omega
      have hjz : ¬ (B.length : Int) < (B.length : Int) := by omega
      by_cases hk2 : kind = 2
      · have hk2z : (kind != 2) = false := by simp [hk2]
        have HK2 : Hid (kind = 2) := hk2
        clear hk2
        go_wp2
        refine bodyPost_ret (v := knownV h 0) ?_ rfl ⟨h, 0, rfl, HS.out.bits, fun k => by simp [HK2.out], ?_⟩
        · simp [results, Tryz.results68, go_sem, knownV, r0, r1]
          rfl
        · exact (HS.out.bel.setCell (Nat.le_refl _) _).setCell (Nat.le_refl _) _
      · have hk2z : (kind != 2) = true := by simp [hk2]
        have HK2 : Hid (¬ kind = 2) := hk2
        clear hk2
        obtain ⟨Y, hY, hYb⟩ := only_less (n := N.length) (by omega)
        have HYB : Hid (∀ k, Y.getLsbD k = true ↔ k < N.length) := hYb
        clear hYb
        have y4 := (HW.out.below HS.out.bel).stat.p4
        have h64 : N.length < 64 := by omega
        go_wp2_with (go_at_call 77; refine (onlyO N.length h64 _).mono ?_; rintro e w1 ⟨rfl, hw1⟩; obtain rfl := hw1.symm)
        refine bodyPost_ret (v := knownV h Y) ?_ rfl ⟨h, Y, rfl, HS.out.bits, fun k => by rw [HYB.out]; simp [HK2.out], ?_⟩
        · simp [results, Tryz.results68, go_sem, knownV, r0, r1]
        · exact ((HS.out.bel.setCell (Nat.le_succ _) _).setCell (Nat.le_refl _) _).setCell (Nat.le_refl _) _
end Go.Proofs.YtcmnmogmdhofcabGreat.form
