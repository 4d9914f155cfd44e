/- Rows of numbers of 32 bits that are sorted in place: patterns that are broken (slices.breakPatternsOrdered). -/
import Derived.Test.YtdbjklngnloibabGreatT15
import Derived.Test.YtdbjklngnloibabGreatT14
import Derived.Test.YtdbjklngnloibabGreatT09

namespace Go.Proofs.YtdbjklngnloibabGreat.sortu
open Go.RowKit Go.Sort Go.Proofs.YtdbjklngnloibabGreat.form
set_option linter.unusedVariables false
set_option maxRecDepth 100000

set_option maxHeartbeats 4000000 in
theorem nextPowU (n : Nat) (h8 : 8 ≤ n) (hn : n < 50) (w : World) : Calls Tryz.prog 118 #[.int .i64 n] w fun e w' => (∃ M : Nat, e = .returned (.int .u64 M) ∧ n < M ∧ M ≤ 2 * n) ∧ w' = w := by
  have hk : bitsLen n ≤ 6 := (bitsLen_le_iff n 6).2 (by omega)
  have h1 := lt_two_pow_bitsLen n
  have h2 := two_pow_bitsLen_le (n := n) (by omega)
  obtain ⟨k, hkk⟩ : ∃ k, k = bitsLen n := ⟨_, rfl⟩
  rw [← hkk] at hk h1 h2
  have HK : Hid (k = bitsLen n) := hkk
  have hs : IntKind.u64.wrap (2 ^ k) = ((2 ^ k : Nat) : Int) := by
    have e : ((2 ^ k : Nat) : Int) = 2 ^ k := by push_cast; rfl
    rw [← e]
    exact wrapU (by omega) (by omega)
  have h64 : (k : Int) ≤ 64 := by omega
  have h0 : (0 : Int) ≤ (k : Int) := by omega
  have H1 : Hid (n < 2 ^ k ∧ 2 ^ k ≤ 2 * n) := ⟨h1, h2⟩
  have hu : IntKind.u64.wrap (n : Int) = n := wrapU (by omega) (by omega)
  clear hkk h1 h2
  go_enter Tryz.func118, Tryz.ntmps118
  go_wp2_with (go_at_call 83; refine (lenU n hn _).mono ?_; rw [← HK.out]; rintro e w' ⟨rfl, hw'⟩; obtain rfl := hw'.symm)
  go_ret
  exact ⟨⟨2 ^ k, by simp, H1.out.1, H1.out.2⟩, rfl⟩

structure Rnd (w0 : World) (rb : Nat) (X : Bits) (w : World) : Prop where
  cell : w.cell? ⟨rb, 0, none⟩ = some (.int .u64 (bn X))
  fr : w.frozen? ⟨rb, 0, none⟩ = false
  grown : w0.grownBy w (some rb)
theorem Rnd.put {w0 w : World} {rb : Nat} {X : Bits} (h : Rnd w0 rb X w) (Y : Bits) (q : Nat) : Rnd w0 rb Y ((w.drewN q).setCell ⟨rb, 0, none⟩ (.int .u64 (bn Y))) := by
  have hc := h.cell
  have hc2 : (w.drewN q).cell? ⟨rb, 0, none⟩ = some (.int .u64 (bn X)) := hc
  refine ⟨by simp [go_sem, hc2], by have := h.fr; simpa [go_sem] using this, ⟨h.grown.os, h.grown.tape, h.grown.output, by simpa [World.setCell] using h.grown.size, fun k hk hne2 => ?_⟩⟩
  rw [Below.heap_setCell _ _ _ _ (by intro e; exact hne2 (by rw [e]))]
  exact h.grown.block k hk hne2

set_option maxHeartbeats 4000000 in
theorem nextXU (rb : Nat) (X : Bits) (w : World) (hR : Rnd w rb X w) : Calls Tryz.prog 119 #[.pointer (some ⟨rb, 0, none⟩)] w fun e w' => ∃ Y, e = .returned (.int .u64 (bn Y)) ∧ Rnd w rb Y w' := by
  have x1 : IntKind.u64.wrap (bn X * 8192) = bn (X <<< 13) := shlk_is X 13
  have x2 := xor_is X (X <<< 13)
  obtain ⟨X1, hX1⟩ : ∃ X1, X1 = X ^^^ X <<< 13 := ⟨_, rfl⟩
  rw [← hX1] at x2
  have x3 : bn X1 / (128 : Int) = bn (X1 >>> 7) := by have := shrk_is X1 7; simpa using this
  have x4 := xor_is X1 (X1 >>> 7)
  obtain ⟨X2, hX2⟩ : ∃ X2, X2 = X1 ^^^ X1 >>> 7 := ⟨_, rfl⟩
  rw [← hX2, ← x3] at x4
  clear x3
  have x5 : IntKind.u64.wrap (bn X2 * 131072) = bn (X2 <<< 17) := shlk_is X2 17
  have x6 := xor_is X2 (X2 <<< 17)
  obtain ⟨X3, hX3⟩ : ∃ X3, X3 = X2 ^^^ X2 <<< 17 := ⟨_, rfl⟩
  rw [← hX3] at x6
  clear hX1 hX2 hX3
  have hc := hR.cell
  have hf := hR.fr
  have HR : Hid (Rnd w rb X w) := hR
  clear hR
  go_enter Tryz.func119, Tryz.ntmps119
  go_wp2
  go_region
  all_goals go_wp2
  obtain ⟨wa, hwa⟩ : ∃ wa, wa = (w.setCell ⟨rb, 0, none⟩ (.int .u64 (bn X1))).drew := ⟨_, rfl⟩
  rw [← hwa]
  have h1 : Rnd w rb X1 wa := hwa ▸ HR.out.put X1 1
  clear HR hc hf hwa
  have hc := h1.cell
  have hf := h1.fr
  have H1 : Hid (Rnd w rb X1 wa) := h1
  clear h1
  go_region
  all_goals go_wp2
  obtain ⟨wb, hwb⟩ : ∃ wb, wb = (wa.setCell ⟨rb, 0, none⟩ (.int .u64 (bn X2))).drew := ⟨_, rfl⟩
  rw [← hwb]
  have h2 : Rnd w rb X2 wb := hwb ▸ H1.out.put X2 1
  clear H1 hc hf hwb
  have hc := h2.cell
  have hf := h2.fr
  have H2 : Hid (Rnd w rb X2 wb) := h2
  clear h2
  go_region
  all_goals go_wp2
  go_ret
  exact ⟨X3, rfl, H2.out.put X3 1⟩

theorem far_cell {w : World} {sb blk x y q : Nat} {u v : Value} {z : Value} (hne : sb ≠ blk) (h : w.cell? ⟨sb, 0, none⟩ = some z) : (((w.drewN q).setCell ⟨blk, x, none⟩ u).setCell ⟨blk, y, none⟩ v).cell? ⟨sb, 0, none⟩ = some z := by
  rw [World.cell?_of_block (w := (w.drewN q).setCell ⟨blk, x, none⟩ u) (Below.heap_setCell _ _ _ _ hne), World.cell?_of_block (w := w.drewN q) (Below.heap_setCell _ _ _ _ hne)]
  exact h
theorem far_fr {w : World} {sb blk x y q : Nat} {u v : Value} (h : w.frozen? ⟨sb, 0, none⟩ = false) : (((w.drewN q).setCell ⟨blk, x, none⟩ u).setCell ⟨blk, y, none⟩ v).frozen? ⟨sb, 0, none⟩ = false := by
  simpa [go_sem] using h

set_option maxHeartbeats 8000000 in
theorem breakU (blk off cap a b : Nat) (d : Array Int) (w : World) (hH : Holds encU w blk off d) (hlt : blk < w.heap.size) (hab : a + 12 < b) (hb : b ≤ d.size) (hsz : d.size < 50) :
    Calls Tryz.prog 100 #[.slice (some ⟨blk, off, none⟩) d.size cap, .int .i64 a, .int .i64 b] w fun e w' =>
      e = .returned (.tuple #[]) ∧ ∃ d', Row w blk off d' w' ∧ PermIn a b d d' := by
  obtain ⟨L, hL, hLb⟩ : ∃ L : Nat, (b : Int) - (a : Int) = L ∧ L = b - a := ⟨b - a, by omega, rfl⟩
  obtain ⟨q, hq, hqb⟩ : ∃ q : Nat, (L : Int).tdiv 4 = q ∧ q = L / 4 := ⟨L / 4, by rw [Int.tdiv_eq_ediv_of_nonneg (by omega)]; omega, rfl⟩
  obtain ⟨i0, hi0⟩ : ∃ i0 : Nat, i0 = a + q * 2 - 1 := ⟨_, rfl⟩
  have hi0z : (a : Int) + (q : Int) * 2 - 1 = i0 := by omega
  have hi2z : (a : Int) + (q : Int) * 2 + 1 = ((i0 + 2 : Nat) : Int) := by omega
  have HQB : Hid (3 ≤ q ∧ 4 * q ≤ L ∧ L = b - a ∧ i0 = a + q * 2 - 1) := ⟨by omega, by omega, hLb, hi0⟩
  have hL8 : 8 ≤ L := by omega
  have hL50 : L < 50 := by omega
  have hi0b : i0 + 2 < b := by omega
  have hi0a : a ≤ i0 := by omega
  have hu : IntKind.u64.wrap (L : Int) = L := wrapU (by omega) (by omega)
  have HHH : Hid (Holds encU w blk off d) := hH
  have hLbn : (L : Int) = bn (BitVec.ofNat 64 L) := by unfold bn; rw [BitVec.toNat_ofNat, Nat.mod_eq_of_lt (by omega)]
  have HLB : Hid ((L : Int) = bn (BitVec.ofNat 64 L)) := hLbn
  clear hH hLb hqb hi0 hLbn
  have hne : w.heap.size ≠ blk := by omega
  go_enter Tryz.func100, Tryz.ntmps100
  go_wp2_with (go_at_call 118; refine (nextPowU L hL8 hL50 _).mono ?_; rintro e w1 ⟨⟨M, rfl, hM1, hM2⟩, hw1⟩; obtain rfl := hw1.symm)
  have HM : Hid (L < M ∧ M ≤ 2 * L) := ⟨hM1, hM2⟩
  have hM100 : (M : Int) ≤ 100 := by omega
  have hM0 : (0 : Int) < (M : Int) := by omega
  obtain ⟨Z, hZ⟩ : ∃ Z : Bits, (M : Int) - 1 = bn Z := ⟨BitVec.ofNat 64 (M - 1), by unfold bn; rw [BitVec.toNat_ofNat, Nat.mod_eq_of_lt (by omega)]; omega⟩
  have HZ : Hid ((M : Int) - 1 = bn Z) := hZ
  have HRN : Hid (Rnd (w.alloc (.cells #[.int .u64 L] 178)) w.heap.size (BitVec.ofNat 64 L) (w.alloc (.cells #[.int .u64 L] 178))) := ⟨by simp [go_sem]; exact HLB.out, by simp [go_sem], ⟨rfl, rfl, rfl, Nat.le_refl _, fun _ _ _ => rfl⟩⟩
  have HRW : Hid (Row w blk off d (w.alloc (.cells #[.int .u64 L] 178))) := by
    have hb := (Below.refl w.heap.size w).alloc (Nat.le_refl _) (.cells #[.int .u64 L] 178)
    refine ⟨fun j hj => ⟨by rw [hb.cell (p := ⟨blk, off + j, none⟩) hlt]; exact (HHH.out j hj).1, by rw [World.frozen?_of_block (w := w) (hb.block blk hlt)]; exact (HHH.out j hj).2⟩, ⟨hb.os, hb.tape, hb.output, hb.size, fun k hk _ => hb.block k hk⟩⟩
  clear hM1 hM2
  go_loopw [9] (fun v wr => ∃ (i : Nat) (dk : Array Int) (X : Bits), v = .int .i64 i ∧ i0 ≤ i ∧ i ≤ i0 + 3 ∧ dk.size = d.size ∧ Row w blk off dk wr ∧ PermIn a b d dk ∧ wr.cell? ⟨w.heap.size, 0, none⟩ = some (.int .u64 (bn X)) ∧ wr.frozen? ⟨w.heap.size, 0, none⟩ = false) (fun v _ => i0 + 3 - (numOf v).toNat)
  case atStart => exact ⟨i0, d, BitVec.ofNat 64 L, rfl, Nat.le_refl _, by omega, rfl, HRW.out, permIn_refl _ _ _, HRN.out.cell, HRN.out.fr⟩
  case round =>
    clear HRN HRW
    obtain ⟨i, dj, X, rfl, hi1, hi2, hsj, hrow, hP, hxc, hxf⟩ := hrel
    have HR : Hid (Row w blk off dj wr) := hrow
    have HP : Hid (PermIn a b d dj) := hP
    have HX : Hid (Rnd wr w.heap.size X wr) := ⟨hxc, hxf, ⟨rfl, rfl, rfl, Nat.le_refl _, fun _ _ _ => rfl⟩⟩
    clear hrow hP hxc hxf
    by_cases hend : i ≤ i0 + 2
    case neg =>
      have hez : ¬ (i : Int) ≤ ((i0 + 2 : Nat) : Int) := by omega
      go_wp2
      go_end0
      exact ⟨rfl, dj, HR.out, HP.out⟩
    have hez : (i : Int) ≤ ((i0 + 2 : Nat) : Int) := by omega
    go_wp2_with fail
    go_at_call 119
    refine (nextXU w.heap.size X _ HX.out).mono ?_
    rintro e w2 ⟨Y, rfl, hx2⟩
    have hyz := and_is Y Z
    have hlow := and_low Y Z
    have hbd := bits_bd (Y &&& Z)
    have hzz := HZ.out
    have hmm := HM.out
    obtain ⟨o, ho⟩ : ∃ o : Nat, bn (Y &&& Z) = (o : Int) := ⟨(bn (Y &&& Z)).toNat, by omega⟩
    have hoM : o < M := by omega
    have hyo : Go.bits .and .u64 (bn Y) (bn Z) = (o : Int) := hyz.trans ho
    have hr2 : Row w blk off dj w2 := ⟨fun j hj => ⟨by rw [World.cell?_of_block (w := wr) (hx2.grown.block blk (by have := HR.out.grown.size; omega) (by simp; omega))]; exact (HR.out.holds j hj).1, by rw [World.frozen?_of_block (w := wr) (hx2.grown.block blk (by have := HR.out.grown.size; omega) (by simp; omega))]; exact (HR.out.holds j hj).2⟩,
      HR.out.grown.andThen hx2.grown (fun j hj => Or.inl (by cases hj; exact Nat.le_refl _))⟩
    have HR2 : Hid (Row w blk off dj w2) := hr2
    have HX2 : Hid (Rnd wr w.heap.size Y w2) := hx2
    have hoo : ∃ o2 : Nat, o2 < L ∧ (o < L ∧ o2 = o ∨ L ≤ o ∧ o2 = o - L) := by
      by_cases h : o < L
      · exact ⟨o, h, Or.inl ⟨h, rfl⟩⟩
      · exact ⟨o - L, by omega, Or.inr ⟨by omega, rfl⟩⟩
    obtain ⟨o2, ho2, hoc⟩ := hoo
    have HO2 : Hid (o < L ∧ o2 = o ∨ L ≤ o ∧ o2 = o - L) := hoc
    have ha2 : a + o2 < d.size := by have := HQB.out; omega
    have hid : i < d.size := by omega
    have hib : i < b := by omega
    have HAB : Hid (a + o2 < b) := by have := HQB.out; show a + o2 < b; omega
    have hxc := hx2.cell
    obtain ⟨G, hG⟩ : ∃ G : Nat → Int, ∀ t, G t = dj[t]! := ⟨fun t => dj[t]!, fun _ => rfl⟩
    have hcw : ∀ t, t < d.size → w2.cell? ⟨blk, off + t, none⟩ = some (.int .u32 (G t)) := fun t ht => by rw [hG]; exact (hr2.holds t (by omega)).1
    have hfw : ∀ t, t < d.size → w2.frozen? ⟨blk, off + t, none⟩ = false := fun t ht => (hr2.holds t (by omega)).2
    have HG : Hid (∀ t, G t = dj[t]!) := hG
    clear hyz hlow hbd hzz hmm ho hr2 hx2 hoc hG
    rcases HO2.out with ⟨hoL, ho3⟩ | ⟨hoL, ho3⟩
    · have hoz : ¬ (L : Int) ≤ (o : Int) := by omega
      subst ho3
      rcases Nat.lt_trichotomy i (a + o2) with hcmp | hcmp | hcmp
      · have hsw := (HR2.out.drewN 1).swap (i := i) (j := a + o2) (by omega) (by omega)
        rw [← HG.out, ← HG.out] at hsw
        have HSW : Hid _ := hsw
        have hP2 : PermIn a b d (swp dj i (a + o2)) := permIn_trans _ _ _ _ _ HP.out (swp_permIn dj a b i (a + o2) (by omega) hib (by omega) HAB.out (by omega))
        have HP2 : Hid (PermIn a b d (swp dj i (a + o2))) := hP2
        clear hsw hP2
        go_wp2
        go_region
        all_goals go_wp2
        go_roundw
        case rel => exact ⟨i + 1, swp dj i (a + o2), Y, by go_num, by omega, by omega, by rw [size_swp]; exact hsj, HSW.out, HP2.out, far_cell hne HX2.out.cell, far_fr HX2.out.fr⟩
        case measure => simp [numOf]; omega
      · have hsw := (HR2.out.drewN 1).swap (i := i) (j := i) (by omega) (by omega)
        rw [← HG.out] at hsw
        have HSW : Hid _ := hsw
        have hP2 : PermIn a b d (swp dj i i) := permIn_trans _ _ _ _ _ HP.out (swp_permIn dj a b i i (by omega) hib (by omega) hib (by omega))
        have HP2 : Hid (PermIn a b d (swp dj i i)) := hP2
        clear hsw hP2
        have hcz : (a : Int) + (o2 : Int) = (i : Int) := by omega
        have HCM : Hid (i = a + o2) := hcmp
        clear hcmp
        go_wp2
        go_region
        all_goals go_wp2
        go_roundw
        case rel => exact ⟨i + 1, swp dj i i, Y, by go_num, by omega, by omega, by rw [size_swp]; exact hsj, HSW.out, HP2.out, far_cell hne HX2.out.cell, far_fr HX2.out.fr⟩
        case measure => simp [numOf]; omega
      · have hsw := (HR2.out.drewN 1).swap (i := i) (j := a + o2) (by omega) (by omega)
        rw [← HG.out, ← HG.out] at hsw
        have HSW : Hid _ := hsw
        have hP2 : PermIn a b d (swp dj i (a + o2)) := permIn_trans _ _ _ _ _ HP.out (swp_permIn dj a b i (a + o2) (by omega) hib (by omega) HAB.out (by omega))
        have HP2 : Hid (PermIn a b d (swp dj i (a + o2))) := hP2
        clear hsw hP2
        go_wp2
        go_region
        all_goals go_wp2
        go_roundw
        case rel => exact ⟨i + 1, swp dj i (a + o2), Y, by go_num, by omega, by omega, by rw [size_swp]; exact hsj, HSW.out, HP2.out, far_cell hne HX2.out.cell, far_fr HX2.out.fr⟩
        case measure => simp [numOf]; omega
    · have hoz : (L : Int) ≤ (o : Int) := by omega
      have hol : (o : Int) - (L : Int) = ((o2 : Nat) : Int) := by omega
      have HO3 : Hid (o2 = o - L) := ho3
      clear ho3
      rcases Nat.lt_trichotomy i (a + o2) with hcmp | hcmp | hcmp
      · have hsw := (HR2.out.drewN 1).swap (i := i) (j := a + o2) (by omega) (by omega)
        rw [← HG.out, ← HG.out] at hsw
        have HSW : Hid _ := hsw
        have hP2 : PermIn a b d (swp dj i (a + o2)) := permIn_trans _ _ _ _ _ HP.out (swp_permIn dj a b i (a + o2) (by omega) hib (by omega) HAB.out (by omega))
        have HP2 : Hid (PermIn a b d (swp dj i (a + o2))) := hP2
        clear hsw hP2
        go_wp2
        go_region
        all_goals go_wp2
        go_roundw
        case rel => exact ⟨i + 1, swp dj i (a + o2), Y, by go_num, by omega, by omega, by rw [size_swp]; exact hsj, HSW.out, HP2.out, far_cell hne HX2.out.cell, far_fr HX2.out.fr⟩
        case measure => simp [numOf]; omega
      · have hsw := (HR2.out.drewN 1).swap (i := i) (j := i) (by omega) (by omega)
        rw [← HG.out] at hsw
        have HSW : Hid _ := hsw
        have hP2 : PermIn a b d (swp dj i i) := permIn_trans _ _ _ _ _ HP.out (swp_permIn dj a b i i (by omega) hib (by omega) hib (by omega))
        have HP2 : Hid (PermIn a b d (swp dj i i)) := hP2
        clear hsw hP2
        have hcz : (a : Int) + (o2 : Int) = (i : Int) := by omega
        have HCM : Hid (i = a + o2) := hcmp
        clear hcmp
        go_wp2
        go_region
        all_goals go_wp2
        go_roundw
        case rel => exact ⟨i + 1, swp dj i i, Y, by go_num, by omega, by omega, by rw [size_swp]; exact hsj, HSW.out, HP2.out, far_cell hne HX2.out.cell, far_fr HX2.out.fr⟩
        case measure => simp [numOf]; omega
      · have hsw := (HR2.out.drewN 1).swap (i := i) (j := a + o2) (by omega) (by omega)
        rw [← HG.out, ← HG.out] at hsw
        have HSW : Hid _ := hsw
        have hP2 : PermIn a b d (swp dj i (a + o2)) := permIn_trans _ _ _ _ _ HP.out (swp_permIn dj a b i (a + o2) (by omega) hib (by omega) HAB.out (by omega))
        have HP2 : Hid (PermIn a b d (swp dj i (a + o2))) := hP2
        clear hsw hP2
        go_wp2
        go_region
        all_goals go_wp2
        go_roundw
        case rel => exact ⟨i + 1, swp dj i (a + o2), Y, by go_num, by omega, by omega, by rw [size_swp]; exact hsj, HSW.out, HP2.out, far_cell hne HX2.out.cell, far_fr HX2.out.fr⟩
        case measure => simp [numOf]; omega
end Go.Proofs.YtdbjklngnloibabGreat.sortu
