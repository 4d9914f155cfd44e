/- Rows of numbers of 32 bits that are sorted in place: the heap sort (slices.siftDownOrdered, heapSortOrdered); a row turned round (reverseRangeOrdered). -/
import Derived.Test.YtdbjklngnloibabGreatT11

namespace Go.Proofs.YtdbjklngnloibabGreat.sortu
open Go.RowKit Go.Sort
set_option linter.unusedVariables false
set_option maxRecDepth 100000

theorem sift_end {hi F root : Nat} {d : Array Int} (h : hi ≤ 2 * root + 1) : siftDown ltInt hi F root d = d := by
  rw [siftDown, dif_pos h]
theorem sift_two_stop {hi F root : Nat} {d : Array Int} (h : 2 * root + 2 < hi) (h1 : ltInt d[F + (2 * root + 1)]! d[F + (2 * root + 1) + 1]! = true) (h2 : ltInt d[F + root]! d[F + (2 * root + 2)]! = false) : siftDown ltInt hi F root d = d := by
  rw [siftDown, dif_neg (by omega), if_pos (by simp [h1]; omega), if_pos (by simp [h2])]
theorem sift_two_go {hi F root : Nat} {d : Array Int} (h : 2 * root + 2 < hi) (h1 : ltInt d[F + (2 * root + 1)]! d[F + (2 * root + 1) + 1]! = true) (h2 : ltInt d[F + root]! d[F + (2 * root + 2)]! = true) :
    siftDown ltInt hi F root d = siftDown ltInt hi F (2 * root + 2) (swp d (F + root) (F + (2 * root + 2))) := by
  rw [siftDown, dif_neg (by omega), if_pos (by simp [h1]; omega), if_neg (by simp [h2]), dif_pos h]
theorem sift_one_stop {hi F root : Nat} {d : Array Int} (h : 2 * root + 1 < hi) (h1 : ¬ (2 * root + 2 < hi ∧ ltInt d[F + (2 * root + 1)]! d[F + (2 * root + 1) + 1]! = true)) (h2 : ltInt d[F + root]! d[F + (2 * root + 1)]! = false) : siftDown ltInt hi F root d = d := by
  rw [siftDown, dif_neg (by omega), if_neg (by simp only [Bool.and_eq_true, decide_eq_true_eq]; exact fun hh => h1 ⟨by omega, hh.2⟩), if_pos (by simp [h2])]
theorem sift_one_go {hi F root : Nat} {d : Array Int} (h : 2 * root + 1 < hi) (h1 : ¬ (2 * root + 2 < hi ∧ ltInt d[F + (2 * root + 1)]! d[F + (2 * root + 1) + 1]! = true)) (h2 : ltInt d[F + root]! d[F + (2 * root + 1)]! = true) :
    siftDown ltInt hi F root d = siftDown ltInt hi F (2 * root + 1) (swp d (F + root) (F + (2 * root + 1))) := by
  conv => lhs; rw [siftDown, dif_neg (by omega), if_neg (by simp only [Bool.and_eq_true, decide_eq_true_eq]; exact fun hh => h1 ⟨by omega, hh.2⟩), if_neg (by simp [h2])]

set_option maxHeartbeats 4000000 in
theorem siftU (blk off cap lo hi F : Nat) (d : Array Int) (w : World) (hH : Holds encU w blk off d) (hlo : lo < 50) (hF : F + hi ≤ d.size) (hsz : d.size < 50) :
    Calls Tryz.prog 117 #[.slice (some ⟨blk, off, none⟩) d.size cap, .int .i64 lo, .int .i64 hi, .int .i64 F] w fun e w' =>
      e = .returned (.tuple #[]) ∧ Row w blk off (siftDown ltInt hi F lo d) w' := by
  go_enter Tryz.func117, Tryz.ntmps117
  go_wp2
  go_loopw [8] (fun vi wr => ∃ (root : Nat) (dk : Array Int), vi = .int .i64 root ∧ root < 50 ∧ dk.size = d.size ∧ Row w blk off dk wr ∧ siftDown ltInt hi F root dk = siftDown ltInt hi F lo d) (fun vi _ => 50 - (numOf vi).toNat)
  case atStart => exact ⟨lo, d, rfl, hlo, rfl, Row.start hH, rfl⟩
  case round =>
    obtain ⟨root, dj, rfl, hr50, hsj, hrow, hI⟩ := hrel
    obtain ⟨G, hG⟩ : ∃ G : Nat → Int, ∀ t, G t = dj[t]! := ⟨fun t => dj[t]!, fun _ => rfl⟩
    have hcw : ∀ t, t < d.size → wr.cell? ⟨blk, off + t, none⟩ = some (.int .u32 (G t)) := fun t ht => by rw [hG]; exact (hrow.holds t (by omega)).1
    have hfw : ∀ t, t < d.size → wr.frozen? ⟨blk, off + t, none⟩ = false := fun t ht => (hrow.holds t (by omega)).2
    have HG : Hid (∀ t, G t = dj[t]!) := hG
    have HI : Hid (siftDown ltInt hi F root dj = siftDown ltInt hi F lo d) := hI
    have HR : Hid (Row w blk off dj wr) := hrow
    clear hG hI hrow hH
    by_cases hc1 : 2 * root + 1 < hi
    case neg =>
      go_wp2
      go_end0
      refine ⟨rfl, ?_⟩
      rw [← HI.out, sift_end (by omega)]
      exact HR.out
    have hc1z : ¬ ((hi : Int) ≤ 2 * (root : Int) + 1) := by omega
    by_cases hc2 : 2 * root + 2 < hi
    · have hc2z : 2 * (root : Int) + 1 + 1 < (hi : Int) := by omega
      go_wp2_with fail
      go_big_quiet (first | (go_at_call 104; refine Calls.quiet_of_same (lessU _ _ _)))
      go_wp2_with fail
      · have hl : ltInt (G (F + (2 * root + 1))) (G (F + (2 * root + 1) + 1)) = true := by first | assumption | (simpa [Nat.add_assoc] using ‹ltInt _ _ = true›)
        have HL : Hid (ltInt dj[F + (2 * root + 1)]! dj[F + (2 * root + 1) + 1]! = true) := by show _ = true; rw [← HG.out, ← HG.out]; exact hl
        revert nq
        intro nq1
        have hcw2 : ∀ t, t < d.size → (wr.drewN nq1).cell? ⟨blk, off + t, none⟩ = some (.int .u32 (G t)) := hcw
        have hfw2 : ∀ t, t < d.size → (wr.drewN nq1).frozen? ⟨blk, off + t, none⟩ = false := hfw
        have HR2 : Hid (Row w blk off dj (wr.drewN nq1)) := HR.out.drewN nq1
        clear hcw hfw HR
        generalize wr.drewN nq1 = wr2 at hcw2 hfw2 HR2 ⊢
        go_big_quiet (first | (go_at_call 104; refine Calls.quiet_of_same (lessU _ _ _)))
        go_wp2_with fail
        · have hs : (!ltInt (G (F + root)) (G (F + (2 * root + 2)))) = true := by first | assumption | (simpa [Nat.add_assoc] using ‹(!ltInt _ _) = true›)
          refine bodyPost_ret (results_none rfl _ _ _) rfl ?_
          refine ⟨rfl, ?_⟩
          rw [← HI.out, sift_two_stop hc2 HL.out (by rw [← HG.out, ← HG.out]; simpa using hs)]
          exact HR2.out.drewN nq
        · have hs : (!ltInt (G (F + root)) (G (F + (2 * root + 2)))) = false := by first | assumption | (simpa [Nat.add_assoc] using ‹(!ltInt _ _) = false›)
          go_region
          all_goals go_wp2
          go_roundw
          case rel =>
            refine ⟨2 * root + 2, swp dj (F + root) (F + (2 * root + 2)), by first | rfl | (congr 1; omega), by omega, by rw [size_swp]; exact hsj, ?_, ?_⟩
            · have := (HR2.out.drewN (nq + 1)).swap (i := F + root) (j := F + (2 * root + 2)) (by omega) (by omega)
              rw [← HG.out, ← HG.out] at this
              first | exact this | (simpa [Nat.add_assoc] using this)
            · rw [← HI.out, sift_two_go hc2 HL.out (by rw [← HG.out, ← HG.out]; simpa using hs)]
          case measure => simp [numOf]; omega
      · have hl : ltInt (G (F + (2 * root + 1))) (G (F + (2 * root + 1) + 1)) = false := by first | assumption | (simpa [Nat.add_assoc] using ‹ltInt _ _ = false›)
        have HL : Hid (¬ (2 * root + 2 < hi ∧ ltInt dj[F + (2 * root + 1)]! dj[F + (2 * root + 1) + 1]! = true)) := fun hh => by have := hh.2; rw [← HG.out, ← HG.out, hl] at this; cases this
        revert nq
        intro nq1
        have hcw2 : ∀ t, t < d.size → (wr.drewN nq1).cell? ⟨blk, off + t, none⟩ = some (.int .u32 (G t)) := hcw
        have hfw2 : ∀ t, t < d.size → (wr.drewN nq1).frozen? ⟨blk, off + t, none⟩ = false := hfw
        have HR2 : Hid (Row w blk off dj (wr.drewN nq1)) := HR.out.drewN nq1
        clear hcw hfw HR
        generalize wr.drewN nq1 = wr2 at hcw2 hfw2 HR2 ⊢
        go_big_quiet (first | (go_at_call 104; refine Calls.quiet_of_same (lessU _ _ _)))
        go_wp2_with fail
        · have hs : (!ltInt (G (F + root)) (G (F + (2 * root + 1)))) = true := by first | assumption | (simpa [Nat.add_assoc] using ‹(!ltInt _ _) = true›)
          refine bodyPost_ret (results_none rfl _ _ _) rfl ?_
          refine ⟨rfl, ?_⟩
          rw [← HI.out, sift_one_stop hc1 HL.out (by rw [← HG.out, ← HG.out]; simpa using hs)]
          exact HR2.out.drewN nq
        · have hs : (!ltInt (G (F + root)) (G (F + (2 * root + 1)))) = false := by first | assumption | (simpa [Nat.add_assoc] using ‹(!ltInt _ _) = false›)
          go_region
          all_goals go_wp2
          go_roundw
          case rel =>
            refine ⟨2 * root + 1, swp dj (F + root) (F + (2 * root + 1)), by first | rfl | (congr 1; omega), by omega, by rw [size_swp]; exact hsj, ?_, ?_⟩
            · have := (HR2.out.drewN (nq + 1)).swap (i := F + root) (j := F + (2 * root + 1)) (by omega) (by omega)
              rw [← HG.out, ← HG.out] at this
              first | exact this | (simpa [Nat.add_assoc] using this)
            · rw [← HI.out, sift_one_go hc1 HL.out (by rw [← HG.out, ← HG.out]; simpa using hs)]
          case measure => simp [numOf]; omega
    · have hc2z : decide (2 * (root : Int) + 1 + 1 < (hi : Int)) = false := decide_eq_false (by omega)
      have HL : Hid (¬ (2 * root + 2 < hi ∧ ltInt dj[F + (2 * root + 1)]! dj[F + (2 * root + 1) + 1]! = true)) := fun hh => hc2 hh.1
      go_wp2_with fail
      go_big_quiet (first | (go_at_call 104; refine Calls.quiet_of_same (lessU _ _ _)))
      go_wp2_with fail
      revert nq
      intro nq1
      have hcw2 : ∀ t, t < d.size → (wr.drewN nq1).cell? ⟨blk, off + t, none⟩ = some (.int .u32 (G t)) := hcw
      have hfw2 : ∀ t, t < d.size → (wr.drewN nq1).frozen? ⟨blk, off + t, none⟩ = false := hfw
      have HR2 : Hid (Row w blk off dj (wr.drewN nq1)) := HR.out.drewN nq1
      clear hcw hfw HR
      generalize wr.drewN nq1 = wr2 at hcw2 hfw2 HR2 ⊢
      go_big_quiet (first | (go_at_call 104; refine Calls.quiet_of_same (lessU _ _ _)))
      go_wp2_with fail
      · have hs : (!ltInt (G (F + root)) (G (F + (2 * root + 1)))) = true := by first | assumption | (simpa [Nat.add_assoc] using ‹(!ltInt _ _) = true›)
        refine bodyPost_ret (results_none rfl _ _ _) rfl ?_
        refine ⟨rfl, ?_⟩
        rw [← HI.out, sift_one_stop hc1 HL.out (by rw [← HG.out, ← HG.out]; simpa using hs)]
        exact HR2.out.drewN nq
      · have hs : (!ltInt (G (F + root)) (G (F + (2 * root + 1)))) = false := by first | assumption | (simpa [Nat.add_assoc] using ‹(!ltInt _ _) = false›)
        go_region
        all_goals go_wp2
        go_roundw
        case rel =>
          refine ⟨2 * root + 1, swp dj (F + root) (F + (2 * root + 1)), by first | rfl | (congr 1; omega), by omega, by rw [size_swp]; exact hsj, ?_, ?_⟩
          · have := (HR2.out.drewN (nq + 1)).swap (i := F + root) (j := F + (2 * root + 1)) (by omega) (by omega)
            rw [← HG.out, ← HG.out] at this
            first | exact this | (simpa [Nat.add_assoc] using this)
          · rw [← HI.out, sift_one_go hc1 HL.out (by rw [← HG.out, ← HG.out]; simpa using hs)]
        case measure => simp [numOf]; omega

-- THE REST
theorem sift_size (hi F root : Nat) (d : Array Int) : (siftDown ltInt hi F root d).size = d.size := by
  fun_induction siftDown ltInt hi F root d <;> simp_all [size_swp]

set_option maxHeartbeats 4000000 in
theorem heapU (blk off cap a b : Nat) (d : Array Int) (w : World) (hH : Holds encU w blk off d) (hab : a < b) (hb : b ≤ d.size) (hsz : d.size < 50) :
    Calls Tryz.prog 99 #[.slice (some ⟨blk, off, none⟩) d.size cap, .int .i64 a, .int .i64 b] w fun e w' =>
      e = .returned (.tuple #[]) ∧ Row w blk off (Sort.heapSort ltInt d a b) w' := by
  obtain ⟨L, hL, hLb⟩ : ∃ L : Nat, (b : Int) - (a : Int) = L ∧ L = b - a := ⟨b - a, by omega, rfl⟩
  obtain ⟨K, hK, hKb⟩ : ∃ K : Nat, ((L : Int) - 1).tdiv 2 = K ∧ K = (b - a - 1) / 2 := ⟨(b - a - 1) / 2, by rw [Int.tdiv_eq_ediv_of_nonneg (by omega)]; omega, rfl⟩
  have HLB : Hid (L = b - a) := hLb
  have HKB : Hid (K = (b - a - 1) / 2) := hKb
  have hL1 : 1 ≤ L := by omega
  have hL2 : a + L ≤ d.size := by omega
  have hK50 : K < 50 := by omega
  have HHH : Hid (Holds encU w blk off d) := hH
  clear hLb hKb hH
  go_enter Tryz.func99, Tryz.ntmps99
  go_wp2
  go_loopw [9] (fun v wr => ∃ (z : Int) (k : Nat) (dk : Array Int), v = .int .i64 z ∧ z = (k : Int) - 1 ∧ k ≤ 50 ∧ dk.size = d.size ∧ Row w blk off dk wr ∧ heapBuild ltInt L a k dk = heapBuild ltInt L a (K + 1) d) (fun v _ => (numOf v + 1).toNat)
  case atStart => exact ⟨K, K + 1, d, rfl, by omega, by omega, rfl, Row.start HHH.out, rfl⟩
  case round =>
    obtain ⟨z, k, dk, rfl, hz, hk50, hsk, hrow, hI⟩ := hrel
    have HR : Hid (Row w blk off dk wr) := hrow
    have HI : Hid (heapBuild ltInt L a k dk = heapBuild ltInt L a (K + 1) d) := hI
    clear hrow hI
    cases k with
    | succ k =>
      obtain rfl : z = (k : Int) := by omega
      clear hz
      go_wp2_with (go_at_call 117; rw [← hsk]; refine (siftU blk off cap k L a dk _ HR.out.holds (by omega) (by omega) (by omega)).mono ?_; rintro e w1 ⟨rfl, hrow1⟩)
      have hrow2 := HR.out.trans hrow1
      go_roundw
      case rel => exact ⟨(k : Int) - 1, k, _, rfl, rfl, by omega, by rw [sift_size]; exact hsk, hrow2, by rw [← HI.out]; rfl⟩
      case measure => simp [numOf]
    | zero =>
      obtain rfl : z = -1 := by omega
      clear hz
      have hI0 : dk = heapBuild ltInt L a (K + 1) d := HI.out
      have HI0 : Hid (dk = heapBuild ltInt L a (K + 1) d) := hI0
      clear hI0 HI
      go_wp2
      go_loopw [10] (fun v wr => ∃ (z : Int) (k : Nat) (dk' : Array Int), v = .int .i64 z ∧ z = (k : Int) - 1 ∧ k ≤ L ∧ dk'.size = d.size ∧ Row w blk off dk' wr ∧ heapPop ltInt a k dk' = heapPop ltInt a L dk) (fun v _ => (numOf v + 1).toNat)
      case atStart => exact ⟨(L : Int) - 1, L, dk, rfl, rfl, Nat.le_refl _, hsk, HR.out, rfl⟩
      case round =>
        clear HR
        obtain ⟨z, k, dj, rfl, hz, hkL, hsj, hrow, hI⟩ := hrel
        obtain ⟨G, hG⟩ : ∃ G : Nat → Int, ∀ t, G t = dj[t]! := ⟨fun t => dj[t]!, fun _ => rfl⟩
        have hcw : ∀ t, t < d.size → wr.cell? ⟨blk, off + t, none⟩ = some (.int .u32 (G t)) := fun t ht => by rw [hG]; exact (hrow.holds t (by omega)).1
        have hfw : ∀ t, t < d.size → wr.frozen? ⟨blk, off + t, none⟩ = false := fun t ht => (hrow.holds t (by omega)).2
        have HG : Hid (∀ t, G t = dj[t]!) := hG
        have HI : Hid (heapPop ltInt a k dj = heapPop ltInt a L dk) := hI
        have HR : Hid (Row w blk off dj wr) := hrow
        clear hrow hI hG
        cases k with
        | zero =>
          obtain rfl : z = -1 := by omega
          clear hz
          go_wp2
          go_end0
          refine ⟨rfl, ?_⟩
          have e : dj = Sort.heapSort ltInt d a b := by
            unfold Sort.heapSort
            rw [← HLB.out, HLB.out, ← HKB.out, ← HLB.out, ← HI0.out]
            exact HI.out
          rw [← e]
          exact HR.out
        | succ k =>
          obtain rfl : z = (k : Int) := by omega
          clear hz
          have hss : (swp dj a (a + k)).size = d.size := by rw [size_swp]; exact hsj
          rcases Nat.eq_zero_or_pos k with h0 | h0
          · subst h0
            have hsw := (HR.out.drewN 1).swap (i := a) (j := a) (by omega) (by omega)
            have hss0 : (swp dj a a).size = d.size := hss
            clear hss
            rw [← HG.out] at hsw
            have HSW : Hid _ := hsw
            clear hsw
            go_wp2
            go_region
            all_goals go_wp2_with (go_at_call 117; rw [← hss0]; refine (siftU blk off cap 0 0 a (swp dj a a) _ HSW.out.holds (by omega) (by omega) (by omega)).mono ?_; rintro e w1 ⟨rfl, hrow1⟩)
            go_roundw
            case rel => exact ⟨((0 : Nat) : Int) - 1, 0, _, rfl, rfl, by omega, by rw [sift_size]; exact hss0, HSW.out.trans hrow1, by rw [← HI.out]; rfl⟩
            case measure => simp [numOf]
          · have hsw := (HR.out.drewN 1).swap (i := a) (j := a + k) (by omega) (by omega)
            rw [← HG.out, ← HG.out] at hsw
            have HSW : Hid _ := hsw
            clear hsw
            go_wp2
            go_region
            all_goals go_wp2_with (go_at_call 117; rw [← hss]; refine (siftU blk off cap 0 k a (swp dj a (a + k)) _ HSW.out.holds (by omega) (by omega) (by omega)).mono ?_; rintro e w1 ⟨rfl, hrow1⟩)
            go_roundw
            case rel => exact ⟨(k : Int) - 1, k, _, rfl, rfl, by omega, by rw [sift_size]; exact hss, HSW.out.trans hrow1, by rw [← HI.out]; rfl⟩
            case measure => simp [numOf]
set_option maxHeartbeats 4000000 in
/-- A row turned round: what was there is there. -/
theorem reverseU (blk off cap a b : Nat) (d : Array Int) (w : World) (hH : Holds encU w blk off d) (hab : a < b) (hb : b ≤ d.size) (hsz : d.size < 50) :
    Calls Tryz.prog 102 #[.slice (some ⟨blk, off, none⟩) d.size cap, .int .i64 a, .int .i64 b] w fun e w' =>
      e = .returned (.tuple #[]) ∧ ∃ d', Row w blk off d' w' ∧ PermIn a b d d' := by
  obtain ⟨c, hc⟩ : ∃ c : Nat, (b : Int) - 1 = c := ⟨b - 1, by omega⟩
  have hcb : c + 1 = b := by omega
  have HHH : Hid (Holds encU w blk off d) := hH
  clear hH
  go_enter Tryz.func102, Tryz.ntmps102
  go_wp2
  go_loopw [6, 7] (fun v u wr => ∃ (i : Nat) (z : Int) (dk : Array Int), v = .int .i64 i ∧ u = .int .i64 z ∧ a ≤ i ∧ i ≤ b ∧ z < b ∧ -50 ≤ z ∧ dk.size = d.size ∧ Row w blk off dk wr ∧ PermIn a b d dk) (fun v _ _ => b - (numOf v).toNat)
  case atStart => exact ⟨a, c, d, rfl, rfl, Nat.le_refl _, by omega, by omega, by omega, rfl, Row.start HHH.out, permIn_refl _ _ _⟩
  case round =>
    obtain ⟨i, z, dj, rfl, rfl, hai, hib, hzb, hz50, hsj, hrow, hP⟩ := hrel
    have HP : Hid (PermIn a b d dj) := hP
    by_cases hiz : (i : Int) < z
    case neg =>
      have HR : Hid (Row w blk off dj wr) := hrow
      clear hrow hP
      go_wp2
      go_end0
      exact ⟨rfl, dj, HR.out, HP.out⟩
    obtain ⟨j, rfl⟩ : ∃ j : Nat, z = j := ⟨z.toNat, by omega⟩
    obtain ⟨G, hG⟩ : ∃ G : Nat → Int, ∀ t, G t = dj[t]! := ⟨fun t => dj[t]!, fun _ => rfl⟩
    have hcw : ∀ t, t < d.size → wr.cell? ⟨blk, off + t, none⟩ = some (.int .u32 (G t)) := fun t ht => by rw [hG]; exact (hrow.holds t (by omega)).1
    have hfw : ∀ t, t < d.size → wr.frozen? ⟨blk, off + t, none⟩ = false := fun t ht => (hrow.holds t (by omega)).2
    have hij : i < j := by omega
    have hsw := (hrow.drewN 1).swap (i := i) (j := j) (by omega) (by omega)
    rw [← hG, ← hG] at hsw
    have HSW : Hid _ := hsw
    have hP2 : PermIn a b d (swp dj i j) := permIn_trans _ _ _ _ _ hP (swp_permIn dj a b i j hai (by omega) (by omega) (by omega) (by omega))
    have HP2 : Hid (PermIn a b d (swp dj i j)) := hP2
    clear hsw hrow hP hG hP2
    go_wp2
    go_region
    all_goals go_wp2
    go_roundw
    case rel => exact ⟨i + 1, (j : Int) - 1, swp dj i j, by go_num, rfl, by omega, by omega, by omega, by omega, by rw [size_swp]; exact hsj, HSW.out, HP2.out⟩
    case measure => simp [numOf]; omega

end Go.Proofs.YtdbjklngnloibabGreat.sortu
