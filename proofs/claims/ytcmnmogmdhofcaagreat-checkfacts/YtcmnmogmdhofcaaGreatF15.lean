/- Rows of numbers of 32 bits that are sorted in place: where the pivot is (slices.choosePivotOrdered); rows that are sorted already (partialInsertionSortOrdered). -/
import Derived.Deep.CutRange
import Derived.Deep.DeepCutAuto
import Derived.Deep.LoopGhost
import Derived.Deep.DeepFit
import Derived.Test.YtcmnmogmdhofcaaGreatF14
import Derived.Test.YtcmnmogmdhofcaaGreatF06

namespace Go.Proofs.YtcmnmogmdhofcaaGreat.sortu
open Go.RowKit Go.Sort
set_option linter.unusedVariables false
set_option maxRecDepth 100000

structure Cnt (w0 : World) (blk off sb : Nat) (d : Array Int) (s : Nat) (w : World) : Prop where
  holds : Holds encU w blk off d
  cell : w.cell? ⟨sb, 0, none⟩ = some (.int .i64 s)
  fr : w.frozen? ⟨sb, 0, none⟩ = false
  grown : w0.grownBy w (some sb)

theorem Cnt.drewN {w0 w : World} {blk off sb : Nat} {d : Array Int} {s : Nat} (h : Cnt w0 blk off sb d s w) (q : Nat) : Cnt w0 blk off sb d s (w.drewN q) := ⟨h.holds, h.cell, h.fr, ⟨h.grown.os, h.grown.tape, h.grown.output, h.grown.size, h.grown.block⟩⟩
theorem Cnt.set {w0 w : World} {blk off sb : Nat} {d : Array Int} {s : Nat} (h : Cnt w0 blk off sb d s w) (hne : sb ≠ blk) (t : Nat) : Cnt w0 blk off sb d t (w.setCell ⟨sb, 0, none⟩ (.int .i64 t)) := by
  have hc := h.cell
  refine ⟨fun j hj => ?_, by simp [go_sem, hc], by have := h.fr; simpa [go_sem] using this, ⟨h.grown.os, h.grown.tape, h.grown.output, by simpa [World.setCell] using h.grown.size, fun k hk hne2 => ?_⟩⟩
  · obtain ⟨h1, h2⟩ := h.holds j hj
    refine ⟨?_, by simpa [go_sem] using h2⟩
    rw [World.cell?_of_block (w := w)]
    · exact h1
    · exact Below.heap_setCell _ _ _ _ (by intro e; exact hne e.symm)
  · rw [Below.heap_setCell _ _ _ _ (by intro e; exact hne2 (by rw [e]))]
    exact h.grown.block k hk hne2
theorem Cnt.trans {w0 w1 w2 : World} {blk off sb : Nat} {d : Array Int} {s s' : Nat} (h : Cnt w0 blk off sb d s w1) (h' : Cnt w1 blk off sb d s' w2) : Cnt w0 blk off sb d s' w2 := ⟨h'.holds, h'.cell, h'.fr, h.grown.andThen h'.grown (fun j hj => Or.inr hj)⟩

set_option maxHeartbeats 4000000 in
theorem order2U (blk off cap sb a b s : Nat) (d : Array Int) (w : World) (h : Cnt w blk off sb d s w) (hne : sb ≠ blk) (ha : a < d.size) (hb : b < d.size) (hsz : d.size < 50) (hs : s < 50) :
    Calls Tryz.prog 115 #[.slice (some ⟨blk, off, none⟩) d.size cap, .int .i64 a, .int .i64 b, .pointer (some ⟨sb, 0, none⟩)] w fun e w' =>
      ∃ x y s' : Nat, e = .returned (.tuple #[.int .i64 x, .int .i64 y]) ∧ ((x = a ∧ y = b) ∨ (x = b ∧ y = a)) ∧ s' ≤ s + 1 ∧ Cnt w blk off sb d s' w' := by
  obtain ⟨G, hG⟩ : ∃ G : Nat → Int, ∀ t, G t = d[t]! := ⟨fun t => d[t]!, fun _ => rfl⟩
  have hcw : ∀ t, t < d.size → w.cell? ⟨blk, off + t, none⟩ = some (.int .u32 (G t)) := fun t ht => by rw [hG]; exact (h.holds t ht).1
  have hc := h.cell
  have hf := h.fr
  have HC : Hid (Cnt w blk off sb d s w) := h
  have hnb : blk ≠ sb := Ne.symm hne
  clear h hG
  go_enter Tryz.func115, Tryz.ntmps115
  go_wp2
  go_quiet (first | (go_at_call 85; refine Calls.quiet_of_same (lessU _ _ _)))
  go_wp2
  · refine bodyPost_ret (v := .tuple #[.int .i64 (b : Nat), .int .i64 (a : Nat)]) ?_ rfl ⟨b, a, s + 1, rfl, Or.inr ⟨rfl, rfl⟩, Nat.le_refl _, ?_⟩
    · simp [results, Tryz.results115, go_sem]
    · have := (HC.out.drewN nq).set hne (s + 1)
      simpa using this
  · refine bodyPost_ret (v := .tuple #[.int .i64 (a : Nat), .int .i64 (b : Nat)]) ?_ rfl ⟨a, b, s, rfl, Or.inl ⟨rfl, rfl⟩, by omega, HC.out.drewN nq⟩
    simp [results, Tryz.results115, go_sem]

theorem Cnt.here {w0 w : World} {blk off sb : Nat} {d : Array Int} {s : Nat} (h : Cnt w0 blk off sb d s w) : Cnt w blk off sb d s w := ⟨h.holds, h.cell, h.fr, ⟨rfl, rfl, rfl, Nat.le_refl _, fun _ _ _ => rfl⟩⟩

set_option maxHeartbeats 4000000 in
theorem medianU (blk off cap sb a b c s : Nat) (d : Array Int) (w : World) (h : Cnt w blk off sb d s w) (hne : sb ≠ blk) (ha : a < d.size) (hb : b < d.size) (hc : c < d.size) (hsz : d.size < 50) (hs : s < 20) :
    Calls Tryz.prog 104 #[.slice (some ⟨blk, off, none⟩) d.size cap, .int .i64 a, .int .i64 b, .int .i64 c, .pointer (some ⟨sb, 0, none⟩)] w fun e w' =>
      ∃ m s' : Nat, e = .returned (.int .i64 m) ∧ (m = a ∨ m = b ∨ m = c) ∧ s' ≤ s + 3 ∧ Cnt w blk off sb d s' w' := by
  have HC : Hid (Cnt w blk off sb d s w) := h
  clear h
  go_enter Tryz.func104, Tryz.ntmps104
  go_wp2_with fail
  go_at_call 115
  refine (order2U blk off cap sb a b s d _ HC.out hne ha hb hsz (by omega)).mono ?_
  rintro e w1 ⟨x1, y1, s1, rfl, hxy1, hs1, hc1⟩
  have HC1 : Hid (Cnt w blk off sb d s1 w1) := hc1
  have HX1 : Hid _ := hxy1
  have lx1 : x1 < d.size := by omega
  have ly1 : y1 < d.size := by omega
  clear hc1 hxy1
  go_wp2_with fail
  go_at_call 115
  refine (order2U blk off cap sb y1 c s1 d _ HC1.out.here hne ly1 hc hsz (by omega)).mono ?_
  rintro e w2 ⟨x2, y2, s2, rfl, hxy2, hs2, hc2⟩
  have HC2 : Hid (Cnt w blk off sb d s2 w2) := HC1.out.trans hc2
  have HX2 : Hid _ := hxy2
  have lx2 : x2 < d.size := by omega
  clear hc2 hxy2
  go_wp2_with fail
  go_at_call 115
  refine (order2U blk off cap sb x1 x2 s2 d _ HC2.out.here hne lx1 lx2 hsz (by omega)).mono ?_
  rintro e w3 ⟨x3, y3, s3, rfl, hxy3, hs3, hc3⟩
  have HC3 : Hid (Cnt w blk off sb d s3 w3) := HC2.out.trans hc3
  have HX3 : Hid _ := hxy3
  clear hc3 hxy3
  go_wp2_with fail
  go_ret
  have h1 := HX1.out
  have h2 := HX2.out
  have h3 := HX3.out
  exact ⟨y3, s3, rfl, by omega, by omega, HC3.out⟩

set_option maxHeartbeats 4000000 in
theorem pivotU (blk off cap a b : Nat) (d : Array Int) (w : World) (hH : Holds encU w blk off d) (hlt : blk < w.heap.size) (hab : a + 12 < b) (hb : b ≤ d.size) (hsz : d.size < 50) :
    Calls Tryz.prog 82 #[.slice (some ⟨blk, off, none⟩) d.size cap, .int .i64 a, .int .i64 b] w fun e w' =>
      ∃ p h : Nat, e = .returned (.tuple #[.int .i64 p, .int .i64 h]) ∧ h < 3 ∧ a + 3 ≤ p ∧ p + 3 < b ∧ Row w blk off d w' := by
  obtain ⟨L, hL, hLb⟩ : ∃ L : Nat, (b : Int) - (a : Int) = L ∧ L = b - a := ⟨b - a, by omega, rfl⟩
  obtain ⟨q, hq, hqb⟩ : ∃ q : Nat, (L : Int).tdiv 4 = q ∧ q = L / 4 := ⟨L / 4, by rw [Int.tdiv_eq_ediv_of_nonneg (by omega)]; omega, rfl⟩
  have HQB : Hid (3 ≤ q ∧ 4 * q ≤ L ∧ L = b - a) := ⟨by omega, by omega, hLb⟩
  have hL8 : 8 ≤ L := by omega
  have hL50 : L < 50 := by omega
  have hq12 : q ≤ 12 := by omega
  have h1 : a + q < d.size := by omega
  have h2 : a + q * 2 < d.size := by omega
  have h3 : a + q * 3 < d.size := by omega
  have HHH : Hid (Holds encU w blk off d) := hH
  have hne : w.heap.size ≠ blk := by omega
  have HC0 : Hid (Cnt (w.alloc (.cells #[.int .i64 0] 3)) blk off w.heap.size d 0 (w.alloc (.cells #[.int .i64 0] 3))) := by
    refine ⟨fun j hj => ?_, by simp [go_sem], by simp [go_sem], ⟨rfl, rfl, rfl, Nat.le_refl _, fun _ _ _ => rfl⟩⟩
    have hb := (Below.refl w.heap.size w).alloc (Nat.le_refl _) (.cells #[.int .i64 0] 3)
    exact ⟨by rw [hb.cell (p := ⟨blk, off + j, none⟩) hlt]; exact (hH j hj).1, by rw [World.frozen?_of_block (w := w) (hb.block blk hlt)]; exact (hH j hj).2⟩
  clear hH hLb hqb
  go_enter Tryz.func82, Tryz.ntmps82
  go_wp2_with fail
  go_at_call 104
  refine (medianU blk off cap w.heap.size (a + q) (a + q * 2) (a + q * 3) 0 d _ HC0.out hne h1 h2 h3 hsz (by omega)).mono ?_
  rintro e w1 ⟨m, s1, rfl, hm, hs1, hc1⟩
  have hcl := hc1.cell
  have HM : Hid (m = a + q ∨ m = a + q * 2 ∨ m = a + q * 3) := hm
  have HR : Hid (Row w blk off d w1) := ⟨hc1.holds, ⟨hc1.grown.os, hc1.grown.tape, hc1.grown.output, Nat.le_trans (by simp) hc1.grown.size, fun k hk hne2 => by
    rw [hc1.grown.block k (by simp; omega) (by simp; omega)]
    exact ((Below.refl w.heap.size w).alloc (Nat.le_refl _) _).block k hk⟩⟩
  have hs3 : (s1 : Int) ≤ 3 := by omega
  clear hc1 hm
  go_wp2_with fail
  all_goals
    have hm := HM.out
    have hqq := HQB.out
  · refine bodyPost_ret (v := .tuple #[.int .i64 (m : Nat), .int .i64 ((1 : Nat) : Int)]) ?_ rfl ⟨m, 1, rfl, by omega, by omega, by omega, HR.out⟩
    simp [results, Tryz.results82, go_sem]
  · refine bodyPost_ret (v := .tuple #[.int .i64 (m : Nat), .int .i64 ((0 : Nat) : Int)]) ?_ rfl ⟨m, 0, rfl, by omega, by omega, by omega, HR.out⟩
    simp [results, Tryz.results82, go_sem]

end Go.Proofs.YtcmnmogmdhofcaaGreat.sortu

/- Rows of numbers of 32 bits that are sorted in place: rows that are sorted already (slices.partialInsertionSortOrdered); patterns that are broken (breakPatternsOrdered). -/
namespace Go.Proofs.YtcmnmogmdhofcaaGreat.sortu
open Go.RowKit Go.Sort
set_option linter.unusedVariables false
set_option maxRecDepth 100000

set_option maxHeartbeats 4000000 in
theorem partialU (blk off cap a b : Nat) (d : Array Int) (w : World) (hH : Holds encU w blk off d) (hab : a < b) (hb : b ≤ d.size) (hsz : d.size < 50) :
    Calls Tryz.prog 84 #[.slice (some ⟨blk, off, none⟩) d.size cap, .int .i64 a, .int .i64 b] w fun e w' =>
      ∃ r, e = .returned (.bool r) ∧ (r = true → SortedIn ltInt a b d) ∧ Row w blk off d w' := by
  obtain ⟨G, hG⟩ : ∃ G : Nat → Int, ∀ t, G t = d[t]! := ⟨fun t => d[t]!, fun _ => rfl⟩
  have HG : Hid (∀ t, G t = d[t]!) := hG
  have HHH : Hid (Row w blk off d w) := Row.start hH
  have hlen : (b : Int) - (a : Int) < 50 := by omega
  clear hH hG
  go_enter Tryz.func84, Tryz.ntmps84
  go_wp2
  go_loopg [7, 8] 1 (fun g v u wr => v = .int .i64 ((a : Int) + 1) ∧ u = .int .i64 0 ∧ Row w blk off d wr)
  case atStart => exact ⟨rfl, rfl, HHH.out⟩
  case round =>
    obtain ⟨hv, hu, hrow0⟩ := hrel
    subst hv hu
    have HR0 : Hid (Row w blk off d wr) := hrow0
    clear hrow0
    go_wp2
    go_loopg [7] (b + 1 - a) (fun g v wr2 => ∃ i : Nat, v = .int .i64 i ∧ a < i ∧ i ≤ b ∧ g = b + 2 - i ∧ Row w blk off d wr2 ∧ SortedIn ltInt a i d)
    case atStart => exact ⟨a + 1, by go_num, by omega, by omega, by omega, HR0.out, fun i j h1 h2 h3 => by omega⟩
    case round =>
      clear HR0
      obtain ⟨i, rfl, hi0, hi1, hgk, hrow, hS⟩ := hrel
      have HGKN : Hid _ := hgk
      have HR : Hid (Row w blk off d wr) := hrow
      have HS : Hid (SortedIn ltInt a i d) := hS
      obtain ⟨t, ht⟩ : ∃ t, t = (decide (i < b) && !ltInt (G i) (G (i - 1))) := ⟨_, rfl⟩
      have HT : Hid (t = (decide (i < b) && !ltInt (G i) (G (i - 1)))) := ht
      have hcw : ∀ t, t < d.size → wr.cell? ⟨blk, off + t, none⟩ = some (.int .u32 (G t)) := fun t ht => by rw [HG.out]; exact (hrow.holds t ht).1
      clear hrow hS ht hgk
      go_upto_region 5 with fail
      go_cut [32] (fun s wq => s = .bool t ∧ Row w blk off d wq)
      case first =>
        by_cases hcc : i < b
        · have hcz : ((i : Nat) : Int) < ((b : Nat) : Int) := by omega
          go_big_quiet (first | (go_at_call 85; refine Calls.quiet_of_same (lessU _ _ _)))
          go_wp2_with fail
          go_meet
          case rel => exact ⟨by rw [HT.out]; simp [hcc], HR.out.drewN nq⟩
        · have hcz : decide (((i : Nat) : Int) < ((b : Nat) : Int)) = false := decide_eq_false (by omega)
          go_big_quiet (first | (go_at_call 85; refine Calls.quiet_of_same (lessU _ _ _)))
          go_wp2_with fail
          go_meet
          case rel => exact ⟨by rw [HT.out]; simp [hcc], HR.out.drewN nq⟩
      case rest =>
        obtain ⟨hst, hrow⟩ := hcut
        subst hst
        clear hcw HR
        have HR : Hid (Row w blk off d wc) := hrow
        clear hrow
        cases t with
        | true =>
          have htt : i < b ∧ (!ltInt d[i]! d[i - 1]!) = true := by have := HT.out; simp only [HG.out] at this; exact and_true_of this
          have hcc := htt.1
          have hS2 : SortedIn ltInt a (i + 1) d := SortedIn.snoc swo_ltInt HS.out (by have := htt.2; simpa using this)
          have HS2 : Hid (SortedIn ltInt a (i + 1) d) := hS2
          clear htt hS2
          go_wp2
          have hgk := HGKN.out
          go_roundg (gk - 1)
          case measure => omega
          case rel => exact ⟨i + 1, by go_num, by omega, by omega, by omega, HR.out, HS2.out⟩
        | false =>
          by_cases hib : i = b
          · subst hib
            go_wp2
            go_ret
            exact ⟨true, rfl, fun _ => HS.out, HR.out⟩
          · have hib2 : ¬ (i : Int) = (b : Int) := by omega
            go_wp2
            go_ret
            exact ⟨false, rfl, fun h => (by cases h), HR.out⟩

end Go.Proofs.YtcmnmogmdhofcaaGreat.sortu

/- How many bits a number has (math/bits.Len). -/
namespace Go.Proofs.YtcmnmogmdhofcaaGreat.sortu
open Go.RowKit Go.Sort
set_option linter.unusedVariables false
set_option maxRecDepth 100000

set_option maxHeartbeats 8000000 in
theorem len64U (n : Nat) (hn : n < 50) (w : World) : Calls Tryz.prog 89 #[.int .u64 n] w fun e w' => e = .returned (.int .i64 (bitsLen n)) ∧ w' = w := by
  have hc : n = 0 ∨ n = 1 ∨ n = 2 ∨ n = 3 ∨ n = 4 ∨ n = 5 ∨ n = 6 ∨ n = 7 ∨ n = 8 ∨ n = 9 ∨ n = 10 ∨ n = 11 ∨ n = 12 ∨ n = 13 ∨ n = 14 ∨ n = 15 ∨ n = 16 ∨ n = 17 ∨ n = 18 ∨ n = 19 ∨ n = 20 ∨ n = 21 ∨ n = 22 ∨ n = 23 ∨ n = 24 ∨ n = 25 ∨ n = 26 ∨ n = 27 ∨ n = 28 ∨ n = 29 ∨ n = 30 ∨ n = 31 ∨ n = 32 ∨ n = 33 ∨ n = 34 ∨ n = 35 ∨ n = 36 ∨ n = 37 ∨ n = 38 ∨ n = 39 ∨ n = 40 ∨ n = 41 ∨ n = 42 ∨ n = 43 ∨ n = 44 ∨ n = 45 ∨ n = 46 ∨ n = 47 ∨ n = 48 ∨ n = 49 := by omega
  rcases hc with rfl | rfl | rfl | rfl | rfl | rfl | rfl | rfl | rfl | rfl | rfl | rfl | rfl | rfl | rfl | rfl | rfl | rfl | rfl | rfl | rfl | rfl | rfl | rfl | rfl | rfl | rfl | rfl | rfl | rfl | rfl | rfl | rfl | rfl | rfl | rfl | rfl | rfl | rfl | rfl | rfl | rfl | rfl | rfl | rfl | rfl | rfl | rfl | rfl | rfl
  all_goals
    go_enter Tryz.func89, Tryz.ntmps89
    go_wp2
    go_ret
    exact ⟨by kernel_rfl, rfl⟩
theorem lenU (n : Nat) (hn : n < 50) (w : World) : Calls Tryz.prog 66 #[.int .u64 n] w fun e w' => e = .returned (.int .i64 (bitsLen n)) ∧ w' = w := by
  go_enter Tryz.func66, Tryz.ntmps66
  go_wp2_with (go_at_call 89; refine (len64U n hn _).mono ?_; rintro e w' ⟨rfl, hw'⟩; obtain rfl := hw'.symm)
  go_ret
  exact ⟨rfl, rfl⟩

end Go.Proofs.YtcmnmogmdhofcaaGreat.sortu

/- Rows of numbers of 32 bits that are sorted in place: patterns that are broken (slices.breakPatternsOrdered). -/
namespace Go.Proofs.YtcmnmogmdhofcaaGreat.sortu
open Go.RowKit Go.Sort Go.Proofs.YtcmnmogmdhofcaaGreat.form
set_option linter.unusedVariables false
set_option maxRecDepth 100000

set_option maxHeartbeats 4000000 in
theorem nextPowU (n : Nat) (h8 : 8 ≤ n) (hn : n < 50) (w : World) : Calls Tryz.prog 101 #[.int .i64 n] w fun e w' => (∃ M : Nat, e = .returned (.int .u64 M) ∧ n < M ∧ M ≤ 2 * n) ∧ w' = w := by
  have hk : bitsLen n ≤ 6 := (bitsLen_le_iff n 6).2 (by omega)
  have h1 := lt_two_pow_bitsLen n
  have h2 := two_pow_bitsLen_le (n := n) (by omega)
  obtain ⟨k, hkk⟩ : ∃ k, k = bitsLen n := ⟨_, rfl⟩
  rw [← hkk] at hk h1 h2
  have HK : Hid (k = bitsLen n) := hkk
  have hs : IntKind.u64.wrap (2 ^ k) = ((2 ^ k : Nat) : Int) := by
    have e : ((2 ^ k : Nat) : Int) = 2 ^ k := by push_cast; rfl
    rw [← e]
    exact wrapU (by omega) (by omega)
  have h64 : (k : Int) ≤ 64 := by omega
  have h0 : (0 : Int) ≤ (k : Int) := by omega
  have H1 : Hid (n < 2 ^ k ∧ 2 ^ k ≤ 2 * n) := ⟨h1, h2⟩
  have hu : IntKind.u64.wrap (n : Int) = n := wrapU (by omega) (by omega)
  clear hkk h1 h2
  go_enter Tryz.func101, Tryz.ntmps101
  go_wp2_with (go_at_call 66; refine (lenU n hn _).mono ?_; rw [← HK.out]; rintro e w' ⟨rfl, hw'⟩; obtain rfl := hw'.symm)
  go_ret
  exact ⟨⟨2 ^ k, by simp, H1.out.1, H1.out.2⟩, rfl⟩

structure Rnd (w0 : World) (rb : Nat) (X : Bits) (w : World) : Prop where
  cell : w.cell? ⟨rb, 0, none⟩ = some (.int .u64 (bn X))
  fr : w.frozen? ⟨rb, 0, none⟩ = false
  grown : w0.grownBy w (some rb)
theorem Rnd.put {w0 w : World} {rb : Nat} {X : Bits} (h : Rnd w0 rb X w) (Y : Bits) (q : Nat) : Rnd w0 rb Y ((w.drewN q).setCell ⟨rb, 0, none⟩ (.int .u64 (bn Y))) := by
  have hc := h.cell
  have hc2 : (w.drewN q).cell? ⟨rb, 0, none⟩ = some (.int .u64 (bn X)) := hc
  refine ⟨by simp [go_sem, hc2], by have := h.fr; simpa [go_sem] using this, ⟨h.grown.os, h.grown.tape, h.grown.output, by simpa [World.setCell] using h.grown.size, fun k hk hne2 => ?_⟩⟩
  rw [Below.heap_setCell _ _ _ _ (by intro e; exact hne2 (by rw [e]))]
  exact h.grown.block k hk hne2

set_option maxHeartbeats 4000000 in
theorem nextXU (rb : Nat) (X : Bits) (w : World) (hR : Rnd w rb X w) : Calls Tryz.prog 102 #[.pointer (some ⟨rb, 0, none⟩)] w fun e w' => ∃ Y, e = .returned (.int .u64 (bn Y)) ∧ Rnd w rb Y w' := by
  have x1 : IntKind.u64.wrap (bn X * 8192) = bn (X <<< 13) := shlk_is X 13
  have x2 := xor_is X (X <<< 13)
  obtain ⟨X1, hX1⟩ : ∃ X1, X1 = X ^^^ X <<< 13 := ⟨_, rfl⟩
  rw [← hX1] at x2
  have x3 : bn X1 / (128 : Int) = bn (X1 >>> 7) := by have := shrk_is X1 7; simpa using this
  have x4 := xor_is X1 (X1 >>> 7)
  obtain ⟨X2, hX2⟩ : ∃ X2, X2 = X1 ^^^ X1 >>> 7 := ⟨_, rfl⟩
  rw [← hX2, ← x3] at x4
  clear x3
  have x5 : IntKind.u64.wrap (bn X2 * 131072) = bn (X2 <<< 17) := shlk_is X2 17
  have x6 := xor_is X2 (X2 <<< 17)
  obtain ⟨X3, hX3⟩ : ∃ X3, X3 = X2 ^^^ X2 <<< 17 := ⟨_, rfl⟩
  rw [← hX3] at x6
  clear hX1 hX2 hX3
  have hc := hR.cell
  have hf := hR.fr
  have HR : Hid (Rnd w rb X w) := hR
  clear hR
  go_enter Tryz.func102, Tryz.ntmps102
  go_wp2
  go_region
  all_goals go_wp2
  obtain ⟨wa, hwa⟩ : ∃ wa, wa = (w.setCell ⟨rb, 0, none⟩ (.int .u64 (bn X1))).drew := ⟨_, rfl⟩
  rw [← hwa]
  have h1 : Rnd w rb X1 wa := hwa ▸ HR.out.put X1 1
  clear HR hc hf hwa
  have hc := h1.cell
  have hf := h1.fr
  have H1 : Hid (Rnd w rb X1 wa) := h1
  clear h1
  go_region
  all_goals go_wp2
  obtain ⟨wb, hwb⟩ : ∃ wb, wb = (wa.setCell ⟨rb, 0, none⟩ (.int .u64 (bn X2))).drew := ⟨_, rfl⟩
  rw [← hwb]
  have h2 : Rnd w rb X2 wb := hwb ▸ H1.out.put X2 1
  clear H1 hc hf hwb
  have hc := h2.cell
  have hf := h2.fr
  have H2 : Hid (Rnd w rb X2 wb) := h2
  clear h2
  go_region
  all_goals go_wp2
  go_ret
  exact ⟨X3, rfl, H2.out.put X3 1⟩

theorem far_cell {w : World} {sb blk x y q : Nat} {u v : Value} {z : Value} (hne : sb ≠ blk) (h : w.cell? ⟨sb, 0, none⟩ = some z) : (((w.drewN q).setCell ⟨blk, x, none⟩ u).setCell ⟨blk, y, none⟩ v).cell? ⟨sb, 0, none⟩ = some z := by
  rw [World.cell?_of_block (w := (w.drewN q).setCell ⟨blk, x, none⟩ u) (Below.heap_setCell _ _ _ _ hne), World.cell?_of_block (w := w.drewN q) (Below.heap_setCell _ _ _ _ hne)]
  exact h
theorem far_fr {w : World} {sb blk x y q : Nat} {u v : Value} (h : w.frozen? ⟨sb, 0, none⟩ = false) : (((w.drewN q).setCell ⟨blk, x, none⟩ u).setCell ⟨blk, y, none⟩ v).frozen? ⟨sb, 0, none⟩ = false := by
  simpa [go_sem] using h

set_option maxHeartbeats 8000000 in
theorem breakU (blk off cap a b : Nat) (d : Array Int) (w : World) (hH : Holds encU w blk off d) (hlt : blk < w.heap.size) (hab : a + 12 < b) (hb : b ≤ d.size) (hsz : d.size < 50) :
    Calls Tryz.prog 81 #[.slice (some ⟨blk, off, none⟩) d.size cap, .int .i64 a, .int .i64 b] w fun e w' =>
      e = .returned (.tuple #[]) ∧ ∃ d', Row w blk off d' w' ∧ PermIn a b d d' := by
  obtain ⟨L, hL, hLb⟩ : ∃ L : Nat, (b : Int) - (a : Int) = L ∧ L = b - a := ⟨b - a, by omega, rfl⟩
  obtain ⟨q, hq, hqb⟩ : ∃ q : Nat, (L : Int).tdiv 4 = q ∧ q = L / 4 := ⟨L / 4, by rw [Int.tdiv_eq_ediv_of_nonneg (by omega)]; omega, rfl⟩
  obtain ⟨i0, hi0⟩ : ∃ i0 : Nat, i0 = a + q * 2 - 1 := ⟨_, rfl⟩
  have hi0z : (a : Int) + (q : Int) * 2 - 1 = i0 := by omega
  have hi2z : (a : Int) + (q : Int) * 2 + 1 = ((i0 + 2 : Nat) : Int) := by omega
  have HQB : Hid (3 ≤ q ∧ 4 * q ≤ L ∧ L = b - a ∧ i0 = a + q * 2 - 1) := ⟨by omega, by omega, hLb, hi0⟩
  have hL8 : 8 ≤ L := by omega
  have hL50 : L < 50 := by omega
  have hi0b : i0 + 2 < b := by omega
  have hi0a : a ≤ i0 := by omega
  have hu : IntKind.u64.wrap (L : Int) = L := wrapU (by omega) (by omega)
  have HHH : Hid (Holds encU w blk off d) := hH
  have hLbn : (L : Int) = bn (BitVec.ofNat 64 L) := by unfold bn; rw [BitVec.toNat_ofNat, Nat.mod_eq_of_lt (by omega)]
  have HLB : Hid ((L : Int) = bn (BitVec.ofNat 64 L)) := hLbn
  clear hH hLb hqb hi0 hLbn
  have hne : w.heap.size ≠ blk := by omega
  go_enter Tryz.func81, Tryz.ntmps81
  go_wp2_with (go_at_call 101; refine (nextPowU L hL8 hL50 _).mono ?_; rintro e w1 ⟨⟨M, rfl, hM1, hM2⟩, hw1⟩; obtain rfl := hw1.symm)
  have HM : Hid (L < M ∧ M ≤ 2 * L) := ⟨hM1, hM2⟩
  have hM100 : (M : Int) ≤ 100 := by omega
  have hM0 : (0 : Int) < (M : Int) := by omega
  obtain ⟨Z, hZ⟩ : ∃ Z : Bits, (M : Int) - 1 = bn Z := ⟨BitVec.ofNat 64 (M - 1), by unfold bn; rw [BitVec.toNat_ofNat, Nat.mod_eq_of_lt (by omega)]; omega⟩
  have HZ : Hid ((M : Int) - 1 = bn Z) := hZ
  have HRN : Hid (Rnd (w.alloc (.cells #[.int .u64 L] 161)) w.heap.size (BitVec.ofNat 64 L) (w.alloc (.cells #[.int .u64 L] 161))) := ⟨by simp [go_sem]; exact HLB.out, by simp [go_sem], ⟨rfl, rfl, rfl, Nat.le_refl _, fun _ _ _ => rfl⟩⟩
  have HRW : Hid (Row w blk off d (w.alloc (.cells #[.int .u64 L] 161))) := by
    have hb := (Below.refl w.heap.size w).alloc (Nat.le_refl _) (.cells #[.int .u64 L] 161)
    refine ⟨fun j hj => ⟨by rw [hb.cell (p := ⟨blk, off + j, none⟩) hlt]; exact (HHH.out j hj).1, by rw [World.frozen?_of_block (w := w) (hb.block blk hlt)]; exact (HHH.out j hj).2⟩, ⟨hb.os, hb.tape, hb.output, hb.size, fun k hk _ => hb.block k hk⟩⟩
  clear hM1 hM2
  go_loopw [9] (fun v wr => ∃ (i : Nat) (dk : Array Int) (X : Bits), v = .int .i64 i ∧ i0 ≤ i ∧ i ≤ i0 + 3 ∧ dk.size = d.size ∧ Row w blk off dk wr ∧ PermIn a b d dk ∧ wr.cell? ⟨w.heap.size, 0, none⟩ = some (.int .u64 (bn X)) ∧ wr.frozen? ⟨w.heap.size, 0, none⟩ = false) (fun v _ => i0 + 3 - (numOf v).toNat)
  case atStart => exact ⟨i0, d, BitVec.ofNat 64 L, rfl, Nat.le_refl _, by omega, rfl, HRW.out, permIn_refl _ _ _, HRN.out.cell, HRN.out.fr⟩
  case round =>
    clear HRN HRW
    obtain ⟨i, dj, X, rfl, hi1, hi2, hsj, hrow, hP, hxc, hxf⟩ := hrel
    have HR : Hid (Row w blk off dj wr) := hrow
    have HP : Hid (PermIn a b d dj) := hP
    have HX : Hid (Rnd wr w.heap.size X wr) := ⟨hxc, hxf, ⟨rfl, rfl, rfl, Nat.le_refl _, fun _ _ _ => rfl⟩⟩
    clear hrow hP hxc hxf
    by_cases hend : i ≤ i0 + 2
    case neg =>
      have hez : ¬ (i : Int) ≤ ((i0 + 2 : Nat) : Int) := by omega
      go_wp2
      go_end0
      exact ⟨rfl, dj, HR.out, HP.out⟩
    have hez : (i : Int) ≤ ((i0 + 2 : Nat) : Int) := by omega
    go_wp2_with fail
    go_at_call 102
    refine (nextXU w.heap.size X _ HX.out).mono ?_
    rintro e w2 ⟨Y, rfl, hx2⟩
    have hyz := and_is Y Z
    have hlow := and_low Y Z
    have hbd := bits_bd (Y &&& Z)
    have hzz := HZ.out
    have hmm := HM.out
    obtain ⟨o, ho⟩ : ∃ o : Nat, bn (Y &&& Z) = (o : Int) := ⟨(bn (Y &&& Z)).toNat, by omega⟩
    have hoM : o < M := by omega
    have hyo : Go.bits .and .u64 (bn Y) (bn Z) = (o : Int) := hyz.trans ho
    have hr2 : Row w blk off dj w2 := ⟨fun j hj => ⟨by rw [World.cell?_of_block (w := wr) (hx2.grown.block blk (by have := HR.out.grown.size; omega) (by simp; omega))]; exact (HR.out.holds j hj).1, by rw [World.frozen?_of_block (w := wr) (hx2.grown.block blk (by have := HR.out.grown.size; omega) (by simp; omega))]; exact (HR.out.holds j hj).2⟩,
      HR.out.grown.andThen hx2.grown (fun j hj => Or.inl (by cases hj; exact Nat.le_refl _))⟩
    have HR2 : Hid (Row w blk off dj w2) := hr2
    have HX2 : Hid (Rnd wr w.heap.size Y w2) := hx2
    have hoo : ∃ o2 : Nat, o2 < L ∧ (o < L ∧ o2 = o ∨ L ≤ o ∧ o2 = o - L) := by
      by_cases h : o < L
      · exact ⟨o, h, Or.inl ⟨h, rfl⟩⟩
      · exact ⟨o - L, by omega, Or.inr ⟨by omega, rfl⟩⟩
    obtain ⟨o2, ho2, hoc⟩ := hoo
    have HO2 : Hid (o < L ∧ o2 = o ∨ L ≤ o ∧ o2 = o - L) := hoc
    have ha2 : a + o2 < d.size := by have := HQB.out; omega
    have hid : i < d.size := by omega
    have hib : i < b := by omega
    have HAB : Hid (a + o2 < b) := by have := HQB.out; show a + o2 < b; omega
    have hxc := hx2.cell
    obtain ⟨G, hG⟩ : ∃ G : Nat → Int, ∀ t, G t = dj[t]! := ⟨fun t => dj[t]!, fun _ => rfl⟩
    have hcw : ∀ t, t < d.size → w2.cell? ⟨blk, off + t, none⟩ = some (.int .u32 (G t)) := fun t ht => by rw [hG]; exact (hr2.holds t (by omega)).1
    have hfw : ∀ t, t < d.size → w2.frozen? ⟨blk, off + t, none⟩ = false := fun t ht => (hr2.holds t (by omega)).2
    have HG : Hid (∀ t, G t = dj[t]!) := hG
    clear hyz hlow hbd hzz hmm ho hr2 hx2 hoc hG
    rcases HO2.out with ⟨hoL, ho3⟩ | ⟨hoL, ho3⟩
    · have hoz : ¬ (L : Int) ≤ (o : Int) := by omega
      subst ho3
      rcases Nat.lt_trichotomy i (a + o2) with hcmp | hcmp | hcmp
      · have hsw := (HR2.out.drewN 1).swap (i := i) (j := a + o2) (by omega) (by omega)
        rw [← HG.out, ← HG.out] at hsw
        have HSW : Hid _ := hsw
        have hP2 : PermIn a b d (swp dj i (a + o2)) := permIn_trans _ _ _ _ _ HP.out (swp_permIn dj a b i (a + o2) (by omega) hib (by omega) HAB.out (by omega))
        have HP2 : Hid (PermIn a b d (swp dj i (a + o2))) := hP2
        clear hsw hP2
        go_wp2
        go_region
        all_goals go_wp2
        go_roundw
        case rel => exact ⟨i + 1, swp dj i (a + o2), Y, by go_num, by omega, by omega, by rw [size_swp]; exact hsj, HSW.out, HP2.out, far_cell hne HX2.out.cell, far_fr HX2.out.fr⟩
        case measure => simp [numOf]; omega
      · have hsw := (HR2.out.drewN 1).swap (i := i) (j := i) (by omega) (by omega)
        rw [← HG.out] at hsw
        have HSW : Hid _ := hsw
        have hP2 : PermIn a b d (swp dj i i) := permIn_trans _ _ _ _ _ HP.out (swp_permIn dj a b i i (by omega) hib (by omega) hib (by omega))
        have HP2 : Hid (PermIn a b d (swp dj i i)) := hP2
        clear hsw hP2
        have hcz : (a : Int) + (o2 : Int) = (i : Int) := by omega
        have HCM : Hid (i = a + o2) := hcmp
        clear hcmp
        go_wp2
        go_region
        all_goals go_wp2
        go_roundw
        case rel => exact ⟨i + 1, swp dj i i, Y, by go_num, by omega, by omega, by rw [size_swp]; exact hsj, HSW.out, HP2.out, far_cell hne HX2.out.cell, far_fr HX2.out.fr⟩
        case measure => simp [numOf]; omega
      · have hsw := (HR2.out.drewN 1).swap (i := i) (j := a + o2) (by omega) (by omega)
        rw [← HG.out, ← HG.out] at hsw
        have HSW : Hid _ := hsw
        have hP2 : PermIn a b d (swp dj i (a + o2)) := permIn_trans _ _ _ _ _ HP.out (swp_permIn dj a b i (a + o2) (by omega) hib (by omega) HAB.out (by omega))
        have HP2 : Hid (PermIn a b d (swp dj i (a + o2))) := hP2
        clear hsw hP2
        go_wp2
        go_region
        all_goals go_wp2
        go_roundw
        case rel => exact ⟨i + 1, swp dj i (a + o2), Y, by go_num, by omega, by omega, by rw [size_swp]; exact hsj, HSW.out, HP2.out, far_cell hne HX2.out.cell, far_fr HX2.out.fr⟩
        case measure => simp [numOf]; omega
    · have hoz : (L : Int) ≤ (o : Int) := by omega
      have hol : (o : Int) - (L : Int) = ((o2 : Nat) : Int) := by omega
      have HO3 : Hid (o2 = o - L) := ho3
      clear ho3
      rcases Nat.lt_trichotomy i (a + o2) with hcmp | hcmp | hcmp
      · have hsw := (HR2.out.drewN 1).swap (i := i) (j := a + o2) (by omega) (by omega)
        rw [← HG.out, ← HG.out] at hsw
        have HSW : Hid _ := hsw
        have hP2 : PermIn a b d (swp dj i (a + o2)) := permIn_trans _ _ _ _ _ HP.out (swp_permIn dj a b i (a + o2) (by omega) hib (by omega) HAB.out (by omega))
        have HP2 : Hid (PermIn a b d (swp dj i (a + o2))) := hP2
        clear hsw hP2
        go_wp2
        go_region
        all_goals go_wp2
        go_roundw
        case rel => exact ⟨i + 1, swp dj i (a + o2), Y, by go_num, by omega, by omega, by rw [size_swp]; exact hsj, HSW.out, HP2.out, far_cell hne HX2.out.cell, far_fr HX2.out.fr⟩
        case measure => simp [numOf]; omega
      · have hsw := (HR2.out.drewN 1).swap (i := i) (j := i) (by omega) (by omega)
        rw [← HG.out] at hsw
        have HSW : Hid _ := hsw
        have hP2 : PermIn a b d (swp dj i i) := permIn_trans _ _ _ _ _ HP.out (swp_permIn dj a b i i (by omega) hib (by omega) hib (by omega))
        have HP2 : Hid (PermIn a b d (swp dj i i)) := hP2
        clear hsw hP2
        have hcz : (a : Int) + (o2 : Int) = (i : Int) := by omega
        have HCM : Hid (i = a + o2) := hcmp
        clear hcmp
        go_wp2
        go_region
        all_goals go_wp2
        go_roundw
        case rel => exact ⟨i + 1, swp dj i i, Y, by go_num, by omega, by omega, by rw [size_swp]; exact hsj, HSW.out, HP2.out, far_cell hne HX2.out.cell, far_fr HX2.out.fr⟩
        case measure => simp [numOf]; omega
      · have hsw := (HR2.out.drewN 1).swap (i := i) (j := a + o2) (by omega) (by omega)
        rw [← HG.out, ← HG.out] at hsw
        have HSW : Hid _ := hsw
        have hP2 : PermIn a b d (swp dj i (a + o2)) := permIn_trans _ _ _ _ _ HP.out (swp_permIn dj a b i (a + o2) (by omega) hib (by omega) HAB.out (by omega))
        have HP2 : Hid (PermIn a b d (swp dj i (a + o2))) := hP2
        clear hsw hP2
        go_wp2
        go_region
        all_goals go_wp2
        go_roundw
        case rel => exact ⟨i + 1, swp dj i (a + o2), Y, by go_num, by omega, by omega, by rw [size_swp]; exact hsj, HSW.out, HP2.out, far_cell hne HX2.out.cell, far_fr HX2.out.fr⟩
        case measure => simp [numOf]; omega
end Go.Proofs.YtcmnmogmdhofcaaGreat.sortu

/- Rows of numbers of 32 bits that are sorted in place: slices.pdqsortOrdered, slices.Sort at []uint32. -/
namespace Go.Proofs.YtcmnmogmdhofcaaGreat.sortu
open Go.RowKit Go.Sort
set_option linter.unusedVariables false
set_option maxRecDepth 100000

def PdqOk (n : Nat) : Prop := ∀ (blk off cap a b : Nat) (lim : Int) (d : Array Int) (len : Nat) (w : World), b - a ≤ n → d.size = len → Holds encU w blk off d → blk < w.heap.size → a ≤ b → b ≤ d.size → d.size < 50 → 0 ≤ lim → lim ≤ 64 → Go.Sort.Below ltInt a b d →
  Calls Tryz.prog 65 #[.slice (some ⟨blk, off, none⟩) len cap, .int .i64 a, .int .i64 b, .int .i64 lim] w fun e w' => e = .returned (.tuple #[]) ∧ ∃ d', Row w blk off d' w' ∧ PermIn a b d d' ∧ SortedIn ltInt a b d'

structure PR (w : World) (blk off a b : Nat) (d : Array Int) (a' b' : Nat) (dk : Array Int) (wr : World) : Prop where
  row : Row w blk off dk wr
  sz : dk.size = d.size
  ab : a' ≤ b'
  bd : b' ≤ d.size
  bel : Go.Sort.Below ltInt a' b' dk
  fin : ∀ R, PermIn a' b' dk R → SortedIn ltInt a' b' R → PermIn a b d R ∧ SortedIn ltInt a b R

theorem PR.perm {w : World} {blk off a b : Nat} {d : Array Int} {a' b' : Nat} {dk dk2 : Array Int} {wr w2 : World} (h : PR w blk off a b d a' b' dk wr) (hr : Row wr blk off dk2 w2) (hp : PermIn a' b' dk dk2) : PR w blk off a b d a' b' dk2 w2 :=
  ⟨h.row.trans hr, by rw [hp.1]; exact h.sz, h.ab, h.bd, h.bel.perm (by rw [h.sz]; exact h.bd) hp, fun R h1 h2 => h.fin R (permIn_trans _ _ _ _ _ hp h1) h2⟩
theorem PR.lt {w : World} {blk off a b : Nat} {d : Array Int} {a' b' : Nat} {dk : Array Int} {wr : World} (h : PR w blk off a b d a' b' dk wr) (hb : blk < w.heap.size) : blk < wr.heap.size := Nat.lt_of_lt_of_le hb h.row.grown.size
theorem PR.same {w : World} {blk off a b : Nat} {d : Array Int} {a' b' : Nat} {dk : Array Int} {wr w2 : World} (h : PR w blk off a b d a' b' dk wr) (hr : Row wr blk off dk w2) : PR w blk off a b d a' b' dk w2 := h.perm hr (permIn_refl _ _ _)
theorem PR.drewN {w : World} {blk off a b : Nat} {d : Array Int} {a' b' : Nat} {dk : Array Int} {wr : World} (h : PR w blk off a b d a' b' dk wr) (q : Nat) : PR w blk off a b d a' b' dk (wr.drewN q) := ⟨h.row.drewN q, h.sz, h.ab, h.bd, h.bel, h.fin⟩

set_option maxHeartbeats 16000000 in
theorem pdq_step (n : Nat) (IH : ∀ m, m < n → PdqOk m) : PdqOk n := by
  intro blk off cap a b lim d len w hn hlen hH hlt hab hb hsz hl0 hl1 hB
  subst hlen
  have HIH : Hid (∀ m, m < n → PdqOk m) := IH
  have HS : Hid (PR w blk off a b d a b d w) := ⟨Row.start hH, rfl, hab, hb, hB, fun R h1 h2 => ⟨h1, h2⟩⟩
  clear IH hH hB
  go_enter Tryz.func65, Tryz.ntmps65
  go_wp2
  go_loopg [1, 2, 3, 8, 9] (b - a + 1) (fun g va vb vl v8 v9 wr => ∃ (a' b' : Nat) (lim' : Int) (wb wp : Bool) (dk : Array Int), va = .int .i64 a' ∧ vb = .int .i64 b' ∧ vl = .int .i64 lim' ∧ v8 = .bool wb ∧ v9 = .bool wp ∧ 0 ≤ lim' ∧ lim' ≤ 64 ∧ b' - a' ≤ n ∧ g = b' - a' + 1 ∧ PR w blk off a b d a' b' dk wr)
  case atStart => exact ⟨a, b, lim, true, true, d, rfl, rfl, rfl, rfl, rfl, hl0, hl1, hn, rfl, HS.out⟩
  case round =>
    clear HS
    obtain ⟨a', b', lim', wb, wp, dk, rfl, rfl, rfl, rfl, rfl, hl0', hl1', hn', hgk, hpr⟩ := hrel
    have HGK : Hid (gk = b' - a' + 1) := hgk
    have hab' := hpr.ab
    have hbd' := hpr.bd
    have hsk := hpr.sz
    have HP : Hid (PR w blk off a b d a' b' dk wr) := hpr
    have hblk : blk < wr.heap.size := hpr.lt hlt
    obtain ⟨L, hL, hLb⟩ : ∃ L : Nat, (b' : Int) - (a' : Int) = L ∧ L = b' - a' := ⟨b' - a', by omega, rfl⟩
    have HL : Hid (L = b' - a') := hLb
    clear hgk hpr
    by_cases h12 : L ≤ 12
    · have h12z : (L : Int) ≤ 12 := by omega
      clear hLb
      have c := insertU blk off cap a' b' dk wr HP.out.row.holds hab' (by omega) (by omega)
      rw [hsk] at c
      go_wp2_with (go_at_call 79; refine c.mono ?_; rintro e w1 ⟨rfl, hrow1⟩)
      refine bodyPost_ret (results_none rfl _ _ _) rfl ?_
      obtain ⟨hp1, hs1⟩ := insertionSort_holds swo_ltInt dk a' b' hab' (by rw [HP.out.sz]; exact HP.out.bd)
      obtain ⟨f1, f2⟩ := HP.out.fin _ hp1 hs1
      exact ⟨rfl, _, HP.out.row.trans hrow1, f1, f2⟩
    have h12z : ¬ (L : Int) ≤ 12 := by omega
    have hab12 : a' + 12 < b' := by omega
    clear hLb
    by_cases hlz : lim' = 0
    · subst hlz
      have c := heapU blk off cap a' b' dk wr HP.out.row.holds (by omega) (by omega) (by omega)
      rw [hsk] at c
      go_wp2_with (go_at_call 80; refine c.mono ?_; rintro e w1 ⟨rfl, hrow1⟩)
      refine bodyPost_ret (results_none rfl _ _ _) rfl ?_
      obtain ⟨hp1, hs1⟩ := heapSort_holds swo_ltInt dk a' b' hab' (by rw [HP.out.sz]; exact HP.out.bd)
      obtain ⟨f1, f2⟩ := HP.out.fin _ hp1 hs1
      exact ⟨rfl, _, HP.out.row.trans hrow1, f1, f2⟩
    go_upto_if 35 with fail
    go_cut [3] (fun s wq => ∃ (lim2 : Int) (d2 : Array Int), s = .int .i64 lim2 ∧ 0 ≤ lim2 ∧ lim2 ≤ 64 ∧ PR w blk off a b d a' b' d2 wq)
    case first =>
      cases wb with
      | true =>
        go_wp2
        go_meet
        case rel => exact ⟨lim', dk, rfl, hl0', hl1', HP.out⟩
      | false =>
        have c := breakU blk off cap a' b' dk wr HP.out.row.holds hblk hab12 (by omega) (by omega)
        rw [hsk] at c
        go_wp2_with (go_at_call 81; refine c.mono ?_; rintro e w1 ⟨rfl, d2, hrow1, hp1⟩)
        go_meet
        case rel => exact ⟨lim' - 1, d2, rfl, by omega, by omega, HP.out.perm hrow1 hp1⟩
    case rest =>
      obtain ⟨lim2, d2, hls, hl20, hl21, hpr2⟩ := hcut
      subst hls
      clear HP hsk hblk
      obtain ⟨wx, hwx⟩ : ∃ wx, wx = wc := ⟨_, rfl⟩
      rw [← hwx] at hpr2 ⊢
      clear hwx
      have hsk2 := hpr2.sz
      have HP2 : Hid (PR w blk off a b d a' b' d2 wx) := hpr2
      have hblk2 : blk < wx.heap.size := hpr2.lt hlt
      clear hpr2
      have c := pivotU blk off cap a' b' d2 wx HP2.out.row.holds hblk2 hab12 (by omega) (by omega)
      rw [hsk2] at c
      go_upto_if 50 with (go_at_call 82; refine c.mono ?_; rintro e w3 ⟨p, hint, rfl, hh3, hp1, hp2, hrow3⟩)
      have HP3 : Hid (PR w blk off a b d a' b' d2 w3) := HP2.out.same hrow3
      clear hrow3 HP2 c
      go_cut [11, 12] (fun s u wq => ∃ (p3 h3 : Nat) (d3 : Array Int), s = .int .i64 p3 ∧ u = .int .i64 h3 ∧ a' < p3 ∧ p3 < b' ∧ PR w blk off a b d a' b' d3 wq)
      case first =>
        by_cases hh2 : hint = 2
        · subst hh2
          have c := reverseU blk off cap a' b' d2 w3 HP3.out.row.holds (by omega) (by omega) (by omega)
          rw [hsk2] at c
          go_wp2_with (go_at_call 83; refine c.mono ?_; rintro e w4 ⟨rfl, d3, hrow4, hp4⟩)
          go_meet
          case rel => exact ⟨b' - 1 - (p - a'), 1, d3, by congr 1; omega, rfl, by omega, by omega, HP3.out.perm hrow4 hp4⟩
        · have hh2z : ¬ (hint : Int) = 2 := by omega
          go_wp2
          go_meet
          case rel => exact ⟨p, hint, d2, rfl, rfl, by omega, by omega, HP3.out⟩
      case rest =>
        obtain ⟨p3, h3, d3, hs11, hs12, hpa, hpb, hpr3⟩ := hcut
        subst hs11 hs12
        clear HP3 hsk2 hblk2 hh3 hp1 hp2
        obtain ⟨wy, hwx⟩ : ∃ wx, wx = wc := ⟨_, rfl⟩
        rw [← hwx] at hpr3 ⊢
        clear hwx
        have hsk3 := hpr3.sz
        have hblk3 : blk < wy.heap.size := hpr3.lt hlt
        have HP3 : Hid (PR w blk off a b d a' b' d3 wy) := hpr3
        clear hpr3
        go_upto_region 15 with fail
        go_cut [68] (fun s wq => ∃ t : Bool, s = .bool t ∧ wq = wy)
        case first =>
          rcases Bool.eq_false_or_eq_true wb with hwb | hwb <;> rcases Bool.eq_false_or_eq_true wp with hwp | hwp
          all_goals subst hwb hwp
          all_goals go_wp2
          all_goals go_meet
          all_goals exact ⟨_, rfl, rfl⟩
        case rest =>
          obtain ⟨t, ht, hwq⟩ := hcut
          subst ht hwq
          go_upto_if 68 with fail
          go_cut [] (fun wq => PR w blk off a b d a' b' d3 wq)
          case first =>
            cases t with
            | false =>
              go_wp2
              go_meet
              exact HP3.out
            | true =>
              have c := partialU blk off cap a' b' d3 wc HP3.out.row.holds (by omega) (by omega) (by omega)
              rw [hsk3] at c
              go_wp2_with (go_at_call 84; refine c.mono ?_; rintro e w4 ⟨r, rfl, hr, hrow4⟩; have HR4 : Hid (r = true → SortedIn ltInt a' b' d3) := hr; clear hr; rcases Bool.eq_false_or_eq_true r with hr2 | hr2 <;> subst hr2)
              · refine bodyPost_ret (results_none rfl _ _ _) rfl ?_
                obtain ⟨f1, f2⟩ := HP3.out.fin d3 (permIn_refl _ _ _) (HR4.out trivial)
                exact ⟨rfl, d3, HP3.out.row.trans hrow4, f1, f2⟩
              · go_meet
                exact HP3.out.same hrow4
          case rest =>
            clear HP3 hblk3
            obtain ⟨wz, hwx⟩ : ∃ wx, wx = wc := ⟨_, rfl⟩
            rw [← hwx] at hcut ⊢
            clear hwx
            have hpr4 : PR w blk off a b d a' b' d3 wz := hcut
            clear hcut
            have hblk4 : blk < wz.heap.size := hpr4.lt hlt
            have HP4 : Hid (PR w blk off a b d a' b' d3 wz) := hpr4
            obtain ⟨G, hG⟩ : ∃ G : Nat → Int, ∀ t, G t = d3[t]! := ⟨fun t => d3[t]!, fun _ => rfl⟩
            have HG : Hid (∀ t, G t = d3[t]!) := hG
            have hcw : ∀ t, t < d.size → wz.cell? ⟨blk, off + t, none⟩ = some (.int .u32 (G t)) := fun t ht => by rw [hG]; exact (hpr4.row.holds t (by omega)).1
            obtain ⟨te, hte⟩ : ∃ te, te = (decide (0 < a') && !ltInt (G (a' - 1)) (G p3)) := ⟨_, rfl⟩
            have HTE : Hid (te = (decide (0 < a') && !ltInt (G (a' - 1)) (G p3))) := hte
            clear hpr4 hG hte
            go_upto_region 17 with fail
            go_cut [87] (fun s wq => s = .bool te ∧ PR w blk off a b d a' b' d3 wq)
            case first =>
              by_cases ha0 : 0 < a'
              · have haz : (0 : Int) < (a' : Int) := by omega
                go_big_quiet (first | (go_at_call 85; refine Calls.quiet_of_same (lessU _ _ _)))
                go_wp2_with fail
                go_meet
                case rel => exact ⟨by rw [HTE.out]; simp [ha0], HP4.out.drewN nq⟩
              · have haz : decide ((0 : Int) < (a' : Int)) = false := decide_eq_false (by omega)
                go_big_quiet (first | (go_at_call 85; refine Calls.quiet_of_same (lessU _ _ _)))
                go_wp2_with fail
                go_meet
                case rel => exact ⟨by rw [HTE.out]; simp [ha0], HP4.out.drewN nq⟩
            case rest =>
              obtain ⟨hs87, hpr5⟩ := hcut
              subst hs87
              clear HP4 hblk4 hcw
              obtain ⟨wu, hwx⟩ : ∃ wx, wx = wc := ⟨_, rfl⟩
              rw [← hwx] at hpr5 ⊢
              clear hwx
              have hblk5 : blk < wu.heap.size := hpr5.lt hlt
              have HP5 : Hid (PR w blk off a b d a' b' d3 wu) := hpr5
              clear hpr5
              cases te with
              | true =>
                have htt : 0 < a' ∧ (!ltInt d3[a' - 1]! d3[p3]!) = true := by have := HTE.out; simp only [HG.out] at this; exact and_true_of this
                have HTT : Hid _ := htt
                clear htt
                have c := partEqU blk off cap a' b' p3 d3 wu HP5.out.row.holds hpa hpb (by omega) (by omega)
                rw [hsk3] at c
                go_wp2_with (go_at_call 86; refine c.mono ?_; rintro e w6 ⟨mid, d4, rfl, hrow6, hpe⟩)
                obtain ⟨e1, e2, e3, e4, e5⟩ := round_eq swo_ltInt (partitionEqual_holds ltInt) HTT.out.1 (Nat.le_of_lt hpa) hpb (by rw [hsk3]; exact hbd') HP5.out.bel (by have := HTT.out.2; simpa using this) hpe
                have hpr6 : PR w blk off a b d mid b' d4 w6 := ⟨HP5.out.row.trans hrow6, by rw [e3]; exact hsk3, e2, hbd', e4, fun R h1 h2 => by obtain ⟨g1, g2⟩ := e5 R h1 h2; exact HP5.out.fin R g1 g2⟩
                have hgk := HGK.out
                go_roundg (b' - mid + 1)
                case measure => omega
                case rel => exact ⟨mid, b', lim2, wb, wp, d4, rfl, rfl, rfl, rfl, rfl, hl20, hl21, by omega, rfl, hpr6⟩
              | false =>
                have c := partU blk off cap a' b' p3 d3 wu HP5.out.row.holds hpa hpb (by omega) (by omega)
                rw [hsk3] at c
                go_upto_if 113 with (go_at_call 87; refine c.mono ?_; rintro e w6 ⟨mid, ap, d4, rfl, hrow6, hpt⟩; obtain ⟨e1, e2, e37⟩ := round_part swo_ltInt (partition_holds ltInt) (Nat.le_of_lt hpa) hpb (by rw [hsk3]; exact hbd') HP5.out.bel hpt; have HE37 : Hid _ := e37; have HROW6 : Hid (Row wu blk off d4 w6) := hrow6; clear e37 hrow6 hpt)
                obtain ⟨e3, e4, e5, e6, e7⟩ := HE37.out
                have hrow6 := HROW6.out
                have HR6 : Hid (Row w blk off d4 w6) := HP5.out.row.trans hrow6
                have hblk6 : blk < w6.heap.size := Nat.lt_of_lt_of_le hblk5 hrow6.grown.size
                have hsk4 : d4.size = d.size := by rw [e3]; exact hsk3
                have HE4 : Hid (Go.Sort.Below ltInt a' mid d4) := e4
                have HE5 : Hid (Go.Sort.Below ltInt (mid + 1) b' d4) := e5
                have HE6 : Hid (∀ L, PermIn a' mid d4 L → SortedIn ltInt a' mid L → Go.Sort.Below ltInt (mid + 1) b' L ∧ ∀ R, PermIn (mid + 1) b' L R → SortedIn ltInt (mid + 1) b' R → PermIn a' b' d3 R ∧ SortedIn ltInt a' b' R) := e6
                have HE7 : Hid (∀ L, PermIn (mid + 1) b' d4 L → SortedIn ltInt (mid + 1) b' L → Go.Sort.Below ltInt a' mid L ∧ ∀ R, PermIn a' mid L R → SortedIn ltInt a' mid R → PermIn a' b' d3 R ∧ SortedIn ltInt a' b' R) := e7
                clear e3 e4 e5 e6 e7 hrow6 HE37 HROW6 c
                by_cases hlr : (mid : Int) - (a' : Int) < (b' : Int) - (mid : Int)
                · have c := HIH.out (mid - a') (by omega) blk off cap a' mid lim2 d4 d.size w6 (Nat.le_refl _) hsk4 HR6.out.holds hblk6 e1 (by omega) (by omega) hl20 hl21 HE4.out
                  go_wp2_with fail
                  go_at_call 65
                  go_fit c
                  rintro e w7 ⟨rfl, d5, hrow7, hp7, hs7⟩
                  have HR7 : Hid (Row w6 blk off d5 w7) := hrow7
                  have HP7 : Hid (PermIn a' mid d4 d5) := hp7
                  have HS7 : Hid (SortedIn ltInt a' mid d5) := hs7
                  clear hrow7 hp7 hs7 c
                  go_wp2_with fail
                  have hrow7 := HR7.out
                  have hp7 := HP7.out
                  obtain ⟨f1, f2⟩ := HE6.out d5 hp7 HS7.out
                  have hpr7 : PR w blk off a b d (mid + 1) b' d5 w7 := ⟨HR6.out.trans hrow7, by rw [hp7.1]; exact hsk4, by omega, hbd', f1, fun R h1 h2 => by obtain ⟨g1, g2⟩ := f2 R h1 h2; exact HP5.out.fin R g1 g2⟩
                  have hgk := HGK.out
                  go_roundg (b' - (mid + 1) + 1)
                  case measure => omega
                  case rel => exact ⟨mid + 1, b', lim2, _, ap, d5, by go_num, rfl, rfl, rfl, rfl, hl20, hl21, by omega, rfl, hpr7⟩
                · have c := HIH.out (b' - (mid + 1)) (by omega) blk off cap (mid + 1) b' lim2 d4 d.size w6 (Nat.le_refl _) hsk4 HR6.out.holds hblk6 (by omega) (by omega) (by omega) hl20 hl21 HE5.out
                  have hmz : ((mid + 1 : Nat) : Int) = (mid : Int) + 1 := by omega
                  rw [hmz] at c
                  clear hmz
                  go_wp2_with fail
                  go_at_call 65
                  go_fit c
                  rintro e w7 ⟨rfl, d5, hrow7, hp7, hs7⟩
                  have HR7 : Hid (Row w6 blk off d5 w7) := hrow7
                  have HP7 : Hid (PermIn (mid + 1) b' d4 d5) := hp7
                  have HS7 : Hid (SortedIn ltInt (mid + 1) b' d5) := hs7
                  clear hrow7 hp7 hs7 c
                  go_wp2_with fail
                  have hrow7 := HR7.out
                  have hp7 := HP7.out
                  obtain ⟨f1, f2⟩ := HE7.out d5 hp7 HS7.out
                  have hpr7 : PR w blk off a b d a' mid d5 w7 := ⟨HR6.out.trans hrow7, by rw [hp7.1]; exact hsk4, e1, by omega, f1, fun R h1 h2 => by obtain ⟨g1, g2⟩ := f2 R h1 h2; exact HP5.out.fin R g1 g2⟩
                  have hgk := HGK.out
                  go_roundg (mid - a' + 1)
                  case measure => omega
                  case rel => exact ⟨a', mid, lim2, _, ap, d5, rfl, rfl, rfl, rfl, rfl, hl20, hl21, by omega, rfl, hpr7⟩

theorem pdqU : ∀ n, PdqOk n := fun n => Nat.strongRecOn n (fun m h => pdq_step m h)

end Go.Proofs.YtcmnmogmdhofcaaGreat.sortu
