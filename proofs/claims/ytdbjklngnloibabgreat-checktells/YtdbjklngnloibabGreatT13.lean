/- Rows of numbers of 32 bits that are sorted in place: the partitions (slices.partitionOrdered, partitionEqualOrdered). -/
import Derived.Deep.CutRange
import Derived.Deep.DeepCutAuto
import Derived.Deep.LoopGhost
import Derived.Test.YtdbjklngnloibabGreatT11

namespace Go.Proofs.YtdbjklngnloibabGreat.sortu
open Go.RowKit Go.Sort
set_option linter.unusedVariables false
set_option maxRecDepth 100000

theorem and_true_of {P : Prop} [Decidable P] {q : Bool} (h : true = (decide P && q)) : P ∧ q = true := by
  have := h.symm
  simpa using this
theorem and_false_of {P : Prop} [Decidable P] {q : Bool} (h : false = (decide P && q)) : ¬ P ∨ q = false := by
  by_cases hp : P
  · right
    have := h.symm
    simpa [hp] using this
  · exact Or.inl hp
theorem up_go (p : Int → Bool) (d : Array Int) (j i : Nat) (h : i ≤ j) (hp : p d[i]! = true) : scanUp p d j i = scanUp p d j (i + 1) := by
  rw [scanUp, if_pos (by simp [h, hp])]
theorem up_end (p : Int → Bool) (d : Array Int) (j i : Nat) (h : ¬ i ≤ j ∨ p d[i]! = false) : scanUp p d j i = i := by
  rw [scanUp, if_neg (by rcases h with h | h <;> simp [h])]
theorem down_go (p : Int → Bool) (d : Array Int) (i j : Nat) (h : i ≤ j) (h0 : 0 < j) (hp : p d[j]! = true) : scanDown p d i j = scanDown p d i (j - 1) := by
  obtain ⟨k, rfl⟩ : ∃ k, j = k + 1 := ⟨j - 1, by omega⟩
  rw [scanDown, if_pos (by simp [h, hp])]
  rfl
theorem down_end (p : Int → Bool) (d : Array Int) (i j : Nat) (h : ¬ i ≤ j ∨ p d[j]! = false) : scanDown p d i j = j := by
  cases j with
  | zero => rfl
  | succ k => rw [scanDown, if_neg (by rcases h with h | h <;> simp [h])]
theorem part_lt {p : Int → Bool} {d : Array Int} {i j jj : Nat} (h1 : ¬ i ≤ j ∨ p d[i]! = false) (h2 : ¬ i ≤ jj ∨ (!p d[jj]!) = false) (hj : jj ≤ j) (h : i ≤ jj) : i < jj := by
  rcases Nat.eq_or_lt_of_le h with e | e
  · subst e
    rcases h1 with h1 | h1
    · omega
    · rcases h2 with h2 | h2
      · omega
      · rw [h1] at h2; cases h2
  · exact e
theorem loop_break {a i0 j0 i2 j2 : Nat} {d : Array Int} (h1 : scanUp (fun x => ltInt x d[a]!) d j0 i0 = i2) (h2 : scanDown (fun x => !ltInt x d[a]!) d i2 j0 = j2) (h : j2 < i2) : partLoop ltInt a i0 j0 d = (j2, d) := by
  rw [partLoop_eq, h1, h2, if_pos h]
theorem loop_go {a i0 j0 i2 j2 : Nat} {d : Array Int} (h1 : scanUp (fun x => ltInt x d[a]!) d j0 i0 = i2) (h2 : scanDown (fun x => !ltInt x d[a]!) d i2 j0 = j2) (h : ¬ i2 > j2) : partLoop ltInt a i0 j0 d = partLoop ltInt a (i2 + 1) (j2 - 1) (swp d i2 j2) := by
  rw [partLoop_eq, h1, h2, if_neg h]
theorem part_first {a b pivot i2 j2 : Nat} {d D : Array Int} (hD : D = swp d a pivot) (h1 : scanUp (fun x => ltInt x D[a]!) D (b - 1) (a + 1) = i2) (h2 : scanDown (fun x => !ltInt x D[a]!) D i2 (b - 1) = j2) (h : j2 < i2) : partition ltInt d a b pivot = (j2, true, swp D j2 a) := by
  unfold partition
  simp only [← hD, h1, h2]
  rw [if_pos h]
theorem part_last {a b pivot i2 j2 mid : Nat} {d D dk : Array Int} (hD : D = swp d a pivot) (h1 : scanUp (fun x => ltInt x D[a]!) D (b - 1) (a + 1) = i2) (h2 : scanDown (fun x => !ltInt x D[a]!) D i2 (b - 1) = j2) (h : ¬ i2 > j2)
    (hL : partLoop ltInt a (i2 + 1) (j2 - 1) (swp D i2 j2) = (mid, dk)) : partition ltInt d a b pivot = (mid, false, swp dk mid a) := by
  unfold partition
  simp only [← hD, h1, h2]
  rw [if_neg h, hL]
theorem loopE_break {a i0 j0 i2 j2 : Nat} {d : Array Int} (h1 : scanUp (fun x => !ltInt d[a]! x) d j0 i0 = i2) (h2 : scanDown (fun x => ltInt d[a]! x) d i2 j0 = j2) (h : j2 < i2) : partEqLoop ltInt a i0 j0 d = (i2, d) := by
  rw [partEqLoop_eq, h1, h2, if_pos h]
theorem loopE_go {a i0 j0 i2 j2 : Nat} {d : Array Int} (h1 : scanUp (fun x => !ltInt d[a]! x) d j0 i0 = i2) (h2 : scanDown (fun x => ltInt d[a]! x) d i2 j0 = j2) (h : ¬ i2 > j2) : partEqLoop ltInt a i0 j0 d = partEqLoop ltInt a (i2 + 1) (j2 - 1) (swp d i2 j2) := by
  rw [partEqLoop_eq, h1, h2, if_neg h]
theorem partE_lt {p : Int → Bool} {d : Array Int} {i j jj : Nat} (h1 : ¬ i ≤ j ∨ (!p d[i]!) = false) (h2 : ¬ i ≤ jj ∨ p d[jj]! = false) (hj : jj ≤ j) (h : i ≤ jj) : i < jj := by
  rcases Nat.eq_or_lt_of_le h with e | e
  · subst e
    rcases h1 with h1 | h1
    · omega
    · rcases h2 with h2 | h2
      · omega
      · rw [h2] at h1; cases h1
  · exact e

set_option maxHeartbeats 16000000 in
theorem partU (blk off cap a b pivot : Nat) (d : Array Int) (w : World) (hH : Holds encU w blk off d) (hap : a < pivot) (hpb : pivot < b) (hb : b ≤ d.size) (hsz : d.size < 50) :
    Calls Tryz.prog 106 #[.slice (some ⟨blk, off, none⟩) d.size cap, .int .i64 a, .int .i64 b, .int .i64 pivot] w fun e w' => ∃ mid ap d', e = .returned (.tuple #[.int .i64 ((mid : Nat) : Int), .bool ap]) ∧ Row w blk off d' w' ∧ Sort.partition ltInt d a b pivot = (mid, ap, d') := by
  obtain ⟨c, hc⟩ : ∃ c : Nat, (b : Int) - 1 = c := ⟨b - 1, by omega⟩
  have hcb : c + 1 = b := by omega
  have HCB : Hid (c = b - 1) := by show c = b - 1; omega
  have HR0 : Hid (Row w blk off d w) := Row.start hH
  obtain ⟨G0, hG⟩ : ∃ G0 : Nat → Int, ∀ t, G0 t = d[t]! := ⟨fun t => d[t]!, fun _ => rfl⟩
  have hcw : ∀ t, t < d.size → w.cell? ⟨blk, off + t, none⟩ = some (.int .u32 (G0 t)) := fun t ht => by rw [hG]; exact (hH t ht).1
  have hfw : ∀ t, t < d.size → w.frozen? ⟨blk, off + t, none⟩ = false := fun t ht => (hH t ht).2
  have hsw := (HR0.out.drewN 1).swap (i := a) (j := pivot) (by omega) (by omega)
  rw [← hG, ← hG] at hsw
  obtain ⟨D, hD⟩ : ∃ D, D = swp d a pivot := ⟨_, rfl⟩
  rw [← hD] at hsw
  have hs1 : D.size = d.size := by rw [hD, size_swp]
  have HD1 : Hid (D = swp d a pivot) := hD
  have HSW : Hid _ := hsw
  clear hsw hD hG hH HR0
  go_enter Tryz.func106, Tryz.ntmps106
  go_wp2
  go_region
  all_goals go_wp2
  have HR : Hid _ := HSW
  clear hcw hfw HSW
  obtain ⟨G, hG⟩ : ∃ G : Nat → Int, ∀ t, G t = D[t]! := ⟨fun t => D[t]!, fun _ => rfl⟩
  have HG : Hid (∀ t, G t = D[t]!) := hG
  clear hG
  go_loopg [10] (c + 2 - (a + 1)) (fun g v wr => ∃ i : Nat, v = .int .i64 i ∧ a + 1 ≤ i ∧ i ≤ c + 1 ∧ g = c + 2 - i ∧ Row w blk off D wr ∧ scanUp (fun x => ltInt x D[a]!) D c i = scanUp (fun x => ltInt x D[a]!) D c (a + 1))
  case atStart => exact ⟨a + 1, by first | rfl | go_num, Nat.le_refl _, by omega, rfl, HR.out, rfl⟩
  case round =>
    clear HR
    obtain ⟨i, rfl, hi0, hi1, hgk, hrow, hS⟩ := hrel
    have HGKN : Hid _ := hgk
    have HR : Hid (Row w blk off D wr) := hrow
    have HS : Hid _ := hS
    obtain ⟨t, ht⟩ : ∃ t, t = (decide (i ≤ c) && ltInt (G i) (G a)) := ⟨_, rfl⟩
    have HT : Hid (t = (decide (i ≤ c) && ltInt (G i) (G a))) := ht
    have hcw : ∀ t, t < d.size → wr.cell? ⟨blk, off + t, none⟩ = some (.int .u32 (G t)) := fun t ht => by rw [HG.out]; exact (hrow.holds t (by omega)).1
    have hfw : ∀ t, t < d.size → wr.frozen? ⟨blk, off + t, none⟩ = false := fun t ht => (hrow.holds t (by omega)).2
    clear hrow hS ht hgk
    go_upto_region 3 with fail
    go_cut [43] (fun s wq => s = .bool t ∧ Row w blk off D wq)
    case first =>
      by_cases hcc : i ≤ c
      · have hcz : ((i : Nat) : Int) ≤ ((c : Nat) : Int) := by omega
        go_big_quiet (first | (go_at_call 104; refine Calls.quiet_of_same (lessU _ _ _)))
        go_wp2_with fail
        go_meet
        case rel => exact ⟨by rw [HT.out]; simp [hcc], HR.out.drewN nq⟩
      · have hcz : decide (((i : Nat) : Int) ≤ ((c : Nat) : Int)) = false := decide_eq_false (by omega)
        go_big_quiet (first | (go_at_call 104; refine Calls.quiet_of_same (lessU _ _ _)))
        go_wp2_with fail
        go_meet
        case rel => exact ⟨by rw [HT.out]; simp [hcc], HR.out.drewN nq⟩
    case rest =>
      obtain ⟨hst, hrow⟩ := hcut
      subst hst
      clear hcw hfw HR
      have HR : Hid (Row w blk off D wc) := hrow
      clear hrow
      cases t with
      | true =>
        have htt : i ≤ c ∧ (ltInt D[i]! D[a]!) = true := by have := HT.out; simp only [HG.out] at this; exact and_true_of this
        have HTT : Hid _ := htt
        have hcc := htt.1
        clear htt
        go_wp2
        have htt := HTT.out
        have hgk := HGKN.out
        go_roundg (gk - 1)
        case measure => omega
        case rel => exact ⟨i + 1, by go_num, by omega, by omega, by omega, HR.out, by rw [← HS.out]; exact (up_go _ _ _ _ htt.1 htt.2).symm⟩
      | false =>
        have htt : ¬ i ≤ c ∨ (ltInt D[i]! D[a]!) = false := by have := HT.out; simp only [HG.out] at this; exact and_false_of this
        have HE : Hid (scanUp (fun x => ltInt x D[a]!) D c (a + 1) = i) := HS.out.symm.trans (up_end _ _ _ _ htt)
        have HN1 : Hid (¬ i ≤ c ∨ (ltInt D[i]! D[a]!) = false) := htt
        clear htt HT HS
        go_wp2
        go_loopg [11] (c + 1) (fun g v wr => ∃ jj : Nat, v = .int .i64 jj ∧ jj ≤ c ∧ i ≤ jj + 1 ∧ g = jj + 1 ∧ Row w blk off D wr ∧ scanDown (fun x => !ltInt x D[a]!) D i jj = scanDown (fun x => !ltInt x D[a]!) D i (c))
        case atStart => exact ⟨c, by first | rfl | go_num, Nat.le_refl _, by omega, rfl, HR.out, rfl⟩
        case round =>
          clear HR
          obtain ⟨jj, rfl, hjj0, hjj1, hgk, hrow, hS⟩ := hrel
          have HGKN : Hid _ := hgk
          have HR : Hid (Row w blk off D wr) := hrow
          have HS : Hid _ := hS
          obtain ⟨t, ht⟩ : ∃ t, t = (decide (i ≤ jj) && !ltInt (G jj) (G a)) := ⟨_, rfl⟩
          have HT : Hid (t = (decide (i ≤ jj) && !ltInt (G jj) (G a))) := ht
          have hcw : ∀ t, t < d.size → wr.cell? ⟨blk, off + t, none⟩ = some (.int .u32 (G t)) := fun t ht => by rw [HG.out]; exact (hrow.holds t (by omega)).1
          have hfw : ∀ t, t < d.size → wr.frozen? ⟨blk, off + t, none⟩ = false := fun t ht => (hrow.holds t (by omega)).2
          clear hrow hS ht hgk
          go_upto_region 5 with fail
          go_cut [60] (fun s wq => s = .bool t ∧ Row w blk off D wq)
          case first =>
            by_cases hcc : i ≤ jj
            · have hcz : ((i : Nat) : Int) ≤ ((jj : Nat) : Int) := by omega
              go_big_quiet (first | (go_at_call 104; refine Calls.quiet_of_same (lessU _ _ _)))
              go_wp2_with fail
              go_meet
              case rel => exact ⟨by rw [HT.out]; simp [hcc], HR.out.drewN nq⟩
            · have hcz : decide (((i : Nat) : Int) ≤ ((jj : Nat) : Int)) = false := decide_eq_false (by omega)
              go_big_quiet (first | (go_at_call 104; refine Calls.quiet_of_same (lessU _ _ _)))
              go_wp2_with fail
              go_meet
              case rel => exact ⟨by rw [HT.out]; simp [hcc], HR.out.drewN nq⟩
          case rest =>
            obtain ⟨hst, hrow⟩ := hcut
            subst hst
            clear hcw hfw HR
            have HR : Hid (Row w blk off D wc) := hrow
            clear hrow
            cases t with
            | true =>
              have htt : i ≤ jj ∧ (!ltInt D[jj]! D[a]!) = true := by have := HT.out; simp only [HG.out] at this; exact and_true_of this
              have HTT : Hid _ := htt
              have hcc := htt.1
              clear htt
              go_wp2
              have htt := HTT.out
              have hgk := HGKN.out
              go_roundg (gk - 1)
              case measure => omega
              case rel => exact ⟨jj - 1, by congr 1; omega, by omega, by omega, by omega, HR.out, by rw [← HS.out]; exact (down_go _ _ _ _ htt.1 (by omega) htt.2).symm⟩
            | false =>
              have htt : ¬ i ≤ jj ∨ (!ltInt D[jj]! D[a]!) = false := by have := HT.out; simp only [HG.out] at this; exact and_false_of this
              have HE2 : Hid (scanDown (fun x => !ltInt x D[a]!) D i (c) = jj) := HS.out.symm.trans (down_end _ _ _ _ htt)
              have HN2 : Hid (¬ i ≤ jj ∨ (!ltInt D[jj]! D[a]!) = false) := htt
              clear htt HT HS
              by_cases hgt : jj < i
              · go_wp2
                rcases Nat.eq_or_lt_of_le (show a ≤ jj by omega) with hee | hee
                · subst hee
                  have hcw : ∀ t, t < d.size → wc.cell? ⟨blk, off + t, none⟩ = some (.int .u32 (G t)) := fun t ht => by rw [HG.out]; exact (HR.out.holds t (by omega)).1
                  have hfw : ∀ t, t < d.size → wc.frozen? ⟨blk, off + t, none⟩ = false := fun t ht => (HR.out.holds t (by omega)).2
                  have hxd : a < d.size := by omega
                  have hyd : a < d.size := by omega
                  have hsw := (HR.out.drewN 1).swap (i := a) (j := a) (by omega) (by omega)
                  rw [← HG.out] at hsw
                  have HSW : Hid _ := hsw
                  clear hsw
                  go_region
                  all_goals go_wp2
                  refine bodyPost_ret (v := .tuple #[.int .i64 ((a : Nat) : Int), .bool true]) ?_ rfl ⟨a, true, _, rfl, HSW.out, ?_⟩
                  · simp [results, Tryz.results106, go_sem]
                  · exact part_first HD1.out (by rw [← HCB.out]; exact HE.out) (by rw [← HCB.out]; exact HE2.out) hgt
                · have hne : a < jj := hee
                  have hcw : ∀ t, t < d.size → wc.cell? ⟨blk, off + t, none⟩ = some (.int .u32 (G t)) := fun t ht => by rw [HG.out]; exact (HR.out.holds t (by omega)).1
                  have hfw : ∀ t, t < d.size → wc.frozen? ⟨blk, off + t, none⟩ = false := fun t ht => (HR.out.holds t (by omega)).2
                  have hxd : jj < d.size := by omega
                  have hyd : a < d.size := by omega
                  have hsw := (HR.out.drewN 1).swap (i := jj) (j := a) (by omega) (by omega)
                  rw [← HG.out, ← HG.out] at hsw
                  have HSW : Hid _ := hsw
                  clear hsw
                  go_region
                  all_goals go_wp2
                  refine bodyPost_ret (v := .tuple #[.int .i64 ((jj : Nat) : Int), .bool true]) ?_ rfl ⟨jj, true, _, rfl, HSW.out, ?_⟩
                  · simp [results, Tryz.results106, go_sem]
                  · exact part_first HD1.out (by rw [← HCB.out]; exact HE.out) (by rw [← HCB.out]; exact HE2.out) hgt
              · have hlt : i < jj := part_lt (p := fun x => ltInt x D[a]!) HN1.out HN2.out (by omega) (by omega)
                clear hgt
                go_wp2
                have hcw : ∀ t, t < d.size → wc.cell? ⟨blk, off + t, none⟩ = some (.int .u32 (G t)) := fun t ht => by rw [HG.out]; exact (HR.out.holds t (by omega)).1
                have hfw : ∀ t, t < d.size → wc.frozen? ⟨blk, off + t, none⟩ = false := fun t ht => (HR.out.holds t (by omega)).2
                have hxd : i < d.size := by omega
                have hyd : jj < d.size := by omega
                have hsw := (HR.out.drewN 1).swap (i := i) (j := jj) (by omega) (by omega)
                rw [← HG.out, ← HG.out] at hsw
                have HSW : Hid _ := hsw
                clear hsw
                go_region
                all_goals go_wp2
                obtain ⟨i5, hi5⟩ : ∃ i5 : Nat, i5 = i := ⟨_, rfl⟩
                obtain ⟨j5, hj5⟩ : ∃ j5 : Nat, j5 = jj := ⟨_, rfl⟩
                have HE0 : Hid _ := HE
                have HF0 : Hid _ := HE2
                have hlt0 : ¬ i > jj := by omega
                have hsD : (swp D i jj).size = d.size := by rw [size_swp]; exact hs1
                clear HE HE2 HN1 HN2 HR hcw hfw hi5 hj5
                go_loopg [10, 11] (jj - i) (fun g v u wr => ∃ (i9 j9 : Nat) (dk : Array Int), v = .int .i64 i9 ∧ u = .int .i64 j9 ∧ a < i9 ∧ i9 ≤ j9 + 1 ∧ j9 < b ∧ dk.size = d.size ∧ g = j9 + 2 - i9 ∧ Row w blk off dk wr ∧ partLoop ltInt a (i + 1) (jj - 1) (swp D i jj) = partLoop ltInt a i9 j9 dk)
                case atStart => exact ⟨i + 1, jj - 1, swp D i jj, by go_num, by congr 1; omega, by omega, by omega, by omega, hsD, by omega, HSW.out, rfl⟩
                case round =>
                  clear HSW
                  obtain ⟨i9, j9, dk, rfl, rfl, hi91, hi92, hj9, hsk, hgk3, hrow, hPL⟩ := hrel
                  obtain ⟨gk3, hgk3e⟩ : ∃ gk3, gk3 = gk := ⟨_, rfl⟩
                  have HGK3 : Hid (gk3 = j9 + 2 - i9) := hgk3e.trans hgk3
                  have HG3 : Hid (gk3 = gk) := hgk3e
                  have HPL : Hid (partLoop ltInt a (i + 1) (jj - 1) (swp D i jj) = partLoop ltInt a i9 j9 dk) := hPL
                  have HR : Hid (Row w blk off dk wr) := hrow
                  obtain ⟨GK, hGK⟩ : ∃ GK : Nat → Int, ∀ t, GK t = dk[t]! := ⟨fun t => dk[t]!, fun _ => rfl⟩
                  have HGK : Hid (∀ t, GK t = dk[t]!) := hGK
                  clear hgk3 hgk3e hrow hPL hGK
                  go_wp2
                  go_loopg [10] (j9 + 2 - (i9)) (fun g v wr => ∃ i : Nat, v = .int .i64 i ∧ i9 ≤ i ∧ i ≤ j9 + 1 ∧ g = j9 + 2 - i ∧ Row w blk off dk wr ∧ scanUp (fun x => ltInt x dk[a]!) dk j9 i = scanUp (fun x => ltInt x dk[a]!) dk j9 (i9))
                  case atStart => exact ⟨i9, by first | rfl | go_num, Nat.le_refl _, by omega, rfl, HR.out, rfl⟩
                  case round =>
                    clear HR
                    obtain ⟨i, rfl, hi0, hi1, hgk, hrow, hS⟩ := hrel
                    have HGKN : Hid _ := hgk
                    have HR : Hid (Row w blk off dk wr) := hrow
                    have HS : Hid _ := hS
                    obtain ⟨t, ht⟩ : ∃ t, t = (decide (i ≤ j9) && ltInt (GK i) (GK a)) := ⟨_, rfl⟩
                    have HT : Hid (t = (decide (i ≤ j9) && ltInt (GK i) (GK a))) := ht
                    have hcw : ∀ t, t < d.size → wr.cell? ⟨blk, off + t, none⟩ = some (.int .u32 (GK t)) := fun t ht => by rw [HGK.out]; exact (hrow.holds t (by omega)).1
                    have hfw : ∀ t, t < d.size → wr.frozen? ⟨blk, off + t, none⟩ = false := fun t ht => (hrow.holds t (by omega)).2
                    clear hrow hS ht hgk
                    go_upto_region 13 with fail
                    go_cut [112] (fun s wq => s = .bool t ∧ Row w blk off dk wq)
                    case first =>
                      by_cases hcc : i ≤ j9
                      · have hcz : ((i : Nat) : Int) ≤ ((j9 : Nat) : Int) := by omega
                        go_big_quiet (first | (go_at_call 104; refine Calls.quiet_of_same (lessU _ _ _)))
                        go_wp2_with fail
                        go_meet
                        case rel => exact ⟨by rw [HT.out]; simp [hcc], HR.out.drewN nq⟩
                      · have hcz : decide (((i : Nat) : Int) ≤ ((j9 : Nat) : Int)) = false := decide_eq_false (by omega)
                        go_big_quiet (first | (go_at_call 104; refine Calls.quiet_of_same (lessU _ _ _)))
                        go_wp2_with fail
                        go_meet
                        case rel => exact ⟨by rw [HT.out]; simp [hcc], HR.out.drewN nq⟩
                    case rest =>
                      obtain ⟨hst, hrow⟩ := hcut
                      subst hst
                      clear hcw hfw HR
                      have HR : Hid (Row w blk off dk wc) := hrow
                      clear hrow
                      cases t with
                      | true =>
                        have htt : i ≤ j9 ∧ (ltInt dk[i]! dk[a]!) = true := by have := HT.out; simp only [HGK.out] at this; exact and_true_of this
                        have HTT : Hid _ := htt
                        have hcc := htt.1
                        clear htt
                        go_wp2
                        have htt := HTT.out
                        have hgk := HGKN.out
                        go_roundg (gk - 1)
                        case measure => omega
                        case rel => exact ⟨i + 1, by go_num, by omega, by omega, by omega, HR.out, by rw [← HS.out]; exact (up_go _ _ _ _ htt.1 htt.2).symm⟩
                      | false =>
                        have htt : ¬ i ≤ j9 ∨ (ltInt dk[i]! dk[a]!) = false := by have := HT.out; simp only [HGK.out] at this; exact and_false_of this
                        have HE : Hid (scanUp (fun x => ltInt x dk[a]!) dk j9 (i9) = i) := HS.out.symm.trans (up_end _ _ _ _ htt)
                        have HN1 : Hid (¬ i ≤ j9 ∨ (ltInt dk[i]! dk[a]!) = false) := htt
                        clear htt HT HS
                        go_wp2
                        go_loopg [11] (j9 + 1) (fun g v wr => ∃ jj : Nat, v = .int .i64 jj ∧ jj ≤ j9 ∧ i ≤ jj + 1 ∧ g = jj + 1 ∧ Row w blk off dk wr ∧ scanDown (fun x => !ltInt x dk[a]!) dk i jj = scanDown (fun x => !ltInt x dk[a]!) dk i (j9))
                        case atStart => exact ⟨j9, by first | rfl | go_num, Nat.le_refl _, by omega, rfl, HR.out, rfl⟩
                        case round =>
                          clear HR
                          obtain ⟨jj, rfl, hjj0, hjj1, hgk, hrow, hS⟩ := hrel
                          have HGKN : Hid _ := hgk
                          have HR : Hid (Row w blk off dk wr) := hrow
                          have HS : Hid _ := hS
                          obtain ⟨t, ht⟩ : ∃ t, t = (decide (i ≤ jj) && !ltInt (GK jj) (GK a)) := ⟨_, rfl⟩
                          have HT : Hid (t = (decide (i ≤ jj) && !ltInt (GK jj) (GK a))) := ht
                          have hcw : ∀ t, t < d.size → wr.cell? ⟨blk, off + t, none⟩ = some (.int .u32 (GK t)) := fun t ht => by rw [HGK.out]; exact (hrow.holds t (by omega)).1
                          have hfw : ∀ t, t < d.size → wr.frozen? ⟨blk, off + t, none⟩ = false := fun t ht => (hrow.holds t (by omega)).2
                          clear hrow hS ht hgk
                          go_upto_region 15 with fail
                          go_cut [129] (fun s wq => s = .bool t ∧ Row w blk off dk wq)
                          case first =>
                            by_cases hcc : i ≤ jj
                            · have hcz : ((i : Nat) : Int) ≤ ((jj : Nat) : Int) := by omega
                              go_big_quiet (first | (go_at_call 104; refine Calls.quiet_of_same (lessU _ _ _)))
                              go_wp2_with fail
                              go_meet
                              case rel => exact ⟨by rw [HT.out]; simp [hcc], HR.out.drewN nq⟩
                            · have hcz : decide (((i : Nat) : Int) ≤ ((jj : Nat) : Int)) = false := decide_eq_false (by omega)
                              go_big_quiet (first | (go_at_call 104; refine Calls.quiet_of_same (lessU _ _ _)))
                              go_wp2_with fail
                              go_meet
                              case rel => exact ⟨by rw [HT.out]; simp [hcc], HR.out.drewN nq⟩
                          case rest =>
                            obtain ⟨hst, hrow⟩ := hcut
                            subst hst
                            clear hcw hfw HR
                            have HR : Hid (Row w blk off dk wc) := hrow
                            clear hrow
                            cases t with
                            | true =>
                              have htt : i ≤ jj ∧ (!ltInt dk[jj]! dk[a]!) = true := by have := HT.out; simp only [HGK.out] at this; exact and_true_of this
                              have HTT : Hid _ := htt
                              have hcc := htt.1
                              clear htt
                              go_wp2
                              have htt := HTT.out
                              have hgk := HGKN.out
                              go_roundg (gk - 1)
                              case measure => omega
                              case rel => exact ⟨jj - 1, by congr 1; omega, by omega, by omega, by omega, HR.out, by rw [← HS.out]; exact (down_go _ _ _ _ htt.1 (by omega) htt.2).symm⟩
                            | false =>
                              have htt : ¬ i ≤ jj ∨ (!ltInt dk[jj]! dk[a]!) = false := by have := HT.out; simp only [HGK.out] at this; exact and_false_of this
                              have HE2 : Hid (scanDown (fun x => !ltInt x dk[a]!) dk i (j9) = jj) := HS.out.symm.trans (down_end _ _ _ _ htt)
                              have HN2 : Hid (¬ i ≤ jj ∨ (!ltInt dk[jj]! dk[a]!) = false) := htt
                              clear htt HT HS
                              by_cases hgt : jj < i
                              · go_wp2
                                rcases Nat.eq_or_lt_of_le (show a ≤ jj by omega) with hee | hee
                                · subst hee
                                  have hcw : ∀ t, t < d.size → wc.cell? ⟨blk, off + t, none⟩ = some (.int .u32 (GK t)) := fun t ht => by rw [HGK.out]; exact (HR.out.holds t (by omega)).1
                                  have hfw : ∀ t, t < d.size → wc.frozen? ⟨blk, off + t, none⟩ = false := fun t ht => (HR.out.holds t (by omega)).2
                                  have hxd : a < d.size := by omega
                                  have hyd : a < d.size := by omega
                                  have hsw := (HR.out.drewN 1).swap (i := a) (j := a) (by omega) (by omega)
                                  rw [← HGK.out] at hsw
                                  have HSW : Hid _ := hsw
                                  clear hsw
                                  go_region
                                  all_goals go_wp2
                                  refine bodyPost_ret (v := .tuple #[.int .i64 ((a : Nat) : Int), .bool false]) ?_ rfl ⟨a, false, _, rfl, HSW.out, ?_⟩
                                  · simp [results, Tryz.results106, go_sem]
                                  · exact part_last HD1.out (by rw [← HCB.out]; exact HE0.out) (by rw [← HCB.out]; exact HF0.out) hlt0 (HPL.out.trans (loop_break HE.out HE2.out hgt))
                                · have hne : a < jj := hee
                                  have hcw : ∀ t, t < d.size → wc.cell? ⟨blk, off + t, none⟩ = some (.int .u32 (GK t)) := fun t ht => by rw [HGK.out]; exact (HR.out.holds t (by omega)).1
                                  have hfw : ∀ t, t < d.size → wc.frozen? ⟨blk, off + t, none⟩ = false := fun t ht => (HR.out.holds t (by omega)).2
                                  have hxd : jj < d.size := by omega
                                  have hyd : a < d.size := by omega
                                  have hsw := (HR.out.drewN 1).swap (i := jj) (j := a) (by omega) (by omega)
                                  rw [← HGK.out, ← HGK.out] at hsw
                                  have HSW : Hid _ := hsw
                                  clear hsw
                                  go_region
                                  all_goals go_wp2
                                  refine bodyPost_ret (v := .tuple #[.int .i64 ((jj : Nat) : Int), .bool false]) ?_ rfl ⟨jj, false, _, rfl, HSW.out, ?_⟩
                                  · simp [results, Tryz.results106, go_sem]
                                  · exact part_last HD1.out (by rw [← HCB.out]; exact HE0.out) (by rw [← HCB.out]; exact HF0.out) hlt0 (HPL.out.trans (loop_break HE.out HE2.out hgt))
                              · have hlt : i < jj := part_lt (p := fun x => ltInt x dk[a]!) HN1.out HN2.out (by omega) (by omega)
                                clear hgt
                                go_wp2
                                have hcw : ∀ t, t < d.size → wc.cell? ⟨blk, off + t, none⟩ = some (.int .u32 (GK t)) := fun t ht => by rw [HGK.out]; exact (HR.out.holds t (by omega)).1
                                have hfw : ∀ t, t < d.size → wc.frozen? ⟨blk, off + t, none⟩ = false := fun t ht => (HR.out.holds t (by omega)).2
                                have hxd : i < d.size := by omega
                                have hyd : jj < d.size := by omega
                                have hsw := (HR.out.drewN 1).swap (i := i) (j := jj) (by omega) (by omega)
                                rw [← HGK.out, ← HGK.out] at hsw
                                have HSW : Hid _ := hsw
                                clear hsw
                                go_region
                                all_goals go_wp2
                                have hgk3 := HGK3.out
                                have hg3 := HG3.out
                                go_roundg (jj - i)
                                case measure => omega
                                case rel => exact ⟨i + 1, jj - 1, swp dk i jj, by go_num, by congr 1; omega, by omega, by omega, by omega, by rw [size_swp]; exact hsk, by omega, HSW.out, HPL.out.trans (loop_go HE.out HE2.out (by omega))⟩

end Go.Proofs.YtdbjklngnloibabGreat.sortu
