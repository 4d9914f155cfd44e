/- Rows of numbers of 32 bits that are sorted in place: the partitions (slices.partitionOrdered, partitionEqualOrdered). -/
import Derived.Deep.CutRange
import Derived.Deep.DeepCutAuto
import Derived.Deep.LoopGhost
import Derived.Test.YtcmnmogmdhofcabGreatE08

namespace Go.Proofs.YtcmnmogmdhofcabGreat.sortu
open Go.RowKit Go.Sort
set_option linter.unusedVariables false
set_option maxRecDepth 100000

theorem and_true_of {P : Prop} [Decidable P] {q : Bool} (h : true = (decide P && q)) : P ∧ q = true := by
  have := h.symm
  simpa using this
theorem and_false_of {P : Prop} [Decidable P] {q : Bool} (h : false = (decide P && q)) : ¬ P ∨ q = false := by
  by_cases hp : P
  · right
    have := h.symm
    simpa [hp] using this
  · exact Or.inl hp
theorem up_go (p : Int → Bool) (d : Array Int) (j i : Nat) (h : i ≤ j) (hp : p d[i]! = true) : scanUp p d j i = scanUp p d j (i + 1) := by
  rw [scanUp, if_pos (by simp [h, hp])]
theorem up_end (p : Int → Bool) (d : Array Int) (j i : Nat) (h : ¬ i ≤ j ∨ p d[i]! = false) : scanUp p d j i = i := by
  rw [scanUp, if_neg (by rcases h with h | h <;> simp [h])]
theorem down_go (p : Int → Bool) (d : Array Int) (i j : Nat) (h : i ≤ j) (h0 : 0 < j) (hp : p d[j]! = true) : scanDown p d i j = scanDown p d i (j - 1) := by
  obtain ⟨k, rfl⟩ : ∃ k, j = k + 1 := ⟨j - 1, by omega⟩
  rw [scanDown, if_pos (by simp [h, hp])]
  rfl
theorem down_end (p : Int → Bool) (d : Array Int) (i j : Nat) (h : ¬ i ≤ j ∨ p d[j]! = false) : scanDown p d i j = j := by
  cases j with
  | zero => rfl
  | succ k => rw [scanDown, if_neg (by rcases h with h | h <;> simp [h])]
theorem part_lt {p : Int → Bool} {d : Array Int} {i j jj : Nat} (h1 : ¬ i ≤ j ∨ p d[i]! = false) (h2 : ¬ i ≤ jj ∨ (!p d[jj]!) = false) (hj : jj ≤ j) (h : i ≤ jj) : i < jj := by
  rcases Nat.eq_or_lt_of_le h with e | e
  · subst e
    rcases h1 with h1 | h1
    · omega
    · rcases h2 with h2 | h2
      · omega
      · rw [h1] at h2; cases h2
  · exact e
theorem loop_break {a i0 j0 i2 j2 : Nat} {d : Array Int} (h1 : scanUp (fun x => ltInt x d[a]!) d j0 i0 = i2) (h2 : scanDown (fun x => !ltInt x d[a]!) d i2 j0 = j2) (h : j2 < i2) : partLoop ltInt a i0 j0 d = (j2, d) := by
  rw [partLoop_eq, h1, h2, if_pos h]
theorem loop_go {a i0 j0 i2 j2 : Nat} {d : Array Int} (h1 : scanUp (fun x => ltInt x d[a]!) d j0 i0 = i2) (h2 : scanDown (fun x => !ltInt x d[a]!) d i2 j0 = j2) (h : ¬ i2 > j2) : partLoop ltInt a i0 j0 d = partLoop ltInt a (i2 + 1) (j2 - 1) (swp d i2 j2) := by
  rw [partLoop_eq, h1, h2, if_neg h]
theorem part_first {a b pivot i2 j2 : Nat} {d D : Array Int} (hD : D = swp d a pivot) (h1 : scanUp (fun x => ltInt x D[a]!) D (b - 1) (a + 1) = i2) (h2 : scanDown (fun x => !ltInt x D[a]!) D i2 (b - 1) = j2) (h : j2 < i2) : partition ltInt d a b pivot = (j2, true, swp D j2 a) := by
  unfold partition
  simp only [← hD, h1, h2]
  rw [if_pos h]
theorem part_last {a b pivot i2 j2 mid : Nat} {d D dk : Array Int} (hD : D = swp d a pivot) (h1 : scanUp (fun x => ltInt x D[a]!) D (b - 1) (a + 1) = i2) (h2 : scanDown (fun x => !ltInt x D[a]!) D i2 (b - 1) = j2) (h : ¬ i2 > j2)
    (hL : partLoop ltInt a (i2 + 1) (j2 - 1) (swp D i2 j2) = (mid, dk)) : partition ltInt d a b pivot = (mid, false, swp dk mid a) := by
  unfold partition
  simp only [← hD, h1, h2]
  rw [if_neg h, hL]
theorem loopE_break {a i0 j0 i2 j2 : Nat} {d : Array Int} (h1 : scanUp (fun x => !ltInt d[a]! x) d j0 i0 = i2) (h2 : scanDown (fun x => ltInt d[a]! x) d i2 j0 = j2) (h : j2 < i2) : partEqLoop ltInt a i0 j0 d = (i2, d) := by
  rw [partEqLoop_eq, h1, h2, if_pos h]
theorem loopE_go {a i0 j0 i2 j2 : Nat} {d : Array Int} (h1 : scanUp (fun x => !ltInt d[a]! x) d j0 i0 = i2) (h2 : scanDown (fun x => ltInt d[a]! x) d i2 j0 = j2) (h : ¬ i2 > j2) : partEqLoop ltInt a i0 j0 d = partEqLoop ltInt a (i2 + 1) (j2 - 1) (swp d i2 j2) := by
  rw [partEqLoop_eq, h1, h2, if_neg h]
theorem partE_lt {p : Int → Bool} {d : Array Int} {i j jj : Nat} (h1 : ¬ i ≤ j ∨ (!p d[i]!) = false) (h2 : ¬ i ≤ jj ∨ p d[jj]! = false) (hj : jj ≤ j) (h : i ≤ jj) : i < jj := by
  rcases Nat.eq_or_lt_of_le h with e | e
  · subst e
    rcases h1 with h1 | h1
    · omega
    · rcases h2 with h2 | h2
      · omega
      · rw [h2] at h1; cases h1
  · exact e

set_option maxHeartbeats 16000000 in
theorem partU (blk off cap a b pivot : Nat) (d : Array Int) (w : World) (hH : Holds encU w blk off d) (hap : a < pivot) (hpb : pivot < b) (hb : b ≤ d.size) (hsz : d.size < 50) :
    Calls Tryz.prog 134 #[.slice (some ⟨blk, off, none⟩) d.size cap, .int .i64 a, .int .i64 b, .int .i64 pivot] w fun e w' => ∃ mid ap d', e = .returned (.tuple #[.int .i64 ((mid : Nat) : Int), .bool ap]) ∧ Row w blk off d' w' ∧ Sort.partition ltInt d a b pivot = (mid, ap, d') := by
  obtain ⟨c, hc⟩ : ∃ c : Nat, (b : Int) - 1 = c := ⟨b - 1, by omega⟩
  have hcb : c + 1 = b := by omega
  have HCB : Hid (c = b - 1) := by show c = b - 1; omega
  have HR0 : Hid (Row w blk off d w) := Row.start hH
  obtain ⟨G0, hG⟩ : ∃ G0 : Nat → Int, ∀ t, G0 t = d[t]! := ⟨fun t => d[t]!, fun _ => rfl⟩
  have hcw : ∀ t, t < d.size → w.cell? ⟨blk, off + t, none⟩ = some (.int .u32 (G0 t)) := fun t ht => by rw [hG]; exact (hH t ht).1
  have hfw : ∀ t, t < d.size → w.frozen? ⟨blk, off + t, none⟩ = false := fun t ht => (hH t ht).2
  have hsw := (HR0.out.drewN 1).swap (i := a) (j := pivot) (by omega) (by omega)
  rw [← hG, ← hG] at hsw
  obtain ⟨D, hD⟩ : ∃ D, D = swp d a pivot := ⟨_, rfl⟩
  rw [← hD] at hsw
  have hs1 : D.size = d.size := by rw [hD, size_swp]
  have HD1 : Hid (D = swp d a pivot) := hD
  have HSW : Hid _ := hsw
  clear hsw hD hG hH HR0
  go_enter Tryz.func134, Tryz.ntmps134
  go_wp2
  go_region
  all_goals go_wp2
  have HR : Hid _ := HSW
  clear hcw hfw HSW
  obtain ⟨G, hG⟩ : ∃ G : Nat → Int, ∀ t, G t = D[t]! := ⟨fun t => D[t]!, fun _ => rfl⟩
  have HG : Hid (∀ t, G t = D[t]!) := hG
  clear hG
  go_loopg [10] (c + 2 - (a + 1)) (fun g v wr => ∃ i : Nat, v = .int .i64 i ∧ a + 1 ≤ i ∧ i ≤ c + 1 ∧ g = c + 2 - i ∧ Row w blk off D wr ∧ scanUp (fun x => ltInt x D[a]!) D c i = scanUp (fun x => ltInt x D[a]!) D c (a + 1))
  case atStart => exact ⟨a + 1, by first | rfl | go_num, Nat.le_refl _, by omega, rfl, HR.out, rfl⟩
  case round =>
    clear HR
    obtain ⟨i, rfl, hi0, hi1, hgk, hrow, hS⟩ := hrel
    have HGKN : Hid _ := hgk
    have HR : Hid (Row w blk off D wr) := hrow
    have HS : Hid _ := hS
    obtain ⟨t, ht⟩ : ∃ t, t = (decide (i ≤ c) && ltInt (G i) (G a)) := ⟨_, rfl⟩
    have HT : Hid (t = (decide (i ≤ c) && ltInt (G i) (G a))) := ht
    have hcw : ∀ t, t < d.size → wr.cell? ⟨blk, off + t, none⟩ = some (.int .u32 (G t)) := fun t ht => by rw [HG.out]; exact (hrow.holds t (by omega)).1
    have hfw : ∀ t, t < d.size → wr.frozen? ⟨blk, off + t, none⟩ = false := fun t ht => (hrow.holds t (by omega)).2
    clear hrow hS ht hgk
    go_upto_region 3 with fail
    go_cut [43] (fun s wq => s = .bool t ∧ Row w blk off D wq)
    case first =>
      by_cases hcc : i ≤ c
      · have hcz : ((i : Nat) : Int) ≤ ((c : Nat) : Int) := by omega
        go_big_quiet (first | (go_at_call 132; refine Calls.quiet_of_same (lessU _ _ _)))
        go_wp2_with fail
        go_meet
        case rel => exact ⟨by rw [HT.out]; simp [hcc], HR.out.drewN nq⟩
      · have hcz : decide (((i : Nat) : Int) ≤ ((c : Nat) : Int)) = false := decide_eq_false (by omega)
        go_big_quiet (first | (go_at_call 132; refine Calls.quiet_of_same (lessU _ _ _)))
        go_wp2_with fail
        go_meet
        case rel => exact ⟨by rw [HT.out]; simp [hcc], HR.out.drewN nq⟩
    case rest =>
      obtain ⟨hst, hrow⟩ := hcut
      subst hst
      clear hcw hfw HR
      have HR : Hid (Row w blk off D wc) := hrow
      clear hrow
      cases t with
      | true =>
        have htt : i ≤ c ∧ (ltInt D[i]! D[a]!) = true := by have := HT.out; simp only [HG.out] at this; exact and_true_of this
        have HTT : Hid _ := htt
        have hcc := htt.1
        clear htt
        go_wp2
        have htt := HTT.out
        have hgk := HGKN.out
        go_roundg (gk - 1)
        case measure => omega
        case rel => exact ⟨i + 1, by go_num, by omega, by omega, by omega, HR.out, by rw [← HS.out]; exact (up_go _ _ _ _ htt.1 htt.2).symm⟩
      | false =>
        have htt : ¬ i ≤ c ∨ (ltInt D[i]! D[a]!) = false := by have := HT.out; simp only [HG.out] at this; exact and_false_of this
        have HE : Hid (scanUp (fun x => ltInt x D[a]!) D c (a + 1) = i) := HS.out.symm.trans (up_end _ _ _ _ htt)
        have HN1 : Hid (¬ i ≤ c ∨ (ltInt D[i]! D[a]!) = false) := htt
        clear htt HT HS
        go_wp2
        go_loopg [11] (c + 1) (fun g v wr => ∃ jj : Nat, v = .int .i64 jj ∧ jj ≤ c ∧ i ≤ jj + 1 ∧ g = jj + 1 ∧ Row w blk off D wr ∧ scanDown (fun x => !ltInt x D[a]!) D i jj = scanDown (fun x => !ltInt x D[a]!) D i (c))
        case atStart => exact ⟨c, by first | rfl | go_num, Nat.le_refl _, by omega, rfl, HR.out, rfl⟩
        case round =>
          clear HR
          obtain ⟨jj, rfl, hjj0, hjj1, hgk, hrow, hS⟩ := hrel
          have HGKN : Hid _ := hgk
          have HR : Hid (Row w blk off D wr) := hrow
          have HS : Hid _ := hS
          obtain ⟨t, ht⟩ : ∃ t, t = (decide (i ≤ jj) && !ltInt (G jj) (G a)) := ⟨_, rfl⟩
          have HT : Hid (t = (decide (i ≤ jj) && !ltInt (G jj) (G a))) := ht
          have hcw : ∀ t, t < d.size → wr.cell? ⟨blk, off + t, none⟩ = some (.int .u32 (G t)) := fun t ht => by rw [HG.out]; exact (hrow.holds t (by omega)).1
          have hfw : ∀ t, t < d.size → wr.frozen? ⟨blk, off + t, none⟩ = false := fun t ht => (hrow.holds t (by omega)).2
          clear hrow hS ht hgk
          go_upto_region 5 with fail
          go_cut [60] (fun s wq => s = .bool t ∧ Row w blk off D wq)
          case first =>
            by_cases hcc : i ≤ jj
            · have hcz : ((i : Nat) : Int) ≤ ((jj : Nat) : Int) := by omega
              go_big_quiet (first | (go_at_call 132; refine Calls.quiet_of_same (lessU _ _ _)))
              go_wp2_with fail
              go_meet
              case rel => exact ⟨by rw [HT.out]; simp [hcc], HR.out.drewN nq⟩
            · have hcz : decide (((i : Nat) : Int) ≤ ((jj : Nat) : Int)) = false := decide_eq_false (by omega)
              go_big_quiet (first | (go_at_call 132; refine Calls.quiet_of_same (lessU _ _ _)))
              go_wp2_with fail
              go_meet
              case rel => exact ⟨by rw [HT.out]; simp [hcc], HR.out.drewN nq⟩
          case rest =>
            obtain ⟨hst, hrow⟩ := hcut
            subst hst
            clear hcw hfw HR
            have HR : Hid (Row w blk off D wc) := hrow
            clear hrow
            cases t with
            | true =>
              have htt : i ≤ jj ∧ (!ltInt D[jj]! D[a]!) = true := by have := HT.out; simp only [HG.out] at this; exact and_true_of this
              have HTT : Hid _ := htt
              have hcc := htt.1
              clear htt
              go_wp2
              have htt := HTT.out
              have hgk := HGKN.out
              go_roundg (gk - 1)
              case measure => omega
              case rel => exact ⟨jj - 1, by congr 1; omega, by omega, by omega, by omega, HR.out, by rw [← HS.out]; exact (down_go _ _ _ _ htt.1 (by omega) htt.2).symm⟩
            | false =>
              have htt : ¬ i ≤ jj ∨ (!ltInt D[jj]! D[a]!) = false := by have := HT.out; simp only [HG.out] at this; exact and_false_of this
              have HE2 : Hid (scanDown (fun x => !ltInt x D[a]!) D i (c) = jj) := HS.out.symm.trans (down_end _ _ _ _ htt)
              have HN2 : Hid (¬ i ≤ jj ∨ (!ltInt D[jj]! D[a]!) = false) := htt
              clear htt HT HS
              by_cases hgt : jj < i
              · go_wp2
                rcases Nat.eq_or_lt_of_le (show a ≤ jj by omega) with hee | hee
                · subst hee
                  have hcw : ∀ t, t < d.size → wc.cell? ⟨blk, off + t, none⟩ = some (.int .u32 (G t)) := fun t ht => by rw [HG.out]; exact (HR.out.holds t (by omega)).1
                  have hfw : ∀ t, t < d.size → wc.frozen? ⟨blk, off + t, none⟩ = false := fun t ht => (HR.out.holds t (by omega)).2
                  have hxd : a < d.size := by omega
                  have hyd : a < d.size := by omega
                  have hsw := (HR.out.drewN 1).swap (i := a) (j := a) (by omega) (by omega)
                  rw [← HG.out] at hsw
                  have HSW : Hid _ := hsw
                  clear hsw
                  go_region
                  all_goals go_wp2
                  refine bodyPost_ret (v := .tuple #[.int .i64 ((a : Nat) : Int), .bool true]) ?_ rfl ⟨a, true, _, rfl, HSW.out, ?_⟩
                  · simp [results, Tryz.results134, go_sem]
                  · exact part_first HD1.out (by rw [← HCB.out]; exact HE.out) (by rw [← HCB.out]; exact HE2.out) hgt
                · have hne : a < jj := hee
                  have hcw : ∀ t, t < d.size → wc.cell? ⟨blk, off + t, none⟩ = some (.int .u32 (G t)) := fun t ht => by rw [HG.out]; exact (HR.out.holds t (by omega)).1
                  have hfw : ∀ t, t < d.size → wc.frozen? ⟨blk, off + t, none⟩ = false := fun t ht => (HR.out.holds t (by omega)).2
                  have hxd : jj < d.size := by omega
                  have hyd : a < d.size := by omega
                  have hsw := (HR.out.drewN 1).swap (i := jj) (j := a) (by omega) (by omega)
                  rw [← HG.out, ← HG.out] at hsw
                  have HSW : Hid _ := hsw
                  clear hsw
                  go_region
                  all_goals go_wp2
                  refine bodyPost_ret (v := .tuple #[.int .i64 ((jj : Nat) : Int), .bool true]) ?_ rfl ⟨jj, true, _, rfl, HSW.out, ?_⟩
                  · simp [results, Tryz.results134, go_sem]
                  · exact part_first HD1.out (by rw [← HCB.out]; exact HE.out) (by rw [← HCB.out]; exact HE2.out) hgt
              · have hlt : i < jj := part_lt (p := fun x => ltInt x D[a]!) HN1.out HN2.out (by omega) (by omega)
                clear hgt
                go_wp2
                have hcw : ∀ t, t < d.size → wc.cell? ⟨blk, off + t, none⟩ = some (.int .u32 (G t)) := fun t ht => by rw [HG.out]; exact (HR.out.holds t (by omega)).1
                have hfw : ∀ t, t < d.size → wc.frozen? ⟨blk, off + t, none⟩ = false := fun t ht => (HR.out.holds t (by omega)).2
                have hxd : i < d.size := by omega
                have hyd : jj < d.size := by omega
                have hsw := (HR.out.drewN 1).swap (i := i) (j := jj) (by omega) (by omega)
                rw [← HG.out, ← HG.out] at hsw
                have HSW : Hid _ := hsw
                clear hsw
                go_region
                all_goals go_wp2
                obtain ⟨i5, hi5⟩ : ∃ i5 : Nat, i5 = i := ⟨_, rfl⟩
                obtain ⟨j5, hj5⟩ : ∃ j5 : Nat, j5 = jj := ⟨_, rfl⟩
                have HE0 : Hid _ := HE
                have HF0 : Hid _ := HE2
                have hlt0 : ¬ i > jj := by omega
                have hsD : (swp D i jj).size = d.size := by rw [size_swp]; exact hs1
                clear HE HE2 HN1 HN2 HR hcw hfw hi5 hj5
                go_loopg [10, 11] (jj - i) (fun g v u wr => ∃ (i9 j9 : Nat) (dk : Array Int), v = .int .i64 i9 ∧ u = .int .i64 j9 ∧ a < i9 ∧ i9 ≤ j9 + 1 ∧ j9 < b ∧ dk.size = d.size ∧ g = j9 + 2 - i9 ∧ Row w blk off dk wr ∧ partLoop ltInt a (i + 1) (jj - 1) (swp D i jj) = partLoop ltInt a i9 j9 dk)
                case atStart => exact ⟨i + 1, jj - 1, swp D i jj, by go_num, by congr 1; omega, by omega, by omega, by omega, hsD, by omega, HSW.out, rfl⟩
                case round =>
                  clear HSW
                  obtain ⟨i9, j9, dk, rfl, rfl, hi91, hi92, hj9, hsk, hgk3, hrow, hPL⟩ := hrel
                  obtain ⟨gk3, hgk3e⟩ : ∃ gk3, gk3 = gk := ⟨_, rfl⟩
                  have HGK3 : Hid (gk3 = j9 + 2 - i9) := hgk3e.trans hgk3
                  have HG3 : Hid (gk3 = gk) := hgk3e
                  have HPL : Hid (partLoop ltInt a (i + 1) (jj - 1) (swp D i jj) = partLoop ltInt a i9 j9 dk) := hPL
                  have HR : Hid (Row w blk off dk wr) := hrow
                  obtain ⟨GK, hGK⟩ : ∃ GK : Nat → Int, ∀ t, GK t = dk[t]! := ⟨fun t => dk[t]!, fun _ => rfl⟩
                  have HGK : Hid (∀ t, GK t = dk[t]!) := hGK
                  clear hgk3 hgk3e hrow hPL hGK
                  go_wp2
                  go_loopg [10] (j9 + 2 - (i9)) (fun g v wr => ∃ i : Nat, v = .int .i64 i ∧ i9 ≤ i ∧ i ≤ j9 + 1 ∧ g = j9 + 2 - i ∧ Row w blk off dk wr ∧ scanUp (fun x => ltInt x dk[a]!) dk j9 i = scanUp (fun x => ltInt x dk[a]!) dk j9 (i9))
                  case atStart => exact ⟨i9, by first | rfl | go_num, Nat.le_refl _, by omega, rfl, HR.out, rfl⟩
                  case round =>
                    clear HR
                    obtain ⟨i, rfl, hi0, hi1, hgk, hrow, hS⟩ := hrel
                    have HGKN : Hid _ := hgk
                    have HR : Hid (Row w blk off dk wr) := hrow
                    have HS : Hid _ := hS
                    obtain ⟨t, ht⟩ : ∃ t, t = (decide (i ≤ j9) && ltInt (GK i) (GK a)) := ⟨_, rfl⟩
                    have HT : Hid (t = (decide (i ≤ j9) && ltInt (GK i) (GK a))) := ht
                    have hcw : ∀ t, t < d.size → wr.cell? ⟨blk, off + t, none⟩ = some (.int .u32 (GK t)) := fun t ht => by rw [HGK.out]; exact (hrow.holds t (by omega)).1
                    have hfw : ∀ t, t < d.size → wr.frozen? ⟨blk, off + t, none⟩ = false := fun t ht => (hrow.holds t (by omega)).2
                    clear hrow hS ht hgk
                    go_upto_region 13 with fail
                    go_cut [112] (fun s wq => s = .bool t ∧ Row w blk off dk wq)
                    case first =>
                      by_cases hcc : i ≤ j9
                      · have hcz : ((i : Nat) : Int) ≤ ((j9 : Nat) : Int) := by omega
                        go_big_quiet (first | (go_at_call 132; refine Calls.quiet_of_same (lessU _ _ _)))
                        go_wp2_with fail
                        go_meet
                        case rel => exact ⟨by rw [HT.out]; simp [hcc], HR.out.drewN nq⟩
                      · have hcz : decide (((i : Nat) : Int) ≤ ((j9 : Nat) : Int)) = false := decide_eq_false (by omega)
                        go_big_quiet (first | (go_at_call 132; refine Calls.quiet_of_same (lessU _ _ _)))
                        go_wp2_with fail
                        go_meet
                        case rel => exact ⟨by rw [HT.out]; simp [hcc], HR.out.drewN nq⟩
                    case rest =>
                      obtain ⟨hst, hrow⟩ := hcut
                      subst hst
                      clear hcw hfw HR
                      have HR : Hid (Row w blk off dk wc) := hrow
                      clear hrow
                      cases t with
                      | true =>
                        have htt : i ≤ j9 ∧ (ltInt dk[i]! dk[a]!) = true := by have := HT.out; simp only [HGK.out] at this; exact and_true_of this
                        have HTT : Hid _ := htt
                        have hcc := htt.1
                        clear htt
                        go_wp2
                        have htt := HTT.out
                        have hgk := HGKN.out
                        go_roundg (gk - 1)
                        case measure => omega
                        case rel => exact ⟨i + 1, by go_num, by omega, by omega, by omega, HR.out, by rw [← HS.out]; exact (up_go _ _ _ _ htt.1 htt.2).symm⟩
                      | false =>
                        have htt : ¬ i ≤ j9 ∨ (ltInt dk[i]! dk[a]!) = false := by have := HT.out; simp only [HGK.out] at this; exact and_false_of this
                        have HE : Hid (scanUp (fun x => ltInt x dk[a]!) dk j9 (i9) = i) := HS.out.symm.trans (up_end _ _ _ _ htt)
                        have HN1 : Hid (¬ i ≤ j9 ∨ (ltInt dk[i]! dk[a]!) = false) := htt
                        clear htt HT HS
                        go_wp2
                        go_loopg [11] (j9 + 1) (fun g v wr => ∃ jj : Nat, v = .int .i64 jj ∧ jj ≤ j9 ∧ i ≤ jj + 1 ∧ g = jj + 1 ∧ Row w blk off dk wr ∧ scanDown (fun x => !ltInt x dk[a]!) dk i jj = scanDown (fun x => !ltInt x dk[a]!) dk i (j9))
                        case atStart => exact ⟨j9, by first | rfl | go_num, Nat.le_refl _, by omega, rfl, HR.out, rfl⟩
                        case round =>
                          clear HR
                          obtain ⟨jj, rfl, hjj0, hjj1, hgk, hrow, hS⟩ := hrel
                          have HGKN : Hid _ := hgk
                          have HR : Hid (Row w blk off dk wr) := hrow
                          have HS : Hid _ := hS
                          obtain ⟨t, ht⟩ : ∃ t, t = (decide (i ≤ jj) && !ltInt (GK jj) (GK a)) := ⟨_, rfl⟩
                          have HT : Hid (t = (decide (i ≤ jj) && !ltInt (GK jj) (GK a))) := ht
                          have hcw : ∀ t, t < d.size → wr.cell? ⟨blk, off + t, none⟩ = some (.int .u32 (GK t)) := fun t ht => by rw [HGK.out]; exact (hrow.holds t (by omega)).1
                          have hfw : ∀ t, t < d.size → wr.frozen? ⟨blk, off + t, none⟩ = false := fun t ht => (hrow.holds t (by omega)).2
                          clear hrow hS ht hgk
                          go_upto_region 15 with fail
                          go_cut [129] (fun s wq => s = .bool t ∧ Row w blk off dk wq)
                          case first =>
                            by_cases hcc : i ≤ jj
                            · have hcz : ((i : Nat) : Int) ≤ ((jj : Nat) : Int) := by omega
                              go_big_quiet (first | (go_at_call 132; refine Calls.quiet_of_same (lessU _ _ _)))
                              go_wp2_with fail
                              go_meet
                              case rel => exact ⟨by rw [HT.out]; simp [hcc], HR.out.drewN nq⟩
                            · have hcz : decide (((i : Nat) : Int) ≤ ((jj : Nat) : Int)) = false := decide_eq_false (by omega)
                              go_big_quiet (first | (go_at_call 132; refine Calls.quiet_of_same (lessU _ _ _)))
                              go_wp2_with fail
                              go_meet
                              case rel => exact ⟨by rw [HT.out]; simp [hcc], HR.out.drewN nq⟩
                          case rest =>
                            obtain ⟨hst, hrow⟩ := hcut
                            subst hst
                            clear hcw hfw HR
                            have HR : Hid (Row w blk off dk wc) := hrow
                            clear hrow
                            cases t with
                            | true =>
                              have htt : i ≤ jj ∧ (!ltInt dk[jj]! dk[a]!) = true := by have := HT.out; simp only [HGK.out] at this; exact and_true_of this
                              have HTT : Hid _ := htt
                              have hcc := htt.1
                              clear htt
                              go_wp2
                              have htt := HTT.out
                              have hgk := HGKN.out
                              go_roundg (gk - 1)
                              case measure => omega
                              case rel => exact ⟨jj - 1, by congr 1; omega, by omega, by omega, by omega, HR.out, by rw [← HS.out]; exact (down_go _ _ _ _ htt.1 (by omega) htt.2).symm⟩
                            | false =>
                              have htt : ¬ i ≤ jj ∨ (!ltInt dk[jj]! dk[a]!) = false := by have := HT.out; simp only [HGK.out] at this; exact and_false_of this
                              have HE2 : Hid (scanDown (fun x => !ltInt x dk[a]!) dk i (j9) = jj) := HS.out.symm.trans (down_end _ _ _ _ htt)
                              have HN2 : Hid (¬ i ≤ jj ∨ (!ltInt dk[jj]! dk[a]!) = false) := htt
                              clear htt HT HS
                              by_cases hgt : jj < i
                              · go_wp2
                                rcases Nat.eq_or_lt_of_le (show a ≤ jj by omega) with hee | hee
                                · subst hee
                                  have hcw : ∀ t, t < d.size → wc.cell? ⟨blk, off + t, none⟩ = some (.int .u32 (GK t)) := fun t ht => by rw [HGK.out]; exact (HR.out.holds t (by omega)).1
                                  have hfw : ∀ t, t < d.size → wc.frozen? ⟨blk, off + t, none⟩ = false := fun t ht => (HR.out.holds t (by omega)).2
                                  have hxd : a < d.size := by omega
                                  have hyd : a < d.size := by omega
                                  have hsw := (HR.out.drewN 1).swap (i := a) (j := a) (by omega) (by omega)
                                  rw [← HGK.out] at hsw
                                  have HSW : Hid _ := hsw
                                  clear hsw
                                  go_region
                                  all_goals go_wp2
                                  refine bodyPost_ret (v := .tuple #[.int .i64 ((a : Nat) : Int), .bool false]) ?_ rfl ⟨a, false, _, rfl, HSW.out, ?_⟩
                                  · simp [results, Tryz.results134, go_sem]
                                  · exact part_last HD1.out (by rw [← HCB.out]; exact HE0.out) (by rw [← HCB.out]; exact HF0.out) hlt0 (HPL.out.trans (loop_break HE.out HE2.out hgt))
                                · have hne : a < jj := hee
                                  have hcw : ∀ t, t < d.size → wc.cell? ⟨blk, off + t, none⟩ = some (.int .u32 (GK t)) := fun t ht => by rw [HGK.out]; exact (HR.out.holds t (by omega)).1
                                  have hfw : ∀ t, t < d.size → wc.frozen? ⟨blk, off + t, none⟩ = false := fun t ht => (HR.out.holds t (by omega)).2
                                  have hxd : jj < d.size := by omega
                                  have hyd : a < d.size := by omega
                                  have hsw := (HR.out.drewN 1).swap (i := jj) (j := a) (by omega) (by omega)
                                  rw [← HGK.out, ← HGK.out] at hsw
                                  have HSW : Hid _ := hsw
                                  clear hsw
                                  go_region
                                  all_goals go_wp2
                                  refine bodyPost_ret (v := .tuple #[.int .i64 ((jj : Nat) : Int), .bool false]) ?_ rfl ⟨jj, false, _, rfl, HSW.out, ?_⟩
                                  · simp [results, Tryz.results134, go_sem]
                                  · exact part_last HD1.out (by rw [← HCB.out]; exact HE0.out) (by rw [← HCB.out]; exact HF0.out) hlt0 (HPL.out.trans (loop_break HE.out HE2.out hgt))
                              · have hlt : i < jj := part_lt (p := fun x => ltInt x dk[a]!) HN1.out HN2.out (by omega) (by omega)
                                clear hgt
                                go_wp2
                                have hcw : ∀ t, t < d.size → wc.cell? ⟨blk, off + t, none⟩ = some (.int .u32 (GK t)) := fun t ht => by rw [HGK.out]; exact (HR.out.holds t (by omega)).1
                                have hfw : ∀ t, t < d.size → wc.frozen? ⟨blk, off + t, none⟩ = false := fun t ht => (HR.out.holds t (by omega)).2
                                have hxd : i < d.size := by omega
                                have hyd : jj < d.size := by omega
                                have hsw := (HR.out.drewN 1).swap (i := i) (j := jj) (by omega) (by omega)
                                rw [← HGK.out, ← HGK.out] at hsw
                                have HSW : Hid _ := hsw
                                clear hsw
                                go_region
                                all_goals go_wp2
                                have hgk3 := HGK3.out
                                have hg3 := HG3.out
                                go_roundg (jj - i)
                                case measure => omega
                                case rel => exact ⟨i + 1, jj - 1, swp dk i jj, by go_num, by congr 1; omega, by omega, by omega, by omega, by rw [size_swp]; exact hsk, by omega, HSW.out, HPL.out.trans (loop_go HE.out HE2.out (by omega))⟩

end Go.Proofs.YtcmnmogmdhofcabGreat.sortu

/- Rows of numbers of 32 bits that are sorted in place: the partition of equal ones (slices.partitionEqualOrdered). -/
namespace Go.Proofs.YtcmnmogmdhofcabGreat.sortu
open Go.RowKit Go.Sort
set_option linter.unusedVariables false
set_option maxRecDepth 100000

set_option maxHeartbeats 16000000 in
theorem partEqU (blk off cap a b pivot : Nat) (d : Array Int) (w : World) (hH : Holds encU w blk off d) (hap : a < pivot) (hpb : pivot < b) (hb : b ≤ d.size) (hsz : d.size < 50) :
    Calls Tryz.prog 133 #[.slice (some ⟨blk, off, none⟩) d.size cap, .int .i64 a, .int .i64 b, .int .i64 pivot] w fun e w' => ∃ mid d', e = .returned (.int .i64 ((mid : Nat) : Int)) ∧ Row w blk off d' w' ∧ Sort.partitionEqual ltInt d a b pivot = (mid, d') := by
  obtain ⟨c, hc⟩ : ∃ c : Nat, (b : Int) - 1 = c := ⟨b - 1, by omega⟩
  have hcb : c + 1 = b := by omega
  have HCB : Hid (c = b - 1) := by show c = b - 1; omega
  have HR0 : Hid (Row w blk off d w) := Row.start hH
  obtain ⟨G0, hG⟩ : ∃ G0 : Nat → Int, ∀ t, G0 t = d[t]! := ⟨fun t => d[t]!, fun _ => rfl⟩
  have hcw : ∀ t, t < d.size → w.cell? ⟨blk, off + t, none⟩ = some (.int .u32 (G0 t)) := fun t ht => by rw [hG]; exact (hH t ht).1
  have hfw : ∀ t, t < d.size → w.frozen? ⟨blk, off + t, none⟩ = false := fun t ht => (hH t ht).2
  have hsw := (HR0.out.drewN 1).swap (i := a) (j := pivot) (by omega) (by omega)
  rw [← hG, ← hG] at hsw
  obtain ⟨D, hD⟩ : ∃ D, D = swp d a pivot := ⟨_, rfl⟩
  rw [← hD] at hsw
  have hs1 : D.size = d.size := by rw [hD, size_swp]
  have HD1 : Hid (D = swp d a pivot) := hD
  have HSW : Hid _ := hsw
  clear hsw hD hG hH HR0
  go_enter Tryz.func133, Tryz.ntmps133
  go_wp2
  go_region
  all_goals go_wp2
  have HR : Hid _ := HSW
  clear hcw hfw HSW
  obtain ⟨G, hG⟩ : ∃ G : Nat → Int, ∀ t, G t = D[t]! := ⟨fun t => D[t]!, fun _ => rfl⟩
  have HG : Hid (∀ t, G t = D[t]!) := hG
  clear hG
  go_loopg [9, 10] (c + 1 - a) (fun g v u wr => ∃ (i9 j9 : Nat) (dk : Array Int), v = .int .i64 i9 ∧ u = .int .i64 j9 ∧ a < i9 ∧ i9 ≤ j9 + 1 ∧ j9 < b ∧ dk.size = d.size ∧ g = j9 + 2 - i9 ∧ Row w blk off dk wr ∧ partEqLoop ltInt a (a + 1) c D = partEqLoop ltInt a i9 j9 dk)
  case atStart => exact ⟨a + 1, c, D, by go_num, rfl, by omega, by omega, by omega, hs1, by omega, HR.out, rfl⟩
  case round =>
    clear HR
    obtain ⟨i9, j9, dk, rfl, rfl, hi91, hi92, hj9, hsk, hgk3, hrow, hPL⟩ := hrel
    obtain ⟨gk3, hgk3e⟩ : ∃ gk3, gk3 = gk := ⟨_, rfl⟩
    have HGK3 : Hid (gk3 = j9 + 2 - i9) := hgk3e.trans hgk3
    have HG3 : Hid (gk3 = gk) := hgk3e
    have HPL : Hid (partEqLoop ltInt a (a + 1) c D = partEqLoop ltInt a i9 j9 dk) := hPL
    have HR : Hid (Row w blk off dk wr) := hrow
    obtain ⟨GK, hGK⟩ : ∃ GK : Nat → Int, ∀ t, GK t = dk[t]! := ⟨fun t => dk[t]!, fun _ => rfl⟩
    have HGK : Hid (∀ t, GK t = dk[t]!) := hGK
    clear hgk3 hgk3e hrow hPL hGK
    go_wp2
    go_loopg [9] (j9 + 2 - (i9)) (fun g v wr => ∃ i : Nat, v = .int .i64 i ∧ i9 ≤ i ∧ i ≤ j9 + 1 ∧ g = j9 + 2 - i ∧ Row w blk off dk wr ∧ scanUp (fun x => !ltInt dk[a]! x) dk j9 i = scanUp (fun x => !ltInt dk[a]! x) dk j9 (i9))
    case atStart => exact ⟨i9, by first | rfl | go_num, Nat.le_refl _, by omega, rfl, HR.out, rfl⟩
    case round =>
      clear HR
      obtain ⟨i, rfl, hi0, hi1, hgk, hrow, hS⟩ := hrel
      have HGKN : Hid _ := hgk
      have HR : Hid (Row w blk off dk wr) := hrow
      have HS : Hid _ := hS
      obtain ⟨t, ht⟩ : ∃ t, t = (decide (i ≤ j9) && !ltInt (GK a) (GK i)) := ⟨_, rfl⟩
      have HT : Hid (t = (decide (i ≤ j9) && !ltInt (GK a) (GK i))) := ht
      have hcw : ∀ t, t < d.size → wr.cell? ⟨blk, off + t, none⟩ = some (.int .u32 (GK t)) := fun t ht => by rw [HGK.out]; exact (hrow.holds t (by omega)).1
      have hfw : ∀ t, t < d.size → wr.frozen? ⟨blk, off + t, none⟩ = false := fun t ht => (hrow.holds t (by omega)).2
      clear hrow hS ht hgk
      go_upto_region 3 with fail
      go_cut [43] (fun s wq => s = .bool t ∧ Row w blk off dk wq)
      case first =>
        by_cases hcc : i ≤ j9
        · have hcz : ((i : Nat) : Int) ≤ ((j9 : Nat) : Int) := by omega
          go_big_quiet (first | (go_at_call 132; refine Calls.quiet_of_same (lessU _ _ _)))
          go_wp2_with fail
          go_meet
          case rel => exact ⟨by rw [HT.out]; simp [hcc], HR.out.drewN nq⟩
        · have hcz : decide (((i : Nat) : Int) ≤ ((j9 : Nat) : Int)) = false := decide_eq_false (by omega)
          go_big_quiet (first | (go_at_call 132; refine Calls.quiet_of_same (lessU _ _ _)))
          go_wp2_with fail
          go_meet
          case rel => exact ⟨by rw [HT.out]; simp [hcc], HR.out.drewN nq⟩
      case rest =>
        obtain ⟨hst, hrow⟩ := hcut
        subst hst
        clear hcw hfw HR
        have HR : Hid (Row w blk off dk wc) := hrow
        clear hrow
        cases t with
        | true =>
          have htt : i ≤ j9 ∧ (!ltInt dk[a]! dk[i]!) = true := by have := HT.out; simp only [HGK.out] at this; exact and_true_of this
          have HTT : Hid _ := htt
          have hcc := htt.1
          clear htt
          go_wp2
          have htt := HTT.out
          have hgk := HGKN.out
          go_roundg (gk - 1)
          case measure => omega
          case rel => exact ⟨i + 1, by go_num, by omega, by omega, by omega, HR.out, by rw [← HS.out]; exact (up_go _ _ _ _ htt.1 htt.2).symm⟩
        | false =>
          have htt : ¬ i ≤ j9 ∨ (!ltInt dk[a]! dk[i]!) = false := by have := HT.out; simp only [HGK.out] at this; exact and_false_of this
          have HE : Hid (scanUp (fun x => !ltInt dk[a]! x) dk j9 (i9) = i) := HS.out.symm.trans (up_end _ _ _ _ htt)
          have HN1 : Hid (¬ i ≤ j9 ∨ (!ltInt dk[a]! dk[i]!) = false) := htt
          clear htt HT HS
          go_wp2
          go_loopg [10] (j9 + 1) (fun g v wr => ∃ jj : Nat, v = .int .i64 jj ∧ jj ≤ j9 ∧ i ≤ jj + 1 ∧ g = jj + 1 ∧ Row w blk off dk wr ∧ scanDown (fun x => ltInt dk[a]! x) dk i jj = scanDown (fun x => ltInt dk[a]! x) dk i (j9))
          case atStart => exact ⟨j9, by first | rfl | go_num, Nat.le_refl _, by omega, rfl, HR.out, rfl⟩
          case round =>
            clear HR
            obtain ⟨jj, rfl, hjj0, hjj1, hgk, hrow, hS⟩ := hrel
            have HGKN : Hid _ := hgk
            have HR : Hid (Row w blk off dk wr) := hrow
            have HS : Hid _ := hS
            obtain ⟨t, ht⟩ : ∃ t, t = (decide (i ≤ jj) && ltInt (GK a) (GK jj)) := ⟨_, rfl⟩
            have HT : Hid (t = (decide (i ≤ jj) && ltInt (GK a) (GK jj))) := ht
            have hcw : ∀ t, t < d.size → wr.cell? ⟨blk, off + t, none⟩ = some (.int .u32 (GK t)) := fun t ht => by rw [HGK.out]; exact (hrow.holds t (by omega)).1
            have hfw : ∀ t, t < d.size → wr.frozen? ⟨blk, off + t, none⟩ = false := fun t ht => (hrow.holds t (by omega)).2
            clear hrow hS ht hgk
            go_upto_region 5 with fail
            go_cut [59] (fun s wq => s = .bool t ∧ Row w blk off dk wq)
            case first =>
              by_cases hcc : i ≤ jj
              · have hcz : ((i : Nat) : Int) ≤ ((jj : Nat) : Int) := by omega
                go_big_quiet (first | (go_at_call 132; refine Calls.quiet_of_same (lessU _ _ _)))
                go_wp2_with fail
                go_meet
                case rel => exact ⟨by rw [HT.out]; simp [hcc], HR.out.drewN nq⟩
              · have hcz : decide (((i : Nat) : Int) ≤ ((jj : Nat) : Int)) = false := decide_eq_false (by omega)
                go_big_quiet (first | (go_at_call 132; refine Calls.quiet_of_same (lessU _ _ _)))
                go_wp2_with fail
                go_meet
                case rel => exact ⟨by rw [HT.out]; simp [hcc], HR.out.drewN nq⟩
            case rest =>
              obtain ⟨hst, hrow⟩ := hcut
              subst hst
              clear hcw hfw HR
              have HR : Hid (Row w blk off dk wc) := hrow
              clear hrow
              cases t with
              | true =>
                have htt : i ≤ jj ∧ (ltInt dk[a]! dk[jj]!) = true := by have := HT.out; simp only [HGK.out] at this; exact and_true_of this
                have HTT : Hid _ := htt
                have hcc := htt.1
                clear htt
                go_wp2
                have htt := HTT.out
                have hgk := HGKN.out
                go_roundg (gk - 1)
                case measure => omega
                case rel => exact ⟨jj - 1, by congr 1; omega, by omega, by omega, by omega, HR.out, by rw [← HS.out]; exact (down_go _ _ _ _ htt.1 (by omega) htt.2).symm⟩
              | false =>
                have htt : ¬ i ≤ jj ∨ (ltInt dk[a]! dk[jj]!) = false := by have := HT.out; simp only [HGK.out] at this; exact and_false_of this
                have HE2 : Hid (scanDown (fun x => ltInt dk[a]! x) dk i (j9) = jj) := HS.out.symm.trans (down_end _ _ _ _ htt)
                have HN2 : Hid (¬ i ≤ jj ∨ (ltInt dk[a]! dk[jj]!) = false) := htt
                clear htt HT HS
                by_cases hgt : jj < i
                · go_wp2
                  go_ret
                  refine ⟨i, dk, rfl, HR.out, ?_⟩
                  unfold Sort.partitionEqual
                  rw [← HD1.out, ← HCB.out]
                  exact HPL.out.trans (loopE_break HE.out HE2.out hgt)
                · have hlt : i < jj := partE_lt (p := fun x => ltInt dk[a]! x) HN1.out HN2.out (by omega) (by omega)
                  clear hgt
                  go_wp2
                  have hcw : ∀ t, t < d.size → wc.cell? ⟨blk, off + t, none⟩ = some (.int .u32 (GK t)) := fun t ht => by rw [HGK.out]; exact (HR.out.holds t (by omega)).1
                  have hfw : ∀ t, t < d.size → wc.frozen? ⟨blk, off + t, none⟩ = false := fun t ht => (HR.out.holds t (by omega)).2
                  have hxd : i < d.size := by omega
                  have hyd : jj < d.size := by omega
                  have hsw := (HR.out.drewN 1).swap (i := i) (j := jj) (by omega) (by omega)
                  rw [← HGK.out, ← HGK.out] at hsw
                  have HSW : Hid _ := hsw
                  clear hsw
                  go_region
                  all_goals go_wp2
                  have hgk3 := HGK3.out
                  have hg3 := HG3.out
                  go_roundg (jj - i)
                  case measure => omega
                  case rel => exact ⟨i + 1, jj - 1, swp dk i jj, by go_num, by congr 1; omega, by omega, by omega, by omega, by rw [size_swp]; exact hsk, by omega, HSW.out, HPL.out.trans (loopE_go HE.out HE2.out (by omega))⟩

end Go.Proofs.YtcmnmogmdhofcabGreat.sortu

/- Rows of numbers of 32 bits that are sorted in place: where the pivot is (slices.choosePivotOrdered); rows that are sorted already (partialInsertionSortOrdered). -/
namespace Go.Proofs.YtcmnmogmdhofcabGreat.sortu
open Go.RowKit Go.Sort
set_option linter.unusedVariables false
set_option maxRecDepth 100000

structure Cnt (w0 : World) (blk off sb : Nat) (d : Array Int) (s : Nat) (w : World) : Prop where
  holds : Holds encU w blk off d
  cell : w.cell? ⟨sb, 0, none⟩ = some (.int .i64 s)
  fr : w.frozen? ⟨sb, 0, none⟩ = false
  grown : w0.grownBy w (some sb)

theorem Cnt.drewN {w0 w : World} {blk off sb : Nat} {d : Array Int} {s : Nat} (h : Cnt w0 blk off sb d s w) (q : Nat) : Cnt w0 blk off sb d s (w.drewN q) := ⟨h.holds, h.cell, h.fr, ⟨h.grown.os, h.grown.tape, h.grown.output, h.grown.size, h.grown.block⟩⟩
theorem Cnt.set {w0 w : World} {blk off sb : Nat} {d : Array Int} {s : Nat} (h : Cnt w0 blk off sb d s w) (hne : sb ≠ blk) (t : Nat) : Cnt w0 blk off sb d t (w.setCell ⟨sb, 0, none⟩ (.int .i64 t)) := by
  have hc := h.cell
  refine ⟨fun j hj => ?_, by simp [go_sem, hc], by have := h.fr; simpa [go_sem] using this, ⟨h.grown.os, h.grown.tape, h.grown.output, by simpa [World.setCell] using h.grown.size, fun k hk hne2 => ?_⟩⟩
  · obtain ⟨h1, h2⟩ := h.holds j hj
    refine ⟨?_, by simpa [go_sem] using h2⟩
    rw [World.cell?_of_block (w := w)]
    · exact h1
    · exact Below.heap_setCell _ _ _ _ (by intro e; exact hne e.symm)
  · rw [Below.heap_setCell _ _ _ _ (by intro e; exact hne2 (by rw [e]))]
    exact h.grown.block k hk hne2
theorem Cnt.trans {w0 w1 w2 : World} {blk off sb : Nat} {d : Array Int} {s s' : Nat} (h : Cnt w0 blk off sb d s w1) (h' : Cnt w1 blk off sb d s' w2) : Cnt w0 blk off sb d s' w2 := ⟨h'.holds, h'.cell, h'.fr, h.grown.andThen h'.grown (fun j hj => Or.inr hj)⟩

set_option maxHeartbeats 4000000 in
theorem order2U (blk off cap sb a b s : Nat) (d : Array Int) (w : World) (h : Cnt w blk off sb d s w) (hne : sb ≠ blk) (ha : a < d.size) (hb : b < d.size) (hsz : d.size < 50) (hs : s < 50) :
    Calls Tryz.prog 159 #[.slice (some ⟨blk, off, none⟩) d.size cap, .int .i64 a, .int .i64 b, .pointer (some ⟨sb, 0, none⟩)] w fun e w' =>
      ∃ x y s' : Nat, e = .returned (.tuple #[.int .i64 x, .int .i64 y]) ∧ ((x = a ∧ y = b) ∨ (x = b ∧ y = a)) ∧ s' ≤ s + 1 ∧ Cnt w blk off sb d s' w' := by
  obtain ⟨G, hG⟩ : ∃ G : Nat → Int, ∀ t, G t = d[t]! := ⟨fun t => d[t]!, fun _ => rfl⟩
  have hcw : ∀ t, t < d.size → w.cell? ⟨blk, off + t, none⟩ = some (.int .u32 (G t)) := fun t ht => by rw [hG]; exact (h.holds t ht).1
  have hc := h.cell
  have hf := h.fr
  have HC : Hid (Cnt w blk off sb d s w) := h
  have hnb : blk ≠ sb := Ne.symm hne
  clear h hG
  go_enter Tryz.func159, Tryz.ntmps159
  go_wp2
  go_quiet (first | (go_at_call 132; refine Calls.quiet_of_same (lessU _ _ _)))
  go_wp2
  · refine bodyPost_ret (v := .tuple #[.int .i64 (b : Nat), .int .i64 (a : Nat)]) ?_ rfl ⟨b, a, s + 1, rfl, Or.inr ⟨rfl, rfl⟩, Nat.le_refl _, ?_⟩
    · simp [results, Tryz.results159, go_sem]
    · have := (HC.out.drewN nq).set hne (s + 1)
      simpa using this
  · refine bodyPost_ret (v := .tuple #[.int .i64 (a : Nat), .int .i64 (b : Nat)]) ?_ rfl ⟨a, b, s, rfl, Or.inl ⟨rfl, rfl⟩, by omega, HC.out.drewN nq⟩
    simp [results, Tryz.results159, go_sem]

theorem Cnt.here {w0 w : World} {blk off sb : Nat} {d : Array Int} {s : Nat} (h : Cnt w0 blk off sb d s w) : Cnt w blk off sb d s w := ⟨h.holds, h.cell, h.fr, ⟨rfl, rfl, rfl, Nat.le_refl _, fun _ _ _ => rfl⟩⟩

set_option maxHeartbeats 4000000 in
theorem medianU (blk off cap sb a b c s : Nat) (d : Array Int) (w : World) (h : Cnt w blk off sb d s w) (hne : sb ≠ blk) (ha : a < d.size) (hb : b < d.size) (hc : c < d.size) (hsz : d.size < 50) (hs : s < 20) :
    Calls Tryz.prog 152 #[.slice (some ⟨blk, off, none⟩) d.size cap, .int .i64 a, .int .i64 b, .int .i64 c, .pointer (some ⟨sb, 0, none⟩)] w fun e w' =>
      ∃ m s' : Nat, e = .returned (.int .i64 m) ∧ (m = a ∨ m = b ∨ m = c) ∧ s' ≤ s + 3 ∧ Cnt w blk off sb d s' w' := by
  have HC : Hid (Cnt w blk off sb d s w) := h
  clear h
  go_enter Tryz.func152, Tryz.ntmps152
  go_wp2_with fail
  go_at_call 159
  refine (order2U blk off cap sb a b s d _ HC.out hne ha hb hsz (by omega)).mono ?_
  rintro e w1 ⟨x1, y1, s1, rfl, hxy1, hs1, hc1⟩
  have HC1 : Hid (Cnt w blk off sb d s1 w1) := hc1
  have HX1 : Hid _ := hxy1
  have lx1 : x1 < d.size := by omega
  have ly1 : y1 < d.size := by omega
  clear hc1 hxy1
  go_wp2_with fail
  go_at_call 159
  refine (order2U blk off cap sb y1 c s1 d _ HC1.out.here hne ly1 hc hsz (by omega)).mono ?_
  rintro e w2 ⟨x2, y2, s2, rfl, hxy2, hs2, hc2⟩
  have HC2 : Hid (Cnt w blk off sb d s2 w2) := HC1.out.trans hc2
  have HX2 : Hid _ := hxy2
  have lx2 : x2 < d.size := by omega
  clear hc2 hxy2
  go_wp2_with fail
  go_at_call 159
  refine (order2U blk off cap sb x1 x2 s2 d _ HC2.out.here hne lx1 lx2 hsz (by omega)).mono ?_
  rintro e w3 ⟨x3, y3, s3, rfl, hxy3, hs3, hc3⟩
  have HC3 : Hid (Cnt w blk off sb d s3 w3) := HC2.out.trans hc3
  have HX3 : Hid _ := hxy3
  clear hc3 hxy3
  go_wp2_with fail
  go_ret
  have h1 := HX1.out
  have h2 := HX2.out
  have h3 := HX3.out
  exact ⟨y3, s3, rfl, by omega, by omega, HC3.out⟩

set_option maxHeartbeats 4000000 in
theorem pivotU (blk off cap a b : Nat) (d : Array Int) (w : World) (hH : Holds encU w blk off d) (hlt : blk < w.heap.size) (hab : a + 12 < b) (hb : b ≤ d.size) (hsz : d.size < 50) :
    Calls Tryz.prog 129 #[.slice (some ⟨blk, off, none⟩) d.size cap, .int .i64 a, .int .i64 b] w fun e w' =>
      ∃ p h : Nat, e = .returned (.tuple #[.int .i64 p, .int .i64 h]) ∧ h < 3 ∧ a + 3 ≤ p ∧ p + 3 < b ∧ Row w blk off d w' := by
  obtain ⟨L, hL, hLb⟩ : ∃ L : Nat, (b : Int) - (a : Int) = L ∧ L = b - a := ⟨b - a, by omega, rfl⟩
  obtain ⟨q, hq, hqb⟩ : ∃ q : Nat, (L : Int).tdiv 4 = q ∧ q = L / 4 := ⟨L / 4, by rw [Int.tdiv_eq_ediv_of_nonneg (by omega)]; omega, rfl⟩
  have HQB : Hid (3 ≤ q ∧ 4 * q ≤ L ∧ L = b - a) := ⟨by omega, by omega, hLb⟩
  have hL8 : 8 ≤ L := by omega
  have hL50 : L < 50 := by omega
  have hq12 : q ≤ 12 := by omega
  have h1 : a + q < d.size := by omega
  have h2 : a + q * 2 < d.size := by omega
  have h3 : a + q * 3 < d.size := by omega
  have HHH : Hid (Holds encU w blk off d) := hH
  have hne : w.heap.size ≠ blk := by omega
  have HC0 : Hid (Cnt (w.alloc (.cells #[.int .i64 0] 3)) blk off w.heap.size d 0 (w.alloc (.cells #[.int .i64 0] 3))) := by
    refine ⟨fun j hj => ?_, by simp [go_sem], by simp [go_sem], ⟨rfl, rfl, rfl, Nat.le_refl _, fun _ _ _ => rfl⟩⟩
    have hb := (Below.refl w.heap.size w).alloc (Nat.le_refl _) (.cells #[.int .i64 0] 3)
    exact ⟨by rw [hb.cell (p := ⟨blk, off + j, none⟩) hlt]; exact (hH j hj).1, by rw [World.frozen?_of_block (w := w) (hb.block blk hlt)]; exact (hH j hj).2⟩
  clear hH hLb hqb
  go_enter Tryz.func129, Tryz.ntmps129
  go_wp2_with fail
  go_at_call 152
  refine (medianU blk off cap w.heap.size (a + q) (a + q * 2) (a + q * 3) 0 d _ HC0.out hne h1 h2 h3 hsz (by omega)).mono ?_
  rintro e w1 ⟨m, s1, rfl, hm, hs1, hc1⟩
  have hcl := hc1.cell
  have HM : Hid (m = a + q ∨ m = a + q * 2 ∨ m = a + q * 3) := hm
  have HR : Hid (Row w blk off d w1) := ⟨hc1.holds, ⟨hc1.grown.os, hc1.grown.tape, hc1.grown.output, Nat.le_trans (by simp) hc1.grown.size, fun k hk hne2 => by
    rw [hc1.grown.block k (by simp; omega) (by simp; omega)]
    exact ((Below.refl w.heap.size w).alloc (Nat.le_refl _) _).block k hk⟩⟩
  have hs3 : (s1 : Int) ≤ 3 := by omega
  clear hc1 hm
  go_wp2_with fail
  all_goals
    have hm := HM.out
    have hqq := HQB.out
  · refine bodyPost_ret (v := .tuple #[.int .i64 (m : Nat), .int .i64 ((1 : Nat) : Int)]) ?_ rfl ⟨m, 1, rfl, by omega, by omega, by omega, HR.out⟩
    simp [results, Tryz.results129, go_sem]
  · refine bodyPost_ret (v := .tuple #[.int .i64 (m : Nat), .int .i64 ((0 : Nat) : Int)]) ?_ rfl ⟨m, 0, rfl, by omega, by omega, by omega, HR.out⟩
    simp [results, Tryz.results129, go_sem]

end Go.Proofs.YtcmnmogmdhofcabGreat.sortu

/- Rows of numbers of 32 bits that are sorted in place: rows that are sorted already (slices.partialInsertionSortOrdered); patterns that are broken (breakPatternsOrdered). -/
namespace Go.Proofs.YtcmnmogmdhofcabGreat.sortu
open Go.RowKit Go.Sort
set_option linter.unusedVariables false
set_option maxRecDepth 100000

set_option maxHeartbeats 4000000 in
theorem partialU (blk off cap a b : Nat) (d : Array Int) (w : World) (hH : Holds encU w blk off d) (hab : a < b) (hb : b ≤ d.size) (hsz : d.size < 50) :
    Calls Tryz.prog 131 #[.slice (some ⟨blk, off, none⟩) d.size cap, .int .i64 a, .int .i64 b] w fun e w' =>
      ∃ r, e = .returned (.bool r) ∧ (r = true → SortedIn ltInt a b d) ∧ Row w blk off d w' := by
  obtain ⟨G, hG⟩ : ∃ G : Nat → Int, ∀ t, G t = d[t]! := ⟨fun t => d[t]!, fun _ => rfl⟩
  have HG : Hid (∀ t, G t = d[t]!) := hG
  have HHH : Hid (Row w blk off d w) := Row.start hH
  have hlen : (b : Int) - (a : Int) < 50 := by omega
  clear hH hG
  go_enter Tryz.func131, Tryz.ntmps131
  go_wp2
  go_loopg [7, 8] 1 (fun g v u wr => v = .int .i64 ((a : Int) + 1) ∧ u = .int .i64 0 ∧ Row w blk off d wr)
  case atStart => exact ⟨rfl, rfl, HHH.out⟩
  case round =>
    obtain ⟨hv, hu, hrow0⟩ := hrel
    subst hv hu
    have HR0 : Hid (Row w blk off d wr) := hrow0
    clear hrow0
    go_wp2
    go_loopg [7] (b + 1 - a) (fun g v wr2 => ∃ i : Nat, v = .int .i64 i ∧ a < i ∧ i ≤ b ∧ g = b + 2 - i ∧ Row w blk off d wr2 ∧ SortedIn ltInt a i d)
    case atStart => exact ⟨a + 1, by go_num, by omega, by omega, by omega, HR0.out, fun i j h1 h2 h3 => by omega⟩
    case round =>
      clear HR0
      obtain ⟨i, rfl, hi0, hi1, hgk, hrow, hS⟩ := hrel
      have HGKN : Hid _ := hgk
      have HR : Hid (Row w blk off d wr) := hrow
      have HS : Hid (SortedIn ltInt a i d) := hS
      obtain ⟨t, ht⟩ : ∃ t, t = (decide (i < b) && !ltInt (G i) (G (i - 1))) := ⟨_, rfl⟩
      have HT : Hid (t = (decide (i < b) && !ltInt (G i) (G (i - 1)))) := ht
      have hcw : ∀ t, t < d.size → wr.cell? ⟨blk, off + t, none⟩ = some (.int .u32 (G t)) := fun t ht => by rw [HG.out]; exact (hrow.holds t ht).1
      clear hrow hS ht hgk
      go_upto_region 5 with fail
      go_cut [32] (fun s wq => s = .bool t ∧ Row w blk off d wq)
      case first =>
        by_cases hcc : i < b
        · have hcz : ((i : Nat) : Int) < ((b : Nat) : Int) := by omega
          go_big_quiet (first | (go_at_call 132; refine Calls.quiet_of_same (lessU _ _ _)))
          go_wp2_with fail
          go_meet
          case rel => exact ⟨by rw [HT.out]; simp [hcc], HR.out.drewN nq⟩
        · have hcz : decide (((i : Nat) : Int) < ((b : Nat) : Int)) = false := decide_eq_false (by omega)
          go_big_quiet (first | (go_at_call 132; refine Calls.quiet_of_same (lessU _ _ _)))
          go_wp2_with fail
          go_meet
          case rel => exact ⟨by rw [HT.out]; simp [hcc], HR.out.drewN nq⟩
      case rest =>
        obtain ⟨hst, hrow⟩ := hcut
        subst hst
        clear hcw HR
        have HR : Hid (Row w blk off d wc) := hrow
        clear hrow
        cases t with
        | true =>
          have htt : i < b ∧ (!ltInt d[i]! d[i - 1]!) = true := by have := HT.out; simp only [HG.out] at this; exact and_true_of this
          have hcc := htt.1
          have hS2 : SortedIn ltInt a (i + 1) d := SortedIn.snoc swo_ltInt HS.out (by have := htt.2; simpa using this)
          have HS2 : Hid (SortedIn ltInt a (i + 1) d) := hS2
          clear htt hS2
          go_wp2
          have hgk := HGKN.out
          go_roundg (gk - 1)
          case measure => omega
          case rel => exact ⟨i + 1, by go_num, by omega, by omega, by omega, HR.out, HS2.out⟩
        | false =>
          by_cases hib : i = b
          · subst hib
            go_wp2
            go_ret
            exact ⟨true, rfl, fun _ => HS.out, HR.out⟩
          · have hib2 : ¬ (i : Int) = (b : Int) := by omega
            go_wp2
            go_ret
            exact ⟨false, rfl, fun h => (by cases h), HR.out⟩

end Go.Proofs.YtcmnmogmdhofcabGreat.sortu

/- How many bits a number has (math/bits.Len). -/
namespace Go.Proofs.YtcmnmogmdhofcabGreat.sortu
open Go.RowKit Go.Sort
set_option linter.unusedVariables false
set_option maxRecDepth 100000

set_option maxHeartbeats 8000000 in
theorem len64U (n : Nat) (hn : n < 50) (w : World) : Calls Tryz.prog 136 #[.int .u64 n] w fun e w' => e = .returned (.int .i64 (bitsLen n)) ∧ w' = w := by
  have hc : n = 0 ∨ n = 1 ∨ n = 2 ∨ n = 3 ∨ n = 4 ∨ n = 5 ∨ n = 6 ∨ n = 7 ∨ n = 8 ∨ n = 9 ∨ n = 10 ∨ n = 11 ∨ n = 12 ∨ n = 13 ∨ n = 14 ∨ n = 15 ∨ n = 16 ∨ n = 17 ∨ n = 18 ∨ n = 19 ∨ n = 20 ∨ n = 21 ∨ n = 22 ∨ n = 23 ∨ n = 24 ∨ n = 25 ∨ n = 26 ∨ n = 27 ∨ n = 28 ∨ n = 29 ∨ n = 30 ∨ n = 31 ∨ n = 32 ∨ n = 33 ∨ n = 34 ∨ n = 35 ∨ n = 36 ∨ n = 37 ∨ n = 38 ∨ n = 39 ∨ n = 40 ∨ n = 41 ∨ n = 42 ∨ n = 43 ∨ n = 44 ∨ n = 45 ∨ n = 46 ∨ n = 47 ∨ n = 48 ∨ n = 49 := by omega
  rcases hc with rfl | rfl | rfl | rfl | rfl | rfl | rfl | rfl | rfl | rfl | rfl | rfl | rfl | rfl | rfl | rfl | rfl | rfl | rfl | rfl | rfl | rfl | rfl | rfl | rfl | rfl | rfl | rfl | rfl | rfl | rfl | rfl | rfl | rfl | rfl | rfl | rfl | rfl | rfl | rfl | rfl | rfl | rfl | rfl | rfl | rfl | rfl | rfl | rfl | rfl
  all_goals
    go_enter Tryz.func136, Tryz.ntmps136
    go_wp2
    go_ret
    exact ⟨by kernel_rfl, rfl⟩
theorem lenU (n : Nat) (hn : n < 50) (w : World) : Calls Tryz.prog 100 #[.int .u64 n] w fun e w' => e = .returned (.int .i64 (bitsLen n)) ∧ w' = w := by
  go_enter Tryz.func100, Tryz.ntmps100
  go_wp2_with (go_at_call 136; refine (len64U n hn _).mono ?_; rintro e w' ⟨rfl, hw'⟩; obtain rfl := hw'.symm)
  go_ret
  exact ⟨rfl, rfl⟩

end Go.Proofs.YtcmnmogmdhofcabGreat.sortu
