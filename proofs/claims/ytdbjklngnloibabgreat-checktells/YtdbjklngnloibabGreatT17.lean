/- Rows of numbers of 32 bits that are sorted in place: slices.pdqsortOrdered, slices.Sort at []uint32. -/
import Derived.Deep.DeepFit
import Derived.Test.YtdbjklngnloibabGreatT12
import Derived.Test.YtdbjklngnloibabGreatT14
import Derived.Test.YtdbjklngnloibabGreatT16

namespace Go.Proofs.YtdbjklngnloibabGreat.sortu
open Go.RowKit Go.Sort
set_option linter.unusedVariables false
set_option maxRecDepth 100000

/-- What is asked of a call. -/
def PdqOk (n : Nat) : Prop := ∀ (blk off cap a b : Nat) (lim : Int) (d : Array Int) (len : Nat) (w : World), b - a ≤ n → d.size = len → Holds encU w blk off d → blk < w.heap.size → a ≤ b → b ≤ d.size → d.size < 50 → 0 ≤ lim → lim ≤ 64 → Go.Sort.Below ltInt a b d →
  Calls Tryz.prog 82 #[.slice (some ⟨blk, off, none⟩) len cap, .int .i64 a, .int .i64 b, .int .i64 lim] w fun e w' => e = .returned (.tuple #[]) ∧ ∃ d', Row w blk off d' w' ∧ PermIn a b d d' ∧ SortedIn ltInt a b d'

/-- Where the rounds stand. -/
structure PR (w : World) (blk off a b : Nat) (d : Array Int) (a' b' : Nat) (dk : Array Int) (wr : World) : Prop where
  row : Row w blk off dk wr
  sz : dk.size = d.size
  ab : a' ≤ b'
  bd : b' ≤ d.size
  bel : Go.Sort.Below ltInt a' b' dk
  fin : ∀ R, PermIn a' b' dk R → SortedIn ltInt a' b' R → PermIn a b d R ∧ SortedIn ltInt a b R

theorem PR.perm {w : World} {blk off a b : Nat} {d : Array Int} {a' b' : Nat} {dk dk2 : Array Int} {wr w2 : World} (h : PR w blk off a b d a' b' dk wr) (hr : Row wr blk off dk2 w2) (hp : PermIn a' b' dk dk2) : PR w blk off a b d a' b' dk2 w2 :=
  ⟨h.row.trans hr, by rw [hp.1]; exact h.sz, h.ab, h.bd, h.bel.perm (by rw [h.sz]; exact h.bd) hp, fun R h1 h2 => h.fin R (permIn_trans _ _ _ _ _ hp h1) h2⟩
theorem PR.lt {w : World} {blk off a b : Nat} {d : Array Int} {a' b' : Nat} {dk : Array Int} {wr : World} (h : PR w blk off a b d a' b' dk wr) (hb : blk < w.heap.size) : blk < wr.heap.size := Nat.lt_of_lt_of_le hb h.row.grown.size
theorem PR.same {w : World} {blk off a b : Nat} {d : Array Int} {a' b' : Nat} {dk : Array Int} {wr w2 : World} (h : PR w blk off a b d a' b' dk wr) (hr : Row wr blk off dk w2) : PR w blk off a b d a' b' dk w2 := h.perm hr (permIn_refl _ _ _)
theorem PR.drewN {w : World} {blk off a b : Nat} {d : Array Int} {a' b' : Nat} {dk : Array Int} {wr : World} (h : PR w blk off a b d a' b' dk wr) (q : Nat) : PR w blk off a b d a' b' dk (wr.drewN q) := ⟨h.row.drewN q, h.sz, h.ab, h.bd, h.bel, h.fin⟩

set_option maxHeartbeats 16000000 in
theorem pdq_step (n : Nat) (IH : ∀ m, m < n → PdqOk m) : PdqOk n := by
  intro blk off cap a b lim d len w hn hlen hH hlt hab hb hsz hl0 hl1 hB
  subst hlen
  have HIH : Hid (∀ m, m < n → PdqOk m) := IH
  have HS : Hid (PR w blk off a b d a b d w) := ⟨Row.start hH, rfl, hab, hb, hB, fun R h1 h2 => ⟨h1, h2⟩⟩
  clear IH hH hB
  go_enter Tryz.func82, Tryz.ntmps82
  go_wp2
  go_loopg [1, 2, 3, 8, 9] (b - a + 1) (fun g va vb vl v8 v9 wr => ∃ (a' b' : Nat) (lim' : Int) (wb wp : Bool) (dk : Array Int), va = .int .i64 a' ∧ vb = .int .i64 b' ∧ vl = .int .i64 lim' ∧ v8 = .bool wb ∧ v9 = .bool wp ∧ 0 ≤ lim' ∧ lim' ≤ 64 ∧ b' - a' ≤ n ∧ g = b' - a' + 1 ∧ PR w blk off a b d a' b' dk wr)
  case atStart => exact ⟨a, b, lim, true, true, d, rfl, rfl, rfl, rfl, rfl, hl0, hl1, hn, rfl, HS.out⟩
  case round =>
    clear HS
    obtain ⟨a', b', lim', wb, wp, dk, rfl, rfl, rfl, rfl, rfl, hl0', hl1', hn', hgk, hpr⟩ := hrel
    have HGK : Hid (gk = b' - a' + 1) := hgk
    have hab' := hpr.ab
    have hbd' := hpr.bd
    have hsk := hpr.sz
    have HP : Hid (PR w blk off a b d a' b' dk wr) := hpr
    have hblk : blk < wr.heap.size := hpr.lt hlt
    obtain ⟨L, hL, hLb⟩ : ∃ L : Nat, (b' : Int) - (a' : Int) = L ∧ L = b' - a' := ⟨b' - a', by omega, rfl⟩
    have HL : Hid (L = b' - a') := hLb
    clear hgk hpr
    by_cases h12 : L ≤ 12
    · have h12z : (L : Int) ≤ 12 := by omega
      clear hLb
      have c := insertU blk off cap a' b' dk wr HP.out.row.holds hab' (by omega) (by omega)
      rw [hsk] at c
      go_wp2_with (go_at_call 98; refine c.mono ?_; rintro e w1 ⟨rfl, hrow1⟩)
      refine bodyPost_ret (results_none rfl _ _ _) rfl ?_
      obtain ⟨hp1, hs1⟩ := insertionSort_holds swo_ltInt dk a' b' hab' (by rw [HP.out.sz]; exact HP.out.bd)
      obtain ⟨f1, f2⟩ := HP.out.fin _ hp1 hs1
      exact ⟨rfl, _, HP.out.row.trans hrow1, f1, f2⟩
    have h12z : ¬ (L : Int) ≤ 12 := by omega
    have hab12 : a' + 12 < b' := by omega
    clear hLb
    by_cases hlz : lim' = 0
    · subst hlz
      have c := heapU blk off cap a' b' dk wr HP.out.row.holds (by omega) (by omega) (by omega)
      rw [hsk] at c
      go_wp2_with (go_at_call 99; refine c.mono ?_; rintro e w1 ⟨rfl, hrow1⟩)
      refine bodyPost_ret (results_none rfl _ _ _) rfl ?_
      obtain ⟨hp1, hs1⟩ := heapSort_holds swo_ltInt dk a' b' hab' (by rw [HP.out.sz]; exact HP.out.bd)
      obtain ⟨f1, f2⟩ := HP.out.fin _ hp1 hs1
      exact ⟨rfl, _, HP.out.row.trans hrow1, f1, f2⟩
    go_upto_if 35 with fail
    go_cut [3] (fun s wq => ∃ (lim2 : Int) (d2 : Array Int), s = .int .i64 lim2 ∧ 0 ≤ lim2 ∧ lim2 ≤ 64 ∧ PR w blk off a b d a' b' d2 wq)
    case first =>
      cases wb with
      | true =>
        go_wp2
        go_meet
        case rel => exact ⟨lim', dk, rfl, hl0', hl1', HP.out⟩
      | false =>
        have c := breakU blk off cap a' b' dk wr HP.out.row.holds hblk hab12 (by omega) (by omega)
        rw [hsk] at c
        go_wp2_with (go_at_call 100; refine c.mono ?_; rintro e w1 ⟨rfl, d2, hrow1, hp1⟩)
        go_meet
        case rel => exact ⟨lim' - 1, d2, rfl, by omega, by omega, HP.out.perm hrow1 hp1⟩
    case rest =>
      obtain ⟨lim2, d2, hls, hl20, hl21, hpr2⟩ := hcut
      subst hls
      clear HP hsk hblk
      obtain ⟨wx, hwx⟩ : ∃ wx, wx = wc := ⟨_, rfl⟩
      rw [← hwx] at hpr2 ⊢
      clear hwx
      have hsk2 := hpr2.sz
      have HP2 : Hid (PR w blk off a b d a' b' d2 wx) := hpr2
      have hblk2 : blk < wx.heap.size := hpr2.lt hlt
      clear hpr2
      have c := pivotU blk off cap a' b' d2 wx HP2.out.row.holds hblk2 hab12 (by omega) (by omega)
      rw [hsk2] at c
      go_upto_if 50 with (go_at_call 101; refine c.mono ?_; rintro e w3 ⟨p, hint, rfl, hh3, hp1, hp2, hrow3⟩)
      have HP3 : Hid (PR w blk off a b d a' b' d2 w3) := HP2.out.same hrow3
      clear hrow3 HP2 c
      go_cut [11, 12] (fun s u wq => ∃ (p3 h3 : Nat) (d3 : Array Int), s = .int .i64 p3 ∧ u = .int .i64 h3 ∧ a' < p3 ∧ p3 < b' ∧ PR w blk off a b d a' b' d3 wq)
      case first =>
        by_cases hh2 : hint = 2
        · subst hh2
          have c := reverseU blk off cap a' b' d2 w3 HP3.out.row.holds (by omega) (by omega) (by omega)
          rw [hsk2] at c
          go_wp2_with (go_at_call 102; refine c.mono ?_; rintro e w4 ⟨rfl, d3, hrow4, hp4⟩)
          go_meet
          case rel => exact ⟨b' - 1 - (p - a'), 1, d3, by congr 1; omega, rfl, by omega, by omega, HP3.out.perm hrow4 hp4⟩
        · have hh2z : ¬ (hint : Int) = 2 := by omega
          go_wp2
          go_meet
          case rel => exact ⟨p, hint, d2, rfl, rfl, by omega, by omega, HP3.out⟩
      case rest =>
        obtain ⟨p3, h3, d3, hs11, hs12, hpa, hpb, hpr3⟩ := hcut
        subst hs11 hs12
        clear HP3 hsk2 hblk2 hh3 hp1 hp2
        obtain ⟨wy, hwx⟩ : ∃ wx, wx = wc := ⟨_, rfl⟩
        rw [← hwx] at hpr3 ⊢
        clear hwx
        have hsk3 := hpr3.sz
        have hblk3 : blk < wy.heap.size := hpr3.lt hlt
        have HP3 : Hid (PR w blk off a b d a' b' d3 wy) := hpr3
        clear hpr3
        go_upto_region 15 with fail
        go_cut [68] (fun s wq => ∃ t : Bool, s = .bool t ∧ wq = wy)
        case first =>
          rcases Bool.eq_false_or_eq_true wb with hwb | hwb <;> rcases Bool.eq_false_or_eq_true wp with hwp | hwp
          all_goals subst hwb hwp
          all_goals go_wp2
          all_goals go_meet
          all_goals exact ⟨_, rfl, rfl⟩
        case rest =>
          obtain ⟨t, ht, hwq⟩ := hcut
          subst ht hwq
          go_upto_if 68 with fail
          go_cut [] (fun wq => PR w blk off a b d a' b' d3 wq)
          case first =>
            cases t with
            | false =>
              go_wp2
              go_meet
              exact HP3.out
            | true =>
              have c := partialU blk off cap a' b' d3 wc HP3.out.row.holds (by omega) (by omega) (by omega)
              rw [hsk3] at c
              go_wp2_with (go_at_call 103; refine c.mono ?_; rintro e w4 ⟨r, rfl, hr, hrow4⟩; have HR4 : Hid (r = true → SortedIn ltInt a' b' d3) := hr; clear hr; rcases Bool.eq_false_or_eq_true r with hr2 | hr2 <;> subst hr2)
              · refine bodyPost_ret (results_none rfl _ _ _) rfl ?_
                obtain ⟨f1, f2⟩ := HP3.out.fin d3 (permIn_refl _ _ _) (HR4.out trivial)
                exact ⟨rfl, d3, HP3.out.row.trans hrow4, f1, f2⟩
              · go_meet
                exact HP3.out.same hrow4
          case rest =>
            clear HP3 hblk3
            obtain ⟨wz, hwx⟩ : ∃ wx, wx = wc := ⟨_, rfl⟩
            rw [← hwx] at hcut ⊢
            clear hwx
            have hpr4 : PR w blk off a b d a' b' d3 wz := hcut
            clear hcut
            have hblk4 : blk < wz.heap.size := hpr4.lt hlt
            have HP4 : Hid (PR w blk off a b d a' b' d3 wz) := hpr4
            obtain ⟨G, hG⟩ : ∃ G : Nat → Int, ∀ t, G t = d3[t]! := ⟨fun t => d3[t]!, fun _ => rfl⟩
            have HG : Hid (∀ t, G t = d3[t]!) := hG
            have hcw : ∀ t, t < d.size → wz.cell? ⟨blk, off + t, none⟩ = some (.int .u32 (G t)) := fun t ht => by rw [hG]; exact (hpr4.row.holds t (by omega)).1
            obtain ⟨te, hte⟩ : ∃ te, te = (decide (0 < a') && !ltInt (G (a' - 1)) (G p3)) := ⟨_, rfl⟩
            have HTE : Hid (te = (decide (0 < a') && !ltInt (G (a' - 1)) (G p3))) := hte
            clear hpr4 hG hte
            go_upto_region 17 with fail
            go_cut [87] (fun s wq => s = .bool te ∧ PR w blk off a b d a' b' d3 wq)
            case first =>
              by_cases ha0 : 0 < a'
              · have haz : (0 : Int) < (a' : Int) := by omega
                go_big_quiet (first | (go_at_call 104; refine Calls.quiet_of_same (lessU _ _ _)))
                go_wp2_with fail
                go_meet
                case rel => exact ⟨by rw [HTE.out]; simp [ha0], HP4.out.drewN nq⟩
              · have haz : decide ((0 : Int) < (a' : Int)) = false := decide_eq_false (by omega)
                go_big_quiet (first | (go_at_call 104; refine Calls.quiet_of_same (lessU _ _ _)))
                go_wp2_with fail
                go_meet
                case rel => exact ⟨by rw [HTE.out]; simp [ha0], HP4.out.drewN nq⟩
            case rest =>
              obtain ⟨hs87, hpr5⟩ := hcut
              subst hs87
              clear HP4 hblk4 hcw
              obtain ⟨wu, hwx⟩ : ∃ wx, wx = wc := ⟨_, rfl⟩
              rw [← hwx] at hpr5 ⊢
              clear hwx
              have hblk5 : blk < wu.heap.size := hpr5.lt hlt
              have HP5 : Hid (PR w blk off a b d a' b' d3 wu) := hpr5
              clear hpr5
              cases te with
              | true =>
                have htt : 0 < a' ∧ (!ltInt d3[a' - 1]! d3[p3]!) = true := by have := HTE.out; simp only [HG.out] at this; exact and_true_of this
                have HTT : Hid _ := htt
                clear htt
                have c := partEqU blk off cap a' b' p3 d3 wu HP5.out.row.holds hpa hpb (by omega) (by omega)
                rw [hsk3] at c
                go_wp2_with (go_at_call 105; refine c.mono ?_; rintro e w6 ⟨mid, d4, rfl, hrow6, hpe⟩)
                obtain ⟨e1, e2, e3, e4, e5⟩ := round_eq swo_ltInt (partitionEqual_holds ltInt) HTT.out.1 (Nat.le_of_lt hpa) hpb (by rw [hsk3]; exact hbd') HP5.out.bel (by have := HTT.out.2; simpa using this) hpe
                have hpr6 : PR w blk off a b d mid b' d4 w6 := ⟨HP5.out.row.trans hrow6, by rw [e3]; exact hsk3, e2, hbd', e4, fun R h1 h2 => by obtain ⟨g1, g2⟩ := e5 R h1 h2; exact HP5.out.fin R g1 g2⟩
                have hgk := HGK.out
                go_roundg (b' - mid + 1)
                case measure => omega
                case rel => exact ⟨mid, b', lim2, wb, wp, d4, rfl, rfl, rfl, rfl, rfl, hl20, hl21, by omega, rfl, hpr6⟩
              | false =>
                have c := partU blk off cap a' b' p3 d3 wu HP5.out.row.holds hpa hpb (by omega) (by omega)
                rw [hsk3] at c
                go_upto_if 113 with (go_at_call 106; refine c.mono ?_; rintro e w6 ⟨mid, ap, d4, rfl, hrow6, hpt⟩; obtain ⟨e1, e2, e37⟩ := round_part swo_ltInt (partition_holds ltInt) (Nat.le_of_lt hpa) hpb (by rw [hsk3]; exact hbd') HP5.out.bel hpt; have HE37 : Hid _ := e37; have HROW6 : Hid (Row wu blk off d4 w6) := hrow6; clear e37 hrow6 hpt)
                obtain ⟨e3, e4, e5, e6, e7⟩ := HE37.out
                have hrow6 := HROW6.out
                have HR6 : Hid (Row w blk off d4 w6) := HP5.out.row.trans hrow6
                have hblk6 : blk < w6.heap.size := Nat.lt_of_lt_of_le hblk5 hrow6.grown.size
                have hsk4 : d4.size = d.size := by rw [e3]; exact hsk3
                have HE4 : Hid (Go.Sort.Below ltInt a' mid d4) := e4
                have HE5 : Hid (Go.Sort.Below ltInt (mid + 1) b' d4) := e5
                have HE6 : Hid (∀ L, PermIn a' mid d4 L → SortedIn ltInt a' mid L → Go.Sort.Below ltInt (mid + 1) b' L ∧ ∀ R, PermIn (mid + 1) b' L R → SortedIn ltInt (mid + 1) b' R → PermIn a' b' d3 R ∧ SortedIn ltInt a' b' R) := e6
                have HE7 : Hid (∀ L, PermIn (mid + 1) b' d4 L → SortedIn ltInt (mid + 1) b' L → Go.Sort.Below ltInt a' mid L ∧ ∀ R, PermIn a' mid L R → SortedIn ltInt a' mid R → PermIn a' b' d3 R ∧ SortedIn ltInt a' b' R) := e7
                clear e3 e4 e5 e6 e7 hrow6 HE37 HROW6 c
                by_cases hlr : (mid : Int) - (a' : Int) < (b' : Int) - (mid : Int)
                · have c := HIH.out (mid - a') (by omega) blk off cap a' mid lim2 d4 d.size w6 (Nat.le_refl _) hsk4 HR6.out.holds hblk6 e1 (by omega) (by omega) hl20 hl21 HE4.out
                  go_wp2_with fail
                  go_at_call 82
                  go_fit c
                  rintro e w7 ⟨rfl, d5, hrow7, hp7, hs7⟩
                  have HR7 : Hid (Row w6 blk off d5 w7) := hrow7
                  have HP7 : Hid (PermIn a' mid d4 d5) := hp7
                  have HS7 : Hid (SortedIn ltInt a' mid d5) := hs7
                  clear hrow7 hp7 hs7 c
                  go_wp2_with fail
                  have hrow7 := HR7.out
                  have hp7 := HP7.out
                  obtain ⟨f1, f2⟩ := HE6.out d5 hp7 HS7.out
                  have hpr7 : PR w blk off a b d (mid + 1) b' d5 w7 := ⟨HR6.out.trans hrow7, by rw [hp7.1]; exact hsk4, by omega, hbd', f1, fun R h1 h2 => by obtain ⟨g1, g2⟩ := f2 R h1 h2; exact HP5.out.fin R g1 g2⟩
                  have hgk := HGK.out
                  go_roundg (b' - (mid + 1) + 1)
                  case measure => omega
                  case rel => exact ⟨mid + 1, b', lim2, _, ap, d5, by go_num, rfl, rfl, rfl, rfl, hl20, hl21, by omega, rfl, hpr7⟩
                · have c := HIH.out (b' - (mid + 1)) (by omega) blk off cap (mid + 1) b' lim2 d4 d.size w6 (Nat.le_refl _) hsk4 HR6.out.holds hblk6 (by omega) (by omega) (by omega) hl20 hl21 HE5.out
                  have hmz : ((mid + 1 : Nat) : Int) = (mid : Int) + 1 := by omega
                  rw [hmz] at c
                  clear hmz
                  go_wp2_with fail
                  go_at_call 82
                  go_fit c
                  rintro e w7 ⟨rfl, d5, hrow7, hp7, hs7⟩
                  have HR7 : Hid (Row w6 blk off d5 w7) := hrow7
                  have HP7 : Hid (PermIn (mid + 1) b' d4 d5) := hp7
                  have HS7 : Hid (SortedIn ltInt (mid + 1) b' d5) := hs7
                  clear hrow7 hp7 hs7 c
                  go_wp2_with fail
                  have hrow7 := HR7.out
                  have hp7 := HP7.out
                  obtain ⟨f1, f2⟩ := HE7.out d5 hp7 HS7.out
                  have hpr7 : PR w blk off a b d a' mid d5 w7 := ⟨HR6.out.trans hrow7, by rw [hp7.1]; exact hsk4, e1, by omega, f1, fun R h1 h2 => by obtain ⟨g1, g2⟩ := f2 R h1 h2; exact HP5.out.fin R g1 g2⟩
                  have hgk := HGK.out
                  go_roundg (mid - a' + 1)
                  case measure => omega
                  case rel => exact ⟨a', mid, lim2, _, ap, d5, rfl, rfl, rfl, rfl, rfl, hl20, hl21, by omega, rfl, hpr7⟩

theorem pdqU : ∀ n, PdqOk n := fun n => Nat.strongRecOn n (fun m h => pdq_step m h)

end Go.Proofs.YtdbjklngnloibabGreat.sortu
