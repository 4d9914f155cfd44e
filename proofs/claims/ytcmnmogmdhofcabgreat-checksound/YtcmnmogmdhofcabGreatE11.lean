/- What is known of a place that becomes a number (world.ofNumber). -/
import Derived.Test.YtcmnmogmdhofcabGreatE10
import Derived.Test.YtcmnmogmdhofcabGreatE01

namespace Go.Proofs.YtcmnmogmdhofcabGreat.form
open Go.RowKit Go.Maps
set_option linter.unusedVariables false
set_option maxRecDepth 100000
attribute [local go_sem ↓] Go.wp_at_zero Go.wp_at_succ

def ofT (m : FM) (y : Bits) (t : Nat) : Bool := !((m.tmp t &&& y) == 0)

structure OnS (w : World) (m : FM) (y : Bits) (gb : Nat) (j : Nat) (h : Bits) (wr : World) : Prop where
  bel : Below w.heap.size w wr
  gz : w.heap.size + 1 ≤ gb
  z : gb < wr.heap.size
  a0 : wr.cell? ⟨gb, 0, none⟩ = some (.int .u64 (bn h))
  a1 : wr.cell? ⟨gb, 1, none⟩ = some (.int .u64 (bn y))
  f0 : wr.frozen? ⟨gb, 0, none⟩ = false
  r0 : wr.cell? ⟨w.heap.size, 0, none⟩ = some (.int .u64 0)
  r1 : wr.cell? ⟨w.heap.size, 1, none⟩ = some (.int .u64 0)
  s0 : wr.frozen? ⟨w.heap.size, 0, none⟩ = false
  s1 : wr.frozen? ⟨w.heap.size, 1, none⟩ = false
  bits : ∀ t, h.getLsbD t = true ↔ t < j ∧ ofT m y t = true
section
variable {w : World} {m : FM} {y : Bits} {gb j j' : Nat} {h h' : Bits} {wr : World}
theorem OnS.drewN (hs : OnS w m y gb j h wr) (q : Nat) : OnS w m y gb j h (wr.drewN q) := ⟨below_drewN hs.bel q, hs.gz, hs.z, hs.a0, hs.a1, hs.f0, hs.r0, hs.r1, hs.s0, hs.s1, hs.bits⟩
theorem OnS.put (hs : OnS w m y gb j h wr) (hb : ∀ t, h'.getLsbD t = true ↔ t < j' ∧ ofT m y t = true) : OnS w m y gb j' h' (wr.setCell ⟨gb, 0, none⟩ (.int .u64 (bn h'))) := by
  have a0 := hs.a0
  have a1 := hs.a1
  have gz := hs.gz
  have e1 : ∀ o, (wr.setCell ⟨gb, 0, none⟩ (.int .u64 (bn h'))).cell? ⟨w.heap.size, o, none⟩ = wr.cell? ⟨w.heap.size, o, none⟩ := fun o => World.cell?_of_block (Below.heap_setCell _ _ _ _ (by dsimp only; omega))
  exact ⟨hs.bel.setCell (by dsimp only; omega) _, gz, by have := hs.z; simpa [World.setCell] using this, by simp [go_sem, a0], by simp [go_sem, a1], by have := hs.f0; simpa [go_sem] using this, by rw [e1]; exact hs.r0, by rw [e1]; exact hs.r1, by have := hs.s0; simpa [go_sem] using this, by have := hs.s1; simpa [go_sem] using this, hb⟩
theorem OnS.skip (hs : OnS w m y gb j h wr) (hc : ofT m y j = false) : OnS w m y gb (j + 1) h wr :=
  ⟨hs.bel, hs.gz, hs.z, hs.a0, hs.a1, hs.f0, hs.r0, hs.r1, hs.s0, hs.s1, fun t => by
    rw [hs.bits]
    constructor
    · rintro ⟨h1, h2⟩; exact ⟨by omega, h2⟩
    · rintro ⟨h1, h2⟩
      refine ⟨?_, h2⟩
      rcases Nat.eq_or_lt_of_le (Nat.le_of_lt_succ h1) with e | e
      · rw [e, hc] at h2; cases h2
      · exact e⟩
theorem of_or (hj : j < 64) (hb : ∀ t, h.getLsbD t = true ↔ t < j ∧ ofT m y t = true) (hc : ofT m y j = true) : ∀ t, (h ||| only j).getLsbD t = true ↔ t < j + 1 ∧ ofT m y t = true := by
  intro t
  rw [bits_or_only hj, hb]
  constructor
  · rintro (⟨h1, h2⟩ | rfl)
    · exact ⟨by omega, h2⟩
    · exact ⟨by omega, hc⟩
  · rintro ⟨h1, h2⟩
    rcases Nat.eq_or_lt_of_le (Nat.le_of_lt_succ h1) with e | e
    · exact Or.inr e
    · exact Or.inl ⟨e, h2⟩
end

set_option maxHeartbeats 4000000 in
theorem ofNumW {w : World} {lim : Nat} {g : WB} {B : List Bool} {C : List LIns} {R : List LRow} {A : List LPlace} {N : List Int} {s slots : Nat} (hW : WorldAt w lim g B C R A N) (hD : Dims B C s slots A N) (q mp mt : Nat) (T : List Int) (m : FM) (hF : FMAt w q mp mt A T m) (n : Int) :
    Calls Tryz.prog 108 #[.pointer (some ⟨g.q, 0, none⟩), .pointer (some ⟨q, 0, none⟩), .int .u32 n] w fun e w' => ∃ x y, e = .returned (knownV x y) ∧ (∀ t, x.getLsbD t = true ↔ t < B.length ∧ ofT m y t = true) ∧ NumS N n y ∧ Below w.heap.size w w' := by
  have hb12 := hD.b12
  have HW : Hid (WorldAt w lim g B C R A N) := hW
  have HD : Hid (Dims B C s slots A N) := hD
  have HF : Hid (FMAt w q mp mt A T m) := hF
  have y0 := hW.stat.p0
  have hq := cell_lt y0
  have hb1 : Below w.heap.size w (w.alloc (.cells #[.int .u64 0, .int .u64 0] 108)) := (Below.refl _ _).alloc (Nat.le_refl _) _
  have c := numberO (hW.below hb1) hD n
  have HB1 : Hid (Below w.heap.size w (w.alloc (.cells #[.int .u64 0, .int .u64 0] 108))) := hb1
  clear hW hD hF hb1
  go_enter Tryz.func108, Tryz.ntmps108
  go_wp2_with (go_at_call 67; refine c.mono ?_; rintro e w1 ⟨⟨y, rfl, hy⟩, hw1⟩; obtain rfl := hw1.symm; have HY : Hid (NumS N n y) := hy; clear hy)
  have HZ : Hid (OnS w m y (w.heap.size + 1) 0 0 ((w.alloc (.cells #[.int .u64 0, .int .u64 0] 108)).alloc (.cells #[.int .u64 0, .int .u64 (bn y)] 108))) :=
    ⟨((Below.refl _ _).alloc (Nat.le_refl _) _).alloc (by simp) _, Nat.le_refl _, by simp, by simp [go_sem]; rfl, by simp [go_sem], by simp [go_sem], by simp [go_sem], by simp [go_sem], by simp [go_sem], by simp [go_sem], fun t => by simp⟩
  clear c
  go_loopg [8, 19] (B.length + 1) (fun gg v8 v wr => ∃ (j : Nat) (h : Bits), v = .int .i64 j ∧ j ≤ B.length ∧ gg = B.length + 1 - j ∧ OnS w m y (w.heap.size + 1) j h wr)
  case atStart => exact ⟨0, 0, rfl, by omega, by omega, HZ.out⟩
  case round =>
    clear HZ
    obtain ⟨j, h, rfl, hj, hgk, hs⟩ := hrel
    have HGK : Hid (gk = B.length + 1 - j) := hgk
    have HS : Hid (OnS w m y (w.heap.size + 1) j h wr) := hs
    have z1 := hs.z
    have a0 := hs.a0
    have a1 := hs.a1
    have f0 := hs.f0
    have r0 := hs.r0
    have r1 := hs.r1
    have s0 := hs.s0
    have s1 := hs.s1
    have hFw := HF.out.below hs.bel
    have x1 := hFw.c1
    clear hgk hs
    by_cases hjl : j < B.length
    · have hjz : (j : Int) < (B.length : Int) := by omega
      have h64 : j < 64 := by omega
      have hlk : ∀ k, (Instr.lookup 110 (.map (some mt)) (.int .i64 (j : Int)) false).run Tryz.prog (wr.drewN k) = .ok (.int .u64 (bn (m.tmp j))) (wr.drewN k) := fun k => TMap.look (w := wr.drewN k) (hFw.tm.of_block rfl) ⟨by omega, by omega⟩
      obtain ⟨c, hcc⟩ : ∃ c, c = ofT m y j := ⟨_, rfl⟩
      have HC : Hid (c = ofT m y j) := hcc
      have ha := and_is (m.tmp j) y
      have hn := ne_is (m.tmp j &&& y)
      have hn2 : (bn (m.tmp j &&& y) != 0) = c := by rw [hn, hcc]; rfl
      clear hcc hn hFw
      go_upto_region 5 with fail
      go_cut [31] (fun s wq => s = .bool c ∧ OnS w m y (w.heap.size + 1) j h wq)
      case first =>
        go_quiet (fail)
        go_wp2_with fail
        go_meet
        case rel => exact ⟨rfl, HS.out.drewN nq⟩
      case rest =>
        obtain ⟨hs31, hs2⟩ := hcut
        subst hs31
        obtain ⟨wv, hwv⟩ : ∃ wv, wv = wc := ⟨_, rfl⟩
        rw [← hwv] at hs2 ⊢
        clear hwv z1 a0 a1 f0 r0 r1 s0 s1 x1 hlk HS
        have HS : Hid (OnS w m y (w.heap.size + 1) j h wv) := hs2
        have z1 := hs2.z
        have a0 := hs2.a0
        have f0 := hs2.f0
        clear hs2
        cases c with
        | false =>
          go_wp2
          have hgk := HGK.out
          go_roundg (gk - 1)
          case measure => omega
          case rel => exact ⟨j + 1, h, by go_num, by omega, by omega, HS.out.skip HC.out.symm⟩
        | true =>
          have hor := or_is h (only j)
          have HPUT : Hid (OnS w m y (w.heap.size + 1) (j + 1) (h ||| only j) ((wv.drewN 1).setCell ⟨w.heap.size + 1, 0, none⟩ (.int .u64 (bn (h ||| only j))))) := (HS.out.drewN 1).put (of_or h64 HS.out.bits HC.out.symm)
          go_wp2
          go_region_with (go_at_call 77; refine (onlyO j h64 _).mono ?_; rintro e w1 ⟨rfl, hw1⟩; obtain rfl := hw1.symm)
          all_goals
            go_wp2_with fail
            have hgk := HGK.out
            go_roundg (gk - 1)
            case measure => omega
            case rel => exact ⟨j + 1, h ||| only j, by go_num, by omega, by omega, HPUT.out⟩
    · obtain rfl : j = B.length := by omega
      have hjz : ¬ (B.length : Int) < (B.length : Int) := by omega
      go_wp2
      refine bodyPost_ret (v := knownV h y) ?_ rfl ⟨h, y, rfl, HS.out.bits, HY.out, (HS.out.bel.setCell (Nat.le_refl _) _).setCell (Nat.le_refl _) _⟩
      simp [results, Tryz.results108, go_sem, knownV, r0, r1]
end Go.Proofs.YtcmnmogmdhofcabGreat.form

/- What is known behind a move (world.move). -/
namespace Go.Proofs.YtcmnmogmdhofcabGreat.form
open Go.RowKit Go.Maps
set_option linter.unusedVariables false
set_option maxRecDepth 100000
attribute [local go_sem ↓] Go.wp_at_zero Go.wp_at_succ

theorem PMap.put {w : World} {b : Nat} {A : List LPlace} {gh gi : LPlace → Bits} (h : PMap w b A gh gi) (hn : A.length < maxLen) {p : LPlace} (hp : PlWf p) (hA : p ∈ A) (x y : Bits) :
    ∃ w', (Instr.mapUpdate 109 (.map (some b)) p.val (knownV x y)).run Tryz.prog w = .ok () w' ∧ PMap w' b A (updP gh p x) (updP gi p y) ∧ w.grownBy w' (some b) := by
  obtain ⟨D, h1, h2⟩ := h
  obtain ⟨w', hrun, r1, r2⟩ := h1.update pkLaw Tryz.underlying109 hn (place_key hp) (knownElem_mk x y)
  have h3 := h2.put h1.isMap hp hA x y
  exact ⟨w', hrun, ⟨_, own_tight r1 h3.keys, h3⟩, r2⟩
theorem TMap.put {w : World} {b : Nat} {A : List Int} {g : Int → Bits} (h : TMap w b A g) (hn : A.length < maxLen) {t : Int} (ht : TWf t) (hA : t ∈ A) (x : Bits) :
    ∃ w', (Instr.mapUpdate 110 (.map (some b)) (.int .i64 t) (.int .u64 (bn x))).run Tryz.prog w = .ok () w' ∧ TMap w' b A (updT g t x) ∧ w.grownBy w' (some b) := by
  obtain ⟨D, h1, h2⟩ := h
  obtain ⟨w', hrun, r1, r2⟩ := h1.update tkLaw Tryz.underlying110 hn (t_key ht) (plainElem_int Tryz.underlying106 (u64_wf x))
  have h3 := h2.put h1.isMap hA x
  exact ⟨w', hrun, ⟨_, own_tightT r1 h3.keys, h3⟩, r2⟩

structure MvS (w : World) (v : LMove) (gb : Nat) (x y : Bits) (wr : World) : Prop where
  bel : Below w.heap.size w wr
  lo : w.heap.size < gb
  z : gb < wr.heap.size
  c0 : wr.cell? ⟨w.heap.size, 0, none⟩ = some (.int .i64 v.dst.kind)
  c1 : wr.cell? ⟨w.heap.size, 1, none⟩ = some (.int .i64 v.dst.n)
  c4 : wr.cell? ⟨w.heap.size, 4, none⟩ = some (.bool v.cst)
  c5 : wr.cell? ⟨w.heap.size, 5, none⟩ = some (.int .u32 v.n)
  g0 : wr.cell? ⟨gb, 0, none⟩ = some (.int .u64 (bn x))
  g1 : wr.cell? ⟨gb, 1, none⟩ = some (.int .u64 (bn y))
  f0 : wr.frozen? ⟨gb, 0, none⟩ = false
  f1 : wr.frozen? ⟨gb, 1, none⟩ = false

theorem step_frozen {a b : World} (hb : Below a.heap.size a b) {p : Addr} (hp : p.block < a.heap.size) (h : a.frozen? p = false) : b.frozen? p = false := by
  rw [World.frozen?_of_block (w := a) (hb.block p.block hp)]
  exact h
theorem far2 {w : World} {gb b o : Nat} {u v z : Value} (hne : b ≠ gb) (h : w.cell? ⟨b, o, none⟩ = some z) : ((w.setCell ⟨gb, 0, none⟩ u).setCell ⟨gb, 1, none⟩ v).cell? ⟨b, o, none⟩ = some z := by
  rw [World.cell?_of_block (w := w.setCell ⟨gb, 0, none⟩ u) (Below.heap_setCell _ _ _ _ hne), World.cell?_of_block (w := w) (Below.heap_setCell _ _ _ _ hne)]
  exact h
theorem mvs {w wx wr : World} {v : LMove} {gb : Nat} {x y : Bits} (hx : Below w.heap.size w wx) (hb : Below wx.heap.size wx wr) (x1 : wx.cell? ⟨w.heap.size, 0, none⟩ = some (.int .i64 v.dst.kind)) (x2 : wx.cell? ⟨w.heap.size, 1, none⟩ = some (.int .i64 v.dst.n)) (x5 : wx.cell? ⟨w.heap.size, 4, none⟩ = some (.bool v.cst)) (x6 : wx.cell? ⟨w.heap.size, 5, none⟩ = some (.int .u32 v.n))
    (lo : w.heap.size < gb) (z : gb < wr.heap.size) (g0 : wr.cell? ⟨gb, 0, none⟩ = some (.int .u64 (bn x))) (g1 : wr.cell? ⟨gb, 1, none⟩ = some (.int .u64 (bn y))) (f0 : wr.frozen? ⟨gb, 0, none⟩ = false) (f1 : wr.frozen? ⟨gb, 1, none⟩ = false) : MvS w v gb x y wr :=
  ⟨step_below hb hx, lo, z, step_cell hb x1, step_cell hb x2, step_cell hb x5, step_cell hb x6, g0, g1, f0, f1⟩
theorem got_may {B : List Bool} {N : List Int} {m : FM} {v : LMove} {mx my : Bits} (hc : v.cst = false) (hx : ∀ t, mx.getLsbD t = true ↔ t < B.length ∧ mayT B v.dst.kind t = true) (hy : ∀ k, my.getLsbD k = true ↔ k < N.length ∧ ¬ v.dst.kind = 2) : GotM B N m v (m.has v.src &&& mx) (m.is v.src &&& my) := by
  refine ⟨fun t => ?_, fun k => ?_⟩
  · rw [if_neg (by simp [hc]), bits_and, hx]
    unfold mayT
    simp
    intro _ _
    by_cases h : v.dst.kind = 2
    · simp [h]
    · have e : (v.dst.kind == 2) = false := by simpa using h
      rw [e]
      simp [h]
  · rw [if_neg (by simp [hc]), bits_and, hy]

theorem MvS.below {w : World} {v : LMove} {gb : Nat} {x y : Bits} {wr w' : World} (h : MvS w v gb x y wr) (hb : Below wr.heap.size wr w') : MvS w v gb x y w' :=
  ⟨step_below hb h.bel, h.lo, Nat.lt_of_lt_of_le h.z hb.size, step_cell hb h.c0, step_cell hb h.c1, step_cell hb h.c4, step_cell hb h.c5, step_cell hb h.g0, step_cell hb h.g1, step_frozen hb h.z h.f0, step_frozen hb h.z h.f1⟩
theorem MvS.put {w : World} {v : LMove} {gb : Nat} {x y : Bits} {wr : World} (h : MvS w v gb x y wr) (x2 y2 : Bits) : MvS w v gb x2 y2 ((wr.setCell ⟨gb, 0, none⟩ (.int .u64 (bn x2))).setCell ⟨gb, 1, none⟩ (.int .u64 (bn y2))) := by
  have lo := h.lo
  have g0 := h.g0
  have g1 := h.g1
  exact ⟨(h.bel.setCell (by dsimp only; omega) _).setCell (by dsimp only; omega) _, lo, by have := h.z; simpa [World.setCell] using this, far2 (by omega) h.c0, far2 (by omega) h.c1, far2 (by omega) h.c4, far2 (by omega) h.c5, by simp [go_sem, g0], by simp [go_sem, g1], by have := h.f0; simpa [go_sem] using this, by have := h.f1; simpa [go_sem] using this⟩
theorem far_keep (f : LPlace → Bits) (d : LPlace) : (fun p => if farB d p = true then f p else 0) = keepP f d := by
  funext p
  unfold farB keepP
  rw [over_sameC]
  cases overB p d <;> simp
theorem moveK_iff {ok : LFact → Prop} {v : LMove} {K K' : LFact → Prop} (h : ∀ f, K f ↔ K' f) (f : LFact) : moveK ok v K f ↔ moveK ok v K' f := ⟨fun hf => moveK_mono (fun f => (h f).1) hf, fun hf => moveK_mono (fun f => (h f).2) hf⟩
theorem got_num {B : List Bool} {N : List Int} {m : FM} {v : LMove} {x y : Bits} (hc : v.cst = true) (hx : ∀ t, x.getLsbD t = true ↔ t < B.length ∧ ofT m y t = true) (hy : NumS N v.n y) : GotM B N m v x y := by
  refine ⟨fun t => ?_, fun k => ?_⟩
  · rw [if_pos hc, hx]
    refine and_congr Iff.rfl ?_
    unfold ofT
    simp only [Bool.not_eq_true', beq_eq_false_iff_ne, ne_eq]
    rw [bits_ne]
    constructor
    · rintro ⟨k, hk⟩
      rw [bits_and, hy] at hk
      exact ⟨k, hk.2.1, hk.2.2, hk.1⟩
    · rintro ⟨k, h1, h2, h3⟩
      exact ⟨k, by rw [bits_and, hy]; exact ⟨h3, h1, h2⟩⟩
  · rw [if_pos hc]; exact hy k

set_option maxHeartbeats 8000000 in
theorem moveW {w : World} {lim : Nat} {g : WB} {B : List Bool} {C : List LIns} {R : List LRow} {A : List LPlace} {N : List Int} {s slots : Nat} (hW : WorldAt w lim g B C R A N) (hD : Dims B C s slots A N) (q mp mt : Nat) (T : List Int) (m : FM) (hF : FMAt w q mp mt A T m) (hq : lim ≤ q) (hmp : lim ≤ mp) (v : LMove) (hv : moveB s slots v = true) (hok : FmOk B s slots N m) :
    Calls Tryz.prog 74 #[.pointer (some ⟨g.q, 0, none⟩), .pointer (some ⟨q, 0, none⟩), v.val] w fun e w' => e = .returned (.tuple #[]) ∧ ∃ gh gi, GotM B N m v gh gi ∧ FMAt w' q mp mt A T (moveF m v.dst gh gi) ∧ But mp mp w w' := by
  have HW : Hid (WorldAt w lim g B C R A N) := hW
  have HD : Hid (Dims B C s slots A N) := hD
  have HF : Hid (FMAt w q mp mt A T m) := hF
  have HOK : Hid (FmOk B s slots N m) := hok
  have HV : Hid (moveB s slots v = true) := hv
  have hql := hF.lt.1
  have hsrc : PlWf v.src := by
    unfold moveB at hv
    simp only [Bool.and_eq_true] at hv
    by_cases hc : v.cst = true
    · have := hv.2
      rw [if_pos hc] at this
      simp at this
      exact ⟨by omega, by omega, by omega, by omega⟩
    · have := hv.2
      rw [if_neg hc] at this
      simp only [Bool.and_eq_true] at this
      exact hD.wf this.1.2
  have hdst : isB s slots v.dst = true := by unfold moveB at hv; simp only [Bool.and_eq_true] at hv; exact hv.1
  obtain ⟨wx, hwx⟩ : ∃ wx, wx = w.alloc (.cells #[.int .i64 v.dst.kind, .int .i64 v.dst.n, .int .i64 v.src.kind, .int .i64 v.src.n, .bool v.cst, .int .u32 v.n] 52) := ⟨_, rfl⟩
  have hbx : Below w.heap.size w wx := by rw [hwx]; exact (Below.refl _ _).alloc (Nat.le_refl _) _
  have hzx : wx.heap.size = w.heap.size + 1 := by rw [hwx]; simp
  have x0 : wx.cell? ⟨q, 0, none⟩ = some (.map (some mp)) := step_cell hbx hF.c0
  have x1 : wx.cell? ⟨w.heap.size, 0, none⟩ = some (.int .i64 v.dst.kind) := by rw [hwx]; simp [go_sem]
  have x2 : wx.cell? ⟨w.heap.size, 1, none⟩ = some (.int .i64 v.dst.n) := by rw [hwx]; simp [go_sem]
  have x3 : wx.cell? ⟨w.heap.size, 2, none⟩ = some (.int .i64 v.src.kind) := by rw [hwx]; simp [go_sem]
  have x4 : wx.cell? ⟨w.heap.size, 3, none⟩ = some (.int .i64 v.src.n) := by rw [hwx]; simp [go_sem]
  have x5 : wx.cell? ⟨w.heap.size, 4, none⟩ = some (.bool v.cst) := by rw [hwx]; simp [go_sem]
  have x6 : wx.cell? ⟨w.heap.size, 5, none⟩ = some (.int .u32 v.n) := by rw [hwx]; simp [go_sem]
  have HWX : Hid (WorldAt wx lim g B C R A N) := hW.below hbx
  have HLK : Hid (∀ w5, Below wx.heap.size wx w5 → (Instr.lookup 109 (.map (some mp)) (.agg #[.int .i64 v.src.kind, .int .i64 v.src.n]) false).run Tryz.prog w5 = .ok (.agg #[.int .u64 (bn (m.has v.src)), .int .u64 (bn (m.is v.src))]) w5) := fun w5 hb => PMap.look (hF.pm.below (step_below hb hbx)) hsrc
  have HBX : Hid (Below w.heap.size w wx) := hbx
  have HZX : Hid (wx.heap.size = w.heap.size + 1) := hzx
  clear hW hD hF hok hv hbx hzx
  unfold LMove.val
  go_enter Tryz.func74, Tryz.ntmps74
  go_upto_region 1 with fail
  rw [← hwx]
  clear hwx
  go_cut [6] (fun s wq => ∃ gb x y, s = .pointer (some ⟨gb, 0, none⟩) ∧ MvS w v gb x y wq ∧ (v.cst = false → GotM B N m v x y))
  case first =>
    refine wp_region_held_drew (S := (fun w' => Below wx.heap.size wx w' ∧ w'.cell? ⟨q, 0, none⟩ = some (.map (some mp)) ∧ w'.cell? ⟨w.heap.size, 0, none⟩ = some (.int .i64 v.dst.kind) ∧ w'.cell? ⟨w.heap.size, 1, none⟩ = some (.int .i64 v.dst.n) ∧ w'.cell? ⟨w.heap.size, 2, none⟩ = some (.int .i64 v.src.kind) ∧ w'.cell? ⟨w.heap.size, 3, none⟩ = some (.int .i64 v.src.n))) (by rfl) ?_ (fun hHeld => ?_)
    · (exact ⟨(Below.refl _ _).drew, step_cell (Below.refl _ _).drew x0, step_cell (Below.refl _ _).drew x1, step_cell (Below.refl _ _).drew x2, step_cell (Below.refl _ _).drew x3, step_cell (Below.refl _ _).drew x4⟩)
    refine wpAnyH_take (i := 0) (v := ?_) rfl (by kernel_rfl) (by kernel_rfl) (by kernel_rfl) (fun _ _ _ h => h) (Or.inl ⟨by rfl, ?_⟩) (by assumption) ?_
    case refine_2 => (intro w hSw; (try dsimp only at hSw); go_simp; first | done | (with_reducible rfl))
    show wpAnyH _ _ _ _ _ _ _ (Act.put _ (some 7) _) _
    simp only [Act.put, List.setIfInBounds_toArray, List.set_cons_zero, List.set_cons_succ]
    refine wpAnyH_take (i := 1) (v := ?_) rfl (by kernel_rfl) (by kernel_rfl) (by kernel_rfl) (fun _ _ _ h => h) (Or.inl ⟨by rfl, ?_⟩) (by assumption) ?_
    case refine_2 => (intro w hSw; (try dsimp only at hSw); go_simp; first | done | (with_reducible rfl))
    show wpAnyH _ _ _ _ _ _ _ (Act.put _ (some 8) _) _
    simp only [Act.put, List.setIfInBounds_toArray, List.set_cons_zero, List.set_cons_succ]
    refine wpAnyH_take (i := 2) (v := ?_) rfl (by kernel_rfl) (by kernel_rfl) (by kernel_rfl) (fun _ _ _ h => h) (Or.inl ⟨by rfl, ?_⟩) (by assumption) ?_
    case refine_2 => (intro w hSw; (try dsimp only at hSw); go_simp; first | done | (with_reducible rfl))
    show wpAnyH _ _ _ _ _ _ _ (Act.put _ (some 9) _) _
    simp only [Act.put, List.setIfInBounds_toArray, List.set_cons_zero, List.set_cons_succ]
    refine wpAnyH_take (i := 3) (v := ?_) rfl (by kernel_rfl) (by kernel_rfl) (by kernel_rfl) (fun _ _ _ h => h) (Or.inl ⟨by rfl, ?_⟩) (by assumption) ?_
    case refine_2 => (intro w hSw; (try dsimp only at hSw); go_simp; first | done | (with_reducible rfl))
    show wpAnyH _ _ _ _ _ _ _ (Act.put _ (some 10) _) _
    simp only [Act.put, List.setIfInBounds_toArray, List.set_cons_zero, List.set_cons_succ]
    refine wpAnyH_take (i := 4) (v := ?_) rfl (by kernel_rfl) (by kernel_rfl) (by kernel_rfl) (fun _ _ _ h => h) (Or.inl ⟨by rfl, ?_⟩) (by assumption) ?_
    case refine_2 => (intro w hSw; (try dsimp only at hSw); go_simp; first | done | (with_reducible rfl))
    show wpAnyH _ _ _ _ _ _ _ (Act.put _ (some 11) _) _
    simp only [Act.put, List.setIfInBounds_toArray, List.set_cons_zero, List.set_cons_succ]
    refine wpAnyH_take (i := 5) (v := ?_) rfl (by kernel_rfl) (by kernel_rfl) (by kernel_rfl) (fun _ _ _ h => h) (Or.inl ⟨by rfl, ?_⟩) (by assumption) ?_
    case refine_2 => (intro w hSw; (try dsimp only at hSw); go_simp; first | done | (with_reducible rfl))
    show wpAnyH _ _ _ _ _ _ _ (Act.put _ (some 12) _) _
    simp only [Act.put, List.setIfInBounds_toArray, List.set_cons_zero, List.set_cons_succ]
    refine wpAnyH_take (i := 6) (v := ?_) rfl (by kernel_rfl) (by kernel_rfl) (by kernel_rfl) (fun _ _ _ h => h) (Or.inl ⟨by rfl, ?_⟩) (by assumption) ?_
    case refine_2 => (intro w5 hSw; (try dsimp only at hSw); have hl := HLK.out w5 hSw.1; go_simp; first | done | (with_reducible rfl))
    show wpAnyH _ _ _ _ _ _ _ (Act.put _ (some 13) _) _
    simp only [Act.put, List.setIfInBounds_toArray, List.set_cons_zero, List.set_cons_succ]
    refine wpAnyH_take (i := 7) (v := ?_) rfl (by kernel_rfl) (by kernel_rfl) (by kernel_rfl) (fun _ _ _ h => h) (Or.inl ⟨by rfl, ?_⟩) (by assumption) ?_
    case refine_2 => (intro w hSw; (try dsimp only at hSw); go_simp; first | done | (with_reducible rfl))
    show wpAnyH _ _ _ _ _ _ _ (Act.put _ (some 14) _) _
    simp only [Act.put, List.setIfInBounds_toArray, List.set_cons_zero, List.set_cons_succ]
    refine wpAnyH_take (i := 8) (v := ?_) rfl (by kernel_rfl) (by kernel_rfl) (by kernel_rfl) (fun _ _ _ h => h) (Or.inl ⟨by rfl, ?_⟩) (by assumption) ?_
    case refine_2 => (intro w hSw; (try dsimp only at hSw); go_simp; first | done | (with_reducible rfl))
    show wpAnyH _ _ _ _ _ _ _ (Act.put _ (some 15) _) _
    simp only [Act.put, List.setIfInBounds_toArray, List.set_cons_zero, List.set_cons_succ]
    refine wpAnyH_take (i := 9) (v := ?_) rfl (by kernel_rfl) (by kernel_rfl) (by kernel_rfl) (fun _ _ _ h => h) (Or.inl ⟨by rfl, ?_⟩) (by assumption) ?_
    case refine_2 => (intro w hSw; (try dsimp only at hSw); go_simp; first | done | (with_reducible rfl))
    show wpAnyH _ _ _ _ _ _ _ (Act.put _ (some 16) _) _
    simp only [Act.put, List.setIfInBounds_toArray, List.set_cons_zero, List.set_cons_succ]
    refine wpAnyH_take (i := 10) (v := ?_) rfl (by kernel_rfl) (by kernel_rfl) (by kernel_rfl) (fun _ _ _ h => h) (Or.inl ⟨by rfl, ?_⟩) (by assumption) ?_
    case refine_2 => (intro w hSw; (try dsimp only at hSw); go_simp; first | done | (with_reducible rfl))
    show wpAnyH _ _ _ _ _ _ _ (Act.put _ (some 17) _) _
    simp only [Act.put, List.setIfInBounds_toArray, List.set_cons_zero, List.set_cons_succ]
    refine wpAnyH_ready (rs := [11, 13]) (by kernel_rfl) (by simp) ?_
    refine (AllReadyH.cons rfl (fun K hK => ?_) (AllReadyH.cons rfl (fun K hK => ?_) AllReadyH.nil))
    · skip
      go_simp
      go_at_call 68
      refine (mayW (HWX.out.below hHeld.1) HD.out v.dst.kind).mono ?_
      rintro e w7 ⟨mx, my, rfl, hmx, hmy, hbr⟩
      have HMX : Hid (∀ t, mx.getLsbD t = true ↔ t < B.length ∧ mayT B v.dst.kind t = true) := hmx
      have HMY : Hid (∀ k, my.getLsbD k = true ↔ k < N.length ∧ ¬ v.dst.kind = 2) := hmy
      clear hmx hmy
      unfold knownV
      go_wp2_with fail
      refine hK.out _ _ ?_ (fun hHeld => ?_)
      · (exact ⟨step_below hbr hHeld.1, step_cell hbr hHeld.2.1, step_cell hbr hHeld.2.2.1, step_cell hbr hHeld.2.2.2.1, step_cell hbr hHeld.2.2.2.2.1, step_cell hbr hHeld.2.2.2.2.2⟩)
      clear hK K
      try simp only [Act.put, List.setIfInBounds_toArray, List.set_cons_zero, List.set_cons_succ]
      clear hbr
      refine wpAnyH_ready (rs := [12, 13]) (by kernel_rfl) (by simp) ?_
      refine (AllReadyH.cons rfl (fun K hK => ?_) (AllReadyH.cons rfl (fun K hK => ?_) AllReadyH.nil))
      · skip
        go_simp
        go_at_call 107
        refine (andO (m.has v.src) (m.is v.src) mx my _).mono ?_
        rintro e w8 ⟨rfl, hbr⟩
        unfold knownV
        go_wp2_with fail
        refine hK.out _ _ ?_ (fun hHeld => ?_)
        · (exact ⟨step_below hbr hHeld.1, step_cell hbr hHeld.2.1, step_cell hbr hHeld.2.2.1, step_cell hbr hHeld.2.2.2.1, step_cell hbr hHeld.2.2.2.2.1, step_cell hbr hHeld.2.2.2.2.2⟩)
        clear hK K
        try simp only [Act.put, List.setIfInBounds_toArray, List.set_cons_zero, List.set_cons_succ]
        clear hbr
        refine wpAnyH_ready (rs := [13]) (by kernel_rfl) (by simp) ?_
        refine (AllReadyH.cons rfl (fun K hK => ?_) AllReadyH.nil)
        have hz8 : wx.heap.size ≤ w8.heap.size := hHeld.1.size
        have h8 := hHeld
        go_simp
        refine hK.out _ _ ?_ (fun hHeld => ?_)
        · (exact ⟨step_below ((Below.refl _ _).alloc (Nat.le_refl _) _) hHeld.1, step_cell ((Below.refl _ _).alloc (Nat.le_refl _) _) hHeld.2.1, step_cell ((Below.refl _ _).alloc (Nat.le_refl _) _) hHeld.2.2.1, step_cell ((Below.refl _ _).alloc (Nat.le_refl _) _) hHeld.2.2.2.1, step_cell ((Below.refl _ _).alloc (Nat.le_refl _) _) hHeld.2.2.2.2.1, step_cell ((Below.refl _ _).alloc (Nat.le_refl _) _) hHeld.2.2.2.2.2⟩)
        clear hK K
        try simp only [Act.put, List.setIfInBounds_toArray, List.set_cons_zero, List.set_cons_succ]
        refine wpAnyH_ready (rs := [14]) (by kernel_rfl) (by simp) ?_
        refine (AllReadyH.cons rfl (fun K hK => ?_) AllReadyH.nil)
        go_simp
        refine hK.out _ _ ?_ (fun hHeld => ?_)
        · (exact ⟨step_below ((Below.refl _ _).alloc (Nat.le_refl _) _) h8.1, step_cell ((Below.refl _ _).alloc (Nat.le_refl _) _) h8.2.1, step_cell ((Below.refl _ _).alloc (Nat.le_refl _) _) h8.2.2.1, step_cell ((Below.refl _ _).alloc (Nat.le_refl _) _) h8.2.2.2.1, step_cell ((Below.refl _ _).alloc (Nat.le_refl _) _) h8.2.2.2.2.1, step_cell ((Below.refl _ _).alloc (Nat.le_refl _) _) h8.2.2.2.2.2⟩)
        clear hK K
        try simp only [Act.put, List.setIfInBounds_toArray, List.set_cons_zero, List.set_cons_succ]
        have HBB : Hid (Below wx.heap.size wx (w8.alloc (.cells #[.int .u64 (bn (m.has v.src &&& mx)), .int .u64 (bn (m.is v.src &&& my))] 108))) := hHeld.1
        refine wpAnyH_done (by kernel_rfl) ?_ _
        clear hHeld
        go_wp2_with fail
        go_meet
        case rel =>
          have hz := HZX.out
          exact ⟨w8.heap.size, m.has v.src &&& mx, m.is v.src &&& my, rfl, mvs HBX.out HBB.out x1 x2 x5 x6 (by omega) (by simp) (by simp [go_sem]) (by simp [go_sem]) (by simp [go_sem]) (by simp [go_sem]), fun hc => got_may hc HMX.out HMY.out⟩
      · skip
        have hz7 : wx.heap.size ≤ w7.heap.size := hHeld.1.size
        go_simp
        refine hK.out _ _ ?_ (fun hHeld => ?_)
        · (exact ⟨step_below ((Below.refl _ _).alloc (Nat.le_refl _) _) hHeld.1, step_cell ((Below.refl _ _).alloc (Nat.le_refl _) _) hHeld.2.1, step_cell ((Below.refl _ _).alloc (Nat.le_refl _) _) hHeld.2.2.1, step_cell ((Below.refl _ _).alloc (Nat.le_refl _) _) hHeld.2.2.2.1, step_cell ((Below.refl _ _).alloc (Nat.le_refl _) _) hHeld.2.2.2.2.1, step_cell ((Below.refl _ _).alloc (Nat.le_refl _) _) hHeld.2.2.2.2.2⟩)
        clear hK K
        try simp only [Act.put, List.setIfInBounds_toArray, List.set_cons_zero, List.set_cons_succ]
        refine wpAnyH_ready (rs := [12]) (by kernel_rfl) (by simp) ?_
        refine (AllReadyH.cons rfl (fun K hK => ?_) AllReadyH.nil)
        go_simp
        go_at_call 107
        refine (andO (m.has v.src) (m.is v.src) mx my _).mono ?_
        rintro e w8 ⟨rfl, hbr⟩
        have k0 : w8.cell? ⟨w7.heap.size, 0, none⟩ = some (.int .u64 0) := step_cell hbr (by first | exact k0 | simp [go_sem])
        have k1 : w8.cell? ⟨w7.heap.size, 1, none⟩ = some (.int .u64 0) := step_cell hbr (by first | exact k1 | simp [go_sem])
        have l0 : w8.frozen? ⟨w7.heap.size, 0, none⟩ = false := step_frozen hbr (by first | exact cell_lt k0' | simp) (by first | exact l0 | simp [go_sem])
        have l1 : w8.frozen? ⟨w7.heap.size, 1, none⟩ = false := step_frozen hbr (by first | exact cell_lt k0' | simp) (by first | exact l1 | simp [go_sem])
        have k0' := k0
        unfold knownV
        go_wp2_with fail
        refine hK.out _ _ ?_ (fun hHeld => ?_)
        · (exact ⟨step_below hbr hHeld.1, step_cell hbr hHeld.2.1, step_cell hbr hHeld.2.2.1, step_cell hbr hHeld.2.2.2.1, step_cell hbr hHeld.2.2.2.2.1, step_cell hbr hHeld.2.2.2.2.2⟩)
        clear hK K
        try simp only [Act.put, List.setIfInBounds_toArray, List.set_cons_zero, List.set_cons_succ]
        clear hbr
        refine wpAnyH_ready (rs := [14]) (by kernel_rfl) (by simp) ?_
        refine (AllReadyH.cons rfl (fun K hK => ?_) AllReadyH.nil)
        go_simp
        refine hK.out _ _ ?_ (fun hHeld => ?_)
        · (have hz := HZX.out; exact ⟨(hHeld.1.setCell (by dsimp only; omega) _).setCell (by dsimp only; omega) _, far2 (by omega) hHeld.2.1, far2 (by omega) hHeld.2.2.1, far2 (by omega) hHeld.2.2.2.1, far2 (by omega) hHeld.2.2.2.2.1, far2 (by omega) hHeld.2.2.2.2.2⟩)
        clear hK K
        try simp only [Act.put, List.setIfInBounds_toArray, List.set_cons_zero, List.set_cons_succ]
        have HBB : Hid (Below wx.heap.size wx ((w8.setCell ⟨w7.heap.size, 0, none⟩ (.int .u64 (bn (m.has v.src &&& mx)))).setCell ⟨w7.heap.size, 1, none⟩ (.int .u64 (bn (m.is v.src &&& my))))) := hHeld.1
        refine wpAnyH_done (by kernel_rfl) ?_ _
        clear hHeld
        go_wp2_with fail
        go_meet
        case rel =>
          have hz := HZX.out
          exact ⟨w7.heap.size, m.has v.src &&& mx, m.is v.src &&& my, rfl, mvs HBX.out HBB.out x1 x2 x5 x6 (by omega) (by have := cell_lt k0; simpa [World.setCell] using this) (by simp [go_sem, k0]) (by simp [go_sem, k1]) (by simpa [go_sem] using l0) (by simpa [go_sem] using l1), fun hc => got_may hc HMX.out HMY.out⟩
    · skip
      go_simp
      refine hK.out _ _ ?_ (fun hHeld => ?_)
      · (exact ⟨step_below ((Below.refl _ _).alloc (Nat.le_refl _) _) hHeld.1, step_cell ((Below.refl _ _).alloc (Nat.le_refl _) _) hHeld.2.1, step_cell ((Below.refl _ _).alloc (Nat.le_refl _) _) hHeld.2.2.1, step_cell ((Below.refl _ _).alloc (Nat.le_refl _) _) hHeld.2.2.2.1, step_cell ((Below.refl _ _).alloc (Nat.le_refl _) _) hHeld.2.2.2.2.1, step_cell ((Below.refl _ _).alloc (Nat.le_refl _) _) hHeld.2.2.2.2.2⟩)
      clear hK K
      try simp only [Act.put, List.setIfInBounds_toArray, List.set_cons_zero, List.set_cons_succ]
      refine wpAnyH_ready (rs := [11]) (by kernel_rfl) (by simp) ?_
      refine (AllReadyH.cons rfl (fun K hK => ?_) AllReadyH.nil)
      go_simp
      go_at_call 68
      refine (mayW (HWX.out.below hHeld.1) HD.out v.dst.kind).mono ?_
      rintro e w7 ⟨mx, my, rfl, hmx, hmy, hbr⟩
      have HMX : Hid (∀ t, mx.getLsbD t = true ↔ t < B.length ∧ mayT B v.dst.kind t = true) := hmx
      have HMY : Hid (∀ k, my.getLsbD k = true ↔ k < N.length ∧ ¬ v.dst.kind = 2) := hmy
      clear hmx hmy
      have k0 : w7.cell? ⟨wx.heap.size, 0, none⟩ = some (.int .u64 0) := step_cell hbr (by first | exact k0 | simp [go_sem])
      have k1 : w7.cell? ⟨wx.heap.size, 1, none⟩ = some (.int .u64 0) := step_cell hbr (by first | exact k1 | simp [go_sem])
      have l0 : w7.frozen? ⟨wx.heap.size, 0, none⟩ = false := step_frozen hbr (by first | exact cell_lt k0' | simp) (by first | exact l0 | simp [go_sem])
      have l1 : w7.frozen? ⟨wx.heap.size, 1, none⟩ = false := step_frozen hbr (by first | exact cell_lt k0' | simp) (by first | exact l1 | simp [go_sem])
      have k0' := k0
      unfold knownV
      go_wp2_with fail
      refine hK.out _ _ ?_ (fun hHeld => ?_)
      · (exact ⟨step_below hbr hHeld.1, step_cell hbr hHeld.2.1, step_cell hbr hHeld.2.2.1, step_cell hbr hHeld.2.2.2.1, step_cell hbr hHeld.2.2.2.2.1, step_cell hbr hHeld.2.2.2.2.2⟩)
      clear hK K
      try simp only [Act.put, List.setIfInBounds_toArray, List.set_cons_zero, List.set_cons_succ]
      clear hbr
      refine wpAnyH_ready (rs := [12]) (by kernel_rfl) (by simp) ?_
      refine (AllReadyH.cons rfl (fun K hK => ?_) AllReadyH.nil)
      go_simp
      go_at_call 107
      refine (andO (m.has v.src) (m.is v.src) mx my _).mono ?_
      rintro e w8 ⟨rfl, hbr⟩
      have k0 : w8.cell? ⟨wx.heap.size, 0, none⟩ = some (.int .u64 0) := step_cell hbr (by first | exact k0 | simp [go_sem])
      have k1 : w8.cell? ⟨wx.heap.size, 1, none⟩ = some (.int .u64 0) := step_cell hbr (by first | exact k1 | simp [go_sem])
      have l0 : w8.frozen? ⟨wx.heap.size, 0, none⟩ = false := step_frozen hbr (by first | exact cell_lt k0' | simp) (by first | exact l0 | simp [go_sem])
      have l1 : w8.frozen? ⟨wx.heap.size, 1, none⟩ = false := step_frozen hbr (by first | exact cell_lt k0' | simp) (by first | exact l1 | simp [go_sem])
      have k0' := k0
      unfold knownV
      go_wp2_with fail
      refine hK.out _ _ ?_ (fun hHeld => ?_)
      · (exact ⟨step_below hbr hHeld.1, step_cell hbr hHeld.2.1, step_cell hbr hHeld.2.2.1, step_cell hbr hHeld.2.2.2.1, step_cell hbr hHeld.2.2.2.2.1, step_cell hbr hHeld.2.2.2.2.2⟩)
      clear hK K
      try simp only [Act.put, List.setIfInBounds_toArray, List.set_cons_zero, List.set_cons_succ]
      clear hbr
      refine wpAnyH_ready (rs := [14]) (by kernel_rfl) (by simp) ?_
      refine (AllReadyH.cons rfl (fun K hK => ?_) AllReadyH.nil)
      go_simp
      refine hK.out _ _ ?_ (fun hHeld => ?_)
      · (have hz := HZX.out; exact ⟨(hHeld.1.setCell (by dsimp only; omega) _).setCell (by dsimp only; omega) _, far2 (by omega) hHeld.2.1, far2 (by omega) hHeld.2.2.1, far2 (by omega) hHeld.2.2.2.1, far2 (by omega) hHeld.2.2.2.2.1, far2 (by omega) hHeld.2.2.2.2.2⟩)
      clear hK K
      try simp only [Act.put, List.setIfInBounds_toArray, List.set_cons_zero, List.set_cons_succ]
      have HBB : Hid (Below wx.heap.size wx ((w8.setCell ⟨wx.heap.size, 0, none⟩ (.int .u64 (bn (m.has v.src &&& mx)))).setCell ⟨wx.heap.size, 1, none⟩ (.int .u64 (bn (m.is v.src &&& my))))) := hHeld.1
      refine wpAnyH_done (by kernel_rfl) ?_ _
      clear hHeld
      go_wp2_with fail
      go_meet
      case rel =>
        have hz := HZX.out
        exact ⟨wx.heap.size, m.has v.src &&& mx, m.is v.src &&& my, rfl, mvs HBX.out HBB.out x1 x2 x5 x6 (by omega) (by have := cell_lt k0; simpa [World.setCell] using this) (by simp [go_sem, k0]) (by simp [go_sem, k1]) (by simpa [go_sem] using l0) (by simpa [go_sem] using l1), fun hc => got_may hc HMX.out HMY.out⟩
  case rest =>
    obtain ⟨gb, x, y, hs6, hmv, hgot⟩ := hcut
    subst hs6
    obtain ⟨wd, hwd⟩ : ∃ wd, wd = wc := ⟨_, rfl⟩
    rw [← hwd] at hmv ⊢
    clear hwd x0 x1 x2 x3 x4 x5 x6 HWX HLK HBX HZX
    have HMV : Hid (MvS w v gb x y wd) := hmv
    have HGT : Hid (v.cst = false → GotM B N m v x y) := hgot
    obtain ⟨cs, hcs⟩ : ∃ cs, cs = v.cst := ⟨_, rfl⟩
    have c4 := hmv.c4
    rw [← hcs] at c4
    have HCS : Hid (cs = v.cst) := hcs
    clear hcs
    have c5 := hmv.c5
    have g0 := hmv.g0
    have g1 := hmv.g1
    have f0 := hmv.f0
    have f1 := hmv.f1
    have hgz := hmv.z
    clear hmv hgot
    go_upto_if 21 with fail
    go_cut [] (fun wq => ∃ gh gi, MvS w v gb gh gi wq ∧ GotM B N m v gh gi)
    case first =>
      rcases Bool.eq_false_or_eq_true cs with hc | hc
      · have c := ofNumW (HW.out.below HMV.out.bel) HD.out q mp mt T m (HF.out.below HMV.out.bel) v.n
        subst hc
        have HC : Hid (v.cst = true) := HCS.out.symm
        go_wp2_with (go_at_call 108; refine c.mono ?_; rintro e w4 ⟨x2, y2, rfl, hx2, hy2, hb4⟩; have HX2 : Hid (∀ t, x2.getLsbD t = true ↔ t < B.length ∧ ofT m y2 t = true) := hx2; have HY2 : Hid (NumS N v.n y2) := hy2; have HB4 : Hid (Below wd.heap.size wd w4) := hb4; have k0 := step_cell hb4 g0; have k1 := step_cell hb4 g1; have l0 := step_frozen hb4 hgz f0; have l1 := step_frozen hb4 hgz f1; clear hx2 hy2 hb4; unfold knownV)
        go_meet
        case rel => exact ⟨x2, y2, (HMV.out.below HB4.out).put x2 y2, got_num HC.out HX2.out HY2.out⟩
      · subst hc
        have HC : Hid (v.cst = false) := HCS.out.symm
        go_wp2
        go_meet
        case rel => exact ⟨x, y, HMV.out, HGT.out HC.out⟩
    case rest =>
      obtain ⟨gh, gi, hmv, hgot⟩ := hcut
      obtain ⟨we, hwe⟩ : ∃ we, we = wc := ⟨_, rfl⟩
      rw [← hwe] at hmv ⊢
      clear hwe c4 c5 g0 g1 f0 f1 hgz HMV HGT
      have HMV : Hid (MvS w v gb gh gi we) := hmv
      have HGT : Hid (GotM B N m v gh gi) := hgot
      have c0 := hmv.c0
      have c1 := hmv.c1
      have hwl : w.heap.size < we.heap.size := cell_lt c0
      have hFe := HF.out.below hmv.bel
      have hba : Below we.heap.size we (we.alloc (.cells #[.int .i64 v.dst.kind, .int .i64 v.dst.n] 37)) := (Below.refl _ _).alloc (Nat.le_refl _) _
      have hne : we.heap.size ≠ mp := by have := hFe.pm.lt; omega
      have c := keepF q mp mt 141 (.pointer (some ⟨we.heap.size, 0, none⟩)) A T m (farB v.dst) _ (hFe.below hba) (staysApart v.dst we.heap.size mp _ (by simp [go_sem]) (by simp [go_sem]) hne)
      have HBA : Hid (Below we.heap.size we (we.alloc (.cells #[.int .i64 v.dst.kind, .int .i64 v.dst.n] 37))) := hba
      clear hmv hgot hFe hba
      go_upto_region 5 with (first
        | (go_at_call 110; refine (apartFromO v.dst _).mono ?_; rintro e w5 ⟨rfl, hw5⟩; subst hw5)
        | (go_at_call 109; refine c.mono ?_; rintro e w6 ⟨rfl, hf6, hb6⟩; have HF6 : Hid (FMAt w6 q mp mt A T ⟨fun p => if farB v.dst p = true then m.has p else 0, fun p => if farB v.dst p = true then m.is p else 0, m.tmp⟩) := hf6; have HB6 : Hid (But mp mp we w6) := hb6.mono HBA.out; clear hf6 hb6))
      clear c c0 c1
      have hlm := HF.out.lt
      have hlo := HMV.out.lo
      have x0 := HF6.out.c0
      have x1 : w6.cell? ⟨w.heap.size, 0, none⟩ = some (.int .i64 v.dst.kind) := HB6.out.cellOf HMV.out.c0 (by omega) (by omega)
      have x2 : w6.cell? ⟨w.heap.size, 1, none⟩ = some (.int .i64 v.dst.n) := HB6.out.cellOf HMV.out.c1 (by omega) (by omega)
      have x3 : w6.cell? ⟨gb, 0, none⟩ = some (.int .u64 (bn gh)) := HB6.out.cellOf HMV.out.g0 (by omega) (by omega)
      have x4 : w6.cell? ⟨gb, 1, none⟩ = some (.int .u64 (bn gi)) := HB6.out.cellOf HMV.out.g1 (by omega) (by omega)
      have hn36 : A.length < maxLen := by have := HD.out.a36; unfold maxLen; omega
      obtain ⟨w9, hrun, hp9, hg9⟩ := (HF6.out.pm.of_block (w' := w6.drew) rfl).put hn36 (HD.out.wf hdst) ((HD.out.all _).2 hdst) gh gi
      unfold LPlace.val knownV at hrun
      have HP9 : Hid (PMap w9 mp A (updP (fun p => if farB v.dst p = true then m.has p else 0) v.dst gh) (updP (fun p => if farB v.dst p = true then m.is p else 0) v.dst gi)) := hp9
      have HG9 : Hid (w6.drew.grownBy w9 (some mp)) := hg9
      clear hp9 hg9
      go_region
      all_goals go_wp2
      go_end0
      have hb9 : But mp mp w6 w9 := ⟨HG9.out.os, HG9.out.tape, HG9.out.output, HG9.out.size, fun k hk h1 _ => HG9.out.block k hk (fun e => h1 (Option.some.inj e))⟩
      have hF6 := HF6.out
      have e1 : (fun p => if farB v.dst p = true then m.has p else 0) = keepP m.has v.dst := far_keep _ _
      have e2 : (fun p => if farB v.dst p = true then m.is p else 0) = keepP m.is v.dst := far_keep _ _
      exact ⟨rfl, gh, gi, HGT.out, ⟨hb9.cellOf hF6.c0 hF6.n1 hF6.n1, hb9.cellOf hF6.c1 hF6.n1 hF6.n1, by have h := HP9.out; simp only [e1, e2] at h; exact h, hF6.tm.of_block (hb9.block mt hF6.tm.lt (Ne.symm hF6.n3) (Ne.symm hF6.n3)), hF6.n1, hF6.n2, hF6.n3⟩, (But.of_below HMV.out.bel).trans (HB6.out.trans hb9)⟩

set_option maxHeartbeats 4000000 in
theorem moveAllW {lim : Nat} {g : WB} {B : List Bool} {C : List LIns} {R : List LRow} {A : List LPlace} {N : List Int} {s slots : Nat} (hD : Dims B C s slots A N) (q mp mt : Nat) (T : List Int) (hq : lim ≤ q) (hmp : lim ≤ mp) (l : List LMove) (hl : ∀ v, v ∈ l → moveB s slots v = true) (h6 : l.length ≤ 6) (mv : Value) (w : World) (hW : WorldAt w lim g B C R A N) (m : FM) (hF : FMAt w q mp mt A T m) (hok : FmOk B s slots N m) (hM : MovesIs w mv l) (hmb : 0 < l.length → ∀ b o n c, mv = .slice (some ⟨b, o, none⟩) n c → b ≠ mp) :
    Calls Tryz.prog 44 #[.pointer (some ⟨g.q, 0, none⟩), .pointer (some ⟨q, 0, none⟩), mv] w fun e w' => e = .returned (.tuple #[]) ∧ ∃ m', FMAt w' q mp mt A T m' ∧ FmOk B s slots N m' ∧ (∀ f, Kof N m' f ↔ movesK (FactOk B s slots (NumP C)) l (Kof N m) f) ∧ But mp mp w w' := by
  obtain ⟨ao, cap, rfl, hll, hc⟩ := hM
  have HC : Hid _ := hc
  have HMB : Hid (0 < l.length → ∀ b o n c, Value.slice ao l.length cap = .slice (some ⟨b, o, none⟩) n c → b ≠ mp) := hmb
  have HD : Hid (Dims B C s slots A N) := hD
  have HW : Hid (WorldAt w lim g B C R A N) := hW
  have HL : Hid (∀ v, v ∈ l → moveB s slots v = true) := hl
  have HF0 : Hid (FMAt w q mp mt A T m) := hF
  have HOK : Hid (FmOk B s slots N m) := hok
  have hz6 : (l.length : Int) ≤ 6 := by omega
  clear hc hmb hD hW hl hF hok
  go_enter Tryz.func44, Tryz.ntmps44
  go_wp2
  go_loopw [7, 10] (fun v7 v wr => ∃ (k : Nat) (mk : FM), v = .int .i64 k ∧ k ≤ l.length ∧ FMAt wr q mp mt A T mk ∧ FmOk B s slots N mk ∧ (∀ f, Kof N mk f ↔ movesK (FactOk B s slots (NumP C)) (l.take k) (Kof N m) f) ∧ But mp mp w wr) (fun _ v _ => l.length - (sortu.numOf v).toNat)
  case atStart => exact ⟨0, m, rfl, by omega, HF0.out, HOK.out, fun f => by simp [movesK], But.of_below (Below.refl _ _)⟩
  case round =>
    obtain ⟨k, mk, rfl, hk, hf, hokk, his, hbk⟩ := hrel
    have HF : Hid (FMAt wr q mp mt A T mk) := hf
    have HOKK : Hid (FmOk B s slots N mk) := hokk
    have HIS : Hid (∀ f, Kof N mk f ↔ movesK (FactOk B s slots (NumP C)) (l.take k) (Kof N m) f) := his
    have HBK : Hid (But mp mp w wr) := hbk
    clear hf hokk his hbk
    by_cases hkl : k < l.length
    case neg =>
      have hkz : ¬ (k : Int) < (l.length : Int) := by omega
      go_wp2
      go_end0
      refine ⟨rfl, mk, HF.out, HOKK.out, fun f => ?_, HBK.out⟩
      have e : l.take k = l := List.take_of_length_le (by omega)
      rw [HIS.out f, e]
    have hkz : (k : Int) < (l.length : Int) := by omega
    obtain ⟨b, o, hao, hbl, hcell⟩ := HC.out (by omega)
    subst hao
    have hbm := HMB.out (by omega) b o _ _ rfl
    obtain ⟨d0, d1, d2, d3, d4, d5⟩ := hcell k hkl
    obtain ⟨v, hv⟩ : ∃ v, v = l.getD k .zero := ⟨_, rfl⟩
    rw [← hv] at d0 d1 d2 d3 d4 d5
    have y0 := HBK.out.cellOf d0 hbm hbm
    have y1 := HBK.out.cellOf d1 hbm hbm
    have y2 := HBK.out.cellOf d2 hbm hbm
    have y3 := HBK.out.cellOf d3 hbm hbm
    have y4 := HBK.out.cellOf d4 hbm hbm
    have y5 := HBK.out.cellOf d5 hbm hbm
    have HV : Hid (v = l.getD k .zero) := hv
    have hvm : v ∈ l := by rw [hv]; simp [List.getD, hkl]
    have hbv := HL.out v hvm
    clear hcell d0 d1 d2 d3 d4 d5 hv hvm
    have hb2 : b < wr.heap.size := cell_lt y0
    have hba : Below wr.heap.size wr (wr.alloc (.cells #[.int .i64 v.dst.kind, .int .i64 v.dst.n, .int .i64 v.src.kind, .int .i64 v.src.n, .bool v.cst, .int .u32 v.n] 52)) := (Below.refl _ _).alloc (Nat.le_refl _) _
    have c := moveW ((HW.out.but HBK.out hmp hmp).below hba) HD.out q mp mt T mk (HF.out.below hba) hq hmp v hbv HOKK.out
    have HBV : Hid (moveB s slots v = true) := hbv
    have HBA : Hid (Below wr.heap.size wr (wr.alloc (.cells #[.int .i64 v.dst.kind, .int .i64 v.dst.n, .int .i64 v.src.kind, .int .i64 v.src.n, .bool v.cst, .int .u32 v.n] 52))) := hba
    clear hba hbv
    unfold LMove.val at c
    go_wp2_with (go_at_call 74; refine c.mono ?_; rintro e w1 ⟨rfl, gh, gi, hg, hf1, hb1⟩; have HG : Hid (GotM B N mk v gh gi) := hg; have HF1 : Hid (FMAt w1 q mp mt A T (moveF mk v.dst gh gi)) := hf1; have HB1 : Hid (But mp mp wr w1) := hb1.mono HBA.out; clear hg hf1 hb1)
    go_roundw
    case rel =>
      refine ⟨k + 1, moveF mk v.dst gh gi, by go_num, by omega, HF1.out, moveF_ok HOKK.out HBV.out HG.out, fun f => ?_, HBK.out.trans HB1.out⟩
      rw [moveF_is HOKK.out HD.out.num HBV.out HG.out]
      have e : l.take (k + 1) = l.take k ++ [v] := by rw [HV.out, List.take_succ_eq_append_getElem hkl]; simp [List.getD, hkl]
      rw [e]
      unfold movesK
      rw [List.foldl_append]
      simp only [List.foldl_cons, List.foldl_nil]
      exact moveK_iff (fun f => HIS.out f) f
    case measure => simp [sortu.numOf]; omega
end Go.Proofs.YtcmnmogmdhofcabGreat.form

/- What an instruction gives, and where the same is (world.given and its closures). -/
namespace Go.Proofs.YtcmnmogmdhofcabGreat.form
open Go.RowKit Go.Maps
set_option linter.unusedVariables false
set_option maxRecDepth 100000
attribute [local go_sem ↓] Go.wp_at_zero Go.wp_at_succ

def SameIs (w : World) (mp F : Nat) (caps : Array Value) (sm : Bits → Bits → Bool) : Prop := (∀ x w, Sem.run Tryz.prog (callFunc F (#[x] ++ caps)) w = .ok (.enter F (#[x] ++ caps)) w) ∧ ∀ x y w2, But mp mp w w2 → Calls Tryz.prog F (#[knownV x y] ++ caps) w2 fun e w' => e = .returned (.bool (sm x y)) ∧ Below w2.heap.size w2 w'

theorem given1 (z x y : Bits) (sb : Nat) (w : World) (h : w.cell? ⟨sb, 0, none⟩ = some (.int .u64 (bn z))) : Calls Tryz.prog 154 #[knownV x y, .pointer (some ⟨sb, 0, none⟩)] w fun e w' => e = .returned (.bool (!((y &&& z) == 0))) ∧ Below w.heap.size w w' := by
  have ha := and_is y z
  have hn := ne_is (y &&& z)
  obtain ⟨c, hc⟩ : ∃ c, c = (!((y &&& z) == 0)) := ⟨_, rfl⟩
  rw [← hc] at hn ⊢
  have HB : Hid (∀ o1 : Obj, Below w.heap.size w (w.alloc o1)) := fun o1 => (Below.refl _ _).alloc (Nat.le_refl _) _
  have hlt := cell_lt h
  clear hc
  unfold knownV
  go_enter Tryz.func154, Tryz.ntmps154
  go_wp2
  go_ret
  exact ⟨rfl, HB.out _⟩
theorem given2 (x y : Bits) (a : Nat) (ha : a < 64) (ib : Nat) (w : World) (h : w.cell? ⟨ib, 2, none⟩ = some (.int .i64 a)) : Calls Tryz.prog 155 #[knownV x y, .pointer (some ⟨ib, 0, none⟩)] w fun e w' => e = .returned (.bool (x.getLsbD a)) ∧ Below w.heap.size w w' := by
  have HB : Hid (∀ o1 : Obj, Below w.heap.size w (w.alloc o1)) := fun o1 => (Below.refl _ _).alloc (Nat.le_refl _) _
  have hlt := cell_lt h
  unfold knownV
  go_enter Tryz.func155, Tryz.ntmps155
  go_wp2_with (go_at_call 46; refine (containsO x a ha _).mono ?_; rintro e w1 ⟨rfl, hw1⟩; obtain rfl := hw1.symm)
  go_ret
  exact ⟨rfl, HB.out _⟩
theorem given3 (x y : Bits) (w : World) : Calls Tryz.prog 156 #[knownV x y] w fun e w' => e = .returned (.bool false) ∧ Below w.heap.size w w' := by
  have HB : Hid (∀ o1 : Obj, Below w.heap.size w (w.alloc o1)) := fun o1 => (Below.refl _ _).alloc (Nat.le_refl _) _
  unfold knownV
  go_enter Tryz.func156, Tryz.ntmps156
  go_wp2
  go_ret
  exact ⟨rfl, HB.out _⟩

structure GivenS (B : List Bool) (N : List Int) (m : FM) (i : LIns) (gh gi : Bits) (sm : Bits → Bits → Bool) : Prop where
  h : ∀ t : Nat, gh.getLsbD t = true ↔ i.op = 2 ∧ (t : Int) = i.a
  y : ∀ k, gi.getLsbD k = true ↔ (i.op = 1 ∧ k < N.length ∧ nAt N k = i.n) ∨ (i.op = 2 ∧ (m.tmp i.a).getLsbD k = true)
  s : ∀ x y, sm x y = true ↔ (i.op = 1 ∧ ∃ k, k < N.length ∧ nAt N k = i.n ∧ y.getLsbD k = true) ∨ (i.op = 2 ∧ x.getLsbD i.a.toNat = true)

set_option maxHeartbeats 800000 in
theorem givenC {w : World} {lim : Nat} {g : WB} {B : List Bool} {C : List LIns} {R : List LRow} {A : List LPlace} {N : List Int} {s slots : Nat} (hW : WorldAt w lim g B C R A N) (hD : Dims B C s slots A N) (q mp mt : Nat) (T : List Int) (m : FM) (hF : FMAt w q mp mt A T m) (i : LIns) (h1 : i.op = 1) :
    Calls Tryz.prog 138 #[.pointer (some ⟨g.q, 0, none⟩), .pointer (some ⟨q, 0, none⟩), i.val] w fun e w' => ∃ gh gi F caps sm, e = .returned (.tuple #[knownV gh gi, .func (.func F) #[] caps]) ∧ SameIs w' mp F caps sm ∧ GivenS B N m i gh gi sm ∧ Below w.heap.size w w' := by
  have hb12 := hD.b12
  have HW : Hid (WorldAt w lim g B C R A N) := hW
  have HD : Hid (Dims B C s slots A N) := hD
  have HF : Hid (FMAt w q mp mt A T m) := hF
  have hpl := hF.pm.lt
  have hx1 := hF.c1
  have hql := hF.lt.1
  have hb2 : Below w.heap.size w ((w.alloc (.cells #[.int .i64 i.op, .int .i64 i.dest, .int .i64 i.a, .int .i64 i.b, .int .i64 i.c, .int .u32 i.n] 35)).alloc (.cells #[.int .u64 0, .int .u64 0] 108)) := ((Below.refl _ _).alloc (Nat.le_refl _) _).alloc (by simp) _
  have HB2 : Hid (Below w.heap.size w ((w.alloc (.cells #[.int .i64 i.op, .int .i64 i.dest, .int .i64 i.a, .int .i64 i.b, .int .i64 i.c, .int .u32 i.n] 35)).alloc (.cells #[.int .u64 0, .int .u64 0] 108))) := hb2
  have c := numberO (hW.below hb2) hD i.n
  have HO : Hid (i.op = 1) := h1
  have h1z : (i.op == 1) = true := by simp [h1]
  clear hW hD hF hb2 h1
  unfold LIns.val
  go_enter Tryz.func138, Tryz.ntmps138
  go_wp2_with (go_at_call 67; refine c.mono ?_; rintro e w1 ⟨⟨y, rfl, hy⟩, hw1⟩; obtain rfl := hw1.symm; have HY : Hid (NumS N i.n y) := hy; clear hy)
  refine bodyPost_ret (v := .tuple #[knownV 0 y, .func (.func 154) #[] #[.pointer (some ⟨w.heap.size + 1 + 1, 0, none⟩)]]) ?_ rfl ⟨0, y, _, _, fun x z => !((z &&& y) == 0), rfl, ⟨fun x w => rfl, fun x z w2 hb => given1 y x z _ w2 (hb.cellOf (by simp [go_sem]) (by omega) (by omega))⟩, ?_, ?_⟩
  · simp [results, Tryz.results138, go_sem, knownV]
    rfl
  · have ho := HO.out
    refine ⟨fun t => by simp [ho], fun k => by rw [HY.out]; simp [ho], fun x z => ?_⟩
    simp only [Bool.not_eq_true', beq_eq_false_iff_ne, ne_eq]
    rw [bits_ne]
    simp only [ho]
    constructor
    · rintro ⟨k, hk⟩
      rw [bits_and, HY.out] at hk
      exact Or.inl ⟨trivial, k, hk.2.1, hk.2.2, hk.1⟩
    · rintro (⟨-, k, k1, k2, k3⟩ | ⟨h, -⟩)
      · exact ⟨k, by rw [bits_and, HY.out]; exact ⟨k3, k1, k2⟩⟩
      · exact absurd h (by decide)
  · exact (((Below.refl _ _).alloc (Nat.le_refl _) _).alloc (by simp) _).alloc (by simp; omega) _
set_option maxHeartbeats 800000 in
theorem givenM {w : World} {lim : Nat} {g : WB} {B : List Bool} {C : List LIns} {R : List LRow} {A : List LPlace} {N : List Int} {s slots : Nat} (hW : WorldAt w lim g B C R A N) (hD : Dims B C s slots A N) (q mp mt : Nat) (T : List Int) (m : FM) (hF : FMAt w q mp mt A T m) (i : LIns) (h1 : ¬ i.op = 1) (h2 : i.op = 2) (ha : 0 ≤ i.a ∧ i.a < B.length) :
    Calls Tryz.prog 138 #[.pointer (some ⟨g.q, 0, none⟩), .pointer (some ⟨q, 0, none⟩), i.val] w fun e w' => ∃ gh gi F caps sm, e = .returned (.tuple #[knownV gh gi, .func (.func F) #[] caps]) ∧ SameIs w' mp F caps sm ∧ GivenS B N m i gh gi sm ∧ Below w.heap.size w w' := by
  have hb12 := hD.b12
  have HW : Hid (WorldAt w lim g B C R A N) := hW
  have HD : Hid (Dims B C s slots A N) := hD
  have HF : Hid (FMAt w q mp mt A T m) := hF
  have hpl := hF.pm.lt
  have hx1 := hF.c1
  have hql := hF.lt.1
  have hb2 : Below w.heap.size w ((w.alloc (.cells #[.int .i64 i.op, .int .i64 i.dest, .int .i64 i.a, .int .i64 i.b, .int .i64 i.c, .int .u32 i.n] 35)).alloc (.cells #[.int .u64 0, .int .u64 0] 108)) := ((Below.refl _ _).alloc (Nat.le_refl _) _).alloc (by simp) _
  have HB2 : Hid (Below w.heap.size w ((w.alloc (.cells #[.int .i64 i.op, .int .i64 i.dest, .int .i64 i.a, .int .i64 i.b, .int .i64 i.c, .int .u32 i.n] 35)).alloc (.cells #[.int .u64 0, .int .u64 0] 108))) := hb2
  have h1z : (i.op == 1) = false := by simp [h1]
  obtain ⟨a0, a1⟩ := ha
  obtain ⟨a, haa⟩ : ∃ a : Nat, i.a = a := ⟨i.a.toNat, by omega⟩
  have h64 : a < 64 := by omega
  have HO : Hid (i.op = 2) := h2
  have HA : Hid (i.a = (a : Int)) := haa
  have h2z : (i.op == 2) = true := by simp [h2]
  clear hW hD hF hb2 h1 h2 haa a0 a1
  unfold LIns.val
  go_enter Tryz.func138, Tryz.ntmps138
  go_upto_region 6 with fail
  obtain ⟨wy, hwy⟩ : ∃ wy, wy = (w.alloc (.cells #[.int .i64 i.op, .int .i64 i.dest, .int .i64 i.a, .int .i64 i.b, .int .i64 i.c, .int .u32 i.n] 35)).alloc (.cells #[.int .u64 0, .int .u64 0] 108) := ⟨_, rfl⟩
  have hby : Below w.heap.size w wy := by rw [hwy]; exact HB2.out
  have HBY : Hid (Below w.heap.size w wy) := hby
  have b2 : wy.cell? ⟨w.heap.size, 2, none⟩ = some (.int .i64 a) := by rw [hwy, ← HA.out]; simp [go_sem]
  have g0 : wy.cell? ⟨w.heap.size + 1, 0, none⟩ = some (.int .u64 0) := by rw [hwy]; simp [go_sem]
  have g1 : wy.cell? ⟨w.heap.size + 1, 1, none⟩ = some (.int .u64 0) := by rw [hwy]; simp [go_sem]
  have f0 : wy.frozen? ⟨w.heap.size + 1, 0, none⟩ = false := by rw [hwy]; simp [go_sem]
  have f1 : wy.frozen? ⟨w.heap.size + 1, 1, none⟩ = false := by rw [hwy]; simp [go_sem]
  have hzy : wy.heap.size = w.heap.size + 1 + 1 := by rw [hwy]; simp
  have HZY : Hid (wy.heap.size = w.heap.size + 1 + 1) := hzy
  have HFY : Hid (FMAt wy q mp mt A T m) := HF.out.below HBY.out
  rw [← hwy]
  clear hwy hx1 hby hzy
  have x1 : wy.cell? ⟨q, 1, none⟩ = some (.map (some mt)) := HFY.out.c1
  have HLK : Hid (∀ w5, Below w.heap.size w w5 → (Instr.lookup 110 (.map (some mt)) (.int .i64 (a : Int)) false).run Tryz.prog w5 = .ok (.int .u64 (bn (m.tmp a))) w5) := fun w5 hb => TMap.look (HF.out.below hb).tm ⟨by omega, by omega⟩
  refine wp_region_held_drew (S := (fun w' => Below w.heap.size w w' ∧ w'.cell? ⟨q, 1, none⟩ = some (.map (some mt)) ∧ w'.cell? ⟨w.heap.size, 2, none⟩ = some (.int .i64 (a : Int)))) (by rfl) ?_ (fun hHeld => ?_)
  · (exact ⟨below_drewN HBY.out 1, x1, b2⟩)
  refine wpAnyH_take (i := 0) (v := ?_) rfl (by kernel_rfl) (by kernel_rfl) (by kernel_rfl) (fun _ _ _ h => h) (Or.inl ⟨by rfl, ?_⟩) (by assumption) ?_
  case refine_2 => (intro w hSw; (try dsimp only at hSw); go_simp; first | done | (with_reducible rfl))
  show wpAnyH _ _ _ _ _ _ _ (Act.put _ (some 22) _) _
  simp only [Act.put, List.setIfInBounds_toArray, List.set_cons_zero, List.set_cons_succ]
  refine wpAnyH_take (i := 1) (v := ?_) rfl (by kernel_rfl) (by kernel_rfl) (by kernel_rfl) (fun _ _ _ h => h) (Or.inl ⟨by rfl, ?_⟩) (by assumption) ?_
  case refine_2 => (intro w hSw; (try dsimp only at hSw); go_simp; first | done | (with_reducible rfl))
  show wpAnyH _ _ _ _ _ _ _ (Act.put _ (some 23) _) _
  simp only [Act.put, List.setIfInBounds_toArray, List.set_cons_zero, List.set_cons_succ]
  refine wpAnyH_take (i := 3) (v := ?_) rfl (by kernel_rfl) (by kernel_rfl) (by kernel_rfl) (fun _ _ _ h => h) (Or.inl ⟨by rfl, ?_⟩) (by assumption) ?_
  case refine_2 => (intro w hSw; (try dsimp only at hSw); go_simp; first | done | (with_reducible rfl))
  show wpAnyH _ _ _ _ _ _ _ (Act.put _ (some 25) _) _
  simp only [Act.put, List.setIfInBounds_toArray, List.set_cons_zero, List.set_cons_succ]
  refine wpAnyH_take (i := 4) (v := ?_) rfl (by kernel_rfl) (by kernel_rfl) (by kernel_rfl) (fun _ _ _ h => h) (Or.inl ⟨by rfl, ?_⟩) (by assumption) ?_
  case refine_2 => (intro w hSw; (try dsimp only at hSw); go_simp; first | done | (with_reducible rfl))
  show wpAnyH _ _ _ _ _ _ _ (Act.put _ (some 26) _) _
  simp only [Act.put, List.setIfInBounds_toArray, List.set_cons_zero, List.set_cons_succ]
  refine wpAnyH_take (i := 5) (v := ?_) rfl (by kernel_rfl) (by kernel_rfl) (by kernel_rfl) (fun _ _ _ h => h) (Or.inl ⟨by rfl, ?_⟩) (by assumption) ?_
  case refine_2 => (intro w hSw; (try dsimp only at hSw); go_simp; first | done | (with_reducible rfl))
  show wpAnyH _ _ _ _ _ _ _ (Act.put _ (some 27) _) _
  simp only [Act.put, List.setIfInBounds_toArray, List.set_cons_zero, List.set_cons_succ]
  refine wpAnyH_take (i := 6) (v := ?_) rfl (by kernel_rfl) (by kernel_rfl) (by kernel_rfl) (fun _ _ _ h => h) (Or.inl ⟨by rfl, ?_⟩) (by assumption) ?_
  case refine_2 => (intro w hSw; (try dsimp only at hSw); go_simp; first | done | (with_reducible rfl))
  show wpAnyH _ _ _ _ _ _ _ (Act.put _ (some 28) _) _
  simp only [Act.put, List.setIfInBounds_toArray, List.set_cons_zero, List.set_cons_succ]
  refine wpAnyH_take (i := 7) (v := ?_) rfl (by kernel_rfl) (by kernel_rfl) (by kernel_rfl) (fun _ _ _ h => h) (Or.inl ⟨by rfl, ?_⟩) (by assumption) ?_
  case refine_2 => (intro w hSw; (try dsimp only at hSw); go_simp; first | done | (with_reducible rfl))
  show wpAnyH _ _ _ _ _ _ _ (Act.put _ (some 29) _) _
  simp only [Act.put, List.setIfInBounds_toArray, List.set_cons_zero, List.set_cons_succ]
  refine wpAnyH_take (i := 8) (v := ?_) rfl (by kernel_rfl) (by kernel_rfl) (by kernel_rfl) (fun _ _ _ h => h) (Or.inl ⟨by rfl, ?_⟩) (by assumption) ?_
  case refine_2 => (intro w hSw; (try dsimp only at hSw); go_simp; first | done | (with_reducible rfl))
  show wpAnyH _ _ _ _ _ _ _ (Act.put _ (some 30) _) _
  simp only [Act.put, List.setIfInBounds_toArray, List.set_cons_zero, List.set_cons_succ]
  refine wpAnyH_take (i := 9) (v := ?_) rfl (by kernel_rfl) (by kernel_rfl) (by kernel_rfl) (fun _ _ _ h => h) (Or.inl ⟨by rfl, ?_⟩) (by assumption) ?_
  case refine_2 => (intro w5 hSw; (try dsimp only at hSw); have hl := HLK.out w5 hSw.1; go_simp; first | done | (with_reducible rfl))
  show wpAnyH _ _ _ _ _ _ _ (Act.put _ (some 31) _) _
  simp only [Act.put, List.setIfInBounds_toArray, List.set_cons_zero, List.set_cons_succ]
  refine wpAnyH_take (i := 11) (v := ?_) rfl (by kernel_rfl) (by kernel_rfl) (by kernel_rfl) (fun _ _ _ h => h) (Or.inl ⟨by rfl, ?_⟩) (by assumption) ?_
  case refine_2 => (intro w hSw; (try dsimp only at hSw); go_simp; first | done | (with_reducible rfl))
  show wpAnyH _ _ _ _ _ _ _ (Act.put _ (some 33) _) _
  simp only [Act.put, List.setIfInBounds_toArray, List.set_cons_zero, List.set_cons_succ]
  refine wpAnyH_ready (rs := [2]) (by kernel_rfl) (by simp) ?_
  refine (AllReadyH.cons rfl (fun K hK => ?_) AllReadyH.nil)
  go_simp
  go_at_call 77
  refine (onlyO a h64 _).mono ?_
  rintro e w1 ⟨rfl, hw1⟩
  obtain rfl := hw1.symm
  go_wp2_with fail
  refine hK.out _ _ ?_ (fun hHeld => ?_)
  · (exact hHeld)
  clear hK K
  try simp only [Act.put, List.setIfInBounds_toArray, List.set_cons_zero, List.set_cons_succ]
  refine wpAnyH_take (i := 10) (v := ?_) rfl (by kernel_rfl) (by kernel_rfl) (by kernel_rfl) (fun _ _ _ h => h) (Or.inl ⟨by rfl, ?_⟩) (by assumption) ?_
  case refine_2 => (intro w hSw; (try dsimp only at hSw); go_simp; first | done | (with_reducible rfl))
  show wpAnyH _ _ _ _ _ _ _ (Act.put _ (some 32) _) _
  simp only [Act.put, List.setIfInBounds_toArray, List.set_cons_zero, List.set_cons_succ]
  refine wpAnyH_ready (rs := [12]) (by kernel_rfl) (by simp) ?_
  refine (AllReadyH.cons rfl (fun K hK => ?_) AllReadyH.nil)
  go_simp
  refine hK.out _ _ ?_ (fun hHeld => ?_)
  · (exact ⟨(hHeld.1.setCell (by dsimp only; omega) _).setCell (by dsimp only; omega) _, far2 (by omega) hHeld.2.1, far2 (by omega) hHeld.2.2⟩)
  clear hK K
  try simp only [Act.put, List.setIfInBounds_toArray, List.set_cons_zero, List.set_cons_succ]
  refine wpAnyH_take (i := 13) (v := ?_) rfl (by kernel_rfl) (by kernel_rfl) (by kernel_rfl) (fun _ _ _ h => h) (Or.inl ⟨by rfl, ?_⟩) (by assumption) ?_
  case refine_2 => (intro w hSw; (try dsimp only at hSw); go_simp; first | done | (with_reducible rfl))
  show wpAnyH _ _ _ _ _ _ _ (Act.put _ (some 7) _) _
  simp only [Act.put, List.setIfInBounds_toArray, List.set_cons_zero, List.set_cons_succ]
  refine wpAnyH_done (by kernel_rfl) ?_ _
  clear hHeld
  go_wp2_with fail
  refine bodyPost_ret (v := .tuple #[knownV (only a) (m.tmp a), .func (.func 155) #[] #[.pointer (some ⟨w.heap.size, 0, none⟩)]]) ?_ rfl ⟨only a, m.tmp a, _, _, fun x z => x.getLsbD a, rfl, ⟨fun x w => rfl, fun x z w2 hb => given2 x z a h64 _ w2 (hb.cellOf (by simp [go_sem, b2]) (by omega) (by omega))⟩, ?_, ?_⟩
  · simp [results, Tryz.results138, go_sem, knownV, g0, g1]
  · have ho := HO.out
    have hA := HA.out
    refine ⟨fun t => ?_, fun k => by rw [hA]; simp [ho], fun x z => by rw [hA]; simp [ho]⟩
    rw [only_bit h64, hA]
    simp only [ho, true_and]
    omega
  · exact ((below_drewN HBY.out 1).setCell (by dsimp only; omega) _).setCell (by dsimp only; omega) _
set_option maxHeartbeats 800000 in
theorem givenN {w : World} {lim : Nat} {g : WB} {B : List Bool} {C : List LIns} {R : List LRow} {A : List LPlace} {N : List Int} {s slots : Nat} (hW : WorldAt w lim g B C R A N) (hD : Dims B C s slots A N) (q mp mt : Nat) (T : List Int) (m : FM) (hF : FMAt w q mp mt A T m) (i : LIns) (h1 : ¬ i.op = 1) (h2 : ¬ i.op = 2) :
    Calls Tryz.prog 138 #[.pointer (some ⟨g.q, 0, none⟩), .pointer (some ⟨q, 0, none⟩), i.val] w fun e w' => ∃ gh gi F caps sm, e = .returned (.tuple #[knownV gh gi, .func (.func F) #[] caps]) ∧ SameIs w' mp F caps sm ∧ GivenS B N m i gh gi sm ∧ Below w.heap.size w w' := by
  have hb12 := hD.b12
  have HW : Hid (WorldAt w lim g B C R A N) := hW
  have HD : Hid (Dims B C s slots A N) := hD
  have HF : Hid (FMAt w q mp mt A T m) := hF
  have hpl := hF.pm.lt
  have hx1 := hF.c1
  have hql := hF.lt.1
  have hb2 : Below w.heap.size w ((w.alloc (.cells #[.int .i64 i.op, .int .i64 i.dest, .int .i64 i.a, .int .i64 i.b, .int .i64 i.c, .int .u32 i.n] 35)).alloc (.cells #[.int .u64 0, .int .u64 0] 108)) := ((Below.refl _ _).alloc (Nat.le_refl _) _).alloc (by simp) _
  have HB2 : Hid (Below w.heap.size w ((w.alloc (.cells #[.int .i64 i.op, .int .i64 i.dest, .int .i64 i.a, .int .i64 i.b, .int .i64 i.c, .int .u32 i.n] 35)).alloc (.cells #[.int .u64 0, .int .u64 0] 108))) := hb2
  have h1z : (i.op == 1) = false := by simp [h1]
  have h2z : (i.op == 2) = false := by simp [h2]
  have HO : Hid (¬ i.op = 1 ∧ ¬ i.op = 2) := ⟨h1, h2⟩
  clear hW hD hF hb2 h1 h2
  unfold LIns.val
  go_enter Tryz.func138, Tryz.ntmps138
  go_wp2
  refine bodyPost_ret (v := .tuple #[knownV 0 0, .func (.func 156) #[] #[]]) ?_ rfl ⟨0, 0, _, _, fun x z => false, rfl, ⟨fun x w => rfl, fun x z w2 hb => given3 x z w2⟩, ?_, ?_⟩
  · simp [results, Tryz.results138, go_sem, knownV]
    rfl
  · have ho := HO.out
    exact ⟨fun t => by simp [ho.2], fun k => by simp [ho.1, ho.2], fun x z => by simp [ho.1, ho.2]⟩
  · exact ((Below.refl _ _).alloc (Nat.le_refl _) _).alloc (by simp) _
theorem givenW {w : World} {lim : Nat} {g : WB} {B : List Bool} {C : List LIns} {R : List LRow} {A : List LPlace} {N : List Int} {s slots : Nat} (hW : WorldAt w lim g B C R A N) (hD : Dims B C s slots A N) (q mp mt : Nat) (T : List Int) (m : FM) (hF : FMAt w q mp mt A T m) (i : LIns) (ha : i.op = 2 → 0 ≤ i.a ∧ i.a < B.length) :
    Calls Tryz.prog 138 #[.pointer (some ⟨g.q, 0, none⟩), .pointer (some ⟨q, 0, none⟩), i.val] w fun e w' => ∃ gh gi F caps sm, e = .returned (.tuple #[knownV gh gi, .func (.func F) #[] caps]) ∧ SameIs w' mp F caps sm ∧ GivenS B N m i gh gi sm ∧ Below w.heap.size w w' := by
  by_cases h1 : i.op = 1
  · exact givenC hW hD q mp mt T m hF i h1
  by_cases h2 : i.op = 2
  · exact givenM hW hD q mp mt T m hF i h1 h2 (ha h2)
  · exact givenN hW hD q mp mt T m hF i h1 h2
end Go.Proofs.YtcmnmogmdhofcabGreat.form

/- What is known behind an instruction that gives (world.give). -/
namespace Go.Proofs.YtcmnmogmdhofcabGreat.form
open Go.RowKit Go.Maps
set_option linter.unusedVariables false
set_option maxRecDepth 100000
attribute [local go_sem ↓] Go.wp_at_zero Go.wp_at_succ

def stepH (sm : Bits → Bits → Bool) (d : Nat) (x y : Bits) : Bits := if sm x y = true then x ||| only d else x &&& ~~~ only d
open Classical in
noncomputable def doneH (A : List LPlace) (j : Nat) (sm : Bits → Bits → Bool) (d : Nat) (gh gi : LPlace → Bits) : LPlace → Bits := fun p => if p ∈ A.take j then stepH sm d (gh p) (gi p) else gh p
section
variable {A : List LPlace} {j : Nat} {sm : Bits → Bits → Bool} {d : Nat} {gh gi : LPlace → Bits}
theorem doneH_zero : doneH A 0 sm d gh gi = gh := by
  funext p
  simp [doneH]
theorem doneH_here (hnd : A.Nodup) (hj : j < A.length) : doneH A j sm d gh gi (A.getD j .zero) = gh (A.getD j .zero) := by
  unfold doneH
  rw [if_neg]
  have e : A.getD j .zero = A[j] := by simp [List.getD, hj]
  rw [e, List.mem_iff_getElem]
  rintro ⟨k, hk, h⟩
  rw [List.getElem_take] at h
  have hk2 : k < j := by simp at hk; omega
  have := (List.getElem_inj (h₀ := by omega) (h₁ := hj) hnd).1 h
  omega
theorem updP_self (g : LPlace → Bits) (p : LPlace) : updP g p (g p) = g := by
  funext u
  unfold updP
  split
  · rename_i h; rw [samePl_eq h]
  · rfl
theorem samePl_self (p : LPlace) : samePl p p = true := by simp [samePl]
theorem doneH_step (hj : j < A.length) : updP (doneH A j sm d gh gi) (A.getD j .zero) (stepH sm d (gh (A.getD j .zero)) (gi (A.getD j .zero))) = doneH A (j + 1) sm d gh gi := by
  funext u
  have e : A.take (j + 1) = A.take j ++ [A.getD j .zero] := by rw [List.take_succ_eq_append_getElem hj]; simp [List.getD, hj]
  unfold updP doneH
  rw [e]
  by_cases h : samePl u (A.getD j .zero) = true
  · rw [if_pos h]
    have := samePl_eq h
    rw [if_pos (by rw [this]; simp), this]
  · rw [if_neg h]
    have hne : u ≠ A.getD j .zero := fun e2 => h (by rw [e2]; exact samePl_self _)
    by_cases h2 : u ∈ A.take j
    · rw [if_pos h2, if_pos (by simp [h2])]
    · rw [if_neg h2, if_neg]
      rw [List.mem_append]
      rintro (h3 | h3)
      · exact h2 h3
      · exact hne (by simpa using h3)
end

theorem doneH_all {A : List LPlace} {sm : Bits → Bits → Bool} {d : Nat} {gh gi : LPlace → Bits} {s slots : Int} (h : ∀ p, p ∈ A ↔ isB s slots p = true) : doneH A A.length sm d gh gi = fun p => if isB s slots p = true then (if sm (gh p) (gi p) = true then gh p ||| only d else gh p &&& ~~~ only d) else gh p := by
  funext p
  unfold doneH stepH
  rw [List.take_length]
  by_cases hp : isB s slots p = true
  · rw [if_pos ((h p).2 hp), if_pos hp]
  · rw [if_neg (fun e => hp ((h p).1 e)), if_neg hp]
theorem giveRound {w7 w9 : World} {q mp mt : Nat} {A : List LPlace} {T : List Int} {j d : Nat} {sm : Bits → Bits → Bool} {gh gi : LPlace → Bits} {tm : Int → Bits} {a : LPlace} {xh yi z : Bits} (hF : FMAt w7 q mp mt A T ⟨doneH A j sm d gh gi, gi, tm⟩) (hb : But mp mp w7 w9) (hp : PMap w9 mp A (updP (doneH A j sm d gh gi) a z) (updP gi a yi)) (hj : j < A.length) (ha : a = A.getD j .zero) (hx : xh = gh a) (hy : yi = gi a) (hz : stepH sm d xh yi = z) : FMAt w9 q mp mt A T ⟨doneH A (j + 1) sm d gh gi, gi, tm⟩ := by
  refine ⟨hb.cellOf hF.c0 hF.n1 hF.n1, hb.cellOf hF.c1 hF.n1 hF.n1, ?_, hF.tm.of_block (hb.block mt hF.tm.lt (Ne.symm hF.n3) (Ne.symm hF.n3)), hF.n1, hF.n2, hF.n3⟩
  have e1 : updP (doneH A j sm d gh gi) a z = doneH A (j + 1) sm d gh gi := by
    rw [← hz, hx, hy, ha]; exact doneH_step hj
  have e2 : updP gi a yi = gi := by rw [hy]; exact updP_self _ _
  rw [e1, e2] at hp
  exact hp

set_option maxHeartbeats 1600000 in
theorem giveW {w : World} {lim : Nat} {g : WB} {B : List Bool} {C : List LIns} {R : List LRow} {A : List LPlace} {N : List Int} {s slots : Nat} (hW : WorldAt w lim g B C R A N) (hD : Dims B C s slots A N) (hnd : A.Nodup) (q mp mt : Nat) (T : List Int) (hT : ∀ t, t ∈ T ↔ 0 ≤ t ∧ t < B.length) (hTl : T.length ≤ 12) (m : FM) (hF : FMAt w q mp mt A T m) (hq : lim ≤ q) (hmp : lim ≤ mp) (hmt : lim ≤ mt) (i : LIns) (L : LPlace) (hi : GiveOk B s slots i L) :
    Calls Tryz.prog 102 #[.pointer (some ⟨g.q, 0, none⟩), .pointer (some ⟨q, 0, none⟩), i.val, L.val] w fun e w' => e = .returned (.tuple #[]) ∧ ∃ gh gi sm, GotI s slots N m i L gh gi sm ∧ FMAt w' q mp mt A T (giveF s slots m i.dest.toNat L gh gi sm) ∧ But mp mt w w' := by
  have hb12 := hD.b12
  have hd0 := hi.d0
  have hd1 := hi.d1
  obtain ⟨d, hdd⟩ : ∃ d : Nat, i.dest = d := ⟨i.dest.toNat, by omega⟩
  have h64 : d < 64 := by omega
  have HDD : Hid (i.dest = (d : Int)) := hdd
  have HDL : Hid (d < B.length) := (by omega : d < B.length)
  have HW : Hid (WorldAt w lim g B C R A N) := hW
  have HD : Hid (Dims B C s slots A N) := hD
  have HF : Hid (FMAt w q mp mt A T m) := hF
  have HI : Hid (GiveOk B s slots i L) := hi
  have HND : Hid (A.Nodup) := hnd
  have HT : Hid (∀ t, t ∈ T ↔ 0 ≤ t ∧ t < B.length) := hT
  have hL : isB s slots L = true := hi.is
  have HL : Hid (isB s slots L = true) := hL
  have hlm := hF.lt
  have hle := hW.le
  have hql := hlm.1
  have hb2 : Below w.heap.size w ((w.alloc (.cells #[.int .i64 i.op, .int .i64 i.dest, .int .i64 i.a, .int .i64 i.b, .int .i64 i.c, .int .u32 i.n] 35)).alloc (.cells #[.int .i64 L.kind, .int .i64 L.n] 37)) := ((Below.refl _ _).alloc (Nat.le_refl _) _).alloc (by simp) _
  have c := givenW (hW.below hb2) hD q mp mt T m (hF.below hb2) i (fun h => ⟨hi.a0 h, hi.a1 h⟩)
  have HB2 : Hid (Below w.heap.size w ((w.alloc (.cells #[.int .i64 i.op, .int .i64 i.dest, .int .i64 i.a, .int .i64 i.b, .int .i64 i.c, .int .u32 i.n] 35)).alloc (.cells #[.int .i64 L.kind, .int .i64 L.n] 37))) := hb2
  clear hW hD hF hi hnd hT hb2 hd0 hd1 hdd hL
  unfold LIns.val at c ⊢
  unfold LPlace.val
  go_enter Tryz.func102, Tryz.ntmps102
  go_upto_region 2 with (go_at_call 138; refine c.mono ?_; rintro e w3 ⟨gh, gi, F, caps, sm, rfl, hsame, hgs, hb3⟩; have HSM : Hid (SameIs w3 mp F caps sm) := hsame; have HGS : Hid (GivenS B N m i gh gi sm) := hgs; have HB3 : Hid (Below w.heap.size w w3) := step_below hb3 HB2.out; have k0 : w3.cell? ⟨w.heap.size + 1, 0, none⟩ = some (.int .i64 L.kind) := step_cell hb3 (by simp [go_sem]); have k1 : w3.cell? ⟨w.heap.size + 1, 1, none⟩ = some (.int .i64 L.n) := step_cell hb3 (by simp [go_sem]); have k2 : w3.cell? ⟨w.heap.size, 1, none⟩ = some (.int .i64 (d : Int)) := step_cell hb3 (by simp [go_sem]; exact HDD.out); clear hb3 hsame hgs; unfold knownV)
  obtain ⟨w4, hw4⟩ : ∃ w4, w4 = w3.alloc (.cells #[.int .u64 (bn gh), .int .u64 (bn gi)] 108) := ⟨_, rfl⟩
  have hb34 : Below w3.heap.size w3 w4 := by rw [hw4]; exact (Below.refl _ _).alloc (Nat.le_refl _) _
  have g0 : w4.cell? ⟨w3.heap.size, 0, none⟩ = some (.int .u64 (bn gh)) := by rw [hw4]; simp [go_sem]
  have g1 : w4.cell? ⟨w3.heap.size, 1, none⟩ = some (.int .u64 (bn gi)) := by rw [hw4]; simp [go_sem]
  have hz34 : w4.heap.size = w3.heap.size + 1 := by rw [hw4]; simp
  rw [← hw4]
  clear hw4 c
  replace k0 := step_cell hb34 k0
  replace k1 := step_cell hb34 k1
  replace k2 := step_cell hb34 k2
  have HB34 : Hid (Below w3.heap.size w3 w4) := hb34
  have HZ34 : Hid (w4.heap.size = w3.heap.size + 1) := hz34
  have HB4 : Hid (Below w.heap.size w w4) := step_below hb34 HB3.out
  have hwl := cell_lt k2
  have hwl1 := cell_lt k0
  have hwg := cell_lt g0
  have HLO : Hid (w.heap.size < w3.heap.size) := (by have h1 := HB3.out.size; have h2 := hwl1; omega : w.heap.size < w3.heap.size ∨ w.heap.size = w3.heap.size).elim id (fun h => by have := hwl1; omega)
  have hne : w4.heap.size ≠ mp := by have := (HF.out.below HB4.out).pm.lt; omega
  have hba : Below w4.heap.size w4 (w4.alloc (.cells #[.int .i64 L.kind, .int .i64 L.n] 37)) := (Below.refl _ _).alloc (Nat.le_refl _) _
  have c := keepF q mp mt 141 (.pointer (some ⟨w4.heap.size, 0, none⟩)) A T m (farB L) _ ((HF.out.below HB4.out).below hba) (staysApart L w4.heap.size mp _ (by simp [go_sem]) (by simp [go_sem]) hne)
  have HBA : Hid (Below w4.heap.size w4 (w4.alloc (.cells #[.int .i64 L.kind, .int .i64 L.n] 37))) := hba
  clear hba hb34 hz34
  go_upto_region 3 with (first
    | (go_at_call 110; refine (apartFromO L _).mono ?_; rintro e w5 ⟨rfl, hw5⟩; subst hw5)
    | (go_at_call 109; refine c.mono ?_; rintro e w6 ⟨rfl, hf6, hb6⟩; have HF6 : Hid (FMAt w6 q mp mt A T ⟨fun p => if farB L p = true then m.has p else 0, fun p => if farB L p = true then m.is p else 0, m.tmp⟩) := hf6; have HB6 : Hid (But mp mp w4 w6) := hb6.mono HBA.out; clear hf6 hb6))
  clear c
  have hgb : w3.heap.size ≠ mp := by have := (HF.out.below HB3.out).pm.lt; omega
  replace k0 := HB6.out.cellOf k0 (by omega) (by omega)
  replace k1 := HB6.out.cellOf k1 (by omega) (by omega)
  replace k2 := HB6.out.cellOf k2 (by omega) (by omega)
  replace g0 := HB6.out.cellOf g0 hgb hgb
  replace g1 := HB6.out.cellOf g1 hgb hgb
  have HW6 : Hid (WorldAt w6 lim g B C R A N) := (HW.out.below HB4.out).but HB6.out hmp hmp
  have y3 := HW6.out.stat.p3
  have hgq := cell_lt y3
  have ha36 : (A.length : Int) ≤ 36 := by have := HD.out.a36; omega
  have HFK : Hid (FMAt w6 q mp mt A T ⟨doneH A 0 sm d (keepP m.has L) (keepP m.is L), keepP m.is L, m.tmp⟩) := by
    have h := HF6.out
    have e1 : (fun p => if farB L p = true then m.has p else 0) = keepP m.has L := far_keep _ _
    have e2 : (fun p => if farB L p = true then m.is p else 0) = keepP m.is L := far_keep _ _
    simp only [e1, e2] at h
    rw [doneH_zero]
    exact h
  go_wp2
  go_loopg [11, 12, 29] (A.length + 1) (fun gg v11 v12 v wr => ∃ (j : Nat), v = .int .i64 j ∧ j ≤ A.length ∧ gg = A.length + 1 - j ∧ FMAt wr q mp mt A T ⟨doneH A j sm d (keepP m.has L) (keepP m.is L), keepP m.is L, m.tmp⟩ ∧ But mp mp w6 wr)
  case atStart => exact ⟨0, rfl, by omega, by omega, HFK.out, But.of_below (Below.refl _ _)⟩
  case round =>
    obtain ⟨j, rfl, hj, hgk, hfr, hbr⟩ := hrel
    have HGK : Hid (gk = A.length + 1 - j) := hgk
    have HFR : Hid (FMAt wr q mp mt A T ⟨doneH A j sm d (keepP m.has L) (keepP m.is L), keepP m.is L, m.tmp⟩) := hfr
    have HBR : Hid (But mp mp w6 wr) := hbr
    have HWR : Hid (WorldAt wr lim g B C R A N) := HW6.out.but hbr hmp hmp
    have e3 : w.heap.size ≠ mp := by omega
    have z2 := hbr.cellOf k2 e3 e3
    have e0 : q ≠ mp := hfr.n1
    have hwr := hfr.lt
    clear hgk hfr hbr
    by_cases hjl : j < A.length
    · have hjz : (j : Int) < (A.length : Int) := by omega
      obtain ⟨a, ha⟩ : ∃ a, a = A.getD j .zero := ⟨_, rfl⟩
      obtain ⟨y0, y1⟩ := HWR.out.stat.plc j hjl
      rw [← ha] at y0 y1
      have hbl := cell_lt y0
      have ham : a ∈ A := by rw [ha]; simp [List.getD, hjl]
      have hwf : PlWf a := HD.out.wf ((HD.out.all _).1 ham)
      have HWF : Hid (PlWf a) := hwf
      have HAM : Hid (a ∈ A) := ham
      have HA : Hid (a = A.getD j .zero) := ha
      clear ha ham
      obtain ⟨xh, hxh⟩ : ∃ xh, xh = keepP m.has L a := ⟨_, rfl⟩
      obtain ⟨yi, hyi⟩ : ∃ yi, yi = keepP m.is L a := ⟨_, rfl⟩
      have HXH : Hid (xh = keepP m.has L a) := hxh
      have HYI : Hid (yi = keepP m.is L a) := hyi
      have hhe : doneH A j sm d (keepP m.has L) (keepP m.is L) a = xh := by
        rw [HA.out, doneH_here HND.out hjl, hxh, HA.out]
      have HHE : Hid (doneH A j sm d (keepP m.has L) (keepP m.is L) a = xh) := hhe
      clear hxh hyi hwf hhe
      go_upto_region 6 with fail
      obtain ⟨wx, hwx⟩ : ∃ wx, wx = wr.alloc (.cells #[.int .i64 a.kind, .int .i64 a.n] 37) := ⟨_, rfl⟩
      have hbx : Below wr.heap.size wr wx := by rw [hwx]; exact (Below.refl _ _).alloc (Nat.le_refl _) _
      have x1 : wx.cell? ⟨wr.heap.size, 0, none⟩ = some (.int .i64 a.kind) := by rw [hwx]; simp [go_sem]
      have x2 : wx.cell? ⟨wr.heap.size, 1, none⟩ = some (.int .i64 a.n) := by rw [hwx]; simp [go_sem]
      have hzx : wx.heap.size = wr.heap.size + 1 := by rw [hwx]; simp
      have hfx := HFR.out.below hbx
      have x0 : wx.cell? ⟨q, 0, none⟩ = some (.map (some mp)) := hfx.c0
      have HLK : Hid (∀ w5, Below wx.heap.size wx w5 → (Instr.lookup 109 (.map (some mp)) (.agg #[.int .i64 a.kind, .int .i64 a.n]) false).run Tryz.prog w5 = .ok (.agg #[.int .u64 (bn xh), .int .u64 (bn yi)]) w5) := fun w5 hb => by
        have h := PMap.look (hfx.pm.below hb) HWF.out
        rw [show (⟨doneH A j sm d (keepP m.has L) (keepP m.is L), keepP m.is L, m.tmp⟩ : FM).has a = xh from HHE.out, show (⟨doneH A j sm d (keepP m.has L) (keepP m.is L), keepP m.is L, m.tmp⟩ : FM).is a = yi from HYI.out.symm] at h
        exact h
      have HBX : Hid (Below wr.heap.size wr wx) := hbx
      have HZX : Hid (wx.heap.size = wr.heap.size + 1) := hzx
      have z3 := step_cell hbx z2
      rw [← hwx]
      clear hwx hbx hzx hfx z2 y0 y1
      refine wp_region_held_drew (S := (fun w' => Below wx.heap.size wx w' ∧ w'.cell? ⟨q, 0, none⟩ = some (.map (some mp)) ∧ w'.cell? ⟨wr.heap.size, 0, none⟩ = some (.int .i64 a.kind) ∧ w'.cell? ⟨wr.heap.size, 1, none⟩ = some (.int .i64 a.n))) (by rfl) ?_ (fun hHeld => ?_)
      · (exact ⟨(Below.refl _ _).drew, x0, x1, x2⟩)
      refine wpAnyH_take (i := 0) (v := ?_) rfl (by kernel_rfl) (by kernel_rfl) (by kernel_rfl) (fun _ _ _ h => h) (Or.inl ⟨by rfl, ?_⟩) (by assumption) ?_
      case refine_2 => (intro w hSw; (try dsimp only at hSw); go_simp; first | done | (with_reducible rfl))
      show wpAnyH _ _ _ _ _ _ _ (Act.put _ (some 33) _) _
      simp only [Act.put, List.setIfInBounds_toArray, List.set_cons_zero, List.set_cons_succ]
      refine wpAnyH_take (i := 1) (v := ?_) rfl (by kernel_rfl) (by kernel_rfl) (by kernel_rfl) (fun _ _ _ h => h) (Or.inl ⟨by rfl, ?_⟩) (by assumption) ?_
      case refine_2 => (intro w hSw; (try dsimp only at hSw); go_simp; first | done | (with_reducible rfl))
      show wpAnyH _ _ _ _ _ _ _ (Act.put _ (some 34) _) _
      simp only [Act.put, List.setIfInBounds_toArray, List.set_cons_zero, List.set_cons_succ]
      refine wpAnyH_take (i := 2) (v := ?_) rfl (by kernel_rfl) (by kernel_rfl) (by kernel_rfl) (fun _ _ _ h => h) (Or.inl ⟨by rfl, ?_⟩) (by assumption) ?_
      case refine_2 => (intro w hSw; (try dsimp only at hSw); go_simp; first | done | (with_reducible rfl))
      show wpAnyH _ _ _ _ _ _ _ (Act.put _ (some 35) _) _
      simp only [Act.put, List.setIfInBounds_toArray, List.set_cons_zero, List.set_cons_succ]
      refine wpAnyH_take (i := 3) (v := ?_) rfl (by kernel_rfl) (by kernel_rfl) (by kernel_rfl) (fun _ _ _ h => h) (Or.inl ⟨by rfl, ?_⟩) (by assumption) ?_
      case refine_2 => (intro w hSw; (try dsimp only at hSw); go_simp; first | done | (with_reducible rfl))
      show wpAnyH _ _ _ _ _ _ _ (Act.put _ (some 36) _) _
      simp only [Act.put, List.setIfInBounds_toArray, List.set_cons_zero, List.set_cons_succ]
      refine wpAnyH_take (i := 4) (v := ?_) rfl (by kernel_rfl) (by kernel_rfl) (by kernel_rfl) (fun _ _ _ h => h) (Or.inl ⟨by rfl, ?_⟩) (by assumption) ?_
      case refine_2 => (intro w hSw; (try dsimp only at hSw); go_simp; first | done | (with_reducible rfl))
      show wpAnyH _ _ _ _ _ _ _ (Act.put _ (some 37) _) _
      simp only [Act.put, List.setIfInBounds_toArray, List.set_cons_zero, List.set_cons_succ]
      refine wpAnyH_take (i := 5) (v := ?_) rfl (by kernel_rfl) (by kernel_rfl) (by kernel_rfl) (fun _ _ _ h => h) (Or.inl ⟨by rfl, ?_⟩) (by assumption) ?_
      case refine_2 => (intro w5 hSw; (try dsimp only at hSw); have hl := HLK.out w5 hSw.1; go_simp; first | done | (with_reducible rfl))
      show wpAnyH _ _ _ _ _ _ _ (Act.put _ (some 38) _) _
      simp only [Act.put, List.setIfInBounds_toArray, List.set_cons_zero, List.set_cons_succ]
      refine wpAnyH_ready (rs := [6]) (by kernel_rfl) (by simp) ?_
      refine (AllReadyH.cons rfl (fun K hK => ?_) AllReadyH.nil)
      have h8 := hHeld
      go_simp
      refine hK.out _ _ ?_ (fun hHeld => ?_)
      · (exact ⟨step_below ((Below.refl _ _).alloc (Nat.le_refl _) _) hHeld.1, step_cell ((Below.refl _ _).alloc (Nat.le_refl _) _) hHeld.2.1, step_cell ((Below.refl _ _).alloc (Nat.le_refl _) _) hHeld.2.2.1, step_cell ((Below.refl _ _).alloc (Nat.le_refl _) _) hHeld.2.2.2⟩)
      clear hK K
      try simp only [Act.put, List.setIfInBounds_toArray, List.set_cons_zero, List.set_cons_succ]
      refine wpAnyH_ready (rs := [7]) (by kernel_rfl) (by simp) ?_
      refine (AllReadyH.cons rfl (fun K hK => ?_) AllReadyH.nil)
      go_simp
      refine hK.out _ _ ?_ (fun hHeld => ?_)
      · (exact ⟨step_below ((Below.refl _ _).alloc (Nat.le_refl _) _) h8.1, step_cell ((Below.refl _ _).alloc (Nat.le_refl _) _) h8.2.1, step_cell ((Below.refl _ _).alloc (Nat.le_refl _) _) h8.2.2.1, step_cell ((Below.refl _ _).alloc (Nat.le_refl _) _) h8.2.2.2⟩)
      clear hK K
      try simp only [Act.put, List.setIfInBounds_toArray, List.set_cons_zero, List.set_cons_succ]
      refine wpAnyH_done (by kernel_rfl) ?_ _
      clear hHeld
      obtain ⟨wy, hwy⟩ : ∃ wy, wy = (wx.alloc (.cells #[.int .u64 (bn xh), .int .u64 (bn yi)] 108)).drew := ⟨_, rfl⟩
      have hbxy : Below wx.heap.size wx wy := by rw [hwy]; exact ((Below.refl _ _).alloc (Nat.le_refl _) _).drew
      have v3 : wy.cell? ⟨wx.heap.size, 0, none⟩ = some (.int .u64 (bn xh)) := by rw [hwy]; simp [go_sem]
      have v4 : wy.cell? ⟨wx.heap.size, 1, none⟩ = some (.int .u64 (bn yi)) := by rw [hwy]; simp [go_sem]
      rw [← hwy]
      clear hwy
      have v0 := step_cell hbxy x0
      have v1 := step_cell hbxy x1
      have v2 := step_cell hbxy x2
      have v5 := step_cell hbxy z3
      have HBY : Hid (Below wr.heap.size wr wy) := step_below hbxy HBX.out
      obtain ⟨cc, hcc⟩ : ∃ cc, cc = sm xh yi := ⟨_, rfl⟩
      have HCC : Hid (cc = sm xh yi) := hcc
      have hcall := HSM.out.2 xh yi wy (((But.of_below HB34.out).trans HB6.out).trans (HBR.out.trans (But.of_below HBY.out)))
      have hent := HSM.out.1
      rw [← hcc] at hcall
      have e1 : wr.heap.size ≠ mp := by omega
      have e2 : wx.heap.size ≠ mp := by have := HZX.out; omega
      clear x0 x1 x2 z3 hbxy hcc
      unfold knownV at hcall
      have hn36 : A.length < maxLen := by have := HD.out.a36; unfold maxLen; omega
      rcases Bool.eq_false_or_eq_true cc with hc | hc
      · subst hc
        go_upto_region 8 with (refine hcall.mono ?_; rintro e w7 ⟨rfl, hb7⟩; have HB7 : Hid (Below wy.heap.size wy w7) := hb7; have x0 := step_cell hb7 v0; have x1 := step_cell hb7 v1; have x2 := step_cell hb7 v2; have x3 := step_cell hb7 v3; have x4 := step_cell hb7 v4; have x5 := step_cell hb7 v5; clear hb7 hcall)
        clear v0 v1 v2 v3 v4 v5
        have hF7 := HFR.out.below (step_below HB7.out HBY.out)
        obtain ⟨w9, hrun, hp9, hg9⟩ := (hF7.pm.of_block (w' := w7.drew) rfl).put hn36 HWF.out HAM.out (xh ||| only d) yi
        unfold LPlace.val knownV at hrun
        have HF7 : Hid (FMAt w7 q mp mt A T ⟨doneH A j sm d (keepP m.has L) (keepP m.is L), keepP m.is L, m.tmp⟩) := hF7
        have HP9 : Hid (PMap w9 mp A (updP (doneH A j sm d (keepP m.has L) (keepP m.is L)) a (xh ||| only d)) (updP (keepP m.is L) a yi)) := hp9
        have HG9 : Hid (But mp mp w7.drew w9) := grown_but hg9
        have hor := or_is xh (only d)
        clear hp9 hg9 hF7
        refine wp_region_held_drew (S := (fun w' => But mp mp w7 w' ∧ w'.cell? ⟨q, 0, none⟩ = some (.map (some mp)) ∧ w'.cell? ⟨wr.heap.size, 0, none⟩ = some (.int .i64 a.kind) ∧ w'.cell? ⟨wr.heap.size, 1, none⟩ = some (.int .i64 a.n) ∧ w'.cell? ⟨wx.heap.size, 0, none⟩ = some (.int .u64 (bn xh)) ∧ w'.cell? ⟨wx.heap.size, 1, none⟩ = some (.int .u64 (bn yi)) ∧ w'.cell? ⟨w.heap.size, 1, none⟩ = some (.int .i64 (d : Int)))) (by rfl) ?_ (fun hHeld => ?_)
        · (exact ⟨But.of_below (Below.refl _ _).drew, x0, x1, x2, x3, x4, x5⟩)
        refine wpAnyH_take (i := 0) (v := ?_) rfl (by kernel_rfl) (by kernel_rfl) (by kernel_rfl) (fun _ _ _ h => h) (Or.inl ⟨by rfl, ?_⟩) (by assumption) ?_
        case refine_2 => (intro w hSw; (try dsimp only at hSw); go_simp; first | done | (with_reducible rfl))
        show wpAnyH _ _ _ _ _ _ _ (Act.put _ (some 42) _) _
        simp only [Act.put, List.setIfInBounds_toArray, List.set_cons_zero, List.set_cons_succ]
        refine wpAnyH_take (i := 1) (v := ?_) rfl (by kernel_rfl) (by kernel_rfl) (by kernel_rfl) (fun _ _ _ h => h) (Or.inl ⟨by rfl, ?_⟩) (by assumption) ?_
        case refine_2 => (intro w hSw; (try dsimp only at hSw); go_simp; first | done | (with_reducible rfl))
        show wpAnyH _ _ _ _ _ _ _ (Act.put _ (some 43) _) _
        simp only [Act.put, List.setIfInBounds_toArray, List.set_cons_zero, List.set_cons_succ]
        refine wpAnyH_take (i := 2) (v := ?_) rfl (by kernel_rfl) (by kernel_rfl) (by kernel_rfl) (fun _ _ _ h => h) (Or.inl ⟨by rfl, ?_⟩) (by assumption) ?_
        case refine_2 => (intro w hSw; (try dsimp only at hSw); go_simp; first | done | (with_reducible rfl))
        show wpAnyH _ _ _ _ _ _ _ (Act.put _ (some 44) _) _
        simp only [Act.put, List.setIfInBounds_toArray, List.set_cons_zero, List.set_cons_succ]
        refine wpAnyH_take (i := 3) (v := ?_) rfl (by kernel_rfl) (by kernel_rfl) (by kernel_rfl) (fun _ _ _ h => h) (Or.inl ⟨by rfl, ?_⟩) (by assumption) ?_
        case refine_2 => (intro w hSw; (try dsimp only at hSw); go_simp; first | done | (with_reducible rfl))
        show wpAnyH _ _ _ _ _ _ _ (Act.put _ (some 45) _) _
        simp only [Act.put, List.setIfInBounds_toArray, List.set_cons_zero, List.set_cons_succ]
        refine wpAnyH_take (i := 4) (v := ?_) rfl (by kernel_rfl) (by kernel_rfl) (by kernel_rfl) (fun _ _ _ h => h) (Or.inl ⟨by rfl, ?_⟩) (by assumption) ?_
        case refine_2 => (intro w hSw; (try dsimp only at hSw); go_simp; first | done | (with_reducible rfl))
        show wpAnyH _ _ _ _ _ _ _ (Act.put _ (some 46) _) _
        simp only [Act.put, List.setIfInBounds_toArray, List.set_cons_zero, List.set_cons_succ]
        refine wpAnyH_take (i := 5) (v := ?_) rfl (by kernel_rfl) (by kernel_rfl) (by kernel_rfl) (fun _ _ _ h => h) (Or.inl ⟨by rfl, ?_⟩) (by assumption) ?_
        case refine_2 => (intro w hSw; (try dsimp only at hSw); go_simp; first | done | (with_reducible rfl))
        show wpAnyH _ _ _ _ _ _ _ (Act.put _ (some 47) _) _
        simp only [Act.put, List.setIfInBounds_toArray, List.set_cons_zero, List.set_cons_succ]
        refine wpAnyH_take (i := 6) (v := ?_) rfl (by kernel_rfl) (by kernel_rfl) (by kernel_rfl) (fun _ _ _ h => h) (Or.inl ⟨by rfl, ?_⟩) (by assumption) ?_
        case refine_2 => (intro w hSw; (try dsimp only at hSw); go_simp; first | done | (with_reducible rfl))
        show wpAnyH _ _ _ _ _ _ _ (Act.put _ (some 48) _) _
        simp only [Act.put, List.setIfInBounds_toArray, List.set_cons_zero, List.set_cons_succ]
        refine wpAnyH_take (i := 7) (v := ?_) rfl (by kernel_rfl) (by kernel_rfl) (by kernel_rfl) (fun _ _ _ h => h) (Or.inl ⟨by rfl, ?_⟩) (by assumption) ?_
        case refine_2 => (intro w hSw; (try dsimp only at hSw); go_simp; first | done | (with_reducible rfl))
        show wpAnyH _ _ _ _ _ _ _ (Act.put _ (some 49) _) _
        simp only [Act.put, List.setIfInBounds_toArray, List.set_cons_zero, List.set_cons_succ]
        refine wpAnyH_take (i := 8) (v := ?_) rfl (by kernel_rfl) (by kernel_rfl) (by kernel_rfl) (fun _ _ _ h => h) (Or.inl ⟨by rfl, ?_⟩) (by assumption) ?_
        case refine_2 => (intro w hSw; (try dsimp only at hSw); go_simp; first | done | (with_reducible rfl))
        show wpAnyH _ _ _ _ _ _ _ (Act.put _ (some 50) _) _
        simp only [Act.put, List.setIfInBounds_toArray, List.set_cons_zero, List.set_cons_succ]
        refine wpAnyH_take (i := 11) (v := ?_) rfl (by kernel_rfl) (by kernel_rfl) (by kernel_rfl) (fun _ _ _ h => h) (Or.inl ⟨by rfl, ?_⟩) (by assumption) ?_
        case refine_2 => (intro w hSw; (try dsimp only at hSw); go_simp; first | done | (with_reducible rfl))
        show wpAnyH _ _ _ _ _ _ _ (Act.put _ (some 53) _) _
        simp only [Act.put, List.setIfInBounds_toArray, List.set_cons_zero, List.set_cons_succ]
        refine wpAnyH_take (i := 12) (v := ?_) rfl (by kernel_rfl) (by kernel_rfl) (by kernel_rfl) (fun _ _ _ h => h) (Or.inl ⟨by rfl, ?_⟩) (by assumption) ?_
        case refine_2 => (intro w hSw; (try dsimp only at hSw); go_simp; first | done | (with_reducible rfl))
        show wpAnyH _ _ _ _ _ _ _ (Act.put _ (some 54) _) _
        simp only [Act.put, List.setIfInBounds_toArray, List.set_cons_zero, List.set_cons_succ]
        refine wpAnyH_ready (rs := [9]) (by kernel_rfl) (by simp) ?_
        refine (AllReadyH.cons rfl (fun K hK => ?_) AllReadyH.nil)
        go_simp
        go_at_call 77
        refine (onlyO d h64 _).mono ?_
        rintro e w1 ⟨rfl, hw1⟩
        obtain rfl := hw1.symm
        go_wp2_with fail
        refine hK.out _ _ ?_ (fun hHeld => ?_)
        · (exact hHeld)
        clear hK K
        try simp only [Act.put, List.setIfInBounds_toArray, List.set_cons_zero, List.set_cons_succ]
        refine wpAnyH_take (i := 10) (v := ?_) rfl (by kernel_rfl) (by kernel_rfl) (by kernel_rfl) (fun _ _ _ h => h) (Or.inl ⟨by rfl, ?_⟩) (by assumption) ?_
        case refine_2 => (intro w hSw; (try dsimp only at hSw); go_simp; first | done | (with_reducible rfl))
        show wpAnyH _ _ _ _ _ _ _ (Act.put _ (some 52) _) _
        simp only [Act.put, List.setIfInBounds_toArray, List.set_cons_zero, List.set_cons_succ]
        refine wpAnyH_take (i := 13) (v := ?_) rfl (by kernel_rfl) (by kernel_rfl) (by kernel_rfl) (fun _ _ _ h => h) (Or.inl ⟨by rfl, ?_⟩) (by assumption) ?_
        case refine_2 => (intro w hSw; (try dsimp only at hSw); go_simp; first | done | (with_reducible rfl))
        show wpAnyH _ _ _ _ _ _ _ (Act.put _ (some 55) _) _
        simp only [Act.put, List.setIfInBounds_toArray, List.set_cons_zero, List.set_cons_succ]
        refine wpAnyH_ready (rs := [14]) (by kernel_rfl) (by simp) ?_
        refine (AllReadyH.cons rfl (fun K hK => ?_) AllReadyH.nil)
        go_simp
        refine hK.out _ _ ?_ (fun hHeld => ?_)
        · (exact ⟨hHeld.1.trans HG9.out, HG9.out.cellOf hHeld.2.1 e0 e0, HG9.out.cellOf hHeld.2.2.1 e1 e1, HG9.out.cellOf hHeld.2.2.2.1 e1 e1, HG9.out.cellOf hHeld.2.2.2.2.1 e2 e2, HG9.out.cellOf hHeld.2.2.2.2.2.1 e2 e2, HG9.out.cellOf hHeld.2.2.2.2.2.2 e3 e3⟩)
        clear hK K
        try simp only [Act.put, List.setIfInBounds_toArray, List.set_cons_zero, List.set_cons_succ]
        refine wpAnyH_done (by kernel_rfl) ?_ _
        clear hHeld
        have hgk := HGK.out
        have hb9 : But mp mp w7 w9 := (But.of_below (Below.refl _ _).drew).trans HG9.out
        go_wp2_with fail
        go_roundg (gk - 1)
        case measure => omega
        case rel => exact ⟨j + 1, by go_num, by omega, by omega, giveRound HF7.out hb9 HP9.out hjl HA.out HXH.out HYI.out (by unfold stepH; rw [← HCC.out]; simp), HBR.out.trans ((But.of_below (step_below HB7.out HBY.out)).trans hb9)⟩
      · subst hc
        go_upto_region 9 with (refine hcall.mono ?_; rintro e w7 ⟨rfl, hb7⟩; have HB7 : Hid (Below wy.heap.size wy w7) := hb7; have x0 := step_cell hb7 v0; have x1 := step_cell hb7 v1; have x2 := step_cell hb7 v2; have x3 := step_cell hb7 v3; have x4 := step_cell hb7 v4; have x5 := step_cell hb7 v5; clear hb7 hcall)
        clear v0 v1 v2 v3 v4 v5
        have hF7 := HFR.out.below (step_below HB7.out HBY.out)
        obtain ⟨w9, hrun, hp9, hg9⟩ := (hF7.pm.of_block (w' := w7.drew) rfl).put hn36 HWF.out HAM.out (xh &&& ~~~ only d) yi
        unfold LPlace.val knownV at hrun
        have HF7 : Hid (FMAt w7 q mp mt A T ⟨doneH A j sm d (keepP m.has L) (keepP m.is L), keepP m.is L, m.tmp⟩) := hF7
        have HP9 : Hid (PMap w9 mp A (updP (doneH A j sm d (keepP m.has L) (keepP m.is L)) a (xh &&& ~~~ only d)) (updP (keepP m.is L) a yi)) := hp9
        have HG9 : Hid (But mp mp w7.drew w9) := grown_but hg9
        have hor := andNot_is xh (only d)
        clear hp9 hg9 hF7
        refine wp_region_held_drew (S := (fun w' => But mp mp w7 w' ∧ w'.cell? ⟨q, 0, none⟩ = some (.map (some mp)) ∧ w'.cell? ⟨wr.heap.size, 0, none⟩ = some (.int .i64 a.kind) ∧ w'.cell? ⟨wr.heap.size, 1, none⟩ = some (.int .i64 a.n) ∧ w'.cell? ⟨wx.heap.size, 0, none⟩ = some (.int .u64 (bn xh)) ∧ w'.cell? ⟨wx.heap.size, 1, none⟩ = some (.int .u64 (bn yi)) ∧ w'.cell? ⟨w.heap.size, 1, none⟩ = some (.int .i64 (d : Int)))) (by rfl) ?_ (fun hHeld => ?_)
        · (exact ⟨But.of_below (Below.refl _ _).drew, x0, x1, x2, x3, x4, x5⟩)
        refine wpAnyH_take (i := 0) (v := ?_) rfl (by kernel_rfl) (by kernel_rfl) (by kernel_rfl) (fun _ _ _ h => h) (Or.inl ⟨by rfl, ?_⟩) (by assumption) ?_
        case refine_2 => (intro w hSw; (try dsimp only at hSw); go_simp; first | done | (with_reducible rfl))
        show wpAnyH _ _ _ _ _ _ _ (Act.put _ (some 56) _) _
        simp only [Act.put, List.setIfInBounds_toArray, List.set_cons_zero, List.set_cons_succ]
        refine wpAnyH_take (i := 1) (v := ?_) rfl (by kernel_rfl) (by kernel_rfl) (by kernel_rfl) (fun _ _ _ h => h) (Or.inl ⟨by rfl, ?_⟩) (by assumption) ?_
        case refine_2 => (intro w hSw; (try dsimp only at hSw); go_simp; first | done | (with_reducible rfl))
        show wpAnyH _ _ _ _ _ _ _ (Act.put _ (some 57) _) _
        simp only [Act.put, List.setIfInBounds_toArray, List.set_cons_zero, List.set_cons_succ]
        refine wpAnyH_take (i := 2) (v := ?_) rfl (by kernel_rfl) (by kernel_rfl) (by kernel_rfl) (fun _ _ _ h => h) (Or.inl ⟨by rfl, ?_⟩) (by assumption) ?_
        case refine_2 => (intro w hSw; (try dsimp only at hSw); go_simp; first | done | (with_reducible rfl))
        show wpAnyH _ _ _ _ _ _ _ (Act.put _ (some 58) _) _
        simp only [Act.put, List.setIfInBounds_toArray, List.set_cons_zero, List.set_cons_succ]
        refine wpAnyH_take (i := 3) (v := ?_) rfl (by kernel_rfl) (by kernel_rfl) (by kernel_rfl) (fun _ _ _ h => h) (Or.inl ⟨by rfl, ?_⟩) (by assumption) ?_
        case refine_2 => (intro w hSw; (try dsimp only at hSw); go_simp; first | done | (with_reducible rfl))
        show wpAnyH _ _ _ _ _ _ _ (Act.put _ (some 59) _) _
        simp only [Act.put, List.setIfInBounds_toArray, List.set_cons_zero, List.set_cons_succ]
        refine wpAnyH_take (i := 4) (v := ?_) rfl (by kernel_rfl) (by kernel_rfl) (by kernel_rfl) (fun _ _ _ h => h) (Or.inl ⟨by rfl, ?_⟩) (by assumption) ?_
        case refine_2 => (intro w hSw; (try dsimp only at hSw); go_simp; first | done | (with_reducible rfl))
        show wpAnyH _ _ _ _ _ _ _ (Act.put _ (some 60) _) _
        simp only [Act.put, List.setIfInBounds_toArray, List.set_cons_zero, List.set_cons_succ]
        refine wpAnyH_take (i := 5) (v := ?_) rfl (by kernel_rfl) (by kernel_rfl) (by kernel_rfl) (fun _ _ _ h => h) (Or.inl ⟨by rfl, ?_⟩) (by assumption) ?_
        case refine_2 => (intro w hSw; (try dsimp only at hSw); go_simp; first | done | (with_reducible rfl))
        show wpAnyH _ _ _ _ _ _ _ (Act.put _ (some 61) _) _
        simp only [Act.put, List.setIfInBounds_toArray, List.set_cons_zero, List.set_cons_succ]
        refine wpAnyH_take (i := 6) (v := ?_) rfl (by kernel_rfl) (by kernel_rfl) (by kernel_rfl) (fun _ _ _ h => h) (Or.inl ⟨by rfl, ?_⟩) (by assumption) ?_
        case refine_2 => (intro w hSw; (try dsimp only at hSw); go_simp; first | done | (with_reducible rfl))
        show wpAnyH _ _ _ _ _ _ _ (Act.put _ (some 62) _) _
        simp only [Act.put, List.setIfInBounds_toArray, List.set_cons_zero, List.set_cons_succ]
        refine wpAnyH_take (i := 7) (v := ?_) rfl (by kernel_rfl) (by kernel_rfl) (by kernel_rfl) (fun _ _ _ h => h) (Or.inl ⟨by rfl, ?_⟩) (by assumption) ?_
        case refine_2 => (intro w hSw; (try dsimp only at hSw); go_simp; first | done | (with_reducible rfl))
        show wpAnyH _ _ _ _ _ _ _ (Act.put _ (some 63) _) _
        simp only [Act.put, List.setIfInBounds_toArray, List.set_cons_zero, List.set_cons_succ]
        refine wpAnyH_take (i := 8) (v := ?_) rfl (by kernel_rfl) (by kernel_rfl) (by kernel_rfl) (fun _ _ _ h => h) (Or.inl ⟨by rfl, ?_⟩) (by assumption) ?_
        case refine_2 => (intro w hSw; (try dsimp only at hSw); go_simp; first | done | (with_reducible rfl))
        show wpAnyH _ _ _ _ _ _ _ (Act.put _ (some 64) _) _
        simp only [Act.put, List.setIfInBounds_toArray, List.set_cons_zero, List.set_cons_succ]
        refine wpAnyH_take (i := 11) (v := ?_) rfl (by kernel_rfl) (by kernel_rfl) (by kernel_rfl) (fun _ _ _ h => h) (Or.inl ⟨by rfl, ?_⟩) (by assumption) ?_
        case refine_2 => (intro w hSw; (try dsimp only at hSw); go_simp; first | done | (with_reducible rfl))
        show wpAnyH _ _ _ _ _ _ _ (Act.put _ (some 67) _) _
        simp only [Act.put, List.setIfInBounds_toArray, List.set_cons_zero, List.set_cons_succ]
        refine wpAnyH_take (i := 12) (v := ?_) rfl (by kernel_rfl) (by kernel_rfl) (by kernel_rfl) (fun _ _ _ h => h) (Or.inl ⟨by rfl, ?_⟩) (by assumption) ?_
        case refine_2 => (intro w hSw; (try dsimp only at hSw); go_simp; first | done | (with_reducible rfl))
        show wpAnyH _ _ _ _ _ _ _ (Act.put _ (some 68) _) _
        simp only [Act.put, List.setIfInBounds_toArray, List.set_cons_zero, List.set_cons_succ]
        refine wpAnyH_ready (rs := [9]) (by kernel_rfl) (by simp) ?_
        refine (AllReadyH.cons rfl (fun K hK => ?_) AllReadyH.nil)
        go_simp
        go_at_call 77
        refine (onlyO d h64 _).mono ?_
        rintro e w1 ⟨rfl, hw1⟩
        obtain rfl := hw1.symm
        go_wp2_with fail
        refine hK.out _ _ ?_ (fun hHeld => ?_)
        · (exact hHeld)
        clear hK K
        try simp only [Act.put, List.setIfInBounds_toArray, List.set_cons_zero, List.set_cons_succ]
        refine wpAnyH_take (i := 10) (v := ?_) rfl (by kernel_rfl) (by kernel_rfl) (by kernel_rfl) (fun _ _ _ h => h) (Or.inl ⟨by rfl, ?_⟩) (by assumption) ?_
        case refine_2 => (intro w hSw; (try dsimp only at hSw); go_simp; first | done | (with_reducible rfl))
        show wpAnyH _ _ _ _ _ _ _ (Act.put _ (some 66) _) _
        simp only [Act.put, List.setIfInBounds_toArray, List.set_cons_zero, List.set_cons_succ]
        refine wpAnyH_take (i := 13) (v := ?_) rfl (by kernel_rfl) (by kernel_rfl) (by kernel_rfl) (fun _ _ _ h => h) (Or.inl ⟨by rfl, ?_⟩) (by assumption) ?_
        case refine_2 => (intro w hSw; (try dsimp only at hSw); go_simp; first | done | (with_reducible rfl))
        show wpAnyH _ _ _ _ _ _ _ (Act.put _ (some 69) _) _
        simp only [Act.put, List.setIfInBounds_toArray, List.set_cons_zero, List.set_cons_succ]
        refine wpAnyH_ready (rs := [14]) (by kernel_rfl) (by simp) ?_
        refine (AllReadyH.cons rfl (fun K hK => ?_) AllReadyH.nil)
        go_simp
        refine hK.out _ _ ?_ (fun hHeld => ?_)
        · (exact ⟨hHeld.1.trans HG9.out, HG9.out.cellOf hHeld.2.1 e0 e0, HG9.out.cellOf hHeld.2.2.1 e1 e1, HG9.out.cellOf hHeld.2.2.2.1 e1 e1, HG9.out.cellOf hHeld.2.2.2.2.1 e2 e2, HG9.out.cellOf hHeld.2.2.2.2.2.1 e2 e2, HG9.out.cellOf hHeld.2.2.2.2.2.2 e3 e3⟩)
        clear hK K
        try simp only [Act.put, List.setIfInBounds_toArray, List.set_cons_zero, List.set_cons_succ]
        refine wpAnyH_done (by kernel_rfl) ?_ _
        clear hHeld
        have hgk := HGK.out
        have hb9 : But mp mp w7 w9 := (But.of_below (Below.refl _ _).drew).trans HG9.out
        go_wp2_with fail
        go_roundg (gk - 1)
        case measure => omega
        case rel => exact ⟨j + 1, by go_num, by omega, by omega, giveRound HF7.out hb9 HP9.out hjl HA.out HXH.out HYI.out (by unfold stepH; rw [← HCC.out]; simp), HBR.out.trans ((But.of_below (step_below HB7.out HBY.out)).trans hb9)⟩
    · obtain rfl : j = A.length := by omega
      have hjz : ¬ (A.length : Int) < (A.length : Int) := by omega
      have HDN : Hid (doneH A A.length sm d (keepP m.has L) (keepP m.is L) = fun p => if isB s slots p = true then (if sm (keepP m.has L p) (keepP m.is L p) = true then keepP m.has L p ||| only d else keepP m.has L p &&& ~~~ only d) else keepP m.has L p) := doneH_all HD.out.all
      have hFr := HFR.out
      have x0 := hFr.c1
      have x1 := HBR.out.cellOf g1 hgb hgb
      have hn12 : T.length < maxLen := by unfold maxLen; omega
      have hdT : TWf (d : Int) := ⟨by omega, by omega⟩
      have hdm : (d : Int) ∈ T := (HT.out _).2 (by have := HDL.out; omega)
      obtain ⟨w9, hrun, hp9, hg9⟩ := (hFr.tm.of_block (w' := wr.drew) rfl).put hn12 hdT hdm gi
      have HP9 : Hid (TMap w9 mt T (updT m.tmp d gi)) := hp9
      have HG9 : Hid (But mt mt wr.drew w9) := grown_but hg9
      have e5 : w.heap.size ≠ mt := by omega
      have e6 : w3.heap.size ≠ mt := by have := (HF.out.below HB3.out).tm.lt; omega
      have e7 : q ≠ mt := hFr.n2
      have hwlr := cell_lt z2
      clear hp9 hg9 hFr hdT hdm
      go_upto_region 11 with fail
      refine wp_region_held_drew (S := (fun w' => But mt mt wr w' ∧ w'.cell? ⟨q, 1, none⟩ = some (.map (some mt)) ∧ w'.cell? ⟨w.heap.size, 1, none⟩ = some (.int .i64 (d : Int)) ∧ w'.cell? ⟨w3.heap.size, 1, none⟩ = some (.int .u64 (bn gi)))) (by rfl) ?_ (fun hHeld => ?_)
      · (exact ⟨But.of_below (Below.refl _ _).drew, x0, z2, x1⟩)
      refine wpAnyH_take (i := 0) (v := ?_) rfl (by kernel_rfl) (by kernel_rfl) (by kernel_rfl) (fun _ _ _ h => h) (Or.inl ⟨by rfl, ?_⟩) (by assumption) ?_
      case refine_2 => (intro w hSw; (try dsimp only at hSw); go_simp; first | done | (with_reducible rfl))
      show wpAnyH _ _ _ _ _ _ _ (Act.put _ (some 71) _) _
      simp only [Act.put, List.setIfInBounds_toArray, List.set_cons_zero, List.set_cons_succ]
      refine wpAnyH_take (i := 1) (v := ?_) rfl (by kernel_rfl) (by kernel_rfl) (by kernel_rfl) (fun _ _ _ h => h) (Or.inl ⟨by rfl, ?_⟩) (by assumption) ?_
      case refine_2 => (intro w hSw; (try dsimp only at hSw); go_simp; first | done | (with_reducible rfl))
      show wpAnyH _ _ _ _ _ _ _ (Act.put _ (some 72) _) _
      simp only [Act.put, List.setIfInBounds_toArray, List.set_cons_zero, List.set_cons_succ]
      refine wpAnyH_take (i := 2) (v := ?_) rfl (by kernel_rfl) (by kernel_rfl) (by kernel_rfl) (fun _ _ _ h => h) (Or.inl ⟨by rfl, ?_⟩) (by assumption) ?_
      case refine_2 => (intro w hSw; (try dsimp only at hSw); go_simp; first | done | (with_reducible rfl))
      show wpAnyH _ _ _ _ _ _ _ (Act.put _ (some 73) _) _
      simp only [Act.put, List.setIfInBounds_toArray, List.set_cons_zero, List.set_cons_succ]
      refine wpAnyH_take (i := 3) (v := ?_) rfl (by kernel_rfl) (by kernel_rfl) (by kernel_rfl) (fun _ _ _ h => h) (Or.inl ⟨by rfl, ?_⟩) (by assumption) ?_
      case refine_2 => (intro w hSw; (try dsimp only at hSw); go_simp; first | done | (with_reducible rfl))
      show wpAnyH _ _ _ _ _ _ _ (Act.put _ (some 74) _) _
      simp only [Act.put, List.setIfInBounds_toArray, List.set_cons_zero, List.set_cons_succ]
      refine wpAnyH_take (i := 4) (v := ?_) rfl (by kernel_rfl) (by kernel_rfl) (by kernel_rfl) (fun _ _ _ h => h) (Or.inl ⟨by rfl, ?_⟩) (by assumption) ?_
      case refine_2 => (intro w hSw; (try dsimp only at hSw); go_simp; first | done | (with_reducible rfl))
      show wpAnyH _ _ _ _ _ _ _ (Act.put _ (some 75) _) _
      simp only [Act.put, List.setIfInBounds_toArray, List.set_cons_zero, List.set_cons_succ]
      refine wpAnyH_take (i := 5) (v := ?_) rfl (by kernel_rfl) (by kernel_rfl) (by kernel_rfl) (fun _ _ _ h => h) (Or.inl ⟨by rfl, ?_⟩) (by assumption) ?_
      case refine_2 => (intro w hSw; (try dsimp only at hSw); go_simp; first | done | (with_reducible rfl))
      show wpAnyH _ _ _ _ _ _ _ (Act.put _ (some 76) _) _
      simp only [Act.put, List.setIfInBounds_toArray, List.set_cons_zero, List.set_cons_succ]
      refine wpAnyH_take (i := 6) (v := ?_) rfl (by kernel_rfl) (by kernel_rfl) (by kernel_rfl) (fun _ _ _ h => h) (Or.inl ⟨by rfl, ?_⟩) (by assumption) ?_
      case refine_2 => (intro w hSw; (try dsimp only at hSw); go_simp; first | done | (with_reducible rfl))
      show wpAnyH _ _ _ _ _ _ _ (Act.put _ (some 77) _) _
      simp only [Act.put, List.setIfInBounds_toArray, List.set_cons_zero, List.set_cons_succ]
      refine wpAnyH_take (i := 7) (v := ?_) rfl (by kernel_rfl) (by kernel_rfl) (by kernel_rfl) (fun _ _ _ h => h) (Or.inl ⟨by rfl, ?_⟩) (by assumption) ?_
      case refine_2 => (intro w hSw; (try dsimp only at hSw); go_simp; first | done | (with_reducible rfl))
      show wpAnyH _ _ _ _ _ _ _ (Act.put _ (some 78) _) _
      simp only [Act.put, List.setIfInBounds_toArray, List.set_cons_zero, List.set_cons_succ]
      refine wpAnyH_ready (rs := [8]) (by kernel_rfl) (by simp) ?_
      refine (AllReadyH.cons rfl (fun K hK => ?_) AllReadyH.nil)
      go_simp
      refine hK.out _ _ ?_ (fun hHeld => ?_)
      · (exact ⟨hHeld.1.trans HG9.out, HG9.out.cellOf hHeld.2.1 e7 e7, HG9.out.cellOf hHeld.2.2.1 e5 e5, HG9.out.cellOf hHeld.2.2.2 e6 e6⟩)
      clear hK K
      try simp only [Act.put, List.setIfInBounds_toArray, List.set_cons_zero, List.set_cons_succ]
      refine wpAnyH_done (by kernel_rfl) ?_ _
      clear hHeld
      have hb9 : But mt mt wr w9 := (But.of_below (Below.refl _ _).drew).trans HG9.out
      have HB9 : Hid (But mt mt wr w9) := hb9
      have HF9 : Hid (FMAt w9 q mp mt A T ⟨doneH A A.length sm d (keepP m.has L) (keepP m.is L), keepP m.is L, updT m.tmp d gi⟩) := ⟨hb9.cellOf HFR.out.c0 e7 e7, hb9.cellOf HFR.out.c1 e7 e7, HFR.out.pm.of_block (hb9.block mp HFR.out.pm.lt HFR.out.n3 HFR.out.n3), HP9.out, HFR.out.n1, HFR.out.n2, HFR.out.n3⟩
      have e1 : w.heap.size + 1 ≠ mp := by omega
      have e8 : w.heap.size + 1 ≠ mt := by omega
      have f0 := hb9.cellOf HFR.out.c0 e7 e7
      have f1 := hb9.cellOf (HBR.out.cellOf k0 e1 e1) e8 e8
      have f2 := hb9.cellOf (HBR.out.cellOf k1 e1 e1) e8 e8
      have f3 := hb9.cellOf (HBR.out.cellOf g0 hgb hgb) e6 e6
      have f4 := hb9.cellOf x1 e6 e6
      have f5 := hb9.cellOf z2 e5 e5
      clear x0 x1 z2 hrun hb9
      have x0 := f0
      have x1 := f1
      have x2 := f2
      have x3 := f3
      have x4 := f4
      have x5 := f5
      clear f0 f1 f2 f3 f4 f5 k0 k1 k2 g0 g1
      have hn36 : A.length < maxLen := by have := HD.out.a36; unfold maxLen; omega
      go_upto_region 12 with fail
      obtain ⟨wa, hrun, hpa, hga⟩ := (HF9.out.pm.of_block (w' := w9.drew) rfl).put hn36 (HD.out.wf HL.out) ((HD.out.all _).2 HL.out) (gh ||| only d) gi
      unfold LPlace.val knownV at hrun
      have HPA : Hid (PMap wa mp A (updP (doneH A A.length sm d (keepP m.has L) (keepP m.is L)) L (gh ||| only d)) (updP (keepP m.is L) L gi)) := hpa
      have HG9 : Hid (But mp mp w9.drew wa) := grown_but hga
      have hor := or_is gh (only d)
      have e2 := hgb
      clear hpa hga
      refine wp_region_held_drew (S := (fun w' => But mp mp w9 w' ∧ w'.cell? ⟨q, 0, none⟩ = some (.map (some mp)) ∧ w'.cell? ⟨w.heap.size + 1, 0, none⟩ = some (.int .i64 L.kind) ∧ w'.cell? ⟨w.heap.size + 1, 1, none⟩ = some (.int .i64 L.n) ∧ w'.cell? ⟨w3.heap.size, 0, none⟩ = some (.int .u64 (bn gh)) ∧ w'.cell? ⟨w3.heap.size, 1, none⟩ = some (.int .u64 (bn gi)) ∧ w'.cell? ⟨w.heap.size, 1, none⟩ = some (.int .i64 (d : Int)))) (by rfl) ?_ (fun hHeld => ?_)
      · (exact ⟨But.of_below (Below.refl _ _).drew, x0, x1, x2, x3, x4, x5⟩)
      refine wpAnyH_take (i := 0) (v := ?_) rfl (by kernel_rfl) (by kernel_rfl) (by kernel_rfl) (fun _ _ _ h => h) (Or.inl ⟨by rfl, ?_⟩) (by assumption) ?_
      case refine_2 => (intro w hSw; (try dsimp only at hSw); go_simp; first | done | (with_reducible rfl))
      show wpAnyH _ _ _ _ _ _ _ (Act.put _ (some 79) _) _
      simp only [Act.put, List.setIfInBounds_toArray, List.set_cons_zero, List.set_cons_succ]
      refine wpAnyH_take (i := 1) (v := ?_) rfl (by kernel_rfl) (by kernel_rfl) (by kernel_rfl) (fun _ _ _ h => h) (Or.inl ⟨by rfl, ?_⟩) (by assumption) ?_
      case refine_2 => (intro w hSw; (try dsimp only at hSw); go_simp; first | done | (with_reducible rfl))
      show wpAnyH _ _ _ _ _ _ _ (Act.put _ (some 80) _) _
      simp only [Act.put, List.setIfInBounds_toArray, List.set_cons_zero, List.set_cons_succ]
      refine wpAnyH_take (i := 2) (v := ?_) rfl (by kernel_rfl) (by kernel_rfl) (by kernel_rfl) (fun _ _ _ h => h) (Or.inl ⟨by rfl, ?_⟩) (by assumption) ?_
      case refine_2 => (intro w hSw; (try dsimp only at hSw); go_simp; first | done | (with_reducible rfl))
      show wpAnyH _ _ _ _ _ _ _ (Act.put _ (some 81) _) _
      simp only [Act.put, List.setIfInBounds_toArray, List.set_cons_zero, List.set_cons_succ]
      refine wpAnyH_take (i := 3) (v := ?_) rfl (by kernel_rfl) (by kernel_rfl) (by kernel_rfl) (fun _ _ _ h => h) (Or.inl ⟨by rfl, ?_⟩) (by assumption) ?_
      case refine_2 => (intro w hSw; (try dsimp only at hSw); go_simp; first | done | (with_reducible rfl))
      show wpAnyH _ _ _ _ _ _ _ (Act.put _ (some 82) _) _
      simp only [Act.put, List.setIfInBounds_toArray, List.set_cons_zero, List.set_cons_succ]
      refine wpAnyH_take (i := 4) (v := ?_) rfl (by kernel_rfl) (by kernel_rfl) (by kernel_rfl) (fun _ _ _ h => h) (Or.inl ⟨by rfl, ?_⟩) (by assumption) ?_
      case refine_2 => (intro w hSw; (try dsimp only at hSw); go_simp; first | done | (with_reducible rfl))
      show wpAnyH _ _ _ _ _ _ _ (Act.put _ (some 83) _) _
      simp only [Act.put, List.setIfInBounds_toArray, List.set_cons_zero, List.set_cons_succ]
      refine wpAnyH_take (i := 5) (v := ?_) rfl (by kernel_rfl) (by kernel_rfl) (by kernel_rfl) (fun _ _ _ h => h) (Or.inl ⟨by rfl, ?_⟩) (by assumption) ?_
      case refine_2 => (intro w hSw; (try dsimp only at hSw); go_simp; first | done | (with_reducible rfl))
      show wpAnyH _ _ _ _ _ _ _ (Act.put _ (some 84) _) _
      simp only [Act.put, List.setIfInBounds_toArray, List.set_cons_zero, List.set_cons_succ]
      refine wpAnyH_take (i := 6) (v := ?_) rfl (by kernel_rfl) (by kernel_rfl) (by kernel_rfl) (fun _ _ _ h => h) (Or.inl ⟨by rfl, ?_⟩) (by assumption) ?_
      case refine_2 => (intro w hSw; (try dsimp only at hSw); go_simp; first | done | (with_reducible rfl))
      show wpAnyH _ _ _ _ _ _ _ (Act.put _ (some 85) _) _
      simp only [Act.put, List.setIfInBounds_toArray, List.set_cons_zero, List.set_cons_succ]
      refine wpAnyH_take (i := 7) (v := ?_) rfl (by kernel_rfl) (by kernel_rfl) (by kernel_rfl) (fun _ _ _ h => h) (Or.inl ⟨by rfl, ?_⟩) (by assumption) ?_
      case refine_2 => (intro w hSw; (try dsimp only at hSw); go_simp; first | done | (with_reducible rfl))
      show wpAnyH _ _ _ _ _ _ _ (Act.put _ (some 86) _) _
      simp only [Act.put, List.setIfInBounds_toArray, List.set_cons_zero, List.set_cons_succ]
      refine wpAnyH_take (i := 8) (v := ?_) rfl (by kernel_rfl) (by kernel_rfl) (by kernel_rfl) (fun _ _ _ h => h) (Or.inl ⟨by rfl, ?_⟩) (by assumption) ?_
      case refine_2 => (intro w hSw; (try dsimp only at hSw); go_simp; first | done | (with_reducible rfl))
      show wpAnyH _ _ _ _ _ _ _ (Act.put _ (some 87) _) _
      simp only [Act.put, List.setIfInBounds_toArray, List.set_cons_zero, List.set_cons_succ]
      refine wpAnyH_take (i := 11) (v := ?_) rfl (by kernel_rfl) (by kernel_rfl) (by kernel_rfl) (fun _ _ _ h => h) (Or.inl ⟨by rfl, ?_⟩) (by assumption) ?_
      case refine_2 => (intro w hSw; (try dsimp only at hSw); go_simp; first | done | (with_reducible rfl))
      show wpAnyH _ _ _ _ _ _ _ (Act.put _ (some 90) _) _
      simp only [Act.put, List.setIfInBounds_toArray, List.set_cons_zero, List.set_cons_succ]
      refine wpAnyH_take (i := 12) (v := ?_) rfl (by kernel_rfl) (by kernel_rfl) (by kernel_rfl) (fun _ _ _ h => h) (Or.inl ⟨by rfl, ?_⟩) (by assumption) ?_
      case refine_2 => (intro w hSw; (try dsimp only at hSw); go_simp; first | done | (with_reducible rfl))
      show wpAnyH _ _ _ _ _ _ _ (Act.put _ (some 91) _) _
      simp only [Act.put, List.setIfInBounds_toArray, List.set_cons_zero, List.set_cons_succ]
      refine wpAnyH_ready (rs := [9]) (by kernel_rfl) (by simp) ?_
      refine (AllReadyH.cons rfl (fun K hK => ?_) AllReadyH.nil)
      go_simp
      go_at_call 77
      refine (onlyO d h64 _).mono ?_
      rintro e w1 ⟨rfl, hw1⟩
      obtain rfl := hw1.symm
      go_wp2_with fail
      refine hK.out _ _ ?_ (fun hHeld => ?_)
      · (exact hHeld)
      clear hK K
      try simp only [Act.put, List.setIfInBounds_toArray, List.set_cons_zero, List.set_cons_succ]
      refine wpAnyH_take (i := 10) (v := ?_) rfl (by kernel_rfl) (by kernel_rfl) (by kernel_rfl) (fun _ _ _ h => h) (Or.inl ⟨by rfl, ?_⟩) (by assumption) ?_
      case refine_2 => (intro w hSw; (try dsimp only at hSw); go_simp; first | done | (with_reducible rfl))
      show wpAnyH _ _ _ _ _ _ _ (Act.put _ (some 89) _) _
      simp only [Act.put, List.setIfInBounds_toArray, List.set_cons_zero, List.set_cons_succ]
      refine wpAnyH_take (i := 13) (v := ?_) rfl (by kernel_rfl) (by kernel_rfl) (by kernel_rfl) (fun _ _ _ h => h) (Or.inl ⟨by rfl, ?_⟩) (by assumption) ?_
      case refine_2 => (intro w hSw; (try dsimp only at hSw); go_simp; first | done | (with_reducible rfl))
      show wpAnyH _ _ _ _ _ _ _ (Act.put _ (some 92) _) _
      simp only [Act.put, List.setIfInBounds_toArray, List.set_cons_zero, List.set_cons_succ]
      refine wpAnyH_ready (rs := [14]) (by kernel_rfl) (by simp) ?_
      refine (AllReadyH.cons rfl (fun K hK => ?_) AllReadyH.nil)
      go_simp
      refine hK.out _ _ ?_ (fun hHeld => ?_)
      · (exact ⟨hHeld.1.trans HG9.out, HG9.out.cellOf hHeld.2.1 e0 e0, HG9.out.cellOf hHeld.2.2.1 e1 e1, HG9.out.cellOf hHeld.2.2.2.1 e1 e1, HG9.out.cellOf hHeld.2.2.2.2.1 e2 e2, HG9.out.cellOf hHeld.2.2.2.2.2.1 e2 e2, HG9.out.cellOf hHeld.2.2.2.2.2.2 e3 e3⟩)
      clear hK K
      try simp only [Act.put, List.setIfInBounds_toArray, List.set_cons_zero, List.set_cons_succ]
      refine wpAnyH_done (by kernel_rfl) ?_ _
      clear hHeld
      go_wp2
      go_end0
      have hba : But mp mp w9 wa := (But.of_below (Below.refl _ _).drew).trans HG9.out
      have hF9 := HF9.out
      refine ⟨rfl, gh, gi, fun p => sm (keepP m.has L p) (keepP m.is L p), ⟨HGS.out.h, HGS.out.y, fun p _ => HGS.out.s _ _⟩, ?_, ?_⟩
      · have hd : i.dest.toNat = d := by rw [HDD.out]; exact Int.toNat_natCast d
        rw [hd]
        have h := HPA.out
        rw [HDN.out] at h
        exact ⟨hba.cellOf hF9.c0 hF9.n1 hF9.n1, hba.cellOf hF9.c1 hF9.n1 hF9.n1, h, hF9.tm.of_block (hba.block mt hF9.tm.lt (Ne.symm hF9.n3) (Ne.symm hF9.n3)), hF9.n1, hF9.n2, hF9.n3⟩
      · have h1 : But mp mp w wr := (But.of_below HB4.out).trans (HB6.out.trans HBR.out)
        exact ⟨by rw [hba.os, HB9.out.os, h1.os], by rw [hba.tape, HB9.out.tape, h1.tape], by rw [hba.output, HB9.out.output, h1.output], Nat.le_trans h1.size (Nat.le_trans HB9.out.size hba.size), fun k hk n1 n2 => by
          have s1 := h1.size
          have s2 := HB9.out.size
          rw [hba.block k (by omega) n1 n1, HB9.out.block k (by omega) n2 n2, h1.block k hk n1 n1]⟩
end Go.Proofs.YtcmnmogmdhofcabGreat.form

/- What layout.within and isIn answer. -/
namespace Go.Proofs.YtcmnmogmdhofcabGreat.form
open Go.RowKit
set_option linter.unusedVariables false

theorem within (a b : Int) (w : World) :
    Calls Tryz.prog 60 #[.int .i64 a, .int .i64 b] w fun e w' => e = .returned (.bool (decide (1 ≤ a) && decide (a ≤ b))) ∧ w' = w := by
  go_enter Tryz.func60, Tryz.ntmps60
  go_wp2
  all_goals
    go_ret
    exact ⟨ret_bool (by rw [Bool.eq_iff_iff]; simp; try omega), rfl⟩

theorem isIn (a b : Int) (w : World) :
    Calls Tryz.prog 103 #[.int .i64 a, .int .i64 b] w fun e w' => e = .returned (.bool (decide (0 ≤ a) && decide (a < b))) ∧ w' = w := by
  go_enter Tryz.func103, Tryz.ntmps103
  go_wp2
  all_goals
    go_ret
    exact ⟨ret_bool (by rw [Bool.eq_iff_iff]; simp; try omega), rfl⟩

end Go.Proofs.YtcmnmogmdhofcabGreat.form
