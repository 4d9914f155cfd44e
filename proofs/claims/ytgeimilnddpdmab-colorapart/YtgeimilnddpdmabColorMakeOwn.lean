/- Registers for temporaries: the program's own color.Make answers as it must. -/
import Derived.Test.YtgeimilnddpdmabColorMake
namespace Go.Proofs.Ytgeimilnddpdmab.form
open Go.RowKit
set_option linter.unusedVariables false
set_option maxRecDepth 100000
attribute [local go_sem ↓] Go.wp_at_zero Go.wp_at_succ

/-- While registers are given: the row of them, all else that was there as it was. -/
structure MkS (B : List Bool) (C : List LIns) (n gv : Nat) (w4 : World) (G : List LPlace) (wr : World) : Prop where
  ok : GivOk B C n G
  row : Row wr gv 34 (G.flatMap rgCs)
  grown : w4.grownBy wr (some gv)

theorem MkS.step {B : List Bool} {C : List LIns} {n gv : Nat} {w4 : World} {G : List LPlace} {wr w6 : World} (h : MkS B C n gv w4 G wr) (hb : Below wr.heap.size wr w6) {t : Nat} {q : LPlace} (hok : GivOk B C n (G.set t q)) :
    MkS B C n gv w4 (G.set t q) ((w6.setCell ⟨gv, t * 2, none⟩ (.int .i64 q.kind)).setCell ⟨gv, t * 2 + 1, none⟩ (.int .i64 q.n)) := by
  refine ⟨hok, ?_, ?_⟩
  · have := ((h.row.below hb).set (t * 2) (.int .i64 q.kind)).set (t * 2 + 1) (.int .i64 q.n)
    rwa [flat_set] at this
  · have hg := h.grown
    refine ⟨hb.os.trans hg.os, hb.tape.trans hg.tape, hb.output.trans hg.output, ?_, fun k hk hne => ?_⟩
    · have h1 := hg.size
      have h2 := hb.size
      simp [World.setCell]
      omega
    · have hk2 : k < wr.heap.size := Nat.lt_of_lt_of_le hk hg.size
      have hne2 : k ≠ gv := fun e => hne (by rw [e])
      rw [Below.heap_setCell _ _ _ _ (fun e => hne2 (by simpa using e)), Below.heap_setCell _ _ _ _ (fun e => hne2 (by simpa using e)), hb.block k hk2]
      exact hg.block k hk hne

set_option maxHeartbeats 1600000 in
theorem make_no (pv : Value) (B : List Bool) (C : List LIns) (n : Int) (w : World) (hp : ProgIs w pv B C) (hm : refMayB B C = false) :
    Calls Try.prog 6 #[pv, .int .i64 n] w fun e w' => e = .returned (.tuple #[.slice none 0 0, .int .i64 2]) ∧ Below w.heap.size w w' := by
  have h0 := hp
  obtain ⟨⟨a0, c0, a1, c1, rfl, -⟩, -, -, -⟩ := h0
  have HO : Hid (∀ wx : World, Below w.heap.size w wx → Calls Try.prog 20 #[.agg #[.slice a0 B.length c0, .slice a1 C.length c1]] wx fun e w' => e = .returned (.tuple #[.slice none 0 0, .int .i64 2]) ∧ Below wx.heap.size wx w') := fun wx hb => near_no _ B C wx (hp.later hb) hm
  clear hp hm
  go_enter Try.func6, Try.ntmps6
  go_wp2_with (go_at_call 20; refine (HO.out _ ?_).mono ?_; (exact (Below.refl _ _).alloc (Nat.le_refl _) _); rintro e w1 ⟨rfl, hb1⟩; have HB1 : Hid (Below w.heap.size w w1) := over_alloc hb1; clear hb1)
  refine bodyPost_ret (v := .tuple #[.slice none 0 0, .int .i64 2]) ?_ rfl ⟨rfl, HB1.out⟩
  simp [results, Try.results6, go_sem]

set_option maxHeartbeats 1600000 in
theorem make_range (b0 o0 c0 b1 o1 c1 : Nat) (B : List Bool) (C : List LIns) (n : Int) (w : World) (h : Held w b0 o0 b1 o1 B C) (hn : ∀ i, i < C.length → 0 ≤ (C.getD i .zero).n ∧ (C.getD i .zero).n < 4294967296) (hm : refMayB B C = true) (hbad : mayN n = false) :
    Calls Try.prog 6 #[progV b0 o0 B.length c0 b1 o1 C.length c1, .int .i64 n] w fun e w' => e = .returned (.tuple #[.slice none 0 0, .int .i64 3]) ∧ Below w.heap.size w w' := by
  have HO : Hid (∀ wx : World, Below w.heap.size w wx → Calls Try.prog 20 #[progV b0 o0 B.length c0 b1 o1 C.length c1] wx fun e w' => OwnNear B.length C e w' ∧ Below wx.heap.size wx w') := fun wx hb => near_yes b0 o0 c0 b1 o1 c1 B C wx (h.later hb) hn hm
  have HS : Hid (∀ wx : World, Calls Try.prog 21 #[.int .i64 n] wx fun e w' => e = .returned (.bool false) ∧ w' = wx) := fun wx => by have := singlesO n wx; rwa [hbad] at this
  clear h hn hm hbad
  unfold progV at HO ⊢
  go_enter Try.func6, Try.ntmps6
  go_wp2_with (first
    | (go_at_call 20; refine (HO.out _ ?_).mono ?_; (exact (Below.refl _ _).alloc (Nat.le_refl _) _); rintro e w1 ⟨⟨gn, L, rfl, -, -⟩, hb1⟩; have HB1 : Hid (Below w.heap.size w w1) := over_alloc hb1; clear hb1)
    | (go_at_call 21; refine (HS.out _).mono ?_; rintro e w2 ⟨rfl, hw2⟩; obtain rfl := hw2.symm))
  refine bodyPost_ret (v := .tuple #[.slice none 0 0, .int .i64 3]) ?_ rfl ⟨rfl, HB1.out⟩
  simp [results, Try.results6, go_sem]

def MakeP (B : List Bool) (C : List LIns) (n : Nat) (w : World) (e : Ending) (w' : World) : Prop := (∃ v L, e = .returned (.tuple #[v, .int .i64 0]) ∧ PlacesIs w' v L ∧ ColorOk B C n L) ∧ Below w.heap.size w w'

set_option maxHeartbeats 3200000 in
theorem make_yes (b0 o0 c0 b1 o1 c1 : Nat) (B : List Bool) (C : List LIns) (n : Nat) (w : World) (h : Held w b0 o0 b1 o1 B C) (hn : ∀ i, i < C.length → 0 ≤ (C.getD i .zero).n ∧ (C.getD i .zero).n < 4294967296) (hm : refMayB B C = true) (h2 : n % 2 = 0) (h16 : n ≤ 16) :
    Calls Try.prog 6 #[progV b0 o0 B.length c0 b1 o1 C.length c1, .int .i64 n] w fun e w' => MakeP B C n w e w' := by
  have hs : sizesB B C = true := by
    have hm0 := hm
    unfold refMayB at hm0
    simp only [Bool.and_eq_true] at hm0
    exact hm0.1
  obtain ⟨s1, s2, s3, s4⟩ := sizes_of hs
  have HO : Hid (∀ wx : World, Below w.heap.size w wx → Calls Try.prog 20 #[progV b0 o0 B.length c0 b1 o1 C.length c1] wx fun e w' => OwnNear B.length C e w' ∧ Below wx.heap.size wx w') := fun wx hb => near_yes b0 o0 c0 b1 o1 c1 B C wx (h.later hb) hn hm
  have HS : Hid (∀ wx : World, Calls Try.prog 21 #[.int .i64 n] wx fun e w' => e = .returned (.bool true) ∧ w' = wx) := fun wx => by
    have h1 := singlesO n wx
    have h3 : mayN n = true := by
      unfold mayN
      simp
      omega
    rwa [h3] at h1
  have HH : Hid (∀ wx : World, Below w.heap.size w wx → ∀ i, i < B.length → wx.cell? ⟨b0, o0 + i, none⟩ = some (.bool (B.getD i false))) := fun wx hb => (h.later hb).wide
  have hb0 := h.lt0
  have HB0 : Hid (b0 < w.heap.size) := hb0
  have y1 : (B.length : Int) ≤ 12 := by omega
  have y2 : (1 : Int) ≤ (B.length : Int) := by omega
  have y3 : (n : Int) ≤ 16 := by omega
  have hmk := fun wx => makePl B.length s2 wx
  clear h hn hm hs
  unfold progV at HO ⊢
  go_enter Try.func6, Try.ntmps6
  go_upto_region 7 with (first
    | (go_at_call 20; refine (HO.out _ ?_).mono ?_; (exact (Below.refl _ _).alloc (Nat.le_refl _) _); rintro e w1 ⟨⟨gn, L, rfl, hM1, hN1⟩, hb1⟩; have p0 : w1.cell? ⟨w.heap.size, 0, none⟩ = some (.slice (some ⟨b0, o0, none⟩) B.length c0) := step_cell hb1 (by simp [go_sem]); have HB1 : Hid (Below w.heap.size w w1) := over_alloc hb1; have HM1 : Hid (MatF gn B.length B.length L w1) := hM1; have HN1 : Hid (NrS B.length L (fun x y => Near C x y)) := hN1; have hp1 : w.heap.size < w1.heap.size := World.block_lt_of_cell? _ _ p0; clear hb1 hM1 hN1)
    | (go_at_call 21; refine (HS.out _).mono ?_; rintro e w2 ⟨rfl, hw2⟩; obtain rfl := hw2.symm))
  obtain ⟨w3, hw3⟩ : ∃ w3, w3 = w1.alloc (.cells ((List.replicate B.length LPlace.zero).flatMap rgCs).toArray 34) := ⟨_, rfl⟩
  have hb3 : Below w1.heap.size w1 w3 := by rw [hw3]; exact (Below.refl _ _).alloc (Nat.le_refl _) _
  have hr3 : Row w3 w1.heap.size 34 ((List.replicate B.length LPlace.zero).flatMap rgCs) := by rw [hw3]; exact Row.new _ _ _
  rw [← hw3]
  obtain ⟨gv, hgv⟩ : ∃ gv, gv = w1.heap.size := ⟨_, rfl⟩
  have hgn : gn + B.length < gv := by
    have := (HM1.out.row (B.length - 1) (by omega)).lt
    omega
  have p3 := step_cell hb3 p0
  have HB3 : Hid (Below w.heap.size w w3) := step_below hb3 HB1.out
  have HM3 : Hid (MatF gn B.length B.length L w3) := HM1.out.below hb3
  rw [← hgv] at hr3 hp1 ⊢
  have HR3 : Hid (Row w3 gv 34 ((List.replicate B.length LPlace.zero).flatMap rgCs)) := hr3
  have hg3 := hr3.lt
  clear hmk hw3 hb3 hr3 hgv p0 HB1 HM1 HO HS
  go_wp2_with (go_at_call 22; refine (orderO b0 o0 c0 gn B L n _ s1 s2 HM3.out (HH.out _ HB3.out) (by have := HB3.out.size; have := HB0.out; omega)).mono ?_; rintro e w4 ⟨⟨ob, oc, l, rfl, hl12, ho1, ho2, hcs⟩, hb4⟩; have HB4 : Hid (Below w.heap.size w w4) := step_below hb4 HB3.out; have HM4 : Hid (MatF gn B.length B.length L w4) := HM3.out.below hb4; have HR4 : Hid (Row w4 gv 34 ((List.replicate B.length LPlace.zero).flatMap rgCs)) := HR3.out.below hb4; have p4 := step_cell hb4 p3; have HCS : Hid (∀ j, j < l.length → w4.cell? ⟨ob, j, none⟩ = some (.int .i64 (l.getD j 0 : Nat)) ∧ l.getD j 0 < B.length) := hcs; have HS4 : Hid (w3.heap.size ≤ w4.heap.size) := hb4.size; clear hb4 hcs)
  have y4 : (l.length : Int) ≤ 12 := by omega
  have HP4 : Hid (w4.cell? ⟨w.heap.size, 0, none⟩ = some (.slice (some ⟨b0, o0, none⟩) B.length c0)) := p4
  clear p3 p4 HB3 HM3 HR3
  go_loopg [10, 32] (l.length + 1) (fun gg v10 v32 wr => ∃ (k : Nat) (G : List LPlace), v32 = .int .i64 k ∧ k ≤ l.length ∧ gg = l.length + 1 - k ∧ MkS B C n gv w4 G wr)
  case atStart => exact ⟨0, _, rfl, by omega, by omega, ⟨GivOk.start B C n, HR4.out, ⟨rfl, rfl, rfl, Nat.le_refl _, fun _ _ _ => rfl⟩⟩⟩
  case round =>
    clear HR4
    obtain ⟨k, G, rfl, hk, hgk, hmk⟩ := hrel
    have HGK : Hid (gk = l.length + 1 - k) := hgk
    have HMK : Hid (MkS B C n gv w4 G wr) := hmk
    clear hgk hmk
    by_cases hlt : k < l.length
    case neg =>
      have y5 : ¬ (k : Int) < (l.length : Int) := by omega
      have hGl := HMK.out.ok.len
      have HPL : Hid (PlacesIs wr (.slice (some ⟨gv, 0, none⟩) B.length B.length) G) := by
        have := row_places (cap := B.length) HMK.out.row (by omega)
        rwa [hGl] at this
      have HBE : Hid (Below w.heap.size w wr) := HB4.out.grown HMK.out.grown HB4.out.size (fun j hj => by simp at hj; omega)
      go_wp2
      refine bodyPost_ret (v := .tuple #[.slice (some ⟨gv, 0, none⟩) B.length B.length, .int .i64 0]) ?_ rfl ⟨⟨_, G, rfl, HPL.out, HMK.out.ok.ok⟩, HBE.out⟩
      simp [results, Try.results6, go_sem]
    have y5 : (k : Int) < (l.length : Int) := by omega
    have y6 : (0 : Int) ≤ (k : Int) := by omega
    have hGl := HMK.out.ok.len
    obtain ⟨k1, ht⟩ := HCS.out k hlt
    obtain ⟨t, ht0⟩ : ∃ t, t = l.getD k 0 := ⟨_, rfl⟩
    rw [← ht0] at k1 ht
    clear ht0
    have hgr := HMK.out.grown
    have d1 : wr.cell? ⟨ob, k, none⟩ = some (.int .i64 (t : Nat)) := hgr.cell k1 (by simp; omega)
    have d2 : wr.cell? ⟨w.heap.size, 0, none⟩ = some (.slice (some ⟨b0, o0, none⟩) B.length c0) := hgr.cell HP4.out (by simp; omega)
    have d3 : wr.cell? ⟨b0, o0 + t, none⟩ = some (.bool (B.getD t false)) := hgr.cell (HH.out _ HB4.out t ht) (by have := HB0.out; simp; omega)
    have d4 : wr.cell? ⟨gn, t, none⟩ = some (.slice (some ⟨gn + 1 + t, 0, none⟩) B.length B.length) := hgr.cell (HM4.out.top t ht) (by simp; omega)
    have hTR : TruAt wr (gn + 1 + t) (rowF B.length L t) := fun j hj => by
      rw [len_rowF] at hj
      rw [getD_rowF hj]
      exact hgr.cell (HM4.out.cell ht hj) (by simp; omega)
    have HFR : Hid (∀ (rv : Value) (lo : Nat) (rl : List LPlace) (wx : World), Below wr.heap.size wr wx → RegsAt wx lo rv rl → rl.length ≤ 16 → Calls Try.prog 23 #[rv, .slice (some ⟨gv, 0, none⟩) B.length B.length, .slice (some ⟨gn + 1 + t, 0, none⟩) B.length B.length] wx fun e w' => FreeP rl G (rowF B.length L t) wx e w') := fun rv lo rl wx hb hrv hrl => by
      have := freeO lo rv rl gv (gn + 1 + t) B.length B.length G (rowF B.length L t) wx hrv hrl (by rw [len_rowF, hGl]) (by omega) (row_giv (HMK.out.row.below hb)) (hTR.later hb)
      rwa [len_rowF, hGl] at this
    have f1 := fun j => HMK.out.row.frozen j
    have f2 : wr.cell? ⟨gv, t * 2, none⟩ = some (.int .i64 (G.getD t .zero).kind) := (row_giv HMK.out.row t (by omega)).1
    have f3 : wr.cell? ⟨gv, t * 2 + 1, none⟩ = some (.int .i64 (G.getD t .zero).n) := (row_giv HMK.out.row t (by omega)).2
    have y7 : (t : Int) < (B.length : Int) := by omega
    have y8 : (0 : Int) ≤ (t : Int) := by omega
    obtain ⟨x, hx⟩ : ∃ x, x = B.getD t false := ⟨_, rfl⟩
    rw [← hx] at d3
    have HX : Hid (x = B.getD t false) := hx
    have hbg : b0 < gv := by have := HB0.out; omega
    clear hx hgr hTR k1 hGl
    have HRG : Hid (∀ wx : World, Calls Try.prog 24 #[.bool x, .int .i64 n] wx fun e w' => (∃ v, e = .returned v ∧ RegsAt w' wx.heap.size v (regsL x n)) ∧ Below wx.heap.size wx w') := fun wx => registersO x n h16 wx
    go_wp2
    go_region_held3 (fun w' => w'.cell? ⟨w.heap.size, 0, none⟩ = some (.slice (some ⟨b0, o0, none⟩) B.length c0) ∧ w'.cell? ⟨b0, o0 + t, none⟩ = some (.bool x) ∧ w'.cell? ⟨gn, t, none⟩ = some (.slice (some ⟨gn + 1 + t, 0, none⟩) B.length B.length))
      ((go_split_ands; refine ⟨?_, ?_, ?_⟩ <;> first | exact step_cell hbc (by assumption) | assumption | exact cell_other (cell_other (by assumption) (by dsimp only; omega)) (by dsimp only; omega) | (go_keep; done)))
      (first
        | (go_at_call 24; refine (HRG.out _).mono ?_; rintro e w5 ⟨⟨rv, rfl, hrv⟩, hbc⟩; have HB5 : Hid (Below wr.heap.size wr w5) := step_below hbc (Below.refl _ _).drew; have HRV : Hid (RegsAt w5 wr.heap.size rv (regsL x n)) := hrv; clear hrv)
        | (go_at_call 23; refine (HFR.out rv _ (regsL x n) _ HB5.out HRV.out (regs_len x n h16)).mono ?_; rintro e w6 ⟨⟨q, hq0, hq⟩, hbc⟩; have hq1 : e = .returned (.agg #[.int .i64 q.kind, .int .i64 q.n]) := hq0; subst hq1; have HB6 : Hid (Below wr.heap.size wr w6) := step_below hbc HB5.out; have HQ : Hid (q = .zero ∨ ∃ j, j < (regsL x n).length ∧ q = (regsL x n).getD j .zero ∧ Free q G (rowF B.length L t)) := hq; have g2 := step_cell HB6.out f2; have g3 := step_cell HB6.out f3; have g4 : w6.frozen? ⟨gv, t * 2, none⟩ = false := (by rw [HB6.out.frozen (World.block_lt_of_cell? _ _ f2)]; exact f1 _); have g5 : w6.frozen? ⟨gv, t * 2 + 1, none⟩ = false := (by rw [HB6.out.frozen (World.block_lt_of_cell? _ _ f3)]; exact f1 _); clear hq hq0))
    have HN : Hid (MkS B C n gv w4 (G.set t q) ((w6.setCell ⟨gv, t * 2, none⟩ (.int .i64 q.kind)).setCell ⟨gv, t * 2 + 1, none⟩ (.int .i64 q.n))) := by
      have h1 := HQ.out
      rw [HX.out] at h1
      exact HMK.out.step HB6.out (HMK.out.ok.step h2 h16 HN1.out ht h1)
    clear g2 g3 g4 g5 f1 f2 f3 d1 d2 d3 d4
    go_wp2
    have hgk := HGK.out
    go_roundg (gk - 1)
    case measure => omega
    case rel => exact ⟨k + 1, G.set t q, by go_num, by omega, by omega, HN.out⟩

theorem makeO : ColorSpec := by
  intro pv B C n w hp
  rcases Bool.eq_false_or_eq_true (refMayB B C) with hm | hm
  · have hs : sizesB B C = true := by
      have hm0 := hm
      unfold refMayB at hm0
      simp only [Bool.and_eq_true] at hm0
      exact hm0.1
    obtain ⟨s1, s2, s3, s4⟩ := sizes_of hs
    obtain ⟨⟨a0, c0, a1, c1, rfl, hh⟩, -, -, hn⟩ := hp
    obtain ⟨b0, o0, b1, o1, rfl, rfl, hH⟩ := hh s1 s3
    rcases Bool.eq_false_or_eq_true (mayN n) with hb | hb
    · have hnb : ¬ badN n := fun h => by rw [(mayN_bad n).2 h] at hb; cases hb
      obtain ⟨N, rfl⟩ : ∃ N : Nat, n = N := ⟨n.toNat, by unfold badN at hnb; omega⟩
      refine (make_yes b0 o0 c0 b1 o1 c1 B C N w hH hn hm (by unfold badN at hnb; omega) (by unfold badN at hnb; omega)).mono ?_
      rintro e w' ⟨h1, h2⟩
      exact ⟨Or.inr (Or.inr ⟨hm, hnb, h1⟩), h2⟩
    · refine (make_range b0 o0 c0 b1 o1 c1 B C n w hH hn hm hb).mono ?_
      rintro e w' ⟨rfl, h2⟩
      exact ⟨Or.inr (Or.inl ⟨hm, (mayN_bad n).1 hb, none, 0, rfl⟩), h2⟩
  · refine (make_no pv B C n w hp hm).mono ?_
    rintro e w' ⟨rfl, h2⟩
    exact ⟨Or.inl ⟨hm, none, 0, rfl⟩, h2⟩

end Go.Proofs.Ytgeimilnddpdmab.form
