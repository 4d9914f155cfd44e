/- What check.Takes must answer. -/
import Derived.Test.YtcmnmogmdhofcabGreatE17
import Derived.Test.YtcmnmogmdhofcabGreatE19
import Derived.Test.YtcmnmogmdhofcabGreatE03

namespace Go.Proofs.YtcmnmogmdhofcabGreat.form
open Go.RowKit
set_option linter.unusedVariables false

def TakesSpec : Prop := ∀ (pv lv : Value) (B : List Bool) (C : List LIns) (s slots : Int) (R : List LRow) (w : World), ProgIs w pv B C → PlacedIs w lv slots R → RowsOk R →
  Calls Tryz.prog 6 #[pv, targetV s, lv] w fun e w' => TakesAns B C s slots R e ∧ Below w.heap.size w w'

end Go.Proofs.YtcmnmogmdhofcabGreat.form

/- What check.Takes answers. -/
namespace Go.Proofs.YtcmnmogmdhofcabGreat.form
open Go.RowKit Go.Maps
set_option linter.unusedVariables false
set_option maxRecDepth 100000
attribute [local go_sem ↓] Go.wp_at_zero Go.wp_at_succ

theorem usesK_same {ok : LFact → Prop} {i : LIns} {r : LRow} {K K' : LFact → Prop} (h : ∀ f, K f ↔ K' f) : usesK ok i r K ↔ usesK ok i r K' := by
  unfold usesK
  have e : ∀ f, movesK ok r.before K f ↔ movesK ok r.before K' f := fun f => ⟨movesK_mono _ (fun f => (h f).1) f, movesK_mono _ (fun f => (h f).2) f⟩
  rw [e, e]
theorem dims_of {B : List Bool} {C : List LIns} {s slots : Nat} {N : List Int} (hb1 : 1 ≤ B.length) (hb12 : B.length ≤ 12) (hc1 : 1 ≤ C.length) (hc40 : C.length ≤ 40) (hs4 : 4 ≤ s) (hs16 : s ≤ 16) (hs2 : s % 2 = 0) (hl : slots ≤ 12) (hn : NumsOk C N) : Dims B C s slots (preP s slots 4) N :=
  ⟨hb1, hb12, hc1, hc40, hs4, hs16, hs2, hl, all_len hs16 hl, fun p => all_mem hs16 hs2, hn.one, by have := hn.le; omega, hn.inc, hn.num⟩

theorem may_ins {B : List Bool} {C : List LIns} (h : refMayB B C = true) : ∀ k, k < C.length → insB B C.length (C.getD k .zero) = true := by
  unfold refMayB at h
  simp only [Bool.and_eq_true, List.all_eq_true] at h
  exact fun k hk => h.2 _ (by simp [List.getD, hk])

def TakeS (B : List Bool) (C : List LIns) (s slots : Nat) (R : List LRow) (k : Nat) : Prop := ∀ j, j < k → Reach C j → usesK (FactOk B s slots (NumP C)) (C.getD j .zero) (R.getD j .zero) (Known B C s slots R j)

set_option maxHeartbeats 1600000 in
theorem takesYes (b0 o0 c0 b1 o1 c1 b2 o2 c2 : Nat) (B : List Bool) (C : List LIns) (s slots : Nat) (R : List LRow) (w : World) (h : Held w b0 o0 b1 o1 B C) (hr : RowsHeld w b2 o2 R) (hn : ∀ i, i < C.length → 0 ≤ (C.getD i .zero).n ∧ (C.getD i .zero).n < 4294967296) (hRl : R.length ≤ 9223372036854775807) (hmay : placeMayB B C s slots R = true) :
    Calls Tryz.prog 6 #[progV b0 o0 B.length c0 b1 o1 C.length c1, targetV s, .agg #[.int .i64 slots, .slice (some ⟨b2, o2, none⟩) R.length c2]] w fun e w' => TakesAns B C s slots R e ∧ Below w.heap.size w w' := by
  have hm2 := hmay
  unfold placeMayB at hm2
  simp only [Bool.and_eq_true, Bool.not_eq_true', decide_eq_true_eq, decide_eq_false_iff_not, List.all_eq_true, List.mem_range] at hm2
  obtain ⟨⟨⟨⟨⟨h1, h2⟩, h3⟩, h4⟩, h5⟩, h6⟩ := hm2
  have hs := target_of h2
  have hsz : sizesB B C = true := by unfold refMayB at h1; simp only [Bool.and_eq_true] at h1; exact h1.1
  obtain ⟨s1, s2, s3, s4⟩ := sizes_of hsz
  have hs2 : s % 2 = 0 := by
    unfold targetB at h2
    simp at h2
    omega
  have hib : ∀ k, k < C.length → insB B C.length (C.getD k .zero) = true := may_ins h1
  have HIB : Hid (∀ k, k < C.length → insB B C.length (C.getD k .zero) = true) := hib
  have HIO : Hid (∀ k, k < C.length → InsOk B.length C.length (C.getD k .zero)) := all_insOk h1 hn
  have HRB : Hid (∀ k, k < C.length → rowB B s slots (C.getD k .zero) (R.getD k .zero) = true) := h6
  have HRL : Hid (R.length = C.length) := h5
  have HMY : Hid (placeMayB B C s slots R = true) := hmay
  have HDM : Hid (∀ N, NumsOk C N → Dims B C s slots (preP s slots 4) N) := fun N hN => dims_of (by omega) s2 (by omega) s4 (by omega) (by omega) hs2 (by omega) hN
  have cM : ∀ wx : World, Below w.heap.size w wx → Calls Tryz.prog 14 #[.agg #[.slice (some ⟨b0, o0, none⟩) B.length c0, .slice (some ⟨b1, o1, none⟩) C.length c1], .agg #[.int .i64 (s : Int)], .agg #[.int .i64 (slots : Int), .slice (some ⟨b2, o2, none⟩) R.length c2]] wx fun e w' => e = .returned (.bool true) ∧ Below wx.heap.size wx w' := fun wx hb => by
    have := mayO (progV b0 o0 B.length c0 b1 o1 C.length c1) (.agg #[.int .i64 slots, .slice (some ⟨b2, o2, none⟩) R.length c2]) B C s slots R wx ⟨⟨_, _, _, _, rfl, fun _ _ => ⟨b0, o0, b1, o1, rfl, rfl, h.later hb⟩⟩, by omega, by omega, hn⟩ ⟨_, _, rfl, hRl, fun _ => ⟨b2, o2, rfl, hr.later hb⟩⟩
    rw [hmay] at this
    exact this
  have cW : ∀ wx : World, Below w.heap.size w wx → Calls Tryz.prog 15 #[.agg #[.slice (some ⟨b0, o0, none⟩) B.length c0, .slice (some ⟨b1, o1, none⟩) C.length c1], .agg #[.int .i64 (s : Int)], .agg #[.int .i64 (slots : Int), .slice (some ⟨b2, o2, none⟩) R.length c2]] wx fun e w' => WorldAns B C s slots R wx e w' := fun wx hb => newWorldO b0 o0 c0 b1 o1 c1 b2 o2 c2 s slots B C R wx s4 (h.later hb) (hr.later hb) (by omega) (by omega) hs2 (by omega)
  have HB3 : Hid (∀ o1 o2 o3 : Obj, Below w.heap.size w (((w.alloc o1).alloc o2).alloc o3)) := fun o1 o2 o3 => (((Below.refl _ _).alloc (Nat.le_refl _) _).alloc (by simp) _).alloc (by simp; omega) _
  have HMC : Hid (∀ wx : World, Below w.heap.size w wx → Calls Tryz.prog 14 #[.agg #[.slice (some ⟨b0, o0, none⟩) B.length c0, .slice (some ⟨b1, o1, none⟩) C.length c1], .agg #[.int .i64 (s : Int)], .agg #[.int .i64 (slots : Int), .slice (some ⟨b2, o2, none⟩) R.length c2]] wx fun e w' => e = .returned (.bool true) ∧ Below wx.heap.size wx w') := cM
  have HWC : Hid (∀ wx : World, Below w.heap.size w wx → Calls Tryz.prog 15 #[.agg #[.slice (some ⟨b0, o0, none⟩) B.length c0, .slice (some ⟨b1, o1, none⟩) C.length c1], .agg #[.int .i64 (s : Int)], .agg #[.int .i64 (slots : Int), .slice (some ⟨b2, o2, none⟩) R.length c2]] wx fun e w' => WorldAns B C s slots R wx e w') := cW
  have hc40z : (C.length : Int) ≤ 40 := by omega
  clear h hr hn hRl hmay h1 h2 h3 h4 h5 h6 hs hsz hib cM cW hs2 s1
  unfold progV targetV
  go_enter Tryz.func6, Tryz.ntmps6
  go_upto_region 3 with (go_at_call 14; refine (HMC.out _ (HB3.out _ _ _)).mono ?_; rintro e w1 ⟨rfl, hb1⟩; have HB1 : Hid (Below w.heap.size w w1) := step_below hb1 (HB3.out _ _ _); have p0 : w1.cell? ⟨w.heap.size, 0, none⟩ = some (.slice (some ⟨b0, o0, none⟩) B.length c0) := step_cell hb1 (by simp [go_sem]); have p1 : w1.cell? ⟨w.heap.size, 1, none⟩ = some (.slice (some ⟨b1, o1, none⟩) C.length c1) := step_cell hb1 (by simp [go_sem]); have p2 : w1.cell? ⟨w.heap.size + 1, 0, none⟩ = some (.int .i64 (s : Int)) := step_cell hb1 (by simp [go_sem]); have p3 : w1.cell? ⟨w.heap.size + 1 + 1, 0, none⟩ = some (.int .i64 (slots : Int)) := step_cell hb1 (by simp [go_sem]); have p4 : w1.cell? ⟨w.heap.size + 1 + 1, 1, none⟩ = some (.slice (some ⟨b2, o2, none⟩) R.length c2) := step_cell hb1 (by simp [go_sem]); clear hb1)
  go_upto_region 4 with (go_at_call 15; refine (HWC.out _ HB1.out).mono ?_; rintro e w2 ⟨g, N, rfl, hst, hno, hb2⟩; have HST : Hid (WorldAt w2 w2.heap.size g B C R (preP s slots 4) N) := WorldAt.start hst; have HD : Hid (Dims B C s slots (preP s slots 4) N) := HDM.out N hno; have HB2 : Hid (Below w.heap.size w w2) := step_below hb2 HB1.out; clear hst hno hb2)
  clear p0 p1 p2 p3 p4
  have HND : Hid ((preP s slots 4).Nodup) := up_nodup (preP_up s slots 4)
  have HT : Hid (∀ t, t ∈ tempsL B.length ↔ 0 ≤ t ∧ t < B.length) := fun t => tempsL_mem
  have hTl : (tempsL B.length).length ≤ 12 := by rw [tempsL_len]; omega
  have c := aheadW HST.out HD.out HND.out HIB.out HIO.out HRB.out HRL.out (tempsL B.length) HT.out hTl
  go_wp2_with (go_at_call 16; refine c.mono ?_; rintro e w3 ⟨ab, F, Q, rfl, hA, hFB, hb3⟩; have HA : Hid (AllAt w3 w2.heap.size ab (preP s slots 4) (tempsL B.length) F Q) := hA; have HFB : Hid (FoundB B C s slots R N F) := hFB; have HB3' : Hid (Below w2.heap.size w2 w3) := hb3; clear hA hFB hb3)
  clear c
  go_loopg [8, 9, 22] (C.length + 1) (fun gg v8 v9 v wr => ∃ (k : Nat), v = .int .i64 k ∧ k ≤ C.length ∧ gg = C.length + 1 - k ∧ TakeS B C s slots R k ∧ Below w3.heap.size w3 wr)
  case atStart => exact ⟨0, rfl, by omega, by omega, fun j hj => absurd hj (by omega), Below.refl _ _⟩
  case round =>
    obtain ⟨k, rfl, hk, hgk, hts, hbr⟩ := hrel
    have HGK : Hid (gk = C.length + 1 - k) := hgk
    have HTS : Hid (TakeS B C s slots R k) := hts
    have HBR : Hid (Below w3.heap.size w3 wr) := hbr
    have HBW : Hid (Below w.heap.size w wr) := step_below hbr (step_below HB3'.out HB2.out)
    have HAR : Hid (AllAt wr w2.heap.size ab (preP s slots 4) (tempsL B.length) F Q) := HA.out.below hbr
    clear hgk hts hbr
    by_cases hkl : k < C.length
    case neg =>
      obtain rfl : k = C.length := by omega
      have hkz : ¬ (C.length : Int) < (C.length : Int) := by omega
      go_wp2
      go_ret
      exact ⟨⟨true, rfl, ⟨fun _ => ⟨HMY.out, fun k hk hl => HTS.out k hl hk⟩, fun _ => rfl⟩⟩, HBW.out⟩
    have hkz : (k : Int) < (C.length : Int) := by omega
    have hFl := HFB.out.len
    have c0 := HAR.out.cell k (by omega)
    have hlt := HAR.out.lt
    clear hFl
    rcases hc : F.getD k none with _ | m
    · have HNR : Hid (¬ Reach C k) := fun hr => by
        obtain ⟨m, hm⟩ := (HFB.out.rch k hkl).2 hr
        rw [hc] at hm; cases hm
      have hp : pvO F Q k = .pointer none := by unfold pvO; rw [hc]
      rw [hp] at c0
      clear hp hc
      go_wp2
      have hgk := HGK.out
      go_roundg (gk - 1)
      case measure => omega
      case rel =>
        refine ⟨k + 1, by go_num, by omega, by omega, fun j hj hrj => ?_, HBR.out⟩
        by_cases e : j = k
        · subst e; exact absurd hrj HNR.out
        · exact HTS.out j (by omega) hrj
    · have HC : Hid (F.getD k none = some m) := hc
      have hp : pvO F Q k = .pointer (some ⟨(Q k).1, 0, none⟩) := by unfold pvO; rw [hc]
      rw [hp] at c0
      have c := findsW ((HST.out.below HB3'.out).below HBR.out) HD.out HND.out HIB.out HRB.out HRL.out k hkl (Q k).1 (Q k).2.1 (Q k).2.2 (tempsL B.length) HT.out hTl m (HAR.out.fm k m hc) (HFB.out.ok k m hc) HIO.out
      have HKN : Hid (∀ f, Kof N m f ↔ Known B C s slots R k f) := HFB.out.is k m hc
      clear hp hc
      go_upto_if 35 with (go_at_call 17; refine c.mono ?_; rintro e w4 ⟨⟨z, rfl, hz⟩, hb4⟩; have HZ : Hid (z = true ↔ usesK (FactOk B s slots (NumP C)) (C.getD k .zero) (R.getD k .zero) (Known B C s slots R k)) := hz.trans (usesK_same HKN.out); have HB4 : Hid (Below wr.heap.size wr w4) := hb4; clear hz hb4)
      rcases Bool.eq_false_or_eq_true z with hz | hz
      · subst hz
        go_wp2
        have hgk := HGK.out
        go_roundg (gk - 1)
        case measure => omega
        case rel =>
          refine ⟨k + 1, by go_num, by omega, by omega, fun j hj hrj => ?_, step_below HB4.out HBR.out⟩
          by_cases e : j = k
          · subst e; exact HZ.out.1 (by trivial)
          · exact HTS.out j (by omega) hrj
      · subst hz
        go_wp2
        go_ret
        refine ⟨⟨false, rfl, ⟨fun h => absurd h (by simp), fun h => ?_⟩⟩, step_below HB4.out HBW.out⟩
        have := HZ.out.2 (h.2 k ((HFB.out.rch k hkl).1 ⟨m, HC.out⟩) hkl)
        cases this

theorem takesNo (pv lv : Value) (B : List Bool) (C : List LIns) (s slots : Int) (R : List LRow) (w : World) (hp : ProgIs w pv B C) (hl : PlacedIs w lv slots R) (hmay : placeMayB B C s slots R = false) :
    Calls Tryz.prog 6 #[pv, targetV s, lv] w fun e w' => TakesAns B C s slots R e ∧ Below w.heap.size w w' := by
  have HB3 : Hid (∀ o1 o2 o3 : Obj, Below w.heap.size w (((w.alloc o1).alloc o2).alloc o3)) := fun o1 o2 o3 => (((Below.refl _ _).alloc (Nat.le_refl _) _).alloc (by simp) _).alloc (by simp; omega) _
  have HM : Hid (placeMayB B C s slots R = false) := hmay
  obtain ⟨⟨a0, c0, a1, c1, rfl, hh⟩, l0, l1, hn⟩ := hp
  obtain ⟨ao, cap, rfl, hRl, hrr⟩ := hl
  have HMC : Hid (∀ wx : World, Below w.heap.size w wx → Calls Tryz.prog 14 #[.agg #[.slice a0 B.length c0, .slice a1 C.length c1], .agg #[.int .i64 s], .agg #[.int .i64 slots, .slice ao R.length cap]] wx fun e w' => e = .returned (.bool false) ∧ Below wx.heap.size wx w') := fun wx hb => by
    have := mayO (.agg #[.slice a0 B.length c0, .slice a1 C.length c1]) (.agg #[.int .i64 slots, .slice ao R.length cap]) B C s slots R wx ⟨⟨_, _, _, _, rfl, fun x y => by
      obtain ⟨b0, o0, b1, o1, e1, e2, hH⟩ := hh x y
      exact ⟨b0, o0, b1, o1, e1, e2, hH.later hb⟩⟩, l0, l1, hn⟩ ⟨_, _, rfl, hRl, fun x => by
      obtain ⟨b2, o2, e1, hr⟩ := hrr x
      exact ⟨b2, o2, e1, hr.later hb⟩⟩
    rw [hmay] at this
    exact this
  clear hh hrr hn hmay
  unfold targetV
  go_enter Tryz.func6, Tryz.ntmps6
  go_wp2_with (go_at_call 14; refine (HMC.out _ (HB3.out _ _ _)).mono ?_; rintro e w1 ⟨rfl, hb1⟩; have HB1 : Hid (Below w.heap.size w w1) := step_below hb1 (HB3.out _ _ _); clear hb1)
  go_ret
  exact ⟨⟨false, rfl, ⟨fun h => absurd h (by simp), fun h => absurd h.1 (by rw [HM.out]; simp)⟩⟩, HB1.out⟩
theorem takesO : TakesSpec := by
  intro pv lv B C s slots R w hp hl hrk
  rcases Bool.eq_false_or_eq_true (placeMayB B C s slots R) with hmay | hmay
  case inr =>
    exact takesNo pv lv B C s slots R w hp hl hmay
  have hm2 := hmay
  unfold placeMayB at hm2
  simp only [Bool.and_eq_true, Bool.not_eq_true', decide_eq_true_eq, decide_eq_false_iff_not, List.all_eq_true, List.mem_range] at hm2
  obtain ⟨⟨⟨⟨⟨h1, h2⟩, h3⟩, h4⟩, h5⟩, h6⟩ := hm2
  have hs := target_of h2
  have hsz : sizesB B C = true := by unfold refMayB at h1; simp only [Bool.and_eq_true] at h1; exact h1.1
  obtain ⟨s1, s2, s3, s4⟩ := sizes_of hsz
  obtain ⟨⟨a0, c0, a1, c1, rfl, hh⟩, l0, l1, hn⟩ := hp
  obtain ⟨b0, o0, b1, o1, rfl, rfl, hH⟩ := hh s1 s3
  obtain ⟨ao, cap, rfl, hRl, hrr⟩ := hl
  obtain ⟨b2, o2, rfl, hr⟩ := hrr (by omega)
  obtain ⟨s', rfl⟩ := Int.eq_ofNat_of_zero_le (show 0 ≤ s by omega)
  obtain ⟨slots', rfl⟩ := Int.eq_ofNat_of_zero_le (show 0 ≤ slots by omega)
  exact takesYes b0 o0 c0 b1 o1 c1 b2 o2 cap B C s' slots' R w hH hr hn hRl hmay
end Go.Proofs.YtcmnmogmdhofcabGreat.form

/- Ins that came in as an argument; what is wrong with a run's arguments. -/
namespace Go.Proofs.YtcmnmogmdhofcabGreat.form
open Go.RowKit Go.Proofs.YtcmnmogmdhofcabGreat.num
set_option linter.unusedVariables false

def InArg (w : World) (iv : Value) (I : List Int) : Prop :=
  ∃ ai cap, iv = .slice ai I.length cap ∧ I.length ≤ cap ∧ I.length ≤ 9223372036854775807 ∧ (∀ j, j < I.length → 0 ≤ I.getD j 0 ∧ I.getD j 0 < 4294967296) ∧
    (0 < I.length → ∃ b o, ai = some ⟨b, o, none⟩ ∧ b < w.heap.size ∧ ∀ j, j < I.length → w.cell? ⟨b, o + j, none⟩ = some (.int .u32 (I.getD j 0)))

theorem InArg.out {w : World} {iv : Value} {I : List Int} (h : InArg w iv I) (h40 : I.length ≤ 40) : OutIs w iv I := by
  obtain ⟨ai, cap, e, h1, h2, h3, h4⟩ := h
  exact ⟨ai, cap, e, by omega, h4⟩

theorem wrong_zero {B : List Bool} {C : List LIns} {nI : Nat} {steps : Int} (h : wrongI B C nI steps = 0) : refMayB B C = true ∧ nI ≤ 40 ∧ 0 ≤ steps ∧ steps ≤ 3000 := by
  unfold wrongI at h
  split at h
  · omega
  split at h
  · omega
  split at h
  · omega
  · rename_i h1 h2 h3
    exact ⟨by simpa using h1, by omega, by omega, by omega⟩

end Go.Proofs.YtcmnmogmdhofcabGreat.form
