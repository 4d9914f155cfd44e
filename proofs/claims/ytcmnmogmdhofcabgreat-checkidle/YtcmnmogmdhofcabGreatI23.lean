/- What check.Takes answers. -/
import Derived.Deep.AppendLies
import Derived.BigRegion
import Derived.Deep.DeepCutAuto
import Derived.Test.YtcmnmogmdhofcabGreatI22
import Derived.Test.YtcmnmogmdhofcabGreatI10
import Derived.Test.YtcmnmogmdhofcabGreatI04
import Derived.Test.YtcmnmogmdhofcabGreatI06
import Derived.Test.YtcmnmogmdhofcabGreatI09

namespace Go.Proofs.YtcmnmogmdhofcabGreat.form
open Go.RowKit Go.Maps
set_option linter.unusedVariables false
set_option maxRecDepth 100000
attribute [local go_sem ↓] Go.wp_at_zero Go.wp_at_succ

theorem usesK_same {ok : LFact → Prop} {i : LIns} {r : LRow} {K K' : LFact → Prop} (h : ∀ f, K f ↔ K' f) : usesK ok i r K ↔ usesK ok i r K' := by
  unfold usesK
  have e : ∀ f, movesK ok r.before K f ↔ movesK ok r.before K' f := fun f => ⟨movesK_mono _ (fun f => (h f).1) f, movesK_mono _ (fun f => (h f).2) f⟩
  rw [e, e]
theorem dims_of {B : List Bool} {C : List LIns} {s slots : Nat} {N : List Int} (hb1 : 1 ≤ B.length) (hb12 : B.length ≤ 12) (hc1 : 1 ≤ C.length) (hc40 : C.length ≤ 40) (hs4 : 4 ≤ s) (hs16 : s ≤ 16) (hs2 : s % 2 = 0) (hl : slots ≤ 12) (hn : NumsOk C N) : Dims B C s slots (preP s slots 4) N :=
  ⟨hb1, hb12, hc1, hc40, hs4, hs16, hs2, hl, all_len hs16 hl, fun p => all_mem hs16 hs2, hn.one, by have := hn.le; omega, hn.inc, hn.num⟩

theorem may_ins {B : List Bool} {C : List LIns} (h : refMayB B C = true) : ∀ k, k < C.length → insB B C.length (C.getD k .zero) = true := by
  unfold refMayB at h
  simp only [Bool.and_eq_true, List.all_eq_true] at h
  exact fun k hk => h.2 _ (by simp [List.getD, hk])

def TakeS (B : List Bool) (C : List LIns) (s slots : Nat) (R : List LRow) (k : Nat) : Prop := ∀ j, j < k → Reach C j → usesK (FactOk B s slots (NumP C)) (C.getD j .zero) (R.getD j .zero) (Known B C s slots R j)

set_option maxHeartbeats 1600000 in
theorem takesYes (b0 o0 c0 b1 o1 c1 b2 o2 c2 : Nat) (B : List Bool) (C : List LIns) (s slots : Nat) (R : List LRow) (w : World) (h : Held w b0 o0 b1 o1 B C) (hr : RowsHeld w b2 o2 R) (hn : ∀ i, i < C.length → 0 ≤ (C.getD i .zero).n ∧ (C.getD i .zero).n < 4294967296) (hRl : R.length ≤ 9223372036854775807) (hmay : placeMayB B C s slots R = true) :
    Calls Tryz.prog 6 #[progV b0 o0 B.length c0 b1 o1 C.length c1, targetV s, .agg #[.int .i64 slots, .slice (some ⟨b2, o2, none⟩) R.length c2]] w fun e w' => TakesAns B C s slots R e ∧ Below w.heap.size w w' := by
  have hm2 := hmay
  unfold placeMayB at hm2
  simp only [Bool.and_eq_true, Bool.not_eq_true', decide_eq_true_eq, decide_eq_false_iff_not, List.all_eq_true, List.mem_range] at hm2
  obtain ⟨⟨⟨⟨⟨h1, h2⟩, h3⟩, h4⟩, h5⟩, h6⟩ := hm2
  have hs := target_of h2
  have hsz : sizesB B C = true := by unfold refMayB at h1; simp only [Bool.and_eq_true] at h1; exact h1.1
  obtain ⟨s1, s2, s3, s4⟩ := sizes_of hsz
  have hs2 : s % 2 = 0 := by
    unfold targetB at h2
    simp at h2
    omega
  have hib : ∀ k, k < C.length → insB B C.length (C.getD k .zero) = true := may_ins h1
  have HIB : Hid (∀ k, k < C.length → insB B C.length (C.getD k .zero) = true) := hib
  have HIO : Hid (∀ k, k < C.length → InsOk B.length C.length (C.getD k .zero)) := all_insOk h1 hn
  have HRB : Hid (∀ k, k < C.length → rowB B s slots (C.getD k .zero) (R.getD k .zero) = true) := h6
  have HRL : Hid (R.length = C.length) := h5
  have HMY : Hid (placeMayB B C s slots R = true) := hmay
  have HDM : Hid (∀ N, NumsOk C N → Dims B C s slots (preP s slots 4) N) := fun N hN => dims_of (by omega) s2 (by omega) s4 (by omega) (by omega) hs2 (by omega) hN
  have cM : ∀ wx : World, Below w.heap.size w wx → Calls Tryz.prog 14 #[.agg #[.slice (some ⟨b0, o0, none⟩) B.length c0, .slice (some ⟨b1, o1, none⟩) C.length c1], .agg #[.int .i64 (s : Int)], .agg #[.int .i64 (slots : Int), .slice (some ⟨b2, o2, none⟩) R.length c2]] wx fun e w' => e = .returned (.bool true) ∧ Below wx.heap.size wx w' := fun wx hb => by
    have := mayO (progV b0 o0 B.length c0 b1 o1 C.length c1) (.agg #[.int .i64 slots, .slice (some ⟨b2, o2, none⟩) R.length c2]) B C s slots R wx ⟨⟨_, _, _, _, rfl, fun _ _ => ⟨b0, o0, b1, o1, rfl, rfl, h.later hb⟩⟩, by omega, by omega, hn⟩ ⟨_, _, rfl, hRl, fun _ => ⟨b2, o2, rfl, hr.later hb⟩⟩
    rw [hmay] at this
    exact this
  have cW : ∀ wx : World, Below w.heap.size w wx → Calls Tryz.prog 15 #[.agg #[.slice (some ⟨b0, o0, none⟩) B.length c0, .slice (some ⟨b1, o1, none⟩) C.length c1], .agg #[.int .i64 (s : Int)], .agg #[.int .i64 (slots : Int), .slice (some ⟨b2, o2, none⟩) R.length c2]] wx fun e w' => WorldAns B C s slots R wx e w' := fun wx hb => newWorldO b0 o0 c0 b1 o1 c1 b2 o2 c2 s slots B C R wx s4 (h.later hb) (hr.later hb) (by omega) (by omega) hs2 (by omega)
  have HB3 : Hid (∀ o1 o2 o3 : Obj, Below w.heap.size w (((w.alloc o1).alloc o2).alloc o3)) := fun o1 o2 o3 => (((Below.refl _ _).alloc (Nat.le_refl _) _).alloc (by simp) _).alloc (by simp; omega) _
  have HMC : Hid (∀ wx : World, Below w.heap.size w wx → Calls Tryz.prog 14 #[.agg #[.slice (some ⟨b0, o0, none⟩) B.length c0, .slice (some ⟨b1, o1, none⟩) C.length c1], .agg #[.int .i64 (s : Int)], .agg #[.int .i64 (slots : Int), .slice (some ⟨b2, o2, none⟩) R.length c2]] wx fun e w' => e = .returned (.bool true) ∧ Below wx.heap.size wx w') := cM
  have HWC : Hid (∀ wx : World, Below w.heap.size w wx → Calls Tryz.prog 15 #[.agg #[.slice (some ⟨b0, o0, none⟩) B.length c0, .slice (some ⟨b1, o1, none⟩) C.length c1], .agg #[.int .i64 (s : Int)], .agg #[.int .i64 (slots : Int), .slice (some ⟨b2, o2, none⟩) R.length c2]] wx fun e w' => WorldAns B C s slots R wx e w') := cW
  have hc40z : (C.length : Int) ≤ 40 := by omega
  clear h hr hn hRl hmay h1 h2 h3 h4 h5 h6 hs hsz hib cM cW hs2 s1
  unfold progV targetV
  go_enter Tryz.func6, Tryz.ntmps6
  go_upto_region 3 with (go_at_call 14; refine (HMC.out _ (HB3.out _ _ _)).mono ?_; rintro e w1 ⟨rfl, hb1⟩; have HB1 : Hid (Below w.heap.size w w1) := step_below hb1 (HB3.out _ _ _); have p0 : w1.cell? ⟨w.heap.size, 0, none⟩ = some (.slice (some ⟨b0, o0, none⟩) B.length c0) := step_cell hb1 (by simp [go_sem]); have p1 : w1.cell? ⟨w.heap.size, 1, none⟩ = some (.slice (some ⟨b1, o1, none⟩) C.length c1) := step_cell hb1 (by simp [go_sem]); have p2 : w1.cell? ⟨w.heap.size + 1, 0, none⟩ = some (.int .i64 (s : Int)) := step_cell hb1 (by simp [go_sem]); have p3 : w1.cell? ⟨w.heap.size + 1 + 1, 0, none⟩ = some (.int .i64 (slots : Int)) := step_cell hb1 (by simp [go_sem]); have p4 : w1.cell? ⟨w.heap.size + 1 + 1, 1, none⟩ = some (.slice (some ⟨b2, o2, none⟩) R.length c2) := step_cell hb1 (by simp [go_sem]); clear hb1)
  go_upto_region 4 with (go_at_call 15; refine (HWC.out _ HB1.out).mono ?_; rintro e w2 ⟨g, N, rfl, hst, hno, hb2⟩; have HST : Hid (WorldAt w2 w2.heap.size g B C R (preP s slots 4) N) := WorldAt.start hst; have HD : Hid (Dims B C s slots (preP s slots 4) N) := HDM.out N hno; have HB2 : Hid (Below w.heap.size w w2) := step_below hb2 HB1.out; clear hst hno hb2)
  clear p0 p1 p2 p3 p4
  have HND : Hid ((preP s slots 4).Nodup) := up_nodup (preP_up s slots 4)
  have HT : Hid (∀ t, t ∈ tempsL B.length ↔ 0 ≤ t ∧ t < B.length) := fun t => tempsL_mem
  have hTl : (tempsL B.length).length ≤ 12 := by rw [tempsL_len]; omega
  have c := aheadW HST.out HD.out HND.out HIB.out HIO.out HRB.out HRL.out (tempsL B.length) HT.out hTl
  go_wp2_with (go_at_call 16; refine c.mono ?_; rintro e w3 ⟨ab, F, Q, rfl, hA, hFB, hb3⟩; have HA : Hid (AllAt w3 w2.heap.size ab (preP s slots 4) (tempsL B.length) F Q) := hA; have HFB : Hid (FoundB B C s slots R N F) := hFB; have HB3' : Hid (Below w2.heap.size w2 w3) := hb3; clear hA hFB hb3)
  clear c
  go_loopg [8, 9, 22] (C.length + 1) (fun gg v8 v9 v wr => ∃ (k : Nat), v = .int .i64 k ∧ k ≤ C.length ∧ gg = C.length + 1 - k ∧ TakeS B C s slots R k ∧ Below w3.heap.size w3 wr)
  case atStart => exact ⟨0, rfl, by omega, by omega, fun j hj => absurd hj (by omega), Below.refl _ _⟩
  case round =>
    obtain ⟨k, rfl, hk, hgk, hts, hbr⟩ := hrel
    have HGK : Hid (gk = C.length + 1 - k) := hgk
    have HTS : Hid (TakeS B C s slots R k) := hts
    have HBR : Hid (Below w3.heap.size w3 wr) := hbr
    have HBW : Hid (Below w.heap.size w wr) := step_below hbr (step_below HB3'.out HB2.out)
    have HAR : Hid (AllAt wr w2.heap.size ab (preP s slots 4) (tempsL B.length) F Q) := HA.out.below hbr
    clear hgk hts hbr
    by_cases hkl : k < C.length
    case neg =>
      obtain rfl : k = C.length := by omega
      have hkz : ¬ (C.length : Int) < (C.length : Int) := by omega
      go_wp2
      go_ret
      exact ⟨⟨true, rfl, ⟨fun _ => ⟨HMY.out, fun k hk hl => HTS.out k hl hk⟩, fun _ => rfl⟩⟩, HBW.out⟩
    have hkz : (k : Int) < (C.length : Int) := by omega
    have hFl := HFB.out.len
    have c0 := HAR.out.cell k (by omega)
    have hlt := HAR.out.lt
    clear hFl
    rcases hc : F.getD k none with _ | m
    · have HNR : Hid (¬ Reach C k) := fun hr => by
        obtain ⟨m, hm⟩ := (HFB.out.rch k hkl).2 hr
        rw [hc] at hm; cases hm
      have hp : pvO F Q k = .pointer none := by unfold pvO; rw [hc]
      rw [hp] at c0
      clear hp hc
      go_wp2
      have hgk := HGK.out
      go_roundg (gk - 1)
      case measure => omega
      case rel =>
        refine ⟨k + 1, by go_num, by omega, by omega, fun j hj hrj => ?_, HBR.out⟩
        by_cases e : j = k
        · subst e; exact absurd hrj HNR.out
        · exact HTS.out j (by omega) hrj
    · have HC : Hid (F.getD k none = some m) := hc
      have hp : pvO F Q k = .pointer (some ⟨(Q k).1, 0, none⟩) := by unfold pvO; rw [hc]
      rw [hp] at c0
      have c := findsW ((HST.out.below HB3'.out).below HBR.out) HD.out HND.out HIB.out HRB.out HRL.out k hkl (Q k).1 (Q k).2.1 (Q k).2.2 (tempsL B.length) HT.out hTl m (HAR.out.fm k m hc) (HFB.out.ok k m hc) HIO.out
      have HKN : Hid (∀ f, Kof N m f ↔ Known B C s slots R k f) := HFB.out.is k m hc
      clear hp hc
      go_upto_if 35 with (go_at_call 17; refine c.mono ?_; rintro e w4 ⟨⟨z, rfl, hz⟩, hb4⟩; have HZ : Hid (z = true ↔ usesK (FactOk B s slots (NumP C)) (C.getD k .zero) (R.getD k .zero) (Known B C s slots R k)) := hz.trans (usesK_same HKN.out); have HB4 : Hid (Below wr.heap.size wr w4) := hb4; clear hz hb4)
      rcases Bool.eq_false_or_eq_true z with hz | hz
      · subst hz
        go_wp2
        have hgk := HGK.out
        go_roundg (gk - 1)
        case measure => omega
        case rel =>
          refine ⟨k + 1, by go_num, by omega, by omega, fun j hj hrj => ?_, step_below HB4.out HBR.out⟩
          by_cases e : j = k
          · subst e; exact HZ.out.1 (by trivial)
          · exact HTS.out j (by omega) hrj
      · subst hz
        go_wp2
        go_ret
        refine ⟨⟨false, rfl, ⟨fun h => absurd h (by simp), fun h => ?_⟩⟩, step_below HB4.out HBW.out⟩
        have := HZ.out.2 (h.2 k ((HFB.out.rch k hkl).1 ⟨m, HC.out⟩) hkl)
        cases this

theorem takesNo (pv lv : Value) (B : List Bool) (C : List LIns) (s slots : Int) (R : List LRow) (w : World) (hp : ProgIs w pv B C) (hl : PlacedIs w lv slots R) (hmay : placeMayB B C s slots R = false) :
    Calls Tryz.prog 6 #[pv, targetV s, lv] w fun e w' => TakesAns B C s slots R e ∧ Below w.heap.size w w' := by
  have HB3 : Hid (∀ o1 o2 o3 : Obj, Below w.heap.size w (((w.alloc o1).alloc o2).alloc o3)) := fun o1 o2 o3 => (((Below.refl _ _).alloc (Nat.le_refl _) _).alloc (by simp) _).alloc (by simp; omega) _
  have HM : Hid (placeMayB B C s slots R = false) := hmay
  obtain ⟨⟨a0, c0, a1, c1, rfl, hh⟩, l0, l1, hn⟩ := hp
  obtain ⟨ao, cap, rfl, hRl, hrr⟩ := hl
  have HMC : Hid (∀ wx : World, Below w.heap.size w wx → Calls Tryz.prog 14 #[.agg #[.slice a0 B.length c0, .slice a1 C.length c1], .agg #[.int .i64 s], .agg #[.int .i64 slots, .slice ao R.length cap]] wx fun e w' => e = .returned (.bool false) ∧ Below wx.heap.size wx w') := fun wx hb => by
    have := mayO (.agg #[.slice a0 B.length c0, .slice a1 C.length c1]) (.agg #[.int .i64 slots, .slice ao R.length cap]) B C s slots R wx ⟨⟨_, _, _, _, rfl, fun x y => by
      obtain ⟨b0, o0, b1, o1, e1, e2, hH⟩ := hh x y
      exact ⟨b0, o0, b1, o1, e1, e2, hH.later hb⟩⟩, l0, l1, hn⟩ ⟨_, _, rfl, hRl, fun x => by
      obtain ⟨b2, o2, e1, hr⟩ := hrr x
      exact ⟨b2, o2, e1, hr.later hb⟩⟩
    rw [hmay] at this
    exact this
  clear hh hrr hn hmay
  unfold targetV
  go_enter Tryz.func6, Tryz.ntmps6
  go_wp2_with (go_at_call 14; refine (HMC.out _ (HB3.out _ _ _)).mono ?_; rintro e w1 ⟨rfl, hb1⟩; have HB1 : Hid (Below w.heap.size w w1) := step_below hb1 (HB3.out _ _ _); clear hb1)
  go_ret
  exact ⟨⟨false, rfl, ⟨fun h => absurd h (by simp), fun h => absurd h.1 (by rw [HM.out]; simp)⟩⟩, HB1.out⟩
theorem takesO : TakesSpec := by
  intro pv lv B C s slots R w hp hl hrk
  rcases Bool.eq_false_or_eq_true (placeMayB B C s slots R) with hmay | hmay
  case inr =>
    exact takesNo pv lv B C s slots R w hp hl hmay
  have hm2 := hmay
  unfold placeMayB at hm2
  simp only [Bool.and_eq_true, Bool.not_eq_true', decide_eq_true_eq, decide_eq_false_iff_not, List.all_eq_true, List.mem_range] at hm2
  obtain ⟨⟨⟨⟨⟨h1, h2⟩, h3⟩, h4⟩, h5⟩, h6⟩ := hm2
  have hs := target_of h2
  have hsz : sizesB B C = true := by unfold refMayB at h1; simp only [Bool.and_eq_true] at h1; exact h1.1
  obtain ⟨s1, s2, s3, s4⟩ := sizes_of hsz
  obtain ⟨⟨a0, c0, a1, c1, rfl, hh⟩, l0, l1, hn⟩ := hp
  obtain ⟨b0, o0, b1, o1, rfl, rfl, hH⟩ := hh s1 s3
  obtain ⟨ao, cap, rfl, hRl, hrr⟩ := hl
  obtain ⟨b2, o2, rfl, hr⟩ := hrr (by omega)
  obtain ⟨s', rfl⟩ := Int.eq_ofNat_of_zero_le (show 0 ≤ s by omega)
  obtain ⟨slots', rfl⟩ := Int.eq_ofNat_of_zero_le (show 0 ≤ slots by omega)
  exact takesYes b0 o0 c0 b1 o1 c1 b2 o2 cap B C s' slots' R w hH hr hn hRl hmay
end Go.Proofs.YtcmnmogmdhofcabGreat.form

/- Places as bytes, on plain numbers: what is written, what is read, and that each is the other's way back. -/
namespace Go.Proofs.YtcmnmogmdhofcabGreat.form
open Go.RowKit
set_option linter.unusedVariables false

def bitI (b : Bool) : Int := if b then 1 else 0
def putMove (m : LMove) : List Int := [m.dst.kind, m.dst.n, m.src.kind, m.src.n, bitI m.cst, m.n / 16777216, m.n / 65536 % 256, m.n / 256 % 256, m.n % 256]
def putMoves (l : List LMove) : List Int := (l.length : Int) :: l.flatMap putMove
def putRow (r : LRow) : List Int := [r.dest.kind, r.dest.n, r.a.kind, r.a.n, r.b.kind, r.b.n] ++ (putMoves r.before ++ putMoves r.after)
def putRows (R : List LRow) : List Int := R.flatMap putRow
def putB (slots : Int) (R : List LRow) : List Int := slots :: (R.length : Int) :: putRows R
end Go.Proofs.YtcmnmogmdhofcabGreat.form

/- What the document's functions that read moves out of bytes answer: at, read. -/
namespace Go.Proofs.YtcmnmogmdhofcabGreat.form
open Go.RowKit
set_option linter.unusedVariables false
attribute [local go_sem ↓] Go.wp_at_zero Go.wp_at_succ

def BytesIs (w : World) (v : Value) (bs : List Int) : Prop :=
  ∃ ao cap, v = .slice ao bs.length cap ∧ bs.length ≤ cap ∧ bs.length ≤ 9223372036854775807 ∧ (∀ j, j < bs.length → 0 ≤ bs.getD j 0 ∧ bs.getD j 0 ≤ 255) ∧ (0 < bs.length → ∃ b o, ao = some ⟨b, o, none⟩ ∧ b < w.heap.size ∧ ∀ j, j < bs.length → w.cell? ⟨b, o + j, none⟩ = some (.int .u8 (bs.getD j 0)))
theorem BytesIs.later {w w' : World} {v : Value} {bs : List Int} (h : BytesIs w v bs) (hb : Below w.heap.size w w') : BytesIs w' v bs := by
  obtain ⟨ao, cap, e, h0, h1, h3, h2⟩ := h
  refine ⟨ao, cap, e, h0, h1, h3, fun hx => ?_⟩
  obtain ⟨b, o, e1, e2, e3⟩ := h2 hx
  exact ⟨b, o, e1, Nat.lt_of_lt_of_le e2 hb.size, fun j hj => step_cell hb (e3 j hj)⟩

def MovesN (ob : Option Nat) (w : World) (v : Value) (l : List LMove) : Prop :=
  ∃ ao cap, v = .slice ao l.length cap ∧ l.length ≤ cap ∧ l.length ≤ 9223372036854775807 ∧ (0 < l.length → ∃ b, ao = some ⟨b, 0, none⟩ ∧ b < w.heap.size ∧ some b ≠ ob ∧ ∀ k, k < l.length → w.cell? ⟨b, k * 6, none⟩ = some (.int .i64 (l.getD k .zero).dst.kind) ∧ w.cell? ⟨b, k * 6 + 1, none⟩ = some (.int .i64 (l.getD k .zero).dst.n) ∧ w.cell? ⟨b, k * 6 + 2, none⟩ = some (.int .i64 (l.getD k .zero).src.kind) ∧ w.cell? ⟨b, k * 6 + 3, none⟩ = some (.int .i64 (l.getD k .zero).src.n) ∧ w.cell? ⟨b, k * 6 + 4, none⟩ = some (.bool (l.getD k .zero).cst) ∧ w.cell? ⟨b, k * 6 + 5, none⟩ = some (.int .u32 (l.getD k .zero).n))
theorem MovesN.is {ob : Option Nat} {w : World} {v : Value} {l : List LMove} (h : MovesN ob w v l) : MovesIs w v l := by
  obtain ⟨ao, cap, e, h0, h1, h2⟩ := h
  refine ⟨ao, cap, e, h1, fun hx => ?_⟩
  obtain ⟨b, e1, e2, -, e3⟩ := h2 hx
  exact ⟨b, 0, e1, e2, fun k hk => by simpa using e3 k hk⟩
theorem MovesN.later {ob : Option Nat} {w w' : World} {v : Value} {l : List LMove} (h : MovesN ob w v l) (hb : Below w.heap.size w w') : MovesN ob w' v l := by
  obtain ⟨ao, cap, e, h0, h1, h2⟩ := h
  refine ⟨ao, cap, e, h0, h1, fun hx => ?_⟩
  obtain ⟨b, e1, e2, e3, e4⟩ := h2 hx
  refine ⟨b, e1, Nat.lt_of_lt_of_le e2 hb.size, e3, fun k hk => ?_⟩
  obtain ⟨c0, c1, c2, c3, c4, c5⟩ := e4 k hk
  exact ⟨step_cell hb c0, step_cell hb c1, step_cell hb c2, step_cell hb c3, step_cell hb c4, step_cell hb c5⟩
theorem MovesN.grown {ob : Option Nat} {w w' : World} {v : Value} {l : List LMove} (h : MovesN ob w v l) (hg : w.grownBy w' ob) {g : Nat} (hat : ob = some g ∨ g = w.heap.size) : MovesN (some g) w' v l := by
  obtain ⟨ao, cap, e, h0, h1, h2⟩ := h
  refine ⟨ao, cap, e, h0, h1, fun hx => ?_⟩
  obtain ⟨b, e1, e2, e3, e4⟩ := h2 hx
  refine ⟨b, e1, Nat.lt_of_lt_of_le e2 hg.size, ?_, fun k hk => ?_⟩
  · rcases hat with hat | hat
    · rw [← hat]; exact e3
    · simp only [ne_eq, Option.some.injEq]; omega
  · obtain ⟨c0, c1, c2, c3, c4, c5⟩ := e4 k hk
    exact ⟨hg.cell c0 e3, hg.cell c1 e3, hg.cell c2 e3, hg.cell c3 e3, hg.cell c4 e3, hg.cell c5 e3⟩

def mvC (m : LMove) : List Value := [.int .i64 m.dst.kind, .int .i64 m.dst.n, .int .i64 m.src.kind, .int .i64 m.src.n, .bool m.cst, .int .u32 m.n]
theorem flat6 {l : List LMove} {k i : Nat} (hk : k < l.length) (hi : i < 6) : (l.flatMap mvC)[k * 6 + i]? = (mvC (l.getD k .zero))[i]? := by
  induction l generalizing k with
  | nil => simp at hk
  | cons m l ih =>
    have hl6 : (mvC m).length = 6 := rfl
    rw [List.flatMap_cons]
    cases k with
    | zero => rw [List.getElem?_append_left (by omega)]; simp
    | succ k =>
      rw [List.getElem?_append_right (by omega)]
      simp only [List.length_cons] at hk
      have := ih (k := k) (by omega)
      rw [show (k + 1) * 6 + i - (mvC m).length = k * 6 + i by omega]
      simpa using this
structure MW (w : World) (base : Nat) (l : List LMove) (v : Value) (wr : World) : Prop where
  bel : Below w.heap.size w wr
  lo : w.heap.size ≤ base
  own : wr.ownsRow base 52 6 v l.length (l.flatMap mvC)
section
variable {w wr w1 : World} {base : Nat} {l : List LMove} {v : Value}
theorem MW.below (h : MW w base l v wr) (hb : Below wr.heap.size wr w1) : MW w base l v w1 :=
  ⟨step_below hb h.bel, h.lo, World.ownsRow.kept h.own ⟨hb.os, hb.tape, hb.output, hb.size, fun j hj _ => hb.block j hj⟩ (row := none) (by cases v.ownBlock <;> simp)⟩
theorem MW.push (h : MW w base l v wr) {m : LMove} {g cap : Nat} (hown : w1.ownsRow base 52 6 (.slice (some ⟨g, 0, none⟩) (l.length + 1) cap) (l.length + 1) (l.flatMap mvC ++ mvC m)) (hgrow : wr.grownBy w1 v.ownBlock) :
    MW w base (l ++ [m]) (.slice (some ⟨g, 0, none⟩) (l.length + 1) cap) w1 :=
  ⟨h.bel.grown hgrow h.bel.size (fun j hj => by have := (World.ownsRow.lt h.own _ hj).1; have := h.lo; omega), h.lo, by simpa using hown⟩
theorem own_news (ho : wr.ownsRow base 52 6 v l.length (l.flatMap mvC)) (hl : l.length ≤ 9223372036854775807) {ob : Option Nat} (hob : ∀ b, base ≤ b → some b ≠ ob) : MovesN ob wr v l := by
  rcases ho.2 with ⟨e, e2⟩ | ⟨g, cap, cur, e, hg, hc, hn, hm, hs, ht⟩
  · exact ⟨none, 0, by rw [e, e2], by omega, hl, fun hx => absurd hx (by omega)⟩
  · refine ⟨_, cap, e, hn, hl, fun hx => ⟨g, rfl, (World.ownsRow.lt ho g (by rw [e]; rfl)).2, hob g hg, fun k hk => ?_⟩⟩
    rw [e] at ho
    have hcell : ∀ i, i < 6 → wr.cell? ⟨g, k * 6 + i, none⟩ = (mvC (l.getD k .zero))[i]? := fun i hi => by
      rw [World.ownsRow.cellAt ho (k * 6 + i) (by omega), flat6 hk hi]
    exact ⟨hcell 0 (by omega), hcell 1 (by omega), hcell 2 (by omega), hcell 3 (by omega), hcell 4 (by omega), hcell 5 (by omega)⟩
end

end Go.Proofs.YtcmnmogmdhofcabGreat.form

/- Rows of places that a call makes, with their moves, and what becomes of them. -/
namespace Go.Proofs.YtcmnmogmdhofcabGreat.form
open Go.RowKit
set_option linter.unusedVariables false

theorem MovesN.setCell {ob : Option Nat} {w : World} {v : Value} {l : List LMove} (h : MovesN ob w v l) {a : Addr} (hne : v.ownBlock ≠ some a.block) (x : Value) : MovesN ob (w.setCell a x) v l := by
  obtain ⟨ao, cap, e, h0, h1, h2⟩ := h
  refine ⟨ao, cap, e, h0, h1, fun hx => ?_⟩
  obtain ⟨b, e1, e2, e3, e4⟩ := h2 hx
  subst e1
  rw [e] at hne
  have hb : b ≠ a.block := by simpa [Value.ownBlock] using hne
  refine ⟨b, rfl, by simpa using e2, e3, fun k hk => ?_⟩
  obtain ⟨c0, c1, c2, c3, c4, c5⟩ := e4 k hk
  exact ⟨cell_other c0 hb, cell_other c1 hb, cell_other c2 hb, cell_other c3 hb, cell_other c4 hb, cell_other c5 hb⟩
theorem MovesN.to {ob ob' : Option Nat} {w : World} {v : Value} {l : List LMove} (h : MovesN ob w v l) (hne : ∀ b, v.ownBlock = some b → some b ≠ ob') : MovesN ob' w v l := by
  obtain ⟨ao, cap, e, h0, h1, h2⟩ := h
  refine ⟨ao, cap, e, h0, h1, fun hx => ?_⟩
  obtain ⟨b, e1, e2, e3, e4⟩ := h2 hx
  exact ⟨b, e1, e2, hne b (by rw [e, e1]; rfl), e4⟩

def rowC (x : LRow × Value × Value) : List Value := [.int .i64 x.1.dest.kind, .int .i64 x.1.dest.n, .int .i64 x.1.a.kind, .int .i64 x.1.a.n, .int .i64 x.1.b.kind, .int .i64 x.1.b.n, x.2.1, x.2.2]
def zeroX : LRow × Value × Value := (.zero, .slice none 0 0, .slice none 0 0)
theorem flat8 {L : List (LRow × Value × Value)} {k i : Nat} (hk : k < L.length) (hi : i < 8) : (L.flatMap rowC)[k * 8 + i]? = (rowC (L.getD k zeroX))[i]? := by
  induction L generalizing k with
  | nil => simp at hk
  | cons m L ih =>
    have hl8 : (rowC m).length = 8 := rfl
    rw [List.flatMap_cons]
    cases k with
    | zero => rw [List.getElem?_append_left (by omega)]; simp
    | succ k =>
      rw [List.getElem?_append_right (by omega)]
      simp only [List.length_cons] at hk
      have := ih (k := k) (by omega)
      rw [show (k + 1) * 8 + i - (rowC m).length = k * 8 + i by omega]
      simpa using this

def MvOkC (base : Nat) (ob : Option Nat) (wr : World) (v : Value) (l : List LMove) : Prop := MovesN ob wr v l ∧ ∀ b, v.ownBlock = some b → base ≤ b
theorem own_mv {wr : World} {base lo : Nat} {l : List LMove} {v : Value} (ho : wr.ownsRow lo 52 6 v l.length (l.flatMap mvC)) (hl : l.length ≤ 9223372036854775807) (hlo : base ≤ lo) {ob : Option Nat} (hob : ∀ b, lo ≤ b → some b ≠ ob) : MvOkC base ob wr v l :=
  ⟨own_news ho hl hob, fun b hb => Nat.le_trans hlo (World.ownsRow.lt ho b hb).1⟩

structure RW (base : Nat) (L : List (LRow × Value × Value)) (v : Value) (wr : World) : Prop where
  own : wr.ownsRow base 40 8 v L.length (L.flatMap rowC)
  mv : ∀ x, x ∈ L → MvOkC base v.ownBlock wr x.2.1 x.1.before ∧ MvOkC base v.ownBlock wr x.2.2 x.1.after
section
variable {wr w1 : World} {base : Nat} {L : List (LRow × Value × Value)} {v : Value}
theorem RW.below (h : RW base L v wr) (hb : Below wr.heap.size wr w1) : RW base L v w1 :=
  ⟨World.ownsRow.kept h.own ⟨hb.os, hb.tape, hb.output, hb.size, fun j hj _ => hb.block j hj⟩ (row := none) (by cases v.ownBlock <;> simp), fun x hx => ⟨⟨(h.mv x hx).1.1.later hb, (h.mv x hx).1.2⟩, ⟨(h.mv x hx).2.1.later hb, (h.mv x hx).2.2⟩⟩⟩
theorem RW.setCell (h : RW base L v wr) {a : Addr} (ha : a.block < base) (u : Value) : RW base L v (wr.setCell a u) := by
  refine ⟨World.ownsRow.kept h.own (row := some a.block) ⟨rfl, rfl, rfl, by simp, fun k hk hne => heap_setCell_other wr a k u (fun e => hne (by rw [e]))⟩ ?_, fun x hx => ⟨⟨(h.mv x hx).1.1.setCell (fun e => ?_) u, (h.mv x hx).1.2⟩, ⟨(h.mv x hx).2.1.setCell (fun e => ?_) u, (h.mv x hx).2.2⟩⟩⟩
  · cases hv : v.ownBlock with
    | none => exact Or.inl rfl
    | some k => exact Or.inr (fun e => by have := (World.ownsRow.lt h.own k hv).1; simp at e; omega)
  · have := (h.mv x hx).1.2 _ e; omega
  · have := (h.mv x hx).2.2 _ e; omega
theorem RW.push (h : RW base L v wr) {x : LRow × Value × Value} (hx : MvOkC base v.ownBlock wr x.2.1 x.1.before ∧ MvOkC base v.ownBlock wr x.2.2 x.1.after) {g cap : Nat} (hown : w1.ownsRow base 40 8 (.slice (some ⟨g, 0, none⟩) (L.length + 1) cap) (L.length + 1) (L.flatMap rowC ++ rowC x)) (hgrow : wr.grownBy w1 v.ownBlock) (hat : v.ownBlock = some g ∨ g = wr.heap.size) :
    RW base (L ++ [x]) (.slice (some ⟨g, 0, none⟩) (L.length + 1) cap) w1 := by
  refine ⟨by simpa using hown, fun y hy => ?_⟩
  have hy2 : MvOkC base v.ownBlock wr y.2.1 y.1.before ∧ MvOkC base v.ownBlock wr y.2.2 y.1.after := by
    rw [List.mem_append, List.mem_singleton] at hy
    rcases hy with hy | rfl
    · exact h.mv y hy
    · exact hx
  exact ⟨⟨hy2.1.1.grown hgrow hat, hy2.1.2⟩, ⟨hy2.2.1.grown hgrow hat, hy2.2.2⟩⟩
theorem RW.form (h : RW base L v wr) : ∃ ao cap, v = .slice ao L.length cap := by
  rcases h.own.2 with ⟨e, e2⟩ | ⟨g, cap, cur, e, -⟩
  · exact ⟨none, 0, by rw [e, e2]⟩
  · exact ⟨_, _, e⟩
theorem RW.placed (h : RW base L v wr) (hl : L.length ≤ 9223372036854775807) (slots : Int) : PlacedIs wr (.agg #[.int .i64 slots, v]) slots (L.map (·.1)) := by
  have hL : (L.map (·.1)).length = L.length := by simp
  rcases h.own.2 with ⟨e, e2⟩ | ⟨g, cap, cur, e, hg, hc, hn, hm, hs, ht⟩
  · exact ⟨none, 0, by rw [e, hL, e2], by omega, fun hx => absurd hx (by omega)⟩
  · have ho := h.own
    rw [e] at ho
    refine ⟨_, cap, by rw [e, hL], by omega, fun hx => ⟨g, 0, rfl, ?_, fun r hr => ?_⟩⟩
    · exact (World.ownsRow.lt h.own g (by rw [e]; rfl)).2
    · rw [hL] at hr
      have hcell : ∀ i, i < 8 → wr.cell? ⟨g, r * 8 + i, none⟩ = (rowC (L.getD r zeroX))[i]? := fun i hi => by
        rw [World.ownsRow.cellAt ho (r * 8 + i) (by omega), flat8 hr hi]
      have hrow : (L.map (·.1)).getD r .zero = (L.getD r zeroX).1 := by simp [List.getD, hr]
      have hmem : L.getD r zeroX ∈ L := by simp [List.getD, hr]
      rw [hrow]
      simp only [Nat.zero_add]
      exact ⟨hcell 0 (by omega), hcell 1 (by omega), hcell 2 (by omega), hcell 3 (by omega), hcell 4 (by omega), hcell 5 (by omega), (L.getD r zeroX).2.1, (L.getD r zeroX).2.2, hcell 6 (by omega), hcell 7 (by omega), (h.mv _ hmem).1.1.is, (h.mv _ hmem).2.1.is⟩
end

end Go.Proofs.YtcmnmogmdhofcabGreat.form

/- What may not be in one place, on plain numbers: near ones; rows of truths that tell them are only one. -/
namespace Go.Proofs.YtcmnmogmdhofcabGreat.form
open Go.RowKit
set_option linter.unusedVariables false

def NearAt (C : List LIns) (k : Nat) (a b : Int) : Prop :=
  givesT (C.getD k .zero) a = true ∧ ¬ ((C.getD k .zero).op = 2 ∧ (C.getD k .zero).a = b) ∧ ∃ x, x ∈ nextsN (C.getD k .zero) k ∧ Need C b x

def Near (C : List LIns) (a b : Int) : Prop :=
  ¬ a = b ∧ ((Need C a 0 ∧ Need C b 0) ∨ ∃ k, k < C.length ∧ (NearAt C k a b ∨ NearAt C k b a))

theorem Near.symm {C : List LIns} {a b : Int} (h : Near C a b) : Near C b a := by
  obtain ⟨hne, h⟩ := h
  refine ⟨fun e => hne e.symm, ?_⟩
  rcases h with ⟨h1, h2⟩ | ⟨k, hk, h⟩
  · exact Or.inl ⟨h2, h1⟩
  · exact Or.inr ⟨k, hk, h.symm⟩

structure TruthMat (nR nB : Nat) (P : Nat → Nat → Prop) (R : List (List Bool)) : Prop where
  len : R.length = nR
  row : ∀ k, k < nR → (R.getD k []).length = nB
  tru : ∀ k, k < nR → ∀ t, t < nB → ((R.getD k []).getD t false = true ↔ P k t)

theorem TruthMat.only {nR nB : Nat} {P : Nat → Nat → Prop} {R Q : List (List Bool)} (h : TruthMat nR nB P R) (g : TruthMat nR nB P Q) : R = Q := by
  apply List.ext_getElem (by rw [h.len, g.len])
  intro k hk1 hk2
  have hk : k < nR := by rw [← h.len]; exact hk1
  have r1 := h.row k hk
  have q1 := g.row k hk
  have e1 : R.getD k [] = R[k] := by simp [List.getD, hk1]
  have e2 : Q.getD k [] = Q[k] := by simp [List.getD, hk2]
  have t1 := h.tru k hk
  have t2 := g.tru k hk
  rw [e1] at r1 t1
  rw [e2] at q1 t2
  apply List.ext_getElem (by rw [r1, q1])
  intro j hj1 hj2
  have a := t1 j (by omega)
  have b := t2 j (by omega)
  rw [show R[k].getD j false = R[k][j] by simp [List.getD, hj1]] at a
  rw [show Q[k].getD j false = Q[k][j] by simp [List.getD, hj2]] at b
  rw [Bool.eq_iff_iff, a, b]

end Go.Proofs.YtcmnmogmdhofcabGreat.form
