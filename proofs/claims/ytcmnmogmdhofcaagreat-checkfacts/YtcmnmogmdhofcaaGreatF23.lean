/- What check.Takes must answer. -/
import Derived.Test.YtcmnmogmdhofcaaGreatF20
import Derived.Test.YtcmnmogmdhofcaaGreatF22
import Derived.Test.YtcmnmogmdhofcaaGreatF19
import Derived.Test.YtcmnmogmdhofcaaGreatF09

namespace Go.Proofs.YtcmnmogmdhofcaaGreat.form
open Go.RowKit
set_option linter.unusedVariables false
end Go.Proofs.YtcmnmogmdhofcaaGreat.form

/- What check.Takes answers. -/
namespace Go.Proofs.YtcmnmogmdhofcaaGreat.form
open Go.RowKit Go.Maps
set_option linter.unusedVariables false
set_option maxRecDepth 100000
attribute [local go_sem ↓] Go.wp_at_zero Go.wp_at_succ

theorem dims_of {B : List Bool} {C : List LIns} {s slots : Nat} {N : List Int} (hb1 : 1 ≤ B.length) (hb12 : B.length ≤ 12) (hc1 : 1 ≤ C.length) (hc40 : C.length ≤ 40) (hs4 : 4 ≤ s) (hs16 : s ≤ 16) (hs2 : s % 2 = 0) (hl : slots ≤ 12) (hn : NumsOk C N) : Dims B C s slots (preP s slots 4) N :=
  ⟨hb1, hb12, hc1, hc40, hs4, hs16, hs2, hl, all_len hs16 hl, fun p => all_mem hs16 hs2, hn.one, by have := hn.le; omega, hn.inc, hn.num⟩

theorem may_ins {B : List Bool} {C : List LIns} (h : refMayB B C = true) : ∀ k, k < C.length → insB B C.length (C.getD k .zero) = true := by
  unfold refMayB at h
  simp only [Bool.and_eq_true, List.all_eq_true] at h
  exact fun k hk => h.2 _ (by simp [List.getD, hk])

end Go.Proofs.YtcmnmogmdhofcaaGreat.form

/- What check.Facts answers. -/
namespace Go.Proofs.YtcmnmogmdhofcaaGreat.form
open Go.RowKit Go.Maps
set_option linter.unusedVariables false
set_option maxRecDepth 100000
attribute [local go_sem ↓] Go.wp_at_zero Go.wp_at_succ

def FRowAt (w : World) (tb : Nat) (v : Value) (l : List LFact) : Prop := ∃ ao cap, v = .slice ao l.length cap ∧ l.length ≤ 1000000 ∧ (0 < l.length → ∃ b, ao = some ⟨b, 0, none⟩ ∧ b ≠ tb ∧ b < w.heap.size ∧ FCells w b l)
theorem FRowAt.but {w w' : World} {tb : Nat} {v : Value} {l : List LFact} (h : FRowAt w tb v l) (hb : But tb tb w w') : FRowAt w' tb v l := by
  obtain ⟨ao, cap, e, h1, h2⟩ := h
  refine ⟨ao, cap, e, h1, fun h0 => ?_⟩
  obtain ⟨b, e1, hn, hlt, hc⟩ := h2 h0
  refine ⟨b, e1, hn, Nat.lt_of_lt_of_le hlt hb.size, fun k hk => ?_⟩
  obtain ⟨g0, g1, g2, g3, g4⟩ := hc k hk
  exact ⟨hb.cellOf g0 hn hn, hb.cellOf g1 hn hn, hb.cellOf g2 hn hn, hb.cellOf g3 hn hn, hb.cellOf g4 hn hn⟩
theorem FRowAt.is {w : World} {tb : Nat} {v : Value} {l : List LFact} (h : FRowAt w tb v l) : FRowIs w v l := by
  obtain ⟨ao, cap, e, h1, h2⟩ := h
  refine ⟨ao, cap, e, h1, fun h0 => ?_⟩
  obtain ⟨b, e1, hn, hlt, hc⟩ := h2 h0
  exact ⟨b, 0, e1, hlt, fun k hk => by simpa using hc k hk⟩
theorem TeS.row {w w' : World} {l : List LFact} {v : Value} (h : TeS w l v w') {tb : Nat} (ht : tb < w.heap.size) (hl : l.length ≤ 1000000) : FRowAt w' tb v l := by
  by_cases hn : 0 < l.length
  · obtain ⟨g, cap, rfl, hb, hlt⟩ := h.own.form hn
    exact ⟨_, cap, rfl, hl, fun _ => ⟨g, rfl, by omega, hlt, own_fcells h.own⟩⟩
  · have hl0 : l = [] := List.length_eq_zero_iff.1 (by omega)
    subst hl0
    rcases h.own.2 with ⟨rfl, _⟩ | ⟨g, cap, cur, rfl, _⟩
    · exact ⟨none, 0, rfl, by simp, fun h => absurd h (by simp)⟩
    · exact ⟨_, cap, rfl, by simp, fun h => absurd h (by simp)⟩

structure FtS (w4 : World) (tb n : Nat) (Rs : List (List LFact)) (wr : World) : Prop where
  but : But tb tb w4 wr
  len : Rs.length = n
  fz : ∀ j, j < n → wr.frozen? ⟨tb, j, none⟩ = false
  cell : ∀ j, j < n → ∃ rv, wr.cell? ⟨tb, j, none⟩ = some rv ∧ FRowAt wr tb rv (Rs.getD j [])
theorem getD_setR {Rs : List (List LFact)} {x j : Nat} {y : List LFact} (hx : x < Rs.length) : (Rs.set x y).getD j [] = if j = x then y else Rs.getD j [] := by
  by_cases h : j = x
  · subst h
    rw [if_pos rfl]
    simp [List.getD, hx]
  · rw [if_neg h]
    simp [List.getD, Ne.symm h]
theorem FtS.put {w4 wr w5 : World} {tb n : Nat} {Rs : List (List LFact)} {k : Nat} {l : List LFact} {v : Value} (h : FtS w4 tb n Rs wr) (ht : tb < wr.heap.size) (hb : Below wr.heap.size wr w5) (hl : l.length ≤ 1000000) (hk : k < n) (hr : FRowAt w5 tb v l) : FtS w4 tb n (Rs.set k l) (w5.setCell ⟨tb, k, none⟩ v) := by
  have hbt : But tb tb w5 (w5.setCell ⟨tb, k, none⟩ v) := (But.refl _).setX k v
  refine ⟨(h.but.trans (But.of_below hb)).trans hbt, by rw [List.length_set]; exact h.len, fun j hj => ?_, fun j hj => ?_⟩
  · have := step_frozen hb ht (h.fz j hj)
    simpa [go_sem] using this
  · rw [getD_setR (by rw [h.len]; exact hk)]
    obtain ⟨rv, hc, hrow⟩ := h.cell j hj
    have hc5 := step_cell hb hc
    by_cases e : j = k
    · subst e
      rw [if_pos rfl]
      exact ⟨v, by simp [go_sem, hc5], hr.but hbt⟩
    · rw [if_neg e]
      refine ⟨rv, ?_, (hrow.but (But.of_below hb)).but hbt⟩
      rw [← hc5]
      simp [go_sem]
theorem FtS.mat {w4 wr : World} {tb n cap : Nat} {Rs : List (List LFact)} (h : FtS w4 tb n Rs wr) (ht : tb < wr.heap.size) (hn : n ≤ 40) : FMatIs wr (.slice (some ⟨tb, 0, none⟩) n cap) Rs := by
  refine ⟨_, cap, by rw [h.len], by rw [h.len]; omega, fun _ => ⟨tb, 0, rfl, ht, fun k hk => ?_⟩⟩
  rw [h.len] at hk
  obtain ⟨rv, hc, hrow⟩ := h.cell k hk
  exact ⟨rv, by rw [Nat.zero_add]; exact hc, hrow.is⟩

theorem made_rowsF (n : Nat) : madeCells #[Value.slice none 0 0] n = (List.replicate n (Value.slice none 0 0)).toArray := by
  apply Array.ext'
  rw [toList_madeCells_one]
theorem FtS.start {w w4 : World} (n : Nat) (ty : TypeId) (hb : Below (w.heap.size + 1) (w.alloc (.cells (madeCells #[.slice none 0 0] n) ty)) w4) : FtS w4 w.heap.size n (List.replicate n []) w4 := by
  have hz : (w.alloc (.cells (madeCells #[.slice none 0 0] n) ty)).heap.size = w.heap.size + 1 := by simp
  have hb' : Below (w.alloc (.cells (madeCells #[.slice none 0 0] n) ty)).heap.size (w.alloc (.cells (madeCells #[.slice none 0 0] n) ty)) w4 := by rw [hz]; exact hb
  refine ⟨But.refl _, by simp, fun j hj => ?_, fun j hj => ?_⟩
  · exact step_frozen hb' (by rw [hz]; exact Nat.lt_succ_self _) (by simp [go_sem])
  · refine ⟨.slice none 0 0, step_cell hb' ?_, ?_⟩
    · rw [made_rowsF]
      simp [go_sem, hj]
    · have e : (List.replicate n ([] : List LFact)).getD j [] = [] := by simp [List.getD, hj]
      rw [e]
      exact ⟨none, 0, rfl, by simp, fun h => absurd h (by simp)⟩

def rowA (N : List Int) (nb : Nat) (A : List LPlace) (F : List (Option FM)) (k : Nat) : List LFact := match F.getD k none with | some m => tellL N m nb A | none => []
theorem tellL_len {N : List Int} {m : FM} {nb : Nat} {A : List LPlace} (h1 : N.length ≤ 41) (h2 : nb ≤ 12) (h3 : A.length ≤ 36) : (tellL N m nb A).length ≤ 1000000 := by
  unfold tellL
  rw [List.length_append]
  have := tellT_len N m nb
  have := tellP_len N m nb A A.length (Nat.le_refl _)
  have : nb * N.length ≤ 12 * 41 := Nat.mul_le_mul h2 h1
  have : A.length * (N.length + nb) ≤ 36 * 53 := Nat.mul_le_mul h3 (by omega)
  omega
structure FtR (N : List Int) (nb : Nat) (A : List LPlace) (F : List (Option FM)) (k : Nat) (Rs : List (List LFact)) : Prop where
  done : ∀ j, j < k → Rs.getD j [] = rowA N nb A F j
  todo : ∀ j, k ≤ j → Rs.getD j [] = []
theorem FtR.skip {N : List Int} {nb : Nat} {A : List LPlace} {F : List (Option FM)} {k : Nat} {Rs : List (List LFact)} (h : FtR N nb A F k Rs) (hk : F.getD k none = none) : FtR N nb A F (k + 1) Rs :=
  ⟨fun j hj => by
    by_cases e : j = k
    · subst e; rw [h.todo j (Nat.le_refl _)]; unfold rowA; rw [hk]
    · exact h.done j (by omega), fun j hj => h.todo j (by omega)⟩
theorem FtR.put {N : List Int} {nb : Nat} {A : List LPlace} {F : List (Option FM)} {k : Nat} {Rs : List (List LFact)} {m : FM} (h : FtR N nb A F k Rs) (hl : k < Rs.length) (hk : F.getD k none = some m) : FtR N nb A F (k + 1) (Rs.set k (tellL N m nb A)) :=
  ⟨fun j hj => by
    rw [getD_setR hl]
    by_cases e : j = k
    · subst e; rw [if_pos rfl]; unfold rowA; rw [hk]
    · rw [if_neg e]; exact h.done j (by omega), fun j hj => by
    rw [getD_setR hl, if_neg (by omega)]
    exact h.todo j (by omega)⟩
theorem FtR.mat {B : List Bool} {C : List LIns} {s slots : Nat} {R : List LRow} {N : List Int} {F : List (Option FM)} {Rs : List (List LFact)} (h : FtR N B.length (preP s slots 4) F C.length Rs) (hl : Rs.length = C.length) (hD : Dims B C s slots (preP s slots 4) N) (hF : FoundB B C s slots R N F) : FactsMat B C s slots R Rs := by
  refine ⟨hl, fun k hk hr => ?_, fun k hk hr => ?_⟩
  · obtain ⟨m, hm⟩ := (hF.rch k hk).2 hr
    have e : Rs.getD k [] = tellL N m B.length (preP s slots 4) := by rw [h.done k hk]; unfold rowA; rw [hm]
    rw [e]
    refine ⟨tell_sorted hD.inc m B.length (preP_up s slots 4) (fun p hp => ?_), fun f => (tell_mem hD.all (hF.ok k m hm) f).trans (hF.is k m hm f)⟩
    rcases is_cases ((hD.all p).1 hp) with h | h | h <;> omega
  · have e : F.getD k none = none := by
      cases hc : F.getD k none with
      | none => rfl
      | some m => exact absurd ((hF.rch k hk).1 ⟨m, hc⟩) hr
    rw [h.done k hk]
    unfold rowA
    rw [e]

def FactsYes (B : List Bool) (C : List LIns) (s slots : Nat) (R : List LRow) (w : World) (e : Ending) (w' : World) : Prop := (∃ fv Rs, e = .returned (.tuple #[fv, .int .i64 0]) ∧ FMatIs w' fv Rs ∧ FactsMat B C s slots R Rs) ∧ Below w.heap.size w w'

set_option maxHeartbeats 1600000 in
theorem factsYes (b0 o0 c0 b1 o1 c1 b2 o2 c2 : Nat) (B : List Bool) (C : List LIns) (s slots : Nat) (R : List LRow) (w : World) (h : Held w b0 o0 b1 o1 B C) (hr : RowsHeld w b2 o2 R) (hn : ∀ i, i < C.length → 0 ≤ (C.getD i .zero).n ∧ (C.getD i .zero).n < 4294967296) (hRl : R.length ≤ 9223372036854775807) (hmay : placeMayB B C s slots R = true) :
    Calls Tryz.prog 4 #[progV b0 o0 B.length c0 b1 o1 C.length c1, targetV s, .agg #[.int .i64 slots, .slice (some ⟨b2, o2, none⟩) R.length c2]] w fun e w' => FactsYes B C s slots R w e w' := by
  have hm2 := hmay
  unfold placeMayB at hm2
  simp only [Bool.and_eq_true, Bool.not_eq_true', decide_eq_true_eq, decide_eq_false_iff_not, List.all_eq_true, List.mem_range] at hm2
  obtain ⟨⟨⟨⟨⟨h1, h2⟩, h3⟩, h4⟩, h5⟩, h6⟩ := hm2
  have hs := target_of h2
  have hsz : sizesB B C = true := by unfold refMayB at h1; simp only [Bool.and_eq_true] at h1; exact h1.1
  obtain ⟨s1, s2, s3, s4⟩ := sizes_of hsz
  have hs2 : s % 2 = 0 := by
    unfold targetB at h2
    simp at h2
    omega
  have hib : ∀ k, k < C.length → insB B C.length (C.getD k .zero) = true := may_ins h1
  have HIB : Hid (∀ k, k < C.length → insB B C.length (C.getD k .zero) = true) := hib
  have HIO : Hid (∀ k, k < C.length → InsOk B.length C.length (C.getD k .zero)) := all_insOk h1 hn
  have HRB : Hid (∀ k, k < C.length → rowB B s slots (C.getD k .zero) (R.getD k .zero) = true) := h6
  have HRL : Hid (R.length = C.length) := h5
  have HDM : Hid (∀ N, NumsOk C N → Dims B C s slots (preP s slots 4) N) := fun N hN => dims_of (by omega) s2 (by omega) s4 (by omega) (by omega) hs2 (by omega) hN
  have cM : ∀ wx : World, Below w.heap.size w wx → Calls Tryz.prog 8 #[.agg #[.slice (some ⟨b0, o0, none⟩) B.length c0, .slice (some ⟨b1, o1, none⟩) C.length c1], .agg #[.int .i64 (s : Int)], .agg #[.int .i64 (slots : Int), .slice (some ⟨b2, o2, none⟩) R.length c2]] wx fun e w' => e = .returned (.bool true) ∧ Below wx.heap.size wx w' := fun wx hb => by
    have := mayO (progV b0 o0 B.length c0 b1 o1 C.length c1) (.agg #[.int .i64 slots, .slice (some ⟨b2, o2, none⟩) R.length c2]) B C s slots R wx ⟨⟨_, _, _, _, rfl, fun _ _ => ⟨b0, o0, b1, o1, rfl, rfl, h.later hb⟩⟩, by omega, by omega, hn⟩ ⟨_, _, rfl, hRl, fun _ => ⟨b2, o2, rfl, hr.later hb⟩⟩
    rw [hmay] at this
    exact this
  have cW : ∀ wx : World, Below w.heap.size w wx → Calls Tryz.prog 9 #[.agg #[.slice (some ⟨b0, o0, none⟩) B.length c0, .slice (some ⟨b1, o1, none⟩) C.length c1], .agg #[.int .i64 (s : Int)], .agg #[.int .i64 (slots : Int), .slice (some ⟨b2, o2, none⟩) R.length c2]] wx fun e w' => WorldAns B C s slots R wx e w' := fun wx hb => newWorldO b0 o0 c0 b1 o1 c1 b2 o2 c2 s slots B C R wx s4 (h.later hb) (hr.later hb) (by omega) (by omega) hs2 (by omega)
  have HB3 : Hid (∀ o1 o2 o3 : Obj, Below w.heap.size w (((w.alloc o1).alloc o2).alloc o3)) := fun o1 o2 o3 => (((Below.refl _ _).alloc (Nat.le_refl _) _).alloc (by simp) _).alloc (by simp; omega) _
  have HMC : Hid (∀ wx : World, Below w.heap.size w wx → Calls Tryz.prog 8 #[.agg #[.slice (some ⟨b0, o0, none⟩) B.length c0, .slice (some ⟨b1, o1, none⟩) C.length c1], .agg #[.int .i64 (s : Int)], .agg #[.int .i64 (slots : Int), .slice (some ⟨b2, o2, none⟩) R.length c2]] wx fun e w' => e = .returned (.bool true) ∧ Below wx.heap.size wx w') := cM
  have HWC : Hid (∀ wx : World, Below w.heap.size w wx → Calls Tryz.prog 9 #[.agg #[.slice (some ⟨b0, o0, none⟩) B.length c0, .slice (some ⟨b1, o1, none⟩) C.length c1], .agg #[.int .i64 (s : Int)], .agg #[.int .i64 (slots : Int), .slice (some ⟨b2, o2, none⟩) R.length c2]] wx fun e w' => WorldAns B C s slots R wx e w') := cW
  have hc40z : (C.length : Int) ≤ 40 := by omega
  have hmk := fun wx => run_make_row' (P := Tryz.prog) 31 43 (.slice none 0 0) 24 Tryz.underlying31 infFactRow8 rfl .i64 .i64 C.length (by omega) (by omega) wx
  clear h hr hn hRl hmay h1 h2 h3 h4 h5 h6 hs hsz hib cM cW hs2 s1
  unfold progV targetV
  go_enter Tryz.func4, Tryz.ntmps4
  go_upto_region 3 with (go_at_call 8; refine (HMC.out _ (HB3.out _ _ _)).mono ?_; rintro e w1 ⟨rfl, hb1⟩; have HB1 : Hid (Below w.heap.size w w1) := step_below hb1 (HB3.out _ _ _); have p0 : w1.cell? ⟨w.heap.size, 0, none⟩ = some (.slice (some ⟨b0, o0, none⟩) B.length c0) := step_cell hb1 (by simp [go_sem]); have p1 : w1.cell? ⟨w.heap.size, 1, none⟩ = some (.slice (some ⟨b1, o1, none⟩) C.length c1) := step_cell hb1 (by simp [go_sem]); have p2 : w1.cell? ⟨w.heap.size + 1, 0, none⟩ = some (.int .i64 (s : Int)) := step_cell hb1 (by simp [go_sem]); have p3 : w1.cell? ⟨w.heap.size + 1 + 1, 0, none⟩ = some (.int .i64 (slots : Int)) := step_cell hb1 (by simp [go_sem]); have p4 : w1.cell? ⟨w.heap.size + 1 + 1, 1, none⟩ = some (.slice (some ⟨b2, o2, none⟩) R.length c2) := step_cell hb1 (by simp [go_sem]); clear hb1)
  go_upto_region 4 with (go_at_call 9; refine (HWC.out _ HB1.out).mono ?_; rintro e w2 ⟨g, N, rfl, hst, hno, hb2⟩; have HST : Hid (Stat w2 g B C R (preP s slots 4) N) := hst; have HD : Hid (Dims B C s slots (preP s slots 4) N) := HDM.out N hno; have HB2 : Hid (Below w.heap.size w w2) := step_below hb2 HB1.out; have r1 : w2.cell? ⟨w.heap.size, 1, none⟩ = some (.slice (some ⟨b1, o1, none⟩) C.length c1) := step_cell hb2 p1; clear hst hno hb2)
  clear p0 p1 p2 p3 p4
  go_upto_region 5 with fail
  obtain ⟨w3, hw3⟩ : ∃ w3, w3 = w2.alloc (.cells (madeCells #[.slice none 0 0] C.length) 43) := ⟨_, rfl⟩
  have hb3 : Below w2.heap.size w2 w3 := by rw [hw3]; exact (Below.refl _ _).alloc (Nat.le_refl _) _
  have hz3 : w3.heap.size = w2.heap.size + 1 := by rw [hw3]; simp
  have HFS : Hid (∀ w4, Below w3.heap.size w3 w4 → FtS w4 w2.heap.size C.length (List.replicate C.length []) w4) := fun w4 hb => by
    rw [hz3, hw3] at hb
    exact FtS.start C.length _ hb
  rw [← hw3]
  have HZ3 : Hid (w3.heap.size = w2.heap.size + 1) := hz3
  have HB23 : Hid (Below w.heap.size w w3) := step_below hb3 HB2.out
  have HSW : Hid (WorldAt w2 w2.heap.size g B C R (preP s slots 4) N) := WorldAt.start HST.out
  have HBZ : Hid (Below w2.heap.size w2 w3) := hb3
  have HS3 : Hid (WorldAt w3 w3.heap.size g B C R (preP s slots 4) N) := WorldAt.start (HST.out.later hb3)
  clear hw3 hb3 hz3 r1 hmk HST
  have HND : Hid ((preP s slots 4).Nodup) := up_nodup (preP_up s slots 4)
  have HT : Hid (∀ t, t ∈ tempsL B.length ↔ 0 ≤ t ∧ t < B.length) := fun t => tempsL_mem
  have hTl : (tempsL B.length).length ≤ 12 := by rw [tempsL_len]; omega
  have c := aheadW HS3.out HD.out HND.out HIB.out HIO.out HRB.out HRL.out (tempsL B.length) HT.out hTl
  go_wp2_with (go_at_call 10; refine c.mono ?_; rintro e w4 ⟨ab, F, Q, rfl, hA, hFB, hb4⟩; have HA : Hid (AllAt w4 w3.heap.size ab (preP s slots 4) (tempsL B.length) F Q) := hA; have HFB : Hid (FoundB B C s slots R N F) := hFB; have HB4 : Hid (Below w3.heap.size w3 w4) := hb4; clear hA hFB hb4)
  clear c
  have HBW4 : Hid (Below w.heap.size w w4) := step_below HB4.out HB23.out
  have htb : w2.heap.size < w4.heap.size := by have := HZ3.out; have := HB4.out.size; omega
  have htw : w.heap.size ≤ w2.heap.size := HB2.out.size
  have HB24 : Hid (Below w2.heap.size w2 w4) := step_below HB4.out HBZ.out
  have HNA : Hid (∀ k m, F.getD k none = some m → (Q k).1 ≠ w2.heap.size ∧ (Q k).2.1 ≠ w2.heap.size ∧ (Q k).2.2 ≠ w2.heap.size) := fun k m hk => by
    have := HA.out.ge k m hk
    have := HZ3.out
    omega
  have hab : ab ≠ w2.heap.size := by have := HA.out.lo; have := HZ3.out; omega
  have HAB : Hid (ab ≠ w2.heap.size) := hab
  clear hab
  go_loopg [10, 11, 28] (C.length + 1) (fun gg v10 v11 v wr => ∃ (k : Nat) (Rs : List (List LFact)), v = .int .i64 k ∧ k ≤ C.length ∧ gg = C.length + 1 - k ∧ FtS w4 w2.heap.size C.length Rs wr ∧ FtR N B.length (preP s slots 4) F k Rs)
  case atStart => exact ⟨0, List.replicate C.length [], rfl, by omega, by omega, HFS.out w4 HB4.out, fun j hj => absurd hj (by omega), fun j _ => by
    by_cases h : j < C.length
    · simp [List.getD, h]
    · simp [List.getD, List.getElem?_eq_none (show (List.replicate C.length ([] : List LFact)).length ≤ j by simp; omega)]⟩
  case round =>
    obtain ⟨k, Rs, rfl, hk, hgk, hfs, hfr⟩ := hrel
    have HGK : Hid (gk = C.length + 1 - k) := hgk
    have HFT : Hid (FtS w4 w2.heap.size C.length Rs wr) := hfs
    have HFR : Hid (FtR N B.length (preP s slots 4) F k Rs) := hfr
    have HBW : Hid (Below w.heap.size w wr) := HBW4.out.trans (hfs.but.toBelow HBW4.out.size htw htw)
    have htr : w2.heap.size < wr.heap.size := Nat.lt_of_lt_of_le htb hfs.but.size
    clear hgk hfs hfr
    by_cases hkl : k < C.length
    case neg =>
      obtain rfl : k = C.length := by omega
      have hkz : ¬ (C.length : Int) < (C.length : Int) := by omega
      go_wp2
      refine bodyPost_ret (v := .tuple #[.slice (some ⟨w2.heap.size, 0, none⟩) C.length C.length, .int .i64 0]) ?_ rfl ?_
      · simp [results, Tryz.results4, go_sem]
      exact ⟨⟨_, Rs, rfl, HFT.out.mat htr (by omega), HFR.out.mat HFT.out.len HD.out HFB.out⟩, HBW.out⟩
    have hkz : (k : Int) < (C.length : Int) := by omega
    have hFl := HFB.out.len
    have c0 := HFT.out.but.cellOf (HA.out.cell k (by omega)) HAB.out HAB.out
    have hlt := cell_lt c0
    clear hFl
    rcases hc : F.getD k none with _ | m
    · have HC : Hid (F.getD k none = none) := hc
      have hp : pvO F Q k = .pointer none := by unfold pvO; rw [hc]
      rw [hp] at c0
      clear hp hc
      go_wp2
      have hgk := HGK.out
      go_roundg (gk - 1)
      case measure => omega
      case rel => exact ⟨k + 1, Rs, by go_num, by omega, by omega, HFT.out, HFR.out.skip HC.out⟩
    · have HC : Hid (F.getD k none = some m) := hc
      have hp : pvO F Q k = .pointer (some ⟨(Q k).1, 0, none⟩) := by unfold pvO; rw [hc]
      rw [hp] at c0
      have hna := HNA.out k m hc
      have hWr : WorldAt wr w2.heap.size g B C R (preP s slots 4) N := HSW.out.keep (HB24.out.trans (HFT.out.but.toBelow HB24.out.size (Nat.le_refl _) (Nat.le_refl _)))
      have c := tellW hWr HD.out (Q k).1 (Q k).2.1 (Q k).2.2 (tempsL B.length) m ((HA.out.fm k m hc).but HFT.out.but ⟨hna.1, hna.1⟩ ⟨hna.2.1, hna.2.1⟩ ⟨hna.2.2, hna.2.2⟩)
      obtain ⟨L, hL⟩ : ∃ L, L = tellL N m B.length (preP s slots 4) := ⟨_, rfl⟩
      have hll : L.length ≤ 1000000 := by rw [hL]; exact tellL_len HD.out.n41 HD.out.b12 HD.out.a36
      rw [← hL] at c
      have HL : Hid (L = tellL N m B.length (preP s slots 4)) := hL
      obtain ⟨rv, d0, -⟩ := HFT.out.cell k hkl
      have f0 := HFT.out.fz k hkl
      clear hp hc hna hWr hL
      go_wp2_with fail
      go_at_call 11
      refine c.mono ?_
      rintro e w5 ⟨v, rfl, hte⟩
      have hrow := hte.row htr hll
      obtain ⟨ao, cap, hv, hr1, hr2⟩ := hrow
      subst hv
      have HROW : Hid (FRowAt w5 w2.heap.size (.slice ao L.length cap) L) := ⟨ao, cap, rfl, hr1, hr2⟩
      have HB5 : Hid (Below wr.heap.size wr w5) := hte.bel
      have d1 := step_cell HB5.out d0
      have f1 := step_frozen HB5.out htr f0
      have ht5 : w2.heap.size < w5.heap.size := Nat.lt_of_lt_of_le htr HB5.out.size
      clear hte hr1 hr2 d0 f0 c
      go_wp2
      have hgk := HGK.out
      go_roundg (gk - 1)
      case measure => omega
      case rel =>
        refine ⟨k + 1, Rs.set k L, by go_num, by omega, by omega, HFT.out.put htr HB5.out hll hkl HROW.out, ?_⟩
        rw [HL.out]
        exact HFR.out.put (by rw [HFT.out.len]; exact hkl) HC.out

theorem factsNo (pv lv : Value) (B : List Bool) (C : List LIns) (s slots : Int) (R : List LRow) (w : World) (hp : ProgIs w pv B C) (hl : PlacedIs w lv slots R) (hmay : placeMayB B C s slots R = false) :
    Calls Tryz.prog 4 #[pv, targetV s, lv] w fun e w' => (∃ fo fc, e = .returned (.tuple #[.slice fo 0 fc, .int .i64 2])) ∧ Below w.heap.size w w' := by
  have HB3 : Hid (∀ o1 o2 o3 : Obj, Below w.heap.size w (((w.alloc o1).alloc o2).alloc o3)) := fun o1 o2 o3 => (((Below.refl _ _).alloc (Nat.le_refl _) _).alloc (by simp) _).alloc (by simp; omega) _
  obtain ⟨⟨a0, c0, a1, c1, rfl, hh⟩, l0, l1, hn⟩ := hp
  obtain ⟨ao, cap, rfl, hRl, hrr⟩ := hl
  have HMC : Hid (∀ wx : World, Below w.heap.size w wx → Calls Tryz.prog 8 #[.agg #[.slice a0 B.length c0, .slice a1 C.length c1], .agg #[.int .i64 s], .agg #[.int .i64 slots, .slice ao R.length cap]] wx fun e w' => e = .returned (.bool false) ∧ Below wx.heap.size wx w') := fun wx hb => by
    have := mayO (.agg #[.slice a0 B.length c0, .slice a1 C.length c1]) (.agg #[.int .i64 slots, .slice ao R.length cap]) B C s slots R wx ⟨⟨_, _, _, _, rfl, fun x y => by
      obtain ⟨b0, o0, b1, o1, e1, e2, hH⟩ := hh x y
      exact ⟨b0, o0, b1, o1, e1, e2, hH.later hb⟩⟩, l0, l1, hn⟩ ⟨_, _, rfl, hRl, fun x => by
      obtain ⟨b2, o2, e1, hr⟩ := hrr x
      exact ⟨b2, o2, e1, hr.later hb⟩⟩
    rw [hmay] at this
    exact this
  clear hh hrr hn hmay
  unfold targetV
  go_enter Tryz.func4, Tryz.ntmps4
  go_wp2_with (go_at_call 8; refine (HMC.out _ (HB3.out _ _ _)).mono ?_; rintro e w1 ⟨rfl, hb1⟩; have HB1 : Hid (Below w.heap.size w w1) := step_below hb1 (HB3.out _ _ _); clear hb1)
  refine bodyPost_ret (v := .tuple #[.slice none 0 0, .int .i64 2]) ?_ rfl ?_
  · simp [results, Tryz.results4, go_sem]
  exact ⟨⟨none, 0, rfl⟩, HB1.out⟩

end Go.Proofs.YtcmnmogmdhofcaaGreat.form

/- A world of facts while it is being made (loanbookref8.Of): its block, its facts, its starts, in memory. -/
namespace Go.Proofs.YtcmnmogmdhofcaaGreat.form
open Go.RowKit Go.Proofs.YtcmnmogmdhofcaaGreat.num
set_option linter.unusedVariables false

theorem grown_over {a w w' : World} {x : Nat} {row : Option Nat} (h : a.grownBy w (some x)) (hg : w.grownBy w' row) (hr : ∀ k, row = some k → a.heap.size ≤ k ∨ k = x) : a.grownBy w' (some x) :=
  ⟨hg.os.trans h.os, hg.tape.trans h.tape, hg.output.trans h.output, Nat.le_trans h.size hg.size, fun k hk hne => by
    rw [hg.block k (Nat.lt_of_lt_of_le hk h.size) (fun e => by
      rcases hr k e.symm with h1 | h1
      · omega
      · exact hne (by rw [h1])), h.block k hk hne]⟩
theorem grown_set (w : World) (b i : Nat) (v : Value) : w.grownBy (w.setCell ⟨b, i, none⟩ v) (some b) :=
  ⟨rfl, rfl, rfl, by simp [World.setCell], fun k hk hne => Below.heap_setCell _ _ _ _ (fun e => hne (by simpa using e))⟩

structure OfS (w1 : World) (bw gs : Nat) (nv : Value) (l : List LFact) (av : Value) (sv : Nat → Value) (st : Nat → List Nat) (wr : World) : Prop where
  gr : w1.grownBy wr (some bw)
  lb : bw < wr.heap.size
  lg : w1.heap.size ≤ gs ∧ gs < wr.heap.size
  ne : bw ≠ gs
  c2 : wr.cell? ⟨bw, 2, none⟩ = some av
  c3 : wr.cell? ⟨bw, 3, none⟩ = some (.slice (some ⟨gs, 0, none⟩) 4 4)
  c4 : wr.cell? ⟨bw, 4, none⟩ = some nv
  all : wr.ownsRow w1.heap.size 62 5 av l.length (l.flatMap factCs)
  top : ∀ q, q < 4 → wr.cell? ⟨gs, q, none⟩ = some (sv q)
  row : ∀ q, q < 4 → wr.ownsRow w1.heap.size 3 1 (sv q) (st q).length ((st q).map (fun n : Nat => Value.int .i64 (n : Int)))
  apb : av.ownBlock ≠ some bw
  apg : av.ownBlock ≠ some gs
  sb : ∀ q, q < 4 → (sv q).ownBlock ≠ some bw
  sg : ∀ q, q < 4 → (sv q).ownBlock ≠ some gs
  sa : ∀ q, q < 4 → ∀ b, (sv q).ownBlock = some b → av.ownBlock ≠ some b
  ss : ∀ q r, q < 4 → r < 4 → q ≠ r → ∀ b, (sv q).ownBlock = some b → (sv r).ownBlock ≠ some b

section
variable {w1 : World} {bw gs : Nat} {nv : Value} {l : List LFact} {av : Value} {sv : Nat → Value} {st : Nat → List Nat} {wr w9 : World}

theorem own_kept {w w' : World} {base size n : Nat} {e : TypeId} {v : Value} {xs : List Value} {row : Option Nat} (h : w.ownsRow base e size v n xs) (hg : w.grownBy w' row) (hne : ∀ b, v.ownBlock = some b → row ≠ some b) : w'.ownsRow base e size v n xs := by
  refine World.ownsRow.kept h hg ?_
  cases hv : v.ownBlock with
  | none => exact Or.inl rfl
  | some b => exact Or.inr (fun e => hne b hv e.symm)

theorem OfS.below (h : OfS w1 bw gs nv l av sv st wr) (hb : Below wr.heap.size wr w9) : OfS w1 bw gs nv l av sv st w9 := by
  have hg : wr.grownBy w9 none := ⟨hb.os, hb.tape, hb.output, hb.size, fun j hj _ => hb.block j hj⟩
  exact ⟨grown_over h.gr hg (fun k e => by simp at e), Nat.lt_of_lt_of_le h.lb hb.size, ⟨h.lg.1, Nat.lt_of_lt_of_le h.lg.2 hb.size⟩, h.ne, step_cell hb h.c2, step_cell hb h.c3, step_cell hb h.c4, own_kept h.all hg (by simp), fun q hq => step_cell hb (h.top q hq), fun q hq => own_kept (h.row q hq) hg (by simp), h.apb, h.apg, h.sb, h.sg, h.sa, h.ss⟩

theorem OfS.fact (h : OfS w1 bw gs nv l av sv st wr) {f : LFact} {g cap : Nat} (hown : w9.ownsRow w1.heap.size 62 5 (.slice (some ⟨g, 0, none⟩) (l.length + 1) cap) (l.length + 1) (l.flatMap factCs ++ factCs f)) (hgrow : wr.grownBy w9 av.ownBlock) (hat : av.ownBlock = some g ∨ g = wr.heap.size) :
    OfS w1 bw gs nv (l ++ [f]) (.slice (some ⟨g, 0, none⟩) (l.length + 1) cap) sv st (w9.setCell ⟨bw, 2, none⟩ (.slice (some ⟨g, 0, none⟩) (l.length + 1) cap)) := by
  have hz := h.gr.size
  have hs := grown_set w9 bw 2 (.slice (some ⟨g, 0, none⟩) (l.length + 1) cap)
  have hb1 := h.lb
  have hg1 := h.lg.2
  have hga := fun k e => (World.ownsRow.lt h.all k e).1
  have hlb9 := Nat.lt_of_lt_of_le h.lb hgrow.size
  have hlg9 := Nat.lt_of_lt_of_le h.lg.2 hgrow.size
  have gne : ∀ b, b < wr.heap.size → av.ownBlock ≠ some b → g ≠ b := fun b hb hn e => by
    rcases hat with hat | hat
    · rw [e] at hat; exact hn hat
    · omega
  have c2' : w9.cell? ⟨bw, 2, none⟩ = some av := by rw [hgrow.cell_far _ (by exact h.lb) (by exact Ne.symm h.apb)]; exact h.c2
  refine ⟨grown_over (grown_over h.gr hgrow (fun k e => Or.inl (hga k e))) hs (fun k e => Or.inr (by simpa using e.symm)), Nat.lt_of_lt_of_le hlb9 hs.size, ⟨h.lg.1, Nat.lt_of_lt_of_le hlg9 hs.size⟩, h.ne, World.cell?_setCell_same _ _ _ c2', ?_, ?_, ?_, fun q hq => ?_, fun q hq => ?_, ?_, ?_, h.sb, h.sg, fun q hq b e => ?_, h.ss⟩
  · rw [World.cell?_setCell_other _ _ _ _ (by intro e; injection e with e1 e2; omega), hgrow.cell_far _ (by exact h.lb) (by exact Ne.symm h.apb)]; exact h.c3
  · rw [World.cell?_setCell_other _ _ _ _ (by intro e; injection e with e1 e2; omega), hgrow.cell_far _ (by exact h.lb) (by exact Ne.symm h.apb)]; exact h.c4
  · have := own_kept hown hs (fun b e => by
      simp [Value.ownBlock] at e
      have := gne bw h.lb h.apb
      simp; omega)
    simpa using this
  · rw [World.cell?_setCell_far _ _ _ _ (by exact h.ne), hgrow.cell_far _ (by exact h.lg.2) (by exact Ne.symm h.apg)]; exact h.top q hq
  · refine own_kept (own_kept (h.row q hq) hgrow (fun b e => h.sa q hq b e)) hs (fun b e e2 => ?_)
    rw [e2] at hs
    exact h.sb q hq (by rw [e]; exact e2.symm)
  · simp [Value.ownBlock]; exact gne bw h.lb h.apb
  · simp [Value.ownBlock]; exact gne gs h.lg.2 h.apg
  · simp [Value.ownBlock]; exact gne b (World.ownsRow.lt (h.row q hq) b e).2 (h.sa q hq b e)

theorem OfS.mark (h : OfS w1 bw gs nv l av sv st wr) {p n g cap : Nat} (hp : p < 4) (hown : w9.ownsRow w1.heap.size 3 1 (.slice (some ⟨g, 0, none⟩) ((st p).length + 1) cap) ((st p).length + 1) ((st p).map (fun n : Nat => Value.int .i64 (n : Int)) ++ [.int .i64 (n : Int)])) (hgrow : wr.grownBy w9 (sv p).ownBlock) (hat : (sv p).ownBlock = some g ∨ g = wr.heap.size) :
    OfS w1 bw gs nv l av (fun q => if q = p then .slice (some ⟨g, 0, none⟩) ((st p).length + 1) cap else sv q) (fun q => if q = p then st p ++ [n] else st q) (w9.setCell ⟨gs, p, none⟩ (.slice (some ⟨g, 0, none⟩) ((st p).length + 1) cap)) := by
  have hz := h.gr.size
  have hs := grown_set w9 gs p (.slice (some ⟨g, 0, none⟩) ((st p).length + 1) cap)
  have hlb9 := Nat.lt_of_lt_of_le h.lb hgrow.size
  have hlg9 := Nat.lt_of_lt_of_le h.lg.2 hgrow.size
  have gne : ∀ b, b < wr.heap.size → (sv p).ownBlock ≠ some b → g ≠ b := fun b hb hn e => by
    rcases hat with hat | hat
    · rw [e] at hat; exact hn hat
    · omega
  have far : ∀ i u, wr.cell? ⟨bw, i, none⟩ = some u → (w9.setCell ⟨gs, p, none⟩ (.slice (some ⟨g, 0, none⟩) ((st p).length + 1) cap)).cell? ⟨bw, i, none⟩ = some u := fun i u e => by
    rw [World.cell?_setCell_far _ _ _ _ (by exact Ne.symm h.ne), hgrow.cell_far _ (by exact h.lb) (by exact Ne.symm (h.sb p hp))]; exact e
  have tp : ∀ q, q < 4 → w9.cell? ⟨gs, q, none⟩ = some (sv q) := fun q hq => by
    rw [hgrow.cell_far _ (by exact h.lg.2) (by exact Ne.symm (h.sg p hp))]; exact h.top q hq
  have hgg : g ≠ gs := gne gs h.lg.2 (h.sg p hp)
  refine ⟨grown_over (grown_over h.gr hgrow (fun k e => Or.inl (World.ownsRow.lt (h.row p hp) k e).1)) hs (fun k e => Or.inl (by simp at e; have := h.lg.1; omega)), Nat.lt_of_lt_of_le hlb9 hs.size, ⟨h.lg.1, Nat.lt_of_lt_of_le hlg9 hs.size⟩, h.ne, far 2 _ h.c2, far 3 _ h.c3, far 4 _ h.c4, ?_, fun q hq => ?_, fun q hq => ?_, h.apb, h.apg, fun q hq => ?_, fun q hq => ?_, fun q hq b e => ?_, fun q r hq hr hqr b e => ?_⟩
  · refine own_kept (own_kept h.all hgrow (fun b e e2 => h.sa p hp b e2 e)) hs (fun b e e2 => ?_)
    exact h.apg (by rw [e]; exact e2.symm)
  · by_cases e : q = p
    · subst e
      rw [if_pos rfl]
      exact World.cell?_setCell_same _ _ _ (tp q hq)
    · rw [if_neg e, World.cell?_setCell_other _ _ _ _ (by intro e2; injection e2 with e1 e2; omega)]
      exact tp q hq
  · by_cases e : q = p
    · subst e
      rw [if_pos rfl, if_pos rfl]
      have := own_kept hown hs (fun b e => by
        simp [Value.ownBlock] at e
        simp; omega)
      simpa using this
    · rw [if_neg e, if_neg e]
      refine own_kept (own_kept (h.row q hq) hgrow (fun b e1 => h.ss q p hq hp e b e1)) hs (fun b e1 e2 => ?_)
      exact h.sg q hq (by rw [e1]; exact e2.symm)
  · by_cases e : q = p
    · rw [if_pos e]; simp [Value.ownBlock]; exact gne bw h.lb (h.sb p hp)
    · rw [if_neg e]; exact h.sb q hq
  · by_cases e : q = p
    · rw [if_pos e]; simp [Value.ownBlock]; exact hgg
    · rw [if_neg e]; exact h.sg q hq
  · by_cases e1 : q = p
    · rw [if_pos e1] at e
      simp [Value.ownBlock] at e
      intro e2
      have hlt := (World.ownsRow.lt h.all b e2).2
      refine gne b hlt (fun e3 => h.sa p hp b e3 e2) e
    · rw [if_neg e1] at e
      exact h.sa q hq b e
  · by_cases e1 : q = p
    · rw [if_pos e1] at e
      rw [if_neg (by omega)]
      simp [Value.ownBlock] at e
      intro e2
      exact gne b (World.ownsRow.lt (h.row r hr) b e2).2 (h.ss r p hr hp (by omega) b e2) e
    · rw [if_neg e1] at e
      by_cases e2 : r = p
      · rw [if_pos e2]
        simp [Value.ownBlock]
        exact gne b (World.ownsRow.lt (h.row q hq) b e).2 (h.ss q p hq hp e1 b e)
      · rw [if_neg e2]
        exact h.ss q r hq hr hqr b e
end

end Go.Proofs.YtcmnmogmdhofcaaGreat.form

/- A world of facts while it is being made (loanbookref8.Of): the rows whole, ahead of its starts and with them. -/
namespace Go.Proofs.YtcmnmogmdhofcaaGreat.form
open Go.RowKit Go.Proofs.YtcmnmogmdhofcaaGreat.num
set_option linter.unusedVariables false

structure OfT (w1 : World) (bw : Nat) (pw pc nv : Value) (l : List LFact) (av : Value) (wr : World) : Prop where
  gr : w1.grownBy wr (some bw)
  lt : bw < w1.heap.size
  rb : Row wr bw 66 [pw, pc, av, .slice none 0 0, nv]
  all : wr.ownsRow w1.heap.size 62 5 av l.length (l.flatMap factCs)

section
variable {w1 : World} {bw gs : Nat} {pw pc nv : Value} {l : List LFact} {av : Value} {sv : Nat → Value} {st : Nat → List Nat} {wr w9 : World}

theorem OfT.old (h : OfT w1 bw pw pc nv l av wr) {p : Addr} {v : Value} (hc : w1.cell? p = some v) (hn : p.block ≠ bw) : wr.cell? p = some v := by
  rw [h.gr.cell_far p (World.block_lt_of_cell? w1 p hc) (by simpa using hn)]; exact hc
theorem OfT.ne (h : OfT w1 bw pw pc nv l av wr) : av.ownBlock ≠ some bw := fun e => by have := (World.ownsRow.lt h.all _ e).1; have := h.lt; omega
theorem OfT.below (h : OfT w1 bw pw pc nv l av wr) (hb : Below wr.heap.size wr w9) : OfT w1 bw pw pc nv l av w9 := by
  have hg : wr.grownBy w9 none := ⟨hb.os, hb.tape, hb.output, hb.size, fun j hj _ => hb.block j hj⟩
  exact ⟨grown_over h.gr hg (fun k e => by simp at e), h.lt, h.rb.below hb, own_kept h.all hg (by simp)⟩
theorem OfT.fact (h : OfT w1 bw pw pc nv l av wr) {f : LFact} {g cap : Nat} (hown : w9.ownsRow w1.heap.size 62 5 (.slice (some ⟨g, 0, none⟩) (l.length + 1) cap) (l.length + 1) (l.flatMap factCs ++ factCs f)) (hgrow : wr.grownBy w9 av.ownBlock) :
    OfT w1 bw pw pc nv (l ++ [f]) (.slice (some ⟨g, 0, none⟩) (l.length + 1) cap) (w9.setCell ⟨bw, 2, none⟩ (.slice (some ⟨g, 0, none⟩) (l.length + 1) cap)) := by
  have hs := grown_set w9 bw 2 (.slice (some ⟨g, 0, none⟩) (l.length + 1) cap)
  have hlt := h.lt
  refine ⟨grown_over (grown_over h.gr hgrow (fun k e => Or.inl (World.ownsRow.lt h.all k e).1)) hs (fun k e => Or.inr (by simpa using e.symm)), h.lt, ?_, ?_⟩
  · have := (h.rb.grown hgrow (Ne.symm h.ne)).set 2 (.slice (some ⟨g, 0, none⟩) (l.length + 1) cap)
    simpa using this
  · have := own_kept hown hs (fun b e => by
      have := (World.ownsRow.lt hown b e).1
      simp; omega)
    simpa using this

structure Fix (bw gs : Nat) (av : Value) (sv : Nat → Value) (x : Nat) (wr : World) : Prop where
  lt : x < wr.heap.size
  b : x ≠ bw
  g : x ≠ gs
  a : av.ownBlock ≠ some x
  s : ∀ q, q < 4 → (sv q).ownBlock ≠ some x

structure OfR (w1 : World) (bw gs : Nat) (pw pc nv : Value) (l : List LFact) (av : Value) (sv : Nat → Value) (st : Nat → List Nat) (wr : World) : Prop where
  os : OfS w1 bw gs nv l av sv st wr
  lt : bw < w1.heap.size
  rb : Row wr bw 66 [pw, pc, av, .slice (some ⟨gs, 0, none⟩) 4 4, nv]
  rg : Row wr gs 56 [sv 0, sv 1, sv 2, sv 3]

theorem Fix.below {x : Nat} (h : Fix bw gs av sv x wr) (hb : Below wr.heap.size wr w9) : Fix bw gs av sv x w9 := ⟨Nat.lt_of_lt_of_le h.lt hb.size, h.b, h.g, h.a, h.s⟩
theorem OfR.old (h : OfR w1 bw gs pw pc nv l av sv st wr) {p : Addr} {v : Value} (hc : w1.cell? p = some v) (hn : p.block ≠ bw) : wr.cell? p = some v := by
  rw [h.os.gr.cell_far p (World.block_lt_of_cell? w1 p hc) (by simpa using hn)]; exact hc
theorem OfR.below (h : OfR w1 bw gs pw pc nv l av sv st wr) (hb : Below wr.heap.size wr w9) : OfR w1 bw gs pw pc nv l av sv st w9 := ⟨h.os.below hb, h.lt, h.rb.below hb, h.rg.below hb⟩
theorem OfR.new (h : OfR w1 bw gs pw pc nv l av sv st wr) (hb : Below wr.heap.size wr w9) {x : Nat} (hx : wr.heap.size ≤ x) (hx2 : x < w9.heap.size) : Fix bw gs av sv x w9 :=
  ⟨hx2, fun e => by have := h.os.lb; omega, fun e => by have := h.os.lg.2; omega, fun e => by have := (World.ownsRow.lt h.os.all _ e).2; omega, fun q hq e => by have := (World.ownsRow.lt (h.os.row q hq) _ e).2; omega⟩

theorem OfR.fact (h : OfR w1 bw gs pw pc nv l av sv st wr) {f : LFact} {g cap : Nat} (hown : w9.ownsRow w1.heap.size 62 5 (.slice (some ⟨g, 0, none⟩) (l.length + 1) cap) (l.length + 1) (l.flatMap factCs ++ factCs f)) (hgrow : wr.grownBy w9 av.ownBlock) (hat : av.ownBlock = some g ∨ g = wr.heap.size) :
    OfR w1 bw gs pw pc nv (l ++ [f]) (.slice (some ⟨g, 0, none⟩) (l.length + 1) cap) sv st (w9.setCell ⟨bw, 2, none⟩ (.slice (some ⟨g, 0, none⟩) (l.length + 1) cap)) := by
  refine ⟨h.os.fact hown hgrow hat, h.lt, ?_, ?_⟩
  · have := (h.rb.grown hgrow (Ne.symm h.os.apb)).set 2 (.slice (some ⟨g, 0, none⟩) (l.length + 1) cap)
    simpa using this
  · exact (h.rg.grown hgrow (Ne.symm h.os.apg)).other (by exact Ne.symm h.os.ne) _
theorem Fix.fact {x g n cap : Nat} (h : Fix bw gs av sv x wr) (hgrow : wr.grownBy w9 av.ownBlock) (hat : av.ownBlock = some g ∨ g = wr.heap.size) (v : Value) :
    Fix bw gs (.slice (some ⟨g, 0, none⟩) n cap) sv x (w9.setCell ⟨bw, 2, none⟩ v) ∧ (w9.setCell ⟨bw, 2, none⟩ v).heap[x]? = wr.heap[x]? := by
  have hlt := h.lt
  have hs := grown_set w9 bw 2 v
  refine ⟨⟨Nat.lt_of_lt_of_le (Nat.lt_of_lt_of_le h.lt hgrow.size) hs.size, h.b, h.g, ?_, h.s⟩, ?_⟩
  · simp [Value.ownBlock]
    rcases hat with e | e
    · intro e2; rw [e2] at e; exact h.a e
    · omega
  · rw [hs.block x (Nat.lt_of_lt_of_le h.lt hgrow.size) (by have := h.b; simpa using this), hgrow.block x h.lt (Ne.symm h.a)]

theorem OfR.mark (h : OfR w1 bw gs pw pc nv l av sv st wr) {p n g cap : Nat} (hp : p < 4) (hown : w9.ownsRow w1.heap.size 3 1 (.slice (some ⟨g, 0, none⟩) ((st p).length + 1) cap) ((st p).length + 1) ((st p).map (fun n : Nat => Value.int .i64 (n : Int)) ++ [.int .i64 (n : Int)])) (hgrow : wr.grownBy w9 (sv p).ownBlock) (hat : (sv p).ownBlock = some g ∨ g = wr.heap.size) :
    OfR w1 bw gs pw pc nv l av (fun q => if q = p then .slice (some ⟨g, 0, none⟩) ((st p).length + 1) cap else sv q) (fun q => if q = p then st p ++ [n] else st q) (w9.setCell ⟨gs, p, none⟩ (.slice (some ⟨g, 0, none⟩) ((st p).length + 1) cap)) := by
  refine ⟨h.os.mark hp hown hgrow hat, h.lt, ?_, ?_⟩
  · exact (h.rb.grown hgrow (Ne.symm (h.os.sb p hp))).other (by exact h.os.ne) _
  · have := (h.rg.grown hgrow (Ne.symm (h.os.sg p hp))).set p (.slice (some ⟨g, 0, none⟩) ((st p).length + 1) cap)
    rcases (show p = 0 ∨ p = 1 ∨ p = 2 ∨ p = 3 by omega) with rfl | rfl | rfl | rfl <;> simpa using this
theorem Fix.mark {x p g n cap : Nat} (h : Fix bw gs av sv x wr) (hp : p < 4) (hgrow : wr.grownBy w9 (sv p).ownBlock) (hat : (sv p).ownBlock = some g ∨ g = wr.heap.size) (v : Value) :
    Fix bw gs av (fun q => if q = p then .slice (some ⟨g, 0, none⟩) n cap else sv q) x (w9.setCell ⟨gs, p, none⟩ v) ∧ (w9.setCell ⟨gs, p, none⟩ v).heap[x]? = wr.heap[x]? := by
  have hlt := h.lt
  have hs := grown_set w9 gs p v
  refine ⟨⟨Nat.lt_of_lt_of_le (Nat.lt_of_lt_of_le h.lt hgrow.size) hs.size, h.b, h.g, h.a, fun q hq => ?_⟩, ?_⟩
  · by_cases e1 : q = p
    · rw [if_pos e1]
      simp [Value.ownBlock]
      rcases hat with e | e
      · intro e2; rw [e2] at e; exact h.s p hp e
      · omega
    · rw [if_neg e1]; exact h.s q hq
  · rw [hs.block x (Nat.lt_of_lt_of_le h.lt hgrow.size) (by have := h.g; simpa using this), hgrow.block x h.lt (Ne.symm (h.s p hp))]

theorem Fix.row {x : Nat} {t : TypeId} {cs : List Value} (h : w9.heap[x]? = wr.heap[x]?) (hr : Row wr x t cs) : Row w9 x t cs := by
  unfold Row at *
  rw [h]; exact hr
end

end Go.Proofs.YtcmnmogmdhofcaaGreat.form
