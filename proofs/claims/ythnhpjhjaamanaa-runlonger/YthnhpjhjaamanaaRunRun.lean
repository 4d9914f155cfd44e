/- The program's own run.Run: what is wrong, or what the machine on plain numbers shows. -/
import Derived.Test.YthnhpjhjaamanaaRunLoop
import Derived.Test.YthnhpjhjaamanaaFormSame
namespace Go.Proofs.Ythnhpjhjaamanaa.form
open Go.RowKit Go.Proofs.Ythnhpjhjaamanaa.num
set_option linter.unusedVariables false
attribute [local go_sem ↓] Go.wp_at_zero Go.wp_at_succ

theorem ownWrong (v : Value) (B : List Bool) (C : List LIns) (ai : Option Addr) (nI ci : Nat) (steps : Int) (w : World) (h : ProgIs w v B C) :
    Calls Try.prog 24 #[v, .slice ai nI ci, .int .i64 steps] w fun e w' => e = .returned (.int .i64 (wrongI B C nI steps)) ∧ Below w.heap.size w w' := by
  have h0 := h
  have hs := may_same B C
  have HS : Hid (mayB B C = refMayB B C) := hs
  obtain ⟨⟨a0, c0, a1, c1, rfl, -⟩, -, -, -⟩ := h0
  have HP : Hid (ProgIs w (.agg #[.slice a0 B.length c0, .slice a1 C.length c1]) B C) := h
  clear h hs
  go_enter Try.func24, Try.ntmps24
  go_wp2_with (go_at_call 12; refine (may _ B C _ ?_).mono ?_; (exact HP.out.later ((Below.refl _ _).alloc (Nat.le_refl _) _)); rw [HS.out]; rintro e w1 ⟨rfl, hb1⟩)
  all_goals
    go_ret
    refine ⟨ret_int ?_, over_alloc hb1⟩
    unfold wrongI
    simp_all
  all_goals omega

/-- Ins that came in: whatever their number. -/
def InArg (w : World) (iv : Value) (I : List Int) : Prop :=
  ∃ ai cap, iv = .slice ai I.length cap ∧ I.length ≤ cap ∧ I.length ≤ 9223372036854775807 ∧ (∀ j, j < I.length → 0 ≤ I.getD j 0 ∧ I.getD j 0 < 4294967296) ∧
    (0 < I.length → ∃ b o, ai = some ⟨b, o, none⟩ ∧ b < w.heap.size ∧ ∀ j, j < I.length → w.cell? ⟨b, o + j, none⟩ = some (.int .u32 (I.getD j 0)))

theorem InArg.later {w w' : World} {iv : Value} {I : List Int} (h : InArg w iv I) (hb : Below w.heap.size w w') : InArg w' iv I := by
  obtain ⟨ai, cap, e, h1, h2, h3, h4⟩ := h
  refine ⟨ai, cap, e, h1, h2, h3, fun h0 => ?_⟩
  obtain ⟨b, o, e2, hlt, hc⟩ := h4 h0
  exact ⟨b, o, e2, Nat.lt_of_lt_of_le hlt hb.size, fun j hj => step_cell hb (hc j hj)⟩

theorem InArg.ins {w w' : World} {iv : Value} {I : List Int} {mb base : Nat} (h : InArg w iv I) (hb : Below w.heap.size w w') (h40 : I.length ≤ 40) (hm : w.heap.size ≤ mb) (hz : w.heap.size ≤ base) : InsIs mb base w' iv I := by
  obtain ⟨ai, cap, e, h1, h2, h3, h4⟩ := h
  refine ⟨ai, cap, e, h1, h40, h3, fun h0 => ?_⟩
  obtain ⟨b, o, e2, hlt, hc⟩ := h4 h0
  exact ⟨b, o, e2, by omega, by omega, fun j hj => step_cell hb (hc j hj)⟩

theorem InArg.out {w : World} {iv : Value} {I : List Int} (h : InArg w iv I) (h40 : I.length ≤ 40) : OutIs w iv I := by
  obtain ⟨ai, cap, e, h1, h2, h3, h4⟩ := h
  exact ⟨ai, cap, e, by omega, h4⟩

/-- What is shown. -/
def resM (B : List Bool) (C : List LIns) (I : List Int) (steps : Int) : Mac := if wrongI B C I.length steps = 0 then playM B C I steps.toNat else ⟨0, [], 0, [], 0, 0⟩

theorem wrong_zero {B : List Bool} {C : List LIns} {nI : Nat} {steps : Int} (h : wrongI B C nI steps = 0) : refMayB B C = true ∧ nI ≤ 40 ∧ 0 ≤ steps ∧ steps ≤ 3000 := by
  unfold wrongI at h
  split at h
  · omega
  split at h
  · omega
  split at h
  · omega
  · rename_i h1 h2 h3
    exact ⟨by simpa using h1, by omega, by omega, by omega⟩

theorem arr_start (n : Nat) (h : n ≤ 12) : arr (List.replicate n 0) = List.replicate 12 0 := by
  unfold arr
  rw [List.length_replicate, List.replicate_append_replicate, show n + (12 - n) = 12 by omega]

theorem own_mono {w : World} {b : Nat} {e : TypeId} : w.ownsRow b e 1 (.slice none 0 0) 0 [] := World.ownsRow_nil _ _ _ _

/-- A machine that has just been made. -/
theorem ms_start {w w' : World} {iv : Value} {I : List Int} {mb base nB : Nat} (h : InArg w iv I) (hb : Below w.heap.size w w') (h40 : I.length ≤ 40) (hm : w.heap.size ≤ mb) (hlt : mb < base) (hz : base ≤ w'.heap.size) (h12 : nB ≤ 12)
    (hr : Row w' mb 52 (macV 0 0 0 (.slice none 0 0) iv (List.replicate 12 0))) : MS mb base (arr (Mac.start nB).temps) (.slice none 0 0) [] 0 0 iv I 0 w' := by
  have e : arr (Mac.start nB).temps = List.replicate 12 0 := arr_start nB h12
  rw [e]
  refine ⟨hr, by simp, hlt, hz, own_mono, h.ins hb h40 hm (by omega), fun j => ?_⟩
  have : (List.replicate 12 (0 : Int)).getD j 0 = 0 := by
    rcases (show j = 0 ∨ j = 1 ∨ j = 2 ∨ j = 3 ∨ j = 4 ∨ j = 5 ∨ j = 6 ∨ j = 7 ∨ j = 8 ∨ j = 9 ∨ j = 10 ∨ j = 11 ∨ 12 ≤ j by omega) with h | h | h | h | h | h | h | h | h | h | h | h | h
    case inr.inr.inr.inr.inr.inr.inr.inr.inr.inr.inr.inr => rw [List.getD_eq_getElem?_getD, List.getElem?_eq_none (by simpa using h)]; rfl
    all_goals subst h; rfl
  rw [this]
  exact ⟨by omega, by omega⟩

set_option maxRecDepth 100000 in
set_option maxHeartbeats 1000000 in
theorem runRun (v : Value) (B : List Bool) (C : List LIns) (iv : Value) (I : List Int) (steps : Int) (w : World) (h : ProgIs w v B C) (hI : InArg w iv I) :
    Calls Try.prog 14 #[v, iv, .int .i64 steps] w fun e w' =>
      (∃ sv, e = .returned (.tuple #[sv, .int .i64 (wrongI B C I.length steps)]) ∧ ShownIs w' sv (resM B C I steps).state (resM B C I steps).out (resM B C I steps).steps) ∧ Below w.heap.size w w' := by
  have HIA : Hid (InArg w iv I) := hI
  have h0 := h
  obtain ⟨⟨a0, c0, a1, c1, rfl, hh⟩, -, -, hnum⟩ := h0
  have HNUM : Hid _ := hnum
  have HH : Hid _ := hh
  have HP : Hid (ProgIs w (.agg #[.slice a0 B.length c0, .slice a1 C.length c1]) B C) := h
  obtain ⟨ai, ci, rfl, hcap, -, -, -⟩ := hI
  clear h hh hnum hcap
  obtain ⟨x, hx⟩ : ∃ x, x = wrongI B C I.length steps := ⟨_, rfl⟩
  rw [← hx]
  have HX : Hid (wrongI B C I.length steps = x) := hx.symm
  clear hx
  have HW : Hid (Below w.heap.size w ((w.alloc (.cells #[.slice a0 B.length c0, .slice a1 C.length c1] 31)).alloc (.cells #[.int .i64 0, .slice none 0 0, .int .i64 0] 35))) := ((Below.refl _ _).alloc (Nat.le_refl _) _).alloc (by simp) _
  by_cases hx0 : x = 0
  case neg =>
    have e1 : (x != 0) = true := by simp [hx0]
    go_enter Try.func14, Try.ntmps14
    go_wp2_with (go_at_call 24; refine (ownWrong _ B C _ _ _ _ _ (HP.out.later HW.out)).mono ?_; rw [HX.out]; rintro e w1 ⟨rfl, hb1⟩; have hr1 := (Row.new (w.alloc (.cells #[.slice a0 B.length c0, .slice a1 C.length c1] 31)) 35 [.int .i64 0, .slice none 0 0, .int .i64 0]).below hb1; simp at hr1; have f0 := hr1.frozen 0; have f1 := hr1.frozen 1; have f2 := hr1.frozen 2; have r0 := hr1.cell 0; have r1 := hr1.cell 1; have r2 := hr1.cell 2; simp at r0 r1 r2; have HR1 : Hid (Row w1 (w.heap.size + 1) 35 [.int .i64 0, .slice none 0 0, .int .i64 0]) := hr1; clear hr1)
    have r3 := ((HR1.out.set 0 (.int .i64 0)).set 1 (.slice none 0 0)).set 2 (.int .i64 0)
    have g0 := r3.cell 0
    have g1 := r3.cell 1
    have g2 := r3.cell 2
    simp at g0 g1 g2
    refine bodyPost_ret (v := .tuple #[.agg #[.int .i64 0, .slice none 0 0, .int .i64 0], .int .i64 x]) ?_ rfl ⟨⟨_, rfl, ?_⟩, ?_⟩
    · simp [results, Try.results14, go_sem, g0, g1, g2]
    · have e : resM B C I steps = ⟨0, [], 0, [], 0, 0⟩ := by unfold resM; rw [HX.out, if_neg hx0]
      rw [e]
      exact ⟨_, rfl, none, 0, rfl, by simp, fun hh => absurd hh (by simp)⟩
    · exact (((step_below hb1 HW.out).setCell (by dsimp only; omega) _).setCell (by dsimp only; omega) _).setCell (by dsimp only; omega) _
  subst hx0
  obtain ⟨hmay, h40, hs0, hs1⟩ := wrong_zero HX.out
  have hsz : sizesB B C = true := by unfold refMayB at hmay; simp only [Bool.and_eq_true] at hmay; exact hmay.1
  obtain ⟨s1, s2, s3, s4⟩ := sizes_of hsz
  obtain ⟨b0, o0, b1, o1, rfl, rfl, hheld⟩ := HH.out s1 s3
  have HHE : Hid (Held w b0 o0 b1 o1 B C) := hheld
  have HOK : Hid (∀ k, k < C.length → InsOk B.length C.length (C.getD k .zero)) := all_insOk hmay HNUM.out
  have hinsB : ∀ k, k < C.length → insB B C.length (C.getD k .zero) = true := by
    intro k hk
    unfold refMayB at hmay
    simp only [Bool.and_eq_true] at hmay
    exact List.all_eq_true.1 hmay.2 (C.getD k .zero) (by simp [List.getD, hk])
  have HINS : Hid (∀ k, k < C.length → insB B C.length (C.getD k .zero) = true) := hinsB
  have HIB : Hid (∀ j, j < I.length → 0 ≤ I.getD j 0 ∧ I.getD j 0 < 4294967296) := by
    obtain ⟨_, _, _, _, _, h3, _⟩ := HIA.out
    exact h3
  obtain ⟨n, hn⟩ : ∃ n : Nat, steps = n := Int.eq_ofNat_of_zero_le hs0
  subst hn
  have hres : resM B C I n = playM B C I n := by unfold resM; rw [if_pos HX.out]; simp
  have HRES : Hid (resM B C I n = playM B C I n) := hres
  clear hmay hsz hheld hinsB hres HNUM HH
  go_enter Try.func14, Try.ntmps14
  go_wp2_with (first
    | (go_at_call 24; refine (ownWrong _ B C _ _ _ _ _ (HP.out.later HW.out)).mono ?_; rw [HX.out]; rintro e w1 ⟨rfl, hb1⟩; have hr1 := (Row.new (w.alloc (.cells #[.slice (some ⟨b0, o0, none⟩) B.length c0, .slice (some ⟨b1, o1, none⟩) C.length c1] 31)) 35 [.int .i64 0, .slice none 0 0, .int .i64 0]).below hb1; simp at hr1; have HR1 : Hid (Row w1 (w.heap.size + 1) 35 [.int .i64 0, .slice none 0 0, .int .i64 0]) := hr1; have cp1 : w1.cell? ⟨w.heap.size, 1, none⟩ = some (.slice (some ⟨b1, o1, none⟩) C.length c1) := step_cell hb1 (by simp [go_sem]); have HB1 : Hid (Below w.heap.size w w1) := step_below hb1 HW.out; have hz1 : w.heap.size + 1 < w1.heap.size := hr1.lt; have hz0 : w.heap.size < w1.heap.size := (by omega); clear hr1 hb1)
    | (go_at_call 26; refine (deeds w1.heap.size b0 o0 b1 o1 c1 B.length B C _ s4 ((HHE.out.later HB1.out).later ((Below.refl _ _).alloc (Nat.le_refl _) _)) HOK.out s2 (fun k hk => known_of (HINS.out k hk)) (by simp)).mono ?_; rintro e w2 ⟨rfl, cs, hds⟩; have HDS : Hid _ := hds; clear hds))
  have hds : DS (w1.alloc (.cells (macV 0 0 0 (.slice none 0 0) (.slice ai I.length ci) (List.replicate 12 0)).toArray 52)) w1.heap.size C C.length cs w2 := HDS.out
  have hwz : (w1.alloc (.cells (macV 0 0 0 (.slice none 0 0) (.slice ai I.length ci) (List.replicate 12 0)).toArray 52)).heap.size = w1.heap.size + 1 := by simp
  have hmr : Row w2 w1.heap.size 52 (macV 0 0 0 (.slice none 0 0) (.slice ai I.length ci) (List.replicate 12 0)) := (Row.new w1 _ _).below hds.bel
  have hb12 : Below w1.heap.size w1 w2 := over_alloc hds.bel
  have hbw2 : Below w.heap.size w w2 := step_below hb12 HB1.out
  have hrow := hds.row
  have hspec := hds.spec
  rw [hwz] at hrow hspec
  have hms := ms_start (nB := B.length) (mb := w1.heap.size) (base := w2.heap.size) HIA.out hbw2 h40 (by omega) hmr.lt (Nat.le_refl _) s2 hmr
  have HR2 : Hid (Row w2 (w.heap.size + 1) 35 [.int .i64 0, .slice none 0 0, .int .i64 0]) := HR1.out.below hb12
  have HBW2 : Hid (Below w.heap.size w w2) := hbw2
  have hz2 : w1.heap.size < w2.heap.size := hmr.lt
  go_at_call 25
  refine (goOn w1.heap.size (w1.heap.size + 1) n B C I cs _ _ w2 w2 s2 s3 s4 (by omega) HOK.out HINS.out HIB.out hrow hds.len hspec hrow.lt (by omega) hms).mono ?_
  rintro e w3 ⟨rfl, ⟨ts, ov, iv', I', pc, hms3⟩, hran⟩
  clear hds hmr hb12 hbw2 hrow hspec hms HDS
  obtain ⟨ao, cap, hov, hcells⟩ := own_form32 hms3.own
  subst hov
  have m0 := hms3.cst
  have m1 := hms3.cov
  have m2 := hms3.ck
  have hr3 : Row w3 (w.heap.size + 1) 35 [.int .i64 0, .slice none 0 0, .int .i64 0] := by
    have := HR2.out
    unfold Row at *
    rw [hran.block _ (by omega) (by omega)]
    exact this
  have HR3 : Hid (Row w3 (w.heap.size + 1) 35 [.int .i64 0, .slice none 0 0, .int .i64 0]) := hr3
  have f0 := hr3.frozen 0
  have f1 := hr3.frozen 1
  have f2 := hr3.frozen 2
  have r0 := hr3.cell 0
  have r1 := hr3.cell 1
  have r2 := hr3.cell 2
  simp at r0 r1 r2
  have hbw3 : Below w.heap.size w w3 := HBW2.out.trans ⟨hran.os, hran.tape, hran.output, hran.size, fun j hj => hran.block j (by have := HBW2.out.size; omega) (by omega)⟩
  have HBW3 : Hid (Below w.heap.size w w3) := hbw3
  have HCE : Hid _ := hcells
  have hl := hms3.own
  have HML : Hid ((playM B C I n).out.length ≤ 1000000) := by
    have := play_outs B C I n
    show _ ≤ _
    omega
  clear hcells hbw3 hr3 hms3 hran hl
  generalize playM B C I n = M at *
  go_wp2
  have rr := ((HR3.out.set 0 (.int .i64 M.state)).set 1 (.slice ao M.out.length cap)).set 2 (.int .i64 M.steps)
  have g0 := rr.cell 0
  have g1 := rr.cell 1
  have g2 := rr.cell 2
  simp at g0 g1 g2
  refine bodyPost_ret (v := .tuple #[.agg #[.int .i64 M.state, .slice ao M.out.length cap, .int .i64 M.steps], .int .i64 0]) ?_ rfl ⟨⟨_, rfl, ?_⟩, ?_⟩
  · simp [results, Try.results14, go_sem, g0, g1, g2]
  · rw [HRES.out]
    refine ⟨_, rfl, ao, cap, rfl, HML.out, fun hp => ?_⟩
    obtain ⟨gb, go, e, hgb, hgl, hgc⟩ := HCE.out hp
    refine ⟨gb, go, e, by simpa [World.setCell] using hgl, fun j hj => ?_⟩
    have hne : gb ≠ w.heap.size + 1 := by omega
    exact cell_other (cell_other (cell_other (hgc j hj) hne) hne) hne
  · exact ((HBW3.out.setCell (by dsimp only; omega) _).setCell (by dsimp only; omega) _).setCell (by dsimp only; omega) _
end Go.Proofs.Ythnhpjhjaamanaa.form
