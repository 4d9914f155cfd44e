/- For every program, target and places, such as may not be among them, the facts that the program tells of each instruction are those that the document's chapter on what is known says, in its order. No condition. -/
import Derived.Test.YtcmnmogmdhofcaaGreatRows
import Derived.ShutString
import Derived.Test.YtcmnmogmdhofcaaGreatF29
import Derived.Test.YtcmnmogmdhofcaaGreatF09
import Derived.Test.YtcmnmogmdhofcaaGreatF22
import Derived.Test.YtcmnmogmdhofcaaGreatF08
import Derived.Test.YtcmnmogmdhofcaaGreatF23

namespace Go.Proofs.YtcmnmogmdhofcaaGreat.form
open Go.RowKit Go.Proofs.YtcmnmogmdhofcaaGreat.num
set_option linter.unusedVariables false
attribute [local go_sem ↓] Go.wp_at_zero Go.wp_at_succ

theorem FCells.grown {w w' : World} {b : Nat} {l : List LFact} {row : Option Nat} (h : FCells w b l) (hg : w.grownBy w' row) (hb : b < w.heap.size) (hne : some b ≠ row) : FCells w' b l := by
  intro q hq
  obtain ⟨c0, c1, c2, c3, c4⟩ := h q hq
  refine ⟨?_, ?_, ?_, ?_, ?_⟩
  · rw [hg.cell_far _ (by exact hb) (by exact hne)]; exact c0
  · rw [hg.cell_far _ (by exact hb) (by exact hne)]; exact c1
  · rw [hg.cell_far _ (by exact hb) (by exact hne)]; exact c2
  · rw [hg.cell_far _ (by exact hb) (by exact hne)]; exact c3
  · rw [hg.cell_far _ (by exact hb) (by exact hne)]; exact c4

def FVal (w : World) (lo : Nat) (x : Option Nat) (y : Option Nat) (v : Value) (l : List LFact) : Prop :=
  ∃ ao cap, v = .slice ao l.length cap ∧ l.length ≤ 100000 ∧ (0 < l.length → ∃ b, ao = some ⟨b, 0, none⟩ ∧ lo ≤ b ∧ b < w.heap.size ∧ x ≠ some b ∧ y ≠ some b ∧ FCells w b l)
theorem FVal.grown {w w' : World} {lo : Nat} {x y x' y' row : Option Nat} {v : Value} {l : List LFact} (h : FVal w lo x y v l) (hg : w.grownBy w' row) (hrow : row = x ∨ row = y) (hx : ∀ b, b < w.heap.size → x ≠ some b → y ≠ some b → x' ≠ some b ∧ y' ≠ some b) : FVal w' lo x' y' v l := by
  obtain ⟨ao, cap, hv, hl, hc⟩ := h
  refine ⟨ao, cap, hv, hl, fun h0 => ?_⟩
  obtain ⟨b, e, h1, h2, h3, h4, h5⟩ := hc h0
  obtain ⟨h6, h7⟩ := hx b h2 h3 h4
  refine ⟨b, e, h1, Nat.lt_of_lt_of_le h2 hg.size, h6, h7, h5.grown hg h2 ?_⟩
  rcases hrow with hrow | hrow
  · rw [hrow]; exact Ne.symm h3
  · rw [hrow]; exact Ne.symm h4

structure FaS (w : World) (k : Nat) (vs : List Value) (Rs : List (List LFact)) (v : Value) (l : List LFact) (rv : Value) (wr : World) : Prop where
  bel : Below w.heap.size w wr
  lv : vs.length = k
  lr : Rs.length = k
  own : wr.ownsRow w.heap.size 43 1 v k vs
  cur : wr.ownsRow w.heap.size 62 5 rv l.length (l.flatMap factCs)
  apart : v.ownBlock = none ∨ v.ownBlock ≠ rv.ownBlock
  rows : ∀ j, j < k → FVal wr w.heap.size v.ownBlock rv.ownBlock (vs.getD j .nilFunc) (Rs.getD j [])

section
variable {w : World} {k : Nat} {vs : List Value} {Rs : List (List LFact)} {v : Value} {l : List LFact} {rv : Value} {wr w1 : World}

theorem FaS.below (h : FaS w k vs Rs v l rv wr) (hb : Below wr.heap.size wr w1) : FaS w k vs Rs v l rv w1 := by
  have hg : wr.grownBy w1 none := ⟨hb.os, hb.tape, hb.output, hb.size, fun j hj _ => hb.block j hj⟩
  refine ⟨step_below hb h.bel, h.lv, h.lr, World.ownsRow.kept h.own hg (by cases v.ownBlock <;> simp), World.ownsRow.kept h.cur hg (by cases rv.ownBlock <;> simp), h.apart, fun j hj => ?_⟩
  obtain ⟨ao, cap, hv, hl, hc⟩ := h.rows j hj
  refine ⟨ao, cap, hv, hl, fun h0 => ?_⟩
  obtain ⟨b, e, h1, h2, h3, h4, h5⟩ := hc h0
  exact ⟨b, e, h1, Nat.lt_of_lt_of_le h2 hb.size, h3, h4, h5.grown hg h2 (by simp)⟩

theorem FaS.fact (h : FaS w k vs Rs v l rv wr) {f : LFact} {g cap : Nat} (hown : w1.ownsRow w.heap.size 62 5 (.slice (some ⟨g, 0, none⟩) (l.length + 1) cap) (l.length + 1) (l.flatMap factCs ++ factCs f)) (hgrow : wr.grownBy w1 rv.ownBlock) (hat : rv.ownBlock = some g ∨ g = wr.heap.size) :
    FaS w k vs Rs v (l ++ [f]) (.slice (some ⟨g, 0, none⟩) (l.length + 1) cap) w1 := by
  have hz := h.bel.size
  have hvb : ∀ b, v.ownBlock = some b → b < wr.heap.size := fun b e => (World.ownsRow.lt h.own b e).2
  refine ⟨h.bel.grown hgrow (by omega) (fun j hj => by have := (World.ownsRow.lt h.cur _ hj).1; omega), h.lv, h.lr, World.ownsRow.kept h.own hgrow h.apart, by simpa using hown, ?_, fun j hj => (h.rows j hj).grown hgrow (Or.inr rfl) (fun b hb hx hy => ⟨hx, ?_⟩)⟩
  · cases hv : v.ownBlock with
    | none => exact Or.inl rfl
    | some b =>
      refine Or.inr ?_
      simp only [Value.ownBlock, ne_eq, Option.some.injEq]
      intro e
      rcases hat with hat | hat
      · rcases h.apart with ha | ha
        · rw [hv] at ha; exact absurd ha (by simp)
        · rw [hv, hat, e] at ha; exact ha rfl
      · have := hvb b hv; omega
  · simp only [Value.ownBlock, ne_eq, Option.some.injEq]
    intro e
    rcases hat with hat | hat
    · rw [← e] at hy; exact hy hat
    · omega

theorem FaS.push (h : FaS w k vs Rs v l rv wr) (hl : l.length ≤ 100000) {g cap : Nat} (hown : w1.ownsRow w.heap.size 43 1 (.slice (some ⟨g, 0, none⟩) (k + 1) cap) (k + 1) (vs ++ [rv])) (hgrow : wr.grownBy w1 v.ownBlock) (hat : v.ownBlock = some g ∨ g = wr.heap.size) :
    FaS w (k + 1) (vs ++ [rv]) (Rs ++ [l]) (.slice (some ⟨g, 0, none⟩) (k + 1) cap) [] (.slice none 0 0) w1 := by
  have hz := h.bel.size
  have hng : ∀ b, b < wr.heap.size → v.ownBlock ≠ some b → (some g : Option Nat) ≠ some b := fun b hb hn e => by
    simp at e
    rcases hat with hat | hat
    · rw [e] at hat; exact hn hat
    · omega
  refine ⟨h.bel.grown hgrow (by omega) (fun j hj => by have := (World.ownsRow.lt h.own _ hj).1; omega), by simp [h.lv], by simp [h.lr], hown, World.ownsRow_nil _ _ _ _, Or.inr (by simp [Value.ownBlock]), fun j hj => ?_⟩
  by_cases hjk : j < k
  · rw [show (vs ++ [rv]).getD j .nilFunc = vs.getD j .nilFunc by simp [List.getD, List.getElem?_append_left (show j < vs.length by rw [h.lv]; exact hjk)], show (Rs ++ [l]).getD j [] = Rs.getD j [] by simp [List.getD, List.getElem?_append_left (show j < Rs.length by rw [h.lr]; exact hjk)]]
    exact (h.rows j hjk).grown hgrow (Or.inl rfl) (fun b hb hx hy => ⟨hng b hb hx, by simp [Value.ownBlock]⟩)
  · obtain rfl : j = k := by omega
    rw [show (vs ++ [rv]).getD j .nilFunc = rv by simp [List.getD, h.lv], show (Rs ++ [l]).getD j [] = l by simp [List.getD, h.lr]]
    by_cases hn : 0 < l.length
    · obtain ⟨g0, cap0, e, hb0, hlt0⟩ := h.cur.form hn
      have hcur := h.cur
      rw [e] at hcur
      have hne : v.ownBlock ≠ some g0 := fun e2 => by
        rcases h.apart with ha | ha
        · rw [ha] at e2; exact absurd e2 (by simp)
        · rw [e2, e] at ha; exact ha rfl
      exact ⟨_, cap0, e, hl, fun _ => ⟨g0, rfl, hb0, Nat.lt_of_lt_of_le hlt0 hgrow.size, hng g0 hlt0 hne, by simp [Value.ownBlock], (own_fcells hcur).grown hgrow hlt0 (Ne.symm hne)⟩⟩
    · have hl0 : l = [] := List.length_eq_zero_iff.1 (by omega)
      subst hl0
      rcases h.cur.2 with ⟨e, _⟩ | ⟨g0, cap0, cur, e, _⟩
      · exact ⟨none, 0, e, by simp, fun hh => absurd hh (by simp)⟩
      · exact ⟨_, cap0, e, by simp, fun hh => absurd hh (by simp)⟩

theorem FaS.mat (h : FaS w k vs Rs v l rv wr) (hk : k ≤ 40) : FMatIs wr v Rs := by
  by_cases hn : 0 < k
  · obtain ⟨g, cap, rfl, hbg, hlt⟩ := h.own.form hn
    refine ⟨_, cap, by rw [h.lr], by rw [h.lr]; omega, fun _ => ⟨g, 0, rfl, hlt, fun j hj => ?_⟩⟩
    rw [h.lr] at hj
    obtain ⟨ao, cp, h1, h2, h3⟩ := h.rows j hj
    refine ⟨vs.getD j .nilFunc, ?_, ao, cp, h1, by omega, fun h0 => ?_⟩
    · rw [Nat.zero_add, World.ownsRow.cellAt h.own j (by omega)]
      simp [List.getD, h.lv, hj]
    · obtain ⟨b, e, _, hb, _, _, hc⟩ := h3 h0
      exact ⟨b, 0, e, hb, fun q hq => by simpa using hc q hq⟩
  · have hk0 : k = 0 := by omega
    subst hk0
    have hR : Rs = [] := List.length_eq_zero_iff.1 h.lr
    subst hR
    rcases h.own.2 with ⟨rfl, _⟩ | ⟨g, cap, cur, rfl, _⟩
    · exact ⟨none, 0, rfl, by simp, fun hh => absurd hh (by simp)⟩
    · exact ⟨_, cap, rfl, by simp, fun hh => absurd hh (by simp)⟩
end

theorem FaS.start (w : World) : FaS w 0 [] [] (.slice none 0 0) [] (.slice none 0 0) w :=
  ⟨Below.refl _ _, rfl, rfl, World.ownsRow_nil _ _ _ _, World.ownsRow_nil _ _ _ _, Or.inl rfl, fun j hj => absurd hj (by omega)⟩

theorem FaS.form {w : World} {k : Nat} {vs : List Value} {Rs : List (List LFact)} {v : Value} {l : List LFact} {rv : Value} {wr : World} (h : FaS w k vs Rs v l rv wr) : ∃ ao cap, rv = .slice ao l.length cap := by
  rcases h.cur.2 with ⟨e, hl⟩ | ⟨g0, cap0, cur, e, _⟩
  · have hl0 : l.length = 0 := by simpa using hl
    exact ⟨none, 0, by rw [e, hl0]⟩
  · exact ⟨_, cap0, e⟩

def frow (F : List LFact) (come L : List Bool) (k m : Nat) : List LFact := if come.getD k false = true then rowOfM F (rowF F.length L k) m else []
def FactsAns (B : List Bool) (C : List LIns) (s slots : Int) (R : List LRow) (e : Ending) (w : World) : Prop := ∃ v Rs, e = .returned v ∧ FMatIs w v Rs ∧ FactsMat B C s slots R Rs

set_option maxRecDepth 100000 in
theorem facts8 (b0 o0 c0 b1 o1 c1 b2 o2 c2 : Nat) (B : List Bool) (C : List LIns) (s slots : Nat) (R : List LRow) (w : World) (h : Held w b0 o0 b1 o1 B C) (hr : RowsHeld w b2 o2 R) (hn : ∀ i, i < C.length → 0 ≤ (C.getD i .zero).n ∧ (C.getD i .zero).n < 4294967296) (hRl : R.length ≤ 9223372036854775807)
    (hmay : placeMayB B C s slots R = true) (hOF : OfSpec w b0 o0 c0 b1 o1 c1 B C s slots) :
    Calls Tryz.prog 7 #[progV b0 o0 B.length c0 b1 o1 C.length c1, targetV s, .agg #[.int .i64 slots, .slice (some ⟨b2, o2, none⟩) R.length c2]] w fun e w' => FactsAns B C s slots R e w' ∧ Below w.heap.size w w' := by
  have hm2 := hmay
  unfold placeMayB at hm2
  simp only [Bool.and_eq_true, Bool.not_eq_true', decide_eq_true_eq, decide_eq_false_iff_not, List.all_eq_true, List.mem_range] at hm2
  obtain ⟨⟨⟨⟨⟨h1, h2⟩, h3⟩, h4⟩, h5⟩, h6⟩ := hm2
  have hs := target_of h2
  have hsz : sizesB B C = true := by unfold refMayB at h1; simp only [Bool.and_eq_true] at h1; exact h1.1
  obtain ⟨s1, s2, s3, s4⟩ := sizes_of hsz
  obtain ⟨F, hF⟩ : ∃ x, x = allF B (numsL C) s slots := ⟨_, rfl⟩
  have HSO : Hid (F.Pairwise factLt) := by rw [hF]; exact all_sorted (nums_sorted C) s slots
  have HSE : Hid (∀ (wx : World) (ga ca gs cs : Nat) (ao4 : Option Addr) (n4 c4 : Nat) (st : LPlace → Nat), Below w.heap.size w wx → FWorld wx s slots F ga gs st → Calls Tryz.prog 19 #[.agg #[.slice (some ⟨b0, o0, none⟩) B.length c0, .slice (some ⟨b1, o1, none⟩) C.length c1, .slice (some ⟨ga, 0, none⟩) F.length ca, .slice (some ⟨gs, 0, none⟩) 4 cs, .slice ao4 n4 c4], .agg #[.int .i64 slots, .slice (some ⟨b2, o2, none⟩) R.length c2]] wx fun e w' => SetsAns B C s slots R F e w' ∧ Below wx.heap.size wx w') := by
    rw [hF]
    exact fun wx ga ca gs cs ao4 n4 c4 st hb hf => sets8 b0 o0 c0 b1 o1 c1 ga ca gs cs ao4 n4 c4 b2 o2 c2 B C s slots R _ wx (h.later hb) (hr.later hb) h5 s4 s3 (all_insOk h1 hn) hf.facts (all_sorted (nums_sorted C) s slots) (all_ok (by omega) (by omega)) (thruSpec hf hmay)
  have HOF : Hid (∀ wx : World, Below w.heap.size w wx → Calls Tryz.prog 18 #[.agg #[.slice (some ⟨b0, o0, none⟩) B.length c0, .slice (some ⟨b1, o1, none⟩) C.length c1], .agg #[.int .i64 s], .int .i64 slots] wx fun e w' => (∃ ga ca gs cs ao4 n4 c4 st, e = .returned (fwV (.slice (some ⟨b0, o0, none⟩) B.length c0) (.slice (some ⟨b1, o1, none⟩) C.length c1) ga F.length ca gs cs (.slice ao4 n4 c4)) ∧ FWorld w' s slots F ga gs st) ∧ Below wx.heap.size wx w') := by rw [hF]; exact hOF
  have hC40 : C.length ≤ 40 := by omega
  clear h hr hn hRl hmay hOF h1 h2 h3 h4 h5 h6 hs hsz s1 s2 s3 s4 hF
  have HB3 : Hid (∀ o1 o2 o3 : Obj, Below w.heap.size w (((w.alloc o1).alloc o2).alloc o3)) := fun o1 o2 o3 => (((Below.refl _ _).alloc (Nat.le_refl _) _).alloc (by simp) _).alloc (by simp; omega) _
  unfold progV targetV
  go_enter Tryz.func7, Tryz.ntmps7
  go_wp2_with (first
    | (go_at_call 18; refine (HOF.out _ (HB3.out _ _ _)).mono ?_; rintro e w2 ⟨⟨ga, ca, gs, cs, ao4, n4, c4, st, rfl, hfw⟩, hb2⟩; unfold fwV; have HFW : Hid (FWorld w2 s slots F ga gs st) := hfw; have HB2 : Hid (Below w.heap.size w w2) := step_below hb2 (HB3.out _ _ _); have r0' : w2.cell? ⟨w.heap.size + 1 + 1, 0, none⟩ = some (.int .i64 slots) := step_cell hb2 (by simp [go_sem]); have r1' : w2.cell? ⟨w.heap.size + 1 + 1, 1, none⟩ = some (.slice (some ⟨b2, o2, none⟩) R.length c2) := step_cell hb2 (by simp [go_sem]); have zz : w.heap.size + 1 + 1 < w2.heap.size := World.block_lt_of_cell? w2 _ r0'; clear hb2 hfw)
    | (go_at_call 19; refine (HSE.out _ ga ca gs cs ao4 n4 c4 st (step_below ((Below.refl _ _).alloc (Nat.le_refl _) _) HB2.out) (HFW.out.later ((Below.refl _ _).alloc (Nat.le_refl _) _))).mono ?_; rintro e w3 ⟨⟨T, Cb, rb, come, L, t, rfl, hmat, hrowC, hcl, hfin⟩, hb3⟩; have HFI : Hid (FinK B C s slots R F come L t) := hfin; have HMT : Hid (MatR T rb F.length C.length L w3) := hmat; have HRC : Hid (Row w3 Cb 4 (come.map Value.bool)) := hrowC; have HCL : Hid (come.length = C.length) := hcl; have a0 : w3.cell? ⟨w2.heap.size, 2, none⟩ = some (.slice (some ⟨ga, 0, none⟩) F.length ca) := step_cell hb3 (by simp [go_sem]); have HF3 : Hid (FWorld w3 s slots F ga gs st) := (HFW.out.later ((Below.refl _ _).alloc (Nat.le_refl _) _)).later hb3; have HB3' : Hid (Below w.heap.size w w3) := step_below hb3 (step_below ((Below.refl _ _).alloc (Nat.le_refl _) _) HB2.out); clear hb3 hfin hmat hrowC hcl)
    | fail)
  have hT3 : ∀ k, k < C.length → T < w3.heap.size := fun k hk => World.block_lt_of_cell? w3 _ (HMT.out.top k hk)
  have HT3 : Hid (∀ k, k < C.length → T < w3.heap.size) := hT3
  have hz2 : w2.heap.size < w3.heap.size := World.block_lt_of_cell? w3 _ a0
  have hga : ga < w3.heap.size := HF3.out.facts.lt
  have hFl : F.length ≤ 100000 := HF3.out.facts.len
  have hCb : Cb < w3.heap.size := HRC.out.lt
  have HA0 : Hid (w3.cell? ⟨w2.heap.size, 2, none⟩ = some (.slice (some ⟨ga, 0, none⟩) F.length ca)) := a0
  have y2 : (C.length : Int) ≤ 40 := by omega
  have y3 : (F.length : Int) ≤ 100000 := by omega
  clear hT3 a0 r0' r1'
  go_loopw [11, 12] (fun v kv wr => ∃ (k : Nat) (vs : List Value) (Rs : List (List LFact)) (v0 : Value), v0 = v ∧ kv = .int .i64 k ∧ k ≤ C.length ∧ FaS w3 k vs Rs v [] (.slice none 0 0) wr ∧ (∀ j, j < k → Rs.getD j [] = frow F come L j F.length)) (fun _ kv _ => C.length - (intOf kv).toNat)
  case atStart => exact ⟨0, [], [], _, rfl, rfl, by omega, FaS.start _, fun j hj => absurd hj (by omega)⟩
  case round =>
    obtain ⟨k, vs, Rs, v, rfl, rfl, hk, ho, hrs⟩ := hrel
    obtain ⟨wo, hwo⟩ : ∃ x, x = wr := ⟨_, rfl⟩
    subst hwo
    have HO : Hid (FaS w3 k vs Rs v [] (.slice none 0 0) wo) := ho
    have HRS : Hid (∀ j, j < k → Rs.getD j [] = frow F come L j F.length) := hrs
    clear ho hrs
    by_cases hlt : k < C.length
    case neg =>
      have e1 : ¬ (k : Int) < (C.length : Int) := by omega
      go_wp2
      go_ret
      obtain rfl : k = C.length := by omega
      refine ⟨⟨v, Rs, rfl, HO.out.mat hC40, HO.out.lr, fun k hk hr => ?_, fun k hk hr => ?_⟩, step_below HO.out.bel HB3'.out⟩
      · rw [HRS.out k hk, frow, if_pos ((HFI.out.1 k hk).2 hr)]
        exact ⟨rowOfM_sorted HSO.out, fun f => rowOfM_mem.trans (HFI.out.2.1 k f hk hr)⟩
      · rw [HRS.out k hk, frow, if_neg (fun h => hr ((HFI.out.1 k hk).1 h))]
    have e1 : (k : Int) < (C.length : Int) := by omega
    have e0 : (0 : Int) ≤ (k : Int) := by omega
    go_wp2
    go_loopw [13, 14] (fun rv iv wr2 => ∃ (i : Nat) (l : List LFact) (rv0 : Value), rv0 = rv ∧ iv = .int .i64 i ∧ i ≤ F.length ∧ l = frow F come L k i ∧ FaS w3 k vs Rs v l rv wr2) (fun _ iv _ => F.length - (intOf iv).toNat)
    case atStart =>
      refine ⟨0, [], _, rfl, rfl, by omega, ?_, HO.out⟩
      unfold frow
      split
      · rfl
      · rfl
    case round =>
      obtain ⟨i, l, rv, rfl, rfl, hi, hl, hfa⟩ := hrel
      obtain ⟨wi, hwi⟩ : ∃ x, x = wr := ⟨_, rfl⟩
      subst hwi
      have HL : Hid (l = frow F come L k i) := hl
      have HFA : Hid (FaS w3 k vs Rs v l rv wi) := hfa
      have hll : l.length ≤ i := by rw [hl]; unfold frow; split; exact rowOfM_len _ _ _; simp
      have q0 := step_cell hfa.bel HA0.out
      have q1 := step_cell hfa.bel (HMT.out.top k hlt)
      have hzi := hfa.bel.size
      have zT := HT3.out k hlt
      have hcome : wi.cell? ⟨Cb, k, none⟩ = some (.bool (come.getD k false)) := by
        refine step_cell hfa.bel ?_
        rw [HRC.out.cell]; simp [List.getD, HCL.out, hlt]
      clear hl hfa
      have hstop : frow F come L k i = frow F come L k F.length → True := fun _ => trivial
      clear hstop
      by_cases hgo : i < F.length ∧ come.getD k false = true
      case neg =>
        have hle : l = frow F come L k F.length := by
          rw [HL.out]
          by_cases hc : come.getD k false = true
          · have hnl : ¬ i < F.length := fun h => hgo ⟨h, hc⟩
            obtain rfl : i = F.length := by omega
            rfl
          · unfold frow; rw [if_neg hc, if_neg hc]
        have HLE : Hid (l = frow F come L k F.length) := hle
        clear hle
        obtain ⟨t0', hi0, hy0, hy1, hy2⟩ := info_parts infFactRow8
        obtain ⟨rao, rcap, rfl⟩ := HFA.out.form
        have hdone : ∀ (g9 cap9 : Nat) (w9 : World), w9.ownsRow w3.heap.size 43 1 (.slice (some ⟨g9, 0, none⟩) (k + 1) cap9) (k + 1) (vs ++ [.slice rao l.length rcap]) → (wi.alloc (.cells #[.slice rao l.length rcap] 43)).grownBy w9 v.ownBlock → (v.ownBlock = some g9 ∨ g9 = wi.heap.size + 1) → ∃ (k_1 : Nat) (vs_1 : List Value) (Rs_1 : List (List LFact)) (v0 : Value), v0 = .slice (some ⟨g9, 0, none⟩) (k + 1) cap9 ∧ Value.int .i64 ((k : Int) + 1) = .int .i64 k_1 ∧ k_1 ≤ C.length ∧ FaS w3 k_1 vs_1 Rs_1 (.slice (some ⟨g9, 0, none⟩) (k + 1) cap9) [] (.slice none 0 0) w9 ∧ (∀ j, j < k_1 → Rs_1.getD j [] = frow F come L j F.length) := by
          intro g9 cap9 w9 hown hgrow hat
          refine ⟨k + 1, vs ++ [.slice rao l.length rcap], Rs ++ [l], _, rfl, by go_num, by omega, (HFA.out.below ((Below.refl _ _).alloc (Nat.le_refl _) _)).push (by omega) hown hgrow (by simpa using hat), fun j hj => ?_⟩
          have hlr := HFA.out.lr
          by_cases hjk : j < k
          · rw [← HRS.out j hjk]; simp [List.getD, List.getElem?_append_left (show j < Rs.length by omega)]
          · obtain rfl : j = k := by omega
            rw [← HLE.out]; simp [List.getD, hlr]
        have HDONE : Hid _ := hdone
        clear hdone
        by_cases hil : i < F.length
        · have v1 : (i : Int) < (F.length : Int) := by omega
          have hcf : come.getD k false = false := by cases h : come.getD k false with
            | true => exact absurd ⟨hil, h⟩ hgo
            | false => rfl
          rw [hcf] at hcome
          clear hcf hgo HL HLE
          go_wp2_with (at_builtin; refine wpList_append_lies _ rfl _ _ 31 rfl w3.heap.size 43 t0' (.slice none 0 0) 1 24 Tryz.underlying31 hi0 hy0 hy1 hy2 rfl (by decide) v k vs rfl (World.ownsRow.alloc HFA.out.own _) ⟨wi.heap.size, 0, none⟩ 1 1 [.slice rao l.length rcap] rfl rfl ?d1 ?d2 (by decide) ?d3 ?d4 ?d5 _ rfl ?_)
          case d1 => (intro j u hj; cases j with | zero => (simp at hj; subst hj; simp [go_sem]) | succ j => simp at hj)
          case d2 => simp [Value.oneCell']
          case d3 => unfold maxLen; omega
          case d4 => omega
          case d5 => first | omega | (simp; omega)
          intro g9 cap9 w9 hown hgrow hat hlt9
          have hP := HDONE.out g9 cap9 w9 hown hgrow (by simpa using hat)
          have HP : Hid _ := hP
          clear hP hown hgrow hat HDONE
          go_wp2
          go_roundw
          case rel => exact HP.out
          case measure => simp [intOf]; omega
        · have v1 : ¬ (i : Int) < (F.length : Int) := by omega
          clear hgo HL HLE hcome
          go_wp2_with (at_builtin; refine wpList_append_lies _ rfl _ _ 31 rfl w3.heap.size 43 t0' (.slice none 0 0) 1 24 Tryz.underlying31 hi0 hy0 hy1 hy2 rfl (by decide) v k vs rfl (World.ownsRow.alloc HFA.out.own _) ⟨wi.heap.size, 0, none⟩ 1 1 [.slice rao l.length rcap] rfl rfl ?e1 ?e2 (by decide) ?e3 ?e4 ?e5 _ rfl ?_)
          case e2 => simp [Value.oneCell']
          case e3 => unfold maxLen; omega
          case e4 => omega
          case e5 => first | omega | (simp; omega)
          intro g9 cap9 w9 hown hgrow hat hlt9
          have hP := HDONE.out g9 cap9 w9 hown hgrow (by simpa using hat)
          have HP : Hid _ := hP
          clear hP hown hgrow hat HDONE
          go_wp2
          go_roundw
          case rel => exact HP.out
          case measure => simp [intOf]; omega
      obtain ⟨hil, hct⟩ := hgo
      have v1 : (i : Int) < (F.length : Int) := by omega
      have v0 : (0 : Int) ≤ (i : Int) := by omega
      rw [hct] at hcome
      have HCT : Hid (come.getD k false = true) := hct
      have hset := step_cell HFA.out.bel (HMT.out.cell hlt hil)
      have zr : rb k < wi.heap.size := World.block_lt_of_cell? wi _ hset
      have hnext : frow F come L k (i + 1) = l ++ (if getF F.length L k i = true then [F.getD i .zero] else []) := by
        rw [HL.out]
        unfold frow
        rw [if_pos HCT.out, if_pos HCT.out, rowOfM_succ]
        have e : (rowF F.length L k).getD i false = getF F.length L k i := by simp [rowF, List.getD, hil]
        rw [e]
      have HNX : Hid (frow F come L k (i + 1) = l ++ (if getF F.length L k i = true then [F.getD i .zero] else [])) := hnext
      clear hct hnext
      obtain ⟨mk, hmk⟩ : ∃ x, x = getF F.length L k i := ⟨_, rfl⟩
      rw [← hmk] at HNX hset
      clear hmk
      cases mk with
      | false =>
        go_wp2
        go_roundw
        case rel =>
          refine ⟨i + 1, l, rv, rfl, by go_num, by omega, ?_, HFA.out⟩
          rw [HNX.out]; simp
        case measure => simp [intOf]; omega
      | true =>
        obtain ⟨f0, f1, f2, f3, f4⟩ := (HF3.out.facts.later HFA.out.bel).cells i hil
        obtain ⟨f, hf⟩ : ∃ x, x = F.getD i .zero := ⟨_, rfl⟩
        rw [← hf] at f0 f1 f2 f3 f4 HNX
        clear hf
        obtain ⟨t0', hi0, hy0, hy1, hy2⟩ := info_parts infFact8
        obtain ⟨rao, rcap, rfl⟩ := HFA.out.form
        have zga : ga < wi.heap.size := by omega
        have z2 : w2.heap.size < wi.heap.size := by omega
        go_wp2_with (at_builtin; refine wpList_append_lies _ rfl _ _ 43 rfl w3.heap.size 62 t0' (.agg #[.int .i64 0, .int .i64 0, .bool false, .int .i64 0, .int .u32 0]) 5 40 Tryz.underlying43 hi0 hy0 hy1 hy2 rfl (by decide) (.slice rao l.length rcap) l.length (l.flatMap factCs) rfl (World.ownsRow.alloc HFA.out.cur _) ⟨wi.heap.size, 0, none⟩ 1 1 (factCs f) rfl rfl ?c1 ?c2 (by decide) ?c3 ?c4 ?c5 _ rfl ?_)
        case c1 => exact fun j u hj => hj
        case c2 => simp [Value.oneCell', factCs]
        case c3 => unfold maxLen; omega
        case c4 => omega
        case c5 => first | omega | (simp; omega)
        intro g9 cap9 w9 hown hgrow hat hlt9
        have hP := (HFA.out.below ((Below.refl _ _).alloc (Nat.le_refl _) (.cells #[.int .i64 f.pl.kind, .int .i64 f.pl.n, .bool f.temp, .int .i64 f.t, .int .u32 f.n] 62))).fact (f := f) hown hgrow (by simpa using hat)
        have HP : Hid (FaS w3 k vs Rs v (l ++ [f]) (.slice (some ⟨g9, 0, none⟩) (l.length + 1) cap9) w9) := hP
        clear hP hown hgrow hat
        go_wp2
        go_roundw
        case rel =>
          refine ⟨i + 1, l ++ [f], _, rfl, by go_num, by omega, ?_, HP.out⟩
          rw [HNX.out]; simp
        case measure => simp [intOf]; omega

end Go.Proofs.YtcmnmogmdhofcaaGreat.form

/- loanbooklaw.CheckFacts, out of what the program's own check.Facts answers. -/
namespace Go.Proofs.YtcmnmogmdhofcaaGreat.checkFacts
open Go.ChangeShapes Go.WideShapes Go.ChangeAt Go.RowKit
open Go.Proofs.YtcmnmogmdhofcaaGreat.form
set_option linter.unusedVariables false

theorem own : ownKnob Tryz.prog.godebug = none := by kernel_rfl
theorem laidOut : laidOutB Tryz.prog = true := by kernel_rfl

def FactsSpec : Prop := ∀ (pv lv : Value) (B : List Bool) (C : List LIns) (s slots : Int) (R : List LRow) (w : World), ProgIs w pv B C → PlacedIs w lv slots R → RowsOk R →
  Calls Tryz.prog 4 #[pv, targetV s, lv] w fun e w' => ((placeMayB B C s slots R = false ∧ ∃ fo fc, e = .returned (.tuple #[.slice fo 0 fc, .int .i64 2])) ∨ (placeMayB B C s slots R = true ∧ ∃ fv Rs, e = .returned (.tuple #[fv, .int .i64 0]) ∧ FMatIs w' fv Rs ∧ FactsMat B C s slots R Rs)) ∧ Below w.heap.size w w'

theorem FMatIs.later {w w' : World} {v : Value} {R : List (List LFact)} (h : FMatIs w v R) (hb : Below w.heap.size w w') : FMatIs w' v R := by
  obtain ⟨ao, cap, e, h1, h2⟩ := h
  refine ⟨ao, cap, e, h1, fun hx => ?_⟩
  obtain ⟨b, o, e1, e2, e3⟩ := h2 hx
  refine ⟨b, o, e1, Nat.lt_of_lt_of_le e2 hb.size, fun k hk => ?_⟩
  obtain ⟨rv, c0, ro, rc, er, r1, r2⟩ := e3 k hk
  refine ⟨rv, step_cell hb c0, ro, rc, er, r1, fun hy => ?_⟩
  obtain ⟨bb, oo, f1, f2, f3⟩ := r2 hy
  refine ⟨bb, oo, f1, Nat.lt_of_lt_of_le f2 hb.size, fun j hj => ?_⟩
  obtain ⟨g0, g1, g2, g3, g4⟩ := f3 j hj
  exact ⟨step_cell hb g0, step_cell hb g1, step_cell hb g2, step_cell hb g3, step_cell hb g4⟩

set_option maxRecDepth 100000 in
theorem walk (factsO : FactsSpec) (pv lv : Value) (B : List Bool) (C : List LIns) (s slots : Int) (R : List LRow) (w : World) (hp : ProgIs w pv B C) (hl : PlacedIs w lv slots R) (hR : RowsOk R) :
    Calls Tryz.prog 3 #[pv, targetV s, lv] w fun e w' => e = .returned (.bool true) ∧ Below w.heap.size w w' := by
  have HTO : Hid FactsSpec := factsO
  have HRO : Hid (RowsOk R) := hR
  have h0 := hp
  obtain ⟨⟨a0, c0, a1, c1, rfl, hh⟩, -, -, hnum⟩ := h0
  have h1 := hl
  obtain ⟨ao, cap, rfl, hRl, hrr⟩ := h1
  have HH : Hid _ := hh
  have HRR : Hid _ := hrr
  have HN : Hid _ := hnum
  have HP : Hid (ProgIs w (.agg #[.slice a0 B.length c0, .slice a1 C.length c1]) B C) := hp
  have HL : Hid (PlacedIs w (.agg #[.int .i64 slots, .slice ao R.length cap]) slots R) := hl
  have HW : Hid (∀ o1 o2 o3 : Obj, Below w.heap.size w (((w.alloc o1).alloc o2).alloc o3)) := fun o1 o2 o3 => (((Below.refl _ _).alloc (Nat.le_refl _) _).alloc (by simp) _).alloc (by simp; omega) _
  clear hp hl factsO hR hh hrr hnum
  unfold targetV
  go_enter Tryz.func3, Tryz.ntmps3
  go_wp2_with fail
  go_at_call 4
  refine (HTO.out _ _ B C s slots R _ (HP.out.later (HW.out _ _ _)) (HL.out.later (HW.out _ _ _)) HRO.out).mono ?_
  rintro e w1 ⟨hans, hb1⟩
  have y0 : w1.cell? ⟨w.heap.size, 0, none⟩ = some (.slice a0 B.length c0) := step_cell hb1 (by simp [go_sem])
  have y1 : w1.cell? ⟨w.heap.size, 1, none⟩ = some (.slice a1 C.length c1) := step_cell hb1 (by simp [go_sem])
  have y2 : w1.cell? ⟨w.heap.size + 1, 0, none⟩ = some (.int .i64 s) := step_cell hb1 (by simp [go_sem])
  have y3 : w1.cell? ⟨w.heap.size + 1 + 1, 0, none⟩ = some (.int .i64 slots) := step_cell hb1 (by simp [go_sem])
  have y4 : w1.cell? ⟨w.heap.size + 1 + 1, 1, none⟩ = some (.slice ao R.length cap) := step_cell hb1 (by simp [go_sem])
  have HB1 : Hid (Below w.heap.size w w1) := step_below hb1 (HW.out _ _ _)
  clear hb1
  rcases hans with ⟨hm, fo, fc, rfl⟩ | ⟨hm, fv, Rs, rfl, hfm, hft⟩
  · have HM : Hid (placeMayB B C s slots R = false) := hm
    clear hm
    go_wp2_with (go_at_call 5; refine (may6 _ _ B C s slots R _ (HP.out.later HB1.out) (HL.out.later HB1.out)).mono ?_; rw [HM.out]; rintro e w2 ⟨rfl, hb2⟩)
    go_ret
    exact ⟨rfl, step_below hb2 HB1.out⟩
  have HFM : Hid (FMatIs w1 fv Rs) := hfm
  have HFT : Hid (FactsMat B C s slots R Rs) := hft
  have HM : Hid (placeMayB B C s slots R = true) := hm
  have hm2 := hm
  unfold placeMayB at hm2
  simp only [Bool.and_eq_true, Bool.not_eq_true', decide_eq_true_eq, decide_eq_false_iff_not] at hm2
  obtain ⟨⟨⟨⟨⟨hmm, htg⟩, hs0⟩, hs1⟩, hlen⟩, -⟩ := hm2
  have hsz : sizesB B C = true := by unfold refMayB at hmm; simp only [Bool.and_eq_true] at hmm; exact hmm.1
  obtain ⟨z1, z2, z3, z4⟩ := sizes_of hsz
  obtain ⟨u1, u2, u3⟩ := target_of htg
  obtain ⟨b0, o0, b1, o1, rfl, rfl, hheld⟩ := HH.out z1 z3
  obtain ⟨b2, o2, rfl, hrows⟩ := HRR.out (by omega)
  obtain ⟨ns, rfl⟩ : ∃ ns : Nat, s = ns := Int.eq_ofNat_of_zero_le (by omega)
  obtain ⟨nl, rfl⟩ : ∃ nl : Nat, slots = nl := Int.eq_ofNat_of_zero_le (by omega)
  have HHE : Hid (Held w b0 o0 b1 o1 B C) := hheld
  have HRW : Hid (RowsHeld w b2 o2 R) := hrows
  obtain ⟨fo, fc, rfl, -, -⟩ := hfm
  clear hm hft hheld hrows hmm htg hs0 hs1 hlen hsz
  go_wp2_with fail
  go_at_call 5
  refine (may6 _ _ B C ns nl R _ (HP.out.later HB1.out) (HL.out.later HB1.out)).mono ?_
  rw [HM.out]
  rintro e w2 ⟨rfl, hb2⟩
  have y0 := step_cell hb2 y0
  have y1 := step_cell hb2 y1
  have y2 := step_cell hb2 y2
  have y3 := step_cell hb2 y3
  have y4 := step_cell hb2 y4
  have HB2 : Hid (Below w1.heap.size w1 w2) := hb2
  have HBW : Hid (Below w.heap.size w w2) := step_below hb2 HB1.out
  clear hb2
  go_wp2_with fail
  go_at_call 7
  refine (facts8 b0 o0 c0 b1 o1 c1 b2 o2 cap B C ns nl R _ (HHE.out.later HBW.out) (HRW.out.later HBW.out) HN.out hRl HM.out (ofSpec8 (HHE.out.later HBW.out) HM.out)).mono ?_
  rintro e w3 ⟨⟨v3, Rs3, rfl, hfm3, hft3⟩, hb3⟩
  obtain rfl := HFT.out.only hft3
  have HFM3 : Hid (FMatIs w3 v3 Rs) := hfm3
  obtain ⟨fo3, fc3, rfl, -, -⟩ := hfm3
  have HB3 : Hid (Below w2.heap.size w2 w3) := hb3
  clear hft3 hb3 y0 y1 y2 y3 y4
  go_wp2_with (go_at_call 6; refine (same8 _ _ Rs _ (FMatIs.later HFM.out (step_below HB3.out HB2.out)) HFM3.out).mono ?_; rintro e w4 ⟨rfl, hb4⟩)
  go_ret
  exact ⟨rfl, step_below hb4 (step_below HB3.out HBW.out)⟩

set_option maxRecDepth 100000 in
theorem lifted (factsO : FactsSpec) (os : Os) (started : os.Started) (H : Type) (enc : TypeId × Value → H) :
    ReturnsInHanded {} Tryz.checked os 3 .any (Rows.checkFactsSpec.pre6 enc Tryz.prog Tryz.f3 Rows.checkFactsRow.domain false) (Rows.checkFactsSpec.post enc Tryz.prog Tryz.f3 false true false false) := by
  refine returnsInHanded_of_change (C := Tryz.checked) own started (by kernel_rfl) Tryz.func3
    (ChangeSpec.witness6 (enc := enc) (C := Tryz.checked) false ⟨#[], #[.agg #[.slice none 0 0, .slice none 0 0], .agg #[.int .i64 0], .agg #[.int .i64 0, .slice none 0 0]], []⟩ 8 (by kernel_rfl) (by kernel_rfl) (by kernel_rfl) (by kernel_rfl)) ?_
  intro W base args ds gs before hval0 hW hcnd _
  have hval : ∀ (j : Nat) t v, Tryz.f3.params[j]? = some t → args[j]? = some v → Value.okWide Tryz.prog W .any base t v := hval0
  have hW' := hW
  obtain ⟨p, q, hA0, hV, rfl, hfz, hnd⟩ := hW
  have hA : DataW.TrodAll enc Tryz.prog W 0 (fun _ => true) true Tryz.f3.params.toList args.toList ds p := hA0
  rw [Tryz.params3] at hA hval
  obtain ⟨v0, vs0, d0, ds0, p0, q0, hargs, rfl, rfl, h0, r0⟩ := trodAll_cons hA
  obtain ⟨v1, vs1, d1, ds1, p1, q1, rfl, rfl, rfl, h1, r1⟩ := trodAll_cons r0
  obtain ⟨v2, vs2, d2, ds2, p2, q2, rfl, rfl, rfl, h2, r2⟩ := trodAll_cons r1
  obtain ⟨rfl, rfl, rfl⟩ := trodAll_nil r2
  obtain rfl : args = #[v0, v1, v2] := by cases args; simp_all
  obtain ⟨rfl, rfl⟩ := trodVars_none hV
  have k0 := h0
  have k1 := h1
  have k2 := h2
  have lt0 : ∀ x ∈ p0, x.block < W.heap.size := by obtain ⟨m, hm⟩ := k0; exact DataW.trod_lt m _ _ _ hm
  have lt1 : ∀ x ∈ p1, x.block < W.heap.size := by obtain ⟨m, hm⟩ := k1; exact DataW.trod_lt m _ _ _ hm
  have lt2 : ∀ x ∈ p2, x.block < W.heap.size := by obtain ⟨m, hm⟩ := k2; exact DataW.trod_lt m _ _ _ hm
  obtain ⟨B, C, hP⟩ := prog_is (hval 0 25 v0 rfl rfl) h0
  obtain ⟨s, rfl, -, -⟩ := target_is (hval 1 27 v1 rfl rfl) h1
  obtain ⟨slots, R, hL, hR, -, -⟩ := placed_is (hval 2 30 v2 rfl rfl) h2
  clear hA0 hval0
  refine (walk factsO v0 v2 B C s slots R W hP hL hR).mono fun e W' ⟨he, bel⟩ => ?_
  subst he
  exact ⟨_, rfl, _, _, _, [], _, [], hW', trodAll_mk1 (shut_bool Tryz.underlying4 _),
    (trodAll_cons_mk (Below.trod laidOut (by kernel_rfl) (of_decide_eq_true (by kernel_rfl)) k0 bel lt0) (trodAll_cons_mk (Below.trod laidOut (by kernel_rfl) (of_decide_eq_true (by kernel_rfl)) k1 bel lt1) (trodAll_cons_mk (Below.trod laidOut (by kernel_rfl) (of_decide_eq_true (by kernel_rfl)) k2 bel lt2) trodAll_mk0))), rfl, bel.frame _, fun h => by cases h⟩

theorem over (factsO : FactsSpec) : Rows.checkFactsRow.holds Tryz.pinned (OpenSpec.ofChange Rows.checkFactsSpec) :=
  OpenClaim.holds_of_wide 3 Tryz.f3 rfl rfl rfl rfl rfl rfl rfl ⟨rfl, rfl, rfl, rfl, rfl⟩ rfl rfl rfl rfl rfl (by kernel_rfl) Tryz.func3 (by kernel_rfl)
    (of_decide_eq_true (by kernel_rfl)) (by unfold Func.isWrapper; first | (rw [if_pos (by decide +kernel)]; kernel_rfl) | (rw [if_neg (by decide +kernel)]; exact ⟨rfl, rfl⟩))
    (fun os started H enc _ => lifted factsO os started H enc)

end Go.Proofs.YtcmnmogmdhofcaaGreat.checkFacts

namespace Go.Proofs.YtcmnmogmdhofcaaGreat
open form

theorem factsO : checkFacts.FactsSpec := by
  intro pv lv B C s slots R w hp hl hrk
  rcases Bool.eq_false_or_eq_true (placeMayB B C s slots R) with hmay | hmay
  case inr =>
    refine (factsNo pv lv B C s slots R w hp hl hmay).mono ?_
    rintro e w' ⟨⟨fo, fc, he⟩, hb⟩
    exact ⟨Or.inl ⟨hmay, fo, fc, he⟩, hb⟩
  have hm2 := hmay
  unfold placeMayB at hm2
  simp only [Bool.and_eq_true, Bool.not_eq_true', decide_eq_true_eq, decide_eq_false_iff_not, List.all_eq_true, List.mem_range] at hm2
  obtain ⟨⟨⟨⟨⟨h1, h2⟩, h3⟩, h4⟩, h5⟩, h6⟩ := hm2
  have hs := target_of h2
  have hsz : sizesB B C = true := by unfold refMayB at h1; simp only [Bool.and_eq_true] at h1; exact h1.1
  obtain ⟨s1, s2, s3, s4⟩ := sizes_of hsz
  obtain ⟨⟨a0, c0, a1, c1, rfl, hh⟩, l0, l1, hn⟩ := hp
  obtain ⟨b0, o0, b1, o1, rfl, rfl, hH⟩ := hh s1 s3
  obtain ⟨ao, cap, rfl, hRl, hrr⟩ := hl
  obtain ⟨b2, o2, rfl, hr⟩ := hrr (by omega)
  obtain ⟨s', rfl⟩ := Int.eq_ofNat_of_zero_le (show 0 ≤ s by omega)
  obtain ⟨slots', rfl⟩ := Int.eq_ofNat_of_zero_le (show 0 ≤ slots by omega)
  refine (factsYes b0 o0 c0 b1 o1 c1 b2 o2 cap B C s' slots' R w hH hr hn hRl hmay).mono ?_
  rintro e w' ⟨⟨fv, Rs, he, h1, h2⟩, hb⟩
  exact ⟨Or.inr ⟨hmay, fv, Rs, he, h1, h2⟩, hb⟩

theorem checkFacts_holds : Rows.CheckFactsSaid := checkFacts.over factsO
#print axioms checkFacts_holds

end Go.Proofs.YtcmnmogmdhofcaaGreat
