/- The document's function that tells what is needed ahead of each instruction (loanbookref4.Of): rows of truths. -/
import Derived.Test.YtgeimilnddpdmabLiveNeeded
namespace Go.Proofs.Ytgeimilnddpdmab.form
open Go.RowKit
set_option linter.unusedVariables false
attribute [local go_sem ↓] Go.wp_at_zero Go.wp_at_succ

theorem infRow : (Try.prog.info? 22).map (fun i => (i.zero, i.size, i.bytes)) = some (some (.slice none 0 0), 1, 24) := by kernel_rfl

/-- The rows that are made up to some instruction: their values, their truths. -/
structure OfS (w : World) (b0 o0 c0 b1 o1 c1 : Nat) (B : List Bool) (C : List LIns) (k : Nat) (vs : List Value) (R : List (List Bool)) (v : Value) (wr : World) : Prop where
  bel : Below w.heap.size w wr
  p0 : wr.cell? ⟨w.heap.size, 0, none⟩ = some (.slice (some ⟨b0, o0, none⟩) B.length c0)
  p1 : wr.cell? ⟨w.heap.size, 1, none⟩ = some (.slice (some ⟨b1, o1, none⟩) C.length c1)
  lv : vs.length = k
  lr : R.length = k
  own : wr.ownsRow (w.heap.size + 1) 22 1 v k vs
  rows : ∀ j, j < k → (R.getD j []).length = B.length ∧ (∀ t, t < B.length → ((R.getD j []).getD t false = true ↔ Need C t j)) ∧
    ∃ b, vs.getD j .nilFunc = .slice (some ⟨b, 0, none⟩) B.length B.length ∧ b < wr.heap.size ∧ v.ownBlock ≠ some b ∧ ∀ q, q < B.length → wr.cell? ⟨b, q, none⟩ = some (.bool ((R.getD j []).getD q false))

section
variable {w : World} {b0 o0 c0 b1 o1 c1 : Nat} {B : List Bool} {C : List LIns} {k : Nat} {vs : List Value} {R : List (List Bool)} {v : Value} {wr w1 : World}

theorem OfS.below (h : OfS w b0 o0 c0 b1 o1 c1 B C k vs R v wr) (hb : Below wr.heap.size wr w1) : OfS w b0 o0 c0 b1 o1 c1 B C k vs R v w1 := by
  refine ⟨step_below hb h.bel, step_cell hb h.p0, step_cell hb h.p1, h.lv, h.lr, World.ownsRow.kept h.own ⟨hb.os, hb.tape, hb.output, hb.size, fun j hj _ => hb.block j hj⟩ (row := none) (by cases v.ownBlock <;> simp), fun j hj => ?_⟩
  obtain ⟨h1, h2, b, h3, h4, h5, h6⟩ := h.rows j hj
  exact ⟨h1, h2, b, h3, Nat.lt_of_lt_of_le h4 hb.size, h5, fun q hq => step_cell hb (h6 q hq)⟩

theorem OfS.push (h : OfS w b0 o0 c0 b1 o1 c1 B C k vs R v wr) {rb g cap H : Nat} {l : List Bool} (hz : w.heap.size + 1 ≤ wr.heap.size) (hH : wr.heap.size = H)
    (hl : l.length = B.length) (ht : ∀ t, t < B.length → (l.getD t false = true ↔ Need C t k)) (hrb : rb < wr.heap.size) (hne : v.ownBlock ≠ some rb) (hc : ∀ q, q < B.length → wr.cell? ⟨rb, q, none⟩ = some (.bool (l.getD q false)))
    (hown : w1.ownsRow (w.heap.size + 1) 22 1 (.slice (some ⟨g, 0, none⟩) (k + 1) cap) (k + 1) (vs ++ [.slice (some ⟨rb, 0, none⟩) B.length B.length])) (hgrow : wr.grownBy w1 v.ownBlock) (hat : v.ownBlock = some g ∨ g = H) :
    OfS w b0 o0 c0 b1 o1 c1 B C (k + 1) (vs ++ [.slice (some ⟨rb, 0, none⟩) B.length B.length]) (R ++ [l]) (.slice (some ⟨g, 0, none⟩) (k + 1) cap) w1 := by
  have hon : ∀ b, b < w.heap.size + 1 → v.ownBlock ≠ some b := fun b hb e => by have := (World.ownsRow.lt h.own _ e).1; omega
  have hng : ∀ b, b < wr.heap.size → v.ownBlock ≠ some b → (Value.slice (some ⟨g, 0, none⟩) (k + 1) cap).ownBlock ≠ some b := by
    intro b hb hn
    simp only [Value.ownBlock, ne_eq, Option.some.injEq]
    rcases hat with hat | hat
    · intro e; rw [e] at hat; exact hn hat
    · omega
  refine ⟨h.bel.grown hgrow (by omega) (fun j hj => by have := (World.ownsRow.lt h.own _ hj).1; omega), ?_, ?_, by simp [h.lv], by simp [h.lr], hown, fun j hj => ?_⟩
  · rw [hgrow.cell_far _ (by dsimp only; omega) (Ne.symm (hon _ (by dsimp only; omega)))]; exact h.p0
  · rw [hgrow.cell_far _ (by dsimp only; omega) (Ne.symm (hon _ (by dsimp only; omega)))]; exact h.p1
  · by_cases hjk : j < k
    · obtain ⟨h1, h2, b, h3, h4, h5, h6⟩ := h.rows j hjk
      have e1 : (R ++ [l]).getD j [] = R.getD j [] := by simp [List.getD, List.getElem?_append_left (show j < R.length by rw [h.lr]; exact hjk)]
      have e2 : (vs ++ [Value.slice (some ⟨rb, 0, none⟩) B.length B.length]).getD j .nilFunc = vs.getD j .nilFunc := by simp [List.getD, List.getElem?_append_left (show j < vs.length by rw [h.lv]; exact hjk)]
      rw [e1, e2]
      exact ⟨h1, h2, b, h3, Nat.lt_of_lt_of_le h4 hgrow.size, hng b h4 h5, fun q hq => by rw [hgrow.cell_far _ (by dsimp only; omega) (Ne.symm h5)]; exact h6 q hq⟩
    · obtain rfl : j = k := by omega
      have e1 : (R ++ [l]).getD j [] = l := by simp [List.getD, h.lr]
      have e2 : (vs ++ [Value.slice (some ⟨rb, 0, none⟩) B.length B.length]).getD j .nilFunc = .slice (some ⟨rb, 0, none⟩) B.length B.length := by simp [List.getD, h.lv]
      rw [e1, e2]
      exact ⟨hl, ht, rb, rfl, Nat.lt_of_lt_of_le hrb hgrow.size, hng rb hrb hne, fun q hq => by rw [hgrow.cell_far _ (by dsimp only; omega) (Ne.symm hne)]; exact hc q hq⟩

theorem OfS.mat (h : OfS w b0 o0 c0 b1 o1 c1 B C k vs R v wr) (hk : k ≤ 40) (hB : B.length ≤ 12) : MatIs wr v R := by
  by_cases hn : 0 < k
  · obtain ⟨g, cap, rfl, hbg, hlt⟩ := h.own.form hn
    refine ⟨_, cap, by rw [h.lr], by rw [h.lr]; omega, fun _ => ⟨g, 0, rfl, hlt, fun j hj => ?_⟩⟩
    rw [h.lr] at hj
    obtain ⟨h1, h2, b, h3, h4, h5, h6⟩ := h.rows j hj
    refine ⟨vs.getD j .nilFunc, ?_, some ⟨b, 0, none⟩, B.length, by rw [h3, h1], by omega, fun _ => ⟨b, 0, rfl, h4, fun q hq => ?_⟩⟩
    · rw [Nat.zero_add, World.ownsRow.cellAt h.own j (by omega)]
      simp [List.getD, h.lv, hj]
    · rw [Nat.zero_add]; exact h6 q (by omega)
  · have hk0 : k = 0 := by omega
    subst hk0
    have hR : R = [] := List.length_eq_zero_iff.1 h.lr
    subst hR
    rcases h.own.2 with ⟨rfl, _⟩ | ⟨g, cap, cur, rfl, _⟩
    · exact ⟨none, 0, rfl, by simp, fun hh => absurd hh (by simp)⟩
    · exact ⟨_, cap, rfl, by simp, fun hh => absurd hh (by simp)⟩

theorem OfS.need (h : OfS w b0 o0 c0 b1 o1 c1 B C C.length vs R v wr) : NeedMat B.length C R := ⟨h.lr, fun k hk => (h.rows k hk).1, fun k hk t ht => (h.rows k hk).2.1 t ht⟩
end

/-- The answer. -/
def OfAns (nB : Nat) (C : List LIns) (e : Ending) (w : World) : Prop := ∃ v R, e = .returned v ∧ MatIs w v R ∧ NeedMat nB C R

set_option maxRecDepth 100000 in
set_option maxHeartbeats 2000000 in
theorem of4 (b0 o0 c0 b1 o1 c1 : Nat) (B : List Bool) (C : List LIns) (w : World) (hB : B.length ≤ 12) (hC : C.length ≤ 40) (h : Held w b0 o0 b1 o1 B C) (hok : ∀ k, k < C.length → InsOk B.length C.length (C.getD k .zero)) :
    Calls Try.prog 26 #[progV b0 o0 B.length c0 b1 o1 C.length c1] w fun e w' => OfAns B.length C e w' ∧ Below w.heap.size w w' := by
  have HOK : Hid (∀ k, k < C.length → InsOk B.length C.length (C.getD k .zero)) := hok
  have HH : Hid (Held w b0 o0 b1 o1 B C) := h
  have hmk := fun wx => run_make_row' (P := Try.prog) 22 4 (.bool false) 1 Try.underlying22 infBool rfl .i64 .i64 B.length (by omega) (by omega) wx
  have y2 : (C.length : Int) ≤ 40 := by omega
  have y3 : (B.length : Int) ≤ 12 := by omega
  clear hok h
  unfold progV
  go_enter Try.func26, Try.ntmps26
  go_wp2
  go_loopw [3, 4] (fun v kv wr => ∃ (k : Nat) (vs : List Value) (R : List (List Bool)) (v0 : Value), v0 = v ∧ kv = .int .i64 k ∧ k ≤ C.length ∧ OfS w b0 o0 c0 b1 o1 c1 B C k vs R v wr) (fun _ kv _ => C.length - (intOf kv).toNat)
  case atStart =>
    exact ⟨0, [], [], _, rfl, rfl, by omega, (Below.refl _ _).alloc (Nat.le_refl _) _, by simp [go_sem], by simp [go_sem], rfl, rfl, World.ownsRow_nil _ _ _ _, fun j hj => absurd hj (by omega)⟩
  case round =>
    obtain ⟨k, vs, R, v, rfl, rfl, hk, ho⟩ := hrel
    obtain ⟨wo, hwo⟩ : ∃ x, x = wr := ⟨_, rfl⟩
    subst hwo
    have HO : Hid (OfS w b0 o0 c0 b1 o1 c1 B C k vs R v wo) := ho
    have p0 := ho.p0
    have p1 := ho.p1
    have hz := ho.bel.size
    by_cases hlt : k < C.length
    case neg =>
      have e1 : ¬ (k : Int) < (C.length : Int) := by omega
      clear ho
      go_wp2
      go_ret
      obtain rfl : k = C.length := by omega
      exact ⟨⟨v, R, rfl, HO.out.mat hC hB, HO.out.need⟩, HO.out.bel⟩
    have e1 : (k : Int) < (C.length : Int) := by omega
    have e0 : (0 : Int) ≤ (k : Int) := by omega
    clear ho p0 p1
    have hdec : 0 ≤ B.length := by omega
    have P0 := HO.out.p0
    have P1 := HO.out.p1
    have hzw : w.heap.size < wo.heap.size := World.block_lt_of_cell? wo _ P0
    go_wp2
    go_loopw [6] (fun tv wr2 => ∃ (j : Nat) (l : List Bool), tv = .int .i64 j ∧ j ≤ B.length ∧ l.length = B.length ∧ (∀ q, q < j → (l.getD q false = true ↔ Need C q k)) ∧ Below wo.heap.size wo wr2 ∧ Row wr2 wo.heap.size 4 (l.map Value.bool)) (fun tv _ => B.length - (intOf tv).toNat)
    case atStart =>
      refine ⟨0, List.replicate B.length false, rfl, by omega, by simp, fun q hq => absurd hq (by omega), (Below.refl _ _).alloc (Nat.le_refl _) _, ?_⟩
      rw [made_bool]
      exact Row.new wo _ _
    case round =>
      obtain ⟨j, l, rfl, hj, hl, hT, hb, hrow⟩ := hrel
      have HT : Hid (∀ q : Nat, q < j → (l.getD q false = true ↔ Need C q k)) := hT
      have HBW : Hid (Below wo.heap.size wo wr) := hb
      have HROW : Hid (Row wr wo.heap.size 4 (l.map Value.bool)) := hrow
      have q0 := step_cell hb P0
      have q1 := step_cell hb P1
      have hzr := hrow.lt
      have HOB : Hid (OfS w b0 o0 c0 b1 o1 c1 B C k vs R v wr) := HO.out.below hb
      clear hb hrow hT
      by_cases hjl : j < B.length
      · have y5 : (j : Int) < (B.length : Int) := by omega
        have y6 : (0 : Int) ≤ (j : Int) := by omega
        go_wp2_with (go_at_call 61; refine (needed4 b0 o0 c0 b1 o1 c1 B C k j _ hC (HH.out.later HOB.out.bel) HOK.out hlt).mono ?_; rintro e w3 ⟨⟨b, rfl, hbn⟩, hb3⟩; have HBN : Hid (b = true ↔ Need C j k) := hbn; have hr3 := HROW.out.below hb3; have fz := hr3.frozen j; have cz : w3.cell? ⟨wo.heap.size, j, none⟩ = some (.bool (l.getD j false)) := (by rw [hr3.cell]; simp [List.getD, hl, hjl]); have HR3 : Hid (Row w3 wo.heap.size 4 (l.map Value.bool)) := hr3; have HB3 : Hid (Below wo.heap.size wo w3) := step_below hb3 HBW.out; clear hr3 hb3 hbn)
        refine ⟨⟨j + 1, l.set j b, by go_num, by omega, by simp [hl], fun q hq => ?_, HB3.out.setCell (by simp) _, ?_⟩, by simp [intOf]; omega⟩
        · by_cases hqj : q = j
          · subst hqj
            rw [show (l.set q b).getD q false = b by simp [List.getD, hl, hjl]]
            exact HBN.out
          · rw [show (l.set j b).getD q false = l.getD q false by simp [List.getD, Ne.symm hqj]]
            exact HT.out q (by omega)
        · have := HR3.out.set j (.bool b)
          simpa [List.map_set] using this
      · have y5 : ¬ (j : Int) < (B.length : Int) := by omega
        obtain ⟨t0', hi0, hy0, hy1, hy2⟩ := info_parts infRow
        have hone : v.ownBlock ≠ some wo.heap.size := fun e => by have := (World.ownsRow.lt HO.out.own _ e).2; omega
        go_wp2_with (at_builtin; refine wpList_append_lies _ rfl _ _ 31 rfl (w.heap.size + 1) 22 t0' (.slice none 0 0) 1 24 Try.underlying31 hi0 hy0 hy1 hy2 rfl (by decide) v k vs rfl (World.ownsRow.alloc HOB.out.own _) ⟨wr.heap.size, 0, none⟩ 1 1 [.slice (some ⟨wo.heap.size, 0, none⟩) B.length B.length] rfl rfl ?c1 ?c2 (by decide) ?c3 ?c4 ?c5 _ rfl ?_)
        case c2 => simp [Value.oneCell']
        case c3 => unfold maxLen; omega
        case c4 => omega
        case c5 => first | omega | (simp; omega)
        intro g9 cap9 w9 hown hgrow hat hlt9
        have hP := (HOB.out.below ((Below.refl _ _).alloc (Nat.le_refl _) (.cells #[.slice (some ⟨wo.heap.size, 0, none⟩) B.length B.length] 22))).push (rb := wo.heap.size) (l := l) (by simp; omega) rfl hl (fun t ht => HT.out t (by omega)) (by simp; omega) hone (fun q hq => by
          refine step_cell ((Below.refl _ _).alloc (Nat.le_refl _) _) ?_
          rw [HROW.out.cell]; simp [List.getD, hl, hq]) hown hgrow (by simpa using hat)
        have RP : Hid (OfS w b0 o0 c0 b1 o1 c1 B C (k + 1) (vs ++ [.slice (some ⟨wo.heap.size, 0, none⟩) B.length B.length]) (R ++ [l]) (.slice (some ⟨g9, 0, none⟩) (k + 1) cap9) w9) := hP
        clear hP hown hgrow hat
        go_wp2
        go_roundw
        case rel => exact ⟨k + 1, _, _, _, rfl, by go_num, by omega, RP.out⟩
        case measure => simp [intOf]; omega

end Go.Proofs.Ytgeimilnddpdmab.form
