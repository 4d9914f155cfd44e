/- The document's function that tells what is needed ahead of each instruction (loanbookref4.Of): rows of truths. -/
import Derived.Deep.RegionHeld3
import Derived.Deep.DrawnRows
import Derived.Test.YtcmnmogmdhofcabT12
import Derived.Test.YtcmnmogmdhofcabT11
import Derived.Test.YtcmnmogmdhofcabT01

namespace Go.Proofs.Ytcmnmogmdhofcab.form
open Go.RowKit
set_option linter.unusedVariables false
attribute [local go_sem ↓] Go.wp_at_zero Go.wp_at_succ

theorem infRow : (Try.prog.info? 22).map (fun i => (i.zero, i.size, i.bytes)) = some (some (.slice none 0 0), 1, 24) := by kernel_rfl

/-- The rows that are made up to some instruction: their values, their truths. -/
structure OfS4 (w : World) (b0 o0 c0 b1 o1 c1 : Nat) (B : List Bool) (C : List LIns) (k : Nat) (vs : List Value) (R : List (List Bool)) (v : Value) (wr : World) : Prop where
  bel : Below w.heap.size w wr
  p0 : wr.cell? ⟨w.heap.size, 0, none⟩ = some (.slice (some ⟨b0, o0, none⟩) B.length c0)
  p1 : wr.cell? ⟨w.heap.size, 1, none⟩ = some (.slice (some ⟨b1, o1, none⟩) C.length c1)
  lv : vs.length = k
  lr : R.length = k
  own : wr.ownsRow (w.heap.size + 1) 22 1 v k vs
  rows : ∀ j, j < k → (R.getD j []).length = B.length ∧ (∀ t, t < B.length → ((R.getD j []).getD t false = true ↔ Need C t j)) ∧
    ∃ b, vs.getD j .nilFunc = .slice (some ⟨b, 0, none⟩) B.length B.length ∧ b < wr.heap.size ∧ v.ownBlock ≠ some b ∧ ∀ q, q < B.length → wr.cell? ⟨b, q, none⟩ = some (.bool ((R.getD j []).getD q false))

section
variable {w : World} {b0 o0 c0 b1 o1 c1 : Nat} {B : List Bool} {C : List LIns} {k : Nat} {vs : List Value} {R : List (List Bool)} {v : Value} {wr w1 : World}

theorem OfS4.below (h : OfS4 w b0 o0 c0 b1 o1 c1 B C k vs R v wr) (hb : Below wr.heap.size wr w1) : OfS4 w b0 o0 c0 b1 o1 c1 B C k vs R v w1 := by
  refine ⟨step_below hb h.bel, step_cell hb h.p0, step_cell hb h.p1, h.lv, h.lr, World.ownsRow.kept h.own ⟨hb.os, hb.tape, hb.output, hb.size, fun j hj _ => hb.block j hj⟩ (row := none) (by cases v.ownBlock <;> simp), fun j hj => ?_⟩
  obtain ⟨h1, h2, b, h3, h4, h5, h6⟩ := h.rows j hj
  exact ⟨h1, h2, b, h3, Nat.lt_of_lt_of_le h4 hb.size, h5, fun q hq => step_cell hb (h6 q hq)⟩

theorem OfS4.push (h : OfS4 w b0 o0 c0 b1 o1 c1 B C k vs R v wr) {rb g cap H : Nat} {l : List Bool} (hz : w.heap.size + 1 ≤ wr.heap.size) (hH : wr.heap.size = H)
    (hl : l.length = B.length) (ht : ∀ t, t < B.length → (l.getD t false = true ↔ Need C t k)) (hrb : rb < wr.heap.size) (hne : v.ownBlock ≠ some rb) (hc : ∀ q, q < B.length → wr.cell? ⟨rb, q, none⟩ = some (.bool (l.getD q false)))
    (hown : w1.ownsRow (w.heap.size + 1) 22 1 (.slice (some ⟨g, 0, none⟩) (k + 1) cap) (k + 1) (vs ++ [.slice (some ⟨rb, 0, none⟩) B.length B.length])) (hgrow : wr.grownBy w1 v.ownBlock) (hat : v.ownBlock = some g ∨ g = H) :
    OfS4 w b0 o0 c0 b1 o1 c1 B C (k + 1) (vs ++ [.slice (some ⟨rb, 0, none⟩) B.length B.length]) (R ++ [l]) (.slice (some ⟨g, 0, none⟩) (k + 1) cap) w1 := by
  have hon : ∀ b, b < w.heap.size + 1 → v.ownBlock ≠ some b := fun b hb e => by have := (World.ownsRow.lt h.own _ e).1; omega
  have hng : ∀ b, b < wr.heap.size → v.ownBlock ≠ some b → (Value.slice (some ⟨g, 0, none⟩) (k + 1) cap).ownBlock ≠ some b := by
    intro b hb hn
    simp only [Value.ownBlock, ne_eq, Option.some.injEq]
    rcases hat with hat | hat
    · intro e; rw [e] at hat; exact hn hat
    · omega
  refine ⟨h.bel.grown hgrow (by omega) (fun j hj => by have := (World.ownsRow.lt h.own _ hj).1; omega), ?_, ?_, by simp [h.lv], by simp [h.lr], hown, fun j hj => ?_⟩
  · rw [hgrow.cell_far _ (by dsimp only; omega) (Ne.symm (hon _ (by dsimp only; omega)))]; exact h.p0
  · rw [hgrow.cell_far _ (by dsimp only; omega) (Ne.symm (hon _ (by dsimp only; omega)))]; exact h.p1
  · by_cases hjk : j < k
    · obtain ⟨h1, h2, b, h3, h4, h5, h6⟩ := h.rows j hjk
      have e1 : (R ++ [l]).getD j [] = R.getD j [] := by simp [List.getD, List.getElem?_append_left (show j < R.length by rw [h.lr]; exact hjk)]
      have e2 : (vs ++ [Value.slice (some ⟨rb, 0, none⟩) B.length B.length]).getD j .nilFunc = vs.getD j .nilFunc := by simp [List.getD, List.getElem?_append_left (show j < vs.length by rw [h.lv]; exact hjk)]
      rw [e1, e2]
      exact ⟨h1, h2, b, h3, Nat.lt_of_lt_of_le h4 hgrow.size, hng b h4 h5, fun q hq => by rw [hgrow.cell_far _ (by dsimp only; omega) (Ne.symm h5)]; exact h6 q hq⟩
    · obtain rfl : j = k := by omega
      have e1 : (R ++ [l]).getD j [] = l := by simp [List.getD, h.lr]
      have e2 : (vs ++ [Value.slice (some ⟨rb, 0, none⟩) B.length B.length]).getD j .nilFunc = .slice (some ⟨rb, 0, none⟩) B.length B.length := by simp [List.getD, h.lv]
      rw [e1, e2]
      exact ⟨hl, ht, rb, rfl, Nat.lt_of_lt_of_le hrb hgrow.size, hng rb hrb hne, fun q hq => by rw [hgrow.cell_far _ (by dsimp only; omega) (Ne.symm hne)]; exact hc q hq⟩

theorem OfS4.mat (h : OfS4 w b0 o0 c0 b1 o1 c1 B C k vs R v wr) (hk : k ≤ 40) (hB : B.length ≤ 12) : MatIs wr v R := by
  by_cases hn : 0 < k
  · obtain ⟨g, cap, rfl, hbg, hlt⟩ := h.own.form hn
    refine ⟨_, cap, by rw [h.lr], by rw [h.lr]; omega, fun _ => ⟨g, 0, rfl, hlt, fun j hj => ?_⟩⟩
    rw [h.lr] at hj
    obtain ⟨h1, h2, b, h3, h4, h5, h6⟩ := h.rows j hj
    refine ⟨vs.getD j .nilFunc, ?_, some ⟨b, 0, none⟩, B.length, by rw [h3, h1], by omega, fun _ => ⟨b, 0, rfl, h4, fun q hq => ?_⟩⟩
    · rw [Nat.zero_add, World.ownsRow.cellAt h.own j (by omega)]
      simp [List.getD, h.lv, hj]
    · rw [Nat.zero_add]; exact h6 q (by omega)
  · have hk0 : k = 0 := by omega
    subst hk0
    have hR : R = [] := List.length_eq_zero_iff.1 h.lr
    subst hR
    rcases h.own.2 with ⟨rfl, _⟩ | ⟨g, cap, cur, rfl, _⟩
    · exact ⟨none, 0, rfl, by simp, fun hh => absurd hh (by simp)⟩
    · exact ⟨_, cap, rfl, by simp, fun hh => absurd hh (by simp)⟩

theorem OfS4.need (h : OfS4 w b0 o0 c0 b1 o1 c1 B C C.length vs R v wr) : NeedMat B.length C R := ⟨h.lr, fun k hk => (h.rows k hk).1, fun k hk t ht => (h.rows k hk).2.1 t ht⟩
end

/-- The answer. -/
def OfAns (nB : Nat) (C : List LIns) (e : Ending) (w : World) : Prop := ∃ v R, e = .returned v ∧ MatIs w v R ∧ NeedMat nB C R

set_option maxRecDepth 100000 in
set_option maxHeartbeats 2000000 in
theorem of4 (b0 o0 c0 b1 o1 c1 : Nat) (B : List Bool) (C : List LIns) (w : World) (hB : B.length ≤ 12) (hC : C.length ≤ 40) (h : Held w b0 o0 b1 o1 B C) (hok : ∀ k, k < C.length → InsOk B.length C.length (C.getD k .zero)) :
    Calls Try.prog 29 #[progV b0 o0 B.length c0 b1 o1 C.length c1] w fun e w' => OfAns B.length C e w' ∧ Below w.heap.size w w' := by
  have HOK : Hid (∀ k, k < C.length → InsOk B.length C.length (C.getD k .zero)) := hok
  have HH : Hid (Held w b0 o0 b1 o1 B C) := h
  have hmk := fun wx => run_make_row' (P := Try.prog) 22 4 (.bool false) 1 Try.underlying22 infBool rfl .i64 .i64 B.length (by omega) (by omega) wx
  have y2 : (C.length : Int) ≤ 40 := by omega
  have y3 : (B.length : Int) ≤ 12 := by omega
  clear hok h
  unfold progV
  go_enter Try.func29, Try.ntmps29
  go_wp2
  go_loopw [3, 4] (fun v kv wr => ∃ (k : Nat) (vs : List Value) (R : List (List Bool)) (v0 : Value), v0 = v ∧ kv = .int .i64 k ∧ k ≤ C.length ∧ OfS4 w b0 o0 c0 b1 o1 c1 B C k vs R v wr) (fun _ kv _ => C.length - (intOf kv).toNat)
  case atStart =>
    exact ⟨0, [], [], _, rfl, rfl, by omega, (Below.refl _ _).alloc (Nat.le_refl _) _, by simp [go_sem], by simp [go_sem], rfl, rfl, World.ownsRow_nil _ _ _ _, fun j hj => absurd hj (by omega)⟩
  case round =>
    obtain ⟨k, vs, R, v, rfl, rfl, hk, ho⟩ := hrel
    obtain ⟨wo, hwo⟩ : ∃ x, x = wr := ⟨_, rfl⟩
    subst hwo
    have HO : Hid (OfS4 w b0 o0 c0 b1 o1 c1 B C k vs R v wo) := ho
    have p0 := ho.p0
    have p1 := ho.p1
    have hz := ho.bel.size
    by_cases hlt : k < C.length
    case neg =>
      have e1 : ¬ (k : Int) < (C.length : Int) := by omega
      clear ho
      go_wp2
      go_ret
      obtain rfl : k = C.length := by omega
      exact ⟨⟨v, R, rfl, HO.out.mat hC hB, HO.out.need⟩, HO.out.bel⟩
    have e1 : (k : Int) < (C.length : Int) := by omega
    have e0 : (0 : Int) ≤ (k : Int) := by omega
    clear ho p0 p1
    have hdec : 0 ≤ B.length := by omega
    have P0 := HO.out.p0
    have P1 := HO.out.p1
    have hzw : w.heap.size < wo.heap.size := World.block_lt_of_cell? wo _ P0
    go_wp2
    go_loopw [6] (fun tv wr2 => ∃ (j : Nat) (l : List Bool), tv = .int .i64 j ∧ j ≤ B.length ∧ l.length = B.length ∧ (∀ q, q < j → (l.getD q false = true ↔ Need C q k)) ∧ Below wo.heap.size wo wr2 ∧ Row wr2 wo.heap.size 4 (l.map Value.bool)) (fun tv _ => B.length - (intOf tv).toNat)
    case atStart =>
      refine ⟨0, List.replicate B.length false, rfl, by omega, by simp, fun q hq => absurd hq (by omega), (Below.refl _ _).alloc (Nat.le_refl _) _, ?_⟩
      rw [made_bool]
      exact Row.new wo _ _
    case round =>
      obtain ⟨j, l, rfl, hj, hl, hT, hb, hrow⟩ := hrel
      have HT : Hid (∀ q : Nat, q < j → (l.getD q false = true ↔ Need C q k)) := hT
      have HBW : Hid (Below wo.heap.size wo wr) := hb
      have HROW : Hid (Row wr wo.heap.size 4 (l.map Value.bool)) := hrow
      have q0 := step_cell hb P0
      have q1 := step_cell hb P1
      have hzr := hrow.lt
      have HOB : Hid (OfS4 w b0 o0 c0 b1 o1 c1 B C k vs R v wr) := HO.out.below hb
      clear hb hrow hT
      by_cases hjl : j < B.length
      · have y5 : (j : Int) < (B.length : Int) := by omega
        have y6 : (0 : Int) ≤ (j : Int) := by omega
        go_wp2_with (go_at_call 71; refine (needed4 b0 o0 c0 b1 o1 c1 B C k j _ hC (HH.out.later HOB.out.bel) HOK.out hlt).mono ?_; rintro e w3 ⟨⟨b, rfl, hbn⟩, hb3⟩; have HBN : Hid (b = true ↔ Need C j k) := hbn; have hr3 := HROW.out.below hb3; have fz := hr3.frozen j; have cz : w3.cell? ⟨wo.heap.size, j, none⟩ = some (.bool (l.getD j false)) := (by rw [hr3.cell]; simp [List.getD, hl, hjl]); have HR3 : Hid (Row w3 wo.heap.size 4 (l.map Value.bool)) := hr3; have HB3 : Hid (Below wo.heap.size wo w3) := step_below hb3 HBW.out; clear hr3 hb3 hbn)
        refine ⟨⟨j + 1, l.set j b, by go_num, by omega, by simp [hl], fun q hq => ?_, HB3.out.setCell (by simp) _, ?_⟩, by simp [intOf]; omega⟩
        · by_cases hqj : q = j
          · subst hqj
            rw [show (l.set q b).getD q false = b by simp [List.getD, hl, hjl]]
            exact HBN.out
          · rw [show (l.set j b).getD q false = l.getD q false by simp [List.getD, Ne.symm hqj]]
            exact HT.out q (by omega)
        · have := HR3.out.set j (.bool b)
          simpa [List.map_set] using this
      · have y5 : ¬ (j : Int) < (B.length : Int) := by omega
        obtain ⟨t0', hi0, hy0, hy1, hy2⟩ := info_parts infRow
        have hone : v.ownBlock ≠ some wo.heap.size := fun e => by have := (World.ownsRow.lt HO.out.own _ e).2; omega
        go_wp2_with (at_builtin; refine wpList_append_lies _ rfl _ _ 31 rfl (w.heap.size + 1) 22 t0' (.slice none 0 0) 1 24 Try.underlying31 hi0 hy0 hy1 hy2 rfl (by decide) v k vs rfl (World.ownsRow.alloc HOB.out.own _) ⟨wr.heap.size, 0, none⟩ 1 1 [.slice (some ⟨wo.heap.size, 0, none⟩) B.length B.length] rfl rfl ?c1 ?c2 (by decide) ?c3 ?c4 ?c5 _ rfl ?_)
        case c2 => simp [Value.oneCell']
        case c3 => unfold maxLen; omega
        case c4 => omega
        case c5 => first | omega | (simp; omega)
        intro g9 cap9 w9 hown hgrow hat hlt9
        have hP := (HOB.out.below ((Below.refl _ _).alloc (Nat.le_refl _) (.cells #[.slice (some ⟨wo.heap.size, 0, none⟩) B.length B.length] 22))).push (rb := wo.heap.size) (l := l) (by simp; omega) rfl hl (fun t ht => HT.out t (by omega)) (by simp; omega) hone (fun q hq => by
          refine step_cell ((Below.refl _ _).alloc (Nat.le_refl _) _) ?_
          rw [HROW.out.cell]; simp [List.getD, hl, hq]) hown hgrow (by simpa using hat)
        have RP : Hid (OfS4 w b0 o0 c0 b1 o1 c1 B C (k + 1) (vs ++ [.slice (some ⟨wo.heap.size, 0, none⟩) B.length B.length]) (R ++ [l]) (.slice (some ⟨g9, 0, none⟩) (k + 1) cap9) w9) := hP
        clear hP hown hgrow hat
        go_wp2
        go_roundw
        case rel => exact ⟨k + 1, _, _, _, rfl, by go_num, by omega, RP.out⟩
        case measure => simp [intOf]; omega

end Go.Proofs.Ytcmnmogmdhofcab.form

/- What layout.fit answers. -/
namespace Go.Proofs.Ytcmnmogmdhofcab.form
open Go.RowKit
set_option linter.unusedVariables false
attribute [local go_sem ↓] Go.wp_at_zero Go.wp_at_succ

def fit5 (B : List Bool) (nC : Nat) (k0 k1 k2 k3 k4 x0 x1 x2 x3 x4 : Int) : Bool :=
  fitB B nC k0 x0 && fitB B nC k1 x1 && fitB B nC k2 x2 && fitB B nC k3 x3 && fitB B nC k4 x4

theorem below_cell {W w1 : World} {B : Nat} (hb : Below B W w1) {b o : Nat} {v : Value} (h : b < B) (hc : W.cell? ⟨b, o, none⟩ = some v) : w1.cell? ⟨b, o, none⟩ = some v := by
  rw [hb.cell (p := ⟨b, o, none⟩) h]; exact hc

set_option maxRecDepth 100000 in
set_option maxHeartbeats 1000000 in
theorem fit (b0 o0 c0 b1 o1 c1 : Nat) (B : List Bool) (C : List LIns) (k0 k1 k2 k3 k4 x0 x1 x2 x3 x4 : Int) (w : World) (hB : B.length ≤ 12) (hC : C.length ≤ 40) (h : Held w b0 o0 b1 o1 B C) :
    Calls Try.prog 122 #[progV b0 o0 B.length c0 b1 o1 C.length c1, fiveV k0 k1 k2 k3 k4, fiveV x0 x1 x2 x3 x4] w fun e w' => e = .returned (.bool (fit5 B C.length k0 k1 k2 k3 k4 x0 x1 x2 x3 x4)) ∧ Below w.heap.size w w' := by
  unfold progV fiveV
  have i0 : ∀ w, (Instr.index 177 (.agg #[.int .i64 k0, .int .i64 k1, .int .i64 k2, .int .i64 k3, .int .i64 k4]) (.int .i64 0)).run Try.prog w = .ok (.int .i64 k0) w := fun _ => by kernel_rfl
  have i1 : ∀ w, (Instr.index 177 (.agg #[.int .i64 k0, .int .i64 k1, .int .i64 k2, .int .i64 k3, .int .i64 k4]) (.int .i64 1)).run Try.prog w = .ok (.int .i64 k1) w := fun _ => by kernel_rfl
  have i2 : ∀ w, (Instr.index 177 (.agg #[.int .i64 k0, .int .i64 k1, .int .i64 k2, .int .i64 k3, .int .i64 k4]) (.int .i64 2)).run Try.prog w = .ok (.int .i64 k2) w := fun _ => by kernel_rfl
  have i3 : ∀ w, (Instr.index 177 (.agg #[.int .i64 k0, .int .i64 k1, .int .i64 k2, .int .i64 k3, .int .i64 k4]) (.int .i64 3)).run Try.prog w = .ok (.int .i64 k3) w := fun _ => by kernel_rfl
  have i4 : ∀ w, (Instr.index 177 (.agg #[.int .i64 k0, .int .i64 k1, .int .i64 k2, .int .i64 k3, .int .i64 k4]) (.int .i64 4)).run Try.prog w = .ok (.int .i64 k4) w := fun _ => by kernel_rfl
  go_enter Try.func122, Try.ntmps122
  go_wp2
  go_loopw [10] (fun i wr => ∃ k : Nat, k ≤ 5 ∧ i = .int .i64 k ∧ Below w.heap.size w wr ∧ w.heap.size + 3 ≤ wr.heap.size ∧
      wr.cell? ⟨w.heap.size, 0, none⟩ = some (.slice (some ⟨b0, o0, none⟩) B.length c0) ∧ wr.cell? ⟨w.heap.size, 1, none⟩ = some (.slice (some ⟨b1, o1, none⟩) C.length c1) ∧
      wr.cell? ⟨w.heap.size + 2, 0, none⟩ = some (.int .i64 x0) ∧ wr.cell? ⟨w.heap.size + 2, 1, none⟩ = some (.int .i64 x1) ∧ wr.cell? ⟨w.heap.size + 2, 2, none⟩ = some (.int .i64 x2) ∧ wr.cell? ⟨w.heap.size + 2, 3, none⟩ = some (.int .i64 x3) ∧ wr.cell? ⟨w.heap.size + 2, 4, none⟩ = some (.int .i64 x4) ∧
      (0 < k → fitB B C.length k0 x0 = true) ∧ (1 < k → fitB B C.length k1 x1 = true) ∧ (2 < k → fitB B C.length k2 x2 = true) ∧ (3 < k → fitB B C.length k3 x3 = true) ∧ (4 < k → fitB B C.length k4 x4 = true))
    (fun i _ => 5 - (intOf i).toNat)
  case atStart => exact ⟨0, by omega, rfl, (((Below.refl _ _).alloc (Nat.le_refl _) _).alloc (by simp) _).alloc (by simp; omega) _, by simp, by simp [go_sem], by simp [go_sem], by simp [go_sem], by simp [go_sem], by simp [go_sem], by simp [go_sem], by simp [go_sem], by simp, by simp, by simp, by simp, by simp⟩
  case round =>
    obtain ⟨k, hk, rfl, hbel, hsz, cp0, cp1, cx0, cx1, cx2, cx3, cx4, f0, f1, f2, f3, f4⟩ := hrel
    have F : Hid _ := (⟨f0, f1, f2, f3, f4⟩ : _ ∧ _ ∧ _ ∧ _ ∧ _)
    clear f0 f1 f2 f3 f4
    rcases (show k = 0 ∨ k = 1 ∨ k = 2 ∨ k = 3 ∨ k = 4 ∨ k = 5 by omega) with rfl | rfl | rfl | rfl | rfl | rfl
    · go_wp2
      go_region_held3 (fun w' => Below wr.heap.size wr w' ∧ w'.cell? ⟨w.heap.size, 0, none⟩ = some (.slice (some ⟨b0, o0, none⟩) B.length c0) ∧ w'.cell? ⟨w.heap.size, 1, none⟩ = some (.slice (some ⟨b1, o1, none⟩) C.length c1) ∧ w'.cell? ⟨w.heap.size + 2, 0, none⟩ = some (.int .i64 x0)) ((go_split_ands; refine ⟨?_, ?_, ?_, ?_⟩ <;> first | exact (Below.refl _ _).drew | exact ((Below.refl _ _).drew).trans hb1 | exact below_cell hb1 (show _ < wr.heap.size by omega) cp0 | exact below_cell hb1 (show _ < wr.heap.size by omega) cp1 | exact below_cell hb1 (show _ < wr.heap.size by omega) cx0 | go_keep))
        ((go_at_call 143; refine (fits b0 o0 c0 b1 o1 c1 B C k0 x0 _ hB hC ?_).mono ?_; (exact h.later hbel.drew); rintro e w1 ⟨rfl, hb1⟩))
      rename_i hHeldx; clear hHeldx
      have hs1 : wr.heap.size ≤ w1.heap.size := hb1.size
      have R : Hid _ := (⟨hbel.drew.trans (hb1.mono hbel.size), Nat.le_trans hsz hs1, below_cell hb1 (show _ < wr.heap.size by omega) cp0, below_cell hb1 (show _ < wr.heap.size by omega) cp1, below_cell hb1 (show _ < wr.heap.size by omega) cx0, below_cell hb1 (show _ < wr.heap.size by omega) cx1, below_cell hb1 (show _ < wr.heap.size by omega) cx2, below_cell hb1 (show _ < wr.heap.size by omega) cx3, below_cell hb1 (show _ < wr.heap.size by omega) cx4⟩ : Below w.heap.size w w1 ∧ w.heap.size + 3 ≤ w1.heap.size ∧ _ ∧ _ ∧ _ ∧ _ ∧ _ ∧ _ ∧ _)
      clear hb1 cp0 cp1 cx0 cx1 cx2 cx3 cx4 hbel
      go_wp2
      · go_ret
        exact ⟨ret_bool (by simp_all [fit5]), R.out.1⟩
      · obtain ⟨r1, r2, r3, r4, r5, r6, r7, r8, r9⟩ := R.out
        obtain ⟨f0, f1, f2, f3, f4⟩ := F.out
        refine ⟨⟨1, by omega, rfl, r1, r2, r3, r4, r5, r6, r7, r8, r9, ?_, ?_, ?_, ?_, ?_⟩, by simp [intOf]⟩
        all_goals first | assumption | (intro hz; first | (exact absurd hz (by omega)) | (simp_all))
    · go_wp2
      go_region_held3 (fun w' => Below wr.heap.size wr w' ∧ w'.cell? ⟨w.heap.size, 0, none⟩ = some (.slice (some ⟨b0, o0, none⟩) B.length c0) ∧ w'.cell? ⟨w.heap.size, 1, none⟩ = some (.slice (some ⟨b1, o1, none⟩) C.length c1) ∧ w'.cell? ⟨w.heap.size + 2, 1, none⟩ = some (.int .i64 x1)) ((go_split_ands; refine ⟨?_, ?_, ?_, ?_⟩ <;> first | exact (Below.refl _ _).drew | exact ((Below.refl _ _).drew).trans hb1 | exact below_cell hb1 (show _ < wr.heap.size by omega) cp0 | exact below_cell hb1 (show _ < wr.heap.size by omega) cp1 | exact below_cell hb1 (show _ < wr.heap.size by omega) cx1 | go_keep))
        ((go_at_call 143; refine (fits b0 o0 c0 b1 o1 c1 B C k1 x1 _ hB hC ?_).mono ?_; (exact h.later hbel.drew); rintro e w1 ⟨rfl, hb1⟩))
      rename_i hHeldx; clear hHeldx
      have hs1 : wr.heap.size ≤ w1.heap.size := hb1.size
      have R : Hid _ := (⟨hbel.drew.trans (hb1.mono hbel.size), Nat.le_trans hsz hs1, below_cell hb1 (show _ < wr.heap.size by omega) cp0, below_cell hb1 (show _ < wr.heap.size by omega) cp1, below_cell hb1 (show _ < wr.heap.size by omega) cx0, below_cell hb1 (show _ < wr.heap.size by omega) cx1, below_cell hb1 (show _ < wr.heap.size by omega) cx2, below_cell hb1 (show _ < wr.heap.size by omega) cx3, below_cell hb1 (show _ < wr.heap.size by omega) cx4⟩ : Below w.heap.size w w1 ∧ w.heap.size + 3 ≤ w1.heap.size ∧ _ ∧ _ ∧ _ ∧ _ ∧ _ ∧ _ ∧ _)
      clear hb1 cp0 cp1 cx0 cx1 cx2 cx3 cx4 hbel
      go_wp2
      · go_ret
        exact ⟨ret_bool (by simp_all [fit5]), R.out.1⟩
      · obtain ⟨r1, r2, r3, r4, r5, r6, r7, r8, r9⟩ := R.out
        obtain ⟨f0, f1, f2, f3, f4⟩ := F.out
        refine ⟨⟨2, by omega, rfl, r1, r2, r3, r4, r5, r6, r7, r8, r9, ?_, ?_, ?_, ?_, ?_⟩, by simp [intOf]⟩
        all_goals first | assumption | (intro hz; first | (exact absurd hz (by omega)) | (simp_all))
    · go_wp2
      go_region_held3 (fun w' => Below wr.heap.size wr w' ∧ w'.cell? ⟨w.heap.size, 0, none⟩ = some (.slice (some ⟨b0, o0, none⟩) B.length c0) ∧ w'.cell? ⟨w.heap.size, 1, none⟩ = some (.slice (some ⟨b1, o1, none⟩) C.length c1) ∧ w'.cell? ⟨w.heap.size + 2, 2, none⟩ = some (.int .i64 x2)) ((go_split_ands; refine ⟨?_, ?_, ?_, ?_⟩ <;> first | exact (Below.refl _ _).drew | exact ((Below.refl _ _).drew).trans hb1 | exact below_cell hb1 (show _ < wr.heap.size by omega) cp0 | exact below_cell hb1 (show _ < wr.heap.size by omega) cp1 | exact below_cell hb1 (show _ < wr.heap.size by omega) cx2 | go_keep))
        ((go_at_call 143; refine (fits b0 o0 c0 b1 o1 c1 B C k2 x2 _ hB hC ?_).mono ?_; (exact h.later hbel.drew); rintro e w1 ⟨rfl, hb1⟩))
      rename_i hHeldx; clear hHeldx
      have hs1 : wr.heap.size ≤ w1.heap.size := hb1.size
      have R : Hid _ := (⟨hbel.drew.trans (hb1.mono hbel.size), Nat.le_trans hsz hs1, below_cell hb1 (show _ < wr.heap.size by omega) cp0, below_cell hb1 (show _ < wr.heap.size by omega) cp1, below_cell hb1 (show _ < wr.heap.size by omega) cx0, below_cell hb1 (show _ < wr.heap.size by omega) cx1, below_cell hb1 (show _ < wr.heap.size by omega) cx2, below_cell hb1 (show _ < wr.heap.size by omega) cx3, below_cell hb1 (show _ < wr.heap.size by omega) cx4⟩ : Below w.heap.size w w1 ∧ w.heap.size + 3 ≤ w1.heap.size ∧ _ ∧ _ ∧ _ ∧ _ ∧ _ ∧ _ ∧ _)
      clear hb1 cp0 cp1 cx0 cx1 cx2 cx3 cx4 hbel
      go_wp2
      · go_ret
        exact ⟨ret_bool (by simp_all [fit5]), R.out.1⟩
      · obtain ⟨r1, r2, r3, r4, r5, r6, r7, r8, r9⟩ := R.out
        obtain ⟨f0, f1, f2, f3, f4⟩ := F.out
        refine ⟨⟨3, by omega, rfl, r1, r2, r3, r4, r5, r6, r7, r8, r9, ?_, ?_, ?_, ?_, ?_⟩, by simp [intOf]⟩
        all_goals first | assumption | (intro hz; first | (exact absurd hz (by omega)) | (simp_all))
    · go_wp2
      go_region_held3 (fun w' => Below wr.heap.size wr w' ∧ w'.cell? ⟨w.heap.size, 0, none⟩ = some (.slice (some ⟨b0, o0, none⟩) B.length c0) ∧ w'.cell? ⟨w.heap.size, 1, none⟩ = some (.slice (some ⟨b1, o1, none⟩) C.length c1) ∧ w'.cell? ⟨w.heap.size + 2, 3, none⟩ = some (.int .i64 x3)) ((go_split_ands; refine ⟨?_, ?_, ?_, ?_⟩ <;> first | exact (Below.refl _ _).drew | exact ((Below.refl _ _).drew).trans hb1 | exact below_cell hb1 (show _ < wr.heap.size by omega) cp0 | exact below_cell hb1 (show _ < wr.heap.size by omega) cp1 | exact below_cell hb1 (show _ < wr.heap.size by omega) cx3 | go_keep))
        ((go_at_call 143; refine (fits b0 o0 c0 b1 o1 c1 B C k3 x3 _ hB hC ?_).mono ?_; (exact h.later hbel.drew); rintro e w1 ⟨rfl, hb1⟩))
      rename_i hHeldx; clear hHeldx
      have hs1 : wr.heap.size ≤ w1.heap.size := hb1.size
      have R : Hid _ := (⟨hbel.drew.trans (hb1.mono hbel.size), Nat.le_trans hsz hs1, below_cell hb1 (show _ < wr.heap.size by omega) cp0, below_cell hb1 (show _ < wr.heap.size by omega) cp1, below_cell hb1 (show _ < wr.heap.size by omega) cx0, below_cell hb1 (show _ < wr.heap.size by omega) cx1, below_cell hb1 (show _ < wr.heap.size by omega) cx2, below_cell hb1 (show _ < wr.heap.size by omega) cx3, below_cell hb1 (show _ < wr.heap.size by omega) cx4⟩ : Below w.heap.size w w1 ∧ w.heap.size + 3 ≤ w1.heap.size ∧ _ ∧ _ ∧ _ ∧ _ ∧ _ ∧ _ ∧ _)
      clear hb1 cp0 cp1 cx0 cx1 cx2 cx3 cx4 hbel
      go_wp2
      · go_ret
        exact ⟨ret_bool (by simp_all [fit5]), R.out.1⟩
      · obtain ⟨r1, r2, r3, r4, r5, r6, r7, r8, r9⟩ := R.out
        obtain ⟨f0, f1, f2, f3, f4⟩ := F.out
        refine ⟨⟨4, by omega, rfl, r1, r2, r3, r4, r5, r6, r7, r8, r9, ?_, ?_, ?_, ?_, ?_⟩, by simp [intOf]⟩
        all_goals first | assumption | (intro hz; first | (exact absurd hz (by omega)) | (simp_all))
    · go_wp2
      go_region_held3 (fun w' => Below wr.heap.size wr w' ∧ w'.cell? ⟨w.heap.size, 0, none⟩ = some (.slice (some ⟨b0, o0, none⟩) B.length c0) ∧ w'.cell? ⟨w.heap.size, 1, none⟩ = some (.slice (some ⟨b1, o1, none⟩) C.length c1) ∧ w'.cell? ⟨w.heap.size + 2, 4, none⟩ = some (.int .i64 x4)) ((go_split_ands; refine ⟨?_, ?_, ?_, ?_⟩ <;> first | exact (Below.refl _ _).drew | exact ((Below.refl _ _).drew).trans hb1 | exact below_cell hb1 (show _ < wr.heap.size by omega) cp0 | exact below_cell hb1 (show _ < wr.heap.size by omega) cp1 | exact below_cell hb1 (show _ < wr.heap.size by omega) cx4 | go_keep))
        ((go_at_call 143; refine (fits b0 o0 c0 b1 o1 c1 B C k4 x4 _ hB hC ?_).mono ?_; (exact h.later hbel.drew); rintro e w1 ⟨rfl, hb1⟩))
      rename_i hHeldx; clear hHeldx
      have hs1 : wr.heap.size ≤ w1.heap.size := hb1.size
      have R : Hid _ := (⟨hbel.drew.trans (hb1.mono hbel.size), Nat.le_trans hsz hs1, below_cell hb1 (show _ < wr.heap.size by omega) cp0, below_cell hb1 (show _ < wr.heap.size by omega) cp1, below_cell hb1 (show _ < wr.heap.size by omega) cx0, below_cell hb1 (show _ < wr.heap.size by omega) cx1, below_cell hb1 (show _ < wr.heap.size by omega) cx2, below_cell hb1 (show _ < wr.heap.size by omega) cx3, below_cell hb1 (show _ < wr.heap.size by omega) cx4⟩ : Below w.heap.size w w1 ∧ w.heap.size + 3 ≤ w1.heap.size ∧ _ ∧ _ ∧ _ ∧ _ ∧ _ ∧ _ ∧ _)
      clear hb1 cp0 cp1 cx0 cx1 cx2 cx3 cx4 hbel
      go_wp2
      · go_ret
        exact ⟨ret_bool (by simp_all [fit5]), R.out.1⟩
      · obtain ⟨r1, r2, r3, r4, r5, r6, r7, r8, r9⟩ := R.out
        obtain ⟨f0, f1, f2, f3, f4⟩ := F.out
        refine ⟨⟨5, by omega, rfl, r1, r2, r3, r4, r5, r6, r7, r8, r9, ?_, ?_, ?_, ?_, ?_⟩, by simp [intOf]⟩
        all_goals first | assumption | (intro hz; first | (exact absurd hz (by omega)) | (simp_all))
    · go_wp2
      go_ret
      obtain ⟨f0, f1, f2, f3, f4⟩ := F.out
      exact ⟨ret_bool (by simp [fit5, f0 (by omega), f1 (by omega), f2 (by omega), f3 (by omega), f4 (by omega)]), hbel⟩

end Go.Proofs.Ytcmnmogmdhofcab.form

/- What layout.mayStand answers. -/
namespace Go.Proofs.Ytcmnmogmdhofcab.form
open Go.RowKit
set_option linter.unusedVariables false
attribute [local go_sem ↓] Go.wp_at_zero Go.wp_at_succ

def fitAs (B : List Bool) (nC : Nat) (i : LIns) (width : Int) : Bool :=
  fit5 B nC (st (kd i.op 0) width) (st (kd i.op 1) width) (st (kd i.op 2) width) (st (kd i.op 3) width) (st (kd i.op 4) width) i.dest i.a i.b i.c i.n
def standB (B : List Bool) (nC : Nat) (i : LIns) : Bool := knownB i.op && (fitAs B nC i 1 || fitAs B nC i 2)

set_option maxRecDepth 100000 in
set_option maxHeartbeats 1000000 in
theorem mayStand (b0 o0 c0 b1 o1 c1 : Nat) (B : List Bool) (C : List LIns) (i : LIns) (w : World) (hB : B.length ≤ 12) (hC : C.length ≤ 40) (h : Held w b0 o0 b1 o1 B C) (hn0 : 0 ≤ i.n) (hn1 : i.n < 4294967296) :
    Calls Try.prog 83 #[progV b0 o0 B.length c0 b1 o1 C.length c1, i.val] w fun e w' => e = .returned (.bool (standB B C.length i)) ∧ Below w.heap.size w w' := by
  unfold progV LIns.val
  by_cases hkn : knownB i.op = true
  case neg =>
    have hkf : knownB i.op = false := by simpa using hkn
    clear hkn
    go_enter Try.func83, Try.ntmps83
    go_wp2_with (go_at_call 121; refine (kindsOf _ _).mono ?_; rintro e w1 ⟨rfl, hb1⟩; unfold fiveV)
    go_ret
    exact ⟨ret_bool (by simp [standB, hkf]), ((((Below.refl _ _).alloc (Nat.le_refl _) _).alloc (by simp) _).trans (hb1.mono (by simp; omega))).alloc (by have := hb1.size; simp at this; omega) _⟩
  case pos =>
    go_enter Try.func83, Try.ntmps83
    go_wp2_with (go_at_call 121; refine (kindsOf _ _).mono ?_; rintro e w1 ⟨rfl, hb1⟩; unfold fiveV; have p0 : w1.cell? ⟨w.heap.size, 0, none⟩ = some (.slice (some ⟨b0, o0, none⟩) B.length c0) := step_cell hb1 (by simp [go_sem]); have p1 : w1.cell? ⟨w.heap.size, 1, none⟩ = some (.slice (some ⟨b1, o1, none⟩) C.length c1) := step_cell hb1 (by simp [go_sem]); have d1 : w1.cell? ⟨w.heap.size + 1, 1, none⟩ = some (.int .i64 i.dest) := step_cell hb1 (by simp [go_sem]); have d2 : w1.cell? ⟨w.heap.size + 1, 2, none⟩ = some (.int .i64 i.a) := step_cell hb1 (by simp [go_sem]); have d3 : w1.cell? ⟨w.heap.size + 1, 3, none⟩ = some (.int .i64 i.b) := step_cell hb1 (by simp [go_sem]); have d4 : w1.cell? ⟨w.heap.size + 1, 4, none⟩ = some (.int .i64 i.c) := step_cell hb1 (by simp [go_sem]); have d5 : w1.cell? ⟨w.heap.size + 1, 5, none⟩ = some (.int .u32 i.n) := step_cell hb1 (by simp [go_sem]); have hz1 : w.heap.size + 1 < w1.heap.size := (by have := hb1.size; simp at this; omega); have hz0 : w.heap.size < w1.heap.size := (by omega); have HB : Hid (Below w.heap.size w w1) := ((((Below.refl _ _).alloc (Nat.le_refl _) _).alloc (by simp) _).trans (hb1.mono (by simp; omega))); clear hb1)
    have HW : Hid (Below w.heap.size w ((w1.alloc (.cells #[.int .i64 (kd i.op 0), .int .i64 (kd i.op 1), .int .i64 (kd i.op 2), .int .i64 (kd i.op 3), .int .i64 (kd i.op 4)] 177)).alloc (.cells #[.int .i64 i.dest, .int .i64 i.a, .int .i64 i.b, .int .i64 i.c, .int .i64 i.n] 180))) := ((HB.out.alloc (by omega) _).alloc (by simp; omega) _)
    cases hf1 : fit5 B C.length (st (kd i.op 0) 1) (st (kd i.op 1) 1) (st (kd i.op 2) 1) (st (kd i.op 3) 1) (st (kd i.op 4) 1) i.dest i.a i.b i.c i.n
    case true =>
      refine wp_region_held_drew (S := (fun w' => Below w.heap.size w w' ∧ w'.cell? ⟨w.heap.size, 0, none⟩ = some (.slice (some ⟨b0, o0, none⟩) B.length c0) ∧ w'.cell? ⟨w.heap.size, 1, none⟩ = some (.slice (some ⟨b1, o1, none⟩) C.length c1) ∧ w'.cell? ⟨w1.heap.size, 0, none⟩ = some (.int .i64 (kd i.op 0)) ∧ w'.cell? ⟨w1.heap.size, 1, none⟩ = some (.int .i64 (kd i.op 1)) ∧ w'.cell? ⟨w1.heap.size, 2, none⟩ = some (.int .i64 (kd i.op 2)) ∧ w'.cell? ⟨w1.heap.size, 3, none⟩ = some (.int .i64 (kd i.op 3)) ∧ w'.cell? ⟨w1.heap.size, 4, none⟩ = some (.int .i64 (kd i.op 4)) ∧ w'.cell? ⟨w1.heap.size + 1, 0, none⟩ = some (.int .i64 i.dest) ∧ w'.cell? ⟨w1.heap.size + 1, 1, none⟩ = some (.int .i64 i.a) ∧ w'.cell? ⟨w1.heap.size + 1, 2, none⟩ = some (.int .i64 i.b) ∧ w'.cell? ⟨w1.heap.size + 1, 3, none⟩ = some (.int .i64 i.c) ∧ w'.cell? ⟨w1.heap.size + 1, 4, none⟩ = some (.int .i64 i.n))) (by kernel_rfl) ?_ (fun hHeld => ?_)
      · ((go_split_ands; refine ⟨?_, ?_, ?_, ?_, ?_, ?_, ?_, ?_, ?_, ?_, ?_, ?_, ?_⟩ <;> first | exact HW.out.drew | assumption | exact step_below (by assumption) (by assumption) | exact step_cell (by assumption) (by assumption) | go_keep))
      refine wpAnyH_take (i := 0) (v := ?_) rfl (by kernel_rfl) (by kernel_rfl) (by kernel_rfl) (fun _ _ _ h => h) (Or.inl ⟨by rfl, ?_⟩) (by assumption) ?_
      case refine_2 => (intro w hSw; (try dsimp only at hSw); go_simp; first | done | (with_reducible rfl))
      show wpAnyH _ _ _ _ _ _ _ (Act.put _ (some 28) _) _
      try simp only [Act.put]
      refine wpAnyH_take (i := 1) (v := ?_) rfl (by kernel_rfl) (by kernel_rfl) (by kernel_rfl) (fun _ _ _ h => h) (Or.inl ⟨by rfl, ?_⟩) (by assumption) ?_
      case refine_2 => (intro w hSw; (try dsimp only at hSw); go_simp; first | done | (with_reducible rfl))
      show wpAnyH _ _ _ _ _ _ _ (Act.put _ (some 29) _) _
      try simp only [Act.put]
      refine wpAnyH_take (i := 3) (v := ?_) rfl (by kernel_rfl) (by kernel_rfl) (by kernel_rfl) (fun _ _ _ h => h) (Or.inl ⟨by rfl, ?_⟩) (by assumption) ?_
      case refine_2 => (intro w hSw; (try dsimp only at hSw); go_simp; first | done | (with_reducible rfl))
      show wpAnyH _ _ _ _ _ _ _ (Act.put _ (some 31) _) _
      try simp only [Act.put]
      refine wpAnyH_ready (rs := [2]) (by kernel_rfl) (by simp) ?_
      refine AllReadyH.cons rfl (fun K hK => ?_) AllReadyH.nil
      go_simp
      go_at_call 123; refine (settle _ _ _ _ _ _ _).mono ?_; rintro e wa ⟨rfl, hba⟩; unfold fiveV
      go_wp2_with fail
      refine hK.out _ _ ?_ (fun hHeld => ?_)
      · ((go_split_ands; refine ⟨?_, ?_, ?_, ?_, ?_, ?_, ?_, ?_, ?_, ?_, ?_, ?_, ?_⟩ <;> first | exact HW.out.drew | assumption | exact step_below (by assumption) (by assumption) | exact step_cell (by assumption) (by assumption) | go_keep))
      clear hK K
      try simp only [Act.put]
      refine wpAnyH_ready (rs := [4]) (by kernel_rfl) (by simp) ?_
      refine AllReadyH.cons rfl (fun K hK => ?_) AllReadyH.nil
      go_simp
      go_at_call 122; refine (fit b0 o0 c0 b1 o1 c1 B C _ _ _ _ _ _ _ _ _ _ _ hB hC ?_).mono ?_; (go_split_ands; exact h.later (by assumption)); rintro e wb ⟨rfl, hbb⟩; rw [hf1]
      go_wp2_with fail
      refine hK.out _ _ ?_ (fun hHeld => ?_)
      · ((go_split_ands; refine ⟨?_, ?_, ?_, ?_, ?_, ?_, ?_, ?_, ?_, ?_, ?_, ?_, ?_⟩ <;> first | exact HW.out.drew | assumption | exact step_below (by assumption) (by assumption) | exact step_cell (by assumption) (by assumption) | go_keep))
      clear hK K
      try simp only [Act.put]
      refine wpAnyH_take (i := 5) (v := ?_) rfl (by kernel_rfl) (by kernel_rfl) (by kernel_rfl) (fun _ _ _ h => h) (Or.inl ⟨by rfl, ?_⟩) (by assumption) ?_
      case refine_2 => (intro w hSw; (try dsimp only at hSw); go_simp; first | done | (with_reducible rfl))
      show wpAnyH _ _ _ _ _ _ _ (Act.put _ (some 33) _) _
      try simp only [Act.put]
      refine wpAnyH_take (i := 6) (v := undef) rfl (by kernel_rfl) (by kernel_rfl) (by kernel_rfl) (fun _ _ _ h => h) (Or.inr ⟨by rfl, rfl⟩) (by assumption) ?_
      show wpAnyH _ _ _ _ _ _ _ (Act.put _ (some 34) _) _
      try simp only [Act.put]
      refine wpAnyH_take (i := 7) (v := undef) rfl (by kernel_rfl) (by kernel_rfl) (by kernel_rfl) (fun _ _ _ h => h) (Or.inr ⟨by rfl, rfl⟩) (by assumption) ?_
      show wpAnyH _ _ _ _ _ _ _ (Act.put _ (some 35) _) _
      try simp only [Act.put]
      refine wpAnyH_take (i := 9) (v := undef) rfl (by kernel_rfl) (by kernel_rfl) (by kernel_rfl) (fun _ _ _ h => h) (Or.inr ⟨by rfl, rfl⟩) (by assumption) ?_
      show wpAnyH _ _ _ _ _ _ _ (Act.put _ (some 37) _) _
      try simp only [Act.put]
      refine wpAnyH_take (i := 8) (v := undef) rfl (by kernel_rfl) (by kernel_rfl) (by kernel_rfl) (fun _ _ _ h => h) (Or.inr ⟨by rfl, rfl⟩) (by assumption) ?_
      show wpAnyH _ _ _ _ _ _ _ (Act.put _ (some 36) _) _
      try simp only [Act.put]
      refine wpAnyH_take (i := 10) (v := undef) rfl (by kernel_rfl) (by kernel_rfl) (by kernel_rfl) (fun _ _ _ h => h) (Or.inr ⟨by rfl, rfl⟩) (by assumption) ?_
      show wpAnyH _ _ _ _ _ _ _ (Act.put _ (some 38) _) _
      try simp only [Act.put]
      refine wpAnyH_take (i := 11) (v := ?_) rfl (by kernel_rfl) (by kernel_rfl) (by kernel_rfl) (fun _ _ _ h => h) (Or.inl ⟨by rfl, ?_⟩) (by assumption) ?_
      case refine_2 => (intro w hSw; (try dsimp only at hSw); go_simp; first | done | (with_reducible rfl))
      show wpAnyH _ _ _ _ _ _ _ (Act.put _ (some 39) _) _
      try simp only [Act.put]
      refine wpAnyH_take (i := 12) (v := ?_) rfl (by kernel_rfl) (by kernel_rfl) (by kernel_rfl) (fun _ _ _ h => h) (Or.inl ⟨by rfl, ?_⟩) (by assumption) ?_
      case refine_2 => (intro w hSw; (try dsimp only at hSw); go_simp; first | done | (with_reducible rfl))
      show wpAnyH _ _ _ _ _ _ _ (Act.put _ (some 4) _) _
      try simp only [Act.put]
      refine wpAnyH_done (by kernel_rfl) ?_ _
      go_wp2
      go_ret
      refine ⟨?_, hHeld.1⟩
      rw [show standB B C.length i = true by simp [standB, fitAs, hkn, hf1]]
      kernel_rfl
    case false =>
      go_region_held3 (fun w' => Below w.heap.size w w' ∧ w'.cell? ⟨w.heap.size, 0, none⟩ = some (.slice (some ⟨b0, o0, none⟩) B.length c0) ∧ w'.cell? ⟨w.heap.size, 1, none⟩ = some (.slice (some ⟨b1, o1, none⟩) C.length c1) ∧ w'.cell? ⟨w1.heap.size, 0, none⟩ = some (.int .i64 (kd i.op 0)) ∧ w'.cell? ⟨w1.heap.size, 1, none⟩ = some (.int .i64 (kd i.op 1)) ∧ w'.cell? ⟨w1.heap.size, 2, none⟩ = some (.int .i64 (kd i.op 2)) ∧ w'.cell? ⟨w1.heap.size, 3, none⟩ = some (.int .i64 (kd i.op 3)) ∧ w'.cell? ⟨w1.heap.size, 4, none⟩ = some (.int .i64 (kd i.op 4)) ∧ w'.cell? ⟨w1.heap.size + 1, 0, none⟩ = some (.int .i64 i.dest) ∧ w'.cell? ⟨w1.heap.size + 1, 1, none⟩ = some (.int .i64 i.a) ∧ w'.cell? ⟨w1.heap.size + 1, 2, none⟩ = some (.int .i64 i.b) ∧ w'.cell? ⟨w1.heap.size + 1, 3, none⟩ = some (.int .i64 i.c) ∧ w'.cell? ⟨w1.heap.size + 1, 4, none⟩ = some (.int .i64 i.n))
      ((go_split_ands; refine ⟨?_, ?_, ?_, ?_, ?_, ?_, ?_, ?_, ?_, ?_, ?_, ?_, ?_⟩ <;> first | exact HW.out.drew | assumption | exact step_below (by assumption) (by assumption) | exact step_cell (by assumption) (by assumption) | go_keep))
      ((first | (go_at_call 123; refine (settle _ _ _ _ _ _ _).mono ?_; rintro e wa ⟨rfl, hba⟩; unfold fiveV) | (go_at_call 122; refine (fit b0 o0 c0 b1 o1 c1 B C _ _ _ _ _ _ _ _ _ _ _ hB hC ?_).mono ?_; (go_split_ands; exact h.later (by assumption)); rintro e wb ⟨rfl, hbb⟩; (try rw [hf1]))))
      go_wp2
      go_ret
      rename_i hHeldx
      exact ⟨ret_bool (by simp [standB, fitAs, hkn, hf1]), hHeldx.1⟩

end Go.Proofs.Ytcmnmogmdhofcab.form

/- What layout.May answers. -/
namespace Go.Proofs.Ytcmnmogmdhofcab.form
open Go.RowKit
set_option linter.unusedVariables false

def mayB (B : List Bool) (C : List LIns) : Bool := sizesB B C && C.all (standB B C.length)

theorem may_no (v : Value) (B : List Bool) (C : List LIns) (w : World) (h : ProgIs w v B C) (hs : sizesB B C = false) :
    Calls Try.prog 49 #[v] w fun e w' => e = .returned (.bool false) ∧ Below w.heap.size w w' := by
  obtain ⟨⟨a0, c0, a1, c1, rfl, -⟩, l0, l1, -⟩ := h
  have hs' : ¬ (1 ≤ B.length ∧ B.length ≤ 12 ∧ 1 ≤ C.length ∧ C.length ≤ 40) := by
    intro hh; unfold sizesB at hs; simp at hs; omega
  have HS : Hid _ := hs'
  clear hs hs'
  go_enter Try.func49, Try.ntmps49
  go_wp2_with (go_at_call 82; refine (within _ _ _).mono ?_; rintro e w' ⟨rfl, rfl⟩)
  all_goals first
    | (go_ret; exact ⟨rfl, (Below.refl _ _).alloc (Nat.le_refl _) _⟩)
    | (exfalso; apply HS.out; simp_all; omega)

set_option maxRecDepth 100000 in
set_option maxHeartbeats 1000000 in
theorem may_yes (b0 o0 c0 b1 o1 c1 : Nat) (B : List Bool) (C : List LIns) (w : World) (h : Held w b0 o0 b1 o1 B C) (hn : ∀ i, i < C.length → 0 ≤ (C.getD i .zero).n ∧ (C.getD i .zero).n < 4294967296) (hs : sizesB B C = true) :
    Calls Try.prog 49 #[progV b0 o0 B.length c0 b1 o1 C.length c1] w fun e w' => e = .returned (.bool (C.all (standB B C.length))) ∧ Below w.heap.size w w' := by
  obtain ⟨s1, s2, s3, s4⟩ := sizes_of hs
  have j1 : (1 : Int) ≤ (B.length : Int) := by omega
  have j2 : (B.length : Int) ≤ 12 := by omega
  have j3 : (1 : Int) ≤ (C.length : Int) := by omega
  have j4 : (C.length : Int) ≤ 40 := by omega
  unfold progV
  go_enter Try.func49, Try.ntmps49
  go_wp2_with (go_at_call 82; refine (within _ _ _).mono ?_; rintro e w' ⟨rfl, rfl⟩)
  go_loopw [20] (fun i wr => ∃ k : Nat, k ≤ C.length ∧ i = .int .i64 k ∧ Below w.heap.size w wr ∧ w.heap.size < wr.heap.size ∧
      wr.cell? ⟨w.heap.size, 0, none⟩ = some (.slice (some ⟨b0, o0, none⟩) B.length c0) ∧ wr.cell? ⟨w.heap.size, 1, none⟩ = some (.slice (some ⟨b1, o1, none⟩) C.length c1) ∧
      (∀ j, j < k → standB B C.length (C.getD j .zero) = true))
    (fun i _ => C.length - (intOf i).toNat)
  case atStart => exact ⟨0, by omega, rfl, (Below.refl _ _).alloc (Nat.le_refl _) _, by simp, by simp [go_sem], by simp [go_sem], fun j hj => absurd hj (by omega)⟩
  case round =>
    obtain ⟨k, hk, rfl, hbel, hsz, cp0, cp1, hall⟩ := hrel
    have F : Hid _ := hall
    have HN : Hid _ := hn
    clear hall hn
    have hh := h.later hbel
    by_cases hlt : k < C.length
    · obtain ⟨d0, d1, d2, d3, d4, d5⟩ := hh.code k hlt
      obtain ⟨n0, n1⟩ := HN.out k hlt
      obtain ⟨i, hi⟩ : ∃ i, i = C.getD k .zero := ⟨_, rfl⟩
      rw [← hi] at d0 d1 d2 d3 d4 d5 n0 n1
      have HI : Hid _ := hi
      clear hi
      go_wp2_with (go_at_call 83; refine (mayStand b0 o0 c0 b1 o1 c1 B C i _ s2 s4 ?_ n0 n1).mono ?_; (exact hh.alloc _); rintro e w1 ⟨rfl, hb1⟩)
      all_goals
        have hb2 := over_alloc hb1
        have hbel1 := step_below hb2 hbel
      · go_ret
        refine ⟨ret_bool ?_, hbel1⟩
        have hf : standB B C.length i = false := by simp_all
        rw [eq_comm, List.all_eq_false]
        refine ⟨i, ?_, by simp [hf]⟩
        rw [HI.out]
        simp [List.getD, hlt]
      · refine ⟨⟨k + 1, by omega, by go_num, hbel1, Nat.lt_of_lt_of_le hsz hb2.size, step_cell hb2 cp0, step_cell hb2 cp1, ?_⟩, by simp [intOf]; omega⟩
        intro j hj
        by_cases hjk : j < k
        · exact F.out j hjk
        · obtain rfl : j = k := by omega
          rw [← HI.out]
          simp_all
    · go_wp2
      go_ret
      exact ⟨ret_bool (by
        rw [List.all_eq_true.2]
        intro x hx
        obtain ⟨j, hj, rfl⟩ := List.getElem_of_mem hx
        have := F.out j (by omega)
        simpa [List.getD, hj] using this), hbel⟩

/-- layout.May, whatever came in. -/
theorem may (v : Value) (B : List Bool) (C : List LIns) (w : World) (h : ProgIs w v B C) :
    Calls Try.prog 49 #[v] w fun e w' => e = .returned (.bool (mayB B C)) ∧ Below w.heap.size w w' := by
  cases hs : sizesB B C with
  | false => rw [show mayB B C = false by simp [mayB, hs]]; exact may_no v B C w h hs
  | true =>
    rw [show mayB B C = C.all (standB B C.length) by simp [mayB, hs]]
    obtain ⟨s1, s2, s3, s4⟩ := sizes_of hs
    obtain ⟨⟨a0, c0, a1, c1, rfl, hh⟩, l0, l1, hn⟩ := h
    obtain ⟨b0, o0, b1, o1, rfl, rfl, hH⟩ := hh s1 s3
    exact may_yes b0 o0 c0 b1 o1 c1 B C w hH hn hs

end Go.Proofs.Ytcmnmogmdhofcab.form

/- The program's answer to whether an instruction may stand is the document's. -/
namespace Go.Proofs.Ytcmnmogmdhofcab.form
set_option linter.unusedVariables false

theorem same_at (B : List Bool) (nC : Nat) (i : LIns) (n : Int) (hop : i.op = n) (hn : n = 1 ∨ n = 2 ∨ n = 3 ∨ n = 4 ∨ n = 5 ∨ n = 6 ∨ n = 7 ∨ n = 8 ∨ n = 9 ∨ n = 10) : standB B nC i = insB B nC i := by
  obtain ⟨op, d, a, b, c, N⟩ := i
  simp only at hop
  subst hop
  rw [Bool.eq_iff_iff]
  rcases hn with rfl | rfl | rfl | rfl | rfl | rfl | rfl | rfl | rfl | rfl
  all_goals simp [standB, fitAs, fit5, fitB, st, kd, knownB, insB, fieldB, lineB, widthsB, wl, wl0, wl1, givesB, manyI, bw]
  case inr.inl =>
    generalize B[d.toNat]?.getD false = x
    generalize B[a.toNat]?.getD false = y
    cases x <;> cases y <;> simp <;> omega
  all_goals
    generalize B[d.toNat]?.getD false = x
    generalize B[a.toNat]?.getD false = y
    generalize B[b.toNat]?.getD false = z
    constructor <;> intro h <;> simp_all

theorem same_narrow (B : List Bool) (nC : Nat) (i : LIns) (h1 : 21 ≤ i.op) (h2 : i.op ≤ 26) : standB B nC i = insB B nC i := by
  have hk := known_narrow i.op h1 h2
  have hd := kd_narrow i.op h1 h2
  have hg : givesB i.op = true := by unfold givesB; simp; omega
  have hm : manyI i.op = 2 := by unfold manyI; rw [if_neg (by omega), if_neg (by omega)]
  have hl : lineB nC i = (i.c == 0) := by unfold lineB; rw [if_neg (by omega)]
  have h1' : (i.op == 1) = false := by simp; omega
  have hw : widthsB B i = (wl B i).all (fun x => x == false) := by
    unfold widthsB
    rw [if_neg (by omega), if_neg (by omega), if_neg (by omega), show decide (40 < i.op) = false by simp; omega]
  rw [Bool.eq_iff_iff]
  simp [standB, fitAs, fit5, hk, hd, insB, hg, hm, hl, h1', hw, st, fitB, fieldB, wl, wl0, wl1, bw]
  clear hw
  generalize B[i.dest.toNat]?.getD false = x
  generalize B[i.a.toNat]?.getD false = y
  generalize B[i.b.toNat]?.getD false = z
  constructor <;> intro h <;> simp_all

theorem same_wide (B : List Bool) (nC : Nat) (i : LIns) (h1 : 41 ≤ i.op) (h2 : i.op ≤ 45) : standB B nC i = insB B nC i := by
  have hk := known_wide i.op h1 h2
  have hd := kd_wide i.op h1 h2
  have hg : givesB i.op = true := by unfold givesB; simp; omega
  have hm : manyI i.op = 2 := by unfold manyI; rw [if_neg (by omega), if_neg (by omega)]
  have hl : lineB nC i = (i.c == 0) := by unfold lineB; rw [if_neg (by omega)]
  have h1' : (i.op == 1) = false := by simp; omega
  have hw : widthsB B i = (wl B i).all (fun x => x == true) := by
    unfold widthsB
    rw [if_neg (by omega), if_neg (by omega), if_neg (by omega), show decide (40 < i.op) = true by simp; omega]
  rw [Bool.eq_iff_iff]
  simp [standB, fitAs, fit5, hk, hd, insB, hg, hm, hl, h1', hw, st, fitB, fieldB, wl, wl0, wl1, bw]
  clear hw
  generalize B[i.dest.toNat]?.getD false = x
  generalize B[i.a.toNat]?.getD false = y
  generalize B[i.b.toNat]?.getD false = z
  constructor <;> intro h <;> simp_all

theorem stand_ins (B : List Bool) (nC : Nat) (i : LIns) : standB B nC i = insB B nC i := by
  cases hk : knownB i.op with
  | false => simp [standB, insB, hk]
  | true =>
    have hk' := hk
    unfold knownB at hk'
    simp at hk'
    rcases hk' with (⟨h1, h2⟩ | ⟨h1, h2⟩) | ⟨h1, h2⟩
    · exact same_at B nC i i.op rfl (by omega)
    · exact same_narrow B nC i h1 h2
    · exact same_wide B nC i h1 h2

theorem may_same (B : List Bool) (C : List LIns) : mayB B C = refMayB B C := by
  unfold mayB refMayB
  rw [show standB B C.length = insB B C.length from funext (stand_ins B C.length)]

end Go.Proofs.Ytcmnmogmdhofcab.form
