/- The document's function that tells what may not be in one place (loanbookref5.Of): rows of truths. -/
import Derived.Test.YtgeimilnddpdmabNearRef
namespace Go.Proofs.Ytgeimilnddpdmab.form
open Go.RowKit
set_option linter.unusedVariables false
attribute [local go_sem ↓] Go.wp_at_zero Go.wp_at_succ

/-- Rows of truths that are made one behind the other, over a world that stays. -/
structure RwS (w : World) (nB : Nat) (P : Nat → Nat → Prop) (k : Nat) (vs : List Value) (R : List (List Bool)) (v : Value) (wr : World) : Prop where
  bel : Below w.heap.size w wr
  lv : vs.length = k
  lr : R.length = k
  own : wr.ownsRow w.heap.size 22 1 v k vs
  rows : ∀ j, j < k → (R.getD j []).length = nB ∧ (∀ t, t < nB → ((R.getD j []).getD t false = true ↔ P j t)) ∧
    ∃ b, vs.getD j .nilFunc = .slice (some ⟨b, 0, none⟩) nB nB ∧ b < wr.heap.size ∧ v.ownBlock ≠ some b ∧ ∀ q, q < nB → wr.cell? ⟨b, q, none⟩ = some (.bool ((R.getD j []).getD q false))

section
variable {w : World} {nB : Nat} {P : Nat → Nat → Prop} {k : Nat} {vs : List Value} {R : List (List Bool)} {v : Value} {wr w1 : World}

theorem RwS.start (w : World) (nB : Nat) (P : Nat → Nat → Prop) : RwS w nB P 0 [] [] (.slice none 0 0) w :=
  ⟨Below.refl _ _, rfl, rfl, World.ownsRow_nil _ _ _ _, fun j hj => absurd hj (by omega)⟩

theorem RwS.below (h : RwS w nB P k vs R v wr) (hb : Below wr.heap.size wr w1) : RwS w nB P k vs R v w1 := by
  refine ⟨step_below hb h.bel, h.lv, h.lr, World.ownsRow.kept h.own ⟨hb.os, hb.tape, hb.output, hb.size, fun j hj _ => hb.block j hj⟩ (row := none) (by cases v.ownBlock <;> simp), fun j hj => ?_⟩
  obtain ⟨h1, h2, b, h3, h4, h5, h6⟩ := h.rows j hj
  exact ⟨h1, h2, b, h3, Nat.lt_of_lt_of_le h4 hb.size, h5, fun q hq => step_cell hb (h6 q hq)⟩

theorem RwS.push (h : RwS w nB P k vs R v wr) {rb g cap H : Nat} {l : List Bool} (hH : wr.heap.size = H)
    (hl : l.length = nB) (ht : ∀ t, t < nB → (l.getD t false = true ↔ P k t)) (hrb : rb < wr.heap.size) (hne : v.ownBlock ≠ some rb) (hc : ∀ q, q < nB → wr.cell? ⟨rb, q, none⟩ = some (.bool (l.getD q false)))
    (hown : w1.ownsRow w.heap.size 22 1 (.slice (some ⟨g, 0, none⟩) (k + 1) cap) (k + 1) (vs ++ [.slice (some ⟨rb, 0, none⟩) nB nB])) (hgrow : wr.grownBy w1 v.ownBlock) (hat : v.ownBlock = some g ∨ g = H) :
    RwS w nB P (k + 1) (vs ++ [.slice (some ⟨rb, 0, none⟩) nB nB]) (R ++ [l]) (.slice (some ⟨g, 0, none⟩) (k + 1) cap) w1 := by
  have hng : ∀ b, b < wr.heap.size → v.ownBlock ≠ some b → (Value.slice (some ⟨g, 0, none⟩) (k + 1) cap).ownBlock ≠ some b := by
    intro b hb hn
    simp only [Value.ownBlock, ne_eq, Option.some.injEq]
    rcases hat with hat | hat
    · intro e; rw [e] at hat; exact hn hat
    · omega
  have hz := h.bel.size
  refine ⟨h.bel.grown hgrow (by omega) (fun j hj => by have := (World.ownsRow.lt h.own _ hj).1; omega), by simp [h.lv], by simp [h.lr], hown, fun j hj => ?_⟩
  · by_cases hjk : j < k
    · obtain ⟨h1, h2, b, h3, h4, h5, h6⟩ := h.rows j hjk
      have e1 : (R ++ [l]).getD j [] = R.getD j [] := by simp [List.getD, List.getElem?_append_left (show j < R.length by rw [h.lr]; exact hjk)]
      have e2 : (vs ++ [Value.slice (some ⟨rb, 0, none⟩) nB nB]).getD j .nilFunc = vs.getD j .nilFunc := by simp [List.getD, List.getElem?_append_left (show j < vs.length by rw [h.lv]; exact hjk)]
      rw [e1, e2]
      exact ⟨h1, h2, b, h3, Nat.lt_of_lt_of_le h4 hgrow.size, hng b h4 h5, fun q hq => by rw [hgrow.cell_far _ (by dsimp only; omega) (Ne.symm h5)]; exact h6 q hq⟩
    · obtain rfl : j = k := by omega
      have e1 : (R ++ [l]).getD j [] = l := by simp [List.getD, h.lr]
      have e2 : (vs ++ [Value.slice (some ⟨rb, 0, none⟩) nB nB]).getD j .nilFunc = .slice (some ⟨rb, 0, none⟩) nB nB := by simp [List.getD, h.lv]
      rw [e1, e2]
      exact ⟨hl, ht, rb, rfl, Nat.lt_of_lt_of_le hrb hgrow.size, hng rb hrb hne, fun q hq => by rw [hgrow.cell_far _ (by dsimp only; omega) (Ne.symm hne)]; exact hc q hq⟩

theorem RwS.mat (h : RwS w nB P k vs R v wr) (hk : k ≤ 40) (hB : nB ≤ 12) : MatIs wr v R := by
  by_cases hn : 0 < k
  · obtain ⟨g, cap, rfl, hbg, hlt⟩ := h.own.form hn
    refine ⟨_, cap, by rw [h.lr], by rw [h.lr]; omega, fun _ => ⟨g, 0, rfl, hlt, fun j hj => ?_⟩⟩
    rw [h.lr] at hj
    obtain ⟨h1, h2, b, h3, h4, h5, h6⟩ := h.rows j hj
    refine ⟨vs.getD j .nilFunc, ?_, some ⟨b, 0, none⟩, nB, by rw [h3, h1], by omega, fun _ => ⟨b, 0, rfl, h4, fun q hq => ?_⟩⟩
    · rw [Nat.zero_add, World.ownsRow.cellAt h.own j (by omega)]
      simp [List.getD, h.lv, hj]
    · rw [Nat.zero_add]; exact h6 q (by omega)
  · have hk0 : k = 0 := by omega
    subst hk0
    have hR : R = [] := List.length_eq_zero_iff.1 h.lr
    subst hR
    rcases h.own.2 with ⟨rfl, _⟩ | ⟨g, cap, cur, rfl, _⟩
    · exact ⟨none, 0, rfl, by simp, fun hh => absurd hh (by simp)⟩
    · exact ⟨_, cap, rfl, by simp, fun hh => absurd hh (by simp)⟩

theorem RwS.tru (h : RwS w nB P k vs R v wr) : TruthMat k nB P R := ⟨h.lr, fun j hj => (h.rows j hj).1, fun j hj t ht => (h.rows j hj).2.1 t ht⟩
end

/-- The answer. -/
def NearAns (nB : Nat) (C : List LIns) (e : Ending) (w : World) : Prop := ∃ v R, e = .returned v ∧ MatIs w v R ∧ NearMat nB C R

/-- A mark says whether something is so. -/
def Says (s : Bool) (P : Prop) : Prop := s = true ↔ P

/-- Near, by those of so many instructions. -/
def NearTo (C : List LIns) (m a b : Nat) : Prop := (Need C a 0 ∧ Need C b 0) ∨ ∃ k, k < m ∧ (NearAt C k a b ∨ NearAt C k b a)

theorem nearMat_of {C : List LIns} {q a j : Nat} {s : Bool} (h : s = true ↔ NearTo C q a j) (hq : q ≤ C.length) (he : s = true ∨ q = C.length) : ((s && ((a : Int) != (j : Int))) = true ↔ Near C a j) := by
  rw [Bool.and_eq_true, bne_iff_ne]
  constructor
  · rintro ⟨h1, h2⟩
    refine ⟨h2, ?_⟩
    rcases h.1 h1 with h3 | ⟨k, hk, h3⟩
    · exact Or.inl h3
    · exact Or.inr ⟨k, by omega, h3⟩
  · rintro ⟨h1, h2⟩
    refine ⟨?_, h1⟩
    rcases he with he | he
    · exact he
    · rw [h]
      rcases h2 with h3 | ⟨k, hk, h3⟩
      · exact Or.inl h3
      · exact Or.inr ⟨k, by omega, h3⟩
theorem nearTo_succ {C : List LIns} {q a j : Nat} {x y : Bool} (h : ¬ NearTo C q a j) (hx : x = true ↔ NearAt C q a j) (hy : y = true ↔ NearAt C q j a) : (x || y) = true ↔ NearTo C (q + 1) a j := by
  rw [Bool.or_eq_true, hx, hy]
  constructor
  · exact fun h1 => Or.inr ⟨q, by omega, h1⟩
  · rintro (h1 | ⟨k, hk, h1⟩)
    · exact absurd (Or.inl h1) h
    · by_cases e : k = q
      · rw [← e]; exact h1
      · exact absurd (Or.inr ⟨k, by omega, h1⟩) h
theorem near_row {C : List LIns} {a j nB : Nat} {l : List Bool} {s : Bool} (hl : l.length = nB) (hj : j < nB) (hT : ∀ q, q < j → (l.getD q false = true ↔ Near C a q)) (hs : s = true ↔ Near C a j) : ∀ q, q < j + 1 → ((l.set j s).getD q false = true ↔ Near C a q) := by
  intro q hq
  by_cases hqj : q = j
  · subst hqj
    rw [show (l.set q s).getD q false = s by simp [List.getD, hl, hj]]
    exact hs
  · rw [show (l.set j s).getD q false = l.getD q false by simp [List.getD, Ne.symm hqj]]
    exact hT q (by omega)

set_option maxRecDepth 100000 in
set_option maxHeartbeats 3000000 in
theorem of5 (b0 o0 c0 b1 o1 c1 : Nat) (B : List Bool) (C : List LIns) (w : World) (hB : B.length ≤ 12) (hC : C.length ≤ 40) (hC1 : 1 ≤ C.length) (h : Held w b0 o0 b1 o1 B C) (hok : ∀ k, k < C.length → InsOk B.length C.length (C.getD k .zero)) :
    Calls Try.prog 8 #[progV b0 o0 B.length c0 b1 o1 C.length c1] w fun e w' => NearAns B.length C e w' ∧ Below w.heap.size w w' := by
  have HO4 : Hid (∀ wx : World, Below w.heap.size w wx → Calls Try.prog 26 #[progV b0 o0 B.length c0 b1 o1 C.length c1] wx fun e w' => OfAns B.length C e w' ∧ Below wx.heap.size wx w') := fun wx hb => of4 b0 o0 c0 b1 o1 c1 B C wx hB hC (h.later hb) hok
  have HG5 : Hid (∀ (wx : World) (v : Value) (R : List (List Bool)) (k a b : Nat), Below w.heap.size w wx → MatIs wx v R → NeedMat B.length C R → k < C.length → a < B.length → b < B.length → Calls Try.prog 27 #[progV b0 o0 B.length c0 b1 o1 C.length c1, v, .int .i64 k, .int .i64 a, .int .i64 b] wx fun e w' => e = .returned (.bool (nearG C R k a b)) ∧ Below wx.heap.size wx w') :=
    fun wx v R k a b hb hM hN hk ha hb' => gives5 b0 o0 c0 b1 o1 c1 B C v R k a b wx hB hC (h.later hb) hok hM hN.len hN.row hk ha hb'
  have HIF : Hid (∀ R k a b, NeedMat B.length C R → k < C.length → b < B.length → (nearG C R k a b = true ↔ NearAt C k a b)) := fun R k a b hN hk hb => nearG_iff hN hok hk hb
  have hmk := fun wx => run_make_row' (P := Try.prog) 22 4 (.bool false) 1 Try.underlying22 infBool rfl .i64 .i64 B.length (by omega) (by omega) wx
  have y2 : (C.length : Int) ≤ 40 := by omega
  have y3 : (B.length : Int) ≤ 12 := by omega
  clear hok h
  unfold progV
  go_enter Try.func8, Try.ntmps8
  go_wp2_with (go_at_call 26; refine (HO4.out _ ?_).mono ?_; (exact (Below.refl _ _).alloc (Nat.le_refl _) _); rintro e w1 ⟨⟨nv, R0, rfl, hM0, hN0⟩, hb1⟩; have p0 : w1.cell? ⟨w.heap.size, 0, none⟩ = some (.slice (some ⟨b0, o0, none⟩) B.length c0) := step_cell hb1 (by simp [go_sem]); have p1 : w1.cell? ⟨w.heap.size, 1, none⟩ = some (.slice (some ⟨b1, o1, none⟩) C.length c1) := step_cell hb1 (by simp [go_sem]); have HB1 : Hid (Below w.heap.size w w1) := over_alloc hb1; have HM0 : Hid (MatIs w1 nv R0) := hM0; have HN0 : Hid (NeedMat B.length C R0) := hN0; clear hb1 hM0 hN0)
  have HP0 : Hid (w1.cell? ⟨w.heap.size, 0, none⟩ = some (.slice (some ⟨b0, o0, none⟩) B.length c0)) := p0
  have HP1 : Hid (w1.cell? ⟨w.heap.size, 1, none⟩ = some (.slice (some ⟨b1, o1, none⟩) C.length c1)) := p1
  have hz1 : w.heap.size < w1.heap.size := World.block_lt_of_cell? w1 _ p0
  -- the first row of what is needed
  have hM := HM0.out
  obtain ⟨ao, mcap, rfl, -, hcell⟩ := hM
  have hRl := HN0.out.len
  obtain ⟨mb, mo, rfl, hmb, hcells⟩ := hcell (by omega)
  obtain ⟨rv, hrv, hbr⟩ := hcells 0 (by omega)
  obtain ⟨rao, rcap, rfl, -, hrc⟩ := hbr
  have hr0 := HN0.out.row 0 (by omega)
  have hrv' : w1.cell? ⟨mb, mo, none⟩ = some (.slice rao B.length rcap) := by rw [← hr0]; simpa using hrv
  have HRV : Hid (w1.cell? ⟨mb, mo, none⟩ = some (.slice rao B.length rcap)) := hrv'
  have HRC : Hid (0 < B.length → ∃ rb ro, rao = some ⟨rb, ro, none⟩ ∧ ∀ j, j < B.length → w1.cell? ⟨rb, ro + j, none⟩ = some (.bool ((R0.getD 0 []).getD j false))) := by
    intro h0
    obtain ⟨rb, ro, e, _, hh⟩ := hrc (by omega)
    exact ⟨rb, ro, e, fun j hj => hh j (by omega)⟩
  have HM1 : Hid (MatIs w1 (.slice (some ⟨mb, mo, none⟩) C.length mcap) R0) := by rw [← hRl]; exact HM0.out
  rw [hRl]
  have x4 : (0 : Int) < (C.length : Int) := by omega
  clear hcell hcells hrc hrv hrv' hr0 p0 p1 hRl HM0
  go_loopw [4, 5] (fun v kv wr => ∃ (k : Nat) (vs : List Value) (R : List (List Bool)) (v0 : Value), v0 = v ∧ kv = .int .i64 k ∧ k ≤ B.length ∧ RwS w1 B.length (fun a b => Near C a b) k vs R v wr) (fun _ kv _ => B.length - (intOf kv).toNat)
  case atStart => exact ⟨0, [], [], _, rfl, rfl, by omega, RwS.start _ _ _⟩
  case round =>
    obtain ⟨a, vs, R, v, rfl, rfl, hk, ho⟩ := hrel
    obtain ⟨wo, hwo⟩ : ∃ x, x = wr := ⟨_, rfl⟩
    subst hwo
    have HO : Hid (RwS w1 B.length (fun a b => Near C a b) a vs R v wo) := ho
    have p0 := step_cell ho.bel HP0.out
    have p1 := step_cell ho.bel HP1.out
    have hz := ho.bel.size
    have HBO : Hid (Below w1.heap.size w1 wo) := ho.bel
    clear ho
    by_cases hlt : a < B.length
    case neg =>
      have e1 : ¬ (a : Int) < (B.length : Int) := by omega
      go_wp2
      go_ret
      obtain rfl : a = B.length := by omega
      exact ⟨⟨v, R, rfl, HO.out.mat (by omega) hB, HO.out.tru⟩, step_below HBO.out HB1.out⟩
    have e1 : (a : Int) < (B.length : Int) := by omega
    have e0 : (0 : Int) ≤ (a : Int) := by omega
    have hdec : 0 ≤ B.length := by omega
    have hzw : w.heap.size < wo.heap.size := by omega
    go_wp2
    go_loopw [7] (fun tv wr2 => ∃ (j : Nat) (l : List Bool), tv = .int .i64 j ∧ j ≤ B.length ∧ l.length = B.length ∧ (∀ q, q < j → (l.getD q false = true ↔ Near C a q)) ∧ Below wo.heap.size wo wr2 ∧ Row wr2 wo.heap.size 4 (l.map Value.bool)) (fun tv _ => B.length - (intOf tv).toNat)
    case atStart =>
      refine ⟨0, List.replicate B.length false, rfl, by omega, by simp, fun q hq => absurd hq (by omega), (Below.refl _ _).alloc (Nat.le_refl _) _, ?_⟩
      rw [made_bool]
      exact Row.new wo _ _
    case round =>
      obtain ⟨j, l, rfl, hj, hl, hT, hb, hrow⟩ := hrel
      obtain ⟨wi, hwi⟩ : ∃ x, x = wr := ⟨_, rfl⟩
      subst hwi
      have HT : Hid (∀ q : Nat, q < j → (l.getD q false = true ↔ Near C a q)) := hT
      have HBW : Hid (Below wo.heap.size wo wi) := hb
      have HROW : Hid (Row wi wo.heap.size 4 (l.map Value.bool)) := hrow
      have HB1I : Hid (Below w1.heap.size w1 wi) := step_below hb HBO.out
      have q0 := step_cell hb p0
      have q1 := step_cell hb p1
      have HQ0 : Hid (wi.cell? ⟨w.heap.size, 0, none⟩ = some (.slice (some ⟨b0, o0, none⟩) B.length c0)) := q0
      have HQ1 : Hid (wi.cell? ⟨w.heap.size, 1, none⟩ = some (.slice (some ⟨b1, o1, none⟩) C.length c1)) := q1
      have hzr := hrow.lt
      have HOB : Hid (RwS w1 B.length (fun a b => Near C a b) a vs R v wi) := HO.out.below hb
      clear hb hrow hT p0 p1
      by_cases hjl : j < B.length
      case neg =>
        have y5 : ¬ (j : Int) < (B.length : Int) := by omega
        obtain ⟨t0', hi0, hy0, hy1, hy2⟩ := info_parts infRow
        have hone : v.ownBlock ≠ some wo.heap.size := fun e => by have := (World.ownsRow.lt HO.out.own _ e).2; omega
        go_wp2_with (at_builtin; refine wpList_append_lies _ rfl _ _ 31 rfl w1.heap.size 22 t0' (.slice none 0 0) 1 24 Try.underlying31 hi0 hy0 hy1 hy2 rfl (by decide) v a vs rfl (World.ownsRow.alloc HOB.out.own _) ⟨wi.heap.size, 0, none⟩ 1 1 [.slice (some ⟨wo.heap.size, 0, none⟩) B.length B.length] rfl rfl ?c1 ?c2 (by decide) ?c3 ?c4 ?c5 _ rfl ?_)
        case c2 => simp [Value.oneCell']
        case c3 => unfold maxLen; omega
        case c4 => omega
        case c5 => first | omega | (simp; omega)
        intro g9 cap9 w9 hown hgrow hat hlt9
        have hP := (HOB.out.below ((Below.refl _ _).alloc (Nat.le_refl _) (.cells #[.slice (some ⟨wo.heap.size, 0, none⟩) B.length B.length] 22))).push (rb := wo.heap.size) (l := l) rfl hl (fun t ht => HT.out t (by omega)) (by simp; omega) hone (fun q hq => by
          refine step_cell ((Below.refl _ _).alloc (Nat.le_refl _) _) ?_
          rw [HROW.out.cell]; simp [List.getD, hl, hq]) hown hgrow (by simpa using hat)
        have RP : Hid (RwS w1 B.length (fun a b => Near C a b) (a + 1) (vs ++ [.slice (some ⟨wo.heap.size, 0, none⟩) B.length B.length]) (R ++ [l]) (.slice (some ⟨g9, 0, none⟩) (a + 1) cap9) w9) := hP
        clear hP hown hgrow hat
        go_wp2
        go_roundw
        case rel => exact ⟨a + 1, _, _, _, rfl, by go_num, by omega, RP.out⟩
        case measure => simp [intOf]; omega
      have y5 : (j : Int) < (B.length : Int) := by omega
      have y6 : (0 : Int) ≤ (j : Int) := by omega
      obtain ⟨rb, ro, rfl, hrc⟩ := HRC.out (by omega)
      have m0 := step_cell HB1I.out HRV.out
      have m1 := step_cell HB1I.out (hrc a hlt)
      have m2 := step_cell HB1I.out (hrc j hjl)
      have n1 := HN0.out.tru 0 (by omega) a hlt
      have n2 := HN0.out.tru 0 (by omega) j hjl
      obtain ⟨u1, hu1⟩ : ∃ u, u = (R0.getD 0 []).getD a false := ⟨_, rfl⟩
      obtain ⟨u2, hu2⟩ : ∃ u, u = (R0.getD 0 []).getD j false := ⟨_, rfl⟩
      rw [← hu1] at m1 n1
      rw [← hu2] at m2 n2
      have hU : (u1 && u2) = true ↔ (Need C a 0 ∧ Need C j 0) := by rw [Bool.and_eq_true, n1, n2]
      have HU : Hid (Says (u1 && u2) (Need C a 0 ∧ Need C j 0)) := hU
      clear hU
      clear hu1 hu2 n1 n2 hrc
      obtain ⟨u, hu⟩ : ∃ u, u = (u1 && u2) := ⟨_, rfl⟩
      rw [← hu] at HU
      rcases (show (u1 = false ∧ u = false) ∨ (u1 = true ∧ u2 = true ∧ u = true) ∨ (u1 = true ∧ u2 = false ∧ u = false) by rw [hu]; cases u1 <;> cases u2 <;> simp) with ⟨rfl, rfl⟩ | ⟨rfl, rfl, rfl⟩ | ⟨rfl, rfl, rfl⟩ <;> clear hu
      all_goals
        go_wp2
        go_loopw [8, 9] (fun sv qv wr3 => ∃ (s : Bool) (q : Nat), sv = .bool s ∧ qv = .int .i64 q ∧ q ≤ C.length ∧ Below wi.heap.size wi wr3 ∧ Says s (NearTo C q a j)) (fun _ qv _ => C.length - (intOf qv).toNat)
        case atStart => exact ⟨_, 0, rfl, rfl, by omega, Below.refl _ _, ⟨fun h => Or.inl (HU.out.1 h), fun h => HU.out.2 (h.elim id (fun ⟨k, hk, _⟩ => absurd hk (by omega)))⟩⟩
        case round =>
          clear m0 m1 m2 q0 q1
          obtain ⟨s, q, rfl, rfl, hq, hb3, hsq⟩ := hrel
          have HB3 : Hid (Below wi.heap.size wi wr) := hb3
          have HSQ : Hid (Says s (NearTo C q a j)) := hsq
          have r0 := step_cell hb3 HQ0.out
          have r1 := step_cell hb3 HQ1.out
          have hr3 := HROW.out.below hb3
          have fz := hr3.frozen j
          have cz : wr.cell? ⟨wo.heap.size, j, none⟩ = some (.bool (l.getD j false)) := by rw [hr3.cell]; simp [List.getD, hl, hjl]
          have HR3 : Hid (Row wr wo.heap.size 4 (l.map Value.bool)) := hr3
          have HBE : Hid (Below wo.heap.size wo wr) := step_below hb3 HBW.out
          clear hb3 hsq hr3
          have hset : ∀ s' : Bool, (s' = true ↔ Near C a j) → ∃ (j_1 : Nat) (l_1 : List Bool), Value.int .i64 ((j : Int) + 1) = .int .i64 j_1 ∧ j_1 ≤ B.length ∧ l_1.length = B.length ∧ (∀ q, q < j_1 → (l_1.getD q false = true ↔ Near C a q)) ∧ Below wo.heap.size wo (wr.setCell ⟨wo.heap.size, j, none⟩ (.bool s')) ∧ Row (wr.setCell ⟨wo.heap.size, j, none⟩ (.bool s')) wo.heap.size 4 (l_1.map Value.bool) := by
            intro s' hs'
            refine ⟨j + 1, l.set j s', by go_num, by omega, by simp [hl], near_row hl hjl HT.out hs', HBE.out.setCell (by simp) _, ?_⟩
            have := HR3.out.set j (.bool s')
            simpa [List.map_set] using this
          have HSET : Hid _ := hset
          clear hset
          by_cases hql : q < C.length
          · have v1 : (q : Int) < (C.length : Int) := by omega
            have v0 : (0 : Int) ≤ (q : Int) := by omega
            cases s with
            | true =>
              have hn := nearMat_of HSQ.out hq (Or.inl rfl)
              have HN : Hid ((true && ((a : Int) != (j : Int))) = true ↔ Near C a j) := hn
              clear hn
              go_wp2
              go_roundw
              case rel => exact HSET.out _ (by simpa using HN.out)
              case measure => simp [intOf]; omega
            | false =>
              have hno : ¬ NearTo C q a j := fun h => by have := HSQ.out.2 h; simp at this
              have HX : Hid (nearG C R0 q a j = true ↔ NearAt C q a j) := HIF.out R0 q a j HN0.out hql hjl
              have HY : Hid (nearG C R0 q j a = true ↔ NearAt C q j a) := HIF.out R0 q j a HN0.out hql hlt
              have HNX : Hid (Says (nearG C R0 q a j || nearG C R0 q j a) (NearTo C (q + 1) a j)) := nearTo_succ hno HX.out HY.out
              clear hno HX HY
              obtain ⟨gx, hgx⟩ : ∃ x, x = nearG C R0 q a j := ⟨_, rfl⟩
              obtain ⟨gy, hgy⟩ : ∃ x, x = nearG C R0 q j a := ⟨_, rfl⟩
              have HGX : Hid (nearG C R0 q a j = gx) := hgx.symm
              have HGY : Hid (nearG C R0 q j a = gy) := hgy.symm
              rw [← hgx, ← hgy] at HNX
              clear hgx hgy
              cases gx with
              | true =>
                go_wp2_with (go_at_call 27; refine (HG5.out _ _ R0 q a j (step_below HB3.out (step_below HB1I.out HB1.out)) ((HM1.out.later HB1I.out).later HB3.out) HN0.out hql hlt hjl).mono ?_; rw [HGX.out]; rintro e w4 ⟨rfl, hb4⟩)
                refine ⟨⟨true, q + 1, rfl, by go_num, by omega, step_below hb4 HB3.out, HNX.out⟩, by simp [intOf]; omega⟩
              | false =>
                go_wp2_with (first
                  | (have hgd := HB4; clear hgd; go_at_call 27; refine (HG5.out _ _ R0 q j a (step_below HB4.out (step_below HB1I.out HB1.out)) ((HM1.out.later HB1I.out).later HB4.out) HN0.out hql hjl hlt).mono ?_; rw [HGY.out]; rintro e w5 ⟨rfl, hb5⟩; have HB5 : Hid (Below wi.heap.size wi w5) := step_below hb5 HB4.out; clear hb5)
                  | (go_at_call 27; refine (HG5.out _ _ R0 q a j (step_below HB3.out (step_below HB1I.out HB1.out)) ((HM1.out.later HB1I.out).later HB3.out) HN0.out hql hlt hjl).mono ?_; rw [HGX.out]; rintro e w4 ⟨rfl, hb4⟩; have t0 := step_cell hb4 r0; have t1 := step_cell hb4 r1; have HB4 : Hid (Below wi.heap.size wi w4) := step_below hb4 HB3.out; clear hb4))
                refine ⟨⟨gy, q + 1, rfl, by go_num, by omega, HB5.out, HNX.out⟩, by simp [intOf]; omega⟩
          · have v1 : ¬ (q : Int) < (C.length : Int) := by omega
            have hn := nearMat_of HSQ.out hq (Or.inr (by omega))
            have HN : Hid ((s && ((a : Int) != (j : Int))) = true ↔ Near C a j) := hn
            clear hn
            cases s with
            | true =>
              go_wp2
              go_roundw
              case rel => exact HSET.out _ (by simpa using HN.out)
              case measure => simp [intOf]; omega
            | false =>
              go_wp2
              go_roundw
              case rel => exact HSET.out _ (by simpa using HN.out)
              case measure => simp [intOf]; omega

end Go.Proofs.Ytgeimilnddpdmab.form
