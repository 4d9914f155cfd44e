/- What a script has made, in memory; what the layers answer. -/
import Derived.Test.YtikhedkhgpjaaabGreatDoorW05
import Derived.Test.YtikhedkhgpjaaabGreatDoorW06

namespace Go.Proofs.YtikhedkhgpjaaabGreatDoor
set_option linter.unusedVariables false
namespace form
open Go.RowKit
def insCs (i : LIns) : List Value := [.int .i64 i.op, .int .i64 i.dest, .int .i64 i.a, .int .i64 i.b, .int .i64 i.c, .int .u32 i.n]
theorem insFlat : ∀ {l : List LIns} {q j : Nat}, q < l.length → j < 6 → (l.flatMap insCs)[q * 6 + j]? = (insCs (l.getD q .zero))[j]?
  | f :: l, 0, j, _, hj => by
    rw [List.flatMap_cons, Nat.zero_mul, Nat.zero_add, List.getElem?_append_left (by simp [insCs]; exact hj)]
    rfl
  | f :: l, q + 1, j, hq, hj => by
    rw [List.flatMap_cons, List.getElem?_append_right (by simp [insCs]; omega)]
    have e : (q + 1) * 6 + j - (insCs f).length = q * 6 + j := by simp [insCs]; omega
    rw [e, insFlat (by simpa using hq) hj]
    rfl
theorem row_form {w : World} {base : Nat} {e : TypeId} {size n : Nat} {v : Value} {xs : List Value} (h : w.ownsRow base e size v n xs) : ∃ ao cap, v = .slice ao n cap ∧ n ≤ cap ∧ (0 < n → ∃ b, ao = some ⟨b, 0, none⟩ ∧ base ≤ b ∧ b < w.heap.size) := by
  rcases h.2 with ⟨rfl, rfl⟩ | ⟨g, cap, cur, rfl, h1, h2, h3, h4⟩
  · exact ⟨none, 0, rfl, Nat.le_refl _, fun h => absurd h (by omega)⟩
  · refine ⟨_, cap, rfl, h3, fun _ => ⟨g, rfl, h1, ?_⟩⟩
    by_cases hg : g < w.heap.size
    · exact hg
    · rw [Array.getElem?_eq_none (by omega)] at h2; cases h2
theorem row_mono {w : World} {b0 b1 : Nat} {e : TypeId} {size n : Nat} {v : Value} {xs : List Value} (h : w.ownsRow b1 e size v n xs) (hb : b0 ≤ b1) : w.ownsRow b0 e size v n xs := by
  refine ⟨h.1, ?_⟩
  rcases h.2 with h2 | ⟨g, cap, cur, h1, h2, h3⟩
  · exact Or.inl h2
  · exact Or.inr ⟨g, cap, cur, h1, by omega, h3⟩
theorem set_grown (w : World) (q k : Nat) (u : Value) : w.grownBy (w.setCell ⟨q, k, none⟩ u) (some q) :=
  ⟨rfl, rfl, rfl, by simp [World.setCell], fun j hj hne => Below.heap_setCell _ _ _ _ (fun e => hne (by rw [e]))⟩
theorem row_set {w : World} {base : Nat} {e : TypeId} {size n : Nat} {v : Value} {xs : List Value} (h : w.ownsRow base e size v n xs) {q : Nat} (hq : v.ownBlock ≠ some q) (k : Nat) (u : Value) : (w.setCell ⟨q, k, none⟩ u).ownsRow base e size v n xs := World.ownsRow.kept h (set_grown w q k u) (Or.inr hq)
structure PlS (base q : Nat) (g : PL) (wv cv iv : Value) (w : World) : Prop where
  lo : base ≤ q
  c0 : w.cell? ⟨q, 0, none⟩ = some wv
  c1 : w.cell? ⟨q, 1, none⟩ = some cv
  c2 : w.cell? ⟨q, 2, none⟩ = some iv
  f0 : w.frozen? ⟨q, 0, none⟩ = false
  f1 : w.frozen? ⟨q, 1, none⟩ = false
  f2 : w.frozen? ⟨q, 2, none⟩ = false
  wide : w.ownsRow base 4 1 wv g.wide.length (g.wide.map Value.bool)
  code : w.ownsRow base 44 6 cv g.code.length (g.code.flatMap insCs)
  ins : w.ownsRow base 34 1 iv g.ins.length (g.ins.map (Value.int .u32))
  aw : wv.ownBlock ≠ some q
  ac : cv.ownBlock ≠ some q
  ai : iv.ownBlock ≠ some q
  wc : wv.ownBlock = none ∨ wv.ownBlock ≠ cv.ownBlock
  wi : wv.ownBlock = none ∨ wv.ownBlock ≠ iv.ownBlock
  ci : cv.ownBlock = none ∨ cv.ownBlock ≠ iv.ownBlock
  bw : g.wide.length ≤ 12
  bc : g.code.length ≤ 40
  bi : g.ins.length ≤ 4000000
  oc : ∀ i, i ∈ g.code → 0 ≤ i.n ∧ i.n < 4294967296
  oi : ∀ x, x ∈ g.ins → 0 ≤ x ∧ x < 4294967296
section
variable {base q : Nat} {g : PL} {wv cv iv : Value} {w w1 w9 : World}
theorem PlS.lt (h : PlS base q g wv cv iv w) : q < w.heap.size := World.block_lt_of_cell? w _ h.c0
theorem PlS.below (h : PlS base q g wv cv iv w) (hb : Below w.heap.size w w1) : PlS base q g wv cv iv w1 :=
  ⟨h.lo, step_cell hb h.c0, step_cell hb h.c1, step_cell hb h.c2, by rw [World.frozen?_of_block (w := w) (hb.block q h.lt)]; exact h.f0, by rw [World.frozen?_of_block (w := w) (hb.block q h.lt)]; exact h.f1, by rw [World.frozen?_of_block (w := w) (hb.block q h.lt)]; exact h.f2, rowStr_below h.wide hb, rowStr_below h.code hb, rowStr_below h.ins hb, h.aw, h.ac, h.ai, h.wc, h.wi, h.ci, h.bw, h.bc, h.bi, h.oc, h.oi⟩
theorem PlS.prog (h : PlS base q g wv cv iv w) : ProgIs w (.agg #[wv, cv]) g.wide g.code := by
  obtain ⟨a0, c0, rfl, -, k0⟩ := row_form h.wide
  obtain ⟨a1, c1, rfl, -, k1⟩ := row_form h.code
  refine ⟨⟨a0, c0, a1, c1, rfl, fun e0 e1 => ?_⟩, by have := h.bw; omega, by have := h.bc; omega, fun i hi => h.oc _ (by simp [List.getD, hi])⟩
  obtain ⟨b0, rfl, _, l0⟩ := k0 e0
  obtain ⟨b1, rfl, _, l1⟩ := k1 e1
  refine ⟨b0, 0, b1, 0, rfl, rfl, l0, l1, fun i hi => ?_, fun i hi => ?_⟩
  · rw [Nat.zero_add, World.ownsRow.cellAt h.wide i (by omega)]
    simp [List.getD, hi]
  · have key : ∀ j, j < 6 → w.cell? ⟨b1, i * 6 + j, none⟩ = (insCs (g.code.getD i .zero))[j]? := fun j hj => by
      rw [World.ownsRow.cellAt h.code _ (by omega), insFlat hi hj]
    simp only [Nat.zero_add]
    exact ⟨key 0 (by omega), key 1 (by omega), key 2 (by omega), key 3 (by omega), key 4 (by omega), key 5 (by omega)⟩
theorem PlS.inArg (h : PlS base q g wv cv iv w) : InArg w iv g.ins := by
  obtain ⟨ao, cap, rfl, hc, k0⟩ := row_form h.ins
  refine ⟨ao, cap, rfl, hc, by have := h.bi; omega, fun j hj => h.oi _ (by simp [List.getD, hj]), fun h0 => ?_⟩
  obtain ⟨b, rfl, _, hl⟩ := k0 h0
  refine ⟨b, 0, rfl, hl, fun j hj => ?_⟩
  rw [Nat.zero_add, World.ownsRow.cellAt h.ins j (by omega)]
  simp [List.getD, hj]
theorem PlS.neW (h : PlS base q g wv cv iv w) : some q ≠ wv.ownBlock := fun e => h.aw e.symm
theorem PlS.setW (h : PlS base q g wv cv iv w) {b : Bool} {g9 cap : Nat} (hl : g.wide.length < 12) (hown : w9.ownsRow base 4 1 (.slice (some ⟨g9, 0, none⟩) (g.wide.length + 1) cap) (g.wide.length + 1) (g.wide.map Value.bool ++ [.bool b])) (hgrow : w.grownBy w9 wv.ownBlock) (hat : wv.ownBlock = some g9 ∨ g9 = w.heap.size) :
    PlS base q ⟨g.wide ++ [b], g.code, g.ins⟩ (.slice (some ⟨g9, 0, none⟩) (g.wide.length + 1) cap) cv iv (w9.setCell ⟨q, 0, none⟩ (.slice (some ⟨g9, 0, none⟩) (g.wide.length + 1) cap)) := by
  have hq := h.lt
  have d0 : w9.cell? ⟨q, 0, none⟩ = some wv := by rw [hgrow.cell_far _ (by exact hq) h.neW]; exact h.c0
  have d1 : w9.cell? ⟨q, 1, none⟩ = some cv := by rw [hgrow.cell_far _ (by exact hq) h.neW]; exact h.c1
  have d2 : w9.cell? ⟨q, 2, none⟩ = some iv := by rw [hgrow.cell_far _ (by exact hq) h.neW]; exact h.c2
  have hbq : w9.heap[q]? = w.heap[q]? := hgrow.block q hq h.neW
  have e0 : w9.frozen? ⟨q, 0, none⟩ = false := by rw [World.frozen?_of_block (w := w) hbq]; exact h.f0
  have e1 : w9.frozen? ⟨q, 1, none⟩ = false := by rw [World.frozen?_of_block (w := w) hbq]; exact h.f1
  have e2 : w9.frozen? ⟨q, 2, none⟩ = false := by rw [World.frozen?_of_block (w := w) hbq]; exact h.f2
  have hne : ∀ {y : Value}, (∀ b, y.ownBlock = some b → b < w.heap.size) → (wv.ownBlock = none ∨ wv.ownBlock ≠ y.ownBlock) → (some g9 : Option Nat) ≠ y.ownBlock := fun {y} hy hw e => by
    rcases hat with hat | hat
    · rcases hw with hw | hw
      · rw [hat] at hw; cases hw
      · exact hw (by rw [hat, e])
    · have := hy g9 e.symm
      omega
  have lc : ∀ b, cv.ownBlock = some b → b < w.heap.size := fun b e => (World.ownsRow.lt h.code b e).2
  have li : ∀ b, iv.ownBlock = some b → b < w.heap.size := fun b e => (World.ownsRow.lt h.ins b e).2
  have hgq : g9 ≠ q := by
    rcases hat with hat | hat
    · intro e; rw [e] at hat; exact h.aw hat
    · omega
  have hko : ∀ {y : Value}, (wv.ownBlock = none ∨ wv.ownBlock ≠ y.ownBlock) → y.ownBlock = none ∨ y.ownBlock ≠ wv.ownBlock := fun {y} hw => by
    rcases hw with hw | hw
    · cases hy : y.ownBlock with
      | none => exact Or.inl rfl
      | some b => right; rw [hw]; simp
    · exact Or.inr (Ne.symm hw)
  refine ⟨h.lo, by simp [go_sem, d0], by simp [go_sem, d1], by simp [go_sem, d2], by simpa [go_sem] using e0, by simpa [go_sem] using e1, by simpa [go_sem] using e2, ?_, ?_, ?_, by simpa [Value.ownBlock] using hgq, h.ac, h.ai, Or.inr (hne lc h.wc), Or.inr (hne li h.wi), h.ci, by simp; omega, h.bc, h.bi, h.oc, h.oi⟩
  · have := row_set hown (q := q) (by simpa [Value.ownBlock] using hgq) 0 (.slice (some ⟨g9, 0, none⟩) (g.wide.length + 1) cap)
    simpa using this
  · exact row_set (World.ownsRow.kept h.code hgrow (hko h.wc)) h.ac 0 _
  · exact row_set (World.ownsRow.kept h.ins hgrow (hko h.wi)) h.ai 0 _
theorem PlS.neC (h : PlS base q g wv cv iv w) : some q ≠ cv.ownBlock := fun e => h.ac e.symm
theorem PlS.setC (h : PlS base q g wv cv iv w) {i : LIns} {g9 cap : Nat} (hl : g.code.length < 40) (hi : 0 ≤ i.n ∧ i.n < 4294967296) (hown : w9.ownsRow base 44 6 (.slice (some ⟨g9, 0, none⟩) (g.code.length + 1) cap) (g.code.length + 1) (g.code.flatMap insCs ++ insCs i)) (hgrow : w.grownBy w9 cv.ownBlock) (hat : cv.ownBlock = some g9 ∨ g9 = w.heap.size) :
    PlS base q ⟨g.wide, g.code ++ [i], g.ins⟩ wv (.slice (some ⟨g9, 0, none⟩) (g.code.length + 1) cap) iv (w9.setCell ⟨q, 1, none⟩ (.slice (some ⟨g9, 0, none⟩) (g.code.length + 1) cap)) := by
  have hq := h.lt
  have d0 : w9.cell? ⟨q, 0, none⟩ = some wv := by rw [hgrow.cell_far _ (by exact hq) h.neC]; exact h.c0
  have d1 : w9.cell? ⟨q, 1, none⟩ = some cv := by rw [hgrow.cell_far _ (by exact hq) h.neC]; exact h.c1
  have d2 : w9.cell? ⟨q, 2, none⟩ = some iv := by rw [hgrow.cell_far _ (by exact hq) h.neC]; exact h.c2
  have hbq : w9.heap[q]? = w.heap[q]? := hgrow.block q hq h.neC
  have e0 : w9.frozen? ⟨q, 0, none⟩ = false := by rw [World.frozen?_of_block (w := w) hbq]; exact h.f0
  have e1 : w9.frozen? ⟨q, 1, none⟩ = false := by rw [World.frozen?_of_block (w := w) hbq]; exact h.f1
  have e2 : w9.frozen? ⟨q, 2, none⟩ = false := by rw [World.frozen?_of_block (w := w) hbq]; exact h.f2
  have lw : ∀ b, wv.ownBlock = some b → b < w.heap.size := fun b e => (World.ownsRow.lt h.wide b e).2
  have li : ∀ b, iv.ownBlock = some b → b < w.heap.size := fun b e => (World.ownsRow.lt h.ins b e).2
  have hgq : g9 ≠ q := by
    rcases hat with hat | hat
    · intro e; rw [e] at hat; exact h.ac hat
    · omega
  have kw : wv.ownBlock = none ∨ wv.ownBlock ≠ cv.ownBlock := h.wc
  have ki : iv.ownBlock = none ∨ iv.ownBlock ≠ cv.ownBlock := by
    rcases h.ci with hw | hw
    · cases hy : iv.ownBlock with
      | none => exact Or.inl rfl
      | some b => right; rw [hw]; simp
    · exact Or.inr (Ne.symm hw)
  have nw : wv.ownBlock = none ∨ wv.ownBlock ≠ some g9 := by
    cases hy : wv.ownBlock with
    | none => exact Or.inl rfl
    | some b =>
      right
      intro e
      have eb := Option.some.inj e
      rcases hat with hat | hat
      · rcases kw with kw | kw
        · rw [hy] at kw; cases kw
        · exact kw (by rw [hy, hat, eb])
      · have := lw b hy; omega
  have ni : (some g9 : Option Nat) ≠ iv.ownBlock := fun e => by
    rcases hat with hat | hat
    · rcases h.ci with hw | hw
      · rw [hat] at hw; cases hw
      · exact hw (by rw [hat, e])
    · have := li g9 e.symm; omega
  refine ⟨h.lo, by simp [go_sem, d0], by simp [go_sem, d1], by simp [go_sem, d2], by simpa [go_sem] using e0, by simpa [go_sem] using e1, by simpa [go_sem] using e2, ?_, ?_, ?_, h.aw, by simpa [Value.ownBlock] using hgq, h.ai, nw, h.wi, Or.inr ni, h.bw, by simp; omega, h.bi, fun x hx => ?_, h.oi⟩
  · exact row_set (World.ownsRow.kept h.wide hgrow kw) h.aw 1 _
  · have := row_set hown (q := q) (by simpa [Value.ownBlock] using hgq) 1 (.slice (some ⟨g9, 0, none⟩) (g.code.length + 1) cap)
    simpa using this
  · exact row_set (World.ownsRow.kept h.ins hgrow ki) h.ai 1 _
  · rcases List.mem_append.1 hx with h1 | h1
    · exact h.oc x h1
    · have : x = i := by simpa using h1
      rw [this]; exact hi
theorem PlS.setI (h : PlS base q g wv cv iv w) {l : List Int} {lo : Nat} {lv : Value} (hown : w.ownsRow lo 34 1 lv l.length (l.map (Value.int .u32))) (hlo : base ≤ lo) (hq : q < lo) (hw : ∀ b, wv.ownBlock = some b → b < lo) (hc : ∀ b, cv.ownBlock = some b → b < lo) (hl : l.length ≤ 4000000) (hx : ∀ x, x ∈ l → 0 ≤ x ∧ x < 4294967296) :
    PlS base q ⟨g.wide, g.code, l⟩ wv cv lv (w.setCell ⟨q, 2, none⟩ lv) := by
  have nq : lv.ownBlock ≠ some q := fun e => by have := (World.ownsRow.lt hown q e).1; omega
  have far : ∀ {y : Value}, (∀ b, y.ownBlock = some b → b < lo) → y.ownBlock = none ∨ y.ownBlock ≠ lv.ownBlock := fun {y} hy => by
    cases e : y.ownBlock with
    | none => exact Or.inl rfl
    | some b =>
      right
      intro e2
      have h1 := hy b e
      have h2 := (World.ownsRow.lt hown b e2.symm).1
      omega
  have h0 := h.f0
  have h1 := h.f1
  have h2 := h.f2
  exact ⟨h.lo, by simp [go_sem, h.c0], by simp [go_sem, h.c1], by simp [go_sem, h.c2], by simpa [go_sem] using h0, by simpa [go_sem] using h1, by simpa [go_sem] using h2, row_set h.wide h.aw 2 _, row_set h.code h.ac 2 _, row_set (row_mono hown hlo) nq 2 _, h.aw, h.ac, nq, h.wc, far hw, far hc, h.bw, h.bc, hl, h.oc, hx⟩
end
/-! What the layers answer. -/
def RunIs (r : RunR) (w : World) (e : Ending) (w' : World) : Prop := (∃ sv, e = .returned (.tuple #[sv, .int .i64 r.err]) ∧ ShownIs w' sv r.state r.out r.steps) ∧ Below w.heap.size w w'
def rowCount (X : Nat → Nat → Bool) (a b : Nat) : Nat := ((List.range b).filter (fun y => X a y)).length
def pairCount (X : Nat → Nat → Bool) (n : Nat) : Nat := ((List.range n).map (fun a => rowCount X a a)).sum
theorem rowCount_step (X : Nat → Nat → Bool) (a b : Nat) : rowCount X a (b + 1) = rowCount X a b + (if X a b = true then 1 else 0) := by
  unfold rowCount
  rw [List.range_succ, List.filter_append, List.length_append]
  congr 1
  cases h : X a b <;> simp [List.filter, h]
theorem pairCount_step (X : Nat → Nat → Bool) (n : Nat) : pairCount X (n + 1) = pairCount X n + rowCount X n n := by
  unfold pairCount
  rw [List.range_succ, List.map_append, List.sum_append]
  simp
theorem rowCount_le (X : Nat → Nat → Bool) (a b : Nat) : rowCount X a b ≤ b := by
  unfold rowCount
  have := List.length_filter_le (fun y => X a y) (List.range b)
  simpa using this
theorem pairCount_le (X : Nat → Nat → Bool) (m : Nat) : ∀ n, n ≤ m → pairCount X n ≤ n * m := by
  intro n
  induction n with
  | zero => intro _; simp [pairCount]
  | succ n ih =>
    intro h
    rw [pairCount_step, Nat.succ_mul]
    have := ih (by omega)
    have := rowCount_le X n n
    omega
def NearIs (r : Int × Nat) (n : Nat) (w : World) (e : Ending) (w' : World) : Prop :=
  ((¬ r.1 = 0 ∧ 0 ≤ r.1 ∧ r.1 < 9223372036854775808 ∧ ∃ ao c, e = .returned (.tuple #[.slice ao 0 c, .int .i64 r.1])) ∨
    (r.1 = 0 ∧ ∃ (X : Nat → Nat → Bool) (b cap : Nat) (R : Nat → Nat × Nat), e = .returned (.tuple #[.slice (some ⟨b, 0, none⟩) n cap, .int .i64 0]) ∧ r.2 = pairCount X n ∧
      ∀ a, a < n → w'.cell? ⟨b, a, none⟩ = some (.slice (some ⟨(R a).1, 0, none⟩) n (R a).2) ∧ ∀ c, c < n → w'.cell? ⟨(R a).1, c, none⟩ = some (.bool (X a c)))) ∧ Below w.heap.size w w'
def PutIs (r : Int × Nat) (w : World) (e : Ending) (w' : World) : Prop := (∃ ao n c, e = .returned (.tuple #[.slice ao n c, .int .i64 r.1]) ∧ 0 ≤ r.1 ∧ r.1 < 9223372036854775808 ∧ (r.1 = 0 → n = r.2 ∧ n < 9223372036854775808)) ∧ Below w.heap.size w w'
def PlacesOk (L : Lay) (B : List Bool) (C : List LIns) (s : Nat) (lv : Value) (er : Int) (w' : World) : Prop := 0 ≤ er ∧ er < 9223372036854775808 ∧
    (¬ er = 0 → L.bytes B C s = (er, 0) ∧ ∀ I steps, (L.on B C s I steps).err = er) ∧
    (er = 0 → ∃ slots R, PlacedIs w' lv slots R ∧ (∀ (wx : World) (pv iv : Value) (I : List Int) (steps : Nat), PlacedIs wx lv slots R → ProgIs wx pv B C → InArg wx iv I → Calls Tryz.prog 14 #[pv, .agg #[.int .i64 (s : Int)], lv, iv, .int .i64 (steps : Int)] wx fun e2 w2 => RunIs (L.on B C s I steps) wx e2 w2) ∧
      (∀ wx : World, PlacedIs wx lv slots R → Calls Tryz.prog 15 #[lv] wx fun e2 w2 => PutIs (L.bytes B C s) wx e2 w2))
def BuildIs (L : Lay) (B : List Bool) (C : List LIns) (s : Nat) (w : World) (e : Ending) (w' : World) : Prop :=
  (∃ sl ao n c er, e = .returned (.tuple #[.agg #[.int .i64 sl, .slice ao n c], .int .i64 er]) ∧ PlacesOk L B C s (.agg #[.int .i64 sl, .slice ao n c]) er w') ∧ Below w.heap.size w w'
structure LayIs (L : Lay) : Prop where
  rok : ∀ (B : List Bool) (C : List LIns) (I : List Int) (st : Nat), (∀ i, i ∈ C → 0 ≤ i.n ∧ i.n < 4294967296) → (∀ x, x ∈ I → 0 ≤ x ∧ x < 4294967296) → RunOk (L.run B C I st)
  ook : ∀ (B : List Bool) (C : List LIns) (s : Nat) (I : List Int) (st : Nat), (∀ i, i ∈ C → 0 ≤ i.n ∧ i.n < 4294967296) → (∀ x, x ∈ I → 0 ≤ x ∧ x < 4294967296) → RunOk (L.on B C s I st)
  run : ∀ (pv iv : Value) (B : List Bool) (C : List LIns) (I : List Int) (steps : Nat) (w : World), ProgIs w pv B C → InArg w iv I → Calls Tryz.prog 11 #[pv, iv, .int .i64 (steps : Int)] w fun e w' => RunIs (L.run B C I steps) w e w'
  near : ∀ (pv : Value) (B : List Bool) (C : List LIns) (w : World), ProgIs w pv B C → B.length ≤ 12 → Calls Tryz.prog 9 #[pv] w fun e w' => NearIs (L.near B C) B.length w e w'
  build : ∀ (pv : Value) (B : List Bool) (C : List LIns) (s : Nat) (w : World), ProgIs w pv B C → Calls Tryz.prog 13 #[pv, .agg #[.int .i64 (s : Int)]] w fun e w' => BuildIs L B C s w e w'
end form
/- The rows that a line makes (loanbookkeep: line), and what it answers. -/
namespace form
open Go.RowKit
theorem infU32K : (Tryz.prog.info? 34).map (fun i => (i.zero, i.size, i.bytes)) = some (some (.int .u32 0), 1, 4) := by kernel_rfl
structure NlS (w : World) (l : List Nat) (v : Value) (wr : World) : Prop where
  bel : Below w.heap.size w wr
  own : wr.ownsRow w.heap.size 34 1 v l.length (l.map (fun x : Nat => Value.int .u32 x))
theorem NlS.below {w : World} {l : List Nat} {v : Value} {wr w1 : World} (h : NlS w l v wr) (hb : Below wr.heap.size wr w1) : NlS w l v w1 := ⟨step_below hb h.bel, rowStr_below h.own hb⟩
theorem NlS.push {w : World} {l : List Nat} {v : Value} {wr w1 : World} (h : NlS w l v wr) {g cap : Nat} {y : Nat} (hown : w1.ownsRow w.heap.size 34 1 (.slice (some ⟨g, 0, none⟩) (l.length + 1) cap) (l.length + 1) (l.map (fun x : Nat => Value.int .u32 x) ++ [.int .u32 (y : Int)])) (hgrow : wr.grownBy w1 v.ownBlock) : NlS w (l ++ [y]) (.slice (some ⟨g, 0, none⟩) (l.length + 1) cap) w1 :=
  ⟨h.bel.grown hgrow (by have := h.bel.size; omega) (fun j hj => by have := (World.ownsRow.lt h.own _ hj).1; omega), by simpa using hown⟩
theorem tail_take {W : List (List UInt8)} {i : Nat} (h1 : 1 ≤ i) (hi : i < W.length) : W.tail.take (i + 1 - 1) = W.tail.take (i - 1) ++ [W.getD i []] := by
  obtain ⟨k, rfl⟩ : ∃ k, i = k + 1 := ⟨i - 1, by omega⟩
  have hk : k < W.tail.length := by simp; omega
  show W.tail.take (k + 1) = W.tail.take k ++ _
  rw [List.take_succ_eq_append_getElem hk]
  simp [List.getD, hi]
theorem nums_all : ∀ {ps : List (List UInt8)}, (∀ p, p ∈ ps → numB p = true) → numsOf ps = some (ps.map valL)
  | [], _ => rfl
  | p :: ps, h => by
    have h1 : numL p = some (valL p) := by unfold numL; rw [if_pos (h p (by simp))]
    unfold numsOf
    rw [h1, nums_all (fun q hq => h q (by simp [hq]))]
    rfl
theorem nums_bad : ∀ {ps : List (List UInt8)} {p : List UInt8}, p ∈ ps → numB p = false → numsOf ps = none
  | q :: ps, p, h, hp => by
    unfold numsOf
    rcases List.mem_cons.1 h with e | e
    · subst e
      have h1 : numL p = none := by unfold numL; rw [if_neg (by rw [hp]; simp)]
      rw [h1]
    · rw [nums_bad e hp]
      cases numL q <;> rfl
def LineAns (base q : Nat) (r : PL × List UInt8) (w : World) (e : Ending) (w' : World) : Prop := e = .returned (.string (str r.2)) ∧ (∃ wv cv iv, PlS base q r.1 wv cv iv w') ∧ Below base w w'
theorem LineAns.same {base q : Nat} {g : PL} {wv cv iv : Value} {w w' : World} {t : List UInt8} (h : PlS base q g wv cv iv w') (hb : Below w.heap.size w w') (hl : base ≤ w.heap.size) : LineAns base q (g, t) w (.returned (.string (str t))) w' := ⟨rfl, ⟨_, _, _, h⟩, hb.mono hl⟩
theorem l_small {W : List (List UInt8)} {l : List Nat} (hall : ∀ p, p ∈ W.tail → numB p = true) (hl : l = W.tail.map valL) : ∀ x, x ∈ l → x < 4294967296 := fun x hx => by
  rw [hl] at hx
  obtain ⟨p, hp, rfl⟩ := List.mem_map.1 hx
  have h2 := hall p hp
  unfold numB at h2
  simp only [Bool.and_eq_true, decide_eq_true_eq] at h2
  exact h2.2
def ShR (w : World) (r : RunR) (s17 s18 : Value) (wq : World) : Prop := ∃ bx ao cap, s17 = .pointer (some ⟨bx, 0, none⟩) ∧ s18 = .int .i64 r.err ∧ wq.cell? ⟨bx, 0, none⟩ = some (.int .i64 r.state) ∧ wq.cell? ⟨bx, 1, none⟩ = some (.slice ao r.out.length cap) ∧ wq.cell? ⟨bx, 2, none⟩ = some (.int .i64 r.steps) ∧ OutIs wq (.slice ao r.out.length cap) r.out ∧ Below w.heap.size w wq
theorem ShR.mk1 {w w5 : World} {r : RunR} {ao : Option Addr} {cap : Nat} (ho : OutIs w5 (.slice ao r.out.length cap) r.out) (hb : Below w.heap.size w w5) {wq : World} (hq : wq = w5.alloc (.cells #[.int .i64 r.state, .slice ao r.out.length cap, .int .i64 r.steps] 46)) : ShR w r (.pointer (some ⟨w5.heap.size, 0, none⟩)) (.int .i64 r.err) wq := by
  have hb2 : Below w5.heap.size w5 wq := by rw [hq]; exact (Below.refl _ _).alloc (Nat.le_refl _) _
  exact ⟨_, ao, cap, rfl, rfl, by rw [hq]; simp [go_sem], by rw [hq]; simp [go_sem], by rw [hq]; simp [go_sem], ho.later hb2, step_below hb2 hb⟩
theorem wrapK {x : Int} (h0 : 0 ≤ x) (h1 : x ≤ 9223372036854775807) : IntKind.i64.wrap x = x := by
  unfold IntKind.wrap
  simp [IntKind.signed, IntKind.bits]
  omega
theorem frozenK {a b : World} (hb : Below a.heap.size a b) {p : Addr} (hp : p.block < a.heap.size) (h : a.frozen? p = false) : b.frozen? p = false := by
  rw [World.frozen?_of_block (w := a) (hb.block p.block hp)]; exact h
theorem ShR.mk2 {w w4 w5 : World} {r : RunR} {ao : Option Addr} {cap b : Nat} (hbw : w.heap.size ≤ b) (h0 : w4.cell? ⟨b, 0, none⟩ = some (.int .i64 0)) (h1 : w4.cell? ⟨b, 1, none⟩ = some (.slice none 0 0)) (h2 : w4.cell? ⟨b, 2, none⟩ = some (.int .i64 0)) (h3 : ∀ j, 3 ≤ j → w4.cell? ⟨b, j, none⟩ = none) (h45 : Below w4.heap.size w4 w5) (ho : OutIs w5 (.slice ao r.out.length cap) r.out) (hb : Below w.heap.size w w5) {wq : World} (hq : wq = ((w5.setCell ⟨b, 0, none⟩ (.int .i64 r.state)).setCell ⟨b, 1, none⟩ (.slice ao r.out.length cap)).setCell ⟨b, 2, none⟩ (.int .i64 r.steps)) : ShR w r (.pointer (some ⟨b, 0, none⟩)) (.int .i64 r.err) wq := by
  have hlt : b < w4.heap.size := World.block_lt_of_cell? w4 _ h0
  have c0 := step_cell h45 h0
  have c1 := step_cell h45 h1
  have c2 := step_cell h45 h2
  have c3 : ∀ j, 3 ≤ j → w5.cell? ⟨b, j, none⟩ = none := fun j hj => by rw [h45.cell (p := ⟨b, j, none⟩) hlt]; exact h3 j hj
  refine ⟨b, ao, cap, rfl, rfl, by rw [hq]; simp [go_sem, c0], by rw [hq]; simp [go_sem, c1], by rw [hq]; simp [go_sem, c2], ?_, by rw [hq]; exact ((hb.setCell hbw _).setCell hbw _).setCell hbw _⟩
  obtain ⟨ao2, cap2, e, hl, hc⟩ := ho
  refine ⟨ao2, cap2, e, hl, fun h0' => ?_⟩
  obtain ⟨bo, o, e2, hblt, hcell⟩ := hc h0'
  have hne : bo ≠ b := fun e3 => by
    have hx := hcell 0 h0'
    rw [e3, Nat.add_zero] at hx
    rcases o with _ | _ | _ | o
    · rw [c0] at hx; cases hx
    · rw [c1] at hx; cases hx
    · rw [c2] at hx; cases hx
    · rw [c3 _ (by omega)] at hx; cases hx
  refine ⟨bo, o, e2, by rw [hq]; simpa [World.setCell] using hblt, fun j hj => ?_⟩
  rw [hq]
  exact cell_other (cell_other (cell_other (hcell j hj) hne) hne) hne
theorem MovesIs.box {w w' : World} {v : Value} {l : List LMove} {b : Nat} (h : MovesIs w v l) (hz : w'.heap.size = w.heap.size) (hk : ∀ k, k ≠ b → w'.heap[k]? = w.heap[k]?) (hn : ∀ j, 2 ≤ j → w.cell? ⟨b, j, none⟩ = none) : MovesIs w' v l := by
  obtain ⟨ao, cap, hv, hl, hc⟩ := h
  refine ⟨ao, cap, hv, hl, fun h0 => ?_⟩
  obtain ⟨bm, o, e, hlt, hcell⟩ := hc h0
  have hne : bm ≠ b := fun e2 => by
    obtain ⟨-, -, -, -, -, h5⟩ := hcell 0 h0
    rw [e2, hn _ (by omega)] at h5
    cases h5
  refine ⟨bm, o, e, by omega, fun k hk2 => ?_⟩
  obtain ⟨c0, c1, c2, c3, c4, c5⟩ := hcell k hk2
  refine ⟨?_, ?_, ?_, ?_, ?_, ?_⟩ <;> (rw [World.cell?_of_block (w := w) (hk bm hne)]; assumption)
theorem PlacedIs.box {w w' : World} {v : Value} {slots : Int} {R : List LRow} {b : Nat} (h : PlacedIs w v slots R) (hz : w'.heap.size = w.heap.size) (hk : ∀ k, k ≠ b → w'.heap[k]? = w.heap[k]?) (hn : ∀ j, 2 ≤ j → w.cell? ⟨b, j, none⟩ = none) : PlacedIs w' v slots R := by
  obtain ⟨ao, cap, hv, hl, hc⟩ := h
  refine ⟨ao, cap, hv, hl, fun h0 => ?_⟩
  obtain ⟨b2, o2, e, hr⟩ := hc h0
  have hne : b2 ≠ b := fun e2 => by
    obtain ⟨-, -, -, -, -, -, vb, va, -, h7, -⟩ := hr.rows 0 h0
    rw [e2, hn _ (by omega)] at h7
    cases h7
  refine ⟨b2, o2, e, by have := hr.lt; omega, fun r hr2 => ?_⟩
  obtain ⟨c0, c1, c2, c3, c4, c5, vb, va, c6, c7, m0, m1⟩ := hr.rows r hr2
  refine ⟨?_, ?_, ?_, ?_, ?_, ?_, vb, va, ?_, ?_, m0.box hz hk hn, m1.box hz hk hn⟩ <;> (rw [World.cell?_of_block (w := w) (hk b2 hne)]; assumption)
theorem PlacesOk.turn {L : Lay} {B : List Bool} {C : List LIns} {s : Nat} {lv : Value} {er : Int} {w w' : World} (h : PlacesOk L B C s lv er w) (ht : ∀ slots R, PlacedIs w lv slots R → PlacedIs w' lv slots R) : PlacesOk L B C s lv er w' :=
  ⟨h.1, h.2.1, h.2.2.1, fun he => by
    obtain ⟨slots, R, h1, h2⟩ := h.2.2.2 he
    exact ⟨slots, R, ht slots R h1, h2⟩⟩
def PbR (L : Lay) (B : List Bool) (C : List LIns) (s : Nat) (w : World) (s20 s21 : Value) (wq : World) : Prop := ∃ bx sl ao n c er, s20 = .pointer (some ⟨bx, 0, none⟩) ∧ s21 = .int .i64 er ∧ wq.cell? ⟨bx, 0, none⟩ = some (.int .i64 sl) ∧ wq.cell? ⟨bx, 1, none⟩ = some (.slice ao n c) ∧ PlacesOk L B C s (.agg #[.int .i64 sl, .slice ao n c]) er wq ∧ Below w.heap.size w wq
theorem PbR.mk1 {L : Lay} {B : List Bool} {C : List LIns} {s : Nat} {w w5 : World} {sl er : Int} {ao : Option Addr} {n c : Nat} (hp : PlacesOk L B C s (.agg #[.int .i64 sl, .slice ao n c]) er w5) (hb : Below w.heap.size w w5) {wq : World} (hq : wq = w5.alloc (.cells #[.int .i64 sl, .slice ao n c] 54)) : PbR L B C s w (.pointer (some ⟨w5.heap.size, 0, none⟩)) (.int .i64 er) wq := by
  have hb2 : Below w5.heap.size w5 wq := by rw [hq]; exact (Below.refl _ _).alloc (Nat.le_refl _) _
  exact ⟨_, sl, ao, n, c, er, rfl, rfl, by rw [hq]; simp [go_sem], by rw [hq]; simp [go_sem], hp.turn (fun _ _ h => h.later hb2), step_below hb2 hb⟩
theorem PbR.mk2 {L : Lay} {B : List Bool} {C : List LIns} {s : Nat} {w w4 w5 : World} {sl er : Int} {ao : Option Addr} {n c b : Nat} (hbw : w.heap.size ≤ b) (h0 : w4.cell? ⟨b, 0, none⟩ = some (.int .i64 0)) (h1 : w4.cell? ⟨b, 1, none⟩ = some (.slice none 0 0)) (h3 : ∀ j, 2 ≤ j → w4.cell? ⟨b, j, none⟩ = none) (h45 : Below w4.heap.size w4 w5) (hp : PlacesOk L B C s (.agg #[.int .i64 sl, .slice ao n c]) er w5) (hb : Below w.heap.size w w5) {wq : World} (hq : wq = (w5.setCell ⟨b, 0, none⟩ (.int .i64 sl)).setCell ⟨b, 1, none⟩ (.slice ao n c)) : PbR L B C s w (.pointer (some ⟨b, 0, none⟩)) (.int .i64 er) wq := by
  have hlt : b < w4.heap.size := World.block_lt_of_cell? w4 _ h0
  have c0 := step_cell h45 h0
  have c1 := step_cell h45 h1
  have c3 : ∀ j, 2 ≤ j → w5.cell? ⟨b, j, none⟩ = none := fun j hj => by rw [h45.cell (p := ⟨b, j, none⟩) hlt]; exact h3 j hj
  refine ⟨b, sl, ao, n, c, er, rfl, rfl, by rw [hq]; simp [go_sem, c0], by rw [hq]; simp [go_sem, c1], hp.turn (fun slots R h => h.box (b := b) (by rw [hq]; simp [World.setCell]) (fun k hk => ?_) c3), by rw [hq]; exact (hb.setCell hbw _).setCell hbw _⟩
  rw [hq, Below.heap_setCell _ _ _ _ hk, Below.heap_setCell _ _ _ _ hk]
theorem lit_eq (s t : List UInt8) : (s == t) = decide (s = t) := by
  by_cases h : s = t
  · subst h; simp
  · simp [h]
end form
/- A line with a word that is no NUMBER (loanbookkeep: line). -/
namespace form
open Go.RowKit
set_option maxRecDepth 100000
attribute [local go_sem ↓] Go.wp_at_zero Go.wp_at_succ
attribute [local go_sem] str_size str_list ByteArray.toList_mk
set_option maxHeartbeats 1600000 in
theorem lineNo {base q : Nat} {g : PL} {wv cv iv : Value} {w : World} (L : Lay) (hL : LayIs L) (hP : PlS base q g wv cv iv w) (s : List UInt8) (hs : s.length ≤ 2000000) (hbad : ∃ p, p ∈ (splitL 32 s).tail ∧ numB p = false) :
    Calls Tryz.prog 5 #[.pointer (some ⟨q, 0, none⟩), .string (str s)] w fun e w' => LineAns base q (g, sNo) w e w' := by
  have HL : Hid (LayIs L) := hL
  obtain ⟨aW, kW, hwv, -, -⟩ := row_form hP.wide
  obtain ⟨aC, kC, hcv, -, -⟩ := row_form hP.code
  obtain ⟨aI, kI, hiv, -, -⟩ := row_form hP.ins
  subst hwv hcv hiv
  have HP : Hid (PlS base q g (.slice aW g.wide.length kW) (.slice aC g.code.length kC) (.slice aI g.ins.length kI) w) := hP
  have hbase : base ≤ w.heap.size := Nat.le_of_lt (Nat.lt_of_le_of_lt hP.lo hP.lt)
  have hqlt := hP.lt
  have hbw := hP.bw
  have hbc := hP.bc
  have hbi := hP.bi
  have HSK : Hid (∀ wx : World, Calls Tryz.prog 4 #[.string (str s), .int .u8 32] wx fun e w' => ∃ v, e = .returned v ∧ StS wx wx.heap.size (splitL 32 s) v w') := fun wx => splitK s 32 (by omega) wx
  have HW1 : Hid (1 ≤ (splitL 32 s).length) := splitL_pos 32 s
  have HWL : Hid ((splitL 32 s).length ≤ s.length + 1) := splitL_len 32 s
  have HWE : Hid (∀ p, p ∈ splitL 32 s → p.length ≤ s.length) := splitL_each 32 s
  clear hP hL
  obtain ⟨W, hW⟩ : ∃ W, W = splitL 32 s := ⟨_, rfl⟩
  rw [← hW] at HSK HW1 HWL HWE hbad
  have HW : Hid (W = splitL 32 s) := hW
  clear hW
  have hW1 := HW1.out
  have hWz : (W.length : Int) ≤ 2000001 := by have := HWL.out; omega
  go_enter Tryz.func5, Tryz.ntmps5
  go_upto_region 2 with (go_at_call 4; refine (HSK.out _).mono ?_; rintro e w1 ⟨v, rfl, hst⟩; have HST : Hid (StS w w.heap.size W v w1) := hst; clear hst)
  obtain ⟨bw, capw, hv, hbwge, hbwlt⟩ := HST.out.own.form hW1
  subst hv
  have HWC : Hid (∀ j, j < W.length → w1.cell? ⟨bw, j, none⟩ = some (.string (str (W.getD j [])))) := fun j hj => by
    rw [World.ownsRow.cellAt HST.out.own j (by omega)]
    simp [List.getD, hj]
  have HP1 : Hid (PlS base q g (.slice aW g.wide.length kW) (.slice aC g.code.length kC) (.slice aI g.ins.length kI) w1) := HP.out.below HST.out.bel
  have HB1 : Hid (Below w.heap.size w w1) := HST.out.bel
  clear HSK HST hbwge
  go_wp2
  go_loopg [6, 7, 8, 9] W.length (fun gg v6 v v8 v9 wr => ∃ (i : Nat), v = .int .i64 i ∧ 1 ≤ i ∧ i ≤ W.length ∧ gg = W.length + 1 - i ∧ NlS w1 ((W.tail.take (i - 1)).map valL) v6 wr ∧ ∀ p, p ∈ W.tail.take (i - 1) → numB p = true)
  case atStart => exact ⟨1, rfl, by omega, by omega, by omega, ⟨Below.refl _ _, World.ownsRow_nil _ _ _ _⟩, fun p hp => by simp at hp⟩
  case round =>
    obtain ⟨i, rfl, hi1, hi, hgk, hnl, hal⟩ := hrel
    have HGK : Hid (gk = W.length + 1 - i) := hgk
    obtain ⟨l, hl⟩ : ∃ l, l = (W.tail.take (i - 1)).map valL := ⟨_, rfl⟩
    rw [← hl] at hnl
    have HLI : Hid (l = (W.tail.take (i - 1)).map valL) := hl
    have hll : l.length = i - 1 := by rw [hl]; simp; omega
    have hllz : l.length ≤ 2000001 := by omega
    have HLL : Hid (l.length = i - 1) := hll
    have HNL : Hid (NlS w1 l u6 wr) := hnl
    have HAL : Hid (∀ p, p ∈ W.tail.take (i - 1) → numB p = true) := hal
    have hwz := hnl.bel.size
    clear hgk hnl hl hal hll
    by_cases hil : i < W.length
    case pos =>
      have hiz : (i : Int) < (W.length : Int) := by omega
      have d0 := step_cell HNL.out.bel (HWC.out i hil)
      have hbl := World.block_lt_of_cell? wr _ d0
      obtain ⟨p, hp⟩ : ∃ p, p = W.getD i [] := ⟨_, rfl⟩
      rw [← hp] at d0
      have HPP : Hid (p = W.getD i []) := hp
      have hpt : W.tail.take (i + 1 - 1) = W.tail.take (i - 1) ++ [p] := by rw [hp]; exact tail_take hi1 hil
      have HPT : Hid (W.tail.take (i + 1 - 1) = W.tail.take (i - 1) ++ [p]) := hpt
      have hpm : p ∈ W := by rw [hp]; simp [List.getD, hil]
      have c := numberK p (by have := HWE.out p hpm; omega) wr
      have HPM : Hid (p ∈ W.tail) := by
        have h2 : p ∈ W.tail.take (i + 1 - 1) := by rw [hpt]; simp
        exact List.mem_of_mem_take h2
      clear hp hpt hpm
      unfold NumAns at c
      obtain ⟨z, hz⟩ : ∃ z, z = numB p := ⟨_, rfl⟩
      rw [← hz] at c
      have HZ : Hid (z = numB p) := hz
      clear hz
      go_upto_if 45 with (go_at_call 7; refine c.mono ?_; rintro e w2 ⟨⟨y, rfl, hy⟩, hw2⟩; obtain rfl := hw2.symm; have HY : Hid (z = true → y = valL p) := hy; clear hw2 hy)
      clear c
      rcases Bool.eq_false_or_eq_true z with hz | hz
      · subst hz
        have HPB : Hid (numB p = true) := HZ.out.symm
        obtain ⟨x, hx⟩ : ∃ x : Nat, x = valL p := ⟨_, rfl⟩
        have hyx : y = (x : Int) := by rw [hx]; exact HY.out rfl
        subst hyx
        have HXV : Hid (x = valL p) := hx
        clear HY hx
        obtain ⟨t0', hi0, hy0, hy1, hy2⟩ := info_parts infU32K
        go_wp2_with (at_builtin; refine wpList_append_lies _ rfl _ _ 29 rfl w1.heap.size 34 t0' (.int .u32 0) 1 4 Tryz.underlying29 hi0 hy0 hy1 hy2 rfl (by decide) u6 l.length (l.map (fun x : Nat => Value.int .u32 x)) rfl (World.ownsRow.alloc HNL.out.own _) ⟨wr.heap.size, 0, none⟩ 1 1 [.int .u32 (x : Int)] rfl rfl ?c1 ?c2 (by decide) ?c3 ?c4 ?c5 _ rfl ?_)
        case c1 =>
          intro j u hu
          rcases j with _ | j
          · simp at hu; subst hu; simp [go_sem, Addr.add]
          · simp at hu
        case c2 => simp [Value.oneCell']
        case c3 => unfold maxLen; omega
        case c4 => omega
        case c5 => first | omega | (simp; omega)
        intro g9 cap9 w9 hown hgrow hat hlt9
        have hPu := (HNL.out.below ((Below.refl _ _).alloc (Nat.le_refl _) (.cells #[.int .u32 (x : Int)] 34))).push hown hgrow
        have HPU : Hid (NlS w1 (l ++ [x]) (.slice (some ⟨g9, 0, none⟩) (l.length + 1) cap9) w9) := hPu
        clear hPu hown hgrow hat
        go_wp2
        have hgk := HGK.out
        go_roundg (gk - 1)
        case measure => omega
        case rel =>
          refine ⟨i + 1, by go_num, by omega, by omega, by omega, ?_, ?_⟩
          · rw [HPT.out, List.map_append, ← HLI.out]
            have e : [p].map valL = [x] := by rw [HXV.out]; rfl
            rw [e]
            exact HPU.out
          · intro p2 hp2
            rw [HPT.out] at hp2
            rcases List.mem_append.1 hp2 with h | h
            · exact HAL.out p2 h
            · have : p2 = p := by simpa using h
              rw [this]; exact HPB.out
      · subst hz
        have HPR : Hid (PlS base q g (.slice aW g.wide.length kW) (.slice aC g.code.length kC) (.slice aI g.ins.length kI) wr) := HP1.out.below HNL.out.bel
        have HBR : Hid (Below w.heap.size w wr) := step_below HNL.out.bel HB1.out
        go_wp2
        go_ret
        exact LineAns.same HPR.out HBR.out hbase
    obtain rfl : i = W.length := by omega
    obtain ⟨p, hpm, hpb⟩ := hbad
    have := HAL.out p (by rw [List.take_of_length_le (by simp)]; exact hpm)
    rw [this] at hpb
    cases hpb
end form
/- A temporary more (loanbookkeep: line). -/
namespace form
open Go.RowKit
set_option maxRecDepth 100000
attribute [local go_sem ↓] Go.wp_at_zero Go.wp_at_succ
attribute [local go_sem] str_size str_list ByteArray.toList_mk
theorem infBoolK : (Tryz.prog.info? 4).map (fun i => (i.zero, i.size, i.bytes)) = some (some (.bool false), 1, 1) := by kernel_rfl
set_option maxHeartbeats 1600000 in
theorem lineNW {base q : Nat} {g : PL} {wv cv iv : Value} {w : World} (L : Lay) (hL : LayIs L) (hP : PlS base q g wv cv iv w) (s : List UInt8) (hs : s.length ≤ 2000000) (hall : ∀ p, p ∈ (splitL 32 s).tail → numB p = true) (r : PL × List UInt8) (hr : r = wordL L g s ((splitL 32 s).tail.map valL)) (wd : Bool) (hsw : s = if wd = true then sWide else sNarrow) :
    Calls Tryz.prog 5 #[.pointer (some ⟨q, 0, none⟩), .string (str s)] w fun e w' => LineAns base q r w e w' := by
  have HL : Hid (LayIs L) := hL
  obtain ⟨aW, kW, hwv, -, -⟩ := row_form hP.wide
  obtain ⟨aC, kC, hcv, -, -⟩ := row_form hP.code
  obtain ⟨aI, kI, hiv, -, -⟩ := row_form hP.ins
  subst hwv hcv hiv
  have HP : Hid (PlS base q g (.slice aW g.wide.length kW) (.slice aC g.code.length kC) (.slice aI g.ins.length kI) w) := hP
  have hbase : base ≤ w.heap.size := Nat.le_of_lt (Nat.lt_of_le_of_lt hP.lo hP.lt)
  have hqlt := hP.lt
  have hbw := hP.bw
  have hbc := hP.bc
  have hbi := hP.bi
  have HSK : Hid (∀ wx : World, Calls Tryz.prog 4 #[.string (str s), .int .u8 32] wx fun e w' => ∃ v, e = .returned v ∧ StS wx wx.heap.size (splitL 32 s) v w') := fun wx => splitK s 32 (by omega) wx
  have HW1 : Hid (1 ≤ (splitL 32 s).length) := splitL_pos 32 s
  have HWL : Hid ((splitL 32 s).length ≤ s.length + 1) := splitL_len 32 s
  have HWE : Hid (∀ p, p ∈ splitL 32 s → p.length ≤ s.length) := splitL_each 32 s
  clear hP hL
  have HSW : Hid (s = if wd = true then sWide else sNarrow) := hsw
  clear hsw
  obtain ⟨W, hW⟩ : ∃ W, W = splitL 32 s := ⟨_, rfl⟩
  rw [← hW] at HSK HW1 HWL HWE hall hr
  have HR : Hid (r = wordL L g s (W.tail.map valL)) := hr
  clear hr
  have HW : Hid (W = splitL 32 s) := hW
  clear hW
  have hW1 := HW1.out
  have hWz : (W.length : Int) ≤ 2000001 := by have := HWL.out; omega
  go_enter Tryz.func5, Tryz.ntmps5
  go_upto_region 2 with (go_at_call 4; refine (HSK.out _).mono ?_; rintro e w1 ⟨v, rfl, hst⟩; have HST : Hid (StS w w.heap.size W v w1) := hst; clear hst)
  obtain ⟨bw, capw, hv, hbwge, hbwlt⟩ := HST.out.own.form hW1
  subst hv
  have HWC : Hid (∀ j, j < W.length → w1.cell? ⟨bw, j, none⟩ = some (.string (str (W.getD j [])))) := fun j hj => by
    rw [World.ownsRow.cellAt HST.out.own j (by omega)]
    simp [List.getD, hj]
  have HP1 : Hid (PlS base q g (.slice aW g.wide.length kW) (.slice aC g.code.length kC) (.slice aI g.ins.length kI) w1) := HP.out.below HST.out.bel
  have HB1 : Hid (Below w.heap.size w w1) := HST.out.bel
  clear HSK HST hbwge
  go_wp2
  go_loopg [6, 7, 8, 9] W.length (fun gg v6 v v8 v9 wr => ∃ (i : Nat), v = .int .i64 i ∧ 1 ≤ i ∧ i ≤ W.length ∧ gg = W.length + 1 - i ∧ NlS w1 ((W.tail.take (i - 1)).map valL) v6 wr ∧ ∀ p, p ∈ W.tail.take (i - 1) → numB p = true)
  case atStart => exact ⟨1, rfl, by omega, by omega, by omega, ⟨Below.refl _ _, World.ownsRow_nil _ _ _ _⟩, fun p hp => by simp at hp⟩
  case round =>
    obtain ⟨i, rfl, hi1, hi, hgk, hnl, hal⟩ := hrel
    have HGK : Hid (gk = W.length + 1 - i) := hgk
    obtain ⟨l, hl⟩ : ∃ l, l = (W.tail.take (i - 1)).map valL := ⟨_, rfl⟩
    rw [← hl] at hnl
    have HLI : Hid (l = (W.tail.take (i - 1)).map valL) := hl
    have hll : l.length = i - 1 := by rw [hl]; simp; omega
    have hllz : l.length ≤ 2000001 := by omega
    have HLL : Hid (l.length = i - 1) := hll
    have HNL : Hid (NlS w1 l u6 wr) := hnl
    have HAL : Hid (∀ p, p ∈ W.tail.take (i - 1) → numB p = true) := hal
    have hwz := hnl.bel.size
    clear hgk hnl hl hal hll
    by_cases hil : i < W.length
    case pos =>
      have hiz : (i : Int) < (W.length : Int) := by omega
      have d0 := step_cell HNL.out.bel (HWC.out i hil)
      have hbl := World.block_lt_of_cell? wr _ d0
      obtain ⟨p, hp⟩ : ∃ p, p = W.getD i [] := ⟨_, rfl⟩
      rw [← hp] at d0
      have HPP : Hid (p = W.getD i []) := hp
      have hpt : W.tail.take (i + 1 - 1) = W.tail.take (i - 1) ++ [p] := by rw [hp]; exact tail_take hi1 hil
      have HPT : Hid (W.tail.take (i + 1 - 1) = W.tail.take (i - 1) ++ [p]) := hpt
      have hpm : p ∈ W := by rw [hp]; simp [List.getD, hil]
      have c := numberK p (by have := HWE.out p hpm; omega) wr
      have HPM : Hid (p ∈ W.tail) := by
        have h2 : p ∈ W.tail.take (i + 1 - 1) := by rw [hpt]; simp
        exact List.mem_of_mem_take h2
      clear hp hpt hpm
      unfold NumAns at c
      have HPB : Hid (numB p = true) := hall p HPM.out
      rw [HPB.out] at c
      go_upto_if 45 with (go_at_call 7; refine c.mono ?_; rintro e w2 ⟨⟨y, rfl, hy⟩, hw2⟩; obtain rfl := hw2.symm; have HY : Hid (y = valL p) := hy (by trivial); clear hw2 hy)
      obtain ⟨x, hx⟩ : ∃ x : Nat, x = valL p := ⟨_, rfl⟩
      have hyx : y = (x : Int) := by rw [hx]; exact HY.out
      subst hyx
      have HXV : Hid (x = valL p) := hx
      clear c HY hx
      obtain ⟨t0', hi0, hy0, hy1, hy2⟩ := info_parts infU32K
      go_wp2_with (at_builtin; refine wpList_append_lies _ rfl _ _ 29 rfl w1.heap.size 34 t0' (.int .u32 0) 1 4 Tryz.underlying29 hi0 hy0 hy1 hy2 rfl (by decide) u6 l.length (l.map (fun x : Nat => Value.int .u32 x)) rfl (World.ownsRow.alloc HNL.out.own _) ⟨wr.heap.size, 0, none⟩ 1 1 [.int .u32 (x : Int)] rfl rfl ?c1 ?c2 (by decide) ?c3 ?c4 ?c5 _ rfl ?_)
      case c1 =>
        intro j u hu
        rcases j with _ | j
        · simp at hu; subst hu; simp [go_sem, Addr.add]
        · simp at hu
      case c2 => simp [Value.oneCell']
      case c3 => unfold maxLen; omega
      case c4 => omega
      case c5 => first | omega | (simp; omega)
      intro g9 cap9 w9 hown hgrow hat hlt9
      have hPu := (HNL.out.below ((Below.refl _ _).alloc (Nat.le_refl _) (.cells #[.int .u32 (x : Int)] 34))).push hown hgrow
      have HPU : Hid (NlS w1 (l ++ [x]) (.slice (some ⟨g9, 0, none⟩) (l.length + 1) cap9) w9) := hPu
      clear hPu hown hgrow hat
      go_wp2
      have hgk := HGK.out
      go_roundg (gk - 1)
      case measure => omega
      case rel =>
        refine ⟨i + 1, by go_num, by omega, by omega, by omega, ?_, ?_⟩
        · rw [HPT.out, List.map_append, ← HLI.out]
          have e : [p].map valL = [x] := by rw [HXV.out]; rfl
          rw [e]
          exact HPU.out
        · intro p2 hp2
          rw [HPT.out] at hp2
          rcases List.mem_append.1 hp2 with h | h
          · exact HAL.out p2 h
          · have : p2 = p := by simpa using h
            rw [this]; exact HPB.out
    obtain rfl : i = W.length := by omega
    have hiz : ¬ (W.length : Int) < (W.length : Int) := by omega
    have HLT : Hid (l = W.tail.map valL) := by
      show l = W.tail.map valL
      rw [HLI.out]
      congr 1
      exact List.take_of_length_le (by simp)
    have HRL : Hid (r = wordL L g s l) := by
      show r = wordL L g s l
      rw [HR.out, HLT.out]
    obtain ⟨al, cl, hu6, hlcl, hform⟩ := row_form HNL.out.own
    subst hu6
    have HPR : Hid (PlS base q g (.slice aW g.wide.length kW) (.slice aC g.code.length kC) (.slice aI g.ins.length kI) wr) := HP1.out.below HNL.out.bel
    have HBR : Hid (Below w.heap.size w wr) := step_below HNL.out.bel HB1.out
    have hbr : base ≤ wr.heap.size := Nat.le_trans hbase HBR.out.size
    have hqr := HPR.out.lt
    have e0 := step_cell HNL.out.bel (HWC.out 0 hW1)
    have hbw0 := World.block_lt_of_cell? wr _ e0
    obtain ⟨p0, hp0⟩ : ∃ p, p = W.getD 0 [] := ⟨_, rfl⟩
    rw [← hp0] at e0
    have HP0 : Hid (p0 = W.getD 0 []) := hp0
    have q0 := HPR.out.c0
    have q1 := HPR.out.c1
    have q2 := HPR.out.c2
    clear hp0 HGK
    have hc1 : (s == [110, 97, 114, 114, 111, 119]) = !wd := by rw [HSW.out]; cases wd <;> rfl
    have hc2 : (s == [119, 105, 100, 101]) = wd := by rw [HSW.out]; cases wd <;> rfl
    have HAN : Hid (r = if 12 ≤ g.wide.length then (g, sNo) else (⟨g.wide ++ [wd], g.code, g.ins⟩, saidL sOk [g.wide.length + 1])) := by
      show r = _
      rw [HRL.out]
      unfold wordL
      rw [HSW.out]
      cases wd <;> rfl
    have HSO : Hid (∀ (b cap n : Nat) (wx : World), n < 9223372036854775808 → wx.cell? ⟨b, 0, none⟩ = some (.int .i64 (n : Int)) → Calls Tryz.prog 8 #[.string ⟨#[111, 107]⟩, .slice (some ⟨b, 0, none⟩) 1 cap] wx fun e w' => e = .returned (.string (str (saidL sOk [n]))) ∧ Below wx.heap.size wx w') := fun b cap n wx hn h => by
      have h2 := said_one sOk (n : Int) (by decide) (by omega) (by omega) b cap wx h
      rw [Int.toNat_natCast] at h2
      exact h2
    clear e0
    have hgw : ¬ (12 : Int) ≤ (g.wide.length : Int) ∨ (12 : Int) ≤ (g.wide.length : Int) := by omega
    rcases Bool.eq_false_or_eq_true wd with hwd | hwd
    · subst hwd
      simp only [Bool.not_true] at hc1
      rcases hgw with hgw | hgw
      · have hlw : g.wide.length < 12 := by omega
        have fz := HPR.out.f0
        have HRO : Hid (wr.ownsRow base 4 1 (.slice aW g.wide.length kW) g.wide.length (g.wide.map Value.bool)) := HPR.out.wide
        obtain ⟨t0', hi0, hy0, hy1, hy2⟩ := info_parts infBoolK
        go_upto_region 14 with fail
        obtain ⟨wb, hwb⟩ : ∃ b : Bool, b = true := ⟨_, rfl⟩
        have HWB : Hid (wb = true) := hwb
        rw [← hwb] at hc2
        clear hwb
        go_wp2_with (at_builtin; go_loud (refine wpList_append_lies _ rfl _ _ 25 rfl base 4 t0' (.bool false) 1 1 Tryz.underlying25 hi0 hy0 hy1 hy2 rfl (by decide) (.slice aW g.wide.length kW) g.wide.length (g.wide.map Value.bool) rfl (World.ownsRow.alloc HRO.out _) ⟨wr.heap.size, 0, none⟩ 1 1 [.bool wb] rfl rfl (World.news_of_block (cs := #[.bool wb]) (t := 4) (fr := (0, 0)) (by have := heap_alloc_new wr (.cells #[.bool wb] 4); simpa using this)) (by simp [Value.oneCell']) (by decide) (by unfold maxLen; omega) (by omega) (by first | omega | (simp; omega)) _ rfl ?_))
        intro g9 cap9 w9 hown hgrow hat hlt9
        have hal := HPR.out.below ((Below.refl _ _).alloc (Nat.le_refl _) (.cells #[.bool wb] 4))
        have hat2 : (Value.slice aW g.wide.length kW).ownBlock = some g9 ∨ g9 = (wr.alloc (.cells #[.bool wb] 4)).heap.size := by simpa using hat
        have hset := hal.setW hlw hown hgrow hat2
        have HSET : Hid (PlS base q ⟨g.wide ++ [wb], g.code, g.ins⟩ (.slice (some ⟨g9, 0, none⟩) (g.wide.length + 1) cap9) (.slice aC g.code.length kC) (.slice aI g.ins.length kI) (w9.setCell ⟨q, 0, none⟩ (.slice (some ⟨g9, 0, none⟩) (g.wide.length + 1) cap9))) := hset
        have d9 : w9.cell? ⟨q, 0, none⟩ = some (.slice aW g.wide.length kW) := by rw [hgrow.cell_far _ (by exact hal.lt) hal.neW]; exact hal.c0
        have z9 : w9.frozen? ⟨q, 0, none⟩ = false := by rw [World.frozen?_of_block (w := wr.alloc (.cells #[.bool wb] 4)) (hgrow.block q hal.lt hal.neW)]; exact hal.f0
        have HB9 : Hid (Below base w (w9.setCell ⟨q, 0, none⟩ (.slice (some ⟨g9, 0, none⟩) (g.wide.length + 1) cap9))) := by
          have h1 : Below base w (wr.alloc (.cells #[.bool wb] 4)) := (step_below ((Below.refl _ _).alloc (Nat.le_refl _) _) HBR.out).mono hbase
          have h2 : Below base w w9 := h1.grown hgrow (by have := h1.size; omega) (fun j hj => (World.ownsRow.lt hal.wide j hj).1)
          exact h2.setCell hal.lo _
        have hq9 := Nat.lt_of_lt_of_le hal.lt hgrow.size
        clear hal hset hown hgrow hat hat2
        go_upto_region 15 with fail
        obtain ⟨w10, hw10⟩ : ∃ x, x = w9.setCell ⟨q, 0, none⟩ (.slice (some ⟨g9, 0, none⟩) (g.wide.length + 1) cap9) := ⟨_, rfl⟩
        rw [← hw10] at HSET HB9 ⊢
        have c10 := HSET.out.c0
        have hq10 := HSET.out.lt
        clear hw10 d9 z9 q0 q1 q2
        go_wp2_with (go_at_call 8; refine (HSO.out _ _ (g.wide.length + 1) _ (by omega) (by simp [go_sem])).mono ?_; rintro e w11 ⟨rfl, hb11⟩; have HB11 : Hid (Below w10.heap.size w10 w11) := step_below hb11 ((Below.refl _ _).alloc (Nat.le_refl _) _); clear hb11)
        go_ret
        rw [HAN.out, if_neg (by omega), ← HWB.out]
        exact ⟨rfl, ⟨_, _, _, HSET.out.below HB11.out⟩, HB9.out.trans (HB11.out.mono (by have := HB9.out.size; omega))⟩
      · go_wp2
        go_ret
        rw [HAN.out, if_pos (by omega)]
        exact LineAns.same HPR.out HBR.out hbase
    · subst hwd
      simp only [Bool.not_false] at hc1
      rcases hgw with hgw | hgw
      · have hlw : g.wide.length < 12 := by omega
        have fz := HPR.out.f0
        have HRO : Hid (wr.ownsRow base 4 1 (.slice aW g.wide.length kW) g.wide.length (g.wide.map Value.bool)) := HPR.out.wide
        obtain ⟨t0', hi0, hy0, hy1, hy2⟩ := info_parts infBoolK
        go_upto_region 14 with fail
        obtain ⟨wb, hwb⟩ : ∃ b : Bool, b = false := ⟨_, rfl⟩
        have HWB : Hid (wb = false) := hwb
        rw [← hwb] at hc2
        clear hwb
        go_wp2_with (at_builtin; go_loud (refine wpList_append_lies _ rfl _ _ 25 rfl base 4 t0' (.bool false) 1 1 Tryz.underlying25 hi0 hy0 hy1 hy2 rfl (by decide) (.slice aW g.wide.length kW) g.wide.length (g.wide.map Value.bool) rfl (World.ownsRow.alloc HRO.out _) ⟨wr.heap.size, 0, none⟩ 1 1 [.bool wb] rfl rfl (World.news_of_block (cs := #[.bool wb]) (t := 4) (fr := (0, 0)) (by have := heap_alloc_new wr (.cells #[.bool wb] 4); simpa using this)) (by simp [Value.oneCell']) (by decide) (by unfold maxLen; omega) (by omega) (by first | omega | (simp; omega)) _ rfl ?_))
        intro g9 cap9 w9 hown hgrow hat hlt9
        have hal := HPR.out.below ((Below.refl _ _).alloc (Nat.le_refl _) (.cells #[.bool wb] 4))
        have hat2 : (Value.slice aW g.wide.length kW).ownBlock = some g9 ∨ g9 = (wr.alloc (.cells #[.bool wb] 4)).heap.size := by simpa using hat
        have hset := hal.setW hlw hown hgrow hat2
        have HSET : Hid (PlS base q ⟨g.wide ++ [wb], g.code, g.ins⟩ (.slice (some ⟨g9, 0, none⟩) (g.wide.length + 1) cap9) (.slice aC g.code.length kC) (.slice aI g.ins.length kI) (w9.setCell ⟨q, 0, none⟩ (.slice (some ⟨g9, 0, none⟩) (g.wide.length + 1) cap9))) := hset
        have d9 : w9.cell? ⟨q, 0, none⟩ = some (.slice aW g.wide.length kW) := by rw [hgrow.cell_far _ (by exact hal.lt) hal.neW]; exact hal.c0
        have z9 : w9.frozen? ⟨q, 0, none⟩ = false := by rw [World.frozen?_of_block (w := wr.alloc (.cells #[.bool wb] 4)) (hgrow.block q hal.lt hal.neW)]; exact hal.f0
        have HB9 : Hid (Below base w (w9.setCell ⟨q, 0, none⟩ (.slice (some ⟨g9, 0, none⟩) (g.wide.length + 1) cap9))) := by
          have h1 : Below base w (wr.alloc (.cells #[.bool wb] 4)) := (step_below ((Below.refl _ _).alloc (Nat.le_refl _) _) HBR.out).mono hbase
          have h2 : Below base w w9 := h1.grown hgrow (by have := h1.size; omega) (fun j hj => (World.ownsRow.lt hal.wide j hj).1)
          exact h2.setCell hal.lo _
        have hq9 := Nat.lt_of_lt_of_le hal.lt hgrow.size
        clear hal hset hown hgrow hat hat2
        go_upto_region 15 with fail
        obtain ⟨w10, hw10⟩ : ∃ x, x = w9.setCell ⟨q, 0, none⟩ (.slice (some ⟨g9, 0, none⟩) (g.wide.length + 1) cap9) := ⟨_, rfl⟩
        rw [← hw10] at HSET HB9 ⊢
        have c10 := HSET.out.c0
        have hq10 := HSET.out.lt
        clear hw10 d9 z9 q0 q1 q2
        go_wp2_with (go_at_call 8; refine (HSO.out _ _ (g.wide.length + 1) _ (by omega) (by simp [go_sem])).mono ?_; rintro e w11 ⟨rfl, hb11⟩; have HB11 : Hid (Below w10.heap.size w10 w11) := step_below hb11 ((Below.refl _ _).alloc (Nat.le_refl _) _); clear hb11)
        go_ret
        rw [HAN.out, if_neg (by omega), ← HWB.out]
        exact ⟨rfl, ⟨_, _, _, HSET.out.below HB11.out⟩, HB9.out.trans (HB11.out.mono (by have := HB9.out.size; omega))⟩
      · go_wp2
        go_ret
        rw [HAN.out, if_pos (by omega)]
        exact LineAns.same HPR.out HBR.out hbase
end form
end Go.Proofs.YtikhedkhgpjaaabGreatDoor
