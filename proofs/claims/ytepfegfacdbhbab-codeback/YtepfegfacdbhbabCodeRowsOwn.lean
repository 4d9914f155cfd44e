/- Rows of places that a call makes, with their moves, and what becomes of them. -/
import Derived.Test.YtepfegfacdbhbabCodeRefRead
import Derived.Test.YtepfegfacdbhbabRunPlain
namespace Go.Proofs.Ytepfegfacdbhbab.form
open Go.RowKit
set_option linter.unusedVariables false

theorem MovesN.setCell {ob : Option Nat} {w : World} {v : Value} {l : List LMove} (h : MovesN ob w v l) {a : Addr} (hne : v.ownBlock ≠ some a.block) (x : Value) : MovesN ob (w.setCell a x) v l := by
  obtain ⟨ao, cap, e, h0, h1, h2⟩ := h
  refine ⟨ao, cap, e, h0, h1, fun hx => ?_⟩
  obtain ⟨b, e1, e2, e3, e4⟩ := h2 hx
  subst e1
  rw [e] at hne
  have hb : b ≠ a.block := by simpa [Value.ownBlock] using hne
  refine ⟨b, rfl, by simpa using e2, e3, fun k hk => ?_⟩
  obtain ⟨c0, c1, c2, c3, c4, c5⟩ := e4 k hk
  exact ⟨cell_other c0 hb, cell_other c1 hb, cell_other c2 hb, cell_other c3 hb, cell_other c4 hb, cell_other c5 hb⟩
theorem MovesN.to {ob ob' : Option Nat} {w : World} {v : Value} {l : List LMove} (h : MovesN ob w v l) (hne : ∀ b, v.ownBlock = some b → some b ≠ ob') : MovesN ob' w v l := by
  obtain ⟨ao, cap, e, h0, h1, h2⟩ := h
  refine ⟨ao, cap, e, h0, h1, fun hx => ?_⟩
  obtain ⟨b, e1, e2, e3, e4⟩ := h2 hx
  exact ⟨b, e1, e2, hne b (by rw [e, e1]; rfl), e4⟩

def rowC (x : LRow × Value × Value) : List Value := [.int .i64 x.1.dest.kind, .int .i64 x.1.dest.n, .int .i64 x.1.a.kind, .int .i64 x.1.a.n, .int .i64 x.1.b.kind, .int .i64 x.1.b.n, x.2.1, x.2.2]
def zeroX : LRow × Value × Value := (.zero, .slice none 0 0, .slice none 0 0)
theorem flat8 {L : List (LRow × Value × Value)} {k i : Nat} (hk : k < L.length) (hi : i < 8) : (L.flatMap rowC)[k * 8 + i]? = (rowC (L.getD k zeroX))[i]? := by
  induction L generalizing k with
  | nil => simp at hk
  | cons m L ih =>
    have hl8 : (rowC m).length = 8 := rfl
    rw [List.flatMap_cons]
    cases k with
    | zero => rw [List.getElem?_append_left (by omega)]; simp
    | succ k =>
      rw [List.getElem?_append_right (by omega)]
      simp only [List.length_cons] at hk
      have := ih (k := k) (by omega)
      rw [show (k + 1) * 8 + i - (rowC m).length = k * 8 + i by omega]
      simpa using this

/-- Some moves that the call made. -/
def MvOkC (base : Nat) (ob : Option Nat) (wr : World) (v : Value) (l : List LMove) : Prop := MovesN ob wr v l ∧ ∀ b, v.ownBlock = some b → base ≤ b
theorem own_mv {wr : World} {base lo : Nat} {l : List LMove} {v : Value} (ho : wr.ownsRow lo 158 6 v l.length (l.flatMap mvC)) (hl : l.length ≤ 9223372036854775807) (hlo : base ≤ lo) {ob : Option Nat} (hob : ∀ b, lo ≤ b → some b ≠ ob) : MvOkC base ob wr v l :=
  ⟨own_news ho hl hob, fun b hb => Nat.le_trans hlo (World.ownsRow.lt ho b hb).1⟩

/-- Rows of places of the call's own. -/
structure RW (base : Nat) (L : List (LRow × Value × Value)) (v : Value) (wr : World) : Prop where
  own : wr.ownsRow base 92 8 v L.length (L.flatMap rowC)
  mv : ∀ x, x ∈ L → MvOkC base v.ownBlock wr x.2.1 x.1.before ∧ MvOkC base v.ownBlock wr x.2.2 x.1.after
section
variable {wr w1 : World} {base : Nat} {L : List (LRow × Value × Value)} {v : Value}
theorem RW.below (h : RW base L v wr) (hb : Below wr.heap.size wr w1) : RW base L v w1 :=
  ⟨World.ownsRow.kept h.own ⟨hb.os, hb.tape, hb.output, hb.size, fun j hj _ => hb.block j hj⟩ (row := none) (by cases v.ownBlock <;> simp), fun x hx => ⟨⟨(h.mv x hx).1.1.later hb, (h.mv x hx).1.2⟩, ⟨(h.mv x hx).2.1.later hb, (h.mv x hx).2.2⟩⟩⟩
theorem RW.setCell (h : RW base L v wr) {a : Addr} (ha : a.block < base) (u : Value) : RW base L v (wr.setCell a u) := by
  refine ⟨World.ownsRow.kept h.own (row := some a.block) ⟨rfl, rfl, rfl, by simp, fun k hk hne => heap_setCell_other wr a k u (fun e => hne (by rw [e]))⟩ ?_, fun x hx => ⟨⟨(h.mv x hx).1.1.setCell (fun e => ?_) u, (h.mv x hx).1.2⟩, ⟨(h.mv x hx).2.1.setCell (fun e => ?_) u, (h.mv x hx).2.2⟩⟩⟩
  · cases hv : v.ownBlock with
    | none => exact Or.inl rfl
    | some k => exact Or.inr (fun e => by have := (World.ownsRow.lt h.own k hv).1; simp at e; omega)
  · have := (h.mv x hx).1.2 _ e; omega
  · have := (h.mv x hx).2.2 _ e; omega
theorem RW.push (h : RW base L v wr) {x : LRow × Value × Value} (hx : MvOkC base v.ownBlock wr x.2.1 x.1.before ∧ MvOkC base v.ownBlock wr x.2.2 x.1.after) {g cap : Nat} (hown : w1.ownsRow base 92 8 (.slice (some ⟨g, 0, none⟩) (L.length + 1) cap) (L.length + 1) (L.flatMap rowC ++ rowC x)) (hgrow : wr.grownBy w1 v.ownBlock) (hat : v.ownBlock = some g ∨ g = wr.heap.size) :
    RW base (L ++ [x]) (.slice (some ⟨g, 0, none⟩) (L.length + 1) cap) w1 := by
  refine ⟨by simpa using hown, fun y hy => ?_⟩
  have hy2 : MvOkC base v.ownBlock wr y.2.1 y.1.before ∧ MvOkC base v.ownBlock wr y.2.2 y.1.after := by
    rw [List.mem_append, List.mem_singleton] at hy
    rcases hy with hy | rfl
    · exact h.mv y hy
    · exact hx
  exact ⟨⟨hy2.1.1.grown hgrow hat, hy2.1.2⟩, ⟨hy2.2.1.grown hgrow hat, hy2.2.2⟩⟩
theorem RW.form (h : RW base L v wr) : ∃ ao cap, v = .slice ao L.length cap := by
  rcases h.own.2 with ⟨e, e2⟩ | ⟨g, cap, cur, e, -⟩
  · exact ⟨none, 0, by rw [e, e2]⟩
  · exact ⟨_, _, e⟩
/-- They are places. -/
theorem RW.placed (h : RW base L v wr) (hl : L.length ≤ 9223372036854775807) (slots : Int) : PlacedIs wr (.agg #[.int .i64 slots, v]) slots (L.map (·.1)) := by
  have hL : (L.map (·.1)).length = L.length := by simp
  rcases h.own.2 with ⟨e, e2⟩ | ⟨g, cap, cur, e, hg, hc, hn, hm, hs, ht⟩
  · exact ⟨none, 0, by rw [e, hL, e2], by omega, fun hx => absurd hx (by omega)⟩
  · have ho := h.own
    rw [e] at ho
    refine ⟨_, cap, by rw [e, hL], by omega, fun hx => ⟨g, 0, rfl, ?_, fun r hr => ?_⟩⟩
    · exact (World.ownsRow.lt h.own g (by rw [e]; rfl)).2
    · rw [hL] at hr
      have hcell : ∀ i, i < 8 → wr.cell? ⟨g, r * 8 + i, none⟩ = (rowC (L.getD r zeroX))[i]? := fun i hi => by
        rw [World.ownsRow.cellAt ho (r * 8 + i) (by omega), flat8 hr hi]
      have hrow : (L.map (·.1)).getD r .zero = (L.getD r zeroX).1 := by simp [List.getD, hr]
      have hmem : L.getD r zeroX ∈ L := by simp [List.getD, hr]
      rw [hrow]
      simp only [Nat.zero_add]
      exact ⟨hcell 0 (by omega), hcell 1 (by omega), hcell 2 (by omega), hcell 3 (by omega), hcell 4 (by omega), hcell 5 (by omega), (L.getD r zeroX).2.1, (L.getD r zeroX).2.2, hcell 6 (by omega), hcell 7 (by omega), (h.mv _ hmem).1.1.is, (h.mv _ hmem).2.1.is⟩
end

end Go.Proofs.Ytepfegfacdbhbab.form
