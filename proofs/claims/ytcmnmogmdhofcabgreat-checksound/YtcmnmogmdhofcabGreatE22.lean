/- For every program, target and places, whoever made them, that the program takes, any ins and steps: in its places it shows what it shows. No condition. -/
import Derived.Test.YtcmnmogmdhofcabGreatRows
import Derived.ShutString
import Derived.Test.YtcmnmogmdhofcabGreatE02
import Derived.Test.YtcmnmogmdhofcabGreatE06
import Derived.Test.YtcmnmogmdhofcabGreatE15
import Derived.Test.YtcmnmogmdhofcabGreatE20
import Derived.Test.YtcmnmogmdhofcabGreatE21
import Derived.Test.YtcmnmogmdhofcabGreatE17

namespace Go.Proofs.YtcmnmogmdhofcabGreat.form
open Go.RowKit
set_option linter.unusedVariables false

def haltI : LIns := ⟨10, 0, 0, 0, 0, 0⟩
theorem one_prog {w : World} {b0 b1 c0 c1 : Nat} (h0 : w.cell? ⟨b0, 0, none⟩ = some (.bool false)) (h1 : w.cell? ⟨b1, 0, none⟩ = some (.int .i64 10)) (h2 : ∀ j, 0 < j → j < 5 → w.cell? ⟨b1, j, none⟩ = some (.int .i64 0)) (h3 : w.cell? ⟨b1, 5, none⟩ = some (.int .u32 0)) :
    ProgIs w (.agg #[.slice (some ⟨b0, 0, none⟩) 1 c0, .slice (some ⟨b1, 0, none⟩) 1 c1]) [false] [haltI] := by
  have l0 := World.block_lt_of_cell? w _ h0
  have l1 := World.block_lt_of_cell? w _ h1
  refine ⟨⟨_, _, _, _, rfl, fun _ _ => ⟨b0, 0, b1, 0, rfl, rfl, l0, l1, fun i hi => ?_, fun i hi => ?_⟩⟩, by simp, by simp, fun i hi => ?_⟩
  · have : i = 0 := by simp at hi; omega
    subst this
    simpa using h0
  · have : i = 0 := by simp at hi; omega
    subst this
    exact ⟨by simpa [haltI] using h1, by simpa [haltI] using h2 1 (by omega) (by omega), by simpa [haltI] using h2 2 (by omega) (by omega), by simpa [haltI] using h2 3 (by omega) (by omega), by simpa [haltI] using h2 4 (by omega) (by omega), by simpa [haltI] using h3⟩
  · have : i = 0 := by simp at hi; omega
    subst this
    simp [haltI]
theorem one_placed {w : World} {b2 c2 : Nat} (h : ∀ j, j < 6 → w.cell? ⟨b2, j, none⟩ = some (.int .i64 0)) (h6 : w.cell? ⟨b2, 6, none⟩ = some (.slice none 0 0)) (h7 : w.cell? ⟨b2, 7, none⟩ = some (.slice none 0 0)) :
    PlacedIs w (.agg #[.int .i64 0, .slice (some ⟨b2, 0, none⟩) 1 c2]) 0 [.zero] := by
  have l0 := World.block_lt_of_cell? w _ h6
  refine ⟨_, _, rfl, by simp, fun _ => ⟨b2, 0, rfl, l0, fun r hr => ?_⟩⟩
  have : r = 0 := by simp at hr; omega
  subst this
  have hz : MovesIs w (.slice none 0 0) [] := ⟨none, 0, rfl, by simp, fun hh => absurd hh (by simp)⟩
  exact ⟨by simpa [LRow.zero, LPlace.zero] using h 0 (by omega), by simpa [LRow.zero, LPlace.zero] using h 1 (by omega), by simpa [LRow.zero, LPlace.zero] using h 2 (by omega), by simpa [LRow.zero, LPlace.zero] using h 3 (by omega), by simpa [LRow.zero, LPlace.zero] using h 4 (by omega), by simpa [LRow.zero, LPlace.zero] using h 5 (by omega), _, _, by simpa using h6, by simpa using h7, hz, hz⟩

end Go.Proofs.YtcmnmogmdhofcabGreat.form

/- The places of a program that halts at once are taken; that program, and its places, in memory. -/
namespace Go.Proofs.YtcmnmogmdhofcabGreat.form
open Go.RowKit
set_option linter.unusedVariables false

theorem taken_one : TakenP [false] [haltI] 4 0 [.zero] := by
  refine ⟨by decide, fun k hk hl => ?_⟩
  have : k = 0 := by simp at hl; omega
  subst this
  have hm : manyI haltI.op = 0 := by decide
  exact ⟨fun h => absurd h (by simp [hm]), fun h => absurd h (by simp [hm])⟩

end Go.Proofs.YtcmnmogmdhofcabGreat.form

/- What the document's run in places (loanbookref7.Play) shows: the machine in its places on plain numbers, so many steps. -/
namespace Go.Proofs.YtcmnmogmdhofcabGreat.form
open Go.RowKit Go.Proofs.YtcmnmogmdhofcabGreat.num
set_option linter.unusedVariables false
attribute [local go_sem ↓] Go.wp_at_zero Go.wp_at_succ

structure DS (w : World) (b0 o0 c0 b1 o1 c1 b2 o2 c2 : Nat) (B : List Bool) (C : List LIns) (R : List LRow) (x y z ns nl : Nat) (sto : Sto) (v : Value) (l : List Int) (st k : Int) (wr : World) : Prop where
  bel : Below w.heap.size w wr
  p0 : wr.cell? ⟨w.heap.size, 0, none⟩ = some (.slice (some ⟨b0, o0, none⟩) B.length c0)
  p1 : wr.cell? ⟨w.heap.size, 1, none⟩ = some (.slice (some ⟨b1, o1, none⟩) C.length c1)
  l1 : wr.cell? ⟨w.heap.size + 1 + 1, 1, none⟩ = some (.slice (some ⟨b2, o2, none⟩) R.length c2)
  res : Row wr (w.heap.size + 1 + 1 + 1) 44 [.int .i64 0, .slice none 0 0, .int .i64 0]
  sh : Row wr (w.heap.size + 1 + 1 + 1 + 1) 44 [.int .i64 st, v, .int .i64 k]
  s0 : wr.cell? ⟨z, 0, none⟩ = some (.slice (some ⟨x, 0, none⟩) ns ns)
  s1 : wr.cell? ⟨z, 1, none⟩ = some (.slice (some ⟨y, 0, none⟩) nl nl)
  x0 : w.heap.size + 5 ≤ x
  x1 : x < w.heap.size + 8
  y0 : w.heap.size + 5 ≤ y
  y1 : y < w.heap.size + 8
  z0 : w.heap.size + 5 ≤ z
  z1 : z < w.heap.size + 8
  zx : z ≠ x
  zy : z ≠ y
  sz : w.heap.size + 8 ≤ wr.heap.size
  sto : StoIs wr x y sto
  own : wr.ownsRow (w.heap.size + 8) 33 1 v l.length (l.map (Value.int .u32))

section
variable {w : World} {b0 o0 c0 b1 o1 c1 b2 o2 c2 : Nat} {B : List Bool} {C : List LIns} {R : List LRow} {x y z ns nl : Nat} {sto sto' : Sto} {v : Value} {l : List Int} {st k : Int} {wr w1 : World}

theorem DS.ownNe (h : DS w b0 o0 c0 b1 o1 c1 b2 o2 c2 B C R x y z ns nl sto v l st k wr) {b : Nat} (hb : b < w.heap.size + 8) : v.ownBlock ≠ some b := fun e => by have := (World.ownsRow.lt h.own _ e).1; omega

theorem DS.below (h : DS w b0 o0 c0 b1 o1 c1 b2 o2 c2 B C R x y z ns nl sto v l st k wr) (hb : Below wr.heap.size wr w1) : DS w b0 o0 c0 b1 o1 c1 b2 o2 c2 B C R x y z ns nl sto v l st k w1 :=
  ⟨step_below hb h.bel, step_cell hb h.p0, step_cell hb h.p1, step_cell hb h.l1, h.res.below hb, h.sh.below hb, step_cell hb h.s0, step_cell hb h.s1, h.x0, h.x1, h.y0, h.y1, h.z0, h.z1, h.zx, h.zy, Nat.le_trans h.sz hb.size, h.sto.below hb, own_below h.own hb⟩

theorem DS.but (h : DS w b0 o0 c0 b1 o1 c1 b2 o2 c2 B C R x y z ns nl sto v l st k wr) (hb : But x y wr w1) (hs : StoIs w1 x y sto') : DS w b0 o0 c0 b1 o1 c1 b2 o2 c2 B C R x y z ns nl sto' v l st k w1 := by
  have a0 := h.x0; have a1 := h.x1; have a2 := h.y0; have a3 := h.y1; have a4 := h.z0; have a5 := h.z1; have a6 := h.zx; have a7 := h.zy; have hz := h.sz
  refine ⟨h.bel.trans (hb.below (by omega) (by omega) (by omega)), hb.cell h.p0 (by dsimp only; omega) (by dsimp only; omega), hb.cell h.p1 (by dsimp only; omega) (by dsimp only; omega), hb.cell h.l1 (by dsimp only; omega) (by dsimp only; omega), hb.row h.res (by omega) (by omega), hb.row h.sh (by omega) (by omega),
    hb.cell h.s0 (by dsimp only; omega) (by dsimp only; omega), hb.cell h.s1 (by dsimp only; omega) (by dsimp only; omega), a0, a1, a2, a3, a4, a5, a6, a7, Nat.le_trans hz hb.size, hs, ?_⟩
  refine ⟨h.own.1, ?_⟩
  rcases h.own.2 with hn | ⟨g, cap, cur, rfl, hbg, hgg, rest⟩
  · exact .inl hn
  · exact .inr ⟨g, cap, cur, rfl, hbg, by rw [hb.block g (Array.getElem?_eq_some_iff.1 hgg).1 (by omega) (by omega)]; exact hgg, rest⟩

theorem DS.setState (h : DS w b0 o0 c0 b1 o1 c1 b2 o2 c2 B C R x y z ns nl sto v l st k wr) (u : Int) : DS w b0 o0 c0 b1 o1 c1 b2 o2 c2 B C R x y z ns nl sto v l u k (wr.setCell ⟨w.heap.size + 1 + 1 + 1 + 1, 0, none⟩ (.int .i64 u)) := by
  have a0 := h.x0; have a1 := h.x1; have a2 := h.y0; have a3 := h.y1; have a4 := h.z0; have a5 := h.z1; have a6 := h.zx; have a7 := h.zy; have hz := h.sz
  exact ⟨h.bel.setCell (by dsimp only; omega) _, cell_other h.p0 (by dsimp only; omega), cell_other h.p1 (by dsimp only; omega), cell_other h.l1 (by dsimp only; omega), h.res.other (by dsimp only; omega) _, h.sh.set 0 _, cell_other h.s0 (by dsimp only; omega), cell_other h.s1 (by dsimp only; omega), a0, a1, a2, a3, a4, a5, a6, a7, by simpa using hz,
    ⟨h.sto.sing.other (by dsimp only; omega) _, h.sto.slot.other (by dsimp only; omega) _, h.sto.ne⟩, ownsRow_setCell_other h.own (h.ownNe (by dsimp only; omega)) _⟩
theorem DS.setSteps (h : DS w b0 o0 c0 b1 o1 c1 b2 o2 c2 B C R x y z ns nl sto v l st k wr) (u : Int) : DS w b0 o0 c0 b1 o1 c1 b2 o2 c2 B C R x y z ns nl sto v l st u (wr.setCell ⟨w.heap.size + 1 + 1 + 1 + 1, 2, none⟩ (.int .i64 u)) := by
  have a0 := h.x0; have a1 := h.x1; have a2 := h.y0; have a3 := h.y1; have a4 := h.z0; have a5 := h.z1; have a6 := h.zx; have a7 := h.zy; have hz := h.sz
  exact ⟨h.bel.setCell (by dsimp only; omega) _, cell_other h.p0 (by dsimp only; omega), cell_other h.p1 (by dsimp only; omega), cell_other h.l1 (by dsimp only; omega), h.res.other (by dsimp only; omega) _, h.sh.set 2 _, cell_other h.s0 (by dsimp only; omega), cell_other h.s1 (by dsimp only; omega), a0, a1, a2, a3, a4, a5, a6, a7, by simpa using hz,
    ⟨h.sto.sing.other (by dsimp only; omega) _, h.sto.slot.other (by dsimp only; omega) _, h.sto.ne⟩, ownsRow_setCell_other h.own (h.ownNe (by dsimp only; omega)) _⟩

theorem DS.push (h : DS w b0 o0 c0 b1 o1 c1 b2 o2 c2 B C R x y z ns nl sto v l st k wr) {u : Int} {o : Obj} {g cap : Nat}
    (hown : w1.ownsRow (w.heap.size + 8) 33 1 (.slice (some ⟨g, 0, none⟩) (l.length + 1) cap) (l.length + 1) (l.map (Value.int .u32) ++ [.int .u32 u])) (hgrow : (wr.alloc o).grownBy w1 v.ownBlock) :
    DS w b0 o0 c0 b1 o1 c1 b2 o2 c2 B C R x y z ns nl sto (.slice (some ⟨g, 0, none⟩) (l.length + 1) cap) (l ++ [u]) st k (w1.setCell ⟨w.heap.size + 1 + 1 + 1 + 1, 1, none⟩ (.slice (some ⟨g, 0, none⟩) (l.length + 1) cap)) := by
  have a0 := h.x0; have a1 := h.x1; have a2 := h.y0; have a3 := h.y1; have a4 := h.z0; have a5 := h.z1; have a6 := h.zx; have a7 := h.zy; have hz := h.sz
  have hz1 : (wr.alloc o).heap.size = wr.heap.size + 1 := by simp
  have hbl : Below w.heap.size w w1 := (h.bel.alloc (by omega) o).grown hgrow (by omega) (fun j hj => by have := (World.ownsRow.lt h.own _ hj).1; omega)
  have far : ∀ b, b < w.heap.size + 8 → ∀ off u, wr.cell? ⟨b, off, none⟩ = some u → w1.cell? ⟨b, off, none⟩ = some u := by
    intro b hb off u hc
    rw [hgrow.cell_far ⟨b, off, none⟩ (by show b < (wr.alloc o).heap.size; omega) (Ne.symm (h.ownNe hb))]
    exact step_cell ((Below.refl _ _).alloc (Nat.le_refl _) o) hc
  have hgb : w.heap.size + 8 ≤ g := (World.ownsRow.lt hown g rfl).1
  refine ⟨hbl.setCell (by dsimp only; omega) _, cell_other (far _ (by omega) _ _ h.p0) (by dsimp only; omega), cell_other (far _ (by omega) _ _ h.p1) (by dsimp only; omega), cell_other (far _ (by omega) _ _ h.l1) (by dsimp only; omega), ?_, ?_, cell_other (far _ (by omega) _ _ h.s0) (by dsimp only; omega), cell_other (far _ (by omega) _ _ h.s1) (by dsimp only; omega), a0, a1, a2, a3, a4, a5, a6, a7, by have := hgrow.size; simp at this ⊢; omega, ⟨?_, ?_, h.sto.ne⟩, ?_⟩
  · exact ((h.res.alloc o).grown hgrow (Ne.symm (h.ownNe (by omega)))).other (by dsimp only; omega) _
  · exact ((h.sh.alloc o).grown hgrow (Ne.symm (h.ownNe (by omega)))).set 1 _
  · exact ((h.sto.sing.alloc o).grown hgrow (Ne.symm (h.ownNe (by omega)))).other (by dsimp only; omega) _
  · exact ((h.sto.slot.alloc o).grown hgrow (Ne.symm (h.ownNe (by omega)))).other (by dsimp only; omega) _
  · have := ownsRow_setCell_other (a := ⟨w.heap.size + 1 + 1 + 1 + 1, 1, none⟩) hown (by simp [Value.ownBlock]; omega) (.slice (some ⟨g, 0, none⟩) (l.length + 1) cap)
    simpa using this
end

theorem made_u32 (n : Nat) : madeCells #[.int .u32 0] n = ((List.replicate n (0 : Int)).map (Value.int .u32)).toArray := by
  apply Array.toList_inj.1
  rw [toList_madeCells_one]
  simp

def dW (w : World) (b0 o0 c0 b1 o1 c1 b2 o2 c2 nB nC nR ns nl : Nat) : World :=
  ((((w.alloc (.cells #[.slice (some ⟨b0, o0, none⟩) nB c0, .slice (some ⟨b1, o1, none⟩) nC c1] 25)).alloc (.cells #[.int .i64 ns] 27)).alloc (.cells #[.int .i64 nl, .slice (some ⟨b2, o2, none⟩) nR c2] 30)).alloc (.cells #[.int .i64 0, .slice none 0 0, .int .i64 0] 44)).alloc (.cells #[.int .i64 0, .slice none 0 0, .int .i64 0] 44)

theorem dW_size (w : World) (b0 o0 c0 b1 o1 c1 b2 o2 c2 nB nC nR ns nl : Nat) : (dW w b0 o0 c0 b1 o1 c1 b2 o2 c2 nB nC nR ns nl).heap.size = w.heap.size + 5 := by simp [dW]

theorem three_at (W : World) (p1 p2 p3 : Obj) : (((W.alloc p1).alloc p2).alloc p3).heap[W.heap.size]? = some p1 ∧ (((W.alloc p1).alloc p2).alloc p3).heap[W.heap.size + 1]? = some p2 ∧ (((W.alloc p1).alloc p2).alloc p3).heap[W.heap.size + 2]? = some p3 := by
  refine ⟨?_, ?_, ?_⟩
  · rw [heap_alloc_old _ _ (by simp; omega), heap_alloc_old _ _ (by simp), heap_alloc_new]
  · rw [heap_alloc_old _ _ (by simp)]
    have := heap_alloc_new (W.alloc p1) p2
    simpa using this
  · have := heap_alloc_new ((W.alloc p1).alloc p2) p3
    simpa using this

theorem ds_start {w : World} {b0 o0 c0 b1 o1 c1 b2 o2 c2 : Nat} {B : List Bool} {C : List LIns} {R : List LRow} {x y z ns nl : Nat} {W : World} (hb : Below (dW w b0 o0 c0 b1 o1 c1 b2 o2 c2 B.length C.length R.length ns nl).heap.size (dW w b0 o0 c0 b1 o1 c1 b2 o2 c2 B.length C.length R.length ns nl) W)
    (hsz : W.heap.size = w.heap.size + 8) (hx : W.heap[x]? = some (.cells (madeCells #[.int .u32 0] ns) 33)) (hy : W.heap[y]? = some (.cells (madeCells #[.int .u64 0] nl) 77)) (hz : W.heap[z]? = some (.cells #[.slice (some ⟨x, 0, none⟩) ns ns, .slice (some ⟨y, 0, none⟩) nl nl] 82))
    (hxyz : w.heap.size + 5 ≤ x ∧ w.heap.size + 5 ≤ y ∧ w.heap.size + 5 ≤ z ∧ x ≠ y ∧ z ≠ x ∧ z ≠ y) : DS w b0 o0 c0 b1 o1 c1 b2 o2 c2 B C R x y z ns nl (PMac.start ns nl).sto (.slice none 0 0) [] 0 0 W := by
  have lx := lt_of_block hx
  have ly := lt_of_block hy
  have lz := lt_of_block hz
  obtain ⟨h1, h2, h3, h4, h5, h6⟩ := hxyz
  rw [made_u32] at hx
  rw [made_u64] at hy
  have hzr : Row W z 82 [.slice (some ⟨x, 0, none⟩) ns ns, .slice (some ⟨y, 0, none⟩) nl nl] := hz
  have hbw : Below w.heap.size w (dW w b0 o0 c0 b1 o1 c1 b2 o2 c2 B.length C.length R.length ns nl) := (((((Below.refl _ _).alloc (Nat.le_refl _) _).alloc (by simp) _).alloc (by simp; omega) _).alloc (by simp; omega) _).alloc (by simp; omega) _
  refine ⟨step_below hb hbw, step_cell hb (by simp [dW, go_sem]), step_cell hb (by simp [dW, go_sem]), step_cell hb (by simp [dW, go_sem]), ?_, ?_, hzr.cell 0, hzr.cell 1, h1, by omega, h2, by omega, h3, by omega, h5, h6, by omega, ⟨hx, hy, h4⟩, World.ownsRow_nil _ _ _ _⟩
  · refine Row.below ?_ hb
    have := (Row.new (((w.alloc (.cells #[.slice (some ⟨b0, o0, none⟩) B.length c0, .slice (some ⟨b1, o1, none⟩) C.length c1] 25)).alloc (.cells #[.int .i64 ns] 27)).alloc (.cells #[.int .i64 nl, .slice (some ⟨b2, o2, none⟩) R.length c2] 30)) 44 [.int .i64 0, .slice none 0 0, .int .i64 0]).alloc (.cells #[.int .i64 0, .slice none 0 0, .int .i64 0] 44)
    simpa [dW] using this
  · refine Row.below ?_ hb
    have := Row.new ((((w.alloc (.cells #[.slice (some ⟨b0, o0, none⟩) B.length c0, .slice (some ⟨b1, o1, none⟩) C.length c1] 25)).alloc (.cells #[.int .i64 ns] 27)).alloc (.cells #[.int .i64 nl, .slice (some ⟨b2, o2, none⟩) R.length c2] 30)).alloc (.cells #[.int .i64 0, .slice none 0 0, .int .i64 0] 44)) 44 [.int .i64 0, .slice none 0 0, .int .i64 0]
    simpa [dW] using this

theorem ds_perm (w : World) (b0 o0 c0 b1 o1 c1 b2 o2 c2 : Nat) (B : List Bool) (C : List LIns) (R : List LRow) (ns nl i j k : Nat) (p1 p2 p3 : Obj) (W : World) (hW : W = World.drew ((((dW w b0 o0 c0 b1 o1 c1 b2 o2 c2 B.length C.length R.length ns nl).alloc p1).alloc p2).alloc p3))
    (hc : ((i = 0 ∧ j = 1 ∧ k = 2) ∧ p1 = .cells (madeCells #[.int .u32 0] ns) 33 ∧ p2 = .cells (madeCells #[.int .u64 0] nl) 77 ∧ p3 = .cells #[.slice (some ⟨w.heap.size + 5 + i, 0, none⟩) ns ns, .slice (some ⟨w.heap.size + 5 + j, 0, none⟩) nl nl] 82) ∨
      ((i = 0 ∧ j = 2 ∧ k = 1) ∧ p1 = .cells (madeCells #[.int .u32 0] ns) 33 ∧ p3 = .cells (madeCells #[.int .u64 0] nl) 77 ∧ p2 = .cells #[.slice (some ⟨w.heap.size + 5 + i, 0, none⟩) ns ns, .slice (some ⟨w.heap.size + 5 + j, 0, none⟩) nl nl] 82) ∨
      ((i = 1 ∧ j = 0 ∧ k = 2) ∧ p2 = .cells (madeCells #[.int .u32 0] ns) 33 ∧ p1 = .cells (madeCells #[.int .u64 0] nl) 77 ∧ p3 = .cells #[.slice (some ⟨w.heap.size + 5 + i, 0, none⟩) ns ns, .slice (some ⟨w.heap.size + 5 + j, 0, none⟩) nl nl] 82) ∨
      ((i = 2 ∧ j = 0 ∧ k = 1) ∧ p3 = .cells (madeCells #[.int .u32 0] ns) 33 ∧ p1 = .cells (madeCells #[.int .u64 0] nl) 77 ∧ p2 = .cells #[.slice (some ⟨w.heap.size + 5 + i, 0, none⟩) ns ns, .slice (some ⟨w.heap.size + 5 + j, 0, none⟩) nl nl] 82) ∨
      ((i = 1 ∧ j = 2 ∧ k = 0) ∧ p2 = .cells (madeCells #[.int .u32 0] ns) 33 ∧ p3 = .cells (madeCells #[.int .u64 0] nl) 77 ∧ p1 = .cells #[.slice (some ⟨w.heap.size + 5 + i, 0, none⟩) ns ns, .slice (some ⟨w.heap.size + 5 + j, 0, none⟩) nl nl] 82) ∨
      ((i = 2 ∧ j = 1 ∧ k = 0) ∧ p3 = .cells (madeCells #[.int .u32 0] ns) 33 ∧ p2 = .cells (madeCells #[.int .u64 0] nl) 77 ∧ p1 = .cells #[.slice (some ⟨w.heap.size + 5 + i, 0, none⟩) ns ns, .slice (some ⟨w.heap.size + 5 + j, 0, none⟩) nl nl] 82)) :
    DS w b0 o0 c0 b1 o1 c1 b2 o2 c2 B C R (w.heap.size + 5 + i) (w.heap.size + 5 + j) (w.heap.size + 5 + k) ns nl (PMac.start ns nl).sto (.slice none 0 0) [] 0 0 W := by
  have h3 := three_at (dW w b0 o0 c0 b1 o1 c1 b2 o2 c2 B.length C.length R.length ns nl) p1 p2 p3
  rw [dW_size] at h3
  have hb : Below (dW w b0 o0 c0 b1 o1 c1 b2 o2 c2 B.length C.length R.length ns nl).heap.size (dW w b0 o0 c0 b1 o1 c1 b2 o2 c2 B.length C.length R.length ns nl) W := by
    rw [hW]
    exact ((((Below.refl _ _).alloc (Nat.le_refl _) _).alloc (by simp) _).alloc (by simp; omega) _).drew
  have hsz : W.heap.size = w.heap.size + 8 := by rw [hW]; simp [World.drew, dW_size]
  have hh : ∀ q : Nat, W.heap[q]? = ((((dW w b0 o0 c0 b1 o1 c1 b2 o2 c2 B.length C.length R.length ns nl).alloc p1).alloc p2).alloc p3).heap[q]? := fun q => by rw [hW]; rfl
  rcases hc with ⟨⟨rfl, rfl, rfl⟩, rfl, rfl, rfl⟩ | ⟨⟨rfl, rfl, rfl⟩, rfl, rfl, rfl⟩ | ⟨⟨rfl, rfl, rfl⟩, rfl, rfl, rfl⟩ | ⟨⟨rfl, rfl, rfl⟩, rfl, rfl, rfl⟩ | ⟨⟨rfl, rfl, rfl⟩, rfl, rfl, rfl⟩ | ⟨⟨rfl, rfl, rfl⟩, rfl, rfl, rfl⟩
  all_goals
    refine ds_start hb hsz ?_ ?_ ?_ ⟨by omega, by omega, by omega, by omega, by omega, by omega⟩
    all_goals
      rw [hh]
      first | exact h3.1 | exact h3.2.1 | exact h3.2.2

def DStart (w : World) (b0 o0 c0 b1 o1 c1 b2 o2 c2 : Nat) (B : List Bool) (C : List LIns) (R : List LRow) (ns nl : Nat) (p : Value) (wr : World) : Prop :=
  ∃ x y z, p = .pointer (some ⟨z, 0, none⟩) ∧ DS w b0 o0 c0 b1 o1 c1 b2 o2 c2 B C R x y z ns nl (PMac.start ns nl).sto (.slice none 0 0) [] 0 0 wr

structure POk (nC nI ns nl : Nat) (m : PMac) : Prop where
  sto : StoAt ns nl m.sto
  pcok : m.state = 0 → m.pc < nC
  tk : m.taken ≤ nI
  outs : m.out.length ≤ m.steps

theorem sto_at_moves {s slots : Int} (l : List LMove) : ∀ st : Sto, StoAt s slots st → (∀ m, m ∈ l → 0 ≤ m.n ∧ m.n < 4294967296) → StoAt s slots (movesP st l) := by
  induction l with
  | nil => exact fun st h _ => h
  | cons m l ih => exact fun st h hl => ih _ (sto_at_move h (hl m (by simp))) (fun x hx => hl x (by simp [hx]))

theorem pl_of_is {ns nl : Nat} {st : Sto} {q : LPlace} (h : StoAt ns nl st) (hq : isB ns nl q = true ∨ (q.kind = 0 ∧ q.n = 0)) : PlOk st q := by
  have h1 := h.sl
  have h2 := h.ll
  unfold PlOk
  rw [h1, h2]
  exact hq

theorem mv_ok {ns nl : Nat} {st : Sto} {m : LMove} (h : StoAt ns nl st) (hm : moveB ns nl m = true) (hn : 0 ≤ m.n ∧ m.n < 4294967296) : MvOk st m := by
  unfold moveB at hm
  rw [Bool.and_eq_true] at hm
  refine ⟨pl_of_is h (Or.inl hm.1), pl_of_is h ?_, hn.1, hn.2⟩
  cases hc : m.cst with
  | true => have := hm.2; rw [if_pos hc] at this; simp at this; exact Or.inr this.1
  | false => have := hm.2; rw [hc] at this; simp at this; exact Or.inl this.1.2

theorem field_is {B : List Bool} {ns nl : Nat} {there : Bool} {t : Int} {q : LPlace} (h : fieldP B ns there t q = true) : isB ns nl q = true ∨ (q.kind = 0 ∧ q.n = 0) := by
  unfold fieldP at h
  cases there with
  | true => rw [if_pos rfl] at h; exact Or.inl (reg_is h).1
  | false => simp at h; exact Or.inr h

theorem pok_start {nC nI ns nl : Nat} (h1 : 1 ≤ nC) (h2 : ns ≤ 16) (h3 : ns % 2 = 0) (h4 : nl ≤ 12) : POk nC nI ns nl (PMac.start ns nl) :=
  ⟨sto_start h2 h3 h4, fun _ => h1, Nat.zero_le _, Nat.le_refl _⟩

theorem pok_step {B : List Bool} {C : List LIns} {R : List LRow} {I : List Int} {ns nl : Nat} {m : PMac} (h : POk C.length I.length ns nl m) (h0 : m.state = 0) (hi : InsOk B.length C.length (C.getD m.pc .zero)) (hrn : ∀ x, x ∈ (R.getD m.pc .zero).before ∨ x ∈ (R.getD m.pc .zero).after → 0 ≤ x.n ∧ x.n < 4294967296)
    (hin : ∀ j, j < I.length → 0 ≤ I.getD j 0 ∧ I.getD j 0 < 4294967296) : POk C.length I.length ns nl (m.step C R I) := by
  have hs1 := sto_at_moves (R.getD m.pc .zero).before m.sto h.sto (fun x hx => hrn x (Or.inl hx))
  have hx := inOf_bd hin m.taken
  refine ⟨?_, ?_, ?_, ?_⟩
  · unfold PMac.step
    simp only
    refine sto_at_moves _ _ ?_ (fun x hx => hrn x (Or.inr hx))
    split
    · exact sto_at_put hs1 (gvI_bd _ _ _ _ (get_bd _ hs1.ok) (get_bd _ hs1.ok) hx.1 hx.2 hi.n0 hi.n1)
    · exact hs1
  · unfold PMac.step
    simp only
    intro hst
    obtain ⟨_, n2⟩ := nx_next hst
    have := h.pcok h0
    omega
  · unfold PMac.step
    simp only
    have := h.tk
    split <;> omega
  · unfold PMac.step
    simp only
    have := h.outs
    split
    · simp; omega
    · omega

set_option maxRecDepth 100000 in
set_option maxHeartbeats 4000000 in
theorem play7 (b0 o0 c0 b1 o1 c1 b2 o2 c2 : Nat) (B : List Bool) (C : List LIns) (R : List LRow) (ns nl : Nat) (iv : Value) (I : List Int) (n : Nat) (w : World) (hmay : placeMayB B C ns nl R = true) (h : Held w b0 o0 b1 o1 B C) (hr : RowsHeld w b2 o2 R)
    (hn : ∀ i, i < C.length → 0 ≤ (C.getD i .zero).n ∧ (C.getD i .zero).n < 4294967296) (hRn : ∀ k, k < C.length → ∀ x, x ∈ (R.getD k .zero).before ∨ x ∈ (R.getD k .zero).after → 0 ≤ x.n ∧ x.n < 4294967296)
    (hI : OutIs w iv I) (hIb : ∀ j, j < I.length → 0 ≤ I.getD j 0 ∧ I.getD j 0 < 4294967296) (hn3 : n ≤ 3000) :
    Calls Tryz.prog 11 #[progV b0 o0 B.length c0 b1 o1 C.length c1, targetV ns, .agg #[.int .i64 nl, .slice (some ⟨b2, o2, none⟩) R.length c2], iv, .int .i64 n] w fun e w' =>
      ∃ rv, e = .returned rv ∧ ShownIs w' rv (playP C R ns nl I n).state (playP C R ns nl I n).out (playP C R ns nl I n).steps ∧ Below w.heap.size w w' := by
  unfold placeMayB at hmay
  simp only [Bool.and_eq_true, Bool.not_eq_true', decide_eq_true_eq, decide_eq_false_iff_not, List.all_eq_true, List.mem_range] at hmay
  obtain ⟨⟨⟨⟨⟨h1, h2⟩, h3⟩, h4⟩, h5⟩, h6⟩ := hmay
  have hs := target_of h2
  have hsz : sizesB B C = true := by unfold refMayB at h1; simp only [Bool.and_eq_true] at h1; exact h1.1
  obtain ⟨s1, s2, s3, s4⟩ := sizes_of hsz
  have HOK : Hid (∀ k, k < C.length → InsOk B.length C.length (C.getD k .zero)) := all_insOk h1 hn
  have HRW : Hid (∀ k, k < C.length → rowB B ns nl (C.getD k .zero) (R.getD k .zero) = true) := h6
  have HRN : Hid (∀ k, k < C.length → ∀ x, x ∈ (R.getD k .zero).before ∨ x ∈ (R.getD k .zero).after → 0 ≤ x.n ∧ x.n < 4294967296) := hRn
  have HIb : Hid (∀ j, j < I.length → 0 ≤ I.getD j 0 ∧ I.getD j 0 < 4294967296) := hIb
  obtain ⟨ai, ci, rfl, hlI, hcI⟩ := hI
  have HCI : Hid _ := hcI
  have g1 : (ns : Int) ≤ 16 := by omega
  have g2 : (nl : Int) ≤ 12 := by omega
  have g3 : (4 : Int) ≤ (ns : Int) := by omega
  have HEV : Hid (ns % 2 = 0) := by show ns % 2 = 0; omega
  have HRL : Hid (R.length = C.length) := h5
  have x5 : (R.length : Int) = (C.length : Int) := by omega
  clear hIb hcI hsz hn h1 h2 h3 h4 h6 hRn hs h5
  have hmk := fun wx => run_make_row' (P := Tryz.prog) 32 33 (.int .u32 0) 4 Tryz.underlying32 infoU32 rfl .i64 .i64 ns (by omega) (by omega) wx
  have hmk2 := fun wx => run_make_row' (P := Tryz.prog) 76 77 (.int .u64 0) 8 Tryz.underlying76 infoU64 rfl .i64 .i64 nl (by omega) (by omega) wx
  unfold progV targetV
  go_enter Tryz.func11, Tryz.ntmps11
  go_upto_region 2 with fail
  go_cut [12] (fun p wq => DStart w b0 o0 c0 b1 o1 c1 b2 o2 c2 B C R ns nl p wq)
  case first =>
    go_region
    all_goals
      go_wp2
      go_meet
      case rel =>
        first
          | exact ⟨w.heap.size + 5, w.heap.size + 6, w.heap.size + 7, rfl, ds_perm w b0 o0 c0 b1 o1 c1 b2 o2 c2 B C R ns nl 0 1 2 _ _ _ _ rfl (Or.inl ⟨⟨rfl, rfl, rfl⟩, rfl, rfl, rfl⟩)⟩
          | exact ⟨w.heap.size + 5, w.heap.size + 7, w.heap.size + 6, rfl, ds_perm w b0 o0 c0 b1 o1 c1 b2 o2 c2 B C R ns nl 0 2 1 _ _ _ _ rfl (Or.inr (Or.inl ⟨⟨rfl, rfl, rfl⟩, rfl, rfl, rfl⟩))⟩
          | exact ⟨w.heap.size + 6, w.heap.size + 5, w.heap.size + 7, rfl, ds_perm w b0 o0 c0 b1 o1 c1 b2 o2 c2 B C R ns nl 1 0 2 _ _ _ _ rfl (Or.inr (Or.inr (Or.inl ⟨⟨rfl, rfl, rfl⟩, rfl, rfl, rfl⟩)))⟩
          | exact ⟨w.heap.size + 7, w.heap.size + 5, w.heap.size + 6, rfl, ds_perm w b0 o0 c0 b1 o1 c1 b2 o2 c2 B C R ns nl 2 0 1 _ _ _ _ rfl (Or.inr (Or.inr (Or.inr (Or.inl ⟨⟨rfl, rfl, rfl⟩, rfl, rfl, rfl⟩))))⟩
          | exact ⟨w.heap.size + 6, w.heap.size + 7, w.heap.size + 5, rfl, ds_perm w b0 o0 c0 b1 o1 c1 b2 o2 c2 B C R ns nl 1 2 0 _ _ _ _ rfl (Or.inr (Or.inr (Or.inr (Or.inr (Or.inl ⟨⟨rfl, rfl, rfl⟩, rfl, rfl, rfl⟩)))))⟩
          | exact ⟨w.heap.size + 7, w.heap.size + 6, w.heap.size + 5, rfl, ds_perm w b0 o0 c0 b1 o1 c1 b2 o2 c2 B C R ns nl 2 1 0 _ _ _ _ rfl (Or.inr (Or.inr (Or.inr (Or.inr (Or.inr ⟨⟨rfl, rfl, rfl⟩, rfl, rfl, rfl⟩)))))⟩
  obtain ⟨x, y, z, rfl, hds⟩ := hcut
  have HD0 : Hid (DS w b0 o0 c0 b1 o1 c1 b2 o2 c2 B C R x y z ns nl (PMac.start ns nl).sto (.slice none 0 0) [] 0 0 wc) := hds
  have qx0 := hds.x0
  have qx1 := hds.x1
  have qy0 := hds.y0
  have qy1 := hds.y1
  have qz0 := hds.z0
  have qz1 := hds.z1
  have qzx := hds.zx
  have qzy := hds.zy
  clear hds hmk hmk2
  have HSV : Hid (∀ st : Sto, StoAt ns nl st → stoV x y st = .agg #[.slice (some ⟨x, 0, none⟩) ns ns, .slice (some ⟨y, 0, none⟩) nl nl]) := fun st hst => by
    have e1 : st.sing.length = ns := by have := hst.sl; omega
    have e2 : st.slot.length = nl := by have := hst.ll; omega
    unfold stoV
    rw [e1, e2]
  have HMV : Hid (∀ (wx : World) (st : Sto) (vv : Value) (l : List LMove), StoIs wx x y st → StoAt ns nl st → MovesIs w vv l → Below w.heap.size w wx → movesB ns nl l = true → (∀ m, m ∈ l → 0 ≤ m.n ∧ m.n < 4294967296) →
      Calls Tryz.prog 28 #[.agg #[.slice (some ⟨x, 0, none⟩) ns ns, .slice (some ⟨y, 0, none⟩) nl nl], vv] wx fun e w' => e = .returned (.tuple #[]) ∧ StoIs w' x y (movesP st l) ∧ But x y wx w') := fun wx st vv l hs hst hm hb hmb hmn => by
    unfold movesB at hmb
    simp only [Bool.and_eq_true, decide_eq_true_eq, List.all_eq_true] at hmb
    rw [← HSV.out st hst]
    refine moves7 x y st vv l w wx hs hst.ok hmb.1 hm hb (by omega) (by omega) (fun k hk => ?_)
    have hmem : l.getD k .zero ∈ l := by simp [List.getD, hk]
    exact mv_ok hst (hmb.2 _ hmem) (hmn _ hmem)
  have HGT : Hid (∀ (wx : World) (st : Sto) (q : LPlace), StoIs wx x y st → StoAt ns nl st → (isB ns nl q = true ∨ (q.kind = 0 ∧ q.n = 0)) → Calls Tryz.prog 29 #[.agg #[.slice (some ⟨x, 0, none⟩) ns ns, .slice (some ⟨y, 0, none⟩) nl nl], .agg #[.int .i64 q.kind, .int .i64 q.n]] wx fun e w' => e = .returned (.int .u64 (getP st q)) ∧ Below wx.heap.size wx w') := fun wx st q hs hst hq => by
    rw [← HSV.out st hst]
    exact get7 x y st q wx hs hst.ok (pl_of_is hst hq)
  have HPT : Hid (∀ (wx : World) (st : Sto) (q : LPlace) (u : Int), StoIs wx x y st → StoAt ns nl st → (isB ns nl q = true ∨ (q.kind = 0 ∧ q.n = 0)) → U64i u → Calls Tryz.prog 30 #[.agg #[.slice (some ⟨x, 0, none⟩) ns ns, .slice (some ⟨y, 0, none⟩) nl nl], .agg #[.int .i64 q.kind, .int .i64 q.n], .int .u64 u] wx fun e w' => e = .returned (.tuple #[]) ∧ StoIs w' x y (putP st q u) ∧ But x y wx w') := fun wx st q u hs hst hq hu => by
    rw [← HSV.out st hst]
    exact put7 x y st q u wx hs hst.ok (pl_of_is hst hq) hu
  go_wp2
  go_loopg [13, 14] (n + 1) (fun g at_ tk wr => ∃ (m : PMac) (v : Value), at_ = .int .i64 m.pc ∧ tk = .int .i64 m.taken ∧ DS w b0 o0 c0 b1 o1 c1 b2 o2 c2 B C R x y z ns nl m.sto v m.out m.state m.steps wr ∧ POk C.length I.length ns nl m ∧ m.steps + g = n + 1 ∧ m.steps ≤ n ∧ PMac.go C R I (n - m.steps) m = playP C R ns nl I n)
  case atStart =>
    exact ⟨PMac.start ns nl, .slice none 0 0, rfl, rfl, HD0.out, pok_start s3 (by omega) HEV.out (by omega), by simp [PMac.start], by simp [PMac.start], rfl⟩
  case round =>
    clear HD0
    obtain ⟨m, v, rfl, rfl, hps, hmo, hg, hle, hfin⟩ := hrel
    have t0 : wr.cell? ⟨w.heap.size + 1 + 1 + 1 + 1, 0, none⟩ = some (.int .i64 m.state) := hps.sh.cell 0
    have t1 : wr.cell? ⟨w.heap.size + 1 + 1 + 1 + 1, 1, none⟩ = some v := hps.sh.cell 1
    have t2 : wr.cell? ⟨w.heap.size + 1 + 1 + 1 + 1, 2, none⟩ = some (.int .i64 m.steps) := hps.sh.cell 2
    have HF : Hid (PMac.go C R I (n - m.steps) m = playP C R ns nl I n) := hfin
    have HPS : Hid (DS w b0 o0 c0 b1 o1 c1 b2 o2 c2 B C R x y z ns nl m.sto v m.out m.state m.steps wr) := hps
    have HMO : Hid (POk C.length I.length ns nl m) := hmo
    have hsz8 := hps.sz
    clear hfin hps hmo
    by_cases hgo : m.steps < n ∧ m.state = 0
    case neg =>
      have hend : m = playP C R ns nl I n := by
        rw [← HF.out]
        by_cases e : m.state = 0
        · have : n - m.steps = 0 := by omega
          rw [this]; rfl
        · rw [PMac.go_stop e]
      obtain ⟨ov, cp, hov, hcells⟩ := own_form32 HPS.out.own
      have z0 : wr.cell? ⟨w.heap.size + 1 + 1 + 1, 0, none⟩ = some (.int .i64 0) := HPS.out.res.cell 0
      have z1 : wr.cell? ⟨w.heap.size + 1 + 1 + 1, 1, none⟩ = some (.slice none 0 0) := HPS.out.res.cell 1
      have z2 : wr.cell? ⟨w.heap.size + 1 + 1 + 1, 2, none⟩ = some (.int .i64 0) := HPS.out.res.cell 2
      have f0 := HPS.out.res.frozen 0
      have f1 := HPS.out.res.frozen 1
      have f2 := HPS.out.res.frozen 2
      subst hov
      have HEND : Hid (m = playP C R ns nl I n) := hend
      clear hend
      rcases (show (¬ (m.steps : Int) < (n : Int)) ∨ ((m.steps : Int) < (n : Int) ∧ (m.state == 0) = false) by
        by_cases e : m.steps < n
        · exact Or.inr ⟨by omega, by simp; exact fun e2 => hgo ⟨e, e2⟩⟩
        · exact Or.inl (by omega)) with e1 | ⟨e1, e2⟩
      all_goals
        clear hgo
        go_wp2
        have r0 := ((HPS.out.res.set 0 (.int .i64 m.state)).set 1 (.slice ov m.out.length cp)).set 2 (.int .i64 m.steps)
        have g0 := r0.cell 0
        have g1 := r0.cell 1
        have g2 := r0.cell 2
        simp at g0 g1 g2
        refine bodyPost_ret (v := .agg #[.int .i64 m.state, .slice ov m.out.length cp, .int .i64 m.steps]) ?_ rfl ⟨_, rfl, ?_, ?_⟩
        · simp [results, Tryz.results11, go_sem, g0, g1, g2]
        · rw [← HEND.out]
          refine ⟨_, rfl, ov, cp, rfl, by have := HMO.out.outs; omega, fun hp => ?_⟩
          obtain ⟨gb, go, e, hgb, hgl, hgc⟩ := hcells hp
          refine ⟨gb, go, e, by simpa using hgl, fun j hj => ?_⟩
          exact cell_other (cell_other (cell_other (hgc j hj) (by dsimp only; omega)) (by dsimp only; omega)) (by dsimp only; omega)
        · exact ((HPS.out.bel.setCell (by dsimp only; omega) _).setCell (by dsimp only; omega) _).setCell (by dsimp only; omega) _
    obtain ⟨hlt, hst0⟩ := hgo
    have hpc := HMO.out.pcok hst0
    have hi := HOK.out m.pc hpc
    have hrw := HRW.out m.pc hpc
    have hrn := HRN.out m.pc hpc
    have hbel := HPS.out.bel
    obtain ⟨d0, d1, d2, d3, d4, d5⟩ := (h.later hbel).code m.pc hpc
    obtain ⟨e0, e1, e2, e3, e4, e5, vb, va, e6, e7, mb, ma⟩ := hr.rows m.pc (by rw [HRL.out]; exact hpc)
    have e0 := step_cell hbel e0
    have e1 := step_cell hbel e1
    have e2 := step_cell hbel e2
    have e3 := step_cell hbel e3
    have e4 := step_cell hbel e4
    have e5 := step_cell hbel e5
    have e6 := step_cell hbel e6
    have e7 := step_cell hbel e7
    obtain ⟨i, hie⟩ : ∃ i, i = C.getD m.pc .zero := ⟨_, rfl⟩
    obtain ⟨r, hre⟩ : ∃ r, r = R.getD m.pc .zero := ⟨_, rfl⟩
    rw [← hie] at d0 d1 d2 d3 d4 d5 hi hrw
    rw [← hre] at e0 e1 e2 e3 e4 e5 mb ma hrw hrn
    have HIE : Hid (C.getD m.pc .zero = i) := hie.symm
    have HRE : Hid (R.getD m.pc .zero = r) := hre.symm
    have HII : Hid (InsOk B.length C.length i) := hi
    have HRN1 : Hid (∀ x, x ∈ r.before ∨ x ∈ r.after → 0 ≤ x.n ∧ x.n < 4294967296) := hrn
    have mb' := mb
    have ma' := ma
    obtain ⟨bao, bcap, rfl, -⟩ := mb'
    obtain ⟨aao, acap, rfl, -⟩ := ma'
    have HMB : Hid (MovesIs w (.slice bao r.before.length bcap) r.before) := mb
    have HMA : Hid (MovesIs w (.slice aao r.after.length acap) r.after) := ma
    unfold rowB at hrw
    simp only [Bool.and_eq_true] at hrw
    obtain ⟨⟨⟨⟨⟨rd, ra⟩, rb⟩, rbef⟩, raft⟩, _⟩ := hrw
    have HRD : Hid (isB ns nl r.dest = true ∨ (r.dest.kind = 0 ∧ r.dest.n = 0)) := field_is rd
    have HRA : Hid (isB ns nl r.a = true ∨ (r.a.kind = 0 ∧ r.a.n = 0)) := field_is ra
    have HRB : Hid (isB ns nl r.b = true ∨ (r.b.kind = 0 ∧ r.b.n = 0)) := field_is rb
    have HBF : Hid (movesB ns nl r.before = true) := rbef
    have HAF : Hid (movesB ns nl r.after = true) := raft
    have hs0 := HMO.out.sto
    have hs1 := sto_at_moves r.before m.sto hs0 (fun x hx => hrn x (Or.inl hx))
    obtain ⟨st1, hst1⟩ : ∃ q, q = movesP m.sto r.before := ⟨_, rfl⟩
    rw [← hst1] at hs1
    have HST1 : Hid (movesP m.sto r.before = st1) := hst1.symm
    have HS1 : Hid (StoAt ns nl st1) := hs1
    have hua : U64i (getP st1 r.a) := get_bd _ hs1.ok
    have hub : U64i (getP st1 r.b) := get_bd _ hs1.ok
    obtain ⟨a, hae⟩ : ∃ a, a = getP st1 r.a := ⟨_, rfl⟩
    obtain ⟨b, hbe⟩ : ∃ b, b = getP st1 r.b := ⟨_, rfl⟩
    rw [← hae] at hua
    rw [← hbe] at hub
    have HAE : Hid (getP st1 r.a = a) := hae.symm
    have HBE : Hid (getP st1 r.b = b) := hbe.symm
    have x5' : (m.pc : Int) < (C.length : Int) := by omega
    have x6 : (m.steps : Int) < (n : Int) := by omega
    have x7 : (m.state == 0) = true := by simp [hst0]
    have HST0 : Hid (m.state = 0) := hst0
    have hlb1 := (h.later hbel).lt1
    have hlb2 := (hr.later hbel).lt
    have p0 := HPS.out.p0
    have p1 := HPS.out.p1
    have l1 := HPS.out.l1
    have c70 := HPS.out.s0
    have c71 := HPS.out.s1
    have hz0 : w.heap.size < wr.heap.size := by omega
    have hz2 : w.heap.size + 1 + 1 < wr.heap.size := by omega
    have hz4 : w.heap.size + 1 + 1 + 1 + 1 < wr.heap.size := by omega
    have hzz : z < wr.heap.size := by omega
    clear hie hre hi hrn mb ma rd ra rb rbef raft hs0 hs1 hst1 hae hbe hst0 hpc hbel
    obtain ⟨Iv, hIv⟩ : ∃ l : List Value, l = [.int .i64 i.op, .int .i64 i.dest, .int .i64 i.a, .int .i64 i.b, .int .i64 i.c, .int .u32 i.n] := ⟨_, rfl⟩
    obtain ⟨Rv, hRv⟩ : ∃ l : List Value, l = [.int .i64 r.dest.kind, .int .i64 r.dest.n, .int .i64 r.a.kind, .int .i64 r.a.n, .int .i64 r.b.kind, .int .i64 r.b.n, .slice bao r.before.length bcap, .slice aao r.after.length acap] := ⟨_, rfl⟩
    have HIv : Hid (Iv = [.int .i64 i.op, .int .i64 i.dest, .int .i64 i.a, .int .i64 i.b, .int .i64 i.c, .int .u32 i.n]) := hIv
    have HRv : Hid (Rv = [.int .i64 r.dest.kind, .int .i64 r.dest.n, .int .i64 r.a.kind, .int .i64 r.a.n, .int .i64 r.b.kind, .int .i64 r.b.n, .slice bao r.before.length bcap, .slice aao r.after.length acap]) := hRv
    clear hIv hRv
    have HW2 : Hid (DS w b0 o0 c0 b1 o1 c1 b2 o2 c2 B C R x y z ns nl m.sto v m.out m.state m.steps ((wr.alloc (.cells Iv.toArray 35)).alloc (.cells Rv.toArray 40)) ∧ Row ((wr.alloc (.cells Iv.toArray 35)).alloc (.cells Rv.toArray 40)) wr.heap.size 35 Iv ∧ Row ((wr.alloc (.cells Iv.toArray 35)).alloc (.cells Rv.toArray 40)) (wr.heap.size + 1) 40 Rv) := by
      refine ⟨HPS.out.below (((Below.refl _ _).alloc (Nat.le_refl _) _).alloc (by simp) _), (Row.new wr _ _).alloc _, ?_⟩
      have := Row.new (wr.alloc (.cells Iv.toArray 35)) 40 Rv
      simpa using this
    go_upto_region 12 with (first
      | (have hgd := HA2; clear hgd; go_at_call 29; refine (HGT.out _ st1 r.b HA2.out.1.sto HS1.out HRB.out).mono ?_; rw [HBE.out]; rintro e w3 ⟨rfl, hb3⟩; have HA3 : Hid (DS w b0 o0 c0 b1 o1 c1 b2 o2 c2 B C R x y z ns nl st1 v m.out m.state m.steps w3 ∧ Row w3 wr.heap.size 35 Iv ∧ Row w3 (wr.heap.size + 1) 40 Rv) := ⟨HA2.out.1.below hb3, HA2.out.2.1.below hb3, HA2.out.2.2.below hb3⟩; clear hb3)
      | (have hgd := HA; clear hgd; go_at_call 29; refine (HGT.out _ st1 r.a HA.out.1.sto HS1.out HRA.out).mono ?_; rw [HAE.out]; rintro e w2 ⟨rfl, hb2⟩; have HA2 : Hid (DS w b0 o0 c0 b1 o1 c1 b2 o2 c2 B C R x y z ns nl st1 v m.out m.state m.steps w2 ∧ Row w2 wr.heap.size 35 Iv ∧ Row w2 (wr.heap.size + 1) 40 Rv) := ⟨HA.out.1.below hb2, HA.out.2.1.below hb2, HA.out.2.2.below hb2⟩; clear hb2; have j0 := HA2.out.1.s0; have j1 := HA2.out.1.s1; have j2 : w2.cell? ⟨wr.heap.size + 1, 4, none⟩ = some (.int .i64 r.b.kind) := (by rw [HA2.out.2.2.cell, HRv.out]; rfl); have j3 : w2.cell? ⟨wr.heap.size + 1, 5, none⟩ = some (.int .i64 r.b.n) := (by rw [HA2.out.2.2.cell, HRv.out]; rfl))
      | (go_at_call 28; refine (HMV.out _ m.sto _ r.before ?_ HMO.out.sto HMB.out ?_ HBF.out (fun x hx => HRN1.out x (Or.inl hx))).mono ?_; (have := HW2.out; rw [HIv.out, HRv.out] at this; exact this.1.sto); (have := HW2.out; rw [HIv.out, HRv.out] at this; exact this.1.bel); rintro e w1 ⟨rfl, hs1, hb1⟩; rw [HST1.out] at hs1; have HA : Hid (DS w b0 o0 c0 b1 o1 c1 b2 o2 c2 B C R x y z ns nl st1 v m.out m.state m.steps w1 ∧ Row w1 wr.heap.size 35 Iv ∧ Row w1 (wr.heap.size + 1) 40 Rv) := (by have := HW2.out; rw [HIv.out, HRv.out] at this ⊢; exact ⟨this.1.but hb1 hs1, hb1.row this.2.1 (by omega) (by omega), hb1.row this.2.2 (by omega) (by omega)⟩); clear hs1 hb1; have k0 := HA.out.1.s0; have k1 := HA.out.1.s1; have k2 : w1.cell? ⟨wr.heap.size + 1, 2, none⟩ = some (.int .i64 r.a.kind) := (by rw [HA.out.2.2.cell, HRv.out]; rfl); have k3 : w1.cell? ⟨wr.heap.size + 1, 3, none⟩ = some (.int .i64 r.a.n) := (by rw [HA.out.2.2.cell, HRv.out]; rfl)))
    clear k0 k1 k2 k3 j0 j1 j2 j3 HA HA2 HW2
    have i0 : w3.cell? ⟨wr.heap.size, 0, none⟩ = some (.int .i64 i.op) := by rw [HA3.out.2.1.cell, HIv.out]; rfl
    go_cut [68] (fun s wq => s = .bool ((i.op == 3) && decide (m.taken < I.length)) ∧ wq = w3)
    case first =>
      rcases Bool.eq_false_or_eq_true (i.op == 3) with e1 | e1
      all_goals
        go_wp2
        go_meet
        case rel => exact ⟨by simp [e1], rfl⟩
    obtain ⟨rfl, hwc⟩ := hcut
    obtain rfl := hwc.symm
    obtain ⟨inb, hinb⟩ : ∃ x, x = ((i.op == 3) && decide (m.taken < I.length)) := ⟨_, rfl⟩
    rw [← hinb]
    obtain ⟨tk', htk⟩ : ∃ t : Nat, t = if inb then m.taken + 1 else m.taken := ⟨_, rfl⟩
    obtain ⟨xi, hxi⟩ : ∃ x : Int, x = if inb then I.getD m.taken 0 else 0 := ⟨_, rfl⟩
    have HINB : Hid (inb = ((i.op == 3) && decide (m.taken < I.length))) := hinb
    have HTK : Hid (tk' = if inb then m.taken + 1 else m.taken) := htk
    have HXI : Hid (xi = if inb then I.getD m.taken 0 else 0) := hxi
    clear hinb htk hxi
    go_upto_if 68 with fail
    go_cut [14, 19] (fun t x wq => t = .int .i64 tk' ∧ x = .int .u32 xi ∧ wq = w3)
    case first =>
      have htk3 := HMO.out.tk
      cases inb
      · have HTK2 : Hid (tk' = m.taken) := HTK.out
        have HXI2 : Hid (xi = 0) := HXI.out
        go_wp2
        go_meet
        case rel => exact ⟨by rw [HTK2.out], by rw [HXI2.out], rfl⟩
      · have HTK2 : Hid (tk' = m.taken + 1) := HTK.out
        have HXI2 : Hid (xi = I.getD m.taken 0) := HXI.out
        have hb2 := HINB.out
        simp at hb2
        obtain ⟨-, hlt2⟩ := hb2
        obtain ⟨ib, io, rfl, hib, hicell⟩ := HCI.out (by omega)
        have ic := step_cell HA3.out.1.bel (hicell _ hlt2)
        rw [← HXI2.out] at ic
        clear hicell
        go_wp2
        go_meet
        case rel => exact ⟨by rw [HTK2.out]; go_num, rfl, rfl⟩
    obtain ⟨rfl, rfl, hwc⟩ := hcut
    obtain rfl := hwc.symm
    go_upto_if 77 with fail
    obtain ⟨l', hl'⟩ : ∃ x, x = if (i.op == 4) then m.out ++ [a % 4294967296] else m.out := ⟨_, rfl⟩
    have HL' : Hid (l' = if (i.op == 4) then m.out ++ [a % 4294967296] else m.out) := hl'
    clear hl'
    go_cut [] (fun wq => ∃ v', DS w b0 o0 c0 b1 o1 c1 b2 o2 c2 B C R x y z ns nl st1 v' l' m.state m.steps wq ∧ Row wq wr.heap.size 35 Iv ∧ Row wq (wr.heap.size + 1) 40 Rv)
    case first =>
      rcases Bool.eq_false_or_eq_true (i.op == 4) with e1 | e1
      · obtain ⟨t0', hi0, hy0, hy1, hy2⟩ := info_parts infoU32
        have hout := HMO.out.outs
        have T1 : w3.cell? ⟨w.heap.size + 1 + 1 + 1 + 1, 1, none⟩ = some v := HA3.out.1.sh.cell 1
        have hz3 := HA3.out.1.sz
        have hz5 : w.heap.size + 1 + 1 + 1 + 1 < w3.heap.size := by omega
        go_wp2_with (at_builtin; refine wpList_append_lies _ rfl _ _ 32 rfl (w.heap.size + 8) 33 t0' (.int .u32 0) 1 4 Tryz.underlying32 hi0 hy0 hy1 hy2 rfl (by decide) v m.out.length (m.out.map (Value.int .u32)) rfl (World.ownsRow.alloc HA3.out.1.own _) ⟨w3.heap.size, 0, none⟩ 1 1 [.int .u32 (a % 4294967296)] rfl rfl ?c1 ?c2 (by decide) ?c3 ?c4 ?c5 _ rfl ?_)
        case c2 => simp [Value.oneCell']
        case c3 => unfold maxLen; omega
        case c4 => omega
        case c5 => first | omega | (simp; omega)
        intro g cap w4 hown hgrow hat hlt1
        have hP := HA3.out.1.push hown hgrow
        have hnI : ∀ q, w3.heap.size = q → True := fun _ _ => trivial
        have rsh := (HA3.out.1.sh.alloc (.cells #[.int .u32 (a % 4294967296)] 33)).grown hgrow (Ne.symm (HA3.out.1.ownNe (by omega)))
        have fz := rsh.frozen 1
        have cz := rsh.cell 1
        simp at cz
        have hneI : v.ownBlock ≠ some wr.heap.size := fun e => by have := (World.ownsRow.lt HPS.out.own _ e).2; omega
        have hneR : v.ownBlock ≠ some (wr.heap.size + 1) := fun e => by have := (World.ownsRow.lt HPS.out.own _ e).2; omega
        have rri := ((HA3.out.2.1.alloc (.cells #[.int .u32 (a % 4294967296)] 33)).grown hgrow (Ne.symm hneI)).other (a := ⟨w.heap.size + 1 + 1 + 1 + 1, 1, none⟩) (by dsimp only; omega) (.slice (some ⟨g, 0, none⟩) (m.out.length + 1) cap)
        have rrj := ((HA3.out.2.2.alloc (.cells #[.int .u32 (a % 4294967296)] 33)).grown hgrow (Ne.symm hneR)).other (a := ⟨w.heap.size + 1 + 1 + 1 + 1, 1, none⟩) (by dsimp only; omega) (.slice (some ⟨g, 0, none⟩) (m.out.length + 1) cap)
        have hle' : l' = m.out ++ [a % 4294967296] := by rw [HL'.out, e1]; rfl
        rw [← hle'] at hP
        have R : Hid (∃ v', DS w b0 o0 c0 b1 o1 c1 b2 o2 c2 B C R x y z ns nl st1 v' l' m.state m.steps (w4.setCell ⟨w.heap.size + 1 + 1 + 1 + 1, 1, none⟩ (.slice (some ⟨g, 0, none⟩) (m.out.length + 1) cap)) ∧ Row (w4.setCell ⟨w.heap.size + 1 + 1 + 1 + 1, 1, none⟩ (.slice (some ⟨g, 0, none⟩) (m.out.length + 1) cap)) wr.heap.size 35 Iv ∧ Row (w4.setCell ⟨w.heap.size + 1 + 1 + 1 + 1, 1, none⟩ (.slice (some ⟨g, 0, none⟩) (m.out.length + 1) cap)) (wr.heap.size + 1) 40 Rv) := ⟨_, hP, rri, rrj⟩
        clear hP rrj rri rsh hle' hown hgrow hat hneI hneR hnI
        go_wp2
        go_meet
        case rel => exact R.out
      · go_wp2
        go_meet
        case rel => exact ⟨v, by rw [show l' = m.out by rw [HL'.out, e1]; rfl]; exact HA3.out.1, HA3.out.2.1, HA3.out.2.2⟩
    obtain ⟨v', hdsB, hriB, hrrB⟩ := hcut
    have r0 : wc.cell? ⟨wr.heap.size, 0, none⟩ = some (.int .i64 i.op) := by rw [hriB.cell, HIv.out]; rfl
    have r1 : wc.cell? ⟨wr.heap.size, 1, none⟩ = some (.int .i64 i.dest) := by rw [hriB.cell, HIv.out]; rfl
    have r2 : wc.cell? ⟨wr.heap.size, 2, none⟩ = some (.int .i64 i.a) := by rw [hriB.cell, HIv.out]; rfl
    have r3 : wc.cell? ⟨wr.heap.size, 3, none⟩ = some (.int .i64 i.b) := by rw [hriB.cell, HIv.out]; rfl
    have r4 : wc.cell? ⟨wr.heap.size, 4, none⟩ = some (.int .i64 i.c) := by rw [hriB.cell, HIv.out]; rfl
    have r5 : wc.cell? ⟨wr.heap.size, 5, none⟩ = some (.int .u32 i.n) := by rw [hriB.cell, HIv.out]; rfl
    obtain ⟨wb, hwb⟩ : ∃ q, q = wc := ⟨_, rfl⟩
    subst hwb
    have HPB : Hid (DS w b0 o0 c0 b1 o1 c1 b2 o2 c2 B C R x y z ns nl st1 v' l' m.state m.steps wb ∧ Row wb wr.heap.size 35 Iv ∧ Row wb (wr.heap.size + 1) 40 Rv) := ⟨hdsB, hriB, hrrB⟩
    have xb : 0 ≤ xi ∧ xi < 4294967296 := by
      rw [HXI.out]
      cases hib : inb
      · simp
      · have := HINB.out
        rw [hib] at this
        simp at this
        exact HIb.out m.taken this.2
    obtain ⟨xb0, xb1⟩ := xb
    clear hdsB hriB hrrB i0 HA3
    go_upto_if 87 with (go_at_call 22; refine (gives _ _).mono ?_; rintro e w' ⟨rfl, hw'⟩; obtain rfl := hw'.symm)
    obtain ⟨st2, hst2⟩ : ∃ q, q = if givesB i.op then putP st1 r.dest (gvI i a b xi) else st1 := ⟨_, rfl⟩
    have HTS : Hid (st2 = if givesB i.op then putP st1 r.dest (gvI i a b xi) else st1) := hst2
    clear hst2
    go_cut [] (fun wq => DS w b0 o0 c0 b1 o1 c1 b2 o2 c2 B C R x y z ns nl st2 v' l' m.state m.steps wq ∧ Row wq (wr.heap.size + 1) 40 Rv)
    case first =>
      rcases Bool.eq_false_or_eq_true (givesB i.op) with e1 | e1
      · have n0 := HII.out.n0
        have n1 := HII.out.n1
        have o0' := HII.out.p0
        have o1' := HII.out.p1
        have hgvb : U64i (gvI i a b xi) := gvI_bd _ _ _ _ hua hub xb0 xb1 n0 n1
        rw [e1]
        go_wp2_with (first
          | (go_at_call 26; refine (gives3 i a b xi hua hub xb0 xb1 n0 n1 (by omega) (by omega) _).mono ?_; rintro e w5 ⟨rfl, hb5⟩; have HPB5 : Hid (DS w b0 o0 c0 b1 o1 c1 b2 o2 c2 B C R x y z ns nl st1 v' l' m.state m.steps w5 ∧ Row w5 (wr.heap.size + 1) 40 Rv) := ⟨HPB.out.1.below hb5, HPB.out.2.2.below hb5⟩; clear hb5; have q0 := HPB5.out.1.s0; have q1 := HPB5.out.1.s1; have q2 : w5.cell? ⟨wr.heap.size + 1, 0, none⟩ = some (.int .i64 r.dest.kind) := (by rw [HPB5.out.2.cell, HRv.out]; rfl); have q3 : w5.cell? ⟨wr.heap.size + 1, 1, none⟩ = some (.int .i64 r.dest.n) := (by rw [HPB5.out.2.cell, HRv.out]; rfl))
          | (go_at_call 30; refine (HPT.out _ st1 r.dest _ HPB5.out.1.sto HS1.out HRD.out hgvb).mono ?_; rintro e w6 ⟨rfl, hs6, hb6⟩; have HPB6 : Hid (DS w b0 o0 c0 b1 o1 c1 b2 o2 c2 B C R x y z ns nl (putP st1 r.dest (gvI i a b xi)) v' l' m.state m.steps w6 ∧ Row w6 (wr.heap.size + 1) 40 Rv) := ⟨HPB5.out.1.but hb6 hs6, hb6.row HPB5.out.2 (by omega) (by omega)⟩; clear hs6 hb6))
        go_meet
        case rel => rw [show st2 = putP st1 r.dest (gvI i a b xi) by rw [HTS.out, e1]; rfl]; exact HPB6.out
      · rw [e1]
        go_wp2
        go_meet
        case rel => rw [show st2 = st1 by rw [HTS.out, e1]; rfl]; exact ⟨HPB.out.1, HPB.out.2.2⟩
    have HPC : Hid (DS w b0 o0 c0 b1 o1 c1 b2 o2 c2 B C R x y z ns nl st2 v' l' m.state m.steps wc ∧ Row wc (wr.heap.size + 1) 40 Rv) := hcut
    have q0 := hcut.1.s0
    have q1 := hcut.1.s1
    have q7 : wc.cell? ⟨wr.heap.size + 1, 7, none⟩ = some (.slice aao r.after.length acap) := by rw [hcut.2.cell, HRv.out]; rfl
    clear hcut r0 r1 r2 r3 r4 r5
    have hpc := HMO.out.pcok HST0.out
    have hs2 : StoAt ns nl st2 := by
      rw [HTS.out]
      split
      · exact sto_at_put HS1.out (gvI_bd _ _ _ _ hua hub xb0 xb1 HII.out.n0 HII.out.n1)
      · exact HS1.out
    have HS2 : Hid (StoAt ns nl st2) := hs2
    clear hs2
    obtain ⟨nx, hnx⟩ : ∃ x, x = nxI i m.pc a := ⟨_, rfl⟩
    obtain ⟨st', hst'⟩ : ∃ x, x = stI i C.length nx := ⟨_, rfl⟩
    have HNX : Hid (nxI i m.pc a = nx) := hnx.symm
    have HSX : Hid (stI i C.length nx = st') := hst'.symm
    clear hnx hst'
    go_wp2_with (first
      | (go_at_call 28; refine (HMV.out _ st2 _ r.after HPC.out.1.sto HS2.out HMA.out HPC.out.1.bel HAF.out (fun x hx => HRN1.out x (Or.inr hx))).mono ?_; rintro e w7 ⟨rfl, hs7, hb7⟩; have HP7 : Hid (DS w b0 o0 c0 b1 o1 c1 b2 o2 c2 B C R x y z ns nl (movesP st2 r.after) v' l' m.state m.steps w7) := HPC.out.1.but hb7 hs7; clear hs7 hb7; have P0 := HP7.out.p0; have P1 := HP7.out.p1)
      | (go_at_call 27; refine (next3 b0 o0 c0 b1 o1 c1 B C m.pc a _ s4 (h.later HP7.out.bel) hpc).mono ?_; rintro e w8 ⟨rfl, hb8⟩; rw [HIE.out, HNX.out, HSX.out]; have HPD : Hid (DS w b0 o0 c0 b1 o1 c1 b2 o2 c2 B C R x y z ns nl (movesP st2 r.after) v' l' m.state m.steps w8) := HP7.out.below hb8; clear hb8; have T2 : w8.cell? ⟨w.heap.size + 1 + 1 + 1 + 1, 2, none⟩ = some (.int .i64 m.steps) := HPD.out.sh.cell 2; have T0 : w8.cell? ⟨w.heap.size + 1 + 1 + 1 + 1, 0, none⟩ = some (.int .i64 m.state) := HPD.out.sh.cell 0; have Z0 := HPD.out.sh.frozen 0; have Z2 := HPD.out.sh.frozen 2))
    go_roundg (gk - 1)
    case measure => omega
    case rel =>
      have hnn : 0 ≤ nx := by
        rw [← HNX.out]
        unfold nxI
        split
        · rename_i hc
          exact (HII.out.c (by rcases hc with hc | hc; exact Or.inl hc; exact Or.inr hc.1)).1
        · omega
      have hstep : m.step C R I = ⟨nx.toNat, movesP st2 r.after, tk', l', st', m.steps + 1⟩ := by
        have e1 : gvI i a b xi = gvI i a b (inOf I m.taken) := by
          rw [HXI.out, HINB.out]
          unfold gvI inOf
          by_cases e3 : i.op = 3
          · by_cases e4 : m.taken < I.length
            · simp [e3, e4]
            · simp [e3, e4, List.getD]
          · simp [e3]
        have e2 : tk' = if i.op = 3 ∧ m.taken < I.length then m.taken + 1 else m.taken := by
          rw [HTK.out, HINB.out]; simp
        have e3 : l' = if i.op = 4 then m.out ++ [a % 4294967296] else m.out := by
          rw [HL'.out]; simp
        unfold PMac.step
        simp only
        rw [HIE.out, HRE.out, HST1.out, HAE.out, HBE.out, HNX.out, HSX.out, ← e1, ← HTS.out, ← e2, ← e3]
      have hpok := pok_step (B := B) (R := R) HMO.out HST0.out (by rw [HIE.out]; exact HII.out) (by rw [HRE.out]; exact HRN1.out) HIb.out
      rw [hstep] at hpok
      refine ⟨⟨nx.toNat, movesP st2 r.after, tk', l', st', m.steps + 1⟩, v', by go_num, rfl, ?_, hpok, by simp only; omega, by simp only; omega, ?_⟩
      · exact (HPD.out.setState st').setSteps (m.steps + 1)
      · rw [← HF.out, ← hstep]
        have e : n - m.steps = (n - (m.steps + 1)) + 1 := by omega
        rw [e]
        show _ = if m.state = 0 then _ else _
        rw [if_pos HST0.out]
        rfl

end Go.Proofs.YtcmnmogmdhofcabGreat.form

/- loanbooklaw.CheckSound, out of what the program's own check.Takes answers. -/
namespace Go.Proofs.YtcmnmogmdhofcabGreat.checkSound
open Go.ChangeShapes Go.WideShapes Go.ChangeAt Go.RowKit
open Go.Proofs.YtcmnmogmdhofcabGreat.form
set_option linter.unusedVariables false

theorem own : ownKnob Tryz.prog.godebug = none := by kernel_rfl
theorem laidOut : laidOutB Tryz.prog = true := by kernel_rfl

theorem zero_ok : RowsOk [LRow.zero] := by
  intro r hr
  have : r = 0 := by simp at hr; omega
  subst this
  exact ⟨fun k hk => absurd hk (by simp [LRow.zero]), fun k hk => absurd hk (by simp [LRow.zero])⟩

set_option maxRecDepth 100000 in
set_option maxHeartbeats 1000000 in
theorem walk_no (takesO : TakesSpec) (pv lv iv : Value) (B : List Bool) (C : List LIns) (s slots : Int) (R : List LRow) (I : List Int) (steps : Int) (w : World) (hp : ProgIs w pv B C) (hl : PlacedIs w lv slots R) (hR : RowsOk R) (hI : InArg w iv I) (ht : ¬ TakenP B C s slots R) :
    Calls Tryz.prog 4 #[pv, targetV s, lv, iv, .int .i64 steps] w fun e w' => e = .returned (.bool true) ∧ Below w.heap.size w w' := by
  have h0 := hp
  obtain ⟨⟨a0, c0, a1, c1, rfl, -⟩, -, -, -⟩ := h0
  have h1 := hl
  obtain ⟨ao, cap, rfl, -, -⟩ := h1
  obtain ⟨ai, ci, rfl, -, -, -, -⟩ := hI
  have HT : Hid (¬ TakenP B C s slots R) := ht
  have HTO : Hid TakesSpec := takesO
  have HRO : Hid (RowsOk R) := hR
  have HP : Hid (ProgIs w (.agg #[.slice a0 B.length c0, .slice a1 C.length c1]) B C) := hp
  have HL : Hid (PlacedIs w (.agg #[.int .i64 slots, .slice ao R.length cap]) slots R) := hl
  have HW : Hid (∀ o1 o2 o3 : Obj, Below w.heap.size w (((w.alloc o1).alloc o2).alloc o3)) := fun o1 o2 o3 => (((Below.refl _ _).alloc (Nat.le_refl _) _).alloc (by simp) _).alloc (by simp; omega) _
  clear hp hl ht takesO hR
  unfold targetV
  go_enter Tryz.func4, Tryz.ntmps4
  go_wp2_with fail
  go_at_call 6
  refine (HTO.out _ _ B C s slots R _ (HP.out.later (HW.out _ _ _)) (HL.out.later (HW.out _ _ _)) HRO.out).mono ?_
  rintro e w1 ⟨⟨b, rfl, hb⟩, hb1⟩
  have hbf : b = false := by cases b with | false => rfl | true => exact absurd (hb.1 rfl) HT.out
  subst hbf
  have HB1 : Hid (Below w.heap.size w w1) := step_below hb1 (HW.out _ _ _)
  clear hb hb1
  have HG : Hid (∀ o1 o2 o3 o4 : Obj, Below w1.heap.size w1 ((((w1.alloc o1).alloc o2).alloc o3).alloc o4)) := fun o1 o2 o3 o4 => ((((Below.refl _ _).alloc (Nat.le_refl _) _).alloc (by simp) _).alloc (by simp; omega) _).alloc (by simp; omega) _
  go_wp2_with fail
  go_at_call 6
  refine (HTO.out _ _ [false] [haltI] 4 0 [.zero] _ (one_prog (by simp [go_sem]) (by simp [go_sem]) (fun j h0 h5 => ?_) (by simp [go_sem])) (one_placed (fun j h6 => ?_) (by simp [go_sem]) (by simp [go_sem])) zero_ok).mono ?_
  · rcases (show j = 1 ∨ j = 2 ∨ j = 3 ∨ j = 4 by omega) with rfl | rfl | rfl | rfl <;> simp [go_sem]
  · rcases (show j = 0 ∨ j = 1 ∨ j = 2 ∨ j = 3 ∨ j = 4 ∨ j = 5 by omega) with rfl | rfl | rfl | rfl | rfl | rfl <;> simp [go_sem]
  rintro e w2 ⟨⟨b, rfl, hb⟩, hb2⟩
  have hbt : b = true := hb.2 taken_one
  subst hbt
  have HB2 : Hid (Below w1.heap.size w1 w2) := step_below hb2 (HG.out _ _ _ _)
  clear hb hb2
  go_wp2
  go_ret
  exact ⟨rfl, step_below HB2.out HB1.out⟩

set_option maxRecDepth 100000 in
set_option maxHeartbeats 1000000 in
theorem walk_yes (takesO : TakesSpec) (pv lv iv : Value) (B : List Bool) (C : List LIns) (s slots : Int) (R : List LRow) (I : List Int) (steps : Int) (w : World) (hp : ProgIs w pv B C) (hl : PlacedIs w lv slots R) (hR : RowsOk R) (hI : InArg w iv I) (ht : TakenP B C s slots R) :
    Calls Tryz.prog 4 #[pv, targetV s, lv, iv, .int .i64 steps] w fun e w' => e = .returned (.bool true) ∧ Below w.heap.size w w' := by
  have hmay := ht.1
  have hm2 := hmay
  unfold placeMayB at hm2
  simp only [Bool.and_eq_true, Bool.not_eq_true', decide_eq_true_eq, decide_eq_false_iff_not] at hm2
  obtain ⟨⟨⟨⟨⟨hm, htg⟩, hs0⟩, hs1⟩, hlen⟩, -⟩ := hm2
  have hsz : sizesB B C = true := by unfold refMayB at hm; simp only [Bool.and_eq_true] at hm; exact hm.1
  obtain ⟨z1, z2, z3, z4⟩ := sizes_of hsz
  obtain ⟨u1, u2, u3⟩ := target_of htg
  have h0 := hp
  obtain ⟨⟨a0, c0, a1, c1, rfl, hh⟩, -, -, hnum⟩ := h0
  obtain ⟨b0, o0, b1, o1, rfl, rfl, hheld⟩ := hh z1 z3
  have h1 := hl
  obtain ⟨ao, cap, rfl, -, hrr⟩ := h1
  obtain ⟨b2, o2, rfl, hrows⟩ := hrr (by omega)
  have hI0 := hI
  obtain ⟨ai, ci, rfl, -, -, hib, -⟩ := hI0
  obtain ⟨ns, rfl⟩ : ∃ ns : Nat, s = ns := Int.eq_ofNat_of_zero_le (by omega)
  obtain ⟨nl, rfl⟩ : ∃ nl : Nat, slots = nl := Int.eq_ofNat_of_zero_le (by omega)
  have HT : Hid (TakenP B C ns nl R) := ht
  have HTO : Hid TakesSpec := takesO
  have HRO : Hid (RowsOk R) := hR
  have HMAY : Hid (placeMayB B C ns nl R = true) := hmay
  have HMM : Hid (refMayB B C = true) := hm
  have HP : Hid (ProgIs w (.agg #[.slice (some ⟨b0, o0, none⟩) B.length c0, .slice (some ⟨b1, o1, none⟩) C.length c1]) B C) := hp
  have HL : Hid (PlacedIs w (.agg #[.int .i64 nl, .slice (some ⟨b2, o2, none⟩) R.length cap]) nl R) := hl
  have HH : Hid (Held w b0 o0 b1 o1 B C) := hheld
  have HRR : Hid (RowsHeld w b2 o2 R) := hrows
  have HN : Hid _ := hnum
  have HRB : Hid (∀ k, k < C.length → ∀ x, x ∈ (R.getD k .zero).before ∨ x ∈ (R.getD k .zero).after → 0 ≤ x.n ∧ x.n < 4294967296) := rows_bd hR hlen
  have HIA : Hid (InArg w (.slice ai I.length ci) I) := hI
  have HIB : Hid (∀ j, j < I.length → 0 ≤ I.getD j 0 ∧ I.getD j 0 < 4294967296) := hib
  obtain ⟨wx, hwx⟩ : ∃ wx, wx = ((w.alloc (.cells #[.slice (some ⟨b0, o0, none⟩) B.length c0, .slice (some ⟨b1, o1, none⟩) C.length c1] 25)).alloc (.cells #[.int .i64 ns] 27)).alloc (.cells #[.int .i64 nl, .slice (some ⟨b2, o2, none⟩) R.length cap] 30) := ⟨_, rfl⟩
  have HWX : Hid (Below w.heap.size w wx) := by rw [hwx]; exact (((Below.refl _ _).alloc (Nat.le_refl _) _).alloc (by simp) _).alloc (by simp; omega) _
  have x0 : wx.cell? ⟨w.heap.size, 0, none⟩ = some (.slice (some ⟨b0, o0, none⟩) B.length c0) := by rw [hwx]; simp [go_sem]
  have x1 : wx.cell? ⟨w.heap.size, 1, none⟩ = some (.slice (some ⟨b1, o1, none⟩) C.length c1) := by rw [hwx]; simp [go_sem]
  have x2 : wx.cell? ⟨w.heap.size + 1, 0, none⟩ = some (.int .i64 ns) := by rw [hwx]; simp [go_sem]
  have x3 : wx.cell? ⟨w.heap.size + 1 + 1, 0, none⟩ = some (.int .i64 nl) := by rw [hwx]; simp [go_sem]
  have x4 : wx.cell? ⟨w.heap.size + 1 + 1, 1, none⟩ = some (.slice (some ⟨b2, o2, none⟩) R.length cap) := by rw [hwx]; simp [go_sem]
  have XA : Hid (∀ wz : World, Below wx.heap.size wx wz → wz.cell? ⟨w.heap.size, 0, none⟩ = some (.slice (some ⟨b0, o0, none⟩) B.length c0) ∧ wz.cell? ⟨w.heap.size, 1, none⟩ = some (.slice (some ⟨b1, o1, none⟩) C.length c1) ∧ wz.cell? ⟨w.heap.size + 1, 0, none⟩ = some (.int .i64 ns) ∧ wz.cell? ⟨w.heap.size + 1 + 1, 0, none⟩ = some (.int .i64 nl) ∧ wz.cell? ⟨w.heap.size + 1 + 1, 1, none⟩ = some (.slice (some ⟨b2, o2, none⟩) R.length cap)) :=
    fun wz hb => ⟨step_cell hb x0, step_cell hb x1, step_cell hb x2, step_cell hb x3, step_cell hb x4⟩
  have hzx : w.heap.size + 1 + 1 < wx.heap.size := by rw [hwx]; simp
  clear hp hl hh hrr hheld hrows hnum hmay hm hsz hib hI ht hR htg hlen takesO
  unfold targetV
  obtain ⟨x, hx⟩ : ∃ x, x = wrongI B C I.length steps := ⟨_, rfl⟩
  have HX : Hid (wrongI B C I.length steps = x) := hx.symm
  clear hx
  by_cases hx0 : x = 0
  case neg =>
    have e1 : (x != 0) = true := by simp [hx0]
    clear hx0
    go_enter Tryz.func4, Tryz.ntmps4
    go_upto_region 1 with fail
    rw [← hwx]
    clear hwx
    go_wp2_with (first
      | (go_at_call 6; refine (HTO.out _ _ B C ns nl R _ (HP.out.later HWX.out) (HL.out.later HWX.out) HRO.out).mono ?_; rintro e w1 ⟨⟨b, rfl, hb⟩, hb1⟩; obtain rfl : b = true := hb.2 HT.out; clear hb x0 x1 x2 x3 x4; obtain ⟨y0, y1, y2, y3, y4⟩ := XA.out _ hb1; have HB1 : Hid (Below wx.heap.size wx w1) := hb1; clear hb1)
      | (go_at_call 8; refine (may6 _ _ B C ns nl R _ (HP.out.later (step_below HB1.out HWX.out)) (HL.out.later (step_below HB1.out HWX.out))).mono ?_; rw [HMAY.out]; rintro e w2 ⟨rfl, hb2⟩; clear y0 y1 y2 y3 y4; have HB2 : Hid (Below wx.heap.size wx w2) := step_below hb2 HB1.out; clear hb2; obtain ⟨y0, y1, y2, y3, y4⟩ := XA.out _ HB2.out)
      | (go_at_call 9; refine (wrong _ B C _ _ _ _ _ (HP.out.later (step_below HB2.out HWX.out))).mono ?_; rw [HX.out]; rintro e w3 ⟨rfl, hb3⟩; clear y0 y1 y2 y3 y4))
    go_ret
    exact ⟨rfl, step_below hb3 (step_below HB2.out HWX.out)⟩
  subst hx0
  obtain ⟨-, h40, hst0, hst1⟩ := wrong_zero HX.out
  obtain ⟨n, rfl⟩ : ∃ n : Nat, steps = n := Int.eq_ofNat_of_zero_le hst0
  have hn3 : n ≤ 3000 := by omega
  obtain ⟨e1, e2, e3⟩ := taken_same (ins := I) HT.out HN.out HRB.out HIB.out n
  have HE1 : Hid ((playP C R ns nl I n).out = (playM B C I n).out) := e1
  have HE2 : Hid ((playP C R ns nl I n).state = (playM B C I n).state) := e2
  have HE3 : Hid ((playP C R ns nl I n).steps = (playM B C I n).steps) := e3
  obtain ⟨M, hM⟩ : ∃ M, M = playM B C I n := ⟨_, rfl⟩
  have HM : Hid (playM B C I n = M) := hM.symm
  clear e1 e2 e3 hM
  go_enter Tryz.func4, Tryz.ntmps4
  go_upto_region 1 with fail
  rw [← hwx]
  clear hwx
  go_wp2_with (first
    | (go_at_call 6; refine (HTO.out _ _ B C ns nl R _ (HP.out.later HWX.out) (HL.out.later HWX.out) HRO.out).mono ?_; rintro e w1 ⟨⟨b, rfl, hb⟩, hb1⟩; obtain rfl : b = true := hb.2 HT.out; clear hb x0 x1 x2 x3 x4; obtain ⟨y0, y1, y2, y3, y4⟩ := XA.out _ hb1; have HB1 : Hid (Below wx.heap.size wx w1) := hb1; clear hb1)
    | (go_at_call 8; refine (may6 _ _ B C ns nl R _ (HP.out.later (step_below HB1.out HWX.out)) (HL.out.later (step_below HB1.out HWX.out))).mono ?_; rw [HMAY.out]; rintro e w2 ⟨rfl, hb2⟩; clear y0 y1 y2 y3 y4; have HB2 : Hid (Below wx.heap.size wx w2) := step_below hb2 HB1.out; clear hb2; obtain ⟨y0, y1, y2, y3, y4⟩ := XA.out _ HB2.out)
    | (go_at_call 9; refine (wrong _ B C _ _ _ _ _ (HP.out.later (step_below HB2.out HWX.out))).mono ?_; rw [HX.out]; rintro e w3 ⟨rfl, hb3⟩; clear y0 y1 y2 y3 y4; have HB3 : Hid (Below wx.heap.size wx w3) := step_below hb3 HB2.out; clear hb3; obtain ⟨y0, y1, y2, y3, y4⟩ := XA.out _ HB3.out))
  go_at_call 10
  have HBW : Hid (Below w.heap.size w w3) := step_below HB3.out HWX.out
  refine (play b0 o0 c0 b1 o1 c1 B C _ I n _ HMM.out (HH.out.later HBW.out) HN.out ((HIA.out.out h40).later HBW.out) HIB.out hn3).mono ?_
  rw [HM.out]
  rintro e w4 ⟨rv, rfl, hsh, hb4⟩
  clear y0 y1 y2 y3 y4
  have HS4 : Hid (ShownIs w4 rv M.state M.out M.steps) := hsh
  obtain ⟨ov, rfl, vo, vc, rfl, -, -⟩ := hsh
  have HB4 : Hid (Below wx.heap.size wx w4) := step_below hb4 HB3.out
  clear hb4
  have hz4 : w.heap.size + 1 + 1 < w4.heap.size := Nat.lt_of_lt_of_le hzx HB4.out.size
  have q1 : w.heap.size < w4.heap.size := by omega
  have q2 : w.heap.size + 1 < w4.heap.size := by omega
  obtain ⟨y0, y1, y2, y3, y4⟩ := XA.out _ HB4.out
  have HA4 : Hid (∀ o1 : Obj, Below w4.heap.size w4 (w4.alloc o1)) := fun o1 => (Below.refl _ _).alloc (Nat.le_refl _) _
  go_wp2_with fail
  go_at_call 11
  refine (play7 b0 o0 c0 b1 o1 c1 b2 o2 cap B C R ns nl _ I n _ HMAY.out (HH.out.later (step_below (HA4.out _) (step_below HB4.out HWX.out))) (HRR.out.later (step_below (HA4.out _) (step_below HB4.out HWX.out))) HN.out HRB.out ((HIA.out.out h40).later (step_below (HA4.out _) (step_below HB4.out HWX.out))) HIB.out hn3).mono ?_
  rw [HE1.out, HE2.out, HE3.out, HM.out]
  rintro e w5 ⟨rv5, rfl, hsh5, hb5⟩
  have HS5 : Hid (ShownIs w5 rv5 M.state M.out M.steps) := hsh5
  obtain ⟨ov5, rfl, vo5, vc5, rfl, -, -⟩ := hsh5
  have s0 : w5.cell? ⟨w4.heap.size, 0, none⟩ = some (.int .i64 M.state) := step_cell hb5 (by simp [go_sem])
  have s1 : w5.cell? ⟨w4.heap.size, 1, none⟩ = some (.slice vo M.out.length vc) := step_cell hb5 (by simp [go_sem])
  have s2 : w5.cell? ⟨w4.heap.size, 2, none⟩ = some (.int .i64 M.steps) := step_cell hb5 (by simp [go_sem])
  have hz5 : w4.heap.size < w5.heap.size := by have := hb5.size; simp at this; omega
  have HB5 : Hid (Below w4.heap.size w4 w5) := step_below hb5 (HA4.out _)
  clear hb5 y0 y1 y2 y3 y4
  have HA5 : Hid (∀ o1 : Obj, Below w5.heap.size w5 (w5.alloc o1)) := fun o1 => (Below.refl _ _).alloc (Nat.le_refl _) _
  go_wp2_with (go_at_call 12; refine (same _ _ M.state M.steps M.state M.steps M.out M.out _ (HS4.out.later (step_below (HA5.out _) HB5.out)) (HS5.out.later (HA5.out _))).mono ?_; rintro e w6 ⟨rfl, hb6⟩)
  go_ret
  exact ⟨ret_bool (by unfold sameB; simp), step_below hb6 (step_below (HA5.out _) (step_below HB5.out (step_below HB4.out HWX.out)))⟩

theorem walk (takesO : TakesSpec) (pv lv iv : Value) (B : List Bool) (C : List LIns) (s slots : Int) (R : List LRow) (I : List Int) (steps : Int) (w : World) (hp : ProgIs w pv B C) (hl : PlacedIs w lv slots R) (hR : RowsOk R) (hI : InArg w iv I) :
    Calls Tryz.prog 4 #[pv, targetV s, lv, iv, .int .i64 steps] w fun e w' => e = .returned (.bool true) ∧ Below w.heap.size w w' := by
  by_cases ht : TakenP B C s slots R
  · exact walk_yes takesO pv lv iv B C s slots R I steps w hp hl hR hI ht
  · exact walk_no takesO pv lv iv B C s slots R I steps w hp hl hR hI ht

set_option maxRecDepth 100000 in
theorem lifted (takesO : TakesSpec) (os : Os) (started : os.Started) (H : Type) (enc : TypeId × Value → H) :
    ReturnsInHanded {} Tryz.checked os 4 .any (Rows.checkSoundSpec.pre6 enc Tryz.prog Tryz.f4 Rows.checkSoundRow.domain false) (Rows.checkSoundSpec.post enc Tryz.prog Tryz.f4 false true false false) := by
  refine returnsInHanded_of_change (C := Tryz.checked) own started (by kernel_rfl) Tryz.func4
    (ChangeSpec.witness6 (enc := enc) (C := Tryz.checked) false ⟨#[], #[.agg #[.slice none 0 0, .slice none 0 0], .agg #[.int .i64 0], .agg #[.int .i64 0, .slice none 0 0], .slice none 0 0, .int .i64 0], []⟩ 8 (by kernel_rfl) (by kernel_rfl) (by kernel_rfl) (by kernel_rfl)) ?_
  intro W base args ds gs before hval0 hW hcnd _
  have hval : ∀ (j : Nat) t v, Tryz.f4.params[j]? = some t → args[j]? = some v → Value.okWide Tryz.prog W .any base t v := hval0
  have hW' := hW
  obtain ⟨p, q, hA0, hV, rfl, hfz, hnd⟩ := hW
  have hA : DataW.TrodAll enc Tryz.prog W 0 (fun _ => true) true Tryz.f4.params.toList args.toList ds p := hA0
  rw [Tryz.params4] at hA hval
  obtain ⟨v0, vs0, d0, ds0, p0, q0, hargs, rfl, rfl, h0, r0⟩ := trodAll_cons hA
  obtain ⟨v1, vs1, d1, ds1, p1, q1, rfl, rfl, rfl, h1, r1⟩ := trodAll_cons r0
  obtain ⟨v2, vs2, d2, ds2, p2, q2, rfl, rfl, rfl, h2, r2⟩ := trodAll_cons r1
  obtain ⟨v3, vs3, d3, ds3, p3, q3, rfl, rfl, rfl, h3, r3⟩ := trodAll_cons r2
  obtain ⟨v4, vs4, d4, ds4, p4, q4, rfl, rfl, rfl, h4, r4⟩ := trodAll_cons r3
  obtain ⟨rfl, rfl, rfl⟩ := trodAll_nil r4
  obtain rfl : args = #[v0, v1, v2, v3, v4] := by cases args; simp_all
  obtain ⟨rfl, rfl⟩ := trodVars_none hV
  have k0 := h0
  have k1 := h1
  have k2 := h2
  have k3 := h3
  have k4 := h4
  have lt0 : ∀ x ∈ p0, x.block < W.heap.size := by obtain ⟨m, hm⟩ := k0; exact DataW.trod_lt m _ _ _ hm
  have lt1 : ∀ x ∈ p1, x.block < W.heap.size := by obtain ⟨m, hm⟩ := k1; exact DataW.trod_lt m _ _ _ hm
  have lt2 : ∀ x ∈ p2, x.block < W.heap.size := by obtain ⟨m, hm⟩ := k2; exact DataW.trod_lt m _ _ _ hm
  have lt3 : ∀ x ∈ p3, x.block < W.heap.size := by obtain ⟨m, hm⟩ := k3; exact DataW.trod_lt m _ _ _ hm
  have lt4 : ∀ x ∈ p4, x.block < W.heap.size := by obtain ⟨m, hm⟩ := k4; exact DataW.trod_lt m _ _ _ hm
  obtain ⟨B, C, hP⟩ := prog_is (hval 0 25 v0 rfl rfl) h0
  obtain ⟨s, rfl, -, -⟩ := target_is (hval 1 27 v1 rfl rfl) h1
  obtain ⟨slots, R, hL, hR, -, -⟩ := placed_is (hval 2 30 v2 rfl rfl) h2
  obtain ⟨I, hI⟩ := ins_is (hval 3 32 v3 rfl rfl) h3
  obtain ⟨steps, rfl, -, -, -⟩ := open_int Tryz.underlying3 (hval 4 3 v4 rfl rfl) h4
  clear hA0 hval0
  refine (walk takesO v0 v2 v3 B C s slots R I steps W hP hL hR hI).mono fun e W' ⟨he, bel⟩ => ?_
  subst he
  exact ⟨_, rfl, _, _, _, [], _, [], hW', trodAll_mk1 (shut_bool Tryz.underlying4 _),
    (trodAll_cons_mk (Below.trod laidOut (by kernel_rfl) (of_decide_eq_true (by kernel_rfl)) k0 bel lt0) (trodAll_cons_mk (Below.trod laidOut (by kernel_rfl) (of_decide_eq_true (by kernel_rfl)) k1 bel lt1) (trodAll_cons_mk (Below.trod laidOut (by kernel_rfl) (of_decide_eq_true (by kernel_rfl)) k2 bel lt2) (trodAll_cons_mk (Below.trod laidOut (by kernel_rfl) (of_decide_eq_true (by kernel_rfl)) k3 bel lt3) (trodAll_cons_mk (Below.trod laidOut (by kernel_rfl) (of_decide_eq_true (by kernel_rfl)) k4 bel lt4) trodAll_mk0))))), rfl, bel.frame _, fun h => by cases h⟩

theorem over (takesO : TakesSpec) : Rows.checkSoundRow.holds Tryz.pinned (OpenSpec.ofChange Rows.checkSoundSpec) :=
  OpenClaim.holds_of_wide 4 Tryz.f4 rfl rfl rfl rfl rfl rfl rfl ⟨rfl, rfl, rfl, rfl, rfl⟩ rfl rfl rfl rfl rfl (by kernel_rfl) Tryz.func4 (by kernel_rfl)
    (of_decide_eq_true (by kernel_rfl)) (by unfold Func.isWrapper; first | (rw [if_pos (by decide +kernel)]; kernel_rfl) | (rw [if_neg (by decide +kernel)]; exact ⟨rfl, rfl⟩))
    (fun os started H enc _ => lifted takesO os started H enc)

end Go.Proofs.YtcmnmogmdhofcabGreat.checkSound

namespace Go.Proofs.YtcmnmogmdhofcabGreat

theorem checkSound_holds : Rows.CheckSoundSaid := checkSound.over form.takesO
#print axioms checkSound_holds

end Go.Proofs.YtcmnmogmdhofcabGreat
