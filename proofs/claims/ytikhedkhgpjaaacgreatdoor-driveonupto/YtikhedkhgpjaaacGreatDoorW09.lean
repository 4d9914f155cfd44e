/- The rows that a line makes (loanbookkeep: line), and what it answers. -/
import Derived.Test.YtikhedkhgpjaaacGreatDoorW08

namespace Go.Proofs.YtikhedkhgpjaaacGreatDoor
set_option linter.unusedVariables false
namespace form
open Go.RowKit
def ShR (w : World) (r : RunR) (s17 s18 : Value) (wq : World) : Prop := ∃ bx ao cap, s17 = .pointer (some ⟨bx, 0, none⟩) ∧ s18 = .int .i64 r.err ∧ wq.cell? ⟨bx, 0, none⟩ = some (.int .i64 r.state) ∧ wq.cell? ⟨bx, 1, none⟩ = some (.slice ao r.out.length cap) ∧ wq.cell? ⟨bx, 2, none⟩ = some (.int .i64 r.steps) ∧ OutIs wq (.slice ao r.out.length cap) r.out ∧ Below w.heap.size w wq
theorem frozenK {a b : World} (hb : Below a.heap.size a b) {p : Addr} (hp : p.block < a.heap.size) (h : a.frozen? p = false) : b.frozen? p = false := by
  rw [World.frozen?_of_block (w := a) (hb.block p.block hp)]; exact h
theorem ShR.mk2 {w w4 w5 : World} {r : RunR} {ao : Option Addr} {cap b : Nat} (hbw : w.heap.size ≤ b) (h0 : w4.cell? ⟨b, 0, none⟩ = some (.int .i64 0)) (h1 : w4.cell? ⟨b, 1, none⟩ = some (.slice none 0 0)) (h2 : w4.cell? ⟨b, 2, none⟩ = some (.int .i64 0)) (h3 : ∀ j, 3 ≤ j → w4.cell? ⟨b, j, none⟩ = none) (h45 : Below w4.heap.size w4 w5) (ho : OutIs w5 (.slice ao r.out.length cap) r.out) (hb : Below w.heap.size w w5) {wq : World} (hq : wq = ((w5.setCell ⟨b, 0, none⟩ (.int .i64 r.state)).setCell ⟨b, 1, none⟩ (.slice ao r.out.length cap)).setCell ⟨b, 2, none⟩ (.int .i64 r.steps)) : ShR w r (.pointer (some ⟨b, 0, none⟩)) (.int .i64 r.err) wq := by
  have hlt : b < w4.heap.size := World.block_lt_of_cell? w4 _ h0
  have c0 := step_cell h45 h0
  have c1 := step_cell h45 h1
  have c2 := step_cell h45 h2
  have c3 : ∀ j, 3 ≤ j → w5.cell? ⟨b, j, none⟩ = none := fun j hj => by rw [h45.cell (p := ⟨b, j, none⟩) hlt]; exact h3 j hj
  refine ⟨b, ao, cap, rfl, rfl, by rw [hq]; simp [go_sem, c0], by rw [hq]; simp [go_sem, c1], by rw [hq]; simp [go_sem, c2], ?_, by rw [hq]; exact ((hb.setCell hbw _).setCell hbw _).setCell hbw _⟩
  obtain ⟨ao2, cap2, e, hl, hc⟩ := ho
  refine ⟨ao2, cap2, e, hl, fun h0' => ?_⟩
  obtain ⟨bo, o, e2, hblt, hcell⟩ := hc h0'
  have hne : bo ≠ b := fun e3 => by
    have hx := hcell 0 h0'
    rw [e3, Nat.add_zero] at hx
    rcases o with _ | _ | _ | o
    · rw [c0] at hx; cases hx
    · rw [c1] at hx; cases hx
    · rw [c2] at hx; cases hx
    · rw [c3 _ (by omega)] at hx; cases hx
  refine ⟨bo, o, e2, by rw [hq]; simpa [World.setCell] using hblt, fun j hj => ?_⟩
  rw [hq]
  exact cell_other (cell_other (cell_other (hcell j hj) hne) hne) hne
theorem MovesIs.box {w w' : World} {v : Value} {l : List LMove} {b : Nat} (h : MovesIs w v l) (hz : w'.heap.size = w.heap.size) (hk : ∀ k, k ≠ b → w'.heap[k]? = w.heap[k]?) (hn : ∀ j, 2 ≤ j → w.cell? ⟨b, j, none⟩ = none) : MovesIs w' v l := by
  obtain ⟨ao, cap, hv, hl, hc⟩ := h
  refine ⟨ao, cap, hv, hl, fun h0 => ?_⟩
  obtain ⟨bm, o, e, hlt, hcell⟩ := hc h0
  have hne : bm ≠ b := fun e2 => by
    obtain ⟨-, -, -, -, -, h5⟩ := hcell 0 h0
    rw [e2, hn _ (by omega)] at h5
    cases h5
  refine ⟨bm, o, e, by omega, fun k hk2 => ?_⟩
  obtain ⟨c0, c1, c2, c3, c4, c5⟩ := hcell k hk2
  refine ⟨?_, ?_, ?_, ?_, ?_, ?_⟩ <;> (rw [World.cell?_of_block (w := w) (hk bm hne)]; assumption)
theorem PlacedIs.box {w w' : World} {v : Value} {slots : Int} {R : List LRow} {b : Nat} (h : PlacedIs w v slots R) (hz : w'.heap.size = w.heap.size) (hk : ∀ k, k ≠ b → w'.heap[k]? = w.heap[k]?) (hn : ∀ j, 2 ≤ j → w.cell? ⟨b, j, none⟩ = none) : PlacedIs w' v slots R := by
  obtain ⟨ao, cap, hv, hl, hc⟩ := h
  refine ⟨ao, cap, hv, hl, fun h0 => ?_⟩
  obtain ⟨b2, o2, e, hr⟩ := hc h0
  have hne : b2 ≠ b := fun e2 => by
    obtain ⟨-, -, -, -, -, -, vb, va, -, h7, -⟩ := hr.rows 0 h0
    rw [e2, hn _ (by omega)] at h7
    cases h7
  refine ⟨b2, o2, e, by have := hr.lt; omega, fun r hr2 => ?_⟩
  obtain ⟨c0, c1, c2, c3, c4, c5, vb, va, c6, c7, m0, m1⟩ := hr.rows r hr2
  refine ⟨?_, ?_, ?_, ?_, ?_, ?_, vb, va, ?_, ?_, m0.box hz hk hn, m1.box hz hk hn⟩ <;> (rw [World.cell?_of_block (w := w) (hk b2 hne)]; assumption)
theorem PlacesOk.turn {L : Lay} {B : List Bool} {C : List LIns} {s : Nat} {lv : Value} {er : Int} {w w' : World} (h : PlacesOk L B C s lv er w) (ht : ∀ slots R, PlacedIs w lv slots R → PlacedIs w' lv slots R) : PlacesOk L B C s lv er w' :=
  ⟨h.1, h.2.1, h.2.2.1, fun he => by
    obtain ⟨slots, R, h1, h2⟩ := h.2.2.2 he
    exact ⟨slots, R, ht slots R h1, h2⟩⟩
def PbR (L : Lay) (B : List Bool) (C : List LIns) (s : Nat) (w : World) (s20 s21 : Value) (wq : World) : Prop := ∃ bx sl ao n c er, s20 = .pointer (some ⟨bx, 0, none⟩) ∧ s21 = .int .i64 er ∧ wq.cell? ⟨bx, 0, none⟩ = some (.int .i64 sl) ∧ wq.cell? ⟨bx, 1, none⟩ = some (.slice ao n c) ∧ PlacesOk L B C s (.agg #[.int .i64 sl, .slice ao n c]) er wq ∧ Below w.heap.size w wq
theorem PbR.mk1 {L : Lay} {B : List Bool} {C : List LIns} {s : Nat} {w w5 : World} {sl er : Int} {ao : Option Addr} {n c : Nat} (hp : PlacesOk L B C s (.agg #[.int .i64 sl, .slice ao n c]) er w5) (hb : Below w.heap.size w w5) {wq : World} (hq : wq = w5.alloc (.cells #[.int .i64 sl, .slice ao n c] 98)) : PbR L B C s w (.pointer (some ⟨w5.heap.size, 0, none⟩)) (.int .i64 er) wq := by
  have hb2 : Below w5.heap.size w5 wq := by rw [hq]; exact (Below.refl _ _).alloc (Nat.le_refl _) _
  exact ⟨_, sl, ao, n, c, er, rfl, rfl, by rw [hq]; simp [go_sem], by rw [hq]; simp [go_sem], hp.turn (fun _ _ h => h.later hb2), step_below hb2 hb⟩
theorem PbR.mk2 {L : Lay} {B : List Bool} {C : List LIns} {s : Nat} {w w4 w5 : World} {sl er : Int} {ao : Option Addr} {n c b : Nat} (hbw : w.heap.size ≤ b) (h0 : w4.cell? ⟨b, 0, none⟩ = some (.int .i64 0)) (h1 : w4.cell? ⟨b, 1, none⟩ = some (.slice none 0 0)) (h3 : ∀ j, 2 ≤ j → w4.cell? ⟨b, j, none⟩ = none) (h45 : Below w4.heap.size w4 w5) (hp : PlacesOk L B C s (.agg #[.int .i64 sl, .slice ao n c]) er w5) (hb : Below w.heap.size w w5) {wq : World} (hq : wq = (w5.setCell ⟨b, 0, none⟩ (.int .i64 sl)).setCell ⟨b, 1, none⟩ (.slice ao n c)) : PbR L B C s w (.pointer (some ⟨b, 0, none⟩)) (.int .i64 er) wq := by
  have hlt : b < w4.heap.size := World.block_lt_of_cell? w4 _ h0
  have c0 := step_cell h45 h0
  have c1 := step_cell h45 h1
  have c3 : ∀ j, 2 ≤ j → w5.cell? ⟨b, j, none⟩ = none := fun j hj => by rw [h45.cell (p := ⟨b, j, none⟩) hlt]; exact h3 j hj
  refine ⟨b, sl, ao, n, c, er, rfl, rfl, by rw [hq]; simp [go_sem, c0], by rw [hq]; simp [go_sem, c1], hp.turn (fun slots R h => h.box (b := b) (by rw [hq]; simp [World.setCell]) (fun k hk => ?_) c3), by rw [hq]; exact (hb.setCell hbw _).setCell hbw _⟩
  rw [hq, Below.heap_setCell _ _ _ _ hk, Below.heap_setCell _ _ _ _ hk]
theorem lit_eq (s t : List UInt8) : (s == t) = decide (s = t) := by
  by_cases h : s = t
  · subst h; simp
  · simp [h]
end form
/- A line with a word that is no NUMBER (loanbookkeep: line). -/
namespace form
open Go.RowKit
set_option maxRecDepth 100000
attribute [local go_sem ↓] Go.wp_at_zero Go.wp_at_succ
attribute [local go_sem] str_size str_list ByteArray.toList_mk
end form
/- A temporary more (loanbookkeep: line). -/
namespace form
open Go.RowKit
set_option maxRecDepth 100000
attribute [local go_sem ↓] Go.wp_at_zero Go.wp_at_succ
attribute [local go_sem] str_size str_list ByteArray.toList_mk
end form
/- How many are near (loanbookkeep: line). -/
namespace form
open Go.RowKit
set_option maxRecDepth 100000
attribute [local go_sem ↓] Go.wp_at_zero Go.wp_at_succ
attribute [local go_sem] str_size str_list ByteArray.toList_mk
end form
end Go.Proofs.YtikhedkhgpjaaacGreatDoor
