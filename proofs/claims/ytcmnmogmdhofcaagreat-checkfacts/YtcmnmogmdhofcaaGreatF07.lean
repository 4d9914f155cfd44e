/- A search along the ways of a program, on plain numbers: what it has come to, and what it has done with. -/
import Derived.Deep.OwnRows
import Derived.Deep.DeepCutAuto
import Derived.Test.YtcmnmogmdhofcaaGreatF05
import Derived.Test.YtcmnmogmdhofcaaGreatF02
import Derived.Test.YtcmnmogmdhofcaaGreatF03
import Derived.Test.YtcmnmogmdhofcaaGreatF06

namespace Go.Proofs.YtcmnmogmdhofcaaGreat.form
open Go.RowKit
set_option linter.unusedVariables false
end Go.Proofs.YtcmnmogmdhofcaaGreat.form

/- Where an instruction goes on (loanbookref2.Nexts). -/
namespace Go.Proofs.YtcmnmogmdhofcaaGreat.form
open Go.RowKit
set_option linter.unusedVariables false
attribute [local go_sem ↓] Go.wp_at_zero Go.wp_at_succ

def IntsAt (lo : Nat) (w : World) (v : Value) (l : List Int) : Prop :=
  ∃ ao cap, v = .slice ao l.length cap ∧ (0 < l.length → ∃ b, ao = some ⟨b, 0, none⟩ ∧ lo ≤ b ∧ b < w.heap.size ∧ ∀ j, j < l.length → w.cell? ⟨b, j, none⟩ = some (.int .i64 (l.getD j 0)))

theorem ints_one {lo : Nat} {w : World} {b : Nat} {x : Int} {cap : Nat} (hlo : lo ≤ b) (h : w.cell? ⟨b, 0, none⟩ = some (.int .i64 x)) : IntsAt lo w (.slice (some ⟨b, 0, none⟩) 1 cap) [x] :=
  ⟨_, _, rfl, fun _ => ⟨b, rfl, hlo, World.block_lt_of_cell? w _ h, fun j hj => by
    obtain rfl : j = 0 := by simp at hj; omega
    simpa using h⟩⟩
theorem ints_two {lo : Nat} {w : World} {b : Nat} {x y : Int} {cap : Nat} (hlo : lo ≤ b) (h : w.cell? ⟨b, 0, none⟩ = some (.int .i64 x)) (g : w.cell? ⟨b, 1, none⟩ = some (.int .i64 y)) : IntsAt lo w (.slice (some ⟨b, 0, none⟩) 2 cap) [x, y] :=
  ⟨_, _, rfl, fun _ => ⟨b, rfl, hlo, World.block_lt_of_cell? w _ h, fun j hj => by
    rcases (show j = 0 ∨ j = 1 by simp at hj; omega) with rfl | rfl
    · simpa using h
    · simpa using g⟩⟩

theorem nexts2 (i : LIns) (pc : Nat) (hpc : pc ≤ 40) (w : World) :
    Calls Tryz.prog 38 #[i.val, .int .i64 pc] w fun e w' => (∃ v, e = .returned v ∧ IntsAt w.heap.size w' v (nextsI i pc)) ∧ Below w.heap.size w w' := by
  unfold LIns.val
  have y1 : (pc : Int) ≤ 40 := by omega
  have y0 : (0 : Int) ≤ (pc : Int) := by omega
  have HB2 : Hid (∀ o1 o2 : Obj, Below w.heap.size w ((w.alloc o1).alloc o2)) := fun o1 o2 => ((Below.refl _ _).alloc (Nat.le_refl _) _).alloc (by simp) _
  go_enter Tryz.func38, Tryz.ntmps38
  go_wp2
  all_goals go_ret
  · refine ⟨⟨.slice (some ⟨w.heap.size + 1, 0, none⟩) 1 1, rfl, ?_⟩, HB2.out _ _⟩
    rw [show nextsI i pc = [i.c] by unfold nextsI; simp_all]
    exact ints_one (by omega) (by simp [go_sem])
  · refine ⟨⟨.slice none 0 0, rfl, ?_⟩, (Below.refl _ _).alloc (Nat.le_refl _) _⟩
    rw [show nextsI i pc = [] by unfold nextsI; simp_all]
    exact ⟨none, 0, rfl, fun hh => absurd hh (by simp)⟩
  · refine ⟨⟨.slice (some ⟨w.heap.size + 1, 0, none⟩) 2 2, rfl, ?_⟩, HB2.out _ _⟩
    rw [show nextsI i pc = [(pc : Int) + 1, i.c] by unfold nextsI; simp_all]
    exact ints_two (by omega) (by simp [go_sem]) (by simp [go_sem])
  · refine ⟨⟨.slice (some ⟨w.heap.size + 1, 0, none⟩) 1 1, rfl, ?_⟩, HB2.out _ _⟩
    rw [show nextsI i pc = [(pc : Int) + 1] by unfold nextsI; simp_all]
    exact ints_one (by omega) (by simp [go_sem])

end Go.Proofs.YtcmnmogmdhofcaaGreat.form

/- Small facts on rows of truths and numbers in memory. -/
namespace Go.Proofs.YtcmnmogmdhofcaaGreat.form
open Go.RowKit
set_option linter.unusedVariables false
theorem infBool : (Tryz.prog.info? 4).map (fun i => (i.zero, i.size, i.bytes)) = some (some (.bool false), 1, 1) := by kernel_rfl
theorem infInt : (Tryz.prog.info? 3).map (fun i => (i.zero, i.size, i.bytes)) = some (some (.int .i64 0), 1, 8) := by kernel_rfl

theorem made_bool (n : Nat) : madeCells #[Value.bool false] n = ((List.replicate n false).map Value.bool).toArray := by
  apply Array.toList_inj.1
  rw [toList_madeCells_one]
  simp

end Go.Proofs.YtcmnmogmdhofcaaGreat.form

/- What the document's run (loanbookref3.Play) shows: the machine on plain numbers, so many steps. -/
namespace Go.Proofs.YtcmnmogmdhofcaaGreat.form
open Go.RowKit Go.Proofs.YtcmnmogmdhofcaaGreat.num
set_option linter.unusedVariables false
attribute [local go_sem ↓] Go.wp_at_zero Go.wp_at_succ

section
variable {w : World} {b0 o0 c0 b1 o1 c1 : Nat} {B : List Bool} {C : List LIns} {ts : List Int} {v : Value} {l : List Int} {st k : Int} {wr w1 : World}
theorem own_below {base : Nat} {e : TypeId} {n : Nat} {xs : List Value} (h : wr.ownsRow base e 1 v n xs) (hb : Below wr.heap.size wr w1) : w1.ownsRow base e 1 v n xs :=
  World.ownsRow.kept h ⟨hb.os, hb.tape, hb.output, hb.size, fun j hj _ => hb.block j hj⟩ (row := none) (by cases v.ownBlock <;> simp)

end
theorem infoU32 : (Tryz.prog.info? 47).map (fun i => (i.zero, i.size, i.bytes)) = some (some (.int .u32 0), 1, 4) := by kernel_rfl

end Go.Proofs.YtcmnmogmdhofcaaGreat.form

/- The numbers of a program (loanbookref8.numbers): rising, each once. -/
namespace Go.Proofs.YtcmnmogmdhofcaaGreat.form
open Go.RowKit Go.Proofs.YtcmnmogmdhofcaaGreat.num
set_option linter.unusedVariables false
attribute [local go_sem ↓] Go.wp_at_zero Go.wp_at_succ

theorem own_set {w : World} {base : Nat} {e : TypeId} {g cap n : Nat} {xs : List Value} (h : w.ownsRow base e 1 (.slice (some ⟨g, 0, none⟩) n cap) n xs) {i : Nat} (hi : i < n) (u : Value) :
    (w.setCell ⟨g, i, none⟩ u).ownsRow base e 1 (.slice (some ⟨g, 0, none⟩) n cap) n (xs.set i u) := by
  refine ⟨by simp [h.1], ?_⟩
  rcases h.2 with ⟨hn, _⟩ | ⟨g', cap', cur, hv, hb, hgg, h1, h2, h3, h4⟩
  · exact absurd hn (by simp)
  · simp at hv
    obtain ⟨rfl, rfl⟩ := hv
    refine .inr ⟨g, cap, cur.setIfInBounds i u, rfl, hb, ?_, h1, h2, by simp [h3], ?_⟩
    · rw [heap_setCell_same w g i cur e u hgg]
    · simp only [Array.toList_setIfInBounds]
      rw [List.take_set, h4]
theorem own_cell {w : World} {base : Nat} {e : TypeId} {g cap n : Nat} {xs : List Value} (h : w.ownsRow base e 1 (.slice (some ⟨g, 0, none⟩) n cap) n xs) {i : Nat} (hi : i < n) : w.cell? ⟨g, i, none⟩ = xs[i]? := by
  rw [World.ownsRow.cellAt h i (by have := h.1; omega)]
theorem own_frozen {w : World} {base : Nat} {e : TypeId} {g cap n : Nat} {xs : List Value} (h : w.ownsRow base e 1 (.slice (some ⟨g, 0, none⟩) n cap) n xs) (i : Nat) : w.frozen? ⟨g, i, none⟩ = false := by
  rcases h.2 with ⟨hn, _⟩ | ⟨g', cap', cur, hv, hb, hgg, h1, h2, h3, h4⟩
  · exact absurd hn (by simp)
  · simp at hv
    obtain ⟨rfl, rfl⟩ := hv
    simp [World.frozen?, hgg]

def U32sAt (lo : Nat) (w : World) (v : Value) (l : List Int) : Prop :=
  ∃ ao cap, v = .slice ao l.length cap ∧ (0 < l.length → ∃ b, ao = some ⟨b, 0, none⟩ ∧ lo ≤ b ∧ b < w.heap.size ∧ ∀ j, j < l.length → w.cell? ⟨b, j, none⟩ = some (.int .u32 (l.getD j 0)))

structure NuS (w : World) (b1 o1 c1 nC : Nat) (l : List Int) (v : Value) (wr : World) : Prop where
  bel : Below w.heap.size w wr
  p1 : wr.cell? ⟨w.heap.size, 1, none⟩ = some (.slice (some ⟨b1, o1, none⟩) nC c1)
  own : wr.ownsRow (w.heap.size + 1) 47 1 v l.length (l.map (Value.int .u32))

section
variable {w : World} {b1 o1 c1 nC : Nat} {l : List Int} {v : Value} {wr w1 : World}
theorem NuS.below (h : NuS w b1 o1 c1 nC l v wr) (hb : Below wr.heap.size wr w1) : NuS w b1 o1 c1 nC l v w1 := ⟨step_below hb h.bel, step_cell hb h.p1, own_below h.own hb⟩
theorem NuS.ownNe (h : NuS w b1 o1 c1 nC l v wr) {b : Nat} (hb : b < w.heap.size + 1) : v.ownBlock ≠ some b := fun e => by have := (World.ownsRow.lt h.own _ e).1; omega
theorem NuS.push (h : NuS w b1 o1 c1 nC l v wr) {g cap : Nat} {y : Int} (hz : w.heap.size + 1 ≤ wr.heap.size)
    (hown : w1.ownsRow (w.heap.size + 1) 47 1 (.slice (some ⟨g, 0, none⟩) (l.length + 1) cap) (l.length + 1) (l.map (Value.int .u32) ++ [.int .u32 y])) (hgrow : wr.grownBy w1 v.ownBlock) :
    NuS w b1 o1 c1 nC (l ++ [y]) (.slice (some ⟨g, 0, none⟩) (l.length + 1) cap) w1 :=
  ⟨h.bel.grown hgrow (by omega) (fun j hj => by have := (World.ownsRow.lt h.own _ hj).1; omega), by rw [hgrow.cell_far _ (by dsimp only; omega) (Ne.symm (h.ownNe (by dsimp only; omega)))]; exact h.p1, by simpa using hown⟩
theorem NuS.set {g cap : Nat} (h : NuS w b1 o1 c1 nC l (.slice (some ⟨g, 0, none⟩) l.length cap) wr) {i : Nat} (hi : i < l.length) (x : Int) : NuS w b1 o1 c1 nC (l.set i x) (.slice (some ⟨g, 0, none⟩) l.length cap) (wr.setCell ⟨g, i, none⟩ (.int .u32 x)) := by
  have hg : w.heap.size + 1 ≤ g := (World.ownsRow.lt h.own g rfl).1
  refine ⟨h.bel.setCell (by show w.heap.size ≤ g; omega) _, cell_other h.p1 (by show w.heap.size ≠ g; omega), ?_⟩
  have := own_set h.own hi (.int .u32 x)
  simpa [List.map_set] using this
theorem NuS.form (h : NuS w b1 o1 c1 nC l v wr) (hl : 0 < l.length) : ∃ g cap, v = .slice (some ⟨g, 0, none⟩) l.length cap ∧ w.heap.size + 1 ≤ g ∧ g < wr.heap.size ∧ ∀ j, j < l.length → wr.cell? ⟨g, j, none⟩ = some (.int .u32 (l.getD j 0)) := by
  obtain ⟨g, cap, rfl, hbg, hlt⟩ := h.own.form hl
  refine ⟨g, cap, rfl, hbg, hlt, fun j hj => ?_⟩
  rw [World.ownsRow.cellAt h.own j (by omega)]
  simp [List.getD, hj]
theorem NuS.u32s (h : NuS w b1 o1 c1 nC l v wr) (hl : 0 < l.length) : U32sAt w.heap.size wr v l := by
  obtain ⟨g, cap, rfl, h1, h2, h3⟩ := h.form hl
  exact ⟨_, cap, rfl, fun _ => ⟨g, rfl, by omega, h2, h3⟩⟩
end

theorem nums_take {C : List LIns} {k : Nat} (hk : k < C.length) : numsL (C.take (k + 1)) = if (C.getD k .zero).op = 1 then insN (C.getD k .zero).n (numsL (C.take k)) else numsL (C.take k) := by
  have e : C.getD k .zero = C[k] := by simp [List.getD, hk]
  unfold numsL
  rw [List.take_succ_eq_append_getElem hk, List.foldl_append, e]
  rfl

theorem nums_pos (C : List LIns) : 0 < (numsL C).length := by
  have : (0 : Int) ∈ numsL C := (nums_mem C 0).2 (Or.inl rfl)
  exact List.length_pos_of_mem this

def Shifted (l : List Int) (i : Nat) (X : List Int) : Prop := X.length = l.length + 1 ∧ ∀ j, j ≤ l.length → X.getD j 0 = if j ≤ i then (l ++ [0]).getD j 0 else l.getD (j - 1) 0

theorem shifted_step {l X : List Int} {i : Nat} (h : Shifted l (i + 1) X) (hi : i < l.length) : Shifted l i (X.set (i + 1) (X.getD i 0)) := by
  obtain ⟨h1, h2⟩ := h
  refine ⟨by simp [h1], fun j hj => ?_⟩
  by_cases e : j = i + 1
  · subst e
    rw [show (X.set (i + 1) (X.getD i 0)).getD (i + 1) 0 = X.getD i 0 by simp [List.getD, h1, hi], if_neg (by omega), h2 i (by omega), if_pos (by omega)]
    simp [List.getD, List.getElem?_append_left hi]
  · rw [show (X.set (i + 1) (X.getD i 0)).getD j 0 = X.getD j 0 by simp [List.getD, Ne.symm e], h2 j hj]
    by_cases h3 : j ≤ i
    · rw [if_pos (by omega), if_pos h3]
    · rw [if_neg (by omega), if_neg h3]
theorem shifted_end {l X : List Int} {k : Nat} {n : Int} (h : Shifted l k X) (hk : k ≤ l.length) : X.set k n = l.take k ++ n :: l.drop k := by
  obtain ⟨h1, h2⟩ := h
  apply List.ext_getElem (by simp [h1]; omega)
  intro j hj1 hj2
  have hj : j ≤ l.length := by simp [h1] at hj1; omega
  have hjx : j < X.length := by omega
  have g2 := h2 j hj
  rw [show X.getD j 0 = X[j] by simp [List.getD, hjx]] at g2
  rw [List.getElem_set]
  by_cases e : k = j
  · subst e
    rw [if_pos rfl, List.getElem_append_right (by simp; omega)]
    simp [Nat.min_eq_left hk]
  · rw [if_neg e, g2]
    by_cases h3 : j < k
    · rw [if_pos (by omega), List.getElem_append_left (by simp; omega)]
      simp [List.getD, List.getElem?_append_left (show j < l.length by omega), show j < l.length by omega]
    · rw [if_neg (by omega), List.getElem_append_right (by simp; omega)]
      have hm : (l.take k).length = k := by simp; omega
      have hjk : j - (l.take k).length = (j - k - 1) + 1 := by omega
      simp only [hjk, List.getElem_cons_succ, List.getElem_drop]
      have h4 : j - 1 < l.length := by omega
      have h5 : k + (j - k - 1) = j - 1 := by omega
      simp [List.getD, h4, h5]

theorem insN_stay {l : List Int} {a : Nat} {n : Int} (h1 : ∀ j, j < a → l.getD j 0 < n) (ha : a < l.length) (he : l.getD a 0 = n) : insN n l = l := by
  rw [insN_at h1 (by omega) (fun _ => by omega), if_pos ⟨ha, he⟩]
theorem insN_put {l X : List Int} {a : Nat} {n : Int} (h1 : ∀ j, j < a → l.getD j 0 < n) (ha : a ≤ l.length) (he : a < l.length → n < l.getD a 0) (hX : Shifted l a X) : X.set a n = insN n l := by
  rw [insN_at h1 ha (fun h => by have := he h; omega), if_neg (fun h => by have := he h.1; omega), shifted_end hX ha]

set_option maxRecDepth 100000 in
set_option maxHeartbeats 2000000 in
theorem numbers8 (b0 o0 c0 b1 o1 c1 : Nat) (B : List Bool) (C : List LIns) (w : World) (hC : C.length ≤ 40) (h : Held w b0 o0 b1 o1 B C) :
    Calls Tryz.prog 34 #[progV b0 o0 B.length c0 b1 o1 C.length c1] w fun e w' => (∃ v, e = .returned v ∧ U32sAt w.heap.size w' v (numsL C)) ∧ Below w.heap.size w w' := by
  have y2 : (C.length : Int) ≤ 40 := by omega
  have HH : Hid (Held w b0 o0 b1 o1 B C) := h
  have hlt1 := h.lt1
  clear h
  unfold progV
  go_enter Tryz.func34, Tryz.ntmps34
  go_wp2
  go_loopw [3, 4] (fun v kv wr => ∃ (k : Nat) (v0 : Value), v0 = v ∧ kv = .int .i64 k ∧ k ≤ C.length ∧ NuS w b1 o1 c1 C.length (numsL (C.take k)) v wr) (fun _ kv _ => C.length - (intOf kv).toNat)
  case atStart =>
    refine ⟨0, _, rfl, rfl, by omega, ((Below.refl _ _).alloc (Nat.le_refl _) _).alloc (by simp) _, by simp [go_sem], ?_⟩
    refine ⟨rfl, .inr ⟨w.heap.size + 1, 1, #[.int .u32 0], rfl, by omega, ?_, by simp [numsL], by unfold maxLen; omega, rfl, rfl⟩⟩
    have := heap_alloc_new (w.alloc (.cells #[.slice (some ⟨b0, o0, none⟩) B.length c0, .slice (some ⟨b1, o1, none⟩) C.length c1] 25)) (.cells #[.int .u32 0] 47)
    simpa using this
  case round =>
    obtain ⟨k, v, rfl, rfl, hk, hnu⟩ := hrel
    obtain ⟨wo, hwo⟩ : ∃ q, q = wr := ⟨_, rfl⟩
    subst hwo
    have HNU : Hid (NuS w b1 o1 c1 C.length (numsL (C.take k)) v wo) := hnu
    have p1 := hnu.p1
    have hll := nums_len (C.take k)
    have hlp := nums_pos (C.take k)
    have HNT : Hid (∀ hk : k < C.length, numsL (C.take (k + 1)) = if (C.getD k .zero).op = 1 then insN (C.getD k .zero).n (numsL (C.take k)) else numsL (C.take k)) := fun hk => nums_take hk
    by_cases hlt : k < C.length
    case neg =>
      have y9 : ¬ (k : Int) < (C.length : Int) := by omega
      clear hnu
      go_wp2
      go_ret
      refine ⟨⟨v, rfl, ?_⟩, HNU.out.bel⟩
      have e : C.take k = C := List.take_of_length_le (by omega)
      have := HNU.out.u32s hlp
      rwa [e] at this
    have y8 : (k : Int) < (C.length : Int) := by omega
    have y7 : (0 : Int) ≤ (k : Int) := by omega
    have hbel := hnu.bel
    obtain ⟨d0, d1, d2, d3, d4, d5⟩ := (HH.out.later hbel).code k hlt
    have hnt := HNT.out hlt
    obtain ⟨i, hi⟩ : ∃ i, i = C.getD k .zero := ⟨_, rfl⟩
    rw [← hi] at d0 d5 hnt
    obtain ⟨l, hl⟩ : ∃ l, l = numsL (C.take k) := ⟨_, rfl⟩
    rw [← hl] at hnt hll hlp HNU hnu
    have hl41 : l.length ≤ 41 := by have : (C.take k).length ≤ 40 := (by simp; omega); omega
    have HL : Hid (l = numsL (C.take k)) := hl
    have HNX : Hid (numsL (C.take (k + 1)) = if i.op = 1 then insN i.n l else l) := hnt
    have hzz : w.heap.size < wo.heap.size := World.block_lt_of_cell? wo _ p1
    clear hi hl hnt HNT d1 d2 d3 d4 hbel
    by_cases hop : i.op = 1
    case neg =>
      have hb : (i.op != 1) = true := by simp [hop]
      clear hnu
      go_wp2
      refine ⟨⟨k + 1, _, rfl, by go_num, by omega, ?_⟩, by simp [intOf]; omega⟩
      rw [HNX.out, if_neg hop]
      exact HNU.out
    have hb : (i.op != 1) = false := by simp [hop]
    have HNI : Hid (numsL (C.take (k + 1)) = insN i.n l) := by show _ = _; rw [HNX.out, if_pos hop]
    obtain ⟨g, cap, rfl, hg1, hg2, hgc⟩ := hnu.form hlp
    have HGC : Hid (∀ j, j < l.length → wo.cell? ⟨g, j, none⟩ = some (.int .u32 (l.getD j 0))) := hgc
    have z1 : (l.length : Int) ≤ 41 := by omega
    clear hnu hgc HNX hop
    go_wp2
    go_loopw [6] (fun av wr2 => ∃ a : Nat, av = .int .i64 a ∧ a ≤ l.length ∧ wr2 = wo ∧ ∀ j, j < a → l.getD j 0 < i.n) (fun av _ => l.length - (intOf av).toNat)
    case atStart => exact ⟨0, rfl, by omega, rfl, fun j hj => absurd hj (by omega)⟩
    case round =>
      obtain ⟨a, rfl, ha, hw, hall⟩ := hrel
      obtain rfl := hw.symm
      have HALL : Hid (∀ j, j < a → l.getD j 0 < i.n) := hall
      clear hall
      have x0 : (0 : Int) ≤ (a : Int) := by omega
      rcases (show (a < l.length ∧ l.getD a 0 < i.n) ∨ (a < l.length ∧ l.getD a 0 = i.n) ∨ (a = l.length ∨ (a < l.length ∧ i.n < l.getD a 0)) by omega) with ⟨h1, h2⟩ | ⟨h1, h2⟩ | h3
      · have ca := HGC.out a h1
        obtain ⟨u, hu⟩ : ∃ u, u = l.getD a 0 := ⟨_, rfl⟩
        rw [← hu] at ca h2
        have x1 : (a : Int) < (l.length : Int) := by omega
        have HU : Hid (u = l.getD a 0) := hu
        clear hu
        go_wp2
        refine ⟨⟨a + 1, by go_num, by omega, trivial, fun j hj => ?_⟩, by simp [intOf]; omega⟩
        by_cases e : j < a
        · exact HALL.out j e
        · obtain rfl : j = a := by omega
          rw [← HU.out]; exact h2
      · have ca := HGC.out a h1
        rw [h2] at ca
        have x1 : (a : Int) < (l.length : Int) := by omega
        have x2 : ¬ i.n < i.n := by omega
        have x3 : (i.n == i.n) = true := by simp
        have HST : Hid (insN i.n l = l) := insN_stay HALL.out h1 h2
        clear h2
        go_wp2
        go_roundw
        case rel =>
          refine ⟨k + 1, _, rfl, by go_num, by omega, ?_⟩
          rw [HNI.out, HST.out]
          exact HNU.out
        case measure => simp [intOf]; omega
      · have HE : Hid (a < l.length → i.n < l.getD a 0) := fun h => by rcases h3 with h3 | h3; omega; exact h3.2
        obtain ⟨t0', hi0, hy0, hy1, hy2⟩ := info_parts infoU32
        have x4 : (a : Int) ≤ (l.length : Int) := by omega
        rcases h3 with h3 | ⟨h3, h4⟩
        rotate_left
        · have ca := HGC.out a h3
          obtain ⟨u, hu⟩ : ∃ u, u = l.getD a 0 := ⟨_, rfl⟩
          rw [← hu] at ca h4
          have x1 : (a : Int) < (l.length : Int) := by omega
          have x2 : ¬ u < i.n := by omega
          have x3 : (u == i.n) = false := by simp; omega
          clear hu
          go_wp2_with (at_builtin; refine wpList_append_lies _ rfl _ _ 64 rfl (w.heap.size + 1) 47 t0' (.int .u32 0) 1 4 Tryz.underlying64 hi0 hy0 hy1 hy2 rfl (by decide) (.slice (some ⟨g, 0, none⟩) l.length cap) l.length (l.map (Value.int .u32)) rfl (World.ownsRow.alloc HNU.out.own _) ⟨wo.heap.size, 0, none⟩ 1 1 [.int .u32 0] rfl rfl ?c1 ?c2 (by decide) ?c3 ?c4 ?c5 _ rfl ?_)
          case c2 => simp [Value.oneCell']
          case c3 => unfold maxLen; omega
          case c4 => omega
          case c5 => first | omega | (simp; omega)
          intro g9 cap9 w9 hown hgrow hat hlt9
          have hP := (HNU.out.below ((Below.refl _ _).alloc (Nat.le_refl _) (.cells #[.int .u32 0] 47))).push (by simp; omega) hown hgrow
          have HP : Hid (NuS w b1 o1 c1 C.length (l ++ [0]) (.slice (some ⟨g9, 0, none⟩) (l.length + 1) cap9) w9) := hP
          clear hP hown hgrow hat
          go_wp2
          go_loopw [7] (fun iv wr3 => ∃ (q : Nat) (X : List Int), iv = .int .i64 q ∧ a ≤ q ∧ q ≤ l.length ∧ Shifted l q X ∧ NuS w b1 o1 c1 C.length X (.slice (some ⟨g9, 0, none⟩) (l.length + 1) cap9) wr3) (fun iv _ => (intOf iv).toNat - a)
          case atStart =>
            refine ⟨l.length, l ++ [0], by go_num, by omega, by omega, ⟨by simp, fun j hj => by rw [if_pos hj]⟩, HP.out⟩
          case round =>
            obtain ⟨q, X, rfl, hq1, hq2, hX, hnx⟩ := hrel
            have hXl : X.length = l.length + 1 := hX.1
            have HX : Hid (Shifted l q X) := hX
            have HNX : Hid (NuS w b1 o1 c1 C.length X (.slice (some ⟨g9, 0, none⟩) X.length cap9) wr) := by rw [hXl]; exact hnx
            have hf := HNX.out.form (by omega)
            obtain ⟨g', cap', hgg, hg3, hg4, hgc⟩ := hf
            simp at hgg
            obtain ⟨rfl, rfl⟩ := hgg
            have HGX : Hid (∀ j, j < X.length → wr.cell? ⟨g9, j, none⟩ = some (.int .u32 (X.getD j 0))) := hgc
            have hfz : ∀ j, wr.frozen? ⟨g9, j, none⟩ = false := fun j => own_frozen HNX.out.own j
            have HFZ : Hid (∀ j, wr.frozen? ⟨g9, j, none⟩ = false) := hfz
            clear hgc hX hnx hfz
            by_cases hqa : q = a
            · subst hqa
              have cq := HGX.out q (by omega)
              have fq := HFZ.out q
              have v1 : ¬ (q : Int) < (q : Int) := by omega
              have v2 : (q : Int) < (l.length : Int) + 1 := by omega
              go_wp2
              go_roundw
              case rel =>
                refine ⟨k + 1, _, rfl, by go_num, by omega, ?_⟩
                rw [HNI.out, ← insN_put HALL.out ha HE.out HX.out]
                have := HNX.out.set (i := q) (by omega) i.n
                rwa [hXl] at this
              case measure => simp [intOf]; omega
            · obtain ⟨r, rfl⟩ : ∃ r, q = r + 1 := ⟨q - 1, by omega⟩
              have cq := HGX.out (r + 1) (by omega)
              have cr := HGX.out r (by omega)
              have fq := HFZ.out (r + 1)
              have v1 : (a : Int) < ((r + 1 : Nat) : Int) := by omega
              have v2 : ((r + 1 : Nat) : Int) < (l.length : Int) + 1 := by omega
              have v3 : ((r + 1 : Nat) : Int) - 1 = (r : Int) := by omega
              have v4 : (r : Int) < (l.length : Int) + 1 := by omega
              have v5 : (0 : Int) ≤ (r : Int) := by omega
              obtain ⟨rr, hrr⟩ : ∃ rr : Nat, rr = r + 1 := ⟨_, rfl⟩
              rw [← hrr] at cq fq v1 v2 v3 ⊢
              have HRR : Hid (rr = r + 1) := hrr
              have v6 : (0 : Int) ≤ (rr : Int) := by omega
              clear hrr
              go_wp2
              refine ⟨⟨r, X.set (r + 1) (X.getD r 0), by rw [← v3], by have := HRR.out; omega, by omega, shifted_step HX.out (by omega), ?_⟩, by simp [intOf]; omega⟩
              have := HNX.out.set (i := r + 1) (by omega) (X.getD r 0)
              rw [hXl] at this
              rw [HRR.out]
              exact this
        · have x1 : ¬ (a : Int) < (l.length : Int) := by omega
          clear h3
          go_wp2_with (at_builtin; refine wpList_append_lies _ rfl _ _ 64 rfl (w.heap.size + 1) 47 t0' (.int .u32 0) 1 4 Tryz.underlying64 hi0 hy0 hy1 hy2 rfl (by decide) (.slice (some ⟨g, 0, none⟩) l.length cap) l.length (l.map (Value.int .u32)) rfl (World.ownsRow.alloc HNU.out.own _) ⟨wo.heap.size, 0, none⟩ 1 1 [.int .u32 0] rfl rfl ?c1 ?c2 (by decide) ?c3 ?c4 ?c5 _ rfl ?_)
          case c2 => simp [Value.oneCell']
          case c3 => unfold maxLen; omega
          case c4 => omega
          case c5 => first | omega | (simp; omega)
          intro g9 cap9 w9 hown hgrow hat hlt9
          have hP := (HNU.out.below ((Below.refl _ _).alloc (Nat.le_refl _) (.cells #[.int .u32 0] 47))).push (by simp; omega) hown hgrow
          have HP : Hid (NuS w b1 o1 c1 C.length (l ++ [0]) (.slice (some ⟨g9, 0, none⟩) (l.length + 1) cap9) w9) := hP
          clear hP hown hgrow hat
          go_wp2
          go_loopw [7] (fun iv wr3 => ∃ (q : Nat) (X : List Int), iv = .int .i64 q ∧ a ≤ q ∧ q ≤ l.length ∧ Shifted l q X ∧ NuS w b1 o1 c1 C.length X (.slice (some ⟨g9, 0, none⟩) (l.length + 1) cap9) wr3) (fun iv _ => (intOf iv).toNat - a)
          case atStart =>
            refine ⟨l.length, l ++ [0], by go_num, by omega, by omega, ⟨by simp, fun j hj => by rw [if_pos hj]⟩, HP.out⟩
          case round =>
            obtain ⟨q, X, rfl, hq1, hq2, hX, hnx⟩ := hrel
            have hXl : X.length = l.length + 1 := hX.1
            have HX : Hid (Shifted l q X) := hX
            have HNX : Hid (NuS w b1 o1 c1 C.length X (.slice (some ⟨g9, 0, none⟩) X.length cap9) wr) := by rw [hXl]; exact hnx
            have hf := HNX.out.form (by omega)
            obtain ⟨g', cap', hgg, hg3, hg4, hgc⟩ := hf
            simp at hgg
            obtain ⟨rfl, rfl⟩ := hgg
            have HGX : Hid (∀ j, j < X.length → wr.cell? ⟨g9, j, none⟩ = some (.int .u32 (X.getD j 0))) := hgc
            have hfz : ∀ j, wr.frozen? ⟨g9, j, none⟩ = false := fun j => own_frozen HNX.out.own j
            have HFZ : Hid (∀ j, wr.frozen? ⟨g9, j, none⟩ = false) := hfz
            clear hgc hX hnx hfz
            by_cases hqa : q = a
            · subst hqa
              have cq := HGX.out q (by omega)
              have fq := HFZ.out q
              have v1 : ¬ (q : Int) < (q : Int) := by omega
              have v2 : (q : Int) < (l.length : Int) + 1 := by omega
              go_wp2
              go_roundw
              case rel =>
                refine ⟨k + 1, _, rfl, by go_num, by omega, ?_⟩
                rw [HNI.out, ← insN_put HALL.out ha HE.out HX.out]
                have := HNX.out.set (i := q) (by omega) i.n
                rwa [hXl] at this
              case measure => simp [intOf]; omega
            · exfalso; omega

end Go.Proofs.YtcmnmogmdhofcaaGreat.form
