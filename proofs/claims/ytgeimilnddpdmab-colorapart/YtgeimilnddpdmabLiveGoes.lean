/- With which instructions a program goes on behind one (layout.GoesOn): such of its ways as are there. -/
import Derived.Test.YtgeimilnddpdmabLiveLead
import Derived.Test.YtgeimilnddpdmabLiveBits
namespace Go.Proofs.Ytgeimilnddpdmab.form
open Go.RowKit
set_option linter.unusedVariables false
attribute [local go_sem ↓] Go.wp_at_zero Go.wp_at_succ

def thereB (nC : Nat) (x : Int) : Bool := decide (0 ≤ x) && decide (x < nC)
def goesI (nC : Nat) (i : LIns) (pc : Nat) : List Int := (nextsI i pc).filter (thereB nC)
def intV (x : Int) : Value := .int .i64 x

/-- What lies in memory while they are gathered. -/
structure GS (w : World) (b1 o1 c1 nC : Nat) (l : List Int) (v : Value) (wr : World) : Prop where
  bel : Below w.heap.size w wr
  p1 : wr.cell? ⟨w.heap.size, 1, none⟩ = some (.slice (some ⟨b1, o1, none⟩) nC c1)
  own : wr.ownsRow (w.heap.size + 1) 3 1 v l.length (l.map intV)

section
variable {w : World} {b1 o1 c1 nC : Nat} {l : List Int} {v : Value} {wr w1 : World}
theorem GS.below (h : GS w b1 o1 c1 nC l v wr) (hb : Below wr.heap.size wr w1) : GS w b1 o1 c1 nC l v w1 :=
  ⟨step_below hb h.bel, step_cell hb h.p1, World.ownsRow.kept h.own ⟨hb.os, hb.tape, hb.output, hb.size, fun j hj _ => hb.block j hj⟩ (row := none) (by cases v.ownBlock <;> simp)⟩
theorem GS.ownNe (h : GS w b1 o1 c1 nC l v wr) {b : Nat} (hb : b < w.heap.size + 1) : v.ownBlock ≠ some b := fun e => by have := (World.ownsRow.lt h.own _ e).1; omega
theorem GS.push (h : GS w b1 o1 c1 nC l v wr) {g cap : Nat} {y : Int} (hz : w.heap.size + 1 ≤ wr.heap.size)
    (hown : w1.ownsRow (w.heap.size + 1) 3 1 (.slice (some ⟨g, 0, none⟩) (l.length + 1) cap) (l.length + 1) (l.map intV ++ [.int .i64 y])) (hgrow : wr.grownBy w1 v.ownBlock) :
    GS w b1 o1 c1 nC (l ++ [y]) (.slice (some ⟨g, 0, none⟩) (l.length + 1) cap) w1 :=
  ⟨h.bel.grown hgrow (by omega) (fun j hj => by have := (World.ownsRow.lt h.own _ hj).1; omega), by rw [hgrow.cell_far _ (by dsimp only; omega) (Ne.symm (h.ownNe (by dsimp only; omega)))]; exact h.p1, by simpa [intV] using hown⟩
theorem GS.ints (h : GS w b1 o1 c1 nC l v wr) : IntsAt w.heap.size wr v l := by
  by_cases hn : 0 < l.length
  · obtain ⟨g, cap, rfl, hbg, hlt⟩ := h.own.form hn
    refine ⟨_, cap, rfl, fun _ => ⟨g, rfl, by omega, hlt, fun j hj => ?_⟩⟩
    rw [World.ownsRow.cellAt h.own j (by omega)]
    simp [List.getD, hj, intV]
  · have hl : l = [] := List.length_eq_zero_iff.1 (by omega)
    subst hl
    rcases h.own.2 with ⟨rfl, _⟩ | ⟨g, cap, cur, rfl, _⟩
    · exact ⟨none, 0, rfl, fun hh => absurd hh (by simp)⟩
    · exact ⟨_, cap, rfl, fun hh => absurd hh (by simp)⟩
end

theorem take_filter {N : List Int} {q : Int → Bool} {j : Nat} (hj : j < N.length) : (N.take (j + 1)).filter q = (N.take j).filter q ++ (if q (N.getD j 0) then [N.getD j 0] else []) := by
  have e : N.getD j 0 = N[j] := by simp [List.getD, hj]
  rw [List.take_succ_eq_append_getElem hj, List.filter_append, e]
  cases h : q N[j] <;> simp [h]

set_option maxRecDepth 100000 in
set_option maxHeartbeats 1000000 in
theorem goesOn (b0 o0 c0 b1 o1 c1 : Nat) (B : List Bool) (C : List LIns) (k : Nat) (w : World) (hC : C.length ≤ 40) (h : Held w b0 o0 b1 o1 B C) (hk : k < C.length) :
    Calls Try.prog 93 #[progV b0 o0 B.length c0 b1 o1 C.length c1, .int .i64 k] w fun e w' => (∃ v, e = .returned v ∧ IntsAt w.heap.size w' v (goesI C.length (C.getD k .zero) k)) ∧ Below w.heap.size w w' := by
  obtain ⟨d0, d1, d2, d3, d4, d5⟩ := h.code k hk
  obtain ⟨i, hi⟩ : ∃ i, i = C.getD k .zero := ⟨_, rfl⟩
  rw [← hi] at d0 d1 d2 d3 d4 d5 ⊢
  clear hi
  have hlt1 := h.lt1
  have y0 : (0 : Int) ≤ (k : Int) := by omega
  have y1 : (k : Int) < (C.length : Int) := by omega
  have y2 : (C.length : Int) ≤ 40 := by omega
  unfold progV
  go_enter Try.func93, Try.ntmps93
  go_wp2_with (first
    | (go_at_call 118; refine (isIn _ _ _).mono ?_; rintro e w' ⟨rfl, rfl⟩)
    | (go_at_call 119; refine (leads i k (by omega) _).mono ?_; rintro e w3 ⟨⟨nv, rfl, hnv⟩, hb3⟩; have HNV : Hid _ := hnv; obtain ⟨nao, ncap, rfl, -⟩ := hnv; have HB3 : Hid (Below (w.alloc (.cells #[.slice (some ⟨b0, o0, none⟩) B.length c0, .slice (some ⟨b1, o1, none⟩) C.length c1] 25)).heap.size (w.alloc (.cells #[.slice (some ⟨b0, o0, none⟩) B.length c0, .slice (some ⟨b1, o1, none⟩) C.length c1] 25)) w3) := hb3))
  have hnl : (nextsI i k).length ≤ 2 := nexts_len i k
  obtain ⟨N, hN⟩ : ∃ N, N = nextsI i k := ⟨_, rfl⟩
  rw [← hN] at hnl HNV ⊢
  have HN : Hid (nextsI i k = N) := hN.symm
  clear hN
  have z3 : (N.length : Int) ≤ 2 := by omega
  have HG0 : Hid (GS w b1 o1 c1 C.length [] (.slice none 0 0) w3) := ⟨over_alloc HB3.out, step_cell HB3.out (by simp [go_sem]), World.ownsRow_nil _ _ _ _⟩
  have HW3 : Hid (0 < N.length → ∃ gb, nao = some ⟨gb, 0, none⟩ ∧ w.heap.size + 1 ≤ gb ∧ gb < w3.heap.size ∧ ∀ q, q < N.length → w3.cell? ⟨gb, q, none⟩ = some (.int .i64 (N.getD q 0))) := by
    intro h0
    obtain ⟨_, _, he, hh⟩ := HNV.out
    simp at he
    obtain ⟨rfl, rfl⟩ := he
    obtain ⟨gb, e1, e2, e3, e4⟩ := hh h0
    simp at e2
    exact ⟨gb, e1, by omega, e3, e4⟩
  clear HNV HB3 hb3 d0 d1 d2 d3 d4 d5
  go_loopw [5, 22] (fun v jv wr => ∃ (j : Nat) (v0 : Value), v0 = v ∧ jv = .int .i64 j ∧ j ≤ N.length ∧ GS w b1 o1 c1 C.length ((N.take j).filter (thereB C.length)) v wr ∧
      (0 < N.length → ∃ gb, nao = some ⟨gb, 0, none⟩ ∧ w.heap.size + 1 ≤ gb ∧ gb < wr.heap.size ∧ v.ownBlock ≠ some gb ∧ ∀ q, q < N.length → wr.cell? ⟨gb, q, none⟩ = some (.int .i64 (N.getD q 0)))) (fun _ jv _ => N.length - (intOf jv).toNat)
  case atStart =>
    refine ⟨0, _, rfl, rfl, by omega, by simpa using HG0.out, fun h0 => ?_⟩
    obtain ⟨gb, e1, e2, e3, e4⟩ := HW3.out h0
    exact ⟨gb, e1, e2, e3, by simp [Value.ownBlock], e4⟩
  case round =>
    obtain ⟨j, v, rfl, rfl, hj, hgs, hnx⟩ := hrel
    obtain ⟨l, hl⟩ : ∃ l, l = (N.take j).filter (thereB C.length) := ⟨_, rfl⟩
    rw [← hl] at hgs
    have HL : Hid (l = (N.take j).filter (thereB C.length)) := hl
    have hll : l.length ≤ 2 := by rw [hl]; exact Nat.le_trans (List.length_filter_le _ _) (by simp; omega)
    clear hl
    have HGS : Hid (GS w b1 o1 c1 C.length l v wr) := hgs
    have HNX : Hid (0 < N.length → ∃ gb, nao = some ⟨gb, 0, none⟩ ∧ w.heap.size + 1 ≤ gb ∧ gb < wr.heap.size ∧ v.ownBlock ≠ some gb ∧ ∀ q, q < N.length → wr.cell? ⟨gb, q, none⟩ = some (.int .i64 (N.getD q 0))) := hnx
    have p1 := hgs.p1
    have hzz : w.heap.size < wr.heap.size := World.block_lt_of_cell? wr _ p1
    clear hgs hnx
    by_cases hjl : j < N.length
    case neg =>
      have y9 : ¬ (j : Int) < (N.length : Int) := by omega
      go_wp2
      go_ret
      refine ⟨⟨_, rfl, ?_⟩, HGS.out.bel⟩
      obtain rfl : j = N.length := by omega
      have := HGS.out.ints
      rw [HL.out, List.take_length] at this
      unfold goesI
      rw [HN.out]
      exact this
    obtain ⟨gb, rfl, hgb1, hgb2, hgb3, hgbc⟩ := HNX.out (by omega)
    have nj := hgbc j hjl
    obtain ⟨Y, hY⟩ : ∃ Y, Y = N.getD j 0 := ⟨_, rfl⟩
    rw [← hY] at nj
    have HY : Hid (Y = N.getD j 0) := hY
    have HGBC : Hid (∀ q, q < N.length → wr.cell? ⟨gb, q, none⟩ = some (.int .i64 (N.getD q 0))) := hgbc
    have y8 : (j : Int) < (N.length : Int) := by omega
    have y7 : (0 : Int) ≤ (j : Int) := by omega
    clear hgbc hY
    obtain ⟨t0', hi0, hy0, hy1, hy2⟩ := info_parts infInt
    cases hq : thereB C.length Y with
    | false =>
      have HQ : Hid (thereB C.length Y = false) := hq
      have hq2 : (decide (0 ≤ Y) && decide (Y < (C.length : Int))) = false := hq
      clear hq
      go_wp2_with (go_at_call 118; refine (isIn _ _ _).mono ?_; rw [hq2]; rintro e w' ⟨rfl, hw'⟩; obtain rfl := hw'.symm)
      refine ⟨⟨j + 1, _, rfl, by go_num, by omega, ?_, fun _ => ⟨gb, rfl, hgb1, hgb2, hgb3, HGBC.out⟩⟩, by simp [intOf]; omega⟩
      rw [take_filter hjl, ← HL.out, ← HY.out, HQ.out]
      simpa using HGS.out
    | true =>
      have HQ : Hid (thereB C.length Y = true) := hq
      have hq2 : (decide (0 ≤ Y) && decide (Y < (C.length : Int))) = true := hq
      clear hq
      go_wp2_with (first | (go_at_call 118; refine (isIn _ _ _).mono ?_; rw [hq2]; rintro e w' ⟨rfl, hw'⟩; obtain rfl := hw'.symm) | (at_builtin; refine wpList_append_lies _ rfl _ _ 62 rfl (w.heap.size + 1) 3 t0' (.int .i64 0) 1 8 Try.underlying62 hi0 hy0 hy1 hy2 rfl (by decide) v l.length (l.map intV) rfl (World.ownsRow.alloc HGS.out.own _) ⟨wr.heap.size, 0, none⟩ 1 1 [.int .i64 Y] rfl rfl ?c1 ?c2 (by decide) ?c3 ?c4 ?c5 _ rfl ?_))
      case c1 => exact World.news_of_block (cs := #[.int .i64 Y]) (t := 3) (fr := (0, 0)) (by have := heap_alloc_new wr (.cells #[.int .i64 Y] 3); simpa using this)
      case c2 => simp [Value.oneCell']
      case c3 => unfold maxLen; omega
      case c4 => omega
      case c5 => simp; omega
      intro g9 cap9 w9 hown hgrow hat hlt9
      have hP := (HGS.out.below ((Below.refl _ _).alloc (Nat.le_refl _) (.cells #[.int .i64 Y] 3))).push (by simp; omega) hown hgrow
      have hN9 : ∃ gb', some (⟨gb, 0, none⟩ : Addr) = some ⟨gb', 0, none⟩ ∧ w.heap.size + 1 ≤ gb' ∧ gb' < w9.heap.size ∧ (Value.slice (some ⟨g9, 0, none⟩) (l.length + 1) cap9).ownBlock ≠ some gb' ∧ ∀ q, q < N.length → w9.cell? ⟨gb', q, none⟩ = some (.int .i64 (N.getD q 0)) := by
        have hz9 : wr.heap.size < w9.heap.size := by have := hgrow.size; simp at this; omega
        refine ⟨gb, rfl, hgb1, by omega, ?_, fun q hq => ?_⟩
        · simp only [Value.ownBlock, ne_eq, Option.some.injEq]
          rcases hat with hat | hat
          · intro e; rw [e] at hat; exact hgb3 hat
          · omega
        · rw [hgrow.cell_far _ (by simp; omega) (Ne.symm hgb3)]
          exact step_cell ((Below.refl _ _).alloc (Nat.le_refl _) _) (HGBC.out q hq)
      have R : Hid (GS w b1 o1 c1 C.length (l ++ [Y]) (.slice (some ⟨g9, 0, none⟩) (l.length + 1) cap9) w9) := hP
      have RN : Hid (∃ gb', some (⟨gb, 0, none⟩ : Addr) = some ⟨gb', 0, none⟩ ∧ w.heap.size + 1 ≤ gb' ∧ gb' < w9.heap.size ∧ (Value.slice (some ⟨g9, 0, none⟩) (l.length + 1) cap9).ownBlock ≠ some gb' ∧ ∀ q, q < N.length → w9.cell? ⟨gb', q, none⟩ = some (.int .i64 (N.getD q 0))) := hN9
      clear hP hN9 hown hgrow hat
      go_wp2
      refine ⟨⟨j + 1, _, rfl, by go_num, by omega, ?_, fun _ => RN.out⟩, by simp [intOf]; omega⟩
      rw [take_filter hjl, ← HL.out, ← HY.out, HQ.out]
      simpa using R.out

end Go.Proofs.Ytgeimilnddpdmab.form
