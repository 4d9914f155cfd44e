/- With which instructions a program goes on behind one (layout.GoesOn): such of its ways as are there. -/
import Derived.Test.YtcmnmogmdhofcabT11
import Derived.Test.YtcmnmogmdhofcabT09

namespace Go.Proofs.Ytcmnmogmdhofcab.form
open Go.RowKit
set_option linter.unusedVariables false
attribute [local go_sem ↓] Go.wp_at_zero Go.wp_at_succ

def thereB (nC : Nat) (x : Int) : Bool := decide (0 ≤ x) && decide (x < nC)
def goesI (nC : Nat) (i : LIns) (pc : Nat) : List Int := (nextsI i pc).filter (thereB nC)
def intV (x : Int) : Value := .int .i64 x

/-- What lies in memory while they are gathered. -/
structure GS (w : World) (b1 o1 c1 nC : Nat) (l : List Int) (v : Value) (wr : World) : Prop where
  bel : Below w.heap.size w wr
  p1 : wr.cell? ⟨w.heap.size, 1, none⟩ = some (.slice (some ⟨b1, o1, none⟩) nC c1)
  own : wr.ownsRow (w.heap.size + 1) 3 1 v l.length (l.map intV)

section
variable {w : World} {b1 o1 c1 nC : Nat} {l : List Int} {v : Value} {wr w1 : World}
theorem GS.below (h : GS w b1 o1 c1 nC l v wr) (hb : Below wr.heap.size wr w1) : GS w b1 o1 c1 nC l v w1 :=
  ⟨step_below hb h.bel, step_cell hb h.p1, World.ownsRow.kept h.own ⟨hb.os, hb.tape, hb.output, hb.size, fun j hj _ => hb.block j hj⟩ (row := none) (by cases v.ownBlock <;> simp)⟩
theorem GS.ownNe (h : GS w b1 o1 c1 nC l v wr) {b : Nat} (hb : b < w.heap.size + 1) : v.ownBlock ≠ some b := fun e => by have := (World.ownsRow.lt h.own _ e).1; omega
theorem GS.push (h : GS w b1 o1 c1 nC l v wr) {g cap : Nat} {y : Int} (hz : w.heap.size + 1 ≤ wr.heap.size)
    (hown : w1.ownsRow (w.heap.size + 1) 3 1 (.slice (some ⟨g, 0, none⟩) (l.length + 1) cap) (l.length + 1) (l.map intV ++ [.int .i64 y])) (hgrow : wr.grownBy w1 v.ownBlock) :
    GS w b1 o1 c1 nC (l ++ [y]) (.slice (some ⟨g, 0, none⟩) (l.length + 1) cap) w1 :=
  ⟨h.bel.grown hgrow (by omega) (fun j hj => by have := (World.ownsRow.lt h.own _ hj).1; omega), by rw [hgrow.cell_far _ (by dsimp only; omega) (Ne.symm (h.ownNe (by dsimp only; omega)))]; exact h.p1, by simpa [intV] using hown⟩
theorem GS.ints (h : GS w b1 o1 c1 nC l v wr) : IntsAt w.heap.size wr v l := by
  by_cases hn : 0 < l.length
  · obtain ⟨g, cap, rfl, hbg, hlt⟩ := h.own.form hn
    refine ⟨_, cap, rfl, fun _ => ⟨g, rfl, by omega, hlt, fun j hj => ?_⟩⟩
    rw [World.ownsRow.cellAt h.own j (by omega)]
    simp [List.getD, hj, intV]
  · have hl : l = [] := List.length_eq_zero_iff.1 (by omega)
    subst hl
    rcases h.own.2 with ⟨rfl, _⟩ | ⟨g, cap, cur, rfl, _⟩
    · exact ⟨none, 0, rfl, fun hh => absurd hh (by simp)⟩
    · exact ⟨_, cap, rfl, fun hh => absurd hh (by simp)⟩
end

theorem take_filter {N : List Int} {q : Int → Bool} {j : Nat} (hj : j < N.length) : (N.take (j + 1)).filter q = (N.take j).filter q ++ (if q (N.getD j 0) then [N.getD j 0] else []) := by
  have e : N.getD j 0 = N[j] := by simp [List.getD, hj]
  rw [List.take_succ_eq_append_getElem hj, List.filter_append, e]
  cases h : q N[j] <;> simp [h]

set_option maxRecDepth 100000 in
set_option maxHeartbeats 1000000 in
theorem goesOn (b0 o0 c0 b1 o1 c1 : Nat) (B : List Bool) (C : List LIns) (k : Nat) (w : World) (hC : C.length ≤ 40) (h : Held w b0 o0 b1 o1 B C) (hk : k < C.length) :
    Calls Try.prog 108 #[progV b0 o0 B.length c0 b1 o1 C.length c1, .int .i64 k] w fun e w' => (∃ v, e = .returned v ∧ IntsAt w.heap.size w' v (goesI C.length (C.getD k .zero) k)) ∧ Below w.heap.size w w' := by
  obtain ⟨d0, d1, d2, d3, d4, d5⟩ := h.code k hk
  obtain ⟨i, hi⟩ : ∃ i, i = C.getD k .zero := ⟨_, rfl⟩
  rw [← hi] at d0 d1 d2 d3 d4 d5 ⊢
  clear hi
  have hlt1 := h.lt1
  have y0 : (0 : Int) ≤ (k : Int) := by omega
  have y1 : (k : Int) < (C.length : Int) := by omega
  have y2 : (C.length : Int) ≤ 40 := by omega
  unfold progV
  go_enter Try.func108, Try.ntmps108
  go_wp2_with (first
    | (go_at_call 140; refine (isIn _ _ _).mono ?_; rintro e w' ⟨rfl, rfl⟩)
    | (go_at_call 141; refine (leads i k (by omega) _).mono ?_; rintro e w3 ⟨⟨nv, rfl, hnv⟩, hb3⟩; have HNV : Hid _ := hnv; obtain ⟨nao, ncap, rfl, -⟩ := hnv; have HB3 : Hid (Below (w.alloc (.cells #[.slice (some ⟨b0, o0, none⟩) B.length c0, .slice (some ⟨b1, o1, none⟩) C.length c1] 25)).heap.size (w.alloc (.cells #[.slice (some ⟨b0, o0, none⟩) B.length c0, .slice (some ⟨b1, o1, none⟩) C.length c1] 25)) w3) := hb3))
  have hnl : (nextsI i k).length ≤ 2 := nexts_len i k
  obtain ⟨N, hN⟩ : ∃ N, N = nextsI i k := ⟨_, rfl⟩
  rw [← hN] at hnl HNV ⊢
  have HN : Hid (nextsI i k = N) := hN.symm
  clear hN
  have z3 : (N.length : Int) ≤ 2 := by omega
  have HG0 : Hid (GS w b1 o1 c1 C.length [] (.slice none 0 0) w3) := ⟨over_alloc HB3.out, step_cell HB3.out (by simp [go_sem]), World.ownsRow_nil _ _ _ _⟩
  have HW3 : Hid (0 < N.length → ∃ gb, nao = some ⟨gb, 0, none⟩ ∧ w.heap.size + 1 ≤ gb ∧ gb < w3.heap.size ∧ ∀ q, q < N.length → w3.cell? ⟨gb, q, none⟩ = some (.int .i64 (N.getD q 0))) := by
    intro h0
    obtain ⟨_, _, he, hh⟩ := HNV.out
    simp at he
    obtain ⟨rfl, rfl⟩ := he
    obtain ⟨gb, e1, e2, e3, e4⟩ := hh h0
    simp at e2
    exact ⟨gb, e1, by omega, e3, e4⟩
  clear HNV HB3 hb3 d0 d1 d2 d3 d4 d5
  go_loopw [5, 22] (fun v jv wr => ∃ (j : Nat) (v0 : Value), v0 = v ∧ jv = .int .i64 j ∧ j ≤ N.length ∧ GS w b1 o1 c1 C.length ((N.take j).filter (thereB C.length)) v wr ∧
      (0 < N.length → ∃ gb, nao = some ⟨gb, 0, none⟩ ∧ w.heap.size + 1 ≤ gb ∧ gb < wr.heap.size ∧ v.ownBlock ≠ some gb ∧ ∀ q, q < N.length → wr.cell? ⟨gb, q, none⟩ = some (.int .i64 (N.getD q 0)))) (fun _ jv _ => N.length - (intOf jv).toNat)
  case atStart =>
    refine ⟨0, _, rfl, rfl, by omega, by simpa using HG0.out, fun h0 => ?_⟩
    obtain ⟨gb, e1, e2, e3, e4⟩ := HW3.out h0
    exact ⟨gb, e1, e2, e3, by simp [Value.ownBlock], e4⟩
  case round =>
    obtain ⟨j, v, rfl, rfl, hj, hgs, hnx⟩ := hrel
    obtain ⟨l, hl⟩ : ∃ l, l = (N.take j).filter (thereB C.length) := ⟨_, rfl⟩
    rw [← hl] at hgs
    have HL : Hid (l = (N.take j).filter (thereB C.length)) := hl
    have hll : l.length ≤ 2 := by rw [hl]; exact Nat.le_trans (List.length_filter_le _ _) (by simp; omega)
    clear hl
    have HGS : Hid (GS w b1 o1 c1 C.length l v wr) := hgs
    have HNX : Hid (0 < N.length → ∃ gb, nao = some ⟨gb, 0, none⟩ ∧ w.heap.size + 1 ≤ gb ∧ gb < wr.heap.size ∧ v.ownBlock ≠ some gb ∧ ∀ q, q < N.length → wr.cell? ⟨gb, q, none⟩ = some (.int .i64 (N.getD q 0))) := hnx
    have p1 := hgs.p1
    have hzz : w.heap.size < wr.heap.size := World.block_lt_of_cell? wr _ p1
    clear hgs hnx
    by_cases hjl : j < N.length
    case neg =>
      have y9 : ¬ (j : Int) < (N.length : Int) := by omega
      go_wp2
      go_ret
      refine ⟨⟨_, rfl, ?_⟩, HGS.out.bel⟩
      obtain rfl : j = N.length := by omega
      have := HGS.out.ints
      rw [HL.out, List.take_length] at this
      unfold goesI
      rw [HN.out]
      exact this
    obtain ⟨gb, rfl, hgb1, hgb2, hgb3, hgbc⟩ := HNX.out (by omega)
    have nj := hgbc j hjl
    obtain ⟨Y, hY⟩ : ∃ Y, Y = N.getD j 0 := ⟨_, rfl⟩
    rw [← hY] at nj
    have HY : Hid (Y = N.getD j 0) := hY
    have HGBC : Hid (∀ q, q < N.length → wr.cell? ⟨gb, q, none⟩ = some (.int .i64 (N.getD q 0))) := hgbc
    have y8 : (j : Int) < (N.length : Int) := by omega
    have y7 : (0 : Int) ≤ (j : Int) := by omega
    clear hgbc hY
    obtain ⟨t0', hi0, hy0, hy1, hy2⟩ := info_parts infInt
    cases hq : thereB C.length Y with
    | false =>
      have HQ : Hid (thereB C.length Y = false) := hq
      have hq2 : (decide (0 ≤ Y) && decide (Y < (C.length : Int))) = false := hq
      clear hq
      go_wp2_with (go_at_call 140; refine (isIn _ _ _).mono ?_; rw [hq2]; rintro e w' ⟨rfl, hw'⟩; obtain rfl := hw'.symm)
      refine ⟨⟨j + 1, _, rfl, by go_num, by omega, ?_, fun _ => ⟨gb, rfl, hgb1, hgb2, hgb3, HGBC.out⟩⟩, by simp [intOf]; omega⟩
      rw [take_filter hjl, ← HL.out, ← HY.out, HQ.out]
      simpa using HGS.out
    | true =>
      have HQ : Hid (thereB C.length Y = true) := hq
      have hq2 : (decide (0 ≤ Y) && decide (Y < (C.length : Int))) = true := hq
      clear hq
      go_wp2_with (first | (go_at_call 140; refine (isIn _ _ _).mono ?_; rw [hq2]; rintro e w' ⟨rfl, hw'⟩; obtain rfl := hw'.symm) | (at_builtin; refine wpList_append_lies _ rfl _ _ 64 rfl (w.heap.size + 1) 3 t0' (.int .i64 0) 1 8 Try.underlying64 hi0 hy0 hy1 hy2 rfl (by decide) v l.length (l.map intV) rfl (World.ownsRow.alloc HGS.out.own _) ⟨wr.heap.size, 0, none⟩ 1 1 [.int .i64 Y] rfl rfl ?c1 ?c2 (by decide) ?c3 ?c4 ?c5 _ rfl ?_))
      case c1 => exact World.news_of_block (cs := #[.int .i64 Y]) (t := 3) (fr := (0, 0)) (by have := heap_alloc_new wr (.cells #[.int .i64 Y] 3); simpa using this)
      case c2 => simp [Value.oneCell']
      case c3 => unfold maxLen; omega
      case c4 => omega
      case c5 => simp; omega
      intro g9 cap9 w9 hown hgrow hat hlt9
      have hP := (HGS.out.below ((Below.refl _ _).alloc (Nat.le_refl _) (.cells #[.int .i64 Y] 3))).push (by simp; omega) hown hgrow
      have hN9 : ∃ gb', some (⟨gb, 0, none⟩ : Addr) = some ⟨gb', 0, none⟩ ∧ w.heap.size + 1 ≤ gb' ∧ gb' < w9.heap.size ∧ (Value.slice (some ⟨g9, 0, none⟩) (l.length + 1) cap9).ownBlock ≠ some gb' ∧ ∀ q, q < N.length → w9.cell? ⟨gb', q, none⟩ = some (.int .i64 (N.getD q 0)) := by
        have hz9 : wr.heap.size < w9.heap.size := by have := hgrow.size; simp at this; omega
        refine ⟨gb, rfl, hgb1, by omega, ?_, fun q hq => ?_⟩
        · simp only [Value.ownBlock, ne_eq, Option.some.injEq]
          rcases hat with hat | hat
          · intro e; rw [e] at hat; exact hgb3 hat
          · omega
        · rw [hgrow.cell_far _ (by simp; omega) (Ne.symm hgb3)]
          exact step_cell ((Below.refl _ _).alloc (Nat.le_refl _) _) (HGBC.out q hq)
      have R : Hid (GS w b1 o1 c1 C.length (l ++ [Y]) (.slice (some ⟨g9, 0, none⟩) (l.length + 1) cap9) w9) := hP
      have RN : Hid (∃ gb', some (⟨gb, 0, none⟩ : Addr) = some ⟨gb', 0, none⟩ ∧ w.heap.size + 1 ≤ gb' ∧ gb' < w9.heap.size ∧ (Value.slice (some ⟨g9, 0, none⟩) (l.length + 1) cap9).ownBlock ≠ some gb' ∧ ∀ q, q < N.length → w9.cell? ⟨gb', q, none⟩ = some (.int .i64 (N.getD q 0))) := hN9
      clear hP hN9 hown hgrow hat
      go_wp2
      refine ⟨⟨j + 1, _, rfl, by go_num, by omega, ?_, fun _ => RN.out⟩, by simp [intOf]; omega⟩
      rw [take_filter hjl, ← HL.out, ← HY.out, HQ.out]
      simpa using R.out

end Go.Proofs.Ytcmnmogmdhofcab.form

/- What an instruction takes (loanbookref4.takes). -/
namespace Go.Proofs.Ytcmnmogmdhofcab.form
open Go.RowKit
set_option linter.unusedVariables false
attribute [local go_sem ↓] Go.wp_at_zero Go.wp_at_succ

set_option maxRecDepth 100000 in
theorem takes4 (i : LIns) (t : Int) (w : World) :
    Calls Try.prog 112 #[i.val, .int .i64 t] w fun e w' => e = .returned (.bool (takesI i t)) ∧ Below w.heap.size w w' := by
  obtain ⟨m, hm, hm2⟩ : ∃ m : Nat, manyI i.op = m ∧ m ≤ 2 := by
    rcases many_of i.op with h | h | h
    · exact ⟨0, h, by omega⟩
    · exact ⟨1, h, by omega⟩
    · exact ⟨2, h, by omega⟩
  rw [takes_of i m hm hm2 t]
  have HM : Hid (manyI i.op = m) := hm
  have z2 : (m : Int) ≤ 2 := by omega
  clear hm
  unfold LIns.val
  go_enter Try.func112, Try.ntmps112
  go_wp2_with (go_at_call 111; refine (uses i m HM.out _).mono ?_; rintro e w1 ⟨g, rfl, hb1, hg1, hg2, c0, c1⟩)
  have HB1 : Hid (Below w.heap.size w w1) := over_alloc hb1
  clear hb1
  go_loopw [6] (fun k wr => ∃ j : Nat, j ≤ m ∧ k = .int .i64 j ∧ wr = w1 ∧ (0 < j → (i.a == t) = false) ∧ (1 < j → (i.b == t) = false)) (fun k _ => m - (intOf k).toNat)
  case atStart => exact ⟨0, by omega, rfl, rfl, fun h => absurd h (by omega), fun h => absurd h (by omega)⟩
  case round =>
    obtain ⟨j, hj, rfl, rfl, h1, h2⟩ := hrel
    have H1 : Hid (0 < j → (i.a == t) = false) := h1
    have H2 : Hid (1 < j → (i.b == t) = false) := h2
    clear h1 h2
    by_cases hlt : j < m
    · rcases (show j = 0 ∨ j = 1 by omega) with rfl | rfl
      · have y1 : (0 : Int) < (m : Int) := by omega
        go_wp2
        · go_ret
          refine ⟨ret_bool ?_, HB1.out⟩
          have e : (i.a == t) = true := by assumption
          simp [e]; omega
        · have e : (i.a == t) = false := by assumption
          exact ⟨⟨1, by omega, by go_num, trivial, fun _ => e, fun h => absurd h (by omega)⟩, by simp [intOf]; omega⟩
      · have y1 : (1 : Int) < (m : Int) := by omega
        go_wp2
        · go_ret
          refine ⟨ret_bool ?_, HB1.out⟩
          have e : (i.b == t) = true := by assumption
          simp [e]; omega
        · have e : (i.b == t) = false := by assumption
          exact ⟨⟨2, by omega, by go_num, trivial, fun _ => H1.out (by omega), fun _ => e⟩, by simp [intOf]; omega⟩
    · have y1 : ¬ (j : Int) < (m : Int) := by omega
      go_wp2
      go_ret
      refine ⟨ret_bool ?_, HB1.out⟩
      obtain rfl : j = m := by omega
      rcases (show j = 0 ∨ j = 1 ∨ j = 2 by omega) with rfl | rfl | rfl
      · simp
      · have := H1.out (by omega); simp [this]
      · have := H1.out (by omega); have := H2.out (by omega); simp [*]

end Go.Proofs.Ytcmnmogmdhofcab.form

/- The document's function that tells whether a temporary is needed ahead of an instruction (loanbookref4.Needed): a search along the ways. -/
namespace Go.Proofs.Ytcmnmogmdhofcab.form
open Go.RowKit
set_option linter.unusedVariables false
attribute [local go_sem ↓] Go.wp_at_zero Go.wp_at_succ

/-- What lies in memory while the search goes on. -/
structure NS (w : World) (b1 o1 c1 : Nat) (C : List LIns) (come : List Bool) (way : List Nat) (v : Value) (wr : World) : Prop where
  bel : Below w.heap.size w wr
  p1 : wr.cell? ⟨w.heap.size, 1, none⟩ = some (.slice (some ⟨b1, o1, none⟩) C.length c1)
  cm : Row wr (w.heap.size + 1) 4 (come.map Value.bool)
  own : wr.ownsRow (w.heap.size + 2) 3 1 v way.length (way.map natV)

section
variable {w : World} {b1 o1 c1 : Nat} {C : List LIns} {come : List Bool} {way : List Nat} {v : Value} {wr w1 : World}

theorem NS.below (h : NS w b1 o1 c1 C come way v wr) (hb : Below wr.heap.size wr w1) : NS w b1 o1 c1 C come way v w1 :=
  ⟨step_below hb h.bel, step_cell hb h.p1, h.cm.below hb, World.ownsRow.kept h.own ⟨hb.os, hb.tape, hb.output, hb.size, fun j hj _ => hb.block j hj⟩ (row := none) (by cases v.ownBlock <;> simp)⟩
theorem NS.ownNe (h : NS w b1 o1 c1 C come way v wr) {b : Nat} (hb : b < w.heap.size + 2) : v.ownBlock ≠ some b := fun e => by have := (World.ownsRow.lt h.own _ e).1; omega
theorem NS.form (h : NS w b1 o1 c1 C come way v wr) (hn : 0 < way.length) : ∃ g cap, v = .slice (some ⟨g, 0, none⟩) way.length cap ∧ w.heap.size + 2 ≤ g ∧ g < wr.heap.size ∧ ∀ j, j < way.length → wr.cell? ⟨g, j, none⟩ = some (.int .i64 (way.getD j 0)) := by
  obtain ⟨g, cap, rfl, hbg, hlt⟩ := h.own.form hn
  refine ⟨g, cap, rfl, hbg, hlt, fun j hj => ?_⟩
  rw [World.ownsRow.cellAt h.own j (by omega)]
  simp [List.getD, hj, natV]
theorem NS.setCome (h : NS w b1 o1 c1 C come way v wr) (y : Nat) : NS w b1 o1 c1 C (come.set y true) way v (wr.setCell ⟨w.heap.size + 1, y, none⟩ (.bool true)) :=
  ⟨h.bel.setCell (by simp) _, cell_other h.p1 (by simp), by have := h.cm.set y (.bool true); simpa [List.map_set] using this, ownsRow_setCell_other h.own (h.ownNe (by dsimp only; omega)) _⟩
theorem NS.push (h : NS w b1 o1 c1 C come way v wr) {y g cap : Nat} (hz : w.heap.size + 2 ≤ wr.heap.size)
    (hown : w1.ownsRow (w.heap.size + 2) 3 1 (.slice (some ⟨g, 0, none⟩) (way.length + 1) cap) (way.length + 1) (way.map natV ++ [.int .i64 y])) (hgrow : wr.grownBy w1 v.ownBlock) :
    NS w b1 o1 c1 C come (way ++ [y]) (.slice (some ⟨g, 0, none⟩) (way.length + 1) cap) w1 :=
  ⟨h.bel.grown hgrow (by omega) (fun j hj => by have := (World.ownsRow.lt h.own _ hj).1; omega), by rw [hgrow.cell_far _ (by dsimp only; omega) (Ne.symm (h.ownNe (by dsimp only; omega)))]; exact h.p1, h.cm.grown hgrow (Ne.symm (h.ownNe (by omega))), by simpa [natV] using hown⟩
end

/-- The answer. -/
def NeedAns (C : List LIns) (t : Int) (s : Nat) (e : Ending) : Prop := ∃ b, e = .returned (.bool b) ∧ (b = true ↔ Need C t s)

theorem ns_start (w : World) (b0 o0 c0 b1 o1 c1 : Nat) (nB : Nat) (C : List LIns) (s : Nat) :
    NS w b1 o1 c1 C ((List.replicate C.length false).set s true) [s] (.slice (some ⟨w.heap.size + 1 + 1, 0, none⟩) 1 1)
      (((w.alloc (.cells #[.slice (some ⟨b0, o0, none⟩) nB c0, .slice (some ⟨b1, o1, none⟩) C.length c1] 25)).alloc (.cells ((madeCells #[.bool false] C.length).setIfInBounds s (.bool true)) 4)).alloc (.cells #[.int .i64 s] 3)) := by
  have e : (((List.replicate C.length false).map Value.bool).toArray).setIfInBounds s (.bool true) = (((List.replicate C.length false).set s true).map Value.bool).toArray := by rw [List.setIfInBounds_toArray, List.map_set]
  rw [made_bool, e]
  refine ⟨(((Below.refl _ _).alloc (Nat.le_refl _) _).alloc (by simp) _).alloc (by simp; omega) _, by simp [go_sem], ?_, ?_⟩
  · have := (Row.new (w.alloc (.cells #[.slice (some ⟨b0, o0, none⟩) nB c0, .slice (some ⟨b1, o1, none⟩) C.length c1] 25)) 4 (((List.replicate C.length false).set s true).map Value.bool)).alloc (.cells #[.int .i64 s] 3)
    simpa using this
  · refine ⟨by simp, Or.inr ⟨w.heap.size + 2, 1, #[.int .i64 s], rfl, Nat.le_refl _, ?_, by simp, by unfold maxLen; omega, by simp, by simp [natV]⟩⟩
    have := heap_alloc_new ((w.alloc (.cells #[.slice (some ⟨b0, o0, none⟩) nB c0, .slice (some ⟨b1, o1, none⟩) C.length c1] 25)).alloc (.cells (((List.replicate C.length false).set s true).map Value.bool).toArray 4)) (.cells #[.int .i64 s] 3)
    simpa using this

set_option maxRecDepth 100000 in
set_option maxHeartbeats 4000000 in
theorem needed4 (b0 o0 c0 b1 o1 c1 : Nat) (B : List Bool) (C : List LIns) (s : Nat) (t : Int) (w : World) (hC : C.length ≤ 40) (h : Held w b0 o0 b1 o1 B C) (hok : ∀ k, k < C.length → InsOk B.length C.length (C.getD k .zero)) (hs : s < C.length) :
    Calls Try.prog 71 #[progV b0 o0 B.length c0 b1 o1 C.length c1, .int .i64 s, .int .i64 t] w fun e w' => NeedAns C t s e ∧ Below w.heap.size w w' := by
  have HOK : Hid _ := hok
  have HH : Hid (Held w b0 o0 b1 o1 B C) := h
  have hmk := fun wx => run_make_row' (P := Try.prog) 22 4 (.bool false) 1 Try.underlying22 infBool rfl .i64 .i64 C.length (by omega) (by omega) wx
  have y0 : (s : Int) < (C.length : Int) := by omega
  have y1 : (0 : Int) ≤ (s : Int) := by omega
  have y2 : (C.length : Int) ≤ 40 := by omega
  have hb1 := h.lt1
  have hmc : (madeCells #[Value.bool false] C.length)[s]? = some (.bool false) := by rw [made_bool]; simp [hs]
  clear hok h
  unfold progV
  go_enter Try.func71, Try.ntmps71
  go_wp2
  rw [show decide (C.length ≤ s) = false by simp; omega]
  go_loopw [8, 9] (fun v kv wr => ∃ (k : Nat) (come : List Bool) (way : List Nat) (v0 : Value), v0 = v ∧ kv = .int .i64 k ∧ k ≤ way.length ∧ NS w b1 o1 c1 C come way v wr ∧ Srch C t s come way k) (fun _ kv _ => C.length - (intOf kv).toNat)
  case atStart => exact ⟨0, _, [s], _, rfl, rfl, by simp, ns_start w b0 o0 c0 b1 o1 c1 B.length C s, srch_start C t s hs⟩
  case round =>
    obtain ⟨k, come, way, v, rfl, rfl, hk, hns, hsr⟩ := hrel
    have HNS : Hid (NS w b1 o1 c1 C come way v wr) := hns
    have HSR : Hid (Srch C t s come way k) := hsr
    have hwl := hsr.len
    have hwp : 0 < way.length := List.length_pos_of_mem hsr.st
    obtain ⟨g, cap, rfl, hg1, hg2, hgc⟩ := hns.form hwp
    have HGC : Hid (∀ j, j < way.length → wr.cell? ⟨g, j, none⟩ = some (.int .i64 (way.getD j 0))) := hgc
    have z1 : (way.length : Int) ≤ 40 := by omega
    by_cases hlt : k < way.length
    case neg =>
      have e1 : ¬ (k : Int) < (way.length : Int) := by omega
      clear hns hsr hgc
      go_wp2
      go_ret
      exact ⟨⟨false, rfl, by simp; exact HSR.out.none (by omega)⟩, HNS.out.bel⟩
    have hxm : way.getD k 0 ∈ way := by simp [List.getD, hlt]
    have hxl := hsr.inb _ hxm
    obtain ⟨x, hx⟩ : ∃ x, x = way.getD k 0 := ⟨_, rfl⟩
    have HX : Hid (way.getD k 0 = x) := hx.symm
    have hgk := hgc k hlt
    rw [← hx] at hxl hgk
    obtain ⟨d0, d1, d2, d3, d4, d5⟩ := (HH.out.later hns.bel).code x hxl
    obtain ⟨i, hi⟩ : ∃ i, i = C.getD x .zero := ⟨_, rfl⟩
    rw [← hi] at d0 d1 d2 d3 d4 d5
    have HI : Hid (C.getD x .zero = i) := hi.symm
    have p1 := hns.p1
    have e1 : (k : Int) < (way.length : Int) := by omega
    have e0 : (0 : Int) ≤ (k : Int) := by omega
    have f1 : (x : Int) < (C.length : Int) := by omega
    have f0 : (0 : Int) ≤ (x : Int) := by omega
    have hsz := hns.bel.size
    have hcz := hns.cm.lt
    have hb1' : b1 < wr.heap.size := by omega
    have ne1 : ¬ wr.heap.size = b1 := by omega
    have ne2 : ¬ wr.heap.size = w.heap.size := by omega
    have ne3 : ¬ wr.heap.size = g := by omega
    clear hns hsr hgc hx hi hxm
    go_wp2
    go_region_held3 (fun w' => w'.cell? ⟨w.heap.size, 1, none⟩ = some (.slice (some ⟨b1, o1, none⟩) C.length c1) ∧ w'.cell? ⟨g, k, none⟩ = some (.int .i64 x) ∧ w'.cell? ⟨b1, o1 + x * 6, none⟩ = some (.int .i64 i.op) ∧ w'.cell? ⟨b1, o1 + x * 6 + 1, none⟩ = some (.int .i64 i.dest) ∧ w'.cell? ⟨b1, o1 + x * 6 + 2, none⟩ = some (.int .i64 i.a) ∧ w'.cell? ⟨b1, o1 + x * 6 + 3, none⟩ = some (.int .i64 i.b) ∧ w'.cell? ⟨b1, o1 + x * 6 + 4, none⟩ = some (.int .i64 i.c) ∧ w'.cell? ⟨b1, o1 + x * 6 + 5, none⟩ = some (.int .u32 i.n))
      (go_keep)
      (fail)
    rename_i hHeldx
    clear hHeldx d0 d1 d2 d3 d4 d5
    have HN1 : Hid (NS w b1 o1 c1 C come way (.slice (some ⟨g, 0, none⟩) way.length cap) ((wr.alloc (.cells #[.int .i64 i.op, .int .i64 i.dest, .int .i64 i.a, .int .i64 i.b, .int .i64 i.c, .int .u32 i.n] 71)).drew)) := HNS.out.below (((Below.refl _ _).alloc (Nat.le_refl _) _).drew)
    have HR1 : Hid (Row ((wr.alloc (.cells #[.int .i64 i.op, .int .i64 i.dest, .int .i64 i.a, .int .i64 i.b, .int .i64 i.c, .int .u32 i.n] 71)).drew) wr.heap.size 71 [.int .i64 i.op, .int .i64 i.dest, .int .i64 i.a, .int .i64 i.b, .int .i64 i.c, .int .u32 i.n]) := Row.new wr _ _
    rcases (show takesI i t = true ∨ (takesI i t = false ∧ givesB i.op = true ∧ (i.dest == t) = true) ∨ (takesI i t = false ∧ givesB i.op = true ∧ (i.dest == t) = false) ∨ (takesI i t = false ∧ givesB i.op = false) by cases takesI i t <;> cases givesB i.op <;> cases (i.dest == t) <;> simp) with ht | ⟨ht, hg, hd⟩ | ⟨ht, hg, hd⟩ | ⟨ht, hg⟩
    case inl =>
      have HT : Hid (takesI i t = true) := ht
      clear ht
      go_wp2_with (go_at_call 112; refine (takes4 i t _).mono ?_; rw [HT.out]; rintro e w2 ⟨rfl, hb2⟩)
      go_ret
      refine ⟨⟨true, rfl, by simp; exact HSR.out.found hlt (by rw [HX.out, HI.out]; exact HT.out)⟩, step_below hb2 HN1.out.bel⟩
    case inr.inl =>
      have HT : Hid (takesI i t = false) := ht
      have HG : Hid (givesB i.op = true) := hg
      clear ht hg
      go_wp2_with (first
        | (go_at_call 112; refine (takes4 i t _).mono ?_; rw [HT.out]; rintro e w2 ⟨rfl, hb2⟩; have hr2 := HR1.out.below hb2; have i0 : w2.cell? ⟨wr.heap.size, 0, none⟩ = some (.int .i64 i.op) := hr2.cell 0; have i1 : w2.cell? ⟨wr.heap.size, 1, none⟩ = some (.int .i64 i.dest) := hr2.cell 1; clear hr2)
        | (go_at_call 40; refine (gives _ _).mono ?_; rw [HG.out]; rintro e w' ⟨rfl, rfl⟩))
      go_roundw
      case rel => exact ⟨k + 1, come, way, _, rfl, by go_num, by omega, HN1.out.below hb2, HSR.out.next (by rw [HX.out, HI.out]; exact HT.out) (Or.inl (by rw [HX.out, HI.out]; unfold givesT; rw [HG.out, hd]; rfl))⟩
      case measure => simp [intOf]; omega
    all_goals
      have HT : Hid (takesI i t = false) := ht
      have HGT : Hid (givesT i t = false) := by show givesT i t = false; unfold givesT; simp_all
      obtain ⟨gb, hgb⟩ : ∃ gb, gb = givesB i.op := ⟨_, rfl⟩
      have HG : Hid (givesB i.op = gb) := hgb.symm
      rw [hg] at hgb
      subst hgb
      clear ht hg
      go_wp2_with (first
        | (go_at_call 112; refine (takes4 i t _).mono ?_; rw [HT.out]; rintro e w2 ⟨rfl, hb2⟩; have hr2 := HR1.out.below hb2; have i0 : w2.cell? ⟨wr.heap.size, 0, none⟩ = some (.int .i64 i.op) := hr2.cell 0; have i1 : w2.cell? ⟨wr.heap.size, 1, none⟩ = some (.int .i64 i.dest) := hr2.cell 1; have i2 : w2.cell? ⟨wr.heap.size, 2, none⟩ = some (.int .i64 i.a) := hr2.cell 2; have i3 : w2.cell? ⟨wr.heap.size, 3, none⟩ = some (.int .i64 i.b) := hr2.cell 3; have i4 : w2.cell? ⟨wr.heap.size, 4, none⟩ = some (.int .i64 i.c) := hr2.cell 4; have i5 : w2.cell? ⟨wr.heap.size, 5, none⟩ = some (.int .u32 i.n) := hr2.cell 5; have hgk2 : w2.cell? ⟨g, k, none⟩ = some (.int .i64 x) := step_cell hb2 (step_cell (((Below.refl _ _).alloc (Nat.le_refl _) _).drew) hgk); clear hr2)
        | (go_at_call 40; refine (gives _ _).mono ?_; rw [HG.out]; rintro e w' ⟨rfl, rfl⟩))
      go_region_held3 (fun w' => w'.cell? ⟨g, k, none⟩ = some (.int .i64 x) ∧ w'.cell? ⟨wr.heap.size, 0, none⟩ = some (.int .i64 i.op) ∧ w'.cell? ⟨wr.heap.size, 1, none⟩ = some (.int .i64 i.dest) ∧ w'.cell? ⟨wr.heap.size, 2, none⟩ = some (.int .i64 i.a) ∧ w'.cell? ⟨wr.heap.size, 3, none⟩ = some (.int .i64 i.b) ∧ w'.cell? ⟨wr.heap.size, 4, none⟩ = some (.int .i64 i.c) ∧ w'.cell? ⟨wr.heap.size, 5, none⟩ = some (.int .u32 i.n))
        ((go_split_ands; refine ⟨?_, ?_, ?_, ?_, ?_, ?_, ?_⟩ <;> first | exact step_cell hb3 (by assumption) | go_keep))
        ((go_at_call 72; refine (nexts2 i x (by omega) _).mono ?_; rintro e w3 ⟨⟨nv, rfl, hnv⟩, hb3⟩; have HNV : Hid _ := hnv; obtain ⟨nao, ncap, rfl, -⟩ := hnv))
      rename_i hHeldx
      clear hHeldx i0 i1 i2 i3 i4 i5 hgk2
      have HN3 : Hid (NS w b1 o1 c1 C come way (.slice (some ⟨g, 0, none⟩) way.length cap) w3) := (HN1.out.below hb2).below (((Below.refl _ _).drew).trans hb3)
      have hgw2 : g < w'.heap.size := by have := hb2.size; simp [World.drew] at this; omega
      have HNB : Hid (∀ q, q ∈ nextsI i x → 0 ≤ q ∧ q ≤ C.length) := nexts_bd (by have := HOK.out x hxl; rwa [HI.out] at this) hxl
      have hnl : (nextsI i x).length ≤ 2 := nexts_len i x
      have z3 : ((nextsI i x).length : Int) ≤ 2 := by omega
      obtain ⟨N, hN⟩ : ∃ N, N = nextsI i x := ⟨_, rfl⟩
      rw [← hN] at hnl z3 HNB HNV
      have HN : Hid (nextsI i x = N) := hN.symm
      clear hN
      have HW3 : Hid (0 < N.length → ∃ gb, nao = some ⟨gb, 0, none⟩ ∧ w.heap.size + 2 ≤ gb ∧ gb < w3.heap.size ∧ g ≠ gb ∧ ∀ q, q < N.length → w3.cell? ⟨gb, q, none⟩ = some (.int .i64 (N.getD q 0))) := by
        intro h0
        obtain ⟨_, _, he, hh⟩ := HNV.out
        simp at he
        obtain ⟨rfl, rfl⟩ := he
        obtain ⟨gb, e1, e2, e3, e4⟩ := hh h0
        have : w'.drew.heap.size = w'.heap.size := rfl
        exact ⟨gb, e1, by omega, e3, by omega, e4⟩
      clear HNV
      rw [HN.out]
      go_wp2
      go_loopw [8, 12] (fun v jv wr => ∃ (j : Nat) (come : List Bool) (way : List Nat) (v0 : Value), v0 = v ∧ jv = .int .i64 j ∧ j ≤ N.length ∧ NS w b1 o1 c1 C come way v wr ∧ Srch C t s come way k ∧ k < way.length ∧ way.getD k 0 = x ∧ (∀ q, q < j → (N.getD q 0).toNat < C.length → (N.getD q 0).toNat ∈ way) ∧
          (0 < N.length → ∃ gb, nao = some ⟨gb, 0, none⟩ ∧ w.heap.size + 2 ≤ gb ∧ gb < wr.heap.size ∧ v.ownBlock ≠ some gb ∧ ∀ q, q < N.length → wr.cell? ⟨gb, q, none⟩ = some (.int .i64 (N.getD q 0)))) (fun _ jv _ => N.length - (intOf jv).toNat)
      case atStart =>
        refine ⟨0, come, way, _, rfl, rfl, by omega, HN3.out, HSR.out, hlt, HX.out, fun q hq => absurd hq (by omega), fun h0 => ?_⟩
        obtain ⟨gb, e1, e2, e3, e4, e5⟩ := HW3.out h0
        exact ⟨gb, e1, e2, e3, by simp [Value.ownBlock]; exact e4, e5⟩
      case round =>
        obtain ⟨j, come2, way2, v2, rfl, rfl, hj, hns2, hsr2, hk2, hx2, hall2, hnx2⟩ := hrel
        have HNS2 : Hid (NS w b1 o1 c1 C come2 way2 v2 wr) := hns2
        have HSR2 : Hid (Srch C t s come2 way2 k) := hsr2
        have HALL : Hid (∀ q, q < j → (N.getD q 0).toNat < C.length → (N.getD q 0).toNat ∈ way2) := hall2
        have HX2 : Hid (way2.getD k 0 = x) := hx2
        have HNX : Hid (0 < N.length → ∃ gb, nao = some ⟨gb, 0, none⟩ ∧ w.heap.size + 2 ≤ gb ∧ gb < wr.heap.size ∧ v2.ownBlock ≠ some gb ∧ ∀ q, q < N.length → wr.cell? ⟨gb, q, none⟩ = some (.int .i64 (N.getD q 0))) := hnx2
        have hwl2 := hsr2.len
        have hcl := hsr2.clen
        have hmark := hsr2.mark
        have HMARK : Hid (∀ x, x < C.length → (come2.getD x false = true ↔ x ∈ way2)) := hmark
        have p1 := hns2.p1
        have HCM : Hid (Row wr (w.heap.size + 1) 4 (come2.map Value.bool)) := hns2.cm
        have hcz2 := hns2.cm.lt
        have HOW : Hid (wr.ownsRow (w.heap.size + 2) 3 1 v2 way2.length (way2.map natV)) := hns2.own
        clear hns2 hsr2 hall2 hnx2 hx2 hmark
        by_cases hjl : j < N.length
        case neg =>
          have y9 : ¬ (j : Int) < (N.length : Int) := by omega
          go_wp2
          go_roundw
          case rel =>
            refine ⟨k + 1, come2, way2, _, rfl, by go_num, by omega, HNS2.out, HSR2.out.next (by rw [HX2.out, HI.out]; exact HT.out) (Or.inr ?_)⟩
            rw [HX2.out, HI.out]
            unfold nextsN
            rw [HN.out]
            exact nexts_all (P := fun y => y < C.length → y ∈ way2) (fun q hq => HALL.out q (by omega))
          case measure => simp [intOf]; omega
        obtain ⟨gb, rfl, hgb1, hgb2, hgb3, hgbc⟩ := HNX.out (by omega)
        have nj := hgbc j hjl
        have hmem : N.getD j 0 ∈ N := by simp [List.getD, hjl]
        have hyb := HNB.out _ hmem
        obtain ⟨Y, hY⟩ : ∃ Y : Nat, N.getD j 0 = Y := Int.eq_ofNat_of_zero_le hyb.1
        rw [hY] at nj
        have HY : Hid (N.getD j 0 = (Y : Int)) := hY
        have HGBC : Hid (∀ q, q < N.length → wr.cell? ⟨gb, q, none⟩ = some (.int .i64 (N.getD q 0))) := hgbc
        have y8 : (j : Int) < (N.length : Int) := by omega
        have y7 : (0 : Int) ≤ (j : Int) := by omega
        have y6 : (0 : Int) ≤ (Y : Int) := by omega
        clear hgbc hmem hY
        by_cases hYl : Y < C.length
        case neg =>
          have y5 : ¬ (Y : Int) < (C.length : Int) := by omega
          go_wp2
          go_quiet (fail)
          go_wp2
          refine ⟨⟨j + 1, come2, way2, _, rfl, by go_num, by omega, HNS2.out.below (below_drewN (Below.refl _ _) _), HSR2.out, hk2, HX2.out, fun q hq hql => ?_, fun _ => ⟨gb, rfl, hgb1, hgb2, hgb3, fun q hq => HGBC.out q hq⟩⟩, by simp [intOf]; omega⟩
          by_cases hqj : q < j
          · exact HALL.out q hqj hql
          · obtain rfl : q = j := by omega
            rw [HY.out] at hql ⊢
            exact absurd hql (by simp; omega)
        have y5 : (Y : Int) < (C.length : Int) := by omega
        have cc : wr.cell? ⟨w.heap.size + 1, Y, none⟩ = some (.bool (come2.getD Y false)) := by rw [HCM.out.cell]; simp [List.getD, hcl, hYl]
        rcases Bool.eq_false_or_eq_true (come2.getD Y false) with hcy | hcy
        · have HCY : Hid (come2.getD Y false = true) := hcy
          rw [hcy] at cc
          clear hcy
          go_wp2
          go_quiet (fail)
          go_wp2
          refine ⟨⟨j + 1, come2, way2, _, rfl, by go_num, by omega, HNS2.out.below (below_drewN (Below.refl _ _) _), HSR2.out, hk2, HX2.out, fun q hq hql => ?_, fun _ => ⟨gb, rfl, hgb1, hgb2, hgb3, fun q hq => HGBC.out q hq⟩⟩, by simp [intOf]; omega⟩
          by_cases hqj : q < j
          · exact HALL.out q hqj hql
          · obtain rfl : q = j := by omega
            rw [HY.out] at hql ⊢
            exact (HMARK.out Y hYl).1 HCY.out
        · have HCY : Hid (come2.getD Y false = false) := hcy
          rw [hcy] at cc
          have fz := HCM.out.frozen Y
          obtain ⟨t0', hi0, hy0, hy1, hy2⟩ := info_parts infInt
          have hgbne : gb ≠ w.heap.size + 1 := by omega
          clear hcy
          go_wp2
          go_quiet (fail)
          have nj2 : ((wr.drewN nq).setCell ⟨w.heap.size + 1, Y, none⟩ (.bool true)).cell? ⟨gb, j, none⟩ = some (.int .i64 Y) := cell_other nj hgbne
          have HNX2 : Hid (NS w b1 o1 c1 C (come2.set Y true) way2 v2 ((wr.drewN nq).setCell ⟨w.heap.size + 1, Y, none⟩ (.bool true))) := (HNS2.out.below (below_drewN (Below.refl _ _) nq)).setCome Y
          go_wp2_with (at_builtin; refine wpList_append_lies _ rfl _ _ 64 rfl (w.heap.size + 2) 3 t0' (.int .i64 0) 1 8 Try.underlying64 hi0 hy0 hy1 hy2 rfl (by decide) v2 way2.length (way2.map natV) rfl (World.ownsRow.alloc HNX2.out.own _) ⟨wr.heap.size, 0, none⟩ 1 1 [.int .i64 Y] rfl rfl ?c1 ?c2 (by decide) ?c3 ?c4 ?c5 _ rfl ?_)
          case c1 => exact World.news_of_block (cs := #[.int .i64 Y]) (t := 3) (fr := (0, 0)) (by have := heap_alloc_new ((wr.drewN nq).setCell ⟨w.heap.size + 1, Y, none⟩ (.bool true)) (.cells #[.int .i64 Y] 3); simpa using this)
          case c2 => simp [Value.oneCell']
          case c3 => unfold maxLen; omega
          case c4 => omega
          case c5 => simp; omega
          intro g9 cap9 w9 hown hgrow hat hlt9
          have hP := (HNX2.out.below ((Below.refl _ _).alloc (Nat.le_refl _) (.cells #[.int .i64 Y] 3))).push (by simp; omega) hown hgrow
          have hxm2 : x ∈ way2 := by rw [← HX2.out]; simp [List.getD, hk2]
          have hyN : Y ∈ nextsN (C.getD x .zero) x := by
            rw [HI.out]
            unfold nextsN
            rw [HN.out]
            exact List.mem_map.2 ⟨N.getD j 0, by simp [List.getD, hjl], by rw [HY.out]; simp⟩
          have hS := HSR2.out.push (by omega) hxm2 (by rw [HI.out]; exact HGT.out) hyN hYl HCY.out
          have hN9 : ∃ gb', some (⟨gb, 0, none⟩ : Addr) = some ⟨gb', 0, none⟩ ∧ w.heap.size + 2 ≤ gb' ∧ gb' < w9.heap.size ∧ (Value.slice (some ⟨g9, 0, none⟩) (way2.length + 1) cap9).ownBlock ≠ some gb' ∧ ∀ q, q < N.length → w9.cell? ⟨gb', q, none⟩ = some (.int .i64 (N.getD q 0)) := by
            have hz9 : wr.heap.size < w9.heap.size := by have := hgrow.size; simp at this; omega
            refine ⟨gb, rfl, hgb1, by omega, ?_, fun q hq => ?_⟩
            · simp only [Value.ownBlock, ne_eq, Option.some.injEq]
              rcases hat with hat | hat
              · intro e; rw [e] at hat; exact hgb3 hat
              · omega
            · rw [hgrow.cell_far _ (by simp; omega) (Ne.symm hgb3)]
              exact step_cell ((Below.refl _ _).alloc (Nat.le_refl _) _) (cell_other (HGBC.out q hq) hgbne)
          have R : Hid (NS w b1 o1 c1 C (come2.set Y true) (way2 ++ [Y]) (.slice (some ⟨g9, 0, none⟩) (way2.length + 1) cap9) w9) := hP
          have RS : Hid (Srch C t s (come2.set Y true) (way2 ++ [Y]) k) := hS
          have RN : Hid (∃ gb', some (⟨gb, 0, none⟩ : Addr) = some ⟨gb', 0, none⟩ ∧ w.heap.size + 2 ≤ gb' ∧ gb' < w9.heap.size ∧ (Value.slice (some ⟨g9, 0, none⟩) (way2.length + 1) cap9).ownBlock ≠ some gb' ∧ ∀ q, q < N.length → w9.cell? ⟨gb', q, none⟩ = some (.int .i64 (N.getD q 0))) := hN9
          clear hP hS hN9 hown hgrow hat
          go_wp2
          refine ⟨⟨j + 1, come2.set Y true, way2 ++ [Y], _, rfl, by go_num, by omega, R.out, RS.out, by simp; omega, by rw [getD_append_left hk2]; exact HX2.out, fun q hq hql => ?_, fun _ => RN.out⟩, by simp [intOf]; omega⟩
          by_cases hqj : q < j
          · exact List.mem_append.2 (Or.inl (HALL.out q hqj hql))
          · obtain rfl : q = j := by omega
            rw [HY.out]
            simp

end Go.Proofs.Ytcmnmogmdhofcab.form

/- Whether a temporary is needed by the truths found till now (live.isNeeded). -/
namespace Go.Proofs.Ytcmnmogmdhofcab.form
open Go.RowKit
set_option linter.unusedVariables false
attribute [local go_sem ↓] Go.wp_at_zero Go.wp_at_succ

theorem goes_nil {nC pc : Nat} {i : LIns} {P : Nat → Bool} (hb : ∀ x, x ∈ nextsI i pc → 0 ≤ x ∧ x ≤ (nC : Int)) :
    ((nextsN i pc).any fun x => decide (x < nC) && P x) = (goesI nC i pc).any fun x => P x.toNat := by
  unfold nextsN goesI
  rw [Bool.eq_iff_iff]
  simp only [List.any_eq_true, List.mem_map, List.mem_filter, Bool.and_eq_true, decide_eq_true_eq, thereB]
  constructor
  · rintro ⟨x, ⟨y, hy, rfl⟩, hl, hp⟩
    have := hb y hy
    exact ⟨y, ⟨hy, by omega, by omega⟩, hp⟩
  · rintro ⟨y, ⟨hy, h0, h1⟩, hp⟩
    exact ⟨y.toNat, ⟨y, hy, rfl⟩, by omega, hp⟩

theorem goes_there {nC pc : Nat} {i : LIns} {x : Int} (h : x ∈ goesI nC i pc) : 0 ≤ x ∧ x < nC := by
  unfold goesI at h
  have := (List.mem_filter.1 h).2
  unfold thereB at this
  simpa using this

theorem goes_len (nC : Nat) (i : LIns) (pc : Nat) : (goesI nC i pc).length ≤ 2 := Nat.le_trans (List.length_filter_le _ _) (nexts_len i pc)

set_option maxRecDepth 100000 in
set_option maxHeartbeats 1000000 in
theorem isNeeded (g b0 o0 c0 b1 o1 c1 : Nat) (B : List Bool) (C : List LIns) (L : List Bool) (k t : Nat) (w : World) (hB : B.length ≤ 12) (hC : C.length ≤ 40) (h : Held w b0 o0 b1 o1 B C) (hok : ∀ k, k < C.length → InsOk B.length C.length (C.getD k .zero))
    (hkn : ∀ k, k < C.length → knownB (C.getD k .zero).op = true) (hM : MatF g B.length C.length L w) (hk : k < C.length) (ht : t < B.length) :
    Calls Try.prog 138 #[progV b0 o0 B.length c0 b1 o1 C.length c1, .slice (some ⟨g, 0, none⟩) C.length C.length, .int .i64 k, .int .i64 t] w fun e w' => e = .returned (.bool (stepB B.length C L k t)) ∧ Below w.heap.size w w' := by
  obtain ⟨d0, d1, d2, d3, d4, d5⟩ := h.code k hk
  have hst : stepB B.length C L k t = ((isT (kd (C.getD k .zero).op 1) && ((C.getD k .zero).a == (t : Int)) || isT (kd (C.getD k .zero).op 2) && ((C.getD k .zero).b == (t : Int))) || (!(isT (kd (C.getD k .zero).op 0) && ((C.getD k .zero).dest == (t : Int))) && (goesI C.length (C.getD k .zero) k).any fun x => getF B.length L x.toNat t)) := by
    unfold stepB
    rw [isT_takes (hkn k hk), goes_nil (nexts_bd (hok k hk) hk), isT_gives (hkn k hk)]
    rfl
  have HGO : Hid (∀ wx : World, Below w.heap.size w wx → Calls Try.prog 108 #[progV b0 o0 B.length c0 b1 o1 C.length c1, .int .i64 k] wx fun e w' => (∃ v, e = .returned v ∧ IntsAt wx.heap.size w' v (goesI C.length (C.getD k .zero) k)) ∧ Below wx.heap.size wx w') := fun wx hb => goesOn b0 o0 c0 b1 o1 c1 B C k wx hC (h.later hb) hk
  have HTH : Hid (∀ x, x ∈ goesI C.length (C.getD k .zero) k → 0 ≤ x ∧ x < C.length) := fun x hx => goes_there hx
  have hgl := goes_len C.length (C.getD k .zero) k
  obtain ⟨i, hi⟩ : ∃ i, i = C.getD k .zero := ⟨_, rfl⟩
  rw [← hi] at d0 d1 d2 d3 d4 d5 hst HGO HTH hgl
  clear hi
  rw [hst]
  obtain ⟨N, hN⟩ : ∃ N, N = goesI C.length i k := ⟨_, rfl⟩
  rw [← hN] at HGO HTH hgl ⊢
  clear hN hst
  have hlt1 := h.lt1
  have HM : Hid (MatF g B.length C.length L w) := hM
  have y0 : (0 : Int) ≤ (k : Int) := by omega
  have y1 : (k : Int) < (C.length : Int) := by omega
  have y2 : (C.length : Int) ≤ 40 := by omega
  have x0 : (0 : Int) ≤ (t : Int) := by omega
  have x1 : (t : Int) < (B.length : Int) := by omega
  have x2 : (B.length : Int) ≤ 12 := by omega
  clear hM hok hkn h
  obtain ⟨P0, hP0⟩ : ∃ x, x = isT (kd i.op 0) := ⟨_, rfl⟩
  obtain ⟨P1, hP1⟩ : ∃ x, x = isT (kd i.op 1) := ⟨_, rfl⟩
  obtain ⟨P2, hP2⟩ : ∃ x, x = isT (kd i.op 2) := ⟨_, rfl⟩
  have HH : Hid (∀ wx : World, Calls Try.prog 107 #[.int .i64 i.op] wx fun e w' => e = .returned (.tuple #[.bool P0, .bool P1, .bool P2]) ∧ Below wx.heap.size wx w') := fun wx => by rw [hP0, hP1, hP2]; exact has i.op wx
  rw [← hP0, ← hP1, ← hP2]
  clear hP0 hP1 hP2
  obtain ⟨q0, hq0⟩ : ∃ x, x = (i.dest == (t : Int)) := ⟨_, rfl⟩
  obtain ⟨q1, hq1⟩ : ∃ x, x = (i.a == (t : Int)) := ⟨_, rfl⟩
  obtain ⟨q2, hq2⟩ : ∃ x, x = (i.b == (t : Int)) := ⟨_, rfl⟩
  have e0 := hq0.symm
  have e1 := hq1.symm
  have e2 := hq2.symm
  rw [e0, e1, e2]
  clear hq0 hq1 hq2
  unfold progV
  have s1 : (P1 = true ∧ q1 = true) ∨ P1 = false ∨ (P1 = true ∧ q1 = false) := by cases P1 <;> cases q1 <;> simp
  have s2 : (P2 = true ∧ q2 = true) ∨ P2 = false ∨ (P2 = true ∧ q2 = false) := by cases P2 <;> cases q2 <;> simp
  have s0 : (P0 = true ∧ q0 = true) ∨ P0 = false ∨ (P0 = true ∧ q0 = false) := by cases P0 <;> cases q0 <;> simp
  rcases s1 with ⟨rfl, rfl⟩ | s1
  · simp only [Bool.true_and, Bool.true_or]
    go_enter Try.func138, Try.ntmps138
    go_wp2_with (go_at_call 107; refine (HH.out _).mono ?_; rintro e w1 ⟨rfl, hb1⟩; have HB1 : Hid (Below w.heap.size w w1) := ((((Below.refl _ _).alloc (Nat.le_refl _) _).alloc (by simp) _).trans (hb1.mono (by simp; omega))); have f2 : w1.cell? ⟨w.heap.size + 1, 2, none⟩ = some (.int .i64 i.a) := step_cell hb1 (by simp [go_sem]))
    go_ret
    exact ⟨rfl, HB1.out⟩
  rcases s2 with ⟨rfl, rfl⟩ | s2
  · simp only [Bool.true_and, Bool.or_true, Bool.true_or]
    rcases s1 with rfl | ⟨rfl, rfl⟩
    all_goals
      go_enter Try.func138, Try.ntmps138
      go_wp2_with (go_at_call 107; refine (HH.out _).mono ?_; rintro e w1 ⟨rfl, hb1⟩; have HB1 : Hid (Below w.heap.size w w1) := ((((Below.refl _ _).alloc (Nat.le_refl _) _).alloc (by simp) _).trans (hb1.mono (by simp; omega))); have f2 : w1.cell? ⟨w.heap.size + 1, 2, none⟩ = some (.int .i64 i.a) := step_cell hb1 (by simp [go_sem]); have f3 : w1.cell? ⟨w.heap.size + 1, 3, none⟩ = some (.int .i64 i.b) := step_cell hb1 (by simp [go_sem]))
      go_ret
      exact ⟨rfl, HB1.out⟩
  have hno : (P1 && q1 || P2 && q2) = false := by rcases s1 with rfl | ⟨rfl, rfl⟩ <;> rcases s2 with rfl | ⟨rfl, rfl⟩ <;> simp
  rw [hno]
  rcases s0 with ⟨rfl, rfl⟩ | s0
  · simp only [Bool.true_and, Bool.not_true, Bool.false_and, Bool.or_self]
    rcases s1 with rfl | ⟨rfl, rfl⟩ <;> rcases s2 with rfl | ⟨rfl, rfl⟩
    all_goals
      go_enter Try.func138, Try.ntmps138
      go_wp2_with (go_at_call 107; refine (HH.out _).mono ?_; rintro e w1 ⟨rfl, hb1⟩; have HB1 : Hid (Below w.heap.size w w1) := ((((Below.refl _ _).alloc (Nat.le_refl _) _).alloc (by simp) _).trans (hb1.mono (by simp; omega))); have f1 : w1.cell? ⟨w.heap.size + 1, 1, none⟩ = some (.int .i64 i.dest) := step_cell hb1 (by simp [go_sem]); have f2 : w1.cell? ⟨w.heap.size + 1, 2, none⟩ = some (.int .i64 i.a) := step_cell hb1 (by simp [go_sem]); have f3 : w1.cell? ⟨w.heap.size + 1, 3, none⟩ = some (.int .i64 i.b) := step_cell hb1 (by simp [go_sem]))
      go_ret
      exact ⟨rfl, HB1.out⟩
  have hno0 : (P0 && q0) = false := by rcases s0 with rfl | ⟨rfl, rfl⟩ <;> simp
  rw [hno0]
  simp only [Bool.not_false, Bool.true_and, Bool.false_or]
  rcases s1 with rfl | ⟨rfl, rfl⟩ <;> rcases s2 with rfl | ⟨rfl, rfl⟩ <;> rcases s0 with rfl | ⟨rfl, rfl⟩
  all_goals
    go_enter Try.func138, Try.ntmps138
    go_wp2_with (first
      | (go_at_call 107; refine (HH.out _).mono ?_; rintro e w1 ⟨rfl, hb1⟩; have HB1 : Hid (Below w.heap.size w w1) := ((((Below.refl _ _).alloc (Nat.le_refl _) _).alloc (by simp) _).trans (hb1.mono (by simp; omega))); have f1 : w1.cell? ⟨w.heap.size + 1, 1, none⟩ = some (.int .i64 i.dest) := step_cell hb1 (by simp [go_sem]); have f2 : w1.cell? ⟨w.heap.size + 1, 2, none⟩ = some (.int .i64 i.a) := step_cell hb1 (by simp [go_sem]); have f3 : w1.cell? ⟨w.heap.size + 1, 3, none⟩ = some (.int .i64 i.b) := step_cell hb1 (by simp [go_sem]); have p0 : w1.cell? ⟨w.heap.size, 0, none⟩ = some (.slice (some ⟨b0, o0, none⟩) B.length c0) := step_cell hb1 (by simp [go_sem]); have p1 : w1.cell? ⟨w.heap.size, 1, none⟩ = some (.slice (some ⟨b1, o1, none⟩) C.length c1) := step_cell hb1 (by simp [go_sem]); clear hb1)
      | (go_at_call 108; refine (HGO.out _ HB1.out).mono ?_; rintro e w3 ⟨⟨nv, rfl, hnv⟩, hb3⟩; have HNV : Hid _ := hnv; obtain ⟨nao, ncap, rfl, -⟩ := hnv; have HB3 : Hid (Below w.heap.size w w3) := step_below hb3 HB1.out; clear hb3))
    have HW3 : Hid (0 < N.length → ∃ gb, nao = some ⟨gb, 0, none⟩ ∧ gb < w3.heap.size ∧ ∀ q, q < N.length → w3.cell? ⟨gb, q, none⟩ = some (.int .i64 (N.getD q 0))) := by
      intro h0
      obtain ⟨_, _, he, hh⟩ := HNV.out
      simp at he
      obtain ⟨rfl, rfl⟩ := he
      obtain ⟨gb, e1, e2, e3, e4⟩ := hh h0
      exact ⟨gb, e1, e3, e4⟩
    have z3 : (N.length : Int) ≤ 2 := by omega
    have HM3 : Hid (MatF g B.length C.length L w3) := HM.out.below HB3.out
    clear HNV HB1 p0 p1 f1 f2 f3 d0 d1 d2 d3 d4 d5
    go_loopw [54] (fun jv wr => ∃ (j : Nat), jv = .int .i64 j ∧ j ≤ N.length ∧ wr = w3 ∧ ∀ q, q < j → getF B.length L (N.getD q 0).toNat t = false) (fun jv _ => N.length - (intOf jv).toNat)
    case atStart => exact ⟨0, rfl, by omega, rfl, fun q hq => absurd hq (by omega)⟩
    case round =>
      obtain ⟨j, rfl, hj, hw, hall⟩ := hrel
      obtain rfl := hw.symm
      have HALL : Hid (∀ q, q < j → getF B.length L (N.getD q 0).toNat t = false) := hall
      clear hall
      by_cases hjl : j < N.length
      case neg =>
        have y9 : ¬ (j : Int) < (N.length : Int) := by omega
        go_wp2
        go_ret
        refine ⟨ret_bool ?_, HB3.out⟩
        obtain rfl : j = N.length := by omega
        rw [eq_comm, List.any_eq_false]
        intro x hx
        obtain ⟨q, hq, rfl⟩ := List.getElem_of_mem hx
        have := HALL.out q hq
        rw [show N.getD q 0 = N[q] by simp [List.getD, hq]] at this
        simp [this]
      obtain ⟨gb, rfl, hgb2, hgbc⟩ := HW3.out (by omega)
      have nj := hgbc j hjl
      have hmem : N.getD j 0 ∈ N := by simp [List.getD, hjl]
      have hyb := HTH.out _ hmem
      obtain ⟨Y, hY⟩ : ∃ Y : Nat, N.getD j 0 = Y := Int.eq_ofNat_of_zero_le hyb.1
      rw [hY] at nj hmem hyb
      have HY : Hid (N.getD j 0 = (Y : Int)) := hY
      have HME : Hid ((Y : Int) ∈ N) := hmem
      clear hgbc hY hmem
      have m1 := HM3.out.top Y (by omega)
      have m2 := HM3.out.cell (k := Y) (t := t) (by omega) ht
      obtain ⟨u, hu⟩ : ∃ u, u = getF B.length L Y t := ⟨_, rfl⟩
      rw [← hu] at m2
      have HU : Hid (getF B.length L Y t = u) := hu.symm
      clear hu
      have y8 : (j : Int) < (N.length : Int) := by omega
      have y7 : (0 : Int) ≤ (j : Int) := by omega
      have y6 : (0 : Int) ≤ (Y : Int) := by omega
      have y5 : (Y : Int) < (C.length : Int) := by omega
      cases u with
      | true =>
        go_wp2
        go_ret
        refine ⟨ret_bool ?_, HB3.out⟩
        rw [eq_comm, List.any_eq_true]
        exact ⟨(Y : Int), HME.out, by simpa using HU.out⟩
      | false =>
        go_wp2
        refine ⟨⟨j + 1, by go_num, by omega, trivial, fun q hq => ?_⟩, by simp [intOf]; omega⟩
        by_cases hqj : q < j
        · exact HALL.out q hqj
        · obtain rfl : q = j := by omega
          rw [HY.out]
          simpa using HU.out

end Go.Proofs.Ytcmnmogmdhofcab.form

/- What is added by the truths found till now, from the last instruction to the first (live.spread). -/
namespace Go.Proofs.Ytcmnmogmdhofcab.form
open Go.RowKit
set_option linter.unusedVariables false
attribute [local go_sem ↓] Go.wp_at_zero Go.wp_at_succ

/-- It stays where what is below some block has not turned. -/
theorem Held.under {w w' : World} {b0 o0 b1 o1 g : Nat} {B : List Bool} {C : List LIns} (h : Held w b0 o0 b1 o1 B C) (h0 : b0 < g) (h1 : b1 < g) (hb : Below g w w') : Held w' b0 o0 b1 o1 B C := by
  refine ⟨Nat.lt_of_lt_of_le h.lt0 hb.size, Nat.lt_of_lt_of_le h.lt1 hb.size, fun i hi => ?_, fun i hi => ?_⟩
  · rw [hb.cell (p := ⟨b0, o0 + i, none⟩) h0]; exact h.wide i hi
  · obtain ⟨c0, c1, c2, c3, c4, c5⟩ := h.code i hi
    refine ⟨?_, ?_, ?_, ?_, ?_, ?_⟩
    · rw [hb.cell (p := ⟨b1, _, none⟩) h1]; exact c0
    · rw [hb.cell (p := ⟨b1, _, none⟩) h1]; exact c1
    · rw [hb.cell (p := ⟨b1, _, none⟩) h1]; exact c2
    · rw [hb.cell (p := ⟨b1, _, none⟩) h1]; exact c3
    · rw [hb.cell (p := ⟨b1, _, none⟩) h1]; exact c4
    · rw [hb.cell (p := ⟨b1, _, none⟩) h1]; exact c5

/-- What has been added till now to what was there, where all behind some place has been looked at. -/
structure SpS (nB : Nat) (C : List LIns) (L0 : List Bool) (seen : Nat → Nat → Prop) (m : Bool) (L : List Bool) : Prop where
  len : L.length = C.length * nB
  snd : Snd nB C L
  yes : m = true → L0.count true < L.count true
  no : m = false → L = L0 ∧ ∀ k t, k < C.length → t < nB → seen k t → getF nB L k t = false → stepB nB C L k t = false

theorem SpS.add {nB : Nat} {C : List LIns} {L0 L : List Bool} {seen seen' : Nat → Nat → Prop} {m : Bool} {k t : Nat} (h : SpS nB C L0 seen m L) (hk : k < C.length) (ht : t < nB) (hg : getF nB L k t = false) (hs : stepB nB C L k t = true) :
    SpS nB C L0 seen' true (L.set (k * nB + t) true) := by
  have hc : (L.set (k * nB + t) true).count true = L.count true + 1 := count_mark L _ (by rw [h.len]; exact flat_lt hk ht) hg
  refine ⟨by simp [h.len], snd_set h.snd h.len hk ht hs, fun _ => ?_, fun e => absurd e (by simp)⟩
  cases m with
  | true => have := h.yes rfl; omega
  | false => rw [hc, (h.no rfl).1]; omega

theorem SpS.pass {nB : Nat} {C : List LIns} {L0 L : List Bool} {seen seen' : Nat → Nat → Prop} {m : Bool} {k t : Nat} (h : SpS nB C L0 seen m L) (hs : getF nB L k t = true ∨ stepB nB C L k t = false) (hseen : ∀ k' t', t' < nB → seen' k' t' → seen k' t' ∨ (k' = k ∧ t' = t)) :
    SpS nB C L0 seen' m L := by
  refine ⟨h.len, h.snd, h.yes, fun e => ⟨(h.no e).1, fun k' t' hk' ht' hs' hg => ?_⟩⟩
  rcases hseen k' t' ht' hs' with h1 | ⟨rfl, rfl⟩
  · exact (h.no e).2 k' t' hk' ht' h1 hg
  · rcases hs with hs | hs
    · rw [hs] at hg; exact absurd hg (by simp)
    · exact hs

/-- What lies in memory meanwhile. -/
structure SpM (w : World) (g b0 o0 c0 b1 o1 c1 : Nat) (B : List Bool) (C : List LIns) (L : List Bool) (wr : World) : Prop where
  bel : Below g w wr
  p0 : wr.cell? ⟨w.heap.size, 0, none⟩ = some (.slice (some ⟨b0, o0, none⟩) B.length c0)
  p1 : wr.cell? ⟨w.heap.size, 1, none⟩ = some (.slice (some ⟨b1, o1, none⟩) C.length c1)
  mat : MatF g B.length C.length L wr

section
variable {w wr w1 : World} {g b0 o0 c0 b1 o1 c1 : Nat} {B : List Bool} {C : List LIns} {L : List Bool}
theorem SpM.below (hg : g ≤ w.heap.size) (h : SpM w g b0 o0 c0 b1 o1 c1 B C L wr) (hb : Below wr.heap.size wr w1) : SpM w g b0 o0 c0 b1 o1 c1 B C L w1 :=
  ⟨h.bel.trans (hb.mono (Nat.le_trans hg h.bel.size)), step_cell hb h.p0, step_cell hb h.p1, h.mat.below hb⟩
theorem SpM.set (hg : g + C.length < w.heap.size) (h : SpM w g b0 o0 c0 b1 o1 c1 B C L wr) {k t : Nat} (hk : k < C.length) (ht : t < B.length) : SpM w g b0 o0 c0 b1 o1 c1 B C (L.set (k * B.length + t) true) (wr.setCell ⟨g + 1 + k, t, none⟩ (.bool true)) :=
  ⟨h.bel.setCell (by show g ≤ g + 1 + k; omega) _, cell_other h.p0 (by show w.heap.size ≠ g + 1 + k; omega), cell_other h.p1 (by show w.heap.size ≠ g + 1 + k; omega), h.mat.set hk ht⟩
end

/-- The answer. -/
def SpreadAns (nB : Nat) (C : List LIns) (g : Nat) (L0 : List Bool) (e : Ending) (w : World) : Prop :=
  ∃ m L, e = .returned (.bool m) ∧ MatF g nB C.length L w ∧ SpS nB C L0 (fun _ _ => True) m L

set_option maxRecDepth 100000 in
set_option maxHeartbeats 1000000 in
theorem spread (g b0 o0 c0 b1 o1 c1 : Nat) (B : List Bool) (C : List LIns) (L0 : List Bool) (w : World) (hB : B.length ≤ 12) (hC : C.length ≤ 40) (hg0 : b0 < g) (hg1 : b1 < g) (h : Held w b0 o0 b1 o1 B C) (hok : ∀ k, k < C.length → InsOk B.length C.length (C.getD k .zero))
    (hkn : ∀ k, k < C.length → knownB (C.getD k .zero).op = true) (hM : MatF g B.length C.length L0 w) (hS : Snd B.length C L0) (hC1 : 1 ≤ C.length) :
    Calls Try.prog 106 #[progV b0 o0 B.length c0 b1 o1 C.length c1, .slice (some ⟨g, 0, none⟩) C.length C.length] w fun e w' => SpreadAns B.length C g L0 e w' ∧ Below g w w' := by
  have hgl : g + C.length < w.heap.size := by have := (hM.row (C.length - 1) (by omega)).lt; omega
  have HH : Hid (∀ wx : World, Below g w wx → Held wx b0 o0 b1 o1 B C) := fun wx hb => h.under hg0 hg1 hb
  have HIS : Hid (∀ (wx : World) (L : List Bool) (k t : Nat), Held wx b0 o0 b1 o1 B C → MatF g B.length C.length L wx → k < C.length → t < B.length → Calls Try.prog 138 #[progV b0 o0 B.length c0 b1 o1 C.length c1, .slice (some ⟨g, 0, none⟩) C.length C.length, .int .i64 k, .int .i64 t] wx fun e w' => e = .returned (.bool (stepB B.length C L k t)) ∧ Below wx.heap.size wx w') :=
    fun wx L k t hh hm hk ht => isNeeded g b0 o0 c0 b1 o1 c1 B C L k t wx hB hC hh hok hkn hm hk ht
  have HM0 : Hid (MatF g B.length C.length L0 w) := hM
  have HS0 : Hid (Snd B.length C L0) := hS
  have y2 : (C.length : Int) ≤ 40 := by omega
  have y3 : (B.length : Int) ≤ 12 := by omega
  have y1 : (1 : Int) ≤ (C.length : Int) := by omega
  clear h hok hkn hM hS
  unfold progV
  go_enter Try.func106, Try.ntmps106
  go_wp2
  go_loopw [5, 6] (fun mv kv wr => ∃ (m : Bool) (k : Nat) (L : List Bool), mv = .bool m ∧ kv = .int .i64 ((k : Int) - 1) ∧ k ≤ C.length ∧ SpM w g b0 o0 c0 b1 o1 c1 B C L wr ∧ SpS B.length C L0 (fun k' _ => k ≤ k') m L) (fun _ kv _ => (intOf kv + 1).toNat)
  case atStart =>
    refine ⟨false, C.length, L0, rfl, ?_, by omega, ⟨(Below.refl _ _).alloc (by omega) _, by simp [go_sem], by simp [go_sem], HM0.out.below ((Below.refl _ _).alloc (Nat.le_refl _) _)⟩, HM0.out.len, HS0.out, fun e => absurd e (by simp), fun _ => ⟨rfl, fun k t hk ht hle => absurd hle (by omega)⟩⟩
    go_num
  case round =>
    obtain ⟨m, k, L, rfl, rfl, hk, hmem, hsp⟩ := hrel
    have HSM : Hid (SpM w g b0 o0 c0 b1 o1 c1 B C L wr) := hmem
    have HSP : Hid (SpS B.length C L0 (fun k' _ => k ≤ k') m L) := hsp
    have p0 := hmem.p0
    have p1 := hmem.p1
    clear hmem hsp
    by_cases hk0 : k = 0
    · subst hk0
      go_wp2
      go_ret
      refine ⟨⟨m, L, rfl, HSM.out.mat, HSP.out.len, HSP.out.snd, HSP.out.yes, fun e => ⟨(HSP.out.no e).1, fun k t hk ht _ hg => (HSP.out.no e).2 k t hk ht (Nat.zero_le _) hg⟩⟩, HSM.out.bel⟩
    obtain ⟨a, rfl⟩ : ∃ a, k = a + 1 := ⟨k - 1, by omega⟩
    have ea : (((a + 1 : Nat) : Int) - 1) = (a : Int) := by omega
    rw [ea]
    have y5 : (0 : Int) ≤ (a : Int) := by omega
    have y6 : (a : Int) < (C.length : Int) := by omega
    have hac : a < C.length := by omega
    have HSP1 : Hid (SpS B.length C L0 (fun k' t' => a + 1 ≤ k' ∨ (k' = a ∧ t' < 0)) m L) := ⟨HSP.out.len, HSP.out.snd, HSP.out.yes, fun e => ⟨(HSP.out.no e).1, fun k' t' hk' ht' hs hg => (HSP.out.no e).2 k' t' hk' ht' (by rcases hs with hs | hs <;> omega) hg⟩⟩
    clear HSP
    go_wp2
    go_loopw [5, 19] (fun mv tv wr2 => ∃ (m : Bool) (t : Nat) (L : List Bool), mv = .bool m ∧ tv = .int .i64 t ∧ t ≤ B.length ∧ SpM w g b0 o0 c0 b1 o1 c1 B C L wr2 ∧ SpS B.length C L0 (fun k' t' => a + 1 ≤ k' ∨ (k' = a ∧ t' < t)) m L) (fun _ tv _ => B.length - (intOf tv).toNat)
    case atStart => exact ⟨m, 0, L, rfl, rfl, by omega, HSM.out, HSP1.out⟩
    case round =>
      clear HSM HSP1 p0 p1
      obtain ⟨m, t, L, rfl, rfl, ht, hmem, hsp⟩ := hrel
      have HSM : Hid (SpM w g b0 o0 c0 b1 o1 c1 B C L wr) := hmem
      have HSP : Hid (SpS B.length C L0 (fun k' t' => a + 1 ≤ k' ∨ (k' = a ∧ t' < t)) m L) := hsp
      have p0 := hmem.p0
      have p1 := hmem.p1
      have m1 := hmem.mat.top a hac
      have HMA : Hid (MatF g B.length C.length L wr) := hmem.mat
      clear hmem hsp
      by_cases htl : t < B.length
      case neg =>
        have y9 : ¬ (t : Int) < (B.length : Int) := by omega
        go_wp2
        go_roundw
        case rel =>
          refine ⟨m, a, L, rfl, rfl, by omega, HSM.out, HSP.out.len, HSP.out.snd, HSP.out.yes, fun e => ⟨(HSP.out.no e).1, fun k' t' hk' ht' hs hg => (HSP.out.no e).2 k' t' hk' ht' (by omega) hg⟩⟩
        case measure => simp [intOf]
      have m2 := HMA.out.cell hac htl
      have fz := (HMA.out.row a hac).frozen t
      obtain ⟨u, hu⟩ : ∃ u, u = getF B.length L a t := ⟨_, rfl⟩
      rw [← hu] at m2
      have HU : Hid (getF B.length L a t = u) := hu.symm
      clear hu
      have y8 : (t : Int) < (B.length : Int) := by omega
      have y7 : (0 : Int) ≤ (t : Int) := by omega
      cases u with
      | true =>
        go_wp2
        exact ⟨⟨m, t + 1, L, rfl, by go_num, by omega, HSM.out, HSP.out.pass (Or.inl HU.out) (fun k' t' _ hs => by omega)⟩, by simp [intOf]; omega⟩
      | false =>
        obtain ⟨s, hs⟩ : ∃ s, s = stepB B.length C L a t := ⟨_, rfl⟩
        have HS : Hid (stepB B.length C L a t = s) := hs.symm
        clear hs
        cases s with
        | true =>
          go_wp2_with (go_at_call 138; refine (HIS.out _ L a t (HH.out _ HSM.out.bel) HMA.out hac htl).mono ?_; rw [HS.out]; rintro e w1 ⟨rfl, hb1⟩; have n1 := step_cell hb1 m1; have n2 := step_cell hb1 m2; have fz1 := ((HMA.out.below hb1).row a hac).frozen t; have HB1 : Hid (Below wr.heap.size wr w1) := hb1; clear hb1)
          refine ⟨⟨true, t + 1, L.set (a * B.length + t) true, rfl, by go_num, by omega, (HSM.out.below (by omega) HB1.out).set hgl hac htl, HSP.out.add hac htl HU.out HS.out⟩, by simp [intOf]; omega⟩
        | false =>
          go_wp2_with (go_at_call 138; refine (HIS.out _ L a t (HH.out _ HSM.out.bel) HMA.out hac htl).mono ?_; rw [HS.out]; rintro e w1 ⟨rfl, hb1⟩; have HB1 : Hid (Below wr.heap.size wr w1) := hb1; clear hb1)
          refine ⟨⟨m, t + 1, L, rfl, by go_num, by omega, HSM.out.below (by omega) HB1.out, HSP.out.pass (Or.inr HS.out) (fun k' t' _ hs => by omega)⟩, by simp [intOf]; omega⟩

end Go.Proofs.Ytcmnmogmdhofcab.form
