/- What the document's functions on places as numbers answer: moves, Small. -/
import Derived.Test.YtepfegfacdbhbabCodeRows
import Derived.Deep.DeepCutAuto
namespace Go.Proofs.Ytepfegfacdbhbab.form
open Go.RowKit
set_option linter.unusedVariables false
attribute [local go_sem ↓] Go.wp_at_zero Go.wp_at_succ

theorem putMove_len (m : LMove) : (putMove m).length = 9 := rfl
theorem putMoves_len (l : List LMove) : (putMoves l).length = 1 + 9 * l.length := by
  unfold putMoves
  simp only [List.length_cons, List.length_flatMap, putMove_len]
  induction l with
  | nil => rfl
  | cons m l ih => simp at ih ⊢; omega
theorem take_flat {α : Type} {f : α → List Int} {l : List α} {k : Nat} {z : α} (hk : k < l.length) : (l.take (k + 1)).flatMap f = (l.take k).flatMap f ++ f (l.getD k z) := by
  rw [List.take_succ_eq_append_getElem hk, List.flatMap_append]
  simp [List.getD, hk]

set_option maxRecDepth 100000 in
set_option maxHeartbeats 1000000 in
theorem moves11 (v : Value) (l : List LMove) (w : World) (h : MovesIs w v l) (hn : ∀ k, k < l.length → 0 ≤ (l.getD k .zero).n ∧ (l.getD k .zero).n < 4294967296) (hl : l.length ≤ 1099511627776) :
    Calls Try.prog 69 #[v] w fun e w' => ∃ u, e = .returned u ∧ RS w w.heap.size (putMoves l) u w' := by
  obtain ⟨ao, cap, rfl, hl63, hc⟩ := h
  have HC : Hid _ := hc
  have HN : Hid _ := hn
  clear hc hn
  have z0 : (l.length : Int) ≤ 1099511627776 := by omega
  obtain ⟨t0', hi0, hy0, hy1, hy2⟩ := info_parts infI
  go_enter Try.func69, Try.ntmps69
  go_wp2
  go_loopw [3, 4] (fun u t wr => ∃ (k : Nat) (u0 : Value), u0 = u ∧ k ≤ l.length ∧ t = .int .i64 k ∧ RS w w.heap.size ((l.length : Int) :: (l.take k).flatMap putMove) u wr) (fun _ t _ => l.length - (intOf t).toNat)
  case atStart =>
    refine ⟨0, _, rfl, by omega, rfl, (Below.refl _ _).alloc (Nat.le_refl _) _, Nat.le_refl _, ?_⟩
    exact own_built [iV l.length] (Nat.le_refl _) (by unfold maxLen; simp)
  case round =>
    obtain ⟨k, u, rfl, hk, rfl, hrs⟩ := hrel
    obtain ⟨xs, hxs⟩ : ∃ xs, xs = (l.length : Int) :: (l.take k).flatMap putMove := ⟨_, rfl⟩
    have hxl : xs.length = 1 + 9 * k := by
      rw [hxs]
      have := putMoves_len (l.take k)
      unfold putMoves at this
      simp only [List.length_cons, List.length_take] at this ⊢
      omega
    rw [← hxs] at hrs
    have HXS : Hid (xs = (l.length : Int) :: (l.take k).flatMap putMove) := hxs
    have HRS : Hid (RS w w.heap.size xs u wr) := hrs
    have hzz := hrs.bel.size
    obtain ⟨g0, cap0, hu, hg0, hg1⟩ := hrs.form (by omega)
    have HXL : Hid (xs.length = 1 + 9 * k) := hxl
    subst hu
    have HU : Hid (RS w w.heap.size xs (.slice (some ⟨g0, 0, none⟩) xs.length cap0) wr) := HRS.out
    clear hxs hrs hxl
    by_cases hlt : k < l.length
    case neg =>
      have y1 : ¬ (k : Int) < (l.length : Int) := by omega
      go_wp2
      go_ret
      refine ⟨_, rfl, ?_⟩
      obtain rfl : k = l.length := by omega
      have := HRS.out
      rw [HXS.out, List.take_length] at this
      rw [show (xs.length : Nat) = (putMoves l).length by rw [HXS.out, List.take_length]; rfl]
      have e : xs = putMoves l := by rw [HXS.out, List.take_length]; rfl
      rw [← e]
      exact HRS.out
    have y1 : (k : Int) < (l.length : Int) := by omega
    have y0 : (0 : Int) ≤ (k : Int) := by omega
    obtain ⟨b, o, rfl, hbl, hcell⟩ := HC.out (by omega)
    obtain ⟨d0, d1, d2, d3, d4, d5⟩ := hcell k hlt
    obtain ⟨n0, n1⟩ := HN.out k hlt
    have d0 := step_cell HRS.out.bel d0
    have d1 := step_cell HRS.out.bel d1
    have d2 := step_cell HRS.out.bel d2
    have d3 := step_cell HRS.out.bel d3
    have d4 := step_cell HRS.out.bel d4
    have d5 := step_cell HRS.out.bel d5
    obtain ⟨m, hm⟩ : ∃ m, m = l.getD k .zero := ⟨_, rfl⟩
    rw [← hm] at d0 d1 d2 d3 d4 d5 n0 n1
    have HM : Hid (m = l.getD k .zero) := hm
    have hbl2 : b < wr.heap.size := by omega
    clear hm hcell
    obtain ⟨c, hc⟩ : ∃ c, c = m.cst := ⟨_, rfl⟩
    rw [← hc] at d4
    have HCC : Hid (c = m.cst) := hc
    clear hc
    have hne : (Value.slice (some ⟨g0, 0, none⟩) xs.length cap0).ownBlock ≠ some wr.heap.size := by simp only [Value.ownBlock, ne_eq, Option.some.injEq]; omega
    have HNE : Hid ((Value.slice (some ⟨g0, 0, none⟩) xs.length cap0).ownBlock ≠ some wr.heap.size) := hne
    clear hne
    cases c
    case false =>
      go_wp2_with (at_builtin; refine wpList_append_lies _ rfl _ _ 64 rfl w.heap.size 3 t0' (.int .i64 0) 1 8 Try.underlying64 hi0 hy0 hy1 hy2 rfl (by decide) (.slice (some ⟨g0, 0, none⟩) xs.length cap0) xs.length (xs.map iV) rfl (World.ownsRow.alloc (World.ownsRow.alloc HRS.out.own _) _) ⟨wr.heap.size + 1, 0, none⟩ 5 5 ([m.dst.kind, m.dst.n, m.src.kind, m.src.n, 0].map iV) rfl rfl ?c1 ?c2 (by decide) ?c3 ?c4 ?c5 _ rfl ?c6)
      case c1 => (have := news_built (w := wr.alloc (.cells #[.int .i64 m.dst.kind, .int .i64 m.dst.n, .int .i64 m.src.kind, .int .i64 m.src.n, .bool false, .int .u32 m.n] 158)) (t := 3) [m.dst.kind, m.dst.n, m.src.kind, m.src.n, 0]; rw [show (wr.alloc (.cells #[.int .i64 m.dst.kind, .int .i64 m.dst.n, .int .i64 m.src.kind, .int .i64 m.src.n, .bool false, .int .u32 m.n] 158)).heap.size = wr.heap.size + 1 by simp] at this; exact this)
      case c2 => exact one_ints _
      case c3 => (have := HXL.out; unfold maxLen; omega)
      case c4 => (have := HXL.out; omega)
      case c5 => (simp; omega)
      case c6 =>
        intro g9 cap9 w9 hown hgrow hat hlt9
        have hr9 : RS w w.heap.size (xs ++ [m.dst.kind, m.dst.n, m.src.kind, m.src.n, 0]) (.slice (some ⟨g9, 0, none⟩) (xs.length + 5) cap9) w9 :=
          (HRS.out.below (((Below.refl _ _).alloc (Nat.le_refl _) _).alloc (by simp) _)).push (ys := [m.dst.kind, m.dst.n, m.src.kind, m.src.n, 0]) hown hgrow
        have HR9 : Hid (RS w w.heap.size (xs ++ [m.dst.kind, m.dst.n, m.src.kind, m.src.n, 0]) (.slice (some ⟨g9, 0, none⟩) (xs.length + 5) cap9) w9) := hr9
        have e5 : w9.cell? ⟨wr.heap.size, 5, none⟩ = some (.int .u32 m.n) := hgrow.cell (by simp [go_sem]) (Ne.symm HNE.out)
        have hz9 : wr.heap.size < w9.heap.size := by have := hgrow.size; simp at this; omega
        clear hown hgrow hat hr9 d0 d1 d2 d3 d4 d5
        go_wp2_with (at_builtin; refine wpList_append_lies _ rfl _ _ 64 rfl w.heap.size 3 t0' (.int .i64 0) 1 8 Try.underlying64 hi0 hy0 hy1 hy2 rfl (by decide) (.slice (some ⟨g9, 0, none⟩) (xs.length + 5) cap9) (xs.length + 5) ((xs ++ [m.dst.kind, m.dst.n, m.src.kind, m.src.n, 0]).map iV) rfl (World.ownsRow.alloc (by simpa using HR9.out.own) _) ⟨w9.heap.size, 0, none⟩ 4 4 ([m.n / 16777216, m.n / 65536 % 256, m.n / 256 % 256, m.n % 256].map iV) rfl rfl ?c1 ?c2 (by decide) ?c3 ?c4 ?c5 _ rfl ?c6)
        case c1 => exact news_built (w := w9) (t := 3) [m.n / 16777216, m.n / 65536 % 256, m.n / 256 % 256, m.n % 256]
        case c2 => exact one_ints _
        case c3 => (have := HXL.out; unfold maxLen; omega)
        case c4 => (have := HXL.out; omega)
        case c5 => (simp; omega)
        case c6 =>
          intro g8 cap8 w8 hown hgrow hat hlt8
          have hr8 : RS w w.heap.size ((xs ++ [m.dst.kind, m.dst.n, m.src.kind, m.src.n, 0]) ++ [m.n / 16777216, m.n / 65536 % 256, m.n / 256 % 256, m.n % 256]) (.slice (some ⟨g8, 0, none⟩) (xs.length + 5 + 4) cap8) w8 := by
            have := (HR9.out.below ((Below.refl _ _).alloc (Nat.le_refl _) _)).push (ys := [m.n / 16777216, m.n / 65536 % 256, m.n / 256 % 256, m.n % 256]) (by simpa using hown) hgrow
            simpa using this
          have HR8 : Hid (RS w w.heap.size ((xs ++ [m.dst.kind, m.dst.n, m.src.kind, m.src.n, 0]) ++ [m.n / 16777216, m.n / 65536 % 256, m.n / 256 % 256, m.n % 256]) (.slice (some ⟨g8, 0, none⟩) (xs.length + 5 + 4) cap8) w8) := hr8
          clear hr8 hown hgrow hat
          go_wp2
          refine ⟨⟨k + 1, _, rfl, by omega, by go_num, ?_⟩, by simp [intOf]; omega⟩
          have e : (xs ++ [m.dst.kind, m.dst.n, m.src.kind, m.src.n, 0]) ++ [m.n / 16777216, m.n / 65536 % 256, m.n / 256 % 256, m.n % 256] = (l.length : Int) :: (l.take (k + 1)).flatMap putMove := by
            rw [take_flat (z := .zero) hlt, ← HM.out, HXS.out]
            simp [putMove, bitI, ← HCC.out]
          rw [← e]
          exact HR8.out
    case true =>
      go_wp2_with (at_builtin; refine wpList_append_lies _ rfl _ _ 64 rfl w.heap.size 3 t0' (.int .i64 0) 1 8 Try.underlying64 hi0 hy0 hy1 hy2 rfl (by decide) (.slice (some ⟨g0, 0, none⟩) xs.length cap0) xs.length (xs.map iV) rfl (World.ownsRow.alloc (World.ownsRow.alloc HRS.out.own _) _) ⟨wr.heap.size + 1, 0, none⟩ 5 5 ([m.dst.kind, m.dst.n, m.src.kind, m.src.n, 1].map iV) rfl rfl ?c1 ?c2 (by decide) ?c3 ?c4 ?c5 _ rfl ?c6)
      case c1 => (have := news_built (w := wr.alloc (.cells #[.int .i64 m.dst.kind, .int .i64 m.dst.n, .int .i64 m.src.kind, .int .i64 m.src.n, .bool true, .int .u32 m.n] 158)) (t := 3) [m.dst.kind, m.dst.n, m.src.kind, m.src.n, 1]; rw [show (wr.alloc (.cells #[.int .i64 m.dst.kind, .int .i64 m.dst.n, .int .i64 m.src.kind, .int .i64 m.src.n, .bool true, .int .u32 m.n] 158)).heap.size = wr.heap.size + 1 by simp] at this; exact this)
      case c2 => exact one_ints _
      case c3 => (have := HXL.out; unfold maxLen; omega)
      case c4 => (have := HXL.out; omega)
      case c5 => (simp; omega)
      case c6 =>
        intro g9 cap9 w9 hown hgrow hat hlt9
        have hr9 : RS w w.heap.size (xs ++ [m.dst.kind, m.dst.n, m.src.kind, m.src.n, 1]) (.slice (some ⟨g9, 0, none⟩) (xs.length + 5) cap9) w9 :=
          (HRS.out.below (((Below.refl _ _).alloc (Nat.le_refl _) _).alloc (by simp) _)).push (ys := [m.dst.kind, m.dst.n, m.src.kind, m.src.n, 1]) hown hgrow
        have HR9 : Hid (RS w w.heap.size (xs ++ [m.dst.kind, m.dst.n, m.src.kind, m.src.n, 1]) (.slice (some ⟨g9, 0, none⟩) (xs.length + 5) cap9) w9) := hr9
        have e5 : w9.cell? ⟨wr.heap.size, 5, none⟩ = some (.int .u32 m.n) := hgrow.cell (by simp [go_sem]) (Ne.symm HNE.out)
        have hz9 : wr.heap.size < w9.heap.size := by have := hgrow.size; simp at this; omega
        clear hown hgrow hat hr9 d0 d1 d2 d3 d4 d5
        go_wp2_with (at_builtin; refine wpList_append_lies _ rfl _ _ 64 rfl w.heap.size 3 t0' (.int .i64 0) 1 8 Try.underlying64 hi0 hy0 hy1 hy2 rfl (by decide) (.slice (some ⟨g9, 0, none⟩) (xs.length + 5) cap9) (xs.length + 5) ((xs ++ [m.dst.kind, m.dst.n, m.src.kind, m.src.n, 1]).map iV) rfl (World.ownsRow.alloc (by simpa using HR9.out.own) _) ⟨w9.heap.size, 0, none⟩ 4 4 ([m.n / 16777216, m.n / 65536 % 256, m.n / 256 % 256, m.n % 256].map iV) rfl rfl ?c1 ?c2 (by decide) ?c3 ?c4 ?c5 _ rfl ?c6)
        case c1 => exact news_built (w := w9) (t := 3) [m.n / 16777216, m.n / 65536 % 256, m.n / 256 % 256, m.n % 256]
        case c2 => exact one_ints _
        case c3 => (have := HXL.out; unfold maxLen; omega)
        case c4 => (have := HXL.out; omega)
        case c5 => (simp; omega)
        case c6 =>
          intro g8 cap8 w8 hown hgrow hat hlt8
          have hr8 : RS w w.heap.size ((xs ++ [m.dst.kind, m.dst.n, m.src.kind, m.src.n, 1]) ++ [m.n / 16777216, m.n / 65536 % 256, m.n / 256 % 256, m.n % 256]) (.slice (some ⟨g8, 0, none⟩) (xs.length + 5 + 4) cap8) w8 := by
            have := (HR9.out.below ((Below.refl _ _).alloc (Nat.le_refl _) _)).push (ys := [m.n / 16777216, m.n / 65536 % 256, m.n / 256 % 256, m.n % 256]) (by simpa using hown) hgrow
            simpa using this
          have HR8 : Hid (RS w w.heap.size ((xs ++ [m.dst.kind, m.dst.n, m.src.kind, m.src.n, 1]) ++ [m.n / 16777216, m.n / 65536 % 256, m.n / 256 % 256, m.n % 256]) (.slice (some ⟨g8, 0, none⟩) (xs.length + 5 + 4) cap8) w8) := hr8
          clear hr8 hown hgrow hat
          go_wp2
          refine ⟨⟨k + 1, _, rfl, by omega, by go_num, ?_⟩, by simp [intOf]; omega⟩
          have e : (xs ++ [m.dst.kind, m.dst.n, m.src.kind, m.src.n, 1]) ++ [m.n / 16777216, m.n / 65536 % 256, m.n / 256 % 256, m.n % 256] = (l.length : Int) :: (l.take (k + 1)).flatMap putMove := by
            rw [take_flat (z := .zero) hlt, ← HM.out, HXS.out]
            simp [putMove, bitI, ← HCC.out]
          rw [← e]
          exact HR8.out

end Go.Proofs.Ytepfegfacdbhbab.form
