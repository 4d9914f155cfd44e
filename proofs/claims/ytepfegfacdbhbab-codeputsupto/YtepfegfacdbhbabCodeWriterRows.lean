/- Moves, rows and places as bytes, the program's own (code.writer.moves, row, placed; code.Put). -/
import Derived.Test.YtepfegfacdbhbabCodeWriterMove
namespace Go.Proofs.Ytepfegfacdbhbab.form
open Go.RowKit
set_option linter.unusedVariables false
set_option maxRecDepth 100000
attribute [local go_sem ↓] Go.wp_at_zero Go.wp_at_succ

set_option maxHeartbeats 2000000 in
theorem movesW {w0 : World} {base b : Nat} {bs : List Int} {bad : Bool} {v : Value} {w : World} (h : WtS w0 base b bs bad v w) (mv : Value) (l : List LMove) (hm : MovesIs w0 mv l) (hn : MovesOk l) (hl : bs.length + (putMoves l).length ≤ 1099511627776) :
    Calls Try.prog 157 #[.pointer (some ⟨b, 0, none⟩), mv] w fun e w' => WroteP w0 base b (putMoves l) bs bad v w e w' := by
  obtain ⟨ao, cap, rfl, hl63, hc⟩ := hm
  have HC : Hid _ := hc
  have HN : Hid (MovesOk l) := hn
  rw [putMoves_len] at hl
  have HL : Hid (bs.length + (1 + 9 * l.length) ≤ 1099511627776) := hl
  have z0 : (l.length : Int) ≤ 1099511627776 := by omega
  have hbl : b < w.heap.size := h.box.lt
  obtain ⟨w1, hw1⟩ : ∃ w1, w1 = w.alloc (.cells #[.int .i64 l.length] 3) := ⟨_, rfl⟩
  have hlb : Below w.heap.size w w1 := by rw [hw1]; exact (Below.refl _ _).alloc (Nat.le_refl _) _
  have hrw : Row w1 w.heap.size 3 ([(l.length : Int)].map iV) := by rw [hw1]; exact Row.new _ _ _
  have HPUT : Hid (Calls Try.prog 119 #[.pointer (some ⟨b, 0, none⟩), .slice (some ⟨w.heap.size, 0, none⟩) 1 1] w1 fun e w' => WroteP w0 base b [(l.length : Int)] bs bad v w1 e w') :=
    putW (h.below hlb) w.heap.size [(l.length : Int)] hrw (by omega) (fun e => by have := (h.own_ge e).2; omega) (by simp only [List.length_cons, List.length_nil]; omega)
  have HF1 : Hid (WtF b v w v w1) := WtF.of_below hlb
  clear h hc hn hl hlb hrw
  go_enter Try.func157, Try.ntmps157
  go_upto_region 1 with (rw [← hw1]; go_at_call 119; refine HPUT.out.mono ?_; rintro e w2 ⟨rfl, bs1, bad1, v1, hs1, hwr1, hf1⟩; have HS1 : Hid (WtS w0 base b bs1 bad1 v1 w2) := hs1; have HW1 : Hid (Wrote [(l.length : Int)] bs bad bs1 bad1) := hwr1; have HF2 : Hid (WtF b v w v1 w2) := HF1.out.trans hf1; clear hs1 hwr1 hf1)
  clear HPUT HF1 hw1 hbl
  go_wp2
  go_loopg [5, 13] (l.length + 1) (fun gg t5 t wr => ∃ (k : Nat) (cs : List Int) (bc : Bool) (vc : Value), t = .int .i64 k ∧ k ≤ l.length ∧ gg = l.length + 1 - k ∧ WtS w0 base b cs bc vc wr ∧ Wrote ((l.length : Int) :: (l.take k).flatMap putMove) bs bad cs bc ∧ WtF b v w vc wr)
  case atStart => exact ⟨0, bs1, bad1, v1, rfl, by omega, by omega, HS1.out, by simpa using HW1.out, HF2.out⟩
  case round =>
    clear HS1 HW1 HF2
    obtain ⟨k, cs, bc, vc, rfl, hk, hgk, hs, hwr, hf⟩ := hrel
    have HGK : Hid (gk = l.length + 1 - k) := hgk
    have HS : Hid (WtS w0 base b cs bc vc wr) := hs
    have HWR : Hid (Wrote ((l.length : Int) :: (l.take k).flatMap putMove) bs bad cs bc) := hwr
    have HF : Hid (WtF b v w vc wr) := hf
    have HPL : Hid (∀ k : Nat, k ≤ l.length → (((l.length : Int) :: (l.take k).flatMap putMove).length = 1 + 9 * k)) := fun k hk => by
      have := putMoves_len (l.take k)
      unfold putMoves at this
      rw [List.length_cons] at this ⊢
      rw [List.length_take] at this
      omega
    have b1 : wr.cell? ⟨b, 1, none⟩ = some (.bool bc) := hs.box.cell 1
    have hbl : b < wr.heap.size := hs.box.lt
    clear hgk hs hwr hf
    by_cases hlt : k < l.length
    case neg =>
      have y1 : ¬ (k : Int) < (l.length : Int) := by omega
      go_wp2
      refine bodyPost_end (results_none rfl _ _ _) rfl ?_
      have e : l.take k = l := List.take_of_length_le (by omega)
      have e2 := HWR.out
      rw [e] at e2
      exact ⟨rfl, cs, bc, _, HS.out, e2, HF.out⟩
    have y1 : (k : Int) < (l.length : Int) := by omega
    have y0 : (0 : Int) ≤ (k : Int) := by omega
    obtain ⟨b2, o2, rfl, hb2, hcell⟩ := HC.out (by omega)
    obtain ⟨d0, d1, d2, d3, d4, d5⟩ := hcell k hlt
    have d0 := step_cell HS.out.bel d0
    have d1 := step_cell HS.out.bel d1
    have d2 := step_cell HS.out.bel d2
    have d3 := step_cell HS.out.bel d3
    have d4 := step_cell HS.out.bel d4
    have d5 := step_cell HS.out.bel d5
    have hb2l : b2 < wr.heap.size := World.block_lt_of_cell? _ _ d0
    have hbd := HN.out k hlt
    obtain ⟨m, hmk⟩ : ∃ m, m = l.getD k .zero := ⟨_, rfl⟩
    rw [← hmk] at d0 d1 d2 d3 d4 d5 hbd
    have HMK : Hid (m = l.getD k .zero) := hmk
    have HBD : Hid (0 ≤ m.n ∧ m.n < 4294967296) := hbd
    clear hmk hcell hbd
    cases bc with
    | true =>
      go_wp2
      refine bodyPost_ret (results_none rfl _ _ _) rfl ?_
      refine ⟨rfl, cs, true, vc, HS.out.below ((Below.refl _ _).alloc (Nat.le_refl _) _), ?_, HF.out.trans (WtF.of_below ((Below.refl _ _).alloc (Nat.le_refl _) _))⟩
      have := HWR.out.stop (ys := (l.drop k).flatMap putMove)
      rw [List.cons_append, ← List.flatMap_append, List.take_append_drop] at this
      exact this
    | false =>
      obtain ⟨w4, hw4⟩ : ∃ w4, w4 = wr.alloc (.cells #[.int .i64 m.dst.kind, .int .i64 m.dst.n, .int .i64 m.src.kind, .int .i64 m.src.n, .bool m.cst, .int .u32 m.n] 158) := ⟨_, rfl⟩
      have hlb : Below wr.heap.size wr w4 := by rw [hw4]; exact (Below.refl _ _).alloc (Nat.le_refl _) _
      have HMV : Hid (Calls Try.prog 171 #[.pointer (some ⟨b, 0, none⟩), .agg #[.int .i64 m.dst.kind, .int .i64 m.dst.n, .int .i64 m.src.kind, .int .i64 m.src.n, .bool m.cst, .int .u32 m.n]] w4 fun e w' => WroteP w0 base b (putMove m) cs false vc w4 e w') :=
        moveW (HS.out.below hlb) m HBD.out (by have := HWR.out.len; have := HPL.out k hk; have := HL.out; omega)
      have HF4 : Hid (WtF b v w vc w4) := HF.out.trans (WtF.of_below hlb)
      have HW4 : Hid (w4 = wr.alloc (.cells #[.int .i64 m.dst.kind, .int .i64 m.dst.n, .int .i64 m.src.kind, .int .i64 m.src.n, .bool m.cst, .int .u32 m.n] 158)) := hw4
      clear hlb hw4
      go_wp2_with (rw [← HW4.out]; go_at_call 171; refine HMV.out.mono ?_; rintro e w5 ⟨rfl, cs2, bc2, vc2, hs2, hw2, hf2⟩; have HS2 : Hid (WtS w0 base b cs2 bc2 vc2 w5) := hs2; have HW2 : Hid (Wrote (putMove m) cs false cs2 bc2) := hw2; have HF5 : Hid (WtF b v w vc2 w5) := HF4.out.trans hf2; clear hs2 hw2 hf2)
      have hgk := HGK.out
      go_roundg (gk - 1)
      case measure => omega
      case rel =>
        refine ⟨k + 1, cs2, bc2, vc2, by go_num, by omega, by omega, HS2.out, ?_, HF5.out⟩
        have := HWR.out.trans HW2.out
        rw [take_flat (z := .zero) hlt, ← HMK.out]
        simpa using this

set_option maxHeartbeats 2000000 in
theorem rowW {w0 : World} {base b : Nat} {bs : List Int} {bad : Bool} {v : Value} {w : World} (h : WtS w0 base b bs bad v w) (r : LRow) (vb va : Value) (hb : MovesIs w0 vb r.before) (ha : MovesIs w0 va r.after) (hnb : MovesOk r.before) (hna : MovesOk r.after) (hl : bs.length + (putRow r).length ≤ 1099511627776) :
    Calls Try.prog 120 #[.pointer (some ⟨b, 0, none⟩), .agg #[.int .i64 r.dest.kind, .int .i64 r.dest.n, .int .i64 r.a.kind, .int .i64 r.a.n, .int .i64 r.b.kind, .int .i64 r.b.n, vb, va]] w fun e w' => WroteP w0 base b (putRow r) bs bad v w e w' := by
  have HMB : Hid (MovesIs w0 vb r.before) := hb
  have HMA : Hid (MovesIs w0 va r.after) := ha
  obtain ⟨bo, bc, rfl, -, -⟩ := hb
  obtain ⟨ao, ac, rfl, -, -⟩ := ha
  have HNB : Hid (MovesOk r.before) := hnb
  have HNA : Hid (MovesOk r.after) := hna
  rw [putRow_len] at hl
  have HL : Hid (bs.length + (8 + 9 * (r.before.length + r.after.length)) ≤ 1099511627776) := hl
  have hbl : b < w.heap.size := h.box.lt
  obtain ⟨w1, hw1⟩ : ∃ w1, w1 = w.alloc (.cells #[.int .i64 r.dest.kind, .int .i64 r.dest.n, .int .i64 r.a.kind, .int .i64 r.a.n, .int .i64 r.b.kind, .int .i64 r.b.n, .slice bo r.before.length bc, .slice ao r.after.length ac] 92) := ⟨_, rfl⟩
  have hlb1 : Below w.heap.size w w1 := by rw [hw1]; exact (Below.refl _ _).alloc (Nat.le_refl _) _
  have hr1 : Row w1 w.heap.size 92 [.int .i64 r.dest.kind, .int .i64 r.dest.n, .int .i64 r.a.kind, .int .i64 r.a.n, .int .i64 r.b.kind, .int .i64 r.b.n, .slice bo r.before.length bc, .slice ao r.after.length ac] := by rw [hw1]; exact Row.new _ _ _
  have hz1 : w1.heap.size = w.heap.size + 1 := by rw [hw1]; simp
  obtain ⟨w2, hw2⟩ : ∃ w2, w2 = w1.alloc (.cells #[.int .i64 r.dest.kind, .int .i64 r.dest.n, .int .i64 r.a.kind, .int .i64 r.a.n, .int .i64 r.b.kind, .int .i64 r.b.n] 3) := ⟨_, rfl⟩
  have hlb2 : Below w1.heap.size w1 w2 := by rw [hw2]; exact (Below.refl _ _).alloc (Nat.le_refl _) _
  have hr2 : Row w2 (w.heap.size + 1) 3 ([r.dest.kind, r.dest.n, r.a.kind, r.a.n, r.b.kind, r.b.n].map iV) := by rw [hw2, ← hz1]; exact Row.new _ _ _
  have HR2 : Hid (Row w2 w.heap.size 92 [.int .i64 r.dest.kind, .int .i64 r.dest.n, .int .i64 r.a.kind, .int .i64 r.a.n, .int .i64 r.b.kind, .int .i64 r.b.n, .slice bo r.before.length bc, .slice ao r.after.length ac]) := hr1.below hlb2
  have HV : Hid (v.ownBlock ≠ some w.heap.size) := fun e => by have := (h.own_ge e).2; omega
  have HPUT : Hid (Calls Try.prog 119 #[.pointer (some ⟨b, 0, none⟩), .slice (some ⟨w.heap.size + 1, 0, none⟩) 6 6] w2 fun e w' => WroteP w0 base b [r.dest.kind, r.dest.n, r.a.kind, r.a.n, r.b.kind, r.b.n] bs bad v w2 e w') :=
    putW ((h.below hlb1).below hlb2) (w.heap.size + 1) _ hr2 (by omega) (fun e => by have := (h.own_ge e).2; omega) (by simp only [List.length_cons, List.length_nil]; omega)
  have HF2 : Hid (WtF b v w v w2) := (WtF.of_below hlb1).trans (WtF.of_below hlb2)
  rw [hw1] at hw2
  have HW2 : Hid (w2 = (w.alloc (.cells #[.int .i64 r.dest.kind, .int .i64 r.dest.n, .int .i64 r.a.kind, .int .i64 r.a.n, .int .i64 r.b.kind, .int .i64 r.b.n, .slice bo r.before.length bc, .slice ao r.after.length ac] 92)).alloc (.cells #[.int .i64 r.dest.kind, .int .i64 r.dest.n, .int .i64 r.a.kind, .int .i64 r.a.n, .int .i64 r.b.kind, .int .i64 r.b.n] 3)) := hw2
  clear h hnb hna hl hlb1 hlb2 hr1 hr2 hz1 hw1 hw2
  go_enter Try.func120, Try.ntmps120
  go_upto_region 2 with (rw [← HW2.out]; go_at_call 119; refine HPUT.out.mono ?_; rintro e w3 ⟨rfl, bs1, bad1, v1, hs1, hwr1, hf1⟩; have HS1 : Hid (WtS w0 base b bs1 bad1 v1 w3) := hs1; have HW1 : Hid (Wrote [r.dest.kind, r.dest.n, r.a.kind, r.a.n, r.b.kind, r.b.n] bs bad bs1 bad1) := hwr1; have HF3 : Hid (WtF b v w v1 w3) := HF2.out.trans hf1; have HR3 : Hid (Row w3 w.heap.size 92 [.int .i64 r.dest.kind, .int .i64 r.dest.n, .int .i64 r.a.kind, .int .i64 r.a.n, .int .i64 r.b.kind, .int .i64 r.b.n, .slice bo r.before.length bc, .slice ao r.after.length ac]) := hf1.rows HR2.out (Ne.symm (Nat.ne_of_lt hbl)) HV.out; have HV3 : Hid (v1.ownBlock ≠ some w.heap.size) := (fun e => HV.out (hf1.own _ HR2.out.lt e)); clear hs1 hwr1 hf1)
  clear HPUT HF2 HW2 HR2
  have c6 : w3.cell? ⟨w.heap.size, 6, none⟩ = some (.slice bo r.before.length bc) := HR3.out.cell 6
  have HMV1 : Hid (Calls Try.prog 157 #[.pointer (some ⟨b, 0, none⟩), .slice bo r.before.length bc] w3 fun e w' => WroteP w0 base b (putMoves r.before) bs1 bad1 v1 w3 e w') :=
    movesW HS1.out _ r.before HMB.out HNB.out (by have h1 := HW1.out.len; have h2 := HL.out; rw [putMoves_len]; simp only [List.length_cons, List.length_nil] at h1; omega)
  go_upto_region 3 with (go_at_call 157; refine HMV1.out.mono ?_; rintro e w4 ⟨rfl, bs2, bad2, v2, hs2, hwr2, hf2⟩; have HS2 : Hid (WtS w0 base b bs2 bad2 v2 w4) := hs2; have HW2 : Hid (Wrote (putMoves r.before) bs1 bad1 bs2 bad2) := hwr2; have HF4 : Hid (WtF b v w v2 w4) := HF3.out.trans hf2; have HR4 : Hid (Row w4 w.heap.size 92 [.int .i64 r.dest.kind, .int .i64 r.dest.n, .int .i64 r.a.kind, .int .i64 r.a.n, .int .i64 r.b.kind, .int .i64 r.b.n, .slice bo r.before.length bc, .slice ao r.after.length ac]) := hf2.rows HR3.out (Ne.symm (Nat.ne_of_lt hbl)) HV3.out; clear hs2 hwr2 hf2)
  clear HMV1 HF3 HR3 c6
  have c7 : w4.cell? ⟨w.heap.size, 7, none⟩ = some (.slice ao r.after.length ac) := HR4.out.cell 7
  have HMV2 : Hid (Calls Try.prog 157 #[.pointer (some ⟨b, 0, none⟩), .slice ao r.after.length ac] w4 fun e w' => WroteP w0 base b (putMoves r.after) bs2 bad2 v2 w4 e w') :=
    movesW HS2.out _ r.after HMA.out HNA.out (by have h1 := HW1.out.len; have h3 := HW2.out.len; have h2 := HL.out; rw [putMoves_len] at h3 ⊢; simp only [List.length_cons, List.length_nil] at h1; omega)
  go_wp2_with (go_at_call 157; refine HMV2.out.mono ?_; rintro e w5 ⟨rfl, bs3, bad3, v3, hs3, hwr3, hf3⟩)
  refine bodyPost_end (results_none rfl _ _ _) rfl ?_
  refine ⟨rfl, bs3, bad3, v3, hs3, ?_, HF4.out.trans hf3⟩
  have := (HW1.out.trans HW2.out).trans hwr3
  rw [List.append_assoc] at this
  exact this

end Go.Proofs.Ytepfegfacdbhbab.form
