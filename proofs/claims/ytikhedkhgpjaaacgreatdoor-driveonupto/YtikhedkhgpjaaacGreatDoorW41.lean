/- For every two scripts (of bulk at most 1048576 together): the answer to the one with a byte 10 and the other one behind it begins with the answer to the one: loanbookkeep.DriveOn returns true; the library's variables that its road reads lie as the program's text lays them (the card ties them). -/
import Derived.Test.YtikhedkhgpjaaacGreatDoorW40
import Derived.Test.YtikhedkhgpjaaacGreatDoorW26
import Derived.Test.YtikhedkhgpjaaacGreatDoorW28
import Derived.Test.YtikhedkhgpjaaacGreatDoorW33
import Derived.Test.YtikhedkhgpjaaacGreatDoorW38
import Derived.Test.YtikhedkhgpjaaacGreatDoorW03

namespace Go.Proofs.YtikhedkhgpjaaacGreatDoor
set_option linter.unusedVariables false
namespace form
open Go.RowKit
set_option maxRecDepth 100000
attribute [local go_sem ↓] Go.wp_at_zero Go.wp_at_succ
def WroteC (c : Nat) (w0 : World) (base b : Nat) (xs bs : List Int) (bad : Bool) (v : Value) (w : World) (e : Ending) (w' : World) : Prop :=
  e = .returned (.tuple #[]) ∧ ∃ bs' bad' v', WtS w0 base b bs' bad' v' w' ∧ Wrote xs bs bad bs' bad' ∧ WtF b v w v' w' ∧ bs'.length ≤ bs.length + c
theorem small_head {x : Int} {xs bs cs : List Int} {bad : Bool} (h : Wrote (x :: xs) bs bad cs false) : x ≤ 255 := by
  have hb := h.bad
  cases hs : smallB (x :: xs) with
  | false => rw [hs] at hb; simp at hb
  | true => rw [small_cons] at hs; exact hs.1.2
set_option maxHeartbeats 2000000 in
theorem movesW {w0 : World} {base b : Nat} {bs : List Int} {bad : Bool} {v : Value} {w : World} (h : WtS w0 base b bs bad v w) (mv : Value) (l : List LMove) (hm : MovesIs w0 mv l) (hn : MovesOk l) (hl : bs.length ≤ 1099000000000) :
    Calls Tryz.prog 146 #[.pointer (some ⟨b, 0, none⟩), mv] w fun e w' => WroteC 2296 w0 base b (putMoves l) bs bad v w e w' := by
  obtain ⟨ao, cap, rfl, hl63, hc⟩ := hm
  have HC : Hid _ := hc
  have HN : Hid (MovesOk l) := hn
  have HL : Hid (bs.length ≤ 1099000000000) := hl
  have z0 : (l.length : Int) ≤ 9223372036854775807 := by omega
  have hbl : b < w.heap.size := h.box.lt
  obtain ⟨w1, hw1⟩ : ∃ w1, w1 = w.alloc (.cells #[.int .i64 l.length] 3) := ⟨_, rfl⟩
  have hlb : Below w.heap.size w w1 := by rw [hw1]; exact (Below.refl _ _).alloc (Nat.le_refl _) _
  have hrw : Row w1 w.heap.size 3 ([(l.length : Int)].map iV) := by rw [hw1]; exact Row.new _ _ _
  have HPUT : Hid (Calls Tryz.prog 115 #[.pointer (some ⟨b, 0, none⟩), .slice (some ⟨w.heap.size, 0, none⟩) 1 1] w1 fun e w' => WroteP w0 base b [(l.length : Int)] bs bad v w1 e w') :=
    putW (h.below hlb) w.heap.size [(l.length : Int)] hrw (by omega) (fun e => by have := (h.own_ge e).2; omega) (by simp only [List.length_cons, List.length_nil]; omega)
  have HF1 : Hid (WtF b v w v w1) := WtF.of_below hlb
  clear h hc hn hl hlb hrw
  go_enter Tryz.func146, Tryz.ntmps146
  go_upto_region 1 with (rw [← hw1]; go_at_call 115; refine HPUT.out.mono ?_; rintro e w2 ⟨rfl, bs1, bad1, v1, hs1, hwr1, hf1⟩; have HS1 : Hid (WtS w0 base b bs1 bad1 v1 w2) := hs1; have HW1 : Hid (Wrote [(l.length : Int)] bs bad bs1 bad1) := hwr1; have HF2 : Hid (WtF b v w v1 w2) := HF1.out.trans hf1; clear hs1 hwr1 hf1)
  clear HPUT HF1 hw1 hbl
  go_wp2
  go_loopg [5, 13] (l.length + 1) (fun gg t5 t wr => ∃ (k : Nat) (cs : List Int) (bc : Bool) (vc : Value), t = .int .i64 k ∧ (k ≤ l.length ∧ k ≤ 255) ∧ gg = l.length + 1 - k ∧ WtS w0 base b cs bc vc wr ∧ Wrote ((l.length : Int) :: (l.take k).flatMap putMove) bs bad cs bc ∧ WtF b v w vc wr)
  case atStart => exact ⟨0, bs1, bad1, v1, rfl, ⟨by omega, by omega⟩, by omega, HS1.out, by simpa using HW1.out, HF2.out⟩
  case round =>
    clear HS1 HW1 HF2
    obtain ⟨k, cs, bc, vc, rfl, ⟨hk, hk5⟩, hgk, hs, hwr, hf⟩ := hrel
    have HK5 : Hid (k ≤ 255) := hk5
    have HGK : Hid (gk = l.length + 1 - k) := hgk
    have HS : Hid (WtS w0 base b cs bc vc wr) := hs
    have HWR : Hid (Wrote ((l.length : Int) :: (l.take k).flatMap putMove) bs bad cs bc) := hwr
    have HF : Hid (WtF b v w vc wr) := hf
    have HPL : Hid (∀ k : Nat, k ≤ l.length → (((l.length : Int) :: (l.take k).flatMap putMove).length = 1 + 9 * k)) := fun k hk => by
      have := putMoves_len (l.take k)
      unfold putMoves at this
      rw [List.length_cons] at this ⊢
      rw [List.length_take] at this
      omega
    have HCB : Hid (cs.length ≤ bs.length + 2296) := by
      have h1 := hwr.len
      have h2 := HPL.out k hk
      show cs.length ≤ bs.length + 2296
      omega
    have b1 : wr.cell? ⟨b, 1, none⟩ = some (.bool bc) := hs.box.cell 1
    have hbl : b < wr.heap.size := hs.box.lt
    clear hgk hs hwr hf hk5
    by_cases hlt : k < l.length
    case neg =>
      have y1 : ¬ (k : Int) < (l.length : Int) := by omega
      go_wp2
      refine bodyPost_end (results_none rfl _ _ _) rfl ?_
      have e : l.take k = l := List.take_of_length_le (by omega)
      have e2 := HWR.out
      rw [e] at e2
      exact ⟨rfl, cs, bc, _, HS.out, e2, HF.out, HCB.out⟩
    have y1 : (k : Int) < (l.length : Int) := by omega
    have y0 : (0 : Int) ≤ (k : Int) := by omega
    obtain ⟨b2, o2, rfl, hb2, hcell⟩ := HC.out (by omega)
    obtain ⟨d0, d1, d2, d3, d4, d5⟩ := hcell k hlt
    have d0 := step_cell HS.out.bel d0
    have d1 := step_cell HS.out.bel d1
    have d2 := step_cell HS.out.bel d2
    have d3 := step_cell HS.out.bel d3
    have d4 := step_cell HS.out.bel d4
    have d5 := step_cell HS.out.bel d5
    have hb2l : b2 < wr.heap.size := World.block_lt_of_cell? _ _ d0
    have hbd := HN.out k hlt
    obtain ⟨m, hmk⟩ : ∃ m, m = l.getD k .zero := ⟨_, rfl⟩
    rw [← hmk] at d0 d1 d2 d3 d4 d5 hbd
    have HMK : Hid (m = l.getD k .zero) := hmk
    have HBD : Hid (0 ≤ m.n ∧ m.n < 4294967296) := hbd
    clear hmk hcell hbd
    cases bc with
    | true =>
      go_wp2
      refine bodyPost_ret (results_none rfl _ _ _) rfl ?_
      refine ⟨rfl, cs, true, vc, HS.out.below ((Below.refl _ _).alloc (Nat.le_refl _) _), ?_, HF.out.trans (WtF.of_below ((Below.refl _ _).alloc (Nat.le_refl _) _)), HCB.out⟩
      have := HWR.out.stop (ys := (l.drop k).flatMap putMove)
      rw [List.cons_append, ← List.flatMap_append, List.take_append_drop] at this
      exact this
    | false =>
      obtain ⟨w4, hw4⟩ : ∃ w4, w4 = wr.alloc (.cells #[.int .i64 m.dst.kind, .int .i64 m.dst.n, .int .i64 m.src.kind, .int .i64 m.src.n, .bool m.cst, .int .u32 m.n] 208) := ⟨_, rfl⟩
      have hlb : Below wr.heap.size wr w4 := by rw [hw4]; exact (Below.refl _ _).alloc (Nat.le_refl _) _
      have HMV : Hid (Calls Tryz.prog 164 #[.pointer (some ⟨b, 0, none⟩), .agg #[.int .i64 m.dst.kind, .int .i64 m.dst.n, .int .i64 m.src.kind, .int .i64 m.src.n, .bool m.cst, .int .u32 m.n]] w4 fun e w' => WroteP w0 base b (putMove m) cs false vc w4 e w') :=
        moveW (HS.out.below hlb) m HBD.out (by have := HCB.out; have := HL.out; omega)
      have HF4 : Hid (WtF b v w vc w4) := HF.out.trans (WtF.of_below hlb)
      have HW4 : Hid (w4 = wr.alloc (.cells #[.int .i64 m.dst.kind, .int .i64 m.dst.n, .int .i64 m.src.kind, .int .i64 m.src.n, .bool m.cst, .int .u32 m.n] 208)) := hw4
      clear hlb hw4
      go_wp2_with (rw [← HW4.out]; go_at_call 164; refine HMV.out.mono ?_; rintro e w5 ⟨rfl, cs2, bc2, vc2, hs2, hw2, hf2⟩; have HS2 : Hid (WtS w0 base b cs2 bc2 vc2 w5) := hs2; have HW2 : Hid (Wrote (putMove m) cs false cs2 bc2) := hw2; have HF5 : Hid (WtF b v w vc2 w5) := HF4.out.trans hf2; clear hs2 hw2 hf2)
      have hgk := HGK.out
      go_roundg (gk - 1)
      case measure => omega
      case rel =>
        refine ⟨k + 1, cs2, bc2, vc2, by go_num, ⟨by omega, by have := small_head HWR.out; omega⟩, by omega, HS2.out, ?_, HF5.out⟩
        have := HWR.out.trans HW2.out
        rw [take_flat (z := .zero) hlt, ← HMK.out]
        simpa using this
set_option maxHeartbeats 2000000 in
theorem rowWC {w0 : World} {base b : Nat} {bs : List Int} {bad : Bool} {v : Value} {w : World} (h : WtS w0 base b bs bad v w) (r : LRow) (vb va : Value) (hb : MovesIs w0 vb r.before) (ha : MovesIs w0 va r.after) (hnb : MovesOk r.before) (hna : MovesOk r.after) (hl : bs.length ≤ 1098000000000) :
    Calls Tryz.prog 116 #[.pointer (some ⟨b, 0, none⟩), .agg #[.int .i64 r.dest.kind, .int .i64 r.dest.n, .int .i64 r.a.kind, .int .i64 r.a.n, .int .i64 r.b.kind, .int .i64 r.b.n, vb, va]] w fun e w' => WroteC 4598 w0 base b (putRow r) bs bad v w e w' := by
  have HMB : Hid (MovesIs w0 vb r.before) := hb
  have HMA : Hid (MovesIs w0 va r.after) := ha
  obtain ⟨bo, bc, rfl, -, -⟩ := hb
  obtain ⟨ao, ac, rfl, -, -⟩ := ha
  have HNB : Hid (MovesOk r.before) := hnb
  have HNA : Hid (MovesOk r.after) := hna
  have HL : Hid (bs.length ≤ 1098000000000) := hl
  have hbl : b < w.heap.size := h.box.lt
  obtain ⟨w1, hw1⟩ : ∃ w1, w1 = w.alloc (.cells #[.int .i64 r.dest.kind, .int .i64 r.dest.n, .int .i64 r.a.kind, .int .i64 r.a.n, .int .i64 r.b.kind, .int .i64 r.b.n, .slice bo r.before.length bc, .slice ao r.after.length ac] 140) := ⟨_, rfl⟩
  have hlb1 : Below w.heap.size w w1 := by rw [hw1]; exact (Below.refl _ _).alloc (Nat.le_refl _) _
  have hr1 : Row w1 w.heap.size 140 [.int .i64 r.dest.kind, .int .i64 r.dest.n, .int .i64 r.a.kind, .int .i64 r.a.n, .int .i64 r.b.kind, .int .i64 r.b.n, .slice bo r.before.length bc, .slice ao r.after.length ac] := by rw [hw1]; exact Row.new _ _ _
  have hz1 : w1.heap.size = w.heap.size + 1 := by rw [hw1]; simp
  obtain ⟨w2, hw2⟩ : ∃ w2, w2 = w1.alloc (.cells #[.int .i64 r.dest.kind, .int .i64 r.dest.n, .int .i64 r.a.kind, .int .i64 r.a.n, .int .i64 r.b.kind, .int .i64 r.b.n] 3) := ⟨_, rfl⟩
  have hlb2 : Below w1.heap.size w1 w2 := by rw [hw2]; exact (Below.refl _ _).alloc (Nat.le_refl _) _
  have hr2 : Row w2 (w.heap.size + 1) 3 ([r.dest.kind, r.dest.n, r.a.kind, r.a.n, r.b.kind, r.b.n].map iV) := by rw [hw2, ← hz1]; exact Row.new _ _ _
  have HR2 : Hid (Row w2 w.heap.size 140 [.int .i64 r.dest.kind, .int .i64 r.dest.n, .int .i64 r.a.kind, .int .i64 r.a.n, .int .i64 r.b.kind, .int .i64 r.b.n, .slice bo r.before.length bc, .slice ao r.after.length ac]) := hr1.below hlb2
  have HV : Hid (v.ownBlock ≠ some w.heap.size) := fun e => by have := (h.own_ge e).2; omega
  have HPUT : Hid (Calls Tryz.prog 115 #[.pointer (some ⟨b, 0, none⟩), .slice (some ⟨w.heap.size + 1, 0, none⟩) 6 6] w2 fun e w' => WroteP w0 base b [r.dest.kind, r.dest.n, r.a.kind, r.a.n, r.b.kind, r.b.n] bs bad v w2 e w') :=
    putW ((h.below hlb1).below hlb2) (w.heap.size + 1) _ hr2 (by omega) (fun e => by have := (h.own_ge e).2; omega) (by simp only [List.length_cons, List.length_nil]; omega)
  have HF2 : Hid (WtF b v w v w2) := (WtF.of_below hlb1).trans (WtF.of_below hlb2)
  rw [hw1] at hw2
  have HW2 : Hid (w2 = (w.alloc (.cells #[.int .i64 r.dest.kind, .int .i64 r.dest.n, .int .i64 r.a.kind, .int .i64 r.a.n, .int .i64 r.b.kind, .int .i64 r.b.n, .slice bo r.before.length bc, .slice ao r.after.length ac] 140)).alloc (.cells #[.int .i64 r.dest.kind, .int .i64 r.dest.n, .int .i64 r.a.kind, .int .i64 r.a.n, .int .i64 r.b.kind, .int .i64 r.b.n] 3)) := hw2
  clear h hnb hna hl hlb1 hlb2 hr1 hr2 hz1 hw1 hw2
  go_enter Tryz.func116, Tryz.ntmps116
  go_upto_region 2 with (rw [← HW2.out]; go_at_call 115; refine HPUT.out.mono ?_; rintro e w3 ⟨rfl, bs1, bad1, v1, hs1, hwr1, hf1⟩; have HS1 : Hid (WtS w0 base b bs1 bad1 v1 w3) := hs1; have HW1 : Hid (Wrote [r.dest.kind, r.dest.n, r.a.kind, r.a.n, r.b.kind, r.b.n] bs bad bs1 bad1) := hwr1; have HF3 : Hid (WtF b v w v1 w3) := HF2.out.trans hf1; have HR3 : Hid (Row w3 w.heap.size 140 [.int .i64 r.dest.kind, .int .i64 r.dest.n, .int .i64 r.a.kind, .int .i64 r.a.n, .int .i64 r.b.kind, .int .i64 r.b.n, .slice bo r.before.length bc, .slice ao r.after.length ac]) := hf1.rows HR2.out (Ne.symm (Nat.ne_of_lt hbl)) HV.out; have HV3 : Hid (v1.ownBlock ≠ some w.heap.size) := (fun e => HV.out (hf1.own _ HR2.out.lt e)); clear hs1 hwr1 hf1)
  clear HPUT HF2 HW2 HR2
  have c6 : w3.cell? ⟨w.heap.size, 6, none⟩ = some (.slice bo r.before.length bc) := HR3.out.cell 6
  have HMV1 : Hid (Calls Tryz.prog 146 #[.pointer (some ⟨b, 0, none⟩), .slice bo r.before.length bc] w3 fun e w' => WroteC 2296 w0 base b (putMoves r.before) bs1 bad1 v1 w3 e w') :=
    movesW HS1.out _ r.before HMB.out HNB.out (by have h1 := HW1.out.len; have h2 := HL.out; simp only [List.length_cons, List.length_nil] at h1; omega)
  go_upto_region 3 with (go_at_call 146; refine HMV1.out.mono ?_; rintro e w4 ⟨rfl, bs2, bad2, v2, hs2, hwr2, hf2, hle2⟩; have HLE2 : Hid (bs2.length ≤ bs1.length + 2296) := hle2; clear hle2; have HS2 : Hid (WtS w0 base b bs2 bad2 v2 w4) := hs2; have HW2 : Hid (Wrote (putMoves r.before) bs1 bad1 bs2 bad2) := hwr2; have HF4 : Hid (WtF b v w v2 w4) := HF3.out.trans hf2; have HR4 : Hid (Row w4 w.heap.size 140 [.int .i64 r.dest.kind, .int .i64 r.dest.n, .int .i64 r.a.kind, .int .i64 r.a.n, .int .i64 r.b.kind, .int .i64 r.b.n, .slice bo r.before.length bc, .slice ao r.after.length ac]) := hf2.rows HR3.out (Ne.symm (Nat.ne_of_lt hbl)) HV3.out; clear hs2 hwr2 hf2)
  clear HMV1 HF3 HR3 c6
  have c7 : w4.cell? ⟨w.heap.size, 7, none⟩ = some (.slice ao r.after.length ac) := HR4.out.cell 7
  have HMV2 : Hid (Calls Tryz.prog 146 #[.pointer (some ⟨b, 0, none⟩), .slice ao r.after.length ac] w4 fun e w' => WroteC 2296 w0 base b (putMoves r.after) bs2 bad2 v2 w4 e w') :=
    movesW HS2.out _ r.after HMA.out HNA.out (by have h1 := HW1.out.len; have h3 := HLE2.out; have h2 := HL.out; simp only [List.length_cons, List.length_nil] at h1; omega)
  go_wp2_with (go_at_call 146; refine HMV2.out.mono ?_; rintro e w5 ⟨rfl, bs3, bad3, v3, hs3, hwr3, hf3, hle3⟩)
  refine bodyPost_end (results_none rfl _ _ _) rfl ?_
  refine ⟨rfl, bs3, bad3, v3, hs3, ?_, HF4.out.trans hf3, (by have h1 := HW1.out.len; have h2 := HLE2.out; simp only [List.length_cons, List.length_nil] at h1; omega)⟩
  have := (HW1.out.trans HW2.out).trans hwr3
  rw [List.append_assoc] at this
  exact this
end form
/- Places as bytes, the program's own (code.writer.placed, code.Put). -/
namespace form
open Go.RowKit
set_option maxRecDepth 100000
attribute [local go_sem ↓] Go.wp_at_zero Go.wp_at_succ
theorem small_second {x y : Int} {xs bs cs : List Int} {bad : Bool} (h : Wrote (x :: y :: xs) bs bad cs false) : y ≤ 255 := by
  have hb := h.bad
  cases hs : smallB (x :: y :: xs) with
  | false => rw [hs] at hb; simp at hb
  | true => rw [small_cons, small_cons] at hs; exact hs.2.1.2
set_option maxHeartbeats 2000000 in
theorem placedW {w0 : World} {base b : Nat} {bs : List Int} {bad : Bool} {v : Value} {w : World} (h : WtS w0 base b bs bad v w) (lv : Value) (slots : Int) (R : List LRow) (hp : PlacedIs w0 lv slots R) (hn : RowsOk R) (hl : bs.length ≤ 1000) :
    Calls Tryz.prog 77 #[.pointer (some ⟨b, 0, none⟩), lv] w fun e w' => WroteC 1172492 w0 base b (putB slots R) bs bad v w e w' := by
  obtain ⟨ao, cap, rfl, hl63, hc⟩ := hp
  have HC : Hid _ := hc
  have HN : Hid (RowsOk R) := hn
  have HL : Hid (bs.length ≤ 1000) := hl
  have z0 : (R.length : Int) ≤ 9223372036854775807 := by omega
  have hbl : b < w.heap.size := h.box.lt
  obtain ⟨w1, hw1⟩ : ∃ w1, w1 = w.alloc (.cells #[.int .i64 slots, .slice ao R.length cap] 98) := ⟨_, rfl⟩
  have hlb1 : Below w.heap.size w w1 := by rw [hw1]; exact (Below.refl _ _).alloc (Nat.le_refl _) _
  have hr1 : Row w1 w.heap.size 98 [.int .i64 slots, .slice ao R.length cap] := by rw [hw1]; exact Row.new _ _ _
  have hz1 : w1.heap.size = w.heap.size + 1 := by rw [hw1]; simp
  obtain ⟨w2, hw2⟩ : ∃ w2, w2 = w1.alloc (.cells #[.int .i64 slots, .int .i64 R.length] 3) := ⟨_, rfl⟩
  have hlb2 : Below w1.heap.size w1 w2 := by rw [hw2]; exact (Below.refl _ _).alloc (Nat.le_refl _) _
  have hr2 : Row w2 (w.heap.size + 1) 3 ([slots, (R.length : Int)].map iV) := by rw [hw2, ← hz1]; exact Row.new _ _ _
  have HR2 : Hid (Row w2 w.heap.size 98 [.int .i64 slots, .slice ao R.length cap]) := hr1.below hlb2
  have HV : Hid (v.ownBlock ≠ some w.heap.size) := fun e => by have := (h.own_ge e).2; omega
  have HPUT : Hid (Calls Tryz.prog 115 #[.pointer (some ⟨b, 0, none⟩), .slice (some ⟨w.heap.size + 1, 0, none⟩) 2 2] w2 fun e w' => WroteP w0 base b [slots, (R.length : Int)] bs bad v w2 e w') :=
    putW ((h.below hlb1).below hlb2) (w.heap.size + 1) _ hr2 (by omega) (fun e => by have := (h.own_ge e).2; omega) (by simp only [List.length_cons, List.length_nil]; omega)
  have HF2 : Hid (WtF b v w v w2) := (WtF.of_below hlb1).trans (WtF.of_below hlb2)
  rw [hw1] at hw2
  have HW2 : Hid (w2 = (w.alloc (.cells #[.int .i64 slots, .slice ao R.length cap] 98)).alloc (.cells #[.int .i64 slots, .int .i64 R.length] 3)) := hw2
  clear h hn hl hlb1 hlb2 hr1 hr2 hz1 hw1 hw2 hc
  go_enter Tryz.func77, Tryz.ntmps77
  go_upto_region 2 with (rw [← HW2.out]; go_at_call 115; refine HPUT.out.mono ?_; rintro e w3 ⟨rfl, bs1, bad1, v1, hs1, hwr1, hf1⟩; have HS1 : Hid (WtS w0 base b bs1 bad1 v1 w3) := hs1; have HW1 : Hid (Wrote [slots, (R.length : Int)] bs bad bs1 bad1) := hwr1; have HF3 : Hid (WtF b v w v1 w3) := HF2.out.trans hf1; have c1 : w3.cell? ⟨w.heap.size, 1, none⟩ = some (.slice ao R.length cap) := (hf1.rows HR2.out (Ne.symm (Nat.ne_of_lt hbl)) HV.out).cell 1; clear hs1 hwr1 hf1)
  clear HPUT HF2 HW2 HR2 HV
  go_wp2
  clear c1 hbl
  go_loopg [5, 17] (R.length + 1) (fun gg t5 t wr => ∃ (k : Nat) (cs : List Int) (bc : Bool) (vc : Value), t = .int .i64 k ∧ (k ≤ R.length ∧ k ≤ 255 ∧ cs.length ≤ bs.length + (2 + 4598 * k)) ∧ gg = R.length + 1 - k ∧ WtS w0 base b cs bc vc wr ∧ Wrote (slots :: (R.length : Int) :: putRows (R.take k)) bs bad cs bc ∧ WtF b v w vc wr)
  case atStart => exact ⟨0, bs1, bad1, v1, rfl, ⟨by omega, by omega, by have h1 := HW1.out.len; simp only [List.length_cons, List.length_nil] at h1; omega⟩, by omega, HS1.out, by simpa [putRows] using HW1.out, HF3.out⟩
  case round =>
    clear HS1 HW1 HF3
    obtain ⟨k, cs, bc, vc, rfl, ⟨hk, hk5, hcl⟩, hgk, hs, hwr, hf⟩ := hrel
    have HCB : Hid (cs.length ≤ bs.length + 1172492 ∧ cs.length ≤ bs.length + (2 + 4598 * k)) := ⟨by omega, hcl⟩
    have HGK : Hid (gk = R.length + 1 - k) := hgk
    have HS : Hid (WtS w0 base b cs bc vc wr) := hs
    have HWR : Hid (Wrote (slots :: (R.length : Int) :: putRows (R.take k)) bs bad cs bc) := hwr
    have HF : Hid (WtF b v w vc wr) := hf
    have b1 : wr.cell? ⟨b, 1, none⟩ = some (.bool bc) := hs.box.cell 1
    have hbl : b < wr.heap.size := hs.box.lt
    clear hgk hs hwr hf hk5 hcl
    by_cases hlt : k < R.length
    case neg =>
      have y1 : ¬ (k : Int) < (R.length : Int) := by omega
      go_wp2
      refine bodyPost_end (results_none rfl _ _ _) rfl ?_
      have e : R.take k = R := List.take_of_length_le (by omega)
      have e2 := HWR.out
      rw [e] at e2
      exact ⟨rfl, cs, bc, _, HS.out, e2, HF.out, HCB.out.1⟩
    have y1 : (k : Int) < (R.length : Int) := by omega
    have y0 : (0 : Int) ≤ (k : Int) := by omega
    obtain ⟨b2, o2, rfl, hrh⟩ := HC.out (by omega)
    obtain ⟨f0, f1, f2, f3, f4, f5, vb, va, f6, f7, mb, ma⟩ := hrh.rows k hlt
    have f0 := step_cell HS.out.bel f0
    have f1 := step_cell HS.out.bel f1
    have f2 := step_cell HS.out.bel f2
    have f3 := step_cell HS.out.bel f3
    have f4 := step_cell HS.out.bel f4
    have f5 := step_cell HS.out.bel f5
    have f6 := step_cell HS.out.bel f6
    have f7 := step_cell HS.out.bel f7
    have hb2l : b2 < wr.heap.size := World.block_lt_of_cell? _ _ f0
    obtain ⟨nb, na⟩ := HN.out k hlt
    obtain ⟨r, hr⟩ : ∃ r, r = R.getD k .zero := ⟨_, rfl⟩
    rw [← hr] at f0 f1 f2 f3 f4 f5 mb ma nb na
    have HRK : Hid (r = R.getD k .zero) := hr
    have HMB : Hid (MovesIs w0 vb r.before) := mb
    have HMA : Hid (MovesIs w0 va r.after) := ma
    have HNB : Hid (MovesOk r.before) := nb
    have HNA : Hid (MovesOk r.after) := na
    obtain ⟨bo, bcp, hvb, -, -⟩ := mb
    obtain ⟨aao, acp, hva, -, -⟩ := ma
    subst hvb
    subst hva
    clear hr nb na hrh
    cases bc with
    | true =>
      go_wp2
      refine bodyPost_ret (results_none rfl _ _ _) rfl ?_
      refine ⟨rfl, cs, true, vc, HS.out.below ((Below.refl _ _).alloc (Nat.le_refl _) _), ?_, HF.out.trans (WtF.of_below ((Below.refl _ _).alloc (Nat.le_refl _) _)), HCB.out.1⟩
      have := HWR.out.stop (ys := putRows (R.drop k))
      unfold putRows at this
      rw [List.cons_append, List.cons_append, ← List.flatMap_append, List.take_append_drop] at this
      exact this
    | false =>
      obtain ⟨w4, hw4⟩ : ∃ w4, w4 = wr.alloc (.cells #[.int .i64 r.dest.kind, .int .i64 r.dest.n, .int .i64 r.a.kind, .int .i64 r.a.n, .int .i64 r.b.kind, .int .i64 r.b.n, .slice bo r.before.length bcp, .slice aao r.after.length acp] 140) := ⟨_, rfl⟩
      have hlb : Below wr.heap.size wr w4 := by rw [hw4]; exact (Below.refl _ _).alloc (Nat.le_refl _) _
      have HMV : Hid (Calls Tryz.prog 116 #[.pointer (some ⟨b, 0, none⟩), .agg #[.int .i64 r.dest.kind, .int .i64 r.dest.n, .int .i64 r.a.kind, .int .i64 r.a.n, .int .i64 r.b.kind, .int .i64 r.b.n, .slice bo r.before.length bcp, .slice aao r.after.length acp]] w4 fun e w' => WroteC 4598 w0 base b (putRow r) cs false vc w4 e w') :=
        rowWC (HS.out.below hlb) r _ _ HMB.out HMA.out HNB.out HNA.out (by have := HCB.out; have := HL.out; omega)
      have HF4 : Hid (WtF b v w vc w4) := HF.out.trans (WtF.of_below hlb)
      have HW4 : Hid (w4 = wr.alloc (.cells #[.int .i64 r.dest.kind, .int .i64 r.dest.n, .int .i64 r.a.kind, .int .i64 r.a.n, .int .i64 r.b.kind, .int .i64 r.b.n, .slice bo r.before.length bcp, .slice aao r.after.length acp] 140)) := hw4
      clear hlb hw4
      go_wp2_with (rw [← HW4.out]; go_at_call 116; refine HMV.out.mono ?_; rintro e w5 ⟨rfl, cs2, bc2, vc2, hs2, hw2, hf2, hle2⟩; have HLE2 : Hid (cs2.length ≤ cs.length + 4598) := hle2; clear hle2; have HS2 : Hid (WtS w0 base b cs2 bc2 vc2 w5) := hs2; have HW2 : Hid (Wrote (putRow r) cs false cs2 bc2) := hw2; have HF5 : Hid (WtF b v w vc2 w5) := HF4.out.trans hf2; clear hs2 hw2 hf2)
      have hgk := HGK.out
      go_roundg (gk - 1)
      case measure => omega
      case rel =>
        refine ⟨k + 1, cs2, bc2, vc2, by go_num, ⟨by omega, by have := small_second HWR.out; omega, by have h1 := HLE2.out; have h2 := HCB.out.2; omega⟩, by omega, HS2.out, ?_, HF5.out⟩
        have := HWR.out.trans HW2.out
        unfold putRows at this ⊢
        rw [take_flat (z := .zero) hlt, ← HRK.out]
        simpa using this
theorem WtS.bytes {w0 : World} {base b : Nat} {bs : List Int} {bad : Bool} {v : Value} {w : World} (h : WtS w0 base b bs bad v w) (hl : bs.length ≤ 1099511627776) : BytesIs w v bs := by
  have hall : ∀ j, j < bs.length → 0 ≤ bs.getD j 0 ∧ bs.getD j 0 ≤ 255 := fun j hj => h.all _ (by simp [List.getD, hj])
  rcases h.own.2 with ⟨e, e2⟩ | ⟨g, cap, cur, e, hg, hc, hn, hm, hs, ht⟩
  · exact ⟨none, 0, by rw [e, e2], by omega, by omega, hall, fun hx => absurd hx (by omega)⟩
  · refine ⟨_, cap, e, hn, by omega, hall, fun hx => ⟨g, 0, rfl, (World.ownsRow.lt h.own g (by rw [e]; rfl)).2, fun j hj => ?_⟩⟩
    have ho := h.own
    rw [e] at ho
    rw [Nat.zero_add, World.ownsRow.cellAt ho j (by omega)]
    simp [List.getD, hj, bV]
set_option maxHeartbeats 1000000 in
theorem putF (lv : Value) (slots : Int) (R : List LRow) (w : World) (hp : PlacedIs w lv slots R) (hn : RowsOk R) :
    Calls Tryz.prog 42 #[lv] w fun e w' => OwnPut w slots R e w' := by
  have HP : Hid (PlacedIs w lv slots R) := hp
  have HN : Hid (RowsOk R) := hn
  obtain ⟨ao, cap, rfl, -, -⟩ := hp
  obtain ⟨w1, hw1⟩ : ∃ w1, w1 = w.alloc (.cells #[.int .i64 slots, .slice ao R.length cap] 98) := ⟨_, rfl⟩
  have hlb1 : Below w.heap.size w w1 := by rw [hw1]; exact (Below.refl _ _).alloc (Nat.le_refl _) _
  have hz1 : w1.heap.size = w.heap.size + 1 := by rw [hw1]; simp
  obtain ⟨w2, hw2⟩ : ∃ w2, w2 = w1.alloc (.cells #[.slice none 0 0, .bool false] 148) := ⟨_, rfl⟩
  have hlb2 : Below w1.heap.size w1 w2 := by rw [hw2]; exact (Below.refl _ _).alloc (Nat.le_refl _) _
  have hs : WtS w (w.heap.size + 2) (w.heap.size + 1) [] false (.slice none 0 0) w2 :=
    ⟨by rw [hw2, ← hz1]; exact Row.new _ _ _, World.ownsRow_nil _ _ _ _, by omega, by rw [hw2]; simp [hz1], fun x hx => by simp at hx, step_below hlb2 hlb1, by omega⟩
  have HPL : Hid (Calls Tryz.prog 77 #[.pointer (some ⟨w.heap.size + 1, 0, none⟩), .agg #[.int .i64 slots, .slice ao R.length cap]] w2 fun e w' => WroteC 1172492 w (w.heap.size + 2) (w.heap.size + 1) (putB slots R) [] false (.slice none 0 0) w2 e w') :=
    placedW hs _ slots R HP.out HN.out (by simp)
  rw [hw1] at hw2
  have HW2 : Hid (w2 = (w.alloc (.cells #[.int .i64 slots, .slice ao R.length cap] 98)).alloc (.cells #[.slice none 0 0, .bool false] 148)) := hw2
  clear hn hlb1 hlb2 hz1 hs hw1 hw2
  go_enter Tryz.func42, Tryz.ntmps42
  go_upto_region 3 with (rw [← HW2.out]; go_at_call 77; refine HPL.out.mono ?_; rintro e w3 ⟨rfl, bs, bad, v, hs, hwr, hf, hle⟩; have HLE : Hid (bs.length ≤ 1172492) := Nat.le_trans hle (by simp); clear hle; have HS : Hid (WtS w (w.heap.size + 2) (w.heap.size + 1) bs bad v w3) := hs; have HW : Hid (Wrote (putB slots R) [] false bs bad) := hwr; clear hs hwr hf)
  clear HPL HW2
  obtain ⟨vo, vc, hv⟩ := HS.out.form
  subst hv
  have b0 : w3.cell? ⟨w.heap.size + 1, 0, none⟩ = some (.slice vo bs.length vc) := HS.out.box.cell 0
  have b1 : w3.cell? ⟨w.heap.size + 1, 1, none⟩ = some (.bool bad) := HS.out.box.cell 1
  cases bad with
  | true =>
    go_wp2
    go_ret2
    have := HW.out.bad
    exact ⟨HS.out.bel, _, _, rfl, Or.inr ⟨by revert this; cases smallB (putB slots R) <;> simp, rfl, ⟨none, 0, rfl, by simp, by simp, by simp, by simp⟩⟩⟩
  | false =>
    go_wp2
    go_ret2
    have h1 := HW.out.bad
    have h2 := HW.out.row rfl
    rw [List.nil_append] at h2
    subst h2
    exact ⟨HS.out.bel, _, _, rfl, Or.inl ⟨by revert h1; cases smallB (putB slots R) <;> simp, rfl, HS.out.bytes (Nat.le_trans HLE.out (by omega))⟩⟩
theorem putO (lv : Value) (slots : Int) (R : List LRow) (w : World) (hp : PlacedIs w lv slots R) (hn : RowsOk R) (hl : (putB slots R).length ≤ 1099511627776) :
    Calls Tryz.prog 42 #[lv] w fun e w' => OwnPut w slots R e w' := putF lv slots R w hp hn
end form
/- What the layers answer to scripts: all of it. -/
namespace form
theorem build_may : BuildMay buildF := build_mayB
theorem lay_is : LayIs (layOf buildF) := layIs runRun doneO buildO build_may putO
theorem lay_play : DriveSpec (layOf buildF) := playO (layOf buildF) lay_is lay_cap layLen
end form
section
theorem driveOn_holds : Rows.DriveOnUptoCardSaid := driveOn.card (form.layOf form.buildF) form.lay_play
end
end Go.Proofs.YtikhedkhgpjaaacGreatDoor
