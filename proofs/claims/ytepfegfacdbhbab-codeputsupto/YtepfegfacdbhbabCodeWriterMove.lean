/- A move as bytes, the program's own (code.writer.move). -/
import Derived.Test.YtepfegfacdbhbabCodeWriter
import Derived.Deep.RegionHeld3
import Derived.BigRegion
namespace Go.Proofs.Ytepfegfacdbhbab.form
open Go.RowKit
set_option linter.unusedVariables false
set_option maxRecDepth 100000
attribute [local go_sem ↓] Go.wp_at_zero Go.wp_at_succ

theorem flagW (c : Bool) (w : World) : Calls Try.prog 175 #[.bool c] w fun e w' => e = .returned (.int .i64 (bitI c)) ∧ Below w.heap.size w w' := by
  cases c
  · go_enter Try.func175, Try.ntmps175
    go_wp2
    go_ret
    exact ⟨rfl, Below.refl _ _⟩
  · go_enter Try.func175, Try.ntmps175
    go_wp2
    go_ret
    exact ⟨rfl, Below.refl _ _⟩

theorem and255 (x : Int) (h0 : 0 ≤ x) (h1 : x < 4294967296) : bits .and .u32 x 255 = x % 256 := bits_mask .u32 32 (by decide) (fun n a b => by simp [IntKind.wrap, IntKind.bits, IntKind.signed]; omega) 8 (by decide) x h0 h1

set_option maxHeartbeats 2000000 in
theorem moveW {w0 : World} {base b : Nat} {bs : List Int} {bad : Bool} {v : Value} {w : World} (h : WtS w0 base b bs bad v w) (m : LMove) (hm : 0 ≤ m.n ∧ m.n < 4294967296) (hl : bs.length + 9 ≤ 1099511627776) :
    Calls Try.prog 171 #[.pointer (some ⟨b, 0, none⟩), .agg #[.int .i64 m.dst.kind, .int .i64 m.dst.n, .int .i64 m.src.kind, .int .i64 m.src.n, .bool m.cst, .int .u32 m.n]] w fun e w' => WroteP w0 base b (putMove m) bs bad v w e w' := by
  have HW : Hid (WtS w0 base b bs bad v w) := h
  have HL : Hid (bs.length + 9 ≤ 1099511627776) := hl
  have hbl : b < w.heap.size := h.box.lt
  have HV : Hid (∀ k, w.heap.size ≤ k → v.ownBlock ≠ some k) := fun k hk e => by have := (h.own_ge e).2; omega
  clear h hl
  go_enter Try.func171, Try.ntmps171
  go_upto_region 1 with fail
  obtain ⟨w4, hw4⟩ : ∃ w4, w4 = w.alloc (.cells #[.int .i64 m.dst.kind, .int .i64 m.dst.n, .int .i64 m.src.kind, .int .i64 m.src.n, .bool m.cst, .int .u32 m.n] 158) := ⟨_, rfl⟩
  have HB4 : Hid (Below w.heap.size w w4) := by rw [hw4]; exact (Below.refl _ _).alloc (Nat.le_refl _) _
  have HR4 : Hid (Row w4 w.heap.size 158 [.int .i64 m.dst.kind, .int .i64 m.dst.n, .int .i64 m.src.kind, .int .i64 m.src.n, .bool m.cst, .int .u32 m.n]) := by rw [hw4]; exact Row.new _ _ _
  rw [← hw4]
  clear hw4
  obtain ⟨bx, hbx⟩ : ∃ bx, bx = w.heap.size := ⟨_, rfl⟩
  rw [← hbx] at HR4 ⊢
  have HBX : Hid (bx = w.heap.size) := hbx
  clear hbx
  refine wp_region_held_drew (S := (fun w' => Row w' bx 158 [.int .i64 m.dst.kind, .int .i64 m.dst.n, .int .i64 m.src.kind, .int .i64 m.src.n, .bool m.cst, .int .u32 m.n])) (by rfl) ?_ (fun hHeld => ?_)
  · (exact HR4.out)
  refine wpAnyH_take (i := 0) (v := ?_) rfl (by kernel_rfl) (by kernel_rfl) (by kernel_rfl) (fun _ _ _ h => h) (Or.inl ⟨by rfl, ?_⟩) (by assumption) ?_
  case refine_2 => (intro w hSw; (try dsimp only at hSw); go_simp; first | done | (with_reducible rfl))
  show wpAnyH _ _ _ _ _ _ _ (Act.put _ (some 4) _) _
  simp only [Act.put, List.setIfInBounds_toArray, List.set_cons_zero, List.set_cons_succ]
  refine wpAnyH_take (i := 1) (v := ?_) rfl (by kernel_rfl) (by kernel_rfl) (by kernel_rfl) (fun _ _ _ h => h) (Or.inl ⟨by rfl, ?_⟩) (by assumption) ?_
  case refine_2 => (intro w hSw; (try dsimp only at hSw); go_simp; first | done | (with_reducible rfl))
  show wpAnyH _ _ _ _ _ _ _ (Act.put _ (some 5) _) _
  simp only [Act.put, List.setIfInBounds_toArray, List.set_cons_zero, List.set_cons_succ]
  refine wpAnyH_take (i := 2) (v := ?_) rfl (by kernel_rfl) (by kernel_rfl) (by kernel_rfl) (fun _ _ _ h => h) (Or.inl ⟨by rfl, ?_⟩) (by assumption) ?_
  case refine_2 => (intro w hSw; (try dsimp only at hSw); go_simp; first | done | (with_reducible rfl))
  show wpAnyH _ _ _ _ _ _ _ (Act.put _ (some 6) _) _
  simp only [Act.put, List.setIfInBounds_toArray, List.set_cons_zero, List.set_cons_succ]
  refine wpAnyH_take (i := 3) (v := ?_) rfl (by kernel_rfl) (by kernel_rfl) (by kernel_rfl) (fun _ _ _ h => h) (Or.inl ⟨by rfl, ?_⟩) (by assumption) ?_
  case refine_2 => (intro w5 hSw; (try dsimp only at hSw); have q0 : w5.cell? ⟨bx, 0, none⟩ = some (.int .i64 m.dst.kind) := hSw.cell 0; have q1 : w5.cell? ⟨bx, 1, none⟩ = some (.int .i64 m.dst.n) := hSw.cell 1; have q2 : w5.cell? ⟨bx, 2, none⟩ = some (.int .i64 m.src.kind) := hSw.cell 2; have q3 : w5.cell? ⟨bx, 3, none⟩ = some (.int .i64 m.src.n) := hSw.cell 3; have q4 : w5.cell? ⟨bx, 4, none⟩ = some (.bool m.cst) := hSw.cell 4; go_simp; first | done | (with_reducible rfl))
  show wpAnyH _ _ _ _ _ _ _ (Act.put _ (some 7) _) _
  simp only [Act.put, List.setIfInBounds_toArray, List.set_cons_zero, List.set_cons_succ]
  refine wpAnyH_take (i := 4) (v := ?_) rfl (by kernel_rfl) (by kernel_rfl) (by kernel_rfl) (fun _ _ _ h => h) (Or.inl ⟨by rfl, ?_⟩) (by assumption) ?_
  case refine_2 => (intro w hSw; (try dsimp only at hSw); go_simp; first | done | (with_reducible rfl))
  show wpAnyH _ _ _ _ _ _ _ (Act.put _ (some 8) _) _
  simp only [Act.put, List.setIfInBounds_toArray, List.set_cons_zero, List.set_cons_succ]
  refine wpAnyH_take (i := 5) (v := ?_) rfl (by kernel_rfl) (by kernel_rfl) (by kernel_rfl) (fun _ _ _ h => h) (Or.inl ⟨by rfl, ?_⟩) (by assumption) ?_
  case refine_2 => (intro w hSw; (try dsimp only at hSw); go_simp; first | done | (with_reducible rfl))
  show wpAnyH _ _ _ _ _ _ _ (Act.put _ (some 9) _) _
  simp only [Act.put, List.setIfInBounds_toArray, List.set_cons_zero, List.set_cons_succ]
  refine wpAnyH_take (i := 6) (v := ?_) rfl (by kernel_rfl) (by kernel_rfl) (by kernel_rfl) (fun _ _ _ h => h) (Or.inl ⟨by rfl, ?_⟩) (by assumption) ?_
  case refine_2 => (intro w5 hSw; (try dsimp only at hSw); have q0 : w5.cell? ⟨bx, 0, none⟩ = some (.int .i64 m.dst.kind) := hSw.cell 0; have q1 : w5.cell? ⟨bx, 1, none⟩ = some (.int .i64 m.dst.n) := hSw.cell 1; have q2 : w5.cell? ⟨bx, 2, none⟩ = some (.int .i64 m.src.kind) := hSw.cell 2; have q3 : w5.cell? ⟨bx, 3, none⟩ = some (.int .i64 m.src.n) := hSw.cell 3; have q4 : w5.cell? ⟨bx, 4, none⟩ = some (.bool m.cst) := hSw.cell 4; go_simp; first | done | (with_reducible rfl))
  show wpAnyH _ _ _ _ _ _ _ (Act.put _ (some 10) _) _
  simp only [Act.put, List.setIfInBounds_toArray, List.set_cons_zero, List.set_cons_succ]
  refine wpAnyH_take (i := 7) (v := ?_) rfl (by kernel_rfl) (by kernel_rfl) (by kernel_rfl) (fun _ _ _ h => h) (Or.inl ⟨by rfl, ?_⟩) (by assumption) ?_
  case refine_2 => (intro w hSw; (try dsimp only at hSw); go_simp; first | done | (with_reducible rfl))
  show wpAnyH _ _ _ _ _ _ _ (Act.put _ (some 11) _) _
  simp only [Act.put, List.setIfInBounds_toArray, List.set_cons_zero, List.set_cons_succ]
  refine wpAnyH_take (i := 8) (v := ?_) rfl (by kernel_rfl) (by kernel_rfl) (by kernel_rfl) (fun _ _ _ h => h) (Or.inl ⟨by rfl, ?_⟩) (by assumption) ?_
  case refine_2 => (intro w hSw; (try dsimp only at hSw); go_simp; first | done | (with_reducible rfl))
  show wpAnyH _ _ _ _ _ _ _ (Act.put _ (some 12) _) _
  simp only [Act.put, List.setIfInBounds_toArray, List.set_cons_zero, List.set_cons_succ]
  refine wpAnyH_take (i := 9) (v := ?_) rfl (by kernel_rfl) (by kernel_rfl) (by kernel_rfl) (fun _ _ _ h => h) (Or.inl ⟨by rfl, ?_⟩) (by assumption) ?_
  case refine_2 => (intro w5 hSw; (try dsimp only at hSw); have q0 : w5.cell? ⟨bx, 0, none⟩ = some (.int .i64 m.dst.kind) := hSw.cell 0; have q1 : w5.cell? ⟨bx, 1, none⟩ = some (.int .i64 m.dst.n) := hSw.cell 1; have q2 : w5.cell? ⟨bx, 2, none⟩ = some (.int .i64 m.src.kind) := hSw.cell 2; have q3 : w5.cell? ⟨bx, 3, none⟩ = some (.int .i64 m.src.n) := hSw.cell 3; have q4 : w5.cell? ⟨bx, 4, none⟩ = some (.bool m.cst) := hSw.cell 4; go_simp; first | done | (with_reducible rfl))
  show wpAnyH _ _ _ _ _ _ _ (Act.put _ (some 13) _) _
  simp only [Act.put, List.setIfInBounds_toArray, List.set_cons_zero, List.set_cons_succ]
  refine wpAnyH_take (i := 10) (v := ?_) rfl (by kernel_rfl) (by kernel_rfl) (by kernel_rfl) (fun _ _ _ h => h) (Or.inl ⟨by rfl, ?_⟩) (by assumption) ?_
  case refine_2 => (intro w hSw; (try dsimp only at hSw); go_simp; first | done | (with_reducible rfl))
  show wpAnyH _ _ _ _ _ _ _ (Act.put _ (some 14) _) _
  simp only [Act.put, List.setIfInBounds_toArray, List.set_cons_zero, List.set_cons_succ]
  refine wpAnyH_take (i := 11) (v := ?_) rfl (by kernel_rfl) (by kernel_rfl) (by kernel_rfl) (fun _ _ _ h => h) (Or.inl ⟨by rfl, ?_⟩) (by assumption) ?_
  case refine_2 => (intro w hSw; (try dsimp only at hSw); go_simp; first | done | (with_reducible rfl))
  show wpAnyH _ _ _ _ _ _ _ (Act.put _ (some 15) _) _
  simp only [Act.put, List.setIfInBounds_toArray, List.set_cons_zero, List.set_cons_succ]
  refine wpAnyH_take (i := 12) (v := ?_) rfl (by kernel_rfl) (by kernel_rfl) (by kernel_rfl) (fun _ _ _ h => h) (Or.inl ⟨by rfl, ?_⟩) (by assumption) ?_
  case refine_2 => (intro w5 hSw; (try dsimp only at hSw); have q0 : w5.cell? ⟨bx, 0, none⟩ = some (.int .i64 m.dst.kind) := hSw.cell 0; have q1 : w5.cell? ⟨bx, 1, none⟩ = some (.int .i64 m.dst.n) := hSw.cell 1; have q2 : w5.cell? ⟨bx, 2, none⟩ = some (.int .i64 m.src.kind) := hSw.cell 2; have q3 : w5.cell? ⟨bx, 3, none⟩ = some (.int .i64 m.src.n) := hSw.cell 3; have q4 : w5.cell? ⟨bx, 4, none⟩ = some (.bool m.cst) := hSw.cell 4; go_simp; first | done | (with_reducible rfl))
  show wpAnyH _ _ _ _ _ _ _ (Act.put _ (some 16) _) _
  simp only [Act.put, List.setIfInBounds_toArray, List.set_cons_zero, List.set_cons_succ]
  refine wpAnyH_take (i := 13) (v := ?_) rfl (by kernel_rfl) (by kernel_rfl) (by kernel_rfl) (fun _ _ _ h => h) (Or.inl ⟨by rfl, ?_⟩) (by assumption) ?_
  case refine_2 => (intro w hSw; (try dsimp only at hSw); go_simp; first | done | (with_reducible rfl))
  show wpAnyH _ _ _ _ _ _ _ (Act.put _ (some 17) _) _
  simp only [Act.put, List.setIfInBounds_toArray, List.set_cons_zero, List.set_cons_succ]
  refine wpAnyH_take (i := 14) (v := ?_) rfl (by kernel_rfl) (by kernel_rfl) (by kernel_rfl) (fun _ _ _ h => h) (Or.inl ⟨by rfl, ?_⟩) (by assumption) ?_
  case refine_2 => (intro w5 hSw; (try dsimp only at hSw); have q0 : w5.cell? ⟨bx, 0, none⟩ = some (.int .i64 m.dst.kind) := hSw.cell 0; have q1 : w5.cell? ⟨bx, 1, none⟩ = some (.int .i64 m.dst.n) := hSw.cell 1; have q2 : w5.cell? ⟨bx, 2, none⟩ = some (.int .i64 m.src.kind) := hSw.cell 2; have q3 : w5.cell? ⟨bx, 3, none⟩ = some (.int .i64 m.src.n) := hSw.cell 3; have q4 : w5.cell? ⟨bx, 4, none⟩ = some (.bool m.cst) := hSw.cell 4; go_simp; first | done | (with_reducible rfl))
  show wpAnyH _ _ _ _ _ _ _ (Act.put _ (some 18) _) _
  simp only [Act.put, List.setIfInBounds_toArray, List.set_cons_zero, List.set_cons_succ]
  refine wpAnyH_ready (rs := [15]) (by kernel_rfl) (by simp) ?_
  refine (AllReadyH.cons rfl (fun K hK => ?_) AllReadyH.nil)
  go_simp
  refine (flagW m.cst _).mono ?_
  rintro e w5 ⟨rfl, hb5⟩
  have HB5 : Hid (Below w4.heap.size w4 w5) := step_below hb5 ((Below.refl _ _).drew)
  have HR5 : Hid (Row w5 bx 158 [.int .i64 m.dst.kind, .int .i64 m.dst.n, .int .i64 m.src.kind, .int .i64 m.src.n, .bool m.cst, .int .u32 m.n]) := HR4.out.below HB5.out
  clear hb5
  go_wp2_with fail
  refine hK.out _ _ ?_ (fun hHeld => ?_)
  · (exact HR5.out)
  clear hK K
  try simp only [Act.put, List.setIfInBounds_toArray, List.set_cons_zero, List.set_cons_succ]
  refine wpAnyH_ready (rs := [16]) (by kernel_rfl) (by simp) ?_
  refine (AllReadyH.cons rfl (fun K hK => ?_) AllReadyH.nil)
  go_simp
  refine hK.out _ _ ?_ (fun hHeld => ?_)
  · (exact HR5.out.alloc _)
  clear hK K
  try simp only [Act.put, List.setIfInBounds_toArray, List.set_cons_zero, List.set_cons_succ]
  have hws := (HW.out.below HB4.out).below HB5.out
  have hbx2 := HBX.out
  have hz4 := HB4.out.size
  have hz5 := HB5.out.size
  have hlb : Below w5.heap.size w5 (w5.alloc (.cells #[.int .i64 m.dst.kind, .int .i64 m.dst.n, .int .i64 m.src.kind, .int .i64 m.src.n, .int .i64 (bitI m.cst)] 3)) := (Below.refl _ _).alloc (Nat.le_refl _) _
  have HPUT := putW (hws.below hlb) w5.heap.size [m.dst.kind, m.dst.n, m.src.kind, m.src.n, bitI m.cst] (Row.new w5 _ _) (by omega) (HV.out _ (by omega)) (by have := HL.out; simp; omega)
  have HF : Hid (WtF b v w v (w5.alloc (.cells #[.int .i64 m.dst.kind, .int .i64 m.dst.n, .int .i64 m.src.kind, .int .i64 m.src.n, .int .i64 (bitI m.cst)] 3))) := ((WtF.of_below HB4.out).trans (WtF.of_below HB5.out)).trans (WtF.of_below hlb)
  have HX : Hid (Row (w5.alloc (.cells #[.int .i64 m.dst.kind, .int .i64 m.dst.n, .int .i64 m.src.kind, .int .i64 m.src.n, .int .i64 (bitI m.cst)] 3)) bx 158 [.int .i64 m.dst.kind, .int .i64 m.dst.n, .int .i64 m.src.kind, .int .i64 m.src.n, .bool m.cst, .int .u32 m.n]) := HR5.out.alloc _
  have hnx : v.ownBlock ≠ some bx := HV.out _ (by omega)
  have hxb : bx ≠ b := by omega
  clear hws hlb hz4 hz5 hbx2
  refine wpAnyH_ready (rs := [17]) (by kernel_rfl) (by simp) ?_
  refine (AllReadyH.cons rfl (fun K hK => ?_) AllReadyH.nil)
  go_simp
  refine HPUT.mono ?_
  rintro e w7 ⟨rfl, bs1, bad1, v1, hs1, hw1, hf1⟩
  have HS1 : Hid (WtS w0 base b bs1 bad1 v1 w7) := hs1
  have HW1 : Hid (Wrote [m.dst.kind, m.dst.n, m.src.kind, m.src.n, bitI m.cst] bs bad bs1 bad1) := hw1
  have HR7 : Hid (Row w7 bx 158 [.int .i64 m.dst.kind, .int .i64 m.dst.n, .int .i64 m.src.kind, .int .i64 m.src.n, .bool m.cst, .int .u32 m.n]) := hf1.rows HX.out hxb hnx
  have HF1 : Hid (WtF b v w v1 w7) := HF.out.trans hf1
  clear hs1 hw1 hf1 HF HX hnx hxb HR5 HB5 HR4 HB4 HPUT
  go_wp2_with fail
  refine hK.out _ _ ?_ (fun hHeld => ?_)
  · (exact HR7.out)
  clear hK K
  try simp only [Act.put, List.setIfInBounds_toArray, List.set_cons_zero, List.set_cons_succ]
  refine wpAnyH_done (by kernel_rfl) ?_ _
  clear hHeld
  have hz7 := HR7.out.lt
  have q5 : w7.cell? ⟨bx, 5, none⟩ = some (.int .u32 m.n) := HR7.out.cell 5
  obtain ⟨n, hn⟩ : ∃ n, n = m.n := ⟨_, rfl⟩
  rw [← hn] at q5 hm
  have HN : Hid (n = m.n) := hn
  clear hn
  obtain ⟨a0, ha0⟩ : ∃ a0, a0 = n / 16777216 := ⟨_, rfl⟩
  obtain ⟨a1, ha1⟩ : ∃ a1, a1 = n / 65536 % 256 := ⟨_, rfl⟩
  obtain ⟨a2, ha2⟩ : ∃ a2, a2 = n / 256 % 256 := ⟨_, rfl⟩
  obtain ⟨a3, ha3⟩ : ∃ a3, a3 = n % 256 := ⟨_, rfl⟩
  have e1 := and255 (n / 65536) (by omega) (by omega)
  have e2 := and255 (n / 256) (by omega) (by omega)
  have e3 := and255 n (by omega) (by omega)
  rw [← ha1] at e1
  rw [← ha2] at e2
  rw [← ha3] at e3
  have r0 : 0 ≤ a0 ∧ a0 ≤ 255 := by omega
  have r1 : 0 ≤ a1 ∧ a1 ≤ 255 := by omega
  have r2 : 0 ≤ a2 ∧ a2 ≤ 255 := by omega
  have r3 : 0 ≤ a3 ∧ a3 ≤ 255 := by omega
  have e0 : n / 16777216 = a0 := ha0.symm
  have HA : Hid (putMove m = [m.dst.kind, m.dst.n, m.src.kind, m.src.n, bitI m.cst] ++ [a0, a1, a2, a3]) := by
    show putMove m = _
    rw [ha0, ha1, ha2, ha3, HN.out]
    rfl
  obtain ⟨p1, hp1⟩ : ∃ p1, p1 = n / 65536 := ⟨_, rfl⟩
  obtain ⟨p2, hp2⟩ : ∃ p2, p2 = n / 256 := ⟨_, rfl⟩
  have HQ : Hid (WtF b v w v1 (w7.alloc (.cells #[.int .i64 a0, .int .i64 a1, .int .i64 a2, .int .i64 a3] 3))) := HF1.out.trans (WtF.of_below ((Below.refl _ _).alloc (Nat.le_refl _) _))
  have HPUT : Hid (Calls Try.prog 119 #[.pointer (some ⟨b, 0, none⟩), .slice (some ⟨w7.heap.size, 0, none⟩) 4 4] (w7.alloc (.cells #[.int .i64 a0, .int .i64 a1, .int .i64 a2, .int .i64 a3] 3)) fun e w' => WroteP w0 base b [a0, a1, a2, a3] bs1 bad1 v1 (w7.alloc (.cells #[.int .i64 a0, .int .i64 a1, .int .i64 a2, .int .i64 a3] 3)) e w') := by
    have hlb : Below w7.heap.size w7 (w7.alloc (.cells #[.int .i64 a0, .int .i64 a1, .int .i64 a2, .int .i64 a3] 3)) := (Below.refl _ _).alloc (Nat.le_refl _) _
    have hb7 := HS1.out.box.lt
    have := putW (HS1.out.below hlb) w7.heap.size [a0, a1, a2, a3] (Row.new w7 _ _) (by omega) (fun e => by have := (HS1.out.own_ge e).2; omega) (by have h1 := HW1.out.len; have h2 := HL.out; simp only [List.length_cons, List.length_nil] at h1 ⊢; omega)
    exact this
  clear ha0 ha1 ha2 ha3 hp1 hp2
  go_wp2_with (go_at_call 119; refine HPUT.out.mono ?_; rintro e w9 ⟨rfl, bs2, bad2, v2, hs2, hw2, hf2⟩)
  refine bodyPost_end (results_none rfl _ _ _) rfl ?_
  refine ⟨rfl, bs2, bad2, v2, hs2, ?_, HQ.out.trans hf2⟩
  rw [HA.out]
  exact HW1.out.trans hw2

end Go.Proofs.Ytepfegfacdbhbab.form
