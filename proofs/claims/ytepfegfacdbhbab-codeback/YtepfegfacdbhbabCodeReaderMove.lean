/- A move read out of bytes, the program's own (code.reader.flag, number, move). -/
import Derived.Test.YtepfegfacdbhbabCodeReader
namespace Go.Proofs.Ytepfegfacdbhbab.form
open Go.RowKit
set_option linter.unusedVariables false
set_option maxRecDepth 100000
attribute [local go_sem ↓] Go.wp_at_zero Go.wp_at_succ

theorem RdX.mark {w0 : World} {b : Nat} {rest : List Int} {bad : Bool} {w : World} (h : RdX w0 b rest bad w) : RdX w0 b rest true (w.setCell ⟨b, 1, none⟩ (.bool true)) := h.elim fun rv h => ⟨rv, by have := h.box.set 1 (.bool true); simpa using this, h.is, h.bel.setCell h.lo _, h.lo⟩

def FlagP (w0 : World) (b : Nat) (rest : List Int) (bad : Bool) (w : World) (e : Ending) (w' : World) : Prop :=
  e = .returned (.bool (decide (rest.getD 0 0 = 1))) ∧ RdX w0 b (rest.drop 1) (bad || decide (rest.length < 1) || decide (1 < rest.getD 0 0)) w' ∧ OffB b w w'

set_option maxHeartbeats 1000000 in
theorem flagR {w0 : World} {b : Nat} {rest : List Int} {bad : Bool} {w : World} (h : RdX w0 b rest bad w) :
    Calls Try.prog 176 #[.pointer (some ⟨b, 0, none⟩)] w fun e w' => FlagP w0 b rest bad w e w' := by
  obtain ⟨x, hx⟩ : ∃ x, x = rest.getD 0 0 := ⟨_, rfl⟩
  obtain ⟨x0, x1⟩ := h.byte 0
  have HN : Hid (Calls Try.prog 121 #[.pointer (some ⟨b, 0, none⟩)] w fun e w' => ReadP w0 b 1 rest bad (.int .i64 x) w e w') := by rw [hx]; exact nextR h
  have HF : Hid (∀ w', RdX w0 b (rest.drop 1) (bad || decide (rest.length < 1) || decide (1 < x)) w' → OffB b w w' → FlagP w0 b rest bad w (.returned (.bool (decide (x = 1)))) w') := fun w' h1 h2 => by
    unfold FlagP
    rw [← hx]
    exact ⟨rfl, h1, h2⟩
  rw [← hx] at x0 x1
  have hbl := h.lt
  clear hx h
  go_enter Try.func176, Try.ntmps176
  go_upto_region 2 with (go_at_call 121; refine HN.out.mono ?_; rintro e w2 ⟨rfl, hx2, ho2⟩; have HX2 : Hid (RdX w0 b (rest.drop 1) (bad || decide (rest.length < 1)) w2) := hx2; have HO2 : Hid (OffB b w w2) := ho2; clear hx2 ho2)
  clear HN
  by_cases hb : 1 < x
  · have c1 : ∃ bd, w2.cell? ⟨b, 1, none⟩ = some (.bool bd) := HX2.out.elim fun rv h => ⟨_, h.box.cell 1⟩
    obtain ⟨bd, c1⟩ := c1
    have f1 : w2.frozen? ⟨b, 1, none⟩ = false := HX2.out.elim fun rv h => h.box.frozen 1
    have e1 : (x == 1) = false := by simp; omega
    have d1 : decide (x = 1) = false := by simp; omega
    have d2 : decide (1 < x) = true := by simp; omega
    rw [d1, d2] at HF
    clear d1 d2
    go_wp2
    go_ret
    exact HF.out _ (by rw [Bool.or_true]; exact HX2.out.mark) (HO2.out.set (Or.inr rfl) _)
  · have d2 : decide (1 < x) = false := by simp; omega
    rw [d2, Bool.or_false] at HF
    clear d2
    rcases (show x = 0 ∨ x = 1 by omega) with rfl | rfl
    · go_wp2
      go_ret
      exact HF.out _ HX2.out HO2.out
    · go_wp2
      go_ret
      exact HF.out _ HX2.out HO2.out

/-- The number of the first k bytes. -/
def accN (rest : List Int) : Nat → Int
  | 0 => 0
  | k + 1 => accN rest k * 256 + rest.getD k 0
theorem wraps_u32 (n : Int) (h₀ : 0 ≤ n) (h₁ : n < 2 ^ 32) : IntKind.u32.wrap n = n := by rw [IntKind.wrap_u32]; omega
theorem accN_4 (rest : List Int) : accN rest 4 = rest.getD 0 0 * 16777216 + rest.getD 1 0 * 65536 + rest.getD 2 0 * 256 + rest.getD 3 0 := by
  simp only [accN]
  omega

set_option maxHeartbeats 1000000 in
theorem numberR {w0 : World} {b : Nat} {rest : List Int} {bad : Bool} {w : World} (h : RdX w0 b rest bad w) :
    Calls Try.prog 177 #[.pointer (some ⟨b, 0, none⟩)] w fun e w' => ReadP w0 b 4 rest bad (.int .u32 (accN rest 4)) w e w' := by
  have HX : Hid (RdX w0 b rest bad w) := h
  have HBY : Hid (∀ k, 0 ≤ rest.getD k 0 ∧ rest.getD k 0 ≤ 255) := fun k => h.byte k
  clear h
  go_enter Try.func177, Try.ntmps177
  go_wp2
  go_loopg [3, 4] 5 (fun gg t3 t4 wr => ∃ (k : Nat) (x : Int), t4 = .int .i64 k ∧ k ≤ 4 ∧ gg = 5 - k ∧ t3 = .int .u32 x ∧ x = accN rest k ∧ (0 ≤ x ∧ x < 256 ^ k) ∧ RdX w0 b (rest.drop k) (bad || decide (rest.length < k)) wr ∧ OffB b w wr)
  case atStart => exact ⟨0, 0, rfl, by omega, rfl, rfl, rfl, by simp, by simpa using HX.out, OffB.refl _ _⟩
  case round =>
    obtain ⟨k, x, rfl, hk, hgk, rfl, hx, hxb, hrx, hof⟩ := hrel
    have HGK : Hid (gk = 5 - k) := hgk
    have HXA : Hid (x = accN rest k) := hx
    have HRX : Hid (RdX w0 b (rest.drop k) (bad || decide (rest.length < k)) wr) := hrx
    have HOF : Hid (OffB b w wr) := hof
    have HXB : Hid (0 ≤ x ∧ x < 256 ^ k) := hxb
    clear hgk hx hrx hof hxb
    by_cases hlt : k < 4
    case neg =>
      obtain rfl : k = 4 := by omega
      go_wp2
      go_ret
      rw [HXA.out]
      exact ⟨rfl, HRX.out, HOF.out⟩
    have y1 : (k : Int) < 4 := by omega
    obtain ⟨y, hy⟩ : ∃ y, y = (rest.drop k).getD 0 0 := ⟨_, rfl⟩
    have hyk : y = rest.getD k 0 := by rw [hy, getD_dropI]; simp
    obtain ⟨q0, q1⟩ := HBY.out k
    rw [← hyk] at q0 q1
    have HN : Hid (Calls Try.prog 121 #[.pointer (some ⟨b, 0, none⟩)] wr fun e w' => ReadP w0 b 1 (rest.drop k) (bad || decide (rest.length < k)) (.int .i64 y) wr e w') := by rw [hy]; exact nextR HRX.out
    have hx24 : 0 ≤ x ∧ x < 16777216 := by
      have := HXB.out
      refine ⟨this.1, Int.lt_of_lt_of_le this.2 ?_⟩
      rcases (show k = 0 ∨ k = 1 ∨ k = 2 ∨ k = 3 by omega) with rfl | rfl | rfl | rfl <;> decide
    obtain ⟨x0, x1⟩ := hx24
    have hw : IntKind.u32.wrap (x * 256) = x * 256 := wraps_u32 _ (by omega) (by omega)
    have hwy : IntKind.u32.wrap y = y := wraps_u32 _ (by omega) (by omega)
    obtain ⟨z, hz⟩ : ∃ z, z = x * 256 + y := ⟨_, rfl⟩
    have ho : bits .or .u32 (x * 256) y = z := by rw [hz]; exact bits_join .u32 32 (by decide) wraps_u32 8 _ _ (by omega) (by omega) (by omega) (by omega) (by omega) (by omega)
    have HZ : Hid (z = x * 256 + y) := hz
    have HYK : Hid (y = rest.getD k 0) := hyk
    clear hz hy hyk
    go_wp2_with (go_at_call 121; refine HN.out.mono ?_; rintro e w2 ⟨rfl, hx2, ho2⟩; have HX2 : Hid (RdX w0 b (rest.drop (k + 1)) (bad || decide (rest.length < k + 1)) w2) := hx2.more (by omega); have HO2 : Hid (OffB b w w2) := HOF.out.trans ho2; clear hx2 ho2)
    have hgk := HGK.out
    go_roundg (gk - 1)
    case measure => omega
    case rel =>
      refine ⟨k + 1, z, by go_num, by omega, by omega, rfl, ?_, ?_, HX2.out, HO2.out⟩
      · rw [HZ.out, HXA.out, HYK.out]; rfl
      · have := HXB.out
        rw [HZ.out, Int.pow_succ]
        omega

/-- Two boxes of the call's own: the answer's, and one that is written. -/
structure BxS (w : World) (b : Nat) (t : TypeId) (z cs : List Value) (wr : World) : Prop where
  res : Row wr w.heap.size t z
  box : Row wr (w.heap.size + 1) t cs
  off : OffB b w wr
section
variable {w : World} {b : Nat} {t : TypeId} {z cs : List Value} {wr w1 : World}
theorem BxS.call (h : BxS w b t z cs wr) (hb : b < w.heap.size) (ho : OffB b wr w1) : BxS w b t z cs w1 := ⟨ho.rows h.res (by omega), ho.rows h.box (by omega), h.off.trans ho⟩
theorem BxS.put (h : BxS w b t z cs wr) (j : Nat) (u : Value) : BxS w b t z (cs.set j u) (wr.setCell ⟨w.heap.size + 1, j, none⟩ u) := ⟨h.res.other (by dsimp only; omega) _, h.box.set j u, h.off.set (Or.inl (by dsimp only; omega)) _⟩
theorem BxS.new (w : World) (b : Nat) (t : TypeId) (z : List Value) : BxS w b t z z ((w.alloc (.cells z.toArray t)).alloc (.cells z.toArray t)) := by
  refine ⟨(Row.new w t z).alloc _, ?_, ((OffB.refl b w).alloc _).alloc _⟩
  have := Row.new (w.alloc (.cells z.toArray t)) t z
  rw [show (w.alloc (.cells z.toArray t)).heap.size = w.heap.size + 1 by simp] at this
  exact this
end

def MoveP (w0 : World) (b : Nat) (rest : List Int) (bad : Bool) (w : World) (e : Ending) (w' : World) : Prop :=
  e = .returned (.agg #[.int .i64 (mk9 rest).dst.kind, .int .i64 (mk9 rest).dst.n, .int .i64 (mk9 rest).src.kind, .int .i64 (mk9 rest).src.n, .bool (mk9 rest).cst, .int .u32 (mk9 rest).n]) ∧ RdX w0 b (rest.drop 9) (bad || bad9 rest) w' ∧ OffB b w w'

theorem bad9_or (bad : Bool) (rest : List Int) : (bad || decide (rest.length < 4) || decide ((rest.drop 4).length < 1) || decide (1 < (rest.drop 4).getD 0 0) || decide (((rest.drop 4).drop 1).length < 4)) = (bad || bad9 rest) := by
  unfold bad9
  rw [getD_dropI, List.length_drop, List.drop_drop, List.length_drop]
  simp only [Nat.add_zero]
  by_cases h9 : rest.length < 9
  · have h1 : (decide (rest.length < 4) || decide (rest.length - 4 < 1) || decide (rest.length - (4 + 1) < 4)) = true := by
      rw [← Bool.decide_or, ← Bool.decide_or]
      exact decide_eq_true (by omega)
    revert h1
    rw [show decide (rest.length < 9) = true from decide_eq_true h9]
    cases bad <;> cases decide (rest.length < 4) <;> cases decide (rest.length - 4 < 1) <;> cases decide (1 < rest.getD 4 0) <;> cases decide (rest.length - (4 + 1) < 4) <;> simp
  · rw [show decide (rest.length < 4) = false from decide_eq_false (by omega), show decide (rest.length - 4 < 1) = false from decide_eq_false (by omega), show decide (rest.length - (4 + 1) < 4) = false from decide_eq_false (by omega), show decide (rest.length < 9) = false from decide_eq_false h9]
    simp

set_option maxHeartbeats 2000000 in
theorem moveR {w0 : World} {b : Nat} {rest : List Int} {bad : Bool} {w : World} (h : RdX w0 b rest bad w) :
    Calls Try.prog 172 #[.pointer (some ⟨b, 0, none⟩)] w fun e w' => MoveP w0 b rest bad w e w' := by
  obtain ⟨w1, hw1⟩ : ∃ w1, w1 = (w.alloc (.cells #[.int .i64 0, .int .i64 0, .int .i64 0, .int .i64 0, .bool false, .int .u32 0] 158)).alloc (.cells #[.int .i64 0, .int .i64 0, .int .i64 0, .int .i64 0, .bool false, .int .u32 0] 158) := ⟨_, rfl⟩
  have HB1 : Hid (BxS w b 158 [.int .i64 0, .int .i64 0, .int .i64 0, .int .i64 0, .bool false, .int .u32 0] [.int .i64 0, .int .i64 0, .int .i64 0, .int .i64 0, .bool false, .int .u32 0] w1) := by rw [hw1]; exact BxS.new w b 158 [.int .i64 0, .int .i64 0, .int .i64 0, .int .i64 0, .bool false, .int .u32 0]
  have HX1 : Hid (RdX w0 b rest bad w1) := by rw [hw1]; exact h.below (((Below.refl _ _).alloc (Nat.le_refl _) _).alloc (by simp) _)
  have HW1 : Hid (w1 = (w.alloc (.cells #[.int .i64 0, .int .i64 0, .int .i64 0, .int .i64 0, .bool false, .int .u32 0] 158)).alloc (.cells #[.int .i64 0, .int .i64 0, .int .i64 0, .int .i64 0, .bool false, .int .u32 0] 158)) := hw1
  have hbl := h.lt
  have hb1 : b < w.heap.size + 1 := by omega
  obtain ⟨a0, h0⟩ : ∃ a0, a0 = rest.getD 0 0 := ⟨_, rfl⟩
  obtain ⟨a1, h1⟩ : ∃ a1, a1 = rest.getD 1 0 := ⟨_, rfl⟩
  obtain ⟨a2, h2⟩ : ∃ a2, a2 = (rest.drop 2).getD 0 0 := ⟨_, rfl⟩
  obtain ⟨a3, h3⟩ : ∃ a3, a3 = (rest.drop 2).getD 1 0 := ⟨_, rfl⟩
  obtain ⟨a4, h4⟩ : ∃ a4, a4 = (rest.drop 4).getD 0 0 := ⟨_, rfl⟩
  obtain ⟨n, hn⟩ : ∃ n, n = accN ((rest.drop 4).drop 1) 4 := ⟨_, rfl⟩
  have HM : Hid (mk9 rest = ⟨⟨a0, a1⟩, ⟨a2, a3⟩, decide (a4 = 1), n⟩) := by
    show mk9 rest = ⟨⟨a0, a1⟩, ⟨a2, a3⟩, decide (a4 = 1), n⟩
    rw [h0, h1, h2, h3, h4, hn, accN_4]
    simp only [getD_dropI, List.drop_drop, mk9, mkMove]
  have HN1 : Hid (Calls Try.prog 158 #[.pointer (some ⟨b, 0, none⟩)] w1 fun e w' => ReadP w0 b 2 rest bad (.agg #[.int .i64 a0, .int .i64 a1]) w1 e w') := by rw [h0, h1]; exact placeR HX1.out
  have HN2 : Hid (∀ wx, RdX w0 b (rest.drop 2) (bad || decide (rest.length < 2)) wx → Calls Try.prog 158 #[.pointer (some ⟨b, 0, none⟩)] wx fun e w' => ReadP w0 b 2 (rest.drop 2) (bad || decide (rest.length < 2)) (.agg #[.int .i64 a2, .int .i64 a3]) wx e w') := by intro wx hx; rw [h2, h3]; exact placeR hx
  have HN3 : Hid (∀ wx, RdX w0 b (rest.drop 4) (bad || decide (rest.length < 4)) wx → Calls Try.prog 176 #[.pointer (some ⟨b, 0, none⟩)] wx fun e w' => e = .returned (.bool (decide (a4 = 1))) ∧ RdX w0 b ((rest.drop 4).drop 1) (bad || decide (rest.length < 4) || decide ((rest.drop 4).length < 1) || decide (1 < a4)) w' ∧ OffB b wx w') := by
    intro wx hx
    rw [h4]
    exact flagR hx
  have HN4 : Hid (∀ wx, RdX w0 b ((rest.drop 4).drop 1) (bad || decide (rest.length < 4) || decide ((rest.drop 4).length < 1) || decide (1 < a4)) wx → Calls Try.prog 177 #[.pointer (some ⟨b, 0, none⟩)] wx fun e w' => e = .returned (.int .u32 n) ∧ RdX w0 b (rest.drop 9) (bad || bad9 rest) w' ∧ OffB b wx w') := by
    intro wx hx
    refine (numberR hx).mono ?_
    rintro e w' ⟨rfl, hx2, ho⟩
    rw [h4, bad9_or, List.drop_drop, List.drop_drop] at hx2
    rw [hn]
    exact ⟨rfl, hx2, ho⟩
  clear hw1 h h0 h1 h2 h3 h4 hn
  go_enter Try.func172, Try.ntmps172
  go_upto_region 3 with (rw [← HW1.out]; go_at_call 158; refine HN1.out.mono ?_; rintro e w2 ⟨rfl, hx2, ho2⟩; have HX2 : Hid (RdX w0 b (rest.drop 2) (bad || decide (rest.length < 2)) w2) := hx2; have HB2 : Hid (BxS w b 158 [.int .i64 0, .int .i64 0, .int .i64 0, .int .i64 0, .bool false, .int .u32 0] [.int .i64 0, .int .i64 0, .int .i64 0, .int .i64 0, .bool false, .int .u32 0] w2) := HB1.out.call hbl ho2; have p0 : w2.cell? ⟨w.heap.size + 1, 0, none⟩ = some (.int .i64 0) := HB2.out.box.cell 0; have p1 : w2.cell? ⟨w.heap.size + 1, 1, none⟩ = some (.int .i64 0) := HB2.out.box.cell 1; have pf : ∀ j, w2.frozen? ⟨w.heap.size + 1, j, none⟩ = false := (fun j => HB2.out.box.frozen j); clear hx2 ho2)
  clear HN1 HB1 HX1 HW1
  obtain ⟨w3, hw3⟩ : ∃ w3, w3 = (w2.setCell ⟨w.heap.size + 1, 0, none⟩ (.int .i64 a0)).setCell ⟨w.heap.size + 1, 1, none⟩ (.int .i64 a1) := ⟨_, rfl⟩
  have HB3 : Hid (BxS w b 158 [.int .i64 0, .int .i64 0, .int .i64 0, .int .i64 0, .bool false, .int .u32 0] [.int .i64 a0, .int .i64 a1, .int .i64 0, .int .i64 0, .bool false, .int .u32 0] w3) := by rw [hw3]; exact (HB2.out.put 0 (.int .i64 a0)).put 1 (.int .i64 a1)
  have HX3 : Hid (RdX w0 b (rest.drop 2) (bad || decide (rest.length < 2)) w3) := by rw [hw3]; exact (HX2.out.set hb1 _).set hb1 _
  rw [← hw3]
  clear hw3 HB2 HX2 p0 p1 pf
  go_upto_region 4 with (go_at_call 158; refine (HN2.out _ HX3.out).mono ?_; rintro e w2 ⟨rfl, hx2, ho2⟩; have HX2 : Hid (RdX w0 b (rest.drop 4) (bad || decide (rest.length < 4)) w2) := hx2.more (by omega); have HB2 : Hid (BxS w b 158 [.int .i64 0, .int .i64 0, .int .i64 0, .int .i64 0, .bool false, .int .u32 0] [.int .i64 a0, .int .i64 a1, .int .i64 0, .int .i64 0, .bool false, .int .u32 0] w2) := HB3.out.call hbl ho2; have p2 : w2.cell? ⟨w.heap.size + 1, 2, none⟩ = some (.int .i64 0) := HB2.out.box.cell 2; have p3 : w2.cell? ⟨w.heap.size + 1, 3, none⟩ = some (.int .i64 0) := HB2.out.box.cell 3; have pf : ∀ j, w2.frozen? ⟨w.heap.size + 1, j, none⟩ = false := (fun j => HB2.out.box.frozen j); clear hx2 ho2)
  clear HN2 HB3 HX3
  clear w3
  obtain ⟨w3, hw3⟩ : ∃ w3, w3 = (w2.setCell ⟨w.heap.size + 1, 2, none⟩ (.int .i64 a2)).setCell ⟨w.heap.size + 1, 3, none⟩ (.int .i64 a3) := ⟨_, rfl⟩
  have HB3 : Hid (BxS w b 158 [.int .i64 0, .int .i64 0, .int .i64 0, .int .i64 0, .bool false, .int .u32 0] [.int .i64 a0, .int .i64 a1, .int .i64 a2, .int .i64 a3, .bool false, .int .u32 0] w3) := by rw [hw3]; exact (HB2.out.put 2 (.int .i64 a2)).put 3 (.int .i64 a3)
  have HX3 : Hid (RdX w0 b (rest.drop 4) (bad || decide (rest.length < 4)) w3) := by rw [hw3]; exact (HX2.out.set hb1 _).set hb1 _
  rw [← hw3]
  clear hw3 HB2 HX2 p2 p3 pf
  go_upto_region 5 with (go_at_call 176; refine (HN3.out _ HX3.out).mono ?_; rintro e w4 ⟨rfl, hx2, ho2⟩; have HX2 : Hid (RdX w0 b ((rest.drop 4).drop 1) (bad || decide (rest.length < 4) || decide ((rest.drop 4).length < 1) || decide (1 < a4)) w4) := hx2; have HB2 : Hid (BxS w b 158 [.int .i64 0, .int .i64 0, .int .i64 0, .int .i64 0, .bool false, .int .u32 0] [.int .i64 a0, .int .i64 a1, .int .i64 a2, .int .i64 a3, .bool false, .int .u32 0] w4) := HB3.out.call hbl ho2; have p4 : w4.cell? ⟨w.heap.size + 1, 4, none⟩ = some (.bool false) := HB2.out.box.cell 4; have pf : ∀ j, w4.frozen? ⟨w.heap.size + 1, j, none⟩ = false := (fun j => HB2.out.box.frozen j); clear hx2 ho2)
  clear HN3 HB3 HX3
  obtain ⟨w5, hw5⟩ : ∃ w5, w5 = w4.setCell ⟨w.heap.size + 1, 4, none⟩ (.bool (decide (a4 = 1))) := ⟨_, rfl⟩
  have HB3 : Hid (BxS w b 158 [.int .i64 0, .int .i64 0, .int .i64 0, .int .i64 0, .bool false, .int .u32 0] [.int .i64 a0, .int .i64 a1, .int .i64 a2, .int .i64 a3, .bool (decide (a4 = 1)), .int .u32 0] w5) := by rw [hw5]; exact HB2.out.put 4 (.bool (decide (a4 = 1)))
  have HX3 : Hid (RdX w0 b ((rest.drop 4).drop 1) (bad || decide (rest.length < 4) || decide ((rest.drop 4).length < 1) || decide (1 < a4)) w5) := by rw [hw5]; exact HX2.out.set hb1 _
  rw [← hw5]
  clear hw5 HB2 HX2 p4 pf
  go_upto_region 6 with (go_at_call 177; refine (HN4.out _ HX3.out).mono ?_; rintro e w6 ⟨rfl, hx2, ho2⟩; have HX2 : Hid (RdX w0 b (rest.drop 9) (bad || bad9 rest) w6) := hx2; have HB2 : Hid (BxS w b 158 [.int .i64 0, .int .i64 0, .int .i64 0, .int .i64 0, .bool false, .int .u32 0] [.int .i64 a0, .int .i64 a1, .int .i64 a2, .int .i64 a3, .bool (decide (a4 = 1)), .int .u32 0] w6) := HB3.out.call hbl ho2; have p5 : w6.cell? ⟨w.heap.size + 1, 5, none⟩ = some (.int .u32 0) := HB2.out.box.cell 5; have pf : ∀ j, w6.frozen? ⟨w.heap.size + 1, j, none⟩ = false := (fun j => HB2.out.box.frozen j); clear hx2 ho2)
  clear HN4 HB3 HX3
  obtain ⟨w7, hw7⟩ : ∃ w7, w7 = w6.setCell ⟨w.heap.size + 1, 5, none⟩ (.int .u32 n) := ⟨_, rfl⟩
  have HB3 : Hid (BxS w b 158 [.int .i64 0, .int .i64 0, .int .i64 0, .int .i64 0, .bool false, .int .u32 0] [.int .i64 a0, .int .i64 a1, .int .i64 a2, .int .i64 a3, .bool (decide (a4 = 1)), .int .u32 n] w7) := by rw [hw7]; exact HB2.out.put 5 (.int .u32 n)
  have HX3 : Hid (RdX w0 b (rest.drop 9) (bad || bad9 rest) w7) := by rw [hw7]; exact HX2.out.set hb1 _
  rw [← hw7]
  clear hw7 HB2 HX2 p5 pf
  obtain ⟨cst, hcst⟩ : ∃ cst, cst = decide (a4 = 1) := ⟨_, rfl⟩
  rw [← hcst] at HB3 HM
  clear hcst
  have p0 : w7.cell? ⟨w.heap.size + 1, 0, none⟩ = some (.int .i64 a0) := HB3.out.box.cell 0
  have p1 : w7.cell? ⟨w.heap.size + 1, 1, none⟩ = some (.int .i64 a1) := HB3.out.box.cell 1
  have p2 : w7.cell? ⟨w.heap.size + 1, 2, none⟩ = some (.int .i64 a2) := HB3.out.box.cell 2
  have p3 : w7.cell? ⟨w.heap.size + 1, 3, none⟩ = some (.int .i64 a3) := HB3.out.box.cell 3
  have p4 : w7.cell? ⟨w.heap.size + 1, 4, none⟩ = some (.bool cst) := HB3.out.box.cell 4
  have p5 : w7.cell? ⟨w.heap.size + 1, 5, none⟩ = some (.int .u32 n) := HB3.out.box.cell 5
  have s0 : w7.cell? ⟨w.heap.size, 0, none⟩ = some (.int .i64 0) := HB3.out.res.cell 0
  have s1 : w7.cell? ⟨w.heap.size, 1, none⟩ = some (.int .i64 0) := HB3.out.res.cell 1
  have s2 : w7.cell? ⟨w.heap.size, 2, none⟩ = some (.int .i64 0) := HB3.out.res.cell 2
  have s3 : w7.cell? ⟨w.heap.size, 3, none⟩ = some (.int .i64 0) := HB3.out.res.cell 3
  have s4 : w7.cell? ⟨w.heap.size, 4, none⟩ = some (.bool false) := HB3.out.res.cell 4
  have s5 : w7.cell? ⟨w.heap.size, 5, none⟩ = some (.int .u32 0) := HB3.out.res.cell 5
  have sf : ∀ j, w7.frozen? ⟨w.heap.size, j, none⟩ = false := fun j => HB3.out.res.frozen j
  go_wp2
  refine bodyPost_ret (v := .agg #[.int .i64 a0, .int .i64 a1, .int .i64 a2, .int .i64 a3, .bool cst, .int .u32 n]) ?_ rfl ⟨by rw [HM.out], (((((HX3.out.set hbl _).set hbl _).set hbl _).set hbl _).set hbl _).set hbl _, (((((HB3.out.off.set (Or.inl (Nat.le_refl _)) _).set (Or.inl (Nat.le_refl _)) _).set (Or.inl (Nat.le_refl _)) _).set (Or.inl (Nat.le_refl _)) _).set (Or.inl (Nat.le_refl _)) _).set (Or.inl (Nat.le_refl _)) _⟩
  simp [results, Try.results172, go_sem, s0, s1, s2, s3, s4, s5]

end Go.Proofs.Ytepfegfacdbhbab.form
