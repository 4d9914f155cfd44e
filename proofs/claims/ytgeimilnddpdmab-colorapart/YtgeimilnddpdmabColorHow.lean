/- How many registers near ones may bar (color.bars, the closure of color.order), and which temporary is taken next (color.pick). -/
import Derived.Test.YtgeimilnddpdmabLiveFlat
import Derived.BigQuiet
import Derived.Deep.QuietTactic
namespace Go.Proofs.Ytgeimilnddpdmab.form
open Go.RowKit
set_option linter.unusedVariables false
set_option maxRecDepth 100000
attribute [local go_sem ↓] Go.wp_at_zero Go.wp_at_succ

def barsN (x y : Bool) : Nat := if x || y then 2 else 1
theorem barsN_le (x y : Bool) : barsN x y ≤ 2 := by unfold barsN; split <;> omega

theorem barsO (x y : Bool) (w : World) : Calls Try.prog 54 #[.bool x, .bool y] w fun e w' => e = .returned (.int .i64 (barsN x y : Nat)) ∧ w' = w := by
  cases x <;> cases y
  all_goals
    go_enter Try.func54, Try.ntmps54
    go_wp2
    go_ret
    exact ⟨rfl, rfl⟩

/-- What the closure has caught: the ones that are left, the rows of what is near, the widths. -/
structure OrdB (pl pr pw lb cap g b0 o0 c0 : Nat) (l : List Nat) (B L : List Bool) (w : World) : Prop where
  left : w.cell? ⟨pl, 0, none⟩ = some (.slice (some ⟨lb, 0, none⟩) l.length cap)
  rows : w.cell? ⟨pr, 0, none⟩ = some (.slice (some ⟨g, 0, none⟩) B.length B.length)
  wide : w.cell? ⟨pw, 0, none⟩ = some (.slice (some ⟨b0, o0, none⟩) B.length c0)
  el : ∀ k, k < l.length → w.cell? ⟨lb, k, none⟩ = some (.int .i64 (l.getD k 0 : Nat))
  lt : ∀ k, k < l.length → l.getD k 0 < B.length
  top : ∀ k, k < B.length → w.cell? ⟨g, k, none⟩ = some (.slice (some ⟨g + 1 + k, 0, none⟩) B.length B.length)
  row : ∀ k t, k < B.length → t < B.length → w.cell? ⟨g + 1 + k, t, none⟩ = some (.bool (getF B.length L k t))
  ws : ∀ k, k < B.length → w.cell? ⟨b0, o0 + k, none⟩ = some (.bool (B.getD k false))

theorem OrdB.drewN {pl pr pw lb cap g b0 o0 c0 : Nat} {l : List Nat} {B L : List Bool} {w : World} (h : OrdB pl pr pw lb cap g b0 o0 c0 l B L w) (q : Nat) : OrdB pl pr pw lb cap g b0 o0 c0 l B L (w.drewN q) :=
  ⟨h.left, h.rows, h.wide, h.el, h.lt, h.top, h.row, h.ws⟩

def howN (l : List Nat) (B L : List Bool) (t : Nat) : Nat → Nat
  | 0 => 0
  | k + 1 => howN l B L t k + (if getF B.length L t (l.getD k 0) then barsN (B.getD t false) (B.getD (l.getD k 0) false) else 0)
theorem howN_le (l : List Nat) (B L : List Bool) (t : Nat) : ∀ k, howN l B L t k ≤ 2 * k
  | 0 => by simp [howN]
  | k + 1 => by
    have h1 := howN_le l B L t k
    have h2 := barsN_le (B.getD t false) (B.getD (l.getD k 0) false)
    simp only [howN]
    split <;> omega

set_option maxHeartbeats 1000000 in
theorem howO (pl pr pw lb cap g b0 o0 c0 : Nat) (l : List Nat) (B L : List Bool) (t : Nat) (w : World) (h : OrdB pl pr pw lb cap g b0 o0 c0 l B L w) (ht : t < B.length) (hB : B.length ≤ 12) (hl : l.length ≤ 12) :
    Calls Try.prog 53 #[.int .i64 t, .pointer (some ⟨pl, 0, none⟩), .pointer (some ⟨pr, 0, none⟩), .pointer (some ⟨pw, 0, none⟩)] w fun e w' => e = .returned (.int .i64 (howN l B L t l.length : Nat)) ∧ ∃ q, w' = w.drewN q := by
  have H : Hid (OrdB pl pr pw lb cap g b0 o0 c0 l B L w) := h
  have e1 := h.left
  have e2 := h.rows
  have e3 := h.wide
  have e4 := h.top t ht
  have e5 := h.ws t ht
  have y1 : (0 : Int) ≤ (t : Int) := by omega
  have y2 : (t : Int) < (B.length : Int) := by omega
  have y3 : (B.length : Int) ≤ 12 := by omega
  have y4 : (l.length : Int) ≤ 12 := by omega
  obtain ⟨x, hx⟩ : ∃ x, x = B.getD t false := ⟨_, rfl⟩
  rw [← hx] at e5
  have HX : Hid (x = B.getD t false) := hx
  clear h hx
  go_enter Try.func53, Try.ntmps53
  go_wp2
  go_loopw [6, 8, 11] (fun sv ov kv wr => ∃ (k q : Nat), sv = .int .i64 (howN l B L t k : Nat) ∧ kv = .int .i64 k ∧ k ≤ l.length ∧ wr = w.drewN q) (fun _ _ kv _ => l.length - (intOf kv).toNat)
  case atStart => exact ⟨0, 0, rfl, rfl, by omega, rfl⟩
  case round =>
    obtain ⟨k, q, rfl, rfl, hk, hw⟩ := hrel
    have HR : Hid (OrdB pl pr pw lb cap g b0 o0 c0 l B L wr) := by
      have := H.out.drewN q
      rw [← hw] at this
      exact this
    have HW : Hid (wr = w.drewN q) := hw
    clear hw e1 e2 e3 e4 e5
    have hz := howN_le l B L t k
    by_cases hlt : k < l.length
    case neg =>
      obtain rfl : k = l.length := by omega
      have y5 : ¬ (l.length : Int) < (l.length : Int) := by omega
      go_wp2
      go_ret
      exact ⟨rfl, q, HW.out⟩
    have e2 := HR.out.rows
    have e3 := HR.out.wide
    have e4 := HR.out.top t ht
    have e5 := HR.out.ws t ht
    rw [← HX.out] at e5
    have y5 : (k : Int) < (l.length : Int) := by omega
    have y6 : (0 : Int) ≤ (k : Int) := by omega
    have f1 := HR.out.el k hlt
    have f2 := HR.out.lt k hlt
    have f3 := HR.out.row t _ ht f2
    have f4 := HR.out.ws _ f2
    have HS : Hid (howN l B L t (k + 1) = howN l B L t k + (if getF B.length L t (l.getD k 0) then barsN x (B.getD (l.getD k 0) false) else 0)) := by rw [HX.out]; rfl
    obtain ⟨o, ho⟩ : ∃ o, o = l.getD k 0 := ⟨_, rfl⟩
    rw [← ho] at f1 f2 f3 f4 HS
    obtain ⟨r, hr⟩ : ∃ r, r = getF B.length L t o := ⟨_, rfl⟩
    rw [← hr] at f3 HS
    obtain ⟨y, hy⟩ : ∃ y, y = B.getD o false := ⟨_, rfl⟩
    rw [← hy] at f4 HS
    clear ho hr hy
    have y7 : (o : Int) < (B.length : Int) := by omega
    have y8 : (0 : Int) ≤ (o : Int) := by omega
    obtain ⟨z, hz0⟩ : ∃ z, z = howN l B L t k := ⟨_, rfl⟩
    rw [← hz0] at hz HS ⊢
    clear hz0
    have y9 : (z : Int) ≤ 24 := by omega
    have hbl := barsN_le x y
    have y10 : (barsN x y : Int) ≤ 2 := by omega
    cases r
    · go_wp2
      refine ⟨⟨k + 1, q, by rw [HS.out]; simp, by go_num, by omega, HW.out⟩, by simp [intOf]; omega⟩
    · go_wp2
      go_quiet (first | (go_at_call 54; refine Calls.quiet_of_same (barsO _ _ _)))
      go_wp2
      refine ⟨⟨k + 1, q + nq, by rw [HS.out]; go_num, by go_num, by omega, by rw [HW.out, World.drewN_drewN]⟩, by simp [intOf]; omega⟩

/-- One of those that are left. -/
def PickP (n : Nat) (w : World) (e : Ending) (w' : World) : Prop := ∃ i q : Nat, i < n ∧ e = .returned (.int .i64 i) ∧ w' = w.drewN q

set_option maxHeartbeats 1000000 in
theorem pickO (pl pr pw lb cap g b0 o0 c0 : Nat) (l : List Nat) (B L : List Bool) (n : Int) (w : World) (h : OrdB pl pr pw lb cap g b0 o0 c0 l B L w) (hB : B.length ≤ 12) (hl : l.length ≤ 12) (h0 : 0 < l.length) :
    Calls Try.prog 55 #[.slice (some ⟨lb, 0, none⟩) l.length cap, .func (.func 53) #[] #[.pointer (some ⟨pl, 0, none⟩), .pointer (some ⟨pr, 0, none⟩), .pointer (some ⟨pw, 0, none⟩)], .int .i64 n] w fun e w' => PickP l.length w e w' := by
  have H : Hid (OrdB pl pr pw lb cap g b0 o0 c0 l B L w) := h
  have HOW : Hid (∀ (t : Nat) (wx : World), OrdB pl pr pw lb cap g b0 o0 c0 l B L wx → t < B.length → Calls Try.prog 53 #[.int .i64 t, .pointer (some ⟨pl, 0, none⟩), .pointer (some ⟨pr, 0, none⟩), .pointer (some ⟨pw, 0, none⟩)] wx fun e w' => e = .returned (.int .i64 (howN l B L t l.length : Nat)) ∧ ∃ m, w' = wx.drewN m) :=
    fun t wx hx ht => howO pl pr pw lb cap g b0 o0 c0 l B L t wx hx ht hB hl
  have y3 : (B.length : Int) ≤ 12 := by omega
  have y4 : (l.length : Int) ≤ 12 := by omega
  clear h
  go_enter Try.func55, Try.ntmps55
  go_wp2
  go_loopw [7, 8, 9, 12] (fun mv av tv kv wr => ∃ (k m q : Nat), mv = .int .i64 m ∧ m < l.length ∧ kv = .int .i64 k ∧ k ≤ l.length ∧ wr = w.drewN q) (fun _ _ _ kv _ => l.length - (intOf kv).toNat)
  case atStart => exact ⟨0, 0, 0, rfl, h0, rfl, by omega, rfl⟩
  case round =>
    obtain ⟨k, m, q, rfl, hm, rfl, hk, hw⟩ := hrel
    have HR : Hid (OrdB pl pr pw lb cap g b0 o0 c0 l B L wr) := by
      have := H.out.drewN q
      rw [← hw] at this
      exact this
    have HW : Hid (wr = w.drewN q) := hw
    clear hw
    by_cases hlt : k < l.length
    case neg =>
      have y5 : ¬ (k : Int) < (l.length : Int) := by omega
      go_wp2
      go_ret
      exact ⟨m, q, hm, rfl, HW.out⟩
    have y5 : (k : Int) < (l.length : Int) := by omega
    have y6 : (0 : Int) ≤ (k : Int) := by omega
    have y7 : (m : Int) < (l.length : Int) := by omega
    have y8 : (0 : Int) ≤ (m : Int) := by omega
    have f1 := HR.out.el k hlt
    have f2 := HR.out.lt k hlt
    have f3 := HR.out.el m hm
    have f4 := HR.out.lt m hm
    obtain ⟨o, ho⟩ : ∃ o, o = l.getD k 0 := ⟨_, rfl⟩
    rw [← ho] at f1 f2
    obtain ⟨p, hp⟩ : ∃ p, p = l.getD m 0 := ⟨_, rfl⟩
    rw [← hp] at f3 f4
    clear ho hp
    go_wp2_with (go_at_call 53; refine (HOW.out _ _ HR.out f2).mono ?_; rintro e w1 ⟨rfl, q1, hw1⟩; have f5 : w1.cell? ⟨lb, m, none⟩ = some (.int .i64 (p : Nat)) := (by rw [hw1]; exact f3); have HR1 : Hid (OrdB pl pr pw lb cap g b0 o0 c0 l B L w1) := (by have := HR.out.drewN q1; rw [← hw1] at this; exact this); have HW1 : Hid (w1 = w.drewN (q + q1)) := (by have := hw1; rw [HW.out, World.drewN_drewN] at this; exact this); clear hw1)
    · go_ret
      exact ⟨k, _, hlt, rfl, HW1.out⟩
    · go_quiet (first | (go_at_call 53; refine Calls.quiet_of (HOW.out _ _ (HR1.out.drewN _) ?_); assumption))
      go_wp2
      · refine ⟨⟨k + 1, k, q + q1 + nq, rfl, hlt, by go_num, by omega, by rw [HW1.out, World.drewN_drewN]⟩, by simp [intOf]; omega⟩
      · refine ⟨⟨k + 1, m, q + q1 + nq, rfl, hm, by go_num, by omega, by rw [HW1.out, World.drewN_drewN]⟩, by simp [intOf]; omega⟩

end Go.Proofs.Ytgeimilnddpdmab.form
