/- For every two places the one overlaps the other, if that overlaps it, each overlaps itself, and a single register overlaps just one double one, by what the program tells. No condition. -/
import Derived.Test.YtjnfjjielcdgoaaPlaceOpen
import Derived.Test.YtjnfjjielcdgoaaPlaceOwn
import Derived.ShutString
import Derived.Deep.RegionHeld3
namespace Go.Proofs.Ytjnfjjielcdgoaa.placeBoth
open Go.ChangeShapes Go.WideShapes Go.ChangeAt Go.RowKit
open Go.Proofs.Ytjnfjjielcdgoaa.form
set_option linter.unusedVariables false

theorem own : ownKnob Try.prog.godebug = none := by kernel_rfl
theorem laidOut : laidOutB Try.prog = true := by kernel_rfl

structure PB (w : World) (a b : LPlace) (n : Int) (wr : World) : Prop where
  bel : Below w.heap.size w wr
  size : w.heap.size + 3 ≤ wr.heap.size
  a0 : wr.cell? ⟨w.heap.size, 0, none⟩ = some (.int .i64 a.kind)
  a1 : wr.cell? ⟨w.heap.size, 1, none⟩ = some (.int .i64 a.n)
  b0 : wr.cell? ⟨w.heap.size + 1, 0, none⟩ = some (.int .i64 b.kind)
  b1 : wr.cell? ⟨w.heap.size + 1, 1, none⟩ = some (.int .i64 b.n)
  s0 : wr.cell? ⟨w.heap.size + 1 + 1, 0, none⟩ = some (.int .i64 1)
  s1 : wr.cell? ⟨w.heap.size + 1 + 1, 1, none⟩ = some (.int .i64 n)
theorem PB.below {w : World} {a b : LPlace} {n : Int} {wr w1 : World} (h : PB w a b n wr) (hb : Below wr.heap.size wr w1) : PB w a b n w1 :=
  ⟨step_below hb h.bel, Nat.le_trans h.size hb.size, step_cell hb h.a0, step_cell hb h.a1, step_cell hb h.b0, step_cell hb h.b1, step_cell hb h.s0, step_cell hb h.s1⟩

theorem over_half (n k : Int) : overO ⟨1, n⟩ ⟨2, k⟩ = (n / 2 == k) := by unfold overO singB; simp
theorem over_comm (a b : LPlace) : overO a b = overO b a := by
  unfold overO
  rw [Bool.beq_comm (a := a.kind), Bool.beq_comm (a := a.n)]
  cases ((b.kind == a.kind) && (b.n == a.n)) <;> cases singB a b <;> cases singB b a <;> rfl
theorem over_self (a : LPlace) : overO a a = true := by unfold overO; simp

theorem overlapI (k n l m : Int) (w : World) : Calls Try.prog 29 #[.agg #[.int .i64 k, .int .i64 n], .agg #[.int .i64 l, .int .i64 m]] w fun e w' => e = .returned (.bool (overO ⟨k, n⟩ ⟨l, m⟩)) ∧ Below w.heap.size w w' := overlapO ⟨k, n⟩ ⟨l, m⟩ w

set_option maxRecDepth 100000 in
set_option maxHeartbeats 1000000 in
theorem walk (a b : LPlace) (n : Int) (h0 : 0 ≤ n) (h1 : n < 256) (w : World) :
    Calls Try.prog 12 #[a.val, b.val, .int .u8 n] w fun e w' => e = .returned (.bool true) ∧ Below w.heap.size w w' := by
  have HW : Hid (∀ o1 o2 o3 : Obj, Below w.heap.size w (((w.alloc o1).alloc o2).alloc o3)) := fun o1 o2 o3 => (((Below.refl _ _).alloc (Nat.le_refl _) _).alloc (by simp) _).alloc (by simp; omega) _
  unfold LPlace.val
  go_enter Try.func12, Try.ntmps12
  go_wp2
  go_loopw [8] (fun t wr => ∃ k : Nat, k ≤ 130 ∧ t = .int .i64 k ∧ PB w a b n wr) (fun t _ => 130 - (intOf t).toNat)
  case atStart => exact ⟨0, by omega, rfl, HW.out _ _ _, by simp, by simp [go_sem], by simp [go_sem], by simp [go_sem], by simp [go_sem], by simp [go_sem], by simp [go_sem]⟩
  case round =>
    obtain ⟨k, hk, rfl, hp⟩ := hrel
    have HP : Hid (PB w a b n wr) := hp
    obtain ⟨-, hz, a0, a1, b0, b1, s0, s1⟩ := hp
    by_cases hlt : k < 130
    · have y0 : (0 : Int) ≤ (k : Int) := by omega
      have y1 : (k : Int) < 130 := by omega
      have e2 : ((k : Int) == n / 2) = (n / 2 == (k : Int)) := Bool.beq_comm
      obtain ⟨q, hq⟩ : ∃ q, q = (n / 2 == (k : Int)) := ⟨_, rfl⟩
      have HQ : Hid (overO ⟨1, n⟩ ⟨2, k⟩ = q) := by show overO _ _ = q; rw [hq]; exact over_half n k
      rw [← hq] at e2
      clear hq
      go_wp2_with (go_at_call 29; refine (overlapO ⟨1, n⟩ ⟨2, k⟩ _).mono ?_; rw [HQ.out]; rintro e w1 ⟨rfl, hb1⟩)
      exact ⟨⟨k + 1, by omega, by go_num, HP.out.below hb1⟩, by simp [intOf]; omega⟩
    · have y1 : ¬ (k : Int) < 130 := by omega
      clear hk hlt s0 s1
      obtain ⟨x, hx⟩ : ∃ x, x = overO a b := ⟨_, rfl⟩
      have HX : Hid (overO a b = x) := hx.symm
      have HY : Hid (overO b a = x) := by show overO b a = x; rw [over_comm]; exact HX.out
      clear hx
      cases x
      all_goals
        go_wp2
        go_region_held3 (fun w' => Below wr.heap.size wr w' ∧ w'.cell? ⟨w.heap.size, 0, none⟩ = some (.int .i64 a.kind) ∧ w'.cell? ⟨w.heap.size, 1, none⟩ = some (.int .i64 a.n) ∧ w'.cell? ⟨w.heap.size + 1, 0, none⟩ = some (.int .i64 b.kind) ∧ w'.cell? ⟨w.heap.size + 1, 1, none⟩ = some (.int .i64 b.n))
          ((go_split_ands; refine ⟨?_, ?_, ?_, ?_, ?_⟩ <;> first | exact (Below.refl _ _).drew | exact ((Below.refl _ _).drew).trans hb1 | exact step_below hb1 (by assumption) | exact step_cell hb1 (by assumption) | go_keep))
          ((go_at_call 29; refine (overlapI _ _ _ _ _).mono ?_; (first | rw [HX.out] | rw [HY.out] | rw [over_self]); rintro e w1 ⟨rfl, hb1⟩))
        rename_i hHeldx
        have HB2 : Hid (Below wr.heap.size wr w1) := hHeldx.1
        clear hHeldx hb1
        go_wp2
        go_ret
        exact ⟨rfl, step_below HB2.out HP.out.bel⟩

set_option maxRecDepth 100000 in
theorem lifted (os : Os) (started : os.Started) (H : Type) (enc : TypeId × Value → H) :
    ReturnsInHanded {} Try.checked os 12 .any (Rows.placeBothSpec.pre6 enc Try.prog Try.f12 Rows.placeBothRow.domain false) (Rows.placeBothSpec.post enc Try.prog Try.f12 false true false false) := by
  refine returnsInHanded_of_change (C := Try.checked) own started (by kernel_rfl) Try.func12
    (ChangeSpec.witness6 (enc := enc) (C := Try.checked) false ⟨#[], #[.agg #[.int .i64 0, .int .i64 0], .agg #[.int .i64 0, .int .i64 0], .int .u8 0], []⟩ 8 (by kernel_rfl) (by kernel_rfl) (by kernel_rfl) (by kernel_rfl)) ?_
  intro W base args ds gs before hval0 hW hcnd _
  have hval : ∀ (j : Nat) t v, Try.f12.params[j]? = some t → args[j]? = some v → Value.okWide Try.prog W .any base t v := hval0
  have hW' := hW
  obtain ⟨p, q, hA0, hV, rfl, hfz, hnd⟩ := hW
  have hA : DataW.TrodAll enc Try.prog W 0 (fun _ => true) true Try.f12.params.toList args.toList ds p := hA0
  rw [Try.params12] at hA hval
  obtain ⟨v0, vs0, d0, ds0, p0, q0, hargs, rfl, rfl, h0, r0⟩ := trodAll_cons hA
  obtain ⟨v1, vs1, d1, ds1, p1, q1, rfl, rfl, rfl, h1, r1⟩ := trodAll_cons r0
  obtain ⟨v2, vs2, d2, ds2, p2, q2, rfl, rfl, rfl, h2, r2⟩ := trodAll_cons r1
  obtain ⟨rfl, rfl, rfl⟩ := trodAll_nil r2
  obtain rfl : args = #[v0, v1, v2] := by cases args; simp_all
  obtain ⟨rfl, rfl⟩ := trodVars_none hV
  have k0 := h0
  have k1 := h1
  have k2 := h2
  have lt0 : ∀ x ∈ p0, x.block < W.heap.size := by obtain ⟨m, hm⟩ := k0; exact DataW.trod_lt m _ _ _ hm
  have lt1 : ∀ x ∈ p1, x.block < W.heap.size := by obtain ⟨m, hm⟩ := k1; exact DataW.trod_lt m _ _ _ hm
  have lt2 : ∀ x ∈ p2, x.block < W.heap.size := by obtain ⟨m, hm⟩ := k2; exact DataW.trod_lt m _ _ _ hm
  obtain ⟨a, rfl, -, -⟩ := place_is (hval 0 57 v0 rfl rfl) h0
  obtain ⟨b, rfl, -, -⟩ := place_is (hval 1 57 v1 rfl rfl) h1
  obtain ⟨n, rfl, -, -, wn⟩ := open_int Try.underlying5 (hval 2 5 v2 rfl rfl) h2
  have wb : 0 ≤ n ∧ n < 256 := by
    have := bounds_u8 wn
    omega
  clear hA0 hval0
  refine (walk a b n wb.1 wb.2 W).mono fun e W' ⟨he, bel⟩ => ?_
  subst he
  exact ⟨_, rfl, _, _, _, [], _, [], hW', trodAll_mk1 (shut_bool Try.underlying4 _),
    (trodAll_cons_mk (Below.trod laidOut (by kernel_rfl) (of_decide_eq_true (by kernel_rfl)) k0 bel lt0) (trodAll_cons_mk (Below.trod laidOut (by kernel_rfl) (of_decide_eq_true (by kernel_rfl)) k1 bel lt1) (trodAll_cons_mk (Below.trod laidOut (by kernel_rfl) (of_decide_eq_true (by kernel_rfl)) k2 bel lt2) trodAll_mk0))), rfl, bel.frame _, fun h => by cases h⟩

theorem over : Rows.placeBothRow.holds Try.pinned (OpenSpec.ofChange Rows.placeBothSpec) :=
  OpenClaim.holds_of_wide 12 Try.f12 rfl rfl rfl rfl rfl rfl rfl ⟨rfl, rfl, rfl, rfl, rfl⟩ rfl rfl rfl rfl rfl (by kernel_rfl) Try.func12 (by kernel_rfl)
    (of_decide_eq_true (by kernel_rfl)) (by unfold Func.isWrapper; first | (rw [if_pos (by decide +kernel)]; kernel_rfl) | (rw [if_neg (by decide +kernel)]; exact ⟨rfl, rfl⟩))
    (fun os started H enc _ => lifted os started H enc)

end Go.Proofs.Ytjnfjjielcdgoaa.placeBoth
namespace Go.Proofs.Ytjnfjjielcdgoaa
theorem placeBoth_holds : Rows.PlaceBothSaid := placeBoth.over
#print axioms placeBoth_holds
end Go.Proofs.Ytjnfjjielcdgoaa
