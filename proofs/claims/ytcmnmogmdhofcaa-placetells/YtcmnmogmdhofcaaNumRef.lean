/- What the functions on numbers come to: the document's. -/
import Derived.Test.YtcmnmogmdhofcaaProg
import Derived.Test.YtcmnmogmdhofcaaPlain
import Derived.OwnWalk
import Derived.Below
namespace Go.Proofs.Ytcmnmogmdhofcaa.num
open Go.RowKit

theorem ret_int {k : IntKind} {a b : Int} (h : a = b) : Ending.returned (.int k a) = .returned (.int k b) := by rw [h]

set_option maxRecDepth 100000 in
set_option maxHeartbeats 400000 in
theorem refBits (and : Bool) (x y : Nat) (hx : x < 18446744073709551616) (hy : y < 18446744073709551616) (w : World) :
    Calls Try.prog 38 #[.bool and, .int .u64 x, .int .u64 y] w fun e w' => e = .returned (.int .u64 (natBit and x y : Nat)) ∧ w' = w := by
  go_enter Try.func38, Try.ntmps38
  go_wp2
  go_loop [1, 2, 7, 8, 9] (fun sa sb sn sp si => ∃ i a b n p : Nat, i ≤ 64 ∧ Inv and x y i a b n p ∧ sa = .int .u64 a ∧ sb = .int .u64 b ∧ sn = .int .u64 n ∧ sp = .int .u64 p ∧ si = .int .i64 i) (fun _ _ _ _ si => 64 - (intOf si).toNat)
  case atStart => exact ⟨0, x, y, 0, 1, by omega, Inv.start and x y, rfl, rfl, rfl, rfl, rfl⟩
  case round =>
    obtain ⟨i, a, b, n, p, hi, hinv, rfl, rfl, rfl, rfl, rfl⟩ := hrel
    by_cases hlt : i < 64
    · have hst := hinv.step hx hy hlt
      have hbd := hinv.bound hx hy hlt
      obtain ⟨ha, hb, hnp, hp, -⟩ := hbd
      have hpp : IntKind.u64.wrap ((p : Int) + (p : Int)) = (((p + p) % 18446744073709551616 : Nat) : Int) := wrap_u64_nat (p + p)
      have hon : Hid (bitOn and a b = true → Inv and x y (i + 1) (a / 2) (b / 2) (n + p) ((p + p) % 18446744073709551616)) := fun h => by rw [h] at hst; exact hst
      have hoff : Hid (bitOn and a b = false → Inv and x y (i + 1) (a / 2) (b / 2) n ((p + p) % 18446744073709551616)) := fun h => by rw [h] at hst; exact hst
      have hbit : Hid (bitOn and a b = _) := bitOn_int and a b
      have HP : Hid _ := hpp
      clear hpp hst hinv
      cases and
      · go_wp2
        · refine ⟨⟨i + 1, a / 2, b / 2, n + p, (p + p) % 18446744073709551616, by omega, hon.out (hbit.out.trans ?_), rfl, rfl, rfl, by rw [HP.out], rfl⟩, by simp [intOf]; omega⟩
          rw [if_neg (by simp)]; assumption
        · refine ⟨⟨i + 1, a / 2, b / 2, n, (p + p) % 18446744073709551616, by omega, hoff.out (hbit.out.trans ?_), rfl, rfl, rfl, by rw [HP.out], rfl⟩, by simp [intOf]; omega⟩
          rw [if_neg (by simp)]; assumption
      · go_wp2
        · refine ⟨⟨i + 1, a / 2, b / 2, n + p, (p + p) % 18446744073709551616, by omega, hon.out (hbit.out.trans ?_), rfl, rfl, rfl, by rw [HP.out], rfl⟩, by simp [intOf]; omega⟩
          rw [if_pos rfl]; exact beq_iff_eq.2 (by omega)
        · refine ⟨⟨i + 1, a / 2, b / 2, n, (p + p) % 18446744073709551616, by omega, hoff.out (hbit.out.trans ?_), rfl, rfl, rfl, by rw [HP.out], rfl⟩, by simp [intOf]; omega⟩
          rw [if_pos rfl]; exact beq_eq_false_iff_ne.2 (by omega)
    · have hi64 : i = 64 := by omega
      go_wp2
      go_ret
      exact ⟨ret_int (by subst hi64; rw [hinv.fin hx hy]), rfl⟩

/-- a number of 64 bits; the walk does not look in -/
def U64 (x : Nat) : Prop := x < 18446744073709551616

set_option maxRecDepth 100000 in
set_option maxHeartbeats 400000 in
theorem refWide' (op : Int) (x y : Nat) (hx : U64 x) (hy : U64 y) (w : World) :
    Calls Try.prog 17 #[.int .i64 op, .int .u64 x, .int .u64 y] w fun e w' => e = .returned (.int .u64 (opR .u64 op x y)) ∧ w' = w := by
  have HA : Hid _ := bits_natBit true x y hx hy
  have HX : Hid _ := bits_natBit false x y hx hy
  go_enter Try.func17, Try.ntmps17
  go_wp2_with (go_at_call 38; refine (refBits _ x y hx hy _).mono ?_; rintro e w' ⟨rfl, rfl⟩)
  all_goals go_ret
  all_goals exact ⟨ret_int (by have h1 := HA.out; have h2 := HX.out; simp_all [opR]), rfl⟩

theorem refWide (op a b : Int) (ha : 0 ≤ a) (ha' : a < 18446744073709551616) (hb : 0 ≤ b) (hb' : b < 18446744073709551616) (w : World) :
    Calls Try.prog 17 #[.int .i64 op, .int .u64 a, .int .u64 b] w fun e w' => e = .returned (.int .u64 (opR .u64 op a b)) ∧ w' = w := by
  obtain ⟨x, rfl⟩ := Int.eq_ofNat_of_zero_le ha
  obtain ⟨y, rfl⟩ := Int.eq_ofNat_of_zero_le hb
  exact refWide' op x y (by unfold U64; omega) (by unfold U64; omega) w

theorem refNarrow (op a b : Int) (ha : 0 ≤ a) (ha' : a < 4294967296) (hb : 0 ≤ b) (hb' : b < 4294967296) (w : World) :
    Calls Try.prog 16 #[.int .i64 op, .int .u32 a, .int .u32 b] w fun e w' => e = .returned (.int .u32 (opR .u32 op a b)) ∧ w' = w := by
  have HC : Hid _ := opR_cut op a b ha ha' hb hb'
  have hd := opR_u64_bd op a b ha (by omega) hb (by omega)
  have h0 := hd.1
  clear hd
  go_enter Try.func16, Try.ntmps16
  go_wp2_with (go_at_call 17; refine (refWide op a b ha (by omega) hb (by omega) _).mono ?_; rintro e w' ⟨rfl, rfl⟩)
  go_ret
  exact ⟨ret_int (by have h1 := HC.out; omega), rfl⟩
end Go.Proofs.Ytcmnmogmdhofcaa.num
