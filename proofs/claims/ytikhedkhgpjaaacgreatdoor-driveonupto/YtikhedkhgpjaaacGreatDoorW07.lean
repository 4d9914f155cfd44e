/- What the document's functions on runs answer: Wrong, Gives, Next, Same. -/
import Derived.Test.YtikhedkhgpjaaacGreatDoorW05
import Derived.Test.YtikhedkhgpjaaacGreatDoorW06
import Derived.Test.YtikhedkhgpjaaacGreatDoorW04

namespace Go.Proofs.YtikhedkhgpjaaacGreatDoor
set_option linter.unusedVariables false
namespace form
open Go.RowKit num
attribute [local go_sem ↓] Go.wp_at_zero Go.wp_at_succ
def wrongI (B : List Bool) (C : List LIns) (nI : Nat) (steps : Int) : Int :=
  if refMayB B C = false then 2 else if 40 < nI then 1 else if steps < 0 ∨ 3000 < steps then 3 else 0
theorem wrap64_of (x : Int) (h : 0 ≤ x) (h' : x < 18446744073709551616) : IntKind.u64.wrap x = x := by
  obtain ⟨n, rfl⟩ := Int.eq_ofNat_of_zero_le h
  rw [wrap_u64_nat]
  omega
theorem opR_u32_bd (op a b : Int) : 0 ≤ opR .u32 op (a % 4294967296) (b % 4294967296) ∧ opR .u32 op (a % 4294967296) (b % 4294967296) < 4294967296 := by
  rw [← opR_cut op (a % 4294967296) (b % 4294967296) (by omega) (by omega) (by omega) (by omega)]
  omega
def U64i (x : Int) : Prop := 0 ≤ x ∧ x < 18446744073709551616
def OutIs (w : World) (v : Value) (l : List Int) : Prop :=
  ∃ ao cap, v = .slice ao l.length cap ∧ l.length ≤ 1000000 ∧ (0 < l.length → ∃ b o, ao = some ⟨b, o, none⟩ ∧ b < w.heap.size ∧ ∀ j, j < l.length → w.cell? ⟨b, o + j, none⟩ = some (.int .u32 (l.getD j 0)))
def ShownIs (w : World) (v : Value) (st : Int) (l : List Int) (k : Int) : Prop := ∃ ov, v = .agg #[.int .i64 st, ov, .int .i64 k] ∧ OutIs w ov l
end form
/- What a run's answer reads (loanbookkeep: shown). -/
namespace form
open Go.RowKit
set_option maxRecDepth 100000
attribute [local go_sem ↓] Go.wp_at_zero Go.wp_at_succ
attribute [local go_sem] str_size str_list
structure RunOk (r : RunR) : Prop where
  e0 : 0 ≤ r.err
  e1 : r.err < 9223372036854775808
  s0 : 0 ≤ r.state
  s1 : r.state < 9223372036854775808
  k0 : 0 ≤ r.steps
  k1 : r.steps < 9223372036854775808
  o : ∀ x, x ∈ r.out → 0 ≤ x ∧ x < 4294967296
theorem saidL_lenO (wd : List UInt8) (l : List Int) (h : ∀ x, x ∈ l → 0 ≤ x ∧ x < 4294967296) : (saidL wd (l.map Int.toNat)).length ≤ wd.length + 21 * l.length := by
  have := saidL_len wd (l.map Int.toNat) (fun x hx => by
    obtain ⟨y, hy, rfl⟩ := List.mem_map.1 hx
    have := h y hy
    omega)
  simpa using this
end form
/- A NUMBER (loanbookkeep: number). -/
namespace form
open Go.RowKit
set_option maxRecDepth 100000
attribute [local go_sem ↓] Go.wp_at_zero Go.wp_at_succ
attribute [local go_sem] str_size str_list
end form
/- Ins that came in as an argument; what is wrong with a run's arguments. -/
namespace form
open Go.RowKit num
def InArg (w : World) (iv : Value) (I : List Int) : Prop :=
  ∃ ai cap, iv = .slice ai I.length cap ∧ I.length ≤ cap ∧ I.length ≤ 9223372036854775807 ∧ (∀ j, j < I.length → 0 ≤ I.getD j 0 ∧ I.getD j 0 < 4294967296) ∧
    (0 < I.length → ∃ b o, ai = some ⟨b, o, none⟩ ∧ b < w.heap.size ∧ ∀ j, j < I.length → w.cell? ⟨b, o + j, none⟩ = some (.int .u32 (I.getD j 0)))
theorem InArg.later {w w' : World} {iv : Value} {I : List Int} (h : InArg w iv I) (hb : Below w.heap.size w w') : InArg w' iv I := by
  obtain ⟨ai, cap, e, h1, h2, h3, h4⟩ := h
  refine ⟨ai, cap, e, h1, h2, h3, fun h0 => ?_⟩
  obtain ⟨b, o, e2, hlt, hc⟩ := h4 h0
  exact ⟨b, o, e2, Nat.lt_of_lt_of_le hlt hb.size, fun j hj => step_cell hb (hc j hj)⟩
theorem wrong_zero {B : List Bool} {C : List LIns} {nI : Nat} {steps : Int} (h : wrongI B C nI steps = 0) : refMayB B C = true ∧ nI ≤ 40 ∧ 0 ≤ steps ∧ steps ≤ 3000 := by
  unfold wrongI at h
  split at h
  · omega
  split at h
  · omega
  split at h
  · omega
  · rename_i h1 h2 h3
    exact ⟨by simpa using h1, by omega, by omega, by omega⟩
end form
end Go.Proofs.YtikhedkhgpjaaacGreatDoor
