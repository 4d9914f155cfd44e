/- What drive.Play must answer. -/
import Derived.Test.YtgnhpfmdbclnkaaGreatDoorProg
import Derived.Test.YtgnhpfmdbclnkaaGreatDoorRows
import Derived.Stop.LaidErr
import Derived.Lib.LaidTab
import Derived.Deep.DeepHandedRow
import Derived.Deep.DeepWitnessRowRef
import Derived.KernelRfl
import Derived.Test.YtgnhpfmdbclnkaaGreatDoorW08
import Derived.Test.YtgnhpfmdbclnkaaGreatDoorW04
import Derived.Test.YtgnhpfmdbclnkaaGreatDoorW02
import Derived.Test.YtgnhpfmdbclnkaaGreatDoorW05

namespace Go.Proofs.YtgnhpfmdbclnkaaGreatDoor
set_option linter.unusedVariables false
namespace form
open Go.RowKit
def DriveSpec (L : Lay) : Prop := ∀ (s : List UInt8) (w : World), s.length ≤ 2000000 → VarOk w → Calls Tryz.prog 7 #[.string (str s)] w fun e w' => e = .returned (.string (str (playL L s))) ∧ Below w.heap.size w w'
end form
/- What of the library's variables a script's road reads: out of what the rows list; a world in which they lie so. -/
namespace form
open Go.RowKit
set_option maxRecDepth 100000
theorem gPow : Tryz.prog.globalNamed "internal/strconv.uint64pow10" = some 3 := by kernel_rfl
theorem gPowT : (Tryz.prog.globals[3]?).map (·.type) = some 238 := by kernel_rfl
theorem gSyn : Tryz.prog.globalNamed "strconv.ErrSyntax" = some 1 := by kernel_rfl
theorem gSynT : (Tryz.prog.globals[1]?).map (·.type) = some 70 := by kernel_rfl
theorem gRng : Tryz.prog.globalNamed "strconv.ErrRange" = some 2 := by kernel_rfl
theorem gRngT : (Tryz.prog.globals[2]?).map (·.type) = some 70 := by kernel_rfl
theorem starE : "*" ++ "errors.errorString" = "*errors.errorString" := by decide
theorem rowErr (u : TypeId) (h : Tryz.prog.typeName? 3 u = some "*errors.errorString") : u = 241 :=
  typeName_ptr_named (nm := "errors.errorString") (by rw [starE]; kernel_rfl) (by kernel_rfl) (by decide) u (by rw [starE]; exact h)
theorem laid_var {W : World} (h : laidMetH Tryz.prog Rows.driveTellsRow.laid W) : VarOk W := by
  have h0 : laidMet Tryz.prog Rows.driveTellsRow.laid W := h
  have h1 : laidMet Tryz.prog (("internal/strconv.uint64pow10", Rows.laid_internal_strconv_uint64pow10) :: [("strconv.ErrRange", Rows.laid_strconv_ErrRange), ("strconv.ErrSyntax", Rows.laid_strconv_ErrSyntax)]) W := h0.tail.tail
  obtain ⟨a1, s1, hv1, -, -, -⟩ := laid_sentinel h1.tail gRng gRngT Tryz.underlying70 rowErr Tryz.underlying241 Tryz.underlying243 rfl rfl Tryz.underlying9 (by kernel_rfl) (by kernel_rfl)
  obtain ⟨a2, s2, hv2, -, -, -⟩ := laid_sentinel h1.tail.tail gSyn gSynT Tryz.underlying70 rowErr Tryz.underlying241 Tryz.underlying243 rfl rfl Tryz.underlying9 (by kernel_rfl) (by kernel_rfl)
  refine ⟨?_, ⟨_, _, hv2⟩, ⟨_, _, hv1⟩⟩
  exact Lib.tabIs_of_head (rest := [("strconv.ErrRange", Rows.laid_strconv_ErrRange), ("strconv.ErrSyntax", Rows.laid_strconv_ErrSyntax)]) (zs := Lib.pow10Tab) gPow gPowT Tryz.underlying238 Tryz.underlying87 (by kernel_rfl) (by kernel_rfl) h1
noncomputable def low : Nat := (World.holding Tryz.prog default ⟨#[], #[], []⟩).heap.size
noncomputable def laidWorld (os : Os) : World :=
  let w0 := World.holding Tryz.prog os ⟨#[.cells #[.string ⟨#[105, 110, 118, 97, 108, 105, 100, 32, 115, 121, 110, 116, 97, 120]⟩] 243, .cells #[.string ⟨#[118, 97, 108, 117, 101, 32, 111, 117, 116, 32, 111, 102, 32, 114, 97, 110, 103, 101]⟩] 243], #[], []⟩
  { w0 with heap := ((((w0.heap.modify 1 fun
      | .cells _ t frozen => .cells #[.iface 241 (.pointer (some ⟨low, 0, none⟩))] t frozen
      | o => o).modify 2 fun
      | .cells _ t frozen => .cells #[.iface 241 (.pointer (some ⟨low + 1, 0, none⟩))] t frozen
      | o => o).modify 3 fun
      | .cells _ t frozen => .cells #[.int .u64 1, .int .u64 10, .int .u64 100, .int .u64 1000, .int .u64 10000, .int .u64 100000, .int .u64 1000000, .int .u64 10000000, .int .u64 100000000, .int .u64 1000000000, .int .u64 10000000000, .int .u64 100000000000, .int .u64 1000000000000, .int .u64 10000000000000, .int .u64 100000000000000, .int .u64 1000000000000000, .int .u64 10000000000000000, .int .u64 100000000000000000, .int .u64 1000000000000000000, .int .u64 10000000000000000000] t frozen
      | o => o).modify 4 fun
      | .cells _ t frozen => .cells #[.int .u8 0, .int .u8 1, .int .u8 28, .int .u8 2, .int .u8 29, .int .u8 14, .int .u8 24, .int .u8 3, .int .u8 30, .int .u8 22, .int .u8 20, .int .u8 15, .int .u8 25, .int .u8 17, .int .u8 4, .int .u8 8, .int .u8 31, .int .u8 27, .int .u8 13, .int .u8 23, .int .u8 21, .int .u8 19, .int .u8 16, .int .u8 7, .int .u8 26, .int .u8 12, .int .u8 18, .int .u8 6, .int .u8 11, .int .u8 5, .int .u8 10, .int .u8 9] t frozen
      | o => o).modify 5 fun
      | .cells _ t frozen => .cells #[.int .u8 0, .int .u8 1, .int .u8 56, .int .u8 2, .int .u8 57, .int .u8 49, .int .u8 28, .int .u8 3, .int .u8 61, .int .u8 58, .int .u8 42, .int .u8 50, .int .u8 38, .int .u8 29, .int .u8 17, .int .u8 4, .int .u8 62, .int .u8 47, .int .u8 59, .int .u8 36, .int .u8 45, .int .u8 43, .int .u8 51, .int .u8 22, .int .u8 53, .int .u8 39, .int .u8 33, .int .u8 30, .int .u8 24, .int .u8 18, .int .u8 12, .int .u8 5, .int .u8 63, .int .u8 55, .int .u8 48, .int .u8 27, .int .u8 60, .int .u8 41, .int .u8 37, .int .u8 16, .int .u8 46, .int .u8 35, .int .u8 44, .int .u8 21, .int .u8 52, .int .u8 32, .int .u8 23, .int .u8 11, .int .u8 54, .int .u8 26, .int .u8 40, .int .u8 15, .int .u8 34, .int .u8 20, .int .u8 31, .int .u8 10, .int .u8 25, .int .u8 14, .int .u8 19, .int .u8 9, .int .u8 13, .int .u8 8, .int .u8 7, .int .u8 6] t frozen
      | o => o }
theorem laidWorld_met (os : Os) (args : Array Value) : laidMet Tryz.prog Rows.driveTellsRow.laid ((laidWorld os).forCall (fun _ _ => 0) ⟨#[], args, []⟩).memory :=
  laidMet_of_run' 8 (by kernel_rfl) (by kernel_rfl)
end form
/- The machine on plain numbers keeps within its bounds, step by step. -/
namespace form
open Go.RowKit num
theorem u64_wrap (x : Int) : U64i (IntKind.u64.wrap x) := by
  have e : IntKind.u64.wrap x = x % 18446744073709551616 := by simp [IntKind.wrap, IntKind.bits, IntKind.signed]
  unfold U64i
  rw [e]
  omega
theorem gvI_bd (i : LIns) (a b x : Int) (ha : U64i a) (hb : U64i b) (hx0 : 0 ≤ x) (hx1 : x < 4294967296) (hn0 : 0 ≤ i.n) (hn1 : i.n < 4294967296) : U64i (gvI i a b x) := by
  unfold gvI
  split
  · exact ⟨hn0, by omega⟩
  split
  · exact ha
  split
  · exact ⟨hx0, by omega⟩
  split
  · exact u64_wrap _
  split
  · have := ha.1; have := ha.2; exact ⟨by omega, by omega⟩
  split
  · have := ha.1; have := ha.2; exact ⟨by omega, by omega⟩
  split
  · exact opR_u64_bd _ _ _ ha.1 ha.2 hb.1 hb.2
  · have := opR_u32_bd (i.op - 20) a b; exact ⟨this.1, by omega⟩
theorem getD_set_bd {l : List Int} {k : Nat} {x : Int} (h : ∀ j, U64i (l.getD j 0)) (hx : U64i x) : ∀ j, U64i ((l.set k x).getD j 0) := by
  intro j
  by_cases hj : j < l.length
  · by_cases hk : k = j
    · subst hk; simpa [List.getD, hj] using hx
    · have := h j
      simpa [List.getD, hj, List.getElem_set, hk] using this
  · have : (l.set k x).getD j 0 = 0 := by simp [List.getD, List.getElem?_eq_none (show (l.set k x).length ≤ j by simp; omega)]
    rw [this]; exact ⟨by omega, by omega⟩
theorem inOf_bd {ins : List Int} (h : ∀ j, j < ins.length → 0 ≤ ins.getD j 0 ∧ ins.getD j 0 < 4294967296) (k : Nat) : 0 ≤ inOf ins k ∧ inOf ins k < 4294967296 := by
  unfold inOf
  by_cases hk : k < ins.length
  · exact h k hk
  · rw [show ins.getD k 0 = 0 by simp [List.getD, List.getElem?_eq_none (show ins.length ≤ k by omega)]]; omega
end form
/- What the program's own run.Run must answer. -/
namespace form
open Go.RowKit
def resM (B : List Bool) (C : List LIns) (I : List Int) (steps : Int) : Mac := if wrongI B C I.length steps = 0 then playM B C I steps.toNat else ⟨0, [], 0, [], 0, 0⟩
def RunSpec : Prop := ∀ (v : Value) (B : List Bool) (C : List LIns) (iv : Value) (I : List Int) (steps : Int) (w : World), ProgIs w v B C → InArg w iv I →
  Calls Tryz.prog 12 #[v, iv, .int .i64 steps] w fun e w' =>
      (∃ sv, e = .returned (.tuple #[sv, .int .i64 (wrongI B C I.length steps)]) ∧ ShownIs w' sv (resM B C I steps).state (resM B C I steps).out (resM B C I steps).steps) ∧ Below w.heap.size w w'
end form
end Go.Proofs.YtgnhpfmdbclnkaaGreatDoor
