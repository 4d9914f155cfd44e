/- What the document's function on numbers as bytes (loanbookref11.Bytes) answers. -/
import Derived.Test.YtepfegfacdbhbabCodeRefNums
import Derived.Test.YtepfegfacdbhbabRunPlain
import Derived.Laws.BytesArg
import Derived.Deep.OwnRows
import Derived.Deep.DeepCutAuto
namespace Go.Proofs.Ytepfegfacdbhbab.form
open Go.RowKit
set_option linter.unusedVariables false
attribute [local go_sem ↓] Go.wp_at_zero Go.wp_at_succ

theorem infByte : (Try.prog.info? 5).map (fun i => (i.zero, i.size, i.bytes)) = some (some (.int .u8 0), 1, 1) := by kernel_rfl
theorem made_byte (n : Nat) : madeCells #[Value.int .u8 0] n = (List.replicate n (Value.int .u8 0)).toArray := by
  apply Array.toList_inj.1
  rw [toList_madeCells_one]

def bytesC (xs : List Int) (n k : Nat) : List Value := (List.range n).map fun j => .int .u8 (if j < k then xs.getD j 0 else 0)

theorem bytesC_set {xs : List Int} {n k : Nat} (hk : k < n) : (bytesC xs n k).set k (.int .u8 (xs.getD k 0)) = bytesC xs n (k + 1) := by
  apply List.ext_getElem?
  intro j
  unfold bytesC
  simp only [List.getElem?_set, List.getElem?_map, List.length_map, List.length_range]
  by_cases hj : j < n
  · rw [List.getElem?_range hj]
    simp only [Option.map_some]
    by_cases hkj : k = j
    · subst hkj
      rw [if_pos rfl, if_pos hk, if_pos (by omega)]
    · rw [if_neg hkj]
      by_cases hjk : j < k
      · rw [if_pos hjk, if_pos (by omega)]
      · rw [if_neg hjk, if_neg (by omega)]
  · rw [if_neg (by omega), List.getElem?_eq_none (by simpa using hj)]
    rfl

set_option maxRecDepth 100000 in
set_option maxHeartbeats 1000000 in
theorem bytes11 (v : Value) (xs : List Int) (w : World) (h : IntsIs w v xs) (hs : smallB xs = true) (hl : xs.length ≤ 1099511627776) :
    Calls Try.prog 30 #[v] w fun e w' => e = .returned (.string (strOfNums xs)) ∧ Below w.heap.size w w' := by
  obtain ⟨ao, cap, rfl, -, -, hc⟩ := h
  have HC : Hid _ := hc
  have HS : Hid (∀ j, j < xs.length → 0 ≤ xs.getD j 0 ∧ xs.getD j 0 ≤ 255) := by
    intro j hj
    unfold smallB at hs
    rw [List.all_eq_true] at hs
    have := hs (xs.getD j 0) (by simp [List.getD, hj])
    simpa using this
  clear hc hs
  have z0 : (xs.length : Int) ≤ 1099511627776 := by omega
  have z1 : (0 : Int) ≤ (xs.length : Int) := by omega
  have hmk := fun wx => run_make_row' (P := Try.prog) 61 5 (.int .u8 0) 1 Try.underlying61 infByte rfl .i64 .i64 xs.length (by omega) (by omega) wx
  go_enter Try.func30, Try.ntmps30
  go_wp2
  go_loopw [4] (fun t wr => ∃ k : Nat, k ≤ xs.length ∧ t = .int .i64 k ∧ Below w.heap.size w wr ∧ Row wr w.heap.size 5 (bytesC xs xs.length k)) (fun t _ => xs.length - (intOf t).toNat)
  case atStart =>
    refine ⟨0, by omega, rfl, (Below.refl _ _).alloc (Nat.le_refl _) _, ?_⟩
    rw [made_byte]
    have := Row.new w 5 (List.replicate xs.length (Value.int .u8 0))
    have e : bytesC xs xs.length 0 = List.replicate xs.length (Value.int .u8 0) := by
      unfold bytesC
      simp only [Nat.not_lt_zero, if_false, List.map_const', List.length_range]
    rw [e]
    exact this
  case round =>
    obtain ⟨k, hk, rfl, hbel, hrow⟩ := hrel
    have HB : Hid (Below w.heap.size w wr) := hbel
    have HRO : Hid (Row wr w.heap.size 5 (bytesC xs xs.length k)) := hrow
    have hwr := hrow.lt
    by_cases hlt : k < xs.length
    case neg =>
      have y1 : ¬ (k : Int) < (xs.length : Int) := by omega
      obtain rfl : k = xs.length := by omega
      have hcv := run_convert_bytes_arg (P := Try.prog) wr 61 5 Try.underlying61 Try.underlying5 w.heap.size 0 xs.length xs.length xs rfl (fun i hi => by
        rw [Nat.zero_add, hrow.cell i]
        unfold bytesC
        simp [hi]) 9 Try.underlying9
      clear hbel hrow
      go_wp2
      go_ret
      exact ⟨rfl, HB.out⟩
    have y1 : (k : Int) < (xs.length : Int) := by omega
    have y0 : (0 : Int) ≤ (k : Int) := by omega
    obtain ⟨b, rfl, hbl, hcell⟩ := HC.out (by omega)
    have d0 := step_cell hbel (hcell k hlt)
    obtain ⟨x0, x1⟩ := HS.out k hlt
    obtain ⟨x, hx⟩ : ∃ x, x = xs.getD k 0 := ⟨_, rfl⟩
    rw [← hx] at d0 x0 x1
    have HX : Hid (x = xs.getD k 0) := hx
    have c0 : wr.cell? ⟨w.heap.size, k, none⟩ = some (.int .u8 0) := by
      rw [hrow.cell k]
      unfold bytesC
      simp [hlt]
    have f0 := hrow.frozen k
    have hne : b ≠ w.heap.size := by omega
    have hbl2 : b < wr.heap.size := by omega
    clear hx hcell hrow hbel
    go_wp2
    refine ⟨⟨k + 1, by omega, by go_num, HB.out.setCell (by simp) _, ?_⟩, by simp [intOf]; omega⟩
    have := HRO.out.set k (.int .u8 x)
    rw [HX.out] at this
    rw [bytesC_set hlt] at this
    rw [HX.out]
    exact this

end Go.Proofs.Ytepfegfacdbhbab.form
