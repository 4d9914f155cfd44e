/- slices.Delete and slices.Reverse at rows of ints: the library's contracts at this program's numbers, and what they make of a row. -/
import Derived.Test.YtgeimilnddpdmabProg
import Derived.Shelf.Slices.Delete
import Derived.Shelf.Slices.Reverse
import Derived.KernelRfl
namespace Go.Proofs.Ytgeimilnddpdmab.form
open Go.Shelf Go.RowKit Go.Sort
set_option linter.unusedVariables false
set_option maxRecDepth 100000

def renC : Ren := ⟨fun n => if n = 23 then 56 else 57, fun n => if n = 22 then 62 else if n = 28 then 62 else if n = 3 then 3 else if n = 4 then 4 else 0, fun n => n⟩

theorem laysD : Lays2.n23 Try.prog renC where
  mixed := by kernel_rfl
  f23 := by kernel_rfl
  t0 := by kernel_rfl
  a0 := fun _ => by kernel_rfl
  z0 := fun _ => by kernel_rfl
  v0 := fun _ => by kernel_rfl
  t3 := by kernel_rfl
  a3 := fun _ => by kernel_rfl
  z3 := fun _ => by kernel_rfl
  v3 := fun _ => by kernel_rfl
  t4 := by kernel_rfl
  a4 := fun _ => by kernel_rfl
  z4 := fun _ => by kernel_rfl
  v4 := fun _ => by kernel_rfl
  t22 := by kernel_rfl
  a22 := fun _ => by kernel_rfl
  z22 := fun _ => by kernel_rfl
  v22 := fun _ => by kernel_rfl
  i3 := by kernel_rfl
theorem laysR : Lays.n112 Try.prog renC where
  mixed := by kernel_rfl
  f112 := by kernel_rfl
  t0 := by kernel_rfl
  a0 := fun _ => by kernel_rfl
  z0 := fun _ => by kernel_rfl
  v0 := fun _ => by kernel_rfl
  t3 := by kernel_rfl
  a3 := fun _ => by kernel_rfl
  z3 := fun _ => by kernel_rfl
  v3 := fun _ => by kernel_rfl
  t4 := by kernel_rfl
  a4 := fun _ => by kernel_rfl
  z4 := fun _ => by kernel_rfl
  v4 := fun _ => by kernel_rfl
  t28 := by kernel_rfl
  a28 := fun _ => by kernel_rfl
  z28 := fun _ => by kernel_rfl
  v28 := fun _ => by kernel_rfl

/-- A row of numbers in a block, none of them frozen. -/
def RowI (w : World) (b : Nat) (l : List Nat) : Prop := ∀ j, j < l.length → w.cell? ⟨b, j, none⟩ = some (.int .i64 (l.getD j 0 : Nat)) ∧ w.frozen? ⟨b, j, none⟩ = false
def natI (l : List Nat) : List Int := l.map (fun n : Nat => (n : Int))
theorem natI_len (l : List Nat) : (natI l).length = l.length := by simp [natI]
theorem natI_get (l : List Nat) (j : Nat) : (natI l).getD j 0 = (l.getD j 0 : Nat) := by
  unfold natI
  by_cases h : j < l.length
  · simp [List.getD, h]
  · simp [List.getD, h]
theorem arr_get (d : List Int) (j : Nat) (h : j < d.length) : d.toArray[j]! = d.getD j 0 := by
  rw [getElem!_pos d.toArray j (by simpa using h)]
  simp [List.getD, h]
theorem RowI.holds {w : World} {b : Nat} {l : List Nat} (h : RowI w b l) : Holds (Value.int .i64) w b 0 (natI l).toArray := by
  intro j hj
  have hj2 : j < l.length := by simpa [natI] using hj
  obtain ⟨h1, h2⟩ := h j hj2
  rw [Nat.zero_add, arr_get _ _ (by rw [natI_len]; exact hj2), natI_get]
  exact ⟨h1, h2⟩
theorem grown_put {w : World} {b q : Nat} {d : Array Int} : w.grownBy (putRow (Value.int .i64) (Sort.ahead w q) b 0 d) (some b) := by
  refine ⟨rfl, rfl, rfl, by rw [size_putRow]; exact Nat.le_refl _, fun k hk hne => ?_⟩
  simp only [putRow, mapBlock, Array.getElem?_modify]
  rw [if_neg (fun e => hne (by rw [e]))]
  rfl

theorem deleteO (b cap i : Nat) (l : List Nat) (w : World) (h : RowI w b l) (hcap : l.length ≤ cap) (hm : cap ≤ 9223372036854775807) (hi : i < l.length) :
    Calls Try.prog 56 #[.slice (some ⟨b, 0, none⟩) l.length cap, .int .i64 i, .int .i64 ((i : Int) + 1)] w fun e w' => e = .returned (.slice (some ⟨b, 0, none⟩) (l.length - 1) cap) ∧ RowI w' b (l.eraseIdx i) ∧ w.grownBy w' (some b) := by
  have H := Any.slices_Delete_int laysD b 0 cap i (i + 1) (natI l) w h.holds (by rw [natI_len]; exact hcap) hm (by omega) (by rw [natI_len]; omega)
  have e1 : (renC.f 23) = 56 := rfl
  have e2 : ((i + 1 : Nat) : Int) = (i : Int) + 1 := by omega
  rw [natI_len, e1, e2] at H
  refine H.mono ?_
  rintro e w' ⟨rfl, q, rfl⟩
  refine ⟨by rw [show i + 1 - i = 1 by omega], ?_, grown_put⟩
  have hH := holds_putRow (Value.int .i64) (Sort.ahead w q) b 0 (natI l).toArray ((natI l).take i ++ (natI l).drop (i + 1) ++ List.replicate (i + 1 - i) 0).toArray h.holds (by simp [natI_len]; omega)
  intro j hj
  have hj2 : j < l.length - 1 := by rw [List.length_eraseIdx_of_lt hi] at hj; exact hj
  have hl : ((natI l).take i ++ (natI l).drop (i + 1) ++ List.replicate (i + 1 - i) 0).length = l.length := by simp [natI_len]; omega
  obtain ⟨h1, h2⟩ := hH j (by simp only [List.size_toArray]; omega)
  rw [Nat.zero_add, arr_get _ _ (by omega)] at h1
  rw [Nat.zero_add] at h2
  refine ⟨?_, h2⟩
  rw [h1]
  congr 2
  rw [List.eraseIdx_eq_take_drop_succ, ← natI_get]
  have e3 : natI (l.take i ++ l.drop (i + 1)) = (natI l).take i ++ (natI l).drop (i + 1) := by simp [natI, List.map_take, List.map_drop]
  rw [e3]
  simp only [List.getD]
  rw [List.getElem?_append_left (by simp [natI_len]; omega)]

theorem reverseO (b cap : Nat) (l : List Nat) (w : World) (h : RowI w b l) (hm : l.length ≤ 9223372036854775807) :
    Calls Try.prog 57 #[.slice (some ⟨b, 0, none⟩) l.length cap] w fun e w' => e = .returned (.tuple #[]) ∧ RowI w' b l.reverse ∧ w.grownBy w' (some b) := by
  have H := Any.slices_Reverse_int laysR b 0 cap (natI l) w h.holds (by rw [natI_len]; exact hm)
  have e1 : (renC.f 112) = 57 := rfl
  rw [natI_len, e1] at H
  refine H.mono ?_
  rintro e w' ⟨rfl, q, rfl⟩
  refine ⟨rfl, ?_, grown_put⟩
  have hH := holds_putRow (Value.int .i64) (Sort.ahead w q) b 0 (natI l).toArray (natI l).reverse.toArray h.holds (by simp)
  intro j hj
  have hj2 : j < l.length := by simpa using hj
  obtain ⟨h1, h2⟩ := hH j (by simp [natI_len]; omega)
  rw [Nat.zero_add, arr_get _ _ (by simp [natI_len]; omega)] at h1
  rw [Nat.zero_add] at h2
  refine ⟨?_, h2⟩
  rw [h1, show (natI l).reverse = natI l.reverse by simp [natI], natI_get]

end Go.Proofs.Ytgeimilnddpdmab.form
