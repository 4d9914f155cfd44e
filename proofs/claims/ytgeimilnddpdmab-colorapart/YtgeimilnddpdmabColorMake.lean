/- Registers for temporaries: the program's own color.Make answers as it must. -/
import Derived.Test.YtgeimilnddpdmabColorOrderOwn
import Derived.Test.YtgeimilnddpdmabColorFree
import Derived.Deep.RegionHeld3
import Derived.Laws.MakeOwn
namespace Go.Proofs.Ytgeimilnddpdmab.form
open Go.RowKit
set_option linter.unusedVariables false
set_option maxRecDepth 100000
attribute [local go_sem ↓] Go.wp_at_zero Go.wp_at_succ

theorem over_is (a b : LPlace) : overO a b = overB a b := by
  unfold overO overB singB
  rw [Bool.eq_iff_iff]
  split
  · rename_i h
    simp [h]
    omega
  · split
    · rename_i h1 h2
      simp [h2]
      omega
    · split
      · rename_i h1 h2 h3
        simp [h3]
        omega
      · rename_i h1 h2 h3
        simp
        omega
theorem over_sym (a b : LPlace) : overB a b = overB b a := by
  rw [← over_is, ← over_is]
  unfold overO
  rw [Bool.or_right_comm, show ((a.kind == b.kind) && (a.n == b.n)) = ((b.kind == a.kind) && (b.n == a.n)) by rw [Bool.eq_iff_iff]; simp; omega]

/-- Registers so far: as they must be. -/
structure GivOk (B : List Bool) (C : List LIns) (n : Nat) (G : List LPlace) : Prop where
  len : G.length = B.length
  reg : ∀ a, a < B.length → ((G.getD a .zero).kind = 0 ∧ (G.getD a .zero).n = 0) ∨ ((G.getD a .zero).kind = (if B.getD a false then 2 else 1) ∧ isB n 0 (G.getD a .zero) = true)
  far : ∀ a b, a < B.length → b < B.length → Near C a b → ¬ (G.getD a .zero).kind = 0 → ¬ (G.getD b .zero).kind = 0 → overB (G.getD a .zero) (G.getD b .zero) = false

theorem rep_get (m j : Nat) : (List.replicate m LPlace.zero).getD j .zero = .zero := by
  simp only [List.getD]
  by_cases h : j < m
  · simp [h]
  · simp [h]
theorem GivOk.start (B : List Bool) (C : List LIns) (n : Nat) : GivOk B C n (List.replicate B.length .zero) :=
  ⟨by simp, fun a ha => by rw [rep_get]; exact Or.inl ⟨rfl, rfl⟩, fun a b _ _ _ h => by rw [rep_get] at h; exact absurd rfl h⟩
theorem GivOk.ok {B : List Bool} {C : List LIns} {n : Nat} {G : List LPlace} (h : GivOk B C n G) : ColorOk B C n G :=
  ⟨h.len, h.reg, fun a b hb ha hn h1 h2 => h.far a b ha (by omega) hn h1 h2⟩
theorem set_get (G : List LPlace) (t : Nat) (q : LPlace) (a : Nat) (ht : t < G.length) : (G.set t q).getD a .zero = if a = t then q else G.getD a .zero := by
  simp only [List.getD, List.getElem?_set]
  by_cases e : t = a
  · subst e; simp [ht]
  · rw [if_neg e, if_neg (fun h => e h.symm)]
theorem regs_is {x : Bool} {n : Nat} {q : LPlace} {j : Nat} (h2 : n % 2 = 0) (h16 : n ≤ 16) (hj : j < (regsL x n).length) (hq : q = (regsL x n).getD j .zero) : q.kind = (if x then 2 else 1) ∧ isB n 0 q = true := by
  cases x
  · have hl : (regsL false n).length = n := rgL_len _ _
    have e : (regsL false n).getD j .zero = ⟨1, j⟩ := rgL_get 1 n j (by omega)
    rw [e] at hq
    subst hq
    refine ⟨rfl, ?_⟩
    unfold isB
    simp
    omega
  · have hl : (regsL true n).length = n / 2 := rgL_len _ _
    have e : (regsL true n).getD j .zero = ⟨2, j⟩ := rgL_get 2 (n / 2) j (by omega)
    rw [e] at hq
    subst hq
    refine ⟨rfl, ?_⟩
    unfold isB
    simp
    omega
theorem regs_len (x : Bool) (n : Nat) (h16 : n ≤ 16) : (regsL x n).length ≤ 16 := by
  cases x
  · have hl : (regsL false n).length = n := rgL_len _ _
    omega
  · have hl : (regsL true n).length = n / 2 := rgL_len _ _
    omega

theorem GivOk.step {B : List Bool} {C : List LIns} {n : Nat} {G : List LPlace} (h : GivOk B C n G) (h2 : n % 2 = 0) (h16 : n ≤ 16) {L : List Bool} (hL : NrS B.length L (fun x y => Near C x y)) {t : Nat} (ht : t < B.length) {q : LPlace}
    (hq : q = .zero ∨ ∃ j, j < (regsL (B.getD t false) n).length ∧ q = (regsL (B.getD t false) n).getD j .zero ∧ Free q G (rowF B.length L t)) : GivOk B C n (G.set t q) := by
  have hlen := h.len
  have hfr : ¬ q.kind = 0 → ∀ b, b < B.length → Near C t b → overB q (G.getD b .zero) = false := fun hk b hb hn => by
    rcases hq with rfl | ⟨j, _, _, hf⟩
    · exact absurd rfl hk
    · rw [← over_is]
      exact hf b (by omega) (by rw [getD_rowF hb]; exact (hL.tru t b ht hb).2 hn)
  refine ⟨by simp [hlen], fun a ha => ?_, fun a b ha hb hn k1 k2 => ?_⟩
  · rw [set_get _ _ _ _ (by omega)]
    by_cases e : a = t
    · subst e
      rw [if_pos rfl]
      rcases hq with rfl | ⟨j, hj, hqj, _⟩
      · exact Or.inl ⟨rfl, rfl⟩
      · exact Or.inr (regs_is h2 h16 hj hqj)
    · rw [if_neg e]; exact h.reg a ha
  · rw [set_get _ _ _ _ (by omega)] at k1 k2 ⊢
    rw [set_get _ _ _ _ (by omega)]
    by_cases ea : a = t
    · subst ea
      have hba : ¬ b = a := fun e => hn.1 (by rw [e])
      rw [if_pos rfl] at k1 ⊢
      rw [if_neg hba] at k2 ⊢
      exact hfr k1 b hb hn
    · rw [if_neg ea] at k1 ⊢
      by_cases eb : b = t
      · subst eb
        rw [if_pos rfl] at k2 ⊢
        rw [over_sym]
        exact hfr k2 a ha hn.symm
      · rw [if_neg eb] at k2 ⊢
        exact h.far a b ha hb hn k1 k2

/-- Rows of places in a block. -/
theorem flat_set : ∀ (G : List LPlace) (t : Nat) (q : LPlace), ((G.flatMap rgCs).set (t * 2) (.int .i64 q.kind)).set (t * 2 + 1) (.int .i64 q.n) = (G.set t q).flatMap rgCs
  | [], t, q => by simp
  | p :: G, 0, q => by simp [rgCs]
  | p :: G, t + 1, q => by
    have := flat_set G t q
    rw [show (t + 1) * 2 = t * 2 + 2 by omega]
    simpa [rgCs, List.flatMap_cons] using this
theorem made_pl (m : Nat) : madeCells #[Value.int .i64 0, Value.int .i64 0] (m * 2) = ((List.replicate m LPlace.zero).flatMap rgCs).toArray := by
  have e : ∀ k, (List.replicate k LPlace.zero).flatMap rgCs = List.replicate (k * 2) (Value.int .i64 0) := fun k => by
    induction k with
    | zero => rfl
    | succ k ih =>
      rw [List.replicate_succ, List.flatMap_cons, ih, show (k + 1) * 2 = k * 2 + 1 + 1 by omega, List.replicate_succ, List.replicate_succ]
      rfl
  rw [e]
  apply Array.ext
  · simp [madeCells]
  · intro i h1 h2
    simp only [madeCells, Array.getElem_map, Array.getElem_range, List.getElem_toArray, List.getElem_replicate]
    rcases (show i % 2 = 0 ∨ i % 2 = 1 by omega) with h | h
    · simp [h]
    · simp [h]
theorem makePl (m : Nat) (hm : m ≤ 12) (w : World) : (Instr.makeSlice 26 (.int .i64 (m : Int)) (.int .i64 (m : Int))).run Try.prog w = .ok (.slice (some ⟨w.heap.size, 0, none⟩) m m) (w.alloc (.cells ((List.replicate m LPlace.zero).flatMap rgCs).toArray 34)) := by
  obtain ⟨i, hi, hz, hs, hb⟩ := info_parts infPl
  have h := run_make (P := Try.prog) w 26 34 i _ Try.underlying26 hi hz .i64 .i64 (m : Int) (m : Int) (by omega) (by omega) (by rw [hb]; omega) (by omega)
  rw [hs, Int.toNat_natCast] at h
  rw [h, ← made_pl]
  rfl
theorem row_giv {w : World} {gv : Nat} {G : List LPlace} (h : Row w gv 34 (G.flatMap rgCs)) : GivAt w gv G := fun j hj => by
  obtain ⟨h1, h2⟩ := rg_at G j hj
  rw [h.cell, h.cell]
  exact ⟨h1, h2⟩
theorem row_places {w : World} {gv cap : Nat} {G : List LPlace} (h : Row w gv 34 (G.flatMap rgCs)) (hl : G.length ≤ 12) : PlacesIs w (.slice (some ⟨gv, 0, none⟩) G.length cap) G :=
  ⟨_, cap, rfl, by omega, fun _ => ⟨gv, 0, rfl, h.lt, fun k hk => by simpa using row_giv h k hk⟩⟩

end Go.Proofs.Ytgeimilnddpdmab.form
