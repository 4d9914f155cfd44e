/- The program's own reader (code.reader) in memory, and what it reads: next, place, flag, number. -/
import Derived.Test.YtepfegfacdbhbabCodeRefRead
import Derived.Test.YtepfegfacdbhbabCodeReadPlain
import Derived.Test.YtepfegfacdbhbabRunPlain
import Derived.Laws.BitsAllLaws
import Derived.Laws.BitsLemmas
namespace Go.Proofs.Ytepfegfacdbhbab.form
open Go.RowKit
set_option linter.unusedVariables false
set_option maxRecDepth 100000
attribute [local go_sem ↓] Go.wp_at_zero Go.wp_at_succ

/-- All blocks that were there are as they were, but for one. -/
structure OffB (b : Nat) (w w' : World) : Prop where
  os : w'.os = w.os
  tape : w'.tape = w.tape
  output : w'.output = w.output
  size : w.heap.size ≤ w'.heap.size
  block : ∀ k, k < w.heap.size → k ≠ b → w'.heap[k]? = w.heap[k]?
section
variable {b : Nat} {w w1 w2 : World}
theorem OffB.refl (b : Nat) (w : World) : OffB b w w := ⟨rfl, rfl, rfl, Nat.le_refl _, fun _ _ _ => rfl⟩
theorem OffB.of_below (h : Below w.heap.size w w1) : OffB b w w1 := ⟨h.os, h.tape, h.output, h.size, fun k hk _ => h.block k hk⟩
theorem OffB.trans (h : OffB b w w1) (k : OffB b w1 w2) : OffB b w w2 :=
  ⟨k.os.trans h.os, k.tape.trans h.tape, k.output.trans h.output, Nat.le_trans h.size k.size, fun i hi h1 => (k.block i (Nat.lt_of_lt_of_le hi h.size) h1).trans (h.block i hi h1)⟩
theorem OffB.set (h : OffB b w w1) {a : Addr} (ha : w.heap.size ≤ a.block ∨ a.block = b) (u : Value) : OffB b w (w1.setCell a u) :=
  ⟨h.os, h.tape, h.output, by simpa [World.setCell] using h.size, fun k hk h1 => by rw [Below.heap_setCell _ _ _ _ (by rcases ha with ha | ha <;> omega)]; exact h.block k hk h1⟩
theorem OffB.alloc (h : OffB b w w1) (o : Obj) : OffB b w (w1.alloc o) := h.trans (OffB.of_below ((Below.refl _ _).alloc (Nat.le_refl _) _))
theorem OffB.rows (h : OffB b w w1) {c : Nat} {t : TypeId} {cs : List Value} (hr : Row w c t cs) (h1 : c ≠ b) : Row w1 c t cs := by
  have := hr.lt
  unfold Row at *
  rw [h.block c this h1]; exact hr
theorem OffB.below {B : Nat} (h : OffB b w w1) (hb : B ≤ b) (hB : B ≤ w.heap.size) : Below B w w1 := ⟨h.os, h.tape, h.output, h.size, fun k hk => h.block k (by omega) (by omega)⟩
end

/-- A reader in memory, at block b; the bytes were handed in. -/
structure RdS (w0 : World) (b : Nat) (rest : List Int) (bad : Bool) (rv : Value) (wr : World) : Prop where
  box : Row wr b 141 [rv, .bool bad]
  is : BytesIs w0 rv rest
  bel : Below w0.heap.size w0 wr
  lo : w0.heap.size ≤ b
def RdX (w0 : World) (b : Nat) (rest : List Int) (bad : Bool) (wr : World) : Prop := ∃ rv, RdS w0 b rest bad rv wr
section
variable {w0 : World} {b : Nat} {rest : List Int} {bad : Bool} {w w1 : World}
theorem RdX.lt (h : RdX w0 b rest bad w) : b < w.heap.size := h.elim fun _ h => h.box.lt
theorem RdX.lo (h : RdX w0 b rest bad w) : w0.heap.size ≤ b := h.elim fun _ h => h.lo
theorem RdX.bel (h : RdX w0 b rest bad w) : Below w0.heap.size w0 w := h.elim fun _ h => h.bel
theorem RdX.below (h : RdX w0 b rest bad w) (hb : Below w.heap.size w w1) : RdX w0 b rest bad w1 := h.elim fun rv h => ⟨rv, h.box.below hb, h.is, step_below hb h.bel, h.lo⟩
theorem RdX.set (h : RdX w0 b rest bad w) {a : Addr} (ha : b < a.block) (u : Value) : RdX w0 b rest bad (w.setCell a u) := h.elim fun rv h => ⟨rv, h.box.other (by omega) u, h.is, h.bel.setCell (by have := h.lo; omega) u, h.lo⟩
theorem RdX.byte (h : RdX w0 b rest bad w) (k : Nat) : 0 ≤ rest.getD k 0 ∧ rest.getD k 0 ≤ 255 := h.elim fun rv h => by
  obtain ⟨ao, cap, -, -, -, hb, -⟩ := h.is
  by_cases hk : k < rest.length
  · exact hb k hk
  · have : rest.getD k 0 = 0 := by simp [List.getD, List.getElem?_eq_none (Nat.le_of_not_lt hk)]
    omega
end
theorem getD_dropI (l : List Int) (n k : Nat) : (l.drop n).getD k 0 = l.getD (n + k) 0 := by simp [List.getD, List.getElem?_drop]
theorem short_or (bad : Bool) (l : List Int) (n k : Nat) (hk : 0 < k) : (bad || decide (l.length < n) || decide ((l.drop n).length < k)) = (bad || decide (l.length < n + k)) := by
  rw [Bool.or_assoc]
  congr 1
  rw [← Bool.decide_or, List.length_drop]
  apply decide_eq_decide.2
  omega
theorem RdX.more {w0 : World} {b : Nat} {rest : List Int} {bad : Bool} {w : World} {n k : Nat} (h : RdX w0 b ((rest.drop n).drop k) (bad || decide (rest.length < n) || decide ((rest.drop n).length < k)) w) (hk : 0 < k) : RdX w0 b (rest.drop (n + k)) (bad || decide (rest.length < n + k)) w := by
  rw [short_or _ _ _ _ hk, List.drop_drop] at h
  exact h

/-- What a call that reads k bytes leaves. -/
def ReadP (w0 : World) (b k : Nat) (rest : List Int) (bad : Bool) (v : Value) (w : World) (e : Ending) (w' : World) : Prop :=
  e = .returned v ∧ RdX w0 b (rest.drop k) (bad || decide (rest.length < k)) w' ∧ OffB b w w'

set_option maxHeartbeats 1000000 in
theorem nextR {w0 : World} {b : Nat} {rest : List Int} {bad : Bool} {w : World} (h : RdX w0 b rest bad w) :
    Calls Try.prog 121 #[.pointer (some ⟨b, 0, none⟩)] w fun e w' => ReadP w0 b 1 rest bad (.int .i64 (rest.getD 0 0)) w e w' := by
  obtain ⟨rv, h⟩ := h
  have HS : Hid (RdS w0 b rest bad rv w) := h
  have b0 : w.cell? ⟨b, 0, none⟩ = some rv := h.box.cell 0
  have b1 : w.cell? ⟨b, 1, none⟩ = some (.bool bad) := h.box.cell 1
  have fz : ∀ j, w.frozen? ⟨b, j, none⟩ = false := fun j => h.box.frozen j
  have hbl := h.box.lt
  have hlo := h.lo
  have hbel := h.bel
  obtain ⟨ao, cap, rfl, hcap, hl63, hby, hc⟩ := h.is
  have HBel : Hid (Below w0.heap.size w0 w) := hbel
  clear h hbel
  cases rest with
  | nil =>
    clear hc hby
    have HF : Hid (ReadP w0 b 1 [] bad (.int .i64 0) w (.returned (.int .i64 0)) (w.setCell ⟨b, 1, none⟩ (.bool true))) := by
      refine ⟨rfl, ⟨.slice ao 0 cap, ?_, ?_, HBel.out.setCell hlo _, hlo⟩, (OffB.refl b w).set (Or.inr rfl) _⟩
      · have := HS.out.box.set 1 (.bool true)
        simpa using this
      · exact ⟨ao, cap, rfl, Nat.zero_le _, by simp, by simp, by simp⟩
    simp only [List.length_nil] at b0 HS
    go_enter Try.func121, Try.ntmps121
    go_wp2
    go_ret
    exact HF.out
  | cons x t =>
    obtain ⟨a, o, rfl, hal, hcell⟩ := hc (by simp)
    have c0 := step_cell HBel.out (hcell 0 (by simp))
    have hx := hby 0 (by simp)
    have e0 : (x :: t).getD 0 0 = x := rfl
    rw [e0] at c0 hx ⊢
    rw [Nat.add_zero] at c0
    obtain ⟨x0, x1⟩ := hx
    have hal2 : a < w.heap.size := World.block_lt_of_cell? _ _ c0
    simp only [List.length_cons] at b0 hcap hl63 HS
    have z0 : (t.length : Int) + 1 ≤ 9223372036854775807 := by omega
    have HT : Hid (∀ ao2, (cap ≠ 1 → ao2 = some ⟨a, o + 1, none⟩) → BytesIs w0 (.slice ao2 t.length (cap - 1)) t) := by
      intro ao2 h2
      refine ⟨ao2, cap - 1, rfl, by omega, by omega, fun j hj => ?_, fun hp => ⟨a, o + 1, h2 (by omega), hal, fun j hj => ?_⟩⟩
      · have := hby (j + 1) (by simp; omega)
        simpa using this
      · have := hcell (j + 1) (by simp; omega)
        rw [show o + 1 + j = o + (j + 1) by omega]
        simpa using this
    have HF : Hid (∀ ao2, (cap ≠ 1 → ao2 = some ⟨a, o + 1, none⟩) → ReadP w0 b 1 (x :: t) bad (.int .i64 x) w (.returned (.int .i64 x)) (w.setCell ⟨b, 0, none⟩ (.slice ao2 t.length (cap - 1)))) := by
      intro ao2 h2
      refine ⟨rfl, ⟨.slice ao2 t.length (cap - 1), ?_, HT.out ao2 h2, HBel.out.setCell hlo _, hlo⟩, (OffB.refl b w).set (Or.inr rfl) _⟩
      have := HS.out.box.set 0 (.slice ao2 t.length (cap - 1))
      simpa using this
    clear hcell hby hc HT
    by_cases h1 : cap = 1
    · subst h1
      have ht : t.length = 0 := by omega
      rw [ht] at HF b0
      clear hcap
      go_enter Try.func121, Try.ntmps121
      go_wp2
      go_ret
      exact HF.out _ (fun h => absurd rfl h)
    · obtain ⟨c, hcc⟩ : ∃ c, cap = c + 2 := ⟨cap - 2, by omega⟩
      subst hcc
      obtain ⟨n, hn⟩ : ∃ n, n = t.length + 1 := ⟨_, rfl⟩
      rw [show t.length = n - 1 by omega] at HF
      rw [← hn] at b0
      have z1 : (n : Int) ≤ 9223372036854775807 := by omega
      have z2 : (1 : Int) ≤ (n : Int) := by omega
      have z3 : ((n : Int) == 0) = false := by simp; omega
      have z4 : (0 : Int) < (n : Int) := by omega
      clear hcap hl63 h1 hn HS z0
      go_enter Try.func121, Try.ntmps121
      go_wp2
      go_ret
      exact HF.out _ (fun _ => rfl)

set_option maxHeartbeats 1000000 in
theorem placeR {w0 : World} {b : Nat} {rest : List Int} {bad : Bool} {w : World} (h : RdX w0 b rest bad w) :
    Calls Try.prog 158 #[.pointer (some ⟨b, 0, none⟩)] w fun e w' => ReadP w0 b 2 rest bad (.agg #[.int .i64 (rest.getD 0 0), .int .i64 (rest.getD 1 0)]) w e w' := by
  obtain ⟨w1, hw1⟩ : ∃ w1, w1 = w.alloc (.cells #[.int .i64 0, .int .i64 0] 34) := ⟨_, rfl⟩
  have hlb : Below w.heap.size w w1 := by rw [hw1]; exact (Below.refl _ _).alloc (Nat.le_refl _) _
  have HR1 : Hid (Row w1 w.heap.size 34 [.int .i64 0, .int .i64 0]) := by rw [hw1]; exact Row.new _ _ _
  have HX1 : Hid (RdX w0 b rest bad w1) := h.below hlb
  have HO1 : Hid (OffB b w w1) := OffB.of_below hlb
  have hbl := h.lt
  have HW1 : Hid (w1 = w.alloc (.cells #[.int .i64 0, .int .i64 0] 34)) := hw1
  clear hw1 hlb h
  obtain ⟨x0, hx0⟩ : ∃ x0, x0 = rest.getD 0 0 := ⟨_, rfl⟩
  obtain ⟨x1, hx1⟩ : ∃ x1, x1 = rest.getD 1 0 := ⟨_, rfl⟩
  have HN1 : Hid (Calls Try.prog 121 #[.pointer (some ⟨b, 0, none⟩)] w1 fun e w' => ReadP w0 b 1 rest bad (.int .i64 x0) w1 e w') := by rw [hx0]; exact nextR HX1.out
  have HE1 : Hid (x1 = (rest.drop 1).getD 0 0) := by show x1 = (rest.drop 1).getD 0 0; rw [hx1, getD_dropI]
  rw [← hx0, ← hx1]
  clear hx0 hx1
  go_enter Try.func158, Try.ntmps158
  go_upto_region 2 with (rw [← HW1.out]; go_at_call 121; refine HN1.out.mono ?_; rintro e w2 ⟨rfl, hx2, ho2⟩; have HX2 : Hid (RdX w0 b (rest.drop 1) (bad || decide (rest.length < 1)) w2) := hx2; have HO2 : Hid (OffB b w w2) := HO1.out.trans ho2; have HR2 : Hid (Row w2 w.heap.size 34 [.int .i64 0, .int .i64 0]) := ho2.rows HR1.out (Ne.symm (Nat.ne_of_lt hbl)); clear hx2 ho2)
  clear HN1 HR1 HX1 HO1 HW1
  have HN2 : Hid (Calls Try.prog 121 #[.pointer (some ⟨b, 0, none⟩)] w2 fun e w' => ReadP w0 b 1 (rest.drop 1) (bad || decide (rest.length < 1)) (.int .i64 x1) w2 e w') := by rw [HE1.out]; exact nextR HX2.out
  go_wp2_with (go_at_call 121; refine HN2.out.mono ?_; rintro e w3 ⟨rfl, hx3, ho3⟩; have HX3 : Hid (RdX w0 b (rest.drop 2) (bad || decide (rest.length < 2)) w3) := hx3.more (by omega); have HO3 : Hid (OffB b w w3) := HO2.out.trans ho3; have hr3 : Row w3 w.heap.size 34 [.int .i64 0, .int .i64 0] := ho3.rows HR2.out (Ne.symm (Nat.ne_of_lt hbl)); have c0 : w3.cell? ⟨w.heap.size, 0, none⟩ = some (.int .i64 0) := hr3.cell 0; have c1 : w3.cell? ⟨w.heap.size, 1, none⟩ = some (.int .i64 0) := hr3.cell 1; have f : ∀ j, w3.frozen? ⟨w.heap.size, j, none⟩ = false := (fun j => hr3.frozen j); clear hx3 ho3 hr3)
  refine bodyPost_ret (v := .agg #[.int .i64 x0, .int .i64 x1]) ?_ rfl ⟨rfl, (HX3.out.set hbl _).set hbl _, (HO3.out.set (Or.inl (Nat.le_refl _)) _).set (Or.inl (Nat.le_refl _)) _⟩
  simp [results, Try.results158, go_sem, c0, c1]

end Go.Proofs.Ytepfegfacdbhbab.form
