/- What may not be in one place, on plain numbers: near ones; rows of truths that tell them are only one. -/
import Derived.WalkMore
import Derived.Deep.Cut
import Derived.BigQuiet
import Derived.Deep.QuietTactic
import Derived.Test.YtcmnmogmdhofcabT05
import Derived.Test.YtcmnmogmdhofcabT10
import Derived.Test.YtcmnmogmdhofcabT01

namespace Go.Proofs.Ytcmnmogmdhofcab.form
open Go.RowKit
set_option linter.unusedVariables false

/-- An instruction gives the one where the other one is needed behind it. -/
def NearAt (C : List LIns) (k : Nat) (a b : Int) : Prop :=
  givesT (C.getD k .zero) a = true ∧ ¬ ((C.getD k .zero).op = 2 ∧ (C.getD k .zero).a = b) ∧ ∃ x, x ∈ nextsN (C.getD k .zero) k ∧ Need C b x

def Near (C : List LIns) (a b : Int) : Prop :=
  ¬ a = b ∧ ((Need C a 0 ∧ Need C b 0) ∨ ∃ k, k < C.length ∧ (NearAt C k a b ∨ NearAt C k b a))

theorem Near.symm {C : List LIns} {a b : Int} (h : Near C a b) : Near C b a := by
  obtain ⟨hne, h⟩ := h
  refine ⟨fun e => hne e.symm, ?_⟩
  rcases h with ⟨h1, h2⟩ | ⟨k, hk, h⟩
  · exact Or.inl ⟨h2, h1⟩
  · exact Or.inr ⟨k, hk, h.symm⟩

/-- Rows of truths. -/
structure TruthMat (nR nB : Nat) (P : Nat → Nat → Prop) (R : List (List Bool)) : Prop where
  len : R.length = nR
  row : ∀ k, k < nR → (R.getD k []).length = nB
  tru : ∀ k, k < nR → ∀ t, t < nB → ((R.getD k []).getD t false = true ↔ P k t)

theorem TruthMat.only {nR nB : Nat} {P : Nat → Nat → Prop} {R Q : List (List Bool)} (h : TruthMat nR nB P R) (g : TruthMat nR nB P Q) : R = Q := by
  apply List.ext_getElem (by rw [h.len, g.len])
  intro k hk1 hk2
  have hk : k < nR := by rw [← h.len]; exact hk1
  have r1 := h.row k hk
  have q1 := g.row k hk
  have e1 : R.getD k [] = R[k] := by simp [List.getD, hk1]
  have e2 : Q.getD k [] = Q[k] := by simp [List.getD, hk2]
  have t1 := h.tru k hk
  have t2 := g.tru k hk
  rw [e1] at r1 t1
  rw [e2] at q1 t2
  apply List.ext_getElem (by rw [r1, q1])
  intro j hj1 hj2
  have a := t1 j (by omega)
  have b := t2 j (by omega)
  rw [show R[k].getD j false = R[k][j] by simp [List.getD, hj1]] at a
  rw [show Q[k].getD j false = Q[k][j] by simp [List.getD, hj2]] at b
  rw [Bool.eq_iff_iff, a, b]

/-- The rows of what is near. -/
def NearMat (nB : Nat) (C : List LIns) (R : List (List Bool)) : Prop := TruthMat nB nB (fun a b => Near C a b) R

/-- By rows of what is needed. -/
def nearG (C : List LIns) (R : List (List Bool)) (k a b : Nat) : Bool :=
  givesT (C.getD k .zero) a && !(((C.getD k .zero).op == 2) && ((C.getD k .zero).a == (b : Int))) && (nextsI (C.getD k .zero) k).any fun x => decide (x < (C.length : Int)) && (R.getD x.toNat []).getD b false

theorem nearG_iff {nB : Nat} {C : List LIns} {R : List (List Bool)} (hN : NeedMat nB C R) (hok : ∀ k, k < C.length → InsOk nB C.length (C.getD k .zero)) {k a b : Nat} (hk : k < C.length) (hb : b < nB) : nearG C R k a b = true ↔ NearAt C k a b := by
  unfold nearG NearAt
  simp only [Bool.and_eq_true, Bool.not_eq_true', Bool.and_eq_false_iff, List.any_eq_true, decide_eq_true_eq, and_assoc]
  refine and_congr Iff.rfl (and_congr ?_ ?_)
  · simp only [beq_eq_false_iff_ne, ne_eq]
    exact Decidable.not_and_iff_not_or_not.symm
  · constructor
    · rintro ⟨x, hx, hl, ht⟩
      have hb0 := nexts_bd (hok k hk) hk x hx
      exact ⟨x.toNat, List.mem_map.2 ⟨x, hx, rfl⟩, (hN.tru x.toNat (by omega) b hb).1 ht⟩
    · rintro ⟨y, hy, hn⟩
      obtain ⟨x, hx, rfl⟩ := List.mem_map.1 hy
      have hb0 := nexts_bd (hok k hk) hk x hx
      have hl := need_lt hn
      exact ⟨x, hx, by omega, (hN.tru x.toNat hl b hb).2 hn⟩

end Go.Proofs.Ytcmnmogmdhofcab.form

/- What may not be in one place, gathered in one row of truths (the closure that near.Of makes), on plain numbers and in memory. -/
namespace Go.Proofs.Ytcmnmogmdhofcab.form
open Go.RowKit
set_option linter.unusedVariables false
attribute [local go_sem ↓] Go.wp_at_zero Go.wp_at_succ

def joinL (nB : Nat) (L : List Bool) (a b : Nat) : List Bool := if a = b then L else (L.set (a * nB + b) true).set (b * nB + a) true

/-- The truths found till now are just these. -/
structure NrS (nB : Nat) (L : List Bool) (P : Nat → Nat → Prop) : Prop where
  len : L.length = nB * nB
  tru : ∀ x y, x < nB → y < nB → (getF nB L x y = true ↔ P x y)

/-- Besides, one with each of some. -/
def JoinP (P : Nat → Nat → Prop) (d : Nat) (H : Nat → Prop) (x y : Nat) : Prop := P x y ∨ (¬ x = y ∧ ((x = d ∧ H y) ∨ (y = d ∧ H x)))

theorem NrS.congr {nB : Nat} {L : List Bool} {P Q : Nat → Nat → Prop} (h : NrS nB L P) (e : ∀ x y, x < nB → y < nB → (P x y ↔ Q x y)) : NrS nB L Q :=
  ⟨h.len, fun x y hx hy => (h.tru x y hx hy).trans (e x y hx hy)⟩

theorem NrS.join {nB d t : Nat} {L : List Bool} {P : Nat → Nat → Prop} {H : Nat → Prop} (h : NrS nB L (JoinP P d H)) (hd : d < nB) (ht : t < nB) : NrS nB (joinL nB L d t) (JoinP P d (fun y => H y ∨ y = t)) := by
  unfold joinL
  by_cases e : d = t
  · rw [if_pos e]
    refine h.congr fun x y hx hy => ?_
    unfold JoinP
    grind
  · rw [if_neg e]
    refine ⟨by simp [h.len], fun x y hx hy => ?_⟩
    rw [getF_set (nC := nB) (by simp [h.len]) ht hd hy, getF_set (nC := nB) h.len hd ht hy]
    have := h.tru x y hx hy
    unfold JoinP at this ⊢
    grind

theorem NrS.nothing (nB : Nat) : NrS nB (List.replicate (nB * nB) false) (fun _ _ => False) :=
  ⟨by simp, fun x y _ _ => by rw [getF_nothing]; simp⟩

theorem NrS.truth {nB : Nat} {L : List Bool} {P : Nat → Nat → Prop} (h : NrS nB L P) : TruthMat nB nB P ((List.range nB).map (rowF nB L)) := by
  have e : ∀ k, k < nB → ((List.range nB).map (rowF nB L)).getD k [] = rowF nB L k := fun k hk => by simp [List.getD, hk]
  refine ⟨by simp, fun k hk => by rw [e k hk, len_rowF], fun k hk t ht => ?_⟩
  rw [e k hk, getD_rowF ht]
  exact h.tru k t hk ht

/-- All that was there but the blocks from lo to below hi is as it was. -/
structure Apart (lo hi : Nat) (w w' : World) : Prop where
  os : w'.os = w.os
  tape : w'.tape = w.tape
  output : w'.output = w.output
  size : w.heap.size ≤ w'.heap.size
  block : ∀ k, k < w.heap.size → ¬ (lo ≤ k ∧ k < hi) → w'.heap[k]? = w.heap[k]?

theorem Apart.of_below {lo hi : Nat} {w w' : World} (h : Below w.heap.size w w') : Apart lo hi w w' := ⟨h.os, h.tape, h.output, h.size, fun k hk _ => h.block k hk⟩
theorem Apart.refl (lo hi : Nat) (w : World) : Apart lo hi w w := Apart.of_below (Below.refl _ _)
theorem Apart.trans {lo hi : Nat} {a b c : World} (h : Apart lo hi a b) (k : Apart lo hi b c) : Apart lo hi a c :=
  ⟨k.os.trans h.os, k.tape.trans h.tape, k.output.trans h.output, Nat.le_trans h.size k.size, fun i hi' hn => (k.block i (Nat.lt_of_lt_of_le hi' h.size) hn).trans (h.block i hi' hn)⟩
theorem Apart.set {lo hi : Nat} {w w' : World} (h : Apart lo hi w w') {a : Addr} (h1 : lo ≤ a.block) (h2 : a.block < hi) (u : Value) : Apart lo hi w (w'.setCell a u) :=
  h.trans ⟨rfl, rfl, rfl, by simp [World.setCell], fun k hk hn => Below.heap_setCell _ _ _ _ (fun e => hn (by omega))⟩
theorem Apart.cell {lo hi : Nat} {w w' : World} (h : Apart lo hi w w') {p : Addr} {v : Value} (hc : w.cell? p = some v) (hn : ¬ (lo ≤ p.block ∧ p.block < hi)) : w'.cell? p = some v := by
  rw [World.cell?_of_block (w := w) (h.block p.block (World.block_lt_of_cell? w p hc) hn)]
  exact hc
theorem Apart.below {lo hi : Nat} {w w' : World} (h : Apart lo hi w w') (hl : lo ≤ w.heap.size) : Below lo w w' := ⟨h.os, h.tape, h.output, h.size, fun k hk => h.block k (by omega) (by omega)⟩
theorem Apart.mono {lo hi lo' hi' : Nat} {w w' : World} (h : Apart lo hi w w') (h1 : lo' ≤ lo) (h2 : hi ≤ hi') : Apart lo' hi' w w' := ⟨h.os, h.tape, h.output, h.size, fun k hk hn => h.block k hk (by omega)⟩

set_option maxRecDepth 100000 in
theorem join (gn bx nB a b : Nat) (L : List Bool) (w : World) (hB : nB ≤ 12) (hx : w.cell? ⟨bx, 0, none⟩ = some (.slice (some ⟨gn, 0, none⟩) nB nB)) (hxn : ¬ (gn ≤ bx ∧ bx < gn + 1 + nB)) (hM : MatF gn nB nB L w) (ha : a < nB) (hb : b < nB) :
    Calls Try.prog 60 #[.int .i64 a, .int .i64 b, .pointer (some ⟨bx, 0, none⟩)] w fun e w' => e = .returned (.tuple #[]) ∧ MatF gn nB nB (joinL nB L a b) w' ∧ Apart gn (gn + 1 + nB) w w' := by
  have y0 : (0 : Int) ≤ (a : Int) := by omega
  have y1 : (a : Int) < (nB : Int) := by omega
  have y2 : (0 : Int) ≤ (b : Int) := by omega
  have y3 : (b : Int) < (nB : Int) := by omega
  have y4 : (nB : Int) ≤ 12 := by omega
  by_cases hab : a = b
  · subst hab
    go_enter Try.func60, Try.ntmps60
    go_wp2
    go_end0
    exact ⟨rfl, by unfold joinL; rw [if_pos rfl]; exact hM, Apart.refl _ _ _⟩
  have y5 : ¬ (a : Int) = (b : Int) := by omega
  have m1 := hM.top a ha
  have c1 := hM.cell ha hb
  have f1 := (hM.row a ha).frozen b
  obtain ⟨W1, hW1⟩ : ∃ W1, W1 = w.setCell ⟨gn + 1 + a, b, none⟩ (.bool true) := ⟨_, rfl⟩
  have hM1 : MatF gn nB nB (L.set (a * nB + b) true) W1 := by rw [hW1]; exact hM.set ha hb
  have hx1 : W1.cell? ⟨bx, 0, none⟩ = some (.slice (some ⟨gn, 0, none⟩) nB nB) := by rw [hW1]; exact cell_other hx (by show bx ≠ gn + 1 + a; omega)
  have m2 := hM1.top b hb
  have c2 := hM1.cell hb ha
  have f2 := (hM1.row b hb).frozen a
  have HM1 : Hid (MatF gn nB nB (L.set (a * nB + b) true) W1) := hM1
  have HA1 : Hid (Apart gn (gn + 1 + nB) w W1) := by
    have : Apart gn (gn + 1 + nB) w (w.setCell ⟨gn + 1 + a, b, none⟩ (.bool true)) := (Apart.refl _ _ _).set (by show gn ≤ gn + 1 + a; omega) (by show gn + 1 + a < gn + 1 + nB; omega) _
    rw [← hW1] at this
    exact this
  have HW1 : Hid (w.setCell ⟨gn + 1 + a, b, none⟩ (.bool true) = W1) := hW1.symm
  clear hM hM1 hW1
  go_enter Try.func60, Try.ntmps60
  go_upto_region 2 with (fail)
  rw [HW1.out]
  go_wp2
  go_end0
  refine ⟨rfl, ?_, ?_⟩
  · unfold joinL
    rw [if_neg hab]
    exact HM1.out.set hb ha
  · exact HA1.out.set (by show gn ≤ gn + 1 + b; omega) (by show gn + 1 + b < gn + 1 + nB; omega) _

end Go.Proofs.Ytcmnmogmdhofcab.form

/- What layout.within and isIn answer. -/
namespace Go.Proofs.Ytcmnmogmdhofcab.form
open Go.RowKit
set_option linter.unusedVariables false

theorem within (a b : Int) (w : World) :
    Calls Try.prog 82 #[.int .i64 a, .int .i64 b] w fun e w' => e = .returned (.bool (decide (1 ≤ a) && decide (a ≤ b))) ∧ w' = w := by
  go_enter Try.func82, Try.ntmps82
  go_wp2
  all_goals
    go_ret
    exact ⟨ret_bool (by rw [Bool.eq_iff_iff]; simp; try omega), rfl⟩

theorem isIn (a b : Int) (w : World) :
    Calls Try.prog 140 #[.int .i64 a, .int .i64 b] w fun e w' => e = .returned (.bool (decide (0 ≤ a) && decide (a < b))) ∧ w' = w := by
  go_enter Try.func140, Try.ntmps140
  go_wp2
  all_goals
    go_ret
    exact ⟨ret_bool (by rw [Bool.eq_iff_iff]; simp; try omega), rfl⟩

end Go.Proofs.Ytcmnmogmdhofcab.form

/- What layout.kindsOf, settle and fits answer. -/
namespace Go.Proofs.Ytcmnmogmdhofcab.form
open Go.RowKit
set_option linter.unusedVariables false

/-- What a field of a kind may hold. -/
def fitB (B : List Bool) (nC : Nat) (k x : Int) : Bool :=
  if k = 0 then x == 0 else if k = 1 then decide (0 ≤ x) && decide (x < B.length) && !(B.getD x.toNat false)
  else if k = 2 then decide (0 ≤ x) && decide (x < B.length) && B.getD x.toNat false else if k = 4 then decide (0 ≤ x) && decide (x < nC) else k == 5

set_option maxRecDepth 100000 in
set_option maxHeartbeats 400000 in
theorem fits (b0 o0 c0 b1 o1 c1 : Nat) (B : List Bool) (C : List LIns) (k x : Int) (w : World) (hB : B.length ≤ 12) (hC : C.length ≤ 40) (h : Held w b0 o0 b1 o1 B C) :
    Calls Try.prog 143 #[progV b0 o0 B.length c0 b1 o1 C.length c1, .int .i64 k, .int .i64 x] w fun e w' => e = .returned (.bool (fitB B C.length k x)) ∧ Below w.heap.size w w' := by
  have hlt0 := h.lt0
  have hcell : 0 ≤ x ∧ x < B.length → w.cell? ⟨b0, o0 + x.toNat, none⟩ = some (.bool (B.getD x.toNat false)) := fun hx => h.wide _ (by omega)
  unfold progV
  go_enter Try.func143, Try.ntmps143
  go_wp2_with (go_at_call 140; refine (isIn _ _ _).mono ?_; rintro e w' ⟨rfl, rfl⟩)
  all_goals
    go_ret
    exact ⟨ret_bool (by clear hcell; simp_all [fitB]; try (intro hx; exfalso; omega)), (Below.refl _ _).alloc (Nat.le_refl _) _⟩

/-- The kinds of an instruction's five fields. -/
def kd (op : Int) (j : Nat) : Int :=
  (if op = 1 then [1, 0, 0, 0, 5] else if op = 2 then [3, 3, 0, 0, 0] else if op = 3 then [1, 0, 0, 0, 0] else if op = 4 then [0, 1, 0, 0, 0] else if op = 5 then [2, 1, 1, 0, 0]
  else if op = 6 ∨ op = 7 then [1, 2, 0, 0, 0] else if op = 8 then [0, 0, 0, 4, 0] else if op = 9 then [0, 1, 0, 4, 0] else if op = 10 then [0, 0, 0, 0, 0]
  else if 21 ≤ op ∧ op ≤ 26 then [1, 1, 1, 0, 0] else if 41 ≤ op ∧ op ≤ 45 then [2, 2, 2, 0, 0] else [0, 0, 0, 0, 0]).getD j 0

def fiveV (k0 k1 k2 k3 k4 : Int) : Value := .agg #[.int .i64 k0, .int .i64 k1, .int .i64 k2, .int .i64 k3, .int .i64 k4]

theorem kd_narrow (op : Int) (h1 : 21 ≤ op) (h2 : op ≤ 26) : kd op = fun j => ([1, 1, 1, 0, 0] : List Int).getD j 0 := by
  funext j
  unfold kd
  rw [if_neg (by omega), if_neg (by omega), if_neg (by omega), if_neg (by omega), if_neg (by omega), if_neg (by omega), if_neg (by omega), if_neg (by omega), if_neg (by omega), if_pos (by omega)]
theorem kd_wide (op : Int) (h1 : 41 ≤ op) (h2 : op ≤ 45) : kd op = fun j => ([2, 2, 2, 0, 0] : List Int).getD j 0 := by
  funext j
  unfold kd
  rw [if_neg (by omega), if_neg (by omega), if_neg (by omega), if_neg (by omega), if_neg (by omega), if_neg (by omega), if_neg (by omega), if_neg (by omega), if_neg (by omega), if_neg (by omega), if_pos (by omega)]
theorem known_narrow (op : Int) (h1 : 21 ≤ op) (h2 : op ≤ 26) : knownB op = true := by unfold knownB; simp; omega
theorem known_wide (op : Int) (h1 : 41 ≤ op) (h2 : op ≤ 45) : knownB op = true := by unfold knownB; simp; omega
theorem kd_none (op : Int) (h : knownB op = false) : kd op = (fun j => ([0, 0, 0, 0, 0] : List Int).getD j 0) ∧ knownB op = false := by
  refine ⟨?_, h⟩
  unfold knownB at h
  simp at h
  funext j
  unfold kd
  rw [if_neg (by omega), if_neg (by omega), if_neg (by omega), if_neg (by omega), if_neg (by omega), if_neg (by omega), if_neg (by omega), if_neg (by omega), if_neg (by omega), if_neg (by omega), if_neg (by omega)]

set_option maxRecDepth 100000 in
set_option maxHeartbeats 400000 in
theorem kindsOf (op : Int) (w : World) :
    Calls Try.prog 121 #[.int .i64 op] w fun e w' => e = .returned (.tuple #[fiveV (kd op 0) (kd op 1) (kd op 2) (kd op 3) (kd op 4), .bool (knownB op)]) ∧ Below w.heap.size w w' := by
  rcases (show op = 1 ∨ op = 2 ∨ op = 3 ∨ op = 4 ∨ op = 5 ∨ op = 6 ∨ op = 7 ∨ op = 8 ∨ op = 9 ∨ op = 10 ∨ (21 ≤ op ∧ op ≤ 26) ∨ (41 ≤ op ∧ op ≤ 45) ∨ op < 1 ∨ (10 < op ∧ op < 21) ∨ (26 < op ∧ op < 41) ∨ 45 < op by omega) with rfl | rfl | rfl | rfl | rfl | rfl | rfl | rfl | rfl | rfl | ⟨h1, h2⟩ | ⟨h1, h2⟩ | h1 | ⟨h1, h2⟩ | ⟨h1, h2⟩ | h1
  all_goals
    go_enter Try.func121, Try.ntmps121
    go_wp2
    refine bodyPost_ret (v := .tuple #[fiveV (kd _ 0) (kd _ 1) (kd _ 2) (kd _ 3) (kd _ 4), .bool (knownB _)]) ?_ rfl ⟨rfl, ?_⟩
    rotate_left
    · exact (Below.refl _ _).alloc (Nat.le_refl _) _
  iterate 10 (case refine_1 => simp [results, Try.results121, go_sem, fiveV, kd, knownB])
  case refine_1 => simp [results, Try.results121, go_sem, fiveV, kd_narrow op h1 h2, known_narrow op h1 h2]
  case refine_1 => simp [results, Try.results121, go_sem, fiveV, kd_wide op h1 h2, known_wide op h1 h2]
  all_goals simp [results, Try.results121, go_sem, fiveV, (kd_none op (by unfold knownB; simp; omega)).1, (kd_none op (by unfold knownB; simp; omega)).2]

def st (k width : Int) : Int := if k = 3 then width else k

set_option maxRecDepth 100000 in
set_option maxHeartbeats 400000 in
theorem settle (k0 k1 k2 k3 k4 width : Int) (w : World) :
    Calls Try.prog 123 #[fiveV k0 k1 k2 k3 k4, .int .i64 width] w fun e w' => e = .returned (fiveV (st k0 width) (st k1 width) (st k2 width) (st k3 width) (st k4 width)) ∧ Below w.heap.size w w' := by
  unfold fiveV
  have i0 : ∀ w, (Instr.index 177 (.agg #[.int .i64 k0, .int .i64 k1, .int .i64 k2, .int .i64 k3, .int .i64 k4]) (.int .i64 0)).run Try.prog w = .ok (.int .i64 k0) w := fun _ => by kernel_rfl
  have i1 : ∀ w, (Instr.index 177 (.agg #[.int .i64 k0, .int .i64 k1, .int .i64 k2, .int .i64 k3, .int .i64 k4]) (.int .i64 1)).run Try.prog w = .ok (.int .i64 k1) w := fun _ => by kernel_rfl
  have i2 : ∀ w, (Instr.index 177 (.agg #[.int .i64 k0, .int .i64 k1, .int .i64 k2, .int .i64 k3, .int .i64 k4]) (.int .i64 2)).run Try.prog w = .ok (.int .i64 k2) w := fun _ => by kernel_rfl
  have i3 : ∀ w, (Instr.index 177 (.agg #[.int .i64 k0, .int .i64 k1, .int .i64 k2, .int .i64 k3, .int .i64 k4]) (.int .i64 3)).run Try.prog w = .ok (.int .i64 k3) w := fun _ => by kernel_rfl
  have i4 : ∀ w, (Instr.index 177 (.agg #[.int .i64 k0, .int .i64 k1, .int .i64 k2, .int .i64 k3, .int .i64 k4]) (.int .i64 4)).run Try.prog w = .ok (.int .i64 k4) w := fun _ => by kernel_rfl
  go_enter Try.func123, Try.ntmps123
  go_wp2
  go_loopw [8] (fun i wr => ∃ k : Nat, ∃ u0 u1 u2 u3 u4 : Int, k ≤ 5 ∧ i = .int .i64 k ∧ wr = (w.alloc (.cells #[.int .i64 u0, .int .i64 u1, .int .i64 u2, .int .i64 u3, .int .i64 u4] 177)).alloc (.cells #[.int .i64 0, .int .i64 0, .int .i64 0, .int .i64 0, .int .i64 0] 177) ∧
      u0 = (if 0 < k then st k0 width else k0) ∧ u1 = (if 1 < k then st k1 width else k1) ∧ u2 = (if 2 < k then st k2 width else k2) ∧ u3 = (if 3 < k then st k3 width else k3) ∧ u4 = (if 4 < k then st k4 width else k4))
    (fun i _ => 5 - (intOf i).toNat)
  case atStart => exact ⟨0, k0, k1, k2, k3, k4, by omega, rfl, rfl, rfl, rfl, rfl, rfl, rfl⟩
  case round =>
    obtain ⟨k, u0, u1, u2, u3, u4, hk, rfl, rfl, e0, e1, e2, e3, e4⟩ := hrel
    rcases (show k = 0 ∨ k = 1 ∨ k = 2 ∨ k = 3 ∨ k = 4 ∨ k = 5 by omega) with rfl | rfl | rfl | rfl | rfl | rfl
    all_goals
      have H0 : Hid _ := e0
      have H1 : Hid _ := e1
      have H2 : Hid _ := e2
      have H3 : Hid _ := e3
      have H4 : Hid _ := e4
      clear e0 e1 e2 e3 e4
      go_wp2
    case roundEnd | roundEnd => refine ⟨⟨1, _, _, _, _, _, by omega, rfl, rfl, ?_, ?_, ?_, ?_, ?_⟩, by simp [intOf]⟩ <;> simp_all [st, Hid]
    case roundEnd | roundEnd => refine ⟨⟨2, _, _, _, _, _, by omega, rfl, rfl, ?_, ?_, ?_, ?_, ?_⟩, by simp [intOf]⟩ <;> simp_all [st, Hid]
    case roundEnd | roundEnd => refine ⟨⟨3, _, _, _, _, _, by omega, rfl, rfl, ?_, ?_, ?_, ?_, ?_⟩, by simp [intOf]⟩ <;> simp_all [st, Hid]
    case roundEnd | roundEnd => refine ⟨⟨4, _, _, _, _, _, by omega, rfl, rfl, ?_, ?_, ?_, ?_, ?_⟩, by simp [intOf]⟩ <;> simp_all [st, Hid]
    case roundEnd | roundEnd => refine ⟨⟨5, _, _, _, _, _, by omega, rfl, rfl, ?_, ?_, ?_, ?_, ?_⟩, by simp [intOf]⟩ <;> simp_all [st, Hid]
    · refine bodyPost_ret (v := fiveV (st k0 width) (st k1 width) (st k2 width) (st k3 width) (st k4 width)) ?_ rfl ⟨rfl, ?_⟩
      · have e0 := H0.out
        have e1 := H1.out
        have e2 := H2.out
        have e3 := H3.out
        have e4 := H4.out
        simp at e0 e1 e2 e3 e4
        simp [results, Try.results123, go_sem, fiveV, e0, e1, e2, e3, e4]
      · exact ((Below.refl _ _).alloc (Nat.le_refl _) _).alloc (by simp) _

end Go.Proofs.Ytcmnmogmdhofcab.form

/- What layout's functions on an instruction's fields and ways answer (layout.isTemp, Has, leads). -/
namespace Go.Proofs.Ytcmnmogmdhofcab.form
open Go.RowKit
set_option linter.unusedVariables false
attribute [local go_sem ↓] Go.wp_at_zero Go.wp_at_succ

def isT (k : Int) : Bool := k == 1 || k == 2 || k == 3

theorem isTemp (k : Int) (w : World) :
    Calls Try.prog 139 #[.int .i64 k] w fun e w' => e = .returned (.bool (isT k)) ∧ w' = w := by
  go_enter Try.func139, Try.ntmps139
  go_wp2
  all_goals
    go_ret
    exact ⟨ret_bool (by simp_all [isT]), rfl⟩

theorem isT_gives {op : Int} (h : knownB op = true) : isT (kd op 0) = givesB op := by
  unfold knownB at h
  simp at h
  unfold kd isT givesB
  rcases h with (h | h) | h
  · rcases (show op = 1 ∨ op = 2 ∨ op = 3 ∨ op = 4 ∨ op = 5 ∨ op = 6 ∨ op = 7 ∨ op = 8 ∨ op = 9 ∨ op = 10 by omega) with rfl | rfl | rfl | rfl | rfl | rfl | rfl | rfl | rfl | rfl <;> simp
  · rcases (show op = 21 ∨ op = 22 ∨ op = 23 ∨ op = 24 ∨ op = 25 ∨ op = 26 by omega) with rfl | rfl | rfl | rfl | rfl | rfl <;> simp
  · rcases (show op = 41 ∨ op = 42 ∨ op = 43 ∨ op = 44 ∨ op = 45 by omega) with rfl | rfl | rfl | rfl | rfl <;> simp
theorem isT_many {op : Int} (h : knownB op = true) : isT (kd op 1) = decide (0 < manyI op) ∧ isT (kd op 2) = decide (1 < manyI op) := by
  unfold knownB at h
  simp at h
  unfold kd isT manyI
  rcases h with (h | h) | h
  · rcases (show op = 1 ∨ op = 2 ∨ op = 3 ∨ op = 4 ∨ op = 5 ∨ op = 6 ∨ op = 7 ∨ op = 8 ∨ op = 9 ∨ op = 10 by omega) with rfl | rfl | rfl | rfl | rfl | rfl | rfl | rfl | rfl | rfl <;> simp
  · rcases (show op = 21 ∨ op = 22 ∨ op = 23 ∨ op = 24 ∨ op = 25 ∨ op = 26 by omega) with rfl | rfl | rfl | rfl | rfl | rfl <;> simp
  · rcases (show op = 41 ∨ op = 42 ∨ op = 43 ∨ op = 44 ∨ op = 45 by omega) with rfl | rfl | rfl | rfl | rfl <;> simp
theorem isT_takes {i : LIns} (h : knownB i.op = true) (t : Int) : takesI i t = (isT (kd i.op 1) && (i.a == t) || isT (kd i.op 2) && (i.b == t)) := by
  obtain ⟨m, hm, hm2⟩ : ∃ m : Nat, manyI i.op = m ∧ m ≤ 2 := by
    rcases many_of i.op with h | h | h
    · exact ⟨0, h, by omega⟩
    · exact ⟨1, h, by omega⟩
    · exact ⟨2, h, by omega⟩
  have hh := isT_many h
  rw [takes_of i m hm hm2 t, hh.1, hh.2, hm]
  rcases (show m = 0 ∨ m = 1 ∨ m = 2 by omega) with rfl | rfl | rfl <;> simp

set_option maxRecDepth 100000 in
theorem has (op : Int) (w : World) :
    Calls Try.prog 107 #[.int .i64 op] w fun e w' => e = .returned (.tuple #[.bool (isT (kd op 0)), .bool (isT (kd op 1)), .bool (isT (kd op 2))]) ∧ Below w.heap.size w w' := by
  go_enter Try.func107, Try.ntmps107
  go_wp2_with (go_at_call 121; refine (kindsOf _ _).mono ?_; rintro e w1 ⟨rfl, hb1⟩; unfold fiveV)
  go_quiet (first | (go_at_call_of 139 (Value.int .i64 (kd op 0)); exact Calls.quiet_of_same (isTemp _ _)) | (go_at_call_of 139 (Value.int .i64 (kd op 1)); exact Calls.quiet_of_same (isTemp _ _)) | (go_at_call_of 139 (Value.int .i64 (kd op 2)); exact Calls.quiet_of_same (isTemp _ _)))
  go_wp2
  refine bodyPost_ret (v := .tuple #[.bool (isT (kd op 0)), .bool (isT (kd op 1)), .bool (isT (kd op 2))]) ?_ rfl ⟨rfl, ?_⟩
  · simp [results, Try.results107, go_sem]
  · exact below_drewN (hb1.alloc hb1.size _) _

theorem leads (i : LIns) (pc : Nat) (hpc : pc ≤ 40) (w : World) :
    Calls Try.prog 141 #[i.val, .int .i64 pc] w fun e w' => (∃ v, e = .returned v ∧ IntsAt w.heap.size w' v (nextsI i pc)) ∧ Below w.heap.size w w' := by
  unfold LIns.val
  have y1 : (pc : Int) ≤ 40 := by omega
  have y0 : (0 : Int) ≤ (pc : Int) := by omega
  have HB2 : Hid (∀ o1 o2 : Obj, Below w.heap.size w ((w.alloc o1).alloc o2)) := fun o1 o2 => ((Below.refl _ _).alloc (Nat.le_refl _) _).alloc (by simp) _
  go_enter Try.func141, Try.ntmps141
  go_wp2
  all_goals go_ret
  · refine ⟨⟨.slice (some ⟨w.heap.size + 1, 0, none⟩) 1 1, rfl, ?_⟩, HB2.out _ _⟩
    rw [show nextsI i pc = [i.c] by unfold nextsI; simp_all]
    exact ints_one (by omega) (by simp [go_sem])
  · refine ⟨⟨.slice (some ⟨w.heap.size + 1, 0, none⟩) 2 2, rfl, ?_⟩, HB2.out _ _⟩
    rw [show nextsI i pc = [(pc : Int) + 1, i.c] by unfold nextsI; simp_all]
    exact ints_two (by omega) (by simp [go_sem]) (by simp [go_sem])
  · refine ⟨⟨.slice none 0 0, rfl, ?_⟩, (Below.refl _ _).alloc (Nat.le_refl _) _⟩
    rw [show nextsI i pc = [] by unfold nextsI; simp_all]
    exact ⟨none, 0, rfl, fun hh => absurd hh (by simp)⟩
  · refine ⟨⟨.slice (some ⟨w.heap.size + 1, 0, none⟩) 1 1, rfl, ?_⟩, HB2.out _ _⟩
    rw [show nextsI i pc = [(pc : Int) + 1] by unfold nextsI; simp_all]
    exact ints_one (by omega) (by simp [go_sem])

end Go.Proofs.Ytcmnmogmdhofcab.form
