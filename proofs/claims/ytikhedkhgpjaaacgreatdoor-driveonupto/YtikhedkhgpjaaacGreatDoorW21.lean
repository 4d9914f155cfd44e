/- What an instruction takes (loanbookref4.takes). -/
import Derived.Test.YtikhedkhgpjaaacGreatDoorW05
import Derived.Test.YtikhedkhgpjaaacGreatDoorW06
import Derived.Test.YtikhedkhgpjaaacGreatDoorW20

namespace Go.Proofs.YtikhedkhgpjaaacGreatDoor
set_option linter.unusedVariables false
namespace form
open Go.RowKit
attribute [local go_sem ↓] Go.wp_at_zero Go.wp_at_succ
end form
/- The document's function that tells whether a temporary is needed ahead of an instruction (loanbookref4.Needed): a search along the ways. -/
namespace form
open Go.RowKit
attribute [local go_sem ↓] Go.wp_at_zero Go.wp_at_succ
section
variable {w : World} {b1 o1 c1 : Nat} {C : List LIns} {come : List Bool} {way : List Nat} {v : Value} {wr w1 : World}
end
end form
/- Whether a temporary is needed by the truths found till now (live.isNeeded). -/
namespace form
open Go.RowKit
attribute [local go_sem ↓] Go.wp_at_zero Go.wp_at_succ
theorem goes_nil {nC pc : Nat} {i : LIns} {P : Nat → Bool} (hb : ∀ x, x ∈ nextsI i pc → 0 ≤ x ∧ x ≤ (nC : Int)) :
    ((nextsN i pc).any fun x => decide (x < nC) && P x) = (goesI nC i pc).any fun x => P x.toNat := by
  unfold nextsN goesI
  rw [Bool.eq_iff_iff]
  simp only [List.any_eq_true, List.mem_map, List.mem_filter, Bool.and_eq_true, decide_eq_true_eq, thereB]
  constructor
  · rintro ⟨x, ⟨y, hy, rfl⟩, hl, hp⟩
    have := hb y hy
    exact ⟨y, ⟨hy, by omega, by omega⟩, hp⟩
  · rintro ⟨y, ⟨hy, h0, h1⟩, hp⟩
    exact ⟨y.toNat, ⟨y, hy, rfl⟩, by omega, hp⟩
theorem goes_there {nC pc : Nat} {i : LIns} {x : Int} (h : x ∈ goesI nC i pc) : 0 ≤ x ∧ x < nC := by
  unfold goesI at h
  have := (List.mem_filter.1 h).2
  unfold thereB at this
  simpa using this
theorem goes_len (nC : Nat) (i : LIns) (pc : Nat) : (goesI nC i pc).length ≤ 2 := Nat.le_trans (List.length_filter_le _ _) (nexts_len i pc)
set_option maxRecDepth 100000 in
set_option maxHeartbeats 1000000 in
theorem isNeeded (g b0 o0 c0 b1 o1 c1 : Nat) (B : List Bool) (C : List LIns) (L : List Bool) (k t : Nat) (w : World) (hB : B.length ≤ 12) (hC : C.length ≤ 40) (h : Held w b0 o0 b1 o1 B C) (hok : ∀ k, k < C.length → InsOk B.length C.length (C.getD k .zero))
    (hkn : ∀ k, k < C.length → knownB (C.getD k .zero).op = true) (hM : MatF g B.length C.length L w) (hk : k < C.length) (ht : t < B.length) :
    Calls Tryz.prog 142 #[progV b0 o0 B.length c0 b1 o1 C.length c1, .slice (some ⟨g, 0, none⟩) C.length C.length, .int .i64 k, .int .i64 t] w fun e w' => e = .returned (.bool (stepB B.length C L k t)) ∧ Below w.heap.size w w' := by
  obtain ⟨d0, d1, d2, d3, d4, d5⟩ := h.code k hk
  have hst : stepB B.length C L k t = ((isT (kd (C.getD k .zero).op 1) && ((C.getD k .zero).a == (t : Int)) || isT (kd (C.getD k .zero).op 2) && ((C.getD k .zero).b == (t : Int))) || (!(isT (kd (C.getD k .zero).op 0) && ((C.getD k .zero).dest == (t : Int))) && (goesI C.length (C.getD k .zero) k).any fun x => getF B.length L x.toNat t)) := by
    unfold stepB
    rw [isT_takes (hkn k hk), goes_nil (nexts_bd (hok k hk) hk), isT_gives (hkn k hk)]
    rfl
  have HGO : Hid (∀ wx : World, Below w.heap.size w wx → Calls Tryz.prog 113 #[progV b0 o0 B.length c0 b1 o1 C.length c1, .int .i64 k] wx fun e w' => (∃ v, e = .returned v ∧ IntsAt wx.heap.size w' v (goesI C.length (C.getD k .zero) k)) ∧ Below wx.heap.size wx w') := fun wx hb => goesOn b0 o0 c0 b1 o1 c1 B C k wx hC (h.later hb) hk
  have HTH : Hid (∀ x, x ∈ goesI C.length (C.getD k .zero) k → 0 ≤ x ∧ x < C.length) := fun x hx => goes_there hx
  have hgl := goes_len C.length (C.getD k .zero) k
  obtain ⟨i, hi⟩ : ∃ i, i = C.getD k .zero := ⟨_, rfl⟩
  rw [← hi] at d0 d1 d2 d3 d4 d5 hst HGO HTH hgl
  clear hi
  rw [hst]
  obtain ⟨N, hN⟩ : ∃ N, N = goesI C.length i k := ⟨_, rfl⟩
  rw [← hN] at HGO HTH hgl ⊢
  clear hN hst
  have hlt1 := h.lt1
  have HM : Hid (MatF g B.length C.length L w) := hM
  have y0 : (0 : Int) ≤ (k : Int) := by omega
  have y1 : (k : Int) < (C.length : Int) := by omega
  have y2 : (C.length : Int) ≤ 40 := by omega
  have x0 : (0 : Int) ≤ (t : Int) := by omega
  have x1 : (t : Int) < (B.length : Int) := by omega
  have x2 : (B.length : Int) ≤ 12 := by omega
  clear hM hok hkn h
  obtain ⟨P0, hP0⟩ : ∃ x, x = isT (kd i.op 0) := ⟨_, rfl⟩
  obtain ⟨P1, hP1⟩ : ∃ x, x = isT (kd i.op 1) := ⟨_, rfl⟩
  obtain ⟨P2, hP2⟩ : ∃ x, x = isT (kd i.op 2) := ⟨_, rfl⟩
  have HH : Hid (∀ wx : World, Calls Tryz.prog 112 #[.int .i64 i.op] wx fun e w' => e = .returned (.tuple #[.bool P0, .bool P1, .bool P2]) ∧ Below wx.heap.size wx w') := fun wx => by rw [hP0, hP1, hP2]; exact has i.op wx
  rw [← hP0, ← hP1, ← hP2]
  clear hP0 hP1 hP2
  obtain ⟨q0, hq0⟩ : ∃ x, x = (i.dest == (t : Int)) := ⟨_, rfl⟩
  obtain ⟨q1, hq1⟩ : ∃ x, x = (i.a == (t : Int)) := ⟨_, rfl⟩
  obtain ⟨q2, hq2⟩ : ∃ x, x = (i.b == (t : Int)) := ⟨_, rfl⟩
  have e0 := hq0.symm
  have e1 := hq1.symm
  have e2 := hq2.symm
  rw [e0, e1, e2]
  clear hq0 hq1 hq2
  unfold progV
  have s1 : (P1 = true ∧ q1 = true) ∨ P1 = false ∨ (P1 = true ∧ q1 = false) := by cases P1 <;> cases q1 <;> simp
  have s2 : (P2 = true ∧ q2 = true) ∨ P2 = false ∨ (P2 = true ∧ q2 = false) := by cases P2 <;> cases q2 <;> simp
  have s0 : (P0 = true ∧ q0 = true) ∨ P0 = false ∨ (P0 = true ∧ q0 = false) := by cases P0 <;> cases q0 <;> simp
  rcases s1 with ⟨rfl, rfl⟩ | s1
  · simp only [Bool.true_and, Bool.true_or]
    go_enter Tryz.func142, Tryz.ntmps142
    go_wp2_with (go_at_call 112; refine (HH.out _).mono ?_; rintro e w1 ⟨rfl, hb1⟩; have HB1 : Hid (Below w.heap.size w w1) := ((((Below.refl _ _).alloc (Nat.le_refl _) _).alloc (by simp) _).trans (hb1.mono (by simp; omega))); have f2 : w1.cell? ⟨w.heap.size + 1, 2, none⟩ = some (.int .i64 i.a) := step_cell hb1 (by simp [go_sem]))
    go_ret
    exact ⟨rfl, HB1.out⟩
  rcases s2 with ⟨rfl, rfl⟩ | s2
  · simp only [Bool.true_and, Bool.or_true, Bool.true_or]
    rcases s1 with rfl | ⟨rfl, rfl⟩
    all_goals
      go_enter Tryz.func142, Tryz.ntmps142
      go_wp2_with (go_at_call 112; refine (HH.out _).mono ?_; rintro e w1 ⟨rfl, hb1⟩; have HB1 : Hid (Below w.heap.size w w1) := ((((Below.refl _ _).alloc (Nat.le_refl _) _).alloc (by simp) _).trans (hb1.mono (by simp; omega))); have f2 : w1.cell? ⟨w.heap.size + 1, 2, none⟩ = some (.int .i64 i.a) := step_cell hb1 (by simp [go_sem]); have f3 : w1.cell? ⟨w.heap.size + 1, 3, none⟩ = some (.int .i64 i.b) := step_cell hb1 (by simp [go_sem]))
      go_ret
      exact ⟨rfl, HB1.out⟩
  have hno : (P1 && q1 || P2 && q2) = false := by rcases s1 with rfl | ⟨rfl, rfl⟩ <;> rcases s2 with rfl | ⟨rfl, rfl⟩ <;> simp
  rw [hno]
  rcases s0 with ⟨rfl, rfl⟩ | s0
  · simp only [Bool.true_and, Bool.not_true, Bool.false_and, Bool.or_self]
    rcases s1 with rfl | ⟨rfl, rfl⟩ <;> rcases s2 with rfl | ⟨rfl, rfl⟩
    all_goals
      go_enter Tryz.func142, Tryz.ntmps142
      go_wp2_with (go_at_call 112; refine (HH.out _).mono ?_; rintro e w1 ⟨rfl, hb1⟩; have HB1 : Hid (Below w.heap.size w w1) := ((((Below.refl _ _).alloc (Nat.le_refl _) _).alloc (by simp) _).trans (hb1.mono (by simp; omega))); have f1 : w1.cell? ⟨w.heap.size + 1, 1, none⟩ = some (.int .i64 i.dest) := step_cell hb1 (by simp [go_sem]); have f2 : w1.cell? ⟨w.heap.size + 1, 2, none⟩ = some (.int .i64 i.a) := step_cell hb1 (by simp [go_sem]); have f3 : w1.cell? ⟨w.heap.size + 1, 3, none⟩ = some (.int .i64 i.b) := step_cell hb1 (by simp [go_sem]))
      go_ret
      exact ⟨rfl, HB1.out⟩
  have hno0 : (P0 && q0) = false := by rcases s0 with rfl | ⟨rfl, rfl⟩ <;> simp
  rw [hno0]
  simp only [Bool.not_false, Bool.true_and, Bool.false_or]
  rcases s1 with rfl | ⟨rfl, rfl⟩ <;> rcases s2 with rfl | ⟨rfl, rfl⟩ <;> rcases s0 with rfl | ⟨rfl, rfl⟩
  all_goals
    go_enter Tryz.func142, Tryz.ntmps142
    go_wp2_with (first
      | (go_at_call 112; refine (HH.out _).mono ?_; rintro e w1 ⟨rfl, hb1⟩; have HB1 : Hid (Below w.heap.size w w1) := ((((Below.refl _ _).alloc (Nat.le_refl _) _).alloc (by simp) _).trans (hb1.mono (by simp; omega))); have f1 : w1.cell? ⟨w.heap.size + 1, 1, none⟩ = some (.int .i64 i.dest) := step_cell hb1 (by simp [go_sem]); have f2 : w1.cell? ⟨w.heap.size + 1, 2, none⟩ = some (.int .i64 i.a) := step_cell hb1 (by simp [go_sem]); have f3 : w1.cell? ⟨w.heap.size + 1, 3, none⟩ = some (.int .i64 i.b) := step_cell hb1 (by simp [go_sem]); have p0 : w1.cell? ⟨w.heap.size, 0, none⟩ = some (.slice (some ⟨b0, o0, none⟩) B.length c0) := step_cell hb1 (by simp [go_sem]); have p1 : w1.cell? ⟨w.heap.size, 1, none⟩ = some (.slice (some ⟨b1, o1, none⟩) C.length c1) := step_cell hb1 (by simp [go_sem]); clear hb1)
      | (go_at_call 113; refine (HGO.out _ HB1.out).mono ?_; rintro e w3 ⟨⟨nv, rfl, hnv⟩, hb3⟩; have HNV : Hid _ := hnv; obtain ⟨nao, ncap, rfl, -⟩ := hnv; have HB3 : Hid (Below w.heap.size w w3) := step_below hb3 HB1.out; clear hb3))
    have HW3 : Hid (0 < N.length → ∃ gb, nao = some ⟨gb, 0, none⟩ ∧ gb < w3.heap.size ∧ ∀ q, q < N.length → w3.cell? ⟨gb, q, none⟩ = some (.int .i64 (N.getD q 0))) := by
      intro h0
      obtain ⟨_, _, he, hh⟩ := HNV.out
      simp at he
      obtain ⟨rfl, rfl⟩ := he
      obtain ⟨gb, e1, e2, e3, e4⟩ := hh h0
      exact ⟨gb, e1, e3, e4⟩
    have z3 : (N.length : Int) ≤ 2 := by omega
    have HM3 : Hid (MatF g B.length C.length L w3) := HM.out.below HB3.out
    clear HNV HB1 p0 p1 f1 f2 f3 d0 d1 d2 d3 d4 d5
    go_loopw [54] (fun jv wr => ∃ (j : Nat), jv = .int .i64 j ∧ j ≤ N.length ∧ wr = w3 ∧ ∀ q, q < j → getF B.length L (N.getD q 0).toNat t = false) (fun jv _ => N.length - (intOf jv).toNat)
    case atStart => exact ⟨0, rfl, by omega, rfl, fun q hq => absurd hq (by omega)⟩
    case round =>
      obtain ⟨j, rfl, hj, hw, hall⟩ := hrel
      obtain rfl := hw.symm
      have HALL : Hid (∀ q, q < j → getF B.length L (N.getD q 0).toNat t = false) := hall
      clear hall
      by_cases hjl : j < N.length
      case neg =>
        have y9 : ¬ (j : Int) < (N.length : Int) := by omega
        go_wp2
        go_ret
        refine ⟨ret_bool ?_, HB3.out⟩
        obtain rfl : j = N.length := by omega
        rw [eq_comm, List.any_eq_false]
        intro x hx
        obtain ⟨q, hq, rfl⟩ := List.getElem_of_mem hx
        have := HALL.out q hq
        rw [show N.getD q 0 = N[q] by simp [List.getD, hq]] at this
        simp [this]
      obtain ⟨gb, rfl, hgb2, hgbc⟩ := HW3.out (by omega)
      have nj := hgbc j hjl
      have hmem : N.getD j 0 ∈ N := by simp [List.getD, hjl]
      have hyb := HTH.out _ hmem
      obtain ⟨Y, hY⟩ : ∃ Y : Nat, N.getD j 0 = Y := Int.eq_ofNat_of_zero_le hyb.1
      rw [hY] at nj hmem hyb
      have HY : Hid (N.getD j 0 = (Y : Int)) := hY
      have HME : Hid ((Y : Int) ∈ N) := hmem
      clear hgbc hY hmem
      have m1 := HM3.out.top Y (by omega)
      have m2 := HM3.out.cell (k := Y) (t := t) (by omega) ht
      obtain ⟨u, hu⟩ : ∃ u, u = getF B.length L Y t := ⟨_, rfl⟩
      rw [← hu] at m2
      have HU : Hid (getF B.length L Y t = u) := hu.symm
      clear hu
      have y8 : (j : Int) < (N.length : Int) := by omega
      have y7 : (0 : Int) ≤ (j : Int) := by omega
      have y6 : (0 : Int) ≤ (Y : Int) := by omega
      have y5 : (Y : Int) < (C.length : Int) := by omega
      cases u with
      | true =>
        go_wp2
        go_ret
        refine ⟨ret_bool ?_, HB3.out⟩
        rw [eq_comm, List.any_eq_true]
        exact ⟨(Y : Int), HME.out, by simpa using HU.out⟩
      | false =>
        go_wp2
        refine ⟨⟨j + 1, by go_num, by omega, trivial, fun q hq => ?_⟩, by simp [intOf]; omega⟩
        by_cases hqj : q < j
        · exact HALL.out q hqj
        · obtain rfl : q = j := by omega
          rw [HY.out]
          simpa using HU.out
end form
/- What is added by the truths found till now, from the last instruction to the first (live.spread). -/
namespace form
open Go.RowKit
attribute [local go_sem ↓] Go.wp_at_zero Go.wp_at_succ
theorem Held.under {w w' : World} {b0 o0 b1 o1 g : Nat} {B : List Bool} {C : List LIns} (h : Held w b0 o0 b1 o1 B C) (h0 : b0 < g) (h1 : b1 < g) (hb : Below g w w') : Held w' b0 o0 b1 o1 B C := by
  refine ⟨Nat.lt_of_lt_of_le h.lt0 hb.size, Nat.lt_of_lt_of_le h.lt1 hb.size, fun i hi => ?_, fun i hi => ?_⟩
  · rw [hb.cell (p := ⟨b0, o0 + i, none⟩) h0]; exact h.wide i hi
  · obtain ⟨c0, c1, c2, c3, c4, c5⟩ := h.code i hi
    refine ⟨?_, ?_, ?_, ?_, ?_, ?_⟩
    · rw [hb.cell (p := ⟨b1, _, none⟩) h1]; exact c0
    · rw [hb.cell (p := ⟨b1, _, none⟩) h1]; exact c1
    · rw [hb.cell (p := ⟨b1, _, none⟩) h1]; exact c2
    · rw [hb.cell (p := ⟨b1, _, none⟩) h1]; exact c3
    · rw [hb.cell (p := ⟨b1, _, none⟩) h1]; exact c4
    · rw [hb.cell (p := ⟨b1, _, none⟩) h1]; exact c5
structure SpS (nB : Nat) (C : List LIns) (L0 : List Bool) (seen : Nat → Nat → Prop) (m : Bool) (L : List Bool) : Prop where
  len : L.length = C.length * nB
  snd : Snd nB C L
  yes : m = true → L0.count true < L.count true
  no : m = false → L = L0 ∧ ∀ k t, k < C.length → t < nB → seen k t → getF nB L k t = false → stepB nB C L k t = false
theorem SpS.add {nB : Nat} {C : List LIns} {L0 L : List Bool} {seen seen' : Nat → Nat → Prop} {m : Bool} {k t : Nat} (h : SpS nB C L0 seen m L) (hk : k < C.length) (ht : t < nB) (hg : getF nB L k t = false) (hs : stepB nB C L k t = true) :
    SpS nB C L0 seen' true (L.set (k * nB + t) true) := by
  have hc : (L.set (k * nB + t) true).count true = L.count true + 1 := count_mark L _ (by rw [h.len]; exact flat_lt hk ht) hg
  refine ⟨by simp [h.len], snd_set h.snd h.len hk ht hs, fun _ => ?_, fun e => absurd e (by simp)⟩
  cases m with
  | true => have := h.yes rfl; omega
  | false => rw [hc, (h.no rfl).1]; omega
theorem SpS.pass {nB : Nat} {C : List LIns} {L0 L : List Bool} {seen seen' : Nat → Nat → Prop} {m : Bool} {k t : Nat} (h : SpS nB C L0 seen m L) (hs : getF nB L k t = true ∨ stepB nB C L k t = false) (hseen : ∀ k' t', t' < nB → seen' k' t' → seen k' t' ∨ (k' = k ∧ t' = t)) :
    SpS nB C L0 seen' m L := by
  refine ⟨h.len, h.snd, h.yes, fun e => ⟨(h.no e).1, fun k' t' hk' ht' hs' hg => ?_⟩⟩
  rcases hseen k' t' ht' hs' with h1 | ⟨rfl, rfl⟩
  · exact (h.no e).2 k' t' hk' ht' h1 hg
  · rcases hs with hs | hs
    · rw [hs] at hg; exact absurd hg (by simp)
    · exact hs
structure SpM (w : World) (g b0 o0 c0 b1 o1 c1 : Nat) (B : List Bool) (C : List LIns) (L : List Bool) (wr : World) : Prop where
  bel : Below g w wr
  p0 : wr.cell? ⟨w.heap.size, 0, none⟩ = some (.slice (some ⟨b0, o0, none⟩) B.length c0)
  p1 : wr.cell? ⟨w.heap.size, 1, none⟩ = some (.slice (some ⟨b1, o1, none⟩) C.length c1)
  mat : MatF g B.length C.length L wr
section
variable {w wr w1 : World} {g b0 o0 c0 b1 o1 c1 : Nat} {B : List Bool} {C : List LIns} {L : List Bool}
theorem SpM.below (hg : g ≤ w.heap.size) (h : SpM w g b0 o0 c0 b1 o1 c1 B C L wr) (hb : Below wr.heap.size wr w1) : SpM w g b0 o0 c0 b1 o1 c1 B C L w1 :=
  ⟨h.bel.trans (hb.mono (Nat.le_trans hg h.bel.size)), step_cell hb h.p0, step_cell hb h.p1, h.mat.below hb⟩
theorem SpM.set (hg : g + C.length < w.heap.size) (h : SpM w g b0 o0 c0 b1 o1 c1 B C L wr) {k t : Nat} (hk : k < C.length) (ht : t < B.length) : SpM w g b0 o0 c0 b1 o1 c1 B C (L.set (k * B.length + t) true) (wr.setCell ⟨g + 1 + k, t, none⟩ (.bool true)) :=
  ⟨h.bel.setCell (by show g ≤ g + 1 + k; omega) _, cell_other h.p0 (by show w.heap.size ≠ g + 1 + k; omega), cell_other h.p1 (by show w.heap.size ≠ g + 1 + k; omega), h.mat.set hk ht⟩
end
def SpreadAns (nB : Nat) (C : List LIns) (g : Nat) (L0 : List Bool) (e : Ending) (w : World) : Prop :=
  ∃ m L, e = .returned (.bool m) ∧ MatF g nB C.length L w ∧ SpS nB C L0 (fun _ _ => True) m L
set_option maxRecDepth 100000 in
set_option maxHeartbeats 1000000 in
theorem spread (g b0 o0 c0 b1 o1 c1 : Nat) (B : List Bool) (C : List LIns) (L0 : List Bool) (w : World) (hB : B.length ≤ 12) (hC : C.length ≤ 40) (hg0 : b0 < g) (hg1 : b1 < g) (h : Held w b0 o0 b1 o1 B C) (hok : ∀ k, k < C.length → InsOk B.length C.length (C.getD k .zero))
    (hkn : ∀ k, k < C.length → knownB (C.getD k .zero).op = true) (hM : MatF g B.length C.length L0 w) (hS : Snd B.length C L0) (hC1 : 1 ≤ C.length) :
    Calls Tryz.prog 111 #[progV b0 o0 B.length c0 b1 o1 C.length c1, .slice (some ⟨g, 0, none⟩) C.length C.length] w fun e w' => SpreadAns B.length C g L0 e w' ∧ Below g w w' := by
  have hgl : g + C.length < w.heap.size := by have := (hM.row (C.length - 1) (by omega)).lt; omega
  have HH : Hid (∀ wx : World, Below g w wx → Held wx b0 o0 b1 o1 B C) := fun wx hb => h.under hg0 hg1 hb
  have HIS : Hid (∀ (wx : World) (L : List Bool) (k t : Nat), Held wx b0 o0 b1 o1 B C → MatF g B.length C.length L wx → k < C.length → t < B.length → Calls Tryz.prog 142 #[progV b0 o0 B.length c0 b1 o1 C.length c1, .slice (some ⟨g, 0, none⟩) C.length C.length, .int .i64 k, .int .i64 t] wx fun e w' => e = .returned (.bool (stepB B.length C L k t)) ∧ Below wx.heap.size wx w') :=
    fun wx L k t hh hm hk ht => isNeeded g b0 o0 c0 b1 o1 c1 B C L k t wx hB hC hh hok hkn hm hk ht
  have HM0 : Hid (MatF g B.length C.length L0 w) := hM
  have HS0 : Hid (Snd B.length C L0) := hS
  have y2 : (C.length : Int) ≤ 40 := by omega
  have y3 : (B.length : Int) ≤ 12 := by omega
  have y1 : (1 : Int) ≤ (C.length : Int) := by omega
  clear h hok hkn hM hS
  unfold progV
  go_enter Tryz.func111, Tryz.ntmps111
  go_wp2
  go_loopw [5, 6] (fun mv kv wr => ∃ (m : Bool) (k : Nat) (L : List Bool), mv = .bool m ∧ kv = .int .i64 ((k : Int) - 1) ∧ k ≤ C.length ∧ SpM w g b0 o0 c0 b1 o1 c1 B C L wr ∧ SpS B.length C L0 (fun k' _ => k ≤ k') m L) (fun _ kv _ => (intOf kv + 1).toNat)
  case atStart =>
    refine ⟨false, C.length, L0, rfl, ?_, by omega, ⟨(Below.refl _ _).alloc (by omega) _, by simp [go_sem], by simp [go_sem], HM0.out.below ((Below.refl _ _).alloc (Nat.le_refl _) _)⟩, HM0.out.len, HS0.out, fun e => absurd e (by simp), fun _ => ⟨rfl, fun k t hk ht hle => absurd hle (by omega)⟩⟩
    go_num
  case round =>
    obtain ⟨m, k, L, rfl, rfl, hk, hmem, hsp⟩ := hrel
    have HSM : Hid (SpM w g b0 o0 c0 b1 o1 c1 B C L wr) := hmem
    have HSP : Hid (SpS B.length C L0 (fun k' _ => k ≤ k') m L) := hsp
    have p0 := hmem.p0
    have p1 := hmem.p1
    clear hmem hsp
    by_cases hk0 : k = 0
    · subst hk0
      go_wp2
      go_ret
      refine ⟨⟨m, L, rfl, HSM.out.mat, HSP.out.len, HSP.out.snd, HSP.out.yes, fun e => ⟨(HSP.out.no e).1, fun k t hk ht _ hg => (HSP.out.no e).2 k t hk ht (Nat.zero_le _) hg⟩⟩, HSM.out.bel⟩
    obtain ⟨a, rfl⟩ : ∃ a, k = a + 1 := ⟨k - 1, by omega⟩
    have ea : (((a + 1 : Nat) : Int) - 1) = (a : Int) := by omega
    rw [ea]
    have y5 : (0 : Int) ≤ (a : Int) := by omega
    have y6 : (a : Int) < (C.length : Int) := by omega
    have hac : a < C.length := by omega
    have HSP1 : Hid (SpS B.length C L0 (fun k' t' => a + 1 ≤ k' ∨ (k' = a ∧ t' < 0)) m L) := ⟨HSP.out.len, HSP.out.snd, HSP.out.yes, fun e => ⟨(HSP.out.no e).1, fun k' t' hk' ht' hs hg => (HSP.out.no e).2 k' t' hk' ht' (by rcases hs with hs | hs <;> omega) hg⟩⟩
    clear HSP
    go_wp2
    go_loopw [5, 19] (fun mv tv wr2 => ∃ (m : Bool) (t : Nat) (L : List Bool), mv = .bool m ∧ tv = .int .i64 t ∧ t ≤ B.length ∧ SpM w g b0 o0 c0 b1 o1 c1 B C L wr2 ∧ SpS B.length C L0 (fun k' t' => a + 1 ≤ k' ∨ (k' = a ∧ t' < t)) m L) (fun _ tv _ => B.length - (intOf tv).toNat)
    case atStart => exact ⟨m, 0, L, rfl, rfl, by omega, HSM.out, HSP1.out⟩
    case round =>
      clear HSM HSP1 p0 p1
      obtain ⟨m, t, L, rfl, rfl, ht, hmem, hsp⟩ := hrel
      have HSM : Hid (SpM w g b0 o0 c0 b1 o1 c1 B C L wr) := hmem
      have HSP : Hid (SpS B.length C L0 (fun k' t' => a + 1 ≤ k' ∨ (k' = a ∧ t' < t)) m L) := hsp
      have p0 := hmem.p0
      have p1 := hmem.p1
      have m1 := hmem.mat.top a hac
      have HMA : Hid (MatF g B.length C.length L wr) := hmem.mat
      clear hmem hsp
      by_cases htl : t < B.length
      case neg =>
        have y9 : ¬ (t : Int) < (B.length : Int) := by omega
        go_wp2
        go_roundw
        case rel =>
          refine ⟨m, a, L, rfl, rfl, by omega, HSM.out, HSP.out.len, HSP.out.snd, HSP.out.yes, fun e => ⟨(HSP.out.no e).1, fun k' t' hk' ht' hs hg => (HSP.out.no e).2 k' t' hk' ht' (by omega) hg⟩⟩
        case measure => simp [intOf]
      have m2 := HMA.out.cell hac htl
      have fz := (HMA.out.row a hac).frozen t
      obtain ⟨u, hu⟩ : ∃ u, u = getF B.length L a t := ⟨_, rfl⟩
      rw [← hu] at m2
      have HU : Hid (getF B.length L a t = u) := hu.symm
      clear hu
      have y8 : (t : Int) < (B.length : Int) := by omega
      have y7 : (0 : Int) ≤ (t : Int) := by omega
      cases u with
      | true =>
        go_wp2
        exact ⟨⟨m, t + 1, L, rfl, by go_num, by omega, HSM.out, HSP.out.pass (Or.inl HU.out) (fun k' t' _ hs => by omega)⟩, by simp [intOf]; omega⟩
      | false =>
        obtain ⟨s, hs⟩ : ∃ s, s = stepB B.length C L a t := ⟨_, rfl⟩
        have HS : Hid (stepB B.length C L a t = s) := hs.symm
        clear hs
        cases s with
        | true =>
          go_wp2_with (go_at_call 142; refine (HIS.out _ L a t (HH.out _ HSM.out.bel) HMA.out hac htl).mono ?_; rw [HS.out]; rintro e w1 ⟨rfl, hb1⟩; have n1 := step_cell hb1 m1; have n2 := step_cell hb1 m2; have fz1 := ((HMA.out.below hb1).row a hac).frozen t; have HB1 : Hid (Below wr.heap.size wr w1) := hb1; clear hb1)
          refine ⟨⟨true, t + 1, L.set (a * B.length + t) true, rfl, by go_num, by omega, (HSM.out.below (by omega) HB1.out).set hgl hac htl, HSP.out.add hac htl HU.out HS.out⟩, by simp [intOf]; omega⟩
        | false =>
          go_wp2_with (go_at_call 142; refine (HIS.out _ L a t (HH.out _ HSM.out.bel) HMA.out hac htl).mono ?_; rw [HS.out]; rintro e w1 ⟨rfl, hb1⟩; have HB1 : Hid (Below wr.heap.size wr w1) := hb1; clear hb1)
          refine ⟨⟨m, t + 1, L, rfl, by go_num, by omega, HSM.out.below (by omega) HB1.out, HSP.out.pass (Or.inr HS.out) (fun k' t' _ hs => by omega)⟩, by simp [intOf]; omega⟩
end form
end Go.Proofs.YtikhedkhgpjaaacGreatDoor
