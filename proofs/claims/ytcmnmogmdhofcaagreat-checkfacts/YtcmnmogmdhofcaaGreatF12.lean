/- What layout.May answers. -/
import Derived.Test.YtcmnmogmdhofcaaGreatF11
import Derived.Test.YtcmnmogmdhofcaaGreatF01
import Derived.Test.YtcmnmogmdhofcaaGreatF10
import Derived.Test.YtcmnmogmdhofcaaGreatF06
import Derived.Test.YtcmnmogmdhofcaaGreatF09

namespace Go.Proofs.YtcmnmogmdhofcaaGreat.form
open Go.RowKit
set_option linter.unusedVariables false

def mayB (B : List Bool) (C : List LIns) : Bool := sizesB B C && C.all (standB B C.length)

theorem may_no (v : Value) (B : List Bool) (C : List LIns) (w : World) (h : ProgIs w v B C) (hs : sizesB B C = false) :
    Calls Tryz.prog 20 #[v] w fun e w' => e = .returned (.bool false) ∧ Below w.heap.size w w' := by
  obtain ⟨⟨a0, c0, a1, c1, rfl, -⟩, l0, l1, -⟩ := h
  have hs' : ¬ (1 ≤ B.length ∧ B.length ≤ 12 ∧ 1 ≤ C.length ∧ C.length ≤ 40) := by
    intro hh; unfold sizesB at hs; simp at hs; omega
  have HS : Hid _ := hs'
  clear hs hs'
  go_enter Tryz.func20, Tryz.ntmps20
  go_wp2_with (go_at_call 39; refine (within _ _ _).mono ?_; rintro e w' ⟨rfl, rfl⟩)
  all_goals first
    | (go_ret; exact ⟨rfl, (Below.refl _ _).alloc (Nat.le_refl _) _⟩)
    | (exfalso; apply HS.out; simp_all; omega)

set_option maxRecDepth 100000 in
set_option maxHeartbeats 1000000 in
theorem may_yes (b0 o0 c0 b1 o1 c1 : Nat) (B : List Bool) (C : List LIns) (w : World) (h : Held w b0 o0 b1 o1 B C) (hn : ∀ i, i < C.length → 0 ≤ (C.getD i .zero).n ∧ (C.getD i .zero).n < 4294967296) (hs : sizesB B C = true) :
    Calls Tryz.prog 20 #[progV b0 o0 B.length c0 b1 o1 C.length c1] w fun e w' => e = .returned (.bool (C.all (standB B C.length))) ∧ Below w.heap.size w w' := by
  obtain ⟨s1, s2, s3, s4⟩ := sizes_of hs
  have j1 : (1 : Int) ≤ (B.length : Int) := by omega
  have j2 : (B.length : Int) ≤ 12 := by omega
  have j3 : (1 : Int) ≤ (C.length : Int) := by omega
  have j4 : (C.length : Int) ≤ 40 := by omega
  unfold progV
  go_enter Tryz.func20, Tryz.ntmps20
  go_wp2_with (go_at_call 39; refine (within _ _ _).mono ?_; rintro e w' ⟨rfl, rfl⟩)
  go_loopw [20] (fun i wr => ∃ k : Nat, k ≤ C.length ∧ i = .int .i64 k ∧ Below w.heap.size w wr ∧ w.heap.size < wr.heap.size ∧
      wr.cell? ⟨w.heap.size, 0, none⟩ = some (.slice (some ⟨b0, o0, none⟩) B.length c0) ∧ wr.cell? ⟨w.heap.size, 1, none⟩ = some (.slice (some ⟨b1, o1, none⟩) C.length c1) ∧
      (∀ j, j < k → standB B C.length (C.getD j .zero) = true))
    (fun i _ => C.length - (intOf i).toNat)
  case atStart => exact ⟨0, by omega, rfl, (Below.refl _ _).alloc (Nat.le_refl _) _, by simp, by simp [go_sem], by simp [go_sem], fun j hj => absurd hj (by omega)⟩
  case round =>
    obtain ⟨k, hk, rfl, hbel, hsz, cp0, cp1, hall⟩ := hrel
    have F : Hid _ := hall
    have HN : Hid _ := hn
    clear hall hn
    have hh := h.later hbel
    by_cases hlt : k < C.length
    · obtain ⟨d0, d1, d2, d3, d4, d5⟩ := hh.code k hlt
      obtain ⟨n0, n1⟩ := HN.out k hlt
      obtain ⟨i, hi⟩ : ∃ i, i = C.getD k .zero := ⟨_, rfl⟩
      rw [← hi] at d0 d1 d2 d3 d4 d5 n0 n1
      have HI : Hid _ := hi
      clear hi
      go_wp2_with (go_at_call 40; refine (mayStand b0 o0 c0 b1 o1 c1 B C i _ s2 s4 ?_ n0 n1).mono ?_; (exact hh.alloc _); rintro e w1 ⟨rfl, hb1⟩)
      all_goals
        have hb2 := over_alloc hb1
        have hbel1 := step_below hb2 hbel
      · go_ret
        refine ⟨ret_bool ?_, hbel1⟩
        have hf : standB B C.length i = false := by simp_all
        rw [eq_comm, List.all_eq_false]
        refine ⟨i, ?_, by simp [hf]⟩
        rw [HI.out]
        simp [List.getD, hlt]
      · refine ⟨⟨k + 1, by omega, by go_num, hbel1, Nat.lt_of_lt_of_le hsz hb2.size, step_cell hb2 cp0, step_cell hb2 cp1, ?_⟩, by simp [intOf]; omega⟩
        intro j hj
        by_cases hjk : j < k
        · exact F.out j hjk
        · obtain rfl : j = k := by omega
          rw [← HI.out]
          simp_all
    · go_wp2
      go_ret
      exact ⟨ret_bool (by
        rw [List.all_eq_true.2]
        intro x hx
        obtain ⟨j, hj, rfl⟩ := List.getElem_of_mem hx
        have := F.out j (by omega)
        simpa [List.getD, hj] using this), hbel⟩

theorem may (v : Value) (B : List Bool) (C : List LIns) (w : World) (h : ProgIs w v B C) :
    Calls Tryz.prog 20 #[v] w fun e w' => e = .returned (.bool (mayB B C)) ∧ Below w.heap.size w w' := by
  cases hs : sizesB B C with
  | false => rw [show mayB B C = false by simp [mayB, hs]]; exact may_no v B C w h hs
  | true =>
    rw [show mayB B C = C.all (standB B C.length) by simp [mayB, hs]]
    obtain ⟨s1, s2, s3, s4⟩ := sizes_of hs
    obtain ⟨⟨a0, c0, a1, c1, rfl, hh⟩, l0, l1, hn⟩ := h
    obtain ⟨b0, o0, b1, o1, rfl, rfl, hH⟩ := hh s1 s3
    exact may_yes b0 o0 c0 b1 o1 c1 B C w hH hn hs

end Go.Proofs.YtcmnmogmdhofcaaGreat.form

/- The program's answer to whether an instruction may stand is the document's. -/
namespace Go.Proofs.YtcmnmogmdhofcaaGreat.form
set_option linter.unusedVariables false

theorem same_at (B : List Bool) (nC : Nat) (i : LIns) (n : Int) (hop : i.op = n) (hn : n = 1 ∨ n = 2 ∨ n = 3 ∨ n = 4 ∨ n = 5 ∨ n = 6 ∨ n = 7 ∨ n = 8 ∨ n = 9 ∨ n = 10) : standB B nC i = insB B nC i := by
  obtain ⟨op, d, a, b, c, N⟩ := i
  simp only at hop
  subst hop
  rw [Bool.eq_iff_iff]
  rcases hn with rfl | rfl | rfl | rfl | rfl | rfl | rfl | rfl | rfl | rfl
  all_goals simp [standB, fitAs, fit5, fitB, st, kd, knownB, insB, fieldB, lineB, widthsB, wl, wl0, wl1, givesB, manyI, bw]
  case inr.inl =>
    generalize B[d.toNat]?.getD false = x
    generalize B[a.toNat]?.getD false = y
    cases x <;> cases y <;> simp <;> omega
  all_goals
    generalize B[d.toNat]?.getD false = x
    generalize B[a.toNat]?.getD false = y
    generalize B[b.toNat]?.getD false = z
    constructor <;> intro h <;> simp_all

theorem same_narrow (B : List Bool) (nC : Nat) (i : LIns) (h1 : 21 ≤ i.op) (h2 : i.op ≤ 26) : standB B nC i = insB B nC i := by
  have hk := known_narrow i.op h1 h2
  have hd := kd_narrow i.op h1 h2
  have hg : givesB i.op = true := by unfold givesB; simp; omega
  have hm : manyI i.op = 2 := by unfold manyI; rw [if_neg (by omega), if_neg (by omega)]
  have hl : lineB nC i = (i.c == 0) := by unfold lineB; rw [if_neg (by omega)]
  have h1' : (i.op == 1) = false := by simp; omega
  have hw : widthsB B i = (wl B i).all (fun x => x == false) := by
    unfold widthsB
    rw [if_neg (by omega), if_neg (by omega), if_neg (by omega), show decide (40 < i.op) = false by simp; omega]
  rw [Bool.eq_iff_iff]
  simp [standB, fitAs, fit5, hk, hd, insB, hg, hm, hl, h1', hw, st, fitB, fieldB, wl, wl0, wl1, bw]
  clear hw
  generalize B[i.dest.toNat]?.getD false = x
  generalize B[i.a.toNat]?.getD false = y
  generalize B[i.b.toNat]?.getD false = z
  constructor <;> intro h <;> simp_all

theorem same_wide (B : List Bool) (nC : Nat) (i : LIns) (h1 : 41 ≤ i.op) (h2 : i.op ≤ 45) : standB B nC i = insB B nC i := by
  have hk := known_wide i.op h1 h2
  have hd := kd_wide i.op h1 h2
  have hg : givesB i.op = true := by unfold givesB; simp; omega
  have hm : manyI i.op = 2 := by unfold manyI; rw [if_neg (by omega), if_neg (by omega)]
  have hl : lineB nC i = (i.c == 0) := by unfold lineB; rw [if_neg (by omega)]
  have h1' : (i.op == 1) = false := by simp; omega
  have hw : widthsB B i = (wl B i).all (fun x => x == true) := by
    unfold widthsB
    rw [if_neg (by omega), if_neg (by omega), if_neg (by omega), show decide (40 < i.op) = true by simp; omega]
  rw [Bool.eq_iff_iff]
  simp [standB, fitAs, fit5, hk, hd, insB, hg, hm, hl, h1', hw, st, fitB, fieldB, wl, wl0, wl1, bw]
  clear hw
  generalize B[i.dest.toNat]?.getD false = x
  generalize B[i.a.toNat]?.getD false = y
  generalize B[i.b.toNat]?.getD false = z
  constructor <;> intro h <;> simp_all

theorem stand_ins (B : List Bool) (nC : Nat) (i : LIns) : standB B nC i = insB B nC i := by
  cases hk : knownB i.op with
  | false => simp [standB, insB, hk]
  | true =>
    have hk' := hk
    unfold knownB at hk'
    simp at hk'
    rcases hk' with (⟨h1, h2⟩ | ⟨h1, h2⟩) | ⟨h1, h2⟩
    · exact same_at B nC i i.op rfl (by omega)
    · exact same_narrow B nC i h1 h2
    · exact same_wide B nC i h1 h2

theorem may_same (B : List Bool) (C : List LIns) : mayB B C = refMayB B C := by
  unfold mayB refMayB
  rw [show standB B C.length = insB B C.length from funext (stand_ins B C.length)]

end Go.Proofs.YtcmnmogmdhofcaaGreat.form

/- What the program's own function on places (place.May) answers. -/
namespace Go.Proofs.YtcmnmogmdhofcaaGreat.form
open Go.RowKit
set_option linter.unusedVariables false
attribute [local go_sem ↓] Go.wp_at_zero Go.wp_at_succ

theorem mayR (v : Value) (B : List Bool) (C : List LIns) (w : World) (h : ProgIs w v B C) :
    Calls Tryz.prog 20 #[v] w fun e w' => e = .returned (.bool (refMayB B C)) ∧ Below w.heap.size w w' := by
  rw [← may_same]; exact may v B C w h

theorem slotsMay (slots : Int) (w : World) : Calls Tryz.prog 22 #[.int .i64 slots] w fun e w' => e = .returned (.bool (!decide (slots < 0) && !decide (12 < slots))) ∧ w' = w := by
  rcases (show slots < 0 ∨ (¬ slots < 0 ∧ 12 < slots) ∨ (¬ slots < 0 ∧ ¬ 12 < slots) by omega) with h | ⟨h, h1⟩ | ⟨h, h1⟩
  · go_enter Tryz.func22, Tryz.ntmps22
    go_wp2
    go_ret
    exact ⟨ret_bool (by first | (simp; done) | (simp; omega)), rfl⟩
  all_goals
    go_enter Tryz.func22, Tryz.ntmps22
    go_wp2
    go_ret
    exact ⟨ret_bool (by simp; omega), rfl⟩

set_option maxRecDepth 100000 in
set_option maxHeartbeats 1000000 in
theorem mayO_no (pv lv : Value) (B : List Bool) (C : List LIns) (s slots : Int) (R : List LRow) (w : World) (hp : ProgIs w pv B C) (hl : PlacedIs w lv slots R)
    (hno : (refMayB B C && targetB s && !decide (slots < 0) && !decide (12 < slots) && decide (R.length = C.length)) = false) :
    Calls Tryz.prog 8 #[pv, targetV s, lv] w fun e w' => e = .returned (.bool false) ∧ Below w.heap.size w w' := by
  have h0 := hp
  obtain ⟨⟨a0, c0, a1, c1, rfl, -⟩, -, lC, -⟩ := h0
  have HP : Hid (ProgIs w (.agg #[.slice a0 B.length c0, .slice a1 C.length c1]) B C) := hp
  obtain ⟨ao, cap, rfl, lR, -⟩ := hl
  clear hp
  unfold targetV
  have HW : Hid (Below w.heap.size w (((w.alloc (.cells #[.slice a0 B.length c0, .slice a1 C.length c1] 25)).alloc (.cells #[.int .i64 s] 27)).alloc (.cells #[.int .i64 slots, .slice ao R.length cap] 30))) := (((Below.refl _ _).alloc (Nat.le_refl _) _).alloc (by simp) _).alloc (by simp; omega) _
  rcases (show refMayB B C = false ∨ (refMayB B C = true ∧ targetB s = false) ∨ (refMayB B C = true ∧ targetB s = true ∧ slots < 0) ∨ (refMayB B C = true ∧ targetB s = true ∧ ¬ slots < 0 ∧ 12 < slots) ∨ (refMayB B C = true ∧ targetB s = true ∧ ¬ slots < 0 ∧ ¬ 12 < slots ∧ ((R.length : Int) != (C.length : Int)) = true) by
    cases hm : refMayB B C
    · exact Or.inl rfl
    · cases ht : targetB s
      · exact Or.inr (Or.inl ⟨rfl, rfl⟩)
      · rw [hm, ht] at hno
        simp at hno
        by_cases x1 : slots < 0
        · exact Or.inr (Or.inr (Or.inl ⟨rfl, rfl, x1⟩))
        · by_cases x2 : 12 < slots
          · exact Or.inr (Or.inr (Or.inr (Or.inl ⟨rfl, rfl, x1, x2⟩)))
          · refine Or.inr (Or.inr (Or.inr (Or.inr ⟨rfl, rfl, x1, x2, ?_⟩)))
            have := hno (by omega) (by omega)
            simp; omega) with e1 | ⟨e1, e2⟩ | ⟨e1, e2, e3⟩ | ⟨e1, e2, e3, e4⟩ | ⟨e1, e2, e3, e4, e5⟩
  case inl =>
    clear hno
    go_enter Tryz.func8, Tryz.ntmps8
    go_wp2_with (go_at_call 20; refine (mayR _ B C _ (HP.out.later HW.out)).mono ?_; rintro e w1 ⟨rfl, hb1⟩; rw [e1])
    go_ret
    exact ⟨rfl, step_below hb1 HW.out⟩
  all_goals
    clear hno
    go_enter Tryz.func8, Tryz.ntmps8
    go_wp2_with (first | (go_at_call 20; refine (mayR _ B C _ (HP.out.later HW.out)).mono ?_; rintro e w1 ⟨rfl, hb1⟩; rw [e1]; have t0 : w1.cell? ⟨w.heap.size + 1, 0, none⟩ = some (.int .i64 s) := step_cell hb1 (by simp [go_sem]); have t1 : w1.cell? ⟨w.heap.size + 1 + 1, 0, none⟩ = some (.int .i64 slots) := step_cell hb1 (by simp [go_sem]); have t2 : w1.cell? ⟨w.heap.size + 1 + 1, 1, none⟩ = some (.slice ao R.length cap) := step_cell hb1 (by simp [go_sem]); have t3 : w1.cell? ⟨w.heap.size, 1, none⟩ = some (.slice a1 C.length c1) := step_cell hb1 (by simp [go_sem])) | (go_at_call 21; refine (targetMay s _).mono ?_; rintro e w2 ⟨rfl, hb2⟩; rw [e2]; have t1' := step_cell hb2 t1; have t2' := step_cell hb2 t2; have t3' := step_cell hb2 t3) | (go_at_call 22; refine (slotsMay slots _).mono ?_; (first | rw [show (!decide (slots < 0) && !decide (12 < slots)) = false by simp; omega] | rw [show (!decide (slots < 0) && !decide (12 < slots)) = true by simp; omega]); rintro e w' ⟨rfl, hw'⟩; obtain rfl := hw'.symm))
    go_ret
    exact ⟨rfl, step_below hb2 (step_below hb1 HW.out)⟩

structure OM (w : World) (b0 o0 c0 b1 o1 c1 : Nat) (s slots : Int) (b2 o2 c2 nR : Nat) (B : List Bool) (C : List LIns) (rb : Nat) (wr : World) : Prop where
  os : OS6 w b0 o0 c0 b1 o1 c1 s slots b2 o2 c2 nR B C wr
  lt : rb < wr.heap.size
  r0 : wr.cell? ⟨rb, 0, none⟩ = some (.int .i64 0)
  r1 : wr.cell? ⟨rb, 1, none⟩ = some (.int .i64 s)
  r2 : wr.cell? ⟨rb, 2, none⟩ = some (.int .i64 (s / 2))
  r3 : wr.cell? ⟨rb, 3, none⟩ = some (.int .i64 slots)
theorem OM.below {w : World} {b0 o0 c0 b1 o1 c1 : Nat} {s slots : Int} {b2 o2 c2 nR : Nat} {B : List Bool} {C : List LIns} {rb : Nat} {wr w1 : World} (h : OM w b0 o0 c0 b1 o1 c1 s slots b2 o2 c2 nR B C rb wr) (hb : Below wr.heap.size wr w1) : OM w b0 o0 c0 b1 o1 c1 s slots b2 o2 c2 nR B C rb w1 :=
  ⟨h.os.below hb, Nat.lt_of_lt_of_le h.lt hb.size, step_cell hb h.r0, step_cell hb h.r1, step_cell hb h.r2, step_cell hb h.r3⟩

theorem known_ofP {B : List Bool} {C : List LIns} (h : refMayB B C = true) : ∀ k, k < C.length → knownB (C.getD k .zero).op = true := by
  intro k hk
  unfold refMayB at h
  simp only [Bool.and_eq_true] at h
  have := List.all_eq_true.1 h.2 (C.getD k .zero) (by simp [List.getD, hk])
  unfold insB at this
  simp only [Bool.and_eq_true] at this
  exact this.1.1.1.1.1.1

set_option maxRecDepth 100000 in
set_option maxHeartbeats 8000000 in
theorem mayO_yes (b0 o0 c0 b1 o1 c1 b2 o2 c2 : Nat) (B : List Bool) (C : List LIns) (s slots : Int) (R : List LRow) (w : World) (h : Held w b0 o0 b1 o1 B C) (hR : RowsHeld w b2 o2 R)
    (hn : ∀ i, i < C.length → 0 ≤ (C.getD i .zero).n ∧ (C.getD i .zero).n < 4294967296) (hm : refMayB B C = true) (ht : targetB s = true) (hs0 : ¬ slots < 0) (hs1 : ¬ 12 < slots) (hlen : R.length = C.length) :
    Calls Tryz.prog 8 #[progV b0 o0 B.length c0 b1 o1 C.length c1, targetV s, .agg #[.int .i64 slots, .slice (some ⟨b2, o2, none⟩) R.length c2]] w fun e w' =>
      e = .returned (.bool ((List.range C.length).all (fun k => rowB B s slots (C.getD k .zero) (R.getD k .zero)))) ∧ Below w.heap.size w w' := by
  have hsz : sizesB B C = true := by unfold refMayB at hm; simp only [Bool.and_eq_true] at hm; exact hm.1
  obtain ⟨s1, s2, s3, s4⟩ := sizes_of hsz
  have HOK : Hid (∀ k, k < C.length → InsOk B.length C.length (C.getD k .zero)) := all_insOk hm hn
  have HKN0 : Hid (∀ k, k < C.length → knownB (C.getD k .zero).op = true) := known_ofP hm
  have HP : Hid (ProgIs w (.agg #[.slice (some ⟨b0, o0, none⟩) B.length c0, .slice (some ⟨b1, o1, none⟩) C.length c1]) B C) := ⟨⟨_, _, _, _, rfl, fun _ _ => ⟨b0, o0, b1, o1, rfl, rfl, h⟩⟩, by omega, by omega, hn⟩
  have HLEN : Hid (R.length = C.length) := hlen
  have HTG : Hid (targetB s = true) := ht
  have HS4 : Hid (4 ≤ s ∧ s ≤ 16) := by unfold targetB at ht; simp at ht; show 4 ≤ s ∧ s ≤ 16; omega
  have e5 : ((R.length : Int) != (C.length : Int)) = false := by simp [hlen]
  have z4 : (R.length : Int) ≤ 40 := by omega
  have HH : Hid (Held w b0 o0 b1 o1 B C) := h
  have HRR : Hid (RowsHeld w b2 o2 R) := hR
  clear hsz hn hlen h hR
  unfold progV targetV
  have HW : Hid (Below w.heap.size w (((w.alloc (.cells #[.slice (some ⟨b0, o0, none⟩) B.length c0, .slice (some ⟨b1, o1, none⟩) C.length c1] 25)).alloc (.cells #[.int .i64 s] 27)).alloc (.cells #[.int .i64 slots, .slice (some ⟨b2, o2, none⟩) R.length c2] 30))) := (((Below.refl _ _).alloc (Nat.le_refl _) _).alloc (by simp) _).alloc (by simp; omega) _
  go_enter Tryz.func8, Tryz.ntmps8
  go_wp2_with (first
    | (go_at_call 20; refine (mayR _ B C _ (HP.out.later HW.out)).mono ?_; rintro e w1 ⟨rfl, hb1⟩; rw [hm]; have t0 : w1.cell? ⟨w.heap.size + 1, 0, none⟩ = some (.int .i64 s) := step_cell hb1 (by simp [go_sem]); have t1 : w1.cell? ⟨w.heap.size + 1 + 1, 0, none⟩ = some (.int .i64 slots) := step_cell hb1 (by simp [go_sem]); have t2 : w1.cell? ⟨w.heap.size + 1 + 1, 1, none⟩ = some (.slice (some ⟨b2, o2, none⟩) R.length c2) := step_cell hb1 (by simp [go_sem]); have t3 : w1.cell? ⟨w.heap.size, 1, none⟩ = some (.slice (some ⟨b1, o1, none⟩) C.length c1) := step_cell hb1 (by simp [go_sem]); have t4 : w1.cell? ⟨w.heap.size, 0, none⟩ = some (.slice (some ⟨b0, o0, none⟩) B.length c0) := step_cell hb1 (by simp [go_sem]))
    | (go_at_call 21; refine (targetMay s _).mono ?_; rintro e w2 ⟨rfl, hb2⟩; rw [ht]; have t0' := step_cell hb2 t0; have t1' := step_cell hb2 t1; have t2' := step_cell hb2 t2; have t3' := step_cell hb2 t3)
    | (go_at_call 22; refine (slotsMay slots _).mono ?_; rw [show (!decide (slots < 0) && !decide (12 < slots)) = true by simp; omega]; rintro e w' ⟨rfl, hw'⟩; obtain rfl := hw'.symm)
    | (go_at_call 23; refine (roomOf s slots HS4.out.1 HS4.out.2 _).mono ?_; rintro e w3 ⟨rfl, hb3⟩; unfold roomV; have hzz : w.heap.size + 3 ≤ w3.heap.size := (Nat.le_trans (by have := hb1.size; simp at this; omega) (Nat.le_trans hb2.size hb3.size)); have v2 := step_cell hb3 t2'; have u2 : w.heap.size + 1 + 1 < w3.heap.size := (by omega)))
  have HO : Hid (OM w b0 o0 c0 b1 o1 c1 s slots b2 o2 c2 R.length B C w3.heap.size (w3.alloc (.cells #[.int .i64 0, .int .i64 s, .int .i64 (s / 2), .int .i64 slots] 72))) := by
    have g1 : Below w3.heap.size w3 (w3.alloc (.cells #[.int .i64 0, .int .i64 s, .int .i64 (s / 2), .int .i64 slots] 72)) := (Below.refl _ _).alloc (Nat.le_refl _) _
    have hos : OS6 w b0 o0 c0 b1 o1 c1 s slots b2 o2 c2 R.length B C w3 := ⟨step_below hb3 (step_below hb2 (step_below hb1 HW.out)), hzz, step_cell hb3 (step_cell hb2 t4), step_cell hb3 t3', step_cell hb3 t0', step_cell hb3 t1', v2⟩
    exact ⟨hos.below g1, by simp, by simp [go_sem], by simp [go_sem], by simp [go_sem], by simp [go_sem]⟩
  obtain ⟨rb, hrb⟩ : ∃ rb, rb = w3.heap.size := ⟨_, rfl⟩
  rw [← hrb]
  rw [← hrb] at HO
  clear t0 t1 t2 t3 t4 t0' t1' t2' t3' hb1 hb2 hb3 hzz v2 u2
  go_loopw [40] (fun t wr => ∃ k : Nat, k ≤ C.length ∧ t = .int .i64 k ∧ OM w b0 o0 c0 b1 o1 c1 s slots b2 o2 c2 R.length B C rb wr ∧ (∀ j, j < k → rowB B s slots (C.getD j .zero) (R.getD j .zero) = true)) (fun t _ => C.length - (intOf t).toNat)
  case atStart => exact ⟨0, by omega, rfl, HO.out, fun j hj => absurd hj (by omega)⟩
  clear HO hrb
  case round =>
    obtain ⟨k, hk, rfl, hos, hall⟩ := hrel
    have F : Hid (∀ j, j < k → rowB B s slots (C.getD j .zero) (R.getD j .zero) = true) := hall
    have HO : Hid (OM w b0 o0 c0 b1 o1 c1 s slots b2 o2 c2 R.length B C rb wr) := hos
    clear hall
    by_cases hlt : k < C.length
    case neg =>
      have hge : ¬ (k : Int) < (R.length : Int) := by have := HLEN.out; omega
      clear hos
      go_wp2
      go_ret
      refine ⟨ret_bool ?_, HO.out.os.bel⟩
      rw [eq_comm, List.all_eq_true]
      intro x hx
      exact F.out x (by simp at hx; omega)
    have hltR : k < R.length := by have := HLEN.out; omega
    have y0 : (0 : Int) ≤ (k : Int) := by omega
    have y1 : (k : Int) < (R.length : Int) := by omega
    have y2 : (k : Int) < (C.length : Int) := by omega
    obtain ⟨f0, f1, f2, f3, f4, f5, vb, va, f6, f7, mb, ma⟩ := (HRR.out.later hos.os.bel).rows k hltR
    have lb2 := (HRR.out.later hos.os.bel).lt
    obtain ⟨r, hr⟩ : ∃ r, r = R.getD k .zero := ⟨_, rfl⟩
    rw [← hr] at f0 f1 f2 f3 f4 f5 mb ma
    have HR : Hid (r = R.getD k .zero) := hr
    obtain ⟨abo, abc, hvb, abl, abh⟩ := mb
    obtain ⟨aao, aac, hva, aal, aah⟩ := ma
    have HMB0 : Hid (MovesIs wr vb r.before) := ⟨abo, abc, hvb, abl, abh⟩
    have HMA0 : Hid (MovesIs wr va r.after) := ⟨aao, aac, hva, aal, aah⟩
    subst hvb
    subst hva
    clear hr hos abh aah
    go_upto_region 7 with fail
    obtain ⟨wx, hwx⟩ : ∃ wx, wx = wr.alloc (.cells #[.int .i64 r.dest.kind, .int .i64 r.dest.n, .int .i64 r.a.kind, .int .i64 r.a.n, .int .i64 r.b.kind, .int .i64 r.b.n, .slice abo r.before.length abc, .slice aao r.after.length aac] 54) := ⟨_, rfl⟩
    have HG : Hid (Below wr.heap.size wr wx) := by rw [hwx]; exact (Below.refl _ _).alloc (Nat.le_refl _) _
    have hox := HO.out.below HG.out
    have HHX : Hid (Held wx b0 o0 b1 o1 B C) := HH.out.later hox.os.bel
    have HMB : Hid (MovesIs wx (.slice abo r.before.length abc) r.before) := HMB0.out.later HG.out
    have HMA : Hid (MovesIs wx (.slice aao r.after.length aac) r.after) := HMA0.out.later HG.out
    obtain ⟨x6, x7, x8, x9, x10, x11⟩ := HHX.out.code k hlt
    obtain ⟨i, hi⟩ : ∃ i, i = C.getD k .zero := ⟨_, rfl⟩
    rw [← hi] at x6 x7 x8 x9 x10 x11
    have HI : Hid (i = C.getD k .zero) := hi
    have HKN : Hid (knownB i.op = true) := by have := HKN0.out k hlt; rw [← hi] at this; exact this
    have HIF : Hid (∀ j, j < 3 → tjF i j = true → 0 ≤ fjF i j ∧ fjF i j < B.length) := by
      have := HOK.out k hlt
      rw [← hi] at this
      exact fun j hj ht => fj_bd this hj ht
    have x0 := hox.r0
    have x1 := hox.r1
    have x2 := hox.r2
    have x3 := hox.r3
    have x4 := hox.os.p0
    have x5 := hox.os.p1
    have x12 : wx.cell? ⟨wr.heap.size, 0, none⟩ = some (.int .i64 r.dest.kind) := by rw [hwx]; simp [go_sem]
    have x13 : wx.cell? ⟨wr.heap.size, 1, none⟩ = some (.int .i64 r.dest.n) := by rw [hwx]; simp [go_sem]
    have x14 : wx.cell? ⟨wr.heap.size, 2, none⟩ = some (.int .i64 r.a.kind) := by rw [hwx]; simp [go_sem]
    have x15 : wx.cell? ⟨wr.heap.size, 3, none⟩ = some (.int .i64 r.a.n) := by rw [hwx]; simp [go_sem]
    have x16 : wx.cell? ⟨wr.heap.size, 4, none⟩ = some (.int .i64 r.b.kind) := by rw [hwx]; simp [go_sem]
    have x17 : wx.cell? ⟨wr.heap.size, 5, none⟩ = some (.int .i64 r.b.n) := by rw [hwx]; simp [go_sem]
    have x18 : wx.cell? ⟨wr.heap.size, 6, none⟩ = some (.slice abo r.before.length abc) := by rw [hwx]; simp [go_sem]
    have x19 : wx.cell? ⟨wr.heap.size, 7, none⟩ = some (.slice aao r.after.length aac) := by rw [hwx]; simp [go_sem]
    rw [← hwx]
    obtain ⟨qb, hqb⟩ : ∃ qb, qb = wr.heap.size := ⟨_, rfl⟩
    rw [← hqb] at x12 x13 x14 x15 x16 x17 x18 x19
    rw [← hqb]
    have HOX : Hid (OM w b0 o0 c0 b1 o1 c1 s slots b2 o2 c2 R.length B C rb wx) := hox
    clear f0 f1 f2 f3 f4 f5 f6 f7 lb2 hox hwx hqb hi
    cases hr9 : rowO B s (s / 2) slots i r
    · skip
      refine wp_region_held_drew (S := (fun w' => Below wx.heap.size wx w' ∧ w'.cell? ⟨rb, 0, none⟩ = some (.int .i64 0) ∧ w'.cell? ⟨rb, 1, none⟩ = some (.int .i64 s) ∧ w'.cell? ⟨rb, 2, none⟩ = some (.int .i64 (s / 2)) ∧ w'.cell? ⟨rb, 3, none⟩ = some (.int .i64 slots) ∧ w'.cell? ⟨w.heap.size, 0, none⟩ = some (.slice (some ⟨b0, o0, none⟩) B.length c0) ∧ w'.cell? ⟨w.heap.size, 1, none⟩ = some (.slice (some ⟨b1, o1, none⟩) C.length c1) ∧ w'.cell? ⟨b1, o1 + k * 6, none⟩ = some (.int .i64 i.op) ∧ w'.cell? ⟨b1, o1 + k * 6 + 1, none⟩ = some (.int .i64 i.dest) ∧ w'.cell? ⟨b1, o1 + k * 6 + 2, none⟩ = some (.int .i64 i.a) ∧ w'.cell? ⟨b1, o1 + k * 6 + 3, none⟩ = some (.int .i64 i.b) ∧ w'.cell? ⟨b1, o1 + k * 6 + 4, none⟩ = some (.int .i64 i.c) ∧ w'.cell? ⟨b1, o1 + k * 6 + 5, none⟩ = some (.int .u32 i.n) ∧ w'.cell? ⟨qb, 0, none⟩ = some (.int .i64 r.dest.kind) ∧ w'.cell? ⟨qb, 1, none⟩ = some (.int .i64 r.dest.n) ∧ w'.cell? ⟨qb, 2, none⟩ = some (.int .i64 r.a.kind) ∧ w'.cell? ⟨qb, 3, none⟩ = some (.int .i64 r.a.n) ∧ w'.cell? ⟨qb, 4, none⟩ = some (.int .i64 r.b.kind) ∧ w'.cell? ⟨qb, 5, none⟩ = some (.int .i64 r.b.n) ∧ w'.cell? ⟨qb, 6, none⟩ = some (.slice abo r.before.length abc) ∧ w'.cell? ⟨qb, 7, none⟩ = some (.slice aao r.after.length aac))) (by rfl) ?_ (fun hHeld => ?_)
      · (exact ⟨(Below.refl _ _).drew, step_cell (Below.refl _ _).drew x0, step_cell (Below.refl _ _).drew x1, step_cell (Below.refl _ _).drew x2, step_cell (Below.refl _ _).drew x3, step_cell (Below.refl _ _).drew x4, step_cell (Below.refl _ _).drew x5, step_cell (Below.refl _ _).drew x6, step_cell (Below.refl _ _).drew x7, step_cell (Below.refl _ _).drew x8, step_cell (Below.refl _ _).drew x9, step_cell (Below.refl _ _).drew x10, step_cell (Below.refl _ _).drew x11, step_cell (Below.refl _ _).drew x12, step_cell (Below.refl _ _).drew x13, step_cell (Below.refl _ _).drew x14, step_cell (Below.refl _ _).drew x15, step_cell (Below.refl _ _).drew x16, step_cell (Below.refl _ _).drew x17, step_cell (Below.refl _ _).drew x18, step_cell (Below.refl _ _).drew x19⟩)
      refine wpAnyH_take (i := 0) (v := ?_) rfl (by kernel_rfl) (by kernel_rfl) (by kernel_rfl) (fun _ _ _ h => h) (Or.inl ⟨by rfl, ?_⟩) (by assumption) ?_
      case refine_2 => (intro w hSw; (try dsimp only at hSw); go_simp; first | done | (with_reducible rfl))
      show wpAnyH _ _ _ _ _ _ _ (Act.put _ (some 45) _) _
      simp only [Act.put, List.setIfInBounds_toArray, List.set_cons_zero, List.set_cons_succ]
      refine wpAnyH_take (i := 1) (v := ?_) rfl (by kernel_rfl) (by kernel_rfl) (by kernel_rfl) (fun _ _ _ h => h) (Or.inl ⟨by rfl, ?_⟩) (by assumption) ?_
      case refine_2 => (intro w hSw; (try dsimp only at hSw); go_simp; first | done | (with_reducible rfl))
      show wpAnyH _ _ _ _ _ _ _ (Act.put _ (some 46) _) _
      simp only [Act.put, List.setIfInBounds_toArray, List.set_cons_zero, List.set_cons_succ]
      refine wpAnyH_take (i := 2) (v := ?_) rfl (by kernel_rfl) (by kernel_rfl) (by kernel_rfl) (fun _ _ _ h => h) (Or.inl ⟨by rfl, ?_⟩) (by assumption) ?_
      case refine_2 => (intro w hSw; (try dsimp only at hSw); go_simp; first | done | (with_reducible rfl))
      show wpAnyH _ _ _ _ _ _ _ (Act.put _ (some 47) _) _
      simp only [Act.put, List.setIfInBounds_toArray, List.set_cons_zero, List.set_cons_succ]
      refine wpAnyH_take (i := 3) (v := ?_) rfl (by kernel_rfl) (by kernel_rfl) (by kernel_rfl) (fun _ _ _ h => h) (Or.inl ⟨by rfl, ?_⟩) (by assumption) ?_
      case refine_2 => (intro w hSw; (try dsimp only at hSw); go_simp; first | done | (with_reducible rfl))
      show wpAnyH _ _ _ _ _ _ _ (Act.put _ (some 48) _) _
      simp only [Act.put, List.setIfInBounds_toArray, List.set_cons_zero, List.set_cons_succ]
      refine wpAnyH_take (i := 4) (v := ?_) rfl (by kernel_rfl) (by kernel_rfl) (by kernel_rfl) (fun _ _ _ h => h) (Or.inl ⟨by rfl, ?_⟩) (by assumption) ?_
      case refine_2 => (intro w hSw; (try dsimp only at hSw); go_simp; first | done | (with_reducible rfl))
      show wpAnyH _ _ _ _ _ _ _ (Act.put _ (some 49) _) _
      simp only [Act.put, List.setIfInBounds_toArray, List.set_cons_zero, List.set_cons_succ]
      refine wpAnyH_take (i := 5) (v := ?_) rfl (by kernel_rfl) (by kernel_rfl) (by kernel_rfl) (fun _ _ _ h => h) (Or.inl ⟨by rfl, ?_⟩) (by assumption) ?_
      case refine_2 => (intro w hSw; (try dsimp only at hSw); go_simp; first | done | (with_reducible rfl))
      show wpAnyH _ _ _ _ _ _ _ (Act.put _ (some 50) _) _
      simp only [Act.put, List.setIfInBounds_toArray, List.set_cons_zero, List.set_cons_succ]
      refine wpAnyH_take (i := 6) (v := ?_) rfl (by kernel_rfl) (by kernel_rfl) (by kernel_rfl) (fun _ _ _ h => h) (Or.inl ⟨by rfl, ?_⟩) (by assumption) ?_
      case refine_2 => (intro w hSw; (try dsimp only at hSw); go_simp; first | done | (with_reducible rfl))
      show wpAnyH _ _ _ _ _ _ _ (Act.put _ (some 51) _) _
      simp only [Act.put, List.setIfInBounds_toArray, List.set_cons_zero, List.set_cons_succ]
      refine wpAnyH_take (i := 7) (v := ?_) rfl (by kernel_rfl) (by kernel_rfl) (by kernel_rfl) (fun _ _ _ h => h) (Or.inl ⟨by rfl, ?_⟩) (by assumption) ?_
      case refine_2 => (intro w hSw; (try dsimp only at hSw); go_simp; first | done | (with_reducible rfl))
      show wpAnyH _ _ _ _ _ _ _ (Act.put _ (some 52) _) _
      simp only [Act.put, List.setIfInBounds_toArray, List.set_cons_zero, List.set_cons_succ]
      refine wpAnyH_ready (rs := [8]) (by kernel_rfl) (by simp) ?_
      refine (AllReadyH.cons rfl (fun K hK => ?_) AllReadyH.nil)
      go_simp
      go_at_call 24
      refine (rowMay b0 o0 c0 b1 o1 c1 B C s (s / 2) slots i r abo abc aao aac _ s2 (HHX.out.later hHeld.1) HKN.out HIF.out (HMB.out.later hHeld.1) (HMA.out.later hHeld.1)).mono ?_
      rw [hr9]
      rintro e w9 ⟨rfl, hbr⟩
      go_wp2_with fail
      refine hK.out _ _ ?_ (fun hHeld => ?_)
      · (exact ⟨step_below hbr hHeld.1, step_cell hbr hHeld.2.1, step_cell hbr hHeld.2.2.1, step_cell hbr hHeld.2.2.2.1, step_cell hbr hHeld.2.2.2.2.1, step_cell hbr hHeld.2.2.2.2.2.1, step_cell hbr hHeld.2.2.2.2.2.2.1, step_cell hbr hHeld.2.2.2.2.2.2.2.1, step_cell hbr hHeld.2.2.2.2.2.2.2.2.1, step_cell hbr hHeld.2.2.2.2.2.2.2.2.2.1, step_cell hbr hHeld.2.2.2.2.2.2.2.2.2.2.1, step_cell hbr hHeld.2.2.2.2.2.2.2.2.2.2.2.1, step_cell hbr hHeld.2.2.2.2.2.2.2.2.2.2.2.2.1, step_cell hbr hHeld.2.2.2.2.2.2.2.2.2.2.2.2.2.1, step_cell hbr hHeld.2.2.2.2.2.2.2.2.2.2.2.2.2.2.1, step_cell hbr hHeld.2.2.2.2.2.2.2.2.2.2.2.2.2.2.2.1, step_cell hbr hHeld.2.2.2.2.2.2.2.2.2.2.2.2.2.2.2.2.1, step_cell hbr hHeld.2.2.2.2.2.2.2.2.2.2.2.2.2.2.2.2.2.1, step_cell hbr hHeld.2.2.2.2.2.2.2.2.2.2.2.2.2.2.2.2.2.2.1, step_cell hbr hHeld.2.2.2.2.2.2.2.2.2.2.2.2.2.2.2.2.2.2.2.1, step_cell hbr hHeld.2.2.2.2.2.2.2.2.2.2.2.2.2.2.2.2.2.2.2.2⟩)
      clear hK K
      try simp only [Act.put, List.setIfInBounds_toArray, List.set_cons_zero, List.set_cons_succ]
      refine wpAnyH_take (i := 9) (v := ?_) rfl (by kernel_rfl) (by kernel_rfl) (by kernel_rfl) (fun _ _ _ h => h) (Or.inl ⟨by rfl, ?_⟩) (by assumption) ?_
      case refine_2 => (intro w hSw; (try dsimp only at hSw); go_simp; first | done | (with_reducible rfl))
      show wpAnyH _ _ _ _ _ _ _ (Act.put _ (some 54) _) _
      simp only [Act.put, List.setIfInBounds_toArray, List.set_cons_zero, List.set_cons_succ]
      refine wpAnyH_done (by kernel_rfl) ?_ _
      have HB9 : Hid (Below wx.heap.size wx w9) := hHeld.1
      clear hHeld hbr
      go_wp2
      go_ret
      refine ⟨ret_bool (all_no hlt ?_), step_below HB9.out HOX.out.os.bel⟩
      rw [← HI.out, ← HR.out, ← row_same HTG.out]; exact hr9
    · skip
      refine wp_region_held_drew (S := (fun w' => Below wx.heap.size wx w' ∧ w'.cell? ⟨rb, 0, none⟩ = some (.int .i64 0) ∧ w'.cell? ⟨rb, 1, none⟩ = some (.int .i64 s) ∧ w'.cell? ⟨rb, 2, none⟩ = some (.int .i64 (s / 2)) ∧ w'.cell? ⟨rb, 3, none⟩ = some (.int .i64 slots) ∧ w'.cell? ⟨w.heap.size, 0, none⟩ = some (.slice (some ⟨b0, o0, none⟩) B.length c0) ∧ w'.cell? ⟨w.heap.size, 1, none⟩ = some (.slice (some ⟨b1, o1, none⟩) C.length c1) ∧ w'.cell? ⟨b1, o1 + k * 6, none⟩ = some (.int .i64 i.op) ∧ w'.cell? ⟨b1, o1 + k * 6 + 1, none⟩ = some (.int .i64 i.dest) ∧ w'.cell? ⟨b1, o1 + k * 6 + 2, none⟩ = some (.int .i64 i.a) ∧ w'.cell? ⟨b1, o1 + k * 6 + 3, none⟩ = some (.int .i64 i.b) ∧ w'.cell? ⟨b1, o1 + k * 6 + 4, none⟩ = some (.int .i64 i.c) ∧ w'.cell? ⟨b1, o1 + k * 6 + 5, none⟩ = some (.int .u32 i.n) ∧ w'.cell? ⟨qb, 0, none⟩ = some (.int .i64 r.dest.kind) ∧ w'.cell? ⟨qb, 1, none⟩ = some (.int .i64 r.dest.n) ∧ w'.cell? ⟨qb, 2, none⟩ = some (.int .i64 r.a.kind) ∧ w'.cell? ⟨qb, 3, none⟩ = some (.int .i64 r.a.n) ∧ w'.cell? ⟨qb, 4, none⟩ = some (.int .i64 r.b.kind) ∧ w'.cell? ⟨qb, 5, none⟩ = some (.int .i64 r.b.n) ∧ w'.cell? ⟨qb, 6, none⟩ = some (.slice abo r.before.length abc) ∧ w'.cell? ⟨qb, 7, none⟩ = some (.slice aao r.after.length aac))) (by rfl) ?_ (fun hHeld => ?_)
      · (exact ⟨(Below.refl _ _).drew, step_cell (Below.refl _ _).drew x0, step_cell (Below.refl _ _).drew x1, step_cell (Below.refl _ _).drew x2, step_cell (Below.refl _ _).drew x3, step_cell (Below.refl _ _).drew x4, step_cell (Below.refl _ _).drew x5, step_cell (Below.refl _ _).drew x6, step_cell (Below.refl _ _).drew x7, step_cell (Below.refl _ _).drew x8, step_cell (Below.refl _ _).drew x9, step_cell (Below.refl _ _).drew x10, step_cell (Below.refl _ _).drew x11, step_cell (Below.refl _ _).drew x12, step_cell (Below.refl _ _).drew x13, step_cell (Below.refl _ _).drew x14, step_cell (Below.refl _ _).drew x15, step_cell (Below.refl _ _).drew x16, step_cell (Below.refl _ _).drew x17, step_cell (Below.refl _ _).drew x18, step_cell (Below.refl _ _).drew x19⟩)
      refine wpAnyH_take (i := 0) (v := ?_) rfl (by kernel_rfl) (by kernel_rfl) (by kernel_rfl) (fun _ _ _ h => h) (Or.inl ⟨by rfl, ?_⟩) (by assumption) ?_
      case refine_2 => (intro w hSw; (try dsimp only at hSw); go_simp; first | done | (with_reducible rfl))
      show wpAnyH _ _ _ _ _ _ _ (Act.put _ (some 45) _) _
      simp only [Act.put, List.setIfInBounds_toArray, List.set_cons_zero, List.set_cons_succ]
      refine wpAnyH_take (i := 1) (v := ?_) rfl (by kernel_rfl) (by kernel_rfl) (by kernel_rfl) (fun _ _ _ h => h) (Or.inl ⟨by rfl, ?_⟩) (by assumption) ?_
      case refine_2 => (intro w hSw; (try dsimp only at hSw); go_simp; first | done | (with_reducible rfl))
      show wpAnyH _ _ _ _ _ _ _ (Act.put _ (some 46) _) _
      simp only [Act.put, List.setIfInBounds_toArray, List.set_cons_zero, List.set_cons_succ]
      refine wpAnyH_take (i := 2) (v := ?_) rfl (by kernel_rfl) (by kernel_rfl) (by kernel_rfl) (fun _ _ _ h => h) (Or.inl ⟨by rfl, ?_⟩) (by assumption) ?_
      case refine_2 => (intro w hSw; (try dsimp only at hSw); go_simp; first | done | (with_reducible rfl))
      show wpAnyH _ _ _ _ _ _ _ (Act.put _ (some 47) _) _
      simp only [Act.put, List.setIfInBounds_toArray, List.set_cons_zero, List.set_cons_succ]
      refine wpAnyH_take (i := 3) (v := ?_) rfl (by kernel_rfl) (by kernel_rfl) (by kernel_rfl) (fun _ _ _ h => h) (Or.inl ⟨by rfl, ?_⟩) (by assumption) ?_
      case refine_2 => (intro w hSw; (try dsimp only at hSw); go_simp; first | done | (with_reducible rfl))
      show wpAnyH _ _ _ _ _ _ _ (Act.put _ (some 48) _) _
      simp only [Act.put, List.setIfInBounds_toArray, List.set_cons_zero, List.set_cons_succ]
      refine wpAnyH_take (i := 4) (v := ?_) rfl (by kernel_rfl) (by kernel_rfl) (by kernel_rfl) (fun _ _ _ h => h) (Or.inl ⟨by rfl, ?_⟩) (by assumption) ?_
      case refine_2 => (intro w hSw; (try dsimp only at hSw); go_simp; first | done | (with_reducible rfl))
      show wpAnyH _ _ _ _ _ _ _ (Act.put _ (some 49) _) _
      simp only [Act.put, List.setIfInBounds_toArray, List.set_cons_zero, List.set_cons_succ]
      refine wpAnyH_take (i := 5) (v := ?_) rfl (by kernel_rfl) (by kernel_rfl) (by kernel_rfl) (fun _ _ _ h => h) (Or.inl ⟨by rfl, ?_⟩) (by assumption) ?_
      case refine_2 => (intro w hSw; (try dsimp only at hSw); go_simp; first | done | (with_reducible rfl))
      show wpAnyH _ _ _ _ _ _ _ (Act.put _ (some 50) _) _
      simp only [Act.put, List.setIfInBounds_toArray, List.set_cons_zero, List.set_cons_succ]
      refine wpAnyH_take (i := 6) (v := ?_) rfl (by kernel_rfl) (by kernel_rfl) (by kernel_rfl) (fun _ _ _ h => h) (Or.inl ⟨by rfl, ?_⟩) (by assumption) ?_
      case refine_2 => (intro w hSw; (try dsimp only at hSw); go_simp; first | done | (with_reducible rfl))
      show wpAnyH _ _ _ _ _ _ _ (Act.put _ (some 51) _) _
      simp only [Act.put, List.setIfInBounds_toArray, List.set_cons_zero, List.set_cons_succ]
      refine wpAnyH_take (i := 7) (v := ?_) rfl (by kernel_rfl) (by kernel_rfl) (by kernel_rfl) (fun _ _ _ h => h) (Or.inl ⟨by rfl, ?_⟩) (by assumption) ?_
      case refine_2 => (intro w hSw; (try dsimp only at hSw); go_simp; first | done | (with_reducible rfl))
      show wpAnyH _ _ _ _ _ _ _ (Act.put _ (some 52) _) _
      simp only [Act.put, List.setIfInBounds_toArray, List.set_cons_zero, List.set_cons_succ]
      refine wpAnyH_ready (rs := [8]) (by kernel_rfl) (by simp) ?_
      refine (AllReadyH.cons rfl (fun K hK => ?_) AllReadyH.nil)
      go_simp
      go_at_call 24
      refine (rowMay b0 o0 c0 b1 o1 c1 B C s (s / 2) slots i r abo abc aao aac _ s2 (HHX.out.later hHeld.1) HKN.out HIF.out (HMB.out.later hHeld.1) (HMA.out.later hHeld.1)).mono ?_
      rw [hr9]
      rintro e w9 ⟨rfl, hbr⟩
      go_wp2_with fail
      refine hK.out _ _ ?_ (fun hHeld => ?_)
      · (exact ⟨step_below hbr hHeld.1, step_cell hbr hHeld.2.1, step_cell hbr hHeld.2.2.1, step_cell hbr hHeld.2.2.2.1, step_cell hbr hHeld.2.2.2.2.1, step_cell hbr hHeld.2.2.2.2.2.1, step_cell hbr hHeld.2.2.2.2.2.2.1, step_cell hbr hHeld.2.2.2.2.2.2.2.1, step_cell hbr hHeld.2.2.2.2.2.2.2.2.1, step_cell hbr hHeld.2.2.2.2.2.2.2.2.2.1, step_cell hbr hHeld.2.2.2.2.2.2.2.2.2.2.1, step_cell hbr hHeld.2.2.2.2.2.2.2.2.2.2.2.1, step_cell hbr hHeld.2.2.2.2.2.2.2.2.2.2.2.2.1, step_cell hbr hHeld.2.2.2.2.2.2.2.2.2.2.2.2.2.1, step_cell hbr hHeld.2.2.2.2.2.2.2.2.2.2.2.2.2.2.1, step_cell hbr hHeld.2.2.2.2.2.2.2.2.2.2.2.2.2.2.2.1, step_cell hbr hHeld.2.2.2.2.2.2.2.2.2.2.2.2.2.2.2.2.1, step_cell hbr hHeld.2.2.2.2.2.2.2.2.2.2.2.2.2.2.2.2.2.1, step_cell hbr hHeld.2.2.2.2.2.2.2.2.2.2.2.2.2.2.2.2.2.2.1, step_cell hbr hHeld.2.2.2.2.2.2.2.2.2.2.2.2.2.2.2.2.2.2.2.1, step_cell hbr hHeld.2.2.2.2.2.2.2.2.2.2.2.2.2.2.2.2.2.2.2.2⟩)
      clear hK K
      try simp only [Act.put, List.setIfInBounds_toArray, List.set_cons_zero, List.set_cons_succ]
      refine wpAnyH_take (i := 9) (v := ?_) rfl (by kernel_rfl) (by kernel_rfl) (by kernel_rfl) (fun _ _ _ h => h) (Or.inl ⟨by rfl, ?_⟩) (by assumption) ?_
      case refine_2 => (intro w hSw; (try dsimp only at hSw); go_simp; first | done | (with_reducible rfl))
      show wpAnyH _ _ _ _ _ _ _ (Act.put _ (some 54) _) _
      simp only [Act.put, List.setIfInBounds_toArray, List.set_cons_zero, List.set_cons_succ]
      refine wpAnyH_done (by kernel_rfl) ?_ _
      have HB9 : Hid (Below wx.heap.size wx w9) := hHeld.1
      clear hHeld hbr
      go_wp2
      refine ⟨⟨k + 1, by omega, by go_num, HOX.out.below HB9.out, fun x hx => ?_⟩, by simp [intOf]; omega⟩
      by_cases hxk : x < k
      · exact F.out x hxk
      · obtain rfl : x = k := by omega
        rw [← HI.out, ← HR.out, ← row_same HTG.out]; exact hr9

theorem mayO (pv lv : Value) (B : List Bool) (C : List LIns) (s slots : Int) (R : List LRow) (w : World) (hp : ProgIs w pv B C) (hl : PlacedIs w lv slots R) :
    Calls Tryz.prog 8 #[pv, targetV s, lv] w fun e w' => e = .returned (.bool (placeMayB B C s slots R)) ∧ Below w.heap.size w w' := by
  cases hc : (refMayB B C && targetB s && !decide (slots < 0) && !decide (12 < slots) && decide (R.length = C.length))
  · rw [show placeMayB B C s slots R = false by unfold placeMayB; rw [hc]; rfl]
    exact mayO_no pv lv B C s slots R w hp hl hc
  · rw [show placeMayB B C s slots R = (List.range C.length).all (fun k => rowB B s slots (C.getD k .zero) (R.getD k .zero)) by unfold placeMayB; rw [hc]; rfl]
    simp only [Bool.and_eq_true, Bool.not_eq_true', decide_eq_true_eq, decide_eq_false_iff_not] at hc
    obtain ⟨⟨⟨⟨hm, ht⟩, hs0⟩, hs1⟩, hlen⟩ := hc
    have hsz : sizesB B C = true := by unfold refMayB at hm; simp only [Bool.and_eq_true] at hm; exact hm.1
    obtain ⟨s1, s2, s3, s4⟩ := sizes_of hsz
    obtain ⟨⟨a0, c0, a1, c1, rfl, hh⟩, l0, l1, hn⟩ := hp
    obtain ⟨b0, o0, b1, o1, rfl, rfl, hH⟩ := hh s1 s3
    obtain ⟨ao, cap, rfl, lR, hr⟩ := hl
    obtain ⟨b2, o2, rfl, hR⟩ := hr (by omega)
    exact mayO_yes b0 o0 c0 b1 o1 c1 b2 o2 cap B C s slots R w hH hR hn hm ht hs0 hs1 hlen

end Go.Proofs.YtcmnmogmdhofcaaGreat.form

/- All places of a target (place.All). -/
namespace Go.Proofs.YtcmnmogmdhofcaaGreat.form
open Go.RowKit Go.Maps
set_option linter.unusedVariables false
set_option maxRecDepth 100000
attribute [local go_sem ↓] Go.wp_at_zero Go.wp_at_succ

def cntP (s slots k : Nat) : Nat := if k = 0 then 0 else if k = 1 then s else if k = 2 then s / 2 else slots
def kindP (k n : Nat) : List LPlace := (List.range n).map (fun i : Nat => (⟨(k : Int), (i : Int)⟩ : LPlace))
def preP (s slots k : Nat) : List LPlace := (List.range k).flatMap (fun i => kindP i (cntP s slots i))
def plCs (p : LPlace) : List Value := [.int .i64 p.kind, .int .i64 p.n]
theorem kindP_len (k n : Nat) : (kindP k n).length = n := by simp [kindP]
theorem kindP_step (k n : Nat) : kindP k (n + 1) = kindP k n ++ [⟨(k : Int), (n : Int)⟩] := by simp [kindP, List.range_succ]
theorem preP_step (s slots k : Nat) : preP s slots (k + 1) = preP s slots k ++ kindP k (cntP s slots k) := by simp [preP, List.range_succ]
theorem preP_len {s slots : Nat} (hs : s ≤ 16) (hl : slots ≤ 12) : ∀ k, k ≤ 4 → (preP s slots k).length ≤ k * 16 := by
  intro k
  induction k with
  | zero => intro _; simp [preP]
  | succ k ih =>
    intro hk
    have := ih (by omega)
    rw [preP_step, List.length_append, kindP_len]
    have : cntP s slots k ≤ 16 := by unfold cntP; split <;> (try split) <;> (try split) <;> omega
    omega
theorem all_len {s slots : Nat} (hs : s ≤ 16) (hl : slots ≤ 12) : (preP s slots 4).length ≤ 36 := by
  simp [preP, List.range_succ, kindP_len, cntP]
  omega
theorem cnt0 (s slots : Nat) : cntP s slots 0 = 0 := rfl
theorem cnt1 (s slots : Nat) : cntP s slots 1 = s := rfl
theorem cnt2 (s slots : Nat) : cntP s slots 2 = s / 2 := rfl
theorem cnt3 (s slots : Nat) : cntP s slots 3 = slots := rfl
theorem all_mem {s slots : Nat} (hs16 : s ≤ 16) (hs2 : s % 2 = 0) {p : LPlace} : p ∈ preP s slots 4 ↔ isB s slots p = true := by
  have hk : ∀ k n, p ∈ kindP k n ↔ p.kind = k ∧ 0 ≤ p.n ∧ p.n < n := fun k n => by
    unfold kindP
    rw [List.mem_map]
    constructor
    · rintro ⟨i, hi, rfl⟩
      have := List.mem_range.1 hi
      exact ⟨rfl, by simp only; omega, by simp only; omega⟩
    · rintro ⟨h1, h2, h3⟩
      obtain ⟨pk, pn⟩ := p
      simp only at h1 h2 h3
      refine ⟨pn.toNat, List.mem_range.2 (by omega), ?_⟩
      have : (pn.toNat : Int) = pn := by omega
      rw [this, h1]
  simp only [preP, List.range_succ, List.range_zero, List.flatMap_append, List.flatMap_nil, List.flatMap_cons, List.nil_append, List.append_nil, List.mem_append, hk, cnt0, cnt1, cnt2, cnt3]
  unfold isB
  constructor
  · intro h
    split
    · simp; omega
    · split
      · simp; omega
      · simp; omega
  · intro h
    split at h
    · simp at h; omega
    · split at h
      · simp at h; omega
      · simp at h; omega
def plLt (a b : LPlace) : Prop := a.kind < b.kind ∨ (a.kind = b.kind ∧ a.n < b.n)
theorem kindP_up (k n : Nat) : (kindP k n).Pairwise plLt := by
  unfold kindP
  rw [List.pairwise_map]
  exact List.pairwise_lt_range.imp (fun h => Or.inr ⟨rfl, by simp only; omega⟩)
theorem preP_kind {s slots : Nat} : ∀ k p, p ∈ preP s slots k → p.kind < k := by
  intro k p h
  unfold preP at h
  rw [List.mem_flatMap] at h
  obtain ⟨i, hi, hp⟩ := h
  have := List.mem_range.1 hi
  unfold kindP at hp
  rw [List.mem_map] at hp
  obtain ⟨j, _, rfl⟩ := hp
  simp only
  omega
theorem preP_up (s slots : Nat) : ∀ k, (preP s slots k).Pairwise plLt := by
  intro k
  induction k with
  | zero => simp [preP]
  | succ k ih =>
    rw [preP_step, List.pairwise_append]
    refine ⟨ih, kindP_up _ _, fun a ha b hb => Or.inl ?_⟩
    have h1 := preP_kind k a ha
    unfold kindP at hb
    rw [List.mem_map] at hb
    obtain ⟨j, _, rfl⟩ := hb
    exact h1
theorem up_nodup {l : List LPlace} (h : l.Pairwise plLt) : l.Nodup := h.imp (fun h e => by
  subst e
  rcases h with h | h <;> omega)

structure PaS (w : World) (base : Nat) (l : List LPlace) (v : Value) (wr : World) : Prop where
  bel : Below w.heap.size w wr
  own : wr.ownsRow base 51 2 v l.length (l.flatMap plCs)
theorem PaS.below {w : World} {base : Nat} {l : List LPlace} {v : Value} {wr w' : World} (h : PaS w base l v wr) (hb : Below wr.heap.size wr w') : PaS w base l v w' :=
  ⟨step_below hb h.bel, World.ownsRow.kept h.own ⟨hb.os, hb.tape, hb.output, hb.size, fun j hj _ => hb.block j hj⟩ (row := none) (by cases v.ownBlock <;> simp)⟩
theorem PaS.push {w : World} {base : Nat} {l : List LPlace} {v : Value} {wr w' : World} (h : PaS w base l v wr) (hw : w.heap.size ≤ base) (hz : base ≤ wr.heap.size) {g cap : Nat} {p : LPlace} (hown : w'.ownsRow base 51 2 (.slice (some ⟨g, 0, none⟩) (l.length + 1) cap) (l.length + 1) (l.flatMap plCs ++ plCs p)) (hgrow : wr.grownBy w' v.ownBlock) : PaS w base (l ++ [p]) (.slice (some ⟨g, 0, none⟩) (l.length + 1) cap) w' :=
  ⟨h.bel.grown hgrow (by omega) (fun j hj => by have := (World.ownsRow.lt h.own _ hj).1; omega), by simpa using hown⟩
theorem PaS.form {w : World} {base : Nat} {l : List LPlace} {v : Value} {wr : World} (h : PaS w base l v wr) : ∃ ao cap, v = .slice ao l.length cap := by
  by_cases hn : 0 < l.length
  · obtain ⟨g, cap, rfl, _, _⟩ := h.own.form hn
    exact ⟨_, cap, rfl⟩
  · have hl : l = [] := List.length_eq_zero_iff.1 (by omega)
    subst hl
    rcases h.own.2 with ⟨rfl, _⟩ | ⟨g, cap, cur, rfl, _⟩
    · exact ⟨none, 0, rfl⟩
    · exact ⟨_, cap, rfl⟩
theorem cs_cell (p : LPlace) (w : World) (ty : TypeId) : ∀ (j : Nat) (u : Value), (plCs p)[j]? = some u → (w.alloc (.cells #[.int .i64 p.kind, .int .i64 p.n] ty)).cell? ((⟨w.heap.size, 0, none⟩ : Addr).add j) = some u := by
  intro j u h
  rcases j with _ | _ | j
  · simp [plCs] at h; subst h; simp [go_sem, Addr.add]
  · simp [plCs] at h; subst h; simp [go_sem, Addr.add]
  · simp [plCs] at h
theorem infPlace : (Tryz.prog.info? 51).map (fun i => (i.zero, i.size, i.bytes)) = some (some (.agg #[.int .i64 0, .int .i64 0]), 2, 16) := by kernel_rfl
theorem room_at (s slots k : Nat) (hk : k < 4) (w : World) : (Instr.index 72 (.agg #[.int .i64 0, .int .i64 (s : Int), .int .i64 ((s : Int) / 2), .int .i64 (slots : Int)]) (.int .i64 (k : Int))).run Tryz.prog w = .ok (.int .i64 (cntP s slots k : Nat)) w := by
  have hu := Tryz.underlying72
  rcases (show k = 0 ∨ k = 1 ∨ k = 2 ∨ k = 3 by omega) with rfl | rfl | rfl | rfl <;> simp [go_sem, Instr.index, cntP]

def PlacesAt (w : World) (lo : Nat) (v : Value) (l : List LPlace) : Prop := ∃ b cap, v = .slice (some ⟨b, 0, none⟩) l.length cap ∧ lo ≤ b ∧ b < w.heap.size ∧ ∀ j, j < l.length → w.cell? ⟨b, j * 2, none⟩ = some (.int .i64 (l.getD j .zero).kind) ∧ w.cell? ⟨b, j * 2 + 1, none⟩ = some (.int .i64 (l.getD j .zero).n)
theorem cs_at : ∀ (l : List LPlace) (j : Nat), j < l.length → (l.flatMap plCs)[j * 2]? = some (.int .i64 (l.getD j .zero).kind) ∧ (l.flatMap plCs)[j * 2 + 1]? = some (.int .i64 (l.getD j .zero).n)
  | [], j, h => by simp at h
  | p :: l, 0, h => by simp [plCs]
  | p :: l, j + 1, h => by
    have := cs_at l j (by simpa using h)
    rw [show (j + 1) * 2 = j * 2 + 2 by omega]
    simpa [plCs, List.flatMap_cons] using this
theorem PaS.places {w : World} {base : Nat} {l : List LPlace} {v : Value} {wr : World} (h : PaS w base l v wr) (hn : 0 < l.length) : PlacesAt wr base v l := by
  obtain ⟨g, cap, rfl, hbg, hlt⟩ := h.own.form hn
  refine ⟨g, cap, rfl, hbg, hlt, fun j hj => ?_⟩
  obtain ⟨h1, h2⟩ := cs_at l j hj
  rw [World.ownsRow.cellAt h.own (j * 2) (by omega), World.ownsRow.cellAt h.own (j * 2 + 1) (by omega)]
  exact ⟨h1, h2⟩

set_option maxHeartbeats 1600000 in
theorem allO (s slots : Nat) (hs4 : 4 ≤ s) (hs16 : s ≤ 16) (hs2 : s % 2 = 0) (hl : slots ≤ 12) (w : World) :
    Calls Tryz.prog 25 #[targetV s, .int .i64 slots] w fun e w' => (∃ v, e = .returned v ∧ PlacesAt w' w.heap.size v (preP s slots 4)) ∧ Below w.heap.size w w' := by
  have htb : targetB s = true := by
    unfold targetB
    simp
    omega
  have hb1 : Below w.heap.size w (w.alloc (.cells #[.int .i64 (s : Int)] 27)) := (Below.refl _ _).alloc (Nat.le_refl _) _
  have HB1 : Hid (Below w.heap.size w (w.alloc (.cells #[.int .i64 (s : Int)] 27))) := hb1
  have hsl : (!decide ((slots : Int) < 0) && !decide (12 < (slots : Int))) = true := by simp; omega
  have ct := fun w => targetMay s w
  have cs := fun w => slotsMay slots w
  have cr := fun w => roomOf s slots (by omega) (by omega) w
  rw [htb] at ct
  rw [hsl] at cs
  clear htb hsl hb1
  unfold targetV at ct cr ⊢
  unfold roomV at cr
  go_enter Tryz.func25, Tryz.ntmps25
  go_wp2_with (first
    | (go_at_call 21; (refine (ct _).mono ?_; rintro e w1 ⟨rfl, hbt⟩; have HBT : Hid (Below w.heap.size w w1) := step_below hbt HB1.out; have t0 : w1.cell? ⟨w.heap.size, 0, none⟩ = some (.int .i64 (s : Int)) := step_cell hbt (by simp [go_sem]); have hlt0 := World.block_lt_of_cell? _ _ t0; clear hbt))
    | (go_at_call 22; refine (cs _).mono ?_; rintro e w2 ⟨rfl, hw2⟩; obtain rfl := hw2.symm)
    | (go_at_call 23; refine (cr _).mono ?_; rintro e w3 ⟨rfl, hb3⟩; have HB3 : Hid (Below w.heap.size w w3) := step_below hb3 HBT.out; clear hb3))
  have HP0 : Hid (PaS w w.heap.size [] (.slice none 0 0) w3) := ⟨HB3.out, World.ownsRow_nil _ _ _ _⟩
  clear ct cs cr
  go_loopg [5, 6, 7, 8, 20] 5 (fun gg v5 v6 v7 v8 v wr => ∃ (k : Nat), v = .int .i64 k ∧ k ≤ 4 ∧ gg = 5 - k ∧ PaS w w.heap.size (preP s slots k) v5 wr)
  case atStart => exact ⟨0, rfl, by omega, by omega, HP0.out⟩
  case round =>
    clear HP0
    obtain ⟨k, rfl, hk, hgk, hps⟩ := hrel
    have HGK : Hid (gk = 5 - k) := hgk
    have HPS : Hid (PaS w w.heap.size (preP s slots k) u5 wr) := hps
    clear hgk hps
    have hlen := preP_len (s := s) (slots := slots) hs16 hl k hk
    by_cases hkl : k < 4
    case neg =>
      obtain rfl : k = 4 := by omega
      have hkz : ¬ ((4 : Nat) : Int) < 4 := by omega
      have hn : 0 < (preP s slots 4).length := by simp [preP, List.range_succ, kindP_len, cnt1]; omega
      have hpl := HPS.out.places hn
      have HBE : Hid (Below w.heap.size w wr) := HPS.out.bel
      have HPL : Hid (PlacesAt wr w.heap.size u5 (preP s slots 4)) := hpl
      clear hpl
      go_wp2
      go_ret
      exact ⟨⟨u5, rfl, HPL.out⟩, HBE.out⟩
    have hkz : (k : Int) < 4 := by omega
    have hix := fun w => room_at s slots k hkl w
    have hcnt : cntP s slots k ≤ 16 := by unfold cntP; split <;> (try split) <;> (try split) <;> omega
    obtain ⟨n, hn⟩ : ∃ n, n = cntP s slots k := ⟨_, rfl⟩
    rw [← hn] at hix hcnt
    have HN : Hid (n = cntP s slots k) := hn
    clear hn
    have hnz : (n : Int) ≤ 16 := by omega
    obtain ⟨gO, hgO⟩ : ∃ gO, gO = gk := ⟨_, rfl⟩
    subst hgO
    obtain ⟨wo, hwo⟩ : ∃ wo, wo = wr := ⟨_, rfl⟩
    subst hwo
    go_wp2
    go_loopg [5, 8, 25] (n + 1) (fun gg v5 v8 v wr => ∃ (j : Nat), v = .int .i64 j ∧ j ≤ n ∧ gg = n + 1 - j ∧ PaS w w.heap.size (preP s slots k ++ kindP k j) v5 wr)
    case atStart => exact ⟨0, rfl, by omega, by omega, by have h := HPS.out; simpa [kindP] using h⟩
    case round =>
      clear HPS
      obtain ⟨j, rfl, hj, hgk, hps⟩ := hrel
      have HGJ : Hid (gk = n + 1 - j) := hgk
      have HPS : Hid (PaS w w.heap.size (preP s slots k ++ kindP k j) u5 wr) := hps
      clear hgk hps
      by_cases hjl : j < n
      case neg =>
        obtain rfl : j = n := by omega
        have hjz : ¬ (j : Int) < (j : Int) := by omega
        go_wp2
        have hgk := HGK.out
        go_roundg (gO - 1)
        case measure => omega
        case rel =>
          refine ⟨k + 1, by go_num, by omega, by omega, ?_⟩
          rw [preP_step, ← HN.out]
          exact HPS.out
      have hjz : (j : Int) < (n : Int) := by omega
      obtain ⟨t0', hi0, hy0, hy1, hy2⟩ := info_parts infPlace
      obtain ⟨l, hl0⟩ : ∃ l, l = preP s slots k ++ kindP k j := ⟨_, rfl⟩
      have hll : l.length ≤ 80 := by rw [hl0, List.length_append, kindP_len]; omega
      have HL0 : Hid (l = preP s slots k ++ kindP k j) := hl0
      rw [← hl0] at HPS
      clear hl0
      obtain ⟨rao, rcap, hform⟩ := HPS.out.form
      subst hform
      have hwz := HPS.out.bel.size
      go_wp2_with (at_builtin; refine wpList_append_lies _ rfl _ _ 55 rfl w.heap.size 51 t0' (.agg #[.int .i64 0, .int .i64 0]) 2 16 Tryz.underlying55 hi0 hy0 hy1 hy2 rfl (by decide) (.slice rao l.length rcap) l.length (l.flatMap plCs) rfl (World.ownsRow.alloc HPS.out.own _) ⟨wr.heap.size, 0, none⟩ 1 1 (plCs ⟨(k : Int), (j : Int)⟩) rfl rfl ?c1 ?c2 (by decide) ?c3 ?c4 ?c5 _ rfl ?_)
      case c1 => exact cs_cell ⟨(k : Int), (j : Int)⟩ wr _
      case c2 => simp [Value.oneCell', plCs]
      case c3 => unfold maxLen; omega
      case c4 => omega
      case c5 => first | omega | (simp; omega)
      intro g9 cap9 w9 hown hgrow hat hlt9
      have hP := (HPS.out.below ((Below.refl _ _).alloc (Nat.le_refl _) (.cells #[.int .i64 (k : Int), .int .i64 (j : Int)] 51))).push (Nat.le_refl _) (by simp; omega) hown hgrow
      have HP : Hid (PaS w w.heap.size (l ++ [⟨(k : Int), (j : Int)⟩]) (.slice (some ⟨g9, 0, none⟩) (l.length + 1) cap9) w9) := hP
      clear hP hown hgrow hat
      go_wp2
      have hgk := HGJ.out
      go_roundg (gk - 1)
      case measure => omega
      case rel =>
        refine ⟨j + 1, by go_num, by omega, by omega, ?_⟩
        rw [kindP_step, ← List.append_assoc, ← HL0.out]
        exact HP.out
end Go.Proofs.YtcmnmogmdhofcaaGreat.form

/- What is told of facts as bits: the row of them, rising: on plain numbers. -/
namespace Go.Proofs.YtcmnmogmdhofcaaGreat.form
open Go.RowKit
set_option linter.unusedVariables false

def numIn (N : List Int) (x : Bits) (k : Nat) : List Int := ((List.range k).filter (fun j => x.getLsbD j)).map (nAt N)
theorem numIn_step (N : List Int) (x : Bits) (k : Nat) : numIn N x (k + 1) = numIn N x k ++ (if x.getLsbD k = true then [nAt N k] else []) := by
  unfold numIn
  rw [List.range_succ, List.filter_append, List.map_append]
  congr 1
  cases h : x.getLsbD k <;> simp [List.filter, h]
theorem numIn_len (N : List Int) (x : Bits) (k : Nat) : (numIn N x k).length ≤ k := by
  unfold numIn
  have := List.length_filter_le (fun j => x.getLsbD j) (List.range k)
  simp at this ⊢
  exact this
theorem numIn_mem {N : List Int} {x : Bits} {k : Nat} {n : Int} : n ∈ numIn N x k ↔ ∃ j, j < k ∧ nAt N j = n ∧ x.getLsbD j = true := by
  unfold numIn
  rw [List.mem_map]
  constructor
  · rintro ⟨j, hj, rfl⟩
    rw [List.mem_filter, List.mem_range] at hj
    exact ⟨j, hj.1, rfl, hj.2⟩
  · rintro ⟨j, h1, h2, h3⟩
    exact ⟨j, by rw [List.mem_filter, List.mem_range]; exact ⟨h1, h3⟩, h2⟩
theorem nAt_inc {N : List Int} (h : N.Pairwise (· < ·)) {i j : Nat} (hij : i < j) (hj : j < N.length) : nAt N i < nAt N j := by
  have := (List.pairwise_iff_getElem.1 h) i j (by omega) hj hij
  unfold nAt
  simpa [List.getD, hj, show i < N.length by omega] using this
theorem numIn_up {N : List Int} (h : N.Pairwise (· < ·)) (x : Bits) : (numIn N x N.length).Pairwise (· < ·) := by
  unfold numIn
  rw [List.pairwise_map]
  have hr : (List.range N.length).Pairwise (fun a b => a < b ∧ b < N.length) := by
    rw [List.pairwise_iff_getElem]
    intro i j hi hj hij
    simp only [List.length_range] at hi hj
    simp only [List.getElem_range]
    exact ⟨hij, hj⟩
  exact (hr.filter _).imp (fun {a b} hab => nAt_inc h hab.1 hab.2)

def tFact (t : Nat) (n : Int) : LFact := ⟨.zero, true, (t : Int), n⟩
def iFact (p : LPlace) (n : Int) : LFact := ⟨p, false, 0, n⟩
def hFact (p : LPlace) (t : Nat) : LFact := ⟨p, true, (t : Int), 0⟩
def tellT1 (N : List Int) (m : FM) (t : Nat) : List LFact := (numIn N (m.tmp t) N.length).map (tFact t)
def tellT (N : List Int) (m : FM) (k : Nat) : List LFact := (List.range k).flatMap (tellT1 N m)
def tellI (N : List Int) (m : FM) (p : LPlace) : List LFact := (numIn N (m.is p) N.length).map (iFact p)
def tellH (m : FM) (p : LPlace) (k : Nat) : List LFact := ((List.range k).filter (fun t => (m.has p).getLsbD t)).map (hFact p)
def tellP1 (N : List Int) (m : FM) (nb : Nat) (p : LPlace) : List LFact := tellI N m p ++ tellH m p nb
def tellP (N : List Int) (m : FM) (nb : Nat) (A : List LPlace) (k : Nat) : List LFact := (A.take k).flatMap (tellP1 N m nb)
def tellL (N : List Int) (m : FM) (nb : Nat) (A : List LPlace) : List LFact := tellT N m nb ++ tellP N m nb A A.length

theorem tellT_step (N : List Int) (m : FM) (k : Nat) : tellT N m (k + 1) = tellT N m k ++ tellT1 N m k := by simp [tellT, List.range_succ]
theorem tellH_step (m : FM) (p : LPlace) (k : Nat) : tellH m p (k + 1) = tellH m p k ++ (if (m.has p).getLsbD k = true then [hFact p k] else []) := by
  unfold tellH
  rw [List.range_succ, List.filter_append, List.map_append]
  congr 1
  cases h : (m.has p).getLsbD k <;> simp [List.filter, h]
theorem tellP_step (N : List Int) (m : FM) (nb : Nat) {A : List LPlace} {k : Nat} (hk : k < A.length) : tellP N m nb A (k + 1) = tellP N m nb A k ++ tellP1 N m nb (A.getD k .zero) := by
  have e : A.take (k + 1) = A.take k ++ [A.getD k .zero] := by rw [List.take_succ_eq_append_getElem hk]; simp [List.getD, hk]
  unfold tellP
  rw [e, List.flatMap_append]
  simp
theorem tellT1_len (N : List Int) (m : FM) (t : Nat) : (tellT1 N m t).length ≤ N.length := by
  unfold tellT1
  rw [List.length_map]
  exact numIn_len _ _ _
theorem tellT_len (N : List Int) (m : FM) (k : Nat) : (tellT N m k).length ≤ k * N.length := by
  induction k with
  | zero => simp [tellT]
  | succ k ih =>
    rw [tellT_step, List.length_append, Nat.succ_mul]
    have := tellT1_len N m k
    omega
theorem tellH_len (m : FM) (p : LPlace) (k : Nat) : (tellH m p k).length ≤ k := by
  unfold tellH
  have := List.length_filter_le (fun t => (m.has p).getLsbD t) (List.range k)
  simp at this ⊢
  exact this
theorem tellI_len (N : List Int) (m : FM) (p : LPlace) : (tellI N m p).length ≤ N.length := by
  unfold tellI
  rw [List.length_map]
  exact numIn_len _ _ _
theorem tellP_len (N : List Int) (m : FM) (nb : Nat) (A : List LPlace) : ∀ k, k ≤ A.length → (tellP N m nb A k).length ≤ k * (N.length + nb) := by
  intro k
  induction k with
  | zero => intro _; simp [tellP]
  | succ k ih =>
    intro hk
    have h1 := ih (by omega)
    rw [tellP_step N m nb (by omega), List.length_append, Nat.succ_mul]
    unfold tellP1
    rw [List.length_append]
    have := tellI_len N m (A.getD k .zero)
    have := tellH_len m (A.getD k .zero) nb
    omega

theorem tell_mem {B : List Bool} {s slots : Int} {N : List Int} {m : FM} {A : List LPlace} (hA : ∀ p, p ∈ A ↔ isB s slots p = true) (hm : FmOk B s slots N m) (f : LFact) : f ∈ tellL N m B.length A ↔ Kof N m f := by
  have hkind : ∀ p, p ∈ A → ¬ p.kind = 0 := fun p hp e => by
    rcases is_cases ((hA p).1 hp) with h | h | h <;> omega
  unfold tellL
  rw [List.mem_append]
  have hT : f ∈ tellT N m B.length ↔ f.pl = .zero ∧ f.temp = true ∧ ∃ t : Nat, t < B.length ∧ f.t = t ∧ ∃ k, k < N.length ∧ nAt N k = f.n ∧ (m.tmp t).getLsbD k = true := by
    unfold tellT
    rw [List.mem_flatMap]
    constructor
    · rintro ⟨t, ht, hf⟩
      unfold tellT1 at hf
      rw [List.mem_map] at hf
      obtain ⟨n, hn, rfl⟩ := hf
      exact ⟨rfl, rfl, t, List.mem_range.1 ht, rfl, numIn_mem.1 hn⟩
    · rintro ⟨h1, h2, t, ht, h3, h4⟩
      refine ⟨t, List.mem_range.2 ht, ?_⟩
      unfold tellT1
      rw [List.mem_map]
      refine ⟨f.n, numIn_mem.2 h4, ?_⟩
      obtain ⟨a, b, c, d⟩ := f
      simp only at h1 h2 h3
      subst h1 h2 h3
      rfl
  have hP : f ∈ tellP N m B.length A A.length ↔ f.pl ∈ A ∧ ((f.temp = false ∧ f.t = 0 ∧ ∃ k, k < N.length ∧ nAt N k = f.n ∧ (m.is f.pl).getLsbD k = true) ∨ (f.temp = true ∧ f.n = 0 ∧ ∃ t : Nat, t < B.length ∧ f.t = t ∧ (m.has f.pl).getLsbD t = true)) := by
    unfold tellP
    rw [List.take_length, List.mem_flatMap]
    constructor
    · rintro ⟨p, hp, hf⟩
      unfold tellP1 at hf
      rw [List.mem_append] at hf
      rcases hf with hf | hf
      · unfold tellI at hf
        rw [List.mem_map] at hf
        obtain ⟨n, hn, rfl⟩ := hf
        exact ⟨hp, Or.inl ⟨rfl, rfl, numIn_mem.1 hn⟩⟩
      · unfold tellH at hf
        rw [List.mem_map] at hf
        obtain ⟨t, ht, rfl⟩ := hf
        rw [List.mem_filter, List.mem_range] at ht
        exact ⟨hp, Or.inr ⟨rfl, rfl, t, ht.1, rfl, ht.2⟩⟩
    · rintro ⟨hp, h⟩
      refine ⟨f.pl, hp, ?_⟩
      unfold tellP1
      rw [List.mem_append]
      rcases h with ⟨h1, h2, h3⟩ | ⟨h1, h2, t, h3, h4, h5⟩
      · left
        unfold tellI
        rw [List.mem_map]
        refine ⟨f.n, numIn_mem.2 h3, ?_⟩
        obtain ⟨a, b, c, d⟩ := f
        simp only at h1 h2
        subst h1 h2
        rfl
      · right
        unfold tellH
        rw [List.mem_map]
        refine ⟨t, by rw [List.mem_filter, List.mem_range]; exact ⟨h3, h5⟩, ?_⟩
        obtain ⟨a, b, c, d⟩ := f
        simp only at h1 h2 h4
        subst h1 h2 h4
        rfl
  rw [hT, hP]
  unfold Kof
  by_cases h0 : f.pl.kind = 0
  · rw [if_pos h0]
    constructor
    · rintro (⟨h1, h2, t, ht, h3, h4⟩ | ⟨h1, _⟩)
      · refine ⟨by rw [h1]; rfl, h2, ?_⟩
        rw [h3]; exact h4
      · exact absurd h0 (hkind _ h1)
    · rintro ⟨h1, h2, k, hk, h3, h4⟩
      obtain ⟨t0, t1, -, -⟩ := hm.tmp _ _ h4
      have e : ((f.t.toNat : Nat) : Int) = f.t := by omega
      refine Or.inl ⟨?_, h2, f.t.toNat, by omega, e.symm, k, hk, h3, by rw [e]; exact h4⟩
      obtain ⟨⟨a, a'⟩, b, c, d⟩ := f
      simp only at h0 h1
      subst h0 h1
      rfl
  rw [if_neg h0]
  have hz : ¬ f.pl = .zero := fun e => h0 (by rw [e]; rfl)
  by_cases ht : f.temp = true
  · rw [if_pos ht]
    constructor
    · rintro (⟨h1, _⟩ | ⟨h1, ⟨h2, _⟩ | ⟨h2, h3, t, h4, h5, h6⟩⟩)
      · exact absurd h1 hz
      · rw [ht] at h2; cases h2
      · exact ⟨h3, by omega, by rw [h5]; exact h6⟩
    · rintro ⟨h1, h2, h3⟩
      obtain ⟨p1, p2, -, -⟩ := hm.has _ _ h3
      exact Or.inr ⟨(hA _).2 p1, Or.inr ⟨ht, h1, f.t.toNat, p2, by omega, h3⟩⟩
  · rw [if_neg ht]
    constructor
    · rintro (⟨_, h1, _⟩ | ⟨h1, ⟨h2, h3, h4⟩ | ⟨h2, _⟩⟩)
      · exact absurd h1 ht
      · exact ⟨h3, h4⟩
      · exact absurd h2 ht
    · rintro ⟨h1, k, hk, h2, h3⟩
      obtain ⟨p1, -, -⟩ := hm.is _ _ h3
      exact Or.inr ⟨(hA _).2 p1, Or.inl ⟨by simpa using ht, h1, k, hk, h2, h3⟩⟩

theorem pair_flat {α β : Type} {R : β → β → Prop} {f : α → List β} : ∀ {l : List α}, (∀ a, a ∈ l → (f a).Pairwise R) → l.Pairwise (fun a b => ∀ x, x ∈ f a → ∀ y, y ∈ f b → R x y) → (l.flatMap f).Pairwise R
  | [], _, _ => by simp
  | a :: l, h1, h2 => by
    rw [List.pairwise_cons] at h2
    rw [List.flatMap_cons, List.pairwise_append]
    refine ⟨h1 a (by simp), pair_flat (fun b hb => h1 b (by simp [hb])) h2.2, fun x hx y hy => ?_⟩
    rw [List.mem_flatMap] at hy
    obtain ⟨b, hb, hy⟩ := hy
    exact h2.1 b hb x hx y hy

theorem tell_sorted {N : List Int} (hN : N.Pairwise (· < ·)) (m : FM) (nb : Nat) {A : List LPlace} (hA : A.Pairwise plLt) (hk : ∀ p, p ∈ A → 0 < p.kind) : (tellL N m nb A).Pairwise factLt := by
  unfold tellL
  rw [List.pairwise_append]
  have memT1 : ∀ t f, f ∈ tellT1 N m t → f.pl = .zero ∧ f.temp = true ∧ f.t = t := fun t f hf => by
    unfold tellT1 at hf
    rw [List.mem_map] at hf
    obtain ⟨n, _, rfl⟩ := hf
    exact ⟨rfl, rfl, rfl⟩
  have memP1 : ∀ p f, f ∈ tellP1 N m nb p → f.pl = p := fun p f hf => by
    unfold tellP1 at hf
    rw [List.mem_append] at hf
    rcases hf with hf | hf
    · unfold tellI at hf
      rw [List.mem_map] at hf
      obtain ⟨n, _, rfl⟩ := hf
      rfl
    · unfold tellH at hf
      rw [List.mem_map] at hf
      obtain ⟨n, _, rfl⟩ := hf
      rfl
  refine ⟨?_, ?_, ?_⟩
  · unfold tellT
    refine pair_flat (fun t _ => ?_) (List.pairwise_lt_range.imp (fun {a b} hab x hx y hy => ?_))
    · unfold tellT1
      rw [List.pairwise_map]
      exact (numIn_up hN _).imp (fun {a b} hab => Or.inr ⟨rfl, Or.inr ⟨rfl, Or.inr ⟨rfl, Or.inr ⟨rfl, hab⟩⟩⟩⟩)
    · obtain ⟨a1, a2, a3⟩ := memT1 a x hx
      obtain ⟨b1, b2, b3⟩ := memT1 b y hy
      exact Or.inr ⟨by rw [a1, b1], Or.inr ⟨by rw [a1, b1], Or.inr ⟨by rw [a2, b2], Or.inl (by omega)⟩⟩⟩
  · unfold tellP
    rw [List.take_length]
    refine pair_flat (fun p _ => ?_) (hA.imp (fun {a b} hab x hx y hy => ?_))
    · unfold tellP1
      rw [List.pairwise_append]
      refine ⟨?_, ?_, fun x hx y hy => ?_⟩
      · unfold tellI
        rw [List.pairwise_map]
        exact (numIn_up hN _).imp (fun {a b} hab => Or.inr ⟨rfl, Or.inr ⟨rfl, Or.inr ⟨rfl, Or.inr ⟨rfl, hab⟩⟩⟩⟩)
      · unfold tellH
        rw [List.pairwise_map]
        exact (List.pairwise_lt_range.filter _).imp (fun {a b} hab => Or.inr ⟨rfl, Or.inr ⟨rfl, Or.inr ⟨rfl, Or.inl (by simp only [hFact]; omega)⟩⟩⟩)
      · unfold tellI at hx
        unfold tellH at hy
        rw [List.mem_map] at hx hy
        obtain ⟨n, _, rfl⟩ := hx
        obtain ⟨t, _, rfl⟩ := hy
        exact Or.inr ⟨rfl, Or.inr ⟨rfl, Or.inl ⟨rfl, rfl⟩⟩⟩
    · have e1 := memP1 a x hx
      have e2 := memP1 b y hy
      rcases hab with h | ⟨h, h'⟩
      · exact Or.inl (by rw [e1, e2]; exact h)
      · exact Or.inr ⟨by rw [e1, e2]; exact h, Or.inl (by rw [e1, e2]; exact h')⟩
  · intro x hx y hy
    unfold tellT at hx
    rw [List.mem_flatMap] at hx
    obtain ⟨t, _, hx⟩ := hx
    unfold tellP at hy
    rw [List.take_length, List.mem_flatMap] at hy
    obtain ⟨p, hp, hy⟩ := hy
    have e1 := (memT1 t x hx).1
    have e2 := memP1 p y hy
    refine Or.inl ?_
    rw [e1, e2]
    exact hk p hp

end Go.Proofs.YtcmnmogmdhofcaaGreat.form
