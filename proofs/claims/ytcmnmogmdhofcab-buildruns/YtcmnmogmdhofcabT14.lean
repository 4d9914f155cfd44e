/- What the program tells of what is needed (live.nothing, live.Of): rows of truths, the least ones. -/
import Derived.BigQuiet
import Derived.Deep.QuietTactic
import Derived.Test.YtcmnmogmdhofcabT12
import Derived.Test.YtcmnmogmdhofcabT13
import Derived.Test.YtcmnmogmdhofcabT11
import Derived.Test.YtcmnmogmdhofcabT10

namespace Go.Proofs.Ytcmnmogmdhofcab.form
open Go.RowKit
set_option linter.unusedVariables false
attribute [local go_sem ↓] Go.wp_at_zero Go.wp_at_succ

theorem made_rows (n : Nat) : madeCells #[Value.slice none 0 0] n = (List.replicate n (Value.slice none 0 0)).toArray := by
  apply Array.toList_inj.1
  rw [toList_madeCells_one]

/-- The rows made till now. -/
structure NoS (w : World) (g nB nC k : Nat) (wr : World) : Prop where
  bel : Below w.heap.size w wr
  size : wr.heap.size = g + 1 + k
  top : ∃ vs : List Value, vs.length = nC ∧ Row wr g 22 vs ∧ ∀ j, j < k → vs[j]? = some (.slice (some ⟨g + 1 + j, 0, none⟩) nB nB)
  row : ∀ j, j < k → Row wr (g + 1 + j) 4 ((List.replicate nB false).map Value.bool)

set_option maxRecDepth 100000 in
theorem nothing (b0 o0 c0 b1 o1 c1 : Nat) (B : List Bool) (C : List LIns) (w : World) (hB : B.length ≤ 12) (hC : C.length ≤ 40) :
    Calls Try.prog 105 #[progV b0 o0 B.length c0 b1 o1 C.length c1] w fun e w' => e = .returned (.slice (some ⟨w.heap.size + 1, 0, none⟩) C.length C.length) ∧ MatF (w.heap.size + 1) B.length C.length (List.replicate (C.length * B.length) false) w' ∧ Below w.heap.size w w' := by
  have hmk := fun wx => run_make_row' (P := Try.prog) 22 4 (.bool false) 1 Try.underlying22 infBool rfl .i64 .i64 B.length (by omega) (by omega) wx
  have hmk2 := fun wx => run_make_row' (P := Try.prog) 31 22 (.slice none 0 0) 24 Try.underlying31 infRow rfl .i64 .i64 C.length (by omega) (by omega) wx
  have y2 : (C.length : Int) ≤ 40 := by omega
  have y3 : (B.length : Int) ≤ 12 := by omega
  unfold progV
  go_enter Try.func105, Try.ntmps105
  go_wp2
  go_loopw [11] (fun kv wr => ∃ k : Nat, kv = .int .i64 k ∧ k ≤ C.length ∧ wr.cell? ⟨w.heap.size, 0, none⟩ = some (.slice (some ⟨b0, o0, none⟩) B.length c0) ∧ NoS w (w.heap.size + 1) B.length C.length k wr) (fun kv _ => C.length - (intOf kv).toNat)
  case atStart =>
    refine ⟨0, rfl, by omega, by simp [go_sem], ((Below.refl _ _).alloc (Nat.le_refl _) _).alloc (by simp) _, by simp, ⟨List.replicate C.length (.slice none 0 0), by simp, ?_, fun j hj => absurd hj (by omega)⟩, fun j hj => absurd hj (by omega)⟩
    rw [made_rows]
    have := Row.new (w.alloc (.cells #[.slice (some ⟨b0, o0, none⟩) B.length c0, .slice (some ⟨b1, o1, none⟩) C.length c1] 25)) 22 (List.replicate C.length (.slice none 0 0))
    simpa using this
  case round =>
    obtain ⟨k, rfl, hk, p0, hno⟩ := hrel
    have HNO : Hid (NoS w (w.heap.size + 1) B.length C.length k wr) := hno
    have hz := hno.size
    obtain ⟨vs, hvl, hvr, hvk⟩ := hno.top
    clear hno
    have HVR : Hid (Row wr (w.heap.size + 1) 22 vs) := hvr
    have HVK : Hid (∀ j, j < k → vs[j]? = some (.slice (some ⟨w.heap.size + 1 + 1 + j, 0, none⟩) B.length B.length)) := hvk
    clear hvk
    by_cases hlt : k < C.length
    case neg =>
      have y9 : ¬ (k : Int) < (C.length : Int) := by omega
      obtain rfl : k = C.length := by omega
      clear hvr
      go_wp2
      go_ret
      refine ⟨rfl, ⟨by simp, fun j hj => ?_, fun j hj => ?_⟩, HNO.out.bel⟩
      · rw [HVR.out.cell]; exact HVK.out j hj
      · have := HNO.out.row j hj
        rwa [show rowF B.length (List.replicate (C.length * B.length) false) j = List.replicate B.length false by
          apply List.ext_getElem (by simp [rowF])
          intro q h1 h2
          simp [rowF, getF_nothing]]
    have y8 : (k : Int) < (C.length : Int) := by omega
    have y7 : (0 : Int) ≤ (k : Int) := by omega
    obtain ⟨u0, ck⟩ : ∃ u0, wr.cell? ⟨w.heap.size + 1, k, none⟩ = some u0 := ⟨vs[k]'(by omega), by rw [hvr.cell]; simp⟩
    have fz := hvr.frozen k
    have hgz : w.heap.size + 1 < wr.heap.size := by omega
    have HZ : Hid (wr.heap.size = w.heap.size + 1 + 1 + k) := hz
    clear hvr hz
    go_wp2
    obtain ⟨W1, hW1⟩ : ∃ W1, W1 = wr.setCell ⟨w.heap.size + 1, k, none⟩ (.slice (some ⟨wr.heap.size, 0, none⟩) B.length B.length) := ⟨_, rfl⟩
    have hz1 : W1.heap.size = wr.heap.size := by rw [hW1]; simp
    have hbn : Below W1.heap.size W1 (W1.alloc (.cells (madeCells #[.bool false] B.length) 4)) := (Below.refl _ _).alloc (Nat.le_refl _) _
    have hrn := Row.new W1 4 ((List.replicate B.length false).map Value.bool)
    rw [← made_bool] at hrn
    have q0 : W1.cell? ⟨w.heap.size, 0, none⟩ = some (.slice (some ⟨b0, o0, none⟩) B.length c0) := by rw [hW1]; exact cell_other p0 (by simp)
    have q1 : Below w.heap.size w W1 := by rw [hW1]; exact HNO.out.bel.setCell (by simp) _
    have q2 : Row W1 (w.heap.size + 1) 22 (vs.set k (.slice (some ⟨wr.heap.size, 0, none⟩) B.length B.length)) := by rw [hW1]; exact HVR.out.set k _
    have q3 : ∀ j, j < k → Row W1 (w.heap.size + 1 + 1 + j) 4 ((List.replicate B.length false).map Value.bool) := fun j hj => by rw [hW1]; exact (HNO.out.row j hj).other (by simp; omega) _
    rw [← hW1]
    refine ⟨⟨k + 1, by go_num, by omega, step_cell hbn q0, ?_⟩, by simp [intOf]; omega⟩
    refine ⟨step_below hbn q1, by simp [hz1, HZ.out]; omega, ⟨vs.set k (.slice (some ⟨wr.heap.size, 0, none⟩) B.length B.length), by simp [hvl], q2.below hbn, fun j hj => ?_⟩, fun j hj => ?_⟩
    · by_cases hjk : j = k
      · subst hjk
        rw [List.getElem?_set_self (by omega), HZ.out]
      · rw [List.getElem?_set_ne (Ne.symm hjk)]
        exact HVK.out j (by omega)
    · by_cases hjk : j = k
      · subst hjk
        rw [← HZ.out, ← hz1]
        exact hrn
      · exact (q3 j (by omega)).below hbn

theorem all_known {B : List Bool} {C : List LIns} (h : refMayB B C = true) : ∀ k, k < C.length → knownB (C.getD k .zero).op = true := by
  unfold refMayB at h
  simp only [Bool.and_eq_true] at h
  intro k hk
  have := List.all_eq_true.1 h.2 (C.getD k .zero) (by simp [List.getD, hk])
  unfold insB at this
  simp only [Bool.and_eq_true] at this
  obtain ⟨⟨⟨⟨⟨⟨hk, _⟩, hd⟩, ha⟩, hb⟩, hl⟩, _⟩ := this
  exact hk

/-- The answer of live.Of where the program may be. -/
def OwnAns (nB : Nat) (C : List LIns) (e : Ending) (w : World) : Prop := ∃ v R, e = .returned (.tuple #[v, .int .i64 0]) ∧ MatIs w v R ∧ NeedMat nB C R

/-- The same, with the rows one block behind the other. -/
def OwnAnsF (lo nB : Nat) (C : List LIns) (e : Ending) (w : World) : Prop := ∃ g L, lo ≤ g ∧ e = .returned (.tuple #[.slice (some ⟨g, 0, none⟩) C.length C.length, .int .i64 0]) ∧ MatF g nB C.length L w ∧ Snd nB C L ∧ Cls nB C L

/-- How many truths lie in memory. -/
def trueAt (w : World) (a : Addr) : Nat := match w.cell? a with
  | some (.bool true) => 1
  | _ => 0
def cntF (g nB nC : Nat) (w : World) : Nat := ((List.range (nC * nB)).map fun q => trueAt w ⟨g + 1 + q / nB, q % nB, none⟩).sum

theorem count_sum (L : List Bool) : ((List.range L.length).map fun q => if L.getD q false = true then 1 else 0).sum = L.count true := by
  induction L with
  | nil => rfl
  | cons b L ih =>
    rw [List.length_cons, List.range_succ_eq_map, List.map_cons, List.sum_cons, List.map_map]
    have e : ((fun q => if (b :: L).getD q false = true then 1 else 0) ∘ Nat.succ) = fun q => if L.getD q false = true then 1 else 0 := by funext q; simp
    rw [e, ih]
    cases b <;> simp [Nat.add_comm]

theorem MatF.cnt {g nB nC : Nat} {L : List Bool} {w : World} (h : MatF g nB nC L w) : cntF g nB nC w = L.count true := by
  rw [← count_sum]
  unfold cntF
  rw [h.len]
  congr 1
  apply List.map_congr_left
  intro q hq
  have hq' : q < nC * nB := by simpa using hq
  have hB : 0 < nB := by
    rcases Nat.eq_zero_or_pos nB with e | e
    · rw [e] at hq'; simp at hq'
    · exact e
  have h1 : q / nB < nC := Nat.div_lt_of_lt_mul (by rw [Nat.mul_comm]; exact hq')
  have h2 : q % nB < nB := Nat.mod_lt _ hB
  have hc := h.cell h1 h2
  have hd : q / nB * nB + q % nB = q := by rw [Nat.mul_comm]; exact Nat.div_add_mod q nB
  unfold getF at hc
  rw [hd] at hc
  unfold trueAt
  rw [hc]
  cases L.getD q false <;> simp

theorem count_le_flat {nB nC : Nat} {L : List Bool} (h : L.length = nC * nB) : L.count true ≤ nC * nB := by rw [← h]; exact List.count_le_length

set_option maxRecDepth 100000 in
set_option maxHeartbeats 1000000 in
theorem own_yesF (b0 o0 c0 b1 o1 c1 : Nat) (B : List Bool) (C : List LIns) (w : World) (h : Held w b0 o0 b1 o1 B C) (hn : ∀ i, i < C.length → 0 ≤ (C.getD i .zero).n ∧ (C.getD i .zero).n < 4294967296) (hm : refMayB B C = true) :
    Calls Try.prog 58 #[progV b0 o0 B.length c0 b1 o1 C.length c1] w fun e w' => OwnAnsF w.heap.size B.length C e w' ∧ Below w.heap.size w w' := by
  have hs : sizesB B C = true := by unfold refMayB at hm; simp only [Bool.and_eq_true] at hm; exact hm.1
  obtain ⟨s1, s2, s3, s4⟩ := sizes_of hs
  have hok := all_insOk hm hn
  have hkn := all_known hm
  have hmay : mayB B C = true := by rw [may_same]; exact hm
  have HMAY : Hid (∀ wx : World, Below w.heap.size w wx → Calls Try.prog 49 #[progV b0 o0 B.length c0 b1 o1 C.length c1] wx fun e w' => e = .returned (.bool true) ∧ Below wx.heap.size wx w') := fun wx hb => by
    have := may (progV b0 o0 B.length c0 b1 o1 C.length c1) B C wx ⟨⟨_, _, _, _, rfl, fun _ _ => ⟨b0, o0, b1, o1, rfl, rfl, h.later hb⟩⟩, by omega, by omega, hn⟩
    rwa [hmay] at this
  have HNO : Hid (∀ wx : World, Calls Try.prog 105 #[progV b0 o0 B.length c0 b1 o1 C.length c1] wx fun e w' => e = .returned (.slice (some ⟨wx.heap.size + 1, 0, none⟩) C.length C.length) ∧ MatF (wx.heap.size + 1) B.length C.length (List.replicate (C.length * B.length) false) w' ∧ Below wx.heap.size wx w') := fun wx => nothing b0 o0 c0 b1 o1 c1 B C wx s2 s4
  have hh0 := h.lt0
  have hh1 := h.lt1
  have HSP : Hid (∀ (g : Nat) (wx : World) (L : List Bool), w.heap.size ≤ g → Below w.heap.size w wx → MatF g B.length C.length L wx → Snd B.length C L → Calls Try.prog 106 #[progV b0 o0 B.length c0 b1 o1 C.length c1, .slice (some ⟨g, 0, none⟩) C.length C.length] wx fun e w' => SpreadAns B.length C g L e w' ∧ Below g wx w') := fun g wx L hg hb hM hS => spread g b0 o0 c0 b1 o1 c1 B C L wx s2 s4 (by omega) (by omega) (h.later hb) hok hkn hM hS s3
  clear h hn hm hs hok hkn hmay
  unfold progV
  go_enter Try.func58, Try.ntmps58
  go_wp2_with (first
    | (go_at_call 49; refine (HMAY.out _ ?_).mono ?_; (exact (Below.refl _ _).alloc (Nat.le_refl _) _); rintro e w1 ⟨rfl, hb1⟩; have p0 : w1.cell? ⟨w.heap.size, 0, none⟩ = some (.slice (some ⟨b0, o0, none⟩) B.length c0) := step_cell hb1 (by simp [go_sem]); have p1 : w1.cell? ⟨w.heap.size, 1, none⟩ = some (.slice (some ⟨b1, o1, none⟩) C.length c1) := step_cell hb1 (by simp [go_sem]); have HB1 : Hid (Below w.heap.size w w1) := over_alloc hb1; clear hb1)
    | (go_at_call 105; refine (HNO.out _).mono ?_; rintro e w2 ⟨rfl, hM2, hb2⟩; have HM2 : Hid (MatF (w1.heap.size + 1) B.length C.length (List.replicate (C.length * B.length) false) w2) := hM2; have HB2 : Hid (Below w1.heap.size w1 w2) := hb2; clear hM2 hb2))
  have hz1 : w.heap.size < w1.heap.size := World.block_lt_of_cell? w1 _ p0
  obtain ⟨g, hg⟩ : ∃ g, g = w1.heap.size + 1 := ⟨_, rfl⟩
  rw [← hg] at HM2 ⊢
  have HG : Hid (g = w1.heap.size + 1) := hg
  clear hg
  go_loopw [] (fun wr => ∃ L : List Bool, MatF g B.length C.length L wr ∧ Snd B.length C L ∧ Below w.heap.size w wr ∧ wr.cell? ⟨w.heap.size, 0, none⟩ = some (.slice (some ⟨b0, o0, none⟩) B.length c0) ∧ wr.cell? ⟨w.heap.size, 1, none⟩ = some (.slice (some ⟨b1, o1, none⟩) C.length c1)) (fun wr => C.length * B.length - cntF g B.length C.length wr)
  case atStart => exact ⟨_, HM2.out, snd_nothing _ _, step_below HB2.out HB1.out, step_cell HB2.out p0, step_cell HB2.out p1⟩
  case round =>
    clear HB1 HB2 HM2 p0 p1
    obtain ⟨L, hM, hS, hb, p0, p1⟩ := hrel
    have HM : Hid (MatF g B.length C.length L wr) := hM
    have HS : Hid (Snd B.length C L) := hS
    have HB : Hid (Below w.heap.size w wr) := hb
    have HCN : Hid (cntF g B.length C.length wr = L.count true) := hM.cnt
    clear hM hS hb
    have hgz : w.heap.size < g := by have := HG.out; omega
    go_wp2_with (go_at_call 106; refine (HSP.out g _ L (by omega) HB.out HM.out HS.out).mono ?_; rintro e w3 ⟨⟨m, L', rfl, hM', hsp⟩, hb3⟩; have HM3 : Hid (MatF g B.length C.length L' w3) := hM'; have HSPS : Hid (SpS B.length C L (fun _ _ => True) m L') := hsp; have HB3 : Hid (Below g wr w3) := hb3; clear hM' hsp hb3)
    · have hmt : m = true := by assumption
      have c1 := HM3.out.cnt
      have c2 := HSPS.out.yes hmt
      have c3 := count_le_flat HM3.out.len
      refine ⟨⟨L', HM3.out, HSPS.out.snd, HB.out.trans (HB3.out.mono (by omega)), ?_, ?_⟩, ?_⟩
      · rw [HB3.out.cell (by show w.heap.size < g; exact hgz)]; exact p0
      · rw [HB3.out.cell (by show w.heap.size < g; exact hgz)]; exact p1
      · rw [c1, HCN.out]; omega
    · have hmf : m = false := by simp_all
      obtain ⟨e1, e2⟩ := HSPS.out.no hmf
      have hcl : Cls B.length C L' := fun k t hk ht hg => e2 k t hk ht trivial hg
      refine bodyPost_ret (v := .tuple #[.slice (some ⟨g, 0, none⟩) C.length C.length, .int .i64 0]) ?_ rfl ⟨⟨g, L', by omega, rfl, HM3.out, HSPS.out.snd, hcl⟩, HB.out.trans (HB3.out.mono (by omega))⟩
      simp [results, Try.results58, go_sem]

theorem own_yes (b0 o0 c0 b1 o1 c1 : Nat) (B : List Bool) (C : List LIns) (w : World) (h : Held w b0 o0 b1 o1 B C) (hn : ∀ i, i < C.length → 0 ≤ (C.getD i .zero).n ∧ (C.getD i .zero).n < 4294967296) (hm : refMayB B C = true) :
    Calls Try.prog 58 #[progV b0 o0 B.length c0 b1 o1 C.length c1] w fun e w' => OwnAns B.length C e w' ∧ Below w.heap.size w w' := by
  have hs : sizesB B C = true := by unfold refMayB at hm; simp only [Bool.and_eq_true] at hm; exact hm.1
  obtain ⟨s1, s2, s3, s4⟩ := sizes_of hs
  refine (own_yesF b0 o0 c0 b1 o1 c1 B C w h hn hm).mono ?_
  rintro e w' ⟨⟨g, L, hg, rfl, hM, hS, hC⟩, hb⟩
  exact ⟨⟨_, _, rfl, hM.mat s3 s4 s2, needF hS hC⟩, hb⟩

/-- Where it may not be. -/
theorem own_no (v : Value) (B : List Bool) (C : List LIns) (w : World) (h : ProgIs w v B C) (hm : refMayB B C = false) :
    Calls Try.prog 58 #[v] w fun e w' => e = .returned (.tuple #[.slice none 0 0, .int .i64 2]) ∧ Below w.heap.size w w' := by
  have hmay : mayB B C = false := by rw [may_same]; exact hm
  have h0 := h
  obtain ⟨⟨a0, c0, a1, c1, rfl, -⟩, -, -, -⟩ := h0
  have HMAY : Hid (∀ wx : World, Below w.heap.size w wx → Calls Try.prog 49 #[.agg #[.slice a0 B.length c0, .slice a1 C.length c1]] wx fun e w' => e = .returned (.bool false) ∧ Below wx.heap.size wx w') := fun wx hb => by
    have := may _ B C wx (h.later hb)
    rwa [hmay] at this
  clear h hm hmay
  go_enter Try.func58, Try.ntmps58
  go_wp2_with (go_at_call 49; refine (HMAY.out _ ?_).mono ?_; (exact (Below.refl _ _).alloc (Nat.le_refl _) _); rintro e w1 ⟨rfl, hb1⟩; have HB1 : Hid (Below w.heap.size w w1) := over_alloc hb1; clear hb1)
  refine bodyPost_ret (v := .tuple #[.slice none 0 0, .int .i64 2]) ?_ rfl ⟨rfl, HB1.out⟩
  simp [results, Try.results58, go_sem]

end Go.Proofs.Ytcmnmogmdhofcab.form

/- What may not be in one place, the program's own: rows of nothing (near.none), and what is needed from the beginning on (near.joinFirst). -/
namespace Go.Proofs.Ytcmnmogmdhofcab.form
open Go.RowKit
set_option linter.unusedVariables false
attribute [local go_sem ↓] Go.wp_at_zero Go.wp_at_succ

set_option maxRecDepth 100000 in
theorem none5 (n : Nat) (w : World) (hn : n ≤ 12) :
    Calls Try.prog 59 #[.int .i64 n] w fun e w' => e = .returned (.slice (some ⟨w.heap.size, 0, none⟩) n n) ∧ MatF w.heap.size n n (List.replicate (n * n) false) w' ∧ Below w.heap.size w w' := by
  have hmk := fun wx => run_make_row' (P := Try.prog) 22 4 (.bool false) 1 Try.underlying22 infBool rfl .i64 .i64 n (by omega) (by omega) wx
  have hmk2 := fun wx => run_make_row' (P := Try.prog) 31 22 (.slice none 0 0) 24 Try.underlying31 infRow rfl .i64 .i64 n (by omega) (by omega) wx
  have y2 : (n : Int) ≤ 12 := by omega
  go_enter Try.func59, Try.ntmps59
  go_wp2
  go_loopw [9] (fun kv wr => ∃ k : Nat, kv = .int .i64 k ∧ k ≤ n ∧ NoS w w.heap.size n n k wr) (fun kv _ => n - (intOf kv).toNat)
  case atStart =>
    refine ⟨0, rfl, by omega, (Below.refl _ _).alloc (Nat.le_refl _) _, by simp, ⟨List.replicate n (.slice none 0 0), by simp, ?_, fun j hj => absurd hj (by omega)⟩, fun j hj => absurd hj (by omega)⟩
    rw [made_rows]
    exact Row.new w 22 (List.replicate n (.slice none 0 0))
  case round =>
    obtain ⟨k, rfl, hk, hno⟩ := hrel
    have HNO : Hid (NoS w w.heap.size n n k wr) := hno
    have hz := hno.size
    obtain ⟨vs, hvl, hvr, hvk⟩ := hno.top
    clear hno
    have HVR : Hid (Row wr w.heap.size 22 vs) := hvr
    have HVK : Hid (∀ j, j < k → vs[j]? = some (.slice (some ⟨w.heap.size + 1 + j, 0, none⟩) n n)) := hvk
    clear hvk
    by_cases hlt : k < n
    case neg =>
      have y9 : ¬ (k : Int) < (n : Int) := by omega
      obtain rfl : k = n := by omega
      clear hvr
      go_wp2
      go_ret
      refine ⟨rfl, ⟨by simp, fun j hj => ?_, fun j hj => ?_⟩, HNO.out.bel⟩
      · rw [HVR.out.cell]; exact HVK.out j hj
      · have := HNO.out.row j hj
        rwa [show rowF k (List.replicate (k * k) false) j = List.replicate k false by
          apply List.ext_getElem (by simp [rowF])
          intro q h1 h2
          simp [rowF, getF_nothing]]
    have y8 : (k : Int) < (n : Int) := by omega
    have y7 : (0 : Int) ≤ (k : Int) := by omega
    obtain ⟨u0, ck⟩ : ∃ u0, wr.cell? ⟨w.heap.size, k, none⟩ = some u0 := ⟨vs[k]'(by omega), by rw [hvr.cell]; simp⟩
    have fz := hvr.frozen k
    have hgz : w.heap.size < wr.heap.size := by omega
    have HZ : Hid (wr.heap.size = w.heap.size + 1 + k) := hz
    clear hvr hz
    go_wp2
    obtain ⟨W1, hW1⟩ : ∃ W1, W1 = wr.setCell ⟨w.heap.size, k, none⟩ (.slice (some ⟨wr.heap.size, 0, none⟩) n n) := ⟨_, rfl⟩
    have hz1 : W1.heap.size = wr.heap.size := by rw [hW1]; simp
    have hbn : Below W1.heap.size W1 (W1.alloc (.cells (madeCells #[.bool false] n) 4)) := (Below.refl _ _).alloc (Nat.le_refl _) _
    have hrn := Row.new W1 4 ((List.replicate n false).map Value.bool)
    rw [← made_bool] at hrn
    have q1 : Below w.heap.size w W1 := by rw [hW1]; exact HNO.out.bel.setCell (by simp) _
    have q2 : Row W1 w.heap.size 22 (vs.set k (.slice (some ⟨wr.heap.size, 0, none⟩) n n)) := by rw [hW1]; exact HVR.out.set k _
    have q3 : ∀ j, j < k → Row W1 (w.heap.size + 1 + j) 4 ((List.replicate n false).map Value.bool) := fun j hj => by rw [hW1]; exact (HNO.out.row j hj).other (by simp; omega) _
    rw [← hW1]
    refine ⟨⟨k + 1, by go_num, by omega, ?_⟩, by simp [intOf]; omega⟩
    refine ⟨step_below hbn q1, by simp [hz1, HZ.out]; omega, ⟨vs.set k (.slice (some ⟨wr.heap.size, 0, none⟩) n n), by simp [hvl], q2.below hbn, fun j hj => ?_⟩, fun j hj => ?_⟩
    · by_cases hjk : j = k
      · subst hjk
        rw [List.getElem?_set_self (by omega), HZ.out]
      · rw [List.getElem?_set_ne (Ne.symm hjk)]
        exact HVK.out j (by omega)
    · by_cases hjk : j = k
      · subst hjk
        rw [← HZ.out, ← hz1]
        exact hrn
      · exact (q3 j (by omega)).below hbn

/-- What lies in memory while two and two are made near. -/
structure NM (w : World) (gn bx nB : Nat) (L : List Bool) (wr : World) : Prop where
  bel : Apart gn (gn + 1 + nB) w wr
  mat : MatF gn nB nB L wr
  box : wr.cell? ⟨bx, 0, none⟩ = some (.slice (some ⟨gn, 0, none⟩) nB nB)

theorem NM.join {w wr w1 : World} {gn bx nB : Nat} {L L' : List Bool} (h : NM w gn bx nB L wr) (hxn : ¬ (gn ≤ bx ∧ bx < gn + 1 + nB)) (hM : MatF gn nB nB L' w1) (ha : Apart gn (gn + 1 + nB) wr w1) : NM w gn bx nB L' w1 :=
  ⟨h.bel.trans ha, hM, ha.cell h.box hxn⟩
theorem NM.below {w wr w1 : World} {gn bx nB : Nat} {L : List Bool} (h : NM w gn bx nB L wr) (hb : Below wr.heap.size wr w1) : NM w gn bx nB L w1 :=
  ⟨h.bel.trans (Apart.of_below hb), h.mat.below hb, step_cell hb h.box⟩

/-- Behind the pairs of those below i. -/
def FirstP (P : Nat → Nat → Prop) (r : List Bool) (i : Nat) (x y : Nat) : Prop := P x y ∨ (¬ x = y ∧ x < i ∧ y < i ∧ r.getD x false = true ∧ r.getD y false = true)

set_option maxRecDepth 100000 in
set_option maxHeartbeats 1000000 in
theorem joinFirst (gn bx bf nB : Nat) (r L0 : List Bool) (P : Nat → Nat → Prop) (w : World) (hB : nB ≤ 12) (hxn : ¬ (gn ≤ bx ∧ bx < gn + 1 + nB)) (hbf : bf < gn) (hr : ∀ j, j < nB → w.cell? ⟨bf, j, none⟩ = some (.bool (r.getD j false))) (hN : NM w gn bx nB L0 w) (hS : NrS nB L0 P) :
    Calls Try.prog 61 #[.slice (some ⟨bf, 0, none⟩) nB nB, .func (.func 60) #[] #[.pointer (some ⟨bx, 0, none⟩)]] w fun e w' => e = .returned (.tuple #[]) ∧ ∃ L, NM w gn bx nB L w' ∧ NrS nB L (FirstP P r nB) := by
  have HJ : Hid (∀ (wx : World) (L : List Bool) (a b : Nat), NM w gn bx nB L wx → a < nB → b < nB → Calls Try.prog 60 #[.int .i64 a, .int .i64 b, .pointer (some ⟨bx, 0, none⟩)] wx fun e w' => e = .returned (.tuple #[]) ∧ MatF gn nB nB (joinL nB L a b) w' ∧ Apart gn (gn + 1 + nB) wx w') :=
    fun wx L a b hm ha hb => Go.Proofs.Ytcmnmogmdhofcab.form.join gn bx nB a b L wx hB hm.box hxn hm.mat ha hb
  have HR : Hid (∀ (wx : World) (L : List Bool) (j : Nat), NM w gn bx nB L wx → j < nB → wx.cell? ⟨bf, j, none⟩ = some (.bool (r.getD j false))) := fun wx L j hm hj => hm.bel.cell (hr j hj) (by dsimp only; omega)
  have HN0 : Hid (NM w gn bx nB L0 w) := hN
  have HS0 : Hid (NrS nB L0 P) := hS
  have y4 : (nB : Int) ≤ 12 := by omega
  clear hr hN hS
  go_enter Try.func61, Try.ntmps61
  go_wp2
  go_loopw [8] (fun iv wr => ∃ (i : Nat) (L : List Bool), iv = .int .i64 i ∧ i ≤ nB ∧ NM w gn bx nB L wr ∧ NrS nB L (FirstP P r i)) (fun iv _ => nB - (intOf iv).toNat)
  case atStart => exact ⟨0, L0, rfl, by omega, HN0.out, HS0.out.congr fun x y _ _ => by unfold FirstP; grind⟩
  case round =>
    obtain ⟨i, L, rfl, hi, hnm, hns⟩ := hrel
    have HNM : Hid (NM w gn bx nB L wr) := hnm
    have HNS : Hid (NrS nB L (FirstP P r i)) := hns
    clear hnm hns
    by_cases hlt : i < nB
    case neg =>
      have y9 : ¬ (i : Int) < (nB : Int) := by omega
      obtain rfl : i = nB := by omega
      go_wp2
      go_end0
      exact ⟨rfl, L, HNM.out, HNS.out⟩
    have y8 : (i : Int) < (nB : Int) := by omega
    have y7 : (0 : Int) ≤ (i : Int) := by omega
    go_wp2
    go_loopw [12] (fun jv wr2 => ∃ (j : Nat) (L : List Bool), jv = .int .i64 j ∧ j ≤ i ∧ NM w gn bx nB L wr2 ∧ NrS nB L (JoinP (FirstP P r i) i (fun y => y < j ∧ r.getD i false = true ∧ r.getD y false = true))) (fun jv _ => i - (intOf jv).toNat)
    case atStart => exact ⟨0, L, rfl, by omega, HNM.out, HNS.out.congr fun x y _ _ => by unfold JoinP; grind⟩
    case round =>
      clear HNM HNS
      obtain ⟨j, L, rfl, hj, hnm, hns⟩ := hrel
      have HNM : Hid (NM w gn bx nB L wr) := hnm
      have HNS : Hid (NrS nB L (JoinP (FirstP P r i) i (fun y => y < j ∧ r.getD i false = true ∧ r.getD y false = true))) := hns
      clear hnm hns
      by_cases hjt : j < i
      case neg =>
        have z9 : ¬ (j : Int) < (i : Int) := by omega
        go_wp2
        go_roundw
        case rel => exact ⟨i + 1, L, by go_num, by omega, HNM.out, HNS.out.congr fun x y _ _ => by unfold JoinP FirstP; grind⟩
        case measure => simp [intOf]; omega
      have z8 : (j : Int) < (i : Int) := by omega
      have z7 : (0 : Int) ≤ (j : Int) := by omega
      have z6 : (j : Int) < (nB : Int) := by omega
      have k1 := HR.out wr L i HNM.out hlt
      have k2 := HR.out wr L j HNM.out (by omega)
      obtain ⟨u, hu⟩ : ∃ u, u = r.getD i false := ⟨_, rfl⟩
      obtain ⟨v, hv⟩ : ∃ v, v = r.getD j false := ⟨_, rfl⟩
      rw [← hu] at k1
      rw [← hv] at k2
      have HU : Hid (r.getD i false = u) := hu.symm
      have HV : Hid (r.getD j false = v) := hv.symm
      clear hu hv
      cases u with
      | false =>
        go_wp2
        refine ⟨⟨j + 1, L, by go_num, by omega, HNM.out, HNS.out.congr fun x y _ _ => ?_⟩, by simp [intOf]; omega⟩
        have := HU.out
        unfold JoinP
        grind
      | true =>
        cases v with
        | false =>
          go_wp2
          refine ⟨⟨j + 1, L, by go_num, by omega, HNM.out, HNS.out.congr fun x y _ _ => ?_⟩, by simp [intOf]; omega⟩
          have := HV.out
          unfold JoinP
          grind
        | true =>
          go_wp2_with (go_at_call 60; refine (HJ.out _ L i j HNM.out hlt (by omega)).mono ?_; rintro e w1 ⟨rfl, hM1, hA1⟩; have HNM1 : Hid (NM w gn bx nB (joinL nB L i j) w1) := HNM.out.join hxn hM1 hA1; clear hM1 hA1)
          refine ⟨⟨j + 1, joinL nB L i j, by go_num, by omega, HNM1.out, (HNS.out.join hlt (by omega)).congr fun x y _ _ => ?_⟩, by simp [intOf]; omega⟩
          have h1 := HU.out
          have h2 := HV.out
          unfold JoinP
          grind

end Go.Proofs.Ytcmnmogmdhofcab.form

/- What may not be in one place, the program's own: what an instruction gives with what is needed behind it (near.joinGiven). -/
namespace Go.Proofs.Ytcmnmogmdhofcab.form
open Go.RowKit
set_option linter.unusedVariables false
attribute [local go_sem ↓] Go.wp_at_zero Go.wp_at_succ

theorem isMoved (i : LIns) (t : Nat) (w : World) :
    Calls Try.prog 109 #[i.val, .int .i64 t] w fun e w' => e = .returned (.bool ((i.op == 2) && (i.a == (t : Int)))) ∧ Below w.heap.size w w' := by
  unfold LIns.val
  have HB : Hid (∀ o : Obj, Below w.heap.size w (w.alloc o)) := fun o => (Below.refl _ _).alloc (Nat.le_refl _) _
  go_enter Try.func109, Try.ntmps109
  go_wp2
  · go_ret
    rename_i hne
    exact ⟨ret_bool (by simp [hne]), HB.out _⟩
  · go_ret
    rename_i heq
    exact ⟨ret_bool (by simp [heq]), HB.out _⟩

/-- By the truths of what is needed: an instruction gives the one where the other one is needed behind it. -/
def NearF (nB : Nat) (C : List LIns) (LN : List Bool) (k a b : Nat) : Prop :=
  givesT (C.getD k .zero) a = true ∧ ¬ ((C.getD k .zero).op = 2 ∧ (C.getD k .zero).a = (b : Int)) ∧ ∃ x, x ∈ goesI C.length (C.getD k .zero) k ∧ getF nB LN x.toNat b = true
def GivenP (P : Nat → Nat → Prop) (nB : Nat) (C : List LIns) (LN : List Bool) (k : Nat) (x y : Nat) : Prop := P x y ∨ (¬ x = y ∧ (NearF nB C LN k x y ∨ NearF nB C LN k y x))

set_option maxRecDepth 100000 in
set_option maxHeartbeats 1000000 in
theorem joinGiven (gn bx g b0 o0 c0 b1 o1 c1 : Nat) (B : List Bool) (C : List LIns) (LN L0 : List Bool) (P : Nat → Nat → Prop) (k : Nat) (w : World) (hB : B.length ≤ 12) (hC : C.length ≤ 40) (hxn : ¬ (gn ≤ bx ∧ bx < gn + 1 + B.length)) (hgn : g + C.length < gn) (hg0 : b0 < gn) (hg1 : b1 < gn) (h : Held w b0 o0 b1 o1 B C)
    (hok : ∀ k, k < C.length → InsOk B.length C.length (C.getD k .zero)) (hkn : ∀ k, k < C.length → knownB (C.getD k .zero).op = true) (hM : MatF g B.length C.length LN w) (hk : k < C.length) (hN : NM w gn bx B.length L0 w) (hS : NrS B.length L0 P) (hB1 : 1 ≤ B.length) :
    Calls Try.prog 62 #[progV b0 o0 B.length c0 b1 o1 C.length c1, .slice (some ⟨g, 0, none⟩) C.length C.length, .int .i64 k, .func (.func 60) #[] #[.pointer (some ⟨bx, 0, none⟩)]] w fun e w' => e = .returned (.tuple #[]) ∧ ∃ L, NM w gn bx B.length L w' ∧ NrS B.length L (GivenP P B.length C LN k) := by
  have hgl : gn + B.length < w.heap.size := by have := (hN.mat.row (B.length - 1) (by omega)).lt; omega
  obtain ⟨d0, d1, d2, d3, d4, d5⟩ := h.code k hk
  have HGO : Hid (∀ wx : World, Below w.heap.size w wx → Calls Try.prog 108 #[progV b0 o0 B.length c0 b1 o1 C.length c1, .int .i64 k] wx fun e w' => (∃ v, e = .returned v ∧ IntsAt wx.heap.size w' v (goesI C.length (C.getD k .zero) k)) ∧ Below wx.heap.size wx w') := fun wx hb => goesOn b0 o0 c0 b1 o1 c1 B C k wx hC (h.later hb) hk
  have HTH : Hid (∀ x, x ∈ goesI C.length (C.getD k .zero) k → 0 ≤ x ∧ x < C.length) := fun x hx => goes_there hx
  have hgi := goes_len C.length (C.getD k .zero) k
  have hdest : givesB (C.getD k .zero).op = true → 0 ≤ (C.getD k .zero).dest ∧ (C.getD k .zero).dest < B.length := (hok k hk).d
  have hP0 : isT (kd (C.getD k .zero).op 0) = givesB (C.getD k .zero).op := isT_gives (hkn k hk)
  have HH : Hid (∀ wx : World, Calls Try.prog 107 #[.int .i64 (C.getD k .zero).op] wx fun e w' => e = .returned (.tuple #[.bool (givesB (C.getD k .zero).op), .bool (isT (kd (C.getD k .zero).op 1)), .bool (isT (kd (C.getD k .zero).op 2))]) ∧ Below wx.heap.size wx w') := fun wx => by rw [← hP0]; exact has (C.getD k .zero).op wx
  have HJ : Hid (∀ (wx : World) (L : List Bool) (a b : Nat), NM w gn bx B.length L wx → a < B.length → b < B.length → Calls Try.prog 60 #[.int .i64 a, .int .i64 b, .pointer (some ⟨bx, 0, none⟩)] wx fun e w' => e = .returned (.tuple #[]) ∧ MatF gn B.length B.length (joinL B.length L a b) w' ∧ Apart gn (gn + 1 + B.length) wx w') :=
    fun wx L a b hm ha hb => Go.Proofs.Ytcmnmogmdhofcab.form.join gn bx B.length a b L wx hB hm.box hxn hm.mat ha hb
  unfold GivenP NearF
  obtain ⟨i, hi⟩ : ∃ i, i = C.getD k .zero := ⟨_, rfl⟩
  rw [← hi] at d0 d1 d2 d3 d4 d5 HGO HTH HH hgi hdest
  rw [← hi]
  obtain ⟨N, hN9⟩ : ∃ N, N = goesI C.length i k := ⟨_, rfl⟩
  rw [← hN9] at HGO HTH hgi
  rw [← hN9]
  clear hi hN9 hP0
  have hlt1 := h.lt1
  have HM : Hid (MatF g B.length C.length LN w) := hM
  have HN0 : Hid (NM w gn bx B.length L0 w) := hN
  have HS0 : Hid (NrS B.length L0 P) := hS
  have y0 : (0 : Int) ≤ (k : Int) := by omega
  have y1 : (k : Int) < (C.length : Int) := by omega
  have y2 : (C.length : Int) ≤ 40 := by omega
  have x2 : (B.length : Int) ≤ 12 := by omega
  clear hM hok hkn h hN hS
  unfold progV
  obtain ⟨P1, hP1⟩ : ∃ x, x = isT (kd i.op 1) := ⟨_, rfl⟩
  obtain ⟨P2, hP2⟩ : ∃ x, x = isT (kd i.op 2) := ⟨_, rfl⟩
  rw [← hP1, ← hP2] at HH
  clear hP1 hP2
  rcases Bool.eq_false_or_eq_true (givesB i.op) with hgv | hgv
  case inr =>
    rw [hgv] at HH
    have HGV : Hid (givesB i.op = false) := hgv
    clear hgv hdest
    go_enter Try.func62, Try.ntmps62
    go_wp2_with (go_at_call 107; refine (HH.out _).mono ?_; rintro e w1 ⟨rfl, hb1⟩; have HB1 : Hid (Below w.heap.size w w1) := ((((Below.refl _ _).alloc (Nat.le_refl _) _).alloc (by simp) _).trans (hb1.mono (by simp; omega))))
    refine bodyPost_ret (results_none rfl _ _ _) rfl ?_
    refine ⟨rfl, L0, HN0.out.below HB1.out, HS0.out.congr fun x y _ _ => ?_⟩
    unfold givesT
    rw [HGV.out]
    simp
  rw [hgv] at HH
  obtain ⟨hd0, hd1⟩ := hdest hgv
  obtain ⟨D, hD⟩ : ∃ D : Nat, i.dest = D := Int.eq_ofNat_of_zero_le hd0
  have hDB : D < B.length := by omega
  rw [hD] at d1
  have HD : Hid (i.dest = (D : Int)) := hD
  clear hD hd0 hd1
  have HGV : Hid (givesB i.op = true) := hgv
  clear hgv hdest
  go_enter Try.func62, Try.ntmps62
  go_wp2_with (first
      | (go_at_call 107; refine (HH.out _).mono ?_; rintro e w1 ⟨rfl, hb1⟩; have HB1 : Hid (Below w.heap.size w w1) := ((((Below.refl _ _).alloc (Nat.le_refl _) _).alloc (by simp) _).trans (hb1.mono (by simp; omega))); have f0 : w1.cell? ⟨w.heap.size + 1, 0, none⟩ = some (.int .i64 i.op) := step_cell hb1 (by simp [go_sem]); have f1 : w1.cell? ⟨w.heap.size + 1, 1, none⟩ = some (.int .i64 D) := step_cell hb1 (by simp [go_sem]); have f2 : w1.cell? ⟨w.heap.size + 1, 2, none⟩ = some (.int .i64 i.a) := step_cell hb1 (by simp [go_sem]); have f3 : w1.cell? ⟨w.heap.size + 1, 3, none⟩ = some (.int .i64 i.b) := step_cell hb1 (by simp [go_sem]); have f4 : w1.cell? ⟨w.heap.size + 1, 4, none⟩ = some (.int .i64 i.c) := step_cell hb1 (by simp [go_sem]); have f5 : w1.cell? ⟨w.heap.size + 1, 5, none⟩ = some (.int .u32 i.n) := step_cell hb1 (by simp [go_sem]); have p0 : w1.cell? ⟨w.heap.size, 0, none⟩ = some (.slice (some ⟨b0, o0, none⟩) B.length c0) := step_cell hb1 (by simp [go_sem]); have p1 : w1.cell? ⟨w.heap.size, 1, none⟩ = some (.slice (some ⟨b1, o1, none⟩) C.length c1) := step_cell hb1 (by simp [go_sem]); clear hb1)
      | (go_at_call 108; refine (HGO.out _ HB1.out).mono ?_; rintro e w3 ⟨⟨nv, rfl, hnv⟩, hb3⟩; have HNV : Hid _ := hnv; obtain ⟨nao, ncap, rfl, -⟩ := hnv; have HB3 : Hid (Below w.heap.size w w3) := step_below hb3 HB1.out; have q0 := step_cell hb3 f0; have q1 := step_cell hb3 f1; have q2 := step_cell hb3 f2; have q3 := step_cell hb3 f3; have q4 := step_cell hb3 f4; have q5 := step_cell hb3 f5; have hz1 : w.heap.size + 1 < w1.heap.size := World.block_lt_of_cell? w1 _ f0; have hz13 := hb3.size; clear hb3))
  have HIM : Hid (∀ (t : Nat) (wx : World), Calls Try.prog 109 #[.agg #[.int .i64 i.op, .int .i64 D, .int .i64 i.a, .int .i64 i.b, .int .i64 i.c, .int .u32 i.n], .int .i64 t] wx fun e w' => e = .returned (.bool ((i.op == 2) && (i.a == (t : Int)))) ∧ Below wx.heap.size wx w') := fun t wx => by
    have := isMoved i t wx
    unfold LIns.val at this
    rwa [HD.out] at this
  have HJ3 : Hid (∀ (wx : World) (L : List Bool) (a b : Nat), NM w3 gn bx B.length L wx → a < B.length → b < B.length → Calls Try.prog 60 #[.int .i64 a, .int .i64 b, .pointer (some ⟨bx, 0, none⟩)] wx fun e w' => e = .returned (.tuple #[]) ∧ MatF gn B.length B.length (joinL B.length L a b) w' ∧ Apart gn (gn + 1 + B.length) wx w') :=
    fun wx L a b hm ha hb => Go.Proofs.Ytcmnmogmdhofcab.form.join gn bx B.length a b L wx hB hm.box hxn hm.mat ha hb
  have HM3 : Hid (MatF g B.length C.length LN w3) := HM.out.below HB3.out
  have HN3 : Hid (NM w3 gn bx B.length L0 w3) := ⟨Apart.refl _ _ _, (HN0.out.below HB3.out).mat, (HN0.out.below HB3.out).box⟩
  have HNW : Hid (∀ (wx : World) (L : List Bool), NM w3 gn bx B.length L wx → NM w gn bx B.length L wx) := fun wx L hm => ⟨(Apart.of_below HB3.out).trans hm.bel, hm.mat, hm.box⟩
  have HQ : Hid (∀ (wx : World) (L : List Bool), NM w3 gn bx B.length L wx → wx.cell? ⟨w.heap.size + 1, 0, none⟩ = some (.int .i64 i.op) ∧ wx.cell? ⟨w.heap.size + 1, 1, none⟩ = some (.int .i64 D) ∧ wx.cell? ⟨w.heap.size + 1, 2, none⟩ = some (.int .i64 i.a) ∧ wx.cell? ⟨w.heap.size + 1, 3, none⟩ = some (.int .i64 i.b) ∧ wx.cell? ⟨w.heap.size + 1, 4, none⟩ = some (.int .i64 i.c) ∧ wx.cell? ⟨w.heap.size + 1, 5, none⟩ = some (.int .u32 i.n)) :=
    fun wx L hm => ⟨hm.bel.cell q0 (by dsimp only; omega), hm.bel.cell q1 (by dsimp only; omega), hm.bel.cell q2 (by dsimp only; omega), hm.bel.cell q3 (by dsimp only; omega), hm.bel.cell q4 (by dsimp only; omega), hm.bel.cell q5 (by dsimp only; omega)⟩
  have HR : Hid (∀ (wx : World) (L : List Bool) (Y : Nat), NM w3 gn bx B.length L wx → Y < C.length → wx.cell? ⟨g, Y, none⟩ = some (.slice (some ⟨g + 1 + Y, 0, none⟩) B.length B.length) ∧ ∀ t, t < B.length → wx.cell? ⟨g + 1 + Y, t, none⟩ = some (.bool (getF B.length LN Y t))) :=
    fun wx L Y hm hY => ⟨hm.bel.cell (HM3.out.top Y hY) (by dsimp only; omega), fun t ht => hm.bel.cell (HM3.out.cell hY ht) (by dsimp only; omega)⟩
  have HW3 : Hid (∀ (wx : World) (L : List Bool), NM w3 gn bx B.length L wx → 0 < N.length → ∃ gb, nao = some ⟨gb, 0, none⟩ ∧ gb < w3.heap.size ∧ ∀ q, q < N.length → wx.cell? ⟨gb, q, none⟩ = some (.int .i64 (N.getD q 0))) := by
    intro wx L hm h0
    obtain ⟨_, _, he, hh⟩ := HNV.out
    simp at he
    obtain ⟨rfl, rfl⟩ := he
    obtain ⟨gb, e1, e2, e3, e4⟩ := hh h0
    exact ⟨gb, e1, e3, fun q hq => hm.bel.cell (e4 q hq) (by dsimp only; omega)⟩
  have z3 : (N.length : Int) ≤ 2 := by omega
  clear HNV HB1 p0 p1 f0 f1 f2 f3 f4 f5 d0 d1 d2 d3 d4 d5 q0 q1 q2 q3 q4 q5 HJ
  go_loopw [34] (fun jv wr => ∃ (j : Nat) (L : List Bool), jv = .int .i64 j ∧ j ≤ N.length ∧ NM w3 gn bx B.length L wr ∧ NrS B.length L (JoinP P D (fun t => (∃ q, q < j ∧ getF B.length LN (N.getD q 0).toNat t = true) ∧ ¬ (i.op = 2 ∧ i.a = (t : Int))))) (fun jv _ => N.length - (intOf jv).toNat)
  case atStart => exact ⟨0, L0, rfl, by omega, HN3.out, HS0.out.congr fun x y _ _ => by unfold JoinP; grind⟩
  case round =>
    obtain ⟨j, L, rfl, hj, hnm, hns⟩ := hrel
    have HNM : Hid (NM w3 gn bx B.length L wr) := hnm
    have HNS : Hid (NrS B.length L (JoinP P D (fun t => (∃ q, q < j ∧ getF B.length LN (N.getD q 0).toNat t = true) ∧ ¬ (i.op = 2 ∧ i.a = (t : Int))))) := hns
    clear hnm hns
    by_cases hjl : j < N.length
    case neg =>
      have y9 : ¬ (j : Int) < (N.length : Int) := by omega
      go_wp2
      go_end0
      refine ⟨rfl, L, HNW.out _ _ HNM.out, HNS.out.congr fun x y _ _ => ?_⟩
      obtain rfl : j = N.length := by omega
      have hmem : ∀ b : Nat, (∃ q, q < N.length ∧ getF B.length LN (N.getD q 0).toNat b = true) ↔ ∃ x, x ∈ N ∧ getF B.length LN x.toNat b = true := by
        intro b
        constructor
        · rintro ⟨q, hq, hg⟩
          exact ⟨N.getD q 0, by simp [List.getD, hq], hg⟩
        · rintro ⟨x, hx, hg⟩
          obtain ⟨q, hq, rfl⟩ := List.getElem_of_mem hx
          exact ⟨q, hq, by rw [show N.getD q 0 = N[q] by simp [List.getD, hq]]; exact hg⟩
      have hgt : ∀ b : Nat, givesT i b = true ↔ b = D := by
        intro b
        unfold givesT
        rw [HGV.out, HD.out]
        simp
        omega
      unfold JoinP
      simp only [hmem, hgt]
      grind
    obtain ⟨gb, rfl, hgb2, hgbc⟩ := HW3.out wr L HNM.out (by omega)
    have nj := hgbc j hjl
    have hmem : N.getD j 0 ∈ N := by simp [List.getD, hjl]
    have hyb := HTH.out _ hmem
    obtain ⟨Y, hY⟩ : ∃ Y : Nat, N.getD j 0 = Y := Int.eq_ofNat_of_zero_le hyb.1
    rw [hY] at nj hyb
    have HY : Hid (N.getD j 0 = (Y : Int)) := hY
    clear hgbc hY hmem
    have hYC : Y < C.length := by omega
    obtain ⟨m1, -⟩ := HR.out wr L Y HNM.out hYC
    have y8 : (j : Int) < (N.length : Int) := by omega
    have y7 : (0 : Int) ≤ (j : Int) := by omega
    have y6 : (0 : Int) ≤ (Y : Int) := by omega
    have y5 : (Y : Int) < (C.length : Int) := by omega
    go_wp2
    go_loopw [43] (fun tv wr2 => ∃ (t : Nat) (L : List Bool), tv = .int .i64 t ∧ t ≤ B.length ∧ NM w3 gn bx B.length L wr2 ∧ NrS B.length L (JoinP P D (fun t' => ((∃ q, q < j ∧ getF B.length LN (N.getD q 0).toNat t' = true) ∨ (t' < t ∧ getF B.length LN Y t' = true)) ∧ ¬ (i.op = 2 ∧ i.a = (t' : Int))))) (fun tv _ => B.length - (intOf tv).toNat)
    case atStart => exact ⟨0, L, rfl, by omega, HNM.out, HNS.out.congr fun x y _ _ => by unfold JoinP; grind⟩
    case round =>
      clear HNM HNS m1 nj
      obtain ⟨t, L, rfl, ht, hnm, hns⟩ := hrel
      have HNM : Hid (NM w3 gn bx B.length L wr) := hnm
      have HNS : Hid (NrS B.length L (JoinP P D (fun t' => ((∃ q, q < j ∧ getF B.length LN (N.getD q 0).toNat t' = true) ∨ (t' < t ∧ getF B.length LN Y t' = true)) ∧ ¬ (i.op = 2 ∧ i.a = (t' : Int))))) := hns
      clear hnm hns
      by_cases htl : t < B.length
      case neg =>
        have z9 : ¬ (t : Int) < (B.length : Int) := by omega
        go_wp2
        go_roundw
        case rel =>
          refine ⟨j + 1, L, by go_num, by omega, HNM.out, HNS.out.congr fun x y hx hy => ?_⟩
          have hex : ∀ b : Nat, (∃ q, q < j + 1 ∧ getF B.length LN (N.getD q 0).toNat b = true) ↔ (∃ q, q < j ∧ getF B.length LN (N.getD q 0).toNat b = true) ∨ getF B.length LN Y b = true := by
            intro b
            have e : (N.getD j 0).toNat = Y := by rw [HY.out]; simp
            constructor
            · rintro ⟨q, hq, hg⟩
              by_cases hqj : q < j
              · exact Or.inl ⟨q, hqj, hg⟩
              · obtain rfl : q = j := by omega
                rw [e] at hg
                exact Or.inr hg
            · rintro (⟨q, hq, hg⟩ | hg)
              · exact ⟨q, by omega, hg⟩
              · exact ⟨j, by omega, by rw [e]; exact hg⟩
          unfold JoinP
          simp only [hex]
          have hxt : x < t := by omega
          have hyt : y < t := by omega
          simp only [hxt, hyt, true_and]
        case measure => simp [intOf]; omega
      have z8 : (t : Int) < (B.length : Int) := by omega
      have z7 : (0 : Int) ≤ (t : Int) := by omega
      have m2 := (HR.out wr L Y HNM.out hYC).2 t htl
      obtain ⟨q0, q1, q2, q3, q4, q5⟩ := HQ.out wr L HNM.out
      obtain ⟨u, hu⟩ : ∃ u, u = getF B.length LN Y t := ⟨_, rfl⟩
      rw [← hu] at m2
      have HU : Hid (getF B.length LN Y t = u) := hu.symm
      clear hu
      obtain ⟨mv, hmv⟩ : ∃ mv, mv = ((i.op == 2) && (i.a == (t : Int))) := ⟨_, rfl⟩
      have HMV : Hid (((i.op == 2) && (i.a == (t : Int))) = mv) := hmv.symm
      clear hmv
      have hzz : w.heap.size + 1 < wr.heap.size := World.block_lt_of_cell? wr _ q0
      cases u with
      | false =>
        go_wp2
        refine ⟨⟨t + 1, L, by go_num, by omega, HNM.out, HNS.out.congr fun x y _ _ => ?_⟩, by simp [intOf]; omega⟩
        have := HU.out
        have e : ∀ b : Nat, (b < t + 1 ∧ getF B.length LN Y b = true) ↔ (b < t ∧ getF B.length LN Y b = true) := by grind
        unfold JoinP
        simp only [e]
      | true =>
        cases mv with
        | true =>
          go_wp2_with (go_at_call 109; refine (HIM.out t _).mono ?_; rw [HMV.out]; rintro e w5 ⟨rfl, hb5⟩; have HN5 : Hid (NM w3 gn bx B.length L w5) := HNM.out.below hb5; clear hb5)
          refine ⟨⟨t + 1, L, by go_num, by omega, HN5.out, HNS.out.congr fun x y _ _ => ?_⟩, by simp [intOf]; omega⟩
          have h1 := HMV.out
          simp only [Bool.and_eq_true, beq_iff_eq] at h1
          have e : ∀ b : Nat, (((∃ q, q < j ∧ getF B.length LN (N.getD q 0).toNat b = true) ∨ (b < t ∧ getF B.length LN Y b = true)) ∧ ¬ (i.op = 2 ∧ i.a = (b : Int))) ↔ (((∃ q, q < j ∧ getF B.length LN (N.getD q 0).toNat b = true) ∨ (b < t + 1 ∧ getF B.length LN Y b = true)) ∧ ¬ (i.op = 2 ∧ i.a = (b : Int))) := by
            intro b
            by_cases hb : b = t
            · subst hb; simp [h1]
            · rw [show (b < t + 1) ↔ (b < t) by omega]
          unfold JoinP
          simp only [e]
        | false =>
          go_wp2_with (first
            | (go_at_call 109; refine (HIM.out t _).mono ?_; rw [HMV.out]; rintro e w5 ⟨rfl, hb5⟩; have HN5 : Hid (NM w3 gn bx B.length L w5) := HNM.out.below hb5; clear hb5; clear q0 q1 q2 q3 q4 q5; obtain ⟨q0, q1, q2, q3, q4, q5⟩ := HQ.out w5 L HN5.out)
            | (go_at_call 60; refine (HJ3.out _ L D t HN5.out hDB htl).mono ?_; rintro e w6 ⟨rfl, hM6, hA6⟩; have HN6 : Hid (NM w3 gn bx B.length (joinL B.length L D t) w6) := HN5.out.join hxn hM6 hA6; clear hM6 hA6))
          refine ⟨⟨t + 1, joinL B.length L D t, by go_num, by omega, HN6.out, (HNS.out.join hDB htl).congr fun x y _ _ => ?_⟩, by simp [intOf]; omega⟩
          have h1 := HMV.out
          have h2 := HU.out
          simp only [Bool.and_eq_false_iff, beq_eq_false_iff_ne, ne_eq] at h1
          have e : ∀ b : Nat, ((((∃ q, q < j ∧ getF B.length LN (N.getD q 0).toNat b = true) ∨ (b < t ∧ getF B.length LN Y b = true)) ∧ ¬ (i.op = 2 ∧ i.a = (b : Int))) ∨ b = t) ↔ (((∃ q, q < j ∧ getF B.length LN (N.getD q 0).toNat b = true) ∨ (b < t + 1 ∧ getF B.length LN Y b = true)) ∧ ¬ (i.op = 2 ∧ i.a = (b : Int))) := by
            intro b
            by_cases hb : b = t
            · subst hb
              simp only [h2, or_true, true_iff, Nat.lt_add_one, true_and]
              grind
            · rw [show (b < t + 1) ↔ (b < t) by omega]
              simp only [hb, or_false]
          unfold JoinP
          simp only [e]

end Go.Proofs.Ytcmnmogmdhofcab.form

/- What the program tells of what may not be in one place (near.Of). -/
namespace Go.Proofs.Ytcmnmogmdhofcab.form
open Go.RowKit
set_option linter.unusedVariables false
attribute [local go_sem ↓] Go.wp_at_zero Go.wp_at_succ

theorem nearF_iff {nB : Nat} {C : List LIns} {LN : List Bool} (hS : Snd nB C LN) (hC : Cls nB C LN) (hok : ∀ k, k < C.length → InsOk nB C.length (C.getD k .zero)) {k a b : Nat} (hk : k < C.length) (hb : b < nB) : NearF nB C LN k a b ↔ NearAt C k a b := by
  unfold NearF NearAt
  refine and_congr Iff.rfl (and_congr Iff.rfl ?_)
  constructor
  · rintro ⟨x, hx, ht⟩
    have h2 := goes_there hx
    unfold goesI at hx
    exact ⟨x.toNat, List.mem_map.2 ⟨x, (List.mem_filter.1 hx).1, rfl⟩, (flat_need hS hC (by omega) hb).1 ht⟩
  · rintro ⟨y, hy, hn⟩
    obtain ⟨x, hx, rfl⟩ := List.mem_map.1 hy
    have hb0 := nexts_bd (hok k hk) hk x hx
    have hl := need_lt hn
    refine ⟨x, ?_, (flat_need hS hC hl hb).2 hn⟩
    unfold goesI
    refine List.mem_filter.2 ⟨hx, ?_⟩
    unfold thereB
    simp
    omega

/-- What is near by what is needed first and by the instructions below k. -/
def AllP (nB : Nat) (C : List LIns) (LN : List Bool) (k : Nat) (x y : Nat) : Prop :=
  ¬ x = y ∧ ((getF nB LN 0 x = true ∧ getF nB LN 0 y = true) ∨ ∃ k', k' < k ∧ (NearF nB C LN k' x y ∨ NearF nB C LN k' y x))

theorem AllP.step {nB : Nat} {C : List LIns} {LN : List Bool} {k x y : Nat} : GivenP (AllP nB C LN k) nB C LN k x y ↔ AllP nB C LN (k + 1) x y := by
  unfold GivenP AllP
  constructor
  · rintro (⟨h1, h2 | ⟨k', hk, h2⟩⟩ | ⟨h1, h2⟩)
    · exact ⟨h1, Or.inl h2⟩
    · exact ⟨h1, Or.inr ⟨k', by omega, h2⟩⟩
    · exact ⟨h1, Or.inr ⟨k, by omega, h2⟩⟩
  · rintro ⟨h1, h2 | ⟨k', hk, h2⟩⟩
    · exact Or.inl ⟨h1, Or.inl h2⟩
    · by_cases e : k' < k
      · exact Or.inl ⟨h1, Or.inr ⟨k', e, h2⟩⟩
      · obtain rfl : k' = k := by omega
        exact Or.inr ⟨h1, h2⟩

theorem AllP.near {nB : Nat} {C : List LIns} {LN : List Bool} (hS : Snd nB C LN) (hC : Cls nB C LN) (hok : ∀ k, k < C.length → InsOk nB C.length (C.getD k .zero)) (hl : 1 ≤ C.length) {x y : Nat} (hx : x < nB) (hy : y < nB) : AllP nB C LN C.length x y ↔ Near C x y := by
  unfold AllP Near
  refine and_congr (by omega) (or_congr (and_congr (flat_need hS hC (by omega) hx) (flat_need hS hC (by omega) hy)) ?_)
  constructor
  · rintro ⟨k, hk, h⟩
    exact ⟨k, hk, h.imp (nearF_iff hS hC hok hk hy).1 (nearF_iff hS hC hok hk hx).1⟩
  · rintro ⟨k, hk, h⟩
    exact ⟨k, hk, h.imp (nearF_iff hS hC hok hk hy).2 (nearF_iff hS hC hok hk hx).2⟩

theorem Apart.row {lo hi : Nat} {w w' : World} {b : Nat} {t : TypeId} {cs : List Value} (h : Apart lo hi w w') (hr : Row w b t cs) (hn : ¬ (lo ≤ b ∧ b < hi)) : Row w' b t cs := by
  have := hr.lt
  unfold Row at *
  rw [h.block b this hn]; exact hr
theorem Apart.matF {lo hi : Nat} {w w' : World} {g nB nC : Nat} {L : List Bool} (h : Apart lo hi w w') (hM : MatF g nB nC L w) (hg : g + nC < lo) : MatF g nB nC L w' :=
  ⟨hM.len, fun k hk => h.cell (hM.top k hk) (by dsimp only; omega), fun k hk => h.row (hM.row k hk) (by omega)⟩

/-- The answer of near.Of where the program may be. -/
def OwnNear (nB : Nat) (C : List LIns) (e : Ending) (w : World) : Prop := ∃ gn L, e = .returned (.tuple #[.slice (some ⟨gn, 0, none⟩) nB nB, .int .i64 0]) ∧ MatF gn nB nB L w ∧ NrS nB L (fun x y => Near C x y)

set_option maxRecDepth 100000 in
set_option maxHeartbeats 1000000 in
theorem near_yes (b0 o0 c0 b1 o1 c1 : Nat) (B : List Bool) (C : List LIns) (w : World) (h : Held w b0 o0 b1 o1 B C) (hn : ∀ i, i < C.length → 0 ≤ (C.getD i .zero).n ∧ (C.getD i .zero).n < 4294967296) (hm : refMayB B C = true) :
    Calls Try.prog 23 #[progV b0 o0 B.length c0 b1 o1 C.length c1] w fun e w' => OwnNear B.length C e w' ∧ Below w.heap.size w w' := by
  have hs : sizesB B C = true := by unfold refMayB at hm; simp only [Bool.and_eq_true] at hm; exact hm.1
  obtain ⟨s1, s2, s3, s4⟩ := sizes_of hs
  have HOWN : Hid (∀ wx : World, Below w.heap.size w wx → Calls Try.prog 58 #[progV b0 o0 B.length c0 b1 o1 C.length c1] wx fun e w' => OwnAnsF wx.heap.size B.length C e w' ∧ Below wx.heap.size wx w') := fun wx hb => own_yesF b0 o0 c0 b1 o1 c1 B C wx (h.later hb) hn hm
  have HNO : Hid (∀ wx : World, Calls Try.prog 59 #[.int .i64 B.length] wx fun e w' => e = .returned (.slice (some ⟨wx.heap.size, 0, none⟩) B.length B.length) ∧ MatF wx.heap.size B.length B.length (List.replicate (B.length * B.length) false) w' ∧ Below wx.heap.size wx w') := fun wx => none5 B.length wx s2
  have HOK : Hid (∀ k, k < C.length → InsOk B.length C.length (C.getD k .zero)) := all_insOk hm hn
  have HKN : Hid (∀ k, k < C.length → knownB (C.getD k .zero).op = true) := all_known hm
  have HH : Hid (∀ wx : World, Below w.heap.size w wx → Held wx b0 o0 b1 o1 B C) := fun wx hb => h.later hb
  have hh0 := h.lt0
  have hh1 := h.lt1
  have y2 : (C.length : Int) ≤ 40 := by omega
  have y3 : (B.length : Int) ≤ 12 := by omega
  have y4 : (1 : Int) ≤ (C.length : Int) := by omega
  clear h hn hm hs
  unfold progV
  go_enter Try.func23, Try.ntmps23
  go_wp2_with (first
    | (go_at_call 58; refine (HOWN.out _ ?_).mono ?_; (exact (Below.refl _ _).alloc (Nat.le_refl _) _); rintro e w1 ⟨⟨g, LN, hg, rfl, hM1, hS1, hC1⟩, hb1⟩; have p0 : w1.cell? ⟨w.heap.size, 0, none⟩ = some (.slice (some ⟨b0, o0, none⟩) B.length c0) := step_cell hb1 (by simp [go_sem]); have p1 : w1.cell? ⟨w.heap.size, 1, none⟩ = some (.slice (some ⟨b1, o1, none⟩) C.length c1) := step_cell hb1 (by simp [go_sem]); have HB1 : Hid (Below w.heap.size w w1) := over_alloc hb1; have HM1 : Hid (MatF g B.length C.length LN w1) := hM1; have HS1 : Hid (Snd B.length C LN) := hS1; have HC1 : Hid (Cls B.length C LN) := hC1; clear hb1 hM1 hS1 hC1)
    | (go_at_call 59; refine (HNO.out _).mono ?_; rintro e w2 ⟨rfl, hM2, hb2⟩; have HM2 : Hid (MatF w1.heap.size B.length B.length (List.replicate (B.length * B.length) false) w2) := hM2; have HB2 : Hid (Below w.heap.size w w2) := step_below hb2 HB1.out; have HG2 : Hid (MatF g B.length C.length LN w2) := HM1.out.below hb2; have m0 := (HM1.out.below hb2).top 0 (by omega); have r0 := step_cell hb2 p0; have r1 := step_cell hb2 p1; have hgz : g + C.length < w1.heap.size := by (have := (HM1.out.row (C.length - 1) (by omega)).lt; omega)
       have hz2 : w1.heap.size + B.length < w2.heap.size := by (have := (hM2.row (B.length - 1) (by omega)).lt; omega)
       have hz1 : w.heap.size < w1.heap.size := World.block_lt_of_cell? w1 _ p0
       have hgw : w.heap.size < w2.heap.size := World.block_lt_of_cell? w2 _ r0
       have hgw2 : g < w2.heap.size := World.block_lt_of_cell? w2 _ m0
       clear hM2 hb2 p0 p1
       have HJF : Hid (∀ wx : World, Below w2.heap.size w2 wx → wx.cell? ⟨w2.heap.size, 0, none⟩ = some (.slice (some ⟨w1.heap.size, 0, none⟩) B.length B.length) → Calls Try.prog 61 #[.slice (some ⟨g + 1, 0, none⟩) B.length B.length, .func (.func 60) #[] #[.pointer (some ⟨w2.heap.size, 0, none⟩)]] wx fun e w' => e = .returned (.tuple #[]) ∧ ∃ L, NM wx w1.heap.size w2.heap.size B.length L w' ∧ NrS B.length L (AllP B.length C LN 0)) := (fun wx hb hx => by
         refine (joinFirst w1.heap.size w2.heap.size (g + 1) B.length (rowF B.length LN 0) _ _ wx s2 (by omega) (by omega) (fun j hj => by rw [getD_rowF hj]; exact step_cell hb (HG2.out.cell (k := 0) (by omega) hj)) ⟨Apart.refl _ _ _, HM2.out.below hb, hx⟩ (NrS.nothing _)).mono ?_
         rintro e w' ⟨rfl, L, h1, h2⟩
         refine ⟨rfl, L, h1, h2.congr fun x y hx hy => ?_⟩
         unfold FirstP AllP
         rw [getD_rowF hx, getD_rowF hy]
         simp [hx, hy]))
    | (go_at_call 61; refine (HJF.out _ ?_ ?_).mono ?_; (exact (Below.refl _ _).alloc (Nat.le_refl _) _); (simp [go_sem]); rintro e w3 ⟨rfl, L, hnm, hns⟩; have HNM : Hid (NM (w2.alloc (.cells #[.slice (some ⟨w1.heap.size, 0, none⟩) B.length B.length] 31)) w1.heap.size w2.heap.size B.length L w3) := hnm; have HNS : Hid (NrS B.length L (AllP B.length C LN 0)) := hns; have r2 : w3.cell? ⟨w.heap.size, 0, none⟩ = some (.slice (some ⟨b0, o0, none⟩) B.length c0) := hnm.bel.cell (step_cell ((Below.refl _ _).alloc (Nat.le_refl _) _) r0) (by dsimp only; omega); have r3 : w3.cell? ⟨w.heap.size, 1, none⟩ = some (.slice (some ⟨b1, o1, none⟩) C.length c1) := hnm.bel.cell (step_cell ((Below.refl _ _).alloc (Nat.le_refl _) _) r1) (by dsimp only; omega); clear hnm hns))
  obtain ⟨W, hW⟩ : ∃ W, W = w2.alloc (.cells #[.slice (some ⟨w1.heap.size, 0, none⟩) B.length B.length] 31) := ⟨_, rfl⟩
  rw [← hW] at HNM
  have hbW : Below w2.heap.size w2 W := by rw [hW]; exact (Below.refl _ _).alloc (Nat.le_refl _) _
  have HBW : Hid (Below w.heap.size w W) := step_below hbW HB2.out
  have HGW : Hid (MatF g B.length C.length LN W) := HG2.out.below hbW
  have t0 := step_cell hbW r0
  have t1 := step_cell hbW r1
  have hzW : w2.heap.size ≤ W.heap.size := hbW.size
  obtain ⟨gn, hgn⟩ : ∃ gn, gn = w1.heap.size := ⟨_, rfl⟩
  obtain ⟨bx, hbx⟩ : ∃ bx, bx = w2.heap.size := ⟨_, rfl⟩
  rw [← hgn, ← hbx] at HNM
  rw [← hgn] at hgz hz2 hz1
  rw [← hbx] at hz2 hzW hgw hgw2
  rw [← hbx]
  have HC0 : Hid (∀ (wx : World) (L : List Bool), NM W gn bx B.length L wx → wx.cell? ⟨w.heap.size, 0, none⟩ = some (.slice (some ⟨b0, o0, none⟩) B.length c0) ∧ wx.cell? ⟨w.heap.size, 1, none⟩ = some (.slice (some ⟨b1, o1, none⟩) C.length c1)) :=
    fun wx L hm => ⟨hm.bel.cell t0 (by dsimp only; omega), hm.bel.cell t1 (by dsimp only; omega)⟩
  have HBE : Hid (∀ (wx : World) (L : List Bool), NM W gn bx B.length L wx → Below w.heap.size w wx) := fun wx L hm => HBW.out.trans ((hm.bel.below (by omega)).mono (by omega))
  have HJG : Hid (∀ (wx : World) (L : List Bool) (k : Nat), NM W gn bx B.length L wx → k < C.length → NrS B.length L (AllP B.length C LN k) → Calls Try.prog 62 #[progV b0 o0 B.length c0 b1 o1 C.length c1, .slice (some ⟨g, 0, none⟩) C.length C.length, .int .i64 k, .func (.func 60) #[] #[.pointer (some ⟨bx, 0, none⟩)]] wx fun e w' => e = .returned (.tuple #[]) ∧ ∃ L', NM W gn bx B.length L' w' ∧ NrS B.length L' (AllP B.length C LN (k + 1))) := fun wx L k hm hk hs => by
    refine (joinGiven gn bx g b0 o0 c0 b1 o1 c1 B C LN L (AllP B.length C LN k) k wx s2 s4 (by omega) (by omega) (by omega) (by omega) (HH.out _ (HBE.out wx L hm)) HOK.out HKN.out (hm.bel.matF HGW.out (by omega)) hk ⟨Apart.refl _ _ _, hm.mat, hm.box⟩ hs s1).mono ?_
    rintro e w' ⟨rfl, L', h1, h2⟩
    exact ⟨rfl, L', ⟨hm.bel.trans h1.bel, h1.mat, h1.box⟩, h2.congr fun x y _ _ => AllP.step⟩
  clear HJF HNO HOWN HB1 HM1 HM2 HB2 HG2 m0 r0 r1 r2 r3 t0 t1 hW hbW hgn hbx hg
  unfold progV at HJG
  go_loopw [30] (fun kv wr => ∃ (k : Nat) (L : List Bool), kv = .int .i64 k ∧ k ≤ C.length ∧ NM W gn bx B.length L wr ∧ NrS B.length L (AllP B.length C LN k)) (fun kv _ => C.length - (intOf kv).toNat)
  case atStart => exact ⟨0, L, rfl, by omega, HNM.out, HNS.out⟩
  case round =>
    clear HNM HNS
    obtain ⟨k, L, rfl, hk, hnm, hns⟩ := hrel
    have HNM : Hid (NM W gn bx B.length L wr) := hnm
    have HNS : Hid (NrS B.length L (AllP B.length C LN k)) := hns
    obtain ⟨p0, p1⟩ := HC0.out wr L hnm
    have px := hnm.box
    clear hnm hns
    by_cases hlt : k < C.length
    case neg =>
      have y9 : ¬ (k : Int) < (C.length : Int) := by omega
      obtain rfl : k = C.length := by omega
      go_wp2
      refine bodyPost_ret (v := .tuple #[.slice (some ⟨gn, 0, none⟩) B.length B.length, .int .i64 0]) ?_ rfl ⟨⟨gn, L, rfl, HNM.out.mat, HNS.out.congr fun x y hx hy => AllP.near HS1.out HC1.out HOK.out s3 hx hy⟩, HBE.out _ _ HNM.out⟩
      simp [results, Try.results23, go_sem]
    have y8 : (k : Int) < (C.length : Int) := by omega
    have y7 : (0 : Int) ≤ (k : Int) := by omega
    go_wp2_with (go_at_call 62; refine (HJG.out _ L k HNM.out hlt HNS.out).mono ?_; rintro e w5 ⟨rfl, L', h1, h2⟩; have HN5 : Hid (NM W gn bx B.length L' w5) := h1; have HS5 : Hid (NrS B.length L' (AllP B.length C LN (k + 1))) := h2; clear h1 h2)
    exact ⟨⟨k + 1, L', by go_num, by omega, HN5.out, HS5.out⟩, by simp [intOf]; omega⟩

/-- Where it may not be. -/
theorem near_no (v : Value) (B : List Bool) (C : List LIns) (w : World) (h : ProgIs w v B C) (hm : refMayB B C = false) :
    Calls Try.prog 23 #[v] w fun e w' => e = .returned (.tuple #[.slice none 0 0, .int .i64 2]) ∧ Below w.heap.size w w' := by
  have h0 := h
  obtain ⟨⟨a0, c0, a1, c1, rfl, -⟩, -, -, -⟩ := h0
  have HO : Hid (∀ wx : World, Below w.heap.size w wx → Calls Try.prog 58 #[.agg #[.slice a0 B.length c0, .slice a1 C.length c1]] wx fun e w' => e = .returned (.tuple #[.slice none 0 0, .int .i64 2]) ∧ Below wx.heap.size wx w') := fun wx hb => own_no _ B C wx (h.later hb) hm
  clear h hm
  go_enter Try.func23, Try.ntmps23
  go_wp2_with (go_at_call 58; refine (HO.out _ ?_).mono ?_; (exact (Below.refl _ _).alloc (Nat.le_refl _) _); rintro e w1 ⟨rfl, hb1⟩; have HB1 : Hid (Below w.heap.size w w1) := over_alloc hb1; clear hb1)
  refine bodyPost_ret (v := .tuple #[.slice none 0 0, .int .i64 2]) ?_ rfl ⟨rfl, HB1.out⟩
  simp [results, Try.results23, go_sem]

end Go.Proofs.Ytcmnmogmdhofcab.form

/- How many registers near ones may bar (color.bars, the closure of color.order), and which temporary is taken next (color.pick). -/
namespace Go.Proofs.Ytcmnmogmdhofcab.form
open Go.RowKit
set_option linter.unusedVariables false
set_option maxRecDepth 100000
attribute [local go_sem ↓] Go.wp_at_zero Go.wp_at_succ

def barsN (x y : Bool) : Nat := if x || y then 2 else 1
theorem barsN_le (x y : Bool) : barsN x y ≤ 2 := by unfold barsN; split <;> omega

theorem barsO (x y : Bool) (w : World) : Calls Try.prog 64 #[.bool x, .bool y] w fun e w' => e = .returned (.int .i64 (barsN x y : Nat)) ∧ w' = w := by
  cases x <;> cases y
  all_goals
    go_enter Try.func64, Try.ntmps64
    go_wp2
    go_ret
    exact ⟨rfl, rfl⟩

/-- What the closure has caught: the ones that are left, the rows of what is near, the widths. -/
structure OrdB (pl pr pw lb cap g b0 o0 c0 : Nat) (l : List Nat) (B L : List Bool) (w : World) : Prop where
  left : w.cell? ⟨pl, 0, none⟩ = some (.slice (some ⟨lb, 0, none⟩) l.length cap)
  rows : w.cell? ⟨pr, 0, none⟩ = some (.slice (some ⟨g, 0, none⟩) B.length B.length)
  wide : w.cell? ⟨pw, 0, none⟩ = some (.slice (some ⟨b0, o0, none⟩) B.length c0)
  el : ∀ k, k < l.length → w.cell? ⟨lb, k, none⟩ = some (.int .i64 (l.getD k 0 : Nat))
  lt : ∀ k, k < l.length → l.getD k 0 < B.length
  top : ∀ k, k < B.length → w.cell? ⟨g, k, none⟩ = some (.slice (some ⟨g + 1 + k, 0, none⟩) B.length B.length)
  row : ∀ k t, k < B.length → t < B.length → w.cell? ⟨g + 1 + k, t, none⟩ = some (.bool (getF B.length L k t))
  ws : ∀ k, k < B.length → w.cell? ⟨b0, o0 + k, none⟩ = some (.bool (B.getD k false))

theorem OrdB.drewN {pl pr pw lb cap g b0 o0 c0 : Nat} {l : List Nat} {B L : List Bool} {w : World} (h : OrdB pl pr pw lb cap g b0 o0 c0 l B L w) (q : Nat) : OrdB pl pr pw lb cap g b0 o0 c0 l B L (w.drewN q) :=
  ⟨h.left, h.rows, h.wide, h.el, h.lt, h.top, h.row, h.ws⟩

def howN (l : List Nat) (B L : List Bool) (t : Nat) : Nat → Nat
  | 0 => 0
  | k + 1 => howN l B L t k + (if getF B.length L t (l.getD k 0) then barsN (B.getD t false) (B.getD (l.getD k 0) false) else 0)
theorem howN_le (l : List Nat) (B L : List Bool) (t : Nat) : ∀ k, howN l B L t k ≤ 2 * k
  | 0 => by simp [howN]
  | k + 1 => by
    have h1 := howN_le l B L t k
    have h2 := barsN_le (B.getD t false) (B.getD (l.getD k 0) false)
    simp only [howN]
    split <;> omega

set_option maxHeartbeats 1000000 in
theorem howO (pl pr pw lb cap g b0 o0 c0 : Nat) (l : List Nat) (B L : List Bool) (t : Nat) (w : World) (h : OrdB pl pr pw lb cap g b0 o0 c0 l B L w) (ht : t < B.length) (hB : B.length ≤ 12) (hl : l.length ≤ 12) :
    Calls Try.prog 63 #[.int .i64 t, .pointer (some ⟨pl, 0, none⟩), .pointer (some ⟨pr, 0, none⟩), .pointer (some ⟨pw, 0, none⟩)] w fun e w' => e = .returned (.int .i64 (howN l B L t l.length : Nat)) ∧ ∃ q, w' = w.drewN q := by
  have H : Hid (OrdB pl pr pw lb cap g b0 o0 c0 l B L w) := h
  have e1 := h.left
  have e2 := h.rows
  have e3 := h.wide
  have e4 := h.top t ht
  have e5 := h.ws t ht
  have y1 : (0 : Int) ≤ (t : Int) := by omega
  have y2 : (t : Int) < (B.length : Int) := by omega
  have y3 : (B.length : Int) ≤ 12 := by omega
  have y4 : (l.length : Int) ≤ 12 := by omega
  obtain ⟨x, hx⟩ : ∃ x, x = B.getD t false := ⟨_, rfl⟩
  rw [← hx] at e5
  have HX : Hid (x = B.getD t false) := hx
  clear h hx
  go_enter Try.func63, Try.ntmps63
  go_wp2
  go_loopw [6, 8, 11] (fun sv ov kv wr => ∃ (k q : Nat), sv = .int .i64 (howN l B L t k : Nat) ∧ kv = .int .i64 k ∧ k ≤ l.length ∧ wr = w.drewN q) (fun _ _ kv _ => l.length - (intOf kv).toNat)
  case atStart => exact ⟨0, 0, rfl, rfl, by omega, rfl⟩
  case round =>
    obtain ⟨k, q, rfl, rfl, hk, hw⟩ := hrel
    have HR : Hid (OrdB pl pr pw lb cap g b0 o0 c0 l B L wr) := by
      have := H.out.drewN q
      rw [← hw] at this
      exact this
    have HW : Hid (wr = w.drewN q) := hw
    clear hw e1 e2 e3 e4 e5
    have hz := howN_le l B L t k
    by_cases hlt : k < l.length
    case neg =>
      obtain rfl : k = l.length := by omega
      have y5 : ¬ (l.length : Int) < (l.length : Int) := by omega
      go_wp2
      go_ret
      exact ⟨rfl, q, HW.out⟩
    have e2 := HR.out.rows
    have e3 := HR.out.wide
    have e4 := HR.out.top t ht
    have e5 := HR.out.ws t ht
    rw [← HX.out] at e5
    have y5 : (k : Int) < (l.length : Int) := by omega
    have y6 : (0 : Int) ≤ (k : Int) := by omega
    have f1 := HR.out.el k hlt
    have f2 := HR.out.lt k hlt
    have f3 := HR.out.row t _ ht f2
    have f4 := HR.out.ws _ f2
    have HS : Hid (howN l B L t (k + 1) = howN l B L t k + (if getF B.length L t (l.getD k 0) then barsN x (B.getD (l.getD k 0) false) else 0)) := by rw [HX.out]; rfl
    obtain ⟨o, ho⟩ : ∃ o, o = l.getD k 0 := ⟨_, rfl⟩
    rw [← ho] at f1 f2 f3 f4 HS
    obtain ⟨r, hr⟩ : ∃ r, r = getF B.length L t o := ⟨_, rfl⟩
    rw [← hr] at f3 HS
    obtain ⟨y, hy⟩ : ∃ y, y = B.getD o false := ⟨_, rfl⟩
    rw [← hy] at f4 HS
    clear ho hr hy
    have y7 : (o : Int) < (B.length : Int) := by omega
    have y8 : (0 : Int) ≤ (o : Int) := by omega
    obtain ⟨z, hz0⟩ : ∃ z, z = howN l B L t k := ⟨_, rfl⟩
    rw [← hz0] at hz HS ⊢
    clear hz0
    have y9 : (z : Int) ≤ 24 := by omega
    have hbl := barsN_le x y
    have y10 : (barsN x y : Int) ≤ 2 := by omega
    cases r
    · go_wp2
      refine ⟨⟨k + 1, q, by rw [HS.out]; simp, by go_num, by omega, HW.out⟩, by simp [intOf]; omega⟩
    · go_wp2
      go_quiet (first | (go_at_call 64; refine Calls.quiet_of_same (barsO _ _ _)))
      go_wp2
      refine ⟨⟨k + 1, q + nq, by rw [HS.out]; go_num, by go_num, by omega, by rw [HW.out, World.drewN_drewN]⟩, by simp [intOf]; omega⟩

/-- The first that finds a register whatever the others have, else the first of those in the way of most. -/
def pickG (how : Nat → Nat) (n : Int) (l : List Nat) : Nat → Nat → Nat → Nat
  | 0, _, m => m
  | f + 1, k, m => if (how (l.getD k 0) : Int) < n then k else if how (l.getD m 0) < how (l.getD k 0) then pickG how n l f (k + 1) k else pickG how n l f (k + 1) m
theorem pickG_lt (how : Nat → Nat) (n : Int) (l : List Nat) : ∀ f k m, k + f ≤ l.length → m < l.length → pickG how n l f k m < l.length
  | 0, _, m, _, hm => hm
  | f + 1, k, m, hk, hm => by
    simp only [pickG]
    split
    · omega
    · split
      · exact pickG_lt how n l f (k + 1) k (by omega) (by omega)
      · exact pickG_lt how n l f (k + 1) m (by omega) hm
def pickL (B L : List Bool) (n : Int) (l : List Nat) : Nat := pickG (fun t => howN l B L t l.length) n l l.length 0 0
theorem pickL_lt (B L : List Bool) (n : Int) (l : List Nat) (h : 0 < l.length) : pickL B L n l < l.length := pickG_lt _ _ _ _ _ _ (by omega) h

/-- One of those that are left. -/
def PickP (i : Nat) (w : World) (e : Ending) (w' : World) : Prop := ∃ q : Nat, e = .returned (.int .i64 i) ∧ w' = w.drewN q

set_option maxHeartbeats 1000000 in
theorem pickO (pl pr pw lb cap g b0 o0 c0 : Nat) (l : List Nat) (B L : List Bool) (n : Int) (w : World) (h : OrdB pl pr pw lb cap g b0 o0 c0 l B L w) (hB : B.length ≤ 12) (hl : l.length ≤ 12) (h0 : 0 < l.length) :
    Calls Try.prog 65 #[.slice (some ⟨lb, 0, none⟩) l.length cap, .func (.func 63) #[] #[.pointer (some ⟨pl, 0, none⟩), .pointer (some ⟨pr, 0, none⟩), .pointer (some ⟨pw, 0, none⟩)], .int .i64 n] w fun e w' => PickP (pickL B L n l) w e w' := by
  have H : Hid (OrdB pl pr pw lb cap g b0 o0 c0 l B L w) := h
  obtain ⟨how, hhow⟩ : ∃ how : Nat → Nat, how = fun t => howN l B L t l.length := ⟨_, rfl⟩
  have HOW : Hid (∀ (t : Nat) (wx : World), OrdB pl pr pw lb cap g b0 o0 c0 l B L wx → t < B.length → Calls Try.prog 63 #[.int .i64 t, .pointer (some ⟨pl, 0, none⟩), .pointer (some ⟨pr, 0, none⟩), .pointer (some ⟨pw, 0, none⟩)] wx fun e w' => e = .returned (.int .i64 (how t : Nat)) ∧ ∃ m, w' = wx.drewN m) :=
    fun t wx hx ht => by rw [hhow]; exact howO pl pr pw lb cap g b0 o0 c0 l B L t wx hx ht hB hl
  have HPK : Hid (pickL B L n l = pickG how n l l.length 0 0) := by
    show pickL B L n l = pickG how n l l.length 0 0
    rw [hhow]; rfl
  have y3 : (B.length : Int) ≤ 12 := by omega
  have y4 : (l.length : Int) ≤ 12 := by omega
  clear h hhow
  go_enter Try.func65, Try.ntmps65
  go_wp2
  go_loopw [7, 8, 9, 12] (fun mv av tv kv wr => ∃ (k m q : Nat), mv = .int .i64 m ∧ m < l.length ∧ kv = .int .i64 k ∧ k ≤ l.length ∧ wr = w.drewN q ∧ pickG how n l (l.length - k) k m = pickG how n l l.length 0 0) (fun _ _ _ kv _ => l.length - (intOf kv).toNat)
  case atStart => exact ⟨0, 0, 0, rfl, h0, rfl, by omega, rfl, rfl⟩
  case round =>
    obtain ⟨k, m, q, rfl, hm, rfl, hk, hw, hpg⟩ := hrel
    have HR : Hid (OrdB pl pr pw lb cap g b0 o0 c0 l B L wr) := by
      have := H.out.drewN q
      rw [← hw] at this
      exact this
    have HW : Hid (wr = w.drewN q) := hw
    have HPG : Hid (pickG how n l (l.length - k) k m = pickG how n l l.length 0 0) := hpg
    clear hw hpg
    by_cases hlt : k < l.length
    case neg =>
      have y5 : ¬ (k : Int) < (l.length : Int) := by omega
      go_wp2
      go_ret
      refine ⟨q, ?_, HW.out⟩
      rw [HPK.out, ← HPG.out, show l.length - k = 0 by omega]
      rfl
    have y5 : (k : Int) < (l.length : Int) := by omega
    have y6 : (0 : Int) ≤ (k : Int) := by omega
    have y7 : (m : Int) < (l.length : Int) := by omega
    have y8 : (0 : Int) ≤ (m : Int) := by omega
    have f1 := HR.out.el k hlt
    have f2 := HR.out.lt k hlt
    have f3 := HR.out.el m hm
    have f4 := HR.out.lt m hm
    have HST : Hid (pickG how n l l.length 0 0 = if (how (l.getD k 0) : Int) < n then k else if how (l.getD m 0) < how (l.getD k 0) then pickG how n l (l.length - (k + 1)) (k + 1) k else pickG how n l (l.length - (k + 1)) (k + 1) m) := by
      show pickG how n l l.length 0 0 = _
      rw [← HPG.out, show l.length - k = l.length - (k + 1) + 1 by omega]
      rfl
    obtain ⟨o, ho⟩ : ∃ o, o = l.getD k 0 := ⟨_, rfl⟩
    rw [← ho] at f1 f2 HST
    obtain ⟨p, hp⟩ : ∃ p, p = l.getD m 0 := ⟨_, rfl⟩
    rw [← hp] at f3 f4 HST
    clear ho hp
    have HC : Hid (∀ wx : World, OrdB pl pr pw lb cap g b0 o0 c0 l B L wx → Calls Try.prog 63 #[.int .i64 o, .pointer (some ⟨pl, 0, none⟩), .pointer (some ⟨pr, 0, none⟩), .pointer (some ⟨pw, 0, none⟩)] wx fun e w' => e = .returned (.int .i64 (how o : Nat)) ∧ ∃ m, w' = wx.drewN m) := fun wx hx => HOW.out o wx hx f2
    by_cases d1 : (how o : Int) < n
    · have HE : Hid (pickG how n l l.length 0 0 = k) := HST.out.trans (if_pos d1)
      go_wp2_with (go_at_call 63; refine (HC.out _ HR.out).mono ?_; rintro e w1 ⟨rfl, q1, hw1⟩; have HW1 : Hid (w1 = w.drewN (q + q1)) := (by have := hw1; rw [HW.out, World.drewN_drewN] at this; exact this); clear hw1)
      go_ret
      exact ⟨_, by rw [HPK.out, HE.out]; rfl, HW1.out⟩
    by_cases d2 : how p < how o
    · have HE : Hid (pickG how n l (l.length - (k + 1)) (k + 1) k = pickG how n l l.length 0 0) := ((HST.out.trans (if_neg d1)).trans (if_pos d2)).symm
      have d3 : (how p : Int) < (how o : Int) := by omega
      go_wp2_with (go_at_call 63; refine (HC.out _ HR.out).mono ?_; rintro e w1 ⟨rfl, q1, hw1⟩; have f5 : w1.cell? ⟨lb, m, none⟩ = some (.int .i64 (p : Nat)) := (by rw [hw1]; exact f3); have HR1 : Hid (OrdB pl pr pw lb cap g b0 o0 c0 l B L w1) := (by have := HR.out.drewN q1; rw [← hw1] at this; exact this); have HW1 : Hid (w1 = w.drewN (q + q1)) := (by have := hw1; rw [HW.out, World.drewN_drewN] at this; exact this); clear hw1)
      go_quiet (first | (go_at_call 63; refine Calls.quiet_of (HOW.out _ _ (HR1.out.drewN _) ?_); assumption))
      go_wp2
      exact ⟨⟨k + 1, k, q + q1 + nq, rfl, hlt, by go_num, by omega, by rw [HW1.out, World.drewN_drewN], HE.out⟩, by simp [intOf]; omega⟩
    · have HE : Hid (pickG how n l (l.length - (k + 1)) (k + 1) m = pickG how n l l.length 0 0) := ((HST.out.trans (if_neg d1)).trans (if_neg d2)).symm
      have d3 : ¬ (how p : Int) < (how o : Int) := by omega
      go_wp2_with (go_at_call 63; refine (HC.out _ HR.out).mono ?_; rintro e w1 ⟨rfl, q1, hw1⟩; have f5 : w1.cell? ⟨lb, m, none⟩ = some (.int .i64 (p : Nat)) := (by rw [hw1]; exact f3); have HR1 : Hid (OrdB pl pr pw lb cap g b0 o0 c0 l B L w1) := (by have := HR.out.drewN q1; rw [← hw1] at this; exact this); have HW1 : Hid (w1 = w.drewN (q + q1)) := (by have := hw1; rw [HW.out, World.drewN_drewN] at this; exact this); clear hw1)
      go_quiet (first | (go_at_call 63; refine Calls.quiet_of (HOW.out _ _ (HR1.out.drewN _) ?_); assumption))
      go_wp2
      exact ⟨⟨k + 1, m, q + q1 + nq, rfl, hm, by go_num, by omega, by rw [HW1.out, World.drewN_drewN], HE.out⟩, by simp [intOf]; omega⟩

end Go.Proofs.Ytcmnmogmdhofcab.form
