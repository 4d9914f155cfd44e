/- What the program tells of what is needed (live.nothing, live.Of): rows of truths, the least ones. -/
import Derived.Test.YtgeimilnddpdmabLiveSpread
import Derived.Test.YtgeimilnddpdmabLiveOf
import Derived.Test.YtgeimilnddpdmabFormMay
import Derived.Test.YtgeimilnddpdmabFormSame
namespace Go.Proofs.Ytgeimilnddpdmab.form
open Go.RowKit
set_option linter.unusedVariables false
attribute [local go_sem ↓] Go.wp_at_zero Go.wp_at_succ

theorem made_rows (n : Nat) : madeCells #[Value.slice none 0 0] n = (List.replicate n (Value.slice none 0 0)).toArray := by
  apply Array.toList_inj.1
  rw [toList_madeCells_one]

/-- The rows made till now. -/
structure NoS (w : World) (g nB nC k : Nat) (wr : World) : Prop where
  bel : Below w.heap.size w wr
  size : wr.heap.size = g + 1 + k
  top : ∃ vs : List Value, vs.length = nC ∧ Row wr g 22 vs ∧ ∀ j, j < k → vs[j]? = some (.slice (some ⟨g + 1 + j, 0, none⟩) nB nB)
  row : ∀ j, j < k → Row wr (g + 1 + j) 4 ((List.replicate nB false).map Value.bool)

set_option maxRecDepth 100000 in
theorem nothing (b0 o0 c0 b1 o1 c1 : Nat) (B : List Bool) (C : List LIns) (w : World) (hB : B.length ≤ 12) (hC : C.length ≤ 40) :
    Calls Try.prog 90 #[progV b0 o0 B.length c0 b1 o1 C.length c1] w fun e w' => e = .returned (.slice (some ⟨w.heap.size + 1, 0, none⟩) C.length C.length) ∧ MatF (w.heap.size + 1) B.length C.length (List.replicate (C.length * B.length) false) w' ∧ Below w.heap.size w w' := by
  have hmk := fun wx => run_make_row' (P := Try.prog) 22 4 (.bool false) 1 Try.underlying22 infBool rfl .i64 .i64 B.length (by omega) (by omega) wx
  have hmk2 := fun wx => run_make_row' (P := Try.prog) 31 22 (.slice none 0 0) 24 Try.underlying31 infRow rfl .i64 .i64 C.length (by omega) (by omega) wx
  have y2 : (C.length : Int) ≤ 40 := by omega
  have y3 : (B.length : Int) ≤ 12 := by omega
  unfold progV
  go_enter Try.func90, Try.ntmps90
  go_wp2
  go_loopw [11] (fun kv wr => ∃ k : Nat, kv = .int .i64 k ∧ k ≤ C.length ∧ wr.cell? ⟨w.heap.size, 0, none⟩ = some (.slice (some ⟨b0, o0, none⟩) B.length c0) ∧ NoS w (w.heap.size + 1) B.length C.length k wr) (fun kv _ => C.length - (intOf kv).toNat)
  case atStart =>
    refine ⟨0, rfl, by omega, by simp [go_sem], ((Below.refl _ _).alloc (Nat.le_refl _) _).alloc (by simp) _, by simp, ⟨List.replicate C.length (.slice none 0 0), by simp, ?_, fun j hj => absurd hj (by omega)⟩, fun j hj => absurd hj (by omega)⟩
    rw [made_rows]
    have := Row.new (w.alloc (.cells #[.slice (some ⟨b0, o0, none⟩) B.length c0, .slice (some ⟨b1, o1, none⟩) C.length c1] 25)) 22 (List.replicate C.length (.slice none 0 0))
    simpa using this
  case round =>
    obtain ⟨k, rfl, hk, p0, hno⟩ := hrel
    have HNO : Hid (NoS w (w.heap.size + 1) B.length C.length k wr) := hno
    have hz := hno.size
    obtain ⟨vs, hvl, hvr, hvk⟩ := hno.top
    clear hno
    have HVR : Hid (Row wr (w.heap.size + 1) 22 vs) := hvr
    have HVK : Hid (∀ j, j < k → vs[j]? = some (.slice (some ⟨w.heap.size + 1 + 1 + j, 0, none⟩) B.length B.length)) := hvk
    clear hvk
    by_cases hlt : k < C.length
    case neg =>
      have y9 : ¬ (k : Int) < (C.length : Int) := by omega
      obtain rfl : k = C.length := by omega
      clear hvr
      go_wp2
      go_ret
      refine ⟨rfl, ⟨by simp, fun j hj => ?_, fun j hj => ?_⟩, HNO.out.bel⟩
      · rw [HVR.out.cell]; exact HVK.out j hj
      · have := HNO.out.row j hj
        rwa [show rowF B.length (List.replicate (C.length * B.length) false) j = List.replicate B.length false by
          apply List.ext_getElem (by simp [rowF])
          intro q h1 h2
          simp [rowF, getF_nothing]]
    have y8 : (k : Int) < (C.length : Int) := by omega
    have y7 : (0 : Int) ≤ (k : Int) := by omega
    obtain ⟨u0, ck⟩ : ∃ u0, wr.cell? ⟨w.heap.size + 1, k, none⟩ = some u0 := ⟨vs[k]'(by omega), by rw [hvr.cell]; simp⟩
    have fz := hvr.frozen k
    have hgz : w.heap.size + 1 < wr.heap.size := by omega
    have HZ : Hid (wr.heap.size = w.heap.size + 1 + 1 + k) := hz
    clear hvr hz
    go_wp2
    obtain ⟨W1, hW1⟩ : ∃ W1, W1 = wr.setCell ⟨w.heap.size + 1, k, none⟩ (.slice (some ⟨wr.heap.size, 0, none⟩) B.length B.length) := ⟨_, rfl⟩
    have hz1 : W1.heap.size = wr.heap.size := by rw [hW1]; simp
    have hbn : Below W1.heap.size W1 (W1.alloc (.cells (madeCells #[.bool false] B.length) 4)) := (Below.refl _ _).alloc (Nat.le_refl _) _
    have hrn := Row.new W1 4 ((List.replicate B.length false).map Value.bool)
    rw [← made_bool] at hrn
    have q0 : W1.cell? ⟨w.heap.size, 0, none⟩ = some (.slice (some ⟨b0, o0, none⟩) B.length c0) := by rw [hW1]; exact cell_other p0 (by simp)
    have q1 : Below w.heap.size w W1 := by rw [hW1]; exact HNO.out.bel.setCell (by simp) _
    have q2 : Row W1 (w.heap.size + 1) 22 (vs.set k (.slice (some ⟨wr.heap.size, 0, none⟩) B.length B.length)) := by rw [hW1]; exact HVR.out.set k _
    have q3 : ∀ j, j < k → Row W1 (w.heap.size + 1 + 1 + j) 4 ((List.replicate B.length false).map Value.bool) := fun j hj => by rw [hW1]; exact (HNO.out.row j hj).other (by simp; omega) _
    rw [← hW1]
    refine ⟨⟨k + 1, by go_num, by omega, step_cell hbn q0, ?_⟩, by simp [intOf]; omega⟩
    refine ⟨step_below hbn q1, by simp [hz1, HZ.out]; omega, ⟨vs.set k (.slice (some ⟨wr.heap.size, 0, none⟩) B.length B.length), by simp [hvl], q2.below hbn, fun j hj => ?_⟩, fun j hj => ?_⟩
    · by_cases hjk : j = k
      · subst hjk
        rw [List.getElem?_set_self (by omega), HZ.out]
      · rw [List.getElem?_set_ne (Ne.symm hjk)]
        exact HVK.out j (by omega)
    · by_cases hjk : j = k
      · subst hjk
        rw [← HZ.out, ← hz1]
        exact hrn
      · exact (q3 j (by omega)).below hbn

theorem all_known {B : List Bool} {C : List LIns} (h : refMayB B C = true) : ∀ k, k < C.length → knownB (C.getD k .zero).op = true := by
  unfold refMayB at h
  simp only [Bool.and_eq_true] at h
  intro k hk
  have := List.all_eq_true.1 h.2 (C.getD k .zero) (by simp [List.getD, hk])
  unfold insB at this
  simp only [Bool.and_eq_true] at this
  obtain ⟨⟨⟨⟨⟨⟨hk, _⟩, hd⟩, ha⟩, hb⟩, hl⟩, _⟩ := this
  exact hk

/-- The answer of live.Of where the program may be. -/
def OwnAns (nB : Nat) (C : List LIns) (e : Ending) (w : World) : Prop := ∃ v R, e = .returned (.tuple #[v, .int .i64 0]) ∧ MatIs w v R ∧ NeedMat nB C R

/-- The same, with the rows one block behind the other. -/
def OwnAnsF (lo nB : Nat) (C : List LIns) (e : Ending) (w : World) : Prop := ∃ g L, lo ≤ g ∧ e = .returned (.tuple #[.slice (some ⟨g, 0, none⟩) C.length C.length, .int .i64 0]) ∧ MatF g nB C.length L w ∧ Snd nB C L ∧ Cls nB C L

/-- How many truths lie in memory. -/
def trueAt (w : World) (a : Addr) : Nat := match w.cell? a with
  | some (.bool true) => 1
  | _ => 0
def cntF (g nB nC : Nat) (w : World) : Nat := ((List.range (nC * nB)).map fun q => trueAt w ⟨g + 1 + q / nB, q % nB, none⟩).sum

theorem count_sum (L : List Bool) : ((List.range L.length).map fun q => if L.getD q false = true then 1 else 0).sum = L.count true := by
  induction L with
  | nil => rfl
  | cons b L ih =>
    rw [List.length_cons, List.range_succ_eq_map, List.map_cons, List.sum_cons, List.map_map]
    have e : ((fun q => if (b :: L).getD q false = true then 1 else 0) ∘ Nat.succ) = fun q => if L.getD q false = true then 1 else 0 := by funext q; simp
    rw [e, ih]
    cases b <;> simp [Nat.add_comm]

theorem MatF.cnt {g nB nC : Nat} {L : List Bool} {w : World} (h : MatF g nB nC L w) : cntF g nB nC w = L.count true := by
  rw [← count_sum]
  unfold cntF
  rw [h.len]
  congr 1
  apply List.map_congr_left
  intro q hq
  have hq' : q < nC * nB := by simpa using hq
  have hB : 0 < nB := by
    rcases Nat.eq_zero_or_pos nB with e | e
    · rw [e] at hq'; simp at hq'
    · exact e
  have h1 : q / nB < nC := Nat.div_lt_of_lt_mul (by rw [Nat.mul_comm]; exact hq')
  have h2 : q % nB < nB := Nat.mod_lt _ hB
  have hc := h.cell h1 h2
  have hd : q / nB * nB + q % nB = q := by rw [Nat.mul_comm]; exact Nat.div_add_mod q nB
  unfold getF at hc
  rw [hd] at hc
  unfold trueAt
  rw [hc]
  cases L.getD q false <;> simp

theorem count_le_flat {nB nC : Nat} {L : List Bool} (h : L.length = nC * nB) : L.count true ≤ nC * nB := by rw [← h]; exact List.count_le_length

set_option maxRecDepth 100000 in
set_option maxHeartbeats 1000000 in
theorem own_yesF (b0 o0 c0 b1 o1 c1 : Nat) (B : List Bool) (C : List LIns) (w : World) (h : Held w b0 o0 b1 o1 B C) (hn : ∀ i, i < C.length → 0 ≤ (C.getD i .zero).n ∧ (C.getD i .zero).n < 4294967296) (hm : refMayB B C = true) :
    Calls Try.prog 48 #[progV b0 o0 B.length c0 b1 o1 C.length c1] w fun e w' => OwnAnsF w.heap.size B.length C e w' ∧ Below w.heap.size w w' := by
  have hs : sizesB B C = true := by unfold refMayB at hm; simp only [Bool.and_eq_true] at hm; exact hm.1
  obtain ⟨s1, s2, s3, s4⟩ := sizes_of hs
  have hok := all_insOk hm hn
  have hkn := all_known hm
  have hmay : mayB B C = true := by rw [may_same]; exact hm
  have HMAY : Hid (∀ wx : World, Below w.heap.size w wx → Calls Try.prog 39 #[progV b0 o0 B.length c0 b1 o1 C.length c1] wx fun e w' => e = .returned (.bool true) ∧ Below wx.heap.size wx w') := fun wx hb => by
    have := may (progV b0 o0 B.length c0 b1 o1 C.length c1) B C wx ⟨⟨_, _, _, _, rfl, fun _ _ => ⟨b0, o0, b1, o1, rfl, rfl, h.later hb⟩⟩, by omega, by omega, hn⟩
    rwa [hmay] at this
  have HNO : Hid (∀ wx : World, Calls Try.prog 90 #[progV b0 o0 B.length c0 b1 o1 C.length c1] wx fun e w' => e = .returned (.slice (some ⟨wx.heap.size + 1, 0, none⟩) C.length C.length) ∧ MatF (wx.heap.size + 1) B.length C.length (List.replicate (C.length * B.length) false) w' ∧ Below wx.heap.size wx w') := fun wx => nothing b0 o0 c0 b1 o1 c1 B C wx s2 s4
  have hh0 := h.lt0
  have hh1 := h.lt1
  have HSP : Hid (∀ (g : Nat) (wx : World) (L : List Bool), w.heap.size ≤ g → Below w.heap.size w wx → MatF g B.length C.length L wx → Snd B.length C L → Calls Try.prog 91 #[progV b0 o0 B.length c0 b1 o1 C.length c1, .slice (some ⟨g, 0, none⟩) C.length C.length] wx fun e w' => SpreadAns B.length C g L e w' ∧ Below g wx w') := fun g wx L hg hb hM hS => spread g b0 o0 c0 b1 o1 c1 B C L wx s2 s4 (by omega) (by omega) (h.later hb) hok hkn hM hS s3
  clear h hn hm hs hok hkn hmay
  unfold progV
  go_enter Try.func48, Try.ntmps48
  go_wp2_with (first
    | (go_at_call 39; refine (HMAY.out _ ?_).mono ?_; (exact (Below.refl _ _).alloc (Nat.le_refl _) _); rintro e w1 ⟨rfl, hb1⟩; have p0 : w1.cell? ⟨w.heap.size, 0, none⟩ = some (.slice (some ⟨b0, o0, none⟩) B.length c0) := step_cell hb1 (by simp [go_sem]); have p1 : w1.cell? ⟨w.heap.size, 1, none⟩ = some (.slice (some ⟨b1, o1, none⟩) C.length c1) := step_cell hb1 (by simp [go_sem]); have HB1 : Hid (Below w.heap.size w w1) := over_alloc hb1; clear hb1)
    | (go_at_call 90; refine (HNO.out _).mono ?_; rintro e w2 ⟨rfl, hM2, hb2⟩; have HM2 : Hid (MatF (w1.heap.size + 1) B.length C.length (List.replicate (C.length * B.length) false) w2) := hM2; have HB2 : Hid (Below w1.heap.size w1 w2) := hb2; clear hM2 hb2))
  have hz1 : w.heap.size < w1.heap.size := World.block_lt_of_cell? w1 _ p0
  obtain ⟨g, hg⟩ : ∃ g, g = w1.heap.size + 1 := ⟨_, rfl⟩
  rw [← hg] at HM2 ⊢
  have HG : Hid (g = w1.heap.size + 1) := hg
  clear hg
  go_loopw [] (fun wr => ∃ L : List Bool, MatF g B.length C.length L wr ∧ Snd B.length C L ∧ Below w.heap.size w wr ∧ wr.cell? ⟨w.heap.size, 0, none⟩ = some (.slice (some ⟨b0, o0, none⟩) B.length c0) ∧ wr.cell? ⟨w.heap.size, 1, none⟩ = some (.slice (some ⟨b1, o1, none⟩) C.length c1)) (fun wr => C.length * B.length - cntF g B.length C.length wr)
  case atStart => exact ⟨_, HM2.out, snd_nothing _ _, step_below HB2.out HB1.out, step_cell HB2.out p0, step_cell HB2.out p1⟩
  case round =>
    clear HB1 HB2 HM2 p0 p1
    obtain ⟨L, hM, hS, hb, p0, p1⟩ := hrel
    have HM : Hid (MatF g B.length C.length L wr) := hM
    have HS : Hid (Snd B.length C L) := hS
    have HB : Hid (Below w.heap.size w wr) := hb
    have HCN : Hid (cntF g B.length C.length wr = L.count true) := hM.cnt
    clear hM hS hb
    have hgz : w.heap.size < g := by have := HG.out; omega
    go_wp2_with (go_at_call 91; refine (HSP.out g _ L (by omega) HB.out HM.out HS.out).mono ?_; rintro e w3 ⟨⟨m, L', rfl, hM', hsp⟩, hb3⟩; have HM3 : Hid (MatF g B.length C.length L' w3) := hM'; have HSPS : Hid (SpS B.length C L (fun _ _ => True) m L') := hsp; have HB3 : Hid (Below g wr w3) := hb3; clear hM' hsp hb3)
    · have hmt : m = true := by assumption
      have c1 := HM3.out.cnt
      have c2 := HSPS.out.yes hmt
      have c3 := count_le_flat HM3.out.len
      refine ⟨⟨L', HM3.out, HSPS.out.snd, HB.out.trans (HB3.out.mono (by omega)), ?_, ?_⟩, ?_⟩
      · rw [HB3.out.cell (by show w.heap.size < g; exact hgz)]; exact p0
      · rw [HB3.out.cell (by show w.heap.size < g; exact hgz)]; exact p1
      · rw [c1, HCN.out]; omega
    · have hmf : m = false := by simp_all
      obtain ⟨e1, e2⟩ := HSPS.out.no hmf
      have hcl : Cls B.length C L' := fun k t hk ht hg => e2 k t hk ht trivial hg
      refine bodyPost_ret (v := .tuple #[.slice (some ⟨g, 0, none⟩) C.length C.length, .int .i64 0]) ?_ rfl ⟨⟨g, L', by omega, rfl, HM3.out, HSPS.out.snd, hcl⟩, HB.out.trans (HB3.out.mono (by omega))⟩
      simp [results, Try.results48, go_sem]

theorem own_yes (b0 o0 c0 b1 o1 c1 : Nat) (B : List Bool) (C : List LIns) (w : World) (h : Held w b0 o0 b1 o1 B C) (hn : ∀ i, i < C.length → 0 ≤ (C.getD i .zero).n ∧ (C.getD i .zero).n < 4294967296) (hm : refMayB B C = true) :
    Calls Try.prog 48 #[progV b0 o0 B.length c0 b1 o1 C.length c1] w fun e w' => OwnAns B.length C e w' ∧ Below w.heap.size w w' := by
  have hs : sizesB B C = true := by unfold refMayB at hm; simp only [Bool.and_eq_true] at hm; exact hm.1
  obtain ⟨s1, s2, s3, s4⟩ := sizes_of hs
  refine (own_yesF b0 o0 c0 b1 o1 c1 B C w h hn hm).mono ?_
  rintro e w' ⟨⟨g, L, hg, rfl, hM, hS, hC⟩, hb⟩
  exact ⟨⟨_, _, rfl, hM.mat s3 s4 s2, needF hS hC⟩, hb⟩

/-- Where it may not be. -/
theorem own_no (v : Value) (B : List Bool) (C : List LIns) (w : World) (h : ProgIs w v B C) (hm : refMayB B C = false) :
    Calls Try.prog 48 #[v] w fun e w' => e = .returned (.tuple #[.slice none 0 0, .int .i64 2]) ∧ Below w.heap.size w w' := by
  have hmay : mayB B C = false := by rw [may_same]; exact hm
  have h0 := h
  obtain ⟨⟨a0, c0, a1, c1, rfl, -⟩, -, -, -⟩ := h0
  have HMAY : Hid (∀ wx : World, Below w.heap.size w wx → Calls Try.prog 39 #[.agg #[.slice a0 B.length c0, .slice a1 C.length c1]] wx fun e w' => e = .returned (.bool false) ∧ Below wx.heap.size wx w') := fun wx hb => by
    have := may _ B C wx (h.later hb)
    rwa [hmay] at this
  clear h hm hmay
  go_enter Try.func48, Try.ntmps48
  go_wp2_with (go_at_call 39; refine (HMAY.out _ ?_).mono ?_; (exact (Below.refl _ _).alloc (Nat.le_refl _) _); rintro e w1 ⟨rfl, hb1⟩; have HB1 : Hid (Below w.heap.size w w1) := over_alloc hb1; clear hb1)
  refine bodyPost_ret (v := .tuple #[.slice none 0 0, .int .i64 2]) ?_ rfl ⟨rfl, HB1.out⟩
  simp [results, Try.results48, go_sem]

end Go.Proofs.Ytgeimilnddpdmab.form
