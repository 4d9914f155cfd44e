/- The program's answer to whether an instruction may stand is the document's. -/
import Derived.Test.YtikhedkhgpjaaacGreatDoorW22
import Derived.Test.YtikhedkhgpjaaacGreatDoorW04
import Derived.Test.YtikhedkhgpjaaacGreatDoorW21
import Derived.Test.YtikhedkhgpjaaacGreatDoorW19

namespace Go.Proofs.YtikhedkhgpjaaacGreatDoor
set_option linter.unusedVariables false
namespace form
theorem same_at (B : List Bool) (nC : Nat) (i : LIns) (n : Int) (hop : i.op = n) (hn : n = 1 ∨ n = 2 ∨ n = 3 ∨ n = 4 ∨ n = 5 ∨ n = 6 ∨ n = 7 ∨ n = 8 ∨ n = 9 ∨ n = 10) : standB B nC i = insB B nC i := by
  obtain ⟨op, d, a, b, c, N⟩ := i
  simp only at hop
  subst hop
  rw [Bool.eq_iff_iff]
  rcases hn with rfl | rfl | rfl | rfl | rfl | rfl | rfl | rfl | rfl | rfl
  all_goals simp [standB, fitAs, fit5, fitB, st, kd, knownB, insB, fieldB, lineB, widthsB, wl, wl0, wl1, givesB, manyI, bw]
  case inr.inl =>
    generalize B[d.toNat]?.getD false = x
    generalize B[a.toNat]?.getD false = y
    cases x <;> cases y <;> simp <;> omega
  all_goals
    generalize B[d.toNat]?.getD false = x
    generalize B[a.toNat]?.getD false = y
    generalize B[b.toNat]?.getD false = z
    constructor <;> intro h <;> simp_all
theorem same_narrow (B : List Bool) (nC : Nat) (i : LIns) (h1 : 21 ≤ i.op) (h2 : i.op ≤ 26) : standB B nC i = insB B nC i := by
  have hk := known_narrow i.op h1 h2
  have hd := kd_narrow i.op h1 h2
  have hg : givesB i.op = true := by unfold givesB; simp; omega
  have hm : manyI i.op = 2 := by unfold manyI; rw [if_neg (by omega), if_neg (by omega)]
  have hl : lineB nC i = (i.c == 0) := by unfold lineB; rw [if_neg (by omega)]
  have h1' : (i.op == 1) = false := by simp; omega
  have hw : widthsB B i = (wl B i).all (fun x => x == false) := by
    unfold widthsB
    rw [if_neg (by omega), if_neg (by omega), if_neg (by omega), show decide (40 < i.op) = false by simp; omega]
  rw [Bool.eq_iff_iff]
  simp [standB, fitAs, fit5, hk, hd, insB, hg, hm, hl, h1', hw, st, fitB, fieldB, wl, wl0, wl1, bw]
  clear hw
  generalize B[i.dest.toNat]?.getD false = x
  generalize B[i.a.toNat]?.getD false = y
  generalize B[i.b.toNat]?.getD false = z
  constructor <;> intro h <;> simp_all
theorem same_wide (B : List Bool) (nC : Nat) (i : LIns) (h1 : 41 ≤ i.op) (h2 : i.op ≤ 45) : standB B nC i = insB B nC i := by
  have hk := known_wide i.op h1 h2
  have hd := kd_wide i.op h1 h2
  have hg : givesB i.op = true := by unfold givesB; simp; omega
  have hm : manyI i.op = 2 := by unfold manyI; rw [if_neg (by omega), if_neg (by omega)]
  have hl : lineB nC i = (i.c == 0) := by unfold lineB; rw [if_neg (by omega)]
  have h1' : (i.op == 1) = false := by simp; omega
  have hw : widthsB B i = (wl B i).all (fun x => x == true) := by
    unfold widthsB
    rw [if_neg (by omega), if_neg (by omega), if_neg (by omega), show decide (40 < i.op) = true by simp; omega]
  rw [Bool.eq_iff_iff]
  simp [standB, fitAs, fit5, hk, hd, insB, hg, hm, hl, h1', hw, st, fitB, fieldB, wl, wl0, wl1, bw]
  clear hw
  generalize B[i.dest.toNat]?.getD false = x
  generalize B[i.a.toNat]?.getD false = y
  generalize B[i.b.toNat]?.getD false = z
  constructor <;> intro h <;> simp_all
theorem stand_ins (B : List Bool) (nC : Nat) (i : LIns) : standB B nC i = insB B nC i := by
  cases hk : knownB i.op with
  | false => simp [standB, insB, hk]
  | true =>
    have hk' := hk
    unfold knownB at hk'
    simp at hk'
    rcases hk' with (⟨h1, h2⟩ | ⟨h1, h2⟩) | ⟨h1, h2⟩
    · exact same_at B nC i i.op rfl (by omega)
    · exact same_narrow B nC i h1 h2
    · exact same_wide B nC i h1 h2
theorem may_same (B : List Bool) (C : List LIns) : mayB B C = refMayB B C := by
  unfold mayB refMayB
  rw [show standB B C.length = insB B C.length from funext (stand_ins B C.length)]
end form
/- What the program tells of what is needed (live.nothing, live.Of): rows of truths, the least ones. -/
namespace form
open Go.RowKit
attribute [local go_sem ↓] Go.wp_at_zero Go.wp_at_succ
theorem made_rows (n : Nat) : madeCells #[Value.slice none 0 0] n = (List.replicate n (Value.slice none 0 0)).toArray := by
  apply Array.toList_inj.1
  rw [toList_madeCells_one]
structure NoS (w : World) (g nB nC k : Nat) (wr : World) : Prop where
  bel : Below w.heap.size w wr
  size : wr.heap.size = g + 1 + k
  top : ∃ vs : List Value, vs.length = nC ∧ Row wr g 24 vs ∧ ∀ j, j < k → vs[j]? = some (.slice (some ⟨g + 1 + j, 0, none⟩) nB nB)
  row : ∀ j, j < k → Row wr (g + 1 + j) 4 ((List.replicate nB false).map Value.bool)
set_option maxRecDepth 100000 in
theorem nothing (b0 o0 c0 b1 o1 c1 : Nat) (B : List Bool) (C : List LIns) (w : World) (hB : B.length ≤ 12) (hC : C.length ≤ 40) :
    Calls Tryz.prog 110 #[progV b0 o0 B.length c0 b1 o1 C.length c1] w fun e w' => e = .returned (.slice (some ⟨w.heap.size + 1, 0, none⟩) C.length C.length) ∧ MatF (w.heap.size + 1) B.length C.length (List.replicate (C.length * B.length) false) w' ∧ Below w.heap.size w w' := by
  have hmk := fun wx => run_make_row' (P := Tryz.prog) 24 4 (.bool false) 1 Tryz.underlying24 infBool rfl .i64 .i64 B.length (by omega) (by omega) wx
  have hmk2 := fun wx => run_make_row' (P := Tryz.prog) 102 24 (.slice none 0 0) 24 Tryz.underlying102 infRow rfl .i64 .i64 C.length (by omega) (by omega) wx
  have y2 : (C.length : Int) ≤ 40 := by omega
  have y3 : (B.length : Int) ≤ 12 := by omega
  unfold progV
  go_enter Tryz.func110, Tryz.ntmps110
  go_wp2
  go_loopw [11] (fun kv wr => ∃ k : Nat, kv = .int .i64 k ∧ k ≤ C.length ∧ wr.cell? ⟨w.heap.size, 0, none⟩ = some (.slice (some ⟨b0, o0, none⟩) B.length c0) ∧ NoS w (w.heap.size + 1) B.length C.length k wr) (fun kv _ => C.length - (intOf kv).toNat)
  case atStart =>
    refine ⟨0, rfl, by omega, by simp [go_sem], ((Below.refl _ _).alloc (Nat.le_refl _) _).alloc (by simp) _, by simp, ⟨List.replicate C.length (.slice none 0 0), by simp, ?_, fun j hj => absurd hj (by omega)⟩, fun j hj => absurd hj (by omega)⟩
    rw [made_rows]
    have := Row.new (w.alloc (.cells #[.slice (some ⟨b0, o0, none⟩) B.length c0, .slice (some ⟨b1, o1, none⟩) C.length c1] 27)) 24 (List.replicate C.length (.slice none 0 0))
    simpa using this
  case round =>
    obtain ⟨k, rfl, hk, p0, hno⟩ := hrel
    have HNO : Hid (NoS w (w.heap.size + 1) B.length C.length k wr) := hno
    have hz := hno.size
    obtain ⟨vs, hvl, hvr, hvk⟩ := hno.top
    clear hno
    have HVR : Hid (Row wr (w.heap.size + 1) 24 vs) := hvr
    have HVK : Hid (∀ j, j < k → vs[j]? = some (.slice (some ⟨w.heap.size + 1 + 1 + j, 0, none⟩) B.length B.length)) := hvk
    clear hvk
    by_cases hlt : k < C.length
    case neg =>
      have y9 : ¬ (k : Int) < (C.length : Int) := by omega
      obtain rfl : k = C.length := by omega
      clear hvr
      go_wp2
      go_ret
      refine ⟨rfl, ⟨by simp, fun j hj => ?_, fun j hj => ?_⟩, HNO.out.bel⟩
      · rw [HVR.out.cell]; exact HVK.out j hj
      · have := HNO.out.row j hj
        rwa [show rowF B.length (List.replicate (C.length * B.length) false) j = List.replicate B.length false by
          apply List.ext_getElem (by simp [rowF])
          intro q h1 h2
          simp [rowF, getF_nothing]]
    have y8 : (k : Int) < (C.length : Int) := by omega
    have y7 : (0 : Int) ≤ (k : Int) := by omega
    obtain ⟨u0, ck⟩ : ∃ u0, wr.cell? ⟨w.heap.size + 1, k, none⟩ = some u0 := ⟨vs[k]'(by omega), by rw [hvr.cell]; simp⟩
    have fz := hvr.frozen k
    have hgz : w.heap.size + 1 < wr.heap.size := by omega
    have HZ : Hid (wr.heap.size = w.heap.size + 1 + 1 + k) := hz
    clear hvr hz
    go_wp2
    obtain ⟨W1, hW1⟩ : ∃ W1, W1 = wr.setCell ⟨w.heap.size + 1, k, none⟩ (.slice (some ⟨wr.heap.size, 0, none⟩) B.length B.length) := ⟨_, rfl⟩
    have hz1 : W1.heap.size = wr.heap.size := by rw [hW1]; simp
    have hbn : Below W1.heap.size W1 (W1.alloc (.cells (madeCells #[.bool false] B.length) 4)) := (Below.refl _ _).alloc (Nat.le_refl _) _
    have hrn := Row.new W1 4 ((List.replicate B.length false).map Value.bool)
    rw [← made_bool] at hrn
    have q0 : W1.cell? ⟨w.heap.size, 0, none⟩ = some (.slice (some ⟨b0, o0, none⟩) B.length c0) := by rw [hW1]; exact cell_other p0 (by simp)
    have q1 : Below w.heap.size w W1 := by rw [hW1]; exact HNO.out.bel.setCell (by simp) _
    have q2 : Row W1 (w.heap.size + 1) 24 (vs.set k (.slice (some ⟨wr.heap.size, 0, none⟩) B.length B.length)) := by rw [hW1]; exact HVR.out.set k _
    have q3 : ∀ j, j < k → Row W1 (w.heap.size + 1 + 1 + j) 4 ((List.replicate B.length false).map Value.bool) := fun j hj => by rw [hW1]; exact (HNO.out.row j hj).other (by simp; omega) _
    rw [← hW1]
    refine ⟨⟨k + 1, by go_num, by omega, step_cell hbn q0, ?_⟩, by simp [intOf]; omega⟩
    refine ⟨step_below hbn q1, by simp [hz1, HZ.out]; omega, ⟨vs.set k (.slice (some ⟨wr.heap.size, 0, none⟩) B.length B.length), by simp [hvl], q2.below hbn, fun j hj => ?_⟩, fun j hj => ?_⟩
    · by_cases hjk : j = k
      · subst hjk
        rw [List.getElem?_set_self (by omega), HZ.out]
      · rw [List.getElem?_set_ne (Ne.symm hjk)]
        exact HVK.out j (by omega)
    · by_cases hjk : j = k
      · subst hjk
        rw [← HZ.out, ← hz1]
        exact hrn
      · exact (q3 j (by omega)).below hbn
theorem all_known {B : List Bool} {C : List LIns} (h : refMayB B C = true) : ∀ k, k < C.length → knownB (C.getD k .zero).op = true := by
  unfold refMayB at h
  simp only [Bool.and_eq_true] at h
  intro k hk
  have := List.all_eq_true.1 h.2 (C.getD k .zero) (by simp [List.getD, hk])
  unfold insB at this
  simp only [Bool.and_eq_true] at this
  obtain ⟨⟨⟨⟨⟨⟨hk, _⟩, hd⟩, ha⟩, hb⟩, hl⟩, _⟩ := this
  exact hk
def OwnAnsF (lo nB : Nat) (C : List LIns) (e : Ending) (w : World) : Prop := ∃ g L, lo ≤ g ∧ e = .returned (.tuple #[.slice (some ⟨g, 0, none⟩) C.length C.length, .int .i64 0]) ∧ MatF g nB C.length L w ∧ Snd nB C L ∧ Cls nB C L
def trueAt (w : World) (a : Addr) : Nat := match w.cell? a with
  | some (.bool true) => 1
  | _ => 0
def cntF (g nB nC : Nat) (w : World) : Nat := ((List.range (nC * nB)).map fun q => trueAt w ⟨g + 1 + q / nB, q % nB, none⟩).sum
theorem count_sum (L : List Bool) : ((List.range L.length).map fun q => if L.getD q false = true then 1 else 0).sum = L.count true := by
  induction L with
  | nil => rfl
  | cons b L ih =>
    rw [List.length_cons, List.range_succ_eq_map, List.map_cons, List.sum_cons, List.map_map]
    have e : ((fun q => if (b :: L).getD q false = true then 1 else 0) ∘ Nat.succ) = fun q => if L.getD q false = true then 1 else 0 := by funext q; simp
    rw [e, ih]
    cases b <;> simp [Nat.add_comm]
theorem MatF.cnt {g nB nC : Nat} {L : List Bool} {w : World} (h : MatF g nB nC L w) : cntF g nB nC w = L.count true := by
  rw [← count_sum]
  unfold cntF
  rw [h.len]
  congr 1
  apply List.map_congr_left
  intro q hq
  have hq' : q < nC * nB := by simpa using hq
  have hB : 0 < nB := by
    rcases Nat.eq_zero_or_pos nB with e | e
    · rw [e] at hq'; simp at hq'
    · exact e
  have h1 : q / nB < nC := Nat.div_lt_of_lt_mul (by rw [Nat.mul_comm]; exact hq')
  have h2 : q % nB < nB := Nat.mod_lt _ hB
  have hc := h.cell h1 h2
  have hd : q / nB * nB + q % nB = q := by rw [Nat.mul_comm]; exact Nat.div_add_mod q nB
  unfold getF at hc
  rw [hd] at hc
  unfold trueAt
  rw [hc]
  cases L.getD q false <;> simp
theorem count_le_flat {nB nC : Nat} {L : List Bool} (h : L.length = nC * nB) : L.count true ≤ nC * nB := by rw [← h]; exact List.count_le_length
set_option maxRecDepth 100000 in
set_option maxHeartbeats 1000000 in
theorem own_yesF (b0 o0 c0 b1 o1 c1 : Nat) (B : List Bool) (C : List LIns) (w : World) (h : Held w b0 o0 b1 o1 B C) (hn : ∀ i, i < C.length → 0 ≤ (C.getD i .zero).n ∧ (C.getD i .zero).n < 4294967296) (hm : refMayB B C = true) :
    Calls Tryz.prog 72 #[progV b0 o0 B.length c0 b1 o1 C.length c1] w fun e w' => OwnAnsF w.heap.size B.length C e w' ∧ Below w.heap.size w w' := by
  have hs : sizesB B C = true := by unfold refMayB at hm; simp only [Bool.and_eq_true] at hm; exact hm.1
  obtain ⟨s1, s2, s3, s4⟩ := sizes_of hs
  have hok := all_insOk hm hn
  have hkn := all_known hm
  have hmay : mayB B C = true := by rw [may_same]; exact hm
  have HMAY : Hid (∀ wx : World, Below w.heap.size w wx → Calls Tryz.prog 33 #[progV b0 o0 B.length c0 b1 o1 C.length c1] wx fun e w' => e = .returned (.bool true) ∧ Below wx.heap.size wx w') := fun wx hb => by
    have := may (progV b0 o0 B.length c0 b1 o1 C.length c1) B C wx ⟨⟨_, _, _, _, rfl, fun _ _ => ⟨b0, o0, b1, o1, rfl, rfl, h.later hb⟩⟩, by omega, by omega, hn⟩
    rwa [hmay] at this
  have HNO : Hid (∀ wx : World, Calls Tryz.prog 110 #[progV b0 o0 B.length c0 b1 o1 C.length c1] wx fun e w' => e = .returned (.slice (some ⟨wx.heap.size + 1, 0, none⟩) C.length C.length) ∧ MatF (wx.heap.size + 1) B.length C.length (List.replicate (C.length * B.length) false) w' ∧ Below wx.heap.size wx w') := fun wx => nothing b0 o0 c0 b1 o1 c1 B C wx s2 s4
  have hh0 := h.lt0
  have hh1 := h.lt1
  have HSP : Hid (∀ (g : Nat) (wx : World) (L : List Bool), w.heap.size ≤ g → Below w.heap.size w wx → MatF g B.length C.length L wx → Snd B.length C L → Calls Tryz.prog 111 #[progV b0 o0 B.length c0 b1 o1 C.length c1, .slice (some ⟨g, 0, none⟩) C.length C.length] wx fun e w' => SpreadAns B.length C g L e w' ∧ Below g wx w') := fun g wx L hg hb hM hS => spread g b0 o0 c0 b1 o1 c1 B C L wx s2 s4 (by omega) (by omega) (h.later hb) hok hkn hM hS s3
  clear h hn hm hs hok hkn hmay
  unfold progV
  go_enter Tryz.func72, Tryz.ntmps72
  go_wp2_with (first
    | (go_at_call 33; refine (HMAY.out _ ?_).mono ?_; (exact (Below.refl _ _).alloc (Nat.le_refl _) _); rintro e w1 ⟨rfl, hb1⟩; have p0 : w1.cell? ⟨w.heap.size, 0, none⟩ = some (.slice (some ⟨b0, o0, none⟩) B.length c0) := step_cell hb1 (by simp [go_sem]); have p1 : w1.cell? ⟨w.heap.size, 1, none⟩ = some (.slice (some ⟨b1, o1, none⟩) C.length c1) := step_cell hb1 (by simp [go_sem]); have HB1 : Hid (Below w.heap.size w w1) := over_alloc hb1; clear hb1)
    | (go_at_call 110; refine (HNO.out _).mono ?_; rintro e w2 ⟨rfl, hM2, hb2⟩; have HM2 : Hid (MatF (w1.heap.size + 1) B.length C.length (List.replicate (C.length * B.length) false) w2) := hM2; have HB2 : Hid (Below w1.heap.size w1 w2) := hb2; clear hM2 hb2))
  have hz1 : w.heap.size < w1.heap.size := World.block_lt_of_cell? w1 _ p0
  obtain ⟨g, hg⟩ : ∃ g, g = w1.heap.size + 1 := ⟨_, rfl⟩
  rw [← hg] at HM2 ⊢
  have HG : Hid (g = w1.heap.size + 1) := hg
  clear hg
  go_loopw [] (fun wr => ∃ L : List Bool, MatF g B.length C.length L wr ∧ Snd B.length C L ∧ Below w.heap.size w wr ∧ wr.cell? ⟨w.heap.size, 0, none⟩ = some (.slice (some ⟨b0, o0, none⟩) B.length c0) ∧ wr.cell? ⟨w.heap.size, 1, none⟩ = some (.slice (some ⟨b1, o1, none⟩) C.length c1)) (fun wr => C.length * B.length - cntF g B.length C.length wr)
  case atStart => exact ⟨_, HM2.out, snd_nothing _ _, step_below HB2.out HB1.out, step_cell HB2.out p0, step_cell HB2.out p1⟩
  case round =>
    clear HB1 HB2 HM2 p0 p1
    obtain ⟨L, hM, hS, hb, p0, p1⟩ := hrel
    have HM : Hid (MatF g B.length C.length L wr) := hM
    have HS : Hid (Snd B.length C L) := hS
    have HB : Hid (Below w.heap.size w wr) := hb
    have HCN : Hid (cntF g B.length C.length wr = L.count true) := hM.cnt
    clear hM hS hb
    have hgz : w.heap.size < g := by have := HG.out; omega
    go_wp2_with (go_at_call 111; refine (HSP.out g _ L (by omega) HB.out HM.out HS.out).mono ?_; rintro e w3 ⟨⟨m, L', rfl, hM', hsp⟩, hb3⟩; have HM3 : Hid (MatF g B.length C.length L' w3) := hM'; have HSPS : Hid (SpS B.length C L (fun _ _ => True) m L') := hsp; have HB3 : Hid (Below g wr w3) := hb3; clear hM' hsp hb3)
    · have hmt : m = true := by assumption
      have c1 := HM3.out.cnt
      have c2 := HSPS.out.yes hmt
      have c3 := count_le_flat HM3.out.len
      refine ⟨⟨L', HM3.out, HSPS.out.snd, HB.out.trans (HB3.out.mono (by omega)), ?_, ?_⟩, ?_⟩
      · rw [HB3.out.cell (by show w.heap.size < g; exact hgz)]; exact p0
      · rw [HB3.out.cell (by show w.heap.size < g; exact hgz)]; exact p1
      · rw [c1, HCN.out]; omega
    · have hmf : m = false := by simp_all
      obtain ⟨e1, e2⟩ := HSPS.out.no hmf
      have hcl : Cls B.length C L' := fun k t hk ht hg => e2 k t hk ht trivial hg
      refine bodyPost_ret (v := .tuple #[.slice (some ⟨g, 0, none⟩) C.length C.length, .int .i64 0]) ?_ rfl ⟨⟨g, L', by omega, rfl, HM3.out, HSPS.out.snd, hcl⟩, HB.out.trans (HB3.out.mono (by omega))⟩
      simp [results, Tryz.results72, go_sem]
theorem own_no (v : Value) (B : List Bool) (C : List LIns) (w : World) (h : ProgIs w v B C) (hm : refMayB B C = false) :
    Calls Tryz.prog 72 #[v] w fun e w' => e = .returned (.tuple #[.slice none 0 0, .int .i64 2]) ∧ Below w.heap.size w w' := by
  have hmay : mayB B C = false := by rw [may_same]; exact hm
  have h0 := h
  obtain ⟨⟨a0, c0, a1, c1, rfl, -⟩, -, -, -⟩ := h0
  have HMAY : Hid (∀ wx : World, Below w.heap.size w wx → Calls Tryz.prog 33 #[.agg #[.slice a0 B.length c0, .slice a1 C.length c1]] wx fun e w' => e = .returned (.bool false) ∧ Below wx.heap.size wx w') := fun wx hb => by
    have := may _ B C wx (h.later hb)
    rwa [hmay] at this
  clear h hm hmay
  go_enter Tryz.func72, Tryz.ntmps72
  go_wp2_with (go_at_call 33; refine (HMAY.out _ ?_).mono ?_; (exact (Below.refl _ _).alloc (Nat.le_refl _) _); rintro e w1 ⟨rfl, hb1⟩; have HB1 : Hid (Below w.heap.size w w1) := over_alloc hb1; clear hb1)
  refine bodyPost_ret (v := .tuple #[.slice none 0 0, .int .i64 2]) ?_ rfl ⟨rfl, HB1.out⟩
  simp [results, Tryz.results72, go_sem]
end form
/- What may not be in one place, the program's own: rows of nothing (near.none), and what is needed from the beginning on (near.joinFirst). -/
namespace form
open Go.RowKit
attribute [local go_sem ↓] Go.wp_at_zero Go.wp_at_succ
set_option maxRecDepth 100000 in
theorem none5 (n : Nat) (w : World) (hn : n ≤ 12) :
    Calls Tryz.prog 73 #[.int .i64 n] w fun e w' => e = .returned (.slice (some ⟨w.heap.size, 0, none⟩) n n) ∧ MatF w.heap.size n n (List.replicate (n * n) false) w' ∧ Below w.heap.size w w' := by
  have hmk := fun wx => run_make_row' (P := Tryz.prog) 24 4 (.bool false) 1 Tryz.underlying24 infBool rfl .i64 .i64 n (by omega) (by omega) wx
  have hmk2 := fun wx => run_make_row' (P := Tryz.prog) 102 24 (.slice none 0 0) 24 Tryz.underlying102 infRow rfl .i64 .i64 n (by omega) (by omega) wx
  have y2 : (n : Int) ≤ 12 := by omega
  go_enter Tryz.func73, Tryz.ntmps73
  go_wp2
  go_loopw [9] (fun kv wr => ∃ k : Nat, kv = .int .i64 k ∧ k ≤ n ∧ NoS w w.heap.size n n k wr) (fun kv _ => n - (intOf kv).toNat)
  case atStart =>
    refine ⟨0, rfl, by omega, (Below.refl _ _).alloc (Nat.le_refl _) _, by simp, ⟨List.replicate n (.slice none 0 0), by simp, ?_, fun j hj => absurd hj (by omega)⟩, fun j hj => absurd hj (by omega)⟩
    rw [made_rows]
    exact Row.new w 24 (List.replicate n (.slice none 0 0))
  case round =>
    obtain ⟨k, rfl, hk, hno⟩ := hrel
    have HNO : Hid (NoS w w.heap.size n n k wr) := hno
    have hz := hno.size
    obtain ⟨vs, hvl, hvr, hvk⟩ := hno.top
    clear hno
    have HVR : Hid (Row wr w.heap.size 24 vs) := hvr
    have HVK : Hid (∀ j, j < k → vs[j]? = some (.slice (some ⟨w.heap.size + 1 + j, 0, none⟩) n n)) := hvk
    clear hvk
    by_cases hlt : k < n
    case neg =>
      have y9 : ¬ (k : Int) < (n : Int) := by omega
      obtain rfl : k = n := by omega
      clear hvr
      go_wp2
      go_ret
      refine ⟨rfl, ⟨by simp, fun j hj => ?_, fun j hj => ?_⟩, HNO.out.bel⟩
      · rw [HVR.out.cell]; exact HVK.out j hj
      · have := HNO.out.row j hj
        rwa [show rowF k (List.replicate (k * k) false) j = List.replicate k false by
          apply List.ext_getElem (by simp [rowF])
          intro q h1 h2
          simp [rowF, getF_nothing]]
    have y8 : (k : Int) < (n : Int) := by omega
    have y7 : (0 : Int) ≤ (k : Int) := by omega
    obtain ⟨u0, ck⟩ : ∃ u0, wr.cell? ⟨w.heap.size, k, none⟩ = some u0 := ⟨vs[k]'(by omega), by rw [hvr.cell]; simp⟩
    have fz := hvr.frozen k
    have hgz : w.heap.size < wr.heap.size := by omega
    have HZ : Hid (wr.heap.size = w.heap.size + 1 + k) := hz
    clear hvr hz
    go_wp2
    obtain ⟨W1, hW1⟩ : ∃ W1, W1 = wr.setCell ⟨w.heap.size, k, none⟩ (.slice (some ⟨wr.heap.size, 0, none⟩) n n) := ⟨_, rfl⟩
    have hz1 : W1.heap.size = wr.heap.size := by rw [hW1]; simp
    have hbn : Below W1.heap.size W1 (W1.alloc (.cells (madeCells #[.bool false] n) 4)) := (Below.refl _ _).alloc (Nat.le_refl _) _
    have hrn := Row.new W1 4 ((List.replicate n false).map Value.bool)
    rw [← made_bool] at hrn
    have q1 : Below w.heap.size w W1 := by rw [hW1]; exact HNO.out.bel.setCell (by simp) _
    have q2 : Row W1 w.heap.size 24 (vs.set k (.slice (some ⟨wr.heap.size, 0, none⟩) n n)) := by rw [hW1]; exact HVR.out.set k _
    have q3 : ∀ j, j < k → Row W1 (w.heap.size + 1 + j) 4 ((List.replicate n false).map Value.bool) := fun j hj => by rw [hW1]; exact (HNO.out.row j hj).other (by simp; omega) _
    rw [← hW1]
    refine ⟨⟨k + 1, by go_num, by omega, ?_⟩, by simp [intOf]; omega⟩
    refine ⟨step_below hbn q1, by simp [hz1, HZ.out]; omega, ⟨vs.set k (.slice (some ⟨wr.heap.size, 0, none⟩) n n), by simp [hvl], q2.below hbn, fun j hj => ?_⟩, fun j hj => ?_⟩
    · by_cases hjk : j = k
      · subst hjk
        rw [List.getElem?_set_self (by omega), HZ.out]
      · rw [List.getElem?_set_ne (Ne.symm hjk)]
        exact HVK.out j (by omega)
    · by_cases hjk : j = k
      · subst hjk
        rw [← HZ.out, ← hz1]
        exact hrn
      · exact (q3 j (by omega)).below hbn
structure NM (w : World) (gn bx nB : Nat) (L : List Bool) (wr : World) : Prop where
  bel : Apart gn (gn + 1 + nB) w wr
  mat : MatF gn nB nB L wr
  box : wr.cell? ⟨bx, 0, none⟩ = some (.slice (some ⟨gn, 0, none⟩) nB nB)
theorem NM.join {w wr w1 : World} {gn bx nB : Nat} {L L' : List Bool} (h : NM w gn bx nB L wr) (hxn : ¬ (gn ≤ bx ∧ bx < gn + 1 + nB)) (hM : MatF gn nB nB L' w1) (ha : Apart gn (gn + 1 + nB) wr w1) : NM w gn bx nB L' w1 :=
  ⟨h.bel.trans ha, hM, ha.cell h.box hxn⟩
theorem NM.below {w wr w1 : World} {gn bx nB : Nat} {L : List Bool} (h : NM w gn bx nB L wr) (hb : Below wr.heap.size wr w1) : NM w gn bx nB L w1 :=
  ⟨h.bel.trans (Apart.of_below hb), h.mat.below hb, step_cell hb h.box⟩
def FirstP (P : Nat → Nat → Prop) (r : List Bool) (i : Nat) (x y : Nat) : Prop := P x y ∨ (¬ x = y ∧ x < i ∧ y < i ∧ r.getD x false = true ∧ r.getD y false = true)
set_option maxRecDepth 100000 in
set_option maxHeartbeats 1000000 in
theorem joinFirst (gn bx bf nB : Nat) (r L0 : List Bool) (P : Nat → Nat → Prop) (w : World) (hB : nB ≤ 12) (hxn : ¬ (gn ≤ bx ∧ bx < gn + 1 + nB)) (hbf : bf < gn) (hr : ∀ j, j < nB → w.cell? ⟨bf, j, none⟩ = some (.bool (r.getD j false))) (hN : NM w gn bx nB L0 w) (hS : NrS nB L0 P) :
    Calls Tryz.prog 75 #[.slice (some ⟨bf, 0, none⟩) nB nB, .func (.func 74) #[] #[.pointer (some ⟨bx, 0, none⟩)]] w fun e w' => e = .returned (.tuple #[]) ∧ ∃ L, NM w gn bx nB L w' ∧ NrS nB L (FirstP P r nB) := by
  have HJ : Hid (∀ (wx : World) (L : List Bool) (a b : Nat), NM w gn bx nB L wx → a < nB → b < nB → Calls Tryz.prog 74 #[.int .i64 a, .int .i64 b, .pointer (some ⟨bx, 0, none⟩)] wx fun e w' => e = .returned (.tuple #[]) ∧ MatF gn nB nB (joinL nB L a b) w' ∧ Apart gn (gn + 1 + nB) wx w') :=
    fun wx L a b hm ha hb => Go.Proofs.YtikhedkhgpjaaacGreatDoor.form.join gn bx nB a b L wx hB hm.box hxn hm.mat ha hb
  have HR : Hid (∀ (wx : World) (L : List Bool) (j : Nat), NM w gn bx nB L wx → j < nB → wx.cell? ⟨bf, j, none⟩ = some (.bool (r.getD j false))) := fun wx L j hm hj => hm.bel.cell (hr j hj) (by dsimp only; omega)
  have HN0 : Hid (NM w gn bx nB L0 w) := hN
  have HS0 : Hid (NrS nB L0 P) := hS
  have y4 : (nB : Int) ≤ 12 := by omega
  clear hr hN hS
  go_enter Tryz.func75, Tryz.ntmps75
  go_wp2
  go_loopw [8] (fun iv wr => ∃ (i : Nat) (L : List Bool), iv = .int .i64 i ∧ i ≤ nB ∧ NM w gn bx nB L wr ∧ NrS nB L (FirstP P r i)) (fun iv _ => nB - (intOf iv).toNat)
  case atStart => exact ⟨0, L0, rfl, by omega, HN0.out, HS0.out.congr fun x y _ _ => by unfold FirstP; grind⟩
  case round =>
    obtain ⟨i, L, rfl, hi, hnm, hns⟩ := hrel
    have HNM : Hid (NM w gn bx nB L wr) := hnm
    have HNS : Hid (NrS nB L (FirstP P r i)) := hns
    clear hnm hns
    by_cases hlt : i < nB
    case neg =>
      have y9 : ¬ (i : Int) < (nB : Int) := by omega
      obtain rfl : i = nB := by omega
      go_wp2
      go_end0
      exact ⟨rfl, L, HNM.out, HNS.out⟩
    have y8 : (i : Int) < (nB : Int) := by omega
    have y7 : (0 : Int) ≤ (i : Int) := by omega
    go_wp2
    go_loopw [12] (fun jv wr2 => ∃ (j : Nat) (L : List Bool), jv = .int .i64 j ∧ j ≤ i ∧ NM w gn bx nB L wr2 ∧ NrS nB L (JoinP (FirstP P r i) i (fun y => y < j ∧ r.getD i false = true ∧ r.getD y false = true))) (fun jv _ => i - (intOf jv).toNat)
    case atStart => exact ⟨0, L, rfl, by omega, HNM.out, HNS.out.congr fun x y _ _ => by unfold JoinP; grind⟩
    case round =>
      clear HNM HNS
      obtain ⟨j, L, rfl, hj, hnm, hns⟩ := hrel
      have HNM : Hid (NM w gn bx nB L wr) := hnm
      have HNS : Hid (NrS nB L (JoinP (FirstP P r i) i (fun y => y < j ∧ r.getD i false = true ∧ r.getD y false = true))) := hns
      clear hnm hns
      by_cases hjt : j < i
      case neg =>
        have z9 : ¬ (j : Int) < (i : Int) := by omega
        go_wp2
        go_roundw
        case rel => exact ⟨i + 1, L, by go_num, by omega, HNM.out, HNS.out.congr fun x y _ _ => by unfold JoinP FirstP; grind⟩
        case measure => simp [intOf]; omega
      have z8 : (j : Int) < (i : Int) := by omega
      have z7 : (0 : Int) ≤ (j : Int) := by omega
      have z6 : (j : Int) < (nB : Int) := by omega
      have k1 := HR.out wr L i HNM.out hlt
      have k2 := HR.out wr L j HNM.out (by omega)
      obtain ⟨u, hu⟩ : ∃ u, u = r.getD i false := ⟨_, rfl⟩
      obtain ⟨v, hv⟩ : ∃ v, v = r.getD j false := ⟨_, rfl⟩
      rw [← hu] at k1
      rw [← hv] at k2
      have HU : Hid (r.getD i false = u) := hu.symm
      have HV : Hid (r.getD j false = v) := hv.symm
      clear hu hv
      cases u with
      | false =>
        go_wp2
        refine ⟨⟨j + 1, L, by go_num, by omega, HNM.out, HNS.out.congr fun x y _ _ => ?_⟩, by simp [intOf]; omega⟩
        have := HU.out
        unfold JoinP
        grind
      | true =>
        cases v with
        | false =>
          go_wp2
          refine ⟨⟨j + 1, L, by go_num, by omega, HNM.out, HNS.out.congr fun x y _ _ => ?_⟩, by simp [intOf]; omega⟩
          have := HV.out
          unfold JoinP
          grind
        | true =>
          go_wp2_with (go_at_call 74; refine (HJ.out _ L i j HNM.out hlt (by omega)).mono ?_; rintro e w1 ⟨rfl, hM1, hA1⟩; have HNM1 : Hid (NM w gn bx nB (joinL nB L i j) w1) := HNM.out.join hxn hM1 hA1; clear hM1 hA1)
          refine ⟨⟨j + 1, joinL nB L i j, by go_num, by omega, HNM1.out, (HNS.out.join hlt (by omega)).congr fun x y _ _ => ?_⟩, by simp [intOf]; omega⟩
          have h1 := HU.out
          have h2 := HV.out
          unfold JoinP
          grind
end form
/- What may not be in one place, the program's own: what an instruction gives with what is needed behind it (near.joinGiven). -/
namespace form
open Go.RowKit
attribute [local go_sem ↓] Go.wp_at_zero Go.wp_at_succ
theorem isMoved (i : LIns) (t : Nat) (w : World) :
    Calls Tryz.prog 114 #[i.val, .int .i64 t] w fun e w' => e = .returned (.bool ((i.op == 2) && (i.a == (t : Int)))) ∧ Below w.heap.size w w' := by
  unfold LIns.val
  have HB : Hid (∀ o : Obj, Below w.heap.size w (w.alloc o)) := fun o => (Below.refl _ _).alloc (Nat.le_refl _) _
  go_enter Tryz.func114, Tryz.ntmps114
  go_wp2
  · go_ret
    rename_i hne
    exact ⟨ret_bool (by simp [hne]), HB.out _⟩
  · go_ret
    rename_i heq
    exact ⟨ret_bool (by simp [heq]), HB.out _⟩
def NearF (nB : Nat) (C : List LIns) (LN : List Bool) (k a b : Nat) : Prop :=
  givesT (C.getD k .zero) a = true ∧ ¬ ((C.getD k .zero).op = 2 ∧ (C.getD k .zero).a = (b : Int)) ∧ ∃ x, x ∈ goesI C.length (C.getD k .zero) k ∧ getF nB LN x.toNat b = true
def GivenP (P : Nat → Nat → Prop) (nB : Nat) (C : List LIns) (LN : List Bool) (k : Nat) (x y : Nat) : Prop := P x y ∨ (¬ x = y ∧ (NearF nB C LN k x y ∨ NearF nB C LN k y x))
set_option maxRecDepth 100000 in
set_option maxHeartbeats 1000000 in
theorem joinGiven (gn bx g b0 o0 c0 b1 o1 c1 : Nat) (B : List Bool) (C : List LIns) (LN L0 : List Bool) (P : Nat → Nat → Prop) (k : Nat) (w : World) (hB : B.length ≤ 12) (hC : C.length ≤ 40) (hxn : ¬ (gn ≤ bx ∧ bx < gn + 1 + B.length)) (hgn : g + C.length < gn) (hg0 : b0 < gn) (hg1 : b1 < gn) (h : Held w b0 o0 b1 o1 B C)
    (hok : ∀ k, k < C.length → InsOk B.length C.length (C.getD k .zero)) (hkn : ∀ k, k < C.length → knownB (C.getD k .zero).op = true) (hM : MatF g B.length C.length LN w) (hk : k < C.length) (hN : NM w gn bx B.length L0 w) (hS : NrS B.length L0 P) (hB1 : 1 ≤ B.length) :
    Calls Tryz.prog 76 #[progV b0 o0 B.length c0 b1 o1 C.length c1, .slice (some ⟨g, 0, none⟩) C.length C.length, .int .i64 k, .func (.func 74) #[] #[.pointer (some ⟨bx, 0, none⟩)]] w fun e w' => e = .returned (.tuple #[]) ∧ ∃ L, NM w gn bx B.length L w' ∧ NrS B.length L (GivenP P B.length C LN k) := by
  have hgl : gn + B.length < w.heap.size := by have := (hN.mat.row (B.length - 1) (by omega)).lt; omega
  obtain ⟨d0, d1, d2, d3, d4, d5⟩ := h.code k hk
  have HGO : Hid (∀ wx : World, Below w.heap.size w wx → Calls Tryz.prog 113 #[progV b0 o0 B.length c0 b1 o1 C.length c1, .int .i64 k] wx fun e w' => (∃ v, e = .returned v ∧ IntsAt wx.heap.size w' v (goesI C.length (C.getD k .zero) k)) ∧ Below wx.heap.size wx w') := fun wx hb => goesOn b0 o0 c0 b1 o1 c1 B C k wx hC (h.later hb) hk
  have HTH : Hid (∀ x, x ∈ goesI C.length (C.getD k .zero) k → 0 ≤ x ∧ x < C.length) := fun x hx => goes_there hx
  have hgi := goes_len C.length (C.getD k .zero) k
  have hdest : givesB (C.getD k .zero).op = true → 0 ≤ (C.getD k .zero).dest ∧ (C.getD k .zero).dest < B.length := (hok k hk).d
  have hP0 : isT (kd (C.getD k .zero).op 0) = givesB (C.getD k .zero).op := isT_gives (hkn k hk)
  have HH : Hid (∀ wx : World, Calls Tryz.prog 112 #[.int .i64 (C.getD k .zero).op] wx fun e w' => e = .returned (.tuple #[.bool (givesB (C.getD k .zero).op), .bool (isT (kd (C.getD k .zero).op 1)), .bool (isT (kd (C.getD k .zero).op 2))]) ∧ Below wx.heap.size wx w') := fun wx => by rw [← hP0]; exact has (C.getD k .zero).op wx
  have HJ : Hid (∀ (wx : World) (L : List Bool) (a b : Nat), NM w gn bx B.length L wx → a < B.length → b < B.length → Calls Tryz.prog 74 #[.int .i64 a, .int .i64 b, .pointer (some ⟨bx, 0, none⟩)] wx fun e w' => e = .returned (.tuple #[]) ∧ MatF gn B.length B.length (joinL B.length L a b) w' ∧ Apart gn (gn + 1 + B.length) wx w') :=
    fun wx L a b hm ha hb => Go.Proofs.YtikhedkhgpjaaacGreatDoor.form.join gn bx B.length a b L wx hB hm.box hxn hm.mat ha hb
  unfold GivenP NearF
  obtain ⟨i, hi⟩ : ∃ i, i = C.getD k .zero := ⟨_, rfl⟩
  rw [← hi] at d0 d1 d2 d3 d4 d5 HGO HTH HH hgi hdest
  rw [← hi]
  obtain ⟨N, hN9⟩ : ∃ N, N = goesI C.length i k := ⟨_, rfl⟩
  rw [← hN9] at HGO HTH hgi
  rw [← hN9]
  clear hi hN9 hP0
  have hlt1 := h.lt1
  have HM : Hid (MatF g B.length C.length LN w) := hM
  have HN0 : Hid (NM w gn bx B.length L0 w) := hN
  have HS0 : Hid (NrS B.length L0 P) := hS
  have y0 : (0 : Int) ≤ (k : Int) := by omega
  have y1 : (k : Int) < (C.length : Int) := by omega
  have y2 : (C.length : Int) ≤ 40 := by omega
  have x2 : (B.length : Int) ≤ 12 := by omega
  clear hM hok hkn h hN hS
  unfold progV
  obtain ⟨P1, hP1⟩ : ∃ x, x = isT (kd i.op 1) := ⟨_, rfl⟩
  obtain ⟨P2, hP2⟩ : ∃ x, x = isT (kd i.op 2) := ⟨_, rfl⟩
  rw [← hP1, ← hP2] at HH
  clear hP1 hP2
  rcases Bool.eq_false_or_eq_true (givesB i.op) with hgv | hgv
  case inr =>
    rw [hgv] at HH
    have HGV : Hid (givesB i.op = false) := hgv
    clear hgv hdest
    go_enter Tryz.func76, Tryz.ntmps76
    go_wp2_with (go_at_call 112; refine (HH.out _).mono ?_; rintro e w1 ⟨rfl, hb1⟩; have HB1 : Hid (Below w.heap.size w w1) := ((((Below.refl _ _).alloc (Nat.le_refl _) _).alloc (by simp) _).trans (hb1.mono (by simp; omega))))
    refine bodyPost_ret (results_none rfl _ _ _) rfl ?_
    refine ⟨rfl, L0, HN0.out.below HB1.out, HS0.out.congr fun x y _ _ => ?_⟩
    unfold givesT
    rw [HGV.out]
    simp
  rw [hgv] at HH
  obtain ⟨hd0, hd1⟩ := hdest hgv
  obtain ⟨D, hD⟩ : ∃ D : Nat, i.dest = D := Int.eq_ofNat_of_zero_le hd0
  have hDB : D < B.length := by omega
  rw [hD] at d1
  have HD : Hid (i.dest = (D : Int)) := hD
  clear hD hd0 hd1
  have HGV : Hid (givesB i.op = true) := hgv
  clear hgv hdest
  go_enter Tryz.func76, Tryz.ntmps76
  go_wp2_with (first
      | (go_at_call 112; refine (HH.out _).mono ?_; rintro e w1 ⟨rfl, hb1⟩; have HB1 : Hid (Below w.heap.size w w1) := ((((Below.refl _ _).alloc (Nat.le_refl _) _).alloc (by simp) _).trans (hb1.mono (by simp; omega))); have f0 : w1.cell? ⟨w.heap.size + 1, 0, none⟩ = some (.int .i64 i.op) := step_cell hb1 (by simp [go_sem]); have f1 : w1.cell? ⟨w.heap.size + 1, 1, none⟩ = some (.int .i64 D) := step_cell hb1 (by simp [go_sem]); have f2 : w1.cell? ⟨w.heap.size + 1, 2, none⟩ = some (.int .i64 i.a) := step_cell hb1 (by simp [go_sem]); have f3 : w1.cell? ⟨w.heap.size + 1, 3, none⟩ = some (.int .i64 i.b) := step_cell hb1 (by simp [go_sem]); have f4 : w1.cell? ⟨w.heap.size + 1, 4, none⟩ = some (.int .i64 i.c) := step_cell hb1 (by simp [go_sem]); have f5 : w1.cell? ⟨w.heap.size + 1, 5, none⟩ = some (.int .u32 i.n) := step_cell hb1 (by simp [go_sem]); have p0 : w1.cell? ⟨w.heap.size, 0, none⟩ = some (.slice (some ⟨b0, o0, none⟩) B.length c0) := step_cell hb1 (by simp [go_sem]); have p1 : w1.cell? ⟨w.heap.size, 1, none⟩ = some (.slice (some ⟨b1, o1, none⟩) C.length c1) := step_cell hb1 (by simp [go_sem]); clear hb1)
      | (go_at_call 113; refine (HGO.out _ HB1.out).mono ?_; rintro e w3 ⟨⟨nv, rfl, hnv⟩, hb3⟩; have HNV : Hid _ := hnv; obtain ⟨nao, ncap, rfl, -⟩ := hnv; have HB3 : Hid (Below w.heap.size w w3) := step_below hb3 HB1.out; have q0 := step_cell hb3 f0; have q1 := step_cell hb3 f1; have q2 := step_cell hb3 f2; have q3 := step_cell hb3 f3; have q4 := step_cell hb3 f4; have q5 := step_cell hb3 f5; have hz1 : w.heap.size + 1 < w1.heap.size := World.block_lt_of_cell? w1 _ f0; have hz13 := hb3.size; clear hb3))
  have HIM : Hid (∀ (t : Nat) (wx : World), Calls Tryz.prog 114 #[.agg #[.int .i64 i.op, .int .i64 D, .int .i64 i.a, .int .i64 i.b, .int .i64 i.c, .int .u32 i.n], .int .i64 t] wx fun e w' => e = .returned (.bool ((i.op == 2) && (i.a == (t : Int)))) ∧ Below wx.heap.size wx w') := fun t wx => by
    have := isMoved i t wx
    unfold LIns.val at this
    rwa [HD.out] at this
  have HJ3 : Hid (∀ (wx : World) (L : List Bool) (a b : Nat), NM w3 gn bx B.length L wx → a < B.length → b < B.length → Calls Tryz.prog 74 #[.int .i64 a, .int .i64 b, .pointer (some ⟨bx, 0, none⟩)] wx fun e w' => e = .returned (.tuple #[]) ∧ MatF gn B.length B.length (joinL B.length L a b) w' ∧ Apart gn (gn + 1 + B.length) wx w') :=
    fun wx L a b hm ha hb => Go.Proofs.YtikhedkhgpjaaacGreatDoor.form.join gn bx B.length a b L wx hB hm.box hxn hm.mat ha hb
  have HM3 : Hid (MatF g B.length C.length LN w3) := HM.out.below HB3.out
  have HN3 : Hid (NM w3 gn bx B.length L0 w3) := ⟨Apart.refl _ _ _, (HN0.out.below HB3.out).mat, (HN0.out.below HB3.out).box⟩
  have HNW : Hid (∀ (wx : World) (L : List Bool), NM w3 gn bx B.length L wx → NM w gn bx B.length L wx) := fun wx L hm => ⟨(Apart.of_below HB3.out).trans hm.bel, hm.mat, hm.box⟩
  have HQ : Hid (∀ (wx : World) (L : List Bool), NM w3 gn bx B.length L wx → wx.cell? ⟨w.heap.size + 1, 0, none⟩ = some (.int .i64 i.op) ∧ wx.cell? ⟨w.heap.size + 1, 1, none⟩ = some (.int .i64 D) ∧ wx.cell? ⟨w.heap.size + 1, 2, none⟩ = some (.int .i64 i.a) ∧ wx.cell? ⟨w.heap.size + 1, 3, none⟩ = some (.int .i64 i.b) ∧ wx.cell? ⟨w.heap.size + 1, 4, none⟩ = some (.int .i64 i.c) ∧ wx.cell? ⟨w.heap.size + 1, 5, none⟩ = some (.int .u32 i.n)) :=
    fun wx L hm => ⟨hm.bel.cell q0 (by dsimp only; omega), hm.bel.cell q1 (by dsimp only; omega), hm.bel.cell q2 (by dsimp only; omega), hm.bel.cell q3 (by dsimp only; omega), hm.bel.cell q4 (by dsimp only; omega), hm.bel.cell q5 (by dsimp only; omega)⟩
  have HR : Hid (∀ (wx : World) (L : List Bool) (Y : Nat), NM w3 gn bx B.length L wx → Y < C.length → wx.cell? ⟨g, Y, none⟩ = some (.slice (some ⟨g + 1 + Y, 0, none⟩) B.length B.length) ∧ ∀ t, t < B.length → wx.cell? ⟨g + 1 + Y, t, none⟩ = some (.bool (getF B.length LN Y t))) :=
    fun wx L Y hm hY => ⟨hm.bel.cell (HM3.out.top Y hY) (by dsimp only; omega), fun t ht => hm.bel.cell (HM3.out.cell hY ht) (by dsimp only; omega)⟩
  have HW3 : Hid (∀ (wx : World) (L : List Bool), NM w3 gn bx B.length L wx → 0 < N.length → ∃ gb, nao = some ⟨gb, 0, none⟩ ∧ gb < w3.heap.size ∧ ∀ q, q < N.length → wx.cell? ⟨gb, q, none⟩ = some (.int .i64 (N.getD q 0))) := by
    intro wx L hm h0
    obtain ⟨_, _, he, hh⟩ := HNV.out
    simp at he
    obtain ⟨rfl, rfl⟩ := he
    obtain ⟨gb, e1, e2, e3, e4⟩ := hh h0
    exact ⟨gb, e1, e3, fun q hq => hm.bel.cell (e4 q hq) (by dsimp only; omega)⟩
  have z3 : (N.length : Int) ≤ 2 := by omega
  clear HNV HB1 p0 p1 f0 f1 f2 f3 f4 f5 d0 d1 d2 d3 d4 d5 q0 q1 q2 q3 q4 q5 HJ
  go_loopw [34] (fun jv wr => ∃ (j : Nat) (L : List Bool), jv = .int .i64 j ∧ j ≤ N.length ∧ NM w3 gn bx B.length L wr ∧ NrS B.length L (JoinP P D (fun t => (∃ q, q < j ∧ getF B.length LN (N.getD q 0).toNat t = true) ∧ ¬ (i.op = 2 ∧ i.a = (t : Int))))) (fun jv _ => N.length - (intOf jv).toNat)
  case atStart => exact ⟨0, L0, rfl, by omega, HN3.out, HS0.out.congr fun x y _ _ => by unfold JoinP; grind⟩
  case round =>
    obtain ⟨j, L, rfl, hj, hnm, hns⟩ := hrel
    have HNM : Hid (NM w3 gn bx B.length L wr) := hnm
    have HNS : Hid (NrS B.length L (JoinP P D (fun t => (∃ q, q < j ∧ getF B.length LN (N.getD q 0).toNat t = true) ∧ ¬ (i.op = 2 ∧ i.a = (t : Int))))) := hns
    clear hnm hns
    by_cases hjl : j < N.length
    case neg =>
      have y9 : ¬ (j : Int) < (N.length : Int) := by omega
      go_wp2
      go_end0
      refine ⟨rfl, L, HNW.out _ _ HNM.out, HNS.out.congr fun x y _ _ => ?_⟩
      obtain rfl : j = N.length := by omega
      have hmem : ∀ b : Nat, (∃ q, q < N.length ∧ getF B.length LN (N.getD q 0).toNat b = true) ↔ ∃ x, x ∈ N ∧ getF B.length LN x.toNat b = true := by
        intro b
        constructor
        · rintro ⟨q, hq, hg⟩
          exact ⟨N.getD q 0, by simp [List.getD, hq], hg⟩
        · rintro ⟨x, hx, hg⟩
          obtain ⟨q, hq, rfl⟩ := List.getElem_of_mem hx
          exact ⟨q, hq, by rw [show N.getD q 0 = N[q] by simp [List.getD, hq]]; exact hg⟩
      have hgt : ∀ b : Nat, givesT i b = true ↔ b = D := by
        intro b
        unfold givesT
        rw [HGV.out, HD.out]
        simp
        omega
      unfold JoinP
      simp only [hmem, hgt]
      grind
    obtain ⟨gb, rfl, hgb2, hgbc⟩ := HW3.out wr L HNM.out (by omega)
    have nj := hgbc j hjl
    have hmem : N.getD j 0 ∈ N := by simp [List.getD, hjl]
    have hyb := HTH.out _ hmem
    obtain ⟨Y, hY⟩ : ∃ Y : Nat, N.getD j 0 = Y := Int.eq_ofNat_of_zero_le hyb.1
    rw [hY] at nj hyb
    have HY : Hid (N.getD j 0 = (Y : Int)) := hY
    clear hgbc hY hmem
    have hYC : Y < C.length := by omega
    obtain ⟨m1, -⟩ := HR.out wr L Y HNM.out hYC
    have y8 : (j : Int) < (N.length : Int) := by omega
    have y7 : (0 : Int) ≤ (j : Int) := by omega
    have y6 : (0 : Int) ≤ (Y : Int) := by omega
    have y5 : (Y : Int) < (C.length : Int) := by omega
    go_wp2
    go_loopw [43] (fun tv wr2 => ∃ (t : Nat) (L : List Bool), tv = .int .i64 t ∧ t ≤ B.length ∧ NM w3 gn bx B.length L wr2 ∧ NrS B.length L (JoinP P D (fun t' => ((∃ q, q < j ∧ getF B.length LN (N.getD q 0).toNat t' = true) ∨ (t' < t ∧ getF B.length LN Y t' = true)) ∧ ¬ (i.op = 2 ∧ i.a = (t' : Int))))) (fun tv _ => B.length - (intOf tv).toNat)
    case atStart => exact ⟨0, L, rfl, by omega, HNM.out, HNS.out.congr fun x y _ _ => by unfold JoinP; grind⟩
    case round =>
      clear HNM HNS m1 nj
      obtain ⟨t, L, rfl, ht, hnm, hns⟩ := hrel
      have HNM : Hid (NM w3 gn bx B.length L wr) := hnm
      have HNS : Hid (NrS B.length L (JoinP P D (fun t' => ((∃ q, q < j ∧ getF B.length LN (N.getD q 0).toNat t' = true) ∨ (t' < t ∧ getF B.length LN Y t' = true)) ∧ ¬ (i.op = 2 ∧ i.a = (t' : Int))))) := hns
      clear hnm hns
      by_cases htl : t < B.length
      case neg =>
        have z9 : ¬ (t : Int) < (B.length : Int) := by omega
        go_wp2
        go_roundw
        case rel =>
          refine ⟨j + 1, L, by go_num, by omega, HNM.out, HNS.out.congr fun x y hx hy => ?_⟩
          have hex : ∀ b : Nat, (∃ q, q < j + 1 ∧ getF B.length LN (N.getD q 0).toNat b = true) ↔ (∃ q, q < j ∧ getF B.length LN (N.getD q 0).toNat b = true) ∨ getF B.length LN Y b = true := by
            intro b
            have e : (N.getD j 0).toNat = Y := by rw [HY.out]; simp
            constructor
            · rintro ⟨q, hq, hg⟩
              by_cases hqj : q < j
              · exact Or.inl ⟨q, hqj, hg⟩
              · obtain rfl : q = j := by omega
                rw [e] at hg
                exact Or.inr hg
            · rintro (⟨q, hq, hg⟩ | hg)
              · exact ⟨q, by omega, hg⟩
              · exact ⟨j, by omega, by rw [e]; exact hg⟩
          unfold JoinP
          simp only [hex]
          have hxt : x < t := by omega
          have hyt : y < t := by omega
          simp only [hxt, hyt, true_and]
        case measure => simp [intOf]; omega
      have z8 : (t : Int) < (B.length : Int) := by omega
      have z7 : (0 : Int) ≤ (t : Int) := by omega
      have m2 := (HR.out wr L Y HNM.out hYC).2 t htl
      obtain ⟨q0, q1, q2, q3, q4, q5⟩ := HQ.out wr L HNM.out
      obtain ⟨u, hu⟩ : ∃ u, u = getF B.length LN Y t := ⟨_, rfl⟩
      rw [← hu] at m2
      have HU : Hid (getF B.length LN Y t = u) := hu.symm
      clear hu
      obtain ⟨mv, hmv⟩ : ∃ mv, mv = ((i.op == 2) && (i.a == (t : Int))) := ⟨_, rfl⟩
      have HMV : Hid (((i.op == 2) && (i.a == (t : Int))) = mv) := hmv.symm
      clear hmv
      have hzz : w.heap.size + 1 < wr.heap.size := World.block_lt_of_cell? wr _ q0
      cases u with
      | false =>
        go_wp2
        refine ⟨⟨t + 1, L, by go_num, by omega, HNM.out, HNS.out.congr fun x y _ _ => ?_⟩, by simp [intOf]; omega⟩
        have := HU.out
        have e : ∀ b : Nat, (b < t + 1 ∧ getF B.length LN Y b = true) ↔ (b < t ∧ getF B.length LN Y b = true) := by grind
        unfold JoinP
        simp only [e]
      | true =>
        cases mv with
        | true =>
          go_wp2_with (go_at_call 114; refine (HIM.out t _).mono ?_; rw [HMV.out]; rintro e w5 ⟨rfl, hb5⟩; have HN5 : Hid (NM w3 gn bx B.length L w5) := HNM.out.below hb5; clear hb5)
          refine ⟨⟨t + 1, L, by go_num, by omega, HN5.out, HNS.out.congr fun x y _ _ => ?_⟩, by simp [intOf]; omega⟩
          have h1 := HMV.out
          simp only [Bool.and_eq_true, beq_iff_eq] at h1
          have e : ∀ b : Nat, (((∃ q, q < j ∧ getF B.length LN (N.getD q 0).toNat b = true) ∨ (b < t ∧ getF B.length LN Y b = true)) ∧ ¬ (i.op = 2 ∧ i.a = (b : Int))) ↔ (((∃ q, q < j ∧ getF B.length LN (N.getD q 0).toNat b = true) ∨ (b < t + 1 ∧ getF B.length LN Y b = true)) ∧ ¬ (i.op = 2 ∧ i.a = (b : Int))) := by
            intro b
            by_cases hb : b = t
            · subst hb; simp [h1]
            · rw [show (b < t + 1) ↔ (b < t) by omega]
          unfold JoinP
          simp only [e]
        | false =>
          go_wp2_with (first
            | (go_at_call 114; refine (HIM.out t _).mono ?_; rw [HMV.out]; rintro e w5 ⟨rfl, hb5⟩; have HN5 : Hid (NM w3 gn bx B.length L w5) := HNM.out.below hb5; clear hb5; clear q0 q1 q2 q3 q4 q5; obtain ⟨q0, q1, q2, q3, q4, q5⟩ := HQ.out w5 L HN5.out)
            | (go_at_call 74; refine (HJ3.out _ L D t HN5.out hDB htl).mono ?_; rintro e w6 ⟨rfl, hM6, hA6⟩; have HN6 : Hid (NM w3 gn bx B.length (joinL B.length L D t) w6) := HN5.out.join hxn hM6 hA6; clear hM6 hA6))
          refine ⟨⟨t + 1, joinL B.length L D t, by go_num, by omega, HN6.out, (HNS.out.join hDB htl).congr fun x y _ _ => ?_⟩, by simp [intOf]; omega⟩
          have h1 := HMV.out
          have h2 := HU.out
          simp only [Bool.and_eq_false_iff, beq_eq_false_iff_ne, ne_eq] at h1
          have e : ∀ b : Nat, ((((∃ q, q < j ∧ getF B.length LN (N.getD q 0).toNat b = true) ∨ (b < t ∧ getF B.length LN Y b = true)) ∧ ¬ (i.op = 2 ∧ i.a = (b : Int))) ∨ b = t) ↔ (((∃ q, q < j ∧ getF B.length LN (N.getD q 0).toNat b = true) ∨ (b < t + 1 ∧ getF B.length LN Y b = true)) ∧ ¬ (i.op = 2 ∧ i.a = (b : Int))) := by
            intro b
            by_cases hb : b = t
            · subst hb
              simp only [h2, or_true, true_iff, Nat.lt_add_one, true_and]
              grind
            · rw [show (b < t + 1) ↔ (b < t) by omega]
              simp only [hb, or_false]
          unfold JoinP
          simp only [e]
end form
end Go.Proofs.YtikhedkhgpjaaacGreatDoor
