/- The greatest sets, by rounds: the walk (loanbookref8.World.Sets). -/
import Derived.Test.YtcmnmogmdhofcaaGreatF26

namespace Go.Proofs.YtcmnmogmdhofcaaGreat.form
open Go.RowKit Go.Proofs.YtcmnmogmdhofcaaGreat.num
set_option linter.unusedVariables false
attribute [local go_sem ↓] Go.wp_at_zero Go.wp_at_succ

theorem infRow8 : (Tryz.prog.info? 22).map (fun i => (i.zero, i.size, i.bytes)) = some (some (.slice none 0 0), 1, 24) := by kernel_rfl

theorem made_rows8 (n : Nat) : madeCells #[Value.slice none 0 0] n = (List.replicate n (Value.slice none 0 0)).toArray := by
  apply Array.toList_inj.1
  rw [toList_madeCells_one]

structure MkR (w : World) (boxes : List (Nat × TypeId × List Value)) (T Cb g nB nC k : Nat) (come X : List Bool) (wr : World) : Prop where
  bel : Below w.heap.size w wr
  size : wr.heap.size = g + k + 1
  bx : ∀ x, x ∈ boxes → Row wr x.1 x.2.1 x.2.2
  cm : Row wr Cb 4 (come.map Value.bool)
  top : ∃ vs : List Value, vs.length = nC ∧ Row wr T 22 vs ∧ ∀ j, j < k + 1 → vs[j]? = some (.slice (some ⟨g + j, 0, none⟩) nB nB)
  row : ∀ j, j < k → Row wr (g + j) 4 ((List.replicate nB true).map Value.bool)
  cur : Row wr (g + k) 4 (X.map Value.bool)

theorem MkR.set {w wr : World} {boxes : List (Nat × TypeId × List Value)} {T Cb g nB nC k : Nat} {come X : List Bool} (h : MkR w boxes T Cb g nB nC k come X wr) (hb : ∀ x, x ∈ boxes → x.1 < g) (hT : T < g) (hC : Cb < g) (hg : w.heap.size ≤ g) (i : Nat) : MkR w boxes T Cb g nB nC k come (X.set i true) (wr.setCell ⟨g + k, i, none⟩ (.bool true)) := by
  obtain ⟨vs, h1, h2, h3⟩ := h.top
  refine ⟨h.bel.setCell (by show w.heap.size ≤ g + k; omega) _, by simpa using h.size, fun x hx => (h.bx x hx).other (by have := hb x hx; show x.1 ≠ g + k; omega) _, h.cm.other (by show Cb ≠ g + k; omega) _, ⟨vs, h1, h2.other (by show T ≠ g + k; omega) _, h3⟩, fun j hj => (h.row j hj).other (by show g + j ≠ g + k; omega) _, ?_⟩
  have := h.cur.set i (.bool true)
  simpa [List.map_set] using this
theorem MkR.fin {w wr : World} {boxes : List (Nat × TypeId × List Value)} {T Cb g nB nC k : Nat} {come X : List Bool} (h : MkR w boxes T Cb g nB nC k come X wr) (hl : X.length = nB) (hX : ∀ j, j < nB → X.getD j false = true) : MkS w boxes T Cb g nB nC (k + 1) come wr := by
  have e : X = List.replicate nB true := by
    apply List.ext_getElem (by simp [hl])
    intro j h1 h2
    have := hX j (by omega)
    simpa [List.getD, h1] using this
  refine ⟨h.bel, by rw [h.size]; omega, h.bx, h.cm, h.top, fun j hj => ?_⟩
  by_cases e2 : j = k
  · subst e2; rw [← e]; exact h.cur
  · exact h.row j (by omega)

def reach_of (C : List LIns) (k : Nat) : Prop := Reach C k → ∀ u, u ∈ nextsN (C.getD k .zero) k → u < C.length → Reach C u

def FinK (B : List Bool) (C : List LIns) (s slots : Int) (R : List LRow) (F : List LFact) (come L : List Bool) (t : Bool) : Prop :=
  (∀ k, k < C.length → (come.getD k false = true ↔ Reach C k)) ∧ (∀ k f, k < C.length → Reach C k → (setK F L k f ↔ Known B C s slots R k f)) ∧
    (t = true ↔ ∀ k, Reach C k → k < C.length → usesK (FactOk B s slots (NumP C)) (C.getD k .zero) (R.getD k .zero) (Known B C s slots R k))
def dcK (C : List LIns) (come0 : List Bool) (k j u : Nat) : Prop := j < k ∧ come0.getD j false = true ∧ u ∈ nextsN (C.getD j .zero) j ∧ u < C.length
def dfK (C : List LIns) (come0 : List Bool) (k j u : Nat) (_ : Nat) : Prop := j < k ∧ come0.getD j false = true ∧ u ∈ nextsN (C.getD j .zero) j ∧ u < C.length
def dtK (come0 : List Bool) (k j : Nat) : Prop := j < k ∧ come0.getD j false = true
def SetsAns (B : List Bool) (C : List LIns) (s slots : Int) (R : List LRow) (F : List LFact) (e : Ending) (w : World) : Prop :=
  ∃ T Cb rb come L t, e = .returned (.tuple #[.slice (some ⟨T, 0, none⟩) C.length C.length, .slice (some ⟨Cb, 0, none⟩) C.length C.length, .bool t]) ∧ MatR T rb F.length C.length L w ∧ Row w Cb 4 (come.map Value.bool) ∧ come.length = C.length ∧ FinK B C s slots R F come L t

theorem thru_row {w : World} {p n lo : Nat} {v : Value} {O : List Bool} (hfr : v = .slice (some ⟨p, 0, none⟩) n n ∨ ∃ q, v = .slice (some ⟨q, 0, none⟩) n n ∧ lo ≤ q) (hO : BRowIs w v O) (hl : O.length = n) :
    ∃ q0, v = .slice (some ⟨q0, 0, none⟩) n n ∧ (q0 = p ∨ lo ≤ q0) ∧ ∀ j, j < n → w.cell? ⟨q0, j, none⟩ = some (.bool (O.getD j false)) := by
  obtain ⟨ao, cap, hv, -, hc⟩ := hO
  have key : ∀ q0, v = .slice (some ⟨q0, 0, none⟩) n n → ∀ j, j < n → w.cell? ⟨q0, j, none⟩ = some (.bool (O.getD j false)) := by
    intro q0 e j hj
    obtain ⟨b, o, e2, _, h2⟩ := hc (by omega)
    rw [hv, e2] at e
    simp at e
    obtain ⟨⟨rfl, rfl⟩, -, -⟩ := e
    have := h2 j (by omega)
    rwa [Nat.zero_add] at this
  rcases hfr with e | ⟨q, e, hq⟩
  · exact ⟨p, e, Or.inl rfl, key p e⟩
  · exact ⟨q, e, Or.inr hq, key q e⟩

def dc5 (C : List LIns) (come0 : List Bool) (N : List Int) (k m x u : Nat) : Prop := dcK C come0 k x u ∨ (x = k ∧ u < C.length ∧ ∃ q, q < m ∧ u = (N.getD q 0).toNat)
def df5 (C : List LIns) (come0 : List Bool) (N : List Int) (k m x u : Nat) (i : Nat) : Prop := dfK C come0 k x u i ∨ (x = k ∧ u < C.length ∧ ∃ q, q < m ∧ u = (N.getD q 0).toNat)
def df6 (C : List LIns) (come0 : List Bool) (N : List Int) (k m Y n x u : Nat) (i : Nat) : Prop := df5 C come0 N k m x u i ∨ (x = k ∧ u = Y ∧ i < n)
def dt5 (come0 : List Bool) (k x : Nat) : Prop := dtK come0 k x ∨ x = k

set_option maxRecDepth 100000 in
set_option maxHeartbeats 4000000 in
theorem sets8 (b0 o0 c0 b1 o1 c1 ga ca gs cs : Nat) (ao4 : Option Addr) (n4 c4 b2 o2 c2 : Nat) (B : List Bool) (C : List LIns) (s slots : Int) (R : List LRow) (F : List LFact) (w : World) (h : Held w b0 o0 b1 o1 B C) (hr : RowsHeld w b2 o2 R) (hRl : R.length = C.length) (hC : C.length ≤ 40) (hC1 : 1 ≤ C.length)
    (hok : ∀ k, k < C.length → InsOk B.length C.length (C.getD k .zero)) (hFh : FactsHeld w ga F) (hso : F.Pairwise factLt) (hF : ∀ f, f ∈ F ↔ FactOk B s slots (NumP C) f) (hTH : ThruSpec w F C R [.slice (some ⟨b0, o0, none⟩) B.length c0, .slice (some ⟨b1, o1, none⟩) C.length c1, .slice (some ⟨ga, 0, none⟩) F.length ca, .slice (some ⟨gs, 0, none⟩) 4 cs, .slice ao4 n4 c4]) :
    Calls Tryz.prog 19 #[.agg #[.slice (some ⟨b0, o0, none⟩) B.length c0, .slice (some ⟨b1, o1, none⟩) C.length c1, .slice (some ⟨ga, 0, none⟩) F.length ca, .slice (some ⟨gs, 0, none⟩) 4 cs, .slice ao4 n4 c4], .agg #[.int .i64 slots, .slice (some ⟨b2, o2, none⟩) R.length c2]] w fun e w' => SetsAns B C s slots R F e w' ∧ Below w.heap.size w w' := by
  have HH : Hid (Held w b0 o0 b1 o1 B C) := h
  have HR : Hid (RowsHeld w b2 o2 R) := hr
  have HTH : Hid (ThruSpec w F C R [.slice (some ⟨b0, o0, none⟩) B.length c0, .slice (some ⟨b1, o1, none⟩) C.length c1, .slice (some ⟨ga, 0, none⟩) F.length ca, .slice (some ⟨gs, 0, none⟩) 4 cs, .slice ao4 n4 c4]) := hTH
  have HFH : Hid (FactsHeld w ga F) := hFh
  have HSO : Hid (F.Pairwise factLt) := hso
  have HFO : Hid (∀ f, f ∈ F ↔ FactOk B s slots (NumP C) f) := hF
  have HOK : Hid (∀ k, k < C.length → InsOk B.length C.length (C.getD k .zero)) := hok
  have HRL : Hid (R.length = C.length) := hRl
  have hFl := hFh.len
  have x4 : (F.length : Int) ≤ 100000 := by omega
  have y2 : (C.length : Int) ≤ 40 := by omega
  have y1 : (0 : Int) < (C.length : Int) := by omega
  have HBG : Hid (∀ wx : World, Below w.heap.size w wx → Calls Tryz.prog 36 #[.agg #[.slice (some ⟨b0, o0, none⟩) B.length c0, .slice (some ⟨b1, o1, none⟩) C.length c1, .slice (some ⟨ga, 0, none⟩) F.length ca, .slice (some ⟨gs, 0, none⟩) 4 cs, .slice ao4 n4 c4]] wx fun e w' => BegAns F wx.heap.size e w' ∧ Below wx.heap.size wx w') := fun wx hb => begin8 _ _ _ _ _ _ ga ca gs cs ao4 n4 c4 F wx (hFh.later hb)
  have hmk2 := fun wx => run_make_row' (P := Tryz.prog) 68 22 (.slice none 0 0) 24 Tryz.underlying68 infRow8 rfl .i64 .i64 C.length (by omega) (by omega) wx
  have hmkC := fun wx => run_make_row' (P := Tryz.prog) 22 4 (.bool false) 1 Tryz.underlying22 infBool rfl .i64 .i64 C.length (by omega) (by omega) wx
  have hmkF := fun wx => run_make_row' (P := Tryz.prog) 22 4 (.bool false) 1 Tryz.underlying22 infBool rfl .i64 .i64 F.length (by omega) (by omega) wx
  have hmc : (madeCells #[Value.bool false] C.length)[0]? = some (.bool false) := by rw [made_bool]; simp [show 0 < C.length by omega]
  clear h hr hTH hFh hso hF hok hRl
  go_enter Tryz.func19, Tryz.ntmps19
  go_wp2
  go_loopw [10] (fun kv wr => ∃ k : Nat, kv = .int .i64 k ∧ k ≤ C.length ∧ MkS w (setsBox w.heap.size [.slice (some ⟨b0, o0, none⟩) B.length c0, .slice (some ⟨b1, o1, none⟩) C.length c1, .slice (some ⟨ga, 0, none⟩) F.length ca, .slice (some ⟨gs, 0, none⟩) 4 cs, .slice ao4 n4 c4] [.int .i64 slots, .slice (some ⟨b2, o2, none⟩) R.length c2]) (w.heap.size + 1 + 1) (w.heap.size + 1 + 1 + 1) (w.heap.size + 1 + 1 + 1 + 1) F.length C.length k ((List.replicate C.length false).set 0 true) wr) (fun kv _ => C.length - (intOf kv).toNat)
  case atStart =>
    refine ⟨0, rfl, by omega, ((((Below.refl _ _).alloc (Nat.le_refl _) _).alloc (by simp) _).alloc (by simp; omega) _).alloc (by simp; omega) _, by simp, ?_, ?_, ⟨List.replicate C.length (.slice none 0 0), by simp, ?_, fun j hj => absurd hj (by omega)⟩, fun j hj => absurd hj (by omega)⟩
    · intro x hx
      unfold setsBox at hx
      simp only [List.mem_cons, List.not_mem_nil, or_false] at hx
      rcases hx with rfl | rfl
      · exact (((Row.new w _ _).alloc _).alloc _).alloc _
      · have := ((Row.new (w.alloc (.cells #[.slice (some ⟨b0, o0, none⟩) B.length c0, .slice (some ⟨b1, o1, none⟩) C.length c1, .slice (some ⟨ga, 0, none⟩) F.length ca, .slice (some ⟨gs, 0, none⟩) 4 cs, .slice ao4 n4 c4] 66)) 30 [.int .i64 slots, .slice (some ⟨b2, o2, none⟩) R.length c2]).alloc (.cells (madeCells #[.slice none 0 0] C.length) 22)).alloc (.cells ((madeCells #[.bool false] C.length).setIfInBounds 0 (.bool true)) 4)
        simpa using this
    · have e : ((((List.replicate C.length false).map Value.bool).toArray).setIfInBounds 0 (.bool true)) = (((List.replicate C.length false).set 0 true).map Value.bool).toArray := by rw [List.setIfInBounds_toArray, List.map_set]
      have := Row.new (((w.alloc (.cells #[.slice (some ⟨b0, o0, none⟩) B.length c0, .slice (some ⟨b1, o1, none⟩) C.length c1, .slice (some ⟨ga, 0, none⟩) F.length ca, .slice (some ⟨gs, 0, none⟩) 4 cs, .slice ao4 n4 c4] 66)).alloc (.cells #[.int .i64 slots, .slice (some ⟨b2, o2, none⟩) R.length c2] 30)).alloc (.cells (madeCells #[.slice none 0 0] C.length) 22)) 4 (((List.replicate C.length false).set 0 true).map Value.bool)
      rw [← e, ← made_bool] at this
      simpa using this
    · have := (Row.new ((w.alloc (.cells #[.slice (some ⟨b0, o0, none⟩) B.length c0, .slice (some ⟨b1, o1, none⟩) C.length c1, .slice (some ⟨ga, 0, none⟩) F.length ca, .slice (some ⟨gs, 0, none⟩) 4 cs, .slice ao4 n4 c4] 66)).alloc (.cells #[.int .i64 slots, .slice (some ⟨b2, o2, none⟩) R.length c2] 30)) 22 (List.replicate C.length (.slice none 0 0))).alloc (.cells ((madeCells #[.bool false] C.length).setIfInBounds 0 (.bool true)) 4)
      rw [← made_rows8] at this
      simpa using this
  case round =>
    obtain ⟨k, rfl, hk, hmk⟩ := hrel
    have HMK : Hid (MkS w (setsBox w.heap.size [.slice (some ⟨b0, o0, none⟩) B.length c0, .slice (some ⟨b1, o1, none⟩) C.length c1, .slice (some ⟨ga, 0, none⟩) F.length ca, .slice (some ⟨gs, 0, none⟩) 4 cs, .slice ao4 n4 c4] [.int .i64 slots, .slice (some ⟨b2, o2, none⟩) R.length c2]) (w.heap.size + 1 + 1) (w.heap.size + 1 + 1 + 1) (w.heap.size + 1 + 1 + 1 + 1) F.length C.length k ((List.replicate C.length false).set 0 true) wr) := hmk
    have hbx : ∀ x, x ∈ (setsBox w.heap.size [.slice (some ⟨b0, o0, none⟩) B.length c0, .slice (some ⟨b1, o1, none⟩) C.length c1, .slice (some ⟨ga, 0, none⟩) F.length ca, .slice (some ⟨gs, 0, none⟩) 4 cs, .slice ao4 n4 c4] [.int .i64 slots, .slice (some ⟨b2, o2, none⟩) R.length c2]) → x.1 < w.heap.size + 1 + 1 + 1 + 1 := by
      intro x hx
      unfold setsBox at hx
      simp only [List.mem_cons, List.not_mem_nil, or_false] at hx
      rcases hx with rfl | rfl
      · show w.heap.size < w.heap.size + 1 + 1 + 1 + 1; omega
      · show w.heap.size + 1 < w.heap.size + 1 + 1 + 1 + 1; omega
    have HBX : Hid (∀ x, x ∈ (setsBox w.heap.size [.slice (some ⟨b0, o0, none⟩) B.length c0, .slice (some ⟨b1, o1, none⟩) C.length c1, .slice (some ⟨ga, 0, none⟩) F.length ca, .slice (some ⟨gs, 0, none⟩) 4 cs, .slice ao4 n4 c4] [.int .i64 slots, .slice (some ⟨b2, o2, none⟩) R.length c2]) → x.1 < w.heap.size + 1 + 1 + 1 + 1) := hbx
    have rW : Row wr w.heap.size 66 [.slice (some ⟨b0, o0, none⟩) B.length c0, .slice (some ⟨b1, o1, none⟩) C.length c1, .slice (some ⟨ga, 0, none⟩) F.length ca, .slice (some ⟨gs, 0, none⟩) 4 cs, .slice ao4 n4 c4] := hmk.bx (w.heap.size, 66, _) (by simp [setsBox])
    have W2 : wr.cell? ⟨w.heap.size, 2, none⟩ = some (.slice (some ⟨ga, 0, none⟩) F.length ca) := rW.cell 2
    have hsz := hmk.size
    obtain ⟨vs, hvl, hvr, hvk⟩ := hmk.top
    have HVR : Hid (Row wr (w.heap.size + 1 + 1) 22 vs) := hvr
    have HVK : Hid (∀ j, j < k → vs[j]? = some (.slice (some ⟨w.heap.size + 1 + 1 + 1 + 1 + j, 0, none⟩) F.length F.length)) := hvk
    clear hbx hvk
    by_cases hlt : k < C.length
    · have z8 : (k : Int) < (C.length : Int) := by omega
      have z7 : (0 : Int) ≤ (k : Int) := by omega
      obtain ⟨u0, ck⟩ : ∃ u0, wr.cell? ⟨w.heap.size + 1 + 1, k, none⟩ = some u0 := ⟨vs[k]'(by omega), by rw [hvr.cell]; simp⟩
      have fz := hvr.frozen k
      have z0 : w.heap.size < wr.heap.size := by omega
      have z2 : w.heap.size + 1 + 1 < wr.heap.size := by omega
      have HZ : Hid (wr.heap.size = w.heap.size + 1 + 1 + 1 + 1 + k) := hsz
      obtain ⟨W1, hW1⟩ : ∃ W1, W1 = (wr.setCell ⟨w.heap.size + 1 + 1, k, none⟩ (.slice (some ⟨wr.heap.size, 0, none⟩) F.length F.length)).alloc (.cells (madeCells #[.bool false] F.length) 4) := ⟨_, rfl⟩
      have HW1 : Hid ((wr.setCell ⟨w.heap.size + 1 + 1, k, none⟩ (.slice (some ⟨wr.heap.size, 0, none⟩) F.length F.length)).alloc (.cells (madeCells #[.bool false] F.length) 4) = W1) := hW1.symm
      have HR1 : Hid (MkR w (setsBox w.heap.size [.slice (some ⟨b0, o0, none⟩) B.length c0, .slice (some ⟨b1, o1, none⟩) C.length c1, .slice (some ⟨ga, 0, none⟩) F.length ca, .slice (some ⟨gs, 0, none⟩) 4 cs, .slice ao4 n4 c4] [.int .i64 slots, .slice (some ⟨b2, o2, none⟩) R.length c2]) (w.heap.size + 1 + 1) (w.heap.size + 1 + 1 + 1) (w.heap.size + 1 + 1 + 1 + 1) F.length C.length k ((List.replicate C.length false).set 0 true) (List.replicate F.length false) W1) := by
        rw [hW1]
        have hm := HMK.out
        have hba : ∀ (x : World) (o : Obj), Below x.heap.size x (x.alloc o) := fun x o => (Below.refl _ _).alloc (Nat.le_refl _) _
        refine ⟨step_below (hba _ _) (hm.bel.setCell (by show w.heap.size ≤ w.heap.size + 1 + 1; omega) _), by simp [HZ.out], fun x hx => ((hm.bx x hx).other (by
          unfold setsBox at hx
          simp only [List.mem_cons, List.not_mem_nil, or_false] at hx
          rcases hx with rfl | rfl
          · show w.heap.size ≠ w.heap.size + 1 + 1; omega
          · show w.heap.size + 1 ≠ w.heap.size + 1 + 1; omega) _).alloc _, (hm.cm.other (by show w.heap.size + 1 + 1 + 1 ≠ w.heap.size + 1 + 1; omega) _).alloc _, ⟨vs.set k (.slice (some ⟨wr.heap.size, 0, none⟩) F.length F.length), by simp [hvl], (HVR.out.set k _).alloc _, fun j hj => ?_⟩, fun j hj => ((hm.row j hj).other (by show w.heap.size + 1 + 1 + 1 + 1 + j ≠ w.heap.size + 1 + 1; omega) _).alloc _, ?_⟩
        · by_cases e : j = k
          · subst e
            rw [List.getElem?_set_self (by omega), HZ.out]
          · rw [List.getElem?_set_ne (Ne.symm e)]
            exact HVK.out j (by omega)
        · have := Row.new (wr.setCell ⟨w.heap.size + 1 + 1, k, none⟩ (.slice (some ⟨wr.heap.size, 0, none⟩) F.length F.length)) 4 ((List.replicate F.length false).map Value.bool)
          rw [← made_bool] at this
          simpa [HZ.out] using this
      clear hW1 hvr rW hmk hsz
      go_wp2
      rw [HW1.out, HZ.out]
      go_loopw [11] (fun iv wr2 => ∃ (i : Nat) (X : List Bool), iv = .int .i64 i ∧ i ≤ F.length ∧ X.length = F.length ∧ (∀ j, j < i → X.getD j false = true) ∧ MkR w (setsBox w.heap.size [.slice (some ⟨b0, o0, none⟩) B.length c0, .slice (some ⟨b1, o1, none⟩) C.length c1, .slice (some ⟨ga, 0, none⟩) F.length ca, .slice (some ⟨gs, 0, none⟩) 4 cs, .slice ao4 n4 c4] [.int .i64 slots, .slice (some ⟨b2, o2, none⟩) R.length c2]) (w.heap.size + 1 + 1) (w.heap.size + 1 + 1 + 1) (w.heap.size + 1 + 1 + 1 + 1) F.length C.length k ((List.replicate C.length false).set 0 true) X wr2) (fun iv _ => F.length - (intOf iv).toNat)
      case atStart => exact ⟨0, List.replicate F.length false, rfl, by omega, by simp, fun j hj => absurd hj (by omega), HR1.out⟩
      case round =>
        clear W2 ck fz z0 z2
        obtain ⟨i, X, rfl, hi, hXl, hX, hmr⟩ := hrel
        have HX : Hid (∀ j, j < i → X.getD j false = true) := hX
        have HMR : Hid (MkR w (setsBox w.heap.size [.slice (some ⟨b0, o0, none⟩) B.length c0, .slice (some ⟨b1, o1, none⟩) C.length c1, .slice (some ⟨ga, 0, none⟩) F.length ca, .slice (some ⟨gs, 0, none⟩) 4 cs, .slice ao4 n4 c4] [.int .i64 slots, .slice (some ⟨b2, o2, none⟩) R.length c2]) (w.heap.size + 1 + 1) (w.heap.size + 1 + 1 + 1) (w.heap.size + 1 + 1 + 1 + 1) F.length C.length k ((List.replicate C.length false).set 0 true) X wr) := hmr
        have rW : Row wr w.heap.size 66 [.slice (some ⟨b0, o0, none⟩) B.length c0, .slice (some ⟨b1, o1, none⟩) C.length c1, .slice (some ⟨ga, 0, none⟩) F.length ca, .slice (some ⟨gs, 0, none⟩) 4 cs, .slice ao4 n4 c4] := hmr.bx (w.heap.size, 66, _) (by simp [setsBox])
        have W2 : wr.cell? ⟨w.heap.size, 2, none⟩ = some (.slice (some ⟨ga, 0, none⟩) F.length ca) := rW.cell 2
        obtain ⟨vs2, hv1, hv2, hv3⟩ := hmr.top
        have ct : wr.cell? ⟨w.heap.size + 1 + 1, k, none⟩ = some (.slice (some ⟨w.heap.size + 1 + 1 + 1 + 1 + k, 0, none⟩) F.length F.length) := by rw [hv2.cell]; exact hv3 k (by omega)
        by_cases hil : i < F.length
        · have v1 : (i : Int) < (F.length : Int) := by omega
          have v0 : (0 : Int) ≤ (i : Int) := by omega
          have cx : wr.cell? ⟨w.heap.size + 1 + 1 + 1 + 1 + k, i, none⟩ = some (.bool (X.getD i false)) := by rw [hmr.cur.cell]; simp [List.getD, hXl, hil]
          generalize X.getD i false = xi at cx
          have fx := hmr.cur.frozen i
          clear hX hmr rW hv2 hv3
          go_wp2
          refine ⟨⟨i + 1, X.set i true, by go_num, by omega, by simp [hXl], fun j hj => ?_, HMR.out.set HBX.out (by omega) (by omega) (by omega) i⟩, by simp [intOf]; omega⟩
          by_cases e : j = i
          · subst e; simp [List.getD, hXl, hil]
          · rw [show (X.set i true).getD j false = X.getD j false by simp [List.getD, Ne.symm e]]
            exact HX.out j (by omega)
        · have v1 : ¬ (i : Int) < (F.length : Int) := by omega
          clear hX hmr rW hv2 hv3
          go_wp2
          go_roundw
          case rel => exact ⟨k + 1, by go_num, by omega, HMR.out.fin hXl (fun j hj => HX.out j (by omega))⟩
          case measure => simp [intOf]; omega
    · have z8 : ¬ (k : Int) < (C.length : Int) := by omega
      have hkC : k = C.length := by omega
      have HMC : Hid (MkS w (setsBox w.heap.size [.slice (some ⟨b0, o0, none⟩) B.length c0, .slice (some ⟨b1, o1, none⟩) C.length c1, .slice (some ⟨ga, 0, none⟩) F.length ca, .slice (some ⟨gs, 0, none⟩) 4 cs, .slice ao4 n4 c4] [.int .i64 slots, .slice (some ⟨b2, o2, none⟩) R.length c2]) (w.heap.size + 1 + 1) (w.heap.size + 1 + 1 + 1) (w.heap.size + 1 + 1 + 1 + 1) F.length C.length C.length ((List.replicate C.length false).set 0 true) wr) := by
        have h9 := HMK.out
        rw [hkC] at h9
        exact h9
      have W0 : wr.cell? ⟨w.heap.size, 0, none⟩ = some (.slice (some ⟨b0, o0, none⟩) B.length c0) := rW.cell 0
      have W1 : wr.cell? ⟨w.heap.size, 1, none⟩ = some (.slice (some ⟨b1, o1, none⟩) C.length c1) := rW.cell 1
      have W3 : wr.cell? ⟨w.heap.size, 3, none⟩ = some (.slice (some ⟨gs, 0, none⟩) 4 cs) := rW.cell 3
      have W4 : wr.cell? ⟨w.heap.size, 4, none⟩ = some (.slice ao4 n4 c4) := rW.cell 4
      have HBT : Hid (∀ x, x ∈ (setsBox w.heap.size [.slice (some ⟨b0, o0, none⟩) B.length c0, .slice (some ⟨b1, o1, none⟩) C.length c1, .slice (some ⟨ga, 0, none⟩) F.length ca, .slice (some ⟨gs, 0, none⟩) 4 cs, .slice ao4 n4 c4] [.int .i64 slots, .slice (some ⟨b2, o2, none⟩) R.length c2]) → x.1 < w.heap.size + 1 + 1) := by
        intro x hx
        unfold setsBox at hx
        simp only [List.mem_cons, List.not_mem_nil, or_false] at hx
        rcases hx with rfl | rfl
        · show w.heap.size < w.heap.size + 1 + 1; omega
        · show w.heap.size + 1 < w.heap.size + 1 + 1; omega
      obtain ⟨u0, ck⟩ : ∃ u0, wr.cell? ⟨w.heap.size + 1 + 1, 0, none⟩ = some u0 := ⟨vs[0]'(by omega), by rw [hvr.cell]; simp⟩
      clear hmk rW hvr hsz hkC
      go_wp2_with (go_at_call 36; refine (HBG.out _ HMK.out.bel).mono ?_; rintro e w2 ⟨⟨O, rfl, hrow, hO⟩, hb2⟩; have ck2 := step_cell hb2 ck; have fz2 := (HVR.out.below hb2).frozen 0; obtain ⟨hse, hgeo⟩ := se_start HMC.out hb2 hrow hO.1 hC1 HBT.out (by omega) (by omega) (by omega); have HIT : Hid (It B C s slots R F ((List.replicate C.length false).set 0 true) (startL F.length C.length O)) := It.init HFO.out HSO.out hC1 hO; clear hrow hO hb2)
      obtain ⟨rb, hrb⟩ : ∃ rb, rb = rbOf (w.heap.size + 1 + 1 + 1 + 1) (wr.heap.size + 1) := ⟨_, rfl⟩
      rw [← hrb] at hse hgeo
      obtain ⟨L1, hL1⟩ : ∃ L1, L1 = startL F.length C.length O := ⟨_, rfl⟩
      rw [← hL1] at hse HIT
      have HSE : Hid (SeS w (setsBox w.heap.size [.slice (some ⟨b0, o0, none⟩) B.length c0, .slice (some ⟨b1, o1, none⟩) C.length c1, .slice (some ⟨ga, 0, none⟩) F.length ca, .slice (some ⟨gs, 0, none⟩) 4 cs, .slice ao4 n4 c4] [.int .i64 slots, .slice (some ⟨b2, o2, none⟩) R.length c2]) (w.heap.size + 1 + 1) (w.heap.size + 1 + 1 + 1) rb C.length F ((List.replicate C.length false).set 0 true) L1 (w2.setCell ⟨w.heap.size + 1 + 1, 0, none⟩ (.slice (some ⟨wr.heap.size + 1, 0, none⟩) F.length F.length))) := hse
      have HGE : Hid (Geo w (setsBox w.heap.size [.slice (some ⟨b0, o0, none⟩) B.length c0, .slice (some ⟨b1, o1, none⟩) C.length c1, .slice (some ⟨ga, 0, none⟩) F.length ca, .slice (some ⟨gs, 0, none⟩) 4 cs, .slice ao4 n4 c4] [.int .i64 slots, .slice (some ⟨b2, o2, none⟩) R.length c2]) (w.heap.size + 1 + 1) (w.heap.size + 1 + 1 + 1) rb C.length) := hgeo
      clear hse hgeo hrb hL1 W0 W1 W2 W3 W4 ck ck2 fz2
      go_loopg [12, 13] (muK ((List.replicate C.length false).set 0 true) L1 + 2) (fun g tv av wr => ∃ (t a : Bool) (come L : List Bool), tv = .bool t ∧ av = .bool a ∧ SeS w (setsBox w.heap.size [.slice (some ⟨b0, o0, none⟩) B.length c0, .slice (some ⟨b1, o1, none⟩) C.length c1, .slice (some ⟨ga, 0, none⟩) F.length ca, .slice (some ⟨gs, 0, none⟩) 4 cs, .slice ao4 n4 c4] [.int .i64 slots, .slice (some ⟨b2, o2, none⟩) R.length c2]) (w.heap.size + 1 + 1) (w.heap.size + 1 + 1 + 1) rb C.length F come L wr ∧ It B C s slots R F come L ∧ muK come L + (if a = true then 1 else 0) ≤ g ∧ (a = false → FinK B C s slots R F come L t))
      case atStart => exact ⟨true, true, _, L1, rfl, rfl, HSE.out, HIT.out, by rw [if_pos rfl]; omega, fun e => absurd e (by simp)⟩
      case round =>
        obtain ⟨t, a, come, L, rfl, rfl, hse, hit, hmu, hfin⟩ := hrel
        have HS : Hid (SeS w (setsBox w.heap.size [.slice (some ⟨b0, o0, none⟩) B.length c0, .slice (some ⟨b1, o1, none⟩) C.length c1, .slice (some ⟨ga, 0, none⟩) F.length ca, .slice (some ⟨gs, 0, none⟩) 4 cs, .slice ao4 n4 c4] [.int .i64 slots, .slice (some ⟨b2, o2, none⟩) R.length c2]) (w.heap.size + 1 + 1) (w.heap.size + 1 + 1 + 1) rb C.length F come L wr) := hse
        have HI : Hid (It B C s slots R F come L) := hit
        clear hse
        cases a
        · have hf := hfin rfl
          have HFI : Hid (FinK B C s slots R F come L t) := hf
          clear hf hfin hit
          go_wp2
          refine bodyPost_ret (v := .tuple #[.slice (some ⟨w.heap.size + 1 + 1, 0, none⟩) C.length C.length, .slice (some ⟨w.heap.size + 1 + 1 + 1, 0, none⟩) C.length C.length, .bool t]) ?_ rfl ⟨⟨_, _, rb, come, L, t, rfl, HS.out.mat, HS.out.cm, HI.out.lc, HFI.out⟩, HS.out.bel⟩
          simp [results, Tryz.results19, go_sem]
        · rw [if_pos rfl] at hmu
          clear hfin hit
          go_wp2
          go_loopw [12, 13, 14] (fun tv av kv wr => ∃ (t a : Bool) (k : Nat) (come1 L2 : List Bool), tv = .bool t ∧ av = .bool a ∧ kv = .int .i64 k ∧ k ≤ C.length ∧ SeS w (setsBox w.heap.size [.slice (some ⟨b0, o0, none⟩) B.length c0, .slice (some ⟨b1, o1, none⟩) C.length c1, .slice (some ⟨ga, 0, none⟩) F.length ca, .slice (some ⟨gs, 0, none⟩) 4 cs, .slice ao4 n4 c4] [.int .i64 slots, .slice (some ⟨b2, o2, none⟩) R.length c2]) (w.heap.size + 1 + 1) (w.heap.size + 1 + 1 + 1) rb C.length F come1 L2 wr ∧ PassS B C s slots R F come L (dcK C come k) (dfK C come k) (dtK come k) a t come1 L2) (fun _ _ kv _ => C.length - (intOf kv).toNat)
          case atStart =>
            refine ⟨true, false, 0, come, L, rfl, rfl, rfl, by omega, HS.out, (PassS.start HI.out).weak (fun j u hu => absurd hu.1 (by omega)) (fun j u q hu _ => absurd hu.1 (by omega)) (fun j => ⟨fun hu => absurd hu.1 (by omega), fun hu => hu.elim⟩)⟩
          case round =>
            obtain ⟨t, a, k, come1, L2, rfl, rfl, rfl, hk, hse, hps⟩ := hrel
            have HS4 : Hid (SeS w (setsBox w.heap.size [.slice (some ⟨b0, o0, none⟩) B.length c0, .slice (some ⟨b1, o1, none⟩) C.length c1, .slice (some ⟨ga, 0, none⟩) F.length ca, .slice (some ⟨gs, 0, none⟩) 4 cs, .slice ao4 n4 c4] [.int .i64 slots, .slice (some ⟨b2, o2, none⟩) R.length c2]) (w.heap.size + 1 + 1) (w.heap.size + 1 + 1 + 1) rb C.length F come1 L2 wr) := hse
            have HP4 : Hid (PassS B C s slots R F come L (dcK C come k) (dfK C come k) (dtK come k) a t come1 L2) := hps
            have hcl := hps.it.lc
            by_cases hlt : k < C.length
            case neg =>
              have v1 : ¬ (k : Int) < (C.length : Int) := by omega
              have hkC : k = C.length := by omega
              clear hse hps
              go_wp2
              go_roundg (gk - 1)
              case measure => omega
              case rel =>
                refine ⟨t, a, come1, L2, rfl, rfl, HS4.out, HP4.out.it, ?_, fun e => ?_⟩
                · cases a
                  · have := HP4.out.le; simp; omega
                  · have := HP4.out.yes rfl; simp; omega
                · subst e
                  refine PassS.done HFO.out (come0 := come) (L0 := L) ?_
                  rw [hkC] at HP4
                  exact HP4.out
            have v1 : (k : Int) < (C.length : Int) := by omega
            have v0 : (0 : Int) ≤ (k : Int) := by omega
            have ck : wr.cell? ⟨w.heap.size + 1 + 1 + 1, k, none⟩ = some (.bool (come1.getD k false)) := by rw [hse.cm.cell]; simp [List.getD, hcl, hlt]
            rcases Bool.eq_false_or_eq_true (come1.getD k false) with hck | hck
            rotate_left
            · rw [hck] at ck
              have HCK : Hid (come1.getD k false = false) := hck
              clear hse hps hck
              go_wp2
              refine ⟨⟨t, a, k + 1, come1, L2, rfl, rfl, by go_num, by omega, HS4.out, HP4.out.weakF (fun _ e => ?_)⟩, by simp [intOf]; omega⟩
              subst e
              have hno : ∀ j, j < k + 1 → come1.getD j false = true → j < k := fun j hj hc => by
                by_cases e : j = k
                · subst e; rw [HCK.out] at hc; exact absurd hc (by simp)
                · omega
              exact ⟨fun j u hu => ⟨hno j hu.1 hu.2.1, hu.2⟩, fun j u q hu _ => ⟨hno j hu.1 hu.2.1, hu.2⟩, fun j => ⟨fun hu => ⟨hno j hu.1 hu.2, hu.2⟩, fun hu => ⟨by have := hu.1; omega, hu.2⟩⟩⟩
            · rw [hck] at ck
              have HCK : Hid (come1.getD k false = true) := hck
              have hbel := hse.bel
              have rW : Row wr w.heap.size 66 [.slice (some ⟨b0, o0, none⟩) B.length c0, .slice (some ⟨b1, o1, none⟩) C.length c1, .slice (some ⟨ga, 0, none⟩) F.length ca, .slice (some ⟨gs, 0, none⟩) 4 cs, .slice ao4 n4 c4] := hse.bx (w.heap.size, 66, _) (by simp [setsBox])
              have rP : Row wr (w.heap.size + 1) 30 [.int .i64 slots, .slice (some ⟨b2, o2, none⟩) R.length c2] := hse.bx (w.heap.size + 1, 30, _) (by simp [setsBox])
              have W0 : wr.cell? ⟨w.heap.size, 0, none⟩ = some (.slice (some ⟨b0, o0, none⟩) B.length c0) := rW.cell 0
              have W1 : wr.cell? ⟨w.heap.size, 1, none⟩ = some (.slice (some ⟨b1, o1, none⟩) C.length c1) := rW.cell 1
              have W2 : wr.cell? ⟨w.heap.size, 2, none⟩ = some (.slice (some ⟨ga, 0, none⟩) F.length ca) := rW.cell 2
              have W3 : wr.cell? ⟨w.heap.size, 3, none⟩ = some (.slice (some ⟨gs, 0, none⟩) 4 cs) := rW.cell 3
              have W4 : wr.cell? ⟨w.heap.size, 4, none⟩ = some (.slice ao4 n4 c4) := rW.cell 4
              have P1 : wr.cell? ⟨w.heap.size + 1, 1, none⟩ = some (.slice (some ⟨b2, o2, none⟩) R.length c2) := rP.cell 1
              have TK := hse.mat.top k hlt
              obtain ⟨d0, d1, d2, d3, d4, d5⟩ := (HH.out.later hbel).code k hlt
              obtain ⟨e0, e1, e2, e3, e4, e5, vb, va, e6, e7, mb, ma⟩ := HR.out.rows k (by rw [HRL.out]; exact hlt)
              have hth := HTH.out
              unfold ThruSpec at hth
              have hth2 := fun wx => hth wx k
              have HRE : Hid (reach_of C k) := fun hr u hu hl => reach_next hr hlt hu hl
              obtain ⟨i, hie⟩ : ∃ i, i = C.getD k .zero := ⟨_, rfl⟩
              obtain ⟨r, hre⟩ : ∃ r, r = R.getD k .zero := ⟨_, rfl⟩
              rw [← hie] at d0 d1 d2 d3 d4 d5 hth2
              rw [← hre] at e0 e1 e2 e3 e4 e5 mb ma hth2
              have e0 := step_cell hbel e0
              have e1 := step_cell hbel e1
              have e2 := step_cell hbel e2
              have e3 := step_cell hbel e3
              have e4 := step_cell hbel e4
              have e5 := step_cell hbel e5
              have e6 := step_cell hbel e6
              have e7 := step_cell hbel e7
              have mb' := mb
              have ma' := ma
              obtain ⟨bao, bcap, rfl, -⟩ := mb'
              obtain ⟨aao, acap, rfl, -⟩ := ma'
              have HMB : Hid (MovesIs w (.slice bao r.before.length bcap) r.before) := mb
              have HMA : Hid (MovesIs w (.slice aao r.after.length acap) r.after) := ma
              have HTH2 : Hid _ := hth2
              have HIE : Hid (C.getD k .zero = i) := hie.symm
              have HRR : Hid (R.getD k .zero = r) := hre.symm
              have hbr : BRowIs wr (.slice (some ⟨rb k, 0, none⟩) F.length F.length) (rowF F.length L2 k) := ⟨some ⟨rb k, 0, none⟩, F.length, by rw [len_rowF], by rw [len_rowF]; omega, fun _ => ⟨rb k, 0, rfl, (hse.mat.row k hlt).lt, fun j hj => by rw [len_rowF] at hj; rw [Nat.zero_add, hse.mat.cell hlt hj, getD_rowF hj]⟩⟩
              have HBR : Hid (BRowIs wr (.slice (some ⟨rb k, 0, none⟩) F.length F.length) (rowF F.length L2 k)) := hbr
              have HB4 : Hid (Below w.heap.size w wr) := hbel
              have xr : (R.length : Int) = (C.length : Int) := by have := HRL.out; omega
              have vr : (k : Int) < (R.length : Int) := by omega
              clear hse hps hck rW rP hth hth2 hie hre mb ma hbr hbel xr
              go_upto_region 23 with fail
              go_region_held3 (fun w' => Below wr.heap.size wr w' ∧ w'.cell? ⟨w.heap.size, 0, none⟩ = some (.slice (some ⟨b0, o0, none⟩) B.length c0) ∧ w'.cell? ⟨w.heap.size, 1, none⟩ = some (.slice (some ⟨b1, o1, none⟩) C.length c1) ∧ w'.cell? ⟨w.heap.size, 2, none⟩ = some (.slice (some ⟨ga, 0, none⟩) F.length ca) ∧ w'.cell? ⟨w.heap.size, 3, none⟩ = some (.slice (some ⟨gs, 0, none⟩) 4 cs) ∧ w'.cell? ⟨w.heap.size, 4, none⟩ = some (.slice ao4 n4 c4) ∧ w'.cell? ⟨w.heap.size + 1, 1, none⟩ = some (.slice (some ⟨b2, o2, none⟩) R.length c2) ∧ w'.cell? ⟨w.heap.size + 1 + 1, k, none⟩ = some (.slice (some ⟨rb k, 0, none⟩) F.length F.length) ∧ w'.cell? ⟨b1, o1 + k * 6, none⟩ = some (.int .i64 i.op) ∧ w'.cell? ⟨b1, o1 + k * 6 + 1, none⟩ = some (.int .i64 i.dest) ∧ w'.cell? ⟨b1, o1 + k * 6 + 2, none⟩ = some (.int .i64 i.a) ∧ w'.cell? ⟨b1, o1 + k * 6 + 3, none⟩ = some (.int .i64 i.b) ∧ w'.cell? ⟨b1, o1 + k * 6 + 4, none⟩ = some (.int .i64 i.c) ∧ w'.cell? ⟨b1, o1 + k * 6 + 5, none⟩ = some (.int .u32 i.n) ∧ w'.cell? ⟨b2, o2 + k * 8, none⟩ = some (.int .i64 r.dest.kind) ∧ w'.cell? ⟨b2, o2 + k * 8 + 1, none⟩ = some (.int .i64 r.dest.n) ∧ w'.cell? ⟨b2, o2 + k * 8 + 2, none⟩ = some (.int .i64 r.a.kind) ∧ w'.cell? ⟨b2, o2 + k * 8 + 3, none⟩ = some (.int .i64 r.a.n) ∧ w'.cell? ⟨b2, o2 + k * 8 + 4, none⟩ = some (.int .i64 r.b.kind) ∧ w'.cell? ⟨b2, o2 + k * 8 + 5, none⟩ = some (.int .i64 r.b.n) ∧ w'.cell? ⟨b2, o2 + k * 8 + 6, none⟩ = some (.slice bao r.before.length bcap) ∧ w'.cell? ⟨b2, o2 + k * 8 + 7, none⟩ = some (.slice aao r.after.length acap))
                ((go_split_ands; refine ⟨?_, ?_, ?_, ?_, ?_, ?_, ?_, ?_, ?_, ?_, ?_, ?_, ?_, ?_, ?_, ?_, ?_, ?_, ?_, ?_, ?_, ?_⟩ <;> first | exact (Below.refl _ _).drew | exact ((Below.refl _ _).drew).trans hb5 | exact step_cell hb5 (by assumption) | (go_keep; done)))
                ((go_at_call 37; refine (HTH2.out _ _ (rowF F.length L2 k) bao bcap aao acap ?_ hlt ?_ (len_rowF _ _ _) HMB.out HMA.out).mono ?_; (exact HB4.out.drew); (exact HBR.out.later (drew_below _)); rintro e w5 ⟨⟨v5, ok, O5, rfl, hfr, hO5, hOl5, hset, huse⟩, hb5⟩))
              rename_i hHeldx
              have hb6 : Below wr.heap.size wr w5 := (drew_below _).trans hb5
              obtain ⟨q0, rfl, hq0, hcell5⟩ := thru_row hfr hO5 hOl5
              have HQ0 : Hid (q0 = rb k ∨ wr.heap.size ≤ q0) := hq0
              have HC5 : Hid (∀ j, j < F.length → w5.cell? ⟨q0, j, none⟩ = some (.bool (O5.getD j false))) := hcell5
              have HSET : Hid (setP F O5 = thruK (· ∈ F) i r (setK F L2 k)) := hset
              have HB6 : Hid (Below wr.heap.size wr w5) := hb6
              have HP5 : Hid (PassS B C s slots R F come L (dcK C come k) (dfK C come k) (dt5 come k) a (t && ok) come1 L2) := HP4.out.take (by rw [HIE.out, HRR.out]; exact huse) (fun j => Iff.rfl)
              have HS5 : Hid (SeS w (setsBox w.heap.size [.slice (some ⟨b0, o0, none⟩) B.length c0, .slice (some ⟨b1, o1, none⟩) C.length c1, .slice (some ⟨ga, 0, none⟩) F.length ca, .slice (some ⟨gs, 0, none⟩) 4 cs, .slice ao4 n4 c4] [.int .i64 slots, .slice (some ⟨b2, o2, none⟩) R.length c2]) (w.heap.size + 1 + 1) (w.heap.size + 1 + 1 + 1) rb C.length F come1 L2 w5) := HS4.out.below hb6
              have g1 := step_cell hb6 W1
              have f0 := step_cell hb6 d0
              have f1 := step_cell hb6 d1
              have f2 := step_cell hb6 d2
              have f3 := step_cell hb6 d3
              have f4 := step_cell hb6 d4
              have f5 := step_cell hb6 d5
              obtain ⟨t', ht'⟩ : ∃ b, b = (t && ok) := ⟨_, rfl⟩
              rw [← ht'] at HP5
              have HT' : Hid (t' = (t && ok)) := ht'
              clear hHeldx hb5 hb6 hfr hO5 hq0 hcell5 hset huse ht' W0 W1 W2 W3 W4 P1 TK d0 d1 d2 d3 d4 d5 e0 e1 e2 e3 e4 e5 e6 e7 ck
              go_upto_region 24 with fail
              go_cut [12] (fun s wq => s = .bool t' ∧ wq = w5)
              case first =>
                cases t
                all_goals
                  go_wp2
                  go_meet
                  case rel => exact ⟨by rw [HT'.out]; rfl, rfl⟩
              obtain ⟨rfl, hwc⟩ := hcut
              obtain rfl := hwc.symm
              have hnl : (nextsI i k).length ≤ 2 := nexts_len i k
              have HNB : Hid (∀ q, q ∈ nextsI i k → 0 ≤ q ∧ q ≤ C.length) := nexts_bd (by have := HOK.out k hlt; rwa [HIE.out] at this) hlt
              obtain ⟨N, hN⟩ : ∃ N, N = nextsI i k := ⟨_, rfl⟩
              have HN2 : Hid (∀ wx : World, Calls Tryz.prog 38 #[.agg #[.int .i64 i.op, .int .i64 i.dest, .int .i64 i.a, .int .i64 i.b, .int .i64 i.c, .int .u32 i.n], .int .i64 k] wx fun e w' => (∃ v, e = .returned v ∧ IntsAt wx.heap.size w' v N) ∧ Below wx.heap.size wx w') := fun wx => by rw [hN]; exact nexts2 i k (by omega) wx
              rw [← hN] at hnl HNB
              have HN : Hid (N = nextsI i k) := hN
              clear hN
              have zN : (N.length : Int) ≤ 2 := by omega
              go_wp2_with (go_at_call 38; refine (HN2.out _).mono ?_; rintro e w6 ⟨⟨nv, rfl, hnv⟩, hb7⟩; have HNV : Hid _ := hnv; obtain ⟨nao, ncap, rfl, -⟩ := hnv; have HB7 : Hid (Below w5.heap.size w5 w6) := hb7; clear hb7)
              have HW6 : Hid (0 < N.length → ∃ gb, nao = some ⟨gb, 0, none⟩ ∧ w5.heap.size ≤ gb ∧ ∀ q, q < N.length → w6.cell? ⟨gb, q, none⟩ = some (.int .i64 (N.getD q 0))) := by
                intro h0
                obtain ⟨_, _, he, hh⟩ := HNV.out
                simp at he
                obtain ⟨rfl, rfl⟩ := he
                obtain ⟨gb, e1, e2, e3, e4⟩ := hh h0
                exact ⟨gb, e1, e2, e4⟩
              have hrl : ∀ u, u < C.length → rb u < wr.heap.size := fun u hu => (HS4.out.mat.row u hu).lt
              have hcl4 := HS4.out.cm.lt
              have h56 := HB6.out.size
              have HQR : Hid ((q0 = rb k ∨ ∀ u, u < C.length → q0 ≠ rb u) ∧ q0 ≠ w.heap.size + 1 + 1 + 1) := by
                refine ⟨HQ0.out.imp id (fun h u hu e => by have := hrl u hu; omega), ?_⟩
                rcases HQ0.out with h | h
                · rw [h]; exact HGE.out.neC k hlt
                · omega
              have HGB : Hid (∀ gb, 0 < N.length → nao = some ⟨gb, 0, none⟩ → (∀ u, u < C.length → gb ≠ rb u) ∧ gb ≠ w.heap.size + 1 + 1 + 1) := fun gb h0 e => by
                obtain ⟨gb', e1, e2, _⟩ := HW6.out h0
                rw [e1] at e
                simp at e
                subst e
                exact ⟨fun u hu e3 => by have := hrl u hu; omega, by omega⟩
              have HL2 : Hid (a = false → come1 = come ∧ L2 = L) := fun e => ⟨(HP4.out.no e).1, (HP4.out.no e).2.1⟩
              have HRK : Hid (Reach C k) := HP4.out.it.snd k hlt HCK.out
              have HUP : Hid (∀ f, Known B C s slots R k f → setK F L2 k f) := fun f hf => HP4.out.it.up k f hlt HRK.out hf
              clear HNV g1 f0 f1 f2 f3 f4 f5 hrl hcl4 h56
              go_loopw [13, 18] (fun av jv wr2 => ∃ (a2 : Bool) (j : Nat) (come2 L3 : List Bool), av = .bool a2 ∧ jv = .int .i64 j ∧ j ≤ N.length ∧ SeS w (setsBox w.heap.size [.slice (some ⟨b0, o0, none⟩) B.length c0, .slice (some ⟨b1, o1, none⟩) C.length c1, .slice (some ⟨ga, 0, none⟩) F.length ca, .slice (some ⟨gs, 0, none⟩) 4 cs, .slice ao4 n4 c4] [.int .i64 slots, .slice (some ⟨b2, o2, none⟩) R.length c2]) (w.heap.size + 1 + 1) (w.heap.size + 1 + 1 + 1) rb C.length F come2 L3 wr2 ∧ PassS B C s slots R F come L (dc5 C come N k j) (df5 C come N k j) (dt5 come k) a2 t' come2 L3 ∧ (a2 = false → a = false) ∧ (∀ j, j < F.length → wr2.cell? ⟨q0, j, none⟩ = some (.bool (O5.getD j false))) ∧ (∀ gb, nao = some ⟨gb, 0, none⟩ → ∀ q, q < N.length → wr2.cell? ⟨gb, q, none⟩ = some (.int .i64 (N.getD q 0)))) (fun _ jv _ => N.length - (intOf jv).toNat)
              case atStart =>
                refine ⟨a, 0, come1, L2, rfl, rfl, by omega, HS5.out.below HB7.out, HP5.out.weak (fun x u hu => ?_) (fun x u q hu _ => ?_) (fun x => Iff.rfl), fun e => e, fun j hj => step_cell HB7.out (HC5.out j hj), fun gb e q hq => ?_⟩
                · rcases hu with hu | ⟨_, _, q, hq, _⟩
                  · exact hu
                  · exact absurd hq (by omega)
                · rcases hu with hu | ⟨_, _, q, hq, _⟩
                  · exact hu
                  · exact absurd hq (by omega)
                · obtain ⟨gb', e1, e2, e3⟩ := HW6.out (by omega)
                  rw [e1] at e
                  simp at e
                  rw [← e]
                  exact e3 q hq
              case round =>
                obtain ⟨a2, j, come2, L3, rfl, rfl, hj, hse, hps, haa, hs5, hnn⟩ := hrel
                have HS6 : Hid (SeS w (setsBox w.heap.size [.slice (some ⟨b0, o0, none⟩) B.length c0, .slice (some ⟨b1, o1, none⟩) C.length c1, .slice (some ⟨ga, 0, none⟩) F.length ca, .slice (some ⟨gs, 0, none⟩) 4 cs, .slice ao4 n4 c4] [.int .i64 slots, .slice (some ⟨b2, o2, none⟩) R.length c2]) (w.heap.size + 1 + 1) (w.heap.size + 1 + 1 + 1) rb C.length F come2 L3 wr) := hse
                have HP6 : Hid (PassS B C s slots R F come L (dc5 C come N k j) (df5 C come N k j) (dt5 come k) a2 t' come2 L3) := hps
                have HAA : Hid (a2 = false → a = false) := haa
                have HC6 : Hid (∀ j, j < F.length → wr.cell? ⟨q0, j, none⟩ = some (.bool (O5.getD j false))) := hs5
                have HNN : Hid (∀ gb, nao = some ⟨gb, 0, none⟩ → ∀ q, q < N.length → wr.cell? ⟨gb, q, none⟩ = some (.int .i64 (N.getD q 0))) := hnn
                have hcl2 := hps.it.lc
                clear hps haa hs5 hnn
                by_cases hjl : j < N.length
                case neg =>
                  have v2 : ¬ (j : Int) < (N.length : Int) := by omega
                  have hjN : j = N.length := by omega
                  clear hse
                  go_wp2
                  go_roundw
                  case rel =>
                    refine ⟨t', a2, k + 1, come2, L3, rfl, rfl, by go_num, by omega, HS6.out, HP6.out.weakF (fun e1 e2 => ?_)⟩
                    have hck : come.getD k false = true := by rw [← (HL2.out (HAA.out e1)).1]; exact HCK.out
                    have hmem : ∀ u, u ∈ nextsN (C.getD k .zero) k → ∃ q, q < j ∧ u = (N.getD q 0).toNat := fun u hu => by
                      unfold nextsN at hu
                      rw [HIE.out, ← HN.out] at hu
                      obtain ⟨z, hz, rfl⟩ := List.mem_map.1 hu
                      obtain ⟨q, hq, rfl⟩ := List.getElem_of_mem hz
                      exact ⟨q, by omega, by simp [List.getD, hq]⟩
                    refine ⟨fun x u hu => ?_, fun x u q hu _ => ?_, fun x => ?_⟩
                    · by_cases e : x = k
                      · subst e; exact Or.inr ⟨rfl, hu.2.2.2, hmem u hu.2.2.1⟩
                      · exact Or.inl ⟨by have := hu.1; omega, hu.2⟩
                    · by_cases e : x = k
                      · subst e; exact Or.inr ⟨rfl, hu.2.2.2, hmem u hu.2.2.1⟩
                      · exact Or.inl ⟨by have := hu.1; omega, hu.2⟩
                    · constructor
                      · intro hx
                        by_cases e : x = k
                        · exact Or.inr e
                        · exact Or.inl ⟨by have := hx.1; omega, hx.2⟩
                      · rintro (hx | rfl)
                        · exact ⟨by have := hx.1; omega, hx.2⟩
                        · exact ⟨by omega, hck⟩
                  case measure => simp [intOf]; omega
                obtain ⟨gb, rfl, _, _⟩ := HW6.out (by omega)
                have nj := HNN.out gb rfl j hjl
                have hmemj : N.getD j 0 ∈ N := by simp [List.getD, hjl]
                have hyb := HNB.out _ hmemj
                obtain ⟨Y, hY⟩ : ∃ Y : Nat, N.getD j 0 = Y := Int.eq_ofNat_of_zero_le hyb.1
                rw [hY] at nj hmemj
                have HY : Hid (N.getD j 0 = (Y : Int)) := hY
                have HYM : Hid (Y ∈ nextsN (C.getD k .zero) k) := by
                  unfold nextsN
                  rw [HIE.out, ← HN.out]
                  exact List.mem_map.2 ⟨(Y : Int), hmemj, by simp⟩
                have v3 : (j : Int) < (N.length : Int) := by omega
                have v4 : (0 : Int) ≤ (j : Int) := by omega
                have v5 : (0 : Int) ≤ (Y : Int) := by omega
                clear hY hmemj hyb
                by_cases hYl : Y < C.length
                case neg =>
                  have v6 : (C.length : Int) ≤ (Y : Int) := by omega
                  clear hse
                  go_wp2
                  refine ⟨⟨a2, j + 1, come2, L3, rfl, by go_num, by omega, HS6.out, HP6.out.weak (fun x u hu => ?_) (fun x u q hu _ => ?_) (fun x => Iff.rfl), HAA.out, HC6.out, HNN.out⟩, by simp [intOf]; omega⟩
                  · rcases hu with hu | ⟨e1, e2, q, hq, e3⟩
                    · exact Or.inl hu
                    · refine Or.inr ⟨e1, e2, q, ?_, e3⟩
                      by_cases e : q = j
                      · subst e; rw [HY.out] at e3; simp at e3; omega
                      · omega
                  · rcases hu with hu | ⟨e1, e2, q', hq, e3⟩
                    · exact Or.inl hu
                    · refine Or.inr ⟨e1, e2, q', ?_, e3⟩
                      by_cases e : q' = j
                      · subst e; rw [HY.out] at e3; simp at e3; omega
                      · omega
                have v6 : (Y : Int) < (C.length : Int) := by omega
                have hRY : Reach C Y := HRE.out HRK.out Y HYM.out hYl
                have cY : wr.cell? ⟨w.heap.size + 1 + 1 + 1, Y, none⟩ = some (.bool (come2.getD Y false)) := by rw [hse.cm.cell]; simp [List.getD, hcl2, hYl]
                have fY := hse.cm.frozen Y
                have hP7 := HP6.out.reach (k := k) (dc' := dc5 C come N k (j + 1)) hYl hRY (fun x u hu => by
                  rcases hu with hu | ⟨e1, e2, q, hq, e3⟩
                  · exact Or.inl (Or.inl hu)
                  · by_cases e : q = j
                    · subst e; rw [HY.out] at e3; simp at e3; exact Or.inr ⟨e1, e3⟩
                    · exact Or.inl (Or.inr ⟨e1, e2, q, by omega, e3⟩))
                obtain ⟨cy, hcy⟩ : ∃ b, b = come2.getD Y false := ⟨_, rfl⟩
                rw [← hcy] at cY hP7
                obtain ⟨a3, ha3⟩ : ∃ b, b = (a2 || !cy) := ⟨_, rfl⟩
                rw [← ha3] at hP7
                have HA3 : Hid (a3 = (a2 || !cy)) := ha3
                have HAB : Hid (a3 = false → a = false) := fun e => HAA.out (by rw [ha3] at e; simp at e; exact e.1)
                have HP7 : Hid (PassS B C s slots R F come L (dc5 C come N k (j + 1)) (df5 C come N k j) (dt5 come k) a3 t' (come2.set Y true) L3) := hP7
                have HS7 : Hid (SeS w (setsBox w.heap.size [.slice (some ⟨b0, o0, none⟩) B.length c0, .slice (some ⟨b1, o1, none⟩) C.length c1, .slice (some ⟨ga, 0, none⟩) F.length ca, .slice (some ⟨gs, 0, none⟩) 4 cs, .slice ao4 n4 c4] [.int .i64 slots, .slice (some ⟨b2, o2, none⟩) R.length c2]) (w.heap.size + 1 + 1) (w.heap.size + 1 + 1 + 1) rb C.length F (come2.set Y true) L3 (wr.setCell ⟨w.heap.size + 1 + 1 + 1, Y, none⟩ (.bool true))) := HS6.out.reach HGE.out Y
                have HC7 : Hid (∀ j, j < F.length → (wr.setCell ⟨w.heap.size + 1 + 1 + 1, Y, none⟩ (.bool true)).cell? ⟨q0, j, none⟩ = some (.bool (O5.getD j false))) := fun q hq => cell_other (HC6.out q hq) (by show q0 ≠ w.heap.size + 1 + 1 + 1; exact HQR.out.2)
                have HN7 : Hid (∀ q, q < N.length → (wr.setCell ⟨w.heap.size + 1 + 1 + 1, Y, none⟩ (.bool true)).cell? ⟨gb, q, none⟩ = some (.int .i64 (N.getD q 0))) := fun q hq => cell_other (HNN.out gb rfl q hq) (by show gb ≠ w.heap.size + 1 + 1 + 1; exact (HGB.out gb (by omega) rfl).2)
                clear hse hcy ha3 hP7
                go_upto_region 31 with fail
                go_cut [13] (fun s wq => s = .bool a3 ∧ wq = wr)
                case first =>
                  cases a2
                  all_goals
                    go_wp2
                    go_meet
                    case rel => exact ⟨by rw [HA3.out]; rfl, rfl⟩
                obtain ⟨rfl, hwc⟩ := hcut
                obtain rfl := hwc.symm
                go_wp2
                have HKN : Hid (∀ q, q < F.length → Known B C s slots R Y (F.getD q .zero) → O5.getD q false = true) := fun q hq hkn => by
                  have h1 := ((known_good B C s slots R).next k Y HRK.out hlt HYM.out hYl).2 _ hkn
                  rw [HIE.out, HRR.out, ← ok_eq HFO.out] at h1
                  have h2 := thruK_mono HUP.out h1
                  rw [← HSET.out, setP_at HSO.out hq] at h2
                  exact h2
                have HTS : Hid (∀ q, q < F.length → O5.getD q false = true → thruK (· ∈ F) (C.getD k .zero) (R.getD k .zero) (setK F L2 k) (F.getD q .zero)) := fun q hq ho => by
                  rw [HIE.out, HRR.out, ← HSET.out, setP_at HSO.out hq]
                  exact ho
                have z5 : (O5.length : Int) = (F.length : Int) := by omega
                go_loopw [13, 20] (fun av iv wr3 => ∃ (a4 : Bool) (q : Nat) (L4 : List Bool), av = .bool a4 ∧ iv = .int .i64 q ∧ q ≤ F.length ∧ SeS w (setsBox w.heap.size [.slice (some ⟨b0, o0, none⟩) B.length c0, .slice (some ⟨b1, o1, none⟩) C.length c1, .slice (some ⟨ga, 0, none⟩) F.length ca, .slice (some ⟨gs, 0, none⟩) 4 cs, .slice ao4 n4 c4] [.int .i64 slots, .slice (some ⟨b2, o2, none⟩) R.length c2]) (w.heap.size + 1 + 1) (w.heap.size + 1 + 1 + 1) rb C.length F (come2.set Y true) L4 wr3 ∧ PassS B C s slots R F come L (dc5 C come N k (j + 1)) (df6 C come N k j Y q) (dt5 come k) a4 t' (come2.set Y true) L4 ∧ (a4 = false → a = false) ∧ (∀ j, j < F.length → wr3.cell? ⟨q0, j, none⟩ = some (.bool (O5.getD j false))) ∧ (∀ q, q < N.length → wr3.cell? ⟨gb, q, none⟩ = some (.int .i64 (N.getD q 0)))) (fun _ iv _ => F.length - (intOf iv).toNat)
                case atStart =>
                  refine ⟨a3, 0, L3, rfl, rfl, by omega, HS7.out, HP7.out.weak (fun _ _ h => h) (fun x u q hu _ => ?_) (fun x => Iff.rfl), HAB.out, HC7.out, HN7.out⟩
                  rcases hu with hu | ⟨_, _, hq⟩
                  · exact hu
                  · exact absurd hq (by omega)
                case round =>
                  obtain ⟨a4, q, L4, rfl, rfl, hq, hse, hps, hab, hs5, hnn⟩ := hrel
                  have HS8 : Hid (SeS w (setsBox w.heap.size [.slice (some ⟨b0, o0, none⟩) B.length c0, .slice (some ⟨b1, o1, none⟩) C.length c1, .slice (some ⟨ga, 0, none⟩) F.length ca, .slice (some ⟨gs, 0, none⟩) 4 cs, .slice ao4 n4 c4] [.int .i64 slots, .slice (some ⟨b2, o2, none⟩) R.length c2]) (w.heap.size + 1 + 1) (w.heap.size + 1 + 1 + 1) rb C.length F (come2.set Y true) L4 wr) := hse
                  have HP8 : Hid (PassS B C s slots R F come L (dc5 C come N k (j + 1)) (df6 C come N k j Y q) (dt5 come k) a4 t' (come2.set Y true) L4) := hps
                  have HA8 : Hid (a4 = false → a = false) := hab
                  have HC8 : Hid (∀ j, j < F.length → wr.cell? ⟨q0, j, none⟩ = some (.bool (O5.getD j false))) := hs5
                  have HN8 : Hid (∀ q, q < N.length → wr.cell? ⟨gb, q, none⟩ = some (.int .i64 (N.getD q 0))) := hnn
                  clear hps hab hs5 hnn
                  by_cases hql : q < F.length
                  case neg =>
                    have v7 : ¬ (q : Int) < (F.length : Int) := by omega
                    clear hse
                    go_wp2
                    go_roundw
                    case rel =>
                      refine ⟨a4, j + 1, come2.set Y true, L4, rfl, by go_num, by omega, HS8.out, HP8.out.weak (fun _ _ h => h) (fun x u q' hu hl => ?_) (fun x => Iff.rfl), HA8.out, HC8.out, fun gb' e => ?_⟩
                      · rcases hu with hu | ⟨e1, e2, p, hp, e3⟩
                        · exact Or.inl (Or.inl hu)
                        · by_cases e : p = j
                          · subst e; rw [HY.out] at e3; simp at e3; exact Or.inr ⟨e1, e3, by omega⟩
                          · exact Or.inl (Or.inr ⟨e1, e2, p, by omega, e3⟩)
                      · simp at e
                        rw [← e]
                        exact HN8.out
                    case measure => simp [intOf]; omega
                  have v7 : (q : Int) < (F.length : Int) := by omega
                  have v8 : (0 : Int) ≤ (q : Int) := by omega
                  have TY := hse.mat.top Y hYl
                  have cX := hse.mat.cell hYl hql
                  have fX := (hse.mat.row Y hYl).frozen q
                  have cS := HC8.out q hql
                  obtain ⟨x, hx⟩ : ∃ b, b = getF F.length L4 Y q := ⟨_, rfl⟩
                  obtain ⟨y, hy⟩ : ∃ b, b = O5.getD q false := ⟨_, rfl⟩
                  rw [← hx] at cX
                  rw [← hy] at cS
                  have HX : Hid (getF F.length L4 Y q = x) := hx.symm
                  have HYY : Hid (O5.getD q false = y) := hy.symm
                  have hali : x = true → y = false → q0 ≠ rb Y := fun e1 e2 e3 => by
                    rw [e3, cX, e1, e2] at cS
                    simp at cS
                  have HAL : Hid (x = true → y = false → q0 ≠ rb Y) := hali
                  have hdf : ∀ x u q', df6 C come N k j Y (q + 1) x u q' → q' < F.length → df6 C come N k j Y q x u q' ∨ (x = k ∧ u = Y ∧ q' = q) := fun x u q' hu _ => by
                    rcases hu with hu | ⟨e1, e2, h3⟩
                    · exact Or.inl (Or.inl hu)
                    · by_cases e : q' = q
                      · exact Or.inr ⟨e1, e2, e⟩
                      · exact Or.inl (Or.inr ⟨e1, e2, by omega⟩)
                  have HDF : Hid (∀ x u q', df6 C come N k j Y (q + 1) x u q' → q' < F.length → df6 C come N k j Y q x u q' ∨ (x = k ∧ u = Y ∧ q' = q)) := hdf
                  clear hx hy hse hali hdf
                  cases x
                  · go_wp2
                    refine ⟨⟨a4, q + 1, L4, rfl, by go_num, by omega, HS8.out, HP8.out.stay (fun _ => Or.inl HX.out) HDF.out, HA8.out, HC8.out, HN8.out⟩, by simp [intOf]; omega⟩
                  · cases y
                    · go_wp2
                      have hno : Reach C Y → ¬ Known B C s slots R Y (F.getD q .zero) := fun _ hk => by have := HKN.out q hql hk; rw [HYY.out] at this; exact absurd this (by simp)
                      refine ⟨⟨true, q + 1, L4.set (Y * F.length + q) false, rfl, by go_num, by omega, HS8.out.drop HGE.out hYl hql, HP8.out.drop hYl hql HX.out hno, fun e => absurd e (by simp), fun p hp => cell_other (HC8.out p hp) (by show q0 ≠ rb Y; exact HAL.out rfl rfl), fun p hp => cell_other (HN8.out p hp) (by show gb ≠ rb Y; exact (HGB.out gb (by omega) rfl).1 Y hYl)⟩, by simp [intOf]; omega⟩
                    · go_wp2
                      refine ⟨⟨a4, q + 1, L4, rfl, by go_num, by omega, HS8.out, HP8.out.stay (fun e => Or.inr ?_) HDF.out, HA8.out, HC8.out, HN8.out⟩, by simp [intOf]; omega⟩
                      rw [← (HL2.out (HA8.out e)).2]
                      exact HTS.out q hql HYY.out

end Go.Proofs.YtcmnmogmdhofcaaGreat.form
