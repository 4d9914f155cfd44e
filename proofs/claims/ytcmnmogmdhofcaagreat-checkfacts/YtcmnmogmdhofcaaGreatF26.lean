/- The greatest sets, by rounds (loanbookref8.World.Sets). -/
import Derived.Test.YtcmnmogmdhofcaaGreatF09

namespace Go.Proofs.YtcmnmogmdhofcaaGreat.form
open Go.RowKit Go.Proofs.YtcmnmogmdhofcaaGreat.num
set_option linter.unusedVariables false
attribute [local go_sem ↓] Go.wp_at_zero Go.wp_at_succ

structure MatR (T : Nat) (rb : Nat → Nat) (nB nC : Nat) (L : List Bool) (w : World) : Prop where
  len : L.length = nC * nB
  top : ∀ k, k < nC → w.cell? ⟨T, k, none⟩ = some (.slice (some ⟨rb k, 0, none⟩) nB nB)
  row : ∀ k, k < nC → Row w (rb k) 4 ((rowF nB L k).map Value.bool)
  inj : ∀ j k, j < nC → k < nC → rb j = rb k → j = k
  ne : ∀ k, k < nC → rb k ≠ T

theorem MatR.cell {T : Nat} {rb : Nat → Nat} {nB nC : Nat} {L : List Bool} {w : World} (h : MatR T rb nB nC L w) {k t : Nat} (hk : k < nC) (ht : t < nB) : w.cell? ⟨rb k, t, none⟩ = some (.bool (getF nB L k t)) := by
  rw [(h.row k hk).cell]
  simp [rowF, ht]
theorem MatR.below {T : Nat} {rb : Nat → Nat} {nB nC : Nat} {L : List Bool} {w w' : World} (h : MatR T rb nB nC L w) (hb : Below w.heap.size w w') : MatR T rb nB nC L w' :=
  ⟨h.len, fun k hk => step_cell hb (h.top k hk), fun k hk => (h.row k hk).below hb, h.inj, h.ne⟩
theorem rowF_drop {nB nC k t k' : Nat} {L : List Bool} (hL : L.length = nC * nB) (hk : k < nC) (ht : t < nB) : rowF nB (L.set (k * nB + t) false) k' = if k' = k then (rowF nB L k').set t false else rowF nB L k' := by
  by_cases e : k' = k
  · rw [if_pos e]
    subst e
    apply List.ext_getElem (by simp [rowF])
    intro q h1 h2
    have hq : q < nB := by simpa [rowF] using h1
    simp only [rowF, List.getElem_map, List.getElem_range, List.getElem_set]
    rw [getF_drop hL hk ht hq]
    by_cases e2 : q = t
    · simp [e2]
    · rw [if_neg (by omega), if_neg (by omega)]
  · rw [if_neg e]
    unfold rowF
    apply List.map_congr_left
    intro q hq
    rw [getF_drop hL hk ht (by simpa using hq), if_neg (by omega)]
theorem MatR.drop {T : Nat} {rb : Nat → Nat} {nB nC : Nat} {L : List Bool} {w : World} (h : MatR T rb nB nC L w) {k t : Nat} (hk : k < nC) (ht : t < nB) : MatR T rb nB nC (L.set (k * nB + t) false) (w.setCell ⟨rb k, t, none⟩ (.bool false)) := by
  refine ⟨by simp [h.len], fun j hj => cell_other (h.top j hj) (by show T ≠ rb k; exact Ne.symm (h.ne k hk)), fun j hj => ?_, h.inj, h.ne⟩
  rw [rowF_drop h.len hk ht]
  by_cases e : j = k
  · subst e
    rw [if_pos rfl]
    have := (h.row j hj).set t (.bool false)
    simpa [List.map_set] using this
  · rw [if_neg e]
    exact (h.row j hj).other (fun e2 => e (h.inj j k hj hk e2)) _

def startL (nB nC : Nat) (O : List Bool) : List Bool := O ++ List.replicate ((nC - 1) * nB) true
theorem startL_len {nB nC : Nat} {O : List Bool} (h1 : 1 ≤ nC) (hO : O.length = nB) : (startL nB nC O).length = nC * nB := by
  unfold startL
  have h3 : (nC - 1) * nB + nB = nC * nB := by rw [← Nat.succ_mul]; congr 1; omega
  rw [List.length_append, List.length_replicate, hO]
  omega
theorem startL_get {nB nC k t : Nat} {O : List Bool} (hO : O.length = nB) (hk : k < nC) (ht : t < nB) : getF nB (startL nB nC O) k t = if k = 0 then O.getD t false else true := by
  unfold getF startL
  by_cases e : k = 0
  · subst e
    rw [if_pos rfl]
    simp [List.getD, List.getElem?_append_left (show t < O.length by omega)]
  · rw [if_neg e]
    have h1 : nB ≤ k * nB := Nat.le_mul_of_pos_left nB (by omega)
    have h2 := flat_lt hk ht
    have h3 : (nC - 1) * nB + nB = nC * nB := by rw [← Nat.succ_mul]; congr 1; omega
    have h4 : k * nB + t - O.length < (nC - 1) * nB := by omega
    rw [List.getD, List.getElem?_append_right (show O.length ≤ k * nB + t by omega), List.getElem?_replicate, if_pos h4]
    rfl

theorem It.init {B : List Bool} {C : List LIns} {s slots : Int} {R : List LRow} {F : List LFact} {O : List Bool} (hF : ∀ f, f ∈ F ↔ FactOk B s slots (NumP C) f) (hso : F.Pairwise factLt) (h1 : 1 ≤ C.length) (hO : MarksOf F (fun f => f.n = 0) F.length O) :
    It B C s slots R F ((List.replicate C.length false).set 0 true) (startL F.length C.length O) := by
  have e : ∀ k, ((List.replicate C.length false).set 0 true).getD k false = true ↔ k = 0 := fun k => by
    by_cases e : k = 0
    · subst e; simp [List.getD, show 0 < C.length by omega]
    · by_cases hk : k < C.length <;> simp [List.getD, Ne.symm e, hk, e]
  refine ⟨by simp, startL_len h1 hO.1, (e 0).2 rfl, fun k _ hc => ?_, fun k f hk hr hf => ?_, fun f hf => ?_⟩
  · rw [(e k).1 hc]; exact reach_start C
  · have hg := known_good B C s slots R
    have hfm := (hF f).2 (hg.ok k f hf)
    obtain ⟨q, hq, e2⟩ := List.getElem_of_mem hfm
    have e3 : F.getD q .zero = f := by simp [List.getD, hq, e2]
    rw [setK_iff]
    refine ⟨q, hq, e3, ?_⟩
    rw [startL_get hO.1 hk hq]
    split
    · rename_i h0
      subst h0
      rw [hO.2 q hq, e3]
      exact hg.beg f hf
    · rfl
  · rw [setK_iff] at hf
    obtain ⟨q, hq, rfl, hg⟩ := hf
    rw [startL_get hO.1 (by omega) hq, if_pos rfl, hO.2 q hq] at hg
    exact hg

structure SeS (w : World) (boxes : List (Nat × TypeId × List Value)) (T Cb : Nat) (rb : Nat → Nat) (nC : Nat) (F : List LFact) (come L : List Bool) (wr : World) : Prop where
  bel : Below w.heap.size w wr
  bx : ∀ x, x ∈ boxes → Row wr x.1 x.2.1 x.2.2
  mat : MatR T rb F.length nC L wr
  cm : Row wr Cb 4 (come.map Value.bool)
structure Geo (w : World) (boxes : List (Nat × TypeId × List Value)) (T Cb : Nat) (rb : Nat → Nat) (nC : Nat) : Prop where
  cb : w.heap.size ≤ Cb
  rbs : ∀ k, k < nC → w.heap.size ≤ rb k
  neC : ∀ k, k < nC → rb k ≠ Cb
  tc : T ≠ Cb
  bxC : ∀ x, x ∈ boxes → x.1 ≠ Cb
  bxR : ∀ x, x ∈ boxes → ∀ k, k < nC → x.1 ≠ rb k

theorem SeS.below {w wr w1 : World} {boxes : List (Nat × TypeId × List Value)} {T Cb : Nat} {rb : Nat → Nat} {nC : Nat} {F : List LFact} {come L : List Bool} (h : SeS w boxes T Cb rb nC F come L wr) (hb : Below wr.heap.size wr w1) : SeS w boxes T Cb rb nC F come L w1 :=
  ⟨step_below hb h.bel, fun x hx => (h.bx x hx).below hb, h.mat.below hb, h.cm.below hb⟩
theorem SeS.reach {w wr : World} {boxes : List (Nat × TypeId × List Value)} {T Cb : Nat} {rb : Nat → Nat} {nC : Nat} {F : List LFact} {come L : List Bool} (h : SeS w boxes T Cb rb nC F come L wr) (hg : Geo w boxes T Cb rb nC) (t : Nat) : SeS w boxes T Cb rb nC F (come.set t true) L (wr.setCell ⟨Cb, t, none⟩ (.bool true)) := by
  refine ⟨h.bel.setCell hg.cb _, fun x hx => (h.bx x hx).other (hg.bxC x hx) _, ⟨h.mat.len, fun k hk => cell_other (h.mat.top k hk) hg.tc, fun k hk => (h.mat.row k hk).other (hg.neC k hk) _, h.mat.inj, h.mat.ne⟩, ?_⟩
  have := h.cm.set t (.bool true)
  simpa [List.map_set] using this
theorem SeS.drop {w wr : World} {boxes : List (Nat × TypeId × List Value)} {T Cb : Nat} {rb : Nat → Nat} {nC : Nat} {F : List LFact} {come L : List Bool} (h : SeS w boxes T Cb rb nC F come L wr) (hg : Geo w boxes T Cb rb nC) {k t : Nat} (hk : k < nC) (ht : t < F.length) : SeS w boxes T Cb rb nC F come (L.set (k * F.length + t) false) (wr.setCell ⟨rb k, t, none⟩ (.bool false)) :=
  ⟨h.bel.setCell (hg.rbs k hk) _, fun x hx => (h.bx x hx).other (hg.bxR x hx k hk) _, h.mat.drop hk ht, h.cm.other (fun e => hg.neC k hk e.symm) _⟩

structure MkS (w : World) (boxes : List (Nat × TypeId × List Value)) (T Cb g nB nC k : Nat) (come : List Bool) (wr : World) : Prop where
  bel : Below w.heap.size w wr
  size : wr.heap.size = g + k
  bx : ∀ x, x ∈ boxes → Row wr x.1 x.2.1 x.2.2
  cm : Row wr Cb 4 (come.map Value.bool)
  top : ∃ vs : List Value, vs.length = nC ∧ Row wr T 22 vs ∧ ∀ j, j < k → vs[j]? = some (.slice (some ⟨g + j, 0, none⟩) nB nB)
  row : ∀ j, j < k → Row wr (g + j) 4 ((List.replicate nB true).map Value.bool)

def setsBox (H : Nat) (wvs pvs : List Value) : List (Nat × TypeId × List Value) := [(H, 66, wvs), (H + 1, 30, pvs)]

def rbOf (g b : Nat) (k : Nat) : Nat := if k = 0 then b else g + k

theorem se_start {w wr w2 : World} {boxes : List (Nat × TypeId × List Value)} {T Cb g : Nat} {C : List LIns} {F : List LFact} {come O : List Bool} (h : MkS w boxes T Cb g F.length C.length C.length come wr) (hb : Below wr.heap.size wr w2) (hr : Row w2 (wr.heap.size + 1) 4 (O.map Value.bool)) (hO : O.length = F.length) (h1 : 1 ≤ C.length)
    (hbx : ∀ x, x ∈ boxes → x.1 < T) (hT : T < Cb) (hC : Cb < g) (hw : w.heap.size ≤ T) :
    SeS w boxes T Cb (rbOf g (wr.heap.size + 1)) C.length F come (startL F.length C.length O) (w2.setCell ⟨T, 0, none⟩ (.slice (some ⟨wr.heap.size + 1, 0, none⟩) F.length F.length)) ∧ Geo w boxes T Cb (rbOf g (wr.heap.size + 1)) C.length := by
  have hs := h.size
  obtain ⟨vs, v1, v2, v3⟩ := h.top
  have hrow : ∀ k, k < C.length → rowF F.length (startL F.length C.length O) k = if k = 0 then O else List.replicate F.length true := fun k hk => by
    apply List.ext_getElem (by rw [len_rowF]; split <;> simp [hO])
    intro q q1 q2
    have hq : q < F.length := by rw [len_rowF] at q1; exact q1
    simp only [rowF, List.getElem_map, List.getElem_range]
    rw [startL_get hO hk hq]
    split
    · rename_i e; simp [List.getD, hO, hq]
    · rename_i e; simp
  have hlt : ∀ k, k < C.length → T < rbOf g (wr.heap.size + 1) k ∧ Cb < rbOf g (wr.heap.size + 1) k := fun k hk => by unfold rbOf; split <;> omega
  refine ⟨⟨(step_below hb h.bel).setCell hw _, fun x hx => ((h.bx x hx).below hb).other (by have := hbx x hx; show x.1 ≠ T; omega) _, ⟨startL_len h1 hO, fun k hk => ?_, fun k hk => ?_, fun j k hj hk e => ?_, fun k hk => by have := (hlt k hk).1; omega⟩, (h.cm.below hb).other (by show Cb ≠ T; omega) _⟩, ?_⟩
  · have r := (v2.below hb).set 0 (.slice (some ⟨wr.heap.size + 1, 0, none⟩) F.length F.length)
    rw [r.cell]
    unfold rbOf
    by_cases e : k = 0
    · subst e; rw [if_pos rfl, List.getElem?_set_self (by omega)]
    · rw [if_neg e, List.getElem?_set_ne (Ne.symm e)]
      exact v3 k hk
  · rw [hrow k hk]
    unfold rbOf
    by_cases e : k = 0
    · rw [if_pos e, if_pos e]
      exact hr.other (by show wr.heap.size + 1 ≠ T; omega) _
    · rw [if_neg e, if_neg e]
      exact ((h.row k hk).below hb).other (by show g + k ≠ T; omega) _
  · unfold rbOf at e
    split at e <;> split at e <;> omega
  · refine ⟨by omega, fun k hk => by have := (hlt k hk).1; omega, fun k hk => by have := (hlt k hk).2; omega, by omega, fun x hx => by have := hbx x hx; omega, fun x hx k hk => by have := hbx x hx; have := (hlt k hk).1; omega⟩

def ThruSpec (w : World) (F : List LFact) (C : List LIns) (R : List LRow) (wvs : List Value) : Prop :=
  ∀ (wx : World) (k : Nat) (sv : Value) (S : List Bool) (bao : Option Addr) (bcap : Nat) (aao : Option Addr) (acap : Nat), Below w.heap.size w wx → k < C.length → BRowIs wx sv S → S.length = F.length → MovesIs w (.slice bao (R.getD k .zero).before.length bcap) (R.getD k .zero).before → MovesIs w (.slice aao (R.getD k .zero).after.length acap) (R.getD k .zero).after →
    Calls Tryz.prog 37 #[.agg wvs.toArray, sv, (C.getD k .zero).val, .agg #[.int .i64 (R.getD k .zero).dest.kind, .int .i64 (R.getD k .zero).dest.n, .int .i64 (R.getD k .zero).a.kind, .int .i64 (R.getD k .zero).a.n, .int .i64 (R.getD k .zero).b.kind, .int .i64 (R.getD k .zero).b.n, .slice bao (R.getD k .zero).before.length bcap, .slice aao (R.getD k .zero).after.length acap]] wx fun e w' => ThruAns F (C.getD k .zero) (R.getD k .zero) S sv wx.heap.size e w' ∧ Below wx.heap.size wx w'

end Go.Proofs.YtcmnmogmdhofcaaGreat.form
