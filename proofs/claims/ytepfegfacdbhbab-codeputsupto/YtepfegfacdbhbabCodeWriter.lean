/- The program's own writer (code.writer) in memory, and what it writes: put. -/
import Derived.Test.YtepfegfacdbhbabCodePutAns
import Derived.Laws.BitsAllLaws
import Derived.Laws.BitsLemmas
namespace Go.Proofs.Ytepfegfacdbhbab.form
open Go.RowKit
set_option linter.unusedVariables false
set_option maxRecDepth 100000
attribute [local go_sem ↓] Go.wp_at_zero Go.wp_at_succ

/-- What has become of bytes, behind these numbers. -/
structure Wrote (xs bs : List Int) (bad : Bool) (bs' : List Int) (bad' : Bool) : Prop where
  bad : bad' = (bad || !smallB xs)
  row : bad' = false → bs' = bs ++ xs
  len : bs'.length ≤ bs.length + xs.length
theorem Wrote.nil (bs : List Int) (bad : Bool) : Wrote [] bs bad bs bad := ⟨by simp [smallB], fun _ => by simp, by simp⟩
theorem smallB_append (l m : List Int) : smallB (l ++ m) = (smallB l && smallB m) := by simp [smallB, List.all_append]
theorem Wrote.trans {xs ys bs bs1 bs2 : List Int} {bad bad1 bad2 : Bool} (h : Wrote xs bs bad bs1 bad1) (k : Wrote ys bs1 bad1 bs2 bad2) : Wrote (xs ++ ys) bs bad bs2 bad2 := by
  refine ⟨?_, fun e => ?_, ?_⟩
  · rw [k.bad, h.bad, smallB_append]; cases bad <;> cases smallB xs <;> simp
  · have h1 : bad1 = false := by
      have := k.bad
      rw [e] at this
      cases bad1 with
      | false => rfl
      | true => exact absurd this (by simp)
    rw [k.row e, h.row h1, List.append_assoc]
  · have := h.len; have := k.len; rw [List.length_append]; omega
theorem Wrote.stop {xs ys bs bs1 : List Int} {bad : Bool} (h : Wrote xs bs bad bs1 true) : Wrote (xs ++ ys) bs bad bs1 true := by
  refine ⟨?_, fun e => absurd e (by simp), ?_⟩
  · have := h.bad
    rw [smallB_append]
    revert this
    generalize smallB xs = p
    generalize smallB ys = q
    cases bad <;> cases p <;> cases q <;> simp
  · have := h.len; rw [List.length_append]; omega

def bV (x : Int) : Value := .int .u8 x
/-- A writer in memory, at block b; the bytes lie above base; what was handed in lies below b. -/
structure WtS (w0 : World) (base b : Nat) (bs : List Int) (bad : Bool) (v : Value) (wr : World) : Prop where
  box : Row wr b 137 [v, .bool bad]
  own : wr.ownsRow base 5 1 v bs.length (bs.map bV)
  lo : b < base
  hi : base ≤ wr.heap.size
  all : ∀ x, x ∈ bs → 0 ≤ x ∧ x ≤ 255
  bel : Below w0.heap.size w0 wr
  lo0 : w0.heap.size ≤ b
/-- All blocks that were there are as they were, but for the writer's and its bytes'. -/
structure WtF (b : Nat) (v : Value) (w : World) (v' : Value) (w' : World) : Prop where
  os : w'.os = w.os
  tape : w'.tape = w.tape
  output : w'.output = w.output
  size : w.heap.size ≤ w'.heap.size
  block : ∀ k, k < w.heap.size → k ≠ b → v.ownBlock ≠ some k → w'.heap[k]? = w.heap[k]?
  own : ∀ k, k < w.heap.size → v'.ownBlock = some k → v.ownBlock = some k
section
variable {w0 w w1 w2 : World} {base b : Nat} {bs : List Int} {bad : Bool} {v v1 v2 : Value}
theorem WtF.refl (b : Nat) (v : Value) (w : World) : WtF b v w v w := ⟨rfl, rfl, rfl, Nat.le_refl _, fun _ _ _ _ => rfl, fun _ _ h => h⟩
theorem WtF.of_below (hb : Below w.heap.size w w1) : WtF b v w v w1 := ⟨hb.os, hb.tape, hb.output, hb.size, fun k hk _ _ => hb.block k hk, fun _ _ h => h⟩
theorem WtF.trans (h : WtF b v w v1 w1) (k : WtF b v1 w1 v2 w2) : WtF b v w v2 w2 :=
  ⟨k.os.trans h.os, k.tape.trans h.tape, k.output.trans h.output, Nat.le_trans h.size k.size,
   fun i hi h1 h2 => (k.block i (Nat.lt_of_lt_of_le hi h.size) h1 (fun e => h2 (h.own i hi e))).trans (h.block i hi h1 h2),
   fun i hi e => h.own i hi (k.own i (Nat.lt_of_lt_of_le hi h.size) e)⟩
theorem WtF.cell (h : WtF b v w v1 w1) {p : Addr} {u : Value} (hc : w.cell? p = some u) (h1 : p.block ≠ b) (h2 : v.ownBlock ≠ some p.block) : w1.cell? p = some u := by
  rw [World.cell?_of_block (h.block p.block (World.block_lt_of_cell? w _ hc) h1 h2)]; exact hc
theorem WtF.rows (h : WtF b v w v1 w1) {c : Nat} {t : TypeId} {cs : List Value} (hr : Row w c t cs) (h1 : c ≠ b) (h2 : v.ownBlock ≠ some c) : Row w1 c t cs := by
  have := hr.lt
  unfold Row at *
  rw [h.block c this h1 h2]; exact hr
theorem WtS.form (h : WtS w0 base b bs bad v w) : ∃ ao cap, v = .slice ao bs.length cap := by
  rcases h.own.2 with ⟨e, e2⟩ | ⟨g, cap, cur, e, -⟩
  · exact ⟨none, 0, by rw [e, e2]⟩
  · exact ⟨_, _, e⟩
theorem WtS.own_ge (h : WtS w0 base b bs bad v w) {k : Nat} (e : v.ownBlock = some k) : base ≤ k ∧ k < w.heap.size := World.ownsRow.lt h.own k e
theorem WtS.below (h : WtS w0 base b bs bad v w) (hb : Below w.heap.size w w1) : WtS w0 base b bs bad v w1 :=
  ⟨h.box.below hb, World.ownsRow.kept h.own ⟨hb.os, hb.tape, hb.output, hb.size, fun j hj _ => hb.block j hj⟩ (row := none) (by cases v.ownBlock <;> simp), h.lo, Nat.le_trans h.hi hb.size, h.all, step_below hb h.bel, h.lo0⟩
/-- The byte more. -/
theorem WtS.push (h : WtS w0 base b bs bad v w) {x : Int} (hx : 0 ≤ x ∧ x ≤ 255) {g cap : Nat} (hown : w1.ownsRow base 5 1 (.slice (some ⟨g, 0, none⟩) (bs.length + 1) cap) (bs.length + 1) (bs.map bV ++ [bV x])) (hgrow : w.grownBy w1 v.ownBlock) :
    WtS w0 base b (bs ++ [x]) bad (.slice (some ⟨g, 0, none⟩) (bs.length + 1) cap) (w1.setCell ⟨b, 0, none⟩ (.slice (some ⟨g, 0, none⟩) (bs.length + 1) cap)) := by
  have hlo := h.lo
  have hlo0 := h.lo0
  have hne : some b ≠ v.ownBlock := fun e => by have := (h.own_ge e.symm).1; omega
  refine ⟨?_, ?_, hlo, ?_, ?_, ?_, hlo0⟩
  · exact (h.box.grown hgrow hne).set 0 _
  · have := ownsRow_setCell_below hown (a := ⟨b, 0, none⟩) hlo (.slice (some ⟨g, 0, none⟩) (bs.length + 1) cap)
    simpa using this
  · have := hgrow.size; have := h.hi; simp [World.setCell]; omega
  · intro y hy
    rw [List.mem_append, List.mem_singleton] at hy
    rcases hy with hy | rfl
    · exact h.all y hy
    · exact hx
  · exact (h.bel.grown hgrow (by have := h.hi; omega) (fun j hj => by have := (h.own_ge hj).1; omega)).setCell (by dsimp only; omega) _
theorem WtF.push (h : WtF b v1 w2 v w) {g n cap : Nat} (hgrow : w.grownBy w1 v.ownBlock) (hat : v.ownBlock = some g ∨ g = w.heap.size) :
    WtF b v1 w2 (.slice (some ⟨g, 0, none⟩) n cap) (w1.setCell ⟨b, 0, none⟩ (.slice (some ⟨g, 0, none⟩) n cap)) := by
  refine h.trans (v2 := .slice (some ⟨g, 0, none⟩) n cap) ⟨hgrow.os, hgrow.tape, hgrow.output, by simpa [World.setCell] using hgrow.size, fun k hk h1 h2 => ?_, fun k hk e => ?_⟩
  · rw [Below.heap_setCell _ _ _ _ h1]; exact hgrow.block k hk (fun e => h2 e.symm)
  · simp only [Value.ownBlock, Option.some.injEq] at e
    subst e
    rcases hat with hat | hat
    · exact hat
    · omega
/-- Something is wrong. -/
theorem WtS.mark (h : WtS w0 base b bs bad v w) : WtS w0 base b bs true v (w.setCell ⟨b, 1, none⟩ (.bool true)) := by
  have hlo := h.lo
  have hlo0 := h.lo0
  exact ⟨h.box.set 1 _, ownsRow_setCell_below h.own (a := ⟨b, 1, none⟩) hlo _, hlo, by simpa [World.setCell] using h.hi, h.all, h.bel.setCell (by dsimp only; omega) _, hlo0⟩
theorem WtF.mark (h : WtF b v1 w2 v w) : WtF b v1 w2 v (w.setCell ⟨b, 1, none⟩ (.bool true)) :=
  h.trans ⟨rfl, rfl, rfl, by simp [World.setCell], fun k hk h1 _ => Below.heap_setCell _ _ _ _ h1, fun _ _ e => e⟩
end

theorem infB : (Try.prog.info? 5).map (fun i => (i.zero, i.size, i.bytes)) = some (some (.int .u8 0), 1, 1) := by kernel_rfl
theorem small_take {xs : List Int} {k : Nat} (hk : k < xs.length) : smallB (xs.take (k + 1)) = (smallB (xs.take k) && (decide (0 ≤ xs.getD k 0) && decide (xs.getD k 0 ≤ 255))) := by
  rw [List.take_succ_eq_append_getElem hk, smallB_append]
  simp [smallB, List.getD, hk]
theorem small_not {xs : List Int} {k : Nat} (hk : k < xs.length) (h : ¬ (0 ≤ xs.getD k 0 ∧ xs.getD k 0 ≤ 255)) : smallB xs = false := by
  cases hs : smallB xs with
  | false => rfl
  | true =>
    unfold smallB at hs
    rw [List.all_eq_true] at hs
    have := hs (xs.getD k 0) (by simp [List.getD, hk])
    simp only [Bool.and_eq_true, decide_eq_true_eq] at this
    exact absurd this h

/-- What a call that writes these numbers answers. -/
def WroteP (w0 : World) (base b : Nat) (xs bs : List Int) (bad : Bool) (v : Value) (w : World) (e : Ending) (w' : World) : Prop :=
  e = .returned (.tuple #[]) ∧ ∃ bs' bad' v', WtS w0 base b bs' bad' v' w' ∧ Wrote xs bs bad bs' bad' ∧ WtF b v w v' w'

set_option maxHeartbeats 1000000 in
theorem putW {w0 : World} {base b : Nat} {bs : List Int} {bad : Bool} {v : Value} {w : World} (h : WtS w0 base b bs bad v w) (nb : Nat) (xs : List Int) (hn : Row w nb 3 (xs.map iV)) (hnb : nb ≠ b) (hnv : v.ownBlock ≠ some nb) (hl : bs.length + xs.length ≤ 1099511627776) :
    Calls Try.prog 119 #[.pointer (some ⟨b, 0, none⟩), .slice (some ⟨nb, 0, none⟩) xs.length xs.length] w fun e w' => WroteP w0 base b xs bs bad v w e w' := by
  have HW : Hid (WtS w0 base b bs bad v w) := h
  have HN : Hid (Row w nb 3 (xs.map iV)) := hn
  have HNV : Hid (v.ownBlock ≠ some nb) := hnv
  have HL : Hid (bs.length + xs.length ≤ 1099511627776) := hl
  have z0 : (xs.length : Int) ≤ 1099511627776 := by omega
  clear h hn hnv hl
  obtain ⟨t0', hi0, hy0, hy1, hy2⟩ := info_parts infB
  go_enter Try.func119, Try.ntmps119
  go_wp2
  go_loopg [8] (xs.length + 1) (fun gg t wr => ∃ (k : Nat) (v1 : Value), t = .int .i64 k ∧ k ≤ xs.length ∧ gg = xs.length + 1 - k ∧ WtS w0 base b (bs ++ xs.take k) bad v1 wr ∧ WtF b v w v1 wr ∧ smallB (xs.take k) = true)
  case atStart => exact ⟨0, v, rfl, by omega, by omega, by simpa using HW.out, WtF.refl _ _ _, by simp [smallB]⟩
  case round =>
    obtain ⟨k, v1, rfl, hk, hgk, hws, hwf, hsm⟩ := hrel
    have HGK : Hid (gk = xs.length + 1 - k) := hgk
    have HSM : Hid (smallB (xs.take k) = true) := hsm
    obtain ⟨cs, hcs⟩ : ∃ cs, cs = bs ++ xs.take k := ⟨_, rfl⟩
    rw [← hcs] at hws
    have hcl : cs.length = bs.length + k := by rw [hcs, List.length_append, List.length_take]; omega
    have HCS : Hid (cs = bs ++ xs.take k) := hcs
    have HCL : Hid (cs.length = bs.length + k) := hcl
    obtain ⟨ao, cap, hv1⟩ := hws.form
    subst hv1
    have HWS : Hid (WtS w0 base b cs bad (.slice ao cs.length cap) wr) := hws
    have HWF : Hid (WtF b v w (.slice ao cs.length cap) wr) := hwf
    have b0 : wr.cell? ⟨b, 0, none⟩ = some (.slice ao cs.length cap) := hws.box.cell 0
    have b1 : wr.cell? ⟨b, 1, none⟩ = some (.bool bad) := hws.box.cell 1
    have hbl : b < wr.heap.size := hws.box.lt
    have fz : ∀ j, wr.frozen? ⟨b, j, none⟩ = false := fun j => hws.box.frozen j
    clear hgk hsm hws hwf hcs hcl
    by_cases hlt : k < xs.length
    case neg =>
      have y1 : ¬ (k : Int) < (xs.length : Int) := by omega
      go_wp2
      refine bodyPost_end (results_none rfl _ _ _) rfl ?_
      have e : xs.take k = xs := List.take_of_length_le (by omega)
      have e2 := HCS.out
      rw [e] at e2
      have e3 := HSM.out
      rw [e] at e3
      exact ⟨rfl, cs, bad, _, HWS.out, ⟨by rw [e3]; simp, fun _ => e2, by rw [e2, List.length_append]; omega⟩, HWF.out⟩
    have y1 : (k : Int) < (xs.length : Int) := by omega
    have y0 : (0 : Int) ≤ (k : Int) := by omega
    have hr := HWF.out.rows HN.out hnb HNV.out
    have d0 : wr.cell? ⟨nb, k, none⟩ = some (.int .i64 (xs.getD k 0)) := by rw [hr.cell k]; simp [List.getD, hlt, iV]
    obtain ⟨x, hx⟩ : ∃ x, x = xs.getD k 0 := ⟨_, rfl⟩
    rw [← hx] at d0
    have HX : Hid (x = xs.getD k 0) := hx
    clear hx hr
    by_cases hs : 0 ≤ x ∧ x ≤ 255
    case neg =>
      have hw : Hid (WroteP w0 base b xs bs bad v w (.returned (.tuple #[])) (wr.setCell ⟨b, 1, none⟩ (.bool true))) := by
        refine ⟨rfl, cs, true, _, HWS.out.mark, ⟨?_, fun e => absurd e (by simp), ?_⟩, HWF.out.mark⟩
        · rw [small_not hlt (by rw [← HX.out]; exact hs)]; simp
        · have := HCL.out; omega
      by_cases h0 : x < 0
      · go_wp2
        refine bodyPost_ret (results_none rfl _ _ _) rfl ?_
        exact hw.out
      · have h1 : 255 < x := by omega
        go_wp2
        refine bodyPost_ret (results_none rfl _ _ _) rfl ?_
        exact hw.out
    obtain ⟨x0, x1⟩ := hs
    have x2 : ¬ x < 0 := by omega
    have x3 : ¬ 255 < x := by omega
    go_wp2_with (at_builtin; refine wpList_append_lies _ rfl _ _ 61 rfl base 5 t0' (.int .u8 0) 1 1 Try.underlying61 hi0 hy0 hy1 hy2 rfl (by decide) (.slice ao cs.length cap) cs.length (cs.map bV) rfl (World.ownsRow.alloc HWS.out.own _) ⟨wr.heap.size, 0, none⟩ 1 1 [bV x] rfl rfl (World.news_of_block (cs := #[.int .u8 x]) (t := 5) (fr := (0, 0)) (heap_alloc_new wr _)) (by simp [bV, Value.oneCell']) (by decide) (by have := HL.out; have := HCL.out; unfold maxLen; omega) (by have := HL.out; have := HCL.out; omega) (by have := HWS.out.hi; simp; omega) (wr.heap.size + 1) (by simp) ?c6)
    case c6 =>
      intro g2 cap2 w2 hown hgrow hat hlt2
      have hws2 := HWS.out.below ((Below.refl _ _).alloc (Nat.le_refl _) (.cells #[.int .u8 x] 5))
      have hwf2 : WtF b v w (.slice ao cs.length cap) (wr.alloc (.cells #[.int .u8 x] 5)) := HWF.out.trans (WtF.of_below ((Below.refl _ _).alloc (Nat.le_refl _) _))
      have hne : some b ≠ (Value.slice ao cs.length cap).ownBlock := fun e => by have := (HWS.out.own_ge e.symm).1; have := HWS.out.lo; omega
      have HP : Hid (WtS w0 base b (cs ++ [x]) bad (.slice (some ⟨g2, 0, none⟩) (cs.length + 1) cap2) (w2.setCell ⟨b, 0, none⟩ (.slice (some ⟨g2, 0, none⟩) (cs.length + 1) cap2))) := hws2.push ⟨x0, x1⟩ hown hgrow
      have HQ : Hid (WtF b v w (.slice (some ⟨g2, 0, none⟩) (cs.length + 1) cap2) (w2.setCell ⟨b, 0, none⟩ (.slice (some ⟨g2, 0, none⟩) (cs.length + 1) cap2))) := hwf2.push hgrow (by simpa using hat)
      have c0 : w2.cell? ⟨b, 0, none⟩ = some (.slice ao cs.length cap) := hgrow.cell (hws2.box.cell 0) hne
      have f0 : w2.frozen? ⟨b, 0, none⟩ = false := (hws2.box.grown hgrow hne).frozen 0
      clear hown hgrow hat hws2 hwf2 hne b0 b1 fz
      go_wp2
      have hgk := HGK.out
      go_roundg (gk - 1)
      case measure => omega
      case rel =>
        have e : xs.take (k + 1) = xs.take k ++ [x] := by rw [List.take_succ_eq_append_getElem hlt, HX.out]; simp [List.getD, hlt]
        refine ⟨k + 1, _, by go_num, by omega, by omega, ?_, HQ.out, ?_⟩
        · rw [e, ← List.append_assoc, ← HCS.out]; exact HP.out
        · rw [small_take hlt, HSM.out, ← HX.out]; simp [x0, x1]

end Go.Proofs.Ytepfegfacdbhbab.form
