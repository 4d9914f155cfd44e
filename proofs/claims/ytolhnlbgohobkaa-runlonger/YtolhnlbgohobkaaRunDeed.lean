/- What the closures do that the program's machine makes of an instruction, whatever its ends: a step's deed on the machine. -/
import Derived.Test.YtolhnlbgohobkaaRunGiving
import Derived.Deep.AppendLies
namespace Go.Proofs.Ytolhnlbgohobkaa.form
open Go.RowKit Go.Proofs.Ytolhnlbgohobkaa.num
set_option linter.unusedVariables false
set_option maxRecDepth 100000
attribute [local go_sem ↓] Go.wp_at_zero Go.wp_at_succ

section
variable {K : StoK} {mb sb db base bm bi be : Nat} {s : K.S} {ov : Value} {l : List Int} {st k : Int} {iv : Value} {I : List Int} {pc : Int} {i : LIns} {x : EndF} {w : World} {rdA rdB : K.S → Int} {wr : K.S → Int → K.S}

/-- An instruction that has no Dest leaves the store as it is. -/
theorem act_none (hg : ¬ givesB i.op = true) (y : Int) : (plainE rdA rdB wr).act i s y = s := by
  show (if givesB i.op = true then _ else _) = s
  rw [if_neg hg]; rfl

theorem deed2 (hb : Box mb sb db bm bi be i x w) (hm : MS K mb sb base s ov l st k iv I pc w) (ho : i.op = 8) :
    Calls Try.prog 80 #[.pointer (some ⟨bi, 0, none⟩), .pointer (some ⟨bm, 0, none⟩)] w fun e w' => e = .returned (.tuple #[]) ∧ Behind K mb sb base i (plainE rdA rdB wr) s l st k I pc w w' := by
  have cm := hb.pm
  have c4 := hb.i4
  have cp := hm.cpc
  have fz := hm.fz 4
  have HB : Hid (Behind K mb sb base i (plainE rdA rdB wr) s l st k I pc w (w.setCell ⟨mb, 4, none⟩ (.int .i64 i.c))) := by
    refine ⟨⟨ov, iv, ?_⟩, (Ran.refl _ _ _ _).set _ _⟩
    rw [act_none (by unfold givesB; simp [ho]), if_neg (by omega), if_neg (by omega), if_neg (by omega), if_pos (Or.inl ho)]
    exact hm.setPc i.c
  clear hm hb
  go_enter Try.func80, Try.ntmps80
  go_wp2
  go_end0
  exact ⟨rfl, HB.out⟩

theorem deed4 (hb : Box mb sb db bm bi be i x w) (hm : MS K mb sb base s ov l st k iv I pc w) (ho : i.op = 10) :
    Calls Try.prog 82 #[.pointer (some ⟨bm, 0, none⟩)] w fun e w' => e = .returned (.tuple #[]) ∧ Behind K mb sb base i (plainE rdA rdB wr) s l st k I pc w w' := by
  have cm := hb.pm
  have cp := hm.cst
  have fz := hm.fz 0
  have HB : Hid (Behind K mb sb base i (plainE rdA rdB wr) s l st k I pc w (w.setCell ⟨mb, 0, none⟩ (.int .i64 1))) := by
    refine ⟨⟨ov, iv, ?_⟩, (Ran.refl _ _ _ _).set _ _⟩
    rw [act_none (by unfold givesB; simp [ho]), if_neg (by omega), if_pos ho, if_neg (by omega), if_neg (by omega)]
    exact hm.setState 1
  clear hm hb
  go_enter Try.func82, Try.ntmps82
  go_wp2
  go_end0
  exact ⟨rfl, HB.out⟩

theorem deed3 (hb : Box mb sb db bm bi be i x w) (hm : MS K mb sb base s ov l st k iv I pc w) (ho : i.op = 9)
    (hent : ∀ w, Sem.run Try.prog (callFunc x.fa x.ca) w = .ok (.enter x.fa x.ca) w) (hc : ∀ w2, Below w.heap.size w w2 → Calls Try.prog x.fa x.ca w2 fun e w' => e = .returned (.int .u64 (rdA s)) ∧ Below w2.heap.size w2 w') :
    Calls Try.prog 81 #[.pointer (some ⟨be, 0, none⟩), .pointer (some ⟨bi, 0, none⟩), .pointer (some ⟨bm, 0, none⟩)] w fun e w' => e = .returned (.tuple #[]) ∧ Behind K mb sb base i (plainE rdA rdB wr) s l st k I pc w w' := by
  have ce := hb.e0
  have hg : ¬ givesB i.op = true := by unfold givesB; simp [ho]
  have HB1 : Hid (¬ rdA s = 0 → ∀ w1, Below w.heap.size w w1 → Behind K mb sb base i (plainE rdA rdB wr) s l st k I pc w (w1.setCell ⟨mb, 4, none⟩ (.int .i64 i.c))) := by
    intro h0 w1 hb1
    refine ⟨⟨ov, iv, ?_⟩, (Ran.of_below hm.sz hb1).set _ _⟩
    rw [act_none hg, if_neg (by omega), if_neg (by omega), if_neg (by omega), if_pos (Or.inr ⟨ho, h0⟩)]
    exact (hm.below hb1).setPc i.c
  have HB2 : Hid (rdA s = 0 → ∀ w1, Below w.heap.size w w1 → Behind K mb sb base i (plainE rdA rdB wr) s l st k I pc w w1) := by
    intro h0 w1 hb1
    refine ⟨⟨ov, iv, ?_⟩, (Ran.of_below hm.sz hb1)⟩
    rw [act_none hg, if_neg (by omega), if_neg (by omega), if_neg (by omega), if_neg (by show ¬ (i.op = 8 ∨ (i.op = 9 ∧ ¬ rdA s = 0)); rw [h0]; omega)]
    exact (hm.below hb1)
  have HM : Hid (MS K mb sb base s ov l st k iv I pc w) := hm
  have HBX : Hid (Box mb sb db bm bi be i x w) := hb
  have HC : Hid _ := hc
  generalize hae : rdA s = a at *
  clear hm hb hg hae hc
  go_enter Try.func81, Try.ntmps81
  go_wp2_with fail
  refine (HC.out _ (Below.refl _ _)).mono ?_
  rintro e w1 ⟨rfl, hb1⟩
  have cm := step_cell hb1 HBX.out.pm
  have c4 := step_cell hb1 HBX.out.i4
  have cp := (HM.out.below hb1).cpc
  have fz := (HM.out.below hb1).fz 4
  have HW : Hid (Below w.heap.size w w1) := hb1
  clear hb1
  go_wp2
  all_goals go_end0
  · exact ⟨rfl, HB1.out (by simp_all) _ HW.out⟩
  · exact ⟨rfl, HB2.out (by simp_all) _ HW.out⟩

theorem infU32 : (Try.prog.info? 23).map (fun i => (i.zero, i.size, i.bytes)) = some (some (.int .u32 0), 1, 4) := by kernel_rfl
end
end Go.Proofs.Ytolhnlbgohobkaa.form
