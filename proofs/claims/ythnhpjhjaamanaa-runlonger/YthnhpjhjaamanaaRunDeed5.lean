/- What the closure does that the program's run makes of an instruction that has a Dest: it puts there what another closure gives. -/
import Derived.Test.YthnhpjhjaamanaaRunDeed
namespace Go.Proofs.Ythnhpjhjaamanaa.form
open Go.RowKit Go.Proofs.Ythnhpjhjaamanaa.num
set_option linter.unusedVariables false
attribute [local go_sem ↓] Go.wp_at_zero Go.wp_at_succ

section
variable {mb db base bm bi bg : Nat} {ts : List Int} {ov : Value} {l : List Int} {st k : Int} {iv : Value} {I : List Int} {pc : Int} {i : LIns} {w : World}

set_option maxRecDepth 100000 in
theorem deed5 (F : Nat) (caps : Array Value) (hent : ∀ w, Sem.run Try.prog (callFunc F caps) w = .ok (.enter F caps) w) (hb : Box mb db bm bi i w) (cg : w.cell? ⟨bg, 0, none⟩ = some (.func (.func F) #[] caps)) (hng : bg ≠ mb) (hm : MS mb base ts ov l st k iv I pc w) (hg : givesB i.op = true) (hd0 : 0 ≤ i.dest) (hd1 : i.dest < 12)
    (hz1 : bm < base) (hz2 : bi < base) (hz3 : bg < base) (hgv : U64i (gvI i (ts.getD i.a.toNat 0) (ts.getD i.b.toNat 0) (I.headD 0)))
    (hc : ∀ w2, Below w.heap.size w w2 → Calls Try.prog F caps w2 fun e w' =>
      e = .returned (.int .u64 (gvI i (ts.getD i.a.toNat 0) (ts.getD i.b.toNat 0) (I.headD 0))) ∧ (∃ iv', MS mb base ts ov l st k iv' (if i.op = 3 then I.tail else I) pc w') ∧ Ran mb base w2 w') :
    Calls Try.prog 45 #[.pointer (some ⟨bg, 0, none⟩), .pointer (some ⟨bm, 0, none⟩), .pointer (some ⟨bi, 0, none⟩)] w fun e w' => e = .returned (.tuple #[]) ∧ Behind mb base i ts l st k I pc w w' := by
  have cm := hb.pm
  have c1 := hb.i1
  have q1 : bm ≠ mb := hb.n1
  have q2 : bi ≠ mb := hb.n2
  have HC : Hid _ := hc
  have h4 : ¬ i.op = 4 := by intro e; unfold givesB at hg; simp [e] at hg
  have h8 : ¬ i.op = 8 := by intro e; unfold givesB at hg; simp [e] at hg
  have h9 : ¬ i.op = 9 := by intro e; unfold givesB at hg; simp [e] at hg
  have h10 : ¬ i.op = 10 := by intro e; unfold givesB at hg; simp [e] at hg
  have HBE : Hid (∀ w', (∃ iv', MS mb base (ts.set i.dest.toNat (gvI i (ts.getD i.a.toNat 0) (ts.getD i.b.toNat 0) (I.headD 0))) ov l st k iv' (if i.op = 3 then I.tail else I) pc w') → Ran mb base w w' → Behind mb base i ts l st k I pc w w') := by
    intro w' hv hr
    obtain ⟨iv', hv⟩ := hv
    refine ⟨⟨ov, iv', ?_⟩, hr⟩
    rw [if_pos hg, if_neg h4, if_neg h10, if_neg (show ¬ (i.op = 8 ∨ i.op = 9 ∧ ¬ ts.getD i.a.toNat 0 = 0) from fun h => h.elim h8 (fun h => h9 h.1))]
    exact hv
  have hsz := hm.sz
  have hlt := hm.lt
  generalize gvI i (ts.getD i.a.toNat 0) (ts.getD i.b.toNat 0) (I.headD 0) = g at *
  clear hm hb hc h4 h8 h9 h10
  go_enter Try.func45, Try.ntmps45
  go_wp2
  go_region_held3 (fun w' => w'.cell? ⟨bm, 0, none⟩ = some (.pointer (some ⟨mb, 0, none⟩)) ∧ w'.cell? ⟨bi, 1, none⟩ = some (.int .i64 i.dest) ∧ w'.cell? ⟨bg, 0, none⟩ = some (.func (.func F) #[] caps))
    ((go_split_ands; refine ⟨?_, ?_, ?_⟩ <;> first | exact hr.cell (by assumption) (by assumption) (by assumption) | exact (hr.cell (by assumption) (by assumption) (by assumption)) | (rw [World.cell?_setCell_far _ _ _ _ (Ne.symm (by assumption))]; assumption) | go_keep))
    ((refine (HC.out _ ((Below.refl _ _).drew)).mono ?_; rintro e w1 ⟨rfl, ⟨iv', hms⟩, hr⟩; have HMS : Hid _ := hms; have fz := hms.fz (3 + i.dest.toNat); have cz := hms.ctemp i.dest.toNat (by omega); clear hms))
  go_wp2
  go_end0
  exact ⟨rfl, HBE.out _ ⟨_, HMS.out.setTemp _ (by omega) _ hgv⟩ (((Ran.of_below hsz ((Below.refl _ _).drew)).trans hr).set _ _)⟩
end
end Go.Proofs.Ythnhpjhjaamanaa.form
