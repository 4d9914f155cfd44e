/- What the closure does that the program's machine makes of an instruction that has a Dest, whatever its ends: it gives Dest what another closure gives. -/
import Derived.Test.YtolhnlbgohobkaaRunDeed1
namespace Go.Proofs.Ytolhnlbgohobkaa.form
open Go.RowKit Go.Proofs.Ytolhnlbgohobkaa.num
set_option linter.unusedVariables false
set_option maxRecDepth 100000
attribute [local go_sem ↓] Go.wp_at_zero Go.wp_at_succ

section
variable {K : StoK} {mb sb db base bm bi be bg : Nat} {s : K.S} {ov : Value} {l : List Int} {st k : Int} {iv : Value} {I : List Int} {pc : Int} {i : LIns} {x : EndF} {w : World} {rdA rdB : K.S → Int} {wr : K.S → Int → K.S}

theorem deed5 (F : Nat) (caps : Array Value) (hent : ∀ w, Sem.run Try.prog (callFunc F caps) w = .ok (.enter F caps) w) (hb : Box mb sb db bm bi be i x w) (cg : w.cell? ⟨bg, 0, none⟩ = some (.func (.func F) #[] caps)) (hng : bg ≠ mb) (hns : bg ≠ sb) (hm : MS K mb sb base s ov l st k iv I pc w) (hg : givesB i.op = true)
    (hz2 : be < base) (hz3 : bg < base)
    (hc : ∀ w2, Below w.heap.size w w2 → Calls Try.prog F caps w2 fun e w' =>
      e = .returned (.int .u64 (gvI i (rdA s) (rdB s) (I.headD 0))) ∧ (∃ iv', MS K mb sb base s ov l st k iv' (if i.op = 3 then I.tail else I) pc w') ∧ Ran mb sb base w2 w')
    (hdent : ∀ y w, Sem.run Try.prog (callFunc x.fd #[y, x.d1, x.d2]) w = .ok (.enter x.fd #[y, x.d1, x.d2]) w)
    (hd : ∀ w2 iv', Ran mb sb base w w2 → MS K mb sb base s ov l st k iv' (if i.op = 3 then I.tail else I) pc w2 → Calls Try.prog x.fd #[.int .u64 (gvI i (rdA s) (rdB s) (I.headD 0)), x.d1, x.d2] w2 fun e w' => e = .returned (.tuple #[]) ∧ MS K mb sb base (wr s (gvI i (rdA s) (rdB s) (I.headD 0))) ov l st k iv' (if i.op = 3 then I.tail else I) pc w' ∧ Ran mb sb base w2 w') :
    Calls Try.prog 84 #[.pointer (some ⟨be, 0, none⟩), .pointer (some ⟨bg, 0, none⟩)] w fun e w' => e = .returned (.tuple #[]) ∧ Behind K mb sb base i (plainE rdA rdB wr) s l st k I pc w w' := by
  have ce := hb.e2
  have q2 : be ≠ mb := hb.n3
  have q3 : be ≠ sb := hb.s3
  have HC : Hid _ := hc
  have HD : Hid _ := hd
  have h4 : ¬ i.op = 4 := by intro e; unfold givesB at hg; simp [e] at hg
  have h8 : ¬ i.op = 8 := by intro e; unfold givesB at hg; simp [e] at hg
  have h9 : ¬ i.op = 9 := by intro e; unfold givesB at hg; simp [e] at hg
  have h10 : ¬ i.op = 10 := by intro e; unfold givesB at hg; simp [e] at hg
  have HBE : Hid (∀ w' iv', MS K mb sb base (wr s (gvI i (rdA s) (rdB s) (I.headD 0))) ov l st k iv' (if i.op = 3 then I.tail else I) pc w' → Ran mb sb base w w' → Behind K mb sb base i (plainE rdA rdB wr) s l st k I pc w w') := by
    intro w' iv' hv hr
    refine ⟨⟨ov, iv', ?_⟩, hr⟩
    have e : (plainE rdA rdB wr).act i s (I.headD 0) = wr s (gvI i (rdA s) (rdB s) (I.headD 0)) := by
      show (if givesB i.op = true then _ else _) = _
      rw [if_pos hg]; rfl
    rw [e, if_neg h4, if_neg h10, if_neg (show ¬ (i.op = 8 ∨ i.op = 9 ∧ ¬ _ = (0 : Int)) from fun h => h.elim h8 (fun h => h9 h.1))]
    exact hv
  have hsz := hm.sz
  generalize gvI i (rdA s) (rdB s) (I.headD 0) = g at *
  clear hm hb hc h4 h8 h9 h10 hd
  go_enter Try.func84, Try.ntmps84
  go_wp2
  go_region_held3 (fun w' => Ran mb sb base w w' ∧ w'.cell? ⟨be, 2, none⟩ = some (.func (.func x.fd) #[] #[x.d1, x.d2]) ∧ w'.cell? ⟨bg, 0, none⟩ = some (.func (.func F) #[] caps))
    ((go_split_ands; refine ⟨?_, ?_, ?_⟩ <;> first | exact Ran.trans (by assumption) hr | exact hr.cell (by assumption) (by assumption) (by assumption) (by assumption) | exact Ran.of_below hsz ((Below.refl _ _).drew) | (go_keep; done) | assumption))
    (first
      | (have hgd := HMS; clear hgd; refine (HD.out _ _ ?_ HMS.out).mono ?_; (go_split_ands; assumption); rintro e w1 ⟨rfl, hms2, hr⟩; have HMZ : Hid _ := hms2; clear hms2)
      | (refine (HC.out _ ((Below.refl _ _).drew)).mono ?_; rintro e w1 ⟨rfl, ⟨iv', hms⟩, hr⟩; have HMS : Hid _ := hms; clear hms))
  go_wp2
  go_end0
  exact ⟨rfl, HBE.out _ _ HMZ.out (by (go_split_ands; assumption))⟩
end
end Go.Proofs.Ytolhnlbgohobkaa.form
