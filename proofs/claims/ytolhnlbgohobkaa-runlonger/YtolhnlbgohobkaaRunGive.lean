/- What the closures give that the program's machine makes of an instruction that has a Dest, whatever its ends. -/
import Derived.Test.YtolhnlbgohobkaaRunEnds
namespace Go.Proofs.Ytolhnlbgohobkaa.form
open Go.RowKit Go.Proofs.Ytolhnlbgohobkaa.num
set_option linter.unusedVariables false
set_option maxRecDepth 100000
attribute [local go_sem ↓] Go.wp_at_zero Go.wp_at_succ

section
variable {K : StoK} {mb sb db base bm bi be : Nat} {s : K.S} {ov : Value} {l : List Int} {st k : Int} {iv : Value} {I : List Int} {pc : Int} {i : LIns} {x : EndF} {w : World}

theorem giv1 (hb : Box mb sb db bm bi be i x w) (hn0 : 0 ≤ i.n) (hn1 : i.n < 4294967296) :
    Calls Try.prog 109 #[.pointer (some ⟨bi, 0, none⟩)] w fun e w' => e = .returned (.int .u64 i.n) ∧ Below w.heap.size w w' := by
  have c5 := hb.i5
  have e5 := wrap64_of i.n hn0 (by omega)
  clear hb
  go_enter Try.func109, Try.ntmps109
  go_wp2
  go_ret
  exact ⟨rfl, Below.refl _ _⟩

theorem takeIn (hm : MS K mb sb base s ov l st k iv I pc w) :
    Calls Try.prog 111 #[.pointer (some ⟨mb, 0, none⟩)] w fun e w' => e = .returned (.int .u32 (I.headD 0)) ∧ (∃ iv', MS K mb sb base s ov l st k iv' I.tail pc w') ∧ Ran mb sb base w w' := by
  have HM : Hid (MS K mb sb base s ov l st k iv I pc w) := hm
  obtain ⟨ai, cap, rfl, hcap, h40, hbd, hc⟩ := hm.ins
  have ci := hm.civ
  have fz := hm.fz 3
  have hlt := hm.lt
  have hsz := hm.sz
  clear hm
  cases I with
  | nil =>
    clear hc hbd
    go_enter Try.func111, Try.ntmps111
    go_wp2
    go_ret
    exact ⟨rfl, ⟨_, HM.out⟩, Ran.refl _ _ _ _⟩
  | cons y R =>
    obtain ⟨b, o, rfl, hb1, hb2, hb3, hcell⟩ := hc (by simp)
    have c0 := hcell 0 (by simp)
    have HC : Hid _ := hcell
    have HBD : Hid _ := hbd
    simp at c0
    clear hc hcell hbd
    go_enter Try.func111, Try.ntmps111
    go_wp2
    all_goals
      go_ret
      refine ⟨rfl, ⟨_, HM.out.setIns ?_⟩, (Ran.refl _ _ _ _).set _ _⟩
    · refine ⟨_, 0, rfl, by simp at hcap; omega, by simp at h40; omega, fun j hj => by simp at hcap; omega, fun h0 => by simp at hcap; omega⟩
    · refine ⟨_, cap - 1, rfl, by simp at hcap; omega, by simp at h40; omega, fun j hj => ?_, fun h0 => ⟨b, o + 1, rfl, hb1, hb2, hb3, fun j hj => ?_⟩⟩
      · have := HBD.out (j + 1) (by simp; omega)
        simpa using this
      · have := HC.out (j + 1) (by simp; omega)
        rw [show o + 1 + j = o + (j + 1) by omega]
        simpa using this

theorem head_bd (hm : MS K mb sb base s ov l st k iv I pc w) : 0 ≤ I.headD 0 ∧ I.headD 0 < 4294967296 := by
  obtain ⟨ai, cap, -, -, -, hbd, -⟩ := hm.ins
  cases I with
  | nil => simp
  | cons y R => have := hbd 0 (by simp); simpa using this

theorem giv2 (hb : Box mb sb db bm bi be i x w) (hm : MS K mb sb base s ov l st k iv I pc w) :
    Calls Try.prog 110 #[.pointer (some ⟨bm, 0, none⟩)] w fun e w' => e = .returned (.int .u64 (I.headD 0)) ∧ (∃ iv', MS K mb sb base s ov l st k iv' I.tail pc w') ∧ Ran mb sb base w w' := by
  have cm := hb.pm
  have HM : Hid (MS K mb sb base s ov l st k iv I pc w) := hm
  obtain ⟨y, hy⟩ : ∃ y, y = I.headD 0 := ⟨_, rfl⟩
  have hy2 : 0 ≤ y ∧ y < 4294967296 := by rw [hy]; exact head_bd hm
  have e5 := wrap64_of y hy2.1 (by omega)
  have HX : Hid (y = I.headD 0) := hy
  rw [← hy]
  clear hm hb hy hy2
  go_enter Try.func110, Try.ntmps110
  go_wp2_with (go_at_call 111; refine (takeIn HM.out).mono ?_; rw [← HX.out]; rintro e w1 ⟨rfl, hr1, hr2⟩)
  go_ret
  exact ⟨rfl, hr1, hr2⟩
end
end Go.Proofs.Ytolhnlbgohobkaa.form
