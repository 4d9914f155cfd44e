/- A line's answer, out of its first word and its numbers (pure); what drive.parse answers of each. -/
import Derived.Deep.DeepCutAuto
import Derived.Deep.RegionHeld3
import Derived.BigQuiet
import Derived.Test.YtikhedkhgpjaaacGreatDoorProg
import Derived.Shelf.Strings.OnBuilder
import Derived.KernelRfl
import Derived.Test.YtikhedkhgpjaaacGreatDoorW25
import Derived.Test.YtikhedkhgpjaaacGreatDoorW01
import Derived.Test.YtikhedkhgpjaaacGreatDoorW26

namespace Go.Proofs.YtikhedkhgpjaaacGreatDoor
set_option linter.unusedVariables false
namespace form
open Go.RowKit
def wordOf (s : List UInt8) : List UInt8 := (splitL 32 s).getD 0 []
theorem split_word (s : List UInt8) : splitL 32 s = wordOf s :: (splitL 32 s).tail := by
  have := splitL_pos 32 s
  unfold wordOf
  cases h : splitL 32 s with
  | nil => rw [h] at this; simp at this
  | cons x t => rfl
theorem word_lone {s : List UInt8} (h : (splitL 32 s).tail = []) : s = wordOf s := by
  have h1 := split_word s
  rw [h] at h1
  have h2 := splitL_cut 32 s
  cases hf : (cutL 32 s).2.2 with
  | true =>
    rw [hf, if_pos rfl] at h2
    rw [h1] at h2
    have h3 := congrArg List.length h2
    have := splitL_pos 32 (cutL 32 s).2.1
    simp at h3
    rw [h3] at this
    simp at this
  | false =>
    rw [hf, if_neg (by simp), (cutL_no 32 s hf).1] at h2
    unfold wordOf
    rw [h2]
    rfl
theorem lone_nums {s : List UInt8} {l : List Nat} (h : numsOf (splitL 32 s).tail = some l) (hl : l.length = 0) : s = wordOf s := by
  have := (numsOf_lt _ _ h).2
  exact word_lone (List.length_eq_zero_iff.1 (by omega))
theorem of_narrow {s : List UInt8} (h : s = sNarrow) : wordOf s = sNarrow ∧ (splitL 32 s).tail = [] := by subst h; exact ⟨by decide, by decide⟩
theorem of_wide {s : List UInt8} (h : s = sWide) : wordOf s = sWide ∧ (splitL 32 s).tail = [] := by subst h; exact ⟨by decide, by decide⟩
theorem of_near {s : List UInt8} (h : s = sNear) : wordOf s = sNear ∧ (splitL 32 s).tail = [] := by subst h; exact ⟨by decide, by decide⟩
section
variable {L : Lay} {g : PL} {s : List UInt8} {l : List Nat}
theorem line_some (h : numsOf (splitL 32 s).tail = some l) : lineL L g s = wordL L g s l := by unfold lineL; rw [h]
theorem line_none (h : numsOf (splitL 32 s).tail = none) : lineL L g s = (g, sNo) := by unfold lineL; rw [h]
theorem line_NW (h : numsOf (splitL 32 s).tail = some l) (hl : l.length = 0) (hw : wordOf s = sNarrow ∨ wordOf s = sWide) : lineL L g s = if 12 ≤ g.wide.length then (g, sNo) else (⟨g.wide ++ [decide (wordOf s = sWide)], g.code, g.ins⟩, saidL sOk [g.wide.length + 1]) := by
  rw [line_some h]
  have e := lone_nums h hl
  rw [← e] at hw ⊢
  unfold wordL
  rw [if_pos hw]
theorem line_near (h : numsOf (splitL 32 s).tail = some l) (hl : l.length = 0) (hw : wordOf s = sNear) : lineL L g s = (g, countL (L.near g.wide g.code)) := by
  rw [line_some h]
  have e := lone_nums h hl
  rw [← e] at hw
  unfold wordL
  rw [hw, if_neg (by decide), if_pos rfl]
theorem word_else (h1 : wordOf s ≠ sNarrow ∨ (splitL 32 s).tail ≠ []) (h2 : wordOf s ≠ sWide ∨ (splitL 32 s).tail ≠ []) (h3 : wordOf s ≠ sNear ∨ (splitL 32 s).tail ≠ []) : ¬ (s = sNarrow ∨ s = sWide) ∧ ¬ s = sNear := by
  refine ⟨fun h => ?_, fun h => ?_⟩
  · rcases h with h | h
    · rcases h1 with h1 | h1
      · exact h1 (of_narrow h).1
      · exact h1 (of_narrow h).2
    · rcases h2 with h2 | h2
      · exact h2 (of_wide h).1
      · exact h2 (of_wide h).2
  · rcases h3 with h3 | h3
    · exact h3 (of_near h).1
    · exact h3 (of_near h).2
theorem line_code (h : numsOf (splitL 32 s).tail = some l) (hl : l.length = 6) (hw : wordOf s = sCode) : lineL L g s = if g.code.length < 40 then (⟨g.wide, g.code ++ [⟨(l.getD 0 0 : Nat), (l.getD 1 0 : Nat), (l.getD 2 0 : Nat), (l.getD 3 0 : Nat), (l.getD 4 0 : Nat), (l.getD 5 0 : Nat)⟩], g.ins⟩, saidL sOk [g.code.length + 1]) else (g, sNo) := by
  have he := word_else (s := s) (Or.inl (by rw [hw]; decide)) (Or.inl (by rw [hw]; decide)) (Or.inl (by rw [hw]; decide))
  rw [line_some h]
  unfold wordL
  rw [if_neg he.1, if_neg he.2]
  show (if wordOf s = sCode then _ else _) = _
  rw [if_pos hw]
  by_cases h4 : g.code.length < 40
  · rw [if_pos ⟨hl, h4⟩, if_pos h4]
  · rw [if_neg (fun h => h4 h.2), if_neg h4]
theorem line_ins (h : numsOf (splitL 32 s).tail = some l) (hw : wordOf s = sIns) : lineL L g s = (⟨g.wide, g.code, l.map (fun x : Nat => (x : Int))⟩, saidL sOk [l.length]) := by
  have he := word_else (s := s) (Or.inl (by rw [hw]; decide)) (Or.inl (by rw [hw]; decide)) (Or.inl (by rw [hw]; decide))
  rw [line_some h]
  unfold wordL
  rw [if_neg he.1, if_neg he.2]
  show (if wordOf s = sCode then _ else if wordOf s = sIns then _ else _) = _
  rw [hw, if_neg (by decide), if_pos rfl]
theorem line_run (h : numsOf (splitL 32 s).tail = some l) (hl : l.length = 1) (hw : wordOf s = sRun) : lineL L g s = (g, shownL (L.run g.wide g.code g.ins (l.getD 0 0 : Nat))) := by
  have he := word_else (s := s) (Or.inl (by rw [hw]; decide)) (Or.inl (by rw [hw]; decide)) (Or.inl (by rw [hw]; decide))
  rw [line_some h]
  unfold wordL
  rw [if_neg he.1, if_neg he.2]
  show (if wordOf s = sCode then _ else if wordOf s = sIns then _ else if wordOf s = sRun then _ else _) = _
  rw [hw, if_neg (by decide), if_neg (by decide), if_pos rfl, if_pos hl]
theorem line_on (h : numsOf (splitL 32 s).tail = some l) (hl : l.length = 2) (hw : wordOf s = sOn) : lineL L g s = (g, shownL (L.on g.wide g.code (l.getD 0 0 : Nat) g.ins (l.getD 1 0 : Nat))) := by
  have he := word_else (s := s) (Or.inl (by rw [hw]; decide)) (Or.inl (by rw [hw]; decide)) (Or.inl (by rw [hw]; decide))
  rw [line_some h]
  unfold wordL
  rw [if_neg he.1, if_neg he.2]
  show (if wordOf s = sCode then _ else if wordOf s = sIns then _ else if wordOf s = sRun then _ else if wordOf s = sOn then _ else _) = _
  rw [hw, if_neg (by decide), if_neg (by decide), if_neg (by decide), if_pos rfl, if_pos hl]
theorem line_bytes (h : numsOf (splitL 32 s).tail = some l) (hl : l.length = 1) (hw : wordOf s = sBytes) : lineL L g s = (g, countL (L.bytes g.wide g.code (l.getD 0 0 : Nat))) := by
  have he := word_else (s := s) (Or.inl (by rw [hw]; decide)) (Or.inl (by rw [hw]; decide)) (Or.inl (by rw [hw]; decide))
  rw [line_some h]
  unfold wordL
  rw [if_neg he.1, if_neg he.2]
  show (if wordOf s = sCode then _ else if wordOf s = sIns then _ else if wordOf s = sRun then _ else if wordOf s = sOn then _ else if wordOf s = sBytes then _ else _) = _
  rw [hw, if_neg (by decide), if_neg (by decide), if_neg (by decide), if_neg (by decide), if_pos rfl, if_pos hl]
theorem line_mayno (h : numsOf (splitL 32 s).tail = some l) (hm : mayL (wordOf s) l.length = false) : lineL L g s = (g, sNo) := by
  have hlen := (numsOf_lt _ _ h).2
  have ht : l.length ≠ 0 → (splitL 32 s).tail ≠ [] := fun h0 e => by rw [e] at hlen; simp at hlen; exact h0 (by simp [hlen])
  unfold mayL at hm
  by_cases h1 : wordOf s = sNarrow ∨ wordOf s = sWide ∨ wordOf s = sNear
  · rw [if_pos h1] at hm
    have h0 := ht (of_decide_eq_false hm)
    have he := word_else (s := s) (Or.inr h0) (Or.inr h0) (Or.inr h0)
    rw [line_some h]
    unfold wordL
    rw [if_neg he.1, if_neg he.2]
    show (if wordOf s = sCode then _ else if wordOf s = sIns then _ else if wordOf s = sRun then _ else if wordOf s = sOn then _ else if wordOf s = sBytes then _ else _) = _
    rcases h1 with h1 | h1 | h1 <;> rw [h1, if_neg (by decide), if_neg (by decide), if_neg (by decide), if_neg (by decide), if_neg (by decide)]
  rw [if_neg h1] at hm
  have he := word_else (s := s) (Or.inl fun e => h1 (Or.inl e)) (Or.inl fun e => h1 (Or.inr (Or.inl e))) (Or.inl fun e => h1 (Or.inr (Or.inr e)))
  rw [line_some h]
  unfold wordL
  rw [if_neg he.1, if_neg he.2]
  show (if wordOf s = sCode then _ else if wordOf s = sIns then _ else if wordOf s = sRun then _ else if wordOf s = sOn then _ else if wordOf s = sBytes then _ else _) = _
  by_cases h2 : wordOf s = sRun ∨ wordOf s = sBytes
  · rw [if_pos h2] at hm
    have h0 := of_decide_eq_false hm
    rcases h2 with h2 | h2
    · rw [h2, if_neg (by decide), if_neg (by decide), if_pos rfl, if_neg h0]
    · rw [h2, if_neg (by decide), if_neg (by decide), if_neg (by decide), if_neg (by decide), if_pos rfl, if_neg h0]
  rw [if_neg h2] at hm
  by_cases h3 : wordOf s = sOn
  · rw [if_pos h3] at hm
    rw [h3, if_neg (by decide), if_neg (by decide), if_neg (by decide), if_pos rfl, if_neg (of_decide_eq_false hm)]
  rw [if_neg h3] at hm
  by_cases h4 : wordOf s = sCode
  · rw [if_pos h4] at hm
    rw [if_pos h4, if_neg (fun h => of_decide_eq_false hm h.1)]
  rw [if_neg h4] at hm
  rw [if_neg h4, if_neg (of_decide_eq_false hm), if_neg (fun e => h2 (Or.inl e)), if_neg h3, if_neg (fun e => h2 (Or.inr e))]
theorem may_cases (hm : mayL (wordOf s) l.length = true) : ((wordOf s = sNarrow ∨ wordOf s = sWide) ∧ l.length = 0) ∨ (wordOf s = sNear ∧ l.length = 0) ∨ (wordOf s = sRun ∧ l.length = 1) ∨ (wordOf s = sBytes ∧ l.length = 1) ∨ (wordOf s = sOn ∧ l.length = 2) ∨ (wordOf s = sCode ∧ l.length = 6) ∨ wordOf s = sIns := by
  unfold mayL at hm
  by_cases h1 : wordOf s = sNarrow ∨ wordOf s = sWide ∨ wordOf s = sNear
  · rw [if_pos h1] at hm
    have h0 := of_decide_eq_true hm
    rcases h1 with h1 | h1 | h1
    · exact Or.inl ⟨Or.inl h1, h0⟩
    · exact Or.inl ⟨Or.inr h1, h0⟩
    · exact Or.inr (Or.inl ⟨h1, h0⟩)
  rw [if_neg h1] at hm
  by_cases h2 : wordOf s = sRun ∨ wordOf s = sBytes
  · rw [if_pos h2] at hm
    have h0 := of_decide_eq_true hm
    rcases h2 with h2 | h2
    · exact Or.inr (Or.inr (Or.inl ⟨h2, h0⟩))
    · exact Or.inr (Or.inr (Or.inr (Or.inl ⟨h2, h0⟩)))
  rw [if_neg h2] at hm
  by_cases h3 : wordOf s = sOn
  · rw [if_pos h3] at hm
    exact Or.inr (Or.inr (Or.inr (Or.inr (Or.inl ⟨h3, of_decide_eq_true hm⟩))))
  rw [if_neg h3] at hm
  by_cases h4 : wordOf s = sCode
  · rw [if_pos h4] at hm
    exact Or.inr (Or.inr (Or.inr (Or.inr (Or.inr (Or.inl ⟨h4, of_decide_eq_true hm⟩)))))
  rw [if_neg h4] at hm
  exact Or.inr (Or.inr (Or.inr (Or.inr (Or.inr (Or.inr (of_decide_eq_true hm))))))
end
/-! drive.parse, of each kind of line. -/
section
variable {s : List UInt8} {l : List Nat} {w : World}
theorem parse_yes (hs : s.length ≤ 3000000) (hv : VarOk w) (h : numsOf (splitL 32 s).tail = some l) (hm : mayL (wordOf s) l.length = true) : Calls Tryz.prog 14 #[.string (str s)] w fun e w' => ∃ nv, e = .returned (.tuple #[.string (str (wordOf s)), nv, .bool true]) ∧ NumsRow w.heap.size l nv w' ∧ Below w.heap.size w w' := by
  refine Calls.mono (parseO s hs w hv) ?_
  rintro e w' ⟨⟨wd, nv, kn, rfl, h1, h2⟩, hb⟩
  cases kn with
  | true =>
    obtain ⟨l2, e1, e2, e3, e4⟩ := h1 rfl
    have e5 := Option.some.inj (h.symm.trans e1)
    subst e5
    rw [e2]
    exact ⟨nv, rfl, e4, hb⟩
  | false =>
    exfalso
    rcases h2 rfl with e1 | ⟨l2, e1, e2⟩
    · rw [h] at e1; cases e1
    · have e5 := Option.some.inj (h.symm.trans e1)
      subst e5
      have : mayL (wordOf s) l.length = false := e2
      rw [hm] at this
      cases this
theorem parse_no (hs : s.length ≤ 3000000) (hv : VarOk w) (h : numsOf (splitL 32 s).tail = none ∨ ∃ l, numsOf (splitL 32 s).tail = some l ∧ mayL (wordOf s) l.length = false) : Calls Tryz.prog 14 #[.string (str s)] w fun e w' => ∃ wd nv, e = .returned (.tuple #[.string (str wd), nv, .bool false]) ∧ Below w.heap.size w w' := by
  refine Calls.mono (parseO s hs w hv) ?_
  rintro e w' ⟨⟨wd, nv, kn, rfl, h1, h2⟩, hb⟩
  cases kn with
  | false => exact ⟨wd, nv, rfl, hb⟩
  | true =>
    exfalso
    obtain ⟨l2, e1, e2, e3, e4⟩ := h1 rfl
    rcases h with h | ⟨l3, h, h3⟩
    · rw [h] at e1; cases e1
    · have e5 := Option.some.inj (h.symm.trans e1)
      subst e5
      have : mayL (wordOf s) l3.length = true := by rw [e2] at e3; exact e3
      rw [h3] at this
      cases this
theorem NumsRow.form {base n : Nat} {v : Value} (h : NumsRow base l v w) (hn : l.length = n) (h0 : 0 < n) : ∃ b c, v = .slice (some ⟨b, 0, none⟩) n c ∧ base ≤ b ∧ b < w.heap.size ∧ ∀ k, k < n → w.cell? ⟨b, k, none⟩ = some (.int .u32 ((l.getD k 0 : Nat) : Int)) := by
  obtain ⟨ao, c, rfl, hc, hf⟩ := row_form h
  obtain ⟨b, rfl, h1, h2⟩ := hf (by omega)
  refine ⟨b, c, by rw [hn], h1, h2, fun k hk => ?_⟩
  rw [World.ownsRow.cellAt h k (by omega)]
  simp [List.getD, show k < l.length by omega]
theorem nums_small (h : numsOf (splitL 32 s).tail = some l) (k : Nat) : l.getD k 0 < 4294967296 := by
  by_cases hk : k < l.length
  · exact (numsOf_lt _ _ h).1 _ (by simp [List.getD, hk])
  · simp [List.getD, hk]
end
end form
/- A line's answer (drive: answer). -/
namespace form
open Go.RowKit
set_option maxRecDepth 100000
attribute [local go_sem ↓] Go.wp_at_zero Go.wp_at_succ
attribute [local go_sem] str_size str_list ByteArray.toList_mk
theorem DrvAns.ahead {base q : Nat} {wv cv : Value} {r : PL × List UInt8} {w w1 w' : World} {e : Ending} (hb : Below w.heap.size w w1) (h : DrvAns base q wv cv r w1 e w') : DrvAns base q wv cv r w e w' := by
  obtain ⟨v, xs, wv', cv', iv', h1, h2, h3, h4, h5, h6, h7, h8⟩ := h
  exact ⟨v, xs, wv', cv', iv', h1, h2.down hb.size, h3, h4, h5, h6, h7.ahead hb, h8⟩
theorem DrvAns.shw {base q : Nat} {g : PL} {wv cv iv : Value} {w w' : World} {t : List UInt8} {e : Ending} (hP : PlS base q g wv cv iv w) (hT : PlT q w) (h : ShwP t w e w') : DrvAns base q wv cv (g, t) w e w' := by
  obtain ⟨v, xs, rfl, h2, h3, h4, h5, h6⟩ := h
  exact DrvAns.same hP hT h2 h3 h4 h5 h6
set_option maxHeartbeats 1600000 in
theorem ansNo {base q : Nat} {g : PL} {wv cv iv : Value} {w : World} (L : Lay) (hP : PlS base q g wv cv iv w) (hT : PlT q w) (hv : VarAt base w) (s : List UInt8) (hs : s.length ≤ 3000000) (h : numsOf (splitL 32 s).tail = none ∨ ∃ l, numsOf (splitL 32 s).tail = some l ∧ mayL (wordOf s) l.length = false) :
    Calls Tryz.prog 8 #[.pointer (some ⟨q, 0, none⟩), .string (str s)] w fun e w' => DrvAns base q wv cv (lineL L g s) w e w' := by
  have HP : Hid (PlS base q g wv cv iv w) := hP
  have HT : Hid (PlT q w) := hT
  have hqr := hP.lt
  obtain ⟨r, hr⟩ : ∃ r, r = lineL L g s := ⟨_, rfl⟩
  rw [← hr]
  have HR : Hid (r = (g, sNo)) := (by
    rw [hr]
    rcases h with h | ⟨l, h1, h2⟩
    · exact line_none h
    · exact line_mayno h1 h2 : r = (g, sNo))
  have HPA := parse_no hs hv.here h
  clear h hr hP hT hv
  go_enter Tryz.func8, Tryz.ntmps8
  go_wp2_with (first
    | (go_at_call 14; refine HPA.mono ?_; rintro e w1 ⟨wd, nv, rfl, hb1⟩; have HB1 : Hid (Below w.heap.size w w1) := hb1; have HRF := refusalO w1; clear hb1)
    | (go_at_call 15; refine HRF.mono ?_; rintro e w2 ⟨v2, rfl, hw2, hb2⟩; have HW2 : Hid (WordsAt w1.heap.size [sNo] v2 w2) := hw2; have HB2 : Hid (Below w1.heap.size w1 w2) := hb2; clear hw2 hb2))
  go_ret
  rw [HR.out]
  exact DrvAns.same HP.out HT.out (HW2.out.down HB1.out.size) (by simp) (by simp) (joinW_one _) (step_below HB2.out HB1.out)
set_option maxHeartbeats 3200000 in
theorem ansNarrow {base q : Nat} {g : PL} {wv cv iv : Value} {w : World} (L : Lay) (hL : LayIs L) (hN : LayCap L) (hP : PlS base q g wv cv iv w) (hT : PlT q w) (hv : VarAt base w) (s : List UInt8) (hs : s.length ≤ 3000000) (l : List Nat) (hnum : numsOf (splitL 32 s).tail = some l) (hl : l.length = 0) (hw : wordOf s = sNarrow) :
    Calls Tryz.prog 8 #[.pointer (some ⟨q, 0, none⟩), .string (str s)] w fun e w' => DrvAns base q wv cv (lineL L g s) w e w' := by
  have HP : Hid (PlS base q g wv cv iv w) := hP
  have HT : Hid (PlT q w) := hT
  have HV : Hid (VarAt base w) := hv
  have HL : Hid (LayIs L) := hL
  have HN : Hid (LayCap L) := hN
  have hqr := hP.lt
  obtain ⟨r, hr⟩ : ∃ r, r = lineL L g s := ⟨_, rfl⟩
  rw [← hr]
  obtain ⟨wd, hwd0⟩ : ∃ z, z = wordOf s := ⟨_, rfl⟩
  have hwd : wd = sNarrow := hwd0.trans hw
  have HPA : Hid (Calls Tryz.prog 14 #[.string (str s)] w fun e w' => ∃ nv, e = .returned (.tuple #[.string (str wd), nv, .bool true]) ∧ NumsRow w.heap.size l nv w' ∧ Below w.heap.size w w') := (by rw [hwd0]; exact parse_yes hs hv.here hnum (by rw [hw]; rw [hl]; rfl) : Calls Tryz.prog 14 #[.string (str s)] w fun e w' => ∃ nv, e = .returned (.tuple #[.string (str wd), nv, .bool true]) ∧ NumsRow w.heap.size l nv w' ∧ Below w.heap.size w w')
  have enarrow : (wd == [110, 97, 114, 114, 111, 119]) = true := by rw [hwd]; rfl
  have ewide : (wd == [119, 105, 100, 101]) = false := by rw [hwd]; rfl
  have HR : Hid (r = if 12 ≤ g.wide.length then (g, sNo) else (⟨g.wide ++ [false], g.code, g.ins⟩, saidL sOk [g.wide.length + 1])) := (by
    rw [hr, line_NW hnum hl (Or.inl hw), hw]
    rfl : r = if 12 ≤ g.wide.length then (g, sNo) else (⟨g.wide ++ [false], g.code, g.ins⟩, saidL sOk [g.wide.length + 1]))
  clear hr hwd hwd0 hnum hw hl hP hT hv hL hN
  go_enter Tryz.func8, Tryz.ntmps8
  go_wp2_with (first
    | (go_at_call 14; refine HPA.out.mono ?_; rintro e w1 ⟨nv, rfl, hrow, hb1⟩; have HROW : Hid (NumsRow w.heap.size l nv w1) := hrow; have HB1 : Hid (Below w.heap.size w w1) := hb1; have HP1 : Hid (PlS base q g wv cv iv w1) := HP.out.below hb1; have HT1 : Hid (PlT q w1) := HT.out.of (hb1.block q hqr); have HV1 : Hid (VarAt base w1) := HV.out.on (hb1.mono HP.out.base_le); clear hrow hb1)
    | (go_at_call 16; refine (addTempO HP1.out HT1.out HV1.out false r HR.out).mono ?_; rintro e w2 hans; obtain ⟨v2, hv2⟩ : ∃ v, e = .returned v := ⟨hans.choose, hans.choose_spec.choose_spec.choose_spec.choose_spec.choose_spec.1⟩; subst hv2; have HANS : Hid (DrvAns base q wv cv r w1 (.returned v2) w2) := hans; clear hans))
  go_ret
  exact DrvAns.ahead HB1.out HANS.out
set_option maxHeartbeats 3200000 in
theorem ansWide {base q : Nat} {g : PL} {wv cv iv : Value} {w : World} (L : Lay) (hL : LayIs L) (hN : LayCap L) (hP : PlS base q g wv cv iv w) (hT : PlT q w) (hv : VarAt base w) (s : List UInt8) (hs : s.length ≤ 3000000) (l : List Nat) (hnum : numsOf (splitL 32 s).tail = some l) (hl : l.length = 0) (hw : wordOf s = sWide) :
    Calls Tryz.prog 8 #[.pointer (some ⟨q, 0, none⟩), .string (str s)] w fun e w' => DrvAns base q wv cv (lineL L g s) w e w' := by
  have HP : Hid (PlS base q g wv cv iv w) := hP
  have HT : Hid (PlT q w) := hT
  have HV : Hid (VarAt base w) := hv
  have HL : Hid (LayIs L) := hL
  have HN : Hid (LayCap L) := hN
  have hqr := hP.lt
  obtain ⟨r, hr⟩ : ∃ r, r = lineL L g s := ⟨_, rfl⟩
  rw [← hr]
  obtain ⟨wd, hwd0⟩ : ∃ z, z = wordOf s := ⟨_, rfl⟩
  have hwd : wd = sWide := hwd0.trans hw
  have HPA : Hid (Calls Tryz.prog 14 #[.string (str s)] w fun e w' => ∃ nv, e = .returned (.tuple #[.string (str wd), nv, .bool true]) ∧ NumsRow w.heap.size l nv w' ∧ Below w.heap.size w w') := (by rw [hwd0]; exact parse_yes hs hv.here hnum (by rw [hw]; rw [hl]; rfl) : Calls Tryz.prog 14 #[.string (str s)] w fun e w' => ∃ nv, e = .returned (.tuple #[.string (str wd), nv, .bool true]) ∧ NumsRow w.heap.size l nv w' ∧ Below w.heap.size w w')
  have enarrow : (wd == [110, 97, 114, 114, 111, 119]) = false := by rw [hwd]; rfl
  have ewide : (wd == [119, 105, 100, 101]) = true := by rw [hwd]; rfl
  have HR : Hid (r = if 12 ≤ g.wide.length then (g, sNo) else (⟨g.wide ++ [true], g.code, g.ins⟩, saidL sOk [g.wide.length + 1])) := (by
    rw [hr, line_NW hnum hl (Or.inr hw), hw]
    rfl : r = if 12 ≤ g.wide.length then (g, sNo) else (⟨g.wide ++ [true], g.code, g.ins⟩, saidL sOk [g.wide.length + 1]))
  clear hr hwd hwd0 hnum hw hl hP hT hv hL hN
  go_enter Tryz.func8, Tryz.ntmps8
  go_wp2_with (first
    | (go_at_call 14; refine HPA.out.mono ?_; rintro e w1 ⟨nv, rfl, hrow, hb1⟩; have HROW : Hid (NumsRow w.heap.size l nv w1) := hrow; have HB1 : Hid (Below w.heap.size w w1) := hb1; have HP1 : Hid (PlS base q g wv cv iv w1) := HP.out.below hb1; have HT1 : Hid (PlT q w1) := HT.out.of (hb1.block q hqr); have HV1 : Hid (VarAt base w1) := HV.out.on (hb1.mono HP.out.base_le); clear hrow hb1)
    | (go_at_call 16; refine (addTempO HP1.out HT1.out HV1.out true r HR.out).mono ?_; rintro e w2 hans; obtain ⟨v2, hv2⟩ : ∃ v, e = .returned v := ⟨hans.choose, hans.choose_spec.choose_spec.choose_spec.choose_spec.choose_spec.1⟩; subst hv2; have HANS : Hid (DrvAns base q wv cv r w1 (.returned v2) w2) := hans; clear hans))
  go_ret
  exact DrvAns.ahead HB1.out HANS.out
set_option maxHeartbeats 3200000 in
theorem ansCode {base q : Nat} {g : PL} {wv cv iv : Value} {w : World} (L : Lay) (hL : LayIs L) (hN : LayCap L) (hP : PlS base q g wv cv iv w) (hT : PlT q w) (hv : VarAt base w) (s : List UInt8) (hs : s.length ≤ 3000000) (l : List Nat) (hnum : numsOf (splitL 32 s).tail = some l) (hl : l.length = 6) (hw : wordOf s = sCode) :
    Calls Tryz.prog 8 #[.pointer (some ⟨q, 0, none⟩), .string (str s)] w fun e w' => DrvAns base q wv cv (lineL L g s) w e w' := by
  have HP : Hid (PlS base q g wv cv iv w) := hP
  have HT : Hid (PlT q w) := hT
  have HV : Hid (VarAt base w) := hv
  have HL : Hid (LayIs L) := hL
  have HN : Hid (LayCap L) := hN
  have hqr := hP.lt
  obtain ⟨r, hr⟩ : ∃ r, r = lineL L g s := ⟨_, rfl⟩
  rw [← hr]
  obtain ⟨wd, hwd0⟩ : ∃ z, z = wordOf s := ⟨_, rfl⟩
  have hwd : wd = sCode := hwd0.trans hw
  have HPA : Hid (Calls Tryz.prog 14 #[.string (str s)] w fun e w' => ∃ nv, e = .returned (.tuple #[.string (str wd), nv, .bool true]) ∧ NumsRow w.heap.size l nv w' ∧ Below w.heap.size w w') := (by rw [hwd0]; exact parse_yes hs hv.here hnum (by rw [hw]; rw [hl]; rfl) : Calls Tryz.prog 14 #[.string (str s)] w fun e w' => ∃ nv, e = .returned (.tuple #[.string (str wd), nv, .bool true]) ∧ NumsRow w.heap.size l nv w' ∧ Below w.heap.size w w')
  have enarrow : (wd == [110, 97, 114, 114, 111, 119]) = false := by rw [hwd]; rfl
  have ewide : (wd == [119, 105, 100, 101]) = false := by rw [hwd]; rfl
  have ecode : (wd == [99, 111, 100, 101]) = true := by rw [hwd]; rfl
  obtain ⟨y0, hy0⟩ : ∃ y, y = l.getD 0 0 := ⟨_, rfl⟩
  have hyl0 : y0 < 4294967296 := by rw [hy0]; exact nums_small hnum 0
  obtain ⟨y1, hy1⟩ : ∃ y, y = l.getD 1 0 := ⟨_, rfl⟩
  have hyl1 : y1 < 4294967296 := by rw [hy1]; exact nums_small hnum 1
  obtain ⟨y2, hy2⟩ : ∃ y, y = l.getD 2 0 := ⟨_, rfl⟩
  have hyl2 : y2 < 4294967296 := by rw [hy2]; exact nums_small hnum 2
  obtain ⟨y3, hy3⟩ : ∃ y, y = l.getD 3 0 := ⟨_, rfl⟩
  have hyl3 : y3 < 4294967296 := by rw [hy3]; exact nums_small hnum 3
  obtain ⟨y4, hy4⟩ : ∃ y, y = l.getD 4 0 := ⟨_, rfl⟩
  have hyl4 : y4 < 4294967296 := by rw [hy4]; exact nums_small hnum 4
  obtain ⟨y5, hy5⟩ : ∃ y, y = l.getD 5 0 := ⟨_, rfl⟩
  have hyl5 : y5 < 4294967296 := by rw [hy5]; exact nums_small hnum 5
  have HR : Hid (r = if g.code.length < 40 then (⟨g.wide, g.code ++ [⟨(y0 : Int), (y1 : Int), (y2 : Int), (y3 : Int), (y4 : Int), (y5 : Int)⟩], g.ins⟩, saidL sOk [g.code.length + 1]) else (g, sNo)) := (by
    rw [hr, line_code hnum hl hw, ← hy0, ← hy1, ← hy2, ← hy3, ← hy4, ← hy5] : r = if g.code.length < 40 then (⟨g.wide, g.code ++ [⟨(y0 : Int), (y1 : Int), (y2 : Int), (y3 : Int), (y4 : Int), (y5 : Int)⟩], g.ins⟩, saidL sOk [g.code.length + 1]) else (g, sNo))
  have HF : Hid (∀ nv w1, NumsRow w.heap.size l nv w1 → ∃ b c, nv = .slice (some ⟨b, 0, none⟩) 6 c ∧ w.heap.size ≤ b ∧ b < w1.heap.size ∧ w1.cell? ⟨b, 0, none⟩ = some (.int .u32 (y0 : Int)) ∧ w1.cell? ⟨b, 1, none⟩ = some (.int .u32 (y1 : Int)) ∧ w1.cell? ⟨b, 2, none⟩ = some (.int .u32 (y2 : Int)) ∧ w1.cell? ⟨b, 3, none⟩ = some (.int .u32 (y3 : Int)) ∧ w1.cell? ⟨b, 4, none⟩ = some (.int .u32 (y4 : Int)) ∧ w1.cell? ⟨b, 5, none⟩ = some (.int .u32 (y5 : Int))) := fun nv w1 h => by
    obtain ⟨b, c, e1, e2, e3, e4⟩ := h.form hl (by omega)
    exact ⟨b, c, e1, e2, e3, by rw [hy0]; exact e4 0 (by omega), by rw [hy1]; exact e4 1 (by omega), by rw [hy2]; exact e4 2 (by omega), by rw [hy3]; exact e4 3 (by omega), by rw [hy4]; exact e4 4 (by omega), by rw [hy5]; exact e4 5 (by omega)⟩
  have HCB : Hid (∀ b, cv.ownBlock = some b → b < w.heap.size) := fun b e => (World.ownsRow.lt hP.code b e).2
  clear hr hwd hwd0 hnum hw hl hP hT hv hL hN hy0 hy1 hy2 hy3 hy4 hy5
  go_enter Tryz.func8, Tryz.ntmps8
  go_upto_region 2 with (go_at_call 14; refine HPA.out.mono ?_; rintro e w1 ⟨nv, rfl, hrow, hb1⟩; have HROW : Hid (NumsRow w.heap.size l nv w1) := hrow; have HB1 : Hid (Below w.heap.size w w1) := hb1; have HP1 : Hid (PlS base q g wv cv iv w1) := HP.out.below hb1; have HT1 : Hid (PlT q w1) := HT.out.of (hb1.block q hqr); have HV1 : Hid (VarAt base w1) := HV.out.on (hb1.mono HP.out.base_le); clear hrow hb1)
  obtain ⟨b, c, rfl, hbb, hbl, x0, x1, x2, x3, x4, x5⟩ := HF.out nv w1 HROW.out
  have HADD := addCodeO HP1.out HT1.out HV1.out b c y0 y1 y2 y3 y4 y5 hyl0 hyl1 hyl2 hyl3 hyl4 hyl5 x0 x1 x2 x3 x4 x5 (fun e => by have := HCB.out b e; omega) (by omega) r HR.out
  clear x0 x1 x2 x3 x4 x5
  go_wp2_with (go_at_call 17; refine HADD.mono ?_; rintro e w2 hans; obtain ⟨v2, hv2⟩ : ∃ v, e = .returned v := ⟨hans.choose, hans.choose_spec.choose_spec.choose_spec.choose_spec.choose_spec.1⟩; subst hv2; have HANS : Hid (DrvAns base q wv cv r w1 (.returned v2) w2) := hans; clear hans)
  go_ret
  exact DrvAns.ahead HB1.out HANS.out
set_option maxHeartbeats 3200000 in
theorem ansIns {base q : Nat} {g : PL} {wv cv iv : Value} {w : World} (L : Lay) (hL : LayIs L) (hN : LayCap L) (hP : PlS base q g wv cv iv w) (hT : PlT q w) (hv : VarAt base w) (s : List UInt8) (hs : s.length ≤ 3000000) (l : List Nat) (hnum : numsOf (splitL 32 s).tail = some l) (hl0 : l.length ≤ 3000000) (hw : wordOf s = sIns) :
    Calls Tryz.prog 8 #[.pointer (some ⟨q, 0, none⟩), .string (str s)] w fun e w' => DrvAns base q wv cv (lineL L g s) w e w' := by
  have HP : Hid (PlS base q g wv cv iv w) := hP
  have HT : Hid (PlT q w) := hT
  have HV : Hid (VarAt base w) := hv
  have HL : Hid (LayIs L) := hL
  have HN : Hid (LayCap L) := hN
  have hqr := hP.lt
  obtain ⟨r, hr⟩ : ∃ r, r = lineL L g s := ⟨_, rfl⟩
  rw [← hr]
  obtain ⟨wd, hwd0⟩ : ∃ z, z = wordOf s := ⟨_, rfl⟩
  have hwd : wd = sIns := hwd0.trans hw
  have HPA : Hid (Calls Tryz.prog 14 #[.string (str s)] w fun e w' => ∃ nv, e = .returned (.tuple #[.string (str wd), nv, .bool true]) ∧ NumsRow w.heap.size l nv w' ∧ Below w.heap.size w w') := (by rw [hwd0]; exact parse_yes hs hv.here hnum (by rw [hw]; rfl) : Calls Tryz.prog 14 #[.string (str s)] w fun e w' => ∃ nv, e = .returned (.tuple #[.string (str wd), nv, .bool true]) ∧ NumsRow w.heap.size l nv w' ∧ Below w.heap.size w w')
  have enarrow : (wd == [110, 97, 114, 114, 111, 119]) = false := by rw [hwd]; rfl
  have ewide : (wd == [119, 105, 100, 101]) = false := by rw [hwd]; rfl
  have ecode : (wd == [99, 111, 100, 101]) = false := by rw [hwd]; rfl
  have eins : (wd == [105, 110, 115]) = true := by rw [hwd]; rfl
  have HR : Hid (r = (⟨g.wide, g.code, l.map (fun x : Nat => (x : Int))⟩, saidL sOk [l.length])) := hr.trans (line_ins hnum hw)
  have HLT : Hid (∀ x, x ∈ l → x < 4294967296) := (numsOf_lt _ _ hnum).1
  have HOB : Hid ((∀ b, wv.ownBlock = some b → b < w.heap.size) ∧ (∀ b, cv.ownBlock = some b → b < w.heap.size)) := ⟨fun b e => (World.ownsRow.lt hP.wide b e).2, fun b e => (World.ownsRow.lt hP.code b e).2⟩
  clear hr hwd hwd0 hnum hw hP hT hv hL hN
  go_enter Tryz.func8, Tryz.ntmps8
  go_upto_region 2 with (go_at_call 14; refine HPA.out.mono ?_; rintro e w1 ⟨nv, rfl, hrow, hb1⟩; have HROW : Hid (NumsRow w.heap.size l nv w1) := hrow; have HB1 : Hid (Below w.heap.size w w1) := hb1; have HP1 : Hid (PlS base q g wv cv iv w1) := HP.out.below hb1; have HT1 : Hid (PlT q w1) := HT.out.of (hb1.block q hqr); have HV1 : Hid (VarAt base w1) := HV.out.on (hb1.mono HP.out.base_le); clear hrow hb1)
  obtain ⟨al, cl, rfl, -, -⟩ := row_form HROW.out
  have q2 := HP1.out.c2
  have fz := HP1.out.f2
  have hq1 := HP1.out.lt
  have hset := HP1.out.setI (l := l.map (fun x : Nat => (x : Int))) (lo := w.heap.size) (lv := .slice al l.length cl) (by have h := HROW.out; unfold NumsRow at h; simpa [List.map_map, Function.comp_def] using h) HP.out.base_le hqr HOB.out.1 HOB.out.2 (by simp; omega) (fun x hx => by
    obtain ⟨y, hy, rfl⟩ := List.mem_map.1 hx
    have := HLT.out y hy
    omega)
  have HSET : Hid (PlS base q ⟨g.wide, g.code, l.map (fun x : Nat => (x : Int))⟩ wv cv (.slice al l.length cl) (w1.setCell ⟨q, 2, none⟩ (.slice al l.length cl))) := hset
  have HO9 : Hid (OffP q wv cv w1 (w1.setCell ⟨q, 2, none⟩ (.slice al l.length cl))) := ⟨rfl, rfl, rfl, by simp [World.setCell], fun k hk h1 h2 h3 => Below.heap_setCell _ _ _ _ h1⟩
  have HT9 : Hid (PlT q (w1.setCell ⟨q, 2, none⟩ (.slice al l.length cl))) := HT1.out.set 2 _
  clear hset
  go_upto_region 12 with fail
  obtain ⟨w10, hw10⟩ : ∃ x, x = w1.setCell ⟨q, 2, none⟩ (.slice al l.length cl) := ⟨_, rfl⟩
  rw [← hw10] at HSET HO9 HT9 ⊢
  have c10 := HSET.out.c2
  have hq10 := HSET.out.lt
  have HOK : Hid (Calls Tryz.prog 18 #[.int .i64 (l.length : Int)] w10 fun e w' => ∃ v', e = .returned v' ∧ WordsAt w10.heap.size [sOk, digitsL l.length] v' w' ∧ Below w10.heap.size w10 w') := okO l.length (by omega) w10 (HV1.out.on (HO9.out.below HP1.out)).here
  clear hw10 q2 fz
  go_wp2_with (go_at_call 18; refine HOK.out.mono ?_; rintro e w11 ⟨v11, rfl, hw11, hb11⟩; have HW11 : Hid (WordsAt w10.heap.size [sOk, digitsL l.length] v11 w11) := hw11; have HB11 : Hid (Below w10.heap.size w10 w11) := hb11; clear hw11 hb11)
  go_ret
  rw [HR.out]
  exact DrvAns.ahead HB1.out ⟨_, _, _, _, _, rfl, HW11.out.down HO9.out.size, by simp, by simp, words_ok _, HSET.out.below HB11.out, HO9.out.later HB11.out, HT9.out.of (HB11.out.block q hq10)⟩
set_option maxHeartbeats 3200000 in
theorem ansNear {base q : Nat} {g : PL} {wv cv iv : Value} {w : World} (L : Lay) (hL : LayIs L) (hN : LayCap L) (hP : PlS base q g wv cv iv w) (hT : PlT q w) (hv : VarAt base w) (s : List UInt8) (hs : s.length ≤ 3000000) (l : List Nat) (hnum : numsOf (splitL 32 s).tail = some l) (hl : l.length = 0) (hw : wordOf s = sNear) :
    Calls Tryz.prog 8 #[.pointer (some ⟨q, 0, none⟩), .string (str s)] w fun e w' => DrvAns base q wv cv (lineL L g s) w e w' := by
  have HP : Hid (PlS base q g wv cv iv w) := hP
  have HT : Hid (PlT q w) := hT
  have HV : Hid (VarAt base w) := hv
  have HL : Hid (LayIs L) := hL
  have HN : Hid (LayCap L) := hN
  have hqr := hP.lt
  obtain ⟨r, hr⟩ : ∃ r, r = lineL L g s := ⟨_, rfl⟩
  rw [← hr]
  obtain ⟨wd, hwd0⟩ : ∃ z, z = wordOf s := ⟨_, rfl⟩
  have hwd : wd = sNear := hwd0.trans hw
  have HPA : Hid (Calls Tryz.prog 14 #[.string (str s)] w fun e w' => ∃ nv, e = .returned (.tuple #[.string (str wd), nv, .bool true]) ∧ NumsRow w.heap.size l nv w' ∧ Below w.heap.size w w') := (by rw [hwd0]; exact parse_yes hs hv.here hnum (by rw [hw]; rw [hl]; rfl) : Calls Tryz.prog 14 #[.string (str s)] w fun e w' => ∃ nv, e = .returned (.tuple #[.string (str wd), nv, .bool true]) ∧ NumsRow w.heap.size l nv w' ∧ Below w.heap.size w w')
  have enarrow : (wd == [110, 97, 114, 114, 111, 119]) = false := by rw [hwd]; rfl
  have ewide : (wd == [119, 105, 100, 101]) = false := by rw [hwd]; rfl
  have ecode : (wd == [99, 111, 100, 101]) = false := by rw [hwd]; rfl
  have eins : (wd == [105, 110, 115]) = false := by rw [hwd]; rfl
  have erun : (wd == [114, 117, 110]) = false := by rw [hwd]; rfl
  have eon : (wd == [111, 110]) = false := by rw [hwd]; rfl
  have enear : (wd == [110, 101, 97, 114]) = true := by rw [hwd]; rfl
  obtain ⟨an, han⟩ : ∃ z, z = countL (L.near g.wide g.code) := ⟨_, rfl⟩
  have HR : Hid (r = (g, an)) := (by rw [hr, han]; exact line_near hnum hl hw : r = (g, an))
  have HC : Hid (∀ w1, PlS base q g wv cv iv w1 → VarOk w1 → Calls Tryz.prog 23 #[.pointer (some ⟨q, 0, none⟩)] w1 fun e w' => ShwP an w1 e w') := fun w1 h1 h2 => by rw [han]; exact nearO L hN h1 h2
  clear hr hwd hwd0 hnum hw hl hP hT hv hL hN han
  go_enter Tryz.func8, Tryz.ntmps8
  go_wp2_with (first
    | (go_at_call 14; refine HPA.out.mono ?_; rintro e w1 ⟨nv, rfl, hrow, hb1⟩; have HROW : Hid (NumsRow w.heap.size l nv w1) := hrow; have HB1 : Hid (Below w.heap.size w w1) := hb1; have HP1 : Hid (PlS base q g wv cv iv w1) := HP.out.below hb1; have HT1 : Hid (PlT q w1) := HT.out.of (hb1.block q hqr); have HV1 : Hid (VarAt base w1) := HV.out.on (hb1.mono HP.out.base_le); clear hrow hb1)
    | (go_at_call 23; refine (HC.out w1 HP1.out HV1.out.here).mono ?_; rintro e w2 hans; obtain ⟨v2, hv2⟩ : ∃ v, e = .returned v := ⟨hans.choose, hans.choose_spec.choose_spec.1⟩; subst hv2; have HANS : Hid (ShwP an w1 (.returned v2) w2) := hans; clear hans))
  go_ret
  rw [HR.out]
  exact DrvAns.ahead HB1.out (DrvAns.shw HP1.out HT1.out HANS.out)
set_option maxHeartbeats 3200000 in
theorem ansRun {base q : Nat} {g : PL} {wv cv iv : Value} {w : World} (L : Lay) (hL : LayIs L) (hN : LayCap L) (hP : PlS base q g wv cv iv w) (hT : PlT q w) (hv : VarAt base w) (s : List UInt8) (hs : s.length ≤ 3000000) (l : List Nat) (hnum : numsOf (splitL 32 s).tail = some l) (hl : l.length = 1) (hw : wordOf s = sRun) :
    Calls Tryz.prog 8 #[.pointer (some ⟨q, 0, none⟩), .string (str s)] w fun e w' => DrvAns base q wv cv (lineL L g s) w e w' := by
  have HP : Hid (PlS base q g wv cv iv w) := hP
  have HT : Hid (PlT q w) := hT
  have HV : Hid (VarAt base w) := hv
  have HL : Hid (LayIs L) := hL
  have HN : Hid (LayCap L) := hN
  have hqr := hP.lt
  obtain ⟨r, hr⟩ : ∃ r, r = lineL L g s := ⟨_, rfl⟩
  rw [← hr]
  obtain ⟨wd, hwd0⟩ : ∃ z, z = wordOf s := ⟨_, rfl⟩
  have hwd : wd = sRun := hwd0.trans hw
  have HPA : Hid (Calls Tryz.prog 14 #[.string (str s)] w fun e w' => ∃ nv, e = .returned (.tuple #[.string (str wd), nv, .bool true]) ∧ NumsRow w.heap.size l nv w' ∧ Below w.heap.size w w') := (by rw [hwd0]; exact parse_yes hs hv.here hnum (by rw [hw]; rw [hl]; rfl) : Calls Tryz.prog 14 #[.string (str s)] w fun e w' => ∃ nv, e = .returned (.tuple #[.string (str wd), nv, .bool true]) ∧ NumsRow w.heap.size l nv w' ∧ Below w.heap.size w w')
  have enarrow : (wd == [110, 97, 114, 114, 111, 119]) = false := by rw [hwd]; rfl
  have ewide : (wd == [119, 105, 100, 101]) = false := by rw [hwd]; rfl
  have ecode : (wd == [99, 111, 100, 101]) = false := by rw [hwd]; rfl
  have eins : (wd == [105, 110, 115]) = false := by rw [hwd]; rfl
  have erun : (wd == [114, 117, 110]) = true := by rw [hwd]; rfl
  obtain ⟨x, hx⟩ : ∃ x, x = l.getD 0 0 := ⟨_, rfl⟩
  have hxl : x < 4294967296 := by rw [hx]; exact nums_small hnum 0
  have hxz : (x : Int) < 4294967296 := by omega
  have hxw : IntKind.i64.wrap (x : Int) = (x : Int) := wrapD (by omega) (by omega)
  obtain ⟨rr, hrr⟩ : ∃ rr, rr = L.run g.wide g.code g.ins (x : Int) := ⟨_, rfl⟩
  have HRR : Hid (rr = L.run g.wide g.code g.ins (x : Int)) := hrr
  have HRO : Hid (RunOk rr) := (by rw [hrr]; exact hL.rok _ _ _ _ hP.oc hP.oi : RunOk rr)
  obtain ⟨an, han⟩ : ∃ z, z = shownL rr := ⟨_, rfl⟩
  have HAN : Hid (an = shownL rr) := han
  have HR : Hid (r = (g, an)) := (by rw [hr, han, hrr, hx]; exact line_run hnum hl hw : r = (g, an))
  have HF : Hid (∀ nv w1, NumsRow w.heap.size l nv w1 → ∃ b c, nv = .slice (some ⟨b, 0, none⟩) 1 c ∧ w.heap.size ≤ b ∧ b < w1.heap.size ∧ w1.cell? ⟨b, 0, none⟩ = some (.int .u32 (x : Int))) := fun nv w1 h => by
    obtain ⟨b, c, e1, e2, e3, e4⟩ := h.form hl (by omega)
    exact ⟨b, c, e1, e2, e3, by rw [hx]; exact e4 0 (by omega)⟩
  obtain ⟨aW, kW, hwv, -, -⟩ := row_form hP.wide
  obtain ⟨aC, kC, hcv, -, -⟩ := row_form hP.code
  obtain ⟨aI, kI, hiv, -, -⟩ := row_form hP.ins
  subst hwv hcv hiv
  clear hr hwd hwd0 hnum hw hl hP hT hv hL hN hx hrr han
  go_enter Tryz.func8, Tryz.ntmps8
  go_upto_region 2 with (go_at_call 14; refine HPA.out.mono ?_; rintro e w1 ⟨nv, rfl, hrow, hb1⟩; have HROW : Hid (NumsRow w.heap.size l nv w1) := hrow; have HB1 : Hid (Below w.heap.size w w1) := hb1; have HP1 : Hid (PlS base q g (.slice aW g.wide.length kW) (.slice aC g.code.length kC) (.slice aI g.ins.length kI) w1) := HP.out.below hb1; have HT1 : Hid (PlT q w1) := HT.out.of (hb1.block q hqr); have HV1 : Hid (VarAt base w1) := HV.out.on (hb1.mono HP.out.base_le); clear hrow hb1)
  obtain ⟨b, c, rfl, hbb, hbl, x0⟩ := HF.out nv w1 HROW.out
  have q0 := HP1.out.c0
  have q1 := HP1.out.c1
  have q2 := HP1.out.c2
  have hq1 := HP1.out.lt
  have HRC : Hid (∀ wx : World, Below w1.heap.size w1 wx → Calls Tryz.prog 20 #[.agg #[.slice aW g.wide.length kW, .slice aC g.code.length kC], .slice aI g.ins.length kI, .int .i64 (x : Int)] wx fun e w' => RunIs rr wx e w') := fun wx hb => by
    rw [HRR.out]
    exact HL.out.run _ _ g.wide g.code g.ins x wx (HP1.out.below hb).prog (HP1.out.below hb).inArg
  go_upto_region 14 with fail
  refine wp_region_held_drew (S := (fun w' => Below w1.heap.size w1 w')) (by rfl) ?_ (fun hHeld => ?_)
  · (exact (Below.refl _ _).drew)
  refine wpAnyH_take (i := 0) (v := ?_) rfl (by kernel_rfl) (by kernel_rfl) (by kernel_rfl) (fun _ _ _ h => h) (Or.inl ⟨by rfl, ?_⟩) (by assumption) ?_
  case refine_2 => (intro w hSw; (try dsimp only at hSw); go_simp; try with_reducible rfl)
  show wpAnyH _ _ _ _ _ _ _ (Act.put _ (some 44) _) _
  simp only [pz]
  refine wpAnyH_take (i := 1) (v := ?_) rfl (by kernel_rfl) (by kernel_rfl) (by kernel_rfl) (fun _ _ _ h => h) (Or.inl ⟨by rfl, ?_⟩) (by assumption) ?_
  case refine_2 => (intro w hSw; (try dsimp only at hSw); go_simp; try with_reducible rfl)
  show wpAnyH _ _ _ _ _ _ _ (Act.put _ (some 45) _) _
  simp only [pz]
  refine wpAnyH_take (i := 2) (v := ?_) rfl (by kernel_rfl) (by kernel_rfl) (by kernel_rfl) (fun _ _ _ h => h) (Or.inl ⟨by rfl, ?_⟩) (by assumption) ?_
  case refine_2 => (intro w hSw; (try dsimp only at hSw); go_simp; try with_reducible rfl)
  show wpAnyH _ _ _ _ _ _ _ (Act.put _ (some 46) _) _
  simp only [pz]
  refine wpAnyH_take (i := 3) (v := ?_) rfl (by kernel_rfl) (by kernel_rfl) (by kernel_rfl) (fun _ _ _ h => h) (Or.inl ⟨by rfl, ?_⟩) (by assumption) ?_
  case refine_2 => (intro w5 hSw; (try dsimp only at hSw); have sq0 := step_cell hSw q0; have sq1 := step_cell hSw q1; go_simp; try with_reducible rfl)
  show wpAnyH _ _ _ _ _ _ _ (Act.put _ (some 47) _) _
  simp only [pz]
  refine wpAnyH_take (i := 4) (v := ?_) rfl (by kernel_rfl) (by kernel_rfl) (by kernel_rfl) (fun _ _ _ h => h) (Or.inl ⟨by rfl, ?_⟩) (by assumption) ?_
  case refine_2 => (intro w hSw; (try dsimp only at hSw); go_simp; try with_reducible rfl)
  show wpAnyH _ _ _ _ _ _ _ (Act.put _ (some 48) _) _
  simp only [pz]
  refine wpAnyH_take (i := 5) (v := ?_) rfl (by kernel_rfl) (by kernel_rfl) (by kernel_rfl) (fun _ _ _ h => h) (Or.inl ⟨by rfl, ?_⟩) (by assumption) ?_
  case refine_2 => (intro w hSw; (try dsimp only at hSw); go_simp; try with_reducible rfl)
  show wpAnyH _ _ _ _ _ _ _ (Act.put _ (some 49) _) _
  simp only [pz]
  refine wpAnyH_take (i := 6) (v := ?_) rfl (by kernel_rfl) (by kernel_rfl) (by kernel_rfl) (fun _ _ _ h => h) (Or.inl ⟨by rfl, ?_⟩) (by assumption) ?_
  case refine_2 => (intro w hSw; (try dsimp only at hSw); go_simp; try with_reducible rfl)
  show wpAnyH _ _ _ _ _ _ _ (Act.put _ (some 50) _) _
  simp only [pz]
  refine wpAnyH_take (i := 7) (v := ?_) rfl (by kernel_rfl) (by kernel_rfl) (by kernel_rfl) (fun _ _ _ h => h) (Or.inl ⟨by rfl, ?_⟩) (by assumption) ?_
  case refine_2 => (intro w5 hSw; (try dsimp only at hSw); have sq2 := step_cell hSw q2; go_simp; try with_reducible rfl)
  show wpAnyH _ _ _ _ _ _ _ (Act.put _ (some 51) _) _
  simp only [pz]
  refine wpAnyH_take (i := 8) (v := ?_) rfl (by kernel_rfl) (by kernel_rfl) (by kernel_rfl) (fun _ _ _ h => h) (Or.inl ⟨by rfl, ?_⟩) (by assumption) ?_
  case refine_2 => (intro w hSw; (try dsimp only at hSw); go_simp; try with_reducible rfl)
  show wpAnyH _ _ _ _ _ _ _ (Act.put _ (some 52) _) _
  simp only [pz]
  refine wpAnyH_take (i := 9) (v := ?_) rfl (by kernel_rfl) (by kernel_rfl) (by kernel_rfl) (fun _ _ _ h => h) (Or.inl ⟨by rfl, ?_⟩) (by assumption) ?_
  case refine_2 => (intro w hSw; (try dsimp only at hSw); go_simp; try with_reducible rfl)
  show wpAnyH _ _ _ _ _ _ _ (Act.put _ (some 53) _) _
  simp only [pz]
  refine wpAnyH_take (i := 10) (v := ?_) rfl (by kernel_rfl) (by kernel_rfl) (by kernel_rfl) (fun _ _ _ h => h) (Or.inl ⟨by rfl, ?_⟩) (by assumption) ?_
  case refine_2 => (intro w5 hSw; (try dsimp only at hSw); have sx0 := step_cell hSw x0; go_simp; try with_reducible rfl)
  show wpAnyH _ _ _ _ _ _ _ (Act.put _ (some 54) _) _
  simp only [pz]
  refine wpAnyH_take (i := 11) (v := ?_) rfl (by kernel_rfl) (by kernel_rfl) (by kernel_rfl) (fun _ _ _ h => h) (Or.inl ⟨by rfl, ?_⟩) (by assumption) ?_
  case refine_2 => (intro w hSw; (try dsimp only at hSw); go_simp; try with_reducible rfl)
  show wpAnyH _ _ _ _ _ _ _ (Act.put _ (some 55) _) _
  simp only [pz]
  have h8 := hHeld
  refine wpAnyH_ready (rs := [12]) (by kernel_rfl) (by simp) ?_
  refine (AllReadyH.cons rfl (fun K hK => ?_) AllReadyH.nil)
  go_simp
  go_at_call 20
  refine (HRC.out _ h8).mono ?_
  rintro e w5 ⟨⟨sv, rfl, hsv⟩, hb5⟩
  go_wp2_with fail
  refine hK.out _ _ ?_ (fun hHeld => ?_)
  · (exact step_below hb5 h8)
  clear hK K
  try simp only [pz]
  refine wpAnyH_take (i := 13) (v := ?_) rfl (by kernel_rfl) (by kernel_rfl) (by kernel_rfl) (fun _ _ _ h => h) (Or.inl ⟨by rfl, ?_⟩) (by assumption) ?_
  case refine_2 => (intro w hSw; (try dsimp only at hSw); go_simp; try with_reducible rfl)
  show wpAnyH _ _ _ _ _ _ _ (Act.put _ (some 57) _) _
  simp only [pz]
  refine wpAnyH_take (i := 14) (v := ?_) rfl (by kernel_rfl) (by kernel_rfl) (by kernel_rfl) (fun _ _ _ h => h) (Or.inl ⟨by rfl, ?_⟩) (by assumption) ?_
  case refine_2 => (intro w hSw; (try dsimp only at hSw); go_simp; try with_reducible rfl)
  show wpAnyH _ _ _ _ _ _ _ (Act.put _ (some 58) _) _
  simp only [pz]
  have h9 := hHeld
  have HB15 : Hid (Below w1.heap.size w1 w5) := h9
  have cs := shownO rr HRO.out sv w5 hsv ((HV1.out.on (h9.mono HP1.out.base_le)).here)
  rw [← HAN.out] at cs
  refine wpAnyH_ready (rs := [15]) (by kernel_rfl) (by simp) ?_
  refine (AllReadyH.cons rfl (fun K hK => ?_) AllReadyH.nil)
  go_simp
  go_at_call 19
  refine cs.mono ?_
  rintro e w6 ⟨v6, xs6, rfl, hw6, hx6, hl6, hj6, hb6⟩
  have HW6 : Hid (WordsAt w5.heap.size xs6 v6 w6) := hw6
  have HB6 : Hid (Below w.heap.size w w6) := step_below (step_below hb6 h9) HB1.out
  go_wp2_with fail
  refine hK.out _ _ ?_ (fun hHeld => ?_)
  · (exact step_below hb6 h9)
  clear hK K
  try simp only [pz]
  refine wpAnyH_ready (rs := [16]) (by kernel_rfl) (by simp) ?_
  refine (AllReadyH.cons rfl (fun K hK => ?_) AllReadyH.nil)
  go_simp
  refine hK.out _ _ ?_ (fun hHeld => ?_)
  · (exact step_below hb6 h9)
  clear hK K
  try simp only [pz]
  refine wpAnyH_done (by kernel_rfl) ?_ _
  clear hHeld
  go_wp2
  go_ret
  rw [HR.out]
  exact DrvAns.ahead HB1.out (DrvAns.same HP1.out HT1.out (HW6.out.down HB15.out.size) hx6 hl6 hj6 (step_below hb6 HB15.out))
set_option maxHeartbeats 3200000 in
theorem ansBytes {base q : Nat} {g : PL} {wv cv iv : Value} {w : World} (L : Lay) (hL : LayIs L) (hN : LayCap L) (hP : PlS base q g wv cv iv w) (hT : PlT q w) (hv : VarAt base w) (s : List UInt8) (hs : s.length ≤ 3000000) (l : List Nat) (hnum : numsOf (splitL 32 s).tail = some l) (hl : l.length = 1) (hw : wordOf s = sBytes) :
    Calls Tryz.prog 8 #[.pointer (some ⟨q, 0, none⟩), .string (str s)] w fun e w' => DrvAns base q wv cv (lineL L g s) w e w' := by
  have HP : Hid (PlS base q g wv cv iv w) := hP
  have HT : Hid (PlT q w) := hT
  have HV : Hid (VarAt base w) := hv
  have HL : Hid (LayIs L) := hL
  have HN : Hid (LayCap L) := hN
  have hqr := hP.lt
  obtain ⟨r, hr⟩ : ∃ r, r = lineL L g s := ⟨_, rfl⟩
  rw [← hr]
  obtain ⟨wd, hwd0⟩ : ∃ z, z = wordOf s := ⟨_, rfl⟩
  have hwd : wd = sBytes := hwd0.trans hw
  have HPA : Hid (Calls Tryz.prog 14 #[.string (str s)] w fun e w' => ∃ nv, e = .returned (.tuple #[.string (str wd), nv, .bool true]) ∧ NumsRow w.heap.size l nv w' ∧ Below w.heap.size w w') := (by rw [hwd0]; exact parse_yes hs hv.here hnum (by rw [hw]; rw [hl]; rfl) : Calls Tryz.prog 14 #[.string (str s)] w fun e w' => ∃ nv, e = .returned (.tuple #[.string (str wd), nv, .bool true]) ∧ NumsRow w.heap.size l nv w' ∧ Below w.heap.size w w')
  have enarrow : (wd == [110, 97, 114, 114, 111, 119]) = false := by rw [hwd]; rfl
  have ewide : (wd == [119, 105, 100, 101]) = false := by rw [hwd]; rfl
  have ecode : (wd == [99, 111, 100, 101]) = false := by rw [hwd]; rfl
  have eins : (wd == [105, 110, 115]) = false := by rw [hwd]; rfl
  have erun : (wd == [114, 117, 110]) = false := by rw [hwd]; rfl
  have eon : (wd == [111, 110]) = false := by rw [hwd]; rfl
  have enear : (wd == [110, 101, 97, 114]) = false := by rw [hwd]; rfl
  have ebytes : (wd == [98, 121, 116, 101, 115]) = true := by rw [hwd]; rfl
  obtain ⟨x, hx⟩ : ∃ x, x = l.getD 0 0 := ⟨_, rfl⟩
  have hxl : x < 4294967296 := by rw [hx]; exact nums_small hnum 0
  have hxz : (x : Int) < 4294967296 := by omega
  have hxw : IntKind.i64.wrap (x : Int) = (x : Int) := wrapD (by omega) (by omega)
  obtain ⟨an, han⟩ : ∃ z, z = countL (L.bytes g.wide g.code x) := ⟨_, rfl⟩
  have HR : Hid (r = (g, an)) := (by rw [hr, han, hx]; exact line_bytes hnum hl hw : r = (g, an))
  have HF : Hid (∀ nv w1, NumsRow w.heap.size l nv w1 → ∃ b c, nv = .slice (some ⟨b, 0, none⟩) 1 c ∧ w.heap.size ≤ b ∧ b < w1.heap.size ∧ w1.cell? ⟨b, 0, none⟩ = some (.int .u32 (x : Int))) := fun nv w1 h => by
    obtain ⟨b, c, e1, e2, e3, e4⟩ := h.form hl (by omega)
    exact ⟨b, c, e1, e2, e3, by rw [hx]; exact e4 0 (by omega)⟩
  have HC : Hid (∀ w1, PlS base q g wv cv iv w1 → VarOk w1 → Calls Tryz.prog 24 #[.pointer (some ⟨q, 0, none⟩), .agg #[.int .i64 (x : Int)]] w1 fun e w' => ShwP an w1 e w') := fun w1 h1 h2 => by rw [han]; exact bytesO L hL h1 h2 x
  clear hr hwd hwd0 hnum hw hl hP hT hv hL hN hx han
  go_enter Tryz.func8, Tryz.ntmps8
  go_upto_region 2 with (go_at_call 14; refine HPA.out.mono ?_; rintro e w1 ⟨nv, rfl, hrow, hb1⟩; have HROW : Hid (NumsRow w.heap.size l nv w1) := hrow; have HB1 : Hid (Below w.heap.size w w1) := hb1; have HP1 : Hid (PlS base q g wv cv iv w1) := HP.out.below hb1; have HT1 : Hid (PlT q w1) := HT.out.of (hb1.block q hqr); have HV1 : Hid (VarAt base w1) := HV.out.on (hb1.mono HP.out.base_le); clear hrow hb1)
  obtain ⟨b, c, rfl, hbb, hbl, x0⟩ := HF.out nv w1 HROW.out
  go_wp2_with (first
    | (go_at_call 22; refine (targetO x hxl _).mono ?_; rintro e w2 ⟨rfl, hb2⟩; have HB2 : Hid (Below w1.heap.size w1 w2) := hb2; clear hb2)
    | (go_at_call 24; refine (HC.out w2 (HP1.out.below HB2.out) (HV1.out.on (HB2.out.mono HP1.out.base_le)).here).mono ?_; rintro e w3 hans; obtain ⟨v2, hv2⟩ : ∃ v, e = .returned v := ⟨hans.choose, hans.choose_spec.choose_spec.1⟩; subst hv2; have HANS : Hid (ShwP an w2 (.returned v2) w3) := hans; clear hans))
  go_ret
  rw [HR.out]
  exact DrvAns.ahead HB1.out (DrvAns.ahead HB2.out (DrvAns.shw (HP1.out.below HB2.out) (HT1.out.of (HB2.out.block q HP1.out.lt)) HANS.out))
end form
/- A line's answer, whatever the line (drive: answer). -/
namespace form
open Go.RowKit
set_option maxRecDepth 100000
attribute [local go_sem ↓] Go.wp_at_zero Go.wp_at_succ
attribute [local go_sem] str_size str_list ByteArray.toList_mk
set_option maxHeartbeats 3200000 in
theorem ansOn {base q : Nat} {g : PL} {wv cv iv : Value} {w : World} (L : Lay) (hL : LayIs L) (hN : LayCap L) (hP : PlS base q g wv cv iv w) (hT : PlT q w) (hv : VarAt base w) (s : List UInt8) (hs : s.length ≤ 3000000) (l : List Nat) (hnum : numsOf (splitL 32 s).tail = some l) (hl : l.length = 2) (hw : wordOf s = sOn) :
    Calls Tryz.prog 8 #[.pointer (some ⟨q, 0, none⟩), .string (str s)] w fun e w' => DrvAns base q wv cv (lineL L g s) w e w' := by
  have HP : Hid (PlS base q g wv cv iv w) := hP
  have HT : Hid (PlT q w) := hT
  have HV : Hid (VarAt base w) := hv
  have HL : Hid (LayIs L) := hL
  have HN : Hid (LayCap L) := hN
  have hqr := hP.lt
  obtain ⟨r, hr⟩ : ∃ r, r = lineL L g s := ⟨_, rfl⟩
  rw [← hr]
  obtain ⟨wd, hwd0⟩ : ∃ z, z = wordOf s := ⟨_, rfl⟩
  have hwd : wd = sOn := hwd0.trans hw
  have HPA : Hid (Calls Tryz.prog 14 #[.string (str s)] w fun e w' => ∃ nv, e = .returned (.tuple #[.string (str wd), nv, .bool true]) ∧ NumsRow w.heap.size l nv w' ∧ Below w.heap.size w w') := (by rw [hwd0]; exact parse_yes hs hv.here hnum (by rw [hw]; rw [hl]; rfl) : Calls Tryz.prog 14 #[.string (str s)] w fun e w' => ∃ nv, e = .returned (.tuple #[.string (str wd), nv, .bool true]) ∧ NumsRow w.heap.size l nv w' ∧ Below w.heap.size w w')
  have enarrow : (wd == [110, 97, 114, 114, 111, 119]) = false := by rw [hwd]; rfl
  have ewide : (wd == [119, 105, 100, 101]) = false := by rw [hwd]; rfl
  have ecode : (wd == [99, 111, 100, 101]) = false := by rw [hwd]; rfl
  have eins : (wd == [105, 110, 115]) = false := by rw [hwd]; rfl
  have erun : (wd == [114, 117, 110]) = false := by rw [hwd]; rfl
  have eon : (wd == [111, 110]) = true := by rw [hwd]; rfl
  obtain ⟨x, hx⟩ : ∃ x, x = l.getD 0 0 := ⟨_, rfl⟩
  have hxl : x < 4294967296 := by rw [hx]; exact nums_small hnum 0
  have hxz : (x : Int) < 4294967296 := by omega
  have hxw : IntKind.i64.wrap (x : Int) = (x : Int) := wrapD (by omega) (by omega)
  obtain ⟨y, hy⟩ : ∃ y, y = l.getD 1 0 := ⟨_, rfl⟩
  have hyl : y < 4294967296 := by rw [hy]; exact nums_small hnum 1
  have hyz : (y : Int) < 4294967296 := by omega
  have hyw : IntKind.i64.wrap (y : Int) = (y : Int) := wrapD (by omega) (by omega)
  obtain ⟨an, han⟩ : ∃ z, z = shownL (L.on g.wide g.code x g.ins y) := ⟨_, rfl⟩
  have HR : Hid (r = (g, an)) := (by rw [hr, han, hx, hy]; exact line_on hnum hl hw : r = (g, an))
  have HF : Hid (∀ nv w1, NumsRow w.heap.size l nv w1 → ∃ b c, nv = .slice (some ⟨b, 0, none⟩) 2 c ∧ w.heap.size ≤ b ∧ b < w1.heap.size ∧ w1.cell? ⟨b, 0, none⟩ = some (.int .u32 (x : Int)) ∧ w1.cell? ⟨b, 1, none⟩ = some (.int .u32 (y : Int))) := fun nv w1 h => by
    obtain ⟨b, c, e1, e2, e3, e4⟩ := h.form hl (by omega)
    exact ⟨b, c, e1, e2, e3, by rw [hx]; exact e4 0 (by omega), by rw [hy]; exact e4 1 (by omega)⟩
  have HC : Hid (∀ w1, PlS base q g wv cv iv w1 → VarOk w1 → Calls Tryz.prog 21 #[.pointer (some ⟨q, 0, none⟩), .agg #[.int .i64 (x : Int)], .int .i64 (y : Int)] w1 fun e w' => ShwP an w1 e w') := fun w1 h1 h2 => by rw [han]; exact onO L hL h1 h2 x y
  clear hr hwd hwd0 hnum hw hl hP hT hv hL hN hx hy han
  go_enter Tryz.func8, Tryz.ntmps8
  go_upto_region 2 with (go_at_call 14; refine HPA.out.mono ?_; rintro e w1 ⟨nv, rfl, hrow, hb1⟩; have HROW : Hid (NumsRow w.heap.size l nv w1) := hrow; have HB1 : Hid (Below w.heap.size w w1) := hb1; have HP1 : Hid (PlS base q g wv cv iv w1) := HP.out.below hb1; have HT1 : Hid (PlT q w1) := HT.out.of (hb1.block q hqr); have HV1 : Hid (VarAt base w1) := HV.out.on (hb1.mono HP.out.base_le); clear hrow hb1)
  obtain ⟨b, c, rfl, hbb, hbl, x0, x1⟩ := HF.out nv w1 HROW.out
  go_upto_region 16 with fail
  refine wp_region_held_drew (S := (fun w' => Below w1.heap.size w1 w')) (by rfl) ?_ (fun hHeld => ?_)
  · (exact (Below.refl _ _).drew)
  refine wpAnyH_take (i := 0) (v := ?_) rfl (by kernel_rfl) (by kernel_rfl) (by kernel_rfl) (fun _ _ _ h => h) (Or.inl ⟨by rfl, ?_⟩) (by assumption) ?_
  case refine_2 => (intro w hSw; (try dsimp only at hSw); go_simp; try with_reducible rfl)
  show wpAnyH _ _ _ _ _ _ _ (Act.put _ (some 62) _) _
  simp only [pz]
  refine wpAnyH_take (i := 1) (v := ?_) rfl (by kernel_rfl) (by kernel_rfl) (by kernel_rfl) (fun _ _ _ h => h) (Or.inl ⟨by rfl, ?_⟩) (by assumption) ?_
  case refine_2 => (intro w hSw; (try dsimp only at hSw); go_simp; try with_reducible rfl)
  show wpAnyH _ _ _ _ _ _ _ (Act.put _ (some 63) _) _
  simp only [pz]
  refine wpAnyH_take (i := 2) (v := ?_) rfl (by kernel_rfl) (by kernel_rfl) (by kernel_rfl) (fun _ _ _ h => h) (Or.inl ⟨by rfl, ?_⟩) (by assumption) ?_
  case refine_2 => (intro w hSw; (try dsimp only at hSw); go_simp; try with_reducible rfl)
  show wpAnyH _ _ _ _ _ _ _ (Act.put _ (some 64) _) _
  simp only [pz]
  refine wpAnyH_take (i := 3) (v := ?_) rfl (by kernel_rfl) (by kernel_rfl) (by kernel_rfl) (fun _ _ _ h => h) (Or.inl ⟨by rfl, ?_⟩) (by assumption) ?_
  case refine_2 => (intro w5 hSw; (try dsimp only at hSw); have sx0 := step_cell hSw x0; go_simp; try with_reducible rfl)
  show wpAnyH _ _ _ _ _ _ _ (Act.put _ (some 65) _) _
  simp only [pz]
  refine wpAnyH_take (i := 5) (v := ?_) rfl (by kernel_rfl) (by kernel_rfl) (by kernel_rfl) (fun _ _ _ h => h) (Or.inl ⟨by rfl, ?_⟩) (by assumption) ?_
  case refine_2 => (intro w hSw; (try dsimp only at hSw); go_simp; try with_reducible rfl)
  show wpAnyH _ _ _ _ _ _ _ (Act.put _ (some 67) _) _
  simp only [pz]
  refine wpAnyH_take (i := 6) (v := ?_) rfl (by kernel_rfl) (by kernel_rfl) (by kernel_rfl) (fun _ _ _ h => h) (Or.inl ⟨by rfl, ?_⟩) (by assumption) ?_
  case refine_2 => (intro w hSw; (try dsimp only at hSw); go_simp; try with_reducible rfl)
  show wpAnyH _ _ _ _ _ _ _ (Act.put _ (some 68) _) _
  simp only [pz]
  refine wpAnyH_take (i := 7) (v := ?_) rfl (by kernel_rfl) (by kernel_rfl) (by kernel_rfl) (fun _ _ _ h => h) (Or.inl ⟨by rfl, ?_⟩) (by assumption) ?_
  case refine_2 => (intro w5 hSw; (try dsimp only at hSw); have sx1 := step_cell hSw x1; go_simp; try with_reducible rfl)
  show wpAnyH _ _ _ _ _ _ _ (Act.put _ (some 69) _) _
  simp only [pz]
  refine wpAnyH_take (i := 8) (v := ?_) rfl (by kernel_rfl) (by kernel_rfl) (by kernel_rfl) (fun _ _ _ h => h) (Or.inl ⟨by rfl, ?_⟩) (by assumption) ?_
  case refine_2 => (intro w hSw; (try dsimp only at hSw); go_simp; try with_reducible rfl)
  show wpAnyH _ _ _ _ _ _ _ (Act.put _ (some 70) _) _
  simp only [pz]
  have h8 := hHeld
  refine wpAnyH_ready (rs := [4]) (by kernel_rfl) (by simp) ?_
  refine (AllReadyH.cons rfl (fun K hK => ?_) AllReadyH.nil)
  go_simp
  go_at_call 22
  refine (targetO x hxl _).mono ?_
  rintro e w5 ⟨rfl, hb5⟩
  go_wp2_with fail
  refine hK.out _ _ ?_ (fun hHeld => ?_)
  · (exact step_below hb5 h8)
  clear hK K
  try simp only [pz]
  have h9 := hHeld
  have HB2 : Hid (Below w1.heap.size w1 w5) := h9
  have cs := HC.out w5 (HP1.out.below h9) (HV1.out.on (h9.mono HP1.out.base_le)).here
  refine wpAnyH_ready (rs := [9]) (by kernel_rfl) (by simp) ?_
  refine (AllReadyH.cons rfl (fun K hK => ?_) AllReadyH.nil)
  go_simp
  go_at_call 21
  refine cs.mono ?_
  rintro e w6 ⟨v6, xs6, rfl, hw6, hx6, hl6, hj6, hb6⟩
  have HANS : Hid (ShwP an w5 (.returned v6) w6) := ⟨v6, xs6, rfl, hw6, hx6, hl6, hj6, hb6⟩
  go_wp2_with fail
  refine hK.out _ _ ?_ (fun hHeld => ?_)
  · (exact step_below hb6 h9)
  clear hK K
  try simp only [pz]
  refine wpAnyH_ready (rs := [10]) (by kernel_rfl) (by simp) ?_
  refine (AllReadyH.cons rfl (fun K hK => ?_) AllReadyH.nil)
  go_simp
  refine hK.out _ _ ?_ (fun hHeld => ?_)
  · (exact step_below hb6 h9)
  clear hK K
  try simp only [pz]
  refine wpAnyH_done (by kernel_rfl) ?_ _
  clear hHeld
  go_wp2
  go_ret
  rw [HR.out]
  exact DrvAns.ahead HB1.out (DrvAns.ahead HB2.out (DrvAns.shw (HP1.out.below HB2.out) (HT1.out.of (HB2.out.block q HP1.out.lt)) HANS.out))
theorem answerO {base q : Nat} {g : PL} {wv cv iv : Value} {w : World} (L : Lay) (hL : LayIs L) (hN : LayCap L) (hP : PlS base q g wv cv iv w) (hT : PlT q w) (hv : VarAt base w) (s : List UInt8) (hs : s.length ≤ 3000000) :
    Calls Tryz.prog 8 #[.pointer (some ⟨q, 0, none⟩), .string (str s)] w fun e w' => DrvAns base q wv cv (lineL L g s) w e w' := by
  cases hnum : numsOf (splitL 32 s).tail with
  | none => exact ansNo L hP hT hv s hs (Or.inl hnum)
  | some l =>
    rcases Bool.eq_false_or_eq_true (mayL (wordOf s) l.length) with hm | hm
    · rcases may_cases hm with ⟨h | h, hl⟩ | ⟨h, hl⟩ | ⟨h, hl⟩ | ⟨h, hl⟩ | ⟨h, hl⟩ | ⟨h, hl⟩ | h
      · exact ansNarrow L hL hN hP hT hv s hs l hnum hl h
      · exact ansWide L hL hN hP hT hv s hs l hnum hl h
      · exact ansNear L hL hN hP hT hv s hs l hnum hl h
      · exact ansRun L hL hN hP hT hv s hs l hnum hl h
      · exact ansBytes L hL hN hP hT hv s hs l hnum hl h
      · exact ansOn L hL hN hP hT hv s hs l hnum hl h
      · exact ansCode L hL hN hP hT hv s hs l hnum hl h
      · refine ansIns L hL hN hP hT hv s hs l hnum ?_ h
        have h1 := (numsOf_lt _ _ hnum).2
        have h2 := splitL_len 32 s
        rw [List.length_tail] at h1
        omega
    · exact ansNo L hP hT hv s hs (Or.inr ⟨l, hnum, hm⟩)
end form
/- strings.Join's contract at this program's numbers. -/
namespace form
open Go.Shelf Go.RowKit
set_option maxRecDepth 100000
def renJ : Ren := ⟨fun | 156 => 7 | 165 => 13 | 166 => 6 | 169 => 10 | 240 => 12 | 241 => 27 | 276 => 26 | 277 => 47 | n => n,
  fun | 0 => 0 | 3 => 3 | 4 => 4 | 5 => 5 | 9 => 9 | 20 => 20 | 31 => 42 | 37 => 32 | 70 => 31 | 72 => 34 | 75 => 38 | 76 => 39 | 80 => 45 | 127 => 66 | 164 => 68 | n => n,
  fun  | n => n⟩
theorem laysJoin : Lays.n156 Tryz.prog renJ where
  mixed := by kernel_rfl
  f156 := Tryz.func7.trans (congrArg some (by kernel_rfl))
  f165 := Tryz.func13.trans (congrArg some (by kernel_rfl))
  f166 := Tryz.func6.trans (congrArg some (by kernel_rfl))
  f169 := Tryz.func10.trans (congrArg some (by kernel_rfl))
  f240 := Tryz.func12.trans (congrArg some (by kernel_rfl))
  f241 := Tryz.func27.trans (congrArg some (by kernel_rfl))
  f276 := Tryz.func26.trans (congrArg some (by kernel_rfl))
  f277 := Tryz.func47.trans (congrArg some (by kernel_rfl))
  t0 := by kernel_rfl
  a0 := fun _ => by kernel_rfl
  z0 := fun _ => by kernel_rfl
  v0 := fun _ => by kernel_rfl
  t3 := by kernel_rfl
  a3 := fun _ => by kernel_rfl
  z3 := fun _ => by kernel_rfl
  v3 := fun _ => by kernel_rfl
  t4 := by kernel_rfl
  a4 := fun _ => by kernel_rfl
  z4 := fun _ => by kernel_rfl
  v4 := fun _ => by kernel_rfl
  t9 := by kernel_rfl
  a9 := fun _ => by kernel_rfl
  z9 := fun _ => by kernel_rfl
  v9 := fun _ => by kernel_rfl
  t20 := by kernel_rfl
  a20 := fun _ => by kernel_rfl
  z20 := fun _ => by kernel_rfl
  v20 := fun _ => by kernel_rfl
  t31 := by kernel_rfl
  a31 := fun _ => by kernel_rfl
  z31 := fun _ => by kernel_rfl
  v31 := fun _ => by kernel_rfl
  t37 := by kernel_rfl
  a37 := fun _ => by kernel_rfl
  z37 := fun _ => by kernel_rfl
  v37 := fun _ => by kernel_rfl
  t70 := by kernel_rfl
  a70 := fun _ => by kernel_rfl
  z70 := fun _ => by kernel_rfl
  v70 := fun _ => by kernel_rfl
  t72 := by kernel_rfl
  a72 := fun _ => by kernel_rfl
  z72 := fun _ => by kernel_rfl
  v72 := fun _ => by kernel_rfl
  t75 := by kernel_rfl
  a75 := fun _ => by kernel_rfl
  z75 := fun _ => by kernel_rfl
  v75 := fun _ => by kernel_rfl
  t76 := by kernel_rfl
  a76 := fun _ => by kernel_rfl
  z76 := fun _ => by kernel_rfl
  v76 := fun _ => by kernel_rfl
  t127 := by kernel_rfl
  a127 := fun _ => by kernel_rfl
  z127 := fun _ => by kernel_rfl
  v127 := fun _ => by kernel_rfl
  t164 := by kernel_rfl
  a164 := fun _ => by kernel_rfl
  z164 := fun _ => by kernel_rfl
  v164 := fun _ => by kernel_rfl
theorem laysExtraJ : Builder.Extra Tryz.prog renJ where
  sizeBuilder := by kernel_rfl
  liesBuilder := by kernel_rfl
  t5 := by kernel_rfl
  a5 := fun _ => by kernel_rfl
  z5 := fun _ => by kernel_rfl
  v5 := fun _ => by kernel_rfl
  infoByte := by kernel_rfl
  cellsByte := by kernel_rfl
  sizeByte := by kernel_rfl
  neB5 := by decide
end form
end Go.Proofs.YtikhedkhgpjaaacGreatDoor
