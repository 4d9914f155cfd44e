/- For every program, target and places, such as may not be among them, the facts that the program tells of each instruction are those that the document's chapter on what is known says, in its order. No condition. -/
import Derived.Test.YtdbjklngnloibaaGreatF37
import Derived.Test.YtdbjklngnloibaaGreatF45

namespace Go.Proofs.YtdbjklngnloibaaGreat
open form

theorem factsO : checkFacts.FactsSpec := by
  intro pv lv B C s slots R w hp hl hrk
  rcases Bool.eq_false_or_eq_true (placeMayB B C s slots R) with hmay | hmay
  case inr =>
    refine (factsNo pv lv B C s slots R w hp hl hmay).mono ?_
    rintro e w' ⟨⟨fo, fc, he⟩, hb⟩
    exact ⟨Or.inl ⟨hmay, fo, fc, he⟩, hb⟩
  have hm2 := hmay
  unfold placeMayB at hm2
  simp only [Bool.and_eq_true, Bool.not_eq_true', decide_eq_true_eq, decide_eq_false_iff_not, List.all_eq_true, List.mem_range] at hm2
  obtain ⟨⟨⟨⟨⟨h1, h2⟩, h3⟩, h4⟩, h5⟩, h6⟩ := hm2
  have hs := target_of h2
  have hsz : sizesB B C = true := by unfold refMayB at h1; simp only [Bool.and_eq_true] at h1; exact h1.1
  obtain ⟨s1, s2, s3, s4⟩ := sizes_of hsz
  obtain ⟨⟨a0, c0, a1, c1, rfl, hh⟩, l0, l1, hn⟩ := hp
  obtain ⟨b0, o0, b1, o1, rfl, rfl, hH⟩ := hh s1 s3
  obtain ⟨ao, cap, rfl, hRl, hrr⟩ := hl
  obtain ⟨b2, o2, rfl, hr⟩ := hrr (by omega)
  obtain ⟨s', rfl⟩ := Int.eq_ofNat_of_zero_le (show 0 ≤ s by omega)
  obtain ⟨slots', rfl⟩ := Int.eq_ofNat_of_zero_le (show 0 ≤ slots by omega)
  refine (factsYes b0 o0 c0 b1 o1 c1 b2 o2 cap B C s' slots' R w hH hr hn hRl hmay).mono ?_
  rintro e w' ⟨⟨fv, Rs, he, h1, h2⟩, hb⟩
  exact ⟨Or.inr ⟨hmay, fv, Rs, he, h1, h2⟩, hb⟩

theorem checkFacts_holds : Rows.CheckFactsSaid := checkFacts.over factsO
#print axioms checkFacts_holds

end Go.Proofs.YtdbjklngnloibaaGreat
