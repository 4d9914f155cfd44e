/- A search along the ways of a program, on plain numbers: what it has come to, and what it has done with. -/
import Derived.Test.YtepfegfacdbhbabLivePlain
namespace Go.Proofs.Ytepfegfacdbhbab.form
open Go.RowKit
set_option linter.unusedVariables false

structure Srch (C : List LIns) (t : Int) (s : Nat) (come : List Bool) (way : List Nat) (k : Nat) : Prop where
  clen : come.length = C.length
  mark : ∀ x, x < C.length → (come.getD x false = true ↔ x ∈ way)
  inb : ∀ x, x ∈ way → x < C.length
  cnt : way.length = come.count true
  st : s ∈ way
  back : ∀ x, x ∈ way → Need C t x → Need C t s
  done : ∀ j, j < k → takesI (C.getD (way.getD j 0) .zero) t = false ∧ (givesT (C.getD (way.getD j 0) .zero) t = true ∨ ∀ y, y ∈ nextsN (C.getD (way.getD j 0) .zero) (way.getD j 0) → y < C.length → y ∈ way)

theorem Srch.len {C : List LIns} {t : Int} {s : Nat} {come : List Bool} {way : List Nat} {k : Nat} (h : Srch C t s come way k) : way.length ≤ C.length := by
  rw [h.cnt, ← h.clen]; exact List.count_le_length

theorem count_mark (l : List Bool) (y : Nat) (hy : y < l.length) (h : l.getD y false = false) : (l.set y true).count true = l.count true + 1 := by
  have e : l[y] = false := by simpa [List.getD, hy] using h
  rw [List.count_set hy]
  simp [e]

theorem srch_start (C : List LIns) (t : Int) (s : Nat) (hs : s < C.length) : Srch C t s ((List.replicate C.length false).set s true) [s] 0 := by
  refine ⟨by simp, fun x hx => ?_, fun x hx => ?_, ?_, by simp, fun x hx h => ?_, fun j hj => absurd hj (by omega)⟩
  · by_cases e : s = x
    · subst e; simp [List.getD, hx]
    · have : ¬ x = s := fun h => e h.symm
      simp [List.getD, hx, e, this]
  · simp at hx; omega
  · rw [count_mark _ _ (by simpa using hs) (by simp [List.getD, hs])]
    simp [List.count_replicate]
  · simp at hx; subst hx; exact h

theorem getD_append_left {l r : List Nat} {j : Nat} (h : j < l.length) : (l ++ r).getD j 0 = l.getD j 0 := by simp [List.getD, List.getElem?_append_left h]

/-- One more is come to. -/
theorem Srch.push {C : List LIns} {t : Int} {s : Nat} {come : List Bool} {way : List Nat} {k x y : Nat} (h : Srch C t s come way k) (hk : k ≤ way.length) (hx : x ∈ way) (hg : givesT (C.getD x .zero) t = false) (hy : y ∈ nextsN (C.getD x .zero) x) (hyl : y < C.length) (hc : come.getD y false = false) :
    Srch C t s (come.set y true) (way ++ [y]) k := by
  have hyc : y < come.length := by rw [h.clen]; exact hyl
  refine ⟨by simp [h.clen], fun z hz => ?_, fun z hz => ?_, ?_, by simp [h.st], fun z hz hn => ?_, fun j hj => ?_⟩
  · by_cases e : y = z
    · subst e; simp [List.getD, hyc]
    · have e' : ¬ z = y := fun h => e h.symm
      have := h.mark z hz
      have e3 : (come.set y true).getD z false = come.getD z false := by simp [List.getD, e]
      rw [e3, this]
      simp [e']
  · rcases List.mem_append.1 hz with hz | hz
    · exact h.inb z hz
    · simp at hz; omega
  · rw [count_mark _ _ hyc hc, ← h.cnt]; simp
  · rcases List.mem_append.1 hz with hz | hz
    · exact h.back z hz hn
    · simp at hz
      subst hz
      exact h.back x hx ((need_iff C t x).2 ⟨h.inb x hx, Or.inr ⟨hg, _, hy, hn⟩⟩)
  · rw [getD_append_left (by omega)]
    obtain ⟨h1, h2⟩ := h.done j hj
    exact ⟨h1, h2.imp id (fun h3 y hy hyl => List.mem_append.2 (Or.inl (h3 y hy hyl)))⟩

/-- An instruction is done with. -/
theorem Srch.next {C : List LIns} {t : Int} {s : Nat} {come : List Bool} {way : List Nat} {k : Nat} (h : Srch C t s come way k) (ht : takesI (C.getD (way.getD k 0) .zero) t = false)
    (hg : givesT (C.getD (way.getD k 0) .zero) t = true ∨ ∀ y, y ∈ nextsN (C.getD (way.getD k 0) .zero) (way.getD k 0) → y < C.length → y ∈ way) : Srch C t s come way (k + 1) := by
  refine ⟨h.clen, h.mark, h.inb, h.cnt, h.st, h.back, fun j hj => ?_⟩
  by_cases e : j = k
  · subst e; exact ⟨ht, hg⟩
  · exact h.done j (by omega)

/-- It has found one. -/
theorem Srch.found {C : List LIns} {t : Int} {s : Nat} {come : List Bool} {way : List Nat} {k : Nat} (h : Srch C t s come way k) (hk : k < way.length) (ht : takesI (C.getD (way.getD k 0) .zero) t = true) : Need C t s := by
  have hm : way.getD k 0 ∈ way := by simp [List.getD, hk]
  exact h.back _ hm ((need_iff C t _).2 ⟨h.inb _ hm, Or.inl ht⟩)

/-- It has found none. -/
theorem Srch.none {C : List LIns} {t : Int} {s : Nat} {come : List Bool} {way : List Nat} {k : Nat} (h : Srch C t s come way k) (hk : way.length ≤ k) : ¬ Need C t s := by
  refine need_none C t (fun x => x ∈ way) (fun x hx => ?_) s h.st
  obtain ⟨j, hj, rfl⟩ := List.getElem_of_mem hx
  have := h.done j (by omega)
  rwa [show way.getD j 0 = way[j] by simp [List.getD, hj]] at this

end Go.Proofs.Ytepfegfacdbhbab.form
