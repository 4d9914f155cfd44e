/- Places that are taken still are, where something is moved into a slot more ahead of an instruction. On plain numbers. -/
import Derived.Test.YtcmnmogmdhofcabGreatI10
import Derived.Test.YtcmnmogmdhofcabGreatI06
import Derived.Test.YtcmnmogmdhofcabGreatI05

namespace Go.Proofs.YtcmnmogmdhofcabGreat.form
open Go.RowKit Go.Proofs.YtcmnmogmdhofcabGreat.num
set_option linter.unusedVariables false

theorem isB_more {s slots : Int} {p : LPlace} (h : isB s slots p = true) : isB s (slots + 1) p = true := by
  unfold isB at h ⊢
  split
  · rename_i e; rw [if_pos e] at h; exact h
  · rename_i e
    rw [if_neg e] at h
    split
    · rename_i e2; rw [if_pos e2] at h; exact h
    · rename_i e2
      rw [if_neg e2] at h
      split
      · rename_i e3; rw [if_pos e3] at h; simp at h ⊢; omega
      · rename_i e3; rw [if_neg e3] at h; exact h
theorem factOk_more {B : List Bool} {s slots : Int} {num : Int → Prop} {f : LFact} (h : FactOk B s slots num f) : FactOk B s (slots + 1) num f :=
  ⟨h.pl.imp id isB_more, h.t, h.nar, h.wid, h.num, h.zn, h.zt, h.dbl⟩

theorem moveK_ok {ok ok' : LFact → Prop} (h : ∀ f, ok f → ok' f) {m : LMove} {K : LFact → Prop} {f : LFact} (hf : moveK ok m K f) : moveK ok' m K f := ⟨h f hf.1, hf.2⟩
theorem movesK_ok {ok ok' : LFact → Prop} (h : ∀ f, ok f → ok' f) (l : List LMove) : ∀ {K K' : LFact → Prop}, (∀ f, K f → K' f) → ∀ f, movesK ok l K f → movesK ok' l K' f := by
  induction l with
  | nil => exact fun h f hf => h f hf
  | cons m l ih => exact fun h2 f hf => ih (fun g hg => moveK_ok h (moveK_mono h2 hg)) f hf
theorem insK_ok {ok ok' : LFact → Prop} (h : ∀ f, ok f → ok' f) {i : LIns} {L : LPlace} {K : LFact → Prop} {f : LFact} (hf : insK ok i L K f) : insK ok' i L K f := ⟨h f hf.1, hf.2⟩

theorem thruK_idle {ok ok' : LFact → Prop} (h : ∀ f, ok f → ok' f) {i : LIns} {r : LRow} {m : LMove} {K K' : LFact → Prop} (hK : ∀ f, K f → moveK ok' m K' f) {f : LFact} (hf : thruK ok i r K f) :
    thruK ok' i { r with before := m :: r.before } K' f := by
  unfold thruK at hf ⊢
  refine movesK_ok h _ (fun g hg => ?_) f hf
  split at hg
  · rename_i h1; rw [if_pos h1]; exact insK_ok h (insK_mono (movesK_ok h _ hK) hg)
  · rename_i h1; rw [if_neg h1]; exact movesK_ok h _ hK g hg
theorem thruK_ok {ok ok' : LFact → Prop} (h : ∀ f, ok f → ok' f) {i : LIns} {r : LRow} {K : LFact → Prop} {f : LFact} (hf : thruK ok i r K f) : thruK ok' i r K f := by
  unfold thruK at hf ⊢
  refine movesK_ok h _ (fun g hg => ?_) f hf
  split at hg
  · rename_i h1; rw [if_pos h1]; exact insK_ok h (insK_mono (movesK_ok h _ (fun _ h => h)) hg)
  · rename_i h1; rw [if_neg h1]; exact movesK_ok h _ (fun _ h => h) g hg

theorem idle_keeps {B : List Bool} {s slots : Int} {num : Int → Prop} {p : LPlace} {K : LFact → Prop} (hK : ∀ f, K f → FactOk B s slots num f) (f : LFact) (hf : K f) :
    moveK (FactOk B s (slots + 1) num) ⟨⟨3, slots⟩, p, false, 0⟩ K f := by
  have ho := hK f hf
  refine ⟨factOk_more ho, ?_⟩
  rw [if_pos]
  · exact hf
  · rcases ho.pl with h | h
    · exact Or.inl h.1
    · right
      unfold overB
      rcases is_cases h with ⟨e, a, b⟩ | ⟨e, a, b⟩ | ⟨e, a, b⟩
      · rw [if_neg (by simp; omega), if_neg (by simp), if_neg (by simp)]
      · rw [if_neg (by simp; omega), if_neg (by simp), if_neg (by simp)]
      · rw [if_pos (by simpa using e)]; simp; omega

theorem moveB_more {s slots : Int} {m : LMove} (h : moveB s slots m = true) : moveB s (slots + 1) m = true := by
  unfold moveB at h ⊢
  simp only [Bool.and_eq_true] at h ⊢
  refine ⟨isB_more h.1, ?_⟩
  have h2 := h.2
  split
  · rename_i e; rw [if_pos e] at h2; exact h2
  · rename_i e
    rw [if_neg e] at h2
    simp only [Bool.and_eq_true] at h2 ⊢
    exact ⟨⟨h2.1.1, isB_more h2.1.2⟩, h2.2⟩
theorem movesB_more {s slots : Int} {l : List LMove} (h : movesB s slots l = true) : movesB s (slots + 1) l = true := by
  unfold movesB at h ⊢
  simp only [Bool.and_eq_true] at h ⊢
  refine ⟨h.1, ?_⟩
  rw [List.all_eq_true] at h ⊢
  exact fun x hx => moveB_more (h.2 x hx)
theorem rowB_more {B : List Bool} {s slots : Int} {i : LIns} {r : LRow} (h : rowB B s slots i r = true) : rowB B s (slots + 1) i r = true := by
  unfold rowB at h ⊢
  simp only [Bool.and_eq_true] at h ⊢
  exact ⟨⟨⟨h.1.1.1, movesB_more h.1.1.2⟩, movesB_more h.1.2⟩, h.2⟩
theorem rowB_idle {B : List Bool} {s slots n : Int} {i : LIns} {r : LRow} (h : rowB B s slots i r = true) (hl : 0 ≤ slots) (h6 : r.before.length < 6) (hn0 : 0 ≤ n) (hn1 : n < s) :
    rowB B s (slots + 1) i { r with before := ⟨⟨3, slots⟩, ⟨1, n⟩, false, 0⟩ :: r.before } = true := by
  have h2 := rowB_more h
  unfold rowB at h2 ⊢
  simp only [Bool.and_eq_true] at h2 ⊢
  refine ⟨⟨⟨h2.1.1.1, ?_⟩, h2.1.2⟩, h2.2⟩
  have h3 := h2.1.1.2
  unfold movesB at h3 ⊢
  simp only [Bool.and_eq_true, List.length_cons, List.all_cons] at h3 ⊢
  refine ⟨by simp; omega, ?_, h3.2⟩
  unfold moveB isB
  simp
  omega

theorem getD_set_row {R : List LRow} {k j : Nat} {r : LRow} : (R.set k r).getD j .zero = if k = j ∧ k < R.length then r else R.getD j .zero := by
  simp only [List.getD, List.getElem?_set]
  split
  · rename_i e
    subst e
    split
    · rename_i e2; rw [if_pos ⟨rfl, e2⟩]; rfl
    · rename_i e2; rw [if_neg (by simp [e2]), List.getElem?_eq_none (by omega)]
  · rename_i e; rw [if_neg (by simp [e])]

theorem taken_idle {B : List Bool} {C : List LIns} {s slots n : Int} {R : List LRow} {k : Nat} (h : TakenP B C s slots R) (hs : slots < 12) (hk : k < C.length) (h6 : (R.getD k .zero).before.length < 6) (hn0 : 0 ≤ n) (hn1 : n < s) :
    TakenP B C s (slots + 1) (R.set k { R.getD k .zero with before := ⟨⟨3, slots⟩, ⟨1, n⟩, false, 0⟩ :: (R.getD k .zero).before }) := by
  obtain ⟨hmay, hu⟩ := h
  have hmay0 := hmay
  unfold placeMayB at hmay
  simp only [Bool.and_eq_true, Bool.not_eq_true', decide_eq_true_eq, decide_eq_false_iff_not] at hmay
  obtain ⟨⟨⟨⟨⟨hm, ht⟩, hs0⟩, hs1⟩, hlen⟩, hrows⟩ := hmay
  rw [List.all_eq_true] at hrows
  obtain ⟨r', hr'⟩ : ∃ r' : LRow, r' = { R.getD k .zero with before := ⟨⟨3, slots⟩, ⟨1, n⟩, false, 0⟩ :: (R.getD k .zero).before } := ⟨_, rfl⟩
  rw [← hr']
  have hgood := known_good B C s slots R
  have hkeep : ∀ x f, Known B C s slots R x f → moveK (FactOk B s (slots + 1) (NumP C)) ⟨⟨3, slots⟩, ⟨1, n⟩, false, 0⟩ (Known B C s slots R x) f := fun x f hf => idle_keeps (fun g hg => hgood.ok x g hg) f hf
  have hthru : ∀ x f, thruK (FactOk B s slots (NumP C)) (C.getD x .zero) (R.getD x .zero) (Known B C s slots R x) f → thruK (FactOk B s (slots + 1) (NumP C)) (C.getD x .zero) ((R.set k r').getD x .zero) (Known B C s slots R x) f := by
    intro x f hf
    rw [getD_set_row]
    split
    · rename_i e
      obtain ⟨rfl, _⟩ := e
      rw [hr']
      exact thruK_idle (fun _ h => factOk_more h) (hkeep k) hf
    · exact thruK_ok (fun _ h => factOk_more h) hf
  have hgood' : GoodK B C s (slots + 1) (R.set k r') (NumP C) (Reach C) (Known B C s slots R) :=
    ⟨reach_start C, fun x f hf => factOk_more (hgood.ok x f hf), hgood.beg, fun x y hx hl hy hyl => ⟨reach_next hx hl hy hyl, fun f hf => hthru x f ((hgood.next x y hx hl hy hyl).2 f hf)⟩⟩
  refine ⟨?_, fun x hx hxl => ?_⟩
  · unfold placeMayB
    simp only [Bool.and_eq_true, Bool.not_eq_true', decide_eq_true_eq, decide_eq_false_iff_not]
    refine ⟨⟨⟨⟨⟨hm, ht⟩, by omega⟩, by omega⟩, by simpa using hlen⟩, ?_⟩
    rw [List.all_eq_true]
    intro x hx
    have := hrows x hx
    rw [getD_set_row]
    split
    · rename_i e
      obtain ⟨rfl, _⟩ := e
      rw [hr']
      exact rowB_idle this (by omega) h6 hn0 hn1
    · exact rowB_more this
  · refine usesK_mono (K := Known B C s slots R x) (fun f hf => ⟨_, hgood', hf⟩) ?_
    have hu := hu x hx hxl
    rw [getD_set_row]
    split
    · rename_i e
      obtain ⟨rfl, _⟩ := e
      rw [hr']
      exact ⟨fun hp => movesK_ok (fun _ h => factOk_more h) _ (hkeep k) _ (hu.1 hp), fun hp => movesK_ok (fun _ h => factOk_more h) _ (hkeep k) _ (hu.2 hp)⟩
    · exact ⟨fun hp => movesK_ok (fun _ h => factOk_more h) _ (fun _ h => h) _ (hu.1 hp), fun hp => movesK_ok (fun _ h => factOk_more h) _ (fun _ h => h) _ (hu.2 hp)⟩

theorem taken_of {B : List Bool} {C : List LIns} {s slots : Int} {R : List LRow} {K : Nat → LFact → Prop} (hm : placeMayB B C s slots R = true) (hK : GoodK B C s slots R (NumP C) (Reach C) K)
    (hu : ∀ k, Reach C k → k < C.length → usesK (FactOk B s slots (NumP C)) (C.getD k .zero) (R.getD k .zero) (K k)) : TakenP B C s slots R :=
  ⟨hm, fun k hk hl => usesK_mono (fun f hf => ⟨K, hK, hf⟩) (hu k hk hl)⟩

end Go.Proofs.YtcmnmogmdhofcabGreat.form

/- The places of a program that halts at once are taken; that program, and its places, in memory. -/
namespace Go.Proofs.YtcmnmogmdhofcabGreat.form
open Go.RowKit
set_option linter.unusedVariables false

theorem taken_one : TakenP [false] [haltI] 4 0 [.zero] := by
  refine ⟨by decide, fun k hk hl => ?_⟩
  have : k = 0 := by simp at hl; omega
  subst this
  have hm : manyI haltI.op = 0 := by decide
  exact ⟨fun h => absurd h (by simp [hm]), fun h => absurd h (by simp [hm])⟩

end Go.Proofs.YtcmnmogmdhofcabGreat.form

/- What Build must answer, by whatever way: f tells the places that are made. -/
namespace Go.Proofs.YtcmnmogmdhofcabGreat.form
open Go.RowKit
set_option linter.unusedVariables false

def BuildTaken (f : List Bool → List LIns → Int → Int × List LRow) : Prop := ∀ (B : List Bool) (C : List LIns) (s : Int), (∀ i, i < C.length → 0 ≤ (C.getD i .zero).n ∧ (C.getD i .zero).n < 4294967296) → refMayB B C = true → targetB s = true → TakenP B C s (f B C s).1 (f B C s).2 ∧ RowsOk (f B C s).2
def OwnBuild (f : List Bool → List LIns → Int → Int × List LRow) (B : List Bool) (C : List LIns) (s : Int) (w : World) (e : Ending) (w' : World) : Prop :=
  (((refMayB B C && targetB s) = false ∧ ∃ lv, e = .returned (.tuple #[lv, .int .i64 2]) ∧ PlacedIs w' lv 0 []) ∨ ((refMayB B C && targetB s) = true ∧ ∃ lv, e = .returned (.tuple #[lv, .int .i64 0]) ∧ PlacedIs w' lv (f B C s).1 (f B C s).2)) ∧ Below w.heap.size w w'
def BuildSpec (f : List Bool → List LIns → Int → Int × List LRow) : Prop := ∀ (pv : Value) (B : List Bool) (C : List LIns) (s : Int) (w : World), ProgIs w pv B C → Calls Tryz.prog 13 #[pv, targetV s] w fun e w' => OwnBuild f B C s w e w'

end Go.Proofs.YtcmnmogmdhofcabGreat.form

/- What CheckIdle leans on, of what is taken: out of what check.Takes and build.Build answer. -/
namespace Go.Proofs.YtcmnmogmdhofcabGreat.form
open Go.RowKit
set_option linter.unusedVariables false

theorem idle_takes (h : TakesSpec) : TakesT TakenP := by
  intro pv lv B C s slots R w hp hl hR
  refine (h pv lv B C s slots R w hp hl hR).mono ?_
  rintro e w' ⟨⟨b, rfl, hb⟩, hb'⟩
  exact ⟨⟨b, rfl, hb⟩, hb'⟩

theorem idle_build {f : List Bool → List LIns → Int → Int × List LRow} (h : BuildSpec f) (hf : BuildTaken f) : BuildT TakenP := by
  intro pv B C s w hp
  refine (h pv B C s w hp).mono ?_
  rintro e w' ⟨⟨h1, lv, rfl, hl⟩ | ⟨h1, lv, rfl, hl⟩, hb⟩
  · have hl' := hl
    obtain ⟨lo, lc, rfl, -, -⟩ := hl'
    exact ⟨lo, lc, 2, 0, [], rfl, hl, Or.inr rfl, fun h => absurd h (by omega), hb⟩
  · have hl' := hl
    obtain ⟨lo, lc, rfl, -, -⟩ := hl'
    rw [Bool.and_eq_true] at h1
    refine ⟨lo, lc, 0, _, _, rfl, hl, Or.inl rfl, fun _ => ?_, hb⟩
    obtain ⟨htk, hro⟩ := hf B C s hp.num h1.1 h1.2
    have hm2 := htk.1
    unfold placeMayB at hm2
    simp only [Bool.and_eq_true, Bool.not_eq_true', decide_eq_true_eq, decide_eq_false_iff_not] at hm2
    obtain ⟨⟨⟨⟨-, hs0⟩, hs1⟩, hlen⟩, -⟩ := hm2
    have hsz : sizesB B C = true := by have := h1.1; unfold refMayB at this; simp only [Bool.and_eq_true] at this; exact this.1
    obtain ⟨z1, z2, z3, z4⟩ := sizes_of hsz
    obtain ⟨u1, u2, u3⟩ := target_of h1.2
    exact ⟨htk, hro, by omega, by omega, by omega, by omega, u1, u2⟩

theorem idle_more : ∀ B C s slots R k n, GoodT TakenP B C s slots R → slots < 12 → k < R.length → (R.getD k .zero).before.length < 6 → 0 ≤ n → n < s → TakenP B C s (slots + 1) (R.set k { R.getD k .zero with before := ⟨⟨3, slots⟩, ⟨1, n⟩, false, 0⟩ :: (R.getD k .zero).before }) := by
  intro B C s slots R k n hg hs hk h6 hn0 hn1
  have hlen : R.length = C.length := by
    have h := hg.tk.1
    unfold placeMayB at h
    simp only [Bool.and_eq_true, decide_eq_true_eq] at h
    exact h.1.2
  exact taken_idle hg.tk hs (by omega) h6 hn0 hn1

end Go.Proofs.YtcmnmogmdhofcabGreat.form

/- All facts that may be, in their order, as a list on plain numbers; the numbers of a program, rising. -/
namespace Go.Proofs.YtcmnmogmdhofcabGreat.form
open Go.RowKit Go.Proofs.YtcmnmogmdhofcabGreat.num
set_option linter.unusedVariables false
end Go.Proofs.YtcmnmogmdhofcabGreat.form
