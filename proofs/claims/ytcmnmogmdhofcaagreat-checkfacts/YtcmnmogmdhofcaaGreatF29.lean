/- An instruction that gives nothing changes nothing (loanbookref8.World.Ins). -/
import Derived.Test.YtcmnmogmdhofcaaGreatF09
import Derived.Test.YtcmnmogmdhofcaaGreatF27
import Derived.Test.YtcmnmogmdhofcaaGreatF28
import Derived.Test.YtcmnmogmdhofcaaGreatF19
import Derived.Test.YtcmnmogmdhofcaaGreatF20
import Derived.Test.YtcmnmogmdhofcaaGreatF25

namespace Go.Proofs.YtcmnmogmdhofcaaGreat.form
open Go.RowKit Go.Proofs.YtcmnmogmdhofcaaGreat.num
set_option linter.unusedVariables false
attribute [local go_sem ↓] Go.wp_at_zero Go.wp_at_succ

set_option maxRecDepth 100000 in
theorem ins8_no (v0 v1 v2 v3 v4 : Value) (sao : Option Addr) (sn scap : Nat) (i : LIns) (L : LPlace) (w : World) (hv : (∃ a n c, v0 = .slice a n c) ∧ (∃ a n c, v1 = .slice a n c) ∧ (∃ a n c, v2 = .slice a n c) ∧ (∃ a n c, v3 = .slice a n c) ∧ (∃ a n c, v4 = .slice a n c)) (hg : givesB i.op = false) :
    Calls Tryz.prog 57 #[.agg #[v0, v1, v2, v3, v4], .slice sao sn scap, i.val, L.val] w fun e w' => e = .returned (.slice sao sn scap) ∧ Below w.heap.size w w' := by
  obtain ⟨⟨_, _, _, rfl⟩, ⟨_, _, _, rfl⟩, ⟨_, _, _, rfl⟩, ⟨_, _, _, rfl⟩, ⟨_, _, _, rfl⟩⟩ := hv
  have HG : Hid (givesB i.op = false) := hg
  have HB3 : Hid (∀ o1 o2 o3 : Obj, Below w.heap.size w (((w.alloc o1).alloc o2).alloc o3)) := fun o1 o2 o3 => (((Below.refl _ _).alloc (Nat.le_refl _) _).alloc (by simp) _).alloc (by simp; omega) _
  clear hg
  unfold LIns.val LPlace.val
  go_enter Tryz.func57, Tryz.ntmps57
  go_wp2_with (go_at_call 14; refine (gives _ _).mono ?_; rw [HG.out]; rintro e w' ⟨rfl, hw'⟩; obtain rfl := hw'.symm)
  go_ret
  exact ⟨rfl, HB3.out _ _ _⟩

end Go.Proofs.YtcmnmogmdhofcaaGreat.form

/- The contracts of the document's functions on facts, joined: of a world of facts and places that may be. -/
namespace Go.Proofs.YtcmnmogmdhofcaaGreat.form
open Go.RowKit Go.Proofs.YtcmnmogmdhofcaaGreat.num
set_option linter.unusedVariables false

section
variable {w : World} {ao0 : Option Addr} {n0 c0 : Nat} {ao1 : Option Addr} {n1 c1 ga ca gs cs : Nat} {ao4 : Option Addr} {n4 c4 : Nat} {s slots : Int} {F : List LFact} {st : LPlace → Nat}

theorem moveSpec (h : FWorld w s slots F ga gs st) : MoveSpec w s slots F [.slice ao0 n0 c0, .slice ao1 n1 c1, .slice (some ⟨ga, 0, none⟩) F.length ca, .slice (some ⟨gs, 0, none⟩) 4 cs, .slice ao4 n4 c4] :=
  fun wx sv S m hb hS hl h1 h2 => move8 ao0 n0 c0 ao1 n1 c1 ga ca gs cs ao4 n4 c4 s slots F st sv S m wx (h.later hb) hS hl h1 h2
theorem findSpec (h : FWorld w s slots F ga gs st) : FindSpec w s slots F [.slice ao0 n0 c0, .slice ao1 n1 c1, .slice (some ⟨ga, 0, none⟩) F.length ca, .slice (some ⟨gs, 0, none⟩) 4 cs, .slice ao4 n4 c4] :=
  fun wx sv S f hb hS hl hf => find8 ao0 n0 c0 ao1 n1 c1 ga ca gs cs ao4 n4 c4 s slots F st sv S f wx (h.later hb) hS hl hf
theorem insSpec (h : FWorld w s slots F ga gs st) {i : LIns} {L : LPlace} (hL : givesB i.op = true → isB s slots L = true) : InsSpec w F [.slice ao0 n0 c0, .slice ao1 n1 c1, .slice (some ⟨ga, 0, none⟩) F.length ca, .slice (some ⟨gs, 0, none⟩) 4 cs, .slice ao4 n4 c4] i L := by
  intro wx sv S hb hS hl
  cases hg : givesB i.op with
  | true =>
    refine (ins8 ao0 n0 c0 ao1 n1 c1 ga ca gs cs ao4 n4 c4 s slots F st sv S i L wx (h.later hb) hS hl hg (hL hg)).mono fun e w' hh => ⟨Or.inl ⟨rfl, hh.1⟩, hh.2⟩
  | false =>
    obtain ⟨sao, scap, rfl, -⟩ := hS
    refine (ins8_no _ _ _ _ _ sao S.length scap i L wx ⟨⟨_, _, _, rfl⟩, ⟨_, _, _, rfl⟩, ⟨_, _, _, rfl⟩, ⟨_, _, _, rfl⟩, ⟨_, _, _, rfl⟩⟩ hg).mono fun e w' hh => ⟨Or.inr ⟨rfl, hh.1⟩, hh.2⟩
end

theorem moves_place {s slots : Int} {l : List LMove} (h : movesB s slots l = true) : l.length ≤ 6 ∧ ∀ m, m ∈ l → (m.cst = false → PlaceOf s slots m.src) ∧ PlaceOf s slots m.dst := by
  unfold movesB at h
  simp only [Bool.and_eq_true, decide_eq_true_eq, List.all_eq_true] at h
  refine ⟨h.1, fun m hm => ?_⟩
  have h2 := h.2 m hm
  unfold moveB at h2
  rw [Bool.and_eq_true] at h2
  refine ⟨fun hc => Or.inr ?_, Or.inr h2.1⟩
  have h3 := h2.2
  rw [if_neg (by simp [hc])] at h3
  simp only [Bool.and_eq_true] at h3
  exact h3.1.2

theorem thruSpec {w : World} {b0 o0 c0 b1 o1 c1 ga ca gs cs : Nat} {ao4 : Option Addr} {n4 c4 : Nat} {B : List Bool} {C : List LIns} {s slots : Nat} {R : List LRow} {F : List LFact} {st : LPlace → Nat} (h : FWorld w s slots F ga gs st) (hmay : placeMayB B C s slots R = true) :
    ThruSpec w F C R [.slice (some ⟨b0, o0, none⟩) B.length c0, .slice (some ⟨b1, o1, none⟩) C.length c1, .slice (some ⟨ga, 0, none⟩) F.length ca, .slice (some ⟨gs, 0, none⟩) 4 cs, .slice ao4 n4 c4] := by
  unfold placeMayB at hmay
  simp only [Bool.and_eq_true, Bool.not_eq_true', decide_eq_true_eq, decide_eq_false_iff_not, List.all_eq_true, List.mem_range] at hmay
  intro wx k sv S bao bcap aao acap hb hk hS hl hB hA
  have hrow := hmay.2 k hk
  unfold rowB at hrow
  simp only [Bool.and_eq_true] at hrow
  obtain ⟨⟨⟨⟨⟨rd, ra⟩, rb⟩, rbef⟩, raft⟩, _⟩ := hrow
  have hw := h.later hb
  refine through8 _ _ _ _ _ _ ga ca gs cs ao4 n4 c4 s slots F sv S (C.getD k .zero) (R.getD k .zero) bao bcap aao acap wx (moveSpec hw) (insSpec hw (fun hg => ?_)) (findSpec hw) hS hl hw.facts.len (hB.later hb) (hA.later hb) (moves_place rbef) (moves_place raft) (fun hp => ?_) (fun hp => ?_)
  · unfold fieldP at rd
    rw [if_pos hg] at rd
    exact (reg_is rd).1
  · unfold fieldP at ra
    rw [if_pos (by simpa using hp)] at ra
    exact Or.inr (reg_is ra).1
  · unfold fieldP at rb
    rw [if_pos (by simpa using hp)] at rb
    exact Or.inr (reg_is rb).1

end Go.Proofs.YtcmnmogmdhofcaaGreat.form

/- Whether places are taken (loanbookref8.Takes), out of the contract of loanbookref8.Of. -/
namespace Go.Proofs.YtcmnmogmdhofcaaGreat.form
open Go.RowKit Go.Proofs.YtcmnmogmdhofcaaGreat.num
set_option linter.unusedVariables false
end Go.Proofs.YtcmnmogmdhofcaaGreat.form

/- Whether places are taken (loanbookref8.Takes): where they may not be. -/
namespace Go.Proofs.YtcmnmogmdhofcaaGreat.form
open Go.RowKit Go.Proofs.YtcmnmogmdhofcaaGreat.num
set_option linter.unusedVariables false
attribute [local go_sem ↓] Go.wp_at_zero Go.wp_at_succ

end Go.Proofs.YtcmnmogmdhofcaaGreat.form

/- The contract of loanbookref8.Of, where the places may be; so whether places are taken (loanbookref8.Takes). -/
namespace Go.Proofs.YtcmnmogmdhofcaaGreat.form
open Go.RowKit Go.Proofs.YtcmnmogmdhofcaaGreat.num
set_option linter.unusedVariables false

theorem ofSpec8 {b0 o0 c0 b1 o1 c1 : Nat} {B : List Bool} {C : List LIns} {s slots : Nat} {R : List LRow} {w : World} (h : Held w b0 o0 b1 o1 B C) (hmay : placeMayB B C s slots R = true) : OfSpec w b0 o0 c0 b1 o1 c1 B C s slots := by
  intro wx hb
  have hm2 := hmay
  unfold placeMayB at hm2
  simp only [Bool.and_eq_true, Bool.not_eq_true', decide_eq_true_eq, decide_eq_false_iff_not, List.all_eq_true, List.mem_range] at hm2
  obtain ⟨⟨⟨⟨⟨h1, h2⟩, h3⟩, h4⟩, h5⟩, h6⟩ := hm2
  have hs := target_of h2
  have hsz : sizesB B C = true := by unfold refMayB at h1; simp only [Bool.and_eq_true] at h1; exact h1.1
  obtain ⟨s1, s2, s3, s4⟩ := sizes_of hsz
  exact of8 b0 o0 c0 b1 o1 c1 B C s slots wx (h.later hb) s1 s2 s4 (by omega) (by omega) (by omega) (by omega)

end Go.Proofs.YtcmnmogmdhofcaaGreat.form
