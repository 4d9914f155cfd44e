/- An instruction that gives nothing changes nothing (loanbookref8.World.Ins). -/
import Derived.Test.YtcmnmogmdhofcabGreatD24
import Derived.Test.YtcmnmogmdhofcabGreatD25
import Derived.Test.YtcmnmogmdhofcabGreatD26
import Derived.Test.YtcmnmogmdhofcabGreatD21
import Derived.Test.YtcmnmogmdhofcabGreatD17
import Derived.Test.YtcmnmogmdhofcabGreatD23

namespace Go.Proofs.YtcmnmogmdhofcabGreat.form
open Go.RowKit Go.Proofs.YtcmnmogmdhofcabGreat.num
set_option linter.unusedVariables false
attribute [local go_sem ↓] Go.wp_at_zero Go.wp_at_succ

set_option maxRecDepth 100000 in
theorem ins8_no (v0 v1 v2 v3 v4 : Value) (sao : Option Addr) (sn scap : Nat) (i : LIns) (L : LPlace) (w : World) (hv : (∃ a n c, v0 = .slice a n c) ∧ (∃ a n c, v1 = .slice a n c) ∧ (∃ a n c, v2 = .slice a n c) ∧ (∃ a n c, v3 = .slice a n c) ∧ (∃ a n c, v4 = .slice a n c)) (hg : givesB i.op = false) :
    Calls Tryz.prog 81 #[.agg #[v0, v1, v2, v3, v4], .slice sao sn scap, i.val, L.val] w fun e w' => e = .returned (.slice sao sn scap) ∧ Below w.heap.size w w' := by
  obtain ⟨⟨_, _, _, rfl⟩, ⟨_, _, _, rfl⟩, ⟨_, _, _, rfl⟩, ⟨_, _, _, rfl⟩, ⟨_, _, _, rfl⟩⟩ := hv
  have HG : Hid (givesB i.op = false) := hg
  have HB3 : Hid (∀ o1 o2 o3 : Obj, Below w.heap.size w (((w.alloc o1).alloc o2).alloc o3)) := fun o1 o2 o3 => (((Below.refl _ _).alloc (Nat.le_refl _) _).alloc (by simp) _).alloc (by simp; omega) _
  clear hg
  unfold LIns.val LPlace.val
  go_enter Tryz.func81, Tryz.ntmps81
  go_wp2_with (go_at_call 22; refine (gives _ _).mono ?_; rw [HG.out]; rintro e w' ⟨rfl, hw'⟩; obtain rfl := hw'.symm)
  go_ret
  exact ⟨rfl, HB3.out _ _ _⟩

end Go.Proofs.YtcmnmogmdhofcabGreat.form

/- The contracts of the document's functions on facts, joined: of a world of facts and places that may be. -/
namespace Go.Proofs.YtcmnmogmdhofcabGreat.form
open Go.RowKit Go.Proofs.YtcmnmogmdhofcabGreat.num
set_option linter.unusedVariables false

section
variable {w : World} {ao0 : Option Addr} {n0 c0 : Nat} {ao1 : Option Addr} {n1 c1 ga ca gs cs : Nat} {ao4 : Option Addr} {n4 c4 : Nat} {s slots : Int} {F : List LFact} {st : LPlace → Nat}

theorem moveSpec (h : FWorld w s slots F ga gs st) : MoveSpec w s slots F [.slice ao0 n0 c0, .slice ao1 n1 c1, .slice (some ⟨ga, 0, none⟩) F.length ca, .slice (some ⟨gs, 0, none⟩) 4 cs, .slice ao4 n4 c4] :=
  fun wx sv S m hb hS hl h1 h2 => move8 ao0 n0 c0 ao1 n1 c1 ga ca gs cs ao4 n4 c4 s slots F st sv S m wx (h.later hb) hS hl h1 h2
theorem findSpec (h : FWorld w s slots F ga gs st) : FindSpec w s slots F [.slice ao0 n0 c0, .slice ao1 n1 c1, .slice (some ⟨ga, 0, none⟩) F.length ca, .slice (some ⟨gs, 0, none⟩) 4 cs, .slice ao4 n4 c4] :=
  fun wx sv S f hb hS hl hf => find8 ao0 n0 c0 ao1 n1 c1 ga ca gs cs ao4 n4 c4 s slots F st sv S f wx (h.later hb) hS hl hf
theorem insSpec (h : FWorld w s slots F ga gs st) {i : LIns} {L : LPlace} (hL : givesB i.op = true → isB s slots L = true) : InsSpec w F [.slice ao0 n0 c0, .slice ao1 n1 c1, .slice (some ⟨ga, 0, none⟩) F.length ca, .slice (some ⟨gs, 0, none⟩) 4 cs, .slice ao4 n4 c4] i L := by
  intro wx sv S hb hS hl
  cases hg : givesB i.op with
  | true =>
    refine (ins8 ao0 n0 c0 ao1 n1 c1 ga ca gs cs ao4 n4 c4 s slots F st sv S i L wx (h.later hb) hS hl hg (hL hg)).mono fun e w' hh => ⟨Or.inl ⟨rfl, hh.1⟩, hh.2⟩
  | false =>
    obtain ⟨sao, scap, rfl, -⟩ := hS
    refine (ins8_no _ _ _ _ _ sao S.length scap i L wx ⟨⟨_, _, _, rfl⟩, ⟨_, _, _, rfl⟩, ⟨_, _, _, rfl⟩, ⟨_, _, _, rfl⟩, ⟨_, _, _, rfl⟩⟩ hg).mono fun e w' hh => ⟨Or.inr ⟨rfl, hh.1⟩, hh.2⟩
end

theorem moves_place {s slots : Int} {l : List LMove} (h : movesB s slots l = true) : l.length ≤ 6 ∧ ∀ m, m ∈ l → (m.cst = false → PlaceOf s slots m.src) ∧ PlaceOf s slots m.dst := by
  unfold movesB at h
  simp only [Bool.and_eq_true, decide_eq_true_eq, List.all_eq_true] at h
  refine ⟨h.1, fun m hm => ?_⟩
  have h2 := h.2 m hm
  unfold moveB at h2
  rw [Bool.and_eq_true] at h2
  refine ⟨fun hc => Or.inr ?_, Or.inr h2.1⟩
  have h3 := h2.2
  rw [if_neg (by simp [hc])] at h3
  simp only [Bool.and_eq_true] at h3
  exact h3.1.2

theorem thruSpec {w : World} {b0 o0 c0 b1 o1 c1 ga ca gs cs : Nat} {ao4 : Option Addr} {n4 c4 : Nat} {B : List Bool} {C : List LIns} {s slots : Nat} {R : List LRow} {F : List LFact} {st : LPlace → Nat} (h : FWorld w s slots F ga gs st) (hmay : placeMayB B C s slots R = true) :
    ThruSpec w F C R [.slice (some ⟨b0, o0, none⟩) B.length c0, .slice (some ⟨b1, o1, none⟩) C.length c1, .slice (some ⟨ga, 0, none⟩) F.length ca, .slice (some ⟨gs, 0, none⟩) 4 cs, .slice ao4 n4 c4] := by
  unfold placeMayB at hmay
  simp only [Bool.and_eq_true, Bool.not_eq_true', decide_eq_true_eq, decide_eq_false_iff_not, List.all_eq_true, List.mem_range] at hmay
  intro wx k sv S bao bcap aao acap hb hk hS hl hB hA
  have hrow := hmay.2 k hk
  unfold rowB at hrow
  simp only [Bool.and_eq_true] at hrow
  obtain ⟨⟨⟨⟨⟨rd, ra⟩, rb⟩, rbef⟩, raft⟩, _⟩ := hrow
  have hw := h.later hb
  refine through8 _ _ _ _ _ _ ga ca gs cs ao4 n4 c4 s slots F sv S (C.getD k .zero) (R.getD k .zero) bao bcap aao acap wx (moveSpec hw) (insSpec hw (fun hg => ?_)) (findSpec hw) hS hl hw.facts.len (hB.later hb) (hA.later hb) (moves_place rbef) (moves_place raft) (fun hp => ?_) (fun hp => ?_)
  · unfold fieldP at rd
    rw [if_pos hg] at rd
    exact (reg_is rd).1
  · unfold fieldP at ra
    rw [if_pos (by simpa using hp)] at ra
    exact Or.inr (reg_is ra).1
  · unfold fieldP at rb
    rw [if_pos (by simpa using hp)] at rb
    exact Or.inr (reg_is rb).1

end Go.Proofs.YtcmnmogmdhofcabGreat.form

/- Whether places are taken (loanbookref8.Takes), out of the contract of loanbookref8.Of. -/
namespace Go.Proofs.YtcmnmogmdhofcabGreat.form
open Go.RowKit Go.Proofs.YtcmnmogmdhofcabGreat.num
set_option linter.unusedVariables false

set_option maxRecDepth 100000 in
theorem takes8_yes (b0 o0 c0 b1 o1 c1 b2 o2 c2 : Nat) (B : List Bool) (C : List LIns) (s slots : Nat) (R : List LRow) (w : World) (h : Held w b0 o0 b1 o1 B C) (hr : RowsHeld w b2 o2 R) (hn : ∀ i, i < C.length → 0 ≤ (C.getD i .zero).n ∧ (C.getD i .zero).n < 4294967296) (hRl : R.length ≤ 9223372036854775807)
    (hmay : placeMayB B C s slots R = true) (hOF : OfSpec w b0 o0 c0 b1 o1 c1 B C s slots) :
    Calls Tryz.prog 7 #[progV b0 o0 B.length c0 b1 o1 C.length c1, targetV s, .agg #[.int .i64 slots, .slice (some ⟨b2, o2, none⟩) R.length c2]] w fun e w' => TakesAns B C s slots R e ∧ Below w.heap.size w w' := by
  have hm2 := hmay
  unfold placeMayB at hm2
  simp only [Bool.and_eq_true, Bool.not_eq_true', decide_eq_true_eq, decide_eq_false_iff_not, List.all_eq_true, List.mem_range] at hm2
  obtain ⟨⟨⟨⟨⟨h1, h2⟩, h3⟩, h4⟩, h5⟩, h6⟩ := hm2
  have hs := target_of h2
  have hsz : sizesB B C = true := by unfold refMayB at h1; simp only [Bool.and_eq_true] at h1; exact h1.1
  obtain ⟨s1, s2, s3, s4⟩ := sizes_of hsz
  have HM : Hid (∀ wx : World, Below w.heap.size w wx → Calls Tryz.prog 8 #[.agg #[.slice (some ⟨b0, o0, none⟩) B.length c0, .slice (some ⟨b1, o1, none⟩) C.length c1], .agg #[.int .i64 s], .agg #[.int .i64 slots, .slice (some ⟨b2, o2, none⟩) R.length c2]] wx fun e w' => e = .returned (.bool true) ∧ Below wx.heap.size wx w') := fun wx hb => by
    have := may6 (progV b0 o0 B.length c0 b1 o1 C.length c1) (.agg #[.int .i64 slots, .slice (some ⟨b2, o2, none⟩) R.length c2]) B C s slots R wx ⟨⟨_, _, _, _, rfl, fun _ _ => ⟨b0, o0, b1, o1, rfl, rfl, h.later hb⟩⟩, by omega, by omega, hn⟩ ⟨_, _, rfl, hRl, fun _ => ⟨b2, o2, rfl, hr.later hb⟩⟩
    rw [hmay] at this
    exact this
  have HSE : Hid (∀ (wx : World) (ga ca gs cs : Nat) (ao4 : Option Addr) (n4 c4 : Nat) (st : LPlace → Nat), Below w.heap.size w wx → FWorld wx s slots (allF B (numsL C) s slots) ga gs st → Calls Tryz.prog 19 #[.agg #[.slice (some ⟨b0, o0, none⟩) B.length c0, .slice (some ⟨b1, o1, none⟩) C.length c1, .slice (some ⟨ga, 0, none⟩) (allF B (numsL C) s slots).length ca, .slice (some ⟨gs, 0, none⟩) 4 cs, .slice ao4 n4 c4], .agg #[.int .i64 slots, .slice (some ⟨b2, o2, none⟩) R.length c2]] wx fun e w' => SetsAns B C s slots R (allF B (numsL C) s slots) e w' ∧ Below wx.heap.size wx w') :=
    fun wx ga ca gs cs ao4 n4 c4 st hb hf => sets8 b0 o0 c0 b1 o1 c1 ga ca gs cs ao4 n4 c4 b2 o2 c2 B C s slots R _ wx (h.later hb) (hr.later hb) h5 s4 s3 (all_insOk h1 hn) hf.facts (all_sorted (nums_sorted C) s slots) (all_ok (by omega) (by omega)) (thruSpec hf hmay)
  have HOF : Hid (OfSpec w b0 o0 c0 b1 o1 c1 B C s slots) := hOF
  have HMY : Hid (placeMayB B C s slots R = true) := hmay
  have HB3 : Hid (∀ o1 o2 o3 : Obj, Below w.heap.size w (((w.alloc o1).alloc o2).alloc o3)) := fun o1 o2 o3 => (((Below.refl _ _).alloc (Nat.le_refl _) _).alloc (by simp) _).alloc (by simp; omega) _
  clear h hr hn hRl hmay hOF h1 h2 h3 h4 h5 h6 hs hsz s1 s2 s3 s4
  unfold progV targetV
  go_enter Tryz.func7, Tryz.ntmps7
  go_wp2_with (first
    | (go_at_call 8; refine (HM.out _ (HB3.out _ _ _)).mono ?_; rintro e w1 ⟨rfl, hb1⟩; have HB1 : Hid (Below w.heap.size w w1) := step_below hb1 (HB3.out _ _ _); have p0 : w1.cell? ⟨w.heap.size, 0, none⟩ = some (.slice (some ⟨b0, o0, none⟩) B.length c0) := step_cell hb1 (by simp [go_sem]); have p1 : w1.cell? ⟨w.heap.size, 1, none⟩ = some (.slice (some ⟨b1, o1, none⟩) C.length c1) := step_cell hb1 (by simp [go_sem]); have q0 : w1.cell? ⟨w.heap.size + 1, 0, none⟩ = some (.int .i64 s) := step_cell hb1 (by simp [go_sem]); have r0 : w1.cell? ⟨w.heap.size + 1 + 1, 0, none⟩ = some (.int .i64 slots) := step_cell hb1 (by simp [go_sem]); have r1 : w1.cell? ⟨w.heap.size + 1 + 1, 1, none⟩ = some (.slice (some ⟨b2, o2, none⟩) R.length c2) := step_cell hb1 (by simp [go_sem]); clear hb1)
    | (go_at_call 18; refine (HOF.out _ HB1.out).mono ?_; rintro e w2 ⟨⟨ga, ca, gs, cs, ao4, n4, c4, st, rfl, hfw⟩, hb2⟩; unfold fwV; have HFW : Hid (FWorld w2 s slots (allF B (numsL C) s slots) ga gs st) := hfw; have HB2 : Hid (Below w.heap.size w w2) := step_below hb2 HB1.out; have r0' := step_cell hb2 r0; have r1' := step_cell hb2 r1; have zz : w.heap.size + 1 + 1 < w2.heap.size := World.block_lt_of_cell? w2 _ r0'; clear hb2 hfw)
    | (go_at_call 19; refine (HSE.out _ ga ca gs cs ao4 n4 c4 st (step_below ((Below.refl _ _).alloc (Nat.le_refl _) _) HB2.out) (HFW.out.later ((Below.refl _ _).alloc (Nat.le_refl _) _))).mono ?_; rintro e w3 ⟨⟨T, Cb, rb, come, L, t, rfl, -, -, -, hfin⟩, hb3⟩; have HFI : Hid (FinK B C s slots R (allF B (numsL C) s slots) come L t) := hfin; have HB3' : Hid (Below w.heap.size w w3) := step_below hb3 (step_below ((Below.refl _ _).alloc (Nat.le_refl _) _) HB2.out); clear hb3 hfin))
  go_ret
  exact ⟨⟨t, rfl, HFI.out.2.2.trans ⟨fun h => ⟨HMY.out, h⟩, fun h => h.2⟩⟩, HB3'.out⟩

end Go.Proofs.YtcmnmogmdhofcabGreat.form

/- Whether places are taken (loanbookref8.Takes): where they may not be. -/
namespace Go.Proofs.YtcmnmogmdhofcabGreat.form
open Go.RowKit Go.Proofs.YtcmnmogmdhofcabGreat.num
set_option linter.unusedVariables false
attribute [local go_sem ↓] Go.wp_at_zero Go.wp_at_succ

set_option maxRecDepth 100000 in
theorem takes8_no (pv lv : Value) (B : List Bool) (C : List LIns) (s slots : Int) (R : List LRow) (w : World) (hp : ProgIs w pv B C) (hl : PlacedIs w lv slots R) (hmay : placeMayB B C s slots R = false) :
    Calls Tryz.prog 7 #[pv, targetV s, lv] w fun e w' => e = .returned (.bool false) ∧ Below w.heap.size w w' := by
  have HP : Hid (ProgIs w pv B C) := hp
  have HL : Hid (PlacedIs w lv slots R) := hl
  obtain ⟨⟨ao0, c0, ao1, c1, rfl, -⟩, -⟩ := hp
  obtain ⟨ao2, c2, rfl, -⟩ := hl
  have HM : Hid (∀ wx : World, Below w.heap.size w wx → Calls Tryz.prog 8 #[.agg #[.slice ao0 B.length c0, .slice ao1 C.length c1], .agg #[.int .i64 s], .agg #[.int .i64 slots, .slice ao2 R.length c2]] wx fun e w' => e = .returned (.bool false) ∧ Below wx.heap.size wx w') := fun wx hb => by
    have := may6 _ _ B C s slots R wx (HP.out.later hb) (HL.out.later hb)
    rw [hmay] at this
    exact this
  have HB3 : Hid (∀ o1 o2 o3 : Obj, Below w.heap.size w (((w.alloc o1).alloc o2).alloc o3)) := fun o1 o2 o3 => (((Below.refl _ _).alloc (Nat.le_refl _) _).alloc (by simp) _).alloc (by simp; omega) _
  clear HP HL hmay
  unfold targetV
  go_enter Tryz.func7, Tryz.ntmps7
  go_wp2_with (go_at_call 8; refine (HM.out _ (HB3.out _ _ _)).mono ?_; rintro e w1 ⟨rfl, hb1⟩; have HB1 : Hid (Below w.heap.size w w1) := step_below hb1 (HB3.out _ _ _); clear hb1)
  go_ret
  exact ⟨rfl, HB1.out⟩

end Go.Proofs.YtcmnmogmdhofcabGreat.form

/- The contract of loanbookref8.Of, where the places may be; so whether places are taken (loanbookref8.Takes). -/
namespace Go.Proofs.YtcmnmogmdhofcabGreat.form
open Go.RowKit Go.Proofs.YtcmnmogmdhofcabGreat.num
set_option linter.unusedVariables false

theorem ofSpec8 {b0 o0 c0 b1 o1 c1 : Nat} {B : List Bool} {C : List LIns} {s slots : Nat} {R : List LRow} {w : World} (h : Held w b0 o0 b1 o1 B C) (hmay : placeMayB B C s slots R = true) : OfSpec w b0 o0 c0 b1 o1 c1 B C s slots := by
  intro wx hb
  have hm2 := hmay
  unfold placeMayB at hm2
  simp only [Bool.and_eq_true, Bool.not_eq_true', decide_eq_true_eq, decide_eq_false_iff_not, List.all_eq_true, List.mem_range] at hm2
  obtain ⟨⟨⟨⟨⟨h1, h2⟩, h3⟩, h4⟩, h5⟩, h6⟩ := hm2
  have hs := target_of h2
  have hsz : sizesB B C = true := by unfold refMayB at h1; simp only [Bool.and_eq_true] at h1; exact h1.1
  obtain ⟨s1, s2, s3, s4⟩ := sizes_of hsz
  exact of8 b0 o0 c0 b1 o1 c1 B C s slots wx (h.later hb) s1 s2 s4 (by omega) (by omega) (by omega) (by omega)

theorem takes8 (pv lv : Value) (B : List Bool) (C : List LIns) (s slots : Int) (R : List LRow) (w : World) (hp : ProgIs w pv B C) (hl : PlacedIs w lv slots R) :
    Calls Tryz.prog 7 #[pv, targetV s, lv] w fun e w' => TakesAns B C s slots R e ∧ Below w.heap.size w w' := by
  rcases Bool.eq_false_or_eq_true (placeMayB B C s slots R) with hmay | hmay
  case inr =>
    refine (takes8_no pv lv B C s slots R w hp hl hmay).mono ?_
    rintro e w' ⟨rfl, hb⟩
    exact ⟨⟨false, rfl, ⟨fun h => absurd h (by simp), fun h => absurd h.1 (by rw [hmay]; simp)⟩⟩, hb⟩
  have hm2 := hmay
  unfold placeMayB at hm2
  simp only [Bool.and_eq_true, Bool.not_eq_true', decide_eq_true_eq, decide_eq_false_iff_not, List.all_eq_true, List.mem_range] at hm2
  obtain ⟨⟨⟨⟨⟨h1, h2⟩, h3⟩, h4⟩, h5⟩, h6⟩ := hm2
  have hs := target_of h2
  have hsz : sizesB B C = true := by unfold refMayB at h1; simp only [Bool.and_eq_true] at h1; exact h1.1
  obtain ⟨s1, s2, s3, s4⟩ := sizes_of hsz
  obtain ⟨⟨a0, c0, a1, c1, rfl, hh⟩, l0, l1, hn⟩ := hp
  obtain ⟨b0, o0, b1, o1, rfl, rfl, hH⟩ := hh s1 s3
  obtain ⟨ao, cap, rfl, hRl, hrr⟩ := hl
  obtain ⟨b2, o2, rfl, hr⟩ := hrr (by omega)
  obtain ⟨s', rfl⟩ := Int.eq_ofNat_of_zero_le (show 0 ≤ s by omega)
  obtain ⟨slots', rfl⟩ := Int.eq_ofNat_of_zero_le (show 0 ≤ slots by omega)
  exact takes8_yes b0 o0 c0 b1 o1 c1 b2 o2 cap B C s' slots' R w hH hr hn hRl hmay (ofSpec8 hH hmay)

end Go.Proofs.YtcmnmogmdhofcabGreat.form
