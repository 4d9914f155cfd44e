/- The program's own done.Run: what is wrong, or what the machine in its places shows. -/
import Derived.Laws.BitsAllLaws
import Derived.Laws.BitsLemmas
import Derived.Deep.RegionHeld3
import Derived.BigRegion
import Derived.Test.YtikhedkhgpjaaacGreatDoorW38
import Derived.Test.YtikhedkhgpjaaacGreatDoorW37
import Derived.Test.YtikhedkhgpjaaacGreatDoorW39
import Derived.Test.YtikhedkhgpjaaacGreatDoorW16
import Derived.Test.YtikhedkhgpjaaacGreatDoorW19
import Derived.Test.YtikhedkhgpjaaacGreatDoorW01

namespace Go.Proofs.YtikhedkhgpjaaacGreatDoor
set_option linter.unusedVariables false
namespace form
open Go.RowKit num Go.Proofs.YtikhedkhgpjaaacGreatDoor.doneRuns
attribute [local go_sem ↓] Go.wp_at_zero Go.wp_at_succ
def PMac.gen (m : PMac) : GM Sto := ⟨m.pc, m.sto, m.taken, m.out, m.state, m.steps⟩
theorem genP_step (C : List LIns) (R : List LRow) (ins : List Int) (m : PMac) : (m.step C R ins).gen = m.gen.step C (fun k => placeE (R.getD k .zero)) ins := rfl
theorem genP_go (C : List LIns) (R : List LRow) (ins : List Int) : ∀ (k : Nat) (m : PMac), (PMac.go C R ins k m).gen = GM.go C (fun k => placeE (R.getD k .zero)) ins k m.gen
  | 0, m => rfl
  | k + 1, m => by
    by_cases h : m.state = 0
    · have h' : m.gen.state = 0 := h
      simp only [PMac.go, GM.go, if_pos h, if_pos h', ← genP_step]
      exact genP_go C R ins k (m.step C R ins)
    · have h' : ¬ m.gen.state = 0 := h
      rw [PMac.go_stop h, GM.go_stop h']
theorem playP_gen (C : List LIns) (R : List LRow) (ns nl : Nat) (ins : List Int) (n : Nat) : (playP C R ns nl ins n).gen = GM.go C (fun k => placeE (R.getD k .zero)) ins n (GM.start (PMac.start ns nl).sto) := genP_go C R ins n _
theorem playP_outs (C : List LIns) (R : List LRow) (ns nl : Nat) (ins : List Int) (n : Nat) : (playP C R ns nl ins n).out.length ≤ n := by
  have h1 := ggo_outs C (fun k => placeE (R.getD k .zero)) ins n (GM.start (PMac.start ns nl).sto)
  rw [← playP_gen] at h1
  simpa [GM.start, PMac.gen] using h1
theorem move_is {ns nl : Nat} {m : LMove} (hm : moveB ns nl m = true) (hn : 0 ≤ m.n ∧ m.n < 4294967296) : MoveIs ns nl m := by
  unfold moveB at hm
  rw [Bool.and_eq_true] at hm
  refine ⟨Or.inl hm.1, ?_, hn.1, hn.2⟩
  cases hc : m.cst with
  | true => have := hm.2; rw [if_pos hc] at this; simp at this; exact Or.inr this.1
  | false => have := hm.2; rw [hc] at this; simp at this; exact Or.inl this.1.2
structure RowIs (ns nl : Nat) (i : LIns) (r : LRow) : Prop where
  d : PlIs ns nl r.dest
  a : PlIs ns nl r.a
  b : PlIs ns nl r.b
  b6 : r.before.length ≤ 6
  a6 : r.after.length ≤ 6
  bm : ∀ x, x ∈ r.before → MoveIs ns nl x
  am : ∀ x, x ∈ r.after → MoveIs ns nl x
  pair : i.op = 5 → r.a.kind = 1
theorem row_is {B : List Bool} {nC ns nl : Nat} {i : LIns} {r : LRow} (h : rowB B ns nl i r = true) (hins : insB B nC i = true) (hn : ∀ x, x ∈ r.before ∨ x ∈ r.after → 0 ≤ x.n ∧ x.n < 4294967296) : RowIs ns nl i r := by
  unfold rowB at h
  simp only [Bool.and_eq_true] at h
  obtain ⟨⟨⟨⟨⟨h1, h2⟩, h3⟩, h4⟩, h5⟩, -⟩ := h
  unfold movesB at h4 h5
  simp only [Bool.and_eq_true, decide_eq_true_eq] at h4 h5
  refine ⟨field_is h1, field_is h2, field_is h3, h4.1, h5.1, fun x hx => move_is (List.all_eq_true.1 h4.2 x hx) (hn x (Or.inl hx)), fun x hx => move_is (List.all_eq_true.1 h5.2 x hx) (hn x (Or.inr hx)), fun ho => ?_⟩
  have hw := widths_of hins
  unfold widthsB at hw
  rw [if_neg (by omega), if_pos ho] at hw
  have hg : givesB i.op = true := by unfold givesB; simp [ho]
  have hm : manyI i.op = 2 := by unfold manyI; rw [if_neg (by omega), if_neg (by omega)]
  simp [wl, wl0, wl1, hg, hm, bw] at hw
  unfold fieldP at h2
  rw [hm, if_pos (by decide)] at h2
  unfold regB at h2
  rw [Bool.and_eq_true] at h2
  have h6 := h2.1
  rw [show B.getD i.a.toNat false = false by simpa [List.getD] using hw.1.2] at h6
  simpa using h6
set_option maxRecDepth 100000 in
set_option maxHeartbeats 1000000 in
theorem doneRun_no (pv lv iv : Value) (B : List Bool) (C : List LIns) (s slots : Int) (R : List LRow) (I : List Int) (steps : Int) (w : World) (hp : ProgIs w pv B C) (hl : PlacedIs w lv slots R) (hI : InArg w iv I) (hx0 : ¬ wrongP B C s slots R I.length steps = 0) :
    Calls Tryz.prog 40 #[pv, targetV s, lv, iv, .int .i64 steps] w fun e w' => (∃ sv, e = .returned (.tuple #[sv, .int .i64 (wrongP B C s slots R I.length steps)]) ∧ ShownIs w' sv (resP B C s slots R I steps).state (resP B C s slots R I steps).out (resP B C s slots R I steps).steps) ∧ Below w.heap.size w w' := by
  have h0 := hp
  obtain ⟨⟨a0, c0, a1, c1, rfl, -⟩, -, -, -⟩ := h0
  have h1 := hl
  obtain ⟨ao, cap, rfl, -, -⟩ := h1
  have HP : Hid (ProgIs w (.agg #[.slice a0 B.length c0, .slice a1 C.length c1]) B C) := hp
  have HL : Hid (PlacedIs w (.agg #[.int .i64 slots, .slice ao R.length cap]) slots R) := hl
  obtain ⟨ai, ci, rfl, -, -, -, -⟩ := hI
  have hres : resP B C s slots R I steps = ⟨0, ⟨[], []⟩, 0, [], 0, 0⟩ := by unfold resP; rw [if_neg hx0]
  rw [hres]
  obtain ⟨WA, hWA⟩ : ∃ WA, WA = (((w.alloc (.cells #[.slice a0 B.length c0, .slice a1 C.length c1] 27)).alloc (.cells #[.int .i64 s] 63)).alloc (.cells #[.int .i64 slots, .slice ao R.length cap] 98)).alloc (.cells #[.int .i64 0, .slice none 0 0, .int .i64 0] 56) := ⟨_, rfl⟩
  have HW : Hid (Below w.heap.size w WA) := by rw [hWA]; exact ((((Below.refl _ _).alloc (Nat.le_refl _) _).alloc (by simp) _).alloc (by simp; omega) _).alloc (by simp; omega) _
  have HRA : Hid (Row WA (w.heap.size + 1 + 1 + 1) 56 [.int .i64 0, .slice none 0 0, .int .i64 0]) := by
    rw [hWA]
    have := Row.new (((w.alloc (.cells #[.slice a0 B.length c0, .slice a1 C.length c1] 27)).alloc (.cells #[.int .i64 s] 63)).alloc (.cells #[.int .i64 slots, .slice ao R.length cap] 98)) 56 [.int .i64 0, .slice none 0 0, .int .i64 0]
    simp at this
    exact this
  have p0 : WA.cell? ⟨w.heap.size, 0, none⟩ = some (.slice a0 B.length c0) := by rw [hWA]; simp [go_sem]
  have p1 : WA.cell? ⟨w.heap.size, 1, none⟩ = some (.slice a1 C.length c1) := by rw [hWA]; simp [go_sem]
  have p2 : WA.cell? ⟨w.heap.size + 1, 0, none⟩ = some (.int .i64 s) := by rw [hWA]; simp [go_sem]
  have p3 : WA.cell? ⟨w.heap.size + 1 + 1, 0, none⟩ = some (.int .i64 slots) := by rw [hWA]; simp [go_sem]
  have p4 : WA.cell? ⟨w.heap.size + 1 + 1, 1, none⟩ = some (.slice ao R.length cap) := by rw [hWA]; simp [go_sem]
  have HSH : Hid (∀ w' : World, ShownIs w' (.agg #[.int .i64 0, .slice none 0 0, .int .i64 0]) 0 [] 0) := fun w' => ⟨_, rfl, none, 0, rfl, by simp, fun hh => absurd hh (by simp)⟩
  clear hres hp hl
  unfold targetV
  cases hm : placeMayB B C s slots R with
  | false =>
    have hwr : wrongP B C s slots R I.length steps = 2 := by unfold wrongP; rw [hm, if_neg (by simp)]
    rw [hwr]
    have HM : Hid (placeMayB B C s slots R = false) := hm
    clear hwr hm hx0
    go_enter Tryz.func40, Tryz.ntmps40
    go_upto_region 1 with fail
    rw [← hWA]
    clear hWA
    go_wp2_with fail
    go_at_call 69
    refine (mayO _ _ B C s slots R _ (HP.out.later HW.out) (HL.out.later HW.out)).mono ?_
    rw [HM.out]
    rintro e w1 ⟨rfl, hb1⟩
    have hr1 := HRA.out.below hb1
    have f0 := hr1.frozen 0
    have f1 := hr1.frozen 1
    have f2 := hr1.frozen 2
    have r0 := hr1.cell 0
    have r1 := hr1.cell 1
    have r2 := hr1.cell 2
    simp at r0 r1 r2
    have HR1 : Hid (Row w1 (w.heap.size + 1 + 1 + 1) 56 [.int .i64 0, .slice none 0 0, .int .i64 0]) := hr1
    have HB1 : Hid (Below w.heap.size w w1) := step_below hb1 HW.out
    clear hr1 hb1 p0 p1 p2 p3 p4
    go_wp2
    have r3 := ((HR1.out.set 0 (.int .i64 0)).set 1 (.slice none 0 0)).set 2 (.int .i64 0)
    have g0 := r3.cell 0
    have g1 := r3.cell 1
    have g2 := r3.cell 2
    simp at g0 g1 g2
    refine bodyPost_ret (v := .tuple #[.agg #[.int .i64 0, .slice none 0 0, .int .i64 0], .int .i64 2]) ?_ rfl ⟨⟨_, rfl, HSH.out _⟩, ?_⟩
    · simp [results, Tryz.results40, go_sem, g0, g1, g2]
    · exact ((HB1.out.setCell (by dsimp only; omega) _).setCell (by dsimp only; omega) _).setCell (by dsimp only; omega) _
  | true =>
    have hrm : refMayB B C = true := by unfold placeMayB at hm; simp only [Bool.and_eq_true] at hm; exact hm.1.1.1.1.1
    have hwr : wrongP B C s slots R I.length steps = wrongN I.length steps := by unfold wrongP; rw [hm, if_pos rfl, wrongN_of, hrm, if_pos rfl]
    rw [hwr] at hx0 ⊢
    have HM : Hid (placeMayB B C s slots R = true) := hm
    obtain ⟨x, hx⟩ : ∃ x, x = wrongN I.length steps := ⟨_, rfl⟩
    rw [← hx] at hx0 ⊢
    have HX : Hid (wrongN I.length steps = x) := hx.symm
    have e1 : (x != 0) = true := by simp [hx0]
    clear hwr hm hx hx0 hrm
    go_enter Tryz.func40, Tryz.ntmps40
    go_upto_region 1 with fail
    rw [← hWA]
    clear hWA
    go_wp2_with fail
    go_at_call 69
    refine (mayO _ _ B C s slots R _ (HP.out.later HW.out) (HL.out.later HW.out)).mono ?_
    rw [HM.out]
    rintro e w1 ⟨rfl, hb1⟩
    have hr1 := HRA.out.below hb1
    have f0 := hr1.frozen 0
    have f1 := hr1.frozen 1
    have f2 := hr1.frozen 2
    have r0 := hr1.cell 0
    have r1 := hr1.cell 1
    have r2 := hr1.cell 2
    simp at r0 r1 r2
    have HR1 : Hid (Row w1 (w.heap.size + 1 + 1 + 1) 56 [.int .i64 0, .slice none 0 0, .int .i64 0]) := hr1
    have HB1 : Hid (Below w.heap.size w w1) := step_below hb1 HW.out
    clear hr1 hb1 p0 p1 p2 p3 p4
    go_wp2_with (go_at_call 34; refine (wrongO _ _ _ _ _).mono ?_; rw [HX.out]; rintro e w2 ⟨rfl, hw2⟩; obtain rfl := hw2.symm)
    have r3 := ((HR1.out.set 0 (.int .i64 0)).set 1 (.slice none 0 0)).set 2 (.int .i64 0)
    have g0 := r3.cell 0
    have g1 := r3.cell 1
    have g2 := r3.cell 2
    simp at g0 g1 g2
    refine bodyPost_ret (v := .tuple #[.agg #[.int .i64 0, .slice none 0 0, .int .i64 0], .int .i64 x]) ?_ rfl ⟨⟨_, rfl, HSH.out _⟩, ?_⟩
    · simp [results, Tryz.results40, go_sem, g0, g1, g2]
    · exact ((HB1.out.setCell (by dsimp only; omega) _).setCell (by dsimp only; omega) _).setCell (by dsimp only; omega) _
end form
/- The program's own done.Run, where nothing is wrong: it shows what the machine in its places shows. -/
namespace form
open Go.RowKit num Go.Proofs.YtikhedkhgpjaaacGreatDoor.doneRuns
attribute [local go_sem ↓] Go.wp_at_zero Go.wp_at_succ
theorem stoE_start (ns nl : Nat) (h1 : ns ≤ 16) (h2 : nl ≤ 12) : stoE (PMac.start ns nl).sto = List.replicate 16 (.int .u32 0) ++ List.replicate 12 (.int .u64 0) := by
  show (padL 16 (List.replicate ns 0)).map (Value.int .u32) ++ (padL 12 (List.replicate nl 0)).map (Value.int .u64) = _
  unfold padL
  rw [List.length_replicate, List.replicate_append_replicate, show ns + (16 - ns) = 16 by omega, List.length_replicate, List.replicate_append_replicate, show nl + (12 - nl) = 12 by omega]
  simp
set_option maxRecDepth 100000 in
set_option maxHeartbeats 4000000 in
theorem doneRun_yes (pv lv iv : Value) (B : List Bool) (C : List LIns) (s slots : Int) (R : List LRow) (I : List Int) (steps : Int) (w : World) (hp : ProgIs w pv B C) (hl : PlacedIs w lv slots R) (hR : RowsOk R) (hI : InArg w iv I) (hx : wrongP B C s slots R I.length steps = 0) :
    Calls Tryz.prog 40 #[pv, targetV s, lv, iv, .int .i64 steps] w fun e w' => (∃ sv, e = .returned (.tuple #[sv, .int .i64 (wrongP B C s slots R I.length steps)]) ∧ ShownIs w' sv (resP B C s slots R I steps).state (resP B C s slots R I steps).out (resP B C s slots R I steps).steps) ∧ Below w.heap.size w w' := by
  have h0 := hp
  obtain ⟨⟨a0, c0, a1, c1, rfl, hh⟩, -, -, hnum⟩ := h0
  have h1 := hl
  obtain ⟨ao, cap, rfl, -, hrr⟩ := h1
  have HP : Hid (ProgIs w (.agg #[.slice a0 B.length c0, .slice a1 C.length c1]) B C) := hp
  have HL : Hid (PlacedIs w (.agg #[.int .i64 slots, .slice ao R.length cap]) slots R) := hl
  have HIA : Hid (InArg w iv I) := hI
  obtain ⟨ai, ci, rfl, -, -, hib, -⟩ := hI
  have HIB : Hid (∀ j, j < I.length → 0 ≤ I.getD j 0 ∧ I.getD j 0 < 4294967296) := hib
  obtain ⟨hmay, hw0⟩ := wrongP_zero hx
  obtain ⟨hm, h40, hst0, hst1⟩ := wrong_zero hw0
  have hm2 := hmay
  unfold placeMayB at hm2
  simp only [Bool.and_eq_true, Bool.not_eq_true', decide_eq_true_eq, decide_eq_false_iff_not] at hm2
  obtain ⟨⟨⟨⟨⟨-, htg⟩, hs0⟩, hs1⟩, hlen⟩, hall⟩ := hm2
  have hsz : sizesB B C = true := by unfold refMayB at hm; simp only [Bool.and_eq_true] at hm; exact hm.1
  obtain ⟨z1, z2, z3, z4⟩ := sizes_of hsz
  obtain ⟨u1, u2, u3⟩ := target_of htg
  obtain ⟨b0, o0, b1, o1, rfl, rfl, hheld⟩ := hh z1 z3
  obtain ⟨b2, o2, rfl, hrows⟩ := hrr (by omega)
  obtain ⟨ns, rfl⟩ : ∃ ns : Nat, s = ns := Int.eq_ofNat_of_zero_le (by omega)
  obtain ⟨nl, rfl⟩ : ∃ nl : Nat, slots = nl := Int.eq_ofNat_of_zero_le (by omega)
  obtain ⟨n, rfl⟩ : ∃ n : Nat, steps = n := Int.eq_ofNat_of_zero_le hst0
  have hn3 : n ≤ 3000 := by omega
  have HHE : Hid (Held w b0 o0 b1 o1 B C) := hheld
  have HRW : Hid (RowsHeld w b2 o2 R) := hrows
  have HOK : Hid (∀ k, k < C.length → InsOk B.length C.length (C.getD k .zero)) := all_insOk hm hnum
  have hinsB : ∀ k, k < C.length → insB B C.length (C.getD k .zero) = true := by
    intro k hk
    unfold refMayB at hm
    simp only [Bool.and_eq_true] at hm
    exact List.all_eq_true.1 hm.2 (C.getD k .zero) (by simp [List.getD, hk])
  have HINS : Hid (∀ k, k < C.length → insB B C.length (C.getD k .zero) = true) := hinsB
  have hrb := rows_bd hR hlen
  have HRI : Hid (∀ k, k < C.length → RowIs ns nl (C.getD k .zero) (R.getD k .zero)) := fun k hk => row_is (List.all_eq_true.1 hall k (by simpa using hk)) (hinsB k hk) (hrb k hk)
  have hres : resP B C ns nl R I n = playP C R ns nl I n := by unfold resP; rw [if_pos hx]; simp
  have HMW : Hid (placeMayB B C ns nl R = true) := hmay
  have HWN : Hid (wrongN I.length n = 0) := by
    have := wrongN_of (B := B) (C := C) (nI := I.length) (steps := (n : Int))
    rw [hm, if_pos rfl, hw0] at this
    exact this.symm
  have HSA : Hid (StoAt ns nl (PMac.start ns nl).sto) := sto_start (by omega) (by omega) (by omega)
  have hsE := stoE_start ns nl (by omega) (by omega)
  rw [hres, hx]
  obtain ⟨WA, hWA⟩ : ∃ WA, WA = (((w.alloc (.cells #[.slice (some ⟨b0, o0, none⟩) B.length c0, .slice (some ⟨b1, o1, none⟩) C.length c1] 27)).alloc (.cells #[.int .i64 (ns : Int)] 63)).alloc (.cells #[.int .i64 (nl : Int), .slice (some ⟨b2, o2, none⟩) R.length cap] 98)).alloc (.cells #[.int .i64 0, .slice none 0 0, .int .i64 0] 56) := ⟨_, rfl⟩
  have HW : Hid (Below w.heap.size w WA) := by rw [hWA]; exact ((((Below.refl _ _).alloc (Nat.le_refl _) _).alloc (by simp) _).alloc (by simp; omega) _).alloc (by simp; omega) _
  have HRA : Hid (Row WA (w.heap.size + 1 + 1 + 1) 56 [.int .i64 0, .slice none 0 0, .int .i64 0]) := by
    rw [hWA]
    have := Row.new (((w.alloc (.cells #[.slice (some ⟨b0, o0, none⟩) B.length c0, .slice (some ⟨b1, o1, none⟩) C.length c1] 27)).alloc (.cells #[.int .i64 (ns : Int)] 63)).alloc (.cells #[.int .i64 (nl : Int), .slice (some ⟨b2, o2, none⟩) R.length cap] 98)) 56 [.int .i64 0, .slice none 0 0, .int .i64 0]
    simp at this
    exact this
  have p0 : WA.cell? ⟨w.heap.size, 0, none⟩ = some (.slice (some ⟨b0, o0, none⟩) B.length c0) := by rw [hWA]; simp [go_sem]
  have p1 : WA.cell? ⟨w.heap.size, 1, none⟩ = some (.slice (some ⟨b1, o1, none⟩) C.length c1) := by rw [hWA]; simp [go_sem]
  have p2 : WA.cell? ⟨w.heap.size + 1, 0, none⟩ = some (.int .i64 ns) := by rw [hWA]; simp [go_sem]
  have p3 : WA.cell? ⟨w.heap.size + 1 + 1, 0, none⟩ = some (.int .i64 nl) := by rw [hWA]; simp [go_sem]
  have p4 : WA.cell? ⟨w.heap.size + 1 + 1, 1, none⟩ = some (.slice (some ⟨b2, o2, none⟩) R.length cap) := by rw [hWA]; simp [go_sem]
  have HC1 : Hid (WA.cell? ⟨w.heap.size, 1, none⟩ = some (.slice (some ⟨b1, o1, none⟩) C.length c1)) := p1
  have HC4 : Hid (WA.cell? ⟨w.heap.size + 1 + 1, 1, none⟩ = some (.slice (some ⟨b2, o2, none⟩) R.length cap)) := p4
  have z40 : (C.length : Int) ≤ 40 := by omega
  have z3n : (n : Int) ≤ 3000 := by omega
  have zRC : (R.length : Int) = (C.length : Int) := by omega
  have hmk := fun wx => run_make_row' (P := Tryz.prog) 86 1 .nilFunc 8 Tryz.underlying86 infoFunc rfl .i64 .i64 C.length (by omega) (by omega) wx
  clear hmay hsz hheld hinsB hres hnum hh hib hx hp hl hrows hrr htg hall hm hw0 hrb hR hst0 hst1 hs0 hs1 hlen
  have HZRC : Hid ((R.length : Int) = (C.length : Int)) := zRC
  clear zRC
  unfold targetV
  go_enter Tryz.func40, Tryz.ntmps40
  go_upto_region 1 with fail
  rw [← hWA]
  clear hWA
  go_wp2_with fail
  go_at_call 69
  refine (mayO _ _ B C ns nl R _ (HP.out.later HW.out) (HL.out.later HW.out)).mono ?_
  rw [HMW.out]
  rintro e w1 ⟨rfl, hb1w⟩
  have HR1 : Hid (Row w1 (w.heap.size + 1 + 1 + 1) 56 [.int .i64 0, .slice none 0 0, .int .i64 0]) := HRA.out.below hb1w
  have HD1 : Hid (w1.cell? ⟨w.heap.size, 1, none⟩ = some (.slice (some ⟨b1, o1, none⟩) C.length c1)) := step_cell hb1w HC1.out
  have HD4 : Hid (w1.cell? ⟨w.heap.size + 1 + 1, 1, none⟩ = some (.slice (some ⟨b2, o2, none⟩) R.length cap)) := step_cell hb1w HC4.out
  have HB1 : Hid (Below w.heap.size w w1) := step_below hb1w HW.out
  clear hb1w p0 p1 p2 p3 p4
  go_wp2_with fail
  go_at_call 34
  refine (wrongO _ _ _ _ _).mono ?_
  rw [HWN.out]
  rintro e w1' ⟨rfl, hw2⟩
  obtain rfl := hw2.symm
  clear hw2
  go_wp2_with fail
  go_at_call 35
  refine (newMachine _ I _ (HIA.out.later HB1.out) h40).mono ?_
  rintro e w2 ⟨mb, iv', rfl, hm1, hm2, hrow, hnew, hb2⟩
  have cp2 := step_cell hb2 HD1.out
  have cl2 := step_cell hb2 HD4.out
  have HCL2 : Hid (w2.cell? ⟨w.heap.size + 1 + 1, 1, none⟩ = some (.slice (some ⟨b2, o2, none⟩) R.length cap)) := cl2
  have HR2 : Hid (Row w2 (w.heap.size + 1 + 1 + 1) 56 [.int .i64 0, .slice none 0 0, .int .i64 0]) := HR1.out.below hb2
  have HB2 : Hid (Below w.heap.size w w2) := step_below hb2 HB1.out
  have HROW : Hid (Row w2 mb 95 (macV 0 0 0 (.slice none 0 0) iv')) := hrow
  have HNEW : Hid (InNew w2 mb iv' I) := hnew
  have hz2 : w.heap.size + 1 + 1 + 1 < w2.heap.size := HR2.out.lt
  have q0 : w.heap.size < w2.heap.size := by omega
  have q1 : w.heap.size < w2.heap.size + 1 := by omega
  have hmlt : mb < w2.heap.size := by omega
  have hmge : w.heap.size ≤ mb := by have := HB1.out.size; omega
  have hmge3 : w.heap.size + 1 + 1 + 1 < mb := Nat.lt_of_lt_of_le HR1.out.lt hm1
  clear hrow hnew hb2 hm2 cl2 hm1
  obtain ⟨W0, hW0⟩ : ∃ W0, W0 = w2.alloc (.cells #[.int .u32 0, .int .u32 0, .int .u32 0, .int .u32 0, .int .u32 0, .int .u32 0, .int .u32 0, .int .u32 0, .int .u32 0, .int .u32 0, .int .u32 0, .int .u32 0, .int .u32 0, .int .u32 0, .int .u32 0, .int .u32 0, .int .u64 0, .int .u64 0, .int .u64 0, .int .u64 0, .int .u64 0, .int .u64 0, .int .u64 0, .int .u64 0, .int .u64 0, .int .u64 0, .int .u64 0, .int .u64 0] 135) := ⟨_, rfl⟩
  have hW0z : W0.heap.size = w2.heap.size + 1 := by rw [hW0]; simp
  have HBW0 : Hid (Below w2.heap.size w2 W0) := by rw [hW0]; exact (Below.refl _ _).alloc (Nat.le_refl _) _
  have HSTO : Hid (Row W0 w2.heap.size (stoK ns nl).T ((stoK ns nl).enc (PMac.start ns nl).sto)) := by
    show Row W0 w2.heap.size 135 (stoE (PMac.start ns nl).sto)
    rw [hsE, hW0]
    exact Row.new w2 _ _
  have HD0 : Hid (DeedsS (stoK ns nl) W0 mb w2.heap.size C (fun k => placeE (R.getD k .zero)) 0 (List.replicate C.length .nilFunc) (W0.alloc (.cells (madeCells #[Value.nilFunc] C.length) 1))) := deeds_start _ _ _ _ _ _
  clear hsE
  go_wp2
  rw [← hW0]
  go_loopw [43] (fun t wr => ∃ (k : Nat) (cs : List Value), k ≤ C.length ∧ t = .int .i64 k ∧ DeedsS (stoK ns nl) W0 mb w2.heap.size C (fun k => placeE (R.getD k .zero)) k cs wr) (fun t _ => C.length - (intOf t).toNat)
  case atStart => exact ⟨0, _, by omega, rfl, HD0.out⟩
  case round =>
    obtain ⟨k, cs, hk, rfl, hds⟩ := hrel
    have HD : Hid (DeedsS (stoK ns nl) W0 mb w2.heap.size C (fun k => placeE (R.getD k .zero)) k cs wr) := hds
    have hBz := hds.bel.size
    have HBR : Hid (Below w.heap.size w wr) := step_below hds.bel (step_below HBW0.out HB2.out)
    by_cases hlt : k < C.length
    case neg =>
      obtain rfl : k = C.length := by omega
      have y9 : ¬ (C.length : Int) < (C.length : Int) := by omega
      clear hds
      have hmsw : MS (stoK ns nl) mb w2.heap.size wr.heap.size (PMac.start ns nl).sto (.slice none 0 0) [] 0 0 iv' I 0 wr :=
        start_ms HROW.out HNEW.out (step_below HD.out.bel HBW0.out) (HSTO.out.below HD.out.bel) HSA.out h40 HIB.out hmlt (by omega) (Nat.le_refl _)
      have HMSW : Hid _ := hmsw
      have HR3 : Hid (Row wr (w.heap.size + 1 + 1 + 1) 56 [.int .i64 0, .slice none 0 0, .int .i64 0]) := HR2.out.below (step_below HD.out.bel HBW0.out)
      have HGO : Hid (Calls Tryz.prog 38 #[.pointer (some ⟨mb, 0, none⟩), .slice (some ⟨w2.heap.size + 1, 0, none⟩) C.length C.length, .int .i64 n] wr fun e w' =>
          e = .returned (.tuple #[]) ∧ Stopped (stoK ns nl) mb w2.heap.size wr.heap.size (playP C R ns nl I n).gen wr w') := by
        show Calls _ _ _ _ _
        rw [playP_gen, ← hW0z]
        refine goOn (stoK ns nl) (fun _ => True) mb w2.heap.size W0.heap.size n B.length C (fun k => placeE (R.getD k .zero)) I (PMac.start ns nl).sto cs _ _ wr z3 z4 (by omega) HOK.out HIB.out (fun j hj s x h1 h2 h3 h4 => trivial) (fun j hj h5 s h1 h2 => ?_) trivial HD.out.row HD.out.len HD.out.spec HD.out.row.lt (by omega) (by omega) HMSW.out
        have hri := HRI.out j hj
        have hst : StoAt ns nl (movesP s (R.getD j .zero).before) := moves_at h2 hri.bm
        show getP (movesP s (R.getD j .zero).before) (R.getD j .zero).a < 4294967296
        rw [get_one (hri.pair h5)]
        exact (hst.ok.s0 _).2
      clear hmsw
      go_wp2_with fail
      go_at_call 38
      refine Calls.mono HGO.out ?_
      rintro e w3 ⟨rfl, ⟨ts, ov, iv3, I3, pc3, hms3⟩, hran⟩
      have hms4 : MS (stoK ns nl) mb w2.heap.size wr.heap.size ts ov (playP C R ns nl I n).out (playP C R ns nl I n).state (playP C R ns nl I n).steps iv3 I3 pc3 w3 := hms3
      clear hms3
      obtain ⟨ao3, cap3, hov, hcells⟩ := own_form32 hms4.own
      subst hov
      have m0 := hms4.cst
      have m1 := hms4.cov
      have m2 := hms4.ck
      have hr3 : Row w3 (w.heap.size + 1 + 1 + 1) 56 [.int .i64 0, .slice none 0 0, .int .i64 0] := by
        have := HR3.out
        unfold Row at *
        rw [hran.block _ (by omega) (by omega) (by omega)]
        exact this
      have HRS : Hid (Row w3 (w.heap.size + 1 + 1 + 1) 56 [.int .i64 0, .slice none 0 0, .int .i64 0]) := hr3
      have f0 := hr3.frozen 0
      have f1 := hr3.frozen 1
      have f2 := hr3.frozen 2
      have r0 := hr3.cell 0
      have r1 := hr3.cell 1
      have r2 := hr3.cell 2
      simp at r0 r1 r2
      have hbw3 : Below w.heap.size w w3 := HBR.out.trans ⟨hran.os, hran.tape, hran.output, hran.size, fun j hj => hran.block j (by have := HBR.out.size; omega) (by omega) (by omega)⟩
      have HBW3 : Hid (Below w.heap.size w w3) := hbw3
      have HCE : Hid _ := hcells
      have HML : Hid ((playP C R ns nl I n).out.length ≤ 1000000) := by
        have := playP_outs C R ns nl I n
        show _ ≤ _
        omega
      have HLE : Hid (w.heap.size + 1 + 1 + 1 < wr.heap.size) := HR3.out.lt
      clear hcells hbw3 hr3 hms4 hran
      generalize hM : playP C R ns nl I n = M at m0 m1 m2 HCE HML
      have HM : Hid (playP C R ns nl I n = M) := hM
      clear hM
      go_wp2
      have rr := ((HRS.out.set 0 (.int .i64 M.state)).set 1 (.slice ao3 M.out.length cap3)).set 2 (.int .i64 M.steps)
      have g0 := rr.cell 0
      have g1 := rr.cell 1
      have g2 := rr.cell 2
      simp at g0 g1 g2
      refine bodyPost_ret (v := .tuple #[.agg #[.int .i64 M.state, .slice ao3 M.out.length cap3, .int .i64 M.steps], .int .i64 0]) ?_ rfl ⟨⟨_, rfl, ?_⟩, ?_⟩
      · simp [results, Tryz.results40, go_sem, g0, g1, g2]
      · rw [HM.out]
        refine ⟨_, rfl, ao3, cap3, rfl, HML.out, fun hp => ?_⟩
        obtain ⟨gb, go, e, hgb, hgl, hgc⟩ := HCE.out hp
        refine ⟨gb, go, e, by simpa [World.setCell] using hgl, fun j hj => ?_⟩
        have hne : gb ≠ w.heap.size + 1 + 1 + 1 := by have := HLE.out; omega
        exact cell_other (cell_other (cell_other (hgc j hj) hne) hne) hne
      · exact ((HBW3.out.setCell (by dsimp only; omega) _).setCell (by dsimp only; omega) _).setCell (by dsimp only; omega) _
    obtain ⟨d0, d1, d2, d3, d4, d5⟩ := (HHE.out.later HBR.out).code k hlt
    have hrkl : k < R.length := by have := HZRC.out; omega
    obtain ⟨t0, t1, t2, t3, t4, t5, vb, va, t6, t7, hvb, hva⟩ := (HRW.out.later HBR.out).rows k hrkl
    obtain ⟨-, -, -, -, -, -, vb', va', t6', t7', hvbO, hvaO⟩ := HRW.out.rows k hrkl
    have e6 : vb' = vb := by have := step_cell HBR.out t6'; rw [t6] at this; injection this with this; exact this.symm
    have e7 : va' = va := by have := step_cell HBR.out t7'; rw [t7] at this; injection this with this; exact this.symm
    subst e6 e7
    have hio := HOK.out k hlt
    have hiu := known_of (HINS.out k hlt)
    have hri := HRI.out k hlt
    have HVB : Hid (MovesIs w vb' (R.getD k .zero).before) := hvbO
    have HVA : Hid (MovesIs w va' (R.getD k .zero).after) := hvaO
    obtain ⟨ab, cb, rfl, -, -⟩ := hvbO
    obtain ⟨aa, ca, rfl, -, -⟩ := hvaO
    obtain ⟨i, hi⟩ : ∃ i, i = C.getD k .zero := ⟨_, rfl⟩
    obtain ⟨r, hr⟩ : ∃ r, r = R.getD k .zero := ⟨_, rfl⟩
    rw [← hi] at d0 d1 d2 d3 d4 d5 hio hiu hri
    rw [← hr] at t0 t1 t2 t3 t4 t5 t6 t7 hri HVB HVA
    have HI : Hid (i = C.getD k .zero) := hi
    have HR : Hid (r = R.getD k .zero) := hr
    have HIO : Hid (InsOk B.length C.length i) := hio
    have HIU : Hid (10 < i.op → 21 ≤ i.op) := hiu
    have HRI2 : Hid (RowIs ns nl i r) := hri
    have HV1 : Hid (MvsAt ns nl w (.slice ab r.before.length cb) r.before) := ⟨HVB.out, hri.b6, hri.bm⟩
    have HV2 : Hid (MvsAt ns nl w (.slice aa r.after.length ca) r.after) := ⟨HVA.out, hri.a6, hri.am⟩
    have y1 : (k : Int) < (C.length : Int) := by omega
    have y1R : (k : Int) < (R.length : Int) := by omega
    have y2R : (R.length : Int) ≤ 40 := by have := HZRC.out; omega
    have hrl := hds.row.lt
    have hln := hds.len
    have y3 : w2.heap.size + 1 ≠ wr.heap.size := by omega
    have y5 : w2.heap.size + 1 ≠ wr.heap.size + 1 := by omega
    have y4 : w2.heap.size + 1 < wr.heap.size := by omega
    have y6 : w.heap.size + 1 + 1 < wr.heap.size := by omega
    have y7 : w.heap.size + 1 + 1 < wr.heap.size + 1 := by omega
    have y8 : b2 < wr.heap.size := (HRW.out.later HBR.out).lt
    have y8' : b2 < wr.heap.size + 1 := by omega
    have cl := step_cell (step_below hds.bel HBW0.out) HCL2.out
    clear hi hr hio hiu hds hBz hri hvb hva t6' t7'
    go_wp2
    obtain ⟨WB, hWB⟩ : ∃ WB, WB = (wr.alloc (.cells #[.int .i64 i.op, .int .i64 i.dest, .int .i64 i.a, .int .i64 i.b, .int .i64 i.c, .int .u32 i.n] 74)).alloc (.cells #[.int .i64 r.dest.kind, .int .i64 r.dest.n, .int .i64 r.a.kind, .int .i64 r.a.n, .int .i64 r.b.kind, .int .i64 r.b.n, .slice ab r.before.length cb, .slice aa r.after.length ca] 140) := ⟨_, rfl⟩
    have HAB : Hid (Below wr.heap.size wr WB) := by rw [hWB]; exact ((Below.refl _ _).alloc (Nat.le_refl _) _).alloc (by simp) _
    have i0 : WB.cell? ⟨wr.heap.size, 0, none⟩ = some (.int .i64 i.op) := by rw [hWB]; simp [go_sem]
    have i1 : WB.cell? ⟨wr.heap.size, 1, none⟩ = some (.int .i64 i.dest) := by rw [hWB]; simp [go_sem]
    have i2 : WB.cell? ⟨wr.heap.size, 2, none⟩ = some (.int .i64 i.a) := by rw [hWB]; simp [go_sem]
    have i3 : WB.cell? ⟨wr.heap.size, 3, none⟩ = some (.int .i64 i.b) := by rw [hWB]; simp [go_sem]
    have i4 : WB.cell? ⟨wr.heap.size, 4, none⟩ = some (.int .i64 i.c) := by rw [hWB]; simp [go_sem]
    have i5 : WB.cell? ⟨wr.heap.size, 5, none⟩ = some (.int .u32 i.n) := by rw [hWB]; simp [go_sem]
    have i6 : WB.cell? ⟨wr.heap.size + 1, 0, none⟩ = some (.int .i64 r.dest.kind) := by rw [hWB]; simp [go_sem]
    have i7 : WB.cell? ⟨wr.heap.size + 1, 1, none⟩ = some (.int .i64 r.dest.n) := by rw [hWB]; simp [go_sem]
    have i8 : WB.cell? ⟨wr.heap.size + 1, 2, none⟩ = some (.int .i64 r.a.kind) := by rw [hWB]; simp [go_sem]
    have i9 : WB.cell? ⟨wr.heap.size + 1, 3, none⟩ = some (.int .i64 r.a.n) := by rw [hWB]; simp [go_sem]
    have i10 : WB.cell? ⟨wr.heap.size + 1, 4, none⟩ = some (.int .i64 r.b.kind) := by rw [hWB]; simp [go_sem]
    have i11 : WB.cell? ⟨wr.heap.size + 1, 5, none⟩ = some (.int .i64 r.b.n) := by rw [hWB]; simp [go_sem]
    have i12 : WB.cell? ⟨wr.heap.size + 1, 6, none⟩ = some (.slice ab r.before.length cb) := by rw [hWB]; simp [go_sem]
    have i13 : WB.cell? ⟨wr.heap.size + 1, 7, none⟩ = some (.slice aa r.after.length ca) := by rw [hWB]; simp [go_sem]
    have hWBz : WB.heap.size = wr.heap.size + 2 := by rw [hWB]; simp
    rw [← hWB]
    clear hWB d0 d1 d2 d3 d4 d5 t0 t1 t2 t3 t4 t5 t6 t7 cl
    go_region_held3 (fun w' => w'.cell? ⟨wr.heap.size, 0, none⟩ = some (.int .i64 i.op) ∧ w'.cell? ⟨wr.heap.size, 1, none⟩ = some (.int .i64 i.dest) ∧ w'.cell? ⟨wr.heap.size, 2, none⟩ = some (.int .i64 i.a) ∧ w'.cell? ⟨wr.heap.size, 3, none⟩ = some (.int .i64 i.b) ∧ w'.cell? ⟨wr.heap.size, 4, none⟩ = some (.int .i64 i.c) ∧ w'.cell? ⟨wr.heap.size, 5, none⟩ = some (.int .u32 i.n) ∧ w'.cell? ⟨wr.heap.size + 1, 0, none⟩ = some (.int .i64 r.dest.kind) ∧ w'.cell? ⟨wr.heap.size + 1, 1, none⟩ = some (.int .i64 r.dest.n) ∧ w'.cell? ⟨wr.heap.size + 1, 2, none⟩ = some (.int .i64 r.a.kind) ∧ w'.cell? ⟨wr.heap.size + 1, 3, none⟩ = some (.int .i64 r.a.n) ∧ w'.cell? ⟨wr.heap.size + 1, 4, none⟩ = some (.int .i64 r.b.kind) ∧ w'.cell? ⟨wr.heap.size + 1, 5, none⟩ = some (.int .i64 r.b.n) ∧ w'.cell? ⟨wr.heap.size + 1, 6, none⟩ = some (.slice ab r.before.length cb) ∧ w'.cell? ⟨wr.heap.size + 1, 7, none⟩ = some (.slice aa r.after.length ca))
      ((go_split_ands; refine ⟨?_, ?_, ?_, ?_, ?_, ?_, ?_, ?_, ?_, ?_, ?_, ?_, ?_, ?_⟩ <;> first | assumption | exact step_cell hbc (by assumption) | exact cell_other (by assumption) (Ne.symm y3) | exact cell_other (by assumption) (Ne.symm y5) | (go_keep; done)))
      (first
        | (go_at_call 70; refine (between F caps w _ HDS.out (by omega) (by omega) (by omega) HV1.out HV2.out HOD.out (by omega) (by omega) (by omega)).mono ?_; rintro e wc ⟨⟨F2, caps2, rfl, hds⟩, hbc⟩; have HDZ : Hid _ := hds; have HBC : Hid (Below wb.heap.size wb wc) := hbc; have hrc : Row wc (w2.heap.size + 1) 1 cs := (by rw [← hW0z]; exact (((HD.out.row.below HAB.out).below HBA.out).below HBB.out).below hbc); have fz := hrc.frozen k; have cz := hrc.cell k; rw [List.getElem?_eq_getElem (by omega)] at cz; clear hds hrc)
        | (go_at_call 36; refine (deed (mb := mb) (sb := w2.heap.size) (db := W0.heap.size) HIO.out HIU.out _ (by omega) (by omega) (by omega) HE.out).mono ?_; rintro e wb ⟨⟨F, caps, rfl, hds⟩, hbc⟩; have HDS : Hid (DeedSpec (stoK ns nl) mb w2.heap.size W0.heap.size i (rowE r) wb F caps) := hds; have HBB : Hid (Below wa.heap.size wa wb) := hbc; have hwbz := hbc.size; have HOD : Hid (Old w wb) := (fun j hj => ((step_below hbc (step_below HBA.out (step_below HAB.out HBR.out))).block j hj)); clear hds)
        | (go_at_call 71; refine (placeEnds (mb := mb) (sb := w2.heap.size) (db := W0.heap.size) (ns := ns) (nl := nl) (givesB i.op = true) _ (by simp; omega) (by simp; omega) (by simp; omega) HRI2.out.a HRI2.out.b HRI2.out.d HVB.out HVA.out).mono ?_; rintro e wa ⟨⟨x, rfl, hE⟩, hbc⟩; have HE : Hid _ := hE; have HBA : Hid (Below WB.heap.size WB wa) := (step_below hbc (Below.refl _ _).drew); have hwaz := HBA.out.size; clear hE))
    go_wp2
    have hbw : Below wr.heap.size wr wc := step_below HBC.out (step_below HBB.out (step_below HBA.out HAB.out))
    have hsp : DeedSpec (stoK ns nl) mb w2.heap.size W0.heap.size (C.getD k .zero) (placeE (R.getD k .zero)) wc F2 caps2 := by rw [← HI.out, ← HR.out]; exact HDZ.out
    have hst := deeds_step HD.out hlt hbw hsp
    rw [hW0z] at hst
    exact ⟨⟨k + 1, _, by omega, by go_num, hst⟩, by simp [intOf]; omega⟩
theorem doneO : DoneSpec := by
  intro pv lv iv B C s slots R I steps w hp hl hR hI
  by_cases hx : wrongP B C s slots R I.length steps = 0
  · exact doneRun_yes pv lv iv B C s slots R I steps w hp hl hR hI hx
  · exact doneRun_no pv lv iv B C s slots R I steps w hp hl hI hx
end form
/- The program's own writer (code.writer) in memory, and what it writes: put. -/
namespace form
open Go.RowKit
set_option maxRecDepth 100000
attribute [local go_sem ↓] Go.wp_at_zero Go.wp_at_succ
structure Wrote (xs bs : List Int) (bad : Bool) (bs' : List Int) (bad' : Bool) : Prop where
  bad : bad' = (bad || !smallB xs)
  row : bad' = false → bs' = bs ++ xs
  len : bs'.length ≤ bs.length + xs.length
theorem smallB_append (l m : List Int) : smallB (l ++ m) = (smallB l && smallB m) := by simp [smallB, List.all_append]
theorem Wrote.trans {xs ys bs bs1 bs2 : List Int} {bad bad1 bad2 : Bool} (h : Wrote xs bs bad bs1 bad1) (k : Wrote ys bs1 bad1 bs2 bad2) : Wrote (xs ++ ys) bs bad bs2 bad2 := by
  refine ⟨?_, fun e => ?_, ?_⟩
  · rw [k.bad, h.bad, smallB_append]; cases bad <;> cases smallB xs <;> simp
  · have h1 : bad1 = false := by
      have := k.bad
      rw [e] at this
      cases bad1 with
      | false => rfl
      | true => exact absurd this (by simp)
    rw [k.row e, h.row h1, List.append_assoc]
  · have := h.len; have := k.len; rw [List.length_append]; omega
theorem Wrote.stop {xs ys bs bs1 : List Int} {bad : Bool} (h : Wrote xs bs bad bs1 true) : Wrote (xs ++ ys) bs bad bs1 true := by
  refine ⟨?_, fun e => absurd e (by simp), ?_⟩
  · have := h.bad
    rw [smallB_append]
    revert this
    generalize smallB xs = p
    generalize smallB ys = q
    cases bad <;> cases p <;> cases q <;> simp
  · have := h.len; rw [List.length_append]; omega
def bV (x : Int) : Value := .int .u8 x
structure WtS (w0 : World) (base b : Nat) (bs : List Int) (bad : Bool) (v : Value) (wr : World) : Prop where
  box : Row wr b 148 [v, .bool bad]
  own : wr.ownsRow base 5 1 v bs.length (bs.map bV)
  lo : b < base
  hi : base ≤ wr.heap.size
  all : ∀ x, x ∈ bs → 0 ≤ x ∧ x ≤ 255
  bel : Below w0.heap.size w0 wr
  lo0 : w0.heap.size ≤ b
structure WtF (b : Nat) (v : Value) (w : World) (v' : Value) (w' : World) : Prop where
  os : w'.os = w.os
  tape : w'.tape = w.tape
  output : w'.output = w.output
  size : w.heap.size ≤ w'.heap.size
  block : ∀ k, k < w.heap.size → k ≠ b → v.ownBlock ≠ some k → w'.heap[k]? = w.heap[k]?
  own : ∀ k, k < w.heap.size → v'.ownBlock = some k → v.ownBlock = some k
section
variable {w0 w w1 w2 : World} {base b : Nat} {bs : List Int} {bad : Bool} {v v1 v2 : Value}
theorem WtF.refl (b : Nat) (v : Value) (w : World) : WtF b v w v w := ⟨rfl, rfl, rfl, Nat.le_refl _, fun _ _ _ _ => rfl, fun _ _ h => h⟩
theorem WtF.of_below (hb : Below w.heap.size w w1) : WtF b v w v w1 := ⟨hb.os, hb.tape, hb.output, hb.size, fun k hk _ _ => hb.block k hk, fun _ _ h => h⟩
theorem WtF.trans (h : WtF b v w v1 w1) (k : WtF b v1 w1 v2 w2) : WtF b v w v2 w2 :=
  ⟨k.os.trans h.os, k.tape.trans h.tape, k.output.trans h.output, Nat.le_trans h.size k.size,
   fun i hi h1 h2 => (k.block i (Nat.lt_of_lt_of_le hi h.size) h1 (fun e => h2 (h.own i hi e))).trans (h.block i hi h1 h2),
   fun i hi e => h.own i hi (k.own i (Nat.lt_of_lt_of_le hi h.size) e)⟩
theorem WtF.rows (h : WtF b v w v1 w1) {c : Nat} {t : TypeId} {cs : List Value} (hr : Row w c t cs) (h1 : c ≠ b) (h2 : v.ownBlock ≠ some c) : Row w1 c t cs := by
  have := hr.lt
  unfold Row at *
  rw [h.block c this h1 h2]; exact hr
theorem WtS.form (h : WtS w0 base b bs bad v w) : ∃ ao cap, v = .slice ao bs.length cap := by
  rcases h.own.2 with ⟨e, e2⟩ | ⟨g, cap, cur, e, -⟩
  · exact ⟨none, 0, by rw [e, e2]⟩
  · exact ⟨_, _, e⟩
theorem WtS.own_ge (h : WtS w0 base b bs bad v w) {k : Nat} (e : v.ownBlock = some k) : base ≤ k ∧ k < w.heap.size := World.ownsRow.lt h.own k e
theorem WtS.below (h : WtS w0 base b bs bad v w) (hb : Below w.heap.size w w1) : WtS w0 base b bs bad v w1 :=
  ⟨h.box.below hb, World.ownsRow.kept h.own ⟨hb.os, hb.tape, hb.output, hb.size, fun j hj _ => hb.block j hj⟩ (row := none) (by cases v.ownBlock <;> simp), h.lo, Nat.le_trans h.hi hb.size, h.all, step_below hb h.bel, h.lo0⟩
theorem WtS.push (h : WtS w0 base b bs bad v w) {x : Int} (hx : 0 ≤ x ∧ x ≤ 255) {g cap : Nat} (hown : w1.ownsRow base 5 1 (.slice (some ⟨g, 0, none⟩) (bs.length + 1) cap) (bs.length + 1) (bs.map bV ++ [bV x])) (hgrow : w.grownBy w1 v.ownBlock) :
    WtS w0 base b (bs ++ [x]) bad (.slice (some ⟨g, 0, none⟩) (bs.length + 1) cap) (w1.setCell ⟨b, 0, none⟩ (.slice (some ⟨g, 0, none⟩) (bs.length + 1) cap)) := by
  have hlo := h.lo
  have hlo0 := h.lo0
  have hne : some b ≠ v.ownBlock := fun e => by have := (h.own_ge e.symm).1; omega
  refine ⟨?_, ?_, hlo, ?_, ?_, ?_, hlo0⟩
  · exact (h.box.grown hgrow hne).set 0 _
  · have := ownsRow_setCell_below hown (a := ⟨b, 0, none⟩) hlo (.slice (some ⟨g, 0, none⟩) (bs.length + 1) cap)
    simpa using this
  · have := hgrow.size; have := h.hi; simp [World.setCell]; omega
  · intro y hy
    rw [List.mem_append, List.mem_singleton] at hy
    rcases hy with hy | rfl
    · exact h.all y hy
    · exact hx
  · exact (h.bel.grown hgrow (by have := h.hi; omega) (fun j hj => by have := (h.own_ge hj).1; omega)).setCell (by dsimp only; omega) _
theorem WtF.push (h : WtF b v1 w2 v w) {g n cap : Nat} (hgrow : w.grownBy w1 v.ownBlock) (hat : v.ownBlock = some g ∨ g = w.heap.size) :
    WtF b v1 w2 (.slice (some ⟨g, 0, none⟩) n cap) (w1.setCell ⟨b, 0, none⟩ (.slice (some ⟨g, 0, none⟩) n cap)) := by
  refine h.trans (v2 := .slice (some ⟨g, 0, none⟩) n cap) ⟨hgrow.os, hgrow.tape, hgrow.output, by simpa [World.setCell] using hgrow.size, fun k hk h1 h2 => ?_, fun k hk e => ?_⟩
  · rw [Below.heap_setCell _ _ _ _ h1]; exact hgrow.block k hk (fun e => h2 e.symm)
  · simp only [Value.ownBlock, Option.some.injEq] at e
    subst e
    rcases hat with hat | hat
    · exact hat
    · omega
theorem WtS.mark (h : WtS w0 base b bs bad v w) : WtS w0 base b bs true v (w.setCell ⟨b, 1, none⟩ (.bool true)) := by
  have hlo := h.lo
  have hlo0 := h.lo0
  exact ⟨h.box.set 1 _, ownsRow_setCell_below h.own (a := ⟨b, 1, none⟩) hlo _, hlo, by simpa [World.setCell] using h.hi, h.all, h.bel.setCell (by dsimp only; omega) _, hlo0⟩
theorem WtF.mark (h : WtF b v1 w2 v w) : WtF b v1 w2 v (w.setCell ⟨b, 1, none⟩ (.bool true)) :=
  h.trans ⟨rfl, rfl, rfl, by simp [World.setCell], fun k hk h1 _ => Below.heap_setCell _ _ _ _ h1, fun _ _ e => e⟩
end
theorem infB : (Tryz.prog.info? 5).map (fun i => (i.zero, i.size, i.bytes)) = some (some (.int .u8 0), 1, 1) := by kernel_rfl
theorem small_take {xs : List Int} {k : Nat} (hk : k < xs.length) : smallB (xs.take (k + 1)) = (smallB (xs.take k) && (decide (0 ≤ xs.getD k 0) && decide (xs.getD k 0 ≤ 255))) := by
  rw [List.take_succ_eq_append_getElem hk, smallB_append]
  simp [smallB, List.getD, hk]
theorem small_not {xs : List Int} {k : Nat} (hk : k < xs.length) (h : ¬ (0 ≤ xs.getD k 0 ∧ xs.getD k 0 ≤ 255)) : smallB xs = false := by
  cases hs : smallB xs with
  | false => rfl
  | true =>
    unfold smallB at hs
    rw [List.all_eq_true] at hs
    have := hs (xs.getD k 0) (by simp [List.getD, hk])
    simp only [Bool.and_eq_true, decide_eq_true_eq] at this
    exact absurd this h
def WroteP (w0 : World) (base b : Nat) (xs bs : List Int) (bad : Bool) (v : Value) (w : World) (e : Ending) (w' : World) : Prop :=
  e = .returned (.tuple #[]) ∧ ∃ bs' bad' v', WtS w0 base b bs' bad' v' w' ∧ Wrote xs bs bad bs' bad' ∧ WtF b v w v' w'
set_option maxHeartbeats 1000000 in
theorem putW {w0 : World} {base b : Nat} {bs : List Int} {bad : Bool} {v : Value} {w : World} (h : WtS w0 base b bs bad v w) (nb : Nat) (xs : List Int) (hn : Row w nb 3 (xs.map iV)) (hnb : nb ≠ b) (hnv : v.ownBlock ≠ some nb) (hl : bs.length + xs.length ≤ 1099511627776) :
    Calls Tryz.prog 115 #[.pointer (some ⟨b, 0, none⟩), .slice (some ⟨nb, 0, none⟩) xs.length xs.length] w fun e w' => WroteP w0 base b xs bs bad v w e w' := by
  have HW : Hid (WtS w0 base b bs bad v w) := h
  have HN : Hid (Row w nb 3 (xs.map iV)) := hn
  have HNV : Hid (v.ownBlock ≠ some nb) := hnv
  have HL : Hid (bs.length + xs.length ≤ 1099511627776) := hl
  have z0 : (xs.length : Int) ≤ 1099511627776 := by omega
  clear h hn hnv hl
  obtain ⟨t0', hi0, hy0, hy1, hy2⟩ := info_parts infB
  go_enter Tryz.func115, Tryz.ntmps115
  go_wp2
  go_loopg [8] (xs.length + 1) (fun gg t wr => ∃ (k : Nat) (v1 : Value), t = .int .i64 k ∧ k ≤ xs.length ∧ gg = xs.length + 1 - k ∧ WtS w0 base b (bs ++ xs.take k) bad v1 wr ∧ WtF b v w v1 wr ∧ smallB (xs.take k) = true)
  case atStart => exact ⟨0, v, rfl, by omega, by omega, by simpa using HW.out, WtF.refl _ _ _, by simp [smallB]⟩
  case round =>
    obtain ⟨k, v1, rfl, hk, hgk, hws, hwf, hsm⟩ := hrel
    have HGK : Hid (gk = xs.length + 1 - k) := hgk
    have HSM : Hid (smallB (xs.take k) = true) := hsm
    obtain ⟨cs, hcs⟩ : ∃ cs, cs = bs ++ xs.take k := ⟨_, rfl⟩
    rw [← hcs] at hws
    have hcl : cs.length = bs.length + k := by rw [hcs, List.length_append, List.length_take]; omega
    have HCS : Hid (cs = bs ++ xs.take k) := hcs
    have HCL : Hid (cs.length = bs.length + k) := hcl
    obtain ⟨ao, cap, hv1⟩ := hws.form
    subst hv1
    have HWS : Hid (WtS w0 base b cs bad (.slice ao cs.length cap) wr) := hws
    have HWF : Hid (WtF b v w (.slice ao cs.length cap) wr) := hwf
    have b0 : wr.cell? ⟨b, 0, none⟩ = some (.slice ao cs.length cap) := hws.box.cell 0
    have b1 : wr.cell? ⟨b, 1, none⟩ = some (.bool bad) := hws.box.cell 1
    have hbl : b < wr.heap.size := hws.box.lt
    have fz : ∀ j, wr.frozen? ⟨b, j, none⟩ = false := fun j => hws.box.frozen j
    clear hgk hsm hws hwf hcs hcl
    by_cases hlt : k < xs.length
    case neg =>
      have y1 : ¬ (k : Int) < (xs.length : Int) := by omega
      go_wp2
      refine bodyPost_end (results_none rfl _ _ _) rfl ?_
      have e : xs.take k = xs := List.take_of_length_le (by omega)
      have e2 := HCS.out
      rw [e] at e2
      have e3 := HSM.out
      rw [e] at e3
      exact ⟨rfl, cs, bad, _, HWS.out, ⟨by rw [e3]; simp, fun _ => e2, by rw [e2, List.length_append]; omega⟩, HWF.out⟩
    have y1 : (k : Int) < (xs.length : Int) := by omega
    have y0 : (0 : Int) ≤ (k : Int) := by omega
    have hr := HWF.out.rows HN.out hnb HNV.out
    have d0 : wr.cell? ⟨nb, k, none⟩ = some (.int .i64 (xs.getD k 0)) := by rw [hr.cell k]; simp [List.getD, hlt, iV]
    obtain ⟨x, hx⟩ : ∃ x, x = xs.getD k 0 := ⟨_, rfl⟩
    rw [← hx] at d0
    have HX : Hid (x = xs.getD k 0) := hx
    clear hx hr
    by_cases hs : 0 ≤ x ∧ x ≤ 255
    case neg =>
      have hw : Hid (WroteP w0 base b xs bs bad v w (.returned (.tuple #[])) (wr.setCell ⟨b, 1, none⟩ (.bool true))) := by
        refine ⟨rfl, cs, true, _, HWS.out.mark, ⟨?_, fun e => absurd e (by simp), ?_⟩, HWF.out.mark⟩
        · rw [small_not hlt (by rw [← HX.out]; exact hs)]; simp
        · have := HCL.out; omega
      by_cases h0 : x < 0
      · go_wp2
        refine bodyPost_ret (results_none rfl _ _ _) rfl ?_
        exact hw.out
      · have h1 : 255 < x := by omega
        go_wp2
        refine bodyPost_ret (results_none rfl _ _ _) rfl ?_
        exact hw.out
    obtain ⟨x0, x1⟩ := hs
    have x2 : ¬ x < 0 := by omega
    have x3 : ¬ 255 < x := by omega
    go_wp2_with (at_builtin; refine wpList_append_lies _ rfl _ _ 32 rfl base 5 t0' (.int .u8 0) 1 1 Tryz.underlying32 hi0 hy0 hy1 hy2 rfl (by decide) (.slice ao cs.length cap) cs.length (cs.map bV) rfl (World.ownsRow.alloc HWS.out.own _) ⟨wr.heap.size, 0, none⟩ 1 1 [bV x] rfl rfl (World.news_of_block (cs := #[.int .u8 x]) (t := 5) (fr := (0, 0)) (heap_alloc_new wr _)) (by simp [bV, Value.oneCell']) (by decide) (by have := HL.out; have := HCL.out; unfold maxLen; omega) (by have := HL.out; have := HCL.out; omega) (by have := HWS.out.hi; simp; omega) (wr.heap.size + 1) (by simp) ?c6)
    case c6 =>
      intro g2 cap2 w2 hown hgrow hat hlt2
      have hws2 := HWS.out.below ((Below.refl _ _).alloc (Nat.le_refl _) (.cells #[.int .u8 x] 5))
      have hwf2 : WtF b v w (.slice ao cs.length cap) (wr.alloc (.cells #[.int .u8 x] 5)) := HWF.out.trans (WtF.of_below ((Below.refl _ _).alloc (Nat.le_refl _) _))
      have hne : some b ≠ (Value.slice ao cs.length cap).ownBlock := fun e => by have := (HWS.out.own_ge e.symm).1; have := HWS.out.lo; omega
      have HP : Hid (WtS w0 base b (cs ++ [x]) bad (.slice (some ⟨g2, 0, none⟩) (cs.length + 1) cap2) (w2.setCell ⟨b, 0, none⟩ (.slice (some ⟨g2, 0, none⟩) (cs.length + 1) cap2))) := hws2.push ⟨x0, x1⟩ hown hgrow
      have HQ : Hid (WtF b v w (.slice (some ⟨g2, 0, none⟩) (cs.length + 1) cap2) (w2.setCell ⟨b, 0, none⟩ (.slice (some ⟨g2, 0, none⟩) (cs.length + 1) cap2))) := hwf2.push hgrow (by simpa using hat)
      have c0 : w2.cell? ⟨b, 0, none⟩ = some (.slice ao cs.length cap) := hgrow.cell (hws2.box.cell 0) hne
      have f0 : w2.frozen? ⟨b, 0, none⟩ = false := (hws2.box.grown hgrow hne).frozen 0
      clear hown hgrow hat hws2 hwf2 hne b0 b1 fz
      go_wp2
      have hgk := HGK.out
      go_roundg (gk - 1)
      case measure => omega
      case rel =>
        have e : xs.take (k + 1) = xs.take k ++ [x] := by rw [List.take_succ_eq_append_getElem hlt, HX.out]; simp [List.getD, hlt]
        refine ⟨k + 1, _, by go_num, by omega, by omega, ?_, HQ.out, ?_⟩
        · rw [e, ← List.append_assoc, ← HCS.out]; exact HP.out
        · rw [small_take hlt, HSM.out, ← HX.out]; simp [x0, x1]
end form
/- A move as bytes, the program's own (code.writer.move). -/
namespace form
open Go.RowKit
set_option maxRecDepth 100000
attribute [local go_sem ↓] Go.wp_at_zero Go.wp_at_succ
theorem flagW (c : Bool) (w : World) : Calls Tryz.prog 171 #[.bool c] w fun e w' => e = .returned (.int .i64 (bitI c)) ∧ Below w.heap.size w w' := by
  cases c
  · go_enter Tryz.func171, Tryz.ntmps171
    go_wp2
    go_ret
    exact ⟨rfl, Below.refl _ _⟩
  · go_enter Tryz.func171, Tryz.ntmps171
    go_wp2
    go_ret
    exact ⟨rfl, Below.refl _ _⟩
theorem and255 (x : Int) (h0 : 0 ≤ x) (h1 : x < 4294967296) : bits .and .u32 x 255 = x % 256 := bits_mask .u32 32 (by decide) (fun n a b => by simp [IntKind.wrap, IntKind.bits, IntKind.signed]; omega) 8 (by decide) x h0 h1
set_option maxHeartbeats 2000000 in
theorem moveW {w0 : World} {base b : Nat} {bs : List Int} {bad : Bool} {v : Value} {w : World} (h : WtS w0 base b bs bad v w) (m : LMove) (hm : 0 ≤ m.n ∧ m.n < 4294967296) (hl : bs.length + 9 ≤ 1099511627776) :
    Calls Tryz.prog 164 #[.pointer (some ⟨b, 0, none⟩), .agg #[.int .i64 m.dst.kind, .int .i64 m.dst.n, .int .i64 m.src.kind, .int .i64 m.src.n, .bool m.cst, .int .u32 m.n]] w fun e w' => WroteP w0 base b (putMove m) bs bad v w e w' := by
  have HW : Hid (WtS w0 base b bs bad v w) := h
  have HL : Hid (bs.length + 9 ≤ 1099511627776) := hl
  have hbl : b < w.heap.size := h.box.lt
  have HV : Hid (∀ k, w.heap.size ≤ k → v.ownBlock ≠ some k) := fun k hk e => by have := (h.own_ge e).2; omega
  clear h hl
  go_enter Tryz.func164, Tryz.ntmps164
  go_upto_region 1 with fail
  obtain ⟨w4, hw4⟩ : ∃ w4, w4 = w.alloc (.cells #[.int .i64 m.dst.kind, .int .i64 m.dst.n, .int .i64 m.src.kind, .int .i64 m.src.n, .bool m.cst, .int .u32 m.n] 208) := ⟨_, rfl⟩
  have HB4 : Hid (Below w.heap.size w w4) := by rw [hw4]; exact (Below.refl _ _).alloc (Nat.le_refl _) _
  have HR4 : Hid (Row w4 w.heap.size 208 [.int .i64 m.dst.kind, .int .i64 m.dst.n, .int .i64 m.src.kind, .int .i64 m.src.n, .bool m.cst, .int .u32 m.n]) := by rw [hw4]; exact Row.new _ _ _
  rw [← hw4]
  clear hw4
  obtain ⟨bx, hbx⟩ : ∃ bx, bx = w.heap.size := ⟨_, rfl⟩
  rw [← hbx] at HR4 ⊢
  have HBX : Hid (bx = w.heap.size) := hbx
  clear hbx
  refine wp_region_held_drew (S := (fun w' => Row w' bx 208 [.int .i64 m.dst.kind, .int .i64 m.dst.n, .int .i64 m.src.kind, .int .i64 m.src.n, .bool m.cst, .int .u32 m.n])) (by rfl) ?_ (fun hHeld => ?_)
  · (exact HR4.out)
  refine wpAnyH_take (i := 0) (v := ?_) rfl (by kernel_rfl) (by kernel_rfl) (by kernel_rfl) (fun _ _ _ h => h) (Or.inl ⟨by rfl, ?_⟩) (by assumption) ?_
  case refine_2 => (intro w hSw; (try dsimp only at hSw); go_simp; try with_reducible rfl)
  show wpAnyH _ _ _ _ _ _ _ (Act.put _ (some 4) _) _
  simp only [pz]
  refine wpAnyH_take (i := 1) (v := ?_) rfl (by kernel_rfl) (by kernel_rfl) (by kernel_rfl) (fun _ _ _ h => h) (Or.inl ⟨by rfl, ?_⟩) (by assumption) ?_
  case refine_2 => (intro w hSw; (try dsimp only at hSw); go_simp; try with_reducible rfl)
  show wpAnyH _ _ _ _ _ _ _ (Act.put _ (some 5) _) _
  simp only [pz]
  refine wpAnyH_take (i := 2) (v := ?_) rfl (by kernel_rfl) (by kernel_rfl) (by kernel_rfl) (fun _ _ _ h => h) (Or.inl ⟨by rfl, ?_⟩) (by assumption) ?_
  case refine_2 => (intro w hSw; (try dsimp only at hSw); go_simp; try with_reducible rfl)
  show wpAnyH _ _ _ _ _ _ _ (Act.put _ (some 6) _) _
  simp only [pz]
  refine wpAnyH_take (i := 3) (v := ?_) rfl (by kernel_rfl) (by kernel_rfl) (by kernel_rfl) (fun _ _ _ h => h) (Or.inl ⟨by rfl, ?_⟩) (by assumption) ?_
  case refine_2 => (intro w5 hSw; (try dsimp only at hSw); have q0 : w5.cell? ⟨bx, 0, none⟩ = some (.int .i64 m.dst.kind) := hSw.cell 0; have q1 : w5.cell? ⟨bx, 1, none⟩ = some (.int .i64 m.dst.n) := hSw.cell 1; have q2 : w5.cell? ⟨bx, 2, none⟩ = some (.int .i64 m.src.kind) := hSw.cell 2; have q3 : w5.cell? ⟨bx, 3, none⟩ = some (.int .i64 m.src.n) := hSw.cell 3; have q4 : w5.cell? ⟨bx, 4, none⟩ = some (.bool m.cst) := hSw.cell 4; go_simp; try with_reducible rfl)
  show wpAnyH _ _ _ _ _ _ _ (Act.put _ (some 7) _) _
  simp only [pz]
  refine wpAnyH_take (i := 4) (v := ?_) rfl (by kernel_rfl) (by kernel_rfl) (by kernel_rfl) (fun _ _ _ h => h) (Or.inl ⟨by rfl, ?_⟩) (by assumption) ?_
  case refine_2 => (intro w hSw; (try dsimp only at hSw); go_simp; try with_reducible rfl)
  show wpAnyH _ _ _ _ _ _ _ (Act.put _ (some 8) _) _
  simp only [pz]
  refine wpAnyH_take (i := 5) (v := ?_) rfl (by kernel_rfl) (by kernel_rfl) (by kernel_rfl) (fun _ _ _ h => h) (Or.inl ⟨by rfl, ?_⟩) (by assumption) ?_
  case refine_2 => (intro w hSw; (try dsimp only at hSw); go_simp; try with_reducible rfl)
  show wpAnyH _ _ _ _ _ _ _ (Act.put _ (some 9) _) _
  simp only [pz]
  refine wpAnyH_take (i := 6) (v := ?_) rfl (by kernel_rfl) (by kernel_rfl) (by kernel_rfl) (fun _ _ _ h => h) (Or.inl ⟨by rfl, ?_⟩) (by assumption) ?_
  case refine_2 => (intro w5 hSw; (try dsimp only at hSw); have q0 : w5.cell? ⟨bx, 0, none⟩ = some (.int .i64 m.dst.kind) := hSw.cell 0; have q1 : w5.cell? ⟨bx, 1, none⟩ = some (.int .i64 m.dst.n) := hSw.cell 1; have q2 : w5.cell? ⟨bx, 2, none⟩ = some (.int .i64 m.src.kind) := hSw.cell 2; have q3 : w5.cell? ⟨bx, 3, none⟩ = some (.int .i64 m.src.n) := hSw.cell 3; have q4 : w5.cell? ⟨bx, 4, none⟩ = some (.bool m.cst) := hSw.cell 4; go_simp; try with_reducible rfl)
  show wpAnyH _ _ _ _ _ _ _ (Act.put _ (some 10) _) _
  simp only [pz]
  refine wpAnyH_take (i := 7) (v := ?_) rfl (by kernel_rfl) (by kernel_rfl) (by kernel_rfl) (fun _ _ _ h => h) (Or.inl ⟨by rfl, ?_⟩) (by assumption) ?_
  case refine_2 => (intro w hSw; (try dsimp only at hSw); go_simp; try with_reducible rfl)
  show wpAnyH _ _ _ _ _ _ _ (Act.put _ (some 11) _) _
  simp only [pz]
  refine wpAnyH_take (i := 8) (v := ?_) rfl (by kernel_rfl) (by kernel_rfl) (by kernel_rfl) (fun _ _ _ h => h) (Or.inl ⟨by rfl, ?_⟩) (by assumption) ?_
  case refine_2 => (intro w hSw; (try dsimp only at hSw); go_simp; try with_reducible rfl)
  show wpAnyH _ _ _ _ _ _ _ (Act.put _ (some 12) _) _
  simp only [pz]
  refine wpAnyH_take (i := 9) (v := ?_) rfl (by kernel_rfl) (by kernel_rfl) (by kernel_rfl) (fun _ _ _ h => h) (Or.inl ⟨by rfl, ?_⟩) (by assumption) ?_
  case refine_2 => (intro w5 hSw; (try dsimp only at hSw); have q0 : w5.cell? ⟨bx, 0, none⟩ = some (.int .i64 m.dst.kind) := hSw.cell 0; have q1 : w5.cell? ⟨bx, 1, none⟩ = some (.int .i64 m.dst.n) := hSw.cell 1; have q2 : w5.cell? ⟨bx, 2, none⟩ = some (.int .i64 m.src.kind) := hSw.cell 2; have q3 : w5.cell? ⟨bx, 3, none⟩ = some (.int .i64 m.src.n) := hSw.cell 3; have q4 : w5.cell? ⟨bx, 4, none⟩ = some (.bool m.cst) := hSw.cell 4; go_simp; try with_reducible rfl)
  show wpAnyH _ _ _ _ _ _ _ (Act.put _ (some 13) _) _
  simp only [pz]
  refine wpAnyH_take (i := 10) (v := ?_) rfl (by kernel_rfl) (by kernel_rfl) (by kernel_rfl) (fun _ _ _ h => h) (Or.inl ⟨by rfl, ?_⟩) (by assumption) ?_
  case refine_2 => (intro w hSw; (try dsimp only at hSw); go_simp; try with_reducible rfl)
  show wpAnyH _ _ _ _ _ _ _ (Act.put _ (some 14) _) _
  simp only [pz]
  refine wpAnyH_take (i := 11) (v := ?_) rfl (by kernel_rfl) (by kernel_rfl) (by kernel_rfl) (fun _ _ _ h => h) (Or.inl ⟨by rfl, ?_⟩) (by assumption) ?_
  case refine_2 => (intro w hSw; (try dsimp only at hSw); go_simp; try with_reducible rfl)
  show wpAnyH _ _ _ _ _ _ _ (Act.put _ (some 15) _) _
  simp only [pz]
  refine wpAnyH_take (i := 12) (v := ?_) rfl (by kernel_rfl) (by kernel_rfl) (by kernel_rfl) (fun _ _ _ h => h) (Or.inl ⟨by rfl, ?_⟩) (by assumption) ?_
  case refine_2 => (intro w5 hSw; (try dsimp only at hSw); have q0 : w5.cell? ⟨bx, 0, none⟩ = some (.int .i64 m.dst.kind) := hSw.cell 0; have q1 : w5.cell? ⟨bx, 1, none⟩ = some (.int .i64 m.dst.n) := hSw.cell 1; have q2 : w5.cell? ⟨bx, 2, none⟩ = some (.int .i64 m.src.kind) := hSw.cell 2; have q3 : w5.cell? ⟨bx, 3, none⟩ = some (.int .i64 m.src.n) := hSw.cell 3; have q4 : w5.cell? ⟨bx, 4, none⟩ = some (.bool m.cst) := hSw.cell 4; go_simp; try with_reducible rfl)
  show wpAnyH _ _ _ _ _ _ _ (Act.put _ (some 16) _) _
  simp only [pz]
  refine wpAnyH_take (i := 13) (v := ?_) rfl (by kernel_rfl) (by kernel_rfl) (by kernel_rfl) (fun _ _ _ h => h) (Or.inl ⟨by rfl, ?_⟩) (by assumption) ?_
  case refine_2 => (intro w hSw; (try dsimp only at hSw); go_simp; try with_reducible rfl)
  show wpAnyH _ _ _ _ _ _ _ (Act.put _ (some 17) _) _
  simp only [pz]
  refine wpAnyH_take (i := 14) (v := ?_) rfl (by kernel_rfl) (by kernel_rfl) (by kernel_rfl) (fun _ _ _ h => h) (Or.inl ⟨by rfl, ?_⟩) (by assumption) ?_
  case refine_2 => (intro w5 hSw; (try dsimp only at hSw); have q0 : w5.cell? ⟨bx, 0, none⟩ = some (.int .i64 m.dst.kind) := hSw.cell 0; have q1 : w5.cell? ⟨bx, 1, none⟩ = some (.int .i64 m.dst.n) := hSw.cell 1; have q2 : w5.cell? ⟨bx, 2, none⟩ = some (.int .i64 m.src.kind) := hSw.cell 2; have q3 : w5.cell? ⟨bx, 3, none⟩ = some (.int .i64 m.src.n) := hSw.cell 3; have q4 : w5.cell? ⟨bx, 4, none⟩ = some (.bool m.cst) := hSw.cell 4; go_simp; try with_reducible rfl)
  show wpAnyH _ _ _ _ _ _ _ (Act.put _ (some 18) _) _
  simp only [pz]
  refine wpAnyH_ready (rs := [15]) (by kernel_rfl) (by simp) ?_
  refine (AllReadyH.cons rfl (fun K hK => ?_) AllReadyH.nil)
  go_simp
  refine (flagW m.cst _).mono ?_
  rintro e w5 ⟨rfl, hb5⟩
  have HB5 : Hid (Below w4.heap.size w4 w5) := step_below hb5 ((Below.refl _ _).drew)
  have HR5 : Hid (Row w5 bx 208 [.int .i64 m.dst.kind, .int .i64 m.dst.n, .int .i64 m.src.kind, .int .i64 m.src.n, .bool m.cst, .int .u32 m.n]) := HR4.out.below HB5.out
  clear hb5
  go_wp2_with fail
  refine hK.out _ _ ?_ (fun hHeld => ?_)
  · (exact HR5.out)
  clear hK K
  try simp only [pz]
  refine wpAnyH_ready (rs := [16]) (by kernel_rfl) (by simp) ?_
  refine (AllReadyH.cons rfl (fun K hK => ?_) AllReadyH.nil)
  go_simp
  refine hK.out _ _ ?_ (fun hHeld => ?_)
  · (exact HR5.out.alloc _)
  clear hK K
  try simp only [pz]
  have hws := (HW.out.below HB4.out).below HB5.out
  have hbx2 := HBX.out
  have hz4 := HB4.out.size
  have hz5 := HB5.out.size
  have hlb : Below w5.heap.size w5 (w5.alloc (.cells #[.int .i64 m.dst.kind, .int .i64 m.dst.n, .int .i64 m.src.kind, .int .i64 m.src.n, .int .i64 (bitI m.cst)] 3)) := (Below.refl _ _).alloc (Nat.le_refl _) _
  have HPUT := putW (hws.below hlb) w5.heap.size [m.dst.kind, m.dst.n, m.src.kind, m.src.n, bitI m.cst] (Row.new w5 _ _) (by omega) (HV.out _ (by omega)) (by have := HL.out; simp; omega)
  have HF : Hid (WtF b v w v (w5.alloc (.cells #[.int .i64 m.dst.kind, .int .i64 m.dst.n, .int .i64 m.src.kind, .int .i64 m.src.n, .int .i64 (bitI m.cst)] 3))) := ((WtF.of_below HB4.out).trans (WtF.of_below HB5.out)).trans (WtF.of_below hlb)
  have HX : Hid (Row (w5.alloc (.cells #[.int .i64 m.dst.kind, .int .i64 m.dst.n, .int .i64 m.src.kind, .int .i64 m.src.n, .int .i64 (bitI m.cst)] 3)) bx 208 [.int .i64 m.dst.kind, .int .i64 m.dst.n, .int .i64 m.src.kind, .int .i64 m.src.n, .bool m.cst, .int .u32 m.n]) := HR5.out.alloc _
  have hnx : v.ownBlock ≠ some bx := HV.out _ (by omega)
  have hxb : bx ≠ b := by omega
  clear hws hlb hz4 hz5 hbx2
  refine wpAnyH_ready (rs := [17]) (by kernel_rfl) (by simp) ?_
  refine (AllReadyH.cons rfl (fun K hK => ?_) AllReadyH.nil)
  go_simp
  refine HPUT.mono ?_
  rintro e w7 ⟨rfl, bs1, bad1, v1, hs1, hw1, hf1⟩
  have HS1 : Hid (WtS w0 base b bs1 bad1 v1 w7) := hs1
  have HW1 : Hid (Wrote [m.dst.kind, m.dst.n, m.src.kind, m.src.n, bitI m.cst] bs bad bs1 bad1) := hw1
  have HR7 : Hid (Row w7 bx 208 [.int .i64 m.dst.kind, .int .i64 m.dst.n, .int .i64 m.src.kind, .int .i64 m.src.n, .bool m.cst, .int .u32 m.n]) := hf1.rows HX.out hxb hnx
  have HF1 : Hid (WtF b v w v1 w7) := HF.out.trans hf1
  clear hs1 hw1 hf1 HF HX hnx hxb HR5 HB5 HR4 HB4 HPUT
  go_wp2_with fail
  refine hK.out _ _ ?_ (fun hHeld => ?_)
  · (exact HR7.out)
  clear hK K
  try simp only [pz]
  refine wpAnyH_done (by kernel_rfl) ?_ _
  clear hHeld
  have hz7 := HR7.out.lt
  have q5 : w7.cell? ⟨bx, 5, none⟩ = some (.int .u32 m.n) := HR7.out.cell 5
  obtain ⟨n, hn⟩ : ∃ n, n = m.n := ⟨_, rfl⟩
  rw [← hn] at q5 hm
  have HN : Hid (n = m.n) := hn
  clear hn
  obtain ⟨a0, ha0⟩ : ∃ a0, a0 = n / 16777216 := ⟨_, rfl⟩
  obtain ⟨a1, ha1⟩ : ∃ a1, a1 = n / 65536 % 256 := ⟨_, rfl⟩
  obtain ⟨a2, ha2⟩ : ∃ a2, a2 = n / 256 % 256 := ⟨_, rfl⟩
  obtain ⟨a3, ha3⟩ : ∃ a3, a3 = n % 256 := ⟨_, rfl⟩
  have e1 := and255 (n / 65536) (by omega) (by omega)
  have e2 := and255 (n / 256) (by omega) (by omega)
  have e3 := and255 n (by omega) (by omega)
  rw [← ha1] at e1
  rw [← ha2] at e2
  rw [← ha3] at e3
  have r0 : 0 ≤ a0 ∧ a0 ≤ 255 := by omega
  have r1 : 0 ≤ a1 ∧ a1 ≤ 255 := by omega
  have r2 : 0 ≤ a2 ∧ a2 ≤ 255 := by omega
  have r3 : 0 ≤ a3 ∧ a3 ≤ 255 := by omega
  have e0 : n / 16777216 = a0 := ha0.symm
  have HA : Hid (putMove m = [m.dst.kind, m.dst.n, m.src.kind, m.src.n, bitI m.cst] ++ [a0, a1, a2, a3]) := by
    show putMove m = _
    rw [ha0, ha1, ha2, ha3, HN.out]
    rfl
  obtain ⟨p1, hp1⟩ : ∃ p1, p1 = n / 65536 := ⟨_, rfl⟩
  obtain ⟨p2, hp2⟩ : ∃ p2, p2 = n / 256 := ⟨_, rfl⟩
  have HQ : Hid (WtF b v w v1 (w7.alloc (.cells #[.int .i64 a0, .int .i64 a1, .int .i64 a2, .int .i64 a3] 3))) := HF1.out.trans (WtF.of_below ((Below.refl _ _).alloc (Nat.le_refl _) _))
  have HPUT : Hid (Calls Tryz.prog 115 #[.pointer (some ⟨b, 0, none⟩), .slice (some ⟨w7.heap.size, 0, none⟩) 4 4] (w7.alloc (.cells #[.int .i64 a0, .int .i64 a1, .int .i64 a2, .int .i64 a3] 3)) fun e w' => WroteP w0 base b [a0, a1, a2, a3] bs1 bad1 v1 (w7.alloc (.cells #[.int .i64 a0, .int .i64 a1, .int .i64 a2, .int .i64 a3] 3)) e w') := by
    have hlb : Below w7.heap.size w7 (w7.alloc (.cells #[.int .i64 a0, .int .i64 a1, .int .i64 a2, .int .i64 a3] 3)) := (Below.refl _ _).alloc (Nat.le_refl _) _
    have hb7 := HS1.out.box.lt
    have := putW (HS1.out.below hlb) w7.heap.size [a0, a1, a2, a3] (Row.new w7 _ _) (by omega) (fun e => by have := (HS1.out.own_ge e).2; omega) (by have h1 := HW1.out.len; have h2 := HL.out; simp only [List.length_cons, List.length_nil] at h1 ⊢; omega)
    exact this
  clear ha0 ha1 ha2 ha3 hp1 hp2
  go_wp2_with (go_at_call 115; refine HPUT.out.mono ?_; rintro e w9 ⟨rfl, bs2, bad2, v2, hs2, hw2, hf2⟩)
  refine bodyPost_end (results_none rfl _ _ _) rfl ?_
  refine ⟨rfl, bs2, bad2, v2, hs2, ?_, HQ.out.trans hf2⟩
  rw [HA.out]
  exact HW1.out.trans hw2
end form
end Go.Proofs.YtikhedkhgpjaaacGreatDoor
