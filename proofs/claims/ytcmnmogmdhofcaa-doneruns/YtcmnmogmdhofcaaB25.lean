/- The program's own done.Run: what is wrong, or what the machine in its places shows. -/
import Derived.Test.YtcmnmogmdhofcaaB13
import Derived.Test.YtcmnmogmdhofcaaB17
import Derived.Test.YtcmnmogmdhofcaaB21
import Derived.Test.YtcmnmogmdhofcaaB24

namespace Go.Proofs.Ytcmnmogmdhofcaa.form
open Go.RowKit Go.Proofs.Ytcmnmogmdhofcaa.num Go.Proofs.Ytcmnmogmdhofcaa.doneRuns
set_option linter.unusedVariables false
attribute [local go_sem ↓] Go.wp_at_zero Go.wp_at_succ

/-- The machine in its places is one of those over whatever store. -/
def PMac.gen (m : PMac) : GM Sto := ⟨m.pc, m.sto, m.taken, m.out, m.state, m.steps⟩
theorem genP_step (C : List LIns) (R : List LRow) (ins : List Int) (m : PMac) : (m.step C R ins).gen = m.gen.step C (fun k => placeE (R.getD k .zero)) ins := rfl
theorem genP_go (C : List LIns) (R : List LRow) (ins : List Int) : ∀ (k : Nat) (m : PMac), (PMac.go C R ins k m).gen = GM.go C (fun k => placeE (R.getD k .zero)) ins k m.gen
  | 0, m => rfl
  | k + 1, m => by
    by_cases h : m.state = 0
    · have h' : m.gen.state = 0 := h
      simp only [PMac.go, GM.go, if_pos h, if_pos h', ← genP_step]
      exact genP_go C R ins k (m.step C R ins)
    · have h' : ¬ m.gen.state = 0 := h
      rw [PMac.go_stop h, GM.go_stop h']
theorem playP_gen (C : List LIns) (R : List LRow) (ns nl : Nat) (ins : List Int) (n : Nat) : (playP C R ns nl ins n).gen = GM.go C (fun k => placeE (R.getD k .zero)) ins n (GM.start (PMac.start ns nl).sto) := genP_go C R ins n _
theorem playP_outs (C : List LIns) (R : List LRow) (ns nl : Nat) (ins : List Int) (n : Nat) : (playP C R ns nl ins n).out.length ≤ n := by
  have h1 := ggo_outs C (fun k => placeE (R.getD k .zero)) ins n (GM.start (PMac.start ns nl).sto)
  rw [← playP_gen] at h1
  simpa [GM.start, PMac.gen] using h1

theorem move_is {ns nl : Nat} {m : LMove} (hm : moveB ns nl m = true) (hn : 0 ≤ m.n ∧ m.n < 4294967296) : MoveIs ns nl m := by
  unfold moveB at hm
  rw [Bool.and_eq_true] at hm
  refine ⟨Or.inl hm.1, ?_, hn.1, hn.2⟩
  cases hc : m.cst with
  | true => have := hm.2; rw [if_pos hc] at this; simp at this; exact Or.inr this.1
  | false => have := hm.2; rw [hc] at this; simp at this; exact Or.inl this.1.2

/-- What is known of a row that may be. -/
structure RowIs (ns nl : Nat) (i : LIns) (r : LRow) : Prop where
  d : PlIs ns nl r.dest
  a : PlIs ns nl r.a
  b : PlIs ns nl r.b
  b6 : r.before.length ≤ 6
  a6 : r.after.length ≤ 6
  bm : ∀ x, x ∈ r.before → MoveIs ns nl x
  am : ∀ x, x ∈ r.after → MoveIs ns nl x
  pair : i.op = 5 → r.a.kind = 1

theorem row_is {B : List Bool} {nC ns nl : Nat} {i : LIns} {r : LRow} (h : rowB B ns nl i r = true) (hins : insB B nC i = true) (hn : ∀ x, x ∈ r.before ∨ x ∈ r.after → 0 ≤ x.n ∧ x.n < 4294967296) : RowIs ns nl i r := by
  unfold rowB at h
  simp only [Bool.and_eq_true] at h
  obtain ⟨⟨⟨⟨⟨h1, h2⟩, h3⟩, h4⟩, h5⟩, -⟩ := h
  unfold movesB at h4 h5
  simp only [Bool.and_eq_true, decide_eq_true_eq] at h4 h5
  refine ⟨field_is h1, field_is h2, field_is h3, h4.1, h5.1, fun x hx => move_is (List.all_eq_true.1 h4.2 x hx) (hn x (Or.inl hx)), fun x hx => move_is (List.all_eq_true.1 h5.2 x hx) (hn x (Or.inr hx)), fun ho => ?_⟩
  have hw := widths_of hins
  unfold widthsB at hw
  rw [if_neg (by omega), if_pos ho] at hw
  have hg : givesB i.op = true := by unfold givesB; simp [ho]
  have hm : manyI i.op = 2 := by unfold manyI; rw [if_neg (by omega), if_neg (by omega)]
  simp [wl, wl0, wl1, hg, hm, bw] at hw
  unfold fieldP at h2
  rw [hm, if_pos (by decide)] at h2
  unfold regB at h2
  rw [Bool.and_eq_true] at h2
  have h6 := h2.1
  rw [show B.getD i.a.toNat false = false by simpa [List.getD] using hw.1.2] at h6
  simpa using h6

set_option maxRecDepth 100000 in
set_option maxHeartbeats 1000000 in
theorem doneRun_no (pv lv iv : Value) (B : List Bool) (C : List LIns) (s slots : Int) (R : List LRow) (I : List Int) (steps : Int) (w : World) (hp : ProgIs w pv B C) (hl : PlacedIs w lv slots R) (hI : InArg w iv I) (hx0 : ¬ wrongP B C s slots R I.length steps = 0) :
    Calls Try.prog 33 #[pv, targetV s, lv, iv, .int .i64 steps] w fun e w' => (∃ sv, e = .returned (.tuple #[sv, .int .i64 (wrongP B C s slots R I.length steps)]) ∧ ShownIs w' sv (resP B C s slots R I steps).state (resP B C s slots R I steps).out (resP B C s slots R I steps).steps) ∧ Below w.heap.size w w' := by
  have h0 := hp
  obtain ⟨⟨a0, c0, a1, c1, rfl, -⟩, -, -, -⟩ := h0
  have h1 := hl
  obtain ⟨ao, cap, rfl, -, -⟩ := h1
  have HP : Hid (ProgIs w (.agg #[.slice a0 B.length c0, .slice a1 C.length c1]) B C) := hp
  have HL : Hid (PlacedIs w (.agg #[.int .i64 slots, .slice ao R.length cap]) slots R) := hl
  obtain ⟨ai, ci, rfl, -, -, -, -⟩ := hI
  have hres : resP B C s slots R I steps = ⟨0, ⟨[], []⟩, 0, [], 0, 0⟩ := by unfold resP; rw [if_neg hx0]
  rw [hres]
  obtain ⟨WA, hWA⟩ : ∃ WA, WA = (((w.alloc (.cells #[.slice a0 B.length c0, .slice a1 C.length c1] 31)).alloc (.cells #[.int .i64 s] 52)).alloc (.cells #[.int .i64 slots, .slice ao R.length cap] 55)).alloc (.cells #[.int .i64 0, .slice none 0 0, .int .i64 0] 35) := ⟨_, rfl⟩
  have HW : Hid (Below w.heap.size w WA) := by rw [hWA]; exact ((((Below.refl _ _).alloc (Nat.le_refl _) _).alloc (by simp) _).alloc (by simp; omega) _).alloc (by simp; omega) _
  have HRA : Hid (Row WA (w.heap.size + 1 + 1 + 1) 35 [.int .i64 0, .slice none 0 0, .int .i64 0]) := by
    rw [hWA]
    have := Row.new (((w.alloc (.cells #[.slice a0 B.length c0, .slice a1 C.length c1] 31)).alloc (.cells #[.int .i64 s] 52)).alloc (.cells #[.int .i64 slots, .slice ao R.length cap] 55)) 35 [.int .i64 0, .slice none 0 0, .int .i64 0]
    simp at this
    exact this
  have p0 : WA.cell? ⟨w.heap.size, 0, none⟩ = some (.slice a0 B.length c0) := by rw [hWA]; simp [go_sem]
  have p1 : WA.cell? ⟨w.heap.size, 1, none⟩ = some (.slice a1 C.length c1) := by rw [hWA]; simp [go_sem]
  have p2 : WA.cell? ⟨w.heap.size + 1, 0, none⟩ = some (.int .i64 s) := by rw [hWA]; simp [go_sem]
  have p3 : WA.cell? ⟨w.heap.size + 1 + 1, 0, none⟩ = some (.int .i64 slots) := by rw [hWA]; simp [go_sem]
  have p4 : WA.cell? ⟨w.heap.size + 1 + 1, 1, none⟩ = some (.slice ao R.length cap) := by rw [hWA]; simp [go_sem]
  have HSH : Hid (∀ w' : World, ShownIs w' (.agg #[.int .i64 0, .slice none 0 0, .int .i64 0]) 0 [] 0) := fun w' => ⟨_, rfl, none, 0, rfl, by simp, fun hh => absurd hh (by simp)⟩
  clear hres hp hl
  unfold targetV
  cases hm : placeMayB B C s slots R with
  | false =>
    have hwr : wrongP B C s slots R I.length steps = 2 := by unfold wrongP; rw [hm, if_neg (by simp)]
    rw [hwr]
    have HM : Hid (placeMayB B C s slots R = false) := hm
    clear hwr hm hx0
    go_enter Try.func33, Try.ntmps33
    go_upto_region 1 with fail
    rw [← hWA]
    clear hWA
    go_wp2_with fail
    go_at_call 29
    refine (mayO _ _ B C s slots R _ (HP.out.later HW.out) (HL.out.later HW.out)).mono ?_
    rw [HM.out]
    rintro e w1 ⟨rfl, hb1⟩
    have hr1 := HRA.out.below hb1
    have f0 := hr1.frozen 0
    have f1 := hr1.frozen 1
    have f2 := hr1.frozen 2
    have r0 := hr1.cell 0
    have r1 := hr1.cell 1
    have r2 := hr1.cell 2
    simp at r0 r1 r2
    have HR1 : Hid (Row w1 (w.heap.size + 1 + 1 + 1) 35 [.int .i64 0, .slice none 0 0, .int .i64 0]) := hr1
    have HB1 : Hid (Below w.heap.size w w1) := step_below hb1 HW.out
    clear hr1 hb1 p0 p1 p2 p3 p4
    go_wp2
    have r3 := ((HR1.out.set 0 (.int .i64 0)).set 1 (.slice none 0 0)).set 2 (.int .i64 0)
    have g0 := r3.cell 0
    have g1 := r3.cell 1
    have g2 := r3.cell 2
    simp at g0 g1 g2
    refine bodyPost_ret (v := .tuple #[.agg #[.int .i64 0, .slice none 0 0, .int .i64 0], .int .i64 2]) ?_ rfl ⟨⟨_, rfl, HSH.out _⟩, ?_⟩
    · simp [results, Try.results33, go_sem, g0, g1, g2]
    · exact ((HB1.out.setCell (by dsimp only; omega) _).setCell (by dsimp only; omega) _).setCell (by dsimp only; omega) _
  | true =>
    have hrm : refMayB B C = true := by unfold placeMayB at hm; simp only [Bool.and_eq_true] at hm; exact hm.1.1.1.1.1
    have hwr : wrongP B C s slots R I.length steps = wrongN I.length steps := by unfold wrongP; rw [hm, if_pos rfl, wrongN_of, hrm, if_pos rfl]
    rw [hwr] at hx0 ⊢
    have HM : Hid (placeMayB B C s slots R = true) := hm
    obtain ⟨x, hx⟩ : ∃ x, x = wrongN I.length steps := ⟨_, rfl⟩
    rw [← hx] at hx0 ⊢
    have HX : Hid (wrongN I.length steps = x) := hx.symm
    have e1 : (x != 0) = true := by simp [hx0]
    clear hwr hm hx hx0 hrm
    go_enter Try.func33, Try.ntmps33
    go_upto_region 1 with fail
    rw [← hWA]
    clear hWA
    go_wp2_with fail
    go_at_call 29
    refine (mayO _ _ B C s slots R _ (HP.out.later HW.out) (HL.out.later HW.out)).mono ?_
    rw [HM.out]
    rintro e w1 ⟨rfl, hb1⟩
    have hr1 := HRA.out.below hb1
    have f0 := hr1.frozen 0
    have f1 := hr1.frozen 1
    have f2 := hr1.frozen 2
    have r0 := hr1.cell 0
    have r1 := hr1.cell 1
    have r2 := hr1.cell 2
    simp at r0 r1 r2
    have HR1 : Hid (Row w1 (w.heap.size + 1 + 1 + 1) 35 [.int .i64 0, .slice none 0 0, .int .i64 0]) := hr1
    have HB1 : Hid (Below w.heap.size w w1) := step_below hb1 HW.out
    clear hr1 hb1 p0 p1 p2 p3 p4
    go_wp2_with (go_at_call 42; refine (wrongO _ _ _ _ _).mono ?_; rw [HX.out]; rintro e w2 ⟨rfl, hw2⟩; obtain rfl := hw2.symm)
    have r3 := ((HR1.out.set 0 (.int .i64 0)).set 1 (.slice none 0 0)).set 2 (.int .i64 0)
    have g0 := r3.cell 0
    have g1 := r3.cell 1
    have g2 := r3.cell 2
    simp at g0 g1 g2
    refine bodyPost_ret (v := .tuple #[.agg #[.int .i64 0, .slice none 0 0, .int .i64 0], .int .i64 x]) ?_ rfl ⟨⟨_, rfl, HSH.out _⟩, ?_⟩
    · simp [results, Try.results33, go_sem, g0, g1, g2]
    · exact ((HB1.out.setCell (by dsimp only; omega) _).setCell (by dsimp only; omega) _).setCell (by dsimp only; omega) _

end Go.Proofs.Ytcmnmogmdhofcaa.form

/- The program's own done.Run, where nothing is wrong: it shows what the machine in its places shows. -/
namespace Go.Proofs.Ytcmnmogmdhofcaa.form
open Go.RowKit Go.Proofs.Ytcmnmogmdhofcaa.num Go.Proofs.Ytcmnmogmdhofcaa.doneRuns
set_option linter.unusedVariables false
attribute [local go_sem ↓] Go.wp_at_zero Go.wp_at_succ

theorem stoE_start (ns nl : Nat) (h1 : ns ≤ 16) (h2 : nl ≤ 12) : stoE (PMac.start ns nl).sto = List.replicate 16 (.int .u32 0) ++ List.replicate 12 (.int .u64 0) := by
  show (padL 16 (List.replicate ns 0)).map (Value.int .u32) ++ (padL 12 (List.replicate nl 0)).map (Value.int .u64) = _
  unfold padL
  rw [List.length_replicate, List.replicate_append_replicate, show ns + (16 - ns) = 16 by omega, List.length_replicate, List.replicate_append_replicate, show nl + (12 - nl) = 12 by omega]
  simp

set_option maxRecDepth 100000 in
set_option maxHeartbeats 4000000 in
theorem doneRun_yes (pv lv iv : Value) (B : List Bool) (C : List LIns) (s slots : Int) (R : List LRow) (I : List Int) (steps : Int) (w : World) (hp : ProgIs w pv B C) (hl : PlacedIs w lv slots R) (hR : RowsOk R) (hI : InArg w iv I) (hx : wrongP B C s slots R I.length steps = 0) :
    Calls Try.prog 33 #[pv, targetV s, lv, iv, .int .i64 steps] w fun e w' => (∃ sv, e = .returned (.tuple #[sv, .int .i64 (wrongP B C s slots R I.length steps)]) ∧ ShownIs w' sv (resP B C s slots R I steps).state (resP B C s slots R I steps).out (resP B C s slots R I steps).steps) ∧ Below w.heap.size w w' := by
  have h0 := hp
  obtain ⟨⟨a0, c0, a1, c1, rfl, hh⟩, -, -, hnum⟩ := h0
  have h1 := hl
  obtain ⟨ao, cap, rfl, -, hrr⟩ := h1
  have HP : Hid (ProgIs w (.agg #[.slice a0 B.length c0, .slice a1 C.length c1]) B C) := hp
  have HL : Hid (PlacedIs w (.agg #[.int .i64 slots, .slice ao R.length cap]) slots R) := hl
  have HIA : Hid (InArg w iv I) := hI
  obtain ⟨ai, ci, rfl, -, -, hib, -⟩ := hI
  have HIB : Hid (∀ j, j < I.length → 0 ≤ I.getD j 0 ∧ I.getD j 0 < 4294967296) := hib
  obtain ⟨hmay, hw0⟩ := wrongP_zero hx
  obtain ⟨hm, h40, hst0, hst1⟩ := wrong_zero hw0
  have hm2 := hmay
  unfold placeMayB at hm2
  simp only [Bool.and_eq_true, Bool.not_eq_true', decide_eq_true_eq, decide_eq_false_iff_not] at hm2
  obtain ⟨⟨⟨⟨⟨-, htg⟩, hs0⟩, hs1⟩, hlen⟩, hall⟩ := hm2
  have hsz : sizesB B C = true := by unfold refMayB at hm; simp only [Bool.and_eq_true] at hm; exact hm.1
  obtain ⟨z1, z2, z3, z4⟩ := sizes_of hsz
  obtain ⟨u1, u2, u3⟩ := target_of htg
  obtain ⟨b0, o0, b1, o1, rfl, rfl, hheld⟩ := hh z1 z3
  obtain ⟨b2, o2, rfl, hrows⟩ := hrr (by omega)
  obtain ⟨ns, rfl⟩ : ∃ ns : Nat, s = ns := Int.eq_ofNat_of_zero_le (by omega)
  obtain ⟨nl, rfl⟩ : ∃ nl : Nat, slots = nl := Int.eq_ofNat_of_zero_le (by omega)
  obtain ⟨n, rfl⟩ : ∃ n : Nat, steps = n := Int.eq_ofNat_of_zero_le hst0
  have hn3 : n ≤ 3000 := by omega
  have HHE : Hid (Held w b0 o0 b1 o1 B C) := hheld
  have HRW : Hid (RowsHeld w b2 o2 R) := hrows
  have HOK : Hid (∀ k, k < C.length → InsOk B.length C.length (C.getD k .zero)) := all_insOk hm hnum
  have hinsB : ∀ k, k < C.length → insB B C.length (C.getD k .zero) = true := by
    intro k hk
    unfold refMayB at hm
    simp only [Bool.and_eq_true] at hm
    exact List.all_eq_true.1 hm.2 (C.getD k .zero) (by simp [List.getD, hk])
  have HINS : Hid (∀ k, k < C.length → insB B C.length (C.getD k .zero) = true) := hinsB
  have hrb := rows_bd hR hlen
  have HRI : Hid (∀ k, k < C.length → RowIs ns nl (C.getD k .zero) (R.getD k .zero)) := fun k hk => row_is (List.all_eq_true.1 hall k (by simpa using hk)) (hinsB k hk) (hrb k hk)
  have hres : resP B C ns nl R I n = playP C R ns nl I n := by unfold resP; rw [if_pos hx]; simp
  have HMW : Hid (placeMayB B C ns nl R = true) := hmay
  have HWN : Hid (wrongN I.length n = 0) := by
    have := wrongN_of (B := B) (C := C) (nI := I.length) (steps := (n : Int))
    rw [hm, if_pos rfl, hw0] at this
    exact this.symm
  have HSA : Hid (StoAt ns nl (PMac.start ns nl).sto) := sto_start (by omega) (by omega) (by omega)
  have hsE := stoE_start ns nl (by omega) (by omega)
  rw [hres, hx]
  obtain ⟨WA, hWA⟩ : ∃ WA, WA = (((w.alloc (.cells #[.slice (some ⟨b0, o0, none⟩) B.length c0, .slice (some ⟨b1, o1, none⟩) C.length c1] 31)).alloc (.cells #[.int .i64 (ns : Int)] 52)).alloc (.cells #[.int .i64 (nl : Int), .slice (some ⟨b2, o2, none⟩) R.length cap] 55)).alloc (.cells #[.int .i64 0, .slice none 0 0, .int .i64 0] 35) := ⟨_, rfl⟩
  have HW : Hid (Below w.heap.size w WA) := by rw [hWA]; exact ((((Below.refl _ _).alloc (Nat.le_refl _) _).alloc (by simp) _).alloc (by simp; omega) _).alloc (by simp; omega) _
  have HRA : Hid (Row WA (w.heap.size + 1 + 1 + 1) 35 [.int .i64 0, .slice none 0 0, .int .i64 0]) := by
    rw [hWA]
    have := Row.new (((w.alloc (.cells #[.slice (some ⟨b0, o0, none⟩) B.length c0, .slice (some ⟨b1, o1, none⟩) C.length c1] 31)).alloc (.cells #[.int .i64 (ns : Int)] 52)).alloc (.cells #[.int .i64 (nl : Int), .slice (some ⟨b2, o2, none⟩) R.length cap] 55)) 35 [.int .i64 0, .slice none 0 0, .int .i64 0]
    simp at this
    exact this
  have p0 : WA.cell? ⟨w.heap.size, 0, none⟩ = some (.slice (some ⟨b0, o0, none⟩) B.length c0) := by rw [hWA]; simp [go_sem]
  have p1 : WA.cell? ⟨w.heap.size, 1, none⟩ = some (.slice (some ⟨b1, o1, none⟩) C.length c1) := by rw [hWA]; simp [go_sem]
  have p2 : WA.cell? ⟨w.heap.size + 1, 0, none⟩ = some (.int .i64 ns) := by rw [hWA]; simp [go_sem]
  have p3 : WA.cell? ⟨w.heap.size + 1 + 1, 0, none⟩ = some (.int .i64 nl) := by rw [hWA]; simp [go_sem]
  have p4 : WA.cell? ⟨w.heap.size + 1 + 1, 1, none⟩ = some (.slice (some ⟨b2, o2, none⟩) R.length cap) := by rw [hWA]; simp [go_sem]
  have HC1 : Hid (WA.cell? ⟨w.heap.size, 1, none⟩ = some (.slice (some ⟨b1, o1, none⟩) C.length c1)) := p1
  have HC4 : Hid (WA.cell? ⟨w.heap.size + 1 + 1, 1, none⟩ = some (.slice (some ⟨b2, o2, none⟩) R.length cap)) := p4
  have z40 : (C.length : Int) ≤ 40 := by omega
  have z3n : (n : Int) ≤ 3000 := by omega
  have zRC : (R.length : Int) = (C.length : Int) := by omega
  have hmk := fun wx => run_make_row' (P := Try.prog) 75 1 .nilFunc 8 Try.underlying75 infoFunc rfl .i64 .i64 C.length (by omega) (by omega) wx
  clear hmay hsz hheld hinsB hres hnum hh hib hx hp hl hrows hrr htg hall hm hw0 hrb hR hst0 hst1 hs0 hs1 hlen
  have HZRC : Hid ((R.length : Int) = (C.length : Int)) := zRC
  clear zRC
  unfold targetV
  go_enter Try.func33, Try.ntmps33
  go_upto_region 1 with fail
  rw [← hWA]
  clear hWA
  go_wp2_with fail
  go_at_call 29
  refine (mayO _ _ B C ns nl R _ (HP.out.later HW.out) (HL.out.later HW.out)).mono ?_
  rw [HMW.out]
  rintro e w1 ⟨rfl, hb1w⟩
  have HR1 : Hid (Row w1 (w.heap.size + 1 + 1 + 1) 35 [.int .i64 0, .slice none 0 0, .int .i64 0]) := HRA.out.below hb1w
  have HD1 : Hid (w1.cell? ⟨w.heap.size, 1, none⟩ = some (.slice (some ⟨b1, o1, none⟩) C.length c1)) := step_cell hb1w HC1.out
  have HD4 : Hid (w1.cell? ⟨w.heap.size + 1 + 1, 1, none⟩ = some (.slice (some ⟨b2, o2, none⟩) R.length cap)) := step_cell hb1w HC4.out
  have HB1 : Hid (Below w.heap.size w w1) := step_below hb1w HW.out
  clear hb1w p0 p1 p2 p3 p4
  go_wp2_with fail
  go_at_call 42
  refine (wrongO _ _ _ _ _).mono ?_
  rw [HWN.out]
  rintro e w1' ⟨rfl, hw2⟩
  obtain rfl := hw2.symm
  clear hw2
  go_wp2_with fail
  go_at_call 43
  refine (newMachine _ I _ (HIA.out.later HB1.out) h40).mono ?_
  rintro e w2 ⟨mb, iv', rfl, hm1, hm2, hrow, hnew, hb2⟩
  have cp2 := step_cell hb2 HD1.out
  have cl2 := step_cell hb2 HD4.out
  have HCL2 : Hid (w2.cell? ⟨w.heap.size + 1 + 1, 1, none⟩ = some (.slice (some ⟨b2, o2, none⟩) R.length cap)) := cl2
  have HR2 : Hid (Row w2 (w.heap.size + 1 + 1 + 1) 35 [.int .i64 0, .slice none 0 0, .int .i64 0]) := HR1.out.below hb2
  have HB2 : Hid (Below w.heap.size w w2) := step_below hb2 HB1.out
  have HROW : Hid (Row w2 mb 84 (macV 0 0 0 (.slice none 0 0) iv')) := hrow
  have HNEW : Hid (InNew w2 mb iv' I) := hnew
  have hz2 : w.heap.size + 1 + 1 + 1 < w2.heap.size := HR2.out.lt
  have q0 : w.heap.size < w2.heap.size := by omega
  have q1 : w.heap.size < w2.heap.size + 1 := by omega
  have hmlt : mb < w2.heap.size := by omega
  have hmge : w.heap.size ≤ mb := by have := HB1.out.size; omega
  have hmge3 : w.heap.size + 1 + 1 + 1 < mb := Nat.lt_of_lt_of_le HR1.out.lt hm1
  clear hrow hnew hb2 hm2 cl2 hm1
  obtain ⟨W0, hW0⟩ : ∃ W0, W0 = w2.alloc (.cells #[.int .u32 0, .int .u32 0, .int .u32 0, .int .u32 0, .int .u32 0, .int .u32 0, .int .u32 0, .int .u32 0, .int .u32 0, .int .u32 0, .int .u32 0, .int .u32 0, .int .u32 0, .int .u32 0, .int .u32 0, .int .u32 0, .int .u64 0, .int .u64 0, .int .u64 0, .int .u64 0, .int .u64 0, .int .u64 0, .int .u64 0, .int .u64 0, .int .u64 0, .int .u64 0, .int .u64 0, .int .u64 0] 113) := ⟨_, rfl⟩
  have hW0z : W0.heap.size = w2.heap.size + 1 := by rw [hW0]; simp
  have HBW0 : Hid (Below w2.heap.size w2 W0) := by rw [hW0]; exact (Below.refl _ _).alloc (Nat.le_refl _) _
  have HSTO : Hid (Row W0 w2.heap.size (stoK ns nl).T ((stoK ns nl).enc (PMac.start ns nl).sto)) := by
    show Row W0 w2.heap.size 113 (stoE (PMac.start ns nl).sto)
    rw [hsE, hW0]
    exact Row.new w2 _ _
  have HD0 : Hid (DeedsS (stoK ns nl) W0 mb w2.heap.size C (fun k => placeE (R.getD k .zero)) 0 (List.replicate C.length .nilFunc) (W0.alloc (.cells (madeCells #[Value.nilFunc] C.length) 1))) := deeds_start _ _ _ _ _ _
  clear hsE
  go_wp2
  rw [← hW0]
  go_loopw [43] (fun t wr => ∃ (k : Nat) (cs : List Value), k ≤ C.length ∧ t = .int .i64 k ∧ DeedsS (stoK ns nl) W0 mb w2.heap.size C (fun k => placeE (R.getD k .zero)) k cs wr) (fun t _ => C.length - (intOf t).toNat)
  case atStart => exact ⟨0, _, by omega, rfl, HD0.out⟩
  case round =>
    obtain ⟨k, cs, hk, rfl, hds⟩ := hrel
    have HD : Hid (DeedsS (stoK ns nl) W0 mb w2.heap.size C (fun k => placeE (R.getD k .zero)) k cs wr) := hds
    have hBz := hds.bel.size
    have HBR : Hid (Below w.heap.size w wr) := step_below hds.bel (step_below HBW0.out HB2.out)
    by_cases hlt : k < C.length
    case neg =>
      obtain rfl : k = C.length := by omega
      have y9 : ¬ (C.length : Int) < (C.length : Int) := by omega
      clear hds
      have hmsw : MS (stoK ns nl) mb w2.heap.size wr.heap.size (PMac.start ns nl).sto (.slice none 0 0) [] 0 0 iv' I 0 wr :=
        start_ms HROW.out HNEW.out (step_below HD.out.bel HBW0.out) (HSTO.out.below HD.out.bel) HSA.out h40 HIB.out hmlt (by omega) (Nat.le_refl _)
      have HMSW : Hid _ := hmsw
      have HR3 : Hid (Row wr (w.heap.size + 1 + 1 + 1) 35 [.int .i64 0, .slice none 0 0, .int .i64 0]) := HR2.out.below (step_below HD.out.bel HBW0.out)
      have HGO : Hid (Calls Try.prog 46 #[.pointer (some ⟨mb, 0, none⟩), .slice (some ⟨w2.heap.size + 1, 0, none⟩) C.length C.length, .int .i64 n] wr fun e w' =>
          e = .returned (.tuple #[]) ∧ Stopped (stoK ns nl) mb w2.heap.size wr.heap.size (playP C R ns nl I n).gen wr w') := by
        show Calls _ _ _ _ _
        rw [playP_gen, ← hW0z]
        refine goOn (stoK ns nl) (fun _ => True) mb w2.heap.size W0.heap.size n B.length C (fun k => placeE (R.getD k .zero)) I (PMac.start ns nl).sto cs _ _ wr z3 z4 (by omega) HOK.out HIB.out (fun j hj s x h1 h2 h3 h4 => trivial) (fun j hj h5 s h1 h2 => ?_) trivial HD.out.row HD.out.len HD.out.spec HD.out.row.lt (by omega) (by omega) HMSW.out
        have hri := HRI.out j hj
        have hst : StoAt ns nl (movesP s (R.getD j .zero).before) := moves_at h2 hri.bm
        show getP (movesP s (R.getD j .zero).before) (R.getD j .zero).a < 4294967296
        rw [get_one (hri.pair h5)]
        exact (hst.ok.s0 _).2
      clear hmsw
      go_wp2_with fail
      go_at_call 46
      refine Calls.mono HGO.out ?_
      rintro e w3 ⟨rfl, ⟨ts, ov, iv3, I3, pc3, hms3⟩, hran⟩
      have hms4 : MS (stoK ns nl) mb w2.heap.size wr.heap.size ts ov (playP C R ns nl I n).out (playP C R ns nl I n).state (playP C R ns nl I n).steps iv3 I3 pc3 w3 := hms3
      clear hms3
      obtain ⟨ao3, cap3, hov, hcells⟩ := own_form32 hms4.own
      subst hov
      have m0 := hms4.cst
      have m1 := hms4.cov
      have m2 := hms4.ck
      have hr3 : Row w3 (w.heap.size + 1 + 1 + 1) 35 [.int .i64 0, .slice none 0 0, .int .i64 0] := by
        have := HR3.out
        unfold Row at *
        rw [hran.block _ (by omega) (by omega) (by omega)]
        exact this
      have HRS : Hid (Row w3 (w.heap.size + 1 + 1 + 1) 35 [.int .i64 0, .slice none 0 0, .int .i64 0]) := hr3
      have f0 := hr3.frozen 0
      have f1 := hr3.frozen 1
      have f2 := hr3.frozen 2
      have r0 := hr3.cell 0
      have r1 := hr3.cell 1
      have r2 := hr3.cell 2
      simp at r0 r1 r2
      have hbw3 : Below w.heap.size w w3 := HBR.out.trans ⟨hran.os, hran.tape, hran.output, hran.size, fun j hj => hran.block j (by have := HBR.out.size; omega) (by omega) (by omega)⟩
      have HBW3 : Hid (Below w.heap.size w w3) := hbw3
      have HCE : Hid _ := hcells
      have HML : Hid ((playP C R ns nl I n).out.length ≤ 1000000) := by
        have := playP_outs C R ns nl I n
        show _ ≤ _
        omega
      have HLE : Hid (w.heap.size + 1 + 1 + 1 < wr.heap.size) := HR3.out.lt
      clear hcells hbw3 hr3 hms4 hran
      generalize hM : playP C R ns nl I n = M at m0 m1 m2 HCE HML
      have HM : Hid (playP C R ns nl I n = M) := hM
      clear hM
      go_wp2
      have rr := ((HRS.out.set 0 (.int .i64 M.state)).set 1 (.slice ao3 M.out.length cap3)).set 2 (.int .i64 M.steps)
      have g0 := rr.cell 0
      have g1 := rr.cell 1
      have g2 := rr.cell 2
      simp at g0 g1 g2
      refine bodyPost_ret (v := .tuple #[.agg #[.int .i64 M.state, .slice ao3 M.out.length cap3, .int .i64 M.steps], .int .i64 0]) ?_ rfl ⟨⟨_, rfl, ?_⟩, ?_⟩
      · simp [results, Try.results33, go_sem, g0, g1, g2]
      · rw [HM.out]
        refine ⟨_, rfl, ao3, cap3, rfl, HML.out, fun hp => ?_⟩
        obtain ⟨gb, go, e, hgb, hgl, hgc⟩ := HCE.out hp
        refine ⟨gb, go, e, by simpa [World.setCell] using hgl, fun j hj => ?_⟩
        have hne : gb ≠ w.heap.size + 1 + 1 + 1 := by have := HLE.out; omega
        exact cell_other (cell_other (cell_other (hgc j hj) hne) hne) hne
      · exact ((HBW3.out.setCell (by dsimp only; omega) _).setCell (by dsimp only; omega) _).setCell (by dsimp only; omega) _
    obtain ⟨d0, d1, d2, d3, d4, d5⟩ := (HHE.out.later HBR.out).code k hlt
    have hrkl : k < R.length := by have := HZRC.out; omega
    obtain ⟨t0, t1, t2, t3, t4, t5, vb, va, t6, t7, hvb, hva⟩ := (HRW.out.later HBR.out).rows k hrkl
    obtain ⟨-, -, -, -, -, -, vb', va', t6', t7', hvbO, hvaO⟩ := HRW.out.rows k hrkl
    have e6 : vb' = vb := by have := step_cell HBR.out t6'; rw [t6] at this; injection this with this; exact this.symm
    have e7 : va' = va := by have := step_cell HBR.out t7'; rw [t7] at this; injection this with this; exact this.symm
    subst e6 e7
    have hio := HOK.out k hlt
    have hiu := known_of (HINS.out k hlt)
    have hri := HRI.out k hlt
    have HVB : Hid (MovesIs w vb' (R.getD k .zero).before) := hvbO
    have HVA : Hid (MovesIs w va' (R.getD k .zero).after) := hvaO
    obtain ⟨ab, cb, rfl, -, -⟩ := hvbO
    obtain ⟨aa, ca, rfl, -, -⟩ := hvaO
    obtain ⟨i, hi⟩ : ∃ i, i = C.getD k .zero := ⟨_, rfl⟩
    obtain ⟨r, hr⟩ : ∃ r, r = R.getD k .zero := ⟨_, rfl⟩
    rw [← hi] at d0 d1 d2 d3 d4 d5 hio hiu hri
    rw [← hr] at t0 t1 t2 t3 t4 t5 t6 t7 hri HVB HVA
    have HI : Hid (i = C.getD k .zero) := hi
    have HR : Hid (r = R.getD k .zero) := hr
    have HIO : Hid (InsOk B.length C.length i) := hio
    have HIU : Hid (10 < i.op → 21 ≤ i.op) := hiu
    have HRI2 : Hid (RowIs ns nl i r) := hri
    have HV1 : Hid (MvsAt ns nl w (.slice ab r.before.length cb) r.before) := ⟨HVB.out, hri.b6, hri.bm⟩
    have HV2 : Hid (MvsAt ns nl w (.slice aa r.after.length ca) r.after) := ⟨HVA.out, hri.a6, hri.am⟩
    have y1 : (k : Int) < (C.length : Int) := by omega
    have y1R : (k : Int) < (R.length : Int) := by omega
    have y2R : (R.length : Int) ≤ 40 := by have := HZRC.out; omega
    have hrl := hds.row.lt
    have hln := hds.len
    have y3 : w2.heap.size + 1 ≠ wr.heap.size := by omega
    have y5 : w2.heap.size + 1 ≠ wr.heap.size + 1 := by omega
    have y4 : w2.heap.size + 1 < wr.heap.size := by omega
    have y6 : w.heap.size + 1 + 1 < wr.heap.size := by omega
    have y7 : w.heap.size + 1 + 1 < wr.heap.size + 1 := by omega
    have y8 : b2 < wr.heap.size := (HRW.out.later HBR.out).lt
    have y8' : b2 < wr.heap.size + 1 := by omega
    have cl := step_cell (step_below hds.bel HBW0.out) HCL2.out
    clear hi hr hio hiu hds hBz hri hvb hva t6' t7'
    go_wp2
    obtain ⟨WB, hWB⟩ : ∃ WB, WB = (wr.alloc (.cells #[.int .i64 i.op, .int .i64 i.dest, .int .i64 i.a, .int .i64 i.b, .int .i64 i.c, .int .u32 i.n] 50)).alloc (.cells #[.int .i64 r.dest.kind, .int .i64 r.dest.n, .int .i64 r.a.kind, .int .i64 r.a.n, .int .i64 r.b.kind, .int .i64 r.b.n, .slice ab r.before.length cb, .slice aa r.after.length ca] 103) := ⟨_, rfl⟩
    have HAB : Hid (Below wr.heap.size wr WB) := by rw [hWB]; exact ((Below.refl _ _).alloc (Nat.le_refl _) _).alloc (by simp) _
    have i0 : WB.cell? ⟨wr.heap.size, 0, none⟩ = some (.int .i64 i.op) := by rw [hWB]; simp [go_sem]
    have i1 : WB.cell? ⟨wr.heap.size, 1, none⟩ = some (.int .i64 i.dest) := by rw [hWB]; simp [go_sem]
    have i2 : WB.cell? ⟨wr.heap.size, 2, none⟩ = some (.int .i64 i.a) := by rw [hWB]; simp [go_sem]
    have i3 : WB.cell? ⟨wr.heap.size, 3, none⟩ = some (.int .i64 i.b) := by rw [hWB]; simp [go_sem]
    have i4 : WB.cell? ⟨wr.heap.size, 4, none⟩ = some (.int .i64 i.c) := by rw [hWB]; simp [go_sem]
    have i5 : WB.cell? ⟨wr.heap.size, 5, none⟩ = some (.int .u32 i.n) := by rw [hWB]; simp [go_sem]
    have i6 : WB.cell? ⟨wr.heap.size + 1, 0, none⟩ = some (.int .i64 r.dest.kind) := by rw [hWB]; simp [go_sem]
    have i7 : WB.cell? ⟨wr.heap.size + 1, 1, none⟩ = some (.int .i64 r.dest.n) := by rw [hWB]; simp [go_sem]
    have i8 : WB.cell? ⟨wr.heap.size + 1, 2, none⟩ = some (.int .i64 r.a.kind) := by rw [hWB]; simp [go_sem]
    have i9 : WB.cell? ⟨wr.heap.size + 1, 3, none⟩ = some (.int .i64 r.a.n) := by rw [hWB]; simp [go_sem]
    have i10 : WB.cell? ⟨wr.heap.size + 1, 4, none⟩ = some (.int .i64 r.b.kind) := by rw [hWB]; simp [go_sem]
    have i11 : WB.cell? ⟨wr.heap.size + 1, 5, none⟩ = some (.int .i64 r.b.n) := by rw [hWB]; simp [go_sem]
    have i12 : WB.cell? ⟨wr.heap.size + 1, 6, none⟩ = some (.slice ab r.before.length cb) := by rw [hWB]; simp [go_sem]
    have i13 : WB.cell? ⟨wr.heap.size + 1, 7, none⟩ = some (.slice aa r.after.length ca) := by rw [hWB]; simp [go_sem]
    have hWBz : WB.heap.size = wr.heap.size + 2 := by rw [hWB]; simp
    rw [← hWB]
    clear hWB d0 d1 d2 d3 d4 d5 t0 t1 t2 t3 t4 t5 t6 t7 cl
    go_region_held3 (fun w' => w'.cell? ⟨wr.heap.size, 0, none⟩ = some (.int .i64 i.op) ∧ w'.cell? ⟨wr.heap.size, 1, none⟩ = some (.int .i64 i.dest) ∧ w'.cell? ⟨wr.heap.size, 2, none⟩ = some (.int .i64 i.a) ∧ w'.cell? ⟨wr.heap.size, 3, none⟩ = some (.int .i64 i.b) ∧ w'.cell? ⟨wr.heap.size, 4, none⟩ = some (.int .i64 i.c) ∧ w'.cell? ⟨wr.heap.size, 5, none⟩ = some (.int .u32 i.n) ∧ w'.cell? ⟨wr.heap.size + 1, 0, none⟩ = some (.int .i64 r.dest.kind) ∧ w'.cell? ⟨wr.heap.size + 1, 1, none⟩ = some (.int .i64 r.dest.n) ∧ w'.cell? ⟨wr.heap.size + 1, 2, none⟩ = some (.int .i64 r.a.kind) ∧ w'.cell? ⟨wr.heap.size + 1, 3, none⟩ = some (.int .i64 r.a.n) ∧ w'.cell? ⟨wr.heap.size + 1, 4, none⟩ = some (.int .i64 r.b.kind) ∧ w'.cell? ⟨wr.heap.size + 1, 5, none⟩ = some (.int .i64 r.b.n) ∧ w'.cell? ⟨wr.heap.size + 1, 6, none⟩ = some (.slice ab r.before.length cb) ∧ w'.cell? ⟨wr.heap.size + 1, 7, none⟩ = some (.slice aa r.after.length ca))
      ((go_split_ands; refine ⟨?_, ?_, ?_, ?_, ?_, ?_, ?_, ?_, ?_, ?_, ?_, ?_, ?_, ?_⟩ <;> first | assumption | exact step_cell hbc (by assumption) | exact cell_other (by assumption) (Ne.symm y3) | exact cell_other (by assumption) (Ne.symm y5) | (go_keep; done)))
      (first
        | (go_at_call 69; refine (between F caps w _ HDS.out (by omega) (by omega) (by omega) HV1.out HV2.out HOD.out (by omega) (by omega) (by omega)).mono ?_; rintro e wc ⟨⟨F2, caps2, rfl, hds⟩, hbc⟩; have HDZ : Hid _ := hds; have HBC : Hid (Below wb.heap.size wb wc) := hbc; have hrc : Row wc (w2.heap.size + 1) 1 cs := (by rw [← hW0z]; exact (((HD.out.row.below HAB.out).below HBA.out).below HBB.out).below hbc); have fz := hrc.frozen k; have cz := hrc.cell k; rw [List.getElem?_eq_getElem (by omega)] at cz; clear hds hrc)
        | (go_at_call 44; refine (deed (mb := mb) (sb := w2.heap.size) (db := W0.heap.size) HIO.out HIU.out _ (by omega) (by omega) (by omega) HE.out).mono ?_; rintro e wb ⟨⟨F, caps, rfl, hds⟩, hbc⟩; have HDS : Hid (DeedSpec (stoK ns nl) mb w2.heap.size W0.heap.size i (rowE r) wb F caps) := hds; have HBB : Hid (Below wa.heap.size wa wb) := hbc; have hwbz := hbc.size; have HOD : Hid (Old w wb) := (fun j hj => ((step_below hbc (step_below HBA.out (step_below HAB.out HBR.out))).block j hj)); clear hds)
        | (go_at_call 70; refine (placeEnds (mb := mb) (sb := w2.heap.size) (db := W0.heap.size) (ns := ns) (nl := nl) (givesB i.op = true) _ (by simp; omega) (by simp; omega) (by simp; omega) HRI2.out.a HRI2.out.b HRI2.out.d HVB.out HVA.out).mono ?_; rintro e wa ⟨⟨x, rfl, hE⟩, hbc⟩; have HE : Hid _ := hE; have HBA : Hid (Below WB.heap.size WB wa) := (step_below hbc (Below.refl _ _).drew); have hwaz := HBA.out.size; clear hE))
    go_wp2
    have hbw : Below wr.heap.size wr wc := step_below HBC.out (step_below HBB.out (step_below HBA.out HAB.out))
    have hsp : DeedSpec (stoK ns nl) mb w2.heap.size W0.heap.size (C.getD k .zero) (placeE (R.getD k .zero)) wc F2 caps2 := by rw [← HI.out, ← HR.out]; exact HDZ.out
    have hst := deeds_step HD.out hlt hbw hsp
    rw [hW0z] at hst
    exact ⟨⟨k + 1, _, by omega, by go_num, hst⟩, by simp [intOf]; omega⟩

theorem doneO : DoneSpec := by
  intro pv lv iv B C s slots R I steps w hp hl hR hI
  by_cases hx : wrongP B C s slots R I.length steps = 0
  · exact doneRun_yes pv lv iv B C s slots R I steps w hp hl hR hI hx
  · exact doneRun_no pv lv iv B C s slots R I steps w hp hl hI hx

end Go.Proofs.Ytcmnmogmdhofcaa.form
