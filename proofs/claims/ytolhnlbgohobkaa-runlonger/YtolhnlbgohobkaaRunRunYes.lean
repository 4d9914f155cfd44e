/- The program's own run.Run, where nothing is wrong: it shows what the machine on plain numbers shows. -/
import Derived.Test.YtolhnlbgohobkaaRunRun
namespace Go.Proofs.Ytolhnlbgohobkaa.form
open Go.RowKit Go.Proofs.Ytolhnlbgohobkaa.num
set_option linter.unusedVariables false
attribute [local go_sem ↓] Go.wp_at_zero Go.wp_at_succ

theorem wok_act {B : List Bool} {nC : Nat} {i : LIns} {s : List Int} {x : Int} (h : insB B nC i = true) (hi : InsOk B.length nC i) (hl : s.length = B.length) (hb : ∀ j, U64i (s.getD j 0)) (hw : WOk B s) (hx0 : 0 ≤ x) (hx1 : x < 4294967296) : WOk B ((tempE i).act i s x) := by
  show WOk B (if givesB i.op = true then s.set i.dest.toNat (gvI i (s.getD i.a.toNat 0) (s.getD i.b.toNat 0) x) else s)
  split
  · rename_i hg
    obtain ⟨hd0, hd1⟩ := hi.d hg
    intro j hj hB
    by_cases hjd : i.dest.toNat = j
    · rw [show (s.set i.dest.toNat (gvI i (s.getD i.a.toNat 0) (s.getD i.b.toNat 0) x)).getD j 0 = gvI i (s.getD i.a.toNat 0) (s.getD i.b.toNat 0) x by rw [hjd]; simp [List.getD, hl, hj]]
      exact wok_give h hi hw hb hx0 hx1 hg (by rw [hjd]; exact hB)
    · have := hw j hj hB
      generalize i.dest.toNat = d at hjd ⊢
      simpa [List.getD, hjd] using this
  · exact hw

set_option maxRecDepth 100000 in
set_option maxHeartbeats 4000000 in
theorem runRun_yes (v : Value) (B : List Bool) (C : List LIns) (iv : Value) (I : List Int) (steps : Int) (w : World) (h : ProgIs w v B C) (hI : InArg w iv I) (hx : wrongI B C I.length steps = 0) :
    Calls Try.prog 20 #[v, iv, .int .i64 steps] w fun e w' =>
      (∃ sv, e = .returned (.tuple #[sv, .int .i64 (wrongI B C I.length steps)]) ∧ ShownIs w' sv (resM B C I steps).state (resM B C I steps).out (resM B C I steps).steps) ∧ Below w.heap.size w w' := by
  have HIA : Hid (InArg w iv I) := hI
  have h0 := h
  obtain ⟨⟨a0, c0, a1, c1, rfl, hh⟩, -, -, hnum⟩ := h0
  have HP : Hid (ProgIs w (.agg #[.slice a0 B.length c0, .slice a1 C.length c1]) B C) := h
  obtain ⟨ai, ci, rfl, -, -, hib, -⟩ := hI
  have HIB : Hid (∀ j, j < I.length → 0 ≤ I.getD j 0 ∧ I.getD j 0 < 4294967296) := hib
  obtain ⟨hmay, h40, hs0, hs1⟩ := wrong_zero hx
  have hsz : sizesB B C = true := by unfold refMayB at hmay; simp only [Bool.and_eq_true] at hmay; exact hmay.1
  obtain ⟨s1, s2, s3, s4⟩ := sizes_of hsz
  obtain ⟨b0, o0, b1, o1, rfl, rfl, hheld⟩ := hh s1 s3
  have HHE : Hid (Held w b0 o0 b1 o1 B C) := hheld
  have HOK : Hid (∀ k, k < C.length → InsOk B.length C.length (C.getD k .zero)) := all_insOk hmay hnum
  have hinsB : ∀ k, k < C.length → insB B C.length (C.getD k .zero) = true := by
    intro k hk
    unfold refMayB at hmay
    simp only [Bool.and_eq_true] at hmay
    exact List.all_eq_true.1 hmay.2 (C.getD k .zero) (by simp [List.getD, hk])
  have HINS : Hid (∀ k, k < C.length → insB B C.length (C.getD k .zero) = true) := hinsB
  obtain ⟨n, hn⟩ : ∃ n : Nat, steps = n := Int.eq_ofNat_of_zero_le hs0
  subst hn
  have hres : resM B C I n = playM B C I n := by unfold resM; rw [if_pos hx]; simp
  have HMW : Hid (mayB B C = true) := by show mayB B C = true; rw [may_same, hmay]
  have HWN : Hid (wrongN I.length n = 0) := by
    have := wrongN_of (B := B) (C := C) (nI := I.length) (steps := (n : Int))
    rw [hmay, if_pos rfl, hx] at this
    exact this.symm
  rw [hres, hx]
  have hb1 := hheld.lt1
  have HW : Hid (Below w.heap.size w ((w.alloc (.cells #[.slice (some ⟨b0, o0, none⟩) B.length c0, .slice (some ⟨b1, o1, none⟩) C.length c1] 31)).alloc (.cells #[.int .i64 0, .slice none 0 0, .int .i64 0] 35))) := ((Below.refl _ _).alloc (Nat.le_refl _) _).alloc (by simp) _
  have z40 : (C.length : Int) ≤ 40 := by omega
  have z3 : (n : Int) ≤ 3000 := by omega
  have hmk := fun wx => run_make_row' (P := Try.prog) 75 1 .nilFunc 8 Try.underlying75 infoFunc rfl .i64 .i64 C.length (by omega) (by omega) wx
  clear hmay hsz hheld hinsB hres hnum hh hib hx h hs0 hs1
  go_enter Try.func20, Try.ntmps20
  go_wp2_with fail
  go_at_call 18
  refine (may _ B C _ (HP.out.later HW.out)).mono ?_
  rw [HMW.out]
  rintro e w1 ⟨rfl, hb1w⟩
  have hr1 := (Row.new (w.alloc (.cells #[.slice (some ⟨b0, o0, none⟩) B.length c0, .slice (some ⟨b1, o1, none⟩) C.length c1] 31)) 35 [.int .i64 0, .slice none 0 0, .int .i64 0]).below hb1w
  simp at hr1
  have HR1 : Hid (Row w1 (w.heap.size + 1) 35 [.int .i64 0, .slice none 0 0, .int .i64 0]) := hr1
  have HC1 : Hid (w1.cell? ⟨w.heap.size, 1, none⟩ = some (.slice (some ⟨b1, o1, none⟩) C.length c1)) := step_cell hb1w (by simp [go_sem])
  have HB1 : Hid (Below w.heap.size w w1) := step_below hb1w HW.out
  have hz1 : w.heap.size + 1 < w1.heap.size := hr1.lt
  clear hr1 hb1w
  go_wp2_with fail
  go_at_call 42
  refine (wrongO _ _ _ _ _).mono ?_
  rw [HWN.out]
  rintro e w1' ⟨rfl, hw2⟩
  obtain rfl := hw2.symm
  clear hw2
  go_wp2_with fail
  go_at_call 43
  refine (newMachine _ I _ (HIA.out.later HB1.out) h40).mono ?_
  rintro e w2 ⟨mb, iv', rfl, hm1, hm2, hrow, hnew, hb2⟩
  have cp2 := step_cell hb2 HC1.out
  have HR2 : Hid (Row w2 (w.heap.size + 1) 35 [.int .i64 0, .slice none 0 0, .int .i64 0]) := HR1.out.below hb2
  have HB2 : Hid (Below w.heap.size w w2) := step_below hb2 HB1.out
  have HROW : Hid (Row w2 mb 84 (macV 0 0 0 (.slice none 0 0) iv')) := hrow
  have HNEW : Hid (InNew w2 mb iv' I) := hnew
  have hz2 : w.heap.size + 1 < w2.heap.size := HR2.out.lt
  have q0 : w.heap.size < w2.heap.size := by omega
  have q1 : w.heap.size < w2.heap.size + 1 := by omega
  have HM2 : Hid (w2.heap.size = mb + 1) := hm2
  have hmlt : mb < w2.heap.size := by omega
  clear hrow hnew hb2 hm2
  obtain ⟨W0, hW0⟩ : ∃ W0, W0 = w2.alloc (.cells #[.int .u64 0, .int .u64 0, .int .u64 0, .int .u64 0, .int .u64 0, .int .u64 0, .int .u64 0, .int .u64 0, .int .u64 0, .int .u64 0, .int .u64 0, .int .u64 0] 74) := ⟨_, rfl⟩
  have hW0z : W0.heap.size = w2.heap.size + 1 := by rw [hW0]; simp
  have HBW0 : Hid (Below w2.heap.size w2 W0) := by rw [hW0]; exact (Below.refl _ _).alloc (Nat.le_refl _) _
  have HSTO : Hid (Row W0 w2.heap.size 74 ((tempK B.length).enc (List.replicate B.length (0 : Int)))) := by
    show Row W0 w2.heap.size 74 ((arr (List.replicate B.length 0)).map (Value.int .u64))
    rw [arr_start _ s2, hW0]
    exact Row.new w2 _ _
  have HD0 : Hid (DeedsS (tempK B.length) W0 mb w2.heap.size C (fun k => tempE (C.getD k .zero)) 0 (List.replicate C.length .nilFunc) (W0.alloc (.cells (madeCells #[Value.nilFunc] C.length) 1))) := deeds_start _ _ _ _ _ _
  go_wp2
  rw [← hW0]
  go_loopw [36] (fun t wr => ∃ (k : Nat) (cs : List Value), k ≤ C.length ∧ t = .int .i64 k ∧ DeedsS (tempK B.length) W0 mb w2.heap.size C (fun k => tempE (C.getD k .zero)) k cs wr) (fun t _ => C.length - (intOf t).toNat)
  case atStart => exact ⟨0, _, by omega, rfl, HD0.out⟩
  case round =>
    obtain ⟨k, cs, hk, rfl, hds⟩ := hrel
    have HD : Hid (DeedsS (tempK B.length) W0 mb w2.heap.size C (fun k => tempE (C.getD k .zero)) k cs wr) := hds
    have hBz := hds.bel.size
    have HBR : Hid (Below w.heap.size w wr) := step_below hds.bel (step_below HBW0.out HB2.out)
    by_cases hlt : k < C.length
    case neg =>
      obtain rfl : k = C.length := by omega
      have y9 : ¬ (C.length : Int) < (C.length : Int) := by omega
      clear hds
      have hroww := HD.out.row
      have hmsw : MS (tempK B.length) mb w2.heap.size wr.heap.size (List.replicate B.length (0 : Int)) (.slice none 0 0) [] 0 0 iv' I 0 wr :=
        start_ms HROW.out HNEW.out (step_below HD.out.bel HBW0.out) (HSTO.out.below HD.out.bel) (temps_start _ s2) h40 HIB.out hmlt (by omega) (Nat.le_refl _)
      have HMSW : Hid _ := hmsw
      have HR3 : Hid (Row wr (w.heap.size + 1) 35 [.int .i64 0, .slice none 0 0, .int .i64 0]) := HR2.out.below (step_below HD.out.bel HBW0.out)
      have HGO : Hid (Calls Try.prog 46 #[.pointer (some ⟨mb, 0, none⟩), .slice (some ⟨w2.heap.size + 1, 0, none⟩) C.length C.length, .int .i64 n] wr fun e w' =>
          e = .returned (.tuple #[]) ∧ Stopped (tempK B.length) mb w2.heap.size wr.heap.size (playM B C I n).gen wr w') := by
        show Calls _ _ _ _ _
        rw [play_gen, ← hW0z]
        exact goOn (tempK B.length) (WOk B) mb w2.heap.size W0.heap.size n B.length C (fun k => tempE (C.getD k .zero)) I (List.replicate B.length (0 : Int)) cs _ _ wr s3 s4 (by omega) HOK.out HIB.out (fun j hj s x h1 h2 h3 h4 => wok_act (HINS.out j hj) (HOK.out j hj) h2.1 h2.2 h1 h3 h4) (fun j hj h5 s h1 h2 => pair_narrow (HINS.out j hj) (HOK.out j hj) h1 h5) (wok_start B) HD.out.row HD.out.len HD.out.spec HD.out.row.lt (by omega) (by omega) HMSW.out
      clear hroww hmsw
      go_wp2_with fail
      go_at_call 46
      refine Calls.mono HGO.out ?_
      rintro e w3 ⟨rfl, ⟨ts, ov, iv3, I3, pc3, hms3⟩, hran⟩
      have hms4 : MS (tempK B.length) mb w2.heap.size wr.heap.size ts ov (playM B C I n).out (playM B C I n).state (playM B C I n).steps iv3 I3 pc3 w3 := hms3
      clear hms3
      obtain ⟨ao, cap, hov, hcells⟩ := own_form32 hms4.own
      subst hov
      have m0 := hms4.cst
      have m1 := hms4.cov
      have m2 := hms4.ck
      have hr3 : Row w3 (w.heap.size + 1) 35 [.int .i64 0, .slice none 0 0, .int .i64 0] := by
        have := HR3.out
        unfold Row at *
        rw [hran.block _ (by omega) (by omega) (by omega)]
        exact this
      have HRS : Hid (Row w3 (w.heap.size + 1) 35 [.int .i64 0, .slice none 0 0, .int .i64 0]) := hr3
      have f0 := hr3.frozen 0
      have f1 := hr3.frozen 1
      have f2 := hr3.frozen 2
      have r0 := hr3.cell 0
      have r1 := hr3.cell 1
      have r2 := hr3.cell 2
      simp at r0 r1 r2
      have hbw3 : Below w.heap.size w w3 := HBR.out.trans ⟨hran.os, hran.tape, hran.output, hran.size, fun j hj => hran.block j (by have := HBR.out.size; omega) (by omega) (by omega)⟩
      have HBW3 : Hid (Below w.heap.size w w3) := hbw3
      have HCE : Hid _ := hcells
      have HML : Hid ((playM B C I n).out.length ≤ 1000000) := by
        have := play_outs B C I n
        show _ ≤ _
        omega
      have HLE : Hid (w.heap.size + 1 < wr.heap.size) := HR3.out.lt
      clear hcells hbw3 hr3 hms4 hran
      generalize hM : playM B C I n = M at m0 m1 m2 HCE HML
      have HM : Hid (playM B C I n = M) := hM
      clear hM
      go_wp2
      have rr := ((HRS.out.set 0 (.int .i64 M.state)).set 1 (.slice ao M.out.length cap)).set 2 (.int .i64 M.steps)
      have g0 := rr.cell 0
      have g1 := rr.cell 1
      have g2 := rr.cell 2
      simp at g0 g1 g2
      refine bodyPost_ret (v := .tuple #[.agg #[.int .i64 M.state, .slice ao M.out.length cap, .int .i64 M.steps], .int .i64 0]) ?_ rfl ⟨⟨_, rfl, ?_⟩, ?_⟩
      · simp [results, Try.results20, go_sem, g0, g1, g2]
      · rw [HM.out]
        refine ⟨_, rfl, ao, cap, rfl, HML.out, fun hp => ?_⟩
        obtain ⟨gb, go, e, hgb, hgl, hgc⟩ := HCE.out hp
        refine ⟨gb, go, e, by simpa [World.setCell] using hgl, fun j hj => ?_⟩
        have hne : gb ≠ w.heap.size + 1 := by have := HLE.out; omega
        exact cell_other (cell_other (cell_other (hgc j hj) hne) hne) hne
      · exact ((HBW3.out.setCell (by dsimp only; omega) _).setCell (by dsimp only; omega) _).setCell (by dsimp only; omega) _
    obtain ⟨d0, d1, d2, d3, d4, d5⟩ := (HHE.out.later HBR.out).code k hlt
    have hio := HOK.out k hlt
    have hiu := known_of (HINS.out k hlt)
    obtain ⟨i, hi⟩ : ∃ i, i = C.getD k .zero := ⟨_, rfl⟩
    rw [← hi] at d0 d1 d2 d3 d4 d5 hio hiu
    have HI : Hid (i = C.getD k .zero) := hi
    have HIO : Hid (InsOk B.length C.length i) := hio
    have HIU : Hid (10 < i.op → 21 ≤ i.op) := hiu
    have y1 : (k : Int) < (C.length : Int) := by omega
    have hrl := hds.row.lt
    have hln := hds.len
    have y3 : w2.heap.size + 1 ≠ wr.heap.size := by omega
    have y4 : w2.heap.size + 1 < wr.heap.size := by omega
    clear hi hio hiu hds hBz
    go_wp2
    obtain ⟨WA, hWA⟩ : ∃ WA, WA = wr.alloc (.cells #[.int .i64 i.op, .int .i64 i.dest, .int .i64 i.a, .int .i64 i.b, .int .i64 i.c, .int .u32 i.n] 50) := ⟨_, rfl⟩
    have HAB : Hid (Below wr.heap.size wr WA) := by rw [hWA]; exact (Below.refl _ _).alloc (Nat.le_refl _) _
    have i0 : WA.cell? ⟨wr.heap.size, 0, none⟩ = some (.int .i64 i.op) := by rw [hWA]; simp [go_sem]
    have i1 : WA.cell? ⟨wr.heap.size, 1, none⟩ = some (.int .i64 i.dest) := by rw [hWA]; simp [go_sem]
    have i2 : WA.cell? ⟨wr.heap.size, 2, none⟩ = some (.int .i64 i.a) := by rw [hWA]; simp [go_sem]
    have i3 : WA.cell? ⟨wr.heap.size, 3, none⟩ = some (.int .i64 i.b) := by rw [hWA]; simp [go_sem]
    have i4 : WA.cell? ⟨wr.heap.size, 4, none⟩ = some (.int .i64 i.c) := by rw [hWA]; simp [go_sem]
    have i5 : WA.cell? ⟨wr.heap.size, 5, none⟩ = some (.int .u32 i.n) := by rw [hWA]; simp [go_sem]
    have hWAz : WA.heap.size = wr.heap.size + 1 := by rw [hWA]; simp
    rw [← hWA]
    clear hWA d0 d1 d2 d3 d4 d5
    go_region_held3 (fun w' => w'.cell? ⟨wr.heap.size, 0, none⟩ = some (.int .i64 i.op) ∧ w'.cell? ⟨wr.heap.size, 1, none⟩ = some (.int .i64 i.dest) ∧ w'.cell? ⟨wr.heap.size, 2, none⟩ = some (.int .i64 i.a) ∧ w'.cell? ⟨wr.heap.size, 3, none⟩ = some (.int .i64 i.b) ∧ w'.cell? ⟨wr.heap.size, 4, none⟩ = some (.int .i64 i.c) ∧ w'.cell? ⟨wr.heap.size, 5, none⟩ = some (.int .u32 i.n))
      ((go_split_ands; refine ⟨?_, ?_, ?_, ?_, ?_, ?_⟩ <;> first | assumption | exact step_cell hbc (by assumption) | exact cell_other (by assumption) (Ne.symm y3) | (go_keep; done)))
      (first
        | (have hgd := HE; clear hgd; go_at_call 44; refine (deed (mb := mb) (sb := w2.heap.size) (db := W0.heap.size) HIO.out HIU.out _ (by omega) (by omega) (by omega) HE.out).mono ?_; rintro e wb ⟨⟨F, caps, rfl, hds⟩, hbc⟩; have HDS : Hid _ := hds; have HBB : Hid _ := hbc; have hrb : Row wb (w2.heap.size + 1) 1 cs := (by rw [← hW0z]; exact ((HD.out.row.below HAB.out).below HBA.out).below hbc); have fz := hrb.frozen k; have cz := hrb.cell k; rw [List.getElem?_eq_getElem (by omega)] at cz; clear hds hrb)
        | (go_at_call 45; refine (tempEnds (mb := mb) (sb := w2.heap.size) (db := W0.heap.size) C.length HIO.out s2 _ (by simp; omega) (by simp; omega) (by simp; omega)).mono ?_; rintro e wa ⟨⟨x, rfl, hE⟩, hbc⟩; have HE : Hid _ := hE; have HBA : Hid (Below WA.heap.size WA wa) := (step_below hbc (Below.refl _ _).drew); have hwaz := HBA.out.size; clear hE))
    go_wp2
    have hbw : Below wr.heap.size wr wb := step_below HBB.out (step_below HBA.out HAB.out)
    have hsp : DeedSpec (tempK B.length) mb w2.heap.size W0.heap.size (C.getD k .zero) (tempE (C.getD k .zero)) wb F caps := by rw [← HI.out]; exact HDS.out
    have hst := deeds_step HD.out hlt hbw hsp
    rw [hW0z] at hst
    exact ⟨⟨k + 1, _, by omega, by go_num, hst⟩, by simp [intOf]; omega⟩

theorem runRun (v : Value) (B : List Bool) (C : List LIns) (iv : Value) (I : List Int) (steps : Int) (w : World) (h : ProgIs w v B C) (hI : InArg w iv I) :
    Calls Try.prog 20 #[v, iv, .int .i64 steps] w fun e w' =>
      (∃ sv, e = .returned (.tuple #[sv, .int .i64 (wrongI B C I.length steps)]) ∧ ShownIs w' sv (resM B C I steps).state (resM B C I steps).out (resM B C I steps).steps) ∧ Below w.heap.size w w' := by
  by_cases hx : wrongI B C I.length steps = 0
  · exact runRun_yes v B C iv I steps w h hI hx
  · exact runRun_no v B C iv I steps w h hI hx

end Go.Proofs.Ytolhnlbgohobkaa.form
