/- The program's own run.Run, where nothing is wrong: it shows what the machine on plain numbers shows. -/
import Derived.BigRegion
import Derived.Test.YtikhedkhgpjaaacGreatDoorW37
import Derived.Test.YtikhedkhgpjaaacGreatDoorW34
import Derived.Test.YtikhedkhgpjaaacGreatDoorW16
import Derived.Test.YtikhedkhgpjaaacGreatDoorW35
import Derived.Test.YtikhedkhgpjaaacGreatDoorW36

namespace Go.Proofs.YtikhedkhgpjaaacGreatDoor
set_option linter.unusedVariables false
namespace form
open Go.RowKit num
attribute [local go_sem ↓] Go.wp_at_zero Go.wp_at_succ
theorem wok_act {B : List Bool} {nC : Nat} {i : LIns} {s : List Int} {x : Int} (h : insB B nC i = true) (hi : InsOk B.length nC i) (hl : s.length = B.length) (hb : ∀ j, U64i (s.getD j 0)) (hw : WOk B s) (hx0 : 0 ≤ x) (hx1 : x < 4294967296) : WOk B ((tempE i).act i s x) := by
  show WOk B (if givesB i.op = true then s.set i.dest.toNat (gvI i (s.getD i.a.toNat 0) (s.getD i.b.toNat 0) x) else s)
  split
  · rename_i hg
    obtain ⟨hd0, hd1⟩ := hi.d hg
    intro j hj hB
    by_cases hjd : i.dest.toNat = j
    · rw [show (s.set i.dest.toNat (gvI i (s.getD i.a.toNat 0) (s.getD i.b.toNat 0) x)).getD j 0 = gvI i (s.getD i.a.toNat 0) (s.getD i.b.toNat 0) x by rw [hjd]; simp [List.getD, hl, hj]]
      exact wok_give h hi hw hb hx0 hx1 hg (by rw [hjd]; exact hB)
    · have := hw j hj hB
      generalize i.dest.toNat = d at hjd ⊢
      simpa [List.getD, hjd] using this
  · exact hw
set_option maxRecDepth 100000 in
set_option maxHeartbeats 4000000 in
theorem runRun_yes (v : Value) (B : List Bool) (C : List LIns) (iv : Value) (I : List Int) (steps : Int) (w : World) (h : ProgIs w v B C) (hI : InArg w iv I) (hx : wrongI B C I.length steps = 0) :
    Calls Tryz.prog 20 #[v, iv, .int .i64 steps] w fun e w' =>
      (∃ sv, e = .returned (.tuple #[sv, .int .i64 (wrongI B C I.length steps)]) ∧ ShownIs w' sv (resM B C I steps).state (resM B C I steps).out (resM B C I steps).steps) ∧ Below w.heap.size w w' := by
  have HIA : Hid (InArg w iv I) := hI
  have h0 := h
  obtain ⟨⟨a0, c0, a1, c1, rfl, hh⟩, -, -, hnum⟩ := h0
  have HP : Hid (ProgIs w (.agg #[.slice a0 B.length c0, .slice a1 C.length c1]) B C) := h
  obtain ⟨ai, ci, rfl, -, -, hib, -⟩ := hI
  have HIB : Hid (∀ j, j < I.length → 0 ≤ I.getD j 0 ∧ I.getD j 0 < 4294967296) := hib
  obtain ⟨hmay, h40, hs0, hs1⟩ := wrong_zero hx
  have hsz : sizesB B C = true := by unfold refMayB at hmay; simp only [Bool.and_eq_true] at hmay; exact hmay.1
  obtain ⟨s1, s2, s3, s4⟩ := sizes_of hsz
  obtain ⟨b0, o0, b1, o1, rfl, rfl, hheld⟩ := hh s1 s3
  have HHE : Hid (Held w b0 o0 b1 o1 B C) := hheld
  have HOK : Hid (∀ k, k < C.length → InsOk B.length C.length (C.getD k .zero)) := all_insOk hmay hnum
  have hinsB : ∀ k, k < C.length → insB B C.length (C.getD k .zero) = true := by
    intro k hk
    unfold refMayB at hmay
    simp only [Bool.and_eq_true] at hmay
    exact List.all_eq_true.1 hmay.2 (C.getD k .zero) (by simp [List.getD, hk])
  have HINS : Hid (∀ k, k < C.length → insB B C.length (C.getD k .zero) = true) := hinsB
  obtain ⟨n, hn⟩ : ∃ n : Nat, steps = n := Int.eq_ofNat_of_zero_le hs0
  subst hn
  have hres : resM B C I n = playM B C I n := by unfold resM; rw [if_pos hx]; simp
  have HMW : Hid (mayB B C = true) := by show mayB B C = true; rw [may_same, hmay]
  have HWN : Hid (wrongN I.length n = 0) := by
    have := wrongN_of (B := B) (C := C) (nI := I.length) (steps := (n : Int))
    rw [hmay, if_pos rfl, hx] at this
    exact this.symm
  rw [hres, hx]
  have hb1 := hheld.lt1
  have HW : Hid (Below w.heap.size w ((w.alloc (.cells #[.slice (some ⟨b0, o0, none⟩) B.length c0, .slice (some ⟨b1, o1, none⟩) C.length c1] 27)).alloc (.cells #[.int .i64 0, .slice none 0 0, .int .i64 0] 56))) := ((Below.refl _ _).alloc (Nat.le_refl _) _).alloc (by simp) _
  have z40 : (C.length : Int) ≤ 40 := by omega
  have z3 : (n : Int) ≤ 3000 := by omega
  have hmk := fun wx => run_make_row' (P := Tryz.prog) 86 1 .nilFunc 8 Tryz.underlying86 infoFunc rfl .i64 .i64 C.length (by omega) (by omega) wx
  clear hmay hsz hheld hinsB hres hnum hh hib hx h hs0 hs1
  go_enter Tryz.func20, Tryz.ntmps20
  go_wp2_with fail
  go_at_call 33
  refine (may _ B C _ (HP.out.later HW.out)).mono ?_
  rw [HMW.out]
  rintro e w1 ⟨rfl, hb1w⟩
  have hr1 := (Row.new (w.alloc (.cells #[.slice (some ⟨b0, o0, none⟩) B.length c0, .slice (some ⟨b1, o1, none⟩) C.length c1] 27)) 56 [.int .i64 0, .slice none 0 0, .int .i64 0]).below hb1w
  simp at hr1
  have HR1 : Hid (Row w1 (w.heap.size + 1) 56 [.int .i64 0, .slice none 0 0, .int .i64 0]) := hr1
  have HC1 : Hid (w1.cell? ⟨w.heap.size, 1, none⟩ = some (.slice (some ⟨b1, o1, none⟩) C.length c1)) := step_cell hb1w (by simp [go_sem])
  have HB1 : Hid (Below w.heap.size w w1) := step_below hb1w HW.out
  have hz1 : w.heap.size + 1 < w1.heap.size := hr1.lt
  clear hr1 hb1w
  go_wp2_with fail
  go_at_call 34
  refine (wrongO _ _ _ _ _).mono ?_
  rw [HWN.out]
  rintro e w1' ⟨rfl, hw2⟩
  obtain rfl := hw2.symm
  clear hw2
  go_wp2_with fail
  go_at_call 35
  refine (newMachine _ I _ (HIA.out.later HB1.out) h40).mono ?_
  rintro e w2 ⟨mb, iv', rfl, hm1, hm2, hrow, hnew, hb2⟩
  have cp2 := step_cell hb2 HC1.out
  have HR2 : Hid (Row w2 (w.heap.size + 1) 56 [.int .i64 0, .slice none 0 0, .int .i64 0]) := HR1.out.below hb2
  have HB2 : Hid (Below w.heap.size w w2) := step_below hb2 HB1.out
  have HROW : Hid (Row w2 mb 95 (macV 0 0 0 (.slice none 0 0) iv')) := hrow
  have HNEW : Hid (InNew w2 mb iv' I) := hnew
  have hz2 : w.heap.size + 1 < w2.heap.size := HR2.out.lt
  have q0 : w.heap.size < w2.heap.size := by omega
  have q1 : w.heap.size < w2.heap.size + 1 := by omega
  have HM2 : Hid (w2.heap.size = mb + 1) := hm2
  have hmlt : mb < w2.heap.size := by omega
  clear hrow hnew hb2 hm2
  obtain ⟨W0, hW0⟩ : ∃ W0, W0 = w2.alloc (.cells #[.int .u64 0, .int .u64 0, .int .u64 0, .int .u64 0, .int .u64 0, .int .u64 0, .int .u64 0, .int .u64 0, .int .u64 0, .int .u64 0, .int .u64 0, .int .u64 0] 85) := ⟨_, rfl⟩
  have hW0z : W0.heap.size = w2.heap.size + 1 := by rw [hW0]; simp
  have HBW0 : Hid (Below w2.heap.size w2 W0) := by rw [hW0]; exact (Below.refl _ _).alloc (Nat.le_refl _) _
  have HSTO : Hid (Row W0 w2.heap.size 85 ((tempK B.length).enc (List.replicate B.length (0 : Int)))) := by
    show Row W0 w2.heap.size 85 ((arr (List.replicate B.length 0)).map (Value.int .u64))
    rw [arr_start _ s2, hW0]
    exact Row.new w2 _ _
  have HD0 : Hid (DeedsS (tempK B.length) W0 mb w2.heap.size C (fun k => tempE (C.getD k .zero)) 0 (List.replicate C.length .nilFunc) (W0.alloc (.cells (madeCells #[Value.nilFunc] C.length) 1))) := deeds_start _ _ _ _ _ _
  go_wp2
  rw [← hW0]
  go_loopw [36] (fun t wr => ∃ (k : Nat) (cs : List Value), k ≤ C.length ∧ t = .int .i64 k ∧ DeedsS (tempK B.length) W0 mb w2.heap.size C (fun k => tempE (C.getD k .zero)) k cs wr) (fun t _ => C.length - (intOf t).toNat)
  case atStart => exact ⟨0, _, by omega, rfl, HD0.out⟩
  case round =>
    obtain ⟨k, cs, hk, rfl, hds⟩ := hrel
    have HD : Hid (DeedsS (tempK B.length) W0 mb w2.heap.size C (fun k => tempE (C.getD k .zero)) k cs wr) := hds
    have hBz := hds.bel.size
    have HBR : Hid (Below w.heap.size w wr) := step_below hds.bel (step_below HBW0.out HB2.out)
    by_cases hlt : k < C.length
    case neg =>
      obtain rfl : k = C.length := by omega
      have y9 : ¬ (C.length : Int) < (C.length : Int) := by omega
      clear hds
      have hroww := HD.out.row
      have hmsw : MS (tempK B.length) mb w2.heap.size wr.heap.size (List.replicate B.length (0 : Int)) (.slice none 0 0) [] 0 0 iv' I 0 wr :=
        start_ms HROW.out HNEW.out (step_below HD.out.bel HBW0.out) (HSTO.out.below HD.out.bel) (temps_start _ s2) h40 HIB.out hmlt (by omega) (Nat.le_refl _)
      have HMSW : Hid _ := hmsw
      have HR3 : Hid (Row wr (w.heap.size + 1) 56 [.int .i64 0, .slice none 0 0, .int .i64 0]) := HR2.out.below (step_below HD.out.bel HBW0.out)
      have HGO : Hid (Calls Tryz.prog 38 #[.pointer (some ⟨mb, 0, none⟩), .slice (some ⟨w2.heap.size + 1, 0, none⟩) C.length C.length, .int .i64 n] wr fun e w' =>
          e = .returned (.tuple #[]) ∧ Stopped (tempK B.length) mb w2.heap.size wr.heap.size (playM B C I n).gen wr w') := by
        show Calls _ _ _ _ _
        rw [play_gen, ← hW0z]
        exact goOn (tempK B.length) (WOk B) mb w2.heap.size W0.heap.size n B.length C (fun k => tempE (C.getD k .zero)) I (List.replicate B.length (0 : Int)) cs _ _ wr s3 s4 (by omega) HOK.out HIB.out (fun j hj s x h1 h2 h3 h4 => wok_act (HINS.out j hj) (HOK.out j hj) h2.1 h2.2 h1 h3 h4) (fun j hj h5 s h1 h2 => pair_narrow (HINS.out j hj) (HOK.out j hj) h1 h5) (wok_start B) HD.out.row HD.out.len HD.out.spec HD.out.row.lt (by omega) (by omega) HMSW.out
      clear hroww hmsw
      go_wp2_with fail
      go_at_call 38
      refine Calls.mono HGO.out ?_
      rintro e w3 ⟨rfl, ⟨ts, ov, iv3, I3, pc3, hms3⟩, hran⟩
      have hms4 : MS (tempK B.length) mb w2.heap.size wr.heap.size ts ov (playM B C I n).out (playM B C I n).state (playM B C I n).steps iv3 I3 pc3 w3 := hms3
      clear hms3
      obtain ⟨ao, cap, hov, hcells⟩ := own_form32 hms4.own
      subst hov
      have m0 := hms4.cst
      have m1 := hms4.cov
      have m2 := hms4.ck
      have hr3 : Row w3 (w.heap.size + 1) 56 [.int .i64 0, .slice none 0 0, .int .i64 0] := by
        have := HR3.out
        unfold Row at *
        rw [hran.block _ (by omega) (by omega) (by omega)]
        exact this
      have HRS : Hid (Row w3 (w.heap.size + 1) 56 [.int .i64 0, .slice none 0 0, .int .i64 0]) := hr3
      have f0 := hr3.frozen 0
      have f1 := hr3.frozen 1
      have f2 := hr3.frozen 2
      have r0 := hr3.cell 0
      have r1 := hr3.cell 1
      have r2 := hr3.cell 2
      simp at r0 r1 r2
      have hbw3 : Below w.heap.size w w3 := HBR.out.trans ⟨hran.os, hran.tape, hran.output, hran.size, fun j hj => hran.block j (by have := HBR.out.size; omega) (by omega) (by omega)⟩
      have HBW3 : Hid (Below w.heap.size w w3) := hbw3
      have HCE : Hid _ := hcells
      have HML : Hid ((playM B C I n).out.length ≤ 1000000) := by
        have := play_outs B C I n
        show _ ≤ _
        omega
      have HLE : Hid (w.heap.size + 1 < wr.heap.size) := HR3.out.lt
      clear hcells hbw3 hr3 hms4 hran
      generalize hM : playM B C I n = M at m0 m1 m2 HCE HML
      have HM : Hid (playM B C I n = M) := hM
      clear hM
      go_wp2
      have rr := ((HRS.out.set 0 (.int .i64 M.state)).set 1 (.slice ao M.out.length cap)).set 2 (.int .i64 M.steps)
      have g0 := rr.cell 0
      have g1 := rr.cell 1
      have g2 := rr.cell 2
      simp at g0 g1 g2
      refine bodyPost_ret (v := .tuple #[.agg #[.int .i64 M.state, .slice ao M.out.length cap, .int .i64 M.steps], .int .i64 0]) ?_ rfl ⟨⟨_, rfl, ?_⟩, ?_⟩
      · simp [results, Tryz.results20, go_sem, g0, g1, g2]
      · rw [HM.out]
        refine ⟨_, rfl, ao, cap, rfl, HML.out, fun hp => ?_⟩
        obtain ⟨gb, go, e, hgb, hgl, hgc⟩ := HCE.out hp
        refine ⟨gb, go, e, by simpa [World.setCell] using hgl, fun j hj => ?_⟩
        have hne : gb ≠ w.heap.size + 1 := by have := HLE.out; omega
        exact cell_other (cell_other (cell_other (hgc j hj) hne) hne) hne
      · exact ((HBW3.out.setCell (by dsimp only; omega) _).setCell (by dsimp only; omega) _).setCell (by dsimp only; omega) _
    obtain ⟨d0, d1, d2, d3, d4, d5⟩ := (HHE.out.later HBR.out).code k hlt
    have hio := HOK.out k hlt
    have hiu := known_of (HINS.out k hlt)
    obtain ⟨i, hi⟩ : ∃ i, i = C.getD k .zero := ⟨_, rfl⟩
    rw [← hi] at d0 d1 d2 d3 d4 d5 hio hiu
    have HI : Hid (i = C.getD k .zero) := hi
    have HIO : Hid (InsOk B.length C.length i) := hio
    have HIU : Hid (10 < i.op → 21 ≤ i.op) := hiu
    have y1 : (k : Int) < (C.length : Int) := by omega
    have hrl := hds.row.lt
    have hln := hds.len
    have y3 : w2.heap.size + 1 ≠ wr.heap.size := by omega
    have y4 : w2.heap.size + 1 < wr.heap.size := by omega
    clear hi hio hiu hds hBz
    go_wp2
    obtain ⟨WA, hWA⟩ : ∃ WA, WA = wr.alloc (.cells #[.int .i64 i.op, .int .i64 i.dest, .int .i64 i.a, .int .i64 i.b, .int .i64 i.c, .int .u32 i.n] 74) := ⟨_, rfl⟩
    have HAB : Hid (Below wr.heap.size wr WA) := by rw [hWA]; exact (Below.refl _ _).alloc (Nat.le_refl _) _
    have i0 : WA.cell? ⟨wr.heap.size, 0, none⟩ = some (.int .i64 i.op) := by rw [hWA]; simp [go_sem]
    have i1 : WA.cell? ⟨wr.heap.size, 1, none⟩ = some (.int .i64 i.dest) := by rw [hWA]; simp [go_sem]
    have i2 : WA.cell? ⟨wr.heap.size, 2, none⟩ = some (.int .i64 i.a) := by rw [hWA]; simp [go_sem]
    have i3 : WA.cell? ⟨wr.heap.size, 3, none⟩ = some (.int .i64 i.b) := by rw [hWA]; simp [go_sem]
    have i4 : WA.cell? ⟨wr.heap.size, 4, none⟩ = some (.int .i64 i.c) := by rw [hWA]; simp [go_sem]
    have i5 : WA.cell? ⟨wr.heap.size, 5, none⟩ = some (.int .u32 i.n) := by rw [hWA]; simp [go_sem]
    have hWAz : WA.heap.size = wr.heap.size + 1 := by rw [hWA]; simp
    rw [← hWA]
    clear hWA d0 d1 d2 d3 d4 d5
    go_region_held3 (fun w' => w'.cell? ⟨wr.heap.size, 0, none⟩ = some (.int .i64 i.op) ∧ w'.cell? ⟨wr.heap.size, 1, none⟩ = some (.int .i64 i.dest) ∧ w'.cell? ⟨wr.heap.size, 2, none⟩ = some (.int .i64 i.a) ∧ w'.cell? ⟨wr.heap.size, 3, none⟩ = some (.int .i64 i.b) ∧ w'.cell? ⟨wr.heap.size, 4, none⟩ = some (.int .i64 i.c) ∧ w'.cell? ⟨wr.heap.size, 5, none⟩ = some (.int .u32 i.n))
      ((go_split_ands; refine ⟨?_, ?_, ?_, ?_, ?_, ?_⟩ <;> first | assumption | exact step_cell hbc (by assumption) | exact cell_other (by assumption) (Ne.symm y3) | (go_keep; done)))
      (first
        | (have hgd := HE; clear hgd; go_at_call 36; refine (deed (mb := mb) (sb := w2.heap.size) (db := W0.heap.size) HIO.out HIU.out _ (by omega) (by omega) (by omega) HE.out).mono ?_; rintro e wb ⟨⟨F, caps, rfl, hds⟩, hbc⟩; have HDS : Hid _ := hds; have HBB : Hid _ := hbc; have hrb : Row wb (w2.heap.size + 1) 1 cs := (by rw [← hW0z]; exact ((HD.out.row.below HAB.out).below HBA.out).below hbc); have fz := hrb.frozen k; have cz := hrb.cell k; rw [List.getElem?_eq_getElem (by omega)] at cz; clear hds hrb)
        | (go_at_call 37; refine (tempEnds (mb := mb) (sb := w2.heap.size) (db := W0.heap.size) C.length HIO.out s2 _ (by simp; omega) (by simp; omega) (by simp; omega)).mono ?_; rintro e wa ⟨⟨x, rfl, hE⟩, hbc⟩; have HE : Hid _ := hE; have HBA : Hid (Below WA.heap.size WA wa) := (step_below hbc (Below.refl _ _).drew); have hwaz := HBA.out.size; clear hE))
    go_wp2
    have hbw : Below wr.heap.size wr wb := step_below HBB.out (step_below HBA.out HAB.out)
    have hsp : DeedSpec (tempK B.length) mb w2.heap.size W0.heap.size (C.getD k .zero) (tempE (C.getD k .zero)) wb F caps := by rw [← HI.out]; exact HDS.out
    have hst := deeds_step HD.out hlt hbw hsp
    rw [hW0z] at hst
    exact ⟨⟨k + 1, _, by omega, by go_num, hst⟩, by simp [intOf]; omega⟩
theorem runRun (v : Value) (B : List Bool) (C : List LIns) (iv : Value) (I : List Int) (steps : Int) (w : World) (h : ProgIs w v B C) (hI : InArg w iv I) :
    Calls Tryz.prog 20 #[v, iv, .int .i64 steps] w fun e w' =>
      (∃ sv, e = .returned (.tuple #[sv, .int .i64 (wrongI B C I.length steps)]) ∧ ShownIs w' sv (resM B C I steps).state (resM B C I steps).out (resM B C I steps).steps) ∧ Below w.heap.size w w' := by
  by_cases hx : wrongI B C I.length steps = 0
  · exact runRun_yes v B C iv I steps w h hI hx
  · exact runRun_no v B C iv I steps w h hI hx
end form
/- Registers and slots of the program's own (package done): a store in one block; what is in a place (in), what becomes of it (become). -/
namespace form
open Go.RowKit num
set_option maxRecDepth 100000
attribute [local go_sem ↓] Go.wp_at_zero Go.wp_at_succ
def padL (n : Nat) (l : List Int) : List Int := l ++ List.replicate (n - l.length) 0
theorem padL_len {n : Nat} {l : List Int} (h : l.length ≤ n) : (padL n l).length = n := by unfold padL; simp; omega
theorem padL_getD {n : Nat} {l : List Int} {j : Nat} (hj : j < l.length) : (padL n l)[j]? = some (l.getD j 0) := by
  unfold padL
  rw [List.getElem?_append_left hj]
  simp [List.getD, hj]
theorem padL_set {n : Nat} {l : List Int} {j : Nat} {v : Int} (hj : j < l.length) : (padL n l).set j v = padL n (l.set j v) := by
  unfold padL
  simp [hj]
def stoE (st : Sto) : List Value := (padL 16 st.sing).map (Value.int .u32) ++ (padL 12 st.slot).map (Value.int .u64)
def stoK (ns nl : Nat) : StoK := ⟨Sto, 135, stoE, StoAt ns nl⟩
section
variable {ns nl sb : Nat} {st : Sto} {w : World}
theorem sing_at (h : Row w sb 135 (stoE st)) (ho : StoOk st) {j : Nat} (hj : j < st.sing.length) : w.cell? ⟨sb, j, none⟩ = some (.int .u32 (st.sing.getD j 0)) := by
  have hl := padL_len ho.n1
  have h16 := ho.n1
  rw [h.cell]
  unfold stoE
  rw [List.getElem?_append_left (by simp [hl]; omega), List.getElem?_map, padL_getD hj]
  rfl
theorem slot_at (h : Row w sb 135 (stoE st)) (ho : StoOk st) {j : Nat} (hj : j < st.slot.length) : w.cell? ⟨sb, 16 + j, none⟩ = some (.int .u64 (st.slot.getD j 0)) := by
  have hl := padL_len ho.n1
  rw [h.cell]
  unfold stoE
  rw [List.getElem?_append_right (by simp [hl]), List.getElem?_map]
  simp only [List.length_map, hl]
  rw [show 16 + j - 16 = j by omega, padL_getD hj]
  rfl
theorem sing_set (h : Row w sb 135 (stoE st)) (ho : StoOk st) {j : Nat} (hj : j < st.sing.length) (v : Int) : Row (w.setCell ⟨sb, j, none⟩ (.int .u32 v)) sb 135 (stoE ⟨st.sing.set j v, st.slot⟩) := by
  have hl := padL_len ho.n1
  have h16 := ho.n1
  have := h.set j (.int .u32 v)
  have e : (stoE st).set j (.int .u32 v) = stoE ⟨st.sing.set j v, st.slot⟩ := by
    unfold stoE
    rw [List.set_append_left _ _ (by simp [hl]; omega), ← List.map_set, padL_set hj]
  rwa [e] at this
theorem slot_set (h : Row w sb 135 (stoE st)) (ho : StoOk st) {j : Nat} (hj : j < st.slot.length) (v : Int) : Row (w.setCell ⟨sb, 16 + j, none⟩ (.int .u64 v)) sb 135 (stoE ⟨st.sing, st.slot.set j v⟩) := by
  have hl := padL_len ho.n1
  have := h.set (16 + j) (.int .u64 v)
  have e : (stoE st).set (16 + j) (.int .u64 v) = stoE ⟨st.sing, st.slot.set j v⟩ := by
    unfold stoE
    rw [List.set_append_right _ _ (by simp [hl]), ← List.map_set]
    simp only [List.length_map, hl]
    rw [show 16 + j - 16 = j by omega, padL_set hj]
  rwa [e] at this
end
section
variable {ns nl sb : Nat} {st : Sto} {w : World}
def PlIs (ns nl : Nat) (p : LPlace) : Prop := isB ns nl p = true ∨ (p.kind = 0 ∧ p.n = 0)
theorem pl_is_cases {p : LPlace} (h : StoAt ns nl st) (hp : PlIs ns nl p) : (p.kind = 1 ∧ 0 ≤ p.n ∧ p.n < st.sing.length) ∨ (p.kind = 2 ∧ 0 ≤ p.n ∧ 2 * p.n + 1 < st.sing.length) ∨ (p.kind = 3 ∧ 0 ≤ p.n ∧ p.n < st.slot.length) ∨ p.kind = 0 := by
  refine pl_cases h.ok ?_
  unfold PlOk
  rw [h.sl, h.ll]
  exact hp
set_option maxHeartbeats 1000000 in
theorem inO (p : LPlace) (h : Row w sb 135 (stoE st)) (hs : StoAt ns nl st) (hp : PlIs ns nl p) :
    Calls Tryz.prog 106 #[.pointer (some ⟨sb, 0, none⟩), p.val] w fun e w' => e = .returned (.int .u64 (getP st p)) ∧ Below w.heap.size w w' := by
  have ho := hs.ok
  have hx := h.lt
  have n1 : (st.sing.length : Int) ≤ 16 := by have := ho.n1; omega
  have n2 : (st.slot.length : Int) ≤ 12 := by have := ho.n2; omega
  have HB1 : Hid (∀ o1 : Obj, Below w.heap.size w (w.alloc o1)) := fun o1 => (Below.refl _ _).alloc (Nat.le_refl _) _
  have HB0 : Hid (Below w.heap.size w w) := Below.refl _ _
  unfold LPlace.val
  rcases pl_is_cases hs hp with ⟨e1, e2, e3⟩ | ⟨e1, e2, e3⟩ | ⟨e1, e2, e3⟩ | e1
  · have c0 := sing_at h ho (show p.n.toNat < st.sing.length by omega)
    obtain ⟨hu0, hu1⟩ := ho.s0 p.n.toNat
    obtain ⟨u, hue⟩ : ∃ u, u = st.sing.getD p.n.toNat 0 := ⟨_, rfl⟩
    rw [← hue] at c0 hu0 hu1
    have HE : Hid (getP st p = u) := by show getP st p = u; unfold getP; rw [if_pos e1, hue]
    have k1 : (p.kind == 1) = true := by simp [e1]
    have y1 : p.n < 16 := by omega
    have e5 := wrap64_of u hu0 (by omega)
    clear hue e1 h hs hp ho
    go_enter Tryz.func106, Tryz.ntmps106
    go_wp2
    go_quiet (fail)
    go_wp2
    go_ret
    exact ⟨ret_int HE.out.symm, below_drewN (by first | exact HB0.out | exact HB1.out _) _⟩
  · have c0 := sing_at h ho (show (2 * p.n + 1).toNat < st.sing.length by omega)
    have c1 := sing_at h ho (show (2 * p.n).toNat < st.sing.length by omega)
    obtain ⟨hu0, hu1⟩ := ho.s0 (2 * p.n + 1).toNat
    obtain ⟨hv0, hv1⟩ := ho.s0 (2 * p.n).toNat
    obtain ⟨u, hue⟩ : ∃ u, u = st.sing.getD (2 * p.n + 1).toNat 0 := ⟨_, rfl⟩
    obtain ⟨v, hve⟩ : ∃ u, u = st.sing.getD (2 * p.n).toNat 0 := ⟨_, rfl⟩
    rw [← hue] at c0 hu0 hu1
    rw [← hve] at c1 hv0 hv1
    have HE : Hid (getP st p = bits BinOp.or IntKind.u64 (u * 4294967296) v) := by
      show getP st p = _
      have hp := pair_of v u hv0 hv1 ⟨hu0, by omega⟩
      rw [wrap64_of (u * 4294967296) (by omega) (by omega), wrap64_of (u * 4294967296 + v) (by omega) (by omega)] at hp
      rw [hp]
      unfold getP; rw [if_neg (by omega), if_pos e1, hue, hve]
    have k1 : (p.kind == 1) = false := by simp [e1]
    have k2 : (p.kind == 2) = true := by simp [e1]
    have y1 : 2 * p.n < 16 := by omega
    have y3 : 2 * p.n + 1 < 16 := by omega
    have y0 : 0 ≤ 2 * p.n := by omega
    have y2 : 0 ≤ 2 * p.n + 1 := by omega
    have e5 := wrap64_of u hu0 (by omega)
    have e6 := wrap64_of v hv0 (by omega)
    clear hue hve e1 h hs hp ho
    go_enter Tryz.func106, Tryz.ntmps106
    go_wp2
    go_quiet (fail)
    go_wp2
    go_ret
    exact ⟨ret_int HE.out.symm, below_drewN (by first | exact HB0.out | exact HB1.out _) _⟩
  · have c0 := slot_at h ho (show p.n.toNat < st.slot.length by omega)
    obtain ⟨u, hue⟩ : ∃ u, u = st.slot.getD p.n.toNat 0 := ⟨_, rfl⟩
    rw [← hue] at c0
    have HE : Hid (getP st p = u) := by show getP st p = u; unfold getP; rw [if_neg (by omega), if_neg (by omega), if_pos e1, hue]
    have k1 : (p.kind == 1) = false := by simp [e1]
    have k2 : (p.kind == 2) = false := by simp [e1]
    have k3 : (p.kind == 3) = true := by simp [e1]
    have y1 : p.n < 12 := by omega
    clear hue e1 h hs hp ho
    go_enter Tryz.func106, Tryz.ntmps106
    go_wp2
    go_quiet (fail)
    go_wp2
    go_ret
    exact ⟨ret_int HE.out.symm, below_drewN (by first | exact HB0.out | exact HB1.out _) _⟩
  · have HE : Hid (getP st p = 0) := by show getP st p = 0; unfold getP; rw [if_neg (by omega), if_neg (by omega), if_neg (by omega)]
    have k1 : (p.kind == 1) = false := by simp [e1]
    have k2 : (p.kind == 2) = false := by simp [e1]
    have k3 : (p.kind == 3) = false := by simp [e1]
    clear e1 h hs hp ho
    go_enter Tryz.func106, Tryz.ntmps106
    go_wp2
    go_ret
    exact ⟨ret_int HE.out.symm, by first | exact HB0.out | exact HB1.out _⟩
end
end form
/- What becomes of a place in the program's own store (package done): become, move, moveAll. -/
namespace form
open Go.RowKit num
set_option maxRecDepth 100000
attribute [local go_sem ↓] Go.wp_at_zero Go.wp_at_succ
section
variable {ns nl sb : Nat} {st : Sto} {w : World}
theorem Only.drew {w' : World} (h : Only sb w w') : Only sb w w'.drew := h.trans (Only.of_below (Below.refl _ _).drew)
theorem Only.alloc {w' : World} (h : Only sb w w') (o : Obj) : Only sb w (w'.alloc o) := h.trans (Only.of_below ((Below.refl _ _).alloc (Nat.le_refl _) _))
set_option maxHeartbeats 1000000 in
theorem becomeO (p : LPlace) (v : Int) (h : Row w sb 135 (stoE st)) (hs : StoAt ns nl st) (hp : PlIs ns nl p) (hv : U64i v) :
    Calls Tryz.prog 109 #[.pointer (some ⟨sb, 0, none⟩), p.val, .int .u64 v] w fun e w' => e = .returned (.tuple #[]) ∧ Row w' sb 135 (stoE (putP st p v)) ∧ Only sb w w' := by
  have ho := hs.ok
  have hx := h.lt
  have n1 : (st.sing.length : Int) ≤ 16 := by have := ho.n1; omega
  have n2 : (st.slot.length : Int) ≤ 12 := by have := ho.n2; omega
  have q1 : sb ≠ w.heap.size := by omega
  obtain ⟨WA, hWA⟩ : ∃ WA, WA = w.alloc (.cells #[.int .i64 p.kind, .int .i64 p.n] 137) := ⟨_, rfl⟩
  have hA : Row WA sb 135 (stoE st) := by rw [hWA]; exact h.alloc _
  have HOA : Hid (Only sb w WA) := by rw [hWA]; exact (Only.refl _ _).alloc _
  have k0 : WA.cell? ⟨w.heap.size, 0, none⟩ = some (.int .i64 p.kind) := by rw [hWA]; simp [go_sem]
  have k9 : WA.cell? ⟨w.heap.size, 1, none⟩ = some (.int .i64 p.n) := by rw [hWA]; simp [go_sem]
  unfold LPlace.val
  rcases pl_is_cases hs hp with ⟨e1, e2, e3⟩ | ⟨e1, e2, e3⟩ | ⟨e1, e2, e3⟩ | e1
  · have c0 := sing_at hA ho (show p.n.toNat < st.sing.length by omega)
    have fz := hA.frozen p.n.toNat
    have HR : Hid (Row (WA.setCell ⟨sb, p.n.toNat, none⟩ (.int .u32 (v % 4294967296))) sb 135 (stoE (putP st p v))) := by
      have := sing_set hA ho (show p.n.toNat < st.sing.length by omega) (v % 4294967296)
      rw [← put_one e1] at this
      exact this
    have k1 : (p.kind == 1) = true := by simp [e1]
    have y1 : p.n < 16 := by omega
    clear e1 h hs hp ho hA
    go_enter Tryz.func109, Tryz.ntmps109
    go_upto_region 1 with fail
    rw [← hWA]
    clear hWA
    go_wp2
    go_region_held3 (fun w' => w'.cell? ⟨w.heap.size, 1, none⟩ = some (.int .i64 p.n))
      ((first | assumption | exact cell_other (by assumption) (Ne.symm q1) | (go_keep; done)))
      (fail)
    go_wp2
    go_end0
    exact ⟨rfl, HR.out, (HOA.out.set _ _).drew⟩
  · have c0 := sing_at hA ho (show (2 * p.n).toNat < st.sing.length by omega)
    have c1 := sing_at hA ho (show (2 * p.n + 1).toNat < st.sing.length by omega)
    have hA1 := sing_set hA ho (show (2 * p.n).toNat < st.sing.length by omega) (v % 4294967296)
    have ho1 : StoOk ⟨st.sing.set (2 * p.n).toNat (v % 4294967296), st.slot⟩ := ⟨set_u32 ho.s0 (by omega) (by omega), ho.l0, by simpa using ho.n1, ho.n2, by simpa using ho.ev⟩
    have c2 := sing_at hA1 ho1 (j := (2 * p.n + 1).toNat) (by simp; omega)
    have f0 := hA.frozen (2 * p.n).toNat
    have f1 := hA.frozen (2 * p.n + 1).toNat
    have f2 := hA1.frozen (2 * p.n + 1).toNat
    have HH : v / 4294967296 % 4294967296 = v / 4294967296 := by have := hv.1; have := hv.2; omega
    have HR : Hid (Row ((WA.setCell ⟨sb, (2 * p.n).toNat, none⟩ (.int .u32 (v % 4294967296))).setCell ⟨sb, (2 * p.n + 1).toNat, none⟩ (.int .u32 (v / 4294967296 % 4294967296))) sb 135 (stoE (putP st p v))) := by
      have := sing_set hA1 ho1 (j := (2 * p.n + 1).toNat) (by simp; omega) (v / 4294967296)
      rw [put_two e1, HH]
      exact this
    have k1 : (p.kind == 1) = false := by simp [e1]
    have k2 : (p.kind == 2) = true := by simp [e1]
    have y1 : 2 * p.n < 16 := by omega
    have y3 : 2 * p.n + 1 < 16 := by omega
    have y0 : 0 ≤ 2 * p.n := by omega
    have y2 : 0 ≤ 2 * p.n + 1 := by omega
    have v0 := hv.1
    have v1 := hv.2
    have hw1 : IntKind.i64.wrap (2 * p.n) = 2 * p.n := wrapI_of _ (by omega) (by omega)
    have hw2 : IntKind.i64.wrap (2 * p.n + 1) = 2 * p.n + 1 := wrapI_of _ (by omega) (by omega)
    have g1 : ¬ (2 * p.n).toNat = (2 * p.n + 1).toNat := by omega
    have g2 : ¬ (2 * p.n + 1).toNat = (2 * p.n).toNat := by omega
    have hin1 : 0 ≤ 2 * p.n ∧ 2 * p.n < 16 := ⟨y0, y1⟩
    have hin2 : 0 ≤ 2 * p.n + 1 ∧ 2 * p.n + 1 < 16 := ⟨y2, y3⟩
    clear e1 h hs hp ho hA hA1 ho1 HH
    go_enter Tryz.func109, Tryz.ntmps109
    go_upto_region 1 with fail
    rw [← hWA]
    clear hWA
    go_wp2
    go_region_held3 (fun w' => w'.cell? ⟨w.heap.size, 1, none⟩ = some (.int .i64 p.n))
      ((first | assumption | exact cell_other (by assumption) (Ne.symm q1) | (go_keep; done)))
      (fail)
    go_wp2
    go_end0
    exact ⟨rfl, HR.out, ((HOA.out.set _ _).set _ _).drew⟩
  · have c0 := slot_at hA ho (show p.n.toNat < st.slot.length by omega)
    have fz := hA.frozen (16 + p.n.toNat)
    have HR : Hid (Row (WA.setCell ⟨sb, 16 + p.n.toNat, none⟩ (.int .u64 v)) sb 135 (stoE (putP st p v))) := by
      have := slot_set hA ho (show p.n.toNat < st.slot.length by omega) v
      rw [← put_three e1] at this
      exact this
    have k1 : (p.kind == 1) = false := by simp [e1]
    have k2 : (p.kind == 2) = false := by simp [e1]
    have k3 : (p.kind == 3) = true := by simp [e1]
    have y1 : p.n < 12 := by omega
    clear e1 h hs hp ho hA
    go_enter Tryz.func109, Tryz.ntmps109
    go_upto_region 1 with fail
    rw [← hWA]
    clear hWA
    go_wp2
    go_region_held3 (fun w' => w'.cell? ⟨w.heap.size, 1, none⟩ = some (.int .i64 p.n))
      ((first | assumption | exact cell_other (by assumption) (Ne.symm q1) | (go_keep; done)))
      (fail)
    go_wp2
    go_end0
    exact ⟨rfl, HR.out, (HOA.out.set _ _).drew⟩
  · have HR : Hid (Row WA sb 135 (stoE (putP st p v))) := by
      have e : putP st p v = st := by unfold putP; rw [if_neg (by omega), if_neg (by omega), if_neg (by omega)]
      rw [e]; exact hA
    have k1 : (p.kind == 1) = false := by simp [e1]
    have k2 : (p.kind == 2) = false := by simp [e1]
    have k3 : (p.kind == 3) = false := by simp [e1]
    clear e1 h hs hp ho hA
    go_enter Tryz.func109, Tryz.ntmps109
    go_upto_region 1 with fail
    rw [← hWA]
    clear hWA
    go_wp2
    go_end0
    exact ⟨rfl, HR.out, HOA.out⟩
def Old (wO w : World) : Prop := ∀ k, k < wO.heap.size → w.heap[k]? = wO.heap[k]?
theorem Old.cell {wO w : World} (h : Old wO w) {p : Addr} {v : Value} (hc : wO.cell? p = some v) : w.cell? p = some v := by
  rw [World.cell?_of_block (h p.block (World.block_lt_of_cell? wO _ hc))]; exact hc
theorem Old.only {wO w w' : World} (h : Old wO w) (hz : wO.heap.size ≤ w.heap.size) (hs : wO.heap.size ≤ sb) (ho : Only sb w w') : Old wO w' := fun k hk => (ho.block k (by omega) (by omega)).trans (h k hk)
theorem moveD (m : LMove) (h : Row w sb 135 (stoE st)) (hs : StoAt ns nl st) (hd : PlIs ns nl m.dst) (hc : PlIs ns nl m.src) (hn0 : 0 ≤ m.n) (hn1 : m.n < 4294967296) :
    Calls Tryz.prog 141 #[.pointer (some ⟨sb, 0, none⟩), m.val] w fun e w' => e = .returned (.tuple #[]) ∧ Row w' sb 135 (stoE (moveP st m)) ∧ Only sb w w' := by
  have hx := h.lt
  obtain ⟨WA, hWA⟩ : ∃ WA, WA = w.alloc (.cells #[.int .i64 m.dst.kind, .int .i64 m.dst.n, .int .i64 m.src.kind, .int .i64 m.src.n, .bool m.cst, .int .u32 m.n] 208) := ⟨_, rfl⟩
  have hA : Row WA sb 135 (stoE st) := by rw [hWA]; exact h.alloc _
  have HOA : Hid (Only sb w WA) := by rw [hWA]; exact (Only.refl _ _).alloc _
  have HRA : Hid (Row WA sb 135 (stoE st)) := hA
  have d0 : WA.cell? ⟨w.heap.size, 0, none⟩ = some (.int .i64 m.dst.kind) := by rw [hWA]; simp [go_sem]
  have d1 : WA.cell? ⟨w.heap.size, 1, none⟩ = some (.int .i64 m.dst.n) := by rw [hWA]; simp [go_sem]
  have d2 : WA.cell? ⟨w.heap.size, 2, none⟩ = some (.int .i64 m.src.kind) := by rw [hWA]; simp [go_sem]
  have d3 : WA.cell? ⟨w.heap.size, 3, none⟩ = some (.int .i64 m.src.n) := by rw [hWA]; simp [go_sem]
  have d4 : WA.cell? ⟨w.heap.size, 4, none⟩ = some (.bool m.cst) := by rw [hWA]; simp [go_sem]
  have d5 : WA.cell? ⟨w.heap.size, 5, none⟩ = some (.int .u32 m.n) := by rw [hWA]; simp [go_sem]
  have q1 : w.heap.size ≠ sb := by omega
  have e5 := wrap64_of m.n hn0 (by omega)
  have HI : Hid (∀ wx, Row wx sb 135 (stoE st) → Calls Tryz.prog 106 #[.pointer (some ⟨sb, 0, none⟩), m.src.val] wx fun e w' => e = .returned (.int .u64 (getP st m.src)) ∧ Below wx.heap.size wx w') := fun wx hr => inO m.src hr hs hc
  have HP : Hid (∀ wx v, U64i v → Row wx sb 135 (stoE st) → Calls Tryz.prog 109 #[.pointer (some ⟨sb, 0, none⟩), m.dst.val, .int .u64 v] wx fun e w' => e = .returned (.tuple #[]) ∧ Row w' sb 135 (stoE (putP st m.dst v)) ∧ Only sb wx w') := fun wx v hv hr => becomeO m.dst v hr hs hd hv
  have HU : Hid (U64i (getP st m.src)) := get_bd _ hs.ok
  unfold LMove.val
  rcases Bool.eq_false_or_eq_true m.cst with hk | hk
  · rw [hk] at d4
    have HE : Hid (moveP st m = putP st m.dst m.n) := by show moveP st m = _; unfold moveP; rw [hk]; rfl
    clear hk h hs hd hc hA
    go_enter Tryz.func141, Tryz.ntmps141
    go_upto_region 1 with fail
    rw [← hWA]
    clear hWA
    go_wp2_with (go_at_call 109; refine (HP.out _ m.n ⟨hn0, by omega⟩ HRA.out).mono ?_; rintro e w1 ⟨rfl, hr1, ho1⟩)
    refine bodyPost_ret (results_none rfl _ _ _) rfl ?_
    rw [HE.out]
    exact ⟨rfl, hr1, HOA.out.trans ho1⟩
  · rw [hk] at d4
    have HE : Hid (moveP st m = putP st m.dst (getP st m.src)) := by show moveP st m = _; unfold moveP; rw [hk]; rfl
    obtain ⟨u, hu⟩ : ∃ u, u = getP st m.src := ⟨_, rfl⟩
    have HUE : Hid (getP st m.src = u) := hu.symm
    clear hk h hs hd hc hA hu
    go_enter Tryz.func141, Tryz.ntmps141
    go_upto_region 1 with fail
    rw [← hWA]
    clear hWA
    go_wp2
    go_region_held3 (fun w' => w'.cell? ⟨w.heap.size, 0, none⟩ = some (.int .i64 m.dst.kind) ∧ w'.cell? ⟨w.heap.size, 1, none⟩ = some (.int .i64 m.dst.n) ∧ w'.cell? ⟨w.heap.size, 2, none⟩ = some (.int .i64 m.src.kind) ∧ w'.cell? ⟨w.heap.size, 3, none⟩ = some (.int .i64 m.src.n))
      ((go_split_ands; refine ⟨?_, ?_, ?_, ?_⟩ <;> first | assumption | exact hoc.cell (by assumption) q1 | (go_keep; done)))
      (first
        | (have hgd := HR1; clear hgd; go_at_call 109; refine (HP.out _ u (by rw [← HUE.out]; exact HU.out) HR1.out).mono ?_; rintro e w2 ⟨rfl, hr2, hoc⟩; have HR2 : Hid _ := hr2; have HO2 : Hid _ := hoc; clear hr2)
        | (go_at_call 106; refine (HI.out _ (HRA.out.drew)).mono ?_; rw [HUE.out]; rintro e w1 ⟨rfl, hbc⟩; have HR1 : Hid (Row w1 sb 135 (stoE st)) := (HRA.out.drew).below hbc; have hoc : Only sb WA w1 := (Only.of_below (Below.refl _ _).drew).trans (Only.of_below hbc); have HO1 : Hid (Only sb WA w1) := hoc; clear hbc))
    go_wp2
    go_end0
    rw [HE.out, HUE.out]
    exact ⟨rfl, HR2.out, (HOA.out.trans HO1.out).trans HO2.out⟩
structure MoveIs (ns nl : Nat) (m : LMove) : Prop where
  dst : PlIs ns nl m.dst
  src : PlIs ns nl m.src
  n0 : 0 ≤ m.n
  n1 : m.n < 4294967296
theorem moves_at {l : List LMove} (h : StoAt ns nl st) (hm : ∀ x, x ∈ l → MoveIs ns nl x) : StoAt ns nl (movesP st l) := by
  induction l generalizing st with
  | nil => exact h
  | cons m l ih => exact ih (sto_at_move h ⟨(hm m (by simp)).n0, (hm m (by simp)).n1⟩) (fun x hx => hm x (by simp [hx]))
set_option maxHeartbeats 1000000 in
theorem moveAllO (v : Value) (l : List LMove) (wO : World) (h : Row w sb 135 (stoE st)) (hs : StoAt ns nl st) (hm : MovesIs wO v l) (hO : Old wO w) (hz : wO.heap.size ≤ w.heap.size) (hsb : wO.heap.size ≤ sb) (h6 : l.length ≤ 6) (hok : ∀ x, x ∈ l → MoveIs ns nl x) :
    Calls Tryz.prog 104 #[.pointer (some ⟨sb, 0, none⟩), v] w fun e w' => e = .returned (.tuple #[]) ∧ Row w' sb 135 (stoE (movesP st l)) ∧ Only sb w w' := by
  obtain ⟨ao, cap, rfl, -, hc⟩ := hm
  have HC : Hid _ := hc
  have HOK : Hid (∀ x, x ∈ l → MoveIs ns nl x) := hok
  have HS : Hid (StoAt ns nl st) := hs
  have z6 : (l.length : Int) ≤ 6 := by omega
  have HR0 : Hid (Row w sb 135 (stoE st)) := h
  have HOO : Hid (Old wO w) := hO
  clear hc hok hs h hO
  go_enter Tryz.func104, Tryz.ntmps104
  go_wp2
  go_loopw [8] (fun t wr => ∃ k : Nat, k ≤ l.length ∧ t = .int .i64 k ∧ Row wr sb 135 (stoE (movesP st (l.take k))) ∧ Only sb w wr) (fun t _ => l.length - (intOf t).toNat)
  case atStart => exact ⟨0, by omega, rfl, HR0.out, Only.refl _ _⟩
  case round =>
    obtain ⟨k, hk, rfl, hrk, hok⟩ := hrel
    have HRK : Hid (Row wr sb 135 (stoE (movesP st (l.take k)))) := hrk
    have HOK2 : Hid (Only sb w wr) := hok
    by_cases hlt : k < l.length
    case neg =>
      clear hrk hok
      go_wp2
      go_end0
      have e := HRK.out
      rw [List.take_of_length_le (by omega)] at e
      exact ⟨rfl, e, HOK2.out⟩
    obtain ⟨b, o, rfl, hbl, hcell⟩ := HC.out (by omega)
    have hold : Old wO wr := HOO.out.only hz hsb hok
    obtain ⟨d0, d1, d2, d3, d4, d5⟩ := hcell k hlt
    have d0 := hold.cell d0
    have d1 := hold.cell d1
    have d2 := hold.cell d2
    have d3 := hold.cell d3
    have d4 := hold.cell d4
    have d5 := hold.cell d5
    obtain ⟨m, hi⟩ : ∃ m, m = l.getD k .zero := ⟨_, rfl⟩
    rw [← hi] at d0 d1 d2 d3 d4 d5
    have hmem : m ∈ l := by rw [hi]; simp [List.getD, hlt]
    have hmi := HOK.out m hmem
    have hst : StoAt ns nl (movesP st (l.take k)) := moves_at HS.out (fun x hx => HOK.out x (List.mem_of_mem_take hx))
    have HMV : Hid (∀ wx, Row wx sb 135 (stoE (movesP st (l.take k))) → Calls Tryz.prog 141 #[.pointer (some ⟨sb, 0, none⟩), m.val] wx fun e w' => e = .returned (.tuple #[]) ∧ Row w' sb 135 (stoE (moveP (movesP st (l.take k)) m)) ∧ Only sb wx w') := fun wx hr => moveD m hr hst hmi.dst hmi.src hmi.n0 hmi.n1
    have HI : Hid (m = l.getD k .zero) := hi
    have y1 : (k : Int) < (l.length : Int) := by omega
    clear hcell hold hi hmem hmi hst hrk hok
    go_wp2_with (go_at_call 141; refine (HMV.out _ (HRK.out.alloc _)).mono ?_; rintro e w1 ⟨rfl, hr1, ho1⟩; have HR1 : Hid _ := hr1; have HO1 : Hid _ := ho1; clear hr1 ho1)
    refine ⟨⟨k + 1, by omega, by go_num, ?_, (HOK2.out.alloc _).trans HO1.out⟩, by simp [intOf]; omega⟩
    rw [moves_succ st l k hlt, ← HI.out]
    exact HR1.out
end
end form
/- The ends of an instruction in its places, and its deed between its moves (package done): ends and between with their closures. -/
namespace form
open Go.RowKit num
set_option maxRecDepth 100000
attribute [local go_sem ↓] Go.wp_at_zero Go.wp_at_succ
def rowW (r : LRow) (vb va : Value) : Value := .agg #[.int .i64 r.dest.kind, .int .i64 r.dest.n, .int .i64 r.a.kind, .int .i64 r.a.n, .int .i64 r.b.kind, .int .i64 r.b.n, vb, va]
structure RBox (mb sb db bs br : Nat) (r : LRow) (vb va : Value) (w : World) : Prop where
  ps : w.cell? ⟨bs, 0, none⟩ = some (.pointer (some ⟨sb, 0, none⟩))
  r0 : w.cell? ⟨br, 0, none⟩ = some (.int .i64 r.dest.kind)
  r1 : w.cell? ⟨br, 1, none⟩ = some (.int .i64 r.dest.n)
  r2 : w.cell? ⟨br, 2, none⟩ = some (.int .i64 r.a.kind)
  r3 : w.cell? ⟨br, 3, none⟩ = some (.int .i64 r.a.n)
  r4 : w.cell? ⟨br, 4, none⟩ = some (.int .i64 r.b.kind)
  r5 : w.cell? ⟨br, 5, none⟩ = some (.int .i64 r.b.n)
  r6 : w.cell? ⟨br, 6, none⟩ = some vb
  r7 : w.cell? ⟨br, 7, none⟩ = some va
  n1 : bs ≠ mb
  n2 : br ≠ mb
  s1 : bs ≠ sb
  s2 : br ≠ sb
  m1 : bs ≠ db
  m2 : br ≠ db
section
variable {ns nl mb sb db bs br bd : Nat} {r : LRow} {vb va : Value} {st : Sto} {w : World}
theorem RBox.kept {w' : World} (h : RBox mb sb db bs br r vb va w) (hk : Kept mb sb db w w') : RBox mb sb db bs br r vb va w' :=
  ⟨hk.cell h.ps h.n1 h.s1 h.m1, hk.cell h.r0 h.n2 h.s2 h.m2, hk.cell h.r1 h.n2 h.s2 h.m2, hk.cell h.r2 h.n2 h.s2 h.m2, hk.cell h.r3 h.n2 h.s2 h.m2, hk.cell h.r4 h.n2 h.s2 h.m2, hk.cell h.r5 h.n2 h.s2 h.m2, hk.cell h.r6 h.n2 h.s2 h.m2, hk.cell h.r7 h.n2 h.s2 h.m2, h.n1, h.n2, h.s1, h.s2, h.m1, h.m2⟩
theorem pend1 (hb : RBox mb sb db bs br r vb va w) (h : Row w sb 135 (stoE st)) (hs : StoAt ns nl st) (hp : PlIs ns nl r.a) :
    Calls Tryz.prog 105 #[.pointer (some ⟨bs, 0, none⟩), .pointer (some ⟨br, 0, none⟩)] w fun e w' => e = .returned (.int .u64 (getP st r.a)) ∧ Below w.heap.size w w' := by
  have c0 := hb.ps
  have c2 := hb.r2
  have c3 := hb.r3
  have HI : Hid (Calls Tryz.prog 106 #[.pointer (some ⟨sb, 0, none⟩), r.a.val] w fun e w' => e = .returned (.int .u64 (getP st r.a)) ∧ Below w.heap.size w w') := inO r.a h hs hp
  clear hb h hs hp
  go_enter Tryz.func105, Tryz.ntmps105
  go_wp2_with (go_at_call 106; refine Calls.mono HI.out ?_; rintro e w1 ⟨rfl, hbc⟩)
  go_ret
  exact ⟨rfl, hbc⟩
theorem pend2 (hb : RBox mb sb db bs br r vb va w) (h : Row w sb 135 (stoE st)) (hs : StoAt ns nl st) (hp : PlIs ns nl r.b) :
    Calls Tryz.prog 107 #[.pointer (some ⟨bs, 0, none⟩), .pointer (some ⟨br, 0, none⟩)] w fun e w' => e = .returned (.int .u64 (getP st r.b)) ∧ Below w.heap.size w w' := by
  have c0 := hb.ps
  have c4 := hb.r4
  have c5 := hb.r5
  have HI : Hid (Calls Tryz.prog 106 #[.pointer (some ⟨sb, 0, none⟩), r.b.val] w fun e w' => e = .returned (.int .u64 (getP st r.b)) ∧ Below w.heap.size w w') := inO r.b h hs hp
  clear hb h hs hp
  go_enter Tryz.func107, Tryz.ntmps107
  go_wp2_with (go_at_call 106; refine Calls.mono HI.out ?_; rintro e w1 ⟨rfl, hbc⟩)
  go_ret
  exact ⟨rfl, hbc⟩
theorem pend3 (x : Int) (hb : RBox mb sb db bs br r vb va w) (h : Row w sb 135 (stoE st)) (hs : StoAt ns nl st) (hp : PlIs ns nl r.dest) (hx : U64i x) :
    Calls Tryz.prog 108 #[.int .u64 x, .pointer (some ⟨bs, 0, none⟩), .pointer (some ⟨br, 0, none⟩)] w fun e w' => e = .returned (.tuple #[]) ∧ Row w' sb 135 (stoE (putP st r.dest x)) ∧ Only sb w w' := by
  have c0 := hb.ps
  have c1 := hb.r0
  have c2 := hb.r1
  have HI : Hid (Calls Tryz.prog 109 #[.pointer (some ⟨sb, 0, none⟩), r.dest.val, .int .u64 x] w fun e w' => e = .returned (.tuple #[]) ∧ Row w' sb 135 (stoE (putP st r.dest x)) ∧ Only sb w w') := becomeO r.dest x h hs hp hx
  clear hb h hs hp hx
  go_enter Tryz.func108, Tryz.ntmps108
  go_wp2_with (go_at_call 109; refine Calls.mono HI.out ?_; rintro e w1 ⟨rfl, hr1, ho1⟩)
  go_end0
  exact ⟨rfl, hr1, ho1⟩
def rowE (r : LRow) : Eff Sto := plainE (fun st => getP st r.a) (fun st => getP st r.b) (fun st v => putP st r.dest v)
def placeE (r : LRow) : Eff Sto := ⟨fun st => movesP st r.before, fun st => movesP st r.after, fun st => getP st r.a, fun st => getP st r.b, fun st v => putP st r.dest v⟩
theorem place_read1 (hb : RBox mb sb db bs br r vb va w) (hp : PlIs ns nl r.a) : ReadSpec (stoK ns nl) mb sb db w 105 #[.pointer (some ⟨bs, 0, none⟩), .pointer (some ⟨br, 0, none⟩)] (rowE r).rdA := by
  refine ⟨fun w => rfl, fun (s : Sto) hs => get_bd _ hs.ok, ?_⟩
  intro s w' hk hz hr ho
  exact pend1 (st := s) (hb.kept hk) hr ho hp
theorem place_read2 (hb : RBox mb sb db bs br r vb va w) (hp : PlIs ns nl r.b) : ReadSpec (stoK ns nl) mb sb db w 107 #[.pointer (some ⟨bs, 0, none⟩), .pointer (some ⟨br, 0, none⟩)] (rowE r).rdB := by
  refine ⟨fun w => rfl, fun (s : Sto) hs => get_bd _ hs.ok, ?_⟩
  intro s w' hk hz hr ho
  exact pend2 (st := s) (hb.kept hk) hr ho hp
theorem place_write (hb : RBox mb sb db bs br r vb va w) (hp : PlIs ns nl r.dest) : WriteSpec (stoK ns nl) mb sb db w 108 (.pointer (some ⟨bs, 0, none⟩)) (.pointer (some ⟨br, 0, none⟩)) (rowE r).wr := by
  refine ⟨fun x w => rfl, fun (s : Sto) x hs hx => sto_at_put hs hx, ?_⟩
  intro s x w' hk hz hr ho hx
  exact pend3 (st := s) x (hb.kept hk) hr ho hp hx
theorem placeEnds (G : Prop) (w : World) (hmb : mb < w.heap.size) (hsb : sb < w.heap.size) (hdb : db < w.heap.size) (hpa : PlIs ns nl r.a) (hpb : PlIs ns nl r.b) (hpd : PlIs ns nl r.dest) {wO : World} (hmv : MovesIs wO vb r.before) (hmv2 : MovesIs wO va r.after) :
    Calls Tryz.prog 71 #[.pointer (some ⟨sb, 0, none⟩), rowW r vb va] w fun e w' => (∃ x : EndF, e = .returned x.val ∧ EndsIs (stoK ns nl) mb sb db w' x (rowE r).rdA (rowE r).rdB (rowE r).wr G) ∧ Below w.heap.size w w' := by
  obtain ⟨ab, cb, rfl, -, -⟩ := hmv
  obtain ⟨aa, ca, rfl, -, -⟩ := hmv2
  have HT : Hid (∀ o : Obj, RBox mb sb db w.heap.size (w.heap.size + 1) r (.slice ab r.before.length cb) (.slice aa r.after.length ca) (((w.alloc (.cells #[.pointer (some ⟨sb, 0, none⟩)] 132)).alloc (.cells #[.int .i64 r.dest.kind, .int .i64 r.dest.n, .int .i64 r.a.kind, .int .i64 r.a.n, .int .i64 r.b.kind, .int .i64 r.b.n, .slice ab r.before.length cb, .slice aa r.after.length ca] 140)).alloc o)) := by
    intro o
    refine ⟨?_, ?_, ?_, ?_, ?_, ?_, ?_, ?_, ?_, by omega, by omega, by omega, by omega, by omega, by omega⟩ <;> simp [go_sem]
  have HB : Hid (∀ o1 o2 o3 : Obj, Below w.heap.size w (((w.alloc o1).alloc o2).alloc o3)) := fun o1 o2 o3 => (((Below.refl _ _).alloc (Nat.le_refl _) _).alloc (by simp) _).alloc (by simp; omega) _
  unfold rowW
  go_enter Tryz.func71, Tryz.ntmps71
  go_wp2
  refine bodyPost_ret (v := EndF.val ⟨105, #[.pointer (some ⟨w.heap.size, 0, none⟩), .pointer (some ⟨w.heap.size + 1, 0, none⟩)], 107, #[.pointer (some ⟨w.heap.size, 0, none⟩), .pointer (some ⟨w.heap.size + 1, 0, none⟩)], 108, .pointer (some ⟨w.heap.size, 0, none⟩), .pointer (some ⟨w.heap.size + 1, 0, none⟩)⟩) ?_ rfl ⟨⟨_, rfl, ?_⟩, ?_⟩
  · simp [results, Tryz.results71, go_sem, EndF.val]
  · exact ⟨place_read1 (HT.out _) hpa, place_read2 (HT.out _) hpb, fun _ => place_write (HT.out _) hpd⟩
  · exact HB.out _ _ _
structure MvsAt (ns nl : Nat) (wO : World) (v : Value) (l : List LMove) : Prop where
  mvs : MovesIs wO v l
  six : l.length ≤ 6
  ok : ∀ x, x ∈ l → MoveIs ns nl x
theorem behind_between {base : Nat} {i : LIns} {s : Sto} {l : List Int} {st k : Int} {I : List Int} {pc : Int} {wa wb wc wd : World} (hr1 : Ran mb sb base wa wb)
    (h2 : Behind (stoK ns nl) mb sb base i (rowE r) (movesP s r.before) l st k I pc wb wc) (hok : StoAt ns nl (movesP ((rowE r).act i (movesP s r.before) (I.headD 0)) r.after))
    (h3 : Row wd sb 135 (stoE (movesP ((rowE r).act i (movesP s r.before) (I.headD 0)) r.after))) (ho : Only sb wc wd) :
    Behind (stoK ns nl) mb sb base i (placeE r) s l st k I pc wa wd := by
  obtain ⟨⟨ov', iv', hms⟩, hr2⟩ := h2
  have hok' : (stoK ns nl).ok (movesP ((rowE r).act i (movesP s r.before) (I.headD 0)) r.after) := hok
  have h3' : Row wd sb (stoK ns nl).T ((stoK ns nl).enc (movesP ((rowE r).act i (movesP s r.before) (I.headD 0)) r.after)) := h3
  exact ⟨⟨ov', iv', hms.wrote h3' hok' ho⟩, (hr1.trans hr2).trans (ho.ran hms.sz)⟩
set_option maxHeartbeats 1000000 in
theorem between1 {base : Nat} {i : LIns} {s : Sto} {ov : Value} {l : List Int} {sta k : Int} {iv : Value} {I : List Int} {pc : Int} (F : Nat) (caps : Array Value) (hent : ∀ w, Sem.run Tryz.prog (callFunc F caps) w = .ok (.enter F caps) w) (wO : World)
    (hb : RBox mb sb db bs br r vb va w) (cd : w.cell? ⟨bd, 0, none⟩ = some (.func (.func F) #[] caps)) (hm : MS (stoK ns nl) mb sb base s ov l sta k iv I pc w) (hzs : bs < base) (hzr : br < base) (hzd : bd < base) (hdm : bd ≠ mb) (hds : bd ≠ sb)
    (h1 : MvsAt ns nl wO vb r.before) (h2 : MvsAt ns nl wO va r.after) (hO : Old wO w) (hzO : wO.heap.size ≤ base) (hOs : wO.heap.size ≤ sb) (hOm : wO.heap.size ≤ mb)
    (hc : ∀ w2, Ran mb sb base w w2 → MS (stoK ns nl) mb sb base (movesP s r.before) ov l sta k iv I pc w2 → Calls Tryz.prog F caps w2 fun e w' => e = .returned (.tuple #[]) ∧ Behind (stoK ns nl) mb sb base i (rowE r) (movesP s r.before) l sta k I pc w2 w') :
    Calls Tryz.prog 103 #[.pointer (some ⟨bs, 0, none⟩), .pointer (some ⟨br, 0, none⟩), .pointer (some ⟨bd, 0, none⟩)] w fun e w' => e = .returned (.tuple #[]) ∧ Behind (stoK ns nl) mb sb base i (placeE r) s l sta k I pc w w' := by
  have HBX : Hid (RBox mb sb db bs br r vb va w) := hb
  have HM : Hid (MS (stoK ns nl) mb sb base s ov l sta k iv I pc w) := hm
  have HC : Hid _ := hc
  have HCD : Hid (w.cell? ⟨bd, 0, none⟩ = some (.func (.func F) #[] caps)) := cd
  have HOO : Hid (Old wO w) := hO
  have H1 : Hid (MvsAt ns nl wO vb r.before) := h1
  have H2 : Hid (MvsAt ns nl wO va r.after) := h2
  have hzw := hm.sz
  have c0 := hb.ps
  have c6 := hb.r6
  obtain ⟨ab, cb, rfl, -, -⟩ := h1.mvs
  obtain ⟨aa, ca, rfl, -, -⟩ := h2.mvs
  clear hb hm hc cd hO h1 h2
  go_enter Tryz.func103, Tryz.ntmps103
  go_wp2_with fail
  go_at_call 104
  refine (moveAllO (ns := ns) (nl := nl) _ r.before wO HM.out.sto HM.out.ok H1.out.mvs HOO.out (by omega) hOs H1.out.six H1.out.ok).mono ?_
  rintro e w1 ⟨rfl, hr1, ho1⟩
  have hm1 : MS (stoK ns nl) mb sb base (movesP s r.before) ov l sta k iv I pc w1 := HM.out.wrote hr1 (moves_at HM.out.ok H1.out.ok) ho1
  have hrn : Ran mb sb base w w1 := ho1.ran hzw
  have HRN : Hid (Ran mb sb base w w1) := hrn
  have HC1 : Hid _ := HC.out w1 hrn hm1
  have d1 := ho1.cell HCD.out hds
  clear hr1 ho1 hm1 hrn c0 c6
  go_wp2_with fail
  refine Calls.mono HC1.out ?_
  rintro e w2 ⟨rfl, hbh⟩
  have HBH : Hid (Behind (stoK ns nl) mb sb base i (rowE r) (movesP s r.before) l sta k I pc w1 w2) := hbh
  have hr2 : Ran mb sb base w w2 := HRN.out.trans hbh.2
  have c0 := hr2.cell HBX.out.ps hzs HBX.out.n1 HBX.out.s1
  have c7 := hr2.cell HBX.out.r7 hzr HBX.out.n2 HBX.out.s2
  obtain ⟨⟨ov2, iv2, hms2⟩, -⟩ := hbh
  have HMS2 : Hid _ := hms2
  have HO2 : Hid (Old wO w2) := fun j hj => (hr2.block j (by omega) (by omega) (by omega)).trans (HOO.out j hj)
  clear hr2 hms2 d1
  go_wp2_with fail
  go_at_call 104
  refine (moveAllO (ns := ns) (nl := nl) _ r.after wO HMS2.out.sto HMS2.out.ok H2.out.mvs HO2.out (by have := HMS2.out.sz; omega) hOs H2.out.six H2.out.ok).mono ?_
  rintro e w3 ⟨rfl, hr3, ho3⟩
  go_wp2
  go_end0
  exact ⟨rfl, behind_between HRN.out HBH.out (moves_at HMS2.out.ok H2.out.ok) hr3 ho3⟩
theorem between_spec {i : LIns} {F : Nat} {caps : Array Value} {wO w1 w0 : World} (hb : RBox mb sb db bs br r vb va w1) (hs : DeedSpec (stoK ns nl) mb sb db i (rowE r) w0 F caps) (h01 : Kept mb sb db w0 w1) (hz01 : w0.heap.size ≤ w1.heap.size) (cd : w1.cell? ⟨bd, 0, none⟩ = some (.func (.func F) #[] caps)) (hdm : bd ≠ mb) (hds : bd ≠ sb) (hdd : bd ≠ db)
    (h1 : MvsAt ns nl wO vb r.before) (h2 : MvsAt ns nl wO va r.after) (hO : Old wO w1) (hzO : wO.heap.size ≤ w1.heap.size) (hOs : wO.heap.size ≤ sb) (hOm : wO.heap.size ≤ mb) (hOd : wO.heap.size ≤ db) :
    DeedSpec (stoK ns nl) mb sb db i (placeE r) w1 103 #[.pointer (some ⟨bs, 0, none⟩), .pointer (some ⟨br, 0, none⟩), .pointer (some ⟨bd, 0, none⟩)] := by
  refine ⟨fun w => rfl, ?_⟩
  intro base s ov l sta k iv I pc w hk hz0 hm hz hl h5
  have z1 := World.block_lt_of_cell? w1 _ hb.ps
  have z2 := World.block_lt_of_cell? w1 _ hb.r0
  have z3 := World.block_lt_of_cell? w1 _ cd
  simp only at z1 z2 z3
  refine between1 F caps hs.1 wO (hb.kept hk) (hk.cell cd hdm hds hdd) hm (by omega) (by omega) (by omega) hdm hds h1 h2 (fun j hj => (hk j (by omega) (by omega) (by omega) (by omega)).trans (hO j hj)) (by omega) hOs hOm (fun w2 hr2 hm2 => ?_)
  exact hs.2 base _ ov l sta k iv I pc w2 ((h01.trans hz01 hk).ran (by omega) hr2) (by have := hm2.sz; omega) hm2 (by omega) hl h5
theorem between {i : LIns} (F : Nat) (caps : Array Value) (wO w : World) (hs : DeedSpec (stoK ns nl) mb sb db i (rowE r) w F caps) (hmb : mb < w.heap.size) (hsb : sb < w.heap.size) (hdb : db < w.heap.size)
    (h1 : MvsAt ns nl wO vb r.before) (h2 : MvsAt ns nl wO va r.after) (hO : Old wO w) (hOs : wO.heap.size ≤ sb) (hOm : wO.heap.size ≤ mb) (hOd : wO.heap.size ≤ db) :
    Calls Tryz.prog 70 #[.pointer (some ⟨sb, 0, none⟩), rowW r vb va, .func (.func F) #[] caps] w fun e w' => (∃ F2 caps2, e = .returned (.func (.func F2) #[] caps2) ∧ DeedSpec (stoK ns nl) mb sb db i (placeE r) w' F2 caps2) ∧ Below w.heap.size w w' := by
  have H1 : Hid (MvsAt ns nl wO vb r.before) := h1
  have H2 : Hid (MvsAt ns nl wO va r.after) := h2
  obtain ⟨ab, cb, rfl, -, -⟩ := h1.mvs
  obtain ⟨aa, ca, rfl, -, -⟩ := h2.mvs
  obtain ⟨WB, hWB⟩ : ∃ WB, WB = ((w.alloc (.cells #[.pointer (some ⟨sb, 0, none⟩)] 132)).alloc (.cells #[.int .i64 r.dest.kind, .int .i64 r.dest.n, .int .i64 r.a.kind, .int .i64 r.a.n, .int .i64 r.b.kind, .int .i64 r.b.n, .slice ab r.before.length cb, .slice aa r.after.length ca] 140)).alloc (.cells #[.func (.func F) #[] caps] 1) := ⟨_, rfl⟩
  have HB : Hid (Below w.heap.size w WB) := by rw [hWB]; exact (((Below.refl _ _).alloc (Nat.le_refl _) _).alloc (by simp) _).alloc (by simp; omega) _
  have HX : Hid (RBox mb sb db w.heap.size (w.heap.size + 1) r (.slice ab r.before.length cb) (.slice aa r.after.length ca) WB) := by
    rw [hWB]
    refine ⟨?_, ?_, ?_, ?_, ?_, ?_, ?_, ?_, ?_, by omega, by omega, by omega, by omega, by omega, by omega⟩ <;> simp [go_sem]
  have HD : Hid (WB.cell? ⟨w.heap.size + 1 + 1, 0, none⟩ = some (.func (.func F) #[] caps)) := by rw [hWB]; show _ = _; simp [go_sem]
  have HS : Hid (DeedSpec (stoK ns nl) mb sb db i (rowE r) w F caps) := hs
  have HO : Hid (Old wO WB) := fun j hj => (HB.out.block j (by omega)).trans (hO j hj)
  clear hs h1 h2 hO
  unfold rowW
  go_enter Tryz.func70, Tryz.ntmps70
  go_wp2
  go_ret
  rw [← hWB]
  exact ⟨⟨_, _, rfl, between_spec (w0 := w) HX.out HS.out (Kept.of_below HB.out) HB.out.size HD.out (by omega) (by omega) (by omega) H1.out H2.out HO.out (by have := HB.out.size; omega) hOs hOm hOd⟩, HB.out⟩
end
end form
end Go.Proofs.YtikhedkhgpjaaacGreatDoor
