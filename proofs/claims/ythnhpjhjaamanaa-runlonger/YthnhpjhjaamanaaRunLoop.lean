/- The program's own run: all steps. -/
import Derived.Test.YthnhpjhjaamanaaRunGoOn
namespace Go.Proofs.Ythnhpjhjaamanaa.form
open Go.RowKit Go.Proofs.Ythnhpjhjaamanaa.num
set_option linter.unusedVariables false
attribute [local go_sem ↓] Go.wp_at_zero Go.wp_at_succ

set_option maxRecDepth 100000 in
set_option maxHeartbeats 1000000 in
theorem goOn (mb db n : Nat) (B : List Bool) (C : List LIns) (I : List Int) (cs : List Value) (ov iv : Value) (w wD : World) (h12 : B.length ≤ 12) (h1 : 1 ≤ C.length) (h40 : C.length ≤ 40) (hn : n ≤ 3000)
    (hok : ∀ k, k < C.length → InsOk B.length C.length (C.getD k .zero)) (hins : ∀ k, k < C.length → insB B C.length (C.getD k .zero) = true) (hin : ∀ j, j < I.length → 0 ≤ I.getD j 0 ∧ I.getD j 0 < 4294967296)
    (hrow : Row w db 1 cs) (hlen : cs.length = C.length) (hspec : ∀ j, j < C.length → DeedSpec mb db (C.getD j .zero) w (cs.getD j .nilFunc)) (hdb : db < w.heap.size) (hmb : mb ≠ db)
    (hms : MS mb w.heap.size (arr (Mac.start B.length).temps) ov [] 0 0 iv I 0 w) :
    Calls Try.prog 25 #[.pointer (some ⟨mb, 0, none⟩), .slice (some ⟨db, 0, none⟩) C.length C.length, .int .i64 n] w fun e w' =>
      e = .returned (.tuple #[]) ∧ Stopped mb w.heap.size (playM B C I n) w w' := by
  have HOK : Hid _ := hok
  have HINS : Hid _ := hins
  have HIN : Hid _ := hin
  have HROW : Hid (Row w db 1 cs) := hrow
  have HSPEC : Hid (∀ j, j < C.length → DeedSpec mb db (C.getD j .zero) w (cs.getD j .nilFunc)) := hspec
  have HMS : Hid (MS mb w.heap.size (arr (Mac.start B.length).temps) ov [] 0 0 iv I 0 w) := hms
  have z40 : (C.length : Int) ≤ 40 := by omega
  have z3 : (n : Int) ≤ 3000 := by omega
  clear hok hins hin hrow hspec hms
  go_enter Try.func25, Try.ntmps25
  go_wp2
  go_loopg [] (n + 1) (fun g wr => ∃ (m : Mac) (ov iv : Value), GS mb w.heap.size n B C I (playM B C I n) w g m ov iv wr)
  case atStart =>
    refine ⟨Mac.start B.length, ov, iv, ⟨?_, mok_start _ _ _ h1, wok_start B, Or.inl rfl, by simp [Mac.start], by simp [Mac.start], Ran.refl _ _ _, rfl⟩⟩
    simpa [Mac.start] using HMS.out
  case round =>
    obtain ⟨m, ov, iv, hgs⟩ := hrel
    have HGS : Hid (GS mb w.heap.size n B C I (playM B C I n) w gk m ov iv wr) := hgs
    have t0 := hgs.ms.cst
    have t2 := hgs.ms.ck
    have t16 := hgs.ms.cpc
    have f0 := hgs.ms.fz 0
    have hle := hgs.le
    rcases hgs.mend with hst | hst | ⟨hst, hpe⟩
    · rw [if_neg (by omega)] at t0
      have hpc := hgs.mok.pcok hst
      have y1 : (m.pc : Int) < (C.length : Int) := by omega
      have e1 : ((m.pc : Int) == (C.length : Int)) = false := by simp; omega
      rcases Nat.lt_or_ge m.steps n with hlt | hge
      · have e2 : ((m.steps : Int) == (n : Int)) = false := by simp; omega
        have hroww : Row wr db 1 cs := by
          have := HROW.out
          unfold Row at *
          rw [hgs.ran.block db hdb (Ne.symm hmb)]
          exact this
        have cd := hroww.cell m.pc
        rw [List.getElem?_eq_getElem (by omega)] at cd
        have hsp := (HSPEC.out m.pc hpc)
        rw [show cs.getD m.pc .nilFunc = cs[m.pc] by simp [List.getD, show m.pc < cs.length by omega]] at hsp
        obtain ⟨F, caps, hv, hent, hcall⟩ := hsp
        rw [hv] at cd
        have hstep : ∀ w2, MS mb w.heap.size (arr m.temps) ov m.out 0 (m.steps + 1) iv (I.drop m.taken) (m.pc + 1) w2 → Ran mb w.heap.size wr w2 → Calls Try.prog F caps w2 fun e w' => e = .returned (.tuple #[]) ∧ Behind mb w.heap.size (C.getD m.pc .zero) (arr m.temps) m.out 0 (m.steps + 1) (I.drop m.taken) (m.pc + 1) w2 w' := by
          intro w2 h2 hr2
          refine hcall _ _ _ _ _ _ _ _ _ w2 (fun j hj hj1 hj2 => (hgs.ran.trans hr2).block j hj hj1) h2 (Nat.le_refl _) (by have := hgs.mok.outs; omega) (fun h5 => ?_)
          rw [arr_getD _ _ (by have := (HOK.out m.pc hpc).a0; have := (HOK.out m.pc hpc).a1; have := hgs.mok.len; omega)]
          exact pair_narrow (HINS.out m.pc hpc) (HOK.out m.pc hpc) hgs.wok h5
        have hms0 : MS mb w.heap.size (arr m.temps) ov m.out 0 m.steps iv (I.drop m.taken) m.pc wr := by
          have := hgs.ms
          rwa [if_neg (by omega)] at this
        have HST : Hid (Calls Try.prog 36 #[.pointer (some ⟨mb, 0, none⟩), .func (.func F) #[] caps] wr fun e w' => e = .returned (.tuple #[]) ∧ Behind mb w.heap.size (C.getD m.pc .zero) (arr m.temps) m.out 0 (m.steps + 1) (I.drop m.taken) (m.pc + 1) wr w') :=
          stepC F caps hent hms0 (by omega) (by omega) (by omega) (by omega) hstep
        have hdbw : db < wr.heap.size := hroww.lt
        clear hstep hms0 hcall hent hv hroww hgs
        go_wp2_with (go_at_call 36; refine Calls.mono HST.out ?_; rintro e w1 ⟨rfl, hbh⟩)
        go_roundg (gk - 1)
        case measure => have := HGS.out.gh; omega
        case rel =>
          obtain ⟨ov', iv', hg2⟩ := gs_step HGS.out hst hlt h12 (HOK.out m.pc hpc) (HINS.out m.pc hpc) HIN.out hbh
          exact ⟨_, ov', iv', hg2⟩
      · have e2 : ((m.steps : Int) == (n : Int)) = true := by simp; omega
        clear hgs
        go_wp2
        refine bodyPost_ret (results_none rfl _ _ _) rfl ?_
        have hM : m = playM B C I n := by
          rw [← HGS.out.fin, show n - m.steps = 0 by omega]; rfl
        have hq : MS mb w.heap.size (arr m.temps) ov m.out m.state m.steps iv (I.drop m.taken) m.pc wr := by
          have := HGS.out.ms
          rw [if_neg (by omega)] at this
          rw [hst]
          exact this
        rw [← hM]
        exact ⟨rfl, ⟨_, _, _, _, _, hq⟩, HGS.out.ran⟩
    · rw [if_pos hst] at t0
      clear hgs
      go_wp2
      go_end0
      have hM : m = playM B C I n := by
        rw [← HGS.out.fin, Mac.go_stop (by omega)]
      have hq : MS mb w.heap.size (arr m.temps) ov m.out m.state m.steps iv (I.drop m.taken) m.pc wr := by
        have := HGS.out.ms
        rw [if_pos hst] at this
        rw [hst]
        exact this
      rw [← hM]
      exact ⟨rfl, ⟨_, _, _, _, _, hq⟩, HGS.out.ran⟩
    · rw [if_neg (by omega)] at t0
      have e1 : ((m.pc : Int) == (C.length : Int)) = true := by simp; omega
      clear hgs
      go_wp2
      refine bodyPost_ret (results_none rfl _ _ _) rfl ?_
      have hM : m = playM B C I n := by
        rw [← HGS.out.fin, Mac.go_stop (by omega)]
      have hq : MS mb w.heap.size (arr m.temps) ov m.out m.state m.steps iv (I.drop m.taken) m.pc (wr.setCell ⟨mb, 0, none⟩ (.int .i64 2)) := by
        rw [hst]
        exact HGS.out.ms.setState 2
      rw [← hM]
      exact ⟨rfl, ⟨_, _, _, _, _, hq⟩, HGS.out.ran.set _ _⟩

end Go.Proofs.Ythnhpjhjaamanaa.form
