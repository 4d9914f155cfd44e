/- The program's own machine: a step, all steps, whatever the store and the deeds. -/
import Derived.Test.YtolhnlbgohobkaaRunEnds
import Derived.Laws.EntriesVeiled
namespace Go.Proofs.Ytolhnlbgohobkaa.form
open Go.RowKit Go.Proofs.Ytolhnlbgohobkaa.num
set_option linter.unusedVariables false
attribute [local go_sem ↓] Go.wp_at_zero Go.wp_at_succ

/-- One step: counted, on to the next one, the deed. -/
theorem stepC {K : StoK} {mb sb base : Nat} {s : K.S} {ov : Value} {l : List Int} {st k : Int} {iv : Value} {I : List Int} {pc : Int} {i : LIns} {E : Eff K.S} {w : World} (F : Nat) (caps : Array Value)
    (hent : ∀ w, Sem.run Try.prog (callFunc F caps) w = .ok (.enter F caps) w) (hm : MS K mb sb base s ov l st k iv I pc w) (hk0 : 0 ≤ k) (hk1 : k ≤ 3000) (hp0 : 0 ≤ pc) (hp1 : pc ≤ 40)
    (hc : ∀ w2, MS K mb sb base s ov l st (k + 1) iv I (pc + 1) w2 → Ran mb sb base w w2 → Calls Try.prog F caps w2 fun e w' => e = .returned (.tuple #[]) ∧ Behind K mb sb base i E s l st (k + 1) I (pc + 1) w2 w') :
    Calls Try.prog 88 #[.pointer (some ⟨mb, 0, none⟩), .func (.func F) #[] caps] w fun e w' => e = .returned (.tuple #[]) ∧ Behind K mb sb base i E s l st (k + 1) I (pc + 1) w w' := by
  have ck := hm.ck
  have cp := hm.cpc
  have fk := hm.fz 2
  have fp := hm.fz 4
  have h1 := hm.setSteps (k + 1)
  have h2 := h1.setPc (pc + 1)
  have cp1 := h1.cpc
  have fp1 := h1.fz 4
  have hr : Ran mb sb base w ((w.setCell ⟨mb, 2, none⟩ (.int .i64 (k + 1))).setCell ⟨mb, 4, none⟩ (.int .i64 (pc + 1))) := ((Ran.refl _ _ _ _).set _ _).set _ _
  have HC : Hid _ := hc _ h2 hr
  have HR : Hid _ := hr
  clear h1 h2 hr hm hc
  go_enter Try.func88, Try.ntmps88
  go_wp2_with fail
  refine Calls.mono HC.out ?_
  rintro e w1 ⟨rfl, hbh⟩
  go_wp2
  go_end0
  exact ⟨rfl, hbh.1, HR.out.trans hbh.2⟩

/-- What the machine shows when it stops. -/
def Stopped (K : StoK) (mb sb base : Nat) (M : GM K.S) (w w' : World) : Prop := (∃ s ov iv I pc, MS K mb sb base s ov M.out M.state M.steps iv I pc w') ∧ Ran mb sb base w w'

/-- Between two steps. -/
structure GS (K : StoK) (Inv : K.S → Prop) (mb sb base n : Nat) (C : List LIns) (E : Nat → Eff K.S) (I : List Int) (M : GM K.S) (w : World) (g : Nat) (m : GM K.S) (ov iv : Value) (wr : World) : Prop where
  ms : MS K mb sb base m.sto ov m.out (if m.state = 1 then 1 else 0) m.steps iv (I.drop m.taken) m.pc wr
  gok : GOk C.length I.length m
  inv : Inv m.sto
  gh : m.steps + g = n + 1
  le : m.steps ≤ n
  ran : Ran mb sb base w wr
  fin : GM.go C E I (n - m.steps) m = M

theorem gs_step {K : StoK} {Inv : K.S → Prop} {mb sb base n nB : Nat} {C : List LIns} {E : Nat → Eff K.S} {I : List Int} {M : GM K.S} {w : World} {g : Nat} {m : GM K.S} {ov iv : Value} {wr w' : World} (h : GS K Inv mb sb base n C E I M w g m ov iv wr) (h0 : m.state = 0) (hlt : m.steps < n)
    (hi : InsOk nB C.length (C.getD m.pc .zero)) (hin : ∀ j, j < I.length → 0 ≤ I.getD j 0 ∧ I.getD j 0 < 4294967296)
    (hinv : ∀ j, j < C.length → ∀ s x, Inv s → K.ok s → 0 ≤ x → x < 4294967296 → Inv ((E j).act (C.getD j .zero) s x))
    (hb : Behind K mb sb base (C.getD m.pc .zero) (E m.pc) m.sto m.out 0 (m.steps + 1) (I.drop m.taken) (m.pc + 1) wr w') :
    ∃ ov' iv', GS K Inv mb sb base n C E I M w (g - 1) (m.step C E I) ov' iv' w' := by
  obtain ⟨⟨ov', iv', hms⟩, hr⟩ := hb
  have hpc := h.gok.pcok h0
  have ei : (I.drop m.taken).headD 0 = inOf I m.taken := by
    unfold inOf
    simp [List.headD_eq_head?_getD, List.getD]
  rw [ei] at hms
  have hx := inOf_bd hin m.taken
  refine ⟨ov', iv', ⟨?_, gok_step h.gok h0 hi, hinv m.pc hpc m.sto _ h.inv h.ms.ok hx.1 hx.2, ?_, ?_, h.ran.trans hr, ?_⟩⟩
  · have e1 : (E m.pc).act (C.getD m.pc .zero) m.sto (inOf I m.taken) = (m.step C E I).sto := rfl
    have e2 : (if (C.getD m.pc .zero).op = 4 then m.out ++ [(E m.pc).a m.sto % 4294967296] else m.out) = (m.step C E I).out := rfl
    have e3 : (if (C.getD m.pc .zero).op = 10 then (1 : Int) else 0) = if (m.step C E I).state = 1 then 1 else 0 := by
      have hs : (m.step C E I).state = stI (C.getD m.pc .zero) C.length (nxI (C.getD m.pc .zero) m.pc ((E m.pc).a m.sto)) := rfl
      generalize (m.step C E I).state = s at hs ⊢
      unfold stI at hs
      by_cases e : (C.getD m.pc .zero).op = 10
      · rw [if_pos e] at hs
        rw [if_pos e, if_pos hs]
      · rw [if_neg e] at hs
        rw [if_neg e, if_neg (by split at hs <;> omega)]
    have e4 : (if (C.getD m.pc .zero).op = 3 then (I.drop m.taken).tail else I.drop m.taken) = I.drop (m.step C E I).taken := by
      simp only [GM.step]
      by_cases e : (C.getD m.pc .zero).op = 3
      · by_cases e' : m.taken < I.length
        · rw [if_pos e, if_pos ⟨e, e'⟩]; simp
        · rw [if_pos e, if_neg (fun h => e' h.2), List.drop_of_length_le (by omega)]; rfl
      · rw [if_neg e, if_neg (fun h => e h.1)]
    have e5 : (if (C.getD m.pc .zero).op = 8 ∨ (C.getD m.pc .zero).op = 9 ∧ ¬ (E m.pc).a m.sto = 0 then (C.getD m.pc .zero).c else (m.pc : Int) + 1) = ((m.step C E I).pc : Int) := by
      simp only [GM.step]
      unfold nxI
      split
      · rename_i hc
        have := (hi.c (by rcases hc with hc | hc; exact Or.inl hc; exact Or.inr hc.1)).1
        omega
      · omega
    rw [e1, e2, e3, e4, e5] at hms
    have e6 : ((m.step C E I).steps : Int) = (m.steps : Int) + 1 := by simp [GM.step]
    rw [e6]
    exact hms
  · have := h.gh
    simp only [GM.step]
    omega
  · simp only [GM.step]; omega
  · rw [← h.fin]
    have e : n - m.steps = (n - (m.steps + 1)) + 1 := by omega
    rw [e]
    show _ = if m.state = 0 then _ else _
    rw [if_pos h0]
    rfl

set_option maxRecDepth 100000 in
set_option maxHeartbeats 1000000 in
theorem goOn (K : StoK) (Inv : K.S → Prop) (mb sb db n nB : Nat) (C : List LIns) (E : Nat → Eff K.S) (I : List Int) (s0 : K.S) (cs : List Value) (ov iv : Value) (w : World) (h1 : 1 ≤ C.length) (h40 : C.length ≤ 40) (hn : n ≤ 3000)
    (hok : ∀ k, k < C.length → InsOk nB C.length (C.getD k .zero)) (hin : ∀ j, j < I.length → 0 ≤ I.getD j 0 ∧ I.getD j 0 < 4294967296)
    (hinv : ∀ j, j < C.length → ∀ s x, Inv s → K.ok s → 0 ≤ x → x < 4294967296 → Inv ((E j).act (C.getD j .zero) s x)) (hnar : ∀ j, j < C.length → (C.getD j .zero).op = 5 → ∀ s, Inv s → K.ok s → (E j).a s < 4294967296) (hi0 : Inv s0)
    (hrow : Row w db 1 cs) (hlen : cs.length = C.length) (hspec : ∀ j, j < C.length → ∃ F caps, cs.getD j .nilFunc = .func (.func F) #[] caps ∧ DeedSpec K mb sb db (C.getD j .zero) (E j) w F caps) (hdb : db < w.heap.size) (hmb : mb ≠ db) (hsb : sb ≠ db)
    (hms : MS K mb sb w.heap.size s0 ov [] 0 0 iv I 0 w) :
    Calls Try.prog 46 #[.pointer (some ⟨mb, 0, none⟩), .slice (some ⟨db, 0, none⟩) C.length C.length, .int .i64 n] w fun e w' =>
      e = .returned (.tuple #[]) ∧ Stopped K mb sb w.heap.size (GM.go C E I n (GM.start s0)) w w' := by
  have HOK : Hid _ := hok
  have HIN : Hid _ := hin
  have HINV : Hid _ := hinv
  have HNAR : Hid _ := hnar
  have HROW : Hid (Row w db 1 cs) := hrow
  have HSPEC : Hid (∀ j, j < C.length → ∃ F caps, cs.getD j .nilFunc = .func (.func F) #[] caps ∧ DeedSpec K mb sb db (C.getD j .zero) (E j) w F caps) := hspec
  have HMS : Hid (MS K mb sb w.heap.size s0 ov [] 0 0 iv I 0 w) := hms
  obtain ⟨M, hM0⟩ : ∃ M, M = GM.go C E I n (GM.start s0) := ⟨_, rfl⟩
  have HM0 : Hid (GM.go C E I n (GM.start s0) = M) := hM0.symm
  rw [← hM0]
  have z40 : (C.length : Int) ≤ 40 := by omega
  have z3 : (n : Int) ≤ 3000 := by omega
  clear hok hin hinv hnar hrow hspec hms hM0
  go_enter Try.func46, Try.ntmps46
  go_wp2
  go_loopg [] (n + 1) (fun g wr => ∃ (m : GM K.S) (ov iv : Value), GS K Inv mb sb w.heap.size n C E I M w g m ov iv wr)
  case atStart =>
    refine ⟨GM.start s0, ov, iv, ⟨?_, gok_start _ _ _ h1, hi0, by simp [GM.start], by simp [GM.start], Ran.refl _ _ _ _, by simpa [GM.start] using HM0.out⟩⟩
    simpa [GM.start] using HMS.out
  case round =>
    obtain ⟨m, ov, iv, hgs⟩ := hrel
    have HGS : Hid (GS K Inv mb sb w.heap.size n C E I M w gk m ov iv wr) := hgs
    have t0 := hgs.ms.cst
    have t2 := hgs.ms.ck
    have t16 := hgs.ms.cpc
    have f0 := hgs.ms.fz 0
    have hle := hgs.le
    rcases hgs.gok.fin with hst | hst | ⟨hst, hpe⟩
    · rw [if_neg (by omega)] at t0
      have hpc := hgs.gok.pcok hst
      have y1 : (m.pc : Int) < (C.length : Int) := by omega
      have e1 : ((m.pc : Int) == (C.length : Int)) = false := by simp; omega
      rcases Nat.lt_or_ge m.steps n with hlt | hge
      · have e2 : ((m.steps : Int) == (n : Int)) = false := by simp; omega
        have hroww : Row wr db 1 cs := by
          have := HROW.out
          unfold Row at *
          rw [hgs.ran.block db hdb (Ne.symm hmb) (Ne.symm hsb)]
          exact this
        have cd := hroww.cell m.pc
        rw [List.getElem?_eq_getElem (by omega)] at cd
        obtain ⟨F, caps, hv, hent, hcall⟩ := (HSPEC.out m.pc hpc)
        rw [show cs.getD m.pc .nilFunc = cs[m.pc] by simp [List.getD, show m.pc < cs.length by omega]] at hv
        rw [hv] at cd
        have hstep : ∀ w2, MS K mb sb w.heap.size m.sto ov m.out 0 (m.steps + 1) iv (I.drop m.taken) (m.pc + 1) w2 → Ran mb sb w.heap.size wr w2 → Calls Try.prog F caps w2 fun e w' => e = .returned (.tuple #[]) ∧ Behind K mb sb w.heap.size (C.getD m.pc .zero) (E m.pc) m.sto m.out 0 (m.steps + 1) (I.drop m.taken) (m.pc + 1) w2 w' := by
          intro w2 h2 hr2
          exact hcall _ _ _ _ _ _ _ _ _ w2 (fun j hj hj1 hj2 hj3 => (hgs.ran.trans hr2).block j hj hj1 hj2) h2.sz h2 (Nat.le_refl _) (by have := hgs.gok.outs; omega) (fun h5 => HNAR.out m.pc hpc h5 _ hgs.inv hgs.ms.ok)
        have hms0 : MS K mb sb w.heap.size m.sto ov m.out 0 m.steps iv (I.drop m.taken) m.pc wr := by
          have := hgs.ms
          rwa [if_neg (by omega)] at this
        have HST : Hid (Calls Try.prog 88 #[.pointer (some ⟨mb, 0, none⟩), .func (.func F) #[] caps] wr fun e w' => e = .returned (.tuple #[]) ∧ Behind K mb sb w.heap.size (C.getD m.pc .zero) (E m.pc) m.sto m.out 0 (m.steps + 1) (I.drop m.taken) (m.pc + 1) wr w') :=
          stepC F caps hent hms0 (by omega) (by omega) (by omega) (by omega) hstep
        have hdbw : db < wr.heap.size := hroww.lt
        clear hstep hms0 hcall hent hv hroww hgs
        go_wp2_with (go_at_call 88; refine Calls.mono HST.out ?_; rintro e w1 ⟨rfl, hbh⟩)
        go_roundg (gk - 1)
        case measure => have := HGS.out.gh; omega
        case rel =>
          obtain ⟨ov', iv', hg2⟩ := gs_step HGS.out hst hlt (HOK.out m.pc hpc) HIN.out HINV.out hbh
          exact ⟨_, ov', iv', hg2⟩
      · have e2 : ((m.steps : Int) == (n : Int)) = true := by simp; omega
        clear hgs
        go_wp2
        refine bodyPost_ret (results_none rfl _ _ _) rfl ?_
        have hM : m = M := by
          rw [← HGS.out.fin, show n - m.steps = 0 by omega]; rfl
        have hq : MS K mb sb w.heap.size m.sto ov m.out m.state m.steps iv (I.drop m.taken) m.pc wr := by
          have := HGS.out.ms
          rw [if_neg (by omega)] at this
          rw [hst]
          exact this
        rw [← hM]
        exact ⟨rfl, ⟨_, _, _, _, _, hq⟩, HGS.out.ran⟩
    · rw [if_pos hst] at t0
      clear hgs
      go_wp2
      go_end0
      have hM : m = M := by
        rw [← HGS.out.fin, GM.go_stop (by omega)]
      have hq : MS K mb sb w.heap.size m.sto ov m.out m.state m.steps iv (I.drop m.taken) m.pc wr := by
        have := HGS.out.ms
        rw [if_pos hst] at this
        rw [hst]
        exact this
      rw [← hM]
      exact ⟨rfl, ⟨_, _, _, _, _, hq⟩, HGS.out.ran⟩
    · rw [if_neg (by omega)] at t0
      have e1 : ((m.pc : Int) == (C.length : Int)) = true := by simp; omega
      clear hgs
      go_wp2
      refine bodyPost_ret (results_none rfl _ _ _) rfl ?_
      have hM : m = M := by
        rw [← HGS.out.fin, GM.go_stop (by omega)]
      have hq : MS K mb sb w.heap.size m.sto ov m.out m.state m.steps iv (I.drop m.taken) m.pc (wr.setCell ⟨mb, 0, none⟩ (.int .i64 2)) := by
        rw [hst]
        exact HGS.out.ms.setState 2
      rw [← hM]
      exact ⟨rfl, ⟨_, _, _, _, _, hq⟩, HGS.out.ran.set _ _⟩

end Go.Proofs.Ytolhnlbgohobkaa.form
