/- The program's own run: its closures, one an instruction; a step; all steps. -/
import Derived.Test.YthnhpjhjaamanaaRunDeeds
import Derived.Test.YthnhpjhjaamanaaRunPlay
import Derived.Test.YthnhpjhjaamanaaRunWide
namespace Go.Proofs.Ythnhpjhjaamanaa.form
open Go.RowKit Go.Proofs.Ythnhpjhjaamanaa.num
set_option linter.unusedVariables false
attribute [local go_sem ↓] Go.wp_at_zero Go.wp_at_succ

theorem infoFunc : (Try.prog.info? 1).map (fun i => (i.zero, i.size, i.bytes)) = some (some .nilFunc, 1, 8) := by kernel_rfl

theorem made_func (n : Nat) : madeCells #[Value.nilFunc] n = (List.replicate n Value.nilFunc).toArray := by
  apply Array.toList_inj.1
  rw [toList_madeCells_one]

/-- The closures that are made up to some instruction. -/
structure DS (w : World) (mb : Nat) (C : List LIns) (k : Nat) (cs : List Value) (wr : World) : Prop where
  bel : Below w.heap.size w wr
  row : Row wr w.heap.size 1 cs
  len : cs.length = C.length
  spec : ∀ j, j < k → DeedSpec mb w.heap.size (C.getD j .zero) wr (cs.getD j .nilFunc)

set_option maxRecDepth 100000 in
set_option maxHeartbeats 1000000 in
theorem deeds (mb b0 o0 b1 o1 c1 nB : Nat) (B : List Bool) (C : List LIns) (w : World) (hC : C.length ≤ 40) (h : Held w b0 o0 b1 o1 B C) (hok : ∀ k, k < C.length → InsOk nB C.length (C.getD k .zero)) (h12 : nB ≤ 12) (hu : ∀ k, k < C.length → 10 < (C.getD k .zero).op → 21 ≤ (C.getD k .zero).op) (hmb : mb < w.heap.size) :
    Calls Try.prog 26 #[.pointer (some ⟨mb, 0, none⟩), .slice (some ⟨b1, o1, none⟩) C.length c1] w fun e w' =>
      e = .returned (.slice (some ⟨w.heap.size, 0, none⟩) C.length C.length) ∧ ∃ cs, DS w mb C C.length cs w' := by
  have HOK : Hid _ := hok
  have HU : Hid _ := hu
  have hmk := fun wx => run_make_row' (P := Try.prog) 54 1 .nilFunc 8 Try.underlying54 infoFunc rfl .i64 .i64 C.length (by omega) (by omega) wx
  have HH : Hid (Held w b0 o0 b1 o1 B C) := h
  have hb1 := h.lt1
  clear hok hu h
  go_enter Try.func26, Try.ntmps26
  go_wp2
  go_loopw [13] (fun t wr => ∃ (k : Nat) (cs : List Value), k ≤ C.length ∧ t = .int .i64 k ∧ DS w mb C k cs wr) (fun t _ => C.length - (intOf t).toNat)
  case atStart =>
    refine ⟨0, List.replicate C.length .nilFunc, by omega, rfl, (Below.refl _ _).alloc (Nat.le_refl _) _, ?_, by simp, fun j hj => absurd hj (by omega)⟩
    rw [made_func]
    exact Row.new w _ _
  case round =>
    obtain ⟨k, cs, hk, rfl, hds⟩ := hrel
    have HD : Hid (DS w mb C k cs wr) := hds
    by_cases hlt : k < C.length
    case neg =>
      clear hds
      go_wp2
      go_ret
      obtain rfl : k = C.length := by omega
      exact ⟨rfl, cs, HD.out⟩
    obtain ⟨d0, d1, d2, d3, d4, d5⟩ := (HH.out.later hds.bel).code k hlt
    have hio := HOK.out k hlt
    have hiu := HU.out k hlt
    obtain ⟨i, hi⟩ : ∃ i, i = C.getD k .zero := ⟨_, rfl⟩
    rw [← hi] at d0 d1 d2 d3 d4 d5 hio hiu
    have HI : Hid (i = C.getD k .zero) := hi
    have HIO : Hid (InsOk nB C.length i) := hio
    have HIU : Hid (10 < i.op → 21 ≤ i.op) := hiu
    have y1 : (k : Int) < (C.length : Int) := by omega
    have y2 : (C.length : Int) ≤ 40 := by omega
    have hrl := hds.row.lt
    have hbz := hds.bel.size
    clear hi hio hiu hds
    go_wp2_with (go_at_call 37; refine (deed (mb := mb) (db := w.heap.size) HIO.out h12 HIU.out _ (by simp; omega) (by simp; omega)).mono ?_; rintro e w1 ⟨⟨g, rfl, hgs⟩, hb2⟩; have HGS : Hid _ := hgs; obtain ⟨F, caps, rfl, -, -⟩ := hgs; have hr1 := (HD.out.row.alloc _).below hb2; have fz := hr1.frozen k; have cz := hr1.cell k; rw [List.getElem?_eq_getElem (by have := HD.out.len; omega)] at cz; have HR : Hid _ := hr1; clear hr1)
    have hbw : Below wr.heap.size wr w1 := over_alloc hb2
    have hrow : Row w1 w.heap.size 1 cs := HR.out
    have hln := HD.out.len
    refine ⟨⟨k + 1, cs.set k (.func (.func F) #[] caps), by omega, by go_num, ⟨(step_below hbw HD.out.bel).setCell (by simp) _, hrow.set k _, by simp [hln], fun j hj => ?_⟩⟩, by simp [intOf]; omega⟩
    have hz1 : (w1.setCell ⟨w.heap.size, k, none⟩ (.func (.func F) #[] caps)).heap.size = w1.heap.size := by simp [World.setCell]
    by_cases hjk : j = k
    · subst hjk
      rw [show (cs.set j (.func (.func F) #[] caps)).getD j .nilFunc = .func (.func F) #[] caps by simp [List.getD, hln, hlt], ← HI.out]
      exact DeedSpec.later HGS.out (Kept.set _ _ _) (by omega)
    · rw [show (cs.set k (.func (.func F) #[] caps)).getD j .nilFunc = cs.getD j .nilFunc by simp [List.getD, Ne.symm hjk]]
      exact ((HD.out.spec j (by omega)).later (Kept.of_below hbw) hbw.size).later (Kept.set _ _ _) (by omega)

/-- One step: counted, on to the next one, the deed. -/
theorem stepC {mb base : Nat} {ts : List Int} {ov : Value} {l : List Int} {st k : Int} {iv : Value} {I : List Int} {pc : Int} {i : LIns} {w : World} (F : Nat) (caps : Array Value)
    (hent : ∀ w, Sem.run Try.prog (callFunc F caps) w = .ok (.enter F caps) w) (hm : MS mb base ts ov l st k iv I pc w) (hk0 : 0 ≤ k) (hk1 : k ≤ 3000) (hp0 : 0 ≤ pc) (hp1 : pc ≤ 40)
    (hc : ∀ w2, MS mb base ts ov l st (k + 1) iv I (pc + 1) w2 → Ran mb base w w2 → Calls Try.prog F caps w2 fun e w' => e = .returned (.tuple #[]) ∧ Behind mb base i ts l st (k + 1) I (pc + 1) w2 w') :
    Calls Try.prog 36 #[.pointer (some ⟨mb, 0, none⟩), .func (.func F) #[] caps] w fun e w' => e = .returned (.tuple #[]) ∧ Behind mb base i ts l st (k + 1) I (pc + 1) w w' := by
  have ck := hm.ck
  have cp := hm.cpc
  have fk := hm.fz 2
  have fp := hm.fz 16
  have h1 := hm.setSteps (k + 1)
  have h2 := h1.setPc (pc + 1)
  have cp1 := h1.cpc
  have fp1 := h1.fz 16
  have hr : Ran mb base w ((w.setCell ⟨mb, 2, none⟩ (.int .i64 (k + 1))).setCell ⟨mb, 16, none⟩ (.int .i64 (pc + 1))) := ((Ran.refl _ _ _).set _ _).set _ _
  have HC : Hid _ := hc _ h2 hr
  have HR : Hid _ := hr
  clear h1 h2 hr hm hc
  go_enter Try.func36, Try.ntmps36
  go_wp2_with fail
  refine Calls.mono HC.out ?_
  rintro e w1 ⟨rfl, hbh⟩
  go_wp2
  go_end0
  exact ⟨rfl, hbh.1, HR.out.trans hbh.2⟩

/-- What the machine shows when it stops. -/
def Stopped (mb base : Nat) (M : Mac) (w w' : World) : Prop := (∃ ts ov iv I pc, MS mb base ts ov M.out M.state M.steps iv I pc w') ∧ Ran mb base w w'

/-- The temporaries in their array. -/
def arr (ts : List Int) : List Int := ts ++ List.replicate (12 - ts.length) 0

theorem arr_getD (ts : List Int) (j : Nat) (hj : j < ts.length) : (arr ts).getD j 0 = ts.getD j 0 := by
  unfold arr
  simp [List.getD, List.getElem?_append_left hj, hj]
theorem arr_set (ts : List Int) (j : Nat) (x : Int) (hj : j < ts.length) : (arr ts).set j x = arr (ts.set j x) := by
  unfold arr
  simp [hj]

/-- Between two steps. -/
structure GS (mb base n : Nat) (B : List Bool) (C : List LIns) (I : List Int) (M : Mac) (w : World) (g : Nat) (m : Mac) (ov iv : Value) (wr : World) : Prop where
  ms : MS mb base (arr m.temps) ov m.out (if m.state = 1 then 1 else 0) m.steps iv (I.drop m.taken) m.pc wr
  mok : MOk B.length C.length I.length m
  wok : WOk B m.temps
  mend : MEnd C.length m
  gh : m.steps + g = n + 1
  le : m.steps ≤ n
  ran : Ran mb base w wr
  fin : Mac.go C I (n - m.steps) m = M

theorem gs_step {mb base n : Nat} {B : List Bool} {C : List LIns} {I : List Int} {M : Mac} {w : World} {g : Nat} {m : Mac} {ov iv : Value} {wr w' : World} (h : GS mb base n B C I M w g m ov iv wr) (h0 : m.state = 0) (hlt : m.steps < n) (h12 : B.length ≤ 12)
    (hi : InsOk B.length C.length (C.getD m.pc .zero)) (hins : insB B C.length (C.getD m.pc .zero) = true) (hin : ∀ j, j < I.length → 0 ≤ I.getD j 0 ∧ I.getD j 0 < 4294967296)
    (hb : Behind mb base (C.getD m.pc .zero) (arr m.temps) m.out 0 (m.steps + 1) (I.drop m.taken) (m.pc + 1) wr w') :
    ∃ ov' iv', GS mb base n B C I M w (g - 1) (m.step C I) ov' iv' w' := by
  obtain ⟨⟨ov', iv', hms⟩, hr⟩ := hb
  have hpc := h.mok.pcok h0
  have hl := h.mok.len
  have ea : (arr m.temps).getD (C.getD m.pc .zero).a.toNat 0 = m.temps.getD (C.getD m.pc .zero).a.toNat 0 := arr_getD _ _ (by have := hi.a0; have := hi.a1; omega)
  have eb : (arr m.temps).getD (C.getD m.pc .zero).b.toNat 0 = m.temps.getD (C.getD m.pc .zero).b.toNat 0 := arr_getD _ _ (by have := hi.b0; have := hi.b1; omega)
  have ei : (I.drop m.taken).headD 0 = inOf I m.taken := by
    unfold inOf
    simp [List.headD_eq_head?_getD, List.getD]
  rw [ea, eb, ei] at hms
  have hmok := mok_step h.mok h0 hi hin
  have hwok := wok_step hins hi h.wok h.mok hin
  have hmend : MEnd C.length (m.step C I) := mend_step hi hpc
  refine ⟨ov', iv', ⟨?_, hmok, hwok, hmend, ?_, ?_, h.ran.trans hr, ?_⟩⟩
  · have e1 : (if givesB (C.getD m.pc .zero).op = true then (arr m.temps).set (C.getD m.pc .zero).dest.toNat (gvI (C.getD m.pc .zero) (m.temps.getD (C.getD m.pc .zero).a.toNat 0) (m.temps.getD (C.getD m.pc .zero).b.toNat 0) (inOf I m.taken)) else arr m.temps) = arr (m.step C I).temps := by
      simp only [Mac.step]
      split
      · rename_i hg
        obtain ⟨d0, d1⟩ := hi.d hg
        exact arr_set _ _ _ (by omega)
      · rfl
    have e2 : (if (C.getD m.pc .zero).op = 4 then m.out ++ [m.temps.getD (C.getD m.pc .zero).a.toNat 0 % 4294967296] else m.out) = (m.step C I).out := rfl
    have e3 : (if (C.getD m.pc .zero).op = 10 then (1 : Int) else 0) = if (m.step C I).state = 1 then 1 else 0 := by
      have hs : (m.step C I).state = stI (C.getD m.pc .zero) C.length (nxI (C.getD m.pc .zero) m.pc (m.temps.getD (C.getD m.pc .zero).a.toNat 0)) := rfl
      generalize (m.step C I).state = s at hs ⊢
      unfold stI at hs
      by_cases e : (C.getD m.pc .zero).op = 10
      · rw [if_pos e] at hs
        rw [if_pos e, if_pos hs]
      · rw [if_neg e] at hs
        rw [if_neg e, if_neg (by split at hs <;> omega)]
    have e4 : (if (C.getD m.pc .zero).op = 3 then (I.drop m.taken).tail else I.drop m.taken) = I.drop (m.step C I).taken := by
      simp only [Mac.step]
      by_cases e : (C.getD m.pc .zero).op = 3
      · by_cases e' : m.taken < I.length
        · rw [if_pos e, if_pos ⟨e, e'⟩]; simp
        · rw [if_pos e, if_neg (fun h => e' h.2), List.drop_of_length_le (by omega)]; rfl
      · rw [if_neg e, if_neg (fun h => e h.1)]
    have e5 : (if (C.getD m.pc .zero).op = 8 ∨ (C.getD m.pc .zero).op = 9 ∧ ¬ m.temps.getD (C.getD m.pc .zero).a.toNat 0 = 0 then (C.getD m.pc .zero).c else (m.pc : Int) + 1) = ((m.step C I).pc : Int) := by
      simp only [Mac.step]
      unfold nxI
      split
      · rename_i hc
        have := (hi.c (by rcases hc with hc | hc; exact Or.inl hc; exact Or.inr hc.1)).1
        omega
      · omega
    rw [e1, e2, e3, e4, e5] at hms
    have e6 : ((m.step C I).steps : Int) = (m.steps : Int) + 1 := by simp [Mac.step]
    rw [e6]
    exact hms
  · have := h.gh
    simp only [Mac.step]
    omega
  · simp only [Mac.step]; omega
  · rw [← h.fin]
    have e : n - m.steps = (n - (m.steps + 1)) + 1 := by omega
    rw [e]
    show _ = if m.state = 0 then _ else _
    rw [if_pos h0]
    rfl

end Go.Proofs.Ythnhpjhjaamanaa.form
