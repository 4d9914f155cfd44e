/- What loanbookref2.ins answers. -/
import Derived.Test.YtepfegfacdbhbabFormRefs
import Derived.Deep.DeepCutAuto
namespace Go.Proofs.Ytepfegfacdbhbab.form
open Go.RowKit
set_option linter.unusedVariables false
attribute [local go_sem ↓] Go.wp_at_zero Go.wp_at_succ

def fieldB (B : List Bool) (there : Bool) (f : Int) : Bool := if there then decide (0 ≤ f) && decide (f < B.length) else f == 0
def lineB (nC : Nat) (i : LIns) : Bool := if i.op = 8 ∨ i.op = 9 then decide (0 ≤ i.c) && decide (i.c < nC) else i.c == 0
def insB (B : List Bool) (nC : Nat) (i : LIns) : Bool :=
  knownB i.op && (i.op == 1 || i.n == 0) && fieldB B (givesB i.op) i.dest && fieldB B (decide (0 < manyI i.op)) i.a && fieldB B (decide (1 < manyI i.op)) i.b && lineB nC i && widthsB B i

theorem field_no {B : List Bool} {f : Int} (h : (f != 0) = true) : fieldB B false f = false := by unfold fieldB; simpa using h
theorem field_yes {B : List Bool} {f : Int} (h : (f != 0) = false) : fieldB B false f = true := by unfold fieldB; simpa using h
theorem field_in {B : List Bool} {f : Int} (h1 : 0 ≤ f) (h2 : f < B.length) : fieldB B true f = true := by unfold fieldB; simp [h1, h2]
theorem field_out {B : List Bool} {f : Int} (h : ¬ (0 ≤ f ∧ f < B.length)) : fieldB B true f = false := by unfold fieldB; simp; omega
theorem insB_no0 {B : List Bool} {nC : Nat} {i : LIns} (h : fieldB B (givesB i.op) i.dest = false) : false = insB B nC i := by simp [insB, h]
theorem insB_no1 {B : List Bool} {nC : Nat} {i : LIns} (h : fieldB B (decide (0 < manyI i.op)) i.a = false) : false = insB B nC i := by simp [insB, h]
theorem insB_no2 {B : List Bool} {nC : Nat} {i : LIns} (h : fieldB B (decide (1 < manyI i.op)) i.b = false) : false = insB B nC i := by simp [insB, h]

theorem insB_noL {B : List Bool} {nC : Nat} {i : LIns} (h : lineB nC i = false) : false = insB B nC i := by simp [insB, h]
theorem insB_yes {B : List Bool} {nC : Nat} {i : LIns} (hk : knownB i.op = true) (hn : (i.op != 1 && i.n != 0) = false) (f0 : fieldB B (givesB i.op) i.dest = true) (f1 : fieldB B (decide (0 < manyI i.op)) i.a = true) (f2 : fieldB B (decide (1 < manyI i.op)) i.b = true) (hl : lineB nC i = true) : widthsB B i = insB B nC i := by
  have hn' : (i.op == 1 || i.n == 0) = true := by
    cases h1 : (i.op == 1) <;> cases h2 : (i.n == 0) <;> simp_all
  unfold insB
  rw [hk, hn', f0, f1, f2, hl]
  rfl

/-- What lies in memory while the fields are asked. -/
structure IState (w : World) (b0 o0 c0 b1 o1 c1 : Nat) (B : List Bool) (C : List LIns) (i : LIns) (wr : World) : Prop where
  bel : Below w.heap.size w wr
  p0 : wr.cell? ⟨w.heap.size, 0, none⟩ = some (.slice (some ⟨b0, o0, none⟩) B.length c0)
  p1 : wr.cell? ⟨w.heap.size, 1, none⟩ = some (.slice (some ⟨b1, o1, none⟩) C.length c1)
  q0 : wr.cell? ⟨w.heap.size + 1, 0, none⟩ = some (.int .i64 i.op)
  q1 : wr.cell? ⟨w.heap.size + 1, 1, none⟩ = some (.int .i64 i.dest)
  q2 : wr.cell? ⟨w.heap.size + 1, 2, none⟩ = some (.int .i64 i.a)
  q3 : wr.cell? ⟨w.heap.size + 1, 3, none⟩ = some (.int .i64 i.b)
  q4 : wr.cell? ⟨w.heap.size + 1, 4, none⟩ = some (.int .i64 i.c)
  q5 : wr.cell? ⟨w.heap.size + 1, 5, none⟩ = some (.int .u32 i.n)
  f0 : wr.cell? ⟨w.heap.size + 1 + 1, 0, none⟩ = some (.int .i64 i.dest)
  f1 : wr.cell? ⟨w.heap.size + 1 + 1, 1, none⟩ = some (.int .i64 i.a)
  f2 : wr.cell? ⟨w.heap.size + 1 + 1, 2, none⟩ = some (.int .i64 i.b)
  t0 : wr.cell? ⟨w.heap.size + 1 + 1 + 1, 0, none⟩ = some (.bool (givesB i.op))
  t1 : wr.cell? ⟨w.heap.size + 1 + 1 + 1, 1, none⟩ = some (.bool (decide (0 < manyI i.op)))
  t2 : wr.cell? ⟨w.heap.size + 1 + 1 + 1, 2, none⟩ = some (.bool (decide (1 < manyI i.op)))

set_option maxRecDepth 100000 in
set_option maxHeartbeats 4000000 in
theorem ins (b0 o0 c0 b1 o1 c1 : Nat) (B : List Bool) (C : List LIns) (i : LIns) (w : World) (hB : B.length ≤ 12) (hC : C.length ≤ 40) (h : Held w b0 o0 b1 o1 B C) (hn0 : 0 ≤ i.n) (hn1 : i.n < 4294967296) :
    Calls Try.prog 38 #[progV b0 o0 B.length c0 b1 o1 C.length c1, i.val] w fun e w' => e = .returned (.bool (insB B C.length i)) ∧ Below w.heap.size w w' := by
  have hlt0 := h.lt0
  unfold progV LIns.val
  cases hkn : knownB i.op
  case false =>
    go_enter Try.func38, Try.ntmps38
    go_wp2_with (go_at_call 83; refine (known _ _).mono ?_; rintro e w' ⟨rfl, rfl⟩; rw [hkn])
    go_ret
    exact ⟨ret_bool (by simp [insB, hkn]), ((Below.refl _ _).alloc (Nat.le_refl _) _).alloc (by simp) _⟩
  case true =>
    go_enter Try.func38, Try.ntmps38
    go_upto_region 1 with fail
    go_cut [22] (fun s wr => s = .bool (i.op != 1 && i.n != 0) ∧ wr = ((w.alloc (.cells #[.slice (some ⟨b0, o0, none⟩) B.length c0, .slice (some ⟨b1, o1, none⟩) C.length c1] 25)).alloc (.cells #[.int .i64 i.op, .int .i64 i.dest, .int .i64 i.a, .int .i64 i.b, .int .i64 i.c, .int .u32 i.n] 82)))
    case first =>
      rcases Bool.eq_false_or_eq_true (i.op != 1) with e1 | e1
      all_goals
        go_wp2_with (go_at_call 83; refine (known _ _).mono ?_; rintro e w' ⟨rfl, rfl⟩; rw [hkn])
        go_meet
        case rel => exact ⟨by rw [e1]; rfl, rfl⟩
    case rest =>
      obtain ⟨rfl, rfl⟩ := hcut
      cases hnn : (i.op != 1 && i.n != 0)
      case true =>
        go_wp2
        go_ret
        exact ⟨ret_bool (by simp at hnn; simp [insB, hnn.1, hnn.2]), ((Below.refl _ _).alloc (Nat.le_refl _) _).alloc (by simp) _⟩
      have HNN : Hid _ := hnn
      clear hnn
      go_wp2
      go_cut [7] (fun s wr => s = .slice (some ⟨w.heap.size + 1 + 1 + 1, 0, none⟩) 3 3 ∧ IState w b0 o0 c0 b1 o1 c1 B C i wr)
      case first =>
        go_region_held3 (fun w' => w'.cell? ⟨w.heap.size + 1, 0, none⟩ = some (.int .i64 i.op)) (go_keep)
          ((first | (go_at_call 50; refine (gives _ _).mono ?_; rintro e w' ⟨rfl, rfl⟩) | (go_at_call 51; refine (many _ _).mono ?_; rintro e w' ⟨rfl, rfl⟩)))
        go_wp2
        go_meet
        case rel => exact ⟨rfl, ⟨(((((Below.refl _ _).alloc (Nat.le_refl _) _).alloc (by simp) _).alloc (by simp; omega) _).alloc (by simp; omega) _).drew, by simp [go_sem], by simp [go_sem], by simp [go_sem], by simp [go_sem], by simp [go_sem], by simp [go_sem], by simp [go_sem], by simp [go_sem], by simp [go_sem], by simp [go_sem], by simp [go_sem], by simp [go_sem], by simp [go_sem], by simp [go_sem]⟩⟩
      case rest =>
        obtain ⟨rfl, hst⟩ := hcut
        go_wp2
        go_loopw [8] (fun t wr => ∃ k : Nat, k ≤ 3 ∧ t = .int .i64 k ∧ IState w b0 o0 c0 b1 o1 c1 B C i wr ∧ (0 < k → fieldB B (givesB i.op) i.dest = true) ∧ (1 < k → fieldB B (decide (0 < manyI i.op)) i.a = true) ∧ (2 < k → fieldB B (decide (1 < manyI i.op)) i.b = true)) (fun t _ => 3 - (intOf t).toNat)
        case atStart => exact ⟨0, by omega, rfl, hst, by simp, by simp, by simp⟩
        clear hst
        case round =>
          obtain ⟨k, hk, rfl, hst, f0, f1, f2⟩ := hrel
          have F : Hid _ := (⟨f0, f1, f2⟩ : _ ∧ _ ∧ _)
          clear f0 f1 f2
          rcases (show k = 0 ∨ k = 1 ∨ k = 2 ∨ k = 3 by omega) with rfl | rfl | rfl | rfl
          · have cf := hst.f0
            have ct := hst.t0
            have HST : Hid (IState w b0 o0 c0 b1 o1 c1 B C i wr) := hst
            clear hst
            obtain ⟨tv, htv⟩ : ∃ tv, tv = (givesB i.op) := ⟨_, rfl⟩
            rw [← htv] at ct
            have HT : Hid (tv = (givesB i.op)) := htv
            clear htv
            cases tv
            · rcases Bool.eq_false_or_eq_true (i.dest != 0) with e1 | e1
              · go_wp2
                go_ret
                exact ⟨ret_bool (insB_no0 (by rw [← HT.out]; exact field_no e1)), HST.out.bel⟩
              · go_wp2
                obtain ⟨g0, g1, g2⟩ := F.out
                exact ⟨⟨1, by omega, rfl, HST.out, fun _ => (by rw [← HT.out]; exact field_yes e1), fun hh => absurd hh (by omega), fun hh => absurd hh (by omega)⟩, by simp [intOf]⟩
            · by_cases x1 : 0 ≤ i.dest
              · by_cases x2 : i.dest < (B.length : Int)
                · go_wp2
                  obtain ⟨g0, g1, g2⟩ := F.out
                  exact ⟨⟨1, by omega, rfl, HST.out, fun _ => (by rw [← HT.out]; exact field_in x1 x2), fun hh => absurd hh (by omega), fun hh => absurd hh (by omega)⟩, by simp [intOf]⟩
                · go_wp2
                  go_ret
                  exact ⟨ret_bool (insB_no0 (by rw [← HT.out]; exact field_out (by omega))), HST.out.bel⟩
              · go_wp2
                go_ret
                exact ⟨ret_bool (insB_no0 (by rw [← HT.out]; exact field_out (by omega))), HST.out.bel⟩
          · have cf := hst.f1
            have ct := hst.t1
            have HST : Hid (IState w b0 o0 c0 b1 o1 c1 B C i wr) := hst
            clear hst
            obtain ⟨tv, htv⟩ : ∃ tv, tv = (decide (0 < manyI i.op)) := ⟨_, rfl⟩
            rw [← htv] at ct
            have HT : Hid (tv = (decide (0 < manyI i.op))) := htv
            clear htv
            cases tv
            · rcases Bool.eq_false_or_eq_true (i.a != 0) with e1 | e1
              · go_wp2
                go_ret
                exact ⟨ret_bool (insB_no1 (by rw [← HT.out]; exact field_no e1)), HST.out.bel⟩
              · go_wp2
                obtain ⟨g0, g1, g2⟩ := F.out
                exact ⟨⟨2, by omega, rfl, HST.out, fun _ => g0 (by omega), fun _ => (by rw [← HT.out]; exact field_yes e1), fun hh => absurd hh (by omega)⟩, by simp [intOf]⟩
            · by_cases x1 : 0 ≤ i.a
              · by_cases x2 : i.a < (B.length : Int)
                · go_wp2
                  obtain ⟨g0, g1, g2⟩ := F.out
                  exact ⟨⟨2, by omega, rfl, HST.out, fun _ => g0 (by omega), fun _ => (by rw [← HT.out]; exact field_in x1 x2), fun hh => absurd hh (by omega)⟩, by simp [intOf]⟩
                · go_wp2
                  go_ret
                  exact ⟨ret_bool (insB_no1 (by rw [← HT.out]; exact field_out (by omega))), HST.out.bel⟩
              · go_wp2
                go_ret
                exact ⟨ret_bool (insB_no1 (by rw [← HT.out]; exact field_out (by omega))), HST.out.bel⟩
          · have cf := hst.f2
            have ct := hst.t2
            have HST : Hid (IState w b0 o0 c0 b1 o1 c1 B C i wr) := hst
            clear hst
            obtain ⟨tv, htv⟩ : ∃ tv, tv = (decide (1 < manyI i.op)) := ⟨_, rfl⟩
            rw [← htv] at ct
            have HT : Hid (tv = (decide (1 < manyI i.op))) := htv
            clear htv
            cases tv
            · rcases Bool.eq_false_or_eq_true (i.b != 0) with e1 | e1
              · go_wp2
                go_ret
                exact ⟨ret_bool (insB_no2 (by rw [← HT.out]; exact field_no e1)), HST.out.bel⟩
              · go_wp2
                obtain ⟨g0, g1, g2⟩ := F.out
                exact ⟨⟨3, by omega, rfl, HST.out, fun _ => g0 (by omega), fun _ => g1 (by omega), fun _ => (by rw [← HT.out]; exact field_yes e1)⟩, by simp [intOf]⟩
            · by_cases x1 : 0 ≤ i.b
              · by_cases x2 : i.b < (B.length : Int)
                · go_wp2
                  obtain ⟨g0, g1, g2⟩ := F.out
                  exact ⟨⟨3, by omega, rfl, HST.out, fun _ => g0 (by omega), fun _ => g1 (by omega), fun _ => (by rw [← HT.out]; exact field_in x1 x2)⟩, by simp [intOf]⟩
                · go_wp2
                  go_ret
                  exact ⟨ret_bool (insB_no2 (by rw [← HT.out]; exact field_out (by omega))), HST.out.bel⟩
              · go_wp2
                go_ret
                exact ⟨ret_bool (insB_no2 (by rw [← HT.out]; exact field_out (by omega))), HST.out.bel⟩
          · obtain ⟨f0, f1, f2⟩ := F.out
            have f0 := f0 (by omega)
            have f1 := f1 (by omega)
            have f2 := f2 (by omega)
            have hd : givesB i.op = true → 0 ≤ i.dest ∧ i.dest < B.length := fun e => by rw [e] at f0; simpa [fieldB] using f0
            have ha : 0 < manyI i.op → 0 ≤ i.a ∧ i.a < B.length := fun e => by rw [decide_eq_true e] at f1; simpa [fieldB] using f1
            have hb : 1 < manyI i.op → 0 ≤ i.b ∧ i.b < B.length := fun e => by rw [decide_eq_true e] at f2; simpa [fieldB] using f2
            have HF : Hid _ := (⟨f0, f1, f2⟩ : _ ∧ _ ∧ _)
            have HD : Hid _ := (⟨hd, ha, hb⟩ : _ ∧ _ ∧ _)
            clear f0 f1 f2 hd ha hb
            have p0 := hst.p0
            have p1 := hst.p1
            have q0 := hst.q0
            have q1 := hst.q1
            have q2 := hst.q2
            have q3 := hst.q3
            have q4 := hst.q4
            have q5 := hst.q5
            have HB2 : Hid (Below w.heap.size w wr) := hst.bel
            have hH := h.later hst.bel
            clear hst
            by_cases hop : i.op = 8 ∨ i.op = 9
            · have HL0 : lineB C.length i = (decide (0 ≤ i.c) && decide (i.c < C.length)) := by unfold lineB; rw [if_pos hop]
              have hop' : (i.op == 8) = true ∨ ((i.op == 8) = false ∧ (i.op == 9) = true) := by simp; omega
              clear hop
              by_cases x1 : 0 ≤ i.c
              · by_cases x2 : i.c < (C.length : Int)
                · have HL : Hid (lineB C.length i = true) := by show lineB C.length i = true; rw [HL0]; simp [x1, x2]
                  clear HL0
                  rcases hop' with e8 | ⟨e8, e9⟩
                  all_goals
                    go_wp2_with (go_at_call 84; refine (widths b0 o0 c0 b1 o1 c1 B C i _ hB hC hH HD.out.1 HD.out.2.1 HD.out.2.2).mono ?_; rintro e w9 ⟨rfl, hb9⟩)
                    go_ret
                    exact ⟨ret_bool (insB_yes hkn HNN.out HF.out.1 HF.out.2.1 HF.out.2.2 HL.out), step_below hb9 HB2.out⟩
                · have HL : Hid (lineB C.length i = false) := by show lineB C.length i = false; rw [HL0]; simp [x1, x2]
                  clear HL0
                  rcases hop' with e8 | ⟨e8, e9⟩
                  all_goals
                    go_wp2
                    go_ret
                    exact ⟨ret_bool (insB_noL HL.out), HB2.out⟩
              · have HL : Hid (lineB C.length i = false) := by show lineB C.length i = false; rw [HL0]; simp [x1]
                clear HL0
                rcases hop' with e8 | ⟨e8, e9⟩
                all_goals
                  go_wp2
                  go_ret
                  exact ⟨ret_bool (insB_noL HL.out), HB2.out⟩
            · have HL0 : lineB C.length i = (i.c == 0) := by unfold lineB; rw [if_neg hop]
              have e8 : (i.op == 8) = false := by simp; omega
              have e9 : (i.op == 9) = false := by simp; omega
              clear hop
              rcases Bool.eq_false_or_eq_true (i.c != 0) with x1 | x1
              · have HL : Hid (lineB C.length i = false) := by show lineB C.length i = false; rw [HL0]; simpa using x1
                clear HL0
                go_wp2
                go_ret
                exact ⟨ret_bool (insB_noL HL.out), HB2.out⟩
              · have HL : Hid (lineB C.length i = true) := by show lineB C.length i = true; rw [HL0]; simpa using x1
                clear HL0
                go_wp2_with (go_at_call 84; refine (widths b0 o0 c0 b1 o1 c1 B C i _ hB hC hH HD.out.1 HD.out.2.1 HD.out.2.2).mono ?_; rintro e w9 ⟨rfl, hb9⟩)
                go_ret
                exact ⟨ret_bool (insB_yes hkn HNN.out HF.out.1 HF.out.2.1 HF.out.2.2 HL.out), step_below hb9 HB2.out⟩

end Go.Proofs.Ytepfegfacdbhbab.form
