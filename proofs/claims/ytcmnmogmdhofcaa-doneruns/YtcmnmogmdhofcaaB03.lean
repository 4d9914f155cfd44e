/- What loanbookref2.ins answers. -/
import Derived.Deep.DeepCutAuto
import Derived.Test.YtcmnmogmdhofcaaB02

namespace Go.Proofs.Ytcmnmogmdhofcaa.form
open Go.RowKit
set_option linter.unusedVariables false
attribute [local go_sem ↓] Go.wp_at_zero Go.wp_at_succ

def fieldB (B : List Bool) (there : Bool) (f : Int) : Bool := if there then decide (0 ≤ f) && decide (f < B.length) else f == 0
def lineB (nC : Nat) (i : LIns) : Bool := if i.op = 8 ∨ i.op = 9 then decide (0 ≤ i.c) && decide (i.c < nC) else i.c == 0
def insB (B : List Bool) (nC : Nat) (i : LIns) : Bool :=
  knownB i.op && (i.op == 1 || i.n == 0) && fieldB B (givesB i.op) i.dest && fieldB B (decide (0 < manyI i.op)) i.a && fieldB B (decide (1 < manyI i.op)) i.b && lineB nC i && widthsB B i

theorem field_no {B : List Bool} {f : Int} (h : (f != 0) = true) : fieldB B false f = false := by unfold fieldB; simpa using h
theorem field_yes {B : List Bool} {f : Int} (h : (f != 0) = false) : fieldB B false f = true := by unfold fieldB; simpa using h
theorem field_in {B : List Bool} {f : Int} (h1 : 0 ≤ f) (h2 : f < B.length) : fieldB B true f = true := by unfold fieldB; simp [h1, h2]
theorem field_out {B : List Bool} {f : Int} (h : ¬ (0 ≤ f ∧ f < B.length)) : fieldB B true f = false := by unfold fieldB; simp; omega
theorem insB_no0 {B : List Bool} {nC : Nat} {i : LIns} (h : fieldB B (givesB i.op) i.dest = false) : false = insB B nC i := by simp [insB, h]
theorem insB_no1 {B : List Bool} {nC : Nat} {i : LIns} (h : fieldB B (decide (0 < manyI i.op)) i.a = false) : false = insB B nC i := by simp [insB, h]
theorem insB_no2 {B : List Bool} {nC : Nat} {i : LIns} (h : fieldB B (decide (1 < manyI i.op)) i.b = false) : false = insB B nC i := by simp [insB, h]

theorem insB_noL {B : List Bool} {nC : Nat} {i : LIns} (h : lineB nC i = false) : false = insB B nC i := by simp [insB, h]
theorem insB_yes {B : List Bool} {nC : Nat} {i : LIns} (hk : knownB i.op = true) (hn : (i.op != 1 && i.n != 0) = false) (f0 : fieldB B (givesB i.op) i.dest = true) (f1 : fieldB B (decide (0 < manyI i.op)) i.a = true) (f2 : fieldB B (decide (1 < manyI i.op)) i.b = true) (hl : lineB nC i = true) : widthsB B i = insB B nC i := by
  have hn' : (i.op == 1 || i.n == 0) = true := by
    cases h1 : (i.op == 1) <;> cases h2 : (i.n == 0) <;> simp_all
  unfold insB
  rw [hk, hn', f0, f1, f2, hl]
  rfl

/-- What lies in memory while the fields are asked. -/
structure IState (w : World) (b0 o0 c0 b1 o1 c1 : Nat) (B : List Bool) (C : List LIns) (i : LIns) (wr : World) : Prop where
  bel : Below w.heap.size w wr
  p0 : wr.cell? ⟨w.heap.size, 0, none⟩ = some (.slice (some ⟨b0, o0, none⟩) B.length c0)
  p1 : wr.cell? ⟨w.heap.size, 1, none⟩ = some (.slice (some ⟨b1, o1, none⟩) C.length c1)
  q0 : wr.cell? ⟨w.heap.size + 1, 0, none⟩ = some (.int .i64 i.op)
  q1 : wr.cell? ⟨w.heap.size + 1, 1, none⟩ = some (.int .i64 i.dest)
  q2 : wr.cell? ⟨w.heap.size + 1, 2, none⟩ = some (.int .i64 i.a)
  q3 : wr.cell? ⟨w.heap.size + 1, 3, none⟩ = some (.int .i64 i.b)
  q4 : wr.cell? ⟨w.heap.size + 1, 4, none⟩ = some (.int .i64 i.c)
  q5 : wr.cell? ⟨w.heap.size + 1, 5, none⟩ = some (.int .u32 i.n)
  f0 : wr.cell? ⟨w.heap.size + 1 + 1, 0, none⟩ = some (.int .i64 i.dest)
  f1 : wr.cell? ⟨w.heap.size + 1 + 1, 1, none⟩ = some (.int .i64 i.a)
  f2 : wr.cell? ⟨w.heap.size + 1 + 1, 2, none⟩ = some (.int .i64 i.b)
  t0 : wr.cell? ⟨w.heap.size + 1 + 1 + 1, 0, none⟩ = some (.bool (givesB i.op))
  t1 : wr.cell? ⟨w.heap.size + 1 + 1 + 1, 1, none⟩ = some (.bool (decide (0 < manyI i.op)))
  t2 : wr.cell? ⟨w.heap.size + 1 + 1 + 1, 2, none⟩ = some (.bool (decide (1 < manyI i.op)))

set_option maxRecDepth 100000 in
set_option maxHeartbeats 4000000 in
theorem ins (b0 o0 c0 b1 o1 c1 : Nat) (B : List Bool) (C : List LIns) (i : LIns) (w : World) (hB : B.length ≤ 12) (hC : C.length ≤ 40) (h : Held w b0 o0 b1 o1 B C) (hn0 : 0 ≤ i.n) (hn1 : i.n < 4294967296) :
    Calls Try.prog 41 #[progV b0 o0 B.length c0 b1 o1 C.length c1, i.val] w fun e w' => e = .returned (.bool (insB B C.length i)) ∧ Below w.heap.size w w' := by
  have hlt0 := h.lt0
  unfold progV LIns.val
  cases hkn : knownB i.op
  case false =>
    go_enter Try.func41, Try.ntmps41
    go_wp2_with (go_at_call 77; refine (known _ _).mono ?_; rintro e w' ⟨rfl, rfl⟩; rw [hkn])
    go_ret
    exact ⟨ret_bool (by simp [insB, hkn]), ((Below.refl _ _).alloc (Nat.le_refl _) _).alloc (by simp) _⟩
  case true =>
    go_enter Try.func41, Try.ntmps41
    go_upto_region 1 with fail
    go_cut [22] (fun s wr => s = .bool (i.op != 1 && i.n != 0) ∧ wr = ((w.alloc (.cells #[.slice (some ⟨b0, o0, none⟩) B.length c0, .slice (some ⟨b1, o1, none⟩) C.length c1] 31)).alloc (.cells #[.int .i64 i.op, .int .i64 i.dest, .int .i64 i.a, .int .i64 i.b, .int .i64 i.c, .int .u32 i.n] 50)))
    case first =>
      rcases Bool.eq_false_or_eq_true (i.op != 1) with e1 | e1
      all_goals
        go_wp2_with (go_at_call 77; refine (known _ _).mono ?_; rintro e w' ⟨rfl, rfl⟩; rw [hkn])
        go_meet
        case rel => exact ⟨by rw [e1]; rfl, rfl⟩
    case rest =>
      obtain ⟨rfl, rfl⟩ := hcut
      cases hnn : (i.op != 1 && i.n != 0)
      case true =>
        go_wp2
        go_ret
        exact ⟨ret_bool (by simp at hnn; simp [insB, hnn.1, hnn.2]), ((Below.refl _ _).alloc (Nat.le_refl _) _).alloc (by simp) _⟩
      have HNN : Hid _ := hnn
      clear hnn
      go_wp2
      go_cut [7] (fun s wr => s = .slice (some ⟨w.heap.size + 1 + 1 + 1, 0, none⟩) 3 3 ∧ IState w b0 o0 c0 b1 o1 c1 B C i wr)
      case first =>
        go_region_held3 (fun w' => w'.cell? ⟨w.heap.size + 1, 0, none⟩ = some (.int .i64 i.op)) (go_keep)
          ((first | (go_at_call 47; refine (gives _ _).mono ?_; rintro e w' ⟨rfl, rfl⟩) | (go_at_call 64; refine (many _ _).mono ?_; rintro e w' ⟨rfl, rfl⟩)))
        go_wp2
        go_meet
        case rel => exact ⟨rfl, ⟨(((((Below.refl _ _).alloc (Nat.le_refl _) _).alloc (by simp) _).alloc (by simp; omega) _).alloc (by simp; omega) _).drew, by simp [go_sem], by simp [go_sem], by simp [go_sem], by simp [go_sem], by simp [go_sem], by simp [go_sem], by simp [go_sem], by simp [go_sem], by simp [go_sem], by simp [go_sem], by simp [go_sem], by simp [go_sem], by simp [go_sem], by simp [go_sem]⟩⟩
      case rest =>
        obtain ⟨rfl, hst⟩ := hcut
        go_wp2
        go_loopw [8] (fun t wr => ∃ k : Nat, k ≤ 3 ∧ t = .int .i64 k ∧ IState w b0 o0 c0 b1 o1 c1 B C i wr ∧ (0 < k → fieldB B (givesB i.op) i.dest = true) ∧ (1 < k → fieldB B (decide (0 < manyI i.op)) i.a = true) ∧ (2 < k → fieldB B (decide (1 < manyI i.op)) i.b = true)) (fun t _ => 3 - (intOf t).toNat)
        case atStart => exact ⟨0, by omega, rfl, hst, by simp, by simp, by simp⟩
        clear hst
        case round =>
          obtain ⟨k, hk, rfl, hst, f0, f1, f2⟩ := hrel
          have F : Hid _ := (⟨f0, f1, f2⟩ : _ ∧ _ ∧ _)
          clear f0 f1 f2
          rcases (show k = 0 ∨ k = 1 ∨ k = 2 ∨ k = 3 by omega) with rfl | rfl | rfl | rfl
          · have cf := hst.f0
            have ct := hst.t0
            have HST : Hid (IState w b0 o0 c0 b1 o1 c1 B C i wr) := hst
            clear hst
            obtain ⟨tv, htv⟩ : ∃ tv, tv = (givesB i.op) := ⟨_, rfl⟩
            rw [← htv] at ct
            have HT : Hid (tv = (givesB i.op)) := htv
            clear htv
            cases tv
            · rcases Bool.eq_false_or_eq_true (i.dest != 0) with e1 | e1
              · go_wp2
                go_ret
                exact ⟨ret_bool (insB_no0 (by rw [← HT.out]; exact field_no e1)), HST.out.bel⟩
              · go_wp2
                obtain ⟨g0, g1, g2⟩ := F.out
                exact ⟨⟨1, by omega, rfl, HST.out, fun _ => (by rw [← HT.out]; exact field_yes e1), fun hh => absurd hh (by omega), fun hh => absurd hh (by omega)⟩, by simp [intOf]⟩
            · by_cases x1 : 0 ≤ i.dest
              · by_cases x2 : i.dest < (B.length : Int)
                · go_wp2
                  obtain ⟨g0, g1, g2⟩ := F.out
                  exact ⟨⟨1, by omega, rfl, HST.out, fun _ => (by rw [← HT.out]; exact field_in x1 x2), fun hh => absurd hh (by omega), fun hh => absurd hh (by omega)⟩, by simp [intOf]⟩
                · go_wp2
                  go_ret
                  exact ⟨ret_bool (insB_no0 (by rw [← HT.out]; exact field_out (by omega))), HST.out.bel⟩
              · go_wp2
                go_ret
                exact ⟨ret_bool (insB_no0 (by rw [← HT.out]; exact field_out (by omega))), HST.out.bel⟩
          · have cf := hst.f1
            have ct := hst.t1
            have HST : Hid (IState w b0 o0 c0 b1 o1 c1 B C i wr) := hst
            clear hst
            obtain ⟨tv, htv⟩ : ∃ tv, tv = (decide (0 < manyI i.op)) := ⟨_, rfl⟩
            rw [← htv] at ct
            have HT : Hid (tv = (decide (0 < manyI i.op))) := htv
            clear htv
            cases tv
            · rcases Bool.eq_false_or_eq_true (i.a != 0) with e1 | e1
              · go_wp2
                go_ret
                exact ⟨ret_bool (insB_no1 (by rw [← HT.out]; exact field_no e1)), HST.out.bel⟩
              · go_wp2
                obtain ⟨g0, g1, g2⟩ := F.out
                exact ⟨⟨2, by omega, rfl, HST.out, fun _ => g0 (by omega), fun _ => (by rw [← HT.out]; exact field_yes e1), fun hh => absurd hh (by omega)⟩, by simp [intOf]⟩
            · by_cases x1 : 0 ≤ i.a
              · by_cases x2 : i.a < (B.length : Int)
                · go_wp2
                  obtain ⟨g0, g1, g2⟩ := F.out
                  exact ⟨⟨2, by omega, rfl, HST.out, fun _ => g0 (by omega), fun _ => (by rw [← HT.out]; exact field_in x1 x2), fun hh => absurd hh (by omega)⟩, by simp [intOf]⟩
                · go_wp2
                  go_ret
                  exact ⟨ret_bool (insB_no1 (by rw [← HT.out]; exact field_out (by omega))), HST.out.bel⟩
              · go_wp2
                go_ret
                exact ⟨ret_bool (insB_no1 (by rw [← HT.out]; exact field_out (by omega))), HST.out.bel⟩
          · have cf := hst.f2
            have ct := hst.t2
            have HST : Hid (IState w b0 o0 c0 b1 o1 c1 B C i wr) := hst
            clear hst
            obtain ⟨tv, htv⟩ : ∃ tv, tv = (decide (1 < manyI i.op)) := ⟨_, rfl⟩
            rw [← htv] at ct
            have HT : Hid (tv = (decide (1 < manyI i.op))) := htv
            clear htv
            cases tv
            · rcases Bool.eq_false_or_eq_true (i.b != 0) with e1 | e1
              · go_wp2
                go_ret
                exact ⟨ret_bool (insB_no2 (by rw [← HT.out]; exact field_no e1)), HST.out.bel⟩
              · go_wp2
                obtain ⟨g0, g1, g2⟩ := F.out
                exact ⟨⟨3, by omega, rfl, HST.out, fun _ => g0 (by omega), fun _ => g1 (by omega), fun _ => (by rw [← HT.out]; exact field_yes e1)⟩, by simp [intOf]⟩
            · by_cases x1 : 0 ≤ i.b
              · by_cases x2 : i.b < (B.length : Int)
                · go_wp2
                  obtain ⟨g0, g1, g2⟩ := F.out
                  exact ⟨⟨3, by omega, rfl, HST.out, fun _ => g0 (by omega), fun _ => g1 (by omega), fun _ => (by rw [← HT.out]; exact field_in x1 x2)⟩, by simp [intOf]⟩
                · go_wp2
                  go_ret
                  exact ⟨ret_bool (insB_no2 (by rw [← HT.out]; exact field_out (by omega))), HST.out.bel⟩
              · go_wp2
                go_ret
                exact ⟨ret_bool (insB_no2 (by rw [← HT.out]; exact field_out (by omega))), HST.out.bel⟩
          · obtain ⟨f0, f1, f2⟩ := F.out
            have f0 := f0 (by omega)
            have f1 := f1 (by omega)
            have f2 := f2 (by omega)
            have hd : givesB i.op = true → 0 ≤ i.dest ∧ i.dest < B.length := fun e => by rw [e] at f0; simpa [fieldB] using f0
            have ha : 0 < manyI i.op → 0 ≤ i.a ∧ i.a < B.length := fun e => by rw [decide_eq_true e] at f1; simpa [fieldB] using f1
            have hb : 1 < manyI i.op → 0 ≤ i.b ∧ i.b < B.length := fun e => by rw [decide_eq_true e] at f2; simpa [fieldB] using f2
            have HF : Hid _ := (⟨f0, f1, f2⟩ : _ ∧ _ ∧ _)
            have HD : Hid _ := (⟨hd, ha, hb⟩ : _ ∧ _ ∧ _)
            clear f0 f1 f2 hd ha hb
            have p0 := hst.p0
            have p1 := hst.p1
            have q0 := hst.q0
            have q1 := hst.q1
            have q2 := hst.q2
            have q3 := hst.q3
            have q4 := hst.q4
            have q5 := hst.q5
            have HB2 : Hid (Below w.heap.size w wr) := hst.bel
            have hH := h.later hst.bel
            clear hst
            by_cases hop : i.op = 8 ∨ i.op = 9
            · have HL0 : lineB C.length i = (decide (0 ≤ i.c) && decide (i.c < C.length)) := by unfold lineB; rw [if_pos hop]
              have hop' : (i.op == 8) = true ∨ ((i.op == 8) = false ∧ (i.op == 9) = true) := by simp; omega
              clear hop
              by_cases x1 : 0 ≤ i.c
              · by_cases x2 : i.c < (C.length : Int)
                · have HL : Hid (lineB C.length i = true) := by show lineB C.length i = true; rw [HL0]; simp [x1, x2]
                  clear HL0
                  rcases hop' with e8 | ⟨e8, e9⟩
                  all_goals
                    go_wp2_with (go_at_call 78; refine (widths b0 o0 c0 b1 o1 c1 B C i _ hB hC hH HD.out.1 HD.out.2.1 HD.out.2.2).mono ?_; rintro e w9 ⟨rfl, hb9⟩)
                    go_ret
                    exact ⟨ret_bool (insB_yes hkn HNN.out HF.out.1 HF.out.2.1 HF.out.2.2 HL.out), step_below hb9 HB2.out⟩
                · have HL : Hid (lineB C.length i = false) := by show lineB C.length i = false; rw [HL0]; simp [x1, x2]
                  clear HL0
                  rcases hop' with e8 | ⟨e8, e9⟩
                  all_goals
                    go_wp2
                    go_ret
                    exact ⟨ret_bool (insB_noL HL.out), HB2.out⟩
              · have HL : Hid (lineB C.length i = false) := by show lineB C.length i = false; rw [HL0]; simp [x1]
                clear HL0
                rcases hop' with e8 | ⟨e8, e9⟩
                all_goals
                  go_wp2
                  go_ret
                  exact ⟨ret_bool (insB_noL HL.out), HB2.out⟩
            · have HL0 : lineB C.length i = (i.c == 0) := by unfold lineB; rw [if_neg hop]
              have e8 : (i.op == 8) = false := by simp; omega
              have e9 : (i.op == 9) = false := by simp; omega
              clear hop
              rcases Bool.eq_false_or_eq_true (i.c != 0) with x1 | x1
              · have HL : Hid (lineB C.length i = false) := by show lineB C.length i = false; rw [HL0]; simpa using x1
                clear HL0
                go_wp2
                go_ret
                exact ⟨ret_bool (insB_noL HL.out), HB2.out⟩
              · have HL : Hid (lineB C.length i = true) := by show lineB C.length i = true; rw [HL0]; simpa using x1
                clear HL0
                go_wp2_with (go_at_call 78; refine (widths b0 o0 c0 b1 o1 c1 B C i _ hB hC hH HD.out.1 HD.out.2.1 HD.out.2.2).mono ?_; rintro e w9 ⟨rfl, hb9⟩)
                go_ret
                exact ⟨ret_bool (insB_yes hkn HNN.out HF.out.1 HF.out.2.1 HF.out.2.2 HL.out), step_below hb9 HB2.out⟩

end Go.Proofs.Ytcmnmogmdhofcaa.form

/- What loanbookref2.May answers. -/
namespace Go.Proofs.Ytcmnmogmdhofcaa.form
open Go.RowKit
set_option linter.unusedVariables false
attribute [local go_sem ↓] Go.wp_at_zero Go.wp_at_succ

def refMayB (B : List Bool) (C : List LIns) : Bool := sizesB B C && C.all (insB B C.length)

theorem refMay_no (v : Value) (B : List Bool) (C : List LIns) (w : World) (h : ProgIs w v B C) (hs : sizesB B C = false) :
    Calls Try.prog 19 #[v] w fun e w' => e = .returned (.bool false) ∧ Below w.heap.size w w' := by
  obtain ⟨⟨a0, c0, a1, c1, rfl, -⟩, l0, l1, -⟩ := h
  have hs' : ¬ (1 ≤ B.length ∧ B.length ≤ 12 ∧ 1 ≤ C.length ∧ C.length ≤ 40) := by
    intro hh; unfold sizesB at hs; simp at hs; omega
  have HS : Hid _ := hs'
  clear hs hs'
  by_cases x1 : (B.length : Int) < 1
  all_goals by_cases x2 : (12 : Int) < (B.length : Int)
  all_goals by_cases x3 : (C.length : Int) < 1
  all_goals by_cases x4 : (40 : Int) < (C.length : Int)
  all_goals first
    | (exfalso; omega)
    | (exfalso; apply HS.out; omega)
    | skip
  all_goals
    go_enter Try.func19, Try.ntmps19
    go_wp2
    go_ret
    exact ⟨rfl, (Below.refl _ _).alloc (Nat.le_refl _) _⟩

set_option maxRecDepth 100000 in
set_option maxHeartbeats 1000000 in
theorem refMay_yes (b0 o0 c0 b1 o1 c1 : Nat) (B : List Bool) (C : List LIns) (w : World) (h : Held w b0 o0 b1 o1 B C) (hn : ∀ i, i < C.length → 0 ≤ (C.getD i .zero).n ∧ (C.getD i .zero).n < 4294967296) (hs : sizesB B C = true) :
    Calls Try.prog 19 #[progV b0 o0 B.length c0 b1 o1 C.length c1] w fun e w' => e = .returned (.bool (C.all (insB B C.length))) ∧ Below w.heap.size w w' := by
  obtain ⟨s1, s2, s3, s4⟩ := sizes_of hs
  have j1 : (1 : Int) ≤ (B.length : Int) := by omega
  have j2 : (B.length : Int) ≤ 12 := by omega
  have j3 : (1 : Int) ≤ (C.length : Int) := by omega
  have j4 : (C.length : Int) ≤ 40 := by omega
  unfold progV
  go_enter Try.func19, Try.ntmps19
  go_wp2
  go_loopw [3] (fun i wr => ∃ k : Nat, k ≤ C.length ∧ i = .int .i64 k ∧ Below w.heap.size w wr ∧ w.heap.size < wr.heap.size ∧
      wr.cell? ⟨w.heap.size, 0, none⟩ = some (.slice (some ⟨b0, o0, none⟩) B.length c0) ∧ wr.cell? ⟨w.heap.size, 1, none⟩ = some (.slice (some ⟨b1, o1, none⟩) C.length c1) ∧
      (∀ j, j < k → insB B C.length (C.getD j .zero) = true))
    (fun i _ => C.length - (intOf i).toNat)
  case atStart => exact ⟨0, by omega, rfl, (Below.refl _ _).alloc (Nat.le_refl _) _, by simp, by simp [go_sem], by simp [go_sem], fun j hj => absurd hj (by omega)⟩
  case round =>
    obtain ⟨k, hk, rfl, hbel, hsz, cp0, cp1, hall⟩ := hrel
    have F : Hid _ := hall
    have HN : Hid _ := hn
    clear hall hn
    have hh := h.later hbel
    by_cases hlt : k < C.length
    · obtain ⟨d0, d1, d2, d3, d4, d5⟩ := hh.code k hlt
      obtain ⟨n0, n1⟩ := HN.out k hlt
      obtain ⟨i, hi⟩ : ∃ i, i = C.getD k .zero := ⟨_, rfl⟩
      rw [← hi] at d0 d1 d2 d3 d4 d5 n0 n1
      have HI : Hid (i = C.getD k .zero) := hi
      clear hi
      have y1 : (0 : Int) ≤ (k : Int) := by omega
      have y2 : (k : Int) < (C.length : Int) := by omega
      go_wp2
      go_region_held3 (fun w' => Below wr.heap.size wr w' ∧ w'.cell? ⟨w.heap.size, 0, none⟩ = some (.slice (some ⟨b0, o0, none⟩) B.length c0) ∧ w'.cell? ⟨w.heap.size, 1, none⟩ = some (.slice (some ⟨b1, o1, none⟩) C.length c1) ∧ w'.cell? ⟨b1, o1 + k * 6, none⟩ = some (.int .i64 i.op) ∧ w'.cell? ⟨b1, o1 + k * 6 + 1, none⟩ = some (.int .i64 i.dest) ∧ w'.cell? ⟨b1, o1 + k * 6 + 2, none⟩ = some (.int .i64 i.a) ∧ w'.cell? ⟨b1, o1 + k * 6 + 3, none⟩ = some (.int .i64 i.b) ∧ w'.cell? ⟨b1, o1 + k * 6 + 4, none⟩ = some (.int .i64 i.c) ∧ w'.cell? ⟨b1, o1 + k * 6 + 5, none⟩ = some (.int .u32 i.n))
        ((go_split_ands; refine ⟨?_, ?_, ?_, ?_, ?_, ?_, ?_, ?_, ?_⟩ <;> first | exact (Below.refl _ _).drew | exact ((Below.refl _ _).drew).trans hb1 | exact step_cell hb1 (by assumption) | go_keep))
        ((go_at_call 41; refine (ins b0 o0 c0 b1 o1 c1 B C i _ s2 s4 ?_ n0 n1).mono ?_; (exact hh.drew); rintro e w1 ⟨rfl, hb1⟩))
      rename_i hHeldx
      have hb2 : Below wr.heap.size wr w1 := hHeldx.1
      clear hHeldx hb1
      have hbel1 := step_below hb2 hbel
      have R : Hid _ := (⟨hbel1, Nat.lt_of_lt_of_le hsz hb2.size, step_cell hb2 cp0, step_cell hb2 cp1⟩ : _ ∧ _ ∧ _ ∧ _)
      clear hb2 hbel1 d0 d1 d2 d3 d4 d5 cp0 cp1
      go_wp2
      · go_ret
        refine ⟨ret_bool ?_, R.out.1⟩
        have hf : insB B C.length i = false := by simp_all
        rw [eq_comm, List.all_eq_false]
        refine ⟨i, ?_, by simp [hf]⟩
        rw [HI.out]
        simp [List.getD, hlt]
      · obtain ⟨r1, r2, r3, r4⟩ := R.out
        refine ⟨⟨k + 1, by omega, by go_num, r1, r2, r3, r4, ?_⟩, by simp [intOf]; omega⟩
        intro j hj
        by_cases hjk : j < k
        · exact F.out j hjk
        · obtain rfl : j = k := by omega
          rw [← HI.out]
          simp_all
    · go_wp2
      go_ret
      exact ⟨ret_bool (by
        rw [List.all_eq_true.2]
        intro x hx
        obtain ⟨j, hj, rfl⟩ := List.getElem_of_mem hx
        have := F.out j (by omega)
        simpa [List.getD, hj] using this), hbel⟩

/-- loanbookref2.May, whatever came in. -/
theorem refMay (v : Value) (B : List Bool) (C : List LIns) (w : World) (h : ProgIs w v B C) :
    Calls Try.prog 19 #[v] w fun e w' => e = .returned (.bool (refMayB B C)) ∧ Below w.heap.size w w' := by
  cases hs : sizesB B C with
  | false => rw [show refMayB B C = false by simp [refMayB, hs]]; exact refMay_no v B C w h hs
  | true =>
    rw [show refMayB B C = C.all (insB B C.length) by simp [refMayB, hs]]
    obtain ⟨s1, s2, s3, s4⟩ := sizes_of hs
    obtain ⟨⟨a0, c0, a1, c1, rfl, hh⟩, l0, l1, hn⟩ := h
    obtain ⟨b0, o0, b1, o1, rfl, rfl, hH⟩ := hh s1 s3
    exact refMay_yes b0 o0 c0 b1 o1 c1 B C w hH hn hs

end Go.Proofs.Ytcmnmogmdhofcaa.form

/- What the document's functions on runs answer: Wrong, Gives, Next, Same. -/
namespace Go.Proofs.Ytcmnmogmdhofcaa.form
open Go.RowKit Go.Proofs.Ytcmnmogmdhofcaa.num
set_option linter.unusedVariables false
attribute [local go_sem ↓] Go.wp_at_zero Go.wp_at_succ

def wrongI (B : List Bool) (C : List LIns) (nI : Nat) (steps : Int) : Int :=
  if refMayB B C = false then 2 else if 40 < nI then 1 else if steps < 0 ∨ 3000 < steps then 3 else 0

theorem wrong (v : Value) (B : List Bool) (C : List LIns) (ai : Option Addr) (nI ci : Nat) (steps : Int) (w : World) (h : ProgIs w v B C) :
    Calls Try.prog 21 #[v, .slice ai nI ci, .int .i64 steps] w fun e w' => e = .returned (.int .i64 (wrongI B C nI steps)) ∧ Below w.heap.size w w' := by
  have h0 := h
  obtain ⟨⟨a0, c0, a1, c1, rfl, -⟩, -, -, -⟩ := h0
  have HP : Hid (ProgIs w (.agg #[.slice a0 B.length c0, .slice a1 C.length c1]) B C) := h
  clear h
  go_enter Try.func21, Try.ntmps21
  go_wp2_with (go_at_call 19; refine (refMay _ B C _ ?_).mono ?_; (exact HP.out.later ((Below.refl _ _).alloc (Nat.le_refl _) _)); rintro e w1 ⟨rfl, hb1⟩)
  all_goals
    go_ret
    refine ⟨ret_int ?_, over_alloc hb1⟩
    unfold wrongI
    simp_all
  all_goals omega

theorem wrap64_of (x : Int) (h : 0 ≤ x) (h' : x < 18446744073709551616) : IntKind.u64.wrap x = x := by
  obtain ⟨n, rfl⟩ := Int.eq_ofNat_of_zero_le h
  rw [wrap_u64_nat]
  omega
theorem opR_u32_bd (op a b : Int) : 0 ≤ opR .u32 op (a % 4294967296) (b % 4294967296) ∧ opR .u32 op (a % 4294967296) (b % 4294967296) < 4294967296 := by
  rw [← opR_cut op (a % 4294967296) (b % 4294967296) (by omega) (by omega) (by omega) (by omega)]
  omega
theorem half_of (a : Int) (h : 0 ≤ a) (h' : a < 18446744073709551616) : IntKind.u64.wrap (a.tdiv 4294967296) = a / 4294967296 := by
  rw [Int.tdiv_eq_ediv_of_nonneg h]
  exact wrap64_of _ (by omega) (by omega)

/-- A number of 64 bits, kept from the walk. -/
def U64i (x : Int) : Prop := 0 ≤ x ∧ x < 18446744073709551616

set_option maxRecDepth 100000 in
set_option maxHeartbeats 1000000 in
theorem gives3 (i : LIns) (a b x : Int) (ha : U64i a) (hb : U64i b) (hx0 : 0 ≤ x) (hx1 : x < 4294967296) (hn0 : 0 ≤ i.n) (hn1 : i.n < 4294967296) (hk : -1000 ≤ i.op) (hk2 : i.op ≤ 1000) (w : World) :
    Calls Try.prog 48 #[i.val, .int .u64 a, .int .u64 b, .int .u32 x] w fun e w' => e = .returned (.int .u64 (gvI i a b x)) ∧ Below w.heap.size w w' := by
  unfold LIns.val
  have a0 := ha.1
  have b0 := hb.1
  go_enter Try.func48, Try.ntmps48
  go_wp2_with (first
    | (go_at_call 17; refine (refWide _ a b ha.1 ha.2 hb.1 hb.2 _).mono ?_; rintro e w1 ⟨rfl, rfl⟩)
    | (go_at_call 16; refine (refNarrow _ _ _ (Int.emod_nonneg _ (by decide)) (Int.emod_lt_of_pos _ (by decide)) (Int.emod_nonneg _ (by decide)) (Int.emod_lt_of_pos _ (by decide)) _).mono ?_; rintro e w1 ⟨rfl, rfl⟩))
  all_goals
    go_ret
    refine ⟨ret_int ?_, (Below.refl _ _).alloc (Nat.le_refl _) _⟩
    unfold gvI
    first
      | (simp_all; done)
      | (have hq := half_of a ha.1 ha.2; simp_all; done)
      | (have hb3 := opR_u32_bd (i.op - 20) a b; rw [wrap64_of _ hb3.1 (by omega)]; simp_all; omega)

set_option maxRecDepth 100000 in
set_option maxHeartbeats 1000000 in
theorem next3 (b0 o0 c0 b1 o1 c1 : Nat) (B : List Bool) (C : List LIns) (pc : Nat) (a : Int) (w : World) (hC : C.length ≤ 40) (h : Held w b0 o0 b1 o1 B C) (hpc : pc < C.length) :
    Calls Try.prog 49 #[progV b0 o0 B.length c0 b1 o1 C.length c1, .int .i64 pc, .int .u64 a] w fun e w' =>
      e = .returned (.tuple #[.int .i64 (nxI (C.getD pc .zero) pc a), .int .i64 (stI (C.getD pc .zero) C.length (nxI (C.getD pc .zero) pc a))]) ∧ Below w.heap.size w w' := by
  obtain ⟨d0, d1, d2, d3, d4, d5⟩ := h.code pc hpc
  generalize C.getD pc .zero = i at *
  have hlt1 := h.lt1
  have y1 : (0 : Int) ≤ (pc : Int) := by omega
  have y2 : (pc : Int) < (C.length : Int) := by omega
  have y3 : (C.length : Int) ≤ 40 := by omega
  clear hpc h
  unfold progV
  rcases (show ((i.op == 8) = true) ∨ ((i.op == 8) = false ∧ (i.op == 9) = true ∧ (a != 0) = true) ∨ ((i.op == 8) = false ∧ (i.op == 9) = true ∧ (a != 0) = false) ∨ ((i.op == 8) = false ∧ (i.op == 9) = false) by cases (i.op == 8) <;> cases (i.op == 9) <;> cases (a != 0) <;> simp) with e8 | ⟨e8, e9, ea⟩ | ⟨e8, e9, ea⟩ | ⟨e8, e9⟩
  all_goals
    have HN : Hid _ := (rfl : nxI i pc a = nxI i pc a)
    go_enter Try.func49, Try.ntmps49
    go_wp2
    all_goals
      go_ret2
      refine ⟨?_, ((Below.refl _ _).alloc (Nat.le_refl _) _).alloc (by simp) _⟩
      clear d0 d1 d2 d3 d4 d5
      simp_all [nxI, stI]
  all_goals omega

/-- What came out, as a list. -/
def OutIs (w : World) (v : Value) (l : List Int) : Prop :=
  ∃ ao cap, v = .slice ao l.length cap ∧ l.length ≤ 1000000 ∧ (0 < l.length → ∃ b o, ao = some ⟨b, o, none⟩ ∧ b < w.heap.size ∧ ∀ j, j < l.length → w.cell? ⟨b, o + j, none⟩ = some (.int .u32 (l.getD j 0)))
def ShownIs (w : World) (v : Value) (st : Int) (l : List Int) (k : Int) : Prop := ∃ ov, v = .agg #[.int .i64 st, ov, .int .i64 k] ∧ OutIs w ov l

theorem OutIs.later {w w' : World} {v : Value} {l : List Int} (h : OutIs w v l) (hb : Below w.heap.size w w') : OutIs w' v l := by
  obtain ⟨ao, cap, hv, hl, hc⟩ := h
  refine ⟨ao, cap, hv, hl, fun h0 => ?_⟩
  obtain ⟨b, o, e, hlt, hcell⟩ := hc h0
  exact ⟨b, o, e, Nat.lt_of_lt_of_le hlt hb.size, fun j hj => step_cell hb (hcell j hj)⟩
theorem ShownIs.later {w w' : World} {v : Value} {st k : Int} {l : List Int} (h : ShownIs w v st l k) (hb : Below w.heap.size w w') : ShownIs w' v st l k := by
  obtain ⟨ov, hv, ho⟩ := h
  exact ⟨ov, hv, ho.later hb⟩

def sameB (s1 k1 s2 k2 : Int) (l1 l2 : List Int) : Bool := decide (s1 = s2) && decide (k1 = k2) && decide (l1 = l2)

set_option maxRecDepth 100000 in
set_option maxHeartbeats 1000000 in
theorem same (va vb : Value) (s1 k1 s2 k2 : Int) (l1 l2 : List Int) (w : World) (h1 : ShownIs w va s1 l1 k1) (h2 : ShownIs w vb s2 l2 k2) :
    Calls Try.prog 22 #[va, vb] w fun e w' => e = .returned (.bool (sameB s1 k1 s2 k2 l1 l2)) ∧ Below w.heap.size w w' := by
  obtain ⟨ov, rfl, ao, cap, rfl, hl1, hc1⟩ := h1
  obtain ⟨ov, rfl, bo, cbp, rfl, hl2, hc2⟩ := h2
  have HC1 : Hid _ := hc1
  have HC2 : Hid _ := hc2
  clear hc1 hc2
  by_cases hs : s1 = s2 ∧ k1 = k2 ∧ l1.length = l2.length
  case neg =>
    have hf : sameB s1 k1 s2 k2 l1 l2 = false := by
      unfold sameB
      simp only [Bool.and_eq_false_iff, decide_eq_false_iff_not]
      by_cases e1 : s1 = s2
      · by_cases e2 : k1 = k2
        · exact Or.inr (fun e => hs ⟨e1, e2, by rw [e]⟩)
        · exact Or.inl (Or.inr e2)
      · exact Or.inl (Or.inl e1)
    rw [hf]
    rcases (show (s1 != s2) = true ∨ ((s1 != s2) = false ∧ (k1 != k2) = true) ∨ ((s1 != s2) = false ∧ (k1 != k2) = false ∧ ((l1.length : Int) != (l2.length : Int)) = true) by
      by_cases e1 : s1 = s2
      · by_cases e2 : k1 = k2
        · have : ¬ l1.length = l2.length := fun e => hs ⟨e1, e2, e⟩
          exact Or.inr (Or.inr ⟨by simp [e1], by simp [e2], by simp; omega⟩)
        · exact Or.inr (Or.inl ⟨by simp [e1], by simp [e2]⟩)
      · exact Or.inl (by simp [e1])) with e1 | ⟨e1, e2⟩ | ⟨e1, e2, e3⟩
    all_goals
      clear hs hf
      go_enter Try.func22, Try.ntmps22
      go_wp2
      go_ret
      exact ⟨rfl, ((Below.refl _ _).alloc (Nat.le_refl _) _).alloc (by simp) _⟩
  obtain ⟨rfl, rfl, hlen⟩ := hs
  have HL : Hid (l1.length = l2.length) := hlen
  have hll : (l1.length : Int) = (l2.length : Int) := by omega
  have e3 : ((l1.length : Int) != (l2.length : Int)) = false := by simp [hlen]
  clear hlen hll
  go_enter Try.func22, Try.ntmps22
  go_wp2
  go_loopw [5] (fun i wr => ∃ k : Nat, k ≤ l1.length ∧ i = .int .i64 k ∧ Below w.heap.size w wr ∧
      wr.cell? ⟨w.heap.size, 1, none⟩ = some (.slice ao l1.length cap) ∧ wr.cell? ⟨w.heap.size + 1, 1, none⟩ = some (.slice bo l2.length cbp) ∧ (∀ j, j < k → l1.getD j 0 = l2.getD j 0))
    (fun i _ => l1.length - (intOf i).toNat)
  case atStart => exact ⟨0, by omega, rfl, ((Below.refl _ _).alloc (Nat.le_refl _) _).alloc (by simp) _, by simp [go_sem], by simp [go_sem], fun j hj => absurd hj (by omega)⟩
  case round =>
    obtain ⟨k, hk, rfl, hbel, p1, q1, hall⟩ := hrel
    have F : Hid _ := hall
    clear hall
    by_cases hlt : k < l1.length
    · obtain ⟨ba, oa, rfl, hb1, hcell1⟩ := HC1.out (by omega)
      obtain ⟨bb, ob, rfl, hb2, hcell2⟩ := HC2.out (by have := HL.out; omega)
      have x1 := step_cell hbel (hcell1 k hlt)
      have x2 := step_cell hbel (hcell2 k (by have := HL.out; omega))
      have y1 : (0 : Int) ≤ (k : Int) := by omega
      have y2 : (k : Int) < (l1.length : Int) := by omega
      have y3 : (k : Int) < (l2.length : Int) := by have := HL.out; omega
      obtain ⟨u1, hu1⟩ : ∃ u, u = l1.getD k 0 := ⟨_, rfl⟩
      obtain ⟨u2, hu2⟩ : ∃ u, u = l2.getD k 0 := ⟨_, rfl⟩
      rw [← hu1] at x1
      rw [← hu2] at x2
      have HU1 : Hid (u1 = l1.getD k 0) := hu1
      have HU2 : Hid (u2 = l2.getD k 0) := hu2
      clear hu1 hu2 hcell1 hcell2
      go_wp2
      go_quiet (fail)
      go_wp2
      · go_ret
        refine ⟨ret_bool ?_, below_drewN hbel _⟩
        have hne : (u1 != u2) = true := by assumption
        unfold sameB
        rw [eq_comm]
        simp only [Bool.and_eq_false_iff, decide_eq_false_iff_not]
        right
        intro e
        rw [HU1.out, HU2.out, e] at hne
        simp at hne
      · refine ⟨⟨k + 1, by omega, by go_num, below_drewN hbel _, p1, q1, ?_⟩, by simp [intOf]; omega⟩
        have hne : (u1 != u2) = false := by assumption
        intro j hj
        by_cases hjk : j < k
        · exact F.out j hjk
        · obtain rfl : j = k := by omega
          rw [← HU1.out, ← HU2.out]
          simpa using hne
    · go_wp2
      go_ret
      refine ⟨ret_bool ?_, hbel⟩
      unfold sameB
      have he : l1 = l2 := by
        apply List.ext_getElem HL.out
        intro j h1 h2
        have := F.out j (by omega)
        simpa [List.getD, h1, h2] using this
      simp [he]

end Go.Proofs.Ytcmnmogmdhofcaa.form
