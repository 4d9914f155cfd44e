/- The facts that two have (world.meet). -/
import Derived.Test.YtdbjklngnloibabGreatT25

namespace Go.Proofs.YtdbjklngnloibabGreat.form
open Go.RowKit Go.Maps
set_option linter.unusedVariables false
set_option maxRecDepth 100000
attribute [local go_sem ↓] Go.wp_at_zero Go.wp_at_succ

theorem neqKnown (w : World) (a b c d : Int) : (binOp .neq 96 (.agg #[.int .u64 a, .int .u64 b]) (.agg #[.int .u64 c, .int .u64 d])).run Tryz.prog w = .ok (.bool (!((a == c) && (b == d)))) w := by
  have hu := Tryz.underlying96
  have h3 : Tryz.prog.underlying 94 = some (.int .u64) := Tryz.underlying94
  rw [run_neq_struct, run_equalIn_agg w 9999 96 _ _ (by kernel_rfl) (by kernel_rfl)]
  simp [go_sem, Program.fieldsOf, hu]
  by_cases e1 : a = c <;> by_cases e2 : b = d <;> simp [e1, e2]
theorem bn_iff (x y : Bits) : (bn x == bn y) = true ↔ x = y := by
  rw [beq_iff_eq]
  unfold bn
  constructor
  · intro h
    exact BitVec.eq_of_toNat_eq (by omega)
  · intro h; rw [h]

open Classical in
/-- The bits of the first j places that both have. -/
noncomputable def doneM (A : List LPlace) (j : Nat) (f g : LPlace → Bits) : LPlace → Bits := fun p => if p ∈ A.take j then f p &&& g p else f p
section
variable {A : List LPlace} {j : Nat} {f g : LPlace → Bits}
theorem doneM_zero : doneM A 0 f g = f := by
  funext p
  simp [doneM]
theorem doneM_here (hnd : A.Nodup) (hj : j < A.length) : doneM A j f g (A.getD j .zero) = f (A.getD j .zero) := by
  unfold doneM
  rw [if_neg]
  have e : A.getD j .zero = A[j] := by simp [List.getD, hj]
  rw [e, List.mem_iff_getElem]
  rintro ⟨k, hk, h⟩
  rw [List.getElem_take] at h
  have hk2 : k < j := by simp at hk; omega
  have := (List.getElem_inj (h₀ := by omega) (h₁ := hj) hnd).1 h
  omega
theorem take_one (hj : j < A.length) : A.take (j + 1) = A.take j ++ [A.getD j .zero] := by rw [List.take_succ_eq_append_getElem hj]; simp [List.getD, hj]
theorem doneM_step (hj : j < A.length) : updP (doneM A j f g) (A.getD j .zero) (f (A.getD j .zero) &&& g (A.getD j .zero)) = doneM A (j + 1) f g := by
  funext u
  unfold updP doneM
  rw [take_one hj]
  by_cases h : samePl u (A.getD j .zero) = true
  · rw [if_pos h]
    have := samePl_eq h
    rw [if_pos (by rw [this]; simp), this]
  · rw [if_neg h]
    have hne : u ≠ A.getD j .zero := fun e2 => h (by rw [e2]; exact samePl_self _)
    by_cases h2 : u ∈ A.take j
    · rw [if_pos h2, if_pos (by simp [h2])]
    · rw [if_neg h2, if_neg]
      rw [List.mem_append]
      rintro (h3 | h3)
      · exact h2 h3
      · exact hne (by simpa using h3)
theorem doneM_all (h : ∀ p, ¬ p ∈ A → f p = 0) : doneM A A.length f g = fun p => f p &&& g p := by
  funext p
  unfold doneM
  rw [List.take_length]
  by_cases hp : p ∈ A
  · rw [if_pos hp]
  · rw [if_neg hp, h p hp]; simp
end
/-- The bits of the first j temporaries that both have. -/
def doneT (j : Nat) (f g : Int → Bits) : Int → Bits := fun t => if 0 ≤ t ∧ t < j then f t &&& g t else f t
theorem doneT_zero {f g : Int → Bits} : doneT 0 f g = f := by
  funext t
  unfold doneT
  rw [if_neg (by omega)]
theorem doneT_here {j : Nat} {f g : Int → Bits} : doneT j f g j = f j := by
  unfold doneT
  rw [if_neg (by omega)]
theorem doneT_step {j : Nat} {f g : Int → Bits} : updT (doneT j f g) j (f j &&& g j) = doneT (j + 1) f g := by
  funext t
  unfold updT doneT
  by_cases h : t = j
  · rw [if_pos h, if_pos (by omega), h]
  · rw [if_neg h]
    by_cases h2 : 0 ≤ t ∧ t < j
    · rw [if_pos h2, if_pos (by omega)]
    · rw [if_neg h2, if_neg (by omega)]
theorem doneT_all {j : Nat} {f g : Int → Bits} (h : ∀ t : Int, ¬ (0 ≤ t ∧ t < j) → f t = 0) : doneT j f g = fun t => f t &&& g t := by
  funext t
  unfold doneT
  by_cases h2 : 0 ≤ t ∧ t < (j : Int)
  · rw [if_pos h2]
  · rw [if_neg h2, h t h2]; simp

/-- Something went of the first j places. -/
def WentP (A : List LPlace) (m n : FM) (j : Nat) (c : Bool) : Prop := c = true ↔ ∃ p, p ∈ A.take j ∧ (¬ (m.has p &&& n.has p) = m.has p ∨ ¬ (m.is p &&& n.is p) = m.is p)
/-- .. or of the first t temporaries. -/
def WentT (A : List LPlace) (m n : FM) (t : Nat) (c : Bool) : Prop := c = true ↔ (∃ p, p ∈ A ∧ (¬ (m.has p &&& n.has p) = m.has p ∨ ¬ (m.is p &&& n.is p) = m.is p)) ∨ ∃ u : Nat, u < t ∧ ¬ (m.tmp u &&& n.tmp u) = m.tmp u
theorem WentP.step {A : List LPlace} {m n : FM} {j : Nat} {c c' : Bool} (h : WentP A m n j c) (hj : j < A.length) (hc : c' = true ↔ c = true ∨ (¬ (m.has (A.getD j .zero) &&& n.has (A.getD j .zero)) = m.has (A.getD j .zero) ∨ ¬ (m.is (A.getD j .zero) &&& n.is (A.getD j .zero)) = m.is (A.getD j .zero))) : WentP A m n (j + 1) c' := by
  unfold WentP at h ⊢
  rw [hc, h, take_one hj]
  constructor
  · rintro (⟨p, h1, h2⟩ | h2)
    · exact ⟨p, by simp [h1], h2⟩
    · exact ⟨_, by simp, h2⟩
  · rintro ⟨p, h1, h2⟩
    rcases List.mem_append.1 h1 with h3 | h3
    · exact Or.inl ⟨p, h3, h2⟩
    · have : p = A.getD j .zero := by simpa using h3
      rw [this] at h2
      exact Or.inr h2
theorem WentT.step {A : List LPlace} {m n : FM} {t : Nat} {c c' : Bool} (h : WentT A m n t c) (hc : c' = true ↔ c = true ∨ ¬ (m.tmp t &&& n.tmp t) = m.tmp t) : WentT A m n (t + 1) c' := by
  unfold WentT at h ⊢
  rw [hc, h]
  constructor
  · rintro ((h1 | ⟨u, h1, h2⟩) | h2)
    · exact Or.inl h1
    · exact Or.inr ⟨u, by omega, h2⟩
    · exact Or.inr ⟨t, by omega, h2⟩
  · rintro (h1 | ⟨u, h1, h2⟩)
    · exact Or.inl (Or.inl h1)
    · by_cases e : u = t
      · subst e; exact Or.inr h2
      · exact Or.inl (Or.inr ⟨u, by omega, h2⟩)
theorem WentP.all {A : List LPlace} {m n : FM} {c : Bool} (h : WentP A m n A.length c) : WentT A m n 0 c := by
  unfold WentP at h
  unfold WentT
  rw [h, List.take_length]
  constructor
  · exact fun h => Or.inl h
  · rintro (h | ⟨u, hu, _⟩)
    · exact h
    · omega
theorem meetRound {w7 w9 : World} {q mp mt : Nat} {A : List LPlace} {T : List Int} {j : Nat} {m n : FM} {tm : Int → Bits} {a : LPlace} {xh yi zh zi : Bits} (hF : FMAt w7 q mp mt A T ⟨doneM A j m.has n.has, doneM A j m.is n.is, tm⟩) (hb : But mp mp w7 w9) (hp : PMap w9 mp A (updP (doneM A j m.has n.has) a (xh &&& zh)) (updP (doneM A j m.is n.is) a (yi &&& zi))) (hj : j < A.length) (ha : a = A.getD j .zero) (hx : xh = m.has a) (hy : yi = m.is a) (hzh : zh = n.has a) (hzi : zi = n.is a) : FMAt w9 q mp mt A T ⟨doneM A (j + 1) m.has n.has, doneM A (j + 1) m.is n.is, tm⟩ := by
  refine ⟨hb.cellOf hF.c0 hF.n1 hF.n1, hb.cellOf hF.c1 hF.n1 hF.n1, ?_, hF.tm.of_block (hb.block mt hF.tm.lt (Ne.symm hF.n3) (Ne.symm hF.n3)), hF.n1, hF.n2, hF.n3⟩
  have e1 : updP (doneM A j m.has n.has) a (xh &&& zh) = doneM A (j + 1) m.has n.has := by rw [hx, hzh, ha]; exact doneM_step hj
  have e2 : updP (doneM A j m.is n.is) a (yi &&& zi) = doneM A (j + 1) m.is n.is := by rw [hy, hzi, ha]; exact doneM_step hj
  rw [e1, e2] at hp
  exact hp

theorem wentZ {A : List LPlace} {m n : FM} {j : Nat} {a : LPlace} {xh yi zh zi : Bits} {z : Bool} (hz : z = (!((bn (xh &&& zh) == bn xh) && (bn (yi &&& zi) == bn yi)))) (ha : a = A.getD j .zero) (hx : xh = m.has a) (hy : yi = m.is a) (hzh : zh = n.has a) (hzi : zi = n.is a) :
    z = true ↔ (¬ (m.has (A.getD j .zero) &&& n.has (A.getD j .zero)) = m.has (A.getD j .zero) ∨ ¬ (m.is (A.getD j .zero) &&& n.is (A.getD j .zero)) = m.is (A.getD j .zero)) := by
  rw [← ha, ← hx, ← hy, ← hzh, ← hzi, ← bn_iff, ← bn_iff, hz]
  cases (bn (xh &&& zh) == bn xh) <;> cases (bn (yi &&& zi) == bn yi) <;> simp
theorem wentU {m n : FM} {j : Nat} {xt zt : Bits} {z : Bool} (hz : z = (bn (xt &&& zt) != bn xt)) (hx : xt = m.tmp j) (hy : zt = n.tmp j) : z = true ↔ ¬ (m.tmp j &&& n.tmp j) = m.tmp j := by
  rw [← hx, ← hy, ← bn_iff, hz]
  unfold bne
  cases (bn (xt &&& zt) == bn xt) <;> simp
theorem ok_has {B : List Bool} {s slots : Int} {N : List Int} {m : FM} (h : FmOk B s slots N m) {p : LPlace} (hp : ¬ isB s slots p = true) : m.has p = 0 := Classical.byContradiction fun e => by
  obtain ⟨k, hk⟩ := bits_ne.1 e
  exact hp (h.has p k hk).1
theorem ok_is {B : List Bool} {s slots : Int} {N : List Int} {m : FM} (h : FmOk B s slots N m) {p : LPlace} (hp : ¬ isB s slots p = true) : m.is p = 0 := Classical.byContradiction fun e => by
  obtain ⟨k, hk⟩ := bits_ne.1 e
  exact hp (h.is p k hk).1
theorem ok_tmp {B : List Bool} {s slots : Int} {N : List Int} {m : FM} (h : FmOk B s slots N m) {t : Int} (ht : ¬ (0 ≤ t ∧ t < (B.length : Int))) : m.tmp t = 0 := Classical.byContradiction fun e => by
  obtain ⟨k, hk⟩ := bits_ne.1 e
  have := h.tmp t k hk
  exact ht ⟨this.1, this.2.1⟩
theorem but_l {x y : Nat} {w w' : World} (h : But x x w w') : But x y w w' := ⟨h.os, h.tape, h.output, h.size, fun k hk h1 _ => h.block k hk h1 h1⟩
theorem but_r {x y : Nat} {w w1 w' : World} (h : But x y w w1) (h2 : But y y w1 w') : But x y w w' := h.trans ⟨h2.os, h2.tape, h2.output, h2.size, fun k hk _ h1 => h2.block k hk h1 h1⟩

/-- What meet answers. -/
def MeetAns (A : List LPlace) (m n : FM) (nB q mp mt : Nat) (T : List Int) (w : World) (e : Ending) (w' : World) : Prop := ∃ c, e = .returned (.bool c) ∧ WentT A m n nB c ∧ FMAt w' q mp mt A T (meetF m n) ∧ But mp mt w w'

set_option maxHeartbeats 1600000 in
theorem meetW {w : World} {lim : Nat} {g : WB} {B : List Bool} {C : List LIns} {R : List LRow} {A : List LPlace} {N : List Int} {s slots : Nat} (hW : WorldAt w lim g B C R A N) (hD : Dims B C s slots A N) (hnd : A.Nodup) (q mp mt q2 mp2 mt2 : Nat) (T : List Int) (hT : ∀ t, t ∈ T ↔ 0 ≤ t ∧ t < B.length) (hTl : T.length ≤ 12) (m n : FM) (hF : FMAt w q mp mt A T m) (hG : FMAt w q2 mp2 mt2 A T n) (hmp : lim ≤ mp) (hmt : lim ≤ mt) (d1 : q2 ≠ mp ∧ q2 ≠ mt) (d2 : mp2 ≠ mp ∧ mp2 ≠ mt) (d3 : mt2 ≠ mp ∧ mt2 ≠ mt) (hok : FmOk B s slots N m) :
    Calls Tryz.prog 88 #[.pointer (some ⟨g.q, 0, none⟩), .pointer (some ⟨q, 0, none⟩), .pointer (some ⟨q2, 0, none⟩)] w fun e w' => MeetAns A m n B.length q mp mt T w e w' := by
  have hb12 := hD.b12
  have HW : Hid (WorldAt w lim g B C R A N) := hW
  have HD : Hid (Dims B C s slots A N) := hD
  have HF : Hid (FMAt w q mp mt A T m) := hF
  have HG : Hid (FMAt w q2 mp2 mt2 A T n) := hG
  have HOK : Hid (FmOk B s slots N m) := hok
  have HND : Hid (A.Nodup) := hnd
  have HT : Hid (∀ t, t ∈ T ↔ 0 ≤ t ∧ t < B.length) := hT
  have hlm := hF.lt
  have hle := hW.le
  have y3 := hW.stat.p3
  have hgq := cell_lt y3
  have ha36 : (A.length : Int) ≤ 36 := by have := hD.a36; omega
  clear hW hD hF hG hok hnd hT
  go_enter Tryz.func88, Tryz.ntmps88
  go_wp2
  go_loopg [7, 9, 10, 18] (A.length + 1) (fun gg v7 v9 v10 v wr => ∃ (j : Nat) (c : Bool), v = .int .i64 j ∧ v7 = .bool c ∧ j ≤ A.length ∧ gg = A.length + 1 - j ∧ FMAt wr q mp mt A T ⟨doneM A j m.has n.has, doneM A j m.is n.is, m.tmp⟩ ∧ But mp mp w wr ∧ WentP A m n j c)
  case atStart => exact ⟨0, false, rfl, rfl, by omega, by omega, by rw [doneM_zero, doneM_zero]; exact HF.out, But.of_below (Below.refl _ _), by unfold WentP; simp⟩
  case round =>
    obtain ⟨j, c, rfl, rfl, hj, hgk, hfr, hbr, hwp⟩ := hrel
    have HGK : Hid (gk = A.length + 1 - j) := hgk
    have HFR : Hid (FMAt wr q mp mt A T ⟨doneM A j m.has n.has, doneM A j m.is n.is, m.tmp⟩) := hfr
    have HBR : Hid (But mp mp w wr) := hbr
    have HWP : Hid (WentP A m n j c) := hwp
    have HWR : Hid (WorldAt wr lim g B C R A N) := HW.out.but hbr hmp hmp
    have HGR : Hid (FMAt wr q2 mp2 mt2 A T n) := HG.out.but hbr ⟨d1.1, d1.1⟩ ⟨d2.1, d2.1⟩ ⟨d3.1, d3.1⟩
    have e0 : q ≠ mp := hfr.n1
    have hwr := hfr.lt
    clear hgk hfr hbr hwp
    by_cases hjl : j < A.length
    · have hjz : (j : Int) < (A.length : Int) := by omega
      obtain ⟨a, ha⟩ : ∃ a, a = A.getD j .zero := ⟨_, rfl⟩
      obtain ⟨y0, y1⟩ := HWR.out.stat.plc j hjl
      rw [← ha] at y0 y1
      have hbl := cell_lt y0
      have ham : a ∈ A := by rw [ha]; simp [List.getD, hjl]
      have hwf : PlWf a := HD.out.wf ((HD.out.all _).1 ham)
      have HWF : Hid (PlWf a) := hwf
      have HAM : Hid (a ∈ A) := ham
      have HA : Hid (a = A.getD j .zero) := ha
      clear ha ham
      obtain ⟨xh, hxh⟩ : ∃ x, x = m.has a := ⟨_, rfl⟩
      obtain ⟨yi, hyi⟩ : ∃ x, x = m.is a := ⟨_, rfl⟩
      obtain ⟨zh, hzh⟩ : ∃ x, x = n.has a := ⟨_, rfl⟩
      obtain ⟨zi, hzi⟩ : ∃ x, x = n.is a := ⟨_, rfl⟩
      have HXH : Hid (xh = m.has a) := hxh
      have HYI : Hid (yi = m.is a) := hyi
      have HZH : Hid (zh = n.has a) := hzh
      have HZI : Hid (zi = n.is a) := hzi
      have hhe : doneM A j m.has n.has a = xh := by rw [HA.out, doneM_here HND.out hjl, hxh, HA.out]
      have hhi : doneM A j m.is n.is a = yi := by rw [HA.out, doneM_here HND.out hjl, hyi, HA.out]
      have HHE : Hid (doneM A j m.has n.has a = xh) := hhe
      have HHI : Hid (doneM A j m.is n.is a = yi) := hhi
      clear hxh hyi hzh hzi hwf hhe hhi
      go_upto_region 5 with fail
      obtain ⟨wx, hwx⟩ : ∃ wx, wx = wr.alloc (.cells #[.int .i64 a.kind, .int .i64 a.n] 37) := ⟨_, rfl⟩
      have hbx : Below wr.heap.size wr wx := by rw [hwx]; exact (Below.refl _ _).alloc (Nat.le_refl _) _
      have x1 : wx.cell? ⟨wr.heap.size, 0, none⟩ = some (.int .i64 a.kind) := by rw [hwx]; simp [go_sem]
      have x2 : wx.cell? ⟨wr.heap.size, 1, none⟩ = some (.int .i64 a.n) := by rw [hwx]; simp [go_sem]
      have hzx : wx.heap.size = wr.heap.size + 1 := by rw [hwx]; simp
      have hfx := HFR.out.below hbx
      have x0 : wx.cell? ⟨q, 0, none⟩ = some (.map (some mp)) := hfx.c0
      have HLK : Hid (∀ w5, Below wx.heap.size wx w5 → (Instr.lookup 97 (.map (some mp)) (.agg #[.int .i64 a.kind, .int .i64 a.n]) false).run Tryz.prog w5 = .ok (.agg #[.int .u64 (bn xh), .int .u64 (bn yi)]) w5) := fun w5 hb => by
        have h := PMap.look (hfx.pm.below hb) HWF.out
        simp only [HHE.out, HHI.out] at h
        exact h
      have HBX : Hid (Below wr.heap.size wr wx) := hbx
      have HZX : Hid (wx.heap.size = wr.heap.size + 1) := hzx
      rw [← hwx]
      clear hwx hbx hzx hfx y0 y1
      refine wp_region_held_drew (S := (fun w' => Below wx.heap.size wx w' ∧ w'.cell? ⟨q, 0, none⟩ = some (.map (some mp)) ∧ w'.cell? ⟨wr.heap.size, 0, none⟩ = some (.int .i64 a.kind) ∧ w'.cell? ⟨wr.heap.size, 1, none⟩ = some (.int .i64 a.n))) (by rfl) ?_ (fun hHeld => ?_)
      · (exact ⟨(Below.refl _ _).drew, x0, x1, x2⟩)
      refine wpAnyH_take (i := 0) (v := ?_) rfl (by kernel_rfl) (by kernel_rfl) (by kernel_rfl) (fun _ _ _ h => h) (Or.inl ⟨by rfl, ?_⟩) (by assumption) ?_
      case refine_2 => (intro w hSw; (try dsimp only at hSw); go_simp; first | done | (with_reducible rfl))
      show wpAnyH _ _ _ _ _ _ _ (Act.put _ (some 22) _) _
      simp only [Act.put, List.setIfInBounds_toArray, List.set_cons_zero, List.set_cons_succ]
      refine wpAnyH_take (i := 1) (v := ?_) rfl (by kernel_rfl) (by kernel_rfl) (by kernel_rfl) (fun _ _ _ h => h) (Or.inl ⟨by rfl, ?_⟩) (by assumption) ?_
      case refine_2 => (intro w hSw; (try dsimp only at hSw); go_simp; first | done | (with_reducible rfl))
      show wpAnyH _ _ _ _ _ _ _ (Act.put _ (some 23) _) _
      simp only [Act.put, List.setIfInBounds_toArray, List.set_cons_zero, List.set_cons_succ]
      refine wpAnyH_take (i := 2) (v := ?_) rfl (by kernel_rfl) (by kernel_rfl) (by kernel_rfl) (fun _ _ _ h => h) (Or.inl ⟨by rfl, ?_⟩) (by assumption) ?_
      case refine_2 => (intro w hSw; (try dsimp only at hSw); go_simp; first | done | (with_reducible rfl))
      show wpAnyH _ _ _ _ _ _ _ (Act.put _ (some 24) _) _
      simp only [Act.put, List.setIfInBounds_toArray, List.set_cons_zero, List.set_cons_succ]
      refine wpAnyH_take (i := 3) (v := ?_) rfl (by kernel_rfl) (by kernel_rfl) (by kernel_rfl) (fun _ _ _ h => h) (Or.inl ⟨by rfl, ?_⟩) (by assumption) ?_
      case refine_2 => (intro w hSw; (try dsimp only at hSw); go_simp; first | done | (with_reducible rfl))
      show wpAnyH _ _ _ _ _ _ _ (Act.put _ (some 25) _) _
      simp only [Act.put, List.setIfInBounds_toArray, List.set_cons_zero, List.set_cons_succ]
      refine wpAnyH_take (i := 4) (v := ?_) rfl (by kernel_rfl) (by kernel_rfl) (by kernel_rfl) (fun _ _ _ h => h) (Or.inl ⟨by rfl, ?_⟩) (by assumption) ?_
      case refine_2 => (intro w hSw; (try dsimp only at hSw); go_simp; first | done | (with_reducible rfl))
      show wpAnyH _ _ _ _ _ _ _ (Act.put _ (some 26) _) _
      simp only [Act.put, List.setIfInBounds_toArray, List.set_cons_zero, List.set_cons_succ]
      refine wpAnyH_take (i := 5) (v := ?_) rfl (by kernel_rfl) (by kernel_rfl) (by kernel_rfl) (fun _ _ _ h => h) (Or.inl ⟨by rfl, ?_⟩) (by assumption) ?_
      case refine_2 => (intro w5 hSw; (try dsimp only at hSw); have hl := HLK.out w5 hSw.1; go_simp; first | done | (with_reducible rfl))
      show wpAnyH _ _ _ _ _ _ _ (Act.put _ (some 27) _) _
      simp only [Act.put, List.setIfInBounds_toArray, List.set_cons_zero, List.set_cons_succ]
      refine wpAnyH_ready (rs := [6]) (by kernel_rfl) (by simp) ?_
      refine (AllReadyH.cons rfl (fun K hK => ?_) AllReadyH.nil)
      have h8 := hHeld
      go_simp
      refine hK.out _ _ ?_ (fun hHeld => ?_)
      · (exact ⟨step_below ((Below.refl _ _).alloc (Nat.le_refl _) _) hHeld.1, step_cell ((Below.refl _ _).alloc (Nat.le_refl _) _) hHeld.2.1, step_cell ((Below.refl _ _).alloc (Nat.le_refl _) _) hHeld.2.2.1, step_cell ((Below.refl _ _).alloc (Nat.le_refl _) _) hHeld.2.2.2⟩)
      clear hK K
      try simp only [Act.put, List.setIfInBounds_toArray, List.set_cons_zero, List.set_cons_succ]
      refine wpAnyH_ready (rs := [7]) (by kernel_rfl) (by simp) ?_
      refine (AllReadyH.cons rfl (fun K hK => ?_) AllReadyH.nil)
      go_simp
      refine hK.out _ _ ?_ (fun hHeld => ?_)
      · (exact ⟨step_below ((Below.refl _ _).alloc (Nat.le_refl _) _) h8.1, step_cell ((Below.refl _ _).alloc (Nat.le_refl _) _) h8.2.1, step_cell ((Below.refl _ _).alloc (Nat.le_refl _) _) h8.2.2.1, step_cell ((Below.refl _ _).alloc (Nat.le_refl _) _) h8.2.2.2⟩)
      clear hK K
      try simp only [Act.put, List.setIfInBounds_toArray, List.set_cons_zero, List.set_cons_succ]
      refine wpAnyH_done (by kernel_rfl) ?_ _
      clear hHeld
      obtain ⟨wy, hwy⟩ : ∃ wy, wy = (wx.alloc (.cells #[.int .u64 (bn xh), .int .u64 (bn yi)] 96)).drew := ⟨_, rfl⟩
      have hbxy : Below wx.heap.size wx wy := by rw [hwy]; exact ((Below.refl _ _).alloc (Nat.le_refl _) _).drew
      have v3 : wy.cell? ⟨wx.heap.size, 0, none⟩ = some (.int .u64 (bn xh)) := by rw [hwy]; simp [go_sem]
      have v4 : wy.cell? ⟨wx.heap.size, 1, none⟩ = some (.int .u64 (bn yi)) := by rw [hwy]; simp [go_sem]
      rw [← hwy]
      clear hwy
      have v0 := step_cell hbxy x0
      have v1 := step_cell hbxy x1
      have v2 := step_cell hbxy x2
      have HBY : Hid (Below wr.heap.size wr wy) := step_below hbxy HBX.out
      have HGY : Hid (FMAt wy q2 mp2 mt2 A T n) := HGR.out.below HBY.out
      have v5 := HGY.out.c0
      have e1 : wr.heap.size ≠ mp := by omega
      have e2 : wx.heap.size ≠ mp := by have := HZX.out; omega
      have e4 : q2 ≠ mp := d1.1
      have hn36 : A.length < maxLen := by have := HD.out.a36; unfold maxLen; omega
      have HLK2 : Hid (∀ w5, But mp mp wy w5 → (Instr.lookup 97 (.map (some mp2)) (.agg #[.int .i64 a.kind, .int .i64 a.n]) false).run Tryz.prog w5 = .ok (.agg #[.int .u64 (bn zh), .int .u64 (bn zi)]) w5) := fun w5 hb => by
        have h := PMap.look (HGY.out.pm.of_block (hb.block mp2 HGY.out.pm.lt d2.1 d2.1)) HWF.out
        rw [← HZH.out, ← HZI.out] at h
        exact h
      clear x0 x1 x2 hbxy
      go_upto_region 6 with fail
      refine wp_region_held_drew (S := (fun w' => But mp mp wy w' ∧ w'.cell? ⟨q, 0, none⟩ = some (.map (some mp)) ∧ w'.cell? ⟨wr.heap.size, 0, none⟩ = some (.int .i64 a.kind) ∧ w'.cell? ⟨wr.heap.size, 1, none⟩ = some (.int .i64 a.n) ∧ w'.cell? ⟨wx.heap.size, 0, none⟩ = some (.int .u64 (bn xh)) ∧ w'.cell? ⟨wx.heap.size, 1, none⟩ = some (.int .u64 (bn yi)) ∧ w'.cell? ⟨q2, 0, none⟩ = some (.map (some mp2)))) (by rfl) ?_ (fun hHeld => ?_)
      · (exact ⟨But.of_below (Below.refl _ _).drew, v0, v1, v2, v3, v4, v5⟩)
      refine wpAnyH_take (i := 0) (v := ?_) rfl (by kernel_rfl) (by kernel_rfl) (by kernel_rfl) (fun _ _ _ h => h) (Or.inl ⟨by rfl, ?_⟩) (by assumption) ?_
      case refine_2 => (intro w hSw; (try dsimp only at hSw); go_simp; first | done | (with_reducible rfl))
      show wpAnyH _ _ _ _ _ _ _ (Act.put _ (some 28) _) _
      simp only [Act.put, List.setIfInBounds_toArray, List.set_cons_zero, List.set_cons_succ]
      refine wpAnyH_take (i := 1) (v := ?_) rfl (by kernel_rfl) (by kernel_rfl) (by kernel_rfl) (fun _ _ _ h => h) (Or.inl ⟨by rfl, ?_⟩) (by assumption) ?_
      case refine_2 => (intro w hSw; (try dsimp only at hSw); go_simp; first | done | (with_reducible rfl))
      show wpAnyH _ _ _ _ _ _ _ (Act.put _ (some 29) _) _
      simp only [Act.put, List.setIfInBounds_toArray, List.set_cons_zero, List.set_cons_succ]
      refine wpAnyH_take (i := 2) (v := ?_) rfl (by kernel_rfl) (by kernel_rfl) (by kernel_rfl) (fun _ _ _ h => h) (Or.inl ⟨by rfl, ?_⟩) (by assumption) ?_
      case refine_2 => (intro w hSw; (try dsimp only at hSw); go_simp; first | done | (with_reducible rfl))
      show wpAnyH _ _ _ _ _ _ _ (Act.put _ (some 30) _) _
      simp only [Act.put, List.setIfInBounds_toArray, List.set_cons_zero, List.set_cons_succ]
      refine wpAnyH_take (i := 3) (v := ?_) rfl (by kernel_rfl) (by kernel_rfl) (by kernel_rfl) (fun _ _ _ h => h) (Or.inl ⟨by rfl, ?_⟩) (by assumption) ?_
      case refine_2 => (intro w hSw; (try dsimp only at hSw); go_simp; first | done | (with_reducible rfl))
      show wpAnyH _ _ _ _ _ _ _ (Act.put _ (some 31) _) _
      simp only [Act.put, List.setIfInBounds_toArray, List.set_cons_zero, List.set_cons_succ]
      refine wpAnyH_take (i := 4) (v := ?_) rfl (by kernel_rfl) (by kernel_rfl) (by kernel_rfl) (fun _ _ _ h => h) (Or.inl ⟨by rfl, ?_⟩) (by assumption) ?_
      case refine_2 => (intro w hSw; (try dsimp only at hSw); go_simp; first | done | (with_reducible rfl))
      show wpAnyH _ _ _ _ _ _ _ (Act.put _ (some 32) _) _
      simp only [Act.put, List.setIfInBounds_toArray, List.set_cons_zero, List.set_cons_succ]
      refine wpAnyH_take (i := 5) (v := ?_) rfl (by kernel_rfl) (by kernel_rfl) (by kernel_rfl) (fun _ _ _ h => h) (Or.inl ⟨by rfl, ?_⟩) (by assumption) ?_
      case refine_2 => (intro w hSw; (try dsimp only at hSw); go_simp; first | done | (with_reducible rfl))
      show wpAnyH _ _ _ _ _ _ _ (Act.put _ (some 33) _) _
      simp only [Act.put, List.setIfInBounds_toArray, List.set_cons_zero, List.set_cons_succ]
      refine wpAnyH_take (i := 6) (v := ?_) rfl (by kernel_rfl) (by kernel_rfl) (by kernel_rfl) (fun _ _ _ h => h) (Or.inl ⟨by rfl, ?_⟩) (by assumption) ?_
      case refine_2 => (intro w hSw; (try dsimp only at hSw); go_simp; first | done | (with_reducible rfl))
      show wpAnyH _ _ _ _ _ _ _ (Act.put _ (some 34) _) _
      simp only [Act.put, List.setIfInBounds_toArray, List.set_cons_zero, List.set_cons_succ]
      refine wpAnyH_take (i := 7) (v := ?_) rfl (by kernel_rfl) (by kernel_rfl) (by kernel_rfl) (fun _ _ _ h => h) (Or.inl ⟨by rfl, ?_⟩) (by assumption) ?_
      case refine_2 => (intro w hSw; (try dsimp only at hSw); go_simp; first | done | (with_reducible rfl))
      show wpAnyH _ _ _ _ _ _ _ (Act.put _ (some 35) _) _
      simp only [Act.put, List.setIfInBounds_toArray, List.set_cons_zero, List.set_cons_succ]
      refine wpAnyH_take (i := 8) (v := ?_) rfl (by kernel_rfl) (by kernel_rfl) (by kernel_rfl) (fun _ _ _ h => h) (Or.inl ⟨by rfl, ?_⟩) (by assumption) ?_
      case refine_2 => (intro w hSw; (try dsimp only at hSw); go_simp; first | done | (with_reducible rfl))
      show wpAnyH _ _ _ _ _ _ _ (Act.put _ (some 36) _) _
      simp only [Act.put, List.setIfInBounds_toArray, List.set_cons_zero, List.set_cons_succ]
      refine wpAnyH_take (i := 9) (v := ?_) rfl (by kernel_rfl) (by kernel_rfl) (by kernel_rfl) (fun _ _ _ h => h) (Or.inl ⟨by rfl, ?_⟩) (by assumption) ?_
      case refine_2 => (intro w hSw; (try dsimp only at hSw); go_simp; first | done | (with_reducible rfl))
      show wpAnyH _ _ _ _ _ _ _ (Act.put _ (some 37) _) _
      simp only [Act.put, List.setIfInBounds_toArray, List.set_cons_zero, List.set_cons_succ]
      refine wpAnyH_take (i := 10) (v := ?_) rfl (by kernel_rfl) (by kernel_rfl) (by kernel_rfl) (fun _ _ _ h => h) (Or.inl ⟨by rfl, ?_⟩) (by assumption) ?_
      case refine_2 => (intro w hSw; (try dsimp only at hSw); go_simp; first | done | (with_reducible rfl))
      show wpAnyH _ _ _ _ _ _ _ (Act.put _ (some 38) _) _
      simp only [Act.put, List.setIfInBounds_toArray, List.set_cons_zero, List.set_cons_succ]
      refine wpAnyH_take (i := 11) (v := ?_) rfl (by kernel_rfl) (by kernel_rfl) (by kernel_rfl) (fun _ _ _ h => h) (Or.inl ⟨by rfl, ?_⟩) (by assumption) ?_
      case refine_2 => (intro w5 hSw; (try dsimp only at hSw); have hl := HLK2.out w5 hSw.1; go_simp; first | done | (with_reducible rfl))
      show wpAnyH _ _ _ _ _ _ _ (Act.put _ (some 39) _) _
      simp only [Act.put, List.setIfInBounds_toArray, List.set_cons_zero, List.set_cons_succ]
      refine wpAnyH_ready (rs := [12]) (by kernel_rfl) (by simp) ?_
      refine (AllReadyH.cons rfl (fun K hK => ?_) AllReadyH.nil)
      go_simp
      go_at_call 90
      refine (andO xh yi zh zi _).mono ?_
      rintro e w8 ⟨rfl, hbr8⟩
      have HB8 : Hid (Below wy.heap.size wy w8) := step_below hbr8 (Below.refl _ _).drew
      unfold knownV
      go_wp2_with fail
      refine hK.out _ _ ?_ (fun hHeld => ?_)
      · (exact ⟨hHeld.1.trans (But.of_below hbr8), step_cell hbr8 hHeld.2.1, step_cell hbr8 hHeld.2.2.1, step_cell hbr8 hHeld.2.2.2.1, step_cell hbr8 hHeld.2.2.2.2.1, step_cell hbr8 hHeld.2.2.2.2.2.1, step_cell hbr8 hHeld.2.2.2.2.2.2⟩)
      clear hK K
      try simp only [Act.put, List.setIfInBounds_toArray, List.set_cons_zero, List.set_cons_succ]
      clear hbr8
      obtain ⟨w9, hrun, hp9, hg9⟩ := (HFR.out.pm.below (step_below HB8.out HBY.out)).put hn36 HWF.out HAM.out (xh &&& zh) (yi &&& zi)
      unfold LPlace.val knownV at hrun
      have HP9 : Hid (PMap w9 mp A (updP (doneM A j m.has n.has) a (xh &&& zh)) (updP (doneM A j m.is n.is) a (yi &&& zi))) := hp9
      have HG9 : Hid (But mp mp w8 w9) := grown_but hg9
      clear hp9 hg9
      refine wpAnyH_ready (rs := [13]) (by kernel_rfl) (by simp) ?_
      refine (AllReadyH.cons rfl (fun K hK => ?_) AllReadyH.nil)
      go_simp
      refine hK.out _ _ ?_ (fun hHeld => ?_)
      · (exact ⟨hHeld.1.trans HG9.out, HG9.out.cellOf hHeld.2.1 e0 e0, HG9.out.cellOf hHeld.2.2.1 e1 e1, HG9.out.cellOf hHeld.2.2.2.1 e1 e1, HG9.out.cellOf hHeld.2.2.2.2.1 e2 e2, HG9.out.cellOf hHeld.2.2.2.2.2.1 e2 e2, HG9.out.cellOf hHeld.2.2.2.2.2.2 e4 e4⟩)
      clear hK K
      try simp only [Act.put, List.setIfInBounds_toArray, List.set_cons_zero, List.set_cons_succ]
      have u0 := hHeld.2.1
      have u1 := hHeld.2.2.1
      have u2 := hHeld.2.2.2.1
      have u3 := hHeld.2.2.2.2.1
      have u4 := hHeld.2.2.2.2.2.1
      refine wpAnyH_done (by kernel_rfl) ?_ _
      clear hHeld
      have hf9 := meetRound (HFR.out.below (step_below HB8.out HBY.out)) HG9.out HP9.out hjl HA.out HXH.out HYI.out HZH.out HZI.out
      have HF9 : Hid (FMAt w9 q mp mt A T ⟨doneM A (j + 1) m.has n.has, doneM A (j + 1) m.is n.is, m.tmp⟩) := hf9
      have HB9 : Hid (But mp mp w w9) := HBR.out.trans ((But.of_below (step_below HB8.out HBY.out)).trans HG9.out)
      have hl9 : ∀ k, (Instr.lookup 97 (.map (some mp)) (.agg #[.int .i64 a.kind, .int .i64 a.n]) false).run Tryz.prog (w9.drewN k) = .ok (.agg #[.int .u64 (bn (xh &&& zh)), .int .u64 (bn (yi &&& zi))]) (w9.drewN k) := fun k => by
        have h := PMap.look (w := w9.drewN k) (HP9.out.of_block rfl) HWF.out
        have f1 : updP (doneM A j m.has n.has) a (xh &&& zh) a = xh &&& zh := by unfold updP; rw [if_pos (samePl_self a)]
        have f2 : updP (doneM A j m.is n.is) a (yi &&& zi) a = yi &&& zi := by unfold updP; rw [if_pos (samePl_self a)]
        rw [f1, f2] at h
        exact h
      obtain ⟨z, hz⟩ : ∃ z, z = (!((bn (xh &&& zh) == bn xh) && (bn (yi &&& zi) == bn yi))) := ⟨_, rfl⟩
      have hnq := fun w => neqKnown w (bn (xh &&& zh)) (bn (yi &&& zi)) (bn xh) (bn yi)
      simp only [← hz] at hnq
      have HZ : Hid (z = true ↔ (¬ (m.has (A.getD j .zero) &&& n.has (A.getD j .zero)) = m.has (A.getD j .zero) ∨ ¬ (m.is (A.getD j .zero) &&& n.is (A.getD j .zero)) = m.is (A.getD j .zero))) := wentZ hz HA.out HXH.out HYI.out HZH.out HZI.out
      clear hf9 hz hrun v0 v1 v2 v3 v4 v5
      go_upto_region 7 with fail
      rcases Bool.eq_false_or_eq_true c with hc | hc
      · subst hc
        go_big_quiet (fail)
        go_wp2_with fail
        have hgk := HGK.out
        go_roundg (gk - 1)
        case measure => omega
        case rel => exact ⟨j + 1, true, by go_num, rfl, by omega, by omega, HF9.out.below (below_drewN (Below.refl _ _) _), HB9.out.trans (But.of_below (below_drewN (Below.refl _ _) _)), HWP.out.step hjl (by simp)⟩
      · subst hc
        go_big_quiet (fail)
        go_wp2_with fail
        have hgk := HGK.out
        go_roundg (gk - 1)
        case measure => omega
        case rel => exact ⟨j + 1, z, by go_num, rfl, by omega, by omega, HF9.out.below (below_drewN (Below.refl _ _) _), HB9.out.trans (But.of_below (below_drewN (Below.refl _ _) _)), HWP.out.step hjl (by rw [HZ.out]; simp)⟩
    · obtain rfl : j = A.length := by omega
      have hjz : ¬ (A.length : Int) < (A.length : Int) := by omega
      have HF1 : Hid (FMAt wr q mp mt A T ⟨(meetF m n).has, (meetF m n).is, doneT 0 m.tmp n.tmp⟩) := by
        have h := HFR.out
        rw [doneM_all (fun p hp => ok_has HOK.out (fun e => hp ((HD.out.all p).2 e))), doneM_all (fun p hp => ok_is HOK.out (fun e => hp ((HD.out.all p).2 e)))] at h
        rw [doneT_zero]
        exact h
      have HW1 : Hid (WentT A m n 0 c) := HWP.out.all
      have HBW : Hid (But mp mt w wr) := but_l HBR.out
      obtain ⟨w1, hw1⟩ : ∃ w1, w1 = wr := ⟨_, rfl⟩
      rw [← hw1] at HF1 HBW HWR HGR hwr ⊢
      have HGR1 : Hid (FMAt w1 q2 mp2 mt2 A T n) := HGR.out
      have HWR1 : Hid (WorldAt w1 lim g B C R A N) := HWR.out
      clear hw1 HFR HBR HWP HWR HGR HGK
      have y0 := HWR1.out.stat.p0
      have hbz : (B.length : Int) ≤ 12 := by omega
      go_wp2
      go_loopg [7, 11, 12, 59] (B.length + 1) (fun gg v7 v11 v12 v wr => ∃ (j : Nat) (c : Bool), v = .int .i64 j ∧ v7 = .bool c ∧ j ≤ B.length ∧ gg = B.length + 1 - j ∧ FMAt wr q mp mt A T ⟨(meetF m n).has, (meetF m n).is, doneT j m.tmp n.tmp⟩ ∧ But mt mt w1 wr ∧ WentT A m n j c)
      case atStart => exact ⟨0, c, rfl, rfl, by omega, by omega, HF1.out, But.of_below (Below.refl _ _), HW1.out⟩
      case round =>
        clear HF1 HW1
        obtain ⟨j, c, rfl, rfl, hj, hgk, hfr, hbr, hwp⟩ := hrel
        have HGK : Hid (gk = B.length + 1 - j) := hgk
        have HFR : Hid (FMAt wr q mp mt A T ⟨(meetF m n).has, (meetF m n).is, doneT j m.tmp n.tmp⟩) := hfr
        have HBR : Hid (But mt mt w1 wr) := hbr
        have HWP : Hid (WentT A m n j c) := hwp
        have HGR : Hid (FMAt wr q2 mp2 mt2 A T n) := HGR1.out.but hbr ⟨d1.2, d1.2⟩ ⟨d2.2, d2.2⟩ ⟨d3.2, d3.2⟩
        have e5 : q ≠ mt := hfr.n2
        have e6 : q2 ≠ mt := d1.2
        have x0 := hfr.c1
        have x1 := HGR.out.c1
        have hwr2 := hfr.lt
        clear hgk hfr hbr hwp
        by_cases hjl : j < B.length
        · have hjz : (j : Int) < (B.length : Int) := by omega
          obtain ⟨xt, hxt⟩ : ∃ x, x = m.tmp j := ⟨_, rfl⟩
          obtain ⟨zt, hzt⟩ : ∃ x, x = n.tmp j := ⟨_, rfl⟩
          have HXT : Hid (xt = m.tmp j) := hxt
          have HZT : Hid (zt = n.tmp j) := hzt
          have hwf : TWf (j : Int) := ⟨by omega, by omega⟩
          have hjm : (j : Int) ∈ T := (HT.out _).2 ⟨by omega, by omega⟩
          have hlk : (Instr.lookup 98 (.map (some mt)) (.int .i64 (j : Int)) false).run Tryz.prog wr = .ok (.int .u64 (bn xt)) wr := by
            have h := TMap.look HFR.out.tm hwf
            rw [show (⟨(meetF m n).has, (meetF m n).is, doneT j m.tmp n.tmp⟩ : FM).tmp (j : Int) = xt from doneT_here.trans hxt.symm] at h
            exact h
          have HLK2 : Hid (∀ w5, But mt mt wr w5 → (Instr.lookup 98 (.map (some mt2)) (.int .i64 (j : Int)) false).run Tryz.prog w5 = .ok (.int .u64 (bn zt)) w5) := fun w5 hb => by
            have h := TMap.look (HGR.out.tm.of_block (hb.block mt2 HGR.out.tm.lt d3.2 d3.2)) hwf
            rw [← hzt] at h
            exact h
          have hn12 : T.length < maxLen := by unfold maxLen; omega
          obtain ⟨w9, hrun, hp9, hg9⟩ := (HFR.out.tm.of_block (w' := wr.drew) rfl).put hn12 hwf hjm (xt &&& zt)
          have HP9 : Hid (TMap w9 mt T (updT (doneT j m.tmp n.tmp) j (xt &&& zt))) := hp9
          have HG9 : Hid (But mt mt wr.drew w9) := grown_but hg9
          have hand := and_is xt zt
          obtain ⟨z, hz⟩ : ∃ z, z = (bn (xt &&& zt) != bn xt) := ⟨_, rfl⟩
          have hzz : (bn (xt &&& zt) != bn xt) = z := hz.symm
          have HZ : Hid (z = true ↔ ¬ (m.tmp j &&& n.tmp j) = m.tmp j) := wentU hz hxt hzt
          clear hp9 hg9 hxt hzt hz hjm
          go_upto_region 13 with fail
          refine wp_region_held_drew (S := (fun w' => But mt mt wr w' ∧ w'.cell? ⟨q, 1, none⟩ = some (.map (some mt)) ∧ w'.cell? ⟨q2, 1, none⟩ = some (.map (some mt2)))) (by rfl) ?_ (fun hHeld => ?_)
          · (exact ⟨But.of_below (Below.refl _ _).drew, x0, x1⟩)
          refine wpAnyH_take (i := 0) (v := ?_) rfl (by kernel_rfl) (by kernel_rfl) (by kernel_rfl) (fun _ _ _ h => h) (Or.inl ⟨by rfl, ?_⟩) (by assumption) ?_
          case refine_2 => (intro w hSw; (try dsimp only at hSw); go_simp; first | done | (with_reducible rfl))
          show wpAnyH _ _ _ _ _ _ _ (Act.put _ (some 68) _) _
          simp only [Act.put, List.setIfInBounds_toArray, List.set_cons_zero, List.set_cons_succ]
          refine wpAnyH_take (i := 1) (v := ?_) rfl (by kernel_rfl) (by kernel_rfl) (by kernel_rfl) (fun _ _ _ h => h) (Or.inl ⟨by rfl, ?_⟩) (by assumption) ?_
          case refine_2 => (intro w hSw; (try dsimp only at hSw); go_simp; first | done | (with_reducible rfl))
          show wpAnyH _ _ _ _ _ _ _ (Act.put _ (some 69) _) _
          simp only [Act.put, List.setIfInBounds_toArray, List.set_cons_zero, List.set_cons_succ]
          refine wpAnyH_take (i := 2) (v := ?_) rfl (by kernel_rfl) (by kernel_rfl) (by kernel_rfl) (fun _ _ _ h => h) (Or.inl ⟨by rfl, ?_⟩) (by assumption) ?_
          case refine_2 => (intro w hSw; (try dsimp only at hSw); go_simp; first | done | (with_reducible rfl))
          show wpAnyH _ _ _ _ _ _ _ (Act.put _ (some 70) _) _
          simp only [Act.put, List.setIfInBounds_toArray, List.set_cons_zero, List.set_cons_succ]
          refine wpAnyH_take (i := 3) (v := ?_) rfl (by kernel_rfl) (by kernel_rfl) (by kernel_rfl) (fun _ _ _ h => h) (Or.inl ⟨by rfl, ?_⟩) (by assumption) ?_
          case refine_2 => (intro w hSw; (try dsimp only at hSw); go_simp; first | done | (with_reducible rfl))
          show wpAnyH _ _ _ _ _ _ _ (Act.put _ (some 71) _) _
          simp only [Act.put, List.setIfInBounds_toArray, List.set_cons_zero, List.set_cons_succ]
          refine wpAnyH_take (i := 4) (v := ?_) rfl (by kernel_rfl) (by kernel_rfl) (by kernel_rfl) (fun _ _ _ h => h) (Or.inl ⟨by rfl, ?_⟩) (by assumption) ?_
          case refine_2 => (intro w hSw; (try dsimp only at hSw); go_simp; first | done | (with_reducible rfl))
          show wpAnyH _ _ _ _ _ _ _ (Act.put _ (some 72) _) _
          simp only [Act.put, List.setIfInBounds_toArray, List.set_cons_zero, List.set_cons_succ]
          refine wpAnyH_take (i := 5) (v := ?_) rfl (by kernel_rfl) (by kernel_rfl) (by kernel_rfl) (fun _ _ _ h => h) (Or.inl ⟨by rfl, ?_⟩) (by assumption) ?_
          case refine_2 => (intro w hSw; (try dsimp only at hSw); go_simp; first | done | (with_reducible rfl))
          show wpAnyH _ _ _ _ _ _ _ (Act.put _ (some 73) _) _
          simp only [Act.put, List.setIfInBounds_toArray, List.set_cons_zero, List.set_cons_succ]
          refine wpAnyH_take (i := 6) (v := ?_) rfl (by kernel_rfl) (by kernel_rfl) (by kernel_rfl) (fun _ _ _ h => h) (Or.inl ⟨by rfl, ?_⟩) (by assumption) ?_
          case refine_2 => (intro w hSw; (try dsimp only at hSw); go_simp; first | done | (with_reducible rfl))
          show wpAnyH _ _ _ _ _ _ _ (Act.put _ (some 74) _) _
          simp only [Act.put, List.setIfInBounds_toArray, List.set_cons_zero, List.set_cons_succ]
          refine wpAnyH_take (i := 7) (v := ?_) rfl (by kernel_rfl) (by kernel_rfl) (by kernel_rfl) (fun _ _ _ h => h) (Or.inl ⟨by rfl, ?_⟩) (by assumption) ?_
          case refine_2 => (intro w hSw; (try dsimp only at hSw); go_simp; first | done | (with_reducible rfl))
          show wpAnyH _ _ _ _ _ _ _ (Act.put _ (some 75) _) _
          simp only [Act.put, List.setIfInBounds_toArray, List.set_cons_zero, List.set_cons_succ]
          refine wpAnyH_take (i := 8) (v := ?_) rfl (by kernel_rfl) (by kernel_rfl) (by kernel_rfl) (fun _ _ _ h => h) (Or.inl ⟨by rfl, ?_⟩) (by assumption) ?_
          case refine_2 => (intro w hSw; (try dsimp only at hSw); go_simp; first | done | (with_reducible rfl))
          show wpAnyH _ _ _ _ _ _ _ (Act.put _ (some 76) _) _
          simp only [Act.put, List.setIfInBounds_toArray, List.set_cons_zero, List.set_cons_succ]
          refine wpAnyH_take (i := 9) (v := ?_) rfl (by kernel_rfl) (by kernel_rfl) (by kernel_rfl) (fun _ _ _ h => h) (Or.inl ⟨by rfl, ?_⟩) (by assumption) ?_
          case refine_2 => (intro w hSw; (try dsimp only at hSw); go_simp; first | done | (with_reducible rfl))
          show wpAnyH _ _ _ _ _ _ _ (Act.put _ (some 77) _) _
          simp only [Act.put, List.setIfInBounds_toArray, List.set_cons_zero, List.set_cons_succ]
          refine wpAnyH_take (i := 10) (v := ?_) rfl (by kernel_rfl) (by kernel_rfl) (by kernel_rfl) (fun _ _ _ h => h) (Or.inl ⟨by rfl, ?_⟩) (by assumption) ?_
          case refine_2 => (intro w hSw; (try dsimp only at hSw); go_simp; first | done | (with_reducible rfl))
          show wpAnyH _ _ _ _ _ _ _ (Act.put _ (some 78) _) _
          simp only [Act.put, List.setIfInBounds_toArray, List.set_cons_zero, List.set_cons_succ]
          refine wpAnyH_take (i := 11) (v := ?_) rfl (by kernel_rfl) (by kernel_rfl) (by kernel_rfl) (fun _ _ _ h => h) (Or.inl ⟨by rfl, ?_⟩) (by assumption) ?_
          case refine_2 => (intro w5 hSw; (try dsimp only at hSw); have hl := HLK2.out w5 hSw.1; go_simp; first | done | (with_reducible rfl))
          show wpAnyH _ _ _ _ _ _ _ (Act.put _ (some 79) _) _
          simp only [Act.put, List.setIfInBounds_toArray, List.set_cons_zero, List.set_cons_succ]
          refine wpAnyH_take (i := 12) (v := ?_) rfl (by kernel_rfl) (by kernel_rfl) (by kernel_rfl) (fun _ _ _ h => h) (Or.inl ⟨by rfl, ?_⟩) (by assumption) ?_
          case refine_2 => (intro w hSw; (try dsimp only at hSw); go_simp; first | done | (with_reducible rfl))
          show wpAnyH _ _ _ _ _ _ _ (Act.put _ (some 80) _) _
          simp only [Act.put, List.setIfInBounds_toArray, List.set_cons_zero, List.set_cons_succ]
          refine wpAnyH_ready (rs := [13]) (by kernel_rfl) (by simp) ?_
          refine (AllReadyH.cons rfl (fun K hK => ?_) AllReadyH.nil)
          go_simp
          refine hK.out _ _ ?_ (fun hHeld => ?_)
          · (exact ⟨hHeld.1.trans HG9.out, HG9.out.cellOf hHeld.2.1 e5 e5, HG9.out.cellOf hHeld.2.2 e6 e6⟩)
          clear hK K
          try simp only [Act.put, List.setIfInBounds_toArray, List.set_cons_zero, List.set_cons_succ]
          refine wpAnyH_done (by kernel_rfl) ?_ _
          clear hHeld
          have hb9 : But mt mt wr w9 := (But.of_below (Below.refl _ _).drew).trans HG9.out
          have HB9 : Hid (But mt mt w1 w9) := HBR.out.trans hb9
          have hf9 : FMAt w9 q mp mt A T ⟨(meetF m n).has, (meetF m n).is, doneT (j + 1) m.tmp n.tmp⟩ := by
            have h := HP9.out
            rw [HXT.out, HZT.out, doneT_step] at h
            exact ⟨hb9.cellOf HFR.out.c0 e5 e5, hb9.cellOf HFR.out.c1 e5 e5, HFR.out.pm.of_block (hb9.block mp HFR.out.pm.lt HFR.out.n3 HFR.out.n3), h, HFR.out.n1, HFR.out.n2, HFR.out.n3⟩
          have HF9 : Hid (FMAt w9 q mp mt A T ⟨(meetF m n).has, (meetF m n).is, doneT (j + 1) m.tmp n.tmp⟩) := hf9
          have u1 := hf9.c1
          have hl9 : (Instr.lookup 98 (.map (some mt)) (.int .i64 (j : Int)) false).run Tryz.prog w9 = .ok (.int .u64 (bn (xt &&& zt))) w9 := by
            have h := TMap.look HP9.out hwf
            have f1 : updT (doneT j m.tmp n.tmp) j (xt &&& zt) (j : Int) = xt &&& zt := by unfold updT; rw [if_pos rfl]
            rw [f1] at h
            exact h
          clear hb9 hf9 hrun hlk x0 x1
          rcases Bool.eq_false_or_eq_true c with hc | hc
          · subst hc
            go_wp2
            have hgk := HGK.out
            go_roundg (gk - 1)
            case measure => omega
            case rel => exact ⟨j + 1, true, by go_num, rfl, by omega, by omega, HF9.out, HB9.out, HWP.out.step (by simp)⟩
          · subst hc
            go_wp2
            have hgk := HGK.out
            go_roundg (gk - 1)
            case measure => omega
            case rel => exact ⟨j + 1, z, by go_num, rfl, by omega, by omega, HF9.out, HB9.out, HWP.out.step (by rw [HZ.out]; simp)⟩
        · obtain rfl : j = B.length := by omega
          have hjz : ¬ (B.length : Int) < (B.length : Int) := by omega
          go_wp2
          go_ret
          refine ⟨c, rfl, HWP.out, ?_, but_r HBW.out HBR.out⟩
          have h := HFR.out
          rw [doneT_all (fun t ht => ok_tmp HOK.out ht)] at h
          exact h
end Go.Proofs.YtdbjklngnloibabGreat.form
