/- The facts that two have (world.meet). -/
import Derived.Test.YtcmnmogmdhofcaaGreatF17

namespace Go.Proofs.YtcmnmogmdhofcaaGreat.form
open Go.RowKit Go.Maps
set_option linter.unusedVariables false
set_option maxRecDepth 100000
attribute [local go_sem ↓] Go.wp_at_zero Go.wp_at_succ

theorem neqKnown (w : World) (a b c d : Int) : (binOp .neq 89 (.agg #[.int .u64 a, .int .u64 b]) (.agg #[.int .u64 c, .int .u64 d])).run Tryz.prog w = .ok (.bool (!((a == c) && (b == d)))) w := by
  have hu := Tryz.underlying89
  have h3 : Tryz.prog.underlying 83 = some (.int .u64) := Tryz.underlying83
  rw [run_neq_struct, run_equalIn_agg w 9999 89 _ _ (by kernel_rfl) (by kernel_rfl)]
  simp [go_sem, Program.fieldsOf, hu]
  by_cases e1 : a = c <;> by_cases e2 : b = d <;> simp [e1, e2]
theorem bn_iff (x y : Bits) : (bn x == bn y) = true ↔ x = y := by
  rw [beq_iff_eq]
  unfold bn
  constructor
  · intro h
    exact BitVec.eq_of_toNat_eq (by omega)
  · intro h; rw [h]

open Classical in
noncomputable def doneM (A : List LPlace) (j : Nat) (f g : LPlace → Bits) : LPlace → Bits := fun p => if p ∈ A.take j then f p &&& g p else f p
section
variable {A : List LPlace} {j : Nat} {f g : LPlace → Bits}
theorem doneM_zero : doneM A 0 f g = f := by
  funext p
  simp [doneM]
theorem doneM_here (hnd : A.Nodup) (hj : j < A.length) : doneM A j f g (A.getD j .zero) = f (A.getD j .zero) := by
  unfold doneM
  rw [if_neg]
  have e : A.getD j .zero = A[j] := by simp [List.getD, hj]
  rw [e, List.mem_iff_getElem]
  rintro ⟨k, hk, h⟩
  rw [List.getElem_take] at h
  have hk2 : k < j := by simp at hk; omega
  have := (List.getElem_inj (h₀ := by omega) (h₁ := hj) hnd).1 h
  omega
theorem take_one (hj : j < A.length) : A.take (j + 1) = A.take j ++ [A.getD j .zero] := by rw [List.take_succ_eq_append_getElem hj]; simp [List.getD, hj]
theorem doneM_step (hj : j < A.length) : updP (doneM A j f g) (A.getD j .zero) (f (A.getD j .zero) &&& g (A.getD j .zero)) = doneM A (j + 1) f g := by
  funext u
  unfold updP doneM
  rw [take_one hj]
  by_cases h : samePl u (A.getD j .zero) = true
  · rw [if_pos h]
    have := samePl_eq h
    rw [if_pos (by rw [this]; simp), this]
  · rw [if_neg h]
    have hne : u ≠ A.getD j .zero := fun e2 => h (by rw [e2]; exact samePl_self _)
    by_cases h2 : u ∈ A.take j
    · rw [if_pos h2, if_pos (by simp [h2])]
    · rw [if_neg h2, if_neg]
      rw [List.mem_append]
      rintro (h3 | h3)
      · exact h2 h3
      · exact hne (by simpa using h3)
theorem doneM_all (h : ∀ p, ¬ p ∈ A → f p = 0) : doneM A A.length f g = fun p => f p &&& g p := by
  funext p
  unfold doneM
  rw [List.take_length]
  by_cases hp : p ∈ A
  · rw [if_pos hp]
  · rw [if_neg hp, h p hp]; simp
end
def doneT (j : Nat) (f g : Int → Bits) : Int → Bits := fun t => if 0 ≤ t ∧ t < j then f t &&& g t else f t
theorem doneT_zero {f g : Int → Bits} : doneT 0 f g = f := by
  funext t
  unfold doneT
  rw [if_neg (by omega)]
theorem doneT_here {j : Nat} {f g : Int → Bits} : doneT j f g j = f j := by
  unfold doneT
  rw [if_neg (by omega)]
theorem doneT_step {j : Nat} {f g : Int → Bits} : updT (doneT j f g) j (f j &&& g j) = doneT (j + 1) f g := by
  funext t
  unfold updT doneT
  by_cases h : t = j
  · rw [if_pos h, if_pos (by omega), h]
  · rw [if_neg h]
    by_cases h2 : 0 ≤ t ∧ t < j
    · rw [if_pos h2, if_pos (by omega)]
    · rw [if_neg h2, if_neg (by omega)]
theorem doneT_all {j : Nat} {f g : Int → Bits} (h : ∀ t : Int, ¬ (0 ≤ t ∧ t < j) → f t = 0) : doneT j f g = fun t => f t &&& g t := by
  funext t
  unfold doneT
  by_cases h2 : 0 ≤ t ∧ t < (j : Int)
  · rw [if_pos h2]
  · rw [if_neg h2, h t h2]; simp

def WentP (A : List LPlace) (m n : FM) (j : Nat) (c : Bool) : Prop := c = true ↔ ∃ p, p ∈ A.take j ∧ (¬ (m.has p &&& n.has p) = m.has p ∨ ¬ (m.is p &&& n.is p) = m.is p)
def WentT (A : List LPlace) (m n : FM) (t : Nat) (c : Bool) : Prop := c = true ↔ (∃ p, p ∈ A ∧ (¬ (m.has p &&& n.has p) = m.has p ∨ ¬ (m.is p &&& n.is p) = m.is p)) ∨ ∃ u : Nat, u < t ∧ ¬ (m.tmp u &&& n.tmp u) = m.tmp u
theorem WentP.step {A : List LPlace} {m n : FM} {j : Nat} {c c' : Bool} (h : WentP A m n j c) (hj : j < A.length) (hc : c' = true ↔ c = true ∨ (¬ (m.has (A.getD j .zero) &&& n.has (A.getD j .zero)) = m.has (A.getD j .zero) ∨ ¬ (m.is (A.getD j .zero) &&& n.is (A.getD j .zero)) = m.is (A.getD j .zero))) : WentP A m n (j + 1) c' := by
  unfold WentP at h ⊢
  rw [hc, h, take_one hj]
  constructor
  · rintro (⟨p, h1, h2⟩ | h2)
    · exact ⟨p, by simp [h1], h2⟩
    · exact ⟨_, by simp, h2⟩
  · rintro ⟨p, h1, h2⟩
    rcases List.mem_append.1 h1 with h3 | h3
    · exact Or.inl ⟨p, h3, h2⟩
    · have : p = A.getD j .zero := by simpa using h3
      rw [this] at h2
      exact Or.inr h2
theorem WentT.step {A : List LPlace} {m n : FM} {t : Nat} {c c' : Bool} (h : WentT A m n t c) (hc : c' = true ↔ c = true ∨ ¬ (m.tmp t &&& n.tmp t) = m.tmp t) : WentT A m n (t + 1) c' := by
  unfold WentT at h ⊢
  rw [hc, h]
  constructor
  · rintro ((h1 | ⟨u, h1, h2⟩) | h2)
    · exact Or.inl h1
    · exact Or.inr ⟨u, by omega, h2⟩
    · exact Or.inr ⟨t, by omega, h2⟩
  · rintro (h1 | ⟨u, h1, h2⟩)
    · exact Or.inl (Or.inl h1)
    · by_cases e : u = t
      · subst e; exact Or.inr h2
      · exact Or.inl (Or.inr ⟨u, by omega, h2⟩)
theorem WentP.all {A : List LPlace} {m n : FM} {c : Bool} (h : WentP A m n A.length c) : WentT A m n 0 c := by
  unfold WentP at h
  unfold WentT
  rw [h, List.take_length]
  constructor
  · exact fun h => Or.inl h
  · rintro (h | ⟨u, hu, _⟩)
    · exact h
    · omega
theorem meetRound {w7 w9 : World} {q mp mt : Nat} {A : List LPlace} {T : List Int} {j : Nat} {m n : FM} {tm : Int → Bits} {a : LPlace} {xh yi zh zi : Bits} (hF : FMAt w7 q mp mt A T ⟨doneM A j m.has n.has, doneM A j m.is n.is, tm⟩) (hb : But mp mp w7 w9) (hp : PMap w9 mp A (updP (doneM A j m.has n.has) a (xh &&& zh)) (updP (doneM A j m.is n.is) a (yi &&& zi))) (hj : j < A.length) (ha : a = A.getD j .zero) (hx : xh = m.has a) (hy : yi = m.is a) (hzh : zh = n.has a) (hzi : zi = n.is a) : FMAt w9 q mp mt A T ⟨doneM A (j + 1) m.has n.has, doneM A (j + 1) m.is n.is, tm⟩ := by
  refine ⟨hb.cellOf hF.c0 hF.n1 hF.n1, hb.cellOf hF.c1 hF.n1 hF.n1, ?_, hF.tm.of_block (hb.block mt hF.tm.lt (Ne.symm hF.n3) (Ne.symm hF.n3)), hF.n1, hF.n2, hF.n3⟩
  have e1 : updP (doneM A j m.has n.has) a (xh &&& zh) = doneM A (j + 1) m.has n.has := by rw [hx, hzh, ha]; exact doneM_step hj
  have e2 : updP (doneM A j m.is n.is) a (yi &&& zi) = doneM A (j + 1) m.is n.is := by rw [hy, hzi, ha]; exact doneM_step hj
  rw [e1, e2] at hp
  exact hp

theorem wentZ {A : List LPlace} {m n : FM} {j : Nat} {a : LPlace} {xh yi zh zi : Bits} {z : Bool} (hz : z = (!((bn (xh &&& zh) == bn xh) && (bn (yi &&& zi) == bn yi)))) (ha : a = A.getD j .zero) (hx : xh = m.has a) (hy : yi = m.is a) (hzh : zh = n.has a) (hzi : zi = n.is a) :
    z = true ↔ (¬ (m.has (A.getD j .zero) &&& n.has (A.getD j .zero)) = m.has (A.getD j .zero) ∨ ¬ (m.is (A.getD j .zero) &&& n.is (A.getD j .zero)) = m.is (A.getD j .zero)) := by
  rw [← ha, ← hx, ← hy, ← hzh, ← hzi, ← bn_iff, ← bn_iff, hz]
  cases (bn (xh &&& zh) == bn xh) <;> cases (bn (yi &&& zi) == bn yi) <;> simp
theorem wentU {m n : FM} {j : Nat} {xt zt : Bits} {z : Bool} (hz : z = (bn (xt &&& zt) != bn xt)) (hx : xt = m.tmp j) (hy : zt = n.tmp j) : z = true ↔ ¬ (m.tmp j &&& n.tmp j) = m.tmp j := by
  rw [← hx, ← hy, ← bn_iff, hz]
  unfold bne
  cases (bn (xt &&& zt) == bn xt) <;> simp
theorem ok_has {B : List Bool} {s slots : Int} {N : List Int} {m : FM} (h : FmOk B s slots N m) {p : LPlace} (hp : ¬ isB s slots p = true) : m.has p = 0 := Classical.byContradiction fun e => by
  obtain ⟨k, hk⟩ := bits_ne.1 e
  exact hp (h.has p k hk).1
theorem ok_is {B : List Bool} {s slots : Int} {N : List Int} {m : FM} (h : FmOk B s slots N m) {p : LPlace} (hp : ¬ isB s slots p = true) : m.is p = 0 := Classical.byContradiction fun e => by
  obtain ⟨k, hk⟩ := bits_ne.1 e
  exact hp (h.is p k hk).1
theorem ok_tmp {B : List Bool} {s slots : Int} {N : List Int} {m : FM} (h : FmOk B s slots N m) {t : Int} (ht : ¬ (0 ≤ t ∧ t < (B.length : Int))) : m.tmp t = 0 := Classical.byContradiction fun e => by
  obtain ⟨k, hk⟩ := bits_ne.1 e
  have := h.tmp t k hk
  exact ht ⟨this.1, this.2.1⟩
theorem but_l {x y : Nat} {w w' : World} (h : But x x w w') : But x y w w' := ⟨h.os, h.tape, h.output, h.size, fun k hk h1 _ => h.block k hk h1 h1⟩
theorem but_r {x y : Nat} {w w1 w' : World} (h : But x y w w1) (h2 : But y y w1 w') : But x y w w' := h.trans ⟨h2.os, h2.tape, h2.output, h2.size, fun k hk _ h1 => h2.block k hk h1 h1⟩

def MeetAns (A : List LPlace) (m n : FM) (nB q mp mt : Nat) (T : List Int) (w : World) (e : Ending) (w' : World) : Prop := ∃ c, e = .returned (.bool c) ∧ WentT A m n nB c ∧ FMAt w' q mp mt A T (meetF m n) ∧ But mp mt w w'

set_option maxHeartbeats 1600000 in
theorem meetW {w : World} {lim : Nat} {g : WB} {B : List Bool} {C : List LIns} {R : List LRow} {A : List LPlace} {N : List Int} {s slots : Nat} (hW : WorldAt w lim g B C R A N) (hD : Dims B C s slots A N) (hnd : A.Nodup) (q mp mt q2 mp2 mt2 : Nat) (T : List Int) (hT : ∀ t, t ∈ T ↔ 0 ≤ t ∧ t < B.length) (hTl : T.length ≤ 12) (m n : FM) (hF : FMAt w q mp mt A T m) (hG : FMAt w q2 mp2 mt2 A T n) (hmp : lim ≤ mp) (hmt : lim ≤ mt) (d1 : q2 ≠ mp ∧ q2 ≠ mt) (d2 : mp2 ≠ mp ∧ mp2 ≠ mt) (d3 : mt2 ≠ mp ∧ mt2 ≠ mt) (hok : FmOk B s slots N m) :
    Calls Tryz.prog 73 #[.pointer (some ⟨g.q, 0, none⟩), .pointer (some ⟨q, 0, none⟩), .pointer (some ⟨q2, 0, none⟩)] w fun e w' => MeetAns A m n B.length q mp mt T w e w' := by
  have hb12 := hD.b12
  have HW : Hid (WorldAt w lim g B C R A N) := hW
  have HD : Hid (Dims B C s slots A N) := hD
  have HF : Hid (FMAt w q mp mt A T m) := hF
  have HG : Hid (FMAt w q2 mp2 mt2 A T n) := hG
  have HOK : Hid (FmOk B s slots N m) := hok
  have HND : Hid (A.Nodup) := hnd
  have HT : Hid (∀ t, t ∈ T ↔ 0 ≤ t ∧ t < B.length) := hT
  have hlm := hF.lt
  have hle := hW.le
  have y3 := hW.stat.p3
  have hgq := cell_lt y3
  have ha36 : (A.length : Int) ≤ 36 := by have := hD.a36; omega
  clear hW hD hF hG hok hnd hT
  go_enter Tryz.func73, Tryz.ntmps73
  go_wp2
  go_loopg [7, 9, 10, 18] (A.length + 1) (fun gg v7 v9 v10 v wr => ∃ (j : Nat) (c : Bool), v = .int .i64 j ∧ v7 = .bool c ∧ j ≤ A.length ∧ gg = A.length + 1 - j ∧ FMAt wr q mp mt A T ⟨doneM A j m.has n.has, doneM A j m.is n.is, m.tmp⟩ ∧ But mp mp w wr ∧ WentP A m n j c)
  case atStart => exact ⟨0, false, rfl, rfl, by omega, by omega, by rw [doneM_zero, doneM_zero]; exact HF.out, But.of_below (Below.refl _ _), by unfold WentP; simp⟩
  case round =>
    obtain ⟨j, c, rfl, rfl, hj, hgk, hfr, hbr, hwp⟩ := hrel
    have HGK : Hid (gk = A.length + 1 - j) := hgk
    have HFR : Hid (FMAt wr q mp mt A T ⟨doneM A j m.has n.has, doneM A j m.is n.is, m.tmp⟩) := hfr
    have HBR : Hid (But mp mp w wr) := hbr
    have HWP : Hid (WentP A m n j c) := hwp
    have HWR : Hid (WorldAt wr lim g B C R A N) := HW.out.but hbr hmp hmp
    have HGR : Hid (FMAt wr q2 mp2 mt2 A T n) := HG.out.but hbr ⟨d1.1, d1.1⟩ ⟨d2.1, d2.1⟩ ⟨d3.1, d3.1⟩
    have e0 : q ≠ mp := hfr.n1
    have hwr := hfr.lt
    clear hgk hfr hbr hwp
    by_cases hjl : j < A.length
    · have hjz : (j : Int) < (A.length : Int) := by omega
      obtain ⟨a, ha⟩ : ∃ a, a = A.getD j .zero := ⟨_, rfl⟩
      obtain ⟨y0, y1⟩ := HWR.out.stat.plc j hjl
      rw [← ha] at y0 y1
      have hbl := cell_lt y0
      have ham : a ∈ A := by rw [ha]; simp [List.getD, hjl]
      have hwf : PlWf a := HD.out.wf ((HD.out.all _).1 ham)
      have HWF : Hid (PlWf a) := hwf
      have HAM : Hid (a ∈ A) := ham
      have HA : Hid (a = A.getD j .zero) := ha
      clear ha ham
      obtain ⟨xh, hxh⟩ : ∃ x, x = m.has a := ⟨_, rfl⟩
      obtain ⟨yi, hyi⟩ : ∃ x, x = m.is a := ⟨_, rfl⟩
      obtain ⟨zh, hzh⟩ : ∃ x, x = n.has a := ⟨_, rfl⟩
      obtain ⟨zi, hzi⟩ : ∃ x, x = n.is a := ⟨_, rfl⟩
      have HXH : Hid (xh = m.has a) := hxh
      have HYI : Hid (yi = m.is a) := hyi
      have HZH : Hid (zh = n.has a) := hzh
      have HZI : Hid (zi = n.is a) := hzi
      have hhe : doneM A j m.has n.has a = xh := by rw [HA.out, doneM_here HND.out hjl, hxh, HA.out]
      have hhi : doneM A j m.is n.is a = yi := by rw [HA.out, doneM_here HND.out hjl, hyi, HA.out]
      have HHE : Hid (doneM A j m.has n.has a = xh) := hhe
      have HHI : Hid (doneM A j m.is n.is a = yi) := hhi
      clear hxh hyi hzh hzi hwf hhe hhi
      go_upto_region 5 with fail
      obtain ⟨wx, hwx⟩ : ∃ wx, wx = wr.alloc (.cells #[.int .i64 a.kind, .int .i64 a.n] 51) := ⟨_, rfl⟩
      have hbx : Below wr.heap.size wr wx := by rw [hwx]; exact (Below.refl _ _).alloc (Nat.le_refl _) _
      have x1 : wx.cell? ⟨wr.heap.size, 0, none⟩ = some (.int .i64 a.kind) := by rw [hwx]; simp [go_sem]
      have x2 : wx.cell? ⟨wr.heap.size, 1, none⟩ = some (.int .i64 a.n) := by rw [hwx]; simp [go_sem]
      have hzx : wx.heap.size = wr.heap.size + 1 := by rw [hwx]; simp
      have hfx := HFR.out.below hbx
      have x0 : wx.cell? ⟨q, 0, none⟩ = some (.map (some mp)) := hfx.c0
      have HLK : Hid (∀ w5, Below wx.heap.size wx w5 → (Instr.lookup 84 (.map (some mp)) (.agg #[.int .i64 a.kind, .int .i64 a.n]) false).run Tryz.prog w5 = .ok (.agg #[.int .u64 (bn xh), .int .u64 (bn yi)]) w5) := fun w5 hb => by
        have h := PMap.look (hfx.pm.below hb) HWF.out
        simp only [HHE.out, HHI.out] at h
        exact h
      have HBX : Hid (Below wr.heap.size wr wx) := hbx
      have HZX : Hid (wx.heap.size = wr.heap.size + 1) := hzx
      rw [← hwx]
      clear hwx hbx hzx hfx y0 y1
      refine wp_region_held_drew (S := (fun w' => Below wx.heap.size wx w' ∧ w'.cell? ⟨q, 0, none⟩ = some (.map (some mp)) ∧ w'.cell? ⟨wr.heap.size, 0, none⟩ = some (.int .i64 a.kind) ∧ w'.cell? ⟨wr.heap.size, 1, none⟩ = some (.int .i64 a.n))) (by rfl) ?_ (fun hHeld => ?_)
      · (exact ⟨(Below.refl _ _).drew, x0, x1, x2⟩)
      refine wpAnyH_take (i := 0) (v := ?_) rfl (by kernel_rfl) (by kernel_rfl) (by kernel_rfl) (fun _ _ _ h => h) (Or.inl ⟨by rfl, ?_⟩) (by assumption) ?_
      case refine_2 => (intro w hSw; (try dsimp only at hSw); go_simp; first | done | (with_reducible rfl))
      show wpAnyH _ _ _ _ _ _ _ (Act.put _ (some 22) _) _
      simp only [Act.put, List.setIfInBounds_toArray, List.set_cons_zero, List.set_cons_succ]
      refine wpAnyH_take (i := 1) (v := ?_) rfl (by kernel_rfl) (by kernel_rfl) (by kernel_rfl) (fun _ _ _ h => h) (Or.inl ⟨by rfl, ?_⟩) (by assumption) ?_
      case refine_2 => (intro w hSw; (try dsimp only at hSw); go_simp; first | done | (with_reducible rfl))
      show wpAnyH _ _ _ _ _ _ _ (Act.put _ (some 23) _) _
      simp only [Act.put, List.setIfInBounds_toArray, List.set_cons_zero, List.set_cons_succ]
      refine wpAnyH_take (i := 2) (v := ?_) rfl (by kernel_rfl) (by kernel_rfl) (by kernel_rfl) (fun _ _ _ h => h) (Or.inl ⟨by rfl, ?_⟩) (by assumption) ?_
      case refine_2 => (intro w hSw; (try dsimp only at hSw); go_simp; first | done | (with_reducible rfl))
      show wpAnyH _ _ _ _ _ _ _ (Act.put _ (some 24) _) _
      simp only [Act.put, List.setIfInBounds_toArray, List.set_cons_zero, List.set_cons_succ]
      refine wpAnyH_take (i := 3) (v := ?_) rfl (by kernel_rfl) (by kernel_rfl) (by kernel_rfl) (fun _ _ _ h => h) (Or.inl ⟨by rfl, ?_⟩) (by assumption) ?_
      case refine_2 => (intro w hSw; (try dsimp only at hSw); go_simp; first | done | (with_reducible rfl))
      show wpAnyH _ _ _ _ _ _ _ (Act.put _ (some 25) _) _
      simp only [Act.put, List.setIfInBounds_toArray, List.set_cons_zero, List.set_cons_succ]
      refine wpAnyH_take (i := 4) (v := ?_) rfl (by kernel_rfl) (by kernel_rfl) (by kernel_rfl) (fun _ _ _ h => h) (Or.inl ⟨by rfl, ?_⟩) (by assumption) ?_
      case refine_2 => (intro w hSw; (try dsimp only at hSw); go_simp; first | done | (with_reducible rfl))
      show wpAnyH _ _ _ _ _ _ _ (Act.put _ (some 26) _) _
      simp only [Act.put, List.setIfInBounds_toArray, List.set_cons_zero, List.set_cons_succ]
      refine wpAnyH_take (i := 5) (v := ?_) rfl (by kernel_rfl) (by kernel_rfl) (by kernel_rfl) (fun _ _ _ h => h) (Or.inl ⟨by rfl, ?_⟩) (by assumption) ?_
      case refine_2 => (intro w5 hSw; (try dsimp only at hSw); have hl := HLK.out w5 hSw.1; go_simp; first | done | (with_reducible rfl))
      show wpAnyH _ _ _ _ _ _ _ (Act.put _ (some 27) _) _
      simp only [Act.put, List.setIfInBounds_toArray, List.set_cons_zero, List.set_cons_succ]
      refine wpAnyH_ready (rs := [6]) (by kernel_rfl) (by simp) ?_
      refine (AllReadyH.cons rfl (fun K hK => ?_) AllReadyH.nil)
      have h8 := hHeld
      go_simp
      refine hK.out _ _ ?_ (fun hHeld => ?_)
      · (exact ⟨step_below ((Below.refl _ _).alloc (Nat.le_refl _) _) hHeld.1, step_cell ((Below.refl _ _).alloc (Nat.le_refl _) _) hHeld.2.1, step_cell ((Below.refl _ _).alloc (Nat.le_refl _) _) hHeld.2.2.1, step_cell ((Below.refl _ _).alloc (Nat.le_refl _) _) hHeld.2.2.2⟩)
      clear hK K
      try simp only [Act.put, List.setIfInBounds_toArray, List.set_cons_zero, List.set_cons_succ]
      refine wpAnyH_ready (rs := [7]) (by kernel_rfl) (by simp) ?_
      refine (AllReadyH.cons rfl (fun K hK => ?_) AllReadyH.nil)
      go_simp
      refine hK.out _ _ ?_ (fun hHeld => ?_)
      · (exact ⟨step_below ((Below.refl _ _).alloc (Nat.le_refl _) _) h8.1, step_cell ((Below.refl _ _).alloc (Nat.le_refl _) _) h8.2.1, step_cell ((Below.refl _ _).alloc (Nat.le_refl _) _) h8.2.2.1, step_cell ((Below.refl _ _).alloc (Nat.le_refl _) _) h8.2.2.2⟩)
      clear hK K
      try simp only [Act.put, List.setIfInBounds_toArray, List.set_cons_zero, List.set_cons_succ]
      refine wpAnyH_done (by kernel_rfl) ?_ _
      clear hHeld
      obtain ⟨wy, hwy⟩ : ∃ wy, wy = (wx.alloc (.cells #[.int .u64 (bn xh), .int .u64 (bn yi)] 89)).drew := ⟨_, rfl⟩
      have hbxy : Below wx.heap.size wx wy := by rw [hwy]; exact ((Below.refl _ _).alloc (Nat.le_refl _) _).drew
      have v3 : wy.cell? ⟨wx.heap.size, 0, none⟩ = some (.int .u64 (bn xh)) := by rw [hwy]; simp [go_sem]
      have v4 : wy.cell? ⟨wx.heap.size, 1, none⟩ = some (.int .u64 (bn yi)) := by rw [hwy]; simp [go_sem]
      rw [← hwy]
      clear hwy
      have v0 := step_cell hbxy x0
      have v1 := step_cell hbxy x1
      have v2 := step_cell hbxy x2
      have HBY : Hid (Below wr.heap.size wr wy) := step_below hbxy HBX.out
      have HGY : Hid (FMAt wy q2 mp2 mt2 A T n) := HGR.out.below HBY.out
      have v5 := HGY.out.c0
      have e1 : wr.heap.size ≠ mp := by omega
      have e2 : wx.heap.size ≠ mp := by have := HZX.out; omega
      have e4 : q2 ≠ mp := d1.1
      have hn36 : A.length < maxLen := by have := HD.out.a36; unfold maxLen; omega
      have HLK2 : Hid (∀ w5, But mp mp wy w5 → (Instr.lookup 84 (.map (some mp2)) (.agg #[.int .i64 a.kind, .int .i64 a.n]) false).run Tryz.prog w5 = .ok (.agg #[.int .u64 (bn zh), .int .u64 (bn zi)]) w5) := fun w5 hb => by
        have h := PMap.look (HGY.out.pm.of_block (hb.block mp2 HGY.out.pm.lt d2.1 d2.1)) HWF.out
        rw [← HZH.out, ← HZI.out] at h
        exact h
      clear x0 x1 x2 hbxy
      go_upto_region 6 with fail
      refine wp_region_held_drew (S := (fun w' => But mp mp wy w' ∧ w'.cell? ⟨q, 0, none⟩ = some (.map (some mp)) ∧ w'.cell? ⟨wr.heap.size, 0, none⟩ = some (.int .i64 a.kind) ∧ w'.cell? ⟨wr.heap.size, 1, none⟩ = some (.int .i64 a.n) ∧ w'.cell? ⟨wx.heap.size, 0, none⟩ = some (.int .u64 (bn xh)) ∧ w'.cell? ⟨wx.heap.size, 1, none⟩ = some (.int .u64 (bn yi)) ∧ w'.cell? ⟨q2, 0, none⟩ = some (.map (some mp2)))) (by rfl) ?_ (fun hHeld => ?_)
      · (exact ⟨But.of_below (Below.refl _ _).drew, v0, v1, v2, v3, v4, v5⟩)
      refine wpAnyH_take (i := 0) (v := ?_) rfl (by kernel_rfl) (by kernel_rfl) (by kernel_rfl) (fun _ _ _ h => h) (Or.inl ⟨by rfl, ?_⟩) (by assumption) ?_
      case refine_2 => (intro w hSw; (try dsimp only at hSw); go_simp; first | done | (with_reducible rfl))
      show wpAnyH _ _ _ _ _ _ _ (Act.put _ (some 28) _) _
      simp only [Act.put, List.setIfInBounds_toArray, List.set_cons_zero, List.set_cons_succ]
      refine wpAnyH_take (i := 1) (v := ?_) rfl (by kernel_rfl) (by kernel_rfl) (by kernel_rfl) (fun _ _ _ h => h) (Or.inl ⟨by rfl, ?_⟩) (by assumption) ?_
      case refine_2 => (intro w hSw; (try dsimp only at hSw); go_simp; first | done | (with_reducible rfl))
      show wpAnyH _ _ _ _ _ _ _ (Act.put _ (some 29) _) _
      simp only [Act.put, List.setIfInBounds_toArray, List.set_cons_zero, List.set_cons_succ]
      refine wpAnyH_take (i := 2) (v := ?_) rfl (by kernel_rfl) (by kernel_rfl) (by kernel_rfl) (fun _ _ _ h => h) (Or.inl ⟨by rfl, ?_⟩) (by assumption) ?_
      case refine_2 => (intro w hSw; (try dsimp only at hSw); go_simp; first | done | (with_reducible rfl))
      show wpAnyH _ _ _ _ _ _ _ (Act.put _ (some 30) _) _
      simp only [Act.put, List.setIfInBounds_toArray, List.set_cons_zero, List.set_cons_succ]
      refine wpAnyH_take (i := 3) (v := ?_) rfl (by kernel_rfl) (by kernel_rfl) (by kernel_rfl) (fun _ _ _ h => h) (Or.inl ⟨by rfl, ?_⟩) (by assumption) ?_
      case refine_2 => (intro w hSw; (try dsimp only at hSw); go_simp; first | done | (with_reducible rfl))
      show wpAnyH _ _ _ _ _ _ _ (Act.put _ (some 31) _) _
      simp only [Act.put, List.setIfInBounds_toArray, List.set_cons_zero, List.set_cons_succ]
      refine wpAnyH_take (i := 4) (v := ?_) rfl (by kernel_rfl) (by kernel_rfl) (by kernel_rfl) (fun _ _ _ h => h) (Or.inl ⟨by rfl, ?_⟩) (by assumption) ?_
      case refine_2 => (intro w hSw; (try dsimp only at hSw); go_simp; first | done | (with_reducible rfl))
      show wpAnyH _ _ _ _ _ _ _ (Act.put _ (some 32) _) _
      simp only [Act.put, List.setIfInBounds_toArray, List.set_cons_zero, List.set_cons_succ]
      refine wpAnyH_take (i := 5) (v := ?_) rfl (by kernel_rfl) (by kernel_rfl) (by kernel_rfl) (fun _ _ _ h => h) (Or.inl ⟨by rfl, ?_⟩) (by assumption) ?_
      case refine_2 => (intro w hSw; (try dsimp only at hSw); go_simp; first | done | (with_reducible rfl))
      show wpAnyH _ _ _ _ _ _ _ (Act.put _ (some 33) _) _
      simp only [Act.put, List.setIfInBounds_toArray, List.set_cons_zero, List.set_cons_succ]
      refine wpAnyH_take (i := 6) (v := ?_) rfl (by kernel_rfl) (by kernel_rfl) (by kernel_rfl) (fun _ _ _ h => h) (Or.inl ⟨by rfl, ?_⟩) (by assumption) ?_
      case refine_2 => (intro w hSw; (try dsimp only at hSw); go_simp; first | done | (with_reducible rfl))
      show wpAnyH _ _ _ _ _ _ _ (Act.put _ (some 34) _) _
      simp only [Act.put, List.setIfInBounds_toArray, List.set_cons_zero, List.set_cons_succ]
      refine wpAnyH_take (i := 7) (v := ?_) rfl (by kernel_rfl) (by kernel_rfl) (by kernel_rfl) (fun _ _ _ h => h) (Or.inl ⟨by rfl, ?_⟩) (by assumption) ?_
      case refine_2 => (intro w hSw; (try dsimp only at hSw); go_simp; first | done | (with_reducible rfl))
      show wpAnyH _ _ _ _ _ _ _ (Act.put _ (some 35) _) _
      simp only [Act.put, List.setIfInBounds_toArray, List.set_cons_zero, List.set_cons_succ]
      refine wpAnyH_take (i := 8) (v := ?_) rfl (by kernel_rfl) (by kernel_rfl) (by kernel_rfl) (fun _ _ _ h => h) (Or.inl ⟨by rfl, ?_⟩) (by assumption) ?_
      case refine_2 => (intro w hSw; (try dsimp only at hSw); go_simp; first | done | (with_reducible rfl))
      show wpAnyH _ _ _ _ _ _ _ (Act.put _ (some 36) _) _
      simp only [Act.put, List.setIfInBounds_toArray, List.set_cons_zero, List.set_cons_succ]
      refine wpAnyH_take (i := 9) (v := ?_) rfl (by kernel_rfl) (by kernel_rfl) (by kernel_rfl) (fun _ _ _ h => h) (Or.inl ⟨by rfl, ?_⟩) (by assumption) ?_
      case refine_2 => (intro w hSw; (try dsimp only at hSw); go_simp; first | done | (with_reducible rfl))
      show wpAnyH _ _ _ _ _ _ _ (Act.put _ (some 37) _) _
      simp only [Act.put, List.setIfInBounds_toArray, List.set_cons_zero, List.set_cons_succ]
      refine wpAnyH_take (i := 10) (v := ?_) rfl (by kernel_rfl) (by kernel_rfl) (by kernel_rfl) (fun _ _ _ h => h) (Or.inl ⟨by rfl, ?_⟩) (by assumption) ?_
      case refine_2 => (intro w hSw; (try dsimp only at hSw); go_simp; first | done | (with_reducible rfl))
      show wpAnyH _ _ _ _ _ _ _ (Act.put _ (some 38) _) _
      simp only [Act.put, List.setIfInBounds_toArray, List.set_cons_zero, List.set_cons_succ]
      refine wpAnyH_take (i := 11) (v := ?_) rfl (by kernel_rfl) (by kernel_rfl) (by kernel_rfl) (fun _ _ _ h => h) (Or.inl ⟨by rfl, ?_⟩) (by assumption) ?_
      case refine_2 => (intro w5 hSw; (try dsimp only at hSw); have hl := HLK2.out w5 hSw.1; go_simp; first | done | (with_reducible rfl))
      show wpAnyH _ _ _ _ _ _ _ (Act.put _ (some 39) _) _
      simp only [Act.put, List.setIfInBounds_toArray, List.set_cons_zero, List.set_cons_succ]
      refine wpAnyH_ready (rs := [12]) (by kernel_rfl) (by simp) ?_
      refine (AllReadyH.cons rfl (fun K hK => ?_) AllReadyH.nil)
      go_simp
      go_at_call 97
      refine (andO xh yi zh zi _).mono ?_
      rintro e w8 ⟨rfl, hbr8⟩
      have HB8 : Hid (Below wy.heap.size wy w8) := step_below hbr8 (Below.refl _ _).drew
      unfold knownV
      go_wp2_with fail
      refine hK.out _ _ ?_ (fun hHeld => ?_)
      · (exact ⟨hHeld.1.trans (But.of_below hbr8), step_cell hbr8 hHeld.2.1, step_cell hbr8 hHeld.2.2.1, step_cell hbr8 hHeld.2.2.2.1, step_cell hbr8 hHeld.2.2.2.2.1, step_cell hbr8 hHeld.2.2.2.2.2.1, step_cell hbr8 hHeld.2.2.2.2.2.2⟩)
      clear hK K
      try simp only [Act.put, List.setIfInBounds_toArray, List.set_cons_zero, List.set_cons_succ]
      clear hbr8
      obtain ⟨w9, hrun, hp9, hg9⟩ := (HFR.out.pm.below (step_below HB8.out HBY.out)).put hn36 HWF.out HAM.out (xh &&& zh) (yi &&& zi)
      unfold LPlace.val knownV at hrun
      have HP9 : Hid (PMap w9 mp A (updP (doneM A j m.has n.has) a (xh &&& zh)) (updP (doneM A j m.is n.is) a (yi &&& zi))) := hp9
      have HG9 : Hid (But mp mp w8 w9) := grown_but hg9
      clear hp9 hg9
      refine wpAnyH_ready (rs := [13]) (by kernel_rfl) (by simp) ?_
      refine (AllReadyH.cons rfl (fun K hK => ?_) AllReadyH.nil)
      go_simp
      refine hK.out _ _ ?_ (fun hHeld => ?_)
      · (exact ⟨hHeld.1.trans HG9.out, HG9.out.cellOf hHeld.2.1 e0 e0, HG9.out.cellOf hHeld.2.2.1 e1 e1, HG9.out.cellOf hHeld.2.2.2.1 e1 e1, HG9.out.cellOf hHeld.2.2.2.2.1 e2 e2, HG9.out.cellOf hHeld.2.2.2.2.2.1 e2 e2, HG9.out.cellOf hHeld.2.2.2.2.2.2 e4 e4⟩)
      clear hK K
      try simp only [Act.put, List.setIfInBounds_toArray, List.set_cons_zero, List.set_cons_succ]
      have u0 := hHeld.2.1
      have u1 := hHeld.2.2.1
      have u2 := hHeld.2.2.2.1
      have u3 := hHeld.2.2.2.2.1
      have u4 := hHeld.2.2.2.2.2.1
      refine wpAnyH_done (by kernel_rfl) ?_ _
      clear hHeld
      have hf9 := meetRound (HFR.out.below (step_below HB8.out HBY.out)) HG9.out HP9.out hjl HA.out HXH.out HYI.out HZH.out HZI.out
      have HF9 : Hid (FMAt w9 q mp mt A T ⟨doneM A (j + 1) m.has n.has, doneM A (j + 1) m.is n.is, m.tmp⟩) := hf9
      have HB9 : Hid (But mp mp w w9) := HBR.out.trans ((But.of_below (step_below HB8.out HBY.out)).trans HG9.out)
      have hl9 : ∀ k, (Instr.lookup 84 (.map (some mp)) (.agg #[.int .i64 a.kind, .int .i64 a.n]) false).run Tryz.prog (w9.drewN k) = .ok (.agg #[.int .u64 (bn (xh &&& zh)), .int .u64 (bn (yi &&& zi))]) (w9.drewN k) := fun k => by
        have h := PMap.look (w := w9.drewN k) (HP9.out.of_block rfl) HWF.out
        have f1 : updP (doneM A j m.has n.has) a (xh &&& zh) a = xh &&& zh := by unfold updP; rw [if_pos (samePl_self a)]
        have f2 : updP (doneM A j m.is n.is) a (yi &&& zi) a = yi &&& zi := by unfold updP; rw [if_pos (samePl_self a)]
        rw [f1, f2] at h
        exact h
      obtain ⟨z, hz⟩ : ∃ z, z = (!((bn (xh &&& zh) == bn xh) && (bn (yi &&& zi) == bn yi))) := ⟨_, rfl⟩
      have hnq := fun w => neqKnown w (bn (xh &&& zh)) (bn (yi &&& zi)) (bn xh) (bn yi)
      simp only [← hz] at hnq
      have HZ : Hid (z = true ↔ (¬ (m.has (A.getD j .zero) &&& n.has (A.getD j .zero)) = m.has (A.getD j .zero) ∨ ¬ (m.is (A.getD j .zero) &&& n.is (A.getD j .zero)) = m.is (A.getD j .zero))) := wentZ hz HA.out HXH.out HYI.out HZH.out HZI.out
      clear hf9 hz hrun v0 v1 v2 v3 v4 v5
      go_upto_region 7 with fail
      rcases Bool.eq_false_or_eq_true c with hc | hc
      · subst hc
        go_big_quiet (fail)
        go_wp2_with fail
        have hgk := HGK.out
        go_roundg (gk - 1)
        case measure => omega
        case rel => exact ⟨j + 1, true, by go_num, rfl, by omega, by omega, HF9.out.below (below_drewN (Below.refl _ _) _), HB9.out.trans (But.of_below (below_drewN (Below.refl _ _) _)), HWP.out.step hjl (by simp)⟩
      · subst hc
        go_big_quiet (fail)
        go_wp2_with fail
        have hgk := HGK.out
        go_roundg (gk - 1)
        case measure => omega
        case rel => exact ⟨j + 1, z, by go_num, rfl, by omega, by omega, HF9.out.below (below_drewN (Below.refl _ _) _), HB9.out.trans (But.of_below (below_drewN (Below.refl _ _) _)), HWP.out.step hjl (by rw [HZ.out]; simp)⟩
    · obtain rfl : j = A.length := by omega
      have hjz : ¬ (A.length : Int) < (A.length : Int) := by omega
      have HF1 : Hid (FMAt wr q mp mt A T ⟨(meetF m n).has, (meetF m n).is, doneT 0 m.tmp n.tmp⟩) := by
        have h := HFR.out
        rw [doneM_all (fun p hp => ok_has HOK.out (fun e => hp ((HD.out.all p).2 e))), doneM_all (fun p hp => ok_is HOK.out (fun e => hp ((HD.out.all p).2 e)))] at h
        rw [doneT_zero]
        exact h
      have HW1 : Hid (WentT A m n 0 c) := HWP.out.all
      have HBW : Hid (But mp mt w wr) := but_l HBR.out
      obtain ⟨w1, hw1⟩ : ∃ w1, w1 = wr := ⟨_, rfl⟩
      rw [← hw1] at HF1 HBW HWR HGR hwr ⊢
      have HGR1 : Hid (FMAt w1 q2 mp2 mt2 A T n) := HGR.out
      have HWR1 : Hid (WorldAt w1 lim g B C R A N) := HWR.out
      clear hw1 HFR HBR HWP HWR HGR HGK
      have y0 := HWR1.out.stat.p0
      have hbz : (B.length : Int) ≤ 12 := by omega
      go_wp2
      go_loopg [7, 11, 12, 59] (B.length + 1) (fun gg v7 v11 v12 v wr => ∃ (j : Nat) (c : Bool), v = .int .i64 j ∧ v7 = .bool c ∧ j ≤ B.length ∧ gg = B.length + 1 - j ∧ FMAt wr q mp mt A T ⟨(meetF m n).has, (meetF m n).is, doneT j m.tmp n.tmp⟩ ∧ But mt mt w1 wr ∧ WentT A m n j c)
      case atStart => exact ⟨0, c, rfl, rfl, by omega, by omega, HF1.out, But.of_below (Below.refl _ _), HW1.out⟩
      case round =>
        clear HF1 HW1
        obtain ⟨j, c, rfl, rfl, hj, hgk, hfr, hbr, hwp⟩ := hrel
        have HGK : Hid (gk = B.length + 1 - j) := hgk
        have HFR : Hid (FMAt wr q mp mt A T ⟨(meetF m n).has, (meetF m n).is, doneT j m.tmp n.tmp⟩) := hfr
        have HBR : Hid (But mt mt w1 wr) := hbr
        have HWP : Hid (WentT A m n j c) := hwp
        have HGR : Hid (FMAt wr q2 mp2 mt2 A T n) := HGR1.out.but hbr ⟨d1.2, d1.2⟩ ⟨d2.2, d2.2⟩ ⟨d3.2, d3.2⟩
        have e5 : q ≠ mt := hfr.n2
        have e6 : q2 ≠ mt := d1.2
        have x0 := hfr.c1
        have x1 := HGR.out.c1
        have hwr2 := hfr.lt
        clear hgk hfr hbr hwp
        by_cases hjl : j < B.length
        · have hjz : (j : Int) < (B.length : Int) := by omega
          obtain ⟨xt, hxt⟩ : ∃ x, x = m.tmp j := ⟨_, rfl⟩
          obtain ⟨zt, hzt⟩ : ∃ x, x = n.tmp j := ⟨_, rfl⟩
          have HXT : Hid (xt = m.tmp j) := hxt
          have HZT : Hid (zt = n.tmp j) := hzt
          have hwf : TWf (j : Int) := ⟨by omega, by omega⟩
          have hjm : (j : Int) ∈ T := (HT.out _).2 ⟨by omega, by omega⟩
          have hlk : (Instr.lookup 85 (.map (some mt)) (.int .i64 (j : Int)) false).run Tryz.prog wr = .ok (.int .u64 (bn xt)) wr := by
            have h := TMap.look HFR.out.tm hwf
            rw [show (⟨(meetF m n).has, (meetF m n).is, doneT j m.tmp n.tmp⟩ : FM).tmp (j : Int) = xt from doneT_here.trans hxt.symm] at h
            exact h
          have HLK2 : Hid (∀ w5, But mt mt wr w5 → (Instr.lookup 85 (.map (some mt2)) (.int .i64 (j : Int)) false).run Tryz.prog w5 = .ok (.int .u64 (bn zt)) w5) := fun w5 hb => by
            have h := TMap.look (HGR.out.tm.of_block (hb.block mt2 HGR.out.tm.lt d3.2 d3.2)) hwf
            rw [← hzt] at h
            exact h
          have hn12 : T.length < maxLen := by unfold maxLen; omega
          obtain ⟨w9, hrun, hp9, hg9⟩ := (HFR.out.tm.of_block (w' := wr.drew) rfl).put hn12 hwf hjm (xt &&& zt)
          have HP9 : Hid (TMap w9 mt T (updT (doneT j m.tmp n.tmp) j (xt &&& zt))) := hp9
          have HG9 : Hid (But mt mt wr.drew w9) := grown_but hg9
          have hand := and_is xt zt
          obtain ⟨z, hz⟩ : ∃ z, z = (bn (xt &&& zt) != bn xt) := ⟨_, rfl⟩
          have hzz : (bn (xt &&& zt) != bn xt) = z := hz.symm
          have HZ : Hid (z = true ↔ ¬ (m.tmp j &&& n.tmp j) = m.tmp j) := wentU hz hxt hzt
          clear hp9 hg9 hxt hzt hz hjm
          go_upto_region 13 with fail
          refine wp_region_held_drew (S := (fun w' => But mt mt wr w' ∧ w'.cell? ⟨q, 1, none⟩ = some (.map (some mt)) ∧ w'.cell? ⟨q2, 1, none⟩ = some (.map (some mt2)))) (by rfl) ?_ (fun hHeld => ?_)
          · (exact ⟨But.of_below (Below.refl _ _).drew, x0, x1⟩)
          refine wpAnyH_take (i := 0) (v := ?_) rfl (by kernel_rfl) (by kernel_rfl) (by kernel_rfl) (fun _ _ _ h => h) (Or.inl ⟨by rfl, ?_⟩) (by assumption) ?_
          case refine_2 => (intro w hSw; (try dsimp only at hSw); go_simp; first | done | (with_reducible rfl))
          show wpAnyH _ _ _ _ _ _ _ (Act.put _ (some 68) _) _
          simp only [Act.put, List.setIfInBounds_toArray, List.set_cons_zero, List.set_cons_succ]
          refine wpAnyH_take (i := 1) (v := ?_) rfl (by kernel_rfl) (by kernel_rfl) (by kernel_rfl) (fun _ _ _ h => h) (Or.inl ⟨by rfl, ?_⟩) (by assumption) ?_
          case refine_2 => (intro w hSw; (try dsimp only at hSw); go_simp; first | done | (with_reducible rfl))
          show wpAnyH _ _ _ _ _ _ _ (Act.put _ (some 69) _) _
          simp only [Act.put, List.setIfInBounds_toArray, List.set_cons_zero, List.set_cons_succ]
          refine wpAnyH_take (i := 2) (v := ?_) rfl (by kernel_rfl) (by kernel_rfl) (by kernel_rfl) (fun _ _ _ h => h) (Or.inl ⟨by rfl, ?_⟩) (by assumption) ?_
          case refine_2 => (intro w hSw; (try dsimp only at hSw); go_simp; first | done | (with_reducible rfl))
          show wpAnyH _ _ _ _ _ _ _ (Act.put _ (some 70) _) _
          simp only [Act.put, List.setIfInBounds_toArray, List.set_cons_zero, List.set_cons_succ]
          refine wpAnyH_take (i := 3) (v := ?_) rfl (by kernel_rfl) (by kernel_rfl) (by kernel_rfl) (fun _ _ _ h => h) (Or.inl ⟨by rfl, ?_⟩) (by assumption) ?_
          case refine_2 => (intro w hSw; (try dsimp only at hSw); go_simp; first | done | (with_reducible rfl))
          show wpAnyH _ _ _ _ _ _ _ (Act.put _ (some 71) _) _
          simp only [Act.put, List.setIfInBounds_toArray, List.set_cons_zero, List.set_cons_succ]
          refine wpAnyH_take (i := 4) (v := ?_) rfl (by kernel_rfl) (by kernel_rfl) (by kernel_rfl) (fun _ _ _ h => h) (Or.inl ⟨by rfl, ?_⟩) (by assumption) ?_
          case refine_2 => (intro w hSw; (try dsimp only at hSw); go_simp; first | done | (with_reducible rfl))
          show wpAnyH _ _ _ _ _ _ _ (Act.put _ (some 72) _) _
          simp only [Act.put, List.setIfInBounds_toArray, List.set_cons_zero, List.set_cons_succ]
          refine wpAnyH_take (i := 5) (v := ?_) rfl (by kernel_rfl) (by kernel_rfl) (by kernel_rfl) (fun _ _ _ h => h) (Or.inl ⟨by rfl, ?_⟩) (by assumption) ?_
          case refine_2 => (intro w hSw; (try dsimp only at hSw); go_simp; first | done | (with_reducible rfl))
          show wpAnyH _ _ _ _ _ _ _ (Act.put _ (some 73) _) _
          simp only [Act.put, List.setIfInBounds_toArray, List.set_cons_zero, List.set_cons_succ]
          refine wpAnyH_take (i := 6) (v := ?_) rfl (by kernel_rfl) (by kernel_rfl) (by kernel_rfl) (fun _ _ _ h => h) (Or.inl ⟨by rfl, ?_⟩) (by assumption) ?_
          case refine_2 => (intro w hSw; (try dsimp only at hSw); go_simp; first | done | (with_reducible rfl))
          show wpAnyH _ _ _ _ _ _ _ (Act.put _ (some 74) _) _
          simp only [Act.put, List.setIfInBounds_toArray, List.set_cons_zero, List.set_cons_succ]
          refine wpAnyH_take (i := 7) (v := ?_) rfl (by kernel_rfl) (by kernel_rfl) (by kernel_rfl) (fun _ _ _ h => h) (Or.inl ⟨by rfl, ?_⟩) (by assumption) ?_
          case refine_2 => (intro w hSw; (try dsimp only at hSw); go_simp; first | done | (with_reducible rfl))
          show wpAnyH _ _ _ _ _ _ _ (Act.put _ (some 75) _) _
          simp only [Act.put, List.setIfInBounds_toArray, List.set_cons_zero, List.set_cons_succ]
          refine wpAnyH_take (i := 8) (v := ?_) rfl (by kernel_rfl) (by kernel_rfl) (by kernel_rfl) (fun _ _ _ h => h) (Or.inl ⟨by rfl, ?_⟩) (by assumption) ?_
          case refine_2 => (intro w hSw; (try dsimp only at hSw); go_simp; first | done | (with_reducible rfl))
          show wpAnyH _ _ _ _ _ _ _ (Act.put _ (some 76) _) _
          simp only [Act.put, List.setIfInBounds_toArray, List.set_cons_zero, List.set_cons_succ]
          refine wpAnyH_take (i := 9) (v := ?_) rfl (by kernel_rfl) (by kernel_rfl) (by kernel_rfl) (fun _ _ _ h => h) (Or.inl ⟨by rfl, ?_⟩) (by assumption) ?_
          case refine_2 => (intro w hSw; (try dsimp only at hSw); go_simp; first | done | (with_reducible rfl))
          show wpAnyH _ _ _ _ _ _ _ (Act.put _ (some 77) _) _
          simp only [Act.put, List.setIfInBounds_toArray, List.set_cons_zero, List.set_cons_succ]
          refine wpAnyH_take (i := 10) (v := ?_) rfl (by kernel_rfl) (by kernel_rfl) (by kernel_rfl) (fun _ _ _ h => h) (Or.inl ⟨by rfl, ?_⟩) (by assumption) ?_
          case refine_2 => (intro w hSw; (try dsimp only at hSw); go_simp; first | done | (with_reducible rfl))
          show wpAnyH _ _ _ _ _ _ _ (Act.put _ (some 78) _) _
          simp only [Act.put, List.setIfInBounds_toArray, List.set_cons_zero, List.set_cons_succ]
          refine wpAnyH_take (i := 11) (v := ?_) rfl (by kernel_rfl) (by kernel_rfl) (by kernel_rfl) (fun _ _ _ h => h) (Or.inl ⟨by rfl, ?_⟩) (by assumption) ?_
          case refine_2 => (intro w5 hSw; (try dsimp only at hSw); have hl := HLK2.out w5 hSw.1; go_simp; first | done | (with_reducible rfl))
          show wpAnyH _ _ _ _ _ _ _ (Act.put _ (some 79) _) _
          simp only [Act.put, List.setIfInBounds_toArray, List.set_cons_zero, List.set_cons_succ]
          refine wpAnyH_take (i := 12) (v := ?_) rfl (by kernel_rfl) (by kernel_rfl) (by kernel_rfl) (fun _ _ _ h => h) (Or.inl ⟨by rfl, ?_⟩) (by assumption) ?_
          case refine_2 => (intro w hSw; (try dsimp only at hSw); go_simp; first | done | (with_reducible rfl))
          show wpAnyH _ _ _ _ _ _ _ (Act.put _ (some 80) _) _
          simp only [Act.put, List.setIfInBounds_toArray, List.set_cons_zero, List.set_cons_succ]
          refine wpAnyH_ready (rs := [13]) (by kernel_rfl) (by simp) ?_
          refine (AllReadyH.cons rfl (fun K hK => ?_) AllReadyH.nil)
          go_simp
          refine hK.out _ _ ?_ (fun hHeld => ?_)
          · (exact ⟨hHeld.1.trans HG9.out, HG9.out.cellOf hHeld.2.1 e5 e5, HG9.out.cellOf hHeld.2.2 e6 e6⟩)
          clear hK K
          try simp only [Act.put, List.setIfInBounds_toArray, List.set_cons_zero, List.set_cons_succ]
          refine wpAnyH_done (by kernel_rfl) ?_ _
          clear hHeld
          have hb9 : But mt mt wr w9 := (But.of_below (Below.refl _ _).drew).trans HG9.out
          have HB9 : Hid (But mt mt w1 w9) := HBR.out.trans hb9
          have hf9 : FMAt w9 q mp mt A T ⟨(meetF m n).has, (meetF m n).is, doneT (j + 1) m.tmp n.tmp⟩ := by
            have h := HP9.out
            rw [HXT.out, HZT.out, doneT_step] at h
            exact ⟨hb9.cellOf HFR.out.c0 e5 e5, hb9.cellOf HFR.out.c1 e5 e5, HFR.out.pm.of_block (hb9.block mp HFR.out.pm.lt HFR.out.n3 HFR.out.n3), h, HFR.out.n1, HFR.out.n2, HFR.out.n3⟩
          have HF9 : Hid (FMAt w9 q mp mt A T ⟨(meetF m n).has, (meetF m n).is, doneT (j + 1) m.tmp n.tmp⟩) := hf9
          have u1 := hf9.c1
          have hl9 : (Instr.lookup 85 (.map (some mt)) (.int .i64 (j : Int)) false).run Tryz.prog w9 = .ok (.int .u64 (bn (xt &&& zt))) w9 := by
            have h := TMap.look HP9.out hwf
            have f1 : updT (doneT j m.tmp n.tmp) j (xt &&& zt) (j : Int) = xt &&& zt := by unfold updT; rw [if_pos rfl]
            rw [f1] at h
            exact h
          clear hb9 hf9 hrun hlk x0 x1
          rcases Bool.eq_false_or_eq_true c with hc | hc
          · subst hc
            go_wp2
            have hgk := HGK.out
            go_roundg (gk - 1)
            case measure => omega
            case rel => exact ⟨j + 1, true, by go_num, rfl, by omega, by omega, HF9.out, HB9.out, HWP.out.step (by simp)⟩
          · subst hc
            go_wp2
            have hgk := HGK.out
            go_roundg (gk - 1)
            case measure => omega
            case rel => exact ⟨j + 1, z, by go_num, rfl, by omega, by omega, HF9.out, HB9.out, HWP.out.step (by rw [HZ.out]; simp)⟩
        · obtain rfl : j = B.length := by omega
          have hjz : ¬ (B.length : Int) < (B.length : Int) := by omega
          go_wp2
          go_ret
          refine ⟨c, rfl, HWP.out, ?_, but_r HBW.out HBR.out⟩
          have h := HFR.out
          rw [doneT_all (fun t ht => ok_tmp HOK.out ht)] at h
          exact h
end Go.Proofs.YtcmnmogmdhofcaaGreat.form

/- The facts of all instructions in memory; what is brought to one (world.bring). -/
namespace Go.Proofs.YtcmnmogmdhofcaaGreat.form
open Go.RowKit Go.Maps
set_option linter.unusedVariables false
set_option maxRecDepth 100000
attribute [local go_sem ↓] Go.wp_at_zero Go.wp_at_succ

def pvO (F : List (Option FM)) (Q : Nat → Nat × Nat × Nat) (k : Nat) : Value := match F.getD k none with
  | none => .pointer none
  | some _ => .pointer (some ⟨(Q k).1, 0, none⟩)

structure AllAt (w : World) (lim ab : Nat) (A : List LPlace) (T : List Int) (F : List (Option FM)) (Q : Nat → Nat × Nat × Nat) : Prop where
  lo : lim ≤ ab
  lt : ab < w.heap.size
  cell : ∀ k, k < F.length → w.cell? ⟨ab, k, none⟩ = some (pvO F Q k)
  free : ∀ k, k < F.length → w.frozen? ⟨ab, k, none⟩ = false
  fm : ∀ k m, F.getD k none = some m → FMAt w (Q k).1 (Q k).2.1 (Q k).2.2 A T m
  ge : ∀ k m, F.getD k none = some m → lim ≤ (Q k).1 ∧ lim ≤ (Q k).2.1 ∧ lim ≤ (Q k).2.2
  na : ∀ k m, F.getD k none = some m → (Q k).1 ≠ ab ∧ (Q k).2.1 ≠ ab ∧ (Q k).2.2 ≠ ab
  dis : ∀ k l m m', k ≠ l → F.getD k none = some m → F.getD l none = some m' → ((Q k).1 ≠ (Q l).2.1 ∧ (Q k).1 ≠ (Q l).2.2) ∧ ((Q k).2.1 ≠ (Q l).2.1 ∧ (Q k).2.1 ≠ (Q l).2.2) ∧ (Q k).2.2 ≠ (Q l).2.1 ∧ (Q k).2.2 ≠ (Q l).2.2

def OffA (ab : Nat) (F : List (Option FM)) (Q : Nat → Nat × Nat × Nat) (b : Nat) : Prop := b ≠ ab ∧ ∀ k m, F.getD k none = some m → b ≠ (Q k).2.1 ∧ b ≠ (Q k).2.2
structure FrA (ab : Nat) (F : List (Option FM)) (Q : Nat → Nat × Nat × Nat) (F' : List (Option FM)) (Q' : Nat → Nat × Nat × Nat) (w w' : World) : Prop where
  os : w'.os = w.os
  tape : w'.tape = w.tape
  output : w'.output = w.output
  size : w.heap.size ≤ w'.heap.size
  block : ∀ b, b < w.heap.size → OffA ab F Q b → w'.heap[b]? = w.heap[b]?
  off : ∀ b, b < w.heap.size → OffA ab F Q b → OffA ab F' Q' b

section
variable {w w' w1 : World} {lim ab : Nat} {A : List LPlace} {T : List Int} {F F' F2 : List (Option FM)} {Q Q' Q2 : Nat → Nat × Nat × Nat}
theorem AllAt.below (h : AllAt w lim ab A T F Q) (hb : Below w.heap.size w w') : AllAt w' lim ab A T F Q :=
  ⟨h.lo, Nat.lt_of_lt_of_le h.lt hb.size, fun k hk => step_cell hb (h.cell k hk), fun k hk => step_frozen hb h.lt (h.free k hk), fun k m hm => (h.fm k m hm).below hb, h.ge, h.na, h.dis⟩
theorem AllAt.offNew (h : AllAt w lim ab A T F Q) {b : Nat} (hb : w.heap.size ≤ b) : OffA ab F Q b :=
  ⟨by have := h.lt; omega, fun k m hm => by have := (h.fm k m hm).lt; omega⟩
theorem AllAt.offOld (h : AllAt w lim ab A T F Q) {b : Nat} (hb : b < lim) : OffA ab F Q b :=
  ⟨by have := h.lo; omega, fun k m hm => by have := h.ge k m hm; omega⟩
theorem FrA.refl : FrA ab F Q F Q w w := ⟨rfl, rfl, rfl, Nat.le_refl _, fun _ _ _ => rfl, fun _ _ h => h⟩
theorem FrA.trans (h : FrA ab F Q F' Q' w w1) (h2 : FrA ab F' Q' F2 Q2 w1 w') : FrA ab F Q F2 Q2 w w' :=
  ⟨h2.os.trans h.os, h2.tape.trans h.tape, h2.output.trans h.output, Nat.le_trans h.size h2.size, fun b hb ho => (h2.block b (Nat.lt_of_lt_of_le hb h.size) (h.off b hb ho)).trans (h.block b hb ho), fun b hb ho => h2.off b (Nat.lt_of_lt_of_le hb h.size) (h.off b hb ho)⟩
theorem FrA.toBelow (h : FrA ab F Q F' Q' w w') (hA : AllAt w lim ab A T F Q) (hl : lim ≤ w.heap.size) : Below lim w w' := ⟨h.os, h.tape, h.output, h.size, fun b hb => h.block b (by omega) (hA.offOld hb)⟩
theorem FrA.cellOf (h : FrA ab F Q F' Q' w w') {b o : Nat} {v : Value} (ho : OffA ab F Q b) (hc : w.cell? ⟨b, o, none⟩ = some v) : w'.cell? ⟨b, o, none⟩ = some v := by
  rw [World.cell?_of_block (w := w) (h.block b (cell_lt hc) ho)]; exact hc
theorem FrA.fmAt (h : FrA ab F Q F' Q' w w') {q mp mt : Nat} {n : FM} (hf : FMAt w q mp mt A T n) (h1 : OffA ab F Q q) (h2 : OffA ab F Q mp) (h3 : OffA ab F Q mt) : FMAt w' q mp mt A T n :=
  ⟨h.cellOf h1 hf.c0, h.cellOf h1 hf.c1, hf.pm.of_block (h.block mp hf.pm.lt h2), hf.tm.of_block (h.block mt hf.tm.lt h3), hf.n1, hf.n2, hf.n3⟩

theorem some_lt {x : Nat} {m : FM} (h : F.getD x none = some m) : x < F.length := Classical.byContradiction fun hno => by
  have : F.getD x none = none := by simp [List.getD, List.getElem?_eq_none (show F.length ≤ x by omega)]
  rw [this] at h; cases h

theorem AllAt.met (h : AllAt w lim ab A T F Q) {x : Nat} {qm m' : FM} (hx : F.getD x none = some qm) (hb : But (Q x).2.1 (Q x).2.2 w w') (hf : FMAt w' (Q x).1 (Q x).2.1 (Q x).2.2 A T m') : AllAt w' lim ab A T (F.set x (some m')) Q ∧ FrA ab F Q (F.set x (some m')) Q w w' := by
  have hxl := some_lt hx
  have hna := h.na x qm hx
  have key : ∀ k m, (F.set x (some m')).getD k none = some m → (k = x ∧ m = m') ∨ (¬ k = x ∧ F.getD k none = some m) := fun k m hk => by
    rw [getD_setO hxl] at hk
    split at hk
    · rename_i e; cases hk; exact Or.inl ⟨e, rfl⟩
    · rename_i e; exact Or.inr ⟨e, hk⟩
  have old : ∀ k m, (F.set x (some m')).getD k none = some m → ∃ m0, F.getD k none = some m0 := fun k m hk => by
    rcases key k m hk with ⟨rfl, _⟩ | ⟨_, h1⟩
    · exact ⟨_, hx⟩
    · exact ⟨_, h1⟩
  have hpv : ∀ k, pvO (F.set x (some m')) Q k = pvO F Q k := fun k => by
    unfold pvO
    rw [getD_setO hxl]
    by_cases e : k = x
    · rw [if_pos e, e, hx]
    · rw [if_neg e]
  refine ⟨⟨h.lo, Nat.lt_of_lt_of_le h.lt hb.size, fun k hk => ?_, fun k hk => ?_, fun k m hk => ?_, fun k m hk => ?_, fun k m hk => ?_, fun k l m m2 hne hk hl => ?_⟩, ⟨hb.os, hb.tape, hb.output, hb.size, fun b hbl ho => hb.block b hbl (ho.2 x qm hx).1 (ho.2 x qm hx).2, fun b hbl ho => ⟨ho.1, fun k m hk => ?_⟩⟩⟩
  · rw [hpv]
    exact hb.cellOf (h.cell k (by simpa using hk)) (Ne.symm hna.2.1) (Ne.symm hna.2.2)
  · rw [World.frozen?_of_block (w := w) (hb.block ab h.lt (Ne.symm hna.2.1) (Ne.symm hna.2.2))]
    exact h.free k (by simpa using hk)
  · rcases key k m hk with ⟨rfl, rfl⟩ | ⟨hne, h1⟩
    · exact hf
    · have d := h.dis k x m qm hne h1 hx
      exact (h.fm k m h1).but hb d.1 d.2.1 d.2.2
  · obtain ⟨m0, hm0⟩ := old k m hk; exact h.ge k m0 hm0
  · obtain ⟨m0, hm0⟩ := old k m hk; exact h.na k m0 hm0
  · obtain ⟨m0, hm0⟩ := old k m hk
    obtain ⟨m1, hm1⟩ := old l m2 hl
    exact h.dis k l m0 m1 hne hm0 hm1
  · obtain ⟨m0, hm0⟩ := old k m hk; exact ho.2 k m0 hm0

theorem AllAt.put (h : AllAt w lim ab A T F Q) (hlim : lim ≤ w.heap.size) {x : Nat} {n : FM} {q mp mt : Nat} (hxl : x < F.length) (hx : F.getD x none = none) (hb : Below w.heap.size w w1) (hf : FMAt w1 q mp mt A T n) (hq : w.heap.size ≤ q) (hp : w.heap.size ≤ mp) (ht : w.heap.size ≤ mt) :
    AllAt (w1.setCell ⟨ab, x, none⟩ (.pointer (some ⟨q, 0, none⟩))) lim ab A T (F.set x (some n)) (fun k => if k = x then (q, mp, mt) else Q k) ∧ FrA ab F Q (F.set x (some n)) (fun k => if k = x then (q, mp, mt) else Q k) w (w1.setCell ⟨ab, x, none⟩ (.pointer (some ⟨q, 0, none⟩))) := by
  have hlt := h.lt
  have key : ∀ k m, (F.set x (some n)).getD k none = some m → (k = x ∧ m = n) ∨ (¬ k = x ∧ F.getD k none = some m) := fun k m hk => by
    rw [getD_setO hxl] at hk
    split at hk
    · rename_i e; cases hk; exact Or.inl ⟨e, rfl⟩
    · rename_i e; exact Or.inr ⟨e, hk⟩
  have blk : ∀ b, b ≠ ab → (w1.setCell ⟨ab, x, none⟩ (.pointer (some ⟨q, 0, none⟩))).heap[b]? = w1.heap[b]? := fun b hne => Below.heap_setCell _ _ _ _ hne
  have hsz : (w1.setCell ⟨ab, x, none⟩ (.pointer (some ⟨q, 0, none⟩))).heap.size = w1.heap.size := by simp [World.setCell]
  have fmK : ∀ (m : FM) (q' mp' mt' : Nat), FMAt w1 q' mp' mt' A T m → q' ≠ ab → mp' ≠ ab → mt' ≠ ab → FMAt (w1.setCell ⟨ab, x, none⟩ (.pointer (some ⟨q, 0, none⟩))) q' mp' mt' A T m := fun m q' mp' mt' hf h1 h2 h3 =>
    ⟨by rw [World.cell?_of_block (w := w1) (blk q' h1)]; exact hf.c0, by rw [World.cell?_of_block (w := w1) (blk q' h1)]; exact hf.c1, hf.pm.of_block (blk mp' h2), hf.tm.of_block (blk mt' h3), hf.n1, hf.n2, hf.n3⟩
  have hA1 := h.below hb
  refine ⟨⟨h.lo, by rw [hsz]; exact hA1.lt, fun k hk => ?_, fun k hk => ?_, fun k m hk => ?_, fun k m hk => ?_, fun k m hk => ?_, fun k l m m2 hne hk hl => ?_⟩, ⟨?_, ?_, ?_, ?_, fun b hbl ho => ?_, fun b hbl ho => ⟨ho.1, fun k m hk => ?_⟩⟩⟩
  · have hk' : k < F.length := by simpa using hk
    by_cases e : k = x
    · subst e
      have := hA1.cell k hk'
      unfold pvO
      rw [getD_setO hxl, if_pos rfl]
      simp [go_sem, this]
    · have hc := hA1.cell k hk'
      have e2 : pvO (F.set x (some n)) (fun k => if k = x then (q, mp, mt) else Q k) k = pvO F Q k := by
        unfold pvO
        rw [getD_setO hxl, if_neg e]
        simp only [if_neg e]
      rw [e2, ← hc]
      simp [go_sem]
  · have := hA1.free k (by simpa using hk)
    simpa [go_sem] using this
  · rcases key k m hk with ⟨rfl, rfl⟩ | ⟨hne, h1⟩
    · simp only [if_pos]
      exact fmK m _ _ _ hf (by omega) (by omega) (by omega)
    · simp only [if_neg hne]
      have := h.na k m h1
      exact fmK m _ _ _ (hA1.fm k m h1) this.1 this.2.1 this.2.2
  · rcases key k m hk with ⟨rfl, rfl⟩ | ⟨hne, h1⟩
    · simp only [if_pos]; omega
    · simp only [if_neg hne]; exact h.ge k m h1
  · rcases key k m hk with ⟨rfl, rfl⟩ | ⟨hne, h1⟩
    · simp only [if_pos]; omega
    · simp only [if_neg hne]; exact h.na k m h1
  · rcases key k m hk with ⟨rfl, rfl⟩ | ⟨hn1, h1⟩ <;> rcases key l m2 hl with ⟨rfl, rfl⟩ | ⟨hn2, h2⟩
    · exact absurd rfl hne
    · have := (h.fm l m2 h2).lt
      simp only [if_pos, if_neg hn2]
      omega
    · have := (h.fm k m h1).lt
      simp only [if_pos, if_neg hn1]
      omega
    · simp only [if_neg hn1, if_neg hn2]
      exact h.dis k l m m2 hne h1 h2
  · exact hb.os
  · exact hb.tape
  · exact hb.output
  · rw [hsz]; exact hb.size
  · rw [blk b ho.1]; exact hb.block b hbl
  · rcases key k m hk with ⟨rfl, rfl⟩ | ⟨hne, h1⟩
    · simp only [if_pos]; omega
    · simp only [if_neg hne]; exact ho.2 k m h1
end

def BringAns (B : List Bool) (lim ab : Nat) (A : List LPlace) (T : List Int) (F : List (Option FM)) (Q : Nat → Nat × Nat × Nat) (x : Nat) (n : FM) (w : World) (e : Ending) (w' : World) : Prop :=
  ∃ c F' Q', e = .returned (.bool c) ∧ AllAt w' lim ab A T F' Q' ∧ FrA ab F Q F' Q' w w' ∧ ((F.getD x none = none ∧ c = true ∧ F' = F.set x (some n)) ∨ ∃ qm, F.getD x none = some qm ∧ WentT A qm n B.length c ∧ F' = F.set x (some (meetF qm n)))

set_option maxHeartbeats 1600000 in
theorem bringW {w : World} {lim : Nat} {g : WB} {B : List Bool} {C : List LIns} {R : List LRow} {A : List LPlace} {N : List Int} {s slots : Nat} (hW : WorldAt w lim g B C R A N) (hD : Dims B C s slots A N) (hnd : A.Nodup) (T : List Int) (hT : ∀ t, t ∈ T ↔ 0 ≤ t ∧ t < B.length) (hTl : T.length ≤ 12) (ab : Nat) (F : List (Option FM)) (Q : Nat → Nat × Nat × Nat) (hA : AllAt w lim ab A T F Q) (x : Nat) (hx : x < F.length) (hF40 : F.length ≤ 40) (q2 mp2 mt2 : Nat) (n : FM) (hG : FMAt w q2 mp2 mt2 A T n) (o1 : OffA ab F Q q2) (o2 : OffA ab F Q mp2) (o3 : OffA ab F Q mt2) (hok : ∀ m, F.getD x none = some m → FmOk B s slots N m) (cap : Nat) :
    Calls Tryz.prog 50 #[.pointer (some ⟨g.q, 0, none⟩), .slice (some ⟨ab, 0, none⟩) F.length cap, .int .i64 x, .pointer (some ⟨q2, 0, none⟩)] w fun e w' => BringAns B lim ab A T F Q x n w e w' := by
  have hxz : (x : Int) < (F.length : Int) := by omega
  have h40 : (F.length : Int) ≤ 40 := by omega
  have c0 := hA.cell x hx
  have f0 := hA.free x hx
  have hlt := hA.lt
  have HA : Hid (AllAt w lim ab A T F Q) := hA
  have HG : Hid (FMAt w q2 mp2 mt2 A T n) := hG
  have hle := hW.le
  rcases hc : F.getD x none with _ | qm
  · have HC : Hid (F.getD x none = none) := hc
    have hp : pvO F Q x = .pointer none := by unfold pvO; rw [hc]
    rw [hp] at c0
    have c := cloneF q2 mp2 mt2 A T n w hG
    clear hW hD hA hG o1 o2 o3 hok hnd hT hp hc
    go_enter Tryz.func50, Tryz.ntmps50
    go_wp2_with (go_at_call 68; refine c.mono ?_; rintro e w1 ⟨q1, mp1, mt1, rfl, hq1, hp1, ht1, hf1, hb1⟩; have HF1 : Hid (FMAt w1 q1 mp1 mt1 A T n) := hf1; have HB1 : Hid (Below w.heap.size w w1) := hb1; have c1 := step_cell hb1 c0; have f1 := step_frozen hb1 hlt f0; have hlt1 := cell_lt c1; clear hf1 hb1)
    go_ret
    have h := HA.out.put hle hx HC.out HB1.out HF1.out hq1 hp1 ht1
    exact ⟨true, _, _, rfl, h.1, h.2, Or.inl ⟨HC.out, rfl, rfl⟩⟩
  · have HC : Hid (F.getD x none = some qm) := hc
    have hp : pvO F Q x = .pointer (some ⟨(Q x).1, 0, none⟩) := by unfold pvO; rw [hc]
    rw [hp] at c0
    have ge := hA.ge x qm hc
    have c := meetW hW hD hnd (Q x).1 (Q x).2.1 (Q x).2.2 q2 mp2 mt2 T hT hTl qm n (hA.fm x qm hc) hG ge.2.1 ge.2.2 (o1.2 x qm hc) (o2.2 x qm hc) (o3.2 x qm hc) (hok qm hc)
    obtain ⟨qq, hqq⟩ : ∃ qq, qq = Q x := ⟨_, rfl⟩
    clear hW hD hA hG o1 o2 o3 hok hnd hT hp hc ge
    go_enter Tryz.func50, Tryz.ntmps50
    go_wp2_with (go_at_call 73; refine c.mono ?_; rintro e w1 ⟨cc, rfl, hw1, hf1, hb1⟩; have HW1 : Hid (WentT A qm n B.length cc) := hw1; have HF1 : Hid (FMAt w1 (Q x).1 (Q x).2.1 (Q x).2.2 A T (meetF qm n)) := hf1; have HB1 : Hid (But (Q x).2.1 (Q x).2.2 w w1) := hb1; clear hw1 hf1 hb1)
    go_ret
    have h := HA.out.met HC.out HB1.out HF1.out
    exact ⟨cc, _, _, rfl, h.1, h.2, Or.inr ⟨qm, HC.out, HW1.out, rfl⟩⟩
end Go.Proofs.YtcmnmogmdhofcaaGreat.form

/- One round over all instructions (world.spread). -/
namespace Go.Proofs.YtcmnmogmdhofcaaGreat.form
open Go.RowKit Go.Maps
set_option linter.unusedVariables false
set_option maxRecDepth 100000
attribute [local go_sem ↓] Go.wp_at_zero Go.wp_at_succ

theorem goes_in {nC pc : Nat} {i : LIns} (hc : i.op = 8 ∨ i.op = 9 → 0 ≤ i.c ∧ i.c < nC) {x : Nat} (h : x ∈ nextsN i pc) (hx : x < nC) : (x : Int) ∈ goesI nC i pc := by
  unfold nextsN at h
  rw [List.mem_map] at h
  obtain ⟨y, hy, rfl⟩ := h
  unfold goesI
  rw [List.mem_filter]
  have h0 : 0 ≤ y := by
    unfold nextsI at hy
    split at hy
    · rename_i h8; simp at hy; have := hc (Or.inl h8); omega
    · split at hy
      · simp at hy
      · split at hy
        · rename_i h9
          have := hc (Or.inr h9)
          simp at hy
          omega
        · simp at hy; omega
  have e : ((y.toNat : Nat) : Int) = y := by omega
  rw [e]
  exact ⟨hy, by unfold thereB; simp; omega⟩
theorem in_goes {nC pc : Nat} {i : LIns} {x : Int} (h : x ∈ goesI nC i pc) : 0 ≤ x ∧ x < nC ∧ x.toNat ∈ nextsN i pc := by
  unfold goesI at h
  rw [List.mem_filter] at h
  have := h.2
  unfold thereB at this
  simp at this
  exact ⟨this.1, this.2, by unfold nextsN; exact List.mem_map.2 ⟨x, h.1, rfl⟩⟩

section
variable {B : List Bool} {C : List LIns} {s slots : Int} {R : List LRow} {N : List Int} {P : List LPlace} {A0 A : List (Option FM)} {Z : Nat → Nat → Prop} {ch : Bool}
theorem PassB.mono2 {Z' : Nat → Nat → Prop} (h : PassB B C s slots R N P A0 A Z ch) (hZ : ch = false → ∀ k x, Z' k x → Z k x ∨ ∀ m, ¬ A0.getD k none = some m) : PassB B C s slots R N P A0 A Z' ch :=
  ⟨h.it, fun hc => ⟨(h.same hc).1, fun k x hz => by
    rcases hZ hc k x hz with h1 | h1
    · exact (h.same hc).2 k x h1
    · exact fun m hm => absurd hm (h1 m)⟩, h.less⟩
end
theorem meet_same {B : List Bool} {s slots : Nat} {N : List Int} {A : List LPlace} {q n : FM} (hok : FmOk B s slots N q) (hall : ∀ p, p ∈ A ↔ isB s slots p = true) (h : WentT A q n B.length false) : meetF q n = q := by
  unfold WentT at h
  have h2 : ¬ ((∃ p, p ∈ A ∧ (¬ (q.has p &&& n.has p) = q.has p ∨ ¬ (q.is p &&& n.is p) = q.is p)) ∨ ∃ u : Nat, u < B.length ∧ ¬ (q.tmp u &&& n.tmp u) = q.tmp u) := fun e => by have := h.2 e; cases this
  have e1 : (fun p => q.has p &&& n.has p) = q.has := by
    funext p
    by_cases hp : p ∈ A
    · exact Classical.byContradiction fun e => h2 (Or.inl ⟨p, hp, Or.inl e⟩)
    · rw [ok_has hok (fun e => hp ((hall p).2 e))]; simp
  have e2 : (fun p => q.is p &&& n.is p) = q.is := by
    funext p
    by_cases hp : p ∈ A
    · exact Classical.byContradiction fun e => h2 (Or.inl ⟨p, hp, Or.inr e⟩)
    · rw [ok_is hok (fun e => hp ((hall p).2 e))]; simp
  have e3 : (fun t => q.tmp t &&& n.tmp t) = q.tmp := by
    funext t
    by_cases ht : 0 ≤ t ∧ t < (B.length : Int)
    · obtain ⟨u, rfl⟩ : ∃ u : Nat, t = u := ⟨t.toNat, by omega⟩
      exact Classical.byContradiction fun e => h2 (Or.inr ⟨u, by omega, e⟩)
    · rw [ok_tmp hok ht]; simp
  unfold meetF
  rw [e1, e2, e3]
theorem meet_less {A : List LPlace} {nB : Nat} {q n : FM} (h : WentT A q n nB true) : muF A nB (meetF q n) < muF A nB q := by
  unfold WentT at h
  exact muF_meet (h.1 rfl)
theorem set_same {F : List (Option FM)} {x : Nat} {m : FM} (h : F.getD x none = some m) : F.set x (some m) = F := by
  have hx := some_lt h
  apply List.ext_getElem (by simp)
  intro k h1 h2
  by_cases e : k = x
  · subst e
    rw [List.getElem_set_self]
    simpa [List.getD, hx] using h.symm
  · rw [List.getElem_set_ne (Ne.symm e)]

theorem bring_pass {B : List Bool} {C : List LIns} {s slots : Nat} {R : List LRow} {N : List Int} {A : List LPlace} {F0 F F' : List (Option FM)} {Z Z' : Nat → Nat → Prop} {ch c : Bool} {k x : Nat} {m n : FM} (hD : Dims B C s slots A N) (h : PassB B C s slots R N A F0 F Z ch) (hr : Reach C x) (hxl : x < C.length) (hb : BehF B C s slots R N k m n) (hk : ch = false → F0.getD k none = some m) (hup : ∀ f, Known B C s slots R x f → Kof N n f)
    (hZ : ∀ k' x', Z' k' x' → Z k' x' ∨ (k' = k ∧ x' = x)) (ha : (F.getD x none = none ∧ c = true ∧ F' = F.set x (some n)) ∨ ∃ qm, F.getD x none = some qm ∧ WentT A qm n B.length c ∧ F' = F.set x (some (meetF qm n))) : PassB B C s slots R N A F0 F' Z' (ch || c) := by
  have hA36 := hD.a36
  rcases ha with ⟨h1, rfl, rfl⟩ | ⟨qm, h1, h2, rfl⟩
  · have := h.first (by omega) hD.b12 hr hxl h1 hb.ok hup Z'
    simpa using this
  · cases c with
    | true =>
      have := h.went hD.inc h1 hxl hup (meet_less h2) Z'
      simpa using this
    | false =>
      have e := meet_same (h.it.ok x qm h1) hD.all h2
      rw [e, set_same h1]
      have := h.stays hD.inc hk hb h1 e hZ
      simpa using this

def SpreadAnsC (B : List Bool) (C : List LIns) (s slots : Nat) (R : List LRow) (N : List Int) (lim ab : Nat) (A : List LPlace) (T : List Int) (F : List (Option FM)) (w : World) (e : Ending) (w' : World) : Prop :=
  ∃ ch F' Q', e = .returned (.bool ch) ∧ AllAt w' lim ab A T F' Q' ∧ Below lim w w' ∧ PassB B C s slots R N A F F' (fun k x => k < C.length ∧ x ∈ nextsN (C.getD k .zero) k ∧ x < C.length) ch

structure SpO (B : List Bool) (C : List LIns) (s slots : Nat) (R : List LRow) (N : List Int) (lim ab : Nat) (A : List LPlace) (T : List Int) (F0 : List (Option FM)) (w : World) (k : Nat) (ch : Bool) (F : List (Option FM)) (Q : Nat → Nat × Nat × Nat) (wr : World) : Prop where
  all : AllAt wr lim ab A T F Q
  len : F.length = C.length
  bel : Below lim w wr
  pass : PassB B C s slots R N A F0 F (fun k' x => k' < k ∧ x ∈ nextsN (C.getD k' .zero) k' ∧ x < C.length) ch
structure SpI (B : List Bool) (C : List LIns) (s slots : Nat) (R : List LRow) (N : List Int) (lim ab : Nat) (A : List LPlace) (T : List Int) (F0 F1 : List (Option FM)) (Q1 : Nat → Nat × Nat × Nat) (w w2 : World) (k j : Nat) (l : List Int) (ch0 ch : Bool) (F : List (Option FM)) (Q : Nat → Nat × Nat × Nat) (wr : World) : Prop where
  all : AllAt wr lim ab A T F Q
  len : F.length = C.length
  bel : Below lim w wr
  fr : FrA ab F1 Q1 F Q w2 wr
  up : ch = false → ch0 = false
  pass : PassB B C s slots R N A F0 F (fun k' x => (k' < k ∧ x ∈ nextsN (C.getD k' .zero) k' ∧ x < C.length) ∨ (k' = k ∧ ∃ i, i < j ∧ l.getD i 0 = (x : Int))) ch

set_option maxHeartbeats 1600000 in
theorem spreadW {w : World} {lim : Nat} {g : WB} {B : List Bool} {C : List LIns} {R : List LRow} {A : List LPlace} {N : List Int} {s slots : Nat} (hW : WorldAt w lim g B C R A N) (hD : Dims B C s slots A N) (hnd : A.Nodup) (hib : ∀ k, k < C.length → insB B C.length (C.getD k .zero) = true) (hio : ∀ k, k < C.length → InsOk B.length C.length (C.getD k .zero)) (hrb : ∀ k, k < C.length → rowB B s slots (C.getD k .zero) (R.getD k .zero) = true) (hRl : R.length = C.length) (T : List Int) (hT : ∀ t, t ∈ T ↔ 0 ≤ t ∧ t < B.length) (hTl : T.length ≤ 12) (ab : Nat) (F : List (Option FM)) (Q : Nat → Nat × Nat × Nat) (hA : AllAt w lim ab A T F Q) (hBI : BIt B C s slots R N F) (cap : Nat) :
    Calls Tryz.prog 28 #[.pointer (some ⟨g.q, 0, none⟩), .slice (some ⟨ab, 0, none⟩) C.length cap] w fun e w' => SpreadAnsC B C s slots R N lim ab A T F w e w' := by
  have HW : Hid (WorldAt w lim g B C R A N) := hW
  have HD : Hid (Dims B C s slots A N) := hD
  have HND : Hid (A.Nodup) := hnd
  have HT : Hid (∀ t, t ∈ T ↔ 0 ≤ t ∧ t < B.length) := hT
  have HIB : Hid (∀ k, k < C.length → insB B C.length (C.getD k .zero) = true) := hib
  have HIO : Hid (∀ k, k < C.length → InsOk B.length C.length (C.getD k .zero)) := hio
  have HRB : Hid (∀ k, k < C.length → rowB B s slots (C.getD k .zero) (R.getD k .zero) = true) := hrb
  have HRL : Hid (R.length = C.length) := hRl
  have hc40 := hD.c40
  have hc40z : (C.length : Int) ≤ 40 := by omega
  have HS : Hid (SpO B C s slots R N lim ab A T F w 0 false F Q w) := ⟨hA, hBI.len, Below.refl _ _, PassB.start hBI (fun k x h => absurd h.1 (Nat.not_lt_zero _))⟩
  clear hW hD hnd hT hib hio hrb hRl hA hBI
  go_enter Tryz.func28, Tryz.ntmps28
  go_wp2
  go_loopg [5, 6, 7, 8, 10, 13] (C.length + 1) (fun gg v5 v6 v7 v8 v10 v wr => ∃ (k : Nat) (ch : Bool) (F' : List (Option FM)) (Q' : Nat → Nat × Nat × Nat), v = .int .i64 k ∧ v5 = .bool ch ∧ k ≤ C.length ∧ gg = C.length + 1 - k ∧ SpO B C s slots R N lim ab A T F w k ch F' Q' wr)
  case atStart => exact ⟨0, false, F, Q, rfl, rfl, by omega, by omega, HS.out⟩
  case round =>
    clear HS
    obtain ⟨k, ch, F1, Q1, rfl, rfl, hk, hgk, hso⟩ := hrel
    have HGK : Hid (gk = C.length + 1 - k) := hgk
    have HSO : Hid (SpO B C s slots R N lim ab A T F w k ch F1 Q1 wr) := hso
    clear hgk hso
    by_cases hkl : k < C.length
    case neg =>
      obtain rfl : k = C.length := by omega
      have hkz : ¬ (C.length : Int) < (C.length : Int) := by omega
      go_wp2
      go_ret
      exact ⟨ch, F1, Q1, rfl, HSO.out.all, HSO.out.bel, HSO.out.pass⟩
    have hkz : (k : Int) < (C.length : Int) := by omega
    have hlen := HSO.out.len
    have c0 := HSO.out.all.cell k (by omega)
    have hlt := HSO.out.all.lt
    clear hlen
    rcases hc : F1.getD k none with _ | m
    · have HC : Hid (F1.getD k none = none) := hc
      have hp : pvO F1 Q1 k = .pointer none := by unfold pvO; rw [hc]
      rw [hp] at c0
      clear hp hc
      go_wp2
      have hgk := HGK.out
      go_roundg (gk - 1)
      case measure => omega
      case rel =>
        refine ⟨k + 1, ch, F1, Q1, by go_num, rfl, by omega, by omega, ⟨HSO.out.all, HSO.out.len, HSO.out.bel, HSO.out.pass.mono2 (fun hch k' x hz => ?_)⟩⟩
        by_cases e : k' = k
        · right
          intro m hm
          rw [← (HSO.out.pass.same hch).1, e, HC.out] at hm
          cases hm
        · left; exact ⟨by omega, hz.2⟩
    · have HC : Hid (F1.getD k none = some m) := hc
      have hp : pvO F1 Q1 k = .pointer (some ⟨(Q1 k).1, 0, none⟩) := by unfold pvO; rw [hc]
      rw [hp] at c0
      have HWR : Hid (WorldAt wr lim g B C R A N) := HW.out.keep HSO.out.bel
      have hle := HWR.out.le
      have c := behindW HWR.out HD.out HND.out HIB.out HRB.out HRL.out k hkl (Q1 k).1 (Q1 k).2.1 (Q1 k).2.2 T HT.out hTl m (HSO.out.all.fm k m hc) (HSO.out.pass.it.ok k m hc)
      clear hp hc
      go_upto_region 7 with (go_at_call 48; refine c.mono ?_; rintro e w1 ⟨q2, mp2, mt2, n, rfl, hq2, hp2, ht2, hf2, hbf, hb1⟩; have HF2 : Hid (FMAt w1 q2 mp2 mt2 A T n) := hf2; have HBF : Hid (BehF B C s slots R N k m n) := hbf; have HB1 : Hid (Below wr.heap.size wr w1) := hb1; clear hf2 hbf hb1)
      clear c c0
      have HW1 : Hid (WorldAt w1 lim g B C R A N) := HWR.out.below HB1.out
      have p0 := HW1.out.stat.p0
      have p1 := HW1.out.stat.p1
      have hgq := cell_lt p0
      have c := goesOn g.b0 g.o0 g.c0 g.b1 g.o1 g.c1 B C k w1 hc40 HW1.out.stat.held hkl
      obtain ⟨l, hl⟩ : ∃ l, l = goesI C.length (C.getD k .zero) k := ⟨_, rfl⟩
      have HL : Hid (l = goesI C.length (C.getD k .zero) k) := hl
      rw [← hl] at c
      have hl2 : l.length ≤ 2 := by rw [hl]; exact Nat.le_trans (List.length_filter_le _ _) (nexts_len _ _)
      have hl2z : (l.length : Int) ≤ 2 := by omega
      clear hl
      unfold progV at c
      obtain ⟨gO, hgO⟩ : ∃ gO, gO = gk := ⟨_, rfl⟩
      subst hgO
      obtain ⟨wo, hwo⟩ : ∃ wo, wo = wr := ⟨_, rfl⟩
      subst hwo
      go_wp2_with (go_at_call 49; refine c.mono ?_; rintro e w2 ⟨⟨v, rfl, hints⟩, hb2⟩; obtain ⟨ao, capv, rfl, hcl⟩ := hints; have HCL : Hid (0 < l.length → ∃ b, ao = some ⟨b, 0, none⟩ ∧ w1.heap.size ≤ b ∧ b < w2.heap.size ∧ ∀ j, j < l.length → w2.cell? ⟨b, j, none⟩ = some (.int .i64 (l.getD j 0))) := hcl; have HB2 : Hid (Below w1.heap.size w1 w2) := hb2; clear hcl hb2)
      clear c p0 p1
      have hb02 : Below wo.heap.size wo w2 := step_below HB2.out HB1.out
      have HB02 : Hid (Below wo.heap.size wo w2) := hb02
      have HSI : Hid (SpI B C s slots R N lim ab A T F F1 Q1 w w2 k 0 l ch ch F1 Q1 w2) := ⟨HSO.out.all.below hb02, HSO.out.len, HSO.out.bel.trans (hb02.mono hle), FrA.refl, id, HSO.out.pass.mono (fun k' x hz => by
        rcases hz with h | ⟨_, i, hi, _⟩
        · exact Or.inl h
        · omega)⟩
      have HF22 : Hid (FMAt w2 q2 mp2 mt2 A T n) := HF2.out.below HB2.out
      clear hb02
      go_loopg [5, 10, 31] (l.length + 1) (fun gg v5 v10 v wr => ∃ (j : Nat) (ch2 : Bool) (F2 : List (Option FM)) (Q2 : Nat → Nat × Nat × Nat), v = .int .i64 j ∧ v5 = .bool ch2 ∧ j ≤ l.length ∧ gg = l.length + 1 - j ∧ SpI B C s slots R N lim ab A T F F1 Q1 w w2 k j l ch ch2 F2 Q2 wr)
      case atStart => exact ⟨0, ch, F1, Q1, rfl, rfl, by omega, by omega, HSI.out⟩
      case round =>
        clear HSI
        obtain ⟨j, ch2, F2, Q2, rfl, rfl, hj, hgk, hsi⟩ := hrel
        have HGJ : Hid (gk = l.length + 1 - j) := hgk
        have HSI : Hid (SpI B C s slots R N lim ab A T F F1 Q1 w w2 k j l ch ch2 F2 Q2 wr) := hsi
        clear hgk hsi
        by_cases hjl : j < l.length
        case neg =>
          obtain rfl : j = l.length := by omega
          have hjz : ¬ (l.length : Int) < (l.length : Int) := by omega
          go_wp2
          have hgk := HGK.out
          go_roundg (gO - 1)
          case measure => omega
          case rel =>
            refine ⟨k + 1, ch2, F2, Q2, by go_num, rfl, by omega, by omega, ⟨HSI.out.all, HSI.out.len, HSI.out.bel, HSI.out.pass.mono (fun k' x hz => Or.inl ?_)⟩⟩
            by_cases e : k' = k
            · right
              subst e
              have hm := goes_in (HIO.out k' hkl).c hz.2.1 hz.2.2
              rw [← HL.out] at hm
              obtain ⟨i, hi, he⟩ := List.mem_iff_getElem.1 hm
              exact ⟨rfl, i, hi, by simp [List.getD, hi, he]⟩
            · left; exact ⟨by omega, hz.2⟩
        have hjz : (j : Int) < (l.length : Int) := by omega
        obtain ⟨b, hao, hlo, hbl, hcell⟩ := HCL.out (by omega)
        subst hao
        have hob : OffA ab F1 Q1 b := HSO.out.all.offNew (by have := HB1.out.size; omega)
        have y0 := HSI.out.fr.cellOf hob (hcell j hjl)
        have hbl2 := cell_lt y0
        have hmem : l.getD j 0 ∈ l := by simp [List.getD, hjl]
        have hin := hmem
        rw [HL.out] at hin
        obtain ⟨i0, i1, i2⟩ := in_goes (x := (goesI C.length (C.getD k .zero) k).getD j 0) (by rw [← HL.out]; rw [← HL.out] at hin; exact hin)
        rw [← HL.out] at i0 i1 i2
        obtain ⟨x, hx⟩ : ∃ x : Nat, l.getD j 0 = x := ⟨(l.getD j 0).toNat, by omega⟩
        have HX : Hid (l.getD j 0 = (x : Int)) := hx
        rw [hx] at y0 i0 i1 i2
        have hxl : x < C.length := by omega
        have hxn : x ∈ nextsN (C.getD k .zero) k := by simpa using i2
        have HXN : Hid (x ∈ nextsN (C.getD k .zero) k) := hxn
        have hlen2 := HSI.out.len
        have s1 := HB1.out.size
        have s2 := HB2.out.size
        have hlt2 := HF22.out.lt
        have oq : ∀ b', wo.heap.size ≤ b' → b' < w2.heap.size → OffA ab F2 Q2 b' := fun b' h1 h2 => HSI.out.fr.off b' h2 (HSO.out.all.offNew h1)
        have hfm := HSI.out.fr.fmAt HF22.out (HSO.out.all.offNew (b := q2) (by omega)) (HSO.out.all.offNew (b := mp2) (by omega)) (HSO.out.all.offNew (b := mt2) (by omega))
        have c := bringW (HW.out.keep HSI.out.bel) HD.out HND.out T HT.out hTl ab F2 Q2 HSI.out.all x (by omega) (by omega) q2 mp2 mt2 n hfm (oq q2 (by omega) (by omega)) (oq mp2 (by omega) (by omega)) (oq mt2 (by omega) (by omega)) (fun m' hm' => HSI.out.pass.it.ok x m' hm') cap
        rw [hlen2] at c
        clear hcell hob hmem hin i0 i1 i2 hx hxn hlen2 s1 s2 hlt2 oq hfm
        go_upto_if 39 with (go_at_call 50; refine c.mono ?_; rintro e w3 ⟨cc, F3, Q3, rfl, hall3, hfr3, hor3⟩; have HA3 : Hid (AllAt w3 lim ab A T F3 Q3) := hall3; have HR3 : Hid (FrA ab F2 Q2 F3 Q3 wr w3) := hfr3; have HO3 : Hid ((F2.getD x none = none ∧ cc = true ∧ F3 = F2.set x (some n)) ∨ ∃ qm, F2.getD x none = some qm ∧ WentT A qm n B.length cc ∧ F3 = F2.set x (some (meetF qm n))) := hor3; clear hall3 hfr3 hor3)
        clear c y0
        have HI3 : Hid (SpI B C s slots R N lim ab A T F F1 Q1 w w2 k (j + 1) l ch (ch2 || cc) F3 Q3 w3) := ⟨HA3.out, by
          rcases HO3.out with ⟨_, _, e⟩ | ⟨qm, _, _, e⟩ <;> rw [e] <;> simpa using HSI.out.len, HSI.out.bel.trans (HR3.out.toBelow HSI.out.all (HW.out.keep HSI.out.bel).le), HSI.out.fr.trans HR3.out, fun h => HSI.out.up (by cases ch2 <;> simp_all), by
          have hit := HSO.out.pass.it
          refine bring_pass HD.out HSI.out.pass (reach_next (hit.rch k m HC.out) hkl HXN.out hxl) hxl HBF.out (fun h => ?_) (hit.beh HC.out HBF.out HXN.out hxl) (fun k' x' hz => ?_) HO3.out
          · rw [← (HSO.out.pass.same (HSI.out.up h)).1]; exact HC.out
          · rcases hz with h | ⟨e1, i, hi, he⟩
            · exact Or.inl (Or.inl h)
            · by_cases e2 : i = j
              · right
                rw [e2, HX.out] at he
                exact ⟨e1, by omega⟩
              · left; right; exact ⟨e1, i, by omega, he⟩⟩
        rcases Bool.eq_false_or_eq_true cc with hcc | hcc
        · subst hcc
          go_wp2
          have hgk := HGJ.out
          go_roundg (gk - 1)
          case measure => omega
          case rel => exact ⟨j + 1, true, F3, Q3, by go_num, rfl, by omega, by omega, by have h := HI3.out; rw [Bool.or_true] at h; exact h⟩
        · subst hcc
          go_wp2
          have hgk := HGJ.out
          go_roundg (gk - 1)
          case measure => omega
          case rel => exact ⟨j + 1, ch2, F3, Q3, by go_num, rfl, by omega, by omega, by have h := HI3.out; rw [Bool.or_false] at h; exact h⟩
end Go.Proofs.YtcmnmogmdhofcaaGreat.form

/- What is known ahead of the first instruction (world.beginning). -/
namespace Go.Proofs.YtcmnmogmdhofcaaGreat.form
open Go.RowKit Go.Maps
set_option linter.unusedVariables false
set_option maxRecDepth 100000
attribute [local go_sem ↓] Go.wp_at_zero Go.wp_at_succ

structure BegS (B : List Bool) (N : List Int) (A : List LPlace) (j t : Nat) (m : FM) : Prop where
  has : ∀ p u, (m.has p).getLsbD u = true ↔ p ∈ A.take j ∧ u < B.length ∧ mayT B p.kind u = true
  is : ∀ p k, (m.is p).getLsbD k = true ↔ p ∈ A.take j ∧ k < N.length ∧ ¬ p.kind = 2 ∧ nAt N k = 0
  tmp : ∀ (v : Int) k, (m.tmp v).getLsbD k = true ↔ (0 ≤ v ∧ v < t ∧ B.getD v.toNat false = false) ∧ k < N.length ∧ nAt N k = 0
theorem BegS.start (B : List Bool) (N : List Int) (A : List LPlace) : BegS B N A 0 0 ⟨fun _ => 0, fun _ => 0, fun _ => 0⟩ :=
  ⟨fun p u => by simp, fun p k => by simp, fun v k => by
    constructor
    · intro h; simp at h
    · rintro ⟨⟨h0, h1, _⟩, _⟩; omega⟩
theorem mem_one {A : List LPlace} {j : Nat} (hj : j < A.length) {p : LPlace} : p ∈ A.take (j + 1) ↔ p ∈ A.take j ∨ p = A.getD j .zero := by
  rw [take_one hj, List.mem_append]
  simp
theorem BegS.place {B : List Bool} {N : List Int} {A : List LPlace} {j t : Nat} {m : FM} (h : BegS B N A j t m) (hj : j < A.length) {a : LPlace} (ha : a = A.getD j .zero) {x y : Bits} (hx : ∀ u, x.getLsbD u = true ↔ u < B.length ∧ mayT B a.kind u = true) (hy : ∀ k, y.getLsbD k = true ↔ k < N.length ∧ ¬ a.kind = 2 ∧ nAt N k = 0) : BegS B N A (j + 1) t ⟨updP m.has a x, updP m.is a y, m.tmp⟩ := by
  refine ⟨fun p u => ?_, fun p k => ?_, h.tmp⟩
  · rw [mem_one hj, ← ha]
    simp only [updP]
    by_cases e : samePl p a = true
    · rw [if_pos e, samePl_eq e, hx]; simp
    · have : p ≠ a := fun e2 => e (by rw [e2]; exact samePl_self _)
      rw [if_neg e, h.has]; simp [this]
  · rw [mem_one hj, ← ha]
    simp only [updP]
    by_cases e : samePl p a = true
    · rw [if_pos e, samePl_eq e, hy]; simp
    · have : p ≠ a := fun e2 => e (by rw [e2]; exact samePl_self _)
      rw [if_neg e, h.is]; simp [this]
theorem BegS.temp {B : List Bool} {N : List Int} {A : List LPlace} {j t : Nat} {m : FM} (h : BegS B N A j t m) {z : Bits} (hz : NumS N 0 z) (hn : B.getD t false = false) : BegS B N A j (t + 1) ⟨m.has, m.is, updT m.tmp t z⟩ := by
  refine ⟨h.has, h.is, fun v k => ?_⟩
  simp only [updT]
  by_cases e : v = t
  · rw [if_pos e, hz, e]
    constructor
    · rintro ⟨h1, h2⟩; exact ⟨⟨by omega, by omega, by simpa using hn⟩, h1, h2⟩
    · rintro ⟨_, h1, h2⟩; exact ⟨h1, h2⟩
  · rw [if_neg e, h.tmp]
    constructor
    · rintro ⟨⟨h1, h2, h3⟩, h4⟩; exact ⟨⟨h1, by omega, h3⟩, h4⟩
    · rintro ⟨⟨h1, h2, h3⟩, h4⟩; exact ⟨⟨h1, by omega, h3⟩, h4⟩
theorem BegS.skip {B : List Bool} {N : List Int} {A : List LPlace} {j t : Nat} {m : FM} (h : BegS B N A j t m) (hn : B.getD t false = true) : BegS B N A j (t + 1) m := by
  refine ⟨h.has, h.is, fun v k => ?_⟩
  rw [h.tmp]
  constructor
  · rintro ⟨⟨h1, h2, h3⟩, h4⟩; exact ⟨⟨h1, by omega, h3⟩, h4⟩
  · rintro ⟨⟨h1, h2, h3⟩, h4⟩
    refine ⟨⟨h1, ?_, h3⟩, h4⟩
    by_cases e : v = t
    · rw [e] at h3
      simp only [Int.toNat_natCast] at h3
      rw [hn] at h3; cases h3
    · omega
theorem BegS.it {B : List Bool} {C : List LIns} {s slots : Nat} {R : List LRow} {A : List LPlace} {N : List Int} {m : FM} (hD : Dims B C s slots A N) (h : BegS B N A A.length B.length m) (F : List (Option FM)) (hF : F.length = C.length) (h0 : F.getD 0 none = some m) (hno : ∀ k, ¬ k = 0 → F.getD k none = none) : BIt B C s slots R N F := by
  have hin : ∀ p, p ∈ A.take A.length ↔ isB s slots p = true := fun p => by rw [List.take_length]; exact hD.all p
  have hok : FmOk B s slots N m := by
    refine ⟨fun p t ht => ?_, fun p k hk => ?_, fun t k hk => ?_⟩
    · obtain ⟨h1, h2, h3⟩ := (h.has p t).1 ht
      unfold mayT at h3
      refine ⟨(hin p).1 h1, h2, fun e => ?_, fun e => ?_⟩
      · rw [e] at h3; simpa using h3
      · rw [e] at h3; simpa using h3
    · obtain ⟨h1, h2, h3, h4⟩ := (h.is p k).1 hk
      exact ⟨(hin p).1 h1, h2, h3⟩
    · obtain ⟨⟨h1, h2, h3⟩, h4, h5⟩ := (h.tmp t k).1 hk
      exact ⟨h1, h2, h3, h4⟩
  have hone : ∀ k m', F.getD k none = some m' → k = 0 ∧ m' = m := fun k m' hk => by
    by_cases e : k = 0
    · subst e; rw [h0] at hk; cases hk; exact ⟨rfl, rfl⟩
    · rw [hno k e] at hk; cases hk
  have hz : ∃ k, k < N.length ∧ nAt N k = 0 := (hD.num 0).2 (Or.inl rfl)
  refine ⟨hF, ⟨m, h0⟩, fun k m' hk => ?_, fun k m' hk => ?_, fun k m' hk f hf => ?_, fun m' hk f hf => ?_⟩
  · obtain ⟨rfl, rfl⟩ := hone k m' hk; exact hok
  · obtain ⟨rfl, rfl⟩ := hone k m' hk; exact reach_start C
  · obtain ⟨rfl, rfl⟩ := hone k m' hk
    have hg := known_good B C s slots R
    have o := hg.ok 0 f hf
    have n0 := hg.beg f hf
    obtain ⟨kz, hk1, hk2⟩ := hz
    unfold Kof
    by_cases e0 : f.pl.kind = 0
    · rw [if_pos e0]
      have hp : f.pl.n = 0 ∧ f.temp = true := by
        rcases o.pl with h1 | h1
        · exact h1.2
        · have := is_kind h1; omega
      have ht := o.t hp.2
      refine ⟨hp.1, hp.2, kz, hk1, by rw [hk2, n0], ?_⟩
      rw [h.tmp]
      exact ⟨⟨ht.1, ht.2, o.nar hp.2 (Or.inl e0)⟩, hk1, hk2⟩
    · rw [if_neg e0]
      have hp : isB s slots f.pl = true := by
        rcases o.pl with h1 | h1
        · exact absurd h1.1 e0
        · exact h1
      by_cases et : f.temp = true
      · rw [if_pos et]
        have ht := o.t et
        refine ⟨n0, ht.1, ?_⟩
        rw [h.has]
        refine ⟨(hin _).2 hp, by omega, ?_⟩
        unfold mayT
        rcases is_cases hp with ⟨e, _, _⟩ | ⟨e, _, _⟩ | ⟨e, _, _⟩
        · rw [o.nar et (Or.inr e), e]; rfl
        · rw [o.wid et e, e]; rfl
        · rw [e]; rfl
      · have et' : f.temp = false := by simpa using et
        rw [if_neg et]
        refine ⟨o.zt et', kz, hk1, by rw [hk2, n0], ?_⟩
        rw [h.is]
        exact ⟨(hin _).2 hp, hk1, o.dbl et', hk2⟩
  · obtain ⟨_, rfl⟩ := hone 0 m' hk
    unfold Kof at hf
    split at hf
    · obtain ⟨_, _, k, _, h2, h3⟩ := hf
      rw [← h2]; exact ((h.tmp _ _).1 h3).2.2
    · split at hf
      · exact hf.1
      · obtain ⟨_, k, _, h2, h3⟩ := hf
        rw [← h2]; exact ((h.is _ _).1 h3).2.2.2

def BegWAns (B : List Bool) (N : List Int) (A : List LPlace) (T : List Int) (w : World) (e : Ending) (w' : World) : Prop := ∃ q mp mt m, e = .returned (.pointer (some ⟨q, 0, none⟩)) ∧ w.heap.size ≤ q ∧ w.heap.size ≤ mp ∧ w.heap.size ≤ mt ∧ FMAt w' q mp mt A T m ∧ BegS B N A A.length B.length m ∧ Below w.heap.size w w'

set_option maxHeartbeats 1600000 in
theorem beginW {w : World} {lim : Nat} {g : WB} {B : List Bool} {C : List LIns} {R : List LRow} {A : List LPlace} {N : List Int} {s slots : Nat} (hW : WorldAt w lim g B C R A N) (hD : Dims B C s slots A N) (T : List Int) (hT : ∀ t, t ∈ T ↔ 0 ≤ t ∧ t < B.length) (hTl : T.length ≤ 12) :
    Calls Tryz.prog 27 #[.pointer (some ⟨g.q, 0, none⟩)] w fun e w' => BegWAns B N A T w e w' := by
  have hmm := @run_makeMap Tryz.prog
  have hb12 := hD.b12
  have hbz : (B.length : Int) ≤ 12 := by omega
  have HW : Hid (WorldAt w lim g B C R A N) := hW
  have HD : Hid (Dims B C s slots A N) := hD
  have HT : Hid (∀ t, t ∈ T ↔ 0 ≤ t ∧ t < B.length) := hT
  have y3 := hW.stat.p3
  have hgq := cell_lt y3
  have hle := hW.le
  have ha36 : (A.length : Int) ≤ 36 := by have := hD.a36; omega
  have c := numberO hW hD 0
  clear hW hD hT
  go_enter Tryz.func27, Tryz.ntmps27
  go_upto_region 3 with (go_at_call 46; refine c.mono ?_; rintro e w1 ⟨⟨zz, rfl, hzz⟩, hw1⟩; obtain rfl := hw1.symm; have HZZ : Hid (NumS N 0 zz) := hzz; clear hzz)
  clear c hmm
  obtain ⟨w3, hw3⟩ : ∃ w3, w3 = ((w.alloc (.map #[] 0)).alloc (.map #[] 0)).alloc (.cells #[.map (some w.heap.size), .map (some (w.heap.size + 1))] 87) := ⟨_, rfl⟩
  have h1 := PMap.new w A
  have h2 := TMap.new (w.alloc (.map #[] 0)) T
  have e1 : (w.alloc (.map #[] 0)).heap.size = w.heap.size + 1 := by simp
  have e2 : ((w.alloc (.map #[] 0)).alloc (.map #[] 0)).heap.size = w.heap.size + 1 + 1 := by simp
  have hf3 : FMAt w3 (w.heap.size + 1 + 1) w.heap.size (w.heap.size + 1) A T ⟨fun _ => 0, fun _ => 0, fun _ => 0⟩ := by
    rw [hw3]
    have h3 : PMap ((w.alloc (.map #[] 0)).alloc (.map #[] 0)) w.heap.size A (fun _ => 0) (fun _ => 0) := h1.below ((Below.refl _ _).alloc (Nat.le_refl _) _)
    rw [e1] at h2
    have := fm_new (m := ⟨fun _ => 0, fun _ => 0, fun _ => 0⟩) h3 h2 (by omega)
    rw [e2] at this
    exact this
  have hb3 : Below w.heap.size w w3 := by rw [hw3]; exact (((Below.refl _ _).alloc (Nat.le_refl _) _).alloc (by simp) _).alloc (by simp; omega) _
  rw [← hw3]
  obtain ⟨mp, hmp⟩ : ∃ mp, mp = w.heap.size := ⟨_, rfl⟩
  obtain ⟨mt, hmt⟩ : ∃ mt, mt = w.heap.size + 1 := ⟨_, rfl⟩
  obtain ⟨q, hq⟩ : ∃ q, q = w.heap.size + 1 + 1 := ⟨_, rfl⟩
  rw [← hq, ← hmt] at hf3 ⊢
  have hf4 : FMAt w3 q mp mt A T ⟨fun _ => 0, fun _ => 0, fun _ => 0⟩ := by rw [hmp]; exact hf3
  have HF3 : Hid (FMAt w3 q mp mt A T ⟨fun _ => 0, fun _ => 0, fun _ => 0⟩) := hf4
  have HB3 : Hid (Below w.heap.size w w3) := hb3
  have hqle : w.heap.size ≤ q := by omega
  have hple : w.heap.size ≤ mp := by omega
  have htle : w.heap.size ≤ mt := by omega
  clear hw3 h1 h2 e1 e2 hf3 hf4 hmp hmt hq
  have y3 := HW.out.below hb3 |>.stat.p3
  have hgq3 := cell_lt y3
  clear hb3
  go_wp2
  go_loopg [6, 7, 21] (A.length + 1) (fun gg v6 v7 v wr => ∃ (j : Nat) (m : FM), v = .int .i64 j ∧ j ≤ A.length ∧ gg = A.length + 1 - j ∧ FMAt wr q mp mt A T m ∧ BegS B N A j 0 m ∧ Below w.heap.size w wr)
  case atStart => exact ⟨0, _, rfl, by omega, by omega, HF3.out, BegS.start B N A, HB3.out⟩
  case round =>
    clear HF3
    obtain ⟨j, m, rfl, hj, hgk, hfr, hbs, hbr⟩ := hrel
    have HGK : Hid (gk = A.length + 1 - j) := hgk
    have HFR : Hid (FMAt wr q mp mt A T m) := hfr
    have HBS : Hid (BegS B N A j 0 m) := hbs
    have HBR : Hid (Below w.heap.size w wr) := hbr
    have HWR : Hid (WorldAt wr lim g B C R A N) := HW.out.below hbr
    have e0 : q ≠ mp := hfr.n1
    have hwr := hfr.lt
    have hsz := hbr.size
    clear hgk hfr hbs hbr
    by_cases hjl : j < A.length
    · have hjz : (j : Int) < (A.length : Int) := by omega
      obtain ⟨a, ha⟩ : ∃ a, a = A.getD j .zero := ⟨_, rfl⟩
      obtain ⟨y0, y1⟩ := HWR.out.stat.plc j hjl
      rw [← ha] at y0 y1
      have hbl := cell_lt y0
      have ham : a ∈ A := by rw [ha]; simp [List.getD, hjl]
      have HWF : Hid (PlWf a) := HD.out.wf ((HD.out.all _).1 ham)
      have HAM : Hid (a ∈ A) := ham
      have HA : Hid (a = A.getD j .zero) := ha
      clear ha ham
      have hbx : Below wr.heap.size wr (wr.alloc (.cells #[.int .i64 a.kind, .int .i64 a.n] 51)) := (Below.refl _ _).alloc (Nat.le_refl _) _
      have c := mayW (HWR.out.below hbx) HD.out a.kind
      have HBX : Hid (Below wr.heap.size wr (wr.alloc (.cells #[.int .i64 a.kind, .int .i64 a.n] 51))) := hbx
      clear hbx
      go_upto_region 7 with (go_at_call 47; refine c.mono ?_; rintro e w1 ⟨x, y, rfl, hx, hy, hb1⟩; have HX : Hid (∀ t, x.getLsbD t = true ↔ t < B.length ∧ mayT B a.kind t = true) := hx; have HY : Hid (∀ k, y.getLsbD k = true ↔ k < N.length ∧ ¬ a.kind = 2) := hy; have HB1 : Hid (Below wr.heap.size wr w1) := step_below hb1 HBX.out; have x1 : w1.cell? ⟨wr.heap.size, 0, none⟩ = some (.int .i64 a.kind) := step_cell hb1 (by simp [go_sem]); have x2 : w1.cell? ⟨wr.heap.size, 1, none⟩ = some (.int .i64 a.n) := step_cell hb1 (by simp [go_sem]); have hz1 := cell_lt x1; clear hx hy hb1; unfold knownV)
      clear c
      obtain ⟨wy, hwy⟩ : ∃ wy, wy = w1.alloc (.cells #[.int .u64 (bn x), .int .u64 (bn y)] 89) := ⟨_, rfl⟩
      have hb1y : Below w1.heap.size w1 wy := by rw [hwy]; exact (Below.refl _ _).alloc (Nat.le_refl _) _
      have x3 : wy.cell? ⟨w1.heap.size, 0, none⟩ = some (.int .u64 (bn x)) := by rw [hwy]; simp [go_sem]
      have x4 : wy.cell? ⟨w1.heap.size, 1, none⟩ = some (.int .u64 (bn y)) := by rw [hwy]; simp [go_sem]
      rw [← hwy]
      clear hwy
      replace x1 := step_cell hb1y x1
      replace x2 := step_cell hb1y x2
      have hby := step_below hb1y HB1.out
      have HBY : Hid (Below wr.heap.size wr wy) := hby
      have hFy := HFR.out.below hby
      have HFY : Hid (FMAt wy q mp mt A T m) := hFy
      have x0 := hFy.c0
      have e1 : wr.heap.size ≠ mp := by omega
      have e2 : w1.heap.size ≠ mp := by omega
      have hn36 : A.length < maxLen := by have := HD.out.a36; unfold maxLen; omega
      obtain ⟨w9, hrun, hp9, hg9⟩ := (hFy.pm.of_block (w' := wy.drew) rfl).put hn36 HWF.out HAM.out x (y &&& zz)
      unfold LPlace.val knownV at hrun
      have HP9 : Hid (PMap w9 mp A (updP m.has a x) (updP m.is a (y &&& zz))) := hp9
      have HG9 : Hid (But mp mp wy.drew w9) := grown_but hg9
      have hand := and_is y zz
      clear hp9 hg9 hFy hb1y hby
      refine wp_region_held_drew (S := (fun w' => But mp mp wy w' ∧ w'.cell? ⟨q, 0, none⟩ = some (.map (some mp)) ∧ w'.cell? ⟨wr.heap.size, 0, none⟩ = some (.int .i64 a.kind) ∧ w'.cell? ⟨wr.heap.size, 1, none⟩ = some (.int .i64 a.n) ∧ w'.cell? ⟨w1.heap.size, 0, none⟩ = some (.int .u64 (bn x)) ∧ w'.cell? ⟨w1.heap.size, 1, none⟩ = some (.int .u64 (bn y)))) (by rfl) ?_ (fun hHeld => ?_)
      · (exact ⟨But.of_below (Below.refl _ _).drew, x0, x1, x2, x3, x4⟩)
      refine wpAnyH_take (i := 0) (v := ?_) rfl (by kernel_rfl) (by kernel_rfl) (by kernel_rfl) (fun _ _ _ h => h) (Or.inl ⟨by rfl, ?_⟩) (by assumption) ?_
      case refine_2 => (intro w hSw; (try dsimp only at hSw); go_simp; first | done | (with_reducible rfl))
      show wpAnyH _ _ _ _ _ _ _ (Act.put _ (some 29) _) _
      simp only [Act.put, List.setIfInBounds_toArray, List.set_cons_zero, List.set_cons_succ]
      refine wpAnyH_take (i := 1) (v := ?_) rfl (by kernel_rfl) (by kernel_rfl) (by kernel_rfl) (fun _ _ _ h => h) (Or.inl ⟨by rfl, ?_⟩) (by assumption) ?_
      case refine_2 => (intro w hSw; (try dsimp only at hSw); go_simp; first | done | (with_reducible rfl))
      show wpAnyH _ _ _ _ _ _ _ (Act.put _ (some 30) _) _
      simp only [Act.put, List.setIfInBounds_toArray, List.set_cons_zero, List.set_cons_succ]
      refine wpAnyH_take (i := 2) (v := ?_) rfl (by kernel_rfl) (by kernel_rfl) (by kernel_rfl) (fun _ _ _ h => h) (Or.inl ⟨by rfl, ?_⟩) (by assumption) ?_
      case refine_2 => (intro w hSw; (try dsimp only at hSw); go_simp; first | done | (with_reducible rfl))
      show wpAnyH _ _ _ _ _ _ _ (Act.put _ (some 31) _) _
      simp only [Act.put, List.setIfInBounds_toArray, List.set_cons_zero, List.set_cons_succ]
      refine wpAnyH_take (i := 3) (v := ?_) rfl (by kernel_rfl) (by kernel_rfl) (by kernel_rfl) (fun _ _ _ h => h) (Or.inl ⟨by rfl, ?_⟩) (by assumption) ?_
      case refine_2 => (intro w hSw; (try dsimp only at hSw); go_simp; first | done | (with_reducible rfl))
      show wpAnyH _ _ _ _ _ _ _ (Act.put _ (some 32) _) _
      simp only [Act.put, List.setIfInBounds_toArray, List.set_cons_zero, List.set_cons_succ]
      refine wpAnyH_take (i := 4) (v := ?_) rfl (by kernel_rfl) (by kernel_rfl) (by kernel_rfl) (fun _ _ _ h => h) (Or.inl ⟨by rfl, ?_⟩) (by assumption) ?_
      case refine_2 => (intro w hSw; (try dsimp only at hSw); go_simp; first | done | (with_reducible rfl))
      show wpAnyH _ _ _ _ _ _ _ (Act.put _ (some 33) _) _
      simp only [Act.put, List.setIfInBounds_toArray, List.set_cons_zero, List.set_cons_succ]
      refine wpAnyH_take (i := 5) (v := ?_) rfl (by kernel_rfl) (by kernel_rfl) (by kernel_rfl) (fun _ _ _ h => h) (Or.inl ⟨by rfl, ?_⟩) (by assumption) ?_
      case refine_2 => (intro w hSw; (try dsimp only at hSw); go_simp; first | done | (with_reducible rfl))
      show wpAnyH _ _ _ _ _ _ _ (Act.put _ (some 34) _) _
      simp only [Act.put, List.setIfInBounds_toArray, List.set_cons_zero, List.set_cons_succ]
      refine wpAnyH_take (i := 6) (v := ?_) rfl (by kernel_rfl) (by kernel_rfl) (by kernel_rfl) (fun _ _ _ h => h) (Or.inl ⟨by rfl, ?_⟩) (by assumption) ?_
      case refine_2 => (intro w hSw; (try dsimp only at hSw); go_simp; first | done | (with_reducible rfl))
      show wpAnyH _ _ _ _ _ _ _ (Act.put _ (some 35) _) _
      simp only [Act.put, List.setIfInBounds_toArray, List.set_cons_zero, List.set_cons_succ]
      refine wpAnyH_take (i := 7) (v := ?_) rfl (by kernel_rfl) (by kernel_rfl) (by kernel_rfl) (fun _ _ _ h => h) (Or.inl ⟨by rfl, ?_⟩) (by assumption) ?_
      case refine_2 => (intro w hSw; (try dsimp only at hSw); go_simp; first | done | (with_reducible rfl))
      show wpAnyH _ _ _ _ _ _ _ (Act.put _ (some 36) _) _
      simp only [Act.put, List.setIfInBounds_toArray, List.set_cons_zero, List.set_cons_succ]
      refine wpAnyH_take (i := 8) (v := ?_) rfl (by kernel_rfl) (by kernel_rfl) (by kernel_rfl) (fun _ _ _ h => h) (Or.inl ⟨by rfl, ?_⟩) (by assumption) ?_
      case refine_2 => (intro w hSw; (try dsimp only at hSw); go_simp; first | done | (with_reducible rfl))
      show wpAnyH _ _ _ _ _ _ _ (Act.put _ (some 37) _) _
      simp only [Act.put, List.setIfInBounds_toArray, List.set_cons_zero, List.set_cons_succ]
      refine wpAnyH_take (i := 9) (v := ?_) rfl (by kernel_rfl) (by kernel_rfl) (by kernel_rfl) (fun _ _ _ h => h) (Or.inl ⟨by rfl, ?_⟩) (by assumption) ?_
      case refine_2 => (intro w hSw; (try dsimp only at hSw); go_simp; first | done | (with_reducible rfl))
      show wpAnyH _ _ _ _ _ _ _ (Act.put _ (some 38) _) _
      simp only [Act.put, List.setIfInBounds_toArray, List.set_cons_zero, List.set_cons_succ]
      refine wpAnyH_take (i := 10) (v := ?_) rfl (by kernel_rfl) (by kernel_rfl) (by kernel_rfl) (fun _ _ _ h => h) (Or.inl ⟨by rfl, ?_⟩) (by assumption) ?_
      case refine_2 => (intro w hSw; (try dsimp only at hSw); go_simp; first | done | (with_reducible rfl))
      show wpAnyH _ _ _ _ _ _ _ (Act.put _ (some 39) _) _
      simp only [Act.put, List.setIfInBounds_toArray, List.set_cons_zero, List.set_cons_succ]
      refine wpAnyH_take (i := 11) (v := ?_) rfl (by kernel_rfl) (by kernel_rfl) (by kernel_rfl) (fun _ _ _ h => h) (Or.inl ⟨by rfl, ?_⟩) (by assumption) ?_
      case refine_2 => (intro w hSw; (try dsimp only at hSw); go_simp; first | done | (with_reducible rfl))
      show wpAnyH _ _ _ _ _ _ _ (Act.put _ (some 40) _) _
      simp only [Act.put, List.setIfInBounds_toArray, List.set_cons_zero, List.set_cons_succ]
      refine wpAnyH_ready (rs := [12]) (by kernel_rfl) (by simp) ?_
      refine (AllReadyH.cons rfl (fun K hK => ?_) AllReadyH.nil)
      go_simp
      refine hK.out _ _ ?_ (fun hHeld => ?_)
      · (exact ⟨hHeld.1.trans HG9.out, HG9.out.cellOf hHeld.2.1 e0 e0, HG9.out.cellOf hHeld.2.2.1 e1 e1, HG9.out.cellOf hHeld.2.2.2.1 e1 e1, HG9.out.cellOf hHeld.2.2.2.2.1 e2 e2, HG9.out.cellOf hHeld.2.2.2.2.2 e2 e2⟩)
      clear hK K
      try simp only [Act.put, List.setIfInBounds_toArray, List.set_cons_zero, List.set_cons_succ]
      refine wpAnyH_done (by kernel_rfl) ?_ _
      clear hHeld
      have hb9 : But mp mp wy w9 := (But.of_below (Below.refl _ _).drew).trans HG9.out
      have hF9 : FMAt w9 q mp mt A T ⟨updP m.has a x, updP m.is a (y &&& zz), m.tmp⟩ := ⟨hb9.cellOf HFY.out.c0 e0 e0, hb9.cellOf HFY.out.c1 e0 e0, HP9.out, HFY.out.tm.of_block (hb9.block mt HFY.out.tm.lt (Ne.symm HFY.out.n3) (Ne.symm HFY.out.n3)), HFY.out.n1, HFY.out.n2, HFY.out.n3⟩
      have hbw : Below w.heap.size w w9 := own_bel2 (step_below HBY.out HBR.out) hb9 hple hple
      have hbs9 : BegS B N A (j + 1) 0 ⟨updP m.has a x, updP m.is a (y &&& zz), m.tmp⟩ := HBS.out.place hjl HA.out HX.out (fun k => by rw [bits_and, HY.out, HZZ.out]; exact ⟨fun h => ⟨h.1.1, h.1.2, h.2.2⟩, fun h => ⟨⟨h.1, h.2.1⟩, h.1, h.2.2⟩⟩)
      have HF9 : Hid (FMAt w9 q mp mt A T ⟨updP m.has a x, updP m.is a (y &&& zz), m.tmp⟩) := hF9
      have HBW : Hid (Below w.heap.size w w9) := hbw
      have HBS9 : Hid (BegS B N A (j + 1) 0 ⟨updP m.has a x, updP m.is a (y &&& zz), m.tmp⟩) := hbs9
      clear hb9 hF9 hbw hbs9
      have hgk := HGK.out
      go_wp2_with fail
      go_roundg (gk - 1)
      case measure => omega
      case rel => exact ⟨j + 1, _, by go_num, by omega, by omega, HF9.out, HBS9.out, HBW.out⟩
    · obtain rfl : j = A.length := by omega
      have hjz : ¬ (A.length : Int) < (A.length : Int) := by omega
      obtain ⟨w5, hw5⟩ : ∃ w5, w5 = wr := ⟨_, rfl⟩
      subst hw5
      have p0 := HWR.out.stat.p0
      have hgq5 := cell_lt p0
      go_wp2
      go_loopg [8, 9, 48] (B.length + 1) (fun gg v8 v9 v wr => ∃ (j : Nat) (m : FM), v = .int .i64 j ∧ j ≤ B.length ∧ gg = B.length + 1 - j ∧ FMAt wr q mp mt A T m ∧ BegS B N A A.length j m ∧ Below w.heap.size w wr)
      case atStart => exact ⟨0, m, rfl, by omega, by omega, HFR.out, HBS.out, HBR.out⟩
      case round =>
        clear HGK HFR HBS HBR HWR p0 hgq5 hwr hsz
        obtain ⟨j, m, rfl, hj, hgk, hfr, hbs, hbr⟩ := hrel
        have HGK : Hid (gk = B.length + 1 - j) := hgk
        have HFR : Hid (FMAt wr q mp mt A T m) := hfr
        have HBS : Hid (BegS B N A A.length j m) := hbs
        have HBR : Hid (Below w.heap.size w wr) := hbr
        have x0 := hfr.c1
        have e5 : q ≠ mt := hfr.n2
        by_cases hjl : j < B.length
        · have hjz : (j : Int) < (B.length : Int) := by omega
          have hst := (HW.out.below hbr).stat
          have y0 := hst.held.wide j hjl
          obtain ⟨wd, hwd⟩ : ∃ b, b = B.getD j false := ⟨_, rfl⟩
          rw [← hwd] at y0
          have hbl := cell_lt y0
          have HWD : Hid (wd = B.getD j false) := hwd
          have hn12 : T.length < maxLen := by unfold maxLen; omega
          obtain ⟨w9, hrun, hp9, hg9⟩ := hfr.tm.put hn12 (t := (j : Int)) ⟨by omega, by omega⟩ ((HT.out _).2 ⟨by omega, by omega⟩) zz
          have HP9 : Hid (TMap w9 mt T (updT m.tmp j zz)) := hp9
          have HG9 : Hid (But mt mt wr w9) := grown_but hg9
          clear hgk hfr hbs hbr hst hwd hp9 hg9
          rcases Bool.eq_false_or_eq_true wd with hc | hc
          · subst hc
            go_wp2
            have hgk := HGK.out
            go_roundg (gk - 1)
            case measure => omega
            case rel => exact ⟨j + 1, m, by go_num, by omega, by omega, HFR.out, HBS.out.skip HWD.out.symm, HBR.out⟩
          · subst hc
            go_wp2
            have hgk := HGK.out
            go_roundg (gk - 1)
            case measure => omega
            case rel =>
              have hb9 := HG9.out
              exact ⟨j + 1, ⟨m.has, m.is, updT m.tmp j zz⟩, by go_num, by omega, by omega, ⟨hb9.cellOf HFR.out.c0 e5 e5, hb9.cellOf HFR.out.c1 e5 e5, HFR.out.pm.of_block (hb9.block mp HFR.out.pm.lt HFR.out.n3 HFR.out.n3), HP9.out, HFR.out.n1, HFR.out.n2, HFR.out.n3⟩, HBS.out.temp HZZ.out HWD.out.symm, own_bel2 HBR.out hb9 htle htle⟩
        · obtain rfl : j = B.length := by omega
          have hjz : ¬ (B.length : Int) < (B.length : Int) := by omega
          clear hgk hfr hbs hbr
          go_wp2
          go_ret
          exact ⟨q, mp, mt, m, rfl, hqle, hple, htle, HFR.out, HBS.out, HBR.out⟩
end Go.Proofs.YtcmnmogmdhofcaaGreat.form

/- What is known ahead of each instruction (world.ahead). -/
namespace Go.Proofs.YtcmnmogmdhofcaaGreat.form
open Go.RowKit Go.Maps
set_option linter.unusedVariables false
set_option maxRecDepth 100000
attribute [local go_sem ↓] Go.wp_at_zero Go.wp_at_succ

theorem made_nil (n : Nat) : madeCells #[Value.pointer none] n = (List.replicate n (Value.pointer none)).toArray := by
  apply Array.ext'
  rw [toList_madeCells_one]
theorem infoFacts : (Tryz.prog.info? 42).map (fun i => (i.zero, i.size, i.bytes)) = some (some (.pointer none), 1, 8) := by kernel_rfl
theorem all_none (w : World) (lim n : Nat) (ty : TypeId) (hl : lim ≤ w.heap.size) (A : List LPlace) (T : List Int) (Q : Nat → Nat × Nat × Nat) : AllAt (w.alloc (.cells (madeCells #[.pointer none] n) ty)) lim w.heap.size A T (List.replicate n none) Q := by
  have hno : ∀ k m, (List.replicate n (none : Option FM)).getD k none = some m → False := fun k m h => by
    by_cases hk : k < n
    · simp [List.getD, hk] at h
    · simp [List.getD, List.getElem?_eq_none (show (List.replicate n (none : Option FM)).length ≤ k by simp; omega)] at h
  refine ⟨hl, by simp, fun k hk => ?_, fun k hk => by simp [go_sem], fun k m h => (hno k m h).elim, fun k m h => (hno k m h).elim, fun k m h => (hno k m h).elim, fun k l m m' _ h => (hno k m h).elim⟩
  have hk' : k < n := by simpa using hk
  have e : pvO (List.replicate n none) Q k = .pointer none := by
    unfold pvO
    have : (List.replicate n (none : Option FM)).getD k none = none := by simp [List.getD, hk']
    rw [this]
  rw [e, made_nil]
  simp [go_sem, hk']

def AheadAns (B : List Bool) (C : List LIns) (s slots : Nat) (R : List LRow) (N : List Int) (lim : Nat) (A : List LPlace) (T : List Int) (w : World) (e : Ending) (w' : World) : Prop :=
  ∃ ab F Q, e = .returned (.slice (some ⟨ab, 0, none⟩) C.length C.length) ∧ AllAt w' lim ab A T F Q ∧ FoundB B C s slots R N F ∧ Below lim w w'

set_option maxHeartbeats 1600000 in
theorem aheadW {w : World} {lim : Nat} {g : WB} {B : List Bool} {C : List LIns} {R : List LRow} {A : List LPlace} {N : List Int} {s slots : Nat} (hW : WorldAt w lim g B C R A N) (hD : Dims B C s slots A N) (hnd : A.Nodup) (hib : ∀ k, k < C.length → insB B C.length (C.getD k .zero) = true) (hio : ∀ k, k < C.length → InsOk B.length C.length (C.getD k .zero)) (hrb : ∀ k, k < C.length → rowB B s slots (C.getD k .zero) (R.getD k .zero) = true) (hRl : R.length = C.length) (T : List Int) (hT : ∀ t, t ∈ T ↔ 0 ≤ t ∧ t < B.length) (hTl : T.length ≤ 12) :
    Calls Tryz.prog 10 #[.pointer (some ⟨g.q, 0, none⟩)] w fun e w' => AheadAns B C s slots R N lim A T w e w' := by
  have hc1 := hD.c1
  have hc40 := hD.c40
  have hc40z : (C.length : Int) ≤ 40 := by omega
  have hc1z : (1 : Int) ≤ (C.length : Int) := by omega
  have HW : Hid (WorldAt w lim g B C R A N) := hW
  have HD : Hid (Dims B C s slots A N) := hD
  have HND : Hid (A.Nodup) := hnd
  have HT : Hid (∀ t, t ∈ T ↔ 0 ≤ t ∧ t < B.length) := hT
  have HIB : Hid (∀ k, k < C.length → insB B C.length (C.getD k .zero) = true) := hib
  have HIO : Hid (∀ k, k < C.length → InsOk B.length C.length (C.getD k .zero)) := hio
  have HRB : Hid (∀ k, k < C.length → rowB B s slots (C.getD k .zero) (R.getD k .zero) = true) := hrb
  have HRL : Hid (R.length = C.length) := hRl
  have hle := hW.le
  have p1 := hW.stat.p1
  have hgq := cell_lt p1
  have hmk := fun wx => run_make_row' (P := Tryz.prog) 40 42 (.pointer none) 8 Tryz.underlying40 infoFacts rfl .i64 .i64 C.length (by omega) (by omega) wx
  clear hW hD hnd hT hib hio hrb hRl
  go_enter Tryz.func10, Tryz.ntmps10
  go_upto_region 2 with fail
  obtain ⟨w1, hw1⟩ : ∃ w1, w1 = w.alloc (.cells (madeCells #[.pointer none] C.length) 42) := ⟨_, rfl⟩
  have hb1 : Below w.heap.size w w1 := by rw [hw1]; exact (Below.refl _ _).alloc (Nat.le_refl _) _
  have hA1 : AllAt w1 lim w.heap.size A T (List.replicate C.length none) (fun _ => (0, 0, 0)) := by rw [hw1]; exact all_none w lim C.length _ hle A T _
  have hz1 : w1.heap.size = w.heap.size + 1 := by rw [hw1]; simp
  rw [← hw1]
  clear hw1
  have HB1 : Hid (Below w.heap.size w w1) := hb1
  have HA1 : Hid (AllAt w1 lim w.heap.size A T (List.replicate C.length none) (fun _ => (0, 0, 0))) := hA1
  have c0 := hA1.cell 0 (by simp; omega)
  have f0 := hA1.free 0 (by simp; omega)
  have hlt := hA1.lt
  have c := beginW (HW.out.below hb1) HD.out T HT.out hTl
  clear hb1 hA1 hz1 hmk
  go_wp2_with (go_at_call 27; refine c.mono ?_; rintro e w2 ⟨q, mp, mt, m, rfl, hq, hp, ht, hf, hbs, hb2⟩; have HF2 : Hid (FMAt w2 q mp mt A T m) := hf; have HBS : Hid (BegS B N A A.length B.length m) := hbs; have HB2 : Hid (Below w1.heap.size w1 w2) := hb2; have c1 := step_cell hb2 c0; have f1 := step_frozen hb2 hlt f0; have hlt1 := cell_lt c1; clear hf hbs hb2)
  clear c c0 f0
  have hrl : (List.replicate C.length (none : Option FM)).length = C.length := by simp
  have hput := HA1.out.put (Nat.le_trans hle HB1.out.size) (x := 0) (by rw [hrl]; omega) (by simp [List.getD, show 0 < C.length by omega]) HB2.out HF2.out hq hp ht
  have hit : BIt B C s slots R N ((List.replicate C.length none).set 0 (some m)) := HBS.out.it HD.out _ (by simp) (by rw [getD_setO (by rw [hrl]; omega), if_pos rfl]) (fun k hk => by
    rw [getD_setO (by rw [hrl]; omega), if_neg hk]
    by_cases h : k < C.length
    · simp [List.getD, h]
    · simp [List.getD, List.getElem?_eq_none (show (List.replicate C.length (none : Option FM)).length ≤ k by simp; omega)])
  obtain ⟨F0, hF0⟩ : ∃ F0, F0 = (List.replicate C.length (none : Option FM)).set 0 (some m) := ⟨_, rfl⟩
  obtain ⟨Q0, hQ0⟩ : ∃ Q0, Q0 = (fun k => if k = 0 then (q, mp, mt) else ((fun _ => (0, 0, 0)) : Nat → Nat × Nat × Nat) k) := ⟨_, rfl⟩
  obtain ⟨w3, hw3⟩ : ∃ w3, w3 = w2.setCell ⟨w.heap.size, 0, none⟩ (.pointer (some ⟨q, 0, none⟩)) := ⟨_, rfl⟩
  rw [← hF0] at hput hit
  rw [← hw3] at hput ⊢
  have hA3 : AllAt w3 lim w.heap.size A T F0 Q0 := by rw [hQ0]; exact hput.1
  have hb3 : Below lim w w3 := (HB1.out.mono hle).trans (hput.2.toBelow HA1.out (Nat.le_trans hle HB1.out.size))
  have HA3 : Hid (AllAt w3 lim w.heap.size A T F0 Q0) := hA3
  have HB3 : Hid (Below lim w w3) := hb3
  have HIT : Hid (BIt B C s slots R N F0) := hit
  clear hput hit hF0 hQ0 hw3 hA3 hb3 c1 f1 hrl
  go_loopg [17] (muA A B.length F0) (fun gg v17 wr => ∃ F Q, AllAt wr lim w.heap.size A T F Q ∧ BIt B C s slots R N F ∧ Below lim w wr ∧ gg = muA A B.length F)
  case atStart => exact ⟨F0, Q0, HA3.out, HIT.out, HB3.out, rfl⟩
  case round =>
    clear HA3 HB3 HIT
    obtain ⟨F, Q, hA, hI, hB, hgk⟩ := hrel
    have HA : Hid (AllAt wr lim w.heap.size A T F Q) := hA
    have HI : Hid (BIt B C s slots R N F) := hI
    have HB : Hid (Below lim w wr) := hB
    have HGK : Hid (gk = muA A B.length F) := hgk
    have c := spreadW (HW.out.keep hB) HD.out HND.out HIB.out HIO.out HRB.out HRL.out T HT.out hTl w.heap.size F Q hA hI C.length
    clear hA hI hB hgk
    go_upto_if 17 with (go_at_call 28; refine c.mono ?_; rintro e w4 ⟨ch, F', Q', rfl, hA4, hB4, hP4⟩; have HA4 : Hid (AllAt w4 lim w.heap.size A T F' Q') := hA4; have HB4 : Hid (Below lim w w4) := HB.out.trans hB4; have HP4 : Hid (PassB B C s slots R N A F F' (fun k x => k < C.length ∧ x ∈ nextsN (C.getD k .zero) k ∧ x < C.length) ch) := hP4; clear hA4 hB4 hP4)
    rcases Bool.eq_false_or_eq_true ch with hc | hc
    · subst hc
      go_wp2
      have hgk := HGK.out
      have hless := HP4.out.less rfl
      go_roundg (muA A B.length F')
      case measure => omega
      case rel => exact ⟨F', Q', HA4.out, HP4.out.it, HB4.out, rfl⟩
    · subst hc
      go_wp2
      go_ret
      exact ⟨w.heap.size, F', Q', rfl, HA4.out, found_all HD.out.num HP4.out.it (HP4.out.done (fun k x a b c => ⟨a, b, c⟩)), HB4.out⟩
end Go.Proofs.YtcmnmogmdhofcaaGreat.form
