/- What the program's own small functions on places answer. -/
import Derived.BigQuiet
import Derived.Deep.QuietTactic
import Derived.Deep.AppendLies
import Derived.Deep.LoopGhost
import Derived.Laws.OwnMore
import Derived.Deep.RegionHeld3
import Derived.Laws.MakeOwn
import Derived.Test.YtikhedkhgpjaaacGreatDoorW08
import Derived.Test.YtikhedkhgpjaaacGreatDoorW29
import Derived.Test.YtikhedkhgpjaaacGreatDoorW06

namespace Go.Proofs.YtikhedkhgpjaaacGreatDoor
set_option linter.unusedVariables false
namespace form
open Go.RowKit
attribute [local go_sem ↓] Go.wp_at_zero Go.wp_at_succ
def singB (d s : LPlace) : Bool := (d.kind == 2) && (s.kind == 1) && (s.n / 2 == d.n)
set_option maxRecDepth 100000 in
set_option maxHeartbeats 1000000 in
theorem hasSingle (d s : LPlace) (w : World) : Calls Tryz.prog 172 #[d.val, s.val] w fun e w' => e = .returned (.bool (singB d s)) ∧ Below w.heap.size w w' := by
  unfold LPlace.val
  have HB : Hid (∀ o1 o2 : Obj, Below w.heap.size w ((w.alloc o1).alloc o2)) := fun o1 o2 => ((Below.refl _ _).alloc (Nat.le_refl _) _).alloc (by simp) _
  rcases Bool.eq_false_or_eq_true (d.kind == 2) with e1 | e1 <;> rcases Bool.eq_false_or_eq_true (s.kind == 1) with e2 | e2
  all_goals
    go_enter Tryz.func172, Tryz.ntmps172
    go_wp2
    go_ret
    refine ⟨ret_bool ?_, HB.out _ _⟩
    unfold singB
    rw [e1, e2]
    simp
def roomV (a b c : Int) : Value := .agg #[.int .i64 0, .int .i64 a, .int .i64 b, .int .i64 c]
def hasB (a b c : Int) (p : LPlace) : Bool :=
  if p.kind = 1 then decide (0 ≤ p.n) && decide (p.n < a) else if p.kind = 2 then decide (0 ≤ p.n) && decide (p.n < b) else if p.kind = 3 then decide (0 ≤ p.n) && decide (p.n < c) else false
set_option maxRecDepth 100000 in
set_option maxHeartbeats 1000000 in
theorem roomHas (a b c : Int) (p : LPlace) (w : World) : Calls Tryz.prog 169 #[roomV a b c, p.val] w fun e w' => e = .returned (.bool (hasB a b c p)) ∧ Below w.heap.size w w' := by
  unfold roomV LPlace.val
  have HB : Hid (∀ o1 o2 : Obj, Below w.heap.size w ((w.alloc o1).alloc o2)) := fun o1 o2 => ((Below.refl _ _).alloc (Nat.le_refl _) _).alloc (by simp) _
  rcases (show p.kind < 0 ∨ (p.kind = 0 ∨ p.kind = 1 ∨ p.kind = 2 ∨ p.kind = 3) ∨ 4 ≤ p.kind by omega) with hk | hk | hk
  · have d1 : decide ((0 : Int) ≤ p.kind) = false := by simp; omega
    have HE : Hid (hasB a b c p = false) := by show hasB a b c p = false; unfold hasB; rw [if_neg (by omega), if_neg (by omega), if_neg (by omega)]
    clear hk
    go_enter Tryz.func169, Tryz.ntmps169
    go_wp2
    go_quiet (fail)
    go_wp2
    go_ret
    exact ⟨ret_bool HE.out.symm, below_drewN (HB.out _ _) _⟩
  · by_cases hn : 0 ≤ p.n
    · have d3 : decide ((0 : Int) ≤ p.n) = true := by simp [hn]
      rcases hk with hk | hk | hk | hk
      all_goals
        have HE : Hid (hasB a b c p = decide (p.n < (if p.kind = 0 then 0 else if p.kind = 1 then a else if p.kind = 2 then b else c))) := by show hasB a b c p = _; unfold hasB; rw [hk]; simp; try omega
        rw [hk]
        rw [hk] at HE
        clear hk hn
        go_enter Tryz.func169, Tryz.ntmps169
        go_wp2
        go_quiet (fail)
        go_wp2
        go_ret
        exact ⟨ret_bool (by rw [HE.out]; simp), below_drewN (HB.out _ _) _⟩
    · have d3 : decide ((0 : Int) ≤ p.n) = false := by simp; omega
      have d1 : decide ((0 : Int) ≤ p.kind) = true := by simp; omega
      have d2 : decide (p.kind < (4 : Int)) = true := by simp; omega
      have HE : Hid (hasB a b c p = false) := by show hasB a b c p = false; unfold hasB; rcases hk with hk | hk | hk | hk <;> rw [hk] <;> simp <;> omega
      clear hk hn
      go_enter Tryz.func169, Tryz.ntmps169
      go_wp2
      go_quiet (fail)
      go_wp2
      go_ret
      exact ⟨ret_bool HE.out.symm, below_drewN (HB.out _ _) _⟩
  · have d1 : decide ((0 : Int) ≤ p.kind) = true := by simp; omega
    have d2 : decide (p.kind < (4 : Int)) = false := by simp; omega
    have HE : Hid (hasB a b c p = false) := by show hasB a b c p = false; unfold hasB; rw [if_neg (by omega), if_neg (by omega), if_neg (by omega)]
    clear hk
    go_enter Tryz.func169, Tryz.ntmps169
    go_wp2
    go_quiet (fail)
    go_wp2
    go_ret
    exact ⟨ret_bool HE.out.symm, below_drewN (HB.out _ _) _⟩
def overO (a b : LPlace) : Bool := ((a.kind == b.kind) && (a.n == b.n)) || singB a b || singB b a
set_option maxRecDepth 100000 in
set_option maxHeartbeats 1000000 in
theorem overlapO (a b : LPlace) (w : World) : Calls Tryz.prog 168 #[a.val, b.val] w fun e w' => e = .returned (.bool (overO a b)) ∧ Below w.heap.size w w' := by
  unfold LPlace.val
  have HB : Hid (∀ o1 o2 : Obj, Below w.heap.size w ((w.alloc o1).alloc o2)) := fun o1 o2 => ((Below.refl _ _).alloc (Nat.le_refl _) _).alloc (by simp) _
  have q57 := eqPlace
  obtain ⟨x, hx⟩ : ∃ x, x = ((a.kind == b.kind) && (a.n == b.n)) := ⟨_, rfl⟩
  obtain ⟨y, hy⟩ : ∃ y, y = singB a b := ⟨_, rfl⟩
  have HO : Hid (overO a b = (x || y || singB b a)) := by show overO a b = _; unfold overO; rw [hx, hy]
  have HY : Hid (singB a b = y) := hy.symm
  have hx2 : ((a.kind == b.kind) && (a.n == b.n)) = x := hx.symm
  clear hx hy
  cases x
  · cases y
    · go_enter Tryz.func168, Tryz.ntmps168
      go_wp2_with fail
      go_at_call 172
      refine (hasSingle a b _).mono ?_
      rw [HY.out]
      rintro e w1 ⟨rfl, hb1⟩
      have c0 : w1.cell? ⟨w.heap.size, 0, none⟩ = some (.int .i64 a.kind) := step_cell hb1 (by simp [go_sem])
      have c1 : w1.cell? ⟨w.heap.size, 1, none⟩ = some (.int .i64 a.n) := step_cell hb1 (by simp [go_sem])
      have c2 : w1.cell? ⟨w.heap.size + 1, 0, none⟩ = some (.int .i64 b.kind) := step_cell hb1 (by simp [go_sem])
      have c3 : w1.cell? ⟨w.heap.size + 1, 1, none⟩ = some (.int .i64 b.n) := step_cell hb1 (by simp [go_sem])
      have HB1 : Hid (Below w.heap.size w w1) := over_alloc (over_alloc hb1)
      clear hb1
      go_wp2_with (go_at_call 172; refine (hasSingle b a _).mono ?_; rintro e w2 ⟨rfl, hb2⟩)
      go_ret
      exact ⟨ret_bool (by rw [HO.out]; rfl), step_below hb2 HB1.out⟩
    · go_enter Tryz.func168, Tryz.ntmps168
      go_wp2_with (go_at_call 172; refine (hasSingle a b _).mono ?_; rw [HY.out]; rintro e w1 ⟨rfl, hb1⟩)
      go_ret
      exact ⟨ret_bool (by rw [HO.out]; rfl), over_alloc (over_alloc hb1)⟩
  · go_enter Tryz.func168, Tryz.ntmps168
    go_wp2
    go_ret
    exact ⟨ret_bool (by rw [HO.out]; rfl), HB.out _ _⟩
end form
/- Registers of a width (color.registers), one that no near one bars (color.isBarred, color.free), whether so many may be (color.singlesMay). -/
namespace form
open Go.RowKit
set_option maxRecDepth 100000
attribute [local go_sem ↓] Go.wp_at_zero Go.wp_at_succ
def rgCs (p : LPlace) : List Value := [.int .i64 p.kind, .int .i64 p.n]
def rgL (k n : Nat) : List LPlace := (List.range n).map (fun i : Nat => (⟨(k : Int), (i : Int)⟩ : LPlace))
theorem rgL_len (k n : Nat) : (rgL k n).length = n := by simp [rgL]
theorem rgL_step (k n : Nat) : rgL k (n + 1) = rgL k n ++ [⟨(k : Int), (n : Int)⟩] := by simp [rgL, List.range_succ]
theorem rgL_get (k n j : Nat) (h : j < n) : (rgL k n).getD j .zero = ⟨(k : Int), (j : Int)⟩ := by simp [rgL, List.getD, h]
def regsL (x : Bool) (n : Nat) : List LPlace := if x then rgL 2 (n / 2) else rgL 1 n
theorem rg_at : ∀ (l : List LPlace) (j : Nat), j < l.length → (l.flatMap rgCs)[j * 2]? = some (.int .i64 (l.getD j .zero).kind) ∧ (l.flatMap rgCs)[j * 2 + 1]? = some (.int .i64 (l.getD j .zero).n)
  | [], j, h => by simp at h
  | p :: l, 0, h => by simp [rgCs]
  | p :: l, j + 1, h => by
    have := rg_at l j (by simpa using h)
    rw [show (j + 1) * 2 = j * 2 + 2 by omega]
    simpa [rgCs, List.flatMap_cons] using this
theorem rg_cell (p : LPlace) (w : World) (ty : TypeId) : ∀ (j : Nat) (u : Value), (rgCs p)[j]? = some u → (w.alloc (.cells #[.int .i64 p.kind, .int .i64 p.n] ty)).cell? ((⟨w.heap.size, 0, none⟩ : Addr).add j) = some u := by
  intro j u h
  rcases j with _ | _ | j
  · simp [rgCs] at h; subst h; simp [go_sem, Addr.add]
  · simp [rgCs] at h; subst h; simp [go_sem, Addr.add]
  · simp [rgCs] at h
theorem infPl : (Tryz.prog.info? 137).map (fun i => (i.zero, i.size, i.bytes)) = some (some (.agg #[.int .i64 0, .int .i64 0]), 2, 16) := by kernel_rfl
structure RgS (w : World) (l : List LPlace) (v : Value) (wr : World) : Prop where
  bel : Below w.heap.size w wr
  own : wr.ownsRow w.heap.size 137 2 v l.length (l.flatMap rgCs)
theorem RgS.push {w : World} {l : List LPlace} {v : Value} {wr w' : World} {o : Obj} (h : RgS w l v wr) {g cap : Nat} {p : LPlace} (hown : w'.ownsRow w.heap.size 137 2 (.slice (some ⟨g, 0, none⟩) (l.length + 1) cap) (l.length + 1) (l.flatMap rgCs ++ rgCs p)) (hgrow : (wr.alloc o).grownBy w' v.ownBlock) : RgS w (l ++ [p]) (.slice (some ⟨g, 0, none⟩) (l.length + 1) cap) w' :=
  ⟨(h.bel.alloc h.bel.size o).grown hgrow (by have := h.bel.size; simp; omega) (fun j hj => (World.ownsRow.lt h.own _ hj).1), by simpa using hown⟩
theorem RgS.form {w : World} {l : List LPlace} {v : Value} {wr : World} (h : RgS w l v wr) : ∃ ao cap, v = .slice ao l.length cap := by
  rcases h.own.2 with ⟨rfl, h0⟩ | ⟨g, cap, cur, rfl, _⟩
  · exact ⟨none, 0, by rw [h0]⟩
  · exact ⟨_, cap, rfl⟩
def RegsAt (w : World) (lo : Nat) (v : Value) (l : List LPlace) : Prop := ∃ ao cap, v = .slice ao l.length cap ∧ (0 < l.length → ∃ b, ao = some ⟨b, 0, none⟩ ∧ lo ≤ b ∧ b < w.heap.size ∧ ∀ j, j < l.length → w.cell? ⟨b, j * 2, none⟩ = some (.int .i64 (l.getD j .zero).kind) ∧ w.cell? ⟨b, j * 2 + 1, none⟩ = some (.int .i64 (l.getD j .zero).n))
theorem RgS.regs {w : World} {l : List LPlace} {v : Value} {wr : World} (h : RgS w l v wr) : RegsAt wr w.heap.size v l := by
  obtain ⟨ao, cap, rfl⟩ := h.form
  refine ⟨ao, cap, rfl, fun hn => ?_⟩
  obtain ⟨g, cap', e, hbg, hlt⟩ := h.own.form hn
  simp only [Value.slice.injEq, true_and] at e
  obtain ⟨rfl, rfl⟩ := e
  refine ⟨g, rfl, hbg, hlt, fun j hj => ?_⟩
  obtain ⟨h1, h2⟩ := rg_at l j hj
  rw [World.ownsRow.cellAt h.own (j * 2) (by omega), World.ownsRow.cellAt h.own (j * 2 + 1) (by omega)]
  exact ⟨h1, h2⟩
set_option maxHeartbeats 1600000 in
theorem registersO (x : Bool) (n : Nat) (hn : n ≤ 16) (w : World) :
    Calls Tryz.prog 133 #[.bool x, .int .i64 n] w fun e w' => (∃ v, e = .returned v ∧ RegsAt w' w.heap.size v (regsL x n)) ∧ Below w.heap.size w w' := by
  obtain ⟨m, hq, hm⟩ : ∃ m : Nat, (n : Int).tdiv 2 = m ∧ m = n / 2 := ⟨n / 2, by rw [Int.tdiv_eq_ediv_of_nonneg (by omega)]; omega, rfl⟩
  have hm8 : m ≤ 16 := by omega
  have HRL : Hid (regsL true n = rgL 2 m ∧ regsL false n = rgL 1 n) := ⟨by unfold regsL; rw [hm]; rfl, rfl⟩
  clear hm
  cases x
  case' false => obtain ⟨kd, hkd⟩ : ∃ kd : Nat, kd = 1 := ⟨1, rfl⟩
  case' true => obtain ⟨kd, hkd⟩ : ∃ kd : Nat, kd = 2 := ⟨2, rfl⟩
  case' false => obtain ⟨c, hc⟩ : ∃ c : Nat, c = n := ⟨n, rfl⟩
  case' true => obtain ⟨c, hc⟩ : ∃ c : Nat, c = m := ⟨m, rfl⟩
  case' false => have HR : Hid (regsL false n = rgL kd c) := HRL.out.2.trans (by rw [hkd, hc])
  case' true => have HR : Hid (regsL true n = rgL kd c) := HRL.out.1.trans (by rw [hkd, hc])
  all_goals
    have hc16 : c ≤ 16 := by omega
    have yc : (c : Int) ≤ 16 := by omega
    have HKD : Hid (kd = _) := hkd
    have HC : Hid (c = _) := hc
    clear HRL
    go_enter Tryz.func133, Tryz.ntmps133
    go_wp2
    subst hc
    clear hkd
    go_loopg [7, 8, 14] (c + 1) (fun gg v7 v8 v14 wr => ∃ (j : Nat), v14 = .int .i64 j ∧ j ≤ c ∧ gg = c + 1 - j ∧ RgS w (rgL kd j) v7 wr)
    case atStart => exact ⟨0, rfl, by omega, by omega, ⟨Below.refl _ _, World.ownsRow_nil _ _ _ _⟩⟩
    case round =>
      obtain ⟨j, rfl, hj, hgk, hps⟩ := hrel
      have HGJ : Hid (gk = c + 1 - j) := hgk
      have HPS : Hid (RgS w (rgL kd j) u7 wr) := hps
      clear hgk hps
      by_cases hjl : j < c
      case neg =>
        obtain rfl : j = c := by omega
        have hjz : ¬ (j : Int) < (j : Int) := by omega
        have HE : Hid (RegsAt wr w.heap.size u7 (rgL kd j) ∧ Below w.heap.size w wr) := ⟨HPS.out.regs, HPS.out.bel⟩
        go_wp2
        go_ret
        exact ⟨⟨u7, rfl, by rw [HR.out]; exact HE.out.1⟩, HE.out.2⟩
      have hjz : (j : Int) < (c : Int) := by omega
      obtain ⟨t0', hi0, hy0, hy1, hy2⟩ := info_parts infPl
      obtain ⟨l, hl0⟩ : ∃ l, l = rgL kd j := ⟨_, rfl⟩
      have hll : l.length ≤ 16 := by rw [hl0, rgL_len]; omega
      have HL0 : Hid (l = rgL kd j) := hl0
      rw [← hl0] at HPS
      clear hl0
      obtain ⟨rao, rcap, hform⟩ := HPS.out.form
      subst hform
      have hwz := HPS.out.bel.size
      have hkd2 := HKD.out
      go_wp2_with (at_builtin; refine wpList_append_lies _ rfl _ _ 123 rfl w.heap.size 137 t0' (.agg #[.int .i64 0, .int .i64 0]) 2 16 Tryz.underlying123 hi0 hy0 hy1 hy2 rfl (by decide) (.slice rao l.length rcap) l.length (l.flatMap rgCs) rfl (World.ownsRow.alloc HPS.out.own _) ⟨wr.heap.size, 0, none⟩ 1 1 (rgCs ⟨(kd : Int), (j : Int)⟩) rfl rfl (by rw [hkd2]; exact rg_cell _ wr _) (by simp [Value.oneCell', rgCs]) (by decide) (by unfold maxLen; omega) (by omega) (by first | omega | (simp; omega)) _ rfl ?_; intro g9 cap9 w9 hown hgrow hat hlt9; have HP : Hid (RgS w (l ++ [⟨(kd : Int), (j : Int)⟩]) (.slice (some ⟨g9, 0, none⟩) (l.length + 1) cap9) w9) := (HPS.out.push hown hgrow); clear hown hgrow hat)
      have hgk := HGJ.out
      go_roundg (gk - 1)
      case measure => omega
      case rel =>
        refine ⟨j + 1, by go_num, by omega, by omega, ?_⟩
        rw [rgL_step, ← HL0.out]
        exact HP.out
def mayN (n : Int) : Bool := decide (0 ≤ n) && decide (n ≤ 16) && (n % 2 == 0)
theorem mayN_bad (n : Int) : mayN n = false ↔ badN n := by
  unfold mayN badN
  simp
  omega
theorem tmod2 {n : Int} (h : 0 ≤ n) : n.tmod 2 = n % 2 := Int.tmod_eq_emod_of_nonneg h
set_option maxHeartbeats 1000000 in
theorem singlesO (n : Int) (w : World) : Calls Tryz.prog 130 #[.int .i64 n] w fun e w' => e = .returned (.bool (mayN n)) ∧ w' = w := by
  by_cases h0 : 0 ≤ n
  · have d0 : decide (0 ≤ n) = true := by simp [h0]
    have hm := tmod2 h0
    by_cases h1 : n ≤ 16
    · have d1 : decide (n ≤ 16) = true := by simp [h1]
      go_enter Tryz.func130, Tryz.ntmps130
      go_wp2
      go_ret
      refine ⟨ret_bool ?_, rfl⟩
      unfold mayN
      rw [d0, d1]
      first | rfl | simp | (rw [hm]; simp)
    · have d1 : decide (n ≤ 16) = false := by simp [h1]
      go_enter Tryz.func130, Tryz.ntmps130
      go_wp2
      go_ret
      refine ⟨ret_bool ?_, rfl⟩
      unfold mayN
      rw [d0, d1]
      rfl
  · have d0 : decide (0 ≤ n) = false := by simp [h0]
    go_enter Tryz.func130, Tryz.ntmps130
    go_wp2
    go_ret
    refine ⟨ret_bool ?_, rfl⟩
    unfold mayN
    rw [d0]
    rfl
def GivAt (w : World) (gv : Nat) (G : List LPlace) : Prop := ∀ j, j < G.length → w.cell? ⟨gv, j * 2, none⟩ = some (.int .i64 (G.getD j .zero).kind) ∧ w.cell? ⟨gv, j * 2 + 1, none⟩ = some (.int .i64 (G.getD j .zero).n)
theorem GivAt.later {w w' : World} {gv : Nat} {G : List LPlace} (h : GivAt w gv G) (hb : Below w.heap.size w w') : GivAt w' gv G := fun j hj => ⟨step_cell hb (h j hj).1, step_cell hb (h j hj).2⟩
def TruAt (w : World) (r : Nat) (R : List Bool) : Prop := ∀ j, j < R.length → w.cell? ⟨r, j, none⟩ = some (.bool (R.getD j false))
theorem TruAt.later {w w' : World} {r : Nat} {R : List Bool} (h : TruAt w r R) (hb : Below w.heap.size w w') : TruAt w' r R := fun j hj => step_cell hb (h j hj)
def Free (q : LPlace) (G : List LPlace) (R : List Bool) : Prop := ∀ k, k < G.length → R.getD k false = true → overO q (G.getD k .zero) = false
def barB (q : LPlace) (G : List LPlace) (R : List Bool) : Bool := (List.range G.length).any fun k => R.getD k false && overO q (G.getD k .zero)
theorem bar_free {q : LPlace} {G : List LPlace} {R : List Bool} : barB q G R = false ↔ Free q G R := by
  unfold barB Free
  simp only [List.any_eq_false, List.mem_range, Bool.and_eq_true, not_and, Bool.not_eq_true]
theorem bar_yes {q : LPlace} {G : List LPlace} {R : List Bool} {k : Nat} (hk : k < G.length) (h1 : R.getD k false = true) (h2 : overO q (G.getD k .zero) = true) : barB q G R = true := by
  unfold barB
  rw [List.any_eq_true]
  exact ⟨k, List.mem_range.2 hk, by rw [h1, h2]; rfl⟩
def BarP (q : LPlace) (G : List LPlace) (R : List Bool) (w : World) (e : Ending) (w' : World) : Prop := e = .returned (.bool (barB q G R)) ∧ Below w.heap.size w w'
set_option maxHeartbeats 1000000 in
theorem barredO (q : LPlace) (gv r c1 c2 : Nat) (G : List LPlace) (R : List Bool) (w : World) (hl : R.length = G.length) (h12 : G.length ≤ 12) (hG : GivAt w gv G) (hR : TruAt w r R) :
    Calls Tryz.prog 160 #[q.val, .slice (some ⟨gv, 0, none⟩) G.length c1, .slice (some ⟨r, 0, none⟩) R.length c2] w fun e w' => BarP q G R w e w' := by
  have HG : Hid (∀ wx, Below w.heap.size w wx → GivAt wx gv G ∧ TruAt wx r R) := fun wx hb => ⟨hG.later hb, hR.later hb⟩
  have HW0 : Hid (∀ o : Obj, Below w.heap.size w (w.alloc o)) := fun o => (Below.refl _ _).alloc (Nat.le_refl _) _
  have y1 : (G.length : Int) ≤ 12 := by omega
  have OVL : Hid (∀ (a b c d : Int) (wx : World), Calls Tryz.prog 168 #[.agg #[.int .i64 a, .int .i64 b], .agg #[.int .i64 c, .int .i64 d]] wx fun e w' => e = .returned (.bool (overO ⟨a, b⟩ ⟨c, d⟩)) ∧ Below wx.heap.size wx w') := fun a b c d wx => overlapO ⟨a, b⟩ ⟨c, d⟩ wx
  clear hG hR
  unfold LPlace.val
  rw [hl]
  go_enter Tryz.func160, Tryz.ntmps160
  go_wp2
  go_loopg [7, 8, 11] (G.length + 1) (fun gg v7 v8 v11 wr => ∃ (k : Nat), v11 = .int .i64 k ∧ k ≤ G.length ∧ gg = G.length + 1 - k ∧ Below w.heap.size w wr ∧ (wr.cell? ⟨w.heap.size, 0, none⟩ = some (.int .i64 q.kind) ∧ wr.cell? ⟨w.heap.size, 1, none⟩ = some (.int .i64 q.n)) ∧ Free q (G.take k) R)
  case atStart => exact ⟨0, rfl, by omega, by omega, HW0.out _, ⟨by simp [go_sem], by simp [go_sem]⟩, fun k hk => by simp at hk⟩
  case round =>
    obtain ⟨k, rfl, hk, hgk, hb, ⟨c0, c1'⟩, hfr⟩ := hrel
    have HGK : Hid (gk = G.length + 1 - k) := hgk
    have HB : Hid (Below w.heap.size w wr) := hb
    have HFR : Hid (Free q (G.take k) R) := hfr
    clear hgk hb hfr
    by_cases hlt : k < G.length
    case neg =>
      have y2 : ¬ (k : Int) < (G.length : Int) := by omega
      obtain rfl : k = G.length := by omega
      go_wp2
      go_ret
      have hf := HFR.out
      rw [List.take_length] at hf
      exact ⟨by rw [bar_free.2 hf]; rfl, HB.out⟩
    have y2 : (k : Int) < (G.length : Int) := by omega
    have y3 : (0 : Int) ≤ (k : Int) := by omega
    obtain ⟨hG1, hR1⟩ := HG.out wr HB.out
    obtain ⟨e0, e1⟩ := hG1 k hlt
    have e2 := hR1 k (by omega)
    clear hG1 hR1
    obtain ⟨p, hp⟩ : ∃ p, p = G.getD k .zero := ⟨_, rfl⟩
    rw [← hp] at e0 e1
    have HP : Hid (p = G.getD k .zero) := hp
    obtain ⟨t, ht⟩ : ∃ t, t = R.getD k false := ⟨_, rfl⟩
    rw [← ht] at e2
    have HT : Hid (t = R.getD k false) := ht
    clear hp ht
    have hw0 : w.heap.size < wr.heap.size := World.block_lt_of_cell? _ _ c0
    have hgv : gv < wr.heap.size := World.block_lt_of_cell? _ _ e0
    have hrr : r < wr.heap.size := World.block_lt_of_cell? _ _ e2
    have HBA : Hid (∀ o : Obj, Below w.heap.size w (wr.alloc o)) := fun o => HB.out.alloc HB.out.size o
    have HCA : Hid ((∀ o : Obj, (wr.alloc o).cell? ⟨w.heap.size, 0, none⟩ = some (.int .i64 q.kind)) ∧ (∀ o : Obj, (wr.alloc o).cell? ⟨w.heap.size, 1, none⟩ = some (.int .i64 q.n))) := ⟨fun o => step_cell ((Below.refl _ _).alloc (Nat.le_refl _) _) c0, fun o => step_cell ((Below.refl _ _).alloc (Nat.le_refl _) _) c1'⟩
    have HST : Hid (∀ b : Bool, (t = true → b = false → overO q p = false) → b = false → Free q (G.take (k + 1)) R) := fun b h hbf j hj htr => by
      have hj2 : j < k + 1 := by simp at hj; omega
      have hgt : ∀ m, j < m → m ≤ G.length → (G.take m).getD j .zero = G.getD j .zero := fun m h1 h2 => by simp [List.getD, h1]
      rw [hgt (k + 1) hj2 (by omega)]
      by_cases e : j < k
      · have := HFR.out j (by simp; omega) htr
        rwa [hgt k e (by omega)] at this
      · obtain rfl : j = k := by omega
        rw [← HP.out]
        exact h (by rw [HT.out]; exact htr) hbf
    cases t
    · go_wp2
      have hgk := HGK.out
      go_roundg (gk - 1)
      case measure => omega
      case rel => exact ⟨k + 1, by go_num, by omega, by omega, by first | exact HBA.out _ | exact (HBA.out _).setCell (by dsimp only; omega) _ | exact ((HBA.out _).setCell (by dsimp only; omega) _).setCell (by dsimp only; omega) _, ⟨HCA.out.1 _, HCA.out.2 _⟩, HST.out false (fun h => by cases h) rfl⟩
    · go_wp2_with (go_at_call 168; refine (OVL.out q.kind q.n p.kind p.n _).mono ?_; rintro e w2 ⟨rfl, hb2⟩; have HB2 : Hid (Below w.heap.size w w2) := step_below hb2 (by first | exact HBA.out _ | exact (HBA.out _).setCell (by dsimp only; omega) _ | exact ((HBA.out _).setCell (by dsimp only; omega) _).setCell (by dsimp only; omega) _); have c2 : w2.cell? ⟨w.heap.size, 0, none⟩ = some (.int .i64 q.kind) := step_cell hb2 (HCA.out.1 _); have c3 : w2.cell? ⟨w.heap.size, 1, none⟩ = some (.int .i64 q.n) := step_cell hb2 (HCA.out.2 _); clear hb2)
      · have ho : overO q p = true := by assumption
        rw [HP.out] at ho
        have hby := bar_yes (q := q) (R := R) hlt (by rw [← HT.out]) ho
        clear ho
        go_ret
        exact ⟨by rw [hby]; rfl, HB2.out⟩
      · have ho : overO q p = false := by assumption
        have hgk := HGK.out
        go_roundg (gk - 1)
        case measure => omega
        case rel => exact ⟨k + 1, by go_num, by omega, by omega, HB2.out, ⟨c2, c3⟩, HST.out false (fun _ _ => ho) rfl⟩
end form
/- The first register that no near one bars (color.free). -/
namespace form
open Go.RowKit
set_option maxRecDepth 100000
attribute [local go_sem ↓] Go.wp_at_zero Go.wp_at_succ
def freeG (l G : List LPlace) (R : List Bool) : Nat → Nat → LPlace
  | 0, _ => .zero
  | f + 1, k => if barB (l.getD k .zero) G R then freeG l G R f (k + 1) else l.getD k .zero
def freeL (l G : List LPlace) (R : List Bool) : LPlace := freeG l G R l.length 0
theorem freeG_is (l G : List LPlace) (R : List Bool) : ∀ f k, k + f ≤ l.length → freeG l G R f k = .zero ∨ ∃ j, j < l.length ∧ freeG l G R f k = l.getD j .zero ∧ Free (freeG l G R f k) G R
  | 0, _, _ => Or.inl rfl
  | f + 1, k, h => by
    simp only [freeG]
    split
    · exact freeG_is l G R f (k + 1) (by omega)
    · rename_i hb
      exact Or.inr ⟨k, by omega, rfl, bar_free.1 (by simpa using hb)⟩
theorem freeL_is (l G : List LPlace) (R : List Bool) : freeL l G R = .zero ∨ ∃ j, j < l.length ∧ freeL l G R = l.getD j .zero ∧ Free (freeL l G R) G R := freeG_is l G R _ _ (by omega)
def FreeP (l G : List LPlace) (R : List Bool) (w : World) (e : Ending) (w' : World) : Prop := e = .returned (freeL l G R).val ∧ Below w.heap.size w w'
set_option maxHeartbeats 1000000 in
theorem freeO (lo : Nat) (v : Value) (l : List LPlace) (gv r c1 c2 : Nat) (G : List LPlace) (R : List Bool) (w : World) (hv : RegsAt w lo v l) (h16 : l.length ≤ 16) (hl : R.length = G.length) (h12 : G.length ≤ 12) (hG : GivAt w gv G) (hR : TruAt w r R) :
    Calls Tryz.prog 132 #[v, .slice (some ⟨gv, 0, none⟩) G.length c1, .slice (some ⟨r, 0, none⟩) R.length c2] w fun e w' => FreeP l G R w e w' := by
  obtain ⟨ao, cap, rfl, hv2⟩ := hv
  have HBR : Hid (∀ (q : LPlace) (wx : World), Below w.heap.size w wx → Calls Tryz.prog 160 #[.agg #[.int .i64 q.kind, .int .i64 q.n], .slice (some ⟨gv, 0, none⟩) G.length c1, .slice (some ⟨r, 0, none⟩) R.length c2] wx fun e w' => BarP q G R wx e w') := fun q wx hb => barredO q gv r c1 c2 G R wx hl h12 (hG.later hb) (hR.later hb)
  have HV : Hid (0 < l.length → ∃ b, ao = some ⟨b, 0, none⟩ ∧ lo ≤ b ∧ b < w.heap.size ∧ ∀ wx, Below w.heap.size w wx → ∀ j, j < l.length → wx.cell? ⟨b, j * 2, none⟩ = some (.int .i64 (l.getD j .zero).kind) ∧ wx.cell? ⟨b, j * 2 + 1, none⟩ = some (.int .i64 (l.getD j .zero).n)) := fun hn => by
    obtain ⟨b, e, h1, h2, h3⟩ := hv2 hn
    exact ⟨b, e, h1, h2, fun wx hb j hj => ⟨step_cell hb (h3 j hj).1, step_cell hb (h3 j hj).2⟩⟩
  have HW0 : Hid (∀ o : Obj, Below w.heap.size w (w.alloc o)) := fun o => (Below.refl _ _).alloc (Nat.le_refl _) _
  have y1 : (l.length : Int) ≤ 16 := by omega
  rw [hl] at HBR ⊢
  clear hG hR hv2 hl
  go_enter Tryz.func132, Tryz.ntmps132
  go_wp2
  go_loopg [8, 11] (l.length + 1) (fun gg v8 v11 wr => ∃ (k : Nat), v11 = .int .i64 k ∧ k ≤ l.length ∧ gg = l.length + 1 - k ∧ Below w.heap.size w wr ∧ (wr.cell? ⟨w.heap.size, 0, none⟩ = some (.int .i64 0) ∧ wr.cell? ⟨w.heap.size, 1, none⟩ = some (.int .i64 0) ∧ wr.frozen? ⟨w.heap.size, 0, none⟩ = false ∧ wr.frozen? ⟨w.heap.size, 1, none⟩ = false) ∧ freeG l G R (l.length - k) k = freeG l G R l.length 0)
  case atStart => exact ⟨0, rfl, by omega, by omega, HW0.out _, ⟨by simp [go_sem], by simp [go_sem], by simp [go_sem], by simp [go_sem]⟩, rfl⟩
  case round =>
    obtain ⟨k, rfl, hk, hgk, hb, ⟨r0, r1, r2, r3⟩, hfg⟩ := hrel
    have HFG : Hid (freeG l G R (l.length - k) k = freeG l G R l.length 0) := hfg
    clear hfg
    have HGK : Hid (gk = l.length + 1 - k) := hgk
    have HB : Hid (Below w.heap.size w wr) := hb
    have hw0 : w.heap.size < wr.heap.size := World.block_lt_of_cell? _ _ r0
    clear hgk hb
    by_cases hlt : k < l.length
    case neg =>
      have y2 : ¬ (k : Int) < (l.length : Int) := by omega
      go_wp2
      have hfl : freeL l G R = .zero := by
        unfold freeL
        rw [← HFG.out, show l.length - k = 0 by omega]
        rfl
      refine bodyPost_ret (v := LPlace.zero.val) ?_ rfl ⟨by rw [hfl], ?_⟩
      · simp [results, Tryz.results132, go_sem, LPlace.val, LPlace.zero, r0, r1]
      · exact (HB.out.setCell (Nat.le_refl _) _).setCell (Nat.le_refl _) _
    have y2 : (k : Int) < (l.length : Int) := by omega
    have y3 : (0 : Int) ≤ (k : Int) := by omega
    obtain ⟨b, hao, -, hb2, hcs⟩ := HV.out (by omega)
    subst hao
    obtain ⟨e0, e1⟩ := hcs wr HB.out k hlt
    clear hcs
    obtain ⟨p, hp⟩ : ∃ p, p = l.getD k .zero := ⟨_, rfl⟩
    rw [← hp] at e0 e1
    have HST : Hid (freeG l G R l.length 0 = if barB p G R then freeG l G R (l.length - (k + 1)) (k + 1) else p) := by
      show freeG l G R l.length 0 = _
      rw [← HFG.out, show l.length - k = l.length - (k + 1) + 1 by omega, hp]
      rfl
    clear hp
    obtain ⟨t, ht0⟩ : ∃ t, t = barB p G R := ⟨_, rfl⟩
    rw [← ht0] at HST
    have HT0 : Hid (barB p G R = t) := ht0.symm
    clear ht0
    have hbw : b < wr.heap.size := World.block_lt_of_cell? _ _ e0
    have HBA : Hid (∀ o : Obj, Below w.heap.size w (wr.alloc o)) := fun o => HB.out.alloc HB.out.size o
    have HCA : Hid (∀ o : Obj, (wr.alloc o).cell? ⟨w.heap.size, 0, none⟩ = some (.int .i64 0) ∧ (wr.alloc o).cell? ⟨w.heap.size, 1, none⟩ = some (.int .i64 0) ∧ (wr.alloc o).frozen? ⟨w.heap.size, 0, none⟩ = false ∧ (wr.alloc o).frozen? ⟨w.heap.size, 1, none⟩ = false) := fun o => by
      have hA : Below wr.heap.size wr (wr.alloc o) := (Below.refl _ _).alloc (Nat.le_refl _) _
      exact ⟨step_cell hA r0, step_cell hA r1, by rw [hA.frozen hw0]; exact r2, by rw [hA.frozen hw0]; exact r3⟩
    go_wp2_with (go_at_call 160; refine (HBR.out p _ (HBA.out _)).mono ?_; rintro e w2 ⟨he, hb2⟩; rw [HT0.out] at he; subst he; have HB2 : Hid (Below w.heap.size w w2) := step_below hb2 (HBA.out _); have c2 : w2.cell? ⟨wr.heap.size, 0, none⟩ = some (.int .i64 p.kind) := step_cell hb2 (by simp [go_sem]); have c3 : w2.cell? ⟨wr.heap.size, 1, none⟩ = some (.int .i64 p.n) := step_cell hb2 (by simp [go_sem]); have s0 := step_cell hb2 (HCA.out _).1; have s1 := step_cell hb2 (HCA.out _).2.1; have s2 : w2.frozen? ⟨w.heap.size, 0, none⟩ = false := (by rw [hb2.frozen (by simp; omega)]; exact (HCA.out _).2.2.1); have s3 : w2.frozen? ⟨w.heap.size, 1, none⟩ = false := (by rw [hb2.frozen (by simp; omega)]; exact (HCA.out _).2.2.2); clear hb2)
    · have ht : t = false := by first | assumption | (rename_i hh; simpa using hh)
      have hfl : freeL l G R = p := by
        have := HST.out
        rw [ht] at this
        exact this
      refine bodyPost_ret (v := p.val) ?_ rfl ⟨by rw [hfl], ?_⟩
      · simp [results, Tryz.results132, go_sem, LPlace.val, s0, s1]
      · exact (HB2.out.setCell (Nat.le_refl _) _).setCell (Nat.le_refl _) _
    · have ht : t = true := by first | assumption | (rename_i hh; simpa using hh)
      have hgk := HGK.out
      go_roundg (gk - 1)
      case measure => omega
      case rel =>
        refine ⟨k + 1, by go_num, by omega, by omega, HB2.out, ⟨s0, s1, s2, s3⟩, ?_⟩
        have := HST.out
        rw [ht] at this
        exact this.symm
end form
/- Registers for temporaries: the program's own color.Make answers as it must. -/
namespace form
open Go.RowKit
set_option maxRecDepth 100000
attribute [local go_sem ↓] Go.wp_at_zero Go.wp_at_succ
theorem over_is (a b : LPlace) : overO a b = overB a b := by
  unfold overO overB singB
  rw [Bool.eq_iff_iff]
  split
  · rename_i h
    simp [h]
    omega
  · split
    · rename_i h1 h2
      simp [h2]
      omega
    · split
      · rename_i h1 h2 h3
        simp [h3]
        omega
      · rename_i h1 h2 h3
        simp
        omega
theorem over_sym (a b : LPlace) : overB a b = overB b a := by
  rw [← over_is, ← over_is]
  unfold overO
  rw [Bool.or_right_comm, show ((a.kind == b.kind) && (a.n == b.n)) = ((b.kind == a.kind) && (b.n == a.n)) by rw [Bool.eq_iff_iff]; simp; omega]
structure GivOk (B : List Bool) (C : List LIns) (n : Nat) (G : List LPlace) : Prop where
  len : G.length = B.length
  reg : ∀ a, a < B.length → ((G.getD a .zero).kind = 0 ∧ (G.getD a .zero).n = 0) ∨ ((G.getD a .zero).kind = (if B.getD a false then 2 else 1) ∧ isB n 0 (G.getD a .zero) = true)
  far : ∀ a b, a < B.length → b < B.length → Near C a b → ¬ (G.getD a .zero).kind = 0 → ¬ (G.getD b .zero).kind = 0 → overB (G.getD a .zero) (G.getD b .zero) = false
theorem rep_get (m j : Nat) : (List.replicate m LPlace.zero).getD j .zero = .zero := by
  simp only [List.getD]
  by_cases h : j < m
  · simp [h]
  · simp [h]
theorem GivOk.start (B : List Bool) (C : List LIns) (n : Nat) : GivOk B C n (List.replicate B.length .zero) :=
  ⟨by simp, fun a ha => by rw [rep_get]; exact Or.inl ⟨rfl, rfl⟩, fun a b _ _ _ h => by rw [rep_get] at h; exact absurd rfl h⟩
theorem set_get (G : List LPlace) (t : Nat) (q : LPlace) (a : Nat) (ht : t < G.length) : (G.set t q).getD a .zero = if a = t then q else G.getD a .zero := by
  simp only [List.getD, List.getElem?_set]
  by_cases e : t = a
  · subst e; simp [ht]
  · rw [if_neg e, if_neg (fun h => e h.symm)]
theorem regs_is {x : Bool} {n : Nat} {q : LPlace} {j : Nat} (h2 : n % 2 = 0) (h16 : n ≤ 16) (hj : j < (regsL x n).length) (hq : q = (regsL x n).getD j .zero) : q.kind = (if x then 2 else 1) ∧ isB n 0 q = true := by
  cases x
  · have hl : (regsL false n).length = n := rgL_len _ _
    have e : (regsL false n).getD j .zero = ⟨1, j⟩ := rgL_get 1 n j (by omega)
    rw [e] at hq
    subst hq
    refine ⟨rfl, ?_⟩
    unfold isB
    simp
    omega
  · have hl : (regsL true n).length = n / 2 := rgL_len _ _
    have e : (regsL true n).getD j .zero = ⟨2, j⟩ := rgL_get 2 (n / 2) j (by omega)
    rw [e] at hq
    subst hq
    refine ⟨rfl, ?_⟩
    unfold isB
    simp
    omega
theorem regs_len (x : Bool) (n : Nat) (h16 : n ≤ 16) : (regsL x n).length ≤ 16 := by
  cases x
  · have hl : (regsL false n).length = n := rgL_len _ _
    omega
  · have hl : (regsL true n).length = n / 2 := rgL_len _ _
    omega
theorem GivOk.step {B : List Bool} {C : List LIns} {n : Nat} {G : List LPlace} (h : GivOk B C n G) (h2 : n % 2 = 0) (h16 : n ≤ 16) {L : List Bool} (hL : NrS B.length L (fun x y => Near C x y)) {t : Nat} (ht : t < B.length) {q : LPlace}
    (hq : q = .zero ∨ ∃ j, j < (regsL (B.getD t false) n).length ∧ q = (regsL (B.getD t false) n).getD j .zero ∧ Free q G (rowF B.length L t)) : GivOk B C n (G.set t q) := by
  have hlen := h.len
  have hfr : ¬ q.kind = 0 → ∀ b, b < B.length → Near C t b → overB q (G.getD b .zero) = false := fun hk b hb hn => by
    rcases hq with rfl | ⟨j, _, _, hf⟩
    · exact absurd rfl hk
    · rw [← over_is]
      exact hf b (by omega) (by rw [getD_rowF hb]; exact (hL.tru t b ht hb).2 hn)
  refine ⟨by simp [hlen], fun a ha => ?_, fun a b ha hb hn k1 k2 => ?_⟩
  · rw [set_get _ _ _ _ (by omega)]
    by_cases e : a = t
    · subst e
      rw [if_pos rfl]
      rcases hq with rfl | ⟨j, hj, hqj, _⟩
      · exact Or.inl ⟨rfl, rfl⟩
      · exact Or.inr (regs_is h2 h16 hj hqj)
    · rw [if_neg e]; exact h.reg a ha
  · rw [set_get _ _ _ _ (by omega)] at k1 k2 ⊢
    rw [set_get _ _ _ _ (by omega)]
    by_cases ea : a = t
    · subst ea
      have hba : ¬ b = a := fun e => hn.1 (by rw [e])
      rw [if_pos rfl] at k1 ⊢
      rw [if_neg hba] at k2 ⊢
      exact hfr k1 b hb hn
    · rw [if_neg ea] at k1 ⊢
      by_cases eb : b = t
      · subst eb
        rw [if_pos rfl] at k2 ⊢
        rw [over_sym]
        exact hfr k2 a ha hn.symm
      · rw [if_neg eb] at k2 ⊢
        exact h.far a b ha hb hn k1 k2
def mkG (B L : List Bool) (n : Nat) : List Nat → List LPlace → List LPlace
  | [], G => G
  | t :: ts, G => mkG B L n ts (G.set t (freeL (regsL (B.getD t false) n) G (rowF B.length L t)))
theorem mkG_ok {B : List Bool} {C : List LIns} {n : Nat} {L : List Bool} (h2 : n % 2 = 0) (h16 : n ≤ 16) (hL : NrS B.length L (fun x y => Near C x y)) : ∀ ts G, (∀ t, t ∈ ts → t < B.length) → GivOk B C n G → GivOk B C n (mkG B L n ts G)
  | [], G, _, h => h
  | t :: ts, G, ht, h => mkG_ok h2 h16 hL ts _ (fun x hx => ht x (List.mem_cons_of_mem _ hx)) (h.step h2 h16 hL (ht t List.mem_cons_self) (freeL_is _ _ _))
noncomputable def nearL (m : Nat) (C : List LIns) : List Bool := (List.range (m * m)).map fun i => @decide (Near C ((i / m : Nat) : Int) ((i % m : Nat) : Int)) (Classical.propDecidable _)
theorem near_flat {m x y : Nat} (hx : x < m) (hy : y < m) : x * m + y < m * m := by
  have : (x + 1) * m ≤ m * m := Nat.mul_le_mul_right m (by omega)
  rw [Nat.add_mul] at this
  omega
theorem nearL_is (m : Nat) (C : List LIns) : NrS m (nearL m C) (fun x y => Near C x y) := by
  refine ⟨by simp [nearL], fun x y hx hy => ?_⟩
  have hl := near_flat hx hy
  have e1 : (x * m + y) / m = x := by rw [Nat.mul_comm, Nat.mul_add_div (by omega), Nat.div_eq_of_lt hy, Nat.add_zero]
  have e2 : (x * m + y) % m = y := by rw [Nat.mul_comm, Nat.mul_add_mod, Nat.mod_eq_of_lt hy]
  unfold getF nearL
  simp only [List.getD, List.getElem?_map, List.getElem?_range hl, Option.map_some, Option.getD_some]
  refine (@decide_eq_true_iff _ (Classical.propDecidable _)).trans ?_
  rw [e1, e2]
theorem near_only {m : Nat} {C : List LIns} {L : List Bool} (h : NrS m L (fun x y => Near C x y)) : L = nearL m C := by
  have g := nearL_is m C
  apply List.ext_getElem (by rw [h.len, g.len])
  intro i h1 h2
  have hi : i < m * m := by rw [← h.len]; exact h1
  have hm : 0 < m := by
    rcases Nat.eq_zero_or_pos m with e | e
    · rw [e] at hi; omega
    · exact e
  have hx : i / m < m := Nat.div_lt_of_lt_mul hi
  have hy : i % m < m := Nat.mod_lt _ hm
  have e : i / m * m + i % m = i := by rw [Nat.mul_comm]; exact Nat.div_add_mod i m
  have a := h.tru _ _ hx hy
  have b := g.tru _ _ hx hy
  unfold getF at a b
  rw [e] at a b
  rw [show L.getD i false = L[i] by simp [List.getD, h1]] at a
  rw [show (nearL m C).getD i false = (nearL m C)[i] by simp [List.getD, h2]] at b
  rw [Bool.eq_iff_iff, a, b]
noncomputable def makeF (B : List Bool) (C : List LIns) (n : Nat) : List LPlace := mkG B (nearL B.length C) n (orderL B (nearL B.length C) n) (List.replicate B.length .zero)
theorem makeF_ok {B : List Bool} {C : List LIns} {n : Nat} (h1 : 1 ≤ B.length) (h2 : n % 2 = 0) (h16 : n ≤ 16) : GivOk B C n (makeF B C n) :=
  mkG_ok h2 h16 (nearL_is _ _) _ _ (orderL_lt (by omega)) (GivOk.start B C n)
theorem flat_set : ∀ (G : List LPlace) (t : Nat) (q : LPlace), ((G.flatMap rgCs).set (t * 2) (.int .i64 q.kind)).set (t * 2 + 1) (.int .i64 q.n) = (G.set t q).flatMap rgCs
  | [], t, q => by simp
  | p :: G, 0, q => by simp [rgCs]
  | p :: G, t + 1, q => by
    have := flat_set G t q
    rw [show (t + 1) * 2 = t * 2 + 2 by omega]
    simpa [rgCs, List.flatMap_cons] using this
theorem made_pl (m : Nat) : madeCells #[Value.int .i64 0, Value.int .i64 0] (m * 2) = ((List.replicate m LPlace.zero).flatMap rgCs).toArray := by
  have e : ∀ k, (List.replicate k LPlace.zero).flatMap rgCs = List.replicate (k * 2) (Value.int .i64 0) := fun k => by
    induction k with
    | zero => rfl
    | succ k ih =>
      rw [List.replicate_succ, List.flatMap_cons, ih, show (k + 1) * 2 = k * 2 + 1 + 1 by omega, List.replicate_succ, List.replicate_succ]
      rfl
  rw [e]
  apply Array.ext
  · simp [madeCells]
  · intro i h1 h2
    simp only [madeCells, Array.getElem_map, Array.getElem_range, List.getElem_toArray, List.getElem_replicate]
    rcases (show i % 2 = 0 ∨ i % 2 = 1 by omega) with h | h
    · simp [h]
    · simp [h]
theorem makePl (m : Nat) (hm : m ≤ 12) (w : World) : (Instr.makeSlice 123 (.int .i64 (m : Int)) (.int .i64 (m : Int))).run Tryz.prog w = .ok (.slice (some ⟨w.heap.size, 0, none⟩) m m) (w.alloc (.cells ((List.replicate m LPlace.zero).flatMap rgCs).toArray 137)) := by
  obtain ⟨i, hi, hz, hs, hb⟩ := info_parts infPl
  have h := run_make (P := Tryz.prog) w 123 137 i _ Tryz.underlying123 hi hz .i64 .i64 (m : Int) (m : Int) (by omega) (by omega) (by rw [hb]; omega) (by omega)
  rw [hs, Int.toNat_natCast] at h
  rw [h, ← made_pl]
  rfl
theorem row_giv {w : World} {gv : Nat} {G : List LPlace} (h : Row w gv 137 (G.flatMap rgCs)) : GivAt w gv G := fun j hj => by
  obtain ⟨h1, h2⟩ := rg_at G j hj
  rw [h.cell, h.cell]
  exact ⟨h1, h2⟩
theorem row_places {w : World} {gv cap : Nat} {G : List LPlace} (h : Row w gv 137 (G.flatMap rgCs)) (hl : G.length ≤ 12) : PlacesIs w (.slice (some ⟨gv, 0, none⟩) G.length cap) G :=
  ⟨_, cap, rfl, by omega, fun _ => ⟨gv, 0, rfl, h.lt, fun k hk => by simpa using row_giv h k hk⟩⟩
end form
end Go.Proofs.YtikhedkhgpjaaacGreatDoor
