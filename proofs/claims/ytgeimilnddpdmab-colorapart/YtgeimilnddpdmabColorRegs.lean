/- Registers of a width (color.registers), one that no near one bars (color.isBarred, color.free), whether so many may be (color.singlesMay). -/
import Derived.Test.YtgeimilnddpdmabColorAns
import Derived.Test.YtgeimilnddpdmabPlaceOwn
import Derived.Test.YtgeimilnddpdmabLiveBits
import Derived.Deep.AppendLies
import Derived.Deep.LoopGhost
import Derived.Laws.OwnMore
namespace Go.Proofs.Ytgeimilnddpdmab.form
open Go.RowKit
set_option linter.unusedVariables false
set_option maxRecDepth 100000
attribute [local go_sem ↓] Go.wp_at_zero Go.wp_at_succ

def rgCs (p : LPlace) : List Value := [.int .i64 p.kind, .int .i64 p.n]
def rgL (k n : Nat) : List LPlace := (List.range n).map (fun i : Nat => (⟨(k : Int), (i : Int)⟩ : LPlace))
theorem rgL_len (k n : Nat) : (rgL k n).length = n := by simp [rgL]
theorem rgL_step (k n : Nat) : rgL k (n + 1) = rgL k n ++ [⟨(k : Int), (n : Int)⟩] := by simp [rgL, List.range_succ]
theorem rgL_get (k n j : Nat) (h : j < n) : (rgL k n).getD j .zero = ⟨(k : Int), (j : Int)⟩ := by simp [rgL, List.getD, h]
def regsL (x : Bool) (n : Nat) : List LPlace := if x then rgL 2 (n / 2) else rgL 1 n

theorem rg_at : ∀ (l : List LPlace) (j : Nat), j < l.length → (l.flatMap rgCs)[j * 2]? = some (.int .i64 (l.getD j .zero).kind) ∧ (l.flatMap rgCs)[j * 2 + 1]? = some (.int .i64 (l.getD j .zero).n)
  | [], j, h => by simp at h
  | p :: l, 0, h => by simp [rgCs]
  | p :: l, j + 1, h => by
    have := rg_at l j (by simpa using h)
    rw [show (j + 1) * 2 = j * 2 + 2 by omega]
    simpa [rgCs, List.flatMap_cons] using this
theorem rg_cell (p : LPlace) (w : World) (ty : TypeId) : ∀ (j : Nat) (u : Value), (rgCs p)[j]? = some u → (w.alloc (.cells #[.int .i64 p.kind, .int .i64 p.n] ty)).cell? ((⟨w.heap.size, 0, none⟩ : Addr).add j) = some u := by
  intro j u h
  rcases j with _ | _ | j
  · simp [rgCs] at h; subst h; simp [go_sem, Addr.add]
  · simp [rgCs] at h; subst h; simp [go_sem, Addr.add]
  · simp [rgCs] at h
theorem infPl : (Try.prog.info? 34).map (fun i => (i.zero, i.size, i.bytes)) = some (some (.agg #[.int .i64 0, .int .i64 0]), 2, 16) := by kernel_rfl

/-- The registers so far. -/
structure RgS (w : World) (l : List LPlace) (v : Value) (wr : World) : Prop where
  bel : Below w.heap.size w wr
  own : wr.ownsRow w.heap.size 34 2 v l.length (l.flatMap rgCs)
theorem RgS.push {w : World} {l : List LPlace} {v : Value} {wr w' : World} {o : Obj} (h : RgS w l v wr) {g cap : Nat} {p : LPlace} (hown : w'.ownsRow w.heap.size 34 2 (.slice (some ⟨g, 0, none⟩) (l.length + 1) cap) (l.length + 1) (l.flatMap rgCs ++ rgCs p)) (hgrow : (wr.alloc o).grownBy w' v.ownBlock) : RgS w (l ++ [p]) (.slice (some ⟨g, 0, none⟩) (l.length + 1) cap) w' :=
  ⟨(h.bel.alloc h.bel.size o).grown hgrow (by have := h.bel.size; simp; omega) (fun j hj => (World.ownsRow.lt h.own _ hj).1), by simpa using hown⟩
theorem RgS.form {w : World} {l : List LPlace} {v : Value} {wr : World} (h : RgS w l v wr) : ∃ ao cap, v = .slice ao l.length cap := by
  rcases h.own.2 with ⟨rfl, h0⟩ | ⟨g, cap, cur, rfl, _⟩
  · exact ⟨none, 0, by rw [h0]⟩
  · exact ⟨_, cap, rfl⟩

/-- Places in a row of its own. -/
def RegsAt (w : World) (lo : Nat) (v : Value) (l : List LPlace) : Prop := ∃ ao cap, v = .slice ao l.length cap ∧ (0 < l.length → ∃ b, ao = some ⟨b, 0, none⟩ ∧ lo ≤ b ∧ b < w.heap.size ∧ ∀ j, j < l.length → w.cell? ⟨b, j * 2, none⟩ = some (.int .i64 (l.getD j .zero).kind) ∧ w.cell? ⟨b, j * 2 + 1, none⟩ = some (.int .i64 (l.getD j .zero).n))
theorem RgS.regs {w : World} {l : List LPlace} {v : Value} {wr : World} (h : RgS w l v wr) : RegsAt wr w.heap.size v l := by
  obtain ⟨ao, cap, rfl⟩ := h.form
  refine ⟨ao, cap, rfl, fun hn => ?_⟩
  obtain ⟨g, cap', e, hbg, hlt⟩ := h.own.form hn
  simp only [Value.slice.injEq, true_and] at e
  obtain ⟨rfl, rfl⟩ := e
  refine ⟨g, rfl, hbg, hlt, fun j hj => ?_⟩
  obtain ⟨h1, h2⟩ := rg_at l j hj
  rw [World.ownsRow.cellAt h.own (j * 2) (by omega), World.ownsRow.cellAt h.own (j * 2 + 1) (by omega)]
  exact ⟨h1, h2⟩
theorem RegsAt.later {w w' : World} {lo : Nat} {v : Value} {l : List LPlace} (h : RegsAt w lo v l) (hb : Below w.heap.size w w') : RegsAt w' lo v l := by
  obtain ⟨ao, cap, e, h2⟩ := h
  refine ⟨ao, cap, e, fun hn => ?_⟩
  obtain ⟨b, e2, h3, h4, h5⟩ := h2 hn
  exact ⟨b, e2, h3, Nat.lt_of_lt_of_le h4 hb.size, fun j hj => ⟨step_cell hb (h5 j hj).1, step_cell hb (h5 j hj).2⟩⟩

set_option maxHeartbeats 1600000 in
theorem registersO (x : Bool) (n : Nat) (hn : n ≤ 16) (w : World) :
    Calls Try.prog 24 #[.bool x, .int .i64 n] w fun e w' => (∃ v, e = .returned v ∧ RegsAt w' w.heap.size v (regsL x n)) ∧ Below w.heap.size w w' := by
  obtain ⟨m, hq, hm⟩ : ∃ m : Nat, (n : Int).tdiv 2 = m ∧ m = n / 2 := ⟨n / 2, by rw [Int.tdiv_eq_ediv_of_nonneg (by omega)]; omega, rfl⟩
  have hm8 : m ≤ 16 := by omega
  have HRL : Hid (regsL true n = rgL 2 m ∧ regsL false n = rgL 1 n) := ⟨by unfold regsL; rw [hm]; rfl, rfl⟩
  clear hm
  cases x
  case' false => obtain ⟨kd, hkd⟩ : ∃ kd : Nat, kd = 1 := ⟨1, rfl⟩
  case' true => obtain ⟨kd, hkd⟩ : ∃ kd : Nat, kd = 2 := ⟨2, rfl⟩
  case' false => obtain ⟨c, hc⟩ : ∃ c : Nat, c = n := ⟨n, rfl⟩
  case' true => obtain ⟨c, hc⟩ : ∃ c : Nat, c = m := ⟨m, rfl⟩
  case' false => have HR : Hid (regsL false n = rgL kd c) := HRL.out.2.trans (by rw [hkd, hc])
  case' true => have HR : Hid (regsL true n = rgL kd c) := HRL.out.1.trans (by rw [hkd, hc])
  all_goals
    have hc16 : c ≤ 16 := by omega
    have yc : (c : Int) ≤ 16 := by omega
    have HKD : Hid (kd = _) := hkd
    have HC : Hid (c = _) := hc
    clear HRL
    go_enter Try.func24, Try.ntmps24
    go_wp2
    subst hc
    clear hkd
    go_loopg [7, 8, 14] (c + 1) (fun gg v7 v8 v14 wr => ∃ (j : Nat), v14 = .int .i64 j ∧ j ≤ c ∧ gg = c + 1 - j ∧ RgS w (rgL kd j) v7 wr)
    case atStart => exact ⟨0, rfl, by omega, by omega, ⟨Below.refl _ _, World.ownsRow_nil _ _ _ _⟩⟩
    case round =>
      obtain ⟨j, rfl, hj, hgk, hps⟩ := hrel
      have HGJ : Hid (gk = c + 1 - j) := hgk
      have HPS : Hid (RgS w (rgL kd j) u7 wr) := hps
      clear hgk hps
      by_cases hjl : j < c
      case neg =>
        obtain rfl : j = c := by omega
        have hjz : ¬ (j : Int) < (j : Int) := by omega
        have HE : Hid (RegsAt wr w.heap.size u7 (rgL kd j) ∧ Below w.heap.size w wr) := ⟨HPS.out.regs, HPS.out.bel⟩
        go_wp2
        go_ret
        exact ⟨⟨u7, rfl, by rw [HR.out]; exact HE.out.1⟩, HE.out.2⟩
      have hjz : (j : Int) < (c : Int) := by omega
      obtain ⟨t0', hi0, hy0, hy1, hy2⟩ := info_parts infPl
      obtain ⟨l, hl0⟩ : ∃ l, l = rgL kd j := ⟨_, rfl⟩
      have hll : l.length ≤ 16 := by rw [hl0, rgL_len]; omega
      have HL0 : Hid (l = rgL kd j) := hl0
      rw [← hl0] at HPS
      clear hl0
      obtain ⟨rao, rcap, hform⟩ := HPS.out.form
      subst hform
      have hwz := HPS.out.bel.size
      have hkd2 := HKD.out
      go_wp2_with (at_builtin; refine wpList_append_lies _ rfl _ _ 26 rfl w.heap.size 34 t0' (.agg #[.int .i64 0, .int .i64 0]) 2 16 Try.underlying26 hi0 hy0 hy1 hy2 rfl (by decide) (.slice rao l.length rcap) l.length (l.flatMap rgCs) rfl (World.ownsRow.alloc HPS.out.own _) ⟨wr.heap.size, 0, none⟩ 1 1 (rgCs ⟨(kd : Int), (j : Int)⟩) rfl rfl (by rw [hkd2]; exact rg_cell _ wr _) (by simp [Value.oneCell', rgCs]) (by decide) (by unfold maxLen; omega) (by omega) (by first | omega | (simp; omega)) _ rfl ?_; intro g9 cap9 w9 hown hgrow hat hlt9; have HP : Hid (RgS w (l ++ [⟨(kd : Int), (j : Int)⟩]) (.slice (some ⟨g9, 0, none⟩) (l.length + 1) cap9) w9) := (HPS.out.push hown hgrow); clear hown hgrow hat)
      have hgk := HGJ.out
      go_roundg (gk - 1)
      case measure => omega
      case rel =>
        refine ⟨j + 1, by go_num, by omega, by omega, ?_⟩
        rw [rgL_step, ← HL0.out]
        exact HP.out


/-- So many may be. -/
def mayN (n : Int) : Bool := decide (0 ≤ n) && decide (n ≤ 16) && (n % 2 == 0)
theorem mayN_bad (n : Int) : mayN n = false ↔ badN n := by
  unfold mayN badN
  simp
  omega
theorem tmod2 {n : Int} (h : 0 ≤ n) : n.tmod 2 = n % 2 := Int.tmod_eq_emod_of_nonneg h
set_option maxHeartbeats 1000000 in
theorem singlesO (n : Int) (w : World) : Calls Try.prog 21 #[.int .i64 n] w fun e w' => e = .returned (.bool (mayN n)) ∧ w' = w := by
  by_cases h0 : 0 ≤ n
  · have d0 : decide (0 ≤ n) = true := by simp [h0]
    have hm := tmod2 h0
    by_cases h1 : n ≤ 16
    · have d1 : decide (n ≤ 16) = true := by simp [h1]
      go_enter Try.func21, Try.ntmps21
      go_wp2
      go_ret
      refine ⟨ret_bool ?_, rfl⟩
      unfold mayN
      rw [d0, d1]
      first | rfl | simp | (rw [hm]; simp)
    · have d1 : decide (n ≤ 16) = false := by simp [h1]
      go_enter Try.func21, Try.ntmps21
      go_wp2
      go_ret
      refine ⟨ret_bool ?_, rfl⟩
      unfold mayN
      rw [d0, d1]
      rfl
  · have d0 : decide (0 ≤ n) = false := by simp [h0]
    go_enter Try.func21, Try.ntmps21
    go_wp2
    go_ret
    refine ⟨ret_bool ?_, rfl⟩
    unfold mayN
    rw [d0]
    rfl

/-- Registers that were given, in a row. -/
def GivAt (w : World) (gv : Nat) (G : List LPlace) : Prop := ∀ j, j < G.length → w.cell? ⟨gv, j * 2, none⟩ = some (.int .i64 (G.getD j .zero).kind) ∧ w.cell? ⟨gv, j * 2 + 1, none⟩ = some (.int .i64 (G.getD j .zero).n)
theorem GivAt.later {w w' : World} {gv : Nat} {G : List LPlace} (h : GivAt w gv G) (hb : Below w.heap.size w w') : GivAt w' gv G := fun j hj => ⟨step_cell hb (h j hj).1, step_cell hb (h j hj).2⟩
/-- Truths in a row. -/
def TruAt (w : World) (r : Nat) (R : List Bool) : Prop := ∀ j, j < R.length → w.cell? ⟨r, j, none⟩ = some (.bool (R.getD j false))
theorem TruAt.later {w w' : World} {r : Nat} {R : List Bool} (h : TruAt w r R) (hb : Below w.heap.size w w') : TruAt w' r R := fun j hj => step_cell hb (h j hj)

/-- It overlaps none of those that near ones have. -/
def Free (q : LPlace) (G : List LPlace) (R : List Bool) : Prop := ∀ k, k < G.length → R.getD k false = true → overO q (G.getD k .zero) = false

def BarP (q : LPlace) (G : List LPlace) (R : List Bool) (w : World) (e : Ending) (w' : World) : Prop := (∃ b, e = .returned (.bool b) ∧ (b = false → Free q G R)) ∧ Below w.heap.size w w'

set_option maxHeartbeats 1000000 in
theorem barredO (q : LPlace) (gv r c1 c2 : Nat) (G : List LPlace) (R : List Bool) (w : World) (hl : R.length = G.length) (h12 : G.length ≤ 12) (hG : GivAt w gv G) (hR : TruAt w r R) :
    Calls Try.prog 58 #[q.val, .slice (some ⟨gv, 0, none⟩) G.length c1, .slice (some ⟨r, 0, none⟩) R.length c2] w fun e w' => BarP q G R w e w' := by
  have HG : Hid (∀ wx, Below w.heap.size w wx → GivAt wx gv G ∧ TruAt wx r R) := fun wx hb => ⟨hG.later hb, hR.later hb⟩
  have HW0 : Hid (∀ o : Obj, Below w.heap.size w (w.alloc o)) := fun o => (Below.refl _ _).alloc (Nat.le_refl _) _
  have y1 : (G.length : Int) ≤ 12 := by omega
  have OVL : Hid (∀ (a b c d : Int) (wx : World), Calls Try.prog 95 #[.agg #[.int .i64 a, .int .i64 b], .agg #[.int .i64 c, .int .i64 d]] wx fun e w' => e = .returned (.bool (overO ⟨a, b⟩ ⟨c, d⟩)) ∧ Below wx.heap.size wx w') := fun a b c d wx => overlapO ⟨a, b⟩ ⟨c, d⟩ wx
  clear hG hR
  unfold LPlace.val
  rw [hl]
  go_enter Try.func58, Try.ntmps58
  go_wp2
  go_loopg [7, 8, 11] (G.length + 1) (fun gg v7 v8 v11 wr => ∃ (k : Nat), v11 = .int .i64 k ∧ k ≤ G.length ∧ gg = G.length + 1 - k ∧ Below w.heap.size w wr ∧ (wr.cell? ⟨w.heap.size, 0, none⟩ = some (.int .i64 q.kind) ∧ wr.cell? ⟨w.heap.size, 1, none⟩ = some (.int .i64 q.n)) ∧ Free q (G.take k) R)
  case atStart => exact ⟨0, rfl, by omega, by omega, HW0.out _, ⟨by simp [go_sem], by simp [go_sem]⟩, fun k hk => by simp at hk⟩
  case round =>
    obtain ⟨k, rfl, hk, hgk, hb, ⟨c0, c1'⟩, hfr⟩ := hrel
    have HGK : Hid (gk = G.length + 1 - k) := hgk
    have HB : Hid (Below w.heap.size w wr) := hb
    have HFR : Hid (Free q (G.take k) R) := hfr
    clear hgk hb hfr
    by_cases hlt : k < G.length
    case neg =>
      have y2 : ¬ (k : Int) < (G.length : Int) := by omega
      obtain rfl : k = G.length := by omega
      go_wp2
      go_ret
      refine ⟨⟨false, rfl, fun _ => ?_⟩, HB.out⟩
      have := HFR.out
      rwa [List.take_length] at this
    have y2 : (k : Int) < (G.length : Int) := by omega
    have y3 : (0 : Int) ≤ (k : Int) := by omega
    obtain ⟨hG1, hR1⟩ := HG.out wr HB.out
    obtain ⟨e0, e1⟩ := hG1 k hlt
    have e2 := hR1 k (by omega)
    clear hG1 hR1
    obtain ⟨p, hp⟩ : ∃ p, p = G.getD k .zero := ⟨_, rfl⟩
    rw [← hp] at e0 e1
    have HP : Hid (p = G.getD k .zero) := hp
    obtain ⟨t, ht⟩ : ∃ t, t = R.getD k false := ⟨_, rfl⟩
    rw [← ht] at e2
    have HT : Hid (t = R.getD k false) := ht
    clear hp ht
    have hw0 : w.heap.size < wr.heap.size := World.block_lt_of_cell? _ _ c0
    have hgv : gv < wr.heap.size := World.block_lt_of_cell? _ _ e0
    have hrr : r < wr.heap.size := World.block_lt_of_cell? _ _ e2
    have HBA : Hid (∀ o : Obj, Below w.heap.size w (wr.alloc o)) := fun o => HB.out.alloc HB.out.size o
    have HCA : Hid ((∀ o : Obj, (wr.alloc o).cell? ⟨w.heap.size, 0, none⟩ = some (.int .i64 q.kind)) ∧ (∀ o : Obj, (wr.alloc o).cell? ⟨w.heap.size, 1, none⟩ = some (.int .i64 q.n))) := ⟨fun o => step_cell ((Below.refl _ _).alloc (Nat.le_refl _) _) c0, fun o => step_cell ((Below.refl _ _).alloc (Nat.le_refl _) _) c1'⟩
    have HST : Hid (∀ b : Bool, (t = true → b = false → overO q p = false) → b = false → Free q (G.take (k + 1)) R) := fun b h hbf j hj htr => by
      have hj2 : j < k + 1 := by simp at hj; omega
      have hgt : ∀ m, j < m → m ≤ G.length → (G.take m).getD j .zero = G.getD j .zero := fun m h1 h2 => by simp [List.getD, h1]
      rw [hgt (k + 1) hj2 (by omega)]
      by_cases e : j < k
      · have := HFR.out j (by simp; omega) htr
        rwa [hgt k e (by omega)] at this
      · obtain rfl : j = k := by omega
        rw [← HP.out]
        exact h (by rw [HT.out]; exact htr) hbf
    cases t
    · go_wp2
      have hgk := HGK.out
      go_roundg (gk - 1)
      case measure => omega
      case rel => exact ⟨k + 1, by go_num, by omega, by omega, by first | exact HBA.out _ | exact (HBA.out _).setCell (by dsimp only; omega) _ | exact ((HBA.out _).setCell (by dsimp only; omega) _).setCell (by dsimp only; omega) _, ⟨HCA.out.1 _, HCA.out.2 _⟩, HST.out false (fun h => by cases h) rfl⟩
    · go_wp2_with (go_at_call 95; refine (OVL.out q.kind q.n p.kind p.n _).mono ?_; rintro e w2 ⟨rfl, hb2⟩; have HB2 : Hid (Below w.heap.size w w2) := step_below hb2 (by first | exact HBA.out _ | exact (HBA.out _).setCell (by dsimp only; omega) _ | exact ((HBA.out _).setCell (by dsimp only; omega) _).setCell (by dsimp only; omega) _); have c2 : w2.cell? ⟨w.heap.size, 0, none⟩ = some (.int .i64 q.kind) := step_cell hb2 (HCA.out.1 _); have c3 : w2.cell? ⟨w.heap.size, 1, none⟩ = some (.int .i64 q.n) := step_cell hb2 (HCA.out.2 _); clear hb2)
      · go_ret
        exact ⟨⟨true, rfl, fun h => by cases h⟩, HB2.out⟩
      · have ho : overO q p = false := by assumption
        have hgk := HGK.out
        go_roundg (gk - 1)
        case measure => omega
        case rel => exact ⟨k + 1, by go_num, by omega, by omega, HB2.out, ⟨c2, c3⟩, HST.out false (fun _ _ => ho) rfl⟩

end Go.Proofs.Ytgeimilnddpdmab.form
