/- Places held against each other (== on structs). -/
import Derived.Test.YtcmnmogmdhofcabGreatProg
import Derived.Laws.StructEq
import Derived.WalkKit
import Derived.BigQuiet
import Derived.Deep.QuietTactic
import Derived.Shelf.SlMaps.Clone
import Derived.Laws.EntriesVeiled
import Derived.Deep.RegionHeld3
import Derived.Test.YtcmnmogmdhofcabGreatI04
import Derived.Test.YtcmnmogmdhofcabGreatI12

namespace Go.Proofs.YtcmnmogmdhofcabGreat.form
open Go.RowKit
set_option linter.unusedVariables false

theorem eqPlace (w : World) (a b c d : Int) : (binOp .eql 37 (.agg #[.int .i64 a, .int .i64 b]) (.agg #[.int .i64 c, .int .i64 d])).run Tryz.prog w = .ok (.bool ((a == c) && (b == d))) w := by
  have hu := Tryz.underlying37
  have h3 : Tryz.prog.underlying 3 = some (.int .i64) := Tryz.underlying3
  rw [run_eql_struct, run_equalIn_agg w 9999 37 _ _ (by kernel_rfl) (by kernel_rfl)]
  simp [go_sem, Program.fieldsOf, hu]
  by_cases e1 : a = c <;> by_cases e2 : b = d <;> simp [e1, e2]

end Go.Proofs.YtcmnmogmdhofcabGreat.form

/- What the program's own small functions on places answer. -/
namespace Go.Proofs.YtcmnmogmdhofcabGreat.form
open Go.RowKit
set_option linter.unusedVariables false
attribute [local go_sem ↓] Go.wp_at_zero Go.wp_at_succ

def singB (d s : LPlace) : Bool := (d.kind == 2) && (s.kind == 1) && (s.n / 2 == d.n)

set_option maxRecDepth 100000 in
set_option maxHeartbeats 1000000 in
theorem hasSingle (d s : LPlace) (w : World) : Calls Tryz.prog 157 #[d.val, s.val] w fun e w' => e = .returned (.bool (singB d s)) ∧ Below w.heap.size w w' := by
  unfold LPlace.val
  have HB : Hid (∀ o1 o2 : Obj, Below w.heap.size w ((w.alloc o1).alloc o2)) := fun o1 o2 => ((Below.refl _ _).alloc (Nat.le_refl _) _).alloc (by simp) _
  rcases Bool.eq_false_or_eq_true (d.kind == 2) with e1 | e1 <;> rcases Bool.eq_false_or_eq_true (s.kind == 1) with e2 | e2
  all_goals
    go_enter Tryz.func157, Tryz.ntmps157
    go_wp2
    go_ret
    refine ⟨ret_bool ?_, HB.out _ _⟩
    unfold singB
    rw [e1, e2]
    simp

def roomV (a b c : Int) : Value := .agg #[.int .i64 0, .int .i64 a, .int .i64 b, .int .i64 c]
def hasB (a b c : Int) (p : LPlace) : Bool :=
  if p.kind = 1 then decide (0 ≤ p.n) && decide (p.n < a) else if p.kind = 2 then decide (0 ≤ p.n) && decide (p.n < b) else if p.kind = 3 then decide (0 ≤ p.n) && decide (p.n < c) else false

set_option maxRecDepth 100000 in
set_option maxHeartbeats 1000000 in
theorem roomHas (a b c : Int) (p : LPlace) (w : World) : Calls Tryz.prog 124 #[roomV a b c, p.val] w fun e w' => e = .returned (.bool (hasB a b c p)) ∧ Below w.heap.size w w' := by
  unfold roomV LPlace.val
  have HB : Hid (∀ o1 o2 : Obj, Below w.heap.size w ((w.alloc o1).alloc o2)) := fun o1 o2 => ((Below.refl _ _).alloc (Nat.le_refl _) _).alloc (by simp) _
  rcases (show p.kind < 0 ∨ (p.kind = 0 ∨ p.kind = 1 ∨ p.kind = 2 ∨ p.kind = 3) ∨ 4 ≤ p.kind by omega) with hk | hk | hk
  · have d1 : decide ((0 : Int) ≤ p.kind) = false := by simp; omega
    have HE : Hid (hasB a b c p = false) := by show hasB a b c p = false; unfold hasB; rw [if_neg (by omega), if_neg (by omega), if_neg (by omega)]
    clear hk
    go_enter Tryz.func124, Tryz.ntmps124
    go_wp2
    go_quiet (fail)
    go_wp2
    go_ret
    exact ⟨ret_bool HE.out.symm, below_drewN (HB.out _ _) _⟩
  · by_cases hn : 0 ≤ p.n
    · have d3 : decide ((0 : Int) ≤ p.n) = true := by simp [hn]
      rcases hk with hk | hk | hk | hk
      all_goals
        have HE : Hid (hasB a b c p = decide (p.n < (if p.kind = 0 then 0 else if p.kind = 1 then a else if p.kind = 2 then b else c))) := by show hasB a b c p = _; unfold hasB; rw [hk]; simp; try omega
        rw [hk]
        rw [hk] at HE
        clear hk hn
        go_enter Tryz.func124, Tryz.ntmps124
        go_wp2
        go_quiet (fail)
        go_wp2
        go_ret
        exact ⟨ret_bool (by rw [HE.out]; simp), below_drewN (HB.out _ _) _⟩
    · have d3 : decide ((0 : Int) ≤ p.n) = false := by simp; omega
      have d1 : decide ((0 : Int) ≤ p.kind) = true := by simp; omega
      have d2 : decide (p.kind < (4 : Int)) = true := by simp; omega
      have HE : Hid (hasB a b c p = false) := by show hasB a b c p = false; unfold hasB; rcases hk with hk | hk | hk | hk <;> rw [hk] <;> simp <;> omega
      clear hk hn
      go_enter Tryz.func124, Tryz.ntmps124
      go_wp2
      go_quiet (fail)
      go_wp2
      go_ret
      exact ⟨ret_bool HE.out.symm, below_drewN (HB.out _ _) _⟩
  · have d1 : decide ((0 : Int) ≤ p.kind) = true := by simp; omega
    have d2 : decide (p.kind < (4 : Int)) = false := by simp; omega
    have HE : Hid (hasB a b c p = false) := by show hasB a b c p = false; unfold hasB; rw [if_neg (by omega), if_neg (by omega), if_neg (by omega)]
    clear hk
    go_enter Tryz.func124, Tryz.ntmps124
    go_wp2
    go_quiet (fail)
    go_wp2
    go_ret
    exact ⟨ret_bool HE.out.symm, below_drewN (HB.out _ _) _⟩

def overO (a b : LPlace) : Bool := ((a.kind == b.kind) && (a.n == b.n)) || singB a b || singB b a

set_option maxRecDepth 100000 in
set_option maxHeartbeats 1000000 in
theorem overlapO (a b : LPlace) (w : World) : Calls Tryz.prog 142 #[a.val, b.val] w fun e w' => e = .returned (.bool (overO a b)) ∧ Below w.heap.size w w' := by
  unfold LPlace.val
  have HB : Hid (∀ o1 o2 : Obj, Below w.heap.size w ((w.alloc o1).alloc o2)) := fun o1 o2 => ((Below.refl _ _).alloc (Nat.le_refl _) _).alloc (by simp) _
  have q57 := eqPlace
  obtain ⟨x, hx⟩ : ∃ x, x = ((a.kind == b.kind) && (a.n == b.n)) := ⟨_, rfl⟩
  obtain ⟨y, hy⟩ : ∃ y, y = singB a b := ⟨_, rfl⟩
  have HO : Hid (overO a b = (x || y || singB b a)) := by show overO a b = _; unfold overO; rw [hx, hy]
  have HY : Hid (singB a b = y) := hy.symm
  have hx2 : ((a.kind == b.kind) && (a.n == b.n)) = x := hx.symm
  clear hx hy
  cases x
  · cases y
    · go_enter Tryz.func142, Tryz.ntmps142
      go_wp2_with fail
      go_at_call 157
      refine (hasSingle a b _).mono ?_
      rw [HY.out]
      rintro e w1 ⟨rfl, hb1⟩
      have c0 : w1.cell? ⟨w.heap.size, 0, none⟩ = some (.int .i64 a.kind) := step_cell hb1 (by simp [go_sem])
      have c1 : w1.cell? ⟨w.heap.size, 1, none⟩ = some (.int .i64 a.n) := step_cell hb1 (by simp [go_sem])
      have c2 : w1.cell? ⟨w.heap.size + 1, 0, none⟩ = some (.int .i64 b.kind) := step_cell hb1 (by simp [go_sem])
      have c3 : w1.cell? ⟨w.heap.size + 1, 1, none⟩ = some (.int .i64 b.n) := step_cell hb1 (by simp [go_sem])
      have HB1 : Hid (Below w.heap.size w w1) := over_alloc (over_alloc hb1)
      clear hb1
      go_wp2_with (go_at_call 157; refine (hasSingle b a _).mono ?_; rintro e w2 ⟨rfl, hb2⟩)
      go_ret
      exact ⟨ret_bool (by rw [HO.out]; rfl), step_below hb2 HB1.out⟩
    · go_enter Tryz.func142, Tryz.ntmps142
      go_wp2_with (go_at_call 157; refine (hasSingle a b _).mono ?_; rw [HY.out]; rintro e w1 ⟨rfl, hb1⟩)
      go_ret
      exact ⟨ret_bool (by rw [HO.out]; rfl), over_alloc (over_alloc hb1)⟩
  · go_enter Tryz.func142, Tryz.ntmps142
    go_wp2
    go_ret
    exact ⟨ret_bool (by rw [HO.out]; rfl), HB.out _ _⟩

end Go.Proofs.YtcmnmogmdhofcabGreat.form

/- Maps that are copied (maps.Clone, facts.clone), and such of a map's places as stay (maps.DeleteFunc, facts.keep, check.apartFrom). -/
namespace Go.Proofs.YtcmnmogmdhofcabGreat.form
open Go.RowKit Go.Maps
set_option linter.unusedVariables false
set_option maxRecDepth 100000

theorem cloneP (b : Nat) (A : List LPlace) (gh gi : LPlace → Bits) (w : World) (h : PMap w b A gh gi) :
    Calls Tryz.prog 72 #[.map (some b)] w fun e w' => e = .returned (.map (some w.heap.size)) ∧ PMap w' w.heap.size A gh gi ∧ Below w.heap.size w w' := by
  have hlt := h.lt
  obtain ⟨D, ⟨es, clock, hb, F, hs, hD⟩, h2⟩ := h
  have hq := fun w => run_eql_map_nil_sl (P := Tryz.prog) w 109 _ _ (some b) Tryz.underlying109
  have hB : Below w.heap.size w (w.alloc (.map es clock)) := (Below.refl _ w).alloc (Nat.le_refl _) _
  have HF : Hid (PMap (w.alloc (.map es clock)) w.heap.size A gh gi ∧ Below w.heap.size w (w.alloc (.map es clock))) := ⟨⟨D, ⟨es, clock, (MapKept.heap_alloc w _).1, F, hs, hD⟩, h2⟩, hB⟩
  clear F hs hD h2 hB
  go_enter Tryz.func72, Tryz.ntmps72
  go_wp2
  rw [run_callFunc_extern Tryz.func106 (by kernel_rfl) (by kernel_rfl) (by kernel_rfl) (e := Extern.MapsClone.clone) (by kernel_rfl), run_maps_clone_sl w 109 hb]
  simp only [Result.andThen]
  rw [Oper.upon_value]
  go_wp2
  rw [run_typeAssert_map_sl _ 109 20 _ _ _ Tryz.underlying109]
  simp only [Result.andThen]
  rw [Oper.upon_value]
  go_wp2
  go_ret
  exact ⟨rfl, HF.out⟩

theorem cloneT (b : Nat) (A : List Int) (g : Int → Bits) (w : World) (h : TMap w b A g) :
    Calls Tryz.prog 73 #[.map (some b)] w fun e w' => e = .returned (.map (some w.heap.size)) ∧ TMap w' w.heap.size A g ∧ Below w.heap.size w w' := by
  have hlt := h.lt
  obtain ⟨D, ⟨es, clock, hb, F, hs, hD⟩, h2⟩ := h
  have hq := fun w => run_eql_map_nil_sl (P := Tryz.prog) w 110 _ _ (some b) Tryz.underlying110
  have hB : Below w.heap.size w (w.alloc (.map es clock)) := (Below.refl _ w).alloc (Nat.le_refl _) _
  have HF : Hid (TMap (w.alloc (.map es clock)) w.heap.size A g ∧ Below w.heap.size w (w.alloc (.map es clock))) := ⟨⟨D, ⟨es, clock, (MapKept.heap_alloc w _).1, F, hs, hD⟩, h2⟩, hB⟩
  clear F hs hD h2 hB
  go_enter Tryz.func73, Tryz.ntmps73
  go_wp2
  rw [run_callFunc_extern Tryz.func106 (by kernel_rfl) (by kernel_rfl) (by kernel_rfl) (e := Extern.MapsClone.clone) (by kernel_rfl), run_maps_clone_sl w 110 hb]
  simp only [Result.andThen]
  rw [Oper.upon_value]
  go_wp2
  rw [run_typeAssert_map_sl _ 110 20 _ _ _ Tryz.underlying110]
  simp only [Result.andThen]
  rw [Oper.upon_value]
  go_wp2
  go_ret
  exact ⟨rfl, HF.out⟩
end Go.Proofs.YtcmnmogmdhofcabGreat.form

/- Facts of one point are copied (facts.clone). -/
namespace Go.Proofs.YtcmnmogmdhofcabGreat.form
open Go.RowKit Go.Maps
set_option linter.unusedVariables false
set_option maxRecDepth 100000
attribute [local go_sem ↓] Go.wp_at_zero Go.wp_at_succ

theorem fm_new {w2 : World} {A : List LPlace} {T : List Int} {m : FM} {mp mt : Nat} (h1 : PMap w2 mp A m.has m.is) (h2 : TMap w2 mt T m.tmp) (hne : mp ≠ mt) : FMAt (w2.alloc (.cells #[.map (some mp), .map (some mt)] 112)) w2.heap.size mp mt A T m := by
  have a := h1.lt
  have b := h2.lt
  exact ⟨by simp [go_sem], by simp [go_sem], h1.below ((Below.refl _ _).alloc (Nat.le_refl _) _), h2.below ((Below.refl _ _).alloc (Nat.le_refl _) _), by omega, by omega, hne⟩

set_option maxHeartbeats 4000000 in
theorem cloneF (q mp mt : Nat) (A : List LPlace) (T : List Int) (m : FM) (w : World) (h : FMAt w q mp mt A T m) :
    Calls Tryz.prog 43 #[.pointer (some ⟨q, 0, none⟩)] w fun e w' => ∃ q' mp' mt', e = .returned (.pointer (some ⟨q', 0, none⟩)) ∧ w.heap.size ≤ q' ∧ w.heap.size ≤ mp' ∧ w.heap.size ≤ mt' ∧ FMAt w' q' mp' mt' A T m ∧ Below w.heap.size w w' := by
  have HP : Hid (PMap w mp A m.has m.is) := h.pm
  have HT : Hid (TMap w mt T m.tmp) := h.tm
  have x0 := h.c0
  have x1 := h.c1
  have hql := h.lt.1
  clear h
  go_enter Tryz.func43, Tryz.ntmps43
  go_upto_region 1 with fail
  refine wp_region_held_drew (S := (fun w' => Below w.heap.size w w' ∧ w'.cell? ⟨q, 0, none⟩ = some (.map (some mp)) ∧ w'.cell? ⟨q, 1, none⟩ = some (.map (some mt)))) (by rfl) ?_ (fun hHeld => ?_)
  · (exact ⟨(Below.refl _ _).drew, step_cell (Below.refl _ _).drew x0, step_cell (Below.refl _ _).drew x1⟩)
  refine wpAnyH_take (i := 0) (v := ?_) rfl (by kernel_rfl) (by kernel_rfl) (by kernel_rfl) (fun _ _ _ h => h) (Or.inl ⟨by rfl, ?_⟩) (by assumption) ?_
  case refine_2 => (intro w hSw; (try dsimp only at hSw); go_simp; first | done | (with_reducible rfl))
  show wpAnyH _ _ _ _ _ _ _ (Act.put _ (some 3) _) _
  simp only [Act.put, List.setIfInBounds_toArray, List.set_cons_zero, List.set_cons_succ]
  refine wpAnyH_take (i := 1) (v := ?_) rfl (by kernel_rfl) (by kernel_rfl) (by kernel_rfl) (fun _ _ _ h => h) (Or.inl ⟨by rfl, ?_⟩) (by assumption) ?_
  case refine_2 => (intro w hSw; (try dsimp only at hSw); go_simp; first | done | (with_reducible rfl))
  show wpAnyH _ _ _ _ _ _ _ (Act.put _ (some 4) _) _
  simp only [Act.put, List.setIfInBounds_toArray, List.set_cons_zero, List.set_cons_succ]
  refine wpAnyH_take (i := 2) (v := ?_) rfl (by kernel_rfl) (by kernel_rfl) (by kernel_rfl) (fun _ _ _ h => h) (Or.inl ⟨by rfl, ?_⟩) (by assumption) ?_
  case refine_2 => (intro w hSw; (try dsimp only at hSw); go_simp; first | done | (with_reducible rfl))
  show wpAnyH _ _ _ _ _ _ _ (Act.put _ (some 5) _) _
  simp only [Act.put, List.setIfInBounds_toArray, List.set_cons_zero, List.set_cons_succ]
  refine wpAnyH_take (i := 3) (v := ?_) rfl (by kernel_rfl) (by kernel_rfl) (by kernel_rfl) (fun _ _ _ h => h) (Or.inl ⟨by rfl, ?_⟩) (by assumption) ?_
  case refine_2 => (intro w hSw; (try dsimp only at hSw); go_simp; first | done | (with_reducible rfl))
  show wpAnyH _ _ _ _ _ _ _ (Act.put _ (some 6) _) _
  simp only [Act.put, List.setIfInBounds_toArray, List.set_cons_zero, List.set_cons_succ]
  refine wpAnyH_take (i := 5) (v := ?_) rfl (by kernel_rfl) (by kernel_rfl) (by kernel_rfl) (fun _ _ _ h => h) (Or.inl ⟨by rfl, ?_⟩) (by assumption) ?_
  case refine_2 => (intro w hSw; (try dsimp only at hSw); go_simp; first | done | (with_reducible rfl))
  show wpAnyH _ _ _ _ _ _ _ (Act.put _ (some 8) _) _
  simp only [Act.put, List.setIfInBounds_toArray, List.set_cons_zero, List.set_cons_succ]
  refine wpAnyH_take (i := 6) (v := ?_) rfl (by kernel_rfl) (by kernel_rfl) (by kernel_rfl) (fun _ _ _ h => h) (Or.inl ⟨by rfl, ?_⟩) (by assumption) ?_
  case refine_2 => (intro w hSw; (try dsimp only at hSw); go_simp; first | done | (with_reducible rfl))
  show wpAnyH _ _ _ _ _ _ _ (Act.put _ (some 9) _) _
  simp only [Act.put, List.setIfInBounds_toArray, List.set_cons_zero, List.set_cons_succ]
  refine wpAnyH_take (i := 7) (v := ?_) rfl (by kernel_rfl) (by kernel_rfl) (by kernel_rfl) (fun _ _ _ h => h) (Or.inl ⟨by rfl, ?_⟩) (by assumption) ?_
  case refine_2 => (intro w hSw; (try dsimp only at hSw); go_simp; first | done | (with_reducible rfl))
  show wpAnyH _ _ _ _ _ _ _ (Act.put _ (some 10) _) _
  simp only [Act.put, List.setIfInBounds_toArray, List.set_cons_zero, List.set_cons_succ]
  refine wpAnyH_take (i := 8) (v := ?_) rfl (by kernel_rfl) (by kernel_rfl) (by kernel_rfl) (fun _ _ _ h => h) (Or.inl ⟨by rfl, ?_⟩) (by assumption) ?_
  case refine_2 => (intro w hSw; (try dsimp only at hSw); go_simp; first | done | (with_reducible rfl))
  show wpAnyH _ _ _ _ _ _ _ (Act.put _ (some 11) _) _
  simp only [Act.put, List.setIfInBounds_toArray, List.set_cons_zero, List.set_cons_succ]
  refine wpAnyH_ready (rs := [4]) (by kernel_rfl) (by simp) ?_
  refine (AllReadyH.cons rfl (fun K hK => ?_) AllReadyH.nil)
  go_simp
  go_at_call 72
  refine (cloneP mp A m.has m.is _ (HP.out.below hHeld.1)).mono ?_
  rintro e w9 ⟨rfl, hpp, hbr⟩
  have HPP : Hid _ := hpp
  clear hpp
  go_wp2_with fail
  refine hK.out _ _ ?_ (fun hHeld => ?_)
  · (exact ⟨step_below hbr hHeld.1, step_cell hbr hHeld.2.1, step_cell hbr hHeld.2.2⟩)
  clear hK K
  try simp only [Act.put, List.setIfInBounds_toArray, List.set_cons_zero, List.set_cons_succ]
  have hz9 := hbr.size
  clear hbr
  refine wpAnyH_ready (rs := [9]) (by kernel_rfl) (by simp) ?_
  refine (AllReadyH.cons rfl (fun K hK => ?_) AllReadyH.nil)
  go_simp
  go_at_call 73
  refine (cloneT mt T m.tmp _ (HT.out.below hHeld.1)).mono ?_
  rintro e w8 ⟨rfl, htt, hbr⟩
  have HTT : Hid _ := htt
  clear htt
  go_wp2_with fail
  have HPP2 : Hid (PMap w8 _ A m.has m.is) := PMap.below HPP.out hbr
  have hlt9 := PMap.lt HPP.out
  refine hK.out _ _ ?_ (fun hHeld => ?_)
  · (exact ⟨step_below hbr hHeld.1, step_cell hbr hHeld.2.1, step_cell hbr hHeld.2.2⟩)
  clear hK K
  try simp only [Act.put, List.setIfInBounds_toArray, List.set_cons_zero, List.set_cons_succ]
  clear hbr
  refine wpAnyH_take (i := 10) (v := ?_) rfl (by kernel_rfl) (by kernel_rfl) (by kernel_rfl) (fun _ _ _ h => h) (Or.inl ⟨by rfl, ?_⟩) (by assumption) ?_
  case refine_2 => (intro w hSw; (try dsimp only at hSw); go_simp; first | done | (with_reducible rfl))
  show wpAnyH _ _ _ _ _ _ _ (Act.put _ (some 13) _) _
  simp only [Act.put, List.setIfInBounds_toArray, List.set_cons_zero, List.set_cons_succ]
  refine wpAnyH_ready (rs := [11]) (by kernel_rfl) (by simp) ?_
  refine (AllReadyH.cons rfl (fun K hK => ?_) AllReadyH.nil)
  go_simp
  refine hK.out _ _ ?_ (fun hHeld => ?_)
  · (exact ⟨hHeld.1.alloc hHeld.1.size _, step_cell ((Below.refl _ _).alloc (Nat.le_refl _) _) hHeld.2.1, step_cell ((Below.refl _ _).alloc (Nat.le_refl _) _) hHeld.2.2⟩)
  clear hK K
  try simp only [Act.put, List.setIfInBounds_toArray, List.set_cons_zero, List.set_cons_succ]
  refine wpAnyH_take (i := 12) (v := ?_) rfl (by kernel_rfl) (by kernel_rfl) (by kernel_rfl) (fun _ _ _ h => h) (Or.inl ⟨by rfl, ?_⟩) (by assumption) ?_
  case refine_2 => (intro w hSw; (try dsimp only at hSw); go_simp; first | done | (with_reducible rfl))
  show wpAnyH _ _ _ _ _ _ _ (Act.put _ (some 2) _) _
  simp only [Act.put, List.setIfInBounds_toArray, List.set_cons_zero, List.set_cons_succ]
  have HBB : Hid _ := hHeld.1
  refine wpAnyH_done (by kernel_rfl) ?_ _
  clear hHeld
  go_wp2
  go_ret
  have l8 : w9.heap.size < w8.heap.size := TMap.lt HTT.out
  have l9 : w.heap.size < w9.heap.size := hlt9
  have e0 : w.drew.heap.size = w.heap.size := rfl
  exact ⟨w8.heap.size, w.drew.heap.size, w9.heap.size, rfl, by omega, by omega, by omega, fm_new HPP2.out HTT.out (by omega), HBB.out⟩

end Go.Proofs.YtcmnmogmdhofcabGreat.form

/- Such of a map's places as stay (maps.DeleteFunc, facts.keep, check.apartFrom). -/
namespace Go.Proofs.YtcmnmogmdhofcabGreat.form
open Go.RowKit Go.Maps
set_option linter.unusedVariables false
set_option maxRecDepth 100000
attribute [local go_sem ↓] Go.wp_at_zero Go.wp_at_succ

structure StaysP (w : World) (mb F : Nat) (c1 : Value) (P : LPlace → Bool) : Prop where
  ent : ∀ x w, Sem.run Tryz.prog (callFunc F #[x, c1]) w = .ok (.enter F #[x, c1]) w
  call : ∀ p w2, PlWf p → But mb mb w w2 → Calls Tryz.prog F #[p.val, c1] w2 fun e w' => e = .returned (.bool (P p)) ∧ Below w2.heap.size w2 w'

def farB (q p : LPlace) : Bool := !overO p q

theorem apartFromO (q : LPlace) (w : World) : Calls Tryz.prog 110 #[q.val] w fun e w' => e = .returned (.func (.func 141) #[] #[.pointer (some ⟨w.heap.size, 0, none⟩)]) ∧ w' = w.alloc (.cells #[.int .i64 q.kind, .int .i64 q.n] 37) := by
  unfold LPlace.val
  go_enter Tryz.func110, Tryz.ntmps110
  go_wp2
  go_ret
  exact ⟨rfl, rfl⟩

theorem apart1 (q p : LPlace) (cb : Nat) (w : World) (h0 : w.cell? ⟨cb, 0, none⟩ = some (.int .i64 q.kind)) (h1 : w.cell? ⟨cb, 1, none⟩ = some (.int .i64 q.n)) :
    Calls Tryz.prog 141 #[p.val, .pointer (some ⟨cb, 0, none⟩)] w fun e w' => e = .returned (.bool (farB q p)) ∧ Below w.heap.size w w' := by
  have hlt := cell_lt h0
  have HB : Hid (∀ o1 : Obj, Below w.heap.size w (w.alloc o1)) := fun o1 => (Below.refl _ _).alloc (Nat.le_refl _) _
  unfold LPlace.val
  go_enter Tryz.func141, Tryz.ntmps141
  go_wp2_with (go_at_call 142; refine (overlapO p q _).mono ?_; rintro e w1 ⟨rfl, hb1⟩)
  go_ret
  exact ⟨rfl, step_below hb1 (HB.out _)⟩

theorem staysApart (q : LPlace) (cb mb : Nat) (w : World) (h0 : w.cell? ⟨cb, 0, none⟩ = some (.int .i64 q.kind)) (h1 : w.cell? ⟨cb, 1, none⟩ = some (.int .i64 q.n)) (hne : cb ≠ mb) : StaysP w mb 141 (.pointer (some ⟨cb, 0, none⟩)) (farB q) :=
  ⟨fun x w => rfl, fun p w2 hp hb => apart1 q p cb w2 (hb.cellOf h0 hne hne) (hb.cellOf h1 hne hne)⟩

theorem keep1 (F fb : Nat) (c1 : Value) (P : LPlace → Bool) (p : LPlace) (x y : Bits) (mb : Nat) (w0 w : World) (hs : StaysP w0 mb F c1 P) (hp : PlWf p) (hb : But mb mb w0 w) (hf : w.cell? ⟨fb, 0, none⟩ = some (.func (.func F) #[] #[c1])) :
    Calls Tryz.prog 140 #[p.val, knownV x y, .pointer (some ⟨fb, 0, none⟩)] w fun e w' => e = .returned (.bool (!P p)) ∧ Below w.heap.size w w' := by
  have hent := hs.ent
  have HC : Hid (∀ p w2, PlWf p → But mb mb w0 w2 → Calls Tryz.prog F #[p.val, c1] w2 fun e w' => e = .returned (.bool (P p)) ∧ Below w2.heap.size w2 w') := hs.call
  have HB0 : Hid (But mb mb w0 w) := hb
  have HP : Hid (PlWf p) := hp
  have hlt := cell_lt hf
  have HB : Hid (∀ o1 o2 : Obj, Below w.heap.size w ((w.alloc o1).alloc o2)) := fun o1 o2 => ((Below.refl _ _).alloc (Nat.le_refl _) _).alloc (by simp) _
  clear hs hp hb
  unfold LPlace.val knownV
  go_enter Tryz.func140, Tryz.ntmps140
  go_wp2_with fail
  refine (HC.out p _ HP.out (HB0.out.trans (But.of_below (HB.out _ _)))).mono ?_
  rintro e w1 ⟨rfl, hb1⟩
  go_wp2
  go_ret
  exact ⟨rfl, step_below hb1 (HB.out _ _)⟩
theorem over_sameC (a b : LPlace) : overO a b = overB a b := by
  unfold overO overB singB
  rw [Bool.eq_iff_iff]
  by_cases h : a.kind = b.kind
  · rw [if_pos h]
    simp
    constructor
    · rintro ((h1 | h1) | h1)
      · exact h1.2
      · omega
      · omega
    · exact fun h1 => Or.inl (Or.inl ⟨h, h1⟩)
  · rw [if_neg h]
    by_cases h1 : a.kind = 1 ∧ b.kind = 2
    · rw [if_pos h1]; simp; omega
    · rw [if_neg h1]
      by_cases h2 : a.kind = 2 ∧ b.kind = 1
      · rw [if_pos h2]; simp; omega
      · rw [if_neg h2]; simp; omega

structure DRel (w : World) (mb it : Nat) (A : List LPlace) (gh gi : LPlace → Bits) (P : LPlace → Bool) (lk : Lit → Bool) (cnt : Nat) (D : DataW Unit) (wr : World) : Prop where
  rg : wr.ranges Tryz.prog 37 knownElem mb it A.length D lk cnt
  keys : ∀ p, PlWf p → Maps.has D (placeKey p) = true → p ∈ A
  at_ : ∀ p, PlWf p → D.atKey (placeKey p) (knownD 0 0) = if (lk (placeKey p) || P p) = true then knownD (gh p) (gi p) else knownD 0 0

set_option maxHeartbeats 4000000 in
theorem deleteP (mb F fb : Nat) (c1 : Value) (A : List LPlace) (gh gi : LPlace → Bits) (P : LPlace → Bool) (w0 w : World) (h : PMap w mb A gh gi) (hs : StaysP w0 mb F c1 P) (hb : But mb mb w0 w) (hf : w.cell? ⟨fb, 0, none⟩ = some (.func (.func F) #[] #[c1])) (hfm : fb ≠ mb) :
    Calls Tryz.prog 139 #[.map (some mb), .func (.func 140) #[] #[.pointer (some ⟨fb, 0, none⟩)]] w fun e w' => e = .returned (.tuple #[]) ∧ PMap w' mb A (fun p => if P p = true then gh p else 0) (fun p => if P p = true then gi p else 0) ∧ But mb mb w w' := by
  have hbl := h.lt
  have hfl := cell_lt hf
  obtain ⟨D0, hown, hsay⟩ := h
  have HO : Hid (w.ownsMap Tryz.prog 37 knownElem mb A.length D0) := hown
  have HSY : Hid (PSays A D0 gh gi) := hsay
  have HST : Hid (StaysP w0 mb F c1 P) := hs
  have HB0 : Hid (But mb mb w0 w) := hb
  have HF : Hid (w.cell? ⟨fb, 0, none⟩ = some (.func (.func F) #[] #[c1])) := hf
  clear hown hsay hs hb hf
  go_enter Tryz.func139, Tryz.ntmps139
  go_wp2_with (first
    | (at_range; refine wpList_range_own _ rfl _ 109 rfl 37 108 pkLaw Tryz.underlying109 knownElem mb A.length D0 rfl HO.out ?_; intro wa hrg0 hg0 hs0)
    | go_in)
  go_frame
  have HR0 : Hid (DRel w mb w.heap.size A gh gi P (Maps.has D0) (Maps.size D0) D0 wa) := ⟨hrg0, HSY.out.keys, fun p hp => by
    rw [HSY.out.at_ p hp]
    split
    · rfl
    · rename_i hh
      have : Maps.has D0 (placeKey p) = false := by cases hc : Maps.has D0 (placeKey p) with | false => rfl | true => rw [hc] at hh; simp at hh
      rw [← HSY.out.at_ p hp, atKey_of_not_has this]⟩
  have HBA : Hid (But mb mb w wa) := ⟨hg0.os, hg0.tape, hg0.output, hg0.size, fun k hk _ _ => hg0.block k hk (by simp)⟩
  have hsa : w.heap.size < wa.heap.size := by omega
  clear hrg0 hg0 hs0
  go_loopw [8] (fun _ wr => ∃ (lk : Lit → Bool) (cnt : Nat) (D : DataW Unit), DRel w mb w.heap.size A gh gi P lk cnt D wr ∧ But mb mb w wr ∧ w.heap.size < wr.heap.size) (fun _ wr => wr.rangeLeft mb w.heap.size)
  case atStart => exact ⟨_, _, _, HR0.out, HBA.out, hsa⟩
  case round =>
    clear HR0 HBA hsa
    obtain ⟨lk, cnt, D, hrel2, hbr, hsr⟩ := hrel
    have HR : Hid (DRel w mb w.heap.size A gh gi P lk cnt D wr) := hrel2
    have HBR : Hid (But mb mb w wr) := hbr
    have HSR : Hid (w.heap.size < wr.heap.size) := hsr
    clear hrel2 hbr hsr
    go_wp2_with (first
      | (at_next; refine wpList_next_ranges _ rfl _ rfl 37 pkLaw knownElem LPlace.val (fun xy : Bits × Bits => knownV xy.1 xy.2) (fun key kl hk => by obtain ⟨p, -, rfl, -⟩ := place_inv hk; exact ⟨p, rfl⟩) (fun v y hv => by obtain ⟨a, b, rfl, -⟩ := knownElem_inv hv; exact ⟨(a, b), rfl⟩) mb w.heap.size A.length D lk cnt rfl HR.out.rg ?_ ?_)
      | go_in)
    · intro hc0 hl0
      go_wp2
      go_end0
      refine ⟨rfl, ⟨D, HR.out.rg.owns, HR.out.keys, fun p hp => ?_⟩, HBR.out⟩
      rw [HR.out.at_ p hp, hl0]
      simp only [Bool.false_or]
      split <;> rfl
    · intro p x z kl y1 y2 w1 cnt1 hkey hlk hv hat hrg1 hlt hg1 hs1 hen
      obtain ⟨p', hpw, hpv, rfl⟩ := place_inv hkey
      obtain rfl := placeV_inj hpv
      have HRG1 : Hid (w1.ranges Tryz.prog 37 knownElem mb w.heap.size A.length D (fun z => lk z && !z.sameKey (placeKey p)) cnt1) := hrg1
      have HB1 : Hid (But mb mb w w1) := ⟨hg1.os.trans HBR.out.os, hg1.tape.trans HBR.out.tape, hg1.output.trans HBR.out.output, Nat.le_trans HBR.out.size hg1.size, fun k hk h1 h2 => (hg1.block k (Nat.lt_of_lt_of_le hk HBR.out.size) (fun e => by have := Option.some.inj e; omega)).trans (HBR.out.block k hk h1 h2)⟩
      have HS1 : Hid (w.heap.size < w1.heap.size) := by have := HSR.out; show _ < _; omega
      have HLK : Hid (lk (placeKey p) = true) := hlk
      have hm1 : mb < w1.heap.size := by have := HB1.out.size; omega
      clear hs1 hrg1 hg1 hlk hkey hat hpv
      unfold LPlace.val knownV at hen ⊢
      go_wp2_with fail
      have hbx : Below w1.heap.size w1 ((w1.alloc (.cells #[.int .i64 p.kind, .int .i64 p.n] 37)).alloc (.cells #[.int .u64 (bn x), .int .u64 (bn z)] 108)) := ((Below.refl _ _).alloc (Nat.le_refl _) _).alloc (by simp) _
      have hbw := HB1.out.trans (But.of_below hbx)
      refine (keep1 F fb c1 P p x z mb w0 _ HST.out hpw (HB0.out.trans hbw) (hbw.cellOf HF.out hfm hfm)).mono ?_
      rintro e w3 ⟨rfl, hb3⟩
      have HB3 : Hid (Below w1.heap.size w1 w3) := step_below hb3 hbx
      have x0 : w3.cell? ⟨w1.heap.size, 0, none⟩ = some (.int .i64 p.kind) := step_cell hb3 (by simp [go_sem])
      have x1 : w3.cell? ⟨w1.heap.size, 1, none⟩ = some (.int .i64 p.n) := step_cell hb3 (by simp [go_sem])
      have hrg3 : w3.ranges Tryz.prog 37 knownElem mb w.heap.size A.length D (fun z => lk z && !z.sameKey (placeKey p)) cnt1 := HRG1.out.kept (row := none) ⟨HB3.out.os, HB3.out.tape, HB3.out.output, HB3.out.size, fun j hj _ => HB3.out.block j hj⟩ (by simp) (by simp)
      have HRG3 : Hid (w3.ranges Tryz.prog 37 knownElem mb w.heap.size A.length D (fun z => lk z && !z.sameKey (placeKey p)) cnt1) := hrg3
      have HBW3 : Hid (But mb mb w w3) := HB1.out.trans (But.of_below HB3.out)
      have HS3 : Hid (w.heap.size < w3.heap.size) := Nat.lt_of_lt_of_le HS1.out HB3.out.size
      have AT : Hid (∀ p', PlWf p' → ¬ p' = p → ((lk (placeKey p') && !(placeKey p').sameKey (placeKey p)) || P p') = (lk (placeKey p') || P p')) := fun p' hp' hne => by rw [show (placeKey p').sameKey (placeKey p) = false from by rw [← Bool.not_eq_true, sameKey_places hp' hpw]; exact hne]; simp
      clear hbx hbw hb3 hen hrg3
      cases hP : P p with
      | true =>
        have HPP : Hid (P p = true) := hP
        clear hP
        go_wp2
        go_roundw
        case rel =>
          refine ⟨_, cnt1, D, ⟨HRG3.out, HR.out.keys, fun p' hp' => ?_⟩, HBW3.out, HS3.out⟩
          rw [HR.out.at_ p' hp']
          by_cases e : p' = p
          · subst e; rw [HPP.out, HLK.out]; simp
          · rw [← AT.out p' hp' e]
        case measure => rw [HRG3.out.left_eq, HR.out.rg.left_eq]; exact hlt
      | false =>
        have HPP : Hid (P p = false) := hP
        clear hP
        go_wp2_with (first
          | (at_delete; refine wpList_delete_ranges _ rfl _ _ 109 37 rfl 108 pkLaw Tryz.underlying109 knownElem mb w.heap.size A.length D _ cnt1 rfl HRG3.out _ _ rfl (place_key hpw) ?_; intro w4 cnt4 hrg4 hle4 hturn4; go_frame)
          | go_in)
        rw [strike_twice] at hrg4
        have hg4 := hturn4.grown
        go_roundw
        case rel =>
          refine ⟨_, cnt4, D.del (placeKey p), ⟨hrg4, fun p' hp' hh => ?_, fun p' hp' => ?_⟩, HBW3.out.trans (grown_but hg4), Nat.lt_of_lt_of_le HS3.out hg4.size⟩
          · by_cases e : p' = p
            · subst e; rw [has_del_same] at hh; cases hh
            · rw [has_del_other (fun h => e (place_key_inj hp' hpw h))] at hh; exact HR.out.keys p' hp' hh
          · by_cases e : p' = p
            · subst e
              rw [atKey_del_same, HPP.out, show (placeKey p').sameKey (placeKey p') = true from (sameKey_places hpw hpw).2 rfl]
              simp
            · rw [atKey_del_other (fun h => e (place_key_inj hp' hpw h)), HR.out.at_ p' hp', ← AT.out p' hp' e]
        case measure => rw [hrg4.left_eq, HR.out.rg.left_eq]; omega

set_option maxHeartbeats 4000000 in
theorem keepF (q mp mt F : Nat) (c1 : Value) (A : List LPlace) (T : List Int) (m : FM) (P : LPlace → Bool) (w : World) (h : FMAt w q mp mt A T m) (hs : StaysP w mp F c1 P) :
    Calls Tryz.prog 109 #[.pointer (some ⟨q, 0, none⟩), .func (.func F) #[] #[c1]] w fun e w' => e = .returned (.tuple #[]) ∧ FMAt w' q mp mt A T ⟨fun p => if P p = true then m.has p else 0, fun p => if P p = true then m.is p else 0, m.tmp⟩ ∧ But mp mp w w' := by
  have x0 := h.c0
  have hql := h.lt.1
  have hml := h.lt.2.1
  have HFM : Hid (FMAt w q mp mt A T m) := h
  have HST : Hid (StaysP w mp F c1 P) := hs
  have HB : Hid (Below w.heap.size w (w.alloc (.cells #[.func (.func F) #[] #[c1]] 169))) := (Below.refl _ _).alloc (Nat.le_refl _) _
  clear h hs
  go_enter Tryz.func109, Tryz.ntmps109
  go_wp2_with fail
  go_at_call 139
  have hne : w.heap.size ≠ mp := by omega
  refine (deleteP mp F w.heap.size c1 A m.has m.is P w _ (HFM.out.pm.below HB.out) HST.out (But.of_below HB.out) (by simp [go_sem]) hne).mono ?_
  rintro e w1 ⟨rfl, hp1, hb1⟩
  have HP1 : Hid (PMap w1 mp A (fun p => if P p = true then m.has p else 0) (fun p => if P p = true then m.is p else 0)) := hp1
  have HB1 : Hid (But mp mp w w1) := hb1.mono HB.out
  clear hp1 hb1
  go_wp2
  go_end0
  have h := HFM.out
  have hb := HB1.out
  exact ⟨rfl, ⟨hb.cellOf h.c0 h.n1 h.n1, hb.cellOf h.c1 h.n1 h.n1, HP1.out, h.tm.of_block (hb.block mt h.tm.lt (Ne.symm h.n3) (Ne.symm h.n3)), h.n1, h.n2, h.n3⟩, hb⟩

end Go.Proofs.YtcmnmogmdhofcabGreat.form
