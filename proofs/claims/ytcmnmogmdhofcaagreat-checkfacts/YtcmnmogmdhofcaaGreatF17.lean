/- What an instruction gives, and where the same is (world.given and its closures). -/
import Derived.Test.YtcmnmogmdhofcaaGreatF16
import Derived.Test.YtcmnmogmdhofcaaGreatF06
import Derived.Test.YtcmnmogmdhofcaaGreatF10

namespace Go.Proofs.YtcmnmogmdhofcaaGreat.form
open Go.RowKit Go.Maps
set_option linter.unusedVariables false
set_option maxRecDepth 100000
attribute [local go_sem ↓] Go.wp_at_zero Go.wp_at_succ

def SameIs (w : World) (mp F : Nat) (caps : Array Value) (sm : Bits → Bits → Bool) : Prop := (∀ x w, Sem.run Tryz.prog (callFunc F (#[x] ++ caps)) w = .ok (.enter F (#[x] ++ caps)) w) ∧ ∀ x y w2, But mp mp w w2 → Calls Tryz.prog F (#[knownV x y] ++ caps) w2 fun e w' => e = .returned (.bool (sm x y)) ∧ Below w2.heap.size w2 w'

theorem given1 (z x y : Bits) (sb : Nat) (w : World) (h : w.cell? ⟨sb, 0, none⟩ = some (.int .u64 (bn z))) : Calls Tryz.prog 108 #[knownV x y, .pointer (some ⟨sb, 0, none⟩)] w fun e w' => e = .returned (.bool (!((y &&& z) == 0))) ∧ Below w.heap.size w w' := by
  have ha := and_is y z
  have hn := ne_is (y &&& z)
  obtain ⟨c, hc⟩ : ∃ c, c = (!((y &&& z) == 0)) := ⟨_, rfl⟩
  rw [← hc] at hn ⊢
  have HB : Hid (∀ o1 : Obj, Below w.heap.size w (w.alloc o1)) := fun o1 => (Below.refl _ _).alloc (Nat.le_refl _) _
  have hlt := cell_lt h
  clear hc
  unfold knownV
  go_enter Tryz.func108, Tryz.ntmps108
  go_wp2
  go_ret
  exact ⟨rfl, HB.out _⟩
theorem given2 (x y : Bits) (a : Nat) (ha : a < 64) (ib : Nat) (w : World) (h : w.cell? ⟨ib, 2, none⟩ = some (.int .i64 a)) : Calls Tryz.prog 109 #[knownV x y, .pointer (some ⟨ib, 0, none⟩)] w fun e w' => e = .returned (.bool (x.getLsbD a)) ∧ Below w.heap.size w w' := by
  have HB : Hid (∀ o1 : Obj, Below w.heap.size w (w.alloc o1)) := fun o1 => (Below.refl _ _).alloc (Nat.le_refl _) _
  have hlt := cell_lt h
  unfold knownV
  go_enter Tryz.func109, Tryz.ntmps109
  go_wp2_with (go_at_call 30; refine (containsO x a ha _).mono ?_; rintro e w1 ⟨rfl, hw1⟩; obtain rfl := hw1.symm)
  go_ret
  exact ⟨rfl, HB.out _⟩
theorem given3 (x y : Bits) (w : World) : Calls Tryz.prog 110 #[knownV x y] w fun e w' => e = .returned (.bool false) ∧ Below w.heap.size w w' := by
  have HB : Hid (∀ o1 : Obj, Below w.heap.size w (w.alloc o1)) := fun o1 => (Below.refl _ _).alloc (Nat.le_refl _) _
  unfold knownV
  go_enter Tryz.func110, Tryz.ntmps110
  go_wp2
  go_ret
  exact ⟨rfl, HB.out _⟩

structure GivenS (B : List Bool) (N : List Int) (m : FM) (i : LIns) (gh gi : Bits) (sm : Bits → Bits → Bool) : Prop where
  h : ∀ t : Nat, gh.getLsbD t = true ↔ i.op = 2 ∧ (t : Int) = i.a
  y : ∀ k, gi.getLsbD k = true ↔ (i.op = 1 ∧ k < N.length ∧ nAt N k = i.n) ∨ (i.op = 2 ∧ (m.tmp i.a).getLsbD k = true)
  s : ∀ x y, sm x y = true ↔ (i.op = 1 ∧ ∃ k, k < N.length ∧ nAt N k = i.n ∧ y.getLsbD k = true) ∨ (i.op = 2 ∧ x.getLsbD i.a.toNat = true)

set_option maxHeartbeats 800000 in
theorem givenC {w : World} {lim : Nat} {g : WB} {B : List Bool} {C : List LIns} {R : List LRow} {A : List LPlace} {N : List Int} {s slots : Nat} (hW : WorldAt w lim g B C R A N) (hD : Dims B C s slots A N) (q mp mt : Nat) (T : List Int) (m : FM) (hF : FMAt w q mp mt A T m) (i : LIns) (h1 : i.op = 1) :
    Calls Tryz.prog 94 #[.pointer (some ⟨g.q, 0, none⟩), .pointer (some ⟨q, 0, none⟩), i.val] w fun e w' => ∃ gh gi F caps sm, e = .returned (.tuple #[knownV gh gi, .func (.func F) #[] caps]) ∧ SameIs w' mp F caps sm ∧ GivenS B N m i gh gi sm ∧ Below w.heap.size w w' := by
  have hb12 := hD.b12
  have HW : Hid (WorldAt w lim g B C R A N) := hW
  have HD : Hid (Dims B C s slots A N) := hD
  have HF : Hid (FMAt w q mp mt A T m) := hF
  have hpl := hF.pm.lt
  have hx1 := hF.c1
  have hql := hF.lt.1
  have hb2 : Below w.heap.size w ((w.alloc (.cells #[.int .i64 i.op, .int .i64 i.dest, .int .i64 i.a, .int .i64 i.b, .int .i64 i.c, .int .u32 i.n] 49)).alloc (.cells #[.int .u64 0, .int .u64 0] 89)) := ((Below.refl _ _).alloc (Nat.le_refl _) _).alloc (by simp) _
  have HB2 : Hid (Below w.heap.size w ((w.alloc (.cells #[.int .i64 i.op, .int .i64 i.dest, .int .i64 i.a, .int .i64 i.b, .int .i64 i.c, .int .u32 i.n] 49)).alloc (.cells #[.int .u64 0, .int .u64 0] 89))) := hb2
  have c := numberO (hW.below hb2) hD i.n
  have HO : Hid (i.op = 1) := h1
  have h1z : (i.op == 1) = true := by simp [h1]
  clear hW hD hF hb2 h1
  unfold LIns.val
  go_enter Tryz.func94, Tryz.ntmps94
  go_wp2_with (go_at_call 46; refine c.mono ?_; rintro e w1 ⟨⟨y, rfl, hy⟩, hw1⟩; obtain rfl := hw1.symm; have HY : Hid (NumS N i.n y) := hy; clear hy)
  refine bodyPost_ret (v := .tuple #[knownV 0 y, .func (.func 108) #[] #[.pointer (some ⟨w.heap.size + 1 + 1, 0, none⟩)]]) ?_ rfl ⟨0, y, _, _, fun x z => !((z &&& y) == 0), rfl, ⟨fun x w => rfl, fun x z w2 hb => given1 y x z _ w2 (hb.cellOf (by simp [go_sem]) (by omega) (by omega))⟩, ?_, ?_⟩
  · simp [results, Tryz.results94, go_sem, knownV]
    rfl
  · have ho := HO.out
    refine ⟨fun t => by simp [ho], fun k => by rw [HY.out]; simp [ho], fun x z => ?_⟩
    simp only [Bool.not_eq_true', beq_eq_false_iff_ne, ne_eq]
    rw [bits_ne]
    simp only [ho]
    constructor
    · rintro ⟨k, hk⟩
      rw [bits_and, HY.out] at hk
      exact Or.inl ⟨trivial, k, hk.2.1, hk.2.2, hk.1⟩
    · rintro (⟨-, k, k1, k2, k3⟩ | ⟨h, -⟩)
      · exact ⟨k, by rw [bits_and, HY.out]; exact ⟨k3, k1, k2⟩⟩
      · exact absurd h (by decide)
  · exact (((Below.refl _ _).alloc (Nat.le_refl _) _).alloc (by simp) _).alloc (by simp; omega) _
set_option maxHeartbeats 800000 in
theorem givenM {w : World} {lim : Nat} {g : WB} {B : List Bool} {C : List LIns} {R : List LRow} {A : List LPlace} {N : List Int} {s slots : Nat} (hW : WorldAt w lim g B C R A N) (hD : Dims B C s slots A N) (q mp mt : Nat) (T : List Int) (m : FM) (hF : FMAt w q mp mt A T m) (i : LIns) (h1 : ¬ i.op = 1) (h2 : i.op = 2) (ha : 0 ≤ i.a ∧ i.a < B.length) :
    Calls Tryz.prog 94 #[.pointer (some ⟨g.q, 0, none⟩), .pointer (some ⟨q, 0, none⟩), i.val] w fun e w' => ∃ gh gi F caps sm, e = .returned (.tuple #[knownV gh gi, .func (.func F) #[] caps]) ∧ SameIs w' mp F caps sm ∧ GivenS B N m i gh gi sm ∧ Below w.heap.size w w' := by
  have hb12 := hD.b12
  have HW : Hid (WorldAt w lim g B C R A N) := hW
  have HD : Hid (Dims B C s slots A N) := hD
  have HF : Hid (FMAt w q mp mt A T m) := hF
  have hpl := hF.pm.lt
  have hx1 := hF.c1
  have hql := hF.lt.1
  have hb2 : Below w.heap.size w ((w.alloc (.cells #[.int .i64 i.op, .int .i64 i.dest, .int .i64 i.a, .int .i64 i.b, .int .i64 i.c, .int .u32 i.n] 49)).alloc (.cells #[.int .u64 0, .int .u64 0] 89)) := ((Below.refl _ _).alloc (Nat.le_refl _) _).alloc (by simp) _
  have HB2 : Hid (Below w.heap.size w ((w.alloc (.cells #[.int .i64 i.op, .int .i64 i.dest, .int .i64 i.a, .int .i64 i.b, .int .i64 i.c, .int .u32 i.n] 49)).alloc (.cells #[.int .u64 0, .int .u64 0] 89))) := hb2
  have h1z : (i.op == 1) = false := by simp [h1]
  obtain ⟨a0, a1⟩ := ha
  obtain ⟨a, haa⟩ : ∃ a : Nat, i.a = a := ⟨i.a.toNat, by omega⟩
  have h64 : a < 64 := by omega
  have HO : Hid (i.op = 2) := h2
  have HA : Hid (i.a = (a : Int)) := haa
  have h2z : (i.op == 2) = true := by simp [h2]
  clear hW hD hF hb2 h1 h2 haa a0 a1
  unfold LIns.val
  go_enter Tryz.func94, Tryz.ntmps94
  go_upto_region 6 with fail
  obtain ⟨wy, hwy⟩ : ∃ wy, wy = (w.alloc (.cells #[.int .i64 i.op, .int .i64 i.dest, .int .i64 i.a, .int .i64 i.b, .int .i64 i.c, .int .u32 i.n] 49)).alloc (.cells #[.int .u64 0, .int .u64 0] 89) := ⟨_, rfl⟩
  have hby : Below w.heap.size w wy := by rw [hwy]; exact HB2.out
  have HBY : Hid (Below w.heap.size w wy) := hby
  have b2 : wy.cell? ⟨w.heap.size, 2, none⟩ = some (.int .i64 a) := by rw [hwy, ← HA.out]; simp [go_sem]
  have g0 : wy.cell? ⟨w.heap.size + 1, 0, none⟩ = some (.int .u64 0) := by rw [hwy]; simp [go_sem]
  have g1 : wy.cell? ⟨w.heap.size + 1, 1, none⟩ = some (.int .u64 0) := by rw [hwy]; simp [go_sem]
  have f0 : wy.frozen? ⟨w.heap.size + 1, 0, none⟩ = false := by rw [hwy]; simp [go_sem]
  have f1 : wy.frozen? ⟨w.heap.size + 1, 1, none⟩ = false := by rw [hwy]; simp [go_sem]
  have hzy : wy.heap.size = w.heap.size + 1 + 1 := by rw [hwy]; simp
  have HZY : Hid (wy.heap.size = w.heap.size + 1 + 1) := hzy
  have HFY : Hid (FMAt wy q mp mt A T m) := HF.out.below HBY.out
  rw [← hwy]
  clear hwy hx1 hby hzy
  have x1 : wy.cell? ⟨q, 1, none⟩ = some (.map (some mt)) := HFY.out.c1
  have HLK : Hid (∀ w5, Below w.heap.size w w5 → (Instr.lookup 85 (.map (some mt)) (.int .i64 (a : Int)) false).run Tryz.prog w5 = .ok (.int .u64 (bn (m.tmp a))) w5) := fun w5 hb => TMap.look (HF.out.below hb).tm ⟨by omega, by omega⟩
  refine wp_region_held_drew (S := (fun w' => Below w.heap.size w w' ∧ w'.cell? ⟨q, 1, none⟩ = some (.map (some mt)) ∧ w'.cell? ⟨w.heap.size, 2, none⟩ = some (.int .i64 (a : Int)))) (by rfl) ?_ (fun hHeld => ?_)
  · (exact ⟨below_drewN HBY.out 1, x1, b2⟩)
  refine wpAnyH_take (i := 0) (v := ?_) rfl (by kernel_rfl) (by kernel_rfl) (by kernel_rfl) (fun _ _ _ h => h) (Or.inl ⟨by rfl, ?_⟩) (by assumption) ?_
  case refine_2 => (intro w hSw; (try dsimp only at hSw); go_simp; first | done | (with_reducible rfl))
  show wpAnyH _ _ _ _ _ _ _ (Act.put _ (some 22) _) _
  simp only [Act.put, List.setIfInBounds_toArray, List.set_cons_zero, List.set_cons_succ]
  refine wpAnyH_take (i := 1) (v := ?_) rfl (by kernel_rfl) (by kernel_rfl) (by kernel_rfl) (fun _ _ _ h => h) (Or.inl ⟨by rfl, ?_⟩) (by assumption) ?_
  case refine_2 => (intro w hSw; (try dsimp only at hSw); go_simp; first | done | (with_reducible rfl))
  show wpAnyH _ _ _ _ _ _ _ (Act.put _ (some 23) _) _
  simp only [Act.put, List.setIfInBounds_toArray, List.set_cons_zero, List.set_cons_succ]
  refine wpAnyH_take (i := 3) (v := ?_) rfl (by kernel_rfl) (by kernel_rfl) (by kernel_rfl) (fun _ _ _ h => h) (Or.inl ⟨by rfl, ?_⟩) (by assumption) ?_
  case refine_2 => (intro w hSw; (try dsimp only at hSw); go_simp; first | done | (with_reducible rfl))
  show wpAnyH _ _ _ _ _ _ _ (Act.put _ (some 25) _) _
  simp only [Act.put, List.setIfInBounds_toArray, List.set_cons_zero, List.set_cons_succ]
  refine wpAnyH_take (i := 4) (v := ?_) rfl (by kernel_rfl) (by kernel_rfl) (by kernel_rfl) (fun _ _ _ h => h) (Or.inl ⟨by rfl, ?_⟩) (by assumption) ?_
  case refine_2 => (intro w hSw; (try dsimp only at hSw); go_simp; first | done | (with_reducible rfl))
  show wpAnyH _ _ _ _ _ _ _ (Act.put _ (some 26) _) _
  simp only [Act.put, List.setIfInBounds_toArray, List.set_cons_zero, List.set_cons_succ]
  refine wpAnyH_take (i := 5) (v := ?_) rfl (by kernel_rfl) (by kernel_rfl) (by kernel_rfl) (fun _ _ _ h => h) (Or.inl ⟨by rfl, ?_⟩) (by assumption) ?_
  case refine_2 => (intro w hSw; (try dsimp only at hSw); go_simp; first | done | (with_reducible rfl))
  show wpAnyH _ _ _ _ _ _ _ (Act.put _ (some 27) _) _
  simp only [Act.put, List.setIfInBounds_toArray, List.set_cons_zero, List.set_cons_succ]
  refine wpAnyH_take (i := 6) (v := ?_) rfl (by kernel_rfl) (by kernel_rfl) (by kernel_rfl) (fun _ _ _ h => h) (Or.inl ⟨by rfl, ?_⟩) (by assumption) ?_
  case refine_2 => (intro w hSw; (try dsimp only at hSw); go_simp; first | done | (with_reducible rfl))
  show wpAnyH _ _ _ _ _ _ _ (Act.put _ (some 28) _) _
  simp only [Act.put, List.setIfInBounds_toArray, List.set_cons_zero, List.set_cons_succ]
  refine wpAnyH_take (i := 7) (v := ?_) rfl (by kernel_rfl) (by kernel_rfl) (by kernel_rfl) (fun _ _ _ h => h) (Or.inl ⟨by rfl, ?_⟩) (by assumption) ?_
  case refine_2 => (intro w hSw; (try dsimp only at hSw); go_simp; first | done | (with_reducible rfl))
  show wpAnyH _ _ _ _ _ _ _ (Act.put _ (some 29) _) _
  simp only [Act.put, List.setIfInBounds_toArray, List.set_cons_zero, List.set_cons_succ]
  refine wpAnyH_take (i := 8) (v := ?_) rfl (by kernel_rfl) (by kernel_rfl) (by kernel_rfl) (fun _ _ _ h => h) (Or.inl ⟨by rfl, ?_⟩) (by assumption) ?_
  case refine_2 => (intro w hSw; (try dsimp only at hSw); go_simp; first | done | (with_reducible rfl))
  show wpAnyH _ _ _ _ _ _ _ (Act.put _ (some 30) _) _
  simp only [Act.put, List.setIfInBounds_toArray, List.set_cons_zero, List.set_cons_succ]
  refine wpAnyH_take (i := 9) (v := ?_) rfl (by kernel_rfl) (by kernel_rfl) (by kernel_rfl) (fun _ _ _ h => h) (Or.inl ⟨by rfl, ?_⟩) (by assumption) ?_
  case refine_2 => (intro w5 hSw; (try dsimp only at hSw); have hl := HLK.out w5 hSw.1; go_simp; first | done | (with_reducible rfl))
  show wpAnyH _ _ _ _ _ _ _ (Act.put _ (some 31) _) _
  simp only [Act.put, List.setIfInBounds_toArray, List.set_cons_zero, List.set_cons_succ]
  refine wpAnyH_take (i := 11) (v := ?_) rfl (by kernel_rfl) (by kernel_rfl) (by kernel_rfl) (fun _ _ _ h => h) (Or.inl ⟨by rfl, ?_⟩) (by assumption) ?_
  case refine_2 => (intro w hSw; (try dsimp only at hSw); go_simp; first | done | (with_reducible rfl))
  show wpAnyH _ _ _ _ _ _ _ (Act.put _ (some 33) _) _
  simp only [Act.put, List.setIfInBounds_toArray, List.set_cons_zero, List.set_cons_succ]
  refine wpAnyH_ready (rs := [2]) (by kernel_rfl) (by simp) ?_
  refine (AllReadyH.cons rfl (fun K hK => ?_) AllReadyH.nil)
  go_simp
  go_at_call 51
  refine (onlyO a h64 _).mono ?_
  rintro e w1 ⟨rfl, hw1⟩
  obtain rfl := hw1.symm
  go_wp2_with fail
  refine hK.out _ _ ?_ (fun hHeld => ?_)
  · (exact hHeld)
  clear hK K
  try simp only [Act.put, List.setIfInBounds_toArray, List.set_cons_zero, List.set_cons_succ]
  refine wpAnyH_take (i := 10) (v := ?_) rfl (by kernel_rfl) (by kernel_rfl) (by kernel_rfl) (fun _ _ _ h => h) (Or.inl ⟨by rfl, ?_⟩) (by assumption) ?_
  case refine_2 => (intro w hSw; (try dsimp only at hSw); go_simp; first | done | (with_reducible rfl))
  show wpAnyH _ _ _ _ _ _ _ (Act.put _ (some 32) _) _
  simp only [Act.put, List.setIfInBounds_toArray, List.set_cons_zero, List.set_cons_succ]
  refine wpAnyH_ready (rs := [12]) (by kernel_rfl) (by simp) ?_
  refine (AllReadyH.cons rfl (fun K hK => ?_) AllReadyH.nil)
  go_simp
  refine hK.out _ _ ?_ (fun hHeld => ?_)
  · (exact ⟨(hHeld.1.setCell (by dsimp only; omega) _).setCell (by dsimp only; omega) _, far2 (by omega) hHeld.2.1, far2 (by omega) hHeld.2.2⟩)
  clear hK K
  try simp only [Act.put, List.setIfInBounds_toArray, List.set_cons_zero, List.set_cons_succ]
  refine wpAnyH_take (i := 13) (v := ?_) rfl (by kernel_rfl) (by kernel_rfl) (by kernel_rfl) (fun _ _ _ h => h) (Or.inl ⟨by rfl, ?_⟩) (by assumption) ?_
  case refine_2 => (intro w hSw; (try dsimp only at hSw); go_simp; first | done | (with_reducible rfl))
  show wpAnyH _ _ _ _ _ _ _ (Act.put _ (some 7) _) _
  simp only [Act.put, List.setIfInBounds_toArray, List.set_cons_zero, List.set_cons_succ]
  refine wpAnyH_done (by kernel_rfl) ?_ _
  clear hHeld
  go_wp2_with fail
  refine bodyPost_ret (v := .tuple #[knownV (only a) (m.tmp a), .func (.func 109) #[] #[.pointer (some ⟨w.heap.size, 0, none⟩)]]) ?_ rfl ⟨only a, m.tmp a, _, _, fun x z => x.getLsbD a, rfl, ⟨fun x w => rfl, fun x z w2 hb => given2 x z a h64 _ w2 (hb.cellOf (by simp [go_sem, b2]) (by omega) (by omega))⟩, ?_, ?_⟩
  · simp [results, Tryz.results94, go_sem, knownV, g0, g1]
  · have ho := HO.out
    have hA := HA.out
    refine ⟨fun t => ?_, fun k => by rw [hA]; simp [ho], fun x z => by rw [hA]; simp [ho]⟩
    rw [only_bit h64, hA]
    simp only [ho, true_and]
    omega
  · exact ((below_drewN HBY.out 1).setCell (by dsimp only; omega) _).setCell (by dsimp only; omega) _
set_option maxHeartbeats 800000 in
theorem givenN {w : World} {lim : Nat} {g : WB} {B : List Bool} {C : List LIns} {R : List LRow} {A : List LPlace} {N : List Int} {s slots : Nat} (hW : WorldAt w lim g B C R A N) (hD : Dims B C s slots A N) (q mp mt : Nat) (T : List Int) (m : FM) (hF : FMAt w q mp mt A T m) (i : LIns) (h1 : ¬ i.op = 1) (h2 : ¬ i.op = 2) :
    Calls Tryz.prog 94 #[.pointer (some ⟨g.q, 0, none⟩), .pointer (some ⟨q, 0, none⟩), i.val] w fun e w' => ∃ gh gi F caps sm, e = .returned (.tuple #[knownV gh gi, .func (.func F) #[] caps]) ∧ SameIs w' mp F caps sm ∧ GivenS B N m i gh gi sm ∧ Below w.heap.size w w' := by
  have hb12 := hD.b12
  have HW : Hid (WorldAt w lim g B C R A N) := hW
  have HD : Hid (Dims B C s slots A N) := hD
  have HF : Hid (FMAt w q mp mt A T m) := hF
  have hpl := hF.pm.lt
  have hx1 := hF.c1
  have hql := hF.lt.1
  have hb2 : Below w.heap.size w ((w.alloc (.cells #[.int .i64 i.op, .int .i64 i.dest, .int .i64 i.a, .int .i64 i.b, .int .i64 i.c, .int .u32 i.n] 49)).alloc (.cells #[.int .u64 0, .int .u64 0] 89)) := ((Below.refl _ _).alloc (Nat.le_refl _) _).alloc (by simp) _
  have HB2 : Hid (Below w.heap.size w ((w.alloc (.cells #[.int .i64 i.op, .int .i64 i.dest, .int .i64 i.a, .int .i64 i.b, .int .i64 i.c, .int .u32 i.n] 49)).alloc (.cells #[.int .u64 0, .int .u64 0] 89))) := hb2
  have h1z : (i.op == 1) = false := by simp [h1]
  have h2z : (i.op == 2) = false := by simp [h2]
  have HO : Hid (¬ i.op = 1 ∧ ¬ i.op = 2) := ⟨h1, h2⟩
  clear hW hD hF hb2 h1 h2
  unfold LIns.val
  go_enter Tryz.func94, Tryz.ntmps94
  go_wp2
  refine bodyPost_ret (v := .tuple #[knownV 0 0, .func (.func 110) #[] #[]]) ?_ rfl ⟨0, 0, _, _, fun x z => false, rfl, ⟨fun x w => rfl, fun x z w2 hb => given3 x z w2⟩, ?_, ?_⟩
  · simp [results, Tryz.results94, go_sem, knownV]
    rfl
  · have ho := HO.out
    exact ⟨fun t => by simp [ho.2], fun k => by simp [ho.1, ho.2], fun x z => by simp [ho.1, ho.2]⟩
  · exact ((Below.refl _ _).alloc (Nat.le_refl _) _).alloc (by simp) _
theorem givenW {w : World} {lim : Nat} {g : WB} {B : List Bool} {C : List LIns} {R : List LRow} {A : List LPlace} {N : List Int} {s slots : Nat} (hW : WorldAt w lim g B C R A N) (hD : Dims B C s slots A N) (q mp mt : Nat) (T : List Int) (m : FM) (hF : FMAt w q mp mt A T m) (i : LIns) (ha : i.op = 2 → 0 ≤ i.a ∧ i.a < B.length) :
    Calls Tryz.prog 94 #[.pointer (some ⟨g.q, 0, none⟩), .pointer (some ⟨q, 0, none⟩), i.val] w fun e w' => ∃ gh gi F caps sm, e = .returned (.tuple #[knownV gh gi, .func (.func F) #[] caps]) ∧ SameIs w' mp F caps sm ∧ GivenS B N m i gh gi sm ∧ Below w.heap.size w w' := by
  by_cases h1 : i.op = 1
  · exact givenC hW hD q mp mt T m hF i h1
  by_cases h2 : i.op = 2
  · exact givenM hW hD q mp mt T m hF i h1 h2 (ha h2)
  · exact givenN hW hD q mp mt T m hF i h1 h2
end Go.Proofs.YtcmnmogmdhofcaaGreat.form

/- What is known behind an instruction that gives (world.give). -/
namespace Go.Proofs.YtcmnmogmdhofcaaGreat.form
open Go.RowKit Go.Maps
set_option linter.unusedVariables false
set_option maxRecDepth 100000
attribute [local go_sem ↓] Go.wp_at_zero Go.wp_at_succ

def stepH (sm : Bits → Bits → Bool) (d : Nat) (x y : Bits) : Bits := if sm x y = true then x ||| only d else x &&& ~~~ only d
open Classical in
noncomputable def doneH (A : List LPlace) (j : Nat) (sm : Bits → Bits → Bool) (d : Nat) (gh gi : LPlace → Bits) : LPlace → Bits := fun p => if p ∈ A.take j then stepH sm d (gh p) (gi p) else gh p
section
variable {A : List LPlace} {j : Nat} {sm : Bits → Bits → Bool} {d : Nat} {gh gi : LPlace → Bits}
theorem doneH_zero : doneH A 0 sm d gh gi = gh := by
  funext p
  simp [doneH]
theorem doneH_here (hnd : A.Nodup) (hj : j < A.length) : doneH A j sm d gh gi (A.getD j .zero) = gh (A.getD j .zero) := by
  unfold doneH
  rw [if_neg]
  have e : A.getD j .zero = A[j] := by simp [List.getD, hj]
  rw [e, List.mem_iff_getElem]
  rintro ⟨k, hk, h⟩
  rw [List.getElem_take] at h
  have hk2 : k < j := by simp at hk; omega
  have := (List.getElem_inj (h₀ := by omega) (h₁ := hj) hnd).1 h
  omega
theorem updP_self (g : LPlace → Bits) (p : LPlace) : updP g p (g p) = g := by
  funext u
  unfold updP
  split
  · rename_i h; rw [samePl_eq h]
  · rfl
theorem samePl_self (p : LPlace) : samePl p p = true := by simp [samePl]
theorem doneH_step (hj : j < A.length) : updP (doneH A j sm d gh gi) (A.getD j .zero) (stepH sm d (gh (A.getD j .zero)) (gi (A.getD j .zero))) = doneH A (j + 1) sm d gh gi := by
  funext u
  have e : A.take (j + 1) = A.take j ++ [A.getD j .zero] := by rw [List.take_succ_eq_append_getElem hj]; simp [List.getD, hj]
  unfold updP doneH
  rw [e]
  by_cases h : samePl u (A.getD j .zero) = true
  · rw [if_pos h]
    have := samePl_eq h
    rw [if_pos (by rw [this]; simp), this]
  · rw [if_neg h]
    have hne : u ≠ A.getD j .zero := fun e2 => h (by rw [e2]; exact samePl_self _)
    by_cases h2 : u ∈ A.take j
    · rw [if_pos h2, if_pos (by simp [h2])]
    · rw [if_neg h2, if_neg]
      rw [List.mem_append]
      rintro (h3 | h3)
      · exact h2 h3
      · exact hne (by simpa using h3)
end

theorem doneH_all {A : List LPlace} {sm : Bits → Bits → Bool} {d : Nat} {gh gi : LPlace → Bits} {s slots : Int} (h : ∀ p, p ∈ A ↔ isB s slots p = true) : doneH A A.length sm d gh gi = fun p => if isB s slots p = true then (if sm (gh p) (gi p) = true then gh p ||| only d else gh p &&& ~~~ only d) else gh p := by
  funext p
  unfold doneH stepH
  rw [List.take_length]
  by_cases hp : isB s slots p = true
  · rw [if_pos ((h p).2 hp), if_pos hp]
  · rw [if_neg (fun e => hp ((h p).1 e)), if_neg hp]
theorem giveRound {w7 w9 : World} {q mp mt : Nat} {A : List LPlace} {T : List Int} {j d : Nat} {sm : Bits → Bits → Bool} {gh gi : LPlace → Bits} {tm : Int → Bits} {a : LPlace} {xh yi z : Bits} (hF : FMAt w7 q mp mt A T ⟨doneH A j sm d gh gi, gi, tm⟩) (hb : But mp mp w7 w9) (hp : PMap w9 mp A (updP (doneH A j sm d gh gi) a z) (updP gi a yi)) (hj : j < A.length) (ha : a = A.getD j .zero) (hx : xh = gh a) (hy : yi = gi a) (hz : stepH sm d xh yi = z) : FMAt w9 q mp mt A T ⟨doneH A (j + 1) sm d gh gi, gi, tm⟩ := by
  refine ⟨hb.cellOf hF.c0 hF.n1 hF.n1, hb.cellOf hF.c1 hF.n1 hF.n1, ?_, hF.tm.of_block (hb.block mt hF.tm.lt (Ne.symm hF.n3) (Ne.symm hF.n3)), hF.n1, hF.n2, hF.n3⟩
  have e1 : updP (doneH A j sm d gh gi) a z = doneH A (j + 1) sm d gh gi := by
    rw [← hz, hx, hy, ha]; exact doneH_step hj
  have e2 : updP gi a yi = gi := by rw [hy]; exact updP_self _ _
  rw [e1, e2] at hp
  exact hp

set_option maxHeartbeats 1600000 in
theorem giveW {w : World} {lim : Nat} {g : WB} {B : List Bool} {C : List LIns} {R : List LRow} {A : List LPlace} {N : List Int} {s slots : Nat} (hW : WorldAt w lim g B C R A N) (hD : Dims B C s slots A N) (hnd : A.Nodup) (q mp mt : Nat) (T : List Int) (hT : ∀ t, t ∈ T ↔ 0 ≤ t ∧ t < B.length) (hTl : T.length ≤ 12) (m : FM) (hF : FMAt w q mp mt A T m) (hq : lim ≤ q) (hmp : lim ≤ mp) (hmt : lim ≤ mt) (i : LIns) (L : LPlace) (hi : GiveOk B s slots i L) :
    Calls Tryz.prog 70 #[.pointer (some ⟨g.q, 0, none⟩), .pointer (some ⟨q, 0, none⟩), i.val, L.val] w fun e w' => e = .returned (.tuple #[]) ∧ ∃ gh gi sm, GotI s slots N m i L gh gi sm ∧ FMAt w' q mp mt A T (giveF s slots m i.dest.toNat L gh gi sm) ∧ But mp mt w w' := by
  have hb12 := hD.b12
  have hd0 := hi.d0
  have hd1 := hi.d1
  obtain ⟨d, hdd⟩ : ∃ d : Nat, i.dest = d := ⟨i.dest.toNat, by omega⟩
  have h64 : d < 64 := by omega
  have HDD : Hid (i.dest = (d : Int)) := hdd
  have HDL : Hid (d < B.length) := (by omega : d < B.length)
  have HW : Hid (WorldAt w lim g B C R A N) := hW
  have HD : Hid (Dims B C s slots A N) := hD
  have HF : Hid (FMAt w q mp mt A T m) := hF
  have HI : Hid (GiveOk B s slots i L) := hi
  have HND : Hid (A.Nodup) := hnd
  have HT : Hid (∀ t, t ∈ T ↔ 0 ≤ t ∧ t < B.length) := hT
  have hL : isB s slots L = true := hi.is
  have HL : Hid (isB s slots L = true) := hL
  have hlm := hF.lt
  have hle := hW.le
  have hql := hlm.1
  have hb2 : Below w.heap.size w ((w.alloc (.cells #[.int .i64 i.op, .int .i64 i.dest, .int .i64 i.a, .int .i64 i.b, .int .i64 i.c, .int .u32 i.n] 49)).alloc (.cells #[.int .i64 L.kind, .int .i64 L.n] 51)) := ((Below.refl _ _).alloc (Nat.le_refl _) _).alloc (by simp) _
  have c := givenW (hW.below hb2) hD q mp mt T m (hF.below hb2) i (fun h => ⟨hi.a0 h, hi.a1 h⟩)
  have HB2 : Hid (Below w.heap.size w ((w.alloc (.cells #[.int .i64 i.op, .int .i64 i.dest, .int .i64 i.a, .int .i64 i.b, .int .i64 i.c, .int .u32 i.n] 49)).alloc (.cells #[.int .i64 L.kind, .int .i64 L.n] 51))) := hb2
  clear hW hD hF hi hnd hT hb2 hd0 hd1 hdd hL
  unfold LIns.val at c ⊢
  unfold LPlace.val
  go_enter Tryz.func70, Tryz.ntmps70
  go_upto_region 2 with (go_at_call 94; refine c.mono ?_; rintro e w3 ⟨gh, gi, F, caps, sm, rfl, hsame, hgs, hb3⟩; have HSM : Hid (SameIs w3 mp F caps sm) := hsame; have HGS : Hid (GivenS B N m i gh gi sm) := hgs; have HB3 : Hid (Below w.heap.size w w3) := step_below hb3 HB2.out; have k0 : w3.cell? ⟨w.heap.size + 1, 0, none⟩ = some (.int .i64 L.kind) := step_cell hb3 (by simp [go_sem]); have k1 : w3.cell? ⟨w.heap.size + 1, 1, none⟩ = some (.int .i64 L.n) := step_cell hb3 (by simp [go_sem]); have k2 : w3.cell? ⟨w.heap.size, 1, none⟩ = some (.int .i64 (d : Int)) := step_cell hb3 (by simp [go_sem]; exact HDD.out); clear hb3 hsame hgs; unfold knownV)
  obtain ⟨w4, hw4⟩ : ∃ w4, w4 = w3.alloc (.cells #[.int .u64 (bn gh), .int .u64 (bn gi)] 89) := ⟨_, rfl⟩
  have hb34 : Below w3.heap.size w3 w4 := by rw [hw4]; exact (Below.refl _ _).alloc (Nat.le_refl _) _
  have g0 : w4.cell? ⟨w3.heap.size, 0, none⟩ = some (.int .u64 (bn gh)) := by rw [hw4]; simp [go_sem]
  have g1 : w4.cell? ⟨w3.heap.size, 1, none⟩ = some (.int .u64 (bn gi)) := by rw [hw4]; simp [go_sem]
  have hz34 : w4.heap.size = w3.heap.size + 1 := by rw [hw4]; simp
  rw [← hw4]
  clear hw4 c
  replace k0 := step_cell hb34 k0
  replace k1 := step_cell hb34 k1
  replace k2 := step_cell hb34 k2
  have HB34 : Hid (Below w3.heap.size w3 w4) := hb34
  have HZ34 : Hid (w4.heap.size = w3.heap.size + 1) := hz34
  have HB4 : Hid (Below w.heap.size w w4) := step_below hb34 HB3.out
  have hwl := cell_lt k2
  have hwl1 := cell_lt k0
  have hwg := cell_lt g0
  have HLO : Hid (w.heap.size < w3.heap.size) := (by have h1 := HB3.out.size; have h2 := hwl1; omega : w.heap.size < w3.heap.size ∨ w.heap.size = w3.heap.size).elim id (fun h => by have := hwl1; omega)
  have hne : w4.heap.size ≠ mp := by have := (HF.out.below HB4.out).pm.lt; omega
  have hba : Below w4.heap.size w4 (w4.alloc (.cells #[.int .i64 L.kind, .int .i64 L.n] 51)) := (Below.refl _ _).alloc (Nat.le_refl _) _
  have c := keepF q mp mt 113 (.pointer (some ⟨w4.heap.size, 0, none⟩)) A T m (farB L) _ ((HF.out.below HB4.out).below hba) (staysApart L w4.heap.size mp _ (by simp [go_sem]) (by simp [go_sem]) hne)
  have HBA : Hid (Below w4.heap.size w4 (w4.alloc (.cells #[.int .i64 L.kind, .int .i64 L.n] 51))) := hba
  clear hba hb34 hz34
  go_upto_region 3 with (first
    | (go_at_call 96; refine (apartFromO L _).mono ?_; rintro e w5 ⟨rfl, hw5⟩; subst hw5)
    | (go_at_call 95; refine c.mono ?_; rintro e w6 ⟨rfl, hf6, hb6⟩; have HF6 : Hid (FMAt w6 q mp mt A T ⟨fun p => if farB L p = true then m.has p else 0, fun p => if farB L p = true then m.is p else 0, m.tmp⟩) := hf6; have HB6 : Hid (But mp mp w4 w6) := hb6.mono HBA.out; clear hf6 hb6))
  clear c
  have hgb : w3.heap.size ≠ mp := by have := (HF.out.below HB3.out).pm.lt; omega
  replace k0 := HB6.out.cellOf k0 (by omega) (by omega)
  replace k1 := HB6.out.cellOf k1 (by omega) (by omega)
  replace k2 := HB6.out.cellOf k2 (by omega) (by omega)
  replace g0 := HB6.out.cellOf g0 hgb hgb
  replace g1 := HB6.out.cellOf g1 hgb hgb
  have HW6 : Hid (WorldAt w6 lim g B C R A N) := (HW.out.below HB4.out).but HB6.out hmp hmp
  have y3 := HW6.out.stat.p3
  have hgq := cell_lt y3
  have ha36 : (A.length : Int) ≤ 36 := by have := HD.out.a36; omega
  have HFK : Hid (FMAt w6 q mp mt A T ⟨doneH A 0 sm d (keepP m.has L) (keepP m.is L), keepP m.is L, m.tmp⟩) := by
    have h := HF6.out
    have e1 : (fun p => if farB L p = true then m.has p else 0) = keepP m.has L := far_keep _ _
    have e2 : (fun p => if farB L p = true then m.is p else 0) = keepP m.is L := far_keep _ _
    simp only [e1, e2] at h
    rw [doneH_zero]
    exact h
  go_wp2
  go_loopg [11, 12, 29] (A.length + 1) (fun gg v11 v12 v wr => ∃ (j : Nat), v = .int .i64 j ∧ j ≤ A.length ∧ gg = A.length + 1 - j ∧ FMAt wr q mp mt A T ⟨doneH A j sm d (keepP m.has L) (keepP m.is L), keepP m.is L, m.tmp⟩ ∧ But mp mp w6 wr)
  case atStart => exact ⟨0, rfl, by omega, by omega, HFK.out, But.of_below (Below.refl _ _)⟩
  case round =>
    obtain ⟨j, rfl, hj, hgk, hfr, hbr⟩ := hrel
    have HGK : Hid (gk = A.length + 1 - j) := hgk
    have HFR : Hid (FMAt wr q mp mt A T ⟨doneH A j sm d (keepP m.has L) (keepP m.is L), keepP m.is L, m.tmp⟩) := hfr
    have HBR : Hid (But mp mp w6 wr) := hbr
    have HWR : Hid (WorldAt wr lim g B C R A N) := HW6.out.but hbr hmp hmp
    have e3 : w.heap.size ≠ mp := by omega
    have z2 := hbr.cellOf k2 e3 e3
    have e0 : q ≠ mp := hfr.n1
    have hwr := hfr.lt
    clear hgk hfr hbr
    by_cases hjl : j < A.length
    · have hjz : (j : Int) < (A.length : Int) := by omega
      obtain ⟨a, ha⟩ : ∃ a, a = A.getD j .zero := ⟨_, rfl⟩
      obtain ⟨y0, y1⟩ := HWR.out.stat.plc j hjl
      rw [← ha] at y0 y1
      have hbl := cell_lt y0
      have ham : a ∈ A := by rw [ha]; simp [List.getD, hjl]
      have hwf : PlWf a := HD.out.wf ((HD.out.all _).1 ham)
      have HWF : Hid (PlWf a) := hwf
      have HAM : Hid (a ∈ A) := ham
      have HA : Hid (a = A.getD j .zero) := ha
      clear ha ham
      obtain ⟨xh, hxh⟩ : ∃ xh, xh = keepP m.has L a := ⟨_, rfl⟩
      obtain ⟨yi, hyi⟩ : ∃ yi, yi = keepP m.is L a := ⟨_, rfl⟩
      have HXH : Hid (xh = keepP m.has L a) := hxh
      have HYI : Hid (yi = keepP m.is L a) := hyi
      have hhe : doneH A j sm d (keepP m.has L) (keepP m.is L) a = xh := by
        rw [HA.out, doneH_here HND.out hjl, hxh, HA.out]
      have HHE : Hid (doneH A j sm d (keepP m.has L) (keepP m.is L) a = xh) := hhe
      clear hxh hyi hwf hhe
      go_upto_region 6 with fail
      obtain ⟨wx, hwx⟩ : ∃ wx, wx = wr.alloc (.cells #[.int .i64 a.kind, .int .i64 a.n] 51) := ⟨_, rfl⟩
      have hbx : Below wr.heap.size wr wx := by rw [hwx]; exact (Below.refl _ _).alloc (Nat.le_refl _) _
      have x1 : wx.cell? ⟨wr.heap.size, 0, none⟩ = some (.int .i64 a.kind) := by rw [hwx]; simp [go_sem]
      have x2 : wx.cell? ⟨wr.heap.size, 1, none⟩ = some (.int .i64 a.n) := by rw [hwx]; simp [go_sem]
      have hzx : wx.heap.size = wr.heap.size + 1 := by rw [hwx]; simp
      have hfx := HFR.out.below hbx
      have x0 : wx.cell? ⟨q, 0, none⟩ = some (.map (some mp)) := hfx.c0
      have HLK : Hid (∀ w5, Below wx.heap.size wx w5 → (Instr.lookup 84 (.map (some mp)) (.agg #[.int .i64 a.kind, .int .i64 a.n]) false).run Tryz.prog w5 = .ok (.agg #[.int .u64 (bn xh), .int .u64 (bn yi)]) w5) := fun w5 hb => by
        have h := PMap.look (hfx.pm.below hb) HWF.out
        rw [show (⟨doneH A j sm d (keepP m.has L) (keepP m.is L), keepP m.is L, m.tmp⟩ : FM).has a = xh from HHE.out, show (⟨doneH A j sm d (keepP m.has L) (keepP m.is L), keepP m.is L, m.tmp⟩ : FM).is a = yi from HYI.out.symm] at h
        exact h
      have HBX : Hid (Below wr.heap.size wr wx) := hbx
      have HZX : Hid (wx.heap.size = wr.heap.size + 1) := hzx
      have z3 := step_cell hbx z2
      rw [← hwx]
      clear hwx hbx hzx hfx z2 y0 y1
      refine wp_region_held_drew (S := (fun w' => Below wx.heap.size wx w' ∧ w'.cell? ⟨q, 0, none⟩ = some (.map (some mp)) ∧ w'.cell? ⟨wr.heap.size, 0, none⟩ = some (.int .i64 a.kind) ∧ w'.cell? ⟨wr.heap.size, 1, none⟩ = some (.int .i64 a.n))) (by rfl) ?_ (fun hHeld => ?_)
      · (exact ⟨(Below.refl _ _).drew, x0, x1, x2⟩)
      refine wpAnyH_take (i := 0) (v := ?_) rfl (by kernel_rfl) (by kernel_rfl) (by kernel_rfl) (fun _ _ _ h => h) (Or.inl ⟨by rfl, ?_⟩) (by assumption) ?_
      case refine_2 => (intro w hSw; (try dsimp only at hSw); go_simp; first | done | (with_reducible rfl))
      show wpAnyH _ _ _ _ _ _ _ (Act.put _ (some 33) _) _
      simp only [Act.put, List.setIfInBounds_toArray, List.set_cons_zero, List.set_cons_succ]
      refine wpAnyH_take (i := 1) (v := ?_) rfl (by kernel_rfl) (by kernel_rfl) (by kernel_rfl) (fun _ _ _ h => h) (Or.inl ⟨by rfl, ?_⟩) (by assumption) ?_
      case refine_2 => (intro w hSw; (try dsimp only at hSw); go_simp; first | done | (with_reducible rfl))
      show wpAnyH _ _ _ _ _ _ _ (Act.put _ (some 34) _) _
      simp only [Act.put, List.setIfInBounds_toArray, List.set_cons_zero, List.set_cons_succ]
      refine wpAnyH_take (i := 2) (v := ?_) rfl (by kernel_rfl) (by kernel_rfl) (by kernel_rfl) (fun _ _ _ h => h) (Or.inl ⟨by rfl, ?_⟩) (by assumption) ?_
      case refine_2 => (intro w hSw; (try dsimp only at hSw); go_simp; first | done | (with_reducible rfl))
      show wpAnyH _ _ _ _ _ _ _ (Act.put _ (some 35) _) _
      simp only [Act.put, List.setIfInBounds_toArray, List.set_cons_zero, List.set_cons_succ]
      refine wpAnyH_take (i := 3) (v := ?_) rfl (by kernel_rfl) (by kernel_rfl) (by kernel_rfl) (fun _ _ _ h => h) (Or.inl ⟨by rfl, ?_⟩) (by assumption) ?_
      case refine_2 => (intro w hSw; (try dsimp only at hSw); go_simp; first | done | (with_reducible rfl))
      show wpAnyH _ _ _ _ _ _ _ (Act.put _ (some 36) _) _
      simp only [Act.put, List.setIfInBounds_toArray, List.set_cons_zero, List.set_cons_succ]
      refine wpAnyH_take (i := 4) (v := ?_) rfl (by kernel_rfl) (by kernel_rfl) (by kernel_rfl) (fun _ _ _ h => h) (Or.inl ⟨by rfl, ?_⟩) (by assumption) ?_
      case refine_2 => (intro w hSw; (try dsimp only at hSw); go_simp; first | done | (with_reducible rfl))
      show wpAnyH _ _ _ _ _ _ _ (Act.put _ (some 37) _) _
      simp only [Act.put, List.setIfInBounds_toArray, List.set_cons_zero, List.set_cons_succ]
      refine wpAnyH_take (i := 5) (v := ?_) rfl (by kernel_rfl) (by kernel_rfl) (by kernel_rfl) (fun _ _ _ h => h) (Or.inl ⟨by rfl, ?_⟩) (by assumption) ?_
      case refine_2 => (intro w5 hSw; (try dsimp only at hSw); have hl := HLK.out w5 hSw.1; go_simp; first | done | (with_reducible rfl))
      show wpAnyH _ _ _ _ _ _ _ (Act.put _ (some 38) _) _
      simp only [Act.put, List.setIfInBounds_toArray, List.set_cons_zero, List.set_cons_succ]
      refine wpAnyH_ready (rs := [6]) (by kernel_rfl) (by simp) ?_
      refine (AllReadyH.cons rfl (fun K hK => ?_) AllReadyH.nil)
      have h8 := hHeld
      go_simp
      refine hK.out _ _ ?_ (fun hHeld => ?_)
      · (exact ⟨step_below ((Below.refl _ _).alloc (Nat.le_refl _) _) hHeld.1, step_cell ((Below.refl _ _).alloc (Nat.le_refl _) _) hHeld.2.1, step_cell ((Below.refl _ _).alloc (Nat.le_refl _) _) hHeld.2.2.1, step_cell ((Below.refl _ _).alloc (Nat.le_refl _) _) hHeld.2.2.2⟩)
      clear hK K
      try simp only [Act.put, List.setIfInBounds_toArray, List.set_cons_zero, List.set_cons_succ]
      refine wpAnyH_ready (rs := [7]) (by kernel_rfl) (by simp) ?_
      refine (AllReadyH.cons rfl (fun K hK => ?_) AllReadyH.nil)
      go_simp
      refine hK.out _ _ ?_ (fun hHeld => ?_)
      · (exact ⟨step_below ((Below.refl _ _).alloc (Nat.le_refl _) _) h8.1, step_cell ((Below.refl _ _).alloc (Nat.le_refl _) _) h8.2.1, step_cell ((Below.refl _ _).alloc (Nat.le_refl _) _) h8.2.2.1, step_cell ((Below.refl _ _).alloc (Nat.le_refl _) _) h8.2.2.2⟩)
      clear hK K
      try simp only [Act.put, List.setIfInBounds_toArray, List.set_cons_zero, List.set_cons_succ]
      refine wpAnyH_done (by kernel_rfl) ?_ _
      clear hHeld
      obtain ⟨wy, hwy⟩ : ∃ wy, wy = (wx.alloc (.cells #[.int .u64 (bn xh), .int .u64 (bn yi)] 89)).drew := ⟨_, rfl⟩
      have hbxy : Below wx.heap.size wx wy := by rw [hwy]; exact ((Below.refl _ _).alloc (Nat.le_refl _) _).drew
      have v3 : wy.cell? ⟨wx.heap.size, 0, none⟩ = some (.int .u64 (bn xh)) := by rw [hwy]; simp [go_sem]
      have v4 : wy.cell? ⟨wx.heap.size, 1, none⟩ = some (.int .u64 (bn yi)) := by rw [hwy]; simp [go_sem]
      rw [← hwy]
      clear hwy
      have v0 := step_cell hbxy x0
      have v1 := step_cell hbxy x1
      have v2 := step_cell hbxy x2
      have v5 := step_cell hbxy z3
      have HBY : Hid (Below wr.heap.size wr wy) := step_below hbxy HBX.out
      obtain ⟨cc, hcc⟩ : ∃ cc, cc = sm xh yi := ⟨_, rfl⟩
      have HCC : Hid (cc = sm xh yi) := hcc
      have hcall := HSM.out.2 xh yi wy (((But.of_below HB34.out).trans HB6.out).trans (HBR.out.trans (But.of_below HBY.out)))
      have hent := HSM.out.1
      rw [← hcc] at hcall
      have e1 : wr.heap.size ≠ mp := by omega
      have e2 : wx.heap.size ≠ mp := by have := HZX.out; omega
      clear x0 x1 x2 z3 hbxy hcc
      unfold knownV at hcall
      have hn36 : A.length < maxLen := by have := HD.out.a36; unfold maxLen; omega
      rcases Bool.eq_false_or_eq_true cc with hc | hc
      · subst hc
        go_upto_region 8 with (refine hcall.mono ?_; rintro e w7 ⟨rfl, hb7⟩; have HB7 : Hid (Below wy.heap.size wy w7) := hb7; have x0 := step_cell hb7 v0; have x1 := step_cell hb7 v1; have x2 := step_cell hb7 v2; have x3 := step_cell hb7 v3; have x4 := step_cell hb7 v4; have x5 := step_cell hb7 v5; clear hb7 hcall)
        clear v0 v1 v2 v3 v4 v5
        have hF7 := HFR.out.below (step_below HB7.out HBY.out)
        obtain ⟨w9, hrun, hp9, hg9⟩ := (hF7.pm.of_block (w' := w7.drew) rfl).put hn36 HWF.out HAM.out (xh ||| only d) yi
        unfold LPlace.val knownV at hrun
        have HF7 : Hid (FMAt w7 q mp mt A T ⟨doneH A j sm d (keepP m.has L) (keepP m.is L), keepP m.is L, m.tmp⟩) := hF7
        have HP9 : Hid (PMap w9 mp A (updP (doneH A j sm d (keepP m.has L) (keepP m.is L)) a (xh ||| only d)) (updP (keepP m.is L) a yi)) := hp9
        have HG9 : Hid (But mp mp w7.drew w9) := grown_but hg9
        have hor := or_is xh (only d)
        clear hp9 hg9 hF7
        refine wp_region_held_drew (S := (fun w' => But mp mp w7 w' ∧ w'.cell? ⟨q, 0, none⟩ = some (.map (some mp)) ∧ w'.cell? ⟨wr.heap.size, 0, none⟩ = some (.int .i64 a.kind) ∧ w'.cell? ⟨wr.heap.size, 1, none⟩ = some (.int .i64 a.n) ∧ w'.cell? ⟨wx.heap.size, 0, none⟩ = some (.int .u64 (bn xh)) ∧ w'.cell? ⟨wx.heap.size, 1, none⟩ = some (.int .u64 (bn yi)) ∧ w'.cell? ⟨w.heap.size, 1, none⟩ = some (.int .i64 (d : Int)))) (by rfl) ?_ (fun hHeld => ?_)
        · (exact ⟨But.of_below (Below.refl _ _).drew, x0, x1, x2, x3, x4, x5⟩)
        refine wpAnyH_take (i := 0) (v := ?_) rfl (by kernel_rfl) (by kernel_rfl) (by kernel_rfl) (fun _ _ _ h => h) (Or.inl ⟨by rfl, ?_⟩) (by assumption) ?_
        case refine_2 => (intro w hSw; (try dsimp only at hSw); go_simp; first | done | (with_reducible rfl))
        show wpAnyH _ _ _ _ _ _ _ (Act.put _ (some 42) _) _
        simp only [Act.put, List.setIfInBounds_toArray, List.set_cons_zero, List.set_cons_succ]
        refine wpAnyH_take (i := 1) (v := ?_) rfl (by kernel_rfl) (by kernel_rfl) (by kernel_rfl) (fun _ _ _ h => h) (Or.inl ⟨by rfl, ?_⟩) (by assumption) ?_
        case refine_2 => (intro w hSw; (try dsimp only at hSw); go_simp; first | done | (with_reducible rfl))
        show wpAnyH _ _ _ _ _ _ _ (Act.put _ (some 43) _) _
        simp only [Act.put, List.setIfInBounds_toArray, List.set_cons_zero, List.set_cons_succ]
        refine wpAnyH_take (i := 2) (v := ?_) rfl (by kernel_rfl) (by kernel_rfl) (by kernel_rfl) (fun _ _ _ h => h) (Or.inl ⟨by rfl, ?_⟩) (by assumption) ?_
        case refine_2 => (intro w hSw; (try dsimp only at hSw); go_simp; first | done | (with_reducible rfl))
        show wpAnyH _ _ _ _ _ _ _ (Act.put _ (some 44) _) _
        simp only [Act.put, List.setIfInBounds_toArray, List.set_cons_zero, List.set_cons_succ]
        refine wpAnyH_take (i := 3) (v := ?_) rfl (by kernel_rfl) (by kernel_rfl) (by kernel_rfl) (fun _ _ _ h => h) (Or.inl ⟨by rfl, ?_⟩) (by assumption) ?_
        case refine_2 => (intro w hSw; (try dsimp only at hSw); go_simp; first | done | (with_reducible rfl))
        show wpAnyH _ _ _ _ _ _ _ (Act.put _ (some 45) _) _
        simp only [Act.put, List.setIfInBounds_toArray, List.set_cons_zero, List.set_cons_succ]
        refine wpAnyH_take (i := 4) (v := ?_) rfl (by kernel_rfl) (by kernel_rfl) (by kernel_rfl) (fun _ _ _ h => h) (Or.inl ⟨by rfl, ?_⟩) (by assumption) ?_
        case refine_2 => (intro w hSw; (try dsimp only at hSw); go_simp; first | done | (with_reducible rfl))
        show wpAnyH _ _ _ _ _ _ _ (Act.put _ (some 46) _) _
        simp only [Act.put, List.setIfInBounds_toArray, List.set_cons_zero, List.set_cons_succ]
        refine wpAnyH_take (i := 5) (v := ?_) rfl (by kernel_rfl) (by kernel_rfl) (by kernel_rfl) (fun _ _ _ h => h) (Or.inl ⟨by rfl, ?_⟩) (by assumption) ?_
        case refine_2 => (intro w hSw; (try dsimp only at hSw); go_simp; first | done | (with_reducible rfl))
        show wpAnyH _ _ _ _ _ _ _ (Act.put _ (some 47) _) _
        simp only [Act.put, List.setIfInBounds_toArray, List.set_cons_zero, List.set_cons_succ]
        refine wpAnyH_take (i := 6) (v := ?_) rfl (by kernel_rfl) (by kernel_rfl) (by kernel_rfl) (fun _ _ _ h => h) (Or.inl ⟨by rfl, ?_⟩) (by assumption) ?_
        case refine_2 => (intro w hSw; (try dsimp only at hSw); go_simp; first | done | (with_reducible rfl))
        show wpAnyH _ _ _ _ _ _ _ (Act.put _ (some 48) _) _
        simp only [Act.put, List.setIfInBounds_toArray, List.set_cons_zero, List.set_cons_succ]
        refine wpAnyH_take (i := 7) (v := ?_) rfl (by kernel_rfl) (by kernel_rfl) (by kernel_rfl) (fun _ _ _ h => h) (Or.inl ⟨by rfl, ?_⟩) (by assumption) ?_
        case refine_2 => (intro w hSw; (try dsimp only at hSw); go_simp; first | done | (with_reducible rfl))
        show wpAnyH _ _ _ _ _ _ _ (Act.put _ (some 49) _) _
        simp only [Act.put, List.setIfInBounds_toArray, List.set_cons_zero, List.set_cons_succ]
        refine wpAnyH_take (i := 8) (v := ?_) rfl (by kernel_rfl) (by kernel_rfl) (by kernel_rfl) (fun _ _ _ h => h) (Or.inl ⟨by rfl, ?_⟩) (by assumption) ?_
        case refine_2 => (intro w hSw; (try dsimp only at hSw); go_simp; first | done | (with_reducible rfl))
        show wpAnyH _ _ _ _ _ _ _ (Act.put _ (some 50) _) _
        simp only [Act.put, List.setIfInBounds_toArray, List.set_cons_zero, List.set_cons_succ]
        refine wpAnyH_take (i := 11) (v := ?_) rfl (by kernel_rfl) (by kernel_rfl) (by kernel_rfl) (fun _ _ _ h => h) (Or.inl ⟨by rfl, ?_⟩) (by assumption) ?_
        case refine_2 => (intro w hSw; (try dsimp only at hSw); go_simp; first | done | (with_reducible rfl))
        show wpAnyH _ _ _ _ _ _ _ (Act.put _ (some 53) _) _
        simp only [Act.put, List.setIfInBounds_toArray, List.set_cons_zero, List.set_cons_succ]
        refine wpAnyH_take (i := 12) (v := ?_) rfl (by kernel_rfl) (by kernel_rfl) (by kernel_rfl) (fun _ _ _ h => h) (Or.inl ⟨by rfl, ?_⟩) (by assumption) ?_
        case refine_2 => (intro w hSw; (try dsimp only at hSw); go_simp; first | done | (with_reducible rfl))
        show wpAnyH _ _ _ _ _ _ _ (Act.put _ (some 54) _) _
        simp only [Act.put, List.setIfInBounds_toArray, List.set_cons_zero, List.set_cons_succ]
        refine wpAnyH_ready (rs := [9]) (by kernel_rfl) (by simp) ?_
        refine (AllReadyH.cons rfl (fun K hK => ?_) AllReadyH.nil)
        go_simp
        go_at_call 51
        refine (onlyO d h64 _).mono ?_
        rintro e w1 ⟨rfl, hw1⟩
        obtain rfl := hw1.symm
        go_wp2_with fail
        refine hK.out _ _ ?_ (fun hHeld => ?_)
        · (exact hHeld)
        clear hK K
        try simp only [Act.put, List.setIfInBounds_toArray, List.set_cons_zero, List.set_cons_succ]
        refine wpAnyH_take (i := 10) (v := ?_) rfl (by kernel_rfl) (by kernel_rfl) (by kernel_rfl) (fun _ _ _ h => h) (Or.inl ⟨by rfl, ?_⟩) (by assumption) ?_
        case refine_2 => (intro w hSw; (try dsimp only at hSw); go_simp; first | done | (with_reducible rfl))
        show wpAnyH _ _ _ _ _ _ _ (Act.put _ (some 52) _) _
        simp only [Act.put, List.setIfInBounds_toArray, List.set_cons_zero, List.set_cons_succ]
        refine wpAnyH_take (i := 13) (v := ?_) rfl (by kernel_rfl) (by kernel_rfl) (by kernel_rfl) (fun _ _ _ h => h) (Or.inl ⟨by rfl, ?_⟩) (by assumption) ?_
        case refine_2 => (intro w hSw; (try dsimp only at hSw); go_simp; first | done | (with_reducible rfl))
        show wpAnyH _ _ _ _ _ _ _ (Act.put _ (some 55) _) _
        simp only [Act.put, List.setIfInBounds_toArray, List.set_cons_zero, List.set_cons_succ]
        refine wpAnyH_ready (rs := [14]) (by kernel_rfl) (by simp) ?_
        refine (AllReadyH.cons rfl (fun K hK => ?_) AllReadyH.nil)
        go_simp
        refine hK.out _ _ ?_ (fun hHeld => ?_)
        · (exact ⟨hHeld.1.trans HG9.out, HG9.out.cellOf hHeld.2.1 e0 e0, HG9.out.cellOf hHeld.2.2.1 e1 e1, HG9.out.cellOf hHeld.2.2.2.1 e1 e1, HG9.out.cellOf hHeld.2.2.2.2.1 e2 e2, HG9.out.cellOf hHeld.2.2.2.2.2.1 e2 e2, HG9.out.cellOf hHeld.2.2.2.2.2.2 e3 e3⟩)
        clear hK K
        try simp only [Act.put, List.setIfInBounds_toArray, List.set_cons_zero, List.set_cons_succ]
        refine wpAnyH_done (by kernel_rfl) ?_ _
        clear hHeld
        have hgk := HGK.out
        have hb9 : But mp mp w7 w9 := (But.of_below (Below.refl _ _).drew).trans HG9.out
        go_wp2_with fail
        go_roundg (gk - 1)
        case measure => omega
        case rel => exact ⟨j + 1, by go_num, by omega, by omega, giveRound HF7.out hb9 HP9.out hjl HA.out HXH.out HYI.out (by unfold stepH; rw [← HCC.out]; simp), HBR.out.trans ((But.of_below (step_below HB7.out HBY.out)).trans hb9)⟩
      · subst hc
        go_upto_region 9 with (refine hcall.mono ?_; rintro e w7 ⟨rfl, hb7⟩; have HB7 : Hid (Below wy.heap.size wy w7) := hb7; have x0 := step_cell hb7 v0; have x1 := step_cell hb7 v1; have x2 := step_cell hb7 v2; have x3 := step_cell hb7 v3; have x4 := step_cell hb7 v4; have x5 := step_cell hb7 v5; clear hb7 hcall)
        clear v0 v1 v2 v3 v4 v5
        have hF7 := HFR.out.below (step_below HB7.out HBY.out)
        obtain ⟨w9, hrun, hp9, hg9⟩ := (hF7.pm.of_block (w' := w7.drew) rfl).put hn36 HWF.out HAM.out (xh &&& ~~~ only d) yi
        unfold LPlace.val knownV at hrun
        have HF7 : Hid (FMAt w7 q mp mt A T ⟨doneH A j sm d (keepP m.has L) (keepP m.is L), keepP m.is L, m.tmp⟩) := hF7
        have HP9 : Hid (PMap w9 mp A (updP (doneH A j sm d (keepP m.has L) (keepP m.is L)) a (xh &&& ~~~ only d)) (updP (keepP m.is L) a yi)) := hp9
        have HG9 : Hid (But mp mp w7.drew w9) := grown_but hg9
        have hor := andNot_is xh (only d)
        clear hp9 hg9 hF7
        refine wp_region_held_drew (S := (fun w' => But mp mp w7 w' ∧ w'.cell? ⟨q, 0, none⟩ = some (.map (some mp)) ∧ w'.cell? ⟨wr.heap.size, 0, none⟩ = some (.int .i64 a.kind) ∧ w'.cell? ⟨wr.heap.size, 1, none⟩ = some (.int .i64 a.n) ∧ w'.cell? ⟨wx.heap.size, 0, none⟩ = some (.int .u64 (bn xh)) ∧ w'.cell? ⟨wx.heap.size, 1, none⟩ = some (.int .u64 (bn yi)) ∧ w'.cell? ⟨w.heap.size, 1, none⟩ = some (.int .i64 (d : Int)))) (by rfl) ?_ (fun hHeld => ?_)
        · (exact ⟨But.of_below (Below.refl _ _).drew, x0, x1, x2, x3, x4, x5⟩)
        refine wpAnyH_take (i := 0) (v := ?_) rfl (by kernel_rfl) (by kernel_rfl) (by kernel_rfl) (fun _ _ _ h => h) (Or.inl ⟨by rfl, ?_⟩) (by assumption) ?_
        case refine_2 => (intro w hSw; (try dsimp only at hSw); go_simp; first | done | (with_reducible rfl))
        show wpAnyH _ _ _ _ _ _ _ (Act.put _ (some 56) _) _
        simp only [Act.put, List.setIfInBounds_toArray, List.set_cons_zero, List.set_cons_succ]
        refine wpAnyH_take (i := 1) (v := ?_) rfl (by kernel_rfl) (by kernel_rfl) (by kernel_rfl) (fun _ _ _ h => h) (Or.inl ⟨by rfl, ?_⟩) (by assumption) ?_
        case refine_2 => (intro w hSw; (try dsimp only at hSw); go_simp; first | done | (with_reducible rfl))
        show wpAnyH _ _ _ _ _ _ _ (Act.put _ (some 57) _) _
        simp only [Act.put, List.setIfInBounds_toArray, List.set_cons_zero, List.set_cons_succ]
        refine wpAnyH_take (i := 2) (v := ?_) rfl (by kernel_rfl) (by kernel_rfl) (by kernel_rfl) (fun _ _ _ h => h) (Or.inl ⟨by rfl, ?_⟩) (by assumption) ?_
        case refine_2 => (intro w hSw; (try dsimp only at hSw); go_simp; first | done | (with_reducible rfl))
        show wpAnyH _ _ _ _ _ _ _ (Act.put _ (some 58) _) _
        simp only [Act.put, List.setIfInBounds_toArray, List.set_cons_zero, List.set_cons_succ]
        refine wpAnyH_take (i := 3) (v := ?_) rfl (by kernel_rfl) (by kernel_rfl) (by kernel_rfl) (fun _ _ _ h => h) (Or.inl ⟨by rfl, ?_⟩) (by assumption) ?_
        case refine_2 => (intro w hSw; (try dsimp only at hSw); go_simp; first | done | (with_reducible rfl))
        show wpAnyH _ _ _ _ _ _ _ (Act.put _ (some 59) _) _
        simp only [Act.put, List.setIfInBounds_toArray, List.set_cons_zero, List.set_cons_succ]
        refine wpAnyH_take (i := 4) (v := ?_) rfl (by kernel_rfl) (by kernel_rfl) (by kernel_rfl) (fun _ _ _ h => h) (Or.inl ⟨by rfl, ?_⟩) (by assumption) ?_
        case refine_2 => (intro w hSw; (try dsimp only at hSw); go_simp; first | done | (with_reducible rfl))
        show wpAnyH _ _ _ _ _ _ _ (Act.put _ (some 60) _) _
        simp only [Act.put, List.setIfInBounds_toArray, List.set_cons_zero, List.set_cons_succ]
        refine wpAnyH_take (i := 5) (v := ?_) rfl (by kernel_rfl) (by kernel_rfl) (by kernel_rfl) (fun _ _ _ h => h) (Or.inl ⟨by rfl, ?_⟩) (by assumption) ?_
        case refine_2 => (intro w hSw; (try dsimp only at hSw); go_simp; first | done | (with_reducible rfl))
        show wpAnyH _ _ _ _ _ _ _ (Act.put _ (some 61) _) _
        simp only [Act.put, List.setIfInBounds_toArray, List.set_cons_zero, List.set_cons_succ]
        refine wpAnyH_take (i := 6) (v := ?_) rfl (by kernel_rfl) (by kernel_rfl) (by kernel_rfl) (fun _ _ _ h => h) (Or.inl ⟨by rfl, ?_⟩) (by assumption) ?_
        case refine_2 => (intro w hSw; (try dsimp only at hSw); go_simp; first | done | (with_reducible rfl))
        show wpAnyH _ _ _ _ _ _ _ (Act.put _ (some 62) _) _
        simp only [Act.put, List.setIfInBounds_toArray, List.set_cons_zero, List.set_cons_succ]
        refine wpAnyH_take (i := 7) (v := ?_) rfl (by kernel_rfl) (by kernel_rfl) (by kernel_rfl) (fun _ _ _ h => h) (Or.inl ⟨by rfl, ?_⟩) (by assumption) ?_
        case refine_2 => (intro w hSw; (try dsimp only at hSw); go_simp; first | done | (with_reducible rfl))
        show wpAnyH _ _ _ _ _ _ _ (Act.put _ (some 63) _) _
        simp only [Act.put, List.setIfInBounds_toArray, List.set_cons_zero, List.set_cons_succ]
        refine wpAnyH_take (i := 8) (v := ?_) rfl (by kernel_rfl) (by kernel_rfl) (by kernel_rfl) (fun _ _ _ h => h) (Or.inl ⟨by rfl, ?_⟩) (by assumption) ?_
        case refine_2 => (intro w hSw; (try dsimp only at hSw); go_simp; first | done | (with_reducible rfl))
        show wpAnyH _ _ _ _ _ _ _ (Act.put _ (some 64) _) _
        simp only [Act.put, List.setIfInBounds_toArray, List.set_cons_zero, List.set_cons_succ]
        refine wpAnyH_take (i := 11) (v := ?_) rfl (by kernel_rfl) (by kernel_rfl) (by kernel_rfl) (fun _ _ _ h => h) (Or.inl ⟨by rfl, ?_⟩) (by assumption) ?_
        case refine_2 => (intro w hSw; (try dsimp only at hSw); go_simp; first | done | (with_reducible rfl))
        show wpAnyH _ _ _ _ _ _ _ (Act.put _ (some 67) _) _
        simp only [Act.put, List.setIfInBounds_toArray, List.set_cons_zero, List.set_cons_succ]
        refine wpAnyH_take (i := 12) (v := ?_) rfl (by kernel_rfl) (by kernel_rfl) (by kernel_rfl) (fun _ _ _ h => h) (Or.inl ⟨by rfl, ?_⟩) (by assumption) ?_
        case refine_2 => (intro w hSw; (try dsimp only at hSw); go_simp; first | done | (with_reducible rfl))
        show wpAnyH _ _ _ _ _ _ _ (Act.put _ (some 68) _) _
        simp only [Act.put, List.setIfInBounds_toArray, List.set_cons_zero, List.set_cons_succ]
        refine wpAnyH_ready (rs := [9]) (by kernel_rfl) (by simp) ?_
        refine (AllReadyH.cons rfl (fun K hK => ?_) AllReadyH.nil)
        go_simp
        go_at_call 51
        refine (onlyO d h64 _).mono ?_
        rintro e w1 ⟨rfl, hw1⟩
        obtain rfl := hw1.symm
        go_wp2_with fail
        refine hK.out _ _ ?_ (fun hHeld => ?_)
        · (exact hHeld)
        clear hK K
        try simp only [Act.put, List.setIfInBounds_toArray, List.set_cons_zero, List.set_cons_succ]
        refine wpAnyH_take (i := 10) (v := ?_) rfl (by kernel_rfl) (by kernel_rfl) (by kernel_rfl) (fun _ _ _ h => h) (Or.inl ⟨by rfl, ?_⟩) (by assumption) ?_
        case refine_2 => (intro w hSw; (try dsimp only at hSw); go_simp; first | done | (with_reducible rfl))
        show wpAnyH _ _ _ _ _ _ _ (Act.put _ (some 66) _) _
        simp only [Act.put, List.setIfInBounds_toArray, List.set_cons_zero, List.set_cons_succ]
        refine wpAnyH_take (i := 13) (v := ?_) rfl (by kernel_rfl) (by kernel_rfl) (by kernel_rfl) (fun _ _ _ h => h) (Or.inl ⟨by rfl, ?_⟩) (by assumption) ?_
        case refine_2 => (intro w hSw; (try dsimp only at hSw); go_simp; first | done | (with_reducible rfl))
        show wpAnyH _ _ _ _ _ _ _ (Act.put _ (some 69) _) _
        simp only [Act.put, List.setIfInBounds_toArray, List.set_cons_zero, List.set_cons_succ]
        refine wpAnyH_ready (rs := [14]) (by kernel_rfl) (by simp) ?_
        refine (AllReadyH.cons rfl (fun K hK => ?_) AllReadyH.nil)
        go_simp
        refine hK.out _ _ ?_ (fun hHeld => ?_)
        · (exact ⟨hHeld.1.trans HG9.out, HG9.out.cellOf hHeld.2.1 e0 e0, HG9.out.cellOf hHeld.2.2.1 e1 e1, HG9.out.cellOf hHeld.2.2.2.1 e1 e1, HG9.out.cellOf hHeld.2.2.2.2.1 e2 e2, HG9.out.cellOf hHeld.2.2.2.2.2.1 e2 e2, HG9.out.cellOf hHeld.2.2.2.2.2.2 e3 e3⟩)
        clear hK K
        try simp only [Act.put, List.setIfInBounds_toArray, List.set_cons_zero, List.set_cons_succ]
        refine wpAnyH_done (by kernel_rfl) ?_ _
        clear hHeld
        have hgk := HGK.out
        have hb9 : But mp mp w7 w9 := (But.of_below (Below.refl _ _).drew).trans HG9.out
        go_wp2_with fail
        go_roundg (gk - 1)
        case measure => omega
        case rel => exact ⟨j + 1, by go_num, by omega, by omega, giveRound HF7.out hb9 HP9.out hjl HA.out HXH.out HYI.out (by unfold stepH; rw [← HCC.out]; simp), HBR.out.trans ((But.of_below (step_below HB7.out HBY.out)).trans hb9)⟩
    · obtain rfl : j = A.length := by omega
      have hjz : ¬ (A.length : Int) < (A.length : Int) := by omega
      have HDN : Hid (doneH A A.length sm d (keepP m.has L) (keepP m.is L) = fun p => if isB s slots p = true then (if sm (keepP m.has L p) (keepP m.is L p) = true then keepP m.has L p ||| only d else keepP m.has L p &&& ~~~ only d) else keepP m.has L p) := doneH_all HD.out.all
      have hFr := HFR.out
      have x0 := hFr.c1
      have x1 := HBR.out.cellOf g1 hgb hgb
      have hn12 : T.length < maxLen := by unfold maxLen; omega
      have hdT : TWf (d : Int) := ⟨by omega, by omega⟩
      have hdm : (d : Int) ∈ T := (HT.out _).2 (by have := HDL.out; omega)
      obtain ⟨w9, hrun, hp9, hg9⟩ := (hFr.tm.of_block (w' := wr.drew) rfl).put hn12 hdT hdm gi
      have HP9 : Hid (TMap w9 mt T (updT m.tmp d gi)) := hp9
      have HG9 : Hid (But mt mt wr.drew w9) := grown_but hg9
      have e5 : w.heap.size ≠ mt := by omega
      have e6 : w3.heap.size ≠ mt := by have := (HF.out.below HB3.out).tm.lt; omega
      have e7 : q ≠ mt := hFr.n2
      have hwlr := cell_lt z2
      clear hp9 hg9 hFr hdT hdm
      go_upto_region 11 with fail
      refine wp_region_held_drew (S := (fun w' => But mt mt wr w' ∧ w'.cell? ⟨q, 1, none⟩ = some (.map (some mt)) ∧ w'.cell? ⟨w.heap.size, 1, none⟩ = some (.int .i64 (d : Int)) ∧ w'.cell? ⟨w3.heap.size, 1, none⟩ = some (.int .u64 (bn gi)))) (by rfl) ?_ (fun hHeld => ?_)
      · (exact ⟨But.of_below (Below.refl _ _).drew, x0, z2, x1⟩)
      refine wpAnyH_take (i := 0) (v := ?_) rfl (by kernel_rfl) (by kernel_rfl) (by kernel_rfl) (fun _ _ _ h => h) (Or.inl ⟨by rfl, ?_⟩) (by assumption) ?_
      case refine_2 => (intro w hSw; (try dsimp only at hSw); go_simp; first | done | (with_reducible rfl))
      show wpAnyH _ _ _ _ _ _ _ (Act.put _ (some 71) _) _
      simp only [Act.put, List.setIfInBounds_toArray, List.set_cons_zero, List.set_cons_succ]
      refine wpAnyH_take (i := 1) (v := ?_) rfl (by kernel_rfl) (by kernel_rfl) (by kernel_rfl) (fun _ _ _ h => h) (Or.inl ⟨by rfl, ?_⟩) (by assumption) ?_
      case refine_2 => (intro w hSw; (try dsimp only at hSw); go_simp; first | done | (with_reducible rfl))
      show wpAnyH _ _ _ _ _ _ _ (Act.put _ (some 72) _) _
      simp only [Act.put, List.setIfInBounds_toArray, List.set_cons_zero, List.set_cons_succ]
      refine wpAnyH_take (i := 2) (v := ?_) rfl (by kernel_rfl) (by kernel_rfl) (by kernel_rfl) (fun _ _ _ h => h) (Or.inl ⟨by rfl, ?_⟩) (by assumption) ?_
      case refine_2 => (intro w hSw; (try dsimp only at hSw); go_simp; first | done | (with_reducible rfl))
      show wpAnyH _ _ _ _ _ _ _ (Act.put _ (some 73) _) _
      simp only [Act.put, List.setIfInBounds_toArray, List.set_cons_zero, List.set_cons_succ]
      refine wpAnyH_take (i := 3) (v := ?_) rfl (by kernel_rfl) (by kernel_rfl) (by kernel_rfl) (fun _ _ _ h => h) (Or.inl ⟨by rfl, ?_⟩) (by assumption) ?_
      case refine_2 => (intro w hSw; (try dsimp only at hSw); go_simp; first | done | (with_reducible rfl))
      show wpAnyH _ _ _ _ _ _ _ (Act.put _ (some 74) _) _
      simp only [Act.put, List.setIfInBounds_toArray, List.set_cons_zero, List.set_cons_succ]
      refine wpAnyH_take (i := 4) (v := ?_) rfl (by kernel_rfl) (by kernel_rfl) (by kernel_rfl) (fun _ _ _ h => h) (Or.inl ⟨by rfl, ?_⟩) (by assumption) ?_
      case refine_2 => (intro w hSw; (try dsimp only at hSw); go_simp; first | done | (with_reducible rfl))
      show wpAnyH _ _ _ _ _ _ _ (Act.put _ (some 75) _) _
      simp only [Act.put, List.setIfInBounds_toArray, List.set_cons_zero, List.set_cons_succ]
      refine wpAnyH_take (i := 5) (v := ?_) rfl (by kernel_rfl) (by kernel_rfl) (by kernel_rfl) (fun _ _ _ h => h) (Or.inl ⟨by rfl, ?_⟩) (by assumption) ?_
      case refine_2 => (intro w hSw; (try dsimp only at hSw); go_simp; first | done | (with_reducible rfl))
      show wpAnyH _ _ _ _ _ _ _ (Act.put _ (some 76) _) _
      simp only [Act.put, List.setIfInBounds_toArray, List.set_cons_zero, List.set_cons_succ]
      refine wpAnyH_take (i := 6) (v := ?_) rfl (by kernel_rfl) (by kernel_rfl) (by kernel_rfl) (fun _ _ _ h => h) (Or.inl ⟨by rfl, ?_⟩) (by assumption) ?_
      case refine_2 => (intro w hSw; (try dsimp only at hSw); go_simp; first | done | (with_reducible rfl))
      show wpAnyH _ _ _ _ _ _ _ (Act.put _ (some 77) _) _
      simp only [Act.put, List.setIfInBounds_toArray, List.set_cons_zero, List.set_cons_succ]
      refine wpAnyH_take (i := 7) (v := ?_) rfl (by kernel_rfl) (by kernel_rfl) (by kernel_rfl) (fun _ _ _ h => h) (Or.inl ⟨by rfl, ?_⟩) (by assumption) ?_
      case refine_2 => (intro w hSw; (try dsimp only at hSw); go_simp; first | done | (with_reducible rfl))
      show wpAnyH _ _ _ _ _ _ _ (Act.put _ (some 78) _) _
      simp only [Act.put, List.setIfInBounds_toArray, List.set_cons_zero, List.set_cons_succ]
      refine wpAnyH_ready (rs := [8]) (by kernel_rfl) (by simp) ?_
      refine (AllReadyH.cons rfl (fun K hK => ?_) AllReadyH.nil)
      go_simp
      refine hK.out _ _ ?_ (fun hHeld => ?_)
      · (exact ⟨hHeld.1.trans HG9.out, HG9.out.cellOf hHeld.2.1 e7 e7, HG9.out.cellOf hHeld.2.2.1 e5 e5, HG9.out.cellOf hHeld.2.2.2 e6 e6⟩)
      clear hK K
      try simp only [Act.put, List.setIfInBounds_toArray, List.set_cons_zero, List.set_cons_succ]
      refine wpAnyH_done (by kernel_rfl) ?_ _
      clear hHeld
      have hb9 : But mt mt wr w9 := (But.of_below (Below.refl _ _).drew).trans HG9.out
      have HB9 : Hid (But mt mt wr w9) := hb9
      have HF9 : Hid (FMAt w9 q mp mt A T ⟨doneH A A.length sm d (keepP m.has L) (keepP m.is L), keepP m.is L, updT m.tmp d gi⟩) := ⟨hb9.cellOf HFR.out.c0 e7 e7, hb9.cellOf HFR.out.c1 e7 e7, HFR.out.pm.of_block (hb9.block mp HFR.out.pm.lt HFR.out.n3 HFR.out.n3), HP9.out, HFR.out.n1, HFR.out.n2, HFR.out.n3⟩
      have e1 : w.heap.size + 1 ≠ mp := by omega
      have e8 : w.heap.size + 1 ≠ mt := by omega
      have f0 := hb9.cellOf HFR.out.c0 e7 e7
      have f1 := hb9.cellOf (HBR.out.cellOf k0 e1 e1) e8 e8
      have f2 := hb9.cellOf (HBR.out.cellOf k1 e1 e1) e8 e8
      have f3 := hb9.cellOf (HBR.out.cellOf g0 hgb hgb) e6 e6
      have f4 := hb9.cellOf x1 e6 e6
      have f5 := hb9.cellOf z2 e5 e5
      clear x0 x1 z2 hrun hb9
      have x0 := f0
      have x1 := f1
      have x2 := f2
      have x3 := f3
      have x4 := f4
      have x5 := f5
      clear f0 f1 f2 f3 f4 f5 k0 k1 k2 g0 g1
      have hn36 : A.length < maxLen := by have := HD.out.a36; unfold maxLen; omega
      go_upto_region 12 with fail
      obtain ⟨wa, hrun, hpa, hga⟩ := (HF9.out.pm.of_block (w' := w9.drew) rfl).put hn36 (HD.out.wf HL.out) ((HD.out.all _).2 HL.out) (gh ||| only d) gi
      unfold LPlace.val knownV at hrun
      have HPA : Hid (PMap wa mp A (updP (doneH A A.length sm d (keepP m.has L) (keepP m.is L)) L (gh ||| only d)) (updP (keepP m.is L) L gi)) := hpa
      have HG9 : Hid (But mp mp w9.drew wa) := grown_but hga
      have hor := or_is gh (only d)
      have e2 := hgb
      clear hpa hga
      refine wp_region_held_drew (S := (fun w' => But mp mp w9 w' ∧ w'.cell? ⟨q, 0, none⟩ = some (.map (some mp)) ∧ w'.cell? ⟨w.heap.size + 1, 0, none⟩ = some (.int .i64 L.kind) ∧ w'.cell? ⟨w.heap.size + 1, 1, none⟩ = some (.int .i64 L.n) ∧ w'.cell? ⟨w3.heap.size, 0, none⟩ = some (.int .u64 (bn gh)) ∧ w'.cell? ⟨w3.heap.size, 1, none⟩ = some (.int .u64 (bn gi)) ∧ w'.cell? ⟨w.heap.size, 1, none⟩ = some (.int .i64 (d : Int)))) (by rfl) ?_ (fun hHeld => ?_)
      · (exact ⟨But.of_below (Below.refl _ _).drew, x0, x1, x2, x3, x4, x5⟩)
      refine wpAnyH_take (i := 0) (v := ?_) rfl (by kernel_rfl) (by kernel_rfl) (by kernel_rfl) (fun _ _ _ h => h) (Or.inl ⟨by rfl, ?_⟩) (by assumption) ?_
      case refine_2 => (intro w hSw; (try dsimp only at hSw); go_simp; first | done | (with_reducible rfl))
      show wpAnyH _ _ _ _ _ _ _ (Act.put _ (some 79) _) _
      simp only [Act.put, List.setIfInBounds_toArray, List.set_cons_zero, List.set_cons_succ]
      refine wpAnyH_take (i := 1) (v := ?_) rfl (by kernel_rfl) (by kernel_rfl) (by kernel_rfl) (fun _ _ _ h => h) (Or.inl ⟨by rfl, ?_⟩) (by assumption) ?_
      case refine_2 => (intro w hSw; (try dsimp only at hSw); go_simp; first | done | (with_reducible rfl))
      show wpAnyH _ _ _ _ _ _ _ (Act.put _ (some 80) _) _
      simp only [Act.put, List.setIfInBounds_toArray, List.set_cons_zero, List.set_cons_succ]
      refine wpAnyH_take (i := 2) (v := ?_) rfl (by kernel_rfl) (by kernel_rfl) (by kernel_rfl) (fun _ _ _ h => h) (Or.inl ⟨by rfl, ?_⟩) (by assumption) ?_
      case refine_2 => (intro w hSw; (try dsimp only at hSw); go_simp; first | done | (with_reducible rfl))
      show wpAnyH _ _ _ _ _ _ _ (Act.put _ (some 81) _) _
      simp only [Act.put, List.setIfInBounds_toArray, List.set_cons_zero, List.set_cons_succ]
      refine wpAnyH_take (i := 3) (v := ?_) rfl (by kernel_rfl) (by kernel_rfl) (by kernel_rfl) (fun _ _ _ h => h) (Or.inl ⟨by rfl, ?_⟩) (by assumption) ?_
      case refine_2 => (intro w hSw; (try dsimp only at hSw); go_simp; first | done | (with_reducible rfl))
      show wpAnyH _ _ _ _ _ _ _ (Act.put _ (some 82) _) _
      simp only [Act.put, List.setIfInBounds_toArray, List.set_cons_zero, List.set_cons_succ]
      refine wpAnyH_take (i := 4) (v := ?_) rfl (by kernel_rfl) (by kernel_rfl) (by kernel_rfl) (fun _ _ _ h => h) (Or.inl ⟨by rfl, ?_⟩) (by assumption) ?_
      case refine_2 => (intro w hSw; (try dsimp only at hSw); go_simp; first | done | (with_reducible rfl))
      show wpAnyH _ _ _ _ _ _ _ (Act.put _ (some 83) _) _
      simp only [Act.put, List.setIfInBounds_toArray, List.set_cons_zero, List.set_cons_succ]
      refine wpAnyH_take (i := 5) (v := ?_) rfl (by kernel_rfl) (by kernel_rfl) (by kernel_rfl) (fun _ _ _ h => h) (Or.inl ⟨by rfl, ?_⟩) (by assumption) ?_
      case refine_2 => (intro w hSw; (try dsimp only at hSw); go_simp; first | done | (with_reducible rfl))
      show wpAnyH _ _ _ _ _ _ _ (Act.put _ (some 84) _) _
      simp only [Act.put, List.setIfInBounds_toArray, List.set_cons_zero, List.set_cons_succ]
      refine wpAnyH_take (i := 6) (v := ?_) rfl (by kernel_rfl) (by kernel_rfl) (by kernel_rfl) (fun _ _ _ h => h) (Or.inl ⟨by rfl, ?_⟩) (by assumption) ?_
      case refine_2 => (intro w hSw; (try dsimp only at hSw); go_simp; first | done | (with_reducible rfl))
      show wpAnyH _ _ _ _ _ _ _ (Act.put _ (some 85) _) _
      simp only [Act.put, List.setIfInBounds_toArray, List.set_cons_zero, List.set_cons_succ]
      refine wpAnyH_take (i := 7) (v := ?_) rfl (by kernel_rfl) (by kernel_rfl) (by kernel_rfl) (fun _ _ _ h => h) (Or.inl ⟨by rfl, ?_⟩) (by assumption) ?_
      case refine_2 => (intro w hSw; (try dsimp only at hSw); go_simp; first | done | (with_reducible rfl))
      show wpAnyH _ _ _ _ _ _ _ (Act.put _ (some 86) _) _
      simp only [Act.put, List.setIfInBounds_toArray, List.set_cons_zero, List.set_cons_succ]
      refine wpAnyH_take (i := 8) (v := ?_) rfl (by kernel_rfl) (by kernel_rfl) (by kernel_rfl) (fun _ _ _ h => h) (Or.inl ⟨by rfl, ?_⟩) (by assumption) ?_
      case refine_2 => (intro w hSw; (try dsimp only at hSw); go_simp; first | done | (with_reducible rfl))
      show wpAnyH _ _ _ _ _ _ _ (Act.put _ (some 87) _) _
      simp only [Act.put, List.setIfInBounds_toArray, List.set_cons_zero, List.set_cons_succ]
      refine wpAnyH_take (i := 11) (v := ?_) rfl (by kernel_rfl) (by kernel_rfl) (by kernel_rfl) (fun _ _ _ h => h) (Or.inl ⟨by rfl, ?_⟩) (by assumption) ?_
      case refine_2 => (intro w hSw; (try dsimp only at hSw); go_simp; first | done | (with_reducible rfl))
      show wpAnyH _ _ _ _ _ _ _ (Act.put _ (some 90) _) _
      simp only [Act.put, List.setIfInBounds_toArray, List.set_cons_zero, List.set_cons_succ]
      refine wpAnyH_take (i := 12) (v := ?_) rfl (by kernel_rfl) (by kernel_rfl) (by kernel_rfl) (fun _ _ _ h => h) (Or.inl ⟨by rfl, ?_⟩) (by assumption) ?_
      case refine_2 => (intro w hSw; (try dsimp only at hSw); go_simp; first | done | (with_reducible rfl))
      show wpAnyH _ _ _ _ _ _ _ (Act.put _ (some 91) _) _
      simp only [Act.put, List.setIfInBounds_toArray, List.set_cons_zero, List.set_cons_succ]
      refine wpAnyH_ready (rs := [9]) (by kernel_rfl) (by simp) ?_
      refine (AllReadyH.cons rfl (fun K hK => ?_) AllReadyH.nil)
      go_simp
      go_at_call 51
      refine (onlyO d h64 _).mono ?_
      rintro e w1 ⟨rfl, hw1⟩
      obtain rfl := hw1.symm
      go_wp2_with fail
      refine hK.out _ _ ?_ (fun hHeld => ?_)
      · (exact hHeld)
      clear hK K
      try simp only [Act.put, List.setIfInBounds_toArray, List.set_cons_zero, List.set_cons_succ]
      refine wpAnyH_take (i := 10) (v := ?_) rfl (by kernel_rfl) (by kernel_rfl) (by kernel_rfl) (fun _ _ _ h => h) (Or.inl ⟨by rfl, ?_⟩) (by assumption) ?_
      case refine_2 => (intro w hSw; (try dsimp only at hSw); go_simp; first | done | (with_reducible rfl))
      show wpAnyH _ _ _ _ _ _ _ (Act.put _ (some 89) _) _
      simp only [Act.put, List.setIfInBounds_toArray, List.set_cons_zero, List.set_cons_succ]
      refine wpAnyH_take (i := 13) (v := ?_) rfl (by kernel_rfl) (by kernel_rfl) (by kernel_rfl) (fun _ _ _ h => h) (Or.inl ⟨by rfl, ?_⟩) (by assumption) ?_
      case refine_2 => (intro w hSw; (try dsimp only at hSw); go_simp; first | done | (with_reducible rfl))
      show wpAnyH _ _ _ _ _ _ _ (Act.put _ (some 92) _) _
      simp only [Act.put, List.setIfInBounds_toArray, List.set_cons_zero, List.set_cons_succ]
      refine wpAnyH_ready (rs := [14]) (by kernel_rfl) (by simp) ?_
      refine (AllReadyH.cons rfl (fun K hK => ?_) AllReadyH.nil)
      go_simp
      refine hK.out _ _ ?_ (fun hHeld => ?_)
      · (exact ⟨hHeld.1.trans HG9.out, HG9.out.cellOf hHeld.2.1 e0 e0, HG9.out.cellOf hHeld.2.2.1 e1 e1, HG9.out.cellOf hHeld.2.2.2.1 e1 e1, HG9.out.cellOf hHeld.2.2.2.2.1 e2 e2, HG9.out.cellOf hHeld.2.2.2.2.2.1 e2 e2, HG9.out.cellOf hHeld.2.2.2.2.2.2 e3 e3⟩)
      clear hK K
      try simp only [Act.put, List.setIfInBounds_toArray, List.set_cons_zero, List.set_cons_succ]
      refine wpAnyH_done (by kernel_rfl) ?_ _
      clear hHeld
      go_wp2
      go_end0
      have hba : But mp mp w9 wa := (But.of_below (Below.refl _ _).drew).trans HG9.out
      have hF9 := HF9.out
      refine ⟨rfl, gh, gi, fun p => sm (keepP m.has L p) (keepP m.is L p), ⟨HGS.out.h, HGS.out.y, fun p _ => HGS.out.s _ _⟩, ?_, ?_⟩
      · have hd : i.dest.toNat = d := by rw [HDD.out]; exact Int.toNat_natCast d
        rw [hd]
        have h := HPA.out
        rw [HDN.out] at h
        exact ⟨hba.cellOf hF9.c0 hF9.n1 hF9.n1, hba.cellOf hF9.c1 hF9.n1 hF9.n1, h, hF9.tm.of_block (hba.block mt hF9.tm.lt (Ne.symm hF9.n3) (Ne.symm hF9.n3)), hF9.n1, hF9.n2, hF9.n3⟩
      · have h1 : But mp mp w wr := (But.of_below HB4.out).trans (HB6.out.trans HBR.out)
        exact ⟨by rw [hba.os, HB9.out.os, h1.os], by rw [hba.tape, HB9.out.tape, h1.tape], by rw [hba.output, HB9.out.output, h1.output], Nat.le_trans h1.size (Nat.le_trans HB9.out.size hba.size), fun k hk n1 n2 => by
          have s1 := h1.size
          have s2 := HB9.out.size
          rw [hba.block k (by omega) n1 n1, HB9.out.block k (by omega) n2 n2, h1.block k hk n1 n1]⟩
end Go.Proofs.YtcmnmogmdhofcaaGreat.form

/- Rounds over all instructions, facts as bits, till nothing changes, on plain numbers: what they end with is what is known. -/
namespace Go.Proofs.YtcmnmogmdhofcaaGreat.form
open Go.RowKit Go.Proofs.YtcmnmogmdhofcaaGreat.num
set_option linter.unusedVariables false

structure BehF (B : List Bool) (C : List LIns) (s slots : Int) (R : List LRow) (N : List Int) (k : Nat) (m m' : FM) : Prop where
  ok : FmOk B s slots N m'
  is : ∀ f, Kof N m' f ↔ thruK (FactOk B s slots (NumP C)) (C.getD k .zero) (R.getD k .zero) (Kof N m) f

structure BIt (B : List Bool) (C : List LIns) (s slots : Int) (R : List LRow) (N : List Int) (A : List (Option FM)) : Prop where
  len : A.length = C.length
  zero : ∃ m, A.getD 0 none = some m
  ok : ∀ k m, A.getD k none = some m → FmOk B s slots N m
  rch : ∀ k m, A.getD k none = some m → Reach C k
  up : ∀ k m, A.getD k none = some m → ∀ f, Known B C s slots R k f → Kof N m f
  beg : ∀ m, A.getD 0 none = some m → ∀ f, Kof N m f → f.n = 0

theorem getD_setO {A : List (Option FM)} {x j : Nat} {y : Option FM} (hx : x < A.length) : (A.set x y).getD j none = if j = x then y else A.getD j none := by
  by_cases e : j = x
  · subst e; rw [if_pos rfl]; simp [List.getD, hx]
  · rw [if_neg e]; simp [List.getD, Ne.symm e]

section
variable {B : List Bool} {C : List LIns} {s slots : Int} {R : List LRow} {N : List Int} {A : List (Option FM)}

theorem BIt.beh (h : BIt B C s slots R N A) {k : Nat} {m m' : FM} (hk : A.getD k none = some m) (hb : BehF B C s slots R N k m m') {x : Nat} (hx : x ∈ nextsN (C.getD k .zero) k) (hxl : x < C.length) : ∀ f, Known B C s slots R x f → Kof N m' f := by
  have hkl : k < C.length := by
    refine Classical.byContradiction fun hno => ?_
    have : A.getD k none = none := by simp [List.getD, List.getElem?_eq_none (show A.length ≤ k by rw [h.len]; omega)]
    rw [this] at hk; cases hk
  intro f hf
  rw [hb.is]
  exact thruK_mono (fun g hg => h.up k m hk g hg) ((known_good B C s slots R).next k x (h.rch k m hk) hkl hx hxl |>.2 f hf)

theorem BIt.first (h : BIt B C s slots R N A) {x : Nat} {m' : FM} (hr : Reach C x) (hxl : x < C.length) (hno : A.getD x none = none) (hok : FmOk B s slots N m') (hup : ∀ f, Known B C s slots R x f → Kof N m' f) : BIt B C s slots R N (A.set x (some m')) := by
  have hx : x < A.length := by rw [h.len]; exact hxl
  obtain ⟨m0, hm0⟩ := h.zero
  have hx0 : ¬ x = 0 := fun e => by rw [e, hm0] at hno; cases hno
  refine ⟨by simp [h.len], ⟨m0, by rw [getD_setO hx, if_neg (Ne.symm hx0)]; exact hm0⟩, fun k m hk => ?_, fun k m hk => ?_, fun k m hk => ?_, fun m hk => ?_⟩
  · rw [getD_setO hx] at hk
    split at hk
    · cases hk; exact hok
    · exact h.ok k m hk
  · rw [getD_setO hx] at hk
    split at hk
    · rename_i e; rw [e]; exact hr
    · exact h.rch k m hk
  · rw [getD_setO hx] at hk
    split at hk
    · rename_i e; cases hk; rw [e]; exact hup
    · exact h.up k m hk
  · rw [getD_setO hx, if_neg (Ne.symm hx0)] at hk
    exact h.beg m hk

theorem BIt.again (h : BIt B C s slots R N A) (hs : N.Pairwise (· < ·)) {x : Nat} {q m' : FM} (hq : A.getD x none = some q) (hxl : x < C.length) (hup : ∀ f, Known B C s slots R x f → Kof N m' f) : BIt B C s slots R N (A.set x (some (meetF q m'))) := by
  have hx : x < A.length := by rw [h.len]; exact hxl
  obtain ⟨m0, hm0⟩ := h.zero
  refine ⟨by simp [h.len], ?_, fun k m hk => ?_, fun k m hk => ?_, fun k m hk => ?_, fun m hk => ?_⟩
  · rw [getD_setO hx]
    split
    · exact ⟨_, rfl⟩
    · exact ⟨m0, hm0⟩
  · rw [getD_setO hx] at hk
    split at hk
    · cases hk; exact meetF_ok (h.ok x q hq)
    · exact h.ok k m hk
  · rw [getD_setO hx] at hk
    split at hk
    · rename_i e; rw [e]; exact h.rch x q hq
    · exact h.rch k m hk
  · rw [getD_setO hx] at hk
    split at hk
    · rename_i e
      cases hk
      rw [e]
      intro f hf
      rw [meetF_is hs]
      exact ⟨h.up x q hq f hf, hup f hf⟩
    · exact h.up k m hk
  · rw [getD_setO hx] at hk
    split at hk
    · rename_i e
      cases hk
      intro f hf
      rw [meetF_is hs] at hf
      exact h.beg q (by rw [e]; exact hq) f hf.1
    · exact h.beg m hk
end

def muF (P : List LPlace) (nB : Nat) (m : FM) : Nat := (P.map fun p => (m.has p).toNat + (m.is p).toNat).sum + ((List.range nB).map fun t : Nat => (m.tmp t).toNat).sum
def bigMu : Nat := 2 ^ 80
def muO (P : List LPlace) (nB : Nat) : Option FM → Nat
  | none => bigMu
  | some m => muF P nB m
def muA (P : List LPlace) (nB : Nat) (A : List (Option FM)) : Nat := (A.map (muO P nB)).sum

theorem sum_map_le {α : Type} {f g : α → Nat} : ∀ {l : List α}, (∀ x, x ∈ l → f x ≤ g x) → (l.map f).sum ≤ (l.map g).sum
  | [], _ => by simp
  | a :: l, h => by
    have := sum_map_le (l := l) (fun x hx => h x (by simp [hx]))
    have := h a (by simp)
    simp
    omega
theorem sum_map_lt {α : Type} {f g : α → Nat} : ∀ {l : List α}, (∀ x, x ∈ l → f x ≤ g x) → (∃ x, x ∈ l ∧ f x < g x) → (l.map f).sum < (l.map g).sum
  | [], _, h => by obtain ⟨x, hx, _⟩ := h; cases hx
  | a :: l, h, hx => by
    have h1 := sum_map_le (l := l) (fun x hx => h x (by simp [hx]))
    have h2 := h a (by simp)
    obtain ⟨x, hx, hlt⟩ := hx
    rcases List.mem_cons.1 hx with rfl | hx
    · simp; omega
    · have := sum_map_lt (l := l) (fun x hx => h x (by simp [hx])) ⟨x, hx, hlt⟩
      simp; omega
theorem sum_map_bd {α : Type} {f : α → Nat} {b : Nat} : ∀ {l : List α}, (∀ x, x ∈ l → f x ≤ b) → (l.map f).sum ≤ l.length * b
  | [], _ => by simp
  | a :: l, h => by
    have h1 := sum_map_bd (l := l) (fun x hx => h x (by simp [hx]))
    have h2 := h a (by simp)
    simp [Nat.add_mul]
    omega

theorem muF_lt {P : List LPlace} {nB : Nat} (hP : P.length ≤ 100) (hB : nB ≤ 12) (m : FM) : muF P nB m < bigMu := by
  unfold muF bigMu
  have h1 : (P.map fun p => (m.has p).toNat + (m.is p).toNat).sum ≤ P.length * (2 ^ 65) := sum_map_bd (fun p _ => by have := (m.has p).isLt; have := (m.is p).isLt; omega)
  have h2 : ((List.range nB).map fun t : Nat => (m.tmp t).toNat).sum ≤ (List.range nB).length * 2 ^ 65 := sum_map_bd (fun t _ => by have := (m.tmp t).isLt; omega)
  have h3 : P.length * 2 ^ 65 ≤ 100 * 2 ^ 65 := Nat.mul_le_mul_right _ hP
  have h4 : (List.range nB).length * 2 ^ 65 ≤ 12 * 2 ^ 65 := Nat.mul_le_mul_right _ (by simpa using hB)
  omega

theorem and_le (x y : Bits) : (x &&& y).toNat ≤ x.toNat := by rw [BitVec.toNat_and]; exact Nat.and_le_left
theorem and_lt {x y : Bits} (h : ¬ (x &&& y) = x) : (x &&& y).toNat < x.toNat := by
  have h1 := and_le x y
  have h2 : ¬ (x &&& y).toNat = x.toNat := fun e => h (BitVec.eq_of_toNat_eq e)
  omega

theorem muF_meet {P : List LPlace} {nB : Nat} {q m : FM} (h : (∃ p, p ∈ P ∧ (¬ (meetF q m).has p = q.has p ∨ ¬ (meetF q m).is p = q.is p)) ∨ ∃ t : Nat, t < nB ∧ ¬ (meetF q m).tmp t = q.tmp t) : muF P nB (meetF q m) < muF P nB q := by
  unfold muF
  have a1 : ∀ p, p ∈ P → ((meetF q m).has p).toNat + ((meetF q m).is p).toNat ≤ (q.has p).toNat + (q.is p).toNat := fun p _ => by
    have := and_le (q.has p) (m.has p)
    have := and_le (q.is p) (m.is p)
    simp only [meetF]
    omega
  have a2 : ∀ t, t ∈ List.range nB → ((meetF q m).tmp (t : Nat)).toNat ≤ (q.tmp (t : Nat)).toNat := fun t _ => and_le _ _
  rcases h with ⟨p, hp, h⟩ | ⟨t, ht, h⟩
  · have := sum_map_lt a1 ⟨p, hp, by
      have e1 := and_le (q.has p) (m.has p)
      have e2 := and_le (q.is p) (m.is p)
      rcases h with h | h
      · have := and_lt h; simp only [meetF]; omega
      · have := and_lt h; simp only [meetF]; omega⟩
    have := sum_map_le a2
    omega
  · have := sum_map_le a1
    have := sum_map_lt a2 ⟨t, List.mem_range.2 ht, and_lt h⟩
    omega

theorem muA_set {P : List LPlace} {nB : Nat} : ∀ {A : List (Option FM)} {x : Nat} {y : Option FM}, x < A.length → muO P nB y < muO P nB (A.getD x none) → muA P nB (A.set x y) < muA P nB A
  | [], x, y, h, _ => by simp at h
  | a :: A, 0, y, _, h => by
    simp at h
    simp [muA]
    omega
  | a :: A, x + 1, y, hx, h => by
    have := muA_set (P := P) (nB := nB) (A := A) (x := x) (y := y) (by simpa using hx) (by simpa using h)
    simp [muA] at this ⊢
    omega

def ClosedAt (B : List Bool) (C : List LIns) (s slots : Int) (R : List LRow) (N : List Int) (A : List (Option FM)) (k x : Nat) : Prop :=
  ∀ m, A.getD k none = some m → ∃ q, A.getD x none = some q ∧ ∀ f, Kof N q f → thruK (FactOk B s slots (NumP C)) (C.getD k .zero) (R.getD k .zero) (Kof N m) f

structure PassB (B : List Bool) (C : List LIns) (s slots : Int) (R : List LRow) (N : List Int) (P : List LPlace) (A0 A : List (Option FM)) (Z : Nat → Nat → Prop) (ch : Bool) : Prop where
  it : BIt B C s slots R N A
  same : ch = false → A = A0 ∧ ∀ k x, Z k x → ClosedAt B C s slots R N A0 k x
  less : ch = true → muA P B.length A < muA P B.length A0

section
variable {B : List Bool} {C : List LIns} {s slots : Int} {R : List LRow} {N : List Int} {P : List LPlace} {A0 A : List (Option FM)} {Z : Nat → Nat → Prop} {ch : Bool}

theorem PassB.start (h : BIt B C s slots R N A0) (hZ : ∀ k x, ¬ Z k x) : PassB B C s slots R N P A0 A0 Z false := ⟨h, fun _ => ⟨rfl, fun k x hz => absurd hz (hZ k x)⟩, fun h => by cases h⟩
theorem PassB.mono {Z' : Nat → Nat → Prop} (h : PassB B C s slots R N P A0 A Z ch) (hZ : ∀ k x, Z' k x → Z k x ∨ ∀ m, ¬ A0.getD k none = some m) : PassB B C s slots R N P A0 A Z' ch :=
  ⟨h.it, fun hc => ⟨(h.same hc).1, fun k x hz => by
    rcases hZ k x hz with h1 | h1
    · exact (h.same hc).2 k x h1
    · exact fun m hm => absurd hm (h1 m)⟩, h.less⟩

theorem PassB.first (h : PassB B C s slots R N P A0 A Z ch) (hP : P.length ≤ 100) (hB : B.length ≤ 12) {x : Nat} {m' : FM} (hr : Reach C x) (hxl : x < C.length) (hno : A.getD x none = none) (hok : FmOk B s slots N m') (hup : ∀ f, Known B C s slots R x f → Kof N m' f) (Z' : Nat → Nat → Prop) :
    PassB B C s slots R N P A0 (A.set x (some m')) Z' true := by
  refine ⟨h.it.first hr hxl hno hok hup, fun h => (by cases h), fun _ => ?_⟩
  have hx : x < A.length := by rw [h.it.len]; exact hxl
  have h1 : muA P B.length (A.set x (some m')) < muA P B.length A := muA_set hx (by rw [hno]; exact muF_lt hP hB m')
  cases hc : ch with
  | false => rw [(h.same hc).1] at h1 ⊢; exact h1
  | true => exact Nat.lt_trans h1 (h.less hc)

theorem PassB.went (h : PassB B C s slots R N P A0 A Z ch) (hs : N.Pairwise (· < ·)) {x : Nat} {q m' : FM} (hq : A.getD x none = some q) (hxl : x < C.length) (hup : ∀ f, Known B C s slots R x f → Kof N m' f) (hlt : muF P B.length (meetF q m') < muF P B.length q) (Z' : Nat → Nat → Prop) :
    PassB B C s slots R N P A0 (A.set x (some (meetF q m'))) Z' true := by
  refine ⟨h.it.again hs hq hxl hup, fun h => (by cases h), fun _ => ?_⟩
  have hx : x < A.length := by rw [h.it.len]; exact hxl
  have h1 : muA P B.length (A.set x (some (meetF q m'))) < muA P B.length A := muA_set hx (by rw [hq]; exact hlt)
  cases hc : ch with
  | false => rw [(h.same hc).1] at h1 ⊢; exact h1
  | true => exact Nat.lt_trans h1 (h.less hc)

theorem PassB.stays (h : PassB B C s slots R N P A0 A Z ch) (hs : N.Pairwise (· < ·)) {k x : Nat} {q m m' : FM} (hk : ch = false → A0.getD k none = some m) (hb : BehF B C s slots R N k m m') (hq : A.getD x none = some q) (he : meetF q m' = q) {Z' : Nat → Nat → Prop} (hZ : ∀ k' x', Z' k' x' → Z k' x' ∨ (k' = k ∧ x' = x)) :
    PassB B C s slots R N P A0 A Z' ch := by
  refine ⟨h.it, fun hc => ⟨(h.same hc).1, fun k' x' hz => ?_⟩, h.less⟩
  rcases hZ k' x' hz with h1 | ⟨rfl, rfl⟩
  · exact (h.same hc).2 k' x' h1
  · intro m1 hm1
    rw [hk hc] at hm1
    cases hm1
    refine ⟨q, by rw [← (h.same hc).1]; exact hq, fun f hf => ?_⟩
    rw [← he, meetF_is hs] at hf
    exact (hb.is f).1 hf.2

theorem PassB.done (h : PassB B C s slots R N P A0 A Z false) (hZ : ∀ k x, k < C.length → x ∈ nextsN (C.getD k .zero) k → x < C.length → Z k x) :
    ∀ k x, k < C.length → x ∈ nextsN (C.getD k .zero) k → x < C.length → ClosedAt B C s slots R N A k x := by
  obtain ⟨rfl, h2⟩ := h.same rfl
  exact fun k x hk hx hxl => h2 k x (hZ k x hk hx hxl)
end

structure FoundB (B : List Bool) (C : List LIns) (s slots : Int) (R : List LRow) (N : List Int) (A : List (Option FM)) : Prop where
  len : A.length = C.length
  ok : ∀ k m, A.getD k none = some m → FmOk B s slots N m
  rch : ∀ k, k < C.length → ((∃ m, A.getD k none = some m) ↔ Reach C k)
  is : ∀ k m, A.getD k none = some m → ∀ f, Kof N m f ↔ Known B C s slots R k f

theorem found_all {B : List Bool} {C : List LIns} {s slots : Int} {R : List LRow} {N : List Int} {A : List (Option FM)} (hN : NumsOf C N) (h : BIt B C s slots R N A) (hc : ∀ k x, k < C.length → x ∈ nextsN (C.getD k .zero) k → x < C.length → ClosedAt B C s slots R N A k x) : FoundB B C s slots R N A := by
  have hr : ∀ k, Reach C k → ∃ m, A.getD k none = some m := reach_least h.zero (fun j k ⟨m, hm⟩ hj hk hl => by
    obtain ⟨q, hq, _⟩ := hc j k hj hk hl m hm
    exact ⟨q, hq⟩)
  refine ⟨h.len, h.ok, fun k hk => ⟨fun ⟨m, hm⟩ => h.rch k m hm, hr k⟩, fun k m hm f => ?_⟩
  have hkr := h.rch k m hm
  have hS := found_known (B := B) (C := C) (s := s) (slots := slots) (R := R) (S := fun k f => ∃ m, A.getD k none = some m ∧ Kof N m f)
    (fun k f ⟨m, hm, hf⟩ => Kof.ok (h.ok k m hm) hN hf) (fun f ⟨m, hm, hf⟩ => h.beg m hm f hf)
    (fun k x hk hl hx hxl f ⟨q, hq, hf⟩ => by
      obtain ⟨m, hm⟩ := hr k hk
      obtain ⟨q', hq', hf'⟩ := hc k x hl hx hxl m hm
      rw [hq] at hq'
      cases hq'
      refine thruK_mono (fun g hg => ⟨m, hm, hg⟩) (hf' f hf))
    (fun k f hk hf => by
      obtain ⟨m, hm⟩ := hr k hk
      exact ⟨m, hm, h.up k m hm f hf⟩) hkr f
  rw [← hS]
  exact ⟨fun hf => ⟨m, hm, hf⟩, fun ⟨m', hm', hf⟩ => by rw [hm] at hm'; cases hm'; exact hf⟩

end Go.Proofs.YtcmnmogmdhofcaaGreat.form

/- What is known behind an instruction and its moves (world.behind). -/
namespace Go.Proofs.YtcmnmogmdhofcaaGreat.form
open Go.RowKit Go.Maps
set_option linter.unusedVariables false
set_option maxRecDepth 100000
attribute [local go_sem ↓] Go.wp_at_zero Go.wp_at_succ

theorem give_ok {B : List Bool} {nC : Nat} {s slots : Int} {i : LIns} {L : LPlace} (hib : insB B nC i = true) (hg : givesB i.op = true) (hrd : fieldP B s (givesB i.op) i.dest L = true) : GiveOk B s slots i L := by
  unfold insB at hib
  simp only [Bool.and_eq_true] at hib
  obtain ⟨⟨⟨⟨⟨⟨hkn, hn⟩, hd⟩, ha⟩, hb⟩, hl⟩, hw⟩ := hib
  unfold fieldP at hrd
  rw [if_pos hg] at hrd
  obtain ⟨r1, r2, r3⟩ := reg_is (slots := slots) hrd
  rw [hg] at hd
  unfold fieldB at hd
  simp only [if_true, Bool.and_eq_true, decide_eq_true_eq] at hd
  unfold regB at hrd
  rw [Bool.and_eq_true] at hrd
  have hk := hrd.1
  refine ⟨hd.1, hd.2, r1, fun e => ?_, fun e => ?_, fun e => ?_, fun e => ?_, fun e => ?_, fun e => ?_⟩
  · rw [e] at hk; simpa using hk
  · rw [e] at hk; simpa using hk
  · unfold widthsB wl wl0 wl1 manyI bw at hw
    rw [hg, e] at hw
    simpa using hw
  · unfold fieldB manyI at ha
    rw [e] at ha
    simp at ha
    exact ha.1
  · unfold fieldB manyI at ha
    rw [e] at ha
    simp at ha
    exact ha.2
  · unfold widthsB wl wl0 wl1 manyI bw at hw
    rw [hg, e] at hw
    simp at hw
    simp [hw]

structure BhS (w : World) (i : LIns) (r : LRow) (vb va : Value) (bi br : Nat) (wr : World) : Prop where
  bel : Below w.heap.size w wr
  lo : w.heap.size ≤ bi ∧ w.heap.size ≤ br
  i0 : wr.cell? ⟨bi, 0, none⟩ = some (.int .i64 i.op)
  i1 : wr.cell? ⟨bi, 1, none⟩ = some (.int .i64 i.dest)
  i2 : wr.cell? ⟨bi, 2, none⟩ = some (.int .i64 i.a)
  i3 : wr.cell? ⟨bi, 3, none⟩ = some (.int .i64 i.b)
  i4 : wr.cell? ⟨bi, 4, none⟩ = some (.int .i64 i.c)
  i5 : wr.cell? ⟨bi, 5, none⟩ = some (.int .u32 i.n)
  r0 : wr.cell? ⟨br, 0, none⟩ = some (.int .i64 r.dest.kind)
  r1 : wr.cell? ⟨br, 1, none⟩ = some (.int .i64 r.dest.n)
  r2 : wr.cell? ⟨br, 2, none⟩ = some (.int .i64 r.a.kind)
  r3 : wr.cell? ⟨br, 3, none⟩ = some (.int .i64 r.a.n)
  r4 : wr.cell? ⟨br, 4, none⟩ = some (.int .i64 r.b.kind)
  r5 : wr.cell? ⟨br, 5, none⟩ = some (.int .i64 r.b.n)
  r6 : wr.cell? ⟨br, 6, none⟩ = some vb
  r7 : wr.cell? ⟨br, 7, none⟩ = some va
def BhR (w : World) (i : LIns) (r : LRow) (vb va s7 s8 : Value) (wq : World) : Prop := ∃ bi br, s7 = .pointer (some ⟨bi, 0, none⟩) ∧ s8 = .pointer (some ⟨br, 0, none⟩) ∧ BhS w i r vb va bi br wq
theorem bh12 (w : World) (i : LIns) (r : LRow) (vb va : Value) : BhR w i r vb va (.pointer (some ⟨w.heap.size, 0, none⟩)) (.pointer (some ⟨w.heap.size + 1, 0, none⟩)) ((w.alloc (.cells #[.int .i64 i.op, .int .i64 i.dest, .int .i64 i.a, .int .i64 i.b, .int .i64 i.c, .int .u32 i.n] 49)).alloc (.cells #[.int .i64 r.dest.kind, .int .i64 r.dest.n, .int .i64 r.a.kind, .int .i64 r.a.n, .int .i64 r.b.kind, .int .i64 r.b.n, vb, va] 54)).drew :=
  ⟨_, _, rfl, rfl, ((((Below.refl _ _).alloc (Nat.le_refl _) _).alloc (by simp) _).drew), ⟨Nat.le_refl _, Nat.le_succ _⟩, by simp [go_sem], by simp [go_sem], by simp [go_sem], by simp [go_sem], by simp [go_sem], by simp [go_sem], by simp [go_sem], by simp [go_sem], by simp [go_sem], by simp [go_sem], by simp [go_sem], by simp [go_sem], by simp [go_sem], by simp [go_sem]⟩
theorem bh21 (w : World) (i : LIns) (r : LRow) (vb va : Value) : BhR w i r vb va (.pointer (some ⟨w.heap.size + 1, 0, none⟩)) (.pointer (some ⟨w.heap.size, 0, none⟩)) ((w.alloc (.cells #[.int .i64 r.dest.kind, .int .i64 r.dest.n, .int .i64 r.a.kind, .int .i64 r.a.n, .int .i64 r.b.kind, .int .i64 r.b.n, vb, va] 54)).alloc (.cells #[.int .i64 i.op, .int .i64 i.dest, .int .i64 i.a, .int .i64 i.b, .int .i64 i.c, .int .u32 i.n] 49)).drew :=
  ⟨_, _, rfl, rfl, ((((Below.refl _ _).alloc (Nat.le_refl _) _).alloc (by simp) _).drew), ⟨Nat.le_succ _, Nat.le_refl _⟩, by simp [go_sem], by simp [go_sem], by simp [go_sem], by simp [go_sem], by simp [go_sem], by simp [go_sem], by simp [go_sem], by simp [go_sem], by simp [go_sem], by simp [go_sem], by simp [go_sem], by simp [go_sem], by simp [go_sem], by simp [go_sem]⟩
theorem BhS.below {w : World} {i : LIns} {r : LRow} {vb va : Value} {bi br : Nat} {wr w' : World} (h : BhS w i r vb va bi br wr) (hb : Below wr.heap.size wr w') : BhS w i r vb va bi br w' :=
  ⟨step_below hb h.bel, h.lo, step_cell hb h.i0, step_cell hb h.i1, step_cell hb h.i2, step_cell hb h.i3, step_cell hb h.i4, step_cell hb h.i5, step_cell hb h.r0, step_cell hb h.r1, step_cell hb h.r2, step_cell hb h.r3, step_cell hb h.r4, step_cell hb h.r5, step_cell hb h.r6, step_cell hb h.r7⟩
theorem BhS.but {w : World} {i : LIns} {r : LRow} {vb va : Value} {bi br x y : Nat} {wr w' : World} (h : BhS w i r vb va bi br wr) (hb : But x y wr w') (hx : wr.heap.size ≤ x ∨ (w.heap.size ≤ x ∧ bi ≠ x ∧ br ≠ x)) (hy : wr.heap.size ≤ y ∨ (w.heap.size ≤ y ∧ bi ≠ y ∧ br ≠ y)) : BhS w i r vb va bi br w' := by
  have hi := cell_lt h.i0
  have hr := cell_lt h.r0
  have hs := h.bel.size
  have a1 : bi ≠ x := by rcases hx with e | e <;> omega
  have a2 : br ≠ x := by rcases hx with e | e <;> omega
  have b1 : bi ≠ y := by rcases hy with e | e <;> omega
  have b2 : br ≠ y := by rcases hy with e | e <;> omega
  have hbb : Below w.heap.size wr w' := hb.toBelow hs (by rcases hx with e | e <;> omega) (by rcases hy with e | e <;> omega)
  exact ⟨h.bel.trans hbb, h.lo, hb.cellOf h.i0 a1 b1, hb.cellOf h.i1 a1 b1, hb.cellOf h.i2 a1 b1, hb.cellOf h.i3 a1 b1, hb.cellOf h.i4 a1 b1, hb.cellOf h.i5 a1 b1, hb.cellOf h.r0 a2 b2, hb.cellOf h.r1 a2 b2, hb.cellOf h.r2 a2 b2, hb.cellOf h.r3 a2 b2, hb.cellOf h.r4 a2 b2, hb.cellOf h.r5 a2 b2, hb.cellOf h.r6 a2 b2, hb.cellOf h.r7 a2 b2⟩
theorem moves_ne {w : World} {mv : Value} {l : List LMove} (h : MovesIs w mv l) {x : Nat} (hx : w.heap.size ≤ x) : 0 < l.length → ∀ b o n c, mv = .slice (some ⟨b, o, none⟩) n c → b ≠ x := by
  obtain ⟨ao, cap, rfl, _, hc⟩ := h
  intro h0 b o n c e
  obtain ⟨b', o', e2, hlt, _⟩ := hc h0
  subst e2
  injection e with e1
  injection e1 with e1
  injection e1 with e1
  omega
theorem row_moves {B : List Bool} {s slots : Int} {i : LIns} {r : LRow} (h : rowB B s slots i r = true) : ((∀ v, v ∈ r.before → moveB s slots v = true) ∧ r.before.length ≤ 6) ∧ (∀ v, v ∈ r.after → moveB s slots v = true) ∧ r.after.length ≤ 6 := by
  unfold rowB at h
  simp only [Bool.and_eq_true] at h
  obtain ⟨⟨⟨⟨⟨rd, ra⟩, rb⟩, rbef⟩, raft⟩, _⟩ := h
  unfold movesB at rbef raft
  simp only [Bool.and_eq_true, List.all_eq_true, decide_eq_true_eq] at rbef raft
  exact ⟨⟨rbef.2, rbef.1⟩, raft.2, raft.1⟩
theorem row_fields {B : List Bool} {s slots : Int} {i : LIns} {r : LRow} (h : rowB B s slots i r = true) : fieldP B s (givesB i.op) i.dest r.dest = true ∧ fieldP B s (decide (0 < manyI i.op)) i.a r.a = true ∧ fieldP B s (decide (1 < manyI i.op)) i.b r.b = true := by
  unfold rowB at h
  simp only [Bool.and_eq_true] at h
  obtain ⟨⟨⟨⟨⟨rd, ra⟩, rb⟩, rbef⟩, raft⟩, _⟩ := h
  exact ⟨rd, ra, rb⟩
theorem ins_known {B : List Bool} {nC : Nat} {i : LIns} (h : insB B nC i = true) : knownB i.op = true := by
  unfold insB at h
  simp only [Bool.and_eq_true] at h
  exact h.1.1.1.1.1.1
theorem own_bel2 {w w' : World} {x y : Nat} {w1 : World} (h1 : Below w.heap.size w w1) (hb : But x y w1 w') (hx : w.heap.size ≤ x) (hy : w.heap.size ≤ y) : Below w.heap.size w w' := h1.trans (hb.toBelow h1.size hx hy)
set_option maxHeartbeats 1600000 in
theorem behindW {w : World} {lim : Nat} {g : WB} {B : List Bool} {C : List LIns} {R : List LRow} {A : List LPlace} {N : List Int} {s slots : Nat} (hW : WorldAt w lim g B C R A N) (hD : Dims B C s slots A N) (hnd : A.Nodup) (hib : ∀ k, k < C.length → insB B C.length (C.getD k .zero) = true) (hrb : ∀ k, k < C.length → rowB B s slots (C.getD k .zero) (R.getD k .zero) = true) (hRl : R.length = C.length) (k : Nat) (hk : k < C.length) (q mp mt : Nat) (T : List Int) (hT : ∀ t, t ∈ T ↔ 0 ≤ t ∧ t < B.length) (hTl : T.length ≤ 12) (m : FM) (hF : FMAt w q mp mt A T m) (hok : FmOk B s slots N m) :
    Calls Tryz.prog 48 #[.pointer (some ⟨g.q, 0, none⟩), .int .i64 k, .pointer (some ⟨q, 0, none⟩)] w fun e w' => ∃ q' mp' mt' m', e = .returned (.pointer (some ⟨q', 0, none⟩)) ∧ w.heap.size ≤ q' ∧ w.heap.size ≤ mp' ∧ w.heap.size ≤ mt' ∧ FMAt w' q' mp' mt' A T m' ∧ BehF B C s slots R N k m m' ∧ Below w.heap.size w w' := by
  have hkz : (k : Int) < (C.length : Int) := by omega
  have hkr : (k : Int) < (R.length : Int) := by omega
  have hc40 := hD.c40
  have hc40z : (C.length : Int) ≤ 40 := by omega
  have HW : Hid (WorldAt w lim g B C R A N) := hW
  have HD : Hid (Dims B C s slots A N) := hD
  have HF : Hid (FMAt w q mp mt A T m) := hF
  have HOK : Hid (FmOk B s slots N m) := hok
  have HND : Hid (A.Nodup) := hnd
  have HT : Hid (∀ t, t ∈ T ↔ 0 ≤ t ∧ t < B.length) := hT
  have hst := hW.stat
  have p1 := hst.p1
  have p2 := hst.p2
  have hgq := cell_lt p1
  obtain ⟨i0, i1, i2, i3, i4, i5⟩ := hst.held.code k hk
  obtain ⟨r0, r1, r2, r3, r4, r5, vb, va, r6, r7, hmb, hma⟩ := hst.rows.rows k (by omega)
  have HIB : Hid (insB B C.length (C.getD k .zero) = true) := hib k hk
  have HRB : Hid (rowB B s slots (C.getD k .zero) (R.getD k .zero) = true) := hrb k hk
  obtain ⟨i, hi⟩ : ∃ i, i = C.getD k .zero := ⟨_, rfl⟩
  obtain ⟨r, hr⟩ : ∃ r, r = R.getD k .zero := ⟨_, rfl⟩
  rw [← hi] at i0 i1 i2 i3 i4 i5 HIB HRB
  rw [← hr] at r0 r1 r2 r3 r4 r5 hmb hma HRB
  have HI : Hid (i = C.getD k .zero) := hi
  have HR : Hid (r = R.getD k .zero) := hr
  have hmb0 := hmb
  have hma0 := hma
  obtain ⟨aob, cb, hvb, _, _⟩ := hmb0
  obtain ⟨aoa, ca, hva, _, _⟩ := hma0
  subst hvb
  subst hva
  have HMB : Hid (MovesIs w (.slice aob r.before.length cb) r.before) := hmb
  have HMA : Hid (MovesIs w (.slice aoa r.after.length ca) r.after) := hma
  have hbl := cell_lt i0
  have hrl := cell_lt r0
  have o1 : ∀ x : Obj, Below w.heap.size w (w.alloc x).drew := fun x => ((Below.refl _ _).alloc (Nat.le_refl _) _).drew
  have o2 : ∀ x y : Obj, Below w.heap.size w ((w.alloc x).alloc y).drew := fun x y => (((Below.refl _ _).alloc (Nat.le_refl _) _).alloc (by simp) _).drew
  clear hW hD hF hok hnd hT hst hib hrb hi hr hmb hma
  go_enter Tryz.func48, Tryz.ntmps48
  go_upto_region 1 with fail
  go_cut [7, 8] (fun s7 s8 wq => BhR w i r (.slice aob r.before.length cb) (.slice aoa r.after.length ca) s7 s8 wq)
  case first =>
    refine wp_region_held_drew (S := (fun w' => Below w.heap.size w w')) (by rfl) ?_ (fun hHeld => ?_)
    · (exact (Below.refl _ _).drew)
    refine wpAnyH_take (i := 0) (v := ?_) rfl (by kernel_rfl) (by kernel_rfl) (by kernel_rfl) (fun _ _ _ h => h) (Or.inl ⟨by rfl, ?_⟩) (by assumption) ?_
    case refine_2 => (intro w hSw; (try dsimp only at hSw); go_simp; first | done | (with_reducible rfl))
    show wpAnyH _ _ _ _ _ _ _ (Act.put _ (some 12) _) _
    simp only [Act.put, List.setIfInBounds_toArray, List.set_cons_zero, List.set_cons_succ]
    refine wpAnyH_take (i := 1) (v := ?_) rfl (by kernel_rfl) (by kernel_rfl) (by kernel_rfl) (fun _ _ _ h => h) (Or.inl ⟨by rfl, ?_⟩) (by assumption) ?_
    case refine_2 => (intro w hSw; (try dsimp only at hSw); go_simp; first | done | (with_reducible rfl))
    show wpAnyH _ _ _ _ _ _ _ (Act.put _ (some 13) _) _
    simp only [Act.put, List.setIfInBounds_toArray, List.set_cons_zero, List.set_cons_succ]
    refine wpAnyH_take (i := 2) (v := ?_) rfl (by kernel_rfl) (by kernel_rfl) (by kernel_rfl) (fun _ _ _ h => h) (Or.inl ⟨by rfl, ?_⟩) (by assumption) ?_
    case refine_2 => (intro w hSw; (try dsimp only at hSw); go_simp; first | done | (with_reducible rfl))
    show wpAnyH _ _ _ _ _ _ _ (Act.put _ (some 14) _) _
    simp only [Act.put, List.setIfInBounds_toArray, List.set_cons_zero, List.set_cons_succ]
    refine wpAnyH_take (i := 3) (v := ?_) rfl (by kernel_rfl) (by kernel_rfl) (by kernel_rfl) (fun _ _ _ h => h) (Or.inl ⟨by rfl, ?_⟩) (by assumption) ?_
    case refine_2 => (intro w hSw; (try dsimp only at hSw); go_simp; first | done | (with_reducible rfl))
    show wpAnyH _ _ _ _ _ _ _ (Act.put _ (some 15) _) _
    simp only [Act.put, List.setIfInBounds_toArray, List.set_cons_zero, List.set_cons_succ]
    refine wpAnyH_take (i := 4) (v := ?_) rfl (by kernel_rfl) (by kernel_rfl) (by kernel_rfl) (fun _ _ _ h => h) (Or.inl ⟨by rfl, ?_⟩) (by assumption) ?_
    case refine_2 => (intro w5 hSw; (try dsimp only at hSw); have sp1 := step_cell hSw p1; go_simp; first | done | (with_reducible rfl))
    show wpAnyH _ _ _ _ _ _ _ (Act.put _ (some 16) _) _
    simp only [Act.put, List.setIfInBounds_toArray, List.set_cons_zero, List.set_cons_succ]
    refine wpAnyH_take (i := 5) (v := ?_) rfl (by kernel_rfl) (by kernel_rfl) (by kernel_rfl) (fun _ _ _ h => h) (Or.inl ⟨by rfl, ?_⟩) (by assumption) ?_
    case refine_2 => (intro w hSw; (try dsimp only at hSw); go_simp; first | done | (with_reducible rfl))
    show wpAnyH _ _ _ _ _ _ _ (Act.put _ (some 17) _) _
    simp only [Act.put, List.setIfInBounds_toArray, List.set_cons_zero, List.set_cons_succ]
    refine wpAnyH_take (i := 6) (v := ?_) rfl (by kernel_rfl) (by kernel_rfl) (by kernel_rfl) (fun _ _ _ h => h) (Or.inl ⟨by rfl, ?_⟩) (by assumption) ?_
    case refine_2 => (intro w hSw; (try dsimp only at hSw); go_simp; first | done | (with_reducible rfl))
    show wpAnyH _ _ _ _ _ _ _ (Act.put _ (some 18) _) _
    simp only [Act.put, List.setIfInBounds_toArray, List.set_cons_zero, List.set_cons_succ]
    refine wpAnyH_take (i := 7) (v := ?_) rfl (by kernel_rfl) (by kernel_rfl) (by kernel_rfl) (fun _ _ _ h => h) (Or.inl ⟨by rfl, ?_⟩) (by assumption) ?_
    case refine_2 => (intro w5 hSw; (try dsimp only at hSw); have si0 := step_cell hSw i0; have si1 := step_cell hSw i1; have si2 := step_cell hSw i2; have si3 := step_cell hSw i3; have si4 := step_cell hSw i4; have si5 := step_cell hSw i5; go_simp; first | done | (with_reducible rfl))
    show wpAnyH _ _ _ _ _ _ _ (Act.put _ (some 19) _) _
    simp only [Act.put, List.setIfInBounds_toArray, List.set_cons_zero, List.set_cons_succ]
    refine wpAnyH_take (i := 8) (v := ?_) rfl (by kernel_rfl) (by kernel_rfl) (by kernel_rfl) (fun _ _ _ h => h) (Or.inl ⟨by rfl, ?_⟩) (by assumption) ?_
    case refine_2 => (intro w hSw; (try dsimp only at hSw); go_simp; first | done | (with_reducible rfl))
    show wpAnyH _ _ _ _ _ _ _ (Act.put _ (some 20) _) _
    simp only [Act.put, List.setIfInBounds_toArray, List.set_cons_zero, List.set_cons_succ]
    refine wpAnyH_take (i := 9) (v := ?_) rfl (by kernel_rfl) (by kernel_rfl) (by kernel_rfl) (fun _ _ _ h => h) (Or.inl ⟨by rfl, ?_⟩) (by assumption) ?_
    case refine_2 => (intro w hSw; (try dsimp only at hSw); go_simp; first | done | (with_reducible rfl))
    show wpAnyH _ _ _ _ _ _ _ (Act.put _ (some 21) _) _
    simp only [Act.put, List.setIfInBounds_toArray, List.set_cons_zero, List.set_cons_succ]
    refine wpAnyH_take (i := 10) (v := ?_) rfl (by kernel_rfl) (by kernel_rfl) (by kernel_rfl) (fun _ _ _ h => h) (Or.inl ⟨by rfl, ?_⟩) (by assumption) ?_
    case refine_2 => (intro w hSw; (try dsimp only at hSw); go_simp; first | done | (with_reducible rfl))
    show wpAnyH _ _ _ _ _ _ _ (Act.put _ (some 22) _) _
    simp only [Act.put, List.setIfInBounds_toArray, List.set_cons_zero, List.set_cons_succ]
    refine wpAnyH_take (i := 11) (v := ?_) rfl (by kernel_rfl) (by kernel_rfl) (by kernel_rfl) (fun _ _ _ h => h) (Or.inl ⟨by rfl, ?_⟩) (by assumption) ?_
    case refine_2 => (intro w5 hSw; (try dsimp only at hSw); have sp2 := step_cell hSw p2; go_simp; first | done | (with_reducible rfl))
    show wpAnyH _ _ _ _ _ _ _ (Act.put _ (some 23) _) _
    simp only [Act.put, List.setIfInBounds_toArray, List.set_cons_zero, List.set_cons_succ]
    refine wpAnyH_take (i := 12) (v := ?_) rfl (by kernel_rfl) (by kernel_rfl) (by kernel_rfl) (fun _ _ _ h => h) (Or.inl ⟨by rfl, ?_⟩) (by assumption) ?_
    case refine_2 => (intro w hSw; (try dsimp only at hSw); go_simp; first | done | (with_reducible rfl))
    show wpAnyH _ _ _ _ _ _ _ (Act.put _ (some 24) _) _
    simp only [Act.put, List.setIfInBounds_toArray, List.set_cons_zero, List.set_cons_succ]
    refine wpAnyH_take (i := 13) (v := ?_) rfl (by kernel_rfl) (by kernel_rfl) (by kernel_rfl) (fun _ _ _ h => h) (Or.inl ⟨by rfl, ?_⟩) (by assumption) ?_
    case refine_2 => (intro w hSw; (try dsimp only at hSw); go_simp; first | done | (with_reducible rfl))
    show wpAnyH _ _ _ _ _ _ _ (Act.put _ (some 25) _) _
    simp only [Act.put, List.setIfInBounds_toArray, List.set_cons_zero, List.set_cons_succ]
    refine wpAnyH_take (i := 14) (v := ?_) rfl (by kernel_rfl) (by kernel_rfl) (by kernel_rfl) (fun _ _ _ h => h) (Or.inl ⟨by rfl, ?_⟩) (by assumption) ?_
    case refine_2 => (intro w5 hSw; (try dsimp only at hSw); have sr0 := step_cell hSw r0; have sr1 := step_cell hSw r1; have sr2 := step_cell hSw r2; have sr3 := step_cell hSw r3; have sr4 := step_cell hSw r4; have sr5 := step_cell hSw r5; have sr6 := step_cell hSw r6; have sr7 := step_cell hSw r7; go_simp; first | done | (with_reducible rfl))
    show wpAnyH _ _ _ _ _ _ _ (Act.put _ (some 26) _) _
    simp only [Act.put, List.setIfInBounds_toArray, List.set_cons_zero, List.set_cons_succ]
    refine wpAnyH_ready (rs := [15, 16]) (by kernel_rfl) (by simp) ?_
    refine (AllReadyH.cons rfl (fun K hK => ?_) (AllReadyH.cons rfl (fun K hK => ?_) AllReadyH.nil))
    · skip
      go_simp
      refine hK.out _ _ ?_ (fun hHeld => ?_)
      · (exact o1 _)
      clear hK K
      try simp only [Act.put, List.setIfInBounds_toArray, List.set_cons_zero, List.set_cons_succ]
      refine wpAnyH_ready (rs := [16]) (by kernel_rfl) (by simp) ?_
      refine (AllReadyH.cons rfl (fun K hK => ?_) AllReadyH.nil)
      go_simp
      refine hK.out _ _ ?_ (fun hHeld => ?_)
      · (exact o2 _ _)
      clear hK K
      try simp only [Act.put, List.setIfInBounds_toArray, List.set_cons_zero, List.set_cons_succ]
      refine wpAnyH_ready (rs := [17]) (by kernel_rfl) (by simp) ?_
      refine (AllReadyH.cons rfl (fun K hK => ?_) AllReadyH.nil)
      go_simp
      refine hK.out _ _ ?_ (fun hHeld => ?_)
      · (exact o2 _ _)
      clear hK K
      try simp only [Act.put, List.setIfInBounds_toArray, List.set_cons_zero, List.set_cons_succ]
      refine wpAnyH_ready (rs := [18]) (by kernel_rfl) (by simp) ?_
      refine (AllReadyH.cons rfl (fun K hK => ?_) AllReadyH.nil)
      go_simp
      refine hK.out _ _ ?_ (fun hHeld => ?_)
      · (exact o2 _ _)
      clear hK K
      try simp only [Act.put, List.setIfInBounds_toArray, List.set_cons_zero, List.set_cons_succ]
      refine wpAnyH_done (by kernel_rfl) ?_ _
      clear hHeld
      go_wp2_with fail
      go_meet
      case rel => exact bh12 w i r (.slice aob r.before.length cb) (.slice aoa r.after.length ca)
    · skip
      go_simp
      refine hK.out _ _ ?_ (fun hHeld => ?_)
      · (exact o1 _)
      clear hK K
      try simp only [Act.put, List.setIfInBounds_toArray, List.set_cons_zero, List.set_cons_succ]
      refine wpAnyH_ready (rs := [15]) (by kernel_rfl) (by simp) ?_
      refine (AllReadyH.cons rfl (fun K hK => ?_) AllReadyH.nil)
      go_simp
      refine hK.out _ _ ?_ (fun hHeld => ?_)
      · (exact o2 _ _)
      clear hK K
      try simp only [Act.put, List.setIfInBounds_toArray, List.set_cons_zero, List.set_cons_succ]
      refine wpAnyH_ready (rs := [17]) (by kernel_rfl) (by simp) ?_
      refine (AllReadyH.cons rfl (fun K hK => ?_) AllReadyH.nil)
      go_simp
      refine hK.out _ _ ?_ (fun hHeld => ?_)
      · (exact o2 _ _)
      clear hK K
      try simp only [Act.put, List.setIfInBounds_toArray, List.set_cons_zero, List.set_cons_succ]
      refine wpAnyH_ready (rs := [18]) (by kernel_rfl) (by simp) ?_
      refine (AllReadyH.cons rfl (fun K hK => ?_) AllReadyH.nil)
      go_simp
      refine hK.out _ _ ?_ (fun hHeld => ?_)
      · (exact o2 _ _)
      clear hK K
      try simp only [Act.put, List.setIfInBounds_toArray, List.set_cons_zero, List.set_cons_succ]
      refine wpAnyH_done (by kernel_rfl) ?_ _
      clear hHeld
      go_wp2_with fail
      go_meet
      case rel => exact bh21 w i r (.slice aob r.before.length cb) (.slice aoa r.after.length ca)
  case rest =>
    obtain ⟨bi, br, hs7, hs8, hbh⟩ := hcut
    subst hs7
    subst hs8
    obtain ⟨wd, hwd⟩ : ∃ wd, wd = wc := ⟨_, rfl⟩
    rw [← hwd] at hbh ⊢
    clear hwd i0 i1 i2 i3 i4 i5 r0 r1 r2 r3 r4 r5 r6 r7 p1 p2 o1 o2
    have HBH : Hid (BhS w i r (.slice aob r.before.length cb) (.slice aoa r.after.length ca) bi br wd) := hbh
    have hle := HW.out.le
    have hsz := hbh.bel.size
    have hbi := cell_lt hbh.i0
    have hbr := cell_lt hbh.r0
    have c := cloneF q mp mt A T m wd (HF.out.below hbh.bel)
    clear hbh
    go_upto_region 3 with (go_at_call 68; refine c.mono ?_; rintro e w1 ⟨q1, mp1, mt1, rfl, hq1, hp1, ht1, hf1, hb1⟩; have HF1 : Hid (FMAt w1 q1 mp1 mt1 A T m) := hf1; have HB1 : Hid (Below wd.heap.size wd w1) := hb1; clear hf1 hb1)
    clear c
    have HBH1 : Hid (BhS w i r (.slice aob r.before.length cb) (.slice aoa r.after.length ca) bi br w1) := HBH.out.below HB1.out
    have hr6 := HBH1.out.r6
    have hm0 := row_moves HRB.out
    have c := moveAllW HD.out q1 mp1 mt1 T (by omega) (by omega) r.before hm0.1.1 hm0.1.2 (.slice aob r.before.length cb) w1 (HW.out.below HBH1.out.bel) m HF1.out HOK.out (HMB.out.later HBH1.out.bel) (moves_ne HMB.out (by omega))
    clear hm0
    go_upto_region 4 with (go_at_call 69; refine c.mono ?_; rintro e w2 ⟨rfl, m2, hf2, hk2, hi2, hb2⟩; have HF2 : Hid (FMAt w2 q1 mp1 mt1 A T m2) := hf2; have HK2 : Hid (FmOk B s slots N m2) := hk2; have HI2 : Hid (∀ f, Kof N m2 f ↔ movesK (FactOk B s slots (NumP C)) r.before (Kof N m) f) := hi2; have HB2 : Hid (But mp1 mp1 w1 w2) := hb2; clear hf2 hk2 hi2 hb2)
    clear c hr6
    have HBH2 : Hid (BhS w i r (.slice aob r.before.length cb) (.slice aoa r.after.length ca) bi br w2) := HBH1.out.but HB2.out (Or.inr ⟨by omega, by omega, by omega⟩) (Or.inr ⟨by omega, by omega, by omega⟩)
    have h0 := HBH2.out.i0
    have c := has i.op w2
    rw [isT_gives (ins_known HIB.out)] at c
    obtain ⟨gv, hgv⟩ : ∃ gv, gv = givesB i.op := ⟨_, rfl⟩
    rw [← hgv] at c
    have HGV : Hid (gv = givesB i.op) := hgv
    clear hgv
    go_upto_region 5 with (go_at_call 61; refine c.mono ?_; rintro e w3 ⟨rfl, hb3⟩; have HB3 : Hid (Below w2.heap.size w2 w3) := hb3; clear hb3)
    clear c h0
    have HBH3 : Hid (BhS w i r (.slice aob r.before.length cb) (.slice aoa r.after.length ca) bi br w3) := HBH2.out.below HB3.out
    have HF3 : Hid (FMAt w3 q1 mp1 mt1 A T m2) := HF2.out.below HB3.out
    have h0 := HBH3.out.i0
    have h1 := HBH3.out.i1
    have h2 := HBH3.out.i2
    have h3 := HBH3.out.i3
    have h4 := HBH3.out.i4
    have h5 := HBH3.out.i5
    have k0 := HBH3.out.r0
    have k1 := HBH3.out.r1
    go_upto_if 41 with fail
    go_cut [] (fun wq => ∃ m4, BhS w i r (.slice aob r.before.length cb) (.slice aoa r.after.length ca) bi br wq ∧ FMAt wq q1 mp1 mt1 A T m4 ∧ FmOk B s slots N m4 ∧ ∀ f, Kof N m4 f ↔ (if givesB i.op = true then insK (FactOk B s slots (NumP C)) i r.dest (movesK (FactOk B s slots (NumP C)) r.before (Kof N m)) else movesK (FactOk B s slots (NumP C)) r.before (Kof N m)) f)
    case first =>
      rcases Bool.eq_false_or_eq_true gv with hc | hc
      · have HG : Hid (givesB i.op = true) := HGV.out.symm.trans hc
        have hgo : GiveOk B s slots i r.dest := give_ok HIB.out HG.out (row_fields HRB.out).1
        have c := giveW (HW.out.below HBH3.out.bel) HD.out HND.out q1 mp1 mt1 T HT.out hTl m2 HF3.out (by omega) (by omega) (by omega) i r.dest hgo
        have HGO : Hid (GiveOk B s slots i r.dest) := hgo
        unfold LIns.val LPlace.val at c
        clear hgo
        subst hc
        go_wp2_with (go_at_call 70; refine c.mono ?_; rintro e w4 ⟨rfl, gh, gi, sm, hg4, hf4, hb4⟩; have HG4 : Hid (GotI s slots N m2 i r.dest gh gi sm) := hg4; have HF4 : Hid (FMAt w4 q1 mp1 mt1 A T (giveF s slots m2 i.dest.toNat r.dest gh gi sm)) := hf4; have HB4 : Hid (But mp1 mt1 w3 w4) := hb4; clear hg4 hf4 hb4)
        go_meet
        case rel =>
          refine ⟨_, HBH3.out.but HB4.out (Or.inr ⟨by omega, by omega, by omega⟩) (Or.inr ⟨by omega, by omega, by omega⟩), HF4.out, giveF_ok HD.out.b12 HK2.out HGO.out HG4.out, fun f => ?_⟩
          rw [if_pos HG.out, giveF_is HD.out.b12 HK2.out HD.out.num HGO.out HG4.out]
          exact ⟨insK_mono (fun f => (HI2.out f).1), insK_mono (fun f => (HI2.out f).2)⟩
      · have HG : Hid (givesB i.op = false) := HGV.out.symm.trans hc
        subst hc
        go_wp2
        go_meet
        case rel =>
          refine ⟨m2, HBH3.out, HF3.out, HK2.out, fun f => ?_⟩
          rw [if_neg (by rw [HG.out]; decide)]
          exact HI2.out f
    case rest =>
      obtain ⟨m4, hbh4, hf4, hk4, hi4⟩ := hcut
      obtain ⟨we, hwe⟩ : ∃ we, we = wc := ⟨_, rfl⟩
      rw [← hwe] at hbh4 hf4 ⊢
      clear hwe h0 h1 h2 h3 h4 h5 k0 k1
      have HBH4 : Hid (BhS w i r (.slice aob r.before.length cb) (.slice aoa r.after.length ca) bi br we) := hbh4
      have HI4 : Hid (∀ f, Kof N m4 f ↔ (if givesB i.op = true then insK (FactOk B s slots (NumP C)) i r.dest (movesK (FactOk B s slots (NumP C)) r.before (Kof N m)) else movesK (FactOk B s slots (NumP C)) r.before (Kof N m)) f) := hi4
      have hr7 := hbh4.r7
      have hm0 := row_moves HRB.out
      have c := moveAllW HD.out q1 mp1 mt1 T (by omega) (by omega) r.after hm0.2.1 hm0.2.2 (.slice aoa r.after.length ca) we (HW.out.below hbh4.bel) m4 hf4 hk4 (HMA.out.later hbh4.bel) (moves_ne HMA.out (by omega))
      clear hm0 hbh4 hf4 hk4 hi4
      go_wp2_with (go_at_call 69; refine c.mono ?_; rintro e w5 ⟨rfl, m5, hf5, hk5, hi5, hb5⟩; have HF5 : Hid (FMAt w5 q1 mp1 mt1 A T m5) := hf5; have HK5 : Hid (FmOk B s slots N m5) := hk5; have HI5 : Hid (∀ f, Kof N m5 f ↔ movesK (FactOk B s slots (NumP C)) r.after (Kof N m4) f) := hi5; have HB5 : Hid (But mp1 mp1 we w5) := hb5; clear hf5 hk5 hi5 hb5)
      go_ret
      refine ⟨q1, mp1, mt1, m5, rfl, by omega, by omega, by omega, HF5.out, ⟨HK5.out, fun f => ?_⟩, own_bel2 HBH4.out.bel HB5.out (by omega) (by omega)⟩
      rw [HI5.out, ← HI.out, ← HR.out]
      unfold thruK
      exact ⟨movesK_mono _ (fun f => (HI4.out f).1) f, movesK_mono _ (fun f => (HI4.out f).2) f⟩
end Go.Proofs.YtcmnmogmdhofcaaGreat.form

/- Whether an instruction's A and B are where its row says (world.finds). -/
namespace Go.Proofs.YtcmnmogmdhofcaaGreat.form
open Go.RowKit Go.Maps
set_option linter.unusedVariables false
set_option maxRecDepth 100000
attribute [local go_sem ↓] Go.wp_at_zero Go.wp_at_succ

theorem asAgg_run (P : Program) (cs : Array Value) (w : World) : Sem.run P (asAgg (.agg cs)) w = .ok cs w := rfl
theorem field_has (x y : Value) (w : World) : (Instr.field 89 (.agg #[x, y]) 0).run Tryz.prog w = .ok x w := by
  have hu := Tryz.underlying89
  simp [go_sem, Instr.field, asAgg_run]
attribute [local go_sem] field_has

end Go.Proofs.YtcmnmogmdhofcaaGreat.form
