/- A machine in its places, on plain numbers; where what is taken is where it is said to be, it shows what the program shows. -/
import Derived.Test.YtgnhpfmdbclnkaaGreatDoorW12
import Derived.Test.YtgnhpfmdbclnkaaGreatDoorW11
import Derived.Test.YtgnhpfmdbclnkaaGreatDoorW05

namespace Go.Proofs.YtgnhpfmdbclnkaaGreatDoor
set_option linter.unusedVariables false
namespace form
open Go.RowKit num
structure PMac where
  pc : Nat
  sto : Sto
  taken : Nat
  out : List Int
  state : Int
  steps : Nat
def PMac.start (s slots : Nat) : PMac := ⟨0, ⟨List.replicate s 0, List.replicate slots 0⟩, 0, [], 0, 0⟩
def PMac.step (C : List LIns) (R : List LRow) (ins : List Int) (m : PMac) : PMac :=
  let i := C.getD m.pc .zero
  let r := R.getD m.pc .zero
  let st := movesP m.sto r.before
  let a := getP st r.a
  let b := getP st r.b
  let nx := nxI i m.pc a
  { pc := nx.toNat
    sto := movesP (if givesB i.op then putP st r.dest (gvI i a b (inOf ins m.taken)) else st) r.after
    taken := if i.op = 3 ∧ m.taken < ins.length then m.taken + 1 else m.taken
    out := if i.op = 4 then m.out ++ [a % 4294967296] else m.out
    state := stI i C.length nx
    steps := m.steps + 1 }
def PMac.go (C : List LIns) (R : List LRow) (ins : List Int) : Nat → PMac → PMac
  | 0, m => m
  | k + 1, m => if m.state = 0 then PMac.go C R ins k (m.step C R ins) else m
def playP (C : List LIns) (R : List LRow) (s slots : Nat) (ins : List Int) (n : Nat) : PMac := PMac.go C R ins n (PMac.start s slots)
theorem PMac.go_stop {C : List LIns} {R : List LRow} {ins : List Int} {m : PMac} (h : ¬ m.state = 0) : ∀ k, PMac.go C R ins k m = m
  | 0 => rfl
  | k + 1 => by simp [PMac.go, h]
theorem reg_is {B : List Bool} {s slots t : Int} {p : LPlace} (h : regB B s t p = true) : isB s slots p = true ∧ (p.kind = 1 ∨ p.kind = 2) ∧ (p.kind = 1 → B.getD t.toNat false = false) := by
  unfold regB at h
  rw [Bool.and_eq_true] at h
  obtain ⟨h1, h2⟩ := h
  have hk : p.kind = 1 ∨ p.kind = 2 := by cases hB : B.getD t.toNat false <;> rw [hB] at h1 <;> simp at h1 <;> omega
  refine ⟨?_, hk, fun e => ?_⟩
  · unfold isB at h2 ⊢
    rcases hk with e | e
    · rw [if_pos e] at h2 ⊢; exact h2
    · rw [if_neg (by omega), if_pos e] at h2 ⊢; exact h2
  · cases hB : B.getD t.toNat false with
    | false => rfl
    | true => rw [hB] at h1; simp at h1; omega
theorem getD_rep (n j : Nat) : (List.replicate n (0 : Int)).getD j 0 = 0 := by
  by_cases h : j < n <;> simp [List.getD, h]
theorem sto_start {s slots : Nat} (hs : s ≤ 16) (he : s % 2 = 0) (hl : slots ≤ 12) : StoAt s slots (PMac.start s slots).sto := by
  refine ⟨⟨fun j => ?_, fun j => ?_, by simp [PMac.start]; omega, by simp [PMac.start]; omega, by simp [PMac.start]; omega⟩, by simp [PMac.start], by simp [PMac.start]⟩
  · unfold PMac.start; simp only; rw [getD_rep]; omega
  · unfold PMac.start; simp only; rw [getD_rep]; exact ⟨by omega, by omega⟩
theorem target_of {s : Int} (h : targetB s = true) : 4 ≤ s ∧ s ≤ 16 ∧ s % 2 = 0 := by
  unfold targetB at h
  simp at h
  omega
end form
/- What the program's own done.Run must answer. -/
namespace form
open Go.RowKit
def wrongP (B : List Bool) (C : List LIns) (s slots : Int) (R : List LRow) (nI : Nat) (steps : Int) : Int := if placeMayB B C s slots R = true then wrongI B C nI steps else 2
end form
namespace doneRuns
open Go.RowKit
open form
def resP (B : List Bool) (C : List LIns) (s slots : Int) (R : List LRow) (I : List Int) (steps : Int) : PMac := if wrongP B C s slots R I.length steps = 0 then playP C R s.toNat slots.toNat I steps.toNat else ⟨0, ⟨[], []⟩, 0, [], 0, 0⟩
def DoneSpec : Prop := ∀ (pv lv iv : Value) (B : List Bool) (C : List LIns) (s slots : Int) (R : List LRow) (I : List Int) (steps : Int) (w : World), ProgIs w pv B C → PlacedIs w lv slots R → RowsOk R → InArg w iv I →
  Calls Tryz.prog 15 #[pv, targetV s, lv, iv, .int .i64 steps] w fun e w' => (∃ sv, e = .returned (.tuple #[sv, .int .i64 (wrongP B C s slots R I.length steps)]) ∧ ShownIs w' sv (resP B C s slots R I steps).state (resP B C s slots R I steps).out (resP B C s slots R I steps).steps) ∧ Below w.heap.size w w'
theorem wrongP_zero {B : List Bool} {C : List LIns} {s slots : Int} {R : List LRow} {nI : Nat} {steps : Int} (h : wrongP B C s slots R nI steps = 0) : placeMayB B C s slots R = true ∧ wrongI B C nI steps = 0 := by
  unfold wrongP at h
  split at h
  · rename_i h1; exact ⟨h1, h⟩
  · omega
end doneRuns
/- Facts that are known ahead of each instruction: the greatest sets; places that are taken; they do what the program does. On plain numbers. -/
namespace form
open Go.RowKit num
end form
/- What Takes must answer, by whatever way. -/
namespace form
open Go.RowKit
end form
/- What Build must answer, by whatever way: f tells the places that are made. -/
namespace form
open Go.RowKit
def OwnBuild (f : List Bool → List LIns → Int → Int × List LRow) (B : List Bool) (C : List LIns) (s : Int) (w : World) (e : Ending) (w' : World) : Prop :=
  (((refMayB B C && targetB s) = false ∧ ∃ lv, e = .returned (.tuple #[lv, .int .i64 2]) ∧ PlacedIs w' lv 0 []) ∨ ((refMayB B C && targetB s) = true ∧ ∃ lv, e = .returned (.tuple #[lv, .int .i64 0]) ∧ PlacedIs w' lv (f B C s).1 (f B C s).2)) ∧ Below w.heap.size w w'
def BuildSpec (f : List Bool → List LIns → Int → Int × List LRow) : Prop := ∀ (pv : Value) (B : List Bool) (C : List LIns) (s : Int) (w : World), ProgIs w pv B C → Calls Tryz.prog 14 #[pv, targetV s] w fun e w' => OwnBuild f B C s w e w'
end form
end Go.Proofs.YtgnhpfmdbclnkaaGreatDoor
