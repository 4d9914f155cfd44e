/- What the program's run makes ahead of its steps: a machine with its own copy of the ins (NewMachine), the ends of an instruction on temporaries (ends); what is wrong (Wrong). -/
import Derived.Test.YtolhnlbgohobkaaRunDeeds
import Derived.Test.YtolhnlbgohobkaaRunLoop
import Derived.Test.YtolhnlbgohobkaaInsArg
import Derived.Laws.Cover3
namespace Go.Proofs.Ytolhnlbgohobkaa.form
open Go.RowKit Go.Proofs.Ytolhnlbgohobkaa.num
set_option linter.unusedVariables false
set_option maxRecDepth 100000
attribute [local go_sem ↓] Go.wp_at_zero Go.wp_at_succ

/-- A copy of the ins, below a block. -/
def InNew (w : World) (mb : Nat) (v : Value) (I : List Int) : Prop :=
  ∃ ai cap, v = .slice ai I.length cap ∧ I.length ≤ cap ∧ (0 < I.length → ∃ g, ai = some ⟨g, 0, none⟩ ∧ g < mb ∧ ∀ j, j < I.length → w.cell? ⟨g, j, none⟩ = some (.int .u32 (I.getD j 0)))

theorem InNew.ins {w w' : World} {mb sb base : Nat} {v : Value} {I : List Int} (h : InNew w mb v I) (hb : Below w.heap.size w w') (h40 : I.length ≤ 40) (hI : ∀ j, j < I.length → 0 ≤ I.getD j 0 ∧ I.getD j 0 < 4294967296) (hs : mb < sb) (hz : mb < base) : InsIs mb sb base w' v I := by
  obtain ⟨ai, cap, e, h1, h2⟩ := h
  refine ⟨ai, cap, e, h1, h40, hI, fun h0 => ?_⟩
  obtain ⟨g, e2, hg, hc⟩ := h2 h0
  exact ⟨g, 0, e2, by omega, by omega, by omega, fun j hj => by rw [Nat.zero_add]; exact step_cell hb (hc j hj)⟩

theorem own_new {w : World} {base g cap : Nat} {I : List Int} (h : w.ownsRow base 23 1 (.slice (some ⟨g, 0, none⟩) I.length cap) I.length (I.map (Value.int .u32))) (h0 : 0 < I.length) : I.length ≤ cap ∧ ∀ j, j < I.length → w.cell? ⟨g, j, none⟩ = some (.int .u32 (I.getD j 0)) := by
  rcases h.2 with ⟨h1, _⟩ | ⟨g', cap', cur, hv, hb, hg, hn, hc, hs, ht⟩
  · cases h1
  · injection hv with e1 e2 e3
    injection e1 with e4
    injection e4 with e5
    subst e5 e3
    refine ⟨hn, fun j hj => ?_⟩
    rw [cell_of_row w g j _ _ (0, 0) hg]
    have h2 : (cur.toList.take (I.length * 1))[j]? = (I.map (Value.int .u32))[j]? := by rw [ht]
    rw [List.getElem?_take_of_lt (by omega)] at h2
    rw [← Array.getElem?_toList, h2]
    simp [List.getD, hj]

theorem nil32 (ai : Option Addr) (n c : Nat) (w : World) : Sem.run Try.prog (binOp .eql 33 (.slice ai n c) (.slice none 0 0)) w = .ok (.bool ai.isNone) w := by
  simp only [binOp]
  simp [run_equal_slice_nil w 33 23 ai n c Try.underlying33]

theorem clone (iv : Value) (I : List Int) (w : World) (h : InArg w iv I) (h40 : I.length ≤ 40) :
    Calls Try.prog 78 #[iv] w fun e w' => (∃ v, e = .returned v ∧ InNew w' w'.heap.size v I) ∧ Below w.heap.size w w' := by
  obtain ⟨ai, cap, rfl, h1, h2, h3, h4⟩ := h
  have hnil := nil32 ai I.length cap
  rcases Nat.eq_zero_or_pos I.length with h0 | h0
  · obtain rfl : I = [] := List.length_eq_zero_iff.1 h0
    clear h4 h3 h2
    cases ai with
    | none =>
      have hnil := nil32 none 0 cap
      go_enter Try.func78, Try.ntmps78
      go_wp2
      go_ret
      exact ⟨⟨_, rfl, none, 0, rfl, by simp, fun h => absurd h (by simp)⟩, Below.refl _ _⟩
    | some a =>
      have hnil := nil32 (some a) 0 cap
      have HB : Hid (∀ o : Obj, Below w.heap.size w (w.alloc o)) := fun o => (Below.refl _ _).alloc (Nat.le_refl _) _
      go_enter Try.func78, Try.ntmps78
      go_wp2
      go_ret
      exact ⟨⟨_, rfl, _, 0, rfl, by simp, fun h => absurd h (by simp)⟩, HB.out _⟩
  · obtain ⟨b, o, rfl, hb, hc⟩ := h4 h0
    obtain ⟨t0', hi0, hy0, hy1, hy2⟩ := info_parts infU32
    have HC : Hid (∀ j, j < I.length → w.cell? ⟨b, o + j, none⟩ = some (.int .u32 (I.getD j 0))) := hc
    have HW : Hid (World.ownsRow (w.alloc (.cells #[] 23)) w.heap.size 23 1 (.slice (some ⟨w.heap.size, 0, none⟩) 0 0) 0 []) := World.ownsRow_made w #[] 0 (Nat.le_refl _) (by unfold maxLen; omega) (by simp)
    have HN : Hid (∀ j u, (I.map (Value.int .u32))[j]? = some u → (w.alloc (.cells #[] 23)).cell? ((⟨b, o, none⟩ : Addr).add j) = some u) := by
      intro j u hu
      have hj : j < I.length := by
        rcases Nat.lt_or_ge j I.length with h | h
        · exact h
        · rw [List.getElem?_eq_none (by simpa using h)] at hu; cases hu
      have := hc j hj
      rw [List.getElem?_map, List.getElem?_eq_getElem hj] at hu
      simp at hu
      rw [show (⟨b, o, none⟩ : Addr).add j = ⟨b, o + j, none⟩ by simp [Addr.add]]
      rw [step_cell ((Below.refl _ _).alloc (Nat.le_refl _) _) this, ← hu]
      simp [List.getD, hj]
    clear h2 h3 h4 hc
    go_enter Try.func78, Try.ntmps78
    go_wp2_with (at_builtin; refine wpList_append_lies _ rfl _ _ 33 rfl w.heap.size 23 t0' (.int .u32 0) 1 4 Try.underlying33 hi0 hy0 hy1 hy2 rfl (by decide) _ 0 [] rfl HW.out ⟨b, o, none⟩ I.length cap (I.map (Value.int .u32)) rfl (by simp) HN.out (fun u hu => (by simp only [List.mem_map] at hu; obtain ⟨y, -, rfl⟩ := hu; rfl)) h0 (by unfold maxLen; omega) (by omega) (by simp) (w.heap.size + 1) (by simp) ?_; intro g cap2 w1 hown hgrow hat hlt)
    go_ret
    have hbl : Below w.heap.size w w1 := (((Below.refl _ _).alloc (Nat.le_refl _) _)).grown hgrow (by simp) (fun j hj => (World.ownsRow.lt HW.out _ hj).1)
    have hown2 : w1.ownsRow w.heap.size 23 1 (.slice (some ⟨g, 0, none⟩) I.length cap2) I.length (I.map (Value.int .u32)) := by simpa using hown
    obtain ⟨hcap, hcells⟩ := own_new hown2 h0
    exact ⟨⟨_, rfl, some ⟨g, 0, none⟩, cap2, by simp, hcap, fun _ => ⟨g, rfl, hlt, hcells⟩⟩, hbl⟩

theorem newMachine (iv : Value) (I : List Int) (w : World) (h : InArg w iv I) (h40 : I.length ≤ 40) :
    Calls Try.prog 43 #[iv] w fun e w' => ∃ mb iv', e = .returned (.pointer (some ⟨mb, 0, none⟩)) ∧ w.heap.size ≤ mb ∧ w'.heap.size = mb + 1 ∧ Row w' mb 84 (macV 0 0 0 (.slice none 0 0) iv') ∧ InNew w' mb iv' I ∧ Below w.heap.size w w' := by
  have HA : Hid (InArg w iv I) := h
  clear h
  go_enter Try.func43, Try.ntmps43
  go_wp2_with (go_at_call 78; refine (clone iv I _ HA.out h40).mono ?_; rintro e w1 ⟨⟨v, rfl, hn⟩, hb1⟩; have HN : Hid _ := hn; obtain ⟨ai, cap, rfl, -, -⟩ := hn)
  go_ret
  have hba : Below w1.heap.size w1 (w1.alloc (.cells (macV 0 0 0 (.slice none 0 0) (.slice ai I.length cap)).toArray 84)) := (Below.refl _ _).alloc (Nat.le_refl _) _
  refine ⟨w1.heap.size, .slice ai I.length cap, rfl, hb1.size, by simp, Row.new w1 _ _, ?_, step_below hba hb1⟩
  obtain ⟨ai', cap', e, g1, g2⟩ := HN.out
  refine ⟨ai', cap', e, g1, fun h0 => ?_⟩
  obtain ⟨g, e2, hg, hc⟩ := g2 h0
  exact ⟨g, e2, hg, fun j hj => step_cell hba (hc j hj)⟩

/-- What is wrong with what comes in, or with the steps. -/
def wrongN (nI : Nat) (steps : Int) : Int := if 40 < nI then 1 else if steps < 0 ∨ 3000 < steps then 3 else 0
theorem wrongN_of {B : List Bool} {C : List LIns} {nI : Nat} {steps : Int} : wrongI B C nI steps = if refMayB B C = true then wrongN nI steps else 2 := by
  unfold wrongI wrongN
  cases refMayB B C <;> simp

theorem wrongO (ai : Option Addr) (nI ci : Nat) (steps : Int) (w : World) :
    Calls Try.prog 42 #[.slice ai nI ci, .int .i64 steps] w fun e w' => e = .returned (.int .i64 (wrongN nI steps)) ∧ w' = w := by
  go_enter Try.func42, Try.ntmps42
  go_wp2
  all_goals
    go_ret
    refine ⟨ret_int ?_, rfl⟩
    unfold wrongN
    simp_all
  all_goals omega
end Go.Proofs.Ytolhnlbgohobkaa.form
