/- The machine on plain numbers: narrow temporaries hold narrow numbers; where a run has ended; what it shows in few steps and in more. -/
import Derived.Test.YtolhnlbgohobkaaRunMac
namespace Go.Proofs.Ytolhnlbgohobkaa.form
open Go.RowKit Go.Proofs.Ytolhnlbgohobkaa.num
set_option linter.unusedVariables false

/-- Narrow temporaries hold narrow numbers. -/
def WOk (B : List Bool) (ts : List Int) : Prop := ∀ j, j < B.length → B.getD j false = false → ts.getD j 0 < 4294967296

theorem wok_start (B : List Bool) : WOk B (Mac.start B.length).temps := by
  intro j hj _
  have : (Mac.start B.length).temps.getD j 0 = 0 := by simp [Mac.start, List.getD, hj]
  omega

theorem widths_of {B : List Bool} {nC : Nat} {i : LIns} (h : insB B nC i = true) : widthsB B i = true := by
  unfold insB at h
  simp only [Bool.and_eq_true] at h
  exact h.2

theorem known_of {B : List Bool} {nC : Nat} {i : LIns} (h : insB B nC i = true) : 10 < i.op → 21 ≤ i.op := by
  unfold insB at h
  simp only [Bool.and_eq_true] at h
  have hk := h.1.1.1.1.1.1
  unfold knownB at hk
  simp at hk
  omega

/-- The first of the two halves that are put together is narrow. -/
theorem pair_narrow {B : List Bool} {nC : Nat} {i : LIns} {ts : List Int} (h : insB B nC i = true) (hi : InsOk B.length nC i) (hw : WOk B ts) (ho : i.op = 5) : ts.getD i.a.toNat 0 < 4294967296 := by
  have h2 := widths_of h
  unfold widthsB at h2
  rw [if_neg (by omega), if_pos ho] at h2
  have hg : givesB i.op = true := by unfold givesB; simp [ho]
  have hm : manyI i.op = 2 := by unfold manyI; rw [if_neg (by omega), if_neg (by omega)]
  simp [wl, wl0, wl1, hg, hm, bw] at h2
  have := hi.a1
  have := hi.a0
  exact hw i.a.toNat (by omega) (by simpa [List.getD] using h2.1.2)

theorem wok_give {B : List Bool} {nC : Nat} {i : LIns} {ts : List Int} {x : Int} (h : insB B nC i = true) (hi : InsOk B.length nC i) (hw : WOk B ts) (hb : ∀ j, U64i (ts.getD j 0)) (hx0 : 0 ≤ x) (hx1 : x < 4294967296) (hg : givesB i.op = true)
    (hd : B.getD i.dest.toNat false = false) : gvI i (ts.getD i.a.toNat 0) (ts.getD i.b.toNat 0) x < 4294967296 := by
  have h2 := widths_of h
  have ha := hb i.a.toNat
  unfold U64i at ha
  have hd' : bw B i.dest = false := hd
  have a0 := hi.a0
  have a1 := hi.a1
  unfold gvI
  split
  · exact hi.n1
  split
  · rename_i h1 ho
    unfold widthsB at h2
    rw [if_pos ho] at h2
    have hm : manyI i.op = 1 := by unfold manyI; rw [if_neg (by omega), if_pos (by omega)]
    simp [wl, wl0, wl1, hg, hm, hd'] at h2
    exact hw _ (by omega) h2
  split
  · exact hx1
  split
  · rename_i h1 h2' h3 ho
    unfold widthsB at h2
    rw [if_neg (by omega), if_pos ho] at h2
    have hm : manyI i.op = 2 := by unfold manyI; rw [if_neg (by omega), if_neg (by omega)]
    simp [wl, wl0, wl1, hg, hm, hd'] at h2
  split
  · omega
  split
  · omega
  split
  · rename_i h1 h2' h3 h5 h6 h7 ho
    unfold widthsB at h2
    rw [if_neg (by omega), if_neg (by omega), if_neg (by omega)] at h2
    simp [wl, wl0, hg, hd'] at h2
    omega
  · exact (opR_u32_bd _ _ _).2

theorem wok_step {B : List Bool} {C : List LIns} {ins : List Int} {m : Mac} (h : insB B C.length (C.getD m.pc .zero) = true) (hi : InsOk B.length C.length (C.getD m.pc .zero)) (hw : WOk B m.temps) (hm : MOk B.length C.length ins.length m)
    (hin : ∀ j, j < ins.length → 0 ≤ ins.getD j 0 ∧ ins.getD j 0 < 4294967296) : WOk B (m.step C ins).temps := by
  simp only [Mac.step]
  split
  · rename_i hg
    obtain ⟨hd0, hd1⟩ := hi.d hg
    intro j hj hB
    by_cases hjd : (C.getD m.pc .zero).dest.toNat = j
    · have hl := hm.len
      rw [show (m.temps.set (C.getD m.pc .zero).dest.toNat (gvI (C.getD m.pc .zero) (m.temps.getD (C.getD m.pc .zero).a.toNat 0) (m.temps.getD (C.getD m.pc .zero).b.toNat 0) (inOf ins m.taken))).getD j 0 = gvI (C.getD m.pc .zero) (m.temps.getD (C.getD m.pc .zero).a.toNat 0) (m.temps.getD (C.getD m.pc .zero).b.toNat 0) (inOf ins m.taken) by
        rw [hjd]; simp [List.getD, hl, hj]]
      have hx := inOf_bd hin m.taken
      exact wok_give h hi hw hm.bd hx.1 hx.2 hg (by rw [hjd]; exact hB)
    · have := hw j hj hB
      generalize (C.getD m.pc .zero).dest.toNat = d at hjd ⊢
      simpa [List.getD, hjd] using this
  · exact hw

/-- A run stands somewhere, or behind the last instruction. -/
def MEnd (nC : Nat) (m : Mac) : Prop := m.state = 0 ∨ m.state = 1 ∨ (m.state = 2 ∧ m.pc = nC)

theorem mend_step {nB : Nat} {C : List LIns} {ins : List Int} {m : Mac} (hi : InsOk nB C.length (C.getD m.pc .zero)) (hpc : m.pc < C.length) : MEnd C.length (m.step C ins) := by
  unfold MEnd Mac.step
  simp only
  unfold stI
  split
  · exact Or.inr (Or.inl rfl)
  split
  · rename_i h1 h2
    refine Or.inr (Or.inr ⟨rfl, ?_⟩)
    unfold nxI at h2 ⊢
    split at h2
    · rename_i hc
      have := (hi.c (by rcases hc with hc | hc; exact Or.inl hc; exact Or.inr hc.1)).2
      omega
    · rename_i hc
      rw [if_neg hc]
      omega
  · exact Or.inl rfl

theorem go_add (C : List LIns) (ins : List Int) : ∀ (k j : Nat) (m : Mac), Mac.go C ins (k + j) m = Mac.go C ins j (Mac.go C ins k m)
  | 0, j, m => by rw [Nat.zero_add]; rfl
  | k + 1, j, m => by
    rw [show k + 1 + j = (k + j) + 1 by omega]
    by_cases h : m.state = 0
    · simp only [Mac.go, if_pos h]
      exact go_add C ins k j _
    · rw [Mac.go_stop h, Mac.go_stop h, Mac.go_stop h]

theorem go_steps (C : List LIns) (ins : List Int) : ∀ (k : Nat) (m : Mac), (Mac.go C ins k m).steps ≤ m.steps + k ∧ ((Mac.go C ins k m).state = 0 → (Mac.go C ins k m).steps = m.steps + k)
  | 0, m => ⟨by simp [Mac.go], fun _ => rfl⟩
  | k + 1, m => by
    by_cases h : m.state = 0
    · simp only [Mac.go, if_pos h]
      have := go_steps C ins k (m.step C ins)
      have e : (m.step C ins).steps = m.steps + 1 := rfl
      rw [e] at this
      exact ⟨by omega, fun hs => by have := this.2 hs; omega⟩
    · rw [Mac.go_stop h]
      exact ⟨by omega, fun hs => absurd hs h⟩

theorem go_prefix (C : List LIns) (ins : List Int) : ∀ (k : Nat) (m : Mac), m.out <+: (Mac.go C ins k m).out
  | 0, m => List.prefix_rfl
  | k + 1, m => by
    by_cases h : m.state = 0
    · simp only [Mac.go, if_pos h]
      refine List.IsPrefix.trans ?_ (go_prefix C ins k (m.step C ins))
      simp only [Mac.step]
      split
      · exact List.prefix_append _ _
      · exact List.prefix_rfl
    · rw [Mac.go_stop h]
      exact List.prefix_rfl

theorem go_outs (C : List LIns) (ins : List Int) : ∀ (k : Nat) (m : Mac), m.out.length ≤ m.steps → (Mac.go C ins k m).out.length ≤ (Mac.go C ins k m).steps
  | 0, m, h0 => h0
  | k + 1, m, h0 => by
    by_cases h : m.state = 0
    · simp only [Mac.go, if_pos h]
      refine go_outs C ins k (m.step C ins) ?_
      simp only [Mac.step]
      split
      · simp; omega
      · omega
    · rw [Mac.go_stop h]
      exact h0

theorem play_outs (B : List Bool) (C : List LIns) (ins : List Int) (n : Nat) : (playM B C ins n).out.length ≤ n := by
  have h1 := go_outs C ins n (Mac.start B.length) (by simp [Mac.start])
  have h2 := (go_steps C ins n (Mac.start B.length)).1
  unfold playM
  simp [Mac.start] at h1 h2 ⊢
  omega

end Go.Proofs.Ytolhnlbgohobkaa.form
