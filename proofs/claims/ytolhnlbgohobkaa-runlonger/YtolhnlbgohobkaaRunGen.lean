/- A machine on plain numbers, over whatever store: what each instruction does with it is handed in; the machine of temporaries is one of them. -/
import Derived.Test.YtolhnlbgohobkaaRunWide
namespace Go.Proofs.Ytolhnlbgohobkaa.form
open Go.RowKit Go.Proofs.Ytolhnlbgohobkaa.num
set_option linter.unusedVariables false

/-- What an instruction does with a store: what is done ahead of it and behind it, what it takes, what it gives. -/
structure Eff (S : Type) where
  pre : S → S
  post : S → S
  rdA : S → Int
  rdB : S → Int
  wr : S → Int → S

def plainE {S : Type} (rdA rdB : S → Int) (wr : S → Int → S) : Eff S := ⟨id, id, rdA, rdB, wr⟩

def Eff.a {S : Type} (E : Eff S) (s : S) : Int := E.rdA (E.pre s)
def Eff.act {S : Type} (E : Eff S) (i : LIns) (s : S) (x : Int) : S :=
  E.post (if givesB i.op = true then E.wr (E.pre s) (gvI i (E.rdA (E.pre s)) (E.rdB (E.pre s)) x) else E.pre s)

structure GM (S : Type) where
  pc : Nat
  sto : S
  taken : Nat
  out : List Int
  state : Int
  steps : Nat

def GM.step {S : Type} (C : List LIns) (E : Nat → Eff S) (ins : List Int) (m : GM S) : GM S :=
  { pc := (nxI (C.getD m.pc .zero) m.pc ((E m.pc).a m.sto)).toNat
    sto := (E m.pc).act (C.getD m.pc .zero) m.sto (inOf ins m.taken)
    taken := if (C.getD m.pc .zero).op = 3 ∧ m.taken < ins.length then m.taken + 1 else m.taken
    out := if (C.getD m.pc .zero).op = 4 then m.out ++ [(E m.pc).a m.sto % 4294967296] else m.out
    state := stI (C.getD m.pc .zero) C.length (nxI (C.getD m.pc .zero) m.pc ((E m.pc).a m.sto))
    steps := m.steps + 1 }

def GM.go {S : Type} (C : List LIns) (E : Nat → Eff S) (ins : List Int) : Nat → GM S → GM S
  | 0, m => m
  | k + 1, m => if m.state = 0 then GM.go C E ins k (m.step C E ins) else m

theorem GM.go_stop {S : Type} {C : List LIns} {E : Nat → Eff S} {ins : List Int} {m : GM S} (h : ¬ m.state = 0) : ∀ k, GM.go C E ins k m = m
  | 0 => rfl
  | k + 1 => by simp [GM.go, h]

def GM.start {S : Type} (s : S) : GM S := ⟨0, s, 0, [], 0, 0⟩

/-- Within its bounds. -/
structure GOk {S : Type} (nC nI : Nat) (m : GM S) : Prop where
  pcok : m.state = 0 → m.pc < nC
  tk : m.taken ≤ nI
  outs : m.out.length ≤ m.steps
  fin : m.state = 0 ∨ m.state = 1 ∨ (m.state = 2 ∧ m.pc = nC)

theorem gok_start {S : Type} (nC nI : Nat) (s : S) (h : 1 ≤ nC) : GOk nC nI (GM.start s) := ⟨fun _ => h, by simp [GM.start], by simp [GM.start], Or.inl rfl⟩

theorem gok_step {S : Type} {nB : Nat} {C : List LIns} {E : Nat → Eff S} {ins : List Int} {m : GM S} (h : GOk C.length ins.length m) (h0 : m.state = 0) (hi : InsOk nB C.length (C.getD m.pc .zero)) : GOk C.length ins.length (m.step C E ins) := by
  have hpc := h.pcok h0
  refine ⟨?_, ?_, ?_, ?_⟩
  · simp only [GM.step]
    intro hs
    unfold stI at hs
    split at hs
    · omega
    split at hs
    · omega
    · have hn : 0 ≤ nxI (C.getD m.pc .zero) m.pc ((E m.pc).a m.sto) := by
        unfold nxI
        split
        · rename_i hc
          exact (hi.c (by rcases hc with hc | hc; exact Or.inl hc; exact Or.inr hc.1)).1
        · omega
      omega
  · simp only [GM.step]
    split
    · rename_i hc; exact hc.2
    · exact h.tk
  · simp only [GM.step]
    have := h.outs
    split <;> simp <;> omega
  · simp only [GM.step]
    unfold stI
    split
    · exact Or.inr (Or.inl rfl)
    split
    · rename_i h1 h2
      refine Or.inr (Or.inr ⟨rfl, ?_⟩)
      unfold nxI at h2 ⊢
      split at h2
      · rename_i hc
        rw [if_pos hc]
        have := (hi.c (by rcases hc with hc | hc; exact Or.inl hc; exact Or.inr hc.1)).2
        omega
      · rename_i hc
        rw [if_neg hc]
        omega
    · exact Or.inl rfl

theorem ggo_outs {S : Type} (C : List LIns) (E : Nat → Eff S) (ins : List Int) : ∀ (k : Nat) (m : GM S), (GM.go C E ins k m).out.length ≤ m.out.length + k
  | 0, m => by simp [GM.go]
  | k + 1, m => by
    by_cases h : m.state = 0
    · simp only [GM.go, if_pos h]
      have h1 := ggo_outs C E ins k (m.step C E ins)
      have h2 : (m.step C E ins).out.length ≤ m.out.length + 1 := by simp only [GM.step]; split <;> simp
      omega
    · rw [GM.go_stop h]; omega

/-- The machine of temporaries. -/
def tempE (i : LIns) : Eff (List Int) := plainE (fun s => s.getD i.a.toNat 0) (fun s => s.getD i.b.toNat 0) (fun s x => s.set i.dest.toNat x)
def Mac.gen (m : Mac) : GM (List Int) := ⟨m.pc, m.temps, m.taken, m.out, m.state, m.steps⟩
theorem gen_step (C : List LIns) (ins : List Int) (m : Mac) : (m.step C ins).gen = m.gen.step C (fun k => tempE (C.getD k .zero)) ins := rfl
theorem gen_go (C : List LIns) (ins : List Int) : ∀ (k : Nat) (m : Mac), (Mac.go C ins k m).gen = GM.go C (fun k => tempE (C.getD k .zero)) ins k m.gen
  | 0, m => rfl
  | k + 1, m => by
    by_cases h : m.state = 0
    · have h' : m.gen.state = 0 := h
      simp only [Mac.go, GM.go, if_pos h, if_pos h', ← gen_step]
      exact gen_go C ins k (m.step C ins)
    · have h' : ¬ m.gen.state = 0 := h
      rw [Mac.go_stop h, GM.go_stop h']
theorem play_gen (B : List Bool) (C : List LIns) (ins : List Int) (n : Nat) : (playM B C ins n).gen = GM.go C (fun k => tempE (C.getD k .zero)) ins n (GM.start (List.replicate B.length 0)) := gen_go C ins n _

end Go.Proofs.Ytolhnlbgohobkaa.form
