/- The machine on plain numbers: narrow temporaries hold narrow numbers; where a run has ended; what it shows in few steps and in more. -/
import Derived.Deep.RegionHeld3
import Derived.Test.YtdbjklngnloibaaB05

namespace Go.Proofs.Ytdbjklngnloibaa.form
open Go.RowKit Go.Proofs.Ytdbjklngnloibaa.num
set_option linter.unusedVariables false

/-- Narrow temporaries hold narrow numbers. -/
def WOk (B : List Bool) (ts : List Int) : Prop := ∀ j, j < B.length → B.getD j false = false → ts.getD j 0 < 4294967296

theorem wok_start (B : List Bool) : WOk B (Mac.start B.length).temps := by
  intro j hj _
  have : (Mac.start B.length).temps.getD j 0 = 0 := by simp [Mac.start, List.getD, hj]
  omega

theorem widths_of {B : List Bool} {nC : Nat} {i : LIns} (h : insB B nC i = true) : widthsB B i = true := by
  unfold insB at h
  simp only [Bool.and_eq_true] at h
  exact h.2

theorem known_of {B : List Bool} {nC : Nat} {i : LIns} (h : insB B nC i = true) : 10 < i.op → 21 ≤ i.op := by
  unfold insB at h
  simp only [Bool.and_eq_true] at h
  have hk := h.1.1.1.1.1.1
  unfold knownB at hk
  simp at hk
  omega

/-- The first of the two halves that are put together is narrow. -/
theorem pair_narrow {B : List Bool} {nC : Nat} {i : LIns} {ts : List Int} (h : insB B nC i = true) (hi : InsOk B.length nC i) (hw : WOk B ts) (ho : i.op = 5) : ts.getD i.a.toNat 0 < 4294967296 := by
  have h2 := widths_of h
  unfold widthsB at h2
  rw [if_neg (by omega), if_pos ho] at h2
  have hg : givesB i.op = true := by unfold givesB; simp [ho]
  have hm : manyI i.op = 2 := by unfold manyI; rw [if_neg (by omega), if_neg (by omega)]
  simp [wl, wl0, wl1, hg, hm, bw] at h2
  have := hi.a1
  have := hi.a0
  exact hw i.a.toNat (by omega) (by simpa [List.getD] using h2.1.2)

theorem wok_give {B : List Bool} {nC : Nat} {i : LIns} {ts : List Int} {x : Int} (h : insB B nC i = true) (hi : InsOk B.length nC i) (hw : WOk B ts) (hb : ∀ j, U64i (ts.getD j 0)) (hx0 : 0 ≤ x) (hx1 : x < 4294967296) (hg : givesB i.op = true)
    (hd : B.getD i.dest.toNat false = false) : gvI i (ts.getD i.a.toNat 0) (ts.getD i.b.toNat 0) x < 4294967296 := by
  have h2 := widths_of h
  have ha := hb i.a.toNat
  unfold U64i at ha
  have hd' : bw B i.dest = false := hd
  have a0 := hi.a0
  have a1 := hi.a1
  unfold gvI
  split
  · exact hi.n1
  split
  · rename_i h1 ho
    unfold widthsB at h2
    rw [if_pos ho] at h2
    have hm : manyI i.op = 1 := by unfold manyI; rw [if_neg (by omega), if_pos (by omega)]
    simp [wl, wl0, wl1, hg, hm, hd'] at h2
    exact hw _ (by omega) h2
  split
  · exact hx1
  split
  · rename_i h1 h2' h3 ho
    unfold widthsB at h2
    rw [if_neg (by omega), if_pos ho] at h2
    have hm : manyI i.op = 2 := by unfold manyI; rw [if_neg (by omega), if_neg (by omega)]
    simp [wl, wl0, wl1, hg, hm, hd'] at h2
  split
  · omega
  split
  · omega
  split
  · rename_i h1 h2' h3 h5 h6 h7 ho
    unfold widthsB at h2
    rw [if_neg (by omega), if_neg (by omega), if_neg (by omega)] at h2
    simp [wl, wl0, hg, hd'] at h2
    omega
  · exact (opR_u32_bd _ _ _).2

theorem wok_step {B : List Bool} {C : List LIns} {ins : List Int} {m : Mac} (h : insB B C.length (C.getD m.pc .zero) = true) (hi : InsOk B.length C.length (C.getD m.pc .zero)) (hw : WOk B m.temps) (hm : MOk B.length C.length ins.length m)
    (hin : ∀ j, j < ins.length → 0 ≤ ins.getD j 0 ∧ ins.getD j 0 < 4294967296) : WOk B (m.step C ins).temps := by
  simp only [Mac.step]
  split
  · rename_i hg
    obtain ⟨hd0, hd1⟩ := hi.d hg
    intro j hj hB
    by_cases hjd : (C.getD m.pc .zero).dest.toNat = j
    · have hl := hm.len
      rw [show (m.temps.set (C.getD m.pc .zero).dest.toNat (gvI (C.getD m.pc .zero) (m.temps.getD (C.getD m.pc .zero).a.toNat 0) (m.temps.getD (C.getD m.pc .zero).b.toNat 0) (inOf ins m.taken))).getD j 0 = gvI (C.getD m.pc .zero) (m.temps.getD (C.getD m.pc .zero).a.toNat 0) (m.temps.getD (C.getD m.pc .zero).b.toNat 0) (inOf ins m.taken) by
        rw [hjd]; simp [List.getD, hl, hj]]
      have hx := inOf_bd hin m.taken
      exact wok_give h hi hw hm.bd hx.1 hx.2 hg (by rw [hjd]; exact hB)
    · have := hw j hj hB
      generalize (C.getD m.pc .zero).dest.toNat = d at hjd ⊢
      simpa [List.getD, hjd] using this
  · exact hw

/-- A run stands somewhere, or behind the last instruction. -/
def MEnd (nC : Nat) (m : Mac) : Prop := m.state = 0 ∨ m.state = 1 ∨ (m.state = 2 ∧ m.pc = nC)

theorem mend_step {nB : Nat} {C : List LIns} {ins : List Int} {m : Mac} (hi : InsOk nB C.length (C.getD m.pc .zero)) (hpc : m.pc < C.length) : MEnd C.length (m.step C ins) := by
  unfold MEnd Mac.step
  simp only
  unfold stI
  split
  · exact Or.inr (Or.inl rfl)
  split
  · rename_i h1 h2
    refine Or.inr (Or.inr ⟨rfl, ?_⟩)
    unfold nxI at h2 ⊢
    split at h2
    · rename_i hc
      have := (hi.c (by rcases hc with hc | hc; exact Or.inl hc; exact Or.inr hc.1)).2
      omega
    · rename_i hc
      rw [if_neg hc]
      omega
  · exact Or.inl rfl

theorem go_add (C : List LIns) (ins : List Int) : ∀ (k j : Nat) (m : Mac), Mac.go C ins (k + j) m = Mac.go C ins j (Mac.go C ins k m)
  | 0, j, m => by rw [Nat.zero_add]; rfl
  | k + 1, j, m => by
    rw [show k + 1 + j = (k + j) + 1 by omega]
    by_cases h : m.state = 0
    · simp only [Mac.go, if_pos h]
      exact go_add C ins k j _
    · rw [Mac.go_stop h, Mac.go_stop h, Mac.go_stop h]

theorem go_steps (C : List LIns) (ins : List Int) : ∀ (k : Nat) (m : Mac), (Mac.go C ins k m).steps ≤ m.steps + k ∧ ((Mac.go C ins k m).state = 0 → (Mac.go C ins k m).steps = m.steps + k)
  | 0, m => ⟨by simp [Mac.go], fun _ => rfl⟩
  | k + 1, m => by
    by_cases h : m.state = 0
    · simp only [Mac.go, if_pos h]
      have := go_steps C ins k (m.step C ins)
      have e : (m.step C ins).steps = m.steps + 1 := rfl
      rw [e] at this
      exact ⟨by omega, fun hs => by have := this.2 hs; omega⟩
    · rw [Mac.go_stop h]
      exact ⟨by omega, fun hs => absurd hs h⟩

theorem go_prefix (C : List LIns) (ins : List Int) : ∀ (k : Nat) (m : Mac), m.out <+: (Mac.go C ins k m).out
  | 0, m => List.prefix_rfl
  | k + 1, m => by
    by_cases h : m.state = 0
    · simp only [Mac.go, if_pos h]
      refine List.IsPrefix.trans ?_ (go_prefix C ins k (m.step C ins))
      simp only [Mac.step]
      split
      · exact List.prefix_append _ _
      · exact List.prefix_rfl
    · rw [Mac.go_stop h]
      exact List.prefix_rfl

theorem go_outs (C : List LIns) (ins : List Int) : ∀ (k : Nat) (m : Mac), m.out.length ≤ m.steps → (Mac.go C ins k m).out.length ≤ (Mac.go C ins k m).steps
  | 0, m, h0 => h0
  | k + 1, m, h0 => by
    by_cases h : m.state = 0
    · simp only [Mac.go, if_pos h]
      refine go_outs C ins k (m.step C ins) ?_
      simp only [Mac.step]
      split
      · simp; omega
      · omega
    · rw [Mac.go_stop h]
      exact h0

theorem play_outs (B : List Bool) (C : List LIns) (ins : List Int) (n : Nat) : (playM B C ins n).out.length ≤ n := by
  have h1 := go_outs C ins n (Mac.start B.length) (by simp [Mac.start])
  have h2 := (go_steps C ins n (Mac.start B.length)).1
  unfold playM
  simp [Mac.start] at h1 h2 ⊢
  omega

end Go.Proofs.Ytdbjklngnloibaa.form

/- A machine on plain numbers, over whatever store: what each instruction does with it is handed in; the machine of temporaries is one of them. -/
namespace Go.Proofs.Ytdbjklngnloibaa.form
open Go.RowKit Go.Proofs.Ytdbjklngnloibaa.num
set_option linter.unusedVariables false

/-- What an instruction does with a store: what is done ahead of it and behind it, what it takes, what it gives. -/
structure Eff (S : Type) where
  pre : S → S
  post : S → S
  rdA : S → Int
  rdB : S → Int
  wr : S → Int → S

def plainE {S : Type} (rdA rdB : S → Int) (wr : S → Int → S) : Eff S := ⟨id, id, rdA, rdB, wr⟩

def Eff.a {S : Type} (E : Eff S) (s : S) : Int := E.rdA (E.pre s)
def Eff.act {S : Type} (E : Eff S) (i : LIns) (s : S) (x : Int) : S :=
  E.post (if givesB i.op = true then E.wr (E.pre s) (gvI i (E.rdA (E.pre s)) (E.rdB (E.pre s)) x) else E.pre s)

structure GM (S : Type) where
  pc : Nat
  sto : S
  taken : Nat
  out : List Int
  state : Int
  steps : Nat

def GM.step {S : Type} (C : List LIns) (E : Nat → Eff S) (ins : List Int) (m : GM S) : GM S :=
  { pc := (nxI (C.getD m.pc .zero) m.pc ((E m.pc).a m.sto)).toNat
    sto := (E m.pc).act (C.getD m.pc .zero) m.sto (inOf ins m.taken)
    taken := if (C.getD m.pc .zero).op = 3 ∧ m.taken < ins.length then m.taken + 1 else m.taken
    out := if (C.getD m.pc .zero).op = 4 then m.out ++ [(E m.pc).a m.sto % 4294967296] else m.out
    state := stI (C.getD m.pc .zero) C.length (nxI (C.getD m.pc .zero) m.pc ((E m.pc).a m.sto))
    steps := m.steps + 1 }

def GM.go {S : Type} (C : List LIns) (E : Nat → Eff S) (ins : List Int) : Nat → GM S → GM S
  | 0, m => m
  | k + 1, m => if m.state = 0 then GM.go C E ins k (m.step C E ins) else m

theorem GM.go_stop {S : Type} {C : List LIns} {E : Nat → Eff S} {ins : List Int} {m : GM S} (h : ¬ m.state = 0) : ∀ k, GM.go C E ins k m = m
  | 0 => rfl
  | k + 1 => by simp [GM.go, h]

def GM.start {S : Type} (s : S) : GM S := ⟨0, s, 0, [], 0, 0⟩

/-- Within its bounds. -/
structure GOk {S : Type} (nC nI : Nat) (m : GM S) : Prop where
  pcok : m.state = 0 → m.pc < nC
  tk : m.taken ≤ nI
  outs : m.out.length ≤ m.steps
  fin : m.state = 0 ∨ m.state = 1 ∨ (m.state = 2 ∧ m.pc = nC)

theorem gok_start {S : Type} (nC nI : Nat) (s : S) (h : 1 ≤ nC) : GOk nC nI (GM.start s) := ⟨fun _ => h, by simp [GM.start], by simp [GM.start], Or.inl rfl⟩

theorem gok_step {S : Type} {nB : Nat} {C : List LIns} {E : Nat → Eff S} {ins : List Int} {m : GM S} (h : GOk C.length ins.length m) (h0 : m.state = 0) (hi : InsOk nB C.length (C.getD m.pc .zero)) : GOk C.length ins.length (m.step C E ins) := by
  have hpc := h.pcok h0
  refine ⟨?_, ?_, ?_, ?_⟩
  · simp only [GM.step]
    intro hs
    unfold stI at hs
    split at hs
    · omega
    split at hs
    · omega
    · have hn : 0 ≤ nxI (C.getD m.pc .zero) m.pc ((E m.pc).a m.sto) := by
        unfold nxI
        split
        · rename_i hc
          exact (hi.c (by rcases hc with hc | hc; exact Or.inl hc; exact Or.inr hc.1)).1
        · omega
      omega
  · simp only [GM.step]
    split
    · rename_i hc; exact hc.2
    · exact h.tk
  · simp only [GM.step]
    have := h.outs
    split <;> simp <;> omega
  · simp only [GM.step]
    unfold stI
    split
    · exact Or.inr (Or.inl rfl)
    split
    · rename_i h1 h2
      refine Or.inr (Or.inr ⟨rfl, ?_⟩)
      unfold nxI at h2 ⊢
      split at h2
      · rename_i hc
        rw [if_pos hc]
        have := (hi.c (by rcases hc with hc | hc; exact Or.inl hc; exact Or.inr hc.1)).2
        omega
      · rename_i hc
        rw [if_neg hc]
        omega
    · exact Or.inl rfl

theorem ggo_outs {S : Type} (C : List LIns) (E : Nat → Eff S) (ins : List Int) : ∀ (k : Nat) (m : GM S), (GM.go C E ins k m).out.length ≤ m.out.length + k
  | 0, m => by simp [GM.go]
  | k + 1, m => by
    by_cases h : m.state = 0
    · simp only [GM.go, if_pos h]
      have h1 := ggo_outs C E ins k (m.step C E ins)
      have h2 : (m.step C E ins).out.length ≤ m.out.length + 1 := by simp only [GM.step]; split <;> simp
      omega
    · rw [GM.go_stop h]; omega

/-- The machine of temporaries. -/
def tempE (i : LIns) : Eff (List Int) := plainE (fun s => s.getD i.a.toNat 0) (fun s => s.getD i.b.toNat 0) (fun s x => s.set i.dest.toNat x)
def Mac.gen (m : Mac) : GM (List Int) := ⟨m.pc, m.temps, m.taken, m.out, m.state, m.steps⟩
theorem gen_step (C : List LIns) (ins : List Int) (m : Mac) : (m.step C ins).gen = m.gen.step C (fun k => tempE (C.getD k .zero)) ins := rfl
theorem gen_go (C : List LIns) (ins : List Int) : ∀ (k : Nat) (m : Mac), (Mac.go C ins k m).gen = GM.go C (fun k => tempE (C.getD k .zero)) ins k m.gen
  | 0, m => rfl
  | k + 1, m => by
    by_cases h : m.state = 0
    · have h' : m.gen.state = 0 := h
      simp only [Mac.go, GM.go, if_pos h, if_pos h', ← gen_step]
      exact gen_go C ins k (m.step C ins)
    · have h' : ¬ m.gen.state = 0 := h
      rw [Mac.go_stop h, GM.go_stop h']
theorem play_gen (B : List Bool) (C : List LIns) (ins : List Int) (n : Nat) : (playM B C ins n).gen = GM.go C (fun k => tempE (C.getD k .zero)) ins n (GM.start (List.replicate B.length 0)) := gen_go C ins n _

end Go.Proofs.Ytdbjklngnloibaa.form

/- The ends of an instruction: closures that tell what is in its A and B, and give its Dest a number, whatever the store; what a closure has caught; what a closure gives. -/
namespace Go.Proofs.Ytdbjklngnloibaa.form
open Go.RowKit Go.Proofs.Ytdbjklngnloibaa.num
set_option linter.unusedVariables false

/-- A closure that tells what is in the store, whenever it is called. -/
def ReadSpec (K : StoK) (mb sb db : Nat) (w1 : World) (F : Nat) (caps : Array Value) (rd : K.S → Int) : Prop :=
  (∀ w, Sem.run Try.prog (callFunc F caps) w = .ok (.enter F caps) w) ∧ (∀ s, K.ok s → U64i (rd s)) ∧
    ∀ s w, Kept mb sb db w1 w → w1.heap.size ≤ w.heap.size → Row w sb K.T (K.enc s) → K.ok s → Calls Try.prog F caps w fun e w' => e = .returned (.int .u64 (rd s)) ∧ Below w.heap.size w w'

/-- A closure that puts a number into the store, whenever it is called. -/
def WriteSpec (K : StoK) (mb sb db : Nat) (w1 : World) (F : Nat) (c1 c2 : Value) (wr : K.S → Int → K.S) : Prop :=
  (∀ x w, Sem.run Try.prog (callFunc F #[x, c1, c2]) w = .ok (.enter F #[x, c1, c2]) w) ∧ (∀ s x, K.ok s → U64i x → K.ok (wr s x)) ∧
    ∀ s x w, Kept mb sb db w1 w → w1.heap.size ≤ w.heap.size → Row w sb K.T (K.enc s) → K.ok s → U64i x → Calls Try.prog F #[.int .u64 x, c1, c2] w fun e w' => e = .returned (.tuple #[]) ∧ Row w' sb K.T (K.enc (wr s x)) ∧ Only sb w w'

theorem ReadSpec.later {K : StoK} {mb sb db : Nat} {w1 w2 : World} {F : Nat} {caps : Array Value} {rd : K.S → Int} (h : ReadSpec K mb sb db w1 F caps rd) (hk : Kept mb sb db w1 w2) (hz : w1.heap.size ≤ w2.heap.size) : ReadSpec K mb sb db w2 F caps rd :=
  ⟨h.1, h.2.1, fun s w hw hz2 hr ho => h.2.2 s w (hk.trans hz hw) (Nat.le_trans hz hz2) hr ho⟩
theorem WriteSpec.later {K : StoK} {mb sb db : Nat} {w1 w2 : World} {F : Nat} {c1 c2 : Value} {wr : K.S → Int → K.S} (h : WriteSpec K mb sb db w1 F c1 c2 wr) (hk : Kept mb sb db w1 w2) (hz : w1.heap.size ≤ w2.heap.size) : WriteSpec K mb sb db w2 F c1 c2 wr :=
  ⟨h.1, h.2.1, fun s x w hw hz2 hr ho hx => h.2.2 s x w (hk.trans hz hw) (Nat.le_trans hz hz2) hr ho hx⟩

/-- The ends: the functions and what they have caught. -/
structure EndF where
  fa : Nat
  ca : Array Value
  fb : Nat
  cb : Array Value
  fd : Nat
  d1 : Value
  d2 : Value
def EndF.a (x : EndF) : Value := .func (.func x.fa) #[] x.ca
def EndF.b (x : EndF) : Value := .func (.func x.fb) #[] x.cb
def EndF.d (x : EndF) : Value := .func (.func x.fd) #[] #[x.d1, x.d2]

structure EndsIs (K : StoK) (mb sb db : Nat) (w1 : World) (x : EndF) (rdA rdB : K.S → Int) (wr : K.S → Int → K.S) (G : Prop) : Prop where
  a : ReadSpec K mb sb db w1 x.fa x.ca rdA
  b : ReadSpec K mb sb db w1 x.fb x.cb rdB
  d : G → WriteSpec K mb sb db w1 x.fd x.d1 x.d2 wr

theorem EndsIs.later {K : StoK} {mb sb db : Nat} {w1 w2 : World} {x : EndF} {rdA rdB : K.S → Int} {wr : K.S → Int → K.S} {G : Prop} (h : EndsIs K mb sb db w1 x rdA rdB wr G) (hk : Kept mb sb db w1 w2) (hz : w1.heap.size ≤ w2.heap.size) : EndsIs K mb sb db w2 x rdA rdB wr G :=
  ⟨h.a.later hk hz, h.b.later hk hz, fun g => (h.d g).later hk hz⟩

/-- The variables that a closure has caught: the machine's pointer, the instruction, its ends. -/
structure Box (mb sb db bm bi be : Nat) (i : LIns) (x : EndF) (w : World) : Prop where
  pm : w.cell? ⟨bm, 0, none⟩ = some (.pointer (some ⟨mb, 0, none⟩))
  i0 : w.cell? ⟨bi, 0, none⟩ = some (.int .i64 i.op)
  i4 : w.cell? ⟨bi, 4, none⟩ = some (.int .i64 i.c)
  i5 : w.cell? ⟨bi, 5, none⟩ = some (.int .u32 i.n)
  e0 : w.cell? ⟨be, 0, none⟩ = some (.func (.func x.fa) #[] x.ca)
  e1 : w.cell? ⟨be, 1, none⟩ = some (.func (.func x.fb) #[] x.cb)
  e2 : w.cell? ⟨be, 2, none⟩ = some (.func (.func x.fd) #[] #[x.d1, x.d2])
  n1 : bm ≠ mb
  n2 : bi ≠ mb
  n3 : be ≠ mb
  s1 : bm ≠ sb
  s2 : bi ≠ sb
  s3 : be ≠ sb
  m1 : bm ≠ db
  m2 : bi ≠ db
  m3 : be ≠ db

theorem Box.kept {mb sb db bm bi be : Nat} {i : LIns} {x : EndF} {w w' : World} (h : Box mb sb db bm bi be i x w) (hk : Kept mb sb db w w') : Box mb sb db bm bi be i x w' :=
  ⟨hk.cell h.pm h.n1 h.s1 h.m1, hk.cell h.i0 h.n2 h.s2 h.m2, hk.cell h.i4 h.n2 h.s2 h.m2, hk.cell h.i5 h.n2 h.s2 h.m2, hk.cell h.e0 h.n3 h.s3 h.m3, hk.cell h.e1 h.n3 h.s3 h.m3, hk.cell h.e2 h.n3 h.s3 h.m3, h.n1, h.n2, h.n3, h.s1, h.s2, h.s3, h.m1, h.m2, h.m3⟩

/-- What a closure gives, whenever it is called. -/
def GiveSpec (K : StoK) (mb sb db : Nat) (i : LIns) (rdA rdB : K.S → Int) (w1 : World) (F : Nat) (caps : Array Value) : Prop := (∀ w, Sem.run Try.prog (callFunc F caps) w = .ok (.enter F caps) w) ∧ ∀ base s ov l st k iv I pc w, Kept mb sb db w1 w → w1.heap.size ≤ w.heap.size → MS K mb sb base s ov l st k iv I pc w →
  (i.op = 5 → rdA s < 4294967296) → Calls Try.prog F caps w fun e w' =>
    e = .returned (.int .u64 (gvI i (rdA s) (rdB s) (I.headD 0))) ∧ (∃ iv', MS K mb sb base s ov l st k iv' (if i.op = 3 then I.tail else I) pc w') ∧ Ran mb sb base w w'

/-- The machine behind a deed. -/
def Behind (K : StoK) (mb sb base : Nat) (i : LIns) (E : Eff K.S) (s : K.S) (l : List Int) (st k : Int) (I : List Int) (pc : Int) (w w' : World) : Prop :=
  (∃ ov' iv', MS K mb sb base (E.act i s (I.headD 0)) ov' (if i.op = 4 then l ++ [E.a s % 4294967296] else l)
    (if i.op = 10 then 1 else st) k iv' (if i.op = 3 then I.tail else I) (if i.op = 8 ∨ (i.op = 9 ∧ ¬ E.a s = 0) then i.c else pc) w') ∧ Ran mb sb base w w'

/-- What a closure does, whenever it is called. -/
def DeedSpec (K : StoK) (mb sb db : Nat) (i : LIns) (E : Eff K.S) (w1 : World) (F : Nat) (caps : Array Value) : Prop := (∀ w, Sem.run Try.prog (callFunc F caps) w = .ok (.enter F caps) w) ∧ ∀ base s ov l st k iv I pc w, Kept mb sb db w1 w → w1.heap.size ≤ w.heap.size → MS K mb sb base s ov l st k iv I pc w →
  w1.heap.size ≤ base → l.length ≤ 3000 → (i.op = 5 → E.a s < 4294967296) → Calls Try.prog F caps w fun e w' => e = .returned (.tuple #[]) ∧ Behind K mb sb base i E s l st k I pc w w'

theorem DeedSpec.later {K : StoK} {mb sb db : Nat} {i : LIns} {E : Eff K.S} {F : Nat} {caps : Array Value} {w1 w2 : World} (h : DeedSpec K mb sb db i E w1 F caps) (hk : Kept mb sb db w1 w2) (hz2 : w1.heap.size ≤ w2.heap.size) : DeedSpec K mb sb db i E w2 F caps :=
  ⟨h.1, fun base s ov l st k iv I pc w hw hz3 hm hz => h.2 base s ov l st k iv I pc w (hk.trans hz2 hw) (Nat.le_trans hz2 hz3) hm (Nat.le_trans hz2 hz)⟩

/-- Two halves put together. -/
theorem pair_of (a b : Int) (ha0 : 0 ≤ a) (ha1 : a < 4294967296) (hb : U64i b) : bits BinOp.or IntKind.u64 (IntKind.u64.wrap (b * 4294967296)) a = IntKind.u64.wrap (IntKind.u64.wrap (b * 4294967296) + a) := by
  obtain ⟨b0, b1⟩ := hb
  obtain ⟨x, rfl⟩ := Int.eq_ofNat_of_zero_le ha0
  obtain ⟨y, rfl⟩ := Int.eq_ofNat_of_zero_le b0
  have e : IntKind.u64.wrap ((y : Int) * 4294967296) = ((2 ^ 32 * (y % 4294967296) : Nat) : Int) := by
    rw [show IntKind.u64.wrap ((y : Int) * 4294967296) = ((y : Int) * 4294967296) % 18446744073709551616 by simp [IntKind.wrap, IntKind.bits, IntKind.signed]]
    omega
  rw [e, u64_or_nat _ _ (by omega) (by omega), ← Nat.two_pow_add_eq_or_of_lt (by omega), wrap64_of _ (by omega) (by omega)]
  omega

end Go.Proofs.Ytdbjklngnloibaa.form
