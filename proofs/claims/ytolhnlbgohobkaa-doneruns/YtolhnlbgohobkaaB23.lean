/- Ins that came in as an argument ([]uint32) are read. -/
import Derived.Test.YtolhnlbgohobkaaB22
import Derived.Test.YtolhnlbgohobkaaB14
import Derived.Test.YtolhnlbgohobkaaB10

namespace Go.Proofs.Ytolhnlbgohobkaa.form
open Go.ChangeShapes Go.WideShapes Go.ChangeAt Go.RowKit Go.Joins Go.Deep
set_option linter.unusedVariables false

set_option maxRecDepth 100000 in
theorem ins_is {H : Type} {enc : TypeId × Value → H} {w : World} {spare : Nat → Bool} {held : Bool} {b0 : Nat} {v : Value} {d : DataW H} {p : List MemPlace} {r : Reach} (hv : Value.okWide Try.prog w r b0 33 v)
    (h : DataW.Trod enc Try.prog w 0 spare held 33 v d p) : ∃ I, InArg w v I := by
  obtain ⟨a0, len0, cap0, rfl⟩ := okWide_slice Try.underlying33 hv
  obtain ⟨fuel, hf⟩ := h
  rcases open_slice1 (e := 23) Try.underlying33 cellsU32 hf with ⟨hc, _⟩ | ⟨a, len, cap, m, n', V, D, Pl, hc, _, hl, hm, hmm, _, hx⟩
  · simp [Value.cells] at hc
    obtain ⟨rfl, rfl, rfl⟩ := hc
    exact ⟨[], none, 0, rfl, by simp, by simp, fun j hj => absurd hj (by simp), fun hh => absurd hh (by simp)⟩
  · simp [Value.cells] at hc
    obtain ⟨rfl, rfl, rfl⟩ := hc
    have hlm : len0 ≤ m := by rw [hmm]; split <;> omega
    obtain ⟨f, hf⟩ := choose_lt (n := len0) (α := Int) (p := fun i x => w.cell? (a.add i) = some (.int .u32 x) ∧ 0 ≤ x ∧ x < 4294967296) (fun i hi => by
      obtain ⟨h1, h2⟩ := hx i (by omega)
      obtain ⟨x, hxx, _, wx⟩ := DataW.trod_int Try.underlying23 h2
      simp at hxx
      obtain ⟨b1, b2⟩ := bounds_u32 wx
      exact ⟨x, by rw [h1, hxx], b1, by omega⟩)
    have hg : ∀ i, i < len0 → ((List.range len0).map f).getD i 0 = f i := fun i hi => by simp [List.getD, hi]
    refine ⟨(List.range len0).map f, some a, cap0, by simp, by simpa using hl, by simp; unfold maxLen at hm; omega, fun j hj => ?_, fun hh => ?_⟩
    · simp at hj
      rw [hg j hj]
      exact (hf j hj).2
    · simp at hh
      obtain ⟨b, off, spot⟩ := a
      have hs : spot = none := by simpa [Addr.add] using World.cell?_spot (hf 0 (by omega)).1
      subst hs
      refine ⟨b, off, rfl, ?_, fun i hi => ?_⟩
      · have := World.block_lt_of_cell? w _ (hf 0 (by omega)).1
        simpa [Addr.add] using this
      · simp at hi
        have := (hf i hi).1
        rw [Go.WideShapes.add_plain] at this
        rw [hg i hi]
        exact this

end Go.Proofs.Ytolhnlbgohobkaa.form

/- A machine in its places, on plain numbers; where what is taken is where it is said to be, it shows what the program shows. -/
namespace Go.Proofs.Ytolhnlbgohobkaa.form
open Go.RowKit Go.Proofs.Ytolhnlbgohobkaa.num
set_option linter.unusedVariables false

/-- A machine in its places: where it is, its store, how many ins are taken, what came out, its state, its steps. -/
structure PMac where
  pc : Nat
  sto : Sto
  taken : Nat
  out : List Int
  state : Int
  steps : Nat

def PMac.start (s slots : Nat) : PMac := ⟨0, ⟨List.replicate s 0, List.replicate slots 0⟩, 0, [], 0, 0⟩

def PMac.step (C : List LIns) (R : List LRow) (ins : List Int) (m : PMac) : PMac :=
  let i := C.getD m.pc .zero
  let r := R.getD m.pc .zero
  let st := movesP m.sto r.before
  let a := getP st r.a
  let b := getP st r.b
  let nx := nxI i m.pc a
  { pc := nx.toNat
    sto := movesP (if givesB i.op then putP st r.dest (gvI i a b (inOf ins m.taken)) else st) r.after
    taken := if i.op = 3 ∧ m.taken < ins.length then m.taken + 1 else m.taken
    out := if i.op = 4 then m.out ++ [a % 4294967296] else m.out
    state := stI i C.length nx
    steps := m.steps + 1 }

/-- At most so many steps more. -/
def PMac.go (C : List LIns) (R : List LRow) (ins : List Int) : Nat → PMac → PMac
  | 0, m => m
  | k + 1, m => if m.state = 0 then PMac.go C R ins k (m.step C R ins) else m

def playP (C : List LIns) (R : List LRow) (s slots : Nat) (ins : List Int) (n : Nat) : PMac := PMac.go C R ins n (PMac.start s slots)

theorem PMac.go_stop {C : List LIns} {R : List LRow} {ins : List Int} {m : PMac} (h : ¬ m.state = 0) : ∀ k, PMac.go C R ins k m = m
  | 0 => rfl
  | k + 1 => by simp [PMac.go, h]

/-- What is known behind an instruction and its moves. -/
def thruK (ok : LFact → Prop) (i : LIns) (r : LRow) (K : LFact → Prop) : LFact → Prop :=
  movesK ok r.after (if givesB i.op = true then insK ok i r.dest (movesK ok r.before K) else movesK ok r.before K)

/-- What is taken is where it is said to be. -/
def usesK (ok : LFact → Prop) (i : LIns) (r : LRow) (K : LFact → Prop) : Prop :=
  (0 < manyI i.op → movesK ok r.before K ⟨r.a, true, i.a, 0⟩) ∧ (1 < manyI i.op → movesK ok r.before K ⟨r.b, true, i.b, 0⟩)

/-- Sets of facts that go on as they must; come: a way leads there. -/
structure GoodK (B : List Bool) (C : List LIns) (s slots : Int) (R : List LRow) (num : Int → Prop) (come : Nat → Prop) (K : Nat → LFact → Prop) : Prop where
  c0 : come 0
  ok : ∀ k f, K k f → FactOk B s slots num f
  beg : ∀ f, K 0 f → f.n = 0
  next : ∀ k x, come k → k < C.length → x ∈ nextsN (C.getD k .zero) k → x < C.length → come x ∧ ∀ f, K x f → thruK (FactOk B s slots num) (C.getD k .zero) (R.getD k .zero) (K k) f

theorem gv_same {i : LIns} {a b a' b' x : Int} (hg : givesB i.op = true) (hk : knownB i.op = true) (ha : 0 < manyI i.op → a = a') (hb : 1 < manyI i.op → b = b') : gvI i a b x = gvI i a' b' x := by
  unfold gvI
  split
  · rfl
  split
  · rename_i h1 h2
    exact ha (by unfold manyI; rw [if_neg (by omega), if_pos (by omega)]; omega)
  split
  · rfl
  split
  · rename_i h1 h2 h3 h5
    rw [ha (by unfold manyI; rw [if_neg (by omega), if_neg (by omega)]; omega), hb (by unfold manyI; rw [if_neg (by omega), if_neg (by omega)]; omega)]
  split
  · rename_i h1 h2 h3 h5 h6
    rw [ha (by unfold manyI; rw [if_neg (by omega), if_pos (by omega)]; omega)]
  split
  · rename_i h1 h2 h3 h5 h6 h7
    rw [ha (by unfold manyI; rw [if_neg (by omega), if_pos (by omega)]; omega)]
  · rename_i h1 h2 h3 h5 h6 h7
    unfold knownB at hk
    unfold givesB at hg
    simp at hk hg
    rw [ha (by unfold manyI; rw [if_neg (by omega), if_neg (by omega)]; omega), hb (by unfold manyI; rw [if_neg (by omega), if_neg (by omega)]; omega)]

theorem nx_same {i : LIns} {pc : Nat} {a a' : Int} (ha : 0 < manyI i.op → a = a') : nxI i pc a = nxI i pc a' := by
  unfold nxI
  by_cases h9 : i.op = 9
  · rw [ha (by unfold manyI; rw [if_neg (by omega), if_pos (by omega)]; omega)]
  · by_cases h8 : i.op = 8
    · rw [if_pos (Or.inl h8), if_pos (Or.inl h8)]
    · rw [if_neg (by omega), if_neg (by omega)]

theorem nx_next {i : LIns} {nC pc : Nat} {a : Int} (h : stI i nC (nxI i pc a) = 0) : (nxI i pc a).toNat ∈ nextsN i pc ∧ nxI i pc a < nC := by
  unfold stI at h
  split at h
  · omega
  rename_i h10
  split at h
  · omega
  refine ⟨?_, by omega⟩
  unfold nextsN nextsI nxI
  by_cases h8 : i.op = 8
  · rw [if_pos (Or.inl h8), if_pos h8]; simp
  · by_cases h9 : i.op = 9
    · rw [if_neg h8, if_neg h10, if_pos h9]
      split <;> simp
    · rw [if_neg h8, if_neg h10, if_neg h9, if_neg (by omega)]; simp

theorem reg_is {B : List Bool} {s slots t : Int} {p : LPlace} (h : regB B s t p = true) : isB s slots p = true ∧ (p.kind = 1 ∨ p.kind = 2) ∧ (p.kind = 1 → B.getD t.toNat false = false) := by
  unfold regB at h
  rw [Bool.and_eq_true] at h
  obtain ⟨h1, h2⟩ := h
  have hk : p.kind = 1 ∨ p.kind = 2 := by cases hB : B.getD t.toNat false <;> rw [hB] at h1 <;> simp at h1 <;> omega
  refine ⟨?_, hk, fun e => ?_⟩
  · unfold isB at h2 ⊢
    rcases hk with e | e
    · rw [if_pos e] at h2 ⊢; exact h2
    · rw [if_neg (by omega), if_pos e] at h2 ⊢; exact h2
  · cases hB : B.getD t.toNat false with
    | false => rfl
    | true => rw [hB] at h1; simp at h1; omega

/-- Both machines are at one. -/
structure Sim (B : List Bool) (s slots : Int) (come : Nat → Prop) (K : Nat → LFact → Prop) (m : Mac) (p : PMac) : Prop where
  pc : p.pc = m.pc
  taken : p.taken = m.taken
  out : p.out = m.out
  state : p.state = m.state
  steps : p.steps = m.steps
  sto : StoAt s slots p.sto
  hold : m.state = 0 → come m.pc ∧ AllHold m.temps p.sto (K m.pc)

theorem sim_step {B : List Bool} {C : List LIns} {s slots : Int} {R : List LRow} {num : Int → Prop} (hnum : ∀ x, num x → 0 ≤ x ∧ x < 4294967296) {come : Nat → Prop} {K : Nat → LFact → Prop} {ins : List Int} {m : Mac} {p : PMac}
    (hG : GoodK B C s slots R num come K) (hU : ∀ k, come k → k < C.length → usesK (FactOk B s slots num) (C.getD k .zero) (R.getD k .zero) (K k))
    (hI : ∀ k, k < C.length → insB B C.length (C.getD k .zero) = true ∧ InsOk B.length C.length (C.getD k .zero)) (hR : ∀ k, k < C.length → rowB B s slots (C.getD k .zero) (R.getD k .zero) = true)
    (hRn : ∀ k, k < C.length → ∀ x, x ∈ (R.getD k .zero).before ∨ x ∈ (R.getD k .zero).after → 0 ≤ x.n ∧ x.n < 4294967296)
    (hin : ∀ j, j < ins.length → 0 ≤ ins.getD j 0 ∧ ins.getD j 0 < 4294967296) (hm : MOk B.length C.length ins.length m) (hw : WOk B m.temps) (h0 : m.state = 0) (h : Sim B s slots come K m p) : Sim B s slots come K (m.step C ins) (p.step C R ins) := by
  have hpc := hm.pcok h0
  obtain ⟨hcome, hold⟩ := h.hold h0
  obtain ⟨hib, hio⟩ := hI m.pc hpc
  have hrow := hR m.pc hpc
  have hrn := hRn m.pc hpc
  have hus := hU m.pc hcome hpc
  have hnx := hG.next m.pc
  have hKok := hG.ok m.pc
  unfold Mac.step PMac.step
  rw [h.pc, h.taken, h.out, h.steps]
  obtain ⟨i, hi⟩ : ∃ i, i = C.getD m.pc .zero := ⟨_, rfl⟩
  obtain ⟨r, hr⟩ : ∃ r, r = R.getD m.pc .zero := ⟨_, rfl⟩
  rw [← hi] at hib hio hrow hus hnx
  rw [← hr] at hrow hrn hus hnx
  rw [← hi, ← hr]
  unfold rowB at hrow
  simp only [Bool.and_eq_true] at hrow
  obtain ⟨⟨⟨⟨⟨rd, ra⟩, rb⟩, rbef⟩, raft⟩, _⟩ := hrow
  unfold movesB at rbef raft
  simp only [Bool.and_eq_true, List.all_eq_true] at rbef raft
  obtain ⟨st1, hst1⟩ : ∃ st1, st1 = movesP p.sto r.before := ⟨_, rfl⟩
  obtain ⟨hs1, hold1⟩ := moves_sound (B := B) (num := num) hnum hw hm.bd r.before p.sto (K m.pc) (fun x hx => ⟨rbef.2 x hx, hrn x (Or.inl hx)⟩) h.sto hold
  rw [← hst1] at hs1 hold1
  have hKb : ∀ f, movesK (FactOk B s slots num) r.before (K m.pc) f → FactOk B s slots num f := by
    have : ∀ (l : List LMove) (K : LFact → Prop), (∀ f, K f → FactOk B s slots num f) → ∀ f, movesK (FactOk B s slots num) l K f → FactOk B s slots num f := by
      intro l
      induction l with
      | nil => exact fun K h => h
      | cons x l ih => exact fun K h => ih _ (fun f hf => hf.1)
    exact this _ _ hKok
  have hA : 0 < manyI i.op → getP st1 r.a = m.temps.getD i.a.toNat 0 := fun hp => by
    have := hold1 _ (hus.1 hp)
    unfold fieldP at ra
    rw [if_pos (by simpa using hp)] at ra
    have hk := (reg_is (slots := slots) ra).2.1
    unfold Holds at this
    simp only at this
    rw [if_neg (by omega), if_pos trivial] at this
    exact this
  have hB : 1 < manyI i.op → getP st1 r.b = m.temps.getD i.b.toNat 0 := fun hp => by
    have := hold1 _ (hus.2 hp)
    unfold fieldP at rb
    rw [if_pos (by simpa using hp)] at rb
    have hk := (reg_is (slots := slots) rb).2.1
    unfold Holds at this
    simp only at this
    rw [if_neg (by omega), if_pos trivial] at this
    exact this
  have hkn : knownB i.op = true := by
    unfold insB at hib
    simp only [Bool.and_eq_true] at hib
    exact hib.1.1.1.1.1.1
  have hnxe : nxI i m.pc (getP st1 r.a) = nxI i m.pc (m.temps.getD i.a.toNat 0) := nx_same hA
  have hx := inOf_bd hin m.taken
  simp only
  rw [← hst1, hnxe]
  have hgve : givesB i.op = true → gvI i (getP st1 r.a) (getP st1 r.b) (inOf ins m.taken) = gvI i (m.temps.getD i.a.toNat 0) (m.temps.getD i.b.toNat 0) (inOf ins m.taken) := fun hg => gv_same hg hkn hA hB
  have hvb : U64i (gvI i (m.temps.getD i.a.toNat 0) (m.temps.getD i.b.toNat 0) (inOf ins m.taken)) := gvI_bd _ _ _ _ (hm.bd _) (hm.bd _) hx.1 hx.2 hio.n0 hio.n1
  -- behind the instruction
  have hmid : StoAt s slots (if givesB i.op = true then putP st1 r.dest (gvI i (getP st1 r.a) (getP st1 r.b) (inOf ins m.taken)) else st1) ∧
      AllHold (if givesB i.op = true then m.temps.set i.dest.toNat (gvI i (m.temps.getD i.a.toNat 0) (m.temps.getD i.b.toNat 0) (inOf ins m.taken)) else m.temps) (if givesB i.op = true then putP st1 r.dest (gvI i (getP st1 r.a) (getP st1 r.b) (inOf ins m.taken)) else st1)
        (if givesB i.op = true then insK (FactOk B s slots num) i r.dest (movesK (FactOk B s slots num) r.before (K m.pc)) else movesK (FactOk B s slots num) r.before (K m.pc)) := by
    cases hg : givesB i.op with
    | false => simp only [Bool.false_eq_true, if_false]; exact ⟨hs1, hold1⟩
    | true =>
      simp only [if_true]
      rw [hgve hg]
      unfold fieldP at rd
      rw [if_pos hg] at rd
      obtain ⟨r1, r2, r3⟩ := reg_is (slots := slots) rd
      obtain ⟨d0, d1⟩ := hio.d hg
      refine ⟨sto_at_put hs1 hvb, ins_sound hm.len d0 d1 r1 r2 (fun e => wok_give hib hio hw hm.bd hx.1 hx.2 hg (r3 e)) hvb hs1 ?_ ?_ (fun _ => hio.a0) hKb hold1⟩
      · intro e; unfold gvI; rw [if_pos e]
      · intro e; unfold gvI; rw [if_neg (by omega), if_pos e]
  have hw2 : WOk B (m.step C ins).temps := wok_step (by rw [← hi]; exact hib) (by rw [← hi]; exact hio) hw hm hin
  have hm2 : MOk B.length C.length ins.length (m.step C ins) := mok_step hm h0 (by rw [← hi]; exact hio) hin
  have e2 : (m.step C ins).temps = (if givesB i.op = true then m.temps.set i.dest.toNat (gvI i (m.temps.getD i.a.toNat 0) (m.temps.getD i.b.toNat 0) (inOf ins m.taken)) else m.temps) := by unfold Mac.step; rw [hi]
  have hb2 := hm2.bd
  rw [e2] at hw2 hb2
  obtain ⟨hs3, hold3⟩ := moves_sound (B := B) (num := num) hnum hw2 hb2 r.after _ _ (fun x hx => ⟨raft.2 x hx, hrn x (Or.inr hx)⟩) hmid.1 hmid.2
  refine ⟨rfl, rfl, ?_, rfl, rfl, hs3, fun hst => ?_⟩
  · by_cases h4 : i.op = 4
    · rw [if_pos h4, if_pos h4, hA (by unfold manyI; rw [if_neg (by omega), if_pos (by omega)]; omega)]
    · rw [if_neg h4, if_neg h4]
  · simp only at hst ⊢
    obtain ⟨n1, n2⟩ := nx_next hst
    have hpos : 0 ≤ nxI i m.pc (m.temps.getD i.a.toNat 0) := by
      unfold nxI
      split
      · rename_i h8
        exact (hio.c (by omega)).1
      · omega
    obtain ⟨q1, q2⟩ := hnx _ hcome hpc n1 (by omega)
    refine ⟨q1, fun f hf => ?_⟩
    exact hold3 f (q2 f hf)

theorem sim_go {B : List Bool} {C : List LIns} {s slots : Int} {R : List LRow} {num : Int → Prop} (hnum : ∀ x, num x → 0 ≤ x ∧ x < 4294967296) {come : Nat → Prop} {K : Nat → LFact → Prop} {ins : List Int}
    (hG : GoodK B C s slots R num come K) (hU : ∀ k, come k → k < C.length → usesK (FactOk B s slots num) (C.getD k .zero) (R.getD k .zero) (K k))
    (hI : ∀ k, k < C.length → insB B C.length (C.getD k .zero) = true ∧ InsOk B.length C.length (C.getD k .zero)) (hR : ∀ k, k < C.length → rowB B s slots (C.getD k .zero) (R.getD k .zero) = true)
    (hRn : ∀ k, k < C.length → ∀ x, x ∈ (R.getD k .zero).before ∨ x ∈ (R.getD k .zero).after → 0 ≤ x.n ∧ x.n < 4294967296)
    (hin : ∀ j, j < ins.length → 0 ≤ ins.getD j 0 ∧ ins.getD j 0 < 4294967296) : ∀ (n : Nat) (m : Mac) (p : PMac), MOk B.length C.length ins.length m → WOk B m.temps → Sim B s slots come K m p → Sim B s slots come K (Mac.go C ins n m) (PMac.go C R ins n p) := by
  intro n
  induction n with
  | zero => exact fun m p _ _ h => h
  | succ n ih =>
    intro m p hm hw h
    unfold Mac.go PMac.go
    by_cases h0 : m.state = 0
    · rw [if_pos h0, if_pos (by rw [h.state]; exact h0)]
      have hpc := hm.pcok h0
      exact ih _ _ (mok_step hm h0 (hI m.pc hpc).2 hin) (wok_step (hI m.pc hpc).1 (hI m.pc hpc).2 hw hm hin) (sim_step hnum hG hU hI hR hRn hin hm hw h0 h)
    · rw [if_neg h0, if_neg (by rw [h.state]; exact h0)]
      exact h

theorem getD_rep (n j : Nat) : (List.replicate n (0 : Int)).getD j 0 = 0 := by
  by_cases h : j < n <;> simp [List.getD, h]

theorem sto_start {s slots : Nat} (hs : s ≤ 16) (he : s % 2 = 0) (hl : slots ≤ 12) : StoAt s slots (PMac.start s slots).sto := by
  refine ⟨⟨fun j => ?_, fun j => ?_, by simp [PMac.start]; omega, by simp [PMac.start]; omega, by simp [PMac.start]; omega⟩, by simp [PMac.start], by simp [PMac.start]⟩
  · unfold PMac.start; simp only; rw [getD_rep]; omega
  · unfold PMac.start; simp only; rw [getD_rep]; exact ⟨by omega, by omega⟩

theorem get_start (s slots : Nat) (q : LPlace) : getP (PMac.start s slots).sto q = 0 := by
  unfold getP PMac.start
  simp only
  rw [getD_rep, getD_rep, getD_rep, getD_rep]
  split
  · rfl
  split
  · rfl
  split <;> rfl

theorem target_of {s : Int} (h : targetB s = true) : 4 ≤ s ∧ s ≤ 16 ∧ s % 2 = 0 := by
  unfold targetB at h
  simp at h
  omega

/-- What is taken does what the program does. -/
theorem sim_play {B : List Bool} {C : List LIns} {s slots : Nat} {R : List LRow} {num : Int → Prop} (hnum : ∀ x, num x → 0 ≤ x ∧ x < 4294967296) {come : Nat → Prop} {K : Nat → LFact → Prop} {ins : List Int}
    (hmay : placeMayB B C s slots R = true) (hn : ∀ i, i < C.length → 0 ≤ (C.getD i .zero).n ∧ (C.getD i .zero).n < 4294967296)
    (hG : GoodK B C s slots R num come K) (hU : ∀ k, come k → k < C.length → usesK (FactOk B s slots num) (C.getD k .zero) (R.getD k .zero) (K k))
    (hRn : ∀ k, k < C.length → ∀ x, x ∈ (R.getD k .zero).before ∨ x ∈ (R.getD k .zero).after → 0 ≤ x.n ∧ x.n < 4294967296)
    (hin : ∀ j, j < ins.length → 0 ≤ ins.getD j 0 ∧ ins.getD j 0 < 4294967296) (n : Nat) :
    (playP C R s slots ins n).out = (playM B C ins n).out ∧ (playP C R s slots ins n).state = (playM B C ins n).state ∧ (playP C R s slots ins n).steps = (playM B C ins n).steps := by
  unfold placeMayB at hmay
  simp only [Bool.and_eq_true, Bool.not_eq_true', decide_eq_true_eq, decide_eq_false_iff_not, List.all_eq_true, List.mem_range] at hmay
  obtain ⟨⟨⟨⟨⟨h1, h2⟩, h3⟩, h4⟩, h5⟩, h6⟩ := hmay
  have hs := target_of h2
  have hsz : sizesB B C = true := by unfold refMayB at h1; simp only [Bool.and_eq_true] at h1; exact h1.1
  obtain ⟨s1, s2, s3, s4⟩ := sizes_of hsz
  have hok := all_insOk h1 hn
  have hib : ∀ k, k < C.length → insB B C.length (C.getD k .zero) = true := fun k hk => by
    unfold refMayB at h1
    simp only [Bool.and_eq_true] at h1
    exact List.all_eq_true.1 h1.2 (C.getD k .zero) (by simp [List.getD, hk])
  have h0 : Sim B s slots come K (Mac.start B.length) (PMac.start s slots) := by
    refine ⟨rfl, rfl, rfl, rfl, rfl, sto_start (by omega) (by omega) (by omega), fun _ => ⟨hG.c0, fun f hf => ?_⟩⟩
    have hz := hG.beg f hf
    have ht : (Mac.start B.length).temps.getD f.t.toNat 0 = 0 := getD_rep _ _
    unfold Holds
    rw [ht, get_start, hz]
    split
    · rfl
    split <;> rfl
  have := sim_go hnum hG hU (fun k hk => ⟨hib k hk, hok k hk⟩) h6 hRn hin n _ _ (mok_start _ _ _ s3) (wok_start B) h0
  exact ⟨this.out, this.state, this.steps⟩

end Go.Proofs.Ytolhnlbgohobkaa.form
