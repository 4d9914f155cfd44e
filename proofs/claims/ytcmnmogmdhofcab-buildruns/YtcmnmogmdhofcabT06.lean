/- A machine in its places, on plain numbers; where what is taken is where it is said to be, it shows what the program shows. -/
import Derived.Test.YtcmnmogmdhofcabT05

namespace Go.Proofs.Ytcmnmogmdhofcab.form
open Go.RowKit Go.Proofs.Ytcmnmogmdhofcab.num
set_option linter.unusedVariables false

/-- A machine in its places: where it is, its store, how many ins are taken, what came out, its state, its steps. -/
structure PMac where
  pc : Nat
  sto : Sto
  taken : Nat
  out : List Int
  state : Int
  steps : Nat

def PMac.start (s slots : Nat) : PMac := ⟨0, ⟨List.replicate s 0, List.replicate slots 0⟩, 0, [], 0, 0⟩

def PMac.step (C : List LIns) (R : List LRow) (ins : List Int) (m : PMac) : PMac :=
  let i := C.getD m.pc .zero
  let r := R.getD m.pc .zero
  let st := movesP m.sto r.before
  let a := getP st r.a
  let b := getP st r.b
  let nx := nxI i m.pc a
  { pc := nx.toNat
    sto := movesP (if givesB i.op then putP st r.dest (gvI i a b (inOf ins m.taken)) else st) r.after
    taken := if i.op = 3 ∧ m.taken < ins.length then m.taken + 1 else m.taken
    out := if i.op = 4 then m.out ++ [a % 4294967296] else m.out
    state := stI i C.length nx
    steps := m.steps + 1 }

/-- At most so many steps more. -/
def PMac.go (C : List LIns) (R : List LRow) (ins : List Int) : Nat → PMac → PMac
  | 0, m => m
  | k + 1, m => if m.state = 0 then PMac.go C R ins k (m.step C R ins) else m

def playP (C : List LIns) (R : List LRow) (s slots : Nat) (ins : List Int) (n : Nat) : PMac := PMac.go C R ins n (PMac.start s slots)

theorem PMac.go_stop {C : List LIns} {R : List LRow} {ins : List Int} {m : PMac} (h : ¬ m.state = 0) : ∀ k, PMac.go C R ins k m = m
  | 0 => rfl
  | k + 1 => by simp [PMac.go, h]

/-- What is known behind an instruction and its moves. -/
def thruK (ok : LFact → Prop) (i : LIns) (r : LRow) (K : LFact → Prop) : LFact → Prop :=
  movesK ok r.after (if givesB i.op = true then insK ok i r.dest (movesK ok r.before K) else movesK ok r.before K)

/-- What is taken is where it is said to be. -/
def usesK (ok : LFact → Prop) (i : LIns) (r : LRow) (K : LFact → Prop) : Prop :=
  (0 < manyI i.op → movesK ok r.before K ⟨r.a, true, i.a, 0⟩) ∧ (1 < manyI i.op → movesK ok r.before K ⟨r.b, true, i.b, 0⟩)

/-- Sets of facts that go on as they must; come: a way leads there. -/
structure GoodK (B : List Bool) (C : List LIns) (s slots : Int) (R : List LRow) (num : Int → Prop) (come : Nat → Prop) (K : Nat → LFact → Prop) : Prop where
  c0 : come 0
  ok : ∀ k f, K k f → FactOk B s slots num f
  beg : ∀ f, K 0 f → f.n = 0
  next : ∀ k x, come k → k < C.length → x ∈ nextsN (C.getD k .zero) k → x < C.length → come x ∧ ∀ f, K x f → thruK (FactOk B s slots num) (C.getD k .zero) (R.getD k .zero) (K k) f

theorem gv_same {i : LIns} {a b a' b' x : Int} (hg : givesB i.op = true) (hk : knownB i.op = true) (ha : 0 < manyI i.op → a = a') (hb : 1 < manyI i.op → b = b') : gvI i a b x = gvI i a' b' x := by
  unfold gvI
  split
  · rfl
  split
  · rename_i h1 h2
    exact ha (by unfold manyI; rw [if_neg (by omega), if_pos (by omega)]; omega)
  split
  · rfl
  split
  · rename_i h1 h2 h3 h5
    rw [ha (by unfold manyI; rw [if_neg (by omega), if_neg (by omega)]; omega), hb (by unfold manyI; rw [if_neg (by omega), if_neg (by omega)]; omega)]
  split
  · rename_i h1 h2 h3 h5 h6
    rw [ha (by unfold manyI; rw [if_neg (by omega), if_pos (by omega)]; omega)]
  split
  · rename_i h1 h2 h3 h5 h6 h7
    rw [ha (by unfold manyI; rw [if_neg (by omega), if_pos (by omega)]; omega)]
  · rename_i h1 h2 h3 h5 h6 h7
    unfold knownB at hk
    unfold givesB at hg
    simp at hk hg
    rw [ha (by unfold manyI; rw [if_neg (by omega), if_neg (by omega)]; omega), hb (by unfold manyI; rw [if_neg (by omega), if_neg (by omega)]; omega)]

theorem nx_same {i : LIns} {pc : Nat} {a a' : Int} (ha : 0 < manyI i.op → a = a') : nxI i pc a = nxI i pc a' := by
  unfold nxI
  by_cases h9 : i.op = 9
  · rw [ha (by unfold manyI; rw [if_neg (by omega), if_pos (by omega)]; omega)]
  · by_cases h8 : i.op = 8
    · rw [if_pos (Or.inl h8), if_pos (Or.inl h8)]
    · rw [if_neg (by omega), if_neg (by omega)]

theorem nx_next {i : LIns} {nC pc : Nat} {a : Int} (h : stI i nC (nxI i pc a) = 0) : (nxI i pc a).toNat ∈ nextsN i pc ∧ nxI i pc a < nC := by
  unfold stI at h
  split at h
  · omega
  rename_i h10
  split at h
  · omega
  refine ⟨?_, by omega⟩
  unfold nextsN nextsI nxI
  by_cases h8 : i.op = 8
  · rw [if_pos (Or.inl h8), if_pos h8]; simp
  · by_cases h9 : i.op = 9
    · rw [if_neg h8, if_neg h10, if_pos h9]
      split <;> simp
    · rw [if_neg h8, if_neg h10, if_neg h9, if_neg (by omega)]; simp

theorem reg_is {B : List Bool} {s slots t : Int} {p : LPlace} (h : regB B s t p = true) : isB s slots p = true ∧ (p.kind = 1 ∨ p.kind = 2) ∧ (p.kind = 1 → B.getD t.toNat false = false) := by
  unfold regB at h
  rw [Bool.and_eq_true] at h
  obtain ⟨h1, h2⟩ := h
  have hk : p.kind = 1 ∨ p.kind = 2 := by cases hB : B.getD t.toNat false <;> rw [hB] at h1 <;> simp at h1 <;> omega
  refine ⟨?_, hk, fun e => ?_⟩
  · unfold isB at h2 ⊢
    rcases hk with e | e
    · rw [if_pos e] at h2 ⊢; exact h2
    · rw [if_neg (by omega), if_pos e] at h2 ⊢; exact h2
  · cases hB : B.getD t.toNat false with
    | false => rfl
    | true => rw [hB] at h1; simp at h1; omega

/-- Both machines are at one. -/
structure Sim (B : List Bool) (s slots : Int) (come : Nat → Prop) (K : Nat → LFact → Prop) (m : Mac) (p : PMac) : Prop where
  pc : p.pc = m.pc
  taken : p.taken = m.taken
  out : p.out = m.out
  state : p.state = m.state
  steps : p.steps = m.steps
  sto : StoAt s slots p.sto
  hold : m.state = 0 → come m.pc ∧ AllHold m.temps p.sto (K m.pc)

theorem sim_step {B : List Bool} {C : List LIns} {s slots : Int} {R : List LRow} {num : Int → Prop} (hnum : ∀ x, num x → 0 ≤ x ∧ x < 4294967296) {come : Nat → Prop} {K : Nat → LFact → Prop} {ins : List Int} {m : Mac} {p : PMac}
    (hG : GoodK B C s slots R num come K) (hU : ∀ k, come k → k < C.length → usesK (FactOk B s slots num) (C.getD k .zero) (R.getD k .zero) (K k))
    (hI : ∀ k, k < C.length → insB B C.length (C.getD k .zero) = true ∧ InsOk B.length C.length (C.getD k .zero)) (hR : ∀ k, k < C.length → rowB B s slots (C.getD k .zero) (R.getD k .zero) = true)
    (hRn : ∀ k, k < C.length → ∀ x, x ∈ (R.getD k .zero).before ∨ x ∈ (R.getD k .zero).after → 0 ≤ x.n ∧ x.n < 4294967296)
    (hin : ∀ j, j < ins.length → 0 ≤ ins.getD j 0 ∧ ins.getD j 0 < 4294967296) (hm : MOk B.length C.length ins.length m) (hw : WOk B m.temps) (h0 : m.state = 0) (h : Sim B s slots come K m p) : Sim B s slots come K (m.step C ins) (p.step C R ins) := by
  have hpc := hm.pcok h0
  obtain ⟨hcome, hold⟩ := h.hold h0
  obtain ⟨hib, hio⟩ := hI m.pc hpc
  have hrow := hR m.pc hpc
  have hrn := hRn m.pc hpc
  have hus := hU m.pc hcome hpc
  have hnx := hG.next m.pc
  have hKok := hG.ok m.pc
  unfold Mac.step PMac.step
  rw [h.pc, h.taken, h.out, h.steps]
  obtain ⟨i, hi⟩ : ∃ i, i = C.getD m.pc .zero := ⟨_, rfl⟩
  obtain ⟨r, hr⟩ : ∃ r, r = R.getD m.pc .zero := ⟨_, rfl⟩
  rw [← hi] at hib hio hrow hus hnx
  rw [← hr] at hrow hrn hus hnx
  rw [← hi, ← hr]
  unfold rowB at hrow
  simp only [Bool.and_eq_true] at hrow
  obtain ⟨⟨⟨⟨⟨rd, ra⟩, rb⟩, rbef⟩, raft⟩, _⟩ := hrow
  unfold movesB at rbef raft
  simp only [Bool.and_eq_true, List.all_eq_true] at rbef raft
  obtain ⟨st1, hst1⟩ : ∃ st1, st1 = movesP p.sto r.before := ⟨_, rfl⟩
  obtain ⟨hs1, hold1⟩ := moves_sound (B := B) (num := num) hnum hw hm.bd r.before p.sto (K m.pc) (fun x hx => ⟨rbef.2 x hx, hrn x (Or.inl hx)⟩) h.sto hold
  rw [← hst1] at hs1 hold1
  have hKb : ∀ f, movesK (FactOk B s slots num) r.before (K m.pc) f → FactOk B s slots num f := by
    have : ∀ (l : List LMove) (K : LFact → Prop), (∀ f, K f → FactOk B s slots num f) → ∀ f, movesK (FactOk B s slots num) l K f → FactOk B s slots num f := by
      intro l
      induction l with
      | nil => exact fun K h => h
      | cons x l ih => exact fun K h => ih _ (fun f hf => hf.1)
    exact this _ _ hKok
  have hA : 0 < manyI i.op → getP st1 r.a = m.temps.getD i.a.toNat 0 := fun hp => by
    have := hold1 _ (hus.1 hp)
    unfold fieldP at ra
    rw [if_pos (by simpa using hp)] at ra
    have hk := (reg_is (slots := slots) ra).2.1
    unfold Holds at this
    simp only at this
    rw [if_neg (by omega), if_pos trivial] at this
    exact this
  have hB : 1 < manyI i.op → getP st1 r.b = m.temps.getD i.b.toNat 0 := fun hp => by
    have := hold1 _ (hus.2 hp)
    unfold fieldP at rb
    rw [if_pos (by simpa using hp)] at rb
    have hk := (reg_is (slots := slots) rb).2.1
    unfold Holds at this
    simp only at this
    rw [if_neg (by omega), if_pos trivial] at this
    exact this
  have hkn : knownB i.op = true := by
    unfold insB at hib
    simp only [Bool.and_eq_true] at hib
    exact hib.1.1.1.1.1.1
  have hnxe : nxI i m.pc (getP st1 r.a) = nxI i m.pc (m.temps.getD i.a.toNat 0) := nx_same hA
  have hx := inOf_bd hin m.taken
  simp only
  rw [← hst1, hnxe]
  have hgve : givesB i.op = true → gvI i (getP st1 r.a) (getP st1 r.b) (inOf ins m.taken) = gvI i (m.temps.getD i.a.toNat 0) (m.temps.getD i.b.toNat 0) (inOf ins m.taken) := fun hg => gv_same hg hkn hA hB
  have hvb : U64i (gvI i (m.temps.getD i.a.toNat 0) (m.temps.getD i.b.toNat 0) (inOf ins m.taken)) := gvI_bd _ _ _ _ (hm.bd _) (hm.bd _) hx.1 hx.2 hio.n0 hio.n1
  -- behind the instruction
  have hmid : StoAt s slots (if givesB i.op = true then putP st1 r.dest (gvI i (getP st1 r.a) (getP st1 r.b) (inOf ins m.taken)) else st1) ∧
      AllHold (if givesB i.op = true then m.temps.set i.dest.toNat (gvI i (m.temps.getD i.a.toNat 0) (m.temps.getD i.b.toNat 0) (inOf ins m.taken)) else m.temps) (if givesB i.op = true then putP st1 r.dest (gvI i (getP st1 r.a) (getP st1 r.b) (inOf ins m.taken)) else st1)
        (if givesB i.op = true then insK (FactOk B s slots num) i r.dest (movesK (FactOk B s slots num) r.before (K m.pc)) else movesK (FactOk B s slots num) r.before (K m.pc)) := by
    cases hg : givesB i.op with
    | false => simp only [Bool.false_eq_true, if_false]; exact ⟨hs1, hold1⟩
    | true =>
      simp only [if_true]
      rw [hgve hg]
      unfold fieldP at rd
      rw [if_pos hg] at rd
      obtain ⟨r1, r2, r3⟩ := reg_is (slots := slots) rd
      obtain ⟨d0, d1⟩ := hio.d hg
      refine ⟨sto_at_put hs1 hvb, ins_sound hm.len d0 d1 r1 r2 (fun e => wok_give hib hio hw hm.bd hx.1 hx.2 hg (r3 e)) hvb hs1 ?_ ?_ (fun _ => hio.a0) hKb hold1⟩
      · intro e; unfold gvI; rw [if_pos e]
      · intro e; unfold gvI; rw [if_neg (by omega), if_pos e]
  have hw2 : WOk B (m.step C ins).temps := wok_step (by rw [← hi]; exact hib) (by rw [← hi]; exact hio) hw hm hin
  have hm2 : MOk B.length C.length ins.length (m.step C ins) := mok_step hm h0 (by rw [← hi]; exact hio) hin
  have e2 : (m.step C ins).temps = (if givesB i.op = true then m.temps.set i.dest.toNat (gvI i (m.temps.getD i.a.toNat 0) (m.temps.getD i.b.toNat 0) (inOf ins m.taken)) else m.temps) := by unfold Mac.step; rw [hi]
  have hb2 := hm2.bd
  rw [e2] at hw2 hb2
  obtain ⟨hs3, hold3⟩ := moves_sound (B := B) (num := num) hnum hw2 hb2 r.after _ _ (fun x hx => ⟨raft.2 x hx, hrn x (Or.inr hx)⟩) hmid.1 hmid.2
  refine ⟨rfl, rfl, ?_, rfl, rfl, hs3, fun hst => ?_⟩
  · by_cases h4 : i.op = 4
    · rw [if_pos h4, if_pos h4, hA (by unfold manyI; rw [if_neg (by omega), if_pos (by omega)]; omega)]
    · rw [if_neg h4, if_neg h4]
  · simp only at hst ⊢
    obtain ⟨n1, n2⟩ := nx_next hst
    have hpos : 0 ≤ nxI i m.pc (m.temps.getD i.a.toNat 0) := by
      unfold nxI
      split
      · rename_i h8
        exact (hio.c (by omega)).1
      · omega
    obtain ⟨q1, q2⟩ := hnx _ hcome hpc n1 (by omega)
    refine ⟨q1, fun f hf => ?_⟩
    exact hold3 f (q2 f hf)

theorem sim_go {B : List Bool} {C : List LIns} {s slots : Int} {R : List LRow} {num : Int → Prop} (hnum : ∀ x, num x → 0 ≤ x ∧ x < 4294967296) {come : Nat → Prop} {K : Nat → LFact → Prop} {ins : List Int}
    (hG : GoodK B C s slots R num come K) (hU : ∀ k, come k → k < C.length → usesK (FactOk B s slots num) (C.getD k .zero) (R.getD k .zero) (K k))
    (hI : ∀ k, k < C.length → insB B C.length (C.getD k .zero) = true ∧ InsOk B.length C.length (C.getD k .zero)) (hR : ∀ k, k < C.length → rowB B s slots (C.getD k .zero) (R.getD k .zero) = true)
    (hRn : ∀ k, k < C.length → ∀ x, x ∈ (R.getD k .zero).before ∨ x ∈ (R.getD k .zero).after → 0 ≤ x.n ∧ x.n < 4294967296)
    (hin : ∀ j, j < ins.length → 0 ≤ ins.getD j 0 ∧ ins.getD j 0 < 4294967296) : ∀ (n : Nat) (m : Mac) (p : PMac), MOk B.length C.length ins.length m → WOk B m.temps → Sim B s slots come K m p → Sim B s slots come K (Mac.go C ins n m) (PMac.go C R ins n p) := by
  intro n
  induction n with
  | zero => exact fun m p _ _ h => h
  | succ n ih =>
    intro m p hm hw h
    unfold Mac.go PMac.go
    by_cases h0 : m.state = 0
    · rw [if_pos h0, if_pos (by rw [h.state]; exact h0)]
      have hpc := hm.pcok h0
      exact ih _ _ (mok_step hm h0 (hI m.pc hpc).2 hin) (wok_step (hI m.pc hpc).1 (hI m.pc hpc).2 hw hm hin) (sim_step hnum hG hU hI hR hRn hin hm hw h0 h)
    · rw [if_neg h0, if_neg (by rw [h.state]; exact h0)]
      exact h

theorem getD_rep (n j : Nat) : (List.replicate n (0 : Int)).getD j 0 = 0 := by
  by_cases h : j < n <;> simp [List.getD, h]

theorem sto_start {s slots : Nat} (hs : s ≤ 16) (he : s % 2 = 0) (hl : slots ≤ 12) : StoAt s slots (PMac.start s slots).sto := by
  refine ⟨⟨fun j => ?_, fun j => ?_, by simp [PMac.start]; omega, by simp [PMac.start]; omega, by simp [PMac.start]; omega⟩, by simp [PMac.start], by simp [PMac.start]⟩
  · unfold PMac.start; simp only; rw [getD_rep]; omega
  · unfold PMac.start; simp only; rw [getD_rep]; exact ⟨by omega, by omega⟩

theorem get_start (s slots : Nat) (q : LPlace) : getP (PMac.start s slots).sto q = 0 := by
  unfold getP PMac.start
  simp only
  rw [getD_rep, getD_rep, getD_rep, getD_rep]
  split
  · rfl
  split
  · rfl
  split <;> rfl

theorem target_of {s : Int} (h : targetB s = true) : 4 ≤ s ∧ s ≤ 16 ∧ s % 2 = 0 := by
  unfold targetB at h
  simp at h
  omega

/-- What is taken does what the program does. -/
theorem sim_play {B : List Bool} {C : List LIns} {s slots : Nat} {R : List LRow} {num : Int → Prop} (hnum : ∀ x, num x → 0 ≤ x ∧ x < 4294967296) {come : Nat → Prop} {K : Nat → LFact → Prop} {ins : List Int}
    (hmay : placeMayB B C s slots R = true) (hn : ∀ i, i < C.length → 0 ≤ (C.getD i .zero).n ∧ (C.getD i .zero).n < 4294967296)
    (hG : GoodK B C s slots R num come K) (hU : ∀ k, come k → k < C.length → usesK (FactOk B s slots num) (C.getD k .zero) (R.getD k .zero) (K k))
    (hRn : ∀ k, k < C.length → ∀ x, x ∈ (R.getD k .zero).before ∨ x ∈ (R.getD k .zero).after → 0 ≤ x.n ∧ x.n < 4294967296)
    (hin : ∀ j, j < ins.length → 0 ≤ ins.getD j 0 ∧ ins.getD j 0 < 4294967296) (n : Nat) :
    (playP C R s slots ins n).out = (playM B C ins n).out ∧ (playP C R s slots ins n).state = (playM B C ins n).state ∧ (playP C R s slots ins n).steps = (playM B C ins n).steps := by
  unfold placeMayB at hmay
  simp only [Bool.and_eq_true, Bool.not_eq_true', decide_eq_true_eq, decide_eq_false_iff_not, List.all_eq_true, List.mem_range] at hmay
  obtain ⟨⟨⟨⟨⟨h1, h2⟩, h3⟩, h4⟩, h5⟩, h6⟩ := hmay
  have hs := target_of h2
  have hsz : sizesB B C = true := by unfold refMayB at h1; simp only [Bool.and_eq_true] at h1; exact h1.1
  obtain ⟨s1, s2, s3, s4⟩ := sizes_of hsz
  have hok := all_insOk h1 hn
  have hib : ∀ k, k < C.length → insB B C.length (C.getD k .zero) = true := fun k hk => by
    unfold refMayB at h1
    simp only [Bool.and_eq_true] at h1
    exact List.all_eq_true.1 h1.2 (C.getD k .zero) (by simp [List.getD, hk])
  have h0 : Sim B s slots come K (Mac.start B.length) (PMac.start s slots) := by
    refine ⟨rfl, rfl, rfl, rfl, rfl, sto_start (by omega) (by omega) (by omega), fun _ => ⟨hG.c0, fun f hf => ?_⟩⟩
    have hz := hG.beg f hf
    have ht : (Mac.start B.length).temps.getD f.t.toNat 0 = 0 := getD_rep _ _
    unfold Holds
    rw [ht, get_start, hz]
    split
    · rfl
    split <;> rfl
  have := sim_go hnum hG hU (fun k hk => ⟨hib k hk, hok k hk⟩) h6 hRn hin n _ _ (mok_start _ _ _ s3) (wok_start B) h0
  exact ⟨this.out, this.state, this.steps⟩

end Go.Proofs.Ytcmnmogmdhofcab.form

/- Facts that are known ahead of each instruction: the greatest sets; places that are taken; they do what the program does. On plain numbers. -/
namespace Go.Proofs.Ytcmnmogmdhofcab.form
open Go.RowKit Go.Proofs.Ytcmnmogmdhofcab.num
set_option linter.unusedVariables false

/-- The numbers of the program. -/
def NumP (C : List LIns) (x : Int) : Prop := x = 0 ∨ ∃ k, k < C.length ∧ (C.getD k .zero).op = 1 ∧ (C.getD k .zero).n = x

/-- A way leads there, in so many steps. -/
def ReachN (C : List LIns) : Nat → Nat → Prop
  | 0, k => k = 0
  | n + 1, k => ∃ j, ReachN C n j ∧ j < C.length ∧ k ∈ nextsN (C.getD j .zero) j ∧ k < C.length
def Reach (C : List LIns) (k : Nat) : Prop := ∃ n, ReachN C n k

theorem reach_start (C : List LIns) : Reach C 0 := ⟨0, rfl⟩
theorem reach_next {C : List LIns} {j k : Nat} (h : Reach C j) (hj : j < C.length) (hk : k ∈ nextsN (C.getD j .zero) j) (hl : k < C.length) : Reach C k := by
  obtain ⟨n, hn⟩ := h
  exact ⟨n + 1, j, hn, hj, hk, hl⟩
/-- The least one. -/
theorem reach_least {C : List LIns} {P : Nat → Prop} (h0 : P 0) (h : ∀ j k, P j → j < C.length → k ∈ nextsN (C.getD j .zero) j → k < C.length → P k) : ∀ k, Reach C k → P k := by
  have : ∀ n k, ReachN C n k → P k := by
    intro n
    induction n with
    | zero => intro k hk; rw [show k = 0 from hk]; exact h0
    | succ n ih =>
      rintro k ⟨j, hj, hl, hk, hkl⟩
      exact h j k (ih j hj) hl hk hkl
  rintro k ⟨n, hn⟩
  exact this n k hn
theorem reach_lt {C : List LIns} (h1 : 1 ≤ C.length) {k : Nat} (h : Reach C k) : k < C.length := by
  refine reach_least (C := C) (P := fun k => k < C.length) h1 (fun _ _ _ _ _ h => h) k h

theorem moveK_mono {ok : LFact → Prop} {m : LMove} {K K' : LFact → Prop} (h : ∀ f, K f → K' f) {f : LFact} (hf : moveK ok m K f) : moveK ok m K' f := by
  refine ⟨hf.1, ?_⟩
  have hf := hf.2
  split at hf
  · rename_i h1; rw [if_pos h1]; exact h _ hf
  · rename_i h1
    rw [if_neg h1]
    refine ⟨hf.1, ?_⟩
    have hf := hf.2
    split at hf
    · rename_i h2; rw [if_pos h2]; exact h _ hf
    · rename_i h2
      rw [if_neg h2]
      split at hf
      · rename_i h3; rw [if_pos h3]; exact h _ hf
      · rename_i h3; rw [if_neg h3]; exact hf
theorem movesK_mono {ok : LFact → Prop} (l : List LMove) : ∀ {K K' : LFact → Prop}, (∀ f, K f → K' f) → ∀ f, movesK ok l K f → movesK ok l K' f := by
  induction l with
  | nil => exact fun h f hf => h f hf
  | cons m l ih => exact fun h f hf => ih (fun f hf => moveK_mono h hf) f hf
theorem insK_mono {ok : LFact → Prop} {i : LIns} {L : LPlace} {K K' : LFact → Prop} (h : ∀ f, K f → K' f) {f : LFact} (hf : insK ok i L K f) : insK ok i L K' f := by
  refine ⟨hf.1, ?_⟩
  have hf := hf.2
  split at hf
  · rename_i h1; rw [if_pos h1]; trivial
  rename_i h1
  rw [if_neg h1]
  split at hf
  · rename_i h2; rw [if_pos h2]; exact h _ hf
  rename_i h2
  rw [if_neg h2]
  split at hf
  · rename_i h3; rw [if_pos h3]; exact h _ hf
  rename_i h3
  rw [if_neg h3]
  split at hf
  · rename_i h4; rw [if_pos h4]; exact h _ hf
  rename_i h4
  rw [if_neg h4]
  split at hf
  · rename_i h5; rw [if_pos h5]; exact hf
  rename_i h5
  rw [if_neg h5]
  split at hf
  · rename_i h6; rw [if_pos h6]; trivial
  rename_i h6
  rw [if_neg h6]
  exact ⟨h _ hf.1, hf.2⟩
theorem thruK_mono {ok : LFact → Prop} {i : LIns} {r : LRow} {K K' : LFact → Prop} (h : ∀ f, K f → K' f) {f : LFact} (hf : thruK ok i r K f) : thruK ok i r K' f := by
  unfold thruK at hf ⊢
  refine movesK_mono _ (fun g hg => ?_) f hf
  split at hg
  · rename_i h1; rw [if_pos h1]; exact insK_mono (movesK_mono _ h) hg
  · rename_i h1; rw [if_neg h1]; exact movesK_mono _ h g hg
theorem usesK_mono {ok : LFact → Prop} {i : LIns} {r : LRow} {K K' : LFact → Prop} (h : ∀ f, K f → K' f) (hu : usesK ok i r K) : usesK ok i r K' :=
  ⟨fun hp => movesK_mono _ h _ (hu.1 hp), fun hp => movesK_mono _ h _ (hu.2 hp)⟩

/-- The greatest sets. -/
def Known (B : List Bool) (C : List LIns) (s slots : Int) (R : List LRow) (k : Nat) (f : LFact) : Prop := ∃ K, GoodK B C s slots R (NumP C) (Reach C) K ∧ K k f

theorem known_good (B : List Bool) (C : List LIns) (s slots : Int) (R : List LRow) : GoodK B C s slots R (NumP C) (Reach C) (Known B C s slots R) := by
  refine ⟨reach_start C, ?_, ?_, ?_⟩
  · rintro k f ⟨K, hK, hf⟩; exact hK.ok k f hf
  · rintro f ⟨K, hK, hf⟩; exact hK.beg f hf
  · intro k x hk hl hx hxl
    refine ⟨reach_next hk hl hx hxl, ?_⟩
    rintro f ⟨K, hK, hf⟩
    exact thruK_mono (fun g hg => ⟨K, hK, hg⟩) ((hK.next k x hk hl hx hxl).2 f hf)

/-- Places that are taken. -/
def TakenP (B : List Bool) (C : List LIns) (s slots : Int) (R : List LRow) : Prop :=
  placeMayB B C s slots R = true ∧ ∀ k, Reach C k → k < C.length → usesK (FactOk B s slots (NumP C)) (C.getD k .zero) (R.getD k .zero) (Known B C s slots R k)

theorem num_bd {C : List LIns} (hn : ∀ i, i < C.length → 0 ≤ (C.getD i .zero).n ∧ (C.getD i .zero).n < 4294967296) : ∀ x, NumP C x → 0 ≤ x ∧ x < 4294967296 := by
  rintro x (rfl | ⟨k, hk, _, rfl⟩)
  · omega
  · exact hn k hk

/-- What is taken does what the program does. -/
theorem taken_same {B : List Bool} {C : List LIns} {s slots : Nat} {R : List LRow} {ins : List Int} (ht : TakenP B C s slots R) (hn : ∀ i, i < C.length → 0 ≤ (C.getD i .zero).n ∧ (C.getD i .zero).n < 4294967296)
    (hRn : ∀ k, k < C.length → ∀ x, x ∈ (R.getD k .zero).before ∨ x ∈ (R.getD k .zero).after → 0 ≤ x.n ∧ x.n < 4294967296)
    (hin : ∀ j, j < ins.length → 0 ≤ ins.getD j 0 ∧ ins.getD j 0 < 4294967296) (n : Nat) :
    (playP C R s slots ins n).out = (playM B C ins n).out ∧ (playP C R s slots ins n).state = (playM B C ins n).state ∧ (playP C R s slots ins n).steps = (playM B C ins n).steps :=
  sim_play (num_bd hn) ht.1 hn (known_good B C s slots R) ht.2 hRn hin n

/-- Sets that were found: within them are the greatest ones, and they go on as they must. -/
theorem found_known {B : List Bool} {C : List LIns} {s slots : Int} {R : List LRow} {S : Nat → LFact → Prop} (hok : ∀ k f, S k f → FactOk B s slots (NumP C) f) (hbeg : ∀ f, S 0 f → f.n = 0)
    (hnext : ∀ k x, Reach C k → k < C.length → x ∈ nextsN (C.getD k .zero) k → x < C.length → ∀ f, S x f → thruK (FactOk B s slots (NumP C)) (C.getD k .zero) (R.getD k .zero) (S k) f)
    (hup : ∀ k f, Reach C k → Known B C s slots R k f → S k f) {k : Nat} (hk : Reach C k) (f : LFact) : S k f ↔ Known B C s slots R k f :=
  ⟨fun h => ⟨S, ⟨reach_start C, hok, hbeg, fun k x hk hl hx hxl => ⟨reach_next hk hl hx hxl, hnext k x hk hl hx hxl⟩⟩, h⟩, hup k f hk⟩

end Go.Proofs.Ytcmnmogmdhofcab.form

/- What Takes must answer, by whatever way. -/
namespace Go.Proofs.Ytcmnmogmdhofcab.form
open Go.RowKit
set_option linter.unusedVariables false

/-- The answer. -/
def TakesAns (B : List Bool) (C : List LIns) (s slots : Int) (R : List LRow) (e : Ending) : Prop := ∃ b, e = .returned (.bool b) ∧ (b = true ↔ TakenP B C s slots R)
theorem takes_one {B : List Bool} {C : List LIns} {s slots : Int} {R : List LRow} {b b' : Bool} (h : b = true ↔ TakenP B C s slots R) (h' : b' = true ↔ TakenP B C s slots R) : b = b' := by
  rw [Bool.eq_iff_iff, h, h']

end Go.Proofs.Ytcmnmogmdhofcab.form
