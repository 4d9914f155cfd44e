/- A machine in its places, on plain numbers; where what is taken is where it is said to be, it shows what the program shows. -/
import Derived.Test.YtcmnmogmdhofcaaB10
import Derived.Test.YtcmnmogmdhofcaaB23
import Derived.Test.YtcmnmogmdhofcaaB14
import Derived.Test.YtcmnmogmdhofcaaB07
import Derived.Test.YtcmnmogmdhofcaaB17

namespace Go.Proofs.Ytcmnmogmdhofcaa.form
open Go.RowKit Go.Proofs.Ytcmnmogmdhofcaa.num
set_option linter.unusedVariables false

/-- A machine in its places: where it is, its store, how many ins are taken, what came out, its state, its steps. -/
structure PMac where
  pc : Nat
  sto : Sto
  taken : Nat
  out : List Int
  state : Int
  steps : Nat

def PMac.start (s slots : Nat) : PMac := ⟨0, ⟨List.replicate s 0, List.replicate slots 0⟩, 0, [], 0, 0⟩

def PMac.step (C : List LIns) (R : List LRow) (ins : List Int) (m : PMac) : PMac :=
  let i := C.getD m.pc .zero
  let r := R.getD m.pc .zero
  let st := movesP m.sto r.before
  let a := getP st r.a
  let b := getP st r.b
  let nx := nxI i m.pc a
  { pc := nx.toNat
    sto := movesP (if givesB i.op then putP st r.dest (gvI i a b (inOf ins m.taken)) else st) r.after
    taken := if i.op = 3 ∧ m.taken < ins.length then m.taken + 1 else m.taken
    out := if i.op = 4 then m.out ++ [a % 4294967296] else m.out
    state := stI i C.length nx
    steps := m.steps + 1 }

/-- At most so many steps more. -/
def PMac.go (C : List LIns) (R : List LRow) (ins : List Int) : Nat → PMac → PMac
  | 0, m => m
  | k + 1, m => if m.state = 0 then PMac.go C R ins k (m.step C R ins) else m

def playP (C : List LIns) (R : List LRow) (s slots : Nat) (ins : List Int) (n : Nat) : PMac := PMac.go C R ins n (PMac.start s slots)

theorem PMac.go_stop {C : List LIns} {R : List LRow} {ins : List Int} {m : PMac} (h : ¬ m.state = 0) : ∀ k, PMac.go C R ins k m = m
  | 0 => rfl
  | k + 1 => by simp [PMac.go, h]

/-- What is known behind an instruction and its moves. -/
def thruK (ok : LFact → Prop) (i : LIns) (r : LRow) (K : LFact → Prop) : LFact → Prop :=
  movesK ok r.after (if givesB i.op = true then insK ok i r.dest (movesK ok r.before K) else movesK ok r.before K)

/-- What is taken is where it is said to be. -/
def usesK (ok : LFact → Prop) (i : LIns) (r : LRow) (K : LFact → Prop) : Prop :=
  (0 < manyI i.op → movesK ok r.before K ⟨r.a, true, i.a, 0⟩) ∧ (1 < manyI i.op → movesK ok r.before K ⟨r.b, true, i.b, 0⟩)

/-- Sets of facts that go on as they must; come: a way leads there. -/
structure GoodK (B : List Bool) (C : List LIns) (s slots : Int) (R : List LRow) (num : Int → Prop) (come : Nat → Prop) (K : Nat → LFact → Prop) : Prop where
  c0 : come 0
  ok : ∀ k f, K k f → FactOk B s slots num f
  beg : ∀ f, K 0 f → f.n = 0
  next : ∀ k x, come k → k < C.length → x ∈ nextsN (C.getD k .zero) k → x < C.length → come x ∧ ∀ f, K x f → thruK (FactOk B s slots num) (C.getD k .zero) (R.getD k .zero) (K k) f

theorem gv_same {i : LIns} {a b a' b' x : Int} (hg : givesB i.op = true) (hk : knownB i.op = true) (ha : 0 < manyI i.op → a = a') (hb : 1 < manyI i.op → b = b') : gvI i a b x = gvI i a' b' x := by
  unfold gvI
  split
  · rfl
  split
  · rename_i h1 h2
    exact ha (by unfold manyI; rw [if_neg (by omega), if_pos (by omega)]; omega)
  split
  · rfl
  split
  · rename_i h1 h2 h3 h5
    rw [ha (by unfold manyI; rw [if_neg (by omega), if_neg (by omega)]; omega), hb (by unfold manyI; rw [if_neg (by omega), if_neg (by omega)]; omega)]
  split
  · rename_i h1 h2 h3 h5 h6
    rw [ha (by unfold manyI; rw [if_neg (by omega), if_pos (by omega)]; omega)]
  split
  · rename_i h1 h2 h3 h5 h6 h7
    rw [ha (by unfold manyI; rw [if_neg (by omega), if_pos (by omega)]; omega)]
  · rename_i h1 h2 h3 h5 h6 h7
    unfold knownB at hk
    unfold givesB at hg
    simp at hk hg
    rw [ha (by unfold manyI; rw [if_neg (by omega), if_neg (by omega)]; omega), hb (by unfold manyI; rw [if_neg (by omega), if_neg (by omega)]; omega)]

theorem nx_same {i : LIns} {pc : Nat} {a a' : Int} (ha : 0 < manyI i.op → a = a') : nxI i pc a = nxI i pc a' := by
  unfold nxI
  by_cases h9 : i.op = 9
  · rw [ha (by unfold manyI; rw [if_neg (by omega), if_pos (by omega)]; omega)]
  · by_cases h8 : i.op = 8
    · rw [if_pos (Or.inl h8), if_pos (Or.inl h8)]
    · rw [if_neg (by omega), if_neg (by omega)]

theorem nx_next {i : LIns} {nC pc : Nat} {a : Int} (h : stI i nC (nxI i pc a) = 0) : (nxI i pc a).toNat ∈ nextsN i pc ∧ nxI i pc a < nC := by
  unfold stI at h
  split at h
  · omega
  rename_i h10
  split at h
  · omega
  refine ⟨?_, by omega⟩
  unfold nextsN nextsI nxI
  by_cases h8 : i.op = 8
  · rw [if_pos (Or.inl h8), if_pos h8]; simp
  · by_cases h9 : i.op = 9
    · rw [if_neg h8, if_neg h10, if_pos h9]
      split <;> simp
    · rw [if_neg h8, if_neg h10, if_neg h9, if_neg (by omega)]; simp

theorem reg_is {B : List Bool} {s slots t : Int} {p : LPlace} (h : regB B s t p = true) : isB s slots p = true ∧ (p.kind = 1 ∨ p.kind = 2) ∧ (p.kind = 1 → B.getD t.toNat false = false) := by
  unfold regB at h
  rw [Bool.and_eq_true] at h
  obtain ⟨h1, h2⟩ := h
  have hk : p.kind = 1 ∨ p.kind = 2 := by cases hB : B.getD t.toNat false <;> rw [hB] at h1 <;> simp at h1 <;> omega
  refine ⟨?_, hk, fun e => ?_⟩
  · unfold isB at h2 ⊢
    rcases hk with e | e
    · rw [if_pos e] at h2 ⊢; exact h2
    · rw [if_neg (by omega), if_pos e] at h2 ⊢; exact h2
  · cases hB : B.getD t.toNat false with
    | false => rfl
    | true => rw [hB] at h1; simp at h1; omega

/-- Both machines are at one. -/
structure Sim (B : List Bool) (s slots : Int) (come : Nat → Prop) (K : Nat → LFact → Prop) (m : Mac) (p : PMac) : Prop where
  pc : p.pc = m.pc
  taken : p.taken = m.taken
  out : p.out = m.out
  state : p.state = m.state
  steps : p.steps = m.steps
  sto : StoAt s slots p.sto
  hold : m.state = 0 → come m.pc ∧ AllHold m.temps p.sto (K m.pc)

theorem sim_step {B : List Bool} {C : List LIns} {s slots : Int} {R : List LRow} {num : Int → Prop} (hnum : ∀ x, num x → 0 ≤ x ∧ x < 4294967296) {come : Nat → Prop} {K : Nat → LFact → Prop} {ins : List Int} {m : Mac} {p : PMac}
    (hG : GoodK B C s slots R num come K) (hU : ∀ k, come k → k < C.length → usesK (FactOk B s slots num) (C.getD k .zero) (R.getD k .zero) (K k))
    (hI : ∀ k, k < C.length → insB B C.length (C.getD k .zero) = true ∧ InsOk B.length C.length (C.getD k .zero)) (hR : ∀ k, k < C.length → rowB B s slots (C.getD k .zero) (R.getD k .zero) = true)
    (hRn : ∀ k, k < C.length → ∀ x, x ∈ (R.getD k .zero).before ∨ x ∈ (R.getD k .zero).after → 0 ≤ x.n ∧ x.n < 4294967296)
    (hin : ∀ j, j < ins.length → 0 ≤ ins.getD j 0 ∧ ins.getD j 0 < 4294967296) (hm : MOk B.length C.length ins.length m) (hw : WOk B m.temps) (h0 : m.state = 0) (h : Sim B s slots come K m p) : Sim B s slots come K (m.step C ins) (p.step C R ins) := by
  have hpc := hm.pcok h0
  obtain ⟨hcome, hold⟩ := h.hold h0
  obtain ⟨hib, hio⟩ := hI m.pc hpc
  have hrow := hR m.pc hpc
  have hrn := hRn m.pc hpc
  have hus := hU m.pc hcome hpc
  have hnx := hG.next m.pc
  have hKok := hG.ok m.pc
  unfold Mac.step PMac.step
  rw [h.pc, h.taken, h.out, h.steps]
  obtain ⟨i, hi⟩ : ∃ i, i = C.getD m.pc .zero := ⟨_, rfl⟩
  obtain ⟨r, hr⟩ : ∃ r, r = R.getD m.pc .zero := ⟨_, rfl⟩
  rw [← hi] at hib hio hrow hus hnx
  rw [← hr] at hrow hrn hus hnx
  rw [← hi, ← hr]
  unfold rowB at hrow
  simp only [Bool.and_eq_true] at hrow
  obtain ⟨⟨⟨⟨⟨rd, ra⟩, rb⟩, rbef⟩, raft⟩, _⟩ := hrow
  unfold movesB at rbef raft
  simp only [Bool.and_eq_true, List.all_eq_true] at rbef raft
  obtain ⟨st1, hst1⟩ : ∃ st1, st1 = movesP p.sto r.before := ⟨_, rfl⟩
  obtain ⟨hs1, hold1⟩ := moves_sound (B := B) (num := num) hnum hw hm.bd r.before p.sto (K m.pc) (fun x hx => ⟨rbef.2 x hx, hrn x (Or.inl hx)⟩) h.sto hold
  rw [← hst1] at hs1 hold1
  have hKb : ∀ f, movesK (FactOk B s slots num) r.before (K m.pc) f → FactOk B s slots num f := by
    have : ∀ (l : List LMove) (K : LFact → Prop), (∀ f, K f → FactOk B s slots num f) → ∀ f, movesK (FactOk B s slots num) l K f → FactOk B s slots num f := by
      intro l
      induction l with
      | nil => exact fun K h => h
      | cons x l ih => exact fun K h => ih _ (fun f hf => hf.1)
    exact this _ _ hKok
  have hA : 0 < manyI i.op → getP st1 r.a = m.temps.getD i.a.toNat 0 := fun hp => by
    have := hold1 _ (hus.1 hp)
    unfold fieldP at ra
    rw [if_pos (by simpa using hp)] at ra
    have hk := (reg_is (slots := slots) ra).2.1
    unfold Holds at this
    simp only at this
    rw [if_neg (by omega), if_pos trivial] at this
    exact this
  have hB : 1 < manyI i.op → getP st1 r.b = m.temps.getD i.b.toNat 0 := fun hp => by
    have := hold1 _ (hus.2 hp)
    unfold fieldP at rb
    rw [if_pos (by simpa using hp)] at rb
    have hk := (reg_is (slots := slots) rb).2.1
    unfold Holds at this
    simp only at this
    rw [if_neg (by omega), if_pos trivial] at this
    exact this
  have hkn : knownB i.op = true := by
    unfold insB at hib
    simp only [Bool.and_eq_true] at hib
    exact hib.1.1.1.1.1.1
  have hnxe : nxI i m.pc (getP st1 r.a) = nxI i m.pc (m.temps.getD i.a.toNat 0) := nx_same hA
  have hx := inOf_bd hin m.taken
  simp only
  rw [← hst1, hnxe]
  have hgve : givesB i.op = true → gvI i (getP st1 r.a) (getP st1 r.b) (inOf ins m.taken) = gvI i (m.temps.getD i.a.toNat 0) (m.temps.getD i.b.toNat 0) (inOf ins m.taken) := fun hg => gv_same hg hkn hA hB
  have hvb : U64i (gvI i (m.temps.getD i.a.toNat 0) (m.temps.getD i.b.toNat 0) (inOf ins m.taken)) := gvI_bd _ _ _ _ (hm.bd _) (hm.bd _) hx.1 hx.2 hio.n0 hio.n1
  -- behind the instruction
  have hmid : StoAt s slots (if givesB i.op = true then putP st1 r.dest (gvI i (getP st1 r.a) (getP st1 r.b) (inOf ins m.taken)) else st1) ∧
      AllHold (if givesB i.op = true then m.temps.set i.dest.toNat (gvI i (m.temps.getD i.a.toNat 0) (m.temps.getD i.b.toNat 0) (inOf ins m.taken)) else m.temps) (if givesB i.op = true then putP st1 r.dest (gvI i (getP st1 r.a) (getP st1 r.b) (inOf ins m.taken)) else st1)
        (if givesB i.op = true then insK (FactOk B s slots num) i r.dest (movesK (FactOk B s slots num) r.before (K m.pc)) else movesK (FactOk B s slots num) r.before (K m.pc)) := by
    cases hg : givesB i.op with
    | false => simp only [Bool.false_eq_true, if_false]; exact ⟨hs1, hold1⟩
    | true =>
      simp only [if_true]
      rw [hgve hg]
      unfold fieldP at rd
      rw [if_pos hg] at rd
      obtain ⟨r1, r2, r3⟩ := reg_is (slots := slots) rd
      obtain ⟨d0, d1⟩ := hio.d hg
      refine ⟨sto_at_put hs1 hvb, ins_sound hm.len d0 d1 r1 r2 (fun e => wok_give hib hio hw hm.bd hx.1 hx.2 hg (r3 e)) hvb hs1 ?_ ?_ (fun _ => hio.a0) hKb hold1⟩
      · intro e; unfold gvI; rw [if_pos e]
      · intro e; unfold gvI; rw [if_neg (by omega), if_pos e]
  have hw2 : WOk B (m.step C ins).temps := wok_step (by rw [← hi]; exact hib) (by rw [← hi]; exact hio) hw hm hin
  have hm2 : MOk B.length C.length ins.length (m.step C ins) := mok_step hm h0 (by rw [← hi]; exact hio) hin
  have e2 : (m.step C ins).temps = (if givesB i.op = true then m.temps.set i.dest.toNat (gvI i (m.temps.getD i.a.toNat 0) (m.temps.getD i.b.toNat 0) (inOf ins m.taken)) else m.temps) := by unfold Mac.step; rw [hi]
  have hb2 := hm2.bd
  rw [e2] at hw2 hb2
  obtain ⟨hs3, hold3⟩ := moves_sound (B := B) (num := num) hnum hw2 hb2 r.after _ _ (fun x hx => ⟨raft.2 x hx, hrn x (Or.inr hx)⟩) hmid.1 hmid.2
  refine ⟨rfl, rfl, ?_, rfl, rfl, hs3, fun hst => ?_⟩
  · by_cases h4 : i.op = 4
    · rw [if_pos h4, if_pos h4, hA (by unfold manyI; rw [if_neg (by omega), if_pos (by omega)]; omega)]
    · rw [if_neg h4, if_neg h4]
  · simp only at hst ⊢
    obtain ⟨n1, n2⟩ := nx_next hst
    have hpos : 0 ≤ nxI i m.pc (m.temps.getD i.a.toNat 0) := by
      unfold nxI
      split
      · rename_i h8
        exact (hio.c (by omega)).1
      · omega
    obtain ⟨q1, q2⟩ := hnx _ hcome hpc n1 (by omega)
    refine ⟨q1, fun f hf => ?_⟩
    exact hold3 f (q2 f hf)

theorem sim_go {B : List Bool} {C : List LIns} {s slots : Int} {R : List LRow} {num : Int → Prop} (hnum : ∀ x, num x → 0 ≤ x ∧ x < 4294967296) {come : Nat → Prop} {K : Nat → LFact → Prop} {ins : List Int}
    (hG : GoodK B C s slots R num come K) (hU : ∀ k, come k → k < C.length → usesK (FactOk B s slots num) (C.getD k .zero) (R.getD k .zero) (K k))
    (hI : ∀ k, k < C.length → insB B C.length (C.getD k .zero) = true ∧ InsOk B.length C.length (C.getD k .zero)) (hR : ∀ k, k < C.length → rowB B s slots (C.getD k .zero) (R.getD k .zero) = true)
    (hRn : ∀ k, k < C.length → ∀ x, x ∈ (R.getD k .zero).before ∨ x ∈ (R.getD k .zero).after → 0 ≤ x.n ∧ x.n < 4294967296)
    (hin : ∀ j, j < ins.length → 0 ≤ ins.getD j 0 ∧ ins.getD j 0 < 4294967296) : ∀ (n : Nat) (m : Mac) (p : PMac), MOk B.length C.length ins.length m → WOk B m.temps → Sim B s slots come K m p → Sim B s slots come K (Mac.go C ins n m) (PMac.go C R ins n p) := by
  intro n
  induction n with
  | zero => exact fun m p _ _ h => h
  | succ n ih =>
    intro m p hm hw h
    unfold Mac.go PMac.go
    by_cases h0 : m.state = 0
    · rw [if_pos h0, if_pos (by rw [h.state]; exact h0)]
      have hpc := hm.pcok h0
      exact ih _ _ (mok_step hm h0 (hI m.pc hpc).2 hin) (wok_step (hI m.pc hpc).1 (hI m.pc hpc).2 hw hm hin) (sim_step hnum hG hU hI hR hRn hin hm hw h0 h)
    · rw [if_neg h0, if_neg (by rw [h.state]; exact h0)]
      exact h

theorem getD_rep (n j : Nat) : (List.replicate n (0 : Int)).getD j 0 = 0 := by
  by_cases h : j < n <;> simp [List.getD, h]

theorem sto_start {s slots : Nat} (hs : s ≤ 16) (he : s % 2 = 0) (hl : slots ≤ 12) : StoAt s slots (PMac.start s slots).sto := by
  refine ⟨⟨fun j => ?_, fun j => ?_, by simp [PMac.start]; omega, by simp [PMac.start]; omega, by simp [PMac.start]; omega⟩, by simp [PMac.start], by simp [PMac.start]⟩
  · unfold PMac.start; simp only; rw [getD_rep]; omega
  · unfold PMac.start; simp only; rw [getD_rep]; exact ⟨by omega, by omega⟩

theorem get_start (s slots : Nat) (q : LPlace) : getP (PMac.start s slots).sto q = 0 := by
  unfold getP PMac.start
  simp only
  rw [getD_rep, getD_rep, getD_rep, getD_rep]
  split
  · rfl
  split
  · rfl
  split <;> rfl

theorem target_of {s : Int} (h : targetB s = true) : 4 ≤ s ∧ s ≤ 16 ∧ s % 2 = 0 := by
  unfold targetB at h
  simp at h
  omega

/-- What is taken does what the program does. -/
theorem sim_play {B : List Bool} {C : List LIns} {s slots : Nat} {R : List LRow} {num : Int → Prop} (hnum : ∀ x, num x → 0 ≤ x ∧ x < 4294967296) {come : Nat → Prop} {K : Nat → LFact → Prop} {ins : List Int}
    (hmay : placeMayB B C s slots R = true) (hn : ∀ i, i < C.length → 0 ≤ (C.getD i .zero).n ∧ (C.getD i .zero).n < 4294967296)
    (hG : GoodK B C s slots R num come K) (hU : ∀ k, come k → k < C.length → usesK (FactOk B s slots num) (C.getD k .zero) (R.getD k .zero) (K k))
    (hRn : ∀ k, k < C.length → ∀ x, x ∈ (R.getD k .zero).before ∨ x ∈ (R.getD k .zero).after → 0 ≤ x.n ∧ x.n < 4294967296)
    (hin : ∀ j, j < ins.length → 0 ≤ ins.getD j 0 ∧ ins.getD j 0 < 4294967296) (n : Nat) :
    (playP C R s slots ins n).out = (playM B C ins n).out ∧ (playP C R s slots ins n).state = (playM B C ins n).state ∧ (playP C R s slots ins n).steps = (playM B C ins n).steps := by
  unfold placeMayB at hmay
  simp only [Bool.and_eq_true, Bool.not_eq_true', decide_eq_true_eq, decide_eq_false_iff_not, List.all_eq_true, List.mem_range] at hmay
  obtain ⟨⟨⟨⟨⟨h1, h2⟩, h3⟩, h4⟩, h5⟩, h6⟩ := hmay
  have hs := target_of h2
  have hsz : sizesB B C = true := by unfold refMayB at h1; simp only [Bool.and_eq_true] at h1; exact h1.1
  obtain ⟨s1, s2, s3, s4⟩ := sizes_of hsz
  have hok := all_insOk h1 hn
  have hib : ∀ k, k < C.length → insB B C.length (C.getD k .zero) = true := fun k hk => by
    unfold refMayB at h1
    simp only [Bool.and_eq_true] at h1
    exact List.all_eq_true.1 h1.2 (C.getD k .zero) (by simp [List.getD, hk])
  have h0 : Sim B s slots come K (Mac.start B.length) (PMac.start s slots) := by
    refine ⟨rfl, rfl, rfl, rfl, rfl, sto_start (by omega) (by omega) (by omega), fun _ => ⟨hG.c0, fun f hf => ?_⟩⟩
    have hz := hG.beg f hf
    have ht : (Mac.start B.length).temps.getD f.t.toNat 0 = 0 := getD_rep _ _
    unfold Holds
    rw [ht, get_start, hz]
    split
    · rfl
    split <;> rfl
  have := sim_go hnum hG hU (fun k hk => ⟨hib k hk, hok k hk⟩) h6 hRn hin n _ _ (mok_start _ _ _ s3) (wok_start B) h0
  exact ⟨this.out, this.state, this.steps⟩

end Go.Proofs.Ytcmnmogmdhofcaa.form

/- What the program's own done.Run must answer. -/
namespace Go.Proofs.Ytcmnmogmdhofcaa.form
open Go.RowKit
/-- What is wrong with a run in places. -/
def wrongP (B : List Bool) (C : List LIns) (s slots : Int) (R : List LRow) (nI : Nat) (steps : Int) : Int := if placeMayB B C s slots R = true then wrongI B C nI steps else 2
end Go.Proofs.Ytcmnmogmdhofcaa.form
namespace Go.Proofs.Ytcmnmogmdhofcaa.doneRuns
open Go.RowKit
open Go.Proofs.Ytcmnmogmdhofcaa.form
set_option linter.unusedVariables false

/-- What is shown. -/
def resP (B : List Bool) (C : List LIns) (s slots : Int) (R : List LRow) (I : List Int) (steps : Int) : PMac := if wrongP B C s slots R I.length steps = 0 then playP C R s.toNat slots.toNat I steps.toNat else ⟨0, ⟨[], []⟩, 0, [], 0, 0⟩
/-- What done.Run must answer. -/
def DoneSpec : Prop := ∀ (pv lv iv : Value) (B : List Bool) (C : List LIns) (s slots : Int) (R : List LRow) (I : List Int) (steps : Int) (w : World), ProgIs w pv B C → PlacedIs w lv slots R → RowsOk R → InArg w iv I →
  Calls Try.prog 33 #[pv, targetV s, lv, iv, .int .i64 steps] w fun e w' => (∃ sv, e = .returned (.tuple #[sv, .int .i64 (wrongP B C s slots R I.length steps)]) ∧ ShownIs w' sv (resP B C s slots R I steps).state (resP B C s slots R I steps).out (resP B C s slots R I steps).steps) ∧ Below w.heap.size w w'

theorem wrongP_zero {B : List Bool} {C : List LIns} {s slots : Int} {R : List LRow} {nI : Nat} {steps : Int} (h : wrongP B C s slots R nI steps = 0) : placeMayB B C s slots R = true ∧ wrongI B C nI steps = 0 := by
  unfold wrongP at h
  split at h
  · rename_i h1; exact ⟨h1, h⟩
  · omega

end Go.Proofs.Ytcmnmogmdhofcaa.doneRuns

/- What the document's run in places (loanbookref7.Play) shows: the machine in its places on plain numbers, so many steps. -/
namespace Go.Proofs.Ytcmnmogmdhofcaa.form
open Go.RowKit Go.Proofs.Ytcmnmogmdhofcaa.num
set_option linter.unusedVariables false
attribute [local go_sem ↓] Go.wp_at_zero Go.wp_at_succ

/-- What lies in memory while a program runs in its places. -/
structure DS (w : World) (b0 o0 c0 b1 o1 c1 b2 o2 c2 : Nat) (B : List Bool) (C : List LIns) (R : List LRow) (x y z ns nl : Nat) (sto : Sto) (v : Value) (l : List Int) (st k : Int) (wr : World) : Prop where
  bel : Below w.heap.size w wr
  p0 : wr.cell? ⟨w.heap.size, 0, none⟩ = some (.slice (some ⟨b0, o0, none⟩) B.length c0)
  p1 : wr.cell? ⟨w.heap.size, 1, none⟩ = some (.slice (some ⟨b1, o1, none⟩) C.length c1)
  l1 : wr.cell? ⟨w.heap.size + 1 + 1, 1, none⟩ = some (.slice (some ⟨b2, o2, none⟩) R.length c2)
  res : Row wr (w.heap.size + 1 + 1 + 1) 35 [.int .i64 0, .slice none 0 0, .int .i64 0]
  sh : Row wr (w.heap.size + 1 + 1 + 1 + 1) 35 [.int .i64 st, v, .int .i64 k]
  s0 : wr.cell? ⟨z, 0, none⟩ = some (.slice (some ⟨x, 0, none⟩) ns ns)
  s1 : wr.cell? ⟨z, 1, none⟩ = some (.slice (some ⟨y, 0, none⟩) nl nl)
  x0 : w.heap.size + 5 ≤ x
  x1 : x < w.heap.size + 8
  y0 : w.heap.size + 5 ≤ y
  y1 : y < w.heap.size + 8
  z0 : w.heap.size + 5 ≤ z
  z1 : z < w.heap.size + 8
  zx : z ≠ x
  zy : z ≠ y
  sz : w.heap.size + 8 ≤ wr.heap.size
  sto : StoIs wr x y sto
  own : wr.ownsRow (w.heap.size + 8) 23 1 v l.length (l.map (Value.int .u32))

section
variable {w : World} {b0 o0 c0 b1 o1 c1 b2 o2 c2 : Nat} {B : List Bool} {C : List LIns} {R : List LRow} {x y z ns nl : Nat} {sto sto' : Sto} {v : Value} {l : List Int} {st k : Int} {wr w1 : World}

theorem DS.ownNe (h : DS w b0 o0 c0 b1 o1 c1 b2 o2 c2 B C R x y z ns nl sto v l st k wr) {b : Nat} (hb : b < w.heap.size + 8) : v.ownBlock ≠ some b := fun e => by have := (World.ownsRow.lt h.own _ e).1; omega

theorem DS.below (h : DS w b0 o0 c0 b1 o1 c1 b2 o2 c2 B C R x y z ns nl sto v l st k wr) (hb : Below wr.heap.size wr w1) : DS w b0 o0 c0 b1 o1 c1 b2 o2 c2 B C R x y z ns nl sto v l st k w1 :=
  ⟨step_below hb h.bel, step_cell hb h.p0, step_cell hb h.p1, step_cell hb h.l1, h.res.below hb, h.sh.below hb, step_cell hb h.s0, step_cell hb h.s1, h.x0, h.x1, h.y0, h.y1, h.z0, h.z1, h.zx, h.zy, Nat.le_trans h.sz hb.size, h.sto.below hb, own_below h.own hb⟩

/-- The store has turned. -/
theorem DS.but (h : DS w b0 o0 c0 b1 o1 c1 b2 o2 c2 B C R x y z ns nl sto v l st k wr) (hb : But x y wr w1) (hs : StoIs w1 x y sto') : DS w b0 o0 c0 b1 o1 c1 b2 o2 c2 B C R x y z ns nl sto' v l st k w1 := by
  have a0 := h.x0; have a1 := h.x1; have a2 := h.y0; have a3 := h.y1; have a4 := h.z0; have a5 := h.z1; have a6 := h.zx; have a7 := h.zy; have hz := h.sz
  refine ⟨h.bel.trans (hb.below (by omega) (by omega) (by omega)), hb.cell h.p0 (by dsimp only; omega) (by dsimp only; omega), hb.cell h.p1 (by dsimp only; omega) (by dsimp only; omega), hb.cell h.l1 (by dsimp only; omega) (by dsimp only; omega), hb.row h.res (by omega) (by omega), hb.row h.sh (by omega) (by omega),
    hb.cell h.s0 (by dsimp only; omega) (by dsimp only; omega), hb.cell h.s1 (by dsimp only; omega) (by dsimp only; omega), a0, a1, a2, a3, a4, a5, a6, a7, Nat.le_trans hz hb.size, hs, ?_⟩
  refine ⟨h.own.1, ?_⟩
  rcases h.own.2 with hn | ⟨g, cap, cur, rfl, hbg, hgg, rest⟩
  · exact .inl hn
  · exact .inr ⟨g, cap, cur, rfl, hbg, by rw [hb.block g (Array.getElem?_eq_some_iff.1 hgg).1 (by omega) (by omega)]; exact hgg, rest⟩

theorem DS.setState (h : DS w b0 o0 c0 b1 o1 c1 b2 o2 c2 B C R x y z ns nl sto v l st k wr) (u : Int) : DS w b0 o0 c0 b1 o1 c1 b2 o2 c2 B C R x y z ns nl sto v l u k (wr.setCell ⟨w.heap.size + 1 + 1 + 1 + 1, 0, none⟩ (.int .i64 u)) := by
  have a0 := h.x0; have a1 := h.x1; have a2 := h.y0; have a3 := h.y1; have a4 := h.z0; have a5 := h.z1; have a6 := h.zx; have a7 := h.zy; have hz := h.sz
  exact ⟨h.bel.setCell (by dsimp only; omega) _, cell_other h.p0 (by dsimp only; omega), cell_other h.p1 (by dsimp only; omega), cell_other h.l1 (by dsimp only; omega), h.res.other (by dsimp only; omega) _, h.sh.set 0 _, cell_other h.s0 (by dsimp only; omega), cell_other h.s1 (by dsimp only; omega), a0, a1, a2, a3, a4, a5, a6, a7, by simpa using hz,
    ⟨h.sto.sing.other (by dsimp only; omega) _, h.sto.slot.other (by dsimp only; omega) _, h.sto.ne⟩, ownsRow_setCell_other h.own (h.ownNe (by dsimp only; omega)) _⟩
theorem DS.setSteps (h : DS w b0 o0 c0 b1 o1 c1 b2 o2 c2 B C R x y z ns nl sto v l st k wr) (u : Int) : DS w b0 o0 c0 b1 o1 c1 b2 o2 c2 B C R x y z ns nl sto v l st u (wr.setCell ⟨w.heap.size + 1 + 1 + 1 + 1, 2, none⟩ (.int .i64 u)) := by
  have a0 := h.x0; have a1 := h.x1; have a2 := h.y0; have a3 := h.y1; have a4 := h.z0; have a5 := h.z1; have a6 := h.zx; have a7 := h.zy; have hz := h.sz
  exact ⟨h.bel.setCell (by dsimp only; omega) _, cell_other h.p0 (by dsimp only; omega), cell_other h.p1 (by dsimp only; omega), cell_other h.l1 (by dsimp only; omega), h.res.other (by dsimp only; omega) _, h.sh.set 2 _, cell_other h.s0 (by dsimp only; omega), cell_other h.s1 (by dsimp only; omega), a0, a1, a2, a3, a4, a5, a6, a7, by simpa using hz,
    ⟨h.sto.sing.other (by dsimp only; omega) _, h.sto.slot.other (by dsimp only; omega) _, h.sto.ne⟩, ownsRow_setCell_other h.own (h.ownNe (by dsimp only; omega)) _⟩

/-- Behind 'x.Out = append(x.Out, u)'. -/
theorem DS.push (h : DS w b0 o0 c0 b1 o1 c1 b2 o2 c2 B C R x y z ns nl sto v l st k wr) {u : Int} {o : Obj} {g cap : Nat}
    (hown : w1.ownsRow (w.heap.size + 8) 23 1 (.slice (some ⟨g, 0, none⟩) (l.length + 1) cap) (l.length + 1) (l.map (Value.int .u32) ++ [.int .u32 u])) (hgrow : (wr.alloc o).grownBy w1 v.ownBlock) :
    DS w b0 o0 c0 b1 o1 c1 b2 o2 c2 B C R x y z ns nl sto (.slice (some ⟨g, 0, none⟩) (l.length + 1) cap) (l ++ [u]) st k (w1.setCell ⟨w.heap.size + 1 + 1 + 1 + 1, 1, none⟩ (.slice (some ⟨g, 0, none⟩) (l.length + 1) cap)) := by
  have a0 := h.x0; have a1 := h.x1; have a2 := h.y0; have a3 := h.y1; have a4 := h.z0; have a5 := h.z1; have a6 := h.zx; have a7 := h.zy; have hz := h.sz
  have hz1 : (wr.alloc o).heap.size = wr.heap.size + 1 := by simp
  have hbl : Below w.heap.size w w1 := (h.bel.alloc (by omega) o).grown hgrow (by omega) (fun j hj => by have := (World.ownsRow.lt h.own _ hj).1; omega)
  have far : ∀ b, b < w.heap.size + 8 → ∀ off u, wr.cell? ⟨b, off, none⟩ = some u → w1.cell? ⟨b, off, none⟩ = some u := by
    intro b hb off u hc
    rw [hgrow.cell_far ⟨b, off, none⟩ (by show b < (wr.alloc o).heap.size; omega) (Ne.symm (h.ownNe hb))]
    exact step_cell ((Below.refl _ _).alloc (Nat.le_refl _) o) hc
  have hgb : w.heap.size + 8 ≤ g := (World.ownsRow.lt hown g rfl).1
  refine ⟨hbl.setCell (by dsimp only; omega) _, cell_other (far _ (by omega) _ _ h.p0) (by dsimp only; omega), cell_other (far _ (by omega) _ _ h.p1) (by dsimp only; omega), cell_other (far _ (by omega) _ _ h.l1) (by dsimp only; omega), ?_, ?_, cell_other (far _ (by omega) _ _ h.s0) (by dsimp only; omega), cell_other (far _ (by omega) _ _ h.s1) (by dsimp only; omega), a0, a1, a2, a3, a4, a5, a6, a7, by have := hgrow.size; simp at this ⊢; omega, ⟨?_, ?_, h.sto.ne⟩, ?_⟩
  · exact ((h.res.alloc o).grown hgrow (Ne.symm (h.ownNe (by omega)))).other (by dsimp only; omega) _
  · exact ((h.sh.alloc o).grown hgrow (Ne.symm (h.ownNe (by omega)))).set 1 _
  · exact ((h.sto.sing.alloc o).grown hgrow (Ne.symm (h.ownNe (by omega)))).other (by dsimp only; omega) _
  · exact ((h.sto.slot.alloc o).grown hgrow (Ne.symm (h.ownNe (by omega)))).other (by dsimp only; omega) _
  · have := ownsRow_setCell_other (a := ⟨w.heap.size + 1 + 1 + 1 + 1, 1, none⟩) hown (by simp [Value.ownBlock]; omega) (.slice (some ⟨g, 0, none⟩) (l.length + 1) cap)
    simpa using this
end

theorem made_u32 (n : Nat) : madeCells #[.int .u32 0] n = ((List.replicate n (0 : Int)).map (Value.int .u32)).toArray := by
  apply Array.toList_inj.1
  rw [toList_madeCells_one]
  simp

/-- Ahead of the store. -/
def dW (w : World) (b0 o0 c0 b1 o1 c1 b2 o2 c2 nB nC nR ns nl : Nat) : World :=
  ((((w.alloc (.cells #[.slice (some ⟨b0, o0, none⟩) nB c0, .slice (some ⟨b1, o1, none⟩) nC c1] 31)).alloc (.cells #[.int .i64 ns] 52)).alloc (.cells #[.int .i64 nl, .slice (some ⟨b2, o2, none⟩) nR c2] 55)).alloc (.cells #[.int .i64 0, .slice none 0 0, .int .i64 0] 35)).alloc (.cells #[.int .i64 0, .slice none 0 0, .int .i64 0] 35)

theorem dW_size (w : World) (b0 o0 c0 b1 o1 c1 b2 o2 c2 nB nC nR ns nl : Nat) : (dW w b0 o0 c0 b1 o1 c1 b2 o2 c2 nB nC nR ns nl).heap.size = w.heap.size + 5 := by simp [dW]

theorem three_at (W : World) (p1 p2 p3 : Obj) : (((W.alloc p1).alloc p2).alloc p3).heap[W.heap.size]? = some p1 ∧ (((W.alloc p1).alloc p2).alloc p3).heap[W.heap.size + 1]? = some p2 ∧ (((W.alloc p1).alloc p2).alloc p3).heap[W.heap.size + 2]? = some p3 := by
  refine ⟨?_, ?_, ?_⟩
  · rw [heap_alloc_old _ _ (by simp; omega), heap_alloc_old _ _ (by simp), heap_alloc_new]
  · rw [heap_alloc_old _ _ (by simp)]
    have := heap_alloc_new (W.alloc p1) p2
    simpa using this
  · have := heap_alloc_new ((W.alloc p1).alloc p2) p3
    simpa using this

theorem ds_start {w : World} {b0 o0 c0 b1 o1 c1 b2 o2 c2 : Nat} {B : List Bool} {C : List LIns} {R : List LRow} {x y z ns nl : Nat} {W : World} (hb : Below (dW w b0 o0 c0 b1 o1 c1 b2 o2 c2 B.length C.length R.length ns nl).heap.size (dW w b0 o0 c0 b1 o1 c1 b2 o2 c2 B.length C.length R.length ns nl) W)
    (hsz : W.heap.size = w.heap.size + 8) (hx : W.heap[x]? = some (.cells (madeCells #[.int .u32 0] ns) 23)) (hy : W.heap[y]? = some (.cells (madeCells #[.int .u64 0] nl) 22)) (hz : W.heap[z]? = some (.cells #[.slice (some ⟨x, 0, none⟩) ns ns, .slice (some ⟨y, 0, none⟩) nl nl] 117))
    (hxyz : w.heap.size + 5 ≤ x ∧ w.heap.size + 5 ≤ y ∧ w.heap.size + 5 ≤ z ∧ x ≠ y ∧ z ≠ x ∧ z ≠ y) : DS w b0 o0 c0 b1 o1 c1 b2 o2 c2 B C R x y z ns nl (PMac.start ns nl).sto (.slice none 0 0) [] 0 0 W := by
  have lx := lt_of_block hx
  have ly := lt_of_block hy
  have lz := lt_of_block hz
  obtain ⟨h1, h2, h3, h4, h5, h6⟩ := hxyz
  rw [made_u32] at hx
  rw [made_u64] at hy
  have hzr : Row W z 117 [.slice (some ⟨x, 0, none⟩) ns ns, .slice (some ⟨y, 0, none⟩) nl nl] := hz
  have hbw : Below w.heap.size w (dW w b0 o0 c0 b1 o1 c1 b2 o2 c2 B.length C.length R.length ns nl) := (((((Below.refl _ _).alloc (Nat.le_refl _) _).alloc (by simp) _).alloc (by simp; omega) _).alloc (by simp; omega) _).alloc (by simp; omega) _
  refine ⟨step_below hb hbw, step_cell hb (by simp [dW, go_sem]), step_cell hb (by simp [dW, go_sem]), step_cell hb (by simp [dW, go_sem]), ?_, ?_, hzr.cell 0, hzr.cell 1, h1, by omega, h2, by omega, h3, by omega, h5, h6, by omega, ⟨hx, hy, h4⟩, World.ownsRow_nil _ _ _ _⟩
  · refine Row.below ?_ hb
    have := (Row.new (((w.alloc (.cells #[.slice (some ⟨b0, o0, none⟩) B.length c0, .slice (some ⟨b1, o1, none⟩) C.length c1] 31)).alloc (.cells #[.int .i64 ns] 52)).alloc (.cells #[.int .i64 nl, .slice (some ⟨b2, o2, none⟩) R.length c2] 55)) 35 [.int .i64 0, .slice none 0 0, .int .i64 0]).alloc (.cells #[.int .i64 0, .slice none 0 0, .int .i64 0] 35)
    simpa [dW] using this
  · refine Row.below ?_ hb
    have := Row.new ((((w.alloc (.cells #[.slice (some ⟨b0, o0, none⟩) B.length c0, .slice (some ⟨b1, o1, none⟩) C.length c1] 31)).alloc (.cells #[.int .i64 ns] 52)).alloc (.cells #[.int .i64 nl, .slice (some ⟨b2, o2, none⟩) R.length c2] 55)).alloc (.cells #[.int .i64 0, .slice none 0 0, .int .i64 0] 35)) 35 [.int .i64 0, .slice none 0 0, .int .i64 0]
    simpa [dW] using this

/-- Whatever the order in which the store's three blocks are made. -/
theorem ds_perm (w : World) (b0 o0 c0 b1 o1 c1 b2 o2 c2 : Nat) (B : List Bool) (C : List LIns) (R : List LRow) (ns nl i j k : Nat) (p1 p2 p3 : Obj) (W : World) (hW : W = World.drew ((((dW w b0 o0 c0 b1 o1 c1 b2 o2 c2 B.length C.length R.length ns nl).alloc p1).alloc p2).alloc p3))
    (hc : ((i = 0 ∧ j = 1 ∧ k = 2) ∧ p1 = .cells (madeCells #[.int .u32 0] ns) 23 ∧ p2 = .cells (madeCells #[.int .u64 0] nl) 22 ∧ p3 = .cells #[.slice (some ⟨w.heap.size + 5 + i, 0, none⟩) ns ns, .slice (some ⟨w.heap.size + 5 + j, 0, none⟩) nl nl] 117) ∨
      ((i = 0 ∧ j = 2 ∧ k = 1) ∧ p1 = .cells (madeCells #[.int .u32 0] ns) 23 ∧ p3 = .cells (madeCells #[.int .u64 0] nl) 22 ∧ p2 = .cells #[.slice (some ⟨w.heap.size + 5 + i, 0, none⟩) ns ns, .slice (some ⟨w.heap.size + 5 + j, 0, none⟩) nl nl] 117) ∨
      ((i = 1 ∧ j = 0 ∧ k = 2) ∧ p2 = .cells (madeCells #[.int .u32 0] ns) 23 ∧ p1 = .cells (madeCells #[.int .u64 0] nl) 22 ∧ p3 = .cells #[.slice (some ⟨w.heap.size + 5 + i, 0, none⟩) ns ns, .slice (some ⟨w.heap.size + 5 + j, 0, none⟩) nl nl] 117) ∨
      ((i = 2 ∧ j = 0 ∧ k = 1) ∧ p3 = .cells (madeCells #[.int .u32 0] ns) 23 ∧ p1 = .cells (madeCells #[.int .u64 0] nl) 22 ∧ p2 = .cells #[.slice (some ⟨w.heap.size + 5 + i, 0, none⟩) ns ns, .slice (some ⟨w.heap.size + 5 + j, 0, none⟩) nl nl] 117) ∨
      ((i = 1 ∧ j = 2 ∧ k = 0) ∧ p2 = .cells (madeCells #[.int .u32 0] ns) 23 ∧ p3 = .cells (madeCells #[.int .u64 0] nl) 22 ∧ p1 = .cells #[.slice (some ⟨w.heap.size + 5 + i, 0, none⟩) ns ns, .slice (some ⟨w.heap.size + 5 + j, 0, none⟩) nl nl] 117) ∨
      ((i = 2 ∧ j = 1 ∧ k = 0) ∧ p3 = .cells (madeCells #[.int .u32 0] ns) 23 ∧ p2 = .cells (madeCells #[.int .u64 0] nl) 22 ∧ p1 = .cells #[.slice (some ⟨w.heap.size + 5 + i, 0, none⟩) ns ns, .slice (some ⟨w.heap.size + 5 + j, 0, none⟩) nl nl] 117)) :
    DS w b0 o0 c0 b1 o1 c1 b2 o2 c2 B C R (w.heap.size + 5 + i) (w.heap.size + 5 + j) (w.heap.size + 5 + k) ns nl (PMac.start ns nl).sto (.slice none 0 0) [] 0 0 W := by
  have h3 := three_at (dW w b0 o0 c0 b1 o1 c1 b2 o2 c2 B.length C.length R.length ns nl) p1 p2 p3
  rw [dW_size] at h3
  have hb : Below (dW w b0 o0 c0 b1 o1 c1 b2 o2 c2 B.length C.length R.length ns nl).heap.size (dW w b0 o0 c0 b1 o1 c1 b2 o2 c2 B.length C.length R.length ns nl) W := by
    rw [hW]
    exact ((((Below.refl _ _).alloc (Nat.le_refl _) _).alloc (by simp) _).alloc (by simp; omega) _).drew
  have hsz : W.heap.size = w.heap.size + 8 := by rw [hW]; simp [World.drew, dW_size]
  have hh : ∀ q : Nat, W.heap[q]? = ((((dW w b0 o0 c0 b1 o1 c1 b2 o2 c2 B.length C.length R.length ns nl).alloc p1).alloc p2).alloc p3).heap[q]? := fun q => by rw [hW]; rfl
  rcases hc with ⟨⟨rfl, rfl, rfl⟩, rfl, rfl, rfl⟩ | ⟨⟨rfl, rfl, rfl⟩, rfl, rfl, rfl⟩ | ⟨⟨rfl, rfl, rfl⟩, rfl, rfl, rfl⟩ | ⟨⟨rfl, rfl, rfl⟩, rfl, rfl, rfl⟩ | ⟨⟨rfl, rfl, rfl⟩, rfl, rfl, rfl⟩ | ⟨⟨rfl, rfl, rfl⟩, rfl, rfl, rfl⟩
  all_goals
    refine ds_start hb hsz ?_ ?_ ?_ ⟨by omega, by omega, by omega, by omega, by omega, by omega⟩
    all_goals
      rw [hh]
      first | exact h3.1 | exact h3.2.1 | exact h3.2.2

/-- Ahead of the first step. -/
def DStart (w : World) (b0 o0 c0 b1 o1 c1 b2 o2 c2 : Nat) (B : List Bool) (C : List LIns) (R : List LRow) (ns nl : Nat) (p : Value) (wr : World) : Prop :=
  ∃ x y z, p = .pointer (some ⟨z, 0, none⟩) ∧ DS w b0 o0 c0 b1 o1 c1 b2 o2 c2 B C R x y z ns nl (PMac.start ns nl).sto (.slice none 0 0) [] 0 0 wr

/-- A machine in its places within its bounds. -/
structure POk (nC nI ns nl : Nat) (m : PMac) : Prop where
  sto : StoAt ns nl m.sto
  pcok : m.state = 0 → m.pc < nC
  tk : m.taken ≤ nI
  outs : m.out.length ≤ m.steps

theorem sto_at_moves {s slots : Int} (l : List LMove) : ∀ st : Sto, StoAt s slots st → (∀ m, m ∈ l → 0 ≤ m.n ∧ m.n < 4294967296) → StoAt s slots (movesP st l) := by
  induction l with
  | nil => exact fun st h _ => h
  | cons m l ih => exact fun st h hl => ih _ (sto_at_move h (hl m (by simp))) (fun x hx => hl x (by simp [hx]))

theorem pl_of_is {ns nl : Nat} {st : Sto} {q : LPlace} (h : StoAt ns nl st) (hq : isB ns nl q = true ∨ (q.kind = 0 ∧ q.n = 0)) : PlOk st q := by
  have h1 := h.sl
  have h2 := h.ll
  unfold PlOk
  rw [h1, h2]
  exact hq

theorem mv_ok {ns nl : Nat} {st : Sto} {m : LMove} (h : StoAt ns nl st) (hm : moveB ns nl m = true) (hn : 0 ≤ m.n ∧ m.n < 4294967296) : MvOk st m := by
  unfold moveB at hm
  rw [Bool.and_eq_true] at hm
  refine ⟨pl_of_is h (Or.inl hm.1), pl_of_is h ?_, hn.1, hn.2⟩
  cases hc : m.cst with
  | true => have := hm.2; rw [if_pos hc] at this; simp at this; exact Or.inr this.1
  | false => have := hm.2; rw [hc] at this; simp at this; exact Or.inl this.1.2

theorem field_is {B : List Bool} {ns nl : Nat} {there : Bool} {t : Int} {q : LPlace} (h : fieldP B ns there t q = true) : isB ns nl q = true ∨ (q.kind = 0 ∧ q.n = 0) := by
  unfold fieldP at h
  cases there with
  | true => rw [if_pos rfl] at h; exact Or.inl (reg_is h).1
  | false => simp at h; exact Or.inr h

theorem pok_start {nC nI ns nl : Nat} (h1 : 1 ≤ nC) (h2 : ns ≤ 16) (h3 : ns % 2 = 0) (h4 : nl ≤ 12) : POk nC nI ns nl (PMac.start ns nl) :=
  ⟨sto_start h2 h3 h4, fun _ => h1, Nat.zero_le _, Nat.le_refl _⟩

theorem pok_step {B : List Bool} {C : List LIns} {R : List LRow} {I : List Int} {ns nl : Nat} {m : PMac} (h : POk C.length I.length ns nl m) (h0 : m.state = 0) (hi : InsOk B.length C.length (C.getD m.pc .zero)) (hrn : ∀ x, x ∈ (R.getD m.pc .zero).before ∨ x ∈ (R.getD m.pc .zero).after → 0 ≤ x.n ∧ x.n < 4294967296)
    (hin : ∀ j, j < I.length → 0 ≤ I.getD j 0 ∧ I.getD j 0 < 4294967296) : POk C.length I.length ns nl (m.step C R I) := by
  have hs1 := sto_at_moves (R.getD m.pc .zero).before m.sto h.sto (fun x hx => hrn x (Or.inl hx))
  have hx := inOf_bd hin m.taken
  refine ⟨?_, ?_, ?_, ?_⟩
  · unfold PMac.step
    simp only
    refine sto_at_moves _ _ ?_ (fun x hx => hrn x (Or.inr hx))
    split
    · exact sto_at_put hs1 (gvI_bd _ _ _ _ (get_bd _ hs1.ok) (get_bd _ hs1.ok) hx.1 hx.2 hi.n0 hi.n1)
    · exact hs1
  · unfold PMac.step
    simp only
    intro hst
    obtain ⟨_, n2⟩ := nx_next hst
    have := h.pcok h0
    omega
  · unfold PMac.step
    simp only
    have := h.tk
    split <;> omega
  · unfold PMac.step
    simp only
    have := h.outs
    split
    · simp; omega
    · omega

set_option maxRecDepth 100000 in
set_option maxHeartbeats 4000000 in
theorem play7 (b0 o0 c0 b1 o1 c1 b2 o2 c2 : Nat) (B : List Bool) (C : List LIns) (R : List LRow) (ns nl : Nat) (iv : Value) (I : List Int) (n : Nat) (w : World) (hmay : placeMayB B C ns nl R = true) (h : Held w b0 o0 b1 o1 B C) (hr : RowsHeld w b2 o2 R)
    (hn : ∀ i, i < C.length → 0 ≤ (C.getD i .zero).n ∧ (C.getD i .zero).n < 4294967296) (hRn : ∀ k, k < C.length → ∀ x, x ∈ (R.getD k .zero).before ∨ x ∈ (R.getD k .zero).after → 0 ≤ x.n ∧ x.n < 4294967296)
    (hI : OutIs w iv I) (hIb : ∀ j, j < I.length → 0 ≤ I.getD j 0 ∧ I.getD j 0 < 4294967296) (hn3 : n ≤ 3000) :
    Calls Try.prog 35 #[progV b0 o0 B.length c0 b1 o1 C.length c1, targetV ns, .agg #[.int .i64 nl, .slice (some ⟨b2, o2, none⟩) R.length c2], iv, .int .i64 n] w fun e w' =>
      ∃ rv, e = .returned rv ∧ ShownIs w' rv (playP C R ns nl I n).state (playP C R ns nl I n).out (playP C R ns nl I n).steps ∧ Below w.heap.size w w' := by
  unfold placeMayB at hmay
  simp only [Bool.and_eq_true, Bool.not_eq_true', decide_eq_true_eq, decide_eq_false_iff_not, List.all_eq_true, List.mem_range] at hmay
  obtain ⟨⟨⟨⟨⟨h1, h2⟩, h3⟩, h4⟩, h5⟩, h6⟩ := hmay
  have hs := target_of h2
  have hsz : sizesB B C = true := by unfold refMayB at h1; simp only [Bool.and_eq_true] at h1; exact h1.1
  obtain ⟨s1, s2, s3, s4⟩ := sizes_of hsz
  have HOK : Hid (∀ k, k < C.length → InsOk B.length C.length (C.getD k .zero)) := all_insOk h1 hn
  have HRW : Hid (∀ k, k < C.length → rowB B ns nl (C.getD k .zero) (R.getD k .zero) = true) := h6
  have HRN : Hid (∀ k, k < C.length → ∀ x, x ∈ (R.getD k .zero).before ∨ x ∈ (R.getD k .zero).after → 0 ≤ x.n ∧ x.n < 4294967296) := hRn
  have HIb : Hid (∀ j, j < I.length → 0 ≤ I.getD j 0 ∧ I.getD j 0 < 4294967296) := hIb
  obtain ⟨ai, ci, rfl, hlI, hcI⟩ := hI
  have HCI : Hid _ := hcI
  have g1 : (ns : Int) ≤ 16 := by omega
  have g2 : (nl : Int) ≤ 12 := by omega
  have g3 : (4 : Int) ≤ (ns : Int) := by omega
  have HEV : Hid (ns % 2 = 0) := by show ns % 2 = 0; omega
  have HRL : Hid (R.length = C.length) := h5
  have x5 : (R.length : Int) = (C.length : Int) := by omega
  clear hIb hcI hsz hn h1 h2 h3 h4 h6 hRn hs h5
  have hmk := fun wx => run_make_row' (P := Try.prog) 33 23 (.int .u32 0) 4 Try.underlying33 infoU32 rfl .i64 .i64 ns (by omega) (by omega) wx
  have hmk2 := fun wx => run_make_row' (P := Try.prog) 85 22 (.int .u64 0) 8 Try.underlying85 infoU64 rfl .i64 .i64 nl (by omega) (by omega) wx
  unfold progV targetV
  go_enter Try.func35, Try.ntmps35
  go_upto_region 2 with fail
  go_cut [12] (fun p wq => DStart w b0 o0 c0 b1 o1 c1 b2 o2 c2 B C R ns nl p wq)
  case first =>
    go_region
    all_goals
      go_wp2
      go_meet
      case rel =>
        first
          | exact ⟨w.heap.size + 5, w.heap.size + 6, w.heap.size + 7, rfl, ds_perm w b0 o0 c0 b1 o1 c1 b2 o2 c2 B C R ns nl 0 1 2 _ _ _ _ rfl (Or.inl ⟨⟨rfl, rfl, rfl⟩, rfl, rfl, rfl⟩)⟩
          | exact ⟨w.heap.size + 5, w.heap.size + 7, w.heap.size + 6, rfl, ds_perm w b0 o0 c0 b1 o1 c1 b2 o2 c2 B C R ns nl 0 2 1 _ _ _ _ rfl (Or.inr (Or.inl ⟨⟨rfl, rfl, rfl⟩, rfl, rfl, rfl⟩))⟩
          | exact ⟨w.heap.size + 6, w.heap.size + 5, w.heap.size + 7, rfl, ds_perm w b0 o0 c0 b1 o1 c1 b2 o2 c2 B C R ns nl 1 0 2 _ _ _ _ rfl (Or.inr (Or.inr (Or.inl ⟨⟨rfl, rfl, rfl⟩, rfl, rfl, rfl⟩)))⟩
          | exact ⟨w.heap.size + 7, w.heap.size + 5, w.heap.size + 6, rfl, ds_perm w b0 o0 c0 b1 o1 c1 b2 o2 c2 B C R ns nl 2 0 1 _ _ _ _ rfl (Or.inr (Or.inr (Or.inr (Or.inl ⟨⟨rfl, rfl, rfl⟩, rfl, rfl, rfl⟩))))⟩
          | exact ⟨w.heap.size + 6, w.heap.size + 7, w.heap.size + 5, rfl, ds_perm w b0 o0 c0 b1 o1 c1 b2 o2 c2 B C R ns nl 1 2 0 _ _ _ _ rfl (Or.inr (Or.inr (Or.inr (Or.inr (Or.inl ⟨⟨rfl, rfl, rfl⟩, rfl, rfl, rfl⟩)))))⟩
          | exact ⟨w.heap.size + 7, w.heap.size + 6, w.heap.size + 5, rfl, ds_perm w b0 o0 c0 b1 o1 c1 b2 o2 c2 B C R ns nl 2 1 0 _ _ _ _ rfl (Or.inr (Or.inr (Or.inr (Or.inr (Or.inr ⟨⟨rfl, rfl, rfl⟩, rfl, rfl, rfl⟩)))))⟩
  obtain ⟨x, y, z, rfl, hds⟩ := hcut
  have HD0 : Hid (DS w b0 o0 c0 b1 o1 c1 b2 o2 c2 B C R x y z ns nl (PMac.start ns nl).sto (.slice none 0 0) [] 0 0 wc) := hds
  have qx0 := hds.x0
  have qx1 := hds.x1
  have qy0 := hds.y0
  have qy1 := hds.y1
  have qz0 := hds.z0
  have qz1 := hds.z1
  have qzx := hds.zx
  have qzy := hds.zy
  clear hds hmk hmk2
  have HSV : Hid (∀ st : Sto, StoAt ns nl st → stoV x y st = .agg #[.slice (some ⟨x, 0, none⟩) ns ns, .slice (some ⟨y, 0, none⟩) nl nl]) := fun st hst => by
    have e1 : st.sing.length = ns := by have := hst.sl; omega
    have e2 : st.slot.length = nl := by have := hst.ll; omega
    unfold stoV
    rw [e1, e2]
  have HMV : Hid (∀ (wx : World) (st : Sto) (vv : Value) (l : List LMove), StoIs wx x y st → StoAt ns nl st → MovesIs w vv l → Below w.heap.size w wx → movesB ns nl l = true → (∀ m, m ∈ l → 0 ≤ m.n ∧ m.n < 4294967296) →
      Calls Try.prog 71 #[.agg #[.slice (some ⟨x, 0, none⟩) ns ns, .slice (some ⟨y, 0, none⟩) nl nl], vv] wx fun e w' => e = .returned (.tuple #[]) ∧ StoIs w' x y (movesP st l) ∧ But x y wx w') := fun wx st vv l hs hst hm hb hmb hmn => by
    unfold movesB at hmb
    simp only [Bool.and_eq_true, decide_eq_true_eq, List.all_eq_true] at hmb
    rw [← HSV.out st hst]
    refine moves7 x y st vv l w wx hs hst.ok hmb.1 hm hb (by omega) (by omega) (fun k hk => ?_)
    have hmem : l.getD k .zero ∈ l := by simp [List.getD, hk]
    exact mv_ok hst (hmb.2 _ hmem) (hmn _ hmem)
  have HGT : Hid (∀ (wx : World) (st : Sto) (q : LPlace), StoIs wx x y st → StoAt ns nl st → (isB ns nl q = true ∨ (q.kind = 0 ∧ q.n = 0)) → Calls Try.prog 72 #[.agg #[.slice (some ⟨x, 0, none⟩) ns ns, .slice (some ⟨y, 0, none⟩) nl nl], .agg #[.int .i64 q.kind, .int .i64 q.n]] wx fun e w' => e = .returned (.int .u64 (getP st q)) ∧ Below wx.heap.size wx w') := fun wx st q hs hst hq => by
    rw [← HSV.out st hst]
    exact get7 x y st q wx hs hst.ok (pl_of_is hst hq)
  have HPT : Hid (∀ (wx : World) (st : Sto) (q : LPlace) (u : Int), StoIs wx x y st → StoAt ns nl st → (isB ns nl q = true ∨ (q.kind = 0 ∧ q.n = 0)) → U64i u → Calls Try.prog 73 #[.agg #[.slice (some ⟨x, 0, none⟩) ns ns, .slice (some ⟨y, 0, none⟩) nl nl], .agg #[.int .i64 q.kind, .int .i64 q.n], .int .u64 u] wx fun e w' => e = .returned (.tuple #[]) ∧ StoIs w' x y (putP st q u) ∧ But x y wx w') := fun wx st q u hs hst hq hu => by
    rw [← HSV.out st hst]
    exact put7 x y st q u wx hs hst.ok (pl_of_is hst hq) hu
  go_wp2
  go_loopg [13, 14] (n + 1) (fun g at_ tk wr => ∃ (m : PMac) (v : Value), at_ = .int .i64 m.pc ∧ tk = .int .i64 m.taken ∧ DS w b0 o0 c0 b1 o1 c1 b2 o2 c2 B C R x y z ns nl m.sto v m.out m.state m.steps wr ∧ POk C.length I.length ns nl m ∧ m.steps + g = n + 1 ∧ m.steps ≤ n ∧ PMac.go C R I (n - m.steps) m = playP C R ns nl I n)
  case atStart =>
    exact ⟨PMac.start ns nl, .slice none 0 0, rfl, rfl, HD0.out, pok_start s3 (by omega) HEV.out (by omega), by simp [PMac.start], by simp [PMac.start], rfl⟩
  case round =>
    clear HD0
    obtain ⟨m, v, rfl, rfl, hps, hmo, hg, hle, hfin⟩ := hrel
    have t0 : wr.cell? ⟨w.heap.size + 1 + 1 + 1 + 1, 0, none⟩ = some (.int .i64 m.state) := hps.sh.cell 0
    have t1 : wr.cell? ⟨w.heap.size + 1 + 1 + 1 + 1, 1, none⟩ = some v := hps.sh.cell 1
    have t2 : wr.cell? ⟨w.heap.size + 1 + 1 + 1 + 1, 2, none⟩ = some (.int .i64 m.steps) := hps.sh.cell 2
    have HF : Hid (PMac.go C R I (n - m.steps) m = playP C R ns nl I n) := hfin
    have HPS : Hid (DS w b0 o0 c0 b1 o1 c1 b2 o2 c2 B C R x y z ns nl m.sto v m.out m.state m.steps wr) := hps
    have HMO : Hid (POk C.length I.length ns nl m) := hmo
    have hsz8 := hps.sz
    clear hfin hps hmo
    by_cases hgo : m.steps < n ∧ m.state = 0
    case neg =>
      have hend : m = playP C R ns nl I n := by
        rw [← HF.out]
        by_cases e : m.state = 0
        · have : n - m.steps = 0 := by omega
          rw [this]; rfl
        · rw [PMac.go_stop e]
      obtain ⟨ov, cp, hov, hcells⟩ := own_form32 HPS.out.own
      have z0 : wr.cell? ⟨w.heap.size + 1 + 1 + 1, 0, none⟩ = some (.int .i64 0) := HPS.out.res.cell 0
      have z1 : wr.cell? ⟨w.heap.size + 1 + 1 + 1, 1, none⟩ = some (.slice none 0 0) := HPS.out.res.cell 1
      have z2 : wr.cell? ⟨w.heap.size + 1 + 1 + 1, 2, none⟩ = some (.int .i64 0) := HPS.out.res.cell 2
      have f0 := HPS.out.res.frozen 0
      have f1 := HPS.out.res.frozen 1
      have f2 := HPS.out.res.frozen 2
      subst hov
      have HEND : Hid (m = playP C R ns nl I n) := hend
      clear hend
      rcases (show (¬ (m.steps : Int) < (n : Int)) ∨ ((m.steps : Int) < (n : Int) ∧ (m.state == 0) = false) by
        by_cases e : m.steps < n
        · exact Or.inr ⟨by omega, by simp; exact fun e2 => hgo ⟨e, e2⟩⟩
        · exact Or.inl (by omega)) with e1 | ⟨e1, e2⟩
      all_goals
        clear hgo
        go_wp2
        have r0 := ((HPS.out.res.set 0 (.int .i64 m.state)).set 1 (.slice ov m.out.length cp)).set 2 (.int .i64 m.steps)
        have g0 := r0.cell 0
        have g1 := r0.cell 1
        have g2 := r0.cell 2
        simp at g0 g1 g2
        refine bodyPost_ret (v := .agg #[.int .i64 m.state, .slice ov m.out.length cp, .int .i64 m.steps]) ?_ rfl ⟨_, rfl, ?_, ?_⟩
        · simp [results, Try.results35, go_sem, g0, g1, g2]
        · rw [← HEND.out]
          refine ⟨_, rfl, ov, cp, rfl, by have := HMO.out.outs; omega, fun hp => ?_⟩
          obtain ⟨gb, go, e, hgb, hgl, hgc⟩ := hcells hp
          refine ⟨gb, go, e, by simpa using hgl, fun j hj => ?_⟩
          exact cell_other (cell_other (cell_other (hgc j hj) (by dsimp only; omega)) (by dsimp only; omega)) (by dsimp only; omega)
        · exact ((HPS.out.bel.setCell (by dsimp only; omega) _).setCell (by dsimp only; omega) _).setCell (by dsimp only; omega) _
    obtain ⟨hlt, hst0⟩ := hgo
    have hpc := HMO.out.pcok hst0
    have hi := HOK.out m.pc hpc
    have hrw := HRW.out m.pc hpc
    have hrn := HRN.out m.pc hpc
    have hbel := HPS.out.bel
    obtain ⟨d0, d1, d2, d3, d4, d5⟩ := (h.later hbel).code m.pc hpc
    obtain ⟨e0, e1, e2, e3, e4, e5, vb, va, e6, e7, mb, ma⟩ := hr.rows m.pc (by rw [HRL.out]; exact hpc)
    have e0 := step_cell hbel e0
    have e1 := step_cell hbel e1
    have e2 := step_cell hbel e2
    have e3 := step_cell hbel e3
    have e4 := step_cell hbel e4
    have e5 := step_cell hbel e5
    have e6 := step_cell hbel e6
    have e7 := step_cell hbel e7
    obtain ⟨i, hie⟩ : ∃ i, i = C.getD m.pc .zero := ⟨_, rfl⟩
    obtain ⟨r, hre⟩ : ∃ r, r = R.getD m.pc .zero := ⟨_, rfl⟩
    rw [← hie] at d0 d1 d2 d3 d4 d5 hi hrw
    rw [← hre] at e0 e1 e2 e3 e4 e5 mb ma hrw hrn
    have HIE : Hid (C.getD m.pc .zero = i) := hie.symm
    have HRE : Hid (R.getD m.pc .zero = r) := hre.symm
    have HII : Hid (InsOk B.length C.length i) := hi
    have HRN1 : Hid (∀ x, x ∈ r.before ∨ x ∈ r.after → 0 ≤ x.n ∧ x.n < 4294967296) := hrn
    have mb' := mb
    have ma' := ma
    obtain ⟨bao, bcap, rfl, -⟩ := mb'
    obtain ⟨aao, acap, rfl, -⟩ := ma'
    have HMB : Hid (MovesIs w (.slice bao r.before.length bcap) r.before) := mb
    have HMA : Hid (MovesIs w (.slice aao r.after.length acap) r.after) := ma
    unfold rowB at hrw
    simp only [Bool.and_eq_true] at hrw
    obtain ⟨⟨⟨⟨⟨rd, ra⟩, rb⟩, rbef⟩, raft⟩, _⟩ := hrw
    have HRD : Hid (isB ns nl r.dest = true ∨ (r.dest.kind = 0 ∧ r.dest.n = 0)) := field_is rd
    have HRA : Hid (isB ns nl r.a = true ∨ (r.a.kind = 0 ∧ r.a.n = 0)) := field_is ra
    have HRB : Hid (isB ns nl r.b = true ∨ (r.b.kind = 0 ∧ r.b.n = 0)) := field_is rb
    have HBF : Hid (movesB ns nl r.before = true) := rbef
    have HAF : Hid (movesB ns nl r.after = true) := raft
    have hs0 := HMO.out.sto
    have hs1 := sto_at_moves r.before m.sto hs0 (fun x hx => hrn x (Or.inl hx))
    obtain ⟨st1, hst1⟩ : ∃ q, q = movesP m.sto r.before := ⟨_, rfl⟩
    rw [← hst1] at hs1
    have HST1 : Hid (movesP m.sto r.before = st1) := hst1.symm
    have HS1 : Hid (StoAt ns nl st1) := hs1
    have hua : U64i (getP st1 r.a) := get_bd _ hs1.ok
    have hub : U64i (getP st1 r.b) := get_bd _ hs1.ok
    obtain ⟨a, hae⟩ : ∃ a, a = getP st1 r.a := ⟨_, rfl⟩
    obtain ⟨b, hbe⟩ : ∃ b, b = getP st1 r.b := ⟨_, rfl⟩
    rw [← hae] at hua
    rw [← hbe] at hub
    have HAE : Hid (getP st1 r.a = a) := hae.symm
    have HBE : Hid (getP st1 r.b = b) := hbe.symm
    have x5' : (m.pc : Int) < (C.length : Int) := by omega
    have x6 : (m.steps : Int) < (n : Int) := by omega
    have x7 : (m.state == 0) = true := by simp [hst0]
    have HST0 : Hid (m.state = 0) := hst0
    have hlb1 := (h.later hbel).lt1
    have hlb2 := (hr.later hbel).lt
    have p0 := HPS.out.p0
    have p1 := HPS.out.p1
    have l1 := HPS.out.l1
    have c70 := HPS.out.s0
    have c71 := HPS.out.s1
    have hz0 : w.heap.size < wr.heap.size := by omega
    have hz2 : w.heap.size + 1 + 1 < wr.heap.size := by omega
    have hz4 : w.heap.size + 1 + 1 + 1 + 1 < wr.heap.size := by omega
    have hzz : z < wr.heap.size := by omega
    clear hie hre hi hrn mb ma rd ra rb rbef raft hs0 hs1 hst1 hae hbe hst0 hpc hbel
    obtain ⟨Iv, hIv⟩ : ∃ l : List Value, l = [.int .i64 i.op, .int .i64 i.dest, .int .i64 i.a, .int .i64 i.b, .int .i64 i.c, .int .u32 i.n] := ⟨_, rfl⟩
    obtain ⟨Rv, hRv⟩ : ∃ l : List Value, l = [.int .i64 r.dest.kind, .int .i64 r.dest.n, .int .i64 r.a.kind, .int .i64 r.a.n, .int .i64 r.b.kind, .int .i64 r.b.n, .slice bao r.before.length bcap, .slice aao r.after.length acap] := ⟨_, rfl⟩
    have HIv : Hid (Iv = [.int .i64 i.op, .int .i64 i.dest, .int .i64 i.a, .int .i64 i.b, .int .i64 i.c, .int .u32 i.n]) := hIv
    have HRv : Hid (Rv = [.int .i64 r.dest.kind, .int .i64 r.dest.n, .int .i64 r.a.kind, .int .i64 r.a.n, .int .i64 r.b.kind, .int .i64 r.b.n, .slice bao r.before.length bcap, .slice aao r.after.length acap]) := hRv
    clear hIv hRv
    have HW2 : Hid (DS w b0 o0 c0 b1 o1 c1 b2 o2 c2 B C R x y z ns nl m.sto v m.out m.state m.steps ((wr.alloc (.cells Iv.toArray 50)).alloc (.cells Rv.toArray 103)) ∧ Row ((wr.alloc (.cells Iv.toArray 50)).alloc (.cells Rv.toArray 103)) wr.heap.size 50 Iv ∧ Row ((wr.alloc (.cells Iv.toArray 50)).alloc (.cells Rv.toArray 103)) (wr.heap.size + 1) 103 Rv) := by
      refine ⟨HPS.out.below (((Below.refl _ _).alloc (Nat.le_refl _) _).alloc (by simp) _), (Row.new wr _ _).alloc _, ?_⟩
      have := Row.new (wr.alloc (.cells Iv.toArray 50)) 103 Rv
      simpa using this
    go_upto_region 12 with (first
      | (have hgd := HA2; clear hgd; go_at_call 72; refine (HGT.out _ st1 r.b HA2.out.1.sto HS1.out HRB.out).mono ?_; rw [HBE.out]; rintro e w3 ⟨rfl, hb3⟩; have HA3 : Hid (DS w b0 o0 c0 b1 o1 c1 b2 o2 c2 B C R x y z ns nl st1 v m.out m.state m.steps w3 ∧ Row w3 wr.heap.size 50 Iv ∧ Row w3 (wr.heap.size + 1) 103 Rv) := ⟨HA2.out.1.below hb3, HA2.out.2.1.below hb3, HA2.out.2.2.below hb3⟩; clear hb3)
      | (have hgd := HA; clear hgd; go_at_call 72; refine (HGT.out _ st1 r.a HA.out.1.sto HS1.out HRA.out).mono ?_; rw [HAE.out]; rintro e w2 ⟨rfl, hb2⟩; have HA2 : Hid (DS w b0 o0 c0 b1 o1 c1 b2 o2 c2 B C R x y z ns nl st1 v m.out m.state m.steps w2 ∧ Row w2 wr.heap.size 50 Iv ∧ Row w2 (wr.heap.size + 1) 103 Rv) := ⟨HA.out.1.below hb2, HA.out.2.1.below hb2, HA.out.2.2.below hb2⟩; clear hb2; have j0 := HA2.out.1.s0; have j1 := HA2.out.1.s1; have j2 : w2.cell? ⟨wr.heap.size + 1, 4, none⟩ = some (.int .i64 r.b.kind) := (by rw [HA2.out.2.2.cell, HRv.out]; rfl); have j3 : w2.cell? ⟨wr.heap.size + 1, 5, none⟩ = some (.int .i64 r.b.n) := (by rw [HA2.out.2.2.cell, HRv.out]; rfl))
      | (go_at_call 71; refine (HMV.out _ m.sto _ r.before ?_ HMO.out.sto HMB.out ?_ HBF.out (fun x hx => HRN1.out x (Or.inl hx))).mono ?_; (have := HW2.out; rw [HIv.out, HRv.out] at this; exact this.1.sto); (have := HW2.out; rw [HIv.out, HRv.out] at this; exact this.1.bel); rintro e w1 ⟨rfl, hs1, hb1⟩; rw [HST1.out] at hs1; have HA : Hid (DS w b0 o0 c0 b1 o1 c1 b2 o2 c2 B C R x y z ns nl st1 v m.out m.state m.steps w1 ∧ Row w1 wr.heap.size 50 Iv ∧ Row w1 (wr.heap.size + 1) 103 Rv) := (by have := HW2.out; rw [HIv.out, HRv.out] at this ⊢; exact ⟨this.1.but hb1 hs1, hb1.row this.2.1 (by omega) (by omega), hb1.row this.2.2 (by omega) (by omega)⟩); clear hs1 hb1; have k0 := HA.out.1.s0; have k1 := HA.out.1.s1; have k2 : w1.cell? ⟨wr.heap.size + 1, 2, none⟩ = some (.int .i64 r.a.kind) := (by rw [HA.out.2.2.cell, HRv.out]; rfl); have k3 : w1.cell? ⟨wr.heap.size + 1, 3, none⟩ = some (.int .i64 r.a.n) := (by rw [HA.out.2.2.cell, HRv.out]; rfl)))
    clear k0 k1 k2 k3 j0 j1 j2 j3 HA HA2 HW2
    have i0 : w3.cell? ⟨wr.heap.size, 0, none⟩ = some (.int .i64 i.op) := by rw [HA3.out.2.1.cell, HIv.out]; rfl
    go_cut [68] (fun s wq => s = .bool ((i.op == 3) && decide (m.taken < I.length)) ∧ wq = w3)
    case first =>
      rcases Bool.eq_false_or_eq_true (i.op == 3) with e1 | e1
      all_goals
        go_wp2
        go_meet
        case rel => exact ⟨by simp [e1], rfl⟩
    obtain ⟨rfl, hwc⟩ := hcut
    obtain rfl := hwc.symm
    obtain ⟨inb, hinb⟩ : ∃ x, x = ((i.op == 3) && decide (m.taken < I.length)) := ⟨_, rfl⟩
    rw [← hinb]
    obtain ⟨tk', htk⟩ : ∃ t : Nat, t = if inb then m.taken + 1 else m.taken := ⟨_, rfl⟩
    obtain ⟨xi, hxi⟩ : ∃ x : Int, x = if inb then I.getD m.taken 0 else 0 := ⟨_, rfl⟩
    have HINB : Hid (inb = ((i.op == 3) && decide (m.taken < I.length))) := hinb
    have HTK : Hid (tk' = if inb then m.taken + 1 else m.taken) := htk
    have HXI : Hid (xi = if inb then I.getD m.taken 0 else 0) := hxi
    clear hinb htk hxi
    go_upto_if 68 with fail
    go_cut [14, 19] (fun t x wq => t = .int .i64 tk' ∧ x = .int .u32 xi ∧ wq = w3)
    case first =>
      have htk3 := HMO.out.tk
      cases inb
      · have HTK2 : Hid (tk' = m.taken) := HTK.out
        have HXI2 : Hid (xi = 0) := HXI.out
        go_wp2
        go_meet
        case rel => exact ⟨by rw [HTK2.out], by rw [HXI2.out], rfl⟩
      · have HTK2 : Hid (tk' = m.taken + 1) := HTK.out
        have HXI2 : Hid (xi = I.getD m.taken 0) := HXI.out
        have hb2 := HINB.out
        simp at hb2
        obtain ⟨-, hlt2⟩ := hb2
        obtain ⟨ib, io, rfl, hib, hicell⟩ := HCI.out (by omega)
        have ic := step_cell HA3.out.1.bel (hicell _ hlt2)
        rw [← HXI2.out] at ic
        clear hicell
        go_wp2
        go_meet
        case rel => exact ⟨by rw [HTK2.out]; go_num, rfl, rfl⟩
    obtain ⟨rfl, rfl, hwc⟩ := hcut
    obtain rfl := hwc.symm
    go_upto_if 77 with fail
    obtain ⟨l', hl'⟩ : ∃ x, x = if (i.op == 4) then m.out ++ [a % 4294967296] else m.out := ⟨_, rfl⟩
    have HL' : Hid (l' = if (i.op == 4) then m.out ++ [a % 4294967296] else m.out) := hl'
    clear hl'
    go_cut [] (fun wq => ∃ v', DS w b0 o0 c0 b1 o1 c1 b2 o2 c2 B C R x y z ns nl st1 v' l' m.state m.steps wq ∧ Row wq wr.heap.size 50 Iv ∧ Row wq (wr.heap.size + 1) 103 Rv)
    case first =>
      rcases Bool.eq_false_or_eq_true (i.op == 4) with e1 | e1
      · obtain ⟨t0', hi0, hy0, hy1, hy2⟩ := info_parts infoU32
        have hout := HMO.out.outs
        have T1 : w3.cell? ⟨w.heap.size + 1 + 1 + 1 + 1, 1, none⟩ = some v := HA3.out.1.sh.cell 1
        have hz3 := HA3.out.1.sz
        have hz5 : w.heap.size + 1 + 1 + 1 + 1 < w3.heap.size := by omega
        go_wp2_with (at_builtin; refine wpList_append_lies _ rfl _ _ 33 rfl (w.heap.size + 8) 23 t0' (.int .u32 0) 1 4 Try.underlying33 hi0 hy0 hy1 hy2 rfl (by decide) v m.out.length (m.out.map (Value.int .u32)) rfl (World.ownsRow.alloc HA3.out.1.own _) ⟨w3.heap.size, 0, none⟩ 1 1 [.int .u32 (a % 4294967296)] rfl rfl ?c1 ?c2 (by decide) ?c3 ?c4 ?c5 _ rfl ?_)
        case c2 => simp [Value.oneCell']
        case c3 => unfold maxLen; omega
        case c4 => omega
        case c5 => first | omega | (simp; omega)
        intro g cap w4 hown hgrow hat hlt1
        have hP := HA3.out.1.push hown hgrow
        have hnI : ∀ q, w3.heap.size = q → True := fun _ _ => trivial
        have rsh := (HA3.out.1.sh.alloc (.cells #[.int .u32 (a % 4294967296)] 23)).grown hgrow (Ne.symm (HA3.out.1.ownNe (by omega)))
        have fz := rsh.frozen 1
        have cz := rsh.cell 1
        simp at cz
        have hneI : v.ownBlock ≠ some wr.heap.size := fun e => by have := (World.ownsRow.lt HPS.out.own _ e).2; omega
        have hneR : v.ownBlock ≠ some (wr.heap.size + 1) := fun e => by have := (World.ownsRow.lt HPS.out.own _ e).2; omega
        have rri := ((HA3.out.2.1.alloc (.cells #[.int .u32 (a % 4294967296)] 23)).grown hgrow (Ne.symm hneI)).other (a := ⟨w.heap.size + 1 + 1 + 1 + 1, 1, none⟩) (by dsimp only; omega) (.slice (some ⟨g, 0, none⟩) (m.out.length + 1) cap)
        have rrj := ((HA3.out.2.2.alloc (.cells #[.int .u32 (a % 4294967296)] 23)).grown hgrow (Ne.symm hneR)).other (a := ⟨w.heap.size + 1 + 1 + 1 + 1, 1, none⟩) (by dsimp only; omega) (.slice (some ⟨g, 0, none⟩) (m.out.length + 1) cap)
        have hle' : l' = m.out ++ [a % 4294967296] := by rw [HL'.out, e1]; rfl
        rw [← hle'] at hP
        have R : Hid (∃ v', DS w b0 o0 c0 b1 o1 c1 b2 o2 c2 B C R x y z ns nl st1 v' l' m.state m.steps (w4.setCell ⟨w.heap.size + 1 + 1 + 1 + 1, 1, none⟩ (.slice (some ⟨g, 0, none⟩) (m.out.length + 1) cap)) ∧ Row (w4.setCell ⟨w.heap.size + 1 + 1 + 1 + 1, 1, none⟩ (.slice (some ⟨g, 0, none⟩) (m.out.length + 1) cap)) wr.heap.size 50 Iv ∧ Row (w4.setCell ⟨w.heap.size + 1 + 1 + 1 + 1, 1, none⟩ (.slice (some ⟨g, 0, none⟩) (m.out.length + 1) cap)) (wr.heap.size + 1) 103 Rv) := ⟨_, hP, rri, rrj⟩
        clear hP rrj rri rsh hle' hown hgrow hat hneI hneR hnI
        go_wp2
        go_meet
        case rel => exact R.out
      · go_wp2
        go_meet
        case rel => exact ⟨v, by rw [show l' = m.out by rw [HL'.out, e1]; rfl]; exact HA3.out.1, HA3.out.2.1, HA3.out.2.2⟩
    obtain ⟨v', hdsB, hriB, hrrB⟩ := hcut
    have r0 : wc.cell? ⟨wr.heap.size, 0, none⟩ = some (.int .i64 i.op) := by rw [hriB.cell, HIv.out]; rfl
    have r1 : wc.cell? ⟨wr.heap.size, 1, none⟩ = some (.int .i64 i.dest) := by rw [hriB.cell, HIv.out]; rfl
    have r2 : wc.cell? ⟨wr.heap.size, 2, none⟩ = some (.int .i64 i.a) := by rw [hriB.cell, HIv.out]; rfl
    have r3 : wc.cell? ⟨wr.heap.size, 3, none⟩ = some (.int .i64 i.b) := by rw [hriB.cell, HIv.out]; rfl
    have r4 : wc.cell? ⟨wr.heap.size, 4, none⟩ = some (.int .i64 i.c) := by rw [hriB.cell, HIv.out]; rfl
    have r5 : wc.cell? ⟨wr.heap.size, 5, none⟩ = some (.int .u32 i.n) := by rw [hriB.cell, HIv.out]; rfl
    obtain ⟨wb, hwb⟩ : ∃ q, q = wc := ⟨_, rfl⟩
    subst hwb
    have HPB : Hid (DS w b0 o0 c0 b1 o1 c1 b2 o2 c2 B C R x y z ns nl st1 v' l' m.state m.steps wb ∧ Row wb wr.heap.size 50 Iv ∧ Row wb (wr.heap.size + 1) 103 Rv) := ⟨hdsB, hriB, hrrB⟩
    have xb : 0 ≤ xi ∧ xi < 4294967296 := by
      rw [HXI.out]
      cases hib : inb
      · simp
      · have := HINB.out
        rw [hib] at this
        simp at this
        exact HIb.out m.taken this.2
    obtain ⟨xb0, xb1⟩ := xb
    clear hdsB hriB hrrB i0 HA3
    go_upto_if 87 with (go_at_call 47; refine (gives _ _).mono ?_; rintro e w' ⟨rfl, hw'⟩; obtain rfl := hw'.symm)
    obtain ⟨st2, hst2⟩ : ∃ q, q = if givesB i.op then putP st1 r.dest (gvI i a b xi) else st1 := ⟨_, rfl⟩
    have HTS : Hid (st2 = if givesB i.op then putP st1 r.dest (gvI i a b xi) else st1) := hst2
    clear hst2
    go_cut [] (fun wq => DS w b0 o0 c0 b1 o1 c1 b2 o2 c2 B C R x y z ns nl st2 v' l' m.state m.steps wq ∧ Row wq (wr.heap.size + 1) 103 Rv)
    case first =>
      rcases Bool.eq_false_or_eq_true (givesB i.op) with e1 | e1
      · have n0 := HII.out.n0
        have n1 := HII.out.n1
        have o0' := HII.out.p0
        have o1' := HII.out.p1
        have hgvb : U64i (gvI i a b xi) := gvI_bd _ _ _ _ hua hub xb0 xb1 n0 n1
        rw [e1]
        go_wp2_with (first
          | (go_at_call 48; refine (gives3 i a b xi hua hub xb0 xb1 n0 n1 (by omega) (by omega) _).mono ?_; rintro e w5 ⟨rfl, hb5⟩; have HPB5 : Hid (DS w b0 o0 c0 b1 o1 c1 b2 o2 c2 B C R x y z ns nl st1 v' l' m.state m.steps w5 ∧ Row w5 (wr.heap.size + 1) 103 Rv) := ⟨HPB.out.1.below hb5, HPB.out.2.2.below hb5⟩; clear hb5; have q0 := HPB5.out.1.s0; have q1 := HPB5.out.1.s1; have q2 : w5.cell? ⟨wr.heap.size + 1, 0, none⟩ = some (.int .i64 r.dest.kind) := (by rw [HPB5.out.2.cell, HRv.out]; rfl); have q3 : w5.cell? ⟨wr.heap.size + 1, 1, none⟩ = some (.int .i64 r.dest.n) := (by rw [HPB5.out.2.cell, HRv.out]; rfl))
          | (go_at_call 73; refine (HPT.out _ st1 r.dest _ HPB5.out.1.sto HS1.out HRD.out hgvb).mono ?_; rintro e w6 ⟨rfl, hs6, hb6⟩; have HPB6 : Hid (DS w b0 o0 c0 b1 o1 c1 b2 o2 c2 B C R x y z ns nl (putP st1 r.dest (gvI i a b xi)) v' l' m.state m.steps w6 ∧ Row w6 (wr.heap.size + 1) 103 Rv) := ⟨HPB5.out.1.but hb6 hs6, hb6.row HPB5.out.2 (by omega) (by omega)⟩; clear hs6 hb6))
        go_meet
        case rel => rw [show st2 = putP st1 r.dest (gvI i a b xi) by rw [HTS.out, e1]; rfl]; exact HPB6.out
      · rw [e1]
        go_wp2
        go_meet
        case rel => rw [show st2 = st1 by rw [HTS.out, e1]; rfl]; exact ⟨HPB.out.1, HPB.out.2.2⟩
    have HPC : Hid (DS w b0 o0 c0 b1 o1 c1 b2 o2 c2 B C R x y z ns nl st2 v' l' m.state m.steps wc ∧ Row wc (wr.heap.size + 1) 103 Rv) := hcut
    have q0 := hcut.1.s0
    have q1 := hcut.1.s1
    have q7 : wc.cell? ⟨wr.heap.size + 1, 7, none⟩ = some (.slice aao r.after.length acap) := by rw [hcut.2.cell, HRv.out]; rfl
    clear hcut r0 r1 r2 r3 r4 r5
    have hpc := HMO.out.pcok HST0.out
    have hs2 : StoAt ns nl st2 := by
      rw [HTS.out]
      split
      · exact sto_at_put HS1.out (gvI_bd _ _ _ _ hua hub xb0 xb1 HII.out.n0 HII.out.n1)
      · exact HS1.out
    have HS2 : Hid (StoAt ns nl st2) := hs2
    clear hs2
    obtain ⟨nx, hnx⟩ : ∃ x, x = nxI i m.pc a := ⟨_, rfl⟩
    obtain ⟨st', hst'⟩ : ∃ x, x = stI i C.length nx := ⟨_, rfl⟩
    have HNX : Hid (nxI i m.pc a = nx) := hnx.symm
    have HSX : Hid (stI i C.length nx = st') := hst'.symm
    clear hnx hst'
    go_wp2_with (first
      | (go_at_call 71; refine (HMV.out _ st2 _ r.after HPC.out.1.sto HS2.out HMA.out HPC.out.1.bel HAF.out (fun x hx => HRN1.out x (Or.inr hx))).mono ?_; rintro e w7 ⟨rfl, hs7, hb7⟩; have HP7 : Hid (DS w b0 o0 c0 b1 o1 c1 b2 o2 c2 B C R x y z ns nl (movesP st2 r.after) v' l' m.state m.steps w7) := HPC.out.1.but hb7 hs7; clear hs7 hb7; have P0 := HP7.out.p0; have P1 := HP7.out.p1)
      | (go_at_call 49; refine (next3 b0 o0 c0 b1 o1 c1 B C m.pc a _ s4 (h.later HP7.out.bel) hpc).mono ?_; rintro e w8 ⟨rfl, hb8⟩; rw [HIE.out, HNX.out, HSX.out]; have HPD : Hid (DS w b0 o0 c0 b1 o1 c1 b2 o2 c2 B C R x y z ns nl (movesP st2 r.after) v' l' m.state m.steps w8) := HP7.out.below hb8; clear hb8; have T2 : w8.cell? ⟨w.heap.size + 1 + 1 + 1 + 1, 2, none⟩ = some (.int .i64 m.steps) := HPD.out.sh.cell 2; have T0 : w8.cell? ⟨w.heap.size + 1 + 1 + 1 + 1, 0, none⟩ = some (.int .i64 m.state) := HPD.out.sh.cell 0; have Z0 := HPD.out.sh.frozen 0; have Z2 := HPD.out.sh.frozen 2))
    go_roundg (gk - 1)
    case measure => omega
    case rel =>
      have hnn : 0 ≤ nx := by
        rw [← HNX.out]
        unfold nxI
        split
        · rename_i hc
          exact (HII.out.c (by rcases hc with hc | hc; exact Or.inl hc; exact Or.inr hc.1)).1
        · omega
      have hstep : m.step C R I = ⟨nx.toNat, movesP st2 r.after, tk', l', st', m.steps + 1⟩ := by
        have e1 : gvI i a b xi = gvI i a b (inOf I m.taken) := by
          rw [HXI.out, HINB.out]
          unfold gvI inOf
          by_cases e3 : i.op = 3
          · by_cases e4 : m.taken < I.length
            · simp [e3, e4]
            · simp [e3, e4, List.getD]
          · simp [e3]
        have e2 : tk' = if i.op = 3 ∧ m.taken < I.length then m.taken + 1 else m.taken := by
          rw [HTK.out, HINB.out]; simp
        have e3 : l' = if i.op = 4 then m.out ++ [a % 4294967296] else m.out := by
          rw [HL'.out]; simp
        unfold PMac.step
        simp only
        rw [HIE.out, HRE.out, HST1.out, HAE.out, HBE.out, HNX.out, HSX.out, ← e1, ← HTS.out, ← e2, ← e3]
      have hpok := pok_step (B := B) (R := R) HMO.out HST0.out (by rw [HIE.out]; exact HII.out) (by rw [HRE.out]; exact HRN1.out) HIb.out
      rw [hstep] at hpok
      refine ⟨⟨nx.toNat, movesP st2 r.after, tk', l', st', m.steps + 1⟩, v', by go_num, rfl, ?_, hpok, by simp only; omega, by simp only; omega, ?_⟩
      · exact (HPD.out.setState st').setSteps (m.steps + 1)
      · rw [← HF.out, ← hstep]
        have e : n - m.steps = (n - (m.steps + 1)) + 1 := by omega
        rw [e]
        show _ = if m.state = 0 then _ else _
        rw [if_pos HST0.out]
        rfl

end Go.Proofs.Ytcmnmogmdhofcaa.form
