/- A machine in its places, on plain numbers; where what is taken is where it is said to be, it shows what the program shows. -/
import Derived.Test.YtcmnmogmdhofcabGreatProg
import Derived.WalkKit
import Derived.Test.YtcmnmogmdhofcabGreatE05

namespace Go.Proofs.YtcmnmogmdhofcabGreat.form
open Go.RowKit Go.Proofs.YtcmnmogmdhofcabGreat.num
set_option linter.unusedVariables false

structure PMac where
  pc : Nat
  sto : Sto
  taken : Nat
  out : List Int
  state : Int
  steps : Nat

def PMac.start (s slots : Nat) : PMac := ⟨0, ⟨List.replicate s 0, List.replicate slots 0⟩, 0, [], 0, 0⟩

def PMac.step (C : List LIns) (R : List LRow) (ins : List Int) (m : PMac) : PMac :=
  let i := C.getD m.pc .zero
  let r := R.getD m.pc .zero
  let st := movesP m.sto r.before
  let a := getP st r.a
  let b := getP st r.b
  let nx := nxI i m.pc a
  { pc := nx.toNat
    sto := movesP (if givesB i.op then putP st r.dest (gvI i a b (inOf ins m.taken)) else st) r.after
    taken := if i.op = 3 ∧ m.taken < ins.length then m.taken + 1 else m.taken
    out := if i.op = 4 then m.out ++ [a % 4294967296] else m.out
    state := stI i C.length nx
    steps := m.steps + 1 }

def PMac.go (C : List LIns) (R : List LRow) (ins : List Int) : Nat → PMac → PMac
  | 0, m => m
  | k + 1, m => if m.state = 0 then PMac.go C R ins k (m.step C R ins) else m

def playP (C : List LIns) (R : List LRow) (s slots : Nat) (ins : List Int) (n : Nat) : PMac := PMac.go C R ins n (PMac.start s slots)

theorem PMac.go_stop {C : List LIns} {R : List LRow} {ins : List Int} {m : PMac} (h : ¬ m.state = 0) : ∀ k, PMac.go C R ins k m = m
  | 0 => rfl
  | k + 1 => by simp [PMac.go, h]

def thruK (ok : LFact → Prop) (i : LIns) (r : LRow) (K : LFact → Prop) : LFact → Prop :=
  movesK ok r.after (if givesB i.op = true then insK ok i r.dest (movesK ok r.before K) else movesK ok r.before K)

def usesK (ok : LFact → Prop) (i : LIns) (r : LRow) (K : LFact → Prop) : Prop :=
  (0 < manyI i.op → movesK ok r.before K ⟨r.a, true, i.a, 0⟩) ∧ (1 < manyI i.op → movesK ok r.before K ⟨r.b, true, i.b, 0⟩)

structure GoodK (B : List Bool) (C : List LIns) (s slots : Int) (R : List LRow) (num : Int → Prop) (come : Nat → Prop) (K : Nat → LFact → Prop) : Prop where
  c0 : come 0
  ok : ∀ k f, K k f → FactOk B s slots num f
  beg : ∀ f, K 0 f → f.n = 0
  next : ∀ k x, come k → k < C.length → x ∈ nextsN (C.getD k .zero) k → x < C.length → come x ∧ ∀ f, K x f → thruK (FactOk B s slots num) (C.getD k .zero) (R.getD k .zero) (K k) f

theorem gv_same {i : LIns} {a b a' b' x : Int} (hg : givesB i.op = true) (hk : knownB i.op = true) (ha : 0 < manyI i.op → a = a') (hb : 1 < manyI i.op → b = b') : gvI i a b x = gvI i a' b' x := by
  unfold gvI
  split
  · rfl
  split
  · rename_i h1 h2
    exact ha (by unfold manyI; rw [if_neg (by omega), if_pos (by omega)]; omega)
  split
  · rfl
  split
  · rename_i h1 h2 h3 h5
    rw [ha (by unfold manyI; rw [if_neg (by omega), if_neg (by omega)]; omega), hb (by unfold manyI; rw [if_neg (by omega), if_neg (by omega)]; omega)]
  split
  · rename_i h1 h2 h3 h5 h6
    rw [ha (by unfold manyI; rw [if_neg (by omega), if_pos (by omega)]; omega)]
  split
  · rename_i h1 h2 h3 h5 h6 h7
    rw [ha (by unfold manyI; rw [if_neg (by omega), if_pos (by omega)]; omega)]
  · rename_i h1 h2 h3 h5 h6 h7
    unfold knownB at hk
    unfold givesB at hg
    simp at hk hg
    rw [ha (by unfold manyI; rw [if_neg (by omega), if_neg (by omega)]; omega), hb (by unfold manyI; rw [if_neg (by omega), if_neg (by omega)]; omega)]

theorem nx_same {i : LIns} {pc : Nat} {a a' : Int} (ha : 0 < manyI i.op → a = a') : nxI i pc a = nxI i pc a' := by
  unfold nxI
  by_cases h9 : i.op = 9
  · rw [ha (by unfold manyI; rw [if_neg (by omega), if_pos (by omega)]; omega)]
  · by_cases h8 : i.op = 8
    · rw [if_pos (Or.inl h8), if_pos (Or.inl h8)]
    · rw [if_neg (by omega), if_neg (by omega)]

theorem nx_next {i : LIns} {nC pc : Nat} {a : Int} (h : stI i nC (nxI i pc a) = 0) : (nxI i pc a).toNat ∈ nextsN i pc ∧ nxI i pc a < nC := by
  unfold stI at h
  split at h
  · omega
  rename_i h10
  split at h
  · omega
  refine ⟨?_, by omega⟩
  unfold nextsN nextsI nxI
  by_cases h8 : i.op = 8
  · rw [if_pos (Or.inl h8), if_pos h8]; simp
  · by_cases h9 : i.op = 9
    · rw [if_neg h8, if_neg h10, if_pos h9]
      split <;> simp
    · rw [if_neg h8, if_neg h10, if_neg h9, if_neg (by omega)]; simp

theorem reg_is {B : List Bool} {s slots t : Int} {p : LPlace} (h : regB B s t p = true) : isB s slots p = true ∧ (p.kind = 1 ∨ p.kind = 2) ∧ (p.kind = 1 → B.getD t.toNat false = false) := by
  unfold regB at h
  rw [Bool.and_eq_true] at h
  obtain ⟨h1, h2⟩ := h
  have hk : p.kind = 1 ∨ p.kind = 2 := by cases hB : B.getD t.toNat false <;> rw [hB] at h1 <;> simp at h1 <;> omega
  refine ⟨?_, hk, fun e => ?_⟩
  · unfold isB at h2 ⊢
    rcases hk with e | e
    · rw [if_pos e] at h2 ⊢; exact h2
    · rw [if_neg (by omega), if_pos e] at h2 ⊢; exact h2
  · cases hB : B.getD t.toNat false with
    | false => rfl
    | true => rw [hB] at h1; simp at h1; omega

structure Sim (B : List Bool) (s slots : Int) (come : Nat → Prop) (K : Nat → LFact → Prop) (m : Mac) (p : PMac) : Prop where
  pc : p.pc = m.pc
  taken : p.taken = m.taken
  out : p.out = m.out
  state : p.state = m.state
  steps : p.steps = m.steps
  sto : StoAt s slots p.sto
  hold : m.state = 0 → come m.pc ∧ AllHold m.temps p.sto (K m.pc)

theorem sim_step {B : List Bool} {C : List LIns} {s slots : Int} {R : List LRow} {num : Int → Prop} (hnum : ∀ x, num x → 0 ≤ x ∧ x < 4294967296) {come : Nat → Prop} {K : Nat → LFact → Prop} {ins : List Int} {m : Mac} {p : PMac}
    (hG : GoodK B C s slots R num come K) (hU : ∀ k, come k → k < C.length → usesK (FactOk B s slots num) (C.getD k .zero) (R.getD k .zero) (K k))
    (hI : ∀ k, k < C.length → insB B C.length (C.getD k .zero) = true ∧ InsOk B.length C.length (C.getD k .zero)) (hR : ∀ k, k < C.length → rowB B s slots (C.getD k .zero) (R.getD k .zero) = true)
    (hRn : ∀ k, k < C.length → ∀ x, x ∈ (R.getD k .zero).before ∨ x ∈ (R.getD k .zero).after → 0 ≤ x.n ∧ x.n < 4294967296)
    (hin : ∀ j, j < ins.length → 0 ≤ ins.getD j 0 ∧ ins.getD j 0 < 4294967296) (hm : MOk B.length C.length ins.length m) (hw : WOk B m.temps) (h0 : m.state = 0) (h : Sim B s slots come K m p) : Sim B s slots come K (m.step C ins) (p.step C R ins) := by
  have hpc := hm.pcok h0
  obtain ⟨hcome, hold⟩ := h.hold h0
  obtain ⟨hib, hio⟩ := hI m.pc hpc
  have hrow := hR m.pc hpc
  have hrn := hRn m.pc hpc
  have hus := hU m.pc hcome hpc
  have hnx := hG.next m.pc
  have hKok := hG.ok m.pc
  unfold Mac.step PMac.step
  rw [h.pc, h.taken, h.out, h.steps]
  obtain ⟨i, hi⟩ : ∃ i, i = C.getD m.pc .zero := ⟨_, rfl⟩
  obtain ⟨r, hr⟩ : ∃ r, r = R.getD m.pc .zero := ⟨_, rfl⟩
  rw [← hi] at hib hio hrow hus hnx
  rw [← hr] at hrow hrn hus hnx
  rw [← hi, ← hr]
  unfold rowB at hrow
  simp only [Bool.and_eq_true] at hrow
  obtain ⟨⟨⟨⟨⟨rd, ra⟩, rb⟩, rbef⟩, raft⟩, _⟩ := hrow
  unfold movesB at rbef raft
  simp only [Bool.and_eq_true, List.all_eq_true] at rbef raft
  obtain ⟨st1, hst1⟩ : ∃ st1, st1 = movesP p.sto r.before := ⟨_, rfl⟩
  obtain ⟨hs1, hold1⟩ := moves_sound (B := B) (num := num) hnum hw hm.bd r.before p.sto (K m.pc) (fun x hx => ⟨rbef.2 x hx, hrn x (Or.inl hx)⟩) h.sto hold
  rw [← hst1] at hs1 hold1
  have hKb : ∀ f, movesK (FactOk B s slots num) r.before (K m.pc) f → FactOk B s slots num f := by
    have : ∀ (l : List LMove) (K : LFact → Prop), (∀ f, K f → FactOk B s slots num f) → ∀ f, movesK (FactOk B s slots num) l K f → FactOk B s slots num f := by
      intro l
      induction l with
      | nil => exact fun K h => h
      | cons x l ih => exact fun K h => ih _ (fun f hf => hf.1)
    exact this _ _ hKok
  have hA : 0 < manyI i.op → getP st1 r.a = m.temps.getD i.a.toNat 0 := fun hp => by
    have := hold1 _ (hus.1 hp)
    unfold fieldP at ra
    rw [if_pos (by simpa using hp)] at ra
    have hk := (reg_is (slots := slots) ra).2.1
    unfold Holds at this
    simp only at this
    rw [if_neg (by omega), if_pos trivial] at this
    exact this
  have hB : 1 < manyI i.op → getP st1 r.b = m.temps.getD i.b.toNat 0 := fun hp => by
    have := hold1 _ (hus.2 hp)
    unfold fieldP at rb
    rw [if_pos (by simpa using hp)] at rb
    have hk := (reg_is (slots := slots) rb).2.1
    unfold Holds at this
    simp only at this
    rw [if_neg (by omega), if_pos trivial] at this
    exact this
  have hkn : knownB i.op = true := by
    unfold insB at hib
    simp only [Bool.and_eq_true] at hib
    exact hib.1.1.1.1.1.1
  have hnxe : nxI i m.pc (getP st1 r.a) = nxI i m.pc (m.temps.getD i.a.toNat 0) := nx_same hA
  have hx := inOf_bd hin m.taken
  simp only
  rw [← hst1, hnxe]
  have hgve : givesB i.op = true → gvI i (getP st1 r.a) (getP st1 r.b) (inOf ins m.taken) = gvI i (m.temps.getD i.a.toNat 0) (m.temps.getD i.b.toNat 0) (inOf ins m.taken) := fun hg => gv_same hg hkn hA hB
  have hvb : U64i (gvI i (m.temps.getD i.a.toNat 0) (m.temps.getD i.b.toNat 0) (inOf ins m.taken)) := gvI_bd _ _ _ _ (hm.bd _) (hm.bd _) hx.1 hx.2 hio.n0 hio.n1
  -- behind the instruction
  have hmid : StoAt s slots (if givesB i.op = true then putP st1 r.dest (gvI i (getP st1 r.a) (getP st1 r.b) (inOf ins m.taken)) else st1) ∧
      AllHold (if givesB i.op = true then m.temps.set i.dest.toNat (gvI i (m.temps.getD i.a.toNat 0) (m.temps.getD i.b.toNat 0) (inOf ins m.taken)) else m.temps) (if givesB i.op = true then putP st1 r.dest (gvI i (getP st1 r.a) (getP st1 r.b) (inOf ins m.taken)) else st1)
        (if givesB i.op = true then insK (FactOk B s slots num) i r.dest (movesK (FactOk B s slots num) r.before (K m.pc)) else movesK (FactOk B s slots num) r.before (K m.pc)) := by
    cases hg : givesB i.op with
    | false => simp only [Bool.false_eq_true, if_false]; exact ⟨hs1, hold1⟩
    | true =>
      simp only [if_true]
      rw [hgve hg]
      unfold fieldP at rd
      rw [if_pos hg] at rd
      obtain ⟨r1, r2, r3⟩ := reg_is (slots := slots) rd
      obtain ⟨d0, d1⟩ := hio.d hg
      refine ⟨sto_at_put hs1 hvb, ins_sound hm.len d0 d1 r1 r2 (fun e => wok_give hib hio hw hm.bd hx.1 hx.2 hg (r3 e)) hvb hs1 ?_ ?_ (fun _ => hio.a0) hKb hold1⟩
      · intro e; unfold gvI; rw [if_pos e]
      · intro e; unfold gvI; rw [if_neg (by omega), if_pos e]
  have hw2 : WOk B (m.step C ins).temps := wok_step (by rw [← hi]; exact hib) (by rw [← hi]; exact hio) hw hm hin
  have hm2 : MOk B.length C.length ins.length (m.step C ins) := mok_step hm h0 (by rw [← hi]; exact hio) hin
  have e2 : (m.step C ins).temps = (if givesB i.op = true then m.temps.set i.dest.toNat (gvI i (m.temps.getD i.a.toNat 0) (m.temps.getD i.b.toNat 0) (inOf ins m.taken)) else m.temps) := by unfold Mac.step; rw [hi]
  have hb2 := hm2.bd
  rw [e2] at hw2 hb2
  obtain ⟨hs3, hold3⟩ := moves_sound (B := B) (num := num) hnum hw2 hb2 r.after _ _ (fun x hx => ⟨raft.2 x hx, hrn x (Or.inr hx)⟩) hmid.1 hmid.2
  refine ⟨rfl, rfl, ?_, rfl, rfl, hs3, fun hst => ?_⟩
  · by_cases h4 : i.op = 4
    · rw [if_pos h4, if_pos h4, hA (by unfold manyI; rw [if_neg (by omega), if_pos (by omega)]; omega)]
    · rw [if_neg h4, if_neg h4]
  · simp only at hst ⊢
    obtain ⟨n1, n2⟩ := nx_next hst
    have hpos : 0 ≤ nxI i m.pc (m.temps.getD i.a.toNat 0) := by
      unfold nxI
      split
      · rename_i h8
        exact (hio.c (by omega)).1
      · omega
    obtain ⟨q1, q2⟩ := hnx _ hcome hpc n1 (by omega)
    refine ⟨q1, fun f hf => ?_⟩
    exact hold3 f (q2 f hf)

theorem sim_go {B : List Bool} {C : List LIns} {s slots : Int} {R : List LRow} {num : Int → Prop} (hnum : ∀ x, num x → 0 ≤ x ∧ x < 4294967296) {come : Nat → Prop} {K : Nat → LFact → Prop} {ins : List Int}
    (hG : GoodK B C s slots R num come K) (hU : ∀ k, come k → k < C.length → usesK (FactOk B s slots num) (C.getD k .zero) (R.getD k .zero) (K k))
    (hI : ∀ k, k < C.length → insB B C.length (C.getD k .zero) = true ∧ InsOk B.length C.length (C.getD k .zero)) (hR : ∀ k, k < C.length → rowB B s slots (C.getD k .zero) (R.getD k .zero) = true)
    (hRn : ∀ k, k < C.length → ∀ x, x ∈ (R.getD k .zero).before ∨ x ∈ (R.getD k .zero).after → 0 ≤ x.n ∧ x.n < 4294967296)
    (hin : ∀ j, j < ins.length → 0 ≤ ins.getD j 0 ∧ ins.getD j 0 < 4294967296) : ∀ (n : Nat) (m : Mac) (p : PMac), MOk B.length C.length ins.length m → WOk B m.temps → Sim B s slots come K m p → Sim B s slots come K (Mac.go C ins n m) (PMac.go C R ins n p) := by
  intro n
  induction n with
  | zero => exact fun m p _ _ h => h
  | succ n ih =>
    intro m p hm hw h
    unfold Mac.go PMac.go
    by_cases h0 : m.state = 0
    · rw [if_pos h0, if_pos (by rw [h.state]; exact h0)]
      have hpc := hm.pcok h0
      exact ih _ _ (mok_step hm h0 (hI m.pc hpc).2 hin) (wok_step (hI m.pc hpc).1 (hI m.pc hpc).2 hw hm hin) (sim_step hnum hG hU hI hR hRn hin hm hw h0 h)
    · rw [if_neg h0, if_neg (by rw [h.state]; exact h0)]
      exact h

theorem getD_rep (n j : Nat) : (List.replicate n (0 : Int)).getD j 0 = 0 := by
  by_cases h : j < n <;> simp [List.getD, h]

theorem sto_start {s slots : Nat} (hs : s ≤ 16) (he : s % 2 = 0) (hl : slots ≤ 12) : StoAt s slots (PMac.start s slots).sto := by
  refine ⟨⟨fun j => ?_, fun j => ?_, by simp [PMac.start]; omega, by simp [PMac.start]; omega, by simp [PMac.start]; omega⟩, by simp [PMac.start], by simp [PMac.start]⟩
  · unfold PMac.start; simp only; rw [getD_rep]; omega
  · unfold PMac.start; simp only; rw [getD_rep]; exact ⟨by omega, by omega⟩

theorem get_start (s slots : Nat) (q : LPlace) : getP (PMac.start s slots).sto q = 0 := by
  unfold getP PMac.start
  simp only
  rw [getD_rep, getD_rep, getD_rep, getD_rep]
  split
  · rfl
  split
  · rfl
  split <;> rfl

theorem target_of {s : Int} (h : targetB s = true) : 4 ≤ s ∧ s ≤ 16 ∧ s % 2 = 0 := by
  unfold targetB at h
  simp at h
  omega

theorem sim_play {B : List Bool} {C : List LIns} {s slots : Nat} {R : List LRow} {num : Int → Prop} (hnum : ∀ x, num x → 0 ≤ x ∧ x < 4294967296) {come : Nat → Prop} {K : Nat → LFact → Prop} {ins : List Int}
    (hmay : placeMayB B C s slots R = true) (hn : ∀ i, i < C.length → 0 ≤ (C.getD i .zero).n ∧ (C.getD i .zero).n < 4294967296)
    (hG : GoodK B C s slots R num come K) (hU : ∀ k, come k → k < C.length → usesK (FactOk B s slots num) (C.getD k .zero) (R.getD k .zero) (K k))
    (hRn : ∀ k, k < C.length → ∀ x, x ∈ (R.getD k .zero).before ∨ x ∈ (R.getD k .zero).after → 0 ≤ x.n ∧ x.n < 4294967296)
    (hin : ∀ j, j < ins.length → 0 ≤ ins.getD j 0 ∧ ins.getD j 0 < 4294967296) (n : Nat) :
    (playP C R s slots ins n).out = (playM B C ins n).out ∧ (playP C R s slots ins n).state = (playM B C ins n).state ∧ (playP C R s slots ins n).steps = (playM B C ins n).steps := by
  unfold placeMayB at hmay
  simp only [Bool.and_eq_true, Bool.not_eq_true', decide_eq_true_eq, decide_eq_false_iff_not, List.all_eq_true, List.mem_range] at hmay
  obtain ⟨⟨⟨⟨⟨h1, h2⟩, h3⟩, h4⟩, h5⟩, h6⟩ := hmay
  have hs := target_of h2
  have hsz : sizesB B C = true := by unfold refMayB at h1; simp only [Bool.and_eq_true] at h1; exact h1.1
  obtain ⟨s1, s2, s3, s4⟩ := sizes_of hsz
  have hok := all_insOk h1 hn
  have hib : ∀ k, k < C.length → insB B C.length (C.getD k .zero) = true := fun k hk => by
    unfold refMayB at h1
    simp only [Bool.and_eq_true] at h1
    exact List.all_eq_true.1 h1.2 (C.getD k .zero) (by simp [List.getD, hk])
  have h0 : Sim B s slots come K (Mac.start B.length) (PMac.start s slots) := by
    refine ⟨rfl, rfl, rfl, rfl, rfl, sto_start (by omega) (by omega) (by omega), fun _ => ⟨hG.c0, fun f hf => ?_⟩⟩
    have hz := hG.beg f hf
    have ht : (Mac.start B.length).temps.getD f.t.toNat 0 = 0 := getD_rep _ _
    unfold Holds
    rw [ht, get_start, hz]
    split
    · rfl
    split <;> rfl
  have := sim_go hnum hG hU (fun k hk => ⟨hib k hk, hok k hk⟩) h6 hRn hin n _ _ (mok_start _ _ _ s3) (wok_start B) h0
  exact ⟨this.out, this.state, this.steps⟩

end Go.Proofs.YtcmnmogmdhofcabGreat.form

/- Facts that are known ahead of each instruction: the greatest sets; places that are taken; they do what the program does. On plain numbers. -/
namespace Go.Proofs.YtcmnmogmdhofcabGreat.form
open Go.RowKit Go.Proofs.YtcmnmogmdhofcabGreat.num
set_option linter.unusedVariables false

def NumP (C : List LIns) (x : Int) : Prop := x = 0 ∨ ∃ k, k < C.length ∧ (C.getD k .zero).op = 1 ∧ (C.getD k .zero).n = x

def ReachN (C : List LIns) : Nat → Nat → Prop
  | 0, k => k = 0
  | n + 1, k => ∃ j, ReachN C n j ∧ j < C.length ∧ k ∈ nextsN (C.getD j .zero) j ∧ k < C.length
def Reach (C : List LIns) (k : Nat) : Prop := ∃ n, ReachN C n k

theorem reach_start (C : List LIns) : Reach C 0 := ⟨0, rfl⟩
theorem reach_next {C : List LIns} {j k : Nat} (h : Reach C j) (hj : j < C.length) (hk : k ∈ nextsN (C.getD j .zero) j) (hl : k < C.length) : Reach C k := by
  obtain ⟨n, hn⟩ := h
  exact ⟨n + 1, j, hn, hj, hk, hl⟩
theorem reach_least {C : List LIns} {P : Nat → Prop} (h0 : P 0) (h : ∀ j k, P j → j < C.length → k ∈ nextsN (C.getD j .zero) j → k < C.length → P k) : ∀ k, Reach C k → P k := by
  have : ∀ n k, ReachN C n k → P k := by
    intro n
    induction n with
    | zero => intro k hk; rw [show k = 0 from hk]; exact h0
    | succ n ih =>
      rintro k ⟨j, hj, hl, hk, hkl⟩
      exact h j k (ih j hj) hl hk hkl
  rintro k ⟨n, hn⟩
  exact this n k hn
theorem moveK_mono {ok : LFact → Prop} {m : LMove} {K K' : LFact → Prop} (h : ∀ f, K f → K' f) {f : LFact} (hf : moveK ok m K f) : moveK ok m K' f := by
  refine ⟨hf.1, ?_⟩
  have hf := hf.2
  split at hf
  · rename_i h1; rw [if_pos h1]; exact h _ hf
  · rename_i h1
    rw [if_neg h1]
    refine ⟨hf.1, ?_⟩
    have hf := hf.2
    split at hf
    · rename_i h2; rw [if_pos h2]; exact h _ hf
    · rename_i h2
      rw [if_neg h2]
      split at hf
      · rename_i h3; rw [if_pos h3]; exact h _ hf
      · rename_i h3; rw [if_neg h3]; exact hf
theorem movesK_mono {ok : LFact → Prop} (l : List LMove) : ∀ {K K' : LFact → Prop}, (∀ f, K f → K' f) → ∀ f, movesK ok l K f → movesK ok l K' f := by
  induction l with
  | nil => exact fun h f hf => h f hf
  | cons m l ih => exact fun h f hf => ih (fun f hf => moveK_mono h hf) f hf
theorem insK_mono {ok : LFact → Prop} {i : LIns} {L : LPlace} {K K' : LFact → Prop} (h : ∀ f, K f → K' f) {f : LFact} (hf : insK ok i L K f) : insK ok i L K' f := by
  refine ⟨hf.1, ?_⟩
  have hf := hf.2
  split at hf
  · rename_i h1; rw [if_pos h1]; trivial
  rename_i h1
  rw [if_neg h1]
  split at hf
  · rename_i h2; rw [if_pos h2]; exact h _ hf
  rename_i h2
  rw [if_neg h2]
  split at hf
  · rename_i h3; rw [if_pos h3]; exact h _ hf
  rename_i h3
  rw [if_neg h3]
  split at hf
  · rename_i h4; rw [if_pos h4]; exact h _ hf
  rename_i h4
  rw [if_neg h4]
  split at hf
  · rename_i h5; rw [if_pos h5]; exact hf
  rename_i h5
  rw [if_neg h5]
  split at hf
  · rename_i h6; rw [if_pos h6]; trivial
  rename_i h6
  rw [if_neg h6]
  exact ⟨h _ hf.1, hf.2⟩
theorem thruK_mono {ok : LFact → Prop} {i : LIns} {r : LRow} {K K' : LFact → Prop} (h : ∀ f, K f → K' f) {f : LFact} (hf : thruK ok i r K f) : thruK ok i r K' f := by
  unfold thruK at hf ⊢
  refine movesK_mono _ (fun g hg => ?_) f hf
  split at hg
  · rename_i h1; rw [if_pos h1]; exact insK_mono (movesK_mono _ h) hg
  · rename_i h1; rw [if_neg h1]; exact movesK_mono _ h g hg
def Known (B : List Bool) (C : List LIns) (s slots : Int) (R : List LRow) (k : Nat) (f : LFact) : Prop := ∃ K, GoodK B C s slots R (NumP C) (Reach C) K ∧ K k f

theorem known_good (B : List Bool) (C : List LIns) (s slots : Int) (R : List LRow) : GoodK B C s slots R (NumP C) (Reach C) (Known B C s slots R) := by
  refine ⟨reach_start C, ?_, ?_, ?_⟩
  · rintro k f ⟨K, hK, hf⟩; exact hK.ok k f hf
  · rintro f ⟨K, hK, hf⟩; exact hK.beg f hf
  · intro k x hk hl hx hxl
    refine ⟨reach_next hk hl hx hxl, ?_⟩
    rintro f ⟨K, hK, hf⟩
    exact thruK_mono (fun g hg => ⟨K, hK, hg⟩) ((hK.next k x hk hl hx hxl).2 f hf)

def TakenP (B : List Bool) (C : List LIns) (s slots : Int) (R : List LRow) : Prop :=
  placeMayB B C s slots R = true ∧ ∀ k, Reach C k → k < C.length → usesK (FactOk B s slots (NumP C)) (C.getD k .zero) (R.getD k .zero) (Known B C s slots R k)

theorem num_bd {C : List LIns} (hn : ∀ i, i < C.length → 0 ≤ (C.getD i .zero).n ∧ (C.getD i .zero).n < 4294967296) : ∀ x, NumP C x → 0 ≤ x ∧ x < 4294967296 := by
  rintro x (rfl | ⟨k, hk, _, rfl⟩)
  · omega
  · exact hn k hk

theorem taken_same {B : List Bool} {C : List LIns} {s slots : Nat} {R : List LRow} {ins : List Int} (ht : TakenP B C s slots R) (hn : ∀ i, i < C.length → 0 ≤ (C.getD i .zero).n ∧ (C.getD i .zero).n < 4294967296)
    (hRn : ∀ k, k < C.length → ∀ x, x ∈ (R.getD k .zero).before ∨ x ∈ (R.getD k .zero).after → 0 ≤ x.n ∧ x.n < 4294967296)
    (hin : ∀ j, j < ins.length → 0 ≤ ins.getD j 0 ∧ ins.getD j 0 < 4294967296) (n : Nat) :
    (playP C R s slots ins n).out = (playM B C ins n).out ∧ (playP C R s slots ins n).state = (playM B C ins n).state ∧ (playP C R s slots ins n).steps = (playM B C ins n).steps :=
  sim_play (num_bd hn) ht.1 hn (known_good B C s slots R) ht.2 hRn hin n

theorem found_known {B : List Bool} {C : List LIns} {s slots : Int} {R : List LRow} {S : Nat → LFact → Prop} (hok : ∀ k f, S k f → FactOk B s slots (NumP C) f) (hbeg : ∀ f, S 0 f → f.n = 0)
    (hnext : ∀ k x, Reach C k → k < C.length → x ∈ nextsN (C.getD k .zero) k → x < C.length → ∀ f, S x f → thruK (FactOk B s slots (NumP C)) (C.getD k .zero) (R.getD k .zero) (S k) f)
    (hup : ∀ k f, Reach C k → Known B C s slots R k f → S k f) {k : Nat} (hk : Reach C k) (f : LFact) : S k f ↔ Known B C s slots R k f :=
  ⟨fun h => ⟨S, ⟨reach_start C, hok, hbeg, fun k x hk hl hx hxl => ⟨reach_next hk hl hx hxl, hnext k x hk hl hx hxl⟩⟩, h⟩, hup k f hk⟩

end Go.Proofs.YtcmnmogmdhofcabGreat.form

/- All facts that may be, in their order, as a list on plain numbers; the numbers of a program, rising. -/
namespace Go.Proofs.YtcmnmogmdhofcabGreat.form
open Go.RowKit Go.Proofs.YtcmnmogmdhofcabGreat.num
set_option linter.unusedVariables false
end Go.Proofs.YtcmnmogmdhofcabGreat.form

/- Numbers of 64 bits as bits: the operations on them. -/
namespace Go.Proofs.YtcmnmogmdhofcabGreat.form
open Go.RowKit
set_option linter.unusedVariables false

abbrev Bits := BitVec 64
def bn (x : Bits) : Int := (x.toNat : Int)
theorem bits_bd (x : Bits) : 0 ≤ bn x ∧ bn x < 18446744073709551616 := by have := x.isLt; unfold bn; omega
theorem bits_of {a : Int} (h0 : 0 ≤ a) (h1 : a < 18446744073709551616) : ∃ x : Bits, a = bn x := ⟨BitVec.ofNat 64 a.toNat, by unfold bn; rw [BitVec.toNat_ofNat, Nat.mod_eq_of_lt (by omega)]; omega⟩
theorem bits_inj {x y : Bits} (h : bn x = bn y) : x = y := BitVec.eq_of_toNat_eq (by unfold bn at h; omega)
theorem wrapU {x : Int} (h0 : 0 ≤ x) (h1 : x < 18446744073709551616) : IntKind.u64.wrap x = x := by
  simp [IntKind.wrap, IntKind.bits, IntKind.signed]
  omega
theorem ofInt_toNat (a : Bits) : BitVec.ofInt 64 (a.toNat : Int) = a := by
  apply BitVec.eq_of_toNat_eq
  simp
theorem and_is (a b : Bits) : Go.bits .and .u64 (bn a) (bn b) = bn (a &&& b) := by
  have h := bits_bd (a &&& b)
  show IntKind.u64.wrap ((BitVec.ofInt 64 (a.toNat : Int) &&& BitVec.ofInt 64 (b.toNat : Int)).toNat : Int) = _
  rw [ofInt_toNat, ofInt_toNat]
  exact wrapU h.1 h.2
theorem or_is (a b : Bits) : Go.bits .or .u64 (bn a) (bn b) = bn (a ||| b) := by
  have h := bits_bd (a ||| b)
  show IntKind.u64.wrap ((BitVec.ofInt 64 (a.toNat : Int) ||| BitVec.ofInt 64 (b.toNat : Int)).toNat : Int) = _
  rw [ofInt_toNat, ofInt_toNat]
  exact wrapU h.1 h.2
theorem andNot_is (a b : Bits) : Go.bits .andNot .u64 (bn a) (bn b) = bn (a &&& ~~~ b) := by
  have h := bits_bd (a &&& ~~~ b)
  show IntKind.u64.wrap ((BitVec.ofInt 64 (a.toNat : Int) &&& ~~~ BitVec.ofInt 64 (b.toNat : Int)).toNat : Int) = _
  rw [ofInt_toNat, ofInt_toNat]
  exact wrapU h.1 h.2
theorem ne_is (x : Bits) : (bn x != 0) = !(x == 0) := by
  unfold bn
  rw [Bool.eq_iff_iff]
  simp
  constructor
  · intro h e; rw [e] at h; simp at h
  · intro h e; exact h (BitVec.eq_of_toNat_eq (by simpa using e))
theorem xor_is (a b : Bits) : Go.bits .xor .u64 (bn a) (bn b) = bn (a ^^^ b) := by
  have h := bits_bd (a ^^^ b)
  show IntKind.u64.wrap ((BitVec.ofInt 64 (a.toNat : Int) ^^^ BitVec.ofInt 64 (b.toNat : Int)).toNat : Int) = _
  rw [ofInt_toNat, ofInt_toNat]
  exact wrapU h.1 h.2
theorem shlk_is (a : Bits) (k : Nat) : IntKind.u64.wrap (bn a * 2 ^ k) = bn (a <<< k) := by
  have e : bn (a <<< k) = ((a.toNat * 2 ^ k % 18446744073709551616 : Nat) : Int) := by
    unfold bn
    rw [BitVec.toNat_shiftLeft, Nat.shiftLeft_eq]
  rw [e]
  unfold bn
  simp [IntKind.wrap, IntKind.bits, IntKind.signed]
theorem shrk_is (a : Bits) (k : Nat) : bn a / 2 ^ k = bn (a >>> k) := by
  unfold bn
  rw [BitVec.toNat_ushiftRight, Nat.shiftRight_eq_div_pow]
  push_cast
  rfl
theorem and_low (a b : Bits) : bn (a &&& b) ≤ bn b := by
  unfold bn
  rw [BitVec.toNat_and]
  have := Nat.and_le_right (n := a.toNat) (m := b.toNat)
  omega

end Go.Proofs.YtcmnmogmdhofcabGreat.form

/- Facts as bits, on plain numbers: of each place which temporaries it has, and which numbers it is; of each temporary which numbers it is. What comes of them by moves and by instructions is what is known. -/
namespace Go.Proofs.YtcmnmogmdhofcabGreat.form
open Go.RowKit Go.Proofs.YtcmnmogmdhofcabGreat.num
set_option linter.unusedVariables false

def only (k : Nat) : Bits := BitVec.twoPow 64 k
theorem only_bit {k j : Nat} (hk : k < 64) : (only k).getLsbD j = true ↔ j = k := by
  unfold only
  rw [BitVec.getLsbD_twoPow]
  simp [hk, eq_comm]
theorem bits_ne {x : Bits} : ¬ x = 0 ↔ ∃ k, x.getLsbD k = true := by
  constructor
  · intro h
    refine Classical.byContradiction fun hno => h ?_
    apply BitVec.eq_of_getLsbD_eq
    intro i hi
    cases hc : x.getLsbD i with
    | false => simp
    | true => exact absurd ⟨i, hc⟩ hno
  · rintro ⟨k, hk⟩ rfl
    simp at hk
theorem bits_and {x y : Bits} {k : Nat} : (x &&& y).getLsbD k = true ↔ x.getLsbD k = true ∧ y.getLsbD k = true := by simp
theorem bits_or {x y : Bits} {k : Nat} : (x ||| y).getLsbD k = true ↔ x.getLsbD k = true ∨ y.getLsbD k = true := by simp
theorem bits_or_only {x : Bits} {d k : Nat} (hd : d < 64) : (x ||| only d).getLsbD k = true ↔ x.getLsbD k = true ∨ k = d := by rw [bits_or, only_bit hd]
theorem bits_not_only {x : Bits} {d k : Nat} (hd : d < 64) : (x &&& ~~~ only d).getLsbD k = true ↔ x.getLsbD k = true ∧ ¬ k = d := by
  have h := only_bit (k := d) (j := k) hd
  by_cases hk : k < 64
  · rw [BitVec.getLsbD_and, BitVec.getLsbD_not, Bool.and_eq_true]
    simp only [hk, decide_true, Bool.true_and, Bool.not_eq_true', ← h, Bool.not_eq_true]
  · rw [BitVec.getLsbD_of_ge _ _ (Nat.le_of_not_lt hk), BitVec.getLsbD_of_ge _ _ (Nat.le_of_not_lt hk)]
    simp
def nAt (N : List Int) (k : Nat) : Int := N.getD k 0

structure FM where
  has : LPlace → Bits
  is : LPlace → Bits
  tmp : Int → Bits

def Kof (N : List Int) (m : FM) (f : LFact) : Prop :=
  if f.pl.kind = 0 then f.pl.n = 0 ∧ f.temp = true ∧ ∃ k, k < N.length ∧ nAt N k = f.n ∧ (m.tmp f.t).getLsbD k = true
  else if f.temp = true then f.n = 0 ∧ 0 ≤ f.t ∧ (m.has f.pl).getLsbD f.t.toNat = true
  else f.t = 0 ∧ ∃ k, k < N.length ∧ nAt N k = f.n ∧ (m.is f.pl).getLsbD k = true

structure FmOk (B : List Bool) (s slots : Int) (N : List Int) (m : FM) : Prop where
  has : ∀ p t, (m.has p).getLsbD t = true → isB s slots p = true ∧ t < B.length ∧ (p.kind = 1 → B.getD t false = false) ∧ (p.kind = 2 → B.getD t false = true)
  is : ∀ p k, (m.is p).getLsbD k = true → isB s slots p = true ∧ k < N.length ∧ ¬ p.kind = 2
  tmp : ∀ t k, (m.tmp t).getLsbD k = true → 0 ≤ t ∧ t < B.length ∧ B.getD t.toNat false = false ∧ k < N.length

def NumsOf (C : List LIns) (N : List Int) : Prop := ∀ x, (∃ k, k < N.length ∧ nAt N k = x) ↔ NumP C x

theorem Kof.ok {B : List Bool} {s slots : Int} {C : List LIns} {N : List Int} {m : FM} (hm : FmOk B s slots N m) (hN : NumsOf C N) {f : LFact} (h : Kof N m f) : FactOk B s slots (NumP C) f := by
  unfold Kof at h
  by_cases h0 : f.pl.kind = 0
  · rw [if_pos h0] at h
    obtain ⟨h1, h2, k, hk, hn, hb⟩ := h
    obtain ⟨t0, t1, tn, -⟩ := hm.tmp _ _ hb
    exact ⟨Or.inl ⟨h0, h1, h2⟩, fun _ => ⟨t0, t1⟩, fun _ _ => tn, fun _ h => by omega, fun _ => (hN _).1 ⟨k, hk, hn⟩, fun h => absurd h0 h, fun h => (by rw [h2] at h; cases h), fun h => (by rw [h2] at h; cases h)⟩
  rw [if_neg h0] at h
  by_cases ht : f.temp = true
  · rw [if_pos ht] at h
    obtain ⟨h1, h2, hb⟩ := h
    obtain ⟨p1, p2, p3, p4⟩ := hm.has _ _ hb
    exact ⟨Or.inr p1, fun _ => ⟨h2, by omega⟩, fun _ h => (by rcases h with h | h; exact absurd h h0; exact p3 h), fun _ h => p4 h, fun h => (by rcases h with h | h; exact absurd h h0; rw [ht] at h; cases h), fun _ _ => h1, fun h => (by rw [ht] at h; cases h), fun h => (by rw [ht] at h; cases h)⟩
  · rw [if_neg ht] at h
    obtain ⟨h1, k, hk, hn, hb⟩ := h
    obtain ⟨p1, p2, p3⟩ := hm.is _ _ hb
    exact ⟨Or.inr p1, fun h => absurd h ht, fun h => absurd h ht, fun h => absurd h ht, fun _ => (hN _).1 ⟨k, hk, hn⟩, fun _ h => absurd h ht, fun _ => h1, fun _ => p3⟩

def updP (g : LPlace → Bits) (q : LPlace) (x : Bits) : LPlace → Bits := fun p => if samePl p q = true then x else g p
def keepP (g : LPlace → Bits) (q : LPlace) : LPlace → Bits := fun p => if overB p q = true then 0 else g p
def updT (g : Int → Bits) (t : Int) (x : Bits) : Int → Bits := fun u => if u = t then x else g u

theorem samePl_refl (p : LPlace) : samePl p p = true := by simp [samePl]
theorem overB_refl (p : LPlace) : overB p p = true := by unfold overB; simp
theorem same_over {p q : LPlace} (h : samePl p q = true) : overB p q = true := by rw [samePl_eq h]; exact overB_refl q

def moveF (m : FM) (d : LPlace) (gh gi : Bits) : FM := ⟨updP (keepP m.has d) d gh, updP (keepP m.is d) d gi, m.tmp⟩

structure GotM (B : List Bool) (N : List Int) (m : FM) (v : LMove) (gh gi : Bits) : Prop where
  h : ∀ t, gh.getLsbD t = true ↔ if v.cst = true then (t < B.length ∧ ∃ k, k < N.length ∧ nAt N k = v.n ∧ (m.tmp t).getLsbD k = true) else ((m.has v.src).getLsbD t = true ∧ t < B.length ∧ (v.dst.kind = 3 ∨ B.getD t false = decide (v.dst.kind = 2)))
  i : ∀ k, gi.getLsbD k = true ↔ if v.cst = true then (k < N.length ∧ nAt N k = v.n) else ((m.is v.src).getLsbD k = true ∧ k < N.length ∧ ¬ v.dst.kind = 2)

theorem moveF_ok {B : List Bool} {s slots : Int} {N : List Int} {m : FM} {v : LMove} {gh gi : Bits} (hm : FmOk B s slots N m) (hv : moveB s slots v = true) (hg : GotM B N m v gh gi) : FmOk B s slots N (moveF m v.dst gh gi) := by
  unfold moveB at hv
  simp only [Bool.and_eq_true] at hv
  obtain ⟨hd, hv⟩ := hv
  refine ⟨fun p t h => ?_, fun p k h => ?_, hm.tmp⟩
  · simp only [moveF, updP, keepP] at h
    by_cases e : samePl p v.dst = true
    · rw [if_pos e] at h
      obtain rfl := samePl_eq e
      have h := (hg.h t).1 h
      by_cases hc : v.cst = true
      · rw [if_pos hc] at h
        rw [if_pos hc] at hv
        simp at hv
        obtain ⟨h1, k, hk, hn, hb⟩ := h
        obtain ⟨t0, t1, tn, -⟩ := hm.tmp _ _ hb
        simp at tn
        exact ⟨hd, h1, fun _ => by simpa using tn, fun h2 => by omega⟩
      · rw [if_neg hc] at h
        obtain ⟨h1, h2, h3⟩ := h
        refine ⟨hd, h2, fun h4 => ?_, fun h4 => ?_⟩
        · rcases h3 with h3 | h3
          · omega
          · rw [h3]; simp [h4]
        · rcases h3 with h3 | h3
          · omega
          · rw [h3]; simp [h4]
    · rw [if_neg e] at h
      split at h
      · simp at h
      · exact hm.has p t h
  · simp only [moveF, updP, keepP] at h
    by_cases e : samePl p v.dst = true
    · rw [if_pos e] at h
      obtain rfl := samePl_eq e
      have h := (hg.i k).1 h
      by_cases hc : v.cst = true
      · rw [if_pos hc] at h
        rw [if_pos hc] at hv
        simp at hv
        exact ⟨hd, h.1, by omega⟩
      · rw [if_neg hc] at h
        exact ⟨hd, h.2.1, h.2.2⟩
    · rw [if_neg e] at h
      split at h
      · simp at h
      · exact hm.is p k h

theorem moveF_is {B : List Bool} {s slots : Int} {C : List LIns} {N : List Int} {m : FM} {v : LMove} {gh gi : Bits} (hm : FmOk B s slots N m) (hN : NumsOf C N) (hv : moveB s slots v = true) (hg : GotM B N m v gh gi) (f : LFact) :
    Kof N (moveF m v.dst gh gi) f ↔ moveK (FactOk B s slots (NumP C)) v (Kof N m) f := by
  have hok' := moveF_ok hm hv hg
  have key : ∀ (hok : FactOk B s slots (NumP C) f), (Kof N (moveF m v.dst gh gi) f ↔ (if f.pl.kind = 0 ∨ overB f.pl v.dst = false then Kof N m f
    else samePl f.pl v.dst = true ∧ (if v.cst = false then Kof N m ⟨v.src, f.temp, f.t, f.n⟩ else if f.temp = true then Kof N m (zeroAt f.t v.n) else f.n = v.n))) := by
    intro hok
    unfold moveB at hv
    simp only [Bool.and_eq_true] at hv
    obtain ⟨hd, hv⟩ := hv
    by_cases h0 : f.pl.kind = 0
    · rw [if_pos (Or.inl h0)]
      unfold Kof
      rw [if_pos h0, if_pos h0]
      exact Iff.rfl
    by_cases ho : overB f.pl v.dst = false
    · rw [if_pos (Or.inr ho)]
      have hs : ¬ samePl f.pl v.dst = true := fun h => by rw [same_over h] at ho; cases ho
      have ho' : ¬ overB f.pl v.dst = true := by rw [ho]; simp
      unfold Kof
      rw [if_neg h0, if_neg h0]
      simp only [moveF, updP, keepP, if_neg hs, if_neg ho']
    rw [if_neg (by rintro (h | h); exact h0 h; exact ho h)]
    have ho' : overB f.pl v.dst = true := by simpa using ho
    by_cases hs : samePl f.pl v.dst = true
    case neg =>
      unfold Kof
      rw [if_neg h0]
      simp only [moveF, updP, keepP, if_neg hs, if_pos ho']
      simp [hs]
    have hp := samePl_eq hs
    have hk : v.dst.kind = f.pl.kind := by rw [hp]
    have hsk : v.cst = false → ¬ v.src.kind = 0 := fun hc => by
      rw [if_neg (by simp [hc])] at hv
      simp only [Bool.and_eq_true] at hv
      exact is_kind hv.1.2
    have hdk : v.cst = true → v.dst.kind = 1 := fun hc => by
      rw [if_pos hc] at hv
      simp at hv
      exact hv.2
    simp only [hs, true_and]
    conv => lhs; unfold Kof
    rw [if_neg h0]
    simp only [moveF, updP, if_pos hs]
    by_cases ht : f.temp = true
    · rw [if_pos ht, hg.h]
      obtain ⟨t0, t1⟩ := hok.t ht
      have hn0 := hok.zn h0 ht
      by_cases hc : v.cst = true
      · rw [if_pos hc, if_neg (by simp [hc]), if_pos ht]
        unfold Kof zeroAt
        rw [if_pos (show LPlace.zero.kind = 0 from rfl)]
        have e : ((f.t.toNat : Nat) : Int) = f.t := by omega
        rw [e]
        constructor
        · rintro ⟨_, _, _, h⟩
          exact ⟨rfl, rfl, h⟩
        · rintro ⟨_, _, h⟩
          exact ⟨hn0, t0, by omega, h⟩
      · have hc' : v.cst = false := by simpa using hc
        rw [if_neg hc, if_pos hc']
        unfold Kof
        simp only []
        rw [if_neg (hsk hc'), if_pos ht]
        constructor
        · rintro ⟨h1, h2, h3, _⟩
          exact ⟨h1, h2, h3⟩
        · rintro ⟨h1, h2, h3⟩
          refine ⟨h1, h2, h3, by omega, ?_⟩
          rcases hok.pl with hz | hz
          · exact absurd hz.1 h0
          rcases is_cases hz with ⟨e, _⟩ | ⟨e, _⟩ | ⟨e, _⟩
          · refine Or.inr ?_
            rw [hok.nar ht (Or.inr e), hk, e]
            simp
          · refine Or.inr ?_
            rw [hok.wid ht e, hk, e]
            simp
          · exact Or.inl (by rw [hk, e])
    · have htf : f.temp = false := by simpa using ht
      rw [if_neg ht]
      have hnum := hok.num (Or.inr htf)
      have hdb := hok.dbl htf
      have hzt := hok.zt htf
      by_cases hc : v.cst = true
      · rw [if_neg (by simp [hc]), if_neg ht]
        constructor
        · rintro ⟨_, k, hk, hn, hb⟩
          have := (hg.i k).1 hb
          rw [if_pos hc] at this
          rw [← hn, this.2]
        · intro h
          obtain ⟨k, hk, hn⟩ := (hN _).2 hnum
          refine ⟨hzt, k, hk, hn, (hg.i k).2 ?_⟩
          rw [if_pos hc]
          exact ⟨hk, by rw [hn, h]⟩
      · have hc' : v.cst = false := by simpa using hc
        rw [if_pos hc']
        unfold Kof
        simp only []
        rw [if_neg (hsk hc'), if_neg ht]
        constructor
        · rintro ⟨h1, k, hk, hn, hb⟩
          have := (hg.i k).1 hb
          rw [if_neg hc] at this
          exact ⟨h1, k, hk, hn, this.1⟩
        · rintro ⟨h1, k, hk2, hn, hb⟩
          refine ⟨h1, k, hk2, hn, (hg.i k).2 ?_⟩
          rw [if_neg hc]
          exact ⟨hb, hk2, by rw [hk]; exact hdb⟩
  constructor
  · intro h
    have hok := Kof.ok hok' hN h
    exact ⟨hok, (key hok).1 h⟩
  · rintro ⟨hok, h⟩
    exact (key hok).2 h

def giveF (s slots : Int) (m : FM) (d : Nat) (L : LPlace) (gh gi : Bits) (sm : LPlace → Bool) : FM :=
  ⟨updP (fun p => if isB s slots p = true then (if sm p = true then keepP m.has L p ||| only d else keepP m.has L p &&& ~~~ only d) else keepP m.has L p) L (gh ||| only d), updP (keepP m.is L) L gi, updT m.tmp d gi⟩

structure GotI (s slots : Int) (N : List Int) (m : FM) (i : LIns) (L : LPlace) (gh gi : Bits) (sm : LPlace → Bool) : Prop where
  hb : ∀ t : Nat, gh.getLsbD t = true ↔ i.op = 2 ∧ (t : Int) = i.a
  ib : ∀ k, gi.getLsbD k = true ↔ (i.op = 1 ∧ k < N.length ∧ nAt N k = i.n) ∨ (i.op = 2 ∧ (m.tmp i.a).getLsbD k = true)
  sb : ∀ p, isB s slots p = true → (sm p = true ↔ (i.op = 1 ∧ ∃ k, k < N.length ∧ nAt N k = i.n ∧ (keepP m.is L p).getLsbD k = true) ∨ (i.op = 2 ∧ (keepP m.has L p).getLsbD i.a.toNat = true))

structure GiveOk (B : List Bool) (s slots : Int) (i : LIns) (L : LPlace) : Prop where
  d0 : 0 ≤ i.dest
  d1 : i.dest < B.length
  is : isB s slots L = true
  nar : B.getD i.dest.toNat false = false → L.kind = 1
  wid : B.getD i.dest.toNat false = true → L.kind = 2
  one : i.op = 1 → B.getD i.dest.toNat false = false
  a0 : i.op = 2 → 0 ≤ i.a
  a1 : i.op = 2 → i.a < B.length
  aw : i.op = 2 → B.getD i.a.toNat false = B.getD i.dest.toNat false

theorem keep_bit {g : LPlace → Bits} {p q : LPlace} {k : Nat} : (keepP g q p).getLsbD k = true ↔ overB p q = false ∧ (g p).getLsbD k = true := by
  unfold keepP
  split
  · rename_i h; simp [h]
  · rename_i h; simp at h; simp [h]

theorem giveF_ok {B : List Bool} {s slots : Int} {N : List Int} {m : FM} {i : LIns} {L : LPlace} {gh gi : Bits} {sm : LPlace → Bool} (hB : B.length ≤ 12) (hm : FmOk B s slots N m) (hi : GiveOk B s slots i L) (hg : GotI s slots N m i L gh gi sm) :
    FmOk B s slots N (giveF s slots m i.dest.toNat L gh gi sm) := by
  have d0 := hi.d0
  have d1 := hi.d1
  have hd64 : i.dest.toNat < 64 := by omega
  have hLn : L.kind = 1 → B.getD i.dest.toNat false = false := fun h => by
    cases hc : B.getD i.dest.toNat false with
    | false => rfl
    | true => have := hi.wid hc; omega
  have hLw : L.kind = 2 → B.getD i.dest.toNat false = true := fun h => by
    cases hc : B.getD i.dest.toNat false with
    | true => rfl
    | false => have := hi.nar hc; omega
  refine ⟨fun p t h => ?_, fun p k h => ?_, fun t k h => ?_⟩
  · simp only [giveF, updP] at h
    by_cases e : samePl p L = true
    · rw [if_pos e, bits_or_only hd64] at h
      obtain rfl := samePl_eq e
      rcases h with h | h
      · obtain ⟨h1, h2⟩ := (hg.hb t).1 h
        have a0 := hi.a0 h1
        have a1 := hi.a1 h1
        have aw := hi.aw h1
        have e2 : i.a.toNat = t := by omega
        rw [e2] at aw
        exact ⟨hi.is, by omega, fun h3 => by rw [aw]; exact hLn h3, fun h3 => by rw [aw]; exact hLw h3⟩
      · subst h
        exact ⟨hi.is, by omega, hLn, hLw⟩
    · rw [if_neg e] at h
      by_cases hp : isB s slots p = true
      case neg => rw [if_neg hp, keep_bit] at h; exact hm.has p t h.2
      rw [if_pos hp] at h
      by_cases hs : sm p = true
      case neg => rw [if_neg hs, bits_not_only hd64, keep_bit] at h; exact hm.has p t h.1.2
      rw [if_pos hs, bits_or_only hd64, keep_bit] at h
      rcases h with h | h
      · exact hm.has p t h.2
      subst h
      refine ⟨hp, by omega, ?_⟩
      rcases (hg.sb p hp).1 hs with ⟨h1, k, hk, hn, hb⟩ | ⟨h1, hb⟩
      · rw [keep_bit] at hb
        obtain ⟨_, _, h3⟩ := hm.is p k hb.2
        exact ⟨fun _ => hi.one h1, fun h => absurd h h3⟩
      · rw [keep_bit] at hb
        obtain ⟨_, _, h3, h4⟩ := hm.has p _ hb.2
        have aw := hi.aw h1
        exact ⟨fun h => by rw [← aw]; exact h3 h, fun h => by rw [← aw]; exact h4 h⟩
  · simp only [giveF, updP] at h
    by_cases e : samePl p L = true
    · rw [if_pos e] at h
      obtain rfl := samePl_eq e
      rcases (hg.ib k).1 h with ⟨h1, h2, h3⟩ | ⟨h1, h2⟩
      · exact ⟨hi.is, h2, by have := hi.nar (hi.one h1); omega⟩
      · obtain ⟨_, _, h3, h4⟩ := hm.tmp _ _ h2
        exact ⟨hi.is, h4, by have := hi.nar (by rw [← hi.aw h1]; exact h3); omega⟩
    · rw [if_neg e, keep_bit] at h
      exact hm.is p k h.2
  · simp only [giveF, updT] at h
    by_cases e : t = i.dest.toNat
    · rw [if_pos e] at h
      have e2 : t.toNat = i.dest.toNat := by omega
      rcases (hg.ib k).1 h with ⟨h1, h2, h3⟩ | ⟨h1, h2⟩
      · exact ⟨by omega, by omega, by rw [e2]; exact hi.one h1, h2⟩
      · obtain ⟨_, _, h3, h4⟩ := hm.tmp _ _ h2
        exact ⟨by omega, by omega, by rw [e2, ← hi.aw h1]; exact h3, h4⟩
    · rw [if_neg e] at h
      exact hm.tmp t k h

theorem giveF_is {B : List Bool} {s slots : Int} {C : List LIns} {N : List Int} {m : FM} {i : LIns} {L : LPlace} {gh gi : Bits} {sm : LPlace → Bool} (hB : B.length ≤ 12) (hm : FmOk B s slots N m) (hN : NumsOf C N) (hi : GiveOk B s slots i L) (hg : GotI s slots N m i L gh gi sm) (f : LFact) :
    Kof N (giveF s slots m i.dest.toNat L gh gi sm) f ↔ insK (FactOk B s slots (NumP C)) i L (Kof N m) f := by
  have hok' := giveF_ok hB hm hi hg
  have d0 := hi.d0
  have d1 := hi.d1
  have hd64 : i.dest.toNat < 64 := by omega
  have hLk := is_kind hi.is
  have key : FactOk B s slots (NumP C) f → (Kof N (giveF s slots m i.dest.toNat L gh gi sm) f ↔ 
  (if i.op = 2 ∧ samePl f.pl L = true ∧ f.temp = true ∧ f.t = i.a then True
   else if i.op = 2 ∧ samePl f.pl L = true ∧ f.temp = false then Kof N m (zeroAt i.a f.n)
   else if i.op = 2 ∧ (f.temp = true ∧ f.t = i.dest) ∧ (f.pl.kind = 0 ∨ overB f.pl L = false) then Kof N m ⟨f.pl, f.temp, i.a, f.n⟩
   else if i.op = 1 ∧ (f.temp = true ∧ f.t = i.dest) ∧ ¬ f.pl.kind = 0 ∧ overB f.pl L = false then Kof N m ⟨f.pl, false, 0, i.n⟩
   else if i.op = 1 ∧ (((f.temp = true ∧ f.t = i.dest) ∧ f.pl.kind = 0) ∨ (samePl f.pl L = true ∧ f.temp = false)) then f.n = i.n
   else if samePl f.pl L = true ∧ (f.temp = true ∧ f.t = i.dest) ∧ ¬ f.pl.kind = 0 then True
   else Kof N m f ∧ ¬ (f.temp = true ∧ f.t = i.dest) ∧ (f.pl.kind = 0 ∨ overB f.pl L = false))) := by
    intro hok
    have e12 : i.op = 1 → ¬ i.op = 2 := fun h => by rw [h]; decide
    have hop3 : (i.op = 1) ∨ (i.op = 2) ∨ (¬ i.op = 1 ∧ ¬ i.op = 2) := by
      by_cases h1 : i.op = 1
      · exact Or.inl h1
      by_cases h2 : i.op = 2
      · exact Or.inr (Or.inl h2)
      exact Or.inr (Or.inr ⟨h1, h2⟩)
    by_cases h0 : f.pl.kind = 0
    · obtain ⟨_, hn0, ht⟩ : f.pl.kind = 0 ∧ f.pl.n = 0 ∧ f.temp = true := by rcases hok.pl with h | h; exact h; exact absurd h0 (is_kind h)
      have hs : samePl f.pl L = false := by
        cases hc : samePl f.pl L with
        | false => rfl
        | true => rw [samePl_eq hc] at h0; exact absurd h0 hLk
      obtain ⟨t0, t1⟩ := hok.t ht
      have hnum := hok.num (Or.inl h0)
      have lhs : Kof N (giveF s slots m i.dest.toNat L gh gi sm) f ↔ ∃ k, k < N.length ∧ nAt N k = f.n ∧ (updT m.tmp i.dest.toNat gi f.t).getLsbD k = true := by
        unfold Kof
        rw [if_pos h0]
        exact ⟨fun h => h.2.2, fun h => ⟨hn0, ht, h⟩⟩
      have mf : Kof N m f ↔ ∃ k, k < N.length ∧ nAt N k = f.n ∧ (m.tmp f.t).getLsbD k = true := by
        unfold Kof
        rw [if_pos h0]
        exact ⟨fun h => h.2.2, fun h => ⟨hn0, ht, h⟩⟩
      rw [lhs]
      unfold updT
      by_cases hd : f.t = i.dest
      · have e : f.t = ((i.dest.toNat : Nat) : Int) := hd.trans (Int.toNat_of_nonneg d0).symm
        rw [if_pos e]
        simp only [hg.ib]
        rcases hop3 with h1 | h2 | ⟨h1, h2⟩
        · have := e12 h1
          simp only [h1, hs, ht, hd, h0]
          simp
          constructor
          · rintro ⟨k, hk, hn, _, hn2⟩; rw [← hn, hn2]
          · intro h
            obtain ⟨k, hk, hn⟩ := (hN _).2 hnum
            exact ⟨k, hk, hn, hk, by rw [hn, h]⟩
        · simp only [h2, hs, ht, hd, h0]
          simp
          unfold Kof
          simp [h0, hn0]
        · simp [h1, h2, hs, ht, hd, h0]
      · have e : ¬ f.t = ((i.dest.toNat : Nat) : Int) := fun h => hd (h.trans (Int.toNat_of_nonneg d0))
        rw [if_neg e, ← mf]
        simp [hs, ht, hd, h0]
    have hp : isB s slots f.pl = true := by rcases hok.pl with h | h; exact absurd h.1 h0; exact h
    by_cases hs : samePl f.pl L = true
    · have ho := same_over hs
      by_cases ht : f.temp = true
      · obtain ⟨t0, t1⟩ := hok.t ht
        have hn0 := hok.zn h0 ht
        have lhs : Kof N (giveF s slots m i.dest.toNat L gh gi sm) f ↔ (i.op = 2 ∧ f.t = i.a) ∨ f.t = i.dest := by
          unfold Kof
          rw [if_neg h0, if_pos ht]
          simp only [giveF, updP, if_pos hs, bits_or_only hd64, hg.hb]
          have e : ((f.t.toNat : Nat) : Int) = f.t := by omega
          rw [e]
          constructor
          · rintro ⟨_, _, h | h⟩
            · exact Or.inl h
            · exact Or.inr (by omega)
          · rintro (h | h)
            · exact ⟨hn0, t0, Or.inl h⟩
            · exact ⟨hn0, t0, Or.inr (by omega)⟩
        rw [lhs]
        by_cases ha : i.op = 2 ∧ f.t = i.a
        · simp [ha, hs, ht]
        · by_cases hd : f.t = i.dest
          · rw [if_neg (by rintro ⟨x, _, _, y⟩; exact ha ⟨x, y⟩)]
            simp [hs, ht, ho, hd, h0]
          · rw [if_neg (by rintro ⟨x, _, _, y⟩; exact ha ⟨x, y⟩)]
            simp only [ha, hd]
            simp [hs, ht, ho, h0]
      · have htf : f.temp = false := by simpa using ht
        have hnum := hok.num (Or.inr htf)
        have hzt := hok.zt htf
        have lhs : Kof N (giveF s slots m i.dest.toNat L gh gi sm) f ↔ ∃ k, k < N.length ∧ nAt N k = f.n ∧ gi.getLsbD k = true := by
          unfold Kof
          rw [if_neg h0, if_neg ht]
          simp only [giveF, updP, if_pos hs]
          exact ⟨fun h => h.2, fun h => ⟨hzt, h⟩⟩
        rw [lhs]
        simp only [hg.ib]
        rcases hop3 with h1 | h2 | ⟨h1, h2⟩
        · simp [h1, hs, htf]
          constructor
          · rintro ⟨k, hk, hn, _, hn2⟩; rw [← hn, hn2]
          · intro h
            obtain ⟨k, hk, hn⟩ := (hN _).2 hnum
            exact ⟨k, hk, hn, hk, by rw [hn, h]⟩
        · simp [h2, hs, htf]
          unfold Kof zeroAt
          simp [LPlace.zero]
        · simp [h1, h2, hs, htf, ho, h0]
    have hsf : samePl f.pl L = false := by simpa using hs
    cases ho : overB f.pl L with
    | true =>
      have hsm : sm f.pl = false := by
        cases hc : sm f.pl with
        | false => rfl
        | true =>
          rcases (hg.sb _ hp).1 hc with ⟨_, k, _, _, hb⟩ | ⟨_, hb⟩
          · rw [keep_bit, ho] at hb; exact absurd hb.1 (by simp)
          · rw [keep_bit, ho] at hb; exact absurd hb.1 (by simp)
      have lhs : ¬ Kof N (giveF s slots m i.dest.toNat L gh gi sm) f := by
        unfold Kof
        rw [if_neg h0]
        simp only [giveF, updP, if_neg hs, if_pos hp, hsm]
        split
        · rintro ⟨_, _, h⟩
          simp [keepP, ho] at h
        · rintro ⟨_, k, _, _, h⟩
          simp [keepP, ho] at h
      simp [lhs, hsf, h0]
    | false =>
      have hkp : ∀ g : LPlace → Bits, keepP g L f.pl = g f.pl := fun g => by unfold keepP; rw [if_neg (by rw [ho]; simp)]
      by_cases ht : f.temp = true
      · obtain ⟨t0, t1⟩ := hok.t ht
        have hn0 := hok.zn h0 ht
        have hsm := hg.sb _ hp
        rw [hkp, hkp] at hsm
        by_cases hd : f.t = i.dest
        · have lhs : Kof N (giveF s slots m i.dest.toNat L gh gi sm) f ↔ sm f.pl = true := by
            unfold Kof
            rw [if_neg h0, if_pos ht]
            simp only [giveF, updP, if_neg hs, if_pos hp]
            have e : f.t.toNat = i.dest.toNat := by rw [hd]
            rw [e]
            constructor
            · rintro ⟨_, _, h⟩
              cases hc : sm f.pl with
              | true => rfl
              | false => rw [hc, if_neg (by simp), bits_not_only hd64] at h; exact absurd rfl h.2
            · intro h
              rw [if_pos h, bits_or_only hd64]
              exact ⟨hn0, t0, Or.inr rfl⟩
          rw [lhs, hsm]
          rcases hop3 with h1 | h2 | ⟨h1, h2⟩
          · simp [h1, hsf, ht, hd, h0]
            unfold Kof
            simp [h0]
          · have a0 := hi.a0 h2
            simp [h2, hsf, ht, hd, h0]
            unfold Kof
            simp [h0, hn0, a0]
          · simp [h1, h2, hsf, ht, hd, h0]
        · have lhs : Kof N (giveF s slots m i.dest.toNat L gh gi sm) f ↔ Kof N m f := by
            unfold Kof
            rw [if_neg h0, if_neg h0, if_pos ht, if_pos ht]
            simp only [giveF, updP, if_neg hs, if_pos hp, hkp]
            have e : ¬ f.t.toNat = i.dest.toNat := fun h => hd (by rw [← Int.toNat_of_nonneg t0, h, Int.toNat_of_nonneg d0])
            split
            · rw [bits_or_only hd64]; simp [e]
            · rw [bits_not_only hd64]; simp [e]
          rw [lhs]
          simp [hsf, ht, hd, h0]
      · have htf : f.temp = false := by simpa using ht
        have lhs : Kof N (giveF s slots m i.dest.toNat L gh gi sm) f ↔ Kof N m f := by
          unfold Kof
          rw [if_neg h0, if_neg h0, if_neg ht, if_neg ht]
          simp only [giveF, updP, if_neg hs, hkp]
        rw [lhs]
        simp [hsf, htf, h0]
  constructor
  · intro h
    have hok := Kof.ok hok' hN h
    exact ⟨hok, (key hok).1 h⟩
  · rintro ⟨hok, h⟩
    exact (key hok).2 h

def meetF (m n : FM) : FM := ⟨fun p => m.has p &&& n.has p, fun p => m.is p &&& n.is p, fun t => m.tmp t &&& n.tmp t⟩

theorem getD_inj {N : List Int} (hs : N.Pairwise (· < ·)) {j k : Nat} (hj : j < N.length) (hk : k < N.length) (h : nAt N j = nAt N k) : j = k := by
  rw [List.pairwise_iff_getElem] at hs
  simp only [nAt, List.getD, List.getElem?_eq_getElem hj, List.getElem?_eq_getElem hk, Option.getD_some] at h
  rcases Nat.lt_trichotomy j k with h1 | h1 | h1
  · have := hs j k hj hk h1; omega
  · exact h1
  · have := hs k j hk hj h1; omega

theorem meetF_is {N : List Int} (hs : N.Pairwise (· < ·)) (m n : FM) (f : LFact) : Kof N (meetF m n) f ↔ Kof N m f ∧ Kof N n f := by
  have two : ∀ x y : Bits, (∃ k, k < N.length ∧ nAt N k = f.n ∧ (x &&& y).getLsbD k = true) ↔ ((∃ k, k < N.length ∧ nAt N k = f.n ∧ x.getLsbD k = true) ∧ (∃ k, k < N.length ∧ nAt N k = f.n ∧ y.getLsbD k = true)) := fun x y => by
    constructor
    · rintro ⟨k, hk, hn, hb⟩
      rw [bits_and] at hb
      exact ⟨⟨k, hk, hn, hb.1⟩, ⟨k, hk, hn, hb.2⟩⟩
    · rintro ⟨⟨k, hk, hn, hb⟩, ⟨j, hj, hn2, hb2⟩⟩
      obtain rfl := getD_inj hs hk hj (by rw [hn, hn2])
      exact ⟨k, hk, hn, bits_and.2 ⟨hb, hb2⟩⟩
  unfold Kof
  simp only [meetF]
  split
  · rw [two]
    exact ⟨fun h => ⟨⟨h.1, h.2.1, h.2.2.1⟩, ⟨h.1, h.2.1, h.2.2.2⟩⟩, fun h => ⟨h.1.1, h.1.2.1, h.1.2.2, h.2.2.2⟩⟩
  · split
    · rw [bits_and]
      exact ⟨fun h => ⟨⟨h.1, h.2.1, h.2.2.1⟩, ⟨h.1, h.2.1, h.2.2.2⟩⟩, fun h => ⟨h.1.1, h.1.2.1, h.1.2.2, h.2.2.2⟩⟩
    · rw [two]
      exact ⟨fun h => ⟨⟨h.1, h.2.1⟩, ⟨h.1, h.2.2⟩⟩, fun h => ⟨h.1.1, h.1.2, h.2.2⟩⟩
theorem meetF_ok {B : List Bool} {s slots : Int} {N : List Int} {m n : FM} (hm : FmOk B s slots N m) : FmOk B s slots N (meetF m n) :=
  ⟨fun p t h => hm.has p t (bits_and.1 h).1, fun p k h => hm.is p k (bits_and.1 h).1, fun t k h => hm.tmp t k (bits_and.1 h).1⟩

end Go.Proofs.YtcmnmogmdhofcabGreat.form
