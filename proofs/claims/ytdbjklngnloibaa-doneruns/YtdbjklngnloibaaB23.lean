/- Places that came in as an argument (api.Placed), a target and a place are read. -/
import Derived.Test.YtdbjklngnloibaaB22
import Derived.Test.YtdbjklngnloibaaB07
import Derived.Test.YtdbjklngnloibaaB10
import Derived.Test.YtdbjklngnloibaaB14

namespace Go.Proofs.Ytdbjklngnloibaa.form
open Go.ChangeShapes Go.WideShapes Go.ChangeAt Go.RowKit Go.Joins Go.Deep
set_option linter.unusedVariables false

theorem cellsPlace : Try.prog.cellsOf 57 = 2 := by kernel_rfl
theorem cellsMove : Try.prog.cellsOf 143 = 6 := by kernel_rfl
theorem cellsRow : Try.prog.cellsOf 103 = 8 := by kernel_rfl
theorem cellsPlaced : Try.prog.cellsOf 55 = 2 := by kernel_rfl
theorem cellsTarget : Try.prog.cellsOf 52 = 1 := by kernel_rfl
theorem cellsMoves : Try.prog.cellsOf 101 = 1 := by kernel_rfl

instance : Inhabited LMove := ⟨.zero⟩
instance : Inhabited LRow := ⟨.zero⟩
def moveV (m : LMove) : List Value := [.int .i64 m.dst.kind, .int .i64 m.dst.n, .int .i64 m.src.kind, .int .i64 m.src.n, .bool m.cst, .int .u32 m.n]
def MovesOk (l : List LMove) : Prop := ∀ k, k < l.length → 0 ≤ (l.getD k .zero).n ∧ (l.getD k .zero).n < 4294967296
def RowsOk (R : List LRow) : Prop := ∀ r, r < R.length → MovesOk (R.getD r .zero).before ∧ MovesOk (R.getD r .zero).after

theorem moves_bd {l : List LMove} (h : MovesOk l) {x : LMove} (hx : x ∈ l) : 0 ≤ x.n ∧ x.n < 4294967296 := by
  obtain ⟨j, hj, rfl⟩ := List.getElem_of_mem hx
  have := h j hj
  rw [show l.getD j .zero = l[j] by simp [List.getD, hj]] at this
  exact this
theorem rows_bd {R : List LRow} {C : List LIns} (h : RowsOk R) (hl : R.length = C.length) : ∀ k, k < C.length → ∀ x, x ∈ (R.getD k .zero).before ∨ x ∈ (R.getD k .zero).after → 0 ≤ x.n ∧ x.n < 4294967296 := by
  intro k hk x hx
  obtain ⟨h1, h2⟩ := h k (by omega)
  rcases hx with hx | hx
  · exact moves_bd h1 hx
  · exact moves_bd h2 hx

section
variable {H : Type} {enc : TypeId × Value → H} {w : World} {spare : Nat → Bool} {held : Bool}

set_option maxRecDepth 100000 in
theorem open_place {fuel : Nat} {cs : List Value} {x : DataW H × List MemPlace} (h : DataW.trod enc Try.prog w 0 spare held fuel 57 cs = some x) :
    ∃ p : LPlace, cs = [.int .i64 p.kind, .int .i64 p.n] := by
  obtain ⟨xs, n, _, _, hlen, hxs, hf⟩ := DataW.trod_struct Try.underlying57 h
  rw [cellsPlace] at hlen
  match cs, hlen with
  | [v0, v1], _ =>
    have h0 := hf 0 _ rfl
    have h1 := hf 1 _ rfl
    simp [cellsInt] at h0 h1
    have l : xs.length = 2 := hxs
    rw [List.getElem?_eq_getElem (by omega)] at h0 h1
    obtain ⟨n0, e0, _, _⟩ := DataW.trod_int Try.underlying3 h0
    obtain ⟨n1, e1, _, _⟩ := DataW.trod_int Try.underlying3 h1
    simp at e0 e1
    subst e0 e1
    exact ⟨⟨n0, n1⟩, rfl⟩

set_option maxRecDepth 100000 in
theorem open_move {fuel : Nat} {cs : List Value} {x : DataW H × List MemPlace} (h : DataW.trod enc Try.prog w 0 spare held fuel 143 cs = some x) :
    ∃ m : LMove, cs = moveV m ∧ 0 ≤ m.n ∧ m.n < 4294967296 := by
  obtain ⟨xs, n, _, _, hlen, hxs, hf⟩ := DataW.trod_struct Try.underlying143 h
  rw [cellsMove] at hlen
  match cs, hlen with
  | [v0, v1, v2, v3, v4, v5], _ =>
    have h0 := hf 0 _ rfl
    have h1 := hf 1 _ rfl
    have h2 := hf 2 _ rfl
    have h3 := hf 3 _ rfl
    simp [cellsPlace, cellsBool, cellsU32] at h0 h1 h2 h3
    have l : xs.length = 4 := hxs
    rw [List.getElem?_eq_getElem (by omega)] at h0 h1 h2 h3
    obtain ⟨p, e0⟩ := open_place h0
    obtain ⟨q, e1⟩ := open_place h1
    obtain ⟨c, e2, _⟩ := DataW.trod_bool Try.underlying4 h2
    obtain ⟨n5, e3, _, w5⟩ := DataW.trod_int Try.underlying23 h3
    simp at e0 e1 e2 e3
    obtain ⟨rfl, rfl⟩ := e0
    obtain ⟨rfl, rfl⟩ := e1
    subst e2 e3
    obtain ⟨b1, b2⟩ := bounds_u32 w5
    exact ⟨⟨p, q, c, n5⟩, rfl, b1, by show n5 < 4294967296; omega⟩

set_option maxRecDepth 100000 in
theorem open_moves {fuel : Nat} {v : Value} {x : DataW H × List MemPlace} (h : DataW.trod enc Try.prog w 0 spare held fuel 101 [v] = some x) : ∃ l : List LMove, MovesIs w v l ∧ MovesOk l := by
  rcases open_slice (e := 143) Try.underlying101 h with ⟨hc, _⟩ | ⟨a, len, cap, m, n', D, Pl, hc, _, hl, hm, hmm, _, hx⟩
  · simp at hc
    exact ⟨[], ⟨none, 0, hc, by simp, fun hh => absurd hh (by simp)⟩, fun k hk => absurd hk (by simp)⟩
  · simp at hc
    have hlm : len ≤ m := by rw [hmm]; split <;> omega
    obtain ⟨f, hf⟩ := choose_lt (n := len) (α := LMove) (p := fun i x => (∀ j, j < 6 → w.cell? ((a.add (i * 6)).add j) = (moveV x)[j]?) ∧ 0 ≤ x.n ∧ x.n < 4294967296) (fun i hi => by
      obtain ⟨cs, h1, h2⟩ := hx i (by omega)
      rw [cellsMove] at h1
      obtain ⟨s, rfl, b1, b2⟩ := open_move h2
      exact ⟨s, (World.cells?_some h1).2.2, b1, b2⟩)
    have hg : ∀ i, i < len → ((List.range len).map f).getD i .zero = f i := fun i hi => by simp [List.getD, hi]
    refine ⟨(List.range len).map f, ⟨some a, cap, by simpa using hc, by simp; unfold maxLen at hm; omega, fun hh => ?_⟩, fun i hi => ?_⟩
    · simp at hh
      obtain ⟨b, off, spot⟩ := a
      have q := (hf 0 (by omega)).1 0 (by omega)
      have hs : spot = none := by simpa [Addr.add, moveV] using World.cell?_spot (q.trans rfl)
      subst hs
      refine ⟨b, off, rfl, ?_, fun i hi => ?_⟩
      · have := World.block_lt_of_cell? w _ (q.trans rfl)
        simpa [Addr.add] using this
      · simp at hi
        rw [hg i hi]
        have q := (hf i hi).1
        simp only [Go.WideShapes.add_plain] at q
        exact ⟨q 0 (by omega), q 1 (by omega), q 2 (by omega), q 3 (by omega), q 4 (by omega), q 5 (by omega)⟩
    · simp at hi
      rw [hg i hi]
      exact (hf i hi).2

/-- A row's cells, and what they say. -/
structure RowCs (w : World) (cs : List Value) (r : LRow) : Prop where
  six : ∃ vb va, cs = [.int .i64 r.dest.kind, .int .i64 r.dest.n, .int .i64 r.a.kind, .int .i64 r.a.n, .int .i64 r.b.kind, .int .i64 r.b.n, vb, va] ∧ MovesIs w vb r.before ∧ MovesIs w va r.after
  ok : MovesOk r.before ∧ MovesOk r.after

set_option maxRecDepth 100000 in
theorem open_row {fuel : Nat} {cs : List Value} {x : DataW H × List MemPlace} (h : DataW.trod enc Try.prog w 0 spare held fuel 103 cs = some x) : ∃ r, RowCs w cs r := by
  obtain ⟨xs, n, _, _, hlen, hxs, hf⟩ := DataW.trod_struct Try.underlying103 h
  rw [cellsRow] at hlen
  match cs, hlen with
  | [v0, v1, v2, v3, v4, v5, v6, v7], _ =>
    have h0 := hf 0 _ rfl
    have h1 := hf 1 _ rfl
    have h2 := hf 2 _ rfl
    have h3 := hf 3 _ rfl
    have h4 := hf 4 _ rfl
    simp [cellsPlace, cellsMoves] at h0 h1 h2 h3 h4
    have l : xs.length = 5 := hxs
    rw [List.getElem?_eq_getElem (by omega)] at h0 h1 h2 h3 h4
    obtain ⟨p, e0⟩ := open_place h0
    obtain ⟨q, e1⟩ := open_place h1
    obtain ⟨r, e2⟩ := open_place h2
    obtain ⟨lb, m3, o3⟩ := open_moves h3
    obtain ⟨la, m4, o4⟩ := open_moves h4
    simp at e0 e1 e2
    obtain ⟨rfl, rfl⟩ := e0
    obtain ⟨rfl, rfl⟩ := e1
    obtain ⟨rfl, rfl⟩ := e2
    exact ⟨⟨p, q, r, lb, la⟩, ⟨_, _, rfl, m3, m4⟩, o3, o4⟩

set_option maxRecDepth 100000 in
theorem placed_is {b0 : Nat} {v : Value} {d : DataW H} {p : List MemPlace} {r : Reach} (hv : Value.okWide Try.prog w r b0 55 v) (h : DataW.Trod enc Try.prog w 0 spare held 55 v d p) :
    ∃ slots R, PlacedIs w v slots R ∧ RowsOk R ∧ -9223372036854775808 ≤ slots ∧ slots ≤ 9223372036854775807 := by
  obtain ⟨c0, c1, y0, y1, n, rfl, -, -, hy0, hy1⟩ := open_agg2 Try.underlying55 (by kernel_rfl) cellsPlaced hv h
  obtain ⟨n0, e0, _, w0⟩ := DataW.trod_int Try.underlying3 hy0
  simp at e0
  subst e0
  rcases open_slice (e := 103) Try.underlying53 hy1 with ⟨hc, _⟩ | ⟨a, len, cap, m, n', D, Pl, hc, _, hl, hm, hmm, _, hx⟩
  · simp at hc
    subst hc
    refine ⟨n0, [], ⟨none, 0, rfl, by simp, fun hh => absurd hh (by simp)⟩, fun r hr => absurd hr (by simp), ?_⟩
    exact bounds_i64 w0
  · simp at hc
    subst hc
    have hlm : len ≤ m := by rw [hmm]; split <;> omega
    obtain ⟨f, hf⟩ := choose_lt (n := len) (α := LRow) (p := fun i x => ∃ cs, (∀ j, j < 8 → w.cell? ((a.add (i * 8)).add j) = cs[j]?) ∧ RowCs w cs x) (fun i hi => by
      obtain ⟨cs, h1, h2⟩ := hx i (by omega)
      rw [cellsRow] at h1
      obtain ⟨s, hs⟩ := open_row h2
      exact ⟨s, cs, (World.cells?_some h1).2.2, hs⟩)
    have hg : ∀ i, i < len → ((List.range len).map f).getD i .zero = f i := fun i hi => by simp [List.getD, hi]
    refine ⟨n0, (List.range len).map f, ⟨some a, cap, by simp, by simp; unfold maxLen at hm; omega, fun hh => ?_⟩, fun i hi => ?_, bounds_i64 w0⟩
    · simp at hh
      obtain ⟨b, off, spot⟩ := a
      obtain ⟨cs, q, ⟨vb, va, rfl, -, -⟩, -⟩ := hf 0 (by omega)
      have q := q 0 (by omega)
      have hs : spot = none := by simpa [Addr.add] using World.cell?_spot (q.trans rfl)
      subst hs
      refine ⟨b, off, rfl, ?_, fun i hi => ?_⟩
      · have := World.block_lt_of_cell? w _ (q.trans rfl)
        simpa [Addr.add] using this
      · simp at hi
        rw [hg i hi]
        obtain ⟨cs, q, ⟨vb, va, rfl, m0, m1⟩, -⟩ := hf i hi
        simp only [Go.WideShapes.add_plain] at q
        exact ⟨q 0 (by omega), q 1 (by omega), q 2 (by omega), q 3 (by omega), q 4 (by omega), q 5 (by omega), vb, va, q 6 (by omega), q 7 (by omega), m0, m1⟩
    · simp at hi
      rw [hg i hi]
      obtain ⟨cs, -, hR⟩ := hf i hi
      exact hR.ok
set_option maxRecDepth 100000 in
theorem target_is {b0 : Nat} {v : Value} {d : DataW H} {p : List MemPlace} {r : Reach} (hv : Value.okWide Try.prog w r b0 52 v) (h : DataW.Trod enc Try.prog w 0 spare held 52 v d p) :
    ∃ s, v = targetV s ∧ -9223372036854775808 ≤ s ∧ s ≤ 9223372036854775807 := by
  obtain ⟨cs, rfl, hsz⟩ := okWide_struct Try.underlying52 hv
  obtain ⟨c0, rfl⟩ : ∃ c0, cs = #[c0] := by
    have := hsz.trans cellsTarget
    obtain ⟨l⟩ := cs
    match l, this with
    | [c0], _ => exact ⟨c0, rfl⟩
  obtain ⟨fuel, hf⟩ := h
  obtain ⟨xs, n, _, _, hlen, hxs, hff⟩ := DataW.trod_struct Try.underlying52 hf
  have h0 := hff 0 _ rfl
  simp [cellsInt, Value.cells] at h0
  have l : xs.length = 1 := hxs
  rw [List.getElem?_eq_getElem (by omega)] at h0
  obtain ⟨n0, e0, _, w0⟩ := DataW.trod_int Try.underlying3 h0
  simp at e0
  subst e0
  exact ⟨n0, rfl, bounds_i64 w0⟩

set_option maxRecDepth 100000 in
theorem place_is {b0 : Nat} {v : Value} {d : DataW H} {p : List MemPlace} {r : Reach} (hv : Value.okWide Try.prog w r b0 57 v) (h : DataW.Trod enc Try.prog w 0 spare held 57 v d p) :
    ∃ q : LPlace, v = q.val ∧ (-9223372036854775808 ≤ q.kind ∧ q.kind ≤ 9223372036854775807) ∧ -9223372036854775808 ≤ q.n ∧ q.n ≤ 9223372036854775807 := by
  obtain ⟨c0, c1, y0, y1, n, rfl, -, -, hy0, hy1⟩ := open_agg2 Try.underlying57 (by kernel_rfl) cellsPlace hv h
  obtain ⟨n0, e0, _, w0⟩ := DataW.trod_int Try.underlying3 hy0
  obtain ⟨n1, e1, _, w1⟩ := DataW.trod_int Try.underlying3 hy1
  simp at e0 e1
  subst e0 e1
  exact ⟨⟨n0, n1⟩, rfl, bounds_i64 w0, bounds_i64 w1⟩
end

end Go.Proofs.Ytdbjklngnloibaa.form

/- A machine in its places, on plain numbers; where what is taken is where it is said to be, it shows what the program shows. -/
namespace Go.Proofs.Ytdbjklngnloibaa.form
open Go.RowKit Go.Proofs.Ytdbjklngnloibaa.num
set_option linter.unusedVariables false

/-- A machine in its places: where it is, its store, how many ins are taken, what came out, its state, its steps. -/
structure PMac where
  pc : Nat
  sto : Sto
  taken : Nat
  out : List Int
  state : Int
  steps : Nat

def PMac.start (s slots : Nat) : PMac := ⟨0, ⟨List.replicate s 0, List.replicate slots 0⟩, 0, [], 0, 0⟩

def PMac.step (C : List LIns) (R : List LRow) (ins : List Int) (m : PMac) : PMac :=
  let i := C.getD m.pc .zero
  let r := R.getD m.pc .zero
  let st := movesP m.sto r.before
  let a := getP st r.a
  let b := getP st r.b
  let nx := nxI i m.pc a
  { pc := nx.toNat
    sto := movesP (if givesB i.op then putP st r.dest (gvI i a b (inOf ins m.taken)) else st) r.after
    taken := if i.op = 3 ∧ m.taken < ins.length then m.taken + 1 else m.taken
    out := if i.op = 4 then m.out ++ [a % 4294967296] else m.out
    state := stI i C.length nx
    steps := m.steps + 1 }

/-- At most so many steps more. -/
def PMac.go (C : List LIns) (R : List LRow) (ins : List Int) : Nat → PMac → PMac
  | 0, m => m
  | k + 1, m => if m.state = 0 then PMac.go C R ins k (m.step C R ins) else m

def playP (C : List LIns) (R : List LRow) (s slots : Nat) (ins : List Int) (n : Nat) : PMac := PMac.go C R ins n (PMac.start s slots)

theorem PMac.go_stop {C : List LIns} {R : List LRow} {ins : List Int} {m : PMac} (h : ¬ m.state = 0) : ∀ k, PMac.go C R ins k m = m
  | 0 => rfl
  | k + 1 => by simp [PMac.go, h]

/-- What is known behind an instruction and its moves. -/
def thruK (ok : LFact → Prop) (i : LIns) (r : LRow) (K : LFact → Prop) : LFact → Prop :=
  movesK ok r.after (if givesB i.op = true then insK ok i r.dest (movesK ok r.before K) else movesK ok r.before K)

/-- What is taken is where it is said to be. -/
def usesK (ok : LFact → Prop) (i : LIns) (r : LRow) (K : LFact → Prop) : Prop :=
  (0 < manyI i.op → movesK ok r.before K ⟨r.a, true, i.a, 0⟩) ∧ (1 < manyI i.op → movesK ok r.before K ⟨r.b, true, i.b, 0⟩)

/-- Sets of facts that go on as they must; come: a way leads there. -/
structure GoodK (B : List Bool) (C : List LIns) (s slots : Int) (R : List LRow) (num : Int → Prop) (come : Nat → Prop) (K : Nat → LFact → Prop) : Prop where
  c0 : come 0
  ok : ∀ k f, K k f → FactOk B s slots num f
  beg : ∀ f, K 0 f → f.n = 0
  next : ∀ k x, come k → k < C.length → x ∈ nextsN (C.getD k .zero) k → x < C.length → come x ∧ ∀ f, K x f → thruK (FactOk B s slots num) (C.getD k .zero) (R.getD k .zero) (K k) f

theorem gv_same {i : LIns} {a b a' b' x : Int} (hg : givesB i.op = true) (hk : knownB i.op = true) (ha : 0 < manyI i.op → a = a') (hb : 1 < manyI i.op → b = b') : gvI i a b x = gvI i a' b' x := by
  unfold gvI
  split
  · rfl
  split
  · rename_i h1 h2
    exact ha (by unfold manyI; rw [if_neg (by omega), if_pos (by omega)]; omega)
  split
  · rfl
  split
  · rename_i h1 h2 h3 h5
    rw [ha (by unfold manyI; rw [if_neg (by omega), if_neg (by omega)]; omega), hb (by unfold manyI; rw [if_neg (by omega), if_neg (by omega)]; omega)]
  split
  · rename_i h1 h2 h3 h5 h6
    rw [ha (by unfold manyI; rw [if_neg (by omega), if_pos (by omega)]; omega)]
  split
  · rename_i h1 h2 h3 h5 h6 h7
    rw [ha (by unfold manyI; rw [if_neg (by omega), if_pos (by omega)]; omega)]
  · rename_i h1 h2 h3 h5 h6 h7
    unfold knownB at hk
    unfold givesB at hg
    simp at hk hg
    rw [ha (by unfold manyI; rw [if_neg (by omega), if_neg (by omega)]; omega), hb (by unfold manyI; rw [if_neg (by omega), if_neg (by omega)]; omega)]

theorem nx_same {i : LIns} {pc : Nat} {a a' : Int} (ha : 0 < manyI i.op → a = a') : nxI i pc a = nxI i pc a' := by
  unfold nxI
  by_cases h9 : i.op = 9
  · rw [ha (by unfold manyI; rw [if_neg (by omega), if_pos (by omega)]; omega)]
  · by_cases h8 : i.op = 8
    · rw [if_pos (Or.inl h8), if_pos (Or.inl h8)]
    · rw [if_neg (by omega), if_neg (by omega)]

theorem nx_next {i : LIns} {nC pc : Nat} {a : Int} (h : stI i nC (nxI i pc a) = 0) : (nxI i pc a).toNat ∈ nextsN i pc ∧ nxI i pc a < nC := by
  unfold stI at h
  split at h
  · omega
  rename_i h10
  split at h
  · omega
  refine ⟨?_, by omega⟩
  unfold nextsN nextsI nxI
  by_cases h8 : i.op = 8
  · rw [if_pos (Or.inl h8), if_pos h8]; simp
  · by_cases h9 : i.op = 9
    · rw [if_neg h8, if_neg h10, if_pos h9]
      split <;> simp
    · rw [if_neg h8, if_neg h10, if_neg h9, if_neg (by omega)]; simp

theorem reg_is {B : List Bool} {s slots t : Int} {p : LPlace} (h : regB B s t p = true) : isB s slots p = true ∧ (p.kind = 1 ∨ p.kind = 2) ∧ (p.kind = 1 → B.getD t.toNat false = false) := by
  unfold regB at h
  rw [Bool.and_eq_true] at h
  obtain ⟨h1, h2⟩ := h
  have hk : p.kind = 1 ∨ p.kind = 2 := by cases hB : B.getD t.toNat false <;> rw [hB] at h1 <;> simp at h1 <;> omega
  refine ⟨?_, hk, fun e => ?_⟩
  · unfold isB at h2 ⊢
    rcases hk with e | e
    · rw [if_pos e] at h2 ⊢; exact h2
    · rw [if_neg (by omega), if_pos e] at h2 ⊢; exact h2
  · cases hB : B.getD t.toNat false with
    | false => rfl
    | true => rw [hB] at h1; simp at h1; omega

/-- Both machines are at one. -/
structure Sim (B : List Bool) (s slots : Int) (come : Nat → Prop) (K : Nat → LFact → Prop) (m : Mac) (p : PMac) : Prop where
  pc : p.pc = m.pc
  taken : p.taken = m.taken
  out : p.out = m.out
  state : p.state = m.state
  steps : p.steps = m.steps
  sto : StoAt s slots p.sto
  hold : m.state = 0 → come m.pc ∧ AllHold m.temps p.sto (K m.pc)

theorem sim_step {B : List Bool} {C : List LIns} {s slots : Int} {R : List LRow} {num : Int → Prop} (hnum : ∀ x, num x → 0 ≤ x ∧ x < 4294967296) {come : Nat → Prop} {K : Nat → LFact → Prop} {ins : List Int} {m : Mac} {p : PMac}
    (hG : GoodK B C s slots R num come K) (hU : ∀ k, come k → k < C.length → usesK (FactOk B s slots num) (C.getD k .zero) (R.getD k .zero) (K k))
    (hI : ∀ k, k < C.length → insB B C.length (C.getD k .zero) = true ∧ InsOk B.length C.length (C.getD k .zero)) (hR : ∀ k, k < C.length → rowB B s slots (C.getD k .zero) (R.getD k .zero) = true)
    (hRn : ∀ k, k < C.length → ∀ x, x ∈ (R.getD k .zero).before ∨ x ∈ (R.getD k .zero).after → 0 ≤ x.n ∧ x.n < 4294967296)
    (hin : ∀ j, j < ins.length → 0 ≤ ins.getD j 0 ∧ ins.getD j 0 < 4294967296) (hm : MOk B.length C.length ins.length m) (hw : WOk B m.temps) (h0 : m.state = 0) (h : Sim B s slots come K m p) : Sim B s slots come K (m.step C ins) (p.step C R ins) := by
  have hpc := hm.pcok h0
  obtain ⟨hcome, hold⟩ := h.hold h0
  obtain ⟨hib, hio⟩ := hI m.pc hpc
  have hrow := hR m.pc hpc
  have hrn := hRn m.pc hpc
  have hus := hU m.pc hcome hpc
  have hnx := hG.next m.pc
  have hKok := hG.ok m.pc
  unfold Mac.step PMac.step
  rw [h.pc, h.taken, h.out, h.steps]
  obtain ⟨i, hi⟩ : ∃ i, i = C.getD m.pc .zero := ⟨_, rfl⟩
  obtain ⟨r, hr⟩ : ∃ r, r = R.getD m.pc .zero := ⟨_, rfl⟩
  rw [← hi] at hib hio hrow hus hnx
  rw [← hr] at hrow hrn hus hnx
  rw [← hi, ← hr]
  unfold rowB at hrow
  simp only [Bool.and_eq_true] at hrow
  obtain ⟨⟨⟨⟨⟨rd, ra⟩, rb⟩, rbef⟩, raft⟩, _⟩ := hrow
  unfold movesB at rbef raft
  simp only [Bool.and_eq_true, List.all_eq_true] at rbef raft
  obtain ⟨st1, hst1⟩ : ∃ st1, st1 = movesP p.sto r.before := ⟨_, rfl⟩
  obtain ⟨hs1, hold1⟩ := moves_sound (B := B) (num := num) hnum hw hm.bd r.before p.sto (K m.pc) (fun x hx => ⟨rbef.2 x hx, hrn x (Or.inl hx)⟩) h.sto hold
  rw [← hst1] at hs1 hold1
  have hKb : ∀ f, movesK (FactOk B s slots num) r.before (K m.pc) f → FactOk B s slots num f := by
    have : ∀ (l : List LMove) (K : LFact → Prop), (∀ f, K f → FactOk B s slots num f) → ∀ f, movesK (FactOk B s slots num) l K f → FactOk B s slots num f := by
      intro l
      induction l with
      | nil => exact fun K h => h
      | cons x l ih => exact fun K h => ih _ (fun f hf => hf.1)
    exact this _ _ hKok
  have hA : 0 < manyI i.op → getP st1 r.a = m.temps.getD i.a.toNat 0 := fun hp => by
    have := hold1 _ (hus.1 hp)
    unfold fieldP at ra
    rw [if_pos (by simpa using hp)] at ra
    have hk := (reg_is (slots := slots) ra).2.1
    unfold Holds at this
    simp only at this
    rw [if_neg (by omega), if_pos trivial] at this
    exact this
  have hB : 1 < manyI i.op → getP st1 r.b = m.temps.getD i.b.toNat 0 := fun hp => by
    have := hold1 _ (hus.2 hp)
    unfold fieldP at rb
    rw [if_pos (by simpa using hp)] at rb
    have hk := (reg_is (slots := slots) rb).2.1
    unfold Holds at this
    simp only at this
    rw [if_neg (by omega), if_pos trivial] at this
    exact this
  have hkn : knownB i.op = true := by
    unfold insB at hib
    simp only [Bool.and_eq_true] at hib
    exact hib.1.1.1.1.1.1
  have hnxe : nxI i m.pc (getP st1 r.a) = nxI i m.pc (m.temps.getD i.a.toNat 0) := nx_same hA
  have hx := inOf_bd hin m.taken
  simp only
  rw [← hst1, hnxe]
  have hgve : givesB i.op = true → gvI i (getP st1 r.a) (getP st1 r.b) (inOf ins m.taken) = gvI i (m.temps.getD i.a.toNat 0) (m.temps.getD i.b.toNat 0) (inOf ins m.taken) := fun hg => gv_same hg hkn hA hB
  have hvb : U64i (gvI i (m.temps.getD i.a.toNat 0) (m.temps.getD i.b.toNat 0) (inOf ins m.taken)) := gvI_bd _ _ _ _ (hm.bd _) (hm.bd _) hx.1 hx.2 hio.n0 hio.n1
  -- behind the instruction
  have hmid : StoAt s slots (if givesB i.op = true then putP st1 r.dest (gvI i (getP st1 r.a) (getP st1 r.b) (inOf ins m.taken)) else st1) ∧
      AllHold (if givesB i.op = true then m.temps.set i.dest.toNat (gvI i (m.temps.getD i.a.toNat 0) (m.temps.getD i.b.toNat 0) (inOf ins m.taken)) else m.temps) (if givesB i.op = true then putP st1 r.dest (gvI i (getP st1 r.a) (getP st1 r.b) (inOf ins m.taken)) else st1)
        (if givesB i.op = true then insK (FactOk B s slots num) i r.dest (movesK (FactOk B s slots num) r.before (K m.pc)) else movesK (FactOk B s slots num) r.before (K m.pc)) := by
    cases hg : givesB i.op with
    | false => simp only [Bool.false_eq_true, if_false]; exact ⟨hs1, hold1⟩
    | true =>
      simp only [if_true]
      rw [hgve hg]
      unfold fieldP at rd
      rw [if_pos hg] at rd
      obtain ⟨r1, r2, r3⟩ := reg_is (slots := slots) rd
      obtain ⟨d0, d1⟩ := hio.d hg
      refine ⟨sto_at_put hs1 hvb, ins_sound hm.len d0 d1 r1 r2 (fun e => wok_give hib hio hw hm.bd hx.1 hx.2 hg (r3 e)) hvb hs1 ?_ ?_ (fun _ => hio.a0) hKb hold1⟩
      · intro e; unfold gvI; rw [if_pos e]
      · intro e; unfold gvI; rw [if_neg (by omega), if_pos e]
  have hw2 : WOk B (m.step C ins).temps := wok_step (by rw [← hi]; exact hib) (by rw [← hi]; exact hio) hw hm hin
  have hm2 : MOk B.length C.length ins.length (m.step C ins) := mok_step hm h0 (by rw [← hi]; exact hio) hin
  have e2 : (m.step C ins).temps = (if givesB i.op = true then m.temps.set i.dest.toNat (gvI i (m.temps.getD i.a.toNat 0) (m.temps.getD i.b.toNat 0) (inOf ins m.taken)) else m.temps) := by unfold Mac.step; rw [hi]
  have hb2 := hm2.bd
  rw [e2] at hw2 hb2
  obtain ⟨hs3, hold3⟩ := moves_sound (B := B) (num := num) hnum hw2 hb2 r.after _ _ (fun x hx => ⟨raft.2 x hx, hrn x (Or.inr hx)⟩) hmid.1 hmid.2
  refine ⟨rfl, rfl, ?_, rfl, rfl, hs3, fun hst => ?_⟩
  · by_cases h4 : i.op = 4
    · rw [if_pos h4, if_pos h4, hA (by unfold manyI; rw [if_neg (by omega), if_pos (by omega)]; omega)]
    · rw [if_neg h4, if_neg h4]
  · simp only at hst ⊢
    obtain ⟨n1, n2⟩ := nx_next hst
    have hpos : 0 ≤ nxI i m.pc (m.temps.getD i.a.toNat 0) := by
      unfold nxI
      split
      · rename_i h8
        exact (hio.c (by omega)).1
      · omega
    obtain ⟨q1, q2⟩ := hnx _ hcome hpc n1 (by omega)
    refine ⟨q1, fun f hf => ?_⟩
    exact hold3 f (q2 f hf)

theorem sim_go {B : List Bool} {C : List LIns} {s slots : Int} {R : List LRow} {num : Int → Prop} (hnum : ∀ x, num x → 0 ≤ x ∧ x < 4294967296) {come : Nat → Prop} {K : Nat → LFact → Prop} {ins : List Int}
    (hG : GoodK B C s slots R num come K) (hU : ∀ k, come k → k < C.length → usesK (FactOk B s slots num) (C.getD k .zero) (R.getD k .zero) (K k))
    (hI : ∀ k, k < C.length → insB B C.length (C.getD k .zero) = true ∧ InsOk B.length C.length (C.getD k .zero)) (hR : ∀ k, k < C.length → rowB B s slots (C.getD k .zero) (R.getD k .zero) = true)
    (hRn : ∀ k, k < C.length → ∀ x, x ∈ (R.getD k .zero).before ∨ x ∈ (R.getD k .zero).after → 0 ≤ x.n ∧ x.n < 4294967296)
    (hin : ∀ j, j < ins.length → 0 ≤ ins.getD j 0 ∧ ins.getD j 0 < 4294967296) : ∀ (n : Nat) (m : Mac) (p : PMac), MOk B.length C.length ins.length m → WOk B m.temps → Sim B s slots come K m p → Sim B s slots come K (Mac.go C ins n m) (PMac.go C R ins n p) := by
  intro n
  induction n with
  | zero => exact fun m p _ _ h => h
  | succ n ih =>
    intro m p hm hw h
    unfold Mac.go PMac.go
    by_cases h0 : m.state = 0
    · rw [if_pos h0, if_pos (by rw [h.state]; exact h0)]
      have hpc := hm.pcok h0
      exact ih _ _ (mok_step hm h0 (hI m.pc hpc).2 hin) (wok_step (hI m.pc hpc).1 (hI m.pc hpc).2 hw hm hin) (sim_step hnum hG hU hI hR hRn hin hm hw h0 h)
    · rw [if_neg h0, if_neg (by rw [h.state]; exact h0)]
      exact h

theorem getD_rep (n j : Nat) : (List.replicate n (0 : Int)).getD j 0 = 0 := by
  by_cases h : j < n <;> simp [List.getD, h]

theorem sto_start {s slots : Nat} (hs : s ≤ 16) (he : s % 2 = 0) (hl : slots ≤ 12) : StoAt s slots (PMac.start s slots).sto := by
  refine ⟨⟨fun j => ?_, fun j => ?_, by simp [PMac.start]; omega, by simp [PMac.start]; omega, by simp [PMac.start]; omega⟩, by simp [PMac.start], by simp [PMac.start]⟩
  · unfold PMac.start; simp only; rw [getD_rep]; omega
  · unfold PMac.start; simp only; rw [getD_rep]; exact ⟨by omega, by omega⟩

theorem get_start (s slots : Nat) (q : LPlace) : getP (PMac.start s slots).sto q = 0 := by
  unfold getP PMac.start
  simp only
  rw [getD_rep, getD_rep, getD_rep, getD_rep]
  split
  · rfl
  split
  · rfl
  split <;> rfl

theorem target_of {s : Int} (h : targetB s = true) : 4 ≤ s ∧ s ≤ 16 ∧ s % 2 = 0 := by
  unfold targetB at h
  simp at h
  omega

/-- What is taken does what the program does. -/
theorem sim_play {B : List Bool} {C : List LIns} {s slots : Nat} {R : List LRow} {num : Int → Prop} (hnum : ∀ x, num x → 0 ≤ x ∧ x < 4294967296) {come : Nat → Prop} {K : Nat → LFact → Prop} {ins : List Int}
    (hmay : placeMayB B C s slots R = true) (hn : ∀ i, i < C.length → 0 ≤ (C.getD i .zero).n ∧ (C.getD i .zero).n < 4294967296)
    (hG : GoodK B C s slots R num come K) (hU : ∀ k, come k → k < C.length → usesK (FactOk B s slots num) (C.getD k .zero) (R.getD k .zero) (K k))
    (hRn : ∀ k, k < C.length → ∀ x, x ∈ (R.getD k .zero).before ∨ x ∈ (R.getD k .zero).after → 0 ≤ x.n ∧ x.n < 4294967296)
    (hin : ∀ j, j < ins.length → 0 ≤ ins.getD j 0 ∧ ins.getD j 0 < 4294967296) (n : Nat) :
    (playP C R s slots ins n).out = (playM B C ins n).out ∧ (playP C R s slots ins n).state = (playM B C ins n).state ∧ (playP C R s slots ins n).steps = (playM B C ins n).steps := by
  unfold placeMayB at hmay
  simp only [Bool.and_eq_true, Bool.not_eq_true', decide_eq_true_eq, decide_eq_false_iff_not, List.all_eq_true, List.mem_range] at hmay
  obtain ⟨⟨⟨⟨⟨h1, h2⟩, h3⟩, h4⟩, h5⟩, h6⟩ := hmay
  have hs := target_of h2
  have hsz : sizesB B C = true := by unfold refMayB at h1; simp only [Bool.and_eq_true] at h1; exact h1.1
  obtain ⟨s1, s2, s3, s4⟩ := sizes_of hsz
  have hok := all_insOk h1 hn
  have hib : ∀ k, k < C.length → insB B C.length (C.getD k .zero) = true := fun k hk => by
    unfold refMayB at h1
    simp only [Bool.and_eq_true] at h1
    exact List.all_eq_true.1 h1.2 (C.getD k .zero) (by simp [List.getD, hk])
  have h0 : Sim B s slots come K (Mac.start B.length) (PMac.start s slots) := by
    refine ⟨rfl, rfl, rfl, rfl, rfl, sto_start (by omega) (by omega) (by omega), fun _ => ⟨hG.c0, fun f hf => ?_⟩⟩
    have hz := hG.beg f hf
    have ht : (Mac.start B.length).temps.getD f.t.toNat 0 = 0 := getD_rep _ _
    unfold Holds
    rw [ht, get_start, hz]
    split
    · rfl
    split <;> rfl
  have := sim_go hnum hG hU (fun k hk => ⟨hib k hk, hok k hk⟩) h6 hRn hin n _ _ (mok_start _ _ _ s3) (wok_start B) h0
  exact ⟨this.out, this.state, this.steps⟩

end Go.Proofs.Ytdbjklngnloibaa.form

/- What the program's own done.Run must answer. -/
namespace Go.Proofs.Ytdbjklngnloibaa.form
open Go.RowKit
/-- What is wrong with a run in places. -/
def wrongP (B : List Bool) (C : List LIns) (s slots : Int) (R : List LRow) (nI : Nat) (steps : Int) : Int := if placeMayB B C s slots R = true then wrongI B C nI steps else 2
end Go.Proofs.Ytdbjklngnloibaa.form
namespace Go.Proofs.Ytdbjklngnloibaa.doneRuns
open Go.RowKit
open Go.Proofs.Ytdbjklngnloibaa.form
set_option linter.unusedVariables false

/-- What is shown. -/
def resP (B : List Bool) (C : List LIns) (s slots : Int) (R : List LRow) (I : List Int) (steps : Int) : PMac := if wrongP B C s slots R I.length steps = 0 then playP C R s.toNat slots.toNat I steps.toNat else ⟨0, ⟨[], []⟩, 0, [], 0, 0⟩
/-- What done.Run must answer. -/
def DoneSpec : Prop := ∀ (pv lv iv : Value) (B : List Bool) (C : List LIns) (s slots : Int) (R : List LRow) (I : List Int) (steps : Int) (w : World), ProgIs w pv B C → PlacedIs w lv slots R → RowsOk R → InArg w iv I →
  Calls Try.prog 33 #[pv, targetV s, lv, iv, .int .i64 steps] w fun e w' => (∃ sv, e = .returned (.tuple #[sv, .int .i64 (wrongP B C s slots R I.length steps)]) ∧ ShownIs w' sv (resP B C s slots R I steps).state (resP B C s slots R I steps).out (resP B C s slots R I steps).steps) ∧ Below w.heap.size w w'

theorem wrongP_zero {B : List Bool} {C : List LIns} {s slots : Int} {R : List LRow} {nI : Nat} {steps : Int} (h : wrongP B C s slots R nI steps = 0) : placeMayB B C s slots R = true ∧ wrongI B C nI steps = 0 := by
  unfold wrongP at h
  split at h
  · rename_i h1; exact ⟨h1, h⟩
  · omega

end Go.Proofs.Ytdbjklngnloibaa.doneRuns
