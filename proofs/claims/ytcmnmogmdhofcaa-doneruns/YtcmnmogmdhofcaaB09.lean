/- What the document's functions on stores answer (loanbookref7.get, put): registers and slots on plain numbers. -/
import Derived.Test.YtcmnmogmdhofcaaB08
import Derived.Test.YtcmnmogmdhofcaaB04

namespace Go.Proofs.Ytcmnmogmdhofcaa.form
open Go.RowKit Go.Proofs.Ytcmnmogmdhofcaa.num
set_option linter.unusedVariables false
attribute [local go_sem ↓] Go.wp_at_zero Go.wp_at_succ

/-- Registers and slots. -/
structure Sto where
  sing : List Int
  slot : List Int

def getP (st : Sto) (p : LPlace) : Int :=
  if p.kind = 1 then st.sing.getD p.n.toNat 0 else if p.kind = 2 then st.sing.getD (2 * p.n + 1).toNat 0 * 4294967296 + st.sing.getD (2 * p.n).toNat 0
  else if p.kind = 3 then st.slot.getD p.n.toNat 0 else 0
def putP (st : Sto) (p : LPlace) (v : Int) : Sto :=
  if p.kind = 1 then ⟨st.sing.set p.n.toNat (v % 4294967296), st.slot⟩
  else if p.kind = 2 then ⟨(st.sing.set (2 * p.n).toNat (v % 4294967296)).set (2 * p.n + 1).toNat (v / 4294967296), st.slot⟩
  else if p.kind = 3 then ⟨st.sing, st.slot.set p.n.toNat v⟩ else st

/-- A store in memory: two rows that may be written. -/
structure StoIs (w : World) (x y : Nat) (st : Sto) : Prop where
  sing : Row w x 23 (st.sing.map (Value.int .u32))
  slot : Row w y 22 (st.slot.map (Value.int .u64))
  ne : x ≠ y
def stoV (x y : Nat) (st : Sto) : Value := .agg #[.slice (some ⟨x, 0, none⟩) st.sing.length st.sing.length, .slice (some ⟨y, 0, none⟩) st.slot.length st.slot.length]

theorem StoIs.below {w w' : World} {x y : Nat} {st : Sto} (h : StoIs w x y st) (hb : Below w.heap.size w w') : StoIs w' x y st := ⟨h.sing.below hb, h.slot.below hb, h.ne⟩

/-- A store within its bounds. -/
structure StoOk (st : Sto) : Prop where
  s0 : ∀ j, 0 ≤ st.sing.getD j 0 ∧ st.sing.getD j 0 < 4294967296
  l0 : ∀ j, U64i (st.slot.getD j 0)
  n1 : st.sing.length ≤ 16
  n2 : st.slot.length ≤ 12
  ev : st.sing.length % 2 = 0

/-- A place that is there. -/
def PlOk (st : Sto) (p : LPlace) : Prop := isB st.sing.length st.slot.length p = true ∨ (p.kind = 0 ∧ p.n = 0)

theorem row_at {w : World} {b : Nat} {t : TypeId} {l : List Int} {k : IntKind} (h : Row w b t (l.map (Value.int k))) {j : Nat} (hj : j < l.length) : w.cell? ⟨b, j, none⟩ = some (.int k (l.getD j 0)) := by
  rw [h.cell]; simp [List.getD, hj]

theorem pl_cases {st : Sto} {p : LPlace} (ho : StoOk st) (hp : PlOk st p) : (p.kind = 1 ∧ 0 ≤ p.n ∧ p.n < st.sing.length) ∨ (p.kind = 2 ∧ 0 ≤ p.n ∧ 2 * p.n + 1 < st.sing.length) ∨ (p.kind = 3 ∧ 0 ≤ p.n ∧ p.n < st.slot.length) ∨ p.kind = 0 := by
  have := ho.ev
  rcases hp with hp | hp
  · unfold isB at hp
    by_cases e1 : p.kind = 1
    · rw [if_pos e1] at hp; simp at hp; exact Or.inl ⟨e1, by omega, by omega⟩
    · rw [if_neg e1] at hp
      by_cases e2 : p.kind = 2
      · rw [if_pos e2] at hp; simp at hp
        exact Or.inr (Or.inl ⟨e2, by omega, by omega⟩)
      · rw [if_neg e2] at hp
        by_cases e3 : p.kind = 3
        · rw [if_pos e3] at hp; simp at hp; exact Or.inr (Or.inr (Or.inl ⟨e3, by omega, by omega⟩))
        · rw [if_neg e3] at hp; simp at hp
  · exact Or.inr (Or.inr (Or.inr hp.1))

theorem two_of (a b : Int) (ha0 : 0 ≤ a) (ha1 : a < 4294967296) (hb0 : 0 ≤ b) (hb1 : b < 4294967296) : IntKind.u64.wrap (IntKind.u64.wrap (a * 4294967296) + b) = a * 4294967296 + b := by
  rw [wrap64_of (a * 4294967296) (by omega) (by omega), wrap64_of _ (by omega) (by omega)]

set_option maxRecDepth 100000 in
set_option maxHeartbeats 1000000 in
theorem get7 (x y : Nat) (st : Sto) (p : LPlace) (w : World) (h : StoIs w x y st) (ho : StoOk st) (hp : PlOk st p) :
    Calls Try.prog 72 #[stoV x y st, p.val] w fun e w' => e = .returned (.int .u64 (getP st p)) ∧ Below w.heap.size w w' := by
  have hx := h.sing.lt
  have hy := h.slot.lt
  have hx1 : x < w.heap.size + 1 := by omega
  have hy1 : y < w.heap.size + 1 := by omega
  have n1 : (st.sing.length : Int) ≤ 16 := by have := ho.n1; omega
  have n2 : (st.slot.length : Int) ≤ 12 := by have := ho.n2; omega
  have HB2 : Hid (∀ o1 o2 : Obj, Below w.heap.size w ((w.alloc o1).alloc o2)) := fun o1 o2 => ((Below.refl _ _).alloc (Nat.le_refl _) _).alloc (by simp) _
  unfold stoV LPlace.val
  rcases pl_cases ho hp with ⟨e1, e2, e3⟩ | ⟨e1, e2, e3⟩ | ⟨e1, e2, e3⟩ | e1
  · have c0 := row_at h.sing (show p.n.toNat < st.sing.length by omega)
    have hu := ho.s0 p.n.toNat
    obtain ⟨hu0, hu1⟩ := hu
    obtain ⟨u, hue⟩ : ∃ u, u = st.sing.getD p.n.toNat 0 := ⟨_, rfl⟩
    rw [← hue] at c0 hu0 hu1
    have HE : Hid (getP st p = u) := by show getP st p = u; unfold getP; rw [if_pos e1, hue]
    have k1 : (p.kind == 1) = true := by simp [e1]
    clear hue e1
    go_enter Try.func72, Try.ntmps72
    go_wp2
    go_ret
    exact ⟨ret_int HE.out.symm, HB2.out _ _⟩
  · have c0 := row_at h.sing (show (2 * p.n + 1).toNat < st.sing.length by omega)
    have c1 := row_at h.sing (show (2 * p.n).toNat < st.sing.length by omega)
    obtain ⟨hu0, hu1⟩ := ho.s0 (2 * p.n + 1).toNat
    obtain ⟨hv0, hv1⟩ := ho.s0 (2 * p.n).toNat
    obtain ⟨u, hue⟩ : ∃ u, u = st.sing.getD (2 * p.n + 1).toNat 0 := ⟨_, rfl⟩
    obtain ⟨v, hve⟩ : ∃ u, u = st.sing.getD (2 * p.n).toNat 0 := ⟨_, rfl⟩
    rw [← hue] at c0 hu0 hu1
    rw [← hve] at c1 hv0 hv1
    have HE : Hid (getP st p = u * 4294967296 + v) := by show getP st p = _; unfold getP; rw [if_neg (by omega), if_pos e1, hue, hve]
    have k1 : (p.kind == 1) = false := by simp [e1]
    have k2 : (p.kind == 2) = true := by simp [e1]
    have y1 : 2 * p.n < (st.sing.length : Int) := by omega
    have y0 : 0 ≤ 2 * p.n := by omega
    have y2 : 0 ≤ 2 * p.n + 1 := by omega
    clear hue hve e1
    go_enter Try.func72, Try.ntmps72
    go_wp2
    go_quiet (fail)
    go_wp2
    go_ret
    exact ⟨ret_int HE.out.symm, below_drewN (HB2.out _ _) _⟩
  · have c0 := row_at h.slot (show p.n.toNat < st.slot.length by omega)
    obtain ⟨u, hue⟩ : ∃ u, u = st.slot.getD p.n.toNat 0 := ⟨_, rfl⟩
    rw [← hue] at c0
    have HE : Hid (getP st p = u) := by show getP st p = u; unfold getP; rw [if_neg (by omega), if_neg (by omega), if_pos e1, hue]
    have k1 : (p.kind == 1) = false := by simp [e1]
    have k2 : (p.kind == 2) = false := by simp [e1]
    have k3 : (p.kind == 3) = true := by simp [e1]
    clear hue e1
    go_enter Try.func72, Try.ntmps72
    go_wp2
    go_ret
    exact ⟨ret_int HE.out.symm, HB2.out _ _⟩
  · have HE : Hid (getP st p = 0) := by show getP st p = 0; unfold getP; rw [if_neg (by omega), if_neg (by omega), if_neg (by omega)]
    have k1 : (p.kind == 1) = false := by simp [e1]
    have k2 : (p.kind == 2) = false := by simp [e1]
    have k3 : (p.kind == 3) = false := by simp [e1]
    clear e1
    go_enter Try.func72, Try.ntmps72
    go_wp2
    go_ret
    exact ⟨ret_int HE.out.symm, HB2.out _ _⟩

/-- All blocks that were there are as they were, but for two. -/
structure But (x y : Nat) (w w' : World) : Prop where
  os : w'.os = w.os
  tape : w'.tape = w.tape
  output : w'.output = w.output
  size : w.heap.size ≤ w'.heap.size
  block : ∀ k, k < w.heap.size → k ≠ x → k ≠ y → w'.heap[k]? = w.heap[k]?

theorem But.of_below {x y : Nat} {w w' : World} (h : Below w.heap.size w w') : But x y w w' := ⟨h.os, h.tape, h.output, h.size, fun k hk _ _ => h.block k hk⟩
theorem But.trans {x y : Nat} {a b c : World} (h : But x y a b) (k : But x y b c) : But x y a c :=
  ⟨k.os.trans h.os, k.tape.trans h.tape, k.output.trans h.output, Nat.le_trans h.size k.size, fun i hi h1 h2 => (k.block i (Nat.lt_of_lt_of_le hi h.size) h1 h2).trans (h.block i hi h1 h2)⟩
theorem But.set {x y : Nat} {w w' : World} (h : But x y w w') {a : Addr} (ha : a.block = x ∨ a.block = y) (u : Value) : But x y w (w'.setCell a u) :=
  ⟨h.os, h.tape, h.output, by simpa [World.setCell] using h.size, fun k hk h1 h2 => by rw [Below.heap_setCell _ _ _ _ (by rcases ha with ha | ha <;> rw [ha] <;> assumption)]; exact h.block k hk h1 h2⟩
theorem But.cell {x y : Nat} {w w' : World} (h : But x y w w') {p : Addr} {v : Value} (hc : w.cell? p = some v) (h1 : p.block ≠ x) (h2 : p.block ≠ y) : w'.cell? p = some v := by
  rw [World.cell?_of_block (h.block p.block (World.block_lt_of_cell? w _ hc) h1 h2)]; exact hc
theorem But.row {x y : Nat} {w w' : World} {b : Nat} {t : TypeId} {cs : List Value} (h : But x y w w') (hr : Row w b t cs) (h1 : b ≠ x) (h2 : b ≠ y) : Row w' b t cs := by
  have := hr.lt
  unfold Row at *
  rw [h.block b this h1 h2]; exact hr
/-- Below a number that both are not below. -/
theorem But.below {x y B : Nat} {w w' : World} (h : But x y w w') (hx : B ≤ x) (hy : B ≤ y) (hB : B ≤ w.heap.size) : Below B w w' :=
  ⟨h.os, h.tape, h.output, h.size, fun k hk => h.block k (by omega) (by omega) (by omega)⟩

theorem StoIs.setSing {w : World} {x y : Nat} {st : Sto} (h : StoIs w x y st) (j : Nat) (v : Int) : StoIs (w.setCell ⟨x, j, none⟩ (.int .u32 v)) x y ⟨st.sing.set j v, st.slot⟩ :=
  ⟨by have := h.sing.set j (.int .u32 v); simpa [List.map_set] using this, h.slot.other (by exact fun e => h.ne e.symm) _, h.ne⟩
theorem StoIs.setSlot {w : World} {x y : Nat} {st : Sto} (h : StoIs w x y st) (j : Nat) (v : Int) : StoIs (w.setCell ⟨y, j, none⟩ (.int .u64 v)) x y ⟨st.sing, st.slot.set j v⟩ :=
  ⟨h.sing.other (by exact h.ne) _, by have := h.slot.set j (.int .u64 v); simpa [List.map_set] using this, h.ne⟩

theorem StoIs.alloc2 {w : World} {x y : Nat} {st : Sto} (h : StoIs w x y st) (o1 o2 : Obj) : StoIs ((w.alloc o1).alloc o2) x y st := h.below (((Below.refl _ _).alloc (Nat.le_refl _) _).alloc (by simp) _)
theorem But.alloc2 {w w' : World} {x y : Nat} (h : But x y w w') (o1 o2 : Obj) : But x y w ((w'.alloc o1).alloc o2) := h.trans (But.of_below (((Below.refl _ _).alloc (Nat.le_refl _) _).alloc (by simp) _))
theorem But.refl {x y : Nat} (w : World) : But x y w w := But.of_below (Below.refl _ _)
theorem But.setX {x y : Nat} {w w' : World} (h : But x y w w') (j : Nat) (u : Value) : But x y w (w'.setCell ⟨x, j, none⟩ u) := h.set (a := ⟨x, j, none⟩) (Or.inl rfl) u
theorem But.setY {x y : Nat} {w w' : World} (h : But x y w w') (j : Nat) (u : Value) : But x y w (w'.setCell ⟨y, j, none⟩ u) := h.set (a := ⟨y, j, none⟩) (Or.inr rfl) u
theorem rem_conv (v : Int) (h : U64i v) : v % 4294967296 % 4294967296 = v % 4294967296 := by omega

set_option maxRecDepth 100000 in
set_option maxHeartbeats 1000000 in
theorem put7 (x y : Nat) (st : Sto) (p : LPlace) (v : Int) (w : World) (h : StoIs w x y st) (ho : StoOk st) (hp : PlOk st p) (hv : U64i v) :
    Calls Try.prog 73 #[stoV x y st, p.val, .int .u64 v] w fun e w' => e = .returned (.tuple #[]) ∧ StoIs w' x y (putP st p v) ∧ But x y w w' := by
  have hx := h.sing.lt
  have hy := h.slot.lt
  have hx1 : x < w.heap.size + 1 := by omega
  have hy1 : y < w.heap.size + 1 := by omega
  have n1 : (st.sing.length : Int) ≤ 16 := by have := ho.n1; omega
  have n2 : (st.slot.length : Int) ≤ 12 := by have := ho.n2; omega
  have v0 := hv.1
  have HB2 : Hid (∀ o1 o2 : Obj, Below w.heap.size w ((w.alloc o1).alloc o2)) := fun o1 o2 => ((Below.refl _ _).alloc (Nat.le_refl _) _).alloc (by simp) _
  have HS2 : Hid (∀ o1 o2 : Obj, StoIs ((w.alloc o1).alloc o2) x y st) := fun o1 o2 => h.below (HB2.out o1 o2)
  have HBt : Hid (∀ o1 o2 : Obj, But x y w ((w.alloc o1).alloc o2)) := fun o1 o2 => But.of_below (HB2.out o1 o2)
  unfold stoV LPlace.val
  rcases pl_cases ho hp with ⟨e1, e2, e3⟩ | ⟨e1, e2, e3⟩ | ⟨e1, e2, e3⟩ | e1
  · have c0 := row_at h.sing (show p.n.toNat < st.sing.length by omega)
    have f0 := h.sing.frozen p.n.toNat
    have HE : Hid (putP st p v = ⟨st.sing.set p.n.toNat (v % 4294967296), st.slot⟩) := by show putP st p v = _; unfold putP; rw [if_pos e1]
    have k1 : (p.kind == 1) = true := by simp [e1]
    clear e1
    go_enter Try.func73, Try.ntmps73
    go_wp2
    go_end0
    refine ⟨rfl, ?_, ((But.refl _).setX _ _).alloc2 _ _⟩
    rw [HE.out]
    exact (h.setSing _ _).alloc2 _ _
  · have c0 := row_at h.sing (show (2 * p.n).toNat < st.sing.length by omega)
    have c1 := row_at h.sing (show (2 * p.n + 1).toNat < st.sing.length by omega)
    have c2 : (w.setCell ⟨x, (2 * p.n).toNat, none⟩ (.int .u32 (v % 4294967296))).cell? ⟨x, (2 * p.n + 1).toNat, none⟩ = some (.int .u32 (st.sing.getD (2 * p.n + 1).toNat 0)) := by
      have r := row_at (h.setSing (2 * p.n).toNat (v % 4294967296)).sing (j := (2 * p.n + 1).toNat) (by simp; omega)
      rw [r]
      simp only [List.getD]
      rw [List.getElem?_set_ne (by omega)]
    have f0 := h.sing.frozen (2 * p.n).toNat
    have f1 := h.sing.frozen (2 * p.n + 1).toNat
    have f2 := (h.setSing (2 * p.n).toNat (v % 4294967296)).sing.frozen (2 * p.n + 1).toNat
    have HE : Hid (putP st p v = ⟨(st.sing.set (2 * p.n).toNat (v % 4294967296)).set (2 * p.n + 1).toNat (v / 4294967296), st.slot⟩) := by show putP st p v = _; unfold putP; rw [if_neg (by omega), if_pos e1]
    have HH : Hid (IntKind.u64.wrap (v.tdiv 4294967296) % 4294967296 = v / 4294967296) := by
      show _ = _
      rw [half_of v hv.1 hv.2]
      have := hv.2
      omega
    have k1 : (p.kind == 1) = false := by simp [e1]
    have k2 : (p.kind == 2) = true := by simp [e1]
    have y1 : 2 * p.n < (st.sing.length : Int) := by omega
    have y0 : 0 ≤ 2 * p.n := by omega
    have y2 : 0 ≤ 2 * p.n + 1 := by omega
    clear e1
    go_enter Try.func73, Try.ntmps73
    go_wp2
    go_end0
    refine ⟨rfl, ?_, ?_⟩
    · rw [HE.out, ← HH.out]
      exact ((h.setSing _ _).setSing _ _).alloc2 _ _
    · exact (((But.refl _).setX _ _).setX _ _).alloc2 _ _
  · have c0 := row_at h.slot (show p.n.toNat < st.slot.length by omega)
    have f0 := h.slot.frozen p.n.toNat
    have HE : Hid (putP st p v = ⟨st.sing, st.slot.set p.n.toNat v⟩) := by show putP st p v = _; unfold putP; rw [if_neg (by omega), if_neg (by omega), if_pos e1]
    have k1 : (p.kind == 1) = false := by simp [e1]
    have k2 : (p.kind == 2) = false := by simp [e1]
    have k3 : (p.kind == 3) = true := by simp [e1]
    clear e1
    go_enter Try.func73, Try.ntmps73
    go_wp2
    go_end0
    refine ⟨rfl, ?_, ((But.refl _).setY _ _).alloc2 _ _⟩
    rw [HE.out]
    exact (h.setSlot _ _).alloc2 _ _
  · have HE : Hid (putP st p v = st) := by show putP st p v = st; unfold putP; rw [if_neg (by omega), if_neg (by omega), if_neg (by omega)]
    have k1 : (p.kind == 1) = false := by simp [e1]
    have k2 : (p.kind == 2) = false := by simp [e1]
    have k3 : (p.kind == 3) = false := by simp [e1]
    clear e1
    go_enter Try.func73, Try.ntmps73
    go_wp2
    go_end0
    refine ⟨rfl, ?_, HBt.out _ _⟩
    rw [HE.out]
    exact HS2.out _ _

end Go.Proofs.Ytcmnmogmdhofcaa.form

/- What the document's moves (loanbookref7.moves) do to a store. -/
namespace Go.Proofs.Ytcmnmogmdhofcaa.form
open Go.RowKit Go.Proofs.Ytcmnmogmdhofcaa.num
set_option linter.unusedVariables false
attribute [local go_sem ↓] Go.wp_at_zero Go.wp_at_succ

def moveP (st : Sto) (m : LMove) : Sto := putP st m.dst (if m.cst then m.n else getP st m.src)
def movesP (st : Sto) (l : List LMove) : Sto := l.foldl moveP st

theorem putP_len (st : Sto) (p : LPlace) (v : Int) : (putP st p v).sing.length = st.sing.length ∧ (putP st p v).slot.length = st.slot.length := by
  unfold putP
  split
  · simp
  split
  · simp
  split <;> simp
theorem movesP_len (l : List LMove) : ∀ st : Sto, (movesP st l).sing.length = st.sing.length ∧ (movesP st l).slot.length = st.slot.length := by
  induction l with
  | nil => intro st; exact ⟨rfl, rfl⟩
  | cons m l ih =>
    intro st
    have h := putP_len st m.dst (if m.cst then m.n else getP st m.src)
    have := ih (moveP st m)
    unfold movesP at *
    simp only [List.foldl_cons]
    unfold moveP at this ⊢
    omega
theorem PlOk.len {st st' : Sto} {p : LPlace} (h1 : st'.sing.length = st.sing.length) (h2 : st'.slot.length = st.slot.length) (h : PlOk st p) : PlOk st' p := by
  unfold PlOk at *
  rw [h1, h2]
  exact h
theorem stoV_len {x y : Nat} {st st' : Sto} (h1 : st'.sing.length = st.sing.length) (h2 : st'.slot.length = st.slot.length) : stoV x y st' = stoV x y st := by
  unfold stoV
  rw [h1, h2]

theorem set_u32 {l : List Int} {k : Nat} {x : Int} (h : ∀ j, 0 ≤ l.getD j 0 ∧ l.getD j 0 < 4294967296) (hx0 : 0 ≤ x) (hx1 : x < 4294967296) : ∀ j, 0 ≤ (l.set k x).getD j 0 ∧ (l.set k x).getD j 0 < 4294967296 := by
  intro j
  by_cases hj : j < l.length
  · by_cases hk : k = j
    · subst hk
      rw [show (l.set k x).getD k 0 = x by simp [List.getD, hj]]
      exact ⟨hx0, hx1⟩
    · rw [show (l.set k x).getD j 0 = l.getD j 0 by simp [List.getD, hj, hk]]
      exact h j
  · rw [show (l.set k x).getD j 0 = 0 by simp [List.getD, List.getElem?_eq_none (show (l.set k x).length ≤ j by simp; omega)]]
    omega

theorem sto_put {st : Sto} {p : LPlace} {v : Int} (h : StoOk st) (hv : U64i v) : StoOk (putP st p v) := by
  have hl := putP_len st p v
  have h0 := hv.1
  have h1 := hv.2
  refine ⟨?_, ?_, by rw [hl.1]; exact h.n1, by rw [hl.2]; exact h.n2, by rw [hl.1]; exact h.ev⟩
  · unfold putP
    split
    · exact set_u32 h.s0 (by omega) (by omega)
    split
    · exact set_u32 (set_u32 h.s0 (by omega) (by omega)) (by omega) (by omega)
    split <;> exact h.s0
  · unfold putP
    split
    · exact h.l0
    split
    · exact h.l0
    split
    · exact getD_set_bd h.l0 hv
    · exact h.l0
theorem get_bd {st : Sto} (p : LPlace) (h : StoOk st) : U64i (getP st p) := by
  unfold getP
  split
  · have := h.s0 p.n.toNat; exact ⟨this.1, by omega⟩
  split
  · have := h.s0 (2 * p.n + 1).toNat; have := h.s0 (2 * p.n).toNat; exact ⟨by omega, by omega⟩
  split
  · exact h.l0 _
  · exact ⟨by omega, by omega⟩
theorem sto_move {st : Sto} {m : LMove} (h : StoOk st) (hn0 : 0 ≤ m.n) (hn1 : m.n < 4294967296) : StoOk (moveP st m) := by
  unfold moveP
  refine sto_put h ?_
  split
  · exact ⟨hn0, by omega⟩
  · exact get_bd _ h
theorem sto_moves (l : List LMove) : ∀ st : Sto, StoOk st → (∀ k, k < l.length → 0 ≤ (l.getD k .zero).n ∧ (l.getD k .zero).n < 4294967296) → StoOk (movesP st l) := by
  induction l with
  | nil => intro st h _; exact h
  | cons m l ih =>
    intro st h hn
    have h0 := hn 0 (by simp)
    refine ih (moveP st m) (sto_move h (by simpa using h0.1) (by simpa using h0.2)) (fun k hk => ?_)
    have := hn (k + 1) (by simpa using hk)
    simpa using this
theorem moves_succ (st : Sto) (l : List LMove) (k : Nat) (hk : k < l.length) : movesP st (l.take (k + 1)) = moveP (movesP st (l.take k)) (l.getD k .zero) := by
  unfold movesP
  rw [List.take_succ_eq_append_getElem hk, List.foldl_append]
  simp [List.getD, hk]

/-- Moves that may be, of a store. -/
def MvOk (st : Sto) (m : LMove) : Prop := PlOk st m.dst ∧ PlOk st m.src ∧ 0 ≤ m.n ∧ m.n < 4294967296

theorem drew_below (w : World) : Below w.heap.size w w.drew := (Below.refl _ _).drew

set_option maxRecDepth 100000 in
set_option maxHeartbeats 2000000 in
theorem moves7 (x y : Nat) (st : Sto) (v : Value) (l : List LMove) (wO w : World) (h : StoIs w x y st) (ho : StoOk st) (hl6 : l.length ≤ 6) (hm : MovesIs wO v l) (hO : Below wO.heap.size wO w) (hx : wO.heap.size ≤ x) (hy : wO.heap.size ≤ y) (hok : ∀ k, k < l.length → MvOk st (l.getD k .zero)) :
    Calls Try.prog 71 #[stoV x y st, v] w fun e w' => e = .returned (.tuple #[]) ∧ StoIs w' x y (movesP st l) ∧ But x y w w' := by
  obtain ⟨ao, cap, rfl, hl, hc⟩ := hm
  have HC : Hid _ := hc
  have HOK : Hid (∀ k, k < l.length → MvOk st (l.getD k .zero)) := hok
  have hxl := h.sing.lt
  have hyl := h.slot.lt
  have z6 : (l.length : Int) ≤ 6 := by omega
  have HV : Hid (∀ st' : Sto, st'.sing.length = st.sing.length → st'.slot.length = st.slot.length → stoV x y st' = .agg #[.slice (some ⟨x, 0, none⟩) st.sing.length st.sing.length, .slice (some ⟨y, 0, none⟩) st.slot.length st.slot.length]) := fun st' h1 h2 => stoV_len h1 h2
  clear hc hok
  unfold stoV
  go_enter Try.func71, Try.ntmps71
  go_wp2
  go_loopw [4] (fun t wr => ∃ k : Nat, k ≤ l.length ∧ t = .int .i64 k ∧ StoIs wr x y (movesP st (l.take k)) ∧ But x y w wr ∧ wr.cell? ⟨w.heap.size, 0, none⟩ = some (.slice (some ⟨x, 0, none⟩) st.sing.length st.sing.length) ∧ wr.cell? ⟨w.heap.size, 1, none⟩ = some (.slice (some ⟨y, 0, none⟩) st.slot.length st.slot.length)) (fun t _ => l.length - (intOf t).toNat)
  case atStart => exact ⟨0, by omega, rfl, h.below ((Below.refl _ _).alloc (Nat.le_refl _) _), But.of_below ((Below.refl _ _).alloc (Nat.le_refl _) _), by simp [go_sem], by simp [go_sem]⟩
  case round =>
    obtain ⟨k, hk, rfl, hst, hbt, g0, g1⟩ := hrel
    by_cases hlt : k < l.length
    case neg =>
      go_wp2
      go_end0
      refine ⟨rfl, ?_, hbt⟩
      rw [List.take_of_length_le (by omega)] at hst
      exact hst
    obtain ⟨b, o, rfl, hbl, hcell⟩ := HC.out (by omega)
    have hbel : Below wO.heap.size wO wr := hO.trans (hbt.below hx hy (by have := hO.size; omega))
    obtain ⟨d0, d1, d2, d3, d4, d5⟩ := hcell k hlt
    have d0 := step_cell hbel d0
    have d1 := step_cell hbel d1
    have d2 := step_cell hbel d2
    have d3 := step_cell hbel d3
    have d4 := step_cell hbel d4
    have d5 := step_cell hbel d5
    obtain ⟨m, hi⟩ : ∃ m, m = l.getD k .zero := ⟨_, rfl⟩
    have hmo := HOK.out k hlt
    rw [← hi] at d0 d1 d2 d3 d4 d5 hmo
    have HI : Hid (m = l.getD k .zero) := hi
    have hlen := movesP_len (l.take k) st
    obtain ⟨st', hst'⟩ : ∃ s', s' = movesP st (l.take k) := ⟨_, rfl⟩
    rw [← hst'] at hst hlen
    have HS' : Hid (st' = movesP st (l.take k)) := hst'
    have hsok : StoOk st' := by
      rw [hst']
      refine sto_moves _ st ho (fun j hj => ?_)
      have hj' : j < k := by simp at hj; omega
      have := (HOK.out j (by omega)).2.2
      have e : (l.take k).getD j .zero = l.getD j .zero := by simp [List.getD, hj']
      rw [e]
      exact this
    obtain ⟨ho1, ho2, hn0, hn1⟩ := hmo
    have ho1 := PlOk.len hlen.1 hlen.2 ho1
    have ho2 := PlOk.len hlen.1 hlen.2 ho2
    have hv := HV.out st' hlen.1 hlen.2
    have HVV : Hid (stoV x y st' = _) := hv
    have HG : Hid (∀ w', StoIs w' x y st' → Calls Try.prog 72 #[.agg #[.slice (some ⟨x, 0, none⟩) st.sing.length st.sing.length, .slice (some ⟨y, 0, none⟩) st.slot.length st.slot.length], m.src.val] w' fun e w'' => e = .returned (.int .u64 (getP st' m.src)) ∧ Below w'.heap.size w' w'') := fun w' hs => by rw [← HVV.out]; exact get7 x y st' m.src w' hs hsok ho2
    have HPt : Hid (∀ w' g, U64i g → StoIs w' x y st' → Calls Try.prog 73 #[.agg #[.slice (some ⟨x, 0, none⟩) st.sing.length st.sing.length, .slice (some ⟨y, 0, none⟩) st.slot.length st.slot.length], m.dst.val, .int .u64 g] w' fun e w'' => e = .returned (.tuple #[]) ∧ StoIs w'' x y (putP st' m.dst g) ∧ But x y w' w'') := fun w' g hg hs => by rw [← HVV.out]; exact put7 x y st' m.dst g w' hs hsok ho1 hg
    have y1 : (k : Int) < (l.length : Int) := by omega
    have HST : Hid (StoIs wr x y st') := hst
    have HSO : Hid (StoOk st') := hsok
    have HO1 : Hid (PlOk st' m.dst) := ho1
    have HO2 : Hid (PlOk st' m.src) := ho2
    have nx : b ≠ x := by omega
    have ny : b ≠ y := by omega
    have nX : w.heap.size ≠ x := by omega
    have nY : w.heap.size ≠ y := by omega
    clear hi hcell hst' hlen hv hst hsok ho1 ho2
    go_wp2
    go_region_held3 (fun w' => But x y wr w' ∧ w'.cell? ⟨w.heap.size, 0, none⟩ = some (.slice (some ⟨x, 0, none⟩) st.sing.length st.sing.length) ∧ w'.cell? ⟨w.heap.size, 1, none⟩ = some (.slice (some ⟨y, 0, none⟩) st.slot.length st.slot.length) ∧ w'.cell? ⟨b, o + k * 6 + 2, none⟩ = some (.int .i64 m.src.kind) ∧ w'.cell? ⟨b, o + k * 6 + 3, none⟩ = some (.int .i64 m.src.n))
      ((go_split_ands; refine ⟨?_, ?_, ?_, ?_, ?_⟩ <;> first | exact But.of_below (Below.refl _ _).drew | exact (But.of_below (Below.refl _ _).drew).trans (But.of_below hbg) | exact But.cell (But.of_below hbg) (by assumption) (by dsimp only; omega) (by dsimp only; omega) | go_keep))
      ((go_at_call 72; refine (HG.out _ (HST.out.below (drew_below _))).mono ?_; rintro e w1 ⟨rfl, hbg⟩))
    rename_i hHeldx
    have hb1 : Below wr.heap.size wr w1 := (drew_below _).trans hbg
    clear hHeldx hbg
    have D0 := step_cell hb1 d0
    have D1 := step_cell hb1 d1
    have D4 := step_cell hb1 d4
    have D5 := step_cell hb1 d5
    have G0 := step_cell hb1 g0
    have G1 := step_cell hb1 g1
    have HST1 : Hid (StoIs w1 x y st') := HST.out.below hb1
    have HBT1 : Hid (But x y w w1) := hbt.trans (But.of_below hb1)
    clear d0 d1 d2 d3 d4 d5 g0 g1 hb1 hbt hbel
    obtain ⟨gv, hgv⟩ : ∃ u, u = if m.cst then m.n else getP st' m.src := ⟨_, rfl⟩
    have hgb : U64i gv := by
      rw [hgv]; split
      · exact ⟨hn0, by omega⟩
      · exact get_bd _ HSO.out
    have HGV : Hid (gv = if m.cst then m.n else getP st' m.src) := hgv
    have hmv : moveP st' m = putP st' m.dst gv := by rw [hgv]; rfl
    have HMV : Hid (moveP st' m = putP st' m.dst gv) := hmv
    clear hgv hmv
    cases hcs : m.cst
    all_goals
      rw [hcs] at D4
      have HG2 : Hid _ := HGV.out
      rw [hcs] at HG2
    · have hg3 : getP st' m.src = gv := HG2.out.symm
      rw [hg3]
      clear hg3
      go_wp2
      go_region_held3 (fun w' => But x y w1 w' ∧ w'.cell? ⟨w.heap.size, 0, none⟩ = some (.slice (some ⟨x, 0, none⟩) st.sing.length st.sing.length) ∧ w'.cell? ⟨w.heap.size, 1, none⟩ = some (.slice (some ⟨y, 0, none⟩) st.slot.length st.slot.length) ∧ w'.cell? ⟨b, o + k * 6, none⟩ = some (.int .i64 m.dst.kind) ∧ w'.cell? ⟨b, o + k * 6 + 1, none⟩ = some (.int .i64 m.dst.n))
        ((go_split_ands; refine ⟨?_, ?_, ?_, ?_, ?_⟩ <;> first | exact But.of_below (Below.refl _ _).drew | exact (But.of_below (Below.refl _ _).drew).trans hbp | exact But.cell hbp (by assumption) (by dsimp only; omega) (by dsimp only; omega) | go_keep))
        ((go_at_call 73; refine (HPt.out _ gv hgb (HST1.out.below (drew_below _))).mono ?_; rintro e w2 ⟨rfl, hsp, hbp⟩))
      rename_i hHeldx
      have hb2 : But x y w1 w2 := hHeldx.1
      have hq0 := hHeldx.2.1
      have hq1 := hHeldx.2.2.1
      have R : Hid _ := (⟨hsp, HBT1.out.trans hb2, hq0, hq1⟩ : _ ∧ _ ∧ _ ∧ _)
      clear hHeldx hb2 hq0 hq1 hsp hbp
      go_wp2
      obtain ⟨r1, r2, r3, r4⟩ := R.out
      have r5 : StoIs w2 x y (movesP st (l.take (k + 1))) := by
        rw [moves_succ st l k hlt, ← HS'.out, ← HI.out, HMV.out]
        exact r1
      exact ⟨⟨k + 1, by omega, by go_num, r5, r2, r3, r4⟩, by simp [intOf]; omega⟩
    · have hg3 : m.n = gv := HG2.out.symm
      go_wp2
      go_region_held3 (fun w' => But x y w1 w' ∧ w'.cell? ⟨w.heap.size, 0, none⟩ = some (.slice (some ⟨x, 0, none⟩) st.sing.length st.sing.length) ∧ w'.cell? ⟨w.heap.size, 1, none⟩ = some (.slice (some ⟨y, 0, none⟩) st.slot.length st.slot.length) ∧ w'.cell? ⟨b, o + k * 6, none⟩ = some (.int .i64 m.dst.kind) ∧ w'.cell? ⟨b, o + k * 6 + 1, none⟩ = some (.int .i64 m.dst.n))
        ((go_split_ands; refine ⟨?_, ?_, ?_, ?_, ?_⟩ <;> first | exact But.of_below (Below.refl _ _).drew | exact (But.of_below (Below.refl _ _).drew).trans hbp | exact But.cell hbp (by assumption) (by dsimp only; omega) (by dsimp only; omega) | go_keep))
        ((go_at_call 73; refine (HPt.out _ gv hgb (HST1.out.below (drew_below _))).mono ?_; rintro e w2 ⟨rfl, hsp, hbp⟩))
      rename_i hHeldx
      have hb2 : But x y w1 w2 := hHeldx.1
      have hq0 := hHeldx.2.1
      have hq1 := hHeldx.2.2.1
      have R : Hid _ := (⟨hsp, HBT1.out.trans hb2, hq0, hq1⟩ : _ ∧ _ ∧ _ ∧ _)
      clear hHeldx hb2 hq0 hq1 hsp hbp
      go_wp2
      obtain ⟨r1, r2, r3, r4⟩ := R.out
      have r5 : StoIs w2 x y (movesP st (l.take (k + 1))) := by
        rw [moves_succ st l k hlt, ← HS'.out, ← HI.out, HMV.out]
        exact r1
      exact ⟨⟨k + 1, by omega, by go_num, r5, r2, r3, r4⟩, by simp [intOf]; omega⟩

end Go.Proofs.Ytcmnmogmdhofcaa.form

/- What is needed, on plain numbers: the least truths; a search that is closed finds them; rows of truths in memory. -/
namespace Go.Proofs.Ytcmnmogmdhofcaa.form
open Go.RowKit
set_option linter.unusedVariables false

def usesI (i : LIns) : List Int := ([i.a, i.b] : List Int).take (manyI i.op).toNat
def takesI (i : LIns) (t : Int) : Bool := (usesI i).contains t
def givesT (i : LIns) (t : Int) : Bool := givesB i.op && (i.dest == t)
def nextsI (i : LIns) (pc : Nat) : List Int := if i.op = 8 then [i.c] else if i.op = 10 then [] else if i.op = 9 then [(pc : Int) + 1, i.c] else [(pc : Int) + 1]
def nextsN (i : LIns) (pc : Nat) : List Nat := (nextsI i pc).map Int.toNat

/-- Needed ahead of an instruction, seen in so many steps. -/
def NeedN (C : List LIns) (t : Int) : Nat → Nat → Prop
  | 0, _ => False
  | n + 1, k => k < C.length ∧ (takesI (C.getD k .zero) t = true ∨ (givesT (C.getD k .zero) t = false ∧ ∃ x, x ∈ nextsN (C.getD k .zero) k ∧ NeedN C t n x))

def Need (C : List LIns) (t : Int) (k : Nat) : Prop := ∃ n, NeedN C t n k

theorem need_iff (C : List LIns) (t : Int) (k : Nat) :
    Need C t k ↔ k < C.length ∧ (takesI (C.getD k .zero) t = true ∨ (givesT (C.getD k .zero) t = false ∧ ∃ x, x ∈ nextsN (C.getD k .zero) k ∧ Need C t x)) := by
  constructor
  · rintro ⟨n, hn⟩
    cases n with
    | zero => exact hn.elim
    | succ n =>
      refine ⟨hn.1, hn.2.imp id (fun h => ⟨h.1, ?_⟩)⟩
      obtain ⟨x, hx, hn⟩ := h.2
      exact ⟨x, hx, n, hn⟩
  · rintro ⟨hk, h | ⟨hg, x, hx, n, hn⟩⟩
    · exact ⟨1, hk, Or.inl h⟩
    · exact ⟨n + 1, hk, Or.inr ⟨hg, x, hx, hn⟩⟩

theorem need_lt {C : List LIns} {t : Int} {k : Nat} (h : Need C t k) : k < C.length := ((need_iff C t k).1 h).1

/-- The least truths: whatever is closed has them. -/
theorem need_least (C : List LIns) (t : Int) (P : Nat → Prop)
    (h : ∀ k, k < C.length → (takesI (C.getD k .zero) t = true ∨ (givesT (C.getD k .zero) t = false ∧ ∃ x, x ∈ nextsN (C.getD k .zero) k ∧ P x)) → P k) : ∀ k, Need C t k → P k := by
  have hn : ∀ n k, NeedN C t n k → P k := by
    intro n
    induction n with
    | zero => exact fun k hk => hk.elim
    | succ n ih =>
      intro k hk
      refine h k hk.1 (hk.2.imp id (fun h2 => ⟨h2.1, ?_⟩))
      obtain ⟨x, hx, hxn⟩ := h2.2
      exact ⟨x, hx, ih x hxn⟩
  rintro k ⟨n, hk⟩
  exact hn n k hk

/-- A search that has come to its end without one that takes it: it is not needed in any of those that it came to. -/
theorem need_none (C : List LIns) (t : Int) (W : Nat → Prop)
    (h : ∀ k, W k → takesI (C.getD k .zero) t = false ∧ (givesT (C.getD k .zero) t = true ∨ ∀ x, x ∈ nextsN (C.getD k .zero) k → x < C.length → W x)) : ∀ k, W k → ¬ Need C t k := by
  intro k hk hn
  refine (need_least C t (fun k => k < C.length ∧ ¬ W k) (fun k hlt hor => ⟨hlt, fun hW => ?_⟩) k hn).2 hk
  obtain ⟨h1, h2⟩ := h k hW
  rcases hor with hor | ⟨hg, x, hx, hxl, hxW⟩
  · rw [h1] at hor; exact absurd hor (by simp)
  · rcases h2 with h2 | h2
    · rw [hg] at h2; exact absurd h2 (by simp)
    · exact hxW (h2 x hx hxl)

theorem nexts_len (i : LIns) (pc : Nat) : (nextsI i pc).length ≤ 2 := by
  unfold nextsI
  split
  · simp
  split
  · simp
  split <;> simp

/-- Where an instruction of a program that may be goes on is a place at or behind the first one. -/
theorem nexts_bd {nB nC : Nat} {i : LIns} (hi : InsOk nB nC i) {pc : Nat} (hpc : pc < nC) : ∀ x, x ∈ nextsI i pc → 0 ≤ x ∧ x ≤ nC := by
  intro x hx
  unfold nextsI at hx
  split at hx
  · rename_i h8
    have := hi.c (Or.inl h8)
    simp at hx
    omega
  split at hx
  · simp at hx
  split at hx
  · rename_i h9
    have := hi.c (Or.inr h9)
    simp at hx
    omega
  · simp at hx
    omega

/-- A row of truths in memory. -/
def BRowIs (w : World) (v : Value) (l : List Bool) : Prop :=
  ∃ ao cap, v = .slice ao l.length cap ∧ l.length ≤ 1000000 ∧ (0 < l.length → ∃ b o, ao = some ⟨b, o, none⟩ ∧ b < w.heap.size ∧ ∀ j, j < l.length → w.cell? ⟨b, o + j, none⟩ = some (.bool (l.getD j false)))
/-- Rows of truths in memory. -/
def MatIs (w : World) (v : Value) (R : List (List Bool)) : Prop :=
  ∃ ao cap, v = .slice ao R.length cap ∧ R.length ≤ 1000000 ∧ (0 < R.length → ∃ b o, ao = some ⟨b, o, none⟩ ∧ b < w.heap.size ∧ ∀ k, k < R.length → ∃ rv, w.cell? ⟨b, o + k, none⟩ = some rv ∧ BRowIs w rv (R.getD k []))

theorem BRowIs.later {w w' : World} {v : Value} {l : List Bool} (h : BRowIs w v l) (hb : Below w.heap.size w w') : BRowIs w' v l := by
  obtain ⟨ao, cap, hv, hl, hc⟩ := h
  refine ⟨ao, cap, hv, hl, fun h0 => ?_⟩
  obtain ⟨b, o, e, hlt, hcell⟩ := hc h0
  exact ⟨b, o, e, Nat.lt_of_lt_of_le hlt hb.size, fun j hj => step_cell hb (hcell j hj)⟩
theorem MatIs.later {w w' : World} {v : Value} {R : List (List Bool)} (h : MatIs w v R) (hb : Below w.heap.size w w') : MatIs w' v R := by
  obtain ⟨ao, cap, hv, hl, hc⟩ := h
  refine ⟨ao, cap, hv, hl, fun h0 => ?_⟩
  obtain ⟨b, o, e, hlt, hcell⟩ := hc h0
  refine ⟨b, o, e, Nat.lt_of_lt_of_le hlt hb.size, fun k hk => ?_⟩
  obtain ⟨rv, h1, h2⟩ := hcell k hk
  exact ⟨rv, step_cell hb h1, h2.later hb⟩

/-- The rows of what is needed. -/
structure NeedMat (nB : Nat) (C : List LIns) (R : List (List Bool)) : Prop where
  len : R.length = C.length
  row : ∀ k, k < C.length → (R.getD k []).length = nB
  tru : ∀ k, k < C.length → ∀ t, t < nB → ((R.getD k []).getD t false = true ↔ Need C t k)

/-- They are only one. -/
theorem NeedMat.only {nB : Nat} {C : List LIns} {R Q : List (List Bool)} (h : NeedMat nB C R) (g : NeedMat nB C Q) : R = Q := by
  apply List.ext_getElem (by rw [h.len, g.len])
  intro k hk1 hk2
  have hk : k < C.length := by rw [← h.len]; exact hk1
  have r1 := h.row k hk
  have q1 := g.row k hk
  have e1 : R.getD k [] = R[k] := by simp [List.getD, hk1]
  have e2 : Q.getD k [] = Q[k] := by simp [List.getD, hk2]
  have t1 := h.tru k hk
  have t2 := g.tru k hk
  rw [e1] at r1 t1
  rw [e2] at q1 t2
  apply List.ext_getElem (by rw [r1, q1])
  intro j hj1 hj2
  have a := t1 j (by omega)
  have b := t2 j (by omega)
  rw [show R[k].getD j false = R[k][j] by simp [List.getD, hj1]] at a
  rw [show Q[k].getD j false = Q[k][j] by simp [List.getD, hj2]] at b
  rw [Bool.eq_iff_iff, a, b]

end Go.Proofs.Ytcmnmogmdhofcaa.form
