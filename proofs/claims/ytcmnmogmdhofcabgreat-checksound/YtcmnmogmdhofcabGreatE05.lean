/- What the document's functions on stores answer (loanbookref7.get, put): registers and slots on plain numbers. -/
import Derived.Test.YtcmnmogmdhofcabGreatE04
import Derived.Test.YtcmnmogmdhofcabGreatE03

namespace Go.Proofs.YtcmnmogmdhofcabGreat.form
open Go.RowKit Go.Proofs.YtcmnmogmdhofcabGreat.num
set_option linter.unusedVariables false
attribute [local go_sem ↓] Go.wp_at_zero Go.wp_at_succ

structure Sto where
  sing : List Int
  slot : List Int

def getP (st : Sto) (p : LPlace) : Int :=
  if p.kind = 1 then st.sing.getD p.n.toNat 0 else if p.kind = 2 then st.sing.getD (2 * p.n + 1).toNat 0 * 4294967296 + st.sing.getD (2 * p.n).toNat 0
  else if p.kind = 3 then st.slot.getD p.n.toNat 0 else 0
def putP (st : Sto) (p : LPlace) (v : Int) : Sto :=
  if p.kind = 1 then ⟨st.sing.set p.n.toNat (v % 4294967296), st.slot⟩
  else if p.kind = 2 then ⟨(st.sing.set (2 * p.n).toNat (v % 4294967296)).set (2 * p.n + 1).toNat (v / 4294967296), st.slot⟩
  else if p.kind = 3 then ⟨st.sing, st.slot.set p.n.toNat v⟩ else st

structure StoIs (w : World) (x y : Nat) (st : Sto) : Prop where
  sing : Row w x 33 (st.sing.map (Value.int .u32))
  slot : Row w y 77 (st.slot.map (Value.int .u64))
  ne : x ≠ y
def stoV (x y : Nat) (st : Sto) : Value := .agg #[.slice (some ⟨x, 0, none⟩) st.sing.length st.sing.length, .slice (some ⟨y, 0, none⟩) st.slot.length st.slot.length]

theorem StoIs.below {w w' : World} {x y : Nat} {st : Sto} (h : StoIs w x y st) (hb : Below w.heap.size w w') : StoIs w' x y st := ⟨h.sing.below hb, h.slot.below hb, h.ne⟩

structure StoOk (st : Sto) : Prop where
  s0 : ∀ j, 0 ≤ st.sing.getD j 0 ∧ st.sing.getD j 0 < 4294967296
  l0 : ∀ j, U64i (st.slot.getD j 0)
  n1 : st.sing.length ≤ 16
  n2 : st.slot.length ≤ 12
  ev : st.sing.length % 2 = 0

def PlOk (st : Sto) (p : LPlace) : Prop := isB st.sing.length st.slot.length p = true ∨ (p.kind = 0 ∧ p.n = 0)

theorem row_at {w : World} {b : Nat} {t : TypeId} {l : List Int} {k : IntKind} (h : Row w b t (l.map (Value.int k))) {j : Nat} (hj : j < l.length) : w.cell? ⟨b, j, none⟩ = some (.int k (l.getD j 0)) := by
  rw [h.cell]; simp [List.getD, hj]

theorem pl_cases {st : Sto} {p : LPlace} (ho : StoOk st) (hp : PlOk st p) : (p.kind = 1 ∧ 0 ≤ p.n ∧ p.n < st.sing.length) ∨ (p.kind = 2 ∧ 0 ≤ p.n ∧ 2 * p.n + 1 < st.sing.length) ∨ (p.kind = 3 ∧ 0 ≤ p.n ∧ p.n < st.slot.length) ∨ p.kind = 0 := by
  have := ho.ev
  rcases hp with hp | hp
  · unfold isB at hp
    by_cases e1 : p.kind = 1
    · rw [if_pos e1] at hp; simp at hp; exact Or.inl ⟨e1, by omega, by omega⟩
    · rw [if_neg e1] at hp
      by_cases e2 : p.kind = 2
      · rw [if_pos e2] at hp; simp at hp
        exact Or.inr (Or.inl ⟨e2, by omega, by omega⟩)
      · rw [if_neg e2] at hp
        by_cases e3 : p.kind = 3
        · rw [if_pos e3] at hp; simp at hp; exact Or.inr (Or.inr (Or.inl ⟨e3, by omega, by omega⟩))
        · rw [if_neg e3] at hp; simp at hp
  · exact Or.inr (Or.inr (Or.inr hp.1))

set_option maxRecDepth 100000 in
set_option maxHeartbeats 1000000 in
theorem get7 (x y : Nat) (st : Sto) (p : LPlace) (w : World) (h : StoIs w x y st) (ho : StoOk st) (hp : PlOk st p) :
    Calls Tryz.prog 29 #[stoV x y st, p.val] w fun e w' => e = .returned (.int .u64 (getP st p)) ∧ Below w.heap.size w w' := by
  have hx := h.sing.lt
  have hy := h.slot.lt
  have hx1 : x < w.heap.size + 1 := by omega
  have hy1 : y < w.heap.size + 1 := by omega
  have n1 : (st.sing.length : Int) ≤ 16 := by have := ho.n1; omega
  have n2 : (st.slot.length : Int) ≤ 12 := by have := ho.n2; omega
  have HB2 : Hid (∀ o1 o2 : Obj, Below w.heap.size w ((w.alloc o1).alloc o2)) := fun o1 o2 => ((Below.refl _ _).alloc (Nat.le_refl _) _).alloc (by simp) _
  unfold stoV LPlace.val
  rcases pl_cases ho hp with ⟨e1, e2, e3⟩ | ⟨e1, e2, e3⟩ | ⟨e1, e2, e3⟩ | e1
  · have c0 := row_at h.sing (show p.n.toNat < st.sing.length by omega)
    have hu := ho.s0 p.n.toNat
    obtain ⟨hu0, hu1⟩ := hu
    obtain ⟨u, hue⟩ : ∃ u, u = st.sing.getD p.n.toNat 0 := ⟨_, rfl⟩
    rw [← hue] at c0 hu0 hu1
    have HE : Hid (getP st p = u) := by show getP st p = u; unfold getP; rw [if_pos e1, hue]
    have k1 : (p.kind == 1) = true := by simp [e1]
    clear hue e1
    go_enter Tryz.func29, Tryz.ntmps29
    go_wp2
    go_ret
    exact ⟨ret_int HE.out.symm, HB2.out _ _⟩
  · have c0 := row_at h.sing (show (2 * p.n + 1).toNat < st.sing.length by omega)
    have c1 := row_at h.sing (show (2 * p.n).toNat < st.sing.length by omega)
    obtain ⟨hu0, hu1⟩ := ho.s0 (2 * p.n + 1).toNat
    obtain ⟨hv0, hv1⟩ := ho.s0 (2 * p.n).toNat
    obtain ⟨u, hue⟩ : ∃ u, u = st.sing.getD (2 * p.n + 1).toNat 0 := ⟨_, rfl⟩
    obtain ⟨v, hve⟩ : ∃ u, u = st.sing.getD (2 * p.n).toNat 0 := ⟨_, rfl⟩
    rw [← hue] at c0 hu0 hu1
    rw [← hve] at c1 hv0 hv1
    have HE : Hid (getP st p = u * 4294967296 + v) := by show getP st p = _; unfold getP; rw [if_neg (by omega), if_pos e1, hue, hve]
    have k1 : (p.kind == 1) = false := by simp [e1]
    have k2 : (p.kind == 2) = true := by simp [e1]
    have y1 : 2 * p.n < (st.sing.length : Int) := by omega
    have y0 : 0 ≤ 2 * p.n := by omega
    have y2 : 0 ≤ 2 * p.n + 1 := by omega
    clear hue hve e1
    go_enter Tryz.func29, Tryz.ntmps29
    go_wp2
    go_quiet (fail)
    go_wp2
    go_ret
    exact ⟨ret_int HE.out.symm, below_drewN (HB2.out _ _) _⟩
  · have c0 := row_at h.slot (show p.n.toNat < st.slot.length by omega)
    obtain ⟨u, hue⟩ : ∃ u, u = st.slot.getD p.n.toNat 0 := ⟨_, rfl⟩
    rw [← hue] at c0
    have HE : Hid (getP st p = u) := by show getP st p = u; unfold getP; rw [if_neg (by omega), if_neg (by omega), if_pos e1, hue]
    have k1 : (p.kind == 1) = false := by simp [e1]
    have k2 : (p.kind == 2) = false := by simp [e1]
    have k3 : (p.kind == 3) = true := by simp [e1]
    clear hue e1
    go_enter Tryz.func29, Tryz.ntmps29
    go_wp2
    go_ret
    exact ⟨ret_int HE.out.symm, HB2.out _ _⟩
  · have HE : Hid (getP st p = 0) := by show getP st p = 0; unfold getP; rw [if_neg (by omega), if_neg (by omega), if_neg (by omega)]
    have k1 : (p.kind == 1) = false := by simp [e1]
    have k2 : (p.kind == 2) = false := by simp [e1]
    have k3 : (p.kind == 3) = false := by simp [e1]
    clear e1
    go_enter Tryz.func29, Tryz.ntmps29
    go_wp2
    go_ret
    exact ⟨ret_int HE.out.symm, HB2.out _ _⟩

structure But (x y : Nat) (w w' : World) : Prop where
  os : w'.os = w.os
  tape : w'.tape = w.tape
  output : w'.output = w.output
  size : w.heap.size ≤ w'.heap.size
  block : ∀ k, k < w.heap.size → k ≠ x → k ≠ y → w'.heap[k]? = w.heap[k]?

theorem But.of_below {x y : Nat} {w w' : World} (h : Below w.heap.size w w') : But x y w w' := ⟨h.os, h.tape, h.output, h.size, fun k hk _ _ => h.block k hk⟩
theorem But.trans {x y : Nat} {a b c : World} (h : But x y a b) (k : But x y b c) : But x y a c :=
  ⟨k.os.trans h.os, k.tape.trans h.tape, k.output.trans h.output, Nat.le_trans h.size k.size, fun i hi h1 h2 => (k.block i (Nat.lt_of_lt_of_le hi h.size) h1 h2).trans (h.block i hi h1 h2)⟩
theorem But.set {x y : Nat} {w w' : World} (h : But x y w w') {a : Addr} (ha : a.block = x ∨ a.block = y) (u : Value) : But x y w (w'.setCell a u) :=
  ⟨h.os, h.tape, h.output, by simpa [World.setCell] using h.size, fun k hk h1 h2 => by rw [Below.heap_setCell _ _ _ _ (by rcases ha with ha | ha <;> rw [ha] <;> assumption)]; exact h.block k hk h1 h2⟩
theorem But.cell {x y : Nat} {w w' : World} (h : But x y w w') {p : Addr} {v : Value} (hc : w.cell? p = some v) (h1 : p.block ≠ x) (h2 : p.block ≠ y) : w'.cell? p = some v := by
  rw [World.cell?_of_block (h.block p.block (World.block_lt_of_cell? w _ hc) h1 h2)]; exact hc
theorem But.row {x y : Nat} {w w' : World} {b : Nat} {t : TypeId} {cs : List Value} (h : But x y w w') (hr : Row w b t cs) (h1 : b ≠ x) (h2 : b ≠ y) : Row w' b t cs := by
  have := hr.lt
  unfold Row at *
  rw [h.block b this h1 h2]; exact hr
theorem But.below {x y B : Nat} {w w' : World} (h : But x y w w') (hx : B ≤ x) (hy : B ≤ y) (hB : B ≤ w.heap.size) : Below B w w' :=
  ⟨h.os, h.tape, h.output, h.size, fun k hk => h.block k (by omega) (by omega) (by omega)⟩

theorem StoIs.setSing {w : World} {x y : Nat} {st : Sto} (h : StoIs w x y st) (j : Nat) (v : Int) : StoIs (w.setCell ⟨x, j, none⟩ (.int .u32 v)) x y ⟨st.sing.set j v, st.slot⟩ :=
  ⟨by have := h.sing.set j (.int .u32 v); simpa [List.map_set] using this, h.slot.other (by exact fun e => h.ne e.symm) _, h.ne⟩
theorem StoIs.setSlot {w : World} {x y : Nat} {st : Sto} (h : StoIs w x y st) (j : Nat) (v : Int) : StoIs (w.setCell ⟨y, j, none⟩ (.int .u64 v)) x y ⟨st.sing, st.slot.set j v⟩ :=
  ⟨h.sing.other (by exact h.ne) _, by have := h.slot.set j (.int .u64 v); simpa [List.map_set] using this, h.ne⟩

theorem StoIs.alloc2 {w : World} {x y : Nat} {st : Sto} (h : StoIs w x y st) (o1 o2 : Obj) : StoIs ((w.alloc o1).alloc o2) x y st := h.below (((Below.refl _ _).alloc (Nat.le_refl _) _).alloc (by simp) _)
theorem But.alloc2 {w w' : World} {x y : Nat} (h : But x y w w') (o1 o2 : Obj) : But x y w ((w'.alloc o1).alloc o2) := h.trans (But.of_below (((Below.refl _ _).alloc (Nat.le_refl _) _).alloc (by simp) _))
theorem But.refl {x y : Nat} (w : World) : But x y w w := But.of_below (Below.refl _ _)
theorem But.setX {x y : Nat} {w w' : World} (h : But x y w w') (j : Nat) (u : Value) : But x y w (w'.setCell ⟨x, j, none⟩ u) := h.set (a := ⟨x, j, none⟩) (Or.inl rfl) u
theorem But.setY {x y : Nat} {w w' : World} (h : But x y w w') (j : Nat) (u : Value) : But x y w (w'.setCell ⟨y, j, none⟩ u) := h.set (a := ⟨y, j, none⟩) (Or.inr rfl) u
set_option maxRecDepth 100000 in
set_option maxHeartbeats 1000000 in
theorem put7 (x y : Nat) (st : Sto) (p : LPlace) (v : Int) (w : World) (h : StoIs w x y st) (ho : StoOk st) (hp : PlOk st p) (hv : U64i v) :
    Calls Tryz.prog 30 #[stoV x y st, p.val, .int .u64 v] w fun e w' => e = .returned (.tuple #[]) ∧ StoIs w' x y (putP st p v) ∧ But x y w w' := by
  have hx := h.sing.lt
  have hy := h.slot.lt
  have hx1 : x < w.heap.size + 1 := by omega
  have hy1 : y < w.heap.size + 1 := by omega
  have n1 : (st.sing.length : Int) ≤ 16 := by have := ho.n1; omega
  have n2 : (st.slot.length : Int) ≤ 12 := by have := ho.n2; omega
  have v0 := hv.1
  have HB2 : Hid (∀ o1 o2 : Obj, Below w.heap.size w ((w.alloc o1).alloc o2)) := fun o1 o2 => ((Below.refl _ _).alloc (Nat.le_refl _) _).alloc (by simp) _
  have HS2 : Hid (∀ o1 o2 : Obj, StoIs ((w.alloc o1).alloc o2) x y st) := fun o1 o2 => h.below (HB2.out o1 o2)
  have HBt : Hid (∀ o1 o2 : Obj, But x y w ((w.alloc o1).alloc o2)) := fun o1 o2 => But.of_below (HB2.out o1 o2)
  unfold stoV LPlace.val
  rcases pl_cases ho hp with ⟨e1, e2, e3⟩ | ⟨e1, e2, e3⟩ | ⟨e1, e2, e3⟩ | e1
  · have c0 := row_at h.sing (show p.n.toNat < st.sing.length by omega)
    have f0 := h.sing.frozen p.n.toNat
    have HE : Hid (putP st p v = ⟨st.sing.set p.n.toNat (v % 4294967296), st.slot⟩) := by show putP st p v = _; unfold putP; rw [if_pos e1]
    have k1 : (p.kind == 1) = true := by simp [e1]
    clear e1
    go_enter Tryz.func30, Tryz.ntmps30
    go_wp2
    go_end0
    refine ⟨rfl, ?_, ((But.refl _).setX _ _).alloc2 _ _⟩
    rw [HE.out]
    exact (h.setSing _ _).alloc2 _ _
  · have c0 := row_at h.sing (show (2 * p.n).toNat < st.sing.length by omega)
    have c1 := row_at h.sing (show (2 * p.n + 1).toNat < st.sing.length by omega)
    have c2 : (w.setCell ⟨x, (2 * p.n).toNat, none⟩ (.int .u32 (v % 4294967296))).cell? ⟨x, (2 * p.n + 1).toNat, none⟩ = some (.int .u32 (st.sing.getD (2 * p.n + 1).toNat 0)) := by
      have r := row_at (h.setSing (2 * p.n).toNat (v % 4294967296)).sing (j := (2 * p.n + 1).toNat) (by simp; omega)
      rw [r]
      simp only [List.getD]
      rw [List.getElem?_set_ne (by omega)]
    have f0 := h.sing.frozen (2 * p.n).toNat
    have f1 := h.sing.frozen (2 * p.n + 1).toNat
    have f2 := (h.setSing (2 * p.n).toNat (v % 4294967296)).sing.frozen (2 * p.n + 1).toNat
    have HE : Hid (putP st p v = ⟨(st.sing.set (2 * p.n).toNat (v % 4294967296)).set (2 * p.n + 1).toNat (v / 4294967296), st.slot⟩) := by show putP st p v = _; unfold putP; rw [if_neg (by omega), if_pos e1]
    have HH : Hid (IntKind.u64.wrap (v.tdiv 4294967296) % 4294967296 = v / 4294967296) := by
      show _ = _
      rw [half_of v hv.1 hv.2]
      have := hv.2
      omega
    have k1 : (p.kind == 1) = false := by simp [e1]
    have k2 : (p.kind == 2) = true := by simp [e1]
    have y1 : 2 * p.n < (st.sing.length : Int) := by omega
    have y0 : 0 ≤ 2 * p.n := by omega
    have y2 : 0 ≤ 2 * p.n + 1 := by omega
    clear e1
    go_enter Tryz.func30, Tryz.ntmps30
    go_wp2
    go_end0
    refine ⟨rfl, ?_, ?_⟩
    · rw [HE.out, ← HH.out]
      exact ((h.setSing _ _).setSing _ _).alloc2 _ _
    · exact (((But.refl _).setX _ _).setX _ _).alloc2 _ _
  · have c0 := row_at h.slot (show p.n.toNat < st.slot.length by omega)
    have f0 := h.slot.frozen p.n.toNat
    have HE : Hid (putP st p v = ⟨st.sing, st.slot.set p.n.toNat v⟩) := by show putP st p v = _; unfold putP; rw [if_neg (by omega), if_neg (by omega), if_pos e1]
    have k1 : (p.kind == 1) = false := by simp [e1]
    have k2 : (p.kind == 2) = false := by simp [e1]
    have k3 : (p.kind == 3) = true := by simp [e1]
    clear e1
    go_enter Tryz.func30, Tryz.ntmps30
    go_wp2
    go_end0
    refine ⟨rfl, ?_, ((But.refl _).setY _ _).alloc2 _ _⟩
    rw [HE.out]
    exact (h.setSlot _ _).alloc2 _ _
  · have HE : Hid (putP st p v = st) := by show putP st p v = st; unfold putP; rw [if_neg (by omega), if_neg (by omega), if_neg (by omega)]
    have k1 : (p.kind == 1) = false := by simp [e1]
    have k2 : (p.kind == 2) = false := by simp [e1]
    have k3 : (p.kind == 3) = false := by simp [e1]
    clear e1
    go_enter Tryz.func30, Tryz.ntmps30
    go_wp2
    go_end0
    refine ⟨rfl, ?_, HBt.out _ _⟩
    rw [HE.out]
    exact HS2.out _ _

end Go.Proofs.YtcmnmogmdhofcabGreat.form

/- What the document's moves (loanbookref7.moves) do to a store. -/
namespace Go.Proofs.YtcmnmogmdhofcabGreat.form
open Go.RowKit Go.Proofs.YtcmnmogmdhofcabGreat.num
set_option linter.unusedVariables false
attribute [local go_sem ↓] Go.wp_at_zero Go.wp_at_succ

def moveP (st : Sto) (m : LMove) : Sto := putP st m.dst (if m.cst then m.n else getP st m.src)
def movesP (st : Sto) (l : List LMove) : Sto := l.foldl moveP st

theorem putP_len (st : Sto) (p : LPlace) (v : Int) : (putP st p v).sing.length = st.sing.length ∧ (putP st p v).slot.length = st.slot.length := by
  unfold putP
  split
  · simp
  split
  · simp
  split <;> simp
theorem movesP_len (l : List LMove) : ∀ st : Sto, (movesP st l).sing.length = st.sing.length ∧ (movesP st l).slot.length = st.slot.length := by
  induction l with
  | nil => intro st; exact ⟨rfl, rfl⟩
  | cons m l ih =>
    intro st
    have h := putP_len st m.dst (if m.cst then m.n else getP st m.src)
    have := ih (moveP st m)
    unfold movesP at *
    simp only [List.foldl_cons]
    unfold moveP at this ⊢
    omega
theorem PlOk.len {st st' : Sto} {p : LPlace} (h1 : st'.sing.length = st.sing.length) (h2 : st'.slot.length = st.slot.length) (h : PlOk st p) : PlOk st' p := by
  unfold PlOk at *
  rw [h1, h2]
  exact h
theorem stoV_len {x y : Nat} {st st' : Sto} (h1 : st'.sing.length = st.sing.length) (h2 : st'.slot.length = st.slot.length) : stoV x y st' = stoV x y st := by
  unfold stoV
  rw [h1, h2]

theorem set_u32 {l : List Int} {k : Nat} {x : Int} (h : ∀ j, 0 ≤ l.getD j 0 ∧ l.getD j 0 < 4294967296) (hx0 : 0 ≤ x) (hx1 : x < 4294967296) : ∀ j, 0 ≤ (l.set k x).getD j 0 ∧ (l.set k x).getD j 0 < 4294967296 := by
  intro j
  by_cases hj : j < l.length
  · by_cases hk : k = j
    · subst hk
      rw [show (l.set k x).getD k 0 = x by simp [List.getD, hj]]
      exact ⟨hx0, hx1⟩
    · rw [show (l.set k x).getD j 0 = l.getD j 0 by simp [List.getD, hj, hk]]
      exact h j
  · rw [show (l.set k x).getD j 0 = 0 by simp [List.getD, List.getElem?_eq_none (show (l.set k x).length ≤ j by simp; omega)]]
    omega

theorem sto_put {st : Sto} {p : LPlace} {v : Int} (h : StoOk st) (hv : U64i v) : StoOk (putP st p v) := by
  have hl := putP_len st p v
  have h0 := hv.1
  have h1 := hv.2
  refine ⟨?_, ?_, by rw [hl.1]; exact h.n1, by rw [hl.2]; exact h.n2, by rw [hl.1]; exact h.ev⟩
  · unfold putP
    split
    · exact set_u32 h.s0 (by omega) (by omega)
    split
    · exact set_u32 (set_u32 h.s0 (by omega) (by omega)) (by omega) (by omega)
    split <;> exact h.s0
  · unfold putP
    split
    · exact h.l0
    split
    · exact h.l0
    split
    · exact getD_set_bd h.l0 hv
    · exact h.l0
theorem get_bd {st : Sto} (p : LPlace) (h : StoOk st) : U64i (getP st p) := by
  unfold getP
  split
  · have := h.s0 p.n.toNat; exact ⟨this.1, by omega⟩
  split
  · have := h.s0 (2 * p.n + 1).toNat; have := h.s0 (2 * p.n).toNat; exact ⟨by omega, by omega⟩
  split
  · exact h.l0 _
  · exact ⟨by omega, by omega⟩
theorem sto_move {st : Sto} {m : LMove} (h : StoOk st) (hn0 : 0 ≤ m.n) (hn1 : m.n < 4294967296) : StoOk (moveP st m) := by
  unfold moveP
  refine sto_put h ?_
  split
  · exact ⟨hn0, by omega⟩
  · exact get_bd _ h
theorem sto_moves (l : List LMove) : ∀ st : Sto, StoOk st → (∀ k, k < l.length → 0 ≤ (l.getD k .zero).n ∧ (l.getD k .zero).n < 4294967296) → StoOk (movesP st l) := by
  induction l with
  | nil => intro st h _; exact h
  | cons m l ih =>
    intro st h hn
    have h0 := hn 0 (by simp)
    refine ih (moveP st m) (sto_move h (by simpa using h0.1) (by simpa using h0.2)) (fun k hk => ?_)
    have := hn (k + 1) (by simpa using hk)
    simpa using this
theorem moves_succ (st : Sto) (l : List LMove) (k : Nat) (hk : k < l.length) : movesP st (l.take (k + 1)) = moveP (movesP st (l.take k)) (l.getD k .zero) := by
  unfold movesP
  rw [List.take_succ_eq_append_getElem hk, List.foldl_append]
  simp [List.getD, hk]

def MvOk (st : Sto) (m : LMove) : Prop := PlOk st m.dst ∧ PlOk st m.src ∧ 0 ≤ m.n ∧ m.n < 4294967296

theorem drew_below (w : World) : Below w.heap.size w w.drew := (Below.refl _ _).drew

set_option maxRecDepth 100000 in
set_option maxHeartbeats 2000000 in
theorem moves7 (x y : Nat) (st : Sto) (v : Value) (l : List LMove) (wO w : World) (h : StoIs w x y st) (ho : StoOk st) (hl6 : l.length ≤ 6) (hm : MovesIs wO v l) (hO : Below wO.heap.size wO w) (hx : wO.heap.size ≤ x) (hy : wO.heap.size ≤ y) (hok : ∀ k, k < l.length → MvOk st (l.getD k .zero)) :
    Calls Tryz.prog 28 #[stoV x y st, v] w fun e w' => e = .returned (.tuple #[]) ∧ StoIs w' x y (movesP st l) ∧ But x y w w' := by
  obtain ⟨ao, cap, rfl, hl, hc⟩ := hm
  have HC : Hid _ := hc
  have HOK : Hid (∀ k, k < l.length → MvOk st (l.getD k .zero)) := hok
  have hxl := h.sing.lt
  have hyl := h.slot.lt
  have z6 : (l.length : Int) ≤ 6 := by omega
  have HV : Hid (∀ st' : Sto, st'.sing.length = st.sing.length → st'.slot.length = st.slot.length → stoV x y st' = .agg #[.slice (some ⟨x, 0, none⟩) st.sing.length st.sing.length, .slice (some ⟨y, 0, none⟩) st.slot.length st.slot.length]) := fun st' h1 h2 => stoV_len h1 h2
  clear hc hok
  unfold stoV
  go_enter Tryz.func28, Tryz.ntmps28
  go_wp2
  go_loopw [4] (fun t wr => ∃ k : Nat, k ≤ l.length ∧ t = .int .i64 k ∧ StoIs wr x y (movesP st (l.take k)) ∧ But x y w wr ∧ wr.cell? ⟨w.heap.size, 0, none⟩ = some (.slice (some ⟨x, 0, none⟩) st.sing.length st.sing.length) ∧ wr.cell? ⟨w.heap.size, 1, none⟩ = some (.slice (some ⟨y, 0, none⟩) st.slot.length st.slot.length)) (fun t _ => l.length - (intOf t).toNat)
  case atStart => exact ⟨0, by omega, rfl, h.below ((Below.refl _ _).alloc (Nat.le_refl _) _), But.of_below ((Below.refl _ _).alloc (Nat.le_refl _) _), by simp [go_sem], by simp [go_sem]⟩
  case round =>
    obtain ⟨k, hk, rfl, hst, hbt, g0, g1⟩ := hrel
    by_cases hlt : k < l.length
    case neg =>
      go_wp2
      go_end0
      refine ⟨rfl, ?_, hbt⟩
      rw [List.take_of_length_le (by omega)] at hst
      exact hst
    obtain ⟨b, o, rfl, hbl, hcell⟩ := HC.out (by omega)
    have hbel : Below wO.heap.size wO wr := hO.trans (hbt.below hx hy (by have := hO.size; omega))
    obtain ⟨d0, d1, d2, d3, d4, d5⟩ := hcell k hlt
    have d0 := step_cell hbel d0
    have d1 := step_cell hbel d1
    have d2 := step_cell hbel d2
    have d3 := step_cell hbel d3
    have d4 := step_cell hbel d4
    have d5 := step_cell hbel d5
    obtain ⟨m, hi⟩ : ∃ m, m = l.getD k .zero := ⟨_, rfl⟩
    have hmo := HOK.out k hlt
    rw [← hi] at d0 d1 d2 d3 d4 d5 hmo
    have HI : Hid (m = l.getD k .zero) := hi
    have hlen := movesP_len (l.take k) st
    obtain ⟨st', hst'⟩ : ∃ s', s' = movesP st (l.take k) := ⟨_, rfl⟩
    rw [← hst'] at hst hlen
    have HS' : Hid (st' = movesP st (l.take k)) := hst'
    have hsok : StoOk st' := by
      rw [hst']
      refine sto_moves _ st ho (fun j hj => ?_)
      have hj' : j < k := by simp at hj; omega
      have := (HOK.out j (by omega)).2.2
      have e : (l.take k).getD j .zero = l.getD j .zero := by simp [List.getD, hj']
      rw [e]
      exact this
    obtain ⟨ho1, ho2, hn0, hn1⟩ := hmo
    have ho1 := PlOk.len hlen.1 hlen.2 ho1
    have ho2 := PlOk.len hlen.1 hlen.2 ho2
    have hv := HV.out st' hlen.1 hlen.2
    have HVV : Hid (stoV x y st' = _) := hv
    have HG : Hid (∀ w', StoIs w' x y st' → Calls Tryz.prog 29 #[.agg #[.slice (some ⟨x, 0, none⟩) st.sing.length st.sing.length, .slice (some ⟨y, 0, none⟩) st.slot.length st.slot.length], m.src.val] w' fun e w'' => e = .returned (.int .u64 (getP st' m.src)) ∧ Below w'.heap.size w' w'') := fun w' hs => by rw [← HVV.out]; exact get7 x y st' m.src w' hs hsok ho2
    have HPt : Hid (∀ w' g, U64i g → StoIs w' x y st' → Calls Tryz.prog 30 #[.agg #[.slice (some ⟨x, 0, none⟩) st.sing.length st.sing.length, .slice (some ⟨y, 0, none⟩) st.slot.length st.slot.length], m.dst.val, .int .u64 g] w' fun e w'' => e = .returned (.tuple #[]) ∧ StoIs w'' x y (putP st' m.dst g) ∧ But x y w' w'') := fun w' g hg hs => by rw [← HVV.out]; exact put7 x y st' m.dst g w' hs hsok ho1 hg
    have y1 : (k : Int) < (l.length : Int) := by omega
    have HST : Hid (StoIs wr x y st') := hst
    have HSO : Hid (StoOk st') := hsok
    have HO1 : Hid (PlOk st' m.dst) := ho1
    have HO2 : Hid (PlOk st' m.src) := ho2
    have nx : b ≠ x := by omega
    have ny : b ≠ y := by omega
    have nX : w.heap.size ≠ x := by omega
    have nY : w.heap.size ≠ y := by omega
    clear hi hcell hst' hlen hv hst hsok ho1 ho2
    go_wp2
    go_region_held3 (fun w' => But x y wr w' ∧ w'.cell? ⟨w.heap.size, 0, none⟩ = some (.slice (some ⟨x, 0, none⟩) st.sing.length st.sing.length) ∧ w'.cell? ⟨w.heap.size, 1, none⟩ = some (.slice (some ⟨y, 0, none⟩) st.slot.length st.slot.length) ∧ w'.cell? ⟨b, o + k * 6 + 2, none⟩ = some (.int .i64 m.src.kind) ∧ w'.cell? ⟨b, o + k * 6 + 3, none⟩ = some (.int .i64 m.src.n))
      ((go_split_ands; refine ⟨?_, ?_, ?_, ?_, ?_⟩ <;> first | exact But.of_below (Below.refl _ _).drew | exact (But.of_below (Below.refl _ _).drew).trans (But.of_below hbg) | exact But.cell (But.of_below hbg) (by assumption) (by dsimp only; omega) (by dsimp only; omega) | go_keep))
      ((go_at_call 29; refine (HG.out _ (HST.out.below (drew_below _))).mono ?_; rintro e w1 ⟨rfl, hbg⟩))
    rename_i hHeldx
    have hb1 : Below wr.heap.size wr w1 := (drew_below _).trans hbg
    clear hHeldx hbg
    have D0 := step_cell hb1 d0
    have D1 := step_cell hb1 d1
    have D4 := step_cell hb1 d4
    have D5 := step_cell hb1 d5
    have G0 := step_cell hb1 g0
    have G1 := step_cell hb1 g1
    have HST1 : Hid (StoIs w1 x y st') := HST.out.below hb1
    have HBT1 : Hid (But x y w w1) := hbt.trans (But.of_below hb1)
    clear d0 d1 d2 d3 d4 d5 g0 g1 hb1 hbt hbel
    obtain ⟨gv, hgv⟩ : ∃ u, u = if m.cst then m.n else getP st' m.src := ⟨_, rfl⟩
    have hgb : U64i gv := by
      rw [hgv]; split
      · exact ⟨hn0, by omega⟩
      · exact get_bd _ HSO.out
    have HGV : Hid (gv = if m.cst then m.n else getP st' m.src) := hgv
    have hmv : moveP st' m = putP st' m.dst gv := by rw [hgv]; rfl
    have HMV : Hid (moveP st' m = putP st' m.dst gv) := hmv
    clear hgv hmv
    cases hcs : m.cst
    all_goals
      rw [hcs] at D4
      have HG2 : Hid _ := HGV.out
      rw [hcs] at HG2
    · have hg3 : getP st' m.src = gv := HG2.out.symm
      rw [hg3]
      clear hg3
      go_wp2
      go_region_held3 (fun w' => But x y w1 w' ∧ w'.cell? ⟨w.heap.size, 0, none⟩ = some (.slice (some ⟨x, 0, none⟩) st.sing.length st.sing.length) ∧ w'.cell? ⟨w.heap.size, 1, none⟩ = some (.slice (some ⟨y, 0, none⟩) st.slot.length st.slot.length) ∧ w'.cell? ⟨b, o + k * 6, none⟩ = some (.int .i64 m.dst.kind) ∧ w'.cell? ⟨b, o + k * 6 + 1, none⟩ = some (.int .i64 m.dst.n))
        ((go_split_ands; refine ⟨?_, ?_, ?_, ?_, ?_⟩ <;> first | exact But.of_below (Below.refl _ _).drew | exact (But.of_below (Below.refl _ _).drew).trans hbp | exact But.cell hbp (by assumption) (by dsimp only; omega) (by dsimp only; omega) | go_keep))
        ((go_at_call 30; refine (HPt.out _ gv hgb (HST1.out.below (drew_below _))).mono ?_; rintro e w2 ⟨rfl, hsp, hbp⟩))
      rename_i hHeldx
      have hb2 : But x y w1 w2 := hHeldx.1
      have hq0 := hHeldx.2.1
      have hq1 := hHeldx.2.2.1
      have R : Hid _ := (⟨hsp, HBT1.out.trans hb2, hq0, hq1⟩ : _ ∧ _ ∧ _ ∧ _)
      clear hHeldx hb2 hq0 hq1 hsp hbp
      go_wp2
      obtain ⟨r1, r2, r3, r4⟩ := R.out
      have r5 : StoIs w2 x y (movesP st (l.take (k + 1))) := by
        rw [moves_succ st l k hlt, ← HS'.out, ← HI.out, HMV.out]
        exact r1
      exact ⟨⟨k + 1, by omega, by go_num, r5, r2, r3, r4⟩, by simp [intOf]; omega⟩
    · have hg3 : m.n = gv := HG2.out.symm
      go_wp2
      go_region_held3 (fun w' => But x y w1 w' ∧ w'.cell? ⟨w.heap.size, 0, none⟩ = some (.slice (some ⟨x, 0, none⟩) st.sing.length st.sing.length) ∧ w'.cell? ⟨w.heap.size, 1, none⟩ = some (.slice (some ⟨y, 0, none⟩) st.slot.length st.slot.length) ∧ w'.cell? ⟨b, o + k * 6, none⟩ = some (.int .i64 m.dst.kind) ∧ w'.cell? ⟨b, o + k * 6 + 1, none⟩ = some (.int .i64 m.dst.n))
        ((go_split_ands; refine ⟨?_, ?_, ?_, ?_, ?_⟩ <;> first | exact But.of_below (Below.refl _ _).drew | exact (But.of_below (Below.refl _ _).drew).trans hbp | exact But.cell hbp (by assumption) (by dsimp only; omega) (by dsimp only; omega) | go_keep))
        ((go_at_call 30; refine (HPt.out _ gv hgb (HST1.out.below (drew_below _))).mono ?_; rintro e w2 ⟨rfl, hsp, hbp⟩))
      rename_i hHeldx
      have hb2 : But x y w1 w2 := hHeldx.1
      have hq0 := hHeldx.2.1
      have hq1 := hHeldx.2.2.1
      have R : Hid _ := (⟨hsp, HBT1.out.trans hb2, hq0, hq1⟩ : _ ∧ _ ∧ _ ∧ _)
      clear hHeldx hb2 hq0 hq1 hsp hbp
      go_wp2
      obtain ⟨r1, r2, r3, r4⟩ := R.out
      have r5 : StoIs w2 x y (movesP st (l.take (k + 1))) := by
        rw [moves_succ st l k hlt, ← HS'.out, ← HI.out, HMV.out]
        exact r1
      exact ⟨⟨k + 1, by omega, by go_num, r5, r2, r3, r4⟩, by simp [intOf]; omega⟩

end Go.Proofs.YtcmnmogmdhofcabGreat.form

/- The machine on plain numbers: narrow temporaries hold narrow numbers; where a run has ended; what it shows in few steps and in more. -/
namespace Go.Proofs.YtcmnmogmdhofcabGreat.form
open Go.RowKit Go.Proofs.YtcmnmogmdhofcabGreat.num
set_option linter.unusedVariables false

def WOk (B : List Bool) (ts : List Int) : Prop := ∀ j, j < B.length → B.getD j false = false → ts.getD j 0 < 4294967296

theorem wok_start (B : List Bool) : WOk B (Mac.start B.length).temps := by
  intro j hj _
  have : (Mac.start B.length).temps.getD j 0 = 0 := by simp [Mac.start, List.getD, hj]
  omega

theorem widths_of {B : List Bool} {nC : Nat} {i : LIns} (h : insB B nC i = true) : widthsB B i = true := by
  unfold insB at h
  simp only [Bool.and_eq_true] at h
  exact h.2

theorem wok_give {B : List Bool} {nC : Nat} {i : LIns} {ts : List Int} {x : Int} (h : insB B nC i = true) (hi : InsOk B.length nC i) (hw : WOk B ts) (hb : ∀ j, U64i (ts.getD j 0)) (hx0 : 0 ≤ x) (hx1 : x < 4294967296) (hg : givesB i.op = true)
    (hd : B.getD i.dest.toNat false = false) : gvI i (ts.getD i.a.toNat 0) (ts.getD i.b.toNat 0) x < 4294967296 := by
  have h2 := widths_of h
  have ha := hb i.a.toNat
  unfold U64i at ha
  have hd' : bw B i.dest = false := hd
  have a0 := hi.a0
  have a1 := hi.a1
  unfold gvI
  split
  · exact hi.n1
  split
  · rename_i h1 ho
    unfold widthsB at h2
    rw [if_pos ho] at h2
    have hm : manyI i.op = 1 := by unfold manyI; rw [if_neg (by omega), if_pos (by omega)]
    simp [wl, wl0, wl1, hg, hm, hd'] at h2
    exact hw _ (by omega) h2
  split
  · exact hx1
  split
  · rename_i h1 h2' h3 ho
    unfold widthsB at h2
    rw [if_neg (by omega), if_pos ho] at h2
    have hm : manyI i.op = 2 := by unfold manyI; rw [if_neg (by omega), if_neg (by omega)]
    simp [wl, wl0, wl1, hg, hm, hd'] at h2
  split
  · omega
  split
  · omega
  split
  · rename_i h1 h2' h3 h5 h6 h7 ho
    unfold widthsB at h2
    rw [if_neg (by omega), if_neg (by omega), if_neg (by omega)] at h2
    simp [wl, wl0, hg, hd'] at h2
    omega
  · exact (opR_u32_bd _ _ _).2

theorem wok_step {B : List Bool} {C : List LIns} {ins : List Int} {m : Mac} (h : insB B C.length (C.getD m.pc .zero) = true) (hi : InsOk B.length C.length (C.getD m.pc .zero)) (hw : WOk B m.temps) (hm : MOk B.length C.length ins.length m)
    (hin : ∀ j, j < ins.length → 0 ≤ ins.getD j 0 ∧ ins.getD j 0 < 4294967296) : WOk B (m.step C ins).temps := by
  simp only [Mac.step]
  split
  · rename_i hg
    obtain ⟨hd0, hd1⟩ := hi.d hg
    intro j hj hB
    by_cases hjd : (C.getD m.pc .zero).dest.toNat = j
    · have hl := hm.len
      rw [show (m.temps.set (C.getD m.pc .zero).dest.toNat (gvI (C.getD m.pc .zero) (m.temps.getD (C.getD m.pc .zero).a.toNat 0) (m.temps.getD (C.getD m.pc .zero).b.toNat 0) (inOf ins m.taken))).getD j 0 = gvI (C.getD m.pc .zero) (m.temps.getD (C.getD m.pc .zero).a.toNat 0) (m.temps.getD (C.getD m.pc .zero).b.toNat 0) (inOf ins m.taken) by
        rw [hjd]; simp [List.getD, hl, hj]]
      have hx := inOf_bd hin m.taken
      exact wok_give h hi hw hm.bd hx.1 hx.2 hg (by rw [hjd]; exact hB)
    · have := hw j hj hB
      generalize (C.getD m.pc .zero).dest.toNat = d at hjd ⊢
      simpa [List.getD, hjd] using this
  · exact hw

end Go.Proofs.YtcmnmogmdhofcabGreat.form

/- What is needed, on plain numbers: the least truths; a search that is closed finds them; rows of truths in memory. -/
namespace Go.Proofs.YtcmnmogmdhofcabGreat.form
open Go.RowKit
set_option linter.unusedVariables false
def nextsI (i : LIns) (pc : Nat) : List Int := if i.op = 8 then [i.c] else if i.op = 10 then [] else if i.op = 9 then [(pc : Int) + 1, i.c] else [(pc : Int) + 1]
def nextsN (i : LIns) (pc : Nat) : List Nat := (nextsI i pc).map Int.toNat

theorem nexts_len (i : LIns) (pc : Nat) : (nextsI i pc).length ≤ 2 := by
  unfold nextsI
  split
  · simp
  split
  · simp
  split <;> simp

end Go.Proofs.YtcmnmogmdhofcabGreat.form

/- Facts on plain numbers: what a fact says of temporaries and a store; what is known behind a move and behind an instruction is so. -/
namespace Go.Proofs.YtcmnmogmdhofcabGreat.form
open Go.RowKit Go.Proofs.YtcmnmogmdhofcabGreat.num
set_option linter.unusedVariables false

structure LFact where
  pl : LPlace
  temp : Bool
  t : Int
  n : Int

def Holds (ts : List Int) (st : Sto) (f : LFact) : Prop :=
  if f.pl.kind = 0 then ts.getD f.t.toNat 0 = f.n else if f.temp = true then getP st f.pl = ts.getD f.t.toNat 0 else getP st f.pl = f.n

structure FactOk (B : List Bool) (s slots : Int) (num : Int → Prop) (f : LFact) : Prop where
  pl : (f.pl.kind = 0 ∧ f.pl.n = 0 ∧ f.temp = true) ∨ isB s slots f.pl = true
  t : f.temp = true → 0 ≤ f.t ∧ f.t < B.length
  nar : f.temp = true → f.pl.kind = 0 ∨ f.pl.kind = 1 → B.getD f.t.toNat false = false
  wid : f.temp = true → f.pl.kind = 2 → B.getD f.t.toNat false = true
  num : f.pl.kind = 0 ∨ f.temp = false → num f.n
  zn : ¬ f.pl.kind = 0 → f.temp = true → f.n = 0
  zt : f.temp = false → f.t = 0
  dbl : f.temp = false → ¬ f.pl.kind = 2

def zeroAt (t n : Int) : LFact := ⟨.zero, true, t, n⟩

def samePl (a b : LPlace) : Bool := (a.kind == b.kind) && (a.n == b.n)
theorem samePl_eq {a b : LPlace} (h : samePl a b = true) : a = b := by
  obtain ⟨x, y⟩ := a
  obtain ⟨z, u⟩ := b
  unfold samePl at h
  simp at h
  rw [h.1, h.2]

def moveK (ok : LFact → Prop) (m : LMove) (K : LFact → Prop) (f : LFact) : Prop :=
  ok f ∧ (if f.pl.kind = 0 ∨ overB f.pl m.dst = false then K f
    else samePl f.pl m.dst = true ∧ (if m.cst = false then K ⟨m.src, f.temp, f.t, f.n⟩ else if f.temp = true then K (zeroAt f.t m.n) else f.n = m.n))

def insK (ok : LFact → Prop) (i : LIns) (L : LPlace) (K : LFact → Prop) (f : LFact) : Prop :=
  ok f ∧
  (if i.op = 2 ∧ samePl f.pl L = true ∧ f.temp = true ∧ f.t = i.a then True
   else if i.op = 2 ∧ samePl f.pl L = true ∧ f.temp = false then K (zeroAt i.a f.n)
   else if i.op = 2 ∧ (f.temp = true ∧ f.t = i.dest) ∧ (f.pl.kind = 0 ∨ overB f.pl L = false) then K ⟨f.pl, f.temp, i.a, f.n⟩
   else if i.op = 1 ∧ (f.temp = true ∧ f.t = i.dest) ∧ ¬ f.pl.kind = 0 ∧ overB f.pl L = false then K ⟨f.pl, false, 0, i.n⟩
   else if i.op = 1 ∧ (((f.temp = true ∧ f.t = i.dest) ∧ f.pl.kind = 0) ∨ (samePl f.pl L = true ∧ f.temp = false)) then f.n = i.n
   else if samePl f.pl L = true ∧ (f.temp = true ∧ f.t = i.dest) ∧ ¬ f.pl.kind = 0 then True
   else K f ∧ ¬ (f.temp = true ∧ f.t = i.dest) ∧ (f.pl.kind = 0 ∨ overB f.pl L = false))

theorem is_cases {s slots : Int} {p : LPlace} (h : isB s slots p = true) : (p.kind = 1 ∧ 0 ≤ p.n ∧ p.n < s) ∨ (p.kind = 2 ∧ 0 ≤ p.n ∧ 2 * p.n < s) ∨ (p.kind = 3 ∧ 0 ≤ p.n ∧ p.n < slots) := by
  unfold isB at h
  by_cases e1 : p.kind = 1
  · rw [if_pos e1] at h; simp at h; exact Or.inl ⟨e1, by omega, by omega⟩
  · rw [if_neg e1] at h
    by_cases e2 : p.kind = 2
    · rw [if_pos e2] at h; simp at h; exact Or.inr (Or.inl ⟨e2, by omega, by omega⟩)
    · rw [if_neg e2] at h
      by_cases e3 : p.kind = 3
      · rw [if_pos e3] at h; simp at h; exact Or.inr (Or.inr ⟨e3, by omega, by omega⟩)
      · rw [if_neg e3] at h; exact absurd h (by simp)

theorem is_kind {s slots : Int} {p : LPlace} (h : isB s slots p = true) : ¬ p.kind = 0 := by rcases is_cases h with h | h | h <;> omega

structure StoAt (s slots : Int) (st : Sto) : Prop where
  ok : StoOk st
  sl : (st.sing.length : Int) = s
  ll : (st.slot.length : Int) = slots

theorem getD_set_ne {l : List Int} {i j : Nat} {x : Int} (h : i ≠ j) : (l.set i x).getD j 0 = l.getD j 0 := by simp [List.getD, h]
theorem getD_set_eq {l : List Int} {i : Nat} {x : Int} (h : i < l.length) : (l.set i x).getD i 0 = x := by simp [List.getD, h]

theorem get_one {st : Sto} {q : LPlace} (e : q.kind = 1) : getP st q = st.sing.getD q.n.toNat 0 := by unfold getP; rw [if_pos e]
theorem get_two {st : Sto} {q : LPlace} (e : q.kind = 2) : getP st q = st.sing.getD (2 * q.n + 1).toNat 0 * 4294967296 + st.sing.getD (2 * q.n).toNat 0 := by unfold getP; rw [if_neg (by omega), if_pos e]
theorem get_three {st : Sto} {q : LPlace} (e : q.kind = 3) : getP st q = st.slot.getD q.n.toNat 0 := by unfold getP; rw [if_neg (by omega), if_neg (by omega), if_pos e]
theorem put_one {st : Sto} {p : LPlace} {v : Int} (e : p.kind = 1) : putP st p v = ⟨st.sing.set p.n.toNat (v % 4294967296), st.slot⟩ := by unfold putP; rw [if_pos e]
theorem put_two {st : Sto} {p : LPlace} {v : Int} (e : p.kind = 2) : putP st p v = ⟨(st.sing.set (2 * p.n).toNat (v % 4294967296)).set (2 * p.n + 1).toNat (v / 4294967296), st.slot⟩ := by unfold putP; rw [if_neg (by omega), if_pos e]
theorem put_three {st : Sto} {p : LPlace} {v : Int} (e : p.kind = 3) : putP st p v = ⟨st.sing, st.slot.set p.n.toNat v⟩ := by unfold putP; rw [if_neg (by omega), if_neg (by omega), if_pos e]

theorem get_put_same {s slots : Int} {st : Sto} {p : LPlace} (h : StoAt s slots st) (hp : isB s slots p = true) (v : Int) (hv : U64i v) : getP (putP st p v) p = if p.kind = 1 then v % 4294967296 else v := by
  have h1 := h.sl
  have h2 := h.ll
  have hev := h.ok.ev
  obtain ⟨v0, v1⟩ := hv
  rcases is_cases hp with ⟨e, a, b⟩ | ⟨e, a, b⟩ | ⟨e, a, b⟩
  · rw [put_one e, get_one e, if_pos e]
    exact getD_set_eq (by omega)
  · rw [put_two e, get_two e, if_neg (by omega)]
    simp only
    rw [getD_set_eq (by simp; omega), getD_set_ne (by omega), getD_set_eq (by omega)]
    omega
  · rw [put_three e, get_three e, if_neg (by omega)]
    exact getD_set_eq (by omega)

theorem get_put_far {s slots : Int} {st : Sto} {p q : LPlace} (hp : isB s slots p = true) (hq : isB s slots q = true) (ho : overB q p = false) (v : Int) : getP (putP st p v) q = getP st q := by
  unfold overB at ho
  rcases is_cases hp with ⟨e, a, b⟩ | ⟨e, a, b⟩ | ⟨e, a, b⟩ <;> rcases is_cases hq with ⟨e', a', b'⟩ | ⟨e', a', b'⟩ | ⟨e', a', b'⟩
  · rw [if_pos (by omega)] at ho; simp at ho
    rw [put_one e, get_one e', get_one e', getD_set_ne (by omega)]
  · rw [if_neg (by omega), if_neg (by omega), if_pos (by omega)] at ho; simp at ho
    rw [put_one e, get_two e', get_two e', getD_set_ne (by omega), getD_set_ne (by omega)]
  · rw [put_one e, get_three e', get_three e']
  · rw [if_neg (by omega), if_pos (by omega)] at ho; simp at ho
    rw [put_two e, get_one e', get_one e', getD_set_ne (by omega), getD_set_ne (by omega)]
  · rw [if_pos (by omega)] at ho; simp at ho
    rw [put_two e, get_two e', get_two e', getD_set_ne (by omega), getD_set_ne (by omega), getD_set_ne (by omega), getD_set_ne (by omega)]
  · rw [put_two e, get_three e', get_three e']
  · rw [put_three e, get_one e', get_one e']
  · rw [put_three e, get_two e', get_two e']
  · rw [if_pos (by omega)] at ho; simp at ho
    rw [put_three e, get_three e', get_three e', getD_set_ne (by omega)]

theorem sto_at_put {s slots : Int} {st : Sto} {p : LPlace} {v : Int} (h : StoAt s slots st) (hv : U64i v) : StoAt s slots (putP st p v) := by
  have := putP_len st p v
  exact ⟨sto_put h.ok hv, by rw [this.1]; exact h.sl, by rw [this.2]; exact h.ll⟩

def AllHold (ts : List Int) (st : Sto) (K : LFact → Prop) : Prop := ∀ f, K f → Holds ts st f

theorem move_sound {B : List Bool} {s slots : Int} {num : Int → Prop} (hnum : ∀ x, num x → 0 ≤ x ∧ x < 4294967296) {ts : List Int} {st : Sto} {m : LMove} {K : LFact → Prop} (hm : moveB s slots m = true) (hn : 0 ≤ m.n ∧ m.n < 4294967296)
    (hst : StoAt s slots st) (hw : WOk B ts) (hts : ∀ j, U64i (ts.getD j 0)) (hK : AllHold ts st K) : AllHold ts (moveP st m) (moveK (FactOk B s slots num) m K) := by
  intro f hf
  obtain ⟨hok, hf⟩ := hf
  unfold moveB at hm
  simp only [Bool.and_eq_true] at hm
  obtain ⟨hd, hm⟩ := hm
  by_cases h0 : f.pl.kind = 0
  · rw [if_pos (Or.inl h0)] at hf
    have := hK f hf
    unfold Holds at this ⊢
    rw [if_pos h0] at this ⊢
    exact this
  have hfp : isB s slots f.pl = true := by rcases hok.pl with h | h; exact absurd h.1 h0; exact h
  by_cases ho : overB f.pl m.dst = false
  · rw [if_pos (Or.inr ho)] at hf
    have := hK f hf
    unfold Holds at this ⊢
    rw [if_neg h0] at this ⊢
    unfold moveP
    rw [get_put_far hd hfp ho]
    exact this
  rw [if_neg (by rintro (h | h); exact h0 h; exact ho h)] at hf
  obtain ⟨hpl, hf⟩ := hf
  replace hpl := samePl_eq hpl
  unfold Holds
  rw [if_neg h0]
  cases hc : m.cst with
  | false =>
    rw [if_pos hc] at hf
    rw [if_neg (by simp [hc])] at hm
    simp only [Bool.and_eq_true] at hm
    have hsrc := hm.1.2
    have hkk := hK _ hf
    unfold Holds at hkk
    simp only at hkk
    rw [if_neg (is_kind hsrc)] at hkk
    have hv : U64i (getP st m.src) := get_bd m.src hst.ok
    unfold moveP
    rw [show (if m.cst = true then m.n else getP st m.src) = getP st m.src by rw [hc]; simp, hpl, get_put_same hst hd _ hv]
    by_cases ht : f.temp = true
    · rw [if_pos ht] at hkk ⊢
      obtain ⟨t0, t1⟩ := hok.t ht
      split
      · rename_i h1
        have hw1 := hw f.t.toNat (by omega) (hok.nar ht (Or.inr (by rw [hpl]; exact h1)))
        have := hts f.t.toNat
        unfold U64i at this
        omega
      · exact hkk
    · rw [if_neg ht] at hkk ⊢
      have htf : f.temp = false := by simpa using ht
      have := hnum _ (hok.num (Or.inr htf))
      split <;> omega
  | true =>
    rw [if_neg (by simp [hc])] at hf
    rw [if_pos hc] at hm
    simp at hm
    unfold moveP
    rw [if_pos hc, hpl, get_put_same hst hd _ ⟨hn.1, by omega⟩, if_pos hm.2]
    by_cases ht : f.temp = true
    · rw [if_pos ht] at hf ⊢
      have hkk := hK _ hf
      unfold Holds zeroAt at hkk
      simp only at hkk
      rw [if_pos (show LPlace.zero.kind = 0 from rfl)] at hkk
      rw [hkk]
      omega
    · rw [if_neg ht] at hf ⊢
      omega

theorem sto_at_move {s slots : Int} {st : Sto} {m : LMove} (h : StoAt s slots st) (hn : 0 ≤ m.n ∧ m.n < 4294967296) : StoAt s slots (moveP st m) := by
  unfold moveP
  refine sto_at_put h ?_
  split
  · exact ⟨hn.1, by omega⟩
  · exact get_bd _ h.ok

def movesK (ok : LFact → Prop) (l : List LMove) (K : LFact → Prop) : LFact → Prop := l.foldl (fun K m => moveK ok m K) K

theorem moves_sound {B : List Bool} {s slots : Int} {num : Int → Prop} (hnum : ∀ x, num x → 0 ≤ x ∧ x < 4294967296) {ts : List Int} (hw : WOk B ts) (hts : ∀ j, U64i (ts.getD j 0)) (l : List LMove) :
    ∀ (st : Sto) (K : LFact → Prop), (∀ m, m ∈ l → moveB s slots m = true ∧ 0 ≤ m.n ∧ m.n < 4294967296) → StoAt s slots st → AllHold ts st K → StoAt s slots (movesP st l) ∧ AllHold ts (movesP st l) (movesK (FactOk B s slots num) l K) := by
  induction l with
  | nil => exact fun st K _ h1 h2 => ⟨h1, h2⟩
  | cons m l ih =>
    intro st K hl h1 h2
    obtain ⟨a, b⟩ := hl m (by simp)
    exact ih (moveP st m) (moveK (FactOk B s slots num) m K) (fun x hx => hl x (by simp [hx])) (sto_at_move h1 b) (move_sound hnum a b h1 hw hts h2)

theorem ins_sound {B : List Bool} {s slots : Int} {num : Int → Prop} {ts : List Int} {st : Sto} {i : LIns} {L : LPlace} {v : Int} {K : LFact → Prop} (hlen : ts.length = B.length) (hd0 : 0 ≤ i.dest) (hd1 : i.dest < B.length)
    (hL : isB s slots L = true) (hLk : L.kind = 1 ∨ L.kind = 2) (hLn : L.kind = 1 → v < 4294967296) (hv : U64i v) (hst : StoAt s slots st) (hc : i.op = 1 → v = i.n) (hm : i.op = 2 → v = ts.getD i.a.toNat 0) (ha : i.op = 2 → 0 ≤ i.a)
    (hKok : ∀ f, K f → FactOk B s slots num f) (hK : AllHold ts st K) : AllHold (ts.set i.dest.toNat v) (putP st L v) (insK (FactOk B s slots num) i L K) := by
  have hself : getP (putP st L v) L = v := by
    rw [get_put_same hst hL v hv]
    split
    · rename_i h1; have := hLn h1; have := hv.1; omega
    · rfl
  have hnewd : (ts.set i.dest.toNat v).getD i.dest.toNat 0 = v := getD_set_eq (by omega)
  have hLk0 : ¬ L.kind = 0 := by omega
  have hnew : ∀ t : Int, 0 ≤ t → ¬ t = i.dest → (ts.set i.dest.toNat v).getD t.toNat 0 = ts.getD t.toNat 0 := fun t ht hne => getD_set_ne (by omega)
  intro f hf
  obtain ⟨hok, hf⟩ := hf
  have hfp : ¬ f.pl.kind = 0 → isB s slots f.pl = true := fun h0 => by rcases hok.pl with h | h; exact absurd h.1 h0; exact h
  unfold Holds
  split at hf
  · rename_i hh
    obtain ⟨h2, h3, h4, h5⟩ := hh
    replace h3 := samePl_eq h3
    rw [if_neg (by rw [h3]; exact hLk0), if_pos h4, h3, hself, h5]
    by_cases e : i.a = i.dest
    · rw [e, hnewd]
    · rw [hnew _ (ha h2) e]; exact hm h2
  split at hf
  · rename_i _ hh
    obtain ⟨h2, h3, h4⟩ := hh
    replace h3 := samePl_eq h3
    rw [if_neg (by rw [h3]; exact hLk0), if_neg (by simp [h4]), h3, hself, hm h2]
    have := hK _ hf
    unfold Holds zeroAt at this
    simp only at this
    rw [if_pos (show LPlace.zero.kind = 0 from rfl)] at this
    exact this
  split at hf
  · rename_i _ _ hh
    obtain ⟨h2, ⟨h3, h4⟩, h5⟩ := hh
    have hk := hK _ hf
    unfold Holds at hk
    simp only at hk
    rw [h4, hnewd, hm h2]
    by_cases h0 : f.pl.kind = 0
    · rw [if_pos h0] at hk ⊢; exact hk
    · have ho : overB f.pl L = false := by rcases h5 with h5 | h5; exact absurd h5 h0; exact h5
      rw [if_neg h0, if_pos h3] at hk ⊢
      rw [get_put_far hL (hfp h0) ho]
      exact hk
  split at hf
  · rename_i _ _ _ hh
    obtain ⟨h1, ⟨h3, h4⟩, h0, ho⟩ := hh
    have hk := hK _ hf
    unfold Holds at hk
    simp only at hk
    rw [if_neg h0, if_neg (by simp)] at hk
    rw [if_neg h0, if_pos h3, h4, hnewd, get_put_far hL (hfp h0) ho, hk, hc h1]
  split at hf
  · rename_i _ _ _ _ hh
    obtain ⟨h1, hh⟩ := hh
    rcases hh with ⟨⟨h3, h4⟩, h0⟩ | ⟨h3, h4⟩
    · rw [if_pos h0, h4, hnewd, hf, hc h1]
    · replace h3 := samePl_eq h3
      rw [if_neg (by rw [h3]; exact hLk0), if_neg (by simp [h4]), h3, hself, hf, hc h1]
  split at hf
  · rename_i _ _ _ _ _ hh
    obtain ⟨h3, ⟨h4, h5⟩, h0⟩ := hh
    replace h3 := samePl_eq h3
    rw [if_neg h0, if_pos h4, h3, hself, h5, hnewd]
  · obtain ⟨hkf, hno, h5⟩ := hf
    have hk := hK _ hkf
    unfold Holds at hk
    by_cases h0 : f.pl.kind = 0
    · rw [if_pos h0] at hk ⊢
      have htmp : f.temp = true := by rcases hok.pl with h | h; exact h.2.2; exact absurd h0 (is_kind h)
      rw [hnew _ (hok.t htmp).1 (fun e => hno ⟨htmp, e⟩)]
      exact hk
    · have ho : overB f.pl L = false := by rcases h5 with h5 | h5; exact absurd h5 h0; exact h5
      rw [if_neg h0] at hk ⊢
      rw [get_put_far hL (hfp h0) ho]
      by_cases ht : f.temp = true
      · rw [if_pos ht] at hk ⊢
        rw [hnew _ (hok.t ht).1 (fun e => hno ⟨ht, e⟩)]
        exact hk
      · rw [if_neg ht] at hk ⊢
        exact hk

end Go.Proofs.YtcmnmogmdhofcabGreat.form
