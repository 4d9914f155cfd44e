/- The ends of an instruction: closures that tell what is in its A and B, and give its Dest a number, whatever the store; what a closure has caught; what a closure gives. -/
import Derived.Test.YtolhnlbgohobkaaRunOwn
import Derived.Test.YtolhnlbgohobkaaRunGen
import Derived.Deep.RegionHeld3
namespace Go.Proofs.Ytolhnlbgohobkaa.form
open Go.RowKit Go.Proofs.Ytolhnlbgohobkaa.num
set_option linter.unusedVariables false

/-- A closure that tells what is in the store, whenever it is called. -/
def ReadSpec (K : StoK) (mb sb db : Nat) (w1 : World) (F : Nat) (caps : Array Value) (rd : K.S → Int) : Prop :=
  (∀ w, Sem.run Try.prog (callFunc F caps) w = .ok (.enter F caps) w) ∧ (∀ s, K.ok s → U64i (rd s)) ∧
    ∀ s w, Kept mb sb db w1 w → w1.heap.size ≤ w.heap.size → Row w sb K.T (K.enc s) → K.ok s → Calls Try.prog F caps w fun e w' => e = .returned (.int .u64 (rd s)) ∧ Below w.heap.size w w'

/-- A closure that puts a number into the store, whenever it is called. -/
def WriteSpec (K : StoK) (mb sb db : Nat) (w1 : World) (F : Nat) (c1 c2 : Value) (wr : K.S → Int → K.S) : Prop :=
  (∀ x w, Sem.run Try.prog (callFunc F #[x, c1, c2]) w = .ok (.enter F #[x, c1, c2]) w) ∧ (∀ s x, K.ok s → U64i x → K.ok (wr s x)) ∧
    ∀ s x w, Kept mb sb db w1 w → w1.heap.size ≤ w.heap.size → Row w sb K.T (K.enc s) → K.ok s → U64i x → Calls Try.prog F #[.int .u64 x, c1, c2] w fun e w' => e = .returned (.tuple #[]) ∧ Row w' sb K.T (K.enc (wr s x)) ∧ Only sb w w'

theorem ReadSpec.later {K : StoK} {mb sb db : Nat} {w1 w2 : World} {F : Nat} {caps : Array Value} {rd : K.S → Int} (h : ReadSpec K mb sb db w1 F caps rd) (hk : Kept mb sb db w1 w2) (hz : w1.heap.size ≤ w2.heap.size) : ReadSpec K mb sb db w2 F caps rd :=
  ⟨h.1, h.2.1, fun s w hw hz2 hr ho => h.2.2 s w (hk.trans hz hw) (Nat.le_trans hz hz2) hr ho⟩
theorem WriteSpec.later {K : StoK} {mb sb db : Nat} {w1 w2 : World} {F : Nat} {c1 c2 : Value} {wr : K.S → Int → K.S} (h : WriteSpec K mb sb db w1 F c1 c2 wr) (hk : Kept mb sb db w1 w2) (hz : w1.heap.size ≤ w2.heap.size) : WriteSpec K mb sb db w2 F c1 c2 wr :=
  ⟨h.1, h.2.1, fun s x w hw hz2 hr ho hx => h.2.2 s x w (hk.trans hz hw) (Nat.le_trans hz hz2) hr ho hx⟩

/-- The ends: the functions and what they have caught. -/
structure EndF where
  fa : Nat
  ca : Array Value
  fb : Nat
  cb : Array Value
  fd : Nat
  d1 : Value
  d2 : Value
def EndF.a (x : EndF) : Value := .func (.func x.fa) #[] x.ca
def EndF.b (x : EndF) : Value := .func (.func x.fb) #[] x.cb
def EndF.d (x : EndF) : Value := .func (.func x.fd) #[] #[x.d1, x.d2]

structure EndsIs (K : StoK) (mb sb db : Nat) (w1 : World) (x : EndF) (rdA rdB : K.S → Int) (wr : K.S → Int → K.S) (G : Prop) : Prop where
  a : ReadSpec K mb sb db w1 x.fa x.ca rdA
  b : ReadSpec K mb sb db w1 x.fb x.cb rdB
  d : G → WriteSpec K mb sb db w1 x.fd x.d1 x.d2 wr

theorem EndsIs.later {K : StoK} {mb sb db : Nat} {w1 w2 : World} {x : EndF} {rdA rdB : K.S → Int} {wr : K.S → Int → K.S} {G : Prop} (h : EndsIs K mb sb db w1 x rdA rdB wr G) (hk : Kept mb sb db w1 w2) (hz : w1.heap.size ≤ w2.heap.size) : EndsIs K mb sb db w2 x rdA rdB wr G :=
  ⟨h.a.later hk hz, h.b.later hk hz, fun g => (h.d g).later hk hz⟩

/-- The variables that a closure has caught: the machine's pointer, the instruction, its ends. -/
structure Box (mb sb db bm bi be : Nat) (i : LIns) (x : EndF) (w : World) : Prop where
  pm : w.cell? ⟨bm, 0, none⟩ = some (.pointer (some ⟨mb, 0, none⟩))
  i0 : w.cell? ⟨bi, 0, none⟩ = some (.int .i64 i.op)
  i4 : w.cell? ⟨bi, 4, none⟩ = some (.int .i64 i.c)
  i5 : w.cell? ⟨bi, 5, none⟩ = some (.int .u32 i.n)
  e0 : w.cell? ⟨be, 0, none⟩ = some (.func (.func x.fa) #[] x.ca)
  e1 : w.cell? ⟨be, 1, none⟩ = some (.func (.func x.fb) #[] x.cb)
  e2 : w.cell? ⟨be, 2, none⟩ = some (.func (.func x.fd) #[] #[x.d1, x.d2])
  n1 : bm ≠ mb
  n2 : bi ≠ mb
  n3 : be ≠ mb
  s1 : bm ≠ sb
  s2 : bi ≠ sb
  s3 : be ≠ sb
  m1 : bm ≠ db
  m2 : bi ≠ db
  m3 : be ≠ db

theorem Box.kept {mb sb db bm bi be : Nat} {i : LIns} {x : EndF} {w w' : World} (h : Box mb sb db bm bi be i x w) (hk : Kept mb sb db w w') : Box mb sb db bm bi be i x w' :=
  ⟨hk.cell h.pm h.n1 h.s1 h.m1, hk.cell h.i0 h.n2 h.s2 h.m2, hk.cell h.i4 h.n2 h.s2 h.m2, hk.cell h.i5 h.n2 h.s2 h.m2, hk.cell h.e0 h.n3 h.s3 h.m3, hk.cell h.e1 h.n3 h.s3 h.m3, hk.cell h.e2 h.n3 h.s3 h.m3, h.n1, h.n2, h.n3, h.s1, h.s2, h.s3, h.m1, h.m2, h.m3⟩

/-- What a closure gives, whenever it is called. -/
def GiveSpec (K : StoK) (mb sb db : Nat) (i : LIns) (rdA rdB : K.S → Int) (w1 : World) (F : Nat) (caps : Array Value) : Prop := (∀ w, Sem.run Try.prog (callFunc F caps) w = .ok (.enter F caps) w) ∧ ∀ base s ov l st k iv I pc w, Kept mb sb db w1 w → w1.heap.size ≤ w.heap.size → MS K mb sb base s ov l st k iv I pc w →
  (i.op = 5 → rdA s < 4294967296) → Calls Try.prog F caps w fun e w' =>
    e = .returned (.int .u64 (gvI i (rdA s) (rdB s) (I.headD 0))) ∧ (∃ iv', MS K mb sb base s ov l st k iv' (if i.op = 3 then I.tail else I) pc w') ∧ Ran mb sb base w w'

/-- The machine behind a deed. -/
def Behind (K : StoK) (mb sb base : Nat) (i : LIns) (E : Eff K.S) (s : K.S) (l : List Int) (st k : Int) (I : List Int) (pc : Int) (w w' : World) : Prop :=
  (∃ ov' iv', MS K mb sb base (E.act i s (I.headD 0)) ov' (if i.op = 4 then l ++ [E.a s % 4294967296] else l)
    (if i.op = 10 then 1 else st) k iv' (if i.op = 3 then I.tail else I) (if i.op = 8 ∨ (i.op = 9 ∧ ¬ E.a s = 0) then i.c else pc) w') ∧ Ran mb sb base w w'

/-- What a closure does, whenever it is called. -/
def DeedSpec (K : StoK) (mb sb db : Nat) (i : LIns) (E : Eff K.S) (w1 : World) (F : Nat) (caps : Array Value) : Prop := (∀ w, Sem.run Try.prog (callFunc F caps) w = .ok (.enter F caps) w) ∧ ∀ base s ov l st k iv I pc w, Kept mb sb db w1 w → w1.heap.size ≤ w.heap.size → MS K mb sb base s ov l st k iv I pc w →
  w1.heap.size ≤ base → l.length ≤ 3000 → (i.op = 5 → E.a s < 4294967296) → Calls Try.prog F caps w fun e w' => e = .returned (.tuple #[]) ∧ Behind K mb sb base i E s l st k I pc w w'

theorem DeedSpec.later {K : StoK} {mb sb db : Nat} {i : LIns} {E : Eff K.S} {F : Nat} {caps : Array Value} {w1 w2 : World} (h : DeedSpec K mb sb db i E w1 F caps) (hk : Kept mb sb db w1 w2) (hz2 : w1.heap.size ≤ w2.heap.size) : DeedSpec K mb sb db i E w2 F caps :=
  ⟨h.1, fun base s ov l st k iv I pc w hw hz3 hm hz => h.2 base s ov l st k iv I pc w (hk.trans hz2 hw) (Nat.le_trans hz2 hz3) hm (Nat.le_trans hz2 hz)⟩

/-- Two halves put together. -/
theorem pair_of (a b : Int) (ha0 : 0 ≤ a) (ha1 : a < 4294967296) (hb : U64i b) : bits BinOp.or IntKind.u64 (IntKind.u64.wrap (b * 4294967296)) a = IntKind.u64.wrap (IntKind.u64.wrap (b * 4294967296) + a) := by
  obtain ⟨b0, b1⟩ := hb
  obtain ⟨x, rfl⟩ := Int.eq_ofNat_of_zero_le ha0
  obtain ⟨y, rfl⟩ := Int.eq_ofNat_of_zero_le b0
  have e : IntKind.u64.wrap ((y : Int) * 4294967296) = ((2 ^ 32 * (y % 4294967296) : Nat) : Int) := by
    rw [show IntKind.u64.wrap ((y : Int) * 4294967296) = ((y : Int) * 4294967296) % 18446744073709551616 by simp [IntKind.wrap, IntKind.bits, IntKind.signed]]
    omega
  rw [e, u64_or_nat _ _ (by omega) (by omega), ← Nat.two_pow_add_eq_or_of_lt (by omega), wrap64_of _ (by omega) (by omega)]
  omega

end Go.Proofs.Ytolhnlbgohobkaa.form
