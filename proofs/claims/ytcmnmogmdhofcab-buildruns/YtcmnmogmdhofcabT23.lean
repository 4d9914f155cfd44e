/- A machine on plain numbers, over whatever store: what each instruction does with it is handed in; the machine of temporaries is one of them. -/
import Derived.Deep.RegionHeld3
import Derived.Laws.EntriesVeiled
import Derived.Test.YtcmnmogmdhofcabT05
import Derived.Test.YtcmnmogmdhofcabT22

namespace Go.Proofs.Ytcmnmogmdhofcab.form
open Go.RowKit Go.Proofs.Ytcmnmogmdhofcab.num
set_option linter.unusedVariables false

/-- What an instruction does with a store: what is done ahead of it and behind it, what it takes, what it gives. -/
structure Eff (S : Type) where
  pre : S → S
  post : S → S
  rdA : S → Int
  rdB : S → Int
  wr : S → Int → S

def plainE {S : Type} (rdA rdB : S → Int) (wr : S → Int → S) : Eff S := ⟨id, id, rdA, rdB, wr⟩

def Eff.a {S : Type} (E : Eff S) (s : S) : Int := E.rdA (E.pre s)
def Eff.act {S : Type} (E : Eff S) (i : LIns) (s : S) (x : Int) : S :=
  E.post (if givesB i.op = true then E.wr (E.pre s) (gvI i (E.rdA (E.pre s)) (E.rdB (E.pre s)) x) else E.pre s)

structure GM (S : Type) where
  pc : Nat
  sto : S
  taken : Nat
  out : List Int
  state : Int
  steps : Nat

def GM.step {S : Type} (C : List LIns) (E : Nat → Eff S) (ins : List Int) (m : GM S) : GM S :=
  { pc := (nxI (C.getD m.pc .zero) m.pc ((E m.pc).a m.sto)).toNat
    sto := (E m.pc).act (C.getD m.pc .zero) m.sto (inOf ins m.taken)
    taken := if (C.getD m.pc .zero).op = 3 ∧ m.taken < ins.length then m.taken + 1 else m.taken
    out := if (C.getD m.pc .zero).op = 4 then m.out ++ [(E m.pc).a m.sto % 4294967296] else m.out
    state := stI (C.getD m.pc .zero) C.length (nxI (C.getD m.pc .zero) m.pc ((E m.pc).a m.sto))
    steps := m.steps + 1 }

def GM.go {S : Type} (C : List LIns) (E : Nat → Eff S) (ins : List Int) : Nat → GM S → GM S
  | 0, m => m
  | k + 1, m => if m.state = 0 then GM.go C E ins k (m.step C E ins) else m

theorem GM.go_stop {S : Type} {C : List LIns} {E : Nat → Eff S} {ins : List Int} {m : GM S} (h : ¬ m.state = 0) : ∀ k, GM.go C E ins k m = m
  | 0 => rfl
  | k + 1 => by simp [GM.go, h]

def GM.start {S : Type} (s : S) : GM S := ⟨0, s, 0, [], 0, 0⟩

/-- Within its bounds. -/
structure GOk {S : Type} (nC nI : Nat) (m : GM S) : Prop where
  pcok : m.state = 0 → m.pc < nC
  tk : m.taken ≤ nI
  outs : m.out.length ≤ m.steps
  fin : m.state = 0 ∨ m.state = 1 ∨ (m.state = 2 ∧ m.pc = nC)

theorem gok_start {S : Type} (nC nI : Nat) (s : S) (h : 1 ≤ nC) : GOk nC nI (GM.start s) := ⟨fun _ => h, by simp [GM.start], by simp [GM.start], Or.inl rfl⟩

theorem gok_step {S : Type} {nB : Nat} {C : List LIns} {E : Nat → Eff S} {ins : List Int} {m : GM S} (h : GOk C.length ins.length m) (h0 : m.state = 0) (hi : InsOk nB C.length (C.getD m.pc .zero)) : GOk C.length ins.length (m.step C E ins) := by
  have hpc := h.pcok h0
  refine ⟨?_, ?_, ?_, ?_⟩
  · simp only [GM.step]
    intro hs
    unfold stI at hs
    split at hs
    · omega
    split at hs
    · omega
    · have hn : 0 ≤ nxI (C.getD m.pc .zero) m.pc ((E m.pc).a m.sto) := by
        unfold nxI
        split
        · rename_i hc
          exact (hi.c (by rcases hc with hc | hc; exact Or.inl hc; exact Or.inr hc.1)).1
        · omega
      omega
  · simp only [GM.step]
    split
    · rename_i hc; exact hc.2
    · exact h.tk
  · simp only [GM.step]
    have := h.outs
    split <;> simp <;> omega
  · simp only [GM.step]
    unfold stI
    split
    · exact Or.inr (Or.inl rfl)
    split
    · rename_i h1 h2
      refine Or.inr (Or.inr ⟨rfl, ?_⟩)
      unfold nxI at h2 ⊢
      split at h2
      · rename_i hc
        rw [if_pos hc]
        have := (hi.c (by rcases hc with hc | hc; exact Or.inl hc; exact Or.inr hc.1)).2
        omega
      · rename_i hc
        rw [if_neg hc]
        omega
    · exact Or.inl rfl

theorem ggo_outs {S : Type} (C : List LIns) (E : Nat → Eff S) (ins : List Int) : ∀ (k : Nat) (m : GM S), (GM.go C E ins k m).out.length ≤ m.out.length + k
  | 0, m => by simp [GM.go]
  | k + 1, m => by
    by_cases h : m.state = 0
    · simp only [GM.go, if_pos h]
      have h1 := ggo_outs C E ins k (m.step C E ins)
      have h2 : (m.step C E ins).out.length ≤ m.out.length + 1 := by simp only [GM.step]; split <;> simp
      omega
    · rw [GM.go_stop h]; omega

/-- The machine of temporaries. -/
def tempE (i : LIns) : Eff (List Int) := plainE (fun s => s.getD i.a.toNat 0) (fun s => s.getD i.b.toNat 0) (fun s x => s.set i.dest.toNat x)
def Mac.gen (m : Mac) : GM (List Int) := ⟨m.pc, m.temps, m.taken, m.out, m.state, m.steps⟩
theorem gen_step (C : List LIns) (ins : List Int) (m : Mac) : (m.step C ins).gen = m.gen.step C (fun k => tempE (C.getD k .zero)) ins := rfl
theorem gen_go (C : List LIns) (ins : List Int) : ∀ (k : Nat) (m : Mac), (Mac.go C ins k m).gen = GM.go C (fun k => tempE (C.getD k .zero)) ins k m.gen
  | 0, m => rfl
  | k + 1, m => by
    by_cases h : m.state = 0
    · have h' : m.gen.state = 0 := h
      simp only [Mac.go, GM.go, if_pos h, if_pos h', ← gen_step]
      exact gen_go C ins k (m.step C ins)
    · have h' : ¬ m.gen.state = 0 := h
      rw [Mac.go_stop h, GM.go_stop h']
theorem play_gen (B : List Bool) (C : List LIns) (ins : List Int) (n : Nat) : (playM B C ins n).gen = GM.go C (fun k => tempE (C.getD k .zero)) ins n (GM.start (List.replicate B.length 0)) := gen_go C ins n _

end Go.Proofs.Ytcmnmogmdhofcab.form

/- The ends of an instruction: closures that tell what is in its A and B, and give its Dest a number, whatever the store; what a closure has caught; what a closure gives. -/
namespace Go.Proofs.Ytcmnmogmdhofcab.form
open Go.RowKit Go.Proofs.Ytcmnmogmdhofcab.num
set_option linter.unusedVariables false

/-- A closure that tells what is in the store, whenever it is called. -/
def ReadSpec (K : StoK) (mb sb db : Nat) (w1 : World) (F : Nat) (caps : Array Value) (rd : K.S → Int) : Prop :=
  (∀ w, Sem.run Try.prog (callFunc F caps) w = .ok (.enter F caps) w) ∧ (∀ s, K.ok s → U64i (rd s)) ∧
    ∀ s w, Kept mb sb db w1 w → w1.heap.size ≤ w.heap.size → Row w sb K.T (K.enc s) → K.ok s → Calls Try.prog F caps w fun e w' => e = .returned (.int .u64 (rd s)) ∧ Below w.heap.size w w'

/-- A closure that puts a number into the store, whenever it is called. -/
def WriteSpec (K : StoK) (mb sb db : Nat) (w1 : World) (F : Nat) (c1 c2 : Value) (wr : K.S → Int → K.S) : Prop :=
  (∀ x w, Sem.run Try.prog (callFunc F #[x, c1, c2]) w = .ok (.enter F #[x, c1, c2]) w) ∧ (∀ s x, K.ok s → U64i x → K.ok (wr s x)) ∧
    ∀ s x w, Kept mb sb db w1 w → w1.heap.size ≤ w.heap.size → Row w sb K.T (K.enc s) → K.ok s → U64i x → Calls Try.prog F #[.int .u64 x, c1, c2] w fun e w' => e = .returned (.tuple #[]) ∧ Row w' sb K.T (K.enc (wr s x)) ∧ Only sb w w'

theorem ReadSpec.later {K : StoK} {mb sb db : Nat} {w1 w2 : World} {F : Nat} {caps : Array Value} {rd : K.S → Int} (h : ReadSpec K mb sb db w1 F caps rd) (hk : Kept mb sb db w1 w2) (hz : w1.heap.size ≤ w2.heap.size) : ReadSpec K mb sb db w2 F caps rd :=
  ⟨h.1, h.2.1, fun s w hw hz2 hr ho => h.2.2 s w (hk.trans hz hw) (Nat.le_trans hz hz2) hr ho⟩
theorem WriteSpec.later {K : StoK} {mb sb db : Nat} {w1 w2 : World} {F : Nat} {c1 c2 : Value} {wr : K.S → Int → K.S} (h : WriteSpec K mb sb db w1 F c1 c2 wr) (hk : Kept mb sb db w1 w2) (hz : w1.heap.size ≤ w2.heap.size) : WriteSpec K mb sb db w2 F c1 c2 wr :=
  ⟨h.1, h.2.1, fun s x w hw hz2 hr ho hx => h.2.2 s x w (hk.trans hz hw) (Nat.le_trans hz hz2) hr ho hx⟩

/-- The ends: the functions and what they have caught. -/
structure EndF where
  fa : Nat
  ca : Array Value
  fb : Nat
  cb : Array Value
  fd : Nat
  d1 : Value
  d2 : Value
def EndF.a (x : EndF) : Value := .func (.func x.fa) #[] x.ca
def EndF.b (x : EndF) : Value := .func (.func x.fb) #[] x.cb
def EndF.d (x : EndF) : Value := .func (.func x.fd) #[] #[x.d1, x.d2]

structure EndsIs (K : StoK) (mb sb db : Nat) (w1 : World) (x : EndF) (rdA rdB : K.S → Int) (wr : K.S → Int → K.S) (G : Prop) : Prop where
  a : ReadSpec K mb sb db w1 x.fa x.ca rdA
  b : ReadSpec K mb sb db w1 x.fb x.cb rdB
  d : G → WriteSpec K mb sb db w1 x.fd x.d1 x.d2 wr

theorem EndsIs.later {K : StoK} {mb sb db : Nat} {w1 w2 : World} {x : EndF} {rdA rdB : K.S → Int} {wr : K.S → Int → K.S} {G : Prop} (h : EndsIs K mb sb db w1 x rdA rdB wr G) (hk : Kept mb sb db w1 w2) (hz : w1.heap.size ≤ w2.heap.size) : EndsIs K mb sb db w2 x rdA rdB wr G :=
  ⟨h.a.later hk hz, h.b.later hk hz, fun g => (h.d g).later hk hz⟩

/-- The variables that a closure has caught: the machine's pointer, the instruction, its ends. -/
structure Box (mb sb db bm bi be : Nat) (i : LIns) (x : EndF) (w : World) : Prop where
  pm : w.cell? ⟨bm, 0, none⟩ = some (.pointer (some ⟨mb, 0, none⟩))
  i0 : w.cell? ⟨bi, 0, none⟩ = some (.int .i64 i.op)
  i4 : w.cell? ⟨bi, 4, none⟩ = some (.int .i64 i.c)
  i5 : w.cell? ⟨bi, 5, none⟩ = some (.int .u32 i.n)
  e0 : w.cell? ⟨be, 0, none⟩ = some (.func (.func x.fa) #[] x.ca)
  e1 : w.cell? ⟨be, 1, none⟩ = some (.func (.func x.fb) #[] x.cb)
  e2 : w.cell? ⟨be, 2, none⟩ = some (.func (.func x.fd) #[] #[x.d1, x.d2])
  n1 : bm ≠ mb
  n2 : bi ≠ mb
  n3 : be ≠ mb
  s1 : bm ≠ sb
  s2 : bi ≠ sb
  s3 : be ≠ sb
  m1 : bm ≠ db
  m2 : bi ≠ db
  m3 : be ≠ db

theorem Box.kept {mb sb db bm bi be : Nat} {i : LIns} {x : EndF} {w w' : World} (h : Box mb sb db bm bi be i x w) (hk : Kept mb sb db w w') : Box mb sb db bm bi be i x w' :=
  ⟨hk.cell h.pm h.n1 h.s1 h.m1, hk.cell h.i0 h.n2 h.s2 h.m2, hk.cell h.i4 h.n2 h.s2 h.m2, hk.cell h.i5 h.n2 h.s2 h.m2, hk.cell h.e0 h.n3 h.s3 h.m3, hk.cell h.e1 h.n3 h.s3 h.m3, hk.cell h.e2 h.n3 h.s3 h.m3, h.n1, h.n2, h.n3, h.s1, h.s2, h.s3, h.m1, h.m2, h.m3⟩

/-- What a closure gives, whenever it is called. -/
def GiveSpec (K : StoK) (mb sb db : Nat) (i : LIns) (rdA rdB : K.S → Int) (w1 : World) (F : Nat) (caps : Array Value) : Prop := (∀ w, Sem.run Try.prog (callFunc F caps) w = .ok (.enter F caps) w) ∧ ∀ base s ov l st k iv I pc w, Kept mb sb db w1 w → w1.heap.size ≤ w.heap.size → MS K mb sb base s ov l st k iv I pc w →
  (i.op = 5 → rdA s < 4294967296) → Calls Try.prog F caps w fun e w' =>
    e = .returned (.int .u64 (gvI i (rdA s) (rdB s) (I.headD 0))) ∧ (∃ iv', MS K mb sb base s ov l st k iv' (if i.op = 3 then I.tail else I) pc w') ∧ Ran mb sb base w w'

/-- The machine behind a deed. -/
def Behind (K : StoK) (mb sb base : Nat) (i : LIns) (E : Eff K.S) (s : K.S) (l : List Int) (st k : Int) (I : List Int) (pc : Int) (w w' : World) : Prop :=
  (∃ ov' iv', MS K mb sb base (E.act i s (I.headD 0)) ov' (if i.op = 4 then l ++ [E.a s % 4294967296] else l)
    (if i.op = 10 then 1 else st) k iv' (if i.op = 3 then I.tail else I) (if i.op = 8 ∨ (i.op = 9 ∧ ¬ E.a s = 0) then i.c else pc) w') ∧ Ran mb sb base w w'

/-- What a closure does, whenever it is called. -/
def DeedSpec (K : StoK) (mb sb db : Nat) (i : LIns) (E : Eff K.S) (w1 : World) (F : Nat) (caps : Array Value) : Prop := (∀ w, Sem.run Try.prog (callFunc F caps) w = .ok (.enter F caps) w) ∧ ∀ base s ov l st k iv I pc w, Kept mb sb db w1 w → w1.heap.size ≤ w.heap.size → MS K mb sb base s ov l st k iv I pc w →
  w1.heap.size ≤ base → l.length ≤ 3000 → (i.op = 5 → E.a s < 4294967296) → Calls Try.prog F caps w fun e w' => e = .returned (.tuple #[]) ∧ Behind K mb sb base i E s l st k I pc w w'

theorem DeedSpec.later {K : StoK} {mb sb db : Nat} {i : LIns} {E : Eff K.S} {F : Nat} {caps : Array Value} {w1 w2 : World} (h : DeedSpec K mb sb db i E w1 F caps) (hk : Kept mb sb db w1 w2) (hz2 : w1.heap.size ≤ w2.heap.size) : DeedSpec K mb sb db i E w2 F caps :=
  ⟨h.1, fun base s ov l st k iv I pc w hw hz3 hm hz => h.2 base s ov l st k iv I pc w (hk.trans hz2 hw) (Nat.le_trans hz2 hz3) hm (Nat.le_trans hz2 hz)⟩

/-- Two halves put together. -/
theorem pair_of (a b : Int) (ha0 : 0 ≤ a) (ha1 : a < 4294967296) (hb : U64i b) : bits BinOp.or IntKind.u64 (IntKind.u64.wrap (b * 4294967296)) a = IntKind.u64.wrap (IntKind.u64.wrap (b * 4294967296) + a) := by
  obtain ⟨b0, b1⟩ := hb
  obtain ⟨x, rfl⟩ := Int.eq_ofNat_of_zero_le ha0
  obtain ⟨y, rfl⟩ := Int.eq_ofNat_of_zero_le b0
  have e : IntKind.u64.wrap ((y : Int) * 4294967296) = ((2 ^ 32 * (y % 4294967296) : Nat) : Int) := by
    rw [show IntKind.u64.wrap ((y : Int) * 4294967296) = ((y : Int) * 4294967296) % 18446744073709551616 by simp [IntKind.wrap, IntKind.bits, IntKind.signed]]
    omega
  rw [e, u64_or_nat _ _ (by omega) (by omega), ← Nat.two_pow_add_eq_or_of_lt (by omega), wrap64_of _ (by omega) (by omega)]
  omega

end Go.Proofs.Ytcmnmogmdhofcab.form

/- What the closures give that the program's machine makes of an instruction that has a Dest, whatever its ends. -/
namespace Go.Proofs.Ytcmnmogmdhofcab.form
open Go.RowKit Go.Proofs.Ytcmnmogmdhofcab.num
set_option linter.unusedVariables false
set_option maxRecDepth 100000
attribute [local go_sem ↓] Go.wp_at_zero Go.wp_at_succ

section
variable {K : StoK} {mb sb db base bm bi be : Nat} {s : K.S} {ov : Value} {l : List Int} {st k : Int} {iv : Value} {I : List Int} {pc : Int} {i : LIns} {x : EndF} {w : World}

theorem giv1 (hb : Box mb sb db bm bi be i x w) (hn0 : 0 ≤ i.n) (hn1 : i.n < 4294967296) :
    Calls Try.prog 124 #[.pointer (some ⟨bi, 0, none⟩)] w fun e w' => e = .returned (.int .u64 i.n) ∧ Below w.heap.size w w' := by
  have c5 := hb.i5
  have e5 := wrap64_of i.n hn0 (by omega)
  clear hb
  go_enter Try.func124, Try.ntmps124
  go_wp2
  go_ret
  exact ⟨rfl, Below.refl _ _⟩

theorem takeIn (hm : MS K mb sb base s ov l st k iv I pc w) :
    Calls Try.prog 126 #[.pointer (some ⟨mb, 0, none⟩)] w fun e w' => e = .returned (.int .u32 (I.headD 0)) ∧ (∃ iv', MS K mb sb base s ov l st k iv' I.tail pc w') ∧ Ran mb sb base w w' := by
  have HM : Hid (MS K mb sb base s ov l st k iv I pc w) := hm
  obtain ⟨ai, cap, rfl, hcap, h40, hbd, hc⟩ := hm.ins
  have ci := hm.civ
  have fz := hm.fz 3
  have hlt := hm.lt
  have hsz := hm.sz
  clear hm
  cases I with
  | nil =>
    clear hc hbd
    go_enter Try.func126, Try.ntmps126
    go_wp2
    go_ret
    exact ⟨rfl, ⟨_, HM.out⟩, Ran.refl _ _ _ _⟩
  | cons y R =>
    obtain ⟨b, o, rfl, hb1, hb2, hb3, hcell⟩ := hc (by simp)
    have c0 := hcell 0 (by simp)
    have HC : Hid _ := hcell
    have HBD : Hid _ := hbd
    simp at c0
    clear hc hcell hbd
    go_enter Try.func126, Try.ntmps126
    go_wp2
    all_goals
      go_ret
      refine ⟨rfl, ⟨_, HM.out.setIns ?_⟩, (Ran.refl _ _ _ _).set _ _⟩
    · refine ⟨_, 0, rfl, by simp at hcap; omega, by simp at h40; omega, fun j hj => by simp at hcap; omega, fun h0 => by simp at hcap; omega⟩
    · refine ⟨_, cap - 1, rfl, by simp at hcap; omega, by simp at h40; omega, fun j hj => ?_, fun h0 => ⟨b, o + 1, rfl, hb1, hb2, hb3, fun j hj => ?_⟩⟩
      · have := HBD.out (j + 1) (by simp; omega)
        simpa using this
      · have := HC.out (j + 1) (by simp; omega)
        rw [show o + 1 + j = o + (j + 1) by omega]
        simpa using this

theorem head_bd (hm : MS K mb sb base s ov l st k iv I pc w) : 0 ≤ I.headD 0 ∧ I.headD 0 < 4294967296 := by
  obtain ⟨ai, cap, -, -, -, hbd, -⟩ := hm.ins
  cases I with
  | nil => simp
  | cons y R => have := hbd 0 (by simp); simpa using this

theorem giv2 (hb : Box mb sb db bm bi be i x w) (hm : MS K mb sb base s ov l st k iv I pc w) :
    Calls Try.prog 125 #[.pointer (some ⟨bm, 0, none⟩)] w fun e w' => e = .returned (.int .u64 (I.headD 0)) ∧ (∃ iv', MS K mb sb base s ov l st k iv' I.tail pc w') ∧ Ran mb sb base w w' := by
  have cm := hb.pm
  have HM : Hid (MS K mb sb base s ov l st k iv I pc w) := hm
  obtain ⟨y, hy⟩ : ∃ y, y = I.headD 0 := ⟨_, rfl⟩
  have hy2 : 0 ≤ y ∧ y < 4294967296 := by rw [hy]; exact head_bd hm
  have e5 := wrap64_of y hy2.1 (by omega)
  have HX : Hid (y = I.headD 0) := hy
  rw [← hy]
  clear hm hb hy hy2
  go_enter Try.func125, Try.ntmps125
  go_wp2_with (go_at_call 126; refine (takeIn HM.out).mono ?_; rw [← HX.out]; rintro e w1 ⟨rfl, hr1, hr2⟩)
  go_ret
  exact ⟨rfl, hr1, hr2⟩
end
end Go.Proofs.Ytcmnmogmdhofcab.form

/- What the closures give of what their ends tell. -/
namespace Go.Proofs.Ytcmnmogmdhofcab.form
open Go.RowKit Go.Proofs.Ytcmnmogmdhofcab.num
set_option linter.unusedVariables false
set_option maxRecDepth 100000
attribute [local go_sem ↓] Go.wp_at_zero Go.wp_at_succ

/-- A closure that tells a number, in this world and where nothing of it has turned. -/
structure RdAt (w : World) (F : Nat) (caps : Array Value) (a : Int) : Prop where
  ent : ∀ w, Sem.run Try.prog (callFunc F caps) w = .ok (.enter F caps) w
  bd : U64i a
  call : ∀ w2, Below w.heap.size w w2 → Calls Try.prog F caps w2 fun e w' => e = .returned (.int .u64 a) ∧ Below w2.heap.size w2 w'

theorem ReadSpec.rd {K : StoK} {mb sb db base : Nat} {w1 w : World} {F : Nat} {caps : Array Value} {rd : K.S → Int} {s : K.S} {ov : Value} {l : List Int} {st k : Int} {iv : Value} {I : List Int} {pc : Int}
    (h : ReadSpec K mb sb db w1 F caps rd) (hk : Kept mb sb db w1 w) (hz : w1.heap.size ≤ w.heap.size) (hm : MS K mb sb base s ov l st k iv I pc w) : RdAt w F caps (rd s) :=
  ⟨h.1, h.2.1 s hm.ok, fun w2 hb => h.2.2 s w2 (hk.thenBelow hz hb) (Nat.le_trans hz hb.size) (hm.sto.below hb) hm.ok⟩

section
variable {mb sb db bm bi be : Nat} {i : LIns} {x : EndF} {w : World} {a b : Int}

theorem giv3 (hb : Box mb sb db bm bi be i x w) (hA : RdAt w x.fa x.ca a) (hB : RdAt w x.fb x.cb b) (hn : a < 4294967296) :
    Calls Try.prog 127 #[.pointer (some ⟨be, 0, none⟩)] w fun e w' => e = .returned (.int .u64 (IntKind.u64.wrap (IntKind.u64.wrap (b * 4294967296) + a))) ∧ Below w.heap.size w w' := by
  have c0 := hb.e0
  have c1 := hb.e1
  have ua := hA.bd
  have ub := hB.bd
  have enA := hA.ent
  have enB := hB.ent
  have HA : Hid _ := hA.call
  have HB : Hid _ := hB.call
  have HE : Hid (bits BinOp.or IntKind.u64 (IntKind.u64.wrap (b * 4294967296)) a = IntKind.u64.wrap (IntKind.u64.wrap (b * 4294967296) + a)) := pair_of a b ua.1 hn ub
  clear hb hA hB ua ub
  go_enter Try.func127, Try.ntmps127
  go_wp2
  go_region_held3 (fun w' => Below w.heap.size w w' ∧ w'.cell? ⟨be, 0, none⟩ = some (.func (.func x.fa) #[] x.ca) ∧ w'.cell? ⟨be, 1, none⟩ = some (.func (.func x.fb) #[] x.cb))
    ((go_split_ands; refine ⟨?_, ?_, ?_⟩ <;> first | exact step_below hbc (by assumption) | exact step_cell hbc (by assumption) | exact (Below.refl _ _).drew | (go_keep; done) | assumption))
    (first
      | (refine (HB.out _ ?_).mono ?_; (go_split_ands; first | assumption | exact (Below.refl _ _).drew); rintro e w1 ⟨rfl, hbc⟩)
      | (refine (HA.out _ ?_).mono ?_; (go_split_ands; first | assumption | exact (Below.refl _ _).drew); rintro e w1 ⟨rfl, hbc⟩))
  go_wp2
  go_ret
  exact ⟨ret_int HE.out, by (go_split_ands; assumption)⟩

theorem giv4 (hb : Box mb sb db bm bi be i x w) (hA : RdAt w x.fa x.ca a) :
    Calls Try.prog 128 #[.pointer (some ⟨be, 0, none⟩)] w fun e w' => e = .returned (.int .u64 (a % 4294967296)) ∧ Below w.heap.size w w' := by
  have c0 := hb.e0
  have ua := hA.bd
  have enA := hA.ent
  have HA : Hid _ := hA.call
  clear hb hA
  go_enter Try.func128, Try.ntmps128
  go_wp2_with fail
  refine (HA.out _ (Below.refl _ _)).mono ?_
  rintro e w1 ⟨rfl, hbc⟩
  go_wp2
  go_ret
  exact ⟨rfl, hbc⟩

theorem giv5 (hb : Box mb sb db bm bi be i x w) (hA : RdAt w x.fa x.ca a) :
    Calls Try.prog 129 #[.pointer (some ⟨be, 0, none⟩)] w fun e w' => e = .returned (.int .u64 (a / 4294967296)) ∧ Below w.heap.size w w' := by
  have c0 := hb.e0
  have ua := hA.bd
  have enA := hA.ent
  have HA : Hid _ := hA.call
  clear hb hA
  go_enter Try.func129, Try.ntmps129
  go_wp2_with fail
  refine (HA.out _ (Below.refl _ _)).mono ?_
  rintro e w1 ⟨rfl, hbc⟩
  go_wp2
  go_ret
  exact ⟨rfl, hbc⟩

theorem wrapI_of (x : Int) (h0 : -9223372036854775808 ≤ x) (h1 : x ≤ 9223372036854775807) : IntKind.i64.wrap x = x := by
  simp [IntKind.wrap, IntKind.bits, IntKind.signed]
  split <;> omega
theorem u32_wrap (x : Int) : IntKind.u32.wrap x = x % 4294967296 := by simp [IntKind.wrap, IntKind.bits, IntKind.signed]

theorem giv6 (hb : Box mb sb db bm bi be i x w) (hA : RdAt w x.fa x.ca a) (hB : RdAt w x.fb x.cb b) (ho0 : 1 ≤ i.op) (ho1 : i.op ≤ 45) :
    Calls Try.prog 130 #[.pointer (some ⟨bi, 0, none⟩), .pointer (some ⟨be, 0, none⟩)] w fun e w' => e = .returned (.int .u64 (opR .u64 (i.op - 40) a b)) ∧ Below w.heap.size w w' := by
  have c0 := hb.e0
  have c1 := hb.e1
  have ci := hb.i0
  have ua := hA.bd
  have ub := hB.bd
  have enA := hA.ent
  have enB := hB.ent
  have HA : Hid _ := hA.call
  have HB : Hid _ := hB.call
  have HW : Hid (IntKind.i64.wrap (i.op - 40) = i.op - 40) := wrapI_of _ (by omega) (by omega)
  clear hb hA hB
  go_enter Try.func130, Try.ntmps130
  go_wp2
  go_region_held3 (fun w' => Below w.heap.size w w' ∧ w'.cell? ⟨be, 0, none⟩ = some (.func (.func x.fa) #[] x.ca) ∧ w'.cell? ⟨be, 1, none⟩ = some (.func (.func x.fb) #[] x.cb) ∧ w'.cell? ⟨bi, 0, none⟩ = some (.int .i64 i.op))
    ((go_split_ands; refine ⟨?_, ?_, ?_, ?_⟩ <;> first | exact step_below hbc (by assumption) | exact step_cell hbc (by assumption) | exact (Below.refl _ _).drew | (go_keep; done) | assumption))
    (first
      | (refine (HB.out _ ?_).mono ?_; (go_split_ands; first | assumption | exact (Below.refl _ _).drew); rintro e w1 ⟨rfl, hbc⟩)
      | (refine (HA.out _ ?_).mono ?_; (go_split_ands; first | assumption | exact (Below.refl _ _).drew); rintro e w1 ⟨rfl, hbc⟩)
      | (go_at_call 131; refine (wide _ _ _ _).mono ?_; rintro e w1 ⟨rfl, hw1⟩; subst hw1; have hbc := Below.refl w1.heap.size w1))
  go_wp2
  go_ret
  exact ⟨ret_int (by rw [HW.out]), by (go_split_ands; assumption)⟩

theorem giv7 (hb : Box mb sb db bm bi be i x w) (hA : RdAt w x.fa x.ca a) (hB : RdAt w x.fb x.cb b) (ho0 : 1 ≤ i.op) (ho1 : i.op ≤ 45) :
    Calls Try.prog 132 #[.pointer (some ⟨bi, 0, none⟩), .pointer (some ⟨be, 0, none⟩)] w fun e w' => e = .returned (.int .u64 (opR .u32 (i.op - 20) (a % 4294967296) (b % 4294967296))) ∧ Below w.heap.size w w' := by
  have c0 := hb.e0
  have c1 := hb.e1
  have ci := hb.i0
  have ua := hA.bd
  have ub := hB.bd
  have enA := hA.ent
  have enB := hB.ent
  have HA : Hid _ := hA.call
  have HB : Hid _ := hB.call
  have ob := opR_u32_bd (i.op - 20) a b
  have HO : Hid (IntKind.u64.wrap (opR .u32 (i.op - 20) (a % 4294967296) (b % 4294967296)) = opR .u32 (i.op - 20) (a % 4294967296) (b % 4294967296)) := wrap64_of _ ob.1 (by omega)
  have HW : Hid (IntKind.i64.wrap (i.op - 20) = i.op - 20) := wrapI_of _ (by omega) (by omega)
  clear hb hA hB ob
  go_enter Try.func132, Try.ntmps132
  go_wp2
  go_region_held3 (fun w' => Below w.heap.size w w' ∧ w'.cell? ⟨be, 0, none⟩ = some (.func (.func x.fa) #[] x.ca) ∧ w'.cell? ⟨be, 1, none⟩ = some (.func (.func x.fb) #[] x.cb) ∧ w'.cell? ⟨bi, 0, none⟩ = some (.int .i64 i.op))
    ((go_split_ands; refine ⟨?_, ?_, ?_, ?_⟩ <;> first | exact step_below hbc (by assumption) | exact step_cell hbc (by assumption) | exact (Below.refl _ _).drew | (go_keep; done) | assumption))
    (first
      | (refine (HB.out _ ?_).mono ?_; (go_split_ands; first | assumption | exact (Below.refl _ _).drew); rintro e w1 ⟨rfl, hbc⟩)
      | (refine (HA.out _ ?_).mono ?_; (go_split_ands; first | assumption | exact (Below.refl _ _).drew); rintro e w1 ⟨rfl, hbc⟩)
      | (go_at_call 133; refine (narrow _ _ _ _).mono ?_; rintro e w1 ⟨rfl, hw1⟩; subst hw1; have hbc := Below.refl w1.heap.size w1))
  go_wp2
  go_ret
  exact ⟨ret_int (by rw [HW.out, u32_wrap, u32_wrap, HO.out]), by (go_split_ands; assumption)⟩
end
end Go.Proofs.Ytcmnmogmdhofcab.form

/- What the program's machine makes of an instruction that has a Dest: a closure that gives what the instruction gives, whenever it is called. -/
namespace Go.Proofs.Ytcmnmogmdhofcab.form
open Go.RowKit Go.Proofs.Ytcmnmogmdhofcab.num
set_option linter.unusedVariables false
set_option maxRecDepth 100000
attribute [local go_sem ↓] Go.wp_at_zero Go.wp_at_succ

section
variable {K : StoK} {mb sb db bm bi be nB nC : Nat} {i : LIns} {x : EndF} {w1 : World} {rdA rdB : K.S → Int} {wr : K.S → Int → K.S} {G : Prop}

theorem give_below {base : Nat} {s : K.S} {ov : Value} {l : List Int} {st k : Int} {iv : Value} {I : List Int} {pc : Int} {w w' : World} (hm : MS K mb sb base s ov l st k iv I pc w) (hb : Below w.heap.size w w') (h3 : ¬ i.op = 3) : (∃ iv', MS K mb sb base s ov l st k iv' (if i.op = 3 then I.tail else I) pc w') ∧ Ran mb sb base w w' :=
  ⟨⟨iv, by rw [if_neg h3]; exact hm.below hb⟩, Ran.of_below hm.sz hb⟩

theorem spec1 (hb : Box mb sb db bm bi be i x w1) (hi : InsOk nB nC i) (ho : i.op = 1) : GiveSpec K mb sb db i rdA rdB w1 124 #[.pointer (some ⟨bi, 0, none⟩)] := by
  refine ⟨fun w => rfl, ?_⟩
  intro base s ov l st k iv I pc w hk hz hm h5
  refine (giv1 (hb.kept hk) hi.n0 hi.n1).mono ?_
  rintro e w' ⟨rfl, hbl⟩
  exact ⟨ret_int (by unfold gvI; rw [if_pos ho]), give_below hm hbl (by omega)⟩

theorem specM (hE : EndsIs K mb sb db w1 x rdA rdB wr G) (ho : i.op = 2) : GiveSpec K mb sb db i rdA rdB w1 x.fa x.ca := by
  refine ⟨hE.a.1, ?_⟩
  intro base s ov l st k iv I pc w hk hz hm h5
  refine ((hE.a.rd hk hz hm).call w (Below.refl _ _)).mono ?_
  rintro e w' ⟨rfl, hbl⟩
  exact ⟨ret_int (by unfold gvI; rw [if_neg (by omega), if_pos ho]), give_below hm hbl (by omega)⟩

theorem spec2 (hb : Box mb sb db bm bi be i x w1) (ho : i.op = 3) : GiveSpec K mb sb db i rdA rdB w1 125 #[.pointer (some ⟨bm, 0, none⟩)] := by
  refine ⟨fun w => rfl, ?_⟩
  intro base s ov l st k iv I pc w hk hz hm h5
  refine (giv2 (hb.kept hk) hm).mono ?_
  rintro e w' ⟨rfl, hms, hr⟩
  exact ⟨ret_int (by unfold gvI; rw [if_neg (by omega), if_neg (by omega), if_pos ho]), by rw [if_pos ho]; exact hms, hr⟩

theorem spec3 (hb : Box mb sb db bm bi be i x w1) (hE : EndsIs K mb sb db w1 x rdA rdB wr G) (ho : i.op = 5) : GiveSpec K mb sb db i rdA rdB w1 127 #[.pointer (some ⟨be, 0, none⟩)] := by
  refine ⟨fun w => rfl, ?_⟩
  intro base s ov l st k iv I pc w hk hz hm h5
  refine (giv3 (hb.kept hk) (hE.a.rd hk hz hm) (hE.b.rd hk hz hm) (h5 ho)).mono ?_
  rintro e w' ⟨rfl, hbl⟩
  exact ⟨ret_int (by unfold gvI; rw [if_neg (by omega), if_neg (by omega), if_neg (by omega), if_pos ho]), give_below hm hbl (by omega)⟩

theorem spec4 (hb : Box mb sb db bm bi be i x w1) (hE : EndsIs K mb sb db w1 x rdA rdB wr G) (ho : i.op = 6) : GiveSpec K mb sb db i rdA rdB w1 128 #[.pointer (some ⟨be, 0, none⟩)] := by
  refine ⟨fun w => rfl, ?_⟩
  intro base s ov l st k iv I pc w hk hz hm h5
  refine (giv4 (hb.kept hk) (hE.a.rd hk hz hm)).mono ?_
  rintro e w' ⟨rfl, hbl⟩
  exact ⟨ret_int (by unfold gvI; rw [if_neg (by omega), if_neg (by omega), if_neg (by omega), if_neg (by omega), if_pos ho]), give_below hm hbl (by omega)⟩

theorem spec5 (hb : Box mb sb db bm bi be i x w1) (hE : EndsIs K mb sb db w1 x rdA rdB wr G) (ho : i.op = 7) : GiveSpec K mb sb db i rdA rdB w1 129 #[.pointer (some ⟨be, 0, none⟩)] := by
  refine ⟨fun w => rfl, ?_⟩
  intro base s ov l st k iv I pc w hk hz hm h5
  refine (giv5 (hb.kept hk) (hE.a.rd hk hz hm)).mono ?_
  rintro e w' ⟨rfl, hbl⟩
  exact ⟨ret_int (by unfold gvI; rw [if_neg (by omega), if_neg (by omega), if_neg (by omega), if_neg (by omega), if_neg (by omega), if_pos ho]), give_below hm hbl (by omega)⟩

theorem spec6 (hb : Box mb sb db bm bi be i x w1) (hE : EndsIs K mb sb db w1 x rdA rdB wr G) (hi : InsOk nB nC i) (ho : 40 < i.op) : GiveSpec K mb sb db i rdA rdB w1 130 #[.pointer (some ⟨bi, 0, none⟩), .pointer (some ⟨be, 0, none⟩)] := by
  refine ⟨fun w => rfl, ?_⟩
  intro base s ov l st k iv I pc w hk hz hm h5
  have p1 := hi.p1
  refine (giv6 (hb.kept hk) (hE.a.rd hk hz hm) (hE.b.rd hk hz hm) (by omega) (by omega)).mono ?_
  rintro e w' ⟨rfl, hbl⟩
  exact ⟨ret_int (by unfold gvI; rw [if_neg (by omega), if_neg (by omega), if_neg (by omega), if_neg (by omega), if_neg (by omega), if_neg (by omega), if_pos ho]), give_below hm hbl (by omega)⟩

theorem spec7 (hb : Box mb sb db bm bi be i x w1) (hE : EndsIs K mb sb db w1 x rdA rdB wr G) (ho : 10 < i.op ∧ i.op ≤ 40) : GiveSpec K mb sb db i rdA rdB w1 132 #[.pointer (some ⟨bi, 0, none⟩), .pointer (some ⟨be, 0, none⟩)] := by
  refine ⟨fun w => rfl, ?_⟩
  intro base s ov l st k iv I pc w hk hz hm h5
  refine (giv7 (hb.kept hk) (hE.a.rd hk hz hm) (hE.b.rd hk hz hm) (by omega) (by omega)).mono ?_
  rintro e w' ⟨rfl, hbl⟩
  exact ⟨ret_int (by unfold gvI; rw [if_neg (by omega), if_neg (by omega), if_neg (by omega), if_neg (by omega), if_neg (by omega), if_neg (by omega), if_neg (by omega)]), give_below hm hbl (by omega)⟩

/-- The three variables that are caught, just made. -/
def boxW (mb : Nat) (i : LIns) (x : EndF) (w : World) : World :=
  ((w.alloc (.cells #[.pointer (some ⟨mb, 0, none⟩)] 104)).alloc (.cells #[.int .i64 i.op, .int .i64 i.dest, .int .i64 i.a, .int .i64 i.b, .int .i64 i.c, .int .u32 i.n] 71)).alloc (.cells #[.func (.func x.fa) #[] x.ca, .func (.func x.fb) #[] x.cb, .func (.func x.fd) #[] #[x.d1, x.d2]] 114)
theorem boxW_below (mb : Nat) (i : LIns) (x : EndF) (w : World) : Below w.heap.size w (boxW mb i x w) := (((Below.refl _ _).alloc (Nat.le_refl _) _).alloc (by simp) _).alloc (by simp; omega) _
theorem boxW_size (mb : Nat) (i : LIns) (x : EndF) (w : World) : (boxW mb i x w).heap.size = w.heap.size + 3 := by simp [boxW]
theorem box_new (mb sb db : Nat) (i : LIns) (x : EndF) (w : World) (hmb : mb < w.heap.size) (hsb : sb < w.heap.size) (hdb : db < w.heap.size) : Box mb sb db w.heap.size (w.heap.size + 1) (w.heap.size + 1 + 1) i x (boxW mb i x w) := by
  refine ⟨?_, ?_, ?_, ?_, ?_, ?_, ?_, by omega, by omega, by omega, by omega, by omega, by omega, by omega, by omega, by omega⟩ <;> simp [go_sem, boxW]

def EndF.val (x : EndF) : Value := .agg #[.func (.func x.fa) #[] x.ca, .func (.func x.fb) #[] x.cb, .func (.func x.fd) #[] #[x.d1, x.d2]]

theorem giving (hi : InsOk nB nC i) (hg : givesB i.op = true) (hu : 10 < i.op → 21 ≤ i.op) (w : World) (hmb : mb < w.heap.size) (hsb : sb < w.heap.size) (hdb : db < w.heap.size) (hE : EndsIs K mb sb db w x rdA rdB wr G) :
    Calls Try.prog 89 #[.pointer (some ⟨mb, 0, none⟩), i.val, x.val] w fun e w' => (∃ F caps, e = .returned (.func (.func F) #[] caps) ∧ GiveSpec K mb sb db i rdA rdB w' F caps) ∧ Below w.heap.size w w' := by
  have HI : Hid (InsOk nB nC i) := hi
  have HG : Hid (givesB i.op = true) := hg
  have HB : Hid _ := box_new mb sb db i x w hmb hsb hdb
  have hbl := boxW_below mb i x w
  have HE : Hid (EndsIs K mb sb db (boxW mb i x w) x rdA rdB wr G) := hE.later (Kept.of_below hbl) hbl.size
  have HBL : Hid (Below w.heap.size w (boxW mb i x w)) := hbl
  have HU : Hid (10 < i.op → 21 ≤ i.op) := hu
  clear hi hg hu hE hbl
  unfold LIns.val EndF.val
  go_enter Try.func89, Try.ntmps89
  go_wp2
  all_goals
    go_ret
    refine ⟨⟨_, _, rfl, ?_⟩, HBL.out⟩
    have hg := HG.out
    have hu := HU.out
    unfold givesB at hg
    simp at hg
  · exact spec1 HB.out HI.out (by simp_all)
  · exact specM HE.out (by simp_all)
  · exact spec2 HB.out (by simp_all)
  · exact spec3 HB.out HE.out (by simp_all)
  · exact spec4 HB.out HE.out (by simp_all)
  · exact spec5 HB.out HE.out (by simp_all)
  · exact spec6 HB.out HE.out HI.out (by simp_all)
  · have := HI.out.p0
    exact spec7 HB.out HE.out (by simp_all; omega)
end
end Go.Proofs.Ytcmnmogmdhofcab.form
