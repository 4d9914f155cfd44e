/- What the closures give that the program's run makes of an instruction that has a Dest. -/
import Derived.Test.YthnhpjhjaamanaaRunOwn
import Derived.Deep.RegionHeld3
namespace Go.Proofs.Ythnhpjhjaamanaa.form
open Go.RowKit Go.Proofs.Ythnhpjhjaamanaa.num
set_option linter.unusedVariables false
attribute [local go_sem ↓] Go.wp_at_zero Go.wp_at_succ

/-- The variables that a closure has caught: the machine's pointer, the instruction. -/
structure Box (mb db bm bi : Nat) (i : LIns) (w : World) : Prop where
  pm : w.cell? ⟨bm, 0, none⟩ = some (.pointer (some ⟨mb, 0, none⟩))
  i0 : w.cell? ⟨bi, 0, none⟩ = some (.int .i64 i.op)
  i1 : w.cell? ⟨bi, 1, none⟩ = some (.int .i64 i.dest)
  i2 : w.cell? ⟨bi, 2, none⟩ = some (.int .i64 i.a)
  i3 : w.cell? ⟨bi, 3, none⟩ = some (.int .i64 i.b)
  i4 : w.cell? ⟨bi, 4, none⟩ = some (.int .i64 i.c)
  i5 : w.cell? ⟨bi, 5, none⟩ = some (.int .u32 i.n)
  n1 : bm ≠ mb
  n2 : bi ≠ mb
  m1 : bm ≠ db
  m2 : bi ≠ db

theorem Box.kept {mb db bm bi : Nat} {i : LIns} {w w' : World} (h : Box mb db bm bi i w) (hk : Kept mb db w w') : Box mb db bm bi i w' :=
  ⟨hk.cell h.pm h.n1 h.m1, hk.cell h.i0 h.n2 h.m2, hk.cell h.i1 h.n2 h.m2, hk.cell h.i2 h.n2 h.m2, hk.cell h.i3 h.n2 h.m2, hk.cell h.i4 h.n2 h.m2, hk.cell h.i5 h.n2 h.m2, h.n1, h.n2, h.m1, h.m2⟩

/-- Two halves put together. -/
theorem pair_of (a b : Int) (ha0 : 0 ≤ a) (ha1 : a < 4294967296) (hb : U64i b) : bits BinOp.or IntKind.u64 (IntKind.u64.wrap (b * 4294967296)) a = IntKind.u64.wrap (IntKind.u64.wrap (b * 4294967296) + a) := by
  obtain ⟨b0, b1⟩ := hb
  obtain ⟨x, rfl⟩ := Int.eq_ofNat_of_zero_le ha0
  obtain ⟨y, rfl⟩ := Int.eq_ofNat_of_zero_le b0
  have e : IntKind.u64.wrap ((y : Int) * 4294967296) = ((2 ^ 32 * (y % 4294967296) : Nat) : Int) := by
    rw [show IntKind.u64.wrap ((y : Int) * 4294967296) = ((y : Int) * 4294967296) % 18446744073709551616 by simp [IntKind.wrap, IntKind.bits, IntKind.signed]]
    omega
  rw [e, u64_or_nat _ _ (by omega) (by omega), ← Nat.two_pow_add_eq_or_of_lt (by omega), wrap64_of _ (by omega) (by omega)]
  omega

section
variable {mb db base bm bi : Nat} {ts : List Int} {ov : Value} {l : List Int} {st k : Int} {iv : Value} {I : List Int} {pc : Int} {i : LIns} {w : World}

theorem giv1 (hb : Box mb db bm bi i w) (hn0 : 0 ≤ i.n) (hn1 : i.n < 4294967296) :
    Calls Try.prog 47 #[.pointer (some ⟨bi, 0, none⟩)] w fun e w' => e = .returned (.int .u64 i.n) ∧ Below w.heap.size w w' := by
  have c5 := hb.i5
  have e5 := wrap64_of i.n hn0 (by omega)
  clear hb
  go_enter Try.func47, Try.ntmps47
  go_wp2
  go_ret
  exact ⟨rfl, Below.refl _ _⟩

theorem giv2 (hb : Box mb db bm bi i w) (hm : MS mb base ts ov l st k iv I pc w) (ha0 : 0 ≤ i.a) (ha1 : i.a < 12) :
    Calls Try.prog 48 #[.pointer (some ⟨bm, 0, none⟩), .pointer (some ⟨bi, 0, none⟩)] w fun e w' => e = .returned (.int .u64 (ts.getD i.a.toNat 0)) ∧ Below w.heap.size w w' := by
  have cm := hb.pm
  have c2 := hb.i2
  have ca := hm.ctemp i.a.toNat (by omega)
  obtain ⟨a, ha⟩ : ∃ a, a = ts.getD i.a.toNat 0 := ⟨_, rfl⟩
  rw [← ha] at ca ⊢
  clear hb hm ha
  go_enter Try.func48, Try.ntmps48
  go_wp2
  go_quiet (fail)
  go_wp2
  go_ret
  exact ⟨rfl, below_drewN (Below.refl _ _) _⟩

theorem takeIn (hm : MS mb base ts ov l st k iv I pc w) :
    Calls Try.prog 50 #[.pointer (some ⟨mb, 0, none⟩)] w fun e w' => e = .returned (.int .u32 (I.headD 0)) ∧ (∃ iv', MS mb base ts ov l st k iv' I.tail pc w') ∧ Ran mb base w w' := by
  have HM : Hid (MS mb base ts ov l st k iv I pc w) := hm
  obtain ⟨ai, cap, rfl, hcap, h40, hbd, hc⟩ := hm.ins
  have ci := hm.civ
  have fz := hm.fz 15
  have hlt := hm.lt
  have hsz := hm.sz
  clear hm
  cases I with
  | nil =>
    clear hc hbd
    go_enter Try.func50, Try.ntmps50
    go_wp2
    go_ret
    exact ⟨rfl, ⟨_, HM.out⟩, Ran.refl _ _ _⟩
  | cons x R =>
    obtain ⟨b, o, rfl, hb1, hb2, hcell⟩ := hc (by simp)
    have c0 := hcell 0 (by simp)
    have HC : Hid _ := hcell
    have HBD : Hid _ := hbd
    simp at c0
    clear hc hcell hbd
    go_enter Try.func50, Try.ntmps50
    go_wp2
    all_goals
      go_ret
      refine ⟨rfl, ⟨_, HM.out.setIns ?_⟩, (Ran.refl _ _ _).set _ _⟩
    · refine ⟨_, 0, rfl, by simp at hcap; omega, by simp at h40; omega, fun j hj => by simp at hcap; omega, fun h0 => by simp at hcap; omega⟩
    · refine ⟨_, cap - 1, rfl, by simp at hcap; omega, by simp at h40; omega, fun j hj => ?_, fun h0 => ⟨b, o + 1, rfl, hb1, hb2, fun j hj => ?_⟩⟩
      · have := HBD.out (j + 1) (by simp; omega)
        simpa using this
      · have := HC.out (j + 1) (by simp; omega)
        rw [show o + 1 + j = o + (j + 1) by omega]
        simpa using this

theorem giv3 (hb : Box mb db bm bi i w) (hm : MS mb base ts ov l st k iv I pc w) :
    Calls Try.prog 49 #[.pointer (some ⟨bm, 0, none⟩)] w fun e w' => e = .returned (.int .u64 (I.headD 0)) ∧ (∃ iv', MS mb base ts ov l st k iv' I.tail pc w') ∧ Ran mb base w w' := by
  have cm := hb.pm
  have HM : Hid (MS mb base ts ov l st k iv I pc w) := hm
  obtain ⟨x, hx⟩ : ∃ x, x = I.headD 0 := ⟨_, rfl⟩
  have hx2 : 0 ≤ x ∧ x < 4294967296 := by
    obtain ⟨ai, cap, -, -, -, hbd, -⟩ := hm.ins
    cases I with
    | nil => subst hx; simp
    | cons y R => have := hbd 0 (by simp); subst hx; simpa using this
  have e5 := wrap64_of x hx2.1 (by omega)
  have HX : Hid (x = I.headD 0) := hx
  rw [← hx]
  clear hm hb hx hx2
  go_enter Try.func49, Try.ntmps49
  go_wp2_with (go_at_call 50; refine (takeIn HM.out).mono ?_; rw [← HX.out]; rintro e w1 ⟨rfl, hr1, hr2⟩)
  go_ret
  exact ⟨rfl, hr1, hr2⟩

theorem giv4 (hb : Box mb db bm bi i w) (hm : MS mb base ts ov l st k iv I pc w) (ha0 : 0 ≤ i.a) (ha1 : i.a < 12) (hb0 : 0 ≤ i.b) (hb1 : i.b < 12) (hn : ts.getD i.a.toNat 0 < 4294967296) :
    Calls Try.prog 51 #[.pointer (some ⟨bm, 0, none⟩), .pointer (some ⟨bi, 0, none⟩)] w fun e w' => e = .returned (.int .u64 (IntKind.u64.wrap (IntKind.u64.wrap (ts.getD i.b.toNat 0 * 4294967296) + ts.getD i.a.toNat 0))) ∧ Below w.heap.size w w' := by
  have cm := hb.pm
  have c0 := hb.i0
  have c2 := hb.i2
  have c3 := hb.i3
  have ca := hm.ctemp i.a.toNat (by omega)
  have ua := hm.bd i.a.toNat
  have cb := hm.ctemp i.b.toNat (by omega)
  have ub := hm.bd i.b.toNat
  clear hb hm
  generalize ts.getD i.a.toNat 0 = a at *
  generalize ts.getD i.b.toNat 0 = b at *
  go_enter Try.func51, Try.ntmps51
  go_wp2
  go_quiet (fail)
  go_wp2
  go_ret
  exact ⟨ret_int (pair_of a b ua.1 hn ub), below_drewN (Below.refl _ _) _⟩

theorem giv5 (hb : Box mb db bm bi i w) (hm : MS mb base ts ov l st k iv I pc w) (ha0 : 0 ≤ i.a) (ha1 : i.a < 12) :
    Calls Try.prog 52 #[.pointer (some ⟨bm, 0, none⟩), .pointer (some ⟨bi, 0, none⟩)] w fun e w' => e = .returned (.int .u64 (ts.getD i.a.toNat 0 % 4294967296)) ∧ Below w.heap.size w w' := by
  have cm := hb.pm
  have c0 := hb.i0
  have c2 := hb.i2
  have c3 := hb.i3
  have ca := hm.ctemp i.a.toNat (by omega)
  have ua := hm.bd i.a.toNat
  clear hb hm
  generalize ts.getD i.a.toNat 0 = a at *
  go_enter Try.func52, Try.ntmps52
  go_wp2
  go_quiet (fail)
  go_wp2
  go_ret
  exact ⟨rfl, below_drewN (Below.refl _ _) _⟩

theorem giv6 (hb : Box mb db bm bi i w) (hm : MS mb base ts ov l st k iv I pc w) (ha0 : 0 ≤ i.a) (ha1 : i.a < 12) :
    Calls Try.prog 53 #[.pointer (some ⟨bm, 0, none⟩), .pointer (some ⟨bi, 0, none⟩)] w fun e w' => e = .returned (.int .u64 (ts.getD i.a.toNat 0 / 4294967296)) ∧ Below w.heap.size w w' := by
  have cm := hb.pm
  have c0 := hb.i0
  have c2 := hb.i2
  have c3 := hb.i3
  have ca := hm.ctemp i.a.toNat (by omega)
  have ua := hm.bd i.a.toNat
  clear hb hm
  generalize ts.getD i.a.toNat 0 = a at *
  go_enter Try.func53, Try.ntmps53
  go_wp2
  go_quiet (fail)
  go_wp2
  go_ret
  exact ⟨rfl, below_drewN (Below.refl _ _) _⟩

theorem giv7 (hb : Box mb db bm bi i w) (hm : MS mb base ts ov l st k iv I pc w) (ha0 : 0 ≤ i.a) (ha1 : i.a < 12) (hb0 : 0 ≤ i.b) (hb1 : i.b < 12) (ho0 : 1 ≤ i.op) (ho1 : i.op ≤ 45) :
    Calls Try.prog 54 #[.pointer (some ⟨bi, 0, none⟩), .pointer (some ⟨bm, 0, none⟩)] w fun e w' => e = .returned (.int .u64 (opR .u64 (i.op - 40) (ts.getD i.a.toNat 0) (ts.getD i.b.toNat 0))) ∧ Below w.heap.size w w' := by
  have cm := hb.pm
  have c0 := hb.i0
  have c2 := hb.i2
  have c3 := hb.i3
  have ca := hm.ctemp i.a.toNat (by omega)
  have ua := hm.bd i.a.toNat
  have cb := hm.ctemp i.b.toNat (by omega)
  have ub := hm.bd i.b.toNat
  clear hb hm
  generalize ts.getD i.a.toNat 0 = a at *
  generalize ts.getD i.b.toNat 0 = b at *
  go_enter Try.func54, Try.ntmps54
  go_wp2
  go_quiet ((go_at_call 9; exact Calls.quiet_of_same (wide _ _ _ _)))
  go_wp2
  go_ret
  exact ⟨rfl, below_drewN (Below.refl _ _) _⟩

theorem giv8 (hb : Box mb db bm bi i w) (hm : MS mb base ts ov l st k iv I pc w) (ha0 : 0 ≤ i.a) (ha1 : i.a < 12) (hb0 : 0 ≤ i.b) (hb1 : i.b < 12) (ho0 : 1 ≤ i.op) (ho1 : i.op ≤ 45) :
    Calls Try.prog 55 #[.pointer (some ⟨bi, 0, none⟩), .pointer (some ⟨bm, 0, none⟩)] w fun e w' => e = .returned (.int .u64 (opR .u32 (i.op - 20) (ts.getD i.a.toNat 0 % 4294967296) (ts.getD i.b.toNat 0 % 4294967296))) ∧ Below w.heap.size w w' := by
  have cm := hb.pm
  have c0 := hb.i0
  have c2 := hb.i2
  have c3 := hb.i3
  have ca := hm.ctemp i.a.toNat (by omega)
  have ua := hm.bd i.a.toNat
  have cb := hm.ctemp i.b.toNat (by omega)
  have ub := hm.bd i.b.toNat
  clear hb hm
  generalize ts.getD i.a.toNat 0 = a at *
  generalize ts.getD i.b.toNat 0 = b at *
  have ob := opR_u32_bd (i.op - 20) a b
  have oe := wrap64_of _ ob.1 (by omega)
  go_enter Try.func55, Try.ntmps55
  go_wp2
  go_quiet ((go_at_call 8; exact Calls.quiet_of_same (narrow _ _ _ _)))
  go_wp2
  go_ret
  exact ⟨rfl, below_drewN (Below.refl _ _) _⟩

/-- What a closure gives, whenever it is called. -/
def GiveSpec (mb db : Nat) (i : LIns) (w1 : World) (g : Value) : Prop := ∃ F caps, g = .func (.func F) #[] caps ∧ (∀ w, Sem.run Try.prog (callFunc F caps) w = .ok (.enter F caps) w) ∧ ∀ base ts ov l st k iv I pc w, Kept mb db w1 w → MS mb base ts ov l st k iv I pc w →
  (i.op = 5 → ts.getD i.a.toNat 0 < 4294967296) → Calls Try.prog F caps w fun e w' =>
    e = .returned (.int .u64 (gvI i (ts.getD i.a.toNat 0) (ts.getD i.b.toNat 0) (I.headD 0))) ∧ (∃ iv', MS mb base ts ov l st k iv' (if i.op = 3 then I.tail else I) pc w') ∧ Ran mb base w w'
end
end Go.Proofs.Ythnhpjhjaamanaa.form
