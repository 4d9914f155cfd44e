/- What the closures give of what their ends tell. -/
import Derived.Test.YtolhnlbgohobkaaRunGive
namespace Go.Proofs.Ytolhnlbgohobkaa.form
open Go.RowKit Go.Proofs.Ytolhnlbgohobkaa.num
set_option linter.unusedVariables false
set_option maxRecDepth 100000
attribute [local go_sem ↓] Go.wp_at_zero Go.wp_at_succ

/-- A closure that tells a number, in this world and where nothing of it has turned. -/
structure RdAt (w : World) (F : Nat) (caps : Array Value) (a : Int) : Prop where
  ent : ∀ w, Sem.run Try.prog (callFunc F caps) w = .ok (.enter F caps) w
  bd : U64i a
  call : ∀ w2, Below w.heap.size w w2 → Calls Try.prog F caps w2 fun e w' => e = .returned (.int .u64 a) ∧ Below w2.heap.size w2 w'

theorem ReadSpec.rd {K : StoK} {mb sb db base : Nat} {w1 w : World} {F : Nat} {caps : Array Value} {rd : K.S → Int} {s : K.S} {ov : Value} {l : List Int} {st k : Int} {iv : Value} {I : List Int} {pc : Int}
    (h : ReadSpec K mb sb db w1 F caps rd) (hk : Kept mb sb db w1 w) (hz : w1.heap.size ≤ w.heap.size) (hm : MS K mb sb base s ov l st k iv I pc w) : RdAt w F caps (rd s) :=
  ⟨h.1, h.2.1 s hm.ok, fun w2 hb => h.2.2 s w2 (hk.thenBelow hz hb) (Nat.le_trans hz hb.size) (hm.sto.below hb) hm.ok⟩

section
variable {mb sb db bm bi be : Nat} {i : LIns} {x : EndF} {w : World} {a b : Int}

theorem giv3 (hb : Box mb sb db bm bi be i x w) (hA : RdAt w x.fa x.ca a) (hB : RdAt w x.fb x.cb b) (hn : a < 4294967296) :
    Calls Try.prog 112 #[.pointer (some ⟨be, 0, none⟩)] w fun e w' => e = .returned (.int .u64 (IntKind.u64.wrap (IntKind.u64.wrap (b * 4294967296) + a))) ∧ Below w.heap.size w w' := by
  have c0 := hb.e0
  have c1 := hb.e1
  have ua := hA.bd
  have ub := hB.bd
  have enA := hA.ent
  have enB := hB.ent
  have HA : Hid _ := hA.call
  have HB : Hid _ := hB.call
  have HE : Hid (bits BinOp.or IntKind.u64 (IntKind.u64.wrap (b * 4294967296)) a = IntKind.u64.wrap (IntKind.u64.wrap (b * 4294967296) + a)) := pair_of a b ua.1 hn ub
  clear hb hA hB ua ub
  go_enter Try.func112, Try.ntmps112
  go_wp2
  go_region_held3 (fun w' => Below w.heap.size w w' ∧ w'.cell? ⟨be, 0, none⟩ = some (.func (.func x.fa) #[] x.ca) ∧ w'.cell? ⟨be, 1, none⟩ = some (.func (.func x.fb) #[] x.cb))
    ((go_split_ands; refine ⟨?_, ?_, ?_⟩ <;> first | exact step_below hbc (by assumption) | exact step_cell hbc (by assumption) | exact (Below.refl _ _).drew | (go_keep; done) | assumption))
    (first
      | (refine (HB.out _ ?_).mono ?_; (go_split_ands; first | assumption | exact (Below.refl _ _).drew); rintro e w1 ⟨rfl, hbc⟩)
      | (refine (HA.out _ ?_).mono ?_; (go_split_ands; first | assumption | exact (Below.refl _ _).drew); rintro e w1 ⟨rfl, hbc⟩))
  go_wp2
  go_ret
  exact ⟨ret_int HE.out, by (go_split_ands; assumption)⟩

theorem giv4 (hb : Box mb sb db bm bi be i x w) (hA : RdAt w x.fa x.ca a) :
    Calls Try.prog 113 #[.pointer (some ⟨be, 0, none⟩)] w fun e w' => e = .returned (.int .u64 (a % 4294967296)) ∧ Below w.heap.size w w' := by
  have c0 := hb.e0
  have ua := hA.bd
  have enA := hA.ent
  have HA : Hid _ := hA.call
  clear hb hA
  go_enter Try.func113, Try.ntmps113
  go_wp2_with fail
  refine (HA.out _ (Below.refl _ _)).mono ?_
  rintro e w1 ⟨rfl, hbc⟩
  go_wp2
  go_ret
  exact ⟨rfl, hbc⟩

theorem giv5 (hb : Box mb sb db bm bi be i x w) (hA : RdAt w x.fa x.ca a) :
    Calls Try.prog 114 #[.pointer (some ⟨be, 0, none⟩)] w fun e w' => e = .returned (.int .u64 (a / 4294967296)) ∧ Below w.heap.size w w' := by
  have c0 := hb.e0
  have ua := hA.bd
  have enA := hA.ent
  have HA : Hid _ := hA.call
  clear hb hA
  go_enter Try.func114, Try.ntmps114
  go_wp2_with fail
  refine (HA.out _ (Below.refl _ _)).mono ?_
  rintro e w1 ⟨rfl, hbc⟩
  go_wp2
  go_ret
  exact ⟨rfl, hbc⟩

theorem wrapI_of (x : Int) (h0 : -9223372036854775808 ≤ x) (h1 : x ≤ 9223372036854775807) : IntKind.i64.wrap x = x := by
  simp [IntKind.wrap, IntKind.bits, IntKind.signed]
  split <;> omega
theorem u32_wrap (x : Int) : IntKind.u32.wrap x = x % 4294967296 := by simp [IntKind.wrap, IntKind.bits, IntKind.signed]

theorem giv6 (hb : Box mb sb db bm bi be i x w) (hA : RdAt w x.fa x.ca a) (hB : RdAt w x.fb x.cb b) (ho0 : 1 ≤ i.op) (ho1 : i.op ≤ 45) :
    Calls Try.prog 115 #[.pointer (some ⟨bi, 0, none⟩), .pointer (some ⟨be, 0, none⟩)] w fun e w' => e = .returned (.int .u64 (opR .u64 (i.op - 40) a b)) ∧ Below w.heap.size w w' := by
  have c0 := hb.e0
  have c1 := hb.e1
  have ci := hb.i0
  have ua := hA.bd
  have ub := hB.bd
  have enA := hA.ent
  have enB := hB.ent
  have HA : Hid _ := hA.call
  have HB : Hid _ := hB.call
  have HW : Hid (IntKind.i64.wrap (i.op - 40) = i.op - 40) := wrapI_of _ (by omega) (by omega)
  clear hb hA hB
  go_enter Try.func115, Try.ntmps115
  go_wp2
  go_region_held3 (fun w' => Below w.heap.size w w' ∧ w'.cell? ⟨be, 0, none⟩ = some (.func (.func x.fa) #[] x.ca) ∧ w'.cell? ⟨be, 1, none⟩ = some (.func (.func x.fb) #[] x.cb) ∧ w'.cell? ⟨bi, 0, none⟩ = some (.int .i64 i.op))
    ((go_split_ands; refine ⟨?_, ?_, ?_, ?_⟩ <;> first | exact step_below hbc (by assumption) | exact step_cell hbc (by assumption) | exact (Below.refl _ _).drew | (go_keep; done) | assumption))
    (first
      | (refine (HB.out _ ?_).mono ?_; (go_split_ands; first | assumption | exact (Below.refl _ _).drew); rintro e w1 ⟨rfl, hbc⟩)
      | (refine (HA.out _ ?_).mono ?_; (go_split_ands; first | assumption | exact (Below.refl _ _).drew); rintro e w1 ⟨rfl, hbc⟩)
      | (go_at_call 15; refine (wide _ _ _ _).mono ?_; rintro e w1 ⟨rfl, hw1⟩; subst hw1; have hbc := Below.refl w1.heap.size w1))
  go_wp2
  go_ret
  exact ⟨ret_int (by rw [HW.out]), by (go_split_ands; assumption)⟩

theorem giv7 (hb : Box mb sb db bm bi be i x w) (hA : RdAt w x.fa x.ca a) (hB : RdAt w x.fb x.cb b) (ho0 : 1 ≤ i.op) (ho1 : i.op ≤ 45) :
    Calls Try.prog 116 #[.pointer (some ⟨bi, 0, none⟩), .pointer (some ⟨be, 0, none⟩)] w fun e w' => e = .returned (.int .u64 (opR .u32 (i.op - 20) (a % 4294967296) (b % 4294967296))) ∧ Below w.heap.size w w' := by
  have c0 := hb.e0
  have c1 := hb.e1
  have ci := hb.i0
  have ua := hA.bd
  have ub := hB.bd
  have enA := hA.ent
  have enB := hB.ent
  have HA : Hid _ := hA.call
  have HB : Hid _ := hB.call
  have ob := opR_u32_bd (i.op - 20) a b
  have HO : Hid (IntKind.u64.wrap (opR .u32 (i.op - 20) (a % 4294967296) (b % 4294967296)) = opR .u32 (i.op - 20) (a % 4294967296) (b % 4294967296)) := wrap64_of _ ob.1 (by omega)
  have HW : Hid (IntKind.i64.wrap (i.op - 20) = i.op - 20) := wrapI_of _ (by omega) (by omega)
  clear hb hA hB ob
  go_enter Try.func116, Try.ntmps116
  go_wp2
  go_region_held3 (fun w' => Below w.heap.size w w' ∧ w'.cell? ⟨be, 0, none⟩ = some (.func (.func x.fa) #[] x.ca) ∧ w'.cell? ⟨be, 1, none⟩ = some (.func (.func x.fb) #[] x.cb) ∧ w'.cell? ⟨bi, 0, none⟩ = some (.int .i64 i.op))
    ((go_split_ands; refine ⟨?_, ?_, ?_, ?_⟩ <;> first | exact step_below hbc (by assumption) | exact step_cell hbc (by assumption) | exact (Below.refl _ _).drew | (go_keep; done) | assumption))
    (first
      | (refine (HB.out _ ?_).mono ?_; (go_split_ands; first | assumption | exact (Below.refl _ _).drew); rintro e w1 ⟨rfl, hbc⟩)
      | (refine (HA.out _ ?_).mono ?_; (go_split_ands; first | assumption | exact (Below.refl _ _).drew); rintro e w1 ⟨rfl, hbc⟩)
      | (go_at_call 14; refine (narrow _ _ _ _).mono ?_; rintro e w1 ⟨rfl, hw1⟩; subst hw1; have hbc := Below.refl w1.heap.size w1))
  go_wp2
  go_ret
  exact ⟨ret_int (by rw [HW.out, u32_wrap, u32_wrap, HO.out]), by (go_split_ands; assumption)⟩
end
end Go.Proofs.Ytolhnlbgohobkaa.form
