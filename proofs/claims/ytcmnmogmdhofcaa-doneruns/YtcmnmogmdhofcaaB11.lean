/- What the closures give of what their ends tell. -/
import Derived.BigRegion
import Derived.Laws.EntriesVeiled
import Derived.Test.YtcmnmogmdhofcaaB10

namespace Go.Proofs.Ytcmnmogmdhofcaa.form
open Go.RowKit Go.Proofs.Ytcmnmogmdhofcaa.num
set_option linter.unusedVariables false
set_option maxRecDepth 100000
attribute [local go_sem ↓] Go.wp_at_zero Go.wp_at_succ

/-- A closure that tells a number, in this world and where nothing of it has turned. -/
structure RdAt (w : World) (F : Nat) (caps : Array Value) (a : Int) : Prop where
  ent : ∀ w, Sem.run Try.prog (callFunc F caps) w = .ok (.enter F caps) w
  bd : U64i a
  call : ∀ w2, Below w.heap.size w w2 → Calls Try.prog F caps w2 fun e w' => e = .returned (.int .u64 a) ∧ Below w2.heap.size w2 w'

theorem ReadSpec.rd {K : StoK} {mb sb db base : Nat} {w1 w : World} {F : Nat} {caps : Array Value} {rd : K.S → Int} {s : K.S} {ov : Value} {l : List Int} {st k : Int} {iv : Value} {I : List Int} {pc : Int}
    (h : ReadSpec K mb sb db w1 F caps rd) (hk : Kept mb sb db w1 w) (hz : w1.heap.size ≤ w.heap.size) (hm : MS K mb sb base s ov l st k iv I pc w) : RdAt w F caps (rd s) :=
  ⟨h.1, h.2.1 s hm.ok, fun w2 hb => h.2.2 s w2 (hk.thenBelow hz hb) (Nat.le_trans hz hb.size) (hm.sto.below hb) hm.ok⟩

section
variable {mb sb db bm bi be : Nat} {i : LIns} {x : EndF} {w : World} {a b : Int}

theorem giv3 (hb : Box mb sb db bm bi be i x w) (hA : RdAt w x.fa x.ca a) (hB : RdAt w x.fb x.cb b) (hn : a < 4294967296) :
    Calls Try.prog 113 #[.pointer (some ⟨be, 0, none⟩)] w fun e w' => e = .returned (.int .u64 (IntKind.u64.wrap (IntKind.u64.wrap (b * 4294967296) + a))) ∧ Below w.heap.size w w' := by
  have c0 := hb.e0
  have c1 := hb.e1
  have ua := hA.bd
  have ub := hB.bd
  have enA := hA.ent
  have enB := hB.ent
  have HA : Hid _ := hA.call
  have HB : Hid _ := hB.call
  have HE : Hid (bits BinOp.or IntKind.u64 (IntKind.u64.wrap (b * 4294967296)) a = IntKind.u64.wrap (IntKind.u64.wrap (b * 4294967296) + a)) := pair_of a b ua.1 hn ub
  clear hb hA hB ua ub
  go_enter Try.func113, Try.ntmps113
  go_wp2
  go_region_held3 (fun w' => Below w.heap.size w w' ∧ w'.cell? ⟨be, 0, none⟩ = some (.func (.func x.fa) #[] x.ca) ∧ w'.cell? ⟨be, 1, none⟩ = some (.func (.func x.fb) #[] x.cb))
    ((go_split_ands; refine ⟨?_, ?_, ?_⟩ <;> first | exact step_below hbc (by assumption) | exact step_cell hbc (by assumption) | exact (Below.refl _ _).drew | (go_keep; done) | assumption))
    (first
      | (refine (HB.out _ ?_).mono ?_; (go_split_ands; first | assumption | exact (Below.refl _ _).drew); rintro e w1 ⟨rfl, hbc⟩)
      | (refine (HA.out _ ?_).mono ?_; (go_split_ands; first | assumption | exact (Below.refl _ _).drew); rintro e w1 ⟨rfl, hbc⟩))
  go_wp2
  go_ret
  exact ⟨ret_int HE.out, by (go_split_ands; assumption)⟩

theorem giv4 (hb : Box mb sb db bm bi be i x w) (hA : RdAt w x.fa x.ca a) :
    Calls Try.prog 114 #[.pointer (some ⟨be, 0, none⟩)] w fun e w' => e = .returned (.int .u64 (a % 4294967296)) ∧ Below w.heap.size w w' := by
  have c0 := hb.e0
  have ua := hA.bd
  have enA := hA.ent
  have HA : Hid _ := hA.call
  clear hb hA
  go_enter Try.func114, Try.ntmps114
  go_wp2_with fail
  refine (HA.out _ (Below.refl _ _)).mono ?_
  rintro e w1 ⟨rfl, hbc⟩
  go_wp2
  go_ret
  exact ⟨rfl, hbc⟩

theorem giv5 (hb : Box mb sb db bm bi be i x w) (hA : RdAt w x.fa x.ca a) :
    Calls Try.prog 115 #[.pointer (some ⟨be, 0, none⟩)] w fun e w' => e = .returned (.int .u64 (a / 4294967296)) ∧ Below w.heap.size w w' := by
  have c0 := hb.e0
  have ua := hA.bd
  have enA := hA.ent
  have HA : Hid _ := hA.call
  clear hb hA
  go_enter Try.func115, Try.ntmps115
  go_wp2_with fail
  refine (HA.out _ (Below.refl _ _)).mono ?_
  rintro e w1 ⟨rfl, hbc⟩
  go_wp2
  go_ret
  exact ⟨rfl, hbc⟩

theorem wrapI_of (x : Int) (h0 : -9223372036854775808 ≤ x) (h1 : x ≤ 9223372036854775807) : IntKind.i64.wrap x = x := by
  simp [IntKind.wrap, IntKind.bits, IntKind.signed]
  split <;> omega
theorem u32_wrap (x : Int) : IntKind.u32.wrap x = x % 4294967296 := by simp [IntKind.wrap, IntKind.bits, IntKind.signed]

theorem giv6 (hb : Box mb sb db bm bi be i x w) (hA : RdAt w x.fa x.ca a) (hB : RdAt w x.fb x.cb b) (ho0 : 1 ≤ i.op) (ho1 : i.op ≤ 45) :
    Calls Try.prog 116 #[.pointer (some ⟨bi, 0, none⟩), .pointer (some ⟨be, 0, none⟩)] w fun e w' => e = .returned (.int .u64 (opR .u64 (i.op - 40) a b)) ∧ Below w.heap.size w w' := by
  have c0 := hb.e0
  have c1 := hb.e1
  have ci := hb.i0
  have ua := hA.bd
  have ub := hB.bd
  have enA := hA.ent
  have enB := hB.ent
  have HA : Hid _ := hA.call
  have HB : Hid _ := hB.call
  have HW : Hid (IntKind.i64.wrap (i.op - 40) = i.op - 40) := wrapI_of _ (by omega) (by omega)
  clear hb hA hB
  go_enter Try.func116, Try.ntmps116
  go_wp2
  go_region_held3 (fun w' => Below w.heap.size w w' ∧ w'.cell? ⟨be, 0, none⟩ = some (.func (.func x.fa) #[] x.ca) ∧ w'.cell? ⟨be, 1, none⟩ = some (.func (.func x.fb) #[] x.cb) ∧ w'.cell? ⟨bi, 0, none⟩ = some (.int .i64 i.op))
    ((go_split_ands; refine ⟨?_, ?_, ?_, ?_⟩ <;> first | exact step_below hbc (by assumption) | exact step_cell hbc (by assumption) | exact (Below.refl _ _).drew | (go_keep; done) | assumption))
    (first
      | (refine (HB.out _ ?_).mono ?_; (go_split_ands; first | assumption | exact (Below.refl _ _).drew); rintro e w1 ⟨rfl, hbc⟩)
      | (refine (HA.out _ ?_).mono ?_; (go_split_ands; first | assumption | exact (Below.refl _ _).drew); rintro e w1 ⟨rfl, hbc⟩)
      | (go_at_call 15; refine (wide _ _ _ _).mono ?_; rintro e w1 ⟨rfl, hw1⟩; subst hw1; have hbc := Below.refl w1.heap.size w1))
  go_wp2
  go_ret
  exact ⟨ret_int (by rw [HW.out]), by (go_split_ands; assumption)⟩

theorem giv7 (hb : Box mb sb db bm bi be i x w) (hA : RdAt w x.fa x.ca a) (hB : RdAt w x.fb x.cb b) (ho0 : 1 ≤ i.op) (ho1 : i.op ≤ 45) :
    Calls Try.prog 117 #[.pointer (some ⟨bi, 0, none⟩), .pointer (some ⟨be, 0, none⟩)] w fun e w' => e = .returned (.int .u64 (opR .u32 (i.op - 20) (a % 4294967296) (b % 4294967296))) ∧ Below w.heap.size w w' := by
  have c0 := hb.e0
  have c1 := hb.e1
  have ci := hb.i0
  have ua := hA.bd
  have ub := hB.bd
  have enA := hA.ent
  have enB := hB.ent
  have HA : Hid _ := hA.call
  have HB : Hid _ := hB.call
  have ob := opR_u32_bd (i.op - 20) a b
  have HO : Hid (IntKind.u64.wrap (opR .u32 (i.op - 20) (a % 4294967296) (b % 4294967296)) = opR .u32 (i.op - 20) (a % 4294967296) (b % 4294967296)) := wrap64_of _ ob.1 (by omega)
  have HW : Hid (IntKind.i64.wrap (i.op - 20) = i.op - 20) := wrapI_of _ (by omega) (by omega)
  clear hb hA hB ob
  go_enter Try.func117, Try.ntmps117
  go_wp2
  go_region_held3 (fun w' => Below w.heap.size w w' ∧ w'.cell? ⟨be, 0, none⟩ = some (.func (.func x.fa) #[] x.ca) ∧ w'.cell? ⟨be, 1, none⟩ = some (.func (.func x.fb) #[] x.cb) ∧ w'.cell? ⟨bi, 0, none⟩ = some (.int .i64 i.op))
    ((go_split_ands; refine ⟨?_, ?_, ?_, ?_⟩ <;> first | exact step_below hbc (by assumption) | exact step_cell hbc (by assumption) | exact (Below.refl _ _).drew | (go_keep; done) | assumption))
    (first
      | (refine (HB.out _ ?_).mono ?_; (go_split_ands; first | assumption | exact (Below.refl _ _).drew); rintro e w1 ⟨rfl, hbc⟩)
      | (refine (HA.out _ ?_).mono ?_; (go_split_ands; first | assumption | exact (Below.refl _ _).drew); rintro e w1 ⟨rfl, hbc⟩)
      | (go_at_call 14; refine (narrow _ _ _ _).mono ?_; rintro e w1 ⟨rfl, hw1⟩; subst hw1; have hbc := Below.refl w1.heap.size w1))
  go_wp2
  go_ret
  exact ⟨ret_int (by rw [HW.out, u32_wrap, u32_wrap, HO.out]), by (go_split_ands; assumption)⟩
end
end Go.Proofs.Ytcmnmogmdhofcaa.form

/- What becomes of a place in the program's own store (package done): become, move, moveAll. -/
namespace Go.Proofs.Ytcmnmogmdhofcaa.form
open Go.RowKit Go.Proofs.Ytcmnmogmdhofcaa.num
set_option linter.unusedVariables false
set_option maxRecDepth 100000
attribute [local go_sem ↓] Go.wp_at_zero Go.wp_at_succ

section
variable {ns nl sb : Nat} {st : Sto} {w : World}

theorem Only.drew {w' : World} (h : Only sb w w') : Only sb w w'.drew := h.trans (Only.of_below (Below.refl _ _).drew)
theorem Only.alloc {w' : World} (h : Only sb w w') (o : Obj) : Only sb w (w'.alloc o) := h.trans (Only.of_below ((Below.refl _ _).alloc (Nat.le_refl _) _))

set_option maxHeartbeats 1000000 in
theorem becomeO (p : LPlace) (v : Int) (h : Row w sb 113 (stoE st)) (hs : StoAt ns nl st) (hp : PlIs ns nl p) (hv : U64i v) :
    Calls Try.prog 107 #[.pointer (some ⟨sb, 0, none⟩), p.val, .int .u64 v] w fun e w' => e = .returned (.tuple #[]) ∧ Row w' sb 113 (stoE (putP st p v)) ∧ Only sb w w' := by
  have ho := hs.ok
  have hx := h.lt
  have n1 : (st.sing.length : Int) ≤ 16 := by have := ho.n1; omega
  have n2 : (st.slot.length : Int) ≤ 12 := by have := ho.n2; omega
  have q1 : sb ≠ w.heap.size := by omega
  obtain ⟨WA, hWA⟩ : ∃ WA, WA = w.alloc (.cells #[.int .i64 p.kind, .int .i64 p.n] 57) := ⟨_, rfl⟩
  have hA : Row WA sb 113 (stoE st) := by rw [hWA]; exact h.alloc _
  have HOA : Hid (Only sb w WA) := by rw [hWA]; exact (Only.refl _ _).alloc _
  have k0 : WA.cell? ⟨w.heap.size, 0, none⟩ = some (.int .i64 p.kind) := by rw [hWA]; simp [go_sem]
  have k9 : WA.cell? ⟨w.heap.size, 1, none⟩ = some (.int .i64 p.n) := by rw [hWA]; simp [go_sem]
  unfold LPlace.val
  rcases pl_is_cases hs hp with ⟨e1, e2, e3⟩ | ⟨e1, e2, e3⟩ | ⟨e1, e2, e3⟩ | e1
  · have c0 := sing_at hA ho (show p.n.toNat < st.sing.length by omega)
    have fz := hA.frozen p.n.toNat
    have HR : Hid (Row (WA.setCell ⟨sb, p.n.toNat, none⟩ (.int .u32 (v % 4294967296))) sb 113 (stoE (putP st p v))) := by
      have := sing_set hA ho (show p.n.toNat < st.sing.length by omega) (v % 4294967296)
      rw [← put_one e1] at this
      exact this
    have k1 : (p.kind == 1) = true := by simp [e1]
    have y1 : p.n < 16 := by omega
    clear e1 h hs hp ho hA
    go_enter Try.func107, Try.ntmps107
    go_upto_region 1 with fail
    rw [← hWA]
    clear hWA
    go_wp2
    go_region_held3 (fun w' => w'.cell? ⟨w.heap.size, 1, none⟩ = some (.int .i64 p.n))
      ((first | assumption | exact cell_other (by assumption) (Ne.symm q1) | (go_keep; done)))
      (fail)
    go_wp2
    go_end0
    exact ⟨rfl, HR.out, (HOA.out.set _ _).drew⟩
  · have c0 := sing_at hA ho (show (2 * p.n).toNat < st.sing.length by omega)
    have c1 := sing_at hA ho (show (2 * p.n + 1).toNat < st.sing.length by omega)
    have hA1 := sing_set hA ho (show (2 * p.n).toNat < st.sing.length by omega) (v % 4294967296)
    have ho1 : StoOk ⟨st.sing.set (2 * p.n).toNat (v % 4294967296), st.slot⟩ := ⟨set_u32 ho.s0 (by omega) (by omega), ho.l0, by simpa using ho.n1, ho.n2, by simpa using ho.ev⟩
    have c2 := sing_at hA1 ho1 (j := (2 * p.n + 1).toNat) (by simp; omega)
    have f0 := hA.frozen (2 * p.n).toNat
    have f1 := hA.frozen (2 * p.n + 1).toNat
    have f2 := hA1.frozen (2 * p.n + 1).toNat
    have HH : v / 4294967296 % 4294967296 = v / 4294967296 := by have := hv.1; have := hv.2; omega
    have HR : Hid (Row ((WA.setCell ⟨sb, (2 * p.n).toNat, none⟩ (.int .u32 (v % 4294967296))).setCell ⟨sb, (2 * p.n + 1).toNat, none⟩ (.int .u32 (v / 4294967296 % 4294967296))) sb 113 (stoE (putP st p v))) := by
      have := sing_set hA1 ho1 (j := (2 * p.n + 1).toNat) (by simp; omega) (v / 4294967296)
      rw [put_two e1, HH]
      exact this
    have k1 : (p.kind == 1) = false := by simp [e1]
    have k2 : (p.kind == 2) = true := by simp [e1]
    have y1 : 2 * p.n < 16 := by omega
    have y3 : 2 * p.n + 1 < 16 := by omega
    have y0 : 0 ≤ 2 * p.n := by omega
    have y2 : 0 ≤ 2 * p.n + 1 := by omega
    have v0 := hv.1
    have v1 := hv.2
    have hw1 : IntKind.i64.wrap (2 * p.n) = 2 * p.n := wrapI_of _ (by omega) (by omega)
    have hw2 : IntKind.i64.wrap (2 * p.n + 1) = 2 * p.n + 1 := wrapI_of _ (by omega) (by omega)
    have g1 : ¬ (2 * p.n).toNat = (2 * p.n + 1).toNat := by omega
    have g2 : ¬ (2 * p.n + 1).toNat = (2 * p.n).toNat := by omega
    have hin1 : 0 ≤ 2 * p.n ∧ 2 * p.n < 16 := ⟨y0, y1⟩
    have hin2 : 0 ≤ 2 * p.n + 1 ∧ 2 * p.n + 1 < 16 := ⟨y2, y3⟩
    clear e1 h hs hp ho hA hA1 ho1 HH
    go_enter Try.func107, Try.ntmps107
    go_upto_region 1 with fail
    rw [← hWA]
    clear hWA
    go_wp2
    go_region_held3 (fun w' => w'.cell? ⟨w.heap.size, 1, none⟩ = some (.int .i64 p.n))
      ((first | assumption | exact cell_other (by assumption) (Ne.symm q1) | (go_keep; done)))
      (fail)
    go_wp2
    go_end0
    exact ⟨rfl, HR.out, ((HOA.out.set _ _).set _ _).drew⟩
  · have c0 := slot_at hA ho (show p.n.toNat < st.slot.length by omega)
    have fz := hA.frozen (16 + p.n.toNat)
    have HR : Hid (Row (WA.setCell ⟨sb, 16 + p.n.toNat, none⟩ (.int .u64 v)) sb 113 (stoE (putP st p v))) := by
      have := slot_set hA ho (show p.n.toNat < st.slot.length by omega) v
      rw [← put_three e1] at this
      exact this
    have k1 : (p.kind == 1) = false := by simp [e1]
    have k2 : (p.kind == 2) = false := by simp [e1]
    have k3 : (p.kind == 3) = true := by simp [e1]
    have y1 : p.n < 12 := by omega
    clear e1 h hs hp ho hA
    go_enter Try.func107, Try.ntmps107
    go_upto_region 1 with fail
    rw [← hWA]
    clear hWA
    go_wp2
    go_region_held3 (fun w' => w'.cell? ⟨w.heap.size, 1, none⟩ = some (.int .i64 p.n))
      ((first | assumption | exact cell_other (by assumption) (Ne.symm q1) | (go_keep; done)))
      (fail)
    go_wp2
    go_end0
    exact ⟨rfl, HR.out, (HOA.out.set _ _).drew⟩
  · have HR : Hid (Row WA sb 113 (stoE (putP st p v))) := by
      have e : putP st p v = st := by unfold putP; rw [if_neg (by omega), if_neg (by omega), if_neg (by omega)]
      rw [e]; exact hA
    have k1 : (p.kind == 1) = false := by simp [e1]
    have k2 : (p.kind == 2) = false := by simp [e1]
    have k3 : (p.kind == 3) = false := by simp [e1]
    clear e1 h hs hp ho hA
    go_enter Try.func107, Try.ntmps107
    go_upto_region 1 with fail
    rw [← hWA]
    clear hWA
    go_wp2
    go_end0
    exact ⟨rfl, HR.out, HOA.out⟩

/-- All that was there ahead is as it was. -/
def Old (wO w : World) : Prop := ∀ k, k < wO.heap.size → w.heap[k]? = wO.heap[k]?
theorem Old.cell {wO w : World} (h : Old wO w) {p : Addr} {v : Value} (hc : wO.cell? p = some v) : w.cell? p = some v := by
  rw [World.cell?_of_block (h p.block (World.block_lt_of_cell? wO _ hc))]; exact hc
theorem Old.only {wO w w' : World} (h : Old wO w) (hz : wO.heap.size ≤ w.heap.size) (hs : wO.heap.size ≤ sb) (ho : Only sb w w') : Old wO w' := fun k hk => (ho.block k (by omega) (by omega)).trans (h k hk)

theorem moveD (m : LMove) (h : Row w sb 113 (stoE st)) (hs : StoAt ns nl st) (hd : PlIs ns nl m.dst) (hc : PlIs ns nl m.src) (hn0 : 0 ≤ m.n) (hn1 : m.n < 4294967296) :
    Calls Try.prog 124 #[.pointer (some ⟨sb, 0, none⟩), m.val] w fun e w' => e = .returned (.tuple #[]) ∧ Row w' sb 113 (stoE (moveP st m)) ∧ Only sb w w' := by
  have hx := h.lt
  obtain ⟨WA, hWA⟩ : ∃ WA, WA = w.alloc (.cells #[.int .i64 m.dst.kind, .int .i64 m.dst.n, .int .i64 m.src.kind, .int .i64 m.src.n, .bool m.cst, .int .u32 m.n] 143) := ⟨_, rfl⟩
  have hA : Row WA sb 113 (stoE st) := by rw [hWA]; exact h.alloc _
  have HOA : Hid (Only sb w WA) := by rw [hWA]; exact (Only.refl _ _).alloc _
  have HRA : Hid (Row WA sb 113 (stoE st)) := hA
  have d0 : WA.cell? ⟨w.heap.size, 0, none⟩ = some (.int .i64 m.dst.kind) := by rw [hWA]; simp [go_sem]
  have d1 : WA.cell? ⟨w.heap.size, 1, none⟩ = some (.int .i64 m.dst.n) := by rw [hWA]; simp [go_sem]
  have d2 : WA.cell? ⟨w.heap.size, 2, none⟩ = some (.int .i64 m.src.kind) := by rw [hWA]; simp [go_sem]
  have d3 : WA.cell? ⟨w.heap.size, 3, none⟩ = some (.int .i64 m.src.n) := by rw [hWA]; simp [go_sem]
  have d4 : WA.cell? ⟨w.heap.size, 4, none⟩ = some (.bool m.cst) := by rw [hWA]; simp [go_sem]
  have d5 : WA.cell? ⟨w.heap.size, 5, none⟩ = some (.int .u32 m.n) := by rw [hWA]; simp [go_sem]
  have q1 : w.heap.size ≠ sb := by omega
  have e5 := wrap64_of m.n hn0 (by omega)
  have HI : Hid (∀ wx, Row wx sb 113 (stoE st) → Calls Try.prog 104 #[.pointer (some ⟨sb, 0, none⟩), m.src.val] wx fun e w' => e = .returned (.int .u64 (getP st m.src)) ∧ Below wx.heap.size wx w') := fun wx hr => inO m.src hr hs hc
  have HP : Hid (∀ wx v, U64i v → Row wx sb 113 (stoE st) → Calls Try.prog 107 #[.pointer (some ⟨sb, 0, none⟩), m.dst.val, .int .u64 v] wx fun e w' => e = .returned (.tuple #[]) ∧ Row w' sb 113 (stoE (putP st m.dst v)) ∧ Only sb wx w') := fun wx v hv hr => becomeO m.dst v hr hs hd hv
  have HU : Hid (U64i (getP st m.src)) := get_bd _ hs.ok
  unfold LMove.val
  rcases Bool.eq_false_or_eq_true m.cst with hk | hk
  · rw [hk] at d4
    have HE : Hid (moveP st m = putP st m.dst m.n) := by show moveP st m = _; unfold moveP; rw [hk]; rfl
    clear hk h hs hd hc hA
    go_enter Try.func124, Try.ntmps124
    go_upto_region 1 with fail
    rw [← hWA]
    clear hWA
    go_wp2_with (go_at_call 107; refine (HP.out _ m.n ⟨hn0, by omega⟩ HRA.out).mono ?_; rintro e w1 ⟨rfl, hr1, ho1⟩)
    refine bodyPost_ret (results_none rfl _ _ _) rfl ?_
    rw [HE.out]
    exact ⟨rfl, hr1, HOA.out.trans ho1⟩
  · rw [hk] at d4
    have HE : Hid (moveP st m = putP st m.dst (getP st m.src)) := by show moveP st m = _; unfold moveP; rw [hk]; rfl
    obtain ⟨u, hu⟩ : ∃ u, u = getP st m.src := ⟨_, rfl⟩
    have HUE : Hid (getP st m.src = u) := hu.symm
    clear hk h hs hd hc hA hu
    go_enter Try.func124, Try.ntmps124
    go_upto_region 1 with fail
    rw [← hWA]
    clear hWA
    go_wp2
    go_region_held3 (fun w' => w'.cell? ⟨w.heap.size, 0, none⟩ = some (.int .i64 m.dst.kind) ∧ w'.cell? ⟨w.heap.size, 1, none⟩ = some (.int .i64 m.dst.n) ∧ w'.cell? ⟨w.heap.size, 2, none⟩ = some (.int .i64 m.src.kind) ∧ w'.cell? ⟨w.heap.size, 3, none⟩ = some (.int .i64 m.src.n))
      ((go_split_ands; refine ⟨?_, ?_, ?_, ?_⟩ <;> first | assumption | exact hoc.cell (by assumption) q1 | (go_keep; done)))
      (first
        | (have hgd := HR1; clear hgd; go_at_call 107; refine (HP.out _ u (by rw [← HUE.out]; exact HU.out) HR1.out).mono ?_; rintro e w2 ⟨rfl, hr2, hoc⟩; have HR2 : Hid _ := hr2; have HO2 : Hid _ := hoc; clear hr2)
        | (go_at_call 104; refine (HI.out _ (HRA.out.drew)).mono ?_; rw [HUE.out]; rintro e w1 ⟨rfl, hbc⟩; have HR1 : Hid (Row w1 sb 113 (stoE st)) := (HRA.out.drew).below hbc; have hoc : Only sb WA w1 := (Only.of_below (Below.refl _ _).drew).trans (Only.of_below hbc); have HO1 : Hid (Only sb WA w1) := hoc; clear hbc))
    go_wp2
    go_end0
    rw [HE.out, HUE.out]
    exact ⟨rfl, HR2.out, (HOA.out.trans HO1.out).trans HO2.out⟩

/-- A move of a machine. -/
structure MoveIs (ns nl : Nat) (m : LMove) : Prop where
  dst : PlIs ns nl m.dst
  src : PlIs ns nl m.src
  n0 : 0 ≤ m.n
  n1 : m.n < 4294967296

theorem moves_at {l : List LMove} (h : StoAt ns nl st) (hm : ∀ x, x ∈ l → MoveIs ns nl x) : StoAt ns nl (movesP st l) := by
  induction l generalizing st with
  | nil => exact h
  | cons m l ih => exact ih (sto_at_move h ⟨(hm m (by simp)).n0, (hm m (by simp)).n1⟩) (fun x hx => hm x (by simp [hx]))

set_option maxHeartbeats 1000000 in
theorem moveAllO (v : Value) (l : List LMove) (wO : World) (h : Row w sb 113 (stoE st)) (hs : StoAt ns nl st) (hm : MovesIs wO v l) (hO : Old wO w) (hz : wO.heap.size ≤ w.heap.size) (hsb : wO.heap.size ≤ sb) (h6 : l.length ≤ 6) (hok : ∀ x, x ∈ l → MoveIs ns nl x) :
    Calls Try.prog 102 #[.pointer (some ⟨sb, 0, none⟩), v] w fun e w' => e = .returned (.tuple #[]) ∧ Row w' sb 113 (stoE (movesP st l)) ∧ Only sb w w' := by
  obtain ⟨ao, cap, rfl, -, hc⟩ := hm
  have HC : Hid _ := hc
  have HOK : Hid (∀ x, x ∈ l → MoveIs ns nl x) := hok
  have HS : Hid (StoAt ns nl st) := hs
  have z6 : (l.length : Int) ≤ 6 := by omega
  have HR0 : Hid (Row w sb 113 (stoE st)) := h
  have HOO : Hid (Old wO w) := hO
  clear hc hok hs h hO
  go_enter Try.func102, Try.ntmps102
  go_wp2
  go_loopw [8] (fun t wr => ∃ k : Nat, k ≤ l.length ∧ t = .int .i64 k ∧ Row wr sb 113 (stoE (movesP st (l.take k))) ∧ Only sb w wr) (fun t _ => l.length - (intOf t).toNat)
  case atStart => exact ⟨0, by omega, rfl, HR0.out, Only.refl _ _⟩
  case round =>
    obtain ⟨k, hk, rfl, hrk, hok⟩ := hrel
    have HRK : Hid (Row wr sb 113 (stoE (movesP st (l.take k)))) := hrk
    have HOK2 : Hid (Only sb w wr) := hok
    by_cases hlt : k < l.length
    case neg =>
      clear hrk hok
      go_wp2
      go_end0
      have e := HRK.out
      rw [List.take_of_length_le (by omega)] at e
      exact ⟨rfl, e, HOK2.out⟩
    obtain ⟨b, o, rfl, hbl, hcell⟩ := HC.out (by omega)
    have hold : Old wO wr := HOO.out.only hz hsb hok
    obtain ⟨d0, d1, d2, d3, d4, d5⟩ := hcell k hlt
    have d0 := hold.cell d0
    have d1 := hold.cell d1
    have d2 := hold.cell d2
    have d3 := hold.cell d3
    have d4 := hold.cell d4
    have d5 := hold.cell d5
    obtain ⟨m, hi⟩ : ∃ m, m = l.getD k .zero := ⟨_, rfl⟩
    rw [← hi] at d0 d1 d2 d3 d4 d5
    have hmem : m ∈ l := by rw [hi]; simp [List.getD, hlt]
    have hmi := HOK.out m hmem
    have hst : StoAt ns nl (movesP st (l.take k)) := moves_at HS.out (fun x hx => HOK.out x (List.mem_of_mem_take hx))
    have HMV : Hid (∀ wx, Row wx sb 113 (stoE (movesP st (l.take k))) → Calls Try.prog 124 #[.pointer (some ⟨sb, 0, none⟩), m.val] wx fun e w' => e = .returned (.tuple #[]) ∧ Row w' sb 113 (stoE (moveP (movesP st (l.take k)) m)) ∧ Only sb wx w') := fun wx hr => moveD m hr hst hmi.dst hmi.src hmi.n0 hmi.n1
    have HI : Hid (m = l.getD k .zero) := hi
    have y1 : (k : Int) < (l.length : Int) := by omega
    clear hcell hold hi hmem hmi hst hrk hok
    go_wp2_with (go_at_call 124; refine (HMV.out _ (HRK.out.alloc _)).mono ?_; rintro e w1 ⟨rfl, hr1, ho1⟩; have HR1 : Hid _ := hr1; have HO1 : Hid _ := ho1; clear hr1 ho1)
    refine ⟨⟨k + 1, by omega, by go_num, ?_, (HOK2.out.alloc _).trans HO1.out⟩, by simp [intOf]; omega⟩
    rw [moves_succ st l k hlt, ← HI.out]
    exact HR1.out
end

end Go.Proofs.Ytcmnmogmdhofcaa.form

/- What the program's machine makes of an instruction that has a Dest: a closure that gives what the instruction gives, whenever it is called. -/
namespace Go.Proofs.Ytcmnmogmdhofcaa.form
open Go.RowKit Go.Proofs.Ytcmnmogmdhofcaa.num
set_option linter.unusedVariables false
set_option maxRecDepth 100000
attribute [local go_sem ↓] Go.wp_at_zero Go.wp_at_succ

section
variable {K : StoK} {mb sb db bm bi be nB nC : Nat} {i : LIns} {x : EndF} {w1 : World} {rdA rdB : K.S → Int} {wr : K.S → Int → K.S} {G : Prop}

theorem give_below {base : Nat} {s : K.S} {ov : Value} {l : List Int} {st k : Int} {iv : Value} {I : List Int} {pc : Int} {w w' : World} (hm : MS K mb sb base s ov l st k iv I pc w) (hb : Below w.heap.size w w') (h3 : ¬ i.op = 3) : (∃ iv', MS K mb sb base s ov l st k iv' (if i.op = 3 then I.tail else I) pc w') ∧ Ran mb sb base w w' :=
  ⟨⟨iv, by rw [if_neg h3]; exact hm.below hb⟩, Ran.of_below hm.sz hb⟩

theorem spec1 (hb : Box mb sb db bm bi be i x w1) (hi : InsOk nB nC i) (ho : i.op = 1) : GiveSpec K mb sb db i rdA rdB w1 110 #[.pointer (some ⟨bi, 0, none⟩)] := by
  refine ⟨fun w => rfl, ?_⟩
  intro base s ov l st k iv I pc w hk hz hm h5
  refine (giv1 (hb.kept hk) hi.n0 hi.n1).mono ?_
  rintro e w' ⟨rfl, hbl⟩
  exact ⟨ret_int (by unfold gvI; rw [if_pos ho]), give_below hm hbl (by omega)⟩

theorem specM (hE : EndsIs K mb sb db w1 x rdA rdB wr G) (ho : i.op = 2) : GiveSpec K mb sb db i rdA rdB w1 x.fa x.ca := by
  refine ⟨hE.a.1, ?_⟩
  intro base s ov l st k iv I pc w hk hz hm h5
  refine ((hE.a.rd hk hz hm).call w (Below.refl _ _)).mono ?_
  rintro e w' ⟨rfl, hbl⟩
  exact ⟨ret_int (by unfold gvI; rw [if_neg (by omega), if_pos ho]), give_below hm hbl (by omega)⟩

theorem spec2 (hb : Box mb sb db bm bi be i x w1) (ho : i.op = 3) : GiveSpec K mb sb db i rdA rdB w1 111 #[.pointer (some ⟨bm, 0, none⟩)] := by
  refine ⟨fun w => rfl, ?_⟩
  intro base s ov l st k iv I pc w hk hz hm h5
  refine (giv2 (hb.kept hk) hm).mono ?_
  rintro e w' ⟨rfl, hms, hr⟩
  exact ⟨ret_int (by unfold gvI; rw [if_neg (by omega), if_neg (by omega), if_pos ho]), by rw [if_pos ho]; exact hms, hr⟩

theorem spec3 (hb : Box mb sb db bm bi be i x w1) (hE : EndsIs K mb sb db w1 x rdA rdB wr G) (ho : i.op = 5) : GiveSpec K mb sb db i rdA rdB w1 113 #[.pointer (some ⟨be, 0, none⟩)] := by
  refine ⟨fun w => rfl, ?_⟩
  intro base s ov l st k iv I pc w hk hz hm h5
  refine (giv3 (hb.kept hk) (hE.a.rd hk hz hm) (hE.b.rd hk hz hm) (h5 ho)).mono ?_
  rintro e w' ⟨rfl, hbl⟩
  exact ⟨ret_int (by unfold gvI; rw [if_neg (by omega), if_neg (by omega), if_neg (by omega), if_pos ho]), give_below hm hbl (by omega)⟩

theorem spec4 (hb : Box mb sb db bm bi be i x w1) (hE : EndsIs K mb sb db w1 x rdA rdB wr G) (ho : i.op = 6) : GiveSpec K mb sb db i rdA rdB w1 114 #[.pointer (some ⟨be, 0, none⟩)] := by
  refine ⟨fun w => rfl, ?_⟩
  intro base s ov l st k iv I pc w hk hz hm h5
  refine (giv4 (hb.kept hk) (hE.a.rd hk hz hm)).mono ?_
  rintro e w' ⟨rfl, hbl⟩
  exact ⟨ret_int (by unfold gvI; rw [if_neg (by omega), if_neg (by omega), if_neg (by omega), if_neg (by omega), if_pos ho]), give_below hm hbl (by omega)⟩

theorem spec5 (hb : Box mb sb db bm bi be i x w1) (hE : EndsIs K mb sb db w1 x rdA rdB wr G) (ho : i.op = 7) : GiveSpec K mb sb db i rdA rdB w1 115 #[.pointer (some ⟨be, 0, none⟩)] := by
  refine ⟨fun w => rfl, ?_⟩
  intro base s ov l st k iv I pc w hk hz hm h5
  refine (giv5 (hb.kept hk) (hE.a.rd hk hz hm)).mono ?_
  rintro e w' ⟨rfl, hbl⟩
  exact ⟨ret_int (by unfold gvI; rw [if_neg (by omega), if_neg (by omega), if_neg (by omega), if_neg (by omega), if_neg (by omega), if_pos ho]), give_below hm hbl (by omega)⟩

theorem spec6 (hb : Box mb sb db bm bi be i x w1) (hE : EndsIs K mb sb db w1 x rdA rdB wr G) (hi : InsOk nB nC i) (ho : 40 < i.op) : GiveSpec K mb sb db i rdA rdB w1 116 #[.pointer (some ⟨bi, 0, none⟩), .pointer (some ⟨be, 0, none⟩)] := by
  refine ⟨fun w => rfl, ?_⟩
  intro base s ov l st k iv I pc w hk hz hm h5
  have p1 := hi.p1
  refine (giv6 (hb.kept hk) (hE.a.rd hk hz hm) (hE.b.rd hk hz hm) (by omega) (by omega)).mono ?_
  rintro e w' ⟨rfl, hbl⟩
  exact ⟨ret_int (by unfold gvI; rw [if_neg (by omega), if_neg (by omega), if_neg (by omega), if_neg (by omega), if_neg (by omega), if_neg (by omega), if_pos ho]), give_below hm hbl (by omega)⟩

theorem spec7 (hb : Box mb sb db bm bi be i x w1) (hE : EndsIs K mb sb db w1 x rdA rdB wr G) (ho : 10 < i.op ∧ i.op ≤ 40) : GiveSpec K mb sb db i rdA rdB w1 117 #[.pointer (some ⟨bi, 0, none⟩), .pointer (some ⟨be, 0, none⟩)] := by
  refine ⟨fun w => rfl, ?_⟩
  intro base s ov l st k iv I pc w hk hz hm h5
  refine (giv7 (hb.kept hk) (hE.a.rd hk hz hm) (hE.b.rd hk hz hm) (by omega) (by omega)).mono ?_
  rintro e w' ⟨rfl, hbl⟩
  exact ⟨ret_int (by unfold gvI; rw [if_neg (by omega), if_neg (by omega), if_neg (by omega), if_neg (by omega), if_neg (by omega), if_neg (by omega), if_neg (by omega)]), give_below hm hbl (by omega)⟩

/-- The three variables that are caught, just made. -/
def boxW (mb : Nat) (i : LIns) (x : EndF) (w : World) : World :=
  ((w.alloc (.cells #[.pointer (some ⟨mb, 0, none⟩)] 70)).alloc (.cells #[.int .i64 i.op, .int .i64 i.dest, .int .i64 i.a, .int .i64 i.b, .int .i64 i.c, .int .u32 i.n] 50)).alloc (.cells #[.func (.func x.fa) #[] x.ca, .func (.func x.fb) #[] x.cb, .func (.func x.fd) #[] #[x.d1, x.d2]] 80)
theorem boxW_below (mb : Nat) (i : LIns) (x : EndF) (w : World) : Below w.heap.size w (boxW mb i x w) := (((Below.refl _ _).alloc (Nat.le_refl _) _).alloc (by simp) _).alloc (by simp; omega) _
theorem boxW_size (mb : Nat) (i : LIns) (x : EndF) (w : World) : (boxW mb i x w).heap.size = w.heap.size + 3 := by simp [boxW]
theorem box_new (mb sb db : Nat) (i : LIns) (x : EndF) (w : World) (hmb : mb < w.heap.size) (hsb : sb < w.heap.size) (hdb : db < w.heap.size) : Box mb sb db w.heap.size (w.heap.size + 1) (w.heap.size + 1 + 1) i x (boxW mb i x w) := by
  refine ⟨?_, ?_, ?_, ?_, ?_, ?_, ?_, by omega, by omega, by omega, by omega, by omega, by omega, by omega, by omega, by omega⟩ <;> simp [go_sem, boxW]

def EndF.val (x : EndF) : Value := .agg #[.func (.func x.fa) #[] x.ca, .func (.func x.fb) #[] x.cb, .func (.func x.fd) #[] #[x.d1, x.d2]]

theorem giving (hi : InsOk nB nC i) (hg : givesB i.op = true) (hu : 10 < i.op → 21 ≤ i.op) (w : World) (hmb : mb < w.heap.size) (hsb : sb < w.heap.size) (hdb : db < w.heap.size) (hE : EndsIs K mb sb db w x rdA rdB wr G) :
    Calls Try.prog 84 #[.pointer (some ⟨mb, 0, none⟩), i.val, x.val] w fun e w' => (∃ F caps, e = .returned (.func (.func F) #[] caps) ∧ GiveSpec K mb sb db i rdA rdB w' F caps) ∧ Below w.heap.size w w' := by
  have HI : Hid (InsOk nB nC i) := hi
  have HG : Hid (givesB i.op = true) := hg
  have HB : Hid _ := box_new mb sb db i x w hmb hsb hdb
  have hbl := boxW_below mb i x w
  have HE : Hid (EndsIs K mb sb db (boxW mb i x w) x rdA rdB wr G) := hE.later (Kept.of_below hbl) hbl.size
  have HBL : Hid (Below w.heap.size w (boxW mb i x w)) := hbl
  have HU : Hid (10 < i.op → 21 ≤ i.op) := hu
  clear hi hg hu hE hbl
  unfold LIns.val EndF.val
  go_enter Try.func84, Try.ntmps84
  go_wp2
  all_goals
    go_ret
    refine ⟨⟨_, _, rfl, ?_⟩, HBL.out⟩
    have hg := HG.out
    have hu := HU.out
    unfold givesB at hg
    simp at hg
  · exact spec1 HB.out HI.out (by simp_all)
  · exact specM HE.out (by simp_all)
  · exact spec2 HB.out (by simp_all)
  · exact spec3 HB.out HE.out (by simp_all)
  · exact spec4 HB.out HE.out (by simp_all)
  · exact spec5 HB.out HE.out (by simp_all)
  · exact spec6 HB.out HE.out HI.out (by simp_all)
  · have := HI.out.p0
    exact spec7 HB.out HE.out (by simp_all; omega)
end
end Go.Proofs.Ytcmnmogmdhofcaa.form
