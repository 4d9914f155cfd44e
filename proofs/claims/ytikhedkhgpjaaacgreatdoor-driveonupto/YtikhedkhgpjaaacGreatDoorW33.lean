/- The row of an instruction (build.builder.row). -/
import Derived.Test.YtikhedkhgpjaaacGreatDoorW32
import Derived.Test.YtikhedkhgpjaaacGreatDoorW01
import Derived.Test.YtikhedkhgpjaaacGreatDoorW30

namespace Go.Proofs.YtikhedkhgpjaaacGreatDoor
set_option linter.unusedVariables false
namespace form
open Go.RowKit
set_option maxRecDepth 100000
attribute [local go_sem ↓] Go.wp_at_zero Go.wp_at_succ
theorem MvB.off {base : Nat} {l : List LMove} {v : Value} {w : World} (h : MvB base l v w) {a : Addr} (hne : v.ownBlock ≠ some a.block) (u : Value) : MvB base l v (w.setCell a u) := by
  refine World.ownsRow.kept h (row := some a.block) ⟨rfl, rfl, rfl, by simp, fun k hk hn => heap_setCell_other w a k u (fun e => hn (by rw [e]))⟩ ?_
  cases hv : v.ownBlock with
  | none => exact Or.inl rfl
  | some k => exact Or.inr (fun e => hne (by rw [hv]; exact e))
theorem MvB.form {base : Nat} {l : List LMove} {v : Value} {w : World} (h : MvB base l v w) : ∃ ao cap, v = .slice ao l.length cap := by
  rcases h.2 with ⟨e, e2⟩ | ⟨g, cap, cur, e, -⟩
  · exact ⟨none, 0, by rw [e, e2]⟩
  · exact ⟨_, _, e⟩
theorem MvB.ne {base : Nat} {l : List LMove} {v : Value} {w : World} (h : MvB base l v w) {b : Nat} (hb : b < base ∨ w.heap.size ≤ b) : v.ownBlock ≠ some b := fun e => by
  have := World.ownsRow.lt h b e
  omega
theorem cell_off {w : World} {b j k : Nat} {u x : Value} (hc : w.cell? ⟨b, j, none⟩ = some u) (hne : ¬ j = k) : (w.setCell ⟨b, k, none⟩ x).cell? ⟨b, j, none⟩ = some u := by
  have h2 : ¬ k = j := fun e => hne e.symm
  simp [go_sem, hc]
def rowVB (d a b : LPlace) (vb va : Value) : List Value := [.int .i64 d.kind, .int .i64 d.n, .int .i64 a.kind, .int .i64 a.n, .int .i64 b.kind, .int .i64 b.n, vb, va]
structure RoS (w : World) (br : Nat) (de : Int) (d a b : LPlace) (vb va : Value) (l la : List LMove) (wr : World) : Prop where
  bel : Below w.heap.size w wr
  lo : w.heap.size + 1 < br
  i1 : wr.cell? ⟨w.heap.size, 1, none⟩ = some (.int .i64 de)
  res : Row wr (w.heap.size + 1) 140 (rowVB .zero .zero .zero (.slice none 0 0) (.slice none 0 0))
  row : Row wr br 140 (rowVB d a b vb va)
  mb : MvB w.heap.size l vb wr
  ma : MvB w.heap.size la va wr
  nb : vb.ownBlock ≠ some br ∧ vb.ownBlock ≠ some (w.heap.size + 1)
  na : va.ownBlock ≠ some br ∧ va.ownBlock ≠ some (w.heap.size + 1)
section
variable {w : World} {br : Nat} {de : Int} {d a b : LPlace} {vb va : Value} {l la : List LMove} {wr w1 : World}
theorem RoS.below (h : RoS w br de d a b vb va l la wr) (hb : Below wr.heap.size wr w1) : RoS w br de d a b vb va l la w1 :=
  ⟨step_below hb h.bel, h.lo, step_cell hb h.i1, h.res.below hb, h.row.below hb, h.mb.below hb, h.ma.below hb, h.nb, h.na⟩
theorem RoS.putD (h : RoS w br de d a b vb va l la wr) (p : LPlace) : RoS w br de p a b vb va l la ((wr.setCell ⟨br, 0, none⟩ (.int .i64 p.kind)).setCell ⟨br, 1, none⟩ (.int .i64 p.n)) := by
  have hlo := h.lo
  exact ⟨(h.bel.setCell (by dsimp only; omega) _).setCell (by dsimp only; omega) _, h.lo, cell_other (cell_other h.i1 (by dsimp only; omega)) (by dsimp only; omega), (h.res.other (by dsimp only; omega) _).other (by dsimp only; omega) _, (h.row.set 0 _).set 1 _, (h.mb.off h.nb.1 _).off h.nb.1 _, (h.ma.off h.na.1 _).off h.na.1 _, h.nb, h.na⟩
theorem RoS.putA (h : RoS w br de d a b vb va l la wr) {la2 : List LMove} {va2 : Value} (hm : MvB w.heap.size la2 va2 wr) (hn : va2.ownBlock ≠ some br ∧ va2.ownBlock ≠ some (w.heap.size + 1)) : RoS w br de d a b vb va2 l la2 (wr.setCell ⟨br, 7, none⟩ va2) := by
  have hlo := h.lo
  exact ⟨h.bel.setCell (by dsimp only; omega) _, h.lo, cell_other h.i1 (by dsimp only; omega), h.res.other (by dsimp only; omega) _, h.row.set 7 _, h.mb.off h.nb.1 _, hm.off hn.1 _, h.nb, hn⟩
theorem RoS.fin (h : RoS w br de d a b vb va l la wr) (u0 u1 u2 u3 u4 u5 u6 u7 : Value) : ∀ w9, w9 = (((((((wr.setCell ⟨w.heap.size + 1, 0, none⟩ u0).setCell ⟨w.heap.size + 1, 1, none⟩ u1).setCell ⟨w.heap.size + 1, 2, none⟩ u2).setCell ⟨w.heap.size + 1, 3, none⟩ u3).setCell ⟨w.heap.size + 1, 4, none⟩ u4).setCell ⟨w.heap.size + 1, 5, none⟩ u5).setCell ⟨w.heap.size + 1, 6, none⟩ u6).setCell ⟨w.heap.size + 1, 7, none⟩ u7 → MvB w.heap.size l vb w9 ∧ MvB w.heap.size la va w9 ∧ Below w.heap.size w w9 := by
  rintro w9 rfl
  have st : ∀ (wx : World) (o : Nat) (u : Value), (MvB w.heap.size l vb wx ∧ MvB w.heap.size la va wx ∧ Below w.heap.size w wx) → (MvB w.heap.size l vb (wx.setCell ⟨w.heap.size + 1, o, none⟩ u) ∧ MvB w.heap.size la va (wx.setCell ⟨w.heap.size + 1, o, none⟩ u) ∧ Below w.heap.size w (wx.setCell ⟨w.heap.size + 1, o, none⟩ u)) := fun wx o u h0 =>
    ⟨h0.1.off h.nb.2 _, h0.2.1.off h.na.2 _, h0.2.2.setCell (by dsimp only; omega) _⟩
  exact st _ _ _ (st _ _ _ (st _ _ _ (st _ _ _ (st _ _ _ (st _ _ _ (st _ _ _ (st _ _ _ ⟨h.mb, h.ma, h.bel⟩)))))))
end
def RowP (B : List Bool) (H : List LPlace) (f0 f1 : Int) (i : LIns) (w : World) (e : Ending) (w' : World) : Prop :=
  ∃ vb va, e = .returned (.agg #[.int .i64 (rowL B H f0 f1 i).dest.kind, .int .i64 (rowL B H f0 f1 i).dest.n, .int .i64 (rowL B H f0 f1 i).a.kind, .int .i64 (rowL B H f0 f1 i).a.n, .int .i64 (rowL B H f0 f1 i).b.kind, .int .i64 (rowL B H f0 f1 i).b.n, vb, va]) ∧
    MvB w.heap.size (rowL B H f0 f1 i).before vb w' ∧ MvB w.heap.size (rowL B H f0 f1 i).after va w' ∧ Below w.heap.size w w'
set_option maxHeartbeats 4000000 in
theorem buildRowO {bb b0 o0 c0 b1 o1 c1 gv cap : Nat} {B : List Bool} {C : List LIns} {H : List LPlace} {slots f0 f1 : Int} {w : World} (h : BdR bb b0 o0 c0 b1 o1 c1 gv cap B C H slots f0 f1 w) (h12 : B.length ≤ 12) (hf0 : 0 ≤ f0 ∧ f0 ≤ 100) (hf1 : 0 ≤ f1 ∧ f1 ≤ 100) (i : LIns) (hi : InsOk B.length C.length i) (hkn : knownB i.op = true) :
    Calls Tryz.prog 99 #[.pointer (some ⟨bb, 0, none⟩), i.val] w fun e w' => RowP B H f0 f1 i w e w' := by
  have HHas : Hid (∀ wx : World, Calls Tryz.prog 112 #[.int .i64 i.op] wx fun e w' => e = .returned (.tuple #[.bool (givesB i.op), .bool (decide (0 < manyI i.op)), .bool (decide (1 < manyI i.op))]) ∧ Below wx.heap.size wx w') := fun wx => by
    have := has i.op wx
    rwa [isT_gives hkn, (isT_many hkn).1, (isT_many hkn).2] at this
  have HBD : Hid (BdR bb b0 o0 c0 b1 o1 c1 gv cap B C H slots f0 f1 w) := h
  have HTA : Hid (∀ wx : World, Below w.heap.size w wx → Calls Tryz.prog 135 #[.pointer (some ⟨bb, 0, none⟩), .agg #[.int .i64 i.op, .int .i64 i.dest, .int .i64 i.a, .int .i64 i.b, .int .i64 i.c, .int .u32 i.n]] wx fun e w' => TakeP B H f0 f1 i wx e w') := fun wx hb => takeO (h.later hb) h12 hf0 hf1 i hi hkn
  have HID : Hid (givesB i.op = true → 0 ≤ i.dest ∧ i.dest < B.length) := hi.d
  have HRP : Hid (∀ vb va w9, MvB w.heap.size (rowMB B H f1 i (rowMA B H f0 i)) vb w9 → MvB w.heap.size (rowMD B H f0 i) va w9 → Below w.heap.size w w9 → RowP B H f0 f1 i w (.returned (.agg #[.int .i64 (rowD B H f0 i).kind, .int .i64 (rowD B H f0 i).n, .int .i64 (rowPA B H f0 i).kind, .int .i64 (rowPA B H f0 i).n, .int .i64 (rowBB B H f1 i).kind, .int .i64 (rowBB B H f1 i).n, vb, va])) w9) := fun vb va w9 h1 h2 h3 => ⟨vb, va, rfl, h1, h2, h3⟩
  have HRD : Hid (rowD B H f0 i = if givesB i.op then regL B H i.dest.toNat f0 else .zero) := rfl
  have HMD : Hid (rowMD B H f0 i = if givesB i.op then bringL [] (H.getD i.dest.toNat .zero) (regL B H i.dest.toNat f0) else []) := rfl
  have hlt0 : bb < w.heap.size := World.block_lt_of_cell? _ _ h.p0
  clear h hi hkn
  unfold LIns.val
  unfold TakeP at HTA
  obtain ⟨rd, hrd⟩ : ∃ rd, rd = rowD B H f0 i := ⟨_, rfl⟩
  obtain ⟨ra, hra⟩ : ∃ ra, ra = rowPA B H f0 i := ⟨_, rfl⟩
  obtain ⟨rb, hrb⟩ : ∃ rb, rb = rowBB B H f1 i := ⟨_, rfl⟩
  obtain ⟨l, hl⟩ : ∃ l, l = rowMB B H f1 i (rowMA B H f0 i) := ⟨_, rfl⟩
  obtain ⟨la, hla⟩ : ∃ la, la = rowMD B H f0 i := ⟨_, rfl⟩
  rw [← hra, ← hrb, ← hl] at HTA
  rw [← hrd, ← hra, ← hrb, ← hl, ← hla] at HRP
  rw [← hrd] at HRD
  rw [← hla] at HMD
  clear hrd hra hrb hl hla
  obtain ⟨gi, hgi⟩ : ∃ gi, gi = givesB i.op := ⟨_, rfl⟩
  rw [← hgi] at HRD HMD HHas HID
  clear hgi
  obtain ⟨op, hop⟩ : ∃ op, op = i.op := ⟨_, rfl⟩
  obtain ⟨de, hde⟩ : ∃ de, de = i.dest := ⟨_, rfl⟩
  obtain ⟨ia, hia⟩ : ∃ ia, ia = i.a := ⟨_, rfl⟩
  obtain ⟨ib, hib⟩ : ∃ ib, ib = i.b := ⟨_, rfl⟩
  obtain ⟨ic, hic⟩ : ∃ ic, ic = i.c := ⟨_, rfl⟩
  obtain ⟨im, him⟩ : ∃ im, im = i.n := ⟨_, rfl⟩
  obtain ⟨k1, hk1⟩ : ∃ k1, k1 = decide (0 < manyI i.op) := ⟨_, rfl⟩
  obtain ⟨k2, hk2⟩ : ∃ k2, k2 = decide (1 < manyI i.op) := ⟨_, rfl⟩
  rw [← hk1, ← hk2] at HHas
  rw [← hop] at HHas
  rw [← hde] at HRD HMD HID
  rw [← hop, ← hde, ← hia, ← hib, ← hic, ← him] at HTA ⊢
  clear hop hde hia hib hic him hk1 hk2
  go_enter Tryz.func99, Tryz.ntmps99
  go_upto_region 3 with (go_at_call 135; refine (HTA.out _ (((Below.refl _ _).alloc (Nat.le_refl _) _).alloc (by simp) _)).mono ?_; rintro e w1 ⟨v1, rfl, hm1, hb1⟩; obtain ⟨ao, vc, hv1⟩ := hm1.form; subst hv1; have i0 : w1.cell? ⟨w.heap.size, 0, none⟩ = some (.int .i64 op) := step_cell hb1 (by simp [go_sem]); have i1 : w1.cell? ⟨w.heap.size, 1, none⟩ = some (.int .i64 de) := step_cell hb1 (by simp [go_sem]); have HB1 : Hid (Below w.heap.size w w1) := step_below hb1 (((Below.refl _ _).alloc (Nat.le_refl _) _).alloc (by simp) _); have hr1 := (Row.new (w.alloc (.cells #[.int .i64 op, .int .i64 de, .int .i64 ia, .int .i64 ib, .int .i64 ic, .int .u32 im] 74)) 140 (rowVB .zero .zero .zero (.slice none 0 0) (.slice none 0 0))).below hb1; have hr2 : Row w1 (w.heap.size + 1) 140 (rowVB .zero .zero .zero (.slice none 0 0) (.slice none 0 0)) := (by simpa using hr1); have HR1 : Hid (Row w1 (w.heap.size + 1) 140 (rowVB .zero .zero .zero (.slice none 0 0) (.slice none 0 0))) := hr2; clear hr1 hr2; have hm2 : MvB (w.heap.size + 1 + 1) l (.slice ao l.length vc) w1 := (by simpa using hm1); have HM1 : Hid (MvB (w.heap.size + 1 + 1) l (.slice ao l.length vc) w1) := hm2; clear hb1 hm1 hm2)
  have hz1 := HR1.out.lt
  obtain ⟨w2, hw2⟩ : ∃ w2, w2 = (w1.alloc (.cells #[.int .i64 ra.kind, .int .i64 ra.n, .int .i64 rb.kind, .int .i64 rb.n] 201)).alloc (.cells #[.int .i64 0, .int .i64 0, .int .i64 ra.kind, .int .i64 ra.n, .int .i64 rb.kind, .int .i64 rb.n, .slice ao l.length vc, .slice none 0 0] 140) := ⟨_, rfl⟩
  have hb2 : Below w1.heap.size w1 w2 := by rw [hw2]; exact ((Below.refl _ _).alloc (Nat.le_refl _) _).alloc (by simp) _
  have hr2 : Row w2 (w1.heap.size + 1) 140 (rowVB .zero ra rb (.slice ao l.length vc) (.slice none 0 0)) := by
    have := Row.new (w1.alloc (.cells #[.int .i64 ra.kind, .int .i64 ra.n, .int .i64 rb.kind, .int .i64 rb.n] 201)) 140 (rowVB .zero ra rb (.slice ao l.length vc) (.slice none 0 0))
    rw [show (w1.alloc (.cells #[.int .i64 ra.kind, .int .i64 ra.n, .int .i64 rb.kind, .int .i64 rb.n] 201)).heap.size = w1.heap.size + 1 by simp] at this
    rw [hw2]
    exact this
  have hro : RoS w (w1.heap.size + 1) de .zero ra rb (.slice ao l.length vc) (.slice none 0 0) l [] w2 :=
    ⟨step_below hb2 HB1.out, by omega, step_cell hb2 i1, HR1.out.below hb2, hr2, (HM1.out.below hb2).lower (by omega), World.ownsRow_nil _ _ _ _, ⟨HM1.out.ne (Or.inr (by omega)), HM1.out.ne (Or.inl (by omega))⟩, ⟨by simp [Value.ownBlock], by simp [Value.ownBlock]⟩⟩
  have i0 := step_cell hb2 i0
  rw [← hw2]
  have hlw : w.heap.size < w2.heap.size := World.block_lt_of_cell? _ _ i0
  obtain ⟨br, hbr⟩ : ∃ br, br = w1.heap.size + 1 := ⟨_, rfl⟩
  rw [← hbr] at hro ⊢
  have HRO : Hid (RoS w br de .zero ra rb (.slice ao l.length vc) (.slice none 0 0) l [] w2) := hro
  clear hw2 hb2 hr2 hro i1 hz1 HB1 HR1 HM1 HTA hbr
  go_upto_if 30 with (go_at_call 112; refine (HHas.out _).mono ?_; rintro e w3 ⟨rfl, hb3⟩; have HR3 : Hid (RoS w br de .zero ra rb (.slice ao l.length vc) (.slice none 0 0) l [] w3) := HRO.out.below hb3; clear hb3)
  clear i0 hlw HRO HHas
  go_cut [] (fun wq => ∃ ao2 vc2, RoS w br de rd ra rb (.slice ao l.length vc) (.slice ao2 la.length vc2) l la wq)
  case first =>
    rcases Bool.eq_false_or_eq_true gi with hc | hc
    · obtain ⟨d0, d1⟩ := HID.out hc
      obtain ⟨d, hd⟩ : ∃ d : Nat, de = d := ⟨de.toNat, by omega⟩
      subst hd
      rw [hc] at HRD HMD
      rw [Int.toNat_natCast] at HRD HMD
      have HRX : Hid (rd = regL B H d f0) := HRD.out
      have HMX : Hid (la = bringL [] (H.getD d .zero) (regL B H d f0)) := HMD.out
      subst hc
      clear HRD HMD HID
      have hdl : d < B.length := by omega
      have yt : (d : Int) < (B.length : Int) := by omega
      have yt0 : (0 : Int) ≤ (d : Int) := by omega
      have hbd := HBD.out.later HR3.out.bel
      have p2 := hbd.p2
      have p4 := hbd.p4
      obtain ⟨e0, e1⟩ := hbd.row d (by rw [hbd.len]; exact hdl)
      have hgv0 : gv < w.heap.size := World.block_lt_of_cell? _ _ (HBD.out.row d (by rw [HBD.out.len]; exact hdl)).1
      have i1 := HR3.out.i1
      have hlo := HR3.out.lo
      have hsz := HR3.out.bel.size
      have hl0 : w.heap.size < w3.heap.size := World.block_lt_of_cell? _ _ i1
      have hbb3 : bb < w3.heap.size := by omega
      have hgv3 : gv < w3.heap.size := by omega
      have HRG : Hid (∀ wx, Below w3.heap.size w3 wx → Calls Tryz.prog 136 #[.pointer (some ⟨bb, 0, none⟩), .int .i64 (d : Nat), .int .i64 f0] wx fun e w' => RegP B H d f0 wx e w') := fun wx hb => registerO (hbd.later hb) d hdl f0 hf0.1 hf0.2
      unfold RegP at HRG
      rw [← HRX.out] at HRG HMX
      obtain ⟨q, hq⟩ : ∃ q, q = H.getD d .zero := ⟨_, rfl⟩
      rw [← hq] at e0 e1 HMX
      clear hbd hq d0 d1
      have r0 : w3.cell? ⟨br, 0, none⟩ = some (.int .i64 0) := HR3.out.row.cell 0
      have r1 : w3.cell? ⟨br, 1, none⟩ = some (.int .i64 0) := HR3.out.row.cell 1
      have hbr3 : br < w3.heap.size := World.block_lt_of_cell? _ _ r0
      clear HRX
      go_upto_region 5 with fail
      go_region_held3 (fun w' => w'.cell? ⟨w.heap.size, 1, none⟩ = some (.int .i64 (d : Int)) ∧ w'.cell? ⟨bb, 4, none⟩ = some (.int .i64 f0))
        ((go_split_ands; refine ⟨?_, ?_⟩ <;> first | exact step_cell hbc (by assumption) | assumption | exact cell_other (cell_other (by assumption) (by dsimp only; omega)) (by dsimp only; omega) | (go_keep; done)))
        (first
          | (go_at_call 136; refine (HRG.out _ (Below.refl _ _).drew).mono ?_; rintro e w4 ⟨rfl, hbc⟩; unfold LPlace.val; have hbc3 : Below w3.heap.size w3 w4 := step_below hbc (Below.refl _ _).drew; have HR4 : Hid (RoS w br d .zero ra rb (.slice ao l.length vc) (.slice none 0 0) l [] w4) := HR3.out.below hbc3; have HB4 : Hid (Below w3.heap.size w3 w4) := hbc3; have s0 := step_cell hbc3 r0; have s1 := step_cell hbc3 r1; have z0 : w4.frozen? ⟨br, 0, none⟩ = false := HR4.out.row.frozen 0; have z1 : w4.frozen? ⟨br, 1, none⟩ = false := HR4.out.row.frozen 1; clear hbc3))
      have hr5 := HR4.out.putD rd
      have p2 := step_cell HB4.out p2
      have e0 := step_cell HB4.out e0
      have e1 := step_cell HB4.out e1
      obtain ⟨w5, hw5⟩ : ∃ w5, w5 = (w4.setCell ⟨br, 0, none⟩ (.int .i64 rd.kind)).setCell ⟨br, 1, none⟩ (.int .i64 rd.n) := ⟨_, rfl⟩
      have t2 : w5.cell? ⟨bb, 2, none⟩ = some (.slice (some ⟨gv, 0, none⟩) B.length cap) := by rw [hw5]; exact cell_other (cell_other p2 (by dsimp only; omega)) (by dsimp only; omega)
      have t3 : w5.cell? ⟨gv, d * 2, none⟩ = some (.int .i64 q.kind) := by rw [hw5]; exact cell_other (cell_other e0 (by dsimp only; omega)) (by dsimp only; omega)
      have t4 : w5.cell? ⟨gv, d * 2 + 1, none⟩ = some (.int .i64 q.n) := by rw [hw5]; exact cell_other (cell_other e1 (by dsimp only; omega)) (by dsimp only; omega)
      rw [← hw5] at hr5 ⊢
      have HR5 : Hid (RoS w br d rd ra rb (.slice ao l.length vc) (.slice none 0 0) l [] w5) := hr5
      clear hw5 hr5 HR3 HR4 HB4 hbc s0 s1 z0 z1 r0 r1 i1 p2 p4 e0 e1 HRG hl0 hbb3 hgv3 hbr3 hsz
      have t0 : w5.cell? ⟨br, 0, none⟩ = some (.int .i64 rd.kind) := HR5.out.row.cell 0
      have t1 : w5.cell? ⟨br, 1, none⟩ = some (.int .i64 rd.n) := HR5.out.row.cell 1
      have t7 : w5.cell? ⟨br, 7, none⟩ = some (.slice none 0 0) := HR5.out.row.cell 7
      have i1 := HR5.out.i1
      have hl5 : w.heap.size < w5.heap.size := World.block_lt_of_cell? _ _ i1
      have hb5 : bb < w5.heap.size := by omega
      have hg5 : gv < w5.heap.size := by omega
      have hr5 : br < w5.heap.size := World.block_lt_of_cell? _ _ t0
      have HBR : Hid (∀ wx : World, Calls Tryz.prog 137 #[.slice none 0 0, .agg #[.int .i64 q.kind, .int .i64 q.n], .agg #[.int .i64 rd.kind, .int .i64 rd.n]] wx fun e w' => BringP wx.heap.size [] q rd wx e w') := fun wx => bringO wx.heap.size [] q rd (.slice none 0 0) wx (World.ownsRow_nil _ _ _ _) (Nat.le_refl _) (by simp)
      unfold BringP at HBR
      rw [← HMX.out] at HBR
      clear HMX
      go_upto_region 6 with fail
      go_region_held3 (fun w' => w'.cell? ⟨bb, 2, none⟩ = some (.slice (some ⟨gv, 0, none⟩) B.length cap) ∧ w'.cell? ⟨w.heap.size, 1, none⟩ = some (.int .i64 (d : Int)) ∧ w'.cell? ⟨gv, d * 2, none⟩ = some (.int .i64 q.kind) ∧ w'.cell? ⟨gv, d * 2 + 1, none⟩ = some (.int .i64 q.n) ∧ w'.cell? ⟨br, 0, none⟩ = some (.int .i64 rd.kind) ∧ w'.cell? ⟨br, 1, none⟩ = some (.int .i64 rd.n))
        ((go_split_ands; refine ⟨?_, ?_, ?_, ?_, ?_, ?_⟩ <;> first | exact step_cell hbc (by assumption) | assumption | exact cell_other (by assumption) (by dsimp only; omega) | exact cell_off (by assumption) (by omega) | (go_keep; done)))
        (first
          | (go_at_call 137; refine (HBR.out _).mono ?_; rintro e w6 ⟨v6, rfl, hm6, hbc⟩; have hbc3 : Below w5.heap.size w5 w6 := step_below hbc (Below.refl _ _).drew; obtain ⟨ao2, vc2, hv6⟩ := hm6.form; subst hv6; have HR6 : Hid (RoS w br d rd ra rb (.slice ao l.length vc) (.slice none 0 0) l [] w6) := HR5.out.below hbc3; have hm7 : MvB w5.heap.size la (.slice ao2 la.length vc2) w6 := hm6; have HM6 : Hid (MvB w5.heap.size la (.slice ao2 la.length vc2) w6) := hm7; have s0 := step_cell hbc3 t0; have s1 := step_cell hbc3 t1; have s7 := step_cell hbc3 t7; have z7 : w6.frozen? ⟨br, 7, none⟩ = false := HR6.out.row.frozen 7; clear hbc3 hm6 hm7))
      have hfin := HR6.out.putA (HM6.out.lower (by omega)) ⟨HM6.out.ne (Or.inl hr5), HM6.out.ne (Or.inl (by omega))⟩
      have HFN : Hid (RoS w br d rd ra rb (.slice ao l.length vc) (.slice ao2 la.length vc2) l la (w6.setCell ⟨br, 7, none⟩ (.slice ao2 la.length vc2))) := hfin
      clear hfin
      go_wp2
      go_meet
      case rel => exact ⟨ao2, vc2, HFN.out⟩
    · rw [hc] at HRD HMD
      have hrd : rd = .zero := HRD.out
      have hla : la = [] := HMD.out
      subst hrd
      subst hla
      subst hc
      go_wp2
      go_meet
      case rel => exact ⟨none, 0, HR3.out⟩
  case rest =>
    obtain ⟨ao2, vc2, hro⟩ := hcut
    obtain ⟨wd, hwd⟩ : ∃ wd, wd = wc := ⟨_, rfl⟩
    rw [← hwd] at hro ⊢
    clear hwd HR3 HRD HMD HID
    have HRO : Hid (RoS w br de rd ra rb (.slice ao l.length vc) (.slice ao2 la.length vc2) l la wd) := hro
    have t0 : wd.cell? ⟨br, 0, none⟩ = some (.int .i64 rd.kind) := hro.row.cell 0
    have t1 : wd.cell? ⟨br, 1, none⟩ = some (.int .i64 rd.n) := hro.row.cell 1
    have t2 : wd.cell? ⟨br, 2, none⟩ = some (.int .i64 ra.kind) := hro.row.cell 2
    have t3 : wd.cell? ⟨br, 3, none⟩ = some (.int .i64 ra.n) := hro.row.cell 3
    have t4 : wd.cell? ⟨br, 4, none⟩ = some (.int .i64 rb.kind) := hro.row.cell 4
    have t5 : wd.cell? ⟨br, 5, none⟩ = some (.int .i64 rb.n) := hro.row.cell 5
    have t6 : wd.cell? ⟨br, 6, none⟩ = some (.slice ao l.length vc) := hro.row.cell 6
    have t7 : wd.cell? ⟨br, 7, none⟩ = some (.slice ao2 la.length vc2) := hro.row.cell 7
    have s0 : wd.cell? ⟨w.heap.size + 1, 0, none⟩ = some (.int .i64 0) := hro.res.cell 0
    have s1 : wd.cell? ⟨w.heap.size + 1, 1, none⟩ = some (.int .i64 0) := hro.res.cell 1
    have s2 : wd.cell? ⟨w.heap.size + 1, 2, none⟩ = some (.int .i64 0) := hro.res.cell 2
    have s3 : wd.cell? ⟨w.heap.size + 1, 3, none⟩ = some (.int .i64 0) := hro.res.cell 3
    have s4 : wd.cell? ⟨w.heap.size + 1, 4, none⟩ = some (.int .i64 0) := hro.res.cell 4
    have s5 : wd.cell? ⟨w.heap.size + 1, 5, none⟩ = some (.int .i64 0) := hro.res.cell 5
    have s6 : wd.cell? ⟨w.heap.size + 1, 6, none⟩ = some (.slice none 0 0) := hro.res.cell 6
    have s7 : wd.cell? ⟨w.heap.size + 1, 7, none⟩ = some (.slice none 0 0) := hro.res.cell 7
    have zf : ∀ j, wd.frozen? ⟨w.heap.size + 1, j, none⟩ = false := fun j => hro.res.frozen j
    clear hro
    go_wp2
    have hfin := HRO.out.fin (.int .i64 rd.kind) (.int .i64 rd.n) (.int .i64 ra.kind) (.int .i64 ra.n) (.int .i64 rb.kind) (.int .i64 rb.n) (.slice ao l.length vc) (.slice ao2 la.length vc2) _ rfl
    refine bodyPost_ret (v := .agg #[.int .i64 rd.kind, .int .i64 rd.n, .int .i64 ra.kind, .int .i64 ra.n, .int .i64 rb.kind, .int .i64 rb.n, .slice ao l.length vc, .slice ao2 la.length vc2]) ?_ rfl (HRP.out _ _ _ hfin.1 hfin.2.1 hfin.2.2)
    simp [results, Tryz.results99, go_sem, s0, s1, s2, s3, s4, s5, s6, s7]
end form
/- The places of a program, row by row (build.builder.placed). -/
namespace form
open Go.RowKit
set_option maxRecDepth 100000
attribute [local go_sem ↓] Go.wp_at_zero Go.wp_at_succ
structure PdS (w : World) (slots : Int) (L : List (LRow × Value × Value)) (v : Value) (wr : World) : Prop where
  bel : Below w.heap.size w wr
  sz : w.heap.size + 2 ≤ wr.heap.size
  res : Row wr w.heap.size 98 [.int .i64 0, .slice none 0 0]
  lv : Row wr (w.heap.size + 1) 98 [.int .i64 slots, v]
  rows : RW (w.heap.size + 2) L v wr
section
variable {w : World} {slots : Int} {L : List (LRow × Value × Value)} {v : Value} {wr w1 : World}
theorem PdS.below (h : PdS w slots L v wr) (hb : Below wr.heap.size wr w1) : PdS w slots L v w1 :=
  ⟨step_below hb h.bel, Nat.le_trans h.sz hb.size, h.res.below hb, h.lv.below hb, h.rows.below hb⟩
theorem PdS.own_ge (h : PdS w slots L v wr) {b : Nat} (e : v.ownBlock = some b) : w.heap.size + 2 ≤ b ∧ b < wr.heap.size := World.ownsRow.lt h.rows.own b e
theorem PdS.push (h : PdS w slots L v wr) {x : LRow × Value × Value} (hx : MvOkC (w.heap.size + 2) v.ownBlock wr x.2.1 x.1.before ∧ MvOkC (w.heap.size + 2) v.ownBlock wr x.2.2 x.1.after) {g cap : Nat} (hown : w1.ownsRow (w.heap.size + 2) 140 8 (.slice (some ⟨g, 0, none⟩) (L.length + 1) cap) (L.length + 1) (L.flatMap rowC ++ rowC x)) (hgrow : wr.grownBy w1 v.ownBlock) (hat : v.ownBlock = some g ∨ g = wr.heap.size) :
    PdS w slots (L ++ [x]) (.slice (some ⟨g, 0, none⟩) (L.length + 1) cap) (w1.setCell ⟨w.heap.size + 1, 1, none⟩ (.slice (some ⟨g, 0, none⟩) (L.length + 1) cap)) := by
  have hne : ∀ b, b < w.heap.size + 2 → some b ≠ v.ownBlock := fun b hb e => by have := (h.own_ge e.symm).1; omega
  refine ⟨(h.bel.grown hgrow (by have := h.sz; omega) (fun j hj => by have := (h.own_ge hj).1; omega)).setCell (by dsimp only; omega) _, ?_, ?_, ?_, ?_⟩
  · have := hgrow.size; have := h.sz; simp [World.setCell]; omega
  · exact (h.res.grown hgrow (hne _ (by omega))).other (by dsimp only; omega) _
  · exact (h.lv.grown hgrow (hne _ (by omega))).set 1 _
  · exact (h.rows.push hx hown hgrow hat).setCell (by dsimp only; omega) _
end
def PlacedP (B : List Bool) (C : List LIns) (H : List LPlace) (slots f0 f1 : Int) (w : World) (e : Ending) (w' : World) : Prop :=
  ∃ L ao cap, e = .returned (.agg #[.int .i64 slots, .slice ao C.length cap]) ∧ RW (w.heap.size + 2) L (.slice ao C.length cap) w' ∧ L.map (·.1) = C.map (rowL B H f0 f1) ∧ Below w.heap.size w w'
theorem rowL_len (B : List Bool) (H : List LPlace) (f0 f1 : Int) (i : LIns) : (rowL B H f0 f1 i).before.length ≤ 2 ∧ (rowL B H f0 f1 i).after.length ≤ 1 := by
  have h1 := rowMA_len B H f0 i
  refine ⟨?_, ?_⟩
  · show (rowMB B H f1 i (rowMA B H f0 i)).length ≤ 2
    unfold rowMB
    split
    · have := bringL_len (rowMA B H f0 i) (regL B H i.b.toNat f1) (H.getD i.b.toNat .zero); omega
    · omega
  · show (rowMD B H f0 i).length ≤ 1
    unfold rowMD
    split
    · exact bringL_len [] _ _
    · simp
theorem take_map {B : List Bool} {H : List LPlace} {f0 f1 : Int} {C : List LIns} {k : Nat} (hk : k < C.length) {x : LIns} (hx : x = C.getD k .zero) : (C.take (k + 1)).map (rowL B H f0 f1) = (C.take k).map (rowL B H f0 f1) ++ [rowL B H f0 f1 x] := by
  have e : C.take (k + 1) = C.take k ++ [C.getD k .zero] := by
    rw [List.take_add_one]
    simp [List.getD, hk]
  rw [e, List.map_append, hx]
  rfl
set_option maxHeartbeats 4000000 in
theorem placedO {bb b0 o0 c0 b1 o1 c1 gv cap : Nat} {B : List Bool} {C : List LIns} {H : List LPlace} {slots f0 f1 : Int} {w : World} (h : BdR bb b0 o0 c0 b1 o1 c1 gv cap B C H slots f0 f1 w) (h12 : B.length ≤ 12) (h40 : C.length ≤ 40) (hf0 : 0 ≤ f0 ∧ f0 ≤ 100) (hf1 : 0 ≤ f1 ∧ f1 ≤ 100) (hi : ∀ k, k < C.length → InsOk B.length C.length (C.getD k .zero) ∧ knownB (C.getD k .zero).op = true) :
    Calls Tryz.prog 68 #[.pointer (some ⟨bb, 0, none⟩)] w fun e w' => PlacedP B C H slots f0 f1 w e w' := by
  have HBD : Hid (BdR bb b0 o0 c0 b1 o1 c1 gv cap B C H slots f0 f1 w) := h
  have HI : Hid (∀ k, k < C.length → InsOk B.length C.length (C.getD k .zero) ∧ knownB (C.getD k .zero).op = true) := hi
  have p1 := h.p1
  have p3 := h.p3
  have hlt0 : bb < w.heap.size := World.block_lt_of_cell? _ _ p1
  have hlt1 : bb < w.heap.size + 1 := by omega
  have y40 : (C.length : Int) ≤ 40 := by omega
  clear h hi
  go_enter Tryz.func68, Tryz.ntmps68
  go_wp2
  have HPD : Hid (PdS w slots [] (.slice none 0 0) ((w.alloc (.cells #[.int .i64 0, .slice none 0 0] 98)).alloc (.cells #[.int .i64 slots, .slice none 0 0] 98))) :=
    ⟨((Below.refl _ _).alloc (Nat.le_refl _) _).alloc (by simp) _, by simp, (Row.new w 98 [.int .i64 0, .slice none 0 0]).alloc _, by have := Row.new (w.alloc (.cells #[.int .i64 0, .slice none 0 0] 98)) 98 [.int .i64 slots, .slice none 0 0]; rw [show (w.alloc (.cells #[.int .i64 0, .slice none 0 0] 98)).heap.size = w.heap.size + 1 by simp] at this; exact this, ⟨World.ownsRow_nil _ _ _ _, fun x hx => by simp at hx⟩⟩
  clear p1 p3 hlt1
  go_loopg [5, 17] (C.length + 1) (fun gg v5 v17 wr => ∃ (k : Nat) (L : List (LRow × Value × Value)) (v : Value), v17 = .int .i64 k ∧ k ≤ C.length ∧ gg = C.length + 1 - k ∧ PdS w slots L v wr ∧ L.map (·.1) = (C.take k).map (rowL B H f0 f1))
  case atStart => exact ⟨0, [], .slice none 0 0, rfl, by omega, by omega, HPD.out, by simp⟩
  case round =>
    clear HPD
    obtain ⟨k, L, v, rfl, hk, hgk, hpd, hLm⟩ := hrel
    have HGK : Hid (gk = C.length + 1 - k) := hgk
    have HLM : Hid (L.map (·.1) = (C.take k).map (rowL B H f0 f1)) := hLm
    have hLl : L.length = k := by have := congrArg List.length hLm; simp at this; omega
    obtain ⟨vo, vc, hv⟩ := hpd.rows.form
    subst hv
    have HPD : Hid (PdS w slots L (.slice vo L.length vc) wr) := hpd
    have hsz := hpd.sz
    have l0 : wr.cell? ⟨w.heap.size + 1, 0, none⟩ = some (.int .i64 slots) := hpd.lv.cell 0
    have l1 : wr.cell? ⟨w.heap.size + 1, 1, none⟩ = some (.slice vo L.length vc) := hpd.lv.cell 1
    have HLL : Hid (L.length = k) := hLl
    clear hgk hLm hpd hLl
    by_cases hlt : k < C.length
    case neg =>
      have y2 : ¬ (k : Int) < (C.length : Int) := by omega
      have s0 : wr.cell? ⟨w.heap.size, 0, none⟩ = some (.int .i64 0) := HPD.out.res.cell 0
      have s1 : wr.cell? ⟨w.heap.size, 1, none⟩ = some (.slice none 0 0) := HPD.out.res.cell 1
      have zf : ∀ j, wr.frozen? ⟨w.heap.size, j, none⟩ = false := fun j => HPD.out.res.frozen j
      go_wp2
      have hL2 := HLL.out
      have hrw := (HPD.out.rows.setCell (a := ⟨w.heap.size, 0, none⟩) (by dsimp only; omega) (.int .i64 slots)).setCell (a := ⟨w.heap.size, 1, none⟩) (by dsimp only; omega) (.slice vo L.length vc)
      have hpl := HLM.out
      rw [List.take_of_length_le (by omega)] at hpl
      have hLC : L.length = C.length := by omega
      refine bodyPost_ret (v := .agg #[.int .i64 slots, .slice vo L.length vc]) ?_ rfl ⟨L, vo, vc, by rw [hLC], by rw [← hLC]; exact hrw, hpl, ((HPD.out.bel.setCell (by dsimp only; omega) _).setCell (by dsimp only; omega) _)⟩
      simp [results, Tryz.results68, go_sem, s0, s1]
    have y2 : (k : Int) < (C.length : Int) := by omega
    have y3 : (0 : Int) ≤ (k : Int) := by omega
    obtain ⟨hio, hkn⟩ := HI.out k hlt
    have hbd := HBD.out.later HPD.out.bel
    obtain ⟨e0, e1, e2, e3, e4, e5⟩ := hbd.held.code k hlt
    obtain ⟨i, hie⟩ : ∃ i, i = C.getD k .zero := ⟨_, rfl⟩
    rw [← hie] at e0 e1 e2 e3 e4 e5 hio hkn
    have HIE : Hid (i = C.getD k .zero) := hie
    clear hie
    have hb1l : b1 < wr.heap.size := World.block_lt_of_cell? _ _ e0
    obtain ⟨rl, hrl⟩ : ∃ rl, rl = rowL B H f0 f1 i := ⟨_, rfl⟩
    have HRL : Hid (rl = rowL B H f0 f1 i) := hrl
    have HRO : Hid (∀ wx : World, Below wr.heap.size wr wx → Calls Tryz.prog 99 #[.pointer (some ⟨bb, 0, none⟩), .agg #[.int .i64 i.op, .int .i64 i.dest, .int .i64 i.a, .int .i64 i.b, .int .i64 i.c, .int .u32 i.n]] wx fun e w' => RowP B H f0 f1 i wx e w') := fun wx hb => buildRowO (hbd.later hb) h12 hf0 hf1 i hio hkn
    unfold RowP at HRO
    rw [← hrl] at HRO
    clear hrl hbd hio hkn
    obtain ⟨op, hop⟩ : ∃ op, op = i.op := ⟨_, rfl⟩
    obtain ⟨de, hde⟩ : ∃ de, de = i.dest := ⟨_, rfl⟩
    obtain ⟨ia, hia⟩ : ∃ ia, ia = i.a := ⟨_, rfl⟩
    obtain ⟨ib, hib⟩ : ∃ ib, ib = i.b := ⟨_, rfl⟩
    obtain ⟨ic, hic⟩ : ∃ ic, ic = i.c := ⟨_, rfl⟩
    obtain ⟨im, him⟩ : ∃ im, im = i.n := ⟨_, rfl⟩
    rw [← hop, ← hde, ← hia, ← hib, ← hic, ← him] at HRO
    rw [← hop] at e0
    rw [← hde] at e1
    rw [← hia] at e2
    rw [← hib] at e3
    rw [← hic] at e4
    rw [← him] at e5
    clear hop hde hia hib hic him
    go_upto_region 5 with fail
    obtain ⟨w4, hw4⟩ : ∃ w4, w4 = wr.alloc (.cells #[.int .i64 op, .int .i64 de, .int .i64 ia, .int .i64 ib, .int .i64 ic, .int .u32 im] 74) := ⟨_, rfl⟩
    have hb4 : Below wr.heap.size wr w4 := by rw [hw4]; exact (Below.refl _ _).alloc (Nat.le_refl _) _
    have hr4 : Row w4 wr.heap.size 74 [.int .i64 op, .int .i64 de, .int .i64 ia, .int .i64 ib, .int .i64 ic, .int .u32 im] := by rw [hw4]; exact Row.new _ _ _
    rw [← hw4]
    clear hw4
    obtain ⟨bx, hbx⟩ : ∃ bx, bx = wr.heap.size := ⟨_, rfl⟩
    rw [← hbx] at hr4 ⊢
    have hx2 : w.heap.size + 2 ≤ bx := by omega
    have HB4 : Hid (Below wr.heap.size wr w4) := hb4
    have HP4 : Hid (PdS w slots L (.slice vo L.length vc) w4) := HPD.out.below hb4
    have HR4 : Hid (Row w4 bx 74 [.int .i64 op, .int .i64 de, .int .i64 ia, .int .i64 ib, .int .i64 ic, .int .u32 im]) := hr4
    have l1 := step_cell hb4 l1
    have hl1 : w.heap.size + 1 < w4.heap.size := World.block_lt_of_cell? _ _ l1
    have hxv : (Value.slice vo L.length vc).ownBlock ≠ some bx := fun e => by have := (HPD.out.own_ge e).2; omega
    have HXV : Hid ((Value.slice vo L.length vc).ownBlock ≠ some bx) := hxv
    have hLk : L.length ≤ 40 := by have := HLL.out; omega
    clear hb4 hr4 e0 e1 e2 e3 e4 e5 hb1l hbx hxv l0 HPD
    obtain ⟨t0', hi0, hy0, hy1, hy2⟩ := info_parts (P := Tryz.prog) (e := 140) (z := .agg #[.int .i64 0, .int .i64 0, .int .i64 0, .int .i64 0, .int .i64 0, .int .i64 0, .slice none 0 0, .slice none 0 0]) (size := 8) (bytes := 96) (by kernel_rfl)
    refine wp_region_held_drew (S := (fun w' => Row w' bx 74 [.int .i64 op, .int .i64 de, .int .i64 ia, .int .i64 ib, .int .i64 ic, .int .u32 im])) (by rfl) ?_ (fun hHeld => ?_)
    · (exact HR4.out)
    refine wpAnyH_take (i := 0) (v := ?_) rfl (by kernel_rfl) (by kernel_rfl) (by kernel_rfl) (fun _ _ _ h => h) (Or.inl ⟨by rfl, ?_⟩) (by assumption) ?_
    case refine_2 => (intro w hSw; (try dsimp only at hSw); go_simp; try with_reducible rfl)
    show wpAnyH _ _ _ _ _ _ _ (Act.put _ (some 21) _) _
    simp only [pz]
    refine wpAnyH_take (i := 2) (v := ?_) rfl (by kernel_rfl) (by kernel_rfl) (by kernel_rfl) (fun _ _ _ h => h) (Or.inl ⟨by rfl, ?_⟩) (by assumption) ?_
    case refine_2 => (intro w hSw; (try dsimp only at hSw); go_simp; try with_reducible rfl)
    show wpAnyH _ _ _ _ _ _ _ (Act.put _ (some 23) _) _
    simp only [pz]
    refine wpAnyH_take (i := 3) (v := ?_) rfl (by kernel_rfl) (by kernel_rfl) (by kernel_rfl) (fun _ _ _ h => h) (Or.inl ⟨by rfl, ?_⟩) (by assumption) ?_
    case refine_2 => (intro w5 hSw; (try dsimp only at hSw); have q0 : w5.cell? ⟨bx, 0, none⟩ = some (.int .i64 op) := hSw.cell 0; have q1 : w5.cell? ⟨bx, 1, none⟩ = some (.int .i64 de) := hSw.cell 1; have q2 : w5.cell? ⟨bx, 2, none⟩ = some (.int .i64 ia) := hSw.cell 2; have q3 : w5.cell? ⟨bx, 3, none⟩ = some (.int .i64 ib) := hSw.cell 3; have q4 : w5.cell? ⟨bx, 4, none⟩ = some (.int .i64 ic) := hSw.cell 4; have q5 : w5.cell? ⟨bx, 5, none⟩ = some (.int .u32 im) := hSw.cell 5; go_simp; try with_reducible rfl)
    show wpAnyH _ _ _ _ _ _ _ (Act.put _ (some 24) _) _
    simp only [pz]
    have HL6 : Hid ((rowL B H f0 f1 i).before.length ≤ 2 ∧ (rowL B H f0 f1 i).after.length ≤ 1) := rowL_len B H f0 f1 i
    refine wpAnyH_ready (rs := [1, 4]) (by kernel_rfl) (by simp) ?_
    refine (AllReadyH.cons rfl (fun K hK => ?_) (AllReadyH.cons rfl (fun K hK => ?_) AllReadyH.nil))
    · go_simp
      refine hK.out _ _ ?_ (fun hHeld => ?_)
      · (assumption)
      clear hK K
      try simp only [pz]
      refine wpAnyH_ready (rs := [4]) (by kernel_rfl) (by simp) ?_
      refine (AllReadyH.cons rfl (fun K hK => ?_) AllReadyH.nil)
      go_simp
      refine (HRO.out _ (step_below (Below.refl _ _).drew HB4.out)).mono ?_
      rintro e w5 ⟨vb, va, rfl, hmb, hma, hbd⟩
      obtain ⟨bo, bc, hvb⟩ := hmb.form
      subst hvb
      obtain ⟨ao, ac, hva⟩ := hma.form
      subst hva
      have hb5 : Below w4.heap.size w4 w5 := step_below hbd ((Below.refl _ _).drew)
      have HB5 : Hid (Below w4.heap.size w4 w5) := hb5
      have HP5 : Hid (PdS w slots L (.slice vo L.length vc) w5) := HP4.out.below hb5
      have HR5 : Hid (Row w5 bx 74 [.int .i64 op, .int .i64 de, .int .i64 ia, .int .i64 ib, .int .i64 ic, .int .u32 im]) := HR4.out.below hb5
      have HMB : Hid (MvB w4.heap.size rl.before (.slice bo rl.before.length bc) w5) := hmb
      have HMA : Hid (MvB w4.heap.size rl.after (.slice ao rl.after.length ac) w5) := hma
      have l15 := step_cell hb5 l1
      have hl5 : w.heap.size + 1 < w5.heap.size := World.block_lt_of_cell? _ _ l15
      clear hmb hma hbd hb5
      go_wp2_with fail
      refine hK.out _ _ ?_ (fun hHeld => ?_)
      · (exact HR5.out)
      clear hK K
      try simp only [pz]
      refine wpAnyH_ready (rs := [5]) (by kernel_rfl) (by simp) ?_
      refine (AllReadyH.cons rfl (fun K hK => ?_) AllReadyH.nil)
      go_simp
      refine hK.out _ _ ?_ (fun hHeld => ?_)
      · (exact HR5.out.alloc _)
      clear hK K
      try simp only [pz]
      have HP6 : Hid (PdS w slots L (.slice vo L.length vc) (w5.alloc (.cells #[.int .i64 rl.dest.kind, .int .i64 rl.dest.n, .int .i64 rl.a.kind, .int .i64 rl.a.n, .int .i64 rl.b.kind, .int .i64 rl.b.n, .slice bo rl.before.length bc, .slice ao rl.after.length ac] 140))) := HP5.out.below ((Below.refl _ _).alloc (Nat.le_refl _) _)
      refine wpAnyH_ready (rs := [6]) (by kernel_rfl) (by simp) ?_
      refine (AllReadyH.cons rfl (fun K hK => ?_) AllReadyH.nil)
      (refine step_append_lies _ (by rfl) _ _ _ (by rfl) (w.heap.size + 2) 140 t0' _ 8 96 Tryz.underlying96 hi0 hy0 hy1 hy2 rfl (by omega) (.slice vo L.length vc) L.length (L.flatMap rowC) (by rfl) HP6.out.rows.own
          ⟨w5.heap.size, 0, none⟩ 1 1 [.int .i64 rl.dest.kind, .int .i64 rl.dest.n, .int .i64 rl.a.kind, .int .i64 rl.a.n, .int .i64 rl.b.kind, .int .i64 rl.b.n, .slice bo rl.before.length bc, .slice ao rl.after.length ac] (by rfl) (by rfl) (World.news_of_block (cs := #[.int .i64 rl.dest.kind, .int .i64 rl.dest.n, .int .i64 rl.a.kind, .int .i64 rl.a.n, .int .i64 rl.b.kind, .int .i64 rl.b.n, .slice bo rl.before.length bc, .slice ao rl.after.length ac]) (t := 140) (fr := (0, 0)) (heap_alloc_new w5 _)) (by simp [Value.oneCell'])
          (by omega) (by unfold maxLen; omega) (by omega) (by simp; omega) (w5.heap.size + 1) (by simp) ?_; intro g2 cap2 w7 hown1 hgrow hat hlt3)
      have hsz4 := HP4.out.sz
      have hmvb : MvOkC (w.heap.size + 2) (Value.slice vo L.length vc).ownBlock (w5.alloc (.cells #[.int .i64 rl.dest.kind, .int .i64 rl.dest.n, .int .i64 rl.a.kind, .int .i64 rl.a.n, .int .i64 rl.b.kind, .int .i64 rl.b.n, .slice bo rl.before.length bc, .slice ao rl.after.length ac] 140)) (.slice bo rl.before.length bc) rl.before := own_mv (lo := w4.heap.size) (HMB.out.below ((Below.refl _ _).alloc (Nat.le_refl _) _)) (by have := HL6.out; rw [HRL.out]; omega) hsz4 (fun b hb e => by have := (HP4.out.own_ge e.symm).2; omega)
      have hmva : MvOkC (w.heap.size + 2) (Value.slice vo L.length vc).ownBlock (w5.alloc (.cells #[.int .i64 rl.dest.kind, .int .i64 rl.dest.n, .int .i64 rl.a.kind, .int .i64 rl.a.n, .int .i64 rl.b.kind, .int .i64 rl.b.n, .slice bo rl.before.length bc, .slice ao rl.after.length ac] 140)) (.slice ao rl.after.length ac) rl.after := own_mv (lo := w4.heap.size) (HMA.out.below ((Below.refl _ _).alloc (Nat.le_refl _) _)) (by have := HL6.out; rw [HRL.out]; omega) hsz4 (fun b hb e => by have := (HP4.out.own_ge e.symm).2; omega)
      have hpush := HP6.out.push (x := (rl, .slice bo rl.before.length bc, .slice ao rl.after.length ac)) ⟨hmvb, hmva⟩ hown1 hgrow (by rcases hat with hat | hat; exact Or.inl hat; exact Or.inr (by rw [hat]; simp))
      have HPU : Hid (PdS w slots (L ++ [(rl, .slice bo rl.before.length bc, .slice ao rl.after.length ac)]) (.slice (some ⟨g2, 0, none⟩) (L.length + 1) cap2) (w7.setCell ⟨w.heap.size + 1, 1, none⟩ (.slice (some ⟨g2, 0, none⟩) (L.length + 1) cap2))) := hpush
      have hne1 : some (w.heap.size + 1) ≠ (Value.slice vo L.length vc).ownBlock := fun e => by have := (HP4.out.own_ge e.symm).1; omega
      have cz : w7.cell? ⟨w.heap.size + 1, 1, none⟩ = some (.slice vo L.length vc) := hgrow.cell (HP6.out.lv.cell 1) hne1
      have fz : w7.frozen? ⟨w.heap.size + 1, 1, none⟩ = false := (HP6.out.lv.grown hgrow hne1).frozen 1
      have HR7 : Hid (Row w7 bx 74 [.int .i64 op, .int .i64 de, .int .i64 ia, .int .i64 ib, .int .i64 ic, .int .u32 im]) := Row.grown (HR5.out.alloc _) hgrow (fun e => HXV.out e.symm)
      clear hmvb hmva hpush hown1 hgrow hat hne1 hsz4
      refine hK.out _ _ ?_ (fun hHeld => ?_)
      · (exact HR7.out)
      clear hK K
      show wpAnyH _ _ _ _ _ _ _ (Act.put _ (some 27) _) _
      simp only [pz]
      refine wpAnyH_take (i := 7) (v := ?_) rfl (by kernel_rfl) (by kernel_rfl) (by kernel_rfl) (fun _ _ _ h => h) (Or.inl ⟨by rfl, ?_⟩) (by assumption) ?_
      case refine_2 => (intro w hSw; (try dsimp only at hSw); go_simp; try with_reducible rfl)
      show wpAnyH _ _ _ _ _ _ _ (Act.put _ (some 28) _) _
      simp only [pz]
      refine wpAnyH_ready (rs := [8]) (by kernel_rfl) (by simp) ?_
      refine (AllReadyH.cons rfl (fun K hK => ?_) AllReadyH.nil)
      go_simp
      refine hK.out _ _ ?_ (fun hHeld => ?_)
      · (exact HR7.out.other (by dsimp only; omega) _)
      clear hK K
      try simp only [pz]
      refine wpAnyH_done (by kernel_rfl) ?_ _
      clear hHeld
      go_wp2
      have hgk := HGK.out
      go_roundg (gk - 1)
      case measure => omega
      case rel => exact ⟨k + 1, _, _, by go_num, by omega, by omega, HPU.out, by rw [List.map_append, HLM.out, take_map hlt HIE.out, HRL.out]; rfl⟩
    · go_simp
      refine (HRO.out _ (step_below (Below.refl _ _).drew HB4.out)).mono ?_
      rintro e w5 ⟨vb, va, rfl, hmb, hma, hbd⟩
      obtain ⟨bo, bc, hvb⟩ := hmb.form
      subst hvb
      obtain ⟨ao, ac, hva⟩ := hma.form
      subst hva
      have hb5 : Below w4.heap.size w4 w5 := step_below hbd ((Below.refl _ _).drew)
      have HB5 : Hid (Below w4.heap.size w4 w5) := hb5
      have HP5 : Hid (PdS w slots L (.slice vo L.length vc) w5) := HP4.out.below hb5
      have HR5 : Hid (Row w5 bx 74 [.int .i64 op, .int .i64 de, .int .i64 ia, .int .i64 ib, .int .i64 ic, .int .u32 im]) := HR4.out.below hb5
      have HMB : Hid (MvB w4.heap.size rl.before (.slice bo rl.before.length bc) w5) := hmb
      have HMA : Hid (MvB w4.heap.size rl.after (.slice ao rl.after.length ac) w5) := hma
      have l15 := step_cell hb5 l1
      have hl5 : w.heap.size + 1 < w5.heap.size := World.block_lt_of_cell? _ _ l15
      clear hmb hma hbd hb5
      go_wp2_with fail
      refine hK.out _ _ ?_ (fun hHeld => ?_)
      · (exact HR5.out)
      clear hK K
      try simp only [pz]
      refine wpAnyH_ready (rs := [1, 5]) (by kernel_rfl) (by simp) ?_
      refine (AllReadyH.cons rfl (fun K hK => ?_) (AllReadyH.cons rfl (fun K hK => ?_) AllReadyH.nil))
      · go_simp
        refine hK.out _ _ ?_ (fun hHeld => ?_)
        · (assumption)
        clear hK K
        try simp only [pz]
        refine wpAnyH_ready (rs := [5]) (by kernel_rfl) (by simp) ?_
        refine (AllReadyH.cons rfl (fun K hK => ?_) AllReadyH.nil)
        go_simp
        refine hK.out _ _ ?_ (fun hHeld => ?_)
        · (exact HR5.out.alloc _)
        clear hK K
        try simp only [pz]
        have HP6 : Hid (PdS w slots L (.slice vo L.length vc) (w5.alloc (.cells #[.int .i64 rl.dest.kind, .int .i64 rl.dest.n, .int .i64 rl.a.kind, .int .i64 rl.a.n, .int .i64 rl.b.kind, .int .i64 rl.b.n, .slice bo rl.before.length bc, .slice ao rl.after.length ac] 140))) := HP5.out.below ((Below.refl _ _).alloc (Nat.le_refl _) _)
        refine wpAnyH_ready (rs := [6]) (by kernel_rfl) (by simp) ?_
        refine (AllReadyH.cons rfl (fun K hK => ?_) AllReadyH.nil)
        (refine step_append_lies _ (by rfl) _ _ _ (by rfl) (w.heap.size + 2) 140 t0' _ 8 96 Tryz.underlying96 hi0 hy0 hy1 hy2 rfl (by omega) (.slice vo L.length vc) L.length (L.flatMap rowC) (by rfl) HP6.out.rows.own
            ⟨w5.heap.size, 0, none⟩ 1 1 [.int .i64 rl.dest.kind, .int .i64 rl.dest.n, .int .i64 rl.a.kind, .int .i64 rl.a.n, .int .i64 rl.b.kind, .int .i64 rl.b.n, .slice bo rl.before.length bc, .slice ao rl.after.length ac] (by rfl) (by rfl) (World.news_of_block (cs := #[.int .i64 rl.dest.kind, .int .i64 rl.dest.n, .int .i64 rl.a.kind, .int .i64 rl.a.n, .int .i64 rl.b.kind, .int .i64 rl.b.n, .slice bo rl.before.length bc, .slice ao rl.after.length ac]) (t := 140) (fr := (0, 0)) (heap_alloc_new w5 _)) (by simp [Value.oneCell'])
            (by omega) (by unfold maxLen; omega) (by omega) (by simp; omega) (w5.heap.size + 1) (by simp) ?_; intro g2 cap2 w7 hown1 hgrow hat hlt3)
        have hsz4 := HP4.out.sz
        have hmvb : MvOkC (w.heap.size + 2) (Value.slice vo L.length vc).ownBlock (w5.alloc (.cells #[.int .i64 rl.dest.kind, .int .i64 rl.dest.n, .int .i64 rl.a.kind, .int .i64 rl.a.n, .int .i64 rl.b.kind, .int .i64 rl.b.n, .slice bo rl.before.length bc, .slice ao rl.after.length ac] 140)) (.slice bo rl.before.length bc) rl.before := own_mv (lo := w4.heap.size) (HMB.out.below ((Below.refl _ _).alloc (Nat.le_refl _) _)) (by have := HL6.out; rw [HRL.out]; omega) hsz4 (fun b hb e => by have := (HP4.out.own_ge e.symm).2; omega)
        have hmva : MvOkC (w.heap.size + 2) (Value.slice vo L.length vc).ownBlock (w5.alloc (.cells #[.int .i64 rl.dest.kind, .int .i64 rl.dest.n, .int .i64 rl.a.kind, .int .i64 rl.a.n, .int .i64 rl.b.kind, .int .i64 rl.b.n, .slice bo rl.before.length bc, .slice ao rl.after.length ac] 140)) (.slice ao rl.after.length ac) rl.after := own_mv (lo := w4.heap.size) (HMA.out.below ((Below.refl _ _).alloc (Nat.le_refl _) _)) (by have := HL6.out; rw [HRL.out]; omega) hsz4 (fun b hb e => by have := (HP4.out.own_ge e.symm).2; omega)
        have hpush := HP6.out.push (x := (rl, .slice bo rl.before.length bc, .slice ao rl.after.length ac)) ⟨hmvb, hmva⟩ hown1 hgrow (by rcases hat with hat | hat; exact Or.inl hat; exact Or.inr (by rw [hat]; simp))
        have HPU : Hid (PdS w slots (L ++ [(rl, .slice bo rl.before.length bc, .slice ao rl.after.length ac)]) (.slice (some ⟨g2, 0, none⟩) (L.length + 1) cap2) (w7.setCell ⟨w.heap.size + 1, 1, none⟩ (.slice (some ⟨g2, 0, none⟩) (L.length + 1) cap2))) := hpush
        have hne1 : some (w.heap.size + 1) ≠ (Value.slice vo L.length vc).ownBlock := fun e => by have := (HP4.out.own_ge e.symm).1; omega
        have cz : w7.cell? ⟨w.heap.size + 1, 1, none⟩ = some (.slice vo L.length vc) := hgrow.cell (HP6.out.lv.cell 1) hne1
        have fz : w7.frozen? ⟨w.heap.size + 1, 1, none⟩ = false := (HP6.out.lv.grown hgrow hne1).frozen 1
        have HR7 : Hid (Row w7 bx 74 [.int .i64 op, .int .i64 de, .int .i64 ia, .int .i64 ib, .int .i64 ic, .int .u32 im]) := Row.grown (HR5.out.alloc _) hgrow (fun e => HXV.out e.symm)
        clear hmvb hmva hpush hown1 hgrow hat hne1 hsz4
        refine hK.out _ _ ?_ (fun hHeld => ?_)
        · (exact HR7.out)
        clear hK K
        show wpAnyH _ _ _ _ _ _ _ (Act.put _ (some 27) _) _
        simp only [pz]
        refine wpAnyH_take (i := 7) (v := ?_) rfl (by kernel_rfl) (by kernel_rfl) (by kernel_rfl) (fun _ _ _ h => h) (Or.inl ⟨by rfl, ?_⟩) (by assumption) ?_
        case refine_2 => (intro w hSw; (try dsimp only at hSw); go_simp; try with_reducible rfl)
        show wpAnyH _ _ _ _ _ _ _ (Act.put _ (some 28) _) _
        simp only [pz]
        refine wpAnyH_ready (rs := [8]) (by kernel_rfl) (by simp) ?_
        refine (AllReadyH.cons rfl (fun K hK => ?_) AllReadyH.nil)
        go_simp
        refine hK.out _ _ ?_ (fun hHeld => ?_)
        · (exact HR7.out.other (by dsimp only; omega) _)
        clear hK K
        try simp only [pz]
        refine wpAnyH_done (by kernel_rfl) ?_ _
        clear hHeld
        go_wp2
        have hgk := HGK.out
        go_roundg (gk - 1)
        case measure => omega
        case rel => exact ⟨k + 1, _, _, by go_num, by omega, by omega, HPU.out, by rw [List.map_append, HLM.out, take_map hlt HIE.out, HRL.out]; rfl⟩
      · go_simp
        refine hK.out _ _ ?_ (fun hHeld => ?_)
        · (exact HR5.out.alloc _)
        clear hK K
        try simp only [pz]
        refine wpAnyH_ready (rs := [1]) (by kernel_rfl) (by simp) ?_
        refine (AllReadyH.cons rfl (fun K hK => ?_) AllReadyH.nil)
        go_simp
        refine hK.out _ _ ?_ (fun hHeld => ?_)
        · (assumption)
        clear hK K
        try simp only [pz]
        have HP6 : Hid (PdS w slots L (.slice vo L.length vc) (w5.alloc (.cells #[.int .i64 rl.dest.kind, .int .i64 rl.dest.n, .int .i64 rl.a.kind, .int .i64 rl.a.n, .int .i64 rl.b.kind, .int .i64 rl.b.n, .slice bo rl.before.length bc, .slice ao rl.after.length ac] 140))) := HP5.out.below ((Below.refl _ _).alloc (Nat.le_refl _) _)
        refine wpAnyH_ready (rs := [6]) (by kernel_rfl) (by simp) ?_
        refine (AllReadyH.cons rfl (fun K hK => ?_) AllReadyH.nil)
        (refine step_append_lies _ (by rfl) _ _ _ (by rfl) (w.heap.size + 2) 140 t0' _ 8 96 Tryz.underlying96 hi0 hy0 hy1 hy2 rfl (by omega) (.slice vo L.length vc) L.length (L.flatMap rowC) (by rfl) HP6.out.rows.own
            ⟨w5.heap.size, 0, none⟩ 1 1 [.int .i64 rl.dest.kind, .int .i64 rl.dest.n, .int .i64 rl.a.kind, .int .i64 rl.a.n, .int .i64 rl.b.kind, .int .i64 rl.b.n, .slice bo rl.before.length bc, .slice ao rl.after.length ac] (by rfl) (by rfl) (World.news_of_block (cs := #[.int .i64 rl.dest.kind, .int .i64 rl.dest.n, .int .i64 rl.a.kind, .int .i64 rl.a.n, .int .i64 rl.b.kind, .int .i64 rl.b.n, .slice bo rl.before.length bc, .slice ao rl.after.length ac]) (t := 140) (fr := (0, 0)) (heap_alloc_new w5 _)) (by simp [Value.oneCell'])
            (by omega) (by unfold maxLen; omega) (by omega) (by simp; omega) (w5.heap.size + 1) (by simp) ?_; intro g2 cap2 w7 hown1 hgrow hat hlt3)
        have hsz4 := HP4.out.sz
        have hmvb : MvOkC (w.heap.size + 2) (Value.slice vo L.length vc).ownBlock (w5.alloc (.cells #[.int .i64 rl.dest.kind, .int .i64 rl.dest.n, .int .i64 rl.a.kind, .int .i64 rl.a.n, .int .i64 rl.b.kind, .int .i64 rl.b.n, .slice bo rl.before.length bc, .slice ao rl.after.length ac] 140)) (.slice bo rl.before.length bc) rl.before := own_mv (lo := w4.heap.size) (HMB.out.below ((Below.refl _ _).alloc (Nat.le_refl _) _)) (by have := HL6.out; rw [HRL.out]; omega) hsz4 (fun b hb e => by have := (HP4.out.own_ge e.symm).2; omega)
        have hmva : MvOkC (w.heap.size + 2) (Value.slice vo L.length vc).ownBlock (w5.alloc (.cells #[.int .i64 rl.dest.kind, .int .i64 rl.dest.n, .int .i64 rl.a.kind, .int .i64 rl.a.n, .int .i64 rl.b.kind, .int .i64 rl.b.n, .slice bo rl.before.length bc, .slice ao rl.after.length ac] 140)) (.slice ao rl.after.length ac) rl.after := own_mv (lo := w4.heap.size) (HMA.out.below ((Below.refl _ _).alloc (Nat.le_refl _) _)) (by have := HL6.out; rw [HRL.out]; omega) hsz4 (fun b hb e => by have := (HP4.out.own_ge e.symm).2; omega)
        have hpush := HP6.out.push (x := (rl, .slice bo rl.before.length bc, .slice ao rl.after.length ac)) ⟨hmvb, hmva⟩ hown1 hgrow (by rcases hat with hat | hat; exact Or.inl hat; exact Or.inr (by rw [hat]; simp))
        have HPU : Hid (PdS w slots (L ++ [(rl, .slice bo rl.before.length bc, .slice ao rl.after.length ac)]) (.slice (some ⟨g2, 0, none⟩) (L.length + 1) cap2) (w7.setCell ⟨w.heap.size + 1, 1, none⟩ (.slice (some ⟨g2, 0, none⟩) (L.length + 1) cap2))) := hpush
        have hne1 : some (w.heap.size + 1) ≠ (Value.slice vo L.length vc).ownBlock := fun e => by have := (HP4.out.own_ge e.symm).1; omega
        have cz : w7.cell? ⟨w.heap.size + 1, 1, none⟩ = some (.slice vo L.length vc) := hgrow.cell (HP6.out.lv.cell 1) hne1
        have fz : w7.frozen? ⟨w.heap.size + 1, 1, none⟩ = false := (HP6.out.lv.grown hgrow hne1).frozen 1
        have HR7 : Hid (Row w7 bx 74 [.int .i64 op, .int .i64 de, .int .i64 ia, .int .i64 ib, .int .i64 ic, .int .u32 im]) := Row.grown (HR5.out.alloc _) hgrow (fun e => HXV.out e.symm)
        clear hmvb hmva hpush hown1 hgrow hat hne1 hsz4
        refine hK.out _ _ ?_ (fun hHeld => ?_)
        · (exact HR7.out)
        clear hK K
        show wpAnyH _ _ _ _ _ _ _ (Act.put _ (some 27) _) _
        simp only [pz]
        refine wpAnyH_take (i := 7) (v := ?_) rfl (by kernel_rfl) (by kernel_rfl) (by kernel_rfl) (fun _ _ _ h => h) (Or.inl ⟨by rfl, ?_⟩) (by assumption) ?_
        case refine_2 => (intro w hSw; (try dsimp only at hSw); go_simp; try with_reducible rfl)
        show wpAnyH _ _ _ _ _ _ _ (Act.put _ (some 28) _) _
        simp only [pz]
        refine wpAnyH_ready (rs := [8]) (by kernel_rfl) (by simp) ?_
        refine (AllReadyH.cons rfl (fun K hK => ?_) AllReadyH.nil)
        go_simp
        refine hK.out _ _ ?_ (fun hHeld => ?_)
        · (exact HR7.out.other (by dsimp only; omega) _)
        clear hK K
        try simp only [pz]
        refine wpAnyH_done (by kernel_rfl) ?_ _
        clear hHeld
        go_wp2
        have hgk := HGK.out
        go_roundg (gk - 1)
        case measure => omega
        case rel => exact ⟨k + 1, _, _, by go_num, by omega, by omega, HPU.out, by rw [List.map_append, HLM.out, take_map hlt HIE.out, HRL.out]; rfl⟩
end form
/- What the program's own functions on moves and targets answer: holds, isEmpty, kindsMay, moveMay, movesMay, mostAfter, targetMay, roomOf. -/
namespace form
open Go.RowKit
attribute [local go_sem ↓] Go.wp_at_zero Go.wp_at_succ
def emptyB (p : LPlace) : Bool := (p.kind == 0) && (p.n == 0)
set_option maxRecDepth 100000 in
theorem isEmpty (p : LPlace) (w : World) : Calls Tryz.prog 162 #[p.val] w fun e w' => e = .returned (.bool (emptyB p)) ∧ Below w.heap.size w w' := by
  unfold LPlace.val
  have HB : Hid (∀ o1 : Obj, Below w.heap.size w (w.alloc o1)) := fun o1 => (Below.refl _ _).alloc (Nat.le_refl _) _
  have q57 := eqPlace
  go_enter Tryz.func162, Tryz.ntmps162
  go_wp2
  go_ret
  exact ⟨ret_bool rfl, HB.out _⟩
def kindsB (a b : Int) : Bool := if a = b then a != 3 else (a == 3) || (b == 3)
theorem kindsMay (a b : Int) (w : World) : Calls Tryz.prog 170 #[.int .i64 a, .int .i64 b] w fun e w' => e = .returned (.bool (kindsB a b)) ∧ w' = w := by
  by_cases h : a = b
  · have e1 : (a == b) = true := by simp [h]
    have HE : Hid (kindsB a b = (a != 3)) := by show kindsB a b = _; unfold kindsB; rw [if_pos h]
    clear h
    go_enter Tryz.func170, Tryz.ntmps170
    go_wp2
    go_ret
    exact ⟨ret_bool (by rw [HE.out]; try rfl), rfl⟩
  · have e1 : (a == b) = false := by simp [h]
    have HE : Hid (kindsB a b = ((a == 3) || (b == 3))) := by show kindsB a b = _; unfold kindsB; rw [if_neg h]
    clear h
    rcases Bool.eq_false_or_eq_true (a == 3) with e2 | e2
    all_goals
      go_enter Tryz.func170, Tryz.ntmps170
      go_wp2
      go_ret
      exact ⟨ret_bool (by rw [HE.out, e2]; simp), rfl⟩
def holdB (a b c : Int) (p : LPlace) (wide : Bool) : Bool := (p.kind == if wide then 2 else 1) && hasB a b c p
set_option maxRecDepth 100000 in
set_option maxHeartbeats 1000000 in
theorem holds (a b c : Int) (p : LPlace) (wide : Bool) (w : World) : Calls Tryz.prog 161 #[roomV a b c, p.val, .bool wide] w fun e w' => e = .returned (.bool (holdB a b c p wide)) ∧ Below w.heap.size w w' := by
  unfold roomV LPlace.val
  have HB : Hid (∀ o1 o2 : Obj, Below w.heap.size w ((w.alloc o1).alloc o2)) := fun o1 o2 => ((Below.refl _ _).alloc (Nat.le_refl _) _).alloc (by simp) _
  cases wide
  · have HE : Hid (holdB a b c p false = ((p.kind == 1) && hasB a b c p)) := rfl
    rcases Bool.eq_false_or_eq_true (p.kind == 1) with e1 | e1
    all_goals
      go_enter Tryz.func161, Tryz.ntmps161
      go_wp2_with (go_at_call 169; refine (roomHas a b c p _).mono ?_; rintro e w1 ⟨rfl, hb1⟩)
      go_ret
    · exact ⟨ret_bool (by rw [HE.out, e1]; rfl), over_alloc (over_alloc hb1)⟩
    · exact ⟨ret_bool (by rw [HE.out, e1]; rfl), HB.out _ _⟩
  · have HE : Hid (holdB a b c p true = ((p.kind == 2) && hasB a b c p)) := rfl
    rcases Bool.eq_false_or_eq_true (p.kind == 2) with e1 | e1
    all_goals
      go_enter Tryz.func161, Tryz.ntmps161
      go_wp2_with (go_at_call 169; refine (roomHas a b c p _).mono ?_; rintro e w1 ⟨rfl, hb1⟩)
      go_ret
    · exact ⟨ret_bool (by rw [HE.out, e1]; rfl), over_alloc (over_alloc hb1)⟩
    · exact ⟨ret_bool (by rw [HE.out, e1]; rfl), HB.out _ _⟩
def mostI (op : Int) : Int := if op = 8 ∨ op = 9 ∨ op = 10 then 0 else 6
theorem mostAfter (op : Int) (w : World) : Calls Tryz.prog 140 #[.int .i64 op] w fun e w' => e = .returned (.int .i64 (mostI op)) ∧ w' = w := by
  go_enter Tryz.func140, Tryz.ntmps140
  go_wp2
  all_goals
    go_ret
    refine ⟨?_, rfl⟩
    unfold mostI
    simp_all
set_option maxRecDepth 100000 in
theorem targetMay (s : Int) (w : World) : Calls Tryz.prog 65 #[targetV s] w fun e w' => e = .returned (.bool (targetB s)) ∧ Below w.heap.size w w' := by
  unfold targetV
  have HB : Hid (∀ o1 : Obj, Below w.heap.size w (w.alloc o1)) := fun o1 => (Below.refl _ _).alloc (Nat.le_refl _) _
  rcases (show ¬ 4 ≤ s ∨ (4 ≤ s ∧ ¬ s ≤ 16) ∨ (4 ≤ s ∧ s ≤ 16) by omega) with h | ⟨h, h1⟩ | ⟨h, h1⟩
  · have HE : Hid (targetB s = false) := by show targetB s = false; unfold targetB; simp; omega
    go_enter Tryz.func65, Tryz.ntmps65
    go_wp2
    go_ret
    exact ⟨ret_bool HE.out.symm, HB.out _⟩
  · have HE : Hid (targetB s = false) := by show targetB s = false; unfold targetB; simp; omega
    go_enter Tryz.func65, Tryz.ntmps65
    go_wp2
    go_ret
    exact ⟨ret_bool HE.out.symm, HB.out _⟩
  · have HE : Hid (targetB s = (s % 2 == 0)) := by show targetB s = _; unfold targetB; rw [Bool.eq_iff_iff]; simp; omega
    go_enter Tryz.func65, Tryz.ntmps65
    go_wp2
    go_ret
    exact ⟨ret_bool (by rw [HE.out]; try rfl), HB.out _⟩
set_option maxRecDepth 100000 in
theorem roomOf (s slots : Int) (h0 : 4 ≤ s) (h1 : s ≤ 16) (w : World) : Calls Tryz.prog 101 #[targetV s, .int .i64 slots] w fun e w' => e = .returned (roomV s (s / 2) slots) ∧ Below w.heap.size w w' := by
  unfold targetV
  have HB : Hid (∀ o1 o2 : Obj, Below w.heap.size w ((w.alloc o1).alloc o2)) := fun o1 o2 => ((Below.refl _ _).alloc (Nat.le_refl _) _).alloc (by simp) _
  go_enter Tryz.func101, Tryz.ntmps101
  go_wp2
  refine bodyPost_ret (v := roomV s (s / 2) slots) ?_ rfl ⟨rfl, HB.out _ _⟩
  simp [results, Tryz.results101, go_sem, roomV]
def moveO (a b c : Int) (m : LMove) : Bool := if m.cst then emptyB m.src && holdB a b c m.dst false else (m.n == 0) && hasB a b c m.dst && hasB a b c m.src && kindsB m.dst.kind m.src.kind
set_option maxRecDepth 100000 in
set_option maxHeartbeats 1000000 in
theorem moveMay (a b c : Int) (m : LMove) (w : World) : Calls Tryz.prog 163 #[roomV a b c, m.val] w fun e w' => e = .returned (.bool (moveO a b c m)) ∧ Below w.heap.size w w' := by
  unfold roomV LMove.val
  have HB : Hid (∀ o1 o2 : Obj, Below w.heap.size w ((w.alloc o1).alloc o2)) := fun o1 o2 => ((Below.refl _ _).alloc (Nat.le_refl _) _).alloc (by simp) _
  obtain ⟨k, hk⟩ : ∃ k, k = m.cst := ⟨_, rfl⟩
  rw [← hk]
  have HK : Hid (m.cst = k) := hk.symm
  clear hk
  have step : ∀ (w1 : World), Below ((w.alloc (.cells #[.int .i64 0, .int .i64 a, .int .i64 b, .int .i64 c] 169)).alloc (.cells #[.int .i64 m.dst.kind, .int .i64 m.dst.n, .int .i64 m.src.kind, .int .i64 m.src.n, .bool k, .int .u32 m.n] 208)).heap.size ((w.alloc (.cells #[.int .i64 0, .int .i64 a, .int .i64 b, .int .i64 c] 169)).alloc (.cells #[.int .i64 m.dst.kind, .int .i64 m.dst.n, .int .i64 m.src.kind, .int .i64 m.src.n, .bool k, .int .u32 m.n] 208)) w1 →
      Below w.heap.size w w1 ∧ w1.cell? ⟨w.heap.size, 0, none⟩ = some (.int .i64 0) ∧ w1.cell? ⟨w.heap.size, 1, none⟩ = some (.int .i64 a) ∧ w1.cell? ⟨w.heap.size, 2, none⟩ = some (.int .i64 b) ∧ w1.cell? ⟨w.heap.size, 3, none⟩ = some (.int .i64 c) ∧ w1.cell? ⟨w.heap.size + 1, 0, none⟩ = some (.int .i64 m.dst.kind) ∧ w1.cell? ⟨w.heap.size + 1, 1, none⟩ = some (.int .i64 m.dst.n) ∧ w1.cell? ⟨w.heap.size + 1, 2, none⟩ = some (.int .i64 m.src.kind) ∧ w1.cell? ⟨w.heap.size + 1, 3, none⟩ = some (.int .i64 m.src.n) := by
    intro w1 hb1
    exact ⟨over_alloc (over_alloc hb1), step_cell hb1 (by simp [go_sem]), step_cell hb1 (by simp [go_sem]), step_cell hb1 (by simp [go_sem]), step_cell hb1 (by simp [go_sem]), step_cell hb1 (by simp [go_sem]), step_cell hb1 (by simp [go_sem]), step_cell hb1 (by simp [go_sem]), step_cell hb1 (by simp [go_sem])⟩
  have HS : Hid _ := step
  clear step
  cases k
  · have HE : Hid (moveO a b c m = ((m.n == 0) && hasB a b c m.dst && hasB a b c m.src && kindsB m.dst.kind m.src.kind)) := by show moveO a b c m = _; unfold moveO; rw [HK.out]; rfl
    rcases Bool.eq_false_or_eq_true (m.n == 0) with e1 | e1
    · cases hd : hasB a b c m.dst
      · have HE2 : Hid (moveO a b c m = false) := by show moveO a b c m = _; rw [HE.out, hd]; simp
        go_enter Tryz.func163, Tryz.ntmps163
        go_wp2_with (go_at_call 169; refine (roomHas a b c m.dst _).mono ?_; rw [hd]; rintro e w1 ⟨rfl, hb1⟩)
        go_ret
        exact ⟨ret_bool HE2.out.symm, over_alloc (over_alloc hb1)⟩
      · cases hq : hasB a b c m.src
        · have HE2 : Hid (moveO a b c m = false) := by show moveO a b c m = _; rw [HE.out, hq]; simp
          go_enter Tryz.func163, Tryz.ntmps163
          go_wp2_with fail
          go_at_call 169
          refine (roomHas a b c m.dst _).mono ?_
          rw [hd]
          rintro e w1 ⟨rfl, hb1⟩
          obtain ⟨hbel, r0, r1, r2, r3, t0, t1, t2, t3⟩ := HS.out w1 hb1
          clear hb1
          go_wp2_with (go_at_call 169; refine (roomHas a b c m.src _).mono ?_; rw [hq]; rintro e w2 ⟨rfl, hb2⟩)
          go_ret
          exact ⟨ret_bool HE2.out.symm, step_below hb2 hbel⟩
        · have HE2 : Hid (moveO a b c m = kindsB m.dst.kind m.src.kind) := by show moveO a b c m = _; rw [HE.out, hq, hd, e1]; simp
          go_enter Tryz.func163, Tryz.ntmps163
          go_wp2_with fail
          go_at_call 169
          refine (roomHas a b c m.dst _).mono ?_
          rw [hd]
          rintro e w1 ⟨rfl, hb1⟩
          obtain ⟨hbel, r0, r1, r2, r3, t0, t1, t2, t3⟩ := HS.out w1 hb1
          clear hb1
          go_wp2_with (first | (go_at_call 169; refine (roomHas a b c m.src _).mono ?_; rw [hq]; rintro e w2 ⟨rfl, hb2⟩; have v0 := step_cell hb2 t0; have v2 := step_cell hb2 t2) | (go_at_call 170; refine (kindsMay _ _ _).mono ?_; rintro e w3 ⟨rfl, hw3⟩; obtain rfl := hw3.symm))
          go_ret
          exact ⟨ret_bool HE2.out.symm, step_below hb2 hbel⟩
    · have HE2 : Hid (moveO a b c m = false) := by show moveO a b c m = _; rw [HE.out, e1]; rfl
      go_enter Tryz.func163, Tryz.ntmps163
      go_wp2
      go_ret
      exact ⟨ret_bool HE2.out.symm, HB.out _ _⟩
  · have HE : Hid (moveO a b c m = (emptyB m.src && holdB a b c m.dst false)) := by show moveO a b c m = _; unfold moveO; rw [HK.out]; rfl
    cases he : emptyB m.src
    · have HE2 : Hid (moveO a b c m = false) := by show moveO a b c m = _; rw [HE.out, he]; rfl
      go_enter Tryz.func163, Tryz.ntmps163
      go_wp2_with (go_at_call 162; refine (isEmpty m.src _).mono ?_; rw [he]; rintro e w1 ⟨rfl, hb1⟩)
      go_ret
      exact ⟨ret_bool HE2.out.symm, over_alloc (over_alloc hb1)⟩
    · have HE2 : Hid (moveO a b c m = holdB a b c m.dst false) := by show moveO a b c m = _; rw [HE.out, he]; rfl
      go_enter Tryz.func163, Tryz.ntmps163
      go_wp2_with (first | (go_at_call 162; refine (isEmpty m.src _).mono ?_; rw [he]; rintro e w1 ⟨rfl, hb1⟩; obtain ⟨hbel, r0, r1, r2, r3, t0, t1, t2, t3⟩ := HS.out w1 hb1; clear hb1) | (go_at_call 161; refine (holds a b c m.dst false _).mono ?_; rintro e w2 ⟨rfl, hb2⟩))
      go_ret
      exact ⟨ret_bool HE2.out.symm, step_below hb2 hbel⟩
def movesO (a b c : Int) (l : List LMove) (most : Int) : Bool := decide ((l.length : Int) ≤ most) && l.all (moveO a b c)
set_option maxRecDepth 100000 in
set_option maxHeartbeats 1000000 in
theorem movesMay (a b c : Int) (v : Value) (l : List LMove) (most : Int) (hm : most ≤ 6) (w : World) (h : MovesIs w v l) : Calls Tryz.prog 139 #[roomV a b c, v, .int .i64 most] w fun e w' => e = .returned (.bool (movesO a b c l most)) ∧ Below w.heap.size w w' := by
  obtain ⟨ao, cap, rfl, hl, hc⟩ := h
  have HC : Hid _ := hc
  clear hc
  unfold roomV
  by_cases h6 : (l.length : Int) ≤ most
  case neg =>
    have HN : Hid (movesO a b c l most = false) := by show movesO a b c l most = false; simp [movesO, h6]
    go_enter Tryz.func139, Tryz.ntmps139
    go_wp2
    go_ret
    exact ⟨ret_bool HN.out.symm, (Below.refl _ _).alloc (Nat.le_refl _) _⟩
  have hg : (l.length : Int) ≤ 6 := by omega
  go_enter Tryz.func139, Tryz.ntmps139
  go_wp2
  go_loopw [15] (fun i wr => ∃ k : Nat, k ≤ l.length ∧ i = .int .i64 k ∧ Below w.heap.size w wr ∧ w.heap.size < wr.heap.size ∧ wr.cell? ⟨w.heap.size, 0, none⟩ = some (.int .i64 0) ∧ wr.cell? ⟨w.heap.size, 1, none⟩ = some (.int .i64 a) ∧ wr.cell? ⟨w.heap.size, 2, none⟩ = some (.int .i64 b) ∧ wr.cell? ⟨w.heap.size, 3, none⟩ = some (.int .i64 c) ∧ (∀ j, j < k → moveO a b c (l.getD j .zero) = true)) (fun i _ => l.length - (intOf i).toNat)
  case atStart => exact ⟨0, by omega, rfl, (Below.refl _ _).alloc (Nat.le_refl _) _, by simp, by simp [go_sem], by simp [go_sem], by simp [go_sem], by simp [go_sem], fun j hj => absurd hj (by omega)⟩
  case round =>
    obtain ⟨k, hk, rfl, hbel, hsz, r0, r1, r2, r3, hall⟩ := hrel
    have F : Hid _ := hall
    clear hall
    by_cases hlt : k < l.length
    · obtain ⟨b9, o, rfl, hbl, hcell⟩ := HC.out (by omega)
      obtain ⟨d0, d1, d2, d3, d4, d5⟩ := hcell k hlt
      have d0 := step_cell hbel d0
      have d1 := step_cell hbel d1
      have d2 := step_cell hbel d2
      have d3 := step_cell hbel d3
      have d4 := step_cell hbel d4
      have d5 := step_cell hbel d5
      obtain ⟨m, hi⟩ : ∃ m, m = l.getD k .zero := ⟨_, rfl⟩
      rw [← hi] at d0 d1 d2 d3 d4 d5
      have HI : Hid (m = l.getD k .zero) := hi
      clear hi hcell
      have y1 : (0 : Int) ≤ (k : Int) := by omega
      have y2 : (k : Int) < (l.length : Int) := by omega
      have hbl2 : b9 < wr.heap.size := by have := hbel.size; omega
      go_wp2_with (go_at_call 163; refine (moveMay a b c m _).mono ?_; rintro e w1 ⟨rfl, hb1⟩)
      all_goals
        have hb2 := over_alloc hb1
        have hbel1 := step_below hb2 hbel
      · go_ret
        refine ⟨ret_bool ?_, hbel1⟩
        have hf : moveO a b c m = false := by simp_all
        unfold movesO
        rw [eq_comm, Bool.and_eq_false_iff]
        right
        rw [List.all_eq_false]
        refine ⟨m, ?_, by simp [hf]⟩
        rw [HI.out]
        simp [List.getD, hlt]
      · refine ⟨⟨k + 1, by omega, by go_num, hbel1, Nat.lt_of_lt_of_le hsz hb2.size, step_cell hb2 r0, step_cell hb2 r1, step_cell hb2 r2, step_cell hb2 r3, ?_⟩, by simp [intOf]; omega⟩
        intro j hj
        by_cases hjk : j < k
        · exact F.out j hjk
        · obtain rfl : j = k := by omega
          rw [← HI.out]
          simp_all
    · go_wp2
      go_ret
      refine ⟨ret_bool ?_, hbel⟩
      unfold movesO
      rw [eq_comm, Bool.and_eq_true]
      refine ⟨by simp [h6], ?_⟩
      rw [List.all_eq_true]
      intro x hx
      obtain ⟨j, hj, rfl⟩ := List.getElem_of_mem hx
      have := F.out j (by omega)
      simpa [List.getD, hj] using this
end form
/- Places for a program: the program's own build.Build answers buildF. -/
namespace form
open Go.RowKit
set_option maxRecDepth 100000
attribute [local go_sem ↓] Go.wp_at_zero Go.wp_at_succ
theorem target_bad {s : Int} (h : targetB s = true) : ¬ badN s ∧ ¬ badN (s - 4) ∧ 4 ≤ s ∧ s ≤ 16 ∧ s % 2 = 0 := by
  unfold targetB at h
  simp only [Bool.or_eq_true, beq_iff_eq] at h
  unfold badN
  omega
def RegsP (B : List Bool) (C : List LIns) (s : Int) (w : World) (e : Ending) (w' : World) : Prop :=
  ((refMayB B C = false ∧ e = .returned (.tuple #[.slice none 0 0, .int .i64 2])) ∨
    (refMayB B C = true ∧ ∃ gv cap, e = .returned (.tuple #[.slice (some ⟨gv, 0, none⟩) B.length cap, .int .i64 0]) ∧ w.heap.size ≤ gv ∧ Row w' gv 137 ((regsF B C s.toNat).flatMap rgCs))) ∧ Below w.heap.size w w'
set_option maxHeartbeats 3200000 in
theorem regsO (pv : Value) (B : List Bool) (C : List LIns) (s : Int) (w : World) (hp : ProgIs w pv B C) (hs : targetB s = true) :
    Calls Tryz.prog 66 #[pv, .int .i64 s] w fun e w' => RegsP B C s w e w' := by
  obtain ⟨hbad, hbad4, h4, h16, h2⟩ := target_bad hs
  have HBAD : Hid (¬ badN s ∧ ¬ badN (s - 4)) := ⟨hbad, hbad4⟩
  have HP : Hid (ProgIs w pv B C) := hp
  have HMK : Hid (∀ (n : Int) (wx : World), Below w.heap.size w wx → Calls Tryz.prog 97 #[pv, .int .i64 n] wx fun e w' =>
    ((refMayB B C = false ∧ e = .returned (.tuple #[.slice none 0 0, .int .i64 2])) ∨ (refMayB B C = true ∧ badN n ∧ e = .returned (.tuple #[.slice none 0 0, .int .i64 3])) ∨
      (refMayB B C = true ∧ ¬ badN n ∧ ∃ v, e = .returned (.tuple #[v, .int .i64 0]) ∧ PlacesIs w' v (makeF B C n.toNat) ∧ FreshAt wx w' v (makeF B C n.toNat))) ∧ Below wx.heap.size wx w') := fun n wx hb => makeFO pv B C n wx (hp.later hb)
  have h0 := hp
  obtain ⟨⟨a0, c0, a1, c1, rfl, -⟩, -, -, -⟩ := h0
  have HW0 : Hid (∀ o : Obj, Below w.heap.size w (w.alloc o)) := fun o => (Below.refl _ _).alloc (Nat.le_refl _) _
  have y1 : s ≤ 16 := h16
  have y2 : 4 ≤ s := h4
  have hwr : IntKind.i64.wrap (s - 4) = s - 4 := wrapB (by omega) (by omega)
  clear hbad hbad4 hs hp
  rcases Bool.eq_false_or_eq_true (refMayB B C) with hm | hm
  · have hsz : sizesB B C = true := by
      have hm0 := hm
      unfold refMayB at hm0
      simp only [Bool.and_eq_true] at hm0
      exact hm0.1
    obtain ⟨s1, s2, s3, s4⟩ := sizes_of hsz
    have hl1 : (makeF B C s.toNat).length = B.length := (makeF_ok s1 (by omega) (by omega)).len
    have hl2 : (makeF B C (s - 4).toNat).length = B.length := (makeF_ok s1 (by omega) (by omega)).len
    have HM : Hid (refMayB B C = true) := hm
    have HMY : Hid (∀ (n : Int) (wx : World), Below w.heap.size w wx → ¬ badN n → (makeF B C n.toNat).length = B.length → Calls Tryz.prog 97 #[.agg #[.slice a0 B.length c0, .slice a1 C.length c1], .int .i64 n] wx fun e w' =>
        (∃ gv cap, e = .returned (.tuple #[.slice (some ⟨gv, 0, none⟩) B.length cap, .int .i64 0]) ∧ wx.heap.size ≤ gv ∧ Row w' gv 137 ((makeF B C n.toNat).flatMap rgCs)) ∧ Below wx.heap.size wx w') := fun n wx hb hbd hl => by
      refine (HMK.out n wx hb).mono ?_
      rintro e w' ⟨⟨h1, -⟩ | ⟨-, h1, -⟩ | ⟨-, -, v, rfl, -, gv, cap, rfl, h1, h2⟩, h3⟩
      · rw [hm] at h1; cases h1
      · exact absurd h1 hbd
      · exact ⟨⟨gv, cap, by rw [hl], h1, h2⟩, h3⟩
    have HRF : Hid (regsF B C s.toNat = if hasZ (makeF B C s.toNat) then makeF B C (s.toNat - 4) else makeF B C s.toNat) := rfl
    have e4 : (s - 4).toNat = s.toNat - 4 := by omega
    have HY1 := fun wx hb => HMY.out s wx hb HBAD.out.1 hl1
    have HY2 := fun wx hb => HMY.out (s - 4) wx hb HBAD.out.2 hl2
    rw [e4] at HY2 hl2
    obtain ⟨G, hG⟩ : ∃ G, G = makeF B C s.toNat := ⟨_, rfl⟩
    obtain ⟨G4, hG4⟩ : ∃ G4, G4 = makeF B C (s.toNat - 4) := ⟨_, rfl⟩
    rw [← hG] at HY1 hl1 HRF
    rw [← hG4] at HY2 HRF
    have HYA : Hid (∀ wx, Below w.heap.size w wx → Calls Tryz.prog 97 #[.agg #[.slice a0 B.length c0, .slice a1 C.length c1], .int .i64 s] wx fun e w' =>
        (∃ gv cap, e = .returned (.tuple #[.slice (some ⟨gv, 0, none⟩) B.length cap, .int .i64 0]) ∧ wx.heap.size ≤ gv ∧ Row w' gv 137 (G.flatMap rgCs)) ∧ Below wx.heap.size wx w') := HY1
    have HYB : Hid (∀ wx, Below w.heap.size w wx → Calls Tryz.prog 97 #[.agg #[.slice a0 B.length c0, .slice a1 C.length c1], .int .i64 (s - 4)] wx fun e w' =>
        (∃ gv cap, e = .returned (.tuple #[.slice (some ⟨gv, 0, none⟩) B.length cap, .int .i64 0]) ∧ wx.heap.size ≤ gv ∧ Row w' gv 137 (G4.flatMap rgCs)) ∧ Below wx.heap.size wx w') := HY2
    have HCO : Hid (∀ (gv cap : Nat) (wx : World), Row wx gv 137 (G.flatMap rgCs) → Calls Tryz.prog 98 #[.slice (some ⟨gv, 0, none⟩) B.length cap, .agg #[.int .i64 0, .int .i64 0]] wx fun e w' => e = .returned (.bool (hasZ G)) ∧ Below wx.heap.size wx w') := fun gv cap wx hr => by
      have := containsZ gv cap G wx (row_giv hr) (by omega)
      rwa [hl1] at this
    obtain ⟨z, hz⟩ : ∃ z, z = hasZ G := ⟨_, rfl⟩
    rw [← hz] at HCO HRF
    clear hz hG hG4 HY1 HY2 HMY HMK e4 hm hsz hl1 hl2 s1 s2 s3 s4
    rcases Bool.eq_false_or_eq_true z with hc | hc
    · subst hc
      have HRX : Hid (regsF B C s.toNat = G4) := HRF.out
      clear HRF
      go_enter Tryz.func66, Tryz.ntmps66
      go_upto_region 3 with (first
        | (go_at_call 97; refine (HYA.out _ (HW0.out _)).mono ?_; rintro e w1 ⟨⟨gv, cap, rfl, hgv, hr1⟩, hb1⟩; have p0 : w1.cell? ⟨w.heap.size, 0, none⟩ = some (.slice a0 B.length c0) := step_cell hb1 (by simp [go_sem]); have p1 : w1.cell? ⟨w.heap.size, 1, none⟩ = some (.slice a1 C.length c1) := step_cell hb1 (by simp [go_sem]); have HB1 : Hid (Below w.heap.size w w1) := step_below hb1 (HW0.out _); have HR1 : Hid (Row w1 gv 137 (G.flatMap rgCs)) := hr1; clear hb1 hr1 hgv)
        | (go_at_call 98; refine (HCO.out gv cap _ HR1.out).mono ?_; rintro e w2 ⟨rfl, hb2⟩; have p0 := step_cell hb2 p0; have p1 := step_cell hb2 p1; have HB2 : Hid (Below w.heap.size w w2) := step_below hb2 HB1.out; clear hb2))
      go_wp2_with (go_at_call 97; refine (HYB.out _ HB2.out).mono ?_; rintro e w3 ⟨⟨gv3, cap3, rfl, hgv3, hr3⟩, hb3⟩; have HB3 : Hid (Below w.heap.size w w3) := step_below hb3 HB2.out; have HG3 : Hid (w2.heap.size ≤ gv3) := hgv3; have HR3 : Hid (Row w3 gv3 137 (G4.flatMap rgCs)) := hr3; clear hb3 hr3 hgv3)
      refine bodyPost_ret (v := .tuple #[.slice (some ⟨gv3, 0, none⟩) B.length cap3, .int .i64 0]) ?_ rfl ⟨Or.inr ⟨HM.out, gv3, cap3, rfl, Nat.le_trans HB2.out.size HG3.out, by rw [HRX.out]; exact HR3.out⟩, HB3.out⟩
      simp [results, Tryz.results66, go_sem]
    · subst hc
      have HRX : Hid (regsF B C s.toNat = G) := HRF.out
      clear HRF
      go_enter Tryz.func66, Tryz.ntmps66
      go_wp2_with (first
        | (go_at_call 97; refine (HYA.out _ (HW0.out _)).mono ?_; rintro e w1 ⟨⟨gv, cap, rfl, hgv, hr1⟩, hb1⟩; have hg1 : w.heap.size ≤ gv := (by have h9 := hgv; simp at h9; omega); have HG1 : Hid (w.heap.size ≤ gv) := hg1; clear hg1; have HB1 : Hid (Below w.heap.size w w1) := step_below hb1 (HW0.out _); have HR1 : Hid (Row w1 gv 137 (G.flatMap rgCs)) := hr1; clear hb1 hr1 hgv)
        | (go_at_call 98; refine (HCO.out gv cap _ HR1.out).mono ?_; rintro e w2 ⟨rfl, hb2⟩; have HR2 : Hid (Row w2 gv 137 (G.flatMap rgCs)) := HR1.out.below hb2; have HB2 : Hid (Below w.heap.size w w2) := step_below hb2 HB1.out; clear hb2))
      refine bodyPost_ret (v := .tuple #[.slice (some ⟨gv, 0, none⟩) B.length cap, .int .i64 0]) ?_ rfl ⟨Or.inr ⟨HM.out, gv, cap, rfl, HG1.out, by rw [HRX.out]; exact HR2.out⟩, HB2.out⟩
      simp [results, Tryz.results66, go_sem]
  · have HM : Hid (refMayB B C = false) := hm
    have HMN : Hid (∀ (wx : World), Below w.heap.size w wx → Calls Tryz.prog 97 #[.agg #[.slice a0 B.length c0, .slice a1 C.length c1], .int .i64 s] wx fun e w' => e = .returned (.tuple #[.slice none 0 0, .int .i64 2]) ∧ Below wx.heap.size wx w') := fun wx hb => by
      refine (HMK.out s wx hb).mono ?_
      rintro e w' ⟨⟨-, h1⟩ | ⟨h1, -⟩ | ⟨h1, -⟩, h3⟩
      · exact ⟨h1, h3⟩
      · rw [hm] at h1; cases h1
      · rw [hm] at h1; cases h1
    clear hm HMK
    go_enter Tryz.func66, Tryz.ntmps66
    go_wp2_with (go_at_call 97; refine (HMN.out _ (HW0.out _)).mono ?_; rintro e w1 ⟨rfl, hb1⟩; have HB1 : Hid (Below w.heap.size w w1) := step_below hb1 (HW0.out _); clear hb1)
    refine bodyPost_ret (v := .tuple #[.slice none 0 0, .int .i64 2]) ?_ rfl ⟨Or.inl ⟨HM.out, rfl⟩, HB1.out⟩
    simp [results, Tryz.results66, go_sem]
set_option maxHeartbeats 3200000 in
theorem build_no (pv : Value) (B : List Bool) (C : List LIns) (s : Int) (w : World) (hp : ProgIs w pv B C) (ht : targetB s = false) :
    Calls Tryz.prog 39 #[pv, targetV s] w fun e w' => e = .returned (.tuple #[.agg #[.int .i64 0, .slice none 0 0], .int .i64 2]) ∧ Below w.heap.size w w' := by
  obtain ⟨⟨a0, c0, a1, c1, rfl, -⟩, -, -, -⟩ := hp
  have HT : Hid (∀ wx : World, Calls Tryz.prog 65 #[.agg #[.int .i64 s]] wx fun e w' => e = .returned (.bool false) ∧ Below wx.heap.size wx w') := fun wx => by have := targetMay s wx; rwa [ht] at this
  have HW3 : Hid (∀ o1 o2 o3 : Obj, Below w.heap.size w (((w.alloc o1).alloc o2).alloc o3)) := fun o1 o2 o3 => (((Below.refl _ _).alloc (Nat.le_refl _) _).alloc (by simp) _).alloc (by simp; omega) _
  clear ht
  unfold targetV
  go_enter Tryz.func39, Tryz.ntmps39
  go_wp2_with (go_at_call 65; refine (HT.out _).mono ?_; rintro e w1 ⟨rfl, hb1⟩; have r0 : w1.cell? ⟨w.heap.size + 1 + 1, 0, none⟩ = some (.int .i64 0) := step_cell hb1 (by simp [go_sem]); have r1 : w1.cell? ⟨w.heap.size + 1 + 1, 1, none⟩ = some (.slice none 0 0) := step_cell hb1 (by simp [go_sem]); have z0 : w1.frozen? ⟨w.heap.size + 1 + 1, 0, none⟩ = false := (by rw [hb1.frozen (by simp)]; simp [go_sem]); have z1 : w1.frozen? ⟨w.heap.size + 1 + 1, 1, none⟩ = false := (by rw [hb1.frozen (by simp)]; simp [go_sem]); have HB1 : Hid (Below w.heap.size w w1) := step_below hb1 (HW3.out _ _ _); clear hb1)
  refine bodyPost_ret (v := .tuple #[.agg #[.int .i64 0, .slice none 0 0], .int .i64 2]) ?_ rfl ⟨rfl, (HB1.out.setCell (by dsimp only; omega) _).setCell (by dsimp only; omega) _⟩
  simp [results, Tryz.results39, go_sem, r0, r1]
set_option maxHeartbeats 3200000 in
theorem build_form (pv : Value) (B : List Bool) (C : List LIns) (s : Int) (w : World) (hp : ProgIs w pv B C) (ht : targetB s = true) (hm : refMayB B C = false) :
    Calls Tryz.prog 39 #[pv, targetV s] w fun e w' => e = .returned (.tuple #[.agg #[.int .i64 0, .slice none 0 0], .int .i64 2]) ∧ Below w.heap.size w w' := by
  have HRG : Hid (∀ wx : World, Below w.heap.size w wx → Calls Tryz.prog 66 #[pv, .int .i64 s] wx fun e w' => e = .returned (.tuple #[.slice none 0 0, .int .i64 2]) ∧ Below wx.heap.size wx w') := fun wx hb => by
    refine (regsO pv B C s wx (hp.later hb) ht).mono ?_
    rintro e w' ⟨⟨-, h1⟩ | ⟨h1, -⟩, h2⟩
    · exact ⟨h1, h2⟩
    · rw [hm] at h1; cases h1
  obtain ⟨⟨a0, c0, a1, c1, rfl, -⟩, -, -, -⟩ := hp
  have HT : Hid (∀ wx : World, Calls Tryz.prog 65 #[.agg #[.int .i64 s]] wx fun e w' => e = .returned (.bool true) ∧ Below wx.heap.size wx w') := fun wx => by have := targetMay s wx; rwa [ht] at this
  have HW3 : Hid (∀ o1 o2 o3 : Obj, Below w.heap.size w (((w.alloc o1).alloc o2).alloc o3)) := fun o1 o2 o3 => (((Below.refl _ _).alloc (Nat.le_refl _) _).alloc (by simp) _).alloc (by simp; omega) _
  clear ht hm
  unfold targetV
  go_enter Tryz.func39, Tryz.ntmps39
  go_wp2_with (first
    | (go_at_call 65; refine (HT.out _).mono ?_; rintro e w1 ⟨rfl, hb1⟩; have r0 : w1.cell? ⟨w.heap.size + 1 + 1, 0, none⟩ = some (.int .i64 0) := step_cell hb1 (by simp [go_sem]); have r1 : w1.cell? ⟨w.heap.size + 1 + 1, 1, none⟩ = some (.slice none 0 0) := step_cell hb1 (by simp [go_sem]); have z0 : w1.frozen? ⟨w.heap.size + 1 + 1, 0, none⟩ = false := (by rw [hb1.frozen (by simp)]; simp [go_sem]); have z1 : w1.frozen? ⟨w.heap.size + 1 + 1, 1, none⟩ = false := (by rw [hb1.frozen (by simp)]; simp [go_sem]); have p0 : w1.cell? ⟨w.heap.size, 0, none⟩ = some (.slice a0 B.length c0) := step_cell hb1 (by simp [go_sem]); have p1 : w1.cell? ⟨w.heap.size, 1, none⟩ = some (.slice a1 C.length c1) := step_cell hb1 (by simp [go_sem]); have p2 : w1.cell? ⟨w.heap.size + 1, 0, none⟩ = some (.int .i64 s) := step_cell hb1 (by simp [go_sem]); have hl1 : w.heap.size + 1 + 1 < w1.heap.size := World.block_lt_of_cell? _ _ r0; have HB1 : Hid (Below w.heap.size w w1) := step_below hb1 (HW3.out _ _ _); clear hb1)
    | (go_at_call 66; refine (HRG.out _ HB1.out).mono ?_; rintro e w2 ⟨rfl, hb2⟩; have z0 : w2.frozen? ⟨w.heap.size + 1 + 1, 0, none⟩ = false := (by rw [hb2.frozen hl1]; exact z0); have z1 : w2.frozen? ⟨w.heap.size + 1 + 1, 1, none⟩ = false := (by rw [hb2.frozen hl1]; exact z1); have r0 := step_cell hb2 r0; have r1 := step_cell hb2 r1; have HB2 : Hid (Below w.heap.size w w2) := step_below hb2 HB1.out; clear hb2))
  refine bodyPost_ret (v := .tuple #[.agg #[.int .i64 0, .slice none 0 0], .int .i64 2]) ?_ rfl ⟨rfl, (HB2.out.setCell (by dsimp only; omega) _).setCell (by dsimp only; omega) _⟩
  simp [results, Tryz.results39, go_sem, r0, r1]
set_option maxHeartbeats 3200000 in
theorem build_yes (b0 o0 c0 b1 o1 c1 : Nat) (B : List Bool) (C : List LIns) (s : Int) (w : World) (hH : Held w b0 o0 b1 o1 B C) (hp : ProgIs w (progV b0 o0 B.length c0 b1 o1 C.length c1) B C) (ht : targetB s = true) (hm : refMayB B C = true) (hn : ∀ i, i < C.length → 0 ≤ (C.getD i .zero).n ∧ (C.getD i .zero).n < 4294967296) :
    Calls Tryz.prog 39 #[progV b0 o0 B.length c0 b1 o1 C.length c1, targetV s] w fun e w' => (∃ lv, e = .returned (.tuple #[lv, .int .i64 0]) ∧ PlacedIs w' lv (buildF B C s).1 (buildF B C s).2) ∧ Below w.heap.size w w' := by
  have hsz : sizesB B C = true := by
    have hm0 := hm
    unfold refMayB at hm0
    simp only [Bool.and_eq_true] at hm0
    exact hm0.1
  obtain ⟨s1, s2, s3, s4⟩ := sizes_of hsz
  obtain ⟨hl, -⟩ := regs_ferry (C := C) s1 ht
  obtain ⟨-, -, h4, h16, h2⟩ := target_bad ht
  have hio := all_insOk hm hn
  have hkn : ∀ k, k < C.length → knownB (C.getD k .zero).op = true := fun k hk => by
    have hm0 := hm
    unfold refMayB at hm0
    simp only [Bool.and_eq_true, List.all_eq_true] at hm0
    have h1 := hm0.2 (C.getD k .zero) (by simp [List.getD, hk])
    unfold insB at h1
    simp only [Bool.and_eq_true] at h1
    exact h1.1.1.1.1.1.1
  have HRG : Hid (∀ wx : World, Below w.heap.size w wx → Calls Tryz.prog 66 #[.agg #[.slice (some ⟨b0, o0, none⟩) B.length c0, .slice (some ⟨b1, o1, none⟩) C.length c1], .int .i64 s] wx fun e w' => (∃ gv cap, e = .returned (.tuple #[.slice (some ⟨gv, 0, none⟩) B.length cap, .int .i64 0]) ∧ wx.heap.size ≤ gv ∧ Row w' gv 137 ((regsF B C s.toNat).flatMap rgCs)) ∧ Below wx.heap.size wx w') := fun wx hb => by
    refine (regsO _ B C s wx (hp.later hb) ht).mono ?_
    rintro e w' ⟨⟨h1, -⟩ | ⟨-, h1⟩, h2⟩
    · rw [hm] at h1; cases h1
    · exact ⟨h1, h2⟩
  have HT : Hid (∀ wx : World, Calls Tryz.prog 65 #[.agg #[.int .i64 s]] wx fun e w' => e = .returned (.bool true) ∧ Below wx.heap.size wx w') := fun wx => by have := targetMay s wx; rwa [ht] at this
  have HW3 : Hid (∀ o1 o2 o3 : Obj, Below w.heap.size w (((w.alloc o1).alloc o2).alloc o3)) := fun o1 o2 o3 => (((Below.refl _ _).alloc (Nat.le_refl _) _).alloc (by simp) _).alloc (by simp; omega) _
  have HHW : Hid (Held w b0 o0 b1 o1 B C) := hH
  have HIO : Hid (∀ k, k < C.length → InsOk B.length C.length (C.getD k .zero) ∧ knownB (C.getD k .zero).op = true) := fun k hk => ⟨hio k hk, hkn k hk⟩
  have HB1F : Hid (buildF B C s = ((noneN (regsF B C s.toNat) : Int), C.map (rowL B (giveL 0 (regsF B C s.toNat)) (s / 2 - 2) (s / 2 - 1)))) := rfl
  have hq : s.tdiv 2 = s / 2 := Int.tdiv_eq_ediv_of_nonneg (by omega)
  obtain ⟨G, hG⟩ : ∃ G, G = regsF B C s.toNat := ⟨_, rfl⟩
  rw [← hG] at HRG HB1F hl
  clear hG hH hp hm ht hn hsz hio hkn
  obtain ⟨m, hm2⟩ : ∃ m, m = s / 2 := ⟨_, rfl⟩
  have hm0 : 2 ≤ m := by omega
  have hm8 : m ≤ 8 := by omega
  rw [← hm2] at hq HB1F
  clear hm2 h2
  have hw1 : IntKind.i64.wrap m = m := wrapB (by omega) (by omega)
  have hw2 : IntKind.i64.wrap (m - 1) = m - 1 := wrapB (by omega) (by omega)
  have hw3 : IntKind.i64.wrap (m - 1 - 1) = m - 1 - 1 := wrapB (by omega) (by omega)
  unfold progV targetV
  go_enter Tryz.func39, Tryz.ntmps39
  go_upto_region 7 with (first
    | (go_at_call 65; refine (HT.out _).mono ?_; rintro e w1 ⟨rfl, hb1⟩; have r0 : w1.cell? ⟨w.heap.size + 1 + 1, 0, none⟩ = some (.int .i64 0) := step_cell hb1 (by simp [go_sem]); have r1 : w1.cell? ⟨w.heap.size + 1 + 1, 1, none⟩ = some (.slice none 0 0) := step_cell hb1 (by simp [go_sem]); have z0 : w1.frozen? ⟨w.heap.size + 1 + 1, 0, none⟩ = false := (by rw [hb1.frozen (by simp)]; simp [go_sem]); have z1 : w1.frozen? ⟨w.heap.size + 1 + 1, 1, none⟩ = false := (by rw [hb1.frozen (by simp)]; simp [go_sem]); have p0 : w1.cell? ⟨w.heap.size, 0, none⟩ = some (.slice (some ⟨b0, o0, none⟩) B.length c0) := step_cell hb1 (by simp [go_sem]); have p1 : w1.cell? ⟨w.heap.size, 1, none⟩ = some (.slice (some ⟨b1, o1, none⟩) C.length c1) := step_cell hb1 (by simp [go_sem]); have p2 : w1.cell? ⟨w.heap.size + 1, 0, none⟩ = some (.int .i64 s) := step_cell hb1 (by simp [go_sem]); have hl1 : w.heap.size + 1 + 1 < w1.heap.size := World.block_lt_of_cell? _ _ r0; have HB1 : Hid (Below w.heap.size w w1) := step_below hb1 (HW3.out _ _ _); clear hb1)
    | (go_at_call 66; refine (HRG.out _ HB1.out).mono ?_; rintro e w2 ⟨⟨gv, cap, rfl, hgv, hr2⟩, hb2⟩; have z0 : w2.frozen? ⟨w.heap.size + 1 + 1, 0, none⟩ = false := (by rw [hb2.frozen hl1]; exact z0); have z1 : w2.frozen? ⟨w.heap.size + 1 + 1, 1, none⟩ = false := (by rw [hb2.frozen hl1]; exact z1); have r0 := step_cell hb2 r0; have r1 := step_cell hb2 r1; have p0 := step_cell hb2 p0; have p1 := step_cell hb2 p1; have p2 := step_cell hb2 p2; have HB2 : Hid (Below w.heap.size w w2) := step_below hb2 HB1.out; have hgl : w.heap.size + 1 + 1 < gv := (by omega); have HR2 : Hid (Row w2 gv 137 (G.flatMap rgCs)) := hr2; clear hb2 hgv hr2))
  go_upto_region 8 with fail
  obtain ⟨w3, hw3⟩ : ∃ w3, w3 = w2.alloc (.cells #[.slice (some ⟨b0, o0, none⟩) B.length c0, .slice (some ⟨b1, o1, none⟩) C.length c1, .slice (some ⟨gv, 0, none⟩) B.length cap, .int .i64 0, .int .i64 (m - 1 - 1), .int .i64 (m - 1)] 129) := ⟨_, rfl⟩
  have hb3 : Below w2.heap.size w2 w3 := by rw [hw3]; exact (Below.refl _ _).alloc (Nat.le_refl _) _
  have hr3 : Row w3 w2.heap.size 129 (bdC b0 o0 B.length c0 b1 o1 C.length c1 gv cap 0 (m - 1 - 1) (m - 1)) := by rw [hw3]; exact Row.new _ _ _
  rw [← hw3]
  clear hw3
  have hgv2 := HR2.out.lt
  obtain ⟨bb, hbb⟩ : ∃ bb, bb = w2.heap.size := ⟨_, rfl⟩
  rw [← hbb] at hr3 hgv2 ⊢
  have hne : bb ≠ gv := by omega
  have hl2 : w.heap.size + 1 + 1 < bb := by omega
  have q0 := step_cell hb3 r0
  have q1 := step_cell hb3 r1
  have HB3 : Hid (Below w.heap.size w w3) := step_below hb3 HB2.out
  have y0 : w3.frozen? ⟨w.heap.size + 1 + 1, 0, none⟩ = false := by rw [hb3.frozen (World.block_lt_of_cell? _ _ r0)]; exact z0
  have y1 : w3.frozen? ⟨w.heap.size + 1 + 1, 1, none⟩ = false := by rw [hb3.frozen (World.block_lt_of_cell? _ _ r1)]; exact z1
  have hl3 : w.heap.size + 1 + 1 < w3.heap.size := World.block_lt_of_cell? _ _ q0
  have HGS : Hid (Calls Tryz.prog 67 #[.pointer (some ⟨bb, 0, none⟩)] w3 fun e w' => e = .returned (.tuple #[]) ∧ GvS bb b0 o0 c0 b1 o1 c1 gv cap B C G (m - 1 - 1) (m - 1) w3 B.length w') := giveSlotsO bb b0 o0 c0 b1 o1 c1 gv cap B C G (m - 1 - 1) (m - 1) w3 hl s2 hne hr3 (HR2.out.below hb3)
  clear hb3 hr3 hbb r0 r1 z0 z1 p0 p1 p2 HR2 HB1 HT HRG
  go_upto_region 9 with (go_at_call 67; refine HGS.out.mono ?_; rintro e w4 ⟨rfl, hg4⟩; have HG4 : Hid (GvS bb b0 o0 c0 b1 o1 c1 gv cap B C G (m - 1 - 1) (m - 1) w3 B.length w4) := hg4; clear hg4)
  have hg4 := HG4.out
  have q0 : w4.cell? ⟨w.heap.size + 1 + 1, 0, none⟩ = some (.int .i64 0) := hg4.but.cell q0 (by dsimp only; omega) (by dsimp only; omega)
  have q1 : w4.cell? ⟨w.heap.size + 1 + 1, 1, none⟩ = some (.slice none 0 0) := hg4.but.cell q1 (by dsimp only; omega) (by dsimp only; omega)
  have hb4 : Below (w.heap.size + 1 + 1 + 1) w3 w4 := hg4.but.below (by omega) (by omega) (by omega)
  have y0 : w4.frozen? ⟨w.heap.size + 1 + 1, 0, none⟩ = false := by rw [hb4.frozen (by dsimp only; omega)]; exact y0
  have y1 : w4.frozen? ⟨w.heap.size + 1 + 1, 1, none⟩ = false := by rw [hb4.frozen (by dsimp only; omega)]; exact y1
  have hw4 : Below w.heap.size w w4 := HB3.out.trans (hb4.mono (by omega))
  have HB4 : Hid (Below w.heap.size w w4) := hw4
  have hgb := hg4.bd
  have hgr := hg4.row
  rw [show G.take B.length = G from List.take_of_length_le (by omega)] at hgb
  rw [show giveU G B.length = giveL 0 G by rw [← hl]; exact giveU_all G] at hgr
  have hbd : BdR bb b0 o0 c0 b1 o1 c1 gv cap B C (giveL 0 G) (noneN G) (m - 1 - 1) (m - 1) w4 := ⟨HHW.out.later hw4, hgb, by rw [giveL_len, hl], row_giv hgr⟩
  have HPL : Hid (Calls Tryz.prog 68 #[.pointer (some ⟨bb, 0, none⟩)] w4 fun e w' => PlacedP B C (giveL 0 G) (noneN G) (m - 1 - 1) (m - 1) w4 e w') := placedO hbd s2 s4 ⟨by omega, by omega⟩ ⟨by omega, by omega⟩ HIO.out
  have hl4 : w.heap.size + 1 + 1 < w4.heap.size := World.block_lt_of_cell? _ _ q0
  clear hg4 hb4 hw4 hgb hgr hbd HGS HG4 HB3 HB2
  go_wp2_with (go_at_call 68; refine HPL.out.mono ?_; rintro e w5 ⟨L, po, pc, rfl, hrw, hLm, hb5⟩; have HRW : Hid (RW (w4.heap.size + 2) L (.slice po C.length pc) w5) := hrw; have HLM : Hid (L.map (·.1) = C.map (rowL B (giveL 0 G) (m - 1 - 1) (m - 1))) := hLm; have q0 := step_cell hb5 q0; have q1 := step_cell hb5 q1; have y0 : w5.frozen? ⟨w.heap.size + 1 + 1, 0, none⟩ = false := (by rw [hb5.frozen hl4]; exact y0); have y1 : w5.frozen? ⟨w.heap.size + 1 + 1, 1, none⟩ = false := (by rw [hb5.frozen hl4]; exact y1); have HB5 : Hid (Below w.heap.size w w5) := step_below hb5 HB4.out; clear hrw hLm hb5)
  have hr9 := (HRW.out.setCell (a := ⟨w.heap.size + 1 + 1, 0, none⟩) (by dsimp only; omega) (.int .i64 (noneN G))).setCell (a := ⟨w.heap.size + 1 + 1, 1, none⟩) (by dsimp only; omega) (.slice po C.length pc)
  have hpl := hr9.placed (by have := congrArg List.length HLM.out; simp at this; omega) (noneN G)
  rw [HLM.out, show m - 1 - 1 = m - 2 by omega] at hpl
  refine bodyPost_ret (v := .tuple #[.agg #[.int .i64 (noneN G), .slice po C.length pc], .int .i64 0]) ?_ rfl ⟨⟨_, rfl, ?_⟩, (HB5.out.setCell (by dsimp only; omega) _).setCell (by dsimp only; omega) _⟩
  · simp [results, Tryz.results39, go_sem, q0, q1]
  · rw [HB1F.out]
    exact hpl
theorem buildO : BuildSpec buildF := by
  intro pv B C s w hp
  rcases Bool.eq_false_or_eq_true (targetB s) with ht | ht
  · rcases Bool.eq_false_or_eq_true (refMayB B C) with hm | hm
    · have hs : sizesB B C = true := by
        have hm0 := hm
        unfold refMayB at hm0
        simp only [Bool.and_eq_true] at hm0
        exact hm0.1
      obtain ⟨s1, s2, s3, s4⟩ := sizes_of hs
      have hp0 := hp
      obtain ⟨⟨a0, c0, a1, c1, rfl, hh⟩, -, -, hn⟩ := hp0
      obtain ⟨b0, o0, b1, o1, rfl, rfl, hH⟩ := hh s1 s3
      refine (build_yes b0 o0 c0 b1 o1 c1 B C s w hH hp ht hm hn).mono ?_
      rintro e w' ⟨h1, h2⟩
      exact ⟨Or.inr ⟨by rw [hm, ht]; rfl, h1⟩, h2⟩
    · refine (build_form pv B C s w hp ht hm).mono ?_
      rintro e w' ⟨rfl, h2⟩
      exact ⟨Or.inl ⟨by rw [hm]; rfl, _, rfl, ⟨none, 0, rfl, by simp, fun hh => absurd hh (by simp)⟩⟩, h2⟩
  · refine (build_no pv B C s w hp ht).mono ?_
    rintro e w' ⟨rfl, h2⟩
    exact ⟨Or.inl ⟨by rw [ht, Bool.and_false], _, rfl, ⟨none, 0, rfl, by simp, fun hh => absurd hh (by simp)⟩⟩, h2⟩
end form
end Go.Proofs.YtikhedkhgpjaaacGreatDoor
