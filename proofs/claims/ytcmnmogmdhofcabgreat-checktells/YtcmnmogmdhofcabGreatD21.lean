/- What is known behind a move, fact by fact (loanbookref8.World.Move). -/
import Derived.Test.YtcmnmogmdhofcabGreatD20

namespace Go.Proofs.YtcmnmogmdhofcabGreat.form
open Go.RowKit Go.Proofs.YtcmnmogmdhofcabGreat.num
set_option linter.unusedVariables false
attribute [local go_sem ↓] Go.wp_at_zero Go.wp_at_succ

structure OutS (w : World) (boxes : List (Nat × TypeId × List Value)) (bo : Nat) (O : List Bool) (wr : World) : Prop where
  bel : Below w.heap.size w wr
  bx : ∀ x, x ∈ boxes → Row wr x.1 x.2.1 x.2.2
  ro : Row wr bo 4 (O.map Value.bool)
theorem OutS.below {w wr w1 : World} {boxes : List (Nat × TypeId × List Value)} {bo : Nat} {O : List Bool} (h : OutS w boxes bo O wr) (hb : Below wr.heap.size wr w1) : OutS w boxes bo O w1 :=
  ⟨step_below hb h.bel, fun x hx => (h.bx x hx).below hb, h.ro.below hb⟩
theorem OutS.set {w wr : World} {boxes : List (Nat × TypeId × List Value)} {bo : Nat} {O : List Bool} (h : OutS w boxes bo O wr) (hne : ∀ x, x ∈ boxes → x.1 ≠ bo) (hbo : w.heap.size ≤ bo) (i : Nat) (b : Bool) : OutS w boxes bo (O.set i b) (wr.setCell ⟨bo, i, none⟩ (.bool b)) :=
  ⟨h.bel.setCell hbo _, fun x hx => (h.bx x hx).other (hne x hx) _, by have := h.ro.set i (.bool b); simpa [List.map_set] using this⟩

def MarksOf (F : List LFact) (K : LFact → Prop) (k : Nat) (O : List Bool) : Prop := O.length = F.length ∧ ∀ j, j < k → (O.getD j false = true ↔ K (F.getD j .zero))
theorem MarksOf.step {F : List LFact} {K : LFact → Prop} {i : Nat} {O : List Bool} {b : Bool} (h : MarksOf F K i O) (hi : i < F.length) (hb : b = true ↔ K (F.getD i .zero)) : MarksOf F K (i + 1) (O.set i b) := by
  refine ⟨by simp [h.1], fun j hj => ?_⟩
  by_cases e : j = i
  · subst e
    rw [show (O.set j b).getD j false = b by simp [List.getD, h.1, hi]]
    exact hb
  · rw [show (O.set i b).getD j false = O.getD j false by simp [List.getD, Ne.symm e]]
    exact h.2 j (by omega)
theorem MarksOf.skip {F : List LFact} {K : LFact → Prop} {i : Nat} {O : List Bool} (h : MarksOf F K i O) (h0 : O.getD i false = false) (hb : ¬ K (F.getD i .zero)) : MarksOf F K (i + 1) O := by
  refine ⟨h.1, fun j hj => ?_⟩
  by_cases e : j = i
  · subst e
    rw [h0]
    exact ⟨fun h => absurd h (by simp), fun h => absurd h hb⟩
  · exact h.2 j (by omega)

def MarksAt (F : List LFact) (b : Nat) (O : List Bool) (w : World) : Prop := b < w.heap.size ∧ ∀ j, j < F.length → w.cell? ⟨b, j, none⟩ = some (.bool (O.getD j false))
theorem MarksAt.row {F : List LFact} {b : Nat} {O : List Bool} {w : World} (h : MarksAt F b O w) (hl : O.length = F.length) (hF : F.length ≤ 100000) : BRowIs w (.slice (some ⟨b, 0, none⟩) F.length F.length) O :=
  ⟨some ⟨b, 0, none⟩, F.length, by rw [hl], by omega, fun _ => ⟨b, 0, rfl, h.1, fun j hj => by rw [Nat.zero_add]; exact h.2 j (by omega)⟩⟩

def SetAns (F : List LFact) (K : LFact → Prop) (lo : Nat) (e : Ending) (w : World) : Prop := ∃ b O, e = .returned (.slice (some ⟨b, 0, none⟩) F.length F.length) ∧ lo ≤ b ∧ MarksAt F b O w ∧ MarksOf F K F.length O

theorem setP_at {F : List LFact} {S : List Bool} (hso : F.Pairwise factLt) {i : Nat} (hi : i < F.length) : setP F S (F.getD i .zero) ↔ S.getD i false = true := by
  constructor
  · rintro ⟨j, hj, he, ht⟩
    have e1 : F[j]? = some (F.getD i .zero) := by rw [← he]; simp [List.getD, hj]
    have e2 : F[i]? = some (F.getD i .zero) := by simp [List.getD, hi]
    rw [← sorted_inj hso e1 e2]; exact ht
  · exact fun h => ⟨i, hi, rfl, h⟩

theorem moveK_stay {F : List LFact} {m : LMove} {K : LFact → Prop} {f : LFact} (hF : f ∈ F) (h : f.pl.kind = 0 ∨ overB f.pl m.dst = false) : moveK (· ∈ F) m K f ↔ K f := by
  unfold moveK
  rw [if_pos h]
  exact ⟨fun h => h.2, fun h => ⟨hF, h⟩⟩
theorem moveK_off {F : List LFact} {m : LMove} {K : LFact → Prop} {f : LFact} (h : ¬ (f.pl.kind = 0 ∨ overB f.pl m.dst = false)) (hp : samePl f.pl m.dst = false) : ¬ moveK (· ∈ F) m K f := by
  unfold moveK
  rw [if_neg h, hp]
  exact fun h => absurd h.2.1 (by simp)
theorem moveK_from {F : List LFact} {m : LMove} {K : LFact → Prop} {f : LFact} (hF : f ∈ F) (h : ¬ (f.pl.kind = 0 ∨ overB f.pl m.dst = false)) (hp : samePl f.pl m.dst = true) (hc : m.cst = false) : moveK (· ∈ F) m K f ↔ K ⟨m.src, f.temp, f.t, f.n⟩ := by
  unfold moveK
  rw [if_neg h, if_pos hc]
  exact ⟨fun h => h.2.2, fun h => ⟨hF, hp, h⟩⟩
theorem moveK_temp {F : List LFact} {m : LMove} {K : LFact → Prop} {f : LFact} (hF : f ∈ F) (h : ¬ (f.pl.kind = 0 ∨ overB f.pl m.dst = false)) (hp : samePl f.pl m.dst = true) (hc : m.cst = true) (ht : f.temp = true) : moveK (· ∈ F) m K f ↔ K (zeroAt f.t m.n) := by
  unfold moveK
  rw [if_neg h, if_neg (by simp [hc]), if_pos ht]
  exact ⟨fun h => h.2.2, fun h => ⟨hF, hp, h⟩⟩
theorem moveK_num {F : List LFact} {m : LMove} {K : LFact → Prop} {f : LFact} (hF : f ∈ F) (h : ¬ (f.pl.kind = 0 ∨ overB f.pl m.dst = false)) (hp : samePl f.pl m.dst = true) (hc : m.cst = true) (ht : f.temp = false) : moveK (· ∈ F) m K f ↔ f.n = m.n := by
  unfold moveK
  rw [if_neg h, if_neg (by simp [hc]), if_neg (by simp [ht])]
  exact ⟨fun h => h.2.2, fun h => ⟨hF, hp, h⟩⟩

set_option maxRecDepth 100000 in
set_option maxHeartbeats 2000000 in
theorem move8 (ao0 : Option Addr) (n0 c0 : Nat) (ao1 : Option Addr) (n1 c1 : Nat) (ga ca gs cs : Nat) (ao4 : Option Addr) (n4 c4 : Nat) (s slots : Int) (F : List LFact) (st : LPlace → Nat) (sv : Value) (S : List Bool) (m : LMove) (w : World)
    (h : FWorld w s slots F ga gs st) (hS : BRowIs w sv S) (hl : S.length = F.length) (hm : m.cst = false → PlaceOf s slots m.src) (hmd : PlaceOf s slots m.dst) :
    Calls Tryz.prog 78 #[fwV (.slice ao0 n0 c0) (.slice ao1 n1 c1) ga F.length ca gs cs (.slice ao4 n4 c4), sv, m.val] w fun e w' => SetAns F (moveK (· ∈ F) m (setP F S)) w.heap.size e w' ∧ Below w.heap.size w w' := by
  have HFW : Hid (FWorld w s slots F ga gs st) := h
  have HSV : Hid (BRowIs w sv S) := hS
  have HMS : Hid (m.cst = false → PlaceOf s slots m.src) := hm
  have HFD : Hid (∀ (wx : World) (f : LFact), Below w.heap.size w wx → PlaceOf s slots f.pl → Calls Tryz.prog 80 #[.agg #[.slice ao0 n0 c0, .slice ao1 n1 c1, .slice (some ⟨ga, 0, none⟩) F.length ca, .slice (some ⟨gs, 0, none⟩) 4 cs, .slice ao4 n4 c4], sv, .agg #[.int .i64 f.pl.kind, .int .i64 f.pl.n, .bool f.temp, .int .i64 f.t, .int .u32 f.n]] wx fun e w' => FindAns F S f e ∧ Below wx.heap.size wx w') :=
    fun wx f hb hf => find8 ao0 n0 c0 ao1 n1 c1 ga ca gs cs ao4 n4 c4 s slots F st sv S f wx (h.later hb) (hS.later hb) hl hf
  have HOV : Hid (∀ (wx : World) (f : LFact), f ∈ F → Calls Tryz.prog 111 #[.agg #[.int .i64 f.pl.kind, .int .i64 f.pl.n], .agg #[.int .i64 m.dst.kind, .int .i64 m.dst.n]] wx fun e w' => e = .returned (.bool (overB f.pl m.dst)) ∧ Below wx.heap.size wx w') := fun wx f hf => overlap6 f.pl m.dst (place_i64 h.bd.1 h.bd.2 (h.pls f hf)) (place_i64 h.bd.1 h.bd.2 hmd) wx
  have HPL : Hid (∀ f, f ∈ F → PlaceOf s slots f.pl) := h.pls
  have hga := h.facts.lt
  have hFl := h.facts.len
  have x4 : (F.length : Int) ≤ 100000 := by omega
  have HSO : Hid (F.Pairwise factLt) := h.sorted
  obtain ⟨sao, scap, rfl, hsl, hsc⟩ := hS
  have HSC : Hid (0 < S.length → ∃ b o, sao = some ⟨b, o, none⟩ ∧ b < w.heap.size ∧ ∀ j, j < S.length → w.cell? ⟨b, o + j, none⟩ = some (.bool (S.getD j false))) := hsc
  have hmk := fun wx => run_make_row' (P := Tryz.prog) 22 4 (.bool false) 1 Tryz.underlying22 infBool rfl .i64 .i64 F.length (by omega) (by omega) wx
  have q57 := neqPlace
  have g57 : Tryz.prog.eqGuardType Tryz.prog.depth 37 = false := by kernel_rfl
  clear h hsc hm
  rw [hl] at HFD ⊢
  unfold fwV LMove.val
  go_enter Tryz.func78, Tryz.ntmps78
  go_wp2
  go_loopw [8] (fun iv wr => ∃ (i : Nat) (O : List Bool), iv = .int .i64 i ∧ i ≤ F.length ∧ MarksOf F (moveK (· ∈ F) m (setP F S)) i O ∧ (∀ j, i ≤ j → O.getD j false = false) ∧ OutS w [(w.heap.size, 63, [.slice ao0 n0 c0, .slice ao1 n1 c1, .slice (some ⟨ga, 0, none⟩) F.length ca, .slice (some ⟨gs, 0, none⟩) 4 cs, .slice ao4 n4 c4]), (w.heap.size + 1, 52, [.int .i64 m.dst.kind, .int .i64 m.dst.n, .int .i64 m.src.kind, .int .i64 m.src.n, .bool m.cst, .int .u32 m.n])] (w.heap.size + 1 + 1) O wr) (fun iv _ => F.length - (intOf iv).toNat)
  case atStart =>
    refine ⟨0, List.replicate F.length false, rfl, by omega, ⟨by simp, fun j hj => absurd hj (by omega)⟩, fun j _ => ?_, ?_⟩
    · by_cases hj : j < F.length <;> simp [List.getD, hj]
    rw [made_bool]
    refine ⟨(((Below.refl _ _).alloc (Nat.le_refl _) _).alloc (by simp) _).alloc (by simp; omega) _, ?_, ?_⟩
    · intro x hx
      simp only [List.mem_cons, List.not_mem_nil, or_false] at hx
      rcases hx with rfl | rfl
      · exact ((Row.new w _ _).alloc _).alloc _
      · have := (Row.new (w.alloc (.cells #[.slice ao0 n0 c0, .slice ao1 n1 c1, .slice (some ⟨ga, 0, none⟩) F.length ca, .slice (some ⟨gs, 0, none⟩) 4 cs, .slice ao4 n4 c4] 63)) 52 [.int .i64 m.dst.kind, .int .i64 m.dst.n, .int .i64 m.src.kind, .int .i64 m.src.n, .bool m.cst, .int .u32 m.n]).alloc (.cells ((List.replicate F.length false).map Value.bool).toArray 4)
        simpa using this
    · have := Row.new ((w.alloc (.cells #[.slice ao0 n0 c0, .slice ao1 n1 c1, .slice (some ⟨ga, 0, none⟩) F.length ca, .slice (some ⟨gs, 0, none⟩) 4 cs, .slice ao4 n4 c4] 63)).alloc (.cells #[.int .i64 m.dst.kind, .int .i64 m.dst.n, .int .i64 m.src.kind, .int .i64 m.src.n, .bool m.cst, .int .u32 m.n] 52)) 4 ((List.replicate F.length false).map Value.bool)
      simpa using this
  case round =>
    obtain ⟨i, O, rfl, hi, hO, hO0, ho⟩ := hrel
    have HO : Hid (MarksOf F (moveK (· ∈ F) m (setP F S)) i O) := hO
    have HO0 : Hid (∀ j, i ≤ j → O.getD j false = false) := hO0
    have HOS : Hid _ := ho
    have hOl : O.length = F.length := hO.1
    have hbel := ho.bel
    have HB : Hid (Below w.heap.size w wr) := hbel
    clear hO hO0
    by_cases hlt : i < F.length
    case neg =>
      have y1 : ¬ (i : Int) < (F.length : Int) := by omega
      clear hbel ho
      go_wp2
      go_ret
      refine ⟨⟨w.heap.size + 1 + 1, O, rfl, by omega, ⟨HOS.out.ro.lt, fun j hj => ?_⟩, ?_⟩, HB.out⟩
      · rw [HOS.out.ro.cell]; simp [List.getD, hj, hOl]
      · obtain rfl : i = F.length := by omega
        exact HO.out
    have y1 : (i : Int) < (F.length : Int) := by omega
    have y0 : (0 : Int) ≤ (i : Int) := by omega
    obtain ⟨e0, e1, e2, e3, e4⟩ := (HFW.out.facts.later hbel).cells i hlt
    have hfm : F.getD i .zero ∈ F := by simp [List.getD, hlt]
    have hsat := setP_at (S := S) HSO.out hlt
    have hstep : ∀ b : Bool, (b = true ↔ moveK (· ∈ F) m (setP F S) (F.getD i .zero)) → MarksOf F (moveK (· ∈ F) m (setP F S)) (i + 1) (O.set i b) := fun b hb => HO.out.step hlt hb
    have hskip : ¬ moveK (· ∈ F) m (setP F S) (F.getD i .zero) → MarksOf F (moveK (· ∈ F) m (setP F S)) (i + 1) O := fun hb => HO.out.skip (HO0.out i (Nat.le_refl _)) hb
    have hrest : ∀ b : Bool, ∀ j, i + 1 ≤ j → (O.set i b).getD j false = false := fun b j hj => by
      rw [show (O.set i b).getD j false = O.getD j false by simp [List.getD, show ¬ i = j by omega]]
      exact HO0.out j (by omega)
    have hrest2 : ∀ j, i + 1 ≤ j → O.getD j false = false := fun j hj => HO0.out j (by omega)
    obtain ⟨f, hf⟩ : ∃ f, f = F.getD i .zero := ⟨_, rfl⟩
    rw [← hf] at e0 e1 e2 e3 e4 hfm hsat hstep hskip
    have HSAT : Hid (setP F S f ↔ S.getD i false = true) := hsat
    have HSTEP : Hid (∀ b : Bool, (b = true ↔ moveK (· ∈ F) m (setP F S) f) → MarksOf F (moveK (· ∈ F) m (setP F S)) (i + 1) (O.set i b)) := hstep
    have HSKIP : Hid (¬ moveK (· ∈ F) m (setP F S) f → MarksOf F (moveK (· ∈ F) m (setP F S)) (i + 1) O) := hskip
    have HREST : Hid (∀ b : Bool, ∀ j, i + 1 ≤ j → (O.set i b).getD j false = false) := hrest
    have HREST2 : Hid (∀ j, i + 1 ≤ j → O.getD j false = false) := hrest2
    have HFM : Hid (f ∈ F) := hfm
    have rW : Row wr w.heap.size 63 [.slice ao0 n0 c0, .slice ao1 n1 c1, .slice (some ⟨ga, 0, none⟩) F.length ca, .slice (some ⟨gs, 0, none⟩) 4 cs, .slice ao4 n4 c4] := ho.bx (w.heap.size, 63, _) (by simp)
    have rM : Row wr (w.heap.size + 1) 52 [.int .i64 m.dst.kind, .int .i64 m.dst.n, .int .i64 m.src.kind, .int .i64 m.src.n, .bool m.cst, .int .u32 m.n] := ho.bx (w.heap.size + 1, 52, _) (by simp)
    have HRW : Hid (Row wr w.heap.size 63 [.slice ao0 n0 c0, .slice ao1 n1 c1, .slice (some ⟨ga, 0, none⟩) F.length ca, .slice (some ⟨gs, 0, none⟩) 4 cs, .slice ao4 n4 c4]) := rW
    have HRM : Hid (Row wr (w.heap.size + 1) 52 [.int .i64 m.dst.kind, .int .i64 m.dst.n, .int .i64 m.src.kind, .int .i64 m.src.n, .bool m.cst, .int .u32 m.n]) := rM
    have W2 : wr.cell? ⟨w.heap.size, 2, none⟩ = some (.slice (some ⟨ga, 0, none⟩) F.length ca) := rW.cell 2
    have M0 : wr.cell? ⟨w.heap.size + 1, 0, none⟩ = some (.int .i64 m.dst.kind) := rM.cell 0
    have M1 : wr.cell? ⟨w.heap.size + 1, 1, none⟩ = some (.int .i64 m.dst.n) := rM.cell 1
    have hz3 := ho.ro.lt
    have z0 : w.heap.size < wr.heap.size := by omega
    have z1 : w.heap.size + 1 < wr.heap.size := by omega
    obtain ⟨sb, so, rfl, hsb, hscell⟩ := HSC.out (by omega)
    have ci := step_cell hbel (hscell i (by omega))
    have hsb2 : sb < wr.heap.size := by omega
    obtain ⟨u, hu⟩ : ∃ u, u = S.getD i false := ⟨_, rfl⟩
    rw [← hu] at ci HSAT
    have fz := ho.ro.frozen i
    have co : wr.cell? ⟨w.heap.size + 1 + 1, i, none⟩ = some (.bool (O.getD i false)) := by rw [ho.ro.cell]; simp [List.getD, hOl, hlt]
    generalize O.getD i false = oi at co
    have hne : ∀ x, x ∈ [(w.heap.size, (63 : TypeId), [Value.slice ao0 n0 c0, .slice ao1 n1 c1, .slice (some ⟨ga, 0, none⟩) F.length ca, .slice (some ⟨gs, 0, none⟩) 4 cs, .slice ao4 n4 c4]), (w.heap.size + 1, 52, [.int .i64 m.dst.kind, .int .i64 m.dst.n, .int .i64 m.src.kind, .int .i64 m.src.n, .bool m.cst, .int .u32 m.n])] → x.1 ≠ w.heap.size + 1 + 1 := by
      intro x hx
      simp only [List.mem_cons, List.not_mem_nil, or_false] at hx
      rcases hx with rfl | rfl
      · show w.heap.size ≠ w.heap.size + 1 + 1; omega
      · show w.heap.size + 1 ≠ w.heap.size + 1 + 1; omega
    have HNE : Hid _ := hne
    clear hf hfm hsat hstep hskip hrest hrest2 rW rM hscell hu hne hbel ho
    by_cases h0 : f.pl.kind = 0
    · have k0 : (f.pl.kind == 0) = true := by simp [h0]
      have HK : Hid (u = true ↔ moveK (· ∈ F) m (setP F S) f) := by show _ ↔ _; rw [moveK_stay HFM.out (Or.inl h0), HSAT.out]
      clear h0
      go_wp2
      refine ⟨⟨i + 1, O.set i u, by go_num, by omega, HSTEP.out u HK.out, HREST.out u, ?_⟩, by simp [intOf]; omega⟩
      exact (HOS.out.set HNE.out (by omega) i u).below ((Below.refl _ _).alloc (Nat.le_refl _) _)
    · have k0 : (f.pl.kind == 0) = false := by simp [h0]
      cases hov : overB f.pl m.dst with
      | false =>
        have HOB : Hid (overB f.pl m.dst = false) := hov
        have HK : Hid (u = true ↔ moveK (· ∈ F) m (setP F S) f) := by show _ ↔ _; rw [moveK_stay HFM.out (Or.inr hov), HSAT.out]
        clear h0 hov
        go_wp2_with (go_at_call 111; refine (HOV.out _ f HFM.out).mono ?_; rw [HOB.out]; rintro e w2 ⟨rfl, hb2⟩; have HB2 : Hid (Below wr.heap.size wr w2) := over_alloc hb2; have HRF : Hid (Row w2 wr.heap.size 114 [.int .i64 f.pl.kind, .int .i64 f.pl.n, .bool f.temp, .int .i64 f.t, .int .u32 f.n]) := (Row.new wr _ _).below hb2; have G0 : w2.cell? ⟨wr.heap.size, 0, none⟩ = some (.int .i64 f.pl.kind) := HRF.out.cell 0; have G1 : w2.cell? ⟨wr.heap.size, 1, none⟩ = some (.int .i64 f.pl.n) := HRF.out.cell 1; have G2 : w2.cell? ⟨wr.heap.size, 2, none⟩ = some (.bool f.temp) := HRF.out.cell 2; have G3 : w2.cell? ⟨wr.heap.size, 3, none⟩ = some (.int .i64 f.t) := HRF.out.cell 3; have G4 : w2.cell? ⟨wr.heap.size, 4, none⟩ = some (.int .u32 f.n) := HRF.out.cell 4; have ci2 := step_cell HB2.out ci; have hz22 := HB2.out.size; have zf : wr.heap.size < w2.heap.size := HRF.out.lt; have z02 : w.heap.size < w2.heap.size := (by omega); have z12 : w.heap.size + 1 < w2.heap.size := (by omega); have z22 : w.heap.size + 1 + 1 < w2.heap.size := (by omega); clear hz22; have co2 := step_cell HB2.out co; have fz2 := (HOS.out.ro.below HB2.out).frozen i; have N0 := step_cell HB2.out M0; have N1 := step_cell HB2.out M1; have N2 : w2.cell? ⟨w.heap.size + 1, 2, none⟩ = some (.int .i64 m.src.kind) := step_cell HB2.out (HRM.out.cell 2); have N3 : w2.cell? ⟨w.heap.size + 1, 3, none⟩ = some (.int .i64 m.src.n) := step_cell HB2.out (HRM.out.cell 3); have N4 : w2.cell? ⟨w.heap.size + 1, 4, none⟩ = some (.bool m.cst) := step_cell HB2.out (HRM.out.cell 4); have N5 : w2.cell? ⟨w.heap.size + 1, 5, none⟩ = some (.int .u32 m.n) := step_cell HB2.out (HRM.out.cell 5); have V0 : w2.cell? ⟨w.heap.size, 0, none⟩ = some (.slice ao0 n0 c0) := step_cell HB2.out (HRW.out.cell 0); have V1 : w2.cell? ⟨w.heap.size, 1, none⟩ = some (.slice ao1 n1 c1) := step_cell HB2.out (HRW.out.cell 1); have V2 : w2.cell? ⟨w.heap.size, 2, none⟩ = some (.slice (some ⟨ga, 0, none⟩) F.length ca) := step_cell HB2.out (HRW.out.cell 2); have V3 : w2.cell? ⟨w.heap.size, 3, none⟩ = some (.slice (some ⟨gs, 0, none⟩) 4 cs) := step_cell HB2.out (HRW.out.cell 3); have V4 : w2.cell? ⟨w.heap.size, 4, none⟩ = some (.slice ao4 n4 c4) := step_cell HB2.out (HRW.out.cell 4); clear hb2)
        refine ⟨⟨i + 1, O.set i u, by go_num, by omega, HSTEP.out u HK.out, HREST.out u, ?_⟩, by simp [intOf]; omega⟩
        exact (HOS.out.below HB2.out).set HNE.out (by omega) i u
      | true =>
        have HOB : Hid (overB f.pl m.dst = true) := hov
        have HN : Hid (¬ (f.pl.kind = 0 ∨ overB f.pl m.dst = false)) := by rintro (h | h); exact h0 h; rw [hov] at h; exact absurd h (by simp)
        clear h0 hov
        cases hsp : samePl f.pl m.dst with
        | false =>
          have HK : Hid (¬ moveK (· ∈ F) m (setP F S) f) := moveK_off HN.out hsp
          have hq : (f.pl.kind == m.dst.kind && f.pl.n == m.dst.n) = false := hsp
          clear hsp
          go_wp2_with (go_at_call 111; refine (HOV.out _ f HFM.out).mono ?_; rw [HOB.out]; rintro e w2 ⟨rfl, hb2⟩; have HB2 : Hid (Below wr.heap.size wr w2) := over_alloc hb2; have HRF : Hid (Row w2 wr.heap.size 114 [.int .i64 f.pl.kind, .int .i64 f.pl.n, .bool f.temp, .int .i64 f.t, .int .u32 f.n]) := (Row.new wr _ _).below hb2; have G0 : w2.cell? ⟨wr.heap.size, 0, none⟩ = some (.int .i64 f.pl.kind) := HRF.out.cell 0; have G1 : w2.cell? ⟨wr.heap.size, 1, none⟩ = some (.int .i64 f.pl.n) := HRF.out.cell 1; have G2 : w2.cell? ⟨wr.heap.size, 2, none⟩ = some (.bool f.temp) := HRF.out.cell 2; have G3 : w2.cell? ⟨wr.heap.size, 3, none⟩ = some (.int .i64 f.t) := HRF.out.cell 3; have G4 : w2.cell? ⟨wr.heap.size, 4, none⟩ = some (.int .u32 f.n) := HRF.out.cell 4; have ci2 := step_cell HB2.out ci; have hz22 := HB2.out.size; have zf : wr.heap.size < w2.heap.size := HRF.out.lt; have z02 : w.heap.size < w2.heap.size := (by omega); have z12 : w.heap.size + 1 < w2.heap.size := (by omega); have z22 : w.heap.size + 1 + 1 < w2.heap.size := (by omega); clear hz22; have co2 := step_cell HB2.out co; have fz2 := (HOS.out.ro.below HB2.out).frozen i; have N0 := step_cell HB2.out M0; have N1 := step_cell HB2.out M1; have N2 : w2.cell? ⟨w.heap.size + 1, 2, none⟩ = some (.int .i64 m.src.kind) := step_cell HB2.out (HRM.out.cell 2); have N3 : w2.cell? ⟨w.heap.size + 1, 3, none⟩ = some (.int .i64 m.src.n) := step_cell HB2.out (HRM.out.cell 3); have N4 : w2.cell? ⟨w.heap.size + 1, 4, none⟩ = some (.bool m.cst) := step_cell HB2.out (HRM.out.cell 4); have N5 : w2.cell? ⟨w.heap.size + 1, 5, none⟩ = some (.int .u32 m.n) := step_cell HB2.out (HRM.out.cell 5); have V0 : w2.cell? ⟨w.heap.size, 0, none⟩ = some (.slice ao0 n0 c0) := step_cell HB2.out (HRW.out.cell 0); have V1 : w2.cell? ⟨w.heap.size, 1, none⟩ = some (.slice ao1 n1 c1) := step_cell HB2.out (HRW.out.cell 1); have V2 : w2.cell? ⟨w.heap.size, 2, none⟩ = some (.slice (some ⟨ga, 0, none⟩) F.length ca) := step_cell HB2.out (HRW.out.cell 2); have V3 : w2.cell? ⟨w.heap.size, 3, none⟩ = some (.slice (some ⟨gs, 0, none⟩) 4 cs) := step_cell HB2.out (HRW.out.cell 3); have V4 : w2.cell? ⟨w.heap.size, 4, none⟩ = some (.slice ao4 n4 c4) := step_cell HB2.out (HRW.out.cell 4); clear hb2)
          refine ⟨⟨i + 1, O, by go_num, by omega, HSKIP.out HK.out, HREST2.out, ?_⟩, by simp [intOf]; omega⟩
          exact HOS.out.below HB2.out
        | true =>
          have hq : (f.pl.kind == m.dst.kind && f.pl.n == m.dst.n) = true := hsp
          have HSP : Hid (samePl f.pl m.dst = true) := hsp
          clear hsp
          rcases Bool.eq_false_or_eq_true m.cst with hc | hc
          rotate_left
          · have HPS : Hid (PlaceOf s slots m.src) := HMS.out hc
            have HK : Hid (∀ b : Bool, (b = true ↔ setP F S ⟨m.src, f.temp, f.t, f.n⟩) → (b = true ↔ moveK (· ∈ F) m (setP F S) f)) := fun b hb => by rw [moveK_from HFM.out HN.out HSP.out hc]; exact hb
            have HC : Hid (m.cst = false) := hc
            clear hc
            go_wp2_with (first
              | (go_at_call 111; refine (HOV.out _ f HFM.out).mono ?_; rw [HOB.out]; rintro e w2 ⟨rfl, hb2⟩; have HB2 : Hid (Below wr.heap.size wr w2) := over_alloc hb2; have HRF : Hid (Row w2 wr.heap.size 114 [.int .i64 f.pl.kind, .int .i64 f.pl.n, .bool f.temp, .int .i64 f.t, .int .u32 f.n]) := (Row.new wr _ _).below hb2; have G0 : w2.cell? ⟨wr.heap.size, 0, none⟩ = some (.int .i64 f.pl.kind) := HRF.out.cell 0; have G1 : w2.cell? ⟨wr.heap.size, 1, none⟩ = some (.int .i64 f.pl.n) := HRF.out.cell 1; have G2 : w2.cell? ⟨wr.heap.size, 2, none⟩ = some (.bool f.temp) := HRF.out.cell 2; have G3 : w2.cell? ⟨wr.heap.size, 3, none⟩ = some (.int .i64 f.t) := HRF.out.cell 3; have G4 : w2.cell? ⟨wr.heap.size, 4, none⟩ = some (.int .u32 f.n) := HRF.out.cell 4; have ci2 := step_cell HB2.out ci; have hz22 := HB2.out.size; have zf : wr.heap.size < w2.heap.size := HRF.out.lt; have z02 : w.heap.size < w2.heap.size := (by omega); have z12 : w.heap.size + 1 < w2.heap.size := (by omega); have z22 : w.heap.size + 1 + 1 < w2.heap.size := (by omega); clear hz22; have co2 := step_cell HB2.out co; have fz2 := (HOS.out.ro.below HB2.out).frozen i; have N0 := step_cell HB2.out M0; have N1 := step_cell HB2.out M1; have N2 : w2.cell? ⟨w.heap.size + 1, 2, none⟩ = some (.int .i64 m.src.kind) := step_cell HB2.out (HRM.out.cell 2); have N3 : w2.cell? ⟨w.heap.size + 1, 3, none⟩ = some (.int .i64 m.src.n) := step_cell HB2.out (HRM.out.cell 3); have N4 : w2.cell? ⟨w.heap.size + 1, 4, none⟩ = some (.bool false) := (by rw [← HC.out]; exact step_cell HB2.out (HRM.out.cell 4)); have N5 : w2.cell? ⟨w.heap.size + 1, 5, none⟩ = some (.int .u32 m.n) := step_cell HB2.out (HRM.out.cell 5); have V0 : w2.cell? ⟨w.heap.size, 0, none⟩ = some (.slice ao0 n0 c0) := step_cell HB2.out (HRW.out.cell 0); have V1 : w2.cell? ⟨w.heap.size, 1, none⟩ = some (.slice ao1 n1 c1) := step_cell HB2.out (HRW.out.cell 1); have V2 : w2.cell? ⟨w.heap.size, 2, none⟩ = some (.slice (some ⟨ga, 0, none⟩) F.length ca) := step_cell HB2.out (HRW.out.cell 2); have V3 : w2.cell? ⟨w.heap.size, 3, none⟩ = some (.slice (some ⟨gs, 0, none⟩) 4 cs) := step_cell HB2.out (HRW.out.cell 3); have V4 : w2.cell? ⟨w.heap.size, 4, none⟩ = some (.slice ao4 n4 c4) := step_cell HB2.out (HRW.out.cell 4); clear hb2)
              | (go_at_call 80; refine (HFD.out _ ⟨m.src, f.temp, f.t, f.n⟩ ?_ HPS.out).mono ?_; (exact step_below ((Below.refl _ _).alloc (Nat.le_refl _) _) (step_below HB2.out HB.out)); rintro e w3 ⟨⟨b, rfl, hsay⟩, hb3⟩; have HB3 : Hid (Below wr.heap.size wr w3) := step_below (over_alloc hb3) HB2.out; have co3 := step_cell HB3.out co; have fz3 := (HOS.out.ro.below HB3.out).frozen i; have HSAY : Hid (Says8 b (setP F S ⟨m.src, f.temp, f.t, f.n⟩)) := hsay; clear hb3 hsay))
            refine ⟨⟨i + 1, O.set i b, by go_num, by omega, HSTEP.out b (HK.out b HSAY.out), HREST.out b, ?_⟩, by simp [intOf]; omega⟩
            exact (HOS.out.below HB3.out).set HNE.out (by omega) i b
          · have HC : Hid (m.cst = true) := hc
            clear hc
            rcases Bool.eq_false_or_eq_true f.temp with ht | ht
            · have HK : Hid (∀ b : Bool, (b = true ↔ setP F S ⟨.zero, true, f.t, m.n⟩) → (b = true ↔ moveK (· ∈ F) m (setP F S) f)) := fun b hb => by rw [moveK_temp HFM.out HN.out HSP.out HC.out ht]; exact hb
              have HT : Hid (f.temp = true) := ht
              clear ht
              go_wp2_with (first
                | (go_at_call 111; refine (HOV.out _ f HFM.out).mono ?_; rw [HOB.out]; rintro e w2 ⟨rfl, hb2⟩; have HB2 : Hid (Below wr.heap.size wr w2) := over_alloc hb2; have HRF : Hid (Row w2 wr.heap.size 114 [.int .i64 f.pl.kind, .int .i64 f.pl.n, .bool f.temp, .int .i64 f.t, .int .u32 f.n]) := (Row.new wr _ _).below hb2; have G0 : w2.cell? ⟨wr.heap.size, 0, none⟩ = some (.int .i64 f.pl.kind) := HRF.out.cell 0; have G1 : w2.cell? ⟨wr.heap.size, 1, none⟩ = some (.int .i64 f.pl.n) := HRF.out.cell 1; have G2 : w2.cell? ⟨wr.heap.size, 2, none⟩ = some (.bool true) := (by rw [← HT.out]; exact HRF.out.cell 2); have G3 : w2.cell? ⟨wr.heap.size, 3, none⟩ = some (.int .i64 f.t) := HRF.out.cell 3; have G4 : w2.cell? ⟨wr.heap.size, 4, none⟩ = some (.int .u32 f.n) := HRF.out.cell 4; have ci2 := step_cell HB2.out ci; have hz22 := HB2.out.size; have zf : wr.heap.size < w2.heap.size := HRF.out.lt; have z02 : w.heap.size < w2.heap.size := (by omega); have z12 : w.heap.size + 1 < w2.heap.size := (by omega); have z22 : w.heap.size + 1 + 1 < w2.heap.size := (by omega); clear hz22; have co2 := step_cell HB2.out co; have fz2 := (HOS.out.ro.below HB2.out).frozen i; have N0 := step_cell HB2.out M0; have N1 := step_cell HB2.out M1; have N2 : w2.cell? ⟨w.heap.size + 1, 2, none⟩ = some (.int .i64 m.src.kind) := step_cell HB2.out (HRM.out.cell 2); have N3 : w2.cell? ⟨w.heap.size + 1, 3, none⟩ = some (.int .i64 m.src.n) := step_cell HB2.out (HRM.out.cell 3); have N4 : w2.cell? ⟨w.heap.size + 1, 4, none⟩ = some (.bool true) := (by rw [← HC.out]; exact step_cell HB2.out (HRM.out.cell 4)); have N5 : w2.cell? ⟨w.heap.size + 1, 5, none⟩ = some (.int .u32 m.n) := step_cell HB2.out (HRM.out.cell 5); have V0 : w2.cell? ⟨w.heap.size, 0, none⟩ = some (.slice ao0 n0 c0) := step_cell HB2.out (HRW.out.cell 0); have V1 : w2.cell? ⟨w.heap.size, 1, none⟩ = some (.slice ao1 n1 c1) := step_cell HB2.out (HRW.out.cell 1); have V2 : w2.cell? ⟨w.heap.size, 2, none⟩ = some (.slice (some ⟨ga, 0, none⟩) F.length ca) := step_cell HB2.out (HRW.out.cell 2); have V3 : w2.cell? ⟨w.heap.size, 3, none⟩ = some (.slice (some ⟨gs, 0, none⟩) 4 cs) := step_cell HB2.out (HRW.out.cell 3); have V4 : w2.cell? ⟨w.heap.size, 4, none⟩ = some (.slice ao4 n4 c4) := step_cell HB2.out (HRW.out.cell 4); clear hb2)
                | (go_at_call 80; refine (HFD.out _ ⟨.zero, true, f.t, m.n⟩ (step_below HB2.out HB.out) (Or.inl ⟨rfl, rfl⟩)).mono ?_; rintro e w3 ⟨⟨b, rfl, hsay⟩, hb3⟩; have HB3 : Hid (Below wr.heap.size wr w3) := step_below hb3 HB2.out; have co3 := step_cell HB3.out co; have fz3 := (HOS.out.ro.below HB3.out).frozen i; have HSAY : Hid (Says8 b (setP F S ⟨.zero, true, f.t, m.n⟩)) := hsay; clear hb3 hsay))
              refine ⟨⟨i + 1, O.set i b, by go_num, by omega, HSTEP.out b (HK.out b HSAY.out), HREST.out b, ?_⟩, by simp [intOf]; omega⟩
              exact (HOS.out.below HB3.out).set HNE.out (by omega) i b
            · have HK : Hid ((f.n == m.n) = true ↔ moveK (· ∈ F) m (setP F S) f) := by show _ ↔ _; rw [moveK_num HFM.out HN.out HSP.out HC.out ht, beq_iff_eq]
              have HT : Hid (f.temp = false) := ht
              clear ht
              go_wp2_with (go_at_call 111; refine (HOV.out _ f HFM.out).mono ?_; rw [HOB.out]; rintro e w2 ⟨rfl, hb2⟩; have HB2 : Hid (Below wr.heap.size wr w2) := over_alloc hb2; have HRF : Hid (Row w2 wr.heap.size 114 [.int .i64 f.pl.kind, .int .i64 f.pl.n, .bool f.temp, .int .i64 f.t, .int .u32 f.n]) := (Row.new wr _ _).below hb2; have G0 : w2.cell? ⟨wr.heap.size, 0, none⟩ = some (.int .i64 f.pl.kind) := HRF.out.cell 0; have G1 : w2.cell? ⟨wr.heap.size, 1, none⟩ = some (.int .i64 f.pl.n) := HRF.out.cell 1; have G2 : w2.cell? ⟨wr.heap.size, 2, none⟩ = some (.bool false) := (by rw [← HT.out]; exact HRF.out.cell 2); have G3 : w2.cell? ⟨wr.heap.size, 3, none⟩ = some (.int .i64 f.t) := HRF.out.cell 3; have G4 : w2.cell? ⟨wr.heap.size, 4, none⟩ = some (.int .u32 f.n) := HRF.out.cell 4; have ci2 := step_cell HB2.out ci; have hz22 := HB2.out.size; have zf : wr.heap.size < w2.heap.size := HRF.out.lt; have z02 : w.heap.size < w2.heap.size := (by omega); have z12 : w.heap.size + 1 < w2.heap.size := (by omega); have z22 : w.heap.size + 1 + 1 < w2.heap.size := (by omega); clear hz22; have co2 := step_cell HB2.out co; have fz2 := (HOS.out.ro.below HB2.out).frozen i; have N0 := step_cell HB2.out M0; have N1 := step_cell HB2.out M1; have N2 : w2.cell? ⟨w.heap.size + 1, 2, none⟩ = some (.int .i64 m.src.kind) := step_cell HB2.out (HRM.out.cell 2); have N3 : w2.cell? ⟨w.heap.size + 1, 3, none⟩ = some (.int .i64 m.src.n) := step_cell HB2.out (HRM.out.cell 3); have N4 : w2.cell? ⟨w.heap.size + 1, 4, none⟩ = some (.bool true) := (by rw [← HC.out]; exact step_cell HB2.out (HRM.out.cell 4)); have N5 : w2.cell? ⟨w.heap.size + 1, 5, none⟩ = some (.int .u32 m.n) := step_cell HB2.out (HRM.out.cell 5); have V0 : w2.cell? ⟨w.heap.size, 0, none⟩ = some (.slice ao0 n0 c0) := step_cell HB2.out (HRW.out.cell 0); have V1 : w2.cell? ⟨w.heap.size, 1, none⟩ = some (.slice ao1 n1 c1) := step_cell HB2.out (HRW.out.cell 1); have V2 : w2.cell? ⟨w.heap.size, 2, none⟩ = some (.slice (some ⟨ga, 0, none⟩) F.length ca) := step_cell HB2.out (HRW.out.cell 2); have V3 : w2.cell? ⟨w.heap.size, 3, none⟩ = some (.slice (some ⟨gs, 0, none⟩) 4 cs) := step_cell HB2.out (HRW.out.cell 3); have V4 : w2.cell? ⟨w.heap.size, 4, none⟩ = some (.slice ao4 n4 c4) := step_cell HB2.out (HRW.out.cell 4); clear hb2)
              refine ⟨⟨i + 1, O.set i (f.n == m.n), by go_num, by omega, HSTEP.out _ HK.out, HREST.out _, ?_⟩, by simp [intOf]; omega⟩
              exact (HOS.out.below HB2.out).set HNE.out (by omega) i _

end Go.Proofs.YtcmnmogmdhofcabGreat.form

/- What is known at the beginning (loanbookref8.World.Begin); whether a place may have a temporary (loanbookref8.may). -/
namespace Go.Proofs.YtcmnmogmdhofcabGreat.form
open Go.RowKit Go.Proofs.YtcmnmogmdhofcabGreat.num
set_option linter.unusedVariables false
attribute [local go_sem ↓] Go.wp_at_zero Go.wp_at_succ

def BegAns (F : List LFact) (H : Nat) (e : Ending) (w : World) : Prop := ∃ O, e = .returned (.slice (some ⟨H + 1, 0, none⟩) F.length F.length) ∧ Row w (H + 1) 4 (O.map Value.bool) ∧ MarksOf F (fun f => f.n = 0) F.length O

set_option maxRecDepth 100000 in
theorem begin8 (ao0 : Option Addr) (n0 c0 : Nat) (ao1 : Option Addr) (n1 c1 : Nat) (ga ca gs cs : Nat) (ao4 : Option Addr) (n4 c4 : Nat) (F : List LFact) (w : World) (h : FactsHeld w ga F) :
    Calls Tryz.prog 49 #[fwV (.slice ao0 n0 c0) (.slice ao1 n1 c1) ga F.length ca gs cs (.slice ao4 n4 c4)] w fun e w' => BegAns F w.heap.size e w' ∧ Below w.heap.size w w' := by
  have HFH : Hid (FactsHeld w ga F) := h
  have hga := h.lt
  have hFl := h.len
  have x4 : (F.length : Int) ≤ 100000 := by omega
  have hmk := fun wx => run_make_row' (P := Tryz.prog) 22 4 (.bool false) 1 Tryz.underlying22 infBool rfl .i64 .i64 F.length (by omega) (by omega) wx
  clear h
  unfold fwV
  go_enter Tryz.func49, Tryz.ntmps49
  go_wp2
  go_loopw [4] (fun iv wr => ∃ (i : Nat) (O : List Bool), iv = .int .i64 i ∧ i ≤ F.length ∧ MarksOf F (fun f => f.n = 0) i O ∧ OutS w [(w.heap.size, 63, [.slice ao0 n0 c0, .slice ao1 n1 c1, .slice (some ⟨ga, 0, none⟩) F.length ca, .slice (some ⟨gs, 0, none⟩) 4 cs, .slice ao4 n4 c4])] (w.heap.size + 1) O wr) (fun iv _ => F.length - (intOf iv).toNat)
  case atStart =>
    refine ⟨0, List.replicate F.length false, rfl, by omega, ⟨by simp, fun j hj => absurd hj (by omega)⟩, ?_⟩
    rw [made_bool]
    refine ⟨((Below.refl _ _).alloc (Nat.le_refl _) _).alloc (by simp) _, ?_, ?_⟩
    · intro x hx
      simp only [List.mem_cons, List.not_mem_nil, or_false] at hx
      rcases hx with rfl
      exact (Row.new w _ _).alloc _
    · have := Row.new (w.alloc (.cells #[.slice ao0 n0 c0, .slice ao1 n1 c1, .slice (some ⟨ga, 0, none⟩) F.length ca, .slice (some ⟨gs, 0, none⟩) 4 cs, .slice ao4 n4 c4] 63)) 4 ((List.replicate F.length false).map Value.bool)
      simpa using this
  case round =>
    obtain ⟨i, O, rfl, hi, hO, ho⟩ := hrel
    have HO : Hid (MarksOf F (fun f => f.n = 0) i O) := hO
    have HOS : Hid _ := ho
    have hOl : O.length = F.length := hO.1
    have HB : Hid (Below w.heap.size w wr) := ho.bel
    have hbel := ho.bel
    clear hO
    by_cases hlt : i < F.length
    case neg =>
      have y1 : ¬ (i : Int) < (F.length : Int) := by omega
      clear hbel ho
      go_wp2
      go_ret
      refine ⟨⟨O, rfl, HOS.out.ro, ?_⟩, HB.out⟩
      obtain rfl : i = F.length := by omega
      exact HO.out
    have y1 : (i : Int) < (F.length : Int) := by omega
    have y0 : (0 : Int) ≤ (i : Int) := by omega
    obtain ⟨e0, e1, e2, e3, e4⟩ := (HFH.out.later hbel).cells i hlt
    have hstep : ∀ b : Bool, (b = true ↔ (F.getD i .zero).n = 0) → MarksOf F (fun f => f.n = 0) (i + 1) (O.set i b) := fun b hb => HO.out.step hlt hb
    obtain ⟨f, hf⟩ : ∃ f, f = F.getD i .zero := ⟨_, rfl⟩
    rw [← hf] at e0 e1 e2 e3 e4 hstep
    have HSTEP : Hid (∀ b : Bool, (b = true ↔ f.n = 0) → MarksOf F (fun f => f.n = 0) (i + 1) (O.set i b)) := hstep
    have rW : Row wr w.heap.size 63 [.slice ao0 n0 c0, .slice ao1 n1 c1, .slice (some ⟨ga, 0, none⟩) F.length ca, .slice (some ⟨gs, 0, none⟩) 4 cs, .slice ao4 n4 c4] := ho.bx (w.heap.size, 63, _) (by simp)
    have W2 : wr.cell? ⟨w.heap.size, 2, none⟩ = some (.slice (some ⟨ga, 0, none⟩) F.length ca) := rW.cell 2
    have hz3 := ho.ro.lt
    have z0 : w.heap.size < wr.heap.size := by omega
    have fz := ho.ro.frozen i
    have co : wr.cell? ⟨w.heap.size + 1, i, none⟩ = some (.bool (O.getD i false)) := by rw [ho.ro.cell]; simp [List.getD, hOl, hlt]
    generalize O.getD i false = oi at co
    clear hf hstep rW hbel ho
    go_wp2
    refine ⟨⟨i + 1, O.set i (f.n == 0), by go_num, by omega, HSTEP.out _ (by simp), ?_⟩, by simp [intOf]; omega⟩
    refine (HOS.out.set (fun x hx => ?_) (by omega) i _).below ((Below.refl _ _).alloc (Nat.le_refl _) _)
    simp only [List.mem_cons, List.not_mem_nil, or_false] at hx
    rcases hx with rfl
    show w.heap.size ≠ w.heap.size + 1
    omega

set_option maxRecDepth 100000 in
theorem may8 (b0 o0 c0 b1 o1 c1 : Nat) (B : List Bool) (C : List LIns) (kind : Int) (x : Nat) (w : World) (hB : B.length ≤ 12) (h : Held w b0 o0 b1 o1 B C) (hx : x < B.length) :
    Calls Tryz.prog 48 #[progV b0 o0 B.length c0 b1 o1 C.length c1, .int .i64 kind, .int .i64 x] w fun e w' => e = .returned (.bool (mayK B kind x)) ∧ Below w.heap.size w w' := by
  have hc := h.wide x hx
  have hlt0 := h.lt0
  have y0 : (0 : Int) ≤ (x : Int) := by omega
  have y1 : (x : Int) < (B.length : Int) := by omega
  unfold mayK
  obtain ⟨u, hu⟩ : ∃ u, u = B.getD x false := ⟨_, rfl⟩
  rw [← hu] at hc ⊢
  clear hu
  unfold progV
  rcases (show (kind == 3) = true ∨ ((kind == 3) = false ∧ (kind == 1) = true) ∨ ((kind == 3) = false ∧ (kind == 1) = false ∧ (kind == 2) = true) ∨ ((kind == 3) = false ∧ (kind == 1) = false ∧ (kind == 2) = false) by
    cases (kind == 3) <;> cases (kind == 1) <;> cases (kind == 2) <;> simp) with k | ⟨k, k1⟩ | ⟨k, k1, k2⟩ | ⟨k, k1, k2⟩
  · go_enter Tryz.func48, Tryz.ntmps48
    go_wp2
    go_ret
    exact ⟨ret_bool (by rw [k]; simp), (Below.refl _ _).alloc (Nat.le_refl _) _⟩
  · have k2 : (kind == 2) = false := by simp at k1 ⊢; omega
    cases u
    all_goals
      go_enter Tryz.func48, Tryz.ntmps48
      go_wp2
      go_ret
      exact ⟨ret_bool (by rw [k, k1, k2]; simp), (Below.refl _ _).alloc (Nat.le_refl _) _⟩
  · cases u
    all_goals
      go_enter Tryz.func48, Tryz.ntmps48
      go_wp2
      go_ret
      exact ⟨ret_bool (by rw [k, k1, k2]; simp), (Below.refl _ _).alloc (Nat.le_refl _) _⟩
  · go_enter Tryz.func48, Tryz.ntmps48
    go_wp2
    go_ret
    exact ⟨ret_bool (by rw [k, k1, k2]; simp), (Below.refl _ _).alloc (Nat.le_refl _) _⟩

end Go.Proofs.YtcmnmogmdhofcabGreat.form

/- Facts in memory, five cells each; what loanbookref8.Of must give. -/
namespace Go.Proofs.YtcmnmogmdhofcabGreat.form
open Go.RowKit Go.Proofs.YtcmnmogmdhofcabGreat.num
set_option linter.unusedVariables false

def factCs (f : LFact) : List Value := [.int .i64 f.pl.kind, .int .i64 f.pl.n, .bool f.temp, .int .i64 f.t, .int .u32 f.n]
theorem flat5 : ∀ {l : List LFact} {q j : Nat}, q < l.length → j < 5 → (l.flatMap factCs)[q * 5 + j]? = (factCs (l.getD q .zero))[j]?
  | f :: l, 0, j, _, hj => by
    rw [List.flatMap_cons, Nat.zero_mul, Nat.zero_add, List.getElem?_append_left (by simp [factCs]; exact hj)]
    rfl
  | f :: l, q + 1, j, hq, hj => by
    rw [List.flatMap_cons, List.getElem?_append_right (by simp [factCs]; omega)]
    have e : (q + 1) * 5 + j - (factCs f).length = q * 5 + j := by simp [factCs]; omega
    rw [e, flat5 (by simpa using hq) hj]
    rfl
def FCells (w : World) (b : Nat) (l : List LFact) : Prop := ∀ q, q < l.length → w.cell? ⟨b, q * 5, none⟩ = some (.int .i64 (l.getD q .zero).pl.kind) ∧ w.cell? ⟨b, q * 5 + 1, none⟩ = some (.int .i64 (l.getD q .zero).pl.n) ∧ w.cell? ⟨b, q * 5 + 2, none⟩ = some (.bool (l.getD q .zero).temp) ∧ w.cell? ⟨b, q * 5 + 3, none⟩ = some (.int .i64 (l.getD q .zero).t) ∧ w.cell? ⟨b, q * 5 + 4, none⟩ = some (.int .u32 (l.getD q .zero).n)

theorem own_fcells {w : World} {base g cap : Nat} {e : TypeId} {l : List LFact} (h : w.ownsRow base e 5 (.slice (some ⟨g, 0, none⟩) l.length cap) l.length (l.flatMap factCs)) : FCells w g l := by
  intro q hq
  have key : ∀ j, j < 5 → w.cell? ⟨g, q * 5 + j, none⟩ = (factCs (l.getD q .zero))[j]? := fun j hj => by
    rw [World.ownsRow.cellAt h _ (by omega), flat5 hq hj]
  exact ⟨key 0 (by omega), key 1 (by omega), key 2 (by omega), key 3 (by omega), key 4 (by omega)⟩

theorem infFact8 : (Tryz.prog.info? 114).map (fun i => (i.zero, i.size, i.bytes)) = some (some (.agg #[.int .i64 0, .int .i64 0, .bool false, .int .i64 0, .int .u32 0]), 5, 40) := by kernel_rfl
def OfAns8 (b0 o0 c0 b1 o1 c1 : Nat) (B : List Bool) (C : List LIns) (s slots : Nat) (e : Ending) (w : World) : Prop :=
  ∃ ga ca gs cs ao4 n4 c4 st, e = .returned (fwV (.slice (some ⟨b0, o0, none⟩) B.length c0) (.slice (some ⟨b1, o1, none⟩) C.length c1) ga (allF B (numsL C) s slots).length ca gs cs (.slice ao4 n4 c4)) ∧ FWorld w s slots (allF B (numsL C) s slots) ga gs st
def OfSpec (w : World) (b0 o0 c0 b1 o1 c1 : Nat) (B : List Bool) (C : List LIns) (s slots : Nat) : Prop :=
  ∀ wx : World, Below w.heap.size w wx → Calls Tryz.prog 18 #[progV b0 o0 B.length c0 b1 o1 C.length c1, targetV s, .int .i64 slots] wx fun e w' => OfAns8 b0 o0 c0 b1 o1 c1 B C s slots e w' ∧ Below wx.heap.size wx w'

theorem all_ok {B : List Bool} {C : List LIns} {s slots : Nat} (h1 : s % 2 = 0) (h2 : s ≤ 16) : ∀ f, f ∈ allF B (numsL C) s slots ↔ FactOk B s slots (NumP C) f := by
  intro f
  rw [mem_allF h1 h2]
  have e : (fun x => x ∈ numsL C) = NumP C := funext fun x => propext (nums_mem C x)
  rw [e]

end Go.Proofs.YtcmnmogmdhofcabGreat.form

/- A world of facts while it is being made (loanbookref8.Of): its block, its facts, its starts, in memory. -/
namespace Go.Proofs.YtcmnmogmdhofcabGreat.form
open Go.RowKit Go.Proofs.YtcmnmogmdhofcabGreat.num
set_option linter.unusedVariables false

theorem grown_over {a w w' : World} {x : Nat} {row : Option Nat} (h : a.grownBy w (some x)) (hg : w.grownBy w' row) (hr : ∀ k, row = some k → a.heap.size ≤ k ∨ k = x) : a.grownBy w' (some x) :=
  ⟨hg.os.trans h.os, hg.tape.trans h.tape, hg.output.trans h.output, Nat.le_trans h.size hg.size, fun k hk hne => by
    rw [hg.block k (Nat.lt_of_lt_of_le hk h.size) (fun e => by
      rcases hr k e.symm with h1 | h1
      · omega
      · exact hne (by rw [h1])), h.block k hk hne]⟩
theorem grown_set (w : World) (b i : Nat) (v : Value) : w.grownBy (w.setCell ⟨b, i, none⟩ v) (some b) :=
  ⟨rfl, rfl, rfl, by simp [World.setCell], fun k hk hne => Below.heap_setCell _ _ _ _ (fun e => hne (by simpa using e))⟩

structure OfS (w1 : World) (bw gs : Nat) (nv : Value) (l : List LFact) (av : Value) (sv : Nat → Value) (st : Nat → List Nat) (wr : World) : Prop where
  gr : w1.grownBy wr (some bw)
  lb : bw < wr.heap.size
  lg : w1.heap.size ≤ gs ∧ gs < wr.heap.size
  ne : bw ≠ gs
  c2 : wr.cell? ⟨bw, 2, none⟩ = some av
  c3 : wr.cell? ⟨bw, 3, none⟩ = some (.slice (some ⟨gs, 0, none⟩) 4 4)
  c4 : wr.cell? ⟨bw, 4, none⟩ = some nv
  all : wr.ownsRow w1.heap.size 114 5 av l.length (l.flatMap factCs)
  top : ∀ q, q < 4 → wr.cell? ⟨gs, q, none⟩ = some (sv q)
  row : ∀ q, q < 4 → wr.ownsRow w1.heap.size 3 1 (sv q) (st q).length ((st q).map (fun n : Nat => Value.int .i64 (n : Int)))
  apb : av.ownBlock ≠ some bw
  apg : av.ownBlock ≠ some gs
  sb : ∀ q, q < 4 → (sv q).ownBlock ≠ some bw
  sg : ∀ q, q < 4 → (sv q).ownBlock ≠ some gs
  sa : ∀ q, q < 4 → ∀ b, (sv q).ownBlock = some b → av.ownBlock ≠ some b
  ss : ∀ q r, q < 4 → r < 4 → q ≠ r → ∀ b, (sv q).ownBlock = some b → (sv r).ownBlock ≠ some b

section
variable {w1 : World} {bw gs : Nat} {nv : Value} {l : List LFact} {av : Value} {sv : Nat → Value} {st : Nat → List Nat} {wr w9 : World}

theorem own_kept {w w' : World} {base size n : Nat} {e : TypeId} {v : Value} {xs : List Value} {row : Option Nat} (h : w.ownsRow base e size v n xs) (hg : w.grownBy w' row) (hne : ∀ b, v.ownBlock = some b → row ≠ some b) : w'.ownsRow base e size v n xs := by
  refine World.ownsRow.kept h hg ?_
  cases hv : v.ownBlock with
  | none => exact Or.inl rfl
  | some b => exact Or.inr (fun e => hne b hv e.symm)

theorem OfS.below (h : OfS w1 bw gs nv l av sv st wr) (hb : Below wr.heap.size wr w9) : OfS w1 bw gs nv l av sv st w9 := by
  have hg : wr.grownBy w9 none := ⟨hb.os, hb.tape, hb.output, hb.size, fun j hj _ => hb.block j hj⟩
  exact ⟨grown_over h.gr hg (fun k e => by simp at e), Nat.lt_of_lt_of_le h.lb hb.size, ⟨h.lg.1, Nat.lt_of_lt_of_le h.lg.2 hb.size⟩, h.ne, step_cell hb h.c2, step_cell hb h.c3, step_cell hb h.c4, own_kept h.all hg (by simp), fun q hq => step_cell hb (h.top q hq), fun q hq => own_kept (h.row q hq) hg (by simp), h.apb, h.apg, h.sb, h.sg, h.sa, h.ss⟩

theorem OfS.fact (h : OfS w1 bw gs nv l av sv st wr) {f : LFact} {g cap : Nat} (hown : w9.ownsRow w1.heap.size 114 5 (.slice (some ⟨g, 0, none⟩) (l.length + 1) cap) (l.length + 1) (l.flatMap factCs ++ factCs f)) (hgrow : wr.grownBy w9 av.ownBlock) (hat : av.ownBlock = some g ∨ g = wr.heap.size) :
    OfS w1 bw gs nv (l ++ [f]) (.slice (some ⟨g, 0, none⟩) (l.length + 1) cap) sv st (w9.setCell ⟨bw, 2, none⟩ (.slice (some ⟨g, 0, none⟩) (l.length + 1) cap)) := by
  have hz := h.gr.size
  have hs := grown_set w9 bw 2 (.slice (some ⟨g, 0, none⟩) (l.length + 1) cap)
  have hb1 := h.lb
  have hg1 := h.lg.2
  have hga := fun k e => (World.ownsRow.lt h.all k e).1
  have hlb9 := Nat.lt_of_lt_of_le h.lb hgrow.size
  have hlg9 := Nat.lt_of_lt_of_le h.lg.2 hgrow.size
  have gne : ∀ b, b < wr.heap.size → av.ownBlock ≠ some b → g ≠ b := fun b hb hn e => by
    rcases hat with hat | hat
    · rw [e] at hat; exact hn hat
    · omega
  have c2' : w9.cell? ⟨bw, 2, none⟩ = some av := by rw [hgrow.cell_far _ (by exact h.lb) (by exact Ne.symm h.apb)]; exact h.c2
  refine ⟨grown_over (grown_over h.gr hgrow (fun k e => Or.inl (hga k e))) hs (fun k e => Or.inr (by simpa using e.symm)), Nat.lt_of_lt_of_le hlb9 hs.size, ⟨h.lg.1, Nat.lt_of_lt_of_le hlg9 hs.size⟩, h.ne, World.cell?_setCell_same _ _ _ c2', ?_, ?_, ?_, fun q hq => ?_, fun q hq => ?_, ?_, ?_, h.sb, h.sg, fun q hq b e => ?_, h.ss⟩
  · rw [World.cell?_setCell_other _ _ _ _ (by intro e; injection e with e1 e2; omega), hgrow.cell_far _ (by exact h.lb) (by exact Ne.symm h.apb)]; exact h.c3
  · rw [World.cell?_setCell_other _ _ _ _ (by intro e; injection e with e1 e2; omega), hgrow.cell_far _ (by exact h.lb) (by exact Ne.symm h.apb)]; exact h.c4
  · have := own_kept hown hs (fun b e => by
      simp [Value.ownBlock] at e
      have := gne bw h.lb h.apb
      simp; omega)
    simpa using this
  · rw [World.cell?_setCell_far _ _ _ _ (by exact h.ne), hgrow.cell_far _ (by exact h.lg.2) (by exact Ne.symm h.apg)]; exact h.top q hq
  · refine own_kept (own_kept (h.row q hq) hgrow (fun b e => h.sa q hq b e)) hs (fun b e e2 => ?_)
    rw [e2] at hs
    exact h.sb q hq (by rw [e]; exact e2.symm)
  · simp [Value.ownBlock]; exact gne bw h.lb h.apb
  · simp [Value.ownBlock]; exact gne gs h.lg.2 h.apg
  · simp [Value.ownBlock]; exact gne b (World.ownsRow.lt (h.row q hq) b e).2 (h.sa q hq b e)

theorem OfS.mark (h : OfS w1 bw gs nv l av sv st wr) {p n g cap : Nat} (hp : p < 4) (hown : w9.ownsRow w1.heap.size 3 1 (.slice (some ⟨g, 0, none⟩) ((st p).length + 1) cap) ((st p).length + 1) ((st p).map (fun n : Nat => Value.int .i64 (n : Int)) ++ [.int .i64 (n : Int)])) (hgrow : wr.grownBy w9 (sv p).ownBlock) (hat : (sv p).ownBlock = some g ∨ g = wr.heap.size) :
    OfS w1 bw gs nv l av (fun q => if q = p then .slice (some ⟨g, 0, none⟩) ((st p).length + 1) cap else sv q) (fun q => if q = p then st p ++ [n] else st q) (w9.setCell ⟨gs, p, none⟩ (.slice (some ⟨g, 0, none⟩) ((st p).length + 1) cap)) := by
  have hz := h.gr.size
  have hs := grown_set w9 gs p (.slice (some ⟨g, 0, none⟩) ((st p).length + 1) cap)
  have hlb9 := Nat.lt_of_lt_of_le h.lb hgrow.size
  have hlg9 := Nat.lt_of_lt_of_le h.lg.2 hgrow.size
  have gne : ∀ b, b < wr.heap.size → (sv p).ownBlock ≠ some b → g ≠ b := fun b hb hn e => by
    rcases hat with hat | hat
    · rw [e] at hat; exact hn hat
    · omega
  have far : ∀ i u, wr.cell? ⟨bw, i, none⟩ = some u → (w9.setCell ⟨gs, p, none⟩ (.slice (some ⟨g, 0, none⟩) ((st p).length + 1) cap)).cell? ⟨bw, i, none⟩ = some u := fun i u e => by
    rw [World.cell?_setCell_far _ _ _ _ (by exact Ne.symm h.ne), hgrow.cell_far _ (by exact h.lb) (by exact Ne.symm (h.sb p hp))]; exact e
  have tp : ∀ q, q < 4 → w9.cell? ⟨gs, q, none⟩ = some (sv q) := fun q hq => by
    rw [hgrow.cell_far _ (by exact h.lg.2) (by exact Ne.symm (h.sg p hp))]; exact h.top q hq
  have hgg : g ≠ gs := gne gs h.lg.2 (h.sg p hp)
  refine ⟨grown_over (grown_over h.gr hgrow (fun k e => Or.inl (World.ownsRow.lt (h.row p hp) k e).1)) hs (fun k e => Or.inl (by simp at e; have := h.lg.1; omega)), Nat.lt_of_lt_of_le hlb9 hs.size, ⟨h.lg.1, Nat.lt_of_lt_of_le hlg9 hs.size⟩, h.ne, far 2 _ h.c2, far 3 _ h.c3, far 4 _ h.c4, ?_, fun q hq => ?_, fun q hq => ?_, h.apb, h.apg, fun q hq => ?_, fun q hq => ?_, fun q hq b e => ?_, fun q r hq hr hqr b e => ?_⟩
  · refine own_kept (own_kept h.all hgrow (fun b e e2 => h.sa p hp b e2 e)) hs (fun b e e2 => ?_)
    exact h.apg (by rw [e]; exact e2.symm)
  · by_cases e : q = p
    · subst e
      rw [if_pos rfl]
      exact World.cell?_setCell_same _ _ _ (tp q hq)
    · rw [if_neg e, World.cell?_setCell_other _ _ _ _ (by intro e2; injection e2 with e1 e2; omega)]
      exact tp q hq
  · by_cases e : q = p
    · subst e
      rw [if_pos rfl, if_pos rfl]
      have := own_kept hown hs (fun b e => by
        simp [Value.ownBlock] at e
        simp; omega)
      simpa using this
    · rw [if_neg e, if_neg e]
      refine own_kept (own_kept (h.row q hq) hgrow (fun b e1 => h.ss q p hq hp e b e1)) hs (fun b e1 e2 => ?_)
      exact h.sg q hq (by rw [e1]; exact e2.symm)
  · by_cases e : q = p
    · rw [if_pos e]; simp [Value.ownBlock]; exact gne bw h.lb (h.sb p hp)
    · rw [if_neg e]; exact h.sb q hq
  · by_cases e : q = p
    · rw [if_pos e]; simp [Value.ownBlock]; exact hgg
    · rw [if_neg e]; exact h.sg q hq
  · by_cases e1 : q = p
    · rw [if_pos e1] at e
      simp [Value.ownBlock] at e
      intro e2
      have hlt := (World.ownsRow.lt h.all b e2).2
      refine gne b hlt (fun e3 => h.sa p hp b e3 e2) e
    · rw [if_neg e1] at e
      exact h.sa q hq b e
  · by_cases e1 : q = p
    · rw [if_pos e1] at e
      rw [if_neg (by omega)]
      simp [Value.ownBlock] at e
      intro e2
      exact gne b (World.ownsRow.lt (h.row r hr) b e2).2 (h.ss r p hr hp (by omega) b e2) e
    · rw [if_neg e1] at e
      by_cases e2 : r = p
      · rw [if_pos e2]
        simp [Value.ownBlock]
        exact gne b (World.ownsRow.lt (h.row q hq) b e).2 (h.ss q p hq hp e1 b e)
      · rw [if_neg e2]
        exact h.ss q r hq hr hqr b e
end

end Go.Proofs.YtcmnmogmdhofcabGreat.form

/- A world of facts while it is being made (loanbookref8.Of): the rows whole, ahead of its starts and with them. -/
namespace Go.Proofs.YtcmnmogmdhofcabGreat.form
open Go.RowKit Go.Proofs.YtcmnmogmdhofcabGreat.num
set_option linter.unusedVariables false

structure OfT (w1 : World) (bw : Nat) (pw pc nv : Value) (l : List LFact) (av : Value) (wr : World) : Prop where
  gr : w1.grownBy wr (some bw)
  lt : bw < w1.heap.size
  rb : Row wr bw 63 [pw, pc, av, .slice none 0 0, nv]
  all : wr.ownsRow w1.heap.size 114 5 av l.length (l.flatMap factCs)

section
variable {w1 : World} {bw gs : Nat} {pw pc nv : Value} {l : List LFact} {av : Value} {sv : Nat → Value} {st : Nat → List Nat} {wr w9 : World}

theorem OfT.old (h : OfT w1 bw pw pc nv l av wr) {p : Addr} {v : Value} (hc : w1.cell? p = some v) (hn : p.block ≠ bw) : wr.cell? p = some v := by
  rw [h.gr.cell_far p (World.block_lt_of_cell? w1 p hc) (by simpa using hn)]; exact hc
theorem OfT.ne (h : OfT w1 bw pw pc nv l av wr) : av.ownBlock ≠ some bw := fun e => by have := (World.ownsRow.lt h.all _ e).1; have := h.lt; omega
theorem OfT.below (h : OfT w1 bw pw pc nv l av wr) (hb : Below wr.heap.size wr w9) : OfT w1 bw pw pc nv l av w9 := by
  have hg : wr.grownBy w9 none := ⟨hb.os, hb.tape, hb.output, hb.size, fun j hj _ => hb.block j hj⟩
  exact ⟨grown_over h.gr hg (fun k e => by simp at e), h.lt, h.rb.below hb, own_kept h.all hg (by simp)⟩
theorem OfT.fact (h : OfT w1 bw pw pc nv l av wr) {f : LFact} {g cap : Nat} (hown : w9.ownsRow w1.heap.size 114 5 (.slice (some ⟨g, 0, none⟩) (l.length + 1) cap) (l.length + 1) (l.flatMap factCs ++ factCs f)) (hgrow : wr.grownBy w9 av.ownBlock) :
    OfT w1 bw pw pc nv (l ++ [f]) (.slice (some ⟨g, 0, none⟩) (l.length + 1) cap) (w9.setCell ⟨bw, 2, none⟩ (.slice (some ⟨g, 0, none⟩) (l.length + 1) cap)) := by
  have hs := grown_set w9 bw 2 (.slice (some ⟨g, 0, none⟩) (l.length + 1) cap)
  have hlt := h.lt
  refine ⟨grown_over (grown_over h.gr hgrow (fun k e => Or.inl (World.ownsRow.lt h.all k e).1)) hs (fun k e => Or.inr (by simpa using e.symm)), h.lt, ?_, ?_⟩
  · have := (h.rb.grown hgrow (Ne.symm h.ne)).set 2 (.slice (some ⟨g, 0, none⟩) (l.length + 1) cap)
    simpa using this
  · have := own_kept hown hs (fun b e => by
      have := (World.ownsRow.lt hown b e).1
      simp; omega)
    simpa using this

structure Fix (bw gs : Nat) (av : Value) (sv : Nat → Value) (x : Nat) (wr : World) : Prop where
  lt : x < wr.heap.size
  b : x ≠ bw
  g : x ≠ gs
  a : av.ownBlock ≠ some x
  s : ∀ q, q < 4 → (sv q).ownBlock ≠ some x

structure OfR (w1 : World) (bw gs : Nat) (pw pc nv : Value) (l : List LFact) (av : Value) (sv : Nat → Value) (st : Nat → List Nat) (wr : World) : Prop where
  os : OfS w1 bw gs nv l av sv st wr
  lt : bw < w1.heap.size
  rb : Row wr bw 63 [pw, pc, av, .slice (some ⟨gs, 0, none⟩) 4 4, nv]
  rg : Row wr gs 71 [sv 0, sv 1, sv 2, sv 3]

theorem Fix.below {x : Nat} (h : Fix bw gs av sv x wr) (hb : Below wr.heap.size wr w9) : Fix bw gs av sv x w9 := ⟨Nat.lt_of_lt_of_le h.lt hb.size, h.b, h.g, h.a, h.s⟩
theorem OfR.old (h : OfR w1 bw gs pw pc nv l av sv st wr) {p : Addr} {v : Value} (hc : w1.cell? p = some v) (hn : p.block ≠ bw) : wr.cell? p = some v := by
  rw [h.os.gr.cell_far p (World.block_lt_of_cell? w1 p hc) (by simpa using hn)]; exact hc
theorem OfR.below (h : OfR w1 bw gs pw pc nv l av sv st wr) (hb : Below wr.heap.size wr w9) : OfR w1 bw gs pw pc nv l av sv st w9 := ⟨h.os.below hb, h.lt, h.rb.below hb, h.rg.below hb⟩
theorem OfR.new (h : OfR w1 bw gs pw pc nv l av sv st wr) (hb : Below wr.heap.size wr w9) {x : Nat} (hx : wr.heap.size ≤ x) (hx2 : x < w9.heap.size) : Fix bw gs av sv x w9 :=
  ⟨hx2, fun e => by have := h.os.lb; omega, fun e => by have := h.os.lg.2; omega, fun e => by have := (World.ownsRow.lt h.os.all _ e).2; omega, fun q hq e => by have := (World.ownsRow.lt (h.os.row q hq) _ e).2; omega⟩

theorem OfR.fact (h : OfR w1 bw gs pw pc nv l av sv st wr) {f : LFact} {g cap : Nat} (hown : w9.ownsRow w1.heap.size 114 5 (.slice (some ⟨g, 0, none⟩) (l.length + 1) cap) (l.length + 1) (l.flatMap factCs ++ factCs f)) (hgrow : wr.grownBy w9 av.ownBlock) (hat : av.ownBlock = some g ∨ g = wr.heap.size) :
    OfR w1 bw gs pw pc nv (l ++ [f]) (.slice (some ⟨g, 0, none⟩) (l.length + 1) cap) sv st (w9.setCell ⟨bw, 2, none⟩ (.slice (some ⟨g, 0, none⟩) (l.length + 1) cap)) := by
  refine ⟨h.os.fact hown hgrow hat, h.lt, ?_, ?_⟩
  · have := (h.rb.grown hgrow (Ne.symm h.os.apb)).set 2 (.slice (some ⟨g, 0, none⟩) (l.length + 1) cap)
    simpa using this
  · exact (h.rg.grown hgrow (Ne.symm h.os.apg)).other (by exact Ne.symm h.os.ne) _
theorem Fix.fact {x g n cap : Nat} (h : Fix bw gs av sv x wr) (hgrow : wr.grownBy w9 av.ownBlock) (hat : av.ownBlock = some g ∨ g = wr.heap.size) (v : Value) :
    Fix bw gs (.slice (some ⟨g, 0, none⟩) n cap) sv x (w9.setCell ⟨bw, 2, none⟩ v) ∧ (w9.setCell ⟨bw, 2, none⟩ v).heap[x]? = wr.heap[x]? := by
  have hlt := h.lt
  have hs := grown_set w9 bw 2 v
  refine ⟨⟨Nat.lt_of_lt_of_le (Nat.lt_of_lt_of_le h.lt hgrow.size) hs.size, h.b, h.g, ?_, h.s⟩, ?_⟩
  · simp [Value.ownBlock]
    rcases hat with e | e
    · intro e2; rw [e2] at e; exact h.a e
    · omega
  · rw [hs.block x (Nat.lt_of_lt_of_le h.lt hgrow.size) (by have := h.b; simpa using this), hgrow.block x h.lt (Ne.symm h.a)]

theorem OfR.mark (h : OfR w1 bw gs pw pc nv l av sv st wr) {p n g cap : Nat} (hp : p < 4) (hown : w9.ownsRow w1.heap.size 3 1 (.slice (some ⟨g, 0, none⟩) ((st p).length + 1) cap) ((st p).length + 1) ((st p).map (fun n : Nat => Value.int .i64 (n : Int)) ++ [.int .i64 (n : Int)])) (hgrow : wr.grownBy w9 (sv p).ownBlock) (hat : (sv p).ownBlock = some g ∨ g = wr.heap.size) :
    OfR w1 bw gs pw pc nv l av (fun q => if q = p then .slice (some ⟨g, 0, none⟩) ((st p).length + 1) cap else sv q) (fun q => if q = p then st p ++ [n] else st q) (w9.setCell ⟨gs, p, none⟩ (.slice (some ⟨g, 0, none⟩) ((st p).length + 1) cap)) := by
  refine ⟨h.os.mark hp hown hgrow hat, h.lt, ?_, ?_⟩
  · exact (h.rb.grown hgrow (Ne.symm (h.os.sb p hp))).other (by exact h.os.ne) _
  · have := (h.rg.grown hgrow (Ne.symm (h.os.sg p hp))).set p (.slice (some ⟨g, 0, none⟩) ((st p).length + 1) cap)
    rcases (show p = 0 ∨ p = 1 ∨ p = 2 ∨ p = 3 by omega) with rfl | rfl | rfl | rfl <;> simpa using this
theorem Fix.mark {x p g n cap : Nat} (h : Fix bw gs av sv x wr) (hp : p < 4) (hgrow : wr.grownBy w9 (sv p).ownBlock) (hat : (sv p).ownBlock = some g ∨ g = wr.heap.size) (v : Value) :
    Fix bw gs av (fun q => if q = p then .slice (some ⟨g, 0, none⟩) n cap else sv q) x (w9.setCell ⟨gs, p, none⟩ v) ∧ (w9.setCell ⟨gs, p, none⟩ v).heap[x]? = wr.heap[x]? := by
  have hlt := h.lt
  have hs := grown_set w9 gs p v
  refine ⟨⟨Nat.lt_of_lt_of_le (Nat.lt_of_lt_of_le h.lt hgrow.size) hs.size, h.b, h.g, h.a, fun q hq => ?_⟩, ?_⟩
  · by_cases e1 : q = p
    · rw [if_pos e1]
      simp [Value.ownBlock]
      rcases hat with e | e
      · intro e2; rw [e2] at e; exact h.s p hp e
      · omega
    · rw [if_neg e1]; exact h.s q hq
  · rw [hs.block x (Nat.lt_of_lt_of_le h.lt hgrow.size) (by have := h.g; simpa using this), hgrow.block x h.lt (Ne.symm (h.s p hp))]

theorem Fix.row {x : Nat} {t : TypeId} {cs : List Value} (h : w9.heap[x]? = wr.heap[x]?) (hr : Row wr x t cs) : Row w9 x t cs := by
  unfold Row at *
  rw [h]; exact hr
end

end Go.Proofs.YtcmnmogmdhofcabGreat.form
