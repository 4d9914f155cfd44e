/- What is known at the beginning (loanbookref8.World.Begin); whether a place may have a temporary (loanbookref8.may). -/
import Derived.Test.YtcmnmogmdhofcaaGreatF08
import Derived.Test.YtcmnmogmdhofcaaGreatF07
import Derived.Test.YtcmnmogmdhofcaaGreatF02

namespace Go.Proofs.YtcmnmogmdhofcaaGreat.form
open Go.RowKit Go.Proofs.YtcmnmogmdhofcaaGreat.num
set_option linter.unusedVariables false
attribute [local go_sem ↓] Go.wp_at_zero Go.wp_at_succ

def BegAns (F : List LFact) (H : Nat) (e : Ending) (w : World) : Prop := ∃ O, e = .returned (.slice (some ⟨H + 1, 0, none⟩) F.length F.length) ∧ Row w (H + 1) 4 (O.map Value.bool) ∧ MarksOf F (fun f => f.n = 0) F.length O

set_option maxRecDepth 100000 in
theorem begin8 (ao0 : Option Addr) (n0 c0 : Nat) (ao1 : Option Addr) (n1 c1 : Nat) (ga ca gs cs : Nat) (ao4 : Option Addr) (n4 c4 : Nat) (F : List LFact) (w : World) (h : FactsHeld w ga F) :
    Calls Tryz.prog 36 #[fwV (.slice ao0 n0 c0) (.slice ao1 n1 c1) ga F.length ca gs cs (.slice ao4 n4 c4)] w fun e w' => BegAns F w.heap.size e w' ∧ Below w.heap.size w w' := by
  have HFH : Hid (FactsHeld w ga F) := h
  have hga := h.lt
  have hFl := h.len
  have x4 : (F.length : Int) ≤ 100000 := by omega
  have hmk := fun wx => run_make_row' (P := Tryz.prog) 22 4 (.bool false) 1 Tryz.underlying22 infBool rfl .i64 .i64 F.length (by omega) (by omega) wx
  clear h
  unfold fwV
  go_enter Tryz.func36, Tryz.ntmps36
  go_wp2
  go_loopw [4] (fun iv wr => ∃ (i : Nat) (O : List Bool), iv = .int .i64 i ∧ i ≤ F.length ∧ MarksOf F (fun f => f.n = 0) i O ∧ OutS w [(w.heap.size, 66, [.slice ao0 n0 c0, .slice ao1 n1 c1, .slice (some ⟨ga, 0, none⟩) F.length ca, .slice (some ⟨gs, 0, none⟩) 4 cs, .slice ao4 n4 c4])] (w.heap.size + 1) O wr) (fun iv _ => F.length - (intOf iv).toNat)
  case atStart =>
    refine ⟨0, List.replicate F.length false, rfl, by omega, ⟨by simp, fun j hj => absurd hj (by omega)⟩, ?_⟩
    rw [made_bool]
    refine ⟨((Below.refl _ _).alloc (Nat.le_refl _) _).alloc (by simp) _, ?_, ?_⟩
    · intro x hx
      simp only [List.mem_cons, List.not_mem_nil, or_false] at hx
      rcases hx with rfl
      exact (Row.new w _ _).alloc _
    · have := Row.new (w.alloc (.cells #[.slice ao0 n0 c0, .slice ao1 n1 c1, .slice (some ⟨ga, 0, none⟩) F.length ca, .slice (some ⟨gs, 0, none⟩) 4 cs, .slice ao4 n4 c4] 66)) 4 ((List.replicate F.length false).map Value.bool)
      simpa using this
  case round =>
    obtain ⟨i, O, rfl, hi, hO, ho⟩ := hrel
    have HO : Hid (MarksOf F (fun f => f.n = 0) i O) := hO
    have HOS : Hid _ := ho
    have hOl : O.length = F.length := hO.1
    have HB : Hid (Below w.heap.size w wr) := ho.bel
    have hbel := ho.bel
    clear hO
    by_cases hlt : i < F.length
    case neg =>
      have y1 : ¬ (i : Int) < (F.length : Int) := by omega
      clear hbel ho
      go_wp2
      go_ret
      refine ⟨⟨O, rfl, HOS.out.ro, ?_⟩, HB.out⟩
      obtain rfl : i = F.length := by omega
      exact HO.out
    have y1 : (i : Int) < (F.length : Int) := by omega
    have y0 : (0 : Int) ≤ (i : Int) := by omega
    obtain ⟨e0, e1, e2, e3, e4⟩ := (HFH.out.later hbel).cells i hlt
    have hstep : ∀ b : Bool, (b = true ↔ (F.getD i .zero).n = 0) → MarksOf F (fun f => f.n = 0) (i + 1) (O.set i b) := fun b hb => HO.out.step hlt hb
    obtain ⟨f, hf⟩ : ∃ f, f = F.getD i .zero := ⟨_, rfl⟩
    rw [← hf] at e0 e1 e2 e3 e4 hstep
    have HSTEP : Hid (∀ b : Bool, (b = true ↔ f.n = 0) → MarksOf F (fun f => f.n = 0) (i + 1) (O.set i b)) := hstep
    have rW : Row wr w.heap.size 66 [.slice ao0 n0 c0, .slice ao1 n1 c1, .slice (some ⟨ga, 0, none⟩) F.length ca, .slice (some ⟨gs, 0, none⟩) 4 cs, .slice ao4 n4 c4] := ho.bx (w.heap.size, 66, _) (by simp)
    have W2 : wr.cell? ⟨w.heap.size, 2, none⟩ = some (.slice (some ⟨ga, 0, none⟩) F.length ca) := rW.cell 2
    have hz3 := ho.ro.lt
    have z0 : w.heap.size < wr.heap.size := by omega
    have fz := ho.ro.frozen i
    have co : wr.cell? ⟨w.heap.size + 1, i, none⟩ = some (.bool (O.getD i false)) := by rw [ho.ro.cell]; simp [List.getD, hOl, hlt]
    generalize O.getD i false = oi at co
    clear hf hstep rW hbel ho
    go_wp2
    refine ⟨⟨i + 1, O.set i (f.n == 0), by go_num, by omega, HSTEP.out _ (by simp), ?_⟩, by simp [intOf]; omega⟩
    refine (HOS.out.set (fun x hx => ?_) (by omega) i _).below ((Below.refl _ _).alloc (Nat.le_refl _) _)
    simp only [List.mem_cons, List.not_mem_nil, or_false] at hx
    rcases hx with rfl
    show w.heap.size ≠ w.heap.size + 1
    omega

set_option maxRecDepth 100000 in
theorem may8 (b0 o0 c0 b1 o1 c1 : Nat) (B : List Bool) (C : List LIns) (kind : Int) (x : Nat) (w : World) (hB : B.length ≤ 12) (h : Held w b0 o0 b1 o1 B C) (hx : x < B.length) :
    Calls Tryz.prog 35 #[progV b0 o0 B.length c0 b1 o1 C.length c1, .int .i64 kind, .int .i64 x] w fun e w' => e = .returned (.bool (mayK B kind x)) ∧ Below w.heap.size w w' := by
  have hc := h.wide x hx
  have hlt0 := h.lt0
  have y0 : (0 : Int) ≤ (x : Int) := by omega
  have y1 : (x : Int) < (B.length : Int) := by omega
  unfold mayK
  obtain ⟨u, hu⟩ : ∃ u, u = B.getD x false := ⟨_, rfl⟩
  rw [← hu] at hc ⊢
  clear hu
  unfold progV
  rcases (show (kind == 3) = true ∨ ((kind == 3) = false ∧ (kind == 1) = true) ∨ ((kind == 3) = false ∧ (kind == 1) = false ∧ (kind == 2) = true) ∨ ((kind == 3) = false ∧ (kind == 1) = false ∧ (kind == 2) = false) by
    cases (kind == 3) <;> cases (kind == 1) <;> cases (kind == 2) <;> simp) with k | ⟨k, k1⟩ | ⟨k, k1, k2⟩ | ⟨k, k1, k2⟩
  · go_enter Tryz.func35, Tryz.ntmps35
    go_wp2
    go_ret
    exact ⟨ret_bool (by rw [k]; simp), (Below.refl _ _).alloc (Nat.le_refl _) _⟩
  · have k2 : (kind == 2) = false := by simp at k1 ⊢; omega
    cases u
    all_goals
      go_enter Tryz.func35, Tryz.ntmps35
      go_wp2
      go_ret
      exact ⟨ret_bool (by rw [k, k1, k2]; simp), (Below.refl _ _).alloc (Nat.le_refl _) _⟩
  · cases u
    all_goals
      go_enter Tryz.func35, Tryz.ntmps35
      go_wp2
      go_ret
      exact ⟨ret_bool (by rw [k, k1, k2]; simp), (Below.refl _ _).alloc (Nat.le_refl _) _⟩
  · go_enter Tryz.func35, Tryz.ntmps35
    go_wp2
    go_ret
    exact ⟨ret_bool (by rw [k, k1, k2]; simp), (Below.refl _ _).alloc (Nat.le_refl _) _⟩

end Go.Proofs.YtcmnmogmdhofcaaGreat.form

/- What is known behind an instruction and its moves, and whether what it takes is where it says (loanbookref8.World.Through). -/
namespace Go.Proofs.YtcmnmogmdhofcaaGreat.form
open Go.RowKit Go.Proofs.YtcmnmogmdhofcaaGreat.num
set_option linter.unusedVariables false
attribute [local go_sem ↓] Go.wp_at_zero Go.wp_at_succ

theorem marks_set {F : List LFact} {K : LFact → Prop} {O : List Bool} (h : MarksOf F K F.length O) (hK : ∀ f, K f → f ∈ F) : setP F O = K := by
  funext f
  apply propext
  constructor
  · rintro ⟨j, hj, rfl, ht⟩
    exact (h.2 j hj).1 ht
  · intro hf
    obtain ⟨j, hj, e⟩ := List.getElem_of_mem (hK f hf)
    have e2 : F.getD j .zero = f := by simp [List.getD, hj, e]
    exact ⟨j, hj, e2, (h.2 j hj).2 (by rw [e2]; exact hf)⟩
theorem setP_mem {F : List LFact} {S : List Bool} {f : LFact} (h : setP F S f) : f ∈ F := by
  obtain ⟨j, hj, rfl, _⟩ := h
  simp [List.getD, hj]
theorem movesK_take {ok : LFact → Prop} {l : List LMove} {K : LFact → Prop} {k : Nat} (hk : k < l.length) : movesK ok (l.take (k + 1)) K = moveK ok (l.getD k .zero) (movesK ok (l.take k) K) := by
  unfold movesK
  rw [List.take_succ_eq_append_getElem hk, List.foldl_append]
  simp [List.getD, hk]

def MoveSpec (w : World) (s slots : Int) (F : List LFact) (wvs : List Value) : Prop :=
  ∀ (wx : World) (sv : Value) (S : List Bool) (m : LMove), Below w.heap.size w wx → BRowIs wx sv S → S.length = F.length → (m.cst = false → PlaceOf s slots m.src) → PlaceOf s slots m.dst →
    Calls Tryz.prog 54 #[.agg wvs.toArray, sv, m.val] wx fun e w' => SetAns F (moveK (· ∈ F) m (setP F S)) wx.heap.size e w' ∧ Below wx.heap.size wx w'

structure ThS (w : World) (boxes : List (Nat × TypeId × List Value)) (F : List LFact) (K : LFact → Prop) (sv v : Value) (wr : World) : Prop where
  bel : Below w.heap.size w wr
  bx : ∀ x, x ∈ boxes → Row wr x.1 x.2.1 x.2.2
  fr : v = sv ∨ ∃ b, v = .slice (some ⟨b, 0, none⟩) F.length F.length ∧ w.heap.size ≤ b
  set : ∃ S, BRowIs wr v S ∧ S.length = F.length ∧ setP F S = K
theorem ThS.below {w wr w1 : World} {boxes : List (Nat × TypeId × List Value)} {F : List LFact} {K : LFact → Prop} {sv v : Value} (h : ThS w boxes F K sv v wr) (hb : Below wr.heap.size wr w1) : ThS w boxes F K sv v w1 := by
  obtain ⟨S, h1, h2, h3⟩ := h.set
  exact ⟨step_below hb h.bel, fun x hx => (h.bx x hx).below hb, h.fr, S, h1.later hb, h2, h3⟩
theorem ThS.move {w wr w1 : World} {boxes : List (Nat × TypeId × List Value)} {F : List LFact} {K K' : LFact → Prop} {sv v : Value} {b : Nat} {O : List Bool} (h : ThS w boxes F K sv v wr) (hb : Below wr.heap.size wr w1) (hlo : wr.heap.size ≤ b) (hO : MarksAt F b O w1) (hF : F.length ≤ 100000) (hm : MarksOf F K' F.length O) (hK : ∀ f, K' f → f ∈ F) : ThS w boxes F K' sv (.slice (some ⟨b, 0, none⟩) F.length F.length) w1 :=
  ⟨step_below hb h.bel, fun x hx => (h.bx x hx).below hb, Or.inr ⟨b, rfl, Nat.le_trans h.bel.size hlo⟩, O, hO.row hm.1 hF, hm.1, marks_set hm hK⟩

def thruBox (H : Nat) (wvs : List Value) (i : LIns) (r : LRow) (vb va : Value) : List (Nat × TypeId × List Value) :=
  [(H, 66, wvs), (H + 1, 49, [.int .i64 i.op, .int .i64 i.dest, .int .i64 i.a, .int .i64 i.b, .int .i64 i.c, .int .u32 i.n]), (H + 1 + 1, 54, [.int .i64 r.dest.kind, .int .i64 r.dest.n, .int .i64 r.a.kind, .int .i64 r.a.n, .int .i64 r.b.kind, .int .i64 r.b.n, vb, va])]

def InsSpec (w : World) (F : List LFact) (wvs : List Value) (i : LIns) (L : LPlace) : Prop :=
  ∀ (wx : World) (sv : Value) (S : List Bool), Below w.heap.size w wx → BRowIs wx sv S → S.length = F.length →
    Calls Tryz.prog 57 #[.agg wvs.toArray, sv, i.val, L.val] wx fun e w' => ((givesB i.op = true ∧ SetAns F (insK (· ∈ F) i L (setP F S)) wx.heap.size e w') ∨ (givesB i.op = false ∧ e = .returned sv)) ∧ Below wx.heap.size wx w'

def FindSpec (w : World) (s slots : Int) (F : List LFact) (wvs : List Value) : Prop :=
  ∀ (wx : World) (sv : Value) (S : List Bool) (f : LFact), Below w.heap.size w wx → BRowIs wx sv S → S.length = F.length → PlaceOf s slots f.pl → Calls Tryz.prog 56 #[.agg wvs.toArray, sv, f.val] wx fun e w' => FindAns F S f e ∧ Below wx.heap.size wx w'

def ThruAns (F : List LFact) (i : LIns) (r : LRow) (S : List Bool) (sv : Value) (lo : Nat) (e : Ending) (w : World) : Prop :=
  ∃ v b O, e = .returned (.tuple #[v, .bool b]) ∧ (v = sv ∨ ∃ q, v = .slice (some ⟨q, 0, none⟩) F.length F.length ∧ lo ≤ q) ∧ BRowIs w v O ∧ O.length = F.length ∧ setP F O = thruK (· ∈ F) i r (setP F S) ∧ (b = true ↔ usesK (· ∈ F) i r (setP F S))

theorem thru_ins {w wr w1 : World} {boxes : List (Nat × TypeId × List Value)} {F : List LFact} {i : LIns} {L : LPlace} {K1 K2 : LFact → Prop} {sv v : Value} {S' : List Bool} {e : Ending} (h : ThS w boxes F K1 sv v wr) (hb : Below wr.heap.size wr w1) (hF : F.length ≤ 100000) (hS : setP F S' = K1) (hK1 : ∀ f, K1 f → f ∈ F) (hK2 : K2 = if givesB i.op = true then insK (· ∈ F) i L K1 else K1)
    (hor : (givesB i.op = true ∧ SetAns F (insK (· ∈ F) i L (setP F S')) wr.heap.size e w1) ∨ (givesB i.op = false ∧ e = .returned v)) : ∃ v4, e = .returned v4 ∧ ThS w boxes F K2 sv v4 w1 := by
  rcases hor with ⟨hg, b, O, he, hlo, hO, hM⟩ | ⟨hg, he⟩
  · rw [hS] at hM
    rw [hg, if_pos rfl] at hK2
    refine ⟨_, he, h.move hb hlo hO hF ?_ ?_⟩
    · rw [hK2]; exact hM
    · rw [hK2]; exact fun f hf => hf.1
  · rw [hg, if_neg (by simp)] at hK2
    refine ⟨v, he, ?_⟩
    rw [hK2]
    exact h.below hb

set_option maxRecDepth 100000 in
set_option maxHeartbeats 2000000 in
theorem through8 (ao0 : Option Addr) (n0 c0 : Nat) (ao1 : Option Addr) (n1 c1 : Nat) (ga ca gs cs : Nat) (ao4 : Option Addr) (n4 c4 : Nat) (s slots : Int) (F : List LFact) (sv : Value) (S : List Bool) (i : LIns) (r : LRow) (bao : Option Addr) (bcap : Nat) (aao : Option Addr) (acap : Nat) (w : World)
    (hMV : MoveSpec w s slots F [.slice ao0 n0 c0, .slice ao1 n1 c1, .slice (some ⟨ga, 0, none⟩) F.length ca, .slice (some ⟨gs, 0, none⟩) 4 cs, .slice ao4 n4 c4]) (hIN : InsSpec w F [.slice ao0 n0 c0, .slice ao1 n1 c1, .slice (some ⟨ga, 0, none⟩) F.length ca, .slice (some ⟨gs, 0, none⟩) 4 cs, .slice ao4 n4 c4] i r.dest) (hFD : FindSpec w s slots F [.slice ao0 n0 c0, .slice ao1 n1 c1, .slice (some ⟨ga, 0, none⟩) F.length ca, .slice (some ⟨gs, 0, none⟩) 4 cs, .slice ao4 n4 c4])
    (hS : BRowIs w sv S) (hl : S.length = F.length) (hFl : F.length ≤ 100000) (hB : MovesIs w (.slice bao r.before.length bcap) r.before) (hA : MovesIs w (.slice aao r.after.length acap) r.after)
    (hBm : r.before.length ≤ 6 ∧ ∀ m, m ∈ r.before → (m.cst = false → PlaceOf s slots m.src) ∧ PlaceOf s slots m.dst) (hAm : r.after.length ≤ 6 ∧ ∀ m, m ∈ r.after → (m.cst = false → PlaceOf s slots m.src) ∧ PlaceOf s slots m.dst)
    (hra : 0 < manyI i.op → PlaceOf s slots r.a) (hrb : 1 < manyI i.op → PlaceOf s slots r.b) :
    Calls Tryz.prog 37 #[fwV (.slice ao0 n0 c0) (.slice ao1 n1 c1) ga F.length ca gs cs (.slice ao4 n4 c4), sv, i.val, .agg #[.int .i64 r.dest.kind, .int .i64 r.dest.n, .int .i64 r.a.kind, .int .i64 r.a.n, .int .i64 r.b.kind, .int .i64 r.b.n, .slice bao r.before.length bcap, .slice aao r.after.length acap]] w fun e w' => ThruAns F i r S sv w.heap.size e w' ∧ Below w.heap.size w w' := by
  have HMV : Hid (MoveSpec w s slots F [.slice ao0 n0 c0, .slice ao1 n1 c1, .slice (some ⟨ga, 0, none⟩) F.length ca, .slice (some ⟨gs, 0, none⟩) 4 cs, .slice ao4 n4 c4]) := hMV
  have HIN : Hid (InsSpec w F [.slice ao0 n0 c0, .slice ao1 n1 c1, .slice (some ⟨ga, 0, none⟩) F.length ca, .slice (some ⟨gs, 0, none⟩) 4 cs, .slice ao4 n4 c4] i r.dest) := hIN
  have HFD : Hid (FindSpec w s slots F [.slice ao0 n0 c0, .slice ao1 n1 c1, .slice (some ⟨ga, 0, none⟩) F.length ca, .slice (some ⟨gs, 0, none⟩) 4 cs, .slice ao4 n4 c4]) := hFD
  obtain ⟨_, _, hbe, -, hbc⟩ := hB
  obtain ⟨_, _, hae, -, hac⟩ := hA
  simp only [Value.slice.injEq, true_and] at hbe hae
  obtain ⟨rfl, rfl⟩ := hbe
  obtain ⟨rfl, rfl⟩ := hae
  have HBC : Hid _ := hbc
  have HAC : Hid _ := hac
  have HBM : Hid (∀ m, m ∈ r.before → (m.cst = false → PlaceOf s slots m.src) ∧ PlaceOf s slots m.dst) := hBm.2
  have HAM : Hid (∀ m, m ∈ r.after → (m.cst = false → PlaceOf s slots m.src) ∧ PlaceOf s slots m.dst) := hAm.2
  have b6 := hBm.1
  have a6 := hAm.1
  have z1 : (r.before.length : Int) ≤ 6 := by omega
  have z2 : (r.after.length : Int) ≤ 6 := by omega
  have hv0 := hS
  obtain ⟨sao, scap, hsve, -⟩ := hv0
  have HS0 : Hid (BRowIs w sv S) := hS
  have HRA : Hid (0 < manyI i.op → PlaceOf s slots r.a) := hra
  have HRB : Hid (1 < manyI i.op → PlaceOf s slots r.b) := hrb
  clear hMV hIN hFD hbc hac hBm hAm hS hra hrb hsve
  unfold fwV LIns.val
  go_enter Tryz.func37, Tryz.ntmps37
  go_wp2
  go_loopw [1, 10] (fun v kv wr => ∃ (k : Nat) (v0 : Value), v0 = v ∧ kv = .int .i64 k ∧ k ≤ r.before.length ∧ ThS w (thruBox w.heap.size [.slice ao0 n0 c0, .slice ao1 n1 c1, .slice (some ⟨ga, 0, none⟩) F.length ca, .slice (some ⟨gs, 0, none⟩) 4 cs, .slice ao4 n4 c4] i r (.slice bao r.before.length bcap) (.slice aao r.after.length acap)) F (movesK (· ∈ F) (r.before.take k) (setP F S)) sv v wr) (fun _ kv _ => r.before.length - (intOf kv).toNat)
  case atStart =>
    refine ⟨0, sv, rfl, rfl, by omega, (((Below.refl _ _).alloc (Nat.le_refl _) _).alloc (by simp) _).alloc (by simp; omega) _, ?_, Or.inl rfl, S, HS0.out.later ((((Below.refl _ _).alloc (Nat.le_refl _) _).alloc (by simp) _).alloc (by simp; omega) _), hl, rfl⟩
    intro x hx
    unfold thruBox at hx
    simp only [List.mem_cons, List.not_mem_nil, or_false] at hx
    rcases hx with rfl | rfl | rfl
    · exact ((Row.new w _ _).alloc _).alloc _
    · have := (Row.new (w.alloc (.cells #[.slice ao0 n0 c0, .slice ao1 n1 c1, .slice (some ⟨ga, 0, none⟩) F.length ca, .slice (some ⟨gs, 0, none⟩) 4 cs, .slice ao4 n4 c4] 66)) 49 [.int .i64 i.op, .int .i64 i.dest, .int .i64 i.a, .int .i64 i.b, .int .i64 i.c, .int .u32 i.n]).alloc (.cells #[.int .i64 r.dest.kind, .int .i64 r.dest.n, .int .i64 r.a.kind, .int .i64 r.a.n, .int .i64 r.b.kind, .int .i64 r.b.n, .slice bao r.before.length bcap, .slice aao r.after.length acap] 54)
      simpa using this
    · have := Row.new ((w.alloc (.cells #[.slice ao0 n0 c0, .slice ao1 n1 c1, .slice (some ⟨ga, 0, none⟩) F.length ca, .slice (some ⟨gs, 0, none⟩) 4 cs, .slice ao4 n4 c4] 66)).alloc (.cells #[.int .i64 i.op, .int .i64 i.dest, .int .i64 i.a, .int .i64 i.b, .int .i64 i.c, .int .u32 i.n] 49)) 54 [.int .i64 r.dest.kind, .int .i64 r.dest.n, .int .i64 r.a.kind, .int .i64 r.a.n, .int .i64 r.b.kind, .int .i64 r.b.n, .slice bao r.before.length bcap, .slice aao r.after.length acap]
      simpa using this
  case round =>
    obtain ⟨k, v, rfl, rfl, hk, hth⟩ := hrel
    have HTH : Hid (ThS w (thruBox w.heap.size [.slice ao0 n0 c0, .slice ao1 n1 c1, .slice (some ⟨ga, 0, none⟩) F.length ca, .slice (some ⟨gs, 0, none⟩) 4 cs, .slice ao4 n4 c4] i r (.slice bao r.before.length bcap) (.slice aao r.after.length acap)) F (movesK (· ∈ F) (r.before.take k) (setP F S)) sv v wr) := hth
    have hbel := hth.bel
    have HB : Hid (Below w.heap.size w wr) := hbel
    have rW : Row wr w.heap.size 66 [.slice ao0 n0 c0, .slice ao1 n1 c1, .slice (some ⟨ga, 0, none⟩) F.length ca, .slice (some ⟨gs, 0, none⟩) 4 cs, .slice ao4 n4 c4] := hth.bx (w.heap.size, 66, _) (by simp [thruBox])
    have rR : Row wr (w.heap.size + 1 + 1) 54 [.int .i64 r.dest.kind, .int .i64 r.dest.n, .int .i64 r.a.kind, .int .i64 r.a.n, .int .i64 r.b.kind, .int .i64 r.b.n, .slice bao r.before.length bcap, .slice aao r.after.length acap] := hth.bx (w.heap.size + 1 + 1, 54, _) (by simp [thruBox])
    have W0 : wr.cell? ⟨w.heap.size, 0, none⟩ = some (.slice ao0 n0 c0) := rW.cell 0
    have W1 : wr.cell? ⟨w.heap.size, 1, none⟩ = some (.slice ao1 n1 c1) := rW.cell 1
    have W2 : wr.cell? ⟨w.heap.size, 2, none⟩ = some (.slice (some ⟨ga, 0, none⟩) F.length ca) := rW.cell 2
    have W3 : wr.cell? ⟨w.heap.size, 3, none⟩ = some (.slice (some ⟨gs, 0, none⟩) 4 cs) := rW.cell 3
    have W4 : wr.cell? ⟨w.heap.size, 4, none⟩ = some (.slice ao4 n4 c4) := rW.cell 4
    have R6 : wr.cell? ⟨w.heap.size + 1 + 1, 6, none⟩ = some (.slice bao r.before.length bcap) := rR.cell 6
    by_cases hlt : k < r.before.length
    · obtain ⟨mb, mo, rfl, hmb, hmc⟩ := HBC.out (by omega)
      obtain ⟨d0, d1, d2, d3, d4, d5⟩ := hmc k hlt
      have d0 := step_cell hbel d0
      have d1 := step_cell hbel d1
      have d2 := step_cell hbel d2
      have d3 := step_cell hbel d3
      have d4 := step_cell hbel d4
      have d5 := step_cell hbel d5
      have hmem : r.before.getD k .zero ∈ r.before := by simp [List.getD, hlt]
      have hmp := HBM.out _ hmem
      have htk := movesK_take (ok := (· ∈ F)) (K := setP F S) hlt
      obtain ⟨m, hm⟩ : ∃ m, m = r.before.getD k .zero := ⟨_, rfl⟩
      rw [← hm] at d0 d1 d2 d3 d4 d5 hmp htk
      have HMP : Hid ((m.cst = false → PlaceOf s slots m.src) ∧ PlaceOf s slots m.dst) := hmp
      have HTK : Hid (movesK (· ∈ F) (r.before.take (k + 1)) (setP F S) = moveK (· ∈ F) m (movesK (· ∈ F) (r.before.take k) (setP F S))) := htk
      obtain ⟨S', hs1, hs2, hs3⟩ := hth.set
      have HS1 : Hid (BRowIs wr v S') := hs1
      have HS3 : Hid (setP F S' = movesK (· ∈ F) (r.before.take k) (setP F S)) := hs3
      have y1 : (k : Int) < (r.before.length : Int) := by omega
      have y0 : (0 : Int) ≤ (k : Int) := by omega
      clear hmc hm hmem hmp htk hs1 hs3 rW rR hth
      go_wp2
      go_region_held3 (fun w' => Below wr.heap.size wr w' ∧ w'.cell? ⟨w.heap.size, 0, none⟩ = some (.slice ao0 n0 c0) ∧ w'.cell? ⟨w.heap.size, 1, none⟩ = some (.slice ao1 n1 c1) ∧ w'.cell? ⟨w.heap.size, 2, none⟩ = some (.slice (some ⟨ga, 0, none⟩) F.length ca) ∧ w'.cell? ⟨w.heap.size, 3, none⟩ = some (.slice (some ⟨gs, 0, none⟩) 4 cs) ∧ w'.cell? ⟨w.heap.size, 4, none⟩ = some (.slice ao4 n4 c4) ∧ w'.cell? ⟨w.heap.size + 1 + 1, 6, none⟩ = some (.slice (some ⟨mb, mo, none⟩) r.before.length bcap) ∧ w'.cell? ⟨mb, mo + k * 6, none⟩ = some (.int .i64 m.dst.kind) ∧ w'.cell? ⟨mb, mo + k * 6 + 1, none⟩ = some (.int .i64 m.dst.n) ∧ w'.cell? ⟨mb, mo + k * 6 + 2, none⟩ = some (.int .i64 m.src.kind) ∧ w'.cell? ⟨mb, mo + k * 6 + 3, none⟩ = some (.int .i64 m.src.n) ∧ w'.cell? ⟨mb, mo + k * 6 + 4, none⟩ = some (.bool m.cst) ∧ w'.cell? ⟨mb, mo + k * 6 + 5, none⟩ = some (.int .u32 m.n))
        ((go_split_ands; refine ⟨?_, ?_, ?_, ?_, ?_, ?_, ?_, ?_, ?_, ?_, ?_, ?_, ?_⟩ <;> first | exact (Below.refl _ _).drew | exact ((Below.refl _ _).drew).trans hb1 | exact step_cell hb1 (by assumption) | (go_keep; done)))
        ((go_at_call 54; refine (HMV.out _ _ S' m ?_ ?_ hs2 HMP.out.1 HMP.out.2).mono ?_; (exact HB.out.drew); (exact HS1.out.later (drew_below _)); rintro e w1 ⟨⟨q1, O1, rfl, hq1, hO1, hM1⟩, hb1⟩))
      rename_i hHeldx
      have hb1' : Below wr.heap.size wr w1 := (drew_below _).trans hb1
      have R : Hid (ThS w (thruBox w.heap.size [.slice ao0 n0 c0, .slice ao1 n1 c1, .slice (some ⟨ga, 0, none⟩) F.length ca, .slice (some ⟨gs, 0, none⟩) 4 cs, .slice ao4 n4 c4] i r (.slice (some ⟨mb, mo, none⟩) r.before.length bcap) (.slice aao r.after.length acap)) F (movesK (· ∈ F) (r.before.take (k + 1)) (setP F S)) sv (.slice (some ⟨q1, 0, none⟩) F.length F.length) w1) := by
        refine HTH.out.move hb1' hq1 hO1 hFl ?_ ?_
        · rw [HTK.out, ← HS3.out]; exact hM1
        · rw [HTK.out]; exact fun f hf => hf.1
      clear hHeldx hb1 hb1' hO1 hM1
      go_wp2
      exact ⟨⟨k + 1, _, rfl, by go_num, by omega, R.out⟩, by simp [intOf]; omega⟩
    · have y1 : ¬ (k : Int) < (r.before.length : Int) := by omega
      have hke : r.before.take k = r.before := List.take_of_length_le (by omega)
      obtain ⟨K1, hK1⟩ : ∃ K1, K1 = movesK (· ∈ F) r.before (setP F S) := ⟨_, rfl⟩
      have HK1 : Hid (K1 = movesK (· ∈ F) r.before (setP F S)) := hK1
      have HT1 : Hid (ThS w (thruBox w.heap.size [.slice ao0 n0 c0, .slice ao1 n1 c1, .slice (some ⟨ga, 0, none⟩) F.length ca, .slice (some ⟨gs, 0, none⟩) 4 cs, .slice ao4 n4 c4] i r (.slice bao r.before.length bcap) (.slice aao r.after.length acap)) F K1 sv v wr) := by
        have := HTH.out
        rw [hke, ← hK1] at this
        exact this
      have rI : Row wr (w.heap.size + 1) 49 [.int .i64 i.op, .int .i64 i.dest, .int .i64 i.a, .int .i64 i.b, .int .i64 i.c, .int .u32 i.n] := hth.bx (w.heap.size + 1, 49, _) (by simp [thruBox])
      have I0 : wr.cell? ⟨w.heap.size + 1, 0, none⟩ = some (.int .i64 i.op) := rI.cell 0
      have I1 : wr.cell? ⟨w.heap.size + 1, 1, none⟩ = some (.int .i64 i.dest) := rI.cell 1
      have I2 : wr.cell? ⟨w.heap.size + 1, 2, none⟩ = some (.int .i64 i.a) := rI.cell 2
      have I3 : wr.cell? ⟨w.heap.size + 1, 3, none⟩ = some (.int .i64 i.b) := rI.cell 3
      have I4 : wr.cell? ⟨w.heap.size + 1, 4, none⟩ = some (.int .i64 i.c) := rI.cell 4
      have I5 : wr.cell? ⟨w.heap.size + 1, 5, none⟩ = some (.int .u32 i.n) := rI.cell 5
      obtain ⟨mn, hmn, hmn2⟩ : ∃ m : Nat, manyI i.op = m ∧ m ≤ 2 := by
        rcases many_of i.op with h | h | h
        · exact ⟨0, h, by omega⟩
        · exact ⟨1, h, by omega⟩
        · exact ⟨2, h, by omega⟩
      have HMN : Hid (manyI i.op = mn) := hmn
      have zm : (mn : Int) ≤ 2 := by omega
      clear hK1 hke rI rW rR hth hmn hbel
      go_wp2_with (go_at_call 55; refine (uses i mn HMN.out _).mono ?_; rintro e w2 ⟨g, rfl, hb2, hg1, hg2, u0, u1⟩)
      have HT2 : Hid (ThS w (thruBox w.heap.size [.slice ao0 n0 c0, .slice ao1 n1 c1, .slice (some ⟨ga, 0, none⟩) F.length ca, .slice (some ⟨gs, 0, none⟩) 4 cs, .slice ao4 n4 c4] i r (.slice bao r.before.length bcap) (.slice aao r.after.length acap)) F K1 sv v w2) := HT1.out.below hb2
      have HU0 : Hid (w2.cell? ⟨g, 0, none⟩ = some (.int .i64 i.a)) := u0
      have HU1 : Hid (w2.cell? ⟨g, 1, none⟩ = some (.int .i64 i.b)) := u1
      clear hb2 u0 u1 W0 W1 W2 W3 W4 R6 I0 I1 I2 I3 I4 I5
      go_loopw [12, 13] (fun bv jv wr2 => ∃ (b : Bool) (j : Nat), bv = .bool b ∧ jv = .int .i64 j ∧ j ≤ mn ∧ Below w2.heap.size w2 wr2 ∧ Says8 b ((0 < j → K1 ⟨r.a, true, i.a, 0⟩) ∧ (1 < j → K1 ⟨r.b, true, i.b, 0⟩))) (fun _ jv _ => mn - (intOf jv).toNat)
      case atStart => exact ⟨true, 0, rfl, rfl, by omega, Below.refl _ _, ⟨fun _ => ⟨fun h => absurd h (by omega), fun h => absurd h (by omega)⟩, fun _ => rfl⟩⟩
      case round =>
        obtain ⟨b, j, rfl, rfl, hj, hb3, hsay⟩ := hrel
        obtain ⟨w3, hw3⟩ : ∃ q, q = wr := ⟨_, rfl⟩
        subst hw3
        have HB3 : Hid (Below w2.heap.size w2 w3) := hb3
        have HSAY : Hid (Says8 b ((0 < j → K1 ⟨r.a, true, i.a, 0⟩) ∧ (1 < j → K1 ⟨r.b, true, i.b, 0⟩))) := hsay
        have hth := HT2.out.below hb3
        have HT3 : Hid (ThS w (thruBox w.heap.size [.slice ao0 n0 c0, .slice ao1 n1 c1, .slice (some ⟨ga, 0, none⟩) F.length ca, .slice (some ⟨gs, 0, none⟩) 4 cs, .slice ao4 n4 c4] i r (.slice bao r.before.length bcap) (.slice aao r.after.length acap)) F K1 sv v w3) := hth
        have rW : Row w3 w.heap.size 66 [.slice ao0 n0 c0, .slice ao1 n1 c1, .slice (some ⟨ga, 0, none⟩) F.length ca, .slice (some ⟨gs, 0, none⟩) 4 cs, .slice ao4 n4 c4] := hth.bx (w.heap.size, 66, _) (by simp [thruBox])
        have rI : Row w3 (w.heap.size + 1) 49 [.int .i64 i.op, .int .i64 i.dest, .int .i64 i.a, .int .i64 i.b, .int .i64 i.c, .int .u32 i.n] := hth.bx (w.heap.size + 1, 49, _) (by simp [thruBox])
        have rR : Row w3 (w.heap.size + 1 + 1) 54 [.int .i64 r.dest.kind, .int .i64 r.dest.n, .int .i64 r.a.kind, .int .i64 r.a.n, .int .i64 r.b.kind, .int .i64 r.b.n, .slice bao r.before.length bcap, .slice aao r.after.length acap] := hth.bx (w.heap.size + 1 + 1, 54, _) (by simp [thruBox])
        have W0 : w3.cell? ⟨w.heap.size, 0, none⟩ = some (.slice ao0 n0 c0) := rW.cell 0
        have W1 : w3.cell? ⟨w.heap.size, 1, none⟩ = some (.slice ao1 n1 c1) := rW.cell 1
        have W2 : w3.cell? ⟨w.heap.size, 2, none⟩ = some (.slice (some ⟨ga, 0, none⟩) F.length ca) := rW.cell 2
        have W3 : w3.cell? ⟨w.heap.size, 3, none⟩ = some (.slice (some ⟨gs, 0, none⟩) 4 cs) := rW.cell 3
        have W4 : w3.cell? ⟨w.heap.size, 4, none⟩ = some (.slice ao4 n4 c4) := rW.cell 4
        have R0 : w3.cell? ⟨w.heap.size + 1 + 1, 0, none⟩ = some (.int .i64 r.dest.kind) := rR.cell 0
        have R1 : w3.cell? ⟨w.heap.size + 1 + 1, 1, none⟩ = some (.int .i64 r.dest.n) := rR.cell 1
        have R2 : w3.cell? ⟨w.heap.size + 1 + 1, 2, none⟩ = some (.int .i64 r.a.kind) := rR.cell 2
        have R3 : w3.cell? ⟨w.heap.size + 1 + 1, 3, none⟩ = some (.int .i64 r.a.n) := rR.cell 3
        have R4 : w3.cell? ⟨w.heap.size + 1 + 1, 4, none⟩ = some (.int .i64 r.b.kind) := rR.cell 4
        have R5 : w3.cell? ⟨w.heap.size + 1 + 1, 5, none⟩ = some (.int .i64 r.b.n) := rR.cell 5
        have hzz := rR.lt
        have zz0 : w.heap.size < w3.heap.size := by omega
        have ug0 := step_cell hb3 HU0.out
        have ug1 := step_cell hb3 HU1.out
        have hgl : g < w3.heap.size := Nat.lt_of_lt_of_le hg2 hb3.size
        by_cases hjl : j < mn
        · obtain ⟨S', hs1, hs2, hs3⟩ := hth.set
          have HS1 : Hid (BRowIs w3 v S') := hs1
          have HS3 : Hid (setP F S' = K1) := hs3
          have y1 : (j : Int) < (mn : Int) := by omega
          clear hs1 hs3 rW rI rR hth hb3 hsay
          rcases (show j = 0 ∨ j = 1 by omega) with rfl | rfl
          · have HPA : Hid (PlaceOf s slots r.a) := HRA.out (by rw [HMN.out]; omega)
            cases b
            · go_wp2
              go_quiet (fail)
              go_wp2
              refine ⟨⟨false, 1, rfl, by go_num, by omega, below_drewN (step_below ((Below.refl _ _).alloc (Nat.le_refl _) _) HB3.out) _, ?_⟩, by simp [intOf]; omega⟩
              refine ⟨fun h => absurd h (by simp), fun h => ?_⟩
              exact HSAY.out.2 ⟨fun h0 => absurd h0 (by omega), fun h0 => absurd h0 (by omega)⟩
            · go_wp2
              go_region_held3 (fun w' => Below (w3.alloc (.cells #[.int .i64 r.a.kind, .int .i64 r.a.n] 51)).heap.size (w3.alloc (.cells #[.int .i64 r.a.kind, .int .i64 r.a.n] 51)) w' ∧ w'.cell? ⟨w.heap.size, 0, none⟩ = some (.slice ao0 n0 c0) ∧ w'.cell? ⟨w.heap.size, 1, none⟩ = some (.slice ao1 n1 c1) ∧ w'.cell? ⟨w.heap.size, 2, none⟩ = some (.slice (some ⟨ga, 0, none⟩) F.length ca) ∧ w'.cell? ⟨w.heap.size, 3, none⟩ = some (.slice (some ⟨gs, 0, none⟩) 4 cs) ∧ w'.cell? ⟨w.heap.size, 4, none⟩ = some (.slice ao4 n4 c4) ∧ w'.cell? ⟨w3.heap.size, 0, none⟩ = some (.int .i64 r.a.kind) ∧ w'.cell? ⟨w3.heap.size, 1, none⟩ = some (.int .i64 r.a.n) ∧ w'.cell? ⟨g, 0, none⟩ = some (.int .i64 i.a))
                ((go_split_ands; refine ⟨?_, ?_, ?_, ?_, ?_, ?_, ?_, ?_, ?_⟩ <;> first | exact (Below.refl _ _).drew | exact ((Below.refl _ _).drew).trans hb5 | exact step_cell hb5 (by assumption) | (go_keep; done)))
                ((go_at_call 56; refine (HFD.out _ _ S' ⟨r.a, true, i.a, 0⟩ ?_ ?_ hs2 HPA.out).mono ?_; (exact (step_below ((Below.refl _ _).alloc (Nat.le_refl _) _) HT3.out.bel).drew); (exact HS1.out.later (((Below.refl _ _).alloc (Nat.le_refl _) _).drew)); rintro e w5 ⟨⟨b5, rfl, hsay5⟩, hb5⟩))
              rename_i hHeldx
              have hb6 : Below w3.heap.size w3 w5 := over_alloc hHeldx.1
              have R : Hid (Says8 b5 ((0 < 1 → K1 ⟨r.a, true, i.a, 0⟩) ∧ (1 < 1 → K1 ⟨r.b, true, i.b, 0⟩))) := by
                rw [HS3.out] at hsay5
                exact ⟨fun h => ⟨fun _ => hsay5.1 h, fun h0 => absurd h0 (by omega)⟩, fun h => hsay5.2 (h.1 (by omega))⟩
              have HB6 : Hid (Below w3.heap.size w3 w5) := hb6
              clear hHeldx hb6 hsay5 hb5
              go_wp2
              refine ⟨⟨b5, 1, rfl, by go_num, by omega, step_below HB6.out HB3.out, R.out⟩, by simp [intOf]; omega⟩
          · have HPB : Hid (PlaceOf s slots r.b) := HRB.out (by rw [HMN.out]; omega)
            cases b
            · go_wp2
              go_quiet (fail)
              go_wp2
              refine ⟨⟨false, 2, rfl, by go_num, by omega, below_drewN (step_below ((Below.refl _ _).alloc (Nat.le_refl _) _) HB3.out) _, ?_⟩, by simp [intOf]; omega⟩
              refine ⟨fun h => absurd h (by simp), fun h => ?_⟩
              exact HSAY.out.2 ⟨fun h0 => h.1 (by omega), fun h0 => absurd h0 (by omega)⟩
            · go_wp2
              go_region_held3 (fun w' => Below (w3.alloc (.cells #[.int .i64 r.b.kind, .int .i64 r.b.n] 51)).heap.size (w3.alloc (.cells #[.int .i64 r.b.kind, .int .i64 r.b.n] 51)) w' ∧ w'.cell? ⟨w.heap.size, 0, none⟩ = some (.slice ao0 n0 c0) ∧ w'.cell? ⟨w.heap.size, 1, none⟩ = some (.slice ao1 n1 c1) ∧ w'.cell? ⟨w.heap.size, 2, none⟩ = some (.slice (some ⟨ga, 0, none⟩) F.length ca) ∧ w'.cell? ⟨w.heap.size, 3, none⟩ = some (.slice (some ⟨gs, 0, none⟩) 4 cs) ∧ w'.cell? ⟨w.heap.size, 4, none⟩ = some (.slice ao4 n4 c4) ∧ w'.cell? ⟨w3.heap.size, 0, none⟩ = some (.int .i64 r.b.kind) ∧ w'.cell? ⟨w3.heap.size, 1, none⟩ = some (.int .i64 r.b.n) ∧ w'.cell? ⟨g, 1, none⟩ = some (.int .i64 i.b))
                ((go_split_ands; refine ⟨?_, ?_, ?_, ?_, ?_, ?_, ?_, ?_, ?_⟩ <;> first | exact (Below.refl _ _).drew | exact ((Below.refl _ _).drew).trans hb5 | exact step_cell hb5 (by assumption) | (go_keep; done)))
                ((go_at_call 56; refine (HFD.out _ _ S' ⟨r.b, true, i.b, 0⟩ ?_ ?_ hs2 HPB.out).mono ?_; (exact (step_below ((Below.refl _ _).alloc (Nat.le_refl _) _) HT3.out.bel).drew); (exact HS1.out.later (((Below.refl _ _).alloc (Nat.le_refl _) _).drew)); rintro e w5 ⟨⟨b5, rfl, hsay5⟩, hb5⟩))
              rename_i hHeldx
              have hb6 : Below w3.heap.size w3 w5 := over_alloc hHeldx.1
              have R : Hid (Says8 b5 ((0 < 2 → K1 ⟨r.a, true, i.a, 0⟩) ∧ (1 < 2 → K1 ⟨r.b, true, i.b, 0⟩))) := by
                rw [HS3.out] at hsay5
                exact ⟨fun h => ⟨fun _ => (HSAY.out.1 rfl).1 (by omega), fun _ => hsay5.1 h⟩, fun h => hsay5.2 (h.2 (by omega))⟩
              have HB6 : Hid (Below w3.heap.size w3 w5) := hb6
              clear hHeldx hb6 hsay5 hb5
              go_wp2
              refine ⟨⟨b5, 2, rfl, by go_num, by omega, step_below HB6.out HB3.out, R.out⟩, by simp [intOf]; omega⟩
        · have y1 : ¬ (j : Int) < (mn : Int) := by omega
          have hjm : j = mn := by omega
          have HUS : Hid (b = true ↔ usesK (· ∈ F) i r (setP F S)) := by
            have h9 := HSAY.out
            rw [hjm] at h9
            show b = true ↔ _
            unfold usesK
            rw [HMN.out, ← HK1.out]
            refine h9.trans ?_
            constructor
            · exact fun h => ⟨fun h0 => h.1 (by omega), fun h0 => h.2 (by omega)⟩
            · exact fun h => ⟨fun h0 => h.1 (by omega), fun h0 => h.2 (by omega)⟩
          have I0 : w3.cell? ⟨w.heap.size + 1, 0, none⟩ = some (.int .i64 i.op) := rI.cell 0
          have I1 : w3.cell? ⟨w.heap.size + 1, 1, none⟩ = some (.int .i64 i.dest) := rI.cell 1
          have I2 : w3.cell? ⟨w.heap.size + 1, 2, none⟩ = some (.int .i64 i.a) := rI.cell 2
          have I3 : w3.cell? ⟨w.heap.size + 1, 3, none⟩ = some (.int .i64 i.b) := rI.cell 3
          have I4 : w3.cell? ⟨w.heap.size + 1, 4, none⟩ = some (.int .i64 i.c) := rI.cell 4
          have I5 : w3.cell? ⟨w.heap.size + 1, 5, none⟩ = some (.int .u32 i.n) := rI.cell 5
          obtain ⟨S', hs1, hs2, hs3⟩ := hth.set
          have HS1 : Hid (BRowIs w3 v S') := hs1
          have HS3 : Hid (setP F S' = K1) := hs3
          obtain ⟨K2, hK2⟩ : ∃ K2, K2 = if givesB i.op = true then insK (· ∈ F) i r.dest K1 else K1 := ⟨_, rfl⟩
          have HK2 : Hid (K2 = if givesB i.op = true then insK (· ∈ F) i r.dest K1 else K1) := hK2
          have HK1F : Hid (∀ f, K1 f → f ∈ F) := fun f hf => by rw [← hs3] at hf; exact setP_mem hf
          clear hs1 hs3 rW rI rR hth hb3 hsay hjm hK2 ug0 ug1
          go_wp2_with (go_at_call 57; refine (HIN.out _ _ S' HT3.out.bel HS1.out hs2).mono ?_; rintro e w4 ⟨hor, hb4⟩; obtain ⟨v4, he4, hT4⟩ : ∃ v4, e = .returned v4 ∧ ThS w (thruBox w.heap.size [.slice ao0 n0 c0, .slice ao1 n1 c1, .slice (some ⟨ga, 0, none⟩) F.length ca, .slice (some ⟨gs, 0, none⟩) 4 cs, .slice ao4 n4 c4] i r (.slice bao r.before.length bcap) (.slice aao r.after.length acap)) F K2 sv v4 w4 := thru_ins HT3.out hb4 hFl HS3.out HK1F.out HK2.out hor; subst he4; have HT4 : Hid (ThS w (thruBox w.heap.size [.slice ao0 n0 c0, .slice ao1 n1 c1, .slice (some ⟨ga, 0, none⟩) F.length ca, .slice (some ⟨gs, 0, none⟩) 4 cs, .slice ao4 n4 c4] i r (.slice bao r.before.length bcap) (.slice aao r.after.length acap)) F K2 sv v4 w4) := hT4; clear hb4 hor hT4)
          go_loopw [1, 15] (fun v kv wr => ∃ (k : Nat) (v0 : Value), v0 = v ∧ kv = .int .i64 k ∧ k ≤ r.after.length ∧ ThS w (thruBox w.heap.size [.slice ao0 n0 c0, .slice ao1 n1 c1, .slice (some ⟨ga, 0, none⟩) F.length ca, .slice (some ⟨gs, 0, none⟩) 4 cs, .slice ao4 n4 c4] i r (.slice bao r.before.length bcap) (.slice aao r.after.length acap)) F (movesK (· ∈ F) (r.after.take k) K2) sv v wr) (fun _ kv _ => r.after.length - (intOf kv).toNat)
          case atStart => exact ⟨0, v4, rfl, rfl, by omega, HT4.out⟩
          case round =>
            clear W0 W1 W2 W3 W4 R0 R1 R2 R3 R4 R5 I0 I1 I2 I3 I4 I5
            obtain ⟨k, v, rfl, rfl, hk, hth⟩ := hrel
            have HTH : Hid (ThS w (thruBox w.heap.size [.slice ao0 n0 c0, .slice ao1 n1 c1, .slice (some ⟨ga, 0, none⟩) F.length ca, .slice (some ⟨gs, 0, none⟩) 4 cs, .slice ao4 n4 c4] i r (.slice bao r.before.length bcap) (.slice aao r.after.length acap)) F (movesK (· ∈ F) (r.after.take k) K2) sv v wr) := hth
            have hbel := hth.bel
            have HB : Hid (Below w.heap.size w wr) := hbel
            have rW : Row wr w.heap.size 66 [.slice ao0 n0 c0, .slice ao1 n1 c1, .slice (some ⟨ga, 0, none⟩) F.length ca, .slice (some ⟨gs, 0, none⟩) 4 cs, .slice ao4 n4 c4] := hth.bx (w.heap.size, 66, _) (by simp [thruBox])
            have rR : Row wr (w.heap.size + 1 + 1) 54 [.int .i64 r.dest.kind, .int .i64 r.dest.n, .int .i64 r.a.kind, .int .i64 r.a.n, .int .i64 r.b.kind, .int .i64 r.b.n, .slice bao r.before.length bcap, .slice aao r.after.length acap] := hth.bx (w.heap.size + 1 + 1, 54, _) (by simp [thruBox])
            have W0 : wr.cell? ⟨w.heap.size, 0, none⟩ = some (.slice ao0 n0 c0) := rW.cell 0
            have W1 : wr.cell? ⟨w.heap.size, 1, none⟩ = some (.slice ao1 n1 c1) := rW.cell 1
            have W2 : wr.cell? ⟨w.heap.size, 2, none⟩ = some (.slice (some ⟨ga, 0, none⟩) F.length ca) := rW.cell 2
            have W3 : wr.cell? ⟨w.heap.size, 3, none⟩ = some (.slice (some ⟨gs, 0, none⟩) 4 cs) := rW.cell 3
            have W4 : wr.cell? ⟨w.heap.size, 4, none⟩ = some (.slice ao4 n4 c4) := rW.cell 4
            have R7 : wr.cell? ⟨w.heap.size + 1 + 1, 7, none⟩ = some (.slice aao r.after.length acap) := rR.cell 7
            by_cases hlt : k < r.after.length
            · obtain ⟨mb, mo, rfl, hmb, hmc⟩ := HAC.out (by omega)
              obtain ⟨d0, d1, d2, d3, d4, d5⟩ := hmc k hlt
              have d0 := step_cell hbel d0
              have d1 := step_cell hbel d1
              have d2 := step_cell hbel d2
              have d3 := step_cell hbel d3
              have d4 := step_cell hbel d4
              have d5 := step_cell hbel d5
              have hmem : r.after.getD k .zero ∈ r.after := by simp [List.getD, hlt]
              have hmp := HAM.out _ hmem
              have htk := movesK_take (ok := (· ∈ F)) (K := K2) hlt
              obtain ⟨m, hm⟩ : ∃ m, m = r.after.getD k .zero := ⟨_, rfl⟩
              rw [← hm] at d0 d1 d2 d3 d4 d5 hmp htk
              have HMP : Hid ((m.cst = false → PlaceOf s slots m.src) ∧ PlaceOf s slots m.dst) := hmp
              have HTK : Hid (movesK (· ∈ F) (r.after.take (k + 1)) K2 = moveK (· ∈ F) m (movesK (· ∈ F) (r.after.take k) K2)) := htk
              obtain ⟨S', hs1, hs2, hs3⟩ := hth.set
              have HS1 : Hid (BRowIs wr v S') := hs1
              have HS3 : Hid (setP F S' = movesK (· ∈ F) (r.after.take k) K2) := hs3
              have y1 : (k : Int) < (r.after.length : Int) := by omega
              have y0 : (0 : Int) ≤ (k : Int) := by omega
              clear hmc hm hmem hmp htk hs1 hs3 rW rR hth
              go_wp2
              go_region_held3 (fun w' => Below wr.heap.size wr w' ∧ w'.cell? ⟨w.heap.size, 0, none⟩ = some (.slice ao0 n0 c0) ∧ w'.cell? ⟨w.heap.size, 1, none⟩ = some (.slice ao1 n1 c1) ∧ w'.cell? ⟨w.heap.size, 2, none⟩ = some (.slice (some ⟨ga, 0, none⟩) F.length ca) ∧ w'.cell? ⟨w.heap.size, 3, none⟩ = some (.slice (some ⟨gs, 0, none⟩) 4 cs) ∧ w'.cell? ⟨w.heap.size, 4, none⟩ = some (.slice ao4 n4 c4) ∧ w'.cell? ⟨w.heap.size + 1 + 1, 7, none⟩ = some (.slice (some ⟨mb, mo, none⟩) r.after.length acap) ∧ w'.cell? ⟨mb, mo + k * 6, none⟩ = some (.int .i64 m.dst.kind) ∧ w'.cell? ⟨mb, mo + k * 6 + 1, none⟩ = some (.int .i64 m.dst.n) ∧ w'.cell? ⟨mb, mo + k * 6 + 2, none⟩ = some (.int .i64 m.src.kind) ∧ w'.cell? ⟨mb, mo + k * 6 + 3, none⟩ = some (.int .i64 m.src.n) ∧ w'.cell? ⟨mb, mo + k * 6 + 4, none⟩ = some (.bool m.cst) ∧ w'.cell? ⟨mb, mo + k * 6 + 5, none⟩ = some (.int .u32 m.n))
                ((go_split_ands; refine ⟨?_, ?_, ?_, ?_, ?_, ?_, ?_, ?_, ?_, ?_, ?_, ?_, ?_⟩ <;> first | exact (Below.refl _ _).drew | exact ((Below.refl _ _).drew).trans hb1 | exact step_cell hb1 (by assumption) | (go_keep; done)))
                ((go_at_call 54; refine (HMV.out _ _ S' m ?_ ?_ hs2 HMP.out.1 HMP.out.2).mono ?_; (exact HB.out.drew); (exact HS1.out.later (drew_below _)); rintro e w1 ⟨⟨q1, O1, rfl, hq1, hO1, hM1⟩, hb1⟩))
              rename_i hHeldx
              have hb1' : Below wr.heap.size wr w1 := (drew_below _).trans hb1
              have R : Hid (ThS w (thruBox w.heap.size [.slice ao0 n0 c0, .slice ao1 n1 c1, .slice (some ⟨ga, 0, none⟩) F.length ca, .slice (some ⟨gs, 0, none⟩) 4 cs, .slice ao4 n4 c4] i r (.slice bao r.before.length bcap) (.slice (some ⟨mb, mo, none⟩) r.after.length acap)) F (movesK (· ∈ F) (r.after.take (k + 1)) K2) sv (.slice (some ⟨q1, 0, none⟩) F.length F.length) w1) := by
                refine HTH.out.move hb1' hq1 hO1 hFl ?_ ?_
                · rw [HTK.out, ← HS3.out]; exact hM1
                · rw [HTK.out]; exact fun f hf => hf.1
              clear hHeldx hb1 hb1' hO1 hM1
              go_wp2
              exact ⟨⟨k + 1, _, rfl, by go_num, by omega, R.out⟩, by simp [intOf]; omega⟩
            · have y1 : ¬ (k : Int) < (r.after.length : Int) := by omega
              have hke : r.after.take k = r.after := List.take_of_length_le (by omega)
              obtain ⟨O, hs1, hs2, hs3⟩ := hth.set
              have HR : Hid (BRowIs wr v O ∧ O.length = F.length ∧ setP F O = thruK (· ∈ F) i r (setP F S)) := by
                refine ⟨hs1, hs2, ?_⟩
                rw [hs3, hke]
                unfold thruK
                rw [HK2.out, HK1.out]
              have HFR : Hid (v = sv ∨ ∃ q, v = .slice (some ⟨q, 0, none⟩) F.length F.length ∧ w.heap.size ≤ q) := hth.fr
              clear hs1 hs2 hs3 rW rR hth hbel
              go_wp2
              refine bodyPost_ret (v := .tuple #[v, .bool b]) ?_ rfl ⟨⟨v, b, O, rfl, HFR.out, HR.out.1, HR.out.2.1, HR.out.2.2, HUS.out⟩, HB.out⟩
              simp [results, Tryz.results37, go_sem]

end Go.Proofs.YtcmnmogmdhofcaaGreat.form

/- What is needed, found by adding from nothing: the truths of all instructions in one row, on plain numbers and in memory. -/
namespace Go.Proofs.YtcmnmogmdhofcaaGreat.form
open Go.RowKit
set_option linter.unusedVariables false

def getF (nB : Nat) (L : List Bool) (k t : Nat) : Bool := L.getD (k * nB + t) false
def rowF (nB : Nat) (L : List Bool) (k : Nat) : List Bool := (List.range nB).map (getF nB L k)

theorem flat_inj {nB k t k' t' : Nat} (h : t < nB) (h' : t' < nB) (e : k * nB + t = k' * nB + t') : k = k' ∧ t = t' := by
  have h1 : (k * nB + t) / nB = k := by rw [Nat.mul_comm, Nat.mul_add_div (by omega), Nat.div_eq_of_lt h]; omega
  have h2 : (k' * nB + t') / nB = k' := by rw [Nat.mul_comm, Nat.mul_add_div (by omega), Nat.div_eq_of_lt h']; omega
  rw [e, h2] at h1
  subst h1
  exact ⟨rfl, by omega⟩
theorem flat_lt {nB nC k t : Nat} (hk : k < nC) (ht : t < nB) : k * nB + t < nC * nB := by
  have : (k + 1) * nB ≤ nC * nB := Nat.mul_le_mul_right _ hk
  rw [Nat.succ_mul] at this
  omega
theorem len_rowF (nB : Nat) (L : List Bool) (k : Nat) : (rowF nB L k).length = nB := by simp [rowF]
theorem getD_rowF {nB : Nat} {L : List Bool} {k t : Nat} (ht : t < nB) : (rowF nB L k).getD t false = getF nB L k t := by simp [rowF, List.getD, ht]
end Go.Proofs.YtcmnmogmdhofcaaGreat.form

/- Rounds over all instructions, from all facts down, till nothing changes, on plain numbers: what they end with is what is known. -/
namespace Go.Proofs.YtcmnmogmdhofcaaGreat.form
open Go.RowKit Go.Proofs.YtcmnmogmdhofcaaGreat.num
set_option linter.unusedVariables false

def setK (F : List LFact) (L : List Bool) (k : Nat) : LFact → Prop := setP F (rowF F.length L k)
def muK (come L : List Bool) : Nat := come.count false + L.count true

structure It (B : List Bool) (C : List LIns) (s slots : Int) (R : List LRow) (F : List LFact) (come L : List Bool) : Prop where
  lc : come.length = C.length
  ll : L.length = C.length * F.length
  c0 : come.getD 0 false = true
  snd : ∀ k, k < C.length → come.getD k false = true → Reach C k
  up : ∀ k f, k < C.length → Reach C k → Known B C s slots R k f → setK F L k f
  beg : ∀ f, setK F L 0 f → f.n = 0

theorem count_false_set {l : List Bool} {k : Nat} (hk : k < l.length) (h : l.getD k false = false) : (l.set k true).count false + 1 = l.count false := by
  have e : l[k] = false := by simpa [List.getD, hk] using h
  have hp : 0 < l.count false := List.count_pos_iff.2 (by rw [← e]; exact List.getElem_mem hk)
  rw [List.count_set hk, e]
  simp
  omega
theorem count_true_drop {l : List Bool} {k : Nat} (hk : k < l.length) (h : l.getD k false = true) : (l.set k false).count true + 1 = l.count true := by
  have e : l[k] = true := by simpa [List.getD, hk] using h
  have hp : 0 < l.count true := List.count_pos_iff.2 (by rw [← e]; exact List.getElem_mem hk)
  rw [List.count_set hk, e]
  simp
  omega

theorem getF_drop {nB nC k t k' t' : Nat} {L : List Bool} (hL : L.length = nC * nB) (hk : k < nC) (ht : t < nB) (ht' : t' < nB) :
    getF nB (L.set (k * nB + t) false) k' t' = if k' = k ∧ t' = t then false else getF nB L k' t' := by
  have hlt := flat_lt hk ht
  unfold getF
  by_cases e : k' = k ∧ t' = t
  · rw [if_pos e, e.1, e.2]
    simp [List.getD, hL, hlt]
  · rw [if_neg e]
    have : k * nB + t ≠ k' * nB + t' := fun h => e (by have := flat_inj ht ht' h; omega)
    simp [List.getD, this]

theorem setK_iff {F : List LFact} {L : List Bool} {k : Nat} {f : LFact} : setK F L k f ↔ ∃ i, i < F.length ∧ F.getD i .zero = f ∧ getF F.length L k i = true := by
  unfold setK setP
  constructor
  · rintro ⟨i, hi, e, h⟩; exact ⟨i, hi, e, by rw [← getD_rowF hi]; exact h⟩
  · rintro ⟨i, hi, e, h⟩; exact ⟨i, hi, e, by rw [getD_rowF hi]; exact h⟩

section
variable {B : List Bool} {C : List LIns} {s slots : Int} {R : List LRow} {F : List LFact} {come L come0 L0 : List Bool}

theorem It.reach (h : It B C s slots R F come L) {t : Nat} (ht : t < C.length) (hr : Reach C t) : It B C s slots R F (come.set t true) L := by
  have htc : t < come.length := by rw [h.lc]; exact ht
  have e : ∀ k, (come.set t true).getD k false = if k = t then true else come.getD k false := fun k => by
    by_cases e : k = t
    · subst e; rw [if_pos rfl]; simp [List.getD, htc]
    · rw [if_neg e]; simp [List.getD, Ne.symm e]
  refine ⟨by simp [h.lc], h.ll, ?_, fun k hk hc => ?_, h.up, h.beg⟩
  · rw [e]; split
    · rfl
    · exact h.c0
  · rw [e] at hc
    split at hc
    · rename_i h1; rw [h1]; exact hr
    · exact h.snd k hk hc

theorem It.drop (h : It B C s slots R F come L) {t i : Nat} (ht : t < C.length) (hi : i < F.length) (hno : Reach C t → ¬ Known B C s slots R t (F.getD i .zero)) : It B C s slots R F come (L.set (t * F.length + i) false) := by
  have hsub : ∀ k f, setK F (L.set (t * F.length + i) false) k f → setK F L k f := fun k f hf => by
    rw [setK_iff] at hf ⊢
    obtain ⟨j, hj, e, hg⟩ := hf
    rw [getF_drop h.ll ht hi hj] at hg
    split at hg
    · exact absurd hg (by simp)
    · exact ⟨j, hj, e, hg⟩
  refine ⟨h.lc, by simp [h.ll], h.c0, h.snd, fun k f hk hr hf => ?_, fun f hf => h.beg f (hsub 0 f hf)⟩
  have := h.up k f hk hr hf
  rw [setK_iff] at this ⊢
  obtain ⟨j, hj, e, hg⟩ := this
  refine ⟨j, hj, e, ?_⟩
  rw [getF_drop h.ll ht hi hj, if_neg]
  · exact hg
  · rintro ⟨rfl, rfl⟩
    exact hno hr (by rw [e]; exact hf)

structure PassS (B : List Bool) (C : List LIns) (s slots : Int) (R : List LRow) (F : List LFact) (come0 L0 : List Bool) (dc : Nat → Nat → Prop) (df : Nat → Nat → Nat → Prop) (dt : Nat → Prop) (again taken : Bool) (come L : List Bool) : Prop where
  it : It B C s slots R F come L
  le : muK come L ≤ muK come0 L0
  yes : again = true → muK come L < muK come0 L0
  no : again = false → come = come0 ∧ L = L0 ∧ (∀ k t, dc k t → come0.getD t false = true) ∧ (∀ k t i, df k t i → i < F.length → getF F.length L0 t i = true → thruK (· ∈ F) (C.getD k .zero) (R.getD k .zero) (setK F L0 k) (F.getD i .zero)) ∧
    (taken = true ↔ ∀ k, dt k → usesK (· ∈ F) (C.getD k .zero) (R.getD k .zero) (setK F L0 k))

theorem PassS.start (h : It B C s slots R F come L) : PassS B C s slots R F come L (fun _ _ => False) (fun _ _ _ => False) (fun _ => False) false true come L :=
  ⟨h, Nat.le_refl _, fun e => absurd e (by simp), fun _ => ⟨rfl, rfl, fun _ _ h => h.elim, fun _ _ _ h => h.elim, fun _ _ h => h.elim, fun _ => rfl⟩⟩

variable {dc dc' : Nat → Nat → Prop} {df df' : Nat → Nat → Nat → Prop} {dt dt' : Nat → Prop} {again taken : Bool}

theorem PassS.take (h : PassS B C s slots R F come0 L0 dc df dt again taken come L) {k : Nat} {ok : Bool} (hok : ok = true ↔ usesK (· ∈ F) (C.getD k .zero) (R.getD k .zero) (setK F L k)) (hdt : ∀ j, dt' j ↔ dt j ∨ j = k) : PassS B C s slots R F come0 L0 dc df dt' again (taken && ok) come L := by
  refine ⟨h.it, h.le, h.yes, fun e => ?_⟩
  obtain ⟨h1, h2, h3, h4, h5⟩ := h.no e
  refine ⟨h1, h2, h3, h4, ?_⟩
  rw [Bool.and_eq_true, h5, hok, h2]
  constructor
  · rintro ⟨a, b⟩ j hj
    rcases (hdt j).1 hj with hj | rfl
    · exact a j hj
    · exact b
  · exact fun a => ⟨fun j hj => a j ((hdt j).2 (Or.inl hj)), a k ((hdt k).2 (Or.inr rfl))⟩

theorem PassS.reach (h : PassS B C s slots R F come0 L0 dc df dt again taken come L) {k t : Nat} (ht : t < C.length) (hr : Reach C t) (hdc : ∀ j u, dc' j u → dc j u ∨ (j = k ∧ u = t)) :
    PassS B C s slots R F come0 L0 dc' df dt (again || !(come.getD t false)) taken (come.set t true) L := by
  have htc : t < come.length := by rw [h.it.lc]; exact ht
  have hle := h.le
  cases hc : come.getD t false with
  | true =>
    have e : come.set t true = come := by
      apply List.ext_getElem (by simp)
      intro q h1 h2
      rw [List.getElem_set]
      split
      · rename_i h3; subst h3; simpa [List.getD, htc] using hc.symm
      · rfl
    rw [e]
    simp only [Bool.not_true, Bool.or_false]
    refine ⟨h.it, h.le, h.yes, fun ea => ?_⟩
    obtain ⟨h1, h2, h3, h4, h5⟩ := h.no ea
    refine ⟨h1, h2, fun j u hu => ?_, h4, h5⟩
    rcases hdc j u hu with hu | ⟨-, rfl⟩
    · exact h3 j u hu
    · rw [← h1]; exact hc
  | false =>
    have hm := count_false_set htc hc
    simp only [Bool.not_false, Bool.or_true]
    refine ⟨h.it.reach ht hr, by unfold muK at *; omega, fun _ => by unfold muK at *; omega, fun e => absurd e (by simp)⟩

theorem PassS.drop (h : PassS B C s slots R F come0 L0 dc df dt again taken come L) {t i : Nat} (ht : t < C.length) (hi : i < F.length) (hg : getF F.length L t i = true) (hno : Reach C t → ¬ Known B C s slots R t (F.getD i .zero)) :
    PassS B C s slots R F come0 L0 dc df' dt true taken come (L.set (t * F.length + i) false) := by
  have hm := count_true_drop (l := L) (k := t * F.length + i) (by rw [h.it.ll]; exact flat_lt ht hi) hg
  have hle := h.le
  exact ⟨h.it.drop ht hi hno, by unfold muK at *; omega, fun _ => by unfold muK at *; omega, fun e => absurd e (by simp)⟩

theorem PassS.stay (h : PassS B C s slots R F come0 L0 dc df dt again taken come L) {k t i : Nat} (hs : again = false → getF F.length L t i = false ∨ thruK (· ∈ F) (C.getD k .zero) (R.getD k .zero) (setK F L0 k) (F.getD i .zero)) (hdf : ∀ j u q, df' j u q → q < F.length → df j u q ∨ (j = k ∧ u = t ∧ q = i)) :
    PassS B C s slots R F come0 L0 dc df' dt again taken come L := by
  refine ⟨h.it, h.le, h.yes, fun e => ?_⟩
  obtain ⟨h1, h2, h3, h4, h5⟩ := h.no e
  refine ⟨h1, h2, h3, fun j u q hq hl hg => ?_, h5⟩
  rcases hdf j u q hq hl with hq | ⟨rfl, rfl, rfl⟩
  · exact h4 j u q hq hl hg
  · rcases hs e with hs | hs
    · rw [h2] at hs; rw [hs] at hg; exact absurd hg (by simp)
    · exact hs

theorem PassS.weak (h : PassS B C s slots R F come0 L0 dc df dt again taken come L) (hdc : ∀ j u, dc' j u → dc j u) (hdf : ∀ j u q, df' j u q → q < F.length → df j u q) (hdt : ∀ j, dt' j ↔ dt j) : PassS B C s slots R F come0 L0 dc' df' dt' again taken come L := by
  refine ⟨h.it, h.le, h.yes, fun e => ?_⟩
  obtain ⟨h1, h2, h3, h4, h5⟩ := h.no e
  exact ⟨h1, h2, fun j u hu => h3 j u (hdc j u hu), fun j u q hq hl => h4 j u q (hdf j u q hq hl) hl, h5.trans ⟨fun a j hj => a j ((hdt j).1 hj), fun a j hj => a j ((hdt j).2 hj)⟩⟩

theorem PassS.weakF (h : PassS B C s slots R F come0 L0 dc df dt again taken come L) (hw : again = false → come = come0 → (∀ j u, dc' j u → dc j u) ∧ (∀ j u q, df' j u q → q < F.length → df j u q) ∧ (∀ j, dt' j ↔ dt j)) : PassS B C s slots R F come0 L0 dc' df' dt' again taken come L := by
  refine ⟨h.it, h.le, h.yes, fun e => ?_⟩
  obtain ⟨h1, h2, h3, h4, h5⟩ := h.no e
  obtain ⟨hdc, hdf, hdt⟩ := hw e h1
  exact ⟨h1, h2, fun j u hu => h3 j u (hdc j u hu), fun j u q hq hl => h4 j u q (hdf j u q hq hl) hl, h5.trans ⟨fun a j hj => a j ((hdt j).1 hj), fun a j hj => a j ((hdt j).2 hj)⟩⟩

theorem ok_eq (hF : ∀ f, f ∈ F ↔ FactOk B s slots (NumP C) f) : (fun f => f ∈ F) = FactOk B s slots (NumP C) := funext fun f => propext (hF f)

theorem PassS.done (hF : ∀ f, f ∈ F ↔ FactOk B s slots (NumP C) f)
    (h : PassS B C s slots R F come0 L0 (fun k t => k < C.length ∧ come0.getD k false = true ∧ t ∈ nextsN (C.getD k .zero) k ∧ t < C.length) (fun k t _ => k < C.length ∧ come0.getD k false = true ∧ t ∈ nextsN (C.getD k .zero) k ∧ t < C.length) (fun k => k < C.length ∧ come0.getD k false = true) false taken come L) :
    (∀ k, k < C.length → (come.getD k false = true ↔ Reach C k)) ∧ (∀ k f, k < C.length → Reach C k → (setK F L k f ↔ Known B C s slots R k f)) ∧
    (taken = true ↔ ∀ k, Reach C k → k < C.length → usesK (FactOk B s slots (NumP C)) (C.getD k .zero) (R.getD k .zero) (Known B C s slots R k)) := by
  obtain ⟨h1, h2, h3, h4, h5⟩ := h.no rfl
  subst h1
  subst h2
  have hc : ∀ k, k < C.length → (come.getD k false = true ↔ Reach C k) := fun k hk => by
    refine ⟨h.it.snd k hk, fun hr => ?_⟩
    have := reach_least (C := C) (P := fun j => j < C.length → come.getD j false = true) (fun _ => h.it.c0) (fun a b ha hl hb hbl _ => h3 a b ⟨hl, ha hl, hb, hbl⟩) k hr
    exact this hk
  have hkn : ∀ k f, k < C.length → Reach C k → (setK F L k f ↔ Known B C s slots R k f) := fun k f hk hr => by
    refine found_known (S := fun k f => setK F L k f) (fun j g hg => ?_) (fun g hg => h.it.beg g hg) (fun a b ha hl hb hbl g hg => ?_) (fun j g hj hg => ?_) hr f
    · exact (hF g).1 (setP_mem hg)
    · rw [setK_iff] at hg
      obtain ⟨q, hq, rfl, ht⟩ := hg
      have := h4 a b q ⟨hl, (hc a hl).2 ha, hb, hbl⟩ hq ht
      rw [ok_eq hF] at this
      exact this
    · by_cases hl : j < C.length
      · exact h.it.up j g hl hj hg
      · have h0 : 1 ≤ C.length := by omega
        exact absurd (reach_lt h0 hj) hl
  refine ⟨hc, hkn, h5.trans ?_⟩
  rw [ok_eq hF]
  constructor
  · intro a k hr hk
    have := a k ⟨hk, (hc k hk).2 hr⟩
    exact usesK_mono (fun f hf => (hkn k f hk hr).1 hf) this
  · rintro a k ⟨hk, hcm⟩
    have hr := (hc k hk).1 hcm
    exact usesK_mono (fun f hf => (hkn k f hk hr).2 hf) (a k hr hk)

end

end Go.Proofs.YtcmnmogmdhofcaaGreat.form

/- Rows of facts that are gathered: on plain numbers and in memory. -/
namespace Go.Proofs.YtcmnmogmdhofcaaGreat.form
open Go.RowKit Go.Proofs.YtcmnmogmdhofcaaGreat.num
set_option linter.unusedVariables false

def rowOfM (F : List LFact) (S : List Bool) (m : Nat) : List LFact := ((List.range m).filter (fun q => S.getD q false)).map (fun q => F.getD q .zero)

theorem rowOfM_succ (F : List LFact) (S : List Bool) (m : Nat) : rowOfM F S (m + 1) = rowOfM F S m ++ (if S.getD m false = true then [F.getD m .zero] else []) := by
  unfold rowOfM
  rw [List.range_succ, List.filter_append, List.map_append]
  congr 1
  cases h : S.getD m false with
  | true => rw [List.filter_cons_of_pos (by simpa using h)]; rfl
  | false => rw [List.filter_cons_of_neg (by simpa using h)]; rfl
theorem rowOfM_len (F : List LFact) (S : List Bool) (m : Nat) : (rowOfM F S m).length ≤ m := by
  unfold rowOfM
  rw [List.length_map]
  exact Nat.le_trans (List.length_filter_le _ _) (by simp)
theorem rowOfM_mem {F : List LFact} {S : List Bool} {f : LFact} : f ∈ rowOfM F S F.length ↔ setP F S f := by
  unfold rowOfM setP
  rw [List.mem_map]
  constructor
  · rintro ⟨q, hq, rfl⟩
    rw [List.mem_filter, List.mem_range] at hq
    exact ⟨q, hq.1, rfl, hq.2⟩
  · rintro ⟨q, hq, e, ht⟩
    exact ⟨q, by rw [List.mem_filter, List.mem_range]; exact ⟨hq, ht⟩, e⟩
theorem rowOfM_sorted {F : List LFact} {S : List Bool} (h : F.Pairwise factLt) : (rowOfM F S F.length).Pairwise factLt := by
  unfold rowOfM
  rw [List.pairwise_map]
  have hr : (List.range F.length).Pairwise (fun a b => a < b ∧ a < F.length ∧ b < F.length) := by
    rw [List.pairwise_iff_getElem]
    intro i j hi hj hij
    simp only [List.length_range] at hi hj
    simp only [List.getElem_range]
    exact ⟨hij, hi, hj⟩
  refine (hr.filter _).imp (fun {a b} hab => ?_)
  rw [List.pairwise_iff_getElem] at h
  have := h a b hab.2.1 hab.2.2 hab.1
  simpa [List.getD, hab.2.1, hab.2.2] using this

theorem factLt_trans {f g h : LFact} (h1 : factLt f g) (h2 : factLt g h) : factLt f h := by
  unfold factLt at *
  rcases h1 with a | ⟨a, a1⟩ <;> rcases h2 with b | ⟨b, b1⟩
  · exact Or.inl (by omega)
  · exact Or.inl (by omega)
  · exact Or.inl (by omega)
  refine Or.inr ⟨by omega, ?_⟩
  rcases a1 with a1 | ⟨a1, a2⟩ <;> rcases b1 with b1 | ⟨b1, b2⟩
  · exact Or.inl (by omega)
  · exact Or.inl (by omega)
  · exact Or.inl (by omega)
  refine Or.inr ⟨by omega, ?_⟩
  rcases a2 with ⟨a2, a3⟩ | ⟨a2, a3⟩ <;> rcases b2 with ⟨b2, b3⟩ | ⟨b2, b3⟩
  · rw [a3] at b2; exact absurd b2 (by simp)
  · exact Or.inl ⟨a2, by rw [← b2]; exact a3⟩
  · exact Or.inl ⟨by rw [a2]; exact b2, b3⟩
  refine Or.inr ⟨a2.trans b2, ?_⟩
  rcases a3 with a3 | ⟨a3, a4⟩ <;> rcases b3 with b3 | ⟨b3, b4⟩
  · exact Or.inl (by omega)
  · exact Or.inl (by omega)
  · exact Or.inl (by omega)
  · exact Or.inr ⟨by omega, by omega⟩

theorem sorted_only : ∀ {l r : List LFact}, l.Pairwise factLt → r.Pairwise factLt → (∀ f, f ∈ l ↔ f ∈ r) → l = r
  | [], [], _, _, _ => rfl
  | [], b :: r, _, _, h => absurd ((h b).2 (by simp)) (by simp)
  | a :: l, [], _, _, h => absurd ((h a).1 (by simp)) (by simp)
  | a :: l, b :: r, h1, h2, h => by
    rw [List.pairwise_cons] at h1 h2
    have hab : a = b := by
      rcases List.mem_cons.1 ((h a).1 (by simp)) with e | e
      · exact e
      · rcases List.mem_cons.1 ((h b).2 (by simp)) with e2 | e2
        · exact e2.symm
        · exact absurd (factLt_trans (h1.1 b e2) (h2.1 a e)) factLt_ne
    subst hab
    congr 1
    refine sorted_only h1.2 h2.2 (fun f => ?_)
    constructor
    · intro hf
      rcases List.mem_cons.1 ((h f).1 (by simp [hf])) with e | e
      · subst e; exact absurd (h1.1 f hf) factLt_ne
      · exact e
    · intro hf
      rcases List.mem_cons.1 ((h f).2 (by simp [hf])) with e | e
      · subst e; exact absurd (h2.1 f hf) factLt_ne
      · exact e

structure FactsMat (B : List Bool) (C : List LIns) (s slots : Int) (R : List LRow) (Rs : List (List LFact)) : Prop where
  len : Rs.length = C.length
  yes : ∀ k, k < C.length → Reach C k → (Rs.getD k []).Pairwise factLt ∧ ∀ f, f ∈ Rs.getD k [] ↔ Known B C s slots R k f
  no : ∀ k, k < C.length → ¬ Reach C k → Rs.getD k [] = []
theorem FactsMat.only {B : List Bool} {C : List LIns} {s slots : Int} {R : List LRow} {P Q : List (List LFact)} (h : FactsMat B C s slots R P) (g : FactsMat B C s slots R Q) : P = Q := by
  apply List.ext_getElem (by rw [h.len, g.len])
  intro k h1 h2
  have hk : k < C.length := by rw [← h.len]; exact h1
  have e1 : P.getD k [] = P[k] := by simp [List.getD, h1]
  have e2 : Q.getD k [] = Q[k] := by simp [List.getD, h2]
  rw [← e1, ← e2]
  by_cases hr : Reach C k
  · obtain ⟨a1, a2⟩ := h.yes k hk hr
    obtain ⟨b1, b2⟩ := g.yes k hk hr
    exact sorted_only a1 b1 (fun f => (a2 f).trans (b2 f).symm)
  · rw [h.no k hk hr, g.no k hk hr]

end Go.Proofs.YtcmnmogmdhofcaaGreat.form
