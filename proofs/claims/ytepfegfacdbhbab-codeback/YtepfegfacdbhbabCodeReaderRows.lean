/- Moves and rows read out of bytes, the program's own (code.reader.moves, row). -/
import Derived.Test.YtepfegfacdbhbabCodeReaderMove
import Derived.Test.YtepfegfacdbhbabCodeRowsOwn
namespace Go.Proofs.Ytepfegfacdbhbab.form
open Go.RowKit
set_option linter.unusedVariables false
set_option maxRecDepth 100000
attribute [local go_sem ↓] Go.wp_at_zero Go.wp_at_succ

theorem own_off {w w1 : World} {lo b : Nat} {e : TypeId} {size n : Nat} {v : Value} {xs : List Value} (h : w.ownsRow lo e size v n xs) (hb : b < lo) (ho : OffB b w w1) : w1.ownsRow lo e size v n xs := by
  refine World.ownsRow.kept h (row := some b) ⟨ho.os, ho.tape, ho.output, ho.size, fun k hk hne => ho.block k hk (fun e => hne (by rw [e]))⟩ ?_
  cases hv : v.ownBlock with
  | none => exact Or.inl rfl
  | some k => exact Or.inr (fun e => by have := (World.ownsRow.lt h k hv).1; simp at e; omega)
theorem own_formC {w : World} {lo : Nat} {e : TypeId} {size n : Nat} {v : Value} {xs : List Value} (h : w.ownsRow lo e size v n xs) : ∃ ao cap, v = .slice ao n cap := by
  rcases h.2 with ⟨e, e2⟩ | ⟨g, cap, cur, e, -⟩
  · exact ⟨none, 0, by rw [e, e2]⟩
  · exact ⟨_, _, e⟩
theorem OffB.grown {b : Nat} {w w1 w2 : World} {row : Option Nat} (h : OffB b w w1) (hg : w1.grownBy w2 row) (hr : ∀ k, row = some k → w.heap.size ≤ k) : OffB b w w2 :=
  ⟨hg.os.trans h.os, hg.tape.trans h.tape, hg.output.trans h.output, Nat.le_trans h.size hg.size, fun k hk h1 => (hg.block k (Nat.lt_of_lt_of_le hk h.size) (fun e => by have := hr k e.symm; omega)).trans (h.block k hk h1)⟩
theorem RdX.grown {w0 : World} {b : Nat} {rest : List Int} {bad : Bool} {w w1 : World} {row : Option Nat} (h : RdX w0 b rest bad w) (hg : w.grownBy w1 row) (hr : ∀ k, row = some k → b < k) : RdX w0 b rest bad w1 :=
  h.elim fun rv h => ⟨rv, h.box.grown hg (fun e => by have := hr b e.symm; omega), h.is, h.bel.grown hg (by have := h.box.lt; have := h.lo; omega) (fun k hk => by have := hr k hk; have := h.lo; omega), h.lo⟩

/-- What reading a row of moves leaves. -/
def MovesP (w0 : World) (b : Nat) (rest : List Int) (bad : Bool) (w : World) (e : Ending) (w' : World) : Prop :=
  ∃ v l rest' bad', e = .returned v ∧ w'.ownsRow w.heap.size 158 6 v l.length (l.flatMap mvC) ∧ ReadMs rest bad l rest' bad' ∧ RdX w0 b rest' bad' w' ∧ OffB b w w'
theorem infMv : (Try.prog.info? 158).map (fun i => (i.zero, i.size, i.bytes)) = some (some (.agg #[.int .i64 0, .int .i64 0, .int .i64 0, .int .i64 0, .bool false, .int .u32 0]), 6, 40) := by kernel_rfl

set_option maxHeartbeats 2000000 in
theorem movesR {w0 : World} {b : Nat} {rest : List Int} {bad : Bool} {w : World} (h : RdX w0 b rest bad w) :
    Calls Try.prog 159 #[.pointer (some ⟨b, 0, none⟩)] w fun e w' => MovesP w0 b rest bad w e w' := by
  obtain ⟨n0, n1⟩ := h.byte 0
  obtain ⟨N, hN⟩ : ∃ N : Nat, (N : Int) = rest.getD 0 0 := ⟨(rest.getD 0 0).toNat, by omega⟩
  have hN5 : N ≤ 255 := by omega
  have HNX : Hid (Calls Try.prog 121 #[.pointer (some ⟨b, 0, none⟩)] w fun e w' => ReadP w0 b 1 rest bad (.int .i64 N) w e w') := by rw [hN]; exact nextR h
  have HN : Hid ((N : Int) = rest.getD 0 0) := hN
  have hbl := h.lt
  clear h hN n0 n1
  have z0 : (N : Int) ≤ 255 := by omega
  obtain ⟨t0', hi0, hy0, hy1, hy2⟩ := info_parts infMv
  go_enter Try.func159, Try.ntmps159
  go_wp2_with (go_at_call 121; refine HNX.out.mono ?_; rintro e w2 ⟨rfl, hx2, ho2⟩; have HX2 : Hid (RdX w0 b (rest.drop 1) (bad || decide (rest.length < 1)) w2) := hx2; have HO2 : Hid (OffB b w w2) := ho2; clear hx2 ho2)
  clear HNX
  go_loopg [3, 6] (N + 1) (fun gg t3 t wr => ∃ (k : Nat) (l : List LMove) (v : Value) (rk : List Int) (bk : Bool), t3 = v ∧ t = .int .i64 k ∧ k ≤ N ∧ gg = N + 1 - k ∧ wr.ownsRow w.heap.size 158 6 v l.length (l.flatMap mvC) ∧ ReadM k (rest.drop 1) (bad || decide (rest.length < 1)) l rk bk ∧ RdX w0 b rk bk wr ∧ OffB b w wr)
  case atStart => exact ⟨0, [], _, _, _, rfl, rfl, by omega, by omega, World.ownsRow_nil _ _ _ _, ReadM.zero _ _, HX2.out, HO2.out⟩
  case round =>
    clear HX2 HO2
    obtain ⟨k, l, v, rk, bk, rfl, rfl, hk, hgk, hown, hrm, hrx, hof⟩ := hrel
    have HGK : Hid (gk = N + 1 - k) := hgk
    have HRM : Hid (ReadM k (rest.drop 1) (bad || decide (rest.length < 1)) l rk bk) := hrm
    have HRX : Hid (RdX w0 b rk bk wr) := hrx
    have HOF : Hid (OffB b w wr) := hof
    have HLK : Hid (l.length = k) := hrm.len
    obtain ⟨ao, cap, hv⟩ := own_formC hown
    subst hv
    have HOWN : Hid (wr.ownsRow w.heap.size 158 6 (.slice ao l.length cap) l.length (l.flatMap mvC)) := hown
    clear hgk hrm hrx hof hown
    by_cases hlt : k < N
    case neg =>
      have y1 : ¬ (k : Int) < (N : Int) := by omega
      go_wp2
      go_ret
      have e : k = N := by omega
      have hr := HRM.out
      rw [e] at hr
      exact ⟨_, l, rk, bk, rfl, HOWN.out, hr.all HN.out hN5, HRX.out, HOF.out⟩
    have y1 : (k : Int) < (N : Int) := by omega
    have HMV : Hid (Calls Try.prog 172 #[.pointer (some ⟨b, 0, none⟩)] wr fun e w' => MoveP w0 b rk bk wr e w') := moveR HRX.out
    unfold MoveP at HMV
    obtain ⟨m, hm⟩ : ∃ m, m = mk9 rk := ⟨_, rfl⟩
    rw [← hm] at HMV
    have HM : Hid (m = mk9 rk) := hm
    clear hm
    go_upto_region 5 with first
      | (go_at_call 172; refine HMV.out.mono ?_; rintro e w2 ⟨rfl, hx2, ho2⟩; have HX2 : Hid (RdX w0 b (rk.drop 9) (bk || bad9 rk) w2) := hx2; have HO2 : Hid (OffB b w w2) := HOF.out.trans ho2; have HOWN2 : Hid (w2.ownsRow w.heap.size 158 6 (.slice ao l.length cap) l.length (l.flatMap mvC)) := own_off HOWN.out hbl ho2; clear hx2 ho2)
      | (at_builtin; refine wpList_append_lies _ rfl _ _ 90 rfl w.heap.size 158 t0' _ 6 40 Try.underlying90 hi0 hy0 hy1 hy2 rfl (by decide) (.slice ao l.length cap) l.length (l.flatMap mvC) rfl (World.ownsRow.alloc HOWN2.out _) ⟨w2.heap.size, 0, none⟩ 1 1 (mvC m) rfl rfl (World.news_of_block (cs := (mvC m).toArray) (t := 158) (fr := (0, 0)) (heap_alloc_new w2 _)) (by simp [mvC, Value.oneCell']) (by decide) (by have := HLK.out; unfold maxLen; omega) (by have := HLK.out; omega) (by have := HO2.out.size; simp; omega) (w2.heap.size + 1) (by simp) ?_; intro g3 cap3 w3 hown3 hgrow3 hat3 hlt3; have HX3 : Hid (RdX w0 b (rk.drop 9) (bk || bad9 rk) w3) := (HX2.out.below ((Below.refl _ _).alloc (Nat.le_refl _) _)).grown hgrow3 (fun j hj => by have := (World.ownsRow.lt HOWN2.out j hj).1; omega); have HO3 : Hid (OffB b w w3) := (HO2.out.alloc _).grown hgrow3 (fun j hj => (World.ownsRow.lt HOWN2.out j hj).1); have HOWN3 : Hid (w3.ownsRow w.heap.size 158 6 (.slice (some ⟨g3, 0, none⟩) (l.length + 1) cap3) (l.length + 1) (l.flatMap mvC ++ mvC m)) := hown3; clear hown3 hgrow3 hat3 hlt3)
    go_wp2
    have hgk := HGK.out
    go_roundg (gk - 1)
    case measure => omega
    case rel =>
      have hr := HRM.out.step
      rw [← HM.out] at hr
      refine ⟨k + 1, l ++ [m], _, rk.drop 9, (bk || bad9 rk), rfl, by go_num, by omega, by omega, ?_, hr, HX3.out, HO3.out⟩
      have := HOWN3.out
      simpa using this

/-- What reading a row leaves. -/
def RowRP (w0 : World) (b : Nat) (rest : List Int) (bad : Bool) (w : World) (e : Ending) (w' : World) : Prop :=
  ∃ vb va be af rest' bad', e = .returned (.agg #[.int .i64 (rest.getD 0 0), .int .i64 (rest.getD 1 0), .int .i64 (rest.getD 2 0), .int .i64 (rest.getD 3 0), .int .i64 (rest.getD 4 0), .int .i64 (rest.getD 5 0), vb, va]) ∧
    w'.ownsRow (w.heap.size + 2) 158 6 vb be.length (be.flatMap mvC) ∧ w'.ownsRow (w.heap.size + 2) 158 6 va af.length (af.flatMap mvC) ∧ (be.length ≤ 255 ∧ af.length ≤ 255) ∧
    ReadR 1 rest bad [⟨⟨rest.getD 0 0, rest.getD 1 0⟩, ⟨rest.getD 2 0, rest.getD 3 0⟩, ⟨rest.getD 4 0, rest.getD 5 0⟩, be, af⟩] rest' bad' ∧ RdX w0 b rest' bad' w' ∧ OffB b w w'
theorem own_mono2 {w : World} {lo lo' : Nat} {e : TypeId} {size n : Nat} {v : Value} {xs : List Value} (h : w.ownsRow lo e size v n xs) (hb : lo' ≤ lo) : w.ownsRow lo' e size v n xs :=
  ⟨h.1, h.2.imp id (fun ⟨g, cap, cur, e1, hg, hr⟩ => ⟨g, cap, cur, e1, Nat.le_trans hb hg, hr⟩)⟩

set_option maxHeartbeats 2000000 in
theorem rowR {w0 : World} {b : Nat} {rest : List Int} {bad : Bool} {w : World} (h : RdX w0 b rest bad w) :
    Calls Try.prog 122 #[.pointer (some ⟨b, 0, none⟩)] w fun e w' => RowRP w0 b rest bad w e w' := by
  obtain ⟨w1, hw1⟩ : ∃ w1, w1 = (w.alloc (.cells #[.int .i64 0, .int .i64 0, .int .i64 0, .int .i64 0, .int .i64 0, .int .i64 0, .slice none 0 0, .slice none 0 0] 92)).alloc (.cells #[.int .i64 0, .int .i64 0, .int .i64 0, .int .i64 0, .int .i64 0, .int .i64 0, .slice none 0 0, .slice none 0 0] 92) := ⟨_, rfl⟩
  have HB1 : Hid (BxS w b 92 [.int .i64 0, .int .i64 0, .int .i64 0, .int .i64 0, .int .i64 0, .int .i64 0, .slice none 0 0, .slice none 0 0] [.int .i64 0, .int .i64 0, .int .i64 0, .int .i64 0, .int .i64 0, .int .i64 0, .slice none 0 0, .slice none 0 0] w1) := by rw [hw1]; exact BxS.new w b 92 [.int .i64 0, .int .i64 0, .int .i64 0, .int .i64 0, .int .i64 0, .int .i64 0, .slice none 0 0, .slice none 0 0]
  have HX1 : Hid (RdX w0 b rest bad w1) := by rw [hw1]; exact h.below (((Below.refl _ _).alloc (Nat.le_refl _) _).alloc (by simp) _)
  have HW1 : Hid (w1 = (w.alloc (.cells #[.int .i64 0, .int .i64 0, .int .i64 0, .int .i64 0, .int .i64 0, .int .i64 0, .slice none 0 0, .slice none 0 0] 92)).alloc (.cells #[.int .i64 0, .int .i64 0, .int .i64 0, .int .i64 0, .int .i64 0, .int .i64 0, .slice none 0 0, .slice none 0 0] 92)) := hw1
  have hbl := h.lt
  have hb1 : b < w.heap.size + 1 := by omega
  obtain ⟨a0, h0⟩ : ∃ a0, a0 = rest.getD 0 0 := ⟨_, rfl⟩
  obtain ⟨a1, h1⟩ : ∃ a1, a1 = rest.getD 1 0 := ⟨_, rfl⟩
  obtain ⟨a2, h2⟩ : ∃ a2, a2 = rest.getD 2 0 := ⟨_, rfl⟩
  obtain ⟨a3, h3⟩ : ∃ a3, a3 = rest.getD 3 0 := ⟨_, rfl⟩
  obtain ⟨a4, h4⟩ : ∃ a4, a4 = rest.getD 4 0 := ⟨_, rfl⟩
  obtain ⟨a5, h5⟩ : ∃ a5, a5 = rest.getD 5 0 := ⟨_, rfl⟩
  have HN1 : Hid (Calls Try.prog 158 #[.pointer (some ⟨b, 0, none⟩)] w1 fun e w' => ReadP w0 b 2 rest bad (.agg #[.int .i64 a0, .int .i64 a1]) w1 e w') := by rw [h0, h1]; exact placeR HX1.out
  have HN2 : Hid (∀ wx, RdX w0 b (rest.drop 2) (bad || decide (rest.length < 2)) wx → Calls Try.prog 158 #[.pointer (some ⟨b, 0, none⟩)] wx fun e w' => ReadP w0 b 2 (rest.drop 2) (bad || decide (rest.length < 2)) (.agg #[.int .i64 a2, .int .i64 a3]) wx e w') := by
    intro wx hx
    have := placeR hx
    rw [getD_dropI, getD_dropI] at this
    rw [h2, h3]
    exact this
  have HN3 : Hid (∀ wx, RdX w0 b (rest.drop 4) (bad || decide (rest.length < 4)) wx → Calls Try.prog 158 #[.pointer (some ⟨b, 0, none⟩)] wx fun e w' => ReadP w0 b 2 (rest.drop 4) (bad || decide (rest.length < 4)) (.agg #[.int .i64 a4, .int .i64 a5]) wx e w') := by
    intro wx hx
    have := placeR hx
    rw [getD_dropI, getD_dropI] at this
    rw [h4, h5]
    exact this
  have HFIN : Hid (∀ vb va be af rest' bad' w', w'.ownsRow (w.heap.size + 2) 158 6 vb be.length (be.flatMap mvC) → w'.ownsRow (w.heap.size + 2) 158 6 va af.length (af.flatMap mvC) → be.length ≤ 255 ∧ af.length ≤ 255 →
      ReadR 1 rest bad [⟨⟨rest.getD 0 0, rest.getD 1 0⟩, ⟨rest.getD 2 0, rest.getD 3 0⟩, ⟨rest.getD 4 0, rest.getD 5 0⟩, be, af⟩] rest' bad' → RdX w0 b rest' bad' w' → OffB b w w' → RowRP w0 b rest bad w (.returned (.agg #[.int .i64 a0, .int .i64 a1, .int .i64 a2, .int .i64 a3, .int .i64 a4, .int .i64 a5, vb, va])) w') := by
    intro vb va be af rest' bad' w' q1 q2 q3 q4 q5 q6
    rw [h0, h1, h2, h3, h4, h5]
    exact ⟨vb, va, be, af, rest', bad', rfl, q1, q2, q3, q4, q5, q6⟩
  clear hw1 h h0 h1 h2 h3 h4 h5
  go_enter Try.func122, Try.ntmps122
  go_upto_region 3 with (rw [← HW1.out]; go_at_call 158; refine HN1.out.mono ?_; rintro e w2 ⟨rfl, hx2, ho2⟩; have HX2 : Hid (RdX w0 b (rest.drop 2) (bad || decide (rest.length < 2)) w2) := hx2; have HB2 : Hid (BxS w b 92 [.int .i64 0, .int .i64 0, .int .i64 0, .int .i64 0, .int .i64 0, .int .i64 0, .slice none 0 0, .slice none 0 0] [.int .i64 0, .int .i64 0, .int .i64 0, .int .i64 0, .int .i64 0, .int .i64 0, .slice none 0 0, .slice none 0 0] w2) := HB1.out.call hbl ho2; have p0 : w2.cell? ⟨w.heap.size + 1, 0, none⟩ = some (.int .i64 0) := HB2.out.box.cell 0; have p1 : w2.cell? ⟨w.heap.size + 1, 1, none⟩ = some (.int .i64 0) := HB2.out.box.cell 1; have pf : ∀ j, w2.frozen? ⟨w.heap.size + 1, j, none⟩ = false := (fun j => HB2.out.box.frozen j); clear hx2 ho2)
  clear HN1 HB1 HX1 HW1
  obtain ⟨w3, hw3⟩ : ∃ w3, w3 = (w2.setCell ⟨w.heap.size + 1, 0, none⟩ (.int .i64 a0)).setCell ⟨w.heap.size + 1, 1, none⟩ (.int .i64 a1) := ⟨_, rfl⟩
  have HB3 : Hid (BxS w b 92 [.int .i64 0, .int .i64 0, .int .i64 0, .int .i64 0, .int .i64 0, .int .i64 0, .slice none 0 0, .slice none 0 0] [.int .i64 a0, .int .i64 a1, .int .i64 0, .int .i64 0, .int .i64 0, .int .i64 0, .slice none 0 0, .slice none 0 0] w3) := by rw [hw3]; exact (HB2.out.put 0 (.int .i64 a0)).put 1 (.int .i64 a1)
  have HX3 : Hid (RdX w0 b (rest.drop 2) (bad || decide (rest.length < 2)) w3) := by rw [hw3]; exact (HX2.out.set hb1 _).set hb1 _
  rw [← hw3]
  clear hw3 HB2 HX2 p0 p1 pf
  go_upto_region 4 with (go_at_call 158; refine (HN2.out _ HX3.out).mono ?_; rintro e w2 ⟨rfl, hx2, ho2⟩; have HX2 : Hid (RdX w0 b (rest.drop 4) (bad || decide (rest.length < 4)) w2) := hx2.more (by omega); have HB2 : Hid (BxS w b 92 [.int .i64 0, .int .i64 0, .int .i64 0, .int .i64 0, .int .i64 0, .int .i64 0, .slice none 0 0, .slice none 0 0] [.int .i64 a0, .int .i64 a1, .int .i64 0, .int .i64 0, .int .i64 0, .int .i64 0, .slice none 0 0, .slice none 0 0] w2) := HB3.out.call hbl ho2; have p0 : w2.cell? ⟨w.heap.size + 1, 2, none⟩ = some (.int .i64 0) := HB2.out.box.cell 2; have p1 : w2.cell? ⟨w.heap.size + 1, 3, none⟩ = some (.int .i64 0) := HB2.out.box.cell 3; have pf : ∀ j, w2.frozen? ⟨w.heap.size + 1, j, none⟩ = false := (fun j => HB2.out.box.frozen j); clear hx2 ho2)
  clear HN2 HB3 HX3
  clear w3
  obtain ⟨w3, hw3⟩ : ∃ w3, w3 = (w2.setCell ⟨w.heap.size + 1, 2, none⟩ (.int .i64 a2)).setCell ⟨w.heap.size + 1, 3, none⟩ (.int .i64 a3) := ⟨_, rfl⟩
  have HB3 : Hid (BxS w b 92 [.int .i64 0, .int .i64 0, .int .i64 0, .int .i64 0, .int .i64 0, .int .i64 0, .slice none 0 0, .slice none 0 0] [.int .i64 a0, .int .i64 a1, .int .i64 a2, .int .i64 a3, .int .i64 0, .int .i64 0, .slice none 0 0, .slice none 0 0] w3) := by rw [hw3]; exact (HB2.out.put 2 (.int .i64 a2)).put 3 (.int .i64 a3)
  have HX3 : Hid (RdX w0 b (rest.drop 4) (bad || decide (rest.length < 4)) w3) := by rw [hw3]; exact (HX2.out.set hb1 _).set hb1 _
  rw [← hw3]
  clear hw3 HB2 HX2 p0 p1 pf
  go_upto_region 5 with (go_at_call 158; refine (HN3.out _ HX3.out).mono ?_; rintro e w2 ⟨rfl, hx2, ho2⟩; have HX2 : Hid (RdX w0 b (rest.drop 6) (bad || decide (rest.length < 6)) w2) := hx2.more (by omega); have HB2 : Hid (BxS w b 92 [.int .i64 0, .int .i64 0, .int .i64 0, .int .i64 0, .int .i64 0, .int .i64 0, .slice none 0 0, .slice none 0 0] [.int .i64 a0, .int .i64 a1, .int .i64 a2, .int .i64 a3, .int .i64 0, .int .i64 0, .slice none 0 0, .slice none 0 0] w2) := HB3.out.call hbl ho2; have p0 : w2.cell? ⟨w.heap.size + 1, 4, none⟩ = some (.int .i64 0) := HB2.out.box.cell 4; have p1 : w2.cell? ⟨w.heap.size + 1, 5, none⟩ = some (.int .i64 0) := HB2.out.box.cell 5; have pf : ∀ j, w2.frozen? ⟨w.heap.size + 1, j, none⟩ = false := (fun j => HB2.out.box.frozen j); clear hx2 ho2)
  clear HN3 HB3 HX3
  clear w3
  obtain ⟨w3, hw3⟩ : ∃ w3, w3 = (w2.setCell ⟨w.heap.size + 1, 4, none⟩ (.int .i64 a4)).setCell ⟨w.heap.size + 1, 5, none⟩ (.int .i64 a5) := ⟨_, rfl⟩
  have HB3 : Hid (BxS w b 92 [.int .i64 0, .int .i64 0, .int .i64 0, .int .i64 0, .int .i64 0, .int .i64 0, .slice none 0 0, .slice none 0 0] [.int .i64 a0, .int .i64 a1, .int .i64 a2, .int .i64 a3, .int .i64 a4, .int .i64 a5, .slice none 0 0, .slice none 0 0] w3) := by rw [hw3]; exact (HB2.out.put 4 (.int .i64 a4)).put 5 (.int .i64 a5)
  have HX3 : Hid (RdX w0 b (rest.drop 6) (bad || decide (rest.length < 6)) w3) := by rw [hw3]; exact (HX2.out.set hb1 _).set hb1 _
  rw [← hw3]
  clear hw3 HB2 HX2 p0 p1 pf
  have HM1 : Hid (Calls Try.prog 159 #[.pointer (some ⟨b, 0, none⟩)] w3 fun e w' => MovesP w0 b (rest.drop 6) (bad || decide (rest.length < 6)) w3 e w') := movesR HX3.out
  have hz3 := HB3.out.box.lt
  go_upto_region 6 with (go_at_call 159; refine HM1.out.mono ?_; rintro e w4 ⟨vb, be, r1, b1, rfl, hob, hrb, hx2, ho2⟩; obtain ⟨bo, bc, hvb⟩ := own_formC hob; subst hvb; have HOB : Hid (w4.ownsRow (w.heap.size + 2) 158 6 (.slice bo be.length bc) be.length (be.flatMap mvC)) := own_mono2 hob hz3; have HRB : Hid (ReadMs (rest.drop 6) (bad || decide (rest.length < 6)) be r1 b1) := hrb; have HX2 : Hid (RdX w0 b r1 b1 w4) := hx2; have HB2 : Hid (BxS w b 92 [.int .i64 0, .int .i64 0, .int .i64 0, .int .i64 0, .int .i64 0, .int .i64 0, .slice none 0 0, .slice none 0 0] [.int .i64 a0, .int .i64 a1, .int .i64 a2, .int .i64 a3, .int .i64 a4, .int .i64 a5, .slice none 0 0, .slice none 0 0] w4) := HB3.out.call hbl ho2; have p6 : w4.cell? ⟨w.heap.size + 1, 6, none⟩ = some (.slice none 0 0) := HB2.out.box.cell 6; have pf : ∀ j, w4.frozen? ⟨w.heap.size + 1, j, none⟩ = false := (fun j => HB2.out.box.frozen j); clear hx2 ho2 hob hrb)
  clear HM1 HB3 HX3 hz3
  obtain ⟨w5, hw5⟩ : ∃ w5, w5 = w4.setCell ⟨w.heap.size + 1, 6, none⟩ (.slice bo be.length bc) := ⟨_, rfl⟩
  have HB5 : Hid (BxS w b 92 [.int .i64 0, .int .i64 0, .int .i64 0, .int .i64 0, .int .i64 0, .int .i64 0, .slice none 0 0, .slice none 0 0] [.int .i64 a0, .int .i64 a1, .int .i64 a2, .int .i64 a3, .int .i64 a4, .int .i64 a5, .slice bo be.length bc, .slice none 0 0] w5) := by rw [hw5]; exact HB2.out.put 6 (.slice bo be.length bc)
  have HX5 : Hid (RdX w0 b r1 b1 w5) := by rw [hw5]; exact HX2.out.set hb1 _
  have HOB5 : Hid (w5.ownsRow (w.heap.size + 2) 158 6 (.slice bo be.length bc) be.length (be.flatMap mvC)) := by rw [hw5]; exact ownsRow_setCell_below HOB.out (by dsimp only; omega) _
  rw [← hw5]
  clear hw5 HB2 HX2 HOB p6 pf
  have HM2 : Hid (Calls Try.prog 159 #[.pointer (some ⟨b, 0, none⟩)] w5 fun e w' => MovesP w0 b r1 b1 w5 e w') := movesR HX5.out
  have hz5 := HB5.out.box.lt
  go_upto_region 7 with (go_at_call 159; refine HM2.out.mono ?_; rintro e w6 ⟨va, af, r2, b2, rfl, hob, hrb, hx2, ho2⟩; obtain ⟨ao, ac, hva⟩ := own_formC hob; subst hva; have HOA : Hid (w6.ownsRow (w.heap.size + 2) 158 6 (.slice ao af.length ac) af.length (af.flatMap mvC)) := own_mono2 hob hz5; have HOB6 : Hid (w6.ownsRow (w.heap.size + 2) 158 6 (.slice bo be.length bc) be.length (be.flatMap mvC)) := own_off HOB5.out (Nat.lt_succ_of_lt hb1) ho2; have HRA : Hid (ReadMs r1 b1 af r2 b2) := hrb; have HX6 : Hid (RdX w0 b r2 b2 w6) := hx2; have HB6 : Hid (BxS w b 92 [.int .i64 0, .int .i64 0, .int .i64 0, .int .i64 0, .int .i64 0, .int .i64 0, .slice none 0 0, .slice none 0 0] [.int .i64 a0, .int .i64 a1, .int .i64 a2, .int .i64 a3, .int .i64 a4, .int .i64 a5, .slice bo be.length bc, .slice none 0 0] w6) := HB5.out.call hbl ho2; have p7 : w6.cell? ⟨w.heap.size + 1, 7, none⟩ = some (.slice none 0 0) := HB6.out.box.cell 7; have pf : ∀ j, w6.frozen? ⟨w.heap.size + 1, j, none⟩ = false := (fun j => HB6.out.box.frozen j); clear hx2 ho2 hob hrb)
  clear HM2 HB5 HX5 HOB5 hz5
  obtain ⟨w7, hw7⟩ : ∃ w7, w7 = w6.setCell ⟨w.heap.size + 1, 7, none⟩ (.slice ao af.length ac) := ⟨_, rfl⟩
  have HB7 : Hid (BxS w b 92 [.int .i64 0, .int .i64 0, .int .i64 0, .int .i64 0, .int .i64 0, .int .i64 0, .slice none 0 0, .slice none 0 0] [.int .i64 a0, .int .i64 a1, .int .i64 a2, .int .i64 a3, .int .i64 a4, .int .i64 a5, .slice bo be.length bc, .slice ao af.length ac] w7) := by rw [hw7]; exact HB6.out.put 7 (.slice ao af.length ac)
  have HX7 : Hid (RdX w0 b r2 b2 w7) := by rw [hw7]; exact HX6.out.set hb1 _
  have HOB7 : Hid (w7.ownsRow (w.heap.size + 2) 158 6 (.slice bo be.length bc) be.length (be.flatMap mvC)) := by rw [hw7]; exact ownsRow_setCell_below HOB6.out (by dsimp only; omega) _
  have HOA7 : Hid (w7.ownsRow (w.heap.size + 2) 158 6 (.slice ao af.length ac) af.length (af.flatMap mvC)) := by rw [hw7]; exact ownsRow_setCell_below HOA.out (by dsimp only; omega) _
  rw [← hw7]
  clear hw7 HB6 HX6 HOB6 HOA p7 pf
  have p0 : w7.cell? ⟨w.heap.size + 1, 0, none⟩ = some (.int .i64 a0) := HB7.out.box.cell 0
  have s0 : w7.cell? ⟨w.heap.size, 0, none⟩ = some (.int .i64 0) := HB7.out.res.cell 0
  have p1 : w7.cell? ⟨w.heap.size + 1, 1, none⟩ = some (.int .i64 a1) := HB7.out.box.cell 1
  have s1 : w7.cell? ⟨w.heap.size, 1, none⟩ = some (.int .i64 0) := HB7.out.res.cell 1
  have p2 : w7.cell? ⟨w.heap.size + 1, 2, none⟩ = some (.int .i64 a2) := HB7.out.box.cell 2
  have s2 : w7.cell? ⟨w.heap.size, 2, none⟩ = some (.int .i64 0) := HB7.out.res.cell 2
  have p3 : w7.cell? ⟨w.heap.size + 1, 3, none⟩ = some (.int .i64 a3) := HB7.out.box.cell 3
  have s3 : w7.cell? ⟨w.heap.size, 3, none⟩ = some (.int .i64 0) := HB7.out.res.cell 3
  have p4 : w7.cell? ⟨w.heap.size + 1, 4, none⟩ = some (.int .i64 a4) := HB7.out.box.cell 4
  have s4 : w7.cell? ⟨w.heap.size, 4, none⟩ = some (.int .i64 0) := HB7.out.res.cell 4
  have p5 : w7.cell? ⟨w.heap.size + 1, 5, none⟩ = some (.int .i64 a5) := HB7.out.box.cell 5
  have s5 : w7.cell? ⟨w.heap.size, 5, none⟩ = some (.int .i64 0) := HB7.out.res.cell 5
  have p6 : w7.cell? ⟨w.heap.size + 1, 6, none⟩ = some (.slice bo be.length bc) := HB7.out.box.cell 6
  have s6 : w7.cell? ⟨w.heap.size, 6, none⟩ = some (.slice none 0 0) := HB7.out.res.cell 6
  have p7 : w7.cell? ⟨w.heap.size + 1, 7, none⟩ = some (.slice ao af.length ac) := HB7.out.box.cell 7
  have s7 : w7.cell? ⟨w.heap.size, 7, none⟩ = some (.slice none 0 0) := HB7.out.res.cell 7
  have sf : ∀ j, w7.frozen? ⟨w.heap.size, j, none⟩ = false := fun j => HB7.out.res.frozen j
  have HST : Hid (∀ (wx : World) (o : Nat) (u : Value), (wx.ownsRow (w.heap.size + 2) 158 6 (.slice bo be.length bc) be.length (be.flatMap mvC) ∧ wx.ownsRow (w.heap.size + 2) 158 6 (.slice ao af.length ac) af.length (af.flatMap mvC) ∧ RdX w0 b r2 b2 wx ∧ OffB b w wx) → ((wx.setCell ⟨w.heap.size, o, none⟩ u).ownsRow (w.heap.size + 2) 158 6 (.slice bo be.length bc) be.length (be.flatMap mvC) ∧ (wx.setCell ⟨w.heap.size, o, none⟩ u).ownsRow (w.heap.size + 2) 158 6 (.slice ao af.length ac) af.length (af.flatMap mvC) ∧ RdX w0 b r2 b2 (wx.setCell ⟨w.heap.size, o, none⟩ u) ∧ OffB b w (wx.setCell ⟨w.heap.size, o, none⟩ u))) := by
    rintro wx o u ⟨g1, g2, g3, g4⟩
    exact ⟨ownsRow_setCell_below g1 (by dsimp only; omega) _, ownsRow_setCell_below g2 (by dsimp only; omega) _, g3.set hbl _, g4.set (Or.inl (Nat.le_refl _)) _⟩
  go_wp2
  have hfin := HST.out _ 7 (.slice ao af.length ac) (HST.out _ 6 (.slice bo be.length bc) (HST.out _ 5 (.int .i64 a5) (HST.out _ 4 (.int .i64 a4) (HST.out _ 3 (.int .i64 a3) (HST.out _ 2 (.int .i64 a2) (HST.out _ 1 (.int .i64 a1) (HST.out _ 0 (.int .i64 a0) ⟨HOB7.out, HOA7.out, HX7.out, HB7.out.off⟩)))))))
  refine bodyPost_ret (v := .agg #[.int .i64 a0, .int .i64 a1, .int .i64 a2, .int .i64 a3, .int .i64 a4, .int .i64 a5, .slice bo be.length bc, .slice ao af.length ac]) ?_ rfl (HFIN.out _ _ be af r2 b2 _ hfin.1 hfin.2.1 ⟨HRB.out.len, HRA.out.len⟩ (HRB.out.row HRA.out) hfin.2.2.1 hfin.2.2.2)
  simp [results, Try.results122, go_sem, s0, s1, s2, s3, s4, s5, s6, s7]

end Go.Proofs.Ytepfegfacdbhbab.form
