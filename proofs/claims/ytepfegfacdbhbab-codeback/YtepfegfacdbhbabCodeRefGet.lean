/- What the document's function that reads places out of bytes (loanbookref11.Get) answers. -/
import Derived.Test.YtepfegfacdbhbabCodeRefRead2
import Derived.Test.YtepfegfacdbhbabCodeRowsOwn
namespace Go.Proofs.Ytepfegfacdbhbab.form
open Go.RowKit
set_option linter.unusedVariables false
attribute [local go_sem ↓] Go.wp_at_zero Go.wp_at_succ

theorem drop_six {bs : List Int} {f : Nat} (h : f + 6 ≤ bs.length) : bs.drop f = bs.getD f 0 :: bs.getD (f + 1) 0 :: bs.getD (f + 2) 0 :: bs.getD (f + 3) 0 :: bs.getD (f + 4) 0 :: bs.getD (f + 5) 0 :: bs.drop (f + 6) := by
  rw [drop_one (f := f) (by omega), drop_one (f := f + 1) (by omega), drop_one (f := f + 1 + 1) (by omega), drop_one (f := f + 1 + 1 + 1) (by omega), drop_one (f := f + 1 + 1 + 1 + 1) (by omega), drop_one (f := f + 1 + 1 + 1 + 1 + 1) (by omega)]
theorem getRows_short : ∀ (n : Nat) (b : List Int), b.length < 6 → getRows (n + 1) b = none
  | n, [], _ => rfl
  | n, [_], _ => rfl
  | n, [_, _], _ => rfl
  | n, [_, _, _], _ => rfl
  | n, [_, _, _, _], _ => rfl
  | n, [_, _, _, _, _], _ => rfl
  | n, _ :: _ :: _ :: _ :: _ :: _ :: b, h => absurd h (by simp only [List.length_cons]; omega)

def endB (s0 : Int) : Option (List LRow × List Int) → Option (Int × List LRow)
  | some (R, []) => some (s0, R)
  | _ => none
theorem getB_cons (s0 n : Int) (b : List Int) : getB (s0 :: n :: b) = endB s0 (getRows n.toNat b) := by
  simp only [getB]
  cases getRows n.toNat b with
  | none => rfl
  | some x =>
    obtain ⟨R, r⟩ := x
    cases r <;> rfl
theorem getB_short : ∀ {bs : List Int}, bs.length < 2 → getB bs = none
  | [], _ => rfl
  | [_], _ => rfl
  | _ :: _ :: _, h => absurd h (by simp only [List.length_cons]; omega)
theorem grown_setC (w : World) (a : Addr) (u : Value) : w.grownBy (w.setCell a u) (some a.block) := ⟨rfl, rfl, rfl, by simp, fun k hk hne => heap_setCell_other w a k u (fun e => hne (by rw [e]))⟩
theorem own_set_far {w : World} {lo : Nat} {e : TypeId} {size n : Nat} {v : Value} {xs : List Value} (h : w.ownsRow lo e size v n xs) {a : Addr} (ha : a.block < lo) (u : Value) : (w.setCell a u).ownsRow lo e size v n xs := by
  refine World.ownsRow.kept h (grown_setC w a u) ?_
  cases hv : v.ownBlock with
  | none => exact Or.inl rfl
  | some k => exact Or.inr (fun e => by have := (World.ownsRow.lt h k hv).1; simp at e; omega)
theorem own_belowC {w w1 : World} {lo : Nat} {e : TypeId} {size n : Nat} {v : Value} {xs : List Value} (h : w.ownsRow lo e size v n xs) (hb : Below w.heap.size w w1) : w1.ownsRow lo e size v n xs :=
  World.ownsRow.kept h ⟨hb.os, hb.tape, hb.output, hb.size, fun j hj _ => hb.block j hj⟩ (row := none) (by cases v.ownBlock <;> simp)

theorem own_mono {w : World} {lo lo' : Nat} {e : TypeId} {size n : Nat} {v : Value} {xs : List Value} (h : w.ownsRow lo e size v n xs) (hb : lo' ≤ lo) : w.ownsRow lo' e size v n xs :=
  ⟨h.1, h.2.imp id (fun ⟨g, cap, cur, e1, hg, hr⟩ => ⟨g, cap, cur, e1, Nat.le_trans hb hg, hr⟩)⟩

/-- What lies there while places are read. -/
structure GI (w : World) (s0 : Int) (L : List (LRow × Value × Value)) (v : Value) (wr : World) : Prop where
  bel : Below w.heap.size w wr
  res : Row wr w.heap.size 42 [.int .i64 0, .slice none 0 0]
  non : Row wr (w.heap.size + 1) 42 [.int .i64 0, .slice none 0 0]
  bx : Row wr (w.heap.size + 1 + 1) 42 [.int .i64 s0, v]
  rw : RW (w.heap.size + 3) L v wr
theorem GI.below {w : World} {s0 : Int} {L : List (LRow × Value × Value)} {v : Value} {wr w1 : World} (h : GI w s0 L v wr) (hb : Below wr.heap.size wr w1) : GI w s0 L v w1 :=
  ⟨step_below hb h.bel, h.res.below hb, h.non.below hb, h.bx.below hb, h.rw.below hb⟩

/-- The answer. -/
def GetAns (w : World) (bs : List Int) (e : Ending) (w' : World) : Prop :=
  Below w.heap.size w w' ∧ ((getB bs = none ∧ e = .returned (.tuple #[.agg #[.int .i64 0, .slice none 0 0], .int .i64 2])) ∨
    ∃ slots L v, getB bs = some (slots, L.map (·.1)) ∧ e = .returned (.tuple #[.agg #[.int .i64 slots, v], .int .i64 0]) ∧ L.length ≤ 255 ∧ RW (w.heap.size + 3) L v w')

set_option maxRecDepth 100000 in
set_option maxHeartbeats 4000000 in
theorem get11 (v : Value) (bs : List Int) (w : World) (h : BytesIs w v bs) : Calls Try.prog 32 #[v] w fun e w' => GetAns w bs e w' := by
  have HBI : Hid (BytesIs w v bs) := h
  obtain ⟨ao, cap, rfl, -, hl, hbd, hc⟩ := h
  have HC : Hid _ := hc
  have HBD : Hid (∀ j, j < bs.length → 0 ≤ bs.getD j 0 ∧ bs.getD j 0 ≤ 255) := hbd
  clear hc hbd
  have z0 : (bs.length : Int) ≤ 9223372036854775807 := by omega
  by_cases h2 : bs.length < 2
  case pos =>
    have z1 : (bs.length : Int) < 2 := by omega
    have HNO : Hid (getB bs = none) := getB_short h2
    go_enter Try.func32, Try.ntmps32
    go_wp2
    refine bodyPost_ret (v := .tuple #[.agg #[.int .i64 0, .slice none 0 0], .int .i64 2]) ?_ rfl ⟨?_, Or.inl ⟨HNO.out, rfl⟩⟩
    rotate_left
    · exact ((Below.refl _ _).alloc (Nat.le_refl _) _).alloc (by simp) _
    · simp [results, Try.results32, go_sem]
  have z1 : ¬ (bs.length : Int) < 2 := by omega
  obtain ⟨b, o, rfl, hbl, hcell⟩ := HC.out (by omega)
  have HCELL : Hid (∀ j, j < bs.length → w.cell? ⟨b, o + j, none⟩ = some (.int .u8 (bs.getD j 0))) := hcell
  have d0 := hcell 0 (by omega)
  have d1 := hcell 1 (by omega)
  obtain ⟨s0, hs0⟩ : ∃ s0, s0 = bs.getD 0 0 := ⟨_, rfl⟩
  obtain ⟨n9, hn9⟩ : ∃ n9 : Nat, (n9 : Int) = bs.getD 1 0 := ⟨(bs.getD 1 0).toNat, by have := (HBD.out 1 (by omega)).1; omega⟩
  obtain ⟨u0, u1⟩ := HBD.out 0 (by omega)
  have hn255 : n9 ≤ 255 := by have := (HBD.out 1 (by omega)).2; omega
  rw [← hs0] at d0 u0 u1
  rw [← hn9] at d1
  have HGB : Hid (getB bs = endB s0 (getRows n9 (bs.drop 2))) := by
    show getB bs = _
    have e : bs = s0 :: (n9 : Int) :: bs.drop 2 := by
      have e1 := drop_one (bs := bs) (f := 0) (by omega)
      have e2 := drop_one (bs := bs) (f := 0 + 1) (by omega)
      rw [List.drop_zero] at e1
      rw [hs0, hn9, ← e2]
      exact e1
    conv => lhs; rw [e]
    rw [getB_cons, Int.toNat_natCast]
  have z4 : (n9 : Int) ≤ 255 := by omega
  have z5 : (0 : Int) ≤ (n9 : Int) := by omega
  have hi0 := info_parts (P := Try.prog) (e := 92) (z := .agg #[.int .i64 0, .int .i64 0, .int .i64 0, .int .i64 0, .int .i64 0, .int .i64 0, .slice none 0 0, .slice none 0 0]) (size := 8) (bytes := 96) (by kernel_rfl)
  obtain ⟨t0', hi0, hy0, hy1, hy2⟩ := hi0
  rw [Nat.add_zero] at d0
  clear hcell HC hs0 hn9
  go_enter Try.func32, Try.ntmps32
  go_wp2
  have HG0 : Hid (GI w s0 [] (.slice none 0 0) (((w.alloc (.cells #[.int .i64 0, .slice none 0 0] 42)).alloc (.cells #[.int .i64 0, .slice none 0 0] 42)).alloc (.cells #[.int .i64 s0, .slice none 0 0] 42))) := by
    refine ⟨(((Below.refl _ _).alloc (Nat.le_refl _) _).alloc (by simp) _).alloc (by simp; omega) _, ((Row.new w _ [.int .i64 0, .slice none 0 0]).alloc _).alloc _, ?_, ?_, ⟨World.ownsRow_nil _ _ _ _, fun x hx => by simp at hx⟩⟩
    · have := (Row.new (w.alloc (.cells #[.int .i64 0, .slice none 0 0] 42)) 42 [.int .i64 0, .slice none 0 0]).alloc (.cells #[.int .i64 s0, .slice none 0 0] 42)
      simpa using this
    · have := Row.new ((w.alloc (.cells #[.int .i64 0, .slice none 0 0] 42)).alloc (.cells #[.int .i64 0, .slice none 0 0] 42)) 42 [.int .i64 s0, .slice none 0 0]
      simpa using this
  go_loopw [6, 7] (fun t6 t7 wr => ∃ (i kk : Nat) (L : List (LRow × Value × Value)) (v : Value), t6 = .int .i64 kk ∧ t7 = .int .i64 i ∧ i ≤ n9 ∧ L.length = i ∧ kk ≤ bs.length ∧ kk ≤ 2 + 5000 * i ∧ GI w s0 L v wr ∧ getRows n9 (bs.drop 2) = (getRows (n9 - i) (bs.drop kk)).map (fun x => (L.map (·.1) ++ x.1, x.2))) (fun _ t7 _ => n9 - (intOf t7).toNat)
  case atStart => exact ⟨0, 2, [], _, rfl, rfl, by omega, rfl, by omega, by omega, HG0.out, by simp⟩
  clear HG0
  case round =>
    obtain ⟨i, kk, L, v, rfl, rfl, hi, hLi, hkk, hkb, hgi, hgr⟩ := hrel
    have HKB : Hid (kk ≤ 2 + 5000 * i) := hkb
    have x9 : (kk : Int) ≤ 1300000 := by omega
    clear hkb
    have HGI : Hid (GI w s0 L v wr) := hgi
    have HGR : Hid (getRows n9 (bs.drop 2) = (getRows (n9 - i) (bs.drop kk)).map (fun x => (L.map (·.1) ++ x.1, x.2))) := hgr
    have HLI : Hid (L.length = i) := hLi
    have d1 := step_cell hgi.bel d1
    have hbl2 : b < wr.heap.size := Nat.lt_of_lt_of_le hbl hgi.bel.size
    obtain ⟨vo, vc, hv⟩ := hgi.rw.form
    subst hv
    have n0 : wr.cell? ⟨w.heap.size + 1, 0, none⟩ = some (.int .i64 0) := hgi.non.cell 0
    have n1 : wr.cell? ⟨w.heap.size + 1, 1, none⟩ = some (.slice none 0 0) := hgi.non.cell 1
    have s00 : wr.cell? ⟨w.heap.size, 0, none⟩ = some (.int .i64 0) := hgi.res.cell 0
    have s01 : wr.cell? ⟨w.heap.size, 1, none⟩ = some (.slice none 0 0) := hgi.res.cell 1
    have g00 := hgi.res.frozen 0
    have g01 := hgi.res.frozen 1
    have x0 : (0 : Int) ≤ (i : Int) := by omega
    have x1 : (kk : Int) ≤ (bs.length : Int) := by omega
    have x2 : (0 : Int) ≤ (kk : Int) := by omega
    clear hgr hLi
    by_cases hlt : i < n9
    case neg =>
      have y1 : ¬ (i : Int) < (n9 : Int) := by omega
      have hgb : getB bs = endB s0 (some (L.map (·.1), bs.drop kk)) := by
        rw [HGB.out, HGR.out, show n9 - i = 0 by omega]
        simp [getRows]
      have b0 : wr.cell? ⟨w.heap.size + 1 + 1, 0, none⟩ = some (.int .i64 s0) := hgi.bx.cell 0
      have b1 : wr.cell? ⟨w.heap.size + 1 + 1, 1, none⟩ = some (.slice vo L.length vc) := hgi.bx.cell 1
      by_cases hend : kk = bs.length
      · have y2 : ((kk : Int) != (bs.length : Int)) = false := by simp [hend]
        have HOK : Hid (getB bs = some (s0, L.map (·.1))) := by show getB bs = _; rw [hgb, hend, List.drop_length]; rfl
        clear hgb hgi hend
        go_wp2
        refine bodyPost_ret (v := .tuple #[.agg #[.int .i64 s0, .slice vo L.length vc], .int .i64 0]) ?_ rfl ⟨?_, Or.inr ⟨s0, L, _, HOK.out, rfl, by have := HLI.out; omega, ?_⟩⟩
        rotate_left
        · exact (HGI.out.bel.setCell (Nat.le_refl _) _).setCell (Nat.le_refl _) _
        · exact (HGI.out.rw.setCell (by simp) _).setCell (by simp) _
        · simp [results, Try.results32, go_sem, s00, s01]
      · have y2 : ((kk : Int) != (bs.length : Int)) = true := by simp; omega
        have HNO : Hid (getB bs = none) := by
          show getB bs = none
          rw [hgb]
          have : bs.drop kk ≠ [] := by intro e; have := congrArg List.length e; rw [List.length_drop] at this; simp at this; omega
          cases he : bs.drop kk with
          | nil => exact absurd he this
          | cons x y => rfl
        clear hgb hgi hend
        go_wp2
        refine bodyPost_ret (v := .tuple #[.agg #[.int .i64 0, .slice none 0 0], .int .i64 2]) ?_ rfl ⟨?_, Or.inl ⟨HNO.out, rfl⟩⟩
        rotate_left
        · exact (HGI.out.bel.setCell (Nat.le_refl _) _).setCell (Nat.le_refl _) _
        · simp [results, Try.results32, go_sem, s00, s01]
    have y1 : (i : Int) < (n9 : Int) := by omega
    by_cases h6 : kk + 6 ≤ bs.length
    case neg =>
      have y2 : (bs.length : Int) < (kk : Int) + 6 := by omega
      have HNO : Hid (getB bs = none) := by
        show getB bs = none
        rw [HGB.out, HGR.out, show n9 - i = (n9 - i - 1) + 1 by omega, getRows_short _ _ (by rw [List.length_drop]; omega)]
        rfl
      clear hgi
      go_wp2
      refine bodyPost_ret (v := .tuple #[.agg #[.int .i64 0, .slice none 0 0], .int .i64 2]) ?_ rfl ⟨?_, Or.inl ⟨HNO.out, rfl⟩⟩
      rotate_left
      · exact (HGI.out.bel.setCell (Nat.le_refl _) _).setCell (Nat.le_refl _) _
      · simp [results, Try.results32, go_sem, s00, s01]
    have y2 : ¬ (bs.length : Int) < (kk : Int) + 6 := by omega
    have HGS : Hid (bs.drop kk = bs.getD kk 0 :: bs.getD (kk + 1) 0 :: bs.getD (kk + 2) 0 :: bs.getD (kk + 3) 0 :: bs.getD (kk + 4) 0 :: bs.getD (kk + 5) 0 :: bs.drop (kk + 6)) := drop_six h6
    have c0 := step_cell hgi.bel (HCELL.out (kk + 0) (by omega))
    obtain ⟨l0, r0⟩ := HBD.out (kk + 0) (by omega)
    obtain ⟨a0, ha0⟩ : ∃ a0, a0 = bs.getD (kk + 0) 0 := ⟨_, rfl⟩
    rw [← ha0] at c0 l0 r0
    have c1 := step_cell hgi.bel (HCELL.out (kk + 1) (by omega))
    obtain ⟨l1, r1⟩ := HBD.out (kk + 1) (by omega)
    obtain ⟨a1, ha1⟩ : ∃ a1, a1 = bs.getD (kk + 1) 0 := ⟨_, rfl⟩
    rw [← ha1] at c1 l1 r1
    have c2 := step_cell hgi.bel (HCELL.out (kk + 2) (by omega))
    obtain ⟨l2, r2⟩ := HBD.out (kk + 2) (by omega)
    obtain ⟨a2, ha2⟩ : ∃ a2, a2 = bs.getD (kk + 2) 0 := ⟨_, rfl⟩
    rw [← ha2] at c2 l2 r2
    have c3 := step_cell hgi.bel (HCELL.out (kk + 3) (by omega))
    obtain ⟨l3, r3⟩ := HBD.out (kk + 3) (by omega)
    obtain ⟨a3, ha3⟩ : ∃ a3, a3 = bs.getD (kk + 3) 0 := ⟨_, rfl⟩
    rw [← ha3] at c3 l3 r3
    have c4 := step_cell hgi.bel (HCELL.out (kk + 4) (by omega))
    obtain ⟨l4, r4⟩ := HBD.out (kk + 4) (by omega)
    obtain ⟨a4, ha4⟩ : ∃ a4, a4 = bs.getD (kk + 4) 0 := ⟨_, rfl⟩
    rw [← ha4] at c4 l4 r4
    have c5 := step_cell hgi.bel (HCELL.out (kk + 5) (by omega))
    obtain ⟨l5, r5⟩ := HBD.out (kk + 5) (by omega)
    obtain ⟨a5, ha5⟩ : ∃ a5, a5 = bs.getD (kk + 5) 0 := ⟨_, rfl⟩
    rw [← ha5] at c5 l5 r5
    rw [Nat.add_zero] at c0 ha0
    rw [← ha0, ← ha1, ← ha2, ← ha3, ← ha4, ← ha5] at HGS
    have g0 : kk < bs.length := by omega
    have hj1 : kk + 1 < bs.length := by omega
    have hj2 : kk + 2 < bs.length := by omega
    have hj3 : kk + 3 < bs.length := by omega
    have hj4 : kk + 4 < bs.length := by omega
    have hj5 : kk + 5 < bs.length := by omega
    have hz9 : w.heap.size + 1 + 1 < wr.heap.size := hgi.bx.lt
    clear hgi ha0 ha1 ha2 ha3 ha4 ha5
    go_wp2
    have hw1x : IntKind.i64.wrap ((kk : Int) + 1) = ((kk + 1 : Nat) : Int) := idx_of hj1 hl
    have qx1 : (0 : Int) ≤ (kk : Int) + 1 ∧ (kk : Int) + 1 < (bs.length : Int) := idx_in hj1
    have qt1 : ((kk : Int) + 1).toNat = kk + 1 := idx_nat kk 1
    have hw2x : IntKind.i64.wrap ((kk : Int) + 2) = ((kk + 2 : Nat) : Int) := idx_of hj2 hl
    have qx2 : (0 : Int) ≤ (kk : Int) + 2 ∧ (kk : Int) + 2 < (bs.length : Int) := idx_in hj2
    have qt2 : ((kk : Int) + 2).toNat = kk + 2 := idx_nat kk 2
    have hw3x : IntKind.i64.wrap ((kk : Int) + 3) = ((kk + 3 : Nat) : Int) := idx_of hj3 hl
    have qx3 : (0 : Int) ≤ (kk : Int) + 3 ∧ (kk : Int) + 3 < (bs.length : Int) := idx_in hj3
    have qt3 : ((kk : Int) + 3).toNat = kk + 3 := idx_nat kk 3
    have hw4x : IntKind.i64.wrap ((kk : Int) + 4) = ((kk + 4 : Nat) : Int) := idx_of hj4 hl
    have qx4 : (0 : Int) ≤ (kk : Int) + 4 ∧ (kk : Int) + 4 < (bs.length : Int) := idx_in hj4
    have qt4 : ((kk : Int) + 4).toNat = kk + 4 := idx_nat kk 4
    have hw5x : IntKind.i64.wrap ((kk : Int) + 5) = ((kk + 5 : Nat) : Int) := idx_of hj5 hl
    have qx5 : (0 : Int) ≤ (kk : Int) + 5 ∧ (kk : Int) + 5 < (bs.length : Int) := idx_in hj5
    have qt5 : ((kk : Int) + 5).toNat = kk + 5 := idx_nat kk 5
    have wa0 : IntKind.i64.wrap a0 = a0 := wrap64 l0 (Int.le_trans r0 (by decide))
    have wa1 : IntKind.i64.wrap a1 = a1 := wrap64 l1 (Int.le_trans r1 (by decide))
    have wa2 : IntKind.i64.wrap a2 = a2 := wrap64 l2 (Int.le_trans r2 (by decide))
    have wa3 : IntKind.i64.wrap a3 = a3 := wrap64 l3 (Int.le_trans r3 (by decide))
    have wa4 : IntKind.i64.wrap a4 = a4 := wrap64 l4 (Int.le_trans r4 (by decide))
    have wa5 : IntKind.i64.wrap a5 = a5 := wrap64 l5 (Int.le_trans r5 (by decide))
    refine wp_region_held_drew (S := (fun w' => Below wr.heap.size wr w' ∧ w'.cell? ⟨b, o + kk, none⟩ = some (.int .u8 a0) ∧ w'.cell? ⟨b, o + (kk + 1), none⟩ = some (.int .u8 a1) ∧ w'.cell? ⟨b, o + (kk + 2), none⟩ = some (.int .u8 a2) ∧ w'.cell? ⟨b, o + (kk + 3), none⟩ = some (.int .u8 a3) ∧ w'.cell? ⟨b, o + (kk + 4), none⟩ = some (.int .u8 a4) ∧ w'.cell? ⟨b, o + (kk + 5), none⟩ = some (.int .u8 a5))) (by rfl) ?_ (fun hHeld => ?_)
    · (exact ⟨(Below.refl wr.heap.size wr).drew, step_cell ((Below.refl wr.heap.size wr).drew) c0, step_cell ((Below.refl wr.heap.size wr).drew) c1, step_cell ((Below.refl wr.heap.size wr).drew) c2, step_cell ((Below.refl wr.heap.size wr).drew) c3, step_cell ((Below.refl wr.heap.size wr).drew) c4, step_cell ((Below.refl wr.heap.size wr).drew) c5⟩)
    refine wpAnyH_take (i := 0) (v := ?_) rfl (by kernel_rfl) (by kernel_rfl) (by kernel_rfl) (fun _ _ _ h => h) (Or.inl ⟨by rfl, ?_⟩) (by assumption) ?_
    case refine_2 => (intro w hSw; (try dsimp only at hSw); go_simp; first | done | (with_reducible rfl))
    show wpAnyH _ _ _ _ _ _ _ (Act.put _ (some 33) _) _
    simp only [Act.put, List.setIfInBounds_toArray, List.set_cons_zero, List.set_cons_succ]
    refine wpAnyH_take (i := 1) (v := ?_) rfl (by kernel_rfl) (by kernel_rfl) (by kernel_rfl) (fun _ _ _ h => h) (Or.inl ⟨by rfl, ?_⟩) (by assumption) ?_
    case refine_2 => (intro w hSw; (try dsimp only at hSw); go_simp; first | done | (with_reducible rfl))
    show wpAnyH _ _ _ _ _ _ _ (Act.put _ (some 34) _) _
    simp only [Act.put, List.setIfInBounds_toArray, List.set_cons_zero, List.set_cons_succ]
    refine wpAnyH_take (i := 2) (v := ?_) rfl (by kernel_rfl) (by kernel_rfl) (by kernel_rfl) (fun _ _ _ h => h) (Or.inl ⟨by rfl, ?_⟩) (by assumption) ?_
    case refine_2 => (intro w hSw; (try dsimp only at hSw); go_simp; first | done | (with_reducible rfl))
    show wpAnyH _ _ _ _ _ _ _ (Act.put _ (some 35) _) _
    simp only [Act.put, List.setIfInBounds_toArray, List.set_cons_zero, List.set_cons_succ]
    refine wpAnyH_take (i := 3) (v := ?_) rfl (by kernel_rfl) (by kernel_rfl) (by kernel_rfl) (fun _ _ _ h => h) (Or.inl ⟨by rfl, ?_⟩) (by assumption) ?_
    case refine_2 => (intro w hSw; (try dsimp only at hSw); go_simp; first | done | (with_reducible rfl))
    show wpAnyH _ _ _ _ _ _ _ (Act.put _ (some 36) _) _
    simp only [Act.put, List.setIfInBounds_toArray, List.set_cons_zero, List.set_cons_succ]
    refine wpAnyH_take (i := 4) (v := ?_) rfl (by kernel_rfl) (by kernel_rfl) (by kernel_rfl) (fun _ _ _ h => h) (Or.inl ⟨by rfl, ?_⟩) (by assumption) ?_
    case refine_2 => (intro w hSw; (try dsimp only at hSw); go_simp; first | done | (with_reducible rfl))
    show wpAnyH _ _ _ _ _ _ _ (Act.put _ (some 37) _) _
    simp only [Act.put, List.setIfInBounds_toArray, List.set_cons_zero, List.set_cons_succ]
    refine wpAnyH_take (i := 5) (v := ?_) rfl (by kernel_rfl) (by kernel_rfl) (by kernel_rfl) (fun _ _ _ h => h) (Or.inl ⟨by rfl, ?_⟩) (by assumption) ?_
    case refine_2 => (intro w hSw; (try dsimp only at hSw); go_simp; first | done | (with_reducible rfl))
    show wpAnyH _ _ _ _ _ _ _ (Act.put _ (some 38) _) _
    simp only [Act.put, List.setIfInBounds_toArray, List.set_cons_zero, List.set_cons_succ]
    refine wpAnyH_take (i := 6) (v := ?_) rfl (by kernel_rfl) (by kernel_rfl) (by kernel_rfl) (fun _ _ _ h => h) (Or.inl ⟨by rfl, ?_⟩) (by assumption) ?_
    case refine_2 => (intro w hSw; (try dsimp only at hSw); go_simp; first | done | (with_reducible rfl))
    show wpAnyH _ _ _ _ _ _ _ (Act.put _ (some 39) _) _
    simp only [Act.put, List.setIfInBounds_toArray, List.set_cons_zero, List.set_cons_succ]
    refine wpAnyH_take (i := 7) (v := ?_) rfl (by kernel_rfl) (by kernel_rfl) (by kernel_rfl) (fun _ _ _ h => h) (Or.inl ⟨by rfl, ?_⟩) (by assumption) ?_
    case refine_2 => (intro w hSw; (try dsimp only at hSw); go_simp; first | done | (with_reducible rfl))
    show wpAnyH _ _ _ _ _ _ _ (Act.put _ (some 40) _) _
    simp only [Act.put, List.setIfInBounds_toArray, List.set_cons_zero, List.set_cons_succ]
    refine wpAnyH_take (i := 8) (v := ?_) rfl (by kernel_rfl) (by kernel_rfl) (by kernel_rfl) (fun _ _ _ h => h) (Or.inl ⟨by rfl, ?_⟩) (by assumption) ?_
    case refine_2 => (intro w hSw; (try dsimp only at hSw); go_simp; first | done | (with_reducible rfl))
    show wpAnyH _ _ _ _ _ _ _ (Act.put _ (some 41) _) _
    simp only [Act.put, List.setIfInBounds_toArray, List.set_cons_zero, List.set_cons_succ]
    refine wpAnyH_take (i := 9) (v := ?_) rfl (by kernel_rfl) (by kernel_rfl) (by kernel_rfl) (fun _ _ _ h => h) (Or.inl ⟨by rfl, ?_⟩) (by assumption) ?_
    case refine_2 => (intro w hSw; (try dsimp only at hSw); go_simp; first | done | (with_reducible rfl))
    show wpAnyH _ _ _ _ _ _ _ (Act.put _ (some 42) _) _
    simp only [Act.put, List.setIfInBounds_toArray, List.set_cons_zero, List.set_cons_succ]
    refine wpAnyH_take (i := 10) (v := ?_) rfl (by kernel_rfl) (by kernel_rfl) (by kernel_rfl) (fun _ _ _ h => h) (Or.inl ⟨by rfl, ?_⟩) (by assumption) ?_
    case refine_2 => (intro w hSw; (try dsimp only at hSw); go_simp; first | done | (with_reducible rfl))
    show wpAnyH _ _ _ _ _ _ _ (Act.put _ (some 43) _) _
    simp only [Act.put, List.setIfInBounds_toArray, List.set_cons_zero, List.set_cons_succ]
    refine wpAnyH_take (i := 11) (v := ?_) rfl (by kernel_rfl) (by kernel_rfl) (by kernel_rfl) (fun _ _ _ h => h) (Or.inl ⟨by rfl, ?_⟩) (by assumption) ?_
    case refine_2 => (intro w hSw; (try dsimp only at hSw); go_simp; first | done | (with_reducible rfl))
    show wpAnyH _ _ _ _ _ _ _ (Act.put _ (some 44) _) _
    simp only [Act.put, List.setIfInBounds_toArray, List.set_cons_zero, List.set_cons_succ]
    refine wpAnyH_take (i := 12) (v := ?_) rfl (by kernel_rfl) (by kernel_rfl) (by kernel_rfl) (fun _ _ _ h => h) (Or.inl ⟨by rfl, ?_⟩) (by assumption) ?_
    case refine_2 => (intro w hSw; (try dsimp only at hSw); go_simp; first | done | (with_reducible rfl))
    show wpAnyH _ _ _ _ _ _ _ (Act.put _ (some 45) _) _
    simp only [Act.put, List.setIfInBounds_toArray, List.set_cons_zero, List.set_cons_succ]
    refine wpAnyH_take (i := 13) (v := ?_) rfl (by kernel_rfl) (by kernel_rfl) (by kernel_rfl) (fun _ _ _ h => h) (Or.inl ⟨by rfl, ?_⟩) (by assumption) ?_
    case refine_2 => (intro w hSw; (try dsimp only at hSw); go_simp; first | done | (with_reducible rfl))
    show wpAnyH _ _ _ _ _ _ _ (Act.put _ (some 46) _) _
    simp only [Act.put, List.setIfInBounds_toArray, List.set_cons_zero, List.set_cons_succ]
    refine wpAnyH_take (i := 14) (v := ?_) rfl (by kernel_rfl) (by kernel_rfl) (by kernel_rfl) (fun _ _ _ h => h) (Or.inl ⟨by rfl, ?_⟩) (by assumption) ?_
    case refine_2 => (intro w hSw; (try dsimp only at hSw); go_simp; first | done | (with_reducible rfl))
    show wpAnyH _ _ _ _ _ _ _ (Act.put _ (some 47) _) _
    simp only [Act.put, List.setIfInBounds_toArray, List.set_cons_zero, List.set_cons_succ]
    refine wpAnyH_take (i := 15) (v := ?_) rfl (by kernel_rfl) (by kernel_rfl) (by kernel_rfl) (fun _ _ _ h => h) (Or.inl ⟨by rfl, ?_⟩) (by assumption) ?_
    case refine_2 => (intro w hSw; (try dsimp only at hSw); go_simp; first | done | (with_reducible rfl))
    show wpAnyH _ _ _ _ _ _ _ (Act.put _ (some 48) _) _
    simp only [Act.put, List.setIfInBounds_toArray, List.set_cons_zero, List.set_cons_succ]
    refine wpAnyH_take (i := 16) (v := ?_) rfl (by kernel_rfl) (by kernel_rfl) (by kernel_rfl) (fun _ _ _ h => h) (Or.inl ⟨by rfl, ?_⟩) (by assumption) ?_
    case refine_2 => (intro w hSw; (try dsimp only at hSw); go_simp; first | done | (with_reducible rfl))
    show wpAnyH _ _ _ _ _ _ _ (Act.put _ (some 49) _) _
    simp only [Act.put, List.setIfInBounds_toArray, List.set_cons_zero, List.set_cons_succ]
    refine wpAnyH_take (i := 17) (v := ?_) rfl (by kernel_rfl) (by kernel_rfl) (by kernel_rfl) (fun _ _ _ h => h) (Or.inl ⟨by rfl, ?_⟩) (by assumption) ?_
    case refine_2 => (intro w hSw; (try dsimp only at hSw); go_simp; first | done | (with_reducible rfl))
    show wpAnyH _ _ _ _ _ _ _ (Act.put _ (some 50) _) _
    simp only [Act.put, List.setIfInBounds_toArray, List.set_cons_zero, List.set_cons_succ]
    refine wpAnyH_take (i := 18) (v := ?_) rfl (by kernel_rfl) (by kernel_rfl) (by kernel_rfl) (fun _ _ _ h => h) (Or.inl ⟨by rfl, ?_⟩) (by assumption) ?_
    case refine_2 => (intro w hSw; (try dsimp only at hSw); go_simp; first | done | (with_reducible rfl))
    show wpAnyH _ _ _ _ _ _ _ (Act.put _ (some 51) _) _
    simp only [Act.put, List.setIfInBounds_toArray, List.set_cons_zero, List.set_cons_succ]
    refine wpAnyH_take (i := 19) (v := ?_) rfl (by kernel_rfl) (by kernel_rfl) (by kernel_rfl) (fun _ _ _ h => h) (Or.inl ⟨by rfl, ?_⟩) (by assumption) ?_
    case refine_2 => (intro w hSw; (try dsimp only at hSw); go_simp; first | done | (with_reducible rfl))
    show wpAnyH _ _ _ _ _ _ _ (Act.put _ (some 52) _) _
    simp only [Act.put, List.setIfInBounds_toArray, List.set_cons_zero, List.set_cons_succ]
    refine wpAnyH_take (i := 20) (v := ?_) rfl (by kernel_rfl) (by kernel_rfl) (by kernel_rfl) (fun _ _ _ h => h) (Or.inl ⟨by rfl, ?_⟩) (by assumption) ?_
    case refine_2 => (intro w hSw; (try dsimp only at hSw); go_simp; first | done | (with_reducible rfl))
    show wpAnyH _ _ _ _ _ _ _ (Act.put _ (some 53) _) _
    simp only [Act.put, List.setIfInBounds_toArray, List.set_cons_zero, List.set_cons_succ]
    refine wpAnyH_take (i := 21) (v := ?_) rfl (by kernel_rfl) (by kernel_rfl) (by kernel_rfl) (fun _ _ _ h => h) (Or.inl ⟨by rfl, ?_⟩) (by assumption) ?_
    case refine_2 => (intro w hSw; (try dsimp only at hSw); go_simp; first | done | (with_reducible rfl))
    show wpAnyH _ _ _ _ _ _ _ (Act.put _ (some 54) _) _
    simp only [Act.put, List.setIfInBounds_toArray, List.set_cons_zero, List.set_cons_succ]
    refine wpAnyH_take (i := 22) (v := ?_) rfl (by kernel_rfl) (by kernel_rfl) (by kernel_rfl) (fun _ _ _ h => h) (Or.inl ⟨by rfl, ?_⟩) (by assumption) ?_
    case refine_2 => (intro w hSw; (try dsimp only at hSw); go_simp; first | done | (with_reducible rfl))
    show wpAnyH _ _ _ _ _ _ _ (Act.put _ (some 55) _) _
    simp only [Act.put, List.setIfInBounds_toArray, List.set_cons_zero, List.set_cons_succ]
    refine wpAnyH_take (i := 23) (v := ?_) rfl (by kernel_rfl) (by kernel_rfl) (by kernel_rfl) (fun _ _ _ h => h) (Or.inl ⟨by rfl, ?_⟩) (by assumption) ?_
    case refine_2 => (intro w hSw; (try dsimp only at hSw); go_simp; first | done | (with_reducible rfl))
    show wpAnyH _ _ _ _ _ _ _ (Act.put _ (some 56) _) _
    simp only [Act.put, List.setIfInBounds_toArray, List.set_cons_zero, List.set_cons_succ]
    refine wpAnyH_take (i := 24) (v := ?_) rfl (by kernel_rfl) (by kernel_rfl) (by kernel_rfl) (fun _ _ _ h => h) (Or.inl ⟨by rfl, ?_⟩) (by assumption) ?_
    case refine_2 => (intro w hSw; (try dsimp only at hSw); go_simp; first | done | (with_reducible rfl))
    show wpAnyH _ _ _ _ _ _ _ (Act.put _ (some 57) _) _
    simp only [Act.put, List.setIfInBounds_toArray, List.set_cons_zero, List.set_cons_succ]
    refine wpAnyH_take (i := 25) (v := ?_) rfl (by kernel_rfl) (by kernel_rfl) (by kernel_rfl) (fun _ _ _ h => h) (Or.inl ⟨by rfl, ?_⟩) (by assumption) ?_
    case refine_2 => (intro w hSw; (try dsimp only at hSw); go_simp; first | done | (with_reducible rfl))
    show wpAnyH _ _ _ _ _ _ _ (Act.put _ (some 58) _) _
    simp only [Act.put, List.setIfInBounds_toArray, List.set_cons_zero, List.set_cons_succ]
    refine wpAnyH_take (i := 26) (v := ?_) rfl (by kernel_rfl) (by kernel_rfl) (by kernel_rfl) (fun _ _ _ h => h) (Or.inl ⟨by rfl, ?_⟩) (by assumption) ?_
    case refine_2 => (intro w hSw; (try dsimp only at hSw); go_simp; first | done | (with_reducible rfl))
    show wpAnyH _ _ _ _ _ _ _ (Act.put _ (some 59) _) _
    simp only [Act.put, List.setIfInBounds_toArray, List.set_cons_zero, List.set_cons_succ]
    refine wpAnyH_take (i := 27) (v := ?_) rfl (by kernel_rfl) (by kernel_rfl) (by kernel_rfl) (fun _ _ _ h => h) (Or.inl ⟨by rfl, ?_⟩) (by assumption) ?_
    case refine_2 => (intro w hSw; (try dsimp only at hSw); go_simp; first | done | (with_reducible rfl))
    show wpAnyH _ _ _ _ _ _ _ (Act.put _ (some 60) _) _
    simp only [Act.put, List.setIfInBounds_toArray, List.set_cons_zero, List.set_cons_succ]
    refine wpAnyH_take (i := 28) (v := ?_) rfl (by kernel_rfl) (by kernel_rfl) (by kernel_rfl) (fun _ _ _ h => h) (Or.inl ⟨by rfl, ?_⟩) (by assumption) ?_
    case refine_2 => (intro w hSw; (try dsimp only at hSw); go_simp; first | done | (with_reducible rfl))
    show wpAnyH _ _ _ _ _ _ _ (Act.put _ (some 61) _) _
    simp only [Act.put, List.setIfInBounds_toArray, List.set_cons_zero, List.set_cons_succ]
    refine wpAnyH_take (i := 29) (v := ?_) rfl (by kernel_rfl) (by kernel_rfl) (by kernel_rfl) (fun _ _ _ h => h) (Or.inl ⟨by rfl, ?_⟩) (by assumption) ?_
    case refine_2 => (intro w hSw; (try dsimp only at hSw); go_simp; first | done | (with_reducible rfl))
    show wpAnyH _ _ _ _ _ _ _ (Act.put _ (some 62) _) _
    simp only [Act.put, List.setIfInBounds_toArray, List.set_cons_zero, List.set_cons_succ]
    refine wpAnyH_take (i := 30) (v := ?_) rfl (by kernel_rfl) (by kernel_rfl) (by kernel_rfl) (fun _ _ _ h => h) (Or.inl ⟨by rfl, ?_⟩) (by assumption) ?_
    case refine_2 => (intro w hSw; (try dsimp only at hSw); go_simp; first | done | (with_reducible rfl))
    show wpAnyH _ _ _ _ _ _ _ (Act.put _ (some 63) _) _
    simp only [Act.put, List.setIfInBounds_toArray, List.set_cons_zero, List.set_cons_succ]
    refine wpAnyH_take (i := 31) (v := ?_) rfl (by kernel_rfl) (by kernel_rfl) (by kernel_rfl) (fun _ _ _ h => h) (Or.inl ⟨by rfl, ?_⟩) (by assumption) ?_
    case refine_2 => (intro w hSw; (try dsimp only at hSw); go_simp; first | done | (with_reducible rfl))
    show wpAnyH _ _ _ _ _ _ _ (Act.put _ (some 64) _) _
    simp only [Act.put, List.setIfInBounds_toArray, List.set_cons_zero, List.set_cons_succ]
    refine wpAnyH_take (i := 32) (v := ?_) rfl (by kernel_rfl) (by kernel_rfl) (by kernel_rfl) (fun _ _ _ h => h) (Or.inl ⟨by rfl, ?_⟩) (by assumption) ?_
    case refine_2 => (intro w hSw; (try dsimp only at hSw); go_simp; first | done | (with_reducible rfl))
    show wpAnyH _ _ _ _ _ _ _ (Act.put _ (some 65) _) _
    simp only [Act.put, List.setIfInBounds_toArray, List.set_cons_zero, List.set_cons_succ]
    refine wpAnyH_take (i := 33) (v := ?_) rfl (by kernel_rfl) (by kernel_rfl) (by kernel_rfl) (fun _ _ _ h => h) (Or.inl ⟨by rfl, ?_⟩) (by assumption) ?_
    case refine_2 => (intro w hSw; (try dsimp only at hSw); go_simp; first | done | (with_reducible rfl))
    show wpAnyH _ _ _ _ _ _ _ (Act.put _ (some 66) _) _
    simp only [Act.put, List.setIfInBounds_toArray, List.set_cons_zero, List.set_cons_succ]
    refine wpAnyH_take (i := 34) (v := ?_) rfl (by kernel_rfl) (by kernel_rfl) (by kernel_rfl) (fun _ _ _ h => h) (Or.inl ⟨by rfl, ?_⟩) (by assumption) ?_
    case refine_2 => (intro w hSw; (try dsimp only at hSw); go_simp; first | done | (with_reducible rfl))
    show wpAnyH _ _ _ _ _ _ _ (Act.put _ (some 67) _) _
    simp only [Act.put, List.setIfInBounds_toArray, List.set_cons_zero, List.set_cons_succ]
    refine wpAnyH_take (i := 35) (v := ?_) rfl (by kernel_rfl) (by kernel_rfl) (by kernel_rfl) (fun _ _ _ h => h) (Or.inl ⟨by rfl, ?_⟩) (by assumption) ?_
    case refine_2 => (intro w hSw; (try dsimp only at hSw); go_simp; first | done | (with_reducible rfl))
    show wpAnyH _ _ _ _ _ _ _ (Act.put _ (some 68) _) _
    simp only [Act.put, List.setIfInBounds_toArray, List.set_cons_zero, List.set_cons_succ]
    refine wpAnyH_take (i := 36) (v := ?_) rfl (by kernel_rfl) (by kernel_rfl) (by kernel_rfl) (fun _ _ _ h => h) (Or.inl ⟨by rfl, ?_⟩) (by assumption) ?_
    case refine_2 => (intro w hSw; (try dsimp only at hSw); go_simp; first | done | (with_reducible rfl))
    show wpAnyH _ _ _ _ _ _ _ (Act.put _ (some 69) _) _
    simp only [Act.put, List.setIfInBounds_toArray, List.set_cons_zero, List.set_cons_succ]
    refine wpAnyH_take (i := 37) (v := ?_) rfl (by kernel_rfl) (by kernel_rfl) (by kernel_rfl) (fun _ _ _ h => h) (Or.inl ⟨by rfl, ?_⟩) (by assumption) ?_
    case refine_2 => (intro w hSw; (try dsimp only at hSw); go_simp; first | done | (with_reducible rfl))
    show wpAnyH _ _ _ _ _ _ _ (Act.put _ (some 70) _) _
    simp only [Act.put, List.setIfInBounds_toArray, List.set_cons_zero, List.set_cons_succ]
    refine wpAnyH_take (i := 38) (v := ?_) rfl (by kernel_rfl) (by kernel_rfl) (by kernel_rfl) (fun _ _ _ h => h) (Or.inl ⟨by rfl, ?_⟩) (by assumption) ?_
    case refine_2 => (intro w hSw; (try dsimp only at hSw); go_simp; first | done | (with_reducible rfl))
    show wpAnyH _ _ _ _ _ _ _ (Act.put _ (some 71) _) _
    simp only [Act.put, List.setIfInBounds_toArray, List.set_cons_zero, List.set_cons_succ]
    refine wpAnyH_ready (rs := [39]) (by kernel_rfl) (by simp) ?_
    refine (AllReadyH.cons rfl (fun K hK => ?_) AllReadyH.nil)
    go_simp
    refine hK.out _ _ ?_ (fun hHeld => ?_)
    · (exact ⟨((Below.refl wr.heap.size wr).drew).alloc (Nat.le_refl _) _, step_cell (((Below.refl wr.heap.size wr).drew).alloc (Nat.le_refl _) _) c0, step_cell (((Below.refl wr.heap.size wr).drew).alloc (Nat.le_refl _) _) c1, step_cell (((Below.refl wr.heap.size wr).drew).alloc (Nat.le_refl _) _) c2, step_cell (((Below.refl wr.heap.size wr).drew).alloc (Nat.le_refl _) _) c3, step_cell (((Below.refl wr.heap.size wr).drew).alloc (Nat.le_refl _) _) c4, step_cell (((Below.refl wr.heap.size wr).drew).alloc (Nat.le_refl _) _) c5⟩)
    clear hK K
    try simp only [Act.put, List.setIfInBounds_toArray, List.set_cons_zero, List.set_cons_succ]
    refine wpAnyH_ready (rs := [40]) (by kernel_rfl) (by simp) ?_
    refine (AllReadyH.cons rfl (fun K hK => ?_) AllReadyH.nil)
    go_simp
    refine hK.out _ _ ?_ (fun hHeld => ?_)
    · (exact ⟨((Below.refl wr.heap.size wr).drew).alloc (Nat.le_refl _) _, step_cell (((Below.refl wr.heap.size wr).drew).alloc (Nat.le_refl _) _) c0, step_cell (((Below.refl wr.heap.size wr).drew).alloc (Nat.le_refl _) _) c1, step_cell (((Below.refl wr.heap.size wr).drew).alloc (Nat.le_refl _) _) c2, step_cell (((Below.refl wr.heap.size wr).drew).alloc (Nat.le_refl _) _) c3, step_cell (((Below.refl wr.heap.size wr).drew).alloc (Nat.le_refl _) _) c4, step_cell (((Below.refl wr.heap.size wr).drew).alloc (Nat.le_refl _) _) c5⟩)
    clear hK K
    try simp only [Act.put, List.setIfInBounds_toArray, List.set_cons_zero, List.set_cons_succ]
    refine wpAnyH_done (by kernel_rfl) ?_ _
    clear hHeld
    clear hw1x qx1 qt1 hw2x qx2 qt2 hw3x qx3 qt3 hw4x qx4 qt4 hw5x qx5 qt5 wa0 wa1 wa2 wa3 wa4 wa5
    obtain ⟨wy, hwy⟩ : ∃ wy, wy = (wr.alloc (.cells #[.int .i64 a0, .int .i64 a1, .int .i64 a2, .int .i64 a3, .int .i64 a4, .int .i64 a5, .slice none 0 0, .slice none 0 0] 92)).drew := ⟨_, rfl⟩
    rw [← hwy]
    have HBY : Hid (Below wr.heap.size wr wy) := by rw [hwy]; exact ((Below.refl _ _).alloc (Nat.le_refl _) _).drew
    have HRY : Hid (Row wy wr.heap.size 92 [.int .i64 a0, .int .i64 a1, .int .i64 a2, .int .i64 a3, .int .i64 a4, .int .i64 a5, .slice none 0 0, .slice none 0 0]) := by rw [hwy]; exact (Row.new wr _ [.int .i64 a0, .int .i64 a1, .int .i64 a2, .int .i64 a3, .int .i64 a4, .int .i64 a5, .slice none 0 0, .slice none 0 0]).drew
    have hzy : wr.heap.size < wy.heap.size := HRY.out.lt
    obtain ⟨H, hH⟩ : ∃ H, H = wr.heap.size := ⟨_, rfl⟩
    rw [← hH] at HRY hzy
    rw [← hH]
    have HH : Hid (H = wr.heap.size) := hH
    obtain ⟨k6, hk6⟩ : ∃ k6 : Nat, k6 = kk + 6 := ⟨_, rfl⟩
    have HK6 : Hid (k6 = kk + 6) := hk6
    have hk6i : (kk : Int) + 6 = (k6 : Int) := by omega
    have HGIY : Hid (GI w s0 L (.slice vo L.length vc) wy) := HGI.out.below HBY.out
    clear hwy c0 c1 c2 c3 c4 c5 n0 n1 s00 s01 g00 g01 d1 hk6 hH
    go_wp2_with fail
    go_at_call 71
    refine (read11 _ bs k6 _ (HBI.out.later HGIY.out.bel) (by have := HK6.out; have := HKB.out; omega)).mono ?_
    rintro e wa ⟨hba, hans⟩
    have HBA : Hid (Below wy.heap.size wy wa) := hba
    have HGIA : Hid (GI w s0 L (.slice vo L.length vc) wa) := HGIY.out.below hba
    have hRA := HRY.out.below hba
    have HRA : Hid (Row wa H 92 [.int .i64 a0, .int .i64 a1, .int .i64 a2, .int .i64 a3, .int .i64 a4, .int .i64 a5, .slice none 0 0, .slice none 0 0]) := hRA
    have r6 : wa.cell? ⟨H, 6, none⟩ = some (.slice none 0 0) := hRA.cell 6
    have f6 := hRA.frozen 6
    have hlH : H < wa.heap.size := hRA.lt
    have n0 : wa.cell? ⟨w.heap.size + 1, 0, none⟩ = some (.int .i64 0) := HGIA.out.non.cell 0
    have n1 : wa.cell? ⟨w.heap.size + 1, 1, none⟩ = some (.slice none 0 0) := HGIA.out.non.cell 1
    have s00 : wa.cell? ⟨w.heap.size, 0, none⟩ = some (.int .i64 0) := HGIA.out.res.cell 0
    have s01 : wa.cell? ⟨w.heap.size, 1, none⟩ = some (.slice none 0 0) := HGIA.out.res.cell 1
    have g00 := HGIA.out.res.frozen 0
    have g01 := HGIA.out.res.frozen 1
    have w0ne : w.heap.size ≠ H := by have := HH.out; omega
    have w1ne : w.heap.size + 1 ≠ H := by have := HH.out; omega
    have w2ne : w.heap.size + 1 + 1 ≠ H := by have := HH.out; omega
    have HWL : Hid (w.heap.size ≤ H) := by have := HH.out; show w.heap.size ≤ H; omega
    clear hRA hba
    rcases hans with ⟨hno, rfl⟩ | ⟨la, mv, k7, hsome, hk7, hla255, hk7l, rfl, hmw⟩
    · have HNO : Hid (getB bs = none) := by
        show getB bs = none
        rw [HGB.out, HGR.out, show n9 - i = (n9 - i - 1) + 1 by omega, HGS.out]
        simp only [getRows]
        rw [← HK6.out, hno]
        rfl
      clear hno
      go_wp2
      refine bodyPost_ret (v := .tuple #[.agg #[.int .i64 0, .slice none 0 0], .int .i64 2]) ?_ rfl ⟨?_, Or.inl ⟨HNO.out, rfl⟩⟩
      rotate_left
      · exact ((HGIA.out.bel.setCell HWL.out _).setCell (Nat.le_refl _) _).setCell (Nat.le_refl _) _
      · simp [results, Try.results32, go_sem, s00, s01]
    obtain ⟨mo, mc, hmv⟩ : ∃ mo mc, mv = .slice mo la.length mc := by
      rcases hmw.own.2 with ⟨e, e2⟩ | ⟨g, cap, cur, e, -⟩
      · exact ⟨none, 0, by rw [e, e2]⟩
      · exact ⟨_, _, e⟩
    subst hmv
    have HO1 : Hid (wa.ownsRow wy.heap.size 158 6 (.slice mo la.length mc) la.length (la.flatMap mvC)) := hmw.own
    have HS1 : Hid (readMoves (bs.drop (kk + 6)) = some (la, bs.drop k7)) := by rw [← HK6.out]; exact hsome
    have HLA : Hid (la.length ≤ 255) := hla255
    have HK7B : Hid (k7 ≤ kk + 2302) := by have := HK6.out; show k7 ≤ kk + 2302; omega
    have x7 : (0 : Int) ≤ (k7 : Int) := by omega
    have HK7 : Hid (k7 ≤ bs.length) := hk7l
    clear hsome hk7 hk7l hmw hla255
    go_wp2_with fail
    go_at_call 71
    have HB1 : Hid (Below w.heap.size w (wa.setCell ⟨H, 6, none⟩ (.slice mo la.length mc))) := HGIA.out.bel.setCell HWL.out _
    refine (read11 _ bs k7 _ (HBI.out.later HB1.out) (by have := HK7B.out; have := HKB.out; omega)).mono ?_
    rintro e wb ⟨hbb, hans⟩
    have HBW : Hid (Below wr.heap.size wr (wa.setCell ⟨H, 6, none⟩ (.slice mo la.length mc))) := (step_below HBA.out HBY.out).setCell (by show wr.heap.size ≤ H; have := HH.out; omega) _
    have HBB : Hid (Below wr.heap.size wr wb) := step_below hbb HBW.out
    have HGIB : Hid (GI w s0 L (.slice vo L.length vc) wb) := HGI.out.below HBB.out
    have HO1B : Hid (wb.ownsRow wy.heap.size 158 6 (.slice mo la.length mc) la.length (la.flatMap mvC)) := own_belowC (own_set_far HO1.out (by simpa using hzy) _) hbb
    have hRB : Row wb H 92 [.int .i64 a0, .int .i64 a1, .int .i64 a2, .int .i64 a3, .int .i64 a4, .int .i64 a5, .slice mo la.length mc, .slice none 0 0] := (HRA.out.set 6 (.slice mo la.length mc)).below hbb
    have HRB : Hid (Row wb H 92 [.int .i64 a0, .int .i64 a1, .int .i64 a2, .int .i64 a3, .int .i64 a4, .int .i64 a5, .slice mo la.length mc, .slice none 0 0]) := hRB
    have hszb : wy.heap.size ≤ wb.heap.size := Nat.le_trans HBA.out.size (by have := hbb.size; simpa using this)
    have HWS : Hid (wy.heap.size ≤ (wa.setCell ⟨H, 6, none⟩ (.slice mo la.length mc)).heap.size) := by show wy.heap.size ≤ _; have := HBA.out.size; simpa using this
    clear r6 f6 hlH n0 n1 s00 s01 g00 g01 hbb
    have r7 : wb.cell? ⟨H, 7, none⟩ = some (.slice none 0 0) := hRB.cell 7
    have f7 := hRB.frozen 7
    have n0 : wb.cell? ⟨w.heap.size + 1, 0, none⟩ = some (.int .i64 0) := HGIB.out.non.cell 0
    have n1 : wb.cell? ⟨w.heap.size + 1, 1, none⟩ = some (.slice none 0 0) := HGIB.out.non.cell 1
    have s00 : wb.cell? ⟨w.heap.size, 0, none⟩ = some (.int .i64 0) := HGIB.out.res.cell 0
    have s01 : wb.cell? ⟨w.heap.size, 1, none⟩ = some (.slice none 0 0) := HGIB.out.res.cell 1
    have g00 := HGIB.out.res.frozen 0
    have g01 := HGIB.out.res.frozen 1
    clear hRB
    rcases hans with ⟨hno, rfl⟩ | ⟨lb, mv2, k8, hsome, hk8, hlb255, hk8l, rfl, hmw⟩
    · have HNO : Hid (getB bs = none) := by
        show getB bs = none
        rw [HGB.out, HGR.out, show n9 - i = (n9 - i - 1) + 1 by omega, HGS.out]
        simp only [getRows]
        rw [HS1.out]
        simp only
        rw [hno]
        rfl
      clear hno
      go_wp2
      refine bodyPost_ret (v := .tuple #[.agg #[.int .i64 0, .slice none 0 0], .int .i64 2]) ?_ rfl ⟨?_, Or.inl ⟨HNO.out, rfl⟩⟩
      rotate_left
      · exact ((HGIB.out.bel.setCell HWL.out _).setCell (Nat.le_refl _) _).setCell (Nat.le_refl _) _
      · simp [results, Try.results32, go_sem, s00, s01]
    obtain ⟨mo2, mc2, hmv2⟩ : ∃ mo mc, mv2 = .slice mo lb.length mc := by
      rcases hmw.own.2 with ⟨e, e2⟩ | ⟨g, cap, cur, e, -⟩
      · exact ⟨none, 0, by rw [e, e2]⟩
      · exact ⟨_, _, e⟩
    subst hmv2
    have HO2 : Hid (wb.ownsRow wy.heap.size 158 6 (.slice mo2 lb.length mc2) lb.length (lb.flatMap mvC)) := own_mono hmw.own HWS.out
    have HS2 : Hid (readMoves (bs.drop k7) = some (lb, bs.drop k8)) := hsome
    have HLB : Hid (lb.length ≤ 255) := hlb255
    have HK8B : Hid (k8 ≤ kk + 4598) := by have := HK7B.out; show k8 ≤ kk + 4598; omega
    have x8 : (0 : Int) ≤ (k8 : Int) := by omega
    have HK8 : Hid (k8 ≤ bs.length) := hk8l
    clear hsome hk8 hk8l hmw hlb255
    go_upto_region 18 with fail
    obtain ⟨wc, hwc⟩ : ∃ wc, wc = wb.setCell ⟨H, 7, none⟩ (.slice mo2 lb.length mc2) := ⟨_, rfl⟩
    rw [← hwc]
    have HBC : Hid (Below wr.heap.size wr wc) := by rw [hwc]; exact HBB.out.setCell (by show wr.heap.size ≤ H; have := HH.out; omega) _
    have hgc := HGI.out.below HBC.out
    have HGC : Hid (GI w s0 L (.slice vo L.length vc) wc) := hgc
    have hrc : Row wc H 92 [.int .i64 a0, .int .i64 a1, .int .i64 a2, .int .i64 a3, .int .i64 a4, .int .i64 a5, .slice mo la.length mc, .slice mo2 lb.length mc2] := by rw [hwc]; exact HRB.out.set 7 (.slice mo2 lb.length mc2)
    have hob : ∀ b, wy.heap.size ≤ b → some b ≠ (Value.slice vo L.length vc).ownBlock := by
      intro b hb e
      have := (World.ownsRow.lt HGI.out.rw.own b e.symm).2
      have := HH.out
      omega
    have HM1 : Hid (MvOkC (w.heap.size + 3) (Value.slice vo L.length vc).ownBlock wc (.slice mo la.length mc) la) := by
      rw [hwc]
      exact own_mv (own_set_far HO1B.out (by simpa using hzy) _) (by have := HLA.out; omega) (by have := HH.out; omega) hob
    have HM2 : Hid (MvOkC (w.heap.size + 3) (Value.slice vo L.length vc).ownBlock wc (.slice mo2 lb.length mc2) lb) := by
      rw [hwc]
      exact own_mv (own_set_far HO2.out (by simpa using hzy) _) (by have := HLB.out; omega) (by have := HH.out; omega) hob
    have q0 : wc.cell? ⟨H, 0, none⟩ = some (.int .i64 a0) := hrc.cell 0
    have q1 : wc.cell? ⟨H, 1, none⟩ = some (.int .i64 a1) := hrc.cell 1
    have q2 : wc.cell? ⟨H, 2, none⟩ = some (.int .i64 a2) := hrc.cell 2
    have q3 : wc.cell? ⟨H, 3, none⟩ = some (.int .i64 a3) := hrc.cell 3
    have q4 : wc.cell? ⟨H, 4, none⟩ = some (.int .i64 a4) := hrc.cell 4
    have q5 : wc.cell? ⟨H, 5, none⟩ = some (.int .i64 a5) := hrc.cell 5
    have q6 : wc.cell? ⟨H, 6, none⟩ = some (.slice mo la.length mc) := hrc.cell 6
    have q7 : wc.cell? ⟨H, 7, none⟩ = some (.slice mo2 lb.length mc2) := hrc.cell 7
    have b1 : wc.cell? ⟨w.heap.size + 1 + 1, 1, none⟩ = some (.slice vo L.length vc) := hgc.bx.cell 1
    have hzc : w.heap.size + 3 ≤ wc.heap.size := by have := hgc.bx.lt; omega
    clear hwc hgc hrc hob r7 f7 n0 n1 s00 s01 g00 g01
    go_wp2_with (at_builtin; refine wpList_append_lies _ rfl _ _ 40 rfl (w.heap.size + 3) 92 t0' (.agg #[.int .i64 0, .int .i64 0, .int .i64 0, .int .i64 0, .int .i64 0, .int .i64 0, .slice none 0 0, .slice none 0 0]) 8 96 Try.underlying40 hi0 hy0 hy1 hy2 rfl (by decide) (.slice vo L.length vc) L.length (L.flatMap rowC) rfl (World.ownsRow.alloc HGC.out.rw.own _) ⟨wc.heap.size, 0, none⟩ 1 1 [.int .i64 a0, .int .i64 a1, .int .i64 a2, .int .i64 a3, .int .i64 a4, .int .i64 a5, .slice mo la.length mc, .slice mo2 lb.length mc2] rfl rfl ?c1 ?c2 (by decide) ?c3 ?c4 ?c5 _ rfl ?c6)
    case c1 => exact World.news_of_block (cs := #[.int .i64 a0, .int .i64 a1, .int .i64 a2, .int .i64 a3, .int .i64 a4, .int .i64 a5, .slice mo la.length mc, .slice mo2 lb.length mc2]) (t := 92) (fr := (0, 0)) (by have := heap_alloc_new wc (.cells #[.int .i64 a0, .int .i64 a1, .int .i64 a2, .int .i64 a3, .int .i64 a4, .int .i64 a5, .slice mo la.length mc, .slice mo2 lb.length mc2] 92); simpa using this)
    case c2 => simp [Value.oneCell']
    case c3 => (have := HLI.out; unfold maxLen; omega)
    case c4 => (have := HLI.out; omega)
    case c5 => (simp; omega)
    case c6 =>
      intro g9 cap9 w9 hown hgrow hat hlt9
      have hba : Below wc.heap.size wc (wc.alloc (.cells #[.int .i64 a0, .int .i64 a1, .int .i64 a2, .int .i64 a3, .int .i64 a4, .int .i64 a5, .slice mo la.length mc, .slice mo2 lb.length mc2] 92)) := (Below.refl _ _).alloc (Nat.le_refl _) _
      have hga := HGC.out.below hba
      have hM1 : MvOkC (w.heap.size + 3) (Value.slice vo L.length vc).ownBlock _ (.slice mo la.length mc) la := ⟨HM1.out.1.later hba, HM1.out.2⟩
      have hM2 : MvOkC (w.heap.size + 3) (Value.slice vo L.length vc).ownBlock _ (.slice mo2 lb.length mc2) lb := ⟨HM2.out.1.later hba, HM2.out.2⟩
      have hrw : RW (w.heap.size + 3) (L ++ [(⟨⟨a0, a1⟩, ⟨a2, a3⟩, ⟨a4, a5⟩, la, lb⟩, .slice mo la.length mc, .slice mo2 lb.length mc2)]) (.slice (some ⟨g9, 0, none⟩) (L.length + 1) cap9) w9 :=
        hga.rw.push (x := (⟨⟨a0, a1⟩, ⟨a2, a3⟩, ⟨a4, a5⟩, la, lb⟩, .slice mo la.length mc, .slice mo2 lb.length mc2)) ⟨hM1, hM2⟩ hown hgrow (by simpa using hat)
      have hnb : ∀ k, k < w.heap.size + 3 → some k ≠ (Value.slice vo L.length vc).ownBlock := fun k hk e => by have := (World.ownsRow.lt hga.rw.own k e.symm).1; omega
      have hbel9 : Below w.heap.size w w9 := hga.bel.grown hgrow hga.bel.size (fun j hj => by have := (World.ownsRow.lt hga.rw.own _ hj).1; omega)
      have hbx9 := hga.bx.grown hgrow (hnb _ (by omega))
      have HX : Hid (GI w s0 (L ++ [(⟨⟨a0, a1⟩, ⟨a2, a3⟩, ⟨a4, a5⟩, la, lb⟩, .slice mo la.length mc, .slice mo2 lb.length mc2)]) (.slice (some ⟨g9, 0, none⟩) (L.length + 1) cap9) (w9.setCell ⟨w.heap.size + 1 + 1, 1, none⟩ (.slice (some ⟨g9, 0, none⟩) (L.length + 1) cap9))) :=
        ⟨hbel9.setCell (by simp; omega) _, (hga.res.grown hgrow (hnb _ (by omega))).other (by simp; omega) _, (hga.non.grown hgrow (hnb _ (by omega))).other (by simp) _, hbx9.set 1 _, hrw.setCell (by simp) _⟩
      have b9 : w9.cell? ⟨w.heap.size + 1 + 1, 1, none⟩ = some (.slice vo L.length vc) := hbx9.cell 1
      have f9 := hbx9.frozen 1
      clear hown hgrow hat hba hga hM1 hM2 hrw hnb hbel9 hbx9 q0 q1 q2 q3 q4 q5 q6 q7 b1
      go_wp2
      refine ⟨⟨i + 1, k8, _, _, rfl, by go_num, by omega, by simp [HLI.out], HK8.out, by have := HK8B.out; have := HKB.out; omega, HX.out, ?_⟩, by simp [intOf]; omega⟩
      rw [HGR.out, HGS.out, show n9 - i = (n9 - (i + 1)) + 1 by omega]
      simp only [getRows]
      rw [HS1.out]
      simp only
      rw [HS2.out]
      simp only
      cases getRows (n9 - (i + 1)) (bs.drop k8) with
      | none => rfl
      | some x => simp

end Go.Proofs.Ytepfegfacdbhbab.form
