/- What the document's functions on places as numbers answer: Numbers, Small. -/
import Derived.Test.YtepfegfacdbhbabCodeRefMoves
namespace Go.Proofs.Ytepfegfacdbhbab.form
open Go.RowKit
set_option linter.unusedVariables false
attribute [local go_sem ↓] Go.wp_at_zero Go.wp_at_succ

theorem putRow_len (r : LRow) : (putRow r).length = 8 + 9 * (r.before.length + r.after.length) := by
  unfold putRow
  simp only [List.length_append, putMoves_len]
  simp
  omega
theorem putRows_take (R : List LRow) (k : Nat) : (putRows (R.take k)).length ≤ (putRows R).length := by
  have : putRows R = putRows (R.take k) ++ putRows (R.drop k) := by unfold putRows; rw [← List.flatMap_append, List.take_append_drop]
  rw [this, List.length_append]
  omega

/-- The box of the argument, and the row of ints. -/
structure NSc (w : World) (ao : Option Addr) (nR cap : Nat) (xs : List Int) (v : Value) (wr : World) : Prop where
  rs : RS w (w.heap.size + 1) xs v wr
  box : wr.cell? ⟨w.heap.size, 1, none⟩ = some (.slice ao nR cap)
section
variable {w wr w1 : World} {ao : Option Addr} {nR cap : Nat} {xs ys : List Int} {v : Value}
theorem NSc.below (h : NSc w ao nR cap xs v wr) (hb : Below wr.heap.size wr w1) : NSc w ao nR cap xs v w1 := ⟨h.rs.below hb, step_cell hb h.box⟩
theorem NSc.ne (h : NSc w ao nR cap xs v wr) : v.ownBlock ≠ some w.heap.size := fun e => by have := (World.ownsRow.lt h.rs.own _ e).1; omega
theorem NSc.push (h : NSc w ao nR cap xs v wr) {g c : Nat} (hown : w1.ownsRow (w.heap.size + 1) 3 1 (.slice (some ⟨g, 0, none⟩) (xs.length + ys.length) c) (xs.length + ys.length) (xs.map iV ++ ys.map iV)) (hgrow : wr.grownBy w1 v.ownBlock) :
    NSc w ao nR cap (xs ++ ys) (.slice (some ⟨g, 0, none⟩) (xs.length + ys.length) c) w1 := ⟨h.rs.push hown hgrow, hgrow.cell h.box (Ne.symm h.ne)⟩
end

set_option maxRecDepth 100000 in
set_option maxHeartbeats 2000000 in
theorem numbers11 (lv : Value) (slots : Int) (R : List LRow) (w : World) (hl : PlacedIs w lv slots R) (hn : ∀ r, r < R.length → (∀ k, k < (R.getD r .zero).before.length → 0 ≤ ((R.getD r .zero).before.getD k .zero).n ∧ ((R.getD r .zero).before.getD k .zero).n < 4294967296) ∧ (∀ k, k < (R.getD r .zero).after.length → 0 ≤ ((R.getD r .zero).after.getD k .zero).n ∧ ((R.getD r .zero).after.getD k .zero).n < 4294967296))
    (hlen : (putB slots R).length ≤ 1099511627776) :
    Calls Try.prog 28 #[lv] w fun e w' => ∃ u, e = .returned u ∧ RS w (w.heap.size + 1) (putB slots R) u w' := by
  obtain ⟨ao, cap, rfl, lR, hr⟩ := hl
  have HR : Hid _ := hr
  have HN : Hid _ := hn
  have hpl : (putB slots R).length = 2 + (putRows R).length := by unfold putB; simp; omega
  have HPL : Hid (2 + (putRows R).length ≤ 1099511627776) := by show 2 + (putRows R).length ≤ 1099511627776; omega
  have hRb : R.length ≤ 1099511627776 := by
    have h8 : ∀ L : List LRow, L.length ≤ (putRows L).length := by
      intro L
      induction L with
      | nil => simp
      | cons r L ih =>
        have e : putRows (r :: L) = putRow r ++ putRows L := rfl
        rw [e, List.length_append, putRow_len, List.length_cons]
        omega
    have := h8 R
    have := HPL.out
    omega
  have z0 : (R.length : Int) ≤ 1099511627776 := by omega
  clear hr hn hpl hlen
  obtain ⟨t0', hi0, hy0, hy1, hy2⟩ := info_parts infI
  go_enter Try.func28, Try.ntmps28
  go_wp2
  go_loopw [3, 4] (fun u t wr => ∃ (k : Nat) (u0 : Value), u0 = u ∧ k ≤ R.length ∧ t = .int .i64 k ∧ NSc w ao R.length cap (slots :: (R.length : Int) :: putRows (R.take k)) u wr) (fun _ t _ => R.length - (intOf t).toNat)
  case atStart =>
    refine ⟨0, _, rfl, by omega, rfl, ⟨((Below.refl _ _).alloc (Nat.le_refl _) _).alloc (by simp) _, by omega, ?_⟩, by simp [go_sem]⟩
    have := own_built (w := w.alloc (.cells #[.int .i64 slots, .slice ao R.length cap] 42)) (base := w.heap.size + 1) (e := 3) [iV slots, iV R.length] (by simp) (by unfold maxLen; simp)
    rw [show (w.alloc (.cells #[.int .i64 slots, .slice ao R.length cap] 42)).heap.size = w.heap.size + 1 by simp] at this
    exact this
  case round =>
    obtain ⟨k, u, rfl, hk, rfl, hns⟩ := hrel
    obtain ⟨xs, hxs⟩ : ∃ xs, xs = slots :: (R.length : Int) :: putRows (R.take k) := ⟨_, rfl⟩
    have hxl : xs.length = 2 + (putRows (R.take k)).length := by rw [hxs]; simp only [List.length_cons]; omega
    rw [← hxs] at hns
    have HXS : Hid (xs = slots :: (R.length : Int) :: putRows (R.take k)) := hxs
    have HNS : Hid (NSc w ao R.length cap xs u wr) := hns
    have hzz : w.heap.size < wr.heap.size := World.block_lt_of_cell? wr _ hns.box
    obtain ⟨g0, cap0, hu, hg0, hg1⟩ := hns.rs.form (by omega)
    have HXL : Hid (xs.length = 2 + (putRows (R.take k)).length) := hxl
    have bx := hns.box
    subst hu
    have HNS : Hid (NSc w ao R.length cap xs (.slice (some ⟨g0, 0, none⟩) xs.length cap0) wr) := HNS.out
    clear hxs hns hxl
    by_cases hlt : k < R.length
    case neg =>
      have y1 : ¬ (k : Int) < (R.length : Int) := by omega
      go_wp2
      go_ret
      refine ⟨_, rfl, ?_⟩
      obtain rfl : k = R.length := by omega
      have e : xs = putB slots R := by rw [HXS.out, List.take_length]; rfl
      rw [← e]
      exact HNS.out.rs
    have y1 : (k : Int) < (R.length : Int) := by omega
    have y0 : (0 : Int) ≤ (k : Int) := by omega
    obtain ⟨b2, o2, rfl, hrh⟩ := HR.out (by omega)
    have hrl := hrh.later HNS.out.rs.bel
    obtain ⟨f0, f1, f2, f3, f4, f5, vb, va, f6, f7, mb, ma⟩ := hrh.rows k hlt
    have f0 := step_cell HNS.out.rs.bel f0
    have f1 := step_cell HNS.out.rs.bel f1
    have f2 := step_cell HNS.out.rs.bel f2
    have f3 := step_cell HNS.out.rs.bel f3
    have f4 := step_cell HNS.out.rs.bel f4
    have f5 := step_cell HNS.out.rs.bel f5
    have f6 := step_cell HNS.out.rs.bel f6
    have f7 := step_cell HNS.out.rs.bel f7
    have lb2 := hrl.lt
    obtain ⟨nb, na⟩ := HN.out k hlt
    obtain ⟨r, hr⟩ : ∃ r, r = R.getD k .zero := ⟨_, rfl⟩
    rw [← hr] at f0 f1 f2 f3 f4 f5 mb ma nb na
    have HRK : Hid (r = R.getD k .zero) := hr
    have hroom : xs.length + (8 + 9 * (r.before.length + r.after.length)) ≤ 1099511627776 := by
      have h1 := putRows_take R (k + 1)
      have h2 : (putRows (R.take (k + 1))).length = (putRows (R.take k)).length + (8 + 9 * (r.before.length + r.after.length)) := by
        unfold putRows
        rw [take_flat (z := .zero) hlt, List.length_append, ← hr, putRow_len]
      have := HPL.out
      have := HXL.out
      omega
    have HROOM : Hid (xs.length + (8 + 9 * (r.before.length + r.after.length)) ≤ 1099511627776) := hroom
    obtain ⟨abo, abc, hvb, abl, abh⟩ := mb
    obtain ⟨aao, aac, hva, aal, aah⟩ := ma
    have HMB : Hid (MovesIs w vb r.before) := ⟨abo, abc, hvb, abl, abh⟩
    have HMA : Hid (MovesIs w va r.after) := ⟨aao, aac, hva, aal, aah⟩
    have HNB : Hid (∀ q, q < r.before.length → 0 ≤ (r.before.getD q .zero).n ∧ (r.before.getD q .zero).n < 4294967296) := nb
    have HNA : Hid (∀ q, q < r.after.length → 0 ≤ (r.after.getD q .zero).n ∧ (r.after.getD q .zero).n < 4294967296) := na
    subst hvb
    subst hva
    have HNE : Hid ((Value.slice (some ⟨g0, 0, none⟩) xs.length cap0).ownBlock ≠ some wr.heap.size) := by show _ ≠ _; simp only [Value.ownBlock, ne_eq, Option.some.injEq]; omega
    have HRH : Hid (RowsHeld w b2 o2 R) := hrh
    clear hr abh aah nb na hrl hrh hroom
    obtain ⟨ys, hys⟩ : ∃ ys : List Int, ys = [r.dest.kind, r.dest.n, r.a.kind, r.a.n, r.b.kind, r.b.n] := ⟨_, rfl⟩
    have HYS : Hid (ys = [r.dest.kind, r.dest.n, r.a.kind, r.a.n, r.b.kind, r.b.n]) := hys
    clear hys
    go_wp2_with (at_builtin; refine wpList_append_lies _ rfl _ _ 64 rfl (w.heap.size + 1) 3 t0' (.int .i64 0) 1 8 Try.underlying64 hi0 hy0 hy1 hy2 rfl (by decide) (.slice (some ⟨g0, 0, none⟩) xs.length cap0) xs.length (xs.map iV) rfl (World.ownsRow.alloc (World.ownsRow.alloc HNS.out.rs.own _) _) ⟨wr.heap.size + 1, 0, none⟩ 6 6 ([r.dest.kind, r.dest.n, r.a.kind, r.a.n, r.b.kind, r.b.n].map iV) rfl rfl ?c1 ?c2 (by decide) ?c3 ?c4 ?c5 _ rfl ?c6)
    case c1 => (have := news_built (w := wr.alloc (.cells #[.int .i64 r.dest.kind, .int .i64 r.dest.n, .int .i64 r.a.kind, .int .i64 r.a.n, .int .i64 r.b.kind, .int .i64 r.b.n, .slice abo r.before.length abc, .slice aao r.after.length aac] 92)) (t := 3) [r.dest.kind, r.dest.n, r.a.kind, r.a.n, r.b.kind, r.b.n]; rw [show (wr.alloc (.cells #[.int .i64 r.dest.kind, .int .i64 r.dest.n, .int .i64 r.a.kind, .int .i64 r.a.n, .int .i64 r.b.kind, .int .i64 r.b.n, .slice abo r.before.length abc, .slice aao r.after.length aac] 92)).heap.size = wr.heap.size + 1 by simp] at this; exact this)
    case c2 => exact one_ints _
    case c3 => (have := HROOM.out; unfold maxLen; omega)
    case c4 => (have := HROOM.out; omega)
    case c5 => (simp; omega)
    case c6 =>
      intro g9 cap9 w9 hown hgrow hat hlt9
      have hb0 : Below wr.heap.size wr ((wr.alloc (.cells #[.int .i64 r.dest.kind, .int .i64 r.dest.n, .int .i64 r.a.kind, .int .i64 r.a.n, .int .i64 r.b.kind, .int .i64 r.b.n, .slice abo r.before.length abc, .slice aao r.after.length aac] 92)).alloc (.cells #[.int .i64 r.dest.kind, .int .i64 r.dest.n, .int .i64 r.a.kind, .int .i64 r.a.n, .int .i64 r.b.kind, .int .i64 r.b.n] 3)) := ((Below.refl _ _).alloc (Nat.le_refl _) _).alloc (by simp) _
      have hr9 : NSc w (some ⟨b2, o2, none⟩) R.length cap (xs ++ ys) (.slice (some ⟨g9, 0, none⟩) (xs.length + 6) cap9) w9 := by
        rw [HYS.out]
        exact (HNS.out.below hb0).push (ys := [r.dest.kind, r.dest.n, r.a.kind, r.a.n, r.b.kind, r.b.n]) hown hgrow
      have HR9 : Hid (NSc w (some ⟨b2, o2, none⟩) R.length cap (xs ++ ys) (.slice (some ⟨g9, 0, none⟩) (xs.length + 6) cap9) w9) := hr9
      have e6 : w9.cell? ⟨wr.heap.size, 6, none⟩ = some (.slice abo r.before.length abc) := hgrow.cell (by simp [go_sem]) (Ne.symm HNE.out)
      have e7 : w9.cell? ⟨wr.heap.size, 7, none⟩ = some (.slice aao r.after.length aac) := hgrow.cell (by simp [go_sem]) (Ne.symm HNE.out)
      have hz9 : wr.heap.size < w9.heap.size := by have := hgrow.size; simp at this; omega
      clear hown hgrow hat hr9 hb0 f0 f1 f2 f3 f4 f5 f6 f7 bx
      have HLB : Hid (r.before.length ≤ 1099511627776) := by have := HROOM.out; show r.before.length ≤ _; omega
      have HLA : Hid (r.after.length ≤ 1099511627776) := by have := HROOM.out; show r.after.length ≤ _; omega
      go_wp2_with fail
      go_at_call 69
      refine (moves11 _ r.before _ (HMB.out.later HR9.out.rs.bel) HNB.out HLB.out).mono ?_
      rintro e wa ⟨ub, rfl, hub⟩
      obtain ⟨gb, cb, rfl, hgb0, hgb1⟩ := hub.form (by rw [putMoves_len]; omega)
      have HUB : Hid (RS w9 w9.heap.size (putMoves r.before) (.slice (some ⟨gb, 0, none⟩) (putMoves r.before).length cb) wa) := hub
      have e7 := step_cell hub.bel e7
      have hza := hub.bel.size
      have HRA : Hid (NSc w (some ⟨b2, o2, none⟩) R.length cap (xs ++ ys) (.slice (some ⟨g9, 0, none⟩) (xs.length + 6) cap9) wa) := HR9.out.below hub.bel
      clear hub e6
      go_wp2_with fail
      go_at_call 69
      refine (moves11 _ r.after _ (HMA.out.later HRA.out.rs.bel) HNA.out HLA.out).mono ?_
      rintro e wb ⟨ua, rfl, hua⟩
      obtain ⟨ga, ca, rfl, hga0, hga1⟩ := hua.form (by rw [putMoves_len]; omega)
      have hzb := hua.bel.size
      have HUA : Hid (RS wa wa.heap.size (putMoves r.after) (.slice (some ⟨ga, 0, none⟩) (putMoves r.after).length ca) wb) := hua
      have HUB2 : Hid (RS w9 w9.heap.size (putMoves r.before) (.slice (some ⟨gb, 0, none⟩) (putMoves r.before).length cb) wb) := HUB.out.below hua.bel
      have HRB : Hid (NSc w (some ⟨b2, o2, none⟩) R.length cap (xs ++ ys) (.slice (some ⟨g9, 0, none⟩) (xs.length + 6) cap9) wb) := HRA.out.below hua.bel
      clear hua e7
      have hyl : ys.length = 6 := by rw [HYS.out]; rfl
      have HYL : Hid (ys.length = 6) := hyl
      obtain ⟨zs, hzs⟩ : ∃ zs, zs = putMoves r.before := ⟨_, rfl⟩
      obtain ⟨qs, hqs⟩ : ∃ qs, qs = putMoves r.after := ⟨_, rfl⟩
      have hzl : zs.length = 1 + 9 * r.before.length := by rw [hzs]; exact putMoves_len _
      have hql : qs.length = 1 + 9 * r.after.length := by rw [hqs]; exact putMoves_len _
      rw [← hzs] at HUB2
      rw [← hqs] at HUA
      rw [← hzs, ← hqs]
      have HZL : Hid (zs.length = 1 + 9 * r.before.length) := hzl
      have HQL : Hid (qs.length = 1 + 9 * r.after.length) := hql
      have HZS : Hid (zs = putMoves r.before) := hzs
      have HQS : Hid (qs = putMoves r.after) := hqs
      clear HUB hyl hzl hql hzs hqs HRA
      go_wp2_with (at_builtin; refine wpList_append_lies _ rfl _ _ 64 rfl (w.heap.size + 1) 3 t0' (.int .i64 0) 1 8 Try.underlying64 hi0 hy0 hy1 hy2 rfl (by decide) (.slice (some ⟨g9, 0, none⟩) (xs.length + 6) cap9) (xs.length + 6) ((xs ++ ys).map iV) rfl ?c7 ⟨gb, 0, none⟩ zs.length cb (zs.map iV) rfl ?c8 ?c1 ?c2 ?c9 ?c3 ?c4 ?c5 _ rfl ?c6)
      case c7 => (have := HRB.out.rs.own; rw [List.length_append, HYL.out] at this; exact this)
      case c8 => simp
      case c9 => (have := HZL.out; omega)
      case c1 => exact HUB2.out.news rfl
      case c2 => exact one_ints _
      case c3 => (have := HROOM.out; have := HZL.out; unfold maxLen; omega)
      case c4 => (have := HROOM.out; have := HZL.out; omega)
      case c5 => (have := HRB.out.rs.bel.size; omega)
      case c6 =>
        intro g8 cap8 w8 hown hgrow hat hlt8
        have hr8 : NSc w (some ⟨b2, o2, none⟩) R.length cap ((xs ++ ys) ++ zs) (.slice (some ⟨g8, 0, none⟩) (xs.length + 6 + zs.length) cap8) w8 := by
          have := HRB.out.push (ys := zs) (g := g8) (c := cap8) (by rw [List.length_append, HYL.out, List.map_append, List.append_assoc]; exact hown) hgrow
          rw [List.length_append, HYL.out] at this
          exact this
        have HR8 : Hid (NSc w (some ⟨b2, o2, none⟩) R.length cap ((xs ++ ys) ++ zs) (.slice (some ⟨g8, 0, none⟩) (xs.length + 6 + zs.length) cap8) w8) := hr8
        have HUA8 : Hid (∀ j u, (qs.map iV)[j]? = some u → w8.cell? ((⟨ga, 0, none⟩ : Addr).add j) = some u) := by
          intro j u hu
          refine hgrow.cell (HUA.out.news rfl j u hu) ?_
          simp only [Go.WideShapes.add_plain, Value.ownBlock, ne_eq, Option.some.injEq]
          omega
        have hz8 := hr8.rs.bel.size
        clear hr8 hown hgrow hat
        go_wp2_with (at_builtin; refine wpList_append_lies _ rfl _ _ 64 rfl (w.heap.size + 1) 3 t0' (.int .i64 0) 1 8 Try.underlying64 hi0 hy0 hy1 hy2 rfl (by decide) (.slice (some ⟨g8, 0, none⟩) (xs.length + 6 + zs.length) cap8) (xs.length + 6 + zs.length) (((xs ++ ys) ++ zs).map iV) rfl ?c7 ⟨ga, 0, none⟩ qs.length ca (qs.map iV) rfl ?c8 ?c1 ?c2 ?c9 ?c3 ?c4 ?c5 _ rfl ?c6)
        case c7 => (have := HR8.out.rs.own; rw [List.length_append, List.length_append, HYL.out] at this; exact this)
        case c8 => simp
        case c9 => (have := HQL.out; omega)
        case c1 => exact HUA8.out
        case c2 => exact one_ints _
        case c3 => (have := HROOM.out; have := HZL.out; have := HQL.out; unfold maxLen; omega)
        case c4 => (have := HROOM.out; have := HZL.out; have := HQL.out; omega)
        case c5 => (have := World.block_lt_of_cell? w8 _ HR8.out.box; simp at this; omega)
        case c6 =>
          intro g7 cap7 w7 hown hgrow hat hlt7
          have hr7 : NSc w (some ⟨b2, o2, none⟩) R.length cap (((xs ++ ys) ++ zs) ++ qs) (.slice (some ⟨g7, 0, none⟩) (xs.length + 6 + zs.length + qs.length) cap7) w7 := by
            have := HR8.out.push (ys := qs) (g := g7) (c := cap7) (by rw [List.length_append, List.length_append, HYL.out]; simp only [List.map_append, List.append_assoc]; exact hown) hgrow
            rw [List.length_append, List.length_append, HYL.out] at this
            exact this
          have HR7 : Hid (NSc w (some ⟨b2, o2, none⟩) R.length cap (((xs ++ ys) ++ zs) ++ qs) (.slice (some ⟨g7, 0, none⟩) (xs.length + 6 + zs.length + qs.length) cap7) w7) := hr7
          clear hr7 hown hgrow hat
          go_wp2
          refine ⟨⟨k + 1, _, rfl, by omega, by go_num, ?_⟩, by simp [intOf]; omega⟩
          have e : ((xs ++ ys) ++ zs) ++ qs = slots :: (R.length : Int) :: putRows (R.take (k + 1)) := by
            unfold putRows
            rw [take_flat (z := .zero) hlt, ← HRK.out, HXS.out, HYS.out, HZS.out, HQS.out]
            simp [putRow, putRows]
          rw [← e]
          exact HR7.out

/-- Ints in memory. -/
def IntsIs (w : World) (v : Value) (xs : List Int) : Prop :=
  ∃ ao cap, v = .slice ao xs.length cap ∧ xs.length ≤ cap ∧ xs.length ≤ 4611686018427387904 ∧ (0 < xs.length → ∃ b, ao = some ⟨b, 0, none⟩ ∧ b < w.heap.size ∧ ∀ j, j < xs.length → w.cell? ⟨b, j, none⟩ = some (.int .i64 (xs.getD j 0)))
theorem IntsIs.later {w w' : World} {v : Value} {xs : List Int} (h : IntsIs w v xs) (hb : Below w.heap.size w w') : IntsIs w' v xs := by
  obtain ⟨ao, cap, e, h0, h1, h2⟩ := h
  refine ⟨ao, cap, e, h0, h1, fun hx => ?_⟩
  obtain ⟨b, e1, e2, e3⟩ := h2 hx
  exact ⟨b, e1, Nat.lt_of_lt_of_le e2 hb.size, fun j hj => step_cell hb (e3 j hj)⟩
theorem RS.ints {w wr : World} {base : Nat} {xs : List Int} {v : Value} (h : RS w base xs v wr) (hl : xs.length ≤ 4611686018427387904) : IntsIs wr v xs := by
  rcases h.own.2 with ⟨e, e2⟩ | ⟨g, cap, cur, e, hg, hc, hn, hm, hs, ht⟩
  · exact ⟨none, 0, by rw [e, e2], by omega, hl, fun hx => absurd hx (by omega)⟩
  · refine ⟨_, cap, e, hn, hl, fun hx => ⟨g, rfl, ?_, fun j hj => h.cell e hj⟩⟩
    exact (World.ownsRow.lt h.own g (by rw [e]; rfl)).2

set_option maxRecDepth 100000 in
theorem small11 (v : Value) (xs : List Int) (w : World) (h : IntsIs w v xs) : Calls Try.prog 29 #[v] w fun e w' => e = .returned (.bool (smallB xs)) ∧ w' = w := by
  obtain ⟨ao, cap, rfl, -, hl, hc⟩ := h
  have HC : Hid _ := hc
  clear hc
  have z0 : (xs.length : Int) ≤ 4611686018427387904 := by omega
  go_enter Try.func29, Try.ntmps29
  go_wp2
  go_loop [3] (fun t => ∃ k : Nat, k ≤ xs.length ∧ t = .int .i64 k ∧ ∀ j, j < k → 0 ≤ xs.getD j 0 ∧ xs.getD j 0 ≤ 255) (fun t => xs.length - (intOf t).toNat)
  case atStart => exact ⟨0, by omega, rfl, fun j hj => absurd hj (by omega)⟩
  case round =>
    obtain ⟨k, hk, rfl, hall⟩ := hrel
    have F : Hid _ := hall
    clear hall
    by_cases hlt : k < xs.length
    case neg =>
      have y1 : ¬ (k : Int) < (xs.length : Int) := by omega
      go_wp2
      go_ret
      refine ⟨ret_bool ?_, rfl⟩
      unfold smallB
      rw [eq_comm, List.all_eq_true]
      intro x hx
      obtain ⟨j, hj, rfl⟩ := List.getElem_of_mem hx
      have := F.out j (by omega)
      simp [List.getD, hj] at this
      simpa using this
    have y1 : (k : Int) < (xs.length : Int) := by omega
    have y0 : (0 : Int) ≤ (k : Int) := by omega
    obtain ⟨b, rfl, hbl, hcell⟩ := HC.out (by omega)
    have d0 := hcell k hlt
    obtain ⟨x, hx⟩ : ∃ x, x = xs.getD k 0 := ⟨_, rfl⟩
    rw [← hx] at d0
    have HX : Hid (x = xs.getD k 0) := hx
    have hmem : x ∈ xs := by rw [hx]; simp [List.getD, hlt]
    have HMEM : Hid (x ∈ xs) := hmem
    clear hx hcell hmem
    have NO : Hid (x < 0 ∨ 255 < x → smallB xs = false) := by
      intro h
      unfold smallB
      rw [List.all_eq_false]
      exact ⟨x, HMEM.out, by simp; omega⟩
    rcases (show x < 0 ∨ (¬ x < 0 ∧ 255 < x) ∨ (¬ x < 0 ∧ ¬ 255 < x) by omega) with h1 | ⟨h1, h2⟩ | ⟨h1, h2⟩
    · have HN : Hid (smallB xs = false) := NO.out (Or.inl h1)
      go_wp2
      go_ret
      exact ⟨ret_bool HN.out.symm, rfl⟩
    · have HN : Hid (smallB xs = false) := NO.out (Or.inr h2)
      go_wp2
      go_ret
      exact ⟨ret_bool HN.out.symm, rfl⟩
    · have HN : Hid (0 ≤ x ∧ x ≤ 255) := by show 0 ≤ x ∧ x ≤ 255; omega
      go_wp2
      refine ⟨⟨k + 1, by omega, by go_num, fun j hj => ?_⟩, by simp [intOf]; omega⟩
      by_cases hjk : j < k
      · exact F.out j hjk
      · obtain rfl : j = k := by omega
        rw [← HX.out]
        exact HN.out

end Go.Proofs.Ytepfegfacdbhbab.form
