/- Places read out of bytes, the program's own (code.reader.placed, code.Get). -/
import Derived.Test.YtepfegfacdbhbabCodeReaderRows
import Derived.Test.YtepfegfacdbhbabCodeAns
import Derived.Deep.RegionHeld3
import Derived.BigRegion
namespace Go.Proofs.Ytepfegfacdbhbab.form
open Go.RowKit
set_option linter.unusedVariables false
set_option maxRecDepth 100000
attribute [local go_sem ↓] Go.wp_at_zero Go.wp_at_succ

theorem MovesN.off {ob : Option Nat} {w w' : World} {v : Value} {l : List LMove} {b : Nat} (h : MovesN ob w v l) (hv : v.ownBlock ≠ some b) (ho : OffB b w w') : MovesN ob w' v l := by
  obtain ⟨ao, cap, e, h0, h1, h2⟩ := h
  refine ⟨ao, cap, e, h0, h1, fun hx => ?_⟩
  obtain ⟨c, e1, e2, e3, e4⟩ := h2 hx
  have hne : c ≠ b := fun ec => hv (by rw [e, e1, ec]; rfl)
  have hc : ∀ (j : Nat) (u : Value), w.cell? ⟨c, j, none⟩ = some u → w'.cell? ⟨c, j, none⟩ = some u := fun j u hu => by
    rw [World.cell?_of_block (w := w) (ho.block c e2 hne)]; exact hu
  refine ⟨c, e1, Nat.lt_of_lt_of_le e2 ho.size, e3, fun k hk => ?_⟩
  obtain ⟨c0, c1, c2, c3, c4, c5⟩ := e4 k hk
  exact ⟨hc _ _ c0, hc _ _ c1, hc _ _ c2, hc _ _ c3, hc _ _ c4, hc _ _ c5⟩
theorem RW.off {base b : Nat} {L : List (LRow × Value × Value)} {v : Value} {wr w1 : World} (h : RW base L v wr) (hb : b < base) (ho : OffB b wr w1) : RW base L v w1 := by
  refine ⟨own_off h.own hb ho, fun x hx => ⟨⟨(h.mv x hx).1.1.off (fun e => ?_) ho, (h.mv x hx).1.2⟩, ⟨(h.mv x hx).2.1.off (fun e => ?_) ho, (h.mv x hx).2.2⟩⟩⟩
  · have := (h.mv x hx).1.2 b e; omega
  · have := (h.mv x hx).2.2 b e; omega

/-- While rows are read. -/
structure PrS (w : World) (b bx : Nat) (slots : Int) (L : List (LRow × Value × Value)) (v : Value) (wr : World) : Prop where
  lt : b < w.heap.size
  hi : w.heap.size < bx
  res : Row wr w.heap.size 42 [.int .i64 0, .slice none 0 0]
  lv : Row wr bx 42 [.int .i64 slots, v]
  rows : RW (bx + 1) L v wr
  off : OffB b w wr
section
variable {w : World} {b bx : Nat} {slots : Int} {L : List (LRow × Value × Value)} {v : Value} {wr w1 : World}
theorem PrS.call (h : PrS w b bx slots L v wr) (ho : OffB b wr w1) : PrS w b bx slots L v w1 := by
  have h1 := h.lt
  have h2 := h.hi
  exact ⟨h1, h2, ho.rows h.res (by omega), ho.rows h.lv (by omega), h.rows.off (by omega) ho, h.off.trans ho⟩
theorem PrS.own_ge (h : PrS w b bx slots L v wr) {k : Nat} (e : v.ownBlock = some k) : bx + 1 ≤ k ∧ k < wr.heap.size := World.ownsRow.lt h.rows.own k e
theorem PrS.push (h : PrS w b bx slots L v wr) {x : LRow × Value × Value} (hx : MvOkC (bx + 1) v.ownBlock wr x.2.1 x.1.before ∧ MvOkC (bx + 1) v.ownBlock wr x.2.2 x.1.after) {g cap : Nat} (hown : w1.ownsRow (bx + 1) 92 8 (.slice (some ⟨g, 0, none⟩) (L.length + 1) cap) (L.length + 1) (L.flatMap rowC ++ rowC x)) (hgrow : wr.grownBy w1 v.ownBlock) (hat : v.ownBlock = some g ∨ g = wr.heap.size) :
    PrS w b bx slots (L ++ [x]) (.slice (some ⟨g, 0, none⟩) (L.length + 1) cap) (w1.setCell ⟨bx, 1, none⟩ (.slice (some ⟨g, 0, none⟩) (L.length + 1) cap)) := by
  have hne : ∀ c, c < bx + 1 → some c ≠ v.ownBlock := fun c hc e => by have := (h.own_ge e.symm).1; omega
  have h1 := h.lt
  have h2 := h.hi
  refine ⟨h1, h2, ?_, ?_, ?_, ?_⟩
  · exact (h.res.grown hgrow (hne _ (by omega))).other (by dsimp only; omega) _
  · exact (h.lv.grown hgrow (hne _ (by omega))).set 1 _
  · exact (h.rows.push hx hown hgrow hat).setCell (by dsimp only; omega) _
  · exact (h.off.grown hgrow (fun k hk => by have := (h.own_ge hk).1; omega)).set (Or.inl (by dsimp only; omega)) _
end

/-- What reading places leaves. -/
def PlacedRP (w0 : World) (b : Nat) (rest : List Int) (bad : Bool) (w : World) (e : Ending) (w' : World) : Prop :=
  ∃ (N : Nat) (base : Nat) (L : List (LRow × Value × Value)) (ao : Option Addr) (cap : Nat) (rest' : List Int) (bad' : Bool), e = .returned (.agg #[.int .i64 (rest.getD 0 0), .slice ao L.length cap]) ∧ (N : Int) = rest.getD 1 0 ∧ N ≤ 255 ∧ w.heap.size + 1 < base ∧ RW base L (.slice ao L.length cap) w' ∧
    ReadR N (rest.drop 2) (bad || decide (rest.length < 2)) (L.map (·.1)) rest' bad' ∧ RdX w0 b rest' bad' w' ∧ OffB b w w'

set_option maxHeartbeats 4000000 in
theorem placedR {w0 : World} {b : Nat} {rest : List Int} {bad : Bool} {w : World} (h : RdX w0 b rest bad w) :
    Calls Try.prog 70 #[.pointer (some ⟨b, 0, none⟩)] w fun e w' => PlacedRP w0 b rest bad w e w' := by
  obtain ⟨w1, hw1⟩ : ∃ w1, w1 = w.alloc (.cells #[.int .i64 0, .slice none 0 0] 42) := ⟨_, rfl⟩
  have HR1 : Hid (Row w1 w.heap.size 42 [.int .i64 0, .slice none 0 0]) := by rw [hw1]; exact Row.new _ _ _
  have HX1 : Hid (RdX w0 b rest bad w1) := by rw [hw1]; exact h.below ((Below.refl _ _).alloc (Nat.le_refl _) _)
  have HO1 : Hid (OffB b w w1) := by rw [hw1]; exact (OffB.refl b w).alloc _
  have HW1 : Hid (w1 = w.alloc (.cells #[.int .i64 0, .slice none 0 0] 42)) := hw1
  have hbl := h.lt
  obtain ⟨n0, n1⟩ := h.byte 1
  obtain ⟨N, hN⟩ : ∃ N : Nat, (N : Int) = rest.getD 1 0 := ⟨(rest.getD 1 0).toNat, by omega⟩
  have hN5 : N ≤ 255 := by omega
  have z0 : (N : Int) ≤ 255 := by omega
  obtain ⟨s0, hs0⟩ : ∃ s0, s0 = rest.getD 0 0 := ⟨_, rfl⟩
  have HN1 : Hid (Calls Try.prog 121 #[.pointer (some ⟨b, 0, none⟩)] w1 fun e w' => ReadP w0 b 1 rest bad (.int .i64 s0) w1 e w') := by rw [hs0]; exact nextR HX1.out
  have HN2 : Hid (∀ wx, RdX w0 b (rest.drop 1) (bad || decide (rest.length < 1)) wx → Calls Try.prog 121 #[.pointer (some ⟨b, 0, none⟩)] wx fun e w' => ReadP w0 b 1 (rest.drop 1) (bad || decide (rest.length < 1)) (.int .i64 N) wx e w') := by
    intro wx hx
    have := nextR hx
    rw [getD_dropI] at this
    rw [hN]
    exact this
  have HNN : Hid ((N : Int) = rest.getD 1 0) := hN
  have HS0 : Hid (s0 = rest.getD 0 0) := hs0
  clear hw1 h n0 n1 hN hs0
  go_enter Try.func70, Try.ntmps70
  go_upto_region 2 with (rw [← HW1.out]; go_at_call 121; refine HN1.out.mono ?_; rintro e w2 ⟨rfl, hx2, ho2⟩; have HX2 : Hid (RdX w0 b (rest.drop 1) (bad || decide (rest.length < 1)) w2) := hx2; have HR2 : Hid (Row w2 w.heap.size 42 [.int .i64 0, .slice none 0 0]) := ho2.rows HR1.out (Ne.symm (Nat.ne_of_lt hbl)); have HO2 : Hid (OffB b w w2) := HO1.out.trans ho2; clear hx2 ho2)
  clear HN1 HR1 HX1 HO1 HW1
  obtain ⟨w3, hw3⟩ : ∃ w3, w3 = w2.alloc (.cells #[.int .i64 s0, .slice none 0 0] 42) := ⟨_, rfl⟩
  have HP3 : Hid (PrS w b w2.heap.size s0 [] (.slice none 0 0) w3) := by
    rw [hw3]
    exact ⟨hbl, HR2.out.lt, HR2.out.alloc _, Row.new _ _ _, ⟨World.ownsRow_nil _ _ _ _, fun x hx => by simp at hx⟩, HO2.out.alloc _⟩
  have HX3 : Hid (RdX w0 b (rest.drop 1) (bad || decide (rest.length < 1)) w3) := by rw [hw3]; exact HX2.out.below ((Below.refl _ _).alloc (Nat.le_refl _) _)
  rw [← hw3]
  clear hw3 HR2 HX2 HO2
  obtain ⟨bx, hbx⟩ : ∃ bx, bx = w2.heap.size := ⟨_, rfl⟩
  rw [← hbx] at HP3 ⊢
  clear hbx
  clear w2
  go_wp2_with (go_at_call 121; refine (HN2.out _ HX3.out).mono ?_; rintro e w4 ⟨rfl, hx2, ho2⟩; have HX4 : Hid (RdX w0 b (rest.drop 2) (bad || decide (rest.length < 2)) w4) := hx2.more (by omega); have HP4 : Hid (PrS w b bx s0 [] (.slice none 0 0) w4) := HP3.out.call ho2; clear hx2 ho2)
  clear HN2 HX3 HP3 w1 w3
  go_loopg [9] (N + 1) (fun gg t wr => ∃ (k : Nat) (L : List (LRow × Value × Value)) (v : Value) (rk : List Int) (bk : Bool), t = .int .i64 k ∧ k ≤ N ∧ gg = N + 1 - k ∧ PrS w b bx s0 L v wr ∧ ReadR k (rest.drop 2) (bad || decide (rest.length < 2)) (L.map (·.1)) rk bk ∧ RdX w0 b rk bk wr)
  case atStart => exact ⟨0, [], .slice none 0 0, _, _, rfl, by omega, by omega, HP4.out, ReadR.zero _ _, HX4.out⟩
  case round =>
    clear HP4 HX4
    obtain ⟨k, L, v, rk, bk, rfl, hk, hgk, hpd, hrr, hrx⟩ := hrel
    have HGK : Hid (gk = N + 1 - k) := hgk
    have HRR : Hid (ReadR k (rest.drop 2) (bad || decide (rest.length < 2)) (L.map (·.1)) rk bk) := hrr
    have HRX : Hid (RdX w0 b rk bk wr) := hrx
    have hLl : L.length = k := by have := hrr.len; simpa using this
    have HLL : Hid (L.length = k) := hLl
    obtain ⟨vo, vc, hv⟩ := hpd.rows.form
    subst hv
    have HPD : Hid (PrS w b bx s0 L (.slice vo L.length vc) wr) := hpd
    have hhi := hpd.hi
    have l0 : wr.cell? ⟨bx, 0, none⟩ = some (.int .i64 s0) := hpd.lv.cell 0
    have l1 : wr.cell? ⟨bx, 1, none⟩ = some (.slice vo L.length vc) := hpd.lv.cell 1
    have hbxl : bx < wr.heap.size := hpd.lv.lt
    clear hgk hrr hrx hLl hpd
    by_cases hlt : k < N
    case neg =>
      have y2 : ¬ (k : Int) < (N : Int) := by omega
      have s00 : wr.cell? ⟨w.heap.size, 0, none⟩ = some (.int .i64 0) := HPD.out.res.cell 0
      have s01 : wr.cell? ⟨w.heap.size, 1, none⟩ = some (.slice none 0 0) := HPD.out.res.cell 1
      have zf : ∀ j, wr.frozen? ⟨w.heap.size, j, none⟩ = false := fun j => HPD.out.res.frozen j
      go_wp2
      have hrw := (HPD.out.rows.setCell (a := ⟨w.heap.size, 0, none⟩) (by dsimp only; omega) (.int .i64 s0)).setCell (a := ⟨w.heap.size, 1, none⟩) (by dsimp only; omega) (.slice vo L.length vc)
      have hkN : k = N := by omega
      have hr := HRR.out
      rw [hkN] at hr
      refine bodyPost_ret (v := .agg #[.int .i64 s0, .slice vo L.length vc]) ?_ rfl ⟨N, bx + 1, L, vo, vc, rk, bk, by rw [HS0.out], HNN.out, hN5, by omega, hrw, hr, (HRX.out.set (by dsimp only; omega) _).set (by dsimp only; omega) _, (HPD.out.off.set (Or.inl (Nat.le_refl _)) _).set (Or.inl (Nat.le_refl _)) _⟩
      simp [results, Try.results70, go_sem, s00, s01]
    have y2 : (k : Int) < (N : Int) := by omega
    have hLk : L.length ≤ 255 := by have := HLL.out; omega
    have HRO : Hid (∀ wx : World, RdX w0 b rk bk wx → Calls Try.prog 122 #[.pointer (some ⟨b, 0, none⟩)] wx fun e w' => RowRP w0 b rk bk wx e w') := fun wx hx => rowR hx
    unfold RowRP at HRO
    obtain ⟨rd0, hrd0⟩ : ∃ rd0, rd0 = rk.getD 0 0 := ⟨_, rfl⟩
    obtain ⟨rd1, hrd1⟩ : ∃ rd1, rd1 = rk.getD 1 0 := ⟨_, rfl⟩
    obtain ⟨rd2, hrd2⟩ : ∃ rd2, rd2 = rk.getD 2 0 := ⟨_, rfl⟩
    obtain ⟨rd3, hrd3⟩ : ∃ rd3, rd3 = rk.getD 3 0 := ⟨_, rfl⟩
    obtain ⟨rd4, hrd4⟩ : ∃ rd4, rd4 = rk.getD 4 0 := ⟨_, rfl⟩
    obtain ⟨rd5, hrd5⟩ : ∃ rd5, rd5 = rk.getD 5 0 := ⟨_, rfl⟩
    rw [← hrd0, ← hrd1, ← hrd2, ← hrd3, ← hrd4, ← hrd5] at HRO
    clear hrd0 hrd1 hrd2 hrd3 hrd4 hrd5 l0
    go_upto_region 4 with fail
    obtain ⟨t0', hi0, hy0, hy1, hy2⟩ := info_parts (P := Try.prog) (e := 92) (z := .agg #[.int .i64 0, .int .i64 0, .int .i64 0, .int .i64 0, .int .i64 0, .int .i64 0, .slice none 0 0, .slice none 0 0]) (size := 8) (bytes := 96) (by kernel_rfl)
    refine wp_region_held_drew (S := (fun _ => True)) (by rfl) ?_ (fun hHeld => ?_)
    · (exact trivial)
    refine wpAnyH_take (i := 0) (v := ?_) rfl (by kernel_rfl) (by kernel_rfl) (by kernel_rfl) (fun _ _ _ h => h) (Or.inl ⟨by rfl, ?_⟩) (by assumption) ?_
    case refine_2 => (intro w hSw; (try dsimp only at hSw); go_simp; first | done | (with_reducible rfl))
    show wpAnyH _ _ _ _ _ _ _ (Act.put _ (some 11) _) _
    simp only [Act.put, List.setIfInBounds_toArray, List.set_cons_zero, List.set_cons_succ]
    refine wpAnyH_take (i := 2) (v := ?_) rfl (by kernel_rfl) (by kernel_rfl) (by kernel_rfl) (fun _ _ _ h => h) (Or.inl ⟨by rfl, ?_⟩) (by assumption) ?_
    case refine_2 => (intro w hSw; (try dsimp only at hSw); go_simp; first | done | (with_reducible rfl))
    show wpAnyH _ _ _ _ _ _ _ (Act.put _ (some 13) _) _
    simp only [Act.put, List.setIfInBounds_toArray, List.set_cons_zero, List.set_cons_succ]
    refine wpAnyH_ready (rs := [1, 3]) (by kernel_rfl) (by simp) ?_
    refine (AllReadyH.cons rfl (fun K hK => ?_) (AllReadyH.cons rfl (fun K hK => ?_) AllReadyH.nil))
    · go_simp
      refine hK.out _ _ ?_ (fun hHeld => ?_)
      · (exact trivial)
      clear hK K
      try simp only [Act.put, List.setIfInBounds_toArray, List.set_cons_zero, List.set_cons_succ]
      refine wpAnyH_ready (rs := [3]) (by kernel_rfl) (by simp) ?_
      refine (AllReadyH.cons rfl (fun K hK => ?_) AllReadyH.nil)
      go_simp
      refine (HRO.out _ (HRX.out.below ((Below.refl _ _).drew))).mono ?_
      rintro e w5 ⟨vb, va, be, af, r1, b1, rfl, hob, hoa, hle, hrr1, hrx1, hof1⟩
      obtain ⟨bo, bc, hvb⟩ := own_formC hob
      subst hvb
      obtain ⟨ao, ac, hva⟩ := own_formC hoa
      subst hva
      have hof : OffB b wr w5 := (OffB.of_below ((Below.refl _ _).drew)).trans hof1
      have HP5 : Hid (PrS w b bx s0 L (.slice vo L.length vc) w5) := HPD.out.call hof
      have HOB : Hid (w5.ownsRow (wr.heap.size + 2) 158 6 (.slice bo be.length bc) be.length (be.flatMap mvC)) := hob
      have HOA : Hid (w5.ownsRow (wr.heap.size + 2) 158 6 (.slice ao af.length ac) af.length (af.flatMap mvC)) := hoa
      have HLE : Hid (be.length ≤ 255 ∧ af.length ≤ 255) := hle
      have HR1 : Hid (ReadR 1 rk bk [(⟨⟨rd0, rd1⟩, ⟨rd2, rd3⟩, ⟨rd4, rd5⟩, be, af⟩ : LRow)] r1 b1) := hrr1
      have HX5 : Hid (RdX w0 b r1 b1 w5) := hrx1
      have l15 : w5.cell? ⟨bx, 1, none⟩ = some (.slice vo L.length vc) := HP5.out.lv.cell 1
      have hl5 : bx < w5.heap.size := World.block_lt_of_cell? _ _ l15
      clear hob hoa hle hrr1 hrx1 hof1 hof
      go_wp2_with fail
      refine hK.out _ _ ?_ (fun hHeld => ?_)
      · (exact trivial)
      clear hK K
      try simp only [Act.put, List.setIfInBounds_toArray, List.set_cons_zero, List.set_cons_succ]
      refine wpAnyH_ready (rs := [4]) (by kernel_rfl) (by simp) ?_
      refine (AllReadyH.cons rfl (fun K hK => ?_) AllReadyH.nil)
      go_simp
      refine hK.out _ _ ?_ (fun hHeld => ?_)
      · (exact trivial)
      clear hK K
      try simp only [Act.put, List.setIfInBounds_toArray, List.set_cons_zero, List.set_cons_succ]
      have HB6 : Hid (Below w5.heap.size w5 (w5.alloc (.cells #[.int .i64 rd0, .int .i64 rd1, .int .i64 rd2, .int .i64 rd3, .int .i64 rd4, .int .i64 rd5, .slice bo be.length bc, .slice ao af.length ac] 92))) := (Below.refl _ _).alloc (Nat.le_refl _) _
      have HP6 : Hid (PrS w b bx s0 L (.slice vo L.length vc) (w5.alloc (.cells #[.int .i64 rd0, .int .i64 rd1, .int .i64 rd2, .int .i64 rd3, .int .i64 rd4, .int .i64 rd5, .slice bo be.length bc, .slice ao af.length ac] 92))) := HP5.out.call (OffB.of_below HB6.out)
      refine wpAnyH_ready (rs := [5]) (by kernel_rfl) (by simp) ?_
      refine (AllReadyH.cons rfl (fun K hK => ?_) AllReadyH.nil)
      (refine step_append_lies _ (by rfl) _ _ _ (by rfl) (bx + 1) 92 t0' _ 8 96 Try.underlying40 hi0 hy0 hy1 hy2 rfl (by omega) (.slice vo L.length vc) L.length (L.flatMap rowC) (by rfl) HP6.out.rows.own
          ⟨w5.heap.size, 0, none⟩ 1 1 [.int .i64 rd0, .int .i64 rd1, .int .i64 rd2, .int .i64 rd3, .int .i64 rd4, .int .i64 rd5, .slice bo be.length bc, .slice ao af.length ac] (by rfl) (by rfl) (World.news_of_block (cs := #[.int .i64 rd0, .int .i64 rd1, .int .i64 rd2, .int .i64 rd3, .int .i64 rd4, .int .i64 rd5, .slice bo be.length bc, .slice ao af.length ac]) (t := 92) (fr := (0, 0)) (heap_alloc_new w5 _)) (by simp [Value.oneCell'])
          (by omega) (by unfold maxLen; omega) (by omega) (by simp; omega) (w5.heap.size + 1) (by simp) ?_; intro g2 cap2 w7 hown1 hgrow hat hlt3)
      have hmvb : MvOkC (bx + 1) (Value.slice vo L.length vc).ownBlock (w5.alloc (.cells #[.int .i64 rd0, .int .i64 rd1, .int .i64 rd2, .int .i64 rd3, .int .i64 rd4, .int .i64 rd5, .slice bo be.length bc, .slice ao af.length ac] 92)) (.slice bo be.length bc) be := own_mv (lo := wr.heap.size + 2) (World.ownsRow.alloc HOB.out _) (by have := HLE.out; omega) (by omega) (fun c hc e => by have := (HPD.out.own_ge e.symm).2; omega)
      have hmva : MvOkC (bx + 1) (Value.slice vo L.length vc).ownBlock (w5.alloc (.cells #[.int .i64 rd0, .int .i64 rd1, .int .i64 rd2, .int .i64 rd3, .int .i64 rd4, .int .i64 rd5, .slice bo be.length bc, .slice ao af.length ac] 92)) (.slice ao af.length ac) af := own_mv (lo := wr.heap.size + 2) (World.ownsRow.alloc HOA.out _) (by have := HLE.out; omega) (by omega) (fun c hc e => by have := (HPD.out.own_ge e.symm).2; omega)
      have hpush := HP6.out.push (x := ((⟨⟨rd0, rd1⟩, ⟨rd2, rd3⟩, ⟨rd4, rd5⟩, be, af⟩ : LRow), .slice bo be.length bc, .slice ao af.length ac)) ⟨hmvb, hmva⟩ hown1 hgrow (by rcases hat with hat | hat; exact Or.inl hat; exact Or.inr (by rw [hat]; simp))
      have HPU : Hid (PrS w b bx s0 (L ++ [((⟨⟨rd0, rd1⟩, ⟨rd2, rd3⟩, ⟨rd4, rd5⟩, be, af⟩ : LRow), .slice bo be.length bc, .slice ao af.length ac)]) (.slice (some ⟨g2, 0, none⟩) (L.length + 1) cap2) (w7.setCell ⟨bx, 1, none⟩ (.slice (some ⟨g2, 0, none⟩) (L.length + 1) cap2))) := hpush
      have hne1 : some bx ≠ (Value.slice vo L.length vc).ownBlock := fun e => by have := (HPD.out.own_ge e.symm).1; omega
      have cz : w7.cell? ⟨bx, 1, none⟩ = some (.slice vo L.length vc) := hgrow.cell (HP6.out.lv.cell 1) hne1
      have fz : w7.frozen? ⟨bx, 1, none⟩ = false := (HP6.out.lv.grown hgrow hne1).frozen 1
      have HX7 : Hid (RdX w0 b r1 b1 (w7.setCell ⟨bx, 1, none⟩ (.slice (some ⟨g2, 0, none⟩) (L.length + 1) cap2))) := ((HX5.out.below HB6.out).grown hgrow (fun j hj => by have := (HPD.out.own_ge hj).1; omega)).set (by dsimp only; omega) _
      clear hmvb hmva hpush hown1 hgrow hat hne1
      refine hK.out _ _ ?_ (fun hHeld => ?_)
      · (exact trivial)
      clear hK K
      show wpAnyH _ _ _ _ _ _ _ (Act.put _ (some 16) _) _
      simp only [Act.put, List.setIfInBounds_toArray, List.set_cons_zero, List.set_cons_succ]
      refine wpAnyH_take (i := 6) (v := ?_) rfl (by kernel_rfl) (by kernel_rfl) (by kernel_rfl) (fun _ _ _ h => h) (Or.inl ⟨by rfl, ?_⟩) (by assumption) ?_
      case refine_2 => (intro w hSw; (try dsimp only at hSw); go_simp; first | done | (with_reducible rfl))
      show wpAnyH _ _ _ _ _ _ _ (Act.put _ (some 17) _) _
      simp only [Act.put, List.setIfInBounds_toArray, List.set_cons_zero, List.set_cons_succ]
      refine wpAnyH_ready (rs := [7]) (by kernel_rfl) (by simp) ?_
      refine (AllReadyH.cons rfl (fun K hK => ?_) AllReadyH.nil)
      go_simp
      refine hK.out _ _ ?_ (fun hHeld => ?_)
      · (exact trivial)
      clear hK K
      try simp only [Act.put, List.setIfInBounds_toArray, List.set_cons_zero, List.set_cons_succ]
      refine wpAnyH_done (by kernel_rfl) ?_ _
      clear hHeld
      go_wp2
      have hgk := HGK.out
      go_roundg (gk - 1)
      case measure => omega
      case rel =>
        have hst := HRR.out.step HR1.out
        exact ⟨k + 1, _, _, r1, b1, by go_num, by omega, by omega, HPU.out, by rw [List.map_append]; exact hst, HX7.out⟩
    · go_simp
      refine (HRO.out _ (HRX.out.below ((Below.refl _ _).drew))).mono ?_
      rintro e w5 ⟨vb, va, be, af, r1, b1, rfl, hob, hoa, hle, hrr1, hrx1, hof1⟩
      obtain ⟨bo, bc, hvb⟩ := own_formC hob
      subst hvb
      obtain ⟨ao, ac, hva⟩ := own_formC hoa
      subst hva
      have hof : OffB b wr w5 := (OffB.of_below ((Below.refl _ _).drew)).trans hof1
      have HP5 : Hid (PrS w b bx s0 L (.slice vo L.length vc) w5) := HPD.out.call hof
      have HOB : Hid (w5.ownsRow (wr.heap.size + 2) 158 6 (.slice bo be.length bc) be.length (be.flatMap mvC)) := hob
      have HOA : Hid (w5.ownsRow (wr.heap.size + 2) 158 6 (.slice ao af.length ac) af.length (af.flatMap mvC)) := hoa
      have HLE : Hid (be.length ≤ 255 ∧ af.length ≤ 255) := hle
      have HR1 : Hid (ReadR 1 rk bk [(⟨⟨rd0, rd1⟩, ⟨rd2, rd3⟩, ⟨rd4, rd5⟩, be, af⟩ : LRow)] r1 b1) := hrr1
      have HX5 : Hid (RdX w0 b r1 b1 w5) := hrx1
      have l15 : w5.cell? ⟨bx, 1, none⟩ = some (.slice vo L.length vc) := HP5.out.lv.cell 1
      have hl5 : bx < w5.heap.size := World.block_lt_of_cell? _ _ l15
      clear hob hoa hle hrr1 hrx1 hof1 hof
      go_wp2_with fail
      refine hK.out _ _ ?_ (fun hHeld => ?_)
      · (exact trivial)
      clear hK K
      try simp only [Act.put, List.setIfInBounds_toArray, List.set_cons_zero, List.set_cons_succ]
      refine wpAnyH_ready (rs := [1, 4]) (by kernel_rfl) (by simp) ?_
      refine (AllReadyH.cons rfl (fun K hK => ?_) (AllReadyH.cons rfl (fun K hK => ?_) AllReadyH.nil))
      · go_simp
        refine hK.out _ _ ?_ (fun hHeld => ?_)
        · (exact trivial)
        clear hK K
        try simp only [Act.put, List.setIfInBounds_toArray, List.set_cons_zero, List.set_cons_succ]
        refine wpAnyH_ready (rs := [4]) (by kernel_rfl) (by simp) ?_
        refine (AllReadyH.cons rfl (fun K hK => ?_) AllReadyH.nil)
        go_simp
        refine hK.out _ _ ?_ (fun hHeld => ?_)
        · (exact trivial)
        clear hK K
        try simp only [Act.put, List.setIfInBounds_toArray, List.set_cons_zero, List.set_cons_succ]
        have HB6 : Hid (Below w5.heap.size w5 (w5.alloc (.cells #[.int .i64 rd0, .int .i64 rd1, .int .i64 rd2, .int .i64 rd3, .int .i64 rd4, .int .i64 rd5, .slice bo be.length bc, .slice ao af.length ac] 92))) := (Below.refl _ _).alloc (Nat.le_refl _) _
        have HP6 : Hid (PrS w b bx s0 L (.slice vo L.length vc) (w5.alloc (.cells #[.int .i64 rd0, .int .i64 rd1, .int .i64 rd2, .int .i64 rd3, .int .i64 rd4, .int .i64 rd5, .slice bo be.length bc, .slice ao af.length ac] 92))) := HP5.out.call (OffB.of_below HB6.out)
        refine wpAnyH_ready (rs := [5]) (by kernel_rfl) (by simp) ?_
        refine (AllReadyH.cons rfl (fun K hK => ?_) AllReadyH.nil)
        (refine step_append_lies _ (by rfl) _ _ _ (by rfl) (bx + 1) 92 t0' _ 8 96 Try.underlying40 hi0 hy0 hy1 hy2 rfl (by omega) (.slice vo L.length vc) L.length (L.flatMap rowC) (by rfl) HP6.out.rows.own
            ⟨w5.heap.size, 0, none⟩ 1 1 [.int .i64 rd0, .int .i64 rd1, .int .i64 rd2, .int .i64 rd3, .int .i64 rd4, .int .i64 rd5, .slice bo be.length bc, .slice ao af.length ac] (by rfl) (by rfl) (World.news_of_block (cs := #[.int .i64 rd0, .int .i64 rd1, .int .i64 rd2, .int .i64 rd3, .int .i64 rd4, .int .i64 rd5, .slice bo be.length bc, .slice ao af.length ac]) (t := 92) (fr := (0, 0)) (heap_alloc_new w5 _)) (by simp [Value.oneCell'])
            (by omega) (by unfold maxLen; omega) (by omega) (by simp; omega) (w5.heap.size + 1) (by simp) ?_; intro g2 cap2 w7 hown1 hgrow hat hlt3)
        have hmvb : MvOkC (bx + 1) (Value.slice vo L.length vc).ownBlock (w5.alloc (.cells #[.int .i64 rd0, .int .i64 rd1, .int .i64 rd2, .int .i64 rd3, .int .i64 rd4, .int .i64 rd5, .slice bo be.length bc, .slice ao af.length ac] 92)) (.slice bo be.length bc) be := own_mv (lo := wr.heap.size + 2) (World.ownsRow.alloc HOB.out _) (by have := HLE.out; omega) (by omega) (fun c hc e => by have := (HPD.out.own_ge e.symm).2; omega)
        have hmva : MvOkC (bx + 1) (Value.slice vo L.length vc).ownBlock (w5.alloc (.cells #[.int .i64 rd0, .int .i64 rd1, .int .i64 rd2, .int .i64 rd3, .int .i64 rd4, .int .i64 rd5, .slice bo be.length bc, .slice ao af.length ac] 92)) (.slice ao af.length ac) af := own_mv (lo := wr.heap.size + 2) (World.ownsRow.alloc HOA.out _) (by have := HLE.out; omega) (by omega) (fun c hc e => by have := (HPD.out.own_ge e.symm).2; omega)
        have hpush := HP6.out.push (x := ((⟨⟨rd0, rd1⟩, ⟨rd2, rd3⟩, ⟨rd4, rd5⟩, be, af⟩ : LRow), .slice bo be.length bc, .slice ao af.length ac)) ⟨hmvb, hmva⟩ hown1 hgrow (by rcases hat with hat | hat; exact Or.inl hat; exact Or.inr (by rw [hat]; simp))
        have HPU : Hid (PrS w b bx s0 (L ++ [((⟨⟨rd0, rd1⟩, ⟨rd2, rd3⟩, ⟨rd4, rd5⟩, be, af⟩ : LRow), .slice bo be.length bc, .slice ao af.length ac)]) (.slice (some ⟨g2, 0, none⟩) (L.length + 1) cap2) (w7.setCell ⟨bx, 1, none⟩ (.slice (some ⟨g2, 0, none⟩) (L.length + 1) cap2))) := hpush
        have hne1 : some bx ≠ (Value.slice vo L.length vc).ownBlock := fun e => by have := (HPD.out.own_ge e.symm).1; omega
        have cz : w7.cell? ⟨bx, 1, none⟩ = some (.slice vo L.length vc) := hgrow.cell (HP6.out.lv.cell 1) hne1
        have fz : w7.frozen? ⟨bx, 1, none⟩ = false := (HP6.out.lv.grown hgrow hne1).frozen 1
        have HX7 : Hid (RdX w0 b r1 b1 (w7.setCell ⟨bx, 1, none⟩ (.slice (some ⟨g2, 0, none⟩) (L.length + 1) cap2))) := ((HX5.out.below HB6.out).grown hgrow (fun j hj => by have := (HPD.out.own_ge hj).1; omega)).set (by dsimp only; omega) _
        clear hmvb hmva hpush hown1 hgrow hat hne1
        refine hK.out _ _ ?_ (fun hHeld => ?_)
        · (exact trivial)
        clear hK K
        show wpAnyH _ _ _ _ _ _ _ (Act.put _ (some 16) _) _
        simp only [Act.put, List.setIfInBounds_toArray, List.set_cons_zero, List.set_cons_succ]
        refine wpAnyH_take (i := 6) (v := ?_) rfl (by kernel_rfl) (by kernel_rfl) (by kernel_rfl) (fun _ _ _ h => h) (Or.inl ⟨by rfl, ?_⟩) (by assumption) ?_
        case refine_2 => (intro w hSw; (try dsimp only at hSw); go_simp; first | done | (with_reducible rfl))
        show wpAnyH _ _ _ _ _ _ _ (Act.put _ (some 17) _) _
        simp only [Act.put, List.setIfInBounds_toArray, List.set_cons_zero, List.set_cons_succ]
        refine wpAnyH_ready (rs := [7]) (by kernel_rfl) (by simp) ?_
        refine (AllReadyH.cons rfl (fun K hK => ?_) AllReadyH.nil)
        go_simp
        refine hK.out _ _ ?_ (fun hHeld => ?_)
        · (exact trivial)
        clear hK K
        try simp only [Act.put, List.setIfInBounds_toArray, List.set_cons_zero, List.set_cons_succ]
        refine wpAnyH_done (by kernel_rfl) ?_ _
        clear hHeld
        go_wp2
        have hgk := HGK.out
        go_roundg (gk - 1)
        case measure => omega
        case rel =>
          have hst := HRR.out.step HR1.out
          exact ⟨k + 1, _, _, r1, b1, by go_num, by omega, by omega, HPU.out, by rw [List.map_append]; exact hst, HX7.out⟩
      · go_simp
        refine hK.out _ _ ?_ (fun hHeld => ?_)
        · (exact trivial)
        clear hK K
        try simp only [Act.put, List.setIfInBounds_toArray, List.set_cons_zero, List.set_cons_succ]
        refine wpAnyH_ready (rs := [1]) (by kernel_rfl) (by simp) ?_
        refine (AllReadyH.cons rfl (fun K hK => ?_) AllReadyH.nil)
        go_simp
        refine hK.out _ _ ?_ (fun hHeld => ?_)
        · (exact trivial)
        clear hK K
        try simp only [Act.put, List.setIfInBounds_toArray, List.set_cons_zero, List.set_cons_succ]
        have HB6 : Hid (Below w5.heap.size w5 (w5.alloc (.cells #[.int .i64 rd0, .int .i64 rd1, .int .i64 rd2, .int .i64 rd3, .int .i64 rd4, .int .i64 rd5, .slice bo be.length bc, .slice ao af.length ac] 92))) := (Below.refl _ _).alloc (Nat.le_refl _) _
        have HP6 : Hid (PrS w b bx s0 L (.slice vo L.length vc) (w5.alloc (.cells #[.int .i64 rd0, .int .i64 rd1, .int .i64 rd2, .int .i64 rd3, .int .i64 rd4, .int .i64 rd5, .slice bo be.length bc, .slice ao af.length ac] 92))) := HP5.out.call (OffB.of_below HB6.out)
        refine wpAnyH_ready (rs := [5]) (by kernel_rfl) (by simp) ?_
        refine (AllReadyH.cons rfl (fun K hK => ?_) AllReadyH.nil)
        (refine step_append_lies _ (by rfl) _ _ _ (by rfl) (bx + 1) 92 t0' _ 8 96 Try.underlying40 hi0 hy0 hy1 hy2 rfl (by omega) (.slice vo L.length vc) L.length (L.flatMap rowC) (by rfl) HP6.out.rows.own
            ⟨w5.heap.size, 0, none⟩ 1 1 [.int .i64 rd0, .int .i64 rd1, .int .i64 rd2, .int .i64 rd3, .int .i64 rd4, .int .i64 rd5, .slice bo be.length bc, .slice ao af.length ac] (by rfl) (by rfl) (World.news_of_block (cs := #[.int .i64 rd0, .int .i64 rd1, .int .i64 rd2, .int .i64 rd3, .int .i64 rd4, .int .i64 rd5, .slice bo be.length bc, .slice ao af.length ac]) (t := 92) (fr := (0, 0)) (heap_alloc_new w5 _)) (by simp [Value.oneCell'])
            (by omega) (by unfold maxLen; omega) (by omega) (by simp; omega) (w5.heap.size + 1) (by simp) ?_; intro g2 cap2 w7 hown1 hgrow hat hlt3)
        have hmvb : MvOkC (bx + 1) (Value.slice vo L.length vc).ownBlock (w5.alloc (.cells #[.int .i64 rd0, .int .i64 rd1, .int .i64 rd2, .int .i64 rd3, .int .i64 rd4, .int .i64 rd5, .slice bo be.length bc, .slice ao af.length ac] 92)) (.slice bo be.length bc) be := own_mv (lo := wr.heap.size + 2) (World.ownsRow.alloc HOB.out _) (by have := HLE.out; omega) (by omega) (fun c hc e => by have := (HPD.out.own_ge e.symm).2; omega)
        have hmva : MvOkC (bx + 1) (Value.slice vo L.length vc).ownBlock (w5.alloc (.cells #[.int .i64 rd0, .int .i64 rd1, .int .i64 rd2, .int .i64 rd3, .int .i64 rd4, .int .i64 rd5, .slice bo be.length bc, .slice ao af.length ac] 92)) (.slice ao af.length ac) af := own_mv (lo := wr.heap.size + 2) (World.ownsRow.alloc HOA.out _) (by have := HLE.out; omega) (by omega) (fun c hc e => by have := (HPD.out.own_ge e.symm).2; omega)
        have hpush := HP6.out.push (x := ((⟨⟨rd0, rd1⟩, ⟨rd2, rd3⟩, ⟨rd4, rd5⟩, be, af⟩ : LRow), .slice bo be.length bc, .slice ao af.length ac)) ⟨hmvb, hmva⟩ hown1 hgrow (by rcases hat with hat | hat; exact Or.inl hat; exact Or.inr (by rw [hat]; simp))
        have HPU : Hid (PrS w b bx s0 (L ++ [((⟨⟨rd0, rd1⟩, ⟨rd2, rd3⟩, ⟨rd4, rd5⟩, be, af⟩ : LRow), .slice bo be.length bc, .slice ao af.length ac)]) (.slice (some ⟨g2, 0, none⟩) (L.length + 1) cap2) (w7.setCell ⟨bx, 1, none⟩ (.slice (some ⟨g2, 0, none⟩) (L.length + 1) cap2))) := hpush
        have hne1 : some bx ≠ (Value.slice vo L.length vc).ownBlock := fun e => by have := (HPD.out.own_ge e.symm).1; omega
        have cz : w7.cell? ⟨bx, 1, none⟩ = some (.slice vo L.length vc) := hgrow.cell (HP6.out.lv.cell 1) hne1
        have fz : w7.frozen? ⟨bx, 1, none⟩ = false := (HP6.out.lv.grown hgrow hne1).frozen 1
        have HX7 : Hid (RdX w0 b r1 b1 (w7.setCell ⟨bx, 1, none⟩ (.slice (some ⟨g2, 0, none⟩) (L.length + 1) cap2))) := ((HX5.out.below HB6.out).grown hgrow (fun j hj => by have := (HPD.out.own_ge hj).1; omega)).set (by dsimp only; omega) _
        clear hmvb hmva hpush hown1 hgrow hat hne1
        refine hK.out _ _ ?_ (fun hHeld => ?_)
        · (exact trivial)
        clear hK K
        show wpAnyH _ _ _ _ _ _ _ (Act.put _ (some 16) _) _
        simp only [Act.put, List.setIfInBounds_toArray, List.set_cons_zero, List.set_cons_succ]
        refine wpAnyH_take (i := 6) (v := ?_) rfl (by kernel_rfl) (by kernel_rfl) (by kernel_rfl) (fun _ _ _ h => h) (Or.inl ⟨by rfl, ?_⟩) (by assumption) ?_
        case refine_2 => (intro w hSw; (try dsimp only at hSw); go_simp; first | done | (with_reducible rfl))
        show wpAnyH _ _ _ _ _ _ _ (Act.put _ (some 17) _) _
        simp only [Act.put, List.setIfInBounds_toArray, List.set_cons_zero, List.set_cons_succ]
        refine wpAnyH_ready (rs := [7]) (by kernel_rfl) (by simp) ?_
        refine (AllReadyH.cons rfl (fun K hK => ?_) AllReadyH.nil)
        go_simp
        refine hK.out _ _ ?_ (fun hHeld => ?_)
        · (exact trivial)
        clear hK K
        try simp only [Act.put, List.setIfInBounds_toArray, List.set_cons_zero, List.set_cons_succ]
        refine wpAnyH_done (by kernel_rfl) ?_ _
        clear hHeld
        go_wp2
        have hgk := HGK.out
        go_roundg (gk - 1)
        case measure => omega
        case rel =>
          have hst := HRR.out.step HR1.out
          exact ⟨k + 1, _, _, r1, b1, by go_num, by omega, by omega, HPU.out, by rw [List.map_append]; exact hst, HX7.out⟩

theorem get_fin {bs : List Int} {N : Nat} {R : List LRow} {rest' : List Int} {bad' : Bool} (hN : (N : Int) = bs.getD 1 0) (h : ReadR N (bs.drop 2) (false || decide (bs.length < 2)) R rest' bad') :
    ((bad' = true ∨ rest' ≠ []) → getB bs = none) ∧ (bad' = false → rest' = [] → getB bs = some (bs.getD 0 0, R)) := by
  by_cases hs : bs.length < 2
  · have hb : bad' = true := by rw [h.bad]; simp [hs]
    exact ⟨fun _ => getB_short hs, fun e => by rw [hb] at e; exact absurd e (by simp)⟩
  · match bs, hs with
    | [], hs => exact absurd (by simp) hs
    | [_], hs => exact absurd (by simp) hs
    | x :: n :: t, hs =>
      have hn : n.toNat = N := by simp at hN; omega
      have hb := h.bad
      have hi := h.is
      have e1 : (x :: n :: t).drop 2 = t := rfl
      have e2 : decide ((x :: n :: t).length < 2) = false := decide_eq_false hs
      rw [e1, e2] at hb
      rw [e1] at hi
      rw [getB_cons, hn]
      refine ⟨fun hor => ?_, fun hbf hre => ?_⟩
      · cases hbd : bad' with
        | true =>
          rw [hbd] at hb
          cases hg : getRows N t with
          | none => rfl
          | some y => rw [hg] at hb; exact absurd hb (by simp)
        | false =>
          rcases hor with hor | hor
          · rw [hbd] at hor; exact absurd hor (by simp)
          · rw [hi hbd]
            cases rest' with
            | nil => exact absurd rfl hor
            | cons z zs => rfl
      · rw [hi hbf, hre]
        rfl

set_option maxHeartbeats 1000000 in
theorem getO (v : Value) (bs : List Int) (w : World) (h : BytesIs w v bs) : Calls Try.prog 31 #[v] w fun e w' => OwnGet w bs e w' := by
  have HBY : Hid (BytesIs w v bs) := h
  obtain ⟨ao, cap, rfl, -, -, -, -⟩ := h
  obtain ⟨w1, hw1⟩ : ∃ w1, w1 = w.alloc (.cells #[.int .i64 0, .slice none 0 0] 42) := ⟨_, rfl⟩
  have hlb1 : Below w.heap.size w w1 := by rw [hw1]; exact (Below.refl _ _).alloc (Nat.le_refl _) _
  have hr1 : Row w1 w.heap.size 42 [.int .i64 0, .slice none 0 0] := by rw [hw1]; exact Row.new _ _ _
  have hz1 : w1.heap.size = w.heap.size + 1 := by rw [hw1]; simp
  obtain ⟨w2, hw2⟩ : ∃ w2, w2 = w1.alloc (.cells #[.slice ao bs.length cap, .bool false] 141) := ⟨_, rfl⟩
  have hlb2 : Below w1.heap.size w1 w2 := by rw [hw2]; exact (Below.refl _ _).alloc (Nat.le_refl _) _
  have HX2 : Hid (RdX w (w.heap.size + 1) bs false w2) := ⟨.slice ao bs.length cap, by rw [hw2, ← hz1]; exact Row.new _ _ _, HBY.out, step_below hlb2 hlb1, by omega⟩
  have HR2 : Hid (Row w2 w.heap.size 42 [.int .i64 0, .slice none 0 0]) := hr1.below hlb2
  have hz2 : w2.heap.size = w.heap.size + 2 := by rw [hw2]; simp [hz1]
  have HZ2 : Hid (w2.heap.size = w.heap.size + 2) := hz2
  rw [hw1] at hw2
  have HW2 : Hid (w2 = (w.alloc (.cells #[.int .i64 0, .slice none 0 0] 42)).alloc (.cells #[.slice ao bs.length cap, .bool false] 141)) := hw2
  have HPL : Hid (Calls Try.prog 70 #[.pointer (some ⟨w.heap.size + 1, 0, none⟩)] w2 fun e w' => PlacedRP w (w.heap.size + 1) bs false w2 e w') := placedR HX2.out
  unfold PlacedRP at HPL
  obtain ⟨s0, hs0⟩ : ∃ s0, s0 = bs.getD 0 0 := ⟨_, rfl⟩
  rw [← hs0] at HPL
  have HS0 : Hid (s0 = bs.getD 0 0) := hs0
  clear hlb1 hlb2 hr1 hz1 hz2 hw1 hw2 hs0
  go_enter Try.func31, Try.ntmps31
  go_upto_region 3 with (rw [← HW2.out]; go_at_call 70; refine HPL.out.mono ?_; rintro e w3 ⟨N, base, L, lo, lc, rest', bad', rfl, hN, hN5, hbase, hrw, hrr, hrx, hof⟩; have HNN : Hid ((N : Int) = bs.getD 1 0) := hN; have HN5 : Hid (N ≤ 255) := hN5; have HBS : Hid (w2.heap.size + 1 < base) := hbase; have HRW : Hid (RW base L (.slice lo L.length lc) w3) := hrw; have HRR : Hid (ReadR N (bs.drop 2) (false || decide (bs.length < 2)) (L.map (·.1)) rest' bad') := hrr; have HX3 : Hid (RdX w (w.heap.size + 1) rest' bad' w3) := hrx; have HR3 : Hid (Row w3 w.heap.size 42 [.int .i64 0, .slice none 0 0]) := hof.rows HR2.out (by omega); clear hN hN5 hbase hrw hrr hrx hof)
  clear HPL HW2 HR2 HX2
  obtain ⟨w4, hw4⟩ : ∃ w4, w4 = w3.alloc (.cells #[.int .i64 s0, .slice lo L.length lc] 42) := ⟨_, rfl⟩
  have hb4 : Below w3.heap.size w3 w4 := by rw [hw4]; exact (Below.refl _ _).alloc (Nat.le_refl _) _
  have HR4 : Hid (Row w4 w.heap.size 42 [.int .i64 0, .slice none 0 0]) := HR3.out.below hb4
  have hl4 : Row w4 w3.heap.size 42 [.int .i64 s0, .slice lo L.length lc] := by rw [hw4]; exact Row.new _ _ _
  have HX4 : Hid (RdX w (w.heap.size + 1) rest' bad' w4) := HX3.out.below hb4
  have HRW4 : Hid (RW base L (.slice lo L.length lc) w4) := HRW.out.below hb4
  rw [← hw4]
  obtain ⟨bx, hbx⟩ : ∃ bx, bx = w3.heap.size := ⟨_, rfl⟩
  rw [← hbx] at hl4 ⊢
  have hbx1 : w.heap.size + 1 < bx := by have := HX3.out.lt; omega
  have l0 : w4.cell? ⟨bx, 0, none⟩ = some (.int .i64 s0) := hl4.cell 0
  have l1 : w4.cell? ⟨bx, 1, none⟩ = some (.slice lo L.length lc) := hl4.cell 1
  have s00 : w4.cell? ⟨w.heap.size, 0, none⟩ = some (.int .i64 0) := HR4.out.cell 0
  have s01 : w4.cell? ⟨w.heap.size, 1, none⟩ = some (.slice none 0 0) := HR4.out.cell 1
  have zf : ∀ j, w4.frozen? ⟨w.heap.size, j, none⟩ = false := fun j => HR4.out.frozen j
  obtain ⟨rv, hrs⟩ := HX4.out
  obtain ⟨ro, rc, hrv, -, hr63, -, -⟩ := hrs.is
  subst hrv
  have c0 : w4.cell? ⟨w.heap.size + 1, 0, none⟩ = some (.slice ro rest'.length rc) := hrs.box.cell 0
  have c1 : w4.cell? ⟨w.heap.size + 1, 1, none⟩ = some (.bool bad') := hrs.box.cell 1
  have HBEL : Hid (Below w.heap.size w w4) := hrs.bel
  have hz0 : w.heap.size < bx := by omega
  have hLL : L.length ≤ 255 := by have h1 := HRR.out.len; rw [List.length_map] at h1; have h2 := HN5.out; omega
  have hfin := get_fin HNN.out HRR.out
  have HNO : Hid (bad' = true ∨ rest' ≠ [] → getB bs = none) := hfin.1
  have HYES : Hid (bad' = false → rest' = [] → getB bs = some (s0, L.map (·.1))) := by rw [HS0.out]; exact hfin.2
  have HLL : Hid (L.length ≤ 255) := hLL
  have hw02 : w.heap.size < base := by have h1 := HBS.out; have h2 := HZ2.out; omega
  clear hw4 hb4 hl4 hbx hrs hfin HR3 HX3 HRW HNN HRR HX4 hLL
  have hno : getB bs = none → Hid (OwnGet w bs (.returned (.tuple #[.agg #[.int .i64 0, .slice none 0 0], .int .i64 2])) ((w4.setCell ⟨w.heap.size, 0, none⟩ (.int .i64 0)).setCell ⟨w.heap.size, 1, none⟩ (.slice none 0 0))) := fun hg =>
    ⟨(HBEL.out.setCell (Nat.le_refl _) _).setCell (Nat.le_refl _) _, _, 2, 0, [], rfl, ⟨none, 0, rfl, by simp, fun hh => absurd hh (by simp)⟩, Or.inl ⟨hg, rfl, rfl, rfl⟩⟩
  cases bad' with
  | true =>
    have HF := hno (HNO.out (Or.inl rfl))
    clear hno
    go_wp2
    refine bodyPost_ret (v := .tuple #[.agg #[.int .i64 0, .slice none 0 0], .int .i64 2]) ?_ rfl HF.out
    simp [results, Try.results31, go_sem, s00, s01]
  | false =>
    cases rest' with
    | nil =>
      have HY := HYES.out rfl rfl
      have HF : Hid (OwnGet w bs (.returned (.tuple #[.agg #[.int .i64 s0, .slice lo L.length lc], .int .i64 0])) ((w4.setCell ⟨w.heap.size, 0, none⟩ (.int .i64 s0)).setCell ⟨w.heap.size, 1, none⟩ (.slice lo L.length lc))) :=
        ⟨(HBEL.out.setCell (Nat.le_refl _) _).setCell (Nat.le_refl _) _, _, 0, s0, L.map (·.1), rfl, ((HRW4.out.setCell (a := ⟨w.heap.size, 0, none⟩) (by dsimp only; omega) _).setCell (a := ⟨w.heap.size, 1, none⟩) (by dsimp only; omega) _).placed (by have := HLL.out; omega) s0, Or.inr ⟨HY, rfl⟩⟩
      clear HY hno
      simp only [List.length_nil] at c0
      clear hr63
      go_wp2
      refine bodyPost_ret (v := .tuple #[.agg #[.int .i64 s0, .slice lo L.length lc], .int .i64 0]) ?_ rfl HF.out
      simp [results, Try.results31, go_sem, s00, s01]
    | cons x t =>
      have HF := hno (HNO.out (Or.inr (by simp)))
      clear hno
      obtain ⟨n, hn⟩ : ∃ n, n = (x :: t).length := ⟨_, rfl⟩
      have hn1 : (0 : Int) < (n : Int) := by rw [hn, List.length_cons]; omega
      have hn2 : (n : Int) ≤ 9223372036854775807 := by rw [hn]; omega
      rw [← hn] at c0
      clear hn hr63
      go_wp2
      refine bodyPost_ret (v := .tuple #[.agg #[.int .i64 0, .slice none 0 0], .int .i64 2]) ?_ rfl HF.out
      simp [results, Try.results31, go_sem, s00, s01]

end Go.Proofs.Ytepfegfacdbhbab.form
