/- What loanbookref2.Uses and widths answer. -/
import Derived.Test.YtepfegfacdbhbabRefLeaves
import Derived.Test.YtepfegfacdbhbabFormProg
import Derived.Deep.RegionHeld3
import Derived.Deep.DrawnRows
import Derived.Deep.AppendLies
import Derived.BigQuiet
import Derived.WalkSmall
import Derived.Deep.QuietTactic
namespace Go.Proofs.Ytepfegfacdbhbab.form
open Go.RowKit
set_option linter.unusedVariables false
attribute [local go_sem ↓] Go.wp_at_zero Go.wp_at_succ

theorem many_of (op : Int) : manyI op = 0 ∨ manyI op = 1 ∨ manyI op = 2 := by
  unfold manyI; split; exact Or.inl rfl; split; exact Or.inr (Or.inl rfl); exact Or.inr (Or.inr rfl)

theorem uses (i : LIns) (m : Nat) (hm : manyI i.op = m) (w : World) :
    Calls Try.prog 130 #[i.val] w fun e w' => ∃ g, e = .returned (.slice (some ⟨g, 0, none⟩) m 2) ∧ Below w.heap.size w w' ∧ w.heap.size ≤ g ∧ g < w'.heap.size ∧ w'.cell? ⟨g, 0, none⟩ = some (.int .i64 i.a) ∧ w'.cell? ⟨g, 1, none⟩ = some (.int .i64 i.b) := by
  unfold LIns.val
  rcases (show m = 0 ∨ m = 1 ∨ m = 2 by have := many_of i.op; omega) with rfl | rfl | rfl
  all_goals
    go_enter Try.func130, Try.ntmps130
    go_wp2_with (go_at_call 51; refine (many _ _).mono ?_; rintro e w' ⟨rfl, rfl⟩; rw [hm])
    go_ret
    exact ⟨w.heap.size + 1, by simp, ((Below.refl _ _).alloc (Nat.le_refl _) _).alloc (by simp) _, by omega, by simp, by simp [go_sem], by simp [go_sem]⟩

/-- The widths of what an instruction gives and takes. -/
def bw (B : List Bool) (x : Int) : Bool := B.getD x.toNat false
def wl0 (B : List Bool) (i : LIns) : List Bool := if givesB i.op then [bw B i.dest] else []
def wl1 (B : List Bool) (i : LIns) (k : Nat) : List Bool := ([bw B i.a, bw B i.b] : List Bool).take k
def wl (B : List Bool) (i : LIns) : List Bool := wl0 B i ++ wl1 B i (manyI i.op).toNat
def widthsB (B : List Bool) (i : LIns) : Bool :=
  if i.op = 2 then (wl B i).getD 0 false == (wl B i).getD 1 false
  else if i.op = 5 then (wl B i).getD 0 false && !(wl B i).getD 1 false && !(wl B i).getD 2 false
  else if i.op = 6 ∨ i.op = 7 then !(wl B i).getD 0 false && (wl B i).getD 1 false
  else (wl B i).all (fun x => x == decide (40 < i.op))

theorem infoBool : (Try.prog.info? 4).map (fun i => (i.zero, i.size, i.bytes)) = some (some (.bool false), 1, 1) := by kernel_rfl

theorem grown_none {w w' : World} (h : w.grownBy w' none) : Below w.heap.size w w' := ⟨h.os, h.tape, h.output, h.size, fun k hk => h.block k hk (by simp)⟩

/-- What is known at the head of the first loop's rounds, and behind it. -/
structure WState (w : World) (b0 o0 c0 gu : Nat) (B : List Bool) (i : LIns) (v : Value) (L : List Bool) (wr : World) : Prop where
  bel : Below w.heap.size w wr
  size : w.heap.size + 2 ≤ wr.heap.size
  p0 : wr.cell? ⟨w.heap.size, 0, none⟩ = some (.slice (some ⟨b0, o0, none⟩) B.length c0)
  q0 : wr.cell? ⟨w.heap.size + 1, 0, none⟩ = some (.int .i64 i.op)
  ua : wr.cell? ⟨gu, 0, none⟩ = some (.int .i64 i.a)
  ub : wr.cell? ⟨gu, 1, none⟩ = some (.int .i64 i.b)
  gu2 : w.heap.size + 2 ≤ gu
  ne : v.ownBlock ≠ some gu
  own : wr.ownsRow (w.heap.size + 2) 4 1 v L.length (L.map Value.bool)

theorem block_of_cell {w : World} {p : Addr} {v : Value} (h : w.cell? p = some v) : p.block < w.heap.size := World.block_lt_of_cell? w _ h

/-- Behind an append of one more. -/
theorem WState.push {w : World} {b0 o0 c0 gu : Nat} {B : List Bool} {i : LIns} {v : Value} {L : List Bool} {wr w1 : World} (h : WState w b0 o0 c0 gu B i v L wr) {x : Bool} {o : Obj} {g cap : Nat}
    (hown : w1.ownsRow (w.heap.size + 2) 4 1 (.slice (some ⟨g, 0, none⟩) (L.length + 1) cap) (L.length + 1) (L.map Value.bool ++ [.bool x])) (hgrow : (wr.alloc o).drew.grownBy w1 v.ownBlock) (hat : v.ownBlock = some g ∨ g = wr.heap.size + 1) :
    WState w b0 o0 c0 gu B i (.slice (some ⟨g, 0, none⟩) (L.length + 1) cap) (L ++ [x]) w1 := by
  have hz := h.size
  have hgu := block_of_cell h.ua
  simp only at hgu
  have far : ∀ b, b < wr.heap.size → some b ≠ v.ownBlock → ∀ off v', wr.cell? ⟨b, off, none⟩ = some v' → w1.cell? ⟨b, off, none⟩ = some v' := by
    intro b hb hne off v' hc
    rw [hgrow.cell_far ⟨b, off, none⟩ (by show b < (wr.alloc o).heap.size; simp; omega) hne]
    exact step_cell (((Below.refl _ _).alloc (Nat.le_refl _) o).drew) hc
  have hv : ∀ k, v.ownBlock = some k → w.heap.size + 2 ≤ k := fun k hk => (h.own.lt k hk).1
  refine ⟨?_, ?_, ?_, ?_, ?_, ?_, h.gu2, ?_, ?_⟩
  · exact (((h.bel.alloc (by omega) o).drew)).grown hgrow (by show w.heap.size ≤ (wr.alloc o).heap.size; simp; omega) (fun k hk => by have := hv k hk; omega)
  · have h2 : (wr.alloc o).heap.size ≤ w1.heap.size := hgrow.size
    have h3 : (wr.alloc o).heap.size = wr.heap.size + 1 := by simp
    omega
  · exact far _ (by omega) (fun e => by have := hv _ e.symm; omega) _ _ h.p0
  · exact far _ (by omega) (fun e => by have := hv _ e.symm; omega) _ _ h.q0
  · exact far _ hgu (Ne.symm h.ne) _ _ h.ua
  · exact far _ hgu (Ne.symm h.ne) _ _ h.ub
  · rcases hat with e | e
    · intro e'; refine h.ne ?_; rw [e]; exact e'
    · simp only [Value.ownBlock]; intro e'; simp at e'; omega
  · simpa using hown

theorem own_form {w : World} {base : Nat} {e : TypeId} {v : Value} {xs : List Bool} (h : w.ownsRow base e 1 v xs.length (xs.map Value.bool)) :
    ∃ ao cap, v = .slice ao xs.length cap ∧ (0 < xs.length → ∃ g, ao = some ⟨g, 0, none⟩ ∧ ∀ j, j < xs.length → w.cell? ⟨g, j, none⟩ = some (.bool (xs.getD j false))) := by
  by_cases hn : 0 < xs.length
  · obtain ⟨g, cap, rfl, _, _⟩ := h.form hn
    refine ⟨_, cap, rfl, fun _ => ⟨g, rfl, fun j hj => ?_⟩⟩
    rw [World.ownsRow.cellAt h j (by omega)]
    simp [List.getD, hj]
  · rcases h.2 with ⟨rfl, h0⟩ | ⟨g, cap, cur, rfl, _⟩
    · exact ⟨none, 0, by rw [h0], fun hh => absurd hh hn⟩
    · exact ⟨_, cap, rfl, fun hh => absurd hh hn⟩

theorem wl_move (B : List Bool) (i : LIns) (h : i.op = 2) : wl B i = [bw B i.dest, bw B i.a] := by simp [wl, wl0, wl1, h, givesB, manyI]
theorem wl_pair (B : List Bool) (i : LIns) (h : i.op = 5) : wl B i = [bw B i.dest, bw B i.a, bw B i.b] := by simp [wl, wl0, wl1, h, givesB, manyI]
theorem wl_half (B : List Bool) (i : LIns) (h : i.op = 6 ∨ i.op = 7) : wl B i = [bw B i.dest, bw B i.a] := by rcases h with h | h <;> simp [wl, wl0, wl1, h, givesB, manyI]

set_option maxRecDepth 100000 in
set_option maxHeartbeats 1000000 in
theorem widths (b0 o0 c0 b1 o1 c1 : Nat) (B : List Bool) (C : List LIns) (i : LIns) (w : World) (hB : B.length ≤ 12) (hC : C.length ≤ 40) (h : Held w b0 o0 b1 o1 B C)
    (hd : givesB i.op = true → 0 ≤ i.dest ∧ i.dest < B.length) (ha : 0 < manyI i.op → 0 ≤ i.a ∧ i.a < B.length) (hb : 1 < manyI i.op → 0 ≤ i.b ∧ i.b < B.length) :
    Calls Try.prog 84 #[progV b0 o0 B.length c0 b1 o1 C.length c1, i.val] w fun e w' => e = .returned (.bool (widthsB B i)) ∧ Below w.heap.size w w' := by
  obtain ⟨t0, hi, hz0, hz1, hz2⟩ := info_parts infoBool
  obtain ⟨m, hm⟩ : ∃ m : Nat, manyI i.op = m := by rcases many_of i.op with e | e | e; exact ⟨0, e⟩; exact ⟨1, e⟩; exact ⟨2, e⟩
  have HM : Hid _ := hm
  have hm2 : m ≤ 2 := by have := many_of i.op; omega
  have ha' : 0 < m → 0 ≤ i.a ∧ i.a < B.length := fun hh => ha (by omega)
  have hb' : 1 < m → 0 ≤ i.b ∧ i.b < B.length := fun hh => hb (by omega)
  have HA : Hid _ := ha'
  have HBb : Hid _ := hb'
  clear ha hb ha' hb' hm
  have hlt0 := h.lt0
  unfold progV LIns.val
  cases hg : givesB i.op
  case true =>
    obtain ⟨hd1, hd2⟩ := hd hg
    have hcell : w.cell? ⟨b0, o0 + i.dest.toNat, none⟩ = some (.bool (bw B i.dest)) := h.wide _ (by omega)
    clear hd
    go_enter Try.func84, Try.ntmps84
    go_wp2_with (first
      | (go_at_call 50; refine (gives _ _).mono ?_; rintro e w' ⟨rfl, rfl⟩; rw [hg])
      | (at_builtin; refine wpList_append_lies _ rfl _ _ 22 rfl (w.heap.size + 2) 4 t0 (.bool false) 1 1 Try.underlying22 hi hz0 hz1 hz2 rfl (by decide) (.slice none 0 0) 0 [] rfl (World.ownsRow_nil _ _ _ _) ⟨w.heap.size + 2, 0, none⟩ 1 1 [.bool (bw B i.dest)] rfl rfl ?c1 ?c2 (by decide) ?c3 ?c4 ?c5 _ rfl ?_)
      | (go_at_call 130; refine (uses i m HM.out _).mono ?_; rintro e w' ⟨g, rfl, hbu, hg1, hg2, hua, hub⟩))
    case c1 => exact World.news_of_block (cs := #[.bool (bw B i.dest)]) (t := 4) (fr := (0, 0)) (by have := heap_alloc_new ((w.alloc (Obj.cells #[.slice (some ⟨b0, o0, none⟩) B.length c0, .slice (some ⟨b1, o1, none⟩) C.length c1] 25)).alloc (Obj.cells #[.int .i64 i.op, .int .i64 i.dest, .int .i64 i.a, .int .i64 i.b, .int .i64 i.c, .int .u32 i.n] 82)) (Obj.cells #[.bool (bw B i.dest)] 4); simpa using this)
    case c2 => simp [Value.oneCell']
    case c3 => unfold maxLen; omega
    case c4 => omega
    case c5 => simp
    intro g1 cap w1 hown hgrow hat hlt1
    have hb1 := grown_none hgrow
    have p0 : w1.cell? ⟨w.heap.size, 0, none⟩ = some (.slice (some ⟨b0, o0, none⟩) B.length c0) := step_cell hb1 (by simp [go_sem])
    have q0 : w1.cell? ⟨w.heap.size + 1, 0, none⟩ = some (.int .i64 i.op) := step_cell hb1 (by simp [go_sem])
    have q1 : w1.cell? ⟨w.heap.size + 1, 1, none⟩ = some (.int .i64 i.dest) := step_cell hb1 (by simp [go_sem])
    have q2 : w1.cell? ⟨w.heap.size + 1, 2, none⟩ = some (.int .i64 i.a) := step_cell hb1 (by simp [go_sem])
    have q3 : w1.cell? ⟨w.heap.size + 1, 3, none⟩ = some (.int .i64 i.b) := step_cell hb1 (by simp [go_sem])
    have q4 : w1.cell? ⟨w.heap.size + 1, 4, none⟩ = some (.int .i64 i.c) := step_cell hb1 (by simp [go_sem])
    have q5 : w1.cell? ⟨w.heap.size + 1, 5, none⟩ = some (.int .u32 i.n) := step_cell hb1 (by simp [go_sem])
    have hzs : w.heap.size + 3 ≤ w1.heap.size := by have := hb1.size; simp at this; omega
    have HB : Hid (Below w.heap.size w w1) := over_alloc (over_alloc (over_alloc hb1))
    have HO : Hid (w1.ownsRow (w.heap.size + 2) 4 1 (.slice (some ⟨g1, 0, none⟩) 1 cap) 1 [.bool (bw B i.dest)]) := (by simpa using hown : w1.ownsRow (w.heap.size + 2) 4 1 (.slice (some ⟨g1, 0, none⟩) 1 cap) 1 [.bool (bw B i.dest)])
    clear hgrow hat hb1 hown
    go_wp2_with (go_at_call 130; refine (uses i m HM.out _).mono ?_; rintro e w2 ⟨gu, rfl, hbu, hg1, hg2, hua, hub⟩)
    have hWS : WState w b0 o0 c0 gu B i (.slice (some ⟨g1, 0, none⟩) 1 cap) (wl0 B i ++ wl1 B i 0) w2 := by
      refine ⟨step_below hbu HB.out, Nat.le_trans (by omega) hbu.size, step_cell hbu p0, step_cell hbu q0, hua, hub, by omega, by simp [Value.ownBlock]; omega, ?_⟩
      have : wl0 B i ++ wl1 B i 0 = [bw B i.dest] := by simp [wl0, wl1, hg]
      rw [this]
      exact World.ownsRow.kept HO.out ⟨hbu.os, hbu.tape, hbu.output, hbu.size, fun k hk _ => hbu.block k hk⟩ (row := none) (by simp [Value.ownBlock])
    clear HO HB p0 q0 q1 q2 q3 q4 q5 hua hub hbu
    go_loopw [5, 7] (fun v k wr => ∃ n : Nat, n ≤ m ∧ k = .int .i64 n ∧ WState w b0 o0 c0 gu B i v (wl0 B i ++ wl1 B i n) wr) (fun _ k _ => m - (intOf k).toNat)
    case atStart => exact ⟨0, by omega, rfl, hWS⟩
    clear hWS
    case round =>
      obtain ⟨n, hn, rfl, hst⟩ := hrel
      by_cases hlt : n < m
      case neg =>
        have hL : wl0 B i ++ wl1 B i n = wl B i := by
          have e : (manyI i.op).toNat = n := by rw [HM.out]; omega
          simp [wl, e]
        rw [hL] at hst
        obtain ⟨ao, cap9, hv9, hcells⟩ := own_form hst.own
        subst hv9
        have q0 := hst.q0
        have HC : Hid _ := hcells
        have HBL : Hid _ := hst.bel
        clear hst hcells hL
        rcases (show i.op = 2 ∨ i.op = 5 ∨ (i.op = 6 ∨ i.op = 7) ∨ (¬ i.op = 2 ∧ ¬ i.op = 5 ∧ ¬ (i.op = 6 ∨ i.op = 7)) by omega) with hop | hop | hop | ⟨hop2, hop5, hop6⟩
        · have hW := wl_move B i hop
          have h2 : (wl B i).length = 2 := by rw [hW]; rfl
          obtain ⟨g9, rfl, hc9⟩ := HC.out (by omega)
          rw [h2] at hc9 ⊢
          have e0 : wr.cell? ⟨g9, 0, none⟩ = some (.bool (bw B i.dest)) := by simpa [hW] using hc9 0 (by omega)
          have e1 : wr.cell? ⟨g9, 1, none⟩ = some (.bool (bw B i.a)) := by simpa [hW] using hc9 1 (by omega)
          clear hc9 HC
          go_wp2
          go_quiet (fail)
          go_wp2
          go_ret
          exact ⟨ret_bool (by simp [widthsB, hW, hop]), below_drewN HBL.out _⟩
        · have hW := wl_pair B i hop
          have h2 : (wl B i).length = 3 := by rw [hW]; rfl
          obtain ⟨g9, rfl, hc9⟩ := HC.out (by omega)
          rw [h2] at hc9 ⊢
          have e0 : wr.cell? ⟨g9, 0, none⟩ = some (.bool (bw B i.dest)) := by simpa [hW] using hc9 0 (by omega)
          have e1 : wr.cell? ⟨g9, 1, none⟩ = some (.bool (bw B i.a)) := by simpa [hW] using hc9 1 (by omega)
          have e2 : wr.cell? ⟨g9, 2, none⟩ = some (.bool (bw B i.b)) := by simpa [hW] using hc9 2 (by omega)
          clear hc9 HC
          go_wp2
          all_goals
            go_ret
            exact ⟨ret_bool (by simp [widthsB, *]), HBL.out⟩
        · have hW := wl_half B i hop
          have hwb : widthsB B i = (!bw B i.dest && bw B i.a) := by unfold widthsB; rw [if_neg (by omega), if_neg (by omega), if_pos hop, hW]; rfl
          have h2 : (wl B i).length = 2 := by rw [hW]; rfl
          obtain ⟨g9, rfl, hc9⟩ := HC.out (by omega)
          rw [h2] at hc9 ⊢
          have e0 : wr.cell? ⟨g9, 0, none⟩ = some (.bool (bw B i.dest)) := by simpa [hW] using hc9 0 (by omega)
          have e1 : wr.cell? ⟨g9, 1, none⟩ = some (.bool (bw B i.a)) := by simpa [hW] using hc9 1 (by omega)
          clear hc9 HC
          rcases hop with hop | hop
          all_goals
            go_wp2
            all_goals
              go_ret
              exact ⟨ret_bool (by rw [hwb]; simp [*]), HBL.out⟩
        · have hwb : widthsB B i = (wl B i).all (fun x => x == decide (40 < i.op)) := by unfold widthsB; rw [if_neg hop2, if_neg hop5, if_neg hop6]
          have HWB : Hid _ := hwb
          clear hwb
          have k2 : (i.op == 2) = false := by simpa using hop2
          have k5 : (i.op == 5) = false := by simpa using hop5
          have k6 : (i.op == 6) = false := by simp; omega
          have k7 : (i.op == 7) = false := by simp; omega
          have hl3 : (wl B i).length ≤ 3 := by simp [wl, wl0, wl1]; split <;> simp <;> omega
          clear hop2 hop5 hop6
          go_wp2
          go_loop [9] (fun t => ∃ k : Nat, k ≤ (wl B i).length ∧ t = .int .i64 k ∧ ∀ j, j < k → (wl B i).getD j false = decide (40 < i.op)) (fun t => (wl B i).length - (intOf t).toNat)
          case atStart => exact ⟨0, by omega, rfl, fun j hj => absurd hj (by omega)⟩
          case round =>
            obtain ⟨k, hk, rfl, hall⟩ := hrel
            have HF : Hid _ := hall
            clear hall
            by_cases hkl : k < (wl B i).length
            · obtain ⟨g9, rfl, hc9⟩ := HC.out (by omega)
              obtain ⟨x, hx⟩ : ∃ x, x = (wl B i).getD k false := ⟨_, rfl⟩
              have e0 := hc9 k hkl
              rw [← hx] at e0
              have HX : Hid _ := hx
              clear hx hc9
              go_wp2
              · go_ret
                refine ⟨ret_bool ?_, HBL.out⟩
                rw [HWB.out, eq_comm, List.all_eq_false]
                refine ⟨x, ?_, by simp_all⟩
                rw [HX.out]
                simp [List.getD, hkl]
              · refine ⟨⟨k + 1, by omega, by go_num, ?_⟩, by simp [intOf]; omega⟩
                intro j hj
                by_cases hjk : j < k
                · exact HF.out j hjk
                · obtain rfl : j = k := by omega
                  rw [← HX.out]
                  simp_all
            · go_wp2
              go_ret
              refine ⟨ret_bool ?_, HBL.out⟩
              rw [HWB.out, eq_comm, List.all_eq_true]
              intro x hx
              obtain ⟨j, hj, rfl⟩ := List.getElem_of_mem hx
              have := HF.out j (by omega)
              simpa [List.getD, hj] using this
      rcases (show n = 0 ∨ n = 1 by omega) with rfl | rfl
      · obtain ⟨x1, x2⟩ := HA.out (by omega)
        have hx : wr.cell? ⟨b0, o0 + i.a.toNat, none⟩ = some (.bool (bw B i.a)) := (h.later hst.bel).wide _ (by omega)
        have p0 := hst.p0
        have ux := hst.ua
        have HO : Hid (wr.ownsRow (w.heap.size + 2) 4 1 u5 (wl0 B i ++ wl1 B i 0).length ((wl0 B i ++ wl1 B i 0).map Value.bool)) := hst.own
        have hsz := hst.size
        have lu := block_of_cell ux
        have lb := block_of_cell hx
        simp only at lu lb
        have ap : u5.ownBlock ≠ some w.heap.size := fun e => by have := (World.ownsRow.lt HO.out _ e).1; omega
        have ab : u5.ownBlock ≠ some b0 := fun e => by have := (World.ownsRow.lt HO.out _ e).1; omega
        have ag := hst.ne
        have hl : (wl0 B i ++ wl1 B i 0).length ≤ 3 := by simp [wl0, wl1]; split <;> simp <;> omega
        go_wp2
        go_region_held3 (fun w' => w'.cell? ⟨w.heap.size, 0, none⟩ = some (.slice (some ⟨b0, o0, none⟩) B.length c0) ∧ w'.cell? ⟨gu, 0, none⟩ = some (.int .i64 i.a) ∧ w'.cell? ⟨b0, o0 + i.a.toNat, none⟩ = some (.bool (bw B i.a)))
          (first
            | go_keep
            | (go_split_ands
               refine ⟨?_, ?_, ?_⟩
               · (rw [hgrow.cell_far _ (by simp; omega) (Ne.symm ap)]; assumption)
               · (rw [hgrow.cell_far _ (by simp; omega) (Ne.symm ag)]; assumption)
               · (rw [hgrow.cell_far _ (by simp; omega) (Ne.symm ab)]; assumption)))
          ((refine step_append_lies _ (by rfl) _ _ _ (by rfl) (w.heap.size + 2) 4 t0 _ 1 1 Try.underlying22 hi hz0 hz1 hz2 rfl (by omega) u5 (wl0 B i ++ wl1 B i 0).length ((wl0 B i ++ wl1 B i 0).map Value.bool) (by rfl) ((World.ownsRow.alloc HO.out _).drew)
              ⟨wr.heap.size, 0, none⟩ 1 1 [.bool (bw B i.a)] (by rfl) (by rfl) (World.news_of_block (cs := #[.bool (bw B i.a)]) (t := 4) (fr := (0, 0)) (heap_alloc_new wr _)) (by simp [Value.oneCell'])
              (by omega) (by unfold maxLen; omega) (by omega) (by simp; omega) (wr.heap.size + 1) (by simp) ?_; intro g2 cap2 w3 hown1 hgrow hat hlt3))
        have hst' := hst.push hown1 hgrow hat
        rename_i hHeldx
        clear hHeldx hown1 hgrow hat p0 ux hx
        go_wp2
        refine ⟨⟨1, by omega, rfl, ?_⟩, by simp [intOf]; omega⟩
        have e : wl0 B i ++ wl1 B i 0 ++ [bw B i.a] = wl0 B i ++ wl1 B i 1 := by simp [wl1]
        rw [e, List.length_append] at hst'
        exact hst'
      · obtain ⟨x1, x2⟩ := HBb.out (by omega)
        have hx : wr.cell? ⟨b0, o0 + i.b.toNat, none⟩ = some (.bool (bw B i.b)) := (h.later hst.bel).wide _ (by omega)
        have p0 := hst.p0
        have ux := hst.ub
        have HO : Hid (wr.ownsRow (w.heap.size + 2) 4 1 u5 (wl0 B i ++ wl1 B i 1).length ((wl0 B i ++ wl1 B i 1).map Value.bool)) := hst.own
        have hsz := hst.size
        have lu := block_of_cell ux
        have lb := block_of_cell hx
        simp only at lu lb
        have ap : u5.ownBlock ≠ some w.heap.size := fun e => by have := (World.ownsRow.lt HO.out _ e).1; omega
        have ab : u5.ownBlock ≠ some b0 := fun e => by have := (World.ownsRow.lt HO.out _ e).1; omega
        have ag := hst.ne
        have hl : (wl0 B i ++ wl1 B i 1).length ≤ 3 := by simp [wl0, wl1]; split <;> simp <;> omega
        go_wp2
        go_region_held3 (fun w' => w'.cell? ⟨w.heap.size, 0, none⟩ = some (.slice (some ⟨b0, o0, none⟩) B.length c0) ∧ w'.cell? ⟨gu, 1, none⟩ = some (.int .i64 i.b) ∧ w'.cell? ⟨b0, o0 + i.b.toNat, none⟩ = some (.bool (bw B i.b)))
          (first
            | go_keep
            | (go_split_ands
               refine ⟨?_, ?_, ?_⟩
               · (rw [hgrow.cell_far _ (by simp; omega) (Ne.symm ap)]; assumption)
               · (rw [hgrow.cell_far _ (by simp; omega) (Ne.symm ag)]; assumption)
               · (rw [hgrow.cell_far _ (by simp; omega) (Ne.symm ab)]; assumption)))
          ((refine step_append_lies _ (by rfl) _ _ _ (by rfl) (w.heap.size + 2) 4 t0 _ 1 1 Try.underlying22 hi hz0 hz1 hz2 rfl (by omega) u5 (wl0 B i ++ wl1 B i 1).length ((wl0 B i ++ wl1 B i 1).map Value.bool) (by rfl) ((World.ownsRow.alloc HO.out _).drew)
              ⟨wr.heap.size, 0, none⟩ 1 1 [.bool (bw B i.b)] (by rfl) (by rfl) (World.news_of_block (cs := #[.bool (bw B i.b)]) (t := 4) (fr := (0, 0)) (heap_alloc_new wr _)) (by simp [Value.oneCell'])
              (by omega) (by unfold maxLen; omega) (by omega) (by simp; omega) (wr.heap.size + 1) (by simp) ?_; intro g2 cap2 w3 hown1 hgrow hat hlt3))
        have hst' := hst.push hown1 hgrow hat
        rename_i hHeldx
        clear hHeldx hown1 hgrow hat p0 ux hx
        go_wp2
        refine ⟨⟨2, by omega, rfl, ?_⟩, by simp [intOf]; omega⟩
        have e : wl0 B i ++ wl1 B i 1 ++ [bw B i.b] = wl0 B i ++ wl1 B i 2 := by simp [wl1]
        rw [e, List.length_append] at hst'
        exact hst'
  case false =>
    clear hd
    go_enter Try.func84, Try.ntmps84
    go_wp2_with (first
      | (go_at_call 50; refine (gives _ _).mono ?_; rintro e w' ⟨rfl, rfl⟩; rw [hg])
      | (go_at_call 130; refine (uses i m HM.out _).mono ?_; rintro e w2 ⟨gu, rfl, hbu, hg1, hg2, hua, hub⟩))
    have hWS : WState w b0 o0 c0 gu B i (.slice none 0 0) (wl0 B i ++ wl1 B i 0) w2 := by
      have hs2 := hbu.size
      simp at hs2 hg1
      refine ⟨over_alloc (over_alloc hbu), by omega, step_cell hbu (by simp [go_sem]), step_cell hbu (by simp [go_sem]), hua, hub, by omega, by simp [Value.ownBlock], ?_⟩
      have : wl0 B i ++ wl1 B i 0 = [] := by simp [wl0, wl1, hg]
      rw [this]
      exact World.ownsRow_nil _ _ _ _
    clear hua hub hbu
    go_loopw [5, 7] (fun v k wr => ∃ n : Nat, n ≤ m ∧ k = .int .i64 n ∧ WState w b0 o0 c0 gu B i v (wl0 B i ++ wl1 B i n) wr) (fun _ k _ => m - (intOf k).toNat)
    case atStart => exact ⟨0, by omega, rfl, hWS⟩
    clear hWS
    case round =>
      obtain ⟨n, hn, rfl, hst⟩ := hrel
      by_cases hlt : n < m
      case neg =>
        have hL : wl0 B i ++ wl1 B i n = wl B i := by
          have e : (manyI i.op).toNat = n := by rw [HM.out]; omega
          simp [wl, e]
        rw [hL] at hst
        obtain ⟨ao, cap9, hv9, hcells⟩ := own_form hst.own
        subst hv9
        have q0 := hst.q0
        have HC : Hid _ := hcells
        have HBL : Hid _ := hst.bel
        clear hst hcells hL
        rcases (show i.op = 2 ∨ i.op = 5 ∨ (i.op = 6 ∨ i.op = 7) ∨ (¬ i.op = 2 ∧ ¬ i.op = 5 ∧ ¬ (i.op = 6 ∨ i.op = 7)) by omega) with hop | hop | hop | ⟨hop2, hop5, hop6⟩
        · have hW := wl_move B i hop
          have h2 : (wl B i).length = 2 := by rw [hW]; rfl
          obtain ⟨g9, rfl, hc9⟩ := HC.out (by omega)
          rw [h2] at hc9 ⊢
          have e0 : wr.cell? ⟨g9, 0, none⟩ = some (.bool (bw B i.dest)) := by simpa [hW] using hc9 0 (by omega)
          have e1 : wr.cell? ⟨g9, 1, none⟩ = some (.bool (bw B i.a)) := by simpa [hW] using hc9 1 (by omega)
          clear hc9 HC
          go_wp2
          go_quiet (fail)
          go_wp2
          go_ret
          exact ⟨ret_bool (by simp [widthsB, hW, hop]), below_drewN HBL.out _⟩
        · have hW := wl_pair B i hop
          have h2 : (wl B i).length = 3 := by rw [hW]; rfl
          obtain ⟨g9, rfl, hc9⟩ := HC.out (by omega)
          rw [h2] at hc9 ⊢
          have e0 : wr.cell? ⟨g9, 0, none⟩ = some (.bool (bw B i.dest)) := by simpa [hW] using hc9 0 (by omega)
          have e1 : wr.cell? ⟨g9, 1, none⟩ = some (.bool (bw B i.a)) := by simpa [hW] using hc9 1 (by omega)
          have e2 : wr.cell? ⟨g9, 2, none⟩ = some (.bool (bw B i.b)) := by simpa [hW] using hc9 2 (by omega)
          clear hc9 HC
          go_wp2
          all_goals
            go_ret
            exact ⟨ret_bool (by simp [widthsB, *]), HBL.out⟩
        · have hW := wl_half B i hop
          have hwb : widthsB B i = (!bw B i.dest && bw B i.a) := by unfold widthsB; rw [if_neg (by omega), if_neg (by omega), if_pos hop, hW]; rfl
          have h2 : (wl B i).length = 2 := by rw [hW]; rfl
          obtain ⟨g9, rfl, hc9⟩ := HC.out (by omega)
          rw [h2] at hc9 ⊢
          have e0 : wr.cell? ⟨g9, 0, none⟩ = some (.bool (bw B i.dest)) := by simpa [hW] using hc9 0 (by omega)
          have e1 : wr.cell? ⟨g9, 1, none⟩ = some (.bool (bw B i.a)) := by simpa [hW] using hc9 1 (by omega)
          clear hc9 HC
          rcases hop with hop | hop
          all_goals
            go_wp2
            all_goals
              go_ret
              exact ⟨ret_bool (by rw [hwb]; simp [*]), HBL.out⟩
        · have hwb : widthsB B i = (wl B i).all (fun x => x == decide (40 < i.op)) := by unfold widthsB; rw [if_neg hop2, if_neg hop5, if_neg hop6]
          have HWB : Hid _ := hwb
          clear hwb
          have k2 : (i.op == 2) = false := by simpa using hop2
          have k5 : (i.op == 5) = false := by simpa using hop5
          have k6 : (i.op == 6) = false := by simp; omega
          have k7 : (i.op == 7) = false := by simp; omega
          have hl3 : (wl B i).length ≤ 3 := by simp [wl, wl0, wl1]; split <;> simp <;> omega
          clear hop2 hop5 hop6
          go_wp2
          go_loop [9] (fun t => ∃ k : Nat, k ≤ (wl B i).length ∧ t = .int .i64 k ∧ ∀ j, j < k → (wl B i).getD j false = decide (40 < i.op)) (fun t => (wl B i).length - (intOf t).toNat)
          case atStart => exact ⟨0, by omega, rfl, fun j hj => absurd hj (by omega)⟩
          case round =>
            obtain ⟨k, hk, rfl, hall⟩ := hrel
            have HF : Hid _ := hall
            clear hall
            by_cases hkl : k < (wl B i).length
            · obtain ⟨g9, rfl, hc9⟩ := HC.out (by omega)
              obtain ⟨x, hx⟩ : ∃ x, x = (wl B i).getD k false := ⟨_, rfl⟩
              have e0 := hc9 k hkl
              rw [← hx] at e0
              have HX : Hid _ := hx
              clear hx hc9
              go_wp2
              · go_ret
                refine ⟨ret_bool ?_, HBL.out⟩
                rw [HWB.out, eq_comm, List.all_eq_false]
                refine ⟨x, ?_, by simp_all⟩
                rw [HX.out]
                simp [List.getD, hkl]
              · refine ⟨⟨k + 1, by omega, by go_num, ?_⟩, by simp [intOf]; omega⟩
                intro j hj
                by_cases hjk : j < k
                · exact HF.out j hjk
                · obtain rfl : j = k := by omega
                  rw [← HX.out]
                  simp_all
            · go_wp2
              go_ret
              refine ⟨ret_bool ?_, HBL.out⟩
              rw [HWB.out, eq_comm, List.all_eq_true]
              intro x hx
              obtain ⟨j, hj, rfl⟩ := List.getElem_of_mem hx
              have := HF.out j (by omega)
              simpa [List.getD, hj] using this
      rcases (show n = 0 ∨ n = 1 by omega) with rfl | rfl
      · obtain ⟨x1, x2⟩ := HA.out (by omega)
        have hx : wr.cell? ⟨b0, o0 + i.a.toNat, none⟩ = some (.bool (bw B i.a)) := (h.later hst.bel).wide _ (by omega)
        have p0 := hst.p0
        have ux := hst.ua
        have HO : Hid (wr.ownsRow (w.heap.size + 2) 4 1 u5 (wl0 B i ++ wl1 B i 0).length ((wl0 B i ++ wl1 B i 0).map Value.bool)) := hst.own
        have hsz := hst.size
        have lu := block_of_cell ux
        have lb := block_of_cell hx
        simp only at lu lb
        have ap : u5.ownBlock ≠ some w.heap.size := fun e => by have := (World.ownsRow.lt HO.out _ e).1; omega
        have ab : u5.ownBlock ≠ some b0 := fun e => by have := (World.ownsRow.lt HO.out _ e).1; omega
        have ag := hst.ne
        have hl : (wl0 B i ++ wl1 B i 0).length ≤ 3 := by simp [wl0, wl1]; split <;> simp <;> omega
        go_wp2
        go_region_held3 (fun w' => w'.cell? ⟨w.heap.size, 0, none⟩ = some (.slice (some ⟨b0, o0, none⟩) B.length c0) ∧ w'.cell? ⟨gu, 0, none⟩ = some (.int .i64 i.a) ∧ w'.cell? ⟨b0, o0 + i.a.toNat, none⟩ = some (.bool (bw B i.a)))
          (first
            | go_keep
            | (go_split_ands
               refine ⟨?_, ?_, ?_⟩
               · (rw [hgrow.cell_far _ (by simp; omega) (Ne.symm ap)]; assumption)
               · (rw [hgrow.cell_far _ (by simp; omega) (Ne.symm ag)]; assumption)
               · (rw [hgrow.cell_far _ (by simp; omega) (Ne.symm ab)]; assumption)))
          ((refine step_append_lies _ (by rfl) _ _ _ (by rfl) (w.heap.size + 2) 4 t0 _ 1 1 Try.underlying22 hi hz0 hz1 hz2 rfl (by omega) u5 (wl0 B i ++ wl1 B i 0).length ((wl0 B i ++ wl1 B i 0).map Value.bool) (by rfl) ((World.ownsRow.alloc HO.out _).drew)
              ⟨wr.heap.size, 0, none⟩ 1 1 [.bool (bw B i.a)] (by rfl) (by rfl) (World.news_of_block (cs := #[.bool (bw B i.a)]) (t := 4) (fr := (0, 0)) (heap_alloc_new wr _)) (by simp [Value.oneCell'])
              (by omega) (by unfold maxLen; omega) (by omega) (by simp; omega) (wr.heap.size + 1) (by simp) ?_; intro g2 cap2 w3 hown1 hgrow hat hlt3))
        have hst' := hst.push hown1 hgrow hat
        rename_i hHeldx
        clear hHeldx hown1 hgrow hat p0 ux hx
        go_wp2
        refine ⟨⟨1, by omega, rfl, ?_⟩, by simp [intOf]; omega⟩
        have e : wl0 B i ++ wl1 B i 0 ++ [bw B i.a] = wl0 B i ++ wl1 B i 1 := by simp [wl1]
        rw [e, List.length_append] at hst'
        exact hst'
      · obtain ⟨x1, x2⟩ := HBb.out (by omega)
        have hx : wr.cell? ⟨b0, o0 + i.b.toNat, none⟩ = some (.bool (bw B i.b)) := (h.later hst.bel).wide _ (by omega)
        have p0 := hst.p0
        have ux := hst.ub
        have HO : Hid (wr.ownsRow (w.heap.size + 2) 4 1 u5 (wl0 B i ++ wl1 B i 1).length ((wl0 B i ++ wl1 B i 1).map Value.bool)) := hst.own
        have hsz := hst.size
        have lu := block_of_cell ux
        have lb := block_of_cell hx
        simp only at lu lb
        have ap : u5.ownBlock ≠ some w.heap.size := fun e => by have := (World.ownsRow.lt HO.out _ e).1; omega
        have ab : u5.ownBlock ≠ some b0 := fun e => by have := (World.ownsRow.lt HO.out _ e).1; omega
        have ag := hst.ne
        have hl : (wl0 B i ++ wl1 B i 1).length ≤ 3 := by simp [wl0, wl1]; split <;> simp <;> omega
        go_wp2
        go_region_held3 (fun w' => w'.cell? ⟨w.heap.size, 0, none⟩ = some (.slice (some ⟨b0, o0, none⟩) B.length c0) ∧ w'.cell? ⟨gu, 1, none⟩ = some (.int .i64 i.b) ∧ w'.cell? ⟨b0, o0 + i.b.toNat, none⟩ = some (.bool (bw B i.b)))
          (first
            | go_keep
            | (go_split_ands
               refine ⟨?_, ?_, ?_⟩
               · (rw [hgrow.cell_far _ (by simp; omega) (Ne.symm ap)]; assumption)
               · (rw [hgrow.cell_far _ (by simp; omega) (Ne.symm ag)]; assumption)
               · (rw [hgrow.cell_far _ (by simp; omega) (Ne.symm ab)]; assumption)))
          ((refine step_append_lies _ (by rfl) _ _ _ (by rfl) (w.heap.size + 2) 4 t0 _ 1 1 Try.underlying22 hi hz0 hz1 hz2 rfl (by omega) u5 (wl0 B i ++ wl1 B i 1).length ((wl0 B i ++ wl1 B i 1).map Value.bool) (by rfl) ((World.ownsRow.alloc HO.out _).drew)
              ⟨wr.heap.size, 0, none⟩ 1 1 [.bool (bw B i.b)] (by rfl) (by rfl) (World.news_of_block (cs := #[.bool (bw B i.b)]) (t := 4) (fr := (0, 0)) (heap_alloc_new wr _)) (by simp [Value.oneCell'])
              (by omega) (by unfold maxLen; omega) (by omega) (by simp; omega) (wr.heap.size + 1) (by simp) ?_; intro g2 cap2 w3 hown1 hgrow hat hlt3))
        have hst' := hst.push hown1 hgrow hat
        rename_i hHeldx
        clear hHeldx hown1 hgrow hat p0 ux hx
        go_wp2
        refine ⟨⟨2, by omega, rfl, ?_⟩, by simp [intOf]; omega⟩
        have e : wl0 B i ++ wl1 B i 1 ++ [bw B i.b] = wl0 B i ++ wl1 B i 2 := by simp [wl1]
        rw [e, List.length_append] at hst'
        exact hst'

end Go.Proofs.Ytepfegfacdbhbab.form
