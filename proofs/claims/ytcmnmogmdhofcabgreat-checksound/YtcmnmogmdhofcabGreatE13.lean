/- Small facts on rows of truths and numbers in memory. -/
import Derived.Deep.OwnRows
import Derived.Deep.DeepCutAuto
import Derived.Test.YtcmnmogmdhofcabGreatE12
import Derived.Test.YtcmnmogmdhofcabGreatE02
import Derived.Test.YtcmnmogmdhofcabGreatE06
import Derived.Test.YtcmnmogmdhofcabGreatE11

namespace Go.Proofs.YtcmnmogmdhofcabGreat.form
open Go.RowKit
set_option linter.unusedVariables false
theorem infInt : (Tryz.prog.info? 3).map (fun i => (i.zero, i.size, i.bytes)) = some (some (.int .i64 0), 1, 8) := by kernel_rfl

end Go.Proofs.YtcmnmogmdhofcabGreat.form

/- With which instructions a program goes on behind one (layout.GoesOn): such of its ways as are there. -/
namespace Go.Proofs.YtcmnmogmdhofcabGreat.form
open Go.RowKit
set_option linter.unusedVariables false
attribute [local go_sem ↓] Go.wp_at_zero Go.wp_at_succ

def thereB (nC : Nat) (x : Int) : Bool := decide (0 ≤ x) && decide (x < nC)
def goesI (nC : Nat) (i : LIns) (pc : Nat) : List Int := (nextsI i pc).filter (thereB nC)
def intV (x : Int) : Value := .int .i64 x

structure GS (w : World) (b1 o1 c1 nC : Nat) (l : List Int) (v : Value) (wr : World) : Prop where
  bel : Below w.heap.size w wr
  p1 : wr.cell? ⟨w.heap.size, 1, none⟩ = some (.slice (some ⟨b1, o1, none⟩) nC c1)
  own : wr.ownsRow (w.heap.size + 1) 3 1 v l.length (l.map intV)

section
variable {w : World} {b1 o1 c1 nC : Nat} {l : List Int} {v : Value} {wr w1 : World}
theorem GS.below (h : GS w b1 o1 c1 nC l v wr) (hb : Below wr.heap.size wr w1) : GS w b1 o1 c1 nC l v w1 :=
  ⟨step_below hb h.bel, step_cell hb h.p1, World.ownsRow.kept h.own ⟨hb.os, hb.tape, hb.output, hb.size, fun j hj _ => hb.block j hj⟩ (row := none) (by cases v.ownBlock <;> simp)⟩
theorem GS.ownNe (h : GS w b1 o1 c1 nC l v wr) {b : Nat} (hb : b < w.heap.size + 1) : v.ownBlock ≠ some b := fun e => by have := (World.ownsRow.lt h.own _ e).1; omega
theorem GS.push (h : GS w b1 o1 c1 nC l v wr) {g cap : Nat} {y : Int} (hz : w.heap.size + 1 ≤ wr.heap.size)
    (hown : w1.ownsRow (w.heap.size + 1) 3 1 (.slice (some ⟨g, 0, none⟩) (l.length + 1) cap) (l.length + 1) (l.map intV ++ [.int .i64 y])) (hgrow : wr.grownBy w1 v.ownBlock) :
    GS w b1 o1 c1 nC (l ++ [y]) (.slice (some ⟨g, 0, none⟩) (l.length + 1) cap) w1 :=
  ⟨h.bel.grown hgrow (by omega) (fun j hj => by have := (World.ownsRow.lt h.own _ hj).1; omega), by rw [hgrow.cell_far _ (by dsimp only; omega) (Ne.symm (h.ownNe (by dsimp only; omega)))]; exact h.p1, by simpa [intV] using hown⟩
theorem GS.ints (h : GS w b1 o1 c1 nC l v wr) : IntsAt w.heap.size wr v l := by
  by_cases hn : 0 < l.length
  · obtain ⟨g, cap, rfl, hbg, hlt⟩ := h.own.form hn
    refine ⟨_, cap, rfl, fun _ => ⟨g, rfl, by omega, hlt, fun j hj => ?_⟩⟩
    rw [World.ownsRow.cellAt h.own j (by omega)]
    simp [List.getD, hj, intV]
  · have hl : l = [] := List.length_eq_zero_iff.1 (by omega)
    subst hl
    rcases h.own.2 with ⟨rfl, _⟩ | ⟨g, cap, cur, rfl, _⟩
    · exact ⟨none, 0, rfl, fun hh => absurd hh (by simp)⟩
    · exact ⟨_, cap, rfl, fun hh => absurd hh (by simp)⟩
end

theorem take_filter {N : List Int} {q : Int → Bool} {j : Nat} (hj : j < N.length) : (N.take (j + 1)).filter q = (N.take j).filter q ++ (if q (N.getD j 0) then [N.getD j 0] else []) := by
  have e : N.getD j 0 = N[j] := by simp [List.getD, hj]
  rw [List.take_succ_eq_append_getElem hj, List.filter_append, e]
  cases h : q N[j] <;> simp [h]

set_option maxRecDepth 100000 in
set_option maxHeartbeats 1000000 in
theorem goesOn (b0 o0 c0 b1 o1 c1 : Nat) (B : List Bool) (C : List LIns) (k : Nat) (w : World) (hC : C.length ≤ 40) (h : Held w b0 o0 b1 o1 B C) (hk : k < C.length) :
    Calls Tryz.prog 70 #[progV b0 o0 B.length c0 b1 o1 C.length c1, .int .i64 k] w fun e w' => (∃ v, e = .returned v ∧ IntsAt w.heap.size w' v (goesI C.length (C.getD k .zero) k)) ∧ Below w.heap.size w w' := by
  obtain ⟨d0, d1, d2, d3, d4, d5⟩ := h.code k hk
  obtain ⟨i, hi⟩ : ∃ i, i = C.getD k .zero := ⟨_, rfl⟩
  rw [← hi] at d0 d1 d2 d3 d4 d5 ⊢
  clear hi
  have hlt1 := h.lt1
  have y0 : (0 : Int) ≤ (k : Int) := by omega
  have y1 : (k : Int) < (C.length : Int) := by omega
  have y2 : (C.length : Int) ≤ 40 := by omega
  unfold progV
  go_enter Tryz.func70, Tryz.ntmps70
  go_wp2_with (first
    | (go_at_call 103; refine (isIn _ _ _).mono ?_; rintro e w' ⟨rfl, rfl⟩)
    | (go_at_call 104; refine (leads i k (by omega) _).mono ?_; rintro e w3 ⟨⟨nv, rfl, hnv⟩, hb3⟩; have HNV : Hid _ := hnv; obtain ⟨nao, ncap, rfl, -⟩ := hnv; have HB3 : Hid (Below (w.alloc (.cells #[.slice (some ⟨b0, o0, none⟩) B.length c0, .slice (some ⟨b1, o1, none⟩) C.length c1] 25)).heap.size (w.alloc (.cells #[.slice (some ⟨b0, o0, none⟩) B.length c0, .slice (some ⟨b1, o1, none⟩) C.length c1] 25)) w3) := hb3))
  have hnl : (nextsI i k).length ≤ 2 := nexts_len i k
  obtain ⟨N, hN⟩ : ∃ N, N = nextsI i k := ⟨_, rfl⟩
  rw [← hN] at hnl HNV ⊢
  have HN : Hid (nextsI i k = N) := hN.symm
  clear hN
  have z3 : (N.length : Int) ≤ 2 := by omega
  have HG0 : Hid (GS w b1 o1 c1 C.length [] (.slice none 0 0) w3) := ⟨over_alloc HB3.out, step_cell HB3.out (by simp [go_sem]), World.ownsRow_nil _ _ _ _⟩
  have HW3 : Hid (0 < N.length → ∃ gb, nao = some ⟨gb, 0, none⟩ ∧ w.heap.size + 1 ≤ gb ∧ gb < w3.heap.size ∧ ∀ q, q < N.length → w3.cell? ⟨gb, q, none⟩ = some (.int .i64 (N.getD q 0))) := by
    intro h0
    obtain ⟨_, _, he, hh⟩ := HNV.out
    simp at he
    obtain ⟨rfl, rfl⟩ := he
    obtain ⟨gb, e1, e2, e3, e4⟩ := hh h0
    simp at e2
    exact ⟨gb, e1, by omega, e3, e4⟩
  clear HNV HB3 hb3 d0 d1 d2 d3 d4 d5
  go_loopw [5, 22] (fun v jv wr => ∃ (j : Nat) (v0 : Value), v0 = v ∧ jv = .int .i64 j ∧ j ≤ N.length ∧ GS w b1 o1 c1 C.length ((N.take j).filter (thereB C.length)) v wr ∧
      (0 < N.length → ∃ gb, nao = some ⟨gb, 0, none⟩ ∧ w.heap.size + 1 ≤ gb ∧ gb < wr.heap.size ∧ v.ownBlock ≠ some gb ∧ ∀ q, q < N.length → wr.cell? ⟨gb, q, none⟩ = some (.int .i64 (N.getD q 0)))) (fun _ jv _ => N.length - (intOf jv).toNat)
  case atStart =>
    refine ⟨0, _, rfl, rfl, by omega, by simpa using HG0.out, fun h0 => ?_⟩
    obtain ⟨gb, e1, e2, e3, e4⟩ := HW3.out h0
    exact ⟨gb, e1, e2, e3, by simp [Value.ownBlock], e4⟩
  case round =>
    obtain ⟨j, v, rfl, rfl, hj, hgs, hnx⟩ := hrel
    obtain ⟨l, hl⟩ : ∃ l, l = (N.take j).filter (thereB C.length) := ⟨_, rfl⟩
    rw [← hl] at hgs
    have HL : Hid (l = (N.take j).filter (thereB C.length)) := hl
    have hll : l.length ≤ 2 := by rw [hl]; exact Nat.le_trans (List.length_filter_le _ _) (by simp; omega)
    clear hl
    have HGS : Hid (GS w b1 o1 c1 C.length l v wr) := hgs
    have HNX : Hid (0 < N.length → ∃ gb, nao = some ⟨gb, 0, none⟩ ∧ w.heap.size + 1 ≤ gb ∧ gb < wr.heap.size ∧ v.ownBlock ≠ some gb ∧ ∀ q, q < N.length → wr.cell? ⟨gb, q, none⟩ = some (.int .i64 (N.getD q 0))) := hnx
    have p1 := hgs.p1
    have hzz : w.heap.size < wr.heap.size := World.block_lt_of_cell? wr _ p1
    clear hgs hnx
    by_cases hjl : j < N.length
    case neg =>
      have y9 : ¬ (j : Int) < (N.length : Int) := by omega
      go_wp2
      go_ret
      refine ⟨⟨_, rfl, ?_⟩, HGS.out.bel⟩
      obtain rfl : j = N.length := by omega
      have := HGS.out.ints
      rw [HL.out, List.take_length] at this
      unfold goesI
      rw [HN.out]
      exact this
    obtain ⟨gb, rfl, hgb1, hgb2, hgb3, hgbc⟩ := HNX.out (by omega)
    have nj := hgbc j hjl
    obtain ⟨Y, hY⟩ : ∃ Y, Y = N.getD j 0 := ⟨_, rfl⟩
    rw [← hY] at nj
    have HY : Hid (Y = N.getD j 0) := hY
    have HGBC : Hid (∀ q, q < N.length → wr.cell? ⟨gb, q, none⟩ = some (.int .i64 (N.getD q 0))) := hgbc
    have y8 : (j : Int) < (N.length : Int) := by omega
    have y7 : (0 : Int) ≤ (j : Int) := by omega
    clear hgbc hY
    obtain ⟨t0', hi0, hy0, hy1, hy2⟩ := info_parts infInt
    cases hq : thereB C.length Y with
    | false =>
      have HQ : Hid (thereB C.length Y = false) := hq
      have hq2 : (decide (0 ≤ Y) && decide (Y < (C.length : Int))) = false := hq
      clear hq
      go_wp2_with (go_at_call 103; refine (isIn _ _ _).mono ?_; rw [hq2]; rintro e w' ⟨rfl, hw'⟩; obtain rfl := hw'.symm)
      refine ⟨⟨j + 1, _, rfl, by go_num, by omega, ?_, fun _ => ⟨gb, rfl, hgb1, hgb2, hgb3, HGBC.out⟩⟩, by simp [intOf]; omega⟩
      rw [take_filter hjl, ← HL.out, ← HY.out, HQ.out]
      simpa using HGS.out
    | true =>
      have HQ : Hid (thereB C.length Y = true) := hq
      have hq2 : (decide (0 ≤ Y) && decide (Y < (C.length : Int))) = true := hq
      clear hq
      go_wp2_with (first | (go_at_call 103; refine (isIn _ _ _).mono ?_; rw [hq2]; rintro e w' ⟨rfl, hw'⟩; obtain rfl := hw'.symm) | (at_builtin; refine wpList_append_lies _ rfl _ _ 71 rfl (w.heap.size + 1) 3 t0' (.int .i64 0) 1 8 Tryz.underlying71 hi0 hy0 hy1 hy2 rfl (by decide) v l.length (l.map intV) rfl (World.ownsRow.alloc HGS.out.own _) ⟨wr.heap.size, 0, none⟩ 1 1 [.int .i64 Y] rfl rfl ?c1 ?c2 (by decide) ?c3 ?c4 ?c5 _ rfl ?_))
      case c1 => exact World.news_of_block (cs := #[.int .i64 Y]) (t := 3) (fr := (0, 0)) (by have := heap_alloc_new wr (.cells #[.int .i64 Y] 3); simpa using this)
      case c2 => simp [Value.oneCell']
      case c3 => unfold maxLen; omega
      case c4 => omega
      case c5 => simp; omega
      intro g9 cap9 w9 hown hgrow hat hlt9
      have hP := (HGS.out.below ((Below.refl _ _).alloc (Nat.le_refl _) (.cells #[.int .i64 Y] 3))).push (by simp; omega) hown hgrow
      have hN9 : ∃ gb', some (⟨gb, 0, none⟩ : Addr) = some ⟨gb', 0, none⟩ ∧ w.heap.size + 1 ≤ gb' ∧ gb' < w9.heap.size ∧ (Value.slice (some ⟨g9, 0, none⟩) (l.length + 1) cap9).ownBlock ≠ some gb' ∧ ∀ q, q < N.length → w9.cell? ⟨gb', q, none⟩ = some (.int .i64 (N.getD q 0)) := by
        have hz9 : wr.heap.size < w9.heap.size := by have := hgrow.size; simp at this; omega
        refine ⟨gb, rfl, hgb1, by omega, ?_, fun q hq => ?_⟩
        · simp only [Value.ownBlock, ne_eq, Option.some.injEq]
          rcases hat with hat | hat
          · intro e; rw [e] at hat; exact hgb3 hat
          · omega
        · rw [hgrow.cell_far _ (by simp; omega) (Ne.symm hgb3)]
          exact step_cell ((Below.refl _ _).alloc (Nat.le_refl _) _) (HGBC.out q hq)
      have R : Hid (GS w b1 o1 c1 C.length (l ++ [Y]) (.slice (some ⟨g9, 0, none⟩) (l.length + 1) cap9) w9) := hP
      have RN : Hid (∃ gb', some (⟨gb, 0, none⟩ : Addr) = some ⟨gb', 0, none⟩ ∧ w.heap.size + 1 ≤ gb' ∧ gb' < w9.heap.size ∧ (Value.slice (some ⟨g9, 0, none⟩) (l.length + 1) cap9).ownBlock ≠ some gb' ∧ ∀ q, q < N.length → w9.cell? ⟨gb', q, none⟩ = some (.int .i64 (N.getD q 0))) := hN9
      clear hP hN9 hown hgrow hat
      go_wp2
      refine ⟨⟨j + 1, _, rfl, by go_num, by omega, ?_, fun _ => RN.out⟩, by simp [intOf]; omega⟩
      rw [take_filter hjl, ← HL.out, ← HY.out, HQ.out]
      simpa using R.out

end Go.Proofs.YtcmnmogmdhofcabGreat.form

/- Rounds over all instructions, facts as bits, till nothing changes, on plain numbers: what they end with is what is known. -/
namespace Go.Proofs.YtcmnmogmdhofcabGreat.form
open Go.RowKit Go.Proofs.YtcmnmogmdhofcabGreat.num
set_option linter.unusedVariables false

structure BehF (B : List Bool) (C : List LIns) (s slots : Int) (R : List LRow) (N : List Int) (k : Nat) (m m' : FM) : Prop where
  ok : FmOk B s slots N m'
  is : ∀ f, Kof N m' f ↔ thruK (FactOk B s slots (NumP C)) (C.getD k .zero) (R.getD k .zero) (Kof N m) f

structure BIt (B : List Bool) (C : List LIns) (s slots : Int) (R : List LRow) (N : List Int) (A : List (Option FM)) : Prop where
  len : A.length = C.length
  zero : ∃ m, A.getD 0 none = some m
  ok : ∀ k m, A.getD k none = some m → FmOk B s slots N m
  rch : ∀ k m, A.getD k none = some m → Reach C k
  up : ∀ k m, A.getD k none = some m → ∀ f, Known B C s slots R k f → Kof N m f
  beg : ∀ m, A.getD 0 none = some m → ∀ f, Kof N m f → f.n = 0

theorem getD_setO {A : List (Option FM)} {x j : Nat} {y : Option FM} (hx : x < A.length) : (A.set x y).getD j none = if j = x then y else A.getD j none := by
  by_cases e : j = x
  · subst e; rw [if_pos rfl]; simp [List.getD, hx]
  · rw [if_neg e]; simp [List.getD, Ne.symm e]

section
variable {B : List Bool} {C : List LIns} {s slots : Int} {R : List LRow} {N : List Int} {A : List (Option FM)}

theorem BIt.beh (h : BIt B C s slots R N A) {k : Nat} {m m' : FM} (hk : A.getD k none = some m) (hb : BehF B C s slots R N k m m') {x : Nat} (hx : x ∈ nextsN (C.getD k .zero) k) (hxl : x < C.length) : ∀ f, Known B C s slots R x f → Kof N m' f := by
  have hkl : k < C.length := by
    refine Classical.byContradiction fun hno => ?_
    have : A.getD k none = none := by simp [List.getD, List.getElem?_eq_none (show A.length ≤ k by rw [h.len]; omega)]
    rw [this] at hk; cases hk
  intro f hf
  rw [hb.is]
  exact thruK_mono (fun g hg => h.up k m hk g hg) ((known_good B C s slots R).next k x (h.rch k m hk) hkl hx hxl |>.2 f hf)

theorem BIt.first (h : BIt B C s slots R N A) {x : Nat} {m' : FM} (hr : Reach C x) (hxl : x < C.length) (hno : A.getD x none = none) (hok : FmOk B s slots N m') (hup : ∀ f, Known B C s slots R x f → Kof N m' f) : BIt B C s slots R N (A.set x (some m')) := by
  have hx : x < A.length := by rw [h.len]; exact hxl
  obtain ⟨m0, hm0⟩ := h.zero
  have hx0 : ¬ x = 0 := fun e => by rw [e, hm0] at hno; cases hno
  refine ⟨by simp [h.len], ⟨m0, by rw [getD_setO hx, if_neg (Ne.symm hx0)]; exact hm0⟩, fun k m hk => ?_, fun k m hk => ?_, fun k m hk => ?_, fun m hk => ?_⟩
  · rw [getD_setO hx] at hk
    split at hk
    · cases hk; exact hok
    · exact h.ok k m hk
  · rw [getD_setO hx] at hk
    split at hk
    · rename_i e; rw [e]; exact hr
    · exact h.rch k m hk
  · rw [getD_setO hx] at hk
    split at hk
    · rename_i e; cases hk; rw [e]; exact hup
    · exact h.up k m hk
  · rw [getD_setO hx, if_neg (Ne.symm hx0)] at hk
    exact h.beg m hk

theorem BIt.again (h : BIt B C s slots R N A) (hs : N.Pairwise (· < ·)) {x : Nat} {q m' : FM} (hq : A.getD x none = some q) (hxl : x < C.length) (hup : ∀ f, Known B C s slots R x f → Kof N m' f) : BIt B C s slots R N (A.set x (some (meetF q m'))) := by
  have hx : x < A.length := by rw [h.len]; exact hxl
  obtain ⟨m0, hm0⟩ := h.zero
  refine ⟨by simp [h.len], ?_, fun k m hk => ?_, fun k m hk => ?_, fun k m hk => ?_, fun m hk => ?_⟩
  · rw [getD_setO hx]
    split
    · exact ⟨_, rfl⟩
    · exact ⟨m0, hm0⟩
  · rw [getD_setO hx] at hk
    split at hk
    · cases hk; exact meetF_ok (h.ok x q hq)
    · exact h.ok k m hk
  · rw [getD_setO hx] at hk
    split at hk
    · rename_i e; rw [e]; exact h.rch x q hq
    · exact h.rch k m hk
  · rw [getD_setO hx] at hk
    split at hk
    · rename_i e
      cases hk
      rw [e]
      intro f hf
      rw [meetF_is hs]
      exact ⟨h.up x q hq f hf, hup f hf⟩
    · exact h.up k m hk
  · rw [getD_setO hx] at hk
    split at hk
    · rename_i e
      cases hk
      intro f hf
      rw [meetF_is hs] at hf
      exact h.beg q (by rw [e]; exact hq) f hf.1
    · exact h.beg m hk
end

def muF (P : List LPlace) (nB : Nat) (m : FM) : Nat := (P.map fun p => (m.has p).toNat + (m.is p).toNat).sum + ((List.range nB).map fun t : Nat => (m.tmp t).toNat).sum
def bigMu : Nat := 2 ^ 80
def muO (P : List LPlace) (nB : Nat) : Option FM → Nat
  | none => bigMu
  | some m => muF P nB m
def muA (P : List LPlace) (nB : Nat) (A : List (Option FM)) : Nat := (A.map (muO P nB)).sum

theorem sum_map_le {α : Type} {f g : α → Nat} : ∀ {l : List α}, (∀ x, x ∈ l → f x ≤ g x) → (l.map f).sum ≤ (l.map g).sum
  | [], _ => by simp
  | a :: l, h => by
    have := sum_map_le (l := l) (fun x hx => h x (by simp [hx]))
    have := h a (by simp)
    simp
    omega
theorem sum_map_lt {α : Type} {f g : α → Nat} : ∀ {l : List α}, (∀ x, x ∈ l → f x ≤ g x) → (∃ x, x ∈ l ∧ f x < g x) → (l.map f).sum < (l.map g).sum
  | [], _, h => by obtain ⟨x, hx, _⟩ := h; cases hx
  | a :: l, h, hx => by
    have h1 := sum_map_le (l := l) (fun x hx => h x (by simp [hx]))
    have h2 := h a (by simp)
    obtain ⟨x, hx, hlt⟩ := hx
    rcases List.mem_cons.1 hx with rfl | hx
    · simp; omega
    · have := sum_map_lt (l := l) (fun x hx => h x (by simp [hx])) ⟨x, hx, hlt⟩
      simp; omega
theorem sum_map_bd {α : Type} {f : α → Nat} {b : Nat} : ∀ {l : List α}, (∀ x, x ∈ l → f x ≤ b) → (l.map f).sum ≤ l.length * b
  | [], _ => by simp
  | a :: l, h => by
    have h1 := sum_map_bd (l := l) (fun x hx => h x (by simp [hx]))
    have h2 := h a (by simp)
    simp [Nat.add_mul]
    omega

theorem muF_lt {P : List LPlace} {nB : Nat} (hP : P.length ≤ 100) (hB : nB ≤ 12) (m : FM) : muF P nB m < bigMu := by
  unfold muF bigMu
  have h1 : (P.map fun p => (m.has p).toNat + (m.is p).toNat).sum ≤ P.length * (2 ^ 65) := sum_map_bd (fun p _ => by have := (m.has p).isLt; have := (m.is p).isLt; omega)
  have h2 : ((List.range nB).map fun t : Nat => (m.tmp t).toNat).sum ≤ (List.range nB).length * 2 ^ 65 := sum_map_bd (fun t _ => by have := (m.tmp t).isLt; omega)
  have h3 : P.length * 2 ^ 65 ≤ 100 * 2 ^ 65 := Nat.mul_le_mul_right _ hP
  have h4 : (List.range nB).length * 2 ^ 65 ≤ 12 * 2 ^ 65 := Nat.mul_le_mul_right _ (by simpa using hB)
  omega

theorem and_le (x y : Bits) : (x &&& y).toNat ≤ x.toNat := by rw [BitVec.toNat_and]; exact Nat.and_le_left
theorem and_lt {x y : Bits} (h : ¬ (x &&& y) = x) : (x &&& y).toNat < x.toNat := by
  have h1 := and_le x y
  have h2 : ¬ (x &&& y).toNat = x.toNat := fun e => h (BitVec.eq_of_toNat_eq e)
  omega

theorem muF_meet {P : List LPlace} {nB : Nat} {q m : FM} (h : (∃ p, p ∈ P ∧ (¬ (meetF q m).has p = q.has p ∨ ¬ (meetF q m).is p = q.is p)) ∨ ∃ t : Nat, t < nB ∧ ¬ (meetF q m).tmp t = q.tmp t) : muF P nB (meetF q m) < muF P nB q := by
  unfold muF
  have a1 : ∀ p, p ∈ P → ((meetF q m).has p).toNat + ((meetF q m).is p).toNat ≤ (q.has p).toNat + (q.is p).toNat := fun p _ => by
    have := and_le (q.has p) (m.has p)
    have := and_le (q.is p) (m.is p)
    simp only [meetF]
    omega
  have a2 : ∀ t, t ∈ List.range nB → ((meetF q m).tmp (t : Nat)).toNat ≤ (q.tmp (t : Nat)).toNat := fun t _ => and_le _ _
  rcases h with ⟨p, hp, h⟩ | ⟨t, ht, h⟩
  · have := sum_map_lt a1 ⟨p, hp, by
      have e1 := and_le (q.has p) (m.has p)
      have e2 := and_le (q.is p) (m.is p)
      rcases h with h | h
      · have := and_lt h; simp only [meetF]; omega
      · have := and_lt h; simp only [meetF]; omega⟩
    have := sum_map_le a2
    omega
  · have := sum_map_le a1
    have := sum_map_lt a2 ⟨t, List.mem_range.2 ht, and_lt h⟩
    omega

theorem muA_set {P : List LPlace} {nB : Nat} : ∀ {A : List (Option FM)} {x : Nat} {y : Option FM}, x < A.length → muO P nB y < muO P nB (A.getD x none) → muA P nB (A.set x y) < muA P nB A
  | [], x, y, h, _ => by simp at h
  | a :: A, 0, y, _, h => by
    simp at h
    simp [muA]
    omega
  | a :: A, x + 1, y, hx, h => by
    have := muA_set (P := P) (nB := nB) (A := A) (x := x) (y := y) (by simpa using hx) (by simpa using h)
    simp [muA] at this ⊢
    omega

def ClosedAt (B : List Bool) (C : List LIns) (s slots : Int) (R : List LRow) (N : List Int) (A : List (Option FM)) (k x : Nat) : Prop :=
  ∀ m, A.getD k none = some m → ∃ q, A.getD x none = some q ∧ ∀ f, Kof N q f → thruK (FactOk B s slots (NumP C)) (C.getD k .zero) (R.getD k .zero) (Kof N m) f

structure PassB (B : List Bool) (C : List LIns) (s slots : Int) (R : List LRow) (N : List Int) (P : List LPlace) (A0 A : List (Option FM)) (Z : Nat → Nat → Prop) (ch : Bool) : Prop where
  it : BIt B C s slots R N A
  same : ch = false → A = A0 ∧ ∀ k x, Z k x → ClosedAt B C s slots R N A0 k x
  less : ch = true → muA P B.length A < muA P B.length A0

section
variable {B : List Bool} {C : List LIns} {s slots : Int} {R : List LRow} {N : List Int} {P : List LPlace} {A0 A : List (Option FM)} {Z : Nat → Nat → Prop} {ch : Bool}

theorem PassB.start (h : BIt B C s slots R N A0) (hZ : ∀ k x, ¬ Z k x) : PassB B C s slots R N P A0 A0 Z false := ⟨h, fun _ => ⟨rfl, fun k x hz => absurd hz (hZ k x)⟩, fun h => by cases h⟩
theorem PassB.mono {Z' : Nat → Nat → Prop} (h : PassB B C s slots R N P A0 A Z ch) (hZ : ∀ k x, Z' k x → Z k x ∨ ∀ m, ¬ A0.getD k none = some m) : PassB B C s slots R N P A0 A Z' ch :=
  ⟨h.it, fun hc => ⟨(h.same hc).1, fun k x hz => by
    rcases hZ k x hz with h1 | h1
    · exact (h.same hc).2 k x h1
    · exact fun m hm => absurd hm (h1 m)⟩, h.less⟩

theorem PassB.first (h : PassB B C s slots R N P A0 A Z ch) (hP : P.length ≤ 100) (hB : B.length ≤ 12) {x : Nat} {m' : FM} (hr : Reach C x) (hxl : x < C.length) (hno : A.getD x none = none) (hok : FmOk B s slots N m') (hup : ∀ f, Known B C s slots R x f → Kof N m' f) (Z' : Nat → Nat → Prop) :
    PassB B C s slots R N P A0 (A.set x (some m')) Z' true := by
  refine ⟨h.it.first hr hxl hno hok hup, fun h => (by cases h), fun _ => ?_⟩
  have hx : x < A.length := by rw [h.it.len]; exact hxl
  have h1 : muA P B.length (A.set x (some m')) < muA P B.length A := muA_set hx (by rw [hno]; exact muF_lt hP hB m')
  cases hc : ch with
  | false => rw [(h.same hc).1] at h1 ⊢; exact h1
  | true => exact Nat.lt_trans h1 (h.less hc)

theorem PassB.went (h : PassB B C s slots R N P A0 A Z ch) (hs : N.Pairwise (· < ·)) {x : Nat} {q m' : FM} (hq : A.getD x none = some q) (hxl : x < C.length) (hup : ∀ f, Known B C s slots R x f → Kof N m' f) (hlt : muF P B.length (meetF q m') < muF P B.length q) (Z' : Nat → Nat → Prop) :
    PassB B C s slots R N P A0 (A.set x (some (meetF q m'))) Z' true := by
  refine ⟨h.it.again hs hq hxl hup, fun h => (by cases h), fun _ => ?_⟩
  have hx : x < A.length := by rw [h.it.len]; exact hxl
  have h1 : muA P B.length (A.set x (some (meetF q m'))) < muA P B.length A := muA_set hx (by rw [hq]; exact hlt)
  cases hc : ch with
  | false => rw [(h.same hc).1] at h1 ⊢; exact h1
  | true => exact Nat.lt_trans h1 (h.less hc)

theorem PassB.stays (h : PassB B C s slots R N P A0 A Z ch) (hs : N.Pairwise (· < ·)) {k x : Nat} {q m m' : FM} (hk : ch = false → A0.getD k none = some m) (hb : BehF B C s slots R N k m m') (hq : A.getD x none = some q) (he : meetF q m' = q) {Z' : Nat → Nat → Prop} (hZ : ∀ k' x', Z' k' x' → Z k' x' ∨ (k' = k ∧ x' = x)) :
    PassB B C s slots R N P A0 A Z' ch := by
  refine ⟨h.it, fun hc => ⟨(h.same hc).1, fun k' x' hz => ?_⟩, h.less⟩
  rcases hZ k' x' hz with h1 | ⟨rfl, rfl⟩
  · exact (h.same hc).2 k' x' h1
  · intro m1 hm1
    rw [hk hc] at hm1
    cases hm1
    refine ⟨q, by rw [← (h.same hc).1]; exact hq, fun f hf => ?_⟩
    rw [← he, meetF_is hs] at hf
    exact (hb.is f).1 hf.2

theorem PassB.done (h : PassB B C s slots R N P A0 A Z false) (hZ : ∀ k x, k < C.length → x ∈ nextsN (C.getD k .zero) k → x < C.length → Z k x) :
    ∀ k x, k < C.length → x ∈ nextsN (C.getD k .zero) k → x < C.length → ClosedAt B C s slots R N A k x := by
  obtain ⟨rfl, h2⟩ := h.same rfl
  exact fun k x hk hx hxl => h2 k x (hZ k x hk hx hxl)
end

structure FoundB (B : List Bool) (C : List LIns) (s slots : Int) (R : List LRow) (N : List Int) (A : List (Option FM)) : Prop where
  len : A.length = C.length
  ok : ∀ k m, A.getD k none = some m → FmOk B s slots N m
  rch : ∀ k, k < C.length → ((∃ m, A.getD k none = some m) ↔ Reach C k)
  is : ∀ k m, A.getD k none = some m → ∀ f, Kof N m f ↔ Known B C s slots R k f

theorem found_all {B : List Bool} {C : List LIns} {s slots : Int} {R : List LRow} {N : List Int} {A : List (Option FM)} (hN : NumsOf C N) (h : BIt B C s slots R N A) (hc : ∀ k x, k < C.length → x ∈ nextsN (C.getD k .zero) k → x < C.length → ClosedAt B C s slots R N A k x) : FoundB B C s slots R N A := by
  have hr : ∀ k, Reach C k → ∃ m, A.getD k none = some m := reach_least h.zero (fun j k ⟨m, hm⟩ hj hk hl => by
    obtain ⟨q, hq, _⟩ := hc j k hj hk hl m hm
    exact ⟨q, hq⟩)
  refine ⟨h.len, h.ok, fun k hk => ⟨fun ⟨m, hm⟩ => h.rch k m hm, hr k⟩, fun k m hm f => ?_⟩
  have hkr := h.rch k m hm
  have hS := found_known (B := B) (C := C) (s := s) (slots := slots) (R := R) (S := fun k f => ∃ m, A.getD k none = some m ∧ Kof N m f)
    (fun k f ⟨m, hm, hf⟩ => Kof.ok (h.ok k m hm) hN hf) (fun f ⟨m, hm, hf⟩ => h.beg m hm f hf)
    (fun k x hk hl hx hxl f ⟨q, hq, hf⟩ => by
      obtain ⟨m, hm⟩ := hr k hk
      obtain ⟨q', hq', hf'⟩ := hc k x hl hx hxl m hm
      rw [hq] at hq'
      cases hq'
      refine thruK_mono (fun g hg => ⟨m, hm, hg⟩) (hf' f hf))
    (fun k f hk hf => by
      obtain ⟨m, hm⟩ := hr k hk
      exact ⟨m, hm, h.up k m hm f hf⟩) hkr f
  rw [← hS]
  exact ⟨fun hf => ⟨m, hm, hf⟩, fun ⟨m', hm', hf⟩ => by rw [hm] at hm'; cases hm'; exact hf⟩

end Go.Proofs.YtcmnmogmdhofcabGreat.form

/- What is known behind an instruction and its moves (world.behind). -/
namespace Go.Proofs.YtcmnmogmdhofcabGreat.form
open Go.RowKit Go.Maps
set_option linter.unusedVariables false
set_option maxRecDepth 100000
attribute [local go_sem ↓] Go.wp_at_zero Go.wp_at_succ

theorem give_ok {B : List Bool} {nC : Nat} {s slots : Int} {i : LIns} {L : LPlace} (hib : insB B nC i = true) (hg : givesB i.op = true) (hrd : fieldP B s (givesB i.op) i.dest L = true) : GiveOk B s slots i L := by
  unfold insB at hib
  simp only [Bool.and_eq_true] at hib
  obtain ⟨⟨⟨⟨⟨⟨hkn, hn⟩, hd⟩, ha⟩, hb⟩, hl⟩, hw⟩ := hib
  unfold fieldP at hrd
  rw [if_pos hg] at hrd
  obtain ⟨r1, r2, r3⟩ := reg_is (slots := slots) hrd
  rw [hg] at hd
  unfold fieldB at hd
  simp only [if_true, Bool.and_eq_true, decide_eq_true_eq] at hd
  unfold regB at hrd
  rw [Bool.and_eq_true] at hrd
  have hk := hrd.1
  refine ⟨hd.1, hd.2, r1, fun e => ?_, fun e => ?_, fun e => ?_, fun e => ?_, fun e => ?_, fun e => ?_⟩
  · rw [e] at hk; simpa using hk
  · rw [e] at hk; simpa using hk
  · unfold widthsB wl wl0 wl1 manyI bw at hw
    rw [hg, e] at hw
    simpa using hw
  · unfold fieldB manyI at ha
    rw [e] at ha
    simp at ha
    exact ha.1
  · unfold fieldB manyI at ha
    rw [e] at ha
    simp at ha
    exact ha.2
  · unfold widthsB wl wl0 wl1 manyI bw at hw
    rw [hg, e] at hw
    simp at hw
    simp [hw]

structure BhS (w : World) (i : LIns) (r : LRow) (vb va : Value) (bi br : Nat) (wr : World) : Prop where
  bel : Below w.heap.size w wr
  lo : w.heap.size ≤ bi ∧ w.heap.size ≤ br
  i0 : wr.cell? ⟨bi, 0, none⟩ = some (.int .i64 i.op)
  i1 : wr.cell? ⟨bi, 1, none⟩ = some (.int .i64 i.dest)
  i2 : wr.cell? ⟨bi, 2, none⟩ = some (.int .i64 i.a)
  i3 : wr.cell? ⟨bi, 3, none⟩ = some (.int .i64 i.b)
  i4 : wr.cell? ⟨bi, 4, none⟩ = some (.int .i64 i.c)
  i5 : wr.cell? ⟨bi, 5, none⟩ = some (.int .u32 i.n)
  r0 : wr.cell? ⟨br, 0, none⟩ = some (.int .i64 r.dest.kind)
  r1 : wr.cell? ⟨br, 1, none⟩ = some (.int .i64 r.dest.n)
  r2 : wr.cell? ⟨br, 2, none⟩ = some (.int .i64 r.a.kind)
  r3 : wr.cell? ⟨br, 3, none⟩ = some (.int .i64 r.a.n)
  r4 : wr.cell? ⟨br, 4, none⟩ = some (.int .i64 r.b.kind)
  r5 : wr.cell? ⟨br, 5, none⟩ = some (.int .i64 r.b.n)
  r6 : wr.cell? ⟨br, 6, none⟩ = some vb
  r7 : wr.cell? ⟨br, 7, none⟩ = some va
def BhR (w : World) (i : LIns) (r : LRow) (vb va s7 s8 : Value) (wq : World) : Prop := ∃ bi br, s7 = .pointer (some ⟨bi, 0, none⟩) ∧ s8 = .pointer (some ⟨br, 0, none⟩) ∧ BhS w i r vb va bi br wq
theorem bh12 (w : World) (i : LIns) (r : LRow) (vb va : Value) : BhR w i r vb va (.pointer (some ⟨w.heap.size, 0, none⟩)) (.pointer (some ⟨w.heap.size + 1, 0, none⟩)) ((w.alloc (.cells #[.int .i64 i.op, .int .i64 i.dest, .int .i64 i.a, .int .i64 i.b, .int .i64 i.c, .int .u32 i.n] 35)).alloc (.cells #[.int .i64 r.dest.kind, .int .i64 r.dest.n, .int .i64 r.a.kind, .int .i64 r.a.n, .int .i64 r.b.kind, .int .i64 r.b.n, vb, va] 40)).drew :=
  ⟨_, _, rfl, rfl, ((((Below.refl _ _).alloc (Nat.le_refl _) _).alloc (by simp) _).drew), ⟨Nat.le_refl _, Nat.le_succ _⟩, by simp [go_sem], by simp [go_sem], by simp [go_sem], by simp [go_sem], by simp [go_sem], by simp [go_sem], by simp [go_sem], by simp [go_sem], by simp [go_sem], by simp [go_sem], by simp [go_sem], by simp [go_sem], by simp [go_sem], by simp [go_sem]⟩
theorem bh21 (w : World) (i : LIns) (r : LRow) (vb va : Value) : BhR w i r vb va (.pointer (some ⟨w.heap.size + 1, 0, none⟩)) (.pointer (some ⟨w.heap.size, 0, none⟩)) ((w.alloc (.cells #[.int .i64 r.dest.kind, .int .i64 r.dest.n, .int .i64 r.a.kind, .int .i64 r.a.n, .int .i64 r.b.kind, .int .i64 r.b.n, vb, va] 40)).alloc (.cells #[.int .i64 i.op, .int .i64 i.dest, .int .i64 i.a, .int .i64 i.b, .int .i64 i.c, .int .u32 i.n] 35)).drew :=
  ⟨_, _, rfl, rfl, ((((Below.refl _ _).alloc (Nat.le_refl _) _).alloc (by simp) _).drew), ⟨Nat.le_succ _, Nat.le_refl _⟩, by simp [go_sem], by simp [go_sem], by simp [go_sem], by simp [go_sem], by simp [go_sem], by simp [go_sem], by simp [go_sem], by simp [go_sem], by simp [go_sem], by simp [go_sem], by simp [go_sem], by simp [go_sem], by simp [go_sem], by simp [go_sem]⟩
theorem BhS.below {w : World} {i : LIns} {r : LRow} {vb va : Value} {bi br : Nat} {wr w' : World} (h : BhS w i r vb va bi br wr) (hb : Below wr.heap.size wr w') : BhS w i r vb va bi br w' :=
  ⟨step_below hb h.bel, h.lo, step_cell hb h.i0, step_cell hb h.i1, step_cell hb h.i2, step_cell hb h.i3, step_cell hb h.i4, step_cell hb h.i5, step_cell hb h.r0, step_cell hb h.r1, step_cell hb h.r2, step_cell hb h.r3, step_cell hb h.r4, step_cell hb h.r5, step_cell hb h.r6, step_cell hb h.r7⟩
theorem BhS.but {w : World} {i : LIns} {r : LRow} {vb va : Value} {bi br x y : Nat} {wr w' : World} (h : BhS w i r vb va bi br wr) (hb : But x y wr w') (hx : wr.heap.size ≤ x ∨ (w.heap.size ≤ x ∧ bi ≠ x ∧ br ≠ x)) (hy : wr.heap.size ≤ y ∨ (w.heap.size ≤ y ∧ bi ≠ y ∧ br ≠ y)) : BhS w i r vb va bi br w' := by
  have hi := cell_lt h.i0
  have hr := cell_lt h.r0
  have hs := h.bel.size
  have a1 : bi ≠ x := by rcases hx with e | e <;> omega
  have a2 : br ≠ x := by rcases hx with e | e <;> omega
  have b1 : bi ≠ y := by rcases hy with e | e <;> omega
  have b2 : br ≠ y := by rcases hy with e | e <;> omega
  have hbb : Below w.heap.size wr w' := hb.toBelow hs (by rcases hx with e | e <;> omega) (by rcases hy with e | e <;> omega)
  exact ⟨h.bel.trans hbb, h.lo, hb.cellOf h.i0 a1 b1, hb.cellOf h.i1 a1 b1, hb.cellOf h.i2 a1 b1, hb.cellOf h.i3 a1 b1, hb.cellOf h.i4 a1 b1, hb.cellOf h.i5 a1 b1, hb.cellOf h.r0 a2 b2, hb.cellOf h.r1 a2 b2, hb.cellOf h.r2 a2 b2, hb.cellOf h.r3 a2 b2, hb.cellOf h.r4 a2 b2, hb.cellOf h.r5 a2 b2, hb.cellOf h.r6 a2 b2, hb.cellOf h.r7 a2 b2⟩
theorem moves_ne {w : World} {mv : Value} {l : List LMove} (h : MovesIs w mv l) {x : Nat} (hx : w.heap.size ≤ x) : 0 < l.length → ∀ b o n c, mv = .slice (some ⟨b, o, none⟩) n c → b ≠ x := by
  obtain ⟨ao, cap, rfl, _, hc⟩ := h
  intro h0 b o n c e
  obtain ⟨b', o', e2, hlt, _⟩ := hc h0
  subst e2
  injection e with e1
  injection e1 with e1
  injection e1 with e1
  omega
theorem row_moves {B : List Bool} {s slots : Int} {i : LIns} {r : LRow} (h : rowB B s slots i r = true) : ((∀ v, v ∈ r.before → moveB s slots v = true) ∧ r.before.length ≤ 6) ∧ (∀ v, v ∈ r.after → moveB s slots v = true) ∧ r.after.length ≤ 6 := by
  unfold rowB at h
  simp only [Bool.and_eq_true] at h
  obtain ⟨⟨⟨⟨⟨rd, ra⟩, rb⟩, rbef⟩, raft⟩, _⟩ := h
  unfold movesB at rbef raft
  simp only [Bool.and_eq_true, List.all_eq_true, decide_eq_true_eq] at rbef raft
  exact ⟨⟨rbef.2, rbef.1⟩, raft.2, raft.1⟩
theorem row_fields {B : List Bool} {s slots : Int} {i : LIns} {r : LRow} (h : rowB B s slots i r = true) : fieldP B s (givesB i.op) i.dest r.dest = true ∧ fieldP B s (decide (0 < manyI i.op)) i.a r.a = true ∧ fieldP B s (decide (1 < manyI i.op)) i.b r.b = true := by
  unfold rowB at h
  simp only [Bool.and_eq_true] at h
  obtain ⟨⟨⟨⟨⟨rd, ra⟩, rb⟩, rbef⟩, raft⟩, _⟩ := h
  exact ⟨rd, ra, rb⟩
theorem ins_known {B : List Bool} {nC : Nat} {i : LIns} (h : insB B nC i = true) : knownB i.op = true := by
  unfold insB at h
  simp only [Bool.and_eq_true] at h
  exact h.1.1.1.1.1.1
theorem own_bel2 {w w' : World} {x y : Nat} {w1 : World} (h1 : Below w.heap.size w w1) (hb : But x y w1 w') (hx : w.heap.size ≤ x) (hy : w.heap.size ≤ y) : Below w.heap.size w w' := h1.trans (hb.toBelow h1.size hx hy)
set_option maxHeartbeats 1600000 in
theorem behindW {w : World} {lim : Nat} {g : WB} {B : List Bool} {C : List LIns} {R : List LRow} {A : List LPlace} {N : List Int} {s slots : Nat} (hW : WorldAt w lim g B C R A N) (hD : Dims B C s slots A N) (hnd : A.Nodup) (hib : ∀ k, k < C.length → insB B C.length (C.getD k .zero) = true) (hrb : ∀ k, k < C.length → rowB B s slots (C.getD k .zero) (R.getD k .zero) = true) (hRl : R.length = C.length) (k : Nat) (hk : k < C.length) (q mp mt : Nat) (T : List Int) (hT : ∀ t, t ∈ T ↔ 0 ≤ t ∧ t < B.length) (hTl : T.length ≤ 12) (m : FM) (hF : FMAt w q mp mt A T m) (hok : FmOk B s slots N m) :
    Calls Tryz.prog 69 #[.pointer (some ⟨g.q, 0, none⟩), .int .i64 k, .pointer (some ⟨q, 0, none⟩)] w fun e w' => ∃ q' mp' mt' m', e = .returned (.pointer (some ⟨q', 0, none⟩)) ∧ w.heap.size ≤ q' ∧ w.heap.size ≤ mp' ∧ w.heap.size ≤ mt' ∧ FMAt w' q' mp' mt' A T m' ∧ BehF B C s slots R N k m m' ∧ Below w.heap.size w w' := by
  have hkz : (k : Int) < (C.length : Int) := by omega
  have hkr : (k : Int) < (R.length : Int) := by omega
  have hc40 := hD.c40
  have hc40z : (C.length : Int) ≤ 40 := by omega
  have HW : Hid (WorldAt w lim g B C R A N) := hW
  have HD : Hid (Dims B C s slots A N) := hD
  have HF : Hid (FMAt w q mp mt A T m) := hF
  have HOK : Hid (FmOk B s slots N m) := hok
  have HND : Hid (A.Nodup) := hnd
  have HT : Hid (∀ t, t ∈ T ↔ 0 ≤ t ∧ t < B.length) := hT
  have hst := hW.stat
  have p1 := hst.p1
  have p2 := hst.p2
  have hgq := cell_lt p1
  obtain ⟨i0, i1, i2, i3, i4, i5⟩ := hst.held.code k hk
  obtain ⟨r0, r1, r2, r3, r4, r5, vb, va, r6, r7, hmb, hma⟩ := hst.rows.rows k (by omega)
  have HIB : Hid (insB B C.length (C.getD k .zero) = true) := hib k hk
  have HRB : Hid (rowB B s slots (C.getD k .zero) (R.getD k .zero) = true) := hrb k hk
  obtain ⟨i, hi⟩ : ∃ i, i = C.getD k .zero := ⟨_, rfl⟩
  obtain ⟨r, hr⟩ : ∃ r, r = R.getD k .zero := ⟨_, rfl⟩
  rw [← hi] at i0 i1 i2 i3 i4 i5 HIB HRB
  rw [← hr] at r0 r1 r2 r3 r4 r5 hmb hma HRB
  have HI : Hid (i = C.getD k .zero) := hi
  have HR : Hid (r = R.getD k .zero) := hr
  have hmb0 := hmb
  have hma0 := hma
  obtain ⟨aob, cb, hvb, _, _⟩ := hmb0
  obtain ⟨aoa, ca, hva, _, _⟩ := hma0
  subst hvb
  subst hva
  have HMB : Hid (MovesIs w (.slice aob r.before.length cb) r.before) := hmb
  have HMA : Hid (MovesIs w (.slice aoa r.after.length ca) r.after) := hma
  have hbl := cell_lt i0
  have hrl := cell_lt r0
  have o1 : ∀ x : Obj, Below w.heap.size w (w.alloc x).drew := fun x => ((Below.refl _ _).alloc (Nat.le_refl _) _).drew
  have o2 : ∀ x y : Obj, Below w.heap.size w ((w.alloc x).alloc y).drew := fun x y => (((Below.refl _ _).alloc (Nat.le_refl _) _).alloc (by simp) _).drew
  clear hW hD hF hok hnd hT hst hib hrb hi hr hmb hma
  go_enter Tryz.func69, Tryz.ntmps69
  go_upto_region 1 with fail
  go_cut [7, 8] (fun s7 s8 wq => BhR w i r (.slice aob r.before.length cb) (.slice aoa r.after.length ca) s7 s8 wq)
  case first =>
    refine wp_region_held_drew (S := (fun w' => Below w.heap.size w w')) (by rfl) ?_ (fun hHeld => ?_)
    · (exact (Below.refl _ _).drew)
    refine wpAnyH_take (i := 0) (v := ?_) rfl (by kernel_rfl) (by kernel_rfl) (by kernel_rfl) (fun _ _ _ h => h) (Or.inl ⟨by rfl, ?_⟩) (by assumption) ?_
    case refine_2 => (intro w hSw; (try dsimp only at hSw); go_simp; first | done | (with_reducible rfl))
    show wpAnyH _ _ _ _ _ _ _ (Act.put _ (some 12) _) _
    simp only [Act.put, List.setIfInBounds_toArray, List.set_cons_zero, List.set_cons_succ]
    refine wpAnyH_take (i := 1) (v := ?_) rfl (by kernel_rfl) (by kernel_rfl) (by kernel_rfl) (fun _ _ _ h => h) (Or.inl ⟨by rfl, ?_⟩) (by assumption) ?_
    case refine_2 => (intro w hSw; (try dsimp only at hSw); go_simp; first | done | (with_reducible rfl))
    show wpAnyH _ _ _ _ _ _ _ (Act.put _ (some 13) _) _
    simp only [Act.put, List.setIfInBounds_toArray, List.set_cons_zero, List.set_cons_succ]
    refine wpAnyH_take (i := 2) (v := ?_) rfl (by kernel_rfl) (by kernel_rfl) (by kernel_rfl) (fun _ _ _ h => h) (Or.inl ⟨by rfl, ?_⟩) (by assumption) ?_
    case refine_2 => (intro w hSw; (try dsimp only at hSw); go_simp; first | done | (with_reducible rfl))
    show wpAnyH _ _ _ _ _ _ _ (Act.put _ (some 14) _) _
    simp only [Act.put, List.setIfInBounds_toArray, List.set_cons_zero, List.set_cons_succ]
    refine wpAnyH_take (i := 3) (v := ?_) rfl (by kernel_rfl) (by kernel_rfl) (by kernel_rfl) (fun _ _ _ h => h) (Or.inl ⟨by rfl, ?_⟩) (by assumption) ?_
    case refine_2 => (intro w hSw; (try dsimp only at hSw); go_simp; first | done | (with_reducible rfl))
    show wpAnyH _ _ _ _ _ _ _ (Act.put _ (some 15) _) _
    simp only [Act.put, List.setIfInBounds_toArray, List.set_cons_zero, List.set_cons_succ]
    refine wpAnyH_take (i := 4) (v := ?_) rfl (by kernel_rfl) (by kernel_rfl) (by kernel_rfl) (fun _ _ _ h => h) (Or.inl ⟨by rfl, ?_⟩) (by assumption) ?_
    case refine_2 => (intro w5 hSw; (try dsimp only at hSw); have sp1 := step_cell hSw p1; go_simp; first | done | (with_reducible rfl))
    show wpAnyH _ _ _ _ _ _ _ (Act.put _ (some 16) _) _
    simp only [Act.put, List.setIfInBounds_toArray, List.set_cons_zero, List.set_cons_succ]
    refine wpAnyH_take (i := 5) (v := ?_) rfl (by kernel_rfl) (by kernel_rfl) (by kernel_rfl) (fun _ _ _ h => h) (Or.inl ⟨by rfl, ?_⟩) (by assumption) ?_
    case refine_2 => (intro w hSw; (try dsimp only at hSw); go_simp; first | done | (with_reducible rfl))
    show wpAnyH _ _ _ _ _ _ _ (Act.put _ (some 17) _) _
    simp only [Act.put, List.setIfInBounds_toArray, List.set_cons_zero, List.set_cons_succ]
    refine wpAnyH_take (i := 6) (v := ?_) rfl (by kernel_rfl) (by kernel_rfl) (by kernel_rfl) (fun _ _ _ h => h) (Or.inl ⟨by rfl, ?_⟩) (by assumption) ?_
    case refine_2 => (intro w hSw; (try dsimp only at hSw); go_simp; first | done | (with_reducible rfl))
    show wpAnyH _ _ _ _ _ _ _ (Act.put _ (some 18) _) _
    simp only [Act.put, List.setIfInBounds_toArray, List.set_cons_zero, List.set_cons_succ]
    refine wpAnyH_take (i := 7) (v := ?_) rfl (by kernel_rfl) (by kernel_rfl) (by kernel_rfl) (fun _ _ _ h => h) (Or.inl ⟨by rfl, ?_⟩) (by assumption) ?_
    case refine_2 => (intro w5 hSw; (try dsimp only at hSw); have si0 := step_cell hSw i0; have si1 := step_cell hSw i1; have si2 := step_cell hSw i2; have si3 := step_cell hSw i3; have si4 := step_cell hSw i4; have si5 := step_cell hSw i5; go_simp; first | done | (with_reducible rfl))
    show wpAnyH _ _ _ _ _ _ _ (Act.put _ (some 19) _) _
    simp only [Act.put, List.setIfInBounds_toArray, List.set_cons_zero, List.set_cons_succ]
    refine wpAnyH_take (i := 8) (v := ?_) rfl (by kernel_rfl) (by kernel_rfl) (by kernel_rfl) (fun _ _ _ h => h) (Or.inl ⟨by rfl, ?_⟩) (by assumption) ?_
    case refine_2 => (intro w hSw; (try dsimp only at hSw); go_simp; first | done | (with_reducible rfl))
    show wpAnyH _ _ _ _ _ _ _ (Act.put _ (some 20) _) _
    simp only [Act.put, List.setIfInBounds_toArray, List.set_cons_zero, List.set_cons_succ]
    refine wpAnyH_take (i := 9) (v := ?_) rfl (by kernel_rfl) (by kernel_rfl) (by kernel_rfl) (fun _ _ _ h => h) (Or.inl ⟨by rfl, ?_⟩) (by assumption) ?_
    case refine_2 => (intro w hSw; (try dsimp only at hSw); go_simp; first | done | (with_reducible rfl))
    show wpAnyH _ _ _ _ _ _ _ (Act.put _ (some 21) _) _
    simp only [Act.put, List.setIfInBounds_toArray, List.set_cons_zero, List.set_cons_succ]
    refine wpAnyH_take (i := 10) (v := ?_) rfl (by kernel_rfl) (by kernel_rfl) (by kernel_rfl) (fun _ _ _ h => h) (Or.inl ⟨by rfl, ?_⟩) (by assumption) ?_
    case refine_2 => (intro w hSw; (try dsimp only at hSw); go_simp; first | done | (with_reducible rfl))
    show wpAnyH _ _ _ _ _ _ _ (Act.put _ (some 22) _) _
    simp only [Act.put, List.setIfInBounds_toArray, List.set_cons_zero, List.set_cons_succ]
    refine wpAnyH_take (i := 11) (v := ?_) rfl (by kernel_rfl) (by kernel_rfl) (by kernel_rfl) (fun _ _ _ h => h) (Or.inl ⟨by rfl, ?_⟩) (by assumption) ?_
    case refine_2 => (intro w5 hSw; (try dsimp only at hSw); have sp2 := step_cell hSw p2; go_simp; first | done | (with_reducible rfl))
    show wpAnyH _ _ _ _ _ _ _ (Act.put _ (some 23) _) _
    simp only [Act.put, List.setIfInBounds_toArray, List.set_cons_zero, List.set_cons_succ]
    refine wpAnyH_take (i := 12) (v := ?_) rfl (by kernel_rfl) (by kernel_rfl) (by kernel_rfl) (fun _ _ _ h => h) (Or.inl ⟨by rfl, ?_⟩) (by assumption) ?_
    case refine_2 => (intro w hSw; (try dsimp only at hSw); go_simp; first | done | (with_reducible rfl))
    show wpAnyH _ _ _ _ _ _ _ (Act.put _ (some 24) _) _
    simp only [Act.put, List.setIfInBounds_toArray, List.set_cons_zero, List.set_cons_succ]
    refine wpAnyH_take (i := 13) (v := ?_) rfl (by kernel_rfl) (by kernel_rfl) (by kernel_rfl) (fun _ _ _ h => h) (Or.inl ⟨by rfl, ?_⟩) (by assumption) ?_
    case refine_2 => (intro w hSw; (try dsimp only at hSw); go_simp; first | done | (with_reducible rfl))
    show wpAnyH _ _ _ _ _ _ _ (Act.put _ (some 25) _) _
    simp only [Act.put, List.setIfInBounds_toArray, List.set_cons_zero, List.set_cons_succ]
    refine wpAnyH_take (i := 14) (v := ?_) rfl (by kernel_rfl) (by kernel_rfl) (by kernel_rfl) (fun _ _ _ h => h) (Or.inl ⟨by rfl, ?_⟩) (by assumption) ?_
    case refine_2 => (intro w5 hSw; (try dsimp only at hSw); have sr0 := step_cell hSw r0; have sr1 := step_cell hSw r1; have sr2 := step_cell hSw r2; have sr3 := step_cell hSw r3; have sr4 := step_cell hSw r4; have sr5 := step_cell hSw r5; have sr6 := step_cell hSw r6; have sr7 := step_cell hSw r7; go_simp; first | done | (with_reducible rfl))
    show wpAnyH _ _ _ _ _ _ _ (Act.put _ (some 26) _) _
    simp only [Act.put, List.setIfInBounds_toArray, List.set_cons_zero, List.set_cons_succ]
    refine wpAnyH_ready (rs := [15, 16]) (by kernel_rfl) (by simp) ?_
    refine (AllReadyH.cons rfl (fun K hK => ?_) (AllReadyH.cons rfl (fun K hK => ?_) AllReadyH.nil))
    · skip
      go_simp
      refine hK.out _ _ ?_ (fun hHeld => ?_)
      · (exact o1 _)
      clear hK K
      try simp only [Act.put, List.setIfInBounds_toArray, List.set_cons_zero, List.set_cons_succ]
      refine wpAnyH_ready (rs := [16]) (by kernel_rfl) (by simp) ?_
      refine (AllReadyH.cons rfl (fun K hK => ?_) AllReadyH.nil)
      go_simp
      refine hK.out _ _ ?_ (fun hHeld => ?_)
      · (exact o2 _ _)
      clear hK K
      try simp only [Act.put, List.setIfInBounds_toArray, List.set_cons_zero, List.set_cons_succ]
      refine wpAnyH_ready (rs := [17]) (by kernel_rfl) (by simp) ?_
      refine (AllReadyH.cons rfl (fun K hK => ?_) AllReadyH.nil)
      go_simp
      refine hK.out _ _ ?_ (fun hHeld => ?_)
      · (exact o2 _ _)
      clear hK K
      try simp only [Act.put, List.setIfInBounds_toArray, List.set_cons_zero, List.set_cons_succ]
      refine wpAnyH_ready (rs := [18]) (by kernel_rfl) (by simp) ?_
      refine (AllReadyH.cons rfl (fun K hK => ?_) AllReadyH.nil)
      go_simp
      refine hK.out _ _ ?_ (fun hHeld => ?_)
      · (exact o2 _ _)
      clear hK K
      try simp only [Act.put, List.setIfInBounds_toArray, List.set_cons_zero, List.set_cons_succ]
      refine wpAnyH_done (by kernel_rfl) ?_ _
      clear hHeld
      go_wp2_with fail
      go_meet
      case rel => exact bh12 w i r (.slice aob r.before.length cb) (.slice aoa r.after.length ca)
    · skip
      go_simp
      refine hK.out _ _ ?_ (fun hHeld => ?_)
      · (exact o1 _)
      clear hK K
      try simp only [Act.put, List.setIfInBounds_toArray, List.set_cons_zero, List.set_cons_succ]
      refine wpAnyH_ready (rs := [15]) (by kernel_rfl) (by simp) ?_
      refine (AllReadyH.cons rfl (fun K hK => ?_) AllReadyH.nil)
      go_simp
      refine hK.out _ _ ?_ (fun hHeld => ?_)
      · (exact o2 _ _)
      clear hK K
      try simp only [Act.put, List.setIfInBounds_toArray, List.set_cons_zero, List.set_cons_succ]
      refine wpAnyH_ready (rs := [17]) (by kernel_rfl) (by simp) ?_
      refine (AllReadyH.cons rfl (fun K hK => ?_) AllReadyH.nil)
      go_simp
      refine hK.out _ _ ?_ (fun hHeld => ?_)
      · (exact o2 _ _)
      clear hK K
      try simp only [Act.put, List.setIfInBounds_toArray, List.set_cons_zero, List.set_cons_succ]
      refine wpAnyH_ready (rs := [18]) (by kernel_rfl) (by simp) ?_
      refine (AllReadyH.cons rfl (fun K hK => ?_) AllReadyH.nil)
      go_simp
      refine hK.out _ _ ?_ (fun hHeld => ?_)
      · (exact o2 _ _)
      clear hK K
      try simp only [Act.put, List.setIfInBounds_toArray, List.set_cons_zero, List.set_cons_succ]
      refine wpAnyH_done (by kernel_rfl) ?_ _
      clear hHeld
      go_wp2_with fail
      go_meet
      case rel => exact bh21 w i r (.slice aob r.before.length cb) (.slice aoa r.after.length ca)
  case rest =>
    obtain ⟨bi, br, hs7, hs8, hbh⟩ := hcut
    subst hs7
    subst hs8
    obtain ⟨wd, hwd⟩ : ∃ wd, wd = wc := ⟨_, rfl⟩
    rw [← hwd] at hbh ⊢
    clear hwd i0 i1 i2 i3 i4 i5 r0 r1 r2 r3 r4 r5 r6 r7 p1 p2 o1 o2
    have HBH : Hid (BhS w i r (.slice aob r.before.length cb) (.slice aoa r.after.length ca) bi br wd) := hbh
    have hle := HW.out.le
    have hsz := hbh.bel.size
    have hbi := cell_lt hbh.i0
    have hbr := cell_lt hbh.r0
    have c := cloneF q mp mt A T m wd (HF.out.below hbh.bel)
    clear hbh
    go_upto_region 3 with (go_at_call 43; refine c.mono ?_; rintro e w1 ⟨q1, mp1, mt1, rfl, hq1, hp1, ht1, hf1, hb1⟩; have HF1 : Hid (FMAt w1 q1 mp1 mt1 A T m) := hf1; have HB1 : Hid (Below wd.heap.size wd w1) := hb1; clear hf1 hb1)
    clear c
    have HBH1 : Hid (BhS w i r (.slice aob r.before.length cb) (.slice aoa r.after.length ca) bi br w1) := HBH.out.below HB1.out
    have hr6 := HBH1.out.r6
    have hm0 := row_moves HRB.out
    have c := moveAllW HD.out q1 mp1 mt1 T (by omega) (by omega) r.before hm0.1.1 hm0.1.2 (.slice aob r.before.length cb) w1 (HW.out.below HBH1.out.bel) m HF1.out HOK.out (HMB.out.later HBH1.out.bel) (moves_ne HMB.out (by omega))
    clear hm0
    go_upto_region 4 with (go_at_call 44; refine c.mono ?_; rintro e w2 ⟨rfl, m2, hf2, hk2, hi2, hb2⟩; have HF2 : Hid (FMAt w2 q1 mp1 mt1 A T m2) := hf2; have HK2 : Hid (FmOk B s slots N m2) := hk2; have HI2 : Hid (∀ f, Kof N m2 f ↔ movesK (FactOk B s slots (NumP C)) r.before (Kof N m) f) := hi2; have HB2 : Hid (But mp1 mp1 w1 w2) := hb2; clear hf2 hk2 hi2 hb2)
    clear c hr6
    have HBH2 : Hid (BhS w i r (.slice aob r.before.length cb) (.slice aoa r.after.length ca) bi br w2) := HBH1.out.but HB2.out (Or.inr ⟨by omega, by omega, by omega⟩) (Or.inr ⟨by omega, by omega, by omega⟩)
    have h0 := HBH2.out.i0
    have c := has i.op w2
    rw [isT_gives (ins_known HIB.out)] at c
    obtain ⟨gv, hgv⟩ : ∃ gv, gv = givesB i.op := ⟨_, rfl⟩
    rw [← hgv] at c
    have HGV : Hid (gv = givesB i.op) := hgv
    clear hgv
    go_upto_region 5 with (go_at_call 45; refine c.mono ?_; rintro e w3 ⟨rfl, hb3⟩; have HB3 : Hid (Below w2.heap.size w2 w3) := hb3; clear hb3)
    clear c h0
    have HBH3 : Hid (BhS w i r (.slice aob r.before.length cb) (.slice aoa r.after.length ca) bi br w3) := HBH2.out.below HB3.out
    have HF3 : Hid (FMAt w3 q1 mp1 mt1 A T m2) := HF2.out.below HB3.out
    have h0 := HBH3.out.i0
    have h1 := HBH3.out.i1
    have h2 := HBH3.out.i2
    have h3 := HBH3.out.i3
    have h4 := HBH3.out.i4
    have h5 := HBH3.out.i5
    have k0 := HBH3.out.r0
    have k1 := HBH3.out.r1
    go_upto_if 41 with fail
    go_cut [] (fun wq => ∃ m4, BhS w i r (.slice aob r.before.length cb) (.slice aoa r.after.length ca) bi br wq ∧ FMAt wq q1 mp1 mt1 A T m4 ∧ FmOk B s slots N m4 ∧ ∀ f, Kof N m4 f ↔ (if givesB i.op = true then insK (FactOk B s slots (NumP C)) i r.dest (movesK (FactOk B s slots (NumP C)) r.before (Kof N m)) else movesK (FactOk B s slots (NumP C)) r.before (Kof N m)) f)
    case first =>
      rcases Bool.eq_false_or_eq_true gv with hc | hc
      · have HG : Hid (givesB i.op = true) := HGV.out.symm.trans hc
        have hgo : GiveOk B s slots i r.dest := give_ok HIB.out HG.out (row_fields HRB.out).1
        have c := giveW (HW.out.below HBH3.out.bel) HD.out HND.out q1 mp1 mt1 T HT.out hTl m2 HF3.out (by omega) (by omega) (by omega) i r.dest hgo
        have HGO : Hid (GiveOk B s slots i r.dest) := hgo
        unfold LIns.val LPlace.val at c
        clear hgo
        subst hc
        go_wp2_with (go_at_call 102; refine c.mono ?_; rintro e w4 ⟨rfl, gh, gi, sm, hg4, hf4, hb4⟩; have HG4 : Hid (GotI s slots N m2 i r.dest gh gi sm) := hg4; have HF4 : Hid (FMAt w4 q1 mp1 mt1 A T (giveF s slots m2 i.dest.toNat r.dest gh gi sm)) := hf4; have HB4 : Hid (But mp1 mt1 w3 w4) := hb4; clear hg4 hf4 hb4)
        go_meet
        case rel =>
          refine ⟨_, HBH3.out.but HB4.out (Or.inr ⟨by omega, by omega, by omega⟩) (Or.inr ⟨by omega, by omega, by omega⟩), HF4.out, giveF_ok HD.out.b12 HK2.out HGO.out HG4.out, fun f => ?_⟩
          rw [if_pos HG.out, giveF_is HD.out.b12 HK2.out HD.out.num HGO.out HG4.out]
          exact ⟨insK_mono (fun f => (HI2.out f).1), insK_mono (fun f => (HI2.out f).2)⟩
      · have HG : Hid (givesB i.op = false) := HGV.out.symm.trans hc
        subst hc
        go_wp2
        go_meet
        case rel =>
          refine ⟨m2, HBH3.out, HF3.out, HK2.out, fun f => ?_⟩
          rw [if_neg (by rw [HG.out]; decide)]
          exact HI2.out f
    case rest =>
      obtain ⟨m4, hbh4, hf4, hk4, hi4⟩ := hcut
      obtain ⟨we, hwe⟩ : ∃ we, we = wc := ⟨_, rfl⟩
      rw [← hwe] at hbh4 hf4 ⊢
      clear hwe h0 h1 h2 h3 h4 h5 k0 k1
      have HBH4 : Hid (BhS w i r (.slice aob r.before.length cb) (.slice aoa r.after.length ca) bi br we) := hbh4
      have HI4 : Hid (∀ f, Kof N m4 f ↔ (if givesB i.op = true then insK (FactOk B s slots (NumP C)) i r.dest (movesK (FactOk B s slots (NumP C)) r.before (Kof N m)) else movesK (FactOk B s slots (NumP C)) r.before (Kof N m)) f) := hi4
      have hr7 := hbh4.r7
      have hm0 := row_moves HRB.out
      have c := moveAllW HD.out q1 mp1 mt1 T (by omega) (by omega) r.after hm0.2.1 hm0.2.2 (.slice aoa r.after.length ca) we (HW.out.below hbh4.bel) m4 hf4 hk4 (HMA.out.later hbh4.bel) (moves_ne HMA.out (by omega))
      clear hm0 hbh4 hf4 hk4 hi4
      go_wp2_with (go_at_call 44; refine c.mono ?_; rintro e w5 ⟨rfl, m5, hf5, hk5, hi5, hb5⟩; have HF5 : Hid (FMAt w5 q1 mp1 mt1 A T m5) := hf5; have HK5 : Hid (FmOk B s slots N m5) := hk5; have HI5 : Hid (∀ f, Kof N m5 f ↔ movesK (FactOk B s slots (NumP C)) r.after (Kof N m4) f) := hi5; have HB5 : Hid (But mp1 mp1 we w5) := hb5; clear hf5 hk5 hi5 hb5)
      go_ret
      refine ⟨q1, mp1, mt1, m5, rfl, by omega, by omega, by omega, HF5.out, ⟨HK5.out, fun f => ?_⟩, own_bel2 HBH4.out.bel HB5.out (by omega) (by omega)⟩
      rw [HI5.out, ← HI.out, ← HR.out]
      unfold thruK
      exact ⟨movesK_mono _ (fun f => (HI4.out f).1) f, movesK_mono _ (fun f => (HI4.out f).2) f⟩
end Go.Proofs.YtcmnmogmdhofcabGreat.form

/- Whether an instruction's A and B are where its row says (world.finds). -/
namespace Go.Proofs.YtcmnmogmdhofcabGreat.form
open Go.RowKit Go.Maps
set_option linter.unusedVariables false
set_option maxRecDepth 100000
attribute [local go_sem ↓] Go.wp_at_zero Go.wp_at_succ

theorem asAgg_run (P : Program) (cs : Array Value) (w : World) : Sem.run P (asAgg (.agg cs)) w = .ok cs w := rfl
theorem field_has (x y : Value) (w : World) : (Instr.field 108 (.agg #[x, y]) 0).run Tryz.prog w = .ok x w := by
  have hu := Tryz.underlying108
  simp [go_sem, Instr.field, asAgg_run]
attribute [local go_sem] field_has

theorem uses_has {B : List Bool} {s : Int} {ok : LFact → Prop} {N : List Int} {m m2 : FM} {i : LIns} {r : LRow} (hi2 : ∀ f, Kof N m2 f ↔ movesK ok r.before (Kof N m) f) (ha0 : 0 ≤ i.a) (hb0 : 0 ≤ i.b) (ra : fieldP B s (decide (0 < manyI i.op)) i.a r.a = true) (rb : fieldP B s (decide (1 < manyI i.op)) i.b r.b = true) :
    ((!decide (0 < manyI i.op) || (m2.has r.a).getLsbD i.a.toNat) && (!decide (1 < manyI i.op) || (m2.has r.b).getLsbD i.b.toNat)) = true ↔ usesK ok i r (Kof N m) := by
  have key : ∀ (p : LPlace) (t : Int), 0 ≤ t → (p.kind = 1 ∨ p.kind = 2) → (movesK ok r.before (Kof N m) ⟨p, true, t, 0⟩ ↔ (m2.has p).getLsbD t.toNat = true) := by
    intro p t h0 hk
    rw [← hi2]
    unfold Kof
    rw [if_neg (by simp only; omega), if_pos rfl]
    exact ⟨fun h => h.2.2, fun h => ⟨rfl, h0, h⟩⟩
  have kA : 0 < manyI i.op → (r.a.kind = 1 ∨ r.a.kind = 2) := fun hp => by
    unfold fieldP at ra
    rw [if_pos (by simpa using hp)] at ra
    exact (reg_is (slots := 0) ra).2.1
  have kB : 1 < manyI i.op → (r.b.kind = 1 ∨ r.b.kind = 2) := fun hp => by
    unfold fieldP at rb
    rw [if_pos (by simpa using hp)] at rb
    exact (reg_is (slots := 0) rb).2.1
  unfold usesK
  rw [Bool.and_eq_true]
  refine and_congr ?_ ?_
  · by_cases hp : 0 < manyI i.op
    · rw [key _ _ ha0 (kA hp)]
      simp [hp]
    · simp [hp]
  · by_cases hp : 1 < manyI i.op
    · rw [key _ _ hb0 (kB hp)]
      simp [hp]
    · simp [hp]

theorem row_wfA {B : List Bool} {C : List LIns} {A : List LPlace} {N : List Int} {s slots : Nat} {th : Bool} {t : Int} {p : LPlace} (hD : Dims B C s slots A N) (h : fieldP B s th t p = true) : PlWf p := by
  unfold fieldP at h
  split at h
  · exact hD.wf (reg_is (slots := slots) h).1
  · simp at h
    exact ⟨by omega, by omega, by omega, by omega⟩

def FindS (a ca b cb : Bool) : Bool := (!a || ca) && (!b || cb)

set_option maxHeartbeats 1600000 in
theorem findsW {w : World} {lim : Nat} {g : WB} {B : List Bool} {C : List LIns} {R : List LRow} {A : List LPlace} {N : List Int} {s slots : Nat} (hW : WorldAt w lim g B C R A N) (hD : Dims B C s slots A N) (hnd : A.Nodup) (hib : ∀ k, k < C.length → insB B C.length (C.getD k .zero) = true) (hrb : ∀ k, k < C.length → rowB B s slots (C.getD k .zero) (R.getD k .zero) = true) (hRl : R.length = C.length) (k : Nat) (hk : k < C.length) (q mp mt : Nat) (T : List Int) (hT : ∀ t, t ∈ T ↔ 0 ≤ t ∧ t < B.length) (hTl : T.length ≤ 12) (m : FM) (hF : FMAt w q mp mt A T m) (hok : FmOk B s slots N m) (hio : ∀ k, k < C.length → InsOk B.length C.length (C.getD k .zero)) :
    Calls Tryz.prog 17 #[.pointer (some ⟨g.q, 0, none⟩), .int .i64 k, .pointer (some ⟨q, 0, none⟩)] w fun e w' => (∃ z, e = .returned (.bool z) ∧ (z = true ↔ usesK (FactOk B s slots (NumP C)) (C.getD k .zero) (R.getD k .zero) (Kof N m))) ∧ Below w.heap.size w w' := by
  have HIO : Hid (InsOk B.length C.length (C.getD k .zero)) := hio k hk
  have hb12 := hD.b12
  clear hio
  have hkz : (k : Int) < (C.length : Int) := by omega
  have hkr : (k : Int) < (R.length : Int) := by omega
  have hc40 := hD.c40
  have hc40z : (C.length : Int) ≤ 40 := by omega
  have HW : Hid (WorldAt w lim g B C R A N) := hW
  have HD : Hid (Dims B C s slots A N) := hD
  have HF : Hid (FMAt w q mp mt A T m) := hF
  have HOK : Hid (FmOk B s slots N m) := hok
  have HND : Hid (A.Nodup) := hnd
  have HT : Hid (∀ t, t ∈ T ↔ 0 ≤ t ∧ t < B.length) := hT
  have hst := hW.stat
  have p1 := hst.p1
  have p2 := hst.p2
  have hgq := cell_lt p1
  obtain ⟨i0, i1, i2, i3, i4, i5⟩ := hst.held.code k hk
  obtain ⟨r0, r1, r2, r3, r4, r5, vb, va, r6, r7, hmb, hma⟩ := hst.rows.rows k (by omega)
  have HIB : Hid (insB B C.length (C.getD k .zero) = true) := hib k hk
  have HRB : Hid (rowB B s slots (C.getD k .zero) (R.getD k .zero) = true) := hrb k hk
  obtain ⟨i, hi⟩ : ∃ i, i = C.getD k .zero := ⟨_, rfl⟩
  obtain ⟨r, hr⟩ : ∃ r, r = R.getD k .zero := ⟨_, rfl⟩
  rw [← hi] at i0 i1 i2 i3 i4 i5 HIB HRB
  rw [← hr] at r0 r1 r2 r3 r4 r5 hmb hma HRB
  have HI : Hid (i = C.getD k .zero) := hi
  have HR : Hid (r = R.getD k .zero) := hr
  have hmb0 := hmb
  have hma0 := hma
  obtain ⟨aob, cb, hvb, _, _⟩ := hmb0
  obtain ⟨aoa, ca, hva, _, _⟩ := hma0
  subst hvb
  subst hva
  have HMB : Hid (MovesIs w (.slice aob r.before.length cb) r.before) := hmb
  have HMA : Hid (MovesIs w (.slice aoa r.after.length ca) r.after) := hma
  have hbl := cell_lt i0
  have hrl := cell_lt r0
  have o1 : ∀ x : Obj, Below w.heap.size w (w.alloc x).drew := fun x => ((Below.refl _ _).alloc (Nat.le_refl _) _).drew
  have o2 : ∀ x y : Obj, Below w.heap.size w ((w.alloc x).alloc y).drew := fun x y => (((Below.refl _ _).alloc (Nat.le_refl _) _).alloc (by simp) _).drew
  clear hW hD hF hok hnd hT hst hib hrb hi hr hmb hma
  go_enter Tryz.func17, Tryz.ntmps17
  go_upto_region 1 with fail
  go_cut [7, 8] (fun s7 s8 wq => BhR w i r (.slice aob r.before.length cb) (.slice aoa r.after.length ca) s7 s8 wq)
  case first =>
    refine wp_region_held_drew (S := (fun w' => Below w.heap.size w w')) (by rfl) ?_ (fun hHeld => ?_)
    · (exact (Below.refl _ _).drew)
    refine wpAnyH_take (i := 0) (v := ?_) rfl (by kernel_rfl) (by kernel_rfl) (by kernel_rfl) (fun _ _ _ h => h) (Or.inl ⟨by rfl, ?_⟩) (by assumption) ?_
    case refine_2 => (intro w hSw; (try dsimp only at hSw); go_simp; first | done | (with_reducible rfl))
    show wpAnyH _ _ _ _ _ _ _ (Act.put _ (some 13) _) _
    simp only [Act.put, List.setIfInBounds_toArray, List.set_cons_zero, List.set_cons_succ]
    refine wpAnyH_take (i := 1) (v := ?_) rfl (by kernel_rfl) (by kernel_rfl) (by kernel_rfl) (fun _ _ _ h => h) (Or.inl ⟨by rfl, ?_⟩) (by assumption) ?_
    case refine_2 => (intro w hSw; (try dsimp only at hSw); go_simp; first | done | (with_reducible rfl))
    show wpAnyH _ _ _ _ _ _ _ (Act.put _ (some 14) _) _
    simp only [Act.put, List.setIfInBounds_toArray, List.set_cons_zero, List.set_cons_succ]
    refine wpAnyH_take (i := 2) (v := ?_) rfl (by kernel_rfl) (by kernel_rfl) (by kernel_rfl) (fun _ _ _ h => h) (Or.inl ⟨by rfl, ?_⟩) (by assumption) ?_
    case refine_2 => (intro w hSw; (try dsimp only at hSw); go_simp; first | done | (with_reducible rfl))
    show wpAnyH _ _ _ _ _ _ _ (Act.put _ (some 15) _) _
    simp only [Act.put, List.setIfInBounds_toArray, List.set_cons_zero, List.set_cons_succ]
    refine wpAnyH_take (i := 3) (v := ?_) rfl (by kernel_rfl) (by kernel_rfl) (by kernel_rfl) (fun _ _ _ h => h) (Or.inl ⟨by rfl, ?_⟩) (by assumption) ?_
    case refine_2 => (intro w hSw; (try dsimp only at hSw); go_simp; first | done | (with_reducible rfl))
    show wpAnyH _ _ _ _ _ _ _ (Act.put _ (some 16) _) _
    simp only [Act.put, List.setIfInBounds_toArray, List.set_cons_zero, List.set_cons_succ]
    refine wpAnyH_take (i := 4) (v := ?_) rfl (by kernel_rfl) (by kernel_rfl) (by kernel_rfl) (fun _ _ _ h => h) (Or.inl ⟨by rfl, ?_⟩) (by assumption) ?_
    case refine_2 => (intro w5 hSw; (try dsimp only at hSw); have sp1 := step_cell hSw p1; go_simp; first | done | (with_reducible rfl))
    show wpAnyH _ _ _ _ _ _ _ (Act.put _ (some 17) _) _
    simp only [Act.put, List.setIfInBounds_toArray, List.set_cons_zero, List.set_cons_succ]
    refine wpAnyH_take (i := 5) (v := ?_) rfl (by kernel_rfl) (by kernel_rfl) (by kernel_rfl) (fun _ _ _ h => h) (Or.inl ⟨by rfl, ?_⟩) (by assumption) ?_
    case refine_2 => (intro w hSw; (try dsimp only at hSw); go_simp; first | done | (with_reducible rfl))
    show wpAnyH _ _ _ _ _ _ _ (Act.put _ (some 18) _) _
    simp only [Act.put, List.setIfInBounds_toArray, List.set_cons_zero, List.set_cons_succ]
    refine wpAnyH_take (i := 6) (v := ?_) rfl (by kernel_rfl) (by kernel_rfl) (by kernel_rfl) (fun _ _ _ h => h) (Or.inl ⟨by rfl, ?_⟩) (by assumption) ?_
    case refine_2 => (intro w hSw; (try dsimp only at hSw); go_simp; first | done | (with_reducible rfl))
    show wpAnyH _ _ _ _ _ _ _ (Act.put _ (some 19) _) _
    simp only [Act.put, List.setIfInBounds_toArray, List.set_cons_zero, List.set_cons_succ]
    refine wpAnyH_take (i := 7) (v := ?_) rfl (by kernel_rfl) (by kernel_rfl) (by kernel_rfl) (fun _ _ _ h => h) (Or.inl ⟨by rfl, ?_⟩) (by assumption) ?_
    case refine_2 => (intro w5 hSw; (try dsimp only at hSw); have si0 := step_cell hSw i0; have si1 := step_cell hSw i1; have si2 := step_cell hSw i2; have si3 := step_cell hSw i3; have si4 := step_cell hSw i4; have si5 := step_cell hSw i5; go_simp; first | done | (with_reducible rfl))
    show wpAnyH _ _ _ _ _ _ _ (Act.put _ (some 20) _) _
    simp only [Act.put, List.setIfInBounds_toArray, List.set_cons_zero, List.set_cons_succ]
    refine wpAnyH_take (i := 8) (v := ?_) rfl (by kernel_rfl) (by kernel_rfl) (by kernel_rfl) (fun _ _ _ h => h) (Or.inl ⟨by rfl, ?_⟩) (by assumption) ?_
    case refine_2 => (intro w hSw; (try dsimp only at hSw); go_simp; first | done | (with_reducible rfl))
    show wpAnyH _ _ _ _ _ _ _ (Act.put _ (some 21) _) _
    simp only [Act.put, List.setIfInBounds_toArray, List.set_cons_zero, List.set_cons_succ]
    refine wpAnyH_take (i := 9) (v := ?_) rfl (by kernel_rfl) (by kernel_rfl) (by kernel_rfl) (fun _ _ _ h => h) (Or.inl ⟨by rfl, ?_⟩) (by assumption) ?_
    case refine_2 => (intro w hSw; (try dsimp only at hSw); go_simp; first | done | (with_reducible rfl))
    show wpAnyH _ _ _ _ _ _ _ (Act.put _ (some 22) _) _
    simp only [Act.put, List.setIfInBounds_toArray, List.set_cons_zero, List.set_cons_succ]
    refine wpAnyH_take (i := 10) (v := ?_) rfl (by kernel_rfl) (by kernel_rfl) (by kernel_rfl) (fun _ _ _ h => h) (Or.inl ⟨by rfl, ?_⟩) (by assumption) ?_
    case refine_2 => (intro w hSw; (try dsimp only at hSw); go_simp; first | done | (with_reducible rfl))
    show wpAnyH _ _ _ _ _ _ _ (Act.put _ (some 23) _) _
    simp only [Act.put, List.setIfInBounds_toArray, List.set_cons_zero, List.set_cons_succ]
    refine wpAnyH_take (i := 11) (v := ?_) rfl (by kernel_rfl) (by kernel_rfl) (by kernel_rfl) (fun _ _ _ h => h) (Or.inl ⟨by rfl, ?_⟩) (by assumption) ?_
    case refine_2 => (intro w5 hSw; (try dsimp only at hSw); have sp2 := step_cell hSw p2; go_simp; first | done | (with_reducible rfl))
    show wpAnyH _ _ _ _ _ _ _ (Act.put _ (some 24) _) _
    simp only [Act.put, List.setIfInBounds_toArray, List.set_cons_zero, List.set_cons_succ]
    refine wpAnyH_take (i := 12) (v := ?_) rfl (by kernel_rfl) (by kernel_rfl) (by kernel_rfl) (fun _ _ _ h => h) (Or.inl ⟨by rfl, ?_⟩) (by assumption) ?_
    case refine_2 => (intro w hSw; (try dsimp only at hSw); go_simp; first | done | (with_reducible rfl))
    show wpAnyH _ _ _ _ _ _ _ (Act.put _ (some 25) _) _
    simp only [Act.put, List.setIfInBounds_toArray, List.set_cons_zero, List.set_cons_succ]
    refine wpAnyH_take (i := 13) (v := ?_) rfl (by kernel_rfl) (by kernel_rfl) (by kernel_rfl) (fun _ _ _ h => h) (Or.inl ⟨by rfl, ?_⟩) (by assumption) ?_
    case refine_2 => (intro w hSw; (try dsimp only at hSw); go_simp; first | done | (with_reducible rfl))
    show wpAnyH _ _ _ _ _ _ _ (Act.put _ (some 26) _) _
    simp only [Act.put, List.setIfInBounds_toArray, List.set_cons_zero, List.set_cons_succ]
    refine wpAnyH_take (i := 14) (v := ?_) rfl (by kernel_rfl) (by kernel_rfl) (by kernel_rfl) (fun _ _ _ h => h) (Or.inl ⟨by rfl, ?_⟩) (by assumption) ?_
    case refine_2 => (intro w5 hSw; (try dsimp only at hSw); have sr0 := step_cell hSw r0; have sr1 := step_cell hSw r1; have sr2 := step_cell hSw r2; have sr3 := step_cell hSw r3; have sr4 := step_cell hSw r4; have sr5 := step_cell hSw r5; have sr6 := step_cell hSw r6; have sr7 := step_cell hSw r7; go_simp; first | done | (with_reducible rfl))
    show wpAnyH _ _ _ _ _ _ _ (Act.put _ (some 27) _) _
    simp only [Act.put, List.setIfInBounds_toArray, List.set_cons_zero, List.set_cons_succ]
    refine wpAnyH_ready (rs := [15, 16]) (by kernel_rfl) (by simp) ?_
    refine (AllReadyH.cons rfl (fun K hK => ?_) (AllReadyH.cons rfl (fun K hK => ?_) AllReadyH.nil))
    · skip
      go_simp
      refine hK.out _ _ ?_ (fun hHeld => ?_)
      · (exact o1 _)
      clear hK K
      try simp only [Act.put, List.setIfInBounds_toArray, List.set_cons_zero, List.set_cons_succ]
      refine wpAnyH_ready (rs := [16]) (by kernel_rfl) (by simp) ?_
      refine (AllReadyH.cons rfl (fun K hK => ?_) AllReadyH.nil)
      go_simp
      refine hK.out _ _ ?_ (fun hHeld => ?_)
      · (exact o2 _ _)
      clear hK K
      try simp only [Act.put, List.setIfInBounds_toArray, List.set_cons_zero, List.set_cons_succ]
      refine wpAnyH_ready (rs := [17]) (by kernel_rfl) (by simp) ?_
      refine (AllReadyH.cons rfl (fun K hK => ?_) AllReadyH.nil)
      go_simp
      refine hK.out _ _ ?_ (fun hHeld => ?_)
      · (exact o2 _ _)
      clear hK K
      try simp only [Act.put, List.setIfInBounds_toArray, List.set_cons_zero, List.set_cons_succ]
      refine wpAnyH_ready (rs := [18]) (by kernel_rfl) (by simp) ?_
      refine (AllReadyH.cons rfl (fun K hK => ?_) AllReadyH.nil)
      go_simp
      refine hK.out _ _ ?_ (fun hHeld => ?_)
      · (exact o2 _ _)
      clear hK K
      try simp only [Act.put, List.setIfInBounds_toArray, List.set_cons_zero, List.set_cons_succ]
      refine wpAnyH_done (by kernel_rfl) ?_ _
      clear hHeld
      go_wp2_with fail
      go_meet
      case rel => exact bh12 w i r (.slice aob r.before.length cb) (.slice aoa r.after.length ca)
    · skip
      go_simp
      refine hK.out _ _ ?_ (fun hHeld => ?_)
      · (exact o1 _)
      clear hK K
      try simp only [Act.put, List.setIfInBounds_toArray, List.set_cons_zero, List.set_cons_succ]
      refine wpAnyH_ready (rs := [15]) (by kernel_rfl) (by simp) ?_
      refine (AllReadyH.cons rfl (fun K hK => ?_) AllReadyH.nil)
      go_simp
      refine hK.out _ _ ?_ (fun hHeld => ?_)
      · (exact o2 _ _)
      clear hK K
      try simp only [Act.put, List.setIfInBounds_toArray, List.set_cons_zero, List.set_cons_succ]
      refine wpAnyH_ready (rs := [17]) (by kernel_rfl) (by simp) ?_
      refine (AllReadyH.cons rfl (fun K hK => ?_) AllReadyH.nil)
      go_simp
      refine hK.out _ _ ?_ (fun hHeld => ?_)
      · (exact o2 _ _)
      clear hK K
      try simp only [Act.put, List.setIfInBounds_toArray, List.set_cons_zero, List.set_cons_succ]
      refine wpAnyH_ready (rs := [18]) (by kernel_rfl) (by simp) ?_
      refine (AllReadyH.cons rfl (fun K hK => ?_) AllReadyH.nil)
      go_simp
      refine hK.out _ _ ?_ (fun hHeld => ?_)
      · (exact o2 _ _)
      clear hK K
      try simp only [Act.put, List.setIfInBounds_toArray, List.set_cons_zero, List.set_cons_succ]
      refine wpAnyH_done (by kernel_rfl) ?_ _
      clear hHeld
      go_wp2_with fail
      go_meet
      case rel => exact bh21 w i r (.slice aob r.before.length cb) (.slice aoa r.after.length ca)
  case rest =>
    obtain ⟨bi, br, hs7, hs8, hbh⟩ := hcut
    subst hs7
    subst hs8
    obtain ⟨wd, hwd⟩ : ∃ wd, wd = wc := ⟨_, rfl⟩
    rw [← hwd] at hbh ⊢
    clear hwd i0 i1 i2 i3 i4 i5 r0 r1 r2 r3 r4 r5 r6 r7 p1 p2 o1 o2
    have HBH : Hid (BhS w i r (.slice aob r.before.length cb) (.slice aoa r.after.length ca) bi br wd) := hbh
    have hle := HW.out.le
    have hsz := hbh.bel.size
    have hbi := cell_lt hbh.i0
    have hbr := cell_lt hbh.r0
    have c := cloneF q mp mt A T m wd (HF.out.below hbh.bel)
    clear hbh
    go_upto_region 3 with (go_at_call 43; refine c.mono ?_; rintro e w1 ⟨q1, mp1, mt1, rfl, hq1, hp1, ht1, hf1, hb1⟩; have HF1 : Hid (FMAt w1 q1 mp1 mt1 A T m) := hf1; have HB1 : Hid (Below wd.heap.size wd w1) := hb1; clear hf1 hb1)
    clear c
    have HBH1 : Hid (BhS w i r (.slice aob r.before.length cb) (.slice aoa r.after.length ca) bi br w1) := HBH.out.below HB1.out
    have hr6 := HBH1.out.r6
    have hm0 := row_moves HRB.out
    have c := moveAllW HD.out q1 mp1 mt1 T (by omega) (by omega) r.before hm0.1.1 hm0.1.2 (.slice aob r.before.length cb) w1 (HW.out.below HBH1.out.bel) m HF1.out HOK.out (HMB.out.later HBH1.out.bel) (moves_ne HMB.out (by omega))
    clear hm0
    go_upto_region 4 with (go_at_call 44; refine c.mono ?_; rintro e w2 ⟨rfl, m2, hf2, hk2, hi2, hb2⟩; have HF2 : Hid (FMAt w2 q1 mp1 mt1 A T m2) := hf2; have HK2 : Hid (FmOk B s slots N m2) := hk2; have HI2 : Hid (∀ f, Kof N m2 f ↔ movesK (FactOk B s slots (NumP C)) r.before (Kof N m) f) := hi2; have HB2 : Hid (But mp1 mp1 w1 w2) := hb2; clear hf2 hk2 hi2 hb2)
    clear c hr6
    have HBH2 : Hid (BhS w i r (.slice aob r.before.length cb) (.slice aoa r.after.length ca) bi br w2) := HBH1.out.but HB2.out (Or.inr ⟨by omega, by omega, by omega⟩) (Or.inr ⟨by omega, by omega, by omega⟩)
    have h0 := HBH2.out.i0
    have c := has i.op w2
    rw [(isT_many (ins_known HIB.out)).1, (isT_many (ins_known HIB.out)).2] at c
    obtain ⟨gv, hgv⟩ : ∃ gv, gv = isT (kd i.op 0) := ⟨_, rfl⟩
    obtain ⟨aB, haB⟩ : ∃ aB, aB = decide (0 < manyI i.op) := ⟨_, rfl⟩
    obtain ⟨bB, hbB⟩ : ∃ bB, bB = decide (1 < manyI i.op) := ⟨_, rfl⟩
    rw [← hgv, ← haB, ← hbB] at c
    have HAB : Hid (aB = decide (0 < manyI i.op)) := haB
    have HBB : Hid (bB = decide (1 < manyI i.op)) := hbB
    clear hgv haB hbB
    go_upto_region 5 with (go_at_call 45; refine c.mono ?_; rintro e w3 ⟨rfl, hb3⟩; have HB3 : Hid (Below w2.heap.size w2 w3) := hb3; clear hb3)
    clear c h0
    have HBH3 : Hid (BhS w i r (.slice aob r.before.length cb) (.slice aoa r.after.length ca) bi br w3) := HBH2.out.below HB3.out
    have HF3 : Hid (FMAt w3 q1 mp1 mt1 A T m2) := HF2.out.below HB3.out
    have hio := HIO.out
    rw [← HI.out] at hio
    have ha0 := hio.a0
    have ha1 := hio.a1
    have hb0 := hio.b0
    have hb1 := hio.b1
    obtain ⟨ka, hka⟩ : ∃ ka : Nat, i.a = ka := ⟨i.a.toNat, by omega⟩
    obtain ⟨kb, hkb⟩ : ∃ kb : Nat, i.b = kb := ⟨i.b.toNat, by omega⟩
    have ha64 : ka < 64 := by omega
    have hb64 : kb < 64 := by omega
    have h2 := HBH3.out.i2
    have h3 := HBH3.out.i3
    rw [hka] at h2
    rw [hkb] at h3
    have k2 := HBH3.out.r2
    have k3 := HBH3.out.r3
    have k4 := HBH3.out.r4
    have k5 := HBH3.out.r5
    have c0 := HF3.out.c0
    have hwa : PlWf r.a := row_wfA (B := B) HD.out (row_fields HRB.out).2.1
    have hwb : PlWf r.b := row_wfA (B := B) HD.out (row_fields HRB.out).2.2
    obtain ⟨xa, hxa⟩ : ∃ x, x = m2.has r.a := ⟨_, rfl⟩
    obtain ⟨ya, hya⟩ : ∃ x, x = m2.is r.a := ⟨_, rfl⟩
    obtain ⟨xb, hxb⟩ : ∃ x, x = m2.has r.b := ⟨_, rfl⟩
    obtain ⟨yb, hyb⟩ : ∃ x, x = m2.is r.b := ⟨_, rfl⟩
    have hla : ∀ k, (Instr.lookup 109 (.map (some mp1)) (.agg #[.int .i64 r.a.kind, .int .i64 r.a.n]) false).run Tryz.prog (w3.drewN k) = .ok (.agg #[.int .u64 (bn xa), .int .u64 (bn ya)]) (w3.drewN k) := fun k => by
      have h := PMap.look (w := w3.drewN k) (HF3.out.pm.of_block rfl) hwa
      rw [← hxa, ← hya] at h
      exact h
    have hlb : ∀ k, (Instr.lookup 109 (.map (some mp1)) (.agg #[.int .i64 r.b.kind, .int .i64 r.b.n]) false).run Tryz.prog (w3.drewN k) = .ok (.agg #[.int .u64 (bn xb), .int .u64 (bn yb)]) (w3.drewN k) := fun k => by
      have h := PMap.look (w := w3.drewN k) (HF3.out.pm.of_block rfl) hwb
      rw [← hxb, ← hyb] at h
      exact h
    obtain ⟨fa, hfa⟩ : ∃ f, f = xa.getLsbD ka := ⟨_, rfl⟩
    obtain ⟨fb, hfb⟩ : ∃ f, f = xb.getLsbD kb := ⟨_, rfl⟩
    have cA := fun w => containsO xa ka ha64 w
    have cB := fun w => containsO xb kb hb64 w
    rw [← hfa] at cA
    rw [← hfb] at cB
    have HU : Hid (FindS aB fa bB fb = true ↔ usesK (FactOk B s slots (NumP C)) i r (Kof N m)) := by
      have h := uses_has (B := B) (s := s) HI2.out ha0 hb0 (row_fields HRB.out).2.1 (row_fields HRB.out).2.2
      rw [← HAB.out, ← HBB.out, ← hxa, ← hxb, show i.a.toNat = ka by rw [hka]; rfl, show i.b.toNat = kb by rw [hkb]; rfl, ← hfa, ← hfb] at h
      exact h
    clear hxa hya hxb hyb hfa hfb hwa hwb ha0 ha1 hb0 hb1 hka hkb hio HAB HBB
    have HBEL : Hid (∀ k, Below w.heap.size w (w3.drewN k)) := fun k => below_drewN HBH3.out.bel k
    rcases Bool.eq_false_or_eq_true aB with q1 | q1 <;> rcases Bool.eq_false_or_eq_true bB with q2 | q2 <;> rcases Bool.eq_false_or_eq_true fa with q3 | q3 <;> rcases Bool.eq_false_or_eq_true fb with q4 | q4 <;> subst q1 <;> subst q2 <;> subst q3 <;> subst q4
    all_goals
      go_big_quiet (first | (go_at_call_of 46 (Value.int .i64 (ka : Int)); exact Calls.quiet_of_same (cA _)) | (go_at_call_of 46 (Value.int .i64 (kb : Int)); exact Calls.quiet_of_same (cB _)))
      go_wp2_with fail
      go_ret
      refine ⟨⟨_, rfl, ?_⟩, HBEL.out _⟩
      rw [← HI.out, ← HR.out]
      exact HU.out
end Go.Proofs.YtcmnmogmdhofcabGreat.form
