/- What the document's small functions on programs answer: known, Gives, Many. -/
import Derived.Test.YtcmnmogmdhofcaaGreatProg
import Derived.WalkKit
import Derived.Below
import Derived.OwnWalk
import Derived.Deep.RegionHeld3
import Derived.Deep.DrawnRows
import Derived.Deep.AppendLies
import Derived.BigQuiet
import Derived.WalkSmall
import Derived.Deep.QuietTactic
import Derived.Deep.DeepCutAuto

namespace Go.Proofs.YtcmnmogmdhofcaaGreat.form
open Go.RowKit
set_option linter.unusedVariables false

def knownB (op : Int) : Bool := (decide (1 ≤ op) && decide (op ≤ 10)) || (decide (21 ≤ op) && decide (op ≤ 26)) || (decide (41 ≤ op) && decide (op ≤ 45))
def givesB (op : Int) : Bool := !(op == 4) && !(op == 8) && !(op == 9) && !(op == 10)
def manyI (op : Int) : Int := if op = 1 ∨ op = 3 ∨ op = 8 ∨ op = 10 then 0 else if op = 2 ∨ op = 4 ∨ op = 6 ∨ op = 7 ∨ op = 9 then 1 else 2

theorem ret_bool {a b : Bool} (h : a = b) : Ending.returned (.bool a) = .returned (.bool b) := by rw [h]
theorem ret_int {k : IntKind} {a b : Int} (h : a = b) : Ending.returned (.int k a) = .returned (.int k b) := by rw [h]

theorem known (op : Int) (w : World) :
    Calls Tryz.prog 52 #[.int .i64 op] w fun e w' => e = .returned (.bool (knownB op)) ∧ w' = w := by
  go_enter Tryz.func52, Tryz.ntmps52
  go_wp2
  all_goals
    go_ret
    exact ⟨ret_bool (by rw [Bool.eq_iff_iff]; simp [knownB]; try omega), rfl⟩

theorem gives (op : Int) (w : World) :
    Calls Tryz.prog 14 #[.int .i64 op] w fun e w' => e = .returned (.bool (givesB op)) ∧ w' = w := by
  go_enter Tryz.func14, Tryz.ntmps14
  go_wp2
  all_goals
    go_ret
    exact ⟨ret_bool (by simp_all [givesB]), rfl⟩

theorem many (op : Int) (w : World) :
    Calls Tryz.prog 15 #[.int .i64 op] w fun e w' => e = .returned (.int .i64 (manyI op)) ∧ w' = w := by
  go_enter Tryz.func15, Tryz.ntmps15
  go_wp2
  all_goals
    go_ret
    exact ⟨ret_int (by simp_all [manyI]), rfl⟩

end Go.Proofs.YtcmnmogmdhofcaaGreat.form

/- A program (api.Prog) as it lies in memory: the wide marks, the instructions, cell by cell; it stays where the world only grows. -/
namespace Go.Proofs.YtcmnmogmdhofcaaGreat.form
open Go.RowKit

theorem step_below {w a b : World} (hb : Below a.heap.size a b) (h : Below w.heap.size w a) : Below w.heap.size w b := h.trans (hb.mono h.size)
theorem step_cell {a b : World} (hb : Below a.heap.size a b) {p : Addr} {v : Value} (h : a.cell? p = some v) : b.cell? p = some v := by
  have hp : p.block < a.heap.size := by
    unfold World.cell? at h
    by_cases hlt : p.block < a.heap.size
    · exact hlt
    · rw [Array.getElem?_eq_none (by omega)] at h; simp at h
  rw [hb.cell hp]; exact h

theorem over_alloc {w w1 : World} {o : Obj} (hb : Below (w.alloc o).heap.size (w.alloc o) w1) : Below w.heap.size w w1 :=
  ((Below.refl _ _).alloc (Nat.le_refl _) _).trans (hb.mono (by simp))

structure LIns where
  op : Int
  dest : Int
  a : Int
  b : Int
  c : Int
  n : Int

def LIns.zero : LIns := ⟨0, 0, 0, 0, 0, 0⟩
def LIns.val (i : LIns) : Value := .agg #[.int .i64 i.op, .int .i64 i.dest, .int .i64 i.a, .int .i64 i.b, .int .i64 i.c, .int .u32 i.n]

def progV (b0 o0 n0 c0 b1 o1 n1 c1 : Nat) : Value := .agg #[.slice (some ⟨b0, o0, none⟩) n0 c0, .slice (some ⟨b1, o1, none⟩) n1 c1]

structure Held (w : World) (b0 o0 b1 o1 : Nat) (B : List Bool) (C : List LIns) : Prop where
  lt0 : b0 < w.heap.size
  lt1 : b1 < w.heap.size
  wide : ∀ i, i < B.length → w.cell? ⟨b0, o0 + i, none⟩ = some (.bool (B.getD i false))
  code : ∀ i, i < C.length → w.cell? ⟨b1, o1 + i * 6, none⟩ = some (.int .i64 (C.getD i .zero).op) ∧ w.cell? ⟨b1, o1 + i * 6 + 1, none⟩ = some (.int .i64 (C.getD i .zero).dest) ∧
    w.cell? ⟨b1, o1 + i * 6 + 2, none⟩ = some (.int .i64 (C.getD i .zero).a) ∧ w.cell? ⟨b1, o1 + i * 6 + 3, none⟩ = some (.int .i64 (C.getD i .zero).b) ∧
    w.cell? ⟨b1, o1 + i * 6 + 4, none⟩ = some (.int .i64 (C.getD i .zero).c) ∧ w.cell? ⟨b1, o1 + i * 6 + 5, none⟩ = some (.int .u32 (C.getD i .zero).n)

theorem Held.later {w w' : World} {b0 o0 b1 o1 : Nat} {B : List Bool} {C : List LIns} (h : Held w b0 o0 b1 o1 B C) (hb : Below w.heap.size w w') : Held w' b0 o0 b1 o1 B C := by
  refine ⟨Nat.lt_of_lt_of_le h.lt0 hb.size, Nat.lt_of_lt_of_le h.lt1 hb.size, fun i hi => ?_, fun i hi => ?_⟩
  · rw [hb.cell (p := ⟨b0, o0 + i, none⟩) h.lt0]; exact h.wide i hi
  · obtain ⟨c0, c1, c2, c3, c4, c5⟩ := h.code i hi
    refine ⟨?_, ?_, ?_, ?_, ?_, ?_⟩
    · rw [hb.cell (p := ⟨b1, _, none⟩) h.lt1]; exact c0
    · rw [hb.cell (p := ⟨b1, _, none⟩) h.lt1]; exact c1
    · rw [hb.cell (p := ⟨b1, _, none⟩) h.lt1]; exact c2
    · rw [hb.cell (p := ⟨b1, _, none⟩) h.lt1]; exact c3
    · rw [hb.cell (p := ⟨b1, _, none⟩) h.lt1]; exact c4
    · rw [hb.cell (p := ⟨b1, _, none⟩) h.lt1]; exact c5

theorem Held.alloc {w : World} {b0 o0 b1 o1 : Nat} {B : List Bool} {C : List LIns} (h : Held w b0 o0 b1 o1 B C) (o : Obj) : Held (w.alloc o) b0 o0 b1 o1 B C :=
  h.later ((Below.refl _ _).alloc (Nat.le_refl _) _)

theorem Held.drew {w : World} {b0 o0 b1 o1 : Nat} {B : List Bool} {C : List LIns} (h : Held w b0 o0 b1 o1 B C) : Held w.drew b0 o0 b1 o1 B C :=
  h.later ((Below.refl _ _).drew)

structure ProgIs (w : World) (v : Value) (B : List Bool) (C : List LIns) : Prop where
  val : ∃ a0 c0 a1 c1, v = .agg #[.slice a0 B.length c0, .slice a1 C.length c1] ∧ (1 ≤ B.length → 1 ≤ C.length → ∃ b0 o0 b1 o1, a0 = some ⟨b0, o0, none⟩ ∧ a1 = some ⟨b1, o1, none⟩ ∧ Held w b0 o0 b1 o1 B C)
  lenB : B.length ≤ 9223372036854775807
  lenC : C.length ≤ 9223372036854775807
  num : ∀ i, i < C.length → 0 ≤ (C.getD i .zero).n ∧ (C.getD i .zero).n < 4294967296

theorem ProgIs.later {w w' : World} {v : Value} {B : List Bool} {C : List LIns} (h : ProgIs w v B C) (hb : Below w.heap.size w w') : ProgIs w' v B C := by
  obtain ⟨⟨a0, c0, a1, c1, hv, hh⟩, h1, h2, h3⟩ := h
  refine ⟨⟨a0, c0, a1, c1, hv, fun k0 k1 => ?_⟩, h1, h2, h3⟩
  obtain ⟨b0, o0, b1, o1, e0, e1, hH⟩ := hh k0 k1
  exact ⟨b0, o0, b1, o1, e0, e1, hH.later hb⟩

def sizesB (B : List Bool) (C : List LIns) : Bool := decide (1 ≤ B.length) && decide (B.length ≤ 12) && decide (1 ≤ C.length) && decide (C.length ≤ 40)

theorem sizes_of {B : List Bool} {C : List LIns} (h : sizesB B C = true) : 1 ≤ B.length ∧ B.length ≤ 12 ∧ 1 ≤ C.length ∧ C.length ≤ 40 := by
  unfold sizesB at h; simp at h; omega

end Go.Proofs.YtcmnmogmdhofcaaGreat.form

/- What loanbookref2.Uses and widths answer. -/
namespace Go.Proofs.YtcmnmogmdhofcaaGreat.form
open Go.RowKit
set_option linter.unusedVariables false
attribute [local go_sem ↓] Go.wp_at_zero Go.wp_at_succ

theorem many_of (op : Int) : manyI op = 0 ∨ manyI op = 1 ∨ manyI op = 2 := by
  unfold manyI; split; exact Or.inl rfl; split; exact Or.inr (Or.inl rfl); exact Or.inr (Or.inr rfl)

theorem uses (i : LIns) (m : Nat) (hm : manyI i.op = m) (w : World) :
    Calls Tryz.prog 55 #[i.val] w fun e w' => ∃ g, e = .returned (.slice (some ⟨g, 0, none⟩) m 2) ∧ Below w.heap.size w w' ∧ w.heap.size ≤ g ∧ g < w'.heap.size ∧ w'.cell? ⟨g, 0, none⟩ = some (.int .i64 i.a) ∧ w'.cell? ⟨g, 1, none⟩ = some (.int .i64 i.b) := by
  unfold LIns.val
  rcases (show m = 0 ∨ m = 1 ∨ m = 2 by have := many_of i.op; omega) with rfl | rfl | rfl
  all_goals
    go_enter Tryz.func55, Tryz.ntmps55
    go_wp2_with (go_at_call 15; refine (many _ _).mono ?_; rintro e w' ⟨rfl, rfl⟩; rw [hm])
    go_ret
    exact ⟨w.heap.size + 1, by simp, ((Below.refl _ _).alloc (Nat.le_refl _) _).alloc (by simp) _, by omega, by simp, by simp [go_sem], by simp [go_sem]⟩

def bw (B : List Bool) (x : Int) : Bool := B.getD x.toNat false
def wl0 (B : List Bool) (i : LIns) : List Bool := if givesB i.op then [bw B i.dest] else []
def wl1 (B : List Bool) (i : LIns) (k : Nat) : List Bool := ([bw B i.a, bw B i.b] : List Bool).take k
def wl (B : List Bool) (i : LIns) : List Bool := wl0 B i ++ wl1 B i (manyI i.op).toNat
def widthsB (B : List Bool) (i : LIns) : Bool :=
  if i.op = 2 then (wl B i).getD 0 false == (wl B i).getD 1 false
  else if i.op = 5 then (wl B i).getD 0 false && !(wl B i).getD 1 false && !(wl B i).getD 2 false
  else if i.op = 6 ∨ i.op = 7 then !(wl B i).getD 0 false && (wl B i).getD 1 false
  else (wl B i).all (fun x => x == decide (40 < i.op))

theorem infoBool : (Tryz.prog.info? 4).map (fun i => (i.zero, i.size, i.bytes)) = some (some (.bool false), 1, 1) := by kernel_rfl

theorem grown_none {w w' : World} (h : w.grownBy w' none) : Below w.heap.size w w' := ⟨h.os, h.tape, h.output, h.size, fun k hk => h.block k hk (by simp)⟩

structure WState (w : World) (b0 o0 c0 gu : Nat) (B : List Bool) (i : LIns) (v : Value) (L : List Bool) (wr : World) : Prop where
  bel : Below w.heap.size w wr
  size : w.heap.size + 2 ≤ wr.heap.size
  p0 : wr.cell? ⟨w.heap.size, 0, none⟩ = some (.slice (some ⟨b0, o0, none⟩) B.length c0)
  q0 : wr.cell? ⟨w.heap.size + 1, 0, none⟩ = some (.int .i64 i.op)
  ua : wr.cell? ⟨gu, 0, none⟩ = some (.int .i64 i.a)
  ub : wr.cell? ⟨gu, 1, none⟩ = some (.int .i64 i.b)
  gu2 : w.heap.size + 2 ≤ gu
  ne : v.ownBlock ≠ some gu
  own : wr.ownsRow (w.heap.size + 2) 4 1 v L.length (L.map Value.bool)

theorem block_of_cell {w : World} {p : Addr} {v : Value} (h : w.cell? p = some v) : p.block < w.heap.size := World.block_lt_of_cell? w _ h

theorem WState.push {w : World} {b0 o0 c0 gu : Nat} {B : List Bool} {i : LIns} {v : Value} {L : List Bool} {wr w1 : World} (h : WState w b0 o0 c0 gu B i v L wr) {x : Bool} {o : Obj} {g cap : Nat}
    (hown : w1.ownsRow (w.heap.size + 2) 4 1 (.slice (some ⟨g, 0, none⟩) (L.length + 1) cap) (L.length + 1) (L.map Value.bool ++ [.bool x])) (hgrow : (wr.alloc o).drew.grownBy w1 v.ownBlock) (hat : v.ownBlock = some g ∨ g = wr.heap.size + 1) :
    WState w b0 o0 c0 gu B i (.slice (some ⟨g, 0, none⟩) (L.length + 1) cap) (L ++ [x]) w1 := by
  have hz := h.size
  have hgu := block_of_cell h.ua
  simp only at hgu
  have far : ∀ b, b < wr.heap.size → some b ≠ v.ownBlock → ∀ off v', wr.cell? ⟨b, off, none⟩ = some v' → w1.cell? ⟨b, off, none⟩ = some v' := by
    intro b hb hne off v' hc
    rw [hgrow.cell_far ⟨b, off, none⟩ (by show b < (wr.alloc o).heap.size; simp; omega) hne]
    exact step_cell (((Below.refl _ _).alloc (Nat.le_refl _) o).drew) hc
  have hv : ∀ k, v.ownBlock = some k → w.heap.size + 2 ≤ k := fun k hk => (h.own.lt k hk).1
  refine ⟨?_, ?_, ?_, ?_, ?_, ?_, h.gu2, ?_, ?_⟩
  · exact (((h.bel.alloc (by omega) o).drew)).grown hgrow (by show w.heap.size ≤ (wr.alloc o).heap.size; simp; omega) (fun k hk => by have := hv k hk; omega)
  · have h2 : (wr.alloc o).heap.size ≤ w1.heap.size := hgrow.size
    have h3 : (wr.alloc o).heap.size = wr.heap.size + 1 := by simp
    omega
  · exact far _ (by omega) (fun e => by have := hv _ e.symm; omega) _ _ h.p0
  · exact far _ (by omega) (fun e => by have := hv _ e.symm; omega) _ _ h.q0
  · exact far _ hgu (Ne.symm h.ne) _ _ h.ua
  · exact far _ hgu (Ne.symm h.ne) _ _ h.ub
  · rcases hat with e | e
    · intro e'; refine h.ne ?_; rw [e]; exact e'
    · simp only [Value.ownBlock]; intro e'; simp at e'; omega
  · simpa using hown

theorem own_form {w : World} {base : Nat} {e : TypeId} {v : Value} {xs : List Bool} (h : w.ownsRow base e 1 v xs.length (xs.map Value.bool)) :
    ∃ ao cap, v = .slice ao xs.length cap ∧ (0 < xs.length → ∃ g, ao = some ⟨g, 0, none⟩ ∧ ∀ j, j < xs.length → w.cell? ⟨g, j, none⟩ = some (.bool (xs.getD j false))) := by
  by_cases hn : 0 < xs.length
  · obtain ⟨g, cap, rfl, _, _⟩ := h.form hn
    refine ⟨_, cap, rfl, fun _ => ⟨g, rfl, fun j hj => ?_⟩⟩
    rw [World.ownsRow.cellAt h j (by omega)]
    simp [List.getD, hj]
  · rcases h.2 with ⟨rfl, h0⟩ | ⟨g, cap, cur, rfl, _⟩
    · exact ⟨none, 0, by rw [h0], fun hh => absurd hh hn⟩
    · exact ⟨_, cap, rfl, fun hh => absurd hh hn⟩

theorem wl_move (B : List Bool) (i : LIns) (h : i.op = 2) : wl B i = [bw B i.dest, bw B i.a] := by simp [wl, wl0, wl1, h, givesB, manyI]
theorem wl_pair (B : List Bool) (i : LIns) (h : i.op = 5) : wl B i = [bw B i.dest, bw B i.a, bw B i.b] := by simp [wl, wl0, wl1, h, givesB, manyI]
theorem wl_half (B : List Bool) (i : LIns) (h : i.op = 6 ∨ i.op = 7) : wl B i = [bw B i.dest, bw B i.a] := by rcases h with h | h <;> simp [wl, wl0, wl1, h, givesB, manyI]

set_option maxRecDepth 100000 in
set_option maxHeartbeats 1000000 in
theorem widths (b0 o0 c0 b1 o1 c1 : Nat) (B : List Bool) (C : List LIns) (i : LIns) (w : World) (hB : B.length ≤ 12) (hC : C.length ≤ 40) (h : Held w b0 o0 b1 o1 B C)
    (hd : givesB i.op = true → 0 ≤ i.dest ∧ i.dest < B.length) (ha : 0 < manyI i.op → 0 ≤ i.a ∧ i.a < B.length) (hb : 1 < manyI i.op → 0 ≤ i.b ∧ i.b < B.length) :
    Calls Tryz.prog 53 #[progV b0 o0 B.length c0 b1 o1 C.length c1, i.val] w fun e w' => e = .returned (.bool (widthsB B i)) ∧ Below w.heap.size w w' := by
  obtain ⟨t0, hi, hz0, hz1, hz2⟩ := info_parts infoBool
  obtain ⟨m, hm⟩ : ∃ m : Nat, manyI i.op = m := by rcases many_of i.op with e | e | e; exact ⟨0, e⟩; exact ⟨1, e⟩; exact ⟨2, e⟩
  have HM : Hid _ := hm
  have hm2 : m ≤ 2 := by have := many_of i.op; omega
  have ha' : 0 < m → 0 ≤ i.a ∧ i.a < B.length := fun hh => ha (by omega)
  have hb' : 1 < m → 0 ≤ i.b ∧ i.b < B.length := fun hh => hb (by omega)
  have HA : Hid _ := ha'
  have HBb : Hid _ := hb'
  clear ha hb ha' hb' hm
  have hlt0 := h.lt0
  unfold progV LIns.val
  cases hg : givesB i.op
  case true =>
    obtain ⟨hd1, hd2⟩ := hd hg
    have hcell : w.cell? ⟨b0, o0 + i.dest.toNat, none⟩ = some (.bool (bw B i.dest)) := h.wide _ (by omega)
    clear hd
    go_enter Tryz.func53, Tryz.ntmps53
    go_wp2_with (first
      | (go_at_call 14; refine (gives _ _).mono ?_; rintro e w' ⟨rfl, rfl⟩; rw [hg])
      | (at_builtin; refine wpList_append_lies _ rfl _ _ 22 rfl (w.heap.size + 2) 4 t0 (.bool false) 1 1 Tryz.underlying22 hi hz0 hz1 hz2 rfl (by decide) (.slice none 0 0) 0 [] rfl (World.ownsRow_nil _ _ _ _) ⟨w.heap.size + 2, 0, none⟩ 1 1 [.bool (bw B i.dest)] rfl rfl ?c1 ?c2 (by decide) ?c3 ?c4 ?c5 _ rfl ?_)
      | (go_at_call 55; refine (uses i m HM.out _).mono ?_; rintro e w' ⟨g, rfl, hbu, hg1, hg2, hua, hub⟩))
    case c1 => exact World.news_of_block (cs := #[.bool (bw B i.dest)]) (t := 4) (fr := (0, 0)) (by have := heap_alloc_new ((w.alloc (Obj.cells #[.slice (some ⟨b0, o0, none⟩) B.length c0, .slice (some ⟨b1, o1, none⟩) C.length c1] 25)).alloc (Obj.cells #[.int .i64 i.op, .int .i64 i.dest, .int .i64 i.a, .int .i64 i.b, .int .i64 i.c, .int .u32 i.n] 49)) (Obj.cells #[.bool (bw B i.dest)] 4); simpa using this)
    case c2 => simp [Value.oneCell']
    case c3 => unfold maxLen; omega
    case c4 => omega
    case c5 => simp
    intro g1 cap w1 hown hgrow hat hlt1
    have hb1 := grown_none hgrow
    have p0 : w1.cell? ⟨w.heap.size, 0, none⟩ = some (.slice (some ⟨b0, o0, none⟩) B.length c0) := step_cell hb1 (by simp [go_sem])
    have q0 : w1.cell? ⟨w.heap.size + 1, 0, none⟩ = some (.int .i64 i.op) := step_cell hb1 (by simp [go_sem])
    have q1 : w1.cell? ⟨w.heap.size + 1, 1, none⟩ = some (.int .i64 i.dest) := step_cell hb1 (by simp [go_sem])
    have q2 : w1.cell? ⟨w.heap.size + 1, 2, none⟩ = some (.int .i64 i.a) := step_cell hb1 (by simp [go_sem])
    have q3 : w1.cell? ⟨w.heap.size + 1, 3, none⟩ = some (.int .i64 i.b) := step_cell hb1 (by simp [go_sem])
    have q4 : w1.cell? ⟨w.heap.size + 1, 4, none⟩ = some (.int .i64 i.c) := step_cell hb1 (by simp [go_sem])
    have q5 : w1.cell? ⟨w.heap.size + 1, 5, none⟩ = some (.int .u32 i.n) := step_cell hb1 (by simp [go_sem])
    have hzs : w.heap.size + 3 ≤ w1.heap.size := by have := hb1.size; simp at this; omega
    have HB : Hid (Below w.heap.size w w1) := over_alloc (over_alloc (over_alloc hb1))
    have HO : Hid (w1.ownsRow (w.heap.size + 2) 4 1 (.slice (some ⟨g1, 0, none⟩) 1 cap) 1 [.bool (bw B i.dest)]) := (by simpa using hown : w1.ownsRow (w.heap.size + 2) 4 1 (.slice (some ⟨g1, 0, none⟩) 1 cap) 1 [.bool (bw B i.dest)])
    clear hgrow hat hb1 hown
    go_wp2_with (go_at_call 55; refine (uses i m HM.out _).mono ?_; rintro e w2 ⟨gu, rfl, hbu, hg1, hg2, hua, hub⟩)
    have hWS : WState w b0 o0 c0 gu B i (.slice (some ⟨g1, 0, none⟩) 1 cap) (wl0 B i ++ wl1 B i 0) w2 := by
      refine ⟨step_below hbu HB.out, Nat.le_trans (by omega) hbu.size, step_cell hbu p0, step_cell hbu q0, hua, hub, by omega, by simp [Value.ownBlock]; omega, ?_⟩
      have : wl0 B i ++ wl1 B i 0 = [bw B i.dest] := by simp [wl0, wl1, hg]
      rw [this]
      exact World.ownsRow.kept HO.out ⟨hbu.os, hbu.tape, hbu.output, hbu.size, fun k hk _ => hbu.block k hk⟩ (row := none) (by simp [Value.ownBlock])
    clear HO HB p0 q0 q1 q2 q3 q4 q5 hua hub hbu
    go_loopw [5, 7] (fun v k wr => ∃ n : Nat, n ≤ m ∧ k = .int .i64 n ∧ WState w b0 o0 c0 gu B i v (wl0 B i ++ wl1 B i n) wr) (fun _ k _ => m - (intOf k).toNat)
    case atStart => exact ⟨0, by omega, rfl, hWS⟩
    clear hWS
    case round =>
      obtain ⟨n, hn, rfl, hst⟩ := hrel
      by_cases hlt : n < m
      case neg =>
        have hL : wl0 B i ++ wl1 B i n = wl B i := by
          have e : (manyI i.op).toNat = n := by rw [HM.out]; omega
          simp [wl, e]
        rw [hL] at hst
        obtain ⟨ao, cap9, hv9, hcells⟩ := own_form hst.own
        subst hv9
        have q0 := hst.q0
        have HC : Hid _ := hcells
        have HBL : Hid _ := hst.bel
        clear hst hcells hL
        rcases (show i.op = 2 ∨ i.op = 5 ∨ (i.op = 6 ∨ i.op = 7) ∨ (¬ i.op = 2 ∧ ¬ i.op = 5 ∧ ¬ (i.op = 6 ∨ i.op = 7)) by omega) with hop | hop | hop | ⟨hop2, hop5, hop6⟩
        · have hW := wl_move B i hop
          have h2 : (wl B i).length = 2 := by rw [hW]; rfl
          obtain ⟨g9, rfl, hc9⟩ := HC.out (by omega)
          rw [h2] at hc9 ⊢
          have e0 : wr.cell? ⟨g9, 0, none⟩ = some (.bool (bw B i.dest)) := by simpa [hW] using hc9 0 (by omega)
          have e1 : wr.cell? ⟨g9, 1, none⟩ = some (.bool (bw B i.a)) := by simpa [hW] using hc9 1 (by omega)
          clear hc9 HC
          go_wp2
          go_quiet (fail)
          go_wp2
          go_ret
          exact ⟨ret_bool (by simp [widthsB, hW, hop]), below_drewN HBL.out _⟩
        · have hW := wl_pair B i hop
          have h2 : (wl B i).length = 3 := by rw [hW]; rfl
          obtain ⟨g9, rfl, hc9⟩ := HC.out (by omega)
          rw [h2] at hc9 ⊢
          have e0 : wr.cell? ⟨g9, 0, none⟩ = some (.bool (bw B i.dest)) := by simpa [hW] using hc9 0 (by omega)
          have e1 : wr.cell? ⟨g9, 1, none⟩ = some (.bool (bw B i.a)) := by simpa [hW] using hc9 1 (by omega)
          have e2 : wr.cell? ⟨g9, 2, none⟩ = some (.bool (bw B i.b)) := by simpa [hW] using hc9 2 (by omega)
          clear hc9 HC
          go_wp2
          all_goals
            go_ret
            exact ⟨ret_bool (by simp [widthsB, *]), HBL.out⟩
        · have hW := wl_half B i hop
          have hwb : widthsB B i = (!bw B i.dest && bw B i.a) := by unfold widthsB; rw [if_neg (by omega), if_neg (by omega), if_pos hop, hW]; rfl
          have h2 : (wl B i).length = 2 := by rw [hW]; rfl
          obtain ⟨g9, rfl, hc9⟩ := HC.out (by omega)
          rw [h2] at hc9 ⊢
          have e0 : wr.cell? ⟨g9, 0, none⟩ = some (.bool (bw B i.dest)) := by simpa [hW] using hc9 0 (by omega)
          have e1 : wr.cell? ⟨g9, 1, none⟩ = some (.bool (bw B i.a)) := by simpa [hW] using hc9 1 (by omega)
          clear hc9 HC
          rcases hop with hop | hop
          all_goals
            go_wp2
            all_goals
              go_ret
              exact ⟨ret_bool (by rw [hwb]; simp [*]), HBL.out⟩
        · have hwb : widthsB B i = (wl B i).all (fun x => x == decide (40 < i.op)) := by unfold widthsB; rw [if_neg hop2, if_neg hop5, if_neg hop6]
          have HWB : Hid _ := hwb
          clear hwb
          have k2 : (i.op == 2) = false := by simpa using hop2
          have k5 : (i.op == 5) = false := by simpa using hop5
          have k6 : (i.op == 6) = false := by simp; omega
          have k7 : (i.op == 7) = false := by simp; omega
          have hl3 : (wl B i).length ≤ 3 := by simp [wl, wl0, wl1]; split <;> simp <;> omega
          clear hop2 hop5 hop6
          go_wp2
          go_loop [9] (fun t => ∃ k : Nat, k ≤ (wl B i).length ∧ t = .int .i64 k ∧ ∀ j, j < k → (wl B i).getD j false = decide (40 < i.op)) (fun t => (wl B i).length - (intOf t).toNat)
          case atStart => exact ⟨0, by omega, rfl, fun j hj => absurd hj (by omega)⟩
          case round =>
            obtain ⟨k, hk, rfl, hall⟩ := hrel
            have HF : Hid _ := hall
            clear hall
            by_cases hkl : k < (wl B i).length
            · obtain ⟨g9, rfl, hc9⟩ := HC.out (by omega)
              obtain ⟨x, hx⟩ : ∃ x, x = (wl B i).getD k false := ⟨_, rfl⟩
              have e0 := hc9 k hkl
              rw [← hx] at e0
              have HX : Hid _ := hx
              clear hx hc9
              go_wp2
              · go_ret
                refine ⟨ret_bool ?_, HBL.out⟩
                rw [HWB.out, eq_comm, List.all_eq_false]
                refine ⟨x, ?_, by simp_all⟩
                rw [HX.out]
                simp [List.getD, hkl]
              · refine ⟨⟨k + 1, by omega, by go_num, ?_⟩, by simp [intOf]; omega⟩
                intro j hj
                by_cases hjk : j < k
                · exact HF.out j hjk
                · obtain rfl : j = k := by omega
                  rw [← HX.out]
                  simp_all
            · go_wp2
              go_ret
              refine ⟨ret_bool ?_, HBL.out⟩
              rw [HWB.out, eq_comm, List.all_eq_true]
              intro x hx
              obtain ⟨j, hj, rfl⟩ := List.getElem_of_mem hx
              have := HF.out j (by omega)
              simpa [List.getD, hj] using this
      rcases (show n = 0 ∨ n = 1 by omega) with rfl | rfl
      · obtain ⟨x1, x2⟩ := HA.out (by omega)
        have hx : wr.cell? ⟨b0, o0 + i.a.toNat, none⟩ = some (.bool (bw B i.a)) := (h.later hst.bel).wide _ (by omega)
        have p0 := hst.p0
        have ux := hst.ua
        have HO : Hid (wr.ownsRow (w.heap.size + 2) 4 1 u5 (wl0 B i ++ wl1 B i 0).length ((wl0 B i ++ wl1 B i 0).map Value.bool)) := hst.own
        have hsz := hst.size
        have lu := block_of_cell ux
        have lb := block_of_cell hx
        simp only at lu lb
        have ap : u5.ownBlock ≠ some w.heap.size := fun e => by have := (World.ownsRow.lt HO.out _ e).1; omega
        have ab : u5.ownBlock ≠ some b0 := fun e => by have := (World.ownsRow.lt HO.out _ e).1; omega
        have ag := hst.ne
        have hl : (wl0 B i ++ wl1 B i 0).length ≤ 3 := by simp [wl0, wl1]; split <;> simp <;> omega
        go_wp2
        go_region_held3 (fun w' => w'.cell? ⟨w.heap.size, 0, none⟩ = some (.slice (some ⟨b0, o0, none⟩) B.length c0) ∧ w'.cell? ⟨gu, 0, none⟩ = some (.int .i64 i.a) ∧ w'.cell? ⟨b0, o0 + i.a.toNat, none⟩ = some (.bool (bw B i.a)))
          (first
            | go_keep
            | (go_split_ands
               refine ⟨?_, ?_, ?_⟩
               · (rw [hgrow.cell_far _ (by simp; omega) (Ne.symm ap)]; assumption)
               · (rw [hgrow.cell_far _ (by simp; omega) (Ne.symm ag)]; assumption)
               · (rw [hgrow.cell_far _ (by simp; omega) (Ne.symm ab)]; assumption)))
          ((refine step_append_lies _ (by rfl) _ _ _ (by rfl) (w.heap.size + 2) 4 t0 _ 1 1 Tryz.underlying22 hi hz0 hz1 hz2 rfl (by omega) u5 (wl0 B i ++ wl1 B i 0).length ((wl0 B i ++ wl1 B i 0).map Value.bool) (by rfl) ((World.ownsRow.alloc HO.out _).drew)
              ⟨wr.heap.size, 0, none⟩ 1 1 [.bool (bw B i.a)] (by rfl) (by rfl) (World.news_of_block (cs := #[.bool (bw B i.a)]) (t := 4) (fr := (0, 0)) (heap_alloc_new wr _)) (by simp [Value.oneCell'])
              (by omega) (by unfold maxLen; omega) (by omega) (by simp; omega) (wr.heap.size + 1) (by simp) ?_; intro g2 cap2 w3 hown1 hgrow hat hlt3))
        have hst' := hst.push hown1 hgrow hat
        rename_i hHeldx
        clear hHeldx hown1 hgrow hat p0 ux hx
        go_wp2
        refine ⟨⟨1, by omega, rfl, ?_⟩, by simp [intOf]; omega⟩
        have e : wl0 B i ++ wl1 B i 0 ++ [bw B i.a] = wl0 B i ++ wl1 B i 1 := by simp [wl1]
        rw [e, List.length_append] at hst'
        exact hst'
      · obtain ⟨x1, x2⟩ := HBb.out (by omega)
        have hx : wr.cell? ⟨b0, o0 + i.b.toNat, none⟩ = some (.bool (bw B i.b)) := (h.later hst.bel).wide _ (by omega)
        have p0 := hst.p0
        have ux := hst.ub
        have HO : Hid (wr.ownsRow (w.heap.size + 2) 4 1 u5 (wl0 B i ++ wl1 B i 1).length ((wl0 B i ++ wl1 B i 1).map Value.bool)) := hst.own
        have hsz := hst.size
        have lu := block_of_cell ux
        have lb := block_of_cell hx
        simp only at lu lb
        have ap : u5.ownBlock ≠ some w.heap.size := fun e => by have := (World.ownsRow.lt HO.out _ e).1; omega
        have ab : u5.ownBlock ≠ some b0 := fun e => by have := (World.ownsRow.lt HO.out _ e).1; omega
        have ag := hst.ne
        have hl : (wl0 B i ++ wl1 B i 1).length ≤ 3 := by simp [wl0, wl1]; split <;> simp <;> omega
        go_wp2
        go_region_held3 (fun w' => w'.cell? ⟨w.heap.size, 0, none⟩ = some (.slice (some ⟨b0, o0, none⟩) B.length c0) ∧ w'.cell? ⟨gu, 1, none⟩ = some (.int .i64 i.b) ∧ w'.cell? ⟨b0, o0 + i.b.toNat, none⟩ = some (.bool (bw B i.b)))
          (first
            | go_keep
            | (go_split_ands
               refine ⟨?_, ?_, ?_⟩
               · (rw [hgrow.cell_far _ (by simp; omega) (Ne.symm ap)]; assumption)
               · (rw [hgrow.cell_far _ (by simp; omega) (Ne.symm ag)]; assumption)
               · (rw [hgrow.cell_far _ (by simp; omega) (Ne.symm ab)]; assumption)))
          ((refine step_append_lies _ (by rfl) _ _ _ (by rfl) (w.heap.size + 2) 4 t0 _ 1 1 Tryz.underlying22 hi hz0 hz1 hz2 rfl (by omega) u5 (wl0 B i ++ wl1 B i 1).length ((wl0 B i ++ wl1 B i 1).map Value.bool) (by rfl) ((World.ownsRow.alloc HO.out _).drew)
              ⟨wr.heap.size, 0, none⟩ 1 1 [.bool (bw B i.b)] (by rfl) (by rfl) (World.news_of_block (cs := #[.bool (bw B i.b)]) (t := 4) (fr := (0, 0)) (heap_alloc_new wr _)) (by simp [Value.oneCell'])
              (by omega) (by unfold maxLen; omega) (by omega) (by simp; omega) (wr.heap.size + 1) (by simp) ?_; intro g2 cap2 w3 hown1 hgrow hat hlt3))
        have hst' := hst.push hown1 hgrow hat
        rename_i hHeldx
        clear hHeldx hown1 hgrow hat p0 ux hx
        go_wp2
        refine ⟨⟨2, by omega, rfl, ?_⟩, by simp [intOf]; omega⟩
        have e : wl0 B i ++ wl1 B i 1 ++ [bw B i.b] = wl0 B i ++ wl1 B i 2 := by simp [wl1]
        rw [e, List.length_append] at hst'
        exact hst'
  case false =>
    clear hd
    go_enter Tryz.func53, Tryz.ntmps53
    go_wp2_with (first
      | (go_at_call 14; refine (gives _ _).mono ?_; rintro e w' ⟨rfl, rfl⟩; rw [hg])
      | (go_at_call 55; refine (uses i m HM.out _).mono ?_; rintro e w2 ⟨gu, rfl, hbu, hg1, hg2, hua, hub⟩))
    have hWS : WState w b0 o0 c0 gu B i (.slice none 0 0) (wl0 B i ++ wl1 B i 0) w2 := by
      have hs2 := hbu.size
      simp at hs2 hg1
      refine ⟨over_alloc (over_alloc hbu), by omega, step_cell hbu (by simp [go_sem]), step_cell hbu (by simp [go_sem]), hua, hub, by omega, by simp [Value.ownBlock], ?_⟩
      have : wl0 B i ++ wl1 B i 0 = [] := by simp [wl0, wl1, hg]
      rw [this]
      exact World.ownsRow_nil _ _ _ _
    clear hua hub hbu
    go_loopw [5, 7] (fun v k wr => ∃ n : Nat, n ≤ m ∧ k = .int .i64 n ∧ WState w b0 o0 c0 gu B i v (wl0 B i ++ wl1 B i n) wr) (fun _ k _ => m - (intOf k).toNat)
    case atStart => exact ⟨0, by omega, rfl, hWS⟩
    clear hWS
    case round =>
      obtain ⟨n, hn, rfl, hst⟩ := hrel
      by_cases hlt : n < m
      case neg =>
        have hL : wl0 B i ++ wl1 B i n = wl B i := by
          have e : (manyI i.op).toNat = n := by rw [HM.out]; omega
          simp [wl, e]
        rw [hL] at hst
        obtain ⟨ao, cap9, hv9, hcells⟩ := own_form hst.own
        subst hv9
        have q0 := hst.q0
        have HC : Hid _ := hcells
        have HBL : Hid _ := hst.bel
        clear hst hcells hL
        rcases (show i.op = 2 ∨ i.op = 5 ∨ (i.op = 6 ∨ i.op = 7) ∨ (¬ i.op = 2 ∧ ¬ i.op = 5 ∧ ¬ (i.op = 6 ∨ i.op = 7)) by omega) with hop | hop | hop | ⟨hop2, hop5, hop6⟩
        · have hW := wl_move B i hop
          have h2 : (wl B i).length = 2 := by rw [hW]; rfl
          obtain ⟨g9, rfl, hc9⟩ := HC.out (by omega)
          rw [h2] at hc9 ⊢
          have e0 : wr.cell? ⟨g9, 0, none⟩ = some (.bool (bw B i.dest)) := by simpa [hW] using hc9 0 (by omega)
          have e1 : wr.cell? ⟨g9, 1, none⟩ = some (.bool (bw B i.a)) := by simpa [hW] using hc9 1 (by omega)
          clear hc9 HC
          go_wp2
          go_quiet (fail)
          go_wp2
          go_ret
          exact ⟨ret_bool (by simp [widthsB, hW, hop]), below_drewN HBL.out _⟩
        · have hW := wl_pair B i hop
          have h2 : (wl B i).length = 3 := by rw [hW]; rfl
          obtain ⟨g9, rfl, hc9⟩ := HC.out (by omega)
          rw [h2] at hc9 ⊢
          have e0 : wr.cell? ⟨g9, 0, none⟩ = some (.bool (bw B i.dest)) := by simpa [hW] using hc9 0 (by omega)
          have e1 : wr.cell? ⟨g9, 1, none⟩ = some (.bool (bw B i.a)) := by simpa [hW] using hc9 1 (by omega)
          have e2 : wr.cell? ⟨g9, 2, none⟩ = some (.bool (bw B i.b)) := by simpa [hW] using hc9 2 (by omega)
          clear hc9 HC
          go_wp2
          all_goals
            go_ret
            exact ⟨ret_bool (by simp [widthsB, *]), HBL.out⟩
        · have hW := wl_half B i hop
          have hwb : widthsB B i = (!bw B i.dest && bw B i.a) := by unfold widthsB; rw [if_neg (by omega), if_neg (by omega), if_pos hop, hW]; rfl
          have h2 : (wl B i).length = 2 := by rw [hW]; rfl
          obtain ⟨g9, rfl, hc9⟩ := HC.out (by omega)
          rw [h2] at hc9 ⊢
          have e0 : wr.cell? ⟨g9, 0, none⟩ = some (.bool (bw B i.dest)) := by simpa [hW] using hc9 0 (by omega)
          have e1 : wr.cell? ⟨g9, 1, none⟩ = some (.bool (bw B i.a)) := by simpa [hW] using hc9 1 (by omega)
          clear hc9 HC
          rcases hop with hop | hop
          all_goals
            go_wp2
            all_goals
              go_ret
              exact ⟨ret_bool (by rw [hwb]; simp [*]), HBL.out⟩
        · have hwb : widthsB B i = (wl B i).all (fun x => x == decide (40 < i.op)) := by unfold widthsB; rw [if_neg hop2, if_neg hop5, if_neg hop6]
          have HWB : Hid _ := hwb
          clear hwb
          have k2 : (i.op == 2) = false := by simpa using hop2
          have k5 : (i.op == 5) = false := by simpa using hop5
          have k6 : (i.op == 6) = false := by simp; omega
          have k7 : (i.op == 7) = false := by simp; omega
          have hl3 : (wl B i).length ≤ 3 := by simp [wl, wl0, wl1]; split <;> simp <;> omega
          clear hop2 hop5 hop6
          go_wp2
          go_loop [9] (fun t => ∃ k : Nat, k ≤ (wl B i).length ∧ t = .int .i64 k ∧ ∀ j, j < k → (wl B i).getD j false = decide (40 < i.op)) (fun t => (wl B i).length - (intOf t).toNat)
          case atStart => exact ⟨0, by omega, rfl, fun j hj => absurd hj (by omega)⟩
          case round =>
            obtain ⟨k, hk, rfl, hall⟩ := hrel
            have HF : Hid _ := hall
            clear hall
            by_cases hkl : k < (wl B i).length
            · obtain ⟨g9, rfl, hc9⟩ := HC.out (by omega)
              obtain ⟨x, hx⟩ : ∃ x, x = (wl B i).getD k false := ⟨_, rfl⟩
              have e0 := hc9 k hkl
              rw [← hx] at e0
              have HX : Hid _ := hx
              clear hx hc9
              go_wp2
              · go_ret
                refine ⟨ret_bool ?_, HBL.out⟩
                rw [HWB.out, eq_comm, List.all_eq_false]
                refine ⟨x, ?_, by simp_all⟩
                rw [HX.out]
                simp [List.getD, hkl]
              · refine ⟨⟨k + 1, by omega, by go_num, ?_⟩, by simp [intOf]; omega⟩
                intro j hj
                by_cases hjk : j < k
                · exact HF.out j hjk
                · obtain rfl : j = k := by omega
                  rw [← HX.out]
                  simp_all
            · go_wp2
              go_ret
              refine ⟨ret_bool ?_, HBL.out⟩
              rw [HWB.out, eq_comm, List.all_eq_true]
              intro x hx
              obtain ⟨j, hj, rfl⟩ := List.getElem_of_mem hx
              have := HF.out j (by omega)
              simpa [List.getD, hj] using this
      rcases (show n = 0 ∨ n = 1 by omega) with rfl | rfl
      · obtain ⟨x1, x2⟩ := HA.out (by omega)
        have hx : wr.cell? ⟨b0, o0 + i.a.toNat, none⟩ = some (.bool (bw B i.a)) := (h.later hst.bel).wide _ (by omega)
        have p0 := hst.p0
        have ux := hst.ua
        have HO : Hid (wr.ownsRow (w.heap.size + 2) 4 1 u5 (wl0 B i ++ wl1 B i 0).length ((wl0 B i ++ wl1 B i 0).map Value.bool)) := hst.own
        have hsz := hst.size
        have lu := block_of_cell ux
        have lb := block_of_cell hx
        simp only at lu lb
        have ap : u5.ownBlock ≠ some w.heap.size := fun e => by have := (World.ownsRow.lt HO.out _ e).1; omega
        have ab : u5.ownBlock ≠ some b0 := fun e => by have := (World.ownsRow.lt HO.out _ e).1; omega
        have ag := hst.ne
        have hl : (wl0 B i ++ wl1 B i 0).length ≤ 3 := by simp [wl0, wl1]; split <;> simp <;> omega
        go_wp2
        go_region_held3 (fun w' => w'.cell? ⟨w.heap.size, 0, none⟩ = some (.slice (some ⟨b0, o0, none⟩) B.length c0) ∧ w'.cell? ⟨gu, 0, none⟩ = some (.int .i64 i.a) ∧ w'.cell? ⟨b0, o0 + i.a.toNat, none⟩ = some (.bool (bw B i.a)))
          (first
            | go_keep
            | (go_split_ands
               refine ⟨?_, ?_, ?_⟩
               · (rw [hgrow.cell_far _ (by simp; omega) (Ne.symm ap)]; assumption)
               · (rw [hgrow.cell_far _ (by simp; omega) (Ne.symm ag)]; assumption)
               · (rw [hgrow.cell_far _ (by simp; omega) (Ne.symm ab)]; assumption)))
          ((refine step_append_lies _ (by rfl) _ _ _ (by rfl) (w.heap.size + 2) 4 t0 _ 1 1 Tryz.underlying22 hi hz0 hz1 hz2 rfl (by omega) u5 (wl0 B i ++ wl1 B i 0).length ((wl0 B i ++ wl1 B i 0).map Value.bool) (by rfl) ((World.ownsRow.alloc HO.out _).drew)
              ⟨wr.heap.size, 0, none⟩ 1 1 [.bool (bw B i.a)] (by rfl) (by rfl) (World.news_of_block (cs := #[.bool (bw B i.a)]) (t := 4) (fr := (0, 0)) (heap_alloc_new wr _)) (by simp [Value.oneCell'])
              (by omega) (by unfold maxLen; omega) (by omega) (by simp; omega) (wr.heap.size + 1) (by simp) ?_; intro g2 cap2 w3 hown1 hgrow hat hlt3))
        have hst' := hst.push hown1 hgrow hat
        rename_i hHeldx
        clear hHeldx hown1 hgrow hat p0 ux hx
        go_wp2
        refine ⟨⟨1, by omega, rfl, ?_⟩, by simp [intOf]; omega⟩
        have e : wl0 B i ++ wl1 B i 0 ++ [bw B i.a] = wl0 B i ++ wl1 B i 1 := by simp [wl1]
        rw [e, List.length_append] at hst'
        exact hst'
      · obtain ⟨x1, x2⟩ := HBb.out (by omega)
        have hx : wr.cell? ⟨b0, o0 + i.b.toNat, none⟩ = some (.bool (bw B i.b)) := (h.later hst.bel).wide _ (by omega)
        have p0 := hst.p0
        have ux := hst.ub
        have HO : Hid (wr.ownsRow (w.heap.size + 2) 4 1 u5 (wl0 B i ++ wl1 B i 1).length ((wl0 B i ++ wl1 B i 1).map Value.bool)) := hst.own
        have hsz := hst.size
        have lu := block_of_cell ux
        have lb := block_of_cell hx
        simp only at lu lb
        have ap : u5.ownBlock ≠ some w.heap.size := fun e => by have := (World.ownsRow.lt HO.out _ e).1; omega
        have ab : u5.ownBlock ≠ some b0 := fun e => by have := (World.ownsRow.lt HO.out _ e).1; omega
        have ag := hst.ne
        have hl : (wl0 B i ++ wl1 B i 1).length ≤ 3 := by simp [wl0, wl1]; split <;> simp <;> omega
        go_wp2
        go_region_held3 (fun w' => w'.cell? ⟨w.heap.size, 0, none⟩ = some (.slice (some ⟨b0, o0, none⟩) B.length c0) ∧ w'.cell? ⟨gu, 1, none⟩ = some (.int .i64 i.b) ∧ w'.cell? ⟨b0, o0 + i.b.toNat, none⟩ = some (.bool (bw B i.b)))
          (first
            | go_keep
            | (go_split_ands
               refine ⟨?_, ?_, ?_⟩
               · (rw [hgrow.cell_far _ (by simp; omega) (Ne.symm ap)]; assumption)
               · (rw [hgrow.cell_far _ (by simp; omega) (Ne.symm ag)]; assumption)
               · (rw [hgrow.cell_far _ (by simp; omega) (Ne.symm ab)]; assumption)))
          ((refine step_append_lies _ (by rfl) _ _ _ (by rfl) (w.heap.size + 2) 4 t0 _ 1 1 Tryz.underlying22 hi hz0 hz1 hz2 rfl (by omega) u5 (wl0 B i ++ wl1 B i 1).length ((wl0 B i ++ wl1 B i 1).map Value.bool) (by rfl) ((World.ownsRow.alloc HO.out _).drew)
              ⟨wr.heap.size, 0, none⟩ 1 1 [.bool (bw B i.b)] (by rfl) (by rfl) (World.news_of_block (cs := #[.bool (bw B i.b)]) (t := 4) (fr := (0, 0)) (heap_alloc_new wr _)) (by simp [Value.oneCell'])
              (by omega) (by unfold maxLen; omega) (by omega) (by simp; omega) (wr.heap.size + 1) (by simp) ?_; intro g2 cap2 w3 hown1 hgrow hat hlt3))
        have hst' := hst.push hown1 hgrow hat
        rename_i hHeldx
        clear hHeldx hown1 hgrow hat p0 ux hx
        go_wp2
        refine ⟨⟨2, by omega, rfl, ?_⟩, by simp [intOf]; omega⟩
        have e : wl0 B i ++ wl1 B i 1 ++ [bw B i.b] = wl0 B i ++ wl1 B i 2 := by simp [wl1]
        rw [e, List.length_append] at hst'
        exact hst'

end Go.Proofs.YtcmnmogmdhofcaaGreat.form

/- What loanbookref2.ins answers. -/
namespace Go.Proofs.YtcmnmogmdhofcaaGreat.form
open Go.RowKit
set_option linter.unusedVariables false
attribute [local go_sem ↓] Go.wp_at_zero Go.wp_at_succ

def fieldB (B : List Bool) (there : Bool) (f : Int) : Bool := if there then decide (0 ≤ f) && decide (f < B.length) else f == 0
def lineB (nC : Nat) (i : LIns) : Bool := if i.op = 8 ∨ i.op = 9 then decide (0 ≤ i.c) && decide (i.c < nC) else i.c == 0
def insB (B : List Bool) (nC : Nat) (i : LIns) : Bool :=
  knownB i.op && (i.op == 1 || i.n == 0) && fieldB B (givesB i.op) i.dest && fieldB B (decide (0 < manyI i.op)) i.a && fieldB B (decide (1 < manyI i.op)) i.b && lineB nC i && widthsB B i

theorem field_no {B : List Bool} {f : Int} (h : (f != 0) = true) : fieldB B false f = false := by unfold fieldB; simpa using h
theorem field_yes {B : List Bool} {f : Int} (h : (f != 0) = false) : fieldB B false f = true := by unfold fieldB; simpa using h
theorem field_in {B : List Bool} {f : Int} (h1 : 0 ≤ f) (h2 : f < B.length) : fieldB B true f = true := by unfold fieldB; simp [h1, h2]
theorem field_out {B : List Bool} {f : Int} (h : ¬ (0 ≤ f ∧ f < B.length)) : fieldB B true f = false := by unfold fieldB; simp; omega
theorem insB_no0 {B : List Bool} {nC : Nat} {i : LIns} (h : fieldB B (givesB i.op) i.dest = false) : false = insB B nC i := by simp [insB, h]
theorem insB_no1 {B : List Bool} {nC : Nat} {i : LIns} (h : fieldB B (decide (0 < manyI i.op)) i.a = false) : false = insB B nC i := by simp [insB, h]
theorem insB_no2 {B : List Bool} {nC : Nat} {i : LIns} (h : fieldB B (decide (1 < manyI i.op)) i.b = false) : false = insB B nC i := by simp [insB, h]

theorem insB_noL {B : List Bool} {nC : Nat} {i : LIns} (h : lineB nC i = false) : false = insB B nC i := by simp [insB, h]
theorem insB_yes {B : List Bool} {nC : Nat} {i : LIns} (hk : knownB i.op = true) (hn : (i.op != 1 && i.n != 0) = false) (f0 : fieldB B (givesB i.op) i.dest = true) (f1 : fieldB B (decide (0 < manyI i.op)) i.a = true) (f2 : fieldB B (decide (1 < manyI i.op)) i.b = true) (hl : lineB nC i = true) : widthsB B i = insB B nC i := by
  have hn' : (i.op == 1 || i.n == 0) = true := by
    cases h1 : (i.op == 1) <;> cases h2 : (i.n == 0) <;> simp_all
  unfold insB
  rw [hk, hn', f0, f1, f2, hl]
  rfl

structure IState (w : World) (b0 o0 c0 b1 o1 c1 : Nat) (B : List Bool) (C : List LIns) (i : LIns) (wr : World) : Prop where
  bel : Below w.heap.size w wr
  p0 : wr.cell? ⟨w.heap.size, 0, none⟩ = some (.slice (some ⟨b0, o0, none⟩) B.length c0)
  p1 : wr.cell? ⟨w.heap.size, 1, none⟩ = some (.slice (some ⟨b1, o1, none⟩) C.length c1)
  q0 : wr.cell? ⟨w.heap.size + 1, 0, none⟩ = some (.int .i64 i.op)
  q1 : wr.cell? ⟨w.heap.size + 1, 1, none⟩ = some (.int .i64 i.dest)
  q2 : wr.cell? ⟨w.heap.size + 1, 2, none⟩ = some (.int .i64 i.a)
  q3 : wr.cell? ⟨w.heap.size + 1, 3, none⟩ = some (.int .i64 i.b)
  q4 : wr.cell? ⟨w.heap.size + 1, 4, none⟩ = some (.int .i64 i.c)
  q5 : wr.cell? ⟨w.heap.size + 1, 5, none⟩ = some (.int .u32 i.n)
  f0 : wr.cell? ⟨w.heap.size + 1 + 1, 0, none⟩ = some (.int .i64 i.dest)
  f1 : wr.cell? ⟨w.heap.size + 1 + 1, 1, none⟩ = some (.int .i64 i.a)
  f2 : wr.cell? ⟨w.heap.size + 1 + 1, 2, none⟩ = some (.int .i64 i.b)
  t0 : wr.cell? ⟨w.heap.size + 1 + 1 + 1, 0, none⟩ = some (.bool (givesB i.op))
  t1 : wr.cell? ⟨w.heap.size + 1 + 1 + 1, 1, none⟩ = some (.bool (decide (0 < manyI i.op)))
  t2 : wr.cell? ⟨w.heap.size + 1 + 1 + 1, 2, none⟩ = some (.bool (decide (1 < manyI i.op)))

set_option maxRecDepth 100000 in
set_option maxHeartbeats 4000000 in
theorem ins (b0 o0 c0 b1 o1 c1 : Nat) (B : List Bool) (C : List LIns) (i : LIns) (w : World) (hB : B.length ≤ 12) (hC : C.length ≤ 40) (h : Held w b0 o0 b1 o1 B C) (hn0 : 0 ≤ i.n) (hn1 : i.n < 4294967296) :
    Calls Tryz.prog 31 #[progV b0 o0 B.length c0 b1 o1 C.length c1, i.val] w fun e w' => e = .returned (.bool (insB B C.length i)) ∧ Below w.heap.size w w' := by
  have hlt0 := h.lt0
  unfold progV LIns.val
  cases hkn : knownB i.op
  case false =>
    go_enter Tryz.func31, Tryz.ntmps31
    go_wp2_with (go_at_call 52; refine (known _ _).mono ?_; rintro e w' ⟨rfl, rfl⟩; rw [hkn])
    go_ret
    exact ⟨ret_bool (by simp [insB, hkn]), ((Below.refl _ _).alloc (Nat.le_refl _) _).alloc (by simp) _⟩
  case true =>
    go_enter Tryz.func31, Tryz.ntmps31
    go_upto_region 1 with fail
    go_cut [22] (fun s wr => s = .bool (i.op != 1 && i.n != 0) ∧ wr = ((w.alloc (.cells #[.slice (some ⟨b0, o0, none⟩) B.length c0, .slice (some ⟨b1, o1, none⟩) C.length c1] 25)).alloc (.cells #[.int .i64 i.op, .int .i64 i.dest, .int .i64 i.a, .int .i64 i.b, .int .i64 i.c, .int .u32 i.n] 49)))
    case first =>
      rcases Bool.eq_false_or_eq_true (i.op != 1) with e1 | e1
      all_goals
        go_wp2_with (go_at_call 52; refine (known _ _).mono ?_; rintro e w' ⟨rfl, rfl⟩; rw [hkn])
        go_meet
        case rel => exact ⟨by rw [e1]; rfl, rfl⟩
    case rest =>
      obtain ⟨rfl, rfl⟩ := hcut
      cases hnn : (i.op != 1 && i.n != 0)
      case true =>
        go_wp2
        go_ret
        exact ⟨ret_bool (by simp at hnn; simp [insB, hnn.1, hnn.2]), ((Below.refl _ _).alloc (Nat.le_refl _) _).alloc (by simp) _⟩
      have HNN : Hid _ := hnn
      clear hnn
      go_wp2
      go_cut [7] (fun s wr => s = .slice (some ⟨w.heap.size + 1 + 1 + 1, 0, none⟩) 3 3 ∧ IState w b0 o0 c0 b1 o1 c1 B C i wr)
      case first =>
        go_region_held3 (fun w' => w'.cell? ⟨w.heap.size + 1, 0, none⟩ = some (.int .i64 i.op)) (go_keep)
          ((first | (go_at_call 14; refine (gives _ _).mono ?_; rintro e w' ⟨rfl, rfl⟩) | (go_at_call 15; refine (many _ _).mono ?_; rintro e w' ⟨rfl, rfl⟩)))
        go_wp2
        go_meet
        case rel => exact ⟨rfl, ⟨(((((Below.refl _ _).alloc (Nat.le_refl _) _).alloc (by simp) _).alloc (by simp; omega) _).alloc (by simp; omega) _).drew, by simp [go_sem], by simp [go_sem], by simp [go_sem], by simp [go_sem], by simp [go_sem], by simp [go_sem], by simp [go_sem], by simp [go_sem], by simp [go_sem], by simp [go_sem], by simp [go_sem], by simp [go_sem], by simp [go_sem], by simp [go_sem]⟩⟩
      case rest =>
        obtain ⟨rfl, hst⟩ := hcut
        go_wp2
        go_loopw [8] (fun t wr => ∃ k : Nat, k ≤ 3 ∧ t = .int .i64 k ∧ IState w b0 o0 c0 b1 o1 c1 B C i wr ∧ (0 < k → fieldB B (givesB i.op) i.dest = true) ∧ (1 < k → fieldB B (decide (0 < manyI i.op)) i.a = true) ∧ (2 < k → fieldB B (decide (1 < manyI i.op)) i.b = true)) (fun t _ => 3 - (intOf t).toNat)
        case atStart => exact ⟨0, by omega, rfl, hst, by simp, by simp, by simp⟩
        clear hst
        case round =>
          obtain ⟨k, hk, rfl, hst, f0, f1, f2⟩ := hrel
          have F : Hid _ := (⟨f0, f1, f2⟩ : _ ∧ _ ∧ _)
          clear f0 f1 f2
          rcases (show k = 0 ∨ k = 1 ∨ k = 2 ∨ k = 3 by omega) with rfl | rfl | rfl | rfl
          · have cf := hst.f0
            have ct := hst.t0
            have HST : Hid (IState w b0 o0 c0 b1 o1 c1 B C i wr) := hst
            clear hst
            obtain ⟨tv, htv⟩ : ∃ tv, tv = (givesB i.op) := ⟨_, rfl⟩
            rw [← htv] at ct
            have HT : Hid (tv = (givesB i.op)) := htv
            clear htv
            cases tv
            · rcases Bool.eq_false_or_eq_true (i.dest != 0) with e1 | e1
              · go_wp2
                go_ret
                exact ⟨ret_bool (insB_no0 (by rw [← HT.out]; exact field_no e1)), HST.out.bel⟩
              · go_wp2
                obtain ⟨g0, g1, g2⟩ := F.out
                exact ⟨⟨1, by omega, rfl, HST.out, fun _ => (by rw [← HT.out]; exact field_yes e1), fun hh => absurd hh (by omega), fun hh => absurd hh (by omega)⟩, by simp [intOf]⟩
            · by_cases x1 : 0 ≤ i.dest
              · by_cases x2 : i.dest < (B.length : Int)
                · go_wp2
                  obtain ⟨g0, g1, g2⟩ := F.out
                  exact ⟨⟨1, by omega, rfl, HST.out, fun _ => (by rw [← HT.out]; exact field_in x1 x2), fun hh => absurd hh (by omega), fun hh => absurd hh (by omega)⟩, by simp [intOf]⟩
                · go_wp2
                  go_ret
                  exact ⟨ret_bool (insB_no0 (by rw [← HT.out]; exact field_out (by omega))), HST.out.bel⟩
              · go_wp2
                go_ret
                exact ⟨ret_bool (insB_no0 (by rw [← HT.out]; exact field_out (by omega))), HST.out.bel⟩
          · have cf := hst.f1
            have ct := hst.t1
            have HST : Hid (IState w b0 o0 c0 b1 o1 c1 B C i wr) := hst
            clear hst
            obtain ⟨tv, htv⟩ : ∃ tv, tv = (decide (0 < manyI i.op)) := ⟨_, rfl⟩
            rw [← htv] at ct
            have HT : Hid (tv = (decide (0 < manyI i.op))) := htv
            clear htv
            cases tv
            · rcases Bool.eq_false_or_eq_true (i.a != 0) with e1 | e1
              · go_wp2
                go_ret
                exact ⟨ret_bool (insB_no1 (by rw [← HT.out]; exact field_no e1)), HST.out.bel⟩
              · go_wp2
                obtain ⟨g0, g1, g2⟩ := F.out
                exact ⟨⟨2, by omega, rfl, HST.out, fun _ => g0 (by omega), fun _ => (by rw [← HT.out]; exact field_yes e1), fun hh => absurd hh (by omega)⟩, by simp [intOf]⟩
            · by_cases x1 : 0 ≤ i.a
              · by_cases x2 : i.a < (B.length : Int)
                · go_wp2
                  obtain ⟨g0, g1, g2⟩ := F.out
                  exact ⟨⟨2, by omega, rfl, HST.out, fun _ => g0 (by omega), fun _ => (by rw [← HT.out]; exact field_in x1 x2), fun hh => absurd hh (by omega)⟩, by simp [intOf]⟩
                · go_wp2
                  go_ret
                  exact ⟨ret_bool (insB_no1 (by rw [← HT.out]; exact field_out (by omega))), HST.out.bel⟩
              · go_wp2
                go_ret
                exact ⟨ret_bool (insB_no1 (by rw [← HT.out]; exact field_out (by omega))), HST.out.bel⟩
          · have cf := hst.f2
            have ct := hst.t2
            have HST : Hid (IState w b0 o0 c0 b1 o1 c1 B C i wr) := hst
            clear hst
            obtain ⟨tv, htv⟩ : ∃ tv, tv = (decide (1 < manyI i.op)) := ⟨_, rfl⟩
            rw [← htv] at ct
            have HT : Hid (tv = (decide (1 < manyI i.op))) := htv
            clear htv
            cases tv
            · rcases Bool.eq_false_or_eq_true (i.b != 0) with e1 | e1
              · go_wp2
                go_ret
                exact ⟨ret_bool (insB_no2 (by rw [← HT.out]; exact field_no e1)), HST.out.bel⟩
              · go_wp2
                obtain ⟨g0, g1, g2⟩ := F.out
                exact ⟨⟨3, by omega, rfl, HST.out, fun _ => g0 (by omega), fun _ => g1 (by omega), fun _ => (by rw [← HT.out]; exact field_yes e1)⟩, by simp [intOf]⟩
            · by_cases x1 : 0 ≤ i.b
              · by_cases x2 : i.b < (B.length : Int)
                · go_wp2
                  obtain ⟨g0, g1, g2⟩ := F.out
                  exact ⟨⟨3, by omega, rfl, HST.out, fun _ => g0 (by omega), fun _ => g1 (by omega), fun _ => (by rw [← HT.out]; exact field_in x1 x2)⟩, by simp [intOf]⟩
                · go_wp2
                  go_ret
                  exact ⟨ret_bool (insB_no2 (by rw [← HT.out]; exact field_out (by omega))), HST.out.bel⟩
              · go_wp2
                go_ret
                exact ⟨ret_bool (insB_no2 (by rw [← HT.out]; exact field_out (by omega))), HST.out.bel⟩
          · obtain ⟨f0, f1, f2⟩ := F.out
            have f0 := f0 (by omega)
            have f1 := f1 (by omega)
            have f2 := f2 (by omega)
            have hd : givesB i.op = true → 0 ≤ i.dest ∧ i.dest < B.length := fun e => by rw [e] at f0; simpa [fieldB] using f0
            have ha : 0 < manyI i.op → 0 ≤ i.a ∧ i.a < B.length := fun e => by rw [decide_eq_true e] at f1; simpa [fieldB] using f1
            have hb : 1 < manyI i.op → 0 ≤ i.b ∧ i.b < B.length := fun e => by rw [decide_eq_true e] at f2; simpa [fieldB] using f2
            have HF : Hid _ := (⟨f0, f1, f2⟩ : _ ∧ _ ∧ _)
            have HD : Hid _ := (⟨hd, ha, hb⟩ : _ ∧ _ ∧ _)
            clear f0 f1 f2 hd ha hb
            have p0 := hst.p0
            have p1 := hst.p1
            have q0 := hst.q0
            have q1 := hst.q1
            have q2 := hst.q2
            have q3 := hst.q3
            have q4 := hst.q4
            have q5 := hst.q5
            have HB2 : Hid (Below w.heap.size w wr) := hst.bel
            have hH := h.later hst.bel
            clear hst
            by_cases hop : i.op = 8 ∨ i.op = 9
            · have HL0 : lineB C.length i = (decide (0 ≤ i.c) && decide (i.c < C.length)) := by unfold lineB; rw [if_pos hop]
              have hop' : (i.op == 8) = true ∨ ((i.op == 8) = false ∧ (i.op == 9) = true) := by simp; omega
              clear hop
              by_cases x1 : 0 ≤ i.c
              · by_cases x2 : i.c < (C.length : Int)
                · have HL : Hid (lineB C.length i = true) := by show lineB C.length i = true; rw [HL0]; simp [x1, x2]
                  clear HL0
                  rcases hop' with e8 | ⟨e8, e9⟩
                  all_goals
                    go_wp2_with (go_at_call 53; refine (widths b0 o0 c0 b1 o1 c1 B C i _ hB hC hH HD.out.1 HD.out.2.1 HD.out.2.2).mono ?_; rintro e w9 ⟨rfl, hb9⟩)
                    go_ret
                    exact ⟨ret_bool (insB_yes hkn HNN.out HF.out.1 HF.out.2.1 HF.out.2.2 HL.out), step_below hb9 HB2.out⟩
                · have HL : Hid (lineB C.length i = false) := by show lineB C.length i = false; rw [HL0]; simp [x1, x2]
                  clear HL0
                  rcases hop' with e8 | ⟨e8, e9⟩
                  all_goals
                    go_wp2
                    go_ret
                    exact ⟨ret_bool (insB_noL HL.out), HB2.out⟩
              · have HL : Hid (lineB C.length i = false) := by show lineB C.length i = false; rw [HL0]; simp [x1]
                clear HL0
                rcases hop' with e8 | ⟨e8, e9⟩
                all_goals
                  go_wp2
                  go_ret
                  exact ⟨ret_bool (insB_noL HL.out), HB2.out⟩
            · have HL0 : lineB C.length i = (i.c == 0) := by unfold lineB; rw [if_neg hop]
              have e8 : (i.op == 8) = false := by simp; omega
              have e9 : (i.op == 9) = false := by simp; omega
              clear hop
              rcases Bool.eq_false_or_eq_true (i.c != 0) with x1 | x1
              · have HL : Hid (lineB C.length i = false) := by show lineB C.length i = false; rw [HL0]; simpa using x1
                clear HL0
                go_wp2
                go_ret
                exact ⟨ret_bool (insB_noL HL.out), HB2.out⟩
              · have HL : Hid (lineB C.length i = true) := by show lineB C.length i = true; rw [HL0]; simpa using x1
                clear HL0
                go_wp2_with (go_at_call 53; refine (widths b0 o0 c0 b1 o1 c1 B C i _ hB hC hH HD.out.1 HD.out.2.1 HD.out.2.2).mono ?_; rintro e w9 ⟨rfl, hb9⟩)
                go_ret
                exact ⟨ret_bool (insB_yes hkn HNN.out HF.out.1 HF.out.2.1 HF.out.2.2 HL.out), step_below hb9 HB2.out⟩

end Go.Proofs.YtcmnmogmdhofcaaGreat.form

/- What loanbookref2.May answers. -/
namespace Go.Proofs.YtcmnmogmdhofcaaGreat.form
open Go.RowKit
set_option linter.unusedVariables false
attribute [local go_sem ↓] Go.wp_at_zero Go.wp_at_succ

def refMayB (B : List Bool) (C : List LIns) : Bool := sizesB B C && C.all (insB B C.length)

theorem refMay_no (v : Value) (B : List Bool) (C : List LIns) (w : World) (h : ProgIs w v B C) (hs : sizesB B C = false) :
    Calls Tryz.prog 12 #[v] w fun e w' => e = .returned (.bool false) ∧ Below w.heap.size w w' := by
  obtain ⟨⟨a0, c0, a1, c1, rfl, -⟩, l0, l1, -⟩ := h
  have hs' : ¬ (1 ≤ B.length ∧ B.length ≤ 12 ∧ 1 ≤ C.length ∧ C.length ≤ 40) := by
    intro hh; unfold sizesB at hs; simp at hs; omega
  have HS : Hid _ := hs'
  clear hs hs'
  by_cases x1 : (B.length : Int) < 1
  all_goals by_cases x2 : (12 : Int) < (B.length : Int)
  all_goals by_cases x3 : (C.length : Int) < 1
  all_goals by_cases x4 : (40 : Int) < (C.length : Int)
  all_goals first
    | (exfalso; omega)
    | (exfalso; apply HS.out; omega)
    | skip
  all_goals
    go_enter Tryz.func12, Tryz.ntmps12
    go_wp2
    go_ret
    exact ⟨rfl, (Below.refl _ _).alloc (Nat.le_refl _) _⟩

set_option maxRecDepth 100000 in
set_option maxHeartbeats 1000000 in
theorem refMay_yes (b0 o0 c0 b1 o1 c1 : Nat) (B : List Bool) (C : List LIns) (w : World) (h : Held w b0 o0 b1 o1 B C) (hn : ∀ i, i < C.length → 0 ≤ (C.getD i .zero).n ∧ (C.getD i .zero).n < 4294967296) (hs : sizesB B C = true) :
    Calls Tryz.prog 12 #[progV b0 o0 B.length c0 b1 o1 C.length c1] w fun e w' => e = .returned (.bool (C.all (insB B C.length))) ∧ Below w.heap.size w w' := by
  obtain ⟨s1, s2, s3, s4⟩ := sizes_of hs
  have j1 : (1 : Int) ≤ (B.length : Int) := by omega
  have j2 : (B.length : Int) ≤ 12 := by omega
  have j3 : (1 : Int) ≤ (C.length : Int) := by omega
  have j4 : (C.length : Int) ≤ 40 := by omega
  unfold progV
  go_enter Tryz.func12, Tryz.ntmps12
  go_wp2
  go_loopw [3] (fun i wr => ∃ k : Nat, k ≤ C.length ∧ i = .int .i64 k ∧ Below w.heap.size w wr ∧ w.heap.size < wr.heap.size ∧
      wr.cell? ⟨w.heap.size, 0, none⟩ = some (.slice (some ⟨b0, o0, none⟩) B.length c0) ∧ wr.cell? ⟨w.heap.size, 1, none⟩ = some (.slice (some ⟨b1, o1, none⟩) C.length c1) ∧
      (∀ j, j < k → insB B C.length (C.getD j .zero) = true))
    (fun i _ => C.length - (intOf i).toNat)
  case atStart => exact ⟨0, by omega, rfl, (Below.refl _ _).alloc (Nat.le_refl _) _, by simp, by simp [go_sem], by simp [go_sem], fun j hj => absurd hj (by omega)⟩
  case round =>
    obtain ⟨k, hk, rfl, hbel, hsz, cp0, cp1, hall⟩ := hrel
    have F : Hid _ := hall
    have HN : Hid _ := hn
    clear hall hn
    have hh := h.later hbel
    by_cases hlt : k < C.length
    · obtain ⟨d0, d1, d2, d3, d4, d5⟩ := hh.code k hlt
      obtain ⟨n0, n1⟩ := HN.out k hlt
      obtain ⟨i, hi⟩ : ∃ i, i = C.getD k .zero := ⟨_, rfl⟩
      rw [← hi] at d0 d1 d2 d3 d4 d5 n0 n1
      have HI : Hid (i = C.getD k .zero) := hi
      clear hi
      have y1 : (0 : Int) ≤ (k : Int) := by omega
      have y2 : (k : Int) < (C.length : Int) := by omega
      go_wp2
      go_region_held3 (fun w' => Below wr.heap.size wr w' ∧ w'.cell? ⟨w.heap.size, 0, none⟩ = some (.slice (some ⟨b0, o0, none⟩) B.length c0) ∧ w'.cell? ⟨w.heap.size, 1, none⟩ = some (.slice (some ⟨b1, o1, none⟩) C.length c1) ∧ w'.cell? ⟨b1, o1 + k * 6, none⟩ = some (.int .i64 i.op) ∧ w'.cell? ⟨b1, o1 + k * 6 + 1, none⟩ = some (.int .i64 i.dest) ∧ w'.cell? ⟨b1, o1 + k * 6 + 2, none⟩ = some (.int .i64 i.a) ∧ w'.cell? ⟨b1, o1 + k * 6 + 3, none⟩ = some (.int .i64 i.b) ∧ w'.cell? ⟨b1, o1 + k * 6 + 4, none⟩ = some (.int .i64 i.c) ∧ w'.cell? ⟨b1, o1 + k * 6 + 5, none⟩ = some (.int .u32 i.n))
        ((go_split_ands; refine ⟨?_, ?_, ?_, ?_, ?_, ?_, ?_, ?_, ?_⟩ <;> first | exact (Below.refl _ _).drew | exact ((Below.refl _ _).drew).trans hb1 | exact step_cell hb1 (by assumption) | go_keep))
        ((go_at_call 31; refine (ins b0 o0 c0 b1 o1 c1 B C i _ s2 s4 ?_ n0 n1).mono ?_; (exact hh.drew); rintro e w1 ⟨rfl, hb1⟩))
      rename_i hHeldx
      have hb2 : Below wr.heap.size wr w1 := hHeldx.1
      clear hHeldx hb1
      have hbel1 := step_below hb2 hbel
      have R : Hid _ := (⟨hbel1, Nat.lt_of_lt_of_le hsz hb2.size, step_cell hb2 cp0, step_cell hb2 cp1⟩ : _ ∧ _ ∧ _ ∧ _)
      clear hb2 hbel1 d0 d1 d2 d3 d4 d5 cp0 cp1
      go_wp2
      · go_ret
        refine ⟨ret_bool ?_, R.out.1⟩
        have hf : insB B C.length i = false := by simp_all
        rw [eq_comm, List.all_eq_false]
        refine ⟨i, ?_, by simp [hf]⟩
        rw [HI.out]
        simp [List.getD, hlt]
      · obtain ⟨r1, r2, r3, r4⟩ := R.out
        refine ⟨⟨k + 1, by omega, by go_num, r1, r2, r3, r4, ?_⟩, by simp [intOf]; omega⟩
        intro j hj
        by_cases hjk : j < k
        · exact F.out j hjk
        · obtain rfl : j = k := by omega
          rw [← HI.out]
          simp_all
    · go_wp2
      go_ret
      exact ⟨ret_bool (by
        rw [List.all_eq_true.2]
        intro x hx
        obtain ⟨j, hj, rfl⟩ := List.getElem_of_mem hx
        have := F.out j (by omega)
        simpa [List.getD, hj] using this), hbel⟩

theorem refMay (v : Value) (B : List Bool) (C : List LIns) (w : World) (h : ProgIs w v B C) :
    Calls Tryz.prog 12 #[v] w fun e w' => e = .returned (.bool (refMayB B C)) ∧ Below w.heap.size w w' := by
  cases hs : sizesB B C with
  | false => rw [show refMayB B C = false by simp [refMayB, hs]]; exact refMay_no v B C w h hs
  | true =>
    rw [show refMayB B C = C.all (insB B C.length) by simp [refMayB, hs]]
    obtain ⟨s1, s2, s3, s4⟩ := sizes_of hs
    obtain ⟨⟨a0, c0, a1, c1, rfl, hh⟩, l0, l1, hn⟩ := h
    obtain ⟨b0, o0, b1, o1, rfl, rfl, hH⟩ := hh s1 s3
    exact refMay_yes b0 o0 c0 b1 o1 c1 B C w hH hn hs

end Go.Proofs.YtcmnmogmdhofcaaGreat.form
