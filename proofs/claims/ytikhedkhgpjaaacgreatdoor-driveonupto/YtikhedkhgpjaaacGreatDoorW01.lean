/- A program (api.Prog) as it lies in memory: the wide marks, the instructions, cell by cell; it stays where the world only grows. -/
import Derived.WalkKit
import Derived.Below
import Derived.OwnWalk
import Derived.Test.YtikhedkhgpjaaacGreatDoorProg
import Derived.Shelf.Strings.BuilderK
import Derived.Shelf.Strings.Search2
import Derived.Shelf.Strconv.Itoa4
import Derived.KernelRfl
import Derived.Shelf.Pu.ErrVarParseUint

namespace Go.Proofs.YtikhedkhgpjaaacGreatDoor
set_option linter.unusedVariables false
namespace form
open Go.RowKit
theorem pz : (∀ (a : Act) (d : Tmp) (v : Value), a.put (some d) v = { a with tmps := a.tmps.setIfInBounds d v }) ∧ (∀ (a : Act) (v : Value), a.put none v = a) ∧ (∀ (l : List Value) (i : Nat) (v : Value), l.toArray.setIfInBounds i v = (l.set i v).toArray) ∧ (∀ (x v : Value) (l : List Value), (x :: l).set 0 v = v :: l) ∧ (∀ (x v : Value) (l : List Value) (n : Nat), (x :: l).set (n + 1) v = x :: l.set n v) :=
  ⟨fun _ _ _ => rfl, fun _ _ => rfl, fun _ _ _ => List.setIfInBounds_toArray .., fun _ _ _ => rfl, fun _ _ _ _ => rfl⟩
theorem step_below {w a b : World} (hb : Below a.heap.size a b) (h : Below w.heap.size w a) : Below w.heap.size w b := h.trans (hb.mono h.size)
theorem step_cell {a b : World} (hb : Below a.heap.size a b) {p : Addr} {v : Value} (h : a.cell? p = some v) : b.cell? p = some v := by
  have hp : p.block < a.heap.size := by
    unfold World.cell? at h
    by_cases hlt : p.block < a.heap.size
    · exact hlt
    · rw [Array.getElem?_eq_none (by omega)] at h; simp at h
  rw [hb.cell hp]; exact h
theorem over_alloc {w w1 : World} {o : Obj} (hb : Below (w.alloc o).heap.size (w.alloc o) w1) : Below w.heap.size w w1 :=
  ((Below.refl _ _).alloc (Nat.le_refl _) _).trans (hb.mono (by simp))
structure LIns where
  op : Int
  dest : Int
  a : Int
  b : Int
  c : Int
  n : Int
def LIns.zero : LIns := ⟨0, 0, 0, 0, 0, 0⟩
def LIns.val (i : LIns) : Value := .agg #[.int .i64 i.op, .int .i64 i.dest, .int .i64 i.a, .int .i64 i.b, .int .i64 i.c, .int .u32 i.n]
def progV (b0 o0 n0 c0 b1 o1 n1 c1 : Nat) : Value := .agg #[.slice (some ⟨b0, o0, none⟩) n0 c0, .slice (some ⟨b1, o1, none⟩) n1 c1]
structure Held (w : World) (b0 o0 b1 o1 : Nat) (B : List Bool) (C : List LIns) : Prop where
  lt0 : b0 < w.heap.size
  lt1 : b1 < w.heap.size
  wide : ∀ i, i < B.length → w.cell? ⟨b0, o0 + i, none⟩ = some (.bool (B.getD i false))
  code : ∀ i, i < C.length → w.cell? ⟨b1, o1 + i * 6, none⟩ = some (.int .i64 (C.getD i .zero).op) ∧ w.cell? ⟨b1, o1 + i * 6 + 1, none⟩ = some (.int .i64 (C.getD i .zero).dest) ∧
    w.cell? ⟨b1, o1 + i * 6 + 2, none⟩ = some (.int .i64 (C.getD i .zero).a) ∧ w.cell? ⟨b1, o1 + i * 6 + 3, none⟩ = some (.int .i64 (C.getD i .zero).b) ∧
    w.cell? ⟨b1, o1 + i * 6 + 4, none⟩ = some (.int .i64 (C.getD i .zero).c) ∧ w.cell? ⟨b1, o1 + i * 6 + 5, none⟩ = some (.int .u32 (C.getD i .zero).n)
theorem Held.later {w w' : World} {b0 o0 b1 o1 : Nat} {B : List Bool} {C : List LIns} (h : Held w b0 o0 b1 o1 B C) (hb : Below w.heap.size w w') : Held w' b0 o0 b1 o1 B C := by
  refine ⟨Nat.lt_of_lt_of_le h.lt0 hb.size, Nat.lt_of_lt_of_le h.lt1 hb.size, fun i hi => ?_, fun i hi => ?_⟩
  · rw [hb.cell (p := ⟨b0, o0 + i, none⟩) h.lt0]; exact h.wide i hi
  · obtain ⟨c0, c1, c2, c3, c4, c5⟩ := h.code i hi
    refine ⟨?_, ?_, ?_, ?_, ?_, ?_⟩
    · rw [hb.cell (p := ⟨b1, _, none⟩) h.lt1]; exact c0
    · rw [hb.cell (p := ⟨b1, _, none⟩) h.lt1]; exact c1
    · rw [hb.cell (p := ⟨b1, _, none⟩) h.lt1]; exact c2
    · rw [hb.cell (p := ⟨b1, _, none⟩) h.lt1]; exact c3
    · rw [hb.cell (p := ⟨b1, _, none⟩) h.lt1]; exact c4
    · rw [hb.cell (p := ⟨b1, _, none⟩) h.lt1]; exact c5
theorem Held.alloc {w : World} {b0 o0 b1 o1 : Nat} {B : List Bool} {C : List LIns} (h : Held w b0 o0 b1 o1 B C) (o : Obj) : Held (w.alloc o) b0 o0 b1 o1 B C :=
  h.later ((Below.refl _ _).alloc (Nat.le_refl _) _)
structure ProgIs (w : World) (v : Value) (B : List Bool) (C : List LIns) : Prop where
  val : ∃ a0 c0 a1 c1, v = .agg #[.slice a0 B.length c0, .slice a1 C.length c1] ∧ (1 ≤ B.length → 1 ≤ C.length → ∃ b0 o0 b1 o1, a0 = some ⟨b0, o0, none⟩ ∧ a1 = some ⟨b1, o1, none⟩ ∧ Held w b0 o0 b1 o1 B C)
  lenB : B.length ≤ 9223372036854775807
  lenC : C.length ≤ 9223372036854775807
  num : ∀ i, i < C.length → 0 ≤ (C.getD i .zero).n ∧ (C.getD i .zero).n < 4294967296
theorem ProgIs.later {w w' : World} {v : Value} {B : List Bool} {C : List LIns} (h : ProgIs w v B C) (hb : Below w.heap.size w w') : ProgIs w' v B C := by
  obtain ⟨⟨a0, c0, a1, c1, hv, hh⟩, h1, h2, h3⟩ := h
  refine ⟨⟨a0, c0, a1, c1, hv, fun k0 k1 => ?_⟩, h1, h2, h3⟩
  obtain ⟨b0, o0, b1, o1, e0, e1, hH⟩ := hh k0 k1
  exact ⟨b0, o0, b1, o1, e0, e1, hH.later hb⟩
def sizesB (B : List Bool) (C : List LIns) : Bool := decide (1 ≤ B.length) && decide (B.length ≤ 12) && decide (1 ≤ C.length) && decide (C.length ≤ 40)
theorem sizes_of {B : List Bool} {C : List LIns} (h : sizesB B C = true) : 1 ≤ B.length ∧ B.length ≤ 12 ∧ 1 ≤ C.length ∧ C.length ≤ 40 := by
  unfold sizesB at h; simp at h; omega
end form
/- The library's contracts (strings.Cut, strings.Builder, strconv.FormatInt) at this program's numbers. -/
namespace form
open Go.Shelf Go.RowKit
set_option maxRecDepth 100000
def renN : Ren := ⟨fun | 129 => 151 | 166 => 6 | 167 => 9 | 169 => 10 | 173 => 50 | 217 => 43 | 219 => 25 | 224 => 45 | 225 => 44 | 240 => 12 | 246 => 83 | 266 => 78 | 267 => 46 | 276 => 26 | 283 => 123 | 284 => 124 | 285 => 125 | 286 => 126 | 314 => 79 | 317 => 150 | 318 => 152 | 319 => 153 | 320 => 154 | 337 => 166 | 338 => 167 | n => n,
  fun | 0 => 0 | 2 => 2 | 3 => 3 | 4 => 4 | 5 => 5 | 9 => 9 | 20 => 20 | 37 => 32 | 46 => 109 | 51 => 60 | 53 => 83 | 70 => 31 | 72 => 34 | 75 => 38 | 80 => 45 | 127 => 66 | 146 => 150 | 164 => 68 | 171 => 191 | 173 => 194 | 212 => 217 | 213 => 218 | 232 => 237 | 233 => 238 | n => n,
  fun | 1 => 0 | 17 => 3 | 18 => 4 | 19 => 5 | n => n⟩
theorem laysIndex : Lays.n219 Tryz.prog renN where
  mixed := by kernel_rfl
  f217 := Tryz.func43.trans (congrArg some (by kernel_rfl))
  f219 := Tryz.func25.trans (congrArg some (by kernel_rfl))
  f224 := Tryz.func45.trans (congrArg some (by kernel_rfl))
  f225 := Tryz.func44.trans (congrArg some (by kernel_rfl))
  f266 := Tryz.func78.trans (congrArg some (by kernel_rfl))
  f267 := Tryz.func46.trans (congrArg some (by kernel_rfl))
  f314 := Tryz.func79.trans (congrArg some (by kernel_rfl))
  t3 := by kernel_rfl
  a3 := fun _ => by kernel_rfl
  z3 := fun _ => by kernel_rfl
  v3 := fun _ => by kernel_rfl
  t4 := by kernel_rfl
  a4 := fun _ => by kernel_rfl
  z4 := fun _ => by kernel_rfl
  v4 := fun _ => by kernel_rfl
  t5 := by kernel_rfl
  a5 := fun _ => by kernel_rfl
  z5 := fun _ => by kernel_rfl
  v5 := fun _ => by kernel_rfl
  t9 := by kernel_rfl
  a9 := fun _ => by kernel_rfl
  z9 := fun _ => by kernel_rfl
  v9 := fun _ => by kernel_rfl
  t46 := by kernel_rfl
  a46 := fun _ => by kernel_rfl
  z46 := fun _ => by kernel_rfl
  v46 := fun _ => by kernel_rfl
  t51 := by kernel_rfl
  a51 := fun _ => by kernel_rfl
  z51 := fun _ => by kernel_rfl
  v51 := fun _ => by kernel_rfl
  t146 := by kernel_rfl
  a146 := fun _ => by kernel_rfl
  z146 := fun _ => by kernel_rfl
  v146 := fun _ => by kernel_rfl
  g1 := by kernel_rfl
theorem laysWriteS : Lays.n166 Tryz.prog renN where
  mixed := by kernel_rfl
  f166 := Tryz.func6.trans (congrArg some (by kernel_rfl))
  f240 := Tryz.func12.trans (congrArg some (by kernel_rfl))
  f276 := Tryz.func26.trans (congrArg some (by kernel_rfl))
  t0 := by kernel_rfl
  a0 := fun _ => by kernel_rfl
  z0 := fun _ => by kernel_rfl
  v0 := fun _ => by kernel_rfl
  t3 := by kernel_rfl
  a3 := fun _ => by kernel_rfl
  z3 := fun _ => by kernel_rfl
  v3 := fun _ => by kernel_rfl
  t4 := by kernel_rfl
  a4 := fun _ => by kernel_rfl
  z4 := fun _ => by kernel_rfl
  v4 := fun _ => by kernel_rfl
  t9 := by kernel_rfl
  a9 := fun _ => by kernel_rfl
  z9 := fun _ => by kernel_rfl
  v9 := fun _ => by kernel_rfl
  t20 := by kernel_rfl
  a20 := fun _ => by kernel_rfl
  z20 := fun _ => by kernel_rfl
  v20 := fun _ => by kernel_rfl
  t37 := by kernel_rfl
  a37 := fun _ => by kernel_rfl
  z37 := fun _ => by kernel_rfl
  v37 := fun _ => by kernel_rfl
  t70 := by kernel_rfl
  a70 := fun _ => by kernel_rfl
  z70 := fun _ => by kernel_rfl
  v70 := fun _ => by kernel_rfl
  t72 := by kernel_rfl
  a72 := fun _ => by kernel_rfl
  z72 := fun _ => by kernel_rfl
  v72 := fun _ => by kernel_rfl
  t75 := by kernel_rfl
  a75 := fun _ => by kernel_rfl
  z75 := fun _ => by kernel_rfl
  v75 := fun _ => by kernel_rfl
  t164 := by kernel_rfl
  a164 := fun _ => by kernel_rfl
  z164 := fun _ => by kernel_rfl
  v164 := fun _ => by kernel_rfl
theorem laysWriteB : Lays.n167 Tryz.prog renN where
  mixed := by kernel_rfl
  f167 := Tryz.func9.trans (congrArg some (by kernel_rfl))
  f240 := Tryz.func12.trans (congrArg some (by kernel_rfl))
  f276 := Tryz.func26.trans (congrArg some (by kernel_rfl))
  t0 := by kernel_rfl
  a0 := fun _ => by kernel_rfl
  z0 := fun _ => by kernel_rfl
  v0 := fun _ => by kernel_rfl
  t4 := by kernel_rfl
  a4 := fun _ => by kernel_rfl
  z4 := fun _ => by kernel_rfl
  v4 := fun _ => by kernel_rfl
  t5 := by kernel_rfl
  a5 := fun _ => by kernel_rfl
  z5 := fun _ => by kernel_rfl
  v5 := fun _ => by kernel_rfl
  t9 := by kernel_rfl
  a9 := fun _ => by kernel_rfl
  z9 := fun _ => by kernel_rfl
  v9 := fun _ => by kernel_rfl
  t20 := by kernel_rfl
  a20 := fun _ => by kernel_rfl
  z20 := fun _ => by kernel_rfl
  v20 := fun _ => by kernel_rfl
  t37 := by kernel_rfl
  a37 := fun _ => by kernel_rfl
  z37 := fun _ => by kernel_rfl
  v37 := fun _ => by kernel_rfl
  t70 := by kernel_rfl
  a70 := fun _ => by kernel_rfl
  z70 := fun _ => by kernel_rfl
  v70 := fun _ => by kernel_rfl
  t72 := by kernel_rfl
  a72 := fun _ => by kernel_rfl
  z72 := fun _ => by kernel_rfl
  v72 := fun _ => by kernel_rfl
  t75 := by kernel_rfl
  a75 := fun _ => by kernel_rfl
  z75 := fun _ => by kernel_rfl
  v75 := fun _ => by kernel_rfl
  t164 := by kernel_rfl
  a164 := fun _ => by kernel_rfl
  z164 := fun _ => by kernel_rfl
  v164 := fun _ => by kernel_rfl
theorem laysString : Lays.n169 Tryz.prog renN where
  mixed := by kernel_rfl
  f169 := Tryz.func10.trans (congrArg some (by kernel_rfl))
  t0 := by kernel_rfl
  a0 := fun _ => by kernel_rfl
  z0 := fun _ => by kernel_rfl
  v0 := fun _ => by kernel_rfl
  t3 := by kernel_rfl
  a3 := fun _ => by kernel_rfl
  z3 := fun _ => by kernel_rfl
  v3 := fun _ => by kernel_rfl
  t9 := by kernel_rfl
  a9 := fun _ => by kernel_rfl
  z9 := fun _ => by kernel_rfl
  v9 := fun _ => by kernel_rfl
  t37 := by kernel_rfl
  a37 := fun _ => by kernel_rfl
  z37 := fun _ => by kernel_rfl
  v37 := fun _ => by kernel_rfl
  t70 := by kernel_rfl
  a70 := fun _ => by kernel_rfl
  z70 := fun _ => by kernel_rfl
  v70 := fun _ => by kernel_rfl
  t72 := by kernel_rfl
  a72 := fun _ => by kernel_rfl
  z72 := fun _ => by kernel_rfl
  v72 := fun _ => by kernel_rfl
  t127 := by kernel_rfl
  a127 := fun _ => by kernel_rfl
  z127 := fun _ => by kernel_rfl
  v127 := fun _ => by kernel_rfl
theorem laysExtra : Builder.Extra Tryz.prog renN where
  sizeBuilder := by kernel_rfl
  liesBuilder := by kernel_rfl
  t5 := by kernel_rfl
  a5 := fun _ => by kernel_rfl
  z5 := fun _ => by kernel_rfl
  v5 := fun _ => by kernel_rfl
  infoByte := by kernel_rfl
  cellsByte := by kernel_rfl
  sizeByte := by kernel_rfl
  neB5 := by decide
theorem laysFormat : LaysM.n173 Tryz.prog renN where
  mixed := by kernel_rfl
  f129 := Tryz.func151.trans (congrArg some (by kernel_rfl))
  f173 := Tryz.func50.trans (congrArg some (by kernel_rfl))
  f246 := Tryz.func83.trans (congrArg some (by kernel_rfl))
  f283 := Tryz.func123.trans (congrArg some (by kernel_rfl))
  f284 := Tryz.func124.trans (congrArg some (by kernel_rfl))
  f285 := Tryz.func125.trans (congrArg some (by kernel_rfl))
  f286 := Tryz.func126.trans (congrArg some (by kernel_rfl))
  f317 := Tryz.func150.trans (congrArg some (by kernel_rfl))
  f318 := Tryz.func152.trans (congrArg some (by kernel_rfl))
  f319 := Tryz.func153.trans (congrArg some (by kernel_rfl))
  f320 := Tryz.func154.trans (congrArg some (by kernel_rfl))
  f337 := Tryz.func166.trans (congrArg some (by kernel_rfl))
  f338 := Tryz.func167.trans (congrArg some (by kernel_rfl))
  t0 := by kernel_rfl
  a0 := fun _ => by kernel_rfl
  z0 := fun _ => by kernel_rfl
  v0 := fun _ => by kernel_rfl
  t2 := by kernel_rfl
  a2 := fun _ => by kernel_rfl
  z2 := fun _ => by kernel_rfl
  v2 := fun _ => by kernel_rfl
  t3 := by kernel_rfl
  a3 := fun _ => by kernel_rfl
  z3 := fun _ => by kernel_rfl
  v3 := fun _ => by kernel_rfl
  t4 := by kernel_rfl
  a4 := fun _ => by kernel_rfl
  z4 := fun _ => by kernel_rfl
  v4 := fun _ => by kernel_rfl
  t5 := by kernel_rfl
  a5 := fun _ => by kernel_rfl
  z5 := fun _ => by kernel_rfl
  v5 := fun _ => by kernel_rfl
  t9 := by kernel_rfl
  a9 := fun _ => by kernel_rfl
  z9 := fun _ => by kernel_rfl
  v9 := fun _ => by kernel_rfl
  t20 := by kernel_rfl
  a20 := fun _ => by kernel_rfl
  z20 := fun _ => by kernel_rfl
  v20 := fun _ => by kernel_rfl
  t37 := by kernel_rfl
  a37 := fun _ => by kernel_rfl
  z37 := fun _ => by kernel_rfl
  v37 := fun _ => by kernel_rfl
  t46 := by kernel_rfl
  a46 := fun _ => by kernel_rfl
  z46 := fun _ => by kernel_rfl
  v46 := fun _ => by kernel_rfl
  t51 := by kernel_rfl
  a51 := fun _ => by kernel_rfl
  z51 := fun _ => by kernel_rfl
  v51 := fun _ => by kernel_rfl
  t53 := by kernel_rfl
  a53 := fun _ => by kernel_rfl
  z53 := fun _ => by kernel_rfl
  v53 := fun _ => by kernel_rfl
  t171 := by kernel_rfl
  a171 := fun _ => by kernel_rfl
  z171 := fun _ => by kernel_rfl
  v171 := fun _ => by kernel_rfl
  t173 := by kernel_rfl
  a173 := fun _ => by kernel_rfl
  z173 := fun _ => by kernel_rfl
  v173 := fun _ => by kernel_rfl
  t212 := by kernel_rfl
  a212 := fun _ => by kernel_rfl
  z212 := fun _ => by kernel_rfl
  v212 := fun _ => by kernel_rfl
  t213 := by kernel_rfl
  a213 := fun _ => by kernel_rfl
  z213 := fun _ => by kernel_rfl
  t232 := by kernel_rfl
  a232 := fun _ => by kernel_rfl
  z232 := fun _ => by kernel_rfl
  v232 := fun _ => by kernel_rfl
  t233 := by kernel_rfl
  a233 := fun _ => by kernel_rfl
  z233 := fun _ => by kernel_rfl
  v233 := fun _ => by kernel_rfl
  g17 := by kernel_rfl
  g18 := by kernel_rfl
  g19 := by kernel_rfl
  i0 := by kernel_rfl
  i2 := by kernel_rfl
  i3 := by kernel_rfl
  i4 := by kernel_rfl
  i5 := by kernel_rfl
  i9 := by kernel_rfl
  i20 := by kernel_rfl
  i37 := by kernel_rfl
  i46 := by kernel_rfl
  i51 := by kernel_rfl
  i53 := by kernel_rfl
  i171 := by kernel_rfl
  i173 := by kernel_rfl
  i212 := by kernel_rfl
  i232 := by kernel_rfl
  i233 := by kernel_rfl
  m17 := by kernel_rfl
  m18 := by kernel_rfl
  m19 := by kernel_rfl
end form
/- strconv.ParseUint's contract at this program's numbers. -/
namespace form
open Go.Shelf Go.RowKit
set_option maxRecDepth 100000
def renP : Ren := ⟨fun | 14 => 48 | 16 => 80 | 17 => 81 | 19 => 117 | 20 => 118 | 21 => 119 | 22 => 120 | 23 => 121 | 24 => 122 | 25 => 147 | 26 => 148 | 27 => 149 | 28 => 165 | 29 => 83 | 30 => 123 | 31 => 124 | 32 => 125 | 33 => 126 | 34 => 150 | 35 => 151 | 36 => 152 | 37 => 153 | 38 => 154 | 39 => 166 | 40 => 167 | n => n,
  fun | 0 => 0 | 2 => 2 | 3 => 3 | 4 => 4 | 5 => 5 | 9 => 9 | 20 => 20 | 21 => 21 | 22 => 83 | 24 => 38 | 25 => 111 | 34 => 184 | 36 => 109 | 37 => 32 | 39 => 187 | 44 => 214 | 47 => 66 | 48 => 232 | 50 => 234 | 52 => 191 | 55 => 194 | 59 => 217 | 60 => 60 | 61 => 218 | 65 => 237 | 66 => 238 | 67 => 45 | n => n,
  fun | 0 => 1 | 1 => 2 | 2 => 3 | 3 => 4 | 4 => 5 | n => n⟩
theorem laysParse : LaysPu.n14 Tryz.prog renP where
  mixed := by kernel_rfl
  f14 := Tryz.func48.trans (congrArg some (by kernel_rfl))
  f16 := Tryz.func80.trans (congrArg some (by kernel_rfl))
  f17 := Tryz.func81.trans (congrArg some (by kernel_rfl))
  f19 := Tryz.func117.trans (congrArg some (by kernel_rfl))
  f20 := Tryz.func118.trans (congrArg some (by kernel_rfl))
  f21 := Tryz.func119.trans (congrArg some (by kernel_rfl))
  f22 := Tryz.func120.trans (congrArg some (by kernel_rfl))
  f23 := Tryz.func121.trans (congrArg some (by kernel_rfl))
  f24 := Tryz.func122.trans (congrArg some (by kernel_rfl))
  f25 := Tryz.func147.trans (congrArg some (by kernel_rfl))
  f26 := Tryz.func148.trans (congrArg some (by kernel_rfl))
  f27 := Tryz.func149.trans (congrArg some (by kernel_rfl))
  f28 := Tryz.func165.trans (congrArg some (by kernel_rfl))
  f29 := Tryz.func83.trans (congrArg some (by kernel_rfl))
  f30 := Tryz.func123.trans (congrArg some (by kernel_rfl))
  f31 := Tryz.func124.trans (congrArg some (by kernel_rfl))
  f32 := Tryz.func125.trans (congrArg some (by kernel_rfl))
  f33 := Tryz.func126.trans (congrArg some (by kernel_rfl))
  f34 := Tryz.func150.trans (congrArg some (by kernel_rfl))
  f35 := Tryz.func151.trans (congrArg some (by kernel_rfl))
  f36 := Tryz.func152.trans (congrArg some (by kernel_rfl))
  f37 := Tryz.func153.trans (congrArg some (by kernel_rfl))
  f38 := Tryz.func154.trans (congrArg some (by kernel_rfl))
  f39 := Tryz.func166.trans (congrArg some (by kernel_rfl))
  f40 := Tryz.func167.trans (congrArg some (by kernel_rfl))
  t0 := by kernel_rfl
  a0 := fun _ => by kernel_rfl
  z0 := fun _ => by kernel_rfl
  v0 := fun _ => by kernel_rfl
  i0 := by kernel_rfl
  t2 := by kernel_rfl
  a2 := fun _ => by kernel_rfl
  z2 := fun _ => by kernel_rfl
  v2 := fun _ => by kernel_rfl
  i2 := by kernel_rfl
  t3 := by kernel_rfl
  a3 := fun _ => by kernel_rfl
  z3 := fun _ => by kernel_rfl
  v3 := fun _ => by kernel_rfl
  i3 := by kernel_rfl
  t4 := by kernel_rfl
  a4 := fun _ => by kernel_rfl
  z4 := fun _ => by kernel_rfl
  v4 := fun _ => by kernel_rfl
  i4 := by kernel_rfl
  t5 := by kernel_rfl
  a5 := fun _ => by kernel_rfl
  z5 := fun _ => by kernel_rfl
  v5 := fun _ => by kernel_rfl
  i5 := by kernel_rfl
  t9 := by kernel_rfl
  a9 := fun _ => by kernel_rfl
  z9 := fun _ => by kernel_rfl
  v9 := fun _ => by kernel_rfl
  i9 := by kernel_rfl
  t20 := by kernel_rfl
  a20 := fun _ => by kernel_rfl
  z20 := fun _ => by kernel_rfl
  v20 := fun _ => by kernel_rfl
  i20 := by kernel_rfl
  t21 := by kernel_rfl
  a21 := fun _ => by kernel_rfl
  z21 := fun _ => by kernel_rfl
  v21 := fun _ => by kernel_rfl
  i21 := by kernel_rfl
  t22 := by kernel_rfl
  a22 := fun _ => by kernel_rfl
  z22 := fun _ => by kernel_rfl
  v22 := fun _ => by kernel_rfl
  i22 := by kernel_rfl
  t24 := by kernel_rfl
  a24 := fun _ => by kernel_rfl
  z24 := fun _ => by kernel_rfl
  v24 := fun _ => by kernel_rfl
  i24 := by kernel_rfl
  t25 := by kernel_rfl
  a25 := fun _ => by kernel_rfl
  z25 := fun _ => by kernel_rfl
  v25 := fun _ => by kernel_rfl
  i25 := by kernel_rfl
  t34 := by kernel_rfl
  a34 := fun _ => by kernel_rfl
  z34 := fun _ => by kernel_rfl
  v34 := fun _ => by kernel_rfl
  i34 := by kernel_rfl
  c34 := by kernel_rfl
  t36 := by kernel_rfl
  a36 := fun _ => by kernel_rfl
  z36 := fun _ => by kernel_rfl
  v36 := fun _ => by kernel_rfl
  i36 := by kernel_rfl
  t37 := by kernel_rfl
  a37 := fun _ => by kernel_rfl
  z37 := fun _ => by kernel_rfl
  v37 := fun _ => by kernel_rfl
  i37 := by kernel_rfl
  t39 := by kernel_rfl
  a39 := fun _ => by kernel_rfl
  z39 := fun _ => by kernel_rfl
  v39 := fun _ => by kernel_rfl
  i39 := by kernel_rfl
  t44 := by kernel_rfl
  a44 := fun _ => by kernel_rfl
  z44 := fun _ => by kernel_rfl
  v44 := fun _ => by kernel_rfl
  i44 := by kernel_rfl
  t47 := by kernel_rfl
  a47 := fun _ => by kernel_rfl
  z47 := fun _ => by kernel_rfl
  v47 := fun _ => by kernel_rfl
  i47 := by kernel_rfl
  t48 := by kernel_rfl
  a48 := fun _ => by kernel_rfl
  z48 := fun _ => by kernel_rfl
  v48 := fun _ => by kernel_rfl
  i48 := by kernel_rfl
  t50 := by kernel_rfl
  a50 := fun _ => by kernel_rfl
  z50 := fun _ => by kernel_rfl
  v50 := fun _ => by kernel_rfl
  i50 := by kernel_rfl
  t52 := by kernel_rfl
  a52 := fun _ => by kernel_rfl
  z52 := fun _ => by kernel_rfl
  v52 := fun _ => by kernel_rfl
  i52 := by kernel_rfl
  t55 := by kernel_rfl
  a55 := fun _ => by kernel_rfl
  z55 := fun _ => by kernel_rfl
  v55 := fun _ => by kernel_rfl
  i55 := by kernel_rfl
  t59 := by kernel_rfl
  a59 := fun _ => by kernel_rfl
  z59 := fun _ => by kernel_rfl
  v59 := fun _ => by kernel_rfl
  i59 := by kernel_rfl
  t60 := by kernel_rfl
  a60 := fun _ => by kernel_rfl
  z60 := fun _ => by kernel_rfl
  v60 := fun _ => by kernel_rfl
  i60 := by kernel_rfl
  t61 := by kernel_rfl
  a61 := fun _ => by kernel_rfl
  z61 := fun _ => by kernel_rfl
  t65 := by kernel_rfl
  a65 := fun _ => by kernel_rfl
  z65 := fun _ => by kernel_rfl
  v65 := fun _ => by kernel_rfl
  i65 := by kernel_rfl
  t66 := by kernel_rfl
  a66 := fun _ => by kernel_rfl
  z66 := fun _ => by kernel_rfl
  v66 := fun _ => by kernel_rfl
  i66 := by kernel_rfl
  t67 := by kernel_rfl
  a67 := fun _ => by kernel_rfl
  z67 := fun _ => by kernel_rfl
  v67 := fun _ => by kernel_rfl
  i67 := by kernel_rfl
  g0 := by kernel_rfl
  m0 := by kernel_rfl
  g1 := by kernel_rfl
  m1 := by kernel_rfl
  g2 := by kernel_rfl
  m2 := by kernel_rfl
  g3 := by kernel_rfl
  m3 := by kernel_rfl
  g4 := by kernel_rfl
  m4 := by kernel_rfl
end form
/- Scripts on plain bytes: what chapter 12 says, out of what the layers answer. -/
namespace form
open Go.RowKit
def stepS (by' : UInt8) (acc : List (List UInt8) × List UInt8) (c : UInt8) : List (List UInt8) × List UInt8 := if c = by' then (acc.1 ++ [acc.2], []) else (acc.1, acc.2 ++ [c])
def splitA (by' : UInt8) (s : List UInt8) : List (List UInt8) × List UInt8 := s.foldl (stepS by') ([], [])
def splitL (by' : UInt8) (s : List UInt8) : List (List UInt8) := (splitA by' s).1 ++ [(splitA by' s).2]
theorem splitA_nil (b : UInt8) : splitA b [] = ([], []) := rfl
theorem splitA_snoc (b : UInt8) (s : List UInt8) (c : UInt8) : splitA b (s ++ [c]) = stepS b (splitA b s) c := by simp [splitA]
theorem splitA_append (b : UInt8) (s t : List UInt8) : ∀ acc, (s ++ t).foldl (stepS b) acc = t.foldl (stepS b) (s.foldl (stepS b) acc) := fun acc => by simp
theorem step_more (b : UInt8) : ∀ (t : List UInt8) (p : List (List UInt8)) (c : List UInt8), t.foldl (stepS b) (p, c) = (p ++ (t.foldl (stepS b) ([], c)).1, (t.foldl (stepS b) ([], c)).2)
  | [], p, c => by simp
  | x :: t, p, c => by
    simp only [List.foldl_cons]
    by_cases h : x = b
    · have e1 : stepS b (p, c) x = (p ++ [c], []) := by unfold stepS; rw [if_pos h]
      have e2 : stepS b ([], c) x = ([c], []) := by unfold stepS; rw [if_pos h]; rfl
      rw [e1, e2, step_more b t (p ++ [c]) [], step_more b t [c] []]
      simp
    · have e1 : stepS b (p, c) x = (p, c ++ [x]) := by unfold stepS; rw [if_neg h]
      have e2 : stepS b ([], c) x = ([], c ++ [x]) := by unfold stepS; rw [if_neg h]
      rw [e1, e2, step_more b t p (c ++ [x])]
theorem splitA_len (b : UInt8) (s : List UInt8) : (splitA b s).1.length ≤ s.length ∧ (splitA b s).2.length ≤ s.length := by
  have key : ∀ (s : List UInt8) (acc : List (List UInt8) × List UInt8), (s.foldl (stepS b) acc).1.length ≤ acc.1.length + s.length ∧ (s.foldl (stepS b) acc).2.length ≤ acc.2.length + s.length := by
    intro s
    induction s with
    | nil => intro acc; simp
    | cons x s ih =>
      intro acc
      rw [List.foldl_cons]
      have h := ih (stepS b acc x)
      have h2 : (stepS b acc x).1.length ≤ acc.1.length + 1 ∧ (stepS b acc x).2.length ≤ acc.2.length + 1 := by
        unfold stepS
        split <;> simp
      simp only [List.length_cons]
      omega
  have := key s ([], [])
  simpa [splitA] using this
theorem splitL_len (b : UInt8) (s : List UInt8) : (splitL b s).length ≤ s.length + 1 := by
  unfold splitL
  have := (splitA_len b s).1
  simp
  exact this
theorem splitL_pos (b : UInt8) (s : List UInt8) : 0 < (splitL b s).length := by
  unfold splitL
  simp
def digitsL (n : Nat) : List UInt8 := if h : n < 10 then [UInt8.ofNat (48 + n % 10)] else digitsL (n / 10) ++ [UInt8.ofNat (48 + n % 10)]
  termination_by n
  decreasing_by omega
theorem digitsL_len : ∀ (d n : Nat), n < 10 ^ (d + 1) → (digitsL n).length ≤ d + 1
  | 0, n, h => by
    rw [digitsL]
    have : n < 10 := by simpa using h
    rw [dif_pos this]
    simp
  | d + 1, n, h => by
    rw [digitsL]
    split
    · simp
    · have h1 : n / 10 < 10 ^ (d + 1) := by
        rw [Nat.div_lt_iff_lt_mul (by omega)]
        rw [Nat.pow_succ] at h
        exact h
      have := digitsL_len d (n / 10) h1
      simp
      exact this
theorem digits_small {n : Nat} (h : n < 18446744073709551616) : (digitsL n).length ≤ 20 := digitsL_len 19 n (by omega)
def saidL (w : List UInt8) (l : List Nat) : List UInt8 := l.foldl (fun w x => (w ++ [32]) ++ digitsL x) w
theorem saidL_len (w : List UInt8) : ∀ (l : List Nat), (∀ x, x ∈ l → x < 18446744073709551616) → (saidL w l).length ≤ w.length + 21 * l.length := by
  intro l
  unfold saidL
  induction l generalizing w with
  | nil => intro _; simp
  | cons x l ih =>
    intro h
    rw [List.foldl_cons]
    have h1 := ih ((w ++ [32]) ++ digitsL x) (fun y hy => h y (by simp [hy]))
    have h2 := digits_small (h x (by simp))
    simp only [List.length_append, List.length_cons, List.length_nil] at h1 ⊢
    omega
def valL (s : List UInt8) : Nat := s.foldl (fun n c => 10 * n + (c.toNat - 48)) 0
def digB (c : UInt8) : Bool := decide (48 ≤ c.toNat ∧ c.toNat ≤ 57)
def numB (s : List UInt8) : Bool := decide (1 ≤ s.length) && decide (s.length ≤ 10) && !(decide (s.getD 0 0 = 48) && decide (1 < s.length)) && s.all digB && decide (valL s < 4294967296)
def numL (s : List UInt8) : Option Nat := if numB s = true then some (valL s) else none
theorem valL_snoc (s : List UInt8) (c : UInt8) : valL (s ++ [c]) = 10 * valL s + (c.toNat - 48) := by simp [valL]
structure PL where
  wide : List Bool
  code : List LIns
  ins : List Int
structure RunR where
  err : Int
  state : Int
  out : List Int
  steps : Int
structure Lay where
  run : List Bool → List LIns → List Int → Int → RunR
  on : List Bool → List LIns → Int → List Int → Int → RunR
  near : List Bool → List LIns → Int × Nat
  bytes : List Bool → List LIns → Int → Int × Nat
def sBad : List UInt8 := [98, 97, 100]
def sOk : List UInt8 := [111, 107]
def sNo : List UInt8 := [63]
def sNarrow : List UInt8 := [110, 97, 114, 114, 111, 119]
def sWide : List UInt8 := [119, 105, 100, 101]
def sNear : List UInt8 := [110, 101, 97, 114]
def sCode : List UInt8 := [99, 111, 100, 101]
def sIns : List UInt8 := [105, 110, 115]
def sRun : List UInt8 := [114, 117, 110]
def sOn : List UInt8 := [111, 110]
def sBytes : List UInt8 := [98, 121, 116, 101, 115]
def shownL (r : RunR) : List UInt8 := if r.err = 0 then saidL (saidL (digitsL r.state.toNat) [r.steps.toNat]) (r.out.map Int.toNat) else saidL sBad [r.err.toNat]
def numsOf : List (List UInt8) → Option (List Nat)
  | [] => some []
  | p :: ps => match numL p, numsOf ps with
    | some x, some l => some (x :: l)
    | _, _ => none
def countL (r : Int × Nat) : List UInt8 := if r.1 = 0 then digitsL r.2 else saidL sBad [r.1.toNat]
def wordL (L : Lay) (g : PL) (s : List UInt8) (l : List Nat) : PL × List UInt8 :=
  if s = sNarrow ∨ s = sWide then
    if 12 ≤ g.wide.length then (g, sNo) else (⟨g.wide ++ [decide (s = sWide)], g.code, g.ins⟩, saidL sOk [g.wide.length + 1])
  else if s = sNear then (g, countL (L.near g.wide g.code))
  else
    let w := (splitL 32 s).getD 0 []
    if w = sCode then
      if l.length = 6 ∧ g.code.length < 40 then (⟨g.wide, g.code ++ [⟨(l.getD 0 0 : Nat), (l.getD 1 0 : Nat), (l.getD 2 0 : Nat), (l.getD 3 0 : Nat), (l.getD 4 0 : Nat), (l.getD 5 0 : Nat)⟩], g.ins⟩, saidL sOk [g.code.length + 1]) else (g, sNo)
    else if w = sIns then (⟨g.wide, g.code, l.map (fun x : Nat => (x : Int))⟩, saidL sOk [l.length])
    else if w = sRun then if l.length = 1 then (g, shownL (L.run g.wide g.code g.ins (l.getD 0 0 : Nat))) else (g, sNo)
    else if w = sOn then if l.length = 2 then (g, shownL (L.on g.wide g.code (l.getD 0 0 : Nat) g.ins (l.getD 1 0 : Nat))) else (g, sNo)
    else if w = sBytes then if l.length = 1 then (g, countL (L.bytes g.wide g.code (l.getD 0 0 : Nat))) else (g, sNo)
    else (g, sNo)
def lineL (L : Lay) (g : PL) (s : List UInt8) : PL × List UInt8 :=
  match numsOf (splitL 32 s).tail with
  | none => (g, sNo)
  | some l => wordL L g s l
def linesL (s : List UInt8) : List (List UInt8) := if (splitA 10 s).2 = [] then (splitA 10 s).1 else splitL 10 s
def goL (L : Lay) (ls : List (List UInt8)) : PL × List UInt8 := ls.foldl (fun a s => ((lineL L a.1 s).1, (a.2 ++ (lineL L a.1 s).2) ++ [10])) (⟨[], [], []⟩, [])
def playL (L : Lay) (s : List UInt8) : List UInt8 := (goL L ((linesL s).take 60)).2
theorem goL_snoc (L : Lay) (ls : List (List UInt8)) (s : List UInt8) : goL L (ls ++ [s]) = ((lineL L (goL L ls).1 s).1, ((goL L ls).2 ++ (lineL L (goL L ls).1 s).2) ++ [10]) := by simp [goL]
theorem goL_more (L : Lay) (ls ms : List (List UInt8)) : ∃ t, (goL L (ls ++ ms)).2 = (goL L ls).2 ++ t := by
  unfold goL
  rw [List.foldl_append]
  generalize ls.foldl (fun a s => ((lineL L a.1 s).1, (a.2 ++ (lineL L a.1 s).2) ++ [10])) (⟨[], [], []⟩, []) = a
  induction ms generalizing a with
  | nil => exact ⟨[], by simp⟩
  | cons m ms ih =>
    obtain ⟨t, ht⟩ := ih ((lineL L a.1 m).1, (a.2 ++ (lineL L a.1 m).2) ++ [10])
    refine ⟨((lineL L a.1 m).2 ++ [10]) ++ t, ?_⟩
    rw [List.foldl_cons, ht]
    simp
theorem play_on (L : Lay) (a b : List UInt8) : ∃ t, playL L ((a ++ [10]) ++ b) = playL L (a ++ [10]) ++ t := by
  have h1 : splitA 10 (a ++ [10]) = ((splitA 10 a).1 ++ [(splitA 10 a).2], []) := by rw [splitA_snoc]; simp [stepS]
  have e1 : linesL (a ++ [10]) = (splitA 10 a).1 ++ [(splitA 10 a).2] := by
    unfold linesL
    rw [h1]
    simp
  have h2 : splitA 10 ((a ++ [10]) ++ b) = (((splitA 10 a).1 ++ [(splitA 10 a).2]) ++ (splitA 10 b).1, (splitA 10 b).2) := by
    have := splitA_append 10 (a ++ [10]) b ([], [])
    unfold splitA at h1 ⊢
    rw [this, h1, step_more]
  have e2 : ∃ ms, linesL ((a ++ [10]) ++ b) = ((splitA 10 a).1 ++ [(splitA 10 a).2]) ++ ms := by
    unfold linesL splitL
    rw [h2]
    split
    · exact ⟨_, rfl⟩
    · exact ⟨(splitA 10 b).1 ++ [(splitA 10 b).2], by simp⟩
  obtain ⟨ms, e2⟩ := e2
  unfold playL
  rw [e1, e2, List.take_append]
  exact goL_more L _ _
theorem play_no (L : Lay) : playL L sNo = [63, 10] := by
  have e : linesL sNo = [sNo] := by decide
  unfold playL
  rw [e]
  rfl
end form
end Go.Proofs.YtikhedkhgpjaaacGreatDoor
