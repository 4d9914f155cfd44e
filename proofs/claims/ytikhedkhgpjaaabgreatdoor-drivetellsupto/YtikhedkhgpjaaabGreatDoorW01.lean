/- A program (api.Prog) as it lies in memory: the wide marks, the instructions, cell by cell; it stays where the world only grows. -/
import Derived.WalkKit
import Derived.Below
import Derived.OwnWalk
import Derived.Laws.Strings
import Derived.Laws.Strings2
import Derived.Laws.Strings3
import Derived.Laws.Concat
import Derived.Laws.BytesString
import Derived.Test.YtikhedkhgpjaaabGreatDoorProg

namespace Go.Proofs.YtikhedkhgpjaaabGreatDoor
set_option linter.unusedVariables false
namespace form
open Go.RowKit
theorem pz : (∀ (a : Act) (d : Tmp) (v : Value), a.put (some d) v = { a with tmps := a.tmps.setIfInBounds d v }) ∧ (∀ (a : Act) (v : Value), a.put none v = a) ∧ (∀ (l : List Value) (i : Nat) (v : Value), l.toArray.setIfInBounds i v = (l.set i v).toArray) ∧ (∀ (x v : Value) (l : List Value), (x :: l).set 0 v = v :: l) ∧ (∀ (x v : Value) (l : List Value) (n : Nat), (x :: l).set (n + 1) v = x :: l.set n v) :=
  ⟨fun _ _ _ => rfl, fun _ _ => rfl, fun _ _ _ => List.setIfInBounds_toArray .., fun _ _ _ => rfl, fun _ _ _ _ => rfl⟩
theorem step_below {w a b : World} (hb : Below a.heap.size a b) (h : Below w.heap.size w a) : Below w.heap.size w b := h.trans (hb.mono h.size)
theorem step_cell {a b : World} (hb : Below a.heap.size a b) {p : Addr} {v : Value} (h : a.cell? p = some v) : b.cell? p = some v := by
  have hp : p.block < a.heap.size := by
    unfold World.cell? at h
    by_cases hlt : p.block < a.heap.size
    · exact hlt
    · rw [Array.getElem?_eq_none (by omega)] at h; simp at h
  rw [hb.cell hp]; exact h
theorem over_alloc {w w1 : World} {o : Obj} (hb : Below (w.alloc o).heap.size (w.alloc o) w1) : Below w.heap.size w w1 :=
  ((Below.refl _ _).alloc (Nat.le_refl _) _).trans (hb.mono (by simp))
structure LIns where
  op : Int
  dest : Int
  a : Int
  b : Int
  c : Int
  n : Int
def LIns.zero : LIns := ⟨0, 0, 0, 0, 0, 0⟩
def LIns.val (i : LIns) : Value := .agg #[.int .i64 i.op, .int .i64 i.dest, .int .i64 i.a, .int .i64 i.b, .int .i64 i.c, .int .u32 i.n]
def progV (b0 o0 n0 c0 b1 o1 n1 c1 : Nat) : Value := .agg #[.slice (some ⟨b0, o0, none⟩) n0 c0, .slice (some ⟨b1, o1, none⟩) n1 c1]
structure Held (w : World) (b0 o0 b1 o1 : Nat) (B : List Bool) (C : List LIns) : Prop where
  lt0 : b0 < w.heap.size
  lt1 : b1 < w.heap.size
  wide : ∀ i, i < B.length → w.cell? ⟨b0, o0 + i, none⟩ = some (.bool (B.getD i false))
  code : ∀ i, i < C.length → w.cell? ⟨b1, o1 + i * 6, none⟩ = some (.int .i64 (C.getD i .zero).op) ∧ w.cell? ⟨b1, o1 + i * 6 + 1, none⟩ = some (.int .i64 (C.getD i .zero).dest) ∧
    w.cell? ⟨b1, o1 + i * 6 + 2, none⟩ = some (.int .i64 (C.getD i .zero).a) ∧ w.cell? ⟨b1, o1 + i * 6 + 3, none⟩ = some (.int .i64 (C.getD i .zero).b) ∧
    w.cell? ⟨b1, o1 + i * 6 + 4, none⟩ = some (.int .i64 (C.getD i .zero).c) ∧ w.cell? ⟨b1, o1 + i * 6 + 5, none⟩ = some (.int .u32 (C.getD i .zero).n)
theorem Held.later {w w' : World} {b0 o0 b1 o1 : Nat} {B : List Bool} {C : List LIns} (h : Held w b0 o0 b1 o1 B C) (hb : Below w.heap.size w w') : Held w' b0 o0 b1 o1 B C := by
  refine ⟨Nat.lt_of_lt_of_le h.lt0 hb.size, Nat.lt_of_lt_of_le h.lt1 hb.size, fun i hi => ?_, fun i hi => ?_⟩
  · rw [hb.cell (p := ⟨b0, o0 + i, none⟩) h.lt0]; exact h.wide i hi
  · obtain ⟨c0, c1, c2, c3, c4, c5⟩ := h.code i hi
    refine ⟨?_, ?_, ?_, ?_, ?_, ?_⟩
    · rw [hb.cell (p := ⟨b1, _, none⟩) h.lt1]; exact c0
    · rw [hb.cell (p := ⟨b1, _, none⟩) h.lt1]; exact c1
    · rw [hb.cell (p := ⟨b1, _, none⟩) h.lt1]; exact c2
    · rw [hb.cell (p := ⟨b1, _, none⟩) h.lt1]; exact c3
    · rw [hb.cell (p := ⟨b1, _, none⟩) h.lt1]; exact c4
    · rw [hb.cell (p := ⟨b1, _, none⟩) h.lt1]; exact c5
theorem Held.alloc {w : World} {b0 o0 b1 o1 : Nat} {B : List Bool} {C : List LIns} (h : Held w b0 o0 b1 o1 B C) (o : Obj) : Held (w.alloc o) b0 o0 b1 o1 B C :=
  h.later ((Below.refl _ _).alloc (Nat.le_refl _) _)
structure ProgIs (w : World) (v : Value) (B : List Bool) (C : List LIns) : Prop where
  val : ∃ a0 c0 a1 c1, v = .agg #[.slice a0 B.length c0, .slice a1 C.length c1] ∧ (1 ≤ B.length → 1 ≤ C.length → ∃ b0 o0 b1 o1, a0 = some ⟨b0, o0, none⟩ ∧ a1 = some ⟨b1, o1, none⟩ ∧ Held w b0 o0 b1 o1 B C)
  lenB : B.length ≤ 9223372036854775807
  lenC : C.length ≤ 9223372036854775807
  num : ∀ i, i < C.length → 0 ≤ (C.getD i .zero).n ∧ (C.getD i .zero).n < 4294967296
theorem ProgIs.later {w w' : World} {v : Value} {B : List Bool} {C : List LIns} (h : ProgIs w v B C) (hb : Below w.heap.size w w') : ProgIs w' v B C := by
  obtain ⟨⟨a0, c0, a1, c1, hv, hh⟩, h1, h2, h3⟩ := h
  refine ⟨⟨a0, c0, a1, c1, hv, fun k0 k1 => ?_⟩, h1, h2, h3⟩
  obtain ⟨b0, o0, b1, o1, e0, e1, hH⟩ := hh k0 k1
  exact ⟨b0, o0, b1, o1, e0, e1, hH.later hb⟩
def sizesB (B : List Bool) (C : List LIns) : Bool := decide (1 ≤ B.length) && decide (B.length ≤ 12) && decide (1 ≤ C.length) && decide (C.length ≤ 40)
theorem sizes_of {B : List Bool} {C : List LIns} (h : sizesB B C = true) : 1 ≤ B.length ∧ B.length ≤ 12 ∧ 1 ≤ C.length ∧ C.length ≤ 40 := by
  unfold sizesB at h; simp at h; omega
end form
/- Scripts on plain bytes: what chapter 12 says, out of what the layers answer. -/
namespace form
open Go.RowKit
def stepS (by' : UInt8) (acc : List (List UInt8) × List UInt8) (c : UInt8) : List (List UInt8) × List UInt8 := if c = by' then (acc.1 ++ [acc.2], []) else (acc.1, acc.2 ++ [c])
def splitA (by' : UInt8) (s : List UInt8) : List (List UInt8) × List UInt8 := s.foldl (stepS by') ([], [])
def splitL (by' : UInt8) (s : List UInt8) : List (List UInt8) := (splitA by' s).1 ++ [(splitA by' s).2]
theorem splitA_nil (b : UInt8) : splitA b [] = ([], []) := rfl
theorem splitA_snoc (b : UInt8) (s : List UInt8) (c : UInt8) : splitA b (s ++ [c]) = stepS b (splitA b s) c := by simp [splitA]
theorem step_more (b : UInt8) : ∀ (t : List UInt8) (p : List (List UInt8)) (c : List UInt8), t.foldl (stepS b) (p, c) = (p ++ (t.foldl (stepS b) ([], c)).1, (t.foldl (stepS b) ([], c)).2)
  | [], p, c => by simp
  | x :: t, p, c => by
    simp only [List.foldl_cons]
    by_cases h : x = b
    · have e1 : stepS b (p, c) x = (p ++ [c], []) := by unfold stepS; rw [if_pos h]
      have e2 : stepS b ([], c) x = ([c], []) := by unfold stepS; rw [if_pos h]; rfl
      rw [e1, e2, step_more b t (p ++ [c]) [], step_more b t [c] []]
      simp
    · have e1 : stepS b (p, c) x = (p, c ++ [x]) := by unfold stepS; rw [if_neg h]
      have e2 : stepS b ([], c) x = ([], c ++ [x]) := by unfold stepS; rw [if_neg h]
      rw [e1, e2, step_more b t p (c ++ [x])]
theorem splitA_len (b : UInt8) (s : List UInt8) : (splitA b s).1.length ≤ s.length ∧ (splitA b s).2.length ≤ s.length := by
  have key : ∀ (s : List UInt8) (acc : List (List UInt8) × List UInt8), (s.foldl (stepS b) acc).1.length ≤ acc.1.length + s.length ∧ (s.foldl (stepS b) acc).2.length ≤ acc.2.length + s.length := by
    intro s
    induction s with
    | nil => intro acc; simp
    | cons x s ih =>
      intro acc
      rw [List.foldl_cons]
      have h := ih (stepS b acc x)
      have h2 : (stepS b acc x).1.length ≤ acc.1.length + 1 ∧ (stepS b acc x).2.length ≤ acc.2.length + 1 := by
        unfold stepS
        split <;> simp
      simp only [List.length_cons]
      omega
  have := key s ([], [])
  simpa [splitA] using this
theorem splitL_len (b : UInt8) (s : List UInt8) : (splitL b s).length ≤ s.length + 1 := by
  unfold splitL
  have := (splitA_len b s).1
  simp
  exact this
theorem splitL_pos (b : UInt8) (s : List UInt8) : 0 < (splitL b s).length := by
  unfold splitL
  simp
theorem splitL_each (b : UInt8) (s : List UInt8) : ∀ p, p ∈ splitL b s → p.length ≤ s.length := by
  have key : ∀ (s : List UInt8) (acc : List (List UInt8) × List UInt8) (n : Nat), (∀ p, p ∈ acc.1 → p.length ≤ n) → acc.2.length ≤ n → (∀ p, p ∈ (s.foldl (stepS b) acc).1 → p.length ≤ n + s.length) ∧ (s.foldl (stepS b) acc).2.length ≤ n + s.length := by
    intro s
    induction s with
    | nil => intro acc n h1 h2; exact ⟨h1, h2⟩
    | cons x s ih =>
      intro acc n h1 h2
      rw [List.foldl_cons]
      have h := ih (stepS b acc x) (n + 1) (fun p hp => by
        unfold stepS at hp
        split at hp
        · rcases List.mem_append.1 hp with h | h
          · have := h1 p h; omega
          · have : p = acc.2 := by simpa using h
            rw [this]; omega
        · have := h1 p hp; omega) (by
        unfold stepS
        split
        · simp
        · simp; exact h2)
      simp only [List.length_cons]
      refine ⟨fun p hp => ?_, ?_⟩
      · have := h.1 p hp; omega
      · have := h.2; omega
  intro p hp
  have h := key s ([], []) 0 (by simp) (by simp)
  rw [Nat.zero_add] at h
  unfold splitL at hp
  rcases List.mem_append.1 hp with h1 | h1
  · exact h.1 p h1
  · have : p = (splitA b s).2 := by simpa using h1
    rw [this]; exact h.2
def digitsL (n : Nat) : List UInt8 := if h : n < 10 then [UInt8.ofNat (48 + n % 10)] else digitsL (n / 10) ++ [UInt8.ofNat (48 + n % 10)]
  termination_by n
  decreasing_by omega
theorem digitsL_len : ∀ (d n : Nat), n < 10 ^ (d + 1) → (digitsL n).length ≤ d + 1
  | 0, n, h => by
    rw [digitsL]
    have : n < 10 := by simpa using h
    rw [dif_pos this]
    simp
  | d + 1, n, h => by
    rw [digitsL]
    split
    · simp
    · have h1 : n / 10 < 10 ^ (d + 1) := by
        rw [Nat.div_lt_iff_lt_mul (by omega)]
        rw [Nat.pow_succ] at h
        exact h
      have := digitsL_len d (n / 10) h1
      simp
      exact this
theorem digits_small {n : Nat} (h : n < 18446744073709551616) : (digitsL n).length ≤ 20 := digitsL_len 19 n (by omega)
def saidL (w : List UInt8) (l : List Nat) : List UInt8 := l.foldl (fun w x => (w ++ [32]) ++ digitsL x) w
theorem saidL_snoc (w : List UInt8) (l : List Nat) (x : Nat) : saidL w (l ++ [x]) = (saidL w l ++ [32]) ++ digitsL x := by simp [saidL]
theorem saidL_len (w : List UInt8) : ∀ (l : List Nat), (∀ x, x ∈ l → x < 18446744073709551616) → (saidL w l).length ≤ w.length + 21 * l.length := by
  intro l
  unfold saidL
  induction l generalizing w with
  | nil => intro _; simp
  | cons x l ih =>
    intro h
    rw [List.foldl_cons]
    have h1 := ih ((w ++ [32]) ++ digitsL x) (fun y hy => h y (by simp [hy]))
    have h2 := digits_small (h x (by simp))
    simp only [List.length_append, List.length_cons, List.length_nil] at h1 ⊢
    omega
def valL (s : List UInt8) : Nat := s.foldl (fun n c => 10 * n + (c.toNat - 48)) 0
def digB (c : UInt8) : Bool := decide (48 ≤ c.toNat ∧ c.toNat ≤ 57)
def numB (s : List UInt8) : Bool := decide (1 ≤ s.length) && decide (s.length ≤ 10) && !(decide (s.getD 0 0 = 48) && decide (1 < s.length)) && s.all digB && decide (valL s < 4294967296)
def numL (s : List UInt8) : Option Nat := if numB s = true then some (valL s) else none
theorem valL_snoc (s : List UInt8) (c : UInt8) : valL (s ++ [c]) = 10 * valL s + (c.toNat - 48) := by simp [valL]
theorem valL_lt (s : List UInt8) : s.all digB = true → valL s < 10 ^ s.length := by
  have key : ∀ (s : List UInt8) (n k : Nat), s.all digB = true → n < 10 ^ k → s.foldl (fun n c => 10 * n + (c.toNat - 48)) n < 10 ^ (k + s.length) := by
    intro s
    induction s with
    | nil => intro n k _ h; simpa using h
    | cons c s ih =>
      intro n k h hn
      rw [List.all_cons, Bool.and_eq_true] at h
      have hc : c.toNat - 48 ≤ 9 := by
        have := h.1
        unfold digB at this
        simp at this
        omega
      rw [List.foldl_cons]
      have h2 := ih (10 * n + (c.toNat - 48)) (k + 1) h.2 (by rw [Nat.pow_succ]; omega)
      rw [List.length_cons]
      have e : k + 1 + s.length = k + (s.length + 1) := by omega
      rw [e] at h2
      exact h2
  intro h
  have := key s 0 0 h (by simp)
  simpa [valL] using this
structure PL where
  wide : List Bool
  code : List LIns
  ins : List Int
structure RunR where
  err : Int
  state : Int
  out : List Int
  steps : Int
structure Lay where
  run : List Bool → List LIns → List Int → Int → RunR
  on : List Bool → List LIns → Int → List Int → Int → RunR
  near : List Bool → List LIns → Int × Nat
  bytes : List Bool → List LIns → Int → Int × Nat
def sBad : List UInt8 := [98, 97, 100]
def sOk : List UInt8 := [111, 107]
def sNo : List UInt8 := [63]
def sNarrow : List UInt8 := [110, 97, 114, 114, 111, 119]
def sWide : List UInt8 := [119, 105, 100, 101]
def sNear : List UInt8 := [110, 101, 97, 114]
def sCode : List UInt8 := [99, 111, 100, 101]
def sIns : List UInt8 := [105, 110, 115]
def sRun : List UInt8 := [114, 117, 110]
def sOn : List UInt8 := [111, 110]
def sBytes : List UInt8 := [98, 121, 116, 101, 115]
def shownL (r : RunR) : List UInt8 := if r.err = 0 then saidL (saidL (digitsL r.state.toNat) [r.steps.toNat]) (r.out.map Int.toNat) else saidL sBad [r.err.toNat]
def numsOf : List (List UInt8) → Option (List Nat)
  | [] => some []
  | p :: ps => match numL p, numsOf ps with
    | some x, some l => some (x :: l)
    | _, _ => none
def countL (r : Int × Nat) : List UInt8 := if r.1 = 0 then digitsL r.2 else saidL sBad [r.1.toNat]
def wordL (L : Lay) (g : PL) (s : List UInt8) (l : List Nat) : PL × List UInt8 :=
  if s = sNarrow ∨ s = sWide then
    if 12 ≤ g.wide.length then (g, sNo) else (⟨g.wide ++ [decide (s = sWide)], g.code, g.ins⟩, saidL sOk [g.wide.length + 1])
  else if s = sNear then (g, countL (L.near g.wide g.code))
  else
    let w := (splitL 32 s).getD 0 []
    if w = sCode then
      if l.length = 6 ∧ g.code.length < 40 then (⟨g.wide, g.code ++ [⟨(l.getD 0 0 : Nat), (l.getD 1 0 : Nat), (l.getD 2 0 : Nat), (l.getD 3 0 : Nat), (l.getD 4 0 : Nat), (l.getD 5 0 : Nat)⟩], g.ins⟩, saidL sOk [g.code.length + 1]) else (g, sNo)
    else if w = sIns then (⟨g.wide, g.code, l.map (fun x : Nat => (x : Int))⟩, saidL sOk [l.length])
    else if w = sRun then if l.length = 1 then (g, shownL (L.run g.wide g.code g.ins (l.getD 0 0 : Nat))) else (g, sNo)
    else if w = sOn then if l.length = 2 then (g, shownL (L.on g.wide g.code (l.getD 0 0 : Nat) g.ins (l.getD 1 0 : Nat))) else (g, sNo)
    else if w = sBytes then if l.length = 1 then (g, countL (L.bytes g.wide g.code (l.getD 0 0 : Nat))) else (g, sNo)
    else (g, sNo)
def lineL (L : Lay) (g : PL) (s : List UInt8) : PL × List UInt8 :=
  match numsOf (splitL 32 s).tail with
  | none => (g, sNo)
  | some l => wordL L g s l
def linesL (s : List UInt8) : List (List UInt8) := if (splitA 10 s).2 = [] then (splitA 10 s).1 else splitL 10 s
def goL (L : Lay) (ls : List (List UInt8)) : PL × List UInt8 := ls.foldl (fun a s => ((lineL L a.1 s).1, (a.2 ++ (lineL L a.1 s).2) ++ [10])) (⟨[], [], []⟩, [])
def playL (L : Lay) (s : List UInt8) : List UInt8 := (goL L ((linesL s).take 60)).2
theorem goL_snoc (L : Lay) (ls : List (List UInt8)) (s : List UInt8) : goL L (ls ++ [s]) = ((lineL L (goL L ls).1 s).1, ((goL L ls).2 ++ (lineL L (goL L ls).1 s).2) ++ [10]) := by simp [goL]
end form
/- Strings as lists of bytes: what each operation does with them. -/
namespace form
open Go.RowKit
def str (l : List UInt8) : ByteArray := ⟨l.toArray⟩
theorem str_size (l : List UInt8) : (str l).size = l.length := by simp [str, ByteArray.size]
theorem str_list (l : List UInt8) : (str l).toList = l := ByteArray.toList_mk l
theorem str_add (a b : List UInt8) : str a ++ str b = str (a ++ b) := ByteArray.mk_append_mk a b
theorem str_cut (l : List UInt8) (a b : Nat) : (str l).extract a b = str ((l.drop a).take (b - a)) := ByteArray.extract_mk l a b
section
variable {P : Program} (w : World)
theorem run_index_str (t : TypeId) (l : List UInt8) (k : IntKind) (i : Nat) (h : P.underlying t = some .string) (hi : i < l.length) :
    (Instr.index t (.string (str l)) (.int k (i : Int))).run P w = .ok (.int .u8 ((l.getD i 0).toNat : Int)) w := by
  have hs : i < (str l).size := by rw [str_size]; exact hi
  rw [run_index_string w t (str l) k i h, dif_pos ⟨by omega, by omega⟩]
  congr 3
  have e : (str l)[i]'hs = l.getD i 0 := by
    simp only [List.getD, List.getElem?_eq_getElem hi, Option.getD_some]
    rfl
  simpa using congrArg UInt8.toNat e
theorem run_add_str (a b : List UInt8) (h : a.length + b.length ≤ 9223372036854775807) : (Op.stringOp .add (str a) (str b)).run P w = .ok (.string (str (a ++ b))) w := by
  rw [run_string_add_sum w _ _ (by rw [str_size, str_size]; exact h), str_add]
theorem run_cut_str (t : TypeId) (l : List UInt8) (k k' : IntKind) (i j : Nat) (h : P.underlying t = some .string) (h1 : i ≤ j) (h2 : j ≤ l.length) :
    (Instr.slice t (.string (str l)) (some (.int k (i : Int))) (some (.int k' (j : Int))) none).run P w = .ok (.string (str ((l.drop i).take (j - i)))) w := by
  rw [run_slice_string w t (str l) k k' i j h (by omega) (by omega) (by rw [str_size]; omega)]
  simp only [Int.toNat_natCast, str_cut]
end
end form
/- What the document's small functions on programs answer: known, Gives, Many. -/
namespace form
open Go.RowKit
def knownB (op : Int) : Bool := (decide (1 ≤ op) && decide (op ≤ 10)) || (decide (21 ≤ op) && decide (op ≤ 26)) || (decide (41 ≤ op) && decide (op ≤ 45))
def givesB (op : Int) : Bool := !(op == 4) && !(op == 8) && !(op == 9) && !(op == 10)
def manyI (op : Int) : Int := if op = 1 ∨ op = 3 ∨ op = 8 ∨ op = 10 then 0 else if op = 2 ∨ op = 4 ∨ op = 6 ∨ op = 7 ∨ op = 9 then 1 else 2
theorem ret_bool {a b : Bool} (h : a = b) : Ending.returned (.bool a) = .returned (.bool b) := by rw [h]
theorem ret_int {k : IntKind} {a b : Int} (h : a = b) : Ending.returned (.int k a) = .returned (.int k b) := by rw [h]
end form
end Go.Proofs.YtikhedkhgpjaaabGreatDoor
