/- Where an instruction goes on (loanbookref2.Nexts). -/
import Derived.WalkKit
import Derived.Laws.BitsAllLaws
import Derived.Laws.Rows
import Derived.OneCell
import Derived.Deep.OwnRows
import Derived.Deep.DeepCutAuto
import Derived.Test.YtgnhpfmdbclnkaaGreatDoorProg
import Derived.BigQuiet
import Derived.Deep.QuietTactic
import Derived.Deep.RegionHeld3
import Derived.Test.YtgnhpfmdbclnkaaGreatDoorW02
import Derived.Test.YtgnhpfmdbclnkaaGreatDoorW01

namespace Go.Proofs.YtgnhpfmdbclnkaaGreatDoor
set_option linter.unusedVariables false
namespace form
open Go.RowKit
attribute [local go_sem ↓] Go.wp_at_zero Go.wp_at_succ
def IntsAt (lo : Nat) (w : World) (v : Value) (l : List Int) : Prop :=
  ∃ ao cap, v = .slice ao l.length cap ∧ (0 < l.length → ∃ b, ao = some ⟨b, 0, none⟩ ∧ lo ≤ b ∧ b < w.heap.size ∧ ∀ j, j < l.length → w.cell? ⟨b, j, none⟩ = some (.int .i64 (l.getD j 0)))
theorem ints_one {lo : Nat} {w : World} {b : Nat} {x : Int} {cap : Nat} (hlo : lo ≤ b) (h : w.cell? ⟨b, 0, none⟩ = some (.int .i64 x)) : IntsAt lo w (.slice (some ⟨b, 0, none⟩) 1 cap) [x] :=
  ⟨_, _, rfl, fun _ => ⟨b, rfl, hlo, World.block_lt_of_cell? w _ h, fun j hj => by
    obtain rfl : j = 0 := by simp at hj; omega
    simpa using h⟩⟩
theorem ints_two {lo : Nat} {w : World} {b : Nat} {x y : Int} {cap : Nat} (hlo : lo ≤ b) (h : w.cell? ⟨b, 0, none⟩ = some (.int .i64 x)) (g : w.cell? ⟨b, 1, none⟩ = some (.int .i64 y)) : IntsAt lo w (.slice (some ⟨b, 0, none⟩) 2 cap) [x, y] :=
  ⟨_, _, rfl, fun _ => ⟨b, rfl, hlo, World.block_lt_of_cell? w _ h, fun j hj => by
    rcases (show j = 0 ∨ j = 1 by simp at hj; omega) with rfl | rfl
    · simpa using h
    · simpa using g⟩⟩
theorem takes_of (i : LIns) (m : Nat) (hm : manyI i.op = m) (hm2 : m ≤ 2) (t : Int) : takesI i t = (decide (0 < m) && (i.a == t) || decide (1 < m) && (i.b == t)) := by
  unfold takesI usesI
  rw [hm]
  rcases (show m = 0 ∨ m = 1 ∨ m = 2 by omega) with rfl | rfl | rfl
  · simp
  · rw [Bool.eq_iff_iff]; simp; omega
  · rw [Bool.eq_iff_iff]; simp; omega
end form
/- Plain facts on numbers of 32 and 64 bits: what each operation comes to, and the document's bit-by-bit reckoning; no program in sight. -/
namespace num
def opR (k : IntKind) (op a b : Int) : Int :=
  if op == 1 then k.wrap (a + b) else if op == 2 then k.wrap (a - b) else if op == 3 then k.wrap (a * b)
  else if op == 4 then bits .and k a b else if op == 5 then bits .xor k a b
  else if op == 6 then (if a < b then 1 else 0) else 0
def natBit (and : Bool) (x y : Nat) : Nat := if and then x &&& y else x ^^^ y
def Inv (and : Bool) (x y i a b n p : Nat) : Prop :=
  a = x / 2 ^ i ∧ b = y / 2 ^ i ∧ n = natBit and x y % 2 ^ i ∧ p = 2 ^ i % 18446744073709551616
theorem wrap_u64_nat (n : Nat) : IntKind.u64.wrap (n : Int) = ((n % 18446744073709551616 : Nat) : Int) := by
  rw [IntKind.wrap_u64]; rfl
theorem u32_bit_lt (x y : Nat) (hx : x < 4294967296) (hy : y < 4294967296) : x &&& y < 4294967296 ∧ x ^^^ y < 4294967296 :=
  ⟨Nat.and_lt_two_pow (n := 32) x hy, Nat.xor_lt_two_pow (n := 32) hx hy⟩
theorem opR_cut (op a b : Int) (ha : 0 ≤ a) (ha' : a < 4294967296) (hb : 0 ≤ b) (hb' : b < 4294967296) : opR .u64 op a b % 4294967296 = opR .u32 op a b := by
  obtain ⟨x, rfl⟩ := Int.eq_ofNat_of_zero_le ha
  obtain ⟨y, rfl⟩ := Int.eq_ofNat_of_zero_le hb
  have hl := u32_bit_lt x y (by omega) (by omega)
  unfold opR
  rw [u64_and_nat x y (by omega) (by omega), u64_xor_nat x y (by omega) (by omega), u32_and_nat x y (by omega) (by omega), u32_xor_nat x y (by omega) (by omega)]
  rw [IntKind.wrap_u64, IntKind.wrap_u64, IntKind.wrap_u64, IntKind.wrap_u32', IntKind.wrap_u32', IntKind.wrap_u32']
  generalize x &&& y = p at *
  generalize x ^^^ y = q at *
  generalize (x : Int) * (y : Int) = m at *
  split
  · omega
  split
  · omega
  split
  · omega
  split
  · omega
  split
  · omega
  split
  · split <;> rfl
  · rfl
theorem opR_u64_bd (op a b : Int) (ha : 0 ≤ a) (ha' : a < 18446744073709551616) (hb : 0 ≤ b) (hb' : b < 18446744073709551616) : 0 ≤ opR .u64 op a b ∧ opR .u64 op a b < 18446744073709551616 := by
  obtain ⟨x, rfl⟩ := Int.eq_ofNat_of_zero_le ha
  obtain ⟨y, rfl⟩ := Int.eq_ofNat_of_zero_le hb
  have h1 : x &&& y < 18446744073709551616 := Nat.and_lt_two_pow (n := 64) x (by omega)
  have h2 : x ^^^ y < 18446744073709551616 := Nat.xor_lt_two_pow (n := 64) (by omega) (by omega)
  unfold opR
  rw [u64_and_nat x y (by omega) (by omega), u64_xor_nat x y (by omega) (by omega)]
  rw [IntKind.wrap_u64, IntKind.wrap_u64, IntKind.wrap_u64]
  generalize x &&& y = p at *
  generalize x ^^^ y = q at *
  generalize (x : Int) * (y : Int) = m at *
  split
  · omega
  split
  · omega
  split
  · omega
  split
  · omega
  split
  · omega
  split
  · split <;> omega
  · omega
end num
/- Programs that run, on plain numbers: a machine, a step, so many steps; rows of cells in memory. -/
namespace form
open Go.RowKit num
def gvI (i : LIns) (a b x : Int) : Int :=
  if i.op = 1 then i.n else if i.op = 2 then a else if i.op = 3 then x else if i.op = 5 then IntKind.u64.wrap (IntKind.u64.wrap (b * 4294967296) + a)
  else if i.op = 6 then a % 4294967296 else if i.op = 7 then a / 4294967296
  else if 40 < i.op then opR .u64 (i.op - 40) a b else opR .u32 (i.op - 20) (a % 4294967296) (b % 4294967296)
def nxI (i : LIns) (pc : Nat) (a : Int) : Int := if i.op = 8 ∨ (i.op = 9 ∧ ¬ a = 0) then i.c else pc + 1
def stI (i : LIns) (nC : Nat) (nx : Int) : Int := if i.op = 10 then 1 else if (nC : Int) ≤ nx then 2 else 0
structure Mac where
  pc : Nat
  temps : List Int
  taken : Nat
  out : List Int
  state : Int
  steps : Nat
def Mac.start (nB : Nat) : Mac := ⟨0, List.replicate nB 0, 0, [], 0, 0⟩
def inOf (ins : List Int) (k : Nat) : Int := ins.getD k 0
def Mac.step (C : List LIns) (ins : List Int) (m : Mac) : Mac :=
  let i := C.getD m.pc .zero
  let a := m.temps.getD i.a.toNat 0
  let b := m.temps.getD i.b.toNat 0
  let nx := nxI i m.pc a
  { pc := nx.toNat
    temps := if givesB i.op then m.temps.set i.dest.toNat (gvI i a b (inOf ins m.taken)) else m.temps
    taken := if i.op = 3 ∧ m.taken < ins.length then m.taken + 1 else m.taken
    out := if i.op = 4 then m.out ++ [a % 4294967296] else m.out
    state := stI i C.length nx
    steps := m.steps + 1 }
def Mac.go (C : List LIns) (ins : List Int) : Nat → Mac → Mac
  | 0, m => m
  | k + 1, m => if m.state = 0 then Mac.go C ins k (m.step C ins) else m
def playM (B : List Bool) (C : List LIns) (ins : List Int) (n : Nat) : Mac := Mac.go C ins n (Mac.start B.length)
theorem Mac.go_stop {C : List LIns} {ins : List Int} {m : Mac} (h : ¬ m.state = 0) : ∀ k, Mac.go C ins k m = m
  | 0 => rfl
  | k + 1 => by simp [Mac.go, h]
def Row (w : World) (b : Nat) (t : TypeId) (cs : List Value) : Prop := w.heap[b]? = some (.cells cs.toArray t (0, 0))
theorem Row.lt {w : World} {b : Nat} {t : TypeId} {cs : List Value} (h : Row w b t cs) : b < w.heap.size := lt_of_block h
theorem Row.cell {w : World} {b : Nat} {t : TypeId} {cs : List Value} (h : Row w b t cs) (j : Nat) : w.cell? ⟨b, j, none⟩ = cs[j]? := by
  rw [cell_of_row w b j _ t (0, 0) h]; simp
theorem Row.frozen {w : World} {b : Nat} {t : TypeId} {cs : List Value} (h : Row w b t cs) (j : Nat) : w.frozen? ⟨b, j, none⟩ = false := by
  unfold Row at h; simp [World.frozen?, h]
theorem Row.set {w : World} {b : Nat} {t : TypeId} {cs : List Value} (h : Row w b t cs) (j : Nat) (v : Value) : Row (w.setCell ⟨b, j, none⟩ v) b t (cs.set j v) := by
  unfold Row at *
  rw [heap_setCell_same w b j _ t v h]; simp
theorem Row.other {w : World} {b : Nat} {t : TypeId} {cs : List Value} (h : Row w b t cs) {a : Addr} (ha : b ≠ a.block) (v : Value) : Row (w.setCell a v) b t cs := by
  unfold Row at *
  rw [heap_setCell_other w a b v ha]; exact h
theorem Row.below {w w' : World} {b : Nat} {t : TypeId} {cs : List Value} (h : Row w b t cs) (hb : Below w.heap.size w w') : Row w' b t cs := by
  have := h.lt
  unfold Row at *
  rw [hb.block b this]; exact h
theorem Row.alloc {w : World} {b : Nat} {t : TypeId} {cs : List Value} (h : Row w b t cs) (o : Obj) : Row (w.alloc o) b t cs := h.below ((Below.refl _ _).alloc (Nat.le_refl _) _)
theorem Row.drew {w : World} {b : Nat} {t : TypeId} {cs : List Value} (h : Row w b t cs) : Row w.drew b t cs := h
theorem Row.grown {w w' : World} {b : Nat} {t : TypeId} {cs : List Value} {row : Option Nat} (h : Row w b t cs) (hg : w.grownBy w' row) (hne : some b ≠ row) : Row w' b t cs := by
  have := h.lt
  unfold Row at *
  rw [hg.block b this hne]; exact h
theorem Row.new (w : World) (t : TypeId) (cs : List Value) : Row (w.alloc (.cells cs.toArray t)) w.heap.size t cs := heap_alloc_new w _
theorem cell_other {wr : World} {p q : Addr} {u u' : Value} (h : wr.cell? p = some u) (hne : p.block ≠ q.block) : (wr.setCell q u').cell? p = some u := by
  rw [World.cell?_of_block (Below.heap_setCell _ _ _ _ hne)]; exact h
end form
/- Small facts on rows of truths and numbers in memory. -/
namespace form
open Go.RowKit
def natV (x : Nat) : Value := .int .i64 x
theorem infBool : (Tryz.prog.info? 4).map (fun i => (i.zero, i.size, i.bytes)) = some (some (.bool false), 1, 1) := by kernel_rfl
theorem infInt : (Tryz.prog.info? 3).map (fun i => (i.zero, i.size, i.bytes)) = some (some (.int .i64 0), 1, 8) := by kernel_rfl
theorem made_bool (n : Nat) : madeCells #[Value.bool false] n = ((List.replicate n false).map Value.bool).toArray := by
  apply Array.toList_inj.1
  rw [toList_madeCells_one]
  simp
end form
/- The words of scripts (loanbookkeep: split, digits, said, number). -/
namespace form
open Go.RowKit
set_option maxRecDepth 100000
attribute [local go_sem ↓] Go.wp_at_zero Go.wp_at_succ
attribute [local go_sem] str_size str_list
theorem ustr : Tryz.prog.underlying 9 = some .string := Tryz.underlying9
theorem infStr : (Tryz.prog.info? 9).map (fun i => (i.zero, i.size, i.bytes)) = some (some (.string ⟨#[]⟩), 1, 16) := by kernel_rfl
structure StS (w : World) (base : Nat) (l : List (List UInt8)) (v : Value) (wr : World) : Prop where
  bel : Below w.heap.size w wr
  own : wr.ownsRow base 9 1 v l.length (l.map (fun p => Value.string (str p)))
theorem rowStr_below {base : Nat} {e : TypeId} {n size : Nat} {xs : List Value} {v : Value} {wr w1 : World} (h : wr.ownsRow base e size v n xs) (hb : Below wr.heap.size wr w1) : w1.ownsRow base e size v n xs :=
  World.ownsRow.kept h ⟨hb.os, hb.tape, hb.output, hb.size, fun j hj _ => hb.block j hj⟩ (row := none) (by cases v.ownBlock <;> simp)
theorem StS.below {w : World} {base : Nat} {l : List (List UInt8)} {v : Value} {wr w1 : World} (h : StS w base l v wr) (hb : Below wr.heap.size wr w1) : StS w base l v w1 := ⟨step_below hb h.bel, rowStr_below h.own hb⟩
theorem StS.push {w : World} {l : List (List UInt8)} {v : Value} {wr w1 : World} (h : StS w w.heap.size l v wr) {g cap : Nat} {y : List UInt8} (hown : w1.ownsRow w.heap.size 9 1 (.slice (some ⟨g, 0, none⟩) (l.length + 1) cap) (l.length + 1) (l.map (fun p => Value.string (str p)) ++ [.string (str y)])) (hgrow : wr.grownBy w1 v.ownBlock) : StS w w.heap.size (l ++ [y]) (.slice (some ⟨g, 0, none⟩) (l.length + 1) cap) w1 :=
  ⟨h.bel.grown hgrow (by have := h.bel.size; omega) (fun j hj => by have := (World.ownsRow.lt h.own _ hj).1; omega), by simpa using hown⟩
theorem drop_take_snoc {s : List UInt8} {f i : Nat} (hf : f ≤ i) (hi : i < s.length) : (s.take (i + 1)).drop f = (s.take i).drop f ++ [s.getD i 0] := by
  rw [List.take_succ_eq_append_getElem hi, List.drop_append_of_le_length (by simp; omega)]
  simp [List.getD, hi]
theorem cut_is {s : List UInt8} {f i : Nat} : (s.drop f).take (i - f) = (s.take i).drop f := by rw [List.drop_take]
theorem take_snoc {s : List UInt8} {i : Nat} (hi : i < s.length) : s.take (i + 1) = s.take i ++ [s.getD i 0] := by
  rw [List.take_succ_eq_append_getElem hi]
  simp [List.getD, hi]
theorem byte_eq (a b : UInt8) : (((a.toNat : Nat) : Int) == ((b.toNat : Nat) : Int)) = decide (a = b) := by
  by_cases h : a = b
  · subst h; simp
  · have : ¬ a.toNat = b.toNat := fun e => h (UInt8.toNat_inj.1 e)
    have h2 : ¬ ((a.toNat : Nat) : Int) = ((b.toNat : Nat) : Int) := by omega
    simp [h, h2]
set_option maxHeartbeats 1600000 in
theorem splitK (s : List UInt8) (b : UInt8) (hs : s.length ≤ 4000000) (w : World) :
    Calls Tryz.prog 5 #[.string (str s), .int .u8 (b.toNat : Int)] w fun e w' => ∃ v, e = .returned v ∧ StS w w.heap.size (splitL b s) v w' := by
  have hsz : (s.length : Int) ≤ 4000000 := by omega
  go_enter Tryz.func5, Tryz.ntmps5
  go_wp2
  go_loopg [5, 6, 7] (s.length + 2) (fun gg v5 v6 v wr => ∃ (i f : Nat) (P : List (List UInt8)), v = .int .i64 i ∧ v6 = .int .i64 f ∧ i ≤ s.length + 1 ∧ gg = s.length + 2 - i ∧ ((i ≤ s.length ∧ f ≤ i ∧ splitA b (s.take i) = (P, (s.take i).drop f)) ∨ (i = s.length + 1 ∧ P = splitL b s)) ∧ StS w w.heap.size P v5 wr)
  case atStart => exact ⟨0, 0, [], rfl, rfl, by omega, by omega, Or.inl ⟨by omega, by omega, rfl⟩, Below.refl _ _, World.ownsRow_nil _ _ _ _⟩
  case round =>
    obtain ⟨i, f, P, rfl, rfl, hi, hgk, hsp, hst⟩ := hrel
    have HGK : Hid (gk = s.length + 2 - i) := hgk
    have HST : Hid (StS w w.heap.size P u5 wr) := hst
    have hwz := hst.bel.size
    clear hgk hst
    rcases hsp with ⟨hil, hfi, hsp⟩ | ⟨rfl, rfl⟩
    case inr =>
      have hiz : ¬ ((s.length + 1 : Nat) : Int) ≤ (s.length : Int) := by omega
      go_wp2
      go_ret
      exact ⟨_, rfl, HST.out⟩
    have hiz : (i : Int) ≤ (s.length : Int) := by omega
    have hPl : P.length ≤ s.length := by
      have := (splitA_len b (s.take i)).1
      rw [hsp] at this
      simp at this
      omega
    have HSP : Hid (splitA b (s.take i) = (P, (s.take i).drop f)) := hsp
    clear hsp
    have hcut := fun w => run_cut_str (P := Tryz.prog) w 9 s .i64 .i64 f i ustr hfi hil
    rw [cut_is] at hcut
    obtain ⟨cu, hcu⟩ : ∃ x, x = (s.take i).drop f := ⟨_, rfl⟩
    rw [← hcu] at hcut
    have HCU : Hid (cu = (s.take i).drop f) := hcu
    clear hcu
    obtain ⟨t0', hi0, hy0, hy1, hy2⟩ := info_parts infStr
    by_cases he : i = s.length
    · have hez : ((i : Int) == (s.length : Int)) = true := by simp [he]
      have HE : Hid (i = s.length) := he
      clear he
      go_wp2_with (at_builtin; refine wpList_append_lies _ rfl _ _ 22 rfl w.heap.size 9 t0' (.string ⟨#[]⟩) 1 16 Tryz.underlying22 hi0 hy0 hy1 hy2 rfl (by decide) u5 P.length (P.map (fun p => Value.string (str p))) rfl (World.ownsRow.alloc HST.out.own _) ⟨wr.heap.size, 0, none⟩ 1 1 [.string (str cu)] rfl rfl ?c1 ?c2 (by decide) ?c3 ?c4 ?c5 _ rfl ?_)
      case c1 =>
        intro j u hu
        rcases j with _ | j
        · simp at hu; subst hu; simp [go_sem, Addr.add]
        · simp at hu
      case c2 => simp [Value.oneCell']
      case c3 => unfold maxLen; omega
      case c4 => omega
      case c5 => first | omega | (simp; omega)
      intro g9 cap9 w9 hown hgrow hat hlt9
      have hP := (HST.out.below ((Below.refl _ _).alloc (Nat.le_refl _) (.cells #[.string (str cu)] 9))).push hown hgrow
      have HP : Hid (StS w w.heap.size (P ++ [cu]) (.slice (some ⟨g9, 0, none⟩) (P.length + 1) cap9) w9) := hP
      clear hP hown hgrow hat
      go_wp2
      have hgk := HGK.out
      go_roundg (gk - 1)
      case measure => omega
      case rel =>
        refine ⟨i + 1, i + 1, P ++ [cu], by go_num, by go_num, by omega, by omega, Or.inr ⟨by rw [HE.out], ?_⟩, HP.out⟩
        unfold splitL
        have h2 := HSP.out
        have e := HE.out
        rw [e, List.take_length] at h2
        rw [h2, HCU.out, e, List.take_length]
    · have hez : ((i : Int) == (s.length : Int)) = false := by simp; omega
      have hix := fun w => run_index_str (P := Tryz.prog) w 9 s .i64 i ustr (by omega)
      obtain ⟨c, hc⟩ : ∃ c, c = s.getD i 0 := ⟨_, rfl⟩
      have HC : Hid (c = s.getD i 0) := hc
      rw [← hc] at hix
      have hbe := byte_eq c b
      obtain ⟨z, hz⟩ : ∃ z, z = decide (c = b) := ⟨_, rfl⟩
      rw [← hz] at hbe
      have HZ : Hid (z = decide (c = b)) := hz
      have HIL : Hid (i < s.length) := by show i < s.length; omega
      clear hz he hc
      go_upto_if 24 with fail
      rcases Bool.eq_false_or_eq_true z with hz | hz
      · subst hz
        have hb : c = b := of_decide_eq_true HZ.out.symm
        have HB : Hid (c = b) := hb
        clear hb
        go_wp2_with (at_builtin; refine wpList_append_lies _ rfl _ _ 22 rfl w.heap.size 9 t0' (.string ⟨#[]⟩) 1 16 Tryz.underlying22 hi0 hy0 hy1 hy2 rfl (by decide) u5 P.length (P.map (fun p => Value.string (str p))) rfl (World.ownsRow.alloc HST.out.own _) ⟨wr.heap.size, 0, none⟩ 1 1 [.string (str cu)] rfl rfl ?c1 ?c2 (by decide) ?c3 ?c4 ?c5 _ rfl ?_)
        case c1 =>
          intro j u hu
          rcases j with _ | j
          · simp at hu; subst hu; simp [go_sem, Addr.add]
          · simp at hu
        case c2 => simp [Value.oneCell']
        case c3 => unfold maxLen; omega
        case c4 => omega
        case c5 => first | omega | (simp; omega)
        intro g9 cap9 w9 hown hgrow hat hlt9
        have hP := (HST.out.below ((Below.refl _ _).alloc (Nat.le_refl _) (.cells #[.string (str cu)] 9))).push hown hgrow
        have HP : Hid (StS w w.heap.size (P ++ [cu]) (.slice (some ⟨g9, 0, none⟩) (P.length + 1) cap9) w9) := hP
        clear hP hown hgrow hat
        go_wp2
        have hgk := HGK.out
        go_roundg (gk - 1)
        case measure => omega
        case rel =>
          refine ⟨i + 1, i + 1, P ++ [cu], by go_num, by go_num, by omega, by omega, Or.inl ⟨HIL.out, by omega, ?_⟩, HP.out⟩
          rw [take_snoc HIL.out, splitA_snoc, HSP.out, ← HC.out, HB.out]
          unfold stepS
          rw [if_pos rfl, ← HCU.out, List.drop_of_length_le (by simp; omega)]
      · subst hz
        have hb : ¬ c = b := of_decide_eq_false HZ.out.symm
        have HB : Hid (¬ c = b) := hb
        clear hb
        go_wp2
        have hgk := HGK.out
        go_roundg (gk - 1)
        case measure => omega
        case rel =>
          refine ⟨i + 1, f, P, by go_num, rfl, by omega, by omega, Or.inl ⟨HIL.out, by omega, ?_⟩, HST.out⟩
          rw [drop_take_snoc hfi HIL.out, take_snoc HIL.out, splitA_snoc, HSP.out, ← HC.out]
          unfold stepS
          rw [if_neg HB.out]
end form
end Go.Proofs.YtgnhpfmdbclnkaaGreatDoor
