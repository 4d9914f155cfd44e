/- Programs that run, on plain numbers: a machine, a step, so many steps; rows of cells in memory. -/
import Derived.Laws.Rows
import Derived.OneCell
import Derived.Deep.OwnRows
import Derived.Deep.DeepCutAuto
import Derived.Test.YtikhedkhgpjaaabGreatDoorProg
import Derived.BigQuiet
import Derived.Deep.QuietTactic
import Derived.Deep.RegionHeld3
import Derived.Laws.IdiomStrings
import Derived.Test.YtikhedkhgpjaaabGreatDoorW03
import Derived.Test.YtikhedkhgpjaaabGreatDoorW01

namespace Go.Proofs.YtikhedkhgpjaaabGreatDoor
set_option linter.unusedVariables false
namespace form
open Go.RowKit num
def gvI (i : LIns) (a b x : Int) : Int :=
  if i.op = 1 then i.n else if i.op = 2 then a else if i.op = 3 then x else if i.op = 5 then IntKind.u64.wrap (IntKind.u64.wrap (b * 4294967296) + a)
  else if i.op = 6 then a % 4294967296 else if i.op = 7 then a / 4294967296
  else if 40 < i.op then opR .u64 (i.op - 40) a b else opR .u32 (i.op - 20) (a % 4294967296) (b % 4294967296)
def nxI (i : LIns) (pc : Nat) (a : Int) : Int := if i.op = 8 ∨ (i.op = 9 ∧ ¬ a = 0) then i.c else pc + 1
def stI (i : LIns) (nC : Nat) (nx : Int) : Int := if i.op = 10 then 1 else if (nC : Int) ≤ nx then 2 else 0
structure Mac where
  pc : Nat
  temps : List Int
  taken : Nat
  out : List Int
  state : Int
  steps : Nat
def Mac.start (nB : Nat) : Mac := ⟨0, List.replicate nB 0, 0, [], 0, 0⟩
def inOf (ins : List Int) (k : Nat) : Int := ins.getD k 0
def Mac.step (C : List LIns) (ins : List Int) (m : Mac) : Mac :=
  let i := C.getD m.pc .zero
  let a := m.temps.getD i.a.toNat 0
  let b := m.temps.getD i.b.toNat 0
  let nx := nxI i m.pc a
  { pc := nx.toNat
    temps := if givesB i.op then m.temps.set i.dest.toNat (gvI i a b (inOf ins m.taken)) else m.temps
    taken := if i.op = 3 ∧ m.taken < ins.length then m.taken + 1 else m.taken
    out := if i.op = 4 then m.out ++ [a % 4294967296] else m.out
    state := stI i C.length nx
    steps := m.steps + 1 }
def Mac.go (C : List LIns) (ins : List Int) : Nat → Mac → Mac
  | 0, m => m
  | k + 1, m => if m.state = 0 then Mac.go C ins k (m.step C ins) else m
def playM (B : List Bool) (C : List LIns) (ins : List Int) (n : Nat) : Mac := Mac.go C ins n (Mac.start B.length)
theorem Mac.go_stop {C : List LIns} {ins : List Int} {m : Mac} (h : ¬ m.state = 0) : ∀ k, Mac.go C ins k m = m
  | 0 => rfl
  | k + 1 => by simp [Mac.go, h]
def Row (w : World) (b : Nat) (t : TypeId) (cs : List Value) : Prop := w.heap[b]? = some (.cells cs.toArray t (0, 0))
theorem Row.lt {w : World} {b : Nat} {t : TypeId} {cs : List Value} (h : Row w b t cs) : b < w.heap.size := lt_of_block h
theorem Row.cell {w : World} {b : Nat} {t : TypeId} {cs : List Value} (h : Row w b t cs) (j : Nat) : w.cell? ⟨b, j, none⟩ = cs[j]? := by
  rw [cell_of_row w b j _ t (0, 0) h]; simp
theorem Row.frozen {w : World} {b : Nat} {t : TypeId} {cs : List Value} (h : Row w b t cs) (j : Nat) : w.frozen? ⟨b, j, none⟩ = false := by
  unfold Row at h; simp [World.frozen?, h]
theorem Row.set {w : World} {b : Nat} {t : TypeId} {cs : List Value} (h : Row w b t cs) (j : Nat) (v : Value) : Row (w.setCell ⟨b, j, none⟩ v) b t (cs.set j v) := by
  unfold Row at *
  rw [heap_setCell_same w b j _ t v h]; simp
theorem Row.other {w : World} {b : Nat} {t : TypeId} {cs : List Value} (h : Row w b t cs) {a : Addr} (ha : b ≠ a.block) (v : Value) : Row (w.setCell a v) b t cs := by
  unfold Row at *
  rw [heap_setCell_other w a b v ha]; exact h
theorem Row.below {w w' : World} {b : Nat} {t : TypeId} {cs : List Value} (h : Row w b t cs) (hb : Below w.heap.size w w') : Row w' b t cs := by
  have := h.lt
  unfold Row at *
  rw [hb.block b this]; exact h
theorem Row.alloc {w : World} {b : Nat} {t : TypeId} {cs : List Value} (h : Row w b t cs) (o : Obj) : Row (w.alloc o) b t cs := h.below ((Below.refl _ _).alloc (Nat.le_refl _) _)
theorem Row.drew {w : World} {b : Nat} {t : TypeId} {cs : List Value} (h : Row w b t cs) : Row w.drew b t cs := h
theorem Row.grown {w w' : World} {b : Nat} {t : TypeId} {cs : List Value} {row : Option Nat} (h : Row w b t cs) (hg : w.grownBy w' row) (hne : some b ≠ row) : Row w' b t cs := by
  have := h.lt
  unfold Row at *
  rw [hg.block b this hne]; exact h
theorem Row.new (w : World) (t : TypeId) (cs : List Value) : Row (w.alloc (.cells cs.toArray t)) w.heap.size t cs := heap_alloc_new w _
theorem cell_other {wr : World} {p q : Addr} {u u' : Value} (h : wr.cell? p = some u) (hne : p.block ≠ q.block) : (wr.setCell q u').cell? p = some u := by
  rw [World.cell?_of_block (Below.heap_setCell _ _ _ _ hne)]; exact h
end form
/- Small facts on rows of truths and numbers in memory. -/
namespace form
open Go.RowKit
def natV (x : Nat) : Value := .int .i64 x
theorem infBool : (Tryz.prog.info? 4).map (fun i => (i.zero, i.size, i.bytes)) = some (some (.bool false), 1, 1) := by kernel_rfl
theorem infInt : (Tryz.prog.info? 3).map (fun i => (i.zero, i.size, i.bytes)) = some (some (.int .i64 0), 1, 8) := by kernel_rfl
theorem made_bool (n : Nat) : madeCells #[Value.bool false] n = ((List.replicate n false).map Value.bool).toArray := by
  apply Array.toList_inj.1
  rw [toList_madeCells_one]
  simp
end form
/- The words of scripts (loanbookkeep: split, digits, said, number). -/
namespace form
open Go.RowKit
set_option maxRecDepth 100000
attribute [local go_sem ↓] Go.wp_at_zero Go.wp_at_succ
attribute [local go_sem] str_size str_list
theorem ustr : Tryz.prog.underlying 9 = some .string := Tryz.underlying9
theorem infStr : (Tryz.prog.info? 9).map (fun i => (i.zero, i.size, i.bytes)) = some (some (.string ⟨#[]⟩), 1, 16) := by kernel_rfl
structure StS (w : World) (base : Nat) (l : List (List UInt8)) (v : Value) (wr : World) : Prop where
  bel : Below w.heap.size w wr
  own : wr.ownsRow base 9 1 v l.length (l.map (fun p => Value.string (str p)))
theorem rowStr_below {base : Nat} {e : TypeId} {n size : Nat} {xs : List Value} {v : Value} {wr w1 : World} (h : wr.ownsRow base e size v n xs) (hb : Below wr.heap.size wr w1) : w1.ownsRow base e size v n xs :=
  World.ownsRow.kept h ⟨hb.os, hb.tape, hb.output, hb.size, fun j hj _ => hb.block j hj⟩ (row := none) (by cases v.ownBlock <;> simp)
theorem StS.below {w : World} {base : Nat} {l : List (List UInt8)} {v : Value} {wr w1 : World} (h : StS w base l v wr) (hb : Below wr.heap.size wr w1) : StS w base l v w1 := ⟨step_below hb h.bel, rowStr_below h.own hb⟩
theorem StS.push {w : World} {l : List (List UInt8)} {v : Value} {wr w1 : World} (h : StS w w.heap.size l v wr) {g cap : Nat} {y : List UInt8} (hown : w1.ownsRow w.heap.size 9 1 (.slice (some ⟨g, 0, none⟩) (l.length + 1) cap) (l.length + 1) (l.map (fun p => Value.string (str p)) ++ [.string (str y)])) (hgrow : wr.grownBy w1 v.ownBlock) : StS w w.heap.size (l ++ [y]) (.slice (some ⟨g, 0, none⟩) (l.length + 1) cap) w1 :=
  ⟨h.bel.grown hgrow (by have := h.bel.size; omega) (fun j hj => by have := (World.ownsRow.lt h.own _ hj).1; omega), by simpa using hown⟩
theorem drop_take_snoc {s : List UInt8} {f i : Nat} (hf : f ≤ i) (hi : i < s.length) : (s.take (i + 1)).drop f = (s.take i).drop f ++ [s.getD i 0] := by
  rw [List.take_succ_eq_append_getElem hi, List.drop_append_of_le_length (by simp; omega)]
  simp [List.getD, hi]
theorem cut_is {s : List UInt8} {f i : Nat} : (s.drop f).take (i - f) = (s.take i).drop f := by rw [List.drop_take]
theorem take_snoc {s : List UInt8} {i : Nat} (hi : i < s.length) : s.take (i + 1) = s.take i ++ [s.getD i 0] := by
  rw [List.take_succ_eq_append_getElem hi]
  simp [List.getD, hi]
theorem byte_eq (a b : UInt8) : (((a.toNat : Nat) : Int) == ((b.toNat : Nat) : Int)) = decide (a = b) := by
  by_cases h : a = b
  · subst h; simp
  · have : ¬ a.toNat = b.toNat := fun e => h (UInt8.toNat_inj.1 e)
    have h2 : ¬ ((a.toNat : Nat) : Int) = ((b.toNat : Nat) : Int) := by omega
    simp [h, h2]
set_option maxHeartbeats 1600000 in
theorem splitK (s : List UInt8) (b : UInt8) (hs : s.length ≤ 4000000) (w : World) :
    Calls Tryz.prog 4 #[.string (str s), .int .u8 (b.toNat : Int)] w fun e w' => ∃ v, e = .returned v ∧ StS w w.heap.size (splitL b s) v w' := by
  have hsz : (s.length : Int) ≤ 4000000 := by omega
  go_enter Tryz.func4, Tryz.ntmps4
  go_wp2
  go_loopg [5, 6, 7] (s.length + 2) (fun gg v5 v6 v wr => ∃ (i f : Nat) (P : List (List UInt8)), v = .int .i64 i ∧ v6 = .int .i64 f ∧ i ≤ s.length + 1 ∧ gg = s.length + 2 - i ∧ ((i ≤ s.length ∧ f ≤ i ∧ splitA b (s.take i) = (P, (s.take i).drop f)) ∨ (i = s.length + 1 ∧ P = splitL b s)) ∧ StS w w.heap.size P v5 wr)
  case atStart => exact ⟨0, 0, [], rfl, rfl, by omega, by omega, Or.inl ⟨by omega, by omega, rfl⟩, Below.refl _ _, World.ownsRow_nil _ _ _ _⟩
  case round =>
    obtain ⟨i, f, P, rfl, rfl, hi, hgk, hsp, hst⟩ := hrel
    have HGK : Hid (gk = s.length + 2 - i) := hgk
    have HST : Hid (StS w w.heap.size P u5 wr) := hst
    have hwz := hst.bel.size
    clear hgk hst
    rcases hsp with ⟨hil, hfi, hsp⟩ | ⟨rfl, rfl⟩
    case inr =>
      have hiz : ¬ ((s.length + 1 : Nat) : Int) ≤ (s.length : Int) := by omega
      go_wp2
      go_ret
      exact ⟨_, rfl, HST.out⟩
    have hiz : (i : Int) ≤ (s.length : Int) := by omega
    have hPl : P.length ≤ s.length := by
      have := (splitA_len b (s.take i)).1
      rw [hsp] at this
      simp at this
      omega
    have HSP : Hid (splitA b (s.take i) = (P, (s.take i).drop f)) := hsp
    clear hsp
    have hcut := fun w => run_cut_str (P := Tryz.prog) w 9 s .i64 .i64 f i ustr hfi hil
    rw [cut_is] at hcut
    obtain ⟨cu, hcu⟩ : ∃ x, x = (s.take i).drop f := ⟨_, rfl⟩
    rw [← hcu] at hcut
    have HCU : Hid (cu = (s.take i).drop f) := hcu
    clear hcu
    obtain ⟨t0', hi0, hy0, hy1, hy2⟩ := info_parts infStr
    by_cases he : i = s.length
    · have hez : ((i : Int) == (s.length : Int)) = true := by simp [he]
      have HE : Hid (i = s.length) := he
      clear he
      go_wp2_with (at_builtin; refine wpList_append_lies _ rfl _ _ 22 rfl w.heap.size 9 t0' (.string ⟨#[]⟩) 1 16 Tryz.underlying22 hi0 hy0 hy1 hy2 rfl (by decide) u5 P.length (P.map (fun p => Value.string (str p))) rfl (World.ownsRow.alloc HST.out.own _) ⟨wr.heap.size, 0, none⟩ 1 1 [.string (str cu)] rfl rfl ?c1 ?c2 (by decide) ?c3 ?c4 ?c5 _ rfl ?_)
      case c1 =>
        intro j u hu
        rcases j with _ | j
        · simp at hu; subst hu; simp [go_sem, Addr.add]
        · simp at hu
      case c2 => simp [Value.oneCell']
      case c3 => unfold maxLen; omega
      case c4 => omega
      case c5 => first | omega | (simp; omega)
      intro g9 cap9 w9 hown hgrow hat hlt9
      have hP := (HST.out.below ((Below.refl _ _).alloc (Nat.le_refl _) (.cells #[.string (str cu)] 9))).push hown hgrow
      have HP : Hid (StS w w.heap.size (P ++ [cu]) (.slice (some ⟨g9, 0, none⟩) (P.length + 1) cap9) w9) := hP
      clear hP hown hgrow hat
      go_wp2
      have hgk := HGK.out
      go_roundg (gk - 1)
      case measure => omega
      case rel =>
        refine ⟨i + 1, i + 1, P ++ [cu], by go_num, by go_num, by omega, by omega, Or.inr ⟨by rw [HE.out], ?_⟩, HP.out⟩
        unfold splitL
        have h2 := HSP.out
        have e := HE.out
        rw [e, List.take_length] at h2
        rw [h2, HCU.out, e, List.take_length]
    · have hez : ((i : Int) == (s.length : Int)) = false := by simp; omega
      have hix := fun w => run_index_str (P := Tryz.prog) w 9 s .i64 i ustr (by omega)
      obtain ⟨c, hc⟩ : ∃ c, c = s.getD i 0 := ⟨_, rfl⟩
      have HC : Hid (c = s.getD i 0) := hc
      rw [← hc] at hix
      have hbe := byte_eq c b
      obtain ⟨z, hz⟩ : ∃ z, z = decide (c = b) := ⟨_, rfl⟩
      rw [← hz] at hbe
      have HZ : Hid (z = decide (c = b)) := hz
      have HIL : Hid (i < s.length) := by show i < s.length; omega
      clear hz he hc
      go_upto_if 24 with fail
      rcases Bool.eq_false_or_eq_true z with hz | hz
      · subst hz
        have hb : c = b := of_decide_eq_true HZ.out.symm
        have HB : Hid (c = b) := hb
        clear hb
        go_wp2_with (at_builtin; refine wpList_append_lies _ rfl _ _ 22 rfl w.heap.size 9 t0' (.string ⟨#[]⟩) 1 16 Tryz.underlying22 hi0 hy0 hy1 hy2 rfl (by decide) u5 P.length (P.map (fun p => Value.string (str p))) rfl (World.ownsRow.alloc HST.out.own _) ⟨wr.heap.size, 0, none⟩ 1 1 [.string (str cu)] rfl rfl ?c1 ?c2 (by decide) ?c3 ?c4 ?c5 _ rfl ?_)
        case c1 =>
          intro j u hu
          rcases j with _ | j
          · simp at hu; subst hu; simp [go_sem, Addr.add]
          · simp at hu
        case c2 => simp [Value.oneCell']
        case c3 => unfold maxLen; omega
        case c4 => omega
        case c5 => first | omega | (simp; omega)
        intro g9 cap9 w9 hown hgrow hat hlt9
        have hP := (HST.out.below ((Below.refl _ _).alloc (Nat.le_refl _) (.cells #[.string (str cu)] 9))).push hown hgrow
        have HP : Hid (StS w w.heap.size (P ++ [cu]) (.slice (some ⟨g9, 0, none⟩) (P.length + 1) cap9) w9) := hP
        clear hP hown hgrow hat
        go_wp2
        have hgk := HGK.out
        go_roundg (gk - 1)
        case measure => omega
        case rel =>
          refine ⟨i + 1, i + 1, P ++ [cu], by go_num, by go_num, by omega, by omega, Or.inl ⟨HIL.out, by omega, ?_⟩, HP.out⟩
          rw [take_snoc HIL.out, splitA_snoc, HSP.out, ← HC.out, HB.out]
          unfold stepS
          rw [if_pos rfl, ← HCU.out, List.drop_of_length_le (by simp; omega)]
      · subst hz
        have hb : ¬ c = b := of_decide_eq_false HZ.out.symm
        have HB : Hid (¬ c = b) := hb
        clear hb
        go_wp2
        have hgk := HGK.out
        go_roundg (gk - 1)
        case measure => omega
        case rel =>
          refine ⟨i + 1, f, P, by go_num, rfl, by omega, by omega, Or.inl ⟨HIL.out, by omega, ?_⟩, HST.out⟩
          rw [drop_take_snoc hfi HIL.out, take_snoc HIL.out, splitA_snoc, HSP.out, ← HC.out]
          unfold stepS
          rw [if_neg HB.out]
end form
/- Numbers in digits (loanbookkeep: digits, said). -/
namespace form
open Go.RowKit
set_option maxRecDepth 100000
attribute [local go_sem ↓] Go.wp_at_zero Go.wp_at_succ
attribute [local go_sem] str_size str_list
theorem digitsL_small {n : Nat} (h : n < 10) : digitsL n = [UInt8.ofNat (48 + n % 10)] := by rw [digitsL, dif_pos h]
theorem digitsL_great {n : Nat} (h : ¬ n < 10) : digitsL n = digitsL (n / 10) ++ [UInt8.ofNat (48 + n % 10)] := by rw [digitsL, dif_neg h]
set_option maxHeartbeats 800000 in
theorem digitsK : ∀ (n : Nat), n < 9223372036854775808 → ∀ w : World, Calls Tryz.prog 10 #[.int .i64 (n : Int)] w fun e w' => e = .returned (.string (str (digitsL n))) ∧ Below w.heap.size w w' := by
  intro n
  induction n using Nat.strongRecOn with
  | ind n ih =>
    intro hn w
    have HIH : Hid (¬ n < 10 → ∀ w : World, Calls Tryz.prog 10 #[.int .i64 ((n : Int) / 10)] w fun e w' => e = .returned (.string (str (digitsL (n / 10)))) ∧ Below w.heap.size w w') := fun h w => by
      have := ih (n / 10) (by omega) (by omega) w
      have e : ((n / 10 : Nat) : Int) = (n : Int) / 10 := by omega
      rw [e] at this
      exact this
    clear ih
    obtain ⟨c, hc⟩ : ∃ c, c = UInt8.ofNat (48 + n % 10) := ⟨_, rfl⟩
    have hcn : (48 + (n : Int) % 10) = (c.toNat : Int) := by
      rw [hc]
      have : (UInt8.ofNat (48 + n % 10)).toNat = 48 + n % 10 := by
        rw [UInt8.toNat_ofNat']
        exact Nat.mod_eq_of_lt (by omega)
      omega
    have hcv : (convert 58 9 (.slice (some ⟨w.heap.size, 0, none⟩) 1 1)).run Tryz.prog (w.alloc (.cells #[.int .u8 (48 + (n : Int) % 10)] 5)) = .ok (.string (str [c])) (w.alloc (.cells #[.int .u8 (48 + (n : Int) % 10)] 5)) :=
      run_convert_bytes_back (w.alloc (.cells #[.int .u8 (48 + (n : Int) % 10)] 5)) 58 9 5 ⟨w.heap.size, 0, none⟩ 1 [c] Tryz.underlying58 Tryz.underlying5 ustr (fun j hj => by
        have : j = 0 := by simpa using hj
        subst this
        simp [go_sem, Addr.add, hcn])
    have HC : Hid (c = UInt8.ofNat (48 + n % 10)) := hc
    clear hc hcn
    have HB : Hid (∀ o : Obj, Below w.heap.size w (w.alloc o)) := fun o => (Below.refl _ _).alloc (Nat.le_refl _) _
    have hnz : (n : Int) < 9223372036854775808 := by omega
    go_enter Tryz.func10, Tryz.ntmps10
    go_upto_region 2 with fail
    by_cases h10 : n < 10
    · have h10z : (n : Int) < 10 := by omega
      go_wp2
      go_ret
      exact ⟨by rw [digitsL_small h10, ← HC.out]; rfl, HB.out _⟩
    · have h10z : ¬ (n : Int) < 10 := by omega
      have hadd := fun w => run_add_str (P := Tryz.prog) w (digitsL (n / 10)) [c] (by have := digits_small (n := n / 10) (by omega); simp; omega)
      go_wp2_with (go_at_call 10; refine (HIH.out h10 _).mono ?_; rintro e w1 ⟨rfl, hb1⟩; have HB1 : Hid (Below w.heap.size w w1) := step_below hb1 (HB.out _); clear hb1)
      go_ret
      exact ⟨by rw [digitsL_great h10, ← HC.out]; rfl, HB1.out⟩
set_option maxHeartbeats 800000 in
theorem saidK (wd : List UInt8) (l : List Nat) (hwd : wd.length ≤ 30000000) (hl : l.length ≤ 1000000) (hlt : ∀ x, x ∈ l → x < 9223372036854775808) (ao : Option Addr) (cap : Nat) (w : World) (hc : 0 < l.length → ∃ b, ao = some ⟨b, 0, none⟩ ∧ ∀ j, j < l.length → w.cell? ⟨b, j, none⟩ = some (.int .i64 ((l.getD j 0 : Nat) : Int))) :
    Calls Tryz.prog 8 #[.string (str wd), .slice ao l.length cap] w fun e w' => e = .returned (.string (str (saidL wd l))) ∧ Below w.heap.size w w' := by
  have HC : Hid (0 < l.length → ∃ b, ao = some ⟨b, 0, none⟩ ∧ ∀ j, j < l.length → w.cell? ⟨b, j, none⟩ = some (.int .i64 ((l.getD j 0 : Nat) : Int))) := hc
  have HLT : Hid (∀ x, x ∈ l → x < 9223372036854775808) := hlt
  have hlz : (l.length : Int) ≤ 1000000 := by omega
  have HSL : Hid (∀ k, k ≤ l.length → (saidL wd (l.take k)).length ≤ 60000000) := fun k hk => by
    have := saidL_len wd (l.take k) (fun x hx => by have := hlt x (List.mem_of_mem_take hx); omega)
    simp at this
    omega
  clear hc hlt
  go_enter Tryz.func8, Tryz.ntmps8
  go_wp2
  go_loopg [0, 5] (l.length + 1) (fun gg v0 v wr => ∃ (k : Nat), v = .int .i64 k ∧ v0 = .string (str (saidL wd (l.take k))) ∧ k ≤ l.length ∧ gg = l.length + 1 - k ∧ Below w.heap.size w wr)
  case atStart => exact ⟨0, rfl, rfl, by omega, by omega, Below.refl _ _⟩
  case round =>
    obtain ⟨k, rfl, rfl, hk, hgk, hbr⟩ := hrel
    have HGK : Hid (gk = l.length + 1 - k) := hgk
    have HBR : Hid (Below w.heap.size w wr) := hbr
    obtain ⟨sd, hsd⟩ : ∃ x, x = saidL wd (l.take k) := ⟨_, rfl⟩
    rw [← hsd]
    have HSD : Hid (sd = saidL wd (l.take k)) := hsd
    have hsl : sd.length ≤ 60000000 := by rw [hsd]; exact HSL.out k hk
    clear hgk hbr hsd
    by_cases hkl : k < l.length
    · have hkz : (k : Int) < (l.length : Int) := by omega
      obtain ⟨b, rfl, hcell⟩ := HC.out (by omega)
      have d0 := step_cell HBR.out (hcell k hkl)
      have hbl := World.block_lt_of_cell? wr _ d0
      obtain ⟨x, hx⟩ : ∃ x, x = l.getD k 0 := ⟨_, rfl⟩
      rw [← hx] at d0
      have hxlt : x < 9223372036854775808 := HLT.out x (by rw [hx]; simp [List.getD, hkl])
      have HX : Hid (x = l.getD k 0) := hx
      have hds := digits_small (n := x) (by omega)
      have e32 : (⟨#[32]⟩ : ByteArray) = str [32] := rfl
      have ha1 := fun w => run_add_str (P := Tryz.prog) w sd [32] (by simp; omega)
      have ha2 := fun w => run_add_str (P := Tryz.prog) w (sd ++ [32]) (digitsL x) (by simp; omega)
      rw [← e32] at ha1
      clear hx hcell
      go_wp2_with (go_at_call 10; refine (digitsK x hxlt _).mono ?_; rintro e w1 ⟨rfl, hb1⟩; have HB1 : Hid (Below w.heap.size w w1) := step_below hb1 HBR.out; clear hb1)
      have hgk := HGK.out
      go_roundg (gk - 1)
      case measure => omega
      case rel =>
        refine ⟨k + 1, by go_num, ?_, by omega, by omega, HB1.out⟩
        have e : l.take (k + 1) = l.take k ++ [x] := by rw [HX.out, List.take_succ_eq_append_getElem hkl]; simp [List.getD, hkl]
        rw [e, saidL_snoc, ← HSD.out, str_add, str_add]
    · obtain rfl : k = l.length := by omega
      have hkz : ¬ (l.length : Int) < (l.length : Int) := by omega
      go_wp2
      go_ret
      refine ⟨?_, HBR.out⟩
      have h := HSD.out
      rw [List.take_length] at h
      rw [h]
      rfl
end form
end Go.Proofs.YtikhedkhgpjaaabGreatDoor
