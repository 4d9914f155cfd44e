/- Texts cut at a byte, and numbers in digits, on plain bytes: what strings.Cut, strconv.ParseUint and strconv.FormatUint make of them, in the words of chapter 12. -/
import Derived.Lib.IndexMore
import Derived.Lib.IndexBytes
import Derived.Lib.ItoaNum
import Derived.Lib.ParseIntB
import Derived.Lib.Join
import Derived.Laws.Strings
import Derived.Laws.Strings2
import Derived.Laws.Strings3
import Derived.Laws.Concat
import Derived.Laws.BytesString
import Derived.Lib.AppendIntMem
import Derived.Lib.CutLaws
import Derived.Lib.AtoiErrMem
import Derived.BigCall
import Derived.BigGuard
import Derived.Deep.DrawnRows
import Derived.Test.YtikhedkhgpjaaacGreatDoorProg
import Derived.Test.YtikhedkhgpjaaacGreatDoorW01

namespace Go.Proofs.YtikhedkhgpjaaacGreatDoor
set_option linter.unusedVariables false
namespace form
open Go.RowKit
def cutL (b : UInt8) : List UInt8 → List UInt8 × List UInt8 × Bool
  | [] => ([], [], false)
  | c :: s => if c = b then ([], s, true) else (c :: (cutL b s).1, (cutL b s).2.1, (cutL b s).2.2)
theorem cutL_eq {b c : UInt8} {s : List UInt8} (h : c = b) : cutL b (c :: s) = ([], s, true) := by rw [cutL, if_pos h]
theorem cutL_ne {b c : UInt8} {s : List UInt8} (h : ¬ c = b) : cutL b (c :: s) = (c :: (cutL b s).1, (cutL b s).2.1, (cutL b s).2.2) := by rw [cutL, if_neg h]
theorem cutL_no (b : UInt8) : ∀ s, (cutL b s).2.2 = false → (cutL b s).1 = s ∧ (cutL b s).2.1 = []
  | [], _ => ⟨rfl, rfl⟩
  | c :: s, h => by
    by_cases hc : c = b
    · rw [cutL_eq hc] at h; cases h
    · rw [cutL_ne hc] at h ⊢
      have := cutL_no b s h
      exact ⟨by rw [this.1], this.2⟩
theorem cutL_yes (b : UInt8) : ∀ s, (cutL b s).2.2 = true → s = (cutL b s).1 ++ b :: (cutL b s).2.1
  | [], h => by cases h
  | c :: s, h => by
    by_cases hc : c = b
    · rw [cutL_eq hc]; simp [hc]
    · rw [cutL_ne hc] at h ⊢
      have := cutL_yes b s h
      simp only [List.cons_append]
      rw [← this]
theorem cutL_len (b : UInt8) (s : List UInt8) : (cutL b s).1.length ≤ s.length ∧ (cutL b s).2.1.length ≤ s.length := by
  cases h : (cutL b s).2.2 with
  | false => have := cutL_no b s h; rw [this.1, this.2]; simp
  | true =>
    have := congrArg List.length (cutL_yes b s h)
    simp at this
    omega
theorem cutL_short (b : UInt8) (s : List UInt8) (h : (cutL b s).2.2 = true) : (cutL b s).2.1.length < s.length := by
  have := congrArg List.length (cutL_yes b s h)
  simp at this
  omega
theorem cut_index (b : UInt8) : ∀ s, ((cutL b s).2.2 = true → Lib.indexByte s b = ((cutL b s).1.length : Int)) ∧ ((cutL b s).2.2 = false → Lib.indexByte s b = -1)
  | [] => ⟨fun h => (by cases h), fun _ => rfl⟩
  | c :: s => by
    have ih := cut_index b s
    by_cases hc : c = b
    · rw [cutL_eq hc]
      refine ⟨fun _ => ?_, fun h => by cases h⟩
      unfold Lib.indexByte
      rw [if_pos (by simp [hc])]
      rfl
    · rw [cutL_ne hc]
      have hne : (c == b) = false := by simp [hc]
      refine ⟨fun h => ?_, fun h => ?_⟩
      · have h1 := ih.1 h
        unfold Lib.indexByte
        rw [hne, h1, if_neg (by simp), if_neg (by simp)]
        simp
      · have h1 := ih.2 h
        unfold Lib.indexByte
        rw [hne, h1, if_neg (by simp), if_pos (by simp)]
theorem cutL_is (b : UInt8) (s : List UInt8) : Lib.cut s [b] = cutL b s := by
  have hx := cut_index b s
  unfold Lib.cut
  rw [Lib.index_one]
  cases h : (cutL b s).2.2 with
  | false =>
    rw [hx.2 h, if_neg (by omega)]
    have := cutL_no b s h
    rw [← h]
    exact Prod.ext this.1.symm (Prod.ext this.2.symm rfl)
  | true =>
    rw [hx.1 h, if_pos (by omega)]
    have hy := cutL_yes b s h
    have e1 : s.take ((cutL b s).1.length : Int).toNat = (cutL b s).1 := by
      rw [Int.toNat_natCast]
      have e4 : ∀ k : List UInt8, s = k ++ b :: (cutL b s).2.1 → s.take k.length = k := fun k hk => by
        conv => lhs; rw [hk]
        simp
      exact e4 _ hy
    have e2 : s.drop (((cutL b s).1.length : Int).toNat + [b].length) = (cutL b s).2.1 := by
      rw [Int.toNat_natCast]
      have e : (cutL b s).1.length + [b].length = ((cutL b s).1 ++ [b]).length := by simp
      rw [e]
      have e3 : s = ((cutL b s).1 ++ [b]) ++ (cutL b s).2.1 := by simp; exact hy
      have e4 : ∀ k : List UInt8, s = k ++ (cutL b s).2.1 → s.drop k.length = (cutL b s).2.1 := fun k hk => by
        conv => lhs; rw [hk]
        simp
      exact e4 _ e3
    rw [e1, e2, ← h]
theorem split_from (b : UInt8) : ∀ (s x : List UInt8), s.foldl (stepS b) ([], x) = if (cutL b s).2.2 = true then (cutL b s).2.1.foldl (stepS b) ([x ++ (cutL b s).1], []) else ([], x ++ s)
  | [], x => by simp [cutL]
  | c :: s, x => by
    rw [List.foldl_cons]
    by_cases hc : c = b
    · rw [cutL_eq hc]
      simp [stepS, hc]
    · rw [cutL_ne hc]
      have e : stepS b ([], x) c = ([], x ++ [c]) := by simp [stepS, hc]
      rw [e, split_from b s (x ++ [c])]
      simp
theorem splitA_cut (b : UInt8) (s : List UInt8) (h : (cutL b s).2.2 = true) : splitA b s = ((cutL b s).1 :: (splitA b (cutL b s).2.1).1, (splitA b (cutL b s).2.1).2) := by
  unfold splitA
  rw [split_from b s [], if_pos h, step_more]
  simp
theorem splitA_un (b : UInt8) (s : List UInt8) (h : (cutL b s).2.2 = false) : splitA b s = ([], s) := by
  unfold splitA
  rw [split_from b s [], if_neg (by rw [h]; simp)]
  simp
theorem splitL_cut (b : UInt8) (s : List UInt8) : splitL b s = (cutL b s).1 :: (if (cutL b s).2.2 = true then splitL b (cutL b s).2.1 else []) := by
  unfold splitL
  cases h : (cutL b s).2.2 with
  | true => rw [splitA_cut b s h]; simp
  | false => rw [splitA_un b s h, (cutL_no b s h).1]; simp
theorem linesL_cut (s : List UInt8) (hs : s ≠ []) : linesL s = (cutL 10 s).1 :: linesL (cutL 10 s).2.1 := by
  unfold linesL splitL
  cases h : (cutL 10 s).2.2 with
  | true =>
    rw [splitA_cut 10 s h]
    simp only
    split <;> simp
  | false =>
    rw [splitA_un 10 s h, (cutL_no 10 s h).1, (cutL_no 10 s h).2]
    simp [hs, splitA_nil]
/-! Numbers. -/
theorem digits_dec : ∀ n, digitsL n = Lib.decDigits n := by
  intro n
  induction n using Nat.strongRecOn with
  | _ n ih =>
    rw [digitsL, Lib.decDigits]
    by_cases h : n < 10
    · rw [dif_pos h, dif_pos h, Nat.mod_eq_of_lt h]
    · rw [dif_neg h, dif_neg h, ih (n / 10) (by omega)]
theorem digits_pos (n : Nat) : digitsL n ≠ [] := by
  rw [digitsL]
  split <;> simp
theorem digit_byte {c : UInt8} (h : digB c = true) : UInt8.ofNat (48 + (c.toNat - 48)) = c := by
  have h1 : 48 ≤ c.toNat ∧ c.toNat ≤ 57 := of_decide_eq_true h
  rw [show 48 + (c.toNat - 48) = c.toNat by omega]
  exact UInt8.ofNat_toNat
theorem digit_of (n : Nat) : (UInt8.ofNat (48 + n % 10)).toNat = 48 + n % 10 := by
  rw [UInt8.toNat_ofNat']
  omega
theorem digits_head : ∀ n, 0 < n → (digitsL n).getD 0 0 ≠ 48 := by
  intro n
  induction n using Nat.strongRecOn with
  | _ n ih =>
    intro hn
    rw [digitsL]
    by_cases h : n < 10
    · rw [dif_pos h]
      intro e
      have e2 := congrArg UInt8.toNat e
      simp only [List.getD_cons_zero] at e2
      rw [digit_of] at e2
      have : (48 : UInt8).toNat = 48 := rfl
      omega
    · rw [dif_neg h]
      have h1 := ih (n / 10) (by omega) (by omega)
      have h2 := digits_pos (n / 10)
      cases hd : digitsL (n / 10) with
      | nil => exact absurd hd h2
      | cons c r => rw [hd] at h1; simpa using h1
theorem digits_back : ∀ (k : Nat) (s : List UInt8), s.length = k → s ≠ [] → s.all digB = true → (s.getD 0 0 ≠ 48 ∨ s.length = 1) → digitsL (valL s) = s := by
  intro k
  induction k with
  | zero => intro s h h2; exact absurd (List.length_eq_zero_iff.1 h) h2
  | succ k ih =>
    intro s hk hs ha hz
    obtain ⟨t, c, rfl⟩ : ∃ t c, s = t ++ [c] := ⟨s.dropLast, s.getLast hs, (List.dropLast_concat_getLast hs).symm⟩
    rw [List.all_append, Bool.and_eq_true] at ha
    have hc : digB c = true := by simpa using ha.2
    have hc2 : 48 ≤ c.toNat ∧ c.toNat ≤ 57 := of_decide_eq_true hc
    rw [valL_snoc]
    by_cases ht : t = []
    · subst ht
      have e : 10 * valL [] + (c.toNat - 48) = c.toNat - 48 := by simp [valL]
      rw [e, digitsL, dif_pos (by omega), Nat.mod_eq_of_lt (by omega), digit_byte hc]
      rfl
    · have hz2 : t.getD 0 0 ≠ 48 := by
        rcases hz with hz | hz
        · cases t with
          | nil => exact absurd rfl ht
          | cons x r => simpa using hz
        · simp at hz; exact absurd hz ht
      have h1 := ih t (by simpa using hk) ht ha.1 (Or.inl hz2)
      have hv : 1 ≤ valL t := by
        rcases Nat.eq_zero_or_pos (valL t) with h0 | h0
        · rw [h0] at h1
          rw [← h1] at hz2
          exact absurd (by rw [digitsL, dif_pos (by omega)]; rfl) hz2
        · exact h0
      rw [digitsL, dif_neg (by omega)]
      have e1 : (10 * valL t + (c.toNat - 48)) / 10 = valL t := by omega
      have e2 : (10 * valL t + (c.toNat - 48)) % 10 = c.toNat - 48 := by omega
      rw [e1, e2, h1, digit_byte hc]
theorem parse_from : ∀ (s : List UInt8) (acc : Nat), acc < 4294967296 →
    (s.all digB = true ∧ s.foldl (fun n c => 10 * n + (c.toNat - 48)) acc < 4294967296 → Lib.parseUintM 4294967295 acc s = .ok (s.foldl (fun n c => 10 * n + (c.toNat - 48)) acc)) ∧
    (∀ v, Lib.parseUintM 4294967295 acc s = .ok v → s.all digB = true ∧ s.foldl (fun n c => 10 * n + (c.toNat - 48)) acc = v ∧ v < 4294967296)
  | [], acc, h => ⟨fun _ => rfl, fun v hv => by
      have : acc = v := by simpa [Lib.parseUintM] using hv
      exact ⟨rfl, this, by omega⟩⟩
  | c :: s, acc, h => by
    have grow : ∀ (s : List UInt8) (n : Nat), n ≤ s.foldl (fun n c => 10 * n + (c.toNat - 48)) n := by
      intro s
      induction s with
      | nil => intro n; exact Nat.le_refl _
      | cons c s ih => intro n; rw [List.foldl_cons]; have := ih (10 * n + (c.toNat - 48)); omega
    rw [List.all_cons, List.foldl_cons, Lib.parseUintM]
    by_cases hc : 48 ≤ c.toNat ∧ c.toNat ≤ 57
    · have hd : digB c = true := decide_eq_true hc
      rw [if_pos hc, if_neg (by omega), hd]
      have e : acc * 10 + (c.toNat - 48) = 10 * acc + (c.toNat - 48) := by omega
      by_cases hM : 4294967295 < acc * 10 + (c.toNat - 48)
      · rw [if_pos hM]
        refine ⟨fun ⟨_, hl⟩ => ?_, fun v hv => by cases hv⟩
        have := grow s (10 * acc + (c.toNat - 48))
        omega
      · rw [if_neg hM, e]
        have ih := parse_from s (10 * acc + (c.toNat - 48)) (by omega)
        simpa using ih
    · have hd : digB c = false := decide_eq_false hc
      rw [if_neg hc, hd]
      exact ⟨fun ⟨h, _⟩ => by simp at h, fun v hv => by cases hv⟩
theorem parse_of (s : List UInt8) (v : Nat) : Lib.parseUintB 32 s = .ok v ↔ s ≠ [] ∧ s.all digB = true ∧ valL s = v ∧ v < 4294967296 := by
  unfold Lib.parseUintB
  by_cases hs : s = []
  · rw [if_pos hs]
    exact ⟨fun h => (by cases h), fun h => absurd hs h.1⟩
  · rw [if_neg hs]
    have h := parse_from s 0 (by omega)
    have e : (2 ^ 32 - 1 : Nat) = 4294967295 := rfl
    rw [e]
    constructor
    · intro hv
      have := h.2 v hv
      exact ⟨hs, this.1, this.2.1, this.2.2⟩
    · rintro ⟨_, ha, rfl, hl⟩
      exact h.1 ⟨ha, hl⟩
theorem numL_yes {s : List UInt8} {v : Nat} (h : Lib.parseUintB 32 s = .ok v) (hd : Lib.decDigits v = s) : numL s = some v := by
  obtain ⟨hs, ha, hv, hl⟩ := (parse_of s v).1 h
  rw [← digits_dec] at hd
  have hB : numB s = true := by
    unfold numB
    have hlen : s.length ≤ 10 := by rw [← hd]; exact digitsL_len 9 v (by omega)
    have hpos : 1 ≤ s.length := by
      cases s with
      | nil => exact absurd rfl hs
      | cons c r => simp
    have hz : (decide (s.getD 0 0 = 48) && decide (1 < s.length)) = false := by
      by_cases h1 : 1 < s.length
      · have hvp : 0 < v := by
          rcases Nat.eq_zero_or_pos v with h0 | h0
          · rw [h0, digitsL, dif_pos (by omega)] at hd
            rw [← hd] at h1
            simp at h1
          · exact h0
        have := digits_head v hvp
        rw [hd] at this
        rw [decide_eq_false this]
        rfl
      · simp [h1]
    rw [hz, ha, hv]
    simp [hlen, hpos, hl]
  unfold numL
  rw [if_pos hB, hv]
theorem numL_no {s : List UInt8} (h : ∀ v, Lib.parseUintB 32 s = .ok v → Lib.decDigits v ≠ s) : numL s = none := by
  unfold numL
  by_cases hB : numB s = true
  · exfalso
    have hB2 := hB
    unfold numB at hB2
    simp only [Bool.and_eq_true, decide_eq_true_eq, Bool.not_eq_true'] at hB2
    obtain ⟨⟨⟨⟨h1, h2⟩, h3⟩, h4⟩, h5⟩ := hB2
    have hs : s ≠ [] := by intro e; rw [e] at h1; simp at h1
    refine h (valL s) ((parse_of s (valL s)).2 ⟨hs, h4, rfl, h5⟩) ?_
    rw [← digits_dec]
    refine digits_back s.length s rfl hs h4 ?_
    by_cases h6 : 1 < s.length
    · left
      intro e
      rw [decide_eq_true e, decide_eq_true h6] at h3
      cases h3
    · right; omega
  · rw [if_neg hB]
theorem numL_lt {s : List UInt8} {v : Nat} (h : numL s = some v) : v < 4294967296 := by
  unfold numL at h
  split at h
  · rename_i hB
    unfold numB at hB
    simp only [Bool.and_eq_true, decide_eq_true_eq] at hB
    have : valL s = v := by simpa using h
    omega
  · cases h
theorem numsOf_snoc : ∀ (ps : List (List UInt8)) (p : List UInt8) (l : List Nat) (v : Nat), numsOf ps = some l → numL p = some v → numsOf (ps ++ [p]) = some (l ++ [v])
  | [], p, l, v, h1, h2 => by
    have : l = [] := by simpa [numsOf] using h1.symm
    subst this
    simp [numsOf, h2]
  | q :: ps, p, l, v, h1, h2 => by
    simp only [numsOf, List.cons_append] at h1 ⊢
    cases hq : numL q with
    | none => rw [hq] at h1; simp at h1
    | some x =>
      rw [hq] at h1
      cases hp : numsOf ps with
      | none => rw [hp] at h1; simp at h1
      | some r =>
        rw [hp] at h1
        have : l = x :: r := by simpa using h1.symm
        subst this
        rw [numsOf_snoc ps p r v hp h2]
        rfl
theorem numsOf_bad : ∀ (ps : List (List UInt8)) (p : List UInt8) (qs : List (List UInt8)), numL p = none → numsOf (ps ++ p :: qs) = none
  | [], p, qs, h => by simp [numsOf, h]
  | q :: ps, p, qs, h => by
    simp only [numsOf, List.cons_append]
    rw [numsOf_bad ps p qs h]
    cases numL q <;> rfl
theorem numsOf_lt : ∀ (ps : List (List UInt8)) (l : List Nat), numsOf ps = some l → (∀ x, x ∈ l → x < 4294967296) ∧ l.length = ps.length
  | [], l, h => by
    have : l = [] := by simpa [numsOf] using h.symm
    subst this
    exact ⟨fun x hx => (by cases hx), rfl⟩
  | p :: ps, l, h => by
    simp only [numsOf] at h
    cases hp : numL p with
    | none => rw [hp] at h; simp at h
    | some x =>
      rw [hp] at h
      cases hq : numsOf ps with
      | none => rw [hq] at h; simp at h
      | some r =>
        rw [hq] at h
        have e : l = x :: r := by simpa using h.symm
        subst e
        have ih := numsOf_lt ps r hq
        refine ⟨fun y hy => ?_, by simp [ih.2]⟩
        rcases List.mem_cons.1 hy with rfl | hy
        · exact numL_lt hp
        · exact ih.1 y hy
/-! Words, one blank between. -/
def joinW (ws : List (List UInt8)) : List UInt8 := Lib.join ws [32]
theorem joinW_one (x : List UInt8) : joinW [x] = x := Lib.join_one x [32]
theorem joinW_said : ∀ (l : List Nat) (x : List UInt8) (ws : List (List UInt8)), joinW ((x :: ws) ++ l.map digitsL) = saidL (joinW (x :: ws)) l := by
  intro l x ws
  have key : ∀ (l : List Nat), Lib.joinTail [32] (l.map digitsL) = (l.map (fun n => 32 :: digitsL n)).flatten := by
    intro l
    simp [Lib.joinTail, Function.comp_def]
  have said : ∀ (l : List Nat) (y : List UInt8), saidL y l = y ++ (l.map (fun n => 32 :: digitsL n)).flatten := by
    intro l
    induction l with
    | nil => intro y; simp [saidL]
    | cons n l ih =>
      intro y
      have e : saidL y (n :: l) = saidL ((y ++ [32]) ++ digitsL n) l := rfl
      rw [e, ih]
      simp
  unfold joinW
  rw [said, List.cons_append, Lib.join_cons, Lib.join_cons, ← key]
  simp [Lib.joinTail]
end form
/- Strings as lists of bytes: what each operation does with them. -/
namespace form
open Go.RowKit
def str (l : List UInt8) : ByteArray := ⟨l.toArray⟩
theorem str_size (l : List UInt8) : (str l).size = l.length := by simp [str, ByteArray.size]
theorem str_list (l : List UInt8) : (str l).toList = l := ByteArray.toList_mk l
theorem str_add (a b : List UInt8) : str a ++ str b = str (a ++ b) := ByteArray.mk_append_mk a b
theorem str_cut (l : List UInt8) (a b : Nat) : (str l).extract a b = str ((l.drop a).take (b - a)) := ByteArray.extract_mk l a b
section
variable {P : Program} (w : World)
theorem run_add_str (a b : List UInt8) (h : a.length + b.length ≤ 9223372036854775807) : (Op.stringOp .add (str a) (str b)).run P w = .ok (.string (str (a ++ b))) w := by
  rw [run_string_add_sum w _ _ (by rw [str_size, str_size]; exact h), str_add]
end
end form
/- strings.Cut at one byte, strconv.FormatInt, FormatUint and ParseUint in base 10: what they answer, on lists of bytes. -/
namespace form
open Go.Shelf Go.RowKit
set_option maxRecDepth 100000
attribute [local go_sem ↓] Go.wp_at_zero Go.wp_at_succ
structure VarOk (w : World) : Prop where
  tab : Lib.TabIs Tryz.prog w "internal/strconv.uint64pow10" .u64 Lib.pow10Tab
  syn : ∃ tp p, w.var? Tryz.prog "strconv.ErrSyntax" = some #[.iface tp p]
  rng : ∃ tp p, w.var? Tryz.prog "strconv.ErrRange" = some #[.iface tp p]
theorem var_below {P : Program} {w w' : World} {name : String} {cs : Array Value} (h : w.var? P name = some cs) (hb : Below w.heap.size w w') : w'.var? P name = some cs := by
  unfold World.var? at *
  cases hg : P.globalNamed name with
  | none => simp [hg] at h
  | some g =>
    simp only [hg, Option.bind_some] at h ⊢
    have hlt : g < w.heap.size := by
      rcases Nat.lt_or_ge g w.heap.size with h' | h'
      · exact h'
      · rw [Array.getElem?_eq_none h'] at h; simp at h
    rw [hb.block g hlt]
    exact h
theorem VarOk.on {w w' : World} (h : VarOk w) (hb : Below w.heap.size w w') : VarOk w' := by
  obtain ⟨tp, p, h1⟩ := h.syn
  obtain ⟨tq, q, h2⟩ := h.rng
  exact ⟨Lib.tabBelow_of_tabIs h.tab w' hb, ⟨tp, p, var_below h1 hb⟩, ⟨tq, q, var_below h2 hb⟩⟩
theorem drewN_belowD (w : World) (n : Nat) : Below w.heap.size w (w.drewN n) := ⟨rfl, rfl, rfl, Nat.le_refl _, fun _ _ => rfl⟩
theorem below_grow (w : World) (k : Nat) (os : Array Obj) : Below w.heap.size w (Sort.grow (w.drewN k) os) := by
  refine ⟨rfl, rfl, rfl, ?_, fun j hj => ?_⟩
  · simp [Sort.grow]
  · exact Array.getElem?_append_left (xs := w.heap) hj
set_option maxHeartbeats 1000000 in
theorem cutI (b : UInt8) (s : List UInt8) (hsl : s.length ≤ 4000000000) (w : World) :
    Calls Tryz.prog 11 #[.string (str s), .string ⟨#[b]⟩] w fun e w' => e = .returned (.tuple #[.string (str (cutL b s).1), .string (str (cutL b s).2.1), .bool (cutL b s).2.2]) ∧ ∃ n, w' = w.drewN n := by
  have hix := cut_index b s
  have ec : Lib.cut (str s).data.toList (⟨#[b]⟩ : ByteArray).data.toList = cutL b s := cutL_is b s
  have ei : Lib.indexB (str s) ⟨#[b]⟩ = Lib.indexByte s b := Lib.index_one s b
  have hC : ∀ w, Calls Tryz.prog 25 #[.string (str s), .string ⟨#[b]⟩] w fun e w' => e = .returned (.int .i64 (Lib.indexByte s b)) ∧ w' = w := fun w => Any.stringslite_Index_one laysIndex (str s) b w
  cases h : (cutL b s).2.2 with
  | false =>
    have hi := hix.2 h
    rw [hi] at hC ei
    have hn := cutL_no b s h
    rw [hn.1, hn.2]
    clear hix
    go_enter Tryz.func11, Tryz.ntmps11
    go_wp2_with (go_at_call 25; refine (hC _).mono ?_; rintro e w' ⟨rfl, rfl⟩)
    go_ret3
    exact ⟨rfl, 0, rfl⟩
  | true =>
    have hi := hix.1 h
    obtain ⟨e1, e2, e3⟩ := Lib.cutB_hit (str s) ⟨#[b]⟩ (cutL b s).1.length (by rw [ei, hi])
    rw [ec] at e1 e2
    have hl := congrArg List.length (cutL_yes b s h)
    simp only [List.length_append, List.length_cons] at hl
    have es : (str s).size = s.length := str_size s
    have eb : (⟨#[b]⟩ : ByteArray).size = 1 := rfl
    rw [eb] at e2
    have f1 : str (cutL b s).1 = (str s).extract 0 (cutL b s).1.length := e1
    have f2 : str (cutL b s).2.1 = (str s).extract ((cutL b s).1.length + 1) (str s).size := e2
    rw [f1, f2]
    rw [hi] at hC
    generalize (cutL b s).1.length = i at *
    have hsz : (str s).size ≤ 4000000000 := by omega
    have c1 : (0 : Int) ≤ ↑i := by omega
    have c2 : (↑i : Int) ≤ ↑(str s).size := by omega
    have c3 : (0 : Int) ≤ ↑i + 1 := by omega
    have c4 : (↑i + 1 : Int) ≤ ↑(str s).size := by omega
    clear hix e1 e2 f1 f2 hl es eb ec ei hi e3
    go_enter Tryz.func11, Tryz.ntmps11
    go_wp2_with (go_at_call 25; refine (hC _).mono ?_; rintro e w' ⟨rfl, rfl⟩)
    go_region
    go_wp2
    go_ret3
    exact ⟨rfl, 1, rfl⟩
set_option maxHeartbeats 1000000 in
theorem cutO (b : UInt8) (s : List UInt8) (hsl : s.length ≤ 4000000000) (w : World) :
    Calls Tryz.prog 5 #[.string (str s), .string ⟨#[b]⟩] w fun e w' => e = .returned (.tuple #[.string (str (cutL b s).1), .string (str (cutL b s).2.1), .bool (cutL b s).2.2]) ∧ ∃ n, w' = w.drewN n := by
  have hC := cutI b s hsl
  generalize cutL b s = r at *
  obtain ⟨r1, r2, r3⟩ := r
  simp only at hC ⊢
  go_enter Tryz.func5, Tryz.ntmps5
  go_wp2_with (go_at_call 11; refine (hC _).mono ?_; rintro e w' ⟨rfl, n, rfl⟩)
  go_ret3
  exact ⟨rfl, n, rfl⟩
theorem formatI (n : Nat) (hn : n ≤ 9223372036854775807) (w : World) (hv : VarOk w) :
    Calls Tryz.prog 50 #[.int .i64 n, .int .i64 10] w fun e w' => e = .returned (.string (str (digitsL n))) ∧ Below w.heap.size w w' := by
  have H := Any.strconv_FormatInt_10 laysFormat (n : Int) (by omega) (by omega) w hv.tab
  refine Calls.mono H ?_
  rintro e w' ⟨rfl, k, os, rfl⟩
  refine ⟨?_, below_grow w k os⟩
  rw [Lib.itoa_nonneg, digits_dec]
  rfl
open Go.Sort Go.Lib in
set_option maxHeartbeats 6400000 in
theorem formatUI (u : Nat) (hu : u < 18446744073709551616) (w : World) (hv : VarOk w) :
    Calls Tryz.prog 82 #[.int .u64 u, .int .i64 10] w fun e w' => e = .returned (.string (str (digitsL u))) ∧ Below w.heap.size w w' := by
  rw [digits_dec]
  by_cases hs : u < 100
  · have hC : ∀ w, Calls Tryz.prog 123 #[.int .i64 u] w fun e w' => e = .returned (.string ⟨(Lib.decDigits u).toArray⟩) ∧ w' = w := fun w => Any.internal_strconv_small (P := Tryz.prog) (ρ := renN) { laysFormat with } u hs w
    have hs2 : (u : Int) < 100 := by omega
    go_enter Tryz.func82, Tryz.ntmps82
    go_wp2_with (go_at_call 123; refine (hC _).mono ?_; rintro e w' ⟨rfl, rfl⟩)
    go_ret
    exact ⟨rfl, Below.refl _ _⟩
  · have hu1 : 1 ≤ u := by omega
    have hs2 : ¬ (u : Int) < 100 := by omega
    have hnd20 : Lib.nDigits u ≤ 20 := by have := Lib.numDigits_eq u hu1 hu; split at this <;> omega
    have hD : ∀ w, Lib.TabIs Tryz.prog w "internal/strconv.uint64pow10" .u64 Lib.pow10Tab → Calls Tryz.prog 124 #[.int .u64 u] w fun e w' => e = .returned (.int .i64 (Lib.nDigits u)) ∧ w' = w := fun w h => Any.internal_strconv_numDigits (P := Tryz.prog) (ρ := renN) { laysFormat with } u hu1 hu w h
    have hal : Tryz.prog.arrayLen 191 = 24 := by kernel_rfl
    have hsl : ∀ W, (Instr.sliceAt 191 (.pointer (some ⟨w.heap.size, 0, none⟩)) none (some (.int .i64 (Lib.nDigits u : Int))) none).run Tryz.prog W = .ok (.slice (some ⟨w.heap.size, 0, none⟩) (Lib.nDigits u) 24) W := fun W => by
      rw [run_sliceAt_array_h W 191 ⟨w.heap.size, 0, none⟩ (by kernel_rfl) .i64 (Lib.nDigits u : Int) (by omega) (by rw [hal]; omega)]
      rw [hal, show Tryz.prog.elem 191 = 5 by kernel_rfl]
      go_simp
    have hH0 := Lib.holds_zero0 w 191 (Lib.nDigits u) (by omega)
    have hfmt : Calls Tryz.prog 125 #[.slice (some ⟨w.heap.size, 0, none⟩) (Array.replicate (Lib.nDigits u) (0 : UInt8)).size 24, .int .u64 u] (w.alloc (.cells Lib.zeros24 191)) fun e w' => e = .returned (.tuple #[]) ∧ ∃ (n v' : Nat) (dk : Array UInt8), w' = (putRow (fun (b : UInt8) => Value.int .u8 (b.toNat : Int)) (w.alloc (.cells Lib.zeros24 191)) w.heap.size 0 dk).drewN n ∧ FmtInv (Array.replicate (Lib.nDigits u) (0 : UInt8)).size u 0 v' dk :=
      Any.internal_strconv_formatBase10 (P := Tryz.prog) (ρ := renN) { laysFormat with } w.heap.size 0 24 u (Array.replicate (Lib.nDigits u) 0) (w.alloc (.cells Lib.zeros24 191)) hH0 (by rw [Array.size_replicate]; exact Lib.lt_pow_nDigits u) hu (by rw [Array.size_replicate]; omega)
    rw [Array.size_replicate] at hfmt
    have HH0 := Lib.hid hH0
    have htab := Lib.hid (Lib.tabIs_alloc hv.tab (.cells Lib.zeros24 191))
    clear hH0 hal hv
    go_enter Tryz.func82, Tryz.ntmps82
    go_wp2_with (go_at_call 124; refine (hD _ htab.out).mono ?_; rintro e w' ⟨rfl, rfl⟩)
    go_at_call 125
    refine hfmt.mono ?_
    rintro e w' ⟨rfl, k, v', dk, rfl, hF⟩
    have hcv : (convert 32 9 (.slice (some ⟨w.heap.size, 0, none⟩) (Lib.nDigits u) 24)).run Tryz.prog ((putRow (fun (b : UInt8) => Value.int .u8 (b.toNat : Int)) (w.alloc (.cells Lib.zeros24 191)) w.heap.size 0 dk).drewN k) = .ok (.string ⟨(Lib.decDigits u).toArray⟩) ((putRow (fun (b : UInt8) => Value.int .u8 (b.toNat : Int)) (w.alloc (.cells Lib.zeros24 191)) w.heap.size 0 dk).drewN k) := by
      have h := run_convert_bytes_back (P := Tryz.prog) ((putRow (fun (b : UInt8) => Value.int .u8 (b.toNat : Int)) (w.alloc (.cells Lib.zeros24 191)) w.heap.size 0 dk).drewN k) 32 9 5 ⟨w.heap.size, 0, none⟩ 24 (Lib.decDigits u) Tryz.underlying32 Tryz.underlying5 Tryz.underlying9 (fun j hj => by
        rw [Lib.row_is_numeral hF j hj, Lib.add_plain, World.cell?_drewN]
        exact cell?_putRow (fun (b : UInt8) => Value.int .u8 (b.toNat : Int)) _ w.heap.size 0 _ dk HH0.out (by rw [hF.size, Array.size_replicate]) j (by rw [hF.size]; rw [Lib.decDigits_length] at hj; exact hj))
      rw [Lib.decDigits_length] at h
      exact h
    go_wp2
    go_ret
    obtain ⟨os, eo⟩ := Lib.fin_at w (.cells Lib.zeros24 191) dk k 0
    rw [eo]
    exact ⟨rfl, below_grow w k os⟩
set_option maxHeartbeats 1000000 in
theorem formatU (u : Nat) (hu : u < 18446744073709551616) (w : World) (hv : VarOk w) :
    Calls Tryz.prog 49 #[.int .u64 u, .int .i64 10] w fun e w' => e = .returned (.string (str (digitsL u))) ∧ Below w.heap.size w w' := by
  have hC := formatUI u hu w hv
  clear hv hu
  go_enter Tryz.func49, Tryz.ntmps49
  go_wp2_with (go_at_call 82; refine hC.mono ?_; rintro e w' ⟨rfl, hb⟩)
  go_ret
  exact ⟨rfl, hb⟩
theorem parseU (s : List UInt8) (hs : s.length ≤ 281474976710656) (w : World) (hv : VarOk w) :
    Calls Tryz.prog 48 #[.string (str s), .int .i64 10, .int .i64 32] w fun e w' => ((∃ v, Lib.parseUintB 32 s = .ok v ∧ e = .returned (.tuple #[.int .u64 (v : Nat), .nilIface])) ∨ ((∀ v, Lib.parseUintB 32 s ≠ .ok v) ∧ ∃ (n : Nat) (tp : TypeId) (p : Value), n < 4294967296 ∧ e = .returned (.tuple #[.int .u64 n, .iface tp p]))) ∧ Below w.heap.size w w' := by
  have hz : (str s).size ≤ 281474976710656 := by rw [str_size]; exact hs
  have el : (str s).data.toList = s := rfl
  rcases h : Lib.parseUintB 32 s with v | _ | _
  · refine Calls.mono (Any.strconv_ParseUint_10_at32_ok laysParse (str s) (by omega) v h w) ?_
    rintro e w' ⟨rfl, h1⟩
    refine ⟨Or.inl ⟨v, rfl, rfl⟩, ?_⟩
    rcases h1 with rfl | rfl
    · exact Below.refl _ _
    · exact Lib.bytesWorld_below w _ _
  · obtain ⟨tp, p, hvar⟩ := hv.syn
    refine Calls.mono (Any.strconv_ParseUint_10_at32_syntax_var laysParse (str s) hz h tp p w hvar) ?_
    rintro e w' ⟨N, rfl, _, _, hb⟩
    exact ⟨Or.inr ⟨fun v hv => (by cases hv), 0, _, _, by omega, rfl⟩, hb⟩
  · obtain ⟨tp, p, hvar⟩ := hv.rng
    refine Calls.mono (Any.strconv_ParseUint_10_at32_range_var laysParse (str s) hz h tp p w hvar) ?_
    rintro e w' ⟨N, rfl, _, _, hb⟩
    exact ⟨Or.inr ⟨fun v hv => (by cases hv), 4294967295, _, _, by omega, rfl⟩, hb⟩
end form
/- What drive.Play must answer. -/
namespace form
open Go.RowKit
def DriveSpec (L : Lay) : Prop := ∀ (s : List UInt8) (w : World), s.length ≤ 2000000 → VarOk w → Calls Tryz.prog 4 #[.string (str s)] w fun e w' => e = .returned (.string (str (playL L s))) ∧ Below w.heap.size w w'
end form
end Go.Proofs.YtikhedkhgpjaaacGreatDoor
