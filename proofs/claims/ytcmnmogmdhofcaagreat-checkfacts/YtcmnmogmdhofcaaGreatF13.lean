/- Maps of the call's own: of each place two numbers of 64 bits; of each temporary one: what each operation does with them. -/
import Derived.Maps.RangeWalk
import Derived.Maps.OwnSet
import Derived.DeepKeys4
import Derived.OpenShut
import Derived.BigQuiet
import Derived.Deep.QuietTactic
import Derived.Shelf.SlMaps.Clone
import Derived.Laws.EntriesVeiled
import Derived.Deep.RegionHeld3
import Derived.Test.YtcmnmogmdhofcaaGreatF06
import Derived.Test.YtcmnmogmdhofcaaGreatF01
import Derived.Test.YtcmnmogmdhofcaaGreatF02
import Derived.Test.YtcmnmogmdhofcaaGreatF05
import Derived.Test.YtcmnmogmdhofcaaGreatF10

namespace Go.Proofs.YtcmnmogmdhofcaaGreat.form
open Go.RowKit Go.Maps
set_option linter.unusedVariables false

def bitV (x : Bits) : Value := .int .u64 (bn x)
def knownV (h i : Bits) : Value := .agg #[.int .u64 (bn h), .int .u64 (bn i)]
def knownD (h i : Bits) : DataW Unit := .agg [.lit (.int .u64 (bn h)), .lit (.int .u64 (bn i))]

def knownElem (v : Value) : Option (DataW Unit × List MemPlace) :=
  match v with
  | .agg cs => match cs.toList with
    | [.int .u64 a, .int .u64 b] => if 0 ≤ a ∧ a < 18446744073709551616 ∧ 0 ≤ b ∧ b < 18446744073709551616 then some (.agg [.lit (.int .u64 a), .lit (.int .u64 b)], []) else none
    | _ => none
  | _ => none
theorem knownElem_mk (h i : Bits) : knownElem (knownV h i) = some (knownD h i, []) := by
  unfold knownElem knownV knownD
  simp only []
  rw [if_pos ⟨(bits_bd h).1, (bits_bd h).2, (bits_bd i).1, (bits_bd i).2⟩]
theorem knownElem_inv {v : Value} {y : DataW Unit × List MemPlace} (h : knownElem v = some y) : ∃ a b : Bits, v = knownV a b ∧ y = (knownD a b, []) := by
  unfold knownElem at h
  split at h
  · rename_i cs
    split at h
    · rename_i a b hcs
      split at h
      · rename_i hb
        obtain ⟨x, rfl⟩ := bits_of hb.1 hb.2.1
        obtain ⟨z, rfl⟩ := bits_of hb.2.2.1 hb.2.2.2
        refine ⟨x, z, ?_, (Option.some.inj h).symm⟩
        unfold knownV
        congr 1
        obtain ⟨l⟩ := cs
        simp at hcs
        rw [hcs]
      · cases h
    · cases h
  · cases h
theorem knownD_inj {a b c d : Bits} (h : knownD a b = knownD c d) : a = c ∧ b = d := by
  unfold knownD at h
  simp only [DataW.agg.injEq, List.cons.injEq, DataW.lit.injEq, Lit.int.injEq, true_and, and_true] at h
  exact ⟨bits_inj h.1, bits_inj h.2⟩

/-! Places as keys. -/
structure PlWf (p : LPlace) : Prop where
  k0 : -9223372036854775808 ≤ p.kind
  k1 : p.kind ≤ 9223372036854775807
  n0 : -9223372036854775808 ≤ p.n
  n1 : p.n ≤ 9223372036854775807

theorem laidOutP : laidOutB Tryz.prog = true := by kernel_rfl
theorem pkRow : (51 : TypeId) < Tryz.prog.types.size := of_decide_eq_true (by kernel_rfl)
theorem pkWide : (match Tryz.prog.underlying 51 with | some (.array _ _) | some (.struct _) => true | _ => false) = true := by kernel_rfl
set_option maxRecDepth 100000 in
theorem pkLaw : Keyed Tryz.prog 51 := Keyed.of_law (deep_law_laid laidOutP (m := 4) (by omega) pkRow (by kernel_rfl) pkWide)
theorem pkType : Tryz.prog.keyType 51 = true := by kernel_rfl
theorem pkCells : Tryz.prog.cellsOf 51 = 2 := by kernel_rfl
theorem pkFormed (p : LPlace) : (p.val).formed Tryz.prog 51 = true := by
  have hu := Tryz.underlying51
  simp [LPlace.val, Value.formed, hu, pkCells]
theorem i64_wfP {x : Int} (h0 : -9223372036854775808 ≤ x) (h1 : x ≤ 9223372036854775807) : (Lit.int .i64 x).wf = true := WalkArith.wf_i64 ⟨h0, h1⟩
theorem pkLits {p : LPlace} (hf : PlWf p) : Tryz.prog.keyLits (Tryz.prog.types.size + 1) 51 (p.val).cells.toList = some [.int .i64 p.kind, .int .i64 p.n] := by
  obtain ⟨m, hm⟩ : ∃ m, Tryz.prog.types.size + 1 = m + 2 := ⟨Tryz.prog.types.size - 1, by have : 2 ≤ Tryz.prog.types.size := of_decide_eq_true (by kernel_rfl); omega⟩
  have hp := Tryz.underlying51
  have hi : Tryz.prog.underlying 3 = some (.int .i64) := Tryz.underlying3
  have c2 : Tryz.prog.cellsOf 3 = 1 := by kernel_rfl
  have w1 := i64_wfP hf.k0 hf.k1
  have w2 := i64_wfP hf.n0 hf.n1
  rw [hm]
  have kI : ∀ d x, (Lit.int .i64 x).wf = true → Tryz.prog.keyLits (d + 1) 3 [.int .i64 x] = some [.int .i64 x] := fun d x h => by simp [Program.keyLits, hi, h]
  show Tryz.prog.keyLits (m + 1 + 1) 51 [.int .i64 p.kind, .int .i64 p.n] = _
  unfold Program.keyLits
  rw [hp]
  simp only []
  rw [if_pos ⟨by rw [pkCells]; rfl, by kernel_rfl⟩]
  simp [c2, kI m _ w1, kI m _ w2]
def placeKey (p : LPlace) : Lit := .string (keyBytes [.int .i64 p.kind, .int .i64 p.n])
theorem place_key {p : LPlace} (hf : PlWf p) : keyOf Tryz.prog 51 p.val = some (placeKey p) := by
  unfold keyOf
  have hu := Tryz.underlying51
  rw [hu]
  simp only [pkType, pkFormed, Bool.and_self, if_true, pkLits hf]
  rfl
theorem placeV_inj {p q : LPlace} (h : p.val = q.val) : p = q := by
  unfold LPlace.val at h
  obtain ⟨a, b⟩ := p
  obtain ⟨c, d⟩ := q
  simp at h
  obtain ⟨rfl, rfl⟩ := h
  rfl
theorem place_key_inj {p q : LPlace} (hp : PlWf p) (hq : PlWf q) (h : placeKey p = placeKey q) : p = q :=
  placeV_inj (pkLaw.inj (place_key hp) (h ▸ place_key hq))
theorem lits_intP {d : Nat} {v : Value} {l : List Lit} (h : Tryz.prog.keyLits (d + 1) 3 [v] = some l) : ∃ x, v = .int .i64 x ∧ -9223372036854775808 ≤ x ∧ x ≤ 9223372036854775807 ∧ l = [.int .i64 x] := by
  have hi : Tryz.prog.underlying 3 = some (.int .i64) := Tryz.underlying3
  unfold Program.keyLits at h
  rw [hi] at h
  cases v with
  | int q x =>
    simp at h
    obtain ⟨⟨rfl, hw⟩, rfl⟩ := h
    have := bounds_i64 hw
    exact ⟨x, rfl, this.1, this.2, rfl⟩
  | _ => simp at h
set_option maxRecDepth 100000 in
theorem place_inv {v : Value} {kl : Lit} (h : keyOf Tryz.prog 51 v = some kl) : ∃ p, PlWf p ∧ v = p.val ∧ kl = placeKey p := by
  have hp := Tryz.underlying51
  have c2 : Tryz.prog.cellsOf 3 = 1 := by kernel_rfl
  unfold keyOf at h
  rw [hp] at h
  simp only [pkType, Bool.true_and] at h
  by_cases hform : v.formed Tryz.prog 51 = true
  case neg => rw [if_neg hform] at h; cases h
  rw [if_pos hform] at h
  cases v with
  | agg cs =>
    simp [Value.formed, hp, pkCells] at hform
    obtain ⟨a, b, rfl⟩ : ∃ a b, cs = #[a, b] := by
      obtain ⟨l⟩ := cs
      simp at hform
      match l, hform with
      | [a, b], _ => exact ⟨a, b, rfl⟩
    obtain ⟨m, hm⟩ : ∃ m, Tryz.prog.types.size + 1 = m + 2 := ⟨Tryz.prog.types.size - 1, by have : 2 ≤ Tryz.prog.types.size := of_decide_eq_true (by kernel_rfl); omega⟩
    rw [hm] at h
    have h' : (Tryz.prog.keyLits (m + 1 + 1) 51 [a, b]).map (fun ls => Lit.string (keyBytes ls)) = some kl := h
    clear h
    unfold Program.keyLits at h'
    rw [hp] at h'
    simp only [] at h'
    rw [if_pos ⟨by rw [pkCells]; rfl, by kernel_rfl⟩] at h'
    simp [c2, Option.bind_eq_some_iff] at h'
    obtain ⟨l1, k1, l2, ⟨l3, k3, rfl⟩, rfl⟩ := h'
    obtain ⟨x1, rfl, p1, p2, rfl⟩ := lits_intP k1
    obtain ⟨x2, rfl, p3, p4, rfl⟩ := lits_intP k3
    exact ⟨⟨x1, x2⟩, ⟨p1, p2, p3, p4⟩, rfl, rfl⟩
  | _ => simp [Value.formed, hp] at hform
theorem placeKey_lit (p : LPlace) : WideAt.IsKeyLit (placeKey p) := by unfold placeKey; trivial
theorem sameKey_places {p q : LPlace} (hp : PlWf p) (hq : PlWf q) : (placeKey p).sameKey (placeKey q) = true ↔ p = q := by
  by_cases h : p = q
  · subst h
    simp [placeKey, Lit.sameKey]
  · rw [sameKey_ne (fun e => h (place_key_inj hp hq e))]
    simp [h]

/-! The map of places. -/

structure PSays (A : List LPlace) (D : DataW Unit) (gh gi : LPlace → Bits) : Prop where
  keys : ∀ p, PlWf p → Maps.has D (placeKey p) = true → p ∈ A
  at_ : ∀ p, PlWf p → D.atKey (placeKey p) (knownD 0 0) = knownD (gh p) (gi p)
def PMap (w : World) (b : Nat) (A : List LPlace) (gh gi : LPlace → Bits) : Prop := ∃ D : DataW Unit, w.ownsMap Tryz.prog 51 knownElem b A.length D ∧ PSays A D gh gi

theorem PMap.lt {w : World} {b : Nat} {A : List LPlace} {gh gi : LPlace → Bits} (h : PMap w b A gh gi) : b < w.heap.size := by obtain ⟨D, h1, -⟩ := h; exact h1.lt
theorem PMap.new (w : World) (A : List LPlace) : PMap (w.alloc (.map #[] 0)) w.heap.size A (fun _ => 0) (fun _ => 0) :=
  ⟨.map [], (World.ownsMap_made _ _ _ _).mono (Nat.zero_le _), fun p _ h => by simp [Maps.has] at h, fun p _ => atKey_of_not_has (by simp [Maps.has]) _⟩

theorem len_of_apartP {α : Type} : ∀ {l m : List α}, l.Pairwise (fun a b => a ≠ b) → (∀ a, a ∈ l → a ∈ m) → l.length ≤ m.length
  | [], m, _, _ => Nat.zero_le _
  | a :: l, m, hp, hs => by
    obtain ⟨p, q, rfl⟩ := List.append_of_mem (hs a (by simp))
    have h1 := (List.pairwise_cons.1 hp)
    have h2 := len_of_apartP (l := l) (m := p ++ q) h1.2 (fun b hb => by
      have h3 := hs b (by simp [hb])
      have h4 := h1.1 b hb
      simp only [List.mem_append, List.mem_cons] at h3 ⊢
      rcases h3 with h3 | h3 | h3
      · exact Or.inl h3
      · exact absurd h3.symm h4
      · exact Or.inr h3)
    simp at h2 ⊢
    omega
theorem own_tight {w : World} {b n : Nat} {D : DataW Unit} {A : List LPlace} (h : w.ownsMap Tryz.prog 51 knownElem b n D) (hk : ∀ p, PlWf p → Maps.has D (placeKey p) = true → p ∈ A) : w.ownsMap Tryz.prog 51 knownElem b A.length D := by
  obtain ⟨es, clock, hb, F, hs, hD⟩ := h
  refine ⟨es, clock, hb, F, ?_, hD⟩
  have hap := fit_apart pkLaw F
  have hks := fit_keys F
  have hl : (es.toList.map (fun x => (WideElems.rg (H := Unit) Tryz.prog 51 knownElem x).1)).length ≤ (A.map placeKey).length := by
    refine len_of_apartP ?_ (fun kl hkl => ?_)
    · rw [List.pairwise_map] at hap ⊢
      exact hap
    · rw [List.mem_map] at hkl
      obtain ⟨x, hx, rfl⟩ := hkl
      obtain ⟨v, hv⟩ := hks _ (List.mem_map.2 ⟨x, hx, rfl⟩)
      obtain ⟨p, hp, -, hkey⟩ := place_inv hv
      rw [hkey]
      refine List.mem_map.2 ⟨p, hk p hp ?_, rfl⟩
      rw [hD, has_eq, List.any_eq_true]
      refine ⟨WideElems.rg Tryz.prog 51 knownElem x, mem_sorted.2 (List.mem_map.2 ⟨x, hx, rfl⟩), ?_⟩
      rw [hkey]
      exact (sameKey_places hp hp).2 rfl
  simpa using hl

theorem zeroK (w : World) : (zeroValue 89).run Tryz.prog w = .ok (knownV 0 0) w := by kernel_rfl

theorem PMap.look {w : World} {b : Nat} {A : List LPlace} {gh gi : LPlace → Bits} (h : PMap w b A gh gi) {p : LPlace} (hp : PlWf p) : (Instr.lookup 84 (.map (some b)) p.val false).run Tryz.prog w = .ok (knownV (gh p) (gi p)) w := by
  obtain ⟨D, h1, h2⟩ := h
  obtain ⟨v, ps, hrun, hv⟩ := h1.lookup pkLaw Tryz.underlying84 (zeroK w) (knownElem_mk 0 0) (place_key hp)
  rw [h2.at_ p hp] at hv
  obtain ⟨x, y, rfl, hy⟩ := knownElem_inv hv
  simp only [Prod.mk.injEq] at hy
  obtain ⟨rfl, rfl⟩ := knownD_inj hy.1
  exact hrun

theorem PSays.put {A : List LPlace} {D : DataW Unit} {gh gi : LPlace → Bits} (h : PSays A D gh gi) (hD : IsMap D) {q : LPlace} (hq : PlWf q) (hA : q ∈ A) (x y : Bits) : PSays A (D.put (placeKey q) (knownD x y)) (updP gh q x) (updP gi q y) := by
  refine ⟨fun p hp hh => ?_, fun p hp => ?_⟩
  · by_cases e : p = q
    · rw [e]; exact hA
    · rw [has_put_other (fun h => e (place_key_inj hp hq h))] at hh
      exact h.keys p hp hh
  · by_cases e : p = q
    · subst e
      rw [atKey_put_same hD (placeKey_lit _)]
      unfold updP
      rw [if_pos (samePl_refl p), if_pos (samePl_refl p)]
    · rw [atKey_put_other (fun h => e (place_key_inj hp hq h)), h.at_ p hp]
      unfold updP
      rw [if_neg (fun h => e (samePl_eq h)), if_neg (fun h => e (samePl_eq h))]

section
variable (w : World) {ops : Array Oper} {rest : List Oper} {o : Oper} {a : Act} {Q : Exit → Act → World → Prop}
end

/-! The map of temporaries. -/
theorem tkLaw : Keyed Tryz.prog 3 := int_keyed Tryz.underlying3
def TWf (t : Int) : Prop := -9223372036854775808 ≤ t ∧ t ≤ 9223372036854775807
def tKey (t : Int) : Lit := .int .i64 t
theorem t_key {t : Int} (h : TWf t) : keyOf Tryz.prog 3 (.int .i64 t) = some (tKey t) := keyOf_int_mk Tryz.underlying3 (i64_wfP h.1 h.2)
theorem t_inv {v : Value} {kl : Lit} (h : keyOf Tryz.prog 3 v = some kl) : ∃ t, TWf t ∧ v = .int .i64 t ∧ kl = tKey t := by
  obtain ⟨x, rfl, rfl, hw⟩ := keyOf_int_inv Tryz.underlying3 h
  have := bounds_i64 hw
  exact ⟨x, ⟨this.1, this.2⟩, rfl, rfl⟩
theorem tKey_inj {s t : Int} (h : tKey s = tKey t) : s = t := by unfold tKey at h; simpa using h
theorem tKey_lit (t : Int) : WideAt.IsKeyLit (tKey t) := by unfold tKey; trivial
theorem sameKey_temps {s t : Int} : (tKey s).sameKey (tKey t) = true ↔ s = t := by
  by_cases h : s = t
  · subst h
    simp [tKey, Lit.sameKey]
  · rw [sameKey_ne (fun e => h (tKey_inj e))]
    simp [h]
theorem u64_wf (x : Bits) : (Lit.int .u64 (bn x)).wf = true := WalkArith.wf_u64 (by have := bits_bd x; omega)
def setD (x : Bits) : DataW Unit := .lit (.int .u64 (bn x))

structure TSays (A : List Int) (D : DataW Unit) (g : Int → Bits) : Prop where
  keys : ∀ t, TWf t → Maps.has D (tKey t) = true → t ∈ A
  at_ : ∀ t, TWf t → D.atKey (tKey t) (setD 0) = setD (g t)
def TMap (w : World) (b : Nat) (A : List Int) (g : Int → Bits) : Prop := ∃ D : DataW Unit, w.ownsMap Tryz.prog 3 (plainElem Tryz.prog 83) b A.length D ∧ TSays A D g

theorem TMap.lt {w : World} {b : Nat} {A : List Int} {g : Int → Bits} (h : TMap w b A g) : b < w.heap.size := by obtain ⟨D, h1, -⟩ := h; exact h1.lt
theorem TMap.new (w : World) (A : List Int) : TMap (w.alloc (.map #[] 0)) w.heap.size A (fun _ => 0) :=
  ⟨.map [], (World.ownsMap_made _ _ _ _).mono (Nat.zero_le _), fun p _ h => by simp [Maps.has] at h, fun p _ => atKey_of_not_has (by simp [Maps.has]) _⟩
theorem own_tightT {w : World} {b n : Nat} {D : DataW Unit} {A : List Int} (h : w.ownsMap Tryz.prog 3 (plainElem Tryz.prog 83) b n D) (hk : ∀ t, TWf t → Maps.has D (tKey t) = true → t ∈ A) : w.ownsMap Tryz.prog 3 (plainElem Tryz.prog 83) b A.length D := by
  obtain ⟨es, clock, hb, F, hs, hD⟩ := h
  refine ⟨es, clock, hb, F, ?_, hD⟩
  have hap := fit_apart tkLaw F
  have hks := fit_keys F
  have hl : (es.toList.map (fun x => (WideElems.rg (H := Unit) Tryz.prog 3 (plainElem Tryz.prog 83) x).1)).length ≤ (A.map tKey).length := by
    refine len_of_apartP ?_ (fun kl hkl => ?_)
    · rw [List.pairwise_map] at hap ⊢
      exact hap
    · rw [List.mem_map] at hkl
      obtain ⟨x, hx, rfl⟩ := hkl
      obtain ⟨v, hv⟩ := hks _ (List.mem_map.2 ⟨x, hx, rfl⟩)
      obtain ⟨t, ht, -, hkey⟩ := t_inv hv
      rw [hkey]
      refine List.mem_map.2 ⟨t, hk t ht ?_, rfl⟩
      rw [hD, has_eq, List.any_eq_true]
      refine ⟨WideElems.rg Tryz.prog 3 (plainElem Tryz.prog 83) x, mem_sorted.2 (List.mem_map.2 ⟨x, hx, rfl⟩), ?_⟩
      rw [hkey]
      exact sameKey_temps.2 rfl
  simpa using hl
theorem zeroS (w : World) : (zeroValue 83).run Tryz.prog w = .ok (.int .u64 0) w := by kernel_rfl
theorem TMap.look {w : World} {b : Nat} {A : List Int} {g : Int → Bits} (h : TMap w b A g) {t : Int} (ht : TWf t) : (Instr.lookup 85 (.map (some b)) (.int .i64 t) false).run Tryz.prog w = .ok (bitV (g t)) w := by
  obtain ⟨D, h1, h2⟩ := h
  obtain ⟨c, hrun, hat, hwc⟩ := h1.lookup_int tkLaw Tryz.underlying85 Tryz.underlying83 (zeroS w) (t_key ht)
  have h3 := h2.at_ t ht
  have e : setD 0 = .lit (.int .u64 0) := rfl
  rw [e, hat] at h3
  unfold setD at h3
  simp only [DataW.lit.injEq, Lit.int.injEq, true_and] at h3
  rw [hrun, h3]
  rfl
theorem TSays.put {A : List Int} {D : DataW Unit} {g : Int → Bits} (h : TSays A D g) (hD : IsMap D) {q : Int} (hA : q ∈ A) (x : Bits) : TSays A (D.put (tKey q) (setD x)) (updT g q x) := by
  refine ⟨fun p hp hh => ?_, fun p hp => ?_⟩
  · by_cases e : p = q
    · rw [e]; exact hA
    · rw [has_put_other (fun h => e (tKey_inj h))] at hh
      exact h.keys p hp hh
  · by_cases e : p = q
    · subst e
      rw [atKey_put_same hD (tKey_lit _)]
      unfold updT
      rw [if_pos rfl]
    · rw [atKey_put_other (fun h => e (tKey_inj h)), h.at_ p hp]
      unfold updT
      rw [if_neg e]
section
variable (w : World) {ops : Array Oper} {rest : List Oper} {o : Oper} {a : Act} {Q : Exit → Act → World → Prop}
end
end Go.Proofs.YtcmnmogmdhofcaaGreat.form

/- Numbers of 64 bits as bits: the operations; sets by them (check.only, set.contains, known.and). -/
namespace Go.Proofs.YtcmnmogmdhofcaaGreat.form
open Go.RowKit Go.Maps
set_option linter.unusedVariables false
attribute [local go_sem ↓] Go.wp_at_zero Go.wp_at_succ

theorem shl_is {k : Nat} (hk : k < 64) : IntKind.u64.wrap (2 ^ k) = bn (only k) := by
  have e : (only k).toNat = 2 ^ k := by
    unfold only
    rw [BitVec.toNat_twoPow]
    exact Nat.mod_eq_of_lt (Nat.pow_lt_pow_right (by omega) hk)
  have h := bits_bd (only k)
  unfold bn at h ⊢
  rw [e] at h ⊢
  push_cast at h ⊢
  exact wrapU h.1 h.2
theorem hasBit_is {x : Bits} {k : Nat} (hk : k < 64) : (!((x &&& only k) == 0)) = x.getLsbD k := by
  rw [Bool.eq_iff_iff]
  simp only [Bool.not_eq_true', beq_eq_false_iff_ne, ne_eq]
  rw [bits_ne]
  constructor
  · rintro ⟨j, hj⟩
    rw [bits_and, only_bit hk] at hj
    rw [← hj.2]; exact hj.1
  · intro h
    exact ⟨k, by rw [bits_and, only_bit hk]; exact ⟨h, rfl⟩⟩

theorem onlyO (k : Nat) (hk : k < 64) (w : World) : Calls Tryz.prog 51 #[.int .i64 k] w fun e w' => e = .returned (.int .u64 (bn (only k))) ∧ w' = w := by
  have h0 : (0 : Int) ≤ (k : Int) := by omega
  have h1 : (k : Int) ≤ 64 := by omega
  have hs := shl_is hk
  go_enter Tryz.func51, Tryz.ntmps51
  go_wp2
  go_ret
  exact ⟨rfl, rfl⟩

theorem containsO (x : Bits) (k : Nat) (hk : k < 64) (w : World) : Calls Tryz.prog 30 #[.int .u64 (bn x), .int .i64 k] w fun e w' => e = .returned (.bool (x.getLsbD k)) ∧ w' = w := by
  have ha := and_is x (only k)
  have hn := ne_is (x &&& only k)
  rw [hasBit_is hk] at hn
  go_enter Tryz.func30, Tryz.ntmps30
  go_wp2_with (go_at_call 51; refine (onlyO k hk _).mono ?_; rintro e w' ⟨rfl, hw'⟩; obtain rfl := hw'.symm)
  go_ret
  exact ⟨rfl, rfl⟩

theorem andO (a b c d : Bits) (w : World) : Calls Tryz.prog 97 #[knownV a b, knownV c d] w fun e w' => e = .returned (knownV (a &&& c) (b &&& d)) ∧ Below w.heap.size w w' := by
  have h1 := and_is a c
  have h2 := and_is b d
  unfold knownV
  have HB : Hid (∀ o1 o2 o3 : Obj, Below w.heap.size w (((w.alloc o1).alloc o2).alloc o3)) := fun o1 o2 o3 => (((Below.refl _ _).alloc (Nat.le_refl _) _).alloc (by simp) _).alloc (by simp; omega) _
  go_enter Tryz.func97, Tryz.ntmps97
  go_wp2
  refine bodyPost_ret (v := knownV (a &&& c) (b &&& d)) ?_ rfl ⟨rfl, HB.out _ _ _⟩
  simp [results, Tryz.results97, go_sem, knownV]

end Go.Proofs.YtcmnmogmdhofcaaGreat.form

/- What lies in memory while facts are found: the world of facts; facts in their maps. -/
namespace Go.Proofs.YtcmnmogmdhofcaaGreat.form
open Go.RowKit Go.Maps
set_option linter.unusedVariables false

theorem PMap.of_block {w w' : World} {b : Nat} {A : List LPlace} {gh gi : LPlace → Bits} (h : PMap w b A gh gi) (hb : w'.heap[b]? = w.heap[b]?) : PMap w' b A gh gi := by
  obtain ⟨D, ⟨es, clock, h1, F, hs, hD⟩, h2⟩ := h
  exact ⟨D, ⟨es, clock, hb.trans h1, F, hs, hD⟩, h2⟩
theorem TMap.of_block {w w' : World} {b : Nat} {A : List Int} {g : Int → Bits} (h : TMap w b A g) (hb : w'.heap[b]? = w.heap[b]?) : TMap w' b A g := by
  obtain ⟨D, ⟨es, clock, h1, F, hs, hD⟩, h2⟩ := h
  exact ⟨D, ⟨es, clock, hb.trans h1, F, hs, hD⟩, h2⟩
theorem PMap.below {w w' : World} {b : Nat} {A : List LPlace} {gh gi : LPlace → Bits} (h : PMap w b A gh gi) (hb : Below w.heap.size w w') : PMap w' b A gh gi := h.of_block (hb.block b h.lt)
theorem TMap.below {w w' : World} {b : Nat} {A : List Int} {g : Int → Bits} (h : TMap w b A g) (hb : Below w.heap.size w w') : TMap w' b A g := h.of_block (hb.block b h.lt)

structure FMAt (w : World) (q mp mt : Nat) (A : List LPlace) (T : List Int) (m : FM) : Prop where
  c0 : w.cell? ⟨q, 0, none⟩ = some (.map (some mp))
  c1 : w.cell? ⟨q, 1, none⟩ = some (.map (some mt))
  pm : PMap w mp A m.has m.is
  tm : TMap w mt T m.tmp
  n1 : q ≠ mp
  n2 : q ≠ mt
  n3 : mp ≠ mt
theorem cell_lt {w : World} {q o : Nat} {v : Value} (h : w.cell? ⟨q, o, none⟩ = some v) : q < w.heap.size := World.block_lt_of_cell? w _ h
theorem FMAt.lt {w : World} {q mp mt : Nat} {A : List LPlace} {T : List Int} {m : FM} (h : FMAt w q mp mt A T m) : q < w.heap.size ∧ mp < w.heap.size ∧ mt < w.heap.size := ⟨cell_lt h.c0, h.pm.lt, h.tm.lt⟩
theorem FMAt.below {w w' : World} {q mp mt : Nat} {A : List LPlace} {T : List Int} {m : FM} (h : FMAt w q mp mt A T m) (hb : Below w.heap.size w w') : FMAt w' q mp mt A T m :=
  ⟨step_cell hb h.c0, step_cell hb h.c1, h.pm.below hb, h.tm.below hb, h.n1, h.n2, h.n3⟩
theorem But.cellOf {x y : Nat} {w w' : World} (h : But x y w w') {q o : Nat} {v : Value} (hc : w.cell? ⟨q, o, none⟩ = some v) (h1 : q ≠ x) (h2 : q ≠ y) : w'.cell? ⟨q, o, none⟩ = some v := by
  rw [World.cell?_of_block (w := w) (h.block q (cell_lt hc) h1 h2)]
  exact hc
theorem FMAt.but {w w' : World} {q mp mt x y : Nat} {A : List LPlace} {T : List Int} {m : FM} (h : FMAt w q mp mt A T m) (hb : But x y w w') (h1 : q ≠ x ∧ q ≠ y) (h2 : mp ≠ x ∧ mp ≠ y) (h3 : mt ≠ x ∧ mt ≠ y) : FMAt w' q mp mt A T m :=
  ⟨hb.cellOf h.c0 h1.1 h1.2, hb.cellOf h.c1 h1.1 h1.2, h.pm.of_block (hb.block mp h.pm.lt h2.1 h2.2), h.tm.of_block (hb.block mt h.tm.lt h3.1 h3.2), h.n1, h.n2, h.n3⟩
theorem grown_but {w w' : World} {x y : Nat} (h : w.grownBy w' (some x)) : But x y w w' := ⟨h.os, h.tape, h.output, h.size, fun k hk h1 _ => h.block k hk (fun e => h1 (Option.some.inj e))⟩
theorem But.toBelow {x y lim : Nat} {w w' : World} (h : But x y w w') (hl : lim ≤ w.heap.size) (h1 : lim ≤ x) (h2 : lim ≤ y) : Below lim w w' := ⟨h.os, h.tape, h.output, h.size, fun k hk => h.block k (by omega) (by omega) (by omega)⟩
theorem But.mono {x y : Nat} {w0 w w' : World} (h : But x y w w') (hb : Below w0.heap.size w0 w) : But x y w0 w' := (But.of_below hb).trans h

structure WB where
  q : Nat
  b0 : Nat
  o0 : Nat
  c0 : Nat
  b1 : Nat
  o1 : Nat
  c1 : Nat
  b2 : Nat
  o2 : Nat
  c2 : Nat
  b3 : Nat
  c3 : Nat
  b4 : Nat
  c4 : Nat

structure Stat (w : World) (g : WB) (B : List Bool) (C : List LIns) (R : List LRow) (A : List LPlace) (N : List Int) : Prop where
  p0 : w.cell? ⟨g.q, 0, none⟩ = some (.slice (some ⟨g.b0, g.o0, none⟩) B.length g.c0)
  p1 : w.cell? ⟨g.q, 1, none⟩ = some (.slice (some ⟨g.b1, g.o1, none⟩) C.length g.c1)
  p2 : w.cell? ⟨g.q, 2, none⟩ = some (.slice (some ⟨g.b2, g.o2, none⟩) R.length g.c2)
  p3 : w.cell? ⟨g.q, 3, none⟩ = some (.slice (some ⟨g.b3, 0, none⟩) A.length g.c3)
  p4 : w.cell? ⟨g.q, 4, none⟩ = some (.slice (some ⟨g.b4, 0, none⟩) N.length g.c4)
  held : Held w g.b0 g.o0 g.b1 g.o1 B C
  rows : RowsHeld w g.b2 g.o2 R
  plc : ∀ j, j < A.length → w.cell? ⟨g.b3, j * 2, none⟩ = some (.int .i64 (A.getD j .zero).kind) ∧ w.cell? ⟨g.b3, j * 2 + 1, none⟩ = some (.int .i64 (A.getD j .zero).n)
  nums : ∀ j, j < N.length → w.cell? ⟨g.b4, j, none⟩ = some (.int .u32 (N.getD j 0))
theorem Stat.later {w w' : World} {g : WB} {B : List Bool} {C : List LIns} {R : List LRow} {A : List LPlace} {N : List Int} (h : Stat w g B C R A N) (hb : Below w.heap.size w w') : Stat w' g B C R A N :=
  ⟨step_cell hb h.p0, step_cell hb h.p1, step_cell hb h.p2, step_cell hb h.p3, step_cell hb h.p4, h.held.later hb, h.rows.later hb, fun j hj => ⟨step_cell hb (h.plc j hj).1, step_cell hb (h.plc j hj).2⟩, fun j hj => step_cell hb (h.nums j hj)⟩

def WorldAt (w : World) (lim : Nat) (g : WB) (B : List Bool) (C : List LIns) (R : List LRow) (A : List LPlace) (N : List Int) : Prop := ∃ w0 : World, w0.heap.size = lim ∧ Stat w0 g B C R A N ∧ Below lim w0 w
section
variable {w w' : World} {lim : Nat} {g : WB} {B : List Bool} {C : List LIns} {R : List LRow} {A : List LPlace} {N : List Int}
theorem WorldAt.stat (h : WorldAt w lim g B C R A N) : Stat w g B C R A N := by
  obtain ⟨w0, h1, h2, h3⟩ := h
  exact h2.later (by rw [h1]; exact h3)
theorem WorldAt.le (h : WorldAt w lim g B C R A N) : lim ≤ w.heap.size := by
  obtain ⟨w0, h1, h2, h3⟩ := h
  rw [← h1]; exact h3.size
theorem WorldAt.keep (h : WorldAt w lim g B C R A N) (hb : Below lim w w') : WorldAt w' lim g B C R A N := by
  obtain ⟨w0, h1, h2, h3⟩ := h
  exact ⟨w0, h1, h2, h3.trans hb⟩
theorem WorldAt.below (h : WorldAt w lim g B C R A N) (hb : Below w.heap.size w w') : WorldAt w' lim g B C R A N := h.keep (hb.mono h.le)
theorem WorldAt.but {x y : Nat} (h : WorldAt w lim g B C R A N) (hb : But x y w w') (h1 : lim ≤ x) (h2 : lim ≤ y) : WorldAt w' lim g B C R A N := h.keep (hb.toBelow h.le h1 h2)
theorem WorldAt.start (h : Stat w g B C R A N) : WorldAt w w.heap.size g B C R A N := ⟨w, rfl, h, Below.refl _ _⟩
end

structure Dims (B : List Bool) (C : List LIns) (s slots : Nat) (A : List LPlace) (N : List Int) : Prop where
  b1 : 1 ≤ B.length
  b12 : B.length ≤ 12
  c1 : 1 ≤ C.length
  c40 : C.length ≤ 40
  s4 : 4 ≤ s
  s16 : s ≤ 16
  s2 : s % 2 = 0
  l12 : slots ≤ 12
  a36 : A.length ≤ 36
  all : ∀ p, p ∈ A ↔ isB s slots p = true
  n1 : 1 ≤ N.length
  n41 : N.length ≤ 41
  inc : N.Pairwise (· < ·)
  num : NumsOf C N

theorem Dims.wf {B : List Bool} {C : List LIns} {s slots : Nat} {A : List LPlace} {N : List Int} (h : Dims B C s slots A N) {p : LPlace} (hp : isB s slots p = true) : PlWf p := by
  have := h.s16
  have := h.l12
  rcases is_cases hp with ⟨a, b, c⟩ | ⟨a, b, c⟩ | ⟨a, b, c⟩ <;> exact ⟨by omega, by omega, by omega, by omega⟩
def tempsL (n : Nat) : List Int := (List.range n).map (fun t : Nat => (t : Int))
theorem tempsL_len (n : Nat) : (tempsL n).length = n := by simp [tempsL]
theorem tempsL_mem {n : Nat} {t : Int} : t ∈ tempsL n ↔ 0 ≤ t ∧ t < n := by
  unfold tempsL
  rw [List.mem_map]
  constructor
  · rintro ⟨k, hk, rfl⟩
    have := List.mem_range.1 hk
    omega
  · rintro ⟨h0, h1⟩
    exact ⟨t.toNat, List.mem_range.2 (by omega), by omega⟩

end Go.Proofs.YtcmnmogmdhofcaaGreat.form

/- Maps that are copied (maps.Clone, facts.clone), and such of a map's places as stay (maps.DeleteFunc, facts.keep, check.apartFrom). -/
namespace Go.Proofs.YtcmnmogmdhofcaaGreat.form
open Go.RowKit Go.Maps
set_option linter.unusedVariables false
set_option maxRecDepth 100000

theorem cloneP (b : Nat) (A : List LPlace) (gh gi : LPlace → Bits) (w : World) (h : PMap w b A gh gi) :
    Calls Tryz.prog 91 #[.map (some b)] w fun e w' => e = .returned (.map (some w.heap.size)) ∧ PMap w' w.heap.size A gh gi ∧ Below w.heap.size w w' := by
  have hlt := h.lt
  obtain ⟨D, ⟨es, clock, hb, F, hs, hD⟩, h2⟩ := h
  have hq := fun w => run_eql_map_nil_sl (P := Tryz.prog) w 84 _ _ (some b) Tryz.underlying84
  have hB : Below w.heap.size w (w.alloc (.map es clock)) := (Below.refl _ w).alloc (Nat.le_refl _) _
  have HF : Hid (PMap (w.alloc (.map es clock)) w.heap.size A gh gi ∧ Below w.heap.size w (w.alloc (.map es clock))) := ⟨⟨D, ⟨es, clock, (MapKept.heap_alloc w _).1, F, hs, hD⟩, h2⟩, hB⟩
  clear F hs hD h2 hB
  go_enter Tryz.func91, Tryz.ntmps91
  go_wp2
  rw [run_callFunc_extern Tryz.func106 (by kernel_rfl) (by kernel_rfl) (by kernel_rfl) (e := Extern.MapsClone.clone) (by kernel_rfl), run_maps_clone_sl w 84 hb]
  simp only [Result.andThen]
  rw [Oper.upon_value]
  go_wp2
  rw [run_typeAssert_map_sl _ 84 20 _ _ _ Tryz.underlying84]
  simp only [Result.andThen]
  rw [Oper.upon_value]
  go_wp2
  go_ret
  exact ⟨rfl, HF.out⟩

theorem cloneT (b : Nat) (A : List Int) (g : Int → Bits) (w : World) (h : TMap w b A g) :
    Calls Tryz.prog 92 #[.map (some b)] w fun e w' => e = .returned (.map (some w.heap.size)) ∧ TMap w' w.heap.size A g ∧ Below w.heap.size w w' := by
  have hlt := h.lt
  obtain ⟨D, ⟨es, clock, hb, F, hs, hD⟩, h2⟩ := h
  have hq := fun w => run_eql_map_nil_sl (P := Tryz.prog) w 85 _ _ (some b) Tryz.underlying85
  have hB : Below w.heap.size w (w.alloc (.map es clock)) := (Below.refl _ w).alloc (Nat.le_refl _) _
  have HF : Hid (TMap (w.alloc (.map es clock)) w.heap.size A g ∧ Below w.heap.size w (w.alloc (.map es clock))) := ⟨⟨D, ⟨es, clock, (MapKept.heap_alloc w _).1, F, hs, hD⟩, h2⟩, hB⟩
  clear F hs hD h2 hB
  go_enter Tryz.func92, Tryz.ntmps92
  go_wp2
  rw [run_callFunc_extern Tryz.func106 (by kernel_rfl) (by kernel_rfl) (by kernel_rfl) (e := Extern.MapsClone.clone) (by kernel_rfl), run_maps_clone_sl w 85 hb]
  simp only [Result.andThen]
  rw [Oper.upon_value]
  go_wp2
  rw [run_typeAssert_map_sl _ 85 20 _ _ _ Tryz.underlying85]
  simp only [Result.andThen]
  rw [Oper.upon_value]
  go_wp2
  go_ret
  exact ⟨rfl, HF.out⟩
end Go.Proofs.YtcmnmogmdhofcaaGreat.form

/- Facts of one point are copied (facts.clone). -/
namespace Go.Proofs.YtcmnmogmdhofcaaGreat.form
open Go.RowKit Go.Maps
set_option linter.unusedVariables false
set_option maxRecDepth 100000
attribute [local go_sem ↓] Go.wp_at_zero Go.wp_at_succ

theorem fm_new {w2 : World} {A : List LPlace} {T : List Int} {m : FM} {mp mt : Nat} (h1 : PMap w2 mp A m.has m.is) (h2 : TMap w2 mt T m.tmp) (hne : mp ≠ mt) : FMAt (w2.alloc (.cells #[.map (some mp), .map (some mt)] 87)) w2.heap.size mp mt A T m := by
  have a := h1.lt
  have b := h2.lt
  exact ⟨by simp [go_sem], by simp [go_sem], h1.below ((Below.refl _ _).alloc (Nat.le_refl _) _), h2.below ((Below.refl _ _).alloc (Nat.le_refl _) _), by omega, by omega, hne⟩

set_option maxHeartbeats 4000000 in
theorem cloneF (q mp mt : Nat) (A : List LPlace) (T : List Int) (m : FM) (w : World) (h : FMAt w q mp mt A T m) :
    Calls Tryz.prog 68 #[.pointer (some ⟨q, 0, none⟩)] w fun e w' => ∃ q' mp' mt', e = .returned (.pointer (some ⟨q', 0, none⟩)) ∧ w.heap.size ≤ q' ∧ w.heap.size ≤ mp' ∧ w.heap.size ≤ mt' ∧ FMAt w' q' mp' mt' A T m ∧ Below w.heap.size w w' := by
  have HP : Hid (PMap w mp A m.has m.is) := h.pm
  have HT : Hid (TMap w mt T m.tmp) := h.tm
  have x0 := h.c0
  have x1 := h.c1
  have hql := h.lt.1
  clear h
  go_enter Tryz.func68, Tryz.ntmps68
  go_upto_region 1 with fail
  refine wp_region_held_drew (S := (fun w' => Below w.heap.size w w' ∧ w'.cell? ⟨q, 0, none⟩ = some (.map (some mp)) ∧ w'.cell? ⟨q, 1, none⟩ = some (.map (some mt)))) (by rfl) ?_ (fun hHeld => ?_)
  · (exact ⟨(Below.refl _ _).drew, step_cell (Below.refl _ _).drew x0, step_cell (Below.refl _ _).drew x1⟩)
  refine wpAnyH_take (i := 0) (v := ?_) rfl (by kernel_rfl) (by kernel_rfl) (by kernel_rfl) (fun _ _ _ h => h) (Or.inl ⟨by rfl, ?_⟩) (by assumption) ?_
  case refine_2 => (intro w hSw; (try dsimp only at hSw); go_simp; first | done | (with_reducible rfl))
  show wpAnyH _ _ _ _ _ _ _ (Act.put _ (some 3) _) _
  simp only [Act.put, List.setIfInBounds_toArray, List.set_cons_zero, List.set_cons_succ]
  refine wpAnyH_take (i := 1) (v := ?_) rfl (by kernel_rfl) (by kernel_rfl) (by kernel_rfl) (fun _ _ _ h => h) (Or.inl ⟨by rfl, ?_⟩) (by assumption) ?_
  case refine_2 => (intro w hSw; (try dsimp only at hSw); go_simp; first | done | (with_reducible rfl))
  show wpAnyH _ _ _ _ _ _ _ (Act.put _ (some 4) _) _
  simp only [Act.put, List.setIfInBounds_toArray, List.set_cons_zero, List.set_cons_succ]
  refine wpAnyH_take (i := 2) (v := ?_) rfl (by kernel_rfl) (by kernel_rfl) (by kernel_rfl) (fun _ _ _ h => h) (Or.inl ⟨by rfl, ?_⟩) (by assumption) ?_
  case refine_2 => (intro w hSw; (try dsimp only at hSw); go_simp; first | done | (with_reducible rfl))
  show wpAnyH _ _ _ _ _ _ _ (Act.put _ (some 5) _) _
  simp only [Act.put, List.setIfInBounds_toArray, List.set_cons_zero, List.set_cons_succ]
  refine wpAnyH_take (i := 3) (v := ?_) rfl (by kernel_rfl) (by kernel_rfl) (by kernel_rfl) (fun _ _ _ h => h) (Or.inl ⟨by rfl, ?_⟩) (by assumption) ?_
  case refine_2 => (intro w hSw; (try dsimp only at hSw); go_simp; first | done | (with_reducible rfl))
  show wpAnyH _ _ _ _ _ _ _ (Act.put _ (some 6) _) _
  simp only [Act.put, List.setIfInBounds_toArray, List.set_cons_zero, List.set_cons_succ]
  refine wpAnyH_take (i := 5) (v := ?_) rfl (by kernel_rfl) (by kernel_rfl) (by kernel_rfl) (fun _ _ _ h => h) (Or.inl ⟨by rfl, ?_⟩) (by assumption) ?_
  case refine_2 => (intro w hSw; (try dsimp only at hSw); go_simp; first | done | (with_reducible rfl))
  show wpAnyH _ _ _ _ _ _ _ (Act.put _ (some 8) _) _
  simp only [Act.put, List.setIfInBounds_toArray, List.set_cons_zero, List.set_cons_succ]
  refine wpAnyH_take (i := 6) (v := ?_) rfl (by kernel_rfl) (by kernel_rfl) (by kernel_rfl) (fun _ _ _ h => h) (Or.inl ⟨by rfl, ?_⟩) (by assumption) ?_
  case refine_2 => (intro w hSw; (try dsimp only at hSw); go_simp; first | done | (with_reducible rfl))
  show wpAnyH _ _ _ _ _ _ _ (Act.put _ (some 9) _) _
  simp only [Act.put, List.setIfInBounds_toArray, List.set_cons_zero, List.set_cons_succ]
  refine wpAnyH_take (i := 7) (v := ?_) rfl (by kernel_rfl) (by kernel_rfl) (by kernel_rfl) (fun _ _ _ h => h) (Or.inl ⟨by rfl, ?_⟩) (by assumption) ?_
  case refine_2 => (intro w hSw; (try dsimp only at hSw); go_simp; first | done | (with_reducible rfl))
  show wpAnyH _ _ _ _ _ _ _ (Act.put _ (some 10) _) _
  simp only [Act.put, List.setIfInBounds_toArray, List.set_cons_zero, List.set_cons_succ]
  refine wpAnyH_take (i := 8) (v := ?_) rfl (by kernel_rfl) (by kernel_rfl) (by kernel_rfl) (fun _ _ _ h => h) (Or.inl ⟨by rfl, ?_⟩) (by assumption) ?_
  case refine_2 => (intro w hSw; (try dsimp only at hSw); go_simp; first | done | (with_reducible rfl))
  show wpAnyH _ _ _ _ _ _ _ (Act.put _ (some 11) _) _
  simp only [Act.put, List.setIfInBounds_toArray, List.set_cons_zero, List.set_cons_succ]
  refine wpAnyH_ready (rs := [4]) (by kernel_rfl) (by simp) ?_
  refine (AllReadyH.cons rfl (fun K hK => ?_) AllReadyH.nil)
  go_simp
  go_at_call 91
  refine (cloneP mp A m.has m.is _ (HP.out.below hHeld.1)).mono ?_
  rintro e w9 ⟨rfl, hpp, hbr⟩
  have HPP : Hid _ := hpp
  clear hpp
  go_wp2_with fail
  refine hK.out _ _ ?_ (fun hHeld => ?_)
  · (exact ⟨step_below hbr hHeld.1, step_cell hbr hHeld.2.1, step_cell hbr hHeld.2.2⟩)
  clear hK K
  try simp only [Act.put, List.setIfInBounds_toArray, List.set_cons_zero, List.set_cons_succ]
  have hz9 := hbr.size
  clear hbr
  refine wpAnyH_ready (rs := [9]) (by kernel_rfl) (by simp) ?_
  refine (AllReadyH.cons rfl (fun K hK => ?_) AllReadyH.nil)
  go_simp
  go_at_call 92
  refine (cloneT mt T m.tmp _ (HT.out.below hHeld.1)).mono ?_
  rintro e w8 ⟨rfl, htt, hbr⟩
  have HTT : Hid _ := htt
  clear htt
  go_wp2_with fail
  have HPP2 : Hid (PMap w8 _ A m.has m.is) := PMap.below HPP.out hbr
  have hlt9 := PMap.lt HPP.out
  refine hK.out _ _ ?_ (fun hHeld => ?_)
  · (exact ⟨step_below hbr hHeld.1, step_cell hbr hHeld.2.1, step_cell hbr hHeld.2.2⟩)
  clear hK K
  try simp only [Act.put, List.setIfInBounds_toArray, List.set_cons_zero, List.set_cons_succ]
  clear hbr
  refine wpAnyH_take (i := 10) (v := ?_) rfl (by kernel_rfl) (by kernel_rfl) (by kernel_rfl) (fun _ _ _ h => h) (Or.inl ⟨by rfl, ?_⟩) (by assumption) ?_
  case refine_2 => (intro w hSw; (try dsimp only at hSw); go_simp; first | done | (with_reducible rfl))
  show wpAnyH _ _ _ _ _ _ _ (Act.put _ (some 13) _) _
  simp only [Act.put, List.setIfInBounds_toArray, List.set_cons_zero, List.set_cons_succ]
  refine wpAnyH_ready (rs := [11]) (by kernel_rfl) (by simp) ?_
  refine (AllReadyH.cons rfl (fun K hK => ?_) AllReadyH.nil)
  go_simp
  refine hK.out _ _ ?_ (fun hHeld => ?_)
  · (exact ⟨hHeld.1.alloc hHeld.1.size _, step_cell ((Below.refl _ _).alloc (Nat.le_refl _) _) hHeld.2.1, step_cell ((Below.refl _ _).alloc (Nat.le_refl _) _) hHeld.2.2⟩)
  clear hK K
  try simp only [Act.put, List.setIfInBounds_toArray, List.set_cons_zero, List.set_cons_succ]
  refine wpAnyH_take (i := 12) (v := ?_) rfl (by kernel_rfl) (by kernel_rfl) (by kernel_rfl) (fun _ _ _ h => h) (Or.inl ⟨by rfl, ?_⟩) (by assumption) ?_
  case refine_2 => (intro w hSw; (try dsimp only at hSw); go_simp; first | done | (with_reducible rfl))
  show wpAnyH _ _ _ _ _ _ _ (Act.put _ (some 2) _) _
  simp only [Act.put, List.setIfInBounds_toArray, List.set_cons_zero, List.set_cons_succ]
  have HBB : Hid _ := hHeld.1
  refine wpAnyH_done (by kernel_rfl) ?_ _
  clear hHeld
  go_wp2
  go_ret
  have l8 : w9.heap.size < w8.heap.size := TMap.lt HTT.out
  have l9 : w.heap.size < w9.heap.size := hlt9
  have e0 : w.drew.heap.size = w.heap.size := rfl
  exact ⟨w8.heap.size, w.drew.heap.size, w9.heap.size, rfl, by omega, by omega, by omega, fm_new HPP2.out HTT.out (by omega), HBB.out⟩

end Go.Proofs.YtcmnmogmdhofcaaGreat.form
