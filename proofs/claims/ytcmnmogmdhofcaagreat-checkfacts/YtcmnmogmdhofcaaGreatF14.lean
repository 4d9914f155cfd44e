/- Such of a map's places as stay (maps.DeleteFunc, facts.keep, check.apartFrom). -/
import Derived.Test.YtcmnmogmdhofcaaGreatProg
import Derived.Sort.AssemblyPlain
import Derived.Sort.Row
import Derived.WalkKit
import Derived.BigGuard
import Derived.BigCall
import Derived.CellFam
import Derived.Below
import Derived.Deep.Draws
import Derived.Deep.QuietTactic
import Derived.BigQuiet
import Derived.KernelRfl
import Derived.Maps.RangeWalk
import Derived.Deep.CutRange
import Derived.Deep.DeepCutAuto
import Derived.Deep.LoopGhost
import Derived.Test.YtcmnmogmdhofcaaGreatF13

namespace Go.Proofs.YtcmnmogmdhofcaaGreat.form
open Go.RowKit Go.Maps
set_option linter.unusedVariables false
set_option maxRecDepth 100000
attribute [local go_sem ↓] Go.wp_at_zero Go.wp_at_succ

structure StaysP (w : World) (mb F : Nat) (c1 : Value) (P : LPlace → Bool) : Prop where
  ent : ∀ x w, Sem.run Tryz.prog (callFunc F #[x, c1]) w = .ok (.enter F #[x, c1]) w
  call : ∀ p w2, PlWf p → But mb mb w w2 → Calls Tryz.prog F #[p.val, c1] w2 fun e w' => e = .returned (.bool (P p)) ∧ Below w2.heap.size w2 w'

def farB (q p : LPlace) : Bool := !overO p q

theorem apartFromO (q : LPlace) (w : World) : Calls Tryz.prog 96 #[q.val] w fun e w' => e = .returned (.func (.func 113) #[] #[.pointer (some ⟨w.heap.size, 0, none⟩)]) ∧ w' = w.alloc (.cells #[.int .i64 q.kind, .int .i64 q.n] 51) := by
  unfold LPlace.val
  go_enter Tryz.func96, Tryz.ntmps96
  go_wp2
  go_ret
  exact ⟨rfl, rfl⟩

theorem apart1 (q p : LPlace) (cb : Nat) (w : World) (h0 : w.cell? ⟨cb, 0, none⟩ = some (.int .i64 q.kind)) (h1 : w.cell? ⟨cb, 1, none⟩ = some (.int .i64 q.n)) :
    Calls Tryz.prog 113 #[p.val, .pointer (some ⟨cb, 0, none⟩)] w fun e w' => e = .returned (.bool (farB q p)) ∧ Below w.heap.size w w' := by
  have hlt := cell_lt h0
  have HB : Hid (∀ o1 : Obj, Below w.heap.size w (w.alloc o1)) := fun o1 => (Below.refl _ _).alloc (Nat.le_refl _) _
  unfold LPlace.val
  go_enter Tryz.func113, Tryz.ntmps113
  go_wp2_with (go_at_call 114; refine (overlapO p q _).mono ?_; rintro e w1 ⟨rfl, hb1⟩)
  go_ret
  exact ⟨rfl, step_below hb1 (HB.out _)⟩

theorem staysApart (q : LPlace) (cb mb : Nat) (w : World) (h0 : w.cell? ⟨cb, 0, none⟩ = some (.int .i64 q.kind)) (h1 : w.cell? ⟨cb, 1, none⟩ = some (.int .i64 q.n)) (hne : cb ≠ mb) : StaysP w mb 113 (.pointer (some ⟨cb, 0, none⟩)) (farB q) :=
  ⟨fun x w => rfl, fun p w2 hp hb => apart1 q p cb w2 (hb.cellOf h0 hne hne) (hb.cellOf h1 hne hne)⟩

theorem keep1 (F fb : Nat) (c1 : Value) (P : LPlace → Bool) (p : LPlace) (x y : Bits) (mb : Nat) (w0 w : World) (hs : StaysP w0 mb F c1 P) (hp : PlWf p) (hb : But mb mb w0 w) (hf : w.cell? ⟨fb, 0, none⟩ = some (.func (.func F) #[] #[c1])) :
    Calls Tryz.prog 112 #[p.val, knownV x y, .pointer (some ⟨fb, 0, none⟩)] w fun e w' => e = .returned (.bool (!P p)) ∧ Below w.heap.size w w' := by
  have hent := hs.ent
  have HC : Hid (∀ p w2, PlWf p → But mb mb w0 w2 → Calls Tryz.prog F #[p.val, c1] w2 fun e w' => e = .returned (.bool (P p)) ∧ Below w2.heap.size w2 w') := hs.call
  have HB0 : Hid (But mb mb w0 w) := hb
  have HP : Hid (PlWf p) := hp
  have hlt := cell_lt hf
  have HB : Hid (∀ o1 o2 : Obj, Below w.heap.size w ((w.alloc o1).alloc o2)) := fun o1 o2 => ((Below.refl _ _).alloc (Nat.le_refl _) _).alloc (by simp) _
  clear hs hp hb
  unfold LPlace.val knownV
  go_enter Tryz.func112, Tryz.ntmps112
  go_wp2_with fail
  refine (HC.out p _ HP.out (HB0.out.trans (But.of_below (HB.out _ _)))).mono ?_
  rintro e w1 ⟨rfl, hb1⟩
  go_wp2
  go_ret
  exact ⟨rfl, step_below hb1 (HB.out _ _)⟩
theorem over_sameC (a b : LPlace) : overO a b = overB a b := by
  unfold overO overB singB
  rw [Bool.eq_iff_iff]
  by_cases h : a.kind = b.kind
  · rw [if_pos h]
    simp
    constructor
    · rintro ((h1 | h1) | h1)
      · exact h1.2
      · omega
      · omega
    · exact fun h1 => Or.inl (Or.inl ⟨h, h1⟩)
  · rw [if_neg h]
    by_cases h1 : a.kind = 1 ∧ b.kind = 2
    · rw [if_pos h1]; simp; omega
    · rw [if_neg h1]
      by_cases h2 : a.kind = 2 ∧ b.kind = 1
      · rw [if_pos h2]; simp; omega
      · rw [if_neg h2]; simp; omega

structure DRel (w : World) (mb it : Nat) (A : List LPlace) (gh gi : LPlace → Bits) (P : LPlace → Bool) (lk : Lit → Bool) (cnt : Nat) (D : DataW Unit) (wr : World) : Prop where
  rg : wr.ranges Tryz.prog 51 knownElem mb it A.length D lk cnt
  keys : ∀ p, PlWf p → Maps.has D (placeKey p) = true → p ∈ A
  at_ : ∀ p, PlWf p → D.atKey (placeKey p) (knownD 0 0) = if (lk (placeKey p) || P p) = true then knownD (gh p) (gi p) else knownD 0 0

set_option maxHeartbeats 4000000 in
theorem deleteP (mb F fb : Nat) (c1 : Value) (A : List LPlace) (gh gi : LPlace → Bits) (P : LPlace → Bool) (w0 w : World) (h : PMap w mb A gh gi) (hs : StaysP w0 mb F c1 P) (hb : But mb mb w0 w) (hf : w.cell? ⟨fb, 0, none⟩ = some (.func (.func F) #[] #[c1])) (hfm : fb ≠ mb) :
    Calls Tryz.prog 111 #[.map (some mb), .func (.func 112) #[] #[.pointer (some ⟨fb, 0, none⟩)]] w fun e w' => e = .returned (.tuple #[]) ∧ PMap w' mb A (fun p => if P p = true then gh p else 0) (fun p => if P p = true then gi p else 0) ∧ But mb mb w w' := by
  have hbl := h.lt
  have hfl := cell_lt hf
  obtain ⟨D0, hown, hsay⟩ := h
  have HO : Hid (w.ownsMap Tryz.prog 51 knownElem mb A.length D0) := hown
  have HSY : Hid (PSays A D0 gh gi) := hsay
  have HST : Hid (StaysP w0 mb F c1 P) := hs
  have HB0 : Hid (But mb mb w0 w) := hb
  have HF : Hid (w.cell? ⟨fb, 0, none⟩ = some (.func (.func F) #[] #[c1])) := hf
  clear hown hsay hs hb hf
  go_enter Tryz.func111, Tryz.ntmps111
  go_wp2_with (first
    | (at_range; refine wpList_range_own _ rfl _ 84 rfl 51 89 pkLaw Tryz.underlying84 knownElem mb A.length D0 rfl HO.out ?_; intro wa hrg0 hg0 hs0)
    | go_in)
  go_frame
  have HR0 : Hid (DRel w mb w.heap.size A gh gi P (Maps.has D0) (Maps.size D0) D0 wa) := ⟨hrg0, HSY.out.keys, fun p hp => by
    rw [HSY.out.at_ p hp]
    split
    · rfl
    · rename_i hh
      have : Maps.has D0 (placeKey p) = false := by cases hc : Maps.has D0 (placeKey p) with | false => rfl | true => rw [hc] at hh; simp at hh
      rw [← HSY.out.at_ p hp, atKey_of_not_has this]⟩
  have HBA : Hid (But mb mb w wa) := ⟨hg0.os, hg0.tape, hg0.output, hg0.size, fun k hk _ _ => hg0.block k hk (by simp)⟩
  have hsa : w.heap.size < wa.heap.size := by omega
  clear hrg0 hg0 hs0
  go_loopw [8] (fun _ wr => ∃ (lk : Lit → Bool) (cnt : Nat) (D : DataW Unit), DRel w mb w.heap.size A gh gi P lk cnt D wr ∧ But mb mb w wr ∧ w.heap.size < wr.heap.size) (fun _ wr => wr.rangeLeft mb w.heap.size)
  case atStart => exact ⟨_, _, _, HR0.out, HBA.out, hsa⟩
  case round =>
    clear HR0 HBA hsa
    obtain ⟨lk, cnt, D, hrel2, hbr, hsr⟩ := hrel
    have HR : Hid (DRel w mb w.heap.size A gh gi P lk cnt D wr) := hrel2
    have HBR : Hid (But mb mb w wr) := hbr
    have HSR : Hid (w.heap.size < wr.heap.size) := hsr
    clear hrel2 hbr hsr
    go_wp2_with (first
      | (at_next; refine wpList_next_ranges _ rfl _ rfl 51 pkLaw knownElem LPlace.val (fun xy : Bits × Bits => knownV xy.1 xy.2) (fun key kl hk => by obtain ⟨p, -, rfl, -⟩ := place_inv hk; exact ⟨p, rfl⟩) (fun v y hv => by obtain ⟨a, b, rfl, -⟩ := knownElem_inv hv; exact ⟨(a, b), rfl⟩) mb w.heap.size A.length D lk cnt rfl HR.out.rg ?_ ?_)
      | go_in)
    · intro hc0 hl0
      go_wp2
      go_end0
      refine ⟨rfl, ⟨D, HR.out.rg.owns, HR.out.keys, fun p hp => ?_⟩, HBR.out⟩
      rw [HR.out.at_ p hp, hl0]
      simp only [Bool.false_or]
      split <;> rfl
    · intro p x z kl y1 y2 w1 cnt1 hkey hlk hv hat hrg1 hlt hg1 hs1 hen
      obtain ⟨p', hpw, hpv, rfl⟩ := place_inv hkey
      obtain rfl := placeV_inj hpv
      have HRG1 : Hid (w1.ranges Tryz.prog 51 knownElem mb w.heap.size A.length D (fun z => lk z && !z.sameKey (placeKey p)) cnt1) := hrg1
      have HB1 : Hid (But mb mb w w1) := ⟨hg1.os.trans HBR.out.os, hg1.tape.trans HBR.out.tape, hg1.output.trans HBR.out.output, Nat.le_trans HBR.out.size hg1.size, fun k hk h1 h2 => (hg1.block k (Nat.lt_of_lt_of_le hk HBR.out.size) (fun e => by have := Option.some.inj e; omega)).trans (HBR.out.block k hk h1 h2)⟩
      have HS1 : Hid (w.heap.size < w1.heap.size) := by have := HSR.out; show _ < _; omega
      have HLK : Hid (lk (placeKey p) = true) := hlk
      have hm1 : mb < w1.heap.size := by have := HB1.out.size; omega
      clear hs1 hrg1 hg1 hlk hkey hat hpv
      unfold LPlace.val knownV at hen ⊢
      go_wp2_with fail
      have hbx : Below w1.heap.size w1 ((w1.alloc (.cells #[.int .i64 p.kind, .int .i64 p.n] 51)).alloc (.cells #[.int .u64 (bn x), .int .u64 (bn z)] 89)) := ((Below.refl _ _).alloc (Nat.le_refl _) _).alloc (by simp) _
      have hbw := HB1.out.trans (But.of_below hbx)
      refine (keep1 F fb c1 P p x z mb w0 _ HST.out hpw (HB0.out.trans hbw) (hbw.cellOf HF.out hfm hfm)).mono ?_
      rintro e w3 ⟨rfl, hb3⟩
      have HB3 : Hid (Below w1.heap.size w1 w3) := step_below hb3 hbx
      have x0 : w3.cell? ⟨w1.heap.size, 0, none⟩ = some (.int .i64 p.kind) := step_cell hb3 (by simp [go_sem])
      have x1 : w3.cell? ⟨w1.heap.size, 1, none⟩ = some (.int .i64 p.n) := step_cell hb3 (by simp [go_sem])
      have hrg3 : w3.ranges Tryz.prog 51 knownElem mb w.heap.size A.length D (fun z => lk z && !z.sameKey (placeKey p)) cnt1 := HRG1.out.kept (row := none) ⟨HB3.out.os, HB3.out.tape, HB3.out.output, HB3.out.size, fun j hj _ => HB3.out.block j hj⟩ (by simp) (by simp)
      have HRG3 : Hid (w3.ranges Tryz.prog 51 knownElem mb w.heap.size A.length D (fun z => lk z && !z.sameKey (placeKey p)) cnt1) := hrg3
      have HBW3 : Hid (But mb mb w w3) := HB1.out.trans (But.of_below HB3.out)
      have HS3 : Hid (w.heap.size < w3.heap.size) := Nat.lt_of_lt_of_le HS1.out HB3.out.size
      have AT : Hid (∀ p', PlWf p' → ¬ p' = p → ((lk (placeKey p') && !(placeKey p').sameKey (placeKey p)) || P p') = (lk (placeKey p') || P p')) := fun p' hp' hne => by rw [show (placeKey p').sameKey (placeKey p) = false from by rw [← Bool.not_eq_true, sameKey_places hp' hpw]; exact hne]; simp
      clear hbx hbw hb3 hen hrg3
      cases hP : P p with
      | true =>
        have HPP : Hid (P p = true) := hP
        clear hP
        go_wp2
        go_roundw
        case rel =>
          refine ⟨_, cnt1, D, ⟨HRG3.out, HR.out.keys, fun p' hp' => ?_⟩, HBW3.out, HS3.out⟩
          rw [HR.out.at_ p' hp']
          by_cases e : p' = p
          · subst e; rw [HPP.out, HLK.out]; simp
          · rw [← AT.out p' hp' e]
        case measure => rw [HRG3.out.left_eq, HR.out.rg.left_eq]; exact hlt
      | false =>
        have HPP : Hid (P p = false) := hP
        clear hP
        go_wp2_with (first
          | (at_delete; refine wpList_delete_ranges _ rfl _ _ 84 51 rfl 89 pkLaw Tryz.underlying84 knownElem mb w.heap.size A.length D _ cnt1 rfl HRG3.out _ _ rfl (place_key hpw) ?_; intro w4 cnt4 hrg4 hle4 hturn4; go_frame)
          | go_in)
        rw [strike_twice] at hrg4
        have hg4 := hturn4.grown
        go_roundw
        case rel =>
          refine ⟨_, cnt4, D.del (placeKey p), ⟨hrg4, fun p' hp' hh => ?_, fun p' hp' => ?_⟩, HBW3.out.trans (grown_but hg4), Nat.lt_of_lt_of_le HS3.out hg4.size⟩
          · by_cases e : p' = p
            · subst e; rw [has_del_same] at hh; cases hh
            · rw [has_del_other (fun h => e (place_key_inj hp' hpw h))] at hh; exact HR.out.keys p' hp' hh
          · by_cases e : p' = p
            · subst e
              rw [atKey_del_same, HPP.out, show (placeKey p').sameKey (placeKey p') = true from (sameKey_places hpw hpw).2 rfl]
              simp
            · rw [atKey_del_other (fun h => e (place_key_inj hp' hpw h)), HR.out.at_ p' hp', ← AT.out p' hp' e]
        case measure => rw [hrg4.left_eq, HR.out.rg.left_eq]; omega

set_option maxHeartbeats 4000000 in
theorem keepF (q mp mt F : Nat) (c1 : Value) (A : List LPlace) (T : List Int) (m : FM) (P : LPlace → Bool) (w : World) (h : FMAt w q mp mt A T m) (hs : StaysP w mp F c1 P) :
    Calls Tryz.prog 95 #[.pointer (some ⟨q, 0, none⟩), .func (.func F) #[] #[c1]] w fun e w' => e = .returned (.tuple #[]) ∧ FMAt w' q mp mt A T ⟨fun p => if P p = true then m.has p else 0, fun p => if P p = true then m.is p else 0, m.tmp⟩ ∧ But mp mp w w' := by
  have x0 := h.c0
  have hql := h.lt.1
  have hml := h.lt.2.1
  have HFM : Hid (FMAt w q mp mt A T m) := h
  have HST : Hid (StaysP w mp F c1 P) := hs
  have HB : Hid (Below w.heap.size w (w.alloc (.cells #[.func (.func F) #[] #[c1]] 128))) := (Below.refl _ _).alloc (Nat.le_refl _) _
  clear h hs
  go_enter Tryz.func95, Tryz.ntmps95
  go_wp2_with fail
  go_at_call 111
  have hne : w.heap.size ≠ mp := by omega
  refine (deleteP mp F w.heap.size c1 A m.has m.is P w _ (HFM.out.pm.below HB.out) HST.out (But.of_below HB.out) (by simp [go_sem]) hne).mono ?_
  rintro e w1 ⟨rfl, hp1, hb1⟩
  have HP1 : Hid (PMap w1 mp A (fun p => if P p = true then m.has p else 0) (fun p => if P p = true then m.is p else 0)) := hp1
  have HB1 : Hid (But mp mp w w1) := hb1.mono HB.out
  clear hp1 hb1
  go_wp2
  go_end0
  have h := HFM.out
  have hb := HB1.out
  exact ⟨rfl, ⟨hb.cellOf h.c0 h.n1 h.n1, hb.cellOf h.c1 h.n1 h.n1, HP1.out, h.tm.of_block (hb.block mt h.tm.lt (Ne.symm h.n3) (Ne.symm h.n3)), h.n1, h.n2, h.n3⟩, hb⟩

end Go.Proofs.YtcmnmogmdhofcaaGreat.form

/- Rows of numbers of 32 bits that are sorted in place (slices.Sort at []uint32): what lies in memory; cmp.Less; the insertion sort. -/
namespace Go.Proofs.YtcmnmogmdhofcaaGreat.sortu
open Go.RowKit Go.Sort
set_option linter.unusedVariables false
set_option maxRecDepth 100000

def numOf : Value → Int | .int _ q => q | _ => 0
abbrev encU : Int → Value := Value.int .u32

structure Row (w0 : World) (blk off : Nat) (d : Array Int) (w : World) : Prop where
  holds : Holds encU w blk off d
  grown : w0.grownBy w (some blk)

theorem Row.drewN {w0 w : World} {blk off : Nat} {d : Array Int} (h : Row w0 blk off d w) (q : Nat) : Row w0 blk off d (w.drewN q) := ⟨h.holds, ⟨h.grown.os, h.grown.tape, h.grown.output, h.grown.size, h.grown.block⟩⟩
theorem Row.trans {w0 w1 w2 : World} {blk off : Nat} {d d' : Array Int} (h : Row w0 blk off d w1) (h' : Row w1 blk off d' w2) : Row w0 blk off d' w2 := ⟨h'.holds, h.grown.andThen h'.grown (fun j hj => Or.inr hj)⟩
theorem Row.start {w : World} {blk off : Nat} {d : Array Int} (h : Holds encU w blk off d) : Row w blk off d w := ⟨h, ⟨rfl, rfl, rfl, Nat.le_refl _, fun _ _ _ => rfl⟩⟩
theorem Row.swap {w0 w : World} {blk off : Nat} {d : Array Int} (h : Row w0 blk off d w) {i j : Nat} (hi : i < d.size) (hj : j < d.size) :
    Row w0 blk off (swp d i j) ((w.setCell ⟨blk, off + i, none⟩ (encU d[j]!)).setCell ⟨blk, off + j, none⟩ (encU d[i]!)) := by
  have e : (w.setCell ⟨blk, off + i, none⟩ (encU d[j]!)).setCell ⟨blk, off + j, none⟩ (encU d[i]!) = putRow encU w blk off (swp d i j) := by
    have := putRow_swp encU w blk off d i j hi hj
    rwa [putRow_self encU w blk off d h.holds] at this
  rw [e]
  refine ⟨holds_putRow encU w blk off d _ h.holds (by rw [size_swp]), ?_⟩
  refine ⟨h.grown.os, h.grown.tape, h.grown.output, by rw [size_putRow]; exact h.grown.size, fun k hk hne => ?_⟩
  rw [← h.grown.block k hk hne]
  simp only [putRow, mapBlock, Array.getElem?_modify]
  rw [if_neg (fun e => hne (by rw [e]))]

theorem isNaNU (x : Int) (w : World) : Calls Tryz.prog 105 #[.int .u32 x] w fun e w' => e = .returned (.bool false) ∧ w' = w := by
  go_enter Tryz.func105, Tryz.ntmps105
  go_wp2
  go_ret
  exact ⟨by simp, rfl⟩
theorem lessU (x y : Int) (w : World) : Calls Tryz.prog 85 #[.int .u32 x, .int .u32 y] w fun e w' => e = .returned (.bool (ltInt x y)) ∧ w' = w := by
  go_enter Tryz.func85, Tryz.ntmps85
  go_wp2_with (go_at_call 105; refine (isNaNU _ _).mono ?_; rintro e w' ⟨rfl, rfl⟩)
  go_ret
  exact ⟨rfl, rfl⟩

theorem insIn_go (a j : Nat) (d : Array Int) (hj : a < j) (hl : ltInt d[j]! d[j - 1]! = true) : insInner ltInt a j d = insInner ltInt a (j - 1) (swp d j (j - 1)) := by
  obtain ⟨k, rfl⟩ : ∃ k, j = k + 1 := ⟨j - 1, by omega⟩
  rw [insInner]
  simp only [Nat.add_sub_cancel] at hl ⊢
  simp [hj, hl]
theorem insIn_stop (a j : Nat) (d : Array Int) (h : j ≤ a ∨ ltInt d[j]! d[j - 1]! = false) : insInner ltInt a j d = d := by
  cases j with
  | zero => rw [insInner]
  | succ k =>
    rw [insInner]
    simp only [Nat.add_sub_cancel] at h
    rcases h with h | h
    · simp [show ¬ k + 1 > a by omega]
    · simp [h]

theorem insOut_go (a b i : Nat) (d : Array Int) (h : i < b) : insOuter ltInt a b i d = insOuter ltInt a b (i + 1) (insInner ltInt a i d) := by rw [insOuter, if_pos h]

set_option maxHeartbeats 4000000 in
theorem insertU (blk off cap a b : Nat) (d : Array Int) (w : World) (hH : Holds encU w blk off d) (hab : a ≤ b) (hb : b ≤ d.size) (hsz : d.size < 50) :
    Calls Tryz.prog 79 #[.slice (some ⟨blk, off, none⟩) d.size cap, .int .i64 a, .int .i64 b] w fun e w' =>
      e = .returned (.tuple #[]) ∧ Row w blk off (Sort.insertionSort ltInt d a b) w' := by
  go_enter Tryz.func79, Tryz.ntmps79
  go_wp2
  go_loopw [6] (fun vi wr => ∃ (i : Nat) (dk : Array Int), vi = .int .i64 i ∧ a < i ∧ i ≤ b + 1 ∧ dk.size = d.size ∧ Row w blk off dk wr ∧ insOuter ltInt a b i dk = insOuter ltInt a b (a + 1) d) (fun vi _ => b + 1 - (numOf vi).toNat)
  case atStart => exact ⟨a + 1, d, by go_num, by omega, by omega, rfl, Row.start hH, rfl⟩
  case round =>
    obtain ⟨i, dk, rfl, hai, hib, hsk, hrow, hO⟩ := hrel
    have HO : Hid (insOuter ltInt a b i dk = insOuter ltInt a b (a + 1) d) := hO
    have HR : Hid (Row w blk off dk wr) := hrow
    clear hO hrow hH
    by_cases hib2 : i < b
    case neg =>
      go_wp2
      go_end0
      refine ⟨rfl, ?_⟩
      have := HR.out
      unfold Sort.insertionSort
      rw [← HO.out, insOuter, if_neg hib2]
      exact this
    go_wp2
    go_loopw [7] (fun vj wr2 => ∃ (j : Nat) (dj : Array Int), vj = .int .i64 j ∧ a ≤ j ∧ j ≤ i ∧ dj.size = d.size ∧ Row w blk off dj wr2 ∧ insInner ltInt a j dj = insInner ltInt a i dk) (fun vj _ => (numOf vj).toNat)
    case atStart => exact ⟨i, dk, rfl, by omega, Nat.le_refl _, hsk, HR.out, rfl⟩
    case round =>
      clear HR
      obtain ⟨j, dj, rfl, haj, hji, hsj, hrow, hI⟩ := hrel
      obtain ⟨G, hG⟩ : ∃ G : Nat → Int, ∀ t, G t = dj[t]! := ⟨fun t => dj[t]!, fun _ => rfl⟩
      have hcw : ∀ t, t < d.size → wr.cell? ⟨blk, off + t, none⟩ = some (.int .u32 (G t)) := fun t ht => by rw [hG]; exact (hrow.holds t (by omega)).1
      have hfw : ∀ t, t < d.size → wr.frozen? ⟨blk, off + t, none⟩ = false := fun t ht => (hrow.holds t (by omega)).2
      have HG : Hid (∀ t, G t = dj[t]!) := hG
      have HI : Hid (insInner ltInt a j dj = insInner ltInt a i dk) := hI
      have HR : Hid (Row w blk off dj wr) := hrow
      have OUT : Hid ((j ≤ a ∨ ltInt dj[j]! dj[j - 1]! = false) → ∀ q, ∃ (i' : Nat) (dk' : Array Int), Value.int .i64 ((i : Int) + 1) = .int .i64 (i' : Nat) ∧ a < i' ∧ i' ≤ b + 1 ∧ dk'.size = d.size ∧ Row w blk off dk' (wr.drewN q) ∧ insOuter ltInt a b i' dk' = insOuter ltInt a b (a + 1) d) := fun hs q =>
        ⟨i + 1, dj, by go_num, by omega, by omega, hsj, hrow.drewN q, by rw [← HO.out, insOut_go _ _ _ _ hib2, ← HI.out, insIn_stop _ _ _ hs]⟩
      clear hG hI hrow
      go_wp2
      by_cases hja : a < j
      · go_quiet (first | (go_at_call 85; refine Calls.quiet_of_same (lessU _ _ _)))
        go_wp2
        · have hl : ltInt (G j) (G (j - 1)) = true := by assumption
          go_region
          all_goals go_wp2
          go_roundw
          case rel =>
            refine ⟨j - 1, swp dj j (j - 1), by congr 1; omega, by omega, by omega, by rw [size_swp]; exact hsj, ?_, ?_⟩
            · have := (HR.out.drewN (nq + 1)).swap (i := j) (j := j - 1) (by omega) (by omega)
              rw [← HG.out, ← HG.out] at this
              exact this
            · rw [← HI.out, insIn_go a j dj hja (by rw [← HG.out, ← HG.out]; exact hl)]
          case measure => simp [numOf]; omega
        · have hl : ltInt (G j) (G (j - 1)) = false := by assumption
          go_roundw
          case rel => exact OUT.out (Or.inr (by rw [← HG.out, ← HG.out]; exact hl)) nq
          case measure => simp [numOf]; omega
      · go_quiet (first | (go_at_call 85; refine Calls.quiet_of_same (lessU _ _ _)))
        go_wp2
        go_roundw
        case rel => exact OUT.out (Or.inl (by omega)) nq
        case measure => simp [numOf]; omega
end Go.Proofs.YtcmnmogmdhofcaaGreat.sortu

/- Rows of numbers of 32 bits that are sorted in place: the heap sort (slices.siftDownOrdered, heapSortOrdered); a row turned round (reverseRangeOrdered). -/
namespace Go.Proofs.YtcmnmogmdhofcaaGreat.sortu
open Go.RowKit Go.Sort
set_option linter.unusedVariables false
set_option maxRecDepth 100000

theorem sift_end {hi F root : Nat} {d : Array Int} (h : hi ≤ 2 * root + 1) : siftDown ltInt hi F root d = d := by
  rw [siftDown, dif_pos h]
theorem sift_two_stop {hi F root : Nat} {d : Array Int} (h : 2 * root + 2 < hi) (h1 : ltInt d[F + (2 * root + 1)]! d[F + (2 * root + 1) + 1]! = true) (h2 : ltInt d[F + root]! d[F + (2 * root + 2)]! = false) : siftDown ltInt hi F root d = d := by
  rw [siftDown, dif_neg (by omega), if_pos (by simp [h1]; omega), if_pos (by simp [h2])]
theorem sift_two_go {hi F root : Nat} {d : Array Int} (h : 2 * root + 2 < hi) (h1 : ltInt d[F + (2 * root + 1)]! d[F + (2 * root + 1) + 1]! = true) (h2 : ltInt d[F + root]! d[F + (2 * root + 2)]! = true) :
    siftDown ltInt hi F root d = siftDown ltInt hi F (2 * root + 2) (swp d (F + root) (F + (2 * root + 2))) := by
  rw [siftDown, dif_neg (by omega), if_pos (by simp [h1]; omega), if_neg (by simp [h2]), dif_pos h]
theorem sift_one_stop {hi F root : Nat} {d : Array Int} (h : 2 * root + 1 < hi) (h1 : ¬ (2 * root + 2 < hi ∧ ltInt d[F + (2 * root + 1)]! d[F + (2 * root + 1) + 1]! = true)) (h2 : ltInt d[F + root]! d[F + (2 * root + 1)]! = false) : siftDown ltInt hi F root d = d := by
  rw [siftDown, dif_neg (by omega), if_neg (by simp only [Bool.and_eq_true, decide_eq_true_eq]; exact fun hh => h1 ⟨by omega, hh.2⟩), if_pos (by simp [h2])]
theorem sift_one_go {hi F root : Nat} {d : Array Int} (h : 2 * root + 1 < hi) (h1 : ¬ (2 * root + 2 < hi ∧ ltInt d[F + (2 * root + 1)]! d[F + (2 * root + 1) + 1]! = true)) (h2 : ltInt d[F + root]! d[F + (2 * root + 1)]! = true) :
    siftDown ltInt hi F root d = siftDown ltInt hi F (2 * root + 1) (swp d (F + root) (F + (2 * root + 1))) := by
  conv => lhs; rw [siftDown, dif_neg (by omega), if_neg (by simp only [Bool.and_eq_true, decide_eq_true_eq]; exact fun hh => h1 ⟨by omega, hh.2⟩), if_neg (by simp [h2])]

set_option maxHeartbeats 4000000 in
theorem siftU (blk off cap lo hi F : Nat) (d : Array Int) (w : World) (hH : Holds encU w blk off d) (hlo : lo < 50) (hF : F + hi ≤ d.size) (hsz : d.size < 50) :
    Calls Tryz.prog 100 #[.slice (some ⟨blk, off, none⟩) d.size cap, .int .i64 lo, .int .i64 hi, .int .i64 F] w fun e w' =>
      e = .returned (.tuple #[]) ∧ Row w blk off (siftDown ltInt hi F lo d) w' := by
  go_enter Tryz.func100, Tryz.ntmps100
  go_wp2
  go_loopw [8] (fun vi wr => ∃ (root : Nat) (dk : Array Int), vi = .int .i64 root ∧ root < 50 ∧ dk.size = d.size ∧ Row w blk off dk wr ∧ siftDown ltInt hi F root dk = siftDown ltInt hi F lo d) (fun vi _ => 50 - (numOf vi).toNat)
  case atStart => exact ⟨lo, d, rfl, hlo, rfl, Row.start hH, rfl⟩
  case round =>
    obtain ⟨root, dj, rfl, hr50, hsj, hrow, hI⟩ := hrel
    obtain ⟨G, hG⟩ : ∃ G : Nat → Int, ∀ t, G t = dj[t]! := ⟨fun t => dj[t]!, fun _ => rfl⟩
    have hcw : ∀ t, t < d.size → wr.cell? ⟨blk, off + t, none⟩ = some (.int .u32 (G t)) := fun t ht => by rw [hG]; exact (hrow.holds t (by omega)).1
    have hfw : ∀ t, t < d.size → wr.frozen? ⟨blk, off + t, none⟩ = false := fun t ht => (hrow.holds t (by omega)).2
    have HG : Hid (∀ t, G t = dj[t]!) := hG
    have HI : Hid (siftDown ltInt hi F root dj = siftDown ltInt hi F lo d) := hI
    have HR : Hid (Row w blk off dj wr) := hrow
    clear hG hI hrow hH
    by_cases hc1 : 2 * root + 1 < hi
    case neg =>
      go_wp2
      go_end0
      refine ⟨rfl, ?_⟩
      rw [← HI.out, sift_end (by omega)]
      exact HR.out
    have hc1z : ¬ ((hi : Int) ≤ 2 * (root : Int) + 1) := by omega
    by_cases hc2 : 2 * root + 2 < hi
    · have hc2z : 2 * (root : Int) + 1 + 1 < (hi : Int) := by omega
      go_wp2_with fail
      go_big_quiet (first | (go_at_call 85; refine Calls.quiet_of_same (lessU _ _ _)))
      go_wp2_with fail
      · have hl : ltInt (G (F + (2 * root + 1))) (G (F + (2 * root + 1) + 1)) = true := by first | assumption | (simpa [Nat.add_assoc] using ‹ltInt _ _ = true›)
        have HL : Hid (ltInt dj[F + (2 * root + 1)]! dj[F + (2 * root + 1) + 1]! = true) := by show _ = true; rw [← HG.out, ← HG.out]; exact hl
        revert nq
        intro nq1
        have hcw2 : ∀ t, t < d.size → (wr.drewN nq1).cell? ⟨blk, off + t, none⟩ = some (.int .u32 (G t)) := hcw
        have hfw2 : ∀ t, t < d.size → (wr.drewN nq1).frozen? ⟨blk, off + t, none⟩ = false := hfw
        have HR2 : Hid (Row w blk off dj (wr.drewN nq1)) := HR.out.drewN nq1
        clear hcw hfw HR
        generalize wr.drewN nq1 = wr2 at hcw2 hfw2 HR2 ⊢
        go_big_quiet (first | (go_at_call 85; refine Calls.quiet_of_same (lessU _ _ _)))
        go_wp2_with fail
        · have hs : (!ltInt (G (F + root)) (G (F + (2 * root + 2)))) = true := by first | assumption | (simpa [Nat.add_assoc] using ‹(!ltInt _ _) = true›)
          refine bodyPost_ret (results_none rfl _ _ _) rfl ?_
          refine ⟨rfl, ?_⟩
          rw [← HI.out, sift_two_stop hc2 HL.out (by rw [← HG.out, ← HG.out]; simpa using hs)]
          exact HR2.out.drewN nq
        · have hs : (!ltInt (G (F + root)) (G (F + (2 * root + 2)))) = false := by first | assumption | (simpa [Nat.add_assoc] using ‹(!ltInt _ _) = false›)
          go_region
          all_goals go_wp2
          go_roundw
          case rel =>
            refine ⟨2 * root + 2, swp dj (F + root) (F + (2 * root + 2)), by first | rfl | (congr 1; omega), by omega, by rw [size_swp]; exact hsj, ?_, ?_⟩
            · have := (HR2.out.drewN (nq + 1)).swap (i := F + root) (j := F + (2 * root + 2)) (by omega) (by omega)
              rw [← HG.out, ← HG.out] at this
              first | exact this | (simpa [Nat.add_assoc] using this)
            · rw [← HI.out, sift_two_go hc2 HL.out (by rw [← HG.out, ← HG.out]; simpa using hs)]
          case measure => simp [numOf]; omega
      · have hl : ltInt (G (F + (2 * root + 1))) (G (F + (2 * root + 1) + 1)) = false := by first | assumption | (simpa [Nat.add_assoc] using ‹ltInt _ _ = false›)
        have HL : Hid (¬ (2 * root + 2 < hi ∧ ltInt dj[F + (2 * root + 1)]! dj[F + (2 * root + 1) + 1]! = true)) := fun hh => by have := hh.2; rw [← HG.out, ← HG.out, hl] at this; cases this
        revert nq
        intro nq1
        have hcw2 : ∀ t, t < d.size → (wr.drewN nq1).cell? ⟨blk, off + t, none⟩ = some (.int .u32 (G t)) := hcw
        have hfw2 : ∀ t, t < d.size → (wr.drewN nq1).frozen? ⟨blk, off + t, none⟩ = false := hfw
        have HR2 : Hid (Row w blk off dj (wr.drewN nq1)) := HR.out.drewN nq1
        clear hcw hfw HR
        generalize wr.drewN nq1 = wr2 at hcw2 hfw2 HR2 ⊢
        go_big_quiet (first | (go_at_call 85; refine Calls.quiet_of_same (lessU _ _ _)))
        go_wp2_with fail
        · have hs : (!ltInt (G (F + root)) (G (F + (2 * root + 1)))) = true := by first | assumption | (simpa [Nat.add_assoc] using ‹(!ltInt _ _) = true›)
          refine bodyPost_ret (results_none rfl _ _ _) rfl ?_
          refine ⟨rfl, ?_⟩
          rw [← HI.out, sift_one_stop hc1 HL.out (by rw [← HG.out, ← HG.out]; simpa using hs)]
          exact HR2.out.drewN nq
        · have hs : (!ltInt (G (F + root)) (G (F + (2 * root + 1)))) = false := by first | assumption | (simpa [Nat.add_assoc] using ‹(!ltInt _ _) = false›)
          go_region
          all_goals go_wp2
          go_roundw
          case rel =>
            refine ⟨2 * root + 1, swp dj (F + root) (F + (2 * root + 1)), by first | rfl | (congr 1; omega), by omega, by rw [size_swp]; exact hsj, ?_, ?_⟩
            · have := (HR2.out.drewN (nq + 1)).swap (i := F + root) (j := F + (2 * root + 1)) (by omega) (by omega)
              rw [← HG.out, ← HG.out] at this
              first | exact this | (simpa [Nat.add_assoc] using this)
            · rw [← HI.out, sift_one_go hc1 HL.out (by rw [← HG.out, ← HG.out]; simpa using hs)]
          case measure => simp [numOf]; omega
    · have hc2z : decide (2 * (root : Int) + 1 + 1 < (hi : Int)) = false := decide_eq_false (by omega)
      have HL : Hid (¬ (2 * root + 2 < hi ∧ ltInt dj[F + (2 * root + 1)]! dj[F + (2 * root + 1) + 1]! = true)) := fun hh => hc2 hh.1
      go_wp2_with fail
      go_big_quiet (first | (go_at_call 85; refine Calls.quiet_of_same (lessU _ _ _)))
      go_wp2_with fail
      revert nq
      intro nq1
      have hcw2 : ∀ t, t < d.size → (wr.drewN nq1).cell? ⟨blk, off + t, none⟩ = some (.int .u32 (G t)) := hcw
      have hfw2 : ∀ t, t < d.size → (wr.drewN nq1).frozen? ⟨blk, off + t, none⟩ = false := hfw
      have HR2 : Hid (Row w blk off dj (wr.drewN nq1)) := HR.out.drewN nq1
      clear hcw hfw HR
      generalize wr.drewN nq1 = wr2 at hcw2 hfw2 HR2 ⊢
      go_big_quiet (first | (go_at_call 85; refine Calls.quiet_of_same (lessU _ _ _)))
      go_wp2_with fail
      · have hs : (!ltInt (G (F + root)) (G (F + (2 * root + 1)))) = true := by first | assumption | (simpa [Nat.add_assoc] using ‹(!ltInt _ _) = true›)
        refine bodyPost_ret (results_none rfl _ _ _) rfl ?_
        refine ⟨rfl, ?_⟩
        rw [← HI.out, sift_one_stop hc1 HL.out (by rw [← HG.out, ← HG.out]; simpa using hs)]
        exact HR2.out.drewN nq
      · have hs : (!ltInt (G (F + root)) (G (F + (2 * root + 1)))) = false := by first | assumption | (simpa [Nat.add_assoc] using ‹(!ltInt _ _) = false›)
        go_region
        all_goals go_wp2
        go_roundw
        case rel =>
          refine ⟨2 * root + 1, swp dj (F + root) (F + (2 * root + 1)), by first | rfl | (congr 1; omega), by omega, by rw [size_swp]; exact hsj, ?_, ?_⟩
          · have := (HR2.out.drewN (nq + 1)).swap (i := F + root) (j := F + (2 * root + 1)) (by omega) (by omega)
            rw [← HG.out, ← HG.out] at this
            first | exact this | (simpa [Nat.add_assoc] using this)
          · rw [← HI.out, sift_one_go hc1 HL.out (by rw [← HG.out, ← HG.out]; simpa using hs)]
        case measure => simp [numOf]; omega

-- THE REST
theorem sift_size (hi F root : Nat) (d : Array Int) : (siftDown ltInt hi F root d).size = d.size := by
  fun_induction siftDown ltInt hi F root d <;> simp_all [size_swp]

set_option maxHeartbeats 4000000 in
theorem heapU (blk off cap a b : Nat) (d : Array Int) (w : World) (hH : Holds encU w blk off d) (hab : a < b) (hb : b ≤ d.size) (hsz : d.size < 50) :
    Calls Tryz.prog 80 #[.slice (some ⟨blk, off, none⟩) d.size cap, .int .i64 a, .int .i64 b] w fun e w' =>
      e = .returned (.tuple #[]) ∧ Row w blk off (Sort.heapSort ltInt d a b) w' := by
  obtain ⟨L, hL, hLb⟩ : ∃ L : Nat, (b : Int) - (a : Int) = L ∧ L = b - a := ⟨b - a, by omega, rfl⟩
  obtain ⟨K, hK, hKb⟩ : ∃ K : Nat, ((L : Int) - 1).tdiv 2 = K ∧ K = (b - a - 1) / 2 := ⟨(b - a - 1) / 2, by rw [Int.tdiv_eq_ediv_of_nonneg (by omega)]; omega, rfl⟩
  have HLB : Hid (L = b - a) := hLb
  have HKB : Hid (K = (b - a - 1) / 2) := hKb
  have hL1 : 1 ≤ L := by omega
  have hL2 : a + L ≤ d.size := by omega
  have hK50 : K < 50 := by omega
  have HHH : Hid (Holds encU w blk off d) := hH
  clear hLb hKb hH
  go_enter Tryz.func80, Tryz.ntmps80
  go_wp2
  go_loopw [9] (fun v wr => ∃ (z : Int) (k : Nat) (dk : Array Int), v = .int .i64 z ∧ z = (k : Int) - 1 ∧ k ≤ 50 ∧ dk.size = d.size ∧ Row w blk off dk wr ∧ heapBuild ltInt L a k dk = heapBuild ltInt L a (K + 1) d) (fun v _ => (numOf v + 1).toNat)
  case atStart => exact ⟨K, K + 1, d, rfl, by omega, by omega, rfl, Row.start HHH.out, rfl⟩
  case round =>
    obtain ⟨z, k, dk, rfl, hz, hk50, hsk, hrow, hI⟩ := hrel
    have HR : Hid (Row w blk off dk wr) := hrow
    have HI : Hid (heapBuild ltInt L a k dk = heapBuild ltInt L a (K + 1) d) := hI
    clear hrow hI
    cases k with
    | succ k =>
      obtain rfl : z = (k : Int) := by omega
      clear hz
      go_wp2_with (go_at_call 100; rw [← hsk]; refine (siftU blk off cap k L a dk _ HR.out.holds (by omega) (by omega) (by omega)).mono ?_; rintro e w1 ⟨rfl, hrow1⟩)
      have hrow2 := HR.out.trans hrow1
      go_roundw
      case rel => exact ⟨(k : Int) - 1, k, _, rfl, rfl, by omega, by rw [sift_size]; exact hsk, hrow2, by rw [← HI.out]; rfl⟩
      case measure => simp [numOf]
    | zero =>
      obtain rfl : z = -1 := by omega
      clear hz
      have hI0 : dk = heapBuild ltInt L a (K + 1) d := HI.out
      have HI0 : Hid (dk = heapBuild ltInt L a (K + 1) d) := hI0
      clear hI0 HI
      go_wp2
      go_loopw [10] (fun v wr => ∃ (z : Int) (k : Nat) (dk' : Array Int), v = .int .i64 z ∧ z = (k : Int) - 1 ∧ k ≤ L ∧ dk'.size = d.size ∧ Row w blk off dk' wr ∧ heapPop ltInt a k dk' = heapPop ltInt a L dk) (fun v _ => (numOf v + 1).toNat)
      case atStart => exact ⟨(L : Int) - 1, L, dk, rfl, rfl, Nat.le_refl _, hsk, HR.out, rfl⟩
      case round =>
        clear HR
        obtain ⟨z, k, dj, rfl, hz, hkL, hsj, hrow, hI⟩ := hrel
        obtain ⟨G, hG⟩ : ∃ G : Nat → Int, ∀ t, G t = dj[t]! := ⟨fun t => dj[t]!, fun _ => rfl⟩
        have hcw : ∀ t, t < d.size → wr.cell? ⟨blk, off + t, none⟩ = some (.int .u32 (G t)) := fun t ht => by rw [hG]; exact (hrow.holds t (by omega)).1
        have hfw : ∀ t, t < d.size → wr.frozen? ⟨blk, off + t, none⟩ = false := fun t ht => (hrow.holds t (by omega)).2
        have HG : Hid (∀ t, G t = dj[t]!) := hG
        have HI : Hid (heapPop ltInt a k dj = heapPop ltInt a L dk) := hI
        have HR : Hid (Row w blk off dj wr) := hrow
        clear hrow hI hG
        cases k with
        | zero =>
          obtain rfl : z = -1 := by omega
          clear hz
          go_wp2
          go_end0
          refine ⟨rfl, ?_⟩
          have e : dj = Sort.heapSort ltInt d a b := by
            unfold Sort.heapSort
            rw [← HLB.out, HLB.out, ← HKB.out, ← HLB.out, ← HI0.out]
            exact HI.out
          rw [← e]
          exact HR.out
        | succ k =>
          obtain rfl : z = (k : Int) := by omega
          clear hz
          have hss : (swp dj a (a + k)).size = d.size := by rw [size_swp]; exact hsj
          rcases Nat.eq_zero_or_pos k with h0 | h0
          · subst h0
            have hsw := (HR.out.drewN 1).swap (i := a) (j := a) (by omega) (by omega)
            have hss0 : (swp dj a a).size = d.size := hss
            clear hss
            rw [← HG.out] at hsw
            have HSW : Hid _ := hsw
            clear hsw
            go_wp2
            go_region
            all_goals go_wp2_with (go_at_call 100; rw [← hss0]; refine (siftU blk off cap 0 0 a (swp dj a a) _ HSW.out.holds (by omega) (by omega) (by omega)).mono ?_; rintro e w1 ⟨rfl, hrow1⟩)
            go_roundw
            case rel => exact ⟨((0 : Nat) : Int) - 1, 0, _, rfl, rfl, by omega, by rw [sift_size]; exact hss0, HSW.out.trans hrow1, by rw [← HI.out]; rfl⟩
            case measure => simp [numOf]
          · have hsw := (HR.out.drewN 1).swap (i := a) (j := a + k) (by omega) (by omega)
            rw [← HG.out, ← HG.out] at hsw
            have HSW : Hid _ := hsw
            clear hsw
            go_wp2
            go_region
            all_goals go_wp2_with (go_at_call 100; rw [← hss]; refine (siftU blk off cap 0 k a (swp dj a (a + k)) _ HSW.out.holds (by omega) (by omega) (by omega)).mono ?_; rintro e w1 ⟨rfl, hrow1⟩)
            go_roundw
            case rel => exact ⟨(k : Int) - 1, k, _, rfl, rfl, by omega, by rw [sift_size]; exact hss, HSW.out.trans hrow1, by rw [← HI.out]; rfl⟩
            case measure => simp [numOf]
set_option maxHeartbeats 4000000 in
theorem reverseU (blk off cap a b : Nat) (d : Array Int) (w : World) (hH : Holds encU w blk off d) (hab : a < b) (hb : b ≤ d.size) (hsz : d.size < 50) :
    Calls Tryz.prog 83 #[.slice (some ⟨blk, off, none⟩) d.size cap, .int .i64 a, .int .i64 b] w fun e w' =>
      e = .returned (.tuple #[]) ∧ ∃ d', Row w blk off d' w' ∧ PermIn a b d d' := by
  obtain ⟨c, hc⟩ : ∃ c : Nat, (b : Int) - 1 = c := ⟨b - 1, by omega⟩
  have hcb : c + 1 = b := by omega
  have HHH : Hid (Holds encU w blk off d) := hH
  clear hH
  go_enter Tryz.func83, Tryz.ntmps83
  go_wp2
  go_loopw [6, 7] (fun v u wr => ∃ (i : Nat) (z : Int) (dk : Array Int), v = .int .i64 i ∧ u = .int .i64 z ∧ a ≤ i ∧ i ≤ b ∧ z < b ∧ -50 ≤ z ∧ dk.size = d.size ∧ Row w blk off dk wr ∧ PermIn a b d dk) (fun v _ _ => b - (numOf v).toNat)
  case atStart => exact ⟨a, c, d, rfl, rfl, Nat.le_refl _, by omega, by omega, by omega, rfl, Row.start HHH.out, permIn_refl _ _ _⟩
  case round =>
    obtain ⟨i, z, dj, rfl, rfl, hai, hib, hzb, hz50, hsj, hrow, hP⟩ := hrel
    have HP : Hid (PermIn a b d dj) := hP
    by_cases hiz : (i : Int) < z
    case neg =>
      have HR : Hid (Row w blk off dj wr) := hrow
      clear hrow hP
      go_wp2
      go_end0
      exact ⟨rfl, dj, HR.out, HP.out⟩
    obtain ⟨j, rfl⟩ : ∃ j : Nat, z = j := ⟨z.toNat, by omega⟩
    obtain ⟨G, hG⟩ : ∃ G : Nat → Int, ∀ t, G t = dj[t]! := ⟨fun t => dj[t]!, fun _ => rfl⟩
    have hcw : ∀ t, t < d.size → wr.cell? ⟨blk, off + t, none⟩ = some (.int .u32 (G t)) := fun t ht => by rw [hG]; exact (hrow.holds t (by omega)).1
    have hfw : ∀ t, t < d.size → wr.frozen? ⟨blk, off + t, none⟩ = false := fun t ht => (hrow.holds t (by omega)).2
    have hij : i < j := by omega
    have hsw := (hrow.drewN 1).swap (i := i) (j := j) (by omega) (by omega)
    rw [← hG, ← hG] at hsw
    have HSW : Hid _ := hsw
    have hP2 : PermIn a b d (swp dj i j) := permIn_trans _ _ _ _ _ hP (swp_permIn dj a b i j hai (by omega) (by omega) (by omega) (by omega))
    have HP2 : Hid (PermIn a b d (swp dj i j)) := hP2
    clear hsw hrow hP hG hP2
    go_wp2
    go_region
    all_goals go_wp2
    go_roundw
    case rel => exact ⟨i + 1, (j : Int) - 1, swp dj i j, by go_num, rfl, by omega, by omega, by omega, by omega, by rw [size_swp]; exact hsj, HSW.out, HP2.out⟩
    case measure => simp [numOf]; omega

end Go.Proofs.YtcmnmogmdhofcaaGreat.sortu

/- Rows of numbers of 32 bits that are sorted in place: the partitions (slices.partitionOrdered, partitionEqualOrdered). -/
namespace Go.Proofs.YtcmnmogmdhofcaaGreat.sortu
open Go.RowKit Go.Sort
set_option linter.unusedVariables false
set_option maxRecDepth 100000

theorem and_true_of {P : Prop} [Decidable P] {q : Bool} (h : true = (decide P && q)) : P ∧ q = true := by
  have := h.symm
  simpa using this
theorem and_false_of {P : Prop} [Decidable P] {q : Bool} (h : false = (decide P && q)) : ¬ P ∨ q = false := by
  by_cases hp : P
  · right
    have := h.symm
    simpa [hp] using this
  · exact Or.inl hp
theorem up_go (p : Int → Bool) (d : Array Int) (j i : Nat) (h : i ≤ j) (hp : p d[i]! = true) : scanUp p d j i = scanUp p d j (i + 1) := by
  rw [scanUp, if_pos (by simp [h, hp])]
theorem up_end (p : Int → Bool) (d : Array Int) (j i : Nat) (h : ¬ i ≤ j ∨ p d[i]! = false) : scanUp p d j i = i := by
  rw [scanUp, if_neg (by rcases h with h | h <;> simp [h])]
theorem down_go (p : Int → Bool) (d : Array Int) (i j : Nat) (h : i ≤ j) (h0 : 0 < j) (hp : p d[j]! = true) : scanDown p d i j = scanDown p d i (j - 1) := by
  obtain ⟨k, rfl⟩ : ∃ k, j = k + 1 := ⟨j - 1, by omega⟩
  rw [scanDown, if_pos (by simp [h, hp])]
  rfl
theorem down_end (p : Int → Bool) (d : Array Int) (i j : Nat) (h : ¬ i ≤ j ∨ p d[j]! = false) : scanDown p d i j = j := by
  cases j with
  | zero => rfl
  | succ k => rw [scanDown, if_neg (by rcases h with h | h <;> simp [h])]
theorem part_lt {p : Int → Bool} {d : Array Int} {i j jj : Nat} (h1 : ¬ i ≤ j ∨ p d[i]! = false) (h2 : ¬ i ≤ jj ∨ (!p d[jj]!) = false) (hj : jj ≤ j) (h : i ≤ jj) : i < jj := by
  rcases Nat.eq_or_lt_of_le h with e | e
  · subst e
    rcases h1 with h1 | h1
    · omega
    · rcases h2 with h2 | h2
      · omega
      · rw [h1] at h2; cases h2
  · exact e
theorem loop_break {a i0 j0 i2 j2 : Nat} {d : Array Int} (h1 : scanUp (fun x => ltInt x d[a]!) d j0 i0 = i2) (h2 : scanDown (fun x => !ltInt x d[a]!) d i2 j0 = j2) (h : j2 < i2) : partLoop ltInt a i0 j0 d = (j2, d) := by
  rw [partLoop_eq, h1, h2, if_pos h]
theorem loop_go {a i0 j0 i2 j2 : Nat} {d : Array Int} (h1 : scanUp (fun x => ltInt x d[a]!) d j0 i0 = i2) (h2 : scanDown (fun x => !ltInt x d[a]!) d i2 j0 = j2) (h : ¬ i2 > j2) : partLoop ltInt a i0 j0 d = partLoop ltInt a (i2 + 1) (j2 - 1) (swp d i2 j2) := by
  rw [partLoop_eq, h1, h2, if_neg h]
theorem part_first {a b pivot i2 j2 : Nat} {d D : Array Int} (hD : D = swp d a pivot) (h1 : scanUp (fun x => ltInt x D[a]!) D (b - 1) (a + 1) = i2) (h2 : scanDown (fun x => !ltInt x D[a]!) D i2 (b - 1) = j2) (h : j2 < i2) : partition ltInt d a b pivot = (j2, true, swp D j2 a) := by
  unfold partition
  simp only [← hD, h1, h2]
  rw [if_pos h]
theorem part_last {a b pivot i2 j2 mid : Nat} {d D dk : Array Int} (hD : D = swp d a pivot) (h1 : scanUp (fun x => ltInt x D[a]!) D (b - 1) (a + 1) = i2) (h2 : scanDown (fun x => !ltInt x D[a]!) D i2 (b - 1) = j2) (h : ¬ i2 > j2)
    (hL : partLoop ltInt a (i2 + 1) (j2 - 1) (swp D i2 j2) = (mid, dk)) : partition ltInt d a b pivot = (mid, false, swp dk mid a) := by
  unfold partition
  simp only [← hD, h1, h2]
  rw [if_neg h, hL]
theorem loopE_break {a i0 j0 i2 j2 : Nat} {d : Array Int} (h1 : scanUp (fun x => !ltInt d[a]! x) d j0 i0 = i2) (h2 : scanDown (fun x => ltInt d[a]! x) d i2 j0 = j2) (h : j2 < i2) : partEqLoop ltInt a i0 j0 d = (i2, d) := by
  rw [partEqLoop_eq, h1, h2, if_pos h]
theorem loopE_go {a i0 j0 i2 j2 : Nat} {d : Array Int} (h1 : scanUp (fun x => !ltInt d[a]! x) d j0 i0 = i2) (h2 : scanDown (fun x => ltInt d[a]! x) d i2 j0 = j2) (h : ¬ i2 > j2) : partEqLoop ltInt a i0 j0 d = partEqLoop ltInt a (i2 + 1) (j2 - 1) (swp d i2 j2) := by
  rw [partEqLoop_eq, h1, h2, if_neg h]
theorem partE_lt {p : Int → Bool} {d : Array Int} {i j jj : Nat} (h1 : ¬ i ≤ j ∨ (!p d[i]!) = false) (h2 : ¬ i ≤ jj ∨ p d[jj]! = false) (hj : jj ≤ j) (h : i ≤ jj) : i < jj := by
  rcases Nat.eq_or_lt_of_le h with e | e
  · subst e
    rcases h1 with h1 | h1
    · omega
    · rcases h2 with h2 | h2
      · omega
      · rw [h2] at h1; cases h1
  · exact e

set_option maxHeartbeats 16000000 in
theorem partU (blk off cap a b pivot : Nat) (d : Array Int) (w : World) (hH : Holds encU w blk off d) (hap : a < pivot) (hpb : pivot < b) (hb : b ≤ d.size) (hsz : d.size < 50) :
    Calls Tryz.prog 87 #[.slice (some ⟨blk, off, none⟩) d.size cap, .int .i64 a, .int .i64 b, .int .i64 pivot] w fun e w' => ∃ mid ap d', e = .returned (.tuple #[.int .i64 ((mid : Nat) : Int), .bool ap]) ∧ Row w blk off d' w' ∧ Sort.partition ltInt d a b pivot = (mid, ap, d') := by
  obtain ⟨c, hc⟩ : ∃ c : Nat, (b : Int) - 1 = c := ⟨b - 1, by omega⟩
  have hcb : c + 1 = b := by omega
  have HCB : Hid (c = b - 1) := by show c = b - 1; omega
  have HR0 : Hid (Row w blk off d w) := Row.start hH
  obtain ⟨G0, hG⟩ : ∃ G0 : Nat → Int, ∀ t, G0 t = d[t]! := ⟨fun t => d[t]!, fun _ => rfl⟩
  have hcw : ∀ t, t < d.size → w.cell? ⟨blk, off + t, none⟩ = some (.int .u32 (G0 t)) := fun t ht => by rw [hG]; exact (hH t ht).1
  have hfw : ∀ t, t < d.size → w.frozen? ⟨blk, off + t, none⟩ = false := fun t ht => (hH t ht).2
  have hsw := (HR0.out.drewN 1).swap (i := a) (j := pivot) (by omega) (by omega)
  rw [← hG, ← hG] at hsw
  obtain ⟨D, hD⟩ : ∃ D, D = swp d a pivot := ⟨_, rfl⟩
  rw [← hD] at hsw
  have hs1 : D.size = d.size := by rw [hD, size_swp]
  have HD1 : Hid (D = swp d a pivot) := hD
  have HSW : Hid _ := hsw
  clear hsw hD hG hH HR0
  go_enter Tryz.func87, Tryz.ntmps87
  go_wp2
  go_region
  all_goals go_wp2
  have HR : Hid _ := HSW
  clear hcw hfw HSW
  obtain ⟨G, hG⟩ : ∃ G : Nat → Int, ∀ t, G t = D[t]! := ⟨fun t => D[t]!, fun _ => rfl⟩
  have HG : Hid (∀ t, G t = D[t]!) := hG
  clear hG
  go_loopg [10] (c + 2 - (a + 1)) (fun g v wr => ∃ i : Nat, v = .int .i64 i ∧ a + 1 ≤ i ∧ i ≤ c + 1 ∧ g = c + 2 - i ∧ Row w blk off D wr ∧ scanUp (fun x => ltInt x D[a]!) D c i = scanUp (fun x => ltInt x D[a]!) D c (a + 1))
  case atStart => exact ⟨a + 1, by first | rfl | go_num, Nat.le_refl _, by omega, rfl, HR.out, rfl⟩
  case round =>
    clear HR
    obtain ⟨i, rfl, hi0, hi1, hgk, hrow, hS⟩ := hrel
    have HGKN : Hid _ := hgk
    have HR : Hid (Row w blk off D wr) := hrow
    have HS : Hid _ := hS
    obtain ⟨t, ht⟩ : ∃ t, t = (decide (i ≤ c) && ltInt (G i) (G a)) := ⟨_, rfl⟩
    have HT : Hid (t = (decide (i ≤ c) && ltInt (G i) (G a))) := ht
    have hcw : ∀ t, t < d.size → wr.cell? ⟨blk, off + t, none⟩ = some (.int .u32 (G t)) := fun t ht => by rw [HG.out]; exact (hrow.holds t (by omega)).1
    have hfw : ∀ t, t < d.size → wr.frozen? ⟨blk, off + t, none⟩ = false := fun t ht => (hrow.holds t (by omega)).2
    clear hrow hS ht hgk
    go_upto_region 3 with fail
    go_cut [43] (fun s wq => s = .bool t ∧ Row w blk off D wq)
    case first =>
      by_cases hcc : i ≤ c
      · have hcz : ((i : Nat) : Int) ≤ ((c : Nat) : Int) := by omega
        go_big_quiet (first | (go_at_call 85; refine Calls.quiet_of_same (lessU _ _ _)))
        go_wp2_with fail
        go_meet
        case rel => exact ⟨by rw [HT.out]; simp [hcc], HR.out.drewN nq⟩
      · have hcz : decide (((i : Nat) : Int) ≤ ((c : Nat) : Int)) = false := decide_eq_false (by omega)
        go_big_quiet (first | (go_at_call 85; refine Calls.quiet_of_same (lessU _ _ _)))
        go_wp2_with fail
        go_meet
        case rel => exact ⟨by rw [HT.out]; simp [hcc], HR.out.drewN nq⟩
    case rest =>
      obtain ⟨hst, hrow⟩ := hcut
      subst hst
      clear hcw hfw HR
      have HR : Hid (Row w blk off D wc) := hrow
      clear hrow
      cases t with
      | true =>
        have htt : i ≤ c ∧ (ltInt D[i]! D[a]!) = true := by have := HT.out; simp only [HG.out] at this; exact and_true_of this
        have HTT : Hid _ := htt
        have hcc := htt.1
        clear htt
        go_wp2
        have htt := HTT.out
        have hgk := HGKN.out
        go_roundg (gk - 1)
        case measure => omega
        case rel => exact ⟨i + 1, by go_num, by omega, by omega, by omega, HR.out, by rw [← HS.out]; exact (up_go _ _ _ _ htt.1 htt.2).symm⟩
      | false =>
        have htt : ¬ i ≤ c ∨ (ltInt D[i]! D[a]!) = false := by have := HT.out; simp only [HG.out] at this; exact and_false_of this
        have HE : Hid (scanUp (fun x => ltInt x D[a]!) D c (a + 1) = i) := HS.out.symm.trans (up_end _ _ _ _ htt)
        have HN1 : Hid (¬ i ≤ c ∨ (ltInt D[i]! D[a]!) = false) := htt
        clear htt HT HS
        go_wp2
        go_loopg [11] (c + 1) (fun g v wr => ∃ jj : Nat, v = .int .i64 jj ∧ jj ≤ c ∧ i ≤ jj + 1 ∧ g = jj + 1 ∧ Row w blk off D wr ∧ scanDown (fun x => !ltInt x D[a]!) D i jj = scanDown (fun x => !ltInt x D[a]!) D i (c))
        case atStart => exact ⟨c, by first | rfl | go_num, Nat.le_refl _, by omega, rfl, HR.out, rfl⟩
        case round =>
          clear HR
          obtain ⟨jj, rfl, hjj0, hjj1, hgk, hrow, hS⟩ := hrel
          have HGKN : Hid _ := hgk
          have HR : Hid (Row w blk off D wr) := hrow
          have HS : Hid _ := hS
          obtain ⟨t, ht⟩ : ∃ t, t = (decide (i ≤ jj) && !ltInt (G jj) (G a)) := ⟨_, rfl⟩
          have HT : Hid (t = (decide (i ≤ jj) && !ltInt (G jj) (G a))) := ht
          have hcw : ∀ t, t < d.size → wr.cell? ⟨blk, off + t, none⟩ = some (.int .u32 (G t)) := fun t ht => by rw [HG.out]; exact (hrow.holds t (by omega)).1
          have hfw : ∀ t, t < d.size → wr.frozen? ⟨blk, off + t, none⟩ = false := fun t ht => (hrow.holds t (by omega)).2
          clear hrow hS ht hgk
          go_upto_region 5 with fail
          go_cut [60] (fun s wq => s = .bool t ∧ Row w blk off D wq)
          case first =>
            by_cases hcc : i ≤ jj
            · have hcz : ((i : Nat) : Int) ≤ ((jj : Nat) : Int) := by omega
              go_big_quiet (first | (go_at_call 85; refine Calls.quiet_of_same (lessU _ _ _)))
              go_wp2_with fail
              go_meet
              case rel => exact ⟨by rw [HT.out]; simp [hcc], HR.out.drewN nq⟩
            · have hcz : decide (((i : Nat) : Int) ≤ ((jj : Nat) : Int)) = false := decide_eq_false (by omega)
              go_big_quiet (first | (go_at_call 85; refine Calls.quiet_of_same (lessU _ _ _)))
              go_wp2_with fail
              go_meet
              case rel => exact ⟨by rw [HT.out]; simp [hcc], HR.out.drewN nq⟩
          case rest =>
            obtain ⟨hst, hrow⟩ := hcut
            subst hst
            clear hcw hfw HR
            have HR : Hid (Row w blk off D wc) := hrow
            clear hrow
            cases t with
            | true =>
              have htt : i ≤ jj ∧ (!ltInt D[jj]! D[a]!) = true := by have := HT.out; simp only [HG.out] at this; exact and_true_of this
              have HTT : Hid _ := htt
              have hcc := htt.1
              clear htt
              go_wp2
              have htt := HTT.out
              have hgk := HGKN.out
              go_roundg (gk - 1)
              case measure => omega
              case rel => exact ⟨jj - 1, by congr 1; omega, by omega, by omega, by omega, HR.out, by rw [← HS.out]; exact (down_go _ _ _ _ htt.1 (by omega) htt.2).symm⟩
            | false =>
              have htt : ¬ i ≤ jj ∨ (!ltInt D[jj]! D[a]!) = false := by have := HT.out; simp only [HG.out] at this; exact and_false_of this
              have HE2 : Hid (scanDown (fun x => !ltInt x D[a]!) D i (c) = jj) := HS.out.symm.trans (down_end _ _ _ _ htt)
              have HN2 : Hid (¬ i ≤ jj ∨ (!ltInt D[jj]! D[a]!) = false) := htt
              clear htt HT HS
              by_cases hgt : jj < i
              · go_wp2
                rcases Nat.eq_or_lt_of_le (show a ≤ jj by omega) with hee | hee
                · subst hee
                  have hcw : ∀ t, t < d.size → wc.cell? ⟨blk, off + t, none⟩ = some (.int .u32 (G t)) := fun t ht => by rw [HG.out]; exact (HR.out.holds t (by omega)).1
                  have hfw : ∀ t, t < d.size → wc.frozen? ⟨blk, off + t, none⟩ = false := fun t ht => (HR.out.holds t (by omega)).2
                  have hxd : a < d.size := by omega
                  have hyd : a < d.size := by omega
                  have hsw := (HR.out.drewN 1).swap (i := a) (j := a) (by omega) (by omega)
                  rw [← HG.out] at hsw
                  have HSW : Hid _ := hsw
                  clear hsw
                  go_region
                  all_goals go_wp2
                  refine bodyPost_ret (v := .tuple #[.int .i64 ((a : Nat) : Int), .bool true]) ?_ rfl ⟨a, true, _, rfl, HSW.out, ?_⟩
                  · simp [results, Tryz.results87, go_sem]
                  · exact part_first HD1.out (by rw [← HCB.out]; exact HE.out) (by rw [← HCB.out]; exact HE2.out) hgt
                · have hne : a < jj := hee
                  have hcw : ∀ t, t < d.size → wc.cell? ⟨blk, off + t, none⟩ = some (.int .u32 (G t)) := fun t ht => by rw [HG.out]; exact (HR.out.holds t (by omega)).1
                  have hfw : ∀ t, t < d.size → wc.frozen? ⟨blk, off + t, none⟩ = false := fun t ht => (HR.out.holds t (by omega)).2
                  have hxd : jj < d.size := by omega
                  have hyd : a < d.size := by omega
                  have hsw := (HR.out.drewN 1).swap (i := jj) (j := a) (by omega) (by omega)
                  rw [← HG.out, ← HG.out] at hsw
                  have HSW : Hid _ := hsw
                  clear hsw
                  go_region
                  all_goals go_wp2
                  refine bodyPost_ret (v := .tuple #[.int .i64 ((jj : Nat) : Int), .bool true]) ?_ rfl ⟨jj, true, _, rfl, HSW.out, ?_⟩
                  · simp [results, Tryz.results87, go_sem]
                  · exact part_first HD1.out (by rw [← HCB.out]; exact HE.out) (by rw [← HCB.out]; exact HE2.out) hgt
              · have hlt : i < jj := part_lt (p := fun x => ltInt x D[a]!) HN1.out HN2.out (by omega) (by omega)
                clear hgt
                go_wp2
                have hcw : ∀ t, t < d.size → wc.cell? ⟨blk, off + t, none⟩ = some (.int .u32 (G t)) := fun t ht => by rw [HG.out]; exact (HR.out.holds t (by omega)).1
                have hfw : ∀ t, t < d.size → wc.frozen? ⟨blk, off + t, none⟩ = false := fun t ht => (HR.out.holds t (by omega)).2
                have hxd : i < d.size := by omega
                have hyd : jj < d.size := by omega
                have hsw := (HR.out.drewN 1).swap (i := i) (j := jj) (by omega) (by omega)
                rw [← HG.out, ← HG.out] at hsw
                have HSW : Hid _ := hsw
                clear hsw
                go_region
                all_goals go_wp2
                obtain ⟨i5, hi5⟩ : ∃ i5 : Nat, i5 = i := ⟨_, rfl⟩
                obtain ⟨j5, hj5⟩ : ∃ j5 : Nat, j5 = jj := ⟨_, rfl⟩
                have HE0 : Hid _ := HE
                have HF0 : Hid _ := HE2
                have hlt0 : ¬ i > jj := by omega
                have hsD : (swp D i jj).size = d.size := by rw [size_swp]; exact hs1
                clear HE HE2 HN1 HN2 HR hcw hfw hi5 hj5
                go_loopg [10, 11] (jj - i) (fun g v u wr => ∃ (i9 j9 : Nat) (dk : Array Int), v = .int .i64 i9 ∧ u = .int .i64 j9 ∧ a < i9 ∧ i9 ≤ j9 + 1 ∧ j9 < b ∧ dk.size = d.size ∧ g = j9 + 2 - i9 ∧ Row w blk off dk wr ∧ partLoop ltInt a (i + 1) (jj - 1) (swp D i jj) = partLoop ltInt a i9 j9 dk)
                case atStart => exact ⟨i + 1, jj - 1, swp D i jj, by go_num, by congr 1; omega, by omega, by omega, by omega, hsD, by omega, HSW.out, rfl⟩
                case round =>
                  clear HSW
                  obtain ⟨i9, j9, dk, rfl, rfl, hi91, hi92, hj9, hsk, hgk3, hrow, hPL⟩ := hrel
                  obtain ⟨gk3, hgk3e⟩ : ∃ gk3, gk3 = gk := ⟨_, rfl⟩
                  have HGK3 : Hid (gk3 = j9 + 2 - i9) := hgk3e.trans hgk3
                  have HG3 : Hid (gk3 = gk) := hgk3e
                  have HPL : Hid (partLoop ltInt a (i + 1) (jj - 1) (swp D i jj) = partLoop ltInt a i9 j9 dk) := hPL
                  have HR : Hid (Row w blk off dk wr) := hrow
                  obtain ⟨GK, hGK⟩ : ∃ GK : Nat → Int, ∀ t, GK t = dk[t]! := ⟨fun t => dk[t]!, fun _ => rfl⟩
                  have HGK : Hid (∀ t, GK t = dk[t]!) := hGK
                  clear hgk3 hgk3e hrow hPL hGK
                  go_wp2
                  go_loopg [10] (j9 + 2 - (i9)) (fun g v wr => ∃ i : Nat, v = .int .i64 i ∧ i9 ≤ i ∧ i ≤ j9 + 1 ∧ g = j9 + 2 - i ∧ Row w blk off dk wr ∧ scanUp (fun x => ltInt x dk[a]!) dk j9 i = scanUp (fun x => ltInt x dk[a]!) dk j9 (i9))
                  case atStart => exact ⟨i9, by first | rfl | go_num, Nat.le_refl _, by omega, rfl, HR.out, rfl⟩
                  case round =>
                    clear HR
                    obtain ⟨i, rfl, hi0, hi1, hgk, hrow, hS⟩ := hrel
                    have HGKN : Hid _ := hgk
                    have HR : Hid (Row w blk off dk wr) := hrow
                    have HS : Hid _ := hS
                    obtain ⟨t, ht⟩ : ∃ t, t = (decide (i ≤ j9) && ltInt (GK i) (GK a)) := ⟨_, rfl⟩
                    have HT : Hid (t = (decide (i ≤ j9) && ltInt (GK i) (GK a))) := ht
                    have hcw : ∀ t, t < d.size → wr.cell? ⟨blk, off + t, none⟩ = some (.int .u32 (GK t)) := fun t ht => by rw [HGK.out]; exact (hrow.holds t (by omega)).1
                    have hfw : ∀ t, t < d.size → wr.frozen? ⟨blk, off + t, none⟩ = false := fun t ht => (hrow.holds t (by omega)).2
                    clear hrow hS ht hgk
                    go_upto_region 13 with fail
                    go_cut [112] (fun s wq => s = .bool t ∧ Row w blk off dk wq)
                    case first =>
                      by_cases hcc : i ≤ j9
                      · have hcz : ((i : Nat) : Int) ≤ ((j9 : Nat) : Int) := by omega
                        go_big_quiet (first | (go_at_call 85; refine Calls.quiet_of_same (lessU _ _ _)))
                        go_wp2_with fail
                        go_meet
                        case rel => exact ⟨by rw [HT.out]; simp [hcc], HR.out.drewN nq⟩
                      · have hcz : decide (((i : Nat) : Int) ≤ ((j9 : Nat) : Int)) = false := decide_eq_false (by omega)
                        go_big_quiet (first | (go_at_call 85; refine Calls.quiet_of_same (lessU _ _ _)))
                        go_wp2_with fail
                        go_meet
                        case rel => exact ⟨by rw [HT.out]; simp [hcc], HR.out.drewN nq⟩
                    case rest =>
                      obtain ⟨hst, hrow⟩ := hcut
                      subst hst
                      clear hcw hfw HR
                      have HR : Hid (Row w blk off dk wc) := hrow
                      clear hrow
                      cases t with
                      | true =>
                        have htt : i ≤ j9 ∧ (ltInt dk[i]! dk[a]!) = true := by have := HT.out; simp only [HGK.out] at this; exact and_true_of this
                        have HTT : Hid _ := htt
                        have hcc := htt.1
                        clear htt
                        go_wp2
                        have htt := HTT.out
                        have hgk := HGKN.out
                        go_roundg (gk - 1)
                        case measure => omega
                        case rel => exact ⟨i + 1, by go_num, by omega, by omega, by omega, HR.out, by rw [← HS.out]; exact (up_go _ _ _ _ htt.1 htt.2).symm⟩
                      | false =>
                        have htt : ¬ i ≤ j9 ∨ (ltInt dk[i]! dk[a]!) = false := by have := HT.out; simp only [HGK.out] at this; exact and_false_of this
                        have HE : Hid (scanUp (fun x => ltInt x dk[a]!) dk j9 (i9) = i) := HS.out.symm.trans (up_end _ _ _ _ htt)
                        have HN1 : Hid (¬ i ≤ j9 ∨ (ltInt dk[i]! dk[a]!) = false) := htt
                        clear htt HT HS
                        go_wp2
                        go_loopg [11] (j9 + 1) (fun g v wr => ∃ jj : Nat, v = .int .i64 jj ∧ jj ≤ j9 ∧ i ≤ jj + 1 ∧ g = jj + 1 ∧ Row w blk off dk wr ∧ scanDown (fun x => !ltInt x dk[a]!) dk i jj = scanDown (fun x => !ltInt x dk[a]!) dk i (j9))
                        case atStart => exact ⟨j9, by first | rfl | go_num, Nat.le_refl _, by omega, rfl, HR.out, rfl⟩
                        case round =>
                          clear HR
                          obtain ⟨jj, rfl, hjj0, hjj1, hgk, hrow, hS⟩ := hrel
                          have HGKN : Hid _ := hgk
                          have HR : Hid (Row w blk off dk wr) := hrow
                          have HS : Hid _ := hS
                          obtain ⟨t, ht⟩ : ∃ t, t = (decide (i ≤ jj) && !ltInt (GK jj) (GK a)) := ⟨_, rfl⟩
                          have HT : Hid (t = (decide (i ≤ jj) && !ltInt (GK jj) (GK a))) := ht
                          have hcw : ∀ t, t < d.size → wr.cell? ⟨blk, off + t, none⟩ = some (.int .u32 (GK t)) := fun t ht => by rw [HGK.out]; exact (hrow.holds t (by omega)).1
                          have hfw : ∀ t, t < d.size → wr.frozen? ⟨blk, off + t, none⟩ = false := fun t ht => (hrow.holds t (by omega)).2
                          clear hrow hS ht hgk
                          go_upto_region 15 with fail
                          go_cut [129] (fun s wq => s = .bool t ∧ Row w blk off dk wq)
                          case first =>
                            by_cases hcc : i ≤ jj
                            · have hcz : ((i : Nat) : Int) ≤ ((jj : Nat) : Int) := by omega
                              go_big_quiet (first | (go_at_call 85; refine Calls.quiet_of_same (lessU _ _ _)))
                              go_wp2_with fail
                              go_meet
                              case rel => exact ⟨by rw [HT.out]; simp [hcc], HR.out.drewN nq⟩
                            · have hcz : decide (((i : Nat) : Int) ≤ ((jj : Nat) : Int)) = false := decide_eq_false (by omega)
                              go_big_quiet (first | (go_at_call 85; refine Calls.quiet_of_same (lessU _ _ _)))
                              go_wp2_with fail
                              go_meet
                              case rel => exact ⟨by rw [HT.out]; simp [hcc], HR.out.drewN nq⟩
                          case rest =>
                            obtain ⟨hst, hrow⟩ := hcut
                            subst hst
                            clear hcw hfw HR
                            have HR : Hid (Row w blk off dk wc) := hrow
                            clear hrow
                            cases t with
                            | true =>
                              have htt : i ≤ jj ∧ (!ltInt dk[jj]! dk[a]!) = true := by have := HT.out; simp only [HGK.out] at this; exact and_true_of this
                              have HTT : Hid _ := htt
                              have hcc := htt.1
                              clear htt
                              go_wp2
                              have htt := HTT.out
                              have hgk := HGKN.out
                              go_roundg (gk - 1)
                              case measure => omega
                              case rel => exact ⟨jj - 1, by congr 1; omega, by omega, by omega, by omega, HR.out, by rw [← HS.out]; exact (down_go _ _ _ _ htt.1 (by omega) htt.2).symm⟩
                            | false =>
                              have htt : ¬ i ≤ jj ∨ (!ltInt dk[jj]! dk[a]!) = false := by have := HT.out; simp only [HGK.out] at this; exact and_false_of this
                              have HE2 : Hid (scanDown (fun x => !ltInt x dk[a]!) dk i (j9) = jj) := HS.out.symm.trans (down_end _ _ _ _ htt)
                              have HN2 : Hid (¬ i ≤ jj ∨ (!ltInt dk[jj]! dk[a]!) = false) := htt
                              clear htt HT HS
                              by_cases hgt : jj < i
                              · go_wp2
                                rcases Nat.eq_or_lt_of_le (show a ≤ jj by omega) with hee | hee
                                · subst hee
                                  have hcw : ∀ t, t < d.size → wc.cell? ⟨blk, off + t, none⟩ = some (.int .u32 (GK t)) := fun t ht => by rw [HGK.out]; exact (HR.out.holds t (by omega)).1
                                  have hfw : ∀ t, t < d.size → wc.frozen? ⟨blk, off + t, none⟩ = false := fun t ht => (HR.out.holds t (by omega)).2
                                  have hxd : a < d.size := by omega
                                  have hyd : a < d.size := by omega
                                  have hsw := (HR.out.drewN 1).swap (i := a) (j := a) (by omega) (by omega)
                                  rw [← HGK.out] at hsw
                                  have HSW : Hid _ := hsw
                                  clear hsw
                                  go_region
                                  all_goals go_wp2
                                  refine bodyPost_ret (v := .tuple #[.int .i64 ((a : Nat) : Int), .bool false]) ?_ rfl ⟨a, false, _, rfl, HSW.out, ?_⟩
                                  · simp [results, Tryz.results87, go_sem]
                                  · exact part_last HD1.out (by rw [← HCB.out]; exact HE0.out) (by rw [← HCB.out]; exact HF0.out) hlt0 (HPL.out.trans (loop_break HE.out HE2.out hgt))
                                · have hne : a < jj := hee
                                  have hcw : ∀ t, t < d.size → wc.cell? ⟨blk, off + t, none⟩ = some (.int .u32 (GK t)) := fun t ht => by rw [HGK.out]; exact (HR.out.holds t (by omega)).1
                                  have hfw : ∀ t, t < d.size → wc.frozen? ⟨blk, off + t, none⟩ = false := fun t ht => (HR.out.holds t (by omega)).2
                                  have hxd : jj < d.size := by omega
                                  have hyd : a < d.size := by omega
                                  have hsw := (HR.out.drewN 1).swap (i := jj) (j := a) (by omega) (by omega)
                                  rw [← HGK.out, ← HGK.out] at hsw
                                  have HSW : Hid _ := hsw
                                  clear hsw
                                  go_region
                                  all_goals go_wp2
                                  refine bodyPost_ret (v := .tuple #[.int .i64 ((jj : Nat) : Int), .bool false]) ?_ rfl ⟨jj, false, _, rfl, HSW.out, ?_⟩
                                  · simp [results, Tryz.results87, go_sem]
                                  · exact part_last HD1.out (by rw [← HCB.out]; exact HE0.out) (by rw [← HCB.out]; exact HF0.out) hlt0 (HPL.out.trans (loop_break HE.out HE2.out hgt))
                              · have hlt : i < jj := part_lt (p := fun x => ltInt x dk[a]!) HN1.out HN2.out (by omega) (by omega)
                                clear hgt
                                go_wp2
                                have hcw : ∀ t, t < d.size → wc.cell? ⟨blk, off + t, none⟩ = some (.int .u32 (GK t)) := fun t ht => by rw [HGK.out]; exact (HR.out.holds t (by omega)).1
                                have hfw : ∀ t, t < d.size → wc.frozen? ⟨blk, off + t, none⟩ = false := fun t ht => (HR.out.holds t (by omega)).2
                                have hxd : i < d.size := by omega
                                have hyd : jj < d.size := by omega
                                have hsw := (HR.out.drewN 1).swap (i := i) (j := jj) (by omega) (by omega)
                                rw [← HGK.out, ← HGK.out] at hsw
                                have HSW : Hid _ := hsw
                                clear hsw
                                go_region
                                all_goals go_wp2
                                have hgk3 := HGK3.out
                                have hg3 := HG3.out
                                go_roundg (jj - i)
                                case measure => omega
                                case rel => exact ⟨i + 1, jj - 1, swp dk i jj, by go_num, by congr 1; omega, by omega, by omega, by omega, by rw [size_swp]; exact hsk, by omega, HSW.out, HPL.out.trans (loop_go HE.out HE2.out (by omega))⟩

end Go.Proofs.YtcmnmogmdhofcaaGreat.sortu

/- Rows of numbers of 32 bits that are sorted in place: the partition of equal ones (slices.partitionEqualOrdered). -/
namespace Go.Proofs.YtcmnmogmdhofcaaGreat.sortu
open Go.RowKit Go.Sort
set_option linter.unusedVariables false
set_option maxRecDepth 100000

set_option maxHeartbeats 16000000 in
theorem partEqU (blk off cap a b pivot : Nat) (d : Array Int) (w : World) (hH : Holds encU w blk off d) (hap : a < pivot) (hpb : pivot < b) (hb : b ≤ d.size) (hsz : d.size < 50) :
    Calls Tryz.prog 86 #[.slice (some ⟨blk, off, none⟩) d.size cap, .int .i64 a, .int .i64 b, .int .i64 pivot] w fun e w' => ∃ mid d', e = .returned (.int .i64 ((mid : Nat) : Int)) ∧ Row w blk off d' w' ∧ Sort.partitionEqual ltInt d a b pivot = (mid, d') := by
  obtain ⟨c, hc⟩ : ∃ c : Nat, (b : Int) - 1 = c := ⟨b - 1, by omega⟩
  have hcb : c + 1 = b := by omega
  have HCB : Hid (c = b - 1) := by show c = b - 1; omega
  have HR0 : Hid (Row w blk off d w) := Row.start hH
  obtain ⟨G0, hG⟩ : ∃ G0 : Nat → Int, ∀ t, G0 t = d[t]! := ⟨fun t => d[t]!, fun _ => rfl⟩
  have hcw : ∀ t, t < d.size → w.cell? ⟨blk, off + t, none⟩ = some (.int .u32 (G0 t)) := fun t ht => by rw [hG]; exact (hH t ht).1
  have hfw : ∀ t, t < d.size → w.frozen? ⟨blk, off + t, none⟩ = false := fun t ht => (hH t ht).2
  have hsw := (HR0.out.drewN 1).swap (i := a) (j := pivot) (by omega) (by omega)
  rw [← hG, ← hG] at hsw
  obtain ⟨D, hD⟩ : ∃ D, D = swp d a pivot := ⟨_, rfl⟩
  rw [← hD] at hsw
  have hs1 : D.size = d.size := by rw [hD, size_swp]
  have HD1 : Hid (D = swp d a pivot) := hD
  have HSW : Hid _ := hsw
  clear hsw hD hG hH HR0
  go_enter Tryz.func86, Tryz.ntmps86
  go_wp2
  go_region
  all_goals go_wp2
  have HR : Hid _ := HSW
  clear hcw hfw HSW
  obtain ⟨G, hG⟩ : ∃ G : Nat → Int, ∀ t, G t = D[t]! := ⟨fun t => D[t]!, fun _ => rfl⟩
  have HG : Hid (∀ t, G t = D[t]!) := hG
  clear hG
  go_loopg [9, 10] (c + 1 - a) (fun g v u wr => ∃ (i9 j9 : Nat) (dk : Array Int), v = .int .i64 i9 ∧ u = .int .i64 j9 ∧ a < i9 ∧ i9 ≤ j9 + 1 ∧ j9 < b ∧ dk.size = d.size ∧ g = j9 + 2 - i9 ∧ Row w blk off dk wr ∧ partEqLoop ltInt a (a + 1) c D = partEqLoop ltInt a i9 j9 dk)
  case atStart => exact ⟨a + 1, c, D, by go_num, rfl, by omega, by omega, by omega, hs1, by omega, HR.out, rfl⟩
  case round =>
    clear HR
    obtain ⟨i9, j9, dk, rfl, rfl, hi91, hi92, hj9, hsk, hgk3, hrow, hPL⟩ := hrel
    obtain ⟨gk3, hgk3e⟩ : ∃ gk3, gk3 = gk := ⟨_, rfl⟩
    have HGK3 : Hid (gk3 = j9 + 2 - i9) := hgk3e.trans hgk3
    have HG3 : Hid (gk3 = gk) := hgk3e
    have HPL : Hid (partEqLoop ltInt a (a + 1) c D = partEqLoop ltInt a i9 j9 dk) := hPL
    have HR : Hid (Row w blk off dk wr) := hrow
    obtain ⟨GK, hGK⟩ : ∃ GK : Nat → Int, ∀ t, GK t = dk[t]! := ⟨fun t => dk[t]!, fun _ => rfl⟩
    have HGK : Hid (∀ t, GK t = dk[t]!) := hGK
    clear hgk3 hgk3e hrow hPL hGK
    go_wp2
    go_loopg [9] (j9 + 2 - (i9)) (fun g v wr => ∃ i : Nat, v = .int .i64 i ∧ i9 ≤ i ∧ i ≤ j9 + 1 ∧ g = j9 + 2 - i ∧ Row w blk off dk wr ∧ scanUp (fun x => !ltInt dk[a]! x) dk j9 i = scanUp (fun x => !ltInt dk[a]! x) dk j9 (i9))
    case atStart => exact ⟨i9, by first | rfl | go_num, Nat.le_refl _, by omega, rfl, HR.out, rfl⟩
    case round =>
      clear HR
      obtain ⟨i, rfl, hi0, hi1, hgk, hrow, hS⟩ := hrel
      have HGKN : Hid _ := hgk
      have HR : Hid (Row w blk off dk wr) := hrow
      have HS : Hid _ := hS
      obtain ⟨t, ht⟩ : ∃ t, t = (decide (i ≤ j9) && !ltInt (GK a) (GK i)) := ⟨_, rfl⟩
      have HT : Hid (t = (decide (i ≤ j9) && !ltInt (GK a) (GK i))) := ht
      have hcw : ∀ t, t < d.size → wr.cell? ⟨blk, off + t, none⟩ = some (.int .u32 (GK t)) := fun t ht => by rw [HGK.out]; exact (hrow.holds t (by omega)).1
      have hfw : ∀ t, t < d.size → wr.frozen? ⟨blk, off + t, none⟩ = false := fun t ht => (hrow.holds t (by omega)).2
      clear hrow hS ht hgk
      go_upto_region 3 with fail
      go_cut [43] (fun s wq => s = .bool t ∧ Row w blk off dk wq)
      case first =>
        by_cases hcc : i ≤ j9
        · have hcz : ((i : Nat) : Int) ≤ ((j9 : Nat) : Int) := by omega
          go_big_quiet (first | (go_at_call 85; refine Calls.quiet_of_same (lessU _ _ _)))
          go_wp2_with fail
          go_meet
          case rel => exact ⟨by rw [HT.out]; simp [hcc], HR.out.drewN nq⟩
        · have hcz : decide (((i : Nat) : Int) ≤ ((j9 : Nat) : Int)) = false := decide_eq_false (by omega)
          go_big_quiet (first | (go_at_call 85; refine Calls.quiet_of_same (lessU _ _ _)))
          go_wp2_with fail
          go_meet
          case rel => exact ⟨by rw [HT.out]; simp [hcc], HR.out.drewN nq⟩
      case rest =>
        obtain ⟨hst, hrow⟩ := hcut
        subst hst
        clear hcw hfw HR
        have HR : Hid (Row w blk off dk wc) := hrow
        clear hrow
        cases t with
        | true =>
          have htt : i ≤ j9 ∧ (!ltInt dk[a]! dk[i]!) = true := by have := HT.out; simp only [HGK.out] at this; exact and_true_of this
          have HTT : Hid _ := htt
          have hcc := htt.1
          clear htt
          go_wp2
          have htt := HTT.out
          have hgk := HGKN.out
          go_roundg (gk - 1)
          case measure => omega
          case rel => exact ⟨i + 1, by go_num, by omega, by omega, by omega, HR.out, by rw [← HS.out]; exact (up_go _ _ _ _ htt.1 htt.2).symm⟩
        | false =>
          have htt : ¬ i ≤ j9 ∨ (!ltInt dk[a]! dk[i]!) = false := by have := HT.out; simp only [HGK.out] at this; exact and_false_of this
          have HE : Hid (scanUp (fun x => !ltInt dk[a]! x) dk j9 (i9) = i) := HS.out.symm.trans (up_end _ _ _ _ htt)
          have HN1 : Hid (¬ i ≤ j9 ∨ (!ltInt dk[a]! dk[i]!) = false) := htt
          clear htt HT HS
          go_wp2
          go_loopg [10] (j9 + 1) (fun g v wr => ∃ jj : Nat, v = .int .i64 jj ∧ jj ≤ j9 ∧ i ≤ jj + 1 ∧ g = jj + 1 ∧ Row w blk off dk wr ∧ scanDown (fun x => ltInt dk[a]! x) dk i jj = scanDown (fun x => ltInt dk[a]! x) dk i (j9))
          case atStart => exact ⟨j9, by first | rfl | go_num, Nat.le_refl _, by omega, rfl, HR.out, rfl⟩
          case round =>
            clear HR
            obtain ⟨jj, rfl, hjj0, hjj1, hgk, hrow, hS⟩ := hrel
            have HGKN : Hid _ := hgk
            have HR : Hid (Row w blk off dk wr) := hrow
            have HS : Hid _ := hS
            obtain ⟨t, ht⟩ : ∃ t, t = (decide (i ≤ jj) && ltInt (GK a) (GK jj)) := ⟨_, rfl⟩
            have HT : Hid (t = (decide (i ≤ jj) && ltInt (GK a) (GK jj))) := ht
            have hcw : ∀ t, t < d.size → wr.cell? ⟨blk, off + t, none⟩ = some (.int .u32 (GK t)) := fun t ht => by rw [HGK.out]; exact (hrow.holds t (by omega)).1
            have hfw : ∀ t, t < d.size → wr.frozen? ⟨blk, off + t, none⟩ = false := fun t ht => (hrow.holds t (by omega)).2
            clear hrow hS ht hgk
            go_upto_region 5 with fail
            go_cut [59] (fun s wq => s = .bool t ∧ Row w blk off dk wq)
            case first =>
              by_cases hcc : i ≤ jj
              · have hcz : ((i : Nat) : Int) ≤ ((jj : Nat) : Int) := by omega
                go_big_quiet (first | (go_at_call 85; refine Calls.quiet_of_same (lessU _ _ _)))
                go_wp2_with fail
                go_meet
                case rel => exact ⟨by rw [HT.out]; simp [hcc], HR.out.drewN nq⟩
              · have hcz : decide (((i : Nat) : Int) ≤ ((jj : Nat) : Int)) = false := decide_eq_false (by omega)
                go_big_quiet (first | (go_at_call 85; refine Calls.quiet_of_same (lessU _ _ _)))
                go_wp2_with fail
                go_meet
                case rel => exact ⟨by rw [HT.out]; simp [hcc], HR.out.drewN nq⟩
            case rest =>
              obtain ⟨hst, hrow⟩ := hcut
              subst hst
              clear hcw hfw HR
              have HR : Hid (Row w blk off dk wc) := hrow
              clear hrow
              cases t with
              | true =>
                have htt : i ≤ jj ∧ (ltInt dk[a]! dk[jj]!) = true := by have := HT.out; simp only [HGK.out] at this; exact and_true_of this
                have HTT : Hid _ := htt
                have hcc := htt.1
                clear htt
                go_wp2
                have htt := HTT.out
                have hgk := HGKN.out
                go_roundg (gk - 1)
                case measure => omega
                case rel => exact ⟨jj - 1, by congr 1; omega, by omega, by omega, by omega, HR.out, by rw [← HS.out]; exact (down_go _ _ _ _ htt.1 (by omega) htt.2).symm⟩
              | false =>
                have htt : ¬ i ≤ jj ∨ (ltInt dk[a]! dk[jj]!) = false := by have := HT.out; simp only [HGK.out] at this; exact and_false_of this
                have HE2 : Hid (scanDown (fun x => ltInt dk[a]! x) dk i (j9) = jj) := HS.out.symm.trans (down_end _ _ _ _ htt)
                have HN2 : Hid (¬ i ≤ jj ∨ (ltInt dk[a]! dk[jj]!) = false) := htt
                clear htt HT HS
                by_cases hgt : jj < i
                · go_wp2
                  go_ret
                  refine ⟨i, dk, rfl, HR.out, ?_⟩
                  unfold Sort.partitionEqual
                  rw [← HD1.out, ← HCB.out]
                  exact HPL.out.trans (loopE_break HE.out HE2.out hgt)
                · have hlt : i < jj := partE_lt (p := fun x => ltInt dk[a]! x) HN1.out HN2.out (by omega) (by omega)
                  clear hgt
                  go_wp2
                  have hcw : ∀ t, t < d.size → wc.cell? ⟨blk, off + t, none⟩ = some (.int .u32 (GK t)) := fun t ht => by rw [HGK.out]; exact (HR.out.holds t (by omega)).1
                  have hfw : ∀ t, t < d.size → wc.frozen? ⟨blk, off + t, none⟩ = false := fun t ht => (HR.out.holds t (by omega)).2
                  have hxd : i < d.size := by omega
                  have hyd : jj < d.size := by omega
                  have hsw := (HR.out.drewN 1).swap (i := i) (j := jj) (by omega) (by omega)
                  rw [← HGK.out, ← HGK.out] at hsw
                  have HSW : Hid _ := hsw
                  clear hsw
                  go_region
                  all_goals go_wp2
                  have hgk3 := HGK3.out
                  have hg3 := HG3.out
                  go_roundg (jj - i)
                  case measure => omega
                  case rel => exact ⟨i + 1, jj - 1, swp dk i jj, by go_num, by congr 1; omega, by omega, by omega, by omega, by rw [size_swp]; exact hsk, by omega, HSW.out, HPL.out.trans (loopE_go HE.out HE2.out (by omega))⟩

end Go.Proofs.YtcmnmogmdhofcaaGreat.sortu
