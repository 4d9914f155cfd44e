/- Scripts (drive.Play): a player and a builder side by side. -/
import Derived.BigQuiet
import Derived.Deep.QuietTactic
import Derived.Test.YtikhedkhgpjaaacGreatDoorProg
import Derived.Shelf.Slices.Delete
import Derived.Shelf.Slices.Reverse
import Derived.KernelRfl
import Derived.Test.YtikhedkhgpjaaacGreatDoorW27
import Derived.Test.YtikhedkhgpjaaacGreatDoorW11
import Derived.Test.YtikhedkhgpjaaacGreatDoorW02
import Derived.Test.YtikhedkhgpjaaacGreatDoorW18
import Derived.Test.YtikhedkhgpjaaacGreatDoorW05
import Derived.Test.YtikhedkhgpjaaacGreatDoorW19

namespace Go.Proofs.YtikhedkhgpjaaacGreatDoor
set_option linter.unusedVariables false
namespace form
open Go.Shelf Go.RowKit
set_option maxRecDepth 100000
attribute [local go_sem ↓] Go.wp_at_zero Go.wp_at_succ
attribute [local go_sem] str_size str_list ByteArray.toList_mk
theorem joinO (base : Nat) (xs : List (List UInt8)) (v : Value) (w : World) (h : WordsAt base xs v w) (hx : xs ≠ []) (hl : xs.length ≤ 2000000) (hj : (joinW xs).length ≤ 100000000) :
    Calls Tryz.prog 7 #[v, .string ⟨#[32]⟩] w fun e w' => e = .returned (.string (str (joinW xs))) ∧ Below w.heap.size w w' := by
  obtain ⟨ao, c, rfl, hc, hf⟩ := row_form h
  have h0 : 0 < xs.length := by
    cases xs with
    | nil => exact absurd rfl hx
    | cons x t => simp
  obtain ⟨bk, rfl, h1, h2⟩ := hf h0
  have em : (xs.map str).map (fun x : ByteArray => x.data.toList) = xs := by
    rw [List.map_map]
    conv => rhs; rw [← List.map_id xs]
    rfl
  have H := Any.strings_Join laysJoin laysExtraJ bk 0 c (xs.map str) ⟨#[32]⟩ w (fun j x hx2 => by
    rw [Nat.zero_add]
    rw [List.getElem?_map] at hx2
    obtain ⟨y, hy, rfl⟩ := Option.map_eq_some_iff.1 hx2
    have hj2 : j < xs.length := (List.getElem?_eq_some_iff.1 hy).1
    rw [World.ownsRow.cellAt h j (by omega)]
    simp [hy]) h2 (by simp; omega) (by simpa using hc) (by rw [em]; exact Nat.le_trans hj (by omega))
  rw [em, List.length_map] at H
  exact H
theorem row_sameD {w w' : World} {base : Nat} {e : TypeId} {size n : Nat} {v : Value} {xs : List Value} (h : w.ownsRow base e size v n xs) (hk : ∀ k, v.ownBlock = some k → w'.heap[k]? = w.heap[k]?) : w'.ownsRow base e size v n xs := by
  refine ⟨h.1, ?_⟩
  rcases h.2 with hn | ⟨g, cap, cur, rfl, hb, hgg, rest⟩
  · exact .inl hn
  · exact .inr ⟨g, cap, cur, rfl, hb, by rw [hk g rfl]; exact hgg, rest⟩
theorem row_tagD {w : World} {base : Nat} {e : TypeId} {size n : Nat} {v : Value} {xs : List Value} (h : w.ownsRow base e size v n xs) {k : Nat} (hk : v.ownBlock = some k) : ∃ cs fz, w.heap[k]? = some (.cells cs e fz) := by
  rcases h.2 with ⟨rfl, _⟩ | ⟨g, cap, cur, rfl, hb, hgg, rest⟩
  · simp [Value.ownBlock] at hk
  · simp [Value.ownBlock] at hk
    subst hk
    exact ⟨cur, _, hgg⟩
theorem PlS.turn {base q : Nat} {g : PL} {wv cv iv : Value} {w w' : World} (h : PlS base q g wv cv iv w) (hq : w'.heap[q]? = w.heap[q]?) (hw : ∀ k, wv.ownBlock = some k → w'.heap[k]? = w.heap[k]?) (hc : ∀ k, cv.ownBlock = some k → w'.heap[k]? = w.heap[k]?) (hi : ∀ k, iv.ownBlock = some k → w'.heap[k]? = w.heap[k]?) : PlS base q g wv cv iv w' :=
  ⟨h.lo, by rw [World.cell?_of_block (w := w) hq]; exact h.c0, by rw [World.cell?_of_block (w := w) hq]; exact h.c1, by rw [World.cell?_of_block (w := w) hq]; exact h.c2, by rw [World.frozen?_of_block (w := w) hq]; exact h.f0, by rw [World.frozen?_of_block (w := w) hq]; exact h.f1, by rw [World.frozen?_of_block (w := w) hq]; exact h.f2, row_sameD h.wide hw, row_sameD h.code hc, row_sameD h.ins hi, h.aw, h.ac, h.ai, h.wc, h.wi, h.ci, h.bw, h.bc, h.bi, h.oc, h.oi⟩
theorem PlS.others {base q b : Nat} {g : PL} {wv cv iv : Value} {w w' : World} (h : PlS base q g wv cv iv w) (hT : PlT q w) (hb : ∃ cs fz, w.heap[b]? = some (.cells cs 34 fz)) (hk : Lib.OthersKept 5 (some b) w w') : PlS base q g wv cv iv w' ∧ PlT q w' := by
  obtain ⟨bc, bz, hb⟩ := hb
  have keep : ∀ (t : TypeId) (k : Nat), (∃ cs fz, w.heap[k]? = some (.cells cs t fz)) → t ≠ 5 → t ≠ 34 → w'.heap[k]? = w.heap[k]? := by
    rintro t k ⟨cs, fz, h1⟩ h2 h3
    rw [h1]
    refine hk k _ h1 (fun e => ?_) (fun c z e => ?_)
    · have e2 := Option.some.inj e
      subst e2
      rw [h1] at hb
      injection hb with hb
      injection hb with _ hb _
      exact h3 hb
    · injection e with _ e _
      exact h2 e
  have hq := keep _ q hT (by decide) (by decide)
  exact ⟨h.turn hq (fun k e => keep _ k (row_tagD h.wide e) (by decide) (by decide)) (fun k e => keep _ k (row_tagD h.code e) (by decide) (by decide)) (fun k e => keep _ k (row_tagD h.ins e) (by decide) (by decide)), hT.of hq⟩
theorem builder_off {base q b B : Nat} {g : PL} {wv cv iv : Value} {bs : List Value} {w w' : World} (hB : Lib.IsBuilderF 34 5 B b bs w) (hP : PlS base q g wv cv iv w) (hT : PlT q w) (ho : OffP q wv cv w w') : Lib.IsBuilderF 34 5 B b bs w' := by
  have keep : ∀ (t : TypeId) (k : Nat) (cs : Array Value) (fz : Nat × Nat), w.heap[k]? = some (.cells cs t fz) → t ≠ 30 → t ≠ 4 → t ≠ 74 → w'.heap[k]? = some (.cells cs t fz) := by
    intro t k cs fz h1 h2 h3 h4
    have hlt : k < w.heap.size := (Array.getElem?_eq_some_iff.1 h1).1
    rw [ho.block k hlt (fun e => ?_) (fun e => ?_) (fun e => ?_)]
    · exact h1
    · obtain ⟨c2, f2, h5⟩ := hT
      rw [← e, h1] at h5
      injection h5 with h5
      injection h5 with _ h5 _
      exact h2 h5
    · obtain ⟨c2, f2, h5⟩ := row_tagD hP.wide e
      rw [h1] at h5
      injection h5 with h5
      injection h5 with _ h5 _
      exact h3 h5
    · obtain ⟨c2, f2, h5⟩ := row_tagD hP.code e
      rw [h1] at h5
      injection h5 with h5
      injection h5 with _ h5 _
      exact h4 h5
  have key : ∀ p, Lib.BuilderAtF 34 5 B b p bs w → Lib.BuilderAtF 34 5 B b p bs w' := by
    rintro p ⟨h0, v, h1, h2, h3⟩
    refine ⟨h0, v, keep _ b _ _ h1 (by decide) (by decide) (by decide), ⟨h2.1, ?_⟩, h3⟩
    rcases h2.2 with hn | ⟨gg, cap, cur, fz, rfl, hb, hgg, rest⟩
    · exact .inl hn
    · exact .inr ⟨gg, cap, cur, fz, rfl, hb, keep _ gg _ _ hgg (by decide) (by decide) (by decide), rest⟩
  exact hB.elim (fun h => .inl (key _ h)) (fun h => .inr (key _ h))
theorem builder_below {b B : Nat} {bs : List Value} {w w' : World} (hB : Lib.IsBuilderF 34 5 B b bs w) (h : Below w.heap.size w w') : Lib.IsBuilderF 34 5 B b bs w' := by
  have keep : ∀ (k : Nat) (o : Obj), w.heap[k]? = some o → w'.heap[k]? = some o := fun k o h1 => by
    rw [h.block k (Array.getElem?_eq_some_iff.1 h1).1]
    exact h1
  have key : ∀ p, Lib.BuilderAtF 34 5 B b p bs w → Lib.BuilderAtF 34 5 B b p bs w' := by
    rintro p ⟨h0, v, h1, h2, h3⟩
    refine ⟨h0, v, keep b _ h1, ⟨h2.1, ?_⟩, h3⟩
    rcases h2.2 with hn | ⟨gg, cap, cur, fz, rfl, hb, hgg, rest⟩
    · exact .inl hn
    · exact .inr ⟨gg, cap, cur, fz, rfl, hb, keep gg _ hgg, rest⟩
  exact hB.elim (fun h => .inl (key _ h)) (fun h => .inr (key _ h))
theorem builder_tag {b B : Nat} {bs : List Value} {w : World} (hB : Lib.IsBuilderF 34 5 B b bs w) : ∃ cs fz, w.heap[b]? = some (.cells cs 34 fz) := by
  rcases hB with ⟨_, v, h, _⟩ | ⟨_, v, h, _⟩ <;> exact ⟨_, _, h⟩
structure PyS (w0 : World) (g : PL) (t : List UInt8) (wr : World) : Prop where
  bel : Below w0.heap.size w0 wr
  pl : ∃ wv cv iv, PlS w0.heap.size w0.heap.size g wv cv iv wr
  tag : PlT w0.heap.size wr
  bu : Lib.IsBuilderF 34 5 w0.heap.size (w0.heap.size + 1) (Lib.byteCells t) wr
theorem PyS.start (w : World) : PyS w ⟨[], [], []⟩ [] ((w.alloc (.cells #[.slice none 0 0, .slice none 0 0, .slice none 0 0] 30)).alloc (.cells #[.pointer none, .slice none 0 0] 34)) := by
  obtain ⟨w1, hw1⟩ : ∃ w1, w1 = w.alloc (.cells #[.slice none 0 0, .slice none 0 0, .slice none 0 0] 30) := ⟨_, rfl⟩
  have s1 : w1.heap.size = w.heap.size + 1 := by rw [hw1]; exact size_alloc _ _
  have hb1 : Below w.heap.size w w1 := by rw [hw1]; exact (Below.refl _ _).alloc (Nat.le_refl _) _
  have hp1 : PlS w.heap.size w.heap.size ⟨[], [], []⟩ (.slice none 0 0) (.slice none 0 0) (.slice none 0 0) w1 := by
    rw [hw1]
    exact ⟨Nat.le_refl _, by simp [go_sem], by simp [go_sem], by simp [go_sem], by simp [go_sem], by simp [go_sem], by simp [go_sem], World.ownsRow_nil _ _ _ _, World.ownsRow_nil _ _ _ _, World.ownsRow_nil _ _ _ _, by simp [Value.ownBlock], by simp [Value.ownBlock], by simp [Value.ownBlock], Or.inl rfl, Or.inl rfl, Or.inl rfl, by simp, by simp, by simp, fun i hi => (by cases hi), fun x hx => (by cases hx)⟩
  have ht1 : PlT w.heap.size w1 := ⟨_, _, by rw [hw1]; exact heap_alloc_new w _⟩
  rw [← hw1]
  obtain ⟨w2, hw2⟩ : ∃ w2, w2 = w1.alloc (.cells #[.pointer none, .slice none 0 0] 34) := ⟨_, rfl⟩
  have hb2 : Below w1.heap.size w1 w2 := by rw [hw2]; exact (Below.refl _ _).alloc (Nat.le_refl _) _
  have hbu : Lib.IsBuilderF 34 5 w1.heap.size w1.heap.size [] w2 := by rw [hw2]; exact Lib.IsBuilderF.of (Lib.fresh_isBuilder _ _ w1)
  rw [← hw2]
  refine ⟨step_below hb2 hb1, ⟨_, _, _, hp1.below hb2⟩, ht1.of (hb2.block _ (by omega)), ?_⟩
  rw [s1] at hbu
  rcases hbu with ⟨h0, v, h1, h2, h3⟩ | ⟨h0, v, h1, h2, h3⟩
  · refine .inl ⟨by omega, v, h1, ⟨h2.1, ?_⟩, h3⟩
    rcases h2.2 with hn | ⟨gg, cap, cur, fz, rfl, hb, hgg, rest⟩
    · exact .inl hn
    · exact .inr ⟨gg, cap, cur, fz, rfl, by omega, hgg, rest⟩
  · refine .inr ⟨by omega, v, h1, ⟨h2.1, ?_⟩, h3⟩
    rcases h2.2 with hn | ⟨gg, cap, cur, fz, rfl, hb, hgg, rest⟩
    · exact .inl hn
    · exact .inr ⟨gg, cap, cur, fz, rfl, by omega, hgg, rest⟩
theorem take_one {α : Type} {l : List α} {i : Nat} {x : α} {r : List α} (h : l.drop i = x :: r) : l.take (i + 1) = l.take i ++ [x] ∧ l.drop (i + 1) = r := by
  have hlt : i < l.length := by
    rcases Nat.lt_or_ge i l.length with h1 | h1
    · exact h1
    · rw [List.drop_eq_nil_of_le h1] at h; cases h
  have h2 := List.drop_eq_getElem_cons hlt
  rw [h] at h2
  injection h2 with h3 h4
  exact ⟨by rw [List.take_succ_eq_append_getElem hlt, ← h3], h4.symm⟩
set_option maxHeartbeats 3200000 in
theorem playO (L : Lay) (hL : LayIs L) (hN : LayCap L) (hE : LayLen L) : DriveSpec L := by
  intro s w hs hv
  have HV : Hid (VarOk w) := hv
  have HL : Hid (LayIs L) := hL
  have HN : Hid (LayCap L) := hN
  have HE : Hid (LayLen L) := hE
  have HST : Hid (PyS w ⟨[], [], []⟩ [] ((w.alloc (.cells #[.slice none 0 0, .slice none 0 0, .slice none 0 0] 30)).alloc (.cells #[.pointer none, .slice none 0 0] 34))) := PyS.start w
  obtain ⟨pl, hpl⟩ : ∃ z, z = playL L s := ⟨_, rfl⟩
  have HPL : Hid (pl = (goL L ((linesL s).take 60)).2) := hpl
  rw [← hpl]
  obtain ⟨LL, hLL⟩ : ∃ z, z = linesL s := ⟨_, rfl⟩
  rw [← hLL] at HPL
  have HLL : Hid (linesL s = LL.drop 0) := (by rw [← hLL]; rfl : linesL s = LL.drop 0)
  clear hv hL hN hE hpl hLL
  go_enter Tryz.func4, Tryz.ntmps4
  go_wp2
  go_loopg [0, 5, 6] 61 (fun gg v0 v5 t wr => ∃ (i : Nat) (s' : List UInt8), t = .int .i64 i ∧ v0 = .string (str s') ∧ i ≤ 60 ∧ gg = 61 - i ∧ s'.length ≤ 2000000 ∧ linesL s' = LL.drop i ∧ (goL L (LL.take i)).2.length ≤ i * 21000042 ∧ PyS w (goL L (LL.take i)).1 (goL L (LL.take i)).2 wr)
  case atStart => exact ⟨0, s, rfl, rfl, by omega, by omega, hs, HLL.out, by simp [goL], HST.out⟩
  case round =>
    obtain ⟨i, s', rfl, rfl, hi, hgk, hs', hlines, htl, hpy⟩ := hrel
    have HGK : Hid (gk = 61 - i) := hgk
    have HLI : Hid (linesL s' = LL.drop i) := hlines
    obtain ⟨G, hG⟩ : ∃ G, G = goL L (LL.take i) := ⟨_, rfl⟩
    have HG : Hid (G = goL L (LL.take i)) := hG
    rw [← hG] at htl hpy
    obtain ⟨t, ht⟩ : ∃ t, t = G.2 := ⟨_, rfl⟩
    rw [← ht] at htl hpy
    have HT : Hid (t = G.2) := ht
    have HTL : Hid (t.length ≤ i * 21000042) := htl
    have htl2 : t.length ≤ 1260002520 := by omega
    have HPY : Hid (PyS w G.1 t wr) := hpy
    have hbl1 : w.heap.size + 1 < wr.heap.size := (Array.getElem?_eq_some_iff.1 (builder_tag hpy.bu).choose_spec.choose_spec).1
    have HSTR : Hid (Calls Tryz.prog 10 #[.pointer (some ⟨w.heap.size + 1, 0, none⟩)] wr fun e w' => e = .returned (.string (str t)) ∧ Below w.heap.size wr w') := (Any.Builder_String_any_k laysString laysExtra w.heap.size (w.heap.size + 1) t wr hpy.bu hpy.bel.size).mono (by
      rintro e w' ⟨rfl, _, hb, _⟩
      exact ⟨rfl, hb⟩)
    clear hgk hlines hG ht htl hpy
    by_cases hi60 : i < 60
    case neg =>
      obtain rfl : i = 60 := by omega
      go_wp2_with (go_at_call 10; refine HSTR.out.mono ?_; rintro e w9 ⟨rfl, hb9⟩; have HB9 : Hid (Below w.heap.size w w9) := HPY.out.bel.trans hb9; clear hb9)
      go_ret
      refine ⟨?_, HB9.out⟩
      rw [HPL.out, ← HG.out, ← HT.out]
      rfl
    have hiz : (i : Int) < 60 := by omega
    by_cases hse : s' = []
    case pos =>
      subst hse
      have HEND : Hid (LL.take i = LL.take 60) := (by
        have h1 : LL.drop i = [] := by rw [← HLI.out]; rfl
        have h2 : LL.length ≤ i := by simpa using h1
        rw [List.take_of_length_le h2, List.take_of_length_le (by omega)] : LL.take i = LL.take 60)
      go_wp2_with (go_at_call 10; refine HSTR.out.mono ?_; rintro e w9 ⟨rfl, hb9⟩; have HB9 : Hid (Below w.heap.size w w9) := HPY.out.bel.trans hb9; clear hb9)
      go_ret
      refine ⟨?_, HB9.out⟩
      rw [HPL.out, ← HEND.out, ← HG.out, ← HT.out]
      rfl
    have hse2 : (s' == []) = false := by simpa using hse
    have HCUT := linesL_cut s' hse
    have hcl := cutL_len 10 s'
    have HC : Hid (∀ w, Calls Tryz.prog 5 #[.string (str s'), .string ⟨#[10]⟩] w fun e w' => e = .returned (.tuple #[.string (str (cutL 10 s').1), .string (str (cutL 10 s').2.1), .bool (cutL 10 s').2.2]) ∧ ∃ n, w' = w.drewN n) := fun w => cutO 10 s' (by omega) w
    obtain ⟨p, hp⟩ : ∃ x, x = (cutL 10 s').1 := ⟨_, rfl⟩
    obtain ⟨s2, hs2⟩ : ∃ x, x = (cutL 10 s').2.1 := ⟨_, rfl⟩
    obtain ⟨m2, hm2⟩ : ∃ x, x = (cutL 10 s').2.2 := ⟨_, rfl⟩
    rw [← hp, ← hs2] at HCUT hcl
    rw [← hp, ← hs2, ← hm2] at HC
    have hpl : p.length ≤ 2000000 := by omega
    have hs2l : s2.length ≤ 2000000 := by omega
    obtain ⟨ht1, hd1⟩ := take_one (HLI.out.symm.trans HCUT)
    have HT1 : Hid (LL.take (i + 1) = LL.take i ++ [p]) := ht1
    have HD1 : Hid (linesL s2 = LL.drop (i + 1)) := hd1.symm
    obtain ⟨r, hr⟩ : ∃ r, r = lineL L G.1 p := ⟨_, rfl⟩
    have HR : Hid (r = lineL L G.1 p) := hr
    have hrl : r.2.length ≤ 21000041 := by
      obtain ⟨wv, cv, iv, h⟩ := HPY.out.pl
      rw [hr]
      exact line_len HL.out HE.out h.bw h.bc h.oc h.oi hpl
    have HGO : Hid (goL L (LL.take (i + 1)) = (r.1, (t ++ r.2) ++ [10])) := (by rw [HT1.out, goL_snoc, ← HG.out, ← HR.out, ← HT.out] : goL L (LL.take (i + 1)) = (r.1, (t ++ r.2) ++ [10]))
    clear hse HCUT hcl hp hs2 hm2 ht1 hd1 HSTR
    go_upto_region 8 with (go_at_call 5; refine (HC.out _).mono ?_; rintro e w1 ⟨rfl, n1, hw1⟩; have HB1 : Hid (Below wr.heap.size wr w1) := hw1 ▸ drewN_belowD wr n1; clear hw1)
    have hw1z := HB1.out.size
    obtain ⟨wv, cv, iv, hpr⟩ := HPY.out.pl
    have HP1 : Hid (PlS w.heap.size w.heap.size G.1 wv cv iv w1) := hpr.below HB1.out
    have HTG : Hid (PlT w.heap.size w1) := HPY.out.tag.of (HB1.out.block _ hpr.lt)
    have HBU : Hid (Lib.IsBuilderF 34 5 w.heap.size (w.heap.size + 1) (Lib.byteCells t) w1) := builder_below HPY.out.bu HB1.out
    have HBW : Hid (Below w.heap.size w w1) := step_below HB1.out HPY.out.bel
    have HA := answerO L HL.out HN.out HP1.out HTG.out (HV.out.at.on HBW.out) p (by omega)
    rw [← hr] at HA
    clear hpr hr
    go_wp2_with (first
      | (go_at_call 8; refine HA.mono ?_; rintro e w2 ⟨v, xs, wv2, cv2, iv2, rfl, hws, hxs, hxl, hjn, hp2, ho2, ht2⟩; have HW2 : Hid (WordsAt w1.heap.size xs v w2) := hws; have HP2 : Hid (PlS w.heap.size w.heap.size r.1 wv2 cv2 iv2 w2) := hp2; have HT2 : Hid (PlT w.heap.size w2) := ht2; have HB2 : Hid (Lib.IsBuilderF 34 5 w.heap.size (w.heap.size + 1) (Lib.byteCells t) w2) := builder_off HBU.out HP1.out HTG.out ho2; have HBW2 : Hid (Below w.heap.size w w2) := HBW.out.trans (ho2.below HP1.out); have HJ := joinO w1.heap.size xs v w2 hws hxs hxl (by rw [hjn]; omega); rw [hjn] at HJ; clear hws hxs hxl hjn hp2 ho2 ht2)
      | (go_at_call 7; refine HJ.mono ?_; rintro e w3 ⟨rfl, hb3⟩; have HP3 : Hid (PlS w.heap.size w.heap.size r.1 wv2 cv2 iv2 w3) := HP2.out.below hb3; have HT3 : Hid (PlT w.heap.size w3) := HT2.out.of (hb3.block _ HP2.out.lt); have HB3 : Hid (Lib.IsBuilderF 34 5 w.heap.size (w.heap.size + 1) (Lib.byteCells t) w3) := builder_below HB2.out hb3; have HBW3 : Hid (Below w.heap.size w w3) := step_below hb3 HBW2.out; have HWS : Calls Tryz.prog 6 #[.pointer (some ⟨w.heap.size + 1, 0, none⟩), .string (str r.2)] w3 _ := Any.Builder_WriteString_k laysWriteS laysExtra w.heap.size (w.heap.size + 1) (Lib.byteCells t) (str r.2) w3 HB3.out (by rw [Lib.byteCells_length, str_size]; omega) HBW3.out.size; clear hb3)
      | (go_at_call 6; refine HWS.mono ?_; rintro e w4 ⟨rfl, hbu4, hb4, hk4⟩; obtain ⟨hp4, ht4⟩ := HP3.out.others HT3.out (builder_tag HB3.out) hk4; have HP4 : Hid (PlS w.heap.size w.heap.size r.1 wv2 cv2 iv2 w4) := hp4; have HT4 : Hid (PlT w.heap.size w4) := ht4; have HB4 : Hid (Lib.IsBuilderF 34 5 w.heap.size (w.heap.size + 1) (Lib.byteCells t ++ Lib.strCells (str r.2)) w4) := Or.inr hbu4; have HBW4 : Hid (Below w.heap.size w w4) := HBW3.out.trans hb4; have HWB : Calls Tryz.prog 9 #[.pointer (some ⟨w.heap.size + 1, 0, none⟩), .int .u8 10] w4 _ := Any.Builder_WriteByte_k laysWriteB laysExtra w.heap.size (w.heap.size + 1) (Lib.byteCells t ++ Lib.strCells (str r.2)) 10 w4 HB4.out (by rw [List.length_append, Lib.byteCells_length, Lib.strCells_eq, Lib.byteCells_length]; show t.length + r.2.length + 1 ≤ _; omega) HBW4.out.size; clear hbu4 hb4 hk4 hp4 ht4)
      | (go_at_call 9; refine HWB.mono ?_; rintro e w5 ⟨rfl, hbu5, hb5, hk5⟩; obtain ⟨hp5, ht5⟩ := HP4.out.others HT4.out (builder_tag HB4.out) hk5; have HP5 : Hid (PlS w.heap.size w.heap.size r.1 wv2 cv2 iv2 w5) := hp5; have HT5 : Hid (PlT w.heap.size w5) := ht5; have HB5 : Hid (Lib.IsBuilderF 34 5 w.heap.size (w.heap.size + 1) ((Lib.byteCells t ++ Lib.strCells (str r.2)) ++ [.int .u8 10]) w5) := Or.inr hbu5; have HBW5 : Hid (Below w.heap.size w w5) := HBW4.out.trans hb5; clear hbu5 hb5 hk5 hp5 ht5))
    have hgk := HGK.out
    go_roundg (gk - 1)
    case measure => omega
    case rel =>
      refine ⟨i + 1, s2, by go_num, rfl, by omega, by omega, hs2l, HD1.out, ?_, ?_⟩
      · rw [HGO.out]
        have := HTL.out
        simp
        omega
      · rw [HGO.out]
        refine ⟨HBW5.out, ⟨_, _, _, HP5.out⟩, HT5.out, ?_⟩
        have e : Lib.byteCells ((t ++ r.2) ++ [10]) = (Lib.byteCells t ++ Lib.strCells (str r.2)) ++ [.int .u8 10] := by
          rw [Lib.byteCells_append, Lib.byteCells_append]
          rfl
        show Lib.IsBuilderF _ _ _ _ (Lib.byteCells ((t ++ r.2) ++ [10])) _
        rw [e]
        exact HB5.out
end form
/- Rows of places that a call makes, with their moves, and what becomes of them. -/
namespace form
open Go.RowKit
theorem MovesN.setCell {ob : Option Nat} {w : World} {v : Value} {l : List LMove} (h : MovesN ob w v l) {a : Addr} (hne : v.ownBlock ≠ some a.block) (x : Value) : MovesN ob (w.setCell a x) v l := by
  obtain ⟨ao, cap, e, h0, h1, h2⟩ := h
  refine ⟨ao, cap, e, h0, h1, fun hx => ?_⟩
  obtain ⟨b, e1, e2, e3, e4⟩ := h2 hx
  subst e1
  rw [e] at hne
  have hb : b ≠ a.block := by simpa [Value.ownBlock] using hne
  refine ⟨b, rfl, by simpa using e2, e3, fun k hk => ?_⟩
  obtain ⟨c0, c1, c2, c3, c4, c5⟩ := e4 k hk
  exact ⟨cell_other c0 hb, cell_other c1 hb, cell_other c2 hb, cell_other c3 hb, cell_other c4 hb, cell_other c5 hb⟩
def rowC (x : LRow × Value × Value) : List Value := [.int .i64 x.1.dest.kind, .int .i64 x.1.dest.n, .int .i64 x.1.a.kind, .int .i64 x.1.a.n, .int .i64 x.1.b.kind, .int .i64 x.1.b.n, x.2.1, x.2.2]
def zeroX : LRow × Value × Value := (.zero, .slice none 0 0, .slice none 0 0)
theorem flat8 {L : List (LRow × Value × Value)} {k i : Nat} (hk : k < L.length) (hi : i < 8) : (L.flatMap rowC)[k * 8 + i]? = (rowC (L.getD k zeroX))[i]? := by
  induction L generalizing k with
  | nil => simp at hk
  | cons m L ih =>
    have hl8 : (rowC m).length = 8 := rfl
    rw [List.flatMap_cons]
    cases k with
    | zero => rw [List.getElem?_append_left (by omega)]; simp
    | succ k =>
      rw [List.getElem?_append_right (by omega)]
      simp only [List.length_cons] at hk
      have := ih (k := k) (by omega)
      rw [show (k + 1) * 8 + i - (rowC m).length = k * 8 + i by omega]
      simpa using this
def MvOkC (base : Nat) (ob : Option Nat) (wr : World) (v : Value) (l : List LMove) : Prop := MovesN ob wr v l ∧ ∀ b, v.ownBlock = some b → base ≤ b
theorem own_mv {wr : World} {base lo : Nat} {l : List LMove} {v : Value} (ho : wr.ownsRow lo 208 6 v l.length (l.flatMap mvC)) (hl : l.length ≤ 9223372036854775807) (hlo : base ≤ lo) {ob : Option Nat} (hob : ∀ b, lo ≤ b → some b ≠ ob) : MvOkC base ob wr v l :=
  ⟨own_news ho hl hob, fun b hb => Nat.le_trans hlo (World.ownsRow.lt ho b hb).1⟩
structure RW (base : Nat) (L : List (LRow × Value × Value)) (v : Value) (wr : World) : Prop where
  own : wr.ownsRow base 140 8 v L.length (L.flatMap rowC)
  mv : ∀ x, x ∈ L → MvOkC base v.ownBlock wr x.2.1 x.1.before ∧ MvOkC base v.ownBlock wr x.2.2 x.1.after
section
variable {wr w1 : World} {base : Nat} {L : List (LRow × Value × Value)} {v : Value}
theorem RW.below (h : RW base L v wr) (hb : Below wr.heap.size wr w1) : RW base L v w1 :=
  ⟨World.ownsRow.kept h.own ⟨hb.os, hb.tape, hb.output, hb.size, fun j hj _ => hb.block j hj⟩ (row := none) (by cases v.ownBlock <;> simp), fun x hx => ⟨⟨(h.mv x hx).1.1.later hb, (h.mv x hx).1.2⟩, ⟨(h.mv x hx).2.1.later hb, (h.mv x hx).2.2⟩⟩⟩
theorem RW.setCell (h : RW base L v wr) {a : Addr} (ha : a.block < base) (u : Value) : RW base L v (wr.setCell a u) := by
  refine ⟨World.ownsRow.kept h.own (row := some a.block) ⟨rfl, rfl, rfl, by simp, fun k hk hne => heap_setCell_other wr a k u (fun e => hne (by rw [e]))⟩ ?_, fun x hx => ⟨⟨(h.mv x hx).1.1.setCell (fun e => ?_) u, (h.mv x hx).1.2⟩, ⟨(h.mv x hx).2.1.setCell (fun e => ?_) u, (h.mv x hx).2.2⟩⟩⟩
  · cases hv : v.ownBlock with
    | none => exact Or.inl rfl
    | some k => exact Or.inr (fun e => by have := (World.ownsRow.lt h.own k hv).1; simp at e; omega)
  · have := (h.mv x hx).1.2 _ e; omega
  · have := (h.mv x hx).2.2 _ e; omega
theorem RW.push (h : RW base L v wr) {x : LRow × Value × Value} (hx : MvOkC base v.ownBlock wr x.2.1 x.1.before ∧ MvOkC base v.ownBlock wr x.2.2 x.1.after) {g cap : Nat} (hown : w1.ownsRow base 140 8 (.slice (some ⟨g, 0, none⟩) (L.length + 1) cap) (L.length + 1) (L.flatMap rowC ++ rowC x)) (hgrow : wr.grownBy w1 v.ownBlock) (hat : v.ownBlock = some g ∨ g = wr.heap.size) :
    RW base (L ++ [x]) (.slice (some ⟨g, 0, none⟩) (L.length + 1) cap) w1 := by
  refine ⟨by simpa using hown, fun y hy => ?_⟩
  have hy2 : MvOkC base v.ownBlock wr y.2.1 y.1.before ∧ MvOkC base v.ownBlock wr y.2.2 y.1.after := by
    rw [List.mem_append, List.mem_singleton] at hy
    rcases hy with hy | rfl
    · exact h.mv y hy
    · exact hx
  exact ⟨⟨hy2.1.1.grown hgrow hat, hy2.1.2⟩, ⟨hy2.2.1.grown hgrow hat, hy2.2.2⟩⟩
theorem RW.form (h : RW base L v wr) : ∃ ao cap, v = .slice ao L.length cap := by
  rcases h.own.2 with ⟨e, e2⟩ | ⟨g, cap, cur, e, -⟩
  · exact ⟨none, 0, by rw [e, e2]⟩
  · exact ⟨_, _, e⟩
theorem RW.placed (h : RW base L v wr) (hl : L.length ≤ 9223372036854775807) (slots : Int) : PlacedIs wr (.agg #[.int .i64 slots, v]) slots (L.map (·.1)) := by
  have hL : (L.map (·.1)).length = L.length := by simp
  rcases h.own.2 with ⟨e, e2⟩ | ⟨g, cap, cur, e, hg, hc, hn, hm, hs, ht⟩
  · exact ⟨none, 0, by rw [e, hL, e2], by omega, fun hx => absurd hx (by omega)⟩
  · have ho := h.own
    rw [e] at ho
    refine ⟨_, cap, by rw [e, hL], by omega, fun hx => ⟨g, 0, rfl, ?_, fun r hr => ?_⟩⟩
    · exact (World.ownsRow.lt h.own g (by rw [e]; rfl)).2
    · rw [hL] at hr
      have hcell : ∀ i, i < 8 → wr.cell? ⟨g, r * 8 + i, none⟩ = (rowC (L.getD r zeroX))[i]? := fun i hi => by
        rw [World.ownsRow.cellAt ho (r * 8 + i) (by omega), flat8 hr hi]
      have hrow : (L.map (·.1)).getD r .zero = (L.getD r zeroX).1 := by simp [List.getD, hr]
      have hmem : L.getD r zeroX ∈ L := by simp [List.getD, hr]
      rw [hrow]
      simp only [Nat.zero_add]
      exact ⟨hcell 0 (by omega), hcell 1 (by omega), hcell 2 (by omega), hcell 3 (by omega), hcell 4 (by omega), hcell 5 (by omega), (L.getD r zeroX).2.1, (L.getD r zeroX).2.2, hcell 6 (by omega), hcell 7 (by omega), (h.mv _ hmem).1.1.is, (h.mv _ hmem).2.1.is⟩
end
end form
/- How many registers near ones may bar (color.bars, the closure of color.order), and which temporary is taken next (color.pick). -/
namespace form
open Go.RowKit
set_option maxRecDepth 100000
attribute [local go_sem ↓] Go.wp_at_zero Go.wp_at_succ
def barsN (x y : Bool) : Nat := if x || y then 2 else 1
theorem barsN_le (x y : Bool) : barsN x y ≤ 2 := by unfold barsN; split <;> omega
theorem barsO (x y : Bool) (w : World) : Calls Tryz.prog 156 #[.bool x, .bool y] w fun e w' => e = .returned (.int .i64 (barsN x y : Nat)) ∧ w' = w := by
  cases x <;> cases y
  all_goals
    go_enter Tryz.func156, Tryz.ntmps156
    go_wp2
    go_ret
    exact ⟨rfl, rfl⟩
structure OrdB (pl pr pw lb cap g b0 o0 c0 : Nat) (l : List Nat) (B L : List Bool) (w : World) : Prop where
  left : w.cell? ⟨pl, 0, none⟩ = some (.slice (some ⟨lb, 0, none⟩) l.length cap)
  rows : w.cell? ⟨pr, 0, none⟩ = some (.slice (some ⟨g, 0, none⟩) B.length B.length)
  wide : w.cell? ⟨pw, 0, none⟩ = some (.slice (some ⟨b0, o0, none⟩) B.length c0)
  el : ∀ k, k < l.length → w.cell? ⟨lb, k, none⟩ = some (.int .i64 (l.getD k 0 : Nat))
  lt : ∀ k, k < l.length → l.getD k 0 < B.length
  top : ∀ k, k < B.length → w.cell? ⟨g, k, none⟩ = some (.slice (some ⟨g + 1 + k, 0, none⟩) B.length B.length)
  row : ∀ k t, k < B.length → t < B.length → w.cell? ⟨g + 1 + k, t, none⟩ = some (.bool (getF B.length L k t))
  ws : ∀ k, k < B.length → w.cell? ⟨b0, o0 + k, none⟩ = some (.bool (B.getD k false))
theorem OrdB.drewN {pl pr pw lb cap g b0 o0 c0 : Nat} {l : List Nat} {B L : List Bool} {w : World} (h : OrdB pl pr pw lb cap g b0 o0 c0 l B L w) (q : Nat) : OrdB pl pr pw lb cap g b0 o0 c0 l B L (w.drewN q) :=
  ⟨h.left, h.rows, h.wide, h.el, h.lt, h.top, h.row, h.ws⟩
def howN (l : List Nat) (B L : List Bool) (t : Nat) : Nat → Nat
  | 0 => 0
  | k + 1 => howN l B L t k + (if getF B.length L t (l.getD k 0) then barsN (B.getD t false) (B.getD (l.getD k 0) false) else 0)
theorem howN_le (l : List Nat) (B L : List Bool) (t : Nat) : ∀ k, howN l B L t k ≤ 2 * k
  | 0 => by simp [howN]
  | k + 1 => by
    have h1 := howN_le l B L t k
    have h2 := barsN_le (B.getD t false) (B.getD (l.getD k 0) false)
    simp only [howN]
    split <;> omega
set_option maxHeartbeats 1000000 in
theorem howO (pl pr pw lb cap g b0 o0 c0 : Nat) (l : List Nat) (B L : List Bool) (t : Nat) (w : World) (h : OrdB pl pr pw lb cap g b0 o0 c0 l B L w) (ht : t < B.length) (hB : B.length ≤ 12) (hl : l.length ≤ 12) :
    Calls Tryz.prog 155 #[.int .i64 t, .pointer (some ⟨pl, 0, none⟩), .pointer (some ⟨pr, 0, none⟩), .pointer (some ⟨pw, 0, none⟩)] w fun e w' => e = .returned (.int .i64 (howN l B L t l.length : Nat)) ∧ ∃ q, w' = w.drewN q := by
  have H : Hid (OrdB pl pr pw lb cap g b0 o0 c0 l B L w) := h
  have e1 := h.left
  have e2 := h.rows
  have e3 := h.wide
  have e4 := h.top t ht
  have e5 := h.ws t ht
  have y1 : (0 : Int) ≤ (t : Int) := by omega
  have y2 : (t : Int) < (B.length : Int) := by omega
  have y3 : (B.length : Int) ≤ 12 := by omega
  have y4 : (l.length : Int) ≤ 12 := by omega
  obtain ⟨x, hx⟩ : ∃ x, x = B.getD t false := ⟨_, rfl⟩
  rw [← hx] at e5
  have HX : Hid (x = B.getD t false) := hx
  clear h hx
  go_enter Tryz.func155, Tryz.ntmps155
  go_wp2
  go_loopw [6, 8, 11] (fun sv ov kv wr => ∃ (k q : Nat), sv = .int .i64 (howN l B L t k : Nat) ∧ kv = .int .i64 k ∧ k ≤ l.length ∧ wr = w.drewN q) (fun _ _ kv _ => l.length - (intOf kv).toNat)
  case atStart => exact ⟨0, 0, rfl, rfl, by omega, rfl⟩
  case round =>
    obtain ⟨k, q, rfl, rfl, hk, hw⟩ := hrel
    have HR : Hid (OrdB pl pr pw lb cap g b0 o0 c0 l B L wr) := by
      have := H.out.drewN q
      rw [← hw] at this
      exact this
    have HW : Hid (wr = w.drewN q) := hw
    clear hw e1 e2 e3 e4 e5
    have hz := howN_le l B L t k
    by_cases hlt : k < l.length
    case neg =>
      obtain rfl : k = l.length := by omega
      have y5 : ¬ (l.length : Int) < (l.length : Int) := by omega
      go_wp2
      go_ret
      exact ⟨rfl, q, HW.out⟩
    have e2 := HR.out.rows
    have e3 := HR.out.wide
    have e4 := HR.out.top t ht
    have e5 := HR.out.ws t ht
    rw [← HX.out] at e5
    have y5 : (k : Int) < (l.length : Int) := by omega
    have y6 : (0 : Int) ≤ (k : Int) := by omega
    have f1 := HR.out.el k hlt
    have f2 := HR.out.lt k hlt
    have f3 := HR.out.row t _ ht f2
    have f4 := HR.out.ws _ f2
    have HS : Hid (howN l B L t (k + 1) = howN l B L t k + (if getF B.length L t (l.getD k 0) then barsN x (B.getD (l.getD k 0) false) else 0)) := by rw [HX.out]; rfl
    obtain ⟨o, ho⟩ : ∃ o, o = l.getD k 0 := ⟨_, rfl⟩
    rw [← ho] at f1 f2 f3 f4 HS
    obtain ⟨r, hr⟩ : ∃ r, r = getF B.length L t o := ⟨_, rfl⟩
    rw [← hr] at f3 HS
    obtain ⟨y, hy⟩ : ∃ y, y = B.getD o false := ⟨_, rfl⟩
    rw [← hy] at f4 HS
    clear ho hr hy
    have y7 : (o : Int) < (B.length : Int) := by omega
    have y8 : (0 : Int) ≤ (o : Int) := by omega
    obtain ⟨z, hz0⟩ : ∃ z, z = howN l B L t k := ⟨_, rfl⟩
    rw [← hz0] at hz HS ⊢
    clear hz0
    have y9 : (z : Int) ≤ 24 := by omega
    have hbl := barsN_le x y
    have y10 : (barsN x y : Int) ≤ 2 := by omega
    cases r
    · go_wp2
      refine ⟨⟨k + 1, q, by rw [HS.out]; simp, by go_num, by omega, HW.out⟩, by simp [intOf]; omega⟩
    · go_wp2
      go_quiet (first | (go_at_call 156; refine Calls.quiet_of_same (barsO _ _ _)))
      go_wp2
      refine ⟨⟨k + 1, q + nq, by rw [HS.out]; go_num, by go_num, by omega, by rw [HW.out, World.drewN_drewN]⟩, by simp [intOf]; omega⟩
def pickG (how : Nat → Nat) (n : Int) (l : List Nat) : Nat → Nat → Nat → Nat
  | 0, _, m => m
  | f + 1, k, m => if (how (l.getD k 0) : Int) < n then k else if how (l.getD m 0) < how (l.getD k 0) then pickG how n l f (k + 1) k else pickG how n l f (k + 1) m
theorem pickG_lt (how : Nat → Nat) (n : Int) (l : List Nat) : ∀ f k m, k + f ≤ l.length → m < l.length → pickG how n l f k m < l.length
  | 0, _, m, _, hm => hm
  | f + 1, k, m, hk, hm => by
    simp only [pickG]
    split
    · omega
    · split
      · exact pickG_lt how n l f (k + 1) k (by omega) (by omega)
      · exact pickG_lt how n l f (k + 1) m (by omega) hm
def pickL (B L : List Bool) (n : Int) (l : List Nat) : Nat := pickG (fun t => howN l B L t l.length) n l l.length 0 0
theorem pickL_lt (B L : List Bool) (n : Int) (l : List Nat) (h : 0 < l.length) : pickL B L n l < l.length := pickG_lt _ _ _ _ _ _ (by omega) h
def PickP (i : Nat) (w : World) (e : Ending) (w' : World) : Prop := ∃ q : Nat, e = .returned (.int .i64 i) ∧ w' = w.drewN q
set_option maxHeartbeats 1000000 in
theorem pickO (pl pr pw lb cap g b0 o0 c0 : Nat) (l : List Nat) (B L : List Bool) (n : Int) (w : World) (h : OrdB pl pr pw lb cap g b0 o0 c0 l B L w) (hB : B.length ≤ 12) (hl : l.length ≤ 12) (h0 : 0 < l.length) :
    Calls Tryz.prog 157 #[.slice (some ⟨lb, 0, none⟩) l.length cap, .func (.func 155) #[] #[.pointer (some ⟨pl, 0, none⟩), .pointer (some ⟨pr, 0, none⟩), .pointer (some ⟨pw, 0, none⟩)], .int .i64 n] w fun e w' => PickP (pickL B L n l) w e w' := by
  have H : Hid (OrdB pl pr pw lb cap g b0 o0 c0 l B L w) := h
  obtain ⟨how, hhow⟩ : ∃ how : Nat → Nat, how = fun t => howN l B L t l.length := ⟨_, rfl⟩
  have HOW : Hid (∀ (t : Nat) (wx : World), OrdB pl pr pw lb cap g b0 o0 c0 l B L wx → t < B.length → Calls Tryz.prog 155 #[.int .i64 t, .pointer (some ⟨pl, 0, none⟩), .pointer (some ⟨pr, 0, none⟩), .pointer (some ⟨pw, 0, none⟩)] wx fun e w' => e = .returned (.int .i64 (how t : Nat)) ∧ ∃ m, w' = wx.drewN m) :=
    fun t wx hx ht => by rw [hhow]; exact howO pl pr pw lb cap g b0 o0 c0 l B L t wx hx ht hB hl
  have HPK : Hid (pickL B L n l = pickG how n l l.length 0 0) := by
    show pickL B L n l = pickG how n l l.length 0 0
    rw [hhow]; rfl
  have y3 : (B.length : Int) ≤ 12 := by omega
  have y4 : (l.length : Int) ≤ 12 := by omega
  clear h hhow
  go_enter Tryz.func157, Tryz.ntmps157
  go_wp2
  go_loopw [7, 8, 9, 12] (fun mv av tv kv wr => ∃ (k m q : Nat), mv = .int .i64 m ∧ m < l.length ∧ kv = .int .i64 k ∧ k ≤ l.length ∧ wr = w.drewN q ∧ pickG how n l (l.length - k) k m = pickG how n l l.length 0 0) (fun _ _ _ kv _ => l.length - (intOf kv).toNat)
  case atStart => exact ⟨0, 0, 0, rfl, h0, rfl, by omega, rfl, rfl⟩
  case round =>
    obtain ⟨k, m, q, rfl, hm, rfl, hk, hw, hpg⟩ := hrel
    have HR : Hid (OrdB pl pr pw lb cap g b0 o0 c0 l B L wr) := by
      have := H.out.drewN q
      rw [← hw] at this
      exact this
    have HW : Hid (wr = w.drewN q) := hw
    have HPG : Hid (pickG how n l (l.length - k) k m = pickG how n l l.length 0 0) := hpg
    clear hw hpg
    by_cases hlt : k < l.length
    case neg =>
      have y5 : ¬ (k : Int) < (l.length : Int) := by omega
      go_wp2
      go_ret
      refine ⟨q, ?_, HW.out⟩
      rw [HPK.out, ← HPG.out, show l.length - k = 0 by omega]
      rfl
    have y5 : (k : Int) < (l.length : Int) := by omega
    have y6 : (0 : Int) ≤ (k : Int) := by omega
    have y7 : (m : Int) < (l.length : Int) := by omega
    have y8 : (0 : Int) ≤ (m : Int) := by omega
    have f1 := HR.out.el k hlt
    have f2 := HR.out.lt k hlt
    have f3 := HR.out.el m hm
    have f4 := HR.out.lt m hm
    have HST : Hid (pickG how n l l.length 0 0 = if (how (l.getD k 0) : Int) < n then k else if how (l.getD m 0) < how (l.getD k 0) then pickG how n l (l.length - (k + 1)) (k + 1) k else pickG how n l (l.length - (k + 1)) (k + 1) m) := by
      show pickG how n l l.length 0 0 = _
      rw [← HPG.out, show l.length - k = l.length - (k + 1) + 1 by omega]
      rfl
    obtain ⟨o, ho⟩ : ∃ o, o = l.getD k 0 := ⟨_, rfl⟩
    rw [← ho] at f1 f2 HST
    obtain ⟨p, hp⟩ : ∃ p, p = l.getD m 0 := ⟨_, rfl⟩
    rw [← hp] at f3 f4 HST
    clear ho hp
    have HC : Hid (∀ wx : World, OrdB pl pr pw lb cap g b0 o0 c0 l B L wx → Calls Tryz.prog 155 #[.int .i64 o, .pointer (some ⟨pl, 0, none⟩), .pointer (some ⟨pr, 0, none⟩), .pointer (some ⟨pw, 0, none⟩)] wx fun e w' => e = .returned (.int .i64 (how o : Nat)) ∧ ∃ m, w' = wx.drewN m) := fun wx hx => HOW.out o wx hx f2
    by_cases d1 : (how o : Int) < n
    · have HE : Hid (pickG how n l l.length 0 0 = k) := HST.out.trans (if_pos d1)
      go_wp2_with (go_at_call 155; refine (HC.out _ HR.out).mono ?_; rintro e w1 ⟨rfl, q1, hw1⟩; have HW1 : Hid (w1 = w.drewN (q + q1)) := (by have := hw1; rw [HW.out, World.drewN_drewN] at this; exact this); clear hw1)
      go_ret
      exact ⟨_, by rw [HPK.out, HE.out]; rfl, HW1.out⟩
    by_cases d2 : how p < how o
    · have HE : Hid (pickG how n l (l.length - (k + 1)) (k + 1) k = pickG how n l l.length 0 0) := ((HST.out.trans (if_neg d1)).trans (if_pos d2)).symm
      have d3 : (how p : Int) < (how o : Int) := by omega
      go_wp2_with (go_at_call 155; refine (HC.out _ HR.out).mono ?_; rintro e w1 ⟨rfl, q1, hw1⟩; have f5 : w1.cell? ⟨lb, m, none⟩ = some (.int .i64 (p : Nat)) := (by rw [hw1]; exact f3); have HR1 : Hid (OrdB pl pr pw lb cap g b0 o0 c0 l B L w1) := (by have := HR.out.drewN q1; rw [← hw1] at this; exact this); have HW1 : Hid (w1 = w.drewN (q + q1)) := (by have := hw1; rw [HW.out, World.drewN_drewN] at this; exact this); clear hw1)
      go_quiet (first | (go_at_call 155; refine Calls.quiet_of (HOW.out _ _ (HR1.out.drewN _) ?_); assumption))
      go_wp2
      exact ⟨⟨k + 1, k, q + q1 + nq, rfl, hlt, by go_num, by omega, by rw [HW1.out, World.drewN_drewN], HE.out⟩, by simp [intOf]; omega⟩
    · have HE : Hid (pickG how n l (l.length - (k + 1)) (k + 1) m = pickG how n l l.length 0 0) := ((HST.out.trans (if_neg d1)).trans (if_neg d2)).symm
      have d3 : ¬ (how p : Int) < (how o : Int) := by omega
      go_wp2_with (go_at_call 155; refine (HC.out _ HR.out).mono ?_; rintro e w1 ⟨rfl, q1, hw1⟩; have f5 : w1.cell? ⟨lb, m, none⟩ = some (.int .i64 (p : Nat)) := (by rw [hw1]; exact f3); have HR1 : Hid (OrdB pl pr pw lb cap g b0 o0 c0 l B L w1) := (by have := HR.out.drewN q1; rw [← hw1] at this; exact this); have HW1 : Hid (w1 = w.drewN (q + q1)) := (by have := hw1; rw [HW.out, World.drewN_drewN] at this; exact this); clear hw1)
      go_quiet (first | (go_at_call 155; refine Calls.quiet_of (HOW.out _ _ (HR1.out.drewN _) ?_); assumption))
      go_wp2
      exact ⟨⟨k + 1, m, q + q1 + nq, rfl, hm, by go_num, by omega, by rw [HW1.out, World.drewN_drewN], HE.out⟩, by simp [intOf]; omega⟩
end form
/- slices.Delete and slices.Reverse at rows of ints: the library's contracts at this program's numbers, and what they make of a row. -/
namespace form
open Go.Shelf Go.RowKit Go.Sort
set_option maxRecDepth 100000
def renC : Ren := ⟨fun n => if n = 23 then 158 else 159, fun n => if n = 22 then 114 else if n = 28 then 114 else if n = 3 then 3 else if n = 4 then 4 else 0, fun n => n⟩
theorem laysD : Lays2.n23 Tryz.prog renC where
  mixed := by kernel_rfl
  f23 := by kernel_rfl
  t0 := by kernel_rfl
  a0 := fun _ => by kernel_rfl
  z0 := fun _ => by kernel_rfl
  v0 := fun _ => by kernel_rfl
  t3 := by kernel_rfl
  a3 := fun _ => by kernel_rfl
  z3 := fun _ => by kernel_rfl
  v3 := fun _ => by kernel_rfl
  t4 := by kernel_rfl
  a4 := fun _ => by kernel_rfl
  z4 := fun _ => by kernel_rfl
  v4 := fun _ => by kernel_rfl
  t22 := by kernel_rfl
  a22 := fun _ => by kernel_rfl
  z22 := fun _ => by kernel_rfl
  v22 := fun _ => by kernel_rfl
  i3 := by kernel_rfl
theorem laysR : Lays.n112 Tryz.prog renC where
  mixed := by kernel_rfl
  f112 := by kernel_rfl
  t0 := by kernel_rfl
  a0 := fun _ => by kernel_rfl
  z0 := fun _ => by kernel_rfl
  v0 := fun _ => by kernel_rfl
  t3 := by kernel_rfl
  a3 := fun _ => by kernel_rfl
  z3 := fun _ => by kernel_rfl
  v3 := fun _ => by kernel_rfl
  t4 := by kernel_rfl
  a4 := fun _ => by kernel_rfl
  z4 := fun _ => by kernel_rfl
  v4 := fun _ => by kernel_rfl
  t28 := by kernel_rfl
  a28 := fun _ => by kernel_rfl
  z28 := fun _ => by kernel_rfl
  v28 := fun _ => by kernel_rfl
def RowI (w : World) (b : Nat) (l : List Nat) : Prop := ∀ j, j < l.length → w.cell? ⟨b, j, none⟩ = some (.int .i64 (l.getD j 0 : Nat)) ∧ w.frozen? ⟨b, j, none⟩ = false
def natI (l : List Nat) : List Int := l.map (fun n : Nat => (n : Int))
theorem natI_len (l : List Nat) : (natI l).length = l.length := by simp [natI]
theorem natI_get (l : List Nat) (j : Nat) : (natI l).getD j 0 = (l.getD j 0 : Nat) := by
  unfold natI
  by_cases h : j < l.length
  · simp [List.getD, h]
  · simp [List.getD, h]
theorem arr_get (d : List Int) (j : Nat) (h : j < d.length) : d.toArray[j]! = d.getD j 0 := by
  rw [getElem!_pos d.toArray j (by simpa using h)]
  simp [List.getD, h]
theorem RowI.holds {w : World} {b : Nat} {l : List Nat} (h : RowI w b l) : Go.Sort.Holds (Value.int .i64) w b 0 (natI l).toArray := by
  intro j hj
  have hj2 : j < l.length := by simpa [natI] using hj
  obtain ⟨h1, h2⟩ := h j hj2
  rw [Nat.zero_add, arr_get _ _ (by rw [natI_len]; exact hj2), natI_get]
  exact ⟨h1, h2⟩
theorem grown_put {w : World} {b q : Nat} {d : Array Int} : w.grownBy (Go.Sort.putRow (Value.int .i64) (Sort.ahead w q) b 0 d) (some b) := by
  refine ⟨rfl, rfl, rfl, by rw [size_putRow]; exact Nat.le_refl _, fun k hk hne => ?_⟩
  simp only [Go.Sort.putRow, mapBlock, Array.getElem?_modify]
  rw [if_neg (fun e => hne (by rw [e]))]
  rfl
theorem deleteO (b cap i : Nat) (l : List Nat) (w : World) (h : RowI w b l) (hcap : l.length ≤ cap) (hm : cap ≤ 9223372036854775807) (hi : i < l.length) :
    Calls Tryz.prog 158 #[.slice (some ⟨b, 0, none⟩) l.length cap, .int .i64 i, .int .i64 ((i : Int) + 1)] w fun e w' => e = .returned (.slice (some ⟨b, 0, none⟩) (l.length - 1) cap) ∧ RowI w' b (l.eraseIdx i) ∧ w.grownBy w' (some b) := by
  have H := Any.slices_Delete_int laysD b 0 cap i (i + 1) (natI l) w h.holds (by rw [natI_len]; exact hcap) hm (by omega) (by rw [natI_len]; omega)
  have e1 : (renC.f 23) = 158 := rfl
  have e2 : ((i + 1 : Nat) : Int) = (i : Int) + 1 := by omega
  rw [natI_len, e1, e2] at H
  refine H.mono ?_
  rintro e w' ⟨rfl, q, rfl⟩
  refine ⟨by rw [show i + 1 - i = 1 by omega], ?_, grown_put⟩
  have hH := holds_putRow (Value.int .i64) (Sort.ahead w q) b 0 (natI l).toArray ((natI l).take i ++ (natI l).drop (i + 1) ++ List.replicate (i + 1 - i) 0).toArray h.holds (by simp [natI_len]; omega)
  intro j hj
  have hj2 : j < l.length - 1 := by rw [List.length_eraseIdx_of_lt hi] at hj; exact hj
  have hl : ((natI l).take i ++ (natI l).drop (i + 1) ++ List.replicate (i + 1 - i) 0).length = l.length := by simp [natI_len]; omega
  obtain ⟨h1, h2⟩ := hH j (by simp only [List.size_toArray]; omega)
  rw [Nat.zero_add, arr_get _ _ (by omega)] at h1
  rw [Nat.zero_add] at h2
  refine ⟨?_, h2⟩
  rw [h1]
  congr 2
  rw [List.eraseIdx_eq_take_drop_succ, ← natI_get]
  have e3 : natI (l.take i ++ l.drop (i + 1)) = (natI l).take i ++ (natI l).drop (i + 1) := by simp [natI, List.map_take, List.map_drop]
  rw [e3]
  simp only [List.getD]
  rw [List.getElem?_append_left (by simp [natI_len]; omega)]
theorem reverseO (b cap : Nat) (l : List Nat) (w : World) (h : RowI w b l) (hm : l.length ≤ 9223372036854775807) :
    Calls Tryz.prog 159 #[.slice (some ⟨b, 0, none⟩) l.length cap] w fun e w' => e = .returned (.tuple #[]) ∧ RowI w' b l.reverse ∧ w.grownBy w' (some b) := by
  have H := Any.slices_Reverse_int laysR b 0 cap (natI l) w h.holds (by rw [natI_len]; exact hm)
  have e1 : (renC.f 112) = 159 := rfl
  rw [natI_len, e1] at H
  refine H.mono ?_
  rintro e w' ⟨rfl, q, rfl⟩
  refine ⟨rfl, ?_, grown_put⟩
  have hH := holds_putRow (Value.int .i64) (Sort.ahead w q) b 0 (natI l).toArray (natI l).reverse.toArray h.holds (by simp)
  intro j hj
  have hj2 : j < l.length := by simpa using hj
  obtain ⟨h1, h2⟩ := hH j (by simp [natI_len]; omega)
  rw [Nat.zero_add, arr_get _ _ (by simp [natI_len]; omega)] at h1
  rw [Nat.zero_add] at h2
  refine ⟨?_, h2⟩
  rw [h1, show (natI l).reverse = natI l.reverse by simp [natI], natI_get]
end form
end Go.Proofs.YtikhedkhgpjaaacGreatDoor
