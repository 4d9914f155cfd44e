/- The order in which temporaries are given registers: the program's own color.order. -/
import Derived.Test.YtgeimilnddpdmabColorOrder
namespace Go.Proofs.Ytgeimilnddpdmab.form
open Go.RowKit
set_option linter.unusedVariables false
set_option maxRecDepth 100000
attribute [local go_sem ↓] Go.wp_at_zero Go.wp_at_succ

theorem range_get (n j : Nat) (h : j < n) : (List.range n).getD j 0 = j := by simp [List.getD, h]

theorem LfS.ready {w : World} {b0 o0 c0 g : Nat} {B L : List Bool} {v : Value} {wr : World} (h : LfS w b0 o0 c0 g B (List.range B.length) v wr) (h1 : 1 ≤ B.length) (hM : MatF g B.length B.length L w) (hw : ∀ i, i < B.length → w.cell? ⟨b0, o0 + i, none⟩ = some (.bool (B.getD i false))) (hb0 : b0 < w.heap.size) :
    ∃ lb cap, v = .slice (some ⟨lb, 0, none⟩) B.length cap ∧ w.heap.size + 3 ≤ lb ∧ lb < wr.heap.size ∧ cap ≤ 9223372036854775807 ∧ OrS w wr.heap.size lb cap b0 o0 c0 g B L (List.range B.length) [] (.slice none 0 0) wr := by
  obtain ⟨lb, cap, rfl, h2, h3⟩ := h.own.form (by simp; omega)
  have hown := h.own
  have hgz : g + B.length < w.heap.size := by have := (hM.row (B.length - 1) (by omega)).lt; omega
  have hcap : B.length ≤ cap ∧ cap ≤ 9223372036854775807 := by
    rcases hown.2 with ⟨e, _⟩ | ⟨g', cap', cur, e, _, _, h5, h6, _⟩
    · simp at e
    · simp only [Value.slice.injEq, Option.some.injEq, Addr.mk.injEq, and_true, true_and] at e
      obtain ⟨rfl, rfl⟩ := e
      unfold maxLen at h6
      simp at h5
      exact ⟨h5, h6⟩
  have hel : ∀ k, k < B.length → wr.cell? ⟨lb, k, none⟩ = some (.int .i64 (k : Nat)) := fun k hk => by
    rw [World.ownsRow.cellAt hown k (by simp; omega)]
    simp [natV, hk]
  have hlen : (List.range B.length).length = B.length := by simp
  refine ⟨lb, cap, by rw [hlen], h2, h3, hcap.2, ⟨by have := h.left; rwa [hlen] at this ⊢, h.rows, h.wide, fun k hk => ?_, fun k hk => ?_, fun k hk => step_cell h.bel (hM.top k hk), fun k t hk ht => step_cell h.bel (hM.cell hk ht), fun k hk => step_cell h.bel (hw k hk)⟩, fun k hk => ?_, by rw [hlen]; exact hcap.1, h.free, h.bel, World.ownsRow_nil _ _ _ _, fun j hj => by simp at hj, by simp, Nat.le_refl _⟩
  · rw [hlen] at hk; rw [range_get _ _ hk]; exact hel k hk
  · rw [hlen] at hk; rw [range_get _ _ hk]; exact hk
  · rw [hlen] at hk; rw [range_get _ _ hk]; exact ⟨hel k hk, World.ownsRow.frozenAt hown k⟩

set_option maxHeartbeats 1600000 in
theorem orderO (b0 o0 c0 g : Nat) (B L : List Bool) (n : Int) (w : World) (h1 : 1 ≤ B.length) (h12 : B.length ≤ 12) (hM : MatF g B.length B.length L w) (hw : ∀ i, i < B.length → w.cell? ⟨b0, o0 + i, none⟩ = some (.bool (B.getD i false))) (hb0 : b0 < w.heap.size) :
    Calls Try.prog 22 #[.slice (some ⟨b0, o0, none⟩) B.length c0, .slice (some ⟨g, 0, none⟩) B.length B.length, .int .i64 n] w fun e w' => OrderP w B.length e w' := by
  have hgz : g + B.length < w.heap.size := by have := (hM.row (B.length - 1) (by omega)).lt; omega
  have HRD : Hid (∀ v wr, LfS w b0 o0 c0 g B (List.range B.length) v wr → ∃ lb cap, v = .slice (some ⟨lb, 0, none⟩) B.length cap ∧ w.heap.size + 3 ≤ lb ∧ lb < wr.heap.size ∧ cap ≤ 9223372036854775807 ∧ OrS w wr.heap.size lb cap b0 o0 c0 g B L (List.range B.length) [] (.slice none 0 0) wr) := fun v wr h => h.ready h1 hM hw hb0
  have HS0 : Hid (∀ a b c : Obj, Below w.heap.size w (((w.alloc a).alloc b).alloc c)) := fun a b c => (((Below.refl _ _).alloc (Nat.le_refl _) _).alloc (by simp) _).alloc (by simp; omega) _
  have y1 : (B.length : Int) ≤ 12 := by omega
  clear hM hw
  go_enter Try.func22, Try.ntmps22
  go_wp2
  go_loopg [9, 14] (B.length + 1) (fun gg v9 v14 wr => ∃ (k : Nat) (v : Value), v14 = .int .i64 k ∧ k ≤ B.length ∧ gg = B.length + 1 - k ∧ LfS w b0 o0 c0 g B (List.range k) v wr)
  case atStart => exact ⟨0, .slice none 0 0, rfl, by omega, by omega, ⟨HS0.out _ _ _, by simp [go_sem], by simp [go_sem], by simp [go_sem], by simp [go_sem], World.ownsRow_nil _ _ _ _, by simp⟩⟩
  case round =>
    obtain ⟨k, v, rfl, hk, hgk, hls⟩ := hrel
    have HGK : Hid (gk = B.length + 1 - k) := hgk
    have HLS : Hid (LfS w b0 o0 c0 g B (List.range k) v wr) := hls
    clear hgk hls
    by_cases hlt : k < B.length
    case pos =>
      have y2 : (k : Int) < (B.length : Int) := by omega
      obtain ⟨t0', hi0, hy0, hy1, hy2⟩ := info_parts infInt
      obtain ⟨rao, rcap, hform⟩ := HLS.out.form
      have hrl : (List.range k).length = k := by simp
      rw [hrl] at hform
      subst hform
      have e7 := HLS.out.left
      have e8 := HLS.out.wide
      have hwz := HLS.out.size
      have hown0 := HLS.out.own
      rw [hrl] at hown0
      have HOW : Hid (wr.ownsRow (w.heap.size + 3) 3 1 (.slice rao k rcap) k ((List.range k).map natV)) := hown0
      clear hown0
      go_wp2_with (at_builtin; refine wpList_append_lies _ rfl _ _ 62 rfl (w.heap.size + 3) 3 t0' (.int .i64 0) 1 8 Try.underlying62 hi0 hy0 hy1 hy2 rfl (by decide) (.slice rao k rcap) k ((List.range k).map natV) rfl (World.ownsRow.alloc HOW.out _) ⟨wr.heap.size, 0, none⟩ 1 1 [.int .i64 (k : Nat)] rfl rfl (one_cell _ _ _) (by simp [Value.oneCell']) (by decide) (by unfold maxLen; omega) (by omega) (by first | omega | (simp; omega)) _ rfl ?_; intro g9 cap9 w9 hown hgrow hat hlt9; have hP := HLS.out.push (x := k) (by rw [hrl]; exact hown) hgrow; rw [hrl] at hP; obtain ⟨⟨q1, q2⟩, hP⟩ := hP; have HP : Hid (LfS w b0 o0 c0 g B (List.range k ++ [k]) (.slice (some ⟨g9, 0, none⟩) (k + 1) cap9) (w9.setCell ⟨w.heap.size + 1 + 1, 0, none⟩ (.slice (some ⟨g9, 0, none⟩) (k + 1) cap9))) := hP; clear hP hown hgrow hat e7)
      have hgk := HGK.out
      go_roundg (gk - 1)
      case measure => omega
      case rel => exact ⟨k + 1, _, by go_num, by omega, by omega, by rw [List.range_succ]; exact HP.out⟩
    have y2 : ¬ (k : Int) < (B.length : Int) := by omega
    obtain rfl : k = B.length := by omega
    obtain ⟨lb, cap, rfl, hl1, hl2, hcm, hos⟩ := HRD.out _ _ HLS.out
    obtain ⟨P, hP⟩ : ∃ P, P = wr.heap.size := ⟨_, rfl⟩
    rw [← hP] at hl2 hos
    have HOS : Hid (OrS w P lb cap b0 o0 c0 g B L (List.range B.length) [] (.slice none 0 0) wr) := hos
    clear hos hP HGK HLS HRD HS0
    obtain ⟨wo, hwo⟩ : ∃ wo, wo = wr := ⟨_, rfl⟩
    rw [← hwo] at HOS
    subst hwo
    go_wp2
    go_loopg [8, 11] (B.length + 1) (fun gg v8 v11 wr => ∃ (l bs : List Nat), gg = l.length + 1 ∧ OrS w P lb cap b0 o0 c0 g B L l bs v8 wr)
    case atStart => exact ⟨List.range B.length, [], by simp, HOS.out⟩
    case round =>
      clear HOS
      obtain ⟨l, bs, hgk, hos⟩ := hrel
      have HGK : Hid (gk = l.length + 1) := hgk
      have HOS : Hid (OrS w P lb cap b0 o0 c0 g B L l bs u8 wr) := hos
      have e7 := hos.ord.left
      have hs1 := hos.sum
      have hl12 : l.length ≤ 12 := by omega
      have y3 : (l.length : Int) ≤ 12 := by omega
      clear hgk hos
      by_cases hl0 : 0 < l.length
      case neg =>
        have y4 : ¬ (0 : Int) < (l.length : Int) := by omega
        have hbs : 0 < bs.length := by omega
        obtain ⟨gb, cb, hform, hgb1, hgb2⟩ := HOS.out.own.form hbs
        subst hform
        have HRI : Hid (RowI wr gb bs) := fun j hj => ⟨by rw [World.ownsRow.cellAt HOS.out.own j (by omega)]; simp [natV, List.getD, hj], World.ownsRow.frozenAt HOS.out.own j⟩
        have hPw := HOS.out.size
        go_wp2_with (go_at_call 57; refine (reverseO gb cb bs _ HRI.out (by omega)).mono ?_; rintro e w9 ⟨rfl, hr9, hg9⟩; have HR9 : Hid (RowI w9 gb bs.reverse) := hr9; have HG9 : Hid (wr.grownBy w9 (some gb)) := hg9; clear hr9 hg9)
        go_ret
        refine ⟨⟨gb, cb, bs.reverse, by simp, by simp; omega, by omega, by have := HG9.out.size; omega, fun j hj => ⟨(HR9.out j hj).1, ?_⟩⟩, HOS.out.bel.grown HG9.out (by have := HOS.out.bel.size; omega) (fun j hj => by simp at hj; omega)⟩
        have hj2 : j < bs.length := by simpa using hj
        have := HOS.out.bl (bs.length - 1 - j) (by omega)
        rw [show bs.reverse.getD j 0 = bs.getD (bs.length - 1 - j) 0 by simp [List.getD, List.getElem?_reverse hj2]]
        exact this
      have y4 : (0 : Int) < (l.length : Int) := by omega
      obtain ⟨rao, rcap, hform⟩ := HOS.out.form
      subst hform
      obtain ⟨t0', hi0, hy0, hy1, hy2⟩ := info_parts infInt
      go_wp2_with fail
      go_at_call 55
      refine (pickO _ _ _ lb cap g b0 o0 c0 l B L n _ HOS.out.ord h12 hl12 hl0).mono ?_
      rintro e w1 ⟨i, q, hi, rfl, hw1⟩
      have hos1 := HOS.out.drewN q
      rw [← hw1] at hos1
      have HO1 : Hid (OrS w P lb cap b0 o0 c0 g B L l bs (.slice rao bs.length rcap) w1) := hos1
      have e8 := hos1.ord.left
      have e9 := (hos1.row i hi).1
      have hx := hos1.ord.lt i hi
      have hPw := hos1.size
      obtain ⟨x, hx0⟩ : ∃ x, x = l.getD i 0 := ⟨_, rfl⟩
      rw [← hx0] at e9 hx
      have y5 : (i : Int) < (l.length : Int) := by omega
      have y6 : (0 : Int) ≤ (i : Int) := by omega
      clear hos1 hw1 hx0 HOS e7
      go_wp2_with (first
        | (at_builtin; refine wpList_append_lies _ rfl _ _ 62 rfl P 3 t0' (.int .i64 0) 1 8 Try.underlying62 hi0 hy0 hy1 hy2 rfl (by decide) (.slice rao bs.length rcap) bs.length (bs.map natV) rfl (World.ownsRow.alloc HO1.out.own _) ⟨w1.heap.size, 0, none⟩ 1 1 [.int .i64 (x : Nat)] rfl rfl (one_cell _ _ _) (by simp [Value.oneCell']) (by decide) (by unfold maxLen; omega) (by omega) (by first | omega | (simp; omega)) _ rfl ?_; intro g9 cap9 w9 hown hgrow hat hlt9; have hP := HO1.out.push hl1 hl2 hgz hb0 hx hown hgrow; have e10 := hP.ord.left; have HM9 : Hid (OrM w P lb cap b0 o0 c0 g B L l (bs ++ [x]) (.slice (some ⟨g9, 0, none⟩) (bs.length + 1) cap9) w9) := hP; clear hP hown hgrow hat e8 e9)
        | (go_at_call 56; refine (deleteO lb cap i l _ HM9.out.row HO1.out.hcap hcm hi).mono ?_; rintro e w10 ⟨rfl, hr10, hg10⟩; have hD := HM9.out.del hl1 hl2 hgz hb0 HO1.out.hcap hi (by simp; omega) hr10 hg10; obtain ⟨⟨q1, q2⟩, hD⟩ := hD; have HD : Hid (OrS w P lb cap b0 o0 c0 g B L (l.eraseIdx i) (bs ++ [x]) (.slice (some ⟨g9, 0, none⟩) (bs.length + 1) cap9) (w10.setCell ⟨w.heap.size + 1 + 1, 0, none⟩ (.slice (some ⟨lb, 0, none⟩) (l.length - 1) cap))) := hD; clear hD hr10 hg10 e10))
      have hgk := HGK.out
      go_roundg (gk - 1)
      case measure => omega
      case rel => exact ⟨l.eraseIdx i, bs ++ [x], by rw [List.length_eraseIdx_of_lt hi]; omega, HD.out⟩

end Go.Proofs.Ytgeimilnddpdmab.form
