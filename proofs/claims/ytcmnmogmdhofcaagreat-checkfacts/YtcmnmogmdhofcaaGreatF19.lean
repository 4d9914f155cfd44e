/- The numbers of a program, rising (check.numbersOf). -/
import Derived.Test.YtcmnmogmdhofcaaGreatF07
import Derived.Test.YtcmnmogmdhofcaaGreatF16
import Derived.Test.YtcmnmogmdhofcaaGreatF06
import Derived.Test.YtcmnmogmdhofcaaGreatF18
import Derived.Test.YtcmnmogmdhofcaaGreatF12
import Derived.Test.YtcmnmogmdhofcaaGreatF08
import Derived.Test.YtcmnmogmdhofcaaGreatF09

namespace Go.Proofs.YtcmnmogmdhofcaaGreat.form
open Go.RowKit
set_option linter.unusedVariables false
set_option maxRecDepth 100000
attribute [local go_sem ↓] Go.wp_at_zero Go.wp_at_succ

def numsTo (C : List LIns) (k : Nat) : List Int := 0 :: ((C.take k).filter (fun i => i.op == 1)).map (·.n)
theorem numsTo_len (C : List LIns) (k : Nat) : (numsTo C k).length ≤ k + 1 := by
  unfold numsTo
  have := List.length_filter_le (fun i : LIns => i.op == 1) (C.take k)
  simp at this ⊢
  omega
theorem numsTo_step {C : List LIns} {k : Nat} (hk : k < C.length) : numsTo C (k + 1) = numsTo C k ++ (if (C.getD k .zero).op = 1 then [(C.getD k .zero).n] else []) := by
  have e : C.take (k + 1) = C.take k ++ [C.getD k .zero] := by rw [List.take_succ_eq_append_getElem hk]; simp [List.getD, hk]
  unfold numsTo
  rw [e, List.filter_append, List.map_append]
  obtain ⟨i, hi⟩ : ∃ i, i = C.getD k .zero := ⟨_, rfl⟩
  rw [← hi]
  by_cases h : i.op = 1
  · simp [List.filter, h]
  · have h2 : (i.op == 1) = false := by simpa using h
    simp [List.filter, h, h2]
theorem numsTo_mem {C : List LIns} {x : Int} : x ∈ numsTo C C.length ↔ NumP C x := by
  unfold numsTo NumP
  rw [List.take_length]
  simp only [List.mem_cons, List.mem_map, List.mem_filter, beq_iff_eq]
  refine or_congr Iff.rfl ?_
  constructor
  · rintro ⟨i, ⟨hi, h1⟩, h2⟩
    obtain ⟨k, hk, he⟩ := List.mem_iff_getElem.1 hi
    exact ⟨k, hk, by simp [List.getD, hk, he, h1], by simp [List.getD, hk, he, h2]⟩
  · rintro ⟨k, hk, h1, h2⟩
    refine ⟨C.getD k .zero, ⟨by simp [List.getD, hk], h1⟩, h2⟩

def NumsAt (w : World) (lo : Nat) (v : Value) (N : List Int) : Prop := ∃ b cap, v = .slice (some ⟨b, 0, none⟩) N.length cap ∧ lo ≤ b ∧ b < w.heap.size ∧ ∀ j, j < N.length → w.cell? ⟨b, j, none⟩ = some (.int .u32 (N.getD j 0))
structure NumsOk (C : List LIns) (N : List Int) : Prop where
  one : 1 ≤ N.length
  le : N.length ≤ C.length + 1
  inc : N.Pairwise (· < ·)
  num : NumsOf C N
def NumsAns (C : List LIns) (w : World) (e : Ending) (w' : World) : Prop := ∃ v N, e = .returned v ∧ NumsAt w' w.heap.size v N ∧ NumsOk C N ∧ Below w.heap.size w w'

theorem nums_ok {C : List LIns} {E : List Int} {d d' : Array Int} (hd : d.toList = numsTo C C.length) (hp : Go.Sort.PermIn 0 d.size d d') (h1 : 1 ≤ E.length) (hle : E.length ≤ d'.size) (hinc : E.Pairwise (· < ·)) (hm : ∀ x, x ∈ E ↔ ∃ j, j < d'.size ∧ d'[j]! = x) : NumsOk C E := by
  have hs : d'.size = d.size := hp.1
  have hperm : d'.toList.Perm d.toList := by
    have h := hp.2.2
    have e1 : d.extract 0 d.size = d := by simp
    have e2 : d'.extract 0 d.size = d' := by rw [← hs]; simp
    rw [e1, e2] at h
    exact h
  have hdl : d.size = (numsTo C C.length).length := by rw [← hd]; simp
  refine ⟨h1, by have := numsTo_len C C.length; omega, hinc, fun x => ?_⟩
  have hx : x ∈ E ↔ NumP C x := by
    rw [hm, ← numsTo_mem, ← hd, ← hperm.mem_iff]
    constructor
    · rintro ⟨j, hj, rfl⟩
      rw [getElem!_pos d' j hj]
      simp
    · intro h
      obtain ⟨j, hj, he⟩ := List.mem_iff_getElem.1 h
      refine ⟨j, by simpa using hj, ?_⟩
      rw [getElem!_pos d' j (by simpa using hj), ← he]
      simp
  rw [← hx]
  constructor
  · rintro ⟨k, hk, rfl⟩
    unfold nAt
    simp [List.getD, hk]
  · intro h
    obtain ⟨k, hk, he⟩ := List.mem_iff_getElem.1 h
    exact ⟨k, hk, by unfold nAt; simp [List.getD, hk, he]⟩
theorem own_holds {w : World} {base g cap : Nat} {l : List Int} (h : w.ownsRow base 47 1 (.slice (some ⟨g, 0, none⟩) l.length cap) l.length (l.map (Value.int .u32))) : Go.Sort.Holds sortu.encU w g 0 l.toArray := by
  intro j hj
  have hj' : j < l.length := by simpa using hj
  refine ⟨?_, ?_⟩
  · rw [Nat.zero_add, own_cell h hj']
    simp [hj']
  · rw [Nat.zero_add]; exact own_frozen h j

theorem own_cap {w : World} {base g cap n size : Nat} {e : TypeId} {xs : List Value} (h : w.ownsRow base e size (.slice (some ⟨g, 0, none⟩) n cap) n xs) : n ≤ cap := by
  rcases h.2 with ⟨hn, _⟩ | ⟨g', cap', cur, hv, _, _, h1, _⟩
  · cases hn
  · injection hv with _ _ h3
    omega

set_option maxHeartbeats 1600000 in
theorem numbersOfO (b0 o0 c0 b1 o1 c1 : Nat) (B : List Bool) (C : List LIns) (w : World) (hC : C.length ≤ 40) (h : Held w b0 o0 b1 o1 B C) :
    Calls Tryz.prog 26 #[progV b0 o0 B.length c0 b1 o1 C.length c1] w fun e w' => NumsAns C w e w' := by
  have y2 : (C.length : Int) ≤ 40 := by omega
  have HH : Hid (Held w b0 o0 b1 o1 B C) := h
  have hlt1 := h.lt1
  clear h
  unfold progV
  go_enter Tryz.func26, Tryz.ntmps26
  go_wp2
  go_loopg [3, 5, 10] (C.length + 1) (fun gg v3 v5 v wr => ∃ (k : Nat), v = .int .i64 k ∧ k ≤ C.length ∧ gg = C.length + 1 - k ∧ NuS w b1 o1 c1 C.length (numsTo C k) v3 wr)
  case atStart =>
    refine ⟨0, rfl, by omega, by omega, ((Below.refl _ _).alloc (Nat.le_refl _) _).alloc (by simp) _, by simp [go_sem], ?_⟩
    refine ⟨rfl, .inr ⟨w.heap.size + 1, 1, #[.int .u32 0], rfl, by omega, ?_, by simp [numsTo], by unfold maxLen; omega, rfl, rfl⟩⟩
    have := heap_alloc_new (w.alloc (.cells #[.slice (some ⟨b0, o0, none⟩) B.length c0, .slice (some ⟨b1, o1, none⟩) C.length c1] 25)) (.cells #[.int .u32 0] 47)
    simpa using this
  case round =>
    obtain ⟨k, rfl, hk, hgk, hnu⟩ := hrel
    have HGK : Hid (gk = C.length + 1 - k) := hgk
    obtain ⟨l, hl⟩ : ∃ l, l = numsTo C k := ⟨_, rfl⟩
    have HL : Hid (l = numsTo C k) := hl
    have hll : l.length ≤ 41 := by rw [hl]; have := numsTo_len C k; omega
    have hl1 : 1 ≤ l.length := by rw [hl]; simp [numsTo]
    rw [← hl] at hnu
    have HNU : Hid (NuS w b1 o1 c1 C.length l u3 wr) := hnu
    obtain ⟨g, cap, hv, hg1, hg2, hgc⟩ := hnu.form (by omega)
    have hwz := hnu.bel.size
    subst hv
    clear hgk hnu hl hgc
    by_cases hkl : k < C.length
    case neg =>
      obtain rfl : k = C.length := by omega
      have hkz : ¬ (C.length : Int) < (C.length : Int) := by omega
      have hH := own_holds HNU.out.own
      have hsz : l.toArray.size = l.length := by simp
      have hcap : l.length ≤ cap := own_cap HNU.out.own
      have cS := sortu.sortU g 0 cap l.toArray wr hH hg2 (by rw [hsz]; omega)
      rw [hsz] at cS
      have hd0 : l.toArray.toList = numsTo C C.length := by simpa using HL.out
      have HD0 : Hid (l.toArray.toList = numsTo C C.length) := hd0
      have HBR : Hid (Below w.heap.size w wr) := HNU.out.bel
      clear hH hsz HNU HGK hd0
      go_upto_region 9 with (go_at_call 44; refine cS.mono ?_; rintro e w1 ⟨rfl, d', h1, h2, h3⟩; have H1 : Hid (sortu.Row wr g 0 d' w1) := h1; have H2 : Hid (Go.Sort.PermIn 0 l.length l.toArray d') := h2; have H3 : Hid (Go.Sort.SortedIn Go.Sort.ltInt 0 l.length d') := h3; clear h1 h2 h3)
      have hsd : d'.size = l.length := by have := H2.out.1; simpa using this
      have hso := H3.out
      have c := sortu.compactU g 0 cap d' w1 H1.out.holds (by omega) (by omega) (by omega) (by rw [hsd]; exact hso)
      rw [hsd] at c
      have HSD : Hid (d'.size = l.length) := hsd
      clear cS hso hsd
      go_wp2_with (go_at_call 45; refine c.mono ?_; rintro e w2 ⟨E, rfl, hon⟩; have HON : Hid (sortu.Once w1 g 0 cap d' E w2) := hon; clear hon)
      go_ret
      have hon := HON.out
      have hb1 : Below w.heap.size w w1 := HBR.out.grown H1.out.grown (by omega) (fun j hj => by cases hj; omega)
      have hs1 := hb1.size
      have hb2 : Below w.heap.size w w2 := hb1.grown hon.grown (by omega) (fun j hj => by cases hj; omega)
      have hlt2 : g < w2.heap.size := by have := H1.out.grown.size; have := hon.grown.size; omega
      refine ⟨_, E, rfl, ⟨g, cap, rfl, by omega, hlt2, fun j hj => by have := hon.cells j hj; rwa [Nat.zero_add] at this⟩, nums_ok HD0.out (by have := H2.out; simpa using this) hon.one hon.le hon.inc hon.mem, hb2⟩
    have hkz : (k : Int) < (C.length : Int) := by omega
    obtain ⟨d0, d1, d2, d3, d4, d5⟩ := (HH.out.later HNU.out.bel).code k hkl
    obtain ⟨i, hi⟩ : ∃ i, i = C.getD k .zero := ⟨_, rfl⟩
    rw [← hi] at d0 d1 d2 d3 d4 d5
    have HI : Hid (i = C.getD k .zero) := hi
    clear hi
    have hlt1r : b1 < wr.heap.size := by omega
    by_cases hop : i.op = 1
    · have hop1 : (i.op == 1) = true := by simp [hop]
      have HOP : Hid (i.op = 1) := hop
      clear hop
      obtain ⟨t0', hi0, hy0, hy1, hy2⟩ := info_parts infoU32
      go_wp2_with (at_builtin; refine wpList_append_lies _ rfl _ _ 64 rfl (w.heap.size + 1) 47 t0' (.int .u32 0) 1 4 Tryz.underlying64 hi0 hy0 hy1 hy2 rfl (by decide) (.slice (some ⟨g, 0, none⟩) l.length cap) l.length (l.map (Value.int .u32)) rfl (World.ownsRow.alloc (World.ownsRow.alloc HNU.out.own _) _) ⟨wr.heap.size + 1, 0, none⟩ 1 1 [.int .u32 i.n] rfl rfl ?c1 ?c2 (by decide) ?c3 ?c4 ?c5 _ rfl ?_)
      case c1 =>
        intro j u hu
        rcases j with _ | j
        · simp at hu; subst hu; simp [go_sem, Addr.add]
        · simp at hu
      case c2 => simp [Value.oneCell']
      case c3 => unfold maxLen; omega
      case c4 => omega
      case c5 => first | omega | (simp; omega)
      intro g9 cap9 w9 hown hgrow hat hlt9
      have hP := (HNU.out.below (((Below.refl _ _).alloc (Nat.le_refl _) (.cells #[.int .i64 i.op, .int .i64 i.dest, .int .i64 i.a, .int .i64 i.b, .int .i64 i.c, .int .u32 i.n] 49)).alloc (by simp) (.cells #[.int .u32 i.n] 47))).push (by simp; omega) hown hgrow
      have HP : Hid (NuS w b1 o1 c1 C.length (l ++ [i.n]) (.slice (some ⟨g9, 0, none⟩) (l.length + 1) cap9) w9) := hP
      clear hP hown hgrow hat
      go_wp2
      have hgk := HGK.out
      go_roundg (gk - 1)
      case measure => omega
      case rel =>
        refine ⟨k + 1, by go_num, by omega, by omega, ?_⟩
        rw [numsTo_step hkl, ← HI.out, if_pos HOP.out, ← HL.out]
        exact HP.out
    · have hop1 : (i.op == 1) = false := by simp [hop]
      have HOP : Hid (¬ i.op = 1) := hop
      clear hop
      have HP : Hid (NuS w b1 o1 c1 C.length l (.slice (some ⟨g, 0, none⟩) l.length cap) (wr.alloc (.cells #[.int .i64 i.op, .int .i64 i.dest, .int .i64 i.a, .int .i64 i.b, .int .i64 i.c, .int .u32 i.n] 49))) := HNU.out.below ((Below.refl _ _).alloc (Nat.le_refl _) _)
      go_wp2
      have hgk := HGK.out
      go_roundg (gk - 1)
      case measure => omega
      case rel =>
        refine ⟨k + 1, by go_num, by omega, by omega, ?_⟩
        rw [numsTo_step hkl, ← HI.out, if_neg HOP.out, List.append_nil, ← HL.out]
        exact HP.out
end Go.Proofs.YtcmnmogmdhofcaaGreat.form

/- A program in its places, with all that there may be facts of (check.newWorld). -/
namespace Go.Proofs.YtcmnmogmdhofcaaGreat.form
open Go.RowKit Go.Maps
set_option linter.unusedVariables false
set_option maxRecDepth 100000
attribute [local go_sem ↓] Go.wp_at_zero Go.wp_at_succ

def WorldAns (B : List Bool) (C : List LIns) (s slots : Nat) (R : List LRow) (w : World) (e : Ending) (w' : World) : Prop := ∃ g N, e = .returned (.pointer (some ⟨g.q, 0, none⟩)) ∧ Stat w' g B C R (preP s slots 4) N ∧ NumsOk C N ∧ Below w.heap.size w w'

set_option maxHeartbeats 1600000 in
theorem newWorldO (b0 o0 c0 b1 o1 c1 b2 o2 c2 s slots : Nat) (B : List Bool) (C : List LIns) (R : List LRow) (w : World) (hC : C.length ≤ 40) (h : Held w b0 o0 b1 o1 B C) (hR : RowsHeld w b2 o2 R) (hs4 : 4 ≤ s) (hs16 : s ≤ 16) (hs2 : s % 2 = 0) (hl : slots ≤ 12) :
    Calls Tryz.prog 9 #[progV b0 o0 B.length c0 b1 o1 C.length c1, targetV s, .agg #[.int .i64 slots, .slice (some ⟨b2, o2, none⟩) R.length c2]] w fun e w' => WorldAns B C s slots R w e w' := by
  have cA := fun w => allO s slots hs4 hs16 hs2 hl w
  have HH : Hid (Held w b0 o0 b1 o1 B C) := h
  have HR : Hid (RowsHeld w b2 o2 R) := hR
  clear h hR
  unfold targetV at cA ⊢
  unfold progV
  go_enter Tryz.func9, Tryz.ntmps9
  go_upto_region 1 with fail
  obtain ⟨wx, hwx⟩ : ∃ wx, wx = ((w.alloc (.cells #[.slice (some ⟨b0, o0, none⟩) B.length c0, .slice (some ⟨b1, o1, none⟩) C.length c1] 25)).alloc (.cells #[.int .i64 (s : Int)] 27)).alloc (.cells #[.int .i64 (slots : Int), .slice (some ⟨b2, o2, none⟩) R.length c2] 30) := ⟨_, rfl⟩
  have hbx : Below w.heap.size w wx := by rw [hwx]; exact (((Below.refl _ _).alloc (Nat.le_refl _) _).alloc (by simp) _).alloc (by simp; omega) _
  have x0 : wx.cell? ⟨w.heap.size, 0, none⟩ = some (.slice (some ⟨b0, o0, none⟩) B.length c0) := by rw [hwx]; simp [go_sem]
  have x1 : wx.cell? ⟨w.heap.size, 1, none⟩ = some (.slice (some ⟨b1, o1, none⟩) C.length c1) := by rw [hwx]; simp [go_sem]
  have x2 : wx.cell? ⟨w.heap.size + 1, 0, none⟩ = some (.int .i64 (s : Int)) := by rw [hwx]; simp [go_sem]
  have x3 : wx.cell? ⟨w.heap.size + 1 + 1, 0, none⟩ = some (.int .i64 (slots : Int)) := by rw [hwx]; simp [go_sem]
  have x4 : wx.cell? ⟨w.heap.size + 1 + 1, 1, none⟩ = some (.slice (some ⟨b2, o2, none⟩) R.length c2) := by rw [hwx]; simp [go_sem]
  rw [← hwx]
  clear hwx
  have HHX : Hid (Held wx b0 o0 b1 o1 B C) := HH.out.later hbx
  have HRX : Hid (RowsHeld wx b2 o2 R) := HR.out.later hbx
  have HBX : Hid (Below w.heap.size w wx) := hbx
  clear hbx
  refine wp_region_held_drew (S := (fun w' => Below wx.heap.size wx w')) (by rfl) ?_ (fun hHeld => ?_)
  · (exact (Below.refl _ _).drew)
  refine wpAnyH_take (i := 0) (v := ?_) rfl (by kernel_rfl) (by kernel_rfl) (by kernel_rfl) (fun _ _ _ h => h) (Or.inl ⟨by rfl, ?_⟩) (by assumption) ?_
  case refine_2 => (intro w5 hSw; (try dsimp only at hSw); have sx0 := step_cell hSw x0; have sx1 := step_cell hSw x1; go_simp; first | done | (with_reducible rfl))
  show wpAnyH _ _ _ _ _ _ _ (Act.put _ (some 7) _) _
  simp only [Act.put, List.setIfInBounds_toArray, List.set_cons_zero, List.set_cons_succ]
  refine wpAnyH_take (i := 1) (v := ?_) rfl (by kernel_rfl) (by kernel_rfl) (by kernel_rfl) (fun _ _ _ h => h) (Or.inl ⟨by rfl, ?_⟩) (by assumption) ?_
  case refine_2 => (intro w hSw; (try dsimp only at hSw); go_simp; first | done | (with_reducible rfl))
  show wpAnyH _ _ _ _ _ _ _ (Act.put _ (some 8) _) _
  simp only [Act.put, List.setIfInBounds_toArray, List.set_cons_zero, List.set_cons_succ]
  refine wpAnyH_take (i := 2) (v := ?_) rfl (by kernel_rfl) (by kernel_rfl) (by kernel_rfl) (fun _ _ _ h => h) (Or.inl ⟨by rfl, ?_⟩) (by assumption) ?_
  case refine_2 => (intro w5 hSw; (try dsimp only at hSw); have sx4 := step_cell hSw x4; go_simp; first | done | (with_reducible rfl))
  show wpAnyH _ _ _ _ _ _ _ (Act.put _ (some 9) _) _
  simp only [Act.put, List.setIfInBounds_toArray, List.set_cons_zero, List.set_cons_succ]
  refine wpAnyH_take (i := 3) (v := ?_) rfl (by kernel_rfl) (by kernel_rfl) (by kernel_rfl) (fun _ _ _ h => h) (Or.inl ⟨by rfl, ?_⟩) (by assumption) ?_
  case refine_2 => (intro w5 hSw; (try dsimp only at hSw); have sx2 := step_cell hSw x2; go_simp; first | done | (with_reducible rfl))
  show wpAnyH _ _ _ _ _ _ _ (Act.put _ (some 10) _) _
  simp only [Act.put, List.setIfInBounds_toArray, List.set_cons_zero, List.set_cons_succ]
  refine wpAnyH_take (i := 4) (v := ?_) rfl (by kernel_rfl) (by kernel_rfl) (by kernel_rfl) (fun _ _ _ h => h) (Or.inl ⟨by rfl, ?_⟩) (by assumption) ?_
  case refine_2 => (intro w hSw; (try dsimp only at hSw); go_simp; first | done | (with_reducible rfl))
  show wpAnyH _ _ _ _ _ _ _ (Act.put _ (some 11) _) _
  simp only [Act.put, List.setIfInBounds_toArray, List.set_cons_zero, List.set_cons_succ]
  refine wpAnyH_take (i := 5) (v := ?_) rfl (by kernel_rfl) (by kernel_rfl) (by kernel_rfl) (fun _ _ _ h => h) (Or.inl ⟨by rfl, ?_⟩) (by assumption) ?_
  case refine_2 => (intro w5 hSw; (try dsimp only at hSw); have sx3 := step_cell hSw x3; go_simp; first | done | (with_reducible rfl))
  show wpAnyH _ _ _ _ _ _ _ (Act.put _ (some 12) _) _
  simp only [Act.put, List.setIfInBounds_toArray, List.set_cons_zero, List.set_cons_succ]
  refine wpAnyH_take (i := 7) (v := ?_) rfl (by kernel_rfl) (by kernel_rfl) (by kernel_rfl) (fun _ _ _ h => h) (Or.inl ⟨by rfl, ?_⟩) (by assumption) ?_
  case refine_2 => (intro w5 hSw; (try dsimp only at hSw); have sx0 := step_cell hSw x0; have sx1 := step_cell hSw x1; go_simp; first | done | (with_reducible rfl))
  show wpAnyH _ _ _ _ _ _ _ (Act.put _ (some 14) _) _
  simp only [Act.put, List.setIfInBounds_toArray, List.set_cons_zero, List.set_cons_succ]
  refine wpAnyH_ready (rs := [6]) (by kernel_rfl) (by simp) ?_
  refine (AllReadyH.cons rfl (fun K hK => ?_) AllReadyH.nil)
  go_simp
  go_at_call 25
  refine (cA _).mono ?_
  rintro e w1 ⟨⟨v1, rfl, hpl⟩, hb1⟩
  obtain ⟨ba, ca, rfl, hba, hbl, hpc⟩ := hpl
  have HPC : Hid (∀ j, j < (preP s slots 4).length → w1.cell? ⟨ba, j * 2, none⟩ = some (.int .i64 ((preP s slots 4).getD j .zero).kind) ∧ w1.cell? ⟨ba, j * 2 + 1, none⟩ = some (.int .i64 ((preP s slots 4).getD j .zero).n)) := hpc
  have HB1 : Hid (Below wx.heap.size wx w1) := step_below hb1 (Below.refl _ _).drew
  clear hpc hb1
  go_wp2_with fail
  refine hK.out _ _ ?_ (fun hHeld => ?_)
  · (exact HB1.out)
  clear hK K
  try simp only [Act.put, List.setIfInBounds_toArray, List.set_cons_zero, List.set_cons_succ]
  refine wpAnyH_ready (rs := [8]) (by kernel_rfl) (by simp) ?_
  refine (AllReadyH.cons rfl (fun K hK => ?_) AllReadyH.nil)
  have cN := numbersOfO b0 o0 c0 b1 o1 c1 B C w1 hC (HHX.out.later HB1.out)
  unfold progV at cN
  go_simp
  go_at_call 26
  refine cN.mono ?_
  rintro e w2 ⟨v2, N, rfl, hna, hno, hb2⟩
  obtain ⟨bn', cn, rfl, hbn, hbnl, hnc⟩ := hna
  have HNC : Hid (∀ j, j < N.length → w2.cell? ⟨bn', j, none⟩ = some (.int .u32 (N.getD j 0))) := hnc
  have HNO : Hid (NumsOk C N) := hno
  have HB2 : Hid (Below w1.heap.size w1 w2) := hb2
  clear hnc hno hb2 cN
  go_wp2_with fail
  refine hK.out _ _ ?_ (fun hHeld => ?_)
  · (exact step_below HB2.out HB1.out)
  clear hK K
  try simp only [Act.put, List.setIfInBounds_toArray, List.set_cons_zero, List.set_cons_succ]
  refine wpAnyH_take (i := 9) (v := ?_) rfl (by kernel_rfl) (by kernel_rfl) (by kernel_rfl) (fun _ _ _ h => h) (Or.inl ⟨by rfl, ?_⟩) (by assumption) ?_
  case refine_2 => (intro w hSw; (try dsimp only at hSw); go_simp; first | done | (with_reducible rfl))
  show wpAnyH _ _ _ _ _ _ _ (Act.put _ (some 16) _) _
  simp only [Act.put, List.setIfInBounds_toArray, List.set_cons_zero, List.set_cons_succ]
  refine wpAnyH_ready (rs := [10]) (by kernel_rfl) (by simp) ?_
  refine (AllReadyH.cons rfl (fun K hK => ?_) AllReadyH.nil)
  go_simp
  refine hK.out _ _ ?_ (fun hHeld => ?_)
  · (exact step_below ((Below.refl _ _).alloc (Nat.le_refl _) _) hHeld)
  clear hK K
  try simp only [Act.put, List.setIfInBounds_toArray, List.set_cons_zero, List.set_cons_succ]
  refine wpAnyH_take (i := 11) (v := ?_) rfl (by kernel_rfl) (by kernel_rfl) (by kernel_rfl) (fun _ _ _ h => h) (Or.inl ⟨by rfl, ?_⟩) (by assumption) ?_
  case refine_2 => (intro w hSw; (try dsimp only at hSw); go_simp; first | done | (with_reducible rfl))
  show wpAnyH _ _ _ _ _ _ _ (Act.put _ (some 6) _) _
  simp only [Act.put, List.setIfInBounds_toArray, List.set_cons_zero, List.set_cons_succ]
  refine wpAnyH_done (by kernel_rfl) ?_ _
  clear hHeld
  go_wp2
  go_ret
  have hba2 : Below w2.heap.size w2 (w2.alloc (.cells #[.slice (some ⟨b0, o0, none⟩) B.length c0, .slice (some ⟨b1, o1, none⟩) C.length c1, .slice (some ⟨b2, o2, none⟩) R.length c2, .slice (some ⟨ba, 0, none⟩) (preP s slots 4).length ca, .slice (some ⟨bn', 0, none⟩) N.length cn] 78)) := (Below.refl _ _).alloc (Nat.le_refl _) _
  have hbd := hba2
  refine ⟨⟨w2.heap.size, b0, o0, c0, b1, o1, c1, b2, o2, c2, ba, ca, bn', cn⟩, N, rfl, ?_, HNO.out, step_below hbd (step_below HB2.out (step_below HB1.out HBX.out))⟩
  exact ⟨by simp [go_sem], by simp [go_sem], by simp [go_sem], by simp [go_sem], by simp [go_sem], HHX.out.later (step_below hbd (step_below HB2.out HB1.out)), HRX.out.later (step_below hbd (step_below HB2.out HB1.out)), fun j hj => ⟨step_cell hbd (step_cell HB2.out (HPC.out j hj).1), step_cell hbd (step_cell HB2.out (HPC.out j hj).2)⟩, fun j hj => step_cell hbd (HNC.out j hj)⟩
end Go.Proofs.YtcmnmogmdhofcaaGreat.form

/- All facts in order: those of a place stand together; where they begin. On plain numbers. -/
namespace Go.Proofs.YtcmnmogmdhofcaaGreat.form
open Go.RowKit Go.Proofs.YtcmnmogmdhofcaaGreat.num
set_option linter.unusedVariables false

theorem seg_split {F pre seg post : List LFact} {p : LPlace} (hF : F = pre ++ (seg ++ post)) (h1 : ∀ f, f ∈ pre → ¬ f.pl = p) (h2 : ∀ f, f ∈ seg → f.pl = p) (h3 : ∀ f, f ∈ post → ¬ f.pl = p) : SegOk F p pre.length := by
  have hl : F.length = pre.length + (seg.length + post.length) := by rw [hF]; simp
  have hg : ∀ i, i < F.length → F.getD i .zero = if i < pre.length then pre.getD i .zero else if i < pre.length + seg.length then seg.getD (i - pre.length) .zero else post.getD (i - pre.length - seg.length) .zero := fun i hi => by
    rw [hF]
    by_cases a : i < pre.length
    · rw [if_pos a]; simp [List.getD, List.getElem?_append_left a]
    · rw [if_neg a]
      by_cases b : i < pre.length + seg.length
      · rw [if_pos b]
        rw [List.getD, List.getElem?_append_right (by omega), List.getElem?_append_left (by omega)]
        rfl
      · rw [if_neg b]
        rw [List.getD, List.getElem?_append_right (by omega), List.getElem?_append_right (by omega)]
        rfl
  have hmem : ∀ (l : List LFact) (i : Nat), i < l.length → l.getD i .zero ∈ l := fun l i hi => by simp [List.getD, hi]
  refine ⟨by omega, fun i hi hp => ?_, fun i j hj hji hi hp => ?_⟩
  · by_cases a : i < pre.length
    · rw [hg i hi, if_pos a] at hp
      exact absurd hp (h1 _ (hmem _ _ a))
    · omega
  · by_cases b : i < pre.length + seg.length
    · rw [hg j (by omega), if_neg (by omega), if_pos (by omega)]
      exact h2 _ (hmem _ _ (by omega))
    · rw [hg i hi, if_neg (by omega), if_neg b] at hp
      exact absurd hp (h3 _ (hmem _ _ (by omega)))

theorem range_split {n many : Nat} (h : n < many) : List.range many = List.range n ++ n :: (List.range (many - n - 1)).map (· + (n + 1)) := by
  have e : many = n + (1 + (many - n - 1)) := by omega
  rw [e, List.range_add, List.range_add]
  simp only [List.range_one, List.map_cons, Nat.add_zero, List.map_map, List.singleton_append]
  congr 2
  have e2 : n + (1 + (many - n - 1)) - n - 1 = many - n - 1 := by omega
  rw [e2]
  apply List.map_congr_left
  intro a _
  simp only [Function.comp]
  omega

theorem kind_split {B : List Bool} {N : List Int} {kind : Int} {n many : Nat} (h : n < many) : ∃ post, kindF B N kind many = kindF B N kind n ++ (placeF B N kind n ++ post) ∧ ∀ f, f ∈ post → f.pl.kind = kind ∧ ¬ f.pl.n = n := by
  refine ⟨((List.range (many - n - 1)).map (· + (n + 1))).flatMap (placeF B N kind), ?_, fun f hf => ?_⟩
  · unfold kindF
    rw [range_split h, List.flatMap_append, List.flatMap_cons]
  · obtain ⟨m, hm, hf⟩ := List.mem_flatMap.1 hf
    obtain ⟨q, _, rfl⟩ := List.mem_map.1 hm
    have := (mem_placeF.1 hf).1
    rw [this]
    exact ⟨rfl, by simp only; omega⟩
theorem kind_pl {B : List Bool} {N : List Int} {kind : Int} {many : Nat} {f : LFact} (h : f ∈ kindF B N kind many) : f.pl.kind = kind ∧ ∃ n : Nat, n < many ∧ f.pl.n = n := by
  obtain ⟨n, hn, hf⟩ := mem_kindF.1 h
  have := (mem_placeF.1 hf).1
  rw [this]
  exact ⟨rfl, n, hn, rfl⟩
theorem temp_pl {B : List Bool} {N : List Int} {f : LFact} (h : f ∈ (List.range B.length).flatMap (tempF B N)) : f.pl.kind = 0 := by
  obtain ⟨x, _, hf⟩ := List.mem_flatMap.1 h
  rw [(mem_tempF.1 hf).2.1]; rfl

def startF (B : List Bool) (N : List Int) (s : Nat) (p : LPlace) : Nat :=
  if p.kind = 0 then 0
  else if p.kind = 1 then ((List.range B.length).flatMap (tempF B N) ++ kindF B N 1 p.n.toNat).length
  else if p.kind = 2 then ((List.range B.length).flatMap (tempF B N) ++ kindF B N 1 s ++ kindF B N 2 p.n.toNat).length
  else ((List.range B.length).flatMap (tempF B N) ++ kindF B N 1 s ++ kindF B N 2 (s / 2) ++ kindF B N 3 p.n.toNat).length

theorem seg_all {B : List Bool} {N : List Int} {s slots : Nat} {p : LPlace} (hs : s % 2 = 0) (hp : PlaceOf s slots p) : SegOk (allF B N s slots) p (startF B N s p) := by
  unfold startF
  rcases hp with hp | hp
  · rw [if_pos hp.1]
    have := seg_split (F := allF B N s slots) (pre := []) (seg := (List.range B.length).flatMap (tempF B N)) (post := kindF B N 1 s ++ kindF B N 2 (s / 2) ++ kindF B N 3 slots) (p := p) (by unfold allF; simp [List.append_assoc]) (fun f hf => absurd hf (by simp)) (fun f hf => ?_) (fun f hf => ?_)
    · exact this
    · obtain ⟨x, _, hf⟩ := List.mem_flatMap.1 hf
      rw [(mem_tempF.1 hf).2.1]
      exact (pl_ext hp.1 hp.2).symm
    · intro e
      simp only [List.mem_append] at hf
      rcases hf with (hf | hf) | hf <;> have := (kind_pl hf).1 <;> rw [e] at this <;> omega
  · have hk := is_kind hp
    rw [if_neg hk]
    rcases is_cases hp with ⟨e, a, b⟩ | ⟨e, a, b⟩ | ⟨e, a, b⟩
    · rw [if_pos e]
      obtain ⟨post, h1, h2⟩ := kind_split (B := B) (N := N) (kind := 1) (n := p.n.toNat) (many := s) (by omega)
      refine seg_split (seg := placeF B N 1 p.n.toNat) (post := post ++ kindF B N 2 (s / 2) ++ kindF B N 3 slots) (by unfold allF; rw [h1]; simp [List.append_assoc]) (fun f hf => ?_) (fun f hf => ?_) (fun f hf => ?_)
      · intro e2
        rcases List.mem_append.1 hf with hf | hf
        · have := temp_pl hf; rw [e2] at this; omega
        · obtain ⟨_, n, hn, h3⟩ := kind_pl hf; rw [e2] at h3; omega
      · rw [(mem_placeF.1 hf).1]
        exact (pl_ext e (by simp only; omega)).symm
      · intro e2
        simp only [List.mem_append] at hf
        rcases hf with (hf | hf) | hf
        · have := (h2 f hf).2; rw [e2] at this; omega
        · have := (kind_pl hf).1; rw [e2] at this; omega
        · have := (kind_pl hf).1; rw [e2] at this; omega
    · rw [if_neg (by omega), if_pos e]
      obtain ⟨post, h1, h2⟩ := kind_split (B := B) (N := N) (kind := 2) (n := p.n.toNat) (many := s / 2) (by omega)
      refine seg_split (seg := placeF B N 2 p.n.toNat) (post := post ++ kindF B N 3 slots) (by unfold allF; rw [h1]; simp [List.append_assoc]) (fun f hf => ?_) (fun f hf => ?_) (fun f hf => ?_)
      · intro e2
        simp only [List.mem_append] at hf
        rcases hf with (hf | hf) | hf
        · have := temp_pl hf; rw [e2] at this; omega
        · have := (kind_pl hf).1; rw [e2] at this; omega
        · obtain ⟨_, n, hn, h3⟩ := kind_pl hf; rw [e2] at h3; omega
      · rw [(mem_placeF.1 hf).1]
        exact (pl_ext e (by simp only; omega)).symm
      · intro e2
        simp only [List.mem_append] at hf
        rcases hf with hf | hf
        · have := (h2 f hf).2; rw [e2] at this; omega
        · have := (kind_pl hf).1; rw [e2] at this; omega
    · rw [if_neg (by omega), if_neg (by omega)]
      obtain ⟨post, h1, h2⟩ := kind_split (B := B) (N := N) (kind := 3) (n := p.n.toNat) (many := slots) (by omega)
      refine seg_split (seg := placeF B N 3 p.n.toNat) (post := post) (by unfold allF; rw [h1]; simp [List.append_assoc]) (fun f hf => ?_) (fun f hf => ?_) (fun f hf => ?_)
      · intro e2
        simp only [List.mem_append] at hf
        rcases hf with ((hf | hf) | hf) | hf
        · have := temp_pl hf; rw [e2] at this; omega
        · have := (kind_pl hf).1; rw [e2] at this; omega
        · have := (kind_pl hf).1; rw [e2] at this; omega
        · obtain ⟨_, n, hn, h3⟩ := kind_pl hf; rw [e2] at h3; omega
      · rw [(mem_placeF.1 hf).1]
        exact (pl_ext e (by simp only; omega)).symm
      · intro e2
        have := (h2 f hf).2; rw [e2] at this; omega

end Go.Proofs.YtcmnmogmdhofcaaGreat.form

/- Facts in memory, five cells each; what loanbookref8.Of must give. -/
namespace Go.Proofs.YtcmnmogmdhofcaaGreat.form
open Go.RowKit Go.Proofs.YtcmnmogmdhofcaaGreat.num
set_option linter.unusedVariables false

def factCs (f : LFact) : List Value := [.int .i64 f.pl.kind, .int .i64 f.pl.n, .bool f.temp, .int .i64 f.t, .int .u32 f.n]
theorem flat5 : ∀ {l : List LFact} {q j : Nat}, q < l.length → j < 5 → (l.flatMap factCs)[q * 5 + j]? = (factCs (l.getD q .zero))[j]?
  | f :: l, 0, j, _, hj => by
    rw [List.flatMap_cons, Nat.zero_mul, Nat.zero_add, List.getElem?_append_left (by simp [factCs]; exact hj)]
    rfl
  | f :: l, q + 1, j, hq, hj => by
    rw [List.flatMap_cons, List.getElem?_append_right (by simp [factCs]; omega)]
    have e : (q + 1) * 5 + j - (factCs f).length = q * 5 + j := by simp [factCs]; omega
    rw [e, flat5 (by simpa using hq) hj]
    rfl
def FCells (w : World) (b : Nat) (l : List LFact) : Prop := ∀ q, q < l.length → w.cell? ⟨b, q * 5, none⟩ = some (.int .i64 (l.getD q .zero).pl.kind) ∧ w.cell? ⟨b, q * 5 + 1, none⟩ = some (.int .i64 (l.getD q .zero).pl.n) ∧ w.cell? ⟨b, q * 5 + 2, none⟩ = some (.bool (l.getD q .zero).temp) ∧ w.cell? ⟨b, q * 5 + 3, none⟩ = some (.int .i64 (l.getD q .zero).t) ∧ w.cell? ⟨b, q * 5 + 4, none⟩ = some (.int .u32 (l.getD q .zero).n)

theorem own_fcells {w : World} {base g cap : Nat} {e : TypeId} {l : List LFact} (h : w.ownsRow base e 5 (.slice (some ⟨g, 0, none⟩) l.length cap) l.length (l.flatMap factCs)) : FCells w g l := by
  intro q hq
  have key : ∀ j, j < 5 → w.cell? ⟨g, q * 5 + j, none⟩ = (factCs (l.getD q .zero))[j]? := fun j hj => by
    rw [World.ownsRow.cellAt h _ (by omega), flat5 hq hj]
  exact ⟨key 0 (by omega), key 1 (by omega), key 2 (by omega), key 3 (by omega), key 4 (by omega)⟩

theorem infFact8 : (Tryz.prog.info? 62).map (fun i => (i.zero, i.size, i.bytes)) = some (some (.agg #[.int .i64 0, .int .i64 0, .bool false, .int .i64 0, .int .u32 0]), 5, 40) := by kernel_rfl
theorem infFactRow8 : (Tryz.prog.info? 43).map (fun i => (i.zero, i.size, i.bytes)) = some (some (.slice none 0 0), 1, 24) := by kernel_rfl

def OfAns8 (b0 o0 c0 b1 o1 c1 : Nat) (B : List Bool) (C : List LIns) (s slots : Nat) (e : Ending) (w : World) : Prop :=
  ∃ ga ca gs cs ao4 n4 c4 st, e = .returned (fwV (.slice (some ⟨b0, o0, none⟩) B.length c0) (.slice (some ⟨b1, o1, none⟩) C.length c1) ga (allF B (numsL C) s slots).length ca gs cs (.slice ao4 n4 c4)) ∧ FWorld w s slots (allF B (numsL C) s slots) ga gs st
def OfSpec (w : World) (b0 o0 c0 b1 o1 c1 : Nat) (B : List Bool) (C : List LIns) (s slots : Nat) : Prop :=
  ∀ wx : World, Below w.heap.size w wx → Calls Tryz.prog 18 #[progV b0 o0 B.length c0 b1 o1 C.length c1, targetV s, .int .i64 slots] wx fun e w' => OfAns8 b0 o0 c0 b1 o1 c1 B C s slots e w' ∧ Below wx.heap.size wx w'

theorem all_ok {B : List Bool} {C : List LIns} {s slots : Nat} (h1 : s % 2 = 0) (h2 : s ≤ 16) : ∀ f, f ∈ allF B (numsL C) s slots ↔ FactOk B s slots (NumP C) f := by
  intro f
  rw [mem_allF h1 h2]
  have e : (fun x => x ∈ numsL C) = NumP C := funext fun x => propext (nums_mem C x)
  rw [e]

end Go.Proofs.YtcmnmogmdhofcaaGreat.form

/- What is told of facts (world.numbersIn, world.tell). -/
namespace Go.Proofs.YtcmnmogmdhofcaaGreat.form
open Go.RowKit Go.Maps
set_option linter.unusedVariables false
set_option maxRecDepth 100000
attribute [local go_sem ↓] Go.wp_at_zero Go.wp_at_succ

structure NiS (w : World) (l : List Int) (v : Value) (wr : World) : Prop where
  bel : Below w.heap.size w wr
  own : wr.ownsRow w.heap.size 47 1 v l.length (l.map (Value.int .u32))
theorem row_below {base : Nat} {e : TypeId} {n size : Nat} {xs : List Value} {v : Value} {wr w1 : World} (h : wr.ownsRow base e size v n xs) (hb : Below wr.heap.size wr w1) : w1.ownsRow base e size v n xs :=
  World.ownsRow.kept h ⟨hb.os, hb.tape, hb.output, hb.size, fun j hj _ => hb.block j hj⟩ (row := none) (by cases v.ownBlock <;> simp)
theorem NiS.below {w wr w1 : World} {l : List Int} {v : Value} (h : NiS w l v wr) (hb : Below wr.heap.size wr w1) : NiS w l v w1 := ⟨step_below hb h.bel, row_below h.own hb⟩
theorem NiS.push {w wr w1 : World} {l : List Int} {v : Value} (h : NiS w l v wr) {g cap : Nat} {y : Int} (hown : w1.ownsRow w.heap.size 47 1 (.slice (some ⟨g, 0, none⟩) (l.length + 1) cap) (l.length + 1) (l.map (Value.int .u32) ++ [.int .u32 y])) (hgrow : wr.grownBy w1 v.ownBlock) : NiS w (l ++ [y]) (.slice (some ⟨g, 0, none⟩) (l.length + 1) cap) w1 :=
  ⟨h.bel.grown hgrow (by have := h.bel.size; omega) (fun j hj => by have := (World.ownsRow.lt h.own _ hj).1; omega), by simpa using hown⟩
def NinAns (w : World) (l : List Int) (e : Ending) (w' : World) : Prop := ∃ ao cap, e = .returned (.slice ao l.length cap) ∧ (0 < l.length → ∃ b, ao = some ⟨b, 0, none⟩ ∧ w.heap.size ≤ b ∧ b < w'.heap.size ∧ ∀ j, j < l.length → w'.cell? ⟨b, j, none⟩ = some (.int .u32 (l.getD j 0))) ∧ Below w.heap.size w w'
theorem NiS.ans {w wr : World} {l : List Int} {v : Value} (h : NiS w l v wr) : NinAns w l (.returned v) wr := by
  by_cases hn : 0 < l.length
  · obtain ⟨g, cap, rfl, hb, hlt⟩ := h.own.form hn
    refine ⟨_, cap, rfl, fun _ => ⟨g, rfl, hb, hlt, fun j hj => ?_⟩, h.bel⟩
    rw [World.ownsRow.cellAt h.own j (by omega)]
    simp [List.getD, hj]
  · have hl : l = [] := List.length_eq_zero_iff.1 (by omega)
    subst hl
    rcases h.own.2 with ⟨rfl, _⟩ | ⟨g, cap, cur, rfl, _⟩
    · exact ⟨none, 0, rfl, fun h => absurd h (by simp), h.bel⟩
    · exact ⟨_, cap, rfl, fun h => absurd h (by simp), h.bel⟩

set_option maxHeartbeats 1600000 in
theorem numbersInW {w : World} {lim : Nat} {g : WB} {B : List Bool} {C : List LIns} {R : List LRow} {A : List LPlace} {N : List Int} {s slots : Nat} (hW : WorldAt w lim g B C R A N) (hD : Dims B C s slots A N) (x : Bits) :
    Calls Tryz.prog 29 #[.pointer (some ⟨g.q, 0, none⟩), .int .u64 (bn x)] w fun e w' => NinAns w (numIn N x N.length) e w' := by
  have HW : Hid (WorldAt w lim g B C R A N) := hW
  have hn41 := hD.n41
  have hn41z : (N.length : Int) ≤ 41 := by omega
  have p4 := hW.stat.p4
  have hgq := cell_lt p4
  clear hW hD
  go_enter Tryz.func29, Tryz.ntmps29
  go_wp2
  go_loopg [5, 6, 7, 13] (N.length + 1) (fun gg v5 v6 v7 v wr => ∃ (k : Nat), v = .int .i64 k ∧ k ≤ N.length ∧ gg = N.length + 1 - k ∧ NiS w (numIn N x k) v5 wr)
  case atStart => exact ⟨0, rfl, by omega, by omega, Below.refl _ _, World.ownsRow_nil _ _ _ _⟩
  case round =>
    obtain ⟨k, rfl, hk, hgk, hnu⟩ := hrel
    have HGK : Hid (gk = N.length + 1 - k) := hgk
    obtain ⟨l, hl⟩ : ∃ l, l = numIn N x k := ⟨_, rfl⟩
    have HL : Hid (l = numIn N x k) := hl
    have hll : l.length ≤ 41 := by rw [hl]; have := numIn_len N x k; omega
    rw [← hl] at hnu
    have HNU : Hid (NiS w l u5 wr) := hnu
    have hwz := hnu.bel.size
    clear hgk hnu hl
    by_cases hkl : k < N.length
    case neg =>
      obtain rfl : k = N.length := by omega
      have hkz : ¬ (N.length : Int) < (N.length : Int) := by omega
      go_wp2
      go_ret
      rw [← HL.out]
      exact HNU.out.ans
    have hkz : (k : Int) < (N.length : Int) := by omega
    have d0 := (HW.out.below HNU.out.bel).stat.nums k hkl
    have hb4 := cell_lt d0
    obtain ⟨n, hn⟩ : ∃ n, n = nAt N k := ⟨_, rfl⟩
    have hn0 : N.getD k 0 = n := hn.symm
    rw [hn0] at d0
    have HN : Hid (n = nAt N k) := hn
    obtain ⟨z, hz⟩ : ∃ z, z = x.getLsbD k := ⟨_, rfl⟩
    have HZ : Hid (z = x.getLsbD k) := hz
    have c := containsO x k (by omega) wr
    rw [← hz] at c
    clear hn hn0 hz
    go_upto_if 20 with (go_at_call 30; refine c.mono ?_; rintro e w1 ⟨rfl, hw1⟩; obtain rfl := hw1.symm; clear hw1)
    clear c
    rcases Bool.eq_false_or_eq_true z with hz | hz
    · subst hz
      obtain ⟨t0', hi0, hy0, hy1, hy2⟩ := info_parts infoU32
      go_wp2_with (at_builtin; refine wpList_append_lies _ rfl _ _ 64 rfl w.heap.size 47 t0' (.int .u32 0) 1 4 Tryz.underlying64 hi0 hy0 hy1 hy2 rfl (by decide) u5 l.length (l.map (Value.int .u32)) rfl (World.ownsRow.alloc HNU.out.own _) ⟨wr.heap.size, 0, none⟩ 1 1 [.int .u32 n] rfl rfl ?c1 ?c2 (by decide) ?c3 ?c4 ?c5 _ rfl ?_)
      case c1 =>
        intro j u hu
        rcases j with _ | j
        · simp at hu; subst hu; simp [go_sem, Addr.add]
        · simp at hu
      case c2 => simp [Value.oneCell']
      case c3 => unfold maxLen; omega
      case c4 => omega
      case c5 => first | omega | (simp; omega)
      intro g9 cap9 w9 hown hgrow hat hlt9
      have hP := (HNU.out.below ((Below.refl _ _).alloc (Nat.le_refl _) (.cells #[.int .u32 n] 47))).push hown hgrow
      have HP : Hid (NiS w (l ++ [n]) (.slice (some ⟨g9, 0, none⟩) (l.length + 1) cap9) w9) := hP
      clear hP hown hgrow hat
      go_wp2
      have hgk := HGK.out
      go_roundg (gk - 1)
      case measure => omega
      case rel =>
        refine ⟨k + 1, by go_num, by omega, by omega, ?_⟩
        rw [numIn_step, if_pos HZ.out.symm, ← HL.out, ← HN.out]
        exact HP.out
    · subst hz
      go_wp2
      have hgk := HGK.out
      go_roundg (gk - 1)
      case measure => omega
      case rel =>
        refine ⟨k + 1, by go_num, by omega, by omega, ?_⟩
        rw [numIn_step, ← HZ.out, if_neg (by simp), List.append_nil, ← HL.out]
        exact HNU.out

structure TeS (w : World) (l : List LFact) (v : Value) (wr : World) : Prop where
  bel : Below w.heap.size w wr
  own : wr.ownsRow w.heap.size 62 5 v l.length (l.flatMap factCs)
theorem TeS.below {w wr w1 : World} {l : List LFact} {v : Value} (h : TeS w l v wr) (hb : Below wr.heap.size wr w1) : TeS w l v w1 := ⟨step_below hb h.bel, row_below h.own hb⟩
theorem TeS.start (w : World) : TeS w [] (.slice none 0 0) w := ⟨Below.refl _ _, World.ownsRow_nil _ _ _ _⟩
structure TeF (w w1 : World) (v1 : Value) (l : List LFact) (v : Value) (wr : World) : Prop where
  te : TeS w l v wr
  size : w1.heap.size ≤ wr.heap.size
  blk : ∀ b, b < w1.heap.size → v1.ownBlock ≠ some b → wr.heap[b]? = w1.heap[b]?
  off : v.ownBlock = v1.ownBlock ∨ ∃ b, v.ownBlock = some b ∧ w1.heap.size ≤ b
section
variable {w w1 : World} {v1 : Value} {l : List LFact} {v : Value} {wr w2 : World}
theorem TeF.start (h : TeS w l v w1) : TeF w w1 v l v w1 := ⟨h, Nat.le_refl _, fun _ _ _ => rfl, Or.inl rfl⟩
theorem TeF.below (h : TeF w w1 v1 l v wr) (hb : Below wr.heap.size wr w2) : TeF w w1 v1 l v w2 :=
  ⟨h.te.below hb, Nat.le_trans h.size hb.size, fun b hl hn => (hb.block b (Nat.lt_of_lt_of_le hl h.size)).trans (h.blk b hl hn), h.off⟩
theorem TeF.cell (h : TeF w w1 v1 l v wr) {b o : Nat} {u : Value} (hc : w1.cell? ⟨b, o, none⟩ = some u) (hn : v1.ownBlock ≠ some b) : wr.cell? ⟨b, o, none⟩ = some u := by
  rw [World.cell?_of_block (w := w1) (h.blk b (cell_lt hc) hn)]
  exact hc
theorem TeF.push (h : TeF w w1 v1 l v wr) {f : LFact} {g cap : Nat} (hown : w2.ownsRow w.heap.size 62 5 (.slice (some ⟨g, 0, none⟩) (l.length + 1) cap) (l.length + 1) (l.flatMap factCs ++ factCs f)) (hgrow : wr.grownBy w2 v.ownBlock) (hat : v.ownBlock = some g ∨ g = wr.heap.size) :
    TeF w w1 v1 (l ++ [f]) (.slice (some ⟨g, 0, none⟩) (l.length + 1) cap) w2 := by
  have hz := h.te.bel.size
  refine ⟨⟨h.te.bel.grown hgrow (by omega) (fun j hj => by have := (World.ownsRow.lt h.te.own _ hj).1; omega), by simpa using hown⟩, Nat.le_trans h.size hgrow.size, fun b hl hn => ?_, ?_⟩
  · rw [hgrow.block b (Nat.lt_of_lt_of_le hl h.size) (fun e => ?_), h.blk b hl hn]
    rcases h.off with ho | ⟨b', ho, hb'⟩
    · rw [ho] at e; exact hn e.symm
    · rw [ho] at e
      have := Option.some.inj e
      omega
  · rcases hat with hat | hat
    · rcases h.off with ho | ⟨b', ho, hb'⟩
      · left; rw [← ho, hat]; rfl
      · right
        refine ⟨g, rfl, ?_⟩
        rw [hat] at ho
        have := Option.some.inj ho
        omega
    · right
      exact ⟨g, rfl, by have := h.size; omega⟩
end
theorem TeS.ne {w : World} {l : List LFact} {v : Value} {wr : World} (h : TeS w l v wr) {b : Nat} (hb : wr.heap.size ≤ b) : v.ownBlock ≠ some b := fun e => by
  have := (World.ownsRow.lt h.own _ e).2
  omega
theorem take_one' {L : List Int} {i : Nat} (hi : i < L.length) : L.take (i + 1) = L.take i ++ [L.getD i 0] := by rw [List.take_succ_eq_append_getElem hi]; simp [List.getD, hi]
def TellAns (w : World) (l : List LFact) (e : Ending) (w' : World) : Prop := ∃ v, e = .returned v ∧ TeS w l v w'

set_option maxHeartbeats 3200000 in
theorem tellW {w : World} {lim : Nat} {g : WB} {B : List Bool} {C : List LIns} {R : List LRow} {A : List LPlace} {N : List Int} {s slots : Nat} (hW : WorldAt w lim g B C R A N) (hD : Dims B C s slots A N) (q mp mt : Nat) (T : List Int) (m : FM) (hF : FMAt w q mp mt A T m) :
    Calls Tryz.prog 11 #[.pointer (some ⟨g.q, 0, none⟩), .pointer (some ⟨q, 0, none⟩)] w fun e w' => TellAns w (tellL N m B.length A) e w' := by
  have HW : Hid (WorldAt w lim g B C R A N) := hW
  have HD : Hid (Dims B C s slots A N) := hD
  have HF : Hid (FMAt w q mp mt A T m) := hF
  have hb12 := hD.b12
  have hb12z : (B.length : Int) ≤ 12 := by omega
  have ha36 := hD.a36
  have ha36z : (A.length : Int) ≤ 36 := by omega
  have hn41 := hD.n41
  have p0 := hW.stat.p0
  have hgq := cell_lt p0
  have hlm := hF.lt
  have HNU : Hid (∀ (wx : World) (x : Bits), Below w.heap.size w wx → Calls Tryz.prog 29 #[.pointer (some ⟨g.q, 0, none⟩), .int .u64 (bn x)] wx fun e w' => NinAns wx (numIn N x N.length) e w') := fun wx x hb => numbersInW (hW.below hb) hD x
  have HBL : Hid (∀ k, k ≤ B.length → k * N.length ≤ 492) := fun k hk => Nat.le_trans (Nat.mul_le_mul (show k ≤ 12 by omega) hn41) (by omega)
  have HAL : Hid (∀ k, k ≤ A.length → k * (N.length + B.length) ≤ 1908) := fun k hk => Nat.le_trans (Nat.mul_le_mul (show k ≤ 36 by omega) (show N.length + B.length ≤ 53 by omega)) (by omega)
  clear hW hD hF
  go_enter Tryz.func11, Tryz.ntmps11
  go_wp2
  go_loopg [5, 6, 8, 21] (B.length + 1) (fun gg v5 v6 v8 v wr => ∃ (k : Nat), v = .int .i64 k ∧ k ≤ B.length ∧ gg = B.length + 1 - k ∧ TeS w (tellT N m k) v5 wr)
  case atStart => exact ⟨0, rfl, by omega, by omega, TeS.start _⟩
  case round =>
    obtain ⟨k, rfl, hk, hgk, hte⟩ := hrel
    have HGK : Hid (gk = B.length + 1 - k) := hgk
    have HTE : Hid (TeS w (tellT N m k) u5 wr) := hte
    have hwz := hte.bel.size
    clear hgk hte
    by_cases hkl : k < B.length
    case pos =>
      have hkz : (k : Int) < (B.length : Int) := by omega
      have hFR := HF.out.below HTE.out.bel
      have c1 := hFR.c1
      have hl : (Instr.lookup 85 (.map (some mt)) (.int .i64 (k : Int)) false).run Tryz.prog wr = .ok (.int .u64 (bn (m.tmp k))) wr := hFR.tm.look (t := (k : Int)) ⟨by omega, by omega⟩
      have c := HNU.out wr (m.tmp k) HTE.out.bel
      obtain ⟨L, hL⟩ : ∃ L, L = numIn N (m.tmp k) N.length := ⟨_, rfl⟩
      have HL : Hid (L = numIn N (m.tmp k) N.length) := hL
      have hLl : L.length ≤ 41 := by rw [hL]; have := numIn_len N (m.tmp k) N.length; omega
      rw [← hL] at c
      have hLz : (L.length : Int) ≤ 41 := by omega
      have hb1 := HBL.out k hk
      have htl := tellT_len N m k
      obtain ⟨l0, hl0⟩ : ∃ l, l = tellT N m k := ⟨_, rfl⟩
      have hl0l : l0.length ≤ 492 := by rw [hl0]; omega
      have HL0 : Hid (l0 = tellT N m k) := hl0
      have HT0 : Hid (TeS w l0 u5 wr) := by rw [hl0]; exact HTE.out
      clear hFR hL hb1 htl hl0
      obtain ⟨xt, hxt⟩ : ∃ x, x = m.tmp k := ⟨_, rfl⟩
      rw [← hxt] at hl c
      clear hxt
      go_wp2_with (go_at_call 29; refine c.mono ?_; rintro e w4 ⟨ao, cap, rfl, hcs, hb4⟩; have HCS : Hid (0 < L.length → ∃ b, ao = some ⟨b, 0, none⟩ ∧ wr.heap.size ≤ b ∧ b < w4.heap.size ∧ ∀ j, j < L.length → w4.cell? ⟨b, j, none⟩ = some (.int .u32 (L.getD j 0))) := hcs; have HB4 : Hid (Below wr.heap.size wr w4) := hb4; clear hcs hb4)
      clear c hl c1
      obtain ⟨wo, hwo⟩ : ∃ x, x = wr := ⟨_, rfl⟩
      obtain ⟨v5, hv5⟩ : ∃ x, x = u5 := ⟨_, rfl⟩
      obtain ⟨gO, hgO⟩ : ∃ x, x = gk := ⟨_, rfl⟩
      subst hwo hv5 hgO
      have HTF : Hid (TeF w w4 v5 l0 v5 w4) := TeF.start (HT0.out.below HB4.out)
      go_loopg [5, 8, 33] (L.length + 1) (fun gg x5 x8 x wq => ∃ (i : Nat), x = .int .i64 i ∧ i ≤ L.length ∧ gg = L.length + 1 - i ∧ TeF w w4 v5 (l0 ++ (L.take i).map (tFact k)) x5 wq)
      case atStart => exact ⟨0, rfl, by omega, by omega, by simpa using HTF.out⟩
      case round =>
        obtain ⟨i, rfl, hi, hgk, htf⟩ := hrel
        have HGI : Hid (gk = L.length + 1 - i) := hgk
        have HTI : Hid (TeF w w4 v5 (l0 ++ (L.take i).map (tFact k)) u5 wr) := htf
        clear hgk htf
        by_cases hil : i < L.length
        case neg =>
          obtain rfl : i = L.length := by omega
          have hiz : ¬ (L.length : Int) < (L.length : Int) := by omega
          go_wp2
          have hgk := HGK.out
          go_roundg (gO - 1)
          case measure => omega
          case rel =>
            refine ⟨k + 1, by go_num, by omega, by omega, ?_⟩
            have h := HTI.out.te
            rw [List.take_length] at h
            rw [tellT_step]
            unfold tellT1
            rw [← HL.out, ← HL0.out]
            exact h
        have hiz : (i : Int) < (L.length : Int) := by omega
        obtain ⟨b, rfl, hbge, hblt, hbc⟩ := HCS.out (by omega)
        have d0 := HTI.out.cell (hbc i hil) (HT0.out.ne hbge)
        have hbl := cell_lt d0
        obtain ⟨n, hn⟩ : ∃ n, n = L.getD i 0 := ⟨_, rfl⟩
        rw [← hn] at d0
        have HN : Hid (n = L.getD i 0) := hn
        obtain ⟨l, hl⟩ : ∃ l, l = l0 ++ (L.take i).map (tFact k) := ⟨_, rfl⟩
        have HLL : Hid (l = l0 ++ (L.take i).map (tFact k)) := hl
        have hll : l.length ≤ 533 := by rw [hl]; simp; omega
        have HTI2 : Hid (TeF w w4 v5 l u5 wr) := by rw [hl]; exact HTI.out
        have hws := HTI2.out.te.bel.size
        clear hn hl hbc HTI
        obtain ⟨t0', hi0, hy0, hy1, hy2⟩ := info_parts infFact8
        go_wp2_with (at_builtin; refine wpList_append_lies _ rfl _ _ 43 rfl w.heap.size 62 t0' (.agg #[.int .i64 0, .int .i64 0, .bool false, .int .i64 0, .int .u32 0]) 5 40 Tryz.underlying43 hi0 hy0 hy1 hy2 rfl (by decide) u5 l.length (l.flatMap factCs) rfl (World.ownsRow.alloc HTI2.out.te.own _) ⟨wr.heap.size, 0, none⟩ 1 1 [.int .i64 0, .int .i64 0, .bool true, .int .i64 (k : Int), .int .u32 n] rfl rfl ?c1 ?c2 (by decide) ?c3 ?c4 ?c5 _ rfl ?_)
        case c1 => exact World.news_of_block (cs := #[.int .i64 0, .int .i64 0, .bool true, .int .i64 (k : Int), .int .u32 n]) (t := 62) (fr := (0, 0)) (by have := heap_alloc_new wr (.cells #[.int .i64 0, .int .i64 0, .bool true, .int .i64 (k : Int), .int .u32 n] 62); simpa using this)
        case c2 => simp [Value.oneCell']
        case c3 => unfold maxLen; omega
        case c4 => omega
        case c5 => first | omega | (simp; omega)
        intro g9 cap9 w9 hown hgrow hat hlt9
        have hat2 : u5.ownBlock = some g9 ∨ g9 = (wr.alloc (.cells #[.int .i64 0, .int .i64 0, .bool true, .int .i64 (k : Int), .int .u32 n] 62)).heap.size := by simpa using hat
        have hP := (HTI2.out.below ((Below.refl _ _).alloc (Nat.le_refl _) (.cells #[.int .i64 0, .int .i64 0, .bool true, .int .i64 (k : Int), .int .u32 n] 62))).push (f := tFact k n) hown hgrow hat2
        have HP : Hid (TeF w w4 v5 (l ++ [tFact k n]) (.slice (some ⟨g9, 0, none⟩) (l.length + 1) cap9) w9) := hP
        clear hP hown hgrow hat hat2
        go_wp2
        have hgk := HGI.out
        go_roundg (gk - 1)
        case measure => omega
        case rel =>
          refine ⟨i + 1, by go_num, by omega, by omega, ?_⟩
          rw [take_one' hil, List.map_append, ← List.append_assoc, ← HLL.out, ← HN.out]
          exact HP.out
    obtain rfl : k = B.length := by omega
    have hkz : ¬ (B.length : Int) < (B.length : Int) := by omega
    have p3 := (HW.out.below HTE.out.bel).stat.p3
    have hgq2 : g.q < wr.heap.size := by omega
    have hb1 := HBL.out B.length (Nat.le_refl _)
    have htl := tellT_len N m B.length
    obtain ⟨l0, hl0⟩ : ∃ l, l = tellT N m B.length := ⟨_, rfl⟩
    have hl0l : l0.length ≤ 492 := by rw [hl0]; omega
    have HL0 : Hid (l0 = tellT N m B.length) := hl0
    have HT0 : Hid (TeS w l0 u5 wr) := by rw [hl0]; exact HTE.out
    clear hb1 htl hl0 HTE HGK
    go_wp2
    clear p3
    obtain ⟨wO, hwO⟩ : ∃ x, x = wr := ⟨_, rfl⟩
    obtain ⟨vO, hvO⟩ : ∃ x, x = u5 := ⟨_, rfl⟩
    obtain ⟨gX, hgX⟩ : ∃ x, x = gk := ⟨_, rfl⟩
    subst hwO hvO hgX
    go_loopg [5, 10, 11, 13, 14, 50] (A.length + 1) (fun gg x5 x10 x11 x13 x14 x wq => ∃ (j : Nat), x = .int .i64 j ∧ j ≤ A.length ∧ gg = A.length + 1 - j ∧ TeS w (l0 ++ tellP N m B.length A j) x5 wq)
    case atStart => exact ⟨0, rfl, by omega, by omega, by simpa [tellP] using HT0.out⟩
    case round =>
      obtain ⟨j, rfl, hj, hgk, hte⟩ := hrel
      have HGJ : Hid (gk = A.length + 1 - j) := hgk
      have hpl := tellP_len N m B.length A j hj
      have hal := HAL.out j hj
      obtain ⟨l1, hl1⟩ : ∃ l, l = l0 ++ tellP N m B.length A j := ⟨_, rfl⟩
      have hl1l : l1.length ≤ 2400 := by rw [hl1, List.length_append]; omega
      have HL1 : Hid (l1 = l0 ++ tellP N m B.length A j) := hl1
      have HT1 : Hid (TeS w l1 u5 wr) := by rw [hl1]; exact hte
      have hws := hte.bel.size
      clear hgk hte hpl hal hl1 HT0
      by_cases hjl : j < A.length
      case neg =>
        obtain rfl : j = A.length := by omega
        have hjz : ¬ (A.length : Int) < (A.length : Int) := by omega
        go_wp2
        go_ret
        refine ⟨_, rfl, ?_⟩
        unfold tellL
        rw [← HL0.out, ← HL1.out]
        exact HT1.out
      have hjz : (j : Int) < (A.length : Int) := by omega
      obtain ⟨a, ha⟩ : ∃ a, a = A.getD j .zero := ⟨_, rfl⟩
      obtain ⟨y0, y1⟩ := (HW.out.below HT1.out.bel).stat.plc j hjl
      rw [← ha] at y0 y1
      have hbl := cell_lt y0
      have ham : a ∈ A := by rw [ha]; simp [List.getD, hjl]
      have hwf : PlWf a := HD.out.wf ((HD.out.all _).1 ham)
      have HWF : Hid (PlWf a) := hwf
      have HA : Hid (a = A.getD j .zero) := ha
      obtain ⟨xh, hxh⟩ : ∃ x, x = m.has a := ⟨_, rfl⟩
      obtain ⟨yi, hyi⟩ : ∃ x, x = m.is a := ⟨_, rfl⟩
      have HXH : Hid (xh = m.has a) := hxh
      have HYI : Hid (yi = m.is a) := hyi
      clear hwf ha ham hxh hyi
      obtain ⟨wo, hwo⟩ : ∃ x, x = wr := ⟨_, rfl⟩
      obtain ⟨v5, hv5⟩ : ∃ x, x = u5 := ⟨_, rfl⟩
      obtain ⟨gO, hgO⟩ : ∃ x, x = gk := ⟨_, rfl⟩
      subst hwo hv5 hgO
      go_upto_region 14 with fail
      obtain ⟨wx, hwx⟩ : ∃ wx, wx = wo.alloc (.cells #[.int .i64 a.kind, .int .i64 a.n] 51) := ⟨_, rfl⟩
      have hbx : Below wo.heap.size wo wx := by rw [hwx]; exact (Below.refl _ _).alloc (Nat.le_refl _) _
      have x1 : wx.cell? ⟨wo.heap.size, 0, none⟩ = some (.int .i64 a.kind) := by rw [hwx]; simp [go_sem]
      have x2 : wx.cell? ⟨wo.heap.size, 1, none⟩ = some (.int .i64 a.n) := by rw [hwx]; simp [go_sem]
      have hzx : wx.heap.size = wo.heap.size + 1 := by rw [hwx]; simp
      have hfx := HF.out.below (step_below hbx HT1.out.bel)
      have x0 : wx.cell? ⟨q, 0, none⟩ = some (.map (some mp)) := hfx.c0
      have HLK : Hid (∀ w5, Below wx.heap.size wx w5 → (Instr.lookup 84 (.map (some mp)) (.agg #[.int .i64 a.kind, .int .i64 a.n]) false).run Tryz.prog w5 = .ok (.agg #[.int .u64 (bn xh), .int .u64 (bn yi)]) w5) := fun w5 hb => by
        have h := PMap.look (hfx.pm.below hb) HWF.out
        rw [← HXH.out, ← HYI.out] at h
        exact h
      have HBX : Hid (Below wo.heap.size wo wx) := hbx
      have HZX : Hid (wx.heap.size = wo.heap.size + 1) := hzx
      rw [← hwx]
      clear hwx hbx hzx hfx y0 y1
      refine wp_region_held_drew (S := (fun w' => Below wx.heap.size wx w' ∧ w'.cell? ⟨q, 0, none⟩ = some (.map (some mp)) ∧ w'.cell? ⟨wo.heap.size, 0, none⟩ = some (.int .i64 a.kind) ∧ w'.cell? ⟨wo.heap.size, 1, none⟩ = some (.int .i64 a.n))) (by rfl) ?_ (fun hHeld => ?_)
      · (exact ⟨(Below.refl _ _).drew, x0, x1, x2⟩)
      refine wpAnyH_take (i := 0) (v := ?_) rfl (by kernel_rfl) (by kernel_rfl) (by kernel_rfl) (fun _ _ _ h => h) (Or.inl ⟨by rfl, ?_⟩) (by assumption) ?_
      case refine_2 => (intro w hSw; (try dsimp only at hSw); go_simp; first | done | (with_reducible rfl))
      show wpAnyH _ _ _ _ _ _ _ (Act.put _ (some 54) _) _
      simp only [Act.put, List.setIfInBounds_toArray, List.set_cons_zero, List.set_cons_succ]
      refine wpAnyH_take (i := 1) (v := ?_) rfl (by kernel_rfl) (by kernel_rfl) (by kernel_rfl) (fun _ _ _ h => h) (Or.inl ⟨by rfl, ?_⟩) (by assumption) ?_
      case refine_2 => (intro w hSw; (try dsimp only at hSw); go_simp; first | done | (with_reducible rfl))
      show wpAnyH _ _ _ _ _ _ _ (Act.put _ (some 55) _) _
      simp only [Act.put, List.setIfInBounds_toArray, List.set_cons_zero, List.set_cons_succ]
      refine wpAnyH_take (i := 2) (v := ?_) rfl (by kernel_rfl) (by kernel_rfl) (by kernel_rfl) (fun _ _ _ h => h) (Or.inl ⟨by rfl, ?_⟩) (by assumption) ?_
      case refine_2 => (intro w hSw; (try dsimp only at hSw); go_simp; first | done | (with_reducible rfl))
      show wpAnyH _ _ _ _ _ _ _ (Act.put _ (some 56) _) _
      simp only [Act.put, List.setIfInBounds_toArray, List.set_cons_zero, List.set_cons_succ]
      refine wpAnyH_take (i := 3) (v := ?_) rfl (by kernel_rfl) (by kernel_rfl) (by kernel_rfl) (fun _ _ _ h => h) (Or.inl ⟨by rfl, ?_⟩) (by assumption) ?_
      case refine_2 => (intro w hSw; (try dsimp only at hSw); go_simp; first | done | (with_reducible rfl))
      show wpAnyH _ _ _ _ _ _ _ (Act.put _ (some 57) _) _
      simp only [Act.put, List.setIfInBounds_toArray, List.set_cons_zero, List.set_cons_succ]
      refine wpAnyH_take (i := 4) (v := ?_) rfl (by kernel_rfl) (by kernel_rfl) (by kernel_rfl) (fun _ _ _ h => h) (Or.inl ⟨by rfl, ?_⟩) (by assumption) ?_
      case refine_2 => (intro w hSw; (try dsimp only at hSw); go_simp; first | done | (with_reducible rfl))
      show wpAnyH _ _ _ _ _ _ _ (Act.put _ (some 58) _) _
      simp only [Act.put, List.setIfInBounds_toArray, List.set_cons_zero, List.set_cons_succ]
      refine wpAnyH_take (i := 5) (v := ?_) rfl (by kernel_rfl) (by kernel_rfl) (by kernel_rfl) (fun _ _ _ h => h) (Or.inl ⟨by rfl, ?_⟩) (by assumption) ?_
      case refine_2 => (intro w5 hSw; (try dsimp only at hSw); have hl := HLK.out w5 hSw.1; go_simp; first | done | (with_reducible rfl))
      show wpAnyH _ _ _ _ _ _ _ (Act.put _ (some 59) _) _
      simp only [Act.put, List.setIfInBounds_toArray, List.set_cons_zero, List.set_cons_succ]
      refine wpAnyH_ready (rs := [6]) (by kernel_rfl) (by simp) ?_
      refine (AllReadyH.cons rfl (fun K hK => ?_) AllReadyH.nil)
      have h8 := hHeld
      go_simp
      refine hK.out _ _ ?_ (fun hHeld => ?_)
      · (exact ⟨step_below ((Below.refl _ _).alloc (Nat.le_refl _) _) hHeld.1, step_cell ((Below.refl _ _).alloc (Nat.le_refl _) _) hHeld.2.1, step_cell ((Below.refl _ _).alloc (Nat.le_refl _) _) hHeld.2.2.1, step_cell ((Below.refl _ _).alloc (Nat.le_refl _) _) hHeld.2.2.2⟩)
      clear hK K
      try simp only [Act.put, List.setIfInBounds_toArray, List.set_cons_zero, List.set_cons_succ]
      refine wpAnyH_ready (rs := [7]) (by kernel_rfl) (by simp) ?_
      refine (AllReadyH.cons rfl (fun K hK => ?_) AllReadyH.nil)
      go_simp
      refine hK.out _ _ ?_ (fun hHeld => ?_)
      · (exact ⟨step_below ((Below.refl _ _).alloc (Nat.le_refl _) _) h8.1, step_cell ((Below.refl _ _).alloc (Nat.le_refl _) _) h8.2.1, step_cell ((Below.refl _ _).alloc (Nat.le_refl _) _) h8.2.2.1, step_cell ((Below.refl _ _).alloc (Nat.le_refl _) _) h8.2.2.2⟩)
      clear hK K
      try simp only [Act.put, List.setIfInBounds_toArray, List.set_cons_zero, List.set_cons_succ]
      refine wpAnyH_done (by kernel_rfl) ?_ _
      clear hHeld
      obtain ⟨wy, hwy⟩ : ∃ wy, wy = (wx.alloc (.cells #[.int .u64 (bn xh), .int .u64 (bn yi)] 89)).drew := ⟨_, rfl⟩
      have hbxy : Below wx.heap.size wx wy := by rw [hwy]; exact ((Below.refl _ _).alloc (Nat.le_refl _) _).drew
      have v3 : wy.cell? ⟨wx.heap.size, 0, none⟩ = some (.int .u64 (bn xh)) := by rw [hwy]; simp [go_sem]
      have v4 : wy.cell? ⟨wx.heap.size, 1, none⟩ = some (.int .u64 (bn yi)) := by rw [hwy]; simp [go_sem]
      rw [← hwy]
      clear hwy
      have v1 := step_cell hbxy x1
      have v2 := step_cell hbxy x2
      have HBY : Hid (Below wo.heap.size wo wy) := step_below hbxy HBX.out
      have c := HNU.out wy yi (step_below HBY.out HT1.out.bel)
      obtain ⟨L, hL⟩ : ∃ L, L = numIn N yi N.length := ⟨_, rfl⟩
      have HL : Hid (L = numIn N yi N.length) := hL
      have hLl : L.length ≤ 41 := by rw [hL]; have := numIn_len N yi N.length; omega
      rw [← hL] at c
      have hLz : (L.length : Int) ≤ 41 := by omega
      have hzy : wo.heap.size < wy.heap.size := cell_lt v1
      have hzy2 : wx.heap.size < wy.heap.size := cell_lt v3
      have hgy : g.q < wy.heap.size := by omega
      clear x0 x1 x2 hbxy hL HLK
      go_wp2_with (go_at_call 29; refine c.mono ?_; rintro e w4 ⟨ao, cap, rfl, hcs, hb4⟩; have HCS : Hid (0 < L.length → ∃ b, ao = some ⟨b, 0, none⟩ ∧ wy.heap.size ≤ b ∧ b < w4.heap.size ∧ ∀ j, j < L.length → w4.cell? ⟨b, j, none⟩ = some (.int .u32 (L.getD j 0))) := hcs; have HB4 : Hid (Below wy.heap.size wy w4) := hb4; clear hcs hb4)
      have HV1 : Hid (w4.cell? ⟨wo.heap.size, 0, none⟩ = some (.int .i64 a.kind)) := step_cell HB4.out v1
      have HV2 : Hid (w4.cell? ⟨wo.heap.size, 1, none⟩ = some (.int .i64 a.n)) := step_cell HB4.out v2
      have HV3 : Hid (w4.cell? ⟨wx.heap.size, 0, none⟩ = some (.int .u64 (bn xh))) := step_cell HB4.out v3
      have HT4 : Hid (TeS w l1 v5 w4) := HT1.out.below (step_below HB4.out HBY.out)
      have HTF : Hid (TeF w w4 v5 l1 v5 w4) := TeF.start HT4.out
      have HNE1 : Hid (v5.ownBlock ≠ some wo.heap.size) := HT1.out.ne (Nat.le_refl _)
      have HNE2 : Hid (v5.ownBlock ≠ some wx.heap.size) := HT1.out.ne HBX.out.size
      have HNE3 : Hid (∀ b, wy.heap.size ≤ b → v5.ownBlock ≠ some b) := fun b hb => HT1.out.ne (Nat.le_trans HBY.out.size hb)
      clear c v1 v2 v3 v4
      go_loopg [5, 13, 65] (L.length + 1) (fun gg x5 x13 x wq => ∃ (i : Nat), x = .int .i64 i ∧ i ≤ L.length ∧ gg = L.length + 1 - i ∧ TeF w w4 v5 (l1 ++ (L.take i).map (iFact a)) x5 wq)
      case atStart => exact ⟨0, rfl, by omega, by omega, by simpa using HTF.out⟩
      case round =>
        obtain ⟨i, rfl, hi, hgk, htf⟩ := hrel
        have HGI : Hid (gk = L.length + 1 - i) := hgk
        have HTI : Hid (TeF w w4 v5 (l1 ++ (L.take i).map (iFact a)) u5 wr) := htf
        clear hgk htf
        by_cases hil : i < L.length
        case pos =>
          have hiz : (i : Int) < (L.length : Int) := by omega
          obtain ⟨b, rfl, hbge, hblt, hbc⟩ := HCS.out (by omega)
          have d0 := HTI.out.cell (hbc i hil) (HNE3.out b hbge)
          have hbl := cell_lt d0
          have d1 := HTI.out.cell HV1.out HNE1.out
          have d2 := HTI.out.cell HV2.out HNE1.out
          have hbl2 := cell_lt d1
          obtain ⟨n, hn⟩ : ∃ n, n = L.getD i 0 := ⟨_, rfl⟩
          rw [← hn] at d0
          have HN : Hid (n = L.getD i 0) := hn
          obtain ⟨l, hl⟩ : ∃ l, l = l1 ++ (L.take i).map (iFact a) := ⟨_, rfl⟩
          have HLL : Hid (l = l1 ++ (L.take i).map (iFact a)) := hl
          have hll : l.length ≤ 2441 := by rw [hl]; simp; omega
          have HTI2 : Hid (TeF w w4 v5 l u5 wr) := by rw [hl]; exact HTI.out
          have hwsi := HTI2.out.te.bel.size
          clear hn hl hbc HTI
          obtain ⟨t0', hi0, hy0, hy1, hy2⟩ := info_parts infFact8
          go_wp2_with (at_builtin; refine wpList_append_lies _ rfl _ _ 43 rfl w.heap.size 62 t0' (.agg #[.int .i64 0, .int .i64 0, .bool false, .int .i64 0, .int .u32 0]) 5 40 Tryz.underlying43 hi0 hy0 hy1 hy2 rfl (by decide) u5 l.length (l.flatMap factCs) rfl (World.ownsRow.alloc HTI2.out.te.own _) ⟨wr.heap.size, 0, none⟩ 1 1 [.int .i64 a.kind, .int .i64 a.n, .bool false, .int .i64 0, .int .u32 n] rfl rfl ?c1 ?c2 (by decide) ?c3 ?c4 ?c5 _ rfl ?_)
          case c1 => exact World.news_of_block (cs := #[.int .i64 a.kind, .int .i64 a.n, .bool false, .int .i64 0, .int .u32 n]) (t := 62) (fr := (0, 0)) (by have := heap_alloc_new wr (.cells #[.int .i64 a.kind, .int .i64 a.n, .bool false, .int .i64 0, .int .u32 n] 62); simpa using this)
          case c2 => simp [Value.oneCell']
          case c3 => unfold maxLen; omega
          case c4 => omega
          case c5 => first | omega | (simp; omega)
          intro g9 cap9 w9 hown hgrow hat hlt9
          have hat2 : u5.ownBlock = some g9 ∨ g9 = (wr.alloc (.cells #[.int .i64 a.kind, .int .i64 a.n, .bool false, .int .i64 0, .int .u32 n] 62)).heap.size := by simpa using hat
          have hP := (HTI2.out.below ((Below.refl _ _).alloc (Nat.le_refl _) (.cells #[.int .i64 a.kind, .int .i64 a.n, .bool false, .int .i64 0, .int .u32 n] 62))).push (f := iFact a n) hown hgrow hat2
          have HP : Hid (TeF w w4 v5 (l ++ [iFact a n]) (.slice (some ⟨g9, 0, none⟩) (l.length + 1) cap9) w9) := hP
          clear hP hown hgrow hat hat2
          go_wp2
          have hgk := HGI.out
          go_roundg (gk - 1)
          case measure => omega
          case rel =>
            refine ⟨i + 1, by go_num, by omega, by omega, ?_⟩
            rw [take_one' hil, List.map_append, ← List.append_assoc, ← HLL.out, ← HN.out]
            exact HP.out
        obtain rfl : i = L.length := by omega
        have hiz : ¬ (L.length : Int) < (L.length : Int) := by omega
        obtain ⟨l2, hl2⟩ : ∃ l, l = l1 ++ tellI N m a := ⟨_, rfl⟩
        have HL2 : Hid (l2 = l1 ++ tellI N m a) := hl2
        have hl2l : l2.length ≤ 2441 := by rw [hl2, List.length_append]; have := tellI_len N m a; omega
        have HT2 : Hid (TeF w w4 v5 l2 u5 wr) := by
          have h := HTI.out
          rw [List.take_length, HL.out, HYI.out] at h
          rw [hl2]
          exact h
        have p0r := (HW.out.below HT2.out.te.bel).stat.p0
        have hgqr := cell_lt p0r
        clear hl2 HTI HGI
        go_wp2
        clear p0r
        obtain ⟨wp, hwp⟩ : ∃ x, x = wr := ⟨_, rfl⟩
        obtain ⟨vP, hvP⟩ : ∃ x, x = u5 := ⟨_, rfl⟩
        obtain ⟨gP, hgP⟩ : ∃ x, x = gk := ⟨_, rfl⟩
        subst hwp hvP hgP
        go_loopg [5, 14, 82] (B.length + 1) (fun gg x5 x14 x wq => ∃ (t : Nat), x = .int .i64 t ∧ t ≤ B.length ∧ gg = B.length + 1 - t ∧ TeF w w4 v5 (l2 ++ tellH m a t) x5 wq)
        case atStart => exact ⟨0, rfl, by omega, by omega, by simpa [tellH] using HT2.out⟩
        case round =>
          obtain ⟨t, rfl, ht, hgk, htf⟩ := hrel
          have HGI : Hid (gk = B.length + 1 - t) := hgk
          obtain ⟨l, hl⟩ : ∃ l, l = l2 ++ tellH m a t := ⟨_, rfl⟩
          have HLL : Hid (l = l2 ++ tellH m a t) := hl
          have hll : l.length ≤ 2453 := by rw [hl, List.length_append]; have := tellH_len m a t; omega
          have HTI : Hid (TeF w w4 v5 l u5 wr) := by rw [hl]; exact htf
          have hwsi := htf.te.bel.size
          clear hgk htf hl
          by_cases htl : t < B.length
          case neg =>
            obtain rfl : t = B.length := by omega
            have htz : ¬ (B.length : Int) < (B.length : Int) := by omega
            go_wp2
            have hgk := HGJ.out
            go_roundg (gO - 1)
            case measure => omega
            case rel =>
              refine ⟨j + 1, by go_num, by omega, by omega, ?_⟩
              have h := HTI.out.te
              rw [HLL.out, HL2.out, HL1.out] at h
              rw [tellP_step N m B.length hjl, ← HA.out]
              unfold tellP1
              simpa [List.append_assoc] using h
          have htz : (t : Int) < (B.length : Int) := by omega
          have d3 := HTI.out.cell HV3.out HNE2.out
          have d1 := HTI.out.cell HV1.out HNE1.out
          have d2 := HTI.out.cell HV2.out HNE1.out
          have hbl2 := cell_lt d1
          have hbl3 := cell_lt d3
          obtain ⟨z, hz⟩ : ∃ z, z = xh.getLsbD t := ⟨_, rfl⟩
          have HZ : Hid (z = (m.has a).getLsbD t) := by rw [← HXH.out]; exact hz
          have c := containsO xh t (by omega) wr
          rw [← hz] at c
          clear hz
          go_upto_if 88 with (go_at_call 30; refine c.mono ?_; rintro e w1 ⟨rfl, hw1⟩; obtain rfl := hw1.symm; clear hw1)
          clear c
          rcases Bool.eq_false_or_eq_true z with hz | hz
          · subst hz
            obtain ⟨t0', hi0, hy0, hy1, hy2⟩ := info_parts infFact8
            go_wp2_with (at_builtin; refine wpList_append_lies _ rfl _ _ 43 rfl w.heap.size 62 t0' (.agg #[.int .i64 0, .int .i64 0, .bool false, .int .i64 0, .int .u32 0]) 5 40 Tryz.underlying43 hi0 hy0 hy1 hy2 rfl (by decide) u5 l.length (l.flatMap factCs) rfl (World.ownsRow.alloc HTI.out.te.own _) ⟨wr.heap.size, 0, none⟩ 1 1 [.int .i64 a.kind, .int .i64 a.n, .bool true, .int .i64 (t : Int), .int .u32 0] rfl rfl ?c1 ?c2 (by decide) ?c3 ?c4 ?c5 _ rfl ?_)
            case c1 => exact World.news_of_block (cs := #[.int .i64 a.kind, .int .i64 a.n, .bool true, .int .i64 (t : Int), .int .u32 0]) (t := 62) (fr := (0, 0)) (by have := heap_alloc_new wr (.cells #[.int .i64 a.kind, .int .i64 a.n, .bool true, .int .i64 (t : Int), .int .u32 0] 62); simpa using this)
            case c2 => simp [Value.oneCell']
            case c3 => unfold maxLen; omega
            case c4 => omega
            case c5 => first | omega | (simp; omega)
            intro g9 cap9 w9 hown hgrow hat hlt9
            have hat2 : u5.ownBlock = some g9 ∨ g9 = (wr.alloc (.cells #[.int .i64 a.kind, .int .i64 a.n, .bool true, .int .i64 (t : Int), .int .u32 0] 62)).heap.size := by simpa using hat
            have hP := (HTI.out.below ((Below.refl _ _).alloc (Nat.le_refl _) (.cells #[.int .i64 a.kind, .int .i64 a.n, .bool true, .int .i64 (t : Int), .int .u32 0] 62))).push (f := hFact a t) hown hgrow hat2
            have HP : Hid (TeF w w4 v5 (l ++ [hFact a t]) (.slice (some ⟨g9, 0, none⟩) (l.length + 1) cap9) w9) := hP
            clear hP hown hgrow hat hat2
            go_wp2
            have hgk := HGI.out
            go_roundg (gk - 1)
            case measure => omega
            case rel =>
              refine ⟨t + 1, by go_num, by omega, by omega, ?_⟩
              rw [tellH_step, if_pos HZ.out.symm, ← List.append_assoc, ← HLL.out]
              exact HP.out
          · subst hz
            go_wp2
            have hgk := HGI.out
            go_roundg (gk - 1)
            case measure => omega
            case rel =>
              refine ⟨t + 1, by go_num, by omega, by omega, ?_⟩
              rw [tellH_step, ← HZ.out, if_neg (by simp), List.append_nil, ← HLL.out]
              exact HTI.out
end Go.Proofs.YtcmnmogmdhofcaaGreat.form
