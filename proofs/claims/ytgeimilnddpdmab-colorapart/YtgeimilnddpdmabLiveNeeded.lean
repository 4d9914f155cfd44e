/- The document's function that tells whether a temporary is needed ahead of an instruction (loanbookref4.Needed): a search along the ways. -/
import Derived.Test.YtgeimilnddpdmabLiveRef
import Derived.Test.YtgeimilnddpdmabLiveBits
namespace Go.Proofs.Ytgeimilnddpdmab.form
open Go.RowKit
set_option linter.unusedVariables false
attribute [local go_sem ↓] Go.wp_at_zero Go.wp_at_succ

/-- What lies in memory while the search goes on. -/
structure NS (w : World) (b1 o1 c1 : Nat) (C : List LIns) (come : List Bool) (way : List Nat) (v : Value) (wr : World) : Prop where
  bel : Below w.heap.size w wr
  p1 : wr.cell? ⟨w.heap.size, 1, none⟩ = some (.slice (some ⟨b1, o1, none⟩) C.length c1)
  cm : Row wr (w.heap.size + 1) 4 (come.map Value.bool)
  own : wr.ownsRow (w.heap.size + 2) 3 1 v way.length (way.map natV)

section
variable {w : World} {b1 o1 c1 : Nat} {C : List LIns} {come : List Bool} {way : List Nat} {v : Value} {wr w1 : World}

theorem NS.below (h : NS w b1 o1 c1 C come way v wr) (hb : Below wr.heap.size wr w1) : NS w b1 o1 c1 C come way v w1 :=
  ⟨step_below hb h.bel, step_cell hb h.p1, h.cm.below hb, World.ownsRow.kept h.own ⟨hb.os, hb.tape, hb.output, hb.size, fun j hj _ => hb.block j hj⟩ (row := none) (by cases v.ownBlock <;> simp)⟩
theorem NS.ownNe (h : NS w b1 o1 c1 C come way v wr) {b : Nat} (hb : b < w.heap.size + 2) : v.ownBlock ≠ some b := fun e => by have := (World.ownsRow.lt h.own _ e).1; omega
theorem NS.form (h : NS w b1 o1 c1 C come way v wr) (hn : 0 < way.length) : ∃ g cap, v = .slice (some ⟨g, 0, none⟩) way.length cap ∧ w.heap.size + 2 ≤ g ∧ g < wr.heap.size ∧ ∀ j, j < way.length → wr.cell? ⟨g, j, none⟩ = some (.int .i64 (way.getD j 0)) := by
  obtain ⟨g, cap, rfl, hbg, hlt⟩ := h.own.form hn
  refine ⟨g, cap, rfl, hbg, hlt, fun j hj => ?_⟩
  rw [World.ownsRow.cellAt h.own j (by omega)]
  simp [List.getD, hj, natV]
theorem NS.setCome (h : NS w b1 o1 c1 C come way v wr) (y : Nat) : NS w b1 o1 c1 C (come.set y true) way v (wr.setCell ⟨w.heap.size + 1, y, none⟩ (.bool true)) :=
  ⟨h.bel.setCell (by simp) _, cell_other h.p1 (by simp), by have := h.cm.set y (.bool true); simpa [List.map_set] using this, ownsRow_setCell_other h.own (h.ownNe (by dsimp only; omega)) _⟩
theorem NS.push (h : NS w b1 o1 c1 C come way v wr) {y g cap : Nat} (hz : w.heap.size + 2 ≤ wr.heap.size)
    (hown : w1.ownsRow (w.heap.size + 2) 3 1 (.slice (some ⟨g, 0, none⟩) (way.length + 1) cap) (way.length + 1) (way.map natV ++ [.int .i64 y])) (hgrow : wr.grownBy w1 v.ownBlock) :
    NS w b1 o1 c1 C come (way ++ [y]) (.slice (some ⟨g, 0, none⟩) (way.length + 1) cap) w1 :=
  ⟨h.bel.grown hgrow (by omega) (fun j hj => by have := (World.ownsRow.lt h.own _ hj).1; omega), by rw [hgrow.cell_far _ (by dsimp only; omega) (Ne.symm (h.ownNe (by dsimp only; omega)))]; exact h.p1, h.cm.grown hgrow (Ne.symm (h.ownNe (by omega))), by simpa [natV] using hown⟩
end

/-- The answer. -/
def NeedAns (C : List LIns) (t : Int) (s : Nat) (e : Ending) : Prop := ∃ b, e = .returned (.bool b) ∧ (b = true ↔ Need C t s)

theorem ns_start (w : World) (b0 o0 c0 b1 o1 c1 : Nat) (nB : Nat) (C : List LIns) (s : Nat) :
    NS w b1 o1 c1 C ((List.replicate C.length false).set s true) [s] (.slice (some ⟨w.heap.size + 1 + 1, 0, none⟩) 1 1)
      (((w.alloc (.cells #[.slice (some ⟨b0, o0, none⟩) nB c0, .slice (some ⟨b1, o1, none⟩) C.length c1] 25)).alloc (.cells ((madeCells #[.bool false] C.length).setIfInBounds s (.bool true)) 4)).alloc (.cells #[.int .i64 s] 3)) := by
  have e : (((List.replicate C.length false).map Value.bool).toArray).setIfInBounds s (.bool true) = (((List.replicate C.length false).set s true).map Value.bool).toArray := by rw [List.setIfInBounds_toArray, List.map_set]
  rw [made_bool, e]
  refine ⟨(((Below.refl _ _).alloc (Nat.le_refl _) _).alloc (by simp) _).alloc (by simp; omega) _, by simp [go_sem], ?_, ?_⟩
  · have := (Row.new (w.alloc (.cells #[.slice (some ⟨b0, o0, none⟩) nB c0, .slice (some ⟨b1, o1, none⟩) C.length c1] 25)) 4 (((List.replicate C.length false).set s true).map Value.bool)).alloc (.cells #[.int .i64 s] 3)
    simpa using this
  · refine ⟨by simp, Or.inr ⟨w.heap.size + 2, 1, #[.int .i64 s], rfl, Nat.le_refl _, ?_, by simp, by unfold maxLen; omega, by simp, by simp [natV]⟩⟩
    have := heap_alloc_new ((w.alloc (.cells #[.slice (some ⟨b0, o0, none⟩) nB c0, .slice (some ⟨b1, o1, none⟩) C.length c1] 25)).alloc (.cells (((List.replicate C.length false).set s true).map Value.bool).toArray 4)) (.cells #[.int .i64 s] 3)
    simpa using this

set_option maxRecDepth 100000 in
set_option maxHeartbeats 4000000 in
theorem needed4 (b0 o0 c0 b1 o1 c1 : Nat) (B : List Bool) (C : List LIns) (s : Nat) (t : Int) (w : World) (hC : C.length ≤ 40) (h : Held w b0 o0 b1 o1 B C) (hok : ∀ k, k < C.length → InsOk B.length C.length (C.getD k .zero)) (hs : s < C.length) :
    Calls Try.prog 61 #[progV b0 o0 B.length c0 b1 o1 C.length c1, .int .i64 s, .int .i64 t] w fun e w' => NeedAns C t s e ∧ Below w.heap.size w w' := by
  have HOK : Hid _ := hok
  have HH : Hid (Held w b0 o0 b1 o1 B C) := h
  have hmk := fun wx => run_make_row' (P := Try.prog) 22 4 (.bool false) 1 Try.underlying22 infBool rfl .i64 .i64 C.length (by omega) (by omega) wx
  have y0 : (s : Int) < (C.length : Int) := by omega
  have y1 : (0 : Int) ≤ (s : Int) := by omega
  have y2 : (C.length : Int) ≤ 40 := by omega
  have hb1 := h.lt1
  have hmc : (madeCells #[Value.bool false] C.length)[s]? = some (.bool false) := by rw [made_bool]; simp [hs]
  clear hok h
  unfold progV
  go_enter Try.func61, Try.ntmps61
  go_wp2
  rw [show decide (C.length ≤ s) = false by simp; omega]
  go_loopw [8, 9] (fun v kv wr => ∃ (k : Nat) (come : List Bool) (way : List Nat) (v0 : Value), v0 = v ∧ kv = .int .i64 k ∧ k ≤ way.length ∧ NS w b1 o1 c1 C come way v wr ∧ Srch C t s come way k) (fun _ kv _ => C.length - (intOf kv).toNat)
  case atStart => exact ⟨0, _, [s], _, rfl, rfl, by simp, ns_start w b0 o0 c0 b1 o1 c1 B.length C s, srch_start C t s hs⟩
  case round =>
    obtain ⟨k, come, way, v, rfl, rfl, hk, hns, hsr⟩ := hrel
    have HNS : Hid (NS w b1 o1 c1 C come way v wr) := hns
    have HSR : Hid (Srch C t s come way k) := hsr
    have hwl := hsr.len
    have hwp : 0 < way.length := List.length_pos_of_mem hsr.st
    obtain ⟨g, cap, rfl, hg1, hg2, hgc⟩ := hns.form hwp
    have HGC : Hid (∀ j, j < way.length → wr.cell? ⟨g, j, none⟩ = some (.int .i64 (way.getD j 0))) := hgc
    have z1 : (way.length : Int) ≤ 40 := by omega
    by_cases hlt : k < way.length
    case neg =>
      have e1 : ¬ (k : Int) < (way.length : Int) := by omega
      clear hns hsr hgc
      go_wp2
      go_ret
      exact ⟨⟨false, rfl, by simp; exact HSR.out.none (by omega)⟩, HNS.out.bel⟩
    have hxm : way.getD k 0 ∈ way := by simp [List.getD, hlt]
    have hxl := hsr.inb _ hxm
    obtain ⟨x, hx⟩ : ∃ x, x = way.getD k 0 := ⟨_, rfl⟩
    have HX : Hid (way.getD k 0 = x) := hx.symm
    have hgk := hgc k hlt
    rw [← hx] at hxl hgk
    obtain ⟨d0, d1, d2, d3, d4, d5⟩ := (HH.out.later hns.bel).code x hxl
    obtain ⟨i, hi⟩ : ∃ i, i = C.getD x .zero := ⟨_, rfl⟩
    rw [← hi] at d0 d1 d2 d3 d4 d5
    have HI : Hid (C.getD x .zero = i) := hi.symm
    have p1 := hns.p1
    have e1 : (k : Int) < (way.length : Int) := by omega
    have e0 : (0 : Int) ≤ (k : Int) := by omega
    have f1 : (x : Int) < (C.length : Int) := by omega
    have f0 : (0 : Int) ≤ (x : Int) := by omega
    have hsz := hns.bel.size
    have hcz := hns.cm.lt
    have hb1' : b1 < wr.heap.size := by omega
    have ne1 : ¬ wr.heap.size = b1 := by omega
    have ne2 : ¬ wr.heap.size = w.heap.size := by omega
    have ne3 : ¬ wr.heap.size = g := by omega
    clear hns hsr hgc hx hi hxm
    go_wp2
    go_region_held3 (fun w' => w'.cell? ⟨w.heap.size, 1, none⟩ = some (.slice (some ⟨b1, o1, none⟩) C.length c1) ∧ w'.cell? ⟨g, k, none⟩ = some (.int .i64 x) ∧ w'.cell? ⟨b1, o1 + x * 6, none⟩ = some (.int .i64 i.op) ∧ w'.cell? ⟨b1, o1 + x * 6 + 1, none⟩ = some (.int .i64 i.dest) ∧ w'.cell? ⟨b1, o1 + x * 6 + 2, none⟩ = some (.int .i64 i.a) ∧ w'.cell? ⟨b1, o1 + x * 6 + 3, none⟩ = some (.int .i64 i.b) ∧ w'.cell? ⟨b1, o1 + x * 6 + 4, none⟩ = some (.int .i64 i.c) ∧ w'.cell? ⟨b1, o1 + x * 6 + 5, none⟩ = some (.int .u32 i.n))
      (go_keep)
      (fail)
    rename_i hHeldx
    clear hHeldx d0 d1 d2 d3 d4 d5
    have HN1 : Hid (NS w b1 o1 c1 C come way (.slice (some ⟨g, 0, none⟩) way.length cap) ((wr.alloc (.cells #[.int .i64 i.op, .int .i64 i.dest, .int .i64 i.a, .int .i64 i.b, .int .i64 i.c, .int .u32 i.n] 69)).drew)) := HNS.out.below (((Below.refl _ _).alloc (Nat.le_refl _) _).drew)
    have HR1 : Hid (Row ((wr.alloc (.cells #[.int .i64 i.op, .int .i64 i.dest, .int .i64 i.a, .int .i64 i.b, .int .i64 i.c, .int .u32 i.n] 69)).drew) wr.heap.size 69 [.int .i64 i.op, .int .i64 i.dest, .int .i64 i.a, .int .i64 i.b, .int .i64 i.c, .int .u32 i.n]) := Row.new wr _ _
    rcases (show takesI i t = true ∨ (takesI i t = false ∧ givesB i.op = true ∧ (i.dest == t) = true) ∨ (takesI i t = false ∧ givesB i.op = true ∧ (i.dest == t) = false) ∨ (takesI i t = false ∧ givesB i.op = false) by cases takesI i t <;> cases givesB i.op <;> cases (i.dest == t) <;> simp) with ht | ⟨ht, hg, hd⟩ | ⟨ht, hg, hd⟩ | ⟨ht, hg⟩
    case inl =>
      have HT : Hid (takesI i t = true) := ht
      clear ht
      go_wp2_with (go_at_call 97; refine (takes4 i t _).mono ?_; rw [HT.out]; rintro e w2 ⟨rfl, hb2⟩)
      go_ret
      refine ⟨⟨true, rfl, by simp; exact HSR.out.found hlt (by rw [HX.out, HI.out]; exact HT.out)⟩, step_below hb2 HN1.out.bel⟩
    case inr.inl =>
      have HT : Hid (takesI i t = false) := ht
      have HG : Hid (givesB i.op = true) := hg
      clear ht hg
      go_wp2_with (first
        | (go_at_call 97; refine (takes4 i t _).mono ?_; rw [HT.out]; rintro e w2 ⟨rfl, hb2⟩; have hr2 := HR1.out.below hb2; have i0 : w2.cell? ⟨wr.heap.size, 0, none⟩ = some (.int .i64 i.op) := hr2.cell 0; have i1 : w2.cell? ⟨wr.heap.size, 1, none⟩ = some (.int .i64 i.dest) := hr2.cell 1; clear hr2)
        | (go_at_call 30; refine (gives _ _).mono ?_; rw [HG.out]; rintro e w' ⟨rfl, rfl⟩))
      go_roundw
      case rel => exact ⟨k + 1, come, way, _, rfl, by go_num, by omega, HN1.out.below hb2, HSR.out.next (by rw [HX.out, HI.out]; exact HT.out) (Or.inl (by rw [HX.out, HI.out]; unfold givesT; rw [HG.out, hd]; rfl))⟩
      case measure => simp [intOf]; omega
    all_goals
      have HT : Hid (takesI i t = false) := ht
      have HGT : Hid (givesT i t = false) := by show givesT i t = false; unfold givesT; simp_all
      obtain ⟨gb, hgb⟩ : ∃ gb, gb = givesB i.op := ⟨_, rfl⟩
      have HG : Hid (givesB i.op = gb) := hgb.symm
      rw [hg] at hgb
      subst hgb
      clear ht hg
      go_wp2_with (first
        | (go_at_call 97; refine (takes4 i t _).mono ?_; rw [HT.out]; rintro e w2 ⟨rfl, hb2⟩; have hr2 := HR1.out.below hb2; have i0 : w2.cell? ⟨wr.heap.size, 0, none⟩ = some (.int .i64 i.op) := hr2.cell 0; have i1 : w2.cell? ⟨wr.heap.size, 1, none⟩ = some (.int .i64 i.dest) := hr2.cell 1; have i2 : w2.cell? ⟨wr.heap.size, 2, none⟩ = some (.int .i64 i.a) := hr2.cell 2; have i3 : w2.cell? ⟨wr.heap.size, 3, none⟩ = some (.int .i64 i.b) := hr2.cell 3; have i4 : w2.cell? ⟨wr.heap.size, 4, none⟩ = some (.int .i64 i.c) := hr2.cell 4; have i5 : w2.cell? ⟨wr.heap.size, 5, none⟩ = some (.int .u32 i.n) := hr2.cell 5; have hgk2 : w2.cell? ⟨g, k, none⟩ = some (.int .i64 x) := step_cell hb2 (step_cell (((Below.refl _ _).alloc (Nat.le_refl _) _).drew) hgk); clear hr2)
        | (go_at_call 30; refine (gives _ _).mono ?_; rw [HG.out]; rintro e w' ⟨rfl, rfl⟩))
      go_region_held3 (fun w' => w'.cell? ⟨g, k, none⟩ = some (.int .i64 x) ∧ w'.cell? ⟨wr.heap.size, 0, none⟩ = some (.int .i64 i.op) ∧ w'.cell? ⟨wr.heap.size, 1, none⟩ = some (.int .i64 i.dest) ∧ w'.cell? ⟨wr.heap.size, 2, none⟩ = some (.int .i64 i.a) ∧ w'.cell? ⟨wr.heap.size, 3, none⟩ = some (.int .i64 i.b) ∧ w'.cell? ⟨wr.heap.size, 4, none⟩ = some (.int .i64 i.c) ∧ w'.cell? ⟨wr.heap.size, 5, none⟩ = some (.int .u32 i.n))
        ((go_split_ands; refine ⟨?_, ?_, ?_, ?_, ?_, ?_, ?_⟩ <;> first | exact step_cell hb3 (by assumption) | go_keep))
        ((go_at_call 62; refine (nexts2 i x (by omega) _).mono ?_; rintro e w3 ⟨⟨nv, rfl, hnv⟩, hb3⟩; have HNV : Hid _ := hnv; obtain ⟨nao, ncap, rfl, -⟩ := hnv))
      rename_i hHeldx
      clear hHeldx i0 i1 i2 i3 i4 i5 hgk2
      have HN3 : Hid (NS w b1 o1 c1 C come way (.slice (some ⟨g, 0, none⟩) way.length cap) w3) := (HN1.out.below hb2).below (((Below.refl _ _).drew).trans hb3)
      have hgw2 : g < w'.heap.size := by have := hb2.size; simp [World.drew] at this; omega
      have HNB : Hid (∀ q, q ∈ nextsI i x → 0 ≤ q ∧ q ≤ C.length) := nexts_bd (by have := HOK.out x hxl; rwa [HI.out] at this) hxl
      have hnl : (nextsI i x).length ≤ 2 := nexts_len i x
      have z3 : ((nextsI i x).length : Int) ≤ 2 := by omega
      obtain ⟨N, hN⟩ : ∃ N, N = nextsI i x := ⟨_, rfl⟩
      rw [← hN] at hnl z3 HNB HNV
      have HN : Hid (nextsI i x = N) := hN.symm
      clear hN
      have HW3 : Hid (0 < N.length → ∃ gb, nao = some ⟨gb, 0, none⟩ ∧ w.heap.size + 2 ≤ gb ∧ gb < w3.heap.size ∧ g ≠ gb ∧ ∀ q, q < N.length → w3.cell? ⟨gb, q, none⟩ = some (.int .i64 (N.getD q 0))) := by
        intro h0
        obtain ⟨_, _, he, hh⟩ := HNV.out
        simp at he
        obtain ⟨rfl, rfl⟩ := he
        obtain ⟨gb, e1, e2, e3, e4⟩ := hh h0
        have : w'.drew.heap.size = w'.heap.size := rfl
        exact ⟨gb, e1, by omega, e3, by omega, e4⟩
      clear HNV
      rw [HN.out]
      go_wp2
      go_loopw [8, 12] (fun v jv wr => ∃ (j : Nat) (come : List Bool) (way : List Nat) (v0 : Value), v0 = v ∧ jv = .int .i64 j ∧ j ≤ N.length ∧ NS w b1 o1 c1 C come way v wr ∧ Srch C t s come way k ∧ k < way.length ∧ way.getD k 0 = x ∧ (∀ q, q < j → (N.getD q 0).toNat < C.length → (N.getD q 0).toNat ∈ way) ∧
          (0 < N.length → ∃ gb, nao = some ⟨gb, 0, none⟩ ∧ w.heap.size + 2 ≤ gb ∧ gb < wr.heap.size ∧ v.ownBlock ≠ some gb ∧ ∀ q, q < N.length → wr.cell? ⟨gb, q, none⟩ = some (.int .i64 (N.getD q 0)))) (fun _ jv _ => N.length - (intOf jv).toNat)
      case atStart =>
        refine ⟨0, come, way, _, rfl, rfl, by omega, HN3.out, HSR.out, hlt, HX.out, fun q hq => absurd hq (by omega), fun h0 => ?_⟩
        obtain ⟨gb, e1, e2, e3, e4, e5⟩ := HW3.out h0
        exact ⟨gb, e1, e2, e3, by simp [Value.ownBlock]; exact e4, e5⟩
      case round =>
        obtain ⟨j, come2, way2, v2, rfl, rfl, hj, hns2, hsr2, hk2, hx2, hall2, hnx2⟩ := hrel
        have HNS2 : Hid (NS w b1 o1 c1 C come2 way2 v2 wr) := hns2
        have HSR2 : Hid (Srch C t s come2 way2 k) := hsr2
        have HALL : Hid (∀ q, q < j → (N.getD q 0).toNat < C.length → (N.getD q 0).toNat ∈ way2) := hall2
        have HX2 : Hid (way2.getD k 0 = x) := hx2
        have HNX : Hid (0 < N.length → ∃ gb, nao = some ⟨gb, 0, none⟩ ∧ w.heap.size + 2 ≤ gb ∧ gb < wr.heap.size ∧ v2.ownBlock ≠ some gb ∧ ∀ q, q < N.length → wr.cell? ⟨gb, q, none⟩ = some (.int .i64 (N.getD q 0))) := hnx2
        have hwl2 := hsr2.len
        have hcl := hsr2.clen
        have hmark := hsr2.mark
        have HMARK : Hid (∀ x, x < C.length → (come2.getD x false = true ↔ x ∈ way2)) := hmark
        have p1 := hns2.p1
        have HCM : Hid (Row wr (w.heap.size + 1) 4 (come2.map Value.bool)) := hns2.cm
        have hcz2 := hns2.cm.lt
        have HOW : Hid (wr.ownsRow (w.heap.size + 2) 3 1 v2 way2.length (way2.map natV)) := hns2.own
        clear hns2 hsr2 hall2 hnx2 hx2 hmark
        by_cases hjl : j < N.length
        case neg =>
          have y9 : ¬ (j : Int) < (N.length : Int) := by omega
          go_wp2
          go_roundw
          case rel =>
            refine ⟨k + 1, come2, way2, _, rfl, by go_num, by omega, HNS2.out, HSR2.out.next (by rw [HX2.out, HI.out]; exact HT.out) (Or.inr ?_)⟩
            rw [HX2.out, HI.out]
            unfold nextsN
            rw [HN.out]
            exact nexts_all (P := fun y => y < C.length → y ∈ way2) (fun q hq => HALL.out q (by omega))
          case measure => simp [intOf]; omega
        obtain ⟨gb, rfl, hgb1, hgb2, hgb3, hgbc⟩ := HNX.out (by omega)
        have nj := hgbc j hjl
        have hmem : N.getD j 0 ∈ N := by simp [List.getD, hjl]
        have hyb := HNB.out _ hmem
        obtain ⟨Y, hY⟩ : ∃ Y : Nat, N.getD j 0 = Y := Int.eq_ofNat_of_zero_le hyb.1
        rw [hY] at nj
        have HY : Hid (N.getD j 0 = (Y : Int)) := hY
        have HGBC : Hid (∀ q, q < N.length → wr.cell? ⟨gb, q, none⟩ = some (.int .i64 (N.getD q 0))) := hgbc
        have y8 : (j : Int) < (N.length : Int) := by omega
        have y7 : (0 : Int) ≤ (j : Int) := by omega
        have y6 : (0 : Int) ≤ (Y : Int) := by omega
        clear hgbc hmem hY
        by_cases hYl : Y < C.length
        case neg =>
          have y5 : ¬ (Y : Int) < (C.length : Int) := by omega
          go_wp2
          go_quiet (fail)
          go_wp2
          refine ⟨⟨j + 1, come2, way2, _, rfl, by go_num, by omega, HNS2.out.below (below_drewN (Below.refl _ _) _), HSR2.out, hk2, HX2.out, fun q hq hql => ?_, fun _ => ⟨gb, rfl, hgb1, hgb2, hgb3, fun q hq => HGBC.out q hq⟩⟩, by simp [intOf]; omega⟩
          by_cases hqj : q < j
          · exact HALL.out q hqj hql
          · obtain rfl : q = j := by omega
            rw [HY.out] at hql ⊢
            exact absurd hql (by simp; omega)
        have y5 : (Y : Int) < (C.length : Int) := by omega
        have cc : wr.cell? ⟨w.heap.size + 1, Y, none⟩ = some (.bool (come2.getD Y false)) := by rw [HCM.out.cell]; simp [List.getD, hcl, hYl]
        rcases Bool.eq_false_or_eq_true (come2.getD Y false) with hcy | hcy
        · have HCY : Hid (come2.getD Y false = true) := hcy
          rw [hcy] at cc
          clear hcy
          go_wp2
          go_quiet (fail)
          go_wp2
          refine ⟨⟨j + 1, come2, way2, _, rfl, by go_num, by omega, HNS2.out.below (below_drewN (Below.refl _ _) _), HSR2.out, hk2, HX2.out, fun q hq hql => ?_, fun _ => ⟨gb, rfl, hgb1, hgb2, hgb3, fun q hq => HGBC.out q hq⟩⟩, by simp [intOf]; omega⟩
          by_cases hqj : q < j
          · exact HALL.out q hqj hql
          · obtain rfl : q = j := by omega
            rw [HY.out] at hql ⊢
            exact (HMARK.out Y hYl).1 HCY.out
        · have HCY : Hid (come2.getD Y false = false) := hcy
          rw [hcy] at cc
          have fz := HCM.out.frozen Y
          obtain ⟨t0', hi0, hy0, hy1, hy2⟩ := info_parts infInt
          have hgbne : gb ≠ w.heap.size + 1 := by omega
          clear hcy
          go_wp2
          go_quiet (fail)
          have nj2 : ((wr.drewN nq).setCell ⟨w.heap.size + 1, Y, none⟩ (.bool true)).cell? ⟨gb, j, none⟩ = some (.int .i64 Y) := cell_other nj hgbne
          have HNX2 : Hid (NS w b1 o1 c1 C (come2.set Y true) way2 v2 ((wr.drewN nq).setCell ⟨w.heap.size + 1, Y, none⟩ (.bool true))) := (HNS2.out.below (below_drewN (Below.refl _ _) nq)).setCome Y
          go_wp2_with (at_builtin; refine wpList_append_lies _ rfl _ _ 62 rfl (w.heap.size + 2) 3 t0' (.int .i64 0) 1 8 Try.underlying62 hi0 hy0 hy1 hy2 rfl (by decide) v2 way2.length (way2.map natV) rfl (World.ownsRow.alloc HNX2.out.own _) ⟨wr.heap.size, 0, none⟩ 1 1 [.int .i64 Y] rfl rfl ?c1 ?c2 (by decide) ?c3 ?c4 ?c5 _ rfl ?_)
          case c1 => exact World.news_of_block (cs := #[.int .i64 Y]) (t := 3) (fr := (0, 0)) (by have := heap_alloc_new ((wr.drewN nq).setCell ⟨w.heap.size + 1, Y, none⟩ (.bool true)) (.cells #[.int .i64 Y] 3); simpa using this)
          case c2 => simp [Value.oneCell']
          case c3 => unfold maxLen; omega
          case c4 => omega
          case c5 => simp; omega
          intro g9 cap9 w9 hown hgrow hat hlt9
          have hP := (HNX2.out.below ((Below.refl _ _).alloc (Nat.le_refl _) (.cells #[.int .i64 Y] 3))).push (by simp; omega) hown hgrow
          have hxm2 : x ∈ way2 := by rw [← HX2.out]; simp [List.getD, hk2]
          have hyN : Y ∈ nextsN (C.getD x .zero) x := by
            rw [HI.out]
            unfold nextsN
            rw [HN.out]
            exact List.mem_map.2 ⟨N.getD j 0, by simp [List.getD, hjl], by rw [HY.out]; simp⟩
          have hS := HSR2.out.push (by omega) hxm2 (by rw [HI.out]; exact HGT.out) hyN hYl HCY.out
          have hN9 : ∃ gb', some (⟨gb, 0, none⟩ : Addr) = some ⟨gb', 0, none⟩ ∧ w.heap.size + 2 ≤ gb' ∧ gb' < w9.heap.size ∧ (Value.slice (some ⟨g9, 0, none⟩) (way2.length + 1) cap9).ownBlock ≠ some gb' ∧ ∀ q, q < N.length → w9.cell? ⟨gb', q, none⟩ = some (.int .i64 (N.getD q 0)) := by
            have hz9 : wr.heap.size < w9.heap.size := by have := hgrow.size; simp at this; omega
            refine ⟨gb, rfl, hgb1, by omega, ?_, fun q hq => ?_⟩
            · simp only [Value.ownBlock, ne_eq, Option.some.injEq]
              rcases hat with hat | hat
              · intro e; rw [e] at hat; exact hgb3 hat
              · omega
            · rw [hgrow.cell_far _ (by simp; omega) (Ne.symm hgb3)]
              exact step_cell ((Below.refl _ _).alloc (Nat.le_refl _) _) (cell_other (HGBC.out q hq) hgbne)
          have R : Hid (NS w b1 o1 c1 C (come2.set Y true) (way2 ++ [Y]) (.slice (some ⟨g9, 0, none⟩) (way2.length + 1) cap9) w9) := hP
          have RS : Hid (Srch C t s (come2.set Y true) (way2 ++ [Y]) k) := hS
          have RN : Hid (∃ gb', some (⟨gb, 0, none⟩ : Addr) = some ⟨gb', 0, none⟩ ∧ w.heap.size + 2 ≤ gb' ∧ gb' < w9.heap.size ∧ (Value.slice (some ⟨g9, 0, none⟩) (way2.length + 1) cap9).ownBlock ≠ some gb' ∧ ∀ q, q < N.length → w9.cell? ⟨gb', q, none⟩ = some (.int .i64 (N.getD q 0))) := hN9
          clear hP hS hN9 hown hgrow hat
          go_wp2
          refine ⟨⟨j + 1, come2.set Y true, way2 ++ [Y], _, rfl, by go_num, by omega, R.out, RS.out, by simp; omega, by rw [getD_append_left hk2]; exact HX2.out, fun q hq hql => ?_, fun _ => RN.out⟩, by simp [intOf]; omega⟩
          by_cases hqj : q < j
          · exact List.mem_append.2 (Or.inl (HALL.out q hqj hql))
          · obtain rfl : q = j := by omega
            rw [HY.out]
            simp

end Go.Proofs.Ytgeimilnddpdmab.form
