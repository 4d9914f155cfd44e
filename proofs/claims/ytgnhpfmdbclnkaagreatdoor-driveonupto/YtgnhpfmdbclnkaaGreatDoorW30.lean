/- What the document's run (loanbookref3.Play) shows: the machine on plain numbers, so many steps. -/
import Derived.Deep.OwnRows
import Derived.Deep.DeepCutAuto
import Derived.BigRegion
import Derived.Test.YtgnhpfmdbclnkaaGreatDoorW09
import Derived.Test.YtgnhpfmdbclnkaaGreatDoorW29
import Derived.Test.YtgnhpfmdbclnkaaGreatDoorW18
import Derived.Test.YtgnhpfmdbclnkaaGreatDoorW27
import Derived.Test.YtgnhpfmdbclnkaaGreatDoorW12
import Derived.Test.YtgnhpfmdbclnkaaGreatDoorW28

namespace Go.Proofs.YtgnhpfmdbclnkaaGreatDoor
set_option linter.unusedVariables false
namespace form
open Go.RowKit num
attribute [local go_sem ↓] Go.wp_at_zero Go.wp_at_succ
section
variable {w : World} {b0 o0 c0 b1 o1 c1 : Nat} {B : List Bool} {C : List LIns} {ts : List Int} {v : Value} {l : List Int} {st k : Int} {wr w1 : World}
end
theorem own_form32 {w : World} {base : Nat} {e : TypeId} {v : Value} {xs : List Int} (h : w.ownsRow base e 1 v xs.length (xs.map (Value.int .u32))) :
    ∃ ao cap, v = .slice ao xs.length cap ∧ (0 < xs.length → ∃ b o, ao = some ⟨b, o, none⟩ ∧ base ≤ b ∧ b < w.heap.size ∧ ∀ j, j < xs.length → w.cell? ⟨b, o + j, none⟩ = some (.int .u32 (xs.getD j 0))) := by
  by_cases hn : 0 < xs.length
  · obtain ⟨g, cap, rfl, hbg, hlt⟩ := h.form hn
    refine ⟨_, cap, rfl, fun _ => ⟨g, 0, rfl, hbg, hlt, fun j hj => ?_⟩⟩
    rw [Nat.zero_add, World.ownsRow.cellAt h j (by omega)]
    simp [List.getD, hj]
  · rcases h.2 with ⟨rfl, h0⟩ | ⟨g, cap, cur, rfl, _⟩
    · exact ⟨none, 0, by rw [h0], fun hh => absurd hh hn⟩
    · exact ⟨_, cap, rfl, fun hh => absurd hh hn⟩
end form
/- The program's own run.Run: what is wrong, or what the machine on plain numbers shows. -/
namespace form
open Go.RowKit num
attribute [local go_sem ↓] Go.wp_at_zero Go.wp_at_succ
theorem infoFunc : (Tryz.prog.info? 1).map (fun i => (i.zero, i.size, i.bytes)) = some (some .nilFunc, 1, 8) := by kernel_rfl
theorem made_func (n : Nat) : madeCells #[Value.nilFunc] n = (List.replicate n Value.nilFunc).toArray := by
  apply Array.toList_inj.1
  rw [toList_madeCells_one]
structure DeedsS (K : StoK) (w : World) (mb sb : Nat) (C : List LIns) (E : Nat → Eff K.S) (k : Nat) (cs : List Value) (wr : World) : Prop where
  bel : Below w.heap.size w wr
  row : Row wr w.heap.size 1 cs
  len : cs.length = C.length
  spec : ∀ j, j < k → ∃ F caps, cs.getD j .nilFunc = .func (.func F) #[] caps ∧ DeedSpec K mb sb w.heap.size (C.getD j .zero) (E j) wr F caps
theorem deeds_start (K : StoK) (w : World) (mb sb : Nat) (C : List LIns) (E : Nat → Eff K.S) : DeedsS K w mb sb C E 0 (List.replicate C.length .nilFunc) (w.alloc (.cells (madeCells #[Value.nilFunc] C.length) 1)) :=
  ⟨(Below.refl _ _).alloc (Nat.le_refl _) _, by rw [made_func]; exact Row.new w _ _, by simp, fun j hj => absurd hj (by omega)⟩
theorem deeds_step {K : StoK} {w : World} {mb sb : Nat} {C : List LIns} {E : Nat → Eff K.S} {k : Nat} {cs : List Value} {wr w1 : World} (h : DeedsS K w mb sb C E k cs wr) (hlt : k < C.length) (hb : Below wr.heap.size wr w1) {F : Nat} {caps : Array Value} (hs : DeedSpec K mb sb w.heap.size (C.getD k .zero) (E k) w1 F caps) :
    DeedsS K w mb sb C E (k + 1) (cs.set k (.func (.func F) #[] caps)) (w1.setCell ⟨w.heap.size, k, none⟩ (.func (.func F) #[] caps)) := by
  have hln := h.len
  refine ⟨(step_below hb h.bel).setCell (by simp) _, (h.row.below hb).set k _, by simp [hln], fun j hj => ?_⟩
  have hz1 : (w1.setCell ⟨w.heap.size, k, none⟩ (.func (.func F) #[] caps)).heap.size = w1.heap.size := by simp [World.setCell]
  by_cases hjk : j = k
  · subst hjk
    refine ⟨F, caps, by simp [List.getD, hln, hlt], hs.later (Kept.set _ _ _) (by omega)⟩
  · obtain ⟨F', caps', e, hs'⟩ := h.spec j (by omega)
    refine ⟨F', caps', ?_, (hs'.later (Kept.of_below hb) hb.size).later (Kept.set _ _ _) (by omega)⟩
    rw [← e]
    simp [List.getD, Ne.symm hjk]
theorem start_ms {K : StoK} {w w' : World} {mb sb base : Nat} {iv : Value} {I : List Int} {s : K.S} (hr : Row w mb 99 (macV 0 0 0 (.slice none 0 0) iv)) (hn : InNew w mb iv I) (hb : Below w.heap.size w w') (hs : Row w' sb K.T (K.enc s)) (hk : K.ok s) (h40 : I.length ≤ 40) (hI : ∀ j, j < I.length → 0 ≤ I.getD j 0 ∧ I.getD j 0 < 4294967296)
    (hsb : mb < sb) (hz : sb < base) (hsz : base ≤ w'.heap.size) : MS K mb sb base s (.slice none 0 0) [] 0 0 iv I 0 w' :=
  ⟨hr.below hb, hs, hk, by omega, by omega, hz, hsz, World.ownsRow_nil _ _ _ _, hn.ins hb h40 hI hsb (by omega)⟩
theorem temps_start (n : Nat) (h : n ≤ 12) : (tempK n).ok (List.replicate n (0 : Int)) := by
  refine ⟨by simp, fun j => ?_⟩
  have : (List.replicate n (0 : Int)).getD j 0 = 0 := by by_cases hj : j < n <;> simp [List.getD, hj]
  rw [this]
  exact ⟨by omega, by omega⟩
theorem arr_start (n : Nat) (h : n ≤ 12) : arr (List.replicate n 0) = List.replicate 12 0 := by
  unfold arr
  rw [List.length_replicate, List.replicate_append_replicate, show n + (12 - n) = 12 by omega]
set_option maxRecDepth 100000 in
set_option maxHeartbeats 1000000 in
theorem runRun_no (v : Value) (B : List Bool) (C : List LIns) (iv : Value) (I : List Int) (steps : Int) (w : World) (h : ProgIs w v B C) (hI : InArg w iv I) (hx0 : ¬ wrongI B C I.length steps = 0) :
    Calls Tryz.prog 12 #[v, iv, .int .i64 steps] w fun e w' =>
      (∃ sv, e = .returned (.tuple #[sv, .int .i64 (wrongI B C I.length steps)]) ∧ ShownIs w' sv (resM B C I steps).state (resM B C I steps).out (resM B C I steps).steps) ∧ Below w.heap.size w w' := by
  have h0 := h
  obtain ⟨⟨a0, c0, a1, c1, rfl, -⟩, -, -, -⟩ := h0
  have HP : Hid (ProgIs w (.agg #[.slice a0 B.length c0, .slice a1 C.length c1]) B C) := h
  obtain ⟨ai, ci, rfl, -, -, -, -⟩ := hI
  have hres : resM B C I steps = ⟨0, [], 0, [], 0, 0⟩ := by unfold resM; rw [if_neg hx0]
  rw [hres]
  have hs := may_same B C
  have HS : Hid (mayB B C = refMayB B C) := hs
  have HW : Hid (Below w.heap.size w ((w.alloc (.cells #[.slice a0 B.length c0, .slice a1 C.length c1] 28)).alloc (.cells #[.int .i64 0, .slice none 0 0, .int .i64 0] 47))) := ((Below.refl _ _).alloc (Nat.le_refl _) _).alloc (by simp) _
  have hwr := wrongN_of (B := B) (C := C) (nI := I.length) (steps := steps)
  have HSH : Hid (∀ w' : World, ShownIs w' (.agg #[.int .i64 0, .slice none 0 0, .int .i64 0]) 0 [] 0) := fun w' => ⟨_, rfl, none, 0, rfl, by simp, fun hh => absurd hh (by simp)⟩
  clear hres hs h
  cases hm : refMayB B C with
  | false =>
    rw [hm, if_neg (by simp)] at hwr
    rw [hwr]
    have HM : Hid (refMayB B C = false) := hm
    clear hwr hm hx0
    go_enter Tryz.func12, Tryz.ntmps12
    go_wp2_with fail
    go_at_call 28
    refine (may _ B C _ (HP.out.later HW.out)).mono ?_
    rw [HS.out, HM.out]
    rintro e w1 ⟨rfl, hb1⟩
    have hr1 := (Row.new (w.alloc (.cells #[.slice a0 B.length c0, .slice a1 C.length c1] 28)) 47 [.int .i64 0, .slice none 0 0, .int .i64 0]).below hb1
    simp at hr1
    have f0 := hr1.frozen 0
    have f1 := hr1.frozen 1
    have f2 := hr1.frozen 2
    have r0 := hr1.cell 0
    have r1 := hr1.cell 1
    have r2 := hr1.cell 2
    simp at r0 r1 r2
    have HR1 : Hid (Row w1 (w.heap.size + 1) 47 [.int .i64 0, .slice none 0 0, .int .i64 0]) := hr1
    have HB1 : Hid (Below w.heap.size w w1) := step_below hb1 HW.out
    clear hr1 hb1
    go_wp2
    have r3 := ((HR1.out.set 0 (.int .i64 0)).set 1 (.slice none 0 0)).set 2 (.int .i64 0)
    have g0 := r3.cell 0
    have g1 := r3.cell 1
    have g2 := r3.cell 2
    simp at g0 g1 g2
    refine bodyPost_ret (v := .tuple #[.agg #[.int .i64 0, .slice none 0 0, .int .i64 0], .int .i64 2]) ?_ rfl ⟨⟨_, rfl, HSH.out _⟩, ?_⟩
    · simp [results, Tryz.results12, go_sem, g0, g1, g2]
    · exact ((HB1.out.setCell (by dsimp only; omega) _).setCell (by dsimp only; omega) _).setCell (by dsimp only; omega) _
  | true =>
    rw [hm, if_pos rfl] at hwr
    rw [hwr] at hx0 ⊢
    have HM : Hid (refMayB B C = true) := hm
    clear hwr hm
    obtain ⟨x, hx⟩ : ∃ x, x = wrongN I.length steps := ⟨_, rfl⟩
    rw [← hx] at hx0 ⊢
    have HX : Hid (wrongN I.length steps = x) := hx.symm
    have e1 : (x != 0) = true := by simp [hx0]
    clear hx hx0
    go_enter Tryz.func12, Tryz.ntmps12
    go_wp2_with fail
    go_at_call 28
    refine (may _ B C _ (HP.out.later HW.out)).mono ?_
    rw [HS.out, HM.out]
    rintro e w1 ⟨rfl, hb1⟩
    have hr1 := (Row.new (w.alloc (.cells #[.slice a0 B.length c0, .slice a1 C.length c1] 28)) 47 [.int .i64 0, .slice none 0 0, .int .i64 0]).below hb1
    simp at hr1
    have f0 := hr1.frozen 0
    have f1 := hr1.frozen 1
    have f2 := hr1.frozen 2
    have r0 := hr1.cell 0
    have r1 := hr1.cell 1
    have r2 := hr1.cell 2
    simp at r0 r1 r2
    have HR1 : Hid (Row w1 (w.heap.size + 1) 47 [.int .i64 0, .slice none 0 0, .int .i64 0]) := hr1
    have HB1 : Hid (Below w.heap.size w w1) := step_below hb1 HW.out
    clear hr1 hb1
    go_wp2_with (go_at_call 29; refine (wrongO _ _ _ _ _).mono ?_; rw [HX.out]; rintro e w2 ⟨rfl, hw2⟩; obtain rfl := hw2.symm)
    have r3 := ((HR1.out.set 0 (.int .i64 0)).set 1 (.slice none 0 0)).set 2 (.int .i64 0)
    have g0 := r3.cell 0
    have g1 := r3.cell 1
    have g2 := r3.cell 2
    simp at g0 g1 g2
    refine bodyPost_ret (v := .tuple #[.agg #[.int .i64 0, .slice none 0 0, .int .i64 0], .int .i64 x]) ?_ rfl ⟨⟨_, rfl, HSH.out _⟩, ?_⟩
    · simp [results, Tryz.results12, go_sem, g0, g1, g2]
    · exact ((HB1.out.setCell (by dsimp only; omega) _).setCell (by dsimp only; omega) _).setCell (by dsimp only; omega) _
end form
/- The program's own run.Run, where nothing is wrong: it shows what the machine on plain numbers shows. -/
namespace form
open Go.RowKit num
attribute [local go_sem ↓] Go.wp_at_zero Go.wp_at_succ
theorem wok_act {B : List Bool} {nC : Nat} {i : LIns} {s : List Int} {x : Int} (h : insB B nC i = true) (hi : InsOk B.length nC i) (hl : s.length = B.length) (hb : ∀ j, U64i (s.getD j 0)) (hw : WOk B s) (hx0 : 0 ≤ x) (hx1 : x < 4294967296) : WOk B ((tempE i).act i s x) := by
  show WOk B (if givesB i.op = true then s.set i.dest.toNat (gvI i (s.getD i.a.toNat 0) (s.getD i.b.toNat 0) x) else s)
  split
  · rename_i hg
    obtain ⟨hd0, hd1⟩ := hi.d hg
    intro j hj hB
    by_cases hjd : i.dest.toNat = j
    · rw [show (s.set i.dest.toNat (gvI i (s.getD i.a.toNat 0) (s.getD i.b.toNat 0) x)).getD j 0 = gvI i (s.getD i.a.toNat 0) (s.getD i.b.toNat 0) x by rw [hjd]; simp [List.getD, hl, hj]]
      exact wok_give h hi hw hb hx0 hx1 hg (by rw [hjd]; exact hB)
    · have := hw j hj hB
      generalize i.dest.toNat = d at hjd ⊢
      simpa [List.getD, hjd] using this
  · exact hw
set_option maxRecDepth 100000 in
set_option maxHeartbeats 4000000 in
theorem runRun_yes (v : Value) (B : List Bool) (C : List LIns) (iv : Value) (I : List Int) (steps : Int) (w : World) (h : ProgIs w v B C) (hI : InArg w iv I) (hx : wrongI B C I.length steps = 0) :
    Calls Tryz.prog 12 #[v, iv, .int .i64 steps] w fun e w' =>
      (∃ sv, e = .returned (.tuple #[sv, .int .i64 (wrongI B C I.length steps)]) ∧ ShownIs w' sv (resM B C I steps).state (resM B C I steps).out (resM B C I steps).steps) ∧ Below w.heap.size w w' := by
  have HIA : Hid (InArg w iv I) := hI
  have h0 := h
  obtain ⟨⟨a0, c0, a1, c1, rfl, hh⟩, -, -, hnum⟩ := h0
  have HP : Hid (ProgIs w (.agg #[.slice a0 B.length c0, .slice a1 C.length c1]) B C) := h
  obtain ⟨ai, ci, rfl, -, -, hib, -⟩ := hI
  have HIB : Hid (∀ j, j < I.length → 0 ≤ I.getD j 0 ∧ I.getD j 0 < 4294967296) := hib
  obtain ⟨hmay, h40, hs0, hs1⟩ := wrong_zero hx
  have hsz : sizesB B C = true := by unfold refMayB at hmay; simp only [Bool.and_eq_true] at hmay; exact hmay.1
  obtain ⟨s1, s2, s3, s4⟩ := sizes_of hsz
  obtain ⟨b0, o0, b1, o1, rfl, rfl, hheld⟩ := hh s1 s3
  have HHE : Hid (Held w b0 o0 b1 o1 B C) := hheld
  have HOK : Hid (∀ k, k < C.length → InsOk B.length C.length (C.getD k .zero)) := all_insOk hmay hnum
  have hinsB : ∀ k, k < C.length → insB B C.length (C.getD k .zero) = true := by
    intro k hk
    unfold refMayB at hmay
    simp only [Bool.and_eq_true] at hmay
    exact List.all_eq_true.1 hmay.2 (C.getD k .zero) (by simp [List.getD, hk])
  have HINS : Hid (∀ k, k < C.length → insB B C.length (C.getD k .zero) = true) := hinsB
  obtain ⟨n, hn⟩ : ∃ n : Nat, steps = n := Int.eq_ofNat_of_zero_le hs0
  subst hn
  have hres : resM B C I n = playM B C I n := by unfold resM; rw [if_pos hx]; simp
  have HMW : Hid (mayB B C = true) := by show mayB B C = true; rw [may_same, hmay]
  have HWN : Hid (wrongN I.length n = 0) := by
    have := wrongN_of (B := B) (C := C) (nI := I.length) (steps := (n : Int))
    rw [hmay, if_pos rfl, hx] at this
    exact this.symm
  rw [hres, hx]
  have hb1 := hheld.lt1
  have HW : Hid (Below w.heap.size w ((w.alloc (.cells #[.slice (some ⟨b0, o0, none⟩) B.length c0, .slice (some ⟨b1, o1, none⟩) C.length c1] 28)).alloc (.cells #[.int .i64 0, .slice none 0 0, .int .i64 0] 47))) := ((Below.refl _ _).alloc (Nat.le_refl _) _).alloc (by simp) _
  have z40 : (C.length : Int) ≤ 40 := by omega
  have z3 : (n : Int) ≤ 3000 := by omega
  have hmk := fun wx => run_make_row' (P := Tryz.prog) 90 1 .nilFunc 8 Tryz.underlying90 infoFunc rfl .i64 .i64 C.length (by omega) (by omega) wx
  clear hmay hsz hheld hinsB hres hnum hh hib hx h hs0 hs1
  go_enter Tryz.func12, Tryz.ntmps12
  go_wp2_with fail
  go_at_call 28
  refine (may _ B C _ (HP.out.later HW.out)).mono ?_
  rw [HMW.out]
  rintro e w1 ⟨rfl, hb1w⟩
  have hr1 := (Row.new (w.alloc (.cells #[.slice (some ⟨b0, o0, none⟩) B.length c0, .slice (some ⟨b1, o1, none⟩) C.length c1] 28)) 47 [.int .i64 0, .slice none 0 0, .int .i64 0]).below hb1w
  simp at hr1
  have HR1 : Hid (Row w1 (w.heap.size + 1) 47 [.int .i64 0, .slice none 0 0, .int .i64 0]) := hr1
  have HC1 : Hid (w1.cell? ⟨w.heap.size, 1, none⟩ = some (.slice (some ⟨b1, o1, none⟩) C.length c1)) := step_cell hb1w (by simp [go_sem])
  have HB1 : Hid (Below w.heap.size w w1) := step_below hb1w HW.out
  have hz1 : w.heap.size + 1 < w1.heap.size := hr1.lt
  clear hr1 hb1w
  go_wp2_with fail
  go_at_call 29
  refine (wrongO _ _ _ _ _).mono ?_
  rw [HWN.out]
  rintro e w1' ⟨rfl, hw2⟩
  obtain rfl := hw2.symm
  clear hw2
  go_wp2_with fail
  go_at_call 30
  refine (newMachine _ I _ (HIA.out.later HB1.out) h40).mono ?_
  rintro e w2 ⟨mb, iv', rfl, hm1, hm2, hrow, hnew, hb2⟩
  have cp2 := step_cell hb2 HC1.out
  have HR2 : Hid (Row w2 (w.heap.size + 1) 47 [.int .i64 0, .slice none 0 0, .int .i64 0]) := HR1.out.below hb2
  have HB2 : Hid (Below w.heap.size w w2) := step_below hb2 HB1.out
  have HROW : Hid (Row w2 mb 99 (macV 0 0 0 (.slice none 0 0) iv')) := hrow
  have HNEW : Hid (InNew w2 mb iv' I) := hnew
  have hz2 : w.heap.size + 1 < w2.heap.size := HR2.out.lt
  have q0 : w.heap.size < w2.heap.size := by omega
  have q1 : w.heap.size < w2.heap.size + 1 := by omega
  have HM2 : Hid (w2.heap.size = mb + 1) := hm2
  have hmlt : mb < w2.heap.size := by omega
  clear hrow hnew hb2 hm2
  obtain ⟨W0, hW0⟩ : ∃ W0, W0 = w2.alloc (.cells #[.int .u64 0, .int .u64 0, .int .u64 0, .int .u64 0, .int .u64 0, .int .u64 0, .int .u64 0, .int .u64 0, .int .u64 0, .int .u64 0, .int .u64 0, .int .u64 0] 89) := ⟨_, rfl⟩
  have hW0z : W0.heap.size = w2.heap.size + 1 := by rw [hW0]; simp
  have HBW0 : Hid (Below w2.heap.size w2 W0) := by rw [hW0]; exact (Below.refl _ _).alloc (Nat.le_refl _) _
  have HSTO : Hid (Row W0 w2.heap.size 89 ((tempK B.length).enc (List.replicate B.length (0 : Int)))) := by
    show Row W0 w2.heap.size 89 ((arr (List.replicate B.length 0)).map (Value.int .u64))
    rw [arr_start _ s2, hW0]
    exact Row.new w2 _ _
  have HD0 : Hid (DeedsS (tempK B.length) W0 mb w2.heap.size C (fun k => tempE (C.getD k .zero)) 0 (List.replicate C.length .nilFunc) (W0.alloc (.cells (madeCells #[Value.nilFunc] C.length) 1))) := deeds_start _ _ _ _ _ _
  go_wp2
  rw [← hW0]
  go_loopw [36] (fun t wr => ∃ (k : Nat) (cs : List Value), k ≤ C.length ∧ t = .int .i64 k ∧ DeedsS (tempK B.length) W0 mb w2.heap.size C (fun k => tempE (C.getD k .zero)) k cs wr) (fun t _ => C.length - (intOf t).toNat)
  case atStart => exact ⟨0, _, by omega, rfl, HD0.out⟩
  case round =>
    obtain ⟨k, cs, hk, rfl, hds⟩ := hrel
    have HD : Hid (DeedsS (tempK B.length) W0 mb w2.heap.size C (fun k => tempE (C.getD k .zero)) k cs wr) := hds
    have hBz := hds.bel.size
    have HBR : Hid (Below w.heap.size w wr) := step_below hds.bel (step_below HBW0.out HB2.out)
    by_cases hlt : k < C.length
    case neg =>
      obtain rfl : k = C.length := by omega
      have y9 : ¬ (C.length : Int) < (C.length : Int) := by omega
      clear hds
      have hroww := HD.out.row
      have hmsw : MS (tempK B.length) mb w2.heap.size wr.heap.size (List.replicate B.length (0 : Int)) (.slice none 0 0) [] 0 0 iv' I 0 wr :=
        start_ms HROW.out HNEW.out (step_below HD.out.bel HBW0.out) (HSTO.out.below HD.out.bel) (temps_start _ s2) h40 HIB.out hmlt (by omega) (Nat.le_refl _)
      have HMSW : Hid _ := hmsw
      have HR3 : Hid (Row wr (w.heap.size + 1) 47 [.int .i64 0, .slice none 0 0, .int .i64 0]) := HR2.out.below (step_below HD.out.bel HBW0.out)
      have HGO : Hid (Calls Tryz.prog 33 #[.pointer (some ⟨mb, 0, none⟩), .slice (some ⟨w2.heap.size + 1, 0, none⟩) C.length C.length, .int .i64 n] wr fun e w' =>
          e = .returned (.tuple #[]) ∧ Stopped (tempK B.length) mb w2.heap.size wr.heap.size (playM B C I n).gen wr w') := by
        show Calls _ _ _ _ _
        rw [play_gen, ← hW0z]
        exact goOn (tempK B.length) (WOk B) mb w2.heap.size W0.heap.size n B.length C (fun k => tempE (C.getD k .zero)) I (List.replicate B.length (0 : Int)) cs _ _ wr s3 s4 (by omega) HOK.out HIB.out (fun j hj s x h1 h2 h3 h4 => wok_act (HINS.out j hj) (HOK.out j hj) h2.1 h2.2 h1 h3 h4) (fun j hj h5 s h1 h2 => pair_narrow (HINS.out j hj) (HOK.out j hj) h1 h5) (wok_start B) HD.out.row HD.out.len HD.out.spec HD.out.row.lt (by omega) (by omega) HMSW.out
      clear hroww hmsw
      go_wp2_with fail
      go_at_call 33
      refine Calls.mono HGO.out ?_
      rintro e w3 ⟨rfl, ⟨ts, ov, iv3, I3, pc3, hms3⟩, hran⟩
      have hms4 : MS (tempK B.length) mb w2.heap.size wr.heap.size ts ov (playM B C I n).out (playM B C I n).state (playM B C I n).steps iv3 I3 pc3 w3 := hms3
      clear hms3
      obtain ⟨ao, cap, hov, hcells⟩ := own_form32 hms4.own
      subst hov
      have m0 := hms4.cst
      have m1 := hms4.cov
      have m2 := hms4.ck
      have hr3 : Row w3 (w.heap.size + 1) 47 [.int .i64 0, .slice none 0 0, .int .i64 0] := by
        have := HR3.out
        unfold Row at *
        rw [hran.block _ (by omega) (by omega) (by omega)]
        exact this
      have HRS : Hid (Row w3 (w.heap.size + 1) 47 [.int .i64 0, .slice none 0 0, .int .i64 0]) := hr3
      have f0 := hr3.frozen 0
      have f1 := hr3.frozen 1
      have f2 := hr3.frozen 2
      have r0 := hr3.cell 0
      have r1 := hr3.cell 1
      have r2 := hr3.cell 2
      simp at r0 r1 r2
      have hbw3 : Below w.heap.size w w3 := HBR.out.trans ⟨hran.os, hran.tape, hran.output, hran.size, fun j hj => hran.block j (by have := HBR.out.size; omega) (by omega) (by omega)⟩
      have HBW3 : Hid (Below w.heap.size w w3) := hbw3
      have HCE : Hid _ := hcells
      have HML : Hid ((playM B C I n).out.length ≤ 1000000) := by
        have := play_outs B C I n
        show _ ≤ _
        omega
      have HLE : Hid (w.heap.size + 1 < wr.heap.size) := HR3.out.lt
      clear hcells hbw3 hr3 hms4 hran
      generalize hM : playM B C I n = M at m0 m1 m2 HCE HML
      have HM : Hid (playM B C I n = M) := hM
      clear hM
      go_wp2
      have rr := ((HRS.out.set 0 (.int .i64 M.state)).set 1 (.slice ao M.out.length cap)).set 2 (.int .i64 M.steps)
      have g0 := rr.cell 0
      have g1 := rr.cell 1
      have g2 := rr.cell 2
      simp at g0 g1 g2
      refine bodyPost_ret (v := .tuple #[.agg #[.int .i64 M.state, .slice ao M.out.length cap, .int .i64 M.steps], .int .i64 0]) ?_ rfl ⟨⟨_, rfl, ?_⟩, ?_⟩
      · simp [results, Tryz.results12, go_sem, g0, g1, g2]
      · rw [HM.out]
        refine ⟨_, rfl, ao, cap, rfl, HML.out, fun hp => ?_⟩
        obtain ⟨gb, go, e, hgb, hgl, hgc⟩ := HCE.out hp
        refine ⟨gb, go, e, by simpa [World.setCell] using hgl, fun j hj => ?_⟩
        have hne : gb ≠ w.heap.size + 1 := by have := HLE.out; omega
        exact cell_other (cell_other (cell_other (hgc j hj) hne) hne) hne
      · exact ((HBW3.out.setCell (by dsimp only; omega) _).setCell (by dsimp only; omega) _).setCell (by dsimp only; omega) _
    obtain ⟨d0, d1, d2, d3, d4, d5⟩ := (HHE.out.later HBR.out).code k hlt
    have hio := HOK.out k hlt
    have hiu := known_of (HINS.out k hlt)
    obtain ⟨i, hi⟩ : ∃ i, i = C.getD k .zero := ⟨_, rfl⟩
    rw [← hi] at d0 d1 d2 d3 d4 d5 hio hiu
    have HI : Hid (i = C.getD k .zero) := hi
    have HIO : Hid (InsOk B.length C.length i) := hio
    have HIU : Hid (10 < i.op → 21 ≤ i.op) := hiu
    have y1 : (k : Int) < (C.length : Int) := by omega
    have hrl := hds.row.lt
    have hln := hds.len
    have y3 : w2.heap.size + 1 ≠ wr.heap.size := by omega
    have y4 : w2.heap.size + 1 < wr.heap.size := by omega
    clear hi hio hiu hds hBz
    go_wp2
    obtain ⟨WA, hWA⟩ : ∃ WA, WA = wr.alloc (.cells #[.int .i64 i.op, .int .i64 i.dest, .int .i64 i.a, .int .i64 i.b, .int .i64 i.c, .int .u32 i.n] 45) := ⟨_, rfl⟩
    have HAB : Hid (Below wr.heap.size wr WA) := by rw [hWA]; exact (Below.refl _ _).alloc (Nat.le_refl _) _
    have i0 : WA.cell? ⟨wr.heap.size, 0, none⟩ = some (.int .i64 i.op) := by rw [hWA]; simp [go_sem]
    have i1 : WA.cell? ⟨wr.heap.size, 1, none⟩ = some (.int .i64 i.dest) := by rw [hWA]; simp [go_sem]
    have i2 : WA.cell? ⟨wr.heap.size, 2, none⟩ = some (.int .i64 i.a) := by rw [hWA]; simp [go_sem]
    have i3 : WA.cell? ⟨wr.heap.size, 3, none⟩ = some (.int .i64 i.b) := by rw [hWA]; simp [go_sem]
    have i4 : WA.cell? ⟨wr.heap.size, 4, none⟩ = some (.int .i64 i.c) := by rw [hWA]; simp [go_sem]
    have i5 : WA.cell? ⟨wr.heap.size, 5, none⟩ = some (.int .u32 i.n) := by rw [hWA]; simp [go_sem]
    have hWAz : WA.heap.size = wr.heap.size + 1 := by rw [hWA]; simp
    rw [← hWA]
    clear hWA d0 d1 d2 d3 d4 d5
    go_region_held3 (fun w' => w'.cell? ⟨wr.heap.size, 0, none⟩ = some (.int .i64 i.op) ∧ w'.cell? ⟨wr.heap.size, 1, none⟩ = some (.int .i64 i.dest) ∧ w'.cell? ⟨wr.heap.size, 2, none⟩ = some (.int .i64 i.a) ∧ w'.cell? ⟨wr.heap.size, 3, none⟩ = some (.int .i64 i.b) ∧ w'.cell? ⟨wr.heap.size, 4, none⟩ = some (.int .i64 i.c) ∧ w'.cell? ⟨wr.heap.size, 5, none⟩ = some (.int .u32 i.n))
      ((go_split_ands; refine ⟨?_, ?_, ?_, ?_, ?_, ?_⟩ <;> first | assumption | exact step_cell hbc (by assumption) | exact cell_other (by assumption) (Ne.symm y3) | (go_keep; done)))
      (first
        | (have hgd := HE; clear hgd; go_at_call 31; refine (deed (mb := mb) (sb := w2.heap.size) (db := W0.heap.size) HIO.out HIU.out _ (by omega) (by omega) (by omega) HE.out).mono ?_; rintro e wb ⟨⟨F, caps, rfl, hds⟩, hbc⟩; have HDS : Hid _ := hds; have HBB : Hid _ := hbc; have hrb : Row wb (w2.heap.size + 1) 1 cs := (by rw [← hW0z]; exact ((HD.out.row.below HAB.out).below HBA.out).below hbc); have fz := hrb.frozen k; have cz := hrb.cell k; rw [List.getElem?_eq_getElem (by omega)] at cz; clear hds hrb)
        | (go_at_call 32; refine (tempEnds (mb := mb) (sb := w2.heap.size) (db := W0.heap.size) C.length HIO.out s2 _ (by simp; omega) (by simp; omega) (by simp; omega)).mono ?_; rintro e wa ⟨⟨x, rfl, hE⟩, hbc⟩; have HE : Hid _ := hE; have HBA : Hid (Below WA.heap.size WA wa) := (step_below hbc (Below.refl _ _).drew); have hwaz := HBA.out.size; clear hE))
    go_wp2
    have hbw : Below wr.heap.size wr wb := step_below HBB.out (step_below HBA.out HAB.out)
    have hsp : DeedSpec (tempK B.length) mb w2.heap.size W0.heap.size (C.getD k .zero) (tempE (C.getD k .zero)) wb F caps := by rw [← HI.out]; exact HDS.out
    have hst := deeds_step HD.out hlt hbw hsp
    rw [hW0z] at hst
    exact ⟨⟨k + 1, _, by omega, by go_num, hst⟩, by simp [intOf]; omega⟩
theorem runRun (v : Value) (B : List Bool) (C : List LIns) (iv : Value) (I : List Int) (steps : Int) (w : World) (h : ProgIs w v B C) (hI : InArg w iv I) :
    Calls Tryz.prog 12 #[v, iv, .int .i64 steps] w fun e w' =>
      (∃ sv, e = .returned (.tuple #[sv, .int .i64 (wrongI B C I.length steps)]) ∧ ShownIs w' sv (resM B C I steps).state (resM B C I steps).out (resM B C I steps).steps) ∧ Below w.heap.size w w' := by
  by_cases hx : wrongI B C I.length steps = 0
  · exact runRun_yes v B C iv I steps w h hI hx
  · exact runRun_no v B C iv I steps w h hI hx
end form
/- Registers and slots of the program's own (package done): a store in one block; what is in a place (in), what becomes of it (become). -/
namespace form
open Go.RowKit num
set_option maxRecDepth 100000
attribute [local go_sem ↓] Go.wp_at_zero Go.wp_at_succ
def padL (n : Nat) (l : List Int) : List Int := l ++ List.replicate (n - l.length) 0
theorem padL_len {n : Nat} {l : List Int} (h : l.length ≤ n) : (padL n l).length = n := by unfold padL; simp; omega
theorem padL_getD {n : Nat} {l : List Int} {j : Nat} (hj : j < l.length) : (padL n l)[j]? = some (l.getD j 0) := by
  unfold padL
  rw [List.getElem?_append_left hj]
  simp [List.getD, hj]
theorem padL_set {n : Nat} {l : List Int} {j : Nat} {v : Int} (hj : j < l.length) : (padL n l).set j v = padL n (l.set j v) := by
  unfold padL
  simp [hj]
def stoE (st : Sto) : List Value := (padL 16 st.sing).map (Value.int .u32) ++ (padL 12 st.slot).map (Value.int .u64)
def stoK (ns nl : Nat) : StoK := ⟨Sto, 113, stoE, StoAt ns nl⟩
section
variable {ns nl sb : Nat} {st : Sto} {w : World}
theorem sing_at (h : Row w sb 113 (stoE st)) (ho : StoOk st) {j : Nat} (hj : j < st.sing.length) : w.cell? ⟨sb, j, none⟩ = some (.int .u32 (st.sing.getD j 0)) := by
  have hl := padL_len ho.n1
  have h16 := ho.n1
  rw [h.cell]
  unfold stoE
  rw [List.getElem?_append_left (by simp [hl]; omega), List.getElem?_map, padL_getD hj]
  rfl
theorem slot_at (h : Row w sb 113 (stoE st)) (ho : StoOk st) {j : Nat} (hj : j < st.slot.length) : w.cell? ⟨sb, 16 + j, none⟩ = some (.int .u64 (st.slot.getD j 0)) := by
  have hl := padL_len ho.n1
  rw [h.cell]
  unfold stoE
  rw [List.getElem?_append_right (by simp [hl]), List.getElem?_map]
  simp only [List.length_map, hl]
  rw [show 16 + j - 16 = j by omega, padL_getD hj]
  rfl
theorem sing_set (h : Row w sb 113 (stoE st)) (ho : StoOk st) {j : Nat} (hj : j < st.sing.length) (v : Int) : Row (w.setCell ⟨sb, j, none⟩ (.int .u32 v)) sb 113 (stoE ⟨st.sing.set j v, st.slot⟩) := by
  have hl := padL_len ho.n1
  have h16 := ho.n1
  have := h.set j (.int .u32 v)
  have e : (stoE st).set j (.int .u32 v) = stoE ⟨st.sing.set j v, st.slot⟩ := by
    unfold stoE
    rw [List.set_append_left _ _ (by simp [hl]; omega), ← List.map_set, padL_set hj]
  rwa [e] at this
theorem slot_set (h : Row w sb 113 (stoE st)) (ho : StoOk st) {j : Nat} (hj : j < st.slot.length) (v : Int) : Row (w.setCell ⟨sb, 16 + j, none⟩ (.int .u64 v)) sb 113 (stoE ⟨st.sing, st.slot.set j v⟩) := by
  have hl := padL_len ho.n1
  have := h.set (16 + j) (.int .u64 v)
  have e : (stoE st).set (16 + j) (.int .u64 v) = stoE ⟨st.sing, st.slot.set j v⟩ := by
    unfold stoE
    rw [List.set_append_right _ _ (by simp [hl]), ← List.map_set]
    simp only [List.length_map, hl]
    rw [show 16 + j - 16 = j by omega, padL_set hj]
  rwa [e] at this
end
section
variable {ns nl sb : Nat} {st : Sto} {w : World}
def PlIs (ns nl : Nat) (p : LPlace) : Prop := isB ns nl p = true ∨ (p.kind = 0 ∧ p.n = 0)
theorem pl_is_cases {p : LPlace} (h : StoAt ns nl st) (hp : PlIs ns nl p) : (p.kind = 1 ∧ 0 ≤ p.n ∧ p.n < st.sing.length) ∨ (p.kind = 2 ∧ 0 ≤ p.n ∧ 2 * p.n + 1 < st.sing.length) ∨ (p.kind = 3 ∧ 0 ≤ p.n ∧ p.n < st.slot.length) ∨ p.kind = 0 := by
  refine pl_cases h.ok ?_
  unfold PlOk
  rw [h.sl, h.ll]
  exact hp
set_option maxHeartbeats 1000000 in
theorem inO (p : LPlace) (h : Row w sb 113 (stoE st)) (hs : StoAt ns nl st) (hp : PlIs ns nl p) :
    Calls Tryz.prog 82 #[.pointer (some ⟨sb, 0, none⟩), p.val] w fun e w' => e = .returned (.int .u64 (getP st p)) ∧ Below w.heap.size w w' := by
  have ho := hs.ok
  have hx := h.lt
  have n1 : (st.sing.length : Int) ≤ 16 := by have := ho.n1; omega
  have n2 : (st.slot.length : Int) ≤ 12 := by have := ho.n2; omega
  have HB1 : Hid (∀ o1 : Obj, Below w.heap.size w (w.alloc o1)) := fun o1 => (Below.refl _ _).alloc (Nat.le_refl _) _
  have HB0 : Hid (Below w.heap.size w w) := Below.refl _ _
  unfold LPlace.val
  rcases pl_is_cases hs hp with ⟨e1, e2, e3⟩ | ⟨e1, e2, e3⟩ | ⟨e1, e2, e3⟩ | e1
  · have c0 := sing_at h ho (show p.n.toNat < st.sing.length by omega)
    obtain ⟨hu0, hu1⟩ := ho.s0 p.n.toNat
    obtain ⟨u, hue⟩ : ∃ u, u = st.sing.getD p.n.toNat 0 := ⟨_, rfl⟩
    rw [← hue] at c0 hu0 hu1
    have HE : Hid (getP st p = u) := by show getP st p = u; unfold getP; rw [if_pos e1, hue]
    have k1 : (p.kind == 1) = true := by simp [e1]
    have y1 : p.n < 16 := by omega
    have e5 := wrap64_of u hu0 (by omega)
    clear hue e1 h hs hp ho
    go_enter Tryz.func82, Tryz.ntmps82
    go_wp2
    go_quiet (fail)
    go_wp2
    go_ret
    exact ⟨ret_int HE.out.symm, below_drewN (by first | exact HB0.out | exact HB1.out _) _⟩
  · have c0 := sing_at h ho (show (2 * p.n + 1).toNat < st.sing.length by omega)
    have c1 := sing_at h ho (show (2 * p.n).toNat < st.sing.length by omega)
    obtain ⟨hu0, hu1⟩ := ho.s0 (2 * p.n + 1).toNat
    obtain ⟨hv0, hv1⟩ := ho.s0 (2 * p.n).toNat
    obtain ⟨u, hue⟩ : ∃ u, u = st.sing.getD (2 * p.n + 1).toNat 0 := ⟨_, rfl⟩
    obtain ⟨v, hve⟩ : ∃ u, u = st.sing.getD (2 * p.n).toNat 0 := ⟨_, rfl⟩
    rw [← hue] at c0 hu0 hu1
    rw [← hve] at c1 hv0 hv1
    have HE : Hid (getP st p = bits BinOp.or IntKind.u64 (u * 4294967296) v) := by
      show getP st p = _
      have hp := pair_of v u hv0 hv1 ⟨hu0, by omega⟩
      rw [wrap64_of (u * 4294967296) (by omega) (by omega), wrap64_of (u * 4294967296 + v) (by omega) (by omega)] at hp
      rw [hp]
      unfold getP; rw [if_neg (by omega), if_pos e1, hue, hve]
    have k1 : (p.kind == 1) = false := by simp [e1]
    have k2 : (p.kind == 2) = true := by simp [e1]
    have y1 : 2 * p.n < 16 := by omega
    have y3 : 2 * p.n + 1 < 16 := by omega
    have y0 : 0 ≤ 2 * p.n := by omega
    have y2 : 0 ≤ 2 * p.n + 1 := by omega
    have e5 := wrap64_of u hu0 (by omega)
    have e6 := wrap64_of v hv0 (by omega)
    clear hue hve e1 h hs hp ho
    go_enter Tryz.func82, Tryz.ntmps82
    go_wp2
    go_quiet (fail)
    go_wp2
    go_ret
    exact ⟨ret_int HE.out.symm, below_drewN (by first | exact HB0.out | exact HB1.out _) _⟩
  · have c0 := slot_at h ho (show p.n.toNat < st.slot.length by omega)
    obtain ⟨u, hue⟩ : ∃ u, u = st.slot.getD p.n.toNat 0 := ⟨_, rfl⟩
    rw [← hue] at c0
    have HE : Hid (getP st p = u) := by show getP st p = u; unfold getP; rw [if_neg (by omega), if_neg (by omega), if_pos e1, hue]
    have k1 : (p.kind == 1) = false := by simp [e1]
    have k2 : (p.kind == 2) = false := by simp [e1]
    have k3 : (p.kind == 3) = true := by simp [e1]
    have y1 : p.n < 12 := by omega
    clear hue e1 h hs hp ho
    go_enter Tryz.func82, Tryz.ntmps82
    go_wp2
    go_quiet (fail)
    go_wp2
    go_ret
    exact ⟨ret_int HE.out.symm, below_drewN (by first | exact HB0.out | exact HB1.out _) _⟩
  · have HE : Hid (getP st p = 0) := by show getP st p = 0; unfold getP; rw [if_neg (by omega), if_neg (by omega), if_neg (by omega)]
    have k1 : (p.kind == 1) = false := by simp [e1]
    have k2 : (p.kind == 2) = false := by simp [e1]
    have k3 : (p.kind == 3) = false := by simp [e1]
    clear e1 h hs hp ho
    go_enter Tryz.func82, Tryz.ntmps82
    go_wp2
    go_ret
    exact ⟨ret_int HE.out.symm, by first | exact HB0.out | exact HB1.out _⟩
end
end form
/- What becomes of a place in the program's own store (package done): become, move, moveAll. -/
namespace form
open Go.RowKit num
set_option maxRecDepth 100000
attribute [local go_sem ↓] Go.wp_at_zero Go.wp_at_succ
section
variable {ns nl sb : Nat} {st : Sto} {w : World}
theorem Only.drew {w' : World} (h : Only sb w w') : Only sb w w'.drew := h.trans (Only.of_below (Below.refl _ _).drew)
theorem Only.alloc {w' : World} (h : Only sb w w') (o : Obj) : Only sb w (w'.alloc o) := h.trans (Only.of_below ((Below.refl _ _).alloc (Nat.le_refl _) _))
set_option maxHeartbeats 1000000 in
theorem becomeO (p : LPlace) (v : Int) (h : Row w sb 113 (stoE st)) (hs : StoAt ns nl st) (hp : PlIs ns nl p) (hv : U64i v) :
    Calls Tryz.prog 85 #[.pointer (some ⟨sb, 0, none⟩), p.val, .int .u64 v] w fun e w' => e = .returned (.tuple #[]) ∧ Row w' sb 113 (stoE (putP st p v)) ∧ Only sb w w' := by
  have ho := hs.ok
  have hx := h.lt
  have n1 : (st.sing.length : Int) ≤ 16 := by have := ho.n1; omega
  have n2 : (st.slot.length : Int) ≤ 12 := by have := ho.n2; omega
  have q1 : sb ≠ w.heap.size := by omega
  obtain ⟨WA, hWA⟩ : ∃ WA, WA = w.alloc (.cells #[.int .i64 p.kind, .int .i64 p.n] 115) := ⟨_, rfl⟩
  have hA : Row WA sb 113 (stoE st) := by rw [hWA]; exact h.alloc _
  have HOA : Hid (Only sb w WA) := by rw [hWA]; exact (Only.refl _ _).alloc _
  have k0 : WA.cell? ⟨w.heap.size, 0, none⟩ = some (.int .i64 p.kind) := by rw [hWA]; simp [go_sem]
  have k9 : WA.cell? ⟨w.heap.size, 1, none⟩ = some (.int .i64 p.n) := by rw [hWA]; simp [go_sem]
  unfold LPlace.val
  rcases pl_is_cases hs hp with ⟨e1, e2, e3⟩ | ⟨e1, e2, e3⟩ | ⟨e1, e2, e3⟩ | e1
  · have c0 := sing_at hA ho (show p.n.toNat < st.sing.length by omega)
    have fz := hA.frozen p.n.toNat
    have HR : Hid (Row (WA.setCell ⟨sb, p.n.toNat, none⟩ (.int .u32 (v % 4294967296))) sb 113 (stoE (putP st p v))) := by
      have := sing_set hA ho (show p.n.toNat < st.sing.length by omega) (v % 4294967296)
      rw [← put_one e1] at this
      exact this
    have k1 : (p.kind == 1) = true := by simp [e1]
    have y1 : p.n < 16 := by omega
    clear e1 h hs hp ho hA
    go_enter Tryz.func85, Tryz.ntmps85
    go_upto_region 1 with fail
    rw [← hWA]
    clear hWA
    go_wp2
    go_region_held3 (fun w' => w'.cell? ⟨w.heap.size, 1, none⟩ = some (.int .i64 p.n))
      ((first | assumption | exact cell_other (by assumption) (Ne.symm q1) | (go_keep; done)))
      (fail)
    go_wp2
    go_end0
    exact ⟨rfl, HR.out, (HOA.out.set _ _).drew⟩
  · have c0 := sing_at hA ho (show (2 * p.n).toNat < st.sing.length by omega)
    have c1 := sing_at hA ho (show (2 * p.n + 1).toNat < st.sing.length by omega)
    have hA1 := sing_set hA ho (show (2 * p.n).toNat < st.sing.length by omega) (v % 4294967296)
    have ho1 : StoOk ⟨st.sing.set (2 * p.n).toNat (v % 4294967296), st.slot⟩ := ⟨set_u32 ho.s0 (by omega) (by omega), ho.l0, by simpa using ho.n1, ho.n2, by simpa using ho.ev⟩
    have c2 := sing_at hA1 ho1 (j := (2 * p.n + 1).toNat) (by simp; omega)
    have f0 := hA.frozen (2 * p.n).toNat
    have f1 := hA.frozen (2 * p.n + 1).toNat
    have f2 := hA1.frozen (2 * p.n + 1).toNat
    have HH : v / 4294967296 % 4294967296 = v / 4294967296 := by have := hv.1; have := hv.2; omega
    have HR : Hid (Row ((WA.setCell ⟨sb, (2 * p.n).toNat, none⟩ (.int .u32 (v % 4294967296))).setCell ⟨sb, (2 * p.n + 1).toNat, none⟩ (.int .u32 (v / 4294967296 % 4294967296))) sb 113 (stoE (putP st p v))) := by
      have := sing_set hA1 ho1 (j := (2 * p.n + 1).toNat) (by simp; omega) (v / 4294967296)
      rw [put_two e1, HH]
      exact this
    have k1 : (p.kind == 1) = false := by simp [e1]
    have k2 : (p.kind == 2) = true := by simp [e1]
    have y1 : 2 * p.n < 16 := by omega
    have y3 : 2 * p.n + 1 < 16 := by omega
    have y0 : 0 ≤ 2 * p.n := by omega
    have y2 : 0 ≤ 2 * p.n + 1 := by omega
    have v0 := hv.1
    have v1 := hv.2
    have hw1 : IntKind.i64.wrap (2 * p.n) = 2 * p.n := wrapI_of _ (by omega) (by omega)
    have hw2 : IntKind.i64.wrap (2 * p.n + 1) = 2 * p.n + 1 := wrapI_of _ (by omega) (by omega)
    have g1 : ¬ (2 * p.n).toNat = (2 * p.n + 1).toNat := by omega
    have g2 : ¬ (2 * p.n + 1).toNat = (2 * p.n).toNat := by omega
    have hin1 : 0 ≤ 2 * p.n ∧ 2 * p.n < 16 := ⟨y0, y1⟩
    have hin2 : 0 ≤ 2 * p.n + 1 ∧ 2 * p.n + 1 < 16 := ⟨y2, y3⟩
    clear e1 h hs hp ho hA hA1 ho1 HH
    go_enter Tryz.func85, Tryz.ntmps85
    go_upto_region 1 with fail
    rw [← hWA]
    clear hWA
    go_wp2
    go_region_held3 (fun w' => w'.cell? ⟨w.heap.size, 1, none⟩ = some (.int .i64 p.n))
      ((first | assumption | exact cell_other (by assumption) (Ne.symm q1) | (go_keep; done)))
      (fail)
    go_wp2
    go_end0
    exact ⟨rfl, HR.out, ((HOA.out.set _ _).set _ _).drew⟩
  · have c0 := slot_at hA ho (show p.n.toNat < st.slot.length by omega)
    have fz := hA.frozen (16 + p.n.toNat)
    have HR : Hid (Row (WA.setCell ⟨sb, 16 + p.n.toNat, none⟩ (.int .u64 v)) sb 113 (stoE (putP st p v))) := by
      have := slot_set hA ho (show p.n.toNat < st.slot.length by omega) v
      rw [← put_three e1] at this
      exact this
    have k1 : (p.kind == 1) = false := by simp [e1]
    have k2 : (p.kind == 2) = false := by simp [e1]
    have k3 : (p.kind == 3) = true := by simp [e1]
    have y1 : p.n < 12 := by omega
    clear e1 h hs hp ho hA
    go_enter Tryz.func85, Tryz.ntmps85
    go_upto_region 1 with fail
    rw [← hWA]
    clear hWA
    go_wp2
    go_region_held3 (fun w' => w'.cell? ⟨w.heap.size, 1, none⟩ = some (.int .i64 p.n))
      ((first | assumption | exact cell_other (by assumption) (Ne.symm q1) | (go_keep; done)))
      (fail)
    go_wp2
    go_end0
    exact ⟨rfl, HR.out, (HOA.out.set _ _).drew⟩
  · have HR : Hid (Row WA sb 113 (stoE (putP st p v))) := by
      have e : putP st p v = st := by unfold putP; rw [if_neg (by omega), if_neg (by omega), if_neg (by omega)]
      rw [e]; exact hA
    have k1 : (p.kind == 1) = false := by simp [e1]
    have k2 : (p.kind == 2) = false := by simp [e1]
    have k3 : (p.kind == 3) = false := by simp [e1]
    clear e1 h hs hp ho hA
    go_enter Tryz.func85, Tryz.ntmps85
    go_upto_region 1 with fail
    rw [← hWA]
    clear hWA
    go_wp2
    go_end0
    exact ⟨rfl, HR.out, HOA.out⟩
def Old (wO w : World) : Prop := ∀ k, k < wO.heap.size → w.heap[k]? = wO.heap[k]?
theorem Old.cell {wO w : World} (h : Old wO w) {p : Addr} {v : Value} (hc : wO.cell? p = some v) : w.cell? p = some v := by
  rw [World.cell?_of_block (h p.block (World.block_lt_of_cell? wO _ hc))]; exact hc
theorem Old.only {wO w w' : World} (h : Old wO w) (hz : wO.heap.size ≤ w.heap.size) (hs : wO.heap.size ≤ sb) (ho : Only sb w w') : Old wO w' := fun k hk => (ho.block k (by omega) (by omega)).trans (h k hk)
theorem moveD (m : LMove) (h : Row w sb 113 (stoE st)) (hs : StoAt ns nl st) (hd : PlIs ns nl m.dst) (hc : PlIs ns nl m.src) (hn0 : 0 ≤ m.n) (hn1 : m.n < 4294967296) :
    Calls Tryz.prog 124 #[.pointer (some ⟨sb, 0, none⟩), m.val] w fun e w' => e = .returned (.tuple #[]) ∧ Row w' sb 113 (stoE (moveP st m)) ∧ Only sb w w' := by
  have hx := h.lt
  obtain ⟨WA, hWA⟩ : ∃ WA, WA = w.alloc (.cells #[.int .i64 m.dst.kind, .int .i64 m.dst.n, .int .i64 m.src.kind, .int .i64 m.src.n, .bool m.cst, .int .u32 m.n] 196) := ⟨_, rfl⟩
  have hA : Row WA sb 113 (stoE st) := by rw [hWA]; exact h.alloc _
  have HOA : Hid (Only sb w WA) := by rw [hWA]; exact (Only.refl _ _).alloc _
  have HRA : Hid (Row WA sb 113 (stoE st)) := hA
  have d0 : WA.cell? ⟨w.heap.size, 0, none⟩ = some (.int .i64 m.dst.kind) := by rw [hWA]; simp [go_sem]
  have d1 : WA.cell? ⟨w.heap.size, 1, none⟩ = some (.int .i64 m.dst.n) := by rw [hWA]; simp [go_sem]
  have d2 : WA.cell? ⟨w.heap.size, 2, none⟩ = some (.int .i64 m.src.kind) := by rw [hWA]; simp [go_sem]
  have d3 : WA.cell? ⟨w.heap.size, 3, none⟩ = some (.int .i64 m.src.n) := by rw [hWA]; simp [go_sem]
  have d4 : WA.cell? ⟨w.heap.size, 4, none⟩ = some (.bool m.cst) := by rw [hWA]; simp [go_sem]
  have d5 : WA.cell? ⟨w.heap.size, 5, none⟩ = some (.int .u32 m.n) := by rw [hWA]; simp [go_sem]
  have q1 : w.heap.size ≠ sb := by omega
  have e5 := wrap64_of m.n hn0 (by omega)
  have HI : Hid (∀ wx, Row wx sb 113 (stoE st) → Calls Tryz.prog 82 #[.pointer (some ⟨sb, 0, none⟩), m.src.val] wx fun e w' => e = .returned (.int .u64 (getP st m.src)) ∧ Below wx.heap.size wx w') := fun wx hr => inO m.src hr hs hc
  have HP : Hid (∀ wx v, U64i v → Row wx sb 113 (stoE st) → Calls Tryz.prog 85 #[.pointer (some ⟨sb, 0, none⟩), m.dst.val, .int .u64 v] wx fun e w' => e = .returned (.tuple #[]) ∧ Row w' sb 113 (stoE (putP st m.dst v)) ∧ Only sb wx w') := fun wx v hv hr => becomeO m.dst v hr hs hd hv
  have HU : Hid (U64i (getP st m.src)) := get_bd _ hs.ok
  unfold LMove.val
  rcases Bool.eq_false_or_eq_true m.cst with hk | hk
  · rw [hk] at d4
    have HE : Hid (moveP st m = putP st m.dst m.n) := by show moveP st m = _; unfold moveP; rw [hk]; rfl
    clear hk h hs hd hc hA
    go_enter Tryz.func124, Tryz.ntmps124
    go_upto_region 1 with fail
    rw [← hWA]
    clear hWA
    go_wp2_with (go_at_call 85; refine (HP.out _ m.n ⟨hn0, by omega⟩ HRA.out).mono ?_; rintro e w1 ⟨rfl, hr1, ho1⟩)
    refine bodyPost_ret (results_none rfl _ _ _) rfl ?_
    rw [HE.out]
    exact ⟨rfl, hr1, HOA.out.trans ho1⟩
  · rw [hk] at d4
    have HE : Hid (moveP st m = putP st m.dst (getP st m.src)) := by show moveP st m = _; unfold moveP; rw [hk]; rfl
    obtain ⟨u, hu⟩ : ∃ u, u = getP st m.src := ⟨_, rfl⟩
    have HUE : Hid (getP st m.src = u) := hu.symm
    clear hk h hs hd hc hA hu
    go_enter Tryz.func124, Tryz.ntmps124
    go_upto_region 1 with fail
    rw [← hWA]
    clear hWA
    go_wp2
    go_region_held3 (fun w' => w'.cell? ⟨w.heap.size, 0, none⟩ = some (.int .i64 m.dst.kind) ∧ w'.cell? ⟨w.heap.size, 1, none⟩ = some (.int .i64 m.dst.n) ∧ w'.cell? ⟨w.heap.size, 2, none⟩ = some (.int .i64 m.src.kind) ∧ w'.cell? ⟨w.heap.size, 3, none⟩ = some (.int .i64 m.src.n))
      ((go_split_ands; refine ⟨?_, ?_, ?_, ?_⟩ <;> first | assumption | exact hoc.cell (by assumption) q1 | (go_keep; done)))
      (first
        | (have hgd := HR1; clear hgd; go_at_call 85; refine (HP.out _ u (by rw [← HUE.out]; exact HU.out) HR1.out).mono ?_; rintro e w2 ⟨rfl, hr2, hoc⟩; have HR2 : Hid _ := hr2; have HO2 : Hid _ := hoc; clear hr2)
        | (go_at_call 82; refine (HI.out _ (HRA.out.drew)).mono ?_; rw [HUE.out]; rintro e w1 ⟨rfl, hbc⟩; have HR1 : Hid (Row w1 sb 113 (stoE st)) := (HRA.out.drew).below hbc; have hoc : Only sb WA w1 := (Only.of_below (Below.refl _ _).drew).trans (Only.of_below hbc); have HO1 : Hid (Only sb WA w1) := hoc; clear hbc))
    go_wp2
    go_end0
    rw [HE.out, HUE.out]
    exact ⟨rfl, HR2.out, (HOA.out.trans HO1.out).trans HO2.out⟩
structure MoveIs (ns nl : Nat) (m : LMove) : Prop where
  dst : PlIs ns nl m.dst
  src : PlIs ns nl m.src
  n0 : 0 ≤ m.n
  n1 : m.n < 4294967296
theorem moves_at {l : List LMove} (h : StoAt ns nl st) (hm : ∀ x, x ∈ l → MoveIs ns nl x) : StoAt ns nl (movesP st l) := by
  induction l generalizing st with
  | nil => exact h
  | cons m l ih => exact ih (sto_at_move h ⟨(hm m (by simp)).n0, (hm m (by simp)).n1⟩) (fun x hx => hm x (by simp [hx]))
set_option maxHeartbeats 1000000 in
theorem moveAllO (v : Value) (l : List LMove) (wO : World) (h : Row w sb 113 (stoE st)) (hs : StoAt ns nl st) (hm : MovesIs wO v l) (hO : Old wO w) (hz : wO.heap.size ≤ w.heap.size) (hsb : wO.heap.size ≤ sb) (h6 : l.length ≤ 6) (hok : ∀ x, x ∈ l → MoveIs ns nl x) :
    Calls Tryz.prog 80 #[.pointer (some ⟨sb, 0, none⟩), v] w fun e w' => e = .returned (.tuple #[]) ∧ Row w' sb 113 (stoE (movesP st l)) ∧ Only sb w w' := by
  obtain ⟨ao, cap, rfl, -, hc⟩ := hm
  have HC : Hid _ := hc
  have HOK : Hid (∀ x, x ∈ l → MoveIs ns nl x) := hok
  have HS : Hid (StoAt ns nl st) := hs
  have z6 : (l.length : Int) ≤ 6 := by omega
  have HR0 : Hid (Row w sb 113 (stoE st)) := h
  have HOO : Hid (Old wO w) := hO
  clear hc hok hs h hO
  go_enter Tryz.func80, Tryz.ntmps80
  go_wp2
  go_loopw [8] (fun t wr => ∃ k : Nat, k ≤ l.length ∧ t = .int .i64 k ∧ Row wr sb 113 (stoE (movesP st (l.take k))) ∧ Only sb w wr) (fun t _ => l.length - (intOf t).toNat)
  case atStart => exact ⟨0, by omega, rfl, HR0.out, Only.refl _ _⟩
  case round =>
    obtain ⟨k, hk, rfl, hrk, hok⟩ := hrel
    have HRK : Hid (Row wr sb 113 (stoE (movesP st (l.take k)))) := hrk
    have HOK2 : Hid (Only sb w wr) := hok
    by_cases hlt : k < l.length
    case neg =>
      clear hrk hok
      go_wp2
      go_end0
      have e := HRK.out
      rw [List.take_of_length_le (by omega)] at e
      exact ⟨rfl, e, HOK2.out⟩
    obtain ⟨b, o, rfl, hbl, hcell⟩ := HC.out (by omega)
    have hold : Old wO wr := HOO.out.only hz hsb hok
    obtain ⟨d0, d1, d2, d3, d4, d5⟩ := hcell k hlt
    have d0 := hold.cell d0
    have d1 := hold.cell d1
    have d2 := hold.cell d2
    have d3 := hold.cell d3
    have d4 := hold.cell d4
    have d5 := hold.cell d5
    obtain ⟨m, hi⟩ : ∃ m, m = l.getD k .zero := ⟨_, rfl⟩
    rw [← hi] at d0 d1 d2 d3 d4 d5
    have hmem : m ∈ l := by rw [hi]; simp [List.getD, hlt]
    have hmi := HOK.out m hmem
    have hst : StoAt ns nl (movesP st (l.take k)) := moves_at HS.out (fun x hx => HOK.out x (List.mem_of_mem_take hx))
    have HMV : Hid (∀ wx, Row wx sb 113 (stoE (movesP st (l.take k))) → Calls Tryz.prog 124 #[.pointer (some ⟨sb, 0, none⟩), m.val] wx fun e w' => e = .returned (.tuple #[]) ∧ Row w' sb 113 (stoE (moveP (movesP st (l.take k)) m)) ∧ Only sb wx w') := fun wx hr => moveD m hr hst hmi.dst hmi.src hmi.n0 hmi.n1
    have HI : Hid (m = l.getD k .zero) := hi
    have y1 : (k : Int) < (l.length : Int) := by omega
    clear hcell hold hi hmem hmi hst hrk hok
    go_wp2_with (go_at_call 124; refine (HMV.out _ (HRK.out.alloc _)).mono ?_; rintro e w1 ⟨rfl, hr1, ho1⟩; have HR1 : Hid _ := hr1; have HO1 : Hid _ := ho1; clear hr1 ho1)
    refine ⟨⟨k + 1, by omega, by go_num, ?_, (HOK2.out.alloc _).trans HO1.out⟩, by simp [intOf]; omega⟩
    rw [moves_succ st l k hlt, ← HI.out]
    exact HR1.out
end
end form
end Go.Proofs.YtgnhpfmdbclnkaaGreatDoor
