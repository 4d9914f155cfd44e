/- What the document's run (loanbookref3.Play) shows: the machine on plain numbers, so many steps. -/
import Derived.Deep.OwnRows
import Derived.Deep.DeepCutAuto
import Derived.Deep.RegionHeld3
import Derived.Test.YtcmnmogmdhofcabGreatE03
import Derived.Test.YtcmnmogmdhofcabGreatE06
import Derived.Test.YtcmnmogmdhofcabGreatE13
import Derived.Test.YtcmnmogmdhofcabGreatE10
import Derived.Test.YtcmnmogmdhofcabGreatE07
import Derived.Test.YtcmnmogmdhofcabGreatE04
import Derived.Test.YtcmnmogmdhofcabGreatE12

namespace Go.Proofs.YtcmnmogmdhofcabGreat.form
open Go.RowKit Go.Proofs.YtcmnmogmdhofcabGreat.num
set_option linter.unusedVariables false
attribute [local go_sem ↓] Go.wp_at_zero Go.wp_at_succ

structure PS (w : World) (b0 o0 c0 b1 o1 c1 : Nat) (B : List Bool) (C : List LIns) (ts : List Int) (v : Value) (l : List Int) (st k : Int) (wr : World) : Prop where
  bel : Below w.heap.size w wr
  p0 : wr.cell? ⟨w.heap.size, 0, none⟩ = some (.slice (some ⟨b0, o0, none⟩) B.length c0)
  p1 : wr.cell? ⟨w.heap.size, 1, none⟩ = some (.slice (some ⟨b1, o1, none⟩) C.length c1)
  res : Row wr (w.heap.size + 1) 44 [.int .i64 0, .slice none 0 0, .int .i64 0]
  sh : Row wr (w.heap.size + 1 + 1) 44 [.int .i64 st, v, .int .i64 k]
  tm : Row wr (w.heap.size + 1 + 1 + 1) 77 (ts.map (Value.int .u64))
  own : wr.ownsRow (w.heap.size + 4) 33 1 v l.length (l.map (Value.int .u32))

section
variable {w : World} {b0 o0 c0 b1 o1 c1 : Nat} {B : List Bool} {C : List LIns} {ts : List Int} {v : Value} {l : List Int} {st k : Int} {wr w1 : World}

theorem PS.sz (h : PS w b0 o0 c0 b1 o1 c1 B C ts v l st k wr) : w.heap.size + 4 ≤ wr.heap.size := h.tm.lt
theorem PS.ownNe (h : PS w b0 o0 c0 b1 o1 c1 B C ts v l st k wr) {b : Nat} (hb : b < w.heap.size + 4) : v.ownBlock ≠ some b := fun e => by have := (World.ownsRow.lt h.own _ e).1; omega

theorem own_below {base : Nat} {e : TypeId} {n : Nat} {xs : List Value} (h : wr.ownsRow base e 1 v n xs) (hb : Below wr.heap.size wr w1) : w1.ownsRow base e 1 v n xs :=
  World.ownsRow.kept h ⟨hb.os, hb.tape, hb.output, hb.size, fun j hj _ => hb.block j hj⟩ (row := none) (by cases v.ownBlock <;> simp)

theorem PS.below (h : PS w b0 o0 c0 b1 o1 c1 B C ts v l st k wr) (hb : Below wr.heap.size wr w1) : PS w b0 o0 c0 b1 o1 c1 B C ts v l st k w1 :=
  ⟨step_below hb h.bel, step_cell hb h.p0, step_cell hb h.p1, h.res.below hb, h.sh.below hb, h.tm.below hb, own_below h.own hb⟩

theorem PS.setTemp (h : PS w b0 o0 c0 b1 o1 c1 B C ts v l st k wr) (d : Nat) (x : Int) : PS w b0 o0 c0 b1 o1 c1 B C (ts.set d x) v l st k (wr.setCell ⟨w.heap.size + 1 + 1 + 1, d, none⟩ (.int .u64 x)) :=
  ⟨h.bel.setCell (by simp; omega) _, cell_other h.p0 (by simp; omega), cell_other h.p1 (by simp; omega), h.res.other (by simp) _, h.sh.other (by simp) _, by have := h.tm.set d (.int .u64 x); simpa [List.map_set] using this, ownsRow_setCell_other h.own (h.ownNe (by dsimp only; omega)) _⟩

theorem PS.setState (h : PS w b0 o0 c0 b1 o1 c1 B C ts v l st k wr) (x : Int) : PS w b0 o0 c0 b1 o1 c1 B C ts v l x k (wr.setCell ⟨w.heap.size + 1 + 1, 0, none⟩ (.int .i64 x)) :=
  ⟨h.bel.setCell (by simp; omega) _, cell_other h.p0 (by simp; omega), cell_other h.p1 (by simp; omega), h.res.other (by simp) _, h.sh.set 0 _, h.tm.other (by simp) _, ownsRow_setCell_other h.own (h.ownNe (by dsimp only; omega)) _⟩

theorem PS.setSteps (h : PS w b0 o0 c0 b1 o1 c1 B C ts v l st k wr) (x : Int) : PS w b0 o0 c0 b1 o1 c1 B C ts v l st x (wr.setCell ⟨w.heap.size + 1 + 1, 2, none⟩ (.int .i64 x)) :=
  ⟨h.bel.setCell (by simp; omega) _, cell_other h.p0 (by simp; omega), cell_other h.p1 (by simp; omega), h.res.other (by simp) _, h.sh.set 2 _, h.tm.other (by simp) _, ownsRow_setCell_other h.own (h.ownNe (by dsimp only; omega)) _⟩

theorem PS.push (h : PS w b0 o0 c0 b1 o1 c1 B C ts v l st k wr) {x : Int} {o : Obj} {g cap : Nat}
    (hown : w1.ownsRow (w.heap.size + 4) 33 1 (.slice (some ⟨g, 0, none⟩) (l.length + 1) cap) (l.length + 1) (l.map (Value.int .u32) ++ [.int .u32 x])) (hgrow : (wr.alloc o).grownBy w1 v.ownBlock) :
    PS w b0 o0 c0 b1 o1 c1 B C ts (.slice (some ⟨g, 0, none⟩) (l.length + 1) cap) (l ++ [x]) st k (w1.setCell ⟨w.heap.size + 1 + 1, 1, none⟩ (.slice (some ⟨g, 0, none⟩) (l.length + 1) cap)) := by
  have hz := h.sz
  have hz1 : (wr.alloc o).heap.size = wr.heap.size + 1 := by simp
  have hbl : Below w.heap.size w w1 := (h.bel.alloc (by omega) o).grown hgrow (by omega) (fun j hj => by have := (World.ownsRow.lt h.own _ hj).1; omega)
  have far : ∀ b, b < w.heap.size + 4 → ∀ off u, wr.cell? ⟨b, off, none⟩ = some u → w1.cell? ⟨b, off, none⟩ = some u := by
    intro b hb off u hc
    rw [hgrow.cell_far ⟨b, off, none⟩ (by show b < (wr.alloc o).heap.size; omega) (Ne.symm (h.ownNe hb))]
    exact step_cell ((Below.refl _ _).alloc (Nat.le_refl _) o) hc
  have hgb : w.heap.size + 4 ≤ g := (World.ownsRow.lt hown g rfl).1
  refine ⟨hbl.setCell (by simp; omega) _, cell_other (far _ (by omega) _ _ h.p0) (by simp; omega), cell_other (far _ (by omega) _ _ h.p1) (by simp; omega), ?_, ?_, ?_, ?_⟩
  · exact ((h.res.alloc o).grown hgrow (Ne.symm (h.ownNe (by omega)))).other (by simp) _
  · exact ((h.sh.alloc o).grown hgrow (Ne.symm (h.ownNe (by omega)))).set 1 _
  · exact ((h.tm.alloc o).grown hgrow (Ne.symm (h.ownNe (by omega)))).other (by simp) _
  · have := ownsRow_setCell_other (a := ⟨w.heap.size + 1 + 1, 1, none⟩) hown (by simp [Value.ownBlock]; omega) (.slice (some ⟨g, 0, none⟩) (l.length + 1) cap)
    simpa using this
end

theorem infoU64 : (Tryz.prog.info? 77).map (fun i => (i.zero, i.size, i.bytes)) = some (some (.int .u64 0), 1, 8) := by kernel_rfl
theorem infoU32 : (Tryz.prog.info? 33).map (fun i => (i.zero, i.size, i.bytes)) = some (some (.int .u32 0), 1, 4) := by kernel_rfl

theorem made_u64 (n : Nat) : madeCells #[.int .u64 0] n = ((List.replicate n (0 : Int)).map (Value.int .u64)).toArray := by
  apply Array.toList_inj.1
  rw [toList_madeCells_one]
  simp

theorem ps_start (w : World) (b0 o0 c0 b1 o1 c1 : Nat) (B : List Bool) (C : List LIns) :
    PS w b0 o0 c0 b1 o1 c1 B C (Mac.start B.length).temps (.slice none 0 0) (Mac.start B.length).out (Mac.start B.length).state (Mac.start B.length).steps
      ((((w.alloc (.cells #[.slice (some ⟨b0, o0, none⟩) B.length c0, .slice (some ⟨b1, o1, none⟩) C.length c1] 25)).alloc (.cells #[.int .i64 0, .slice none 0 0, .int .i64 0] 44)).alloc (.cells #[.int .i64 0, .slice none 0 0, .int .i64 0] 44)).alloc (.cells (madeCells #[.int .u64 0] B.length) 77)) := by
  rw [made_u64]
  refine ⟨((((Below.refl _ _).alloc (Nat.le_refl _) _).alloc (by simp) _).alloc (by simp; omega) _).alloc (by simp; omega) _, by simp [go_sem], by simp [go_sem], ?_, ?_, ?_, World.ownsRow_nil _ _ _ _⟩
  · have := ((Row.new (w.alloc (.cells #[.slice (some ⟨b0, o0, none⟩) B.length c0, .slice (some ⟨b1, o1, none⟩) C.length c1] 25)) 44 [.int .i64 0, .slice none 0 0, .int .i64 0]).alloc (.cells #[.int .i64 0, .slice none 0 0, .int .i64 0] 44)).alloc (.cells ((List.replicate B.length (0 : Int)).map (Value.int .u64)).toArray 77)
    simpa using this
  · have := (Row.new ((w.alloc (.cells #[.slice (some ⟨b0, o0, none⟩) B.length c0, .slice (some ⟨b1, o1, none⟩) C.length c1] 25)).alloc (.cells #[.int .i64 0, .slice none 0 0, .int .i64 0] 44)) 44 [.int .i64 0, .slice none 0 0, .int .i64 0]).alloc (.cells ((List.replicate B.length (0 : Int)).map (Value.int .u64)).toArray 77)
    simpa [Mac.start] using this
  · have := Row.new (((w.alloc (.cells #[.slice (some ⟨b0, o0, none⟩) B.length c0, .slice (some ⟨b1, o1, none⟩) C.length c1] 25)).alloc (.cells #[.int .i64 0, .slice none 0 0, .int .i64 0] 44)).alloc (.cells #[.int .i64 0, .slice none 0 0, .int .i64 0] 44)) 77 ((List.replicate B.length (0 : Int)).map (Value.int .u64))
    simpa [Mac.start] using this

theorem own_form32 {w : World} {base : Nat} {e : TypeId} {v : Value} {xs : List Int} (h : w.ownsRow base e 1 v xs.length (xs.map (Value.int .u32))) :
    ∃ ao cap, v = .slice ao xs.length cap ∧ (0 < xs.length → ∃ b o, ao = some ⟨b, o, none⟩ ∧ base ≤ b ∧ b < w.heap.size ∧ ∀ j, j < xs.length → w.cell? ⟨b, o + j, none⟩ = some (.int .u32 (xs.getD j 0))) := by
  by_cases hn : 0 < xs.length
  · obtain ⟨g, cap, rfl, hbg, hlt⟩ := h.form hn
    refine ⟨_, cap, rfl, fun _ => ⟨g, 0, rfl, hbg, hlt, fun j hj => ?_⟩⟩
    rw [Nat.zero_add, World.ownsRow.cellAt h j (by omega)]
    simp [List.getD, hj]
  · rcases h.2 with ⟨rfl, h0⟩ | ⟨g, cap, cur, rfl, _⟩
    · exact ⟨none, 0, by rw [h0], fun hh => absurd hh hn⟩
    · exact ⟨_, cap, rfl, fun hh => absurd hh hn⟩

set_option maxRecDepth 100000 in
set_option maxHeartbeats 4000000 in
theorem play (b0 o0 c0 b1 o1 c1 : Nat) (B : List Bool) (C : List LIns) (iv : Value) (I : List Int) (n : Nat) (w : World) (hm : refMayB B C = true) (h : Held w b0 o0 b1 o1 B C)
    (hn : ∀ i, i < C.length → 0 ≤ (C.getD i .zero).n ∧ (C.getD i .zero).n < 4294967296) (hI : OutIs w iv I) (hIb : ∀ j, j < I.length → 0 ≤ I.getD j 0 ∧ I.getD j 0 < 4294967296) (hn3 : n ≤ 3000) :
    Calls Tryz.prog 10 #[progV b0 o0 B.length c0 b1 o1 C.length c1, iv, .int .i64 n] w fun e w' =>
      ∃ rv, e = .returned rv ∧ ShownIs w' rv (playM B C I n).state (playM B C I n).out (playM B C I n).steps ∧ Below w.heap.size w w' := by
  have hok := all_insOk hm hn
  have hsz : sizesB B C = true := by unfold refMayB at hm; simp only [Bool.and_eq_true] at hm; exact hm.1
  obtain ⟨s1, s2, s3, s4⟩ := sizes_of hsz
  have HOK : Hid _ := hok
  have HIb : Hid _ := hIb
  obtain ⟨ai, ci, rfl, hlI, hcI⟩ := hI
  have HCI : Hid _ := hcI
  clear hok hIb hcI hm hsz hn
  have hmk := fun wx => run_make_row' (P := Tryz.prog) 76 77 (.int .u64 0) 8 Tryz.underlying76 infoU64 rfl .i64 .i64 B.length (by omega) (by omega) wx
  unfold progV
  go_enter Tryz.func10, Tryz.ntmps10
  go_wp2
  go_loopg [9, 10] (n + 1) (fun g at_ tk wr => ∃ (m : Mac) (v : Value), at_ = .int .i64 m.pc ∧ tk = .int .i64 m.taken ∧ PS w b0 o0 c0 b1 o1 c1 B C m.temps v m.out m.state m.steps wr ∧ MOk B.length C.length I.length m ∧ m.steps + g = n + 1 ∧ m.steps ≤ n ∧ Mac.go C I (n - m.steps) m = playM B C I n)
  case atStart =>
    refine ⟨Mac.start B.length, .slice none 0 0, rfl, rfl, ?_, mok_start _ _ _ s3, by simp [Mac.start], by simp [Mac.start], rfl⟩
    exact ps_start w b0 o0 c0 b1 o1 c1 B C
  case round =>
    obtain ⟨m, v, rfl, rfl, hps, hmo, hg, hle, hfin⟩ := hrel
    have t0 : wr.cell? ⟨w.heap.size + 1 + 1, 0, none⟩ = some (.int .i64 m.state) := hps.sh.cell 0
    have t1 : wr.cell? ⟨w.heap.size + 1 + 1, 1, none⟩ = some v := hps.sh.cell 1
    have t2 : wr.cell? ⟨w.heap.size + 1 + 1, 2, none⟩ = some (.int .i64 m.steps) := hps.sh.cell 2
    have HF : Hid (Mac.go C I (n - m.steps) m = playM B C I n) := hfin
    have HPS : Hid (PS w b0 o0 c0 b1 o1 c1 B C m.temps v m.out m.state m.steps wr) := hps
    have HMO : Hid (MOk B.length C.length I.length m) := hmo
    clear hfin hps hmo
    by_cases hgo : m.steps < n ∧ m.state = 0
    case neg =>
      have hend : m = playM B C I n := by
        rw [← HF.out]
        by_cases e : m.state = 0
        · have : n - m.steps = 0 := by omega
          rw [this]; rfl
        · rw [Mac.go_stop e]
      obtain ⟨ov, cp, hov, hcells⟩ := own_form32 HPS.out.own
      have z0 : wr.cell? ⟨w.heap.size + 1, 0, none⟩ = some (.int .i64 0) := HPS.out.res.cell 0
      have z1 : wr.cell? ⟨w.heap.size + 1, 1, none⟩ = some (.slice none 0 0) := HPS.out.res.cell 1
      have z2 : wr.cell? ⟨w.heap.size + 1, 2, none⟩ = some (.int .i64 0) := HPS.out.res.cell 2
      have f0 := HPS.out.res.frozen 0
      have f1 := HPS.out.res.frozen 1
      have f2 := HPS.out.res.frozen 2
      subst hov
      have HEND : Hid _ := hend
      clear hend
      rcases (show (¬ (m.steps : Int) < (n : Int)) ∨ ((m.steps : Int) < (n : Int) ∧ (m.state == 0) = false) by
        by_cases e : m.steps < n
        · exact Or.inr ⟨by omega, by simp; exact fun e2 => hgo ⟨e, e2⟩⟩
        · exact Or.inl (by omega)) with e1 | ⟨e1, e2⟩
      all_goals
        clear hgo
        go_wp2
        have r0 := ((HPS.out.res.set 0 (.int .i64 m.state)).set 1 (.slice ov m.out.length cp)).set 2 (.int .i64 m.steps)
        have g0 := r0.cell 0
        have g1 := r0.cell 1
        have g2 := r0.cell 2
        simp at g0 g1 g2
        refine bodyPost_ret (v := .agg #[.int .i64 m.state, .slice ov m.out.length cp, .int .i64 m.steps]) ?_ rfl ⟨_, rfl, ?_, ?_⟩
        · simp [results, Tryz.results10, go_sem, g0, g1, g2]
        · rw [← HEND.out]
          refine ⟨_, rfl, ov, cp, rfl, by have := HMO.out.outs; omega, fun hp => ?_⟩
          obtain ⟨gb, go, e, hgb, hgl, hgc⟩ := hcells hp
          refine ⟨gb, go, e, by simpa using hgl, fun j hj => ?_⟩
          exact cell_other (cell_other (cell_other (hgc j hj) (by dsimp only; omega)) (by dsimp only; omega)) (by dsimp only; omega)
        · exact ((HPS.out.bel.setCell (by dsimp only; omega) _).setCell (by dsimp only; omega) _).setCell (by dsimp only; omega) _
    obtain ⟨hlt, hst0⟩ := hgo
    have hpc := HMO.out.pcok hst0
    have hi := HOK.out m.pc hpc
    have hbel := HPS.out.bel
    obtain ⟨d0, d1, d2, d3, d4, d5⟩ := (h.later hbel).code m.pc hpc
    have hll := HMO.out.len
    obtain ⟨i, hie⟩ : ∃ i, i = C.getD m.pc .zero := ⟨_, rfl⟩
    rw [← hie] at d0 d1 d2 d3 d4 d5 hi
    have ca : wr.cell? ⟨w.heap.size + 1 + 1 + 1, i.a.toNat, none⟩ = some (.int .u64 (m.temps.getD i.a.toNat 0)) := by
      have := hi.a0; have := hi.a1
      rw [HPS.out.tm.cell]; simp [List.getD, show i.a.toNat < m.temps.length by omega]
    have cb : wr.cell? ⟨w.heap.size + 1 + 1 + 1, i.b.toNat, none⟩ = some (.int .u64 (m.temps.getD i.b.toNat 0)) := by
      have := hi.b0; have := hi.b1
      rw [HPS.out.tm.cell]; simp [List.getD, show i.b.toNat < m.temps.length by omega]
    have hua := HMO.out.bd i.a.toNat
    have hub := HMO.out.bd i.b.toNat
    obtain ⟨a, hae⟩ : ∃ a, a = m.temps.getD i.a.toNat 0 := ⟨_, rfl⟩
    obtain ⟨b, hbe⟩ : ∃ b, b = m.temps.getD i.b.toNat 0 := ⟨_, rfl⟩
    rw [← hae] at ca hua
    rw [← hbe] at cb hub
    have HIE : Hid (i = C.getD m.pc .zero) := hie
    have HAE : Hid (a = m.temps.getD i.a.toNat 0) := hae
    have HBE : Hid (b = m.temps.getD i.b.toNat 0) := hbe
    have HII : Hid (InsOk B.length C.length i) := hi
    have x1 := hi.a0
    have x2 := hi.a1
    have x3 := hi.b0
    have x4 := hi.b1
    have x5 : (m.pc : Int) < (C.length : Int) := by omega
    have x6 : (m.steps : Int) < (n : Int) := by omega
    have x7 : (m.state == 0) = true := by simp [hst0]
    have HST0 : Hid (m.state = 0) := hst0
    have hz4 := HPS.out.sz
    have hz0 : w.heap.size < wr.heap.size := by omega
    have hz3 : w.heap.size + 1 + 1 + 1 < wr.heap.size := by omega
    have hz2 : w.heap.size + 1 + 1 < wr.heap.size := by omega
    have hlb1 := (h.later hbel).lt1
    have p0 := HPS.out.p0
    have p1 := HPS.out.p1
    clear hie hae hbe hi hll hst0 hpc hbel
    go_upto_region 10 with fail
    go_cut [52] (fun s wq => s = .bool ((i.op == 3) && decide (m.taken < I.length)) ∧ wq = (wr.alloc (.cells #[.int .i64 i.op, .int .i64 i.dest, .int .i64 i.a, .int .i64 i.b, .int .i64 i.c, .int .u32 i.n] 35)))
    case first =>
      rcases Bool.eq_false_or_eq_true (i.op == 3) with e1 | e1
      all_goals
        go_wp2
        go_meet
        case rel => exact ⟨by simp [e1], rfl⟩
    obtain ⟨rfl, rfl⟩ := hcut
    obtain ⟨inb, hinb⟩ : ∃ x, x = ((i.op == 3) && decide (m.taken < I.length)) := ⟨_, rfl⟩
    rw [← hinb]
    obtain ⟨tk', htk⟩ : ∃ t : Nat, t = if inb then m.taken + 1 else m.taken := ⟨_, rfl⟩
    obtain ⟨xi, hxi⟩ : ∃ x : Int, x = if inb then I.getD m.taken 0 else 0 := ⟨_, rfl⟩
    have HINB : Hid (inb = ((i.op == 3) && decide (m.taken < I.length))) := hinb
    have HTK : Hid (tk' = if inb then m.taken + 1 else m.taken) := htk
    have HXI : Hid (xi = if inb then I.getD m.taken 0 else 0) := hxi
    clear hinb htk hxi
    go_upto_if 52 with fail
    go_cut [10, 14] (fun t x wq => t = .int .i64 tk' ∧ x = .int .u32 xi ∧ wq = (wr.alloc (.cells #[.int .i64 i.op, .int .i64 i.dest, .int .i64 i.a, .int .i64 i.b, .int .i64 i.c, .int .u32 i.n] 35)))
    case first =>
      have htk3 := HMO.out.tk
      cases inb
      · have HTK2 : Hid (tk' = m.taken) := HTK.out
        have HXI2 : Hid (xi = 0) := HXI.out
        go_wp2
        go_meet
        case rel => exact ⟨by rw [HTK2.out], by rw [HXI2.out], rfl⟩
      · have HTK2 : Hid (tk' = m.taken + 1) := HTK.out
        have HXI2 : Hid (xi = I.getD m.taken 0) := HXI.out
        have hb2 := HINB.out
        simp at hb2
        obtain ⟨-, hlt2⟩ := hb2
        obtain ⟨ib, io, rfl, hib, hicell⟩ := HCI.out (by omega)
        have ic := step_cell HPS.out.bel (hicell _ hlt2)
        rw [← HXI2.out] at ic
        have hib2 : ib < wr.heap.size := Nat.lt_of_lt_of_le hib HPS.out.bel.size
        clear hicell
        go_wp2
        go_meet
        case rel => exact ⟨by rw [HTK2.out]; go_num, rfl, rfl⟩
    obtain ⟨rfl, rfl, rfl⟩ := hcut
    have hpsA : PS w b0 o0 c0 b1 o1 c1 B C m.temps v m.out m.state m.steps (wr.alloc (.cells #[.int .i64 i.op, .int .i64 i.dest, .int .i64 i.a, .int .i64 i.b, .int .i64 i.c, .int .u32 i.n] 35)) := HPS.out.below ((Below.refl _ _).alloc (Nat.le_refl _) _)
    have HPA : Hid (PS w b0 o0 c0 b1 o1 c1 B C m.temps v m.out m.state m.steps (wr.alloc (.cells #[.int .i64 i.op, .int .i64 i.dest, .int .i64 i.a, .int .i64 i.b, .int .i64 i.c, .int .u32 i.n] 35))) := hpsA
    have HRI : Hid (Row (wr.alloc (.cells #[.int .i64 i.op, .int .i64 i.dest, .int .i64 i.a, .int .i64 i.b, .int .i64 i.c, .int .u32 i.n] 35)) wr.heap.size 35 [.int .i64 i.op, .int .i64 i.dest, .int .i64 i.a, .int .i64 i.b, .int .i64 i.c, .int .u32 i.n]) := Row.new wr _ _
    clear hpsA
    go_upto_if 61 with fail
    obtain ⟨l', hl'⟩ : ∃ x, x = if (i.op == 4) then m.out ++ [a % 4294967296] else m.out := ⟨_, rfl⟩
    have HL' : Hid (l' = if (i.op == 4) then m.out ++ [a % 4294967296] else m.out) := hl'
    clear hl'
    go_cut [] (fun wq => ∃ v', PS w b0 o0 c0 b1 o1 c1 B C m.temps v' l' m.state m.steps wq ∧ Row wq wr.heap.size 35 [.int .i64 i.op, .int .i64 i.dest, .int .i64 i.a, .int .i64 i.b, .int .i64 i.c, .int .u32 i.n])
    case first =>
      rcases Bool.eq_false_or_eq_true (i.op == 4) with e1 | e1
      · obtain ⟨t0', hi0, hy0, hy1, hy2⟩ := info_parts infoU32
        have hout := HMO.out.outs
        go_wp2_with (at_builtin; refine wpList_append_lies _ rfl _ _ 32 rfl (w.heap.size + 4) 33 t0' (.int .u32 0) 1 4 Tryz.underlying32 hi0 hy0 hy1 hy2 rfl (by decide) v m.out.length (m.out.map (Value.int .u32)) rfl (World.ownsRow.alloc HPA.out.own _) ⟨wr.heap.size + 1, 0, none⟩ 1 1 [.int .u32 (a % 4294967296)] rfl rfl ?c1 ?c2 (by decide) ?c3 ?c4 ?c5 _ rfl ?_)
        case c1 => exact World.news_of_block (cs := #[.int .u32 (a % 4294967296)]) (t := 33) (fr := (0, 0)) (by have := heap_alloc_new (wr.alloc (.cells #[.int .i64 i.op, .int .i64 i.dest, .int .i64 i.a, .int .i64 i.b, .int .i64 i.c, .int .u32 i.n] 35)) (.cells #[.int .u32 (a % 4294967296)] 33); simpa using this)
        case c2 => simp [Value.oneCell']
        case c3 => unfold maxLen; omega
        case c4 => omega
        case c5 => simp; omega
        intro g cap w1 hown hgrow hat hlt1
        have hP := HPA.out.push hown hgrow
        have rsh := (HPA.out.sh.alloc (.cells #[.int .u32 (a % 4294967296)] 33)).grown hgrow (Ne.symm (HPA.out.ownNe (by omega)))
        have fz := rsh.frozen 1
        have cz := rsh.cell 1
        simp at cz
        have rri := (HRI.out.alloc (.cells #[.int .u32 (a % 4294967296)] 33)).grown hgrow (fun e => by have := (World.ownsRow.lt HPS.out.own _ e.symm).2; omega)
        have rrj := rri.other (a := ⟨w.heap.size + 1 + 1, 1, none⟩) (by dsimp only; omega) (.slice (some ⟨g, 0, none⟩) (m.out.length + 1) cap)
        have hle' : l' = m.out ++ [a % 4294967296] := by rw [HL'.out, e1]; rfl
        rw [← hle'] at hP
        have R : Hid _ := (⟨_, hP, rrj⟩ : ∃ v', PS w b0 o0 c0 b1 o1 c1 B C m.temps v' l' m.state m.steps (w1.setCell ⟨w.heap.size + 1 + 1, 1, none⟩ (.slice (some ⟨g, 0, none⟩) (m.out.length + 1) cap)) ∧ Row (w1.setCell ⟨w.heap.size + 1 + 1, 1, none⟩ (.slice (some ⟨g, 0, none⟩) (m.out.length + 1) cap)) wr.heap.size 35 [.int .i64 i.op, .int .i64 i.dest, .int .i64 i.a, .int .i64 i.b, .int .i64 i.c, .int .u32 i.n])
        clear hP rrj rri rsh hle' hown hgrow hat
        go_wp2
        go_meet
        case rel => exact R.out
      · go_wp2
        go_meet
        case rel => exact ⟨v, by rw [show l' = m.out by rw [HL'.out, e1]; rfl]; exact HPA.out, HRI.out⟩
    obtain ⟨v', hpsB, hriB⟩ := hcut
    have r0 : wc.cell? ⟨wr.heap.size, 0, none⟩ = some (.int .i64 i.op) := hriB.cell 0
    have r1 : wc.cell? ⟨wr.heap.size, 1, none⟩ = some (.int .i64 i.dest) := hriB.cell 1
    have r2 : wc.cell? ⟨wr.heap.size, 2, none⟩ = some (.int .i64 i.a) := hriB.cell 2
    have r3 : wc.cell? ⟨wr.heap.size, 3, none⟩ = some (.int .i64 i.b) := hriB.cell 3
    have r4 : wc.cell? ⟨wr.heap.size, 4, none⟩ = some (.int .i64 i.c) := hriB.cell 4
    have r5 : wc.cell? ⟨wr.heap.size, 5, none⟩ = some (.int .u32 i.n) := hriB.cell 5
    have HPB : Hid (PS w b0 o0 c0 b1 o1 c1 B C m.temps v' l' m.state m.steps wc) := hpsB
    have xb : 0 ≤ xi ∧ xi < 4294967296 := by
      rw [HXI.out]
      cases hib : inb
      · simp
      · have := HINB.out
        rw [hib] at this
        simp at this
        exact HIb.out m.taken this.2
    obtain ⟨xb0, xb1⟩ := xb
    clear hpsB
    go_upto_if 71 with (go_at_call 22; refine (gives _ _).mono ?_; rintro e w' ⟨rfl, rfl⟩)
    obtain ⟨ts', hts'⟩ : ∃ x, x = if givesB i.op then m.temps.set i.dest.toNat (gvI i a b xi) else m.temps := ⟨_, rfl⟩
    have HTS : Hid (ts' = if givesB i.op then m.temps.set i.dest.toNat (gvI i a b xi) else m.temps) := hts'
    clear hts'
    go_cut [] (fun wq => PS w b0 o0 c0 b1 o1 c1 B C ts' v' l' m.state m.steps wq)
    case first =>
      rcases Bool.eq_false_or_eq_true (givesB i.op) with e1 | e1
      · have hdd := HII.out.d e1
        obtain ⟨hd0, hd1⟩ := hdd
        have n0 := HII.out.n0
        have n1 := HII.out.n1
        have o0' := HII.out.p0
        have o1' := HII.out.p1
        have hlen := HMO.out.len
        have hne1 : ¬ wr.heap.size = w.heap.size + 1 + 1 + 1 := by omega
        have hne2 : ¬ w.heap.size + 1 + 1 + 1 = wr.heap.size := by omega
        rw [e1]
        go_wp2
        go_region_held3 (fun w' => w'.cell? ⟨wr.heap.size, 0, none⟩ = some (.int .i64 i.op) ∧ w'.cell? ⟨wr.heap.size, 1, none⟩ = some (.int .i64 i.dest) ∧ w'.cell? ⟨wr.heap.size, 2, none⟩ = some (.int .i64 i.a) ∧ w'.cell? ⟨wr.heap.size, 3, none⟩ = some (.int .i64 i.b) ∧ w'.cell? ⟨wr.heap.size, 4, none⟩ = some (.int .i64 i.c) ∧ w'.cell? ⟨wr.heap.size, 5, none⟩ = some (.int .u32 i.n))
          ((go_split_ands; refine ⟨?_, ?_, ?_, ?_, ?_, ?_⟩ <;> first | exact step_cell hb1 (by assumption) | exact cell_other (by assumption) (by dsimp only; omega) | go_keep))
          ((go_at_call 26; refine (gives3 i a b xi hua hub xb0 xb1 n0 n1 (by omega) (by omega) _).mono ?_; rintro e w1 ⟨rfl, hb1⟩; have fz : w1.frozen? ⟨w.heap.size + 1 + 1 + 1, i.dest.toNat, none⟩ = false := (HPB.out.tm.drew.below hb1).frozen _; have cz : w1.cell? ⟨w.heap.size + 1 + 1 + 1, i.dest.toNat, none⟩ = some (.int .u64 (m.temps.getD i.dest.toNat 0)) := (by rw [(HPB.out.tm.drew.below hb1).cell]; simp [List.getD, show i.dest.toNat < m.temps.length by omega])))
        go_wp2
        go_meet
        case rel =>
          rw [show ts' = m.temps.set i.dest.toNat (gvI i a b xi) by rw [HTS.out, e1]; rfl]
          exact ((HPB.out.below ((Below.refl _ _).drew)).below hb1).setTemp _ _
      · rw [e1]
        go_wp2
        go_meet
        case rel => rw [show ts' = m.temps by rw [HTS.out, e1]; rfl]; exact HPB.out
    have HPC : Hid (PS w b0 o0 c0 b1 o1 c1 B C ts' v' l' m.state m.steps wc) := hcut
    have P0 := hcut.p0
    have P1 := hcut.p1
    clear hcut r0 r1 r2 r3 r4 r5 hriB
    have hpc := HMO.out.pcok HST0.out
    have HIE2 : Hid (C.getD m.pc .zero = i) := HIE.out.symm
    obtain ⟨nx, hnx⟩ : ∃ x, x = nxI i m.pc a := ⟨_, rfl⟩
    obtain ⟨st', hst'⟩ : ∃ x, x = stI i C.length nx := ⟨_, rfl⟩
    have HNX : Hid (nxI i m.pc a = nx) := hnx.symm
    have HSX : Hid (stI i C.length nx = st') := hst'.symm
    clear hnx hst'
    go_wp2_with (go_at_call 27; refine (next3 b0 o0 c0 b1 o1 c1 B C m.pc a _ s4 ?_ hpc).mono ?_; (exact h.later HPC.out.bel); rintro e w3 ⟨rfl, hb3⟩; rw [HIE2.out, HNX.out, HSX.out]; have T2 : w3.cell? ⟨w.heap.size + 1 + 1, 2, none⟩ = some (.int .i64 m.steps) := (HPC.out.sh.below hb3).cell 2; have T0 : w3.cell? ⟨w.heap.size + 1 + 1, 0, none⟩ = some (.int .i64 m.state) := (HPC.out.sh.below hb3).cell 0; have Z0 := (HPC.out.sh.below hb3).frozen 0; have Z2 := (HPC.out.sh.below hb3).frozen 2; have HPD : Hid (PS w b0 o0 c0 b1 o1 c1 B C ts' v' l' m.state m.steps w3) := HPC.out.below hb3)
    go_roundg (gk - 1)
    case measure => omega
    case rel =>
      have hnn : 0 ≤ nx := by
        rw [← HNX.out]
        unfold nxI
        split
        · rename_i hc
          exact (HII.out.c (by rcases hc with hc | hc; exact Or.inl hc; exact Or.inr hc.1)).1
        · omega
      have hstep : m.step C I = ⟨nx.toNat, ts', tk', l', st', m.steps + 1⟩ := by
        have e1 : gvI i a b xi = gvI i a b (inOf I m.taken) := by
          rw [HXI.out, HINB.out]
          unfold gvI inOf
          by_cases e3 : i.op = 3
          · by_cases e4 : m.taken < I.length
            · simp [e3, e4]
            · simp [e3, e4, List.getD]
          · simp [e3]
        have e2 : tk' = if i.op = 3 ∧ m.taken < I.length then m.taken + 1 else m.taken := by
          rw [HTK.out, HINB.out]; simp
        have e3 : l' = if i.op = 4 then m.out ++ [a % 4294967296] else m.out := by
          rw [HL'.out]; simp
        unfold Mac.step
        simp only
        rw [HIE2.out, ← HAE.out, ← HBE.out, HNX.out, HSX.out, ← e1, ← HTS.out, ← e2, ← e3]
      have hmok := mok_step HMO.out HST0.out (by rw [HIE2.out]; exact HII.out) HIb.out
      rw [hstep] at hmok
      refine ⟨⟨nx.toNat, ts', tk', l', st', m.steps + 1⟩, v', by go_num, rfl, ?_, hmok, by simp only; omega, by simp only; omega, ?_⟩
      · exact (HPD.out.setState st').setSteps (m.steps + 1)
      · rw [← HF.out, ← hstep]
        have e : n - m.steps = (n - (m.steps + 1)) + 1 := by omega
        rw [e]
        show _ = if m.state = 0 then _ else _
        rw [if_pos HST0.out]
        rfl

end Go.Proofs.YtcmnmogmdhofcabGreat.form

/- The numbers of a program (loanbookref8.numbers): rising, each once. -/
namespace Go.Proofs.YtcmnmogmdhofcabGreat.form
open Go.RowKit Go.Proofs.YtcmnmogmdhofcabGreat.num
set_option linter.unusedVariables false
attribute [local go_sem ↓] Go.wp_at_zero Go.wp_at_succ

theorem own_cell {w : World} {base : Nat} {e : TypeId} {g cap n : Nat} {xs : List Value} (h : w.ownsRow base e 1 (.slice (some ⟨g, 0, none⟩) n cap) n xs) {i : Nat} (hi : i < n) : w.cell? ⟨g, i, none⟩ = xs[i]? := by
  rw [World.ownsRow.cellAt h i (by have := h.1; omega)]
theorem own_frozen {w : World} {base : Nat} {e : TypeId} {g cap n : Nat} {xs : List Value} (h : w.ownsRow base e 1 (.slice (some ⟨g, 0, none⟩) n cap) n xs) (i : Nat) : w.frozen? ⟨g, i, none⟩ = false := by
  rcases h.2 with ⟨hn, _⟩ | ⟨g', cap', cur, hv, hb, hgg, h1, h2, h3, h4⟩
  · exact absurd hn (by simp)
  · simp at hv
    obtain ⟨rfl, rfl⟩ := hv
    simp [World.frozen?, hgg]

structure NuS (w : World) (b1 o1 c1 nC : Nat) (l : List Int) (v : Value) (wr : World) : Prop where
  bel : Below w.heap.size w wr
  p1 : wr.cell? ⟨w.heap.size, 1, none⟩ = some (.slice (some ⟨b1, o1, none⟩) nC c1)
  own : wr.ownsRow (w.heap.size + 1) 33 1 v l.length (l.map (Value.int .u32))

section
variable {w : World} {b1 o1 c1 nC : Nat} {l : List Int} {v : Value} {wr w1 : World}
theorem NuS.below (h : NuS w b1 o1 c1 nC l v wr) (hb : Below wr.heap.size wr w1) : NuS w b1 o1 c1 nC l v w1 := ⟨step_below hb h.bel, step_cell hb h.p1, own_below h.own hb⟩
theorem NuS.ownNe (h : NuS w b1 o1 c1 nC l v wr) {b : Nat} (hb : b < w.heap.size + 1) : v.ownBlock ≠ some b := fun e => by have := (World.ownsRow.lt h.own _ e).1; omega
theorem NuS.push (h : NuS w b1 o1 c1 nC l v wr) {g cap : Nat} {y : Int} (hz : w.heap.size + 1 ≤ wr.heap.size)
    (hown : w1.ownsRow (w.heap.size + 1) 33 1 (.slice (some ⟨g, 0, none⟩) (l.length + 1) cap) (l.length + 1) (l.map (Value.int .u32) ++ [.int .u32 y])) (hgrow : wr.grownBy w1 v.ownBlock) :
    NuS w b1 o1 c1 nC (l ++ [y]) (.slice (some ⟨g, 0, none⟩) (l.length + 1) cap) w1 :=
  ⟨h.bel.grown hgrow (by omega) (fun j hj => by have := (World.ownsRow.lt h.own _ hj).1; omega), by rw [hgrow.cell_far _ (by dsimp only; omega) (Ne.symm (h.ownNe (by dsimp only; omega)))]; exact h.p1, by simpa using hown⟩
theorem NuS.form (h : NuS w b1 o1 c1 nC l v wr) (hl : 0 < l.length) : ∃ g cap, v = .slice (some ⟨g, 0, none⟩) l.length cap ∧ w.heap.size + 1 ≤ g ∧ g < wr.heap.size ∧ ∀ j, j < l.length → wr.cell? ⟨g, j, none⟩ = some (.int .u32 (l.getD j 0)) := by
  obtain ⟨g, cap, rfl, hbg, hlt⟩ := h.own.form hl
  refine ⟨g, cap, rfl, hbg, hlt, fun j hj => ?_⟩
  rw [World.ownsRow.cellAt h.own j (by omega)]
  simp [List.getD, hj]
end
end Go.Proofs.YtcmnmogmdhofcabGreat.form

/- The numbers of a program, rising (check.numbersOf). -/
namespace Go.Proofs.YtcmnmogmdhofcabGreat.form
open Go.RowKit
set_option linter.unusedVariables false
set_option maxRecDepth 100000
attribute [local go_sem ↓] Go.wp_at_zero Go.wp_at_succ

def numsTo (C : List LIns) (k : Nat) : List Int := 0 :: ((C.take k).filter (fun i => i.op == 1)).map (·.n)
theorem numsTo_len (C : List LIns) (k : Nat) : (numsTo C k).length ≤ k + 1 := by
  unfold numsTo
  have := List.length_filter_le (fun i : LIns => i.op == 1) (C.take k)
  simp at this ⊢
  omega
theorem numsTo_step {C : List LIns} {k : Nat} (hk : k < C.length) : numsTo C (k + 1) = numsTo C k ++ (if (C.getD k .zero).op = 1 then [(C.getD k .zero).n] else []) := by
  have e : C.take (k + 1) = C.take k ++ [C.getD k .zero] := by rw [List.take_succ_eq_append_getElem hk]; simp [List.getD, hk]
  unfold numsTo
  rw [e, List.filter_append, List.map_append]
  obtain ⟨i, hi⟩ : ∃ i, i = C.getD k .zero := ⟨_, rfl⟩
  rw [← hi]
  by_cases h : i.op = 1
  · simp [List.filter, h]
  · have h2 : (i.op == 1) = false := by simpa using h
    simp [List.filter, h, h2]
theorem numsTo_mem {C : List LIns} {x : Int} : x ∈ numsTo C C.length ↔ NumP C x := by
  unfold numsTo NumP
  rw [List.take_length]
  simp only [List.mem_cons, List.mem_map, List.mem_filter, beq_iff_eq]
  refine or_congr Iff.rfl ?_
  constructor
  · rintro ⟨i, ⟨hi, h1⟩, h2⟩
    obtain ⟨k, hk, he⟩ := List.mem_iff_getElem.1 hi
    exact ⟨k, hk, by simp [List.getD, hk, he, h1], by simp [List.getD, hk, he, h2]⟩
  · rintro ⟨k, hk, h1, h2⟩
    refine ⟨C.getD k .zero, ⟨by simp [List.getD, hk], h1⟩, h2⟩

def NumsAt (w : World) (lo : Nat) (v : Value) (N : List Int) : Prop := ∃ b cap, v = .slice (some ⟨b, 0, none⟩) N.length cap ∧ lo ≤ b ∧ b < w.heap.size ∧ ∀ j, j < N.length → w.cell? ⟨b, j, none⟩ = some (.int .u32 (N.getD j 0))
structure NumsOk (C : List LIns) (N : List Int) : Prop where
  one : 1 ≤ N.length
  le : N.length ≤ C.length + 1
  inc : N.Pairwise (· < ·)
  num : NumsOf C N
def NumsAns (C : List LIns) (w : World) (e : Ending) (w' : World) : Prop := ∃ v N, e = .returned v ∧ NumsAt w' w.heap.size v N ∧ NumsOk C N ∧ Below w.heap.size w w'

theorem nums_ok {C : List LIns} {E : List Int} {d d' : Array Int} (hd : d.toList = numsTo C C.length) (hp : Go.Sort.PermIn 0 d.size d d') (h1 : 1 ≤ E.length) (hle : E.length ≤ d'.size) (hinc : E.Pairwise (· < ·)) (hm : ∀ x, x ∈ E ↔ ∃ j, j < d'.size ∧ d'[j]! = x) : NumsOk C E := by
  have hs : d'.size = d.size := hp.1
  have hperm : d'.toList.Perm d.toList := by
    have h := hp.2.2
    have e1 : d.extract 0 d.size = d := by simp
    have e2 : d'.extract 0 d.size = d' := by rw [← hs]; simp
    rw [e1, e2] at h
    exact h
  have hdl : d.size = (numsTo C C.length).length := by rw [← hd]; simp
  refine ⟨h1, by have := numsTo_len C C.length; omega, hinc, fun x => ?_⟩
  have hx : x ∈ E ↔ NumP C x := by
    rw [hm, ← numsTo_mem, ← hd, ← hperm.mem_iff]
    constructor
    · rintro ⟨j, hj, rfl⟩
      rw [getElem!_pos d' j hj]
      simp
    · intro h
      obtain ⟨j, hj, he⟩ := List.mem_iff_getElem.1 h
      refine ⟨j, by simpa using hj, ?_⟩
      rw [getElem!_pos d' j (by simpa using hj), ← he]
      simp
  rw [← hx]
  constructor
  · rintro ⟨k, hk, rfl⟩
    unfold nAt
    simp [List.getD, hk]
  · intro h
    obtain ⟨k, hk, he⟩ := List.mem_iff_getElem.1 h
    exact ⟨k, hk, by unfold nAt; simp [List.getD, hk, he]⟩
theorem own_holds {w : World} {base g cap : Nat} {l : List Int} (h : w.ownsRow base 33 1 (.slice (some ⟨g, 0, none⟩) l.length cap) l.length (l.map (Value.int .u32))) : Go.Sort.Holds sortu.encU w g 0 l.toArray := by
  intro j hj
  have hj' : j < l.length := by simpa using hj
  refine ⟨?_, ?_⟩
  · rw [Nat.zero_add, own_cell h hj']
    simp [hj']
  · rw [Nat.zero_add]; exact own_frozen h j

theorem own_cap {w : World} {base g cap n size : Nat} {e : TypeId} {xs : List Value} (h : w.ownsRow base e size (.slice (some ⟨g, 0, none⟩) n cap) n xs) : n ≤ cap := by
  rcases h.2 with ⟨hn, _⟩ | ⟨g', cap', cur, hv, _, _, h1, _⟩
  · cases hn
  · injection hv with _ _ h3
    omega

set_option maxHeartbeats 1600000 in
theorem numbersOfO (b0 o0 c0 b1 o1 c1 : Nat) (B : List Bool) (C : List LIns) (w : World) (hC : C.length ≤ 40) (h : Held w b0 o0 b1 o1 B C) :
    Calls Tryz.prog 40 #[progV b0 o0 B.length c0 b1 o1 C.length c1] w fun e w' => NumsAns C w e w' := by
  have y2 : (C.length : Int) ≤ 40 := by omega
  have HH : Hid (Held w b0 o0 b1 o1 B C) := h
  have hlt1 := h.lt1
  clear h
  unfold progV
  go_enter Tryz.func40, Tryz.ntmps40
  go_wp2
  go_loopg [3, 5, 10] (C.length + 1) (fun gg v3 v5 v wr => ∃ (k : Nat), v = .int .i64 k ∧ k ≤ C.length ∧ gg = C.length + 1 - k ∧ NuS w b1 o1 c1 C.length (numsTo C k) v3 wr)
  case atStart =>
    refine ⟨0, rfl, by omega, by omega, ((Below.refl _ _).alloc (Nat.le_refl _) _).alloc (by simp) _, by simp [go_sem], ?_⟩
    refine ⟨rfl, .inr ⟨w.heap.size + 1, 1, #[.int .u32 0], rfl, by omega, ?_, by simp [numsTo], by unfold maxLen; omega, rfl, rfl⟩⟩
    have := heap_alloc_new (w.alloc (.cells #[.slice (some ⟨b0, o0, none⟩) B.length c0, .slice (some ⟨b1, o1, none⟩) C.length c1] 25)) (.cells #[.int .u32 0] 33)
    simpa using this
  case round =>
    obtain ⟨k, rfl, hk, hgk, hnu⟩ := hrel
    have HGK : Hid (gk = C.length + 1 - k) := hgk
    obtain ⟨l, hl⟩ : ∃ l, l = numsTo C k := ⟨_, rfl⟩
    have HL : Hid (l = numsTo C k) := hl
    have hll : l.length ≤ 41 := by rw [hl]; have := numsTo_len C k; omega
    have hl1 : 1 ≤ l.length := by rw [hl]; simp [numsTo]
    rw [← hl] at hnu
    have HNU : Hid (NuS w b1 o1 c1 C.length l u3 wr) := hnu
    obtain ⟨g, cap, hv, hg1, hg2, hgc⟩ := hnu.form (by omega)
    have hwz := hnu.bel.size
    subst hv
    clear hgk hnu hl hgc
    by_cases hkl : k < C.length
    case neg =>
      obtain rfl : k = C.length := by omega
      have hkz : ¬ (C.length : Int) < (C.length : Int) := by omega
      have hH := own_holds HNU.out.own
      have hsz : l.toArray.size = l.length := by simp
      have hcap : l.length ≤ cap := own_cap HNU.out.own
      have cS := sortu.sortU g 0 cap l.toArray wr hH hg2 (by rw [hsz]; omega)
      rw [hsz] at cS
      have hd0 : l.toArray.toList = numsTo C C.length := by simpa using HL.out
      have HD0 : Hid (l.toArray.toList = numsTo C C.length) := hd0
      have HBR : Hid (Below w.heap.size w wr) := HNU.out.bel
      clear hH hsz HNU HGK hd0
      go_upto_region 9 with (go_at_call 65; refine cS.mono ?_; rintro e w1 ⟨rfl, d', h1, h2, h3⟩; have H1 : Hid (sortu.Row wr g 0 d' w1) := h1; have H2 : Hid (Go.Sort.PermIn 0 l.length l.toArray d') := h2; have H3 : Hid (Go.Sort.SortedIn Go.Sort.ltInt 0 l.length d') := h3; clear h1 h2 h3)
      have hsd : d'.size = l.length := by have := H2.out.1; simpa using this
      have hso := H3.out
      have c := sortu.compactU g 0 cap d' w1 H1.out.holds (by omega) (by omega) (by omega) (by rw [hsd]; exact hso)
      rw [hsd] at c
      have HSD : Hid (d'.size = l.length) := hsd
      clear cS hso hsd
      go_wp2_with (go_at_call 66; refine c.mono ?_; rintro e w2 ⟨E, rfl, hon⟩; have HON : Hid (sortu.Once w1 g 0 cap d' E w2) := hon; clear hon)
      go_ret
      have hon := HON.out
      have hb1 : Below w.heap.size w w1 := HBR.out.grown H1.out.grown (by omega) (fun j hj => by cases hj; omega)
      have hs1 := hb1.size
      have hb2 : Below w.heap.size w w2 := hb1.grown hon.grown (by omega) (fun j hj => by cases hj; omega)
      have hlt2 : g < w2.heap.size := by have := H1.out.grown.size; have := hon.grown.size; omega
      refine ⟨_, E, rfl, ⟨g, cap, rfl, by omega, hlt2, fun j hj => by have := hon.cells j hj; rwa [Nat.zero_add] at this⟩, nums_ok HD0.out (by have := H2.out; simpa using this) hon.one hon.le hon.inc hon.mem, hb2⟩
    have hkz : (k : Int) < (C.length : Int) := by omega
    obtain ⟨d0, d1, d2, d3, d4, d5⟩ := (HH.out.later HNU.out.bel).code k hkl
    obtain ⟨i, hi⟩ : ∃ i, i = C.getD k .zero := ⟨_, rfl⟩
    rw [← hi] at d0 d1 d2 d3 d4 d5
    have HI : Hid (i = C.getD k .zero) := hi
    clear hi
    have hlt1r : b1 < wr.heap.size := by omega
    by_cases hop : i.op = 1
    · have hop1 : (i.op == 1) = true := by simp [hop]
      have HOP : Hid (i.op = 1) := hop
      clear hop
      obtain ⟨t0', hi0, hy0, hy1, hy2⟩ := info_parts infoU32
      go_wp2_with (at_builtin; refine wpList_append_lies _ rfl _ _ 32 rfl (w.heap.size + 1) 33 t0' (.int .u32 0) 1 4 Tryz.underlying32 hi0 hy0 hy1 hy2 rfl (by decide) (.slice (some ⟨g, 0, none⟩) l.length cap) l.length (l.map (Value.int .u32)) rfl (World.ownsRow.alloc (World.ownsRow.alloc HNU.out.own _) _) ⟨wr.heap.size + 1, 0, none⟩ 1 1 [.int .u32 i.n] rfl rfl ?c1 ?c2 (by decide) ?c3 ?c4 ?c5 _ rfl ?_)
      case c1 =>
        intro j u hu
        rcases j with _ | j
        · simp at hu; subst hu; simp [go_sem, Addr.add]
        · simp at hu
      case c2 => simp [Value.oneCell']
      case c3 => unfold maxLen; omega
      case c4 => omega
      case c5 => first | omega | (simp; omega)
      intro g9 cap9 w9 hown hgrow hat hlt9
      have hP := (HNU.out.below (((Below.refl _ _).alloc (Nat.le_refl _) (.cells #[.int .i64 i.op, .int .i64 i.dest, .int .i64 i.a, .int .i64 i.b, .int .i64 i.c, .int .u32 i.n] 35)).alloc (by simp) (.cells #[.int .u32 i.n] 33))).push (by simp; omega) hown hgrow
      have HP : Hid (NuS w b1 o1 c1 C.length (l ++ [i.n]) (.slice (some ⟨g9, 0, none⟩) (l.length + 1) cap9) w9) := hP
      clear hP hown hgrow hat
      go_wp2
      have hgk := HGK.out
      go_roundg (gk - 1)
      case measure => omega
      case rel =>
        refine ⟨k + 1, by go_num, by omega, by omega, ?_⟩
        rw [numsTo_step hkl, ← HI.out, if_pos HOP.out, ← HL.out]
        exact HP.out
    · have hop1 : (i.op == 1) = false := by simp [hop]
      have HOP : Hid (¬ i.op = 1) := hop
      clear hop
      have HP : Hid (NuS w b1 o1 c1 C.length l (.slice (some ⟨g, 0, none⟩) l.length cap) (wr.alloc (.cells #[.int .i64 i.op, .int .i64 i.dest, .int .i64 i.a, .int .i64 i.b, .int .i64 i.c, .int .u32 i.n] 35))) := HNU.out.below ((Below.refl _ _).alloc (Nat.le_refl _) _)
      go_wp2
      have hgk := HGK.out
      go_roundg (gk - 1)
      case measure => omega
      case rel =>
        refine ⟨k + 1, by go_num, by omega, by omega, ?_⟩
        rw [numsTo_step hkl, ← HI.out, if_neg HOP.out, List.append_nil, ← HL.out]
        exact HP.out
end Go.Proofs.YtcmnmogmdhofcabGreat.form

/- What the program's own functions on moves and targets answer: holds, isEmpty, kindsMay, moveMay, movesMay, mostAfter, targetMay, roomOf. -/
namespace Go.Proofs.YtcmnmogmdhofcabGreat.form
open Go.RowKit
set_option linter.unusedVariables false
attribute [local go_sem ↓] Go.wp_at_zero Go.wp_at_succ

def emptyB (p : LPlace) : Bool := (p.kind == 0) && (p.n == 0)

set_option maxRecDepth 100000 in
theorem isEmpty (p : LPlace) (w : World) : Calls Tryz.prog 97 #[p.val] w fun e w' => e = .returned (.bool (emptyB p)) ∧ Below w.heap.size w w' := by
  unfold LPlace.val
  have HB : Hid (∀ o1 : Obj, Below w.heap.size w (w.alloc o1)) := fun o1 => (Below.refl _ _).alloc (Nat.le_refl _) _
  have q57 := eqPlace
  go_enter Tryz.func97, Tryz.ntmps97
  go_wp2
  go_ret
  exact ⟨ret_bool rfl, HB.out _⟩

def kindsB (a b : Int) : Bool := if a = b then a != 3 else (a == 3) || (b == 3)
theorem kindsMay (a b : Int) (w : World) : Calls Tryz.prog 125 #[.int .i64 a, .int .i64 b] w fun e w' => e = .returned (.bool (kindsB a b)) ∧ w' = w := by
  by_cases h : a = b
  · have e1 : (a == b) = true := by simp [h]
    have HE : Hid (kindsB a b = (a != 3)) := by show kindsB a b = _; unfold kindsB; rw [if_pos h]
    clear h
    go_enter Tryz.func125, Tryz.ntmps125
    go_wp2
    go_ret
    exact ⟨ret_bool (by rw [HE.out]; try rfl), rfl⟩
  · have e1 : (a == b) = false := by simp [h]
    have HE : Hid (kindsB a b = ((a == 3) || (b == 3))) := by show kindsB a b = _; unfold kindsB; rw [if_neg h]
    clear h
    rcases Bool.eq_false_or_eq_true (a == 3) with e2 | e2
    all_goals
      go_enter Tryz.func125, Tryz.ntmps125
      go_wp2
      go_ret
      exact ⟨ret_bool (by rw [HE.out, e2]; simp), rfl⟩

def holdB (a b c : Int) (p : LPlace) (wide : Bool) : Bool := (p.kind == if wide then 2 else 1) && hasB a b c p
set_option maxRecDepth 100000 in
set_option maxHeartbeats 1000000 in
theorem holds (a b c : Int) (p : LPlace) (wide : Bool) (w : World) : Calls Tryz.prog 96 #[roomV a b c, p.val, .bool wide] w fun e w' => e = .returned (.bool (holdB a b c p wide)) ∧ Below w.heap.size w w' := by
  unfold roomV LPlace.val
  have HB : Hid (∀ o1 o2 : Obj, Below w.heap.size w ((w.alloc o1).alloc o2)) := fun o1 o2 => ((Below.refl _ _).alloc (Nat.le_refl _) _).alloc (by simp) _
  cases wide
  · have HE : Hid (holdB a b c p false = ((p.kind == 1) && hasB a b c p)) := rfl
    rcases Bool.eq_false_or_eq_true (p.kind == 1) with e1 | e1
    all_goals
      go_enter Tryz.func96, Tryz.ntmps96
      go_wp2_with (go_at_call 124; refine (roomHas a b c p _).mono ?_; rintro e w1 ⟨rfl, hb1⟩)
      go_ret
    · exact ⟨ret_bool (by rw [HE.out, e1]; rfl), over_alloc (over_alloc hb1)⟩
    · exact ⟨ret_bool (by rw [HE.out, e1]; rfl), HB.out _ _⟩
  · have HE : Hid (holdB a b c p true = ((p.kind == 2) && hasB a b c p)) := rfl
    rcases Bool.eq_false_or_eq_true (p.kind == 2) with e1 | e1
    all_goals
      go_enter Tryz.func96, Tryz.ntmps96
      go_wp2_with (go_at_call 124; refine (roomHas a b c p _).mono ?_; rintro e w1 ⟨rfl, hb1⟩)
      go_ret
    · exact ⟨ret_bool (by rw [HE.out, e1]; rfl), over_alloc (over_alloc hb1)⟩
    · exact ⟨ret_bool (by rw [HE.out, e1]; rfl), HB.out _ _⟩

def mostI (op : Int) : Int := if op = 8 ∨ op = 9 ∨ op = 10 then 0 else 6
theorem mostAfter (op : Int) (w : World) : Calls Tryz.prog 64 #[.int .i64 op] w fun e w' => e = .returned (.int .i64 (mostI op)) ∧ w' = w := by
  go_enter Tryz.func64, Tryz.ntmps64
  go_wp2
  all_goals
    go_ret
    refine ⟨?_, rfl⟩
    unfold mostI
    simp_all

set_option maxRecDepth 100000 in
theorem targetMay (s : Int) (w : World) : Calls Tryz.prog 31 #[targetV s] w fun e w' => e = .returned (.bool (targetB s)) ∧ Below w.heap.size w w' := by
  unfold targetV
  have HB : Hid (∀ o1 : Obj, Below w.heap.size w (w.alloc o1)) := fun o1 => (Below.refl _ _).alloc (Nat.le_refl _) _
  rcases (show ¬ 4 ≤ s ∨ (4 ≤ s ∧ ¬ s ≤ 16) ∨ (4 ≤ s ∧ s ≤ 16) by omega) with h | ⟨h, h1⟩ | ⟨h, h1⟩
  · have HE : Hid (targetB s = false) := by show targetB s = false; unfold targetB; simp; omega
    go_enter Tryz.func31, Tryz.ntmps31
    go_wp2
    go_ret
    exact ⟨ret_bool HE.out.symm, HB.out _⟩
  · have HE : Hid (targetB s = false) := by show targetB s = false; unfold targetB; simp; omega
    go_enter Tryz.func31, Tryz.ntmps31
    go_wp2
    go_ret
    exact ⟨ret_bool HE.out.symm, HB.out _⟩
  · have HE : Hid (targetB s = (s % 2 == 0)) := by show targetB s = _; unfold targetB; rw [Bool.eq_iff_iff]; simp; omega
    go_enter Tryz.func31, Tryz.ntmps31
    go_wp2
    go_ret
    exact ⟨ret_bool (by rw [HE.out]; try rfl), HB.out _⟩

set_option maxRecDepth 100000 in
theorem roomOf (s slots : Int) (h0 : 4 ≤ s) (h1 : s ≤ 16) (w : World) : Calls Tryz.prog 37 #[targetV s, .int .i64 slots] w fun e w' => e = .returned (roomV s (s / 2) slots) ∧ Below w.heap.size w w' := by
  unfold targetV
  have HB : Hid (∀ o1 o2 : Obj, Below w.heap.size w ((w.alloc o1).alloc o2)) := fun o1 o2 => ((Below.refl _ _).alloc (Nat.le_refl _) _).alloc (by simp) _
  go_enter Tryz.func37, Tryz.ntmps37
  go_wp2
  refine bodyPost_ret (v := roomV s (s / 2) slots) ?_ rfl ⟨rfl, HB.out _ _⟩
  simp [results, Tryz.results37, go_sem, roomV]

def moveO (a b c : Int) (m : LMove) : Bool := if m.cst then emptyB m.src && holdB a b c m.dst false else (m.n == 0) && hasB a b c m.dst && hasB a b c m.src && kindsB m.dst.kind m.src.kind

set_option maxRecDepth 100000 in
set_option maxHeartbeats 1000000 in
theorem moveMay (a b c : Int) (m : LMove) (w : World) : Calls Tryz.prog 98 #[roomV a b c, m.val] w fun e w' => e = .returned (.bool (moveO a b c m)) ∧ Below w.heap.size w w' := by
  unfold roomV LMove.val
  have HB : Hid (∀ o1 o2 : Obj, Below w.heap.size w ((w.alloc o1).alloc o2)) := fun o1 o2 => ((Below.refl _ _).alloc (Nat.le_refl _) _).alloc (by simp) _
  obtain ⟨k, hk⟩ : ∃ k, k = m.cst := ⟨_, rfl⟩
  rw [← hk]
  have HK : Hid (m.cst = k) := hk.symm
  clear hk
  have step : ∀ (w1 : World), Below ((w.alloc (.cells #[.int .i64 0, .int .i64 a, .int .i64 b, .int .i64 c] 94)).alloc (.cells #[.int .i64 m.dst.kind, .int .i64 m.dst.n, .int .i64 m.src.kind, .int .i64 m.src.n, .bool k, .int .u32 m.n] 52)).heap.size ((w.alloc (.cells #[.int .i64 0, .int .i64 a, .int .i64 b, .int .i64 c] 94)).alloc (.cells #[.int .i64 m.dst.kind, .int .i64 m.dst.n, .int .i64 m.src.kind, .int .i64 m.src.n, .bool k, .int .u32 m.n] 52)) w1 →
      Below w.heap.size w w1 ∧ w1.cell? ⟨w.heap.size, 0, none⟩ = some (.int .i64 0) ∧ w1.cell? ⟨w.heap.size, 1, none⟩ = some (.int .i64 a) ∧ w1.cell? ⟨w.heap.size, 2, none⟩ = some (.int .i64 b) ∧ w1.cell? ⟨w.heap.size, 3, none⟩ = some (.int .i64 c) ∧ w1.cell? ⟨w.heap.size + 1, 0, none⟩ = some (.int .i64 m.dst.kind) ∧ w1.cell? ⟨w.heap.size + 1, 1, none⟩ = some (.int .i64 m.dst.n) ∧ w1.cell? ⟨w.heap.size + 1, 2, none⟩ = some (.int .i64 m.src.kind) ∧ w1.cell? ⟨w.heap.size + 1, 3, none⟩ = some (.int .i64 m.src.n) := by
    intro w1 hb1
    exact ⟨over_alloc (over_alloc hb1), step_cell hb1 (by simp [go_sem]), step_cell hb1 (by simp [go_sem]), step_cell hb1 (by simp [go_sem]), step_cell hb1 (by simp [go_sem]), step_cell hb1 (by simp [go_sem]), step_cell hb1 (by simp [go_sem]), step_cell hb1 (by simp [go_sem]), step_cell hb1 (by simp [go_sem])⟩
  have HS : Hid _ := step
  clear step
  cases k
  · have HE : Hid (moveO a b c m = ((m.n == 0) && hasB a b c m.dst && hasB a b c m.src && kindsB m.dst.kind m.src.kind)) := by show moveO a b c m = _; unfold moveO; rw [HK.out]; rfl
    rcases Bool.eq_false_or_eq_true (m.n == 0) with e1 | e1
    · cases hd : hasB a b c m.dst
      · have HE2 : Hid (moveO a b c m = false) := by show moveO a b c m = _; rw [HE.out, hd]; simp
        go_enter Tryz.func98, Tryz.ntmps98
        go_wp2_with (go_at_call 124; refine (roomHas a b c m.dst _).mono ?_; rw [hd]; rintro e w1 ⟨rfl, hb1⟩)
        go_ret
        exact ⟨ret_bool HE2.out.symm, over_alloc (over_alloc hb1)⟩
      · cases hq : hasB a b c m.src
        · have HE2 : Hid (moveO a b c m = false) := by show moveO a b c m = _; rw [HE.out, hq]; simp
          go_enter Tryz.func98, Tryz.ntmps98
          go_wp2_with fail
          go_at_call 124
          refine (roomHas a b c m.dst _).mono ?_
          rw [hd]
          rintro e w1 ⟨rfl, hb1⟩
          obtain ⟨hbel, r0, r1, r2, r3, t0, t1, t2, t3⟩ := HS.out w1 hb1
          clear hb1
          go_wp2_with (go_at_call 124; refine (roomHas a b c m.src _).mono ?_; rw [hq]; rintro e w2 ⟨rfl, hb2⟩)
          go_ret
          exact ⟨ret_bool HE2.out.symm, step_below hb2 hbel⟩
        · have HE2 : Hid (moveO a b c m = kindsB m.dst.kind m.src.kind) := by show moveO a b c m = _; rw [HE.out, hq, hd, e1]; simp
          go_enter Tryz.func98, Tryz.ntmps98
          go_wp2_with fail
          go_at_call 124
          refine (roomHas a b c m.dst _).mono ?_
          rw [hd]
          rintro e w1 ⟨rfl, hb1⟩
          obtain ⟨hbel, r0, r1, r2, r3, t0, t1, t2, t3⟩ := HS.out w1 hb1
          clear hb1
          go_wp2_with (first | (go_at_call 124; refine (roomHas a b c m.src _).mono ?_; rw [hq]; rintro e w2 ⟨rfl, hb2⟩; have v0 := step_cell hb2 t0; have v2 := step_cell hb2 t2) | (go_at_call 125; refine (kindsMay _ _ _).mono ?_; rintro e w3 ⟨rfl, hw3⟩; obtain rfl := hw3.symm))
          go_ret
          exact ⟨ret_bool HE2.out.symm, step_below hb2 hbel⟩
    · have HE2 : Hid (moveO a b c m = false) := by show moveO a b c m = _; rw [HE.out, e1]; rfl
      go_enter Tryz.func98, Tryz.ntmps98
      go_wp2
      go_ret
      exact ⟨ret_bool HE2.out.symm, HB.out _ _⟩
  · have HE : Hid (moveO a b c m = (emptyB m.src && holdB a b c m.dst false)) := by show moveO a b c m = _; unfold moveO; rw [HK.out]; rfl
    cases he : emptyB m.src
    · have HE2 : Hid (moveO a b c m = false) := by show moveO a b c m = _; rw [HE.out, he]; rfl
      go_enter Tryz.func98, Tryz.ntmps98
      go_wp2_with (go_at_call 97; refine (isEmpty m.src _).mono ?_; rw [he]; rintro e w1 ⟨rfl, hb1⟩)
      go_ret
      exact ⟨ret_bool HE2.out.symm, over_alloc (over_alloc hb1)⟩
    · have HE2 : Hid (moveO a b c m = holdB a b c m.dst false) := by show moveO a b c m = _; rw [HE.out, he]; rfl
      go_enter Tryz.func98, Tryz.ntmps98
      go_wp2_with (first | (go_at_call 97; refine (isEmpty m.src _).mono ?_; rw [he]; rintro e w1 ⟨rfl, hb1⟩; obtain ⟨hbel, r0, r1, r2, r3, t0, t1, t2, t3⟩ := HS.out w1 hb1; clear hb1) | (go_at_call 96; refine (holds a b c m.dst false _).mono ?_; rintro e w2 ⟨rfl, hb2⟩))
      go_ret
      exact ⟨ret_bool HE2.out.symm, step_below hb2 hbel⟩

def movesO (a b c : Int) (l : List LMove) (most : Int) : Bool := decide ((l.length : Int) ≤ most) && l.all (moveO a b c)

set_option maxRecDepth 100000 in
set_option maxHeartbeats 1000000 in
theorem movesMay (a b c : Int) (v : Value) (l : List LMove) (most : Int) (hm : most ≤ 6) (w : World) (h : MovesIs w v l) : Calls Tryz.prog 63 #[roomV a b c, v, .int .i64 most] w fun e w' => e = .returned (.bool (movesO a b c l most)) ∧ Below w.heap.size w w' := by
  obtain ⟨ao, cap, rfl, hl, hc⟩ := h
  have HC : Hid _ := hc
  clear hc
  unfold roomV
  by_cases h6 : (l.length : Int) ≤ most
  case neg =>
    have HN : Hid (movesO a b c l most = false) := by show movesO a b c l most = false; simp [movesO, h6]
    go_enter Tryz.func63, Tryz.ntmps63
    go_wp2
    go_ret
    exact ⟨ret_bool HN.out.symm, (Below.refl _ _).alloc (Nat.le_refl _) _⟩
  have hg : (l.length : Int) ≤ 6 := by omega
  go_enter Tryz.func63, Tryz.ntmps63
  go_wp2
  go_loopw [15] (fun i wr => ∃ k : Nat, k ≤ l.length ∧ i = .int .i64 k ∧ Below w.heap.size w wr ∧ w.heap.size < wr.heap.size ∧ wr.cell? ⟨w.heap.size, 0, none⟩ = some (.int .i64 0) ∧ wr.cell? ⟨w.heap.size, 1, none⟩ = some (.int .i64 a) ∧ wr.cell? ⟨w.heap.size, 2, none⟩ = some (.int .i64 b) ∧ wr.cell? ⟨w.heap.size, 3, none⟩ = some (.int .i64 c) ∧ (∀ j, j < k → moveO a b c (l.getD j .zero) = true)) (fun i _ => l.length - (intOf i).toNat)
  case atStart => exact ⟨0, by omega, rfl, (Below.refl _ _).alloc (Nat.le_refl _) _, by simp, by simp [go_sem], by simp [go_sem], by simp [go_sem], by simp [go_sem], fun j hj => absurd hj (by omega)⟩
  case round =>
    obtain ⟨k, hk, rfl, hbel, hsz, r0, r1, r2, r3, hall⟩ := hrel
    have F : Hid _ := hall
    clear hall
    by_cases hlt : k < l.length
    · obtain ⟨b9, o, rfl, hbl, hcell⟩ := HC.out (by omega)
      obtain ⟨d0, d1, d2, d3, d4, d5⟩ := hcell k hlt
      have d0 := step_cell hbel d0
      have d1 := step_cell hbel d1
      have d2 := step_cell hbel d2
      have d3 := step_cell hbel d3
      have d4 := step_cell hbel d4
      have d5 := step_cell hbel d5
      obtain ⟨m, hi⟩ : ∃ m, m = l.getD k .zero := ⟨_, rfl⟩
      rw [← hi] at d0 d1 d2 d3 d4 d5
      have HI : Hid (m = l.getD k .zero) := hi
      clear hi hcell
      have y1 : (0 : Int) ≤ (k : Int) := by omega
      have y2 : (k : Int) < (l.length : Int) := by omega
      have hbl2 : b9 < wr.heap.size := by have := hbel.size; omega
      go_wp2_with (go_at_call 98; refine (moveMay a b c m _).mono ?_; rintro e w1 ⟨rfl, hb1⟩)
      all_goals
        have hb2 := over_alloc hb1
        have hbel1 := step_below hb2 hbel
      · go_ret
        refine ⟨ret_bool ?_, hbel1⟩
        have hf : moveO a b c m = false := by simp_all
        unfold movesO
        rw [eq_comm, Bool.and_eq_false_iff]
        right
        rw [List.all_eq_false]
        refine ⟨m, ?_, by simp [hf]⟩
        rw [HI.out]
        simp [List.getD, hlt]
      · refine ⟨⟨k + 1, by omega, by go_num, hbel1, Nat.lt_of_lt_of_le hsz hb2.size, step_cell hb2 r0, step_cell hb2 r1, step_cell hb2 r2, step_cell hb2 r3, ?_⟩, by simp [intOf]; omega⟩
        intro j hj
        by_cases hjk : j < k
        · exact F.out j hjk
        · obtain rfl : j = k := by omega
          rw [← HI.out]
          simp_all
    · go_wp2
      go_ret
      refine ⟨ret_bool ?_, hbel⟩
      unfold movesO
      rw [eq_comm, Bool.and_eq_true]
      refine ⟨by simp [h6], ?_⟩
      rw [List.all_eq_true]
      intro x hx
      obtain ⟨j, hj, rfl⟩ := List.getElem_of_mem hx
      have := F.out j (by omega)
      simpa [List.getD, hj] using this

end Go.Proofs.YtcmnmogmdhofcabGreat.form

/- What the program's own function on the three fields of a row (place.room.fieldsMay) answers. -/
namespace Go.Proofs.YtcmnmogmdhofcabGreat.form
open Go.RowKit
set_option linter.unusedVariables false
attribute [local go_sem ↓] Go.wp_at_zero Go.wp_at_succ

def rowV (r : LRow) (ab : Option Addr) (cb : Nat) (aa : Option Addr) (ca : Nat) : Value := .agg #[.int .i64 r.dest.kind, .int .i64 r.dest.n, .int .i64 r.a.kind, .int .i64 r.a.n, .int .i64 r.b.kind, .int .i64 r.b.n, .slice ab r.before.length cb, .slice aa r.after.length ca]
def fieldO (B : List Bool) (a b c : Int) (x : Bool) (t : Int) (p : LPlace) : Bool := if x then holdB a b c p (B.getD t.toNat false) else emptyB p
def fieldsO (B : List Bool) (a b c : Int) (i : LIns) (r : LRow) : Bool := (List.range 3).all (fun j => fieldO B a b c (tjF i j) (fjF i j) (pjF r j))
theorem isT_tj {i : LIns} (h : knownB i.op = true) : ∀ j, j < 3 → isT (kd i.op j) = tjF i j := by
  intro j hj
  rcases (show j = 0 ∨ j = 1 ∨ j = 2 by omega) with rfl | rfl | rfl
  · exact isT_gives h
  · exact (isT_many h).1
  · exact (isT_many h).2

structure FS (w : World) (a b c : Int) (b0 o0 c0 nB : Nat) (i : LIns) (nb : Nat) (wr : World) : Prop where
  bel : Below w.heap.size w wr
  lt : w.heap.size + 4 ≤ nb
  size : nb + 2 ≤ wr.heap.size
  r0 : wr.cell? ⟨w.heap.size, 0, none⟩ = some (.int .i64 0)
  r1 : wr.cell? ⟨w.heap.size, 1, none⟩ = some (.int .i64 a)
  r2 : wr.cell? ⟨w.heap.size, 2, none⟩ = some (.int .i64 b)
  r3 : wr.cell? ⟨w.heap.size, 3, none⟩ = some (.int .i64 c)
  p0 : wr.cell? ⟨w.heap.size + 1, 0, none⟩ = some (.slice (some ⟨b0, o0, none⟩) nB c0)
  nm : ∀ j, j < 3 → wr.cell? ⟨nb, j, none⟩ = some (.bool (tjF i j))
  tm : ∀ j, j < 3 → wr.cell? ⟨nb + 1, j, none⟩ = some (.int .i64 (fjF i j))
theorem FS.below {w : World} {a b c : Int} {b0 o0 c0 nB : Nat} {i : LIns} {nb : Nat} {wr w1 : World} (h : FS w a b c b0 o0 c0 nB i nb wr) (hb : Below wr.heap.size wr w1) : FS w a b c b0 o0 c0 nB i nb w1 :=
  ⟨step_below hb h.bel, h.lt, Nat.le_trans h.size hb.size, step_cell hb h.r0, step_cell hb h.r1, step_cell hb h.r2, step_cell hb h.r3, step_cell hb h.p0, fun j hj => step_cell hb (h.nm j hj), fun j hj => step_cell hb (h.tm j hj)⟩

set_option maxRecDepth 100000 in
set_option maxHeartbeats 8000000 in
theorem fieldsMay (b0 o0 c0 b1 o1 c1 : Nat) (B : List Bool) (C : List LIns) (a b c : Int) (i : LIns) (r : LRow) (ab : Option Addr) (cb : Nat) (aa : Option Addr) (ca : Nat) (w : World) (hB : B.length ≤ 12) (h : Held w b0 o0 b1 o1 B C)
    (hk : knownB i.op = true) (hf : ∀ j, j < 3 → tjF i j = true → 0 ≤ fjF i j ∧ fjF i j < B.length) :
    Calls Tryz.prog 62 #[roomV a b c, progV b0 o0 B.length c0 b1 o1 C.length c1, i.val, rowV r ab cb aa ca] w fun e w' => e = .returned (.bool (fieldsO B a b c i r)) ∧ Below w.heap.size w w' := by
  have HF : Hid (∀ j, j < 3 → tjF i j = true → 0 ≤ fjF i j ∧ fjF i j < B.length) := hf
  have HT : Hid (∀ j, j < 3 → isT (kd i.op j) = tjF i j) := isT_tj hk
  clear hf hk
  have hidx : ∀ j : Nat, j < 3 → ∀ w, (Instr.index 167 (.agg #[.int .i64 r.dest.kind, .int .i64 r.dest.n, .int .i64 r.a.kind, .int .i64 r.a.n, .int .i64 r.b.kind, .int .i64 r.b.n]) (.int .i64 j)).run Tryz.prog w = .ok (.agg #[.int .i64 (pjF r j).kind, .int .i64 (pjF r j).n]) w := by
    intro j hj w
    rcases (show j = 0 ∨ j = 1 ∨ j = 2 by omega) with rfl | rfl | rfl <;> kernel_rfl
  have HX : Hid (∀ j : Nat, j < 3 → ∀ w, (Instr.index 167 (.agg #[.int .i64 r.dest.kind, .int .i64 r.dest.n, .int .i64 r.a.kind, .int .i64 r.a.n, .int .i64 r.b.kind, .int .i64 r.b.n]) (.int .i64 j)).run Tryz.prog w = .ok (.agg #[.int .i64 (pjF r j).kind, .int .i64 (pjF r j).n]) w) := hidx
  clear hidx
  have HH : Hid (Held w b0 o0 b1 o1 B C) := h
  have hlt0 := h.lt0
  clear h
  unfold roomV progV LIns.val rowV
  go_enter Tryz.func62, Tryz.ntmps62
  have HAS := has i.op
  rw [HT.out 0 (by omega), HT.out 1 (by omega), HT.out 2 (by omega)] at HAS
  have HA : Hid _ := HAS
  clear HAS
  go_wp2_with (go_at_call 45; refine (HA.out _).mono ?_; rintro e w1 ⟨rfl, hb1⟩; have i1 : w1.cell? ⟨w.heap.size + 1 + 1, 1, none⟩ = some (.int .i64 i.dest) := step_cell hb1 (by simp [go_sem]); have i2 : w1.cell? ⟨w.heap.size + 1 + 1, 2, none⟩ = some (.int .i64 i.a) := step_cell hb1 (by simp [go_sem]); have i3 : w1.cell? ⟨w.heap.size + 1 + 1, 3, none⟩ = some (.int .i64 i.b) := step_cell hb1 (by simp [go_sem]); have k0 : w1.cell? ⟨w.heap.size + 1 + 1 + 1, 0, none⟩ = some (.int .i64 r.dest.kind) := step_cell hb1 (by simp [go_sem]); have k1 : w1.cell? ⟨w.heap.size + 1 + 1 + 1, 1, none⟩ = some (.int .i64 r.dest.n) := step_cell hb1 (by simp [go_sem]); have k2 : w1.cell? ⟨w.heap.size + 1 + 1 + 1, 2, none⟩ = some (.int .i64 r.a.kind) := step_cell hb1 (by simp [go_sem]); have k3 : w1.cell? ⟨w.heap.size + 1 + 1 + 1, 3, none⟩ = some (.int .i64 r.a.n) := step_cell hb1 (by simp [go_sem]); have k4 : w1.cell? ⟨w.heap.size + 1 + 1 + 1, 4, none⟩ = some (.int .i64 r.b.kind) := step_cell hb1 (by simp [go_sem]); have k5 : w1.cell? ⟨w.heap.size + 1 + 1 + 1, 5, none⟩ = some (.int .i64 r.b.n) := step_cell hb1 (by simp [go_sem]); have hz : w.heap.size + 1 + 1 + 1 + 1 ≤ w1.heap.size := (by have := hb1.size; simpa using this); have hz1 : w.heap.size + 1 + 1 + 1 < w1.heap.size := (by omega); have hz2 : w.heap.size + 1 + 1 < w1.heap.size := (by omega); have hz3 : w.heap.size + 1 + 1 + 1 < w1.heap.size + 1 := (by omega); have hz4 : w.heap.size + 1 + 1 + 1 < w1.heap.size + 1 + 1 := (by omega); have hz5 : w.heap.size + 1 + 1 < w1.heap.size + 1 := (by omega))
  have HFS : Hid (FS w a b c b0 o0 c0 B.length i w1.heap.size ((w1.alloc (.cells #[.bool (tjF i 0), .bool (tjF i 1), .bool (tjF i 2)] 165)).alloc (.cells #[.int .i64 i.dest, .int .i64 i.a, .int .i64 i.b] 166))) := by
    have g1 : Below w1.heap.size w1 ((w1.alloc (.cells #[.bool (tjF i 0), .bool (tjF i 1), .bool (tjF i 2)] 165)).alloc (.cells #[.int .i64 i.dest, .int .i64 i.a, .int .i64 i.b] 166)) := ((Below.refl _ _).alloc (Nat.le_refl _) _).alloc (by simp) _
    refine ⟨step_below g1 (over_alloc (over_alloc (over_alloc (over_alloc hb1)))), by omega, by simp, step_cell g1 (step_cell hb1 (by simp [go_sem])), step_cell g1 (step_cell hb1 (by simp [go_sem])), step_cell g1 (step_cell hb1 (by simp [go_sem])), step_cell g1 (step_cell hb1 (by simp [go_sem])), step_cell g1 (step_cell hb1 (by simp [go_sem])), fun j hj => ?_, fun j hj => ?_⟩
    · rcases (show j = 0 ∨ j = 1 ∨ j = 2 by omega) with rfl | rfl | rfl <;> simp [go_sem]
    · rcases (show j = 0 ∨ j = 1 ∨ j = 2 by omega) with rfl | rfl | rfl <;> simp [go_sem, fjF]
  obtain ⟨nb, hnb⟩ : ∃ nb, nb = w1.heap.size := ⟨_, rfl⟩
  rw [← hnb]
  rw [← hnb] at HFS
  clear i1 i2 i3 k0 k1 k2 k3 k4 k5 hz hz1 hz2 hz3 hz4 hz5 hb1
  go_loopw [41] (fun t wr => ∃ j : Nat, j ≤ 3 ∧ t = .int .i64 j ∧ FS w a b c b0 o0 c0 B.length i nb wr ∧ (∀ x, x < j → fieldO B a b c (tjF i x) (fjF i x) (pjF r x) = true)) (fun t _ => 3 - (intOf t).toNat)
  case atStart => exact ⟨0, by omega, rfl, HFS.out, fun j hj => absurd hj (by omega)⟩
  clear HFS hnb
  case round =>
    obtain ⟨j, hj, rfl, hfs, hall⟩ := hrel
    have F : Hid (∀ x, x < j → fieldO B a b c (tjF i x) (fjF i x) (pjF r x) = true) := hall
    have HFS : Hid (FS w a b c b0 o0 c0 B.length i nb wr) := hfs
    clear hall
    by_cases hlt : j < 3
    case neg =>
      have y1 : ¬ (j : Int) < 3 := by omega
      clear hfs
      go_wp2
      go_ret
      refine ⟨ret_bool ?_, HFS.out.bel⟩
      unfold fieldsO
      rw [eq_comm, List.all_eq_true]
      intro x hx
      exact F.out x (by simp at hx; omega)
    have y1 : (j : Int) < 3 := by omega
    have y0 : (0 : Int) ≤ (j : Int) := by omega
    have hidx := HX.out j hlt
    have hfsx := fun o => hfs.below ((Below.refl _ _).alloc (Nat.le_refl _) o)
    obtain ⟨tv, htv⟩ : ∃ x, x = tjF i j := ⟨_, rfl⟩
    obtain ⟨fv, hfv⟩ : ∃ x, x = fjF i j := ⟨_, rfl⟩
    obtain ⟨pv, hpv⟩ : ∃ x, x = pjF r j := ⟨_, rfl⟩
    rw [← hpv] at hidx
    have HTV : Hid (tv = tjF i j) := htv
    have HFV : Hid (fv = fjF i j) := hfv
    have HPV : Hid (pv = pjF r j) := hpv
    have NO : Hid (fieldO B a b c tv fv pv = false → fieldsO B a b c i r = false) := by
      intro hno
      unfold fieldsO
      rw [List.all_eq_false]
      exact ⟨j, by simpa using hlt, by rw [← htv, ← hfv, ← hpv, hno]; simp⟩
    have YES : Hid (fieldO B a b c tv fv pv = true → ∀ x, x < j + 1 → fieldO B a b c (tjF i x) (fjF i x) (pjF r x) = true) := by
      intro hyes x hx
      by_cases hxj : x < j
      · exact F.out x hxj
      · obtain rfl : x = j := by omega
        rw [← htv, ← hfv, ← hpv]; exact hyes
    have q0 : nb < wr.heap.size := by have := hfs.size; omega
    have q1 : nb + 1 < wr.heap.size := by have := hfs.size; omega
    have q2 : w.heap.size < wr.heap.size := by have := hfs.size; have := hfs.lt; omega
    have q3 : w.heap.size + 1 < wr.heap.size := by have := hfs.size; have := hfs.lt; omega
    have HLT : Hid (b0 < wr.heap.size) := by have := hfs.bel.size; show b0 < wr.heap.size; omega
    clear htv hfv hpv hfs
    go_upto_region 7 with fail
    obtain ⟨wx, hwx⟩ : ∃ wx, wx = wr.alloc (.cells #[.int .i64 pv.kind, .int .i64 pv.n] 37) := ⟨_, rfl⟩
    have hfx : FS w a b c b0 o0 c0 B.length i nb wx := by rw [hwx]; exact hfsx _
    have m0 : wx.cell? ⟨wr.heap.size, 0, none⟩ = some (.int .i64 pv.kind) := by rw [hwx]; simp [go_sem]
    have m1 : wx.cell? ⟨wr.heap.size, 1, none⟩ = some (.int .i64 pv.n) := by rw [hwx]; simp [go_sem]
    rw [← hwx]
    clear hfsx hidx hwx
    obtain ⟨pb, hpb⟩ : ∃ pb, pb = wr.heap.size := ⟨_, rfl⟩
    rw [← hpb] at m0 m1
    rw [← hpb]
    have HFX : Hid (FS w a b c b0 o0 c0 B.length i nb wx) := hfx
    have n0 := hfx.nm j hlt
    have n1 := hfx.tm j hlt
    rw [← HTV.out] at n0
    rw [← HFV.out] at n1
    obtain ⟨-, -, -, r0, r1, r2, r3, p0, -, -⟩ := hfx
    clear hpb q0 q1 q2 q3
    cases tv
    · cases hr : emptyB pv
      · skip
        refine wp_region_held_drew (S := (fun w' => Below wx.heap.size wx w' ∧ w'.cell? ⟨w.heap.size, 0, none⟩ = some (.int .i64 0) ∧ w'.cell? ⟨w.heap.size, 1, none⟩ = some (.int .i64 a) ∧ w'.cell? ⟨w.heap.size, 2, none⟩ = some (.int .i64 b) ∧ w'.cell? ⟨w.heap.size, 3, none⟩ = some (.int .i64 c) ∧ w'.cell? ⟨w.heap.size + 1, 0, none⟩ = some (.slice (some ⟨b0, o0, none⟩) B.length c0) ∧ w'.cell? ⟨nb, j, none⟩ = some (.bool false) ∧ w'.cell? ⟨nb + 1, j, none⟩ = some (.int .i64 fv) ∧ w'.cell? ⟨pb, 0, none⟩ = some (.int .i64 pv.kind) ∧ w'.cell? ⟨pb, 1, none⟩ = some (.int .i64 pv.n))) (by rfl) ?_ (fun hHeld => ?_)
        · (go_split_ands; refine ⟨?_, ?_, ?_, ?_, ?_, ?_, ?_, ?_, ?_, ?_⟩ <;> first | exact (Below.refl _ _).drew | exact ((Below.refl _ _).drew).trans hbr | exact step_below hbr (by assumption) | exact step_cell hbr (by assumption) | go_keep)
        refine wpAnyH_take (i := 0) (v := ?_) rfl (by kernel_rfl) (by kernel_rfl) (by kernel_rfl) (fun _ _ _ h => h) (Or.inl ⟨by rfl, ?_⟩) (by assumption) ?_
        case refine_2 => (intro w hSw; (try dsimp only at hSw); go_simp; first | done | (with_reducible rfl))
        show wpAnyH _ _ _ _ _ _ _ (Act.put _ (some 45) _) _
        simp only [Act.put, List.setIfInBounds_toArray, List.set_cons_zero, List.set_cons_succ]
        refine wpAnyH_take (i := 1) (v := ?_) rfl (by kernel_rfl) (by kernel_rfl) (by kernel_rfl) (fun _ _ _ h => h) (Or.inl ⟨by rfl, ?_⟩) (by assumption) ?_
        case refine_2 => (intro w hSw; (try dsimp only at hSw); go_simp; first | done | (with_reducible rfl))
        show wpAnyH _ _ _ _ _ _ _ (Act.put _ (some 46) _) _
        simp only [Act.put, List.setIfInBounds_toArray, List.set_cons_zero, List.set_cons_succ]
        refine wpAnyH_take (i := 2) (v := ?_) rfl (by kernel_rfl) (by kernel_rfl) (by kernel_rfl) (fun _ _ _ h => h) (Or.inl ⟨by rfl, ?_⟩) (by assumption) ?_
        case refine_2 => (intro w hSw; (try dsimp only at hSw); go_simp; first | done | (with_reducible rfl))
        show wpAnyH _ _ _ _ _ _ _ (Act.put _ (some 47) _) _
        simp only [Act.put, List.setIfInBounds_toArray, List.set_cons_zero, List.set_cons_succ]
        refine wpAnyH_take (i := 3) (v := ?_) rfl (by kernel_rfl) (by kernel_rfl) (by kernel_rfl) (fun _ _ _ h => h) (Or.inl ⟨by rfl, ?_⟩) (by assumption) ?_
        case refine_2 => (intro w hSw; (try dsimp only at hSw); go_simp; first | done | (with_reducible rfl))
        show wpAnyH _ _ _ _ _ _ _ (Act.put _ (some 48) _) _
        simp only [Act.put, List.setIfInBounds_toArray, List.set_cons_zero, List.set_cons_succ]
        refine wpAnyH_take (i := 4) (v := undef) rfl (by kernel_rfl) (by kernel_rfl) (by kernel_rfl) (fun _ _ _ h => h) (Or.inr ⟨by rfl, rfl⟩) (by assumption) ?_
        show wpAnyH _ _ _ _ _ _ _ (Act.put _ (some 49) _) _
        simp only [Act.put, List.setIfInBounds_toArray, List.set_cons_zero, List.set_cons_succ]
        refine wpAnyH_take (i := 5) (v := undef) rfl (by kernel_rfl) (by kernel_rfl) (by kernel_rfl) (fun _ _ _ h => h) (Or.inr ⟨by rfl, rfl⟩) (by assumption) ?_
        show wpAnyH _ _ _ _ _ _ _ (Act.put _ (some 50) _) _
        simp only [Act.put, List.setIfInBounds_toArray, List.set_cons_zero, List.set_cons_succ]
        refine wpAnyH_take (i := 6) (v := undef) rfl (by kernel_rfl) (by kernel_rfl) (by kernel_rfl) (fun _ _ _ h => h) (Or.inr ⟨by rfl, rfl⟩) (by assumption) ?_
        show wpAnyH _ _ _ _ _ _ _ (Act.put _ (some 51) _) _
        simp only [Act.put, List.setIfInBounds_toArray, List.set_cons_zero, List.set_cons_succ]
        refine wpAnyH_take (i := 7) (v := undef) rfl (by kernel_rfl) (by kernel_rfl) (by kernel_rfl) (fun _ _ _ h => h) (Or.inr ⟨by rfl, rfl⟩) (by assumption) ?_
        show wpAnyH _ _ _ _ _ _ _ (Act.put _ (some 52) _) _
        simp only [Act.put, List.setIfInBounds_toArray, List.set_cons_zero, List.set_cons_succ]
        refine wpAnyH_take (i := 8) (v := undef) rfl (by kernel_rfl) (by kernel_rfl) (by kernel_rfl) (fun _ _ _ h => h) (Or.inr ⟨by rfl, rfl⟩) (by assumption) ?_
        show wpAnyH _ _ _ _ _ _ _ (Act.put _ (some 53) _) _
        simp only [Act.put, List.setIfInBounds_toArray, List.set_cons_zero, List.set_cons_succ]
        refine wpAnyH_take (i := 9) (v := undef) rfl (by kernel_rfl) (by kernel_rfl) (by kernel_rfl) (fun _ _ _ h => h) (Or.inr ⟨by rfl, rfl⟩) (by assumption) ?_
        show wpAnyH _ _ _ _ _ _ _ (Act.put _ (some 54) _) _
        simp only [Act.put, List.setIfInBounds_toArray, List.set_cons_zero, List.set_cons_succ]
        refine wpAnyH_take (i := 10) (v := undef) rfl (by kernel_rfl) (by kernel_rfl) (by kernel_rfl) (fun _ _ _ h => h) (Or.inr ⟨by rfl, rfl⟩) (by assumption) ?_
        show wpAnyH _ _ _ _ _ _ _ (Act.put _ (some 55) _) _
        simp only [Act.put, List.setIfInBounds_toArray, List.set_cons_zero, List.set_cons_succ]
        refine wpAnyH_take (i := 11) (v := undef) rfl (by kernel_rfl) (by kernel_rfl) (by kernel_rfl) (fun _ _ _ h => h) (Or.inr ⟨by rfl, rfl⟩) (by assumption) ?_
        show wpAnyH _ _ _ _ _ _ _ (Act.put _ (some 56) _) _
        simp only [Act.put, List.setIfInBounds_toArray, List.set_cons_zero, List.set_cons_succ]
        refine wpAnyH_take (i := 12) (v := undef) rfl (by kernel_rfl) (by kernel_rfl) (by kernel_rfl) (fun _ _ _ h => h) (Or.inr ⟨by rfl, rfl⟩) (by assumption) ?_
        show wpAnyH _ _ _ _ _ _ _ (Act.put _ (some 57) _) _
        simp only [Act.put, List.setIfInBounds_toArray, List.set_cons_zero, List.set_cons_succ]
        refine wpAnyH_take (i := 13) (v := undef) rfl (by kernel_rfl) (by kernel_rfl) (by kernel_rfl) (fun _ _ _ h => h) (Or.inr ⟨by rfl, rfl⟩) (by assumption) ?_
        show wpAnyH _ _ _ _ _ _ _ (Act.put _ (some 58) _) _
        simp only [Act.put, List.setIfInBounds_toArray, List.set_cons_zero, List.set_cons_succ]
        refine wpAnyH_take (i := 14) (v := undef) rfl (by kernel_rfl) (by kernel_rfl) (by kernel_rfl) (fun _ _ _ h => h) (Or.inr ⟨by rfl, rfl⟩) (by assumption) ?_
        show wpAnyH _ _ _ _ _ _ _ (Act.put _ (some 59) _) _
        simp only [Act.put, List.setIfInBounds_toArray, List.set_cons_zero, List.set_cons_succ]
        refine wpAnyH_take (i := 15) (v := ?_) rfl (by kernel_rfl) (by kernel_rfl) (by kernel_rfl) (fun _ _ _ h => h) (Or.inl ⟨by rfl, ?_⟩) (by assumption) ?_
        case refine_2 => (intro w hSw; (try dsimp only at hSw); go_simp; first | done | (with_reducible rfl))
        show wpAnyH _ _ _ _ _ _ _ (Act.put _ (some 60) _) _
        simp only [Act.put, List.setIfInBounds_toArray, List.set_cons_zero, List.set_cons_succ]
        refine wpAnyH_take (i := 16) (v := ?_) rfl (by kernel_rfl) (by kernel_rfl) (by kernel_rfl) (fun _ _ _ h => h) (Or.inl ⟨by rfl, ?_⟩) (by assumption) ?_
        case refine_2 => (intro w hSw; (try dsimp only at hSw); go_simp; first | done | (with_reducible rfl))
        show wpAnyH _ _ _ _ _ _ _ (Act.put _ (some 61) _) _
        simp only [Act.put, List.setIfInBounds_toArray, List.set_cons_zero, List.set_cons_succ]
        refine wpAnyH_take (i := 17) (v := ?_) rfl (by kernel_rfl) (by kernel_rfl) (by kernel_rfl) (fun _ _ _ h => h) (Or.inl ⟨by rfl, ?_⟩) (by assumption) ?_
        case refine_2 => (intro w hSw; (try dsimp only at hSw); go_simp; first | done | (with_reducible rfl))
        show wpAnyH _ _ _ _ _ _ _ (Act.put _ (some 62) _) _
        simp only [Act.put, List.setIfInBounds_toArray, List.set_cons_zero, List.set_cons_succ]
        refine wpAnyH_take (i := 18) (v := ?_) rfl (by kernel_rfl) (by kernel_rfl) (by kernel_rfl) (fun _ _ _ h => h) (Or.inl ⟨by rfl, ?_⟩) (by assumption) ?_
        case refine_2 => (intro w hSw; (try dsimp only at hSw); go_simp; first | done | (with_reducible rfl))
        show wpAnyH _ _ _ _ _ _ _ (Act.put _ (some 63) _) _
        simp only [Act.put, List.setIfInBounds_toArray, List.set_cons_zero, List.set_cons_succ]
        refine wpAnyH_take (i := 19) (v := ?_) rfl (by kernel_rfl) (by kernel_rfl) (by kernel_rfl) (fun _ _ _ h => h) (Or.inl ⟨by rfl, ?_⟩) (by assumption) ?_
        case refine_2 => (intro w hSw; (try dsimp only at hSw); go_simp; first | done | (with_reducible rfl))
        show wpAnyH _ _ _ _ _ _ _ (Act.put _ (some 64) _) _
        simp only [Act.put, List.setIfInBounds_toArray, List.set_cons_zero, List.set_cons_succ]
        refine wpAnyH_take (i := 20) (v := ?_) rfl (by kernel_rfl) (by kernel_rfl) (by kernel_rfl) (fun _ _ _ h => h) (Or.inl ⟨by rfl, ?_⟩) (by assumption) ?_
        case refine_2 => (intro w hSw; (try dsimp only at hSw); go_simp; first | done | (with_reducible rfl))
        show wpAnyH _ _ _ _ _ _ _ (Act.put _ (some 65) _) _
        simp only [Act.put, List.setIfInBounds_toArray, List.set_cons_zero, List.set_cons_succ]
        refine wpAnyH_take (i := 21) (v := ?_) rfl (by kernel_rfl) (by kernel_rfl) (by kernel_rfl) (fun _ _ _ h => h) (Or.inl ⟨by rfl, ?_⟩) (by assumption) ?_
        case refine_2 => (intro w hSw; (try dsimp only at hSw); go_simp; first | done | (with_reducible rfl))
        show wpAnyH _ _ _ _ _ _ _ (Act.put _ (some 66) _) _
        simp only [Act.put, List.setIfInBounds_toArray, List.set_cons_zero, List.set_cons_succ]
        refine wpAnyH_take (i := 22) (v := ?_) rfl (by kernel_rfl) (by kernel_rfl) (by kernel_rfl) (fun _ _ _ h => h) (Or.inl ⟨by rfl, ?_⟩) (by assumption) ?_
        case refine_2 => (intro w hSw; (try dsimp only at hSw); go_simp; first | done | (with_reducible rfl))
        show wpAnyH _ _ _ _ _ _ _ (Act.put _ (some 67) _) _
        simp only [Act.put, List.setIfInBounds_toArray, List.set_cons_zero, List.set_cons_succ]
        refine wpAnyH_ready (rs := [23]) (by kernel_rfl) (by simp) ?_
        refine (AllReadyH.cons rfl (fun K hK => ?_) AllReadyH.nil)
        go_simp
        go_at_call 97
        refine (isEmpty pv _).mono ?_
        rintro e w1 ⟨rfl, hbr⟩
        rw [hr]
        go_wp2_with fail
        refine hK.out _ _ ?_ (fun hHeld => ?_)
        · (go_split_ands; refine ⟨?_, ?_, ?_, ?_, ?_, ?_, ?_, ?_, ?_, ?_⟩ <;> first | exact (Below.refl _ _).drew | exact ((Below.refl _ _).drew).trans hbr | exact step_below hbr (by assumption) | exact step_cell hbr (by assumption) | go_keep)
        clear hK K
        try simp only [Act.put, List.setIfInBounds_toArray, List.set_cons_zero, List.set_cons_succ]
        refine wpAnyH_take (i := 24) (v := ?_) rfl (by kernel_rfl) (by kernel_rfl) (by kernel_rfl) (fun _ _ _ h => h) (Or.inl ⟨by rfl, ?_⟩) (by assumption) ?_
        case refine_2 => (intro w hSw; (try dsimp only at hSw); go_simp; first | done | (with_reducible rfl))
        show wpAnyH _ _ _ _ _ _ _ (Act.put _ (some 69) _) _
        simp only [Act.put, List.setIfInBounds_toArray, List.set_cons_zero, List.set_cons_succ]
        refine wpAnyH_take (i := 25) (v := ?_) rfl (by kernel_rfl) (by kernel_rfl) (by kernel_rfl) (fun _ _ _ h => h) (Or.inl ⟨by rfl, ?_⟩) (by assumption) ?_
        case refine_2 => (intro w hSw; (try dsimp only at hSw); go_simp; first | done | (with_reducible rfl))
        show wpAnyH _ _ _ _ _ _ _ (Act.put _ (some 70) _) _
        simp only [Act.put, List.setIfInBounds_toArray, List.set_cons_zero, List.set_cons_succ]
        refine wpAnyH_take (i := 26) (v := ?_) rfl (by kernel_rfl) (by kernel_rfl) (by kernel_rfl) (fun _ _ _ h => h) (Or.inl ⟨by rfl, ?_⟩) (by assumption) ?_
        case refine_2 => (intro w hSw; (try dsimp only at hSw); go_simp; first | done | (with_reducible rfl))
        show wpAnyH _ _ _ _ _ _ _ (Act.put _ (some 71) _) _
        simp only [Act.put, List.setIfInBounds_toArray, List.set_cons_zero, List.set_cons_succ]
        refine wpAnyH_done (by kernel_rfl) ?_ _
        have HB9 : Hid (Below wx.heap.size wx w1) := hHeld.1
        clear hHeld hbr
        go_wp2
        go_ret
        exact ⟨ret_bool (NO.out (by unfold fieldO; rw [if_neg (by simp)]; exact hr)).symm, step_below HB9.out HFX.out.bel⟩
      · skip
        refine wp_region_held_drew (S := (fun w' => Below wx.heap.size wx w' ∧ w'.cell? ⟨w.heap.size, 0, none⟩ = some (.int .i64 0) ∧ w'.cell? ⟨w.heap.size, 1, none⟩ = some (.int .i64 a) ∧ w'.cell? ⟨w.heap.size, 2, none⟩ = some (.int .i64 b) ∧ w'.cell? ⟨w.heap.size, 3, none⟩ = some (.int .i64 c) ∧ w'.cell? ⟨w.heap.size + 1, 0, none⟩ = some (.slice (some ⟨b0, o0, none⟩) B.length c0) ∧ w'.cell? ⟨nb, j, none⟩ = some (.bool false) ∧ w'.cell? ⟨nb + 1, j, none⟩ = some (.int .i64 fv) ∧ w'.cell? ⟨pb, 0, none⟩ = some (.int .i64 pv.kind) ∧ w'.cell? ⟨pb, 1, none⟩ = some (.int .i64 pv.n))) (by rfl) ?_ (fun hHeld => ?_)
        · (go_split_ands; refine ⟨?_, ?_, ?_, ?_, ?_, ?_, ?_, ?_, ?_, ?_⟩ <;> first | exact (Below.refl _ _).drew | exact ((Below.refl _ _).drew).trans hbr | exact step_below hbr (by assumption) | exact step_cell hbr (by assumption) | go_keep)
        refine wpAnyH_take (i := 0) (v := ?_) rfl (by kernel_rfl) (by kernel_rfl) (by kernel_rfl) (fun _ _ _ h => h) (Or.inl ⟨by rfl, ?_⟩) (by assumption) ?_
        case refine_2 => (intro w hSw; (try dsimp only at hSw); go_simp; first | done | (with_reducible rfl))
        show wpAnyH _ _ _ _ _ _ _ (Act.put _ (some 45) _) _
        simp only [Act.put, List.setIfInBounds_toArray, List.set_cons_zero, List.set_cons_succ]
        refine wpAnyH_take (i := 1) (v := ?_) rfl (by kernel_rfl) (by kernel_rfl) (by kernel_rfl) (fun _ _ _ h => h) (Or.inl ⟨by rfl, ?_⟩) (by assumption) ?_
        case refine_2 => (intro w hSw; (try dsimp only at hSw); go_simp; first | done | (with_reducible rfl))
        show wpAnyH _ _ _ _ _ _ _ (Act.put _ (some 46) _) _
        simp only [Act.put, List.setIfInBounds_toArray, List.set_cons_zero, List.set_cons_succ]
        refine wpAnyH_take (i := 2) (v := ?_) rfl (by kernel_rfl) (by kernel_rfl) (by kernel_rfl) (fun _ _ _ h => h) (Or.inl ⟨by rfl, ?_⟩) (by assumption) ?_
        case refine_2 => (intro w hSw; (try dsimp only at hSw); go_simp; first | done | (with_reducible rfl))
        show wpAnyH _ _ _ _ _ _ _ (Act.put _ (some 47) _) _
        simp only [Act.put, List.setIfInBounds_toArray, List.set_cons_zero, List.set_cons_succ]
        refine wpAnyH_take (i := 3) (v := ?_) rfl (by kernel_rfl) (by kernel_rfl) (by kernel_rfl) (fun _ _ _ h => h) (Or.inl ⟨by rfl, ?_⟩) (by assumption) ?_
        case refine_2 => (intro w hSw; (try dsimp only at hSw); go_simp; first | done | (with_reducible rfl))
        show wpAnyH _ _ _ _ _ _ _ (Act.put _ (some 48) _) _
        simp only [Act.put, List.setIfInBounds_toArray, List.set_cons_zero, List.set_cons_succ]
        refine wpAnyH_take (i := 4) (v := undef) rfl (by kernel_rfl) (by kernel_rfl) (by kernel_rfl) (fun _ _ _ h => h) (Or.inr ⟨by rfl, rfl⟩) (by assumption) ?_
        show wpAnyH _ _ _ _ _ _ _ (Act.put _ (some 49) _) _
        simp only [Act.put, List.setIfInBounds_toArray, List.set_cons_zero, List.set_cons_succ]
        refine wpAnyH_take (i := 5) (v := undef) rfl (by kernel_rfl) (by kernel_rfl) (by kernel_rfl) (fun _ _ _ h => h) (Or.inr ⟨by rfl, rfl⟩) (by assumption) ?_
        show wpAnyH _ _ _ _ _ _ _ (Act.put _ (some 50) _) _
        simp only [Act.put, List.setIfInBounds_toArray, List.set_cons_zero, List.set_cons_succ]
        refine wpAnyH_take (i := 6) (v := undef) rfl (by kernel_rfl) (by kernel_rfl) (by kernel_rfl) (fun _ _ _ h => h) (Or.inr ⟨by rfl, rfl⟩) (by assumption) ?_
        show wpAnyH _ _ _ _ _ _ _ (Act.put _ (some 51) _) _
        simp only [Act.put, List.setIfInBounds_toArray, List.set_cons_zero, List.set_cons_succ]
        refine wpAnyH_take (i := 7) (v := undef) rfl (by kernel_rfl) (by kernel_rfl) (by kernel_rfl) (fun _ _ _ h => h) (Or.inr ⟨by rfl, rfl⟩) (by assumption) ?_
        show wpAnyH _ _ _ _ _ _ _ (Act.put _ (some 52) _) _
        simp only [Act.put, List.setIfInBounds_toArray, List.set_cons_zero, List.set_cons_succ]
        refine wpAnyH_take (i := 8) (v := undef) rfl (by kernel_rfl) (by kernel_rfl) (by kernel_rfl) (fun _ _ _ h => h) (Or.inr ⟨by rfl, rfl⟩) (by assumption) ?_
        show wpAnyH _ _ _ _ _ _ _ (Act.put _ (some 53) _) _
        simp only [Act.put, List.setIfInBounds_toArray, List.set_cons_zero, List.set_cons_succ]
        refine wpAnyH_take (i := 9) (v := undef) rfl (by kernel_rfl) (by kernel_rfl) (by kernel_rfl) (fun _ _ _ h => h) (Or.inr ⟨by rfl, rfl⟩) (by assumption) ?_
        show wpAnyH _ _ _ _ _ _ _ (Act.put _ (some 54) _) _
        simp only [Act.put, List.setIfInBounds_toArray, List.set_cons_zero, List.set_cons_succ]
        refine wpAnyH_take (i := 10) (v := undef) rfl (by kernel_rfl) (by kernel_rfl) (by kernel_rfl) (fun _ _ _ h => h) (Or.inr ⟨by rfl, rfl⟩) (by assumption) ?_
        show wpAnyH _ _ _ _ _ _ _ (Act.put _ (some 55) _) _
        simp only [Act.put, List.setIfInBounds_toArray, List.set_cons_zero, List.set_cons_succ]
        refine wpAnyH_take (i := 11) (v := undef) rfl (by kernel_rfl) (by kernel_rfl) (by kernel_rfl) (fun _ _ _ h => h) (Or.inr ⟨by rfl, rfl⟩) (by assumption) ?_
        show wpAnyH _ _ _ _ _ _ _ (Act.put _ (some 56) _) _
        simp only [Act.put, List.setIfInBounds_toArray, List.set_cons_zero, List.set_cons_succ]
        refine wpAnyH_take (i := 12) (v := undef) rfl (by kernel_rfl) (by kernel_rfl) (by kernel_rfl) (fun _ _ _ h => h) (Or.inr ⟨by rfl, rfl⟩) (by assumption) ?_
        show wpAnyH _ _ _ _ _ _ _ (Act.put _ (some 57) _) _
        simp only [Act.put, List.setIfInBounds_toArray, List.set_cons_zero, List.set_cons_succ]
        refine wpAnyH_take (i := 13) (v := undef) rfl (by kernel_rfl) (by kernel_rfl) (by kernel_rfl) (fun _ _ _ h => h) (Or.inr ⟨by rfl, rfl⟩) (by assumption) ?_
        show wpAnyH _ _ _ _ _ _ _ (Act.put _ (some 58) _) _
        simp only [Act.put, List.setIfInBounds_toArray, List.set_cons_zero, List.set_cons_succ]
        refine wpAnyH_take (i := 14) (v := undef) rfl (by kernel_rfl) (by kernel_rfl) (by kernel_rfl) (fun _ _ _ h => h) (Or.inr ⟨by rfl, rfl⟩) (by assumption) ?_
        show wpAnyH _ _ _ _ _ _ _ (Act.put _ (some 59) _) _
        simp only [Act.put, List.setIfInBounds_toArray, List.set_cons_zero, List.set_cons_succ]
        refine wpAnyH_take (i := 15) (v := ?_) rfl (by kernel_rfl) (by kernel_rfl) (by kernel_rfl) (fun _ _ _ h => h) (Or.inl ⟨by rfl, ?_⟩) (by assumption) ?_
        case refine_2 => (intro w hSw; (try dsimp only at hSw); go_simp; first | done | (with_reducible rfl))
        show wpAnyH _ _ _ _ _ _ _ (Act.put _ (some 60) _) _
        simp only [Act.put, List.setIfInBounds_toArray, List.set_cons_zero, List.set_cons_succ]
        refine wpAnyH_take (i := 16) (v := ?_) rfl (by kernel_rfl) (by kernel_rfl) (by kernel_rfl) (fun _ _ _ h => h) (Or.inl ⟨by rfl, ?_⟩) (by assumption) ?_
        case refine_2 => (intro w hSw; (try dsimp only at hSw); go_simp; first | done | (with_reducible rfl))
        show wpAnyH _ _ _ _ _ _ _ (Act.put _ (some 61) _) _
        simp only [Act.put, List.setIfInBounds_toArray, List.set_cons_zero, List.set_cons_succ]
        refine wpAnyH_take (i := 17) (v := ?_) rfl (by kernel_rfl) (by kernel_rfl) (by kernel_rfl) (fun _ _ _ h => h) (Or.inl ⟨by rfl, ?_⟩) (by assumption) ?_
        case refine_2 => (intro w hSw; (try dsimp only at hSw); go_simp; first | done | (with_reducible rfl))
        show wpAnyH _ _ _ _ _ _ _ (Act.put _ (some 62) _) _
        simp only [Act.put, List.setIfInBounds_toArray, List.set_cons_zero, List.set_cons_succ]
        refine wpAnyH_take (i := 18) (v := ?_) rfl (by kernel_rfl) (by kernel_rfl) (by kernel_rfl) (fun _ _ _ h => h) (Or.inl ⟨by rfl, ?_⟩) (by assumption) ?_
        case refine_2 => (intro w hSw; (try dsimp only at hSw); go_simp; first | done | (with_reducible rfl))
        show wpAnyH _ _ _ _ _ _ _ (Act.put _ (some 63) _) _
        simp only [Act.put, List.setIfInBounds_toArray, List.set_cons_zero, List.set_cons_succ]
        refine wpAnyH_take (i := 19) (v := ?_) rfl (by kernel_rfl) (by kernel_rfl) (by kernel_rfl) (fun _ _ _ h => h) (Or.inl ⟨by rfl, ?_⟩) (by assumption) ?_
        case refine_2 => (intro w hSw; (try dsimp only at hSw); go_simp; first | done | (with_reducible rfl))
        show wpAnyH _ _ _ _ _ _ _ (Act.put _ (some 64) _) _
        simp only [Act.put, List.setIfInBounds_toArray, List.set_cons_zero, List.set_cons_succ]
        refine wpAnyH_take (i := 20) (v := ?_) rfl (by kernel_rfl) (by kernel_rfl) (by kernel_rfl) (fun _ _ _ h => h) (Or.inl ⟨by rfl, ?_⟩) (by assumption) ?_
        case refine_2 => (intro w hSw; (try dsimp only at hSw); go_simp; first | done | (with_reducible rfl))
        show wpAnyH _ _ _ _ _ _ _ (Act.put _ (some 65) _) _
        simp only [Act.put, List.setIfInBounds_toArray, List.set_cons_zero, List.set_cons_succ]
        refine wpAnyH_take (i := 21) (v := ?_) rfl (by kernel_rfl) (by kernel_rfl) (by kernel_rfl) (fun _ _ _ h => h) (Or.inl ⟨by rfl, ?_⟩) (by assumption) ?_
        case refine_2 => (intro w hSw; (try dsimp only at hSw); go_simp; first | done | (with_reducible rfl))
        show wpAnyH _ _ _ _ _ _ _ (Act.put _ (some 66) _) _
        simp only [Act.put, List.setIfInBounds_toArray, List.set_cons_zero, List.set_cons_succ]
        refine wpAnyH_take (i := 22) (v := ?_) rfl (by kernel_rfl) (by kernel_rfl) (by kernel_rfl) (fun _ _ _ h => h) (Or.inl ⟨by rfl, ?_⟩) (by assumption) ?_
        case refine_2 => (intro w hSw; (try dsimp only at hSw); go_simp; first | done | (with_reducible rfl))
        show wpAnyH _ _ _ _ _ _ _ (Act.put _ (some 67) _) _
        simp only [Act.put, List.setIfInBounds_toArray, List.set_cons_zero, List.set_cons_succ]
        refine wpAnyH_ready (rs := [23]) (by kernel_rfl) (by simp) ?_
        refine (AllReadyH.cons rfl (fun K hK => ?_) AllReadyH.nil)
        go_simp
        go_at_call 97
        refine (isEmpty pv _).mono ?_
        rintro e w1 ⟨rfl, hbr⟩
        rw [hr]
        go_wp2_with fail
        refine hK.out _ _ ?_ (fun hHeld => ?_)
        · (go_split_ands; refine ⟨?_, ?_, ?_, ?_, ?_, ?_, ?_, ?_, ?_, ?_⟩ <;> first | exact (Below.refl _ _).drew | exact ((Below.refl _ _).drew).trans hbr | exact step_below hbr (by assumption) | exact step_cell hbr (by assumption) | go_keep)
        clear hK K
        try simp only [Act.put, List.setIfInBounds_toArray, List.set_cons_zero, List.set_cons_succ]
        refine wpAnyH_take (i := 24) (v := ?_) rfl (by kernel_rfl) (by kernel_rfl) (by kernel_rfl) (fun _ _ _ h => h) (Or.inl ⟨by rfl, ?_⟩) (by assumption) ?_
        case refine_2 => (intro w hSw; (try dsimp only at hSw); go_simp; first | done | (with_reducible rfl))
        show wpAnyH _ _ _ _ _ _ _ (Act.put _ (some 69) _) _
        simp only [Act.put, List.setIfInBounds_toArray, List.set_cons_zero, List.set_cons_succ]
        refine wpAnyH_take (i := 25) (v := ?_) rfl (by kernel_rfl) (by kernel_rfl) (by kernel_rfl) (fun _ _ _ h => h) (Or.inl ⟨by rfl, ?_⟩) (by assumption) ?_
        case refine_2 => (intro w hSw; (try dsimp only at hSw); go_simp; first | done | (with_reducible rfl))
        show wpAnyH _ _ _ _ _ _ _ (Act.put _ (some 70) _) _
        simp only [Act.put, List.setIfInBounds_toArray, List.set_cons_zero, List.set_cons_succ]
        refine wpAnyH_take (i := 26) (v := ?_) rfl (by kernel_rfl) (by kernel_rfl) (by kernel_rfl) (fun _ _ _ h => h) (Or.inl ⟨by rfl, ?_⟩) (by assumption) ?_
        case refine_2 => (intro w hSw; (try dsimp only at hSw); go_simp; first | done | (with_reducible rfl))
        show wpAnyH _ _ _ _ _ _ _ (Act.put _ (some 71) _) _
        simp only [Act.put, List.setIfInBounds_toArray, List.set_cons_zero, List.set_cons_succ]
        refine wpAnyH_done (by kernel_rfl) ?_ _
        have HB9 : Hid (Below wx.heap.size wx w1) := hHeld.1
        clear hHeld hbr
        go_wp2
        exact ⟨⟨j + 1, by omega, by go_num, HFX.out.below HB9.out, YES.out (by unfold fieldO; rw [if_neg (by simp)]; exact hr)⟩, by simp [intOf]; omega⟩
    · obtain ⟨hf0, hf1⟩ := HF.out j hlt HTV.out.symm
      rw [← HFV.out] at hf0 hf1
      have wc0 := (HH.out.later HFX.out.bel).wide fv.toNat (by omega)
      obtain ⟨wv, hwv⟩ : ∃ x, x = B.getD fv.toNat false := ⟨_, rfl⟩
      rw [← hwv] at wc0
      have HWV : Hid (wv = B.getD fv.toNat false) := hwv
      clear hwv
      cases hr : holdB a b c pv wv
      · skip
        refine wp_region_held_drew (S := (fun w' => Below wx.heap.size wx w' ∧ w'.cell? ⟨w.heap.size, 0, none⟩ = some (.int .i64 0) ∧ w'.cell? ⟨w.heap.size, 1, none⟩ = some (.int .i64 a) ∧ w'.cell? ⟨w.heap.size, 2, none⟩ = some (.int .i64 b) ∧ w'.cell? ⟨w.heap.size, 3, none⟩ = some (.int .i64 c) ∧ w'.cell? ⟨w.heap.size + 1, 0, none⟩ = some (.slice (some ⟨b0, o0, none⟩) B.length c0) ∧ w'.cell? ⟨nb, j, none⟩ = some (.bool true) ∧ w'.cell? ⟨nb + 1, j, none⟩ = some (.int .i64 fv) ∧ w'.cell? ⟨pb, 0, none⟩ = some (.int .i64 pv.kind) ∧ w'.cell? ⟨pb, 1, none⟩ = some (.int .i64 pv.n) ∧ w'.cell? ⟨b0, o0 + fv.toNat, none⟩ = some (.bool wv))) (by rfl) ?_ (fun hHeld => ?_)
        · (go_split_ands; refine ⟨?_, ?_, ?_, ?_, ?_, ?_, ?_, ?_, ?_, ?_, ?_⟩ <;> first | exact (Below.refl _ _).drew | exact ((Below.refl _ _).drew).trans hbr | exact step_below hbr (by assumption) | exact step_cell hbr (by assumption) | go_keep)
        refine wpAnyH_take (i := 0) (v := ?_) rfl (by kernel_rfl) (by kernel_rfl) (by kernel_rfl) (fun _ _ _ h => h) (Or.inl ⟨by rfl, ?_⟩) (by assumption) ?_
        case refine_2 => (intro w hSw; (try dsimp only at hSw); go_simp; first | done | (with_reducible rfl))
        show wpAnyH _ _ _ _ _ _ _ (Act.put _ (some 45) _) _
        simp only [Act.put, List.setIfInBounds_toArray, List.set_cons_zero, List.set_cons_succ]
        refine wpAnyH_take (i := 1) (v := ?_) rfl (by kernel_rfl) (by kernel_rfl) (by kernel_rfl) (fun _ _ _ h => h) (Or.inl ⟨by rfl, ?_⟩) (by assumption) ?_
        case refine_2 => (intro w hSw; (try dsimp only at hSw); go_simp; first | done | (with_reducible rfl))
        show wpAnyH _ _ _ _ _ _ _ (Act.put _ (some 46) _) _
        simp only [Act.put, List.setIfInBounds_toArray, List.set_cons_zero, List.set_cons_succ]
        refine wpAnyH_take (i := 2) (v := ?_) rfl (by kernel_rfl) (by kernel_rfl) (by kernel_rfl) (fun _ _ _ h => h) (Or.inl ⟨by rfl, ?_⟩) (by assumption) ?_
        case refine_2 => (intro w hSw; (try dsimp only at hSw); go_simp; first | done | (with_reducible rfl))
        show wpAnyH _ _ _ _ _ _ _ (Act.put _ (some 47) _) _
        simp only [Act.put, List.setIfInBounds_toArray, List.set_cons_zero, List.set_cons_succ]
        refine wpAnyH_take (i := 3) (v := ?_) rfl (by kernel_rfl) (by kernel_rfl) (by kernel_rfl) (fun _ _ _ h => h) (Or.inl ⟨by rfl, ?_⟩) (by assumption) ?_
        case refine_2 => (intro w hSw; (try dsimp only at hSw); go_simp; first | done | (with_reducible rfl))
        show wpAnyH _ _ _ _ _ _ _ (Act.put _ (some 48) _) _
        simp only [Act.put, List.setIfInBounds_toArray, List.set_cons_zero, List.set_cons_succ]
        refine wpAnyH_take (i := 4) (v := ?_) rfl (by kernel_rfl) (by kernel_rfl) (by kernel_rfl) (fun _ _ _ h => h) (Or.inl ⟨by rfl, ?_⟩) (by assumption) ?_
        case refine_2 => (intro w hSw; (try dsimp only at hSw); go_simp; first | done | (with_reducible rfl))
        show wpAnyH _ _ _ _ _ _ _ (Act.put _ (some 49) _) _
        simp only [Act.put, List.setIfInBounds_toArray, List.set_cons_zero, List.set_cons_succ]
        refine wpAnyH_take (i := 5) (v := ?_) rfl (by kernel_rfl) (by kernel_rfl) (by kernel_rfl) (fun _ _ _ h => h) (Or.inl ⟨by rfl, ?_⟩) (by assumption) ?_
        case refine_2 => (intro w hSw; (try dsimp only at hSw); go_simp; first | done | (with_reducible rfl))
        show wpAnyH _ _ _ _ _ _ _ (Act.put _ (some 50) _) _
        simp only [Act.put, List.setIfInBounds_toArray, List.set_cons_zero, List.set_cons_succ]
        refine wpAnyH_take (i := 6) (v := ?_) rfl (by kernel_rfl) (by kernel_rfl) (by kernel_rfl) (fun _ _ _ h => h) (Or.inl ⟨by rfl, ?_⟩) (by assumption) ?_
        case refine_2 => (intro w hSw; (try dsimp only at hSw); go_simp; first | done | (with_reducible rfl))
        show wpAnyH _ _ _ _ _ _ _ (Act.put _ (some 51) _) _
        simp only [Act.put, List.setIfInBounds_toArray, List.set_cons_zero, List.set_cons_succ]
        refine wpAnyH_take (i := 7) (v := ?_) rfl (by kernel_rfl) (by kernel_rfl) (by kernel_rfl) (fun _ _ _ h => h) (Or.inl ⟨by rfl, ?_⟩) (by assumption) ?_
        case refine_2 => (intro w hSw; (try dsimp only at hSw); go_simp; first | done | (with_reducible rfl))
        show wpAnyH _ _ _ _ _ _ _ (Act.put _ (some 52) _) _
        simp only [Act.put, List.setIfInBounds_toArray, List.set_cons_zero, List.set_cons_succ]
        refine wpAnyH_take (i := 8) (v := ?_) rfl (by kernel_rfl) (by kernel_rfl) (by kernel_rfl) (fun _ _ _ h => h) (Or.inl ⟨by rfl, ?_⟩) (by assumption) ?_
        case refine_2 => (intro w hSw; (try dsimp only at hSw); go_simp; first | done | (with_reducible rfl))
        show wpAnyH _ _ _ _ _ _ _ (Act.put _ (some 53) _) _
        simp only [Act.put, List.setIfInBounds_toArray, List.set_cons_zero, List.set_cons_succ]
        refine wpAnyH_take (i := 9) (v := ?_) rfl (by kernel_rfl) (by kernel_rfl) (by kernel_rfl) (fun _ _ _ h => h) (Or.inl ⟨by rfl, ?_⟩) (by assumption) ?_
        case refine_2 => (intro w hSw; (try dsimp only at hSw); go_simp; first | done | (with_reducible rfl))
        show wpAnyH _ _ _ _ _ _ _ (Act.put _ (some 54) _) _
        simp only [Act.put, List.setIfInBounds_toArray, List.set_cons_zero, List.set_cons_succ]
        refine wpAnyH_take (i := 10) (v := ?_) rfl (by kernel_rfl) (by kernel_rfl) (by kernel_rfl) (fun _ _ _ h => h) (Or.inl ⟨by rfl, ?_⟩) (by assumption) ?_
        case refine_2 => (intro w hSw; (try dsimp only at hSw); go_simp; first | done | (with_reducible rfl))
        show wpAnyH _ _ _ _ _ _ _ (Act.put _ (some 55) _) _
        simp only [Act.put, List.setIfInBounds_toArray, List.set_cons_zero, List.set_cons_succ]
        refine wpAnyH_take (i := 11) (v := ?_) rfl (by kernel_rfl) (by kernel_rfl) (by kernel_rfl) (fun _ _ _ h => h) (Or.inl ⟨by rfl, ?_⟩) (by assumption) ?_
        case refine_2 => (intro w hSw; (try dsimp only at hSw); go_simp; first | done | (with_reducible rfl))
        show wpAnyH _ _ _ _ _ _ _ (Act.put _ (some 56) _) _
        simp only [Act.put, List.setIfInBounds_toArray, List.set_cons_zero, List.set_cons_succ]
        refine wpAnyH_take (i := 12) (v := ?_) rfl (by kernel_rfl) (by kernel_rfl) (by kernel_rfl) (fun _ _ _ h => h) (Or.inl ⟨by rfl, ?_⟩) (by assumption) ?_
        case refine_2 => (intro w hSw; (try dsimp only at hSw); go_simp; first | done | (with_reducible rfl))
        show wpAnyH _ _ _ _ _ _ _ (Act.put _ (some 57) _) _
        simp only [Act.put, List.setIfInBounds_toArray, List.set_cons_zero, List.set_cons_succ]
        refine wpAnyH_ready (rs := [13]) (by kernel_rfl) (by simp) ?_
        refine (AllReadyH.cons rfl (fun K hK => ?_) AllReadyH.nil)
        go_simp
        go_at_call 96
        refine (holds a b c pv wv _).mono ?_
        rintro e w1 ⟨rfl, hbr⟩
        rw [hr]
        go_wp2_with fail
        refine hK.out _ _ ?_ (fun hHeld => ?_)
        · (go_split_ands; refine ⟨?_, ?_, ?_, ?_, ?_, ?_, ?_, ?_, ?_, ?_, ?_⟩ <;> first | exact (Below.refl _ _).drew | exact ((Below.refl _ _).drew).trans hbr | exact step_below hbr (by assumption) | exact step_cell hbr (by assumption) | go_keep)
        clear hK K
        try simp only [Act.put, List.setIfInBounds_toArray, List.set_cons_zero, List.set_cons_succ]
        refine wpAnyH_take (i := 14) (v := ?_) rfl (by kernel_rfl) (by kernel_rfl) (by kernel_rfl) (fun _ _ _ h => h) (Or.inl ⟨by rfl, ?_⟩) (by assumption) ?_
        case refine_2 => (intro w hSw; (try dsimp only at hSw); go_simp; first | done | (with_reducible rfl))
        show wpAnyH _ _ _ _ _ _ _ (Act.put _ (some 59) _) _
        simp only [Act.put, List.setIfInBounds_toArray, List.set_cons_zero, List.set_cons_succ]
        refine wpAnyH_take (i := 15) (v := ?_) rfl (by kernel_rfl) (by kernel_rfl) (by kernel_rfl) (fun _ _ _ h => h) (Or.inl ⟨by rfl, ?_⟩) (by assumption) ?_
        case refine_2 => (intro w hSw; (try dsimp only at hSw); go_simp; first | done | (with_reducible rfl))
        show wpAnyH _ _ _ _ _ _ _ (Act.put _ (some 60) _) _
        simp only [Act.put, List.setIfInBounds_toArray, List.set_cons_zero, List.set_cons_succ]
        refine wpAnyH_take (i := 16) (v := ?_) rfl (by kernel_rfl) (by kernel_rfl) (by kernel_rfl) (fun _ _ _ h => h) (Or.inl ⟨by rfl, ?_⟩) (by assumption) ?_
        case refine_2 => (intro w hSw; (try dsimp only at hSw); go_simp; first | done | (with_reducible rfl))
        show wpAnyH _ _ _ _ _ _ _ (Act.put _ (some 61) _) _
        simp only [Act.put, List.setIfInBounds_toArray, List.set_cons_zero, List.set_cons_succ]
        refine wpAnyH_take (i := 17) (v := undef) rfl (by kernel_rfl) (by kernel_rfl) (by kernel_rfl) (fun _ _ _ h => h) (Or.inr ⟨by rfl, rfl⟩) (by assumption) ?_
        show wpAnyH _ _ _ _ _ _ _ (Act.put _ (some 62) _) _
        simp only [Act.put, List.setIfInBounds_toArray, List.set_cons_zero, List.set_cons_succ]
        refine wpAnyH_take (i := 18) (v := undef) rfl (by kernel_rfl) (by kernel_rfl) (by kernel_rfl) (fun _ _ _ h => h) (Or.inr ⟨by rfl, rfl⟩) (by assumption) ?_
        show wpAnyH _ _ _ _ _ _ _ (Act.put _ (some 63) _) _
        simp only [Act.put, List.setIfInBounds_toArray, List.set_cons_zero, List.set_cons_succ]
        refine wpAnyH_take (i := 19) (v := undef) rfl (by kernel_rfl) (by kernel_rfl) (by kernel_rfl) (fun _ _ _ h => h) (Or.inr ⟨by rfl, rfl⟩) (by assumption) ?_
        show wpAnyH _ _ _ _ _ _ _ (Act.put _ (some 64) _) _
        simp only [Act.put, List.setIfInBounds_toArray, List.set_cons_zero, List.set_cons_succ]
        refine wpAnyH_take (i := 20) (v := undef) rfl (by kernel_rfl) (by kernel_rfl) (by kernel_rfl) (fun _ _ _ h => h) (Or.inr ⟨by rfl, rfl⟩) (by assumption) ?_
        show wpAnyH _ _ _ _ _ _ _ (Act.put _ (some 65) _) _
        simp only [Act.put, List.setIfInBounds_toArray, List.set_cons_zero, List.set_cons_succ]
        refine wpAnyH_take (i := 21) (v := undef) rfl (by kernel_rfl) (by kernel_rfl) (by kernel_rfl) (fun _ _ _ h => h) (Or.inr ⟨by rfl, rfl⟩) (by assumption) ?_
        show wpAnyH _ _ _ _ _ _ _ (Act.put _ (some 66) _) _
        simp only [Act.put, List.setIfInBounds_toArray, List.set_cons_zero, List.set_cons_succ]
        refine wpAnyH_take (i := 22) (v := undef) rfl (by kernel_rfl) (by kernel_rfl) (by kernel_rfl) (fun _ _ _ h => h) (Or.inr ⟨by rfl, rfl⟩) (by assumption) ?_
        show wpAnyH _ _ _ _ _ _ _ (Act.put _ (some 67) _) _
        simp only [Act.put, List.setIfInBounds_toArray, List.set_cons_zero, List.set_cons_succ]
        refine wpAnyH_take (i := 23) (v := undef) rfl (by kernel_rfl) (by kernel_rfl) (by kernel_rfl) (fun _ _ _ h => h) (Or.inr ⟨by rfl, rfl⟩) (by assumption) ?_
        show wpAnyH _ _ _ _ _ _ _ (Act.put _ (some 68) _) _
        simp only [Act.put, List.setIfInBounds_toArray, List.set_cons_zero, List.set_cons_succ]
        refine wpAnyH_take (i := 24) (v := undef) rfl (by kernel_rfl) (by kernel_rfl) (by kernel_rfl) (fun _ _ _ h => h) (Or.inr ⟨by rfl, rfl⟩) (by assumption) ?_
        show wpAnyH _ _ _ _ _ _ _ (Act.put _ (some 69) _) _
        simp only [Act.put, List.setIfInBounds_toArray, List.set_cons_zero, List.set_cons_succ]
        refine wpAnyH_take (i := 25) (v := undef) rfl (by kernel_rfl) (by kernel_rfl) (by kernel_rfl) (fun _ _ _ h => h) (Or.inr ⟨by rfl, rfl⟩) (by assumption) ?_
        show wpAnyH _ _ _ _ _ _ _ (Act.put _ (some 70) _) _
        simp only [Act.put, List.setIfInBounds_toArray, List.set_cons_zero, List.set_cons_succ]
        refine wpAnyH_take (i := 26) (v := ?_) rfl (by kernel_rfl) (by kernel_rfl) (by kernel_rfl) (fun _ _ _ h => h) (Or.inl ⟨by rfl, ?_⟩) (by assumption) ?_
        case refine_2 => (intro w hSw; (try dsimp only at hSw); go_simp; first | done | (with_reducible rfl))
        show wpAnyH _ _ _ _ _ _ _ (Act.put _ (some 71) _) _
        simp only [Act.put, List.setIfInBounds_toArray, List.set_cons_zero, List.set_cons_succ]
        refine wpAnyH_done (by kernel_rfl) ?_ _
        have HB9 : Hid (Below wx.heap.size wx w1) := hHeld.1
        clear hHeld hbr
        go_wp2
        go_ret
        exact ⟨ret_bool (NO.out (by unfold fieldO; rw [if_pos rfl, ← HWV.out]; exact hr)).symm, step_below HB9.out HFX.out.bel⟩
      · skip
        refine wp_region_held_drew (S := (fun w' => Below wx.heap.size wx w' ∧ w'.cell? ⟨w.heap.size, 0, none⟩ = some (.int .i64 0) ∧ w'.cell? ⟨w.heap.size, 1, none⟩ = some (.int .i64 a) ∧ w'.cell? ⟨w.heap.size, 2, none⟩ = some (.int .i64 b) ∧ w'.cell? ⟨w.heap.size, 3, none⟩ = some (.int .i64 c) ∧ w'.cell? ⟨w.heap.size + 1, 0, none⟩ = some (.slice (some ⟨b0, o0, none⟩) B.length c0) ∧ w'.cell? ⟨nb, j, none⟩ = some (.bool true) ∧ w'.cell? ⟨nb + 1, j, none⟩ = some (.int .i64 fv) ∧ w'.cell? ⟨pb, 0, none⟩ = some (.int .i64 pv.kind) ∧ w'.cell? ⟨pb, 1, none⟩ = some (.int .i64 pv.n) ∧ w'.cell? ⟨b0, o0 + fv.toNat, none⟩ = some (.bool wv))) (by rfl) ?_ (fun hHeld => ?_)
        · (go_split_ands; refine ⟨?_, ?_, ?_, ?_, ?_, ?_, ?_, ?_, ?_, ?_, ?_⟩ <;> first | exact (Below.refl _ _).drew | exact ((Below.refl _ _).drew).trans hbr | exact step_below hbr (by assumption) | exact step_cell hbr (by assumption) | go_keep)
        refine wpAnyH_take (i := 0) (v := ?_) rfl (by kernel_rfl) (by kernel_rfl) (by kernel_rfl) (fun _ _ _ h => h) (Or.inl ⟨by rfl, ?_⟩) (by assumption) ?_
        case refine_2 => (intro w hSw; (try dsimp only at hSw); go_simp; first | done | (with_reducible rfl))
        show wpAnyH _ _ _ _ _ _ _ (Act.put _ (some 45) _) _
        simp only [Act.put, List.setIfInBounds_toArray, List.set_cons_zero, List.set_cons_succ]
        refine wpAnyH_take (i := 1) (v := ?_) rfl (by kernel_rfl) (by kernel_rfl) (by kernel_rfl) (fun _ _ _ h => h) (Or.inl ⟨by rfl, ?_⟩) (by assumption) ?_
        case refine_2 => (intro w hSw; (try dsimp only at hSw); go_simp; first | done | (with_reducible rfl))
        show wpAnyH _ _ _ _ _ _ _ (Act.put _ (some 46) _) _
        simp only [Act.put, List.setIfInBounds_toArray, List.set_cons_zero, List.set_cons_succ]
        refine wpAnyH_take (i := 2) (v := ?_) rfl (by kernel_rfl) (by kernel_rfl) (by kernel_rfl) (fun _ _ _ h => h) (Or.inl ⟨by rfl, ?_⟩) (by assumption) ?_
        case refine_2 => (intro w hSw; (try dsimp only at hSw); go_simp; first | done | (with_reducible rfl))
        show wpAnyH _ _ _ _ _ _ _ (Act.put _ (some 47) _) _
        simp only [Act.put, List.setIfInBounds_toArray, List.set_cons_zero, List.set_cons_succ]
        refine wpAnyH_take (i := 3) (v := ?_) rfl (by kernel_rfl) (by kernel_rfl) (by kernel_rfl) (fun _ _ _ h => h) (Or.inl ⟨by rfl, ?_⟩) (by assumption) ?_
        case refine_2 => (intro w hSw; (try dsimp only at hSw); go_simp; first | done | (with_reducible rfl))
        show wpAnyH _ _ _ _ _ _ _ (Act.put _ (some 48) _) _
        simp only [Act.put, List.setIfInBounds_toArray, List.set_cons_zero, List.set_cons_succ]
        refine wpAnyH_take (i := 4) (v := ?_) rfl (by kernel_rfl) (by kernel_rfl) (by kernel_rfl) (fun _ _ _ h => h) (Or.inl ⟨by rfl, ?_⟩) (by assumption) ?_
        case refine_2 => (intro w hSw; (try dsimp only at hSw); go_simp; first | done | (with_reducible rfl))
        show wpAnyH _ _ _ _ _ _ _ (Act.put _ (some 49) _) _
        simp only [Act.put, List.setIfInBounds_toArray, List.set_cons_zero, List.set_cons_succ]
        refine wpAnyH_take (i := 5) (v := ?_) rfl (by kernel_rfl) (by kernel_rfl) (by kernel_rfl) (fun _ _ _ h => h) (Or.inl ⟨by rfl, ?_⟩) (by assumption) ?_
        case refine_2 => (intro w hSw; (try dsimp only at hSw); go_simp; first | done | (with_reducible rfl))
        show wpAnyH _ _ _ _ _ _ _ (Act.put _ (some 50) _) _
        simp only [Act.put, List.setIfInBounds_toArray, List.set_cons_zero, List.set_cons_succ]
        refine wpAnyH_take (i := 6) (v := ?_) rfl (by kernel_rfl) (by kernel_rfl) (by kernel_rfl) (fun _ _ _ h => h) (Or.inl ⟨by rfl, ?_⟩) (by assumption) ?_
        case refine_2 => (intro w hSw; (try dsimp only at hSw); go_simp; first | done | (with_reducible rfl))
        show wpAnyH _ _ _ _ _ _ _ (Act.put _ (some 51) _) _
        simp only [Act.put, List.setIfInBounds_toArray, List.set_cons_zero, List.set_cons_succ]
        refine wpAnyH_take (i := 7) (v := ?_) rfl (by kernel_rfl) (by kernel_rfl) (by kernel_rfl) (fun _ _ _ h => h) (Or.inl ⟨by rfl, ?_⟩) (by assumption) ?_
        case refine_2 => (intro w hSw; (try dsimp only at hSw); go_simp; first | done | (with_reducible rfl))
        show wpAnyH _ _ _ _ _ _ _ (Act.put _ (some 52) _) _
        simp only [Act.put, List.setIfInBounds_toArray, List.set_cons_zero, List.set_cons_succ]
        refine wpAnyH_take (i := 8) (v := ?_) rfl (by kernel_rfl) (by kernel_rfl) (by kernel_rfl) (fun _ _ _ h => h) (Or.inl ⟨by rfl, ?_⟩) (by assumption) ?_
        case refine_2 => (intro w hSw; (try dsimp only at hSw); go_simp; first | done | (with_reducible rfl))
        show wpAnyH _ _ _ _ _ _ _ (Act.put _ (some 53) _) _
        simp only [Act.put, List.setIfInBounds_toArray, List.set_cons_zero, List.set_cons_succ]
        refine wpAnyH_take (i := 9) (v := ?_) rfl (by kernel_rfl) (by kernel_rfl) (by kernel_rfl) (fun _ _ _ h => h) (Or.inl ⟨by rfl, ?_⟩) (by assumption) ?_
        case refine_2 => (intro w hSw; (try dsimp only at hSw); go_simp; first | done | (with_reducible rfl))
        show wpAnyH _ _ _ _ _ _ _ (Act.put _ (some 54) _) _
        simp only [Act.put, List.setIfInBounds_toArray, List.set_cons_zero, List.set_cons_succ]
        refine wpAnyH_take (i := 10) (v := ?_) rfl (by kernel_rfl) (by kernel_rfl) (by kernel_rfl) (fun _ _ _ h => h) (Or.inl ⟨by rfl, ?_⟩) (by assumption) ?_
        case refine_2 => (intro w hSw; (try dsimp only at hSw); go_simp; first | done | (with_reducible rfl))
        show wpAnyH _ _ _ _ _ _ _ (Act.put _ (some 55) _) _
        simp only [Act.put, List.setIfInBounds_toArray, List.set_cons_zero, List.set_cons_succ]
        refine wpAnyH_take (i := 11) (v := ?_) rfl (by kernel_rfl) (by kernel_rfl) (by kernel_rfl) (fun _ _ _ h => h) (Or.inl ⟨by rfl, ?_⟩) (by assumption) ?_
        case refine_2 => (intro w hSw; (try dsimp only at hSw); go_simp; first | done | (with_reducible rfl))
        show wpAnyH _ _ _ _ _ _ _ (Act.put _ (some 56) _) _
        simp only [Act.put, List.setIfInBounds_toArray, List.set_cons_zero, List.set_cons_succ]
        refine wpAnyH_take (i := 12) (v := ?_) rfl (by kernel_rfl) (by kernel_rfl) (by kernel_rfl) (fun _ _ _ h => h) (Or.inl ⟨by rfl, ?_⟩) (by assumption) ?_
        case refine_2 => (intro w hSw; (try dsimp only at hSw); go_simp; first | done | (with_reducible rfl))
        show wpAnyH _ _ _ _ _ _ _ (Act.put _ (some 57) _) _
        simp only [Act.put, List.setIfInBounds_toArray, List.set_cons_zero, List.set_cons_succ]
        refine wpAnyH_ready (rs := [13]) (by kernel_rfl) (by simp) ?_
        refine (AllReadyH.cons rfl (fun K hK => ?_) AllReadyH.nil)
        go_simp
        go_at_call 96
        refine (holds a b c pv wv _).mono ?_
        rintro e w1 ⟨rfl, hbr⟩
        rw [hr]
        go_wp2_with fail
        refine hK.out _ _ ?_ (fun hHeld => ?_)
        · (go_split_ands; refine ⟨?_, ?_, ?_, ?_, ?_, ?_, ?_, ?_, ?_, ?_, ?_⟩ <;> first | exact (Below.refl _ _).drew | exact ((Below.refl _ _).drew).trans hbr | exact step_below hbr (by assumption) | exact step_cell hbr (by assumption) | go_keep)
        clear hK K
        try simp only [Act.put, List.setIfInBounds_toArray, List.set_cons_zero, List.set_cons_succ]
        refine wpAnyH_take (i := 14) (v := ?_) rfl (by kernel_rfl) (by kernel_rfl) (by kernel_rfl) (fun _ _ _ h => h) (Or.inl ⟨by rfl, ?_⟩) (by assumption) ?_
        case refine_2 => (intro w hSw; (try dsimp only at hSw); go_simp; first | done | (with_reducible rfl))
        show wpAnyH _ _ _ _ _ _ _ (Act.put _ (some 59) _) _
        simp only [Act.put, List.setIfInBounds_toArray, List.set_cons_zero, List.set_cons_succ]
        refine wpAnyH_take (i := 15) (v := ?_) rfl (by kernel_rfl) (by kernel_rfl) (by kernel_rfl) (fun _ _ _ h => h) (Or.inl ⟨by rfl, ?_⟩) (by assumption) ?_
        case refine_2 => (intro w hSw; (try dsimp only at hSw); go_simp; first | done | (with_reducible rfl))
        show wpAnyH _ _ _ _ _ _ _ (Act.put _ (some 60) _) _
        simp only [Act.put, List.setIfInBounds_toArray, List.set_cons_zero, List.set_cons_succ]
        refine wpAnyH_take (i := 16) (v := ?_) rfl (by kernel_rfl) (by kernel_rfl) (by kernel_rfl) (fun _ _ _ h => h) (Or.inl ⟨by rfl, ?_⟩) (by assumption) ?_
        case refine_2 => (intro w hSw; (try dsimp only at hSw); go_simp; first | done | (with_reducible rfl))
        show wpAnyH _ _ _ _ _ _ _ (Act.put _ (some 61) _) _
        simp only [Act.put, List.setIfInBounds_toArray, List.set_cons_zero, List.set_cons_succ]
        refine wpAnyH_take (i := 17) (v := ?_) rfl (by kernel_rfl) (by kernel_rfl) (by kernel_rfl) (fun _ _ _ h => h) (Or.inl ⟨by rfl, ?_⟩) (by assumption) ?_
        case refine_2 => (intro w hSw; (try dsimp only at hSw); go_simp; first | done | (with_reducible rfl))
        show wpAnyH _ _ _ _ _ _ _ (Act.put _ (some 62) _) _
        simp only [Act.put, List.setIfInBounds_toArray, List.set_cons_zero, List.set_cons_succ]
        refine wpAnyH_take (i := 18) (v := ?_) rfl (by kernel_rfl) (by kernel_rfl) (by kernel_rfl) (fun _ _ _ h => h) (Or.inl ⟨by rfl, ?_⟩) (by assumption) ?_
        case refine_2 => (intro w hSw; (try dsimp only at hSw); go_simp; first | done | (with_reducible rfl))
        show wpAnyH _ _ _ _ _ _ _ (Act.put _ (some 63) _) _
        simp only [Act.put, List.setIfInBounds_toArray, List.set_cons_zero, List.set_cons_succ]
        refine wpAnyH_take (i := 19) (v := ?_) rfl (by kernel_rfl) (by kernel_rfl) (by kernel_rfl) (fun _ _ _ h => h) (Or.inl ⟨by rfl, ?_⟩) (by assumption) ?_
        case refine_2 => (intro w hSw; (try dsimp only at hSw); go_simp; first | done | (with_reducible rfl))
        show wpAnyH _ _ _ _ _ _ _ (Act.put _ (some 64) _) _
        simp only [Act.put, List.setIfInBounds_toArray, List.set_cons_zero, List.set_cons_succ]
        refine wpAnyH_take (i := 20) (v := ?_) rfl (by kernel_rfl) (by kernel_rfl) (by kernel_rfl) (fun _ _ _ h => h) (Or.inl ⟨by rfl, ?_⟩) (by assumption) ?_
        case refine_2 => (intro w hSw; (try dsimp only at hSw); go_simp; first | done | (with_reducible rfl))
        show wpAnyH _ _ _ _ _ _ _ (Act.put _ (some 65) _) _
        simp only [Act.put, List.setIfInBounds_toArray, List.set_cons_zero, List.set_cons_succ]
        refine wpAnyH_take (i := 21) (v := ?_) rfl (by kernel_rfl) (by kernel_rfl) (by kernel_rfl) (fun _ _ _ h => h) (Or.inl ⟨by rfl, ?_⟩) (by assumption) ?_
        case refine_2 => (intro w hSw; (try dsimp only at hSw); go_simp; first | done | (with_reducible rfl))
        show wpAnyH _ _ _ _ _ _ _ (Act.put _ (some 66) _) _
        simp only [Act.put, List.setIfInBounds_toArray, List.set_cons_zero, List.set_cons_succ]
        refine wpAnyH_take (i := 22) (v := undef) rfl (by kernel_rfl) (by kernel_rfl) (by kernel_rfl) (fun _ _ _ h => h) (Or.inr ⟨by rfl, rfl⟩) (by assumption) ?_
        show wpAnyH _ _ _ _ _ _ _ (Act.put _ (some 67) _) _
        simp only [Act.put, List.setIfInBounds_toArray, List.set_cons_zero, List.set_cons_succ]
        refine wpAnyH_take (i := 23) (v := undef) rfl (by kernel_rfl) (by kernel_rfl) (by kernel_rfl) (fun _ _ _ h => h) (Or.inr ⟨by rfl, rfl⟩) (by assumption) ?_
        show wpAnyH _ _ _ _ _ _ _ (Act.put _ (some 68) _) _
        simp only [Act.put, List.setIfInBounds_toArray, List.set_cons_zero, List.set_cons_succ]
        refine wpAnyH_take (i := 24) (v := undef) rfl (by kernel_rfl) (by kernel_rfl) (by kernel_rfl) (fun _ _ _ h => h) (Or.inr ⟨by rfl, rfl⟩) (by assumption) ?_
        show wpAnyH _ _ _ _ _ _ _ (Act.put _ (some 69) _) _
        simp only [Act.put, List.setIfInBounds_toArray, List.set_cons_zero, List.set_cons_succ]
        refine wpAnyH_take (i := 25) (v := ?_) rfl (by kernel_rfl) (by kernel_rfl) (by kernel_rfl) (fun _ _ _ h => h) (Or.inl ⟨by rfl, ?_⟩) (by assumption) ?_
        case refine_2 => (intro w hSw; (try dsimp only at hSw); go_simp; first | done | (with_reducible rfl))
        show wpAnyH _ _ _ _ _ _ _ (Act.put _ (some 70) _) _
        simp only [Act.put, List.setIfInBounds_toArray, List.set_cons_zero, List.set_cons_succ]
        refine wpAnyH_take (i := 26) (v := ?_) rfl (by kernel_rfl) (by kernel_rfl) (by kernel_rfl) (fun _ _ _ h => h) (Or.inl ⟨by rfl, ?_⟩) (by assumption) ?_
        case refine_2 => (intro w hSw; (try dsimp only at hSw); go_simp; first | done | (with_reducible rfl))
        show wpAnyH _ _ _ _ _ _ _ (Act.put _ (some 71) _) _
        simp only [Act.put, List.setIfInBounds_toArray, List.set_cons_zero, List.set_cons_succ]
        refine wpAnyH_done (by kernel_rfl) ?_ _
        have HB9 : Hid (Below wx.heap.size wx w1) := hHeld.1
        clear hHeld hbr
        go_wp2
        exact ⟨⟨j + 1, by omega, by go_num, HFX.out.below HB9.out, YES.out (by unfold fieldO; rw [if_pos rfl, ← HWV.out]; exact hr)⟩, by simp [intOf]; omega⟩

end Go.Proofs.YtcmnmogmdhofcabGreat.form
