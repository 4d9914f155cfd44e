/- What the document's run (loanbookref3.Play) shows: the machine on plain numbers, so many steps. -/
import Derived.Deep.OwnRows
import Derived.Deep.DeepCutAuto
import Derived.Test.YtcmnmogmdhofcaaB04
import Derived.Test.YtcmnmogmdhofcaaB14
import Derived.Test.YtcmnmogmdhofcaaB16

namespace Go.Proofs.Ytcmnmogmdhofcaa.form
open Go.RowKit Go.Proofs.Ytcmnmogmdhofcaa.num
set_option linter.unusedVariables false
attribute [local go_sem ↓] Go.wp_at_zero Go.wp_at_succ

/-- What lies in memory while a program runs. -/
structure PS (w : World) (b0 o0 c0 b1 o1 c1 : Nat) (B : List Bool) (C : List LIns) (ts : List Int) (v : Value) (l : List Int) (st k : Int) (wr : World) : Prop where
  bel : Below w.heap.size w wr
  p0 : wr.cell? ⟨w.heap.size, 0, none⟩ = some (.slice (some ⟨b0, o0, none⟩) B.length c0)
  p1 : wr.cell? ⟨w.heap.size, 1, none⟩ = some (.slice (some ⟨b1, o1, none⟩) C.length c1)
  res : Row wr (w.heap.size + 1) 35 [.int .i64 0, .slice none 0 0, .int .i64 0]
  sh : Row wr (w.heap.size + 1 + 1) 35 [.int .i64 st, v, .int .i64 k]
  tm : Row wr (w.heap.size + 1 + 1 + 1) 22 (ts.map (Value.int .u64))
  own : wr.ownsRow (w.heap.size + 4) 23 1 v l.length (l.map (Value.int .u32))

section
variable {w : World} {b0 o0 c0 b1 o1 c1 : Nat} {B : List Bool} {C : List LIns} {ts : List Int} {v : Value} {l : List Int} {st k : Int} {wr w1 : World}

theorem PS.sz (h : PS w b0 o0 c0 b1 o1 c1 B C ts v l st k wr) : w.heap.size + 4 ≤ wr.heap.size := h.tm.lt
theorem PS.ownNe (h : PS w b0 o0 c0 b1 o1 c1 B C ts v l st k wr) {b : Nat} (hb : b < w.heap.size + 4) : v.ownBlock ≠ some b := fun e => by have := (World.ownsRow.lt h.own _ e).1; omega

theorem own_below {base : Nat} {e : TypeId} {n : Nat} {xs : List Value} (h : wr.ownsRow base e 1 v n xs) (hb : Below wr.heap.size wr w1) : w1.ownsRow base e 1 v n xs :=
  World.ownsRow.kept h ⟨hb.os, hb.tape, hb.output, hb.size, fun j hj _ => hb.block j hj⟩ (row := none) (by cases v.ownBlock <;> simp)

theorem PS.below (h : PS w b0 o0 c0 b1 o1 c1 B C ts v l st k wr) (hb : Below wr.heap.size wr w1) : PS w b0 o0 c0 b1 o1 c1 B C ts v l st k w1 :=
  ⟨step_below hb h.bel, step_cell hb h.p0, step_cell hb h.p1, h.res.below hb, h.sh.below hb, h.tm.below hb, own_below h.own hb⟩

theorem PS.setTemp (h : PS w b0 o0 c0 b1 o1 c1 B C ts v l st k wr) (d : Nat) (x : Int) : PS w b0 o0 c0 b1 o1 c1 B C (ts.set d x) v l st k (wr.setCell ⟨w.heap.size + 1 + 1 + 1, d, none⟩ (.int .u64 x)) :=
  ⟨h.bel.setCell (by simp; omega) _, cell_other h.p0 (by simp; omega), cell_other h.p1 (by simp; omega), h.res.other (by simp) _, h.sh.other (by simp) _, by have := h.tm.set d (.int .u64 x); simpa [List.map_set] using this, ownsRow_setCell_other h.own (h.ownNe (by dsimp only; omega)) _⟩

theorem PS.setState (h : PS w b0 o0 c0 b1 o1 c1 B C ts v l st k wr) (x : Int) : PS w b0 o0 c0 b1 o1 c1 B C ts v l x k (wr.setCell ⟨w.heap.size + 1 + 1, 0, none⟩ (.int .i64 x)) :=
  ⟨h.bel.setCell (by simp; omega) _, cell_other h.p0 (by simp; omega), cell_other h.p1 (by simp; omega), h.res.other (by simp) _, h.sh.set 0 _, h.tm.other (by simp) _, ownsRow_setCell_other h.own (h.ownNe (by dsimp only; omega)) _⟩

theorem PS.setSteps (h : PS w b0 o0 c0 b1 o1 c1 B C ts v l st k wr) (x : Int) : PS w b0 o0 c0 b1 o1 c1 B C ts v l st x (wr.setCell ⟨w.heap.size + 1 + 1, 2, none⟩ (.int .i64 x)) :=
  ⟨h.bel.setCell (by simp; omega) _, cell_other h.p0 (by simp; omega), cell_other h.p1 (by simp; omega), h.res.other (by simp) _, h.sh.set 2 _, h.tm.other (by simp) _, ownsRow_setCell_other h.own (h.ownNe (by dsimp only; omega)) _⟩

/-- Behind 's.Out = append(s.Out, x)'. -/
theorem PS.push (h : PS w b0 o0 c0 b1 o1 c1 B C ts v l st k wr) {x : Int} {o : Obj} {g cap : Nat}
    (hown : w1.ownsRow (w.heap.size + 4) 23 1 (.slice (some ⟨g, 0, none⟩) (l.length + 1) cap) (l.length + 1) (l.map (Value.int .u32) ++ [.int .u32 x])) (hgrow : (wr.alloc o).grownBy w1 v.ownBlock) :
    PS w b0 o0 c0 b1 o1 c1 B C ts (.slice (some ⟨g, 0, none⟩) (l.length + 1) cap) (l ++ [x]) st k (w1.setCell ⟨w.heap.size + 1 + 1, 1, none⟩ (.slice (some ⟨g, 0, none⟩) (l.length + 1) cap)) := by
  have hz := h.sz
  have hz1 : (wr.alloc o).heap.size = wr.heap.size + 1 := by simp
  have hbl : Below w.heap.size w w1 := (h.bel.alloc (by omega) o).grown hgrow (by omega) (fun j hj => by have := (World.ownsRow.lt h.own _ hj).1; omega)
  have far : ∀ b, b < w.heap.size + 4 → ∀ off u, wr.cell? ⟨b, off, none⟩ = some u → w1.cell? ⟨b, off, none⟩ = some u := by
    intro b hb off u hc
    rw [hgrow.cell_far ⟨b, off, none⟩ (by show b < (wr.alloc o).heap.size; omega) (Ne.symm (h.ownNe hb))]
    exact step_cell ((Below.refl _ _).alloc (Nat.le_refl _) o) hc
  have hgb : w.heap.size + 4 ≤ g := (World.ownsRow.lt hown g rfl).1
  refine ⟨hbl.setCell (by simp; omega) _, cell_other (far _ (by omega) _ _ h.p0) (by simp; omega), cell_other (far _ (by omega) _ _ h.p1) (by simp; omega), ?_, ?_, ?_, ?_⟩
  · exact ((h.res.alloc o).grown hgrow (Ne.symm (h.ownNe (by omega)))).other (by simp) _
  · exact ((h.sh.alloc o).grown hgrow (Ne.symm (h.ownNe (by omega)))).set 1 _
  · exact ((h.tm.alloc o).grown hgrow (Ne.symm (h.ownNe (by omega)))).other (by simp) _
  · have := ownsRow_setCell_other (a := ⟨w.heap.size + 1 + 1, 1, none⟩) hown (by simp [Value.ownBlock]; omega) (.slice (some ⟨g, 0, none⟩) (l.length + 1) cap)
    simpa using this
end

theorem infoU64 : (Try.prog.info? 22).map (fun i => (i.zero, i.size, i.bytes)) = some (some (.int .u64 0), 1, 8) := by kernel_rfl
theorem infoU32 : (Try.prog.info? 23).map (fun i => (i.zero, i.size, i.bytes)) = some (some (.int .u32 0), 1, 4) := by kernel_rfl

theorem made_u64 (n : Nat) : madeCells #[.int .u64 0] n = ((List.replicate n (0 : Int)).map (Value.int .u64)).toArray := by
  apply Array.toList_inj.1
  rw [toList_madeCells_one]
  simp

theorem ps_start (w : World) (b0 o0 c0 b1 o1 c1 : Nat) (B : List Bool) (C : List LIns) :
    PS w b0 o0 c0 b1 o1 c1 B C (Mac.start B.length).temps (.slice none 0 0) (Mac.start B.length).out (Mac.start B.length).state (Mac.start B.length).steps
      ((((w.alloc (.cells #[.slice (some ⟨b0, o0, none⟩) B.length c0, .slice (some ⟨b1, o1, none⟩) C.length c1] 31)).alloc (.cells #[.int .i64 0, .slice none 0 0, .int .i64 0] 35)).alloc (.cells #[.int .i64 0, .slice none 0 0, .int .i64 0] 35)).alloc (.cells (madeCells #[.int .u64 0] B.length) 22)) := by
  rw [made_u64]
  refine ⟨((((Below.refl _ _).alloc (Nat.le_refl _) _).alloc (by simp) _).alloc (by simp; omega) _).alloc (by simp; omega) _, by simp [go_sem], by simp [go_sem], ?_, ?_, ?_, World.ownsRow_nil _ _ _ _⟩
  · have := ((Row.new (w.alloc (.cells #[.slice (some ⟨b0, o0, none⟩) B.length c0, .slice (some ⟨b1, o1, none⟩) C.length c1] 31)) 35 [.int .i64 0, .slice none 0 0, .int .i64 0]).alloc (.cells #[.int .i64 0, .slice none 0 0, .int .i64 0] 35)).alloc (.cells ((List.replicate B.length (0 : Int)).map (Value.int .u64)).toArray 22)
    simpa using this
  · have := (Row.new ((w.alloc (.cells #[.slice (some ⟨b0, o0, none⟩) B.length c0, .slice (some ⟨b1, o1, none⟩) C.length c1] 31)).alloc (.cells #[.int .i64 0, .slice none 0 0, .int .i64 0] 35)) 35 [.int .i64 0, .slice none 0 0, .int .i64 0]).alloc (.cells ((List.replicate B.length (0 : Int)).map (Value.int .u64)).toArray 22)
    simpa [Mac.start] using this
  · have := Row.new (((w.alloc (.cells #[.slice (some ⟨b0, o0, none⟩) B.length c0, .slice (some ⟨b1, o1, none⟩) C.length c1] 31)).alloc (.cells #[.int .i64 0, .slice none 0 0, .int .i64 0] 35)).alloc (.cells #[.int .i64 0, .slice none 0 0, .int .i64 0] 35)) 22 ((List.replicate B.length (0 : Int)).map (Value.int .u64))
    simpa [Mac.start] using this

theorem own_form32 {w : World} {base : Nat} {e : TypeId} {v : Value} {xs : List Int} (h : w.ownsRow base e 1 v xs.length (xs.map (Value.int .u32))) :
    ∃ ao cap, v = .slice ao xs.length cap ∧ (0 < xs.length → ∃ b o, ao = some ⟨b, o, none⟩ ∧ base ≤ b ∧ b < w.heap.size ∧ ∀ j, j < xs.length → w.cell? ⟨b, o + j, none⟩ = some (.int .u32 (xs.getD j 0))) := by
  by_cases hn : 0 < xs.length
  · obtain ⟨g, cap, rfl, hbg, hlt⟩ := h.form hn
    refine ⟨_, cap, rfl, fun _ => ⟨g, 0, rfl, hbg, hlt, fun j hj => ?_⟩⟩
    rw [Nat.zero_add, World.ownsRow.cellAt h j (by omega)]
    simp [List.getD, hj]
  · rcases h.2 with ⟨rfl, h0⟩ | ⟨g, cap, cur, rfl, _⟩
    · exact ⟨none, 0, by rw [h0], fun hh => absurd hh hn⟩
    · exact ⟨_, cap, rfl, fun hh => absurd hh hn⟩

set_option maxRecDepth 100000 in
set_option maxHeartbeats 4000000 in
theorem play (b0 o0 c0 b1 o1 c1 : Nat) (B : List Bool) (C : List LIns) (iv : Value) (I : List Int) (n : Nat) (w : World) (hm : refMayB B C = true) (h : Held w b0 o0 b1 o1 B C)
    (hn : ∀ i, i < C.length → 0 ≤ (C.getD i .zero).n ∧ (C.getD i .zero).n < 4294967296) (hI : OutIs w iv I) (hIb : ∀ j, j < I.length → 0 ≤ I.getD j 0 ∧ I.getD j 0 < 4294967296) (hn3 : n ≤ 3000) :
    Calls Try.prog 23 #[progV b0 o0 B.length c0 b1 o1 C.length c1, iv, .int .i64 n] w fun e w' =>
      ∃ rv, e = .returned rv ∧ ShownIs w' rv (playM B C I n).state (playM B C I n).out (playM B C I n).steps ∧ Below w.heap.size w w' := by
  have hok := all_insOk hm hn
  have hsz : sizesB B C = true := by unfold refMayB at hm; simp only [Bool.and_eq_true] at hm; exact hm.1
  obtain ⟨s1, s2, s3, s4⟩ := sizes_of hsz
  have HOK : Hid _ := hok
  have HIb : Hid _ := hIb
  obtain ⟨ai, ci, rfl, hlI, hcI⟩ := hI
  have HCI : Hid _ := hcI
  clear hok hIb hcI hm hsz hn
  have hmk := fun wx => run_make_row' (P := Try.prog) 85 22 (.int .u64 0) 8 Try.underlying85 infoU64 rfl .i64 .i64 B.length (by omega) (by omega) wx
  unfold progV
  go_enter Try.func23, Try.ntmps23
  go_wp2
  go_loopg [9, 10] (n + 1) (fun g at_ tk wr => ∃ (m : Mac) (v : Value), at_ = .int .i64 m.pc ∧ tk = .int .i64 m.taken ∧ PS w b0 o0 c0 b1 o1 c1 B C m.temps v m.out m.state m.steps wr ∧ MOk B.length C.length I.length m ∧ m.steps + g = n + 1 ∧ m.steps ≤ n ∧ Mac.go C I (n - m.steps) m = playM B C I n)
  case atStart =>
    refine ⟨Mac.start B.length, .slice none 0 0, rfl, rfl, ?_, mok_start _ _ _ s3, by simp [Mac.start], by simp [Mac.start], rfl⟩
    exact ps_start w b0 o0 c0 b1 o1 c1 B C
  case round =>
    obtain ⟨m, v, rfl, rfl, hps, hmo, hg, hle, hfin⟩ := hrel
    have t0 : wr.cell? ⟨w.heap.size + 1 + 1, 0, none⟩ = some (.int .i64 m.state) := hps.sh.cell 0
    have t1 : wr.cell? ⟨w.heap.size + 1 + 1, 1, none⟩ = some v := hps.sh.cell 1
    have t2 : wr.cell? ⟨w.heap.size + 1 + 1, 2, none⟩ = some (.int .i64 m.steps) := hps.sh.cell 2
    have HF : Hid (Mac.go C I (n - m.steps) m = playM B C I n) := hfin
    have HPS : Hid (PS w b0 o0 c0 b1 o1 c1 B C m.temps v m.out m.state m.steps wr) := hps
    have HMO : Hid (MOk B.length C.length I.length m) := hmo
    clear hfin hps hmo
    by_cases hgo : m.steps < n ∧ m.state = 0
    case neg =>
      have hend : m = playM B C I n := by
        rw [← HF.out]
        by_cases e : m.state = 0
        · have : n - m.steps = 0 := by omega
          rw [this]; rfl
        · rw [Mac.go_stop e]
      obtain ⟨ov, cp, hov, hcells⟩ := own_form32 HPS.out.own
      have z0 : wr.cell? ⟨w.heap.size + 1, 0, none⟩ = some (.int .i64 0) := HPS.out.res.cell 0
      have z1 : wr.cell? ⟨w.heap.size + 1, 1, none⟩ = some (.slice none 0 0) := HPS.out.res.cell 1
      have z2 : wr.cell? ⟨w.heap.size + 1, 2, none⟩ = some (.int .i64 0) := HPS.out.res.cell 2
      have f0 := HPS.out.res.frozen 0
      have f1 := HPS.out.res.frozen 1
      have f2 := HPS.out.res.frozen 2
      subst hov
      have HEND : Hid _ := hend
      clear hend
      rcases (show (¬ (m.steps : Int) < (n : Int)) ∨ ((m.steps : Int) < (n : Int) ∧ (m.state == 0) = false) by
        by_cases e : m.steps < n
        · exact Or.inr ⟨by omega, by simp; exact fun e2 => hgo ⟨e, e2⟩⟩
        · exact Or.inl (by omega)) with e1 | ⟨e1, e2⟩
      all_goals
        clear hgo
        go_wp2
        have r0 := ((HPS.out.res.set 0 (.int .i64 m.state)).set 1 (.slice ov m.out.length cp)).set 2 (.int .i64 m.steps)
        have g0 := r0.cell 0
        have g1 := r0.cell 1
        have g2 := r0.cell 2
        simp at g0 g1 g2
        refine bodyPost_ret (v := .agg #[.int .i64 m.state, .slice ov m.out.length cp, .int .i64 m.steps]) ?_ rfl ⟨_, rfl, ?_, ?_⟩
        · simp [results, Try.results23, go_sem, g0, g1, g2]
        · rw [← HEND.out]
          refine ⟨_, rfl, ov, cp, rfl, by have := HMO.out.outs; omega, fun hp => ?_⟩
          obtain ⟨gb, go, e, hgb, hgl, hgc⟩ := hcells hp
          refine ⟨gb, go, e, by simpa using hgl, fun j hj => ?_⟩
          exact cell_other (cell_other (cell_other (hgc j hj) (by dsimp only; omega)) (by dsimp only; omega)) (by dsimp only; omega)
        · exact ((HPS.out.bel.setCell (by dsimp only; omega) _).setCell (by dsimp only; omega) _).setCell (by dsimp only; omega) _
    obtain ⟨hlt, hst0⟩ := hgo
    have hpc := HMO.out.pcok hst0
    have hi := HOK.out m.pc hpc
    have hbel := HPS.out.bel
    obtain ⟨d0, d1, d2, d3, d4, d5⟩ := (h.later hbel).code m.pc hpc
    have hll := HMO.out.len
    obtain ⟨i, hie⟩ : ∃ i, i = C.getD m.pc .zero := ⟨_, rfl⟩
    rw [← hie] at d0 d1 d2 d3 d4 d5 hi
    have ca : wr.cell? ⟨w.heap.size + 1 + 1 + 1, i.a.toNat, none⟩ = some (.int .u64 (m.temps.getD i.a.toNat 0)) := by
      have := hi.a0; have := hi.a1
      rw [HPS.out.tm.cell]; simp [List.getD, show i.a.toNat < m.temps.length by omega]
    have cb : wr.cell? ⟨w.heap.size + 1 + 1 + 1, i.b.toNat, none⟩ = some (.int .u64 (m.temps.getD i.b.toNat 0)) := by
      have := hi.b0; have := hi.b1
      rw [HPS.out.tm.cell]; simp [List.getD, show i.b.toNat < m.temps.length by omega]
    have hua := HMO.out.bd i.a.toNat
    have hub := HMO.out.bd i.b.toNat
    obtain ⟨a, hae⟩ : ∃ a, a = m.temps.getD i.a.toNat 0 := ⟨_, rfl⟩
    obtain ⟨b, hbe⟩ : ∃ b, b = m.temps.getD i.b.toNat 0 := ⟨_, rfl⟩
    rw [← hae] at ca hua
    rw [← hbe] at cb hub
    have HIE : Hid (i = C.getD m.pc .zero) := hie
    have HAE : Hid (a = m.temps.getD i.a.toNat 0) := hae
    have HBE : Hid (b = m.temps.getD i.b.toNat 0) := hbe
    have HII : Hid (InsOk B.length C.length i) := hi
    have x1 := hi.a0
    have x2 := hi.a1
    have x3 := hi.b0
    have x4 := hi.b1
    have x5 : (m.pc : Int) < (C.length : Int) := by omega
    have x6 : (m.steps : Int) < (n : Int) := by omega
    have x7 : (m.state == 0) = true := by simp [hst0]
    have HST0 : Hid (m.state = 0) := hst0
    have hz4 := HPS.out.sz
    have hz0 : w.heap.size < wr.heap.size := by omega
    have hz3 : w.heap.size + 1 + 1 + 1 < wr.heap.size := by omega
    have hz2 : w.heap.size + 1 + 1 < wr.heap.size := by omega
    have hlb1 := (h.later hbel).lt1
    have p0 := HPS.out.p0
    have p1 := HPS.out.p1
    clear hie hae hbe hi hll hst0 hpc hbel
    go_upto_region 10 with fail
    go_cut [52] (fun s wq => s = .bool ((i.op == 3) && decide (m.taken < I.length)) ∧ wq = (wr.alloc (.cells #[.int .i64 i.op, .int .i64 i.dest, .int .i64 i.a, .int .i64 i.b, .int .i64 i.c, .int .u32 i.n] 50)))
    case first =>
      rcases Bool.eq_false_or_eq_true (i.op == 3) with e1 | e1
      all_goals
        go_wp2
        go_meet
        case rel => exact ⟨by simp [e1], rfl⟩
    obtain ⟨rfl, rfl⟩ := hcut
    obtain ⟨inb, hinb⟩ : ∃ x, x = ((i.op == 3) && decide (m.taken < I.length)) := ⟨_, rfl⟩
    rw [← hinb]
    obtain ⟨tk', htk⟩ : ∃ t : Nat, t = if inb then m.taken + 1 else m.taken := ⟨_, rfl⟩
    obtain ⟨xi, hxi⟩ : ∃ x : Int, x = if inb then I.getD m.taken 0 else 0 := ⟨_, rfl⟩
    have HINB : Hid (inb = ((i.op == 3) && decide (m.taken < I.length))) := hinb
    have HTK : Hid (tk' = if inb then m.taken + 1 else m.taken) := htk
    have HXI : Hid (xi = if inb then I.getD m.taken 0 else 0) := hxi
    clear hinb htk hxi
    go_upto_if 52 with fail
    go_cut [10, 14] (fun t x wq => t = .int .i64 tk' ∧ x = .int .u32 xi ∧ wq = (wr.alloc (.cells #[.int .i64 i.op, .int .i64 i.dest, .int .i64 i.a, .int .i64 i.b, .int .i64 i.c, .int .u32 i.n] 50)))
    case first =>
      have htk3 := HMO.out.tk
      cases inb
      · have HTK2 : Hid (tk' = m.taken) := HTK.out
        have HXI2 : Hid (xi = 0) := HXI.out
        go_wp2
        go_meet
        case rel => exact ⟨by rw [HTK2.out], by rw [HXI2.out], rfl⟩
      · have HTK2 : Hid (tk' = m.taken + 1) := HTK.out
        have HXI2 : Hid (xi = I.getD m.taken 0) := HXI.out
        have hb2 := HINB.out
        simp at hb2
        obtain ⟨-, hlt2⟩ := hb2
        obtain ⟨ib, io, rfl, hib, hicell⟩ := HCI.out (by omega)
        have ic := step_cell HPS.out.bel (hicell _ hlt2)
        rw [← HXI2.out] at ic
        have hib2 : ib < wr.heap.size := Nat.lt_of_lt_of_le hib HPS.out.bel.size
        clear hicell
        go_wp2
        go_meet
        case rel => exact ⟨by rw [HTK2.out]; go_num, rfl, rfl⟩
    obtain ⟨rfl, rfl, rfl⟩ := hcut
    have hpsA : PS w b0 o0 c0 b1 o1 c1 B C m.temps v m.out m.state m.steps (wr.alloc (.cells #[.int .i64 i.op, .int .i64 i.dest, .int .i64 i.a, .int .i64 i.b, .int .i64 i.c, .int .u32 i.n] 50)) := HPS.out.below ((Below.refl _ _).alloc (Nat.le_refl _) _)
    have HPA : Hid (PS w b0 o0 c0 b1 o1 c1 B C m.temps v m.out m.state m.steps (wr.alloc (.cells #[.int .i64 i.op, .int .i64 i.dest, .int .i64 i.a, .int .i64 i.b, .int .i64 i.c, .int .u32 i.n] 50))) := hpsA
    have HRI : Hid (Row (wr.alloc (.cells #[.int .i64 i.op, .int .i64 i.dest, .int .i64 i.a, .int .i64 i.b, .int .i64 i.c, .int .u32 i.n] 50)) wr.heap.size 50 [.int .i64 i.op, .int .i64 i.dest, .int .i64 i.a, .int .i64 i.b, .int .i64 i.c, .int .u32 i.n]) := Row.new wr _ _
    clear hpsA
    go_upto_if 61 with fail
    obtain ⟨l', hl'⟩ : ∃ x, x = if (i.op == 4) then m.out ++ [a % 4294967296] else m.out := ⟨_, rfl⟩
    have HL' : Hid (l' = if (i.op == 4) then m.out ++ [a % 4294967296] else m.out) := hl'
    clear hl'
    go_cut [] (fun wq => ∃ v', PS w b0 o0 c0 b1 o1 c1 B C m.temps v' l' m.state m.steps wq ∧ Row wq wr.heap.size 50 [.int .i64 i.op, .int .i64 i.dest, .int .i64 i.a, .int .i64 i.b, .int .i64 i.c, .int .u32 i.n])
    case first =>
      rcases Bool.eq_false_or_eq_true (i.op == 4) with e1 | e1
      · obtain ⟨t0', hi0, hy0, hy1, hy2⟩ := info_parts infoU32
        have hout := HMO.out.outs
        go_wp2_with (at_builtin; refine wpList_append_lies _ rfl _ _ 33 rfl (w.heap.size + 4) 23 t0' (.int .u32 0) 1 4 Try.underlying33 hi0 hy0 hy1 hy2 rfl (by decide) v m.out.length (m.out.map (Value.int .u32)) rfl (World.ownsRow.alloc HPA.out.own _) ⟨wr.heap.size + 1, 0, none⟩ 1 1 [.int .u32 (a % 4294967296)] rfl rfl ?c1 ?c2 (by decide) ?c3 ?c4 ?c5 _ rfl ?_)
        case c1 => exact World.news_of_block (cs := #[.int .u32 (a % 4294967296)]) (t := 23) (fr := (0, 0)) (by have := heap_alloc_new (wr.alloc (.cells #[.int .i64 i.op, .int .i64 i.dest, .int .i64 i.a, .int .i64 i.b, .int .i64 i.c, .int .u32 i.n] 50)) (.cells #[.int .u32 (a % 4294967296)] 23); simpa using this)
        case c2 => simp [Value.oneCell']
        case c3 => unfold maxLen; omega
        case c4 => omega
        case c5 => simp; omega
        intro g cap w1 hown hgrow hat hlt1
        have hP := HPA.out.push hown hgrow
        have rsh := (HPA.out.sh.alloc (.cells #[.int .u32 (a % 4294967296)] 23)).grown hgrow (Ne.symm (HPA.out.ownNe (by omega)))
        have fz := rsh.frozen 1
        have cz := rsh.cell 1
        simp at cz
        have rri := (HRI.out.alloc (.cells #[.int .u32 (a % 4294967296)] 23)).grown hgrow (fun e => by have := (World.ownsRow.lt HPS.out.own _ e.symm).2; omega)
        have rrj := rri.other (a := ⟨w.heap.size + 1 + 1, 1, none⟩) (by dsimp only; omega) (.slice (some ⟨g, 0, none⟩) (m.out.length + 1) cap)
        have hle' : l' = m.out ++ [a % 4294967296] := by rw [HL'.out, e1]; rfl
        rw [← hle'] at hP
        have R : Hid _ := (⟨_, hP, rrj⟩ : ∃ v', PS w b0 o0 c0 b1 o1 c1 B C m.temps v' l' m.state m.steps (w1.setCell ⟨w.heap.size + 1 + 1, 1, none⟩ (.slice (some ⟨g, 0, none⟩) (m.out.length + 1) cap)) ∧ Row (w1.setCell ⟨w.heap.size + 1 + 1, 1, none⟩ (.slice (some ⟨g, 0, none⟩) (m.out.length + 1) cap)) wr.heap.size 50 [.int .i64 i.op, .int .i64 i.dest, .int .i64 i.a, .int .i64 i.b, .int .i64 i.c, .int .u32 i.n])
        clear hP rrj rri rsh hle' hown hgrow hat
        go_wp2
        go_meet
        case rel => exact R.out
      · go_wp2
        go_meet
        case rel => exact ⟨v, by rw [show l' = m.out by rw [HL'.out, e1]; rfl]; exact HPA.out, HRI.out⟩
    obtain ⟨v', hpsB, hriB⟩ := hcut
    have r0 : wc.cell? ⟨wr.heap.size, 0, none⟩ = some (.int .i64 i.op) := hriB.cell 0
    have r1 : wc.cell? ⟨wr.heap.size, 1, none⟩ = some (.int .i64 i.dest) := hriB.cell 1
    have r2 : wc.cell? ⟨wr.heap.size, 2, none⟩ = some (.int .i64 i.a) := hriB.cell 2
    have r3 : wc.cell? ⟨wr.heap.size, 3, none⟩ = some (.int .i64 i.b) := hriB.cell 3
    have r4 : wc.cell? ⟨wr.heap.size, 4, none⟩ = some (.int .i64 i.c) := hriB.cell 4
    have r5 : wc.cell? ⟨wr.heap.size, 5, none⟩ = some (.int .u32 i.n) := hriB.cell 5
    have HPB : Hid (PS w b0 o0 c0 b1 o1 c1 B C m.temps v' l' m.state m.steps wc) := hpsB
    have xb : 0 ≤ xi ∧ xi < 4294967296 := by
      rw [HXI.out]
      cases hib : inb
      · simp
      · have := HINB.out
        rw [hib] at this
        simp at this
        exact HIb.out m.taken this.2
    obtain ⟨xb0, xb1⟩ := xb
    clear hpsB
    go_upto_if 71 with (go_at_call 47; refine (gives _ _).mono ?_; rintro e w' ⟨rfl, rfl⟩)
    obtain ⟨ts', hts'⟩ : ∃ x, x = if givesB i.op then m.temps.set i.dest.toNat (gvI i a b xi) else m.temps := ⟨_, rfl⟩
    have HTS : Hid (ts' = if givesB i.op then m.temps.set i.dest.toNat (gvI i a b xi) else m.temps) := hts'
    clear hts'
    go_cut [] (fun wq => PS w b0 o0 c0 b1 o1 c1 B C ts' v' l' m.state m.steps wq)
    case first =>
      rcases Bool.eq_false_or_eq_true (givesB i.op) with e1 | e1
      · have hdd := HII.out.d e1
        obtain ⟨hd0, hd1⟩ := hdd
        have n0 := HII.out.n0
        have n1 := HII.out.n1
        have o0' := HII.out.p0
        have o1' := HII.out.p1
        have hlen := HMO.out.len
        have hne1 : ¬ wr.heap.size = w.heap.size + 1 + 1 + 1 := by omega
        have hne2 : ¬ w.heap.size + 1 + 1 + 1 = wr.heap.size := by omega
        rw [e1]
        go_wp2
        go_region_held3 (fun w' => w'.cell? ⟨wr.heap.size, 0, none⟩ = some (.int .i64 i.op) ∧ w'.cell? ⟨wr.heap.size, 1, none⟩ = some (.int .i64 i.dest) ∧ w'.cell? ⟨wr.heap.size, 2, none⟩ = some (.int .i64 i.a) ∧ w'.cell? ⟨wr.heap.size, 3, none⟩ = some (.int .i64 i.b) ∧ w'.cell? ⟨wr.heap.size, 4, none⟩ = some (.int .i64 i.c) ∧ w'.cell? ⟨wr.heap.size, 5, none⟩ = some (.int .u32 i.n))
          ((go_split_ands; refine ⟨?_, ?_, ?_, ?_, ?_, ?_⟩ <;> first | exact step_cell hb1 (by assumption) | exact cell_other (by assumption) (by dsimp only; omega) | go_keep))
          ((go_at_call 48; refine (gives3 i a b xi hua hub xb0 xb1 n0 n1 (by omega) (by omega) _).mono ?_; rintro e w1 ⟨rfl, hb1⟩; have fz : w1.frozen? ⟨w.heap.size + 1 + 1 + 1, i.dest.toNat, none⟩ = false := (HPB.out.tm.drew.below hb1).frozen _; have cz : w1.cell? ⟨w.heap.size + 1 + 1 + 1, i.dest.toNat, none⟩ = some (.int .u64 (m.temps.getD i.dest.toNat 0)) := (by rw [(HPB.out.tm.drew.below hb1).cell]; simp [List.getD, show i.dest.toNat < m.temps.length by omega])))
        go_wp2
        go_meet
        case rel =>
          rw [show ts' = m.temps.set i.dest.toNat (gvI i a b xi) by rw [HTS.out, e1]; rfl]
          exact ((HPB.out.below ((Below.refl _ _).drew)).below hb1).setTemp _ _
      · rw [e1]
        go_wp2
        go_meet
        case rel => rw [show ts' = m.temps by rw [HTS.out, e1]; rfl]; exact HPB.out
    have HPC : Hid (PS w b0 o0 c0 b1 o1 c1 B C ts' v' l' m.state m.steps wc) := hcut
    have P0 := hcut.p0
    have P1 := hcut.p1
    clear hcut r0 r1 r2 r3 r4 r5 hriB
    have hpc := HMO.out.pcok HST0.out
    have HIE2 : Hid (C.getD m.pc .zero = i) := HIE.out.symm
    obtain ⟨nx, hnx⟩ : ∃ x, x = nxI i m.pc a := ⟨_, rfl⟩
    obtain ⟨st', hst'⟩ : ∃ x, x = stI i C.length nx := ⟨_, rfl⟩
    have HNX : Hid (nxI i m.pc a = nx) := hnx.symm
    have HSX : Hid (stI i C.length nx = st') := hst'.symm
    clear hnx hst'
    go_wp2_with (go_at_call 49; refine (next3 b0 o0 c0 b1 o1 c1 B C m.pc a _ s4 ?_ hpc).mono ?_; (exact h.later HPC.out.bel); rintro e w3 ⟨rfl, hb3⟩; rw [HIE2.out, HNX.out, HSX.out]; have T2 : w3.cell? ⟨w.heap.size + 1 + 1, 2, none⟩ = some (.int .i64 m.steps) := (HPC.out.sh.below hb3).cell 2; have T0 : w3.cell? ⟨w.heap.size + 1 + 1, 0, none⟩ = some (.int .i64 m.state) := (HPC.out.sh.below hb3).cell 0; have Z0 := (HPC.out.sh.below hb3).frozen 0; have Z2 := (HPC.out.sh.below hb3).frozen 2; have HPD : Hid (PS w b0 o0 c0 b1 o1 c1 B C ts' v' l' m.state m.steps w3) := HPC.out.below hb3)
    go_roundg (gk - 1)
    case measure => omega
    case rel =>
      have hnn : 0 ≤ nx := by
        rw [← HNX.out]
        unfold nxI
        split
        · rename_i hc
          exact (HII.out.c (by rcases hc with hc | hc; exact Or.inl hc; exact Or.inr hc.1)).1
        · omega
      have hstep : m.step C I = ⟨nx.toNat, ts', tk', l', st', m.steps + 1⟩ := by
        have e1 : gvI i a b xi = gvI i a b (inOf I m.taken) := by
          rw [HXI.out, HINB.out]
          unfold gvI inOf
          by_cases e3 : i.op = 3
          · by_cases e4 : m.taken < I.length
            · simp [e3, e4]
            · simp [e3, e4, List.getD]
          · simp [e3]
        have e2 : tk' = if i.op = 3 ∧ m.taken < I.length then m.taken + 1 else m.taken := by
          rw [HTK.out, HINB.out]; simp
        have e3 : l' = if i.op = 4 then m.out ++ [a % 4294967296] else m.out := by
          rw [HL'.out]; simp
        unfold Mac.step
        simp only
        rw [HIE2.out, ← HAE.out, ← HBE.out, HNX.out, HSX.out, ← e1, ← HTS.out, ← e2, ← e3]
      have hmok := mok_step HMO.out HST0.out (by rw [HIE2.out]; exact HII.out) HIb.out
      rw [hstep] at hmok
      refine ⟨⟨nx.toNat, ts', tk', l', st', m.steps + 1⟩, v', by go_num, rfl, ?_, hmok, by simp only; omega, by simp only; omega, ?_⟩
      · exact (HPD.out.setState st').setSteps (m.steps + 1)
      · rw [← HF.out, ← hstep]
        have e : n - m.steps = (n - (m.steps + 1)) + 1 := by omega
        rw [e]
        show _ = if m.state = 0 then _ else _
        rw [if_pos HST0.out]
        rfl

end Go.Proofs.Ytcmnmogmdhofcaa.form

/- What the program's own run.Run must answer. -/
namespace Go.Proofs.Ytcmnmogmdhofcaa.form
open Go.RowKit
set_option linter.unusedVariables false

/-- What is shown. -/
def resM (B : List Bool) (C : List LIns) (I : List Int) (steps : Int) : Mac := if wrongI B C I.length steps = 0 then playM B C I steps.toNat else ⟨0, [], 0, [], 0, 0⟩
/-- What run.Run must answer. -/
def RunSpec : Prop := ∀ (v : Value) (B : List Bool) (C : List LIns) (iv : Value) (I : List Int) (steps : Int) (w : World), ProgIs w v B C → InArg w iv I →
  Calls Try.prog 20 #[v, iv, .int .i64 steps] w fun e w' =>
      (∃ sv, e = .returned (.tuple #[sv, .int .i64 (wrongI B C I.length steps)]) ∧ ShownIs w' sv (resM B C I steps).state (resM B C I steps).out (resM B C I steps).steps) ∧ Below w.heap.size w w'

end Go.Proofs.Ytcmnmogmdhofcaa.form

/- The program's own run.Run: what is wrong, or what the machine on plain numbers shows. -/
namespace Go.Proofs.Ytcmnmogmdhofcaa.form
open Go.RowKit Go.Proofs.Ytcmnmogmdhofcaa.num
set_option linter.unusedVariables false
attribute [local go_sem ↓] Go.wp_at_zero Go.wp_at_succ

theorem infoFunc : (Try.prog.info? 1).map (fun i => (i.zero, i.size, i.bytes)) = some (some .nilFunc, 1, 8) := by kernel_rfl

theorem made_func (n : Nat) : madeCells #[Value.nilFunc] n = (List.replicate n Value.nilFunc).toArray := by
  apply Array.toList_inj.1
  rw [toList_madeCells_one]

/-- The closures that are made up to some instruction. -/
structure DeedsS (K : StoK) (w : World) (mb sb : Nat) (C : List LIns) (E : Nat → Eff K.S) (k : Nat) (cs : List Value) (wr : World) : Prop where
  bel : Below w.heap.size w wr
  row : Row wr w.heap.size 1 cs
  len : cs.length = C.length
  spec : ∀ j, j < k → ∃ F caps, cs.getD j .nilFunc = .func (.func F) #[] caps ∧ DeedSpec K mb sb w.heap.size (C.getD j .zero) (E j) wr F caps

theorem deeds_start (K : StoK) (w : World) (mb sb : Nat) (C : List LIns) (E : Nat → Eff K.S) : DeedsS K w mb sb C E 0 (List.replicate C.length .nilFunc) (w.alloc (.cells (madeCells #[Value.nilFunc] C.length) 1)) :=
  ⟨(Below.refl _ _).alloc (Nat.le_refl _) _, by rw [made_func]; exact Row.new w _ _, by simp, fun j hj => absurd hj (by omega)⟩

theorem deeds_step {K : StoK} {w : World} {mb sb : Nat} {C : List LIns} {E : Nat → Eff K.S} {k : Nat} {cs : List Value} {wr w1 : World} (h : DeedsS K w mb sb C E k cs wr) (hlt : k < C.length) (hb : Below wr.heap.size wr w1) {F : Nat} {caps : Array Value} (hs : DeedSpec K mb sb w.heap.size (C.getD k .zero) (E k) w1 F caps) :
    DeedsS K w mb sb C E (k + 1) (cs.set k (.func (.func F) #[] caps)) (w1.setCell ⟨w.heap.size, k, none⟩ (.func (.func F) #[] caps)) := by
  have hln := h.len
  refine ⟨(step_below hb h.bel).setCell (by simp) _, (h.row.below hb).set k _, by simp [hln], fun j hj => ?_⟩
  have hz1 : (w1.setCell ⟨w.heap.size, k, none⟩ (.func (.func F) #[] caps)).heap.size = w1.heap.size := by simp [World.setCell]
  by_cases hjk : j = k
  · subst hjk
    refine ⟨F, caps, by simp [List.getD, hln, hlt], hs.later (Kept.set _ _ _) (by omega)⟩
  · obtain ⟨F', caps', e, hs'⟩ := h.spec j (by omega)
    refine ⟨F', caps', ?_, (hs'.later (Kept.of_below hb) hb.size).later (Kept.set _ _ _) (by omega)⟩
    rw [← e]
    simp [List.getD, Ne.symm hjk]

theorem start_ms {K : StoK} {w w' : World} {mb sb base : Nat} {iv : Value} {I : List Int} {s : K.S} (hr : Row w mb 84 (macV 0 0 0 (.slice none 0 0) iv)) (hn : InNew w mb iv I) (hb : Below w.heap.size w w') (hs : Row w' sb K.T (K.enc s)) (hk : K.ok s) (h40 : I.length ≤ 40) (hI : ∀ j, j < I.length → 0 ≤ I.getD j 0 ∧ I.getD j 0 < 4294967296)
    (hsb : mb < sb) (hz : sb < base) (hsz : base ≤ w'.heap.size) : MS K mb sb base s (.slice none 0 0) [] 0 0 iv I 0 w' :=
  ⟨hr.below hb, hs, hk, by omega, by omega, hz, hsz, World.ownsRow_nil _ _ _ _, hn.ins hb h40 hI hsb (by omega)⟩

theorem temps_start (n : Nat) (h : n ≤ 12) : (tempK n).ok (List.replicate n (0 : Int)) := by
  refine ⟨by simp, fun j => ?_⟩
  have : (List.replicate n (0 : Int)).getD j 0 = 0 := by by_cases hj : j < n <;> simp [List.getD, hj]
  rw [this]
  exact ⟨by omega, by omega⟩
theorem arr_start (n : Nat) (h : n ≤ 12) : arr (List.replicate n 0) = List.replicate 12 0 := by
  unfold arr
  rw [List.length_replicate, List.replicate_append_replicate, show n + (12 - n) = 12 by omega]

set_option maxRecDepth 100000 in
set_option maxHeartbeats 1000000 in
theorem runRun_no (v : Value) (B : List Bool) (C : List LIns) (iv : Value) (I : List Int) (steps : Int) (w : World) (h : ProgIs w v B C) (hI : InArg w iv I) (hx0 : ¬ wrongI B C I.length steps = 0) :
    Calls Try.prog 20 #[v, iv, .int .i64 steps] w fun e w' =>
      (∃ sv, e = .returned (.tuple #[sv, .int .i64 (wrongI B C I.length steps)]) ∧ ShownIs w' sv (resM B C I steps).state (resM B C I steps).out (resM B C I steps).steps) ∧ Below w.heap.size w w' := by
  have h0 := h
  obtain ⟨⟨a0, c0, a1, c1, rfl, -⟩, -, -, -⟩ := h0
  have HP : Hid (ProgIs w (.agg #[.slice a0 B.length c0, .slice a1 C.length c1]) B C) := h
  obtain ⟨ai, ci, rfl, -, -, -, -⟩ := hI
  have hres : resM B C I steps = ⟨0, [], 0, [], 0, 0⟩ := by unfold resM; rw [if_neg hx0]
  rw [hres]
  have hs := may_same B C
  have HS : Hid (mayB B C = refMayB B C) := hs
  have HW : Hid (Below w.heap.size w ((w.alloc (.cells #[.slice a0 B.length c0, .slice a1 C.length c1] 31)).alloc (.cells #[.int .i64 0, .slice none 0 0, .int .i64 0] 35))) := ((Below.refl _ _).alloc (Nat.le_refl _) _).alloc (by simp) _
  have hwr := wrongN_of (B := B) (C := C) (nI := I.length) (steps := steps)
  have HSH : Hid (∀ w' : World, ShownIs w' (.agg #[.int .i64 0, .slice none 0 0, .int .i64 0]) 0 [] 0) := fun w' => ⟨_, rfl, none, 0, rfl, by simp, fun hh => absurd hh (by simp)⟩
  clear hres hs h
  cases hm : refMayB B C with
  | false =>
    rw [hm, if_neg (by simp)] at hwr
    rw [hwr]
    have HM : Hid (refMayB B C = false) := hm
    clear hwr hm hx0
    go_enter Try.func20, Try.ntmps20
    go_wp2_with fail
    go_at_call 18
    refine (may _ B C _ (HP.out.later HW.out)).mono ?_
    rw [HS.out, HM.out]
    rintro e w1 ⟨rfl, hb1⟩
    have hr1 := (Row.new (w.alloc (.cells #[.slice a0 B.length c0, .slice a1 C.length c1] 31)) 35 [.int .i64 0, .slice none 0 0, .int .i64 0]).below hb1
    simp at hr1
    have f0 := hr1.frozen 0
    have f1 := hr1.frozen 1
    have f2 := hr1.frozen 2
    have r0 := hr1.cell 0
    have r1 := hr1.cell 1
    have r2 := hr1.cell 2
    simp at r0 r1 r2
    have HR1 : Hid (Row w1 (w.heap.size + 1) 35 [.int .i64 0, .slice none 0 0, .int .i64 0]) := hr1
    have HB1 : Hid (Below w.heap.size w w1) := step_below hb1 HW.out
    clear hr1 hb1
    go_wp2
    have r3 := ((HR1.out.set 0 (.int .i64 0)).set 1 (.slice none 0 0)).set 2 (.int .i64 0)
    have g0 := r3.cell 0
    have g1 := r3.cell 1
    have g2 := r3.cell 2
    simp at g0 g1 g2
    refine bodyPost_ret (v := .tuple #[.agg #[.int .i64 0, .slice none 0 0, .int .i64 0], .int .i64 2]) ?_ rfl ⟨⟨_, rfl, HSH.out _⟩, ?_⟩
    · simp [results, Try.results20, go_sem, g0, g1, g2]
    · exact ((HB1.out.setCell (by dsimp only; omega) _).setCell (by dsimp only; omega) _).setCell (by dsimp only; omega) _
  | true =>
    rw [hm, if_pos rfl] at hwr
    rw [hwr] at hx0 ⊢
    have HM : Hid (refMayB B C = true) := hm
    clear hwr hm
    obtain ⟨x, hx⟩ : ∃ x, x = wrongN I.length steps := ⟨_, rfl⟩
    rw [← hx] at hx0 ⊢
    have HX : Hid (wrongN I.length steps = x) := hx.symm
    have e1 : (x != 0) = true := by simp [hx0]
    clear hx hx0
    go_enter Try.func20, Try.ntmps20
    go_wp2_with fail
    go_at_call 18
    refine (may _ B C _ (HP.out.later HW.out)).mono ?_
    rw [HS.out, HM.out]
    rintro e w1 ⟨rfl, hb1⟩
    have hr1 := (Row.new (w.alloc (.cells #[.slice a0 B.length c0, .slice a1 C.length c1] 31)) 35 [.int .i64 0, .slice none 0 0, .int .i64 0]).below hb1
    simp at hr1
    have f0 := hr1.frozen 0
    have f1 := hr1.frozen 1
    have f2 := hr1.frozen 2
    have r0 := hr1.cell 0
    have r1 := hr1.cell 1
    have r2 := hr1.cell 2
    simp at r0 r1 r2
    have HR1 : Hid (Row w1 (w.heap.size + 1) 35 [.int .i64 0, .slice none 0 0, .int .i64 0]) := hr1
    have HB1 : Hid (Below w.heap.size w w1) := step_below hb1 HW.out
    clear hr1 hb1
    go_wp2_with (go_at_call 42; refine (wrongO _ _ _ _ _).mono ?_; rw [HX.out]; rintro e w2 ⟨rfl, hw2⟩; obtain rfl := hw2.symm)
    have r3 := ((HR1.out.set 0 (.int .i64 0)).set 1 (.slice none 0 0)).set 2 (.int .i64 0)
    have g0 := r3.cell 0
    have g1 := r3.cell 1
    have g2 := r3.cell 2
    simp at g0 g1 g2
    refine bodyPost_ret (v := .tuple #[.agg #[.int .i64 0, .slice none 0 0, .int .i64 0], .int .i64 x]) ?_ rfl ⟨⟨_, rfl, HSH.out _⟩, ?_⟩
    · simp [results, Try.results20, go_sem, g0, g1, g2]
    · exact ((HB1.out.setCell (by dsimp only; omega) _).setCell (by dsimp only; omega) _).setCell (by dsimp only; omega) _

end Go.Proofs.Ytcmnmogmdhofcaa.form
