/- What is known behind an instruction, fact by fact (loanbookref8.World.Ins). -/
import Derived.Test.YtcmnmogmdhofcaaGreatF09

namespace Go.Proofs.YtcmnmogmdhofcaaGreat.form
open Go.RowKit Go.Proofs.YtcmnmogmdhofcaaGreat.num
set_option linter.unusedVariables false
attribute [local go_sem ↓] Go.wp_at_zero Go.wp_at_succ

def insQ1 (u mine over eq kz : Bool) : Bool := if (eq && mine && !kz) = true then true else u && !mine && !over
def InsQ2 (K : LFact → Prop) (i : LIns) (f : LFact) (u mine over eq kz : Bool) (b : Bool) : Prop :=
  if i.op = 1 ∧ (mine && !kz && !over) = true then (b = true ↔ K ⟨f.pl, false, 0, i.n⟩)
  else if i.op = 1 ∧ (mine && kz || eq && !f.temp) = true then b = (f.n == i.n) else b = insQ1 u mine over eq kz
def InsQ3 (K : LFact → Prop) (i : LIns) (f : LFact) (u mine over eq kz : Bool) (b : Bool) : Prop :=
  if i.op = 2 ∧ (eq && f.temp && (f.t == i.a)) = true then b = true
  else if i.op = 2 ∧ (eq && !f.temp) = true then (b = true ↔ K ⟨.zero, true, i.a, f.n⟩)
  else if i.op = 2 ∧ (mine && !over) = true then (b = true ↔ K ⟨f.pl, f.temp, i.a, f.n⟩)
  else InsQ2 K i f u mine over eq kz b

theorem over_self (p : LPlace) : overB p p = true := by unfold overB; simp

theorem ins_final {F : List LFact} {K : LFact → Prop} {i : LIns} {L : LPlace} {f : LFact} {u b : Bool} (hF : f ∈ F) (hL : ¬ L.kind = 0) (hu : u = true ↔ K f)
    (h : InsQ3 K i f u (f.temp && (f.t == i.dest)) (!(f.pl.kind == 0) && overB f.pl L) (samePl f.pl L) (f.pl.kind == 0) b) : b = true ↔ insK (· ∈ F) i L K f := by
  have hes : samePl f.pl L = true → overB f.pl L = true ∧ ¬ f.pl.kind = 0 := fun e => by
    have := samePl_eq e
    rw [this]
    exact ⟨over_self L, hL⟩
  unfold insK
  simp only [hF, true_and]
  unfold InsQ3 at h
  by_cases c1 : i.op = 2 ∧ samePl f.pl L = true ∧ f.temp = true ∧ f.t = i.a
  · rw [if_pos c1]
    rw [if_pos (by refine ⟨c1.1, ?_⟩; simp [c1.2.1, c1.2.2.1, c1.2.2.2])] at h
    simp [h]
  rw [if_neg c1]
  rw [if_neg (by rintro ⟨h1, h2⟩; simp at h2; exact c1 ⟨h1, h2.1.1, h2.1.2, h2.2⟩)] at h
  by_cases c2 : i.op = 2 ∧ samePl f.pl L = true ∧ f.temp = false
  · rw [if_pos c2]
    rw [if_pos (by refine ⟨c2.1, ?_⟩; simp [c2.2.1, c2.2.2])] at h
    exact h
  rw [if_neg c2]
  rw [if_neg (by rintro ⟨h1, h2⟩; simp at h2; exact c2 ⟨h1, h2.1, h2.2⟩)] at h
  by_cases c3 : i.op = 2 ∧ (f.temp = true ∧ f.t = i.dest) ∧ (f.pl.kind = 0 ∨ overB f.pl L = false)
  · rw [if_pos c3]
    rw [if_pos (by
      refine ⟨c3.1, ?_⟩
      rcases c3.2.2 with e | e
      · simp [c3.2.1.1, c3.2.1.2, e]
      · simp [c3.2.1.1, c3.2.1.2, e])] at h
    exact h
  rw [if_neg c3]
  rw [if_neg (by
    rintro ⟨h1, h2⟩
    simp at h2
    exact c3 ⟨h1, h2.1, h2.2⟩)] at h
  unfold InsQ2 at h
  by_cases c4 : i.op = 1 ∧ (f.temp = true ∧ f.t = i.dest) ∧ ¬ f.pl.kind = 0 ∧ overB f.pl L = false
  · rw [if_pos c4]
    rw [if_pos (by refine ⟨c4.1, ?_⟩; simp [c4.2.1.1, c4.2.1.2, c4.2.2.1, c4.2.2.2])] at h
    exact h
  rw [if_neg c4]
  rw [if_neg (by
    rintro ⟨h1, h2⟩
    simp at h2
    exact c4 ⟨h1, h2.1.1, h2.1.2, h2.2.resolve_left h2.1.2⟩)] at h
  by_cases c5 : i.op = 1 ∧ (((f.temp = true ∧ f.t = i.dest) ∧ f.pl.kind = 0) ∨ (samePl f.pl L = true ∧ f.temp = false))
  · rw [if_pos c5]
    rw [if_pos (by
      refine ⟨c5.1, ?_⟩
      rcases c5.2 with e | e
      · simp [e.1.1, e.1.2, e.2]
      · simp [e.1, e.2])] at h
    rw [h, beq_iff_eq]
  rw [if_neg c5]
  rw [if_neg (by
    rintro ⟨h1, h2⟩
    simp at h2
    refine c5 ⟨h1, ?_⟩
    rcases h2 with e | e
    · exact Or.inl e
    · exact Or.inr e)] at h
  unfold insQ1 at h
  by_cases c6 : samePl f.pl L = true ∧ (f.temp = true ∧ f.t = i.dest) ∧ ¬ f.pl.kind = 0
  · rw [if_pos c6]
    rw [if_pos (by simp [c6.1, c6.2.1.1, c6.2.1.2, c6.2.2])] at h
    simp [h]
  rw [if_neg c6]
  rw [if_neg (by
    intro h2
    simp at h2
    exact c6 ⟨h2.1.1, h2.1.2, h2.2⟩)] at h
  rw [h]
  simp only [Bool.and_eq_true, Bool.not_eq_true', Bool.and_eq_false_iff, hu, beq_eq_false_iff_ne, ne_eq, Bool.not_eq_false', beq_iff_eq]
  constructor
  · rintro ⟨⟨h1, h2⟩, h3⟩
    refine ⟨h1, ?_, h3⟩
    rintro ⟨h4, h5⟩
    rcases h2 with h2 | h2
    · rw [h4] at h2; exact absurd h2 (by simp)
    · exact h2 h5
  · rintro ⟨h1, h2, h3⟩
    refine ⟨⟨h1, ?_⟩, h3⟩
    by_cases e : f.temp = true
    · exact Or.inr (fun h => h2 ⟨e, h⟩)
    · exact Or.inl (by simpa using e)

def insBox (H : Nat) (ao0 : Option Addr) (n0 c0 : Nat) (ao1 : Option Addr) (n1 c1 : Nat) (ga nF ca gs cs : Nat) (ao4 : Option Addr) (n4 c4 : Nat) (i : LIns) (L : LPlace) : List (Nat × TypeId × List Value) :=
  [(H, 66, [.slice ao0 n0 c0, .slice ao1 n1 c1, .slice (some ⟨ga, 0, none⟩) nF ca, .slice (some ⟨gs, 0, none⟩) 4 cs, .slice ao4 n4 c4]), (H + 1, 49, [.int .i64 i.op, .int .i64 i.dest, .int .i64 i.a, .int .i64 i.b, .int .i64 i.c, .int .u32 i.n]), (H + 1 + 1, 51, [.int .i64 L.kind, .int .i64 L.n])]

def factVs (f : LFact) : List Value := [.int .i64 f.pl.kind, .int .i64 f.pl.n, .bool f.temp, .int .i64 f.t, .int .u32 f.n]

structure InS (w : World) (boxes : List (Nat × TypeId × List Value)) (bo : Nat) (O : List Bool) (i : Nat) (b : Bool) (fb : Nat) (f : LFact) (wq : World) : Prop where
  out : OutS w boxes bo (O.set i b) wq
  fact : Row wq fb 62 (factVs f)
theorem InS.below {w wq w1 : World} {boxes : List (Nat × TypeId × List Value)} {bo : Nat} {O : List Bool} {i : Nat} {b : Bool} {fb : Nat} {f : LFact} (h : InS w boxes bo O i b fb f wq) (hb : Below wq.heap.size wq w1) : InS w boxes bo O i b fb f w1 := ⟨h.out.below hb, h.fact.below hb⟩
theorem InS.set {w wq : World} {boxes : List (Nat × TypeId × List Value)} {bo : Nat} {O : List Bool} {i : Nat} {b : Bool} {fb : Nat} {f : LFact} (h : InS w boxes bo O i b fb f wq) (hne : ∀ x, x ∈ boxes → x.1 ≠ bo) (hbo : w.heap.size ≤ bo) (hf : fb ≠ bo) (b' : Bool) : InS w boxes bo O i b' fb f (wq.setCell ⟨bo, i, none⟩ (.bool b')) := by
  have := h.out.set hne hbo i b'
  rw [List.set_set] at this
  exact ⟨this, h.fact.other hf _⟩

theorem ins_cells {w wq : World} {ao0 : Option Addr} {n0 c0 : Nat} {ao1 : Option Addr} {n1 c1 ga nF ca gs cs : Nat} {ao4 : Option Addr} {n4 c4 : Nat} {i : LIns} {L : LPlace} {bo : Nat} {O : List Bool} {k : Nat} {b : Bool} {fb : Nat} {f : LFact}
    (h : InS w (insBox w.heap.size ao0 n0 c0 ao1 n1 c1 ga nF ca gs cs ao4 n4 c4 i L) bo O k b fb f wq) (hk : k < O.length) :
    (wq.cell? ⟨w.heap.size, 0, none⟩ = some (.slice ao0 n0 c0) ∧ wq.cell? ⟨w.heap.size, 1, none⟩ = some (.slice ao1 n1 c1) ∧ wq.cell? ⟨w.heap.size, 2, none⟩ = some (.slice (some ⟨ga, 0, none⟩) nF ca) ∧ wq.cell? ⟨w.heap.size, 3, none⟩ = some (.slice (some ⟨gs, 0, none⟩) 4 cs) ∧ wq.cell? ⟨w.heap.size, 4, none⟩ = some (.slice ao4 n4 c4)) ∧
    (wq.cell? ⟨w.heap.size + 1, 0, none⟩ = some (.int .i64 i.op) ∧ wq.cell? ⟨w.heap.size + 1, 1, none⟩ = some (.int .i64 i.dest) ∧ wq.cell? ⟨w.heap.size + 1, 2, none⟩ = some (.int .i64 i.a) ∧ wq.cell? ⟨w.heap.size + 1, 5, none⟩ = some (.int .u32 i.n)) ∧
    (wq.cell? ⟨w.heap.size + 1 + 1, 0, none⟩ = some (.int .i64 L.kind) ∧ wq.cell? ⟨w.heap.size + 1 + 1, 1, none⟩ = some (.int .i64 L.n)) ∧
    (wq.cell? ⟨fb, 0, none⟩ = some (.int .i64 f.pl.kind) ∧ wq.cell? ⟨fb, 1, none⟩ = some (.int .i64 f.pl.n) ∧ wq.cell? ⟨fb, 2, none⟩ = some (.bool f.temp) ∧ wq.cell? ⟨fb, 3, none⟩ = some (.int .i64 f.t) ∧ wq.cell? ⟨fb, 4, none⟩ = some (.int .u32 f.n)) ∧
    wq.cell? ⟨bo, k, none⟩ = some (.bool b) ∧ wq.frozen? ⟨bo, k, none⟩ = false := by
  have rW : Row wq w.heap.size 66 [.slice ao0 n0 c0, .slice ao1 n1 c1, .slice (some ⟨ga, 0, none⟩) nF ca, .slice (some ⟨gs, 0, none⟩) 4 cs, .slice ao4 n4 c4] := h.out.bx (w.heap.size, 66, _) (by simp [insBox])
  have rI : Row wq (w.heap.size + 1) 49 [.int .i64 i.op, .int .i64 i.dest, .int .i64 i.a, .int .i64 i.b, .int .i64 i.c, .int .u32 i.n] := h.out.bx (w.heap.size + 1, 49, _) (by simp [insBox])
  have rP : Row wq (w.heap.size + 1 + 1) 51 [.int .i64 L.kind, .int .i64 L.n] := h.out.bx (w.heap.size + 1 + 1, 51, _) (by simp [insBox])
  refine ⟨⟨rW.cell 0, rW.cell 1, rW.cell 2, rW.cell 3, rW.cell 4⟩, ⟨rI.cell 0, rI.cell 1, rI.cell 2, rI.cell 5⟩, ⟨rP.cell 0, rP.cell 1⟩, ⟨h.fact.cell 0, h.fact.cell 1, h.fact.cell 2, h.fact.cell 3, h.fact.cell 4⟩, ?_, h.out.ro.frozen k⟩
  rw [h.out.ro.cell]
  simp [hk]

set_option maxRecDepth 100000 in
set_option maxHeartbeats 8000000 in
theorem ins8 (ao0 : Option Addr) (n0 c0 : Nat) (ao1 : Option Addr) (n1 c1 : Nat) (ga ca gs cs : Nat) (ao4 : Option Addr) (n4 c4 : Nat) (s slots : Int) (F : List LFact) (st : LPlace → Nat) (sv : Value) (S : List Bool) (i : LIns) (L : LPlace) (w : World)
    (h : FWorld w s slots F ga gs st) (hS : BRowIs w sv S) (hl : S.length = F.length) (hg : givesB i.op = true) (hL : isB s slots L = true) :
    Calls Tryz.prog 57 #[fwV (.slice ao0 n0 c0) (.slice ao1 n1 c1) ga F.length ca gs cs (.slice ao4 n4 c4), sv, i.val, L.val] w fun e w' => SetAns F (insK (· ∈ F) i L (setP F S)) w.heap.size e w' ∧ Below w.heap.size w w' := by
  have HFW : Hid (FWorld w s slots F ga gs st) := h
  have HFD : Hid (∀ (wx : World) (f : LFact), Below w.heap.size w wx → PlaceOf s slots f.pl → Calls Tryz.prog 56 #[.agg #[.slice ao0 n0 c0, .slice ao1 n1 c1, .slice (some ⟨ga, 0, none⟩) F.length ca, .slice (some ⟨gs, 0, none⟩) 4 cs, .slice ao4 n4 c4], sv, .agg #[.int .i64 f.pl.kind, .int .i64 f.pl.n, .bool f.temp, .int .i64 f.t, .int .u32 f.n]] wx fun e w' => FindAns F S f e ∧ Below wx.heap.size wx w') :=
    fun wx f hb hf => find8 ao0 n0 c0 ao1 n1 c1 ga ca gs cs ao4 n4 c4 s slots F st sv S f wx (h.later hb) (hS.later hb) hl hf
  have HOV : Hid (∀ (wx : World) (f : LFact), f ∈ F → Calls Tryz.prog 74 #[.agg #[.int .i64 f.pl.kind, .int .i64 f.pl.n], .agg #[.int .i64 L.kind, .int .i64 L.n]] wx fun e w' => e = .returned (.bool (overB f.pl L)) ∧ Below wx.heap.size wx w') := fun wx f hf => overlap6 f.pl L (place_i64 h.bd.1 h.bd.2 (h.pls f hf)) (place_i64 h.bd.1 h.bd.2 (Or.inr hL)) wx
  have HPL : Hid (∀ f, f ∈ F → PlaceOf s slots f.pl) := h.pls
  have HLK : Hid (¬ L.kind = 0) := is_kind hL
  have hga := h.facts.lt
  have hFl := h.facts.len
  have x4 : (F.length : Int) ≤ 100000 := by omega
  have HSO : Hid (F.Pairwise factLt) := h.sorted
  obtain ⟨sao, scap, rfl, hsl, hsc⟩ := hS
  have HSC : Hid (0 < S.length → ∃ b o, sao = some ⟨b, o, none⟩ ∧ b < w.heap.size ∧ ∀ j, j < S.length → w.cell? ⟨b, o + j, none⟩ = some (.bool (S.getD j false))) := hsc
  have hmk := fun wx => run_make_row' (P := Tryz.prog) 22 4 (.bool false) 1 Tryz.underlying22 infBool rfl .i64 .i64 F.length (by omega) (by omega) wx
  have q57 := eqPlace
  have g57 : Tryz.prog.eqGuardType Tryz.prog.depth 51 = false := by kernel_rfl
  have HG : Hid (givesB i.op = true) := hg
  clear h hsc hL hg
  rw [hl] at HFD ⊢
  unfold fwV LIns.val LPlace.val
  go_enter Tryz.func57, Tryz.ntmps57
  go_wp2_with (go_at_call 14; refine (gives _ _).mono ?_; rw [HG.out]; rintro e w' ⟨rfl, hw'⟩; obtain rfl := hw'.symm)
  go_loopw [10] (fun iv wr => ∃ (k : Nat) (O : List Bool), iv = .int .i64 k ∧ k ≤ F.length ∧ MarksOf F (insK (· ∈ F) i L (setP F S)) k O ∧ OutS w (insBox w.heap.size ao0 n0 c0 ao1 n1 c1 ga F.length ca gs cs ao4 n4 c4 i L) (w.heap.size + 1 + 1 + 1) O wr) (fun iv _ => F.length - (intOf iv).toNat)
  case atStart =>
    refine ⟨0, List.replicate F.length false, rfl, by omega, ⟨by simp, fun j hj => absurd hj (by omega)⟩, ?_⟩
    rw [made_bool]
    refine ⟨((((Below.refl _ _).alloc (Nat.le_refl _) _).alloc (by simp) _).alloc (by simp; omega) _).alloc (by simp; omega) _, ?_, ?_⟩
    · intro x hx
      unfold insBox at hx
      simp only [List.mem_cons, List.not_mem_nil, or_false] at hx
      rcases hx with rfl | rfl | rfl
      · exact (((Row.new w _ _).alloc _).alloc _).alloc _
      · have := ((Row.new (w.alloc (.cells #[.slice ao0 n0 c0, .slice ao1 n1 c1, .slice (some ⟨ga, 0, none⟩) F.length ca, .slice (some ⟨gs, 0, none⟩) 4 cs, .slice ao4 n4 c4] 66)) 49 [.int .i64 i.op, .int .i64 i.dest, .int .i64 i.a, .int .i64 i.b, .int .i64 i.c, .int .u32 i.n]).alloc (.cells #[.int .i64 L.kind, .int .i64 L.n] 51)).alloc (.cells ((List.replicate F.length false).map Value.bool).toArray 4)
        simpa using this
      · have := (Row.new ((w.alloc (.cells #[.slice ao0 n0 c0, .slice ao1 n1 c1, .slice (some ⟨ga, 0, none⟩) F.length ca, .slice (some ⟨gs, 0, none⟩) 4 cs, .slice ao4 n4 c4] 66)).alloc (.cells #[.int .i64 i.op, .int .i64 i.dest, .int .i64 i.a, .int .i64 i.b, .int .i64 i.c, .int .u32 i.n] 49)) 51 [.int .i64 L.kind, .int .i64 L.n]).alloc (.cells ((List.replicate F.length false).map Value.bool).toArray 4)
        simpa using this
    · have := Row.new (((w.alloc (.cells #[.slice ao0 n0 c0, .slice ao1 n1 c1, .slice (some ⟨ga, 0, none⟩) F.length ca, .slice (some ⟨gs, 0, none⟩) 4 cs, .slice ao4 n4 c4] 66)).alloc (.cells #[.int .i64 i.op, .int .i64 i.dest, .int .i64 i.a, .int .i64 i.b, .int .i64 i.c, .int .u32 i.n] 49)).alloc (.cells #[.int .i64 L.kind, .int .i64 L.n] 51)) 4 ((List.replicate F.length false).map Value.bool)
      simpa using this
  case round =>
    obtain ⟨k, O, rfl, hk, hO, ho⟩ := hrel
    have HO : Hid (MarksOf F (insK (· ∈ F) i L (setP F S)) k O) := hO
    have HOS : Hid (OutS w (insBox w.heap.size ao0 n0 c0 ao1 n1 c1 ga F.length ca gs cs ao4 n4 c4 i L) (w.heap.size + 1 + 1 + 1) O wr) := ho
    have hOl : O.length = F.length := hO.1
    have hbel := ho.bel
    have HB : Hid (Below w.heap.size w wr) := hbel
    clear hO
    by_cases hlt : k < F.length
    case neg =>
      have y1 : ¬ (k : Int) < (F.length : Int) := by omega
      clear hbel ho
      go_wp2
      go_ret
      refine ⟨⟨w.heap.size + 1 + 1 + 1, O, rfl, by omega, ⟨HOS.out.ro.lt, fun j hj => ?_⟩, ?_⟩, HB.out⟩
      · rw [HOS.out.ro.cell]; simp [List.getD, hj, hOl]
      · obtain rfl : k = F.length := by omega
        exact HO.out
    have y1 : (k : Int) < (F.length : Int) := by omega
    have y0 : (0 : Int) ≤ (k : Int) := by omega
    obtain ⟨e0, e1, e2, e3, e4⟩ := (HFW.out.facts.later hbel).cells k hlt
    have hfm : F.getD k .zero ∈ F := by simp [List.getD, hlt]
    have hsat := setP_at (S := S) HSO.out hlt
    have hstep : ∀ b : Bool, (b = true ↔ insK (· ∈ F) i L (setP F S) (F.getD k .zero)) → MarksOf F (insK (· ∈ F) i L (setP F S)) (k + 1) (O.set k b) := fun b hb => HO.out.step hlt hb
    obtain ⟨f, hf⟩ : ∃ f, f = F.getD k .zero := ⟨_, rfl⟩
    rw [← hf] at e0 e1 e2 e3 e4 hfm hsat hstep
    have HSTEP : Hid (∀ b : Bool, (b = true ↔ insK (· ∈ F) i L (setP F S) f) → MarksOf F (insK (· ∈ F) i L (setP F S)) (k + 1) (O.set k b)) := hstep
    have HFM : Hid (f ∈ F) := hfm
    have hcells : ∀ wx, OutS w (insBox w.heap.size ao0 n0 c0 ao1 n1 c1 ga F.length ca gs cs ao4 n4 c4 i L) (w.heap.size + 1 + 1 + 1) O wx → True := fun _ _ => trivial
    have rW : Row wr w.heap.size 66 [.slice ao0 n0 c0, .slice ao1 n1 c1, .slice (some ⟨ga, 0, none⟩) F.length ca, .slice (some ⟨gs, 0, none⟩) 4 cs, .slice ao4 n4 c4] := ho.bx (w.heap.size, 66, _) (by simp [insBox])
    have rI : Row wr (w.heap.size + 1) 49 [.int .i64 i.op, .int .i64 i.dest, .int .i64 i.a, .int .i64 i.b, .int .i64 i.c, .int .u32 i.n] := ho.bx (w.heap.size + 1, 49, _) (by simp [insBox])
    have W2 : wr.cell? ⟨w.heap.size, 2, none⟩ = some (.slice (some ⟨ga, 0, none⟩) F.length ca) := rW.cell 2
    have I1 : wr.cell? ⟨w.heap.size + 1, 1, none⟩ = some (.int .i64 i.dest) := rI.cell 1
    have hz3 := ho.ro.lt
    have z0 : w.heap.size < wr.heap.size := by omega
    have z1 : w.heap.size + 1 < wr.heap.size := by omega
    obtain ⟨sb, so, rfl, hsb, hscell⟩ := HSC.out (by omega)
    have ci := step_cell hbel (hscell k (by omega))
    have hsb2 : sb < wr.heap.size := by omega
    obtain ⟨u, hu⟩ : ∃ u, u = S.getD k false := ⟨_, rfl⟩
    rw [← hu] at ci hsat
    have HSAT : Hid (u = true ↔ setP F S f) := hsat.symm
    have hne : ∀ x, x ∈ insBox w.heap.size ao0 n0 c0 ao1 n1 c1 ga F.length ca gs cs ao4 n4 c4 i L → x.1 ≠ w.heap.size + 1 + 1 + 1 := by
      intro x hx
      unfold insBox at hx
      simp only [List.mem_cons, List.not_mem_nil, or_false] at hx
      rcases hx with rfl | rfl | rfl
      · show w.heap.size ≠ w.heap.size + 1 + 1 + 1; omega
      · show w.heap.size + 1 ≠ w.heap.size + 1 + 1 + 1; omega
      · show w.heap.size + 1 + 1 ≠ w.heap.size + 1 + 1 + 1; omega
    have HNE : Hid (∀ x, x ∈ insBox w.heap.size ao0 n0 c0 ao1 n1 c1 ga F.length ca gs cs ao4 n4 c4 i L → x.1 ≠ w.heap.size + 1 + 1 + 1) := hne
    clear hf hfm hsat hstep hcells rW rI hscell hu hne hbel ho
    obtain ⟨mine, hmine⟩ : ∃ b, b = (f.temp && (f.t == i.dest)) := ⟨_, rfl⟩
    obtain ⟨over, hover⟩ : ∃ b, b = (!(f.pl.kind == 0) && overB f.pl L) := ⟨_, rfl⟩
    have HMI : Hid (mine = (f.temp && (f.t == i.dest))) := hmine
    have HOVR : Hid (over = (!(f.pl.kind == 0) && overB f.pl L)) := hover
    clear hmine hover
    obtain ⟨eq, heq⟩ : ∃ b, b = samePl f.pl L := ⟨_, rfl⟩
    obtain ⟨kz, hkz⟩ : ∃ b, b = (f.pl.kind == 0) := ⟨_, rfl⟩
    have HEQ : Hid (eq = (f.pl.kind == L.kind && f.pl.n == L.n)) := heq
    have HEQ2 : Hid (eq = samePl f.pl L) := heq
    have HKZ : Hid (kz = (f.pl.kind == 0)) := hkz
    clear heq hkz
    obtain ⟨oi, hoi⟩ : ∃ b, b = O.getD k false := ⟨_, rfl⟩
    obtain ⟨wa, hwa⟩ : ∃ q, q = wr.alloc (.cells #[.int .i64 f.pl.kind, .int .i64 f.pl.n, .bool f.temp, .int .i64 f.t, .int .u32 f.n] 62) := ⟨_, rfl⟩
    have HWA : Hid (wr.alloc (.cells #[.int .i64 f.pl.kind, .int .i64 f.pl.n, .bool f.temp, .int .i64 f.t, .int .u32 f.n] 62) = wa) := hwa.symm
    have HS0 : Hid (InS w (insBox w.heap.size ao0 n0 c0 ao1 n1 c1 ga F.length ca gs cs ao4 n4 c4 i L) (w.heap.size + 1 + 1 + 1) O k oi wr.heap.size f wa) := by
      have e : O.set k oi = O := by
        rw [hoi]
        apply List.ext_getElem (by simp)
        intro q h1 h2
        rw [List.getElem_set]
        split
        · rename_i h3; subst h3; simp [List.getD, show k < O.length by omega]
        · rfl
      refine ⟨?_, ?_⟩
      · rw [e, hwa]; exact HOS.out.below ((Below.refl _ _).alloc (Nat.le_refl _) _)
      · rw [hwa]; exact Row.new wr _ _
    have ciA : ∀ wq, Below wr.heap.size wr wq → wq.cell? ⟨sb, so + k, none⟩ = some (.bool u) := fun wq hb => step_cell hb ci
    have HCI : Hid (∀ wq, Below wr.heap.size wr wq → wq.cell? ⟨sb, so + k, none⟩ = some (.bool u)) := ciA
    have HBA : Hid (Below wr.heap.size wr wa) := by rw [hwa]; exact (Below.refl _ _).alloc (Nat.le_refl _) _
    clear hoi hwa ciA
    go_upto_region 8 with fail
    rw [HWA.out]
    clear e0 e1 e2 e3 e4
    go_cut [12] (fun s wq => s = .bool mine ∧ wq = wa)
    case first => as_aux_lemma =>
      obtain ⟨⟨W0, W1, W2, W3, W4⟩, ⟨J0, J1, J2, J5⟩, ⟨P0, P1⟩, ⟨F0, F1, F2, F3, F4⟩, co, fz⟩ := ins_cells HS0.out (by omega)
      rcases Bool.eq_false_or_eq_true f.temp with e5 | e5
      all_goals
        rw [e5] at F2
        go_wp2
        go_meet
        case rel => exact ⟨by rw [HMI.out, e5]; simp, rfl⟩
    obtain ⟨rfl, hwc⟩ := hcut
    obtain rfl := hwc.symm
    go_upto_region 9 with fail
    go_cut [13] (fun s wq => s = .bool over ∧ InS w (insBox w.heap.size ao0 n0 c0 ao1 n1 c1 ga F.length ca gs cs ao4 n4 c4 i L) (w.heap.size + 1 + 1 + 1) O k oi wr.heap.size f wq ∧ Below wa.heap.size wa wq)
    case first => as_aux_lemma =>
      obtain ⟨⟨W0, W1, W2, W3, W4⟩, ⟨J0, J1, J2, J5⟩, ⟨P0, P1⟩, ⟨F0, F1, F2, F3, F4⟩, co, fz⟩ := ins_cells HS0.out (by omega)
      rcases Bool.eq_false_or_eq_true (f.pl.kind == 0) with e5 | e5
      · have e6 : (f.pl.kind != 0) = false := by simp [bne, e5]
        go_wp2
        go_meet
        case rel => exact ⟨by rw [HOVR.out, e5]; simp, HS0.out, Below.refl _ _⟩
      · have e6 : (f.pl.kind != 0) = true := by simp [bne, e5]
        go_wp2_with (go_at_call 74; refine (HOV.out _ f HFM.out).mono ?_; rintro e w2 ⟨rfl, hb2⟩; have HB2 : Hid (Below wa.heap.size wa w2) := hb2; clear hb2)
        go_meet
        case rel => exact ⟨by rw [HOVR.out, e5]; simp, HS0.out.below HB2.out, HB2.out⟩
    obtain ⟨rfl, hs1, hb1⟩ := hcut
    obtain ⟨wb, hwb⟩ : ∃ q, q = wc := ⟨_, rfl⟩
    subst hwb
    have HS1 : Hid (InS w (insBox w.heap.size ao0 n0 c0 ao1 n1 c1 ga F.length ca gs cs ao4 n4 c4 i L) (w.heap.size + 1 + 1 + 1) O k oi wr.heap.size f wb) := hs1
    have HBB : Hid (Below wr.heap.size wr wb) := step_below hb1 HBA.out
    clear hs1 hb1
    go_upto_region 10 with fail
    go_cut [] (fun wq => InS w (insBox w.heap.size ao0 n0 c0 ao1 n1 c1 ga F.length ca gs cs ao4 n4 c4 i L) (w.heap.size + 1 + 1 + 1) O k (u && !mine && !over) wr.heap.size f wq ∧ Below wr.heap.size wr wb)
    case first => as_aux_lemma =>
      obtain ⟨⟨W0, W1, W2, W3, W4⟩, ⟨J0, J1, J2, J5⟩, ⟨P0, P1⟩, ⟨F0, F1, F2, F3, F4⟩, co, fz⟩ := ins_cells HS1.out (by omega)
      have cs' := HCI.out _ HBB.out
      cases u <;> cases mine <;> cases over
      all_goals
        go_wp2
        go_meet
        case rel => exact ⟨HS1.out.set HNE.out (by omega) (by omega) _, HBB.out⟩
    obtain ⟨hs2, -⟩ := hcut
    obtain ⟨wd, hwd⟩ : ∃ q, q = wc := ⟨_, rfl⟩
    subst hwd
    have HS2 : Hid (InS w (insBox w.heap.size ao0 n0 c0 ao1 n1 c1 ga F.length ca gs cs ao4 n4 c4 i L) (w.heap.size + 1 + 1 + 1) O k (u && !mine && !over) wr.heap.size f wd) := hs2
    clear hs2
    go_upto_region 11 with fail
    go_cut [80] (fun s wq => s = .bool (eq && mine && !kz) ∧ wq = wd)
    case first => as_aux_lemma =>
      obtain ⟨⟨W0, W1, W2, W3, W4⟩, ⟨J0, J1, J2, J5⟩, ⟨P0, P1⟩, ⟨F0, F1, F2, F3, F4⟩, co, fz⟩ := ins_cells HS2.out (by omega)
      rcases Bool.eq_false_or_eq_true (f.pl.kind == L.kind && f.pl.n == L.n) with e5 | e5
      · cases mine
        all_goals
          go_wp2
          go_meet
          case rel => exact ⟨by rw [HEQ.out, e5, HKZ.out]; rfl, rfl⟩
      · go_wp2
        go_meet
        case rel => exact ⟨by rw [HEQ.out, e5]; rfl, rfl⟩
    obtain ⟨rfl, hwc⟩ := hcut
    obtain rfl := hwc.symm
    obtain ⟨t1, ht1⟩ : ∃ b, b = (eq && mine && !kz) := ⟨_, rfl⟩
    rw [← ht1]
    have HT1 : Hid (t1 = (eq && mine && !kz)) := ht1
    clear ht1
    obtain ⟨m1, hm1⟩ : ∃ b, b = insQ1 u mine over eq kz := ⟨_, rfl⟩
    have HM1 : Hid (m1 = insQ1 u mine over eq kz) := hm1
    clear hm1
    go_upto_if 80 with fail
    go_cut [] (fun wq => InS w (insBox w.heap.size ao0 n0 c0 ao1 n1 c1 ga F.length ca gs cs ao4 n4 c4 i L) (w.heap.size + 1 + 1 + 1) O k m1 wr.heap.size f wq)
    case first => as_aux_lemma =>
      obtain ⟨⟨W0, W1, W2, W3, W4⟩, ⟨J0, J1, J2, J5⟩, ⟨P0, P1⟩, ⟨F0, F1, F2, F3, F4⟩, co, fz⟩ := ins_cells HS2.out (by omega)
      cases t1
      · go_wp2
        go_meet
        case rel => rw [show m1 = (u && !mine && !over) by rw [HM1.out]; unfold insQ1; rw [← HT1.out]; rfl]; exact HS2.out
      · go_wp2
        go_meet
        case rel => rw [show m1 = true by rw [HM1.out]; unfold insQ1; rw [← HT1.out]; rfl]; exact HS2.out.set HNE.out (by omega) (by omega) _
    obtain ⟨we, hwe⟩ : ∃ q, q = wc := ⟨_, rfl⟩
    subst hwe
    have HS3 : Hid (InS w (insBox w.heap.size ao0 n0 c0 ao1 n1 c1 ga F.length ca gs cs ao4 n4 c4 i L) (w.heap.size + 1 + 1 + 1) O k m1 wr.heap.size f we) := hcut
    clear hcut
    have JJ := (ins_cells HS3.out (by omega)).2.1.1
    go_upto_if 86 with fail
    go_cut [] (fun wq => ∃ b, InS w (insBox w.heap.size ao0 n0 c0 ao1 n1 c1 ga F.length ca gs cs ao4 n4 c4 i L) (w.heap.size + 1 + 1 + 1) O k b wr.heap.size f wq ∧ InsQ2 (setP F S) i f u mine over eq kz b)
    case first => as_aux_lemma =>
      clear JJ
      obtain ⟨⟨W0, W1, W2, W3, W4⟩, ⟨J0, J1, J2, J5⟩, ⟨P0, P1⟩, ⟨F0, F1, F2, F3, F4⟩, co, fz⟩ := ins_cells HS3.out (by omega)
      rcases Bool.eq_false_or_eq_true (i.op == 1) with eo | eo
      · have ho1 : i.op = 1 := by simpa using eo
        have HO1 : Hid (i.op = 1) := ho1
        clear ho1
        go_upto_region 14 with fail
        go_cut [104] (fun s wq => s = .bool (mine && kz || eq && !f.temp) ∧ wq = we)
        case first => as_aux_lemma =>
          rcases Bool.eq_false_or_eq_true (f.pl.kind == L.kind && f.pl.n == L.n) with e5 | e5
          all_goals
            rcases Bool.eq_false_or_eq_true (f.pl.kind == 0) with e7 | e7
            all_goals
              cases mine
              all_goals
                go_wp2
                go_meet
                case rel => exact ⟨by rw [HEQ.out, e5, HKZ.out, e7]; rfl, rfl⟩
        obtain ⟨rfl, hwc⟩ := hcut
        obtain rfl := hwc.symm
        obtain ⟨t2, ht2⟩ : ∃ b, b = (mine && kz || eq && !f.temp) := ⟨_, rfl⟩
        rw [← ht2]
        have HT2 : Hid (t2 = (mine && kz || eq && !f.temp)) := ht2
        clear ht2
        obtain ⟨m2, hm2⟩ : ∃ b, b = if t2 = true then (f.n == i.n) else m1 := ⟨_, rfl⟩
        have HM2 : Hid (m2 = if t2 = true then (f.n == i.n) else m1) := hm2
        clear hm2
        go_upto_if 104 with fail
        go_cut [] (fun wq => InS w (insBox w.heap.size ao0 n0 c0 ao1 n1 c1 ga F.length ca gs cs ao4 n4 c4 i L) (w.heap.size + 1 + 1 + 1) O k m2 wr.heap.size f wq)
        case first => as_aux_lemma =>
          cases t2
          · go_wp2
            go_meet
            case rel => rw [show m2 = m1 by rw [HM2.out]; rfl]; exact HS3.out
          · go_wp2
            go_meet
            case rel => rw [show m2 = (f.n == i.n) by rw [HM2.out]; rfl]; exact HS3.out.set HNE.out (by omega) (by omega) _
        obtain ⟨wf, hwf⟩ : ∃ q, q = wc := ⟨_, rfl⟩
        subst hwf
        have HS4 : Hid (InS w (insBox w.heap.size ao0 n0 c0 ao1 n1 c1 ga F.length ca gs cs ao4 n4 c4 i L) (w.heap.size + 1 + 1 + 1) O k m2 wr.heap.size f wf) := hcut
        clear hcut W0 W1 W2 W3 W4 J0 J1 J2 J5 P0 P1 F0 F1 F2 F3 F4 co fz
        obtain ⟨⟨W0, W1, W2, W3, W4⟩, ⟨J0, J1, J2, J5⟩, ⟨P0, P1⟩, ⟨F0, F1, F2, F3, F4⟩, co, fz⟩ := ins_cells HS4.out (by omega)
        go_upto_region 16 with fail
        go_cut [123] (fun s wq => s = .bool (mine && !kz && !over) ∧ wq = wf)
        case first => as_aux_lemma =>
          rcases Bool.eq_false_or_eq_true (f.pl.kind == 0) with e7 | e7
          · have e6 : (f.pl.kind != 0) = false := by simp [bne, e7]
            cases mine
            all_goals
              go_wp2
              go_meet
              case rel => exact ⟨by rw [HKZ.out, e7]; rfl, rfl⟩
          · have e6 : (f.pl.kind != 0) = true := by simp [bne, e7]
            cases mine
            all_goals
              go_wp2
              go_meet
              case rel => exact ⟨by rw [HKZ.out, e7]; rfl, rfl⟩
        obtain ⟨rfl, hwc⟩ := hcut
        obtain rfl := hwc.symm
        obtain ⟨t3, ht3⟩ : ∃ b, b = (mine && !kz && !over) := ⟨_, rfl⟩
        rw [← ht3]
        have HT3 : Hid (t3 = (mine && !kz && !over)) := ht3
        clear ht3
        cases t3
        · go_wp2
          go_meet
          case rel =>
            refine ⟨m2, HS4.out, ?_⟩
            unfold InsQ2
            rw [← HT3.out, ← HT2.out, if_neg (by simp), HM2.out, HM1.out]
            split
            · rename_i h9; rw [if_pos h9.2]
            · rename_i h9; rw [if_neg (fun e => h9 ⟨HO1.out, e⟩)]
        · go_wp2_with (go_at_call 56; refine (HFD.out _ ⟨f.pl, false, 0, i.n⟩ HS4.out.out.bel (HPL.out f HFM.out)).mono ?_; rintro e w3 ⟨⟨b, rfl, hsay⟩, hb3⟩; have HS5 : Hid (InS w (insBox w.heap.size ao0 n0 c0 ao1 n1 c1 ga F.length ca gs cs ao4 n4 c4 i L) (w.heap.size + 1 + 1 + 1) O k m2 wr.heap.size f w3) := HS4.out.below hb3; have HSAY : Hid (Says8 b (setP F S ⟨f.pl, false, 0, i.n⟩)) := hsay; clear hb3 hsay; have co3 := (ins_cells HS5.out (by omega)).2.2.2.2.1; have fz3 := (ins_cells HS5.out (by omega)).2.2.2.2.2)
          go_meet
          case rel =>
            refine ⟨b, HS5.out.set HNE.out (by omega) (by omega) _, ?_⟩
            unfold InsQ2
            rw [← HT3.out, if_pos ⟨HO1.out, rfl⟩]
            exact HSAY.out
      · go_wp2
        go_meet
        case rel =>
          have hno : ¬ i.op = 1 := by simpa using eo
          refine ⟨m1, HS3.out, ?_⟩
          unfold InsQ2
          rw [if_neg (fun h => hno h.1), if_neg (fun h => hno h.1)]
          exact HM1.out
    obtain ⟨m4, hs6, hq2⟩ := hcut
    obtain ⟨wg, hwg⟩ : ∃ q, q = wc := ⟨_, rfl⟩
    subst hwg
    have HS6 : Hid (InS w (insBox w.heap.size ao0 n0 c0 ao1 n1 c1 ga F.length ca gs cs ao4 n4 c4 i L) (w.heap.size + 1 + 1 + 1) O k m4 wr.heap.size f wg) := hs6
    have HQ2 : Hid (InsQ2 (setP F S) i f u mine over eq kz m4) := hq2
    clear hs6 hq2 JJ
    have HEND : Hid (∀ b : Bool, InsQ3 (setP F S) i f u mine over eq kz b → (b = true ↔ insK (· ∈ F) i L (setP F S) f)) := fun b hq => by
      have h9 := hq
      rw [HMI.out, HOVR.out, HEQ2.out, HKZ.out] at h9
      exact ins_final HFM.out HLK.out HSAT.out h9
    obtain ⟨⟨W0, W1, W2, W3, W4⟩, ⟨J0, J1, J2, J5⟩, ⟨P0, P1⟩, ⟨F0, F1, F2, F3, F4⟩, co, fz⟩ := ins_cells HS6.out (by omega)
    go_upto_if 137 with fail
    rcases Bool.eq_false_or_eq_true (i.op == 2) with eo | eo
    rotate_left
    · have hno : ¬ i.op = 2 := by simpa using eo
      have HNO : Hid (¬ i.op = 2) := hno
      clear hno
      go_wp2
      refine ⟨⟨k + 1, O.set k m4, by go_num, by omega, HSTEP.out m4 (HEND.out m4 ?_), HS6.out.out⟩, by simp [intOf]; omega⟩
      unfold InsQ3
      rw [if_neg (fun h => HNO.out h.1), if_neg (fun h => HNO.out h.1), if_neg (fun h => HNO.out h.1)]
      exact HQ2.out
    · have ho2 : i.op = 2 := by simpa using eo
      have HO2 : Hid (i.op = 2) := ho2
      clear ho2
      go_upto_region 19 with fail
      go_cut [142] (fun s wq => s = .bool (mine && !over) ∧ wq = wg)
      case first => as_aux_lemma =>
        cases mine
        all_goals
          go_wp2
          go_meet
          case rel => exact ⟨rfl, rfl⟩
      obtain ⟨rfl, hwc⟩ := hcut
      obtain rfl := hwc.symm
      obtain ⟨t4, ht4⟩ : ∃ b, b = (mine && !over) := ⟨_, rfl⟩
      rw [← ht4]
      have HT4 : Hid (t4 = (mine && !over)) := ht4
      clear ht4
      go_upto_if 142 with fail
      go_cut [] (fun wq => ∃ b, InS w (insBox w.heap.size ao0 n0 c0 ao1 n1 c1 ga F.length ca gs cs ao4 n4 c4 i L) (w.heap.size + 1 + 1 + 1) O k b wr.heap.size f wq ∧ (if t4 = true then Says8 b (setP F S ⟨f.pl, f.temp, i.a, f.n⟩) else b = m4))
      case first => as_aux_lemma =>
        cases t4
        · go_wp2
          go_meet
          case rel => exact ⟨m4, HS6.out, rfl⟩
        · have hzg := HS6.out.out.ro.lt
          have hzf := HS6.out.fact.lt
          have zg0 : w.heap.size < wg.heap.size := by omega
          have zg1 : w.heap.size + 1 < wg.heap.size := by omega
          go_wp2_with (go_at_call 56; refine (HFD.out _ ⟨f.pl, f.temp, i.a, f.n⟩ ?_ (HPL.out f HFM.out)).mono ?_; (exact step_below ((Below.refl _ _).alloc (Nat.le_refl _) _) HS6.out.out.bel); rintro e w3 ⟨⟨b, rfl, hsay⟩, hb3⟩; have HS8 : Hid (InS w (insBox w.heap.size ao0 n0 c0 ao1 n1 c1 ga F.length ca gs cs ao4 n4 c4 i L) (w.heap.size + 1 + 1 + 1) O k m4 wr.heap.size f w3) := HS6.out.below (over_alloc hb3); have HSAY : Hid (Says8 b (setP F S ⟨f.pl, f.temp, i.a, f.n⟩)) := hsay; clear hb3 hsay; have co3 := (ins_cells HS8.out (by omega)).2.2.2.2.1; have fz3 := (ins_cells HS8.out (by omega)).2.2.2.2.2)
          go_meet
          case rel => exact ⟨b, HS8.out.set HNE.out (by omega) (by omega) _, HSAY.out⟩
      obtain ⟨m6, hs8, hq6⟩ := hcut
      obtain ⟨wh, hwh⟩ : ∃ q, q = wc := ⟨_, rfl⟩
      subst hwh
      have HS8 : Hid (InS w (insBox w.heap.size ao0 n0 c0 ao1 n1 c1 ga F.length ca gs cs ao4 n4 c4 i L) (w.heap.size + 1 + 1 + 1) O k m6 wr.heap.size f wh) := hs8
      have HQ6 : Hid (if t4 = true then Says8 m6 (setP F S ⟨f.pl, f.temp, i.a, f.n⟩) else m6 = m4) := hq6
      clear hs8 hq6 W0 W1 W2 W3 W4 J0 J1 J2 J5 P0 P1 F0 F1 F2 F3 F4 co fz
      obtain ⟨⟨W0, W1, W2, W3, W4⟩, ⟨J0, J1, J2, J5⟩, ⟨P0, P1⟩, ⟨F0, F1, F2, F3, F4⟩, co, fz⟩ := ins_cells HS8.out (by omega)
      go_upto_region 23 with fail
      go_cut [162] (fun s wq => s = .bool (eq && !f.temp) ∧ wq = wh)
      case first => as_aux_lemma =>
        rcases Bool.eq_false_or_eq_true (f.pl.kind == L.kind && f.pl.n == L.n) with e5 | e5
        all_goals
          go_wp2
          go_meet
          case rel => exact ⟨by rw [HEQ.out, e5]; rfl, rfl⟩
      obtain ⟨rfl, hwc⟩ := hcut
      obtain rfl := hwc.symm
      obtain ⟨t5, ht5⟩ : ∃ b, b = (eq && !f.temp) := ⟨_, rfl⟩
      rw [← ht5]
      have HT5 : Hid (t5 = (eq && !f.temp)) := ht5
      clear ht5
      go_upto_if 162 with fail
      go_cut [] (fun wq => ∃ b, InS w (insBox w.heap.size ao0 n0 c0 ao1 n1 c1 ga F.length ca gs cs ao4 n4 c4 i L) (w.heap.size + 1 + 1 + 1) O k b wr.heap.size f wq ∧ (if t5 = true then Says8 b (setP F S ⟨.zero, true, i.a, f.n⟩) else b = m6))
      case first => as_aux_lemma =>
        cases t5
        · go_wp2
          go_meet
          case rel => exact ⟨m6, HS8.out, rfl⟩
        · go_wp2_with (go_at_call 56; refine (HFD.out _ ⟨.zero, true, i.a, f.n⟩ HS8.out.out.bel (Or.inl ⟨rfl, rfl⟩)).mono ?_; rintro e w3 ⟨⟨b, rfl, hsay⟩, hb3⟩; have HS9 : Hid (InS w (insBox w.heap.size ao0 n0 c0 ao1 n1 c1 ga F.length ca gs cs ao4 n4 c4 i L) (w.heap.size + 1 + 1 + 1) O k m6 wr.heap.size f w3) := HS8.out.below hb3; have HSAY : Hid (Says8 b (setP F S ⟨.zero, true, i.a, f.n⟩)) := hsay; clear hb3 hsay; have co3 := (ins_cells HS9.out (by omega)).2.2.2.2.1; have fz3 := (ins_cells HS9.out (by omega)).2.2.2.2.2)
          go_meet
          case rel => exact ⟨b, HS9.out.set HNE.out (by omega) (by omega) _, HSAY.out⟩
      obtain ⟨m7, hs9, hq7⟩ := hcut
      obtain ⟨wj, hwj⟩ : ∃ q, q = wc := ⟨_, rfl⟩
      subst hwj
      have HS9 : Hid (InS w (insBox w.heap.size ao0 n0 c0 ao1 n1 c1 ga F.length ca gs cs ao4 n4 c4 i L) (w.heap.size + 1 + 1 + 1) O k m7 wr.heap.size f wj) := hs9
      have HQ7 : Hid (if t5 = true then Says8 m7 (setP F S ⟨.zero, true, i.a, f.n⟩) else m7 = m6) := hq7
      clear hs9 hq7 W0 W1 W2 W3 W4 J0 J1 J2 J5 P0 P1 F0 F1 F2 F3 F4 co fz
      obtain ⟨⟨W0, W1, W2, W3, W4⟩, ⟨J0, J1, J2, J5⟩, ⟨P0, P1⟩, ⟨F0, F1, F2, F3, F4⟩, co, fz⟩ := ins_cells HS9.out (by omega)
      go_upto_region 25 with fail
      go_cut [188] (fun s wq => s = .bool (eq && f.temp && (f.t == i.a)) ∧ wq = wj)
      case first => as_aux_lemma =>
        rcases Bool.eq_false_or_eq_true (f.pl.kind == L.kind && f.pl.n == L.n) with e5 | e5
        · rcases Bool.eq_false_or_eq_true f.temp with e8 | e8
          all_goals
            rw [e8] at F2
            go_wp2
            go_meet
            case rel => exact ⟨by rw [HEQ.out, e5, e8]; rfl, rfl⟩
        · go_wp2
          go_meet
          case rel => exact ⟨by rw [HEQ.out, e5]; rfl, rfl⟩
      obtain ⟨rfl, hwc⟩ := hcut
      obtain rfl := hwc.symm
      obtain ⟨t6, ht6⟩ : ∃ b, b = (eq && f.temp && (f.t == i.a)) := ⟨_, rfl⟩
      rw [← ht6]
      have HT6 : Hid (t6 = (eq && f.temp && (f.t == i.a))) := ht6
      clear ht6
      cases t6
      · go_wp2
        refine ⟨⟨k + 1, O.set k m7, by go_num, by omega, HSTEP.out m7 (HEND.out m7 ?_), HS9.out.out⟩, by simp [intOf]; omega⟩
        unfold InsQ3
        rw [← HT6.out, if_neg (by simp), ← HT5.out, ← HT4.out]
        have q7 := HQ7.out
        have q6 := HQ6.out
        split
        · rename_i h9; rw [if_pos h9.2] at q7; exact q7
        · rename_i h9
          rw [if_neg (fun e => h9 ⟨HO2.out, e⟩)] at q7
          rw [q7]
          split
          · rename_i h8; rw [if_pos h8.2] at q6; exact q6
          · rename_i h8
            rw [if_neg (fun e => h8 ⟨HO2.out, e⟩)] at q6
            rw [q6]
            exact HQ2.out
      · go_wp2
        refine ⟨⟨k + 1, O.set k true, by go_num, by omega, HSTEP.out true (HEND.out true ?_), (HS9.out.set HNE.out (by omega) (by omega) true).out⟩, by simp [intOf]; omega⟩
        unfold InsQ3
        rw [← HT6.out, if_pos ⟨HO2.out, rfl⟩]

end Go.Proofs.YtcmnmogmdhofcaaGreat.form
