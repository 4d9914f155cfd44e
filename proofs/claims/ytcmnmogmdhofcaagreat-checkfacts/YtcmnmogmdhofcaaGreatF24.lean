/- All facts and where those of each place begin, kind by kind; the world of facts once it is made. -/
import Derived.Test.YtcmnmogmdhofcaaGreatF23

namespace Go.Proofs.YtcmnmogmdhofcaaGreat.form
open Go.RowKit Go.Proofs.YtcmnmogmdhofcaaGreat.num
set_option linter.unusedVariables false

def manyF (s slots kind : Nat) : Nat := if kind = 1 then s else if kind = 2 then s / 2 else if kind = 3 then slots else 0
def preF (B : List Bool) (N : List Int) (s slots : Nat) : Nat → List LFact
  | 0 => (List.range B.length).flatMap (tempF B N)
  | 1 => (List.range B.length).flatMap (tempF B N)
  | (k + 2) => preF B N s slots (k + 1) ++ kindF B N ((k + 1 : Nat) : Int) (manyF s slots (k + 1))
def stF (B : List Bool) (N : List Int) (s slots kind n q : Nat) : List Nat :=
  if q = 0 then [0] else (List.range (if q < kind then manyF s slots q else if q = kind then n else 0)).map fun m => (preF B N s slots q ++ kindF B N (q : Int) m).length

section
variable {B : List Bool} {N : List Int} {s slots : Nat}
theorem preF_all : preF B N s slots 4 = allF B N s slots := by simp [preF, allF, manyF]
theorem preF_next {kind : Nat} (h : 1 ≤ kind) : preF B N s slots (kind + 1) = preF B N s slots kind ++ kindF B N (kind : Int) (manyF s slots kind) := by
  obtain ⟨k, rfl⟩ : ∃ k, kind = k + 1 := ⟨kind - 1, by omega⟩
  rfl
theorem kindF_succ (kind : Int) (n : Nat) : kindF B N kind (n + 1) = kindF B N kind n ++ placeF B N kind n := by
  unfold kindF
  rw [List.range_succ, List.flatMap_append]
  simp
theorem stF_mark {kind n : Nat} (hk : 1 ≤ kind) : (fun q => if q = kind then stF B N s slots kind n kind ++ [(preF B N s slots kind ++ kindF B N (kind : Int) n).length] else stF B N s slots kind n q) = stF B N s slots kind (n + 1) := by
  funext q
  by_cases e : q = kind
  · subst e
    rw [if_pos rfl]
    unfold stF
    simp only [if_neg (show ¬ q = 0 by omega), Nat.lt_irrefl, if_false, if_true]
    rw [List.range_succ, List.map_append]
    rfl
  · rw [if_neg e]
    unfold stF
    simp [e]
theorem stF_next {kind : Nat} : stF B N s slots kind (manyF s slots kind) = stF B N s slots (kind + 1) 0 := by
  funext q
  unfold stF
  by_cases h0 : q = 0
  · rw [if_pos h0, if_pos h0]
  · rw [if_neg h0, if_neg h0]
    by_cases h1 : q < kind
    · rw [if_pos h1, if_pos (by omega)]
    · rw [if_neg h1]
      by_cases h2 : q = kind
      · rw [if_pos h2, if_pos (by omega), h2]
      · rw [if_neg h2, if_neg (by omega)]
        split <;> rfl
theorem len_place (kind : Int) (n : Nat) : (placeF B N kind n).length ≤ N.length + B.length := by
  unfold placeF
  rw [List.length_append, List.length_map]
  have := List.length_filter_le (mayK B kind) (List.range B.length)
  simp only [List.length_range] at this
  split
  · simp; omega
  · simp; omega
theorem len_kind (kind : Int) (n : Nat) : (kindF B N kind n).length ≤ n * (N.length + B.length) := by
  induction n with
  | zero => simp [kindF]
  | succ n ih =>
    rw [kindF_succ, List.length_append, Nat.succ_mul]
    have := len_place (B := B) (N := N) kind n
    omega
theorem len_temps {B : List Bool} {N : List Int} (x : Nat) : ((List.range x).flatMap (tempF B N)).length ≤ x * N.length := by
  induction x with
  | zero => simp
  | succ x ih =>
    rw [List.range_succ, List.flatMap_append, List.length_append, Nat.succ_mul]
    have : ([x].flatMap (tempF B N)).length ≤ N.length := by
      simp only [List.flatMap_cons, List.flatMap_nil, List.append_nil]
      unfold tempF
      split <;> simp
    omega
theorem len_pre (hB : B.length ≤ 12) (hN : N.length ≤ 41) (hs : s ≤ 16) (hsl : slots ≤ 12) {kind : Nat} (hk : kind ≤ 4) : (preF B N s slots kind).length ≤ 12 * 41 + 36 * 53 := by
  have h0 := len_temps (B := B) (N := N) B.length
  have h0' := Nat.mul_le_mul hB hN
  have hm : N.length + B.length ≤ 53 := by omega
  have h1 := len_kind (B := B) (N := N) 1 s
  have h2 := len_kind (B := B) (N := N) 2 (s / 2)
  have h3 := len_kind (B := B) (N := N) 3 slots
  have h1' := Nat.mul_le_mul hs hm
  have h2' := Nat.mul_le_mul (show s / 2 ≤ 8 by omega) hm
  have h3' := Nat.mul_le_mul hsl hm
  rcases (show kind = 0 ∨ kind = 1 ∨ kind = 2 ∨ kind = 3 ∨ kind = 4 by omega) with rfl | rfl | rfl | rfl | rfl
  · show ((List.range B.length).flatMap (tempF B N)).length ≤ _
    omega
  · show ((List.range B.length).flatMap (tempF B N)).length ≤ _
    omega
  · show ((List.range B.length).flatMap (tempF B N) ++ kindF B N 1 s).length ≤ _
    rw [List.length_append]
    omega
  · show ((List.range B.length).flatMap (tempF B N) ++ kindF B N 1 s ++ kindF B N 2 (s / 2)).length ≤ _
    rw [List.length_append, List.length_append]
    omega
  · show ((List.range B.length).flatMap (tempF B N) ++ kindF B N 1 s ++ kindF B N 2 (s / 2) ++ kindF B N 3 slots).length ≤ _
    rw [List.length_append, List.length_append, List.length_append]
    omega
theorem temps_succ {B : List Bool} {N : List Int} (x : Nat) : (List.range (x + 1)).flatMap (tempF B N) = (List.range x).flatMap (tempF B N) ++ tempF B N x := by
  rw [List.range_succ, List.flatMap_append]
  simp
theorem take_map_succ {N : List Int} {k : Nat} (hk : k < N.length) (f : Int → LFact) : (N.take (k + 1)).map f = (N.take k).map f ++ [f (N.getD k 0)] := by
  rw [List.take_succ_eq_append_getElem hk, List.map_append]
  simp [List.getD, hk]
theorem mays_succ {B : List Bool} {kind : Int} (x : Nat) (f : Nat → LFact) : ((List.range (x + 1)).filter (mayK B kind)).map f = ((List.range x).filter (mayK B kind)).map f ++ (if mayK B kind x = true then [f x] else []) := by
  rw [List.range_succ, List.filter_append, List.map_append]
  cases h : mayK B kind x <;> simp [h]
theorem startF_pre {kind : Nat} {p : LPlace} (hk : p.kind = kind) (h1 : 1 ≤ kind) (h3 : kind ≤ 3) : startF B N s p = (preF B N s slots kind ++ kindF B N (kind : Int) p.n.toNat).length := by
  unfold startF
  rw [hk]
  rcases (show kind = 1 ∨ kind = 2 ∨ kind = 3 by omega) with rfl | rfl | rfl <;> simp [preF, manyF]
end

section
variable {w1 : World} {bw : Nat} {pw pc nv : Value} {l : List LFact} {av : Value} {wr : World}

def svN (H : Nat) (q : Nat) : Value := if q = 0 then .slice (some ⟨H + 1, 0, none⟩) 1 1 else if q = 1 then .slice (some ⟨H + 1 + 1, 0, none⟩) 0 0 else if q = 2 then .slice (some ⟨H + 1 + 1 + 1, 0, none⟩) 0 0 else .slice (some ⟨H + 1 + 1 + 1 + 1, 0, none⟩) 0 0

theorem ofR_start {B : List Bool} {N : List Int} {s slots : Nat} (h : OfT w1 bw pw pc nv l av wr) (m0 m1 m2 m3 : Value) {W : World}
    (hW : W = ((((((wr.setCell ⟨bw, 3, none⟩ (.slice (some ⟨wr.heap.size + 1 + 1 + 1 + 1 + 1, 0, none⟩) 4 4)).alloc (.cells #[m0, m1, m2, m3] 3)).alloc (.cells #[.int .i64 0] 3)).alloc (.cells #[] 3)).alloc (.cells #[] 3)).alloc (.cells #[] 3)).alloc
      (.cells #[.slice (some ⟨wr.heap.size + 1, 0, none⟩) 1 1, .slice (some ⟨wr.heap.size + 1 + 1, 0, none⟩) 0 0, .slice (some ⟨wr.heap.size + 1 + 1 + 1, 0, none⟩) 0 0, .slice (some ⟨wr.heap.size + 1 + 1 + 1 + 1, 0, none⟩) 0 0] 56)) :
    OfR w1 bw (wr.heap.size + 1 + 1 + 1 + 1 + 1) pw pc nv l av (svN wr.heap.size) (stF B N s slots 1 0) W ∧ Fix bw (wr.heap.size + 1 + 1 + 1 + 1 + 1) av (svN wr.heap.size) wr.heap.size W ∧ Row W wr.heap.size 3 [m0, m1, m2, m3] := by
  have hlt := h.lt
  have hgs := h.gr.size
  have hbw := h.rb.lt
  obtain ⟨w0, hw0⟩ : ∃ w0, w0 = wr.setCell ⟨bw, 3, none⟩ (.slice (some ⟨wr.heap.size + 1 + 1 + 1 + 1 + 1, 0, none⟩) 4 4) := ⟨_, rfl⟩
  have hz0 : w0.heap.size = wr.heap.size := by rw [hw0]; simp
  have hs0 := grown_set wr bw 3 (.slice (some ⟨wr.heap.size + 1 + 1 + 1 + 1 + 1, 0, none⟩) 4 4)
  have hg0 : w1.grownBy w0 (some bw) := by rw [hw0]; exact grown_over h.gr hs0 (fun k e => Or.inr (by simpa using e.symm))
  have hb0 : Row w0 bw 66 [pw, pc, av, .slice (some ⟨wr.heap.size + 1 + 1 + 1 + 1 + 1, 0, none⟩) 4 4, nv] := by
    have := h.rb.set 3 (.slice (some ⟨wr.heap.size + 1 + 1 + 1 + 1 + 1, 0, none⟩) 4 4)
    rw [hw0]; simpa using this
  have hav : ∀ b, av.ownBlock = some b → w1.heap.size ≤ b ∧ b < wr.heap.size := fun b e => World.ownsRow.lt h.all b e
  have ha0 : w0.ownsRow w1.heap.size 62 5 av l.length (l.flatMap factCs) := by
    rw [hw0]
    exact own_kept h.all hs0 (fun b e e2 => by have := hav b e; simp at e2; omega)
  rw [← hw0] at hW
  have n0 := Row.new w0 3 [m0, m1, m2, m3]
  obtain ⟨wa, hwa⟩ : ∃ wa, wa = w0.alloc (.cells #[m0, m1, m2, m3] 3) := ⟨_, rfl⟩
  have ba : Below w0.heap.size w0 wa := by rw [hwa]; exact (Below.refl _ _).alloc (Nat.le_refl _) _
  have hza : wa.heap.size = wr.heap.size + 1 := by rw [hwa]; simp [hz0]
  rw [← hwa] at hW
  have n0 : Row wa wr.heap.size 3 [m0, m1, m2, m3] := by rw [hwa, ← hz0]; exact n0
  have n1 := Row.new wa 3 [.int .i64 0]
  obtain ⟨wb, hwb⟩ : ∃ wb, wb = wa.alloc (.cells #[.int .i64 0] 3) := ⟨_, rfl⟩
  have bb : Below wa.heap.size wa wb := by rw [hwb]; exact (Below.refl _ _).alloc (Nat.le_refl _) _
  have hzb : wb.heap.size = wr.heap.size + 1 + 1 := by rw [hwb]; simp [hza]
  rw [← hwb] at hW
  have n1 : Row wb (wr.heap.size + 1) 3 [.int .i64 0] := by rw [hwb, ← hza]; exact n1
  have n2 := Row.new wb 3 []
  obtain ⟨wd, hwd⟩ : ∃ wd, wd = wb.alloc (.cells #[] 3) := ⟨_, rfl⟩
  have bd : Below wb.heap.size wb wd := by rw [hwd]; exact (Below.refl _ _).alloc (Nat.le_refl _) _
  have hzd : wd.heap.size = wr.heap.size + 1 + 1 + 1 := by rw [hwd]; simp [hzb]
  rw [← hwd] at hW
  have n2 : Row wd (wr.heap.size + 1 + 1) 3 [] := by rw [hwd, ← hzb]; exact n2
  have n3 := Row.new wd 3 []
  obtain ⟨we, hwe⟩ : ∃ we, we = wd.alloc (.cells #[] 3) := ⟨_, rfl⟩
  have be : Below wd.heap.size wd we := by rw [hwe]; exact (Below.refl _ _).alloc (Nat.le_refl _) _
  have hze : we.heap.size = wr.heap.size + 1 + 1 + 1 + 1 := by rw [hwe]; simp [hzd]
  rw [← hwe] at hW
  have n3 : Row we (wr.heap.size + 1 + 1 + 1) 3 [] := by rw [hwe, ← hzd]; exact n3
  have n4 := Row.new we 3 []
  obtain ⟨wf, hwf⟩ : ∃ wf, wf = we.alloc (.cells #[] 3) := ⟨_, rfl⟩
  have bf : Below we.heap.size we wf := by rw [hwf]; exact (Below.refl _ _).alloc (Nat.le_refl _) _
  have hzf : wf.heap.size = wr.heap.size + 1 + 1 + 1 + 1 + 1 := by rw [hwf]; simp [hze]
  rw [← hwf] at hW
  have n4 : Row wf (wr.heap.size + 1 + 1 + 1 + 1) 3 [] := by rw [hwf, ← hze]; exact n4
  have n5 := Row.new wf 56 [svN wr.heap.size 0, svN wr.heap.size 1, svN wr.heap.size 2, svN wr.heap.size 3]
  have bg : Below wf.heap.size wf W := by rw [hW]; exact (Below.refl _ _).alloc (Nat.le_refl _) _
  have hzW : W.heap.size = wr.heap.size + 1 + 1 + 1 + 1 + 1 + 1 := by rw [hW]; simp [hzf]
  have n5 : Row W (wr.heap.size + 1 + 1 + 1 + 1 + 1) 56 [svN wr.heap.size 0, svN wr.heap.size 1, svN wr.heap.size 2, svN wr.heap.size 3] := by rw [hW, ← hzf]; exact n5
  have b2 : Below w0.heap.size w0 W := ((((ba.trans (bb.mono (by omega))).trans (bd.mono (by omega))).trans (be.mono (by omega))).trans (bf.mono (by omega))).trans (bg.mono (by omega))
  have hgW : w0.grownBy W none := ⟨b2.os, b2.tape, b2.output, b2.size, fun j hj _ => b2.block j hj⟩
  have r0 : Row W wr.heap.size 3 [m0, m1, m2, m3] := ((((n0.below bb).below bd).below be).below bf).below bg
  have r1 : Row W (wr.heap.size + 1) 3 [.int .i64 0] := (((n1.below bd).below be).below bf).below bg
  have r2 : Row W (wr.heap.size + 1 + 1) 3 [] := ((n2.below be).below bf).below bg
  have r3 : Row W (wr.heap.size + 1 + 1 + 1) 3 [] := (n3.below bf).below bg
  have r4 : Row W (wr.heap.size + 1 + 1 + 1 + 1) 3 [] := n4.below bg
  have hsv : ∀ q b, (svN wr.heap.size q).ownBlock = some b → wr.heap.size + 1 ≤ b ∧ b < wr.heap.size + 1 + 1 + 1 + 1 + 1 := fun q b e => by
    unfold svN at e
    split at e
    · simp [Value.ownBlock] at e; omega
    · split at e
      · simp [Value.ownBlock] at e; omega
      · split at e <;> simp [Value.ownBlock] at e <;> omega
  have hrowE : ∀ g, w1.heap.size ≤ g → Row W g 3 [] → W.ownsRow w1.heap.size 3 1 (.slice (some ⟨g, 0, none⟩) 0 0) 0 [] := fun g hg hr => ⟨rfl, Or.inr ⟨g, 0, #[], rfl, hg, hr, Nat.le_refl _, by unfold maxLen; omega, rfl, rfl⟩⟩
  refine ⟨⟨⟨grown_over hg0 hgW (fun k e => by simp at e), by omega, ⟨by omega, by omega⟩, by omega, (hb0.below b2).cell 2, (hb0.below b2).cell 3, (hb0.below b2).cell 4, own_kept ha0 hgW (by simp), fun q hq => ?_, fun q hq => ?_, fun e => ?_, fun e => ?_, fun q hq e => ?_, fun q hq e => ?_, fun q hq b e e2 => ?_, fun q r hq hr hqr b e e2 => ?_⟩, h.lt, hb0.below b2, n5⟩, ⟨by omega, by omega, by omega, fun e => ?_, fun q hq e => ?_⟩, r0⟩
  · rw [n5.cell q]
    rcases (show q = 0 ∨ q = 1 ∨ q = 2 ∨ q = 3 by omega) with rfl | rfl | rfl | rfl <;> rfl
  · rcases (show q = 0 ∨ q = 1 ∨ q = 2 ∨ q = 3 by omega) with rfl | rfl | rfl | rfl
    · exact ⟨rfl, Or.inr ⟨wr.heap.size + 1, 1, #[.int .i64 0], rfl, by omega, r1, Nat.le_refl _, by unfold maxLen; omega, rfl, rfl⟩⟩
    · exact hrowE _ (by omega) r2
    · exact hrowE _ (by omega) r3
    · exact hrowE _ (by omega) r4
  · have := hav _ e; omega
  · have := hav _ e; omega
  · have := hsv q _ e; omega
  · have := hsv q _ e; omega
  · have := hsv q _ e; have := hav _ e2; omega
  · unfold svN at e e2
    rcases (show q = 0 ∨ q = 1 ∨ q = 2 ∨ q = 3 by omega) with rfl | rfl | rfl | rfl <;> rcases (show r = 0 ∨ r = 1 ∨ r = 2 ∨ r = 3 by omega) with rfl | rfl | rfl | rfl <;> simp [Value.ownBlock] at e e2 hqr <;> omega
  · have := hav _ e; omega
  · have := hsv q _ e; omega
end

structure OfQ (w1 : World) (bw gs : Nat) (pw pc nv : Value) (bm : Nat) (ms : List Value) (l : List LFact) (av : Value) (sv : Nat → Value) (st : Nat → List Nat) (wr : World) : Prop where
  r : OfR w1 bw gs pw pc nv l av sv st wr
  fm : Fix bw gs av sv bm wr
  rm : Row wr bm 3 ms
structure OfA (w1 : World) (bw gs : Nat) (pw pc nv : Value) (bm : Nat) (ms : List Value) (ba : Nat) (pl : List Value) (l : List LFact) (av : Value) (sv : Nat → Value) (st : Nat → List Nat) (wr : World) : Prop where
  q : OfQ w1 bw gs pw pc nv bm ms l av sv st wr
  fa : Fix bw gs av sv ba wr
  ra : Row wr ba 51 pl

section
variable {w1 : World} {bw gs : Nat} {pw pc nv : Value} {bm : Nat} {ms : List Value} {ba : Nat} {pl : List Value} {l : List LFact} {av : Value} {sv : Nat → Value} {st : Nat → List Nat} {wr w9 : World}
theorem OfQ.below (h : OfQ w1 bw gs pw pc nv bm ms l av sv st wr) (hb : Below wr.heap.size wr w9) : OfQ w1 bw gs pw pc nv bm ms l av sv st w9 := ⟨h.r.below hb, h.fm.below hb, h.rm.below hb⟩
theorem OfA.below (h : OfA w1 bw gs pw pc nv bm ms ba pl l av sv st wr) (hb : Below wr.heap.size wr w9) : OfA w1 bw gs pw pc nv bm ms ba pl l av sv st w9 := ⟨h.q.below hb, h.fa.below hb, h.ra.below hb⟩
theorem OfQ.place (h : OfQ w1 bw gs pw pc nv bm ms l av sv st wr) (pl : List Value) : OfA w1 bw gs pw pc nv bm ms wr.heap.size pl l av sv st (wr.alloc (.cells pl.toArray 51)) :=
  ⟨h.below ((Below.refl _ _).alloc (Nat.le_refl _) _), h.r.new ((Below.refl _ _).alloc (Nat.le_refl _) _) (Nat.le_refl _) (by simp), Row.new wr _ pl⟩
theorem OfA.fact (h : OfA w1 bw gs pw pc nv bm ms ba pl l av sv st wr) {f : LFact} {g cap : Nat} (hown : w9.ownsRow w1.heap.size 62 5 (.slice (some ⟨g, 0, none⟩) (l.length + 1) cap) (l.length + 1) (l.flatMap factCs ++ factCs f)) (hgrow : wr.grownBy w9 av.ownBlock) (hat : av.ownBlock = some g ∨ g = wr.heap.size) :
    OfA w1 bw gs pw pc nv bm ms ba pl (l ++ [f]) (.slice (some ⟨g, 0, none⟩) (l.length + 1) cap) sv st (w9.setCell ⟨bw, 2, none⟩ (.slice (some ⟨g, 0, none⟩) (l.length + 1) cap)) := by
  obtain ⟨f1, f2⟩ := h.q.fm.fact (n := l.length + 1) (cap := cap) hgrow hat (.slice (some ⟨g, 0, none⟩) (l.length + 1) cap)
  obtain ⟨a1, a2⟩ := h.fa.fact (n := l.length + 1) (cap := cap) hgrow hat (.slice (some ⟨g, 0, none⟩) (l.length + 1) cap)
  exact ⟨⟨h.q.r.fact hown hgrow hat, f1, Fix.row f2 h.q.rm⟩, a1, Fix.row a2 h.ra⟩
theorem OfA.mark (h : OfA w1 bw gs pw pc nv bm ms ba pl l av sv st wr) {p n g cap : Nat} (hp : p < 4) (hown : w9.ownsRow w1.heap.size 3 1 (.slice (some ⟨g, 0, none⟩) ((st p).length + 1) cap) ((st p).length + 1) ((st p).map (fun n : Nat => Value.int .i64 (n : Int)) ++ [.int .i64 (n : Int)])) (hgrow : wr.grownBy w9 (sv p).ownBlock) (hat : (sv p).ownBlock = some g ∨ g = wr.heap.size) :
    OfA w1 bw gs pw pc nv bm ms ba pl l av (fun q => if q = p then .slice (some ⟨g, 0, none⟩) ((st p).length + 1) cap else sv q) (fun q => if q = p then st p ++ [n] else st q) (w9.setCell ⟨gs, p, none⟩ (.slice (some ⟨g, 0, none⟩) ((st p).length + 1) cap)) := by
  obtain ⟨f1, f2⟩ := h.q.fm.mark (n := (st p).length + 1) (cap := cap) hp hgrow hat (.slice (some ⟨g, 0, none⟩) ((st p).length + 1) cap)
  obtain ⟨a1, a2⟩ := h.fa.mark (n := (st p).length + 1) (cap := cap) hp hgrow hat (.slice (some ⟨g, 0, none⟩) ((st p).length + 1) cap)
  exact ⟨⟨h.q.r.mark hp hown hgrow hat, f1, Fix.row f2 h.q.rm⟩, a1, Fix.row a2 h.ra⟩
end

theorem ofR_world {w1 : World} {bw gs : Nat} {pw pc nv : Value} {av : Value} {sv : Nat → Value} {wr wf : World} {B : List Bool} {C : List LIns} {s slots : Nat} (h : OfR w1 bw gs pw pc nv (allF B (numsL C) s slots) av sv (stF B (numsL C) s slots 4 0) wr)
    (far : ∀ p v, w1.heap.size ≤ p.block → wr.cell? p = some v → wf.cell? p = some v) (hz : wr.heap.size ≤ wf.heap.size) (hB : B.length ≤ 12) (hN : (numsL C).length ≤ 41) (hN1 : 1 ≤ (numsL C).length) (hs0 : s % 2 = 0) (hs1 : 4 ≤ s) (hs2 : s ≤ 16) (hsl : slots ≤ 12) :
    ∃ ga ca, av = .slice (some ⟨ga, 0, none⟩) (allF B (numsL C) s slots).length ca ∧ FWorld wf s slots (allF B (numsL C) s slots) ga gs (startF B (numsL C) s) := by
  have hlen := len_pre (B := B) (N := numsL C) (s := s) (slots := slots) hB hN hs2 hsl (kind := 4) (by omega)
  rw [preF_all] at hlen
  have hpos : 0 < (allF B (numsL C) s slots).length := by
    have : (⟨⟨1, 0⟩, false, 0, 0⟩ : LFact) ∈ allF B (numsL C) s slots := by
      rw [mem_allF hs0 hs2]
      have h0 : (0 : Int) ∈ numsL C := (nums_mem C 0).2 (Or.inl rfl)
      refine ⟨Or.inr (by unfold isB; simp; omega), fun e => absurd e (by simp), fun e => absurd e (by simp), fun e => absurd e (by simp), fun _ => h0, fun _ e => absurd e (by simp), fun _ => rfl, fun _ => by simp⟩
    exact List.length_pos_of_mem this
  obtain ⟨ga, ca, rfl, hga1, hga2⟩ := h.os.all.form hpos
  refine ⟨ga, ca, rfl, ⟨by omega, by omega, fun k hk => ?_⟩, ⟨Nat.lt_of_lt_of_le h.os.lg.2 hz, fun p hp => ?_⟩, fun p hp => seg_all hs0 hp, all_sorted (nums_sorted C) s slots, fun f hf => ((mem_allF hs0 hs2).1 hf).pl.elim (fun e => Or.inl ⟨e.1, e.2.1⟩) Or.inr, ⟨by omega, by omega⟩⟩
  · obtain ⟨a, b, c, d, e⟩ := own_fcells h.os.all k hk
    exact ⟨far _ _ hga1 a, far _ _ hga1 b, far _ _ hga1 c, far _ _ hga1 d, far _ _ hga1 e⟩
  · have key : ∀ (q m : Nat), q < 4 → m < (stF B (numsL C) s slots 4 0 q).length → (stF B (numsL C) s slots 4 0 q).length ≤ 100 → ∃ rb rl rc, wf.cell? ⟨gs, q, none⟩ = some (.slice (some ⟨rb, 0, none⟩) rl rc) ∧ rb < wf.heap.size ∧ (m : Int) < rl ∧ rl ≤ 100 ∧ wf.cell? ⟨rb, m, none⟩ = some (.int .i64 ((stF B (numsL C) s slots 4 0 q).getD m 0 : Nat)) := by
      intro q m hq hm hl
      have hrow := h.os.row q hq
      obtain ⟨rb, rc, hv, h1, h2⟩ := hrow.form (by omega)
      rw [hv] at hrow
      refine ⟨rb, _, rc, far _ _ (by exact h.os.lg.1) (by rw [h.os.top q hq, hv]), by omega, by omega, hl, far _ _ (by exact h1) ?_⟩
      rw [World.ownsRow.cellAt hrow m (by omega)]
      simp [List.getD, hm]
    have hstl : ∀ q : Nat, 1 ≤ q → q ≤ 3 → (stF B (numsL C) s slots 4 0 q).length = manyF s slots q := fun q h1 h2 => by
      unfold stF
      rw [if_neg (by omega), if_pos (by omega)]
      simp
    have hst : ∀ (q m : Nat), 1 ≤ q → q ≤ 3 → m < manyF s slots q → (stF B (numsL C) s slots 4 0 q).getD m 0 = (preF B (numsL C) s slots q ++ kindF B (numsL C) (q : Int) m).length := fun q m h1 h2 hm => by
      unfold stF
      rw [if_neg (by omega), if_pos (by omega)]
      simp [List.getD, hm]
    rcases hp with hp | hp
    · obtain ⟨rb, rl, rc, a, b, c, d, e⟩ := key 0 0 (by omega) (by simp [stF]) (by simp [stF])
      refine ⟨by omega, rb, rl, rc, ?_, b, by rw [hp.2]; exact c, d, ?_⟩
      · rw [hp.1]; exact a
      · rw [hp.2]
        have : startF B (numsL C) s p = 0 := by unfold startF; rw [if_pos hp.1]
        rw [this]
        simpa [stF] using e
    · have fin : ∀ q : Nat, p.kind = q → 1 ≤ q → q ≤ 3 → 0 ≤ p.n → p.n < (manyF s slots q : Int) → manyF s slots q ≤ 100 → 0 ≤ p.n ∧ ∃ rb rl rc, wf.cell? ⟨gs, p.kind.toNat, none⟩ = some (.slice (some ⟨rb, 0, none⟩) rl rc) ∧ rb < wf.heap.size ∧ p.n < rl ∧ rl ≤ 100 ∧ wf.cell? ⟨rb, p.n.toNat, none⟩ = some (.int .i64 (startF B (numsL C) s p)) := by
        intro q hq h1 h2 h3 h4 h5
        obtain ⟨rb, rl, rc, a, b, c, d, e⟩ := key q p.n.toNat (by omega) (by rw [hstl q h1 h2]; omega) (by rw [hstl q h1 h2]; exact h5)
        refine ⟨h3, rb, rl, rc, ?_, b, by omega, d, ?_⟩
        · rw [hq]; exact a
        · rw [startF_pre (slots := slots) hq h1 h2]
          rw [hst q _ h1 h2 (by omega)] at e
          exact e
      rcases is_cases hp with ⟨e, a, b⟩ | ⟨e, a, b⟩ | ⟨e, a, b⟩
      · exact fin 1 e (by omega) (by omega) a (by simp [manyF]; omega) (by simp [manyF]; omega)
      · exact fin 2 e (by omega) (by omega) a (by simp [manyF]; omega) (by simp [manyF]; omega)
      · exact fin 3 e (by omega) (by omega) a (by simp [manyF]; omega) (by simp [manyF]; omega)

end Go.Proofs.YtcmnmogmdhofcaaGreat.form
