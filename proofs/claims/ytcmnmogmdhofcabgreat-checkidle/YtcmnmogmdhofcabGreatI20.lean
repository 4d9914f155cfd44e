/- What is known ahead of the first instruction (world.beginning). -/
import Derived.Deep.OwnRows
import Derived.Deep.DeepCutAuto
import Derived.Test.YtcmnmogmdhofcabGreatI19
import Derived.Test.YtcmnmogmdhofcabGreatI08
import Derived.Test.YtcmnmogmdhofcabGreatI11
import Derived.Test.YtcmnmogmdhofcabGreatI18
import Derived.Test.YtcmnmogmdhofcabGreatI16
import Derived.Test.YtcmnmogmdhofcabGreatI12

namespace Go.Proofs.YtcmnmogmdhofcabGreat.form
open Go.RowKit Go.Maps
set_option linter.unusedVariables false
set_option maxRecDepth 100000
attribute [local go_sem ↓] Go.wp_at_zero Go.wp_at_succ

structure BegS (B : List Bool) (N : List Int) (A : List LPlace) (j t : Nat) (m : FM) : Prop where
  has : ∀ p u, (m.has p).getLsbD u = true ↔ p ∈ A.take j ∧ u < B.length ∧ mayT B p.kind u = true
  is : ∀ p k, (m.is p).getLsbD k = true ↔ p ∈ A.take j ∧ k < N.length ∧ ¬ p.kind = 2 ∧ nAt N k = 0
  tmp : ∀ (v : Int) k, (m.tmp v).getLsbD k = true ↔ (0 ≤ v ∧ v < t ∧ B.getD v.toNat false = false) ∧ k < N.length ∧ nAt N k = 0
theorem BegS.start (B : List Bool) (N : List Int) (A : List LPlace) : BegS B N A 0 0 ⟨fun _ => 0, fun _ => 0, fun _ => 0⟩ :=
  ⟨fun p u => by simp, fun p k => by simp, fun v k => by
    constructor
    · intro h; simp at h
    · rintro ⟨⟨h0, h1, _⟩, _⟩; omega⟩
theorem mem_one {A : List LPlace} {j : Nat} (hj : j < A.length) {p : LPlace} : p ∈ A.take (j + 1) ↔ p ∈ A.take j ∨ p = A.getD j .zero := by
  rw [take_one hj, List.mem_append]
  simp
theorem BegS.place {B : List Bool} {N : List Int} {A : List LPlace} {j t : Nat} {m : FM} (h : BegS B N A j t m) (hj : j < A.length) {a : LPlace} (ha : a = A.getD j .zero) {x y : Bits} (hx : ∀ u, x.getLsbD u = true ↔ u < B.length ∧ mayT B a.kind u = true) (hy : ∀ k, y.getLsbD k = true ↔ k < N.length ∧ ¬ a.kind = 2 ∧ nAt N k = 0) : BegS B N A (j + 1) t ⟨updP m.has a x, updP m.is a y, m.tmp⟩ := by
  refine ⟨fun p u => ?_, fun p k => ?_, h.tmp⟩
  · rw [mem_one hj, ← ha]
    simp only [updP]
    by_cases e : samePl p a = true
    · rw [if_pos e, samePl_eq e, hx]; simp
    · have : p ≠ a := fun e2 => e (by rw [e2]; exact samePl_self _)
      rw [if_neg e, h.has]; simp [this]
  · rw [mem_one hj, ← ha]
    simp only [updP]
    by_cases e : samePl p a = true
    · rw [if_pos e, samePl_eq e, hy]; simp
    · have : p ≠ a := fun e2 => e (by rw [e2]; exact samePl_self _)
      rw [if_neg e, h.is]; simp [this]
theorem BegS.temp {B : List Bool} {N : List Int} {A : List LPlace} {j t : Nat} {m : FM} (h : BegS B N A j t m) {z : Bits} (hz : NumS N 0 z) (hn : B.getD t false = false) : BegS B N A j (t + 1) ⟨m.has, m.is, updT m.tmp t z⟩ := by
  refine ⟨h.has, h.is, fun v k => ?_⟩
  simp only [updT]
  by_cases e : v = t
  · rw [if_pos e, hz, e]
    constructor
    · rintro ⟨h1, h2⟩; exact ⟨⟨by omega, by omega, by simpa using hn⟩, h1, h2⟩
    · rintro ⟨_, h1, h2⟩; exact ⟨h1, h2⟩
  · rw [if_neg e, h.tmp]
    constructor
    · rintro ⟨⟨h1, h2, h3⟩, h4⟩; exact ⟨⟨h1, by omega, h3⟩, h4⟩
    · rintro ⟨⟨h1, h2, h3⟩, h4⟩; exact ⟨⟨h1, by omega, h3⟩, h4⟩
theorem BegS.skip {B : List Bool} {N : List Int} {A : List LPlace} {j t : Nat} {m : FM} (h : BegS B N A j t m) (hn : B.getD t false = true) : BegS B N A j (t + 1) m := by
  refine ⟨h.has, h.is, fun v k => ?_⟩
  rw [h.tmp]
  constructor
  · rintro ⟨⟨h1, h2, h3⟩, h4⟩; exact ⟨⟨h1, by omega, h3⟩, h4⟩
  · rintro ⟨⟨h1, h2, h3⟩, h4⟩
    refine ⟨⟨h1, ?_, h3⟩, h4⟩
    by_cases e : v = t
    · rw [e] at h3
      simp only [Int.toNat_natCast] at h3
      rw [hn] at h3; cases h3
    · omega
theorem BegS.it {B : List Bool} {C : List LIns} {s slots : Nat} {R : List LRow} {A : List LPlace} {N : List Int} {m : FM} (hD : Dims B C s slots A N) (h : BegS B N A A.length B.length m) (F : List (Option FM)) (hF : F.length = C.length) (h0 : F.getD 0 none = some m) (hno : ∀ k, ¬ k = 0 → F.getD k none = none) : BIt B C s slots R N F := by
  have hin : ∀ p, p ∈ A.take A.length ↔ isB s slots p = true := fun p => by rw [List.take_length]; exact hD.all p
  have hok : FmOk B s slots N m := by
    refine ⟨fun p t ht => ?_, fun p k hk => ?_, fun t k hk => ?_⟩
    · obtain ⟨h1, h2, h3⟩ := (h.has p t).1 ht
      unfold mayT at h3
      refine ⟨(hin p).1 h1, h2, fun e => ?_, fun e => ?_⟩
      · rw [e] at h3; simpa using h3
      · rw [e] at h3; simpa using h3
    · obtain ⟨h1, h2, h3, h4⟩ := (h.is p k).1 hk
      exact ⟨(hin p).1 h1, h2, h3⟩
    · obtain ⟨⟨h1, h2, h3⟩, h4, h5⟩ := (h.tmp t k).1 hk
      exact ⟨h1, h2, h3, h4⟩
  have hone : ∀ k m', F.getD k none = some m' → k = 0 ∧ m' = m := fun k m' hk => by
    by_cases e : k = 0
    · subst e; rw [h0] at hk; cases hk; exact ⟨rfl, rfl⟩
    · rw [hno k e] at hk; cases hk
  have hz : ∃ k, k < N.length ∧ nAt N k = 0 := (hD.num 0).2 (Or.inl rfl)
  refine ⟨hF, ⟨m, h0⟩, fun k m' hk => ?_, fun k m' hk => ?_, fun k m' hk f hf => ?_, fun m' hk f hf => ?_⟩
  · obtain ⟨rfl, rfl⟩ := hone k m' hk; exact hok
  · obtain ⟨rfl, rfl⟩ := hone k m' hk; exact reach_start C
  · obtain ⟨rfl, rfl⟩ := hone k m' hk
    have hg := known_good B C s slots R
    have o := hg.ok 0 f hf
    have n0 := hg.beg f hf
    obtain ⟨kz, hk1, hk2⟩ := hz
    unfold Kof
    by_cases e0 : f.pl.kind = 0
    · rw [if_pos e0]
      have hp : f.pl.n = 0 ∧ f.temp = true := by
        rcases o.pl with h1 | h1
        · exact h1.2
        · have := is_kind h1; omega
      have ht := o.t hp.2
      refine ⟨hp.1, hp.2, kz, hk1, by rw [hk2, n0], ?_⟩
      rw [h.tmp]
      exact ⟨⟨ht.1, ht.2, o.nar hp.2 (Or.inl e0)⟩, hk1, hk2⟩
    · rw [if_neg e0]
      have hp : isB s slots f.pl = true := by
        rcases o.pl with h1 | h1
        · exact absurd h1.1 e0
        · exact h1
      by_cases et : f.temp = true
      · rw [if_pos et]
        have ht := o.t et
        refine ⟨n0, ht.1, ?_⟩
        rw [h.has]
        refine ⟨(hin _).2 hp, by omega, ?_⟩
        unfold mayT
        rcases is_cases hp with ⟨e, _, _⟩ | ⟨e, _, _⟩ | ⟨e, _, _⟩
        · rw [o.nar et (Or.inr e), e]; rfl
        · rw [o.wid et e, e]; rfl
        · rw [e]; rfl
      · have et' : f.temp = false := by simpa using et
        rw [if_neg et]
        refine ⟨o.zt et', kz, hk1, by rw [hk2, n0], ?_⟩
        rw [h.is]
        exact ⟨(hin _).2 hp, hk1, o.dbl et', hk2⟩
  · obtain ⟨_, rfl⟩ := hone 0 m' hk
    unfold Kof at hf
    split at hf
    · obtain ⟨_, _, k, _, h2, h3⟩ := hf
      rw [← h2]; exact ((h.tmp _ _).1 h3).2.2
    · split at hf
      · exact hf.1
      · obtain ⟨_, k, _, h2, h3⟩ := hf
        rw [← h2]; exact ((h.is _ _).1 h3).2.2.2

def BegWAns (B : List Bool) (N : List Int) (A : List LPlace) (T : List Int) (w : World) (e : Ending) (w' : World) : Prop := ∃ q mp mt m, e = .returned (.pointer (some ⟨q, 0, none⟩)) ∧ w.heap.size ≤ q ∧ w.heap.size ≤ mp ∧ w.heap.size ≤ mt ∧ FMAt w' q mp mt A T m ∧ BegS B N A A.length B.length m ∧ Below w.heap.size w w'

set_option maxHeartbeats 1600000 in
theorem beginW {w : World} {lim : Nat} {g : WB} {B : List Bool} {C : List LIns} {R : List LRow} {A : List LPlace} {N : List Int} {s slots : Nat} (hW : WorldAt w lim g B C R A N) (hD : Dims B C s slots A N) (T : List Int) (hT : ∀ t, t ∈ T ↔ 0 ≤ t ∧ t < B.length) (hTl : T.length ≤ 12) :
    Calls Tryz.prog 41 #[.pointer (some ⟨g.q, 0, none⟩)] w fun e w' => BegWAns B N A T w e w' := by
  have hmm := @run_makeMap Tryz.prog
  have hb12 := hD.b12
  have hbz : (B.length : Int) ≤ 12 := by omega
  have HW : Hid (WorldAt w lim g B C R A N) := hW
  have HD : Hid (Dims B C s slots A N) := hD
  have HT : Hid (∀ t, t ∈ T ↔ 0 ≤ t ∧ t < B.length) := hT
  have y3 := hW.stat.p3
  have hgq := cell_lt y3
  have hle := hW.le
  have ha36 : (A.length : Int) ≤ 36 := by have := hD.a36; omega
  have c := numberO hW hD 0
  clear hW hD hT
  go_enter Tryz.func41, Tryz.ntmps41
  go_upto_region 3 with (go_at_call 67; refine c.mono ?_; rintro e w1 ⟨⟨zz, rfl, hzz⟩, hw1⟩; obtain rfl := hw1.symm; have HZZ : Hid (NumS N 0 zz) := hzz; clear hzz)
  clear c hmm
  obtain ⟨w3, hw3⟩ : ∃ w3, w3 = ((w.alloc (.map #[] 0)).alloc (.map #[] 0)).alloc (.cells #[.map (some w.heap.size), .map (some (w.heap.size + 1))] 112) := ⟨_, rfl⟩
  have h1 := PMap.new w A
  have h2 := TMap.new (w.alloc (.map #[] 0)) T
  have e1 : (w.alloc (.map #[] 0)).heap.size = w.heap.size + 1 := by simp
  have e2 : ((w.alloc (.map #[] 0)).alloc (.map #[] 0)).heap.size = w.heap.size + 1 + 1 := by simp
  have hf3 : FMAt w3 (w.heap.size + 1 + 1) w.heap.size (w.heap.size + 1) A T ⟨fun _ => 0, fun _ => 0, fun _ => 0⟩ := by
    rw [hw3]
    have h3 : PMap ((w.alloc (.map #[] 0)).alloc (.map #[] 0)) w.heap.size A (fun _ => 0) (fun _ => 0) := h1.below ((Below.refl _ _).alloc (Nat.le_refl _) _)
    rw [e1] at h2
    have := fm_new (m := ⟨fun _ => 0, fun _ => 0, fun _ => 0⟩) h3 h2 (by omega)
    rw [e2] at this
    exact this
  have hb3 : Below w.heap.size w w3 := by rw [hw3]; exact (((Below.refl _ _).alloc (Nat.le_refl _) _).alloc (by simp) _).alloc (by simp; omega) _
  rw [← hw3]
  obtain ⟨mp, hmp⟩ : ∃ mp, mp = w.heap.size := ⟨_, rfl⟩
  obtain ⟨mt, hmt⟩ : ∃ mt, mt = w.heap.size + 1 := ⟨_, rfl⟩
  obtain ⟨q, hq⟩ : ∃ q, q = w.heap.size + 1 + 1 := ⟨_, rfl⟩
  rw [← hq, ← hmt] at hf3 ⊢
  have hf4 : FMAt w3 q mp mt A T ⟨fun _ => 0, fun _ => 0, fun _ => 0⟩ := by rw [hmp]; exact hf3
  have HF3 : Hid (FMAt w3 q mp mt A T ⟨fun _ => 0, fun _ => 0, fun _ => 0⟩) := hf4
  have HB3 : Hid (Below w.heap.size w w3) := hb3
  have hqle : w.heap.size ≤ q := by omega
  have hple : w.heap.size ≤ mp := by omega
  have htle : w.heap.size ≤ mt := by omega
  clear hw3 h1 h2 e1 e2 hf3 hf4 hmp hmt hq
  have y3 := HW.out.below hb3 |>.stat.p3
  have hgq3 := cell_lt y3
  clear hb3
  go_wp2
  go_loopg [6, 7, 21] (A.length + 1) (fun gg v6 v7 v wr => ∃ (j : Nat) (m : FM), v = .int .i64 j ∧ j ≤ A.length ∧ gg = A.length + 1 - j ∧ FMAt wr q mp mt A T m ∧ BegS B N A j 0 m ∧ Below w.heap.size w wr)
  case atStart => exact ⟨0, _, rfl, by omega, by omega, HF3.out, BegS.start B N A, HB3.out⟩
  case round =>
    clear HF3
    obtain ⟨j, m, rfl, hj, hgk, hfr, hbs, hbr⟩ := hrel
    have HGK : Hid (gk = A.length + 1 - j) := hgk
    have HFR : Hid (FMAt wr q mp mt A T m) := hfr
    have HBS : Hid (BegS B N A j 0 m) := hbs
    have HBR : Hid (Below w.heap.size w wr) := hbr
    have HWR : Hid (WorldAt wr lim g B C R A N) := HW.out.below hbr
    have e0 : q ≠ mp := hfr.n1
    have hwr := hfr.lt
    have hsz := hbr.size
    clear hgk hfr hbs hbr
    by_cases hjl : j < A.length
    · have hjz : (j : Int) < (A.length : Int) := by omega
      obtain ⟨a, ha⟩ : ∃ a, a = A.getD j .zero := ⟨_, rfl⟩
      obtain ⟨y0, y1⟩ := HWR.out.stat.plc j hjl
      rw [← ha] at y0 y1
      have hbl := cell_lt y0
      have ham : a ∈ A := by rw [ha]; simp [List.getD, hjl]
      have HWF : Hid (PlWf a) := HD.out.wf ((HD.out.all _).1 ham)
      have HAM : Hid (a ∈ A) := ham
      have HA : Hid (a = A.getD j .zero) := ha
      clear ha ham
      have hbx : Below wr.heap.size wr (wr.alloc (.cells #[.int .i64 a.kind, .int .i64 a.n] 37)) := (Below.refl _ _).alloc (Nat.le_refl _) _
      have c := mayW (HWR.out.below hbx) HD.out a.kind
      have HBX : Hid (Below wr.heap.size wr (wr.alloc (.cells #[.int .i64 a.kind, .int .i64 a.n] 37))) := hbx
      clear hbx
      go_upto_region 7 with (go_at_call 68; refine c.mono ?_; rintro e w1 ⟨x, y, rfl, hx, hy, hb1⟩; have HX : Hid (∀ t, x.getLsbD t = true ↔ t < B.length ∧ mayT B a.kind t = true) := hx; have HY : Hid (∀ k, y.getLsbD k = true ↔ k < N.length ∧ ¬ a.kind = 2) := hy; have HB1 : Hid (Below wr.heap.size wr w1) := step_below hb1 HBX.out; have x1 : w1.cell? ⟨wr.heap.size, 0, none⟩ = some (.int .i64 a.kind) := step_cell hb1 (by simp [go_sem]); have x2 : w1.cell? ⟨wr.heap.size, 1, none⟩ = some (.int .i64 a.n) := step_cell hb1 (by simp [go_sem]); have hz1 := cell_lt x1; clear hx hy hb1; unfold knownV)
      clear c
      obtain ⟨wy, hwy⟩ : ∃ wy, wy = w1.alloc (.cells #[.int .u64 (bn x), .int .u64 (bn y)] 108) := ⟨_, rfl⟩
      have hb1y : Below w1.heap.size w1 wy := by rw [hwy]; exact (Below.refl _ _).alloc (Nat.le_refl _) _
      have x3 : wy.cell? ⟨w1.heap.size, 0, none⟩ = some (.int .u64 (bn x)) := by rw [hwy]; simp [go_sem]
      have x4 : wy.cell? ⟨w1.heap.size, 1, none⟩ = some (.int .u64 (bn y)) := by rw [hwy]; simp [go_sem]
      rw [← hwy]
      clear hwy
      replace x1 := step_cell hb1y x1
      replace x2 := step_cell hb1y x2
      have hby := step_below hb1y HB1.out
      have HBY : Hid (Below wr.heap.size wr wy) := hby
      have hFy := HFR.out.below hby
      have HFY : Hid (FMAt wy q mp mt A T m) := hFy
      have x0 := hFy.c0
      have e1 : wr.heap.size ≠ mp := by omega
      have e2 : w1.heap.size ≠ mp := by omega
      have hn36 : A.length < maxLen := by have := HD.out.a36; unfold maxLen; omega
      obtain ⟨w9, hrun, hp9, hg9⟩ := (hFy.pm.of_block (w' := wy.drew) rfl).put hn36 HWF.out HAM.out x (y &&& zz)
      unfold LPlace.val knownV at hrun
      have HP9 : Hid (PMap w9 mp A (updP m.has a x) (updP m.is a (y &&& zz))) := hp9
      have HG9 : Hid (But mp mp wy.drew w9) := grown_but hg9
      have hand := and_is y zz
      clear hp9 hg9 hFy hb1y hby
      refine wp_region_held_drew (S := (fun w' => But mp mp wy w' ∧ w'.cell? ⟨q, 0, none⟩ = some (.map (some mp)) ∧ w'.cell? ⟨wr.heap.size, 0, none⟩ = some (.int .i64 a.kind) ∧ w'.cell? ⟨wr.heap.size, 1, none⟩ = some (.int .i64 a.n) ∧ w'.cell? ⟨w1.heap.size, 0, none⟩ = some (.int .u64 (bn x)) ∧ w'.cell? ⟨w1.heap.size, 1, none⟩ = some (.int .u64 (bn y)))) (by rfl) ?_ (fun hHeld => ?_)
      · (exact ⟨But.of_below (Below.refl _ _).drew, x0, x1, x2, x3, x4⟩)
      refine wpAnyH_take (i := 0) (v := ?_) rfl (by kernel_rfl) (by kernel_rfl) (by kernel_rfl) (fun _ _ _ h => h) (Or.inl ⟨by rfl, ?_⟩) (by assumption) ?_
      case refine_2 => (intro w hSw; (try dsimp only at hSw); go_simp; first | done | (with_reducible rfl))
      show wpAnyH _ _ _ _ _ _ _ (Act.put _ (some 29) _) _
      simp only [Act.put, List.setIfInBounds_toArray, List.set_cons_zero, List.set_cons_succ]
      refine wpAnyH_take (i := 1) (v := ?_) rfl (by kernel_rfl) (by kernel_rfl) (by kernel_rfl) (fun _ _ _ h => h) (Or.inl ⟨by rfl, ?_⟩) (by assumption) ?_
      case refine_2 => (intro w hSw; (try dsimp only at hSw); go_simp; first | done | (with_reducible rfl))
      show wpAnyH _ _ _ _ _ _ _ (Act.put _ (some 30) _) _
      simp only [Act.put, List.setIfInBounds_toArray, List.set_cons_zero, List.set_cons_succ]
      refine wpAnyH_take (i := 2) (v := ?_) rfl (by kernel_rfl) (by kernel_rfl) (by kernel_rfl) (fun _ _ _ h => h) (Or.inl ⟨by rfl, ?_⟩) (by assumption) ?_
      case refine_2 => (intro w hSw; (try dsimp only at hSw); go_simp; first | done | (with_reducible rfl))
      show wpAnyH _ _ _ _ _ _ _ (Act.put _ (some 31) _) _
      simp only [Act.put, List.setIfInBounds_toArray, List.set_cons_zero, List.set_cons_succ]
      refine wpAnyH_take (i := 3) (v := ?_) rfl (by kernel_rfl) (by kernel_rfl) (by kernel_rfl) (fun _ _ _ h => h) (Or.inl ⟨by rfl, ?_⟩) (by assumption) ?_
      case refine_2 => (intro w hSw; (try dsimp only at hSw); go_simp; first | done | (with_reducible rfl))
      show wpAnyH _ _ _ _ _ _ _ (Act.put _ (some 32) _) _
      simp only [Act.put, List.setIfInBounds_toArray, List.set_cons_zero, List.set_cons_succ]
      refine wpAnyH_take (i := 4) (v := ?_) rfl (by kernel_rfl) (by kernel_rfl) (by kernel_rfl) (fun _ _ _ h => h) (Or.inl ⟨by rfl, ?_⟩) (by assumption) ?_
      case refine_2 => (intro w hSw; (try dsimp only at hSw); go_simp; first | done | (with_reducible rfl))
      show wpAnyH _ _ _ _ _ _ _ (Act.put _ (some 33) _) _
      simp only [Act.put, List.setIfInBounds_toArray, List.set_cons_zero, List.set_cons_succ]
      refine wpAnyH_take (i := 5) (v := ?_) rfl (by kernel_rfl) (by kernel_rfl) (by kernel_rfl) (fun _ _ _ h => h) (Or.inl ⟨by rfl, ?_⟩) (by assumption) ?_
      case refine_2 => (intro w hSw; (try dsimp only at hSw); go_simp; first | done | (with_reducible rfl))
      show wpAnyH _ _ _ _ _ _ _ (Act.put _ (some 34) _) _
      simp only [Act.put, List.setIfInBounds_toArray, List.set_cons_zero, List.set_cons_succ]
      refine wpAnyH_take (i := 6) (v := ?_) rfl (by kernel_rfl) (by kernel_rfl) (by kernel_rfl) (fun _ _ _ h => h) (Or.inl ⟨by rfl, ?_⟩) (by assumption) ?_
      case refine_2 => (intro w hSw; (try dsimp only at hSw); go_simp; first | done | (with_reducible rfl))
      show wpAnyH _ _ _ _ _ _ _ (Act.put _ (some 35) _) _
      simp only [Act.put, List.setIfInBounds_toArray, List.set_cons_zero, List.set_cons_succ]
      refine wpAnyH_take (i := 7) (v := ?_) rfl (by kernel_rfl) (by kernel_rfl) (by kernel_rfl) (fun _ _ _ h => h) (Or.inl ⟨by rfl, ?_⟩) (by assumption) ?_
      case refine_2 => (intro w hSw; (try dsimp only at hSw); go_simp; first | done | (with_reducible rfl))
      show wpAnyH _ _ _ _ _ _ _ (Act.put _ (some 36) _) _
      simp only [Act.put, List.setIfInBounds_toArray, List.set_cons_zero, List.set_cons_succ]
      refine wpAnyH_take (i := 8) (v := ?_) rfl (by kernel_rfl) (by kernel_rfl) (by kernel_rfl) (fun _ _ _ h => h) (Or.inl ⟨by rfl, ?_⟩) (by assumption) ?_
      case refine_2 => (intro w hSw; (try dsimp only at hSw); go_simp; first | done | (with_reducible rfl))
      show wpAnyH _ _ _ _ _ _ _ (Act.put _ (some 37) _) _
      simp only [Act.put, List.setIfInBounds_toArray, List.set_cons_zero, List.set_cons_succ]
      refine wpAnyH_take (i := 9) (v := ?_) rfl (by kernel_rfl) (by kernel_rfl) (by kernel_rfl) (fun _ _ _ h => h) (Or.inl ⟨by rfl, ?_⟩) (by assumption) ?_
      case refine_2 => (intro w hSw; (try dsimp only at hSw); go_simp; first | done | (with_reducible rfl))
      show wpAnyH _ _ _ _ _ _ _ (Act.put _ (some 38) _) _
      simp only [Act.put, List.setIfInBounds_toArray, List.set_cons_zero, List.set_cons_succ]
      refine wpAnyH_take (i := 10) (v := ?_) rfl (by kernel_rfl) (by kernel_rfl) (by kernel_rfl) (fun _ _ _ h => h) (Or.inl ⟨by rfl, ?_⟩) (by assumption) ?_
      case refine_2 => (intro w hSw; (try dsimp only at hSw); go_simp; first | done | (with_reducible rfl))
      show wpAnyH _ _ _ _ _ _ _ (Act.put _ (some 39) _) _
      simp only [Act.put, List.setIfInBounds_toArray, List.set_cons_zero, List.set_cons_succ]
      refine wpAnyH_take (i := 11) (v := ?_) rfl (by kernel_rfl) (by kernel_rfl) (by kernel_rfl) (fun _ _ _ h => h) (Or.inl ⟨by rfl, ?_⟩) (by assumption) ?_
      case refine_2 => (intro w hSw; (try dsimp only at hSw); go_simp; first | done | (with_reducible rfl))
      show wpAnyH _ _ _ _ _ _ _ (Act.put _ (some 40) _) _
      simp only [Act.put, List.setIfInBounds_toArray, List.set_cons_zero, List.set_cons_succ]
      refine wpAnyH_ready (rs := [12]) (by kernel_rfl) (by simp) ?_
      refine (AllReadyH.cons rfl (fun K hK => ?_) AllReadyH.nil)
      go_simp
      refine hK.out _ _ ?_ (fun hHeld => ?_)
      · (exact ⟨hHeld.1.trans HG9.out, HG9.out.cellOf hHeld.2.1 e0 e0, HG9.out.cellOf hHeld.2.2.1 e1 e1, HG9.out.cellOf hHeld.2.2.2.1 e1 e1, HG9.out.cellOf hHeld.2.2.2.2.1 e2 e2, HG9.out.cellOf hHeld.2.2.2.2.2 e2 e2⟩)
      clear hK K
      try simp only [Act.put, List.setIfInBounds_toArray, List.set_cons_zero, List.set_cons_succ]
      refine wpAnyH_done (by kernel_rfl) ?_ _
      clear hHeld
      have hb9 : But mp mp wy w9 := (But.of_below (Below.refl _ _).drew).trans HG9.out
      have hF9 : FMAt w9 q mp mt A T ⟨updP m.has a x, updP m.is a (y &&& zz), m.tmp⟩ := ⟨hb9.cellOf HFY.out.c0 e0 e0, hb9.cellOf HFY.out.c1 e0 e0, HP9.out, HFY.out.tm.of_block (hb9.block mt HFY.out.tm.lt (Ne.symm HFY.out.n3) (Ne.symm HFY.out.n3)), HFY.out.n1, HFY.out.n2, HFY.out.n3⟩
      have hbw : Below w.heap.size w w9 := own_bel2 (step_below HBY.out HBR.out) hb9 hple hple
      have hbs9 : BegS B N A (j + 1) 0 ⟨updP m.has a x, updP m.is a (y &&& zz), m.tmp⟩ := HBS.out.place hjl HA.out HX.out (fun k => by rw [bits_and, HY.out, HZZ.out]; exact ⟨fun h => ⟨h.1.1, h.1.2, h.2.2⟩, fun h => ⟨⟨h.1, h.2.1⟩, h.1, h.2.2⟩⟩)
      have HF9 : Hid (FMAt w9 q mp mt A T ⟨updP m.has a x, updP m.is a (y &&& zz), m.tmp⟩) := hF9
      have HBW : Hid (Below w.heap.size w w9) := hbw
      have HBS9 : Hid (BegS B N A (j + 1) 0 ⟨updP m.has a x, updP m.is a (y &&& zz), m.tmp⟩) := hbs9
      clear hb9 hF9 hbw hbs9
      have hgk := HGK.out
      go_wp2_with fail
      go_roundg (gk - 1)
      case measure => omega
      case rel => exact ⟨j + 1, _, by go_num, by omega, by omega, HF9.out, HBS9.out, HBW.out⟩
    · obtain rfl : j = A.length := by omega
      have hjz : ¬ (A.length : Int) < (A.length : Int) := by omega
      obtain ⟨w5, hw5⟩ : ∃ w5, w5 = wr := ⟨_, rfl⟩
      subst hw5
      have p0 := HWR.out.stat.p0
      have hgq5 := cell_lt p0
      go_wp2
      go_loopg [8, 9, 48] (B.length + 1) (fun gg v8 v9 v wr => ∃ (j : Nat) (m : FM), v = .int .i64 j ∧ j ≤ B.length ∧ gg = B.length + 1 - j ∧ FMAt wr q mp mt A T m ∧ BegS B N A A.length j m ∧ Below w.heap.size w wr)
      case atStart => exact ⟨0, m, rfl, by omega, by omega, HFR.out, HBS.out, HBR.out⟩
      case round =>
        clear HGK HFR HBS HBR HWR p0 hgq5 hwr hsz
        obtain ⟨j, m, rfl, hj, hgk, hfr, hbs, hbr⟩ := hrel
        have HGK : Hid (gk = B.length + 1 - j) := hgk
        have HFR : Hid (FMAt wr q mp mt A T m) := hfr
        have HBS : Hid (BegS B N A A.length j m) := hbs
        have HBR : Hid (Below w.heap.size w wr) := hbr
        have x0 := hfr.c1
        have e5 : q ≠ mt := hfr.n2
        by_cases hjl : j < B.length
        · have hjz : (j : Int) < (B.length : Int) := by omega
          have hst := (HW.out.below hbr).stat
          have y0 := hst.held.wide j hjl
          obtain ⟨wd, hwd⟩ : ∃ b, b = B.getD j false := ⟨_, rfl⟩
          rw [← hwd] at y0
          have hbl := cell_lt y0
          have HWD : Hid (wd = B.getD j false) := hwd
          have hn12 : T.length < maxLen := by unfold maxLen; omega
          obtain ⟨w9, hrun, hp9, hg9⟩ := hfr.tm.put hn12 (t := (j : Int)) ⟨by omega, by omega⟩ ((HT.out _).2 ⟨by omega, by omega⟩) zz
          have HP9 : Hid (TMap w9 mt T (updT m.tmp j zz)) := hp9
          have HG9 : Hid (But mt mt wr w9) := grown_but hg9
          clear hgk hfr hbs hbr hst hwd hp9 hg9
          rcases Bool.eq_false_or_eq_true wd with hc | hc
          · subst hc
            go_wp2
            have hgk := HGK.out
            go_roundg (gk - 1)
            case measure => omega
            case rel => exact ⟨j + 1, m, by go_num, by omega, by omega, HFR.out, HBS.out.skip HWD.out.symm, HBR.out⟩
          · subst hc
            go_wp2
            have hgk := HGK.out
            go_roundg (gk - 1)
            case measure => omega
            case rel =>
              have hb9 := HG9.out
              exact ⟨j + 1, ⟨m.has, m.is, updT m.tmp j zz⟩, by go_num, by omega, by omega, ⟨hb9.cellOf HFR.out.c0 e5 e5, hb9.cellOf HFR.out.c1 e5 e5, HFR.out.pm.of_block (hb9.block mp HFR.out.pm.lt HFR.out.n3 HFR.out.n3), HP9.out, HFR.out.n1, HFR.out.n2, HFR.out.n3⟩, HBS.out.temp HZZ.out HWD.out.symm, own_bel2 HBR.out hb9 htle htle⟩
        · obtain rfl : j = B.length := by omega
          have hjz : ¬ (B.length : Int) < (B.length : Int) := by omega
          clear hgk hfr hbs hbr
          go_wp2
          go_ret
          exact ⟨q, mp, mt, m, rfl, hqle, hple, htle, HFR.out, HBS.out, HBR.out⟩
end Go.Proofs.YtcmnmogmdhofcabGreat.form

/- What is known ahead of each instruction (world.ahead). -/
namespace Go.Proofs.YtcmnmogmdhofcabGreat.form
open Go.RowKit Go.Maps
set_option linter.unusedVariables false
set_option maxRecDepth 100000
attribute [local go_sem ↓] Go.wp_at_zero Go.wp_at_succ

theorem made_nil (n : Nat) : madeCells #[Value.pointer none] n = (List.replicate n (Value.pointer none)).toArray := by
  apply Array.ext'
  rw [toList_madeCells_one]
theorem infoFacts : (Tryz.prog.info? 58).map (fun i => (i.zero, i.size, i.bytes)) = some (some (.pointer none), 1, 8) := by kernel_rfl
theorem all_none (w : World) (lim n : Nat) (ty : TypeId) (hl : lim ≤ w.heap.size) (A : List LPlace) (T : List Int) (Q : Nat → Nat × Nat × Nat) : AllAt (w.alloc (.cells (madeCells #[.pointer none] n) ty)) lim w.heap.size A T (List.replicate n none) Q := by
  have hno : ∀ k m, (List.replicate n (none : Option FM)).getD k none = some m → False := fun k m h => by
    by_cases hk : k < n
    · simp [List.getD, hk] at h
    · simp [List.getD, List.getElem?_eq_none (show (List.replicate n (none : Option FM)).length ≤ k by simp; omega)] at h
  refine ⟨hl, by simp, fun k hk => ?_, fun k hk => by simp [go_sem], fun k m h => (hno k m h).elim, fun k m h => (hno k m h).elim, fun k m h => (hno k m h).elim, fun k l m m' _ h => (hno k m h).elim⟩
  have hk' : k < n := by simpa using hk
  have e : pvO (List.replicate n none) Q k = .pointer none := by
    unfold pvO
    have : (List.replicate n (none : Option FM)).getD k none = none := by simp [List.getD, hk']
    rw [this]
  rw [e, made_nil]
  simp [go_sem, hk']

def AheadAns (B : List Bool) (C : List LIns) (s slots : Nat) (R : List LRow) (N : List Int) (lim : Nat) (A : List LPlace) (T : List Int) (w : World) (e : Ending) (w' : World) : Prop :=
  ∃ ab F Q, e = .returned (.slice (some ⟨ab, 0, none⟩) C.length C.length) ∧ AllAt w' lim ab A T F Q ∧ FoundB B C s slots R N F ∧ Below lim w w'

set_option maxHeartbeats 1600000 in
theorem aheadW {w : World} {lim : Nat} {g : WB} {B : List Bool} {C : List LIns} {R : List LRow} {A : List LPlace} {N : List Int} {s slots : Nat} (hW : WorldAt w lim g B C R A N) (hD : Dims B C s slots A N) (hnd : A.Nodup) (hib : ∀ k, k < C.length → insB B C.length (C.getD k .zero) = true) (hio : ∀ k, k < C.length → InsOk B.length C.length (C.getD k .zero)) (hrb : ∀ k, k < C.length → rowB B s slots (C.getD k .zero) (R.getD k .zero) = true) (hRl : R.length = C.length) (T : List Int) (hT : ∀ t, t ∈ T ↔ 0 ≤ t ∧ t < B.length) (hTl : T.length ≤ 12) :
    Calls Tryz.prog 16 #[.pointer (some ⟨g.q, 0, none⟩)] w fun e w' => AheadAns B C s slots R N lim A T w e w' := by
  have hc1 := hD.c1
  have hc40 := hD.c40
  have hc40z : (C.length : Int) ≤ 40 := by omega
  have hc1z : (1 : Int) ≤ (C.length : Int) := by omega
  have HW : Hid (WorldAt w lim g B C R A N) := hW
  have HD : Hid (Dims B C s slots A N) := hD
  have HND : Hid (A.Nodup) := hnd
  have HT : Hid (∀ t, t ∈ T ↔ 0 ≤ t ∧ t < B.length) := hT
  have HIB : Hid (∀ k, k < C.length → insB B C.length (C.getD k .zero) = true) := hib
  have HIO : Hid (∀ k, k < C.length → InsOk B.length C.length (C.getD k .zero)) := hio
  have HRB : Hid (∀ k, k < C.length → rowB B s slots (C.getD k .zero) (R.getD k .zero) = true) := hrb
  have HRL : Hid (R.length = C.length) := hRl
  have hle := hW.le
  have p1 := hW.stat.p1
  have hgq := cell_lt p1
  have hmk := fun wx => run_make_row' (P := Tryz.prog) 56 58 (.pointer none) 8 Tryz.underlying56 infoFacts rfl .i64 .i64 C.length (by omega) (by omega) wx
  clear hW hD hnd hT hib hio hrb hRl
  go_enter Tryz.func16, Tryz.ntmps16
  go_upto_region 2 with fail
  obtain ⟨w1, hw1⟩ : ∃ w1, w1 = w.alloc (.cells (madeCells #[.pointer none] C.length) 58) := ⟨_, rfl⟩
  have hb1 : Below w.heap.size w w1 := by rw [hw1]; exact (Below.refl _ _).alloc (Nat.le_refl _) _
  have hA1 : AllAt w1 lim w.heap.size A T (List.replicate C.length none) (fun _ => (0, 0, 0)) := by rw [hw1]; exact all_none w lim C.length _ hle A T _
  have hz1 : w1.heap.size = w.heap.size + 1 := by rw [hw1]; simp
  rw [← hw1]
  clear hw1
  have HB1 : Hid (Below w.heap.size w w1) := hb1
  have HA1 : Hid (AllAt w1 lim w.heap.size A T (List.replicate C.length none) (fun _ => (0, 0, 0))) := hA1
  have c0 := hA1.cell 0 (by simp; omega)
  have f0 := hA1.free 0 (by simp; omega)
  have hlt := hA1.lt
  have c := beginW (HW.out.below hb1) HD.out T HT.out hTl
  clear hb1 hA1 hz1 hmk
  go_wp2_with (go_at_call 41; refine c.mono ?_; rintro e w2 ⟨q, mp, mt, m, rfl, hq, hp, ht, hf, hbs, hb2⟩; have HF2 : Hid (FMAt w2 q mp mt A T m) := hf; have HBS : Hid (BegS B N A A.length B.length m) := hbs; have HB2 : Hid (Below w1.heap.size w1 w2) := hb2; have c1 := step_cell hb2 c0; have f1 := step_frozen hb2 hlt f0; have hlt1 := cell_lt c1; clear hf hbs hb2)
  clear c c0 f0
  have hrl : (List.replicate C.length (none : Option FM)).length = C.length := by simp
  have hput := HA1.out.put (Nat.le_trans hle HB1.out.size) (x := 0) (by rw [hrl]; omega) (by simp [List.getD, show 0 < C.length by omega]) HB2.out HF2.out hq hp ht
  have hit : BIt B C s slots R N ((List.replicate C.length none).set 0 (some m)) := HBS.out.it HD.out _ (by simp) (by rw [getD_setO (by rw [hrl]; omega), if_pos rfl]) (fun k hk => by
    rw [getD_setO (by rw [hrl]; omega), if_neg hk]
    by_cases h : k < C.length
    · simp [List.getD, h]
    · simp [List.getD, List.getElem?_eq_none (show (List.replicate C.length (none : Option FM)).length ≤ k by simp; omega)])
  obtain ⟨F0, hF0⟩ : ∃ F0, F0 = (List.replicate C.length (none : Option FM)).set 0 (some m) := ⟨_, rfl⟩
  obtain ⟨Q0, hQ0⟩ : ∃ Q0, Q0 = (fun k => if k = 0 then (q, mp, mt) else ((fun _ => (0, 0, 0)) : Nat → Nat × Nat × Nat) k) := ⟨_, rfl⟩
  obtain ⟨w3, hw3⟩ : ∃ w3, w3 = w2.setCell ⟨w.heap.size, 0, none⟩ (.pointer (some ⟨q, 0, none⟩)) := ⟨_, rfl⟩
  rw [← hF0] at hput hit
  rw [← hw3] at hput ⊢
  have hA3 : AllAt w3 lim w.heap.size A T F0 Q0 := by rw [hQ0]; exact hput.1
  have hb3 : Below lim w w3 := (HB1.out.mono hle).trans (hput.2.toBelow HA1.out (Nat.le_trans hle HB1.out.size))
  have HA3 : Hid (AllAt w3 lim w.heap.size A T F0 Q0) := hA3
  have HB3 : Hid (Below lim w w3) := hb3
  have HIT : Hid (BIt B C s slots R N F0) := hit
  clear hput hit hF0 hQ0 hw3 hA3 hb3 c1 f1 hrl
  go_loopg [17] (muA A B.length F0) (fun gg v17 wr => ∃ F Q, AllAt wr lim w.heap.size A T F Q ∧ BIt B C s slots R N F ∧ Below lim w wr ∧ gg = muA A B.length F)
  case atStart => exact ⟨F0, Q0, HA3.out, HIT.out, HB3.out, rfl⟩
  case round =>
    clear HA3 HB3 HIT
    obtain ⟨F, Q, hA, hI, hB, hgk⟩ := hrel
    have HA : Hid (AllAt wr lim w.heap.size A T F Q) := hA
    have HI : Hid (BIt B C s slots R N F) := hI
    have HB : Hid (Below lim w wr) := hB
    have HGK : Hid (gk = muA A B.length F) := hgk
    have c := spreadW (HW.out.keep hB) HD.out HND.out HIB.out HIO.out HRB.out HRL.out T HT.out hTl w.heap.size F Q hA hI C.length
    clear hA hI hB hgk
    go_upto_if 17 with (go_at_call 42; refine c.mono ?_; rintro e w4 ⟨ch, F', Q', rfl, hA4, hB4, hP4⟩; have HA4 : Hid (AllAt w4 lim w.heap.size A T F' Q') := hA4; have HB4 : Hid (Below lim w w4) := HB.out.trans hB4; have HP4 : Hid (PassB B C s slots R N A F F' (fun k x => k < C.length ∧ x ∈ nextsN (C.getD k .zero) k ∧ x < C.length) ch) := hP4; clear hA4 hB4 hP4)
    rcases Bool.eq_false_or_eq_true ch with hc | hc
    · subst hc
      go_wp2
      have hgk := HGK.out
      have hless := HP4.out.less rfl
      go_roundg (muA A B.length F')
      case measure => omega
      case rel => exact ⟨F', Q', HA4.out, HP4.out.it, HB4.out, rfl⟩
    · subst hc
      go_wp2
      go_ret
      exact ⟨w.heap.size, F', Q', rfl, HA4.out, found_all HD.out.num HP4.out.it (HP4.out.done (fun k x a b c => ⟨a, b, c⟩)), HB4.out⟩
end Go.Proofs.YtcmnmogmdhofcabGreat.form

/- What the document's run (loanbookref3.Play) shows: the machine on plain numbers, so many steps. -/
namespace Go.Proofs.YtcmnmogmdhofcabGreat.form
open Go.RowKit Go.Proofs.YtcmnmogmdhofcabGreat.num
set_option linter.unusedVariables false
attribute [local go_sem ↓] Go.wp_at_zero Go.wp_at_succ

structure PS (w : World) (b0 o0 c0 b1 o1 c1 : Nat) (B : List Bool) (C : List LIns) (ts : List Int) (v : Value) (l : List Int) (st k : Int) (wr : World) : Prop where
  bel : Below w.heap.size w wr
  p0 : wr.cell? ⟨w.heap.size, 0, none⟩ = some (.slice (some ⟨b0, o0, none⟩) B.length c0)
  p1 : wr.cell? ⟨w.heap.size, 1, none⟩ = some (.slice (some ⟨b1, o1, none⟩) C.length c1)
  res : Row wr (w.heap.size + 1) 44 [.int .i64 0, .slice none 0 0, .int .i64 0]
  sh : Row wr (w.heap.size + 1 + 1) 44 [.int .i64 st, v, .int .i64 k]
  tm : Row wr (w.heap.size + 1 + 1 + 1) 77 (ts.map (Value.int .u64))
  own : wr.ownsRow (w.heap.size + 4) 33 1 v l.length (l.map (Value.int .u32))

section
variable {w : World} {b0 o0 c0 b1 o1 c1 : Nat} {B : List Bool} {C : List LIns} {ts : List Int} {v : Value} {l : List Int} {st k : Int} {wr w1 : World}

theorem PS.sz (h : PS w b0 o0 c0 b1 o1 c1 B C ts v l st k wr) : w.heap.size + 4 ≤ wr.heap.size := h.tm.lt
theorem PS.ownNe (h : PS w b0 o0 c0 b1 o1 c1 B C ts v l st k wr) {b : Nat} (hb : b < w.heap.size + 4) : v.ownBlock ≠ some b := fun e => by have := (World.ownsRow.lt h.own _ e).1; omega

theorem own_below {base : Nat} {e : TypeId} {n : Nat} {xs : List Value} (h : wr.ownsRow base e 1 v n xs) (hb : Below wr.heap.size wr w1) : w1.ownsRow base e 1 v n xs :=
  World.ownsRow.kept h ⟨hb.os, hb.tape, hb.output, hb.size, fun j hj _ => hb.block j hj⟩ (row := none) (by cases v.ownBlock <;> simp)

theorem PS.below (h : PS w b0 o0 c0 b1 o1 c1 B C ts v l st k wr) (hb : Below wr.heap.size wr w1) : PS w b0 o0 c0 b1 o1 c1 B C ts v l st k w1 :=
  ⟨step_below hb h.bel, step_cell hb h.p0, step_cell hb h.p1, h.res.below hb, h.sh.below hb, h.tm.below hb, own_below h.own hb⟩

theorem PS.push (h : PS w b0 o0 c0 b1 o1 c1 B C ts v l st k wr) {x : Int} {o : Obj} {g cap : Nat}
    (hown : w1.ownsRow (w.heap.size + 4) 33 1 (.slice (some ⟨g, 0, none⟩) (l.length + 1) cap) (l.length + 1) (l.map (Value.int .u32) ++ [.int .u32 x])) (hgrow : (wr.alloc o).grownBy w1 v.ownBlock) :
    PS w b0 o0 c0 b1 o1 c1 B C ts (.slice (some ⟨g, 0, none⟩) (l.length + 1) cap) (l ++ [x]) st k (w1.setCell ⟨w.heap.size + 1 + 1, 1, none⟩ (.slice (some ⟨g, 0, none⟩) (l.length + 1) cap)) := by
  have hz := h.sz
  have hz1 : (wr.alloc o).heap.size = wr.heap.size + 1 := by simp
  have hbl : Below w.heap.size w w1 := (h.bel.alloc (by omega) o).grown hgrow (by omega) (fun j hj => by have := (World.ownsRow.lt h.own _ hj).1; omega)
  have far : ∀ b, b < w.heap.size + 4 → ∀ off u, wr.cell? ⟨b, off, none⟩ = some u → w1.cell? ⟨b, off, none⟩ = some u := by
    intro b hb off u hc
    rw [hgrow.cell_far ⟨b, off, none⟩ (by show b < (wr.alloc o).heap.size; omega) (Ne.symm (h.ownNe hb))]
    exact step_cell ((Below.refl _ _).alloc (Nat.le_refl _) o) hc
  have hgb : w.heap.size + 4 ≤ g := (World.ownsRow.lt hown g rfl).1
  refine ⟨hbl.setCell (by simp; omega) _, cell_other (far _ (by omega) _ _ h.p0) (by simp; omega), cell_other (far _ (by omega) _ _ h.p1) (by simp; omega), ?_, ?_, ?_, ?_⟩
  · exact ((h.res.alloc o).grown hgrow (Ne.symm (h.ownNe (by omega)))).other (by simp) _
  · exact ((h.sh.alloc o).grown hgrow (Ne.symm (h.ownNe (by omega)))).set 1 _
  · exact ((h.tm.alloc o).grown hgrow (Ne.symm (h.ownNe (by omega)))).other (by simp) _
  · have := ownsRow_setCell_other (a := ⟨w.heap.size + 1 + 1, 1, none⟩) hown (by simp [Value.ownBlock]; omega) (.slice (some ⟨g, 0, none⟩) (l.length + 1) cap)
    simpa using this
end
theorem infoU32 : (Tryz.prog.info? 33).map (fun i => (i.zero, i.size, i.bytes)) = some (some (.int .u32 0), 1, 4) := by kernel_rfl

end Go.Proofs.YtcmnmogmdhofcabGreat.form

/- The numbers of a program (loanbookref8.numbers): rising, each once. -/
namespace Go.Proofs.YtcmnmogmdhofcabGreat.form
open Go.RowKit Go.Proofs.YtcmnmogmdhofcabGreat.num
set_option linter.unusedVariables false
attribute [local go_sem ↓] Go.wp_at_zero Go.wp_at_succ

theorem own_set {w : World} {base : Nat} {e : TypeId} {g cap n : Nat} {xs : List Value} (h : w.ownsRow base e 1 (.slice (some ⟨g, 0, none⟩) n cap) n xs) {i : Nat} (hi : i < n) (u : Value) :
    (w.setCell ⟨g, i, none⟩ u).ownsRow base e 1 (.slice (some ⟨g, 0, none⟩) n cap) n (xs.set i u) := by
  refine ⟨by simp [h.1], ?_⟩
  rcases h.2 with ⟨hn, _⟩ | ⟨g', cap', cur, hv, hb, hgg, h1, h2, h3, h4⟩
  · exact absurd hn (by simp)
  · simp at hv
    obtain ⟨rfl, rfl⟩ := hv
    refine .inr ⟨g, cap, cur.setIfInBounds i u, rfl, hb, ?_, h1, h2, by simp [h3], ?_⟩
    · rw [heap_setCell_same w g i cur e u hgg]
    · simp only [Array.toList_setIfInBounds]
      rw [List.take_set, h4]
theorem own_cell {w : World} {base : Nat} {e : TypeId} {g cap n : Nat} {xs : List Value} (h : w.ownsRow base e 1 (.slice (some ⟨g, 0, none⟩) n cap) n xs) {i : Nat} (hi : i < n) : w.cell? ⟨g, i, none⟩ = xs[i]? := by
  rw [World.ownsRow.cellAt h i (by have := h.1; omega)]
theorem own_frozen {w : World} {base : Nat} {e : TypeId} {g cap n : Nat} {xs : List Value} (h : w.ownsRow base e 1 (.slice (some ⟨g, 0, none⟩) n cap) n xs) (i : Nat) : w.frozen? ⟨g, i, none⟩ = false := by
  rcases h.2 with ⟨hn, _⟩ | ⟨g', cap', cur, hv, hb, hgg, h1, h2, h3, h4⟩
  · exact absurd hn (by simp)
  · simp at hv
    obtain ⟨rfl, rfl⟩ := hv
    simp [World.frozen?, hgg]

structure NuS (w : World) (b1 o1 c1 nC : Nat) (l : List Int) (v : Value) (wr : World) : Prop where
  bel : Below w.heap.size w wr
  p1 : wr.cell? ⟨w.heap.size, 1, none⟩ = some (.slice (some ⟨b1, o1, none⟩) nC c1)
  own : wr.ownsRow (w.heap.size + 1) 33 1 v l.length (l.map (Value.int .u32))

section
variable {w : World} {b1 o1 c1 nC : Nat} {l : List Int} {v : Value} {wr w1 : World}
theorem NuS.below (h : NuS w b1 o1 c1 nC l v wr) (hb : Below wr.heap.size wr w1) : NuS w b1 o1 c1 nC l v w1 := ⟨step_below hb h.bel, step_cell hb h.p1, own_below h.own hb⟩
theorem NuS.ownNe (h : NuS w b1 o1 c1 nC l v wr) {b : Nat} (hb : b < w.heap.size + 1) : v.ownBlock ≠ some b := fun e => by have := (World.ownsRow.lt h.own _ e).1; omega
theorem NuS.push (h : NuS w b1 o1 c1 nC l v wr) {g cap : Nat} {y : Int} (hz : w.heap.size + 1 ≤ wr.heap.size)
    (hown : w1.ownsRow (w.heap.size + 1) 33 1 (.slice (some ⟨g, 0, none⟩) (l.length + 1) cap) (l.length + 1) (l.map (Value.int .u32) ++ [.int .u32 y])) (hgrow : wr.grownBy w1 v.ownBlock) :
    NuS w b1 o1 c1 nC (l ++ [y]) (.slice (some ⟨g, 0, none⟩) (l.length + 1) cap) w1 :=
  ⟨h.bel.grown hgrow (by omega) (fun j hj => by have := (World.ownsRow.lt h.own _ hj).1; omega), by rw [hgrow.cell_far _ (by dsimp only; omega) (Ne.symm (h.ownNe (by dsimp only; omega)))]; exact h.p1, by simpa using hown⟩
theorem NuS.set {g cap : Nat} (h : NuS w b1 o1 c1 nC l (.slice (some ⟨g, 0, none⟩) l.length cap) wr) {i : Nat} (hi : i < l.length) (x : Int) : NuS w b1 o1 c1 nC (l.set i x) (.slice (some ⟨g, 0, none⟩) l.length cap) (wr.setCell ⟨g, i, none⟩ (.int .u32 x)) := by
  have hg : w.heap.size + 1 ≤ g := (World.ownsRow.lt h.own g rfl).1
  refine ⟨h.bel.setCell (by show w.heap.size ≤ g; omega) _, cell_other h.p1 (by show w.heap.size ≠ g; omega), ?_⟩
  have := own_set h.own hi (.int .u32 x)
  simpa [List.map_set] using this
theorem NuS.form (h : NuS w b1 o1 c1 nC l v wr) (hl : 0 < l.length) : ∃ g cap, v = .slice (some ⟨g, 0, none⟩) l.length cap ∧ w.heap.size + 1 ≤ g ∧ g < wr.heap.size ∧ ∀ j, j < l.length → wr.cell? ⟨g, j, none⟩ = some (.int .u32 (l.getD j 0)) := by
  obtain ⟨g, cap, rfl, hbg, hlt⟩ := h.own.form hl
  refine ⟨g, cap, rfl, hbg, hlt, fun j hj => ?_⟩
  rw [World.ownsRow.cellAt h.own j (by omega)]
  simp [List.getD, hj]
end
end Go.Proofs.YtcmnmogmdhofcabGreat.form

/- The numbers of a program, rising (check.numbersOf). -/
namespace Go.Proofs.YtcmnmogmdhofcabGreat.form
open Go.RowKit
set_option linter.unusedVariables false
set_option maxRecDepth 100000
attribute [local go_sem ↓] Go.wp_at_zero Go.wp_at_succ

def numsTo (C : List LIns) (k : Nat) : List Int := 0 :: ((C.take k).filter (fun i => i.op == 1)).map (·.n)
theorem numsTo_len (C : List LIns) (k : Nat) : (numsTo C k).length ≤ k + 1 := by
  unfold numsTo
  have := List.length_filter_le (fun i : LIns => i.op == 1) (C.take k)
  simp at this ⊢
  omega
theorem numsTo_step {C : List LIns} {k : Nat} (hk : k < C.length) : numsTo C (k + 1) = numsTo C k ++ (if (C.getD k .zero).op = 1 then [(C.getD k .zero).n] else []) := by
  have e : C.take (k + 1) = C.take k ++ [C.getD k .zero] := by rw [List.take_succ_eq_append_getElem hk]; simp [List.getD, hk]
  unfold numsTo
  rw [e, List.filter_append, List.map_append]
  obtain ⟨i, hi⟩ : ∃ i, i = C.getD k .zero := ⟨_, rfl⟩
  rw [← hi]
  by_cases h : i.op = 1
  · simp [List.filter, h]
  · have h2 : (i.op == 1) = false := by simpa using h
    simp [List.filter, h, h2]
theorem numsTo_mem {C : List LIns} {x : Int} : x ∈ numsTo C C.length ↔ NumP C x := by
  unfold numsTo NumP
  rw [List.take_length]
  simp only [List.mem_cons, List.mem_map, List.mem_filter, beq_iff_eq]
  refine or_congr Iff.rfl ?_
  constructor
  · rintro ⟨i, ⟨hi, h1⟩, h2⟩
    obtain ⟨k, hk, he⟩ := List.mem_iff_getElem.1 hi
    exact ⟨k, hk, by simp [List.getD, hk, he, h1], by simp [List.getD, hk, he, h2]⟩
  · rintro ⟨k, hk, h1, h2⟩
    refine ⟨C.getD k .zero, ⟨by simp [List.getD, hk], h1⟩, h2⟩

def NumsAt (w : World) (lo : Nat) (v : Value) (N : List Int) : Prop := ∃ b cap, v = .slice (some ⟨b, 0, none⟩) N.length cap ∧ lo ≤ b ∧ b < w.heap.size ∧ ∀ j, j < N.length → w.cell? ⟨b, j, none⟩ = some (.int .u32 (N.getD j 0))
structure NumsOk (C : List LIns) (N : List Int) : Prop where
  one : 1 ≤ N.length
  le : N.length ≤ C.length + 1
  inc : N.Pairwise (· < ·)
  num : NumsOf C N
def NumsAns (C : List LIns) (w : World) (e : Ending) (w' : World) : Prop := ∃ v N, e = .returned v ∧ NumsAt w' w.heap.size v N ∧ NumsOk C N ∧ Below w.heap.size w w'

theorem nums_ok {C : List LIns} {E : List Int} {d d' : Array Int} (hd : d.toList = numsTo C C.length) (hp : Go.Sort.PermIn 0 d.size d d') (h1 : 1 ≤ E.length) (hle : E.length ≤ d'.size) (hinc : E.Pairwise (· < ·)) (hm : ∀ x, x ∈ E ↔ ∃ j, j < d'.size ∧ d'[j]! = x) : NumsOk C E := by
  have hs : d'.size = d.size := hp.1
  have hperm : d'.toList.Perm d.toList := by
    have h := hp.2.2
    have e1 : d.extract 0 d.size = d := by simp
    have e2 : d'.extract 0 d.size = d' := by rw [← hs]; simp
    rw [e1, e2] at h
    exact h
  have hdl : d.size = (numsTo C C.length).length := by rw [← hd]; simp
  refine ⟨h1, by have := numsTo_len C C.length; omega, hinc, fun x => ?_⟩
  have hx : x ∈ E ↔ NumP C x := by
    rw [hm, ← numsTo_mem, ← hd, ← hperm.mem_iff]
    constructor
    · rintro ⟨j, hj, rfl⟩
      rw [getElem!_pos d' j hj]
      simp
    · intro h
      obtain ⟨j, hj, he⟩ := List.mem_iff_getElem.1 h
      refine ⟨j, by simpa using hj, ?_⟩
      rw [getElem!_pos d' j (by simpa using hj), ← he]
      simp
  rw [← hx]
  constructor
  · rintro ⟨k, hk, rfl⟩
    unfold nAt
    simp [List.getD, hk]
  · intro h
    obtain ⟨k, hk, he⟩ := List.mem_iff_getElem.1 h
    exact ⟨k, hk, by unfold nAt; simp [List.getD, hk, he]⟩
theorem own_holds {w : World} {base g cap : Nat} {l : List Int} (h : w.ownsRow base 33 1 (.slice (some ⟨g, 0, none⟩) l.length cap) l.length (l.map (Value.int .u32))) : Go.Sort.Holds sortu.encU w g 0 l.toArray := by
  intro j hj
  have hj' : j < l.length := by simpa using hj
  refine ⟨?_, ?_⟩
  · rw [Nat.zero_add, own_cell h hj']
    simp [hj']
  · rw [Nat.zero_add]; exact own_frozen h j

theorem own_cap {w : World} {base g cap n size : Nat} {e : TypeId} {xs : List Value} (h : w.ownsRow base e size (.slice (some ⟨g, 0, none⟩) n cap) n xs) : n ≤ cap := by
  rcases h.2 with ⟨hn, _⟩ | ⟨g', cap', cur, hv, _, _, h1, _⟩
  · cases hn
  · injection hv with _ _ h3
    omega

set_option maxHeartbeats 1600000 in
theorem numbersOfO (b0 o0 c0 b1 o1 c1 : Nat) (B : List Bool) (C : List LIns) (w : World) (hC : C.length ≤ 40) (h : Held w b0 o0 b1 o1 B C) :
    Calls Tryz.prog 40 #[progV b0 o0 B.length c0 b1 o1 C.length c1] w fun e w' => NumsAns C w e w' := by
  have y2 : (C.length : Int) ≤ 40 := by omega
  have HH : Hid (Held w b0 o0 b1 o1 B C) := h
  have hlt1 := h.lt1
  clear h
  unfold progV
  go_enter Tryz.func40, Tryz.ntmps40
  go_wp2
  go_loopg [3, 5, 10] (C.length + 1) (fun gg v3 v5 v wr => ∃ (k : Nat), v = .int .i64 k ∧ k ≤ C.length ∧ gg = C.length + 1 - k ∧ NuS w b1 o1 c1 C.length (numsTo C k) v3 wr)
  case atStart =>
    refine ⟨0, rfl, by omega, by omega, ((Below.refl _ _).alloc (Nat.le_refl _) _).alloc (by simp) _, by simp [go_sem], ?_⟩
    refine ⟨rfl, .inr ⟨w.heap.size + 1, 1, #[.int .u32 0], rfl, by omega, ?_, by simp [numsTo], by unfold maxLen; omega, rfl, rfl⟩⟩
    have := heap_alloc_new (w.alloc (.cells #[.slice (some ⟨b0, o0, none⟩) B.length c0, .slice (some ⟨b1, o1, none⟩) C.length c1] 25)) (.cells #[.int .u32 0] 33)
    simpa using this
  case round =>
    obtain ⟨k, rfl, hk, hgk, hnu⟩ := hrel
    have HGK : Hid (gk = C.length + 1 - k) := hgk
    obtain ⟨l, hl⟩ : ∃ l, l = numsTo C k := ⟨_, rfl⟩
    have HL : Hid (l = numsTo C k) := hl
    have hll : l.length ≤ 41 := by rw [hl]; have := numsTo_len C k; omega
    have hl1 : 1 ≤ l.length := by rw [hl]; simp [numsTo]
    rw [← hl] at hnu
    have HNU : Hid (NuS w b1 o1 c1 C.length l u3 wr) := hnu
    obtain ⟨g, cap, hv, hg1, hg2, hgc⟩ := hnu.form (by omega)
    have hwz := hnu.bel.size
    subst hv
    clear hgk hnu hl hgc
    by_cases hkl : k < C.length
    case neg =>
      obtain rfl : k = C.length := by omega
      have hkz : ¬ (C.length : Int) < (C.length : Int) := by omega
      have hH := own_holds HNU.out.own
      have hsz : l.toArray.size = l.length := by simp
      have hcap : l.length ≤ cap := own_cap HNU.out.own
      have cS := sortu.sortU g 0 cap l.toArray wr hH hg2 (by rw [hsz]; omega)
      rw [hsz] at cS
      have hd0 : l.toArray.toList = numsTo C C.length := by simpa using HL.out
      have HD0 : Hid (l.toArray.toList = numsTo C C.length) := hd0
      have HBR : Hid (Below w.heap.size w wr) := HNU.out.bel
      clear hH hsz HNU HGK hd0
      go_upto_region 9 with (go_at_call 65; refine cS.mono ?_; rintro e w1 ⟨rfl, d', h1, h2, h3⟩; have H1 : Hid (sortu.Row wr g 0 d' w1) := h1; have H2 : Hid (Go.Sort.PermIn 0 l.length l.toArray d') := h2; have H3 : Hid (Go.Sort.SortedIn Go.Sort.ltInt 0 l.length d') := h3; clear h1 h2 h3)
      have hsd : d'.size = l.length := by have := H2.out.1; simpa using this
      have hso := H3.out
      have c := sortu.compactU g 0 cap d' w1 H1.out.holds (by omega) (by omega) (by omega) (by rw [hsd]; exact hso)
      rw [hsd] at c
      have HSD : Hid (d'.size = l.length) := hsd
      clear cS hso hsd
      go_wp2_with (go_at_call 66; refine c.mono ?_; rintro e w2 ⟨E, rfl, hon⟩; have HON : Hid (sortu.Once w1 g 0 cap d' E w2) := hon; clear hon)
      go_ret
      have hon := HON.out
      have hb1 : Below w.heap.size w w1 := HBR.out.grown H1.out.grown (by omega) (fun j hj => by cases hj; omega)
      have hs1 := hb1.size
      have hb2 : Below w.heap.size w w2 := hb1.grown hon.grown (by omega) (fun j hj => by cases hj; omega)
      have hlt2 : g < w2.heap.size := by have := H1.out.grown.size; have := hon.grown.size; omega
      refine ⟨_, E, rfl, ⟨g, cap, rfl, by omega, hlt2, fun j hj => by have := hon.cells j hj; rwa [Nat.zero_add] at this⟩, nums_ok HD0.out (by have := H2.out; simpa using this) hon.one hon.le hon.inc hon.mem, hb2⟩
    have hkz : (k : Int) < (C.length : Int) := by omega
    obtain ⟨d0, d1, d2, d3, d4, d5⟩ := (HH.out.later HNU.out.bel).code k hkl
    obtain ⟨i, hi⟩ : ∃ i, i = C.getD k .zero := ⟨_, rfl⟩
    rw [← hi] at d0 d1 d2 d3 d4 d5
    have HI : Hid (i = C.getD k .zero) := hi
    clear hi
    have hlt1r : b1 < wr.heap.size := by omega
    by_cases hop : i.op = 1
    · have hop1 : (i.op == 1) = true := by simp [hop]
      have HOP : Hid (i.op = 1) := hop
      clear hop
      obtain ⟨t0', hi0, hy0, hy1, hy2⟩ := info_parts infoU32
      go_wp2_with (at_builtin; refine wpList_append_lies _ rfl _ _ 32 rfl (w.heap.size + 1) 33 t0' (.int .u32 0) 1 4 Tryz.underlying32 hi0 hy0 hy1 hy2 rfl (by decide) (.slice (some ⟨g, 0, none⟩) l.length cap) l.length (l.map (Value.int .u32)) rfl (World.ownsRow.alloc (World.ownsRow.alloc HNU.out.own _) _) ⟨wr.heap.size + 1, 0, none⟩ 1 1 [.int .u32 i.n] rfl rfl ?c1 ?c2 (by decide) ?c3 ?c4 ?c5 _ rfl ?_)
      case c1 =>
        intro j u hu
        rcases j with _ | j
        · simp at hu; subst hu; simp [go_sem, Addr.add]
        · simp at hu
      case c2 => simp [Value.oneCell']
      case c3 => unfold maxLen; omega
      case c4 => omega
      case c5 => first | omega | (simp; omega)
      intro g9 cap9 w9 hown hgrow hat hlt9
      have hP := (HNU.out.below (((Below.refl _ _).alloc (Nat.le_refl _) (.cells #[.int .i64 i.op, .int .i64 i.dest, .int .i64 i.a, .int .i64 i.b, .int .i64 i.c, .int .u32 i.n] 35)).alloc (by simp) (.cells #[.int .u32 i.n] 33))).push (by simp; omega) hown hgrow
      have HP : Hid (NuS w b1 o1 c1 C.length (l ++ [i.n]) (.slice (some ⟨g9, 0, none⟩) (l.length + 1) cap9) w9) := hP
      clear hP hown hgrow hat
      go_wp2
      have hgk := HGK.out
      go_roundg (gk - 1)
      case measure => omega
      case rel =>
        refine ⟨k + 1, by go_num, by omega, by omega, ?_⟩
        rw [numsTo_step hkl, ← HI.out, if_pos HOP.out, ← HL.out]
        exact HP.out
    · have hop1 : (i.op == 1) = false := by simp [hop]
      have HOP : Hid (¬ i.op = 1) := hop
      clear hop
      have HP : Hid (NuS w b1 o1 c1 C.length l (.slice (some ⟨g, 0, none⟩) l.length cap) (wr.alloc (.cells #[.int .i64 i.op, .int .i64 i.dest, .int .i64 i.a, .int .i64 i.b, .int .i64 i.c, .int .u32 i.n] 35))) := HNU.out.below ((Below.refl _ _).alloc (Nat.le_refl _) _)
      go_wp2
      have hgk := HGK.out
      go_roundg (gk - 1)
      case measure => omega
      case rel =>
        refine ⟨k + 1, by go_num, by omega, by omega, ?_⟩
        rw [numsTo_step hkl, ← HI.out, if_neg HOP.out, List.append_nil, ← HL.out]
        exact HP.out
end Go.Proofs.YtcmnmogmdhofcabGreat.form
