/- Rows of numbers of 32 bits: slices.Sort; each number once (slices.Compact); where a number is (slices.BinarySearch). -/
import Derived.Lib.SliceRun
import Derived.Deep.CutRange
import Derived.Deep.DeepCutAuto
import Derived.Deep.LoopGhost
import Derived.Test.YtdbjklngnloibabGreatT17
import Derived.Test.YtdbjklngnloibabGreatT11

namespace Go.Proofs.YtdbjklngnloibabGreat.sortu
open Go.RowKit Go.Sort
set_option linter.unusedVariables false
set_option maxRecDepth 100000

set_option maxHeartbeats 4000000 in
theorem sortU (blk off cap : Nat) (d : Array Int) (w : World) (hH : Holds encU w blk off d) (hlt : blk < w.heap.size) (hsz : d.size < 50) :
    Calls Tryz.prog 57 #[.slice (some ⟨blk, off, none⟩) d.size cap] w fun e w' => e = .returned (.tuple #[]) ∧ ∃ d', Row w blk off d' w' ∧ PermIn 0 d.size d d' ∧ SortedIn ltInt 0 d.size d' := by
  have hk : bitsLen d.size ≤ 6 := (bitsLen_le_iff _ 6).2 (by omega)
  have hu : IntKind.u64.wrap (d.size : Int) = d.size := Go.Proofs.YtdbjklngnloibabGreat.form.wrapU (by omega) (by omega)
  have c1 := lenU d.size hsz w
  have c2 := pdqU d.size blk off cap 0 d.size (bitsLen d.size) d d.size w (by omega) rfl hH hlt (by omega) (Nat.le_refl _) hsz (by omega) (by omega) (Or.inl rfl)
  go_enter Tryz.func57, Tryz.ntmps57
  go_wp2_with (first | (go_at_call 83; refine c1.mono ?_; rintro e w' ⟨rfl, hw'⟩; obtain rfl := hw'.symm) | (go_at_call 82; refine c2.mono ?_; rintro e w1 ⟨rfl, d', h1, h2, h3⟩; have H1 : Hid (Row w blk off d' w1) := h1; have H2 : Hid (PermIn 0 d.size d d') := h2; have H3 : Hid (SortedIn ltInt 0 d.size d') := h3; clear h1 h2 h3))
  go_end0
  exact ⟨rfl, d', H1.out, H2.out, H3.out⟩

/-- One store. -/
theorem Row.set {w0 w : World} {blk off : Nat} {d : Array Int} (h : Row w0 blk off d w) {i : Nat} (hi : i < d.size) (x : Int) : Row w0 blk off (d.setIfInBounds i x) (w.setCell ⟨blk, off + i, none⟩ (encU x)) := by
  have e : w.setCell ⟨blk, off + i, none⟩ (encU x) = putRow encU w blk off (d.setIfInBounds i x) := by
    have := putRow_set encU w blk off d i x hi
    rwa [putRow_self encU w blk off d h.holds] at this
  rw [e]
  refine ⟨holds_putRow encU w blk off d _ h.holds (by simp), ?_⟩
  refine ⟨h.grown.os, h.grown.tape, h.grown.output, by rw [size_putRow]; exact h.grown.size, fun k hk hne => ?_⟩
  rw [← h.grown.block k hk hne]
  simp only [putRow, mapBlock, Array.getElem?_modify]
  rw [if_neg (fun e => hne (by rw [e]))]

/-- Of the first m numbers each is once among the first kk; m - 1 is untouched, and what is behind it. -/
structure Cp (d : Array Int) (m kk : Nat) (dk : Array Int) : Prop where
  sz : dk.size = d.size
  k1 : 1 ≤ kk
  km : kk ≤ m
  inc : ∀ j, 1 ≤ j → j < kk → dk[j - 1]! < dk[j]!
  last : dk[kk - 1]! = d[m - 1]!
  mem : ∀ x, (∃ j, j < kk ∧ dk[j]! = x) ↔ (∃ j, j < m ∧ d[j]! = x)
  rest : ∀ j, m - 1 ≤ j → dk[j]! = d[j]!

theorem cp_start (d : Array Int) : Cp d 1 1 d := ⟨rfl, by omega, by omega, fun j h1 h2 => by omega, rfl, fun x => Iff.rfl, fun j _ => rfl⟩
theorem Cp.next {d : Array Int} {m : Nat} (h : Cp d m m d) (hlt : d[m - 1]! < d[m]!) : Cp d (m + 1) (m + 1) d := by
  refine ⟨rfl, by omega, by omega, fun j h1 h2 => ?_, rfl, fun x => Iff.rfl, fun j _ => rfl⟩
  by_cases e : j = m
  · subst e; exact hlt
  · exact h.inc j h1 (by omega)
theorem Cp.same {d : Array Int} {m kk : Nat} {dk : Array Int} (h : Cp d m kk dk) (he : d[m]! = d[m - 1]!) (hm : 1 ≤ m) : Cp d (m + 1) kk dk := by
  refine ⟨h.sz, h.k1, by have := h.km; omega, h.inc, by rw [h.last, Nat.add_sub_cancel, he], fun x => ?_, fun j hj => h.rest j (by omega)⟩
  rw [h.mem]
  constructor
  · rintro ⟨j, hj, hx⟩; exact ⟨j, by omega, hx⟩
  · rintro ⟨j, hj, hx⟩
    by_cases e : j = m
    · subst e; exact ⟨j - 1, by omega, by rw [← he]; exact hx⟩
    · exact ⟨j, by omega, hx⟩
theorem Cp.put {d : Array Int} {m kk : Nat} {dk : Array Int} (h : Cp d m kk dk) (hkm : kk < m) (hm : m < d.size) (hlt : d[m - 1]! < d[m]!) : Cp d (m + 1) (kk + 1) (dk.setIfInBounds kk d[m]!) := by
  have hk := h.k1
  have hsz := h.sz
  have e1 : (dk.setIfInBounds kk d[m]!)[kk]! = d[m]! := getElem!_set_same dk kk _ (by omega)
  have e2 : ∀ j, j ≠ kk → (dk.setIfInBounds kk d[m]!)[j]! = dk[j]! := fun j hj => getElem!_set_other dk kk j _ hj
  refine ⟨by simp [hsz], by omega, by omega, fun j h1 h2 => ?_, by rw [Nat.add_sub_cancel, Nat.add_sub_cancel, e1], fun x => ?_, fun j hj => ?_⟩
  · by_cases e : j = kk
    · subst e
      rw [e1, e2 (j - 1) (by omega), h.last]
      exact hlt
    · rw [e2 j e, e2 (j - 1) (by omega)]
      exact h.inc j h1 (by omega)
  · constructor
    · rintro ⟨j, hj, hx⟩
      by_cases e : j = kk
      · subst e; rw [e1] at hx; exact ⟨m, by omega, hx⟩
      · rw [e2 j e] at hx
        obtain ⟨i, hi, hi2⟩ := (h.mem x).1 ⟨j, by omega, hx⟩
        exact ⟨i, by omega, hi2⟩
    · rintro ⟨j, hj, hx⟩
      by_cases e : j = m
      · subst e; exact ⟨kk, by omega, by rw [e1]; exact hx⟩
      · obtain ⟨i, hi, hi2⟩ := (h.mem x).2 ⟨j, by omega, hx⟩
        exact ⟨i, by omega, by rw [e2 i (by omega)]; exact hi2⟩
  · rw [e2 j (by omega)]
    exact h.rest j (by omega)
theorem sorted_step {d : Array Int} {n m : Nat} (h : SortedIn ltInt 0 n d) (h1 : 1 ≤ m) (hm : m < n) (hne : ¬ d[m]! = d[m - 1]!) : d[m - 1]! < d[m]! := by
  have := h (m - 1) m (by omega) (by omega) hm
  unfold ltInt at this
  simp at this
  omega

/-- The numbers as a list. -/
def firstL (dk : Array Int) (kk : Nat) : List Int := (List.range kk).map (fun j => dk[j]!)
theorem firstL_len (dk : Array Int) (kk : Nat) : (firstL dk kk).length = kk := by simp [firstL]
theorem firstL_get (dk : Array Int) {kk j : Nat} (h : j < kk) : (firstL dk kk).getD j 0 = dk[j]! := by simp [firstL, List.getD, h]
theorem firstL_inc {dk : Array Int} {kk : Nat} (h : ∀ j, 1 ≤ j → j < kk → dk[j - 1]! < dk[j]!) : (firstL dk kk).Pairwise (· < ·) := by
  have hh : ∀ n i, i + n + 1 < kk → dk[i]! < dk[i + n + 1]! := by
    intro n
    induction n with
    | zero => intro i hi; have := h (i + 1) (by omega) (by omega); simpa using this
    | succ n ih =>
      intro i hi
      have h1 := ih i (by omega)
      have h2 := h (i + n + 1 + 1) (by omega) (by omega)
      simp only [Nat.add_sub_cancel] at h2
      have e : i + (n + 1) + 1 = i + n + 1 + 1 := by omega
      rw [e]
      omega
  rw [firstL, List.pairwise_map, List.pairwise_iff_getElem]
  intro i j hi hj hij
  simp at hi hj
  simp only [List.getElem_range]
  have := hh (j - i - 1) i (by omega)
  have e : i + (j - i - 1) + 1 = j := by omega
  rwa [e] at this
theorem firstL_mem {dk : Array Int} {kk : Nat} {x : Int} : x ∈ firstL dk kk ↔ ∃ j, j < kk ∧ dk[j]! = x := by
  simp [firstL]

/-- Each number once, rising. -/
structure Once (w : World) (blk off cap : Nat) (d : Array Int) (E : List Int) (w' : World) : Prop where
  le : E.length ≤ d.size
  one : 1 ≤ E.length
  inc : E.Pairwise (· < ·)
  mem : ∀ x, x ∈ E ↔ ∃ j, j < d.size ∧ d[j]! = x
  cells : ∀ j, j < E.length → w'.cell? ⟨blk, off + j, none⟩ = some (.int .u32 (E.getD j 0))
  grown : w.grownBy w' (some blk)

theorem Cp.once {w w' : World} {blk off cap : Nat} {d : Array Int} {kk : Nat} {dk : Array Int} (h : Cp d d.size kk dk) (hc : ∀ j, j < kk → w'.cell? ⟨blk, off + j, none⟩ = some (.int .u32 (dk[j]!))) (hg : w.grownBy w' (some blk)) : Once w blk off cap d (firstL dk kk) w' :=
  ⟨by rw [firstL_len]; exact h.km, by rw [firstL_len]; exact h.k1, firstL_inc h.inc, fun x => by rw [firstL_mem, h.mem], fun j hj => by rw [firstL_len] at hj; rw [firstL_get dk hj]; exact hc j hj, hg⟩

end Go.Proofs.YtdbjklngnloibabGreat.sortu

/- Rows of numbers of 32 bits: each number once (slices.Compact); where a number is (slices.BinarySearch). -/
namespace Go.Proofs.YtdbjklngnloibabGreat.sortu
open Go.RowKit Go.Sort
set_option linter.unusedVariables false
set_option maxRecDepth 100000

theorem zeroU32 (w : World) : (zeroValue 33).run Tryz.prog w = .ok (.int .u32 0) w := by kernel_rfl
theorem grown_setCells {w : World} {b o : Nat} : ∀ (vs : List Value) (w' : World) (o' : Nat), w.grownBy w' (some b) → w.grownBy (w'.setCells b o' vs) (some b)
  | [], w', o', h => h
  | v :: vs, w', o', h => by
    refine grown_setCells (o := o) vs _ _ ?_
    refine ⟨h.os, h.tape, h.output, by simpa [World.setCell] using h.size, fun k hk hne => ?_⟩
    rw [Below.heap_setCell _ _ _ _ (fun e => hne (by rw [e]))]
    exact h.block k hk hne

set_option maxHeartbeats 8000000 in
theorem compactU (blk off cap : Nat) (d : Array Int) (w : World) (hH : Holds encU w blk off d) (h1 : 1 ≤ d.size) (hsz : d.size < 50) (hcap : d.size ≤ cap) (hS : SortedIn ltInt 0 d.size d) :
    Calls Tryz.prog 58 #[.slice (some ⟨blk, off, none⟩) d.size cap] w fun e w' => ∃ E : List Int, e = .returned (.slice (some ⟨blk, off, none⟩) E.length cap) ∧ Once w blk off cap d E w' := by
  have HH : Hid (Row w blk off d w) := Row.start hH
  have HS : Hid (SortedIn ltInt 0 d.size d) := hS
  clear hH hS
  obtain ⟨G, hG⟩ : ∃ G : Nat → Int, ∀ t, G t = d[t]! := ⟨fun t => d[t]!, fun _ => rfl⟩
  have HG : Hid (∀ t, G t = d[t]!) := hG
  clear hG
  by_cases h2 : d.size < 2
  · have hz : (d.size : Int) < 2 := by omega
    go_enter Tryz.func58, Tryz.ntmps58
    go_wp2
    go_ret
    have hcp := cp_start d
    have e1 : d.size = 1 := by omega
    refine ⟨firstL d 1, by rw [firstL_len, e1]; rfl, (show Cp d d.size 1 d from by rw [e1]; exact hcp).once (fun j hj => (HH.out.holds j (by omega)).1) HH.out.grown⟩
  have hz : ¬ (d.size : Int) < 2 := by omega
  go_enter Tryz.func58, Tryz.ntmps58
  go_wp2
  go_loopg [3] d.size (fun g v wr => ∃ k : Nat, v = .int .i64 k ∧ 1 ≤ k ∧ k ≤ d.size ∧ g = d.size + 1 - k ∧ Row w blk off d wr ∧ Cp d k k d)
  case atStart => exact ⟨1, rfl, Nat.le_refl _, by omega, by omega, HH.out, cp_start d⟩
  case round =>
    clear HH
    obtain ⟨k, rfl, hk1, hk2, hgk, hrow, hcp⟩ := hrel
    have HGK : Hid (gk = d.size + 1 - k) := hgk
    have HR : Hid (Row w blk off d wr) := hrow
    have HC : Hid (Cp d k k d) := hcp
    have hcw : ∀ t, t < d.size → wr.cell? ⟨blk, off + t, none⟩ = some (.int .u32 (G t)) := fun t ht => by rw [HG.out]; exact (hrow.holds t ht).1
    clear hgk hrow hcp
    by_cases hkn : k < d.size
    case neg =>
      have hkz : ¬ (k : Int) < (d.size : Int) := by omega
      go_wp2
      go_ret
      have ek : k = d.size := by omega
      subst ek
      exact ⟨firstL d d.size, by rw [firstL_len]; rfl, HC.out.once (fun j hj => (HR.out.holds j hj).1) HR.out.grown⟩
    have hkz : (k : Int) < (d.size : Int) := by omega
    by_cases heq : G k = G (k - 1)
    · have heqz : (G k == G (k - 1)) = true := by simp [heq]
      have HEQ : Hid (G k = G (k - 1)) := heq
      clear heq
      go_upto_region 6 with fail
      go_cut [25] (fun s wq => s = .bool true ∧ Row w blk off d wq)
      case first =>
        go_quiet (fail)
        go_wp2_with fail
        go_meet
        case rel => exact ⟨rfl, HR.out.drewN nq⟩
      case rest =>
        obtain ⟨hs25, hrow2⟩ := hcut
        subst hs25
        have HR2 : Hid (Row w blk off d wc) := hrow2
        have HC2 : Hid (Cp d (k + 1) k d) := HC.out.same (by rw [← HG.out, ← HG.out]; exact HEQ.out) hk1
        have hkc : k ≤ cap := by omega
        clear HR hcw hrow2 HC
        go_wp2
        go_loopg [3, 5] (d.size - k) (fun g v u wr => ∃ (kk k2 : Nat) (dk : Array Int), v = .int .i64 kk ∧ u = .int .i64 k2 ∧ 1 ≤ k2 ∧ k + k2 ≤ d.size ∧ kk < k + k2 ∧ g = d.size - (k + k2) + 1 ∧ Row w blk off dk wr ∧ Cp d (k + k2) kk dk)
        case atStart => exact ⟨k, 1, d, rfl, rfl, Nat.le_refl _, by omega, by omega, by omega, HR2.out, HC2.out⟩
        case round =>
          clear HR2 HC2
          obtain ⟨kk, k2, dk, rfl, rfl, hk21, hk22, hkk, hgk, hrow, hcp⟩ := hrel
          have HGK2 : Hid (gk = d.size - (k + k2) + 1) := hgk
          have HR : Hid (Row w blk off dk wr) := hrow
          have HC : Hid (Cp d (k + k2) kk dk) := hcp
          have hsk := hcp.sz
          have hkk1 := hcp.k1
          have hcw : ∀ t, k + k2 - 1 ≤ t ∧ t < d.size → wr.cell? ⟨blk, off + t, none⟩ = some (.int .u32 (G t)) := fun t ht => by rw [HG.out, ← hcp.rest t ht.1]; exact (hrow.holds t (by omega)).1
          obtain ⟨u0, hu0⟩ : ∃ u0, u0 = dk[kk]! := ⟨_, rfl⟩
          have hkn2 : kk < d.size := by omega
          have hck : wr.cell? ⟨blk, off + kk, none⟩ = some (.int .u32 u0) := by rw [hu0]; exact (hrow.holds kk (by omega)).1
          have hfk : wr.frozen? ⟨blk, off + kk, none⟩ = false := (hrow.holds kk (by omega)).2
          clear hgk hcp hu0
          by_cases hk2n : k + k2 < d.size
          case neg =>
            have hk2z : ¬ (k2 : Int) < ((d.size - k : Nat) : Int) := by omega
            have hcl : ∀ ty, (Builtin.clear_ #[32] ty #[.slice (some ⟨blk, off + kk, none⟩) (d.size - kk) (cap - kk)]).run Tryz.prog wr = .ok (.tuple #[]) (wr.setCells blk (off + kk) (List.replicate (d.size - kk) (.int .u32 0))) :=
              fun ty => Lib.run_clear_slice wr _ _ ty _ Tryz.underlying32 zeroU32 rfl rfl blk (off + kk) _ _ (by omega) (fun j hj => by rw [show off + kk + j = off + (kk + j) by omega, (hrow.holds (kk + j) (by omega)).1]; rfl) (fun j hj => by rw [show off + kk + j = off + (kk + j) by omega]; exact (hrow.holds (kk + j) (by omega)).2)
            have hkc2 : kk ≤ cap := by omega
            clear hrow hcw hck hfk
            go_wp2
            go_ret
            have e9 : k + k2 = d.size := by omega
            have hcp9 : Cp d d.size kk dk := by rw [← e9]; exact HC.out
            refine ⟨firstL dk kk, by rw [firstL_len]; rfl, hcp9.once (fun j hj => ?_) (grown_setCells (o := 0) _ _ _ HR.out.grown)⟩
            rw [World.cell?_setCells_out _ _ _ _ _ (fun _ _ => Or.inl (by dsimp only; omega))]
            exact (HR.out.holds j (by omega)).1
          have hk2z : (k2 : Int) < ((d.size - k : Nat) : Int) := by omega
          by_cases hne : G (k + k2) = G (k + k2 - 1)
          · have hnez : (G (k + k2) != G (k + k2 - 1)) = false := by simp [hne]
            have HC3 : Hid (Cp d (k + k2 + 1) kk dk) := HC.out.same (by rw [← HG.out, ← HG.out]; exact hne) (by omega)
            clear hrow hne
            go_upto_region 11 with fail
            go_cut [44] (fun s wq => s = .bool false ∧ Row w blk off dk wq)
            case first =>
              go_quiet (fail)
              go_wp2_with fail
              go_meet
              case rel => exact ⟨by rw [← hnez]; congr 2 <;> (congr 1; omega), HR.out.drewN nq⟩
            case rest =>
              obtain ⟨hs44, hrow4⟩ := hcut
              subst hs44
              have HR4 : Hid (Row w blk off dk wc) := hrow4
              clear hrow4 hcw hck hfk
              go_wp2
              have hgk := HGK2.out
              go_roundg (gk - 1)
              case measure => omega
              case rel => exact ⟨kk, k2 + 1, dk, rfl, by go_num, by omega, by omega, by omega, by omega, HR4.out, HC3.out⟩
          · have hnez : (G (k + k2) != G (k + k2 - 1)) = true := by simp [hne]
            have HC3 : Hid (Cp d (k + k2 + 1) (kk + 1) (dk.setIfInBounds kk d[k + k2]!)) := HC.out.put hkk hk2n (sorted_step HS.out (by omega) hk2n (by rw [← HG.out, ← HG.out]; exact hne))
            clear hrow hne
            go_upto_region 11 with fail
            go_cut [44] (fun s wq => s = .bool true ∧ Row w blk off dk wq)
            case first =>
              go_quiet (fail)
              go_wp2_with fail
              go_meet
              case rel => exact ⟨by rw [← hnez]; congr 2 <;> (congr 1; omega), HR.out.drewN nq⟩
            case rest =>
              obtain ⟨hs44, hrow4⟩ := hcut
              subst hs44
              have HR4 : Hid (Row w blk off dk wc) := hrow4
              clear hcw hck hfk
              have hc1 : wc.cell? ⟨blk, off + k + k2, none⟩ = some (.int .u32 (G (k + k2))) := by rw [HG.out, ← HC.out.rest (k + k2) (by omega), show off + k + k2 = off + (k + k2) by omega]; exact (hrow4.holds (k + k2) (by omega)).1
              obtain ⟨u0, hu0⟩ : ∃ u0, u0 = dk[kk]! := ⟨_, rfl⟩
              have hck : wc.cell? ⟨blk, off + kk, none⟩ = some (.int .u32 u0) := by rw [hu0]; exact (hrow4.holds kk (by omega)).1
              have hfk : wc.frozen? ⟨blk, off + kk, none⟩ = false := (hrow4.holds kk (by omega)).2
              have hset := HR4.out.set (i := kk) (by omega) (G (k + k2))
              have HST : Hid (Row w blk off (dk.setIfInBounds kk (G (k + k2))) (wc.setCell ⟨blk, off + kk, none⟩ (encU (G (k + k2))))) := hset
              clear hrow4 hu0 hset
              go_wp2
              have hgk := HGK2.out
              go_roundg (gk - 1)
              case measure => omega
              case rel => exact ⟨kk + 1, k2 + 1, dk.setIfInBounds kk d[k + k2]!, by go_num, by go_num, by omega, by omega, by omega, by omega, by rw [← HG.out]; exact HST.out, HC3.out⟩
    · have heqz : (G k == G (k - 1)) = false := by simp [heq]
      have HC3 : Hid (Cp d (k + 1) (k + 1) d) := HC.out.next (sorted_step HS.out hk1 hkn (by rw [← HG.out, ← HG.out]; exact heq))
      clear heq
      go_upto_region 6 with fail
      go_cut [25] (fun s wq => s = .bool false ∧ Row w blk off d wq)
      case first =>
        go_quiet (fail)
        go_wp2_with fail
        go_meet
        case rel => exact ⟨rfl, HR.out.drewN nq⟩
      case rest =>
        obtain ⟨hs25, hrow2⟩ := hcut
        subst hs25
        have HR2 : Hid (Row w blk off d wc) := hrow2
        clear hrow2 hcw HR
        go_wp2
        have hgk := HGK.out
        go_roundg (gk - 1)
        case measure => omega
        case rel => exact ⟨k + 1, by go_num, by omega, by omega, by omega, HR2.out, HC3.out⟩
theorem isNaNS (x : Int) (w : World) : Calls Tryz.prog 109 #[.int .u32 x] w fun e w' => e = .returned (.bool false) ∧ w' = w := by
  go_enter Tryz.func109, Tryz.ntmps109
  go_wp2
  go_ret
  exact ⟨by simp, rfl⟩

/-- Where it is, if it is there. -/
def FoundAt (E : List Int) (n : Nat) (x : Int) (e : Ending) : Prop := ∃ (k : Nat) (f : Bool), e = .returned (.tuple #[.int .i64 k, .bool f]) ∧ (f = true → k < n ∧ E.getD k 0 = x) ∧ (f = false → ∀ j, j < n → ¬ E.getD j 0 = x)

set_option maxHeartbeats 4000000 in
theorem searchU (blk off cap : Nat) (E : List Int) (x : Int) (w : World) (hc : ∀ j, j < E.length → w.cell? ⟨blk, off + j, none⟩ = some (.int .u32 (E.getD j 0))) (hlen : E.length < 50) (hinc : E.Pairwise (· < ·)) :
    Calls Tryz.prog 84 #[.slice (some ⟨blk, off, none⟩) E.length cap, .int .u32 x] w fun e w' => FoundAt E E.length x e ∧ w' = w := by
  obtain ⟨G, hG⟩ : ∃ G : Nat → Int, ∀ t, G t = E.getD t 0 := ⟨fun t => E.getD t 0, fun _ => rfl⟩
  have hcw : ∀ t, t < E.length → w.cell? ⟨blk, off + t, none⟩ = some (.int .u32 (G t)) := fun t ht => by rw [hG]; exact hc t ht
  have HG : Hid (∀ t, G t = E.getD t 0) := hG
  have HI : Hid (∀ i j, i < j → j < E.length → G i < G j) := fun i j hij hj => by
    rw [hG, hG]
    rw [List.pairwise_iff_getElem] at hinc
    have := hinc i j (by omega) hj hij
    simpa [List.getD, hj, Nat.lt_trans hij hj] using this
  clear hc hG hinc
  obtain ⟨n, hn⟩ : ∃ n, n = E.length := ⟨_, rfl⟩
  rw [← hn] at hcw hlen HI ⊢
  have HN : Hid (n = E.length) := hn
  clear hn
  go_enter Tryz.func84, Tryz.ntmps84
  go_wp2
  go_loopw [7, 8] (fun v u wr => ∃ i j : Nat, v = .int .i64 i ∧ u = .int .i64 j ∧ i ≤ j ∧ j ≤ n ∧ wr = w ∧ (∀ t, t < i → G t < x) ∧ (∀ t, j ≤ t → t < n → x ≤ G t)) (fun v u _ => (numOf u).toNat - (numOf v).toNat)
  case atStart => exact ⟨0, n, rfl, rfl, by omega, Nat.le_refl _, rfl, fun t ht => by omega, fun t h1 h2 => by omega⟩
  case round =>
    obtain ⟨i, j, rfl, rfl, hij, hjn, hwr, hlo, hhi⟩ := hrel
    subst hwr
    have HLO : Hid (∀ t, t < i → G t < x) := hlo
    have HHI : Hid (∀ t, j ≤ t → t < n → x ≤ G t) := hhi
    clear hlo hhi
    by_cases hlt : i < j
    · have hltz : (i : Int) < (j : Int) := by omega
      obtain ⟨h, hh, hh2⟩ : ∃ h : Nat, ((i : Int) + (j : Int)) / 2 = (h : Int) ∧ h = (i + j) / 2 := ⟨(i + j) / 2, by omega, rfl⟩
      have hih : i ≤ h := by omega
      have hhj : h < j := by omega
      have hu : IntKind.u64.wrap ((i : Int) + (j : Int)) = (i : Int) + (j : Int) := Go.Proofs.YtdbjklngnloibabGreat.form.wrapU (by omega) (by omega)
      clear hh2
      by_cases hl : G h < x
      · have hlb : ltInt (G h) x = true := by simp [ltInt, hl]
        go_wp2_with (go_at_call 104; refine (lessU _ _ _).mono ?_; rw [hlb]; rintro e w' ⟨rfl, hw'⟩; obtain rfl := hw'.symm)
        go_roundw
        case rel => exact ⟨h + 1, j, by go_num, rfl, by omega, hjn, trivial, fun t ht => by rcases Nat.eq_or_lt_of_le (show t ≤ h by omega) with e | e; (rw [e]; exact hl); (have := HI.out t h e (by omega); omega), HHI.out⟩
        case measure => simp [numOf]; omega
      · have hlb : ltInt (G h) x = false := by simp [ltInt, hl]
        go_wp2_with (go_at_call 104; refine (lessU _ _ _).mono ?_; rw [hlb]; rintro e w' ⟨rfl, hw'⟩; obtain rfl := hw'.symm)
        go_roundw
        case rel => exact ⟨i, h, rfl, rfl, hih, by omega, trivial, HLO.out, fun t h1 h2 => by rcases Nat.eq_or_lt_of_le h1 with e | e; (rw [← e]; omega); (have := HI.out h t e h2; omega)⟩
        case measure => simp [numOf]; omega
    · obtain rfl : i = j := by omega
      have HLE : Hid (n = E.length) := HN
      have fin : ∀ f : Bool, (f = true → i < n ∧ G i = x) → (f = false → ∀ t, t < n → ¬ G t = x) → ∀ e w', e = Ending.returned (.tuple #[.int .i64 ((i : Nat) : Int), .bool f]) → w' = wr → (FoundAt E n x e ∧ w' = wr) :=
        fun f h1 h2 e w' he hw => ⟨⟨i, f, he, fun hf => by obtain ⟨a1, a2⟩ := h1 hf; exact ⟨a1, by rw [← HG.out]; exact a2⟩, fun hf j hj => by rw [← HG.out]; exact h2 hf j hj⟩, hw⟩
      have FIN : Hid _ := fin
      clear fin
      by_cases hin : i < n
      · have hinz : (i : Int) < (n : Int) := by omega
        by_cases hgx : G i = x
        · have hgz : (G i == x) = true := by simp [hgx]
          have HGX : Hid (G i = x) := hgx
          clear hgx
          go_wp2
          refine bodyPost_ret (v := .tuple #[.int .i64 ((i : Nat) : Int), .bool true]) ?_ rfl (FIN.out true (fun _ => ⟨hin, HGX.out⟩) (fun h => (by cases h)) _ _ rfl rfl)
          simp [results, Tryz.results84, go_sem]
        · have hgz : (G i == x) = false := by simp [hgx]
          go_wp2_with (go_at_call 109; refine (isNaNS _ _).mono ?_; rintro e w' ⟨rfl, hw'⟩; obtain rfl := hw'.symm)
          refine bodyPost_ret (v := .tuple #[.int .i64 ((i : Nat) : Int), .bool false]) ?_ rfl (FIN.out false (fun h => (by cases h)) (fun _ t ht => ?_) _ _ rfl rfl)
          · simp [results, Tryz.results84, go_sem]
          · rcases Nat.lt_trichotomy t i with e | e | e
            · have := HLO.out t e; omega
            · rw [e]; exact hgx
            · have h1 := HHI.out i (Nat.le_refl _) hin
              have h2 := HI.out i t e ht
              omega
      · have hinz : ¬ (i : Int) < (n : Int) := by omega
        go_wp2
        refine bodyPost_ret (v := .tuple #[.int .i64 ((i : Nat) : Int), .bool false]) ?_ rfl (FIN.out false (fun h => (by cases h)) (fun _ t ht => by have := HLO.out t (by omega); omega) _ _ rfl rfl)
        simp [results, Tryz.results84, go_sem]

end Go.Proofs.YtdbjklngnloibabGreat.sortu

/- What the world of facts tells of numbers and kinds (world.number, world.may). -/
namespace Go.Proofs.YtdbjklngnloibabGreat.form
open Go.RowKit Go.Maps
set_option linter.unusedVariables false
set_option maxRecDepth 100000
attribute [local go_sem ↓] Go.wp_at_zero Go.wp_at_succ

/-- The bits of a number. -/
def NumS (N : List Int) (n : Int) (x : Bits) : Prop := ∀ k, x.getLsbD k = true ↔ k < N.length ∧ nAt N k = n

theorem numberO {w : World} {lim : Nat} {g : WB} {B : List Bool} {C : List LIns} {R : List LRow} {A : List LPlace} {N : List Int} {s slots : Nat} (hW : WorldAt w lim g B C R A N) (hD : Dims B C s slots A N) (n : Int) :
    Calls Tryz.prog 59 #[.pointer (some ⟨g.q, 0, none⟩), .int .u32 n] w fun e w' => (∃ x, e = .returned (.int .u64 (bn x)) ∧ NumS N n x) ∧ w' = w := by
  have y4 := hW.stat.p4
  have h41 := hD.n41
  have HI : Hid (N.Pairwise (· < ·)) := hD.inc
  have c := Go.Proofs.YtdbjklngnloibabGreat.sortu.searchU g.b4 0 g.c4 N n w (fun j hj => by rw [Nat.zero_add]; exact hW.stat.nums j hj) (by omega) hD.inc
  clear hD hW
  go_enter Tryz.func59, Tryz.ntmps59
  go_wp2_with (go_at_call 84; refine c.mono ?_; rintro e w1 ⟨⟨k, f, rfl, hf1, hf2⟩, hw1⟩; obtain rfl := hw1.symm; have HF1 : Hid (f = true → k < N.length ∧ N.getD k 0 = n) := hf1; have HF2 : Hid (f = false → ∀ j, j < N.length → ¬ N.getD j 0 = n) := hf2; clear hf1 hf2; rcases Bool.eq_false_or_eq_true f with hf | hf <;> subst hf)
  · obtain ⟨h1, h2⟩ := HF1.out trivial
    have h64 : k < 64 := by omega
    go_wp2_with (go_at_call 69; refine (onlyO k h64 _).mono ?_; rintro e w1 ⟨rfl, hw1⟩; obtain rfl := hw1.symm)
    go_ret
    refine ⟨⟨only k, rfl, fun j => ?_⟩, rfl⟩
    rw [only_bit h64]
    constructor
    · rintro rfl; exact ⟨h1, h2⟩
    · rintro ⟨h3, h4⟩; exact getD_inj HI.out h3 h1 (by unfold nAt at h4 ⊢; rw [h4, h2])
  · go_wp2
    go_ret
    refine ⟨⟨0, rfl, fun j => ?_⟩, rfl⟩
    constructor
    · intro h; simp at h
    · rintro ⟨h3, h4⟩; exact absurd h4 (HF2.out trivial j h3)

theorem only_less {n : Nat} (hn : n < 64) : ∃ X : Bits, IntKind.u64.wrap (bn (only n) - 1) = bn X ∧ ∀ k, X.getLsbD k = true ↔ k < n := by
  refine ⟨BitVec.ofNat 64 (2 ^ n - 1), ?_, fun k => ?_⟩
  · have e : (only n).toNat = 2 ^ n := by
      unfold only
      rw [BitVec.toNat_twoPow]
      exact Nat.mod_eq_of_lt (Nat.pow_lt_pow_right (by omega) hn)
    have h1 : 2 ^ n < 2 ^ 64 := Nat.pow_lt_pow_right (by omega) hn
    have h2 : 0 < 2 ^ n := Nat.pow_pos (by omega)
    have e2 : bn (BitVec.ofNat 64 (2 ^ n - 1)) = ((2 ^ n - 1 : Nat) : Int) := by
      unfold bn
      rw [BitVec.toNat_ofNat, Nat.mod_eq_of_lt (by omega)]
    rw [e2]
    unfold bn
    rw [e]
    have e3 : (((2 ^ n : Nat) : Int) - 1) = ((2 ^ n - 1 : Nat) : Int) := by omega
    rw [e3]
    exact wrapU (by omega) (by omega)
  · rw [BitVec.getLsbD_ofNat, Nat.testBit_two_pow_sub_one]
    simp
    omega

/-- Which temporaries a place of that kind may have. -/
def mayT (B : List Bool) (kind : Int) (t : Nat) : Bool := (kind == 3) || (B.getD t false == (kind == 2))

/-- While it is told what a kind may have. -/
structure MyS (w : World) (lim : Nat) (g : WB) (B : List Bool) (C : List LIns) (R : List LRow) (A : List LPlace) (N : List Int) (kind : Int) (j : Nat) (h : Bits) (wr : World) : Prop where
  bel : Below w.heap.size w wr
  z : w.heap.size + 1 < wr.heap.size
  a0 : wr.cell? ⟨w.heap.size + 1, 0, none⟩ = some (.int .u64 (bn h))
  a1 : wr.cell? ⟨w.heap.size + 1, 1, none⟩ = some (.int .u64 0)
  f0 : wr.frozen? ⟨w.heap.size + 1, 0, none⟩ = false
  f1 : wr.frozen? ⟨w.heap.size + 1, 1, none⟩ = false
  r0 : wr.cell? ⟨w.heap.size, 0, none⟩ = some (.int .u64 0)
  r1 : wr.cell? ⟨w.heap.size, 1, none⟩ = some (.int .u64 0)
  s0 : wr.frozen? ⟨w.heap.size, 0, none⟩ = false
  s1 : wr.frozen? ⟨w.heap.size, 1, none⟩ = false
  bits : ∀ t, h.getLsbD t = true ↔ t < j ∧ mayT B kind t = true

theorem MyS.drewN {w : World} {lim : Nat} {g : WB} {B : List Bool} {C : List LIns} {R : List LRow} {A : List LPlace} {N : List Int} {kind : Int} {j : Nat} {h : Bits} {wr : World} (hs : MyS w lim g B C R A N kind j h wr) (q : Nat) : MyS w lim g B C R A N kind j h (wr.drewN q) :=
  ⟨below_drewN hs.bel q, hs.z, hs.a0, hs.a1, hs.f0, hs.f1, hs.r0, hs.r1, hs.s0, hs.s1, hs.bits⟩

theorem MyS.put {w : World} {lim : Nat} {g : WB} {B : List Bool} {C : List LIns} {R : List LRow} {A : List LPlace} {N : List Int} {kind : Int} {j j' : Nat} {h h' : Bits} {wr : World} (hs : MyS w lim g B C R A N kind j h wr) (hb : ∀ t, h'.getLsbD t = true ↔ t < j' ∧ mayT B kind t = true) :
    MyS w lim g B C R A N kind j' h' (wr.setCell ⟨w.heap.size + 1, 0, none⟩ (.int .u64 (bn h'))) := by
  have a0 := hs.a0
  have a1 := hs.a1
  have r0 := hs.r0
  have r1 := hs.r1
  have e1 : ∀ o, (wr.setCell ⟨w.heap.size + 1, 0, none⟩ (.int .u64 (bn h'))).cell? ⟨w.heap.size, o, none⟩ = wr.cell? ⟨w.heap.size, o, none⟩ := fun o => World.cell?_of_block (Below.heap_setCell _ _ _ _ (by dsimp only; omega))
  exact ⟨hs.bel.setCell (by dsimp only; omega) _, by have := hs.z; simpa [World.setCell] using this, by simp [go_sem, a0], by simp [go_sem, a1], by have := hs.f0; simpa [go_sem] using this, by have := hs.f1; simpa [go_sem] using this, by rw [e1]; exact r0, by rw [e1]; exact r1, by have := hs.s0; simpa [go_sem] using this, by have := hs.s1; simpa [go_sem] using this, hb⟩
theorem MyS.skip {w : World} {lim : Nat} {g : WB} {B : List Bool} {C : List LIns} {R : List LRow} {A : List LPlace} {N : List Int} {kind : Int} {j : Nat} {h : Bits} {wr : World} (hs : MyS w lim g B C R A N kind j h wr) (hc : mayT B kind j = false) : MyS w lim g B C R A N kind (j + 1) h wr :=
  ⟨hs.bel, hs.z, hs.a0, hs.a1, hs.f0, hs.f1, hs.r0, hs.r1, hs.s0, hs.s1, fun t => by
    rw [hs.bits]
    constructor
    · rintro ⟨h1, h2⟩; exact ⟨by omega, h2⟩
    · rintro ⟨h1, h2⟩
      refine ⟨?_, h2⟩
      rcases Nat.eq_or_lt_of_le (Nat.le_of_lt_succ h1) with e | e
      · rw [e, hc] at h2; cases h2
      · exact e⟩
theorem may_or {B : List Bool} {kind : Int} {j : Nat} {h : Bits} (hj : j < 64) (hb : ∀ t, h.getLsbD t = true ↔ t < j ∧ mayT B kind t = true) (hc : mayT B kind j = true) : ∀ t, (h ||| only j).getLsbD t = true ↔ t < j + 1 ∧ mayT B kind t = true := by
  intro t
  rw [bits_or_only hj, hb]
  constructor
  · rintro (⟨h1, h2⟩ | rfl)
    · exact ⟨by omega, h2⟩
    · exact ⟨by omega, hc⟩
  · rintro ⟨h1, h2⟩
    rcases Nat.eq_or_lt_of_le (Nat.le_of_lt_succ h1) with e | e
    · exact Or.inr e
    · exact Or.inl ⟨e, h2⟩

set_option maxHeartbeats 4000000 in
theorem mayW {w : World} {lim : Nat} {g : WB} {B : List Bool} {C : List LIns} {R : List LRow} {A : List LPlace} {N : List Int} {s slots : Nat} (hW : WorldAt w lim g B C R A N) (hD : Dims B C s slots A N) (kind : Int) :
    Calls Tryz.prog 60 #[.pointer (some ⟨g.q, 0, none⟩), .int .i64 kind] w fun e w' => ∃ x y, e = .returned (knownV x y) ∧ (∀ t, x.getLsbD t = true ↔ t < B.length ∧ mayT B kind t = true) ∧ (∀ k, y.getLsbD k = true ↔ k < N.length ∧ ¬ kind = 2) ∧ Below w.heap.size w w' := by
  have hb12 := hD.b12
  have h41 := hD.n41
  have HW : Hid (WorldAt w lim g B C R A N) := hW
  have y0 := hW.stat.p0
  have hq := cell_lt y0
  have hz : MyS w lim g B C R A N kind 0 0 ((w.alloc (.cells #[.int .u64 0, .int .u64 0] 96)).alloc (.cells #[.int .u64 0, .int .u64 0] 96)) :=
    ⟨((Below.refl _ _).alloc (Nat.le_refl _) _).alloc (by simp) _, by simp, by simp [go_sem]; rfl, by simp [go_sem], by simp [go_sem], by simp [go_sem], by simp [go_sem], by simp [go_sem], by simp [go_sem], by simp [go_sem], fun t => by simp⟩
  have HZ : Hid (MyS w lim g B C R A N kind 0 0 ((w.alloc (.cells #[.int .u64 0, .int .u64 0] 96)).alloc (.cells #[.int .u64 0, .int .u64 0] 96))) := hz
  clear hz hW hD
  go_enter Tryz.func60, Tryz.ntmps60
  go_wp2
  go_loopg [6, 7, 14] (B.length + 1) (fun gg v6 v7 v wr => ∃ (j : Nat) (h : Bits), v = .int .i64 j ∧ j ≤ B.length ∧ gg = B.length + 1 - j ∧ MyS w lim g B C R A N kind j h wr)
  case atStart => exact ⟨0, 0, rfl, by omega, by omega, HZ.out⟩
  case round =>
    clear HZ
    obtain ⟨j, h, rfl, hj, hgk, hs⟩ := hrel
    have HGK : Hid (gk = B.length + 1 - j) := hgk
    have HS : Hid (MyS w lim g B C R A N kind j h wr) := hs
    have z1 := hs.z
    have a0 := hs.a0
    have a1 := hs.a1
    have f0 := hs.f0
    have f1 := hs.f1
    have r0 := hs.r0
    have r1 := hs.r1
    have s0 := hs.s0
    have s1 := hs.s1
    clear hgk hs
    by_cases hjl : j < B.length
    · have hjz : (j : Int) < (B.length : Int) := by omega
      have hc := (HW.out.below HS.out.bel).stat.held.wide j hjl
      obtain ⟨bj, hbj⟩ : ∃ bj, bj = B.getD j false := ⟨_, rfl⟩
      rw [← hbj] at hc
      obtain ⟨c, hcc⟩ : ∃ c, c = mayT B kind j := ⟨_, rfl⟩
      have HC : Hid (c = mayT B kind j) := hcc
      have HCB : Hid (c = ((kind == 3) || (bj == (kind == 2)))) := by show c = _; rw [hcc, hbj]; rfl
      clear hcc hbj
      go_upto_region 5 with fail
      go_cut [26] (fun s wq => s = .bool c ∧ wq = wr)
      case first =>
        by_cases hk3 : kind = 3
        · have hk3z : (kind == 3) = true := by simp [hk3]
          go_wp2
          go_meet
          case rel => exact ⟨by rw [HCB.out]; simp [hk3], rfl⟩
        · have hk3z : (kind == 3) = false := by simp [hk3]
          go_wp2
          go_meet
          case rel => exact ⟨by rw [HCB.out, hk3z]; simp, rfl⟩
      case rest =>
        obtain ⟨hs26, hwc⟩ := hcut
        have hwc2 := hwc.symm
        subst hs26 hwc2
        clear hwc
        have h64 : j < 64 := by omega
        cases c with
        | false =>
          go_wp2
          have hgk := HGK.out
          go_roundg (gk - 1)
          case measure => omega
          case rel => exact ⟨j + 1, h, by go_num, by omega, by omega, HS.out.skip HC.out.symm⟩
        | true =>
          have hor := or_is h (only j)
          have hput := (HS.out.drewN 1).put (may_or h64 HS.out.bits HC.out.symm)
          have HPUT : Hid (MyS w lim g B C R A N kind (j + 1) (h ||| only j) ((wr.drewN 1).setCell ⟨w.heap.size + 1, 0, none⟩ (.int .u64 (bn (h ||| only j))))) := hput
          clear hput
          go_wp2
          go_region_with (go_at_call 69; refine (onlyO j h64 _).mono ?_; rintro e w1 ⟨rfl, hw1⟩; obtain rfl := hw1.symm)
          all_goals
            go_wp2_with fail
            have hgk := HGK.out
            go_roundg (gk - 1)
            case measure => omega
            case rel => exact ⟨j + 1, h ||| only j, by go_num, by omega, by omega, HPUT.out⟩
    · obtain rfl : j = B.length := by omega
      have hjz : ¬ (B.length : Int) < (B.length : Int) := by omega
      by_cases hk2 : kind = 2
      · have hk2z : (kind != 2) = false := by simp [hk2]
        have HK2 : Hid (kind = 2) := hk2
        clear hk2
        go_wp2
        refine bodyPost_ret (v := knownV h 0) ?_ rfl ⟨h, 0, rfl, HS.out.bits, fun k => by simp [HK2.out], ?_⟩
        · simp [results, Tryz.results60, go_sem, knownV, r0, r1]
          rfl
        · exact (HS.out.bel.setCell (Nat.le_refl _) _).setCell (Nat.le_refl _) _
      · have hk2z : (kind != 2) = true := by simp [hk2]
        have HK2 : Hid (¬ kind = 2) := hk2
        clear hk2
        obtain ⟨Y, hY, hYb⟩ := only_less (n := N.length) (by omega)
        have HYB : Hid (∀ k, Y.getLsbD k = true ↔ k < N.length) := hYb
        clear hYb
        have y4 := (HW.out.below HS.out.bel).stat.p4
        have h64 : N.length < 64 := by omega
        go_wp2_with (go_at_call 69; refine (onlyO N.length h64 _).mono ?_; rintro e w1 ⟨rfl, hw1⟩; obtain rfl := hw1.symm)
        refine bodyPost_ret (v := knownV h Y) ?_ rfl ⟨h, Y, rfl, HS.out.bits, fun k => by rw [HYB.out]; simp [HK2.out], ?_⟩
        · simp [results, Tryz.results60, go_sem, knownV, r0, r1]
        · exact ((HS.out.bel.setCell (Nat.le_succ _) _).setCell (Nat.le_refl _) _).setCell (Nat.le_refl _) _
end Go.Proofs.YtdbjklngnloibabGreat.form

/- What is known of a place that becomes a number (world.ofNumber). -/
namespace Go.Proofs.YtdbjklngnloibabGreat.form
open Go.RowKit Go.Maps
set_option linter.unusedVariables false
set_option maxRecDepth 100000
attribute [local go_sem ↓] Go.wp_at_zero Go.wp_at_succ

/-- The temporary is the number. -/
def ofT (m : FM) (y : Bits) (t : Nat) : Bool := !((m.tmp t &&& y) == 0)

structure OnS (w : World) (m : FM) (y : Bits) (gb : Nat) (j : Nat) (h : Bits) (wr : World) : Prop where
  bel : Below w.heap.size w wr
  gz : w.heap.size + 1 ≤ gb
  z : gb < wr.heap.size
  a0 : wr.cell? ⟨gb, 0, none⟩ = some (.int .u64 (bn h))
  a1 : wr.cell? ⟨gb, 1, none⟩ = some (.int .u64 (bn y))
  f0 : wr.frozen? ⟨gb, 0, none⟩ = false
  r0 : wr.cell? ⟨w.heap.size, 0, none⟩ = some (.int .u64 0)
  r1 : wr.cell? ⟨w.heap.size, 1, none⟩ = some (.int .u64 0)
  s0 : wr.frozen? ⟨w.heap.size, 0, none⟩ = false
  s1 : wr.frozen? ⟨w.heap.size, 1, none⟩ = false
  bits : ∀ t, h.getLsbD t = true ↔ t < j ∧ ofT m y t = true
section
variable {w : World} {m : FM} {y : Bits} {gb j j' : Nat} {h h' : Bits} {wr : World}
theorem OnS.drewN (hs : OnS w m y gb j h wr) (q : Nat) : OnS w m y gb j h (wr.drewN q) := ⟨below_drewN hs.bel q, hs.gz, hs.z, hs.a0, hs.a1, hs.f0, hs.r0, hs.r1, hs.s0, hs.s1, hs.bits⟩
theorem OnS.put (hs : OnS w m y gb j h wr) (hb : ∀ t, h'.getLsbD t = true ↔ t < j' ∧ ofT m y t = true) : OnS w m y gb j' h' (wr.setCell ⟨gb, 0, none⟩ (.int .u64 (bn h'))) := by
  have a0 := hs.a0
  have a1 := hs.a1
  have gz := hs.gz
  have e1 : ∀ o, (wr.setCell ⟨gb, 0, none⟩ (.int .u64 (bn h'))).cell? ⟨w.heap.size, o, none⟩ = wr.cell? ⟨w.heap.size, o, none⟩ := fun o => World.cell?_of_block (Below.heap_setCell _ _ _ _ (by dsimp only; omega))
  exact ⟨hs.bel.setCell (by dsimp only; omega) _, gz, by have := hs.z; simpa [World.setCell] using this, by simp [go_sem, a0], by simp [go_sem, a1], by have := hs.f0; simpa [go_sem] using this, by rw [e1]; exact hs.r0, by rw [e1]; exact hs.r1, by have := hs.s0; simpa [go_sem] using this, by have := hs.s1; simpa [go_sem] using this, hb⟩
theorem OnS.skip (hs : OnS w m y gb j h wr) (hc : ofT m y j = false) : OnS w m y gb (j + 1) h wr :=
  ⟨hs.bel, hs.gz, hs.z, hs.a0, hs.a1, hs.f0, hs.r0, hs.r1, hs.s0, hs.s1, fun t => by
    rw [hs.bits]
    constructor
    · rintro ⟨h1, h2⟩; exact ⟨by omega, h2⟩
    · rintro ⟨h1, h2⟩
      refine ⟨?_, h2⟩
      rcases Nat.eq_or_lt_of_le (Nat.le_of_lt_succ h1) with e | e
      · rw [e, hc] at h2; cases h2
      · exact e⟩
theorem of_or (hj : j < 64) (hb : ∀ t, h.getLsbD t = true ↔ t < j ∧ ofT m y t = true) (hc : ofT m y j = true) : ∀ t, (h ||| only j).getLsbD t = true ↔ t < j + 1 ∧ ofT m y t = true := by
  intro t
  rw [bits_or_only hj, hb]
  constructor
  · rintro (⟨h1, h2⟩ | rfl)
    · exact ⟨by omega, h2⟩
    · exact ⟨by omega, hc⟩
  · rintro ⟨h1, h2⟩
    rcases Nat.eq_or_lt_of_le (Nat.le_of_lt_succ h1) with e | e
    · exact Or.inr e
    · exact Or.inl ⟨e, h2⟩
end

set_option maxHeartbeats 4000000 in
theorem ofNumW {w : World} {lim : Nat} {g : WB} {B : List Bool} {C : List LIns} {R : List LRow} {A : List LPlace} {N : List Int} {s slots : Nat} (hW : WorldAt w lim g B C R A N) (hD : Dims B C s slots A N) (q mp mt : Nat) (T : List Int) (m : FM) (hF : FMAt w q mp mt A T m) (n : Int) :
    Calls Tryz.prog 91 #[.pointer (some ⟨g.q, 0, none⟩), .pointer (some ⟨q, 0, none⟩), .int .u32 n] w fun e w' => ∃ x y, e = .returned (knownV x y) ∧ (∀ t, x.getLsbD t = true ↔ t < B.length ∧ ofT m y t = true) ∧ NumS N n y ∧ Below w.heap.size w w' := by
  have hb12 := hD.b12
  have HW : Hid (WorldAt w lim g B C R A N) := hW
  have HD : Hid (Dims B C s slots A N) := hD
  have HF : Hid (FMAt w q mp mt A T m) := hF
  have y0 := hW.stat.p0
  have hq := cell_lt y0
  have hb1 : Below w.heap.size w (w.alloc (.cells #[.int .u64 0, .int .u64 0] 96)) := (Below.refl _ _).alloc (Nat.le_refl _) _
  have c := numberO (hW.below hb1) hD n
  have HB1 : Hid (Below w.heap.size w (w.alloc (.cells #[.int .u64 0, .int .u64 0] 96))) := hb1
  clear hW hD hF hb1
  go_enter Tryz.func91, Tryz.ntmps91
  go_wp2_with (go_at_call 59; refine c.mono ?_; rintro e w1 ⟨⟨y, rfl, hy⟩, hw1⟩; obtain rfl := hw1.symm; have HY : Hid (NumS N n y) := hy; clear hy)
  have HZ : Hid (OnS w m y (w.heap.size + 1) 0 0 ((w.alloc (.cells #[.int .u64 0, .int .u64 0] 96)).alloc (.cells #[.int .u64 0, .int .u64 (bn y)] 96))) :=
    ⟨((Below.refl _ _).alloc (Nat.le_refl _) _).alloc (by simp) _, Nat.le_refl _, by simp, by simp [go_sem]; rfl, by simp [go_sem], by simp [go_sem], by simp [go_sem], by simp [go_sem], by simp [go_sem], by simp [go_sem], fun t => by simp⟩
  clear c
  go_loopg [8, 19] (B.length + 1) (fun gg v8 v wr => ∃ (j : Nat) (h : Bits), v = .int .i64 j ∧ j ≤ B.length ∧ gg = B.length + 1 - j ∧ OnS w m y (w.heap.size + 1) j h wr)
  case atStart => exact ⟨0, 0, rfl, by omega, by omega, HZ.out⟩
  case round =>
    clear HZ
    obtain ⟨j, h, rfl, hj, hgk, hs⟩ := hrel
    have HGK : Hid (gk = B.length + 1 - j) := hgk
    have HS : Hid (OnS w m y (w.heap.size + 1) j h wr) := hs
    have z1 := hs.z
    have a0 := hs.a0
    have a1 := hs.a1
    have f0 := hs.f0
    have r0 := hs.r0
    have r1 := hs.r1
    have s0 := hs.s0
    have s1 := hs.s1
    have hFw := HF.out.below hs.bel
    have x1 := hFw.c1
    clear hgk hs
    by_cases hjl : j < B.length
    · have hjz : (j : Int) < (B.length : Int) := by omega
      have h64 : j < 64 := by omega
      have hlk : ∀ k, (Instr.lookup 98 (.map (some mt)) (.int .i64 (j : Int)) false).run Tryz.prog (wr.drewN k) = .ok (.int .u64 (bn (m.tmp j))) (wr.drewN k) := fun k => TMap.look (w := wr.drewN k) (hFw.tm.of_block rfl) ⟨by omega, by omega⟩
      obtain ⟨c, hcc⟩ : ∃ c, c = ofT m y j := ⟨_, rfl⟩
      have HC : Hid (c = ofT m y j) := hcc
      have ha := and_is (m.tmp j) y
      have hn := ne_is (m.tmp j &&& y)
      have hn2 : (bn (m.tmp j &&& y) != 0) = c := by rw [hn, hcc]; rfl
      clear hcc hn hFw
      go_upto_region 5 with fail
      go_cut [31] (fun s wq => s = .bool c ∧ OnS w m y (w.heap.size + 1) j h wq)
      case first =>
        go_quiet (fail)
        go_wp2_with fail
        go_meet
        case rel => exact ⟨rfl, HS.out.drewN nq⟩
      case rest =>
        obtain ⟨hs31, hs2⟩ := hcut
        subst hs31
        obtain ⟨wv, hwv⟩ : ∃ wv, wv = wc := ⟨_, rfl⟩
        rw [← hwv] at hs2 ⊢
        clear hwv z1 a0 a1 f0 r0 r1 s0 s1 x1 hlk HS
        have HS : Hid (OnS w m y (w.heap.size + 1) j h wv) := hs2
        have z1 := hs2.z
        have a0 := hs2.a0
        have f0 := hs2.f0
        clear hs2
        cases c with
        | false =>
          go_wp2
          have hgk := HGK.out
          go_roundg (gk - 1)
          case measure => omega
          case rel => exact ⟨j + 1, h, by go_num, by omega, by omega, HS.out.skip HC.out.symm⟩
        | true =>
          have hor := or_is h (only j)
          have HPUT : Hid (OnS w m y (w.heap.size + 1) (j + 1) (h ||| only j) ((wv.drewN 1).setCell ⟨w.heap.size + 1, 0, none⟩ (.int .u64 (bn (h ||| only j))))) := (HS.out.drewN 1).put (of_or h64 HS.out.bits HC.out.symm)
          go_wp2
          go_region_with (go_at_call 69; refine (onlyO j h64 _).mono ?_; rintro e w1 ⟨rfl, hw1⟩; obtain rfl := hw1.symm)
          all_goals
            go_wp2_with fail
            have hgk := HGK.out
            go_roundg (gk - 1)
            case measure => omega
            case rel => exact ⟨j + 1, h ||| only j, by go_num, by omega, by omega, HPUT.out⟩
    · obtain rfl : j = B.length := by omega
      have hjz : ¬ (B.length : Int) < (B.length : Int) := by omega
      go_wp2
      refine bodyPost_ret (v := knownV h y) ?_ rfl ⟨h, y, rfl, HS.out.bits, HY.out, (HS.out.bel.setCell (Nat.le_refl _) _).setCell (Nat.le_refl _) _⟩
      simp [results, Tryz.results91, go_sem, knownV, r0, r1]
end Go.Proofs.YtdbjklngnloibabGreat.form
