/- Rows of numbers of 32 bits: slices.Sort; each number once (slices.Compact); where a number is (slices.BinarySearch). -/
import Derived.Lib.SliceRun
import Derived.Deep.CutRange
import Derived.Deep.DeepCutAuto
import Derived.Deep.LoopGhost
import Derived.Test.YtcmnmogmdhofcaaGreatF15
import Derived.Test.YtcmnmogmdhofcaaGreatF14

namespace Go.Proofs.YtcmnmogmdhofcaaGreat.sortu
open Go.RowKit Go.Sort
set_option linter.unusedVariables false
set_option maxRecDepth 100000

set_option maxHeartbeats 4000000 in
theorem sortU (blk off cap : Nat) (d : Array Int) (w : World) (hH : Holds encU w blk off d) (hlt : blk < w.heap.size) (hsz : d.size < 50) :
    Calls Tryz.prog 44 #[.slice (some ⟨blk, off, none⟩) d.size cap] w fun e w' => e = .returned (.tuple #[]) ∧ ∃ d', Row w blk off d' w' ∧ PermIn 0 d.size d d' ∧ SortedIn ltInt 0 d.size d' := by
  have hk : bitsLen d.size ≤ 6 := (bitsLen_le_iff _ 6).2 (by omega)
  have hu : IntKind.u64.wrap (d.size : Int) = d.size := Go.Proofs.YtcmnmogmdhofcaaGreat.form.wrapU (by omega) (by omega)
  have c1 := lenU d.size hsz w
  have c2 := pdqU d.size blk off cap 0 d.size (bitsLen d.size) d d.size w (by omega) rfl hH hlt (by omega) (Nat.le_refl _) hsz (by omega) (by omega) (Or.inl rfl)
  go_enter Tryz.func44, Tryz.ntmps44
  go_wp2_with (first | (go_at_call 66; refine c1.mono ?_; rintro e w' ⟨rfl, hw'⟩; obtain rfl := hw'.symm) | (go_at_call 65; refine c2.mono ?_; rintro e w1 ⟨rfl, d', h1, h2, h3⟩; have H1 : Hid (Row w blk off d' w1) := h1; have H2 : Hid (PermIn 0 d.size d d') := h2; have H3 : Hid (SortedIn ltInt 0 d.size d') := h3; clear h1 h2 h3))
  go_end0
  exact ⟨rfl, d', H1.out, H2.out, H3.out⟩

theorem Row.set {w0 w : World} {blk off : Nat} {d : Array Int} (h : Row w0 blk off d w) {i : Nat} (hi : i < d.size) (x : Int) : Row w0 blk off (d.setIfInBounds i x) (w.setCell ⟨blk, off + i, none⟩ (encU x)) := by
  have e : w.setCell ⟨blk, off + i, none⟩ (encU x) = putRow encU w blk off (d.setIfInBounds i x) := by
    have := putRow_set encU w blk off d i x hi
    rwa [putRow_self encU w blk off d h.holds] at this
  rw [e]
  refine ⟨holds_putRow encU w blk off d _ h.holds (by simp), ?_⟩
  refine ⟨h.grown.os, h.grown.tape, h.grown.output, by rw [size_putRow]; exact h.grown.size, fun k hk hne => ?_⟩
  rw [← h.grown.block k hk hne]
  simp only [putRow, mapBlock, Array.getElem?_modify]
  rw [if_neg (fun e => hne (by rw [e]))]

structure Cp (d : Array Int) (m kk : Nat) (dk : Array Int) : Prop where
  sz : dk.size = d.size
  k1 : 1 ≤ kk
  km : kk ≤ m
  inc : ∀ j, 1 ≤ j → j < kk → dk[j - 1]! < dk[j]!
  last : dk[kk - 1]! = d[m - 1]!
  mem : ∀ x, (∃ j, j < kk ∧ dk[j]! = x) ↔ (∃ j, j < m ∧ d[j]! = x)
  rest : ∀ j, m - 1 ≤ j → dk[j]! = d[j]!

theorem cp_start (d : Array Int) : Cp d 1 1 d := ⟨rfl, by omega, by omega, fun j h1 h2 => by omega, rfl, fun x => Iff.rfl, fun j _ => rfl⟩
theorem Cp.next {d : Array Int} {m : Nat} (h : Cp d m m d) (hlt : d[m - 1]! < d[m]!) : Cp d (m + 1) (m + 1) d := by
  refine ⟨rfl, by omega, by omega, fun j h1 h2 => ?_, rfl, fun x => Iff.rfl, fun j _ => rfl⟩
  by_cases e : j = m
  · subst e; exact hlt
  · exact h.inc j h1 (by omega)
theorem Cp.same {d : Array Int} {m kk : Nat} {dk : Array Int} (h : Cp d m kk dk) (he : d[m]! = d[m - 1]!) (hm : 1 ≤ m) : Cp d (m + 1) kk dk := by
  refine ⟨h.sz, h.k1, by have := h.km; omega, h.inc, by rw [h.last, Nat.add_sub_cancel, he], fun x => ?_, fun j hj => h.rest j (by omega)⟩
  rw [h.mem]
  constructor
  · rintro ⟨j, hj, hx⟩; exact ⟨j, by omega, hx⟩
  · rintro ⟨j, hj, hx⟩
    by_cases e : j = m
    · subst e; exact ⟨j - 1, by omega, by rw [← he]; exact hx⟩
    · exact ⟨j, by omega, hx⟩
theorem Cp.put {d : Array Int} {m kk : Nat} {dk : Array Int} (h : Cp d m kk dk) (hkm : kk < m) (hm : m < d.size) (hlt : d[m - 1]! < d[m]!) : Cp d (m + 1) (kk + 1) (dk.setIfInBounds kk d[m]!) := by
  have hk := h.k1
  have hsz := h.sz
  have e1 : (dk.setIfInBounds kk d[m]!)[kk]! = d[m]! := getElem!_set_same dk kk _ (by omega)
  have e2 : ∀ j, j ≠ kk → (dk.setIfInBounds kk d[m]!)[j]! = dk[j]! := fun j hj => getElem!_set_other dk kk j _ hj
  refine ⟨by simp [hsz], by omega, by omega, fun j h1 h2 => ?_, by rw [Nat.add_sub_cancel, Nat.add_sub_cancel, e1], fun x => ?_, fun j hj => ?_⟩
  · by_cases e : j = kk
    · subst e
      rw [e1, e2 (j - 1) (by omega), h.last]
      exact hlt
    · rw [e2 j e, e2 (j - 1) (by omega)]
      exact h.inc j h1 (by omega)
  · constructor
    · rintro ⟨j, hj, hx⟩
      by_cases e : j = kk
      · subst e; rw [e1] at hx; exact ⟨m, by omega, hx⟩
      · rw [e2 j e] at hx
        obtain ⟨i, hi, hi2⟩ := (h.mem x).1 ⟨j, by omega, hx⟩
        exact ⟨i, by omega, hi2⟩
    · rintro ⟨j, hj, hx⟩
      by_cases e : j = m
      · subst e; exact ⟨kk, by omega, by rw [e1]; exact hx⟩
      · obtain ⟨i, hi, hi2⟩ := (h.mem x).2 ⟨j, by omega, hx⟩
        exact ⟨i, by omega, by rw [e2 i (by omega)]; exact hi2⟩
  · rw [e2 j (by omega)]
    exact h.rest j (by omega)
theorem sorted_step {d : Array Int} {n m : Nat} (h : SortedIn ltInt 0 n d) (h1 : 1 ≤ m) (hm : m < n) (hne : ¬ d[m]! = d[m - 1]!) : d[m - 1]! < d[m]! := by
  have := h (m - 1) m (by omega) (by omega) hm
  unfold ltInt at this
  simp at this
  omega

def firstL (dk : Array Int) (kk : Nat) : List Int := (List.range kk).map (fun j => dk[j]!)
theorem firstL_len (dk : Array Int) (kk : Nat) : (firstL dk kk).length = kk := by simp [firstL]
theorem firstL_get (dk : Array Int) {kk j : Nat} (h : j < kk) : (firstL dk kk).getD j 0 = dk[j]! := by simp [firstL, List.getD, h]
theorem firstL_inc {dk : Array Int} {kk : Nat} (h : ∀ j, 1 ≤ j → j < kk → dk[j - 1]! < dk[j]!) : (firstL dk kk).Pairwise (· < ·) := by
  have hh : ∀ n i, i + n + 1 < kk → dk[i]! < dk[i + n + 1]! := by
    intro n
    induction n with
    | zero => intro i hi; have := h (i + 1) (by omega) (by omega); simpa using this
    | succ n ih =>
      intro i hi
      have h1 := ih i (by omega)
      have h2 := h (i + n + 1 + 1) (by omega) (by omega)
      simp only [Nat.add_sub_cancel] at h2
      have e : i + (n + 1) + 1 = i + n + 1 + 1 := by omega
      rw [e]
      omega
  rw [firstL, List.pairwise_map, List.pairwise_iff_getElem]
  intro i j hi hj hij
  simp at hi hj
  simp only [List.getElem_range]
  have := hh (j - i - 1) i (by omega)
  have e : i + (j - i - 1) + 1 = j := by omega
  rwa [e] at this
theorem firstL_mem {dk : Array Int} {kk : Nat} {x : Int} : x ∈ firstL dk kk ↔ ∃ j, j < kk ∧ dk[j]! = x := by
  simp [firstL]

structure Once (w : World) (blk off cap : Nat) (d : Array Int) (E : List Int) (w' : World) : Prop where
  le : E.length ≤ d.size
  one : 1 ≤ E.length
  inc : E.Pairwise (· < ·)
  mem : ∀ x, x ∈ E ↔ ∃ j, j < d.size ∧ d[j]! = x
  cells : ∀ j, j < E.length → w'.cell? ⟨blk, off + j, none⟩ = some (.int .u32 (E.getD j 0))
  grown : w.grownBy w' (some blk)

theorem Cp.once {w w' : World} {blk off cap : Nat} {d : Array Int} {kk : Nat} {dk : Array Int} (h : Cp d d.size kk dk) (hc : ∀ j, j < kk → w'.cell? ⟨blk, off + j, none⟩ = some (.int .u32 (dk[j]!))) (hg : w.grownBy w' (some blk)) : Once w blk off cap d (firstL dk kk) w' :=
  ⟨by rw [firstL_len]; exact h.km, by rw [firstL_len]; exact h.k1, firstL_inc h.inc, fun x => by rw [firstL_mem, h.mem], fun j hj => by rw [firstL_len] at hj; rw [firstL_get dk hj]; exact hc j hj, hg⟩

end Go.Proofs.YtcmnmogmdhofcaaGreat.sortu

/- Rows of numbers of 32 bits: each number once (slices.Compact); where a number is (slices.BinarySearch). -/
namespace Go.Proofs.YtcmnmogmdhofcaaGreat.sortu
open Go.RowKit Go.Sort
set_option linter.unusedVariables false
set_option maxRecDepth 100000

theorem zeroU32 (w : World) : (zeroValue 47).run Tryz.prog w = .ok (.int .u32 0) w := by kernel_rfl
theorem grown_setCells {w : World} {b o : Nat} : ∀ (vs : List Value) (w' : World) (o' : Nat), w.grownBy w' (some b) → w.grownBy (w'.setCells b o' vs) (some b)
  | [], w', o', h => h
  | v :: vs, w', o', h => by
    refine grown_setCells (o := o) vs _ _ ?_
    refine ⟨h.os, h.tape, h.output, by simpa [World.setCell] using h.size, fun k hk hne => ?_⟩
    rw [Below.heap_setCell _ _ _ _ (fun e => hne (by rw [e]))]
    exact h.block k hk hne

set_option maxHeartbeats 8000000 in
theorem compactU (blk off cap : Nat) (d : Array Int) (w : World) (hH : Holds encU w blk off d) (h1 : 1 ≤ d.size) (hsz : d.size < 50) (hcap : d.size ≤ cap) (hS : SortedIn ltInt 0 d.size d) :
    Calls Tryz.prog 45 #[.slice (some ⟨blk, off, none⟩) d.size cap] w fun e w' => ∃ E : List Int, e = .returned (.slice (some ⟨blk, off, none⟩) E.length cap) ∧ Once w blk off cap d E w' := by
  have HH : Hid (Row w blk off d w) := Row.start hH
  have HS : Hid (SortedIn ltInt 0 d.size d) := hS
  clear hH hS
  obtain ⟨G, hG⟩ : ∃ G : Nat → Int, ∀ t, G t = d[t]! := ⟨fun t => d[t]!, fun _ => rfl⟩
  have HG : Hid (∀ t, G t = d[t]!) := hG
  clear hG
  by_cases h2 : d.size < 2
  · have hz : (d.size : Int) < 2 := by omega
    go_enter Tryz.func45, Tryz.ntmps45
    go_wp2
    go_ret
    have hcp := cp_start d
    have e1 : d.size = 1 := by omega
    refine ⟨firstL d 1, by rw [firstL_len, e1]; rfl, (show Cp d d.size 1 d from by rw [e1]; exact hcp).once (fun j hj => (HH.out.holds j (by omega)).1) HH.out.grown⟩
  have hz : ¬ (d.size : Int) < 2 := by omega
  go_enter Tryz.func45, Tryz.ntmps45
  go_wp2
  go_loopg [3] d.size (fun g v wr => ∃ k : Nat, v = .int .i64 k ∧ 1 ≤ k ∧ k ≤ d.size ∧ g = d.size + 1 - k ∧ Row w blk off d wr ∧ Cp d k k d)
  case atStart => exact ⟨1, rfl, Nat.le_refl _, by omega, by omega, HH.out, cp_start d⟩
  case round =>
    clear HH
    obtain ⟨k, rfl, hk1, hk2, hgk, hrow, hcp⟩ := hrel
    have HGK : Hid (gk = d.size + 1 - k) := hgk
    have HR : Hid (Row w blk off d wr) := hrow
    have HC : Hid (Cp d k k d) := hcp
    have hcw : ∀ t, t < d.size → wr.cell? ⟨blk, off + t, none⟩ = some (.int .u32 (G t)) := fun t ht => by rw [HG.out]; exact (hrow.holds t ht).1
    clear hgk hrow hcp
    by_cases hkn : k < d.size
    case neg =>
      have hkz : ¬ (k : Int) < (d.size : Int) := by omega
      go_wp2
      go_ret
      have ek : k = d.size := by omega
      subst ek
      exact ⟨firstL d d.size, by rw [firstL_len]; rfl, HC.out.once (fun j hj => (HR.out.holds j hj).1) HR.out.grown⟩
    have hkz : (k : Int) < (d.size : Int) := by omega
    by_cases heq : G k = G (k - 1)
    · have heqz : (G k == G (k - 1)) = true := by simp [heq]
      have HEQ : Hid (G k = G (k - 1)) := heq
      clear heq
      go_upto_region 6 with fail
      go_cut [25] (fun s wq => s = .bool true ∧ Row w blk off d wq)
      case first =>
        go_quiet (fail)
        go_wp2_with fail
        go_meet
        case rel => exact ⟨rfl, HR.out.drewN nq⟩
      case rest =>
        obtain ⟨hs25, hrow2⟩ := hcut
        subst hs25
        have HR2 : Hid (Row w blk off d wc) := hrow2
        have HC2 : Hid (Cp d (k + 1) k d) := HC.out.same (by rw [← HG.out, ← HG.out]; exact HEQ.out) hk1
        have hkc : k ≤ cap := by omega
        clear HR hcw hrow2 HC
        go_wp2
        go_loopg [3, 5] (d.size - k) (fun g v u wr => ∃ (kk k2 : Nat) (dk : Array Int), v = .int .i64 kk ∧ u = .int .i64 k2 ∧ 1 ≤ k2 ∧ k + k2 ≤ d.size ∧ kk < k + k2 ∧ g = d.size - (k + k2) + 1 ∧ Row w blk off dk wr ∧ Cp d (k + k2) kk dk)
        case atStart => exact ⟨k, 1, d, rfl, rfl, Nat.le_refl _, by omega, by omega, by omega, HR2.out, HC2.out⟩
        case round =>
          clear HR2 HC2
          obtain ⟨kk, k2, dk, rfl, rfl, hk21, hk22, hkk, hgk, hrow, hcp⟩ := hrel
          have HGK2 : Hid (gk = d.size - (k + k2) + 1) := hgk
          have HR : Hid (Row w blk off dk wr) := hrow
          have HC : Hid (Cp d (k + k2) kk dk) := hcp
          have hsk := hcp.sz
          have hkk1 := hcp.k1
          have hcw : ∀ t, k + k2 - 1 ≤ t ∧ t < d.size → wr.cell? ⟨blk, off + t, none⟩ = some (.int .u32 (G t)) := fun t ht => by rw [HG.out, ← hcp.rest t ht.1]; exact (hrow.holds t (by omega)).1
          obtain ⟨u0, hu0⟩ : ∃ u0, u0 = dk[kk]! := ⟨_, rfl⟩
          have hkn2 : kk < d.size := by omega
          have hck : wr.cell? ⟨blk, off + kk, none⟩ = some (.int .u32 u0) := by rw [hu0]; exact (hrow.holds kk (by omega)).1
          have hfk : wr.frozen? ⟨blk, off + kk, none⟩ = false := (hrow.holds kk (by omega)).2
          clear hgk hcp hu0
          by_cases hk2n : k + k2 < d.size
          case neg =>
            have hk2z : ¬ (k2 : Int) < ((d.size - k : Nat) : Int) := by omega
            have hcl : ∀ ty, (Builtin.clear_ #[64] ty #[.slice (some ⟨blk, off + kk, none⟩) (d.size - kk) (cap - kk)]).run Tryz.prog wr = .ok (.tuple #[]) (wr.setCells blk (off + kk) (List.replicate (d.size - kk) (.int .u32 0))) :=
              fun ty => Lib.run_clear_slice wr _ _ ty _ Tryz.underlying64 zeroU32 rfl rfl blk (off + kk) _ _ (by omega) (fun j hj => by rw [show off + kk + j = off + (kk + j) by omega, (hrow.holds (kk + j) (by omega)).1]; rfl) (fun j hj => by rw [show off + kk + j = off + (kk + j) by omega]; exact (hrow.holds (kk + j) (by omega)).2)
            have hkc2 : kk ≤ cap := by omega
            clear hrow hcw hck hfk
            go_wp2
            go_ret
            have e9 : k + k2 = d.size := by omega
            have hcp9 : Cp d d.size kk dk := by rw [← e9]; exact HC.out
            refine ⟨firstL dk kk, by rw [firstL_len]; rfl, hcp9.once (fun j hj => ?_) (grown_setCells (o := 0) _ _ _ HR.out.grown)⟩
            rw [World.cell?_setCells_out _ _ _ _ _ (fun _ _ => Or.inl (by dsimp only; omega))]
            exact (HR.out.holds j (by omega)).1
          have hk2z : (k2 : Int) < ((d.size - k : Nat) : Int) := by omega
          by_cases hne : G (k + k2) = G (k + k2 - 1)
          · have hnez : (G (k + k2) != G (k + k2 - 1)) = false := by simp [hne]
            have HC3 : Hid (Cp d (k + k2 + 1) kk dk) := HC.out.same (by rw [← HG.out, ← HG.out]; exact hne) (by omega)
            clear hrow hne
            go_upto_region 11 with fail
            go_cut [44] (fun s wq => s = .bool false ∧ Row w blk off dk wq)
            case first =>
              go_quiet (fail)
              go_wp2_with fail
              go_meet
              case rel => exact ⟨by rw [← hnez]; congr 2 <;> (congr 1; omega), HR.out.drewN nq⟩
            case rest =>
              obtain ⟨hs44, hrow4⟩ := hcut
              subst hs44
              have HR4 : Hid (Row w blk off dk wc) := hrow4
              clear hrow4 hcw hck hfk
              go_wp2
              have hgk := HGK2.out
              go_roundg (gk - 1)
              case measure => omega
              case rel => exact ⟨kk, k2 + 1, dk, rfl, by go_num, by omega, by omega, by omega, by omega, HR4.out, HC3.out⟩
          · have hnez : (G (k + k2) != G (k + k2 - 1)) = true := by simp [hne]
            have HC3 : Hid (Cp d (k + k2 + 1) (kk + 1) (dk.setIfInBounds kk d[k + k2]!)) := HC.out.put hkk hk2n (sorted_step HS.out (by omega) hk2n (by rw [← HG.out, ← HG.out]; exact hne))
            clear hrow hne
            go_upto_region 11 with fail
            go_cut [44] (fun s wq => s = .bool true ∧ Row w blk off dk wq)
            case first =>
              go_quiet (fail)
              go_wp2_with fail
              go_meet
              case rel => exact ⟨by rw [← hnez]; congr 2 <;> (congr 1; omega), HR.out.drewN nq⟩
            case rest =>
              obtain ⟨hs44, hrow4⟩ := hcut
              subst hs44
              have HR4 : Hid (Row w blk off dk wc) := hrow4
              clear hcw hck hfk
              have hc1 : wc.cell? ⟨blk, off + k + k2, none⟩ = some (.int .u32 (G (k + k2))) := by rw [HG.out, ← HC.out.rest (k + k2) (by omega), show off + k + k2 = off + (k + k2) by omega]; exact (hrow4.holds (k + k2) (by omega)).1
              obtain ⟨u0, hu0⟩ : ∃ u0, u0 = dk[kk]! := ⟨_, rfl⟩
              have hck : wc.cell? ⟨blk, off + kk, none⟩ = some (.int .u32 u0) := by rw [hu0]; exact (hrow4.holds kk (by omega)).1
              have hfk : wc.frozen? ⟨blk, off + kk, none⟩ = false := (hrow4.holds kk (by omega)).2
              have hset := HR4.out.set (i := kk) (by omega) (G (k + k2))
              have HST : Hid (Row w blk off (dk.setIfInBounds kk (G (k + k2))) (wc.setCell ⟨blk, off + kk, none⟩ (encU (G (k + k2))))) := hset
              clear hrow4 hu0 hset
              go_wp2
              have hgk := HGK2.out
              go_roundg (gk - 1)
              case measure => omega
              case rel => exact ⟨kk + 1, k2 + 1, dk.setIfInBounds kk d[k + k2]!, by go_num, by go_num, by omega, by omega, by omega, by omega, by rw [← HG.out]; exact HST.out, HC3.out⟩
    · have heqz : (G k == G (k - 1)) = false := by simp [heq]
      have HC3 : Hid (Cp d (k + 1) (k + 1) d) := HC.out.next (sorted_step HS.out hk1 hkn (by rw [← HG.out, ← HG.out]; exact heq))
      clear heq
      go_upto_region 6 with fail
      go_cut [25] (fun s wq => s = .bool false ∧ Row w blk off d wq)
      case first =>
        go_quiet (fail)
        go_wp2_with fail
        go_meet
        case rel => exact ⟨rfl, HR.out.drewN nq⟩
      case rest =>
        obtain ⟨hs25, hrow2⟩ := hcut
        subst hs25
        have HR2 : Hid (Row w blk off d wc) := hrow2
        clear hrow2 hcw HR
        go_wp2
        have hgk := HGK.out
        go_roundg (gk - 1)
        case measure => omega
        case rel => exact ⟨k + 1, by go_num, by omega, by omega, by omega, HR2.out, HC3.out⟩
theorem isNaNS (x : Int) (w : World) : Calls Tryz.prog 90 #[.int .u32 x] w fun e w' => e = .returned (.bool false) ∧ w' = w := by
  go_enter Tryz.func90, Tryz.ntmps90
  go_wp2
  go_ret
  exact ⟨by simp, rfl⟩

def FoundAt (E : List Int) (n : Nat) (x : Int) (e : Ending) : Prop := ∃ (k : Nat) (f : Bool), e = .returned (.tuple #[.int .i64 k, .bool f]) ∧ (f = true → k < n ∧ E.getD k 0 = x) ∧ (f = false → ∀ j, j < n → ¬ E.getD j 0 = x)

set_option maxHeartbeats 4000000 in
theorem searchU (blk off cap : Nat) (E : List Int) (x : Int) (w : World) (hc : ∀ j, j < E.length → w.cell? ⟨blk, off + j, none⟩ = some (.int .u32 (E.getD j 0))) (hlen : E.length < 50) (hinc : E.Pairwise (· < ·)) :
    Calls Tryz.prog 67 #[.slice (some ⟨blk, off, none⟩) E.length cap, .int .u32 x] w fun e w' => FoundAt E E.length x e ∧ w' = w := by
  obtain ⟨G, hG⟩ : ∃ G : Nat → Int, ∀ t, G t = E.getD t 0 := ⟨fun t => E.getD t 0, fun _ => rfl⟩
  have hcw : ∀ t, t < E.length → w.cell? ⟨blk, off + t, none⟩ = some (.int .u32 (G t)) := fun t ht => by rw [hG]; exact hc t ht
  have HG : Hid (∀ t, G t = E.getD t 0) := hG
  have HI : Hid (∀ i j, i < j → j < E.length → G i < G j) := fun i j hij hj => by
    rw [hG, hG]
    rw [List.pairwise_iff_getElem] at hinc
    have := hinc i j (by omega) hj hij
    simpa [List.getD, hj, Nat.lt_trans hij hj] using this
  clear hc hG hinc
  obtain ⟨n, hn⟩ : ∃ n, n = E.length := ⟨_, rfl⟩
  rw [← hn] at hcw hlen HI ⊢
  have HN : Hid (n = E.length) := hn
  clear hn
  go_enter Tryz.func67, Tryz.ntmps67
  go_wp2
  go_loopw [7, 8] (fun v u wr => ∃ i j : Nat, v = .int .i64 i ∧ u = .int .i64 j ∧ i ≤ j ∧ j ≤ n ∧ wr = w ∧ (∀ t, t < i → G t < x) ∧ (∀ t, j ≤ t → t < n → x ≤ G t)) (fun v u _ => (numOf u).toNat - (numOf v).toNat)
  case atStart => exact ⟨0, n, rfl, rfl, by omega, Nat.le_refl _, rfl, fun t ht => by omega, fun t h1 h2 => by omega⟩
  case round =>
    obtain ⟨i, j, rfl, rfl, hij, hjn, hwr, hlo, hhi⟩ := hrel
    subst hwr
    have HLO : Hid (∀ t, t < i → G t < x) := hlo
    have HHI : Hid (∀ t, j ≤ t → t < n → x ≤ G t) := hhi
    clear hlo hhi
    by_cases hlt : i < j
    · have hltz : (i : Int) < (j : Int) := by omega
      obtain ⟨h, hh, hh2⟩ : ∃ h : Nat, ((i : Int) + (j : Int)) / 2 = (h : Int) ∧ h = (i + j) / 2 := ⟨(i + j) / 2, by omega, rfl⟩
      have hih : i ≤ h := by omega
      have hhj : h < j := by omega
      have hu : IntKind.u64.wrap ((i : Int) + (j : Int)) = (i : Int) + (j : Int) := Go.Proofs.YtcmnmogmdhofcaaGreat.form.wrapU (by omega) (by omega)
      clear hh2
      by_cases hl : G h < x
      · have hlb : ltInt (G h) x = true := by simp [ltInt, hl]
        go_wp2_with (go_at_call 85; refine (lessU _ _ _).mono ?_; rw [hlb]; rintro e w' ⟨rfl, hw'⟩; obtain rfl := hw'.symm)
        go_roundw
        case rel => exact ⟨h + 1, j, by go_num, rfl, by omega, hjn, trivial, fun t ht => by rcases Nat.eq_or_lt_of_le (show t ≤ h by omega) with e | e; (rw [e]; exact hl); (have := HI.out t h e (by omega); omega), HHI.out⟩
        case measure => simp [numOf]; omega
      · have hlb : ltInt (G h) x = false := by simp [ltInt, hl]
        go_wp2_with (go_at_call 85; refine (lessU _ _ _).mono ?_; rw [hlb]; rintro e w' ⟨rfl, hw'⟩; obtain rfl := hw'.symm)
        go_roundw
        case rel => exact ⟨i, h, rfl, rfl, hih, by omega, trivial, HLO.out, fun t h1 h2 => by rcases Nat.eq_or_lt_of_le h1 with e | e; (rw [← e]; omega); (have := HI.out h t e h2; omega)⟩
        case measure => simp [numOf]; omega
    · obtain rfl : i = j := by omega
      have HLE : Hid (n = E.length) := HN
      have fin : ∀ f : Bool, (f = true → i < n ∧ G i = x) → (f = false → ∀ t, t < n → ¬ G t = x) → ∀ e w', e = Ending.returned (.tuple #[.int .i64 ((i : Nat) : Int), .bool f]) → w' = wr → (FoundAt E n x e ∧ w' = wr) :=
        fun f h1 h2 e w' he hw => ⟨⟨i, f, he, fun hf => by obtain ⟨a1, a2⟩ := h1 hf; exact ⟨a1, by rw [← HG.out]; exact a2⟩, fun hf j hj => by rw [← HG.out]; exact h2 hf j hj⟩, hw⟩
      have FIN : Hid _ := fin
      clear fin
      by_cases hin : i < n
      · have hinz : (i : Int) < (n : Int) := by omega
        by_cases hgx : G i = x
        · have hgz : (G i == x) = true := by simp [hgx]
          have HGX : Hid (G i = x) := hgx
          clear hgx
          go_wp2
          refine bodyPost_ret (v := .tuple #[.int .i64 ((i : Nat) : Int), .bool true]) ?_ rfl (FIN.out true (fun _ => ⟨hin, HGX.out⟩) (fun h => (by cases h)) _ _ rfl rfl)
          simp [results, Tryz.results67, go_sem]
        · have hgz : (G i == x) = false := by simp [hgx]
          go_wp2_with (go_at_call 90; refine (isNaNS _ _).mono ?_; rintro e w' ⟨rfl, hw'⟩; obtain rfl := hw'.symm)
          refine bodyPost_ret (v := .tuple #[.int .i64 ((i : Nat) : Int), .bool false]) ?_ rfl (FIN.out false (fun h => (by cases h)) (fun _ t ht => ?_) _ _ rfl rfl)
          · simp [results, Tryz.results67, go_sem]
          · rcases Nat.lt_trichotomy t i with e | e | e
            · have := HLO.out t e; omega
            · rw [e]; exact hgx
            · have h1 := HHI.out i (Nat.le_refl _) hin
              have h2 := HI.out i t e ht
              omega
      · have hinz : ¬ (i : Int) < (n : Int) := by omega
        go_wp2
        refine bodyPost_ret (v := .tuple #[.int .i64 ((i : Nat) : Int), .bool false]) ?_ rfl (FIN.out false (fun h => (by cases h)) (fun _ t ht => by have := HLO.out t (by omega); omega) _ _ rfl rfl)
        simp [results, Tryz.results67, go_sem]

end Go.Proofs.YtcmnmogmdhofcaaGreat.sortu

/- What the world of facts tells of numbers and kinds (world.number, world.may). -/
namespace Go.Proofs.YtcmnmogmdhofcaaGreat.form
open Go.RowKit Go.Maps
set_option linter.unusedVariables false
set_option maxRecDepth 100000
attribute [local go_sem ↓] Go.wp_at_zero Go.wp_at_succ

def NumS (N : List Int) (n : Int) (x : Bits) : Prop := ∀ k, x.getLsbD k = true ↔ k < N.length ∧ nAt N k = n

theorem numberO {w : World} {lim : Nat} {g : WB} {B : List Bool} {C : List LIns} {R : List LRow} {A : List LPlace} {N : List Int} {s slots : Nat} (hW : WorldAt w lim g B C R A N) (hD : Dims B C s slots A N) (n : Int) :
    Calls Tryz.prog 46 #[.pointer (some ⟨g.q, 0, none⟩), .int .u32 n] w fun e w' => (∃ x, e = .returned (.int .u64 (bn x)) ∧ NumS N n x) ∧ w' = w := by
  have y4 := hW.stat.p4
  have h41 := hD.n41
  have HI : Hid (N.Pairwise (· < ·)) := hD.inc
  have c := Go.Proofs.YtcmnmogmdhofcaaGreat.sortu.searchU g.b4 0 g.c4 N n w (fun j hj => by rw [Nat.zero_add]; exact hW.stat.nums j hj) (by omega) hD.inc
  clear hD hW
  go_enter Tryz.func46, Tryz.ntmps46
  go_wp2_with (go_at_call 67; refine c.mono ?_; rintro e w1 ⟨⟨k, f, rfl, hf1, hf2⟩, hw1⟩; obtain rfl := hw1.symm; have HF1 : Hid (f = true → k < N.length ∧ N.getD k 0 = n) := hf1; have HF2 : Hid (f = false → ∀ j, j < N.length → ¬ N.getD j 0 = n) := hf2; clear hf1 hf2; rcases Bool.eq_false_or_eq_true f with hf | hf <;> subst hf)
  · obtain ⟨h1, h2⟩ := HF1.out trivial
    have h64 : k < 64 := by omega
    go_wp2_with (go_at_call 51; refine (onlyO k h64 _).mono ?_; rintro e w1 ⟨rfl, hw1⟩; obtain rfl := hw1.symm)
    go_ret
    refine ⟨⟨only k, rfl, fun j => ?_⟩, rfl⟩
    rw [only_bit h64]
    constructor
    · rintro rfl; exact ⟨h1, h2⟩
    · rintro ⟨h3, h4⟩; exact getD_inj HI.out h3 h1 (by unfold nAt at h4 ⊢; rw [h4, h2])
  · go_wp2
    go_ret
    refine ⟨⟨0, rfl, fun j => ?_⟩, rfl⟩
    constructor
    · intro h; simp at h
    · rintro ⟨h3, h4⟩; exact absurd h4 (HF2.out trivial j h3)

theorem only_less {n : Nat} (hn : n < 64) : ∃ X : Bits, IntKind.u64.wrap (bn (only n) - 1) = bn X ∧ ∀ k, X.getLsbD k = true ↔ k < n := by
  refine ⟨BitVec.ofNat 64 (2 ^ n - 1), ?_, fun k => ?_⟩
  · have e : (only n).toNat = 2 ^ n := by
      unfold only
      rw [BitVec.toNat_twoPow]
      exact Nat.mod_eq_of_lt (Nat.pow_lt_pow_right (by omega) hn)
    have h1 : 2 ^ n < 2 ^ 64 := Nat.pow_lt_pow_right (by omega) hn
    have h2 : 0 < 2 ^ n := Nat.pow_pos (by omega)
    have e2 : bn (BitVec.ofNat 64 (2 ^ n - 1)) = ((2 ^ n - 1 : Nat) : Int) := by
      unfold bn
      rw [BitVec.toNat_ofNat, Nat.mod_eq_of_lt (by omega)]
    rw [e2]
    unfold bn
    rw [e]
    have e3 : (((2 ^ n : Nat) : Int) - 1) = ((2 ^ n - 1 : Nat) : Int) := by omega
    rw [e3]
    exact wrapU (by omega) (by omega)
  · rw [BitVec.getLsbD_ofNat, Nat.testBit_two_pow_sub_one]
    simp
    omega

def mayT (B : List Bool) (kind : Int) (t : Nat) : Bool := (kind == 3) || (B.getD t false == (kind == 2))

structure MyS (w : World) (lim : Nat) (g : WB) (B : List Bool) (C : List LIns) (R : List LRow) (A : List LPlace) (N : List Int) (kind : Int) (j : Nat) (h : Bits) (wr : World) : Prop where
  bel : Below w.heap.size w wr
  z : w.heap.size + 1 < wr.heap.size
  a0 : wr.cell? ⟨w.heap.size + 1, 0, none⟩ = some (.int .u64 (bn h))
  a1 : wr.cell? ⟨w.heap.size + 1, 1, none⟩ = some (.int .u64 0)
  f0 : wr.frozen? ⟨w.heap.size + 1, 0, none⟩ = false
  f1 : wr.frozen? ⟨w.heap.size + 1, 1, none⟩ = false
  r0 : wr.cell? ⟨w.heap.size, 0, none⟩ = some (.int .u64 0)
  r1 : wr.cell? ⟨w.heap.size, 1, none⟩ = some (.int .u64 0)
  s0 : wr.frozen? ⟨w.heap.size, 0, none⟩ = false
  s1 : wr.frozen? ⟨w.heap.size, 1, none⟩ = false
  bits : ∀ t, h.getLsbD t = true ↔ t < j ∧ mayT B kind t = true

theorem MyS.drewN {w : World} {lim : Nat} {g : WB} {B : List Bool} {C : List LIns} {R : List LRow} {A : List LPlace} {N : List Int} {kind : Int} {j : Nat} {h : Bits} {wr : World} (hs : MyS w lim g B C R A N kind j h wr) (q : Nat) : MyS w lim g B C R A N kind j h (wr.drewN q) :=
  ⟨below_drewN hs.bel q, hs.z, hs.a0, hs.a1, hs.f0, hs.f1, hs.r0, hs.r1, hs.s0, hs.s1, hs.bits⟩

theorem MyS.put {w : World} {lim : Nat} {g : WB} {B : List Bool} {C : List LIns} {R : List LRow} {A : List LPlace} {N : List Int} {kind : Int} {j j' : Nat} {h h' : Bits} {wr : World} (hs : MyS w lim g B C R A N kind j h wr) (hb : ∀ t, h'.getLsbD t = true ↔ t < j' ∧ mayT B kind t = true) :
    MyS w lim g B C R A N kind j' h' (wr.setCell ⟨w.heap.size + 1, 0, none⟩ (.int .u64 (bn h'))) := by
  have a0 := hs.a0
  have a1 := hs.a1
  have r0 := hs.r0
  have r1 := hs.r1
  have e1 : ∀ o, (wr.setCell ⟨w.heap.size + 1, 0, none⟩ (.int .u64 (bn h'))).cell? ⟨w.heap.size, o, none⟩ = wr.cell? ⟨w.heap.size, o, none⟩ := fun o => World.cell?_of_block (Below.heap_setCell _ _ _ _ (by dsimp only; omega))
  exact ⟨hs.bel.setCell (by dsimp only; omega) _, by have := hs.z; simpa [World.setCell] using this, by simp [go_sem, a0], by simp [go_sem, a1], by have := hs.f0; simpa [go_sem] using this, by have := hs.f1; simpa [go_sem] using this, by rw [e1]; exact r0, by rw [e1]; exact r1, by have := hs.s0; simpa [go_sem] using this, by have := hs.s1; simpa [go_sem] using this, hb⟩
theorem MyS.skip {w : World} {lim : Nat} {g : WB} {B : List Bool} {C : List LIns} {R : List LRow} {A : List LPlace} {N : List Int} {kind : Int} {j : Nat} {h : Bits} {wr : World} (hs : MyS w lim g B C R A N kind j h wr) (hc : mayT B kind j = false) : MyS w lim g B C R A N kind (j + 1) h wr :=
  ⟨hs.bel, hs.z, hs.a0, hs.a1, hs.f0, hs.f1, hs.r0, hs.r1, hs.s0, hs.s1, fun t => by
    rw [hs.bits]
    constructor
    · rintro ⟨h1, h2⟩; exact ⟨by omega, h2⟩
    · rintro ⟨h1, h2⟩
      refine ⟨?_, h2⟩
      rcases Nat.eq_or_lt_of_le (Nat.le_of_lt_succ h1) with e | e
      · rw [e, hc] at h2; cases h2
      · exact e⟩
theorem may_or {B : List Bool} {kind : Int} {j : Nat} {h : Bits} (hj : j < 64) (hb : ∀ t, h.getLsbD t = true ↔ t < j ∧ mayT B kind t = true) (hc : mayT B kind j = true) : ∀ t, (h ||| only j).getLsbD t = true ↔ t < j + 1 ∧ mayT B kind t = true := by
  intro t
  rw [bits_or_only hj, hb]
  constructor
  · rintro (⟨h1, h2⟩ | rfl)
    · exact ⟨by omega, h2⟩
    · exact ⟨by omega, hc⟩
  · rintro ⟨h1, h2⟩
    rcases Nat.eq_or_lt_of_le (Nat.le_of_lt_succ h1) with e | e
    · exact Or.inr e
    · exact Or.inl ⟨e, h2⟩

set_option maxHeartbeats 4000000 in
theorem mayW {w : World} {lim : Nat} {g : WB} {B : List Bool} {C : List LIns} {R : List LRow} {A : List LPlace} {N : List Int} {s slots : Nat} (hW : WorldAt w lim g B C R A N) (hD : Dims B C s slots A N) (kind : Int) :
    Calls Tryz.prog 47 #[.pointer (some ⟨g.q, 0, none⟩), .int .i64 kind] w fun e w' => ∃ x y, e = .returned (knownV x y) ∧ (∀ t, x.getLsbD t = true ↔ t < B.length ∧ mayT B kind t = true) ∧ (∀ k, y.getLsbD k = true ↔ k < N.length ∧ ¬ kind = 2) ∧ Below w.heap.size w w' := by
  have hb12 := hD.b12
  have h41 := hD.n41
  have HW : Hid (WorldAt w lim g B C R A N) := hW
  have y0 := hW.stat.p0
  have hq := cell_lt y0
  have hz : MyS w lim g B C R A N kind 0 0 ((w.alloc (.cells #[.int .u64 0, .int .u64 0] 89)).alloc (.cells #[.int .u64 0, .int .u64 0] 89)) :=
    ⟨((Below.refl _ _).alloc (Nat.le_refl _) _).alloc (by simp) _, by simp, by simp [go_sem]; rfl, by simp [go_sem], by simp [go_sem], by simp [go_sem], by simp [go_sem], by simp [go_sem], by simp [go_sem], by simp [go_sem], fun t => by simp⟩
  have HZ : Hid (MyS w lim g B C R A N kind 0 0 ((w.alloc (.cells #[.int .u64 0, .int .u64 0] 89)).alloc (.cells #[.int .u64 0, .int .u64 0] 89))) := hz
  clear hz hW hD
  go_enter Tryz.func47, Tryz.ntmps47
  go_wp2
  go_loopg [6, 7, 14] (B.length + 1) (fun gg v6 v7 v wr => ∃ (j : Nat) (h : Bits), v = .int .i64 j ∧ j ≤ B.length ∧ gg = B.length + 1 - j ∧ MyS w lim g B C R A N kind j h wr)
  case atStart => exact ⟨0, 0, rfl, by omega, by omega, HZ.out⟩
  case round =>
    clear HZ
    obtain ⟨j, h, rfl, hj, hgk, hs⟩ := hrel
    have HGK : Hid (gk = B.length + 1 - j) := hgk
    have HS : Hid (MyS w lim g B C R A N kind j h wr) := hs
    have z1 := hs.z
    have a0 := hs.a0
    have a1 := hs.a1
    have f0 := hs.f0
    have f1 := hs.f1
    have r0 := hs.r0
    have r1 := hs.r1
    have s0 := hs.s0
    have s1 := hs.s1
    clear hgk hs
    by_cases hjl : j < B.length
    · have hjz : (j : Int) < (B.length : Int) := by omega
      have hc := (HW.out.below HS.out.bel).stat.held.wide j hjl
      obtain ⟨bj, hbj⟩ : ∃ bj, bj = B.getD j false := ⟨_, rfl⟩
      rw [← hbj] at hc
      obtain ⟨c, hcc⟩ : ∃ c, c = mayT B kind j := ⟨_, rfl⟩
      have HC : Hid (c = mayT B kind j) := hcc
      have HCB : Hid (c = ((kind == 3) || (bj == (kind == 2)))) := by show c = _; rw [hcc, hbj]; rfl
      clear hcc hbj
      go_upto_region 5 with fail
      go_cut [26] (fun s wq => s = .bool c ∧ wq = wr)
      case first =>
        by_cases hk3 : kind = 3
        · have hk3z : (kind == 3) = true := by simp [hk3]
          go_wp2
          go_meet
          case rel => exact ⟨by rw [HCB.out]; simp [hk3], rfl⟩
        · have hk3z : (kind == 3) = false := by simp [hk3]
          go_wp2
          go_meet
          case rel => exact ⟨by rw [HCB.out, hk3z]; simp, rfl⟩
      case rest =>
        obtain ⟨hs26, hwc⟩ := hcut
        have hwc2 := hwc.symm
        subst hs26 hwc2
        clear hwc
        have h64 : j < 64 := by omega
        cases c with
        | false =>
          go_wp2
          have hgk := HGK.out
          go_roundg (gk - 1)
          case measure => omega
          case rel => exact ⟨j + 1, h, by go_num, by omega, by omega, HS.out.skip HC.out.symm⟩
        | true =>
          have hor := or_is h (only j)
          have hput := (HS.out.drewN 1).put (may_or h64 HS.out.bits HC.out.symm)
          have HPUT : Hid (MyS w lim g B C R A N kind (j + 1) (h ||| only j) ((wr.drewN 1).setCell ⟨w.heap.size + 1, 0, none⟩ (.int .u64 (bn (h ||| only j))))) := hput
          clear hput
          go_wp2
          go_region_with (go_at_call 51; refine (onlyO j h64 _).mono ?_; rintro e w1 ⟨rfl, hw1⟩; obtain rfl := hw1.symm)
          all_goals
            go_wp2_with fail
            have hgk := HGK.out
            go_roundg (gk - 1)
            case measure => omega
            case rel => exact ⟨j + 1, h ||| only j, by go_num, by omega, by omega, HPUT.out⟩
    · obtain rfl : j = B.length := by omega
      have hjz : ¬ (B.length : Int) < (B.length : Int) := by omega
      by_cases hk2 : kind = 2
      · have hk2z : (kind != 2) = false := by simp [hk2]
        have HK2 : Hid (kind = 2) := hk2
        clear hk2
        go_wp2
        refine bodyPost_ret (v := knownV h 0) ?_ rfl ⟨h, 0, rfl, HS.out.bits, fun k => by simp [HK2.out], ?_⟩
        · simp [results, Tryz.results47, go_sem, knownV, r0, r1]
          rfl
        · exact (HS.out.bel.setCell (Nat.le_refl _) _).setCell (Nat.le_refl _) _
      · have hk2z : (kind != 2) = true := by simp [hk2]
        have HK2 : Hid (¬ kind = 2) := hk2
        clear hk2
        obtain ⟨Y, hY, hYb⟩ := only_less (n := N.length) (by omega)
        have HYB : Hid (∀ k, Y.getLsbD k = true ↔ k < N.length) := hYb
        clear hYb
        have y4 := (HW.out.below HS.out.bel).stat.p4
        have h64 : N.length < 64 := by omega
        go_wp2_with (go_at_call 51; refine (onlyO N.length h64 _).mono ?_; rintro e w1 ⟨rfl, hw1⟩; obtain rfl := hw1.symm)
        refine bodyPost_ret (v := knownV h Y) ?_ rfl ⟨h, Y, rfl, HS.out.bits, fun k => by rw [HYB.out]; simp [HK2.out], ?_⟩
        · simp [results, Tryz.results47, go_sem, knownV, r0, r1]
        · exact ((HS.out.bel.setCell (Nat.le_succ _) _).setCell (Nat.le_refl _) _).setCell (Nat.le_refl _) _
end Go.Proofs.YtcmnmogmdhofcaaGreat.form

/- What is known of a place that becomes a number (world.ofNumber). -/
namespace Go.Proofs.YtcmnmogmdhofcaaGreat.form
open Go.RowKit Go.Maps
set_option linter.unusedVariables false
set_option maxRecDepth 100000
attribute [local go_sem ↓] Go.wp_at_zero Go.wp_at_succ

def ofT (m : FM) (y : Bits) (t : Nat) : Bool := !((m.tmp t &&& y) == 0)

structure OnS (w : World) (m : FM) (y : Bits) (gb : Nat) (j : Nat) (h : Bits) (wr : World) : Prop where
  bel : Below w.heap.size w wr
  gz : w.heap.size + 1 ≤ gb
  z : gb < wr.heap.size
  a0 : wr.cell? ⟨gb, 0, none⟩ = some (.int .u64 (bn h))
  a1 : wr.cell? ⟨gb, 1, none⟩ = some (.int .u64 (bn y))
  f0 : wr.frozen? ⟨gb, 0, none⟩ = false
  r0 : wr.cell? ⟨w.heap.size, 0, none⟩ = some (.int .u64 0)
  r1 : wr.cell? ⟨w.heap.size, 1, none⟩ = some (.int .u64 0)
  s0 : wr.frozen? ⟨w.heap.size, 0, none⟩ = false
  s1 : wr.frozen? ⟨w.heap.size, 1, none⟩ = false
  bits : ∀ t, h.getLsbD t = true ↔ t < j ∧ ofT m y t = true
section
variable {w : World} {m : FM} {y : Bits} {gb j j' : Nat} {h h' : Bits} {wr : World}
theorem OnS.drewN (hs : OnS w m y gb j h wr) (q : Nat) : OnS w m y gb j h (wr.drewN q) := ⟨below_drewN hs.bel q, hs.gz, hs.z, hs.a0, hs.a1, hs.f0, hs.r0, hs.r1, hs.s0, hs.s1, hs.bits⟩
theorem OnS.put (hs : OnS w m y gb j h wr) (hb : ∀ t, h'.getLsbD t = true ↔ t < j' ∧ ofT m y t = true) : OnS w m y gb j' h' (wr.setCell ⟨gb, 0, none⟩ (.int .u64 (bn h'))) := by
  have a0 := hs.a0
  have a1 := hs.a1
  have gz := hs.gz
  have e1 : ∀ o, (wr.setCell ⟨gb, 0, none⟩ (.int .u64 (bn h'))).cell? ⟨w.heap.size, o, none⟩ = wr.cell? ⟨w.heap.size, o, none⟩ := fun o => World.cell?_of_block (Below.heap_setCell _ _ _ _ (by dsimp only; omega))
  exact ⟨hs.bel.setCell (by dsimp only; omega) _, gz, by have := hs.z; simpa [World.setCell] using this, by simp [go_sem, a0], by simp [go_sem, a1], by have := hs.f0; simpa [go_sem] using this, by rw [e1]; exact hs.r0, by rw [e1]; exact hs.r1, by have := hs.s0; simpa [go_sem] using this, by have := hs.s1; simpa [go_sem] using this, hb⟩
theorem OnS.skip (hs : OnS w m y gb j h wr) (hc : ofT m y j = false) : OnS w m y gb (j + 1) h wr :=
  ⟨hs.bel, hs.gz, hs.z, hs.a0, hs.a1, hs.f0, hs.r0, hs.r1, hs.s0, hs.s1, fun t => by
    rw [hs.bits]
    constructor
    · rintro ⟨h1, h2⟩; exact ⟨by omega, h2⟩
    · rintro ⟨h1, h2⟩
      refine ⟨?_, h2⟩
      rcases Nat.eq_or_lt_of_le (Nat.le_of_lt_succ h1) with e | e
      · rw [e, hc] at h2; cases h2
      · exact e⟩
theorem of_or (hj : j < 64) (hb : ∀ t, h.getLsbD t = true ↔ t < j ∧ ofT m y t = true) (hc : ofT m y j = true) : ∀ t, (h ||| only j).getLsbD t = true ↔ t < j + 1 ∧ ofT m y t = true := by
  intro t
  rw [bits_or_only hj, hb]
  constructor
  · rintro (⟨h1, h2⟩ | rfl)
    · exact ⟨by omega, h2⟩
    · exact ⟨by omega, hc⟩
  · rintro ⟨h1, h2⟩
    rcases Nat.eq_or_lt_of_le (Nat.le_of_lt_succ h1) with e | e
    · exact Or.inr e
    · exact Or.inl ⟨e, h2⟩
end

set_option maxHeartbeats 4000000 in
theorem ofNumW {w : World} {lim : Nat} {g : WB} {B : List Bool} {C : List LIns} {R : List LRow} {A : List LPlace} {N : List Int} {s slots : Nat} (hW : WorldAt w lim g B C R A N) (hD : Dims B C s slots A N) (q mp mt : Nat) (T : List Int) (m : FM) (hF : FMAt w q mp mt A T m) (n : Int) :
    Calls Tryz.prog 107 #[.pointer (some ⟨g.q, 0, none⟩), .pointer (some ⟨q, 0, none⟩), .int .u32 n] w fun e w' => ∃ x y, e = .returned (knownV x y) ∧ (∀ t, x.getLsbD t = true ↔ t < B.length ∧ ofT m y t = true) ∧ NumS N n y ∧ Below w.heap.size w w' := by
  have hb12 := hD.b12
  have HW : Hid (WorldAt w lim g B C R A N) := hW
  have HD : Hid (Dims B C s slots A N) := hD
  have HF : Hid (FMAt w q mp mt A T m) := hF
  have y0 := hW.stat.p0
  have hq := cell_lt y0
  have hb1 : Below w.heap.size w (w.alloc (.cells #[.int .u64 0, .int .u64 0] 89)) := (Below.refl _ _).alloc (Nat.le_refl _) _
  have c := numberO (hW.below hb1) hD n
  have HB1 : Hid (Below w.heap.size w (w.alloc (.cells #[.int .u64 0, .int .u64 0] 89))) := hb1
  clear hW hD hF hb1
  go_enter Tryz.func107, Tryz.ntmps107
  go_wp2_with (go_at_call 46; refine c.mono ?_; rintro e w1 ⟨⟨y, rfl, hy⟩, hw1⟩; obtain rfl := hw1.symm; have HY : Hid (NumS N n y) := hy; clear hy)
  have HZ : Hid (OnS w m y (w.heap.size + 1) 0 0 ((w.alloc (.cells #[.int .u64 0, .int .u64 0] 89)).alloc (.cells #[.int .u64 0, .int .u64 (bn y)] 89))) :=
    ⟨((Below.refl _ _).alloc (Nat.le_refl _) _).alloc (by simp) _, Nat.le_refl _, by simp, by simp [go_sem]; rfl, by simp [go_sem], by simp [go_sem], by simp [go_sem], by simp [go_sem], by simp [go_sem], by simp [go_sem], fun t => by simp⟩
  clear c
  go_loopg [8, 19] (B.length + 1) (fun gg v8 v wr => ∃ (j : Nat) (h : Bits), v = .int .i64 j ∧ j ≤ B.length ∧ gg = B.length + 1 - j ∧ OnS w m y (w.heap.size + 1) j h wr)
  case atStart => exact ⟨0, 0, rfl, by omega, by omega, HZ.out⟩
  case round =>
    clear HZ
    obtain ⟨j, h, rfl, hj, hgk, hs⟩ := hrel
    have HGK : Hid (gk = B.length + 1 - j) := hgk
    have HS : Hid (OnS w m y (w.heap.size + 1) j h wr) := hs
    have z1 := hs.z
    have a0 := hs.a0
    have a1 := hs.a1
    have f0 := hs.f0
    have r0 := hs.r0
    have r1 := hs.r1
    have s0 := hs.s0
    have s1 := hs.s1
    have hFw := HF.out.below hs.bel
    have x1 := hFw.c1
    clear hgk hs
    by_cases hjl : j < B.length
    · have hjz : (j : Int) < (B.length : Int) := by omega
      have h64 : j < 64 := by omega
      have hlk : ∀ k, (Instr.lookup 85 (.map (some mt)) (.int .i64 (j : Int)) false).run Tryz.prog (wr.drewN k) = .ok (.int .u64 (bn (m.tmp j))) (wr.drewN k) := fun k => TMap.look (w := wr.drewN k) (hFw.tm.of_block rfl) ⟨by omega, by omega⟩
      obtain ⟨c, hcc⟩ : ∃ c, c = ofT m y j := ⟨_, rfl⟩
      have HC : Hid (c = ofT m y j) := hcc
      have ha := and_is (m.tmp j) y
      have hn := ne_is (m.tmp j &&& y)
      have hn2 : (bn (m.tmp j &&& y) != 0) = c := by rw [hn, hcc]; rfl
      clear hcc hn hFw
      go_upto_region 5 with fail
      go_cut [31] (fun s wq => s = .bool c ∧ OnS w m y (w.heap.size + 1) j h wq)
      case first =>
        go_quiet (fail)
        go_wp2_with fail
        go_meet
        case rel => exact ⟨rfl, HS.out.drewN nq⟩
      case rest =>
        obtain ⟨hs31, hs2⟩ := hcut
        subst hs31
        obtain ⟨wv, hwv⟩ : ∃ wv, wv = wc := ⟨_, rfl⟩
        rw [← hwv] at hs2 ⊢
        clear hwv z1 a0 a1 f0 r0 r1 s0 s1 x1 hlk HS
        have HS : Hid (OnS w m y (w.heap.size + 1) j h wv) := hs2
        have z1 := hs2.z
        have a0 := hs2.a0
        have f0 := hs2.f0
        clear hs2
        cases c with
        | false =>
          go_wp2
          have hgk := HGK.out
          go_roundg (gk - 1)
          case measure => omega
          case rel => exact ⟨j + 1, h, by go_num, by omega, by omega, HS.out.skip HC.out.symm⟩
        | true =>
          have hor := or_is h (only j)
          have HPUT : Hid (OnS w m y (w.heap.size + 1) (j + 1) (h ||| only j) ((wv.drewN 1).setCell ⟨w.heap.size + 1, 0, none⟩ (.int .u64 (bn (h ||| only j))))) := (HS.out.drewN 1).put (of_or h64 HS.out.bits HC.out.symm)
          go_wp2
          go_region_with (go_at_call 51; refine (onlyO j h64 _).mono ?_; rintro e w1 ⟨rfl, hw1⟩; obtain rfl := hw1.symm)
          all_goals
            go_wp2_with fail
            have hgk := HGK.out
            go_roundg (gk - 1)
            case measure => omega
            case rel => exact ⟨j + 1, h ||| only j, by go_num, by omega, by omega, HPUT.out⟩
    · obtain rfl : j = B.length := by omega
      have hjz : ¬ (B.length : Int) < (B.length : Int) := by omega
      go_wp2
      refine bodyPost_ret (v := knownV h y) ?_ rfl ⟨h, y, rfl, HS.out.bits, HY.out, (HS.out.bel.setCell (Nat.le_refl _) _).setCell (Nat.le_refl _) _⟩
      simp [results, Tryz.results107, go_sem, knownV, r0, r1]
end Go.Proofs.YtcmnmogmdhofcaaGreat.form

/- What is known behind a move (world.move). -/
namespace Go.Proofs.YtcmnmogmdhofcaaGreat.form
open Go.RowKit Go.Maps
set_option linter.unusedVariables false
set_option maxRecDepth 100000
attribute [local go_sem ↓] Go.wp_at_zero Go.wp_at_succ

theorem PMap.put {w : World} {b : Nat} {A : List LPlace} {gh gi : LPlace → Bits} (h : PMap w b A gh gi) (hn : A.length < maxLen) {p : LPlace} (hp : PlWf p) (hA : p ∈ A) (x y : Bits) :
    ∃ w', (Instr.mapUpdate 84 (.map (some b)) p.val (knownV x y)).run Tryz.prog w = .ok () w' ∧ PMap w' b A (updP gh p x) (updP gi p y) ∧ w.grownBy w' (some b) := by
  obtain ⟨D, h1, h2⟩ := h
  obtain ⟨w', hrun, r1, r2⟩ := h1.update pkLaw Tryz.underlying84 hn (place_key hp) (knownElem_mk x y)
  have h3 := h2.put h1.isMap hp hA x y
  exact ⟨w', hrun, ⟨_, own_tight r1 h3.keys, h3⟩, r2⟩
theorem TMap.put {w : World} {b : Nat} {A : List Int} {g : Int → Bits} (h : TMap w b A g) (hn : A.length < maxLen) {t : Int} (ht : TWf t) (hA : t ∈ A) (x : Bits) :
    ∃ w', (Instr.mapUpdate 85 (.map (some b)) (.int .i64 t) (.int .u64 (bn x))).run Tryz.prog w = .ok () w' ∧ TMap w' b A (updT g t x) ∧ w.grownBy w' (some b) := by
  obtain ⟨D, h1, h2⟩ := h
  obtain ⟨w', hrun, r1, r2⟩ := h1.update tkLaw Tryz.underlying85 hn (t_key ht) (plainElem_int Tryz.underlying83 (u64_wf x))
  have h3 := h2.put h1.isMap hA x
  exact ⟨w', hrun, ⟨_, own_tightT r1 h3.keys, h3⟩, r2⟩

structure MvS (w : World) (v : LMove) (gb : Nat) (x y : Bits) (wr : World) : Prop where
  bel : Below w.heap.size w wr
  lo : w.heap.size < gb
  z : gb < wr.heap.size
  c0 : wr.cell? ⟨w.heap.size, 0, none⟩ = some (.int .i64 v.dst.kind)
  c1 : wr.cell? ⟨w.heap.size, 1, none⟩ = some (.int .i64 v.dst.n)
  c4 : wr.cell? ⟨w.heap.size, 4, none⟩ = some (.bool v.cst)
  c5 : wr.cell? ⟨w.heap.size, 5, none⟩ = some (.int .u32 v.n)
  g0 : wr.cell? ⟨gb, 0, none⟩ = some (.int .u64 (bn x))
  g1 : wr.cell? ⟨gb, 1, none⟩ = some (.int .u64 (bn y))
  f0 : wr.frozen? ⟨gb, 0, none⟩ = false
  f1 : wr.frozen? ⟨gb, 1, none⟩ = false

theorem step_frozen {a b : World} (hb : Below a.heap.size a b) {p : Addr} (hp : p.block < a.heap.size) (h : a.frozen? p = false) : b.frozen? p = false := by
  rw [World.frozen?_of_block (w := a) (hb.block p.block hp)]
  exact h
theorem far2 {w : World} {gb b o : Nat} {u v z : Value} (hne : b ≠ gb) (h : w.cell? ⟨b, o, none⟩ = some z) : ((w.setCell ⟨gb, 0, none⟩ u).setCell ⟨gb, 1, none⟩ v).cell? ⟨b, o, none⟩ = some z := by
  rw [World.cell?_of_block (w := w.setCell ⟨gb, 0, none⟩ u) (Below.heap_setCell _ _ _ _ hne), World.cell?_of_block (w := w) (Below.heap_setCell _ _ _ _ hne)]
  exact h
theorem mvs {w wx wr : World} {v : LMove} {gb : Nat} {x y : Bits} (hx : Below w.heap.size w wx) (hb : Below wx.heap.size wx wr) (x1 : wx.cell? ⟨w.heap.size, 0, none⟩ = some (.int .i64 v.dst.kind)) (x2 : wx.cell? ⟨w.heap.size, 1, none⟩ = some (.int .i64 v.dst.n)) (x5 : wx.cell? ⟨w.heap.size, 4, none⟩ = some (.bool v.cst)) (x6 : wx.cell? ⟨w.heap.size, 5, none⟩ = some (.int .u32 v.n))
    (lo : w.heap.size < gb) (z : gb < wr.heap.size) (g0 : wr.cell? ⟨gb, 0, none⟩ = some (.int .u64 (bn x))) (g1 : wr.cell? ⟨gb, 1, none⟩ = some (.int .u64 (bn y))) (f0 : wr.frozen? ⟨gb, 0, none⟩ = false) (f1 : wr.frozen? ⟨gb, 1, none⟩ = false) : MvS w v gb x y wr :=
  ⟨step_below hb hx, lo, z, step_cell hb x1, step_cell hb x2, step_cell hb x5, step_cell hb x6, g0, g1, f0, f1⟩
theorem got_may {B : List Bool} {N : List Int} {m : FM} {v : LMove} {mx my : Bits} (hc : v.cst = false) (hx : ∀ t, mx.getLsbD t = true ↔ t < B.length ∧ mayT B v.dst.kind t = true) (hy : ∀ k, my.getLsbD k = true ↔ k < N.length ∧ ¬ v.dst.kind = 2) : GotM B N m v (m.has v.src &&& mx) (m.is v.src &&& my) := by
  refine ⟨fun t => ?_, fun k => ?_⟩
  · rw [if_neg (by simp [hc]), bits_and, hx]
    unfold mayT
    simp
    intro _ _
    by_cases h : v.dst.kind = 2
    · simp [h]
    · have e : (v.dst.kind == 2) = false := by simpa using h
      rw [e]
      simp [h]
  · rw [if_neg (by simp [hc]), bits_and, hy]

theorem MvS.below {w : World} {v : LMove} {gb : Nat} {x y : Bits} {wr w' : World} (h : MvS w v gb x y wr) (hb : Below wr.heap.size wr w') : MvS w v gb x y w' :=
  ⟨step_below hb h.bel, h.lo, Nat.lt_of_lt_of_le h.z hb.size, step_cell hb h.c0, step_cell hb h.c1, step_cell hb h.c4, step_cell hb h.c5, step_cell hb h.g0, step_cell hb h.g1, step_frozen hb h.z h.f0, step_frozen hb h.z h.f1⟩
theorem MvS.put {w : World} {v : LMove} {gb : Nat} {x y : Bits} {wr : World} (h : MvS w v gb x y wr) (x2 y2 : Bits) : MvS w v gb x2 y2 ((wr.setCell ⟨gb, 0, none⟩ (.int .u64 (bn x2))).setCell ⟨gb, 1, none⟩ (.int .u64 (bn y2))) := by
  have lo := h.lo
  have g0 := h.g0
  have g1 := h.g1
  exact ⟨(h.bel.setCell (by dsimp only; omega) _).setCell (by dsimp only; omega) _, lo, by have := h.z; simpa [World.setCell] using this, far2 (by omega) h.c0, far2 (by omega) h.c1, far2 (by omega) h.c4, far2 (by omega) h.c5, by simp [go_sem, g0], by simp [go_sem, g1], by have := h.f0; simpa [go_sem] using this, by have := h.f1; simpa [go_sem] using this⟩
theorem far_keep (f : LPlace → Bits) (d : LPlace) : (fun p => if farB d p = true then f p else 0) = keepP f d := by
  funext p
  unfold farB keepP
  rw [over_sameC]
  cases overB p d <;> simp
theorem moveK_iff {ok : LFact → Prop} {v : LMove} {K K' : LFact → Prop} (h : ∀ f, K f ↔ K' f) (f : LFact) : moveK ok v K f ↔ moveK ok v K' f := ⟨fun hf => moveK_mono (fun f => (h f).1) hf, fun hf => moveK_mono (fun f => (h f).2) hf⟩
theorem got_num {B : List Bool} {N : List Int} {m : FM} {v : LMove} {x y : Bits} (hc : v.cst = true) (hx : ∀ t, x.getLsbD t = true ↔ t < B.length ∧ ofT m y t = true) (hy : NumS N v.n y) : GotM B N m v x y := by
  refine ⟨fun t => ?_, fun k => ?_⟩
  · rw [if_pos hc, hx]
    refine and_congr Iff.rfl ?_
    unfold ofT
    simp only [Bool.not_eq_true', beq_eq_false_iff_ne, ne_eq]
    rw [bits_ne]
    constructor
    · rintro ⟨k, hk⟩
      rw [bits_and, hy] at hk
      exact ⟨k, hk.2.1, hk.2.2, hk.1⟩
    · rintro ⟨k, h1, h2, h3⟩
      exact ⟨k, by rw [bits_and, hy]; exact ⟨h3, h1, h2⟩⟩
  · rw [if_pos hc]; exact hy k

set_option maxHeartbeats 8000000 in
theorem moveW {w : World} {lim : Nat} {g : WB} {B : List Bool} {C : List LIns} {R : List LRow} {A : List LPlace} {N : List Int} {s slots : Nat} (hW : WorldAt w lim g B C R A N) (hD : Dims B C s slots A N) (q mp mt : Nat) (T : List Int) (m : FM) (hF : FMAt w q mp mt A T m) (hq : lim ≤ q) (hmp : lim ≤ mp) (v : LMove) (hv : moveB s slots v = true) (hok : FmOk B s slots N m) :
    Calls Tryz.prog 93 #[.pointer (some ⟨g.q, 0, none⟩), .pointer (some ⟨q, 0, none⟩), v.val] w fun e w' => e = .returned (.tuple #[]) ∧ ∃ gh gi, GotM B N m v gh gi ∧ FMAt w' q mp mt A T (moveF m v.dst gh gi) ∧ But mp mp w w' := by
  have HW : Hid (WorldAt w lim g B C R A N) := hW
  have HD : Hid (Dims B C s slots A N) := hD
  have HF : Hid (FMAt w q mp mt A T m) := hF
  have HOK : Hid (FmOk B s slots N m) := hok
  have HV : Hid (moveB s slots v = true) := hv
  have hql := hF.lt.1
  have hsrc : PlWf v.src := by
    unfold moveB at hv
    simp only [Bool.and_eq_true] at hv
    by_cases hc : v.cst = true
    · have := hv.2
      rw [if_pos hc] at this
      simp at this
      exact ⟨by omega, by omega, by omega, by omega⟩
    · have := hv.2
      rw [if_neg hc] at this
      simp only [Bool.and_eq_true] at this
      exact hD.wf this.1.2
  have hdst : isB s slots v.dst = true := by unfold moveB at hv; simp only [Bool.and_eq_true] at hv; exact hv.1
  obtain ⟨wx, hwx⟩ : ∃ wx, wx = w.alloc (.cells #[.int .i64 v.dst.kind, .int .i64 v.dst.n, .int .i64 v.src.kind, .int .i64 v.src.n, .bool v.cst, .int .u32 v.n] 94) := ⟨_, rfl⟩
  have hbx : Below w.heap.size w wx := by rw [hwx]; exact (Below.refl _ _).alloc (Nat.le_refl _) _
  have hzx : wx.heap.size = w.heap.size + 1 := by rw [hwx]; simp
  have x0 : wx.cell? ⟨q, 0, none⟩ = some (.map (some mp)) := step_cell hbx hF.c0
  have x1 : wx.cell? ⟨w.heap.size, 0, none⟩ = some (.int .i64 v.dst.kind) := by rw [hwx]; simp [go_sem]
  have x2 : wx.cell? ⟨w.heap.size, 1, none⟩ = some (.int .i64 v.dst.n) := by rw [hwx]; simp [go_sem]
  have x3 : wx.cell? ⟨w.heap.size, 2, none⟩ = some (.int .i64 v.src.kind) := by rw [hwx]; simp [go_sem]
  have x4 : wx.cell? ⟨w.heap.size, 3, none⟩ = some (.int .i64 v.src.n) := by rw [hwx]; simp [go_sem]
  have x5 : wx.cell? ⟨w.heap.size, 4, none⟩ = some (.bool v.cst) := by rw [hwx]; simp [go_sem]
  have x6 : wx.cell? ⟨w.heap.size, 5, none⟩ = some (.int .u32 v.n) := by rw [hwx]; simp [go_sem]
  have HWX : Hid (WorldAt wx lim g B C R A N) := hW.below hbx
  have HLK : Hid (∀ w5, Below wx.heap.size wx w5 → (Instr.lookup 84 (.map (some mp)) (.agg #[.int .i64 v.src.kind, .int .i64 v.src.n]) false).run Tryz.prog w5 = .ok (.agg #[.int .u64 (bn (m.has v.src)), .int .u64 (bn (m.is v.src))]) w5) := fun w5 hb => PMap.look (hF.pm.below (step_below hb hbx)) hsrc
  have HBX : Hid (Below w.heap.size w wx) := hbx
  have HZX : Hid (wx.heap.size = w.heap.size + 1) := hzx
  clear hW hD hF hok hv hbx hzx
  unfold LMove.val
  go_enter Tryz.func93, Tryz.ntmps93
  go_upto_region 1 with fail
  rw [← hwx]
  clear hwx
  go_cut [6] (fun s wq => ∃ gb x y, s = .pointer (some ⟨gb, 0, none⟩) ∧ MvS w v gb x y wq ∧ (v.cst = false → GotM B N m v x y))
  case first =>
    refine wp_region_held_drew (S := (fun w' => Below wx.heap.size wx w' ∧ w'.cell? ⟨q, 0, none⟩ = some (.map (some mp)) ∧ w'.cell? ⟨w.heap.size, 0, none⟩ = some (.int .i64 v.dst.kind) ∧ w'.cell? ⟨w.heap.size, 1, none⟩ = some (.int .i64 v.dst.n) ∧ w'.cell? ⟨w.heap.size, 2, none⟩ = some (.int .i64 v.src.kind) ∧ w'.cell? ⟨w.heap.size, 3, none⟩ = some (.int .i64 v.src.n))) (by rfl) ?_ (fun hHeld => ?_)
    · (exact ⟨(Below.refl _ _).drew, step_cell (Below.refl _ _).drew x0, step_cell (Below.refl _ _).drew x1, step_cell (Below.refl _ _).drew x2, step_cell (Below.refl _ _).drew x3, step_cell (Below.refl _ _).drew x4⟩)
    refine wpAnyH_take (i := 0) (v := ?_) rfl (by kernel_rfl) (by kernel_rfl) (by kernel_rfl) (fun _ _ _ h => h) (Or.inl ⟨by rfl, ?_⟩) (by assumption) ?_
    case refine_2 => (intro w hSw; (try dsimp only at hSw); go_simp; first | done | (with_reducible rfl))
    show wpAnyH _ _ _ _ _ _ _ (Act.put _ (some 7) _) _
    simp only [Act.put, List.setIfInBounds_toArray, List.set_cons_zero, List.set_cons_succ]
    refine wpAnyH_take (i := 1) (v := ?_) rfl (by kernel_rfl) (by kernel_rfl) (by kernel_rfl) (fun _ _ _ h => h) (Or.inl ⟨by rfl, ?_⟩) (by assumption) ?_
    case refine_2 => (intro w hSw; (try dsimp only at hSw); go_simp; first | done | (with_reducible rfl))
    show wpAnyH _ _ _ _ _ _ _ (Act.put _ (some 8) _) _
    simp only [Act.put, List.setIfInBounds_toArray, List.set_cons_zero, List.set_cons_succ]
    refine wpAnyH_take (i := 2) (v := ?_) rfl (by kernel_rfl) (by kernel_rfl) (by kernel_rfl) (fun _ _ _ h => h) (Or.inl ⟨by rfl, ?_⟩) (by assumption) ?_
    case refine_2 => (intro w hSw; (try dsimp only at hSw); go_simp; first | done | (with_reducible rfl))
    show wpAnyH _ _ _ _ _ _ _ (Act.put _ (some 9) _) _
    simp only [Act.put, List.setIfInBounds_toArray, List.set_cons_zero, List.set_cons_succ]
    refine wpAnyH_take (i := 3) (v := ?_) rfl (by kernel_rfl) (by kernel_rfl) (by kernel_rfl) (fun _ _ _ h => h) (Or.inl ⟨by rfl, ?_⟩) (by assumption) ?_
    case refine_2 => (intro w hSw; (try dsimp only at hSw); go_simp; first | done | (with_reducible rfl))
    show wpAnyH _ _ _ _ _ _ _ (Act.put _ (some 10) _) _
    simp only [Act.put, List.setIfInBounds_toArray, List.set_cons_zero, List.set_cons_succ]
    refine wpAnyH_take (i := 4) (v := ?_) rfl (by kernel_rfl) (by kernel_rfl) (by kernel_rfl) (fun _ _ _ h => h) (Or.inl ⟨by rfl, ?_⟩) (by assumption) ?_
    case refine_2 => (intro w hSw; (try dsimp only at hSw); go_simp; first | done | (with_reducible rfl))
    show wpAnyH _ _ _ _ _ _ _ (Act.put _ (some 11) _) _
    simp only [Act.put, List.setIfInBounds_toArray, List.set_cons_zero, List.set_cons_succ]
    refine wpAnyH_take (i := 5) (v := ?_) rfl (by kernel_rfl) (by kernel_rfl) (by kernel_rfl) (fun _ _ _ h => h) (Or.inl ⟨by rfl, ?_⟩) (by assumption) ?_
    case refine_2 => (intro w hSw; (try dsimp only at hSw); go_simp; first | done | (with_reducible rfl))
    show wpAnyH _ _ _ _ _ _ _ (Act.put _ (some 12) _) _
    simp only [Act.put, List.setIfInBounds_toArray, List.set_cons_zero, List.set_cons_succ]
    refine wpAnyH_take (i := 6) (v := ?_) rfl (by kernel_rfl) (by kernel_rfl) (by kernel_rfl) (fun _ _ _ h => h) (Or.inl ⟨by rfl, ?_⟩) (by assumption) ?_
    case refine_2 => (intro w5 hSw; (try dsimp only at hSw); have hl := HLK.out w5 hSw.1; go_simp; first | done | (with_reducible rfl))
    show wpAnyH _ _ _ _ _ _ _ (Act.put _ (some 13) _) _
    simp only [Act.put, List.setIfInBounds_toArray, List.set_cons_zero, List.set_cons_succ]
    refine wpAnyH_take (i := 7) (v := ?_) rfl (by kernel_rfl) (by kernel_rfl) (by kernel_rfl) (fun _ _ _ h => h) (Or.inl ⟨by rfl, ?_⟩) (by assumption) ?_
    case refine_2 => (intro w hSw; (try dsimp only at hSw); go_simp; first | done | (with_reducible rfl))
    show wpAnyH _ _ _ _ _ _ _ (Act.put _ (some 14) _) _
    simp only [Act.put, List.setIfInBounds_toArray, List.set_cons_zero, List.set_cons_succ]
    refine wpAnyH_take (i := 8) (v := ?_) rfl (by kernel_rfl) (by kernel_rfl) (by kernel_rfl) (fun _ _ _ h => h) (Or.inl ⟨by rfl, ?_⟩) (by assumption) ?_
    case refine_2 => (intro w hSw; (try dsimp only at hSw); go_simp; first | done | (with_reducible rfl))
    show wpAnyH _ _ _ _ _ _ _ (Act.put _ (some 15) _) _
    simp only [Act.put, List.setIfInBounds_toArray, List.set_cons_zero, List.set_cons_succ]
    refine wpAnyH_take (i := 9) (v := ?_) rfl (by kernel_rfl) (by kernel_rfl) (by kernel_rfl) (fun _ _ _ h => h) (Or.inl ⟨by rfl, ?_⟩) (by assumption) ?_
    case refine_2 => (intro w hSw; (try dsimp only at hSw); go_simp; first | done | (with_reducible rfl))
    show wpAnyH _ _ _ _ _ _ _ (Act.put _ (some 16) _) _
    simp only [Act.put, List.setIfInBounds_toArray, List.set_cons_zero, List.set_cons_succ]
    refine wpAnyH_take (i := 10) (v := ?_) rfl (by kernel_rfl) (by kernel_rfl) (by kernel_rfl) (fun _ _ _ h => h) (Or.inl ⟨by rfl, ?_⟩) (by assumption) ?_
    case refine_2 => (intro w hSw; (try dsimp only at hSw); go_simp; first | done | (with_reducible rfl))
    show wpAnyH _ _ _ _ _ _ _ (Act.put _ (some 17) _) _
    simp only [Act.put, List.setIfInBounds_toArray, List.set_cons_zero, List.set_cons_succ]
    refine wpAnyH_ready (rs := [11, 13]) (by kernel_rfl) (by simp) ?_
    refine (AllReadyH.cons rfl (fun K hK => ?_) (AllReadyH.cons rfl (fun K hK => ?_) AllReadyH.nil))
    · skip
      go_simp
      go_at_call 47
      refine (mayW (HWX.out.below hHeld.1) HD.out v.dst.kind).mono ?_
      rintro e w7 ⟨mx, my, rfl, hmx, hmy, hbr⟩
      have HMX : Hid (∀ t, mx.getLsbD t = true ↔ t < B.length ∧ mayT B v.dst.kind t = true) := hmx
      have HMY : Hid (∀ k, my.getLsbD k = true ↔ k < N.length ∧ ¬ v.dst.kind = 2) := hmy
      clear hmx hmy
      unfold knownV
      go_wp2_with fail
      refine hK.out _ _ ?_ (fun hHeld => ?_)
      · (exact ⟨step_below hbr hHeld.1, step_cell hbr hHeld.2.1, step_cell hbr hHeld.2.2.1, step_cell hbr hHeld.2.2.2.1, step_cell hbr hHeld.2.2.2.2.1, step_cell hbr hHeld.2.2.2.2.2⟩)
      clear hK K
      try simp only [Act.put, List.setIfInBounds_toArray, List.set_cons_zero, List.set_cons_succ]
      clear hbr
      refine wpAnyH_ready (rs := [12, 13]) (by kernel_rfl) (by simp) ?_
      refine (AllReadyH.cons rfl (fun K hK => ?_) (AllReadyH.cons rfl (fun K hK => ?_) AllReadyH.nil))
      · skip
        go_simp
        go_at_call 97
        refine (andO (m.has v.src) (m.is v.src) mx my _).mono ?_
        rintro e w8 ⟨rfl, hbr⟩
        unfold knownV
        go_wp2_with fail
        refine hK.out _ _ ?_ (fun hHeld => ?_)
        · (exact ⟨step_below hbr hHeld.1, step_cell hbr hHeld.2.1, step_cell hbr hHeld.2.2.1, step_cell hbr hHeld.2.2.2.1, step_cell hbr hHeld.2.2.2.2.1, step_cell hbr hHeld.2.2.2.2.2⟩)
        clear hK K
        try simp only [Act.put, List.setIfInBounds_toArray, List.set_cons_zero, List.set_cons_succ]
        clear hbr
        refine wpAnyH_ready (rs := [13]) (by kernel_rfl) (by simp) ?_
        refine (AllReadyH.cons rfl (fun K hK => ?_) AllReadyH.nil)
        have hz8 : wx.heap.size ≤ w8.heap.size := hHeld.1.size
        have h8 := hHeld
        go_simp
        refine hK.out _ _ ?_ (fun hHeld => ?_)
        · (exact ⟨step_below ((Below.refl _ _).alloc (Nat.le_refl _) _) hHeld.1, step_cell ((Below.refl _ _).alloc (Nat.le_refl _) _) hHeld.2.1, step_cell ((Below.refl _ _).alloc (Nat.le_refl _) _) hHeld.2.2.1, step_cell ((Below.refl _ _).alloc (Nat.le_refl _) _) hHeld.2.2.2.1, step_cell ((Below.refl _ _).alloc (Nat.le_refl _) _) hHeld.2.2.2.2.1, step_cell ((Below.refl _ _).alloc (Nat.le_refl _) _) hHeld.2.2.2.2.2⟩)
        clear hK K
        try simp only [Act.put, List.setIfInBounds_toArray, List.set_cons_zero, List.set_cons_succ]
        refine wpAnyH_ready (rs := [14]) (by kernel_rfl) (by simp) ?_
        refine (AllReadyH.cons rfl (fun K hK => ?_) AllReadyH.nil)
        go_simp
        refine hK.out _ _ ?_ (fun hHeld => ?_)
        · (exact ⟨step_below ((Below.refl _ _).alloc (Nat.le_refl _) _) h8.1, step_cell ((Below.refl _ _).alloc (Nat.le_refl _) _) h8.2.1, step_cell ((Below.refl _ _).alloc (Nat.le_refl _) _) h8.2.2.1, step_cell ((Below.refl _ _).alloc (Nat.le_refl _) _) h8.2.2.2.1, step_cell ((Below.refl _ _).alloc (Nat.le_refl _) _) h8.2.2.2.2.1, step_cell ((Below.refl _ _).alloc (Nat.le_refl _) _) h8.2.2.2.2.2⟩)
        clear hK K
        try simp only [Act.put, List.setIfInBounds_toArray, List.set_cons_zero, List.set_cons_succ]
        have HBB : Hid (Below wx.heap.size wx (w8.alloc (.cells #[.int .u64 (bn (m.has v.src &&& mx)), .int .u64 (bn (m.is v.src &&& my))] 89))) := hHeld.1
        refine wpAnyH_done (by kernel_rfl) ?_ _
        clear hHeld
        go_wp2_with fail
        go_meet
        case rel =>
          have hz := HZX.out
          exact ⟨w8.heap.size, m.has v.src &&& mx, m.is v.src &&& my, rfl, mvs HBX.out HBB.out x1 x2 x5 x6 (by omega) (by simp) (by simp [go_sem]) (by simp [go_sem]) (by simp [go_sem]) (by simp [go_sem]), fun hc => got_may hc HMX.out HMY.out⟩
      · skip
        have hz7 : wx.heap.size ≤ w7.heap.size := hHeld.1.size
        go_simp
        refine hK.out _ _ ?_ (fun hHeld => ?_)
        · (exact ⟨step_below ((Below.refl _ _).alloc (Nat.le_refl _) _) hHeld.1, step_cell ((Below.refl _ _).alloc (Nat.le_refl _) _) hHeld.2.1, step_cell ((Below.refl _ _).alloc (Nat.le_refl _) _) hHeld.2.2.1, step_cell ((Below.refl _ _).alloc (Nat.le_refl _) _) hHeld.2.2.2.1, step_cell ((Below.refl _ _).alloc (Nat.le_refl _) _) hHeld.2.2.2.2.1, step_cell ((Below.refl _ _).alloc (Nat.le_refl _) _) hHeld.2.2.2.2.2⟩)
        clear hK K
        try simp only [Act.put, List.setIfInBounds_toArray, List.set_cons_zero, List.set_cons_succ]
        refine wpAnyH_ready (rs := [12]) (by kernel_rfl) (by simp) ?_
        refine (AllReadyH.cons rfl (fun K hK => ?_) AllReadyH.nil)
        go_simp
        go_at_call 97
        refine (andO (m.has v.src) (m.is v.src) mx my _).mono ?_
        rintro e w8 ⟨rfl, hbr⟩
        have k0 : w8.cell? ⟨w7.heap.size, 0, none⟩ = some (.int .u64 0) := step_cell hbr (by first | exact k0 | simp [go_sem])
        have k1 : w8.cell? ⟨w7.heap.size, 1, none⟩ = some (.int .u64 0) := step_cell hbr (by first | exact k1 | simp [go_sem])
        have l0 : w8.frozen? ⟨w7.heap.size, 0, none⟩ = false := step_frozen hbr (by first | exact cell_lt k0' | simp) (by first | exact l0 | simp [go_sem])
        have l1 : w8.frozen? ⟨w7.heap.size, 1, none⟩ = false := step_frozen hbr (by first | exact cell_lt k0' | simp) (by first | exact l1 | simp [go_sem])
        have k0' := k0
        unfold knownV
        go_wp2_with fail
        refine hK.out _ _ ?_ (fun hHeld => ?_)
        · (exact ⟨step_below hbr hHeld.1, step_cell hbr hHeld.2.1, step_cell hbr hHeld.2.2.1, step_cell hbr hHeld.2.2.2.1, step_cell hbr hHeld.2.2.2.2.1, step_cell hbr hHeld.2.2.2.2.2⟩)
        clear hK K
        try simp only [Act.put, List.setIfInBounds_toArray, List.set_cons_zero, List.set_cons_succ]
        clear hbr
        refine wpAnyH_ready (rs := [14]) (by kernel_rfl) (by simp) ?_
        refine (AllReadyH.cons rfl (fun K hK => ?_) AllReadyH.nil)
        go_simp
        refine hK.out _ _ ?_ (fun hHeld => ?_)
        · (have hz := HZX.out; exact ⟨(hHeld.1.setCell (by dsimp only; omega) _).setCell (by dsimp only; omega) _, far2 (by omega) hHeld.2.1, far2 (by omega) hHeld.2.2.1, far2 (by omega) hHeld.2.2.2.1, far2 (by omega) hHeld.2.2.2.2.1, far2 (by omega) hHeld.2.2.2.2.2⟩)
        clear hK K
        try simp only [Act.put, List.setIfInBounds_toArray, List.set_cons_zero, List.set_cons_succ]
        have HBB : Hid (Below wx.heap.size wx ((w8.setCell ⟨w7.heap.size, 0, none⟩ (.int .u64 (bn (m.has v.src &&& mx)))).setCell ⟨w7.heap.size, 1, none⟩ (.int .u64 (bn (m.is v.src &&& my))))) := hHeld.1
        refine wpAnyH_done (by kernel_rfl) ?_ _
        clear hHeld
        go_wp2_with fail
        go_meet
        case rel =>
          have hz := HZX.out
          exact ⟨w7.heap.size, m.has v.src &&& mx, m.is v.src &&& my, rfl, mvs HBX.out HBB.out x1 x2 x5 x6 (by omega) (by have := cell_lt k0; simpa [World.setCell] using this) (by simp [go_sem, k0]) (by simp [go_sem, k1]) (by simpa [go_sem] using l0) (by simpa [go_sem] using l1), fun hc => got_may hc HMX.out HMY.out⟩
    · skip
      go_simp
      refine hK.out _ _ ?_ (fun hHeld => ?_)
      · (exact ⟨step_below ((Below.refl _ _).alloc (Nat.le_refl _) _) hHeld.1, step_cell ((Below.refl _ _).alloc (Nat.le_refl _) _) hHeld.2.1, step_cell ((Below.refl _ _).alloc (Nat.le_refl _) _) hHeld.2.2.1, step_cell ((Below.refl _ _).alloc (Nat.le_refl _) _) hHeld.2.2.2.1, step_cell ((Below.refl _ _).alloc (Nat.le_refl _) _) hHeld.2.2.2.2.1, step_cell ((Below.refl _ _).alloc (Nat.le_refl _) _) hHeld.2.2.2.2.2⟩)
      clear hK K
      try simp only [Act.put, List.setIfInBounds_toArray, List.set_cons_zero, List.set_cons_succ]
      refine wpAnyH_ready (rs := [11]) (by kernel_rfl) (by simp) ?_
      refine (AllReadyH.cons rfl (fun K hK => ?_) AllReadyH.nil)
      go_simp
      go_at_call 47
      refine (mayW (HWX.out.below hHeld.1) HD.out v.dst.kind).mono ?_
      rintro e w7 ⟨mx, my, rfl, hmx, hmy, hbr⟩
      have HMX : Hid (∀ t, mx.getLsbD t = true ↔ t < B.length ∧ mayT B v.dst.kind t = true) := hmx
      have HMY : Hid (∀ k, my.getLsbD k = true ↔ k < N.length ∧ ¬ v.dst.kind = 2) := hmy
      clear hmx hmy
      have k0 : w7.cell? ⟨wx.heap.size, 0, none⟩ = some (.int .u64 0) := step_cell hbr (by first | exact k0 | simp [go_sem])
      have k1 : w7.cell? ⟨wx.heap.size, 1, none⟩ = some (.int .u64 0) := step_cell hbr (by first | exact k1 | simp [go_sem])
      have l0 : w7.frozen? ⟨wx.heap.size, 0, none⟩ = false := step_frozen hbr (by first | exact cell_lt k0' | simp) (by first | exact l0 | simp [go_sem])
      have l1 : w7.frozen? ⟨wx.heap.size, 1, none⟩ = false := step_frozen hbr (by first | exact cell_lt k0' | simp) (by first | exact l1 | simp [go_sem])
      have k0' := k0
      unfold knownV
      go_wp2_with fail
      refine hK.out _ _ ?_ (fun hHeld => ?_)
      · (exact ⟨step_below hbr hHeld.1, step_cell hbr hHeld.2.1, step_cell hbr hHeld.2.2.1, step_cell hbr hHeld.2.2.2.1, step_cell hbr hHeld.2.2.2.2.1, step_cell hbr hHeld.2.2.2.2.2⟩)
      clear hK K
      try simp only [Act.put, List.setIfInBounds_toArray, List.set_cons_zero, List.set_cons_succ]
      clear hbr
      refine wpAnyH_ready (rs := [12]) (by kernel_rfl) (by simp) ?_
      refine (AllReadyH.cons rfl (fun K hK => ?_) AllReadyH.nil)
      go_simp
      go_at_call 97
      refine (andO (m.has v.src) (m.is v.src) mx my _).mono ?_
      rintro e w8 ⟨rfl, hbr⟩
      have k0 : w8.cell? ⟨wx.heap.size, 0, none⟩ = some (.int .u64 0) := step_cell hbr (by first | exact k0 | simp [go_sem])
      have k1 : w8.cell? ⟨wx.heap.size, 1, none⟩ = some (.int .u64 0) := step_cell hbr (by first | exact k1 | simp [go_sem])
      have l0 : w8.frozen? ⟨wx.heap.size, 0, none⟩ = false := step_frozen hbr (by first | exact cell_lt k0' | simp) (by first | exact l0 | simp [go_sem])
      have l1 : w8.frozen? ⟨wx.heap.size, 1, none⟩ = false := step_frozen hbr (by first | exact cell_lt k0' | simp) (by first | exact l1 | simp [go_sem])
      have k0' := k0
      unfold knownV
      go_wp2_with fail
      refine hK.out _ _ ?_ (fun hHeld => ?_)
      · (exact ⟨step_below hbr hHeld.1, step_cell hbr hHeld.2.1, step_cell hbr hHeld.2.2.1, step_cell hbr hHeld.2.2.2.1, step_cell hbr hHeld.2.2.2.2.1, step_cell hbr hHeld.2.2.2.2.2⟩)
      clear hK K
      try simp only [Act.put, List.setIfInBounds_toArray, List.set_cons_zero, List.set_cons_succ]
      clear hbr
      refine wpAnyH_ready (rs := [14]) (by kernel_rfl) (by simp) ?_
      refine (AllReadyH.cons rfl (fun K hK => ?_) AllReadyH.nil)
      go_simp
      refine hK.out _ _ ?_ (fun hHeld => ?_)
      · (have hz := HZX.out; exact ⟨(hHeld.1.setCell (by dsimp only; omega) _).setCell (by dsimp only; omega) _, far2 (by omega) hHeld.2.1, far2 (by omega) hHeld.2.2.1, far2 (by omega) hHeld.2.2.2.1, far2 (by omega) hHeld.2.2.2.2.1, far2 (by omega) hHeld.2.2.2.2.2⟩)
      clear hK K
      try simp only [Act.put, List.setIfInBounds_toArray, List.set_cons_zero, List.set_cons_succ]
      have HBB : Hid (Below wx.heap.size wx ((w8.setCell ⟨wx.heap.size, 0, none⟩ (.int .u64 (bn (m.has v.src &&& mx)))).setCell ⟨wx.heap.size, 1, none⟩ (.int .u64 (bn (m.is v.src &&& my))))) := hHeld.1
      refine wpAnyH_done (by kernel_rfl) ?_ _
      clear hHeld
      go_wp2_with fail
      go_meet
      case rel =>
        have hz := HZX.out
        exact ⟨wx.heap.size, m.has v.src &&& mx, m.is v.src &&& my, rfl, mvs HBX.out HBB.out x1 x2 x5 x6 (by omega) (by have := cell_lt k0; simpa [World.setCell] using this) (by simp [go_sem, k0]) (by simp [go_sem, k1]) (by simpa [go_sem] using l0) (by simpa [go_sem] using l1), fun hc => got_may hc HMX.out HMY.out⟩
  case rest =>
    obtain ⟨gb, x, y, hs6, hmv, hgot⟩ := hcut
    subst hs6
    obtain ⟨wd, hwd⟩ : ∃ wd, wd = wc := ⟨_, rfl⟩
    rw [← hwd] at hmv ⊢
    clear hwd x0 x1 x2 x3 x4 x5 x6 HWX HLK HBX HZX
    have HMV : Hid (MvS w v gb x y wd) := hmv
    have HGT : Hid (v.cst = false → GotM B N m v x y) := hgot
    obtain ⟨cs, hcs⟩ : ∃ cs, cs = v.cst := ⟨_, rfl⟩
    have c4 := hmv.c4
    rw [← hcs] at c4
    have HCS : Hid (cs = v.cst) := hcs
    clear hcs
    have c5 := hmv.c5
    have g0 := hmv.g0
    have g1 := hmv.g1
    have f0 := hmv.f0
    have f1 := hmv.f1
    have hgz := hmv.z
    clear hmv hgot
    go_upto_if 21 with fail
    go_cut [] (fun wq => ∃ gh gi, MvS w v gb gh gi wq ∧ GotM B N m v gh gi)
    case first =>
      rcases Bool.eq_false_or_eq_true cs with hc | hc
      · have c := ofNumW (HW.out.below HMV.out.bel) HD.out q mp mt T m (HF.out.below HMV.out.bel) v.n
        subst hc
        have HC : Hid (v.cst = true) := HCS.out.symm
        go_wp2_with (go_at_call 107; refine c.mono ?_; rintro e w4 ⟨x2, y2, rfl, hx2, hy2, hb4⟩; have HX2 : Hid (∀ t, x2.getLsbD t = true ↔ t < B.length ∧ ofT m y2 t = true) := hx2; have HY2 : Hid (NumS N v.n y2) := hy2; have HB4 : Hid (Below wd.heap.size wd w4) := hb4; have k0 := step_cell hb4 g0; have k1 := step_cell hb4 g1; have l0 := step_frozen hb4 hgz f0; have l1 := step_frozen hb4 hgz f1; clear hx2 hy2 hb4; unfold knownV)
        go_meet
        case rel => exact ⟨x2, y2, (HMV.out.below HB4.out).put x2 y2, got_num HC.out HX2.out HY2.out⟩
      · subst hc
        have HC : Hid (v.cst = false) := HCS.out.symm
        go_wp2
        go_meet
        case rel => exact ⟨x, y, HMV.out, HGT.out HC.out⟩
    case rest =>
      obtain ⟨gh, gi, hmv, hgot⟩ := hcut
      obtain ⟨we, hwe⟩ : ∃ we, we = wc := ⟨_, rfl⟩
      rw [← hwe] at hmv ⊢
      clear hwe c4 c5 g0 g1 f0 f1 hgz HMV HGT
      have HMV : Hid (MvS w v gb gh gi we) := hmv
      have HGT : Hid (GotM B N m v gh gi) := hgot
      have c0 := hmv.c0
      have c1 := hmv.c1
      have hwl : w.heap.size < we.heap.size := cell_lt c0
      have hFe := HF.out.below hmv.bel
      have hba : Below we.heap.size we (we.alloc (.cells #[.int .i64 v.dst.kind, .int .i64 v.dst.n] 51)) := (Below.refl _ _).alloc (Nat.le_refl _) _
      have hne : we.heap.size ≠ mp := by have := hFe.pm.lt; omega
      have c := keepF q mp mt 113 (.pointer (some ⟨we.heap.size, 0, none⟩)) A T m (farB v.dst) _ (hFe.below hba) (staysApart v.dst we.heap.size mp _ (by simp [go_sem]) (by simp [go_sem]) hne)
      have HBA : Hid (Below we.heap.size we (we.alloc (.cells #[.int .i64 v.dst.kind, .int .i64 v.dst.n] 51))) := hba
      clear hmv hgot hFe hba
      go_upto_region 5 with (first
        | (go_at_call 96; refine (apartFromO v.dst _).mono ?_; rintro e w5 ⟨rfl, hw5⟩; subst hw5)
        | (go_at_call 95; refine c.mono ?_; rintro e w6 ⟨rfl, hf6, hb6⟩; have HF6 : Hid (FMAt w6 q mp mt A T ⟨fun p => if farB v.dst p = true then m.has p else 0, fun p => if farB v.dst p = true then m.is p else 0, m.tmp⟩) := hf6; have HB6 : Hid (But mp mp we w6) := hb6.mono HBA.out; clear hf6 hb6))
      clear c c0 c1
      have hlm := HF.out.lt
      have hlo := HMV.out.lo
      have x0 := HF6.out.c0
      have x1 : w6.cell? ⟨w.heap.size, 0, none⟩ = some (.int .i64 v.dst.kind) := HB6.out.cellOf HMV.out.c0 (by omega) (by omega)
      have x2 : w6.cell? ⟨w.heap.size, 1, none⟩ = some (.int .i64 v.dst.n) := HB6.out.cellOf HMV.out.c1 (by omega) (by omega)
      have x3 : w6.cell? ⟨gb, 0, none⟩ = some (.int .u64 (bn gh)) := HB6.out.cellOf HMV.out.g0 (by omega) (by omega)
      have x4 : w6.cell? ⟨gb, 1, none⟩ = some (.int .u64 (bn gi)) := HB6.out.cellOf HMV.out.g1 (by omega) (by omega)
      have hn36 : A.length < maxLen := by have := HD.out.a36; unfold maxLen; omega
      obtain ⟨w9, hrun, hp9, hg9⟩ := (HF6.out.pm.of_block (w' := w6.drew) rfl).put hn36 (HD.out.wf hdst) ((HD.out.all _).2 hdst) gh gi
      unfold LPlace.val knownV at hrun
      have HP9 : Hid (PMap w9 mp A (updP (fun p => if farB v.dst p = true then m.has p else 0) v.dst gh) (updP (fun p => if farB v.dst p = true then m.is p else 0) v.dst gi)) := hp9
      have HG9 : Hid (w6.drew.grownBy w9 (some mp)) := hg9
      clear hp9 hg9
      go_region
      all_goals go_wp2
      go_end0
      have hb9 : But mp mp w6 w9 := ⟨HG9.out.os, HG9.out.tape, HG9.out.output, HG9.out.size, fun k hk h1 _ => HG9.out.block k hk (fun e => h1 (Option.some.inj e))⟩
      have hF6 := HF6.out
      have e1 : (fun p => if farB v.dst p = true then m.has p else 0) = keepP m.has v.dst := far_keep _ _
      have e2 : (fun p => if farB v.dst p = true then m.is p else 0) = keepP m.is v.dst := far_keep _ _
      exact ⟨rfl, gh, gi, HGT.out, ⟨hb9.cellOf hF6.c0 hF6.n1 hF6.n1, hb9.cellOf hF6.c1 hF6.n1 hF6.n1, by have h := HP9.out; simp only [e1, e2] at h; exact h, hF6.tm.of_block (hb9.block mt hF6.tm.lt (Ne.symm hF6.n3) (Ne.symm hF6.n3)), hF6.n1, hF6.n2, hF6.n3⟩, (But.of_below HMV.out.bel).trans (HB6.out.trans hb9)⟩

set_option maxHeartbeats 4000000 in
theorem moveAllW {lim : Nat} {g : WB} {B : List Bool} {C : List LIns} {R : List LRow} {A : List LPlace} {N : List Int} {s slots : Nat} (hD : Dims B C s slots A N) (q mp mt : Nat) (T : List Int) (hq : lim ≤ q) (hmp : lim ≤ mp) (l : List LMove) (hl : ∀ v, v ∈ l → moveB s slots v = true) (h6 : l.length ≤ 6) (mv : Value) (w : World) (hW : WorldAt w lim g B C R A N) (m : FM) (hF : FMAt w q mp mt A T m) (hok : FmOk B s slots N m) (hM : MovesIs w mv l) (hmb : 0 < l.length → ∀ b o n c, mv = .slice (some ⟨b, o, none⟩) n c → b ≠ mp) :
    Calls Tryz.prog 69 #[.pointer (some ⟨g.q, 0, none⟩), .pointer (some ⟨q, 0, none⟩), mv] w fun e w' => e = .returned (.tuple #[]) ∧ ∃ m', FMAt w' q mp mt A T m' ∧ FmOk B s slots N m' ∧ (∀ f, Kof N m' f ↔ movesK (FactOk B s slots (NumP C)) l (Kof N m) f) ∧ But mp mp w w' := by
  obtain ⟨ao, cap, rfl, hll, hc⟩ := hM
  have HC : Hid _ := hc
  have HMB : Hid (0 < l.length → ∀ b o n c, Value.slice ao l.length cap = .slice (some ⟨b, o, none⟩) n c → b ≠ mp) := hmb
  have HD : Hid (Dims B C s slots A N) := hD
  have HW : Hid (WorldAt w lim g B C R A N) := hW
  have HL : Hid (∀ v, v ∈ l → moveB s slots v = true) := hl
  have HF0 : Hid (FMAt w q mp mt A T m) := hF
  have HOK : Hid (FmOk B s slots N m) := hok
  have hz6 : (l.length : Int) ≤ 6 := by omega
  clear hc hmb hD hW hl hF hok
  go_enter Tryz.func69, Tryz.ntmps69
  go_wp2
  go_loopw [7, 10] (fun v7 v wr => ∃ (k : Nat) (mk : FM), v = .int .i64 k ∧ k ≤ l.length ∧ FMAt wr q mp mt A T mk ∧ FmOk B s slots N mk ∧ (∀ f, Kof N mk f ↔ movesK (FactOk B s slots (NumP C)) (l.take k) (Kof N m) f) ∧ But mp mp w wr) (fun _ v _ => l.length - (sortu.numOf v).toNat)
  case atStart => exact ⟨0, m, rfl, by omega, HF0.out, HOK.out, fun f => by simp [movesK], But.of_below (Below.refl _ _)⟩
  case round =>
    obtain ⟨k, mk, rfl, hk, hf, hokk, his, hbk⟩ := hrel
    have HF : Hid (FMAt wr q mp mt A T mk) := hf
    have HOKK : Hid (FmOk B s slots N mk) := hokk
    have HIS : Hid (∀ f, Kof N mk f ↔ movesK (FactOk B s slots (NumP C)) (l.take k) (Kof N m) f) := his
    have HBK : Hid (But mp mp w wr) := hbk
    clear hf hokk his hbk
    by_cases hkl : k < l.length
    case neg =>
      have hkz : ¬ (k : Int) < (l.length : Int) := by omega
      go_wp2
      go_end0
      refine ⟨rfl, mk, HF.out, HOKK.out, fun f => ?_, HBK.out⟩
      have e : l.take k = l := List.take_of_length_le (by omega)
      rw [HIS.out f, e]
    have hkz : (k : Int) < (l.length : Int) := by omega
    obtain ⟨b, o, hao, hbl, hcell⟩ := HC.out (by omega)
    subst hao
    have hbm := HMB.out (by omega) b o _ _ rfl
    obtain ⟨d0, d1, d2, d3, d4, d5⟩ := hcell k hkl
    obtain ⟨v, hv⟩ : ∃ v, v = l.getD k .zero := ⟨_, rfl⟩
    rw [← hv] at d0 d1 d2 d3 d4 d5
    have y0 := HBK.out.cellOf d0 hbm hbm
    have y1 := HBK.out.cellOf d1 hbm hbm
    have y2 := HBK.out.cellOf d2 hbm hbm
    have y3 := HBK.out.cellOf d3 hbm hbm
    have y4 := HBK.out.cellOf d4 hbm hbm
    have y5 := HBK.out.cellOf d5 hbm hbm
    have HV : Hid (v = l.getD k .zero) := hv
    have hvm : v ∈ l := by rw [hv]; simp [List.getD, hkl]
    have hbv := HL.out v hvm
    clear hcell d0 d1 d2 d3 d4 d5 hv hvm
    have hb2 : b < wr.heap.size := cell_lt y0
    have hba : Below wr.heap.size wr (wr.alloc (.cells #[.int .i64 v.dst.kind, .int .i64 v.dst.n, .int .i64 v.src.kind, .int .i64 v.src.n, .bool v.cst, .int .u32 v.n] 94)) := (Below.refl _ _).alloc (Nat.le_refl _) _
    have c := moveW ((HW.out.but HBK.out hmp hmp).below hba) HD.out q mp mt T mk (HF.out.below hba) hq hmp v hbv HOKK.out
    have HBV : Hid (moveB s slots v = true) := hbv
    have HBA : Hid (Below wr.heap.size wr (wr.alloc (.cells #[.int .i64 v.dst.kind, .int .i64 v.dst.n, .int .i64 v.src.kind, .int .i64 v.src.n, .bool v.cst, .int .u32 v.n] 94))) := hba
    clear hba hbv
    unfold LMove.val at c
    go_wp2_with (go_at_call 93; refine c.mono ?_; rintro e w1 ⟨rfl, gh, gi, hg, hf1, hb1⟩; have HG : Hid (GotM B N mk v gh gi) := hg; have HF1 : Hid (FMAt w1 q mp mt A T (moveF mk v.dst gh gi)) := hf1; have HB1 : Hid (But mp mp wr w1) := hb1.mono HBA.out; clear hg hf1 hb1)
    go_roundw
    case rel =>
      refine ⟨k + 1, moveF mk v.dst gh gi, by go_num, by omega, HF1.out, moveF_ok HOKK.out HBV.out HG.out, fun f => ?_, HBK.out.trans HB1.out⟩
      rw [moveF_is HOKK.out HD.out.num HBV.out HG.out]
      have e : l.take (k + 1) = l.take k ++ [v] := by rw [HV.out, List.take_succ_eq_append_getElem hkl]; simp [List.getD, hkl]
      rw [e]
      unfold movesK
      rw [List.foldl_append]
      simp only [List.foldl_cons, List.foldl_nil]
      exact moveK_iff (fun f => HIS.out f) f
    case measure => simp [sortu.numOf]; omega
end Go.Proofs.YtcmnmogmdhofcaaGreat.form
