/- The program's answer to whether an instruction may stand is the document's. -/
import Derived.Test.YtcmnmogmdhofcaaFormMay
import Derived.Test.YtcmnmogmdhofcaaFormRefMay
namespace Go.Proofs.Ytcmnmogmdhofcaa.form
set_option linter.unusedVariables false

theorem same_at (B : List Bool) (nC : Nat) (i : LIns) (n : Int) (hop : i.op = n) (hn : n = 1 ∨ n = 2 ∨ n = 3 ∨ n = 4 ∨ n = 5 ∨ n = 6 ∨ n = 7 ∨ n = 8 ∨ n = 9 ∨ n = 10) : standB B nC i = insB B nC i := by
  obtain ⟨op, d, a, b, c, N⟩ := i
  simp only at hop
  subst hop
  rw [Bool.eq_iff_iff]
  rcases hn with rfl | rfl | rfl | rfl | rfl | rfl | rfl | rfl | rfl | rfl
  all_goals simp [standB, fitAs, fit5, fitB, st, kd, knownB, insB, fieldB, lineB, widthsB, wl, wl0, wl1, givesB, manyI, bw]
  case inr.inl =>
    generalize B[d.toNat]?.getD false = x
    generalize B[a.toNat]?.getD false = y
    cases x <;> cases y <;> simp <;> omega
  all_goals
    generalize B[d.toNat]?.getD false = x
    generalize B[a.toNat]?.getD false = y
    generalize B[b.toNat]?.getD false = z
    constructor <;> intro h <;> simp_all

theorem same_narrow (B : List Bool) (nC : Nat) (i : LIns) (h1 : 21 ≤ i.op) (h2 : i.op ≤ 26) : standB B nC i = insB B nC i := by
  have hk := known_narrow i.op h1 h2
  have hd := kd_narrow i.op h1 h2
  have hg : givesB i.op = true := by unfold givesB; simp; omega
  have hm : manyI i.op = 2 := by unfold manyI; rw [if_neg (by omega), if_neg (by omega)]
  have hl : lineB nC i = (i.c == 0) := by unfold lineB; rw [if_neg (by omega)]
  have h1' : (i.op == 1) = false := by simp; omega
  have hw : widthsB B i = (wl B i).all (fun x => x == false) := by
    unfold widthsB
    rw [if_neg (by omega), if_neg (by omega), if_neg (by omega), show decide (40 < i.op) = false by simp; omega]
  rw [Bool.eq_iff_iff]
  simp [standB, fitAs, fit5, hk, hd, insB, hg, hm, hl, h1', hw, st, fitB, fieldB, wl, wl0, wl1, bw]
  clear hw
  generalize B[i.dest.toNat]?.getD false = x
  generalize B[i.a.toNat]?.getD false = y
  generalize B[i.b.toNat]?.getD false = z
  constructor <;> intro h <;> simp_all

theorem same_wide (B : List Bool) (nC : Nat) (i : LIns) (h1 : 41 ≤ i.op) (h2 : i.op ≤ 45) : standB B nC i = insB B nC i := by
  have hk := known_wide i.op h1 h2
  have hd := kd_wide i.op h1 h2
  have hg : givesB i.op = true := by unfold givesB; simp; omega
  have hm : manyI i.op = 2 := by unfold manyI; rw [if_neg (by omega), if_neg (by omega)]
  have hl : lineB nC i = (i.c == 0) := by unfold lineB; rw [if_neg (by omega)]
  have h1' : (i.op == 1) = false := by simp; omega
  have hw : widthsB B i = (wl B i).all (fun x => x == true) := by
    unfold widthsB
    rw [if_neg (by omega), if_neg (by omega), if_neg (by omega), show decide (40 < i.op) = true by simp; omega]
  rw [Bool.eq_iff_iff]
  simp [standB, fitAs, fit5, hk, hd, insB, hg, hm, hl, h1', hw, st, fitB, fieldB, wl, wl0, wl1, bw]
  clear hw
  generalize B[i.dest.toNat]?.getD false = x
  generalize B[i.a.toNat]?.getD false = y
  generalize B[i.b.toNat]?.getD false = z
  constructor <;> intro h <;> simp_all

theorem stand_ins (B : List Bool) (nC : Nat) (i : LIns) : standB B nC i = insB B nC i := by
  cases hk : knownB i.op with
  | false => simp [standB, insB, hk]
  | true =>
    have hk' := hk
    unfold knownB at hk'
    simp at hk'
    rcases hk' with (⟨h1, h2⟩ | ⟨h1, h2⟩) | ⟨h1, h2⟩
    · exact same_at B nC i i.op rfl (by omega)
    · exact same_narrow B nC i h1 h2
    · exact same_wide B nC i h1 h2

theorem may_same (B : List Bool) (C : List LIns) : mayB B C = refMayB B C := by
  unfold mayB refMayB
  rw [show standB B C.length = insB B C.length from funext (stand_ins B C.length)]

end Go.Proofs.Ytcmnmogmdhofcaa.form
