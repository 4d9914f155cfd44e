/- The first register that no near one bars (color.free). -/
import Derived.Test.YtgeimilnddpdmabColorRegs
namespace Go.Proofs.Ytgeimilnddpdmab.form
open Go.RowKit
set_option linter.unusedVariables false
set_option maxRecDepth 100000
attribute [local go_sem ↓] Go.wp_at_zero Go.wp_at_succ

/-- A register of the list that is free, or none. -/
def FreeP (l G : List LPlace) (R : List Bool) (w : World) (e : Ending) (w' : World) : Prop := (∃ q : LPlace, e = .returned q.val ∧ (q = .zero ∨ ∃ j, j < l.length ∧ q = l.getD j .zero ∧ Free q G R)) ∧ Below w.heap.size w w'

set_option maxHeartbeats 1000000 in
theorem freeO (lo : Nat) (v : Value) (l : List LPlace) (gv r c1 c2 : Nat) (G : List LPlace) (R : List Bool) (w : World) (hv : RegsAt w lo v l) (h16 : l.length ≤ 16) (hl : R.length = G.length) (h12 : G.length ≤ 12) (hG : GivAt w gv G) (hR : TruAt w r R) :
    Calls Try.prog 23 #[v, .slice (some ⟨gv, 0, none⟩) G.length c1, .slice (some ⟨r, 0, none⟩) R.length c2] w fun e w' => FreeP l G R w e w' := by
  obtain ⟨ao, cap, rfl, hv2⟩ := hv
  have HBR : Hid (∀ (q : LPlace) (wx : World), Below w.heap.size w wx → Calls Try.prog 58 #[.agg #[.int .i64 q.kind, .int .i64 q.n], .slice (some ⟨gv, 0, none⟩) G.length c1, .slice (some ⟨r, 0, none⟩) R.length c2] wx fun e w' => BarP q G R wx e w') := fun q wx hb => barredO q gv r c1 c2 G R wx hl h12 (hG.later hb) (hR.later hb)
  have HV : Hid (0 < l.length → ∃ b, ao = some ⟨b, 0, none⟩ ∧ lo ≤ b ∧ b < w.heap.size ∧ ∀ wx, Below w.heap.size w wx → ∀ j, j < l.length → wx.cell? ⟨b, j * 2, none⟩ = some (.int .i64 (l.getD j .zero).kind) ∧ wx.cell? ⟨b, j * 2 + 1, none⟩ = some (.int .i64 (l.getD j .zero).n)) := fun hn => by
    obtain ⟨b, e, h1, h2, h3⟩ := hv2 hn
    exact ⟨b, e, h1, h2, fun wx hb j hj => ⟨step_cell hb (h3 j hj).1, step_cell hb (h3 j hj).2⟩⟩
  have HW0 : Hid (∀ o : Obj, Below w.heap.size w (w.alloc o)) := fun o => (Below.refl _ _).alloc (Nat.le_refl _) _
  have y1 : (l.length : Int) ≤ 16 := by omega
  rw [hl] at HBR ⊢
  clear hG hR hv2 hl
  go_enter Try.func23, Try.ntmps23
  go_wp2
  go_loopg [8, 11] (l.length + 1) (fun gg v8 v11 wr => ∃ (k : Nat), v11 = .int .i64 k ∧ k ≤ l.length ∧ gg = l.length + 1 - k ∧ Below w.heap.size w wr ∧ (wr.cell? ⟨w.heap.size, 0, none⟩ = some (.int .i64 0) ∧ wr.cell? ⟨w.heap.size, 1, none⟩ = some (.int .i64 0) ∧ wr.frozen? ⟨w.heap.size, 0, none⟩ = false ∧ wr.frozen? ⟨w.heap.size, 1, none⟩ = false))
  case atStart => exact ⟨0, rfl, by omega, by omega, HW0.out _, ⟨by simp [go_sem], by simp [go_sem], by simp [go_sem], by simp [go_sem]⟩⟩
  case round =>
    obtain ⟨k, rfl, hk, hgk, hb, r0, r1, r2, r3⟩ := hrel
    have HGK : Hid (gk = l.length + 1 - k) := hgk
    have HB : Hid (Below w.heap.size w wr) := hb
    have hw0 : w.heap.size < wr.heap.size := World.block_lt_of_cell? _ _ r0
    clear hgk hb
    by_cases hlt : k < l.length
    case neg =>
      have y2 : ¬ (k : Int) < (l.length : Int) := by omega
      go_wp2
      refine bodyPost_ret (v := LPlace.zero.val) ?_ rfl ⟨⟨.zero, rfl, Or.inl rfl⟩, ?_⟩
      · simp [results, Try.results23, go_sem, LPlace.val, LPlace.zero, r0, r1]
      · exact (HB.out.setCell (Nat.le_refl _) _).setCell (Nat.le_refl _) _
    have y2 : (k : Int) < (l.length : Int) := by omega
    have y3 : (0 : Int) ≤ (k : Int) := by omega
    obtain ⟨b, hao, -, hb2, hcs⟩ := HV.out (by omega)
    subst hao
    obtain ⟨e0, e1⟩ := hcs wr HB.out k hlt
    clear hcs
    obtain ⟨p, hp⟩ : ∃ p, p = l.getD k .zero := ⟨_, rfl⟩
    rw [← hp] at e0 e1
    have HP : Hid (p = l.getD k .zero) := hp
    clear hp
    have hbw : b < wr.heap.size := World.block_lt_of_cell? _ _ e0
    have HBA : Hid (∀ o : Obj, Below w.heap.size w (wr.alloc o)) := fun o => HB.out.alloc HB.out.size o
    have HCA : Hid (∀ o : Obj, (wr.alloc o).cell? ⟨w.heap.size, 0, none⟩ = some (.int .i64 0) ∧ (wr.alloc o).cell? ⟨w.heap.size, 1, none⟩ = some (.int .i64 0) ∧ (wr.alloc o).frozen? ⟨w.heap.size, 0, none⟩ = false ∧ (wr.alloc o).frozen? ⟨w.heap.size, 1, none⟩ = false) := fun o => by
      have hA : Below wr.heap.size wr (wr.alloc o) := (Below.refl _ _).alloc (Nat.le_refl _) _
      exact ⟨step_cell hA r0, step_cell hA r1, by rw [hA.frozen hw0]; exact r2, by rw [hA.frozen hw0]; exact r3⟩
    go_wp2_with (go_at_call 58; refine (HBR.out p _ (HBA.out _)).mono ?_; rintro e w2 ⟨⟨t, rfl, hfr⟩, hb2⟩; have HB2 : Hid (Below w.heap.size w w2) := step_below hb2 (HBA.out _); have HF : Hid (t = false → Free p G R) := hfr; have c2 : w2.cell? ⟨wr.heap.size, 0, none⟩ = some (.int .i64 p.kind) := step_cell hb2 (by simp [go_sem]); have c3 : w2.cell? ⟨wr.heap.size, 1, none⟩ = some (.int .i64 p.n) := step_cell hb2 (by simp [go_sem]); have s0 := step_cell hb2 (HCA.out _).1; have s1 := step_cell hb2 (HCA.out _).2.1; have s2 : w2.frozen? ⟨w.heap.size, 0, none⟩ = false := (by rw [hb2.frozen (by simp; omega)]; exact (HCA.out _).2.2.1); have s3 : w2.frozen? ⟨w.heap.size, 1, none⟩ = false := (by rw [hb2.frozen (by simp; omega)]; exact (HCA.out _).2.2.2); clear hb2 hfr)
    · have ht : t = false := by first | assumption | (rename_i hh; simpa using hh)
      refine bodyPost_ret (v := p.val) ?_ rfl ⟨⟨p, rfl, Or.inr ⟨k, hlt, HP.out, HF.out ht⟩⟩, ?_⟩
      · simp [results, Try.results23, go_sem, LPlace.val, s0, s1]
      · exact (HB2.out.setCell (Nat.le_refl _) _).setCell (Nat.le_refl _) _
    · have hgk := HGK.out
      go_roundg (gk - 1)
      case measure => omega
      case rel => exact ⟨k + 1, by go_num, by omega, by omega, HB2.out, s0, s1, s2, s3⟩

end Go.Proofs.Ytgeimilnddpdmab.form
