/- The walk of CallTexts. -/
import Derived.Test.YtifojpkcegefgaaDoorRight
namespace Go.Proofs.YtifojpkcegefgaaDoor
open Go.ChangeShapes Go.WideShapes Go.ChangeAt Go.RowKit
set_option linter.unusedVariables false

theorem eq_same (a : List UInt8) (w : World) : (Op.equalIn 10000 9 (.string ⟨a.toArray⟩) (.string ⟨a.toArray⟩)).run Tryd.prog w = .ok true w := by
  rw [eq_str, beq_self_eq_true]
set_option maxRecDepth 100000 in
set_option maxHeartbeats 8000000 in
theorem callTexts_walk (c a : Tri) (w : World) (ht : Tab w) (fc : Fit c) (oc : -9223372036854775808 ≤ c.op ∧ c.op ≤ 9223372036854775807) (fa : Fit a) (oa : -9223372036854775808 ≤ a.op ∧ a.op ≤ 9223372036854775807) :
    Calls Tryd.prog 4 #[c.v, a.v] w (Good w) := by
  have S0 := CA.start c a w
  have K13 : ∀ C A W, CA c a w C A W → _ := fun C A W h => show_any c fc W (tab_below ht h.bel)
  have K14 := refShow_any c fc
  have K15 : ∀ C A W, CA c a w C A W → _ := fun C A W h => tell_any a fa W (tab_below ht h.bel)
  have K16 := refTell_any a fa
  have K12 : ∀ C A W, CA c a w C A W → _ := fun C A W h => lives_any W (tab_below ht h.bel)
  have q1 := eq_same (showT c)
  have q2 := eq_same (tellT a)
  generalize showT c = x at *
  generalize tellT a = y at *
  obtain ⟨o, k, v⟩ := c
  obtain ⟨o2, k2, v2⟩ := a
  simp only [Tri.v] at K13 K14 K15 K16
  have S' := S0.drew
  obtain ⟨c0, c1, c2, a0, a1, a2⟩ := S0.cells
  clear S0 ht fc fa oc oa
  have H12 := Lib.hid K12
  have H13 := Lib.hid K13
  have H14 := Lib.hid K14
  have H15 := Lib.hid K15
  have H16 := Lib.hid K16
  clear K12 K13 K14 K15 K16
  go_enter Tryd.func4, Tryd.ntmps4
  go_wp2_with fail
  generalize hC : w.heap.size = C at *
  have HC := Lib.hid hC
  clear hC
  go_region_held3 (fun W => W.cell? ⟨C, 0, none⟩ = some (.int .i64 o) ∧ W.cell? ⟨C, 1, none⟩ = some (.int .u32 k) ∧ W.cell? ⟨C, 2, none⟩ = some (.int .u32 v) ∧ W.cell? ⟨C + 1, 0, none⟩ = some (.int .i64 o2) ∧ W.cell? ⟨C + 1, 1, none⟩ = some (.int .u32 k2) ∧ W.cell? ⟨C + 1, 2, none⟩ = some (.int .u32 v2)) (first | exact CA.cells (c := ⟨o, k, v⟩) (a := ⟨o2, k2, v2⟩) (w := w) (C := C) (A := C + 1) (by assumption) | go_keep)
    (first | (go_at_call 13; refine (H13.out C (C + 1) _ (by assumption)).mono ?_; rintro e V' ⟨rfl, hb⟩; have S' := CA.below (by assumption) hb; clear hb) | (go_at_call 14; refine (H14.out _).mono ?_; rintro e V' ⟨rfl, hb⟩; have S' := CA.below (by assumption) hb; clear hb) | (go_at_call 15; refine (H15.out C (C + 1) _ (by assumption)).mono ?_; rintro e V' ⟨rfl, hb⟩; have S' := CA.below (by assumption) hb; clear hb) | (go_at_call 16; refine (H16.out _).mono ?_; rintro e V' ⟨rfl, hb⟩; have S' := CA.below (by assumption) hb; clear hb) | (go_at_call 12; refine (H12.out C (C + 1) _ (by assumption)).mono ?_; rintro e V' ⟨rfl, hb⟩; have S' := CA.below (by assumption) hb; clear hb))
  all_goals
    go_wp2
    go_ret
    exact ⟨rfl, CA.bel (c := ⟨o, k, v⟩) (a := ⟨o2, k2, v2⟩) (w := w) (C := C) (A := C + 1) (by assumption)⟩
end Go.Proofs.YtifojpkcegefgaaDoor
