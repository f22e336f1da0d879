/- Tag of a ghost. -/
import Derived.Test.YtemikojaldoofaaGreatKMac
namespace Go.Proofs.YtemikojaldoofaaGreat.G
open Go.ChangeShapes Go.WideShapes Go.ChangeAt Go.RowKit
set_option linter.unusedVariables false
set_option maxRecDepth 20000
theorem tag_nil (i : Int) (w : World) : Calls Tryz.prog 23 #[.pointer none, .int .i64 i] w fun e w' => e = .returned (.int .i64 0) ∧ w = w' := by
  go_enter Tryz.func23, Tryz.ntmps23
  go_wp2_with fail
  refine (has_nil i _).mono ?_
  rintro e w' ⟨rfl, rfl⟩
  go_wp2
  go_ret
  exact ⟨rfl, rfl⟩
theorem tag_no (B : Nat) (ad : Option Addr) (n : Nat) (s : GS) (i : Int) (w : World) (g : GAt B ad n s w) (h : i < 1 ∨ (n : Int) < i) : Calls Tryz.prog 23 #[at0 B, .int .i64 i] w fun e w' => e = .returned (.int .i64 0) ∧ w = w' := by
  go_enter Tryz.func23, Tryz.ntmps23
  go_wp2_with fail
  refine (has_no B ad n s i _ g h).mono ?_
  rintro e w' ⟨rfl, rfl⟩
  go_wp2
  go_ret
  exact ⟨rfl, rfl⟩
theorem tag_yes (B : Nat) (ad : Option Addr) (n : Nat) (s : GS) (j : Nat) (w : World) (g : GAt B ad n s w) (h : j < n) : Calls Tryz.prog 23 #[at0 B, .int .i64 ((j : Int) + 1)] w fun e w' => e = .returned (.int .i64 (tagAt s.tags j)) ∧ w = w' := by
  go_enter Tryz.func23, Tryz.ntmps23
  go_wp2_with fail
  refine (has_yes B ad n s ((j : Int) + 1) _ g (by omega) (by omega)).mono ?_
  rintro e w' ⟨rfl, rfl⟩
  obtain ⟨G, rfl, hG⟩ := g.row (by omega)
  have c := g.box.cell 0
  have t := cell_tag (a := j) hG (by rw [g.len]; exact h)
  have := g.small
  have hw := less_one (j := j) (by omega)
  simp at c
  clear g hG
  go_wp2
  go_ret
  exact ⟨rfl, rfl⟩
end Go.Proofs.YtemikojaldoofaaGreat.G
namespace Go.Proofs.YtemikojaldoofaaGreat
open Go.ChangeShapes Go.WideShapes Go.ChangeAt Go.RowKit
set_option linter.unusedVariables false
set_option maxRecDepth 20000
theorem tag_any (B : Nat) (ad : Option Addr) (n : Nat) (s : G.GS) (i : Int) (w : World) (g : G.GAt B ad n s w) : Calls Tryz.prog 23 #[at0 B, .int .i64 i] w fun e w' => e = .returned (.int .i64 (tagOf n s i)) ∧ w = w' := by
  by_cases h : i < 1 ∨ (n : Int) < i
  · rw [show tagOf n s i = 0 from if_pos h]
    exact G.tag_no B ad n s i w g h
  · obtain ⟨j, rfl⟩ : ∃ j : Nat, i = (j : Int) + 1 := ⟨(i - 1).toNat, by omega⟩
    rw [show tagOf n s ((j : Int) + 1) = G.tagAt s.tags j by unfold tagOf; rw [if_neg h]; congr 1; omega]
    exact G.tag_yes B ad n s j w g (by omega)
end Go.Proofs.YtemikojaldoofaaGreat
