/- The chapter's example. -/
import Derived.Test.YtogbakgmkiiboaaKNew
namespace Go.Proofs.Ytogbakgmkiiboaa
open Go.ChangeShapes Go.WideShapes Go.ChangeAt Go.RowKit
set_option linter.unusedVariables false
set_option maxRecDepth 20000

abbrev ex : P.Cf := ⟨0, 1, 2, 1, 1, 1, 1⟩
theorem ex_ws : (firstMS ex).ws = [2, 0, 1, 0, 0, 0, 0, 0, 0, 0, 2, 0, 0, 0, 0, 0, 0, 0, 0, 0] := by decide +kernel

set_option maxHeartbeats 2000000 in
theorem lives_any (w : World) : Calls Try.prog 8 #[] w fun e w' => e = .returned (.bool true) ∧ Below w.heap.size w w' := by
  have KN := new_ok ex (.slice none 0 0) true 0 [] w P.ex_ok (fun W _ => F.new_nil W)
  go_enter Try.func8, Try.ntmps8
  go_wp2_with fail
  refine KN.mono ?_
  rintro e w1 ⟨Cb, Pb, B, Fb, T, ad, cap, gs, O, rfl, hgs, hA⟩
  have hbel := hA.bel
  obtain ⟨M, Om, hO, hb, hm, hg⟩ := hA.mach
  have KW := words_any M (firstMS ex) Om w1 hm (by rw [ex_ws]; decide)
  clear KN hA hgs hO hg hm
  go_wp2_with fail
  refine (mem_any B M ex _ Fb T _ false _ hb).mono ?_
  rintro e w1' ⟨rfl, rfl⟩
  clear hb
  go_wp2_with fail
  refine KW.mono ?_
  rintro e w2 ⟨v, rfl, ho, hb2⟩
  rw [ex_ws] at ho
  have H2 := Lib.hid (P.below_then hbel hb2 (Nat.le_refl _))
  rcases ho.2 with ⟨rfl, hz⟩ | ⟨g, cp, cur, rfl, _, _, hn, hc, _⟩
  · exact absurd hz (by decide)
  · have c0 := ho.cellAt 0 (by decide)
    have c10 := ho.cellAt 10 (by decide)
    have c11 := ho.cellAt 11 (by decide)
    simp [encU] at c0 c10 c11
    have hn2 : ([2, 0, 1, 0, 0, 0, 0, 0, 0, 0, 2, 0, 0, 0, 0, 0, 0, 0, 0, 0] : List Int).length = 20 := rfl
    rw [hn2] at hn
    clear ho hb2 hbel KW
    have hcm : cp ≤ 9223372036854775807 := by unfold maxLen at hc; omega
    go_wp2
    go_ret
    exact ⟨rfl, H2.out⟩
end Go.Proofs.Ytogbakgmkiiboaa
