/- PlanTells's walk. -/
import Derived.Test.YtbdbchgnjjlccaaFind
import Derived.Test.YtbdbchgnjjlccaaBack
namespace Go.Proofs.Ytbdbchgnjjlccaa
open Go.ChangeShapes Go.WideShapes Go.ChangeAt Go.RowKit
set_option linter.unusedVariables false

/-- The list, in its form. -/
theorem all_form (c : Cf) (w : World) (h : c.Ok) : Calls Try.prog 18 #[c.v] w fun e w' => ∃ g cap, e = .returned (.slice (some ⟨g, 0, none⟩) c.size.toNat cap) ∧ w'.ownsRow (w.heap.size + 1) 39 3 (.slice (some ⟨g, 0, none⟩) c.size.toNat cap) c.size.toNat (encP (c.upto c.size.toNat)) ∧ c.size.toNat ≤ cap ∧ cap ≤ maxLen ∧ Below w.heap.size w w' := by
  obtain ⟨u1, u2, u3, u4, u5⟩ := h.steps
  refine (all_ok c w h).mono ?_
  rintro e w' ⟨v, rfl, hr, hb⟩
  rcases hr.2 with ⟨_, h0⟩ | ⟨g, cap, cur, rfl, _, _, h1, h2, _⟩
  · omega
  · exact ⟨g, cap, rfl, hr, h1, h2, hb⟩

/-- A row that stays where it is. -/
theorem row_below {W W' : World} {base : Nat} {e : TypeId} {size n : Nat} {v : Value} {xs : List Value} (h : W.ownsRow base e size v n xs) (hb : Below W.heap.size W W') : W'.ownsRow base e size v n xs :=
  row_agree h fun k e => hb.block k (h.lt k e).2

set_option maxRecDepth 100000 in
set_option maxHeartbeats 16000000 in
theorem tells_all (c : Cf) (a : Int) (w : World) (ha : I64 a) : Calls Try.prog 5 #[c.v, .int .i64 a] w fun e w' => e = .returned (.bool true) ∧ Below w.heap.size w w' := by
  have HL := Lib.hid lives_any
  have HA := Lib.hid ha
  obtain ⟨a0, a1⟩ := ha
  by_cases h : c.Ok
  · go_enter Try.func5, Try.ntmps5
    go_wp2_with fail
    refine (right_ok c _ h).mono ?_
    rintro e V ⟨rfl, hb⟩
    obtain ⟨hB, h0⟩ := boxed c hb
    clear hb
    obtain ⟨p0, p1, p2, p3, p4, p5, p6⟩ := hB.conf
    go_wp2_with fail
    refine (new_ok c _ h).mono ?_
    rintro e V1 ⟨rfl, hb⟩
    have h1 := below_then h0 hb (Nat.le_refl _)
    have hB1 := (hB.below hb hB.lt).alloc (.cells c.cs 25)
    have hP1 := Blk.new V1 25 c.cs
    have h2 := h1.alloc h1.size (.cells c.cs 25)
    clear hb hB h0 h1 p0 p1 p2 p3 p4 p5 p6
    obtain ⟨p0, p1, p2, p3, p4, p5, p6⟩ := hB1.conf
    go_wp2_with fail
    refine (all_form c _ h).mono ?_
    rintro e V2 ⟨g, cap, rfl, hr, hc1, hc2, hb⟩
    have h3 := below_then h2 hb (Nat.le_refl _)
    have hP2 := hP1.below hb hP1.lt
    have HR := Lib.hid hr
    clear hb hB1 h2 p0 p1 p2 p3 p4 p5 p6 hP1 hr
    generalize (V1.alloc (.cells c.cs 25)).heap.size + 1 = n0 at *
    generalize V1.heap.size = P at *
    obtain ⟨p0, p1, p2, p3, p4, p5, p6⟩ := hP2.conf
    obtain ⟨u1, u2, u3, u4, u5⟩ := h.steps
    unfold maxLen at hc2
    have hpl : ∃ k x y, c.place a = (k, x, y) := ⟨_, _, _, rfl⟩
    obtain ⟨k, x, y, hpl⟩ := hpl
    have hw := where_as h HA.out hpl
    go_wp2_with fail
    refine (hw _).mono ?_
    rintro e V3 ⟨rfl, hb⟩
    have h4 := below_then h3 hb (Nat.le_refl _)
    have HR3 := Lib.hid (row_below HR.out hb)
    clear hb HR h3 hP2 p0 p1 p2 p3 p4 p5 p6 hw
    have HO := Lib.hid h
    have HZ := Lib.hid (show (c.size.toNat : Int) = c.size by omega)
    by_cases g1 : a < 0
    · obtain ⟨rfl, rfl, rfl⟩ : k = 5 ∧ x = 0 ∧ y = 0 := by
        rw [place_5 h (.inl g1)] at hpl
        simp at hpl
        exact ⟨hpl.1.symm, hpl.2.1.symm, hpl.2.2.symm⟩
      clear hpl h
      generalize c.size.toNat = n at *
      go_wp2_with (go_at_call 11; refine (HL.out _).mono ?_; rintro e V4 ⟨rfl, hb⟩)
      go_ret
      exact ⟨rfl, below_then h4 hb (Nat.le_refl _)⟩
    by_cases g2 : c.size ≤ a
    · obtain ⟨rfl, rfl, rfl⟩ : k = 5 ∧ x = 0 ∧ y = 0 := by
        rw [place_5 h (.inr g2)] at hpl
        simp at hpl
        exact ⟨hpl.1.symm, hpl.2.1.symm, hpl.2.2.symm⟩
      have g3 : (c.size.toNat : Int) ≤ a := by omega
      clear hpl h
      generalize c.size.toNat = n at *
      go_wp2_with (go_at_call 11; refine (HL.out _).mono ?_; rintro e V4 ⟨rfl, hb⟩)
      go_ret
      exact ⟨rfl, below_then h4 hb (Nat.le_refl _)⟩
    · obtain ⟨j, rfl⟩ : ∃ j : Nat, a = j := ⟨a.toNat, by omega⟩
      have g3 : j < c.size.toNat := by omega
      have g4 : (j : Int) < (c.size.toNat : Int) := by omega
      obtain ⟨d0, d1, d2⟩ := encP_get _ j _ (upto_get c g3)
      rw [hpl] at d0 d1 d2
      have b0 : V3.cell? ⟨g, j * 3, none⟩ = _ := (HR3.out.cellAt (j * 3) (by omega)).trans d0
      have b1 : V3.cell? ⟨g, j * 3 + 1, none⟩ = _ := (HR3.out.cellAt (j * 3 + 1) (by omega)).trans d1
      have b2 : V3.cell? ⟨g, j * 3 + 2, none⟩ = _ := (HR3.out.cellAt (j * 3 + 2) (by omega)).trans d2
      simp only at b0 b1 b2
      have hq := eq_place (k, x, y) (k, x, y)
      simp only [decide_true] at hq
      clear d0 d1 d2 hpl h g2
      generalize c.size.toNat = n at *
      go_wp2_with (go_at_call 11; refine (HL.out _).mono ?_; rintro e V4 ⟨rfl, hb⟩)
      go_ret
      exact ⟨rfl, below_then h4 hb (Nat.le_refl _)⟩
  · go_enter Try.func5, Try.ntmps5
    go_wp2_with fail
    refine (right_bad c _ h).mono ?_
    rintro e V ⟨rfl, hb⟩
    obtain ⟨hB, h0⟩ := boxed c hb
    clear hb
    go_wp2_with (go_at_call 11; refine (HL.out _).mono ?_; rintro e V4 ⟨rfl, hb⟩)
    go_ret
    exact ⟨rfl, below_then h0 hb (Nat.le_refl _)⟩
end Go.Proofs.Ytbdbchgnjjlccaa
