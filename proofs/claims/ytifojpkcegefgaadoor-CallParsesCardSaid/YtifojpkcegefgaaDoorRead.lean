/- Read. -/
import Derived.Test.YtifojpkcegefgaaDoorParse
namespace Go.Proofs.YtifojpkcegefgaaDoor
open Go.ChangeShapes Go.WideShapes Go.ChangeAt Go.RowKit
set_option linter.unusedVariables false

set_option maxRecDepth 100000 in
set_option maxHeartbeats 4000000 in
theorem read_any (l : List UInt8) (hl : l.length ≤ 100000) (w : World) : Calls Tryd.prog 18 #[strV l] w fun e w' => e = .returned (optV (readL l)) ∧ Below w.heap.size w w' := by
  have B := fun w => pair_any l hl w
  have q1 := fun w => eq_str l doneT w
  have q2 := fun w => eq_str l fullT w
  have q3 := fun w => eq_str l emptyT w
  have hX : readL l = if l = doneT then some ⟨0, 0, 0⟩ else if l = fullT then some ⟨1, 0, 0⟩ else if l = emptyT then some ⟨3, 0, 0⟩ else match pairL l with | some (k, v) => some ⟨2, k, v⟩ | none => none := rfl
  have fin : ∀ o, readL l = o → ∀ e w', e = Ending.returned (optV o) → Below w.heap.size w w' → (e = .returned (optV (readL l)) ∧ Below w.heap.size w w') := by
    intro o h e w' h1 h2
    rw [h]
    exact ⟨h1, h2⟩
  generalize readL l = X at *
  generalize pairL l = b at *
  unfold doneT at q1 hX
  unfold fullT at q2 hX
  unfold emptyT at q3 hX
  have b0 := (Below.refl w.heap.size w).alloc (Nat.le_refl _) (.cells #[.int .i64 0, .int .u32 0, .int .u32 0] 26)
  have k0 := zero_blk w 26
  by_cases h1 : l = [100, 111, 110, 101]
  · rw [if_pos h1] at hX
    have HE := Lib.hid (fin _ hX)
    have e1 := beqL_t h1
    have HB := Lib.hid ((Below.refl w.heap.size w).alloc (Nat.le_refl _) (.cells #[.int .i64 0, .int .u32 0, .int .u32 0] 26))
    clear hX fin B h1 b0 k0
    go_enter Tryd.func18, Tryd.ntmps18
    go_wp2
    exact bodyPost_ret (v := optV (some ⟨0, 0, 0⟩)) (by simp [results, Tryd.results18, go_sem, optV]) rfl (HE.out _ _ rfl HB.out)
  rw [if_neg h1] at hX
  have e1 := beqL_f h1
  clear h1
  by_cases h2 : l = [102, 117, 108, 108]
  · rw [if_pos h2] at hX
    have HE := Lib.hid (fin _ hX)
    have e2 := beqL_t h2
    have HB := Lib.hid ((Below.refl w.heap.size w).alloc (Nat.le_refl _) (.cells #[.int .i64 1, .int .u32 0, .int .u32 0] 26))
    clear hX fin B h2 b0 k0
    go_enter Tryd.func18, Tryd.ntmps18
    go_wp2
    exact bodyPost_ret (v := optV (some ⟨1, 0, 0⟩)) (by simp [results, Tryd.results18, go_sem, optV]) rfl (HE.out _ _ rfl HB.out)
  rw [if_neg h2] at hX
  have e2 := beqL_f h2
  clear h2
  by_cases h3 : l = [101, 109, 112, 116, 121]
  · rw [if_pos h3] at hX
    have HE := Lib.hid (fin _ hX)
    have e3 := beqL_t h3
    have HB := Lib.hid ((Below.refl w.heap.size w).alloc (Nat.le_refl _) (.cells #[.int .i64 3, .int .u32 0, .int .u32 0] 26))
    clear hX fin B h3 b0 k0
    go_enter Tryd.func18, Tryd.ntmps18
    go_wp2
    exact bodyPost_ret (v := optV (some ⟨3, 0, 0⟩)) (by simp [results, Tryd.results18, go_sem, optV]) rfl (HE.out _ _ rfl HB.out)
  rw [if_neg h3] at hX
  have e3 := beqL_f h3
  clear h3
  go_enter Tryd.func18, Tryd.ntmps18
  go_wp2_with fail
  refine (B _).mono ?_
  rintro e w2 ⟨rfl, g2⟩
  have b2 := below_then b0 g2
  have k2 := k0.below g2 k0.lt
  obtain ⟨c0, c1, c2, f0, f1, f2⟩ := blk_cells k2
  have HB := Lib.hid b2
  have HK := Lib.hid k2
  clear b0 k0 g2 B b2 k2
  have HE := Lib.hid (fin _ hX)
  clear fin hX
  cases b with
  | none =>
    obtain ⟨n0, n1, n2, _⟩ := blk_cells (put3_blk HK.out ⟨0, 0, 0⟩)
    have H0 := Lib.hid n0
    have H1 := Lib.hid n1
    have H2 := Lib.hid n2
    clear n0 n1 n2
    simp only [pairV]
    go_wp2
    exact bodyPost_ret (v := optV none) (by simp [results, Tryd.results18, go_sem, optV, H0.out, H1.out, H2.out]) rfl (HE.out _ _ rfl (put3_below HB.out (Nat.le_refl _) ⟨0, 0, 0⟩))
  | some kv =>
    obtain ⟨k, v⟩ := kv
    obtain ⟨n0, n1, n2, _⟩ := blk_cells (put3_blk HK.out ⟨2, k, v⟩)
    have H0 := Lib.hid n0
    have H1 := Lib.hid n1
    have H2 := Lib.hid n2
    clear n0 n1 n2
    simp only [pairV]
    go_wp2
    exact bodyPost_ret (v := optV (some ⟨2, k, v⟩)) (by simp [results, Tryd.results18, go_sem, optV, H0.out, H1.out, H2.out]) rfl (HE.out _ _ rfl (put3_below HB.out (Nat.le_refl _) ⟨2, k, v⟩))

/-! ### lives -/
theorem bad_text : readL [48, 51, 32, 49] = none := by rfl
theorem good_text : showT ⟨0, 5, 7⟩ = [105, 110, 115, 101, 114, 116, 32, 53, 32, 55] := by
  simp [showT, rightB, insT', pairT, Lib.decDigits_one]
set_option maxRecDepth 100000 in
theorem lives_any (w : World) (ht : Tab w) : Calls Tryd.prog 12 #[] w fun e w' => e = .returned (.bool true) ∧ Below w.heap.size w w' := by
  have R := fun w => read_any [48, 51, 32, 49] (by decide) w
  have S := fun w => show_any ⟨0, 5, 7⟩ ⟨by decide, by decide, by decide, by decide⟩ w
  have q := fun w => eq_str [105, 110, 115, 101, 114, 116, 32, 53, 32, 55] [105, 110, 115, 101, 114, 116, 32, 53, 32, 55] w
  rw [beq_self_eq_true] at q
  simp only [bad_text, optV] at R
  simp only [good_text] at S
  go_enter Tryd.func12, Tryd.ntmps12
  go_wp2_with fail
  refine (R _).mono ?_
  rintro e w1 ⟨rfl, g1⟩
  have ht1 := tab_below ht g1
  have b1 := g1.alloc g1.size (.cells #[.int .i64 0, .int .u32 0, .int .u32 0] 26)
  have ht2 := tab_below ht b1
  have HB := Lib.hid b1
  clear R ht ht1 b1 g1
  go_wp2_with fail
  refine (S _ ht2).mono ?_
  rintro e w2 ⟨rfl, g2⟩
  have HB2 := Lib.hid (below_then HB.out g2)
  clear g2 S ht2 HB
  go_wp2
  go_ret
  exact ⟨rfl, HB2.out⟩
end Go.Proofs.YtifojpkcegefgaaDoor
