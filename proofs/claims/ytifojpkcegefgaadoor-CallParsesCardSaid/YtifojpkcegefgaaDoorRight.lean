/- The walk of CallRight. -/
import Derived.Test.YtifojpkcegefgaaDoorRead
namespace Go.Proofs.YtifojpkcegefgaaDoor
open Go.ChangeShapes Go.WideShapes Go.ChangeAt Go.RowKit
set_option linter.unusedVariables false

/-- A call and an answer, boxed; what lay at first is as it was. -/
structure CA (c a : Tri) (w : World) (C A : Nat) (W : World) : Prop where
  hc : Blk W C 24 c.cs
  ha : Blk W A 26 a.cs
  bel : Below w.heap.size w W
theorem CA.below {c a : Tri} {w W V : World} {C A : Nat} (h : CA c a w C A W) (b : Below W.heap.size W V) : CA c a w C A V :=
  ⟨h.hc.below b h.hc.lt, h.ha.below b h.ha.lt, below_then h.bel b⟩
theorem CA.drew {c a : Tri} {w W : World} {C A : Nat} (h : CA c a w C A W) : CA c a w C A W.drew := ⟨h.hc.drew, h.ha.drew, below_drew h.bel⟩
theorem CA.cells {c a : Tri} {w W : World} {C A : Nat} (h : CA c a w C A W) : W.cell? ⟨C, 0, none⟩ = some (.int .i64 c.op) ∧ W.cell? ⟨C, 1, none⟩ = some (.int .u32 c.key) ∧ W.cell? ⟨C, 2, none⟩ = some (.int .u32 c.val) ∧
    W.cell? ⟨A, 0, none⟩ = some (.int .i64 a.op) ∧ W.cell? ⟨A, 1, none⟩ = some (.int .u32 a.key) ∧ W.cell? ⟨A, 2, none⟩ = some (.int .u32 a.val) := by
  obtain ⟨c0, c1, c2, _⟩ := blk_cells h.hc
  obtain ⟨a0, a1, a2, _⟩ := blk_cells h.ha
  exact ⟨c0, c1, c2, a0, a1, a2⟩
theorem CA.start (c a : Tri) (w : World) : CA c a w w.heap.size (w.heap.size + 1) ((w.alloc (.cells c.cs 24)).alloc (.cells a.cs 26)) :=
  ⟨(Blk.new _ _ _).alloc _, by simpa using Blk.new (w.alloc (.cells c.cs 24)) 26 a.cs, ((Below.refl w.heap.size w).alloc (Nat.le_refl _) _).alloc (by simp) _⟩
abbrev Good (w : World) (e : Ending) (w' : World) : Prop := e = .returned (.bool true) ∧ Below w.heap.size w w'

theorem law_fits (c a : Tri) : fitsB c a = (rightB c && mayB a && ((c.op == 0) == decide (a.op < 2))) := by
  obtain ⟨o, k, v⟩ := c
  obtain ⟨o2, k2, v2⟩ := a
  cases hm : mayB ⟨o2, k2, v2⟩ with
  | false => simp [fitsB, hm]
  | true =>
    have : o2 = 0 ∨ o2 = 1 ∨ o2 = 2 ∨ o2 = 3 := by
      simp [mayB] at hm
      omega
    rcases this with rfl | rfl | rfl | rfl <;> cases h : (o == 0) <;> simp_all [fitsB]

set_option maxRecDepth 100000 in
set_option maxHeartbeats 8000000 in
theorem right_law (c a : Tri) (w : World) (ht : Tab w) : Calls Tryd.prog 3 #[c.v, a.v] w (Good w) := by
  have S0 := CA.start c a w
  have K8 := refRight_any c
  have K9 := refMay_any a
  have K10 := right_any c
  have K11 := fits_any c a
  have K12 : ∀ C A W, CA c a w C A W → _ := fun C A W h => lives_any W (tab_below ht h.bel)
  rw [law_fits] at K11
  generalize rightB c = r at *
  generalize mayB a = m at *
  obtain ⟨o, k, v⟩ := c
  obtain ⟨o2, k2, v2⟩ := a
  simp only [Tri.v] at K8 K9 K10 K11
  have HS := Lib.hid S0
  clear S0 ht
  go_enter Tryd.func3, Tryd.ntmps3
  go_upto_region 1 with fail
  go_cut [5] from 6 to 36 (fun s5 wx => s5 = .bool (r && m && ((o == 0) == decide (o2 < 2))) ∧ CA ⟨o, k, v⟩ ⟨o2, k2, v2⟩ w w.heap.size (w.heap.size + 1) wx)
  case first =>
    go_wp2_with fail
    refine (K8 _).mono ?_
    rintro e w1 ⟨rfl, g1⟩
    have HS1 := Lib.hid (HS.out.below g1)
    clear g1 HS K10 K11 K12
    cases r with
    | false =>
      go_wp2
      go_meet
      exact ⟨rfl, HS1.out⟩
    | true =>
      obtain ⟨c0, c1, c2, a0, a1, a2⟩ := HS1.out.cells
      go_wp2_with fail
      refine (K9 _).mono ?_
      rintro e w2 ⟨rfl, g2⟩
      have HS2 := Lib.hid (HS1.out.below g2)
      clear g2 HS1 K9 K8 c0 c1 c2 a0 a1 a2
      cases m with
      | false =>
        go_wp2
        go_meet
        exact ⟨rfl, HS2.out⟩
      | true =>
        obtain ⟨c0, c1, c2, a0, a1, a2⟩ := HS2.out.cells
        go_wp2
        go_meet
        exact ⟨by simp, HS2.out⟩
  case rest =>
    obtain ⟨rfl, S⟩ := hcut
    generalize (r && m && ((o == 0) == decide (o2 < 2))) = f at *
    generalize w.heap.size + 1 = A at *
    generalize hC : w.heap.size = C at *
    have HC := Lib.hid hC
    have HK := Lib.hid K12
    clear hC K12 HS K9
    have S' := S.drew
    obtain ⟨c0, c1, c2, a0, a1, a2⟩ := S.cells
    clear S
    go_wp2_with fail
    go_region_held3 (fun W => W.cell? ⟨C, 0, none⟩ = some (.int .i64 o) ∧ W.cell? ⟨C, 1, none⟩ = some (.int .u32 k) ∧ W.cell? ⟨C, 2, none⟩ = some (.int .u32 v) ∧ W.cell? ⟨A, 0, none⟩ = some (.int .i64 o2) ∧ W.cell? ⟨A, 1, none⟩ = some (.int .u32 k2) ∧ W.cell? ⟨A, 2, none⟩ = some (.int .u32 v2)) (first | exact CA.cells (c := ⟨o, k, v⟩) (a := ⟨o2, k2, v2⟩) (w := w) (C := C) (A := A) (by assumption) | go_keep)
      (first | (go_at_call 10; refine (K10 _).mono ?_; rintro e V' ⟨rfl, hb⟩; have S' := CA.below (by assumption) hb; clear hb) | (go_at_call 8; refine (K8 _).mono ?_; rintro e V' ⟨rfl, hb⟩; have S' := CA.below (by assumption) hb; clear hb) | (go_at_call 11; refine (K11 _).mono ?_; rintro e V' ⟨rfl, hb⟩; have S' := CA.below (by assumption) hb; clear hb) | (go_at_call 12; refine (HK.out C A _ (by assumption)).mono ?_; rintro e V' ⟨rfl, hb⟩; have S' := CA.below (by assumption) hb; clear hb))
    all_goals
      go_wp2
      go_ret
      exact ⟨rfl, CA.bel (c := ⟨o, k, v⟩) (a := ⟨o2, k2, v2⟩) (w := w) (C := C) (A := A) (by assumption)⟩
theorem callRight_walk (c a : Tri) (w : World) (ht : Tab w) (fc : Fit c) (oc : -9223372036854775808 ≤ c.op ∧ c.op ≤ 9223372036854775807) (fa : Fit a) (oa : -9223372036854775808 ≤ a.op ∧ a.op ≤ 9223372036854775807) :
    Calls Tryd.prog 3 #[c.v, a.v] w (Good w) := right_law c a w ht
end Go.Proofs.YtifojpkcegefgaaDoor
