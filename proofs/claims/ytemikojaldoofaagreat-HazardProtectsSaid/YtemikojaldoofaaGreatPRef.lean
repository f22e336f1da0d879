/- The document's numbers; which configurations may be; the chapter's example. -/
import Derived.Test.YtemikojaldoofaaGreatPWhere
namespace Go.Proofs.YtemikojaldoofaaGreat.P
open Go.ChangeShapes Go.WideShapes Go.ChangeAt Go.RowKit
set_option linter.unusedVariables false

set_option maxRecDepth 20000


theorem box1 {w : World} (o : Obj) : Below w.heap.size w (w.alloc o) := (Below.refl _ _).alloc (Nat.le_refl _) _
theorem rsent_any (c : Cf) (w : World) : Calls Tryz.prog 19 #[c.v] w fun e w' => e = .returned (.int .i64 (sent c.al)) ∧ Below w.heap.size w w' := by
  obtain ⟨al, th, nd, lv, ba, pr, sc⟩ := c
  dsimp only at *
  by_cases h0 : al = 0
  · subst h0
    have hs : sent 0 = 0 := rfl
    rw [hs]
    clear hs
    go_enter Tryz.func19, Tryz.ntmps19
    go_wp2
    go_ret
    exact ⟨rfl, box1 _⟩
  · have hs : sent al = 2 := if_neg h0
    rw [hs]
    clear hs
    have h0' : (al == 0) = false := by simpa using h0
    go_enter Tryz.func19, Tryz.ntmps19
    go_wp2
    go_ret
    exact ⟨rfl, box1 _⟩
/-! ### Right -/
set_option maxRecDepth 100000 in
set_option maxHeartbeats 8000000 in
theorem right_early (al th nd lv ba pr sc : Int) (w : World) (h : al < 0 ∨ 2 < al ∨ th < 1 ∨ 6 < th ∨ nd < 1 ∨ 64 < nd ∨ lv < 1 ∨ 6 < lv ∨ ba < 1 ∨ 16 < ba ∨ pr < 1 ∨ 16 < pr ∨ sc < 1 ∨ 64 < sc) :
    Calls Tryz.prog 7 #[Cf.v ⟨al, th, nd, lv, ba, pr, sc⟩] w fun e w' => e = .returned (.bool false) ∧ Below w.heap.size w w' := by
  by_cases g0 : al < 0
  · clear h
    go_enter Tryz.func7, Tryz.ntmps7
    go_wp2
    go_ret
    exact ⟨rfl, box1 _⟩
  by_cases g1 : 2 < al
  · clear h
    go_enter Tryz.func7, Tryz.ntmps7
    go_wp2
    go_ret
    exact ⟨rfl, box1 _⟩
  by_cases g2 : th < 1
  · clear h
    go_enter Tryz.func7, Tryz.ntmps7
    go_wp2
    go_ret
    exact ⟨rfl, box1 _⟩
  by_cases g3 : 6 < th
  · clear h
    go_enter Tryz.func7, Tryz.ntmps7
    go_wp2
    go_ret
    exact ⟨rfl, box1 _⟩
  by_cases g4 : nd < 1
  · clear h
    go_enter Tryz.func7, Tryz.ntmps7
    go_wp2
    go_ret
    exact ⟨rfl, box1 _⟩
  by_cases g5 : 64 < nd
  · clear h
    go_enter Tryz.func7, Tryz.ntmps7
    go_wp2
    go_ret
    exact ⟨rfl, box1 _⟩
  by_cases g6 : lv < 1
  · clear h
    go_enter Tryz.func7, Tryz.ntmps7
    go_wp2
    go_ret
    exact ⟨rfl, box1 _⟩
  by_cases g7 : 6 < lv
  · clear h
    go_enter Tryz.func7, Tryz.ntmps7
    go_wp2
    go_ret
    exact ⟨rfl, box1 _⟩
  by_cases g8 : ba < 1
  · clear h
    go_enter Tryz.func7, Tryz.ntmps7
    go_wp2
    go_ret
    exact ⟨rfl, box1 _⟩
  by_cases g9 : 16 < ba
  · clear h
    go_enter Tryz.func7, Tryz.ntmps7
    go_wp2
    go_ret
    exact ⟨rfl, box1 _⟩
  by_cases g10 : pr < 1
  · clear h
    go_enter Tryz.func7, Tryz.ntmps7
    go_wp2
    go_ret
    exact ⟨rfl, box1 _⟩
  by_cases g11 : 16 < pr
  · clear h
    go_enter Tryz.func7, Tryz.ntmps7
    go_wp2
    go_ret
    exact ⟨rfl, box1 _⟩
  by_cases g12 : sc < 1
  · clear h
    go_enter Tryz.func7, Tryz.ntmps7
    go_wp2
    go_ret
    exact ⟨rfl, box1 _⟩
  by_cases g13 : 64 < sc
  · clear h
    go_enter Tryz.func7, Tryz.ntmps7
    go_wp2
    go_ret
    exact ⟨rfl, box1 _⟩
  omega
set_option maxRecDepth 100000 in
set_option maxHeartbeats 8000000 in
theorem right_late (al th nd lv ba pr sc : Int) (w : World) (g0 : ¬ al < 0) (g1 : ¬ 2 < al) (g2 : ¬ th < 1) (g3 : ¬ 6 < th) (g4 : ¬ nd < 1) (g5 : ¬ 64 < nd) (g6 : ¬ lv < 1) (g7 : ¬ 6 < lv) (g8 : ¬ ba < 1) (g9 : ¬ 16 < ba) (g10 : ¬ pr < 1) (g11 : ¬ 16 < pr) (g12 : ¬ sc < 1) (g13 : ¬ 64 < sc) :
    Calls Tryz.prog 7 #[Cf.v ⟨al, th, nd, lv, ba, pr, sc⟩] w fun e w' => e = .returned (.bool (decide (sent al < nd))) ∧ Below w.heap.size w w' := by
  have hB : Blk (w.alloc (.cells (Cf.cs ⟨al, th, nd, lv, ba, pr, sc⟩) 23)) w.heap.size 23 (Cf.cs ⟨al, th, nd, lv, ba, pr, sc⟩) := Blk.new _ _ _
  have h0 : Below w.heap.size w (w.alloc (.cells (Cf.cs ⟨al, th, nd, lv, ba, pr, sc⟩) 23)) := box1 _
  have hc := rsent_any ⟨al, th, nd, lv, ba, pr, sc⟩
  dsimp only at hc
  generalize sent al = s at *
  go_enter Tryz.func7, Tryz.ntmps7
  go_wp2
  generalize (w.alloc (.cells (Cf.cs ⟨al, th, nd, lv, ba, pr, sc⟩) 23)) = W at *
  obtain ⟨x0, x1, x2, x3, x4, x5, x6⟩ := hB.conf
  dsimp only at x0 x1 x2 x3 x4 x5 x6
  go_region_held3 (fun W => W.cell? ⟨w.heap.size, 0, none⟩ = some (.int .i64 al) ∧ W.cell? ⟨w.heap.size, 1, none⟩ = some (.int .i64 th) ∧ W.cell? ⟨w.heap.size, 2, none⟩ = some (.int .i64 nd) ∧ W.cell? ⟨w.heap.size, 3, none⟩ = some (.int .i64 lv) ∧
    W.cell? ⟨w.heap.size, 4, none⟩ = some (.int .i64 ba) ∧ W.cell? ⟨w.heap.size, 5, none⟩ = some (.int .i64 pr) ∧ W.cell? ⟨w.heap.size, 6, none⟩ = some (.int .i64 sc)) (go_keep)
    (first | (go_at_call 19; refine (hc _).mono ?_; rintro e w1 ⟨rfl, hb⟩; obtain ⟨y0, y1, y2, y3, y4, y5, y6⟩ := Blk.conf (hB.drew.below hb hB.lt); dsimp only at y0 y1 y2 y3 y4 y5 y6))
  go_wp2
  go_ret
  exact ⟨rfl, below_then (below_drew1 h0) hb (Nat.le_refl _)⟩
theorem right_ok (c : Cf) (w : World) (h : c.Ok) : Calls Tryz.prog 7 #[c.v] w fun e w' => e = .returned (.bool true) ∧ Below w.heap.size w w' := by
  obtain ⟨al, th, nd, lv, ba, pr, sc⟩ := c
  obtain ⟨h1, h2, h3, h4, h5, h6, h7, h8, h9, h10, h11, h12, h13, h14⟩ := h
  have hs := sent_in al
  dsimp only at *
  have := right_late al th nd lv ba pr sc w (by omega) (by omega) (by omega) (by omega) (by omega) (by omega) (by omega) (by omega) (by omega) (by omega) (by omega) (by omega) (by omega) (by omega)
  rwa [show decide (sent al < nd) = true by simp; omega] at this
theorem right_bad (c : Cf) (w : World) (h : ¬ c.Ok) : Calls Tryz.prog 7 #[c.v] w fun e w' => e = .returned (.bool false) ∧ Below w.heap.size w w' := by
  obtain ⟨al, th, nd, lv, ba, pr, sc⟩ := c
  by_cases g : al < 0 ∨ 2 < al ∨ th < 1 ∨ 6 < th ∨ nd < 1 ∨ 64 < nd ∨ lv < 1 ∨ 6 < lv ∨ ba < 1 ∨ 16 < ba ∨ pr < 1 ∨ 16 < pr ∨ sc < 1 ∨ 64 < sc
  · exact right_early al th nd lv ba pr sc w g
  · have := right_late al th nd lv ba pr sc w (by omega) (by omega) (by omega) (by omega) (by omega) (by omega) (by omega) (by omega) (by omega) (by omega) (by omega) (by omega) (by omega) (by omega)
    rwa [show decide (sent al < nd) = false by
      simp only [decide_eq_false_iff_not]
      intro hlt
      exact h ⟨by dsimp only; omega, by dsimp only; omega, by dsimp only; omega, by dsimp only; omega, by dsimp only; omega, by dsimp only; omega, by dsimp only; omega, by dsimp only; omega, by dsimp only; omega, by dsimp only; omega, by dsimp only; omega, by dsimp only; omega, by dsimp only; omega, by dsimp only; omega⟩] at this

/-! ### The chapter's example -/
theorem ex_ok : Cf.Ok ⟨0, 1, 2, 1, 1, 1, 1⟩ := ⟨by decide, by decide, by decide, by decide, by decide, by decide, by decide, by decide, by decide, by decide, by decide, by decide, by decide, by decide⟩
end Go.Proofs.YtemikojaldoofaaGreat.P
