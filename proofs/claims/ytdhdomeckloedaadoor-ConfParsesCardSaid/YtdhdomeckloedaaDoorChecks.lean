/- The document's Near; the chapter's example; ConfChecks's walk. -/
import Derived.Test.YtdhdomeckloedaaDoorNear
import Derived.Deep.QuietTactic
import Derived.BigQuiet
import Derived.Deep.RegionWith
import Derived.BigRegion
namespace Go.Proofs.YtdhdomeckloedaaDoor
open Go.ChangeShapes Go.WideShapes Go.ChangeAt Go.RowKit
set_option linter.unusedVariables false

theorem clip_any (n lo hi : Int) (h : lo ≤ hi) (w : World) : Calls Tryd.prog 23 #[.int .i64 n, .int .i64 lo, .int .i64 hi] w fun e w' => e = .returned (.int .i64 (nearN n lo hi)) ∧ w' = w := by
  by_cases h1 : n < lo
  · have e : nearN n lo hi = lo := by
      unfold nearN
      split <;> split <;> omega
    rw [e]
    clear e
    go_enter Tryd.func23, Tryd.ntmps23
    go_wp2
    go_ret
    exact ⟨rfl, rfl⟩
  by_cases h2 : hi < n
  · have e : nearN n lo hi = hi := by
      unfold nearN
      split <;> split <;> omega
    rw [e]
    clear e
    go_enter Tryd.func23, Tryd.ntmps23
    go_wp2
    go_ret
    exact ⟨rfl, rfl⟩
  · have e : nearN n lo hi = n := nearN_self (by omega) (by omega)
    rw [e]
    clear e
    go_enter Tryd.func23, Tryd.ntmps23
    go_wp2
    go_ret
    exact ⟨rfl, rfl⟩

theorem Cf.nigh_nd (c : Cf) : c.nigh.nd = if nearN c.al 0 2 = 0 then nearN c.nd 1 64 else if nearN c.nd 1 64 < 3 then 3 else nearN c.nd 1 64 := by
  have h := nearN_in (n := c.nd) (lo := 1) (hi := 64) (by omega)
  unfold Cf.nigh sent maxI
  dsimp only
  split
  · split <;> omega
  · rfl

set_option maxRecDepth 100000 in
set_option maxHeartbeats 4000000 in
theorem rnear_any (c : Cf) (w : World) : Calls Tryd.prog 10 #[c.v] w fun e w' => e = .returned c.nigh.v ∧ Below w.heap.size w w' := by
  have hnd := c.nigh_nd
  have hv : c.nigh = ⟨nearN c.al 0 2, nearN c.th 1 6, c.nigh.nd, nearN c.lv 1 6, nearN c.ba 1 16, nearN c.pr 1 16, nearN c.sc 1 64⟩ := rfl
  have qa := nearN_in (n := c.al) (lo := 0) (hi := 2) (by omega)
  generalize c.nigh.nd = nn at *
  rw [hv]
  clear hv
  obtain ⟨al, th, nd, lv, ba, pr, sc⟩ := c
  dsimp only at *
  have k0 := fun w => clip_any al 0 2 (by omega) w
  have k1 := fun w => clip_any th 1 6 (by omega) w
  have k2 := fun w => clip_any nd 1 64 (by omega) w
  have k3 := fun w => clip_any lv 1 6 (by omega) w
  have k4 := fun w => clip_any ba 1 16 (by omega) w
  have k5 := fun w => clip_any pr 1 16 (by omega) w
  have k6 := fun w => clip_any sc 1 64 (by omega) w
  generalize nearN al 0 2 = a at *
  generalize nearN th 1 6 = b at *
  generalize nearN nd 1 64 = n at *
  generalize nearN lv 1 6 = d at *
  generalize nearN ba 1 16 = e at *
  generalize nearN pr 1 16 = f at *
  generalize nearN sc 1 64 = g at *
  have h0 : Below w.heap.size w ((w.alloc (.cells (Cf.cs ⟨al, th, nd, lv, ba, pr, sc⟩) 23)).alloc (.cells zc.cs 23)) := ((Below.refl _ _).alloc (Nat.le_refl _) _).alloc (by simp) _
  go_enter Tryd.func10, Tryd.ntmps10
  go_wp2
  generalize hW : ((w.alloc (.cells (Cf.cs ⟨al, th, nd, lv, ba, pr, sc⟩) 23)).alloc (.cells zc.cs 23)) = W0 at *
  have hB : Blk W0 w.heap.size 23 (Cf.cs ⟨al, th, nd, lv, ba, pr, sc⟩) := by
    rw [← hW]
    exact (Blk.new _ _ _).alloc _
  have hA : Blk W0 (w.heap.size + 1) 23 zc.cs := by
    rw [← hW]
    have := Blk.new (w.alloc (.cells (Cf.cs ⟨al, th, nd, lv, ba, pr, sc⟩) 23)) 23 zc.cs
    simpa using this
  have hAl := hA.lt
  have hA0 : w.heap.size ≤ w.heap.size + 1 := by omega
  generalize w.heap.size + 1 = A at *
  obtain ⟨z0, z1, z2, z3, z4, z5, z6⟩ := hA.conf
  have zf := hA.frozen
  obtain ⟨x0, x1, x2, x3, x4, x5, x6⟩ := hB.conf
  dsimp only at x0 x1 x2 x3 x4 x5 x6
  have h1 := h0.alloc h0.size (.cells (Cf.cs ⟨a, b, n, d, e, f, g⟩) 23)
  go_cut [3] from 4 to 25 (fun p wx => p = .pointer (some ⟨W0.heap.size, 0, none⟩) ∧ wx = (W0.alloc (.cells (Cf.cs ⟨a, b, n, d, e, f, g⟩) 23)).drew)
  case first =>
    go_region_held3 (fun W => W.cell? ⟨w.heap.size, 0, none⟩ = some (.int .i64 al) ∧ W.cell? ⟨w.heap.size, 1, none⟩ = some (.int .i64 th) ∧ W.cell? ⟨w.heap.size, 2, none⟩ = some (.int .i64 nd) ∧ W.cell? ⟨w.heap.size, 3, none⟩ = some (.int .i64 lv) ∧ W.cell? ⟨w.heap.size, 4, none⟩ = some (.int .i64 ba) ∧ W.cell? ⟨w.heap.size, 5, none⟩ = some (.int .i64 pr) ∧ W.cell? ⟨w.heap.size, 6, none⟩ = some (.int .i64 sc)) (go_keep)
      (first | (go_at_call_of 23 (Value.int .i64 al); refine (k0 _).mono ?_; rintro e w1 ⟨rfl, rfl⟩) | (go_at_call_of 23 (Value.int .i64 th); refine (k1 _).mono ?_; rintro e w1 ⟨rfl, rfl⟩) | (go_at_call_of 23 (Value.int .i64 nd); refine (k2 _).mono ?_; rintro e w1 ⟨rfl, rfl⟩) | (go_at_call_of 23 (Value.int .i64 lv); refine (k3 _).mono ?_; rintro e w1 ⟨rfl, rfl⟩) | (go_at_call_of 23 (Value.int .i64 ba); refine (k4 _).mono ?_; rintro e w1 ⟨rfl, rfl⟩) | (go_at_call_of 23 (Value.int .i64 pr); refine (k5 _).mono ?_; rintro e w1 ⟨rfl, rfl⟩) | (go_at_call_of 23 (Value.int .i64 sc); refine (k6 _).mono ?_; rintro e w1 ⟨rfl, rfl⟩))
    all_goals (go_wp2_with fail; go_meet; exact ⟨rfl, rfl⟩)
  case rest =>
    obtain ⟨rfl, rfl⟩ := hcut
    have hX : Blk ((W0.alloc (.cells (Cf.cs ⟨a, b, n, d, e, f, g⟩) 23)).drew) W0.heap.size 23 (Cf.cs ⟨a, b, n, d, e, f, g⟩) := (Blk.new _ _ _).drew
    have hA2 := (hA.alloc (.cells (Cf.cs ⟨a, b, n, d, e, f, g⟩) 23)).drew
    have h2 := below_drew1 h1
    have hWA : A ≠ W0.heap.size := Nat.ne_of_lt hAl
    have hXl : w.heap.size ≤ W0.heap.size := h0.size
    clear h0 h1 hA hB x0 x1 x2 x3 x4 x5 x6 z0 z1 z2 z3 z4 z5 z6 zf hAl k0 k1 k2 k3 k4 k5 k6
    generalize ((W0.alloc (.cells (Cf.cs ⟨a, b, n, d, e, f, g⟩) 23)).drew) = V at *
    generalize W0.heap.size = X at *
    obtain ⟨y0, y1, y2, y3, y4, y5, y6⟩ := hX.conf
    have yf := hX.frozen
    obtain ⟨z0, z1, z2, z3, z4, z5, z6⟩ := hA2.conf
    have zf := hA2.frozen
    dsimp only at y0 y1 y2 y3 y4 y5 y6 z0 z1 z2 z3 z4 z5 z6
    by_cases ha : a = 0
    · subst ha
      rw [if_pos rfl] at hnd
      subst hnd
      go_wp2
      refine bodyPost_ret (v := Cf.v ⟨0, b, nn, d, e, f, g⟩) (by simp [results, Tryd.results10, go_sem, z0, z1, z2, z3, z4, z5, z6]) rfl ⟨rfl, ?_⟩
      exact ((((((h2.setCell hA0 _).setCell hA0 _).setCell hA0 _).setCell hA0 _).setCell hA0 _).setCell hA0 _).setCell hA0 _
    · rw [if_neg ha] at hnd
      have ha1 : 0 < a := by omega
      by_cases hn : n < 3
      · rw [if_pos hn] at hnd
        subst hnd
        go_wp2
        refine bodyPost_ret (v := Cf.v ⟨a, b, 3, d, e, f, g⟩) (by simp [results, Tryd.results10, go_sem, z0, z1, z2, z3, z4, z5, z6]) rfl ⟨rfl, ?_⟩
        exact (((((((h2.setCell hXl _).setCell hA0 _).setCell hA0 _).setCell hA0 _).setCell hA0 _).setCell hA0 _).setCell hA0 _).setCell hA0 _
      · rw [if_neg hn] at hnd
        subst hnd
        go_wp2
        refine bodyPost_ret (v := Cf.v ⟨a, b, nn, d, e, f, g⟩) (by simp [results, Tryd.results10, go_sem, z0, z1, z2, z3, z4, z5, z6]) rfl ⟨rfl, ?_⟩
        exact ((((((h2.setCell hA0 _).setCell hA0 _).setCell hA0 _).setCell hA0 _).setCell hA0 _).setCell hA0 _).setCell hA0 _
end Go.Proofs.YtdhdomeckloedaaDoor
