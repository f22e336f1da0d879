/- New: a plan just of what may be. -/
import Derived.Test.YtnedifcjenlcjaaPNear
namespace Go.Proofs.Ytnedifcjenlcjaa.P
open Go.ChangeShapes Go.WideShapes Go.ChangeAt Go.RowKit
set_option linter.unusedVariables false
set_option maxRecDepth 20000


theorem below_then {n : Nat} {w W w1 : World} (h0 : Below n w W) (hb : Below W.heap.size W w1) (hn : n ≤ w.heap.size) : Below n w w1 :=
  h0.trans (hb.mono (Nat.le_trans hn h0.size))
theorem nearN_self {n lo hi : Int} (h1 : lo ≤ n) (h2 : n ≤ hi) : nearN n lo hi = n := by
  unfold nearN
  rw [if_neg (show ¬ hi < n by omega)]
  split <;> omega
theorem nearN_in {n lo hi : Int} (h : lo ≤ hi) : lo ≤ nearN n lo hi ∧ nearN n lo hi ≤ hi := by
  unfold nearN
  split <;> split at * <;> omega
theorem sent_in (al : Int) : 0 ≤ sent al ∧ sent al ≤ 2 := by
  unfold sent
  split <;> omega
theorem Cf.Ok.near {c : Cf} (h : c.Ok) : c = c.near := by
  obtain ⟨al, th, nd, lv, ba, pr, sc⟩ := c
  obtain ⟨h1, h2, h3, h4, h5, h6, h7, h8, h9, h10, h11, h12, h13, h14⟩ := h
  simp only [Cf.near] at *
  rw [nearN_self h1 h2, nearN_self h3 h4, nearN_self h5 h6, nearN_self h7 h8, nearN_self h9 h10, nearN_self h11 h12, nearN_self h13 h14]
theorem Cf.ok_of_near {c : Cf} (h : c = c.near) : c.Ok := by
  obtain ⟨al, th, nd, lv, ba, pr, sc⟩ := c
  simp only [Cf.near, Cf.mk.injEq] at h
  obtain ⟨e1, e2, e3, e4, e5, e6, e7⟩ := h
  have s := sent_in al
  have q1 := nearN_in (n := al) (lo := 0) (hi := 2) (by omega)
  have q2 := nearN_in (n := th) (lo := 1) (hi := 6) (by omega)
  have q3 := nearN_in (n := nd) (lo := sent al + 1) (hi := 64) (by omega)
  have q4 := nearN_in (n := lv) (lo := 1) (hi := 6) (by omega)
  have q5 := nearN_in (n := ba) (lo := 1) (hi := 16) (by omega)
  have q6 := nearN_in (n := pr) (lo := 1) (hi := 16) (by omega)
  have q7 := nearN_in (n := sc) (lo := 1) (hi := 64) (by omega)
  rw [← e1] at q1
  rw [← e2] at q2
  rw [← e3] at q3
  rw [← e4] at q4
  rw [← e5] at q5
  rw [← e6] at q6
  rw [← e7] at q7
  exact ⟨q1.1, q1.2, q2.1, q2.2, q3.1, q3.2, q4.1, q4.2, q5.1, q5.2, q6.1, q6.2, q7.1, q7.2⟩

set_option maxHeartbeats 1000000 in
theorem new_bad (c : Cf) (w : World) (h : ¬ c.Ok) : Calls Try.prog 23 #[c.v] w fun e w' => e = .returned (.tuple #[zc.v, .int .i64 6]) ∧ Below w.heap.size w w' := by
  have hq : ∀ w, (Op.equalIn 10000 23 c.v c.near.v).run Try.prog w = .ok false w := fun w => by rw [eq_conf, Cf.eqB_false (fun e => h (Cf.ok_of_near e))]
  have hc := nearest_any c
  generalize c.near = d at *
  clear h
  have hB : Blk ((w.alloc (.cells c.cs 23)).alloc (.cells zc.cs 65)) w.heap.size 23 c.cs := (Blk.new _ _ _).alloc _
  have hR : Blk ((w.alloc (.cells c.cs 23)).alloc (.cells zc.cs 65)) (w.heap.size + 1) 65 zc.cs := by
    have := Blk.new (w.alloc (.cells c.cs 23)) 65 zc.cs
    simpa using this
  have h0 : Below w.heap.size w ((w.alloc (.cells c.cs 23)).alloc (.cells zc.cs 65)) := ((Below.refl _ _).alloc (Nat.le_refl _) _).alloc (by simp) _
  go_enter Try.func23, Try.ntmps23
  go_wp2
  generalize ((w.alloc (.cells c.cs 23)).alloc (.cells zc.cs 65)) = W at *
  have hR0 : w.heap.size ≤ w.heap.size + 1 := by omega
  have hne : w.heap.size ≠ w.heap.size + 1 := by omega
  have hne2 : w.heap.size + 1 ≠ w.heap.size := by omega
  generalize w.heap.size + 1 = R at *
  obtain ⟨x0, x1, x2, x3, x4, x5, x6⟩ := hB.conf
  go_region_held3 (fun W => W.cell? ⟨w.heap.size, 0, none⟩ = some (.int .i64 c.al) ∧ W.cell? ⟨w.heap.size, 1, none⟩ = some (.int .i64 c.th) ∧ W.cell? ⟨w.heap.size, 2, none⟩ = some (.int .i64 c.nd) ∧ W.cell? ⟨w.heap.size, 3, none⟩ = some (.int .i64 c.lv) ∧
    W.cell? ⟨w.heap.size, 4, none⟩ = some (.int .i64 c.ba) ∧ W.cell? ⟨w.heap.size, 5, none⟩ = some (.int .i64 c.pr) ∧ W.cell? ⟨w.heap.size, 6, none⟩ = some (.int .i64 c.sc)) (go_keep)
    (first | (go_at_call 38; refine (hc _).mono ?_; rintro e w1 ⟨rfl, hb⟩; obtain ⟨y0, y1, y2, y3, y4, y5, y6⟩ := Blk.conf (hB.drew.below hb hB.lt); obtain ⟨z0, z1, z2, z3, z4, z5, z6⟩ := Blk.conf (hR.drew.below hb hR.lt); have zf := Blk.frozen (hR.drew.below hb hR.lt)))
  go_wp2
  refine bodyPost_ret (v := .tuple #[zc.v, .int .i64 6]) (by simp [results, Try.results23, go_sem, z0, z1, z2, z3, z4, z5, z6]) rfl ⟨rfl, ?_⟩
  exact (((((((below_then (below_drew1 h0) hb (Nat.le_refl _)).setCell hR0 _).setCell hR0 _).setCell hR0 _).setCell hR0 _).setCell hR0 _).setCell hR0 _).setCell hR0 _

set_option maxHeartbeats 1000000 in
theorem new_ok (c : Cf) (w : World) (h : c.Ok) : Calls Try.prog 23 #[c.v] w fun e w' => e = .returned (.tuple #[c.v, .int .i64 0]) ∧ Below w.heap.size w w' := by
  have hq : ∀ w, (Op.equalIn 10000 23 c.v c.v).run Try.prog w = .ok true w := fun w => by rw [eq_conf, Cf.eqB_self]
  have hc := nearest_any c
  rw [← h.near] at hc
  clear h
  have hB : Blk ((w.alloc (.cells c.cs 23)).alloc (.cells zc.cs 65)) w.heap.size 23 c.cs := (Blk.new _ _ _).alloc _
  have hR : Blk ((w.alloc (.cells c.cs 23)).alloc (.cells zc.cs 65)) (w.heap.size + 1) 65 zc.cs := by
    have := Blk.new (w.alloc (.cells c.cs 23)) 65 zc.cs
    simpa using this
  have h0 : Below w.heap.size w ((w.alloc (.cells c.cs 23)).alloc (.cells zc.cs 65)) := ((Below.refl _ _).alloc (Nat.le_refl _) _).alloc (by simp) _
  go_enter Try.func23, Try.ntmps23
  go_wp2
  generalize ((w.alloc (.cells c.cs 23)).alloc (.cells zc.cs 65)) = W at *
  have hR0 : w.heap.size ≤ w.heap.size + 1 := by omega
  have hne : w.heap.size ≠ w.heap.size + 1 := by omega
  have hne2 : w.heap.size + 1 ≠ w.heap.size := by omega
  generalize w.heap.size + 1 = R at *
  obtain ⟨x0, x1, x2, x3, x4, x5, x6⟩ := hB.conf
  go_region_held3 (fun W => W.cell? ⟨w.heap.size, 0, none⟩ = some (.int .i64 c.al) ∧ W.cell? ⟨w.heap.size, 1, none⟩ = some (.int .i64 c.th) ∧ W.cell? ⟨w.heap.size, 2, none⟩ = some (.int .i64 c.nd) ∧ W.cell? ⟨w.heap.size, 3, none⟩ = some (.int .i64 c.lv) ∧
    W.cell? ⟨w.heap.size, 4, none⟩ = some (.int .i64 c.ba) ∧ W.cell? ⟨w.heap.size, 5, none⟩ = some (.int .i64 c.pr) ∧ W.cell? ⟨w.heap.size, 6, none⟩ = some (.int .i64 c.sc)) (go_keep)
    (first | (go_at_call 38; refine (hc _).mono ?_; rintro e w1 ⟨rfl, hb⟩; obtain ⟨y0, y1, y2, y3, y4, y5, y6⟩ := Blk.conf (hB.drew.below hb hB.lt); obtain ⟨z0, z1, z2, z3, z4, z5, z6⟩ := Blk.conf (hR.drew.below hb hR.lt); have zf := Blk.frozen (hR.drew.below hb hR.lt)))
  go_wp2
  refine bodyPost_ret (v := .tuple #[c.v, .int .i64 0]) (by simp [results, Try.results23, go_sem, z0, z1, z2, z3, z4, z5, z6]) rfl ⟨rfl, ?_⟩
  exact (((((((below_then (below_drew1 h0) hb (Nat.le_refl _)).setCell hR0 _).setCell hR0 _).setCell hR0 _).setCell hR0 _).setCell hR0 _).setCell hR0 _).setCell hR0 _
end Go.Proofs.Ytnedifcjenlcjaa.P
