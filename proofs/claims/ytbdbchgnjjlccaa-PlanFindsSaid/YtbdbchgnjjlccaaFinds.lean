/- PlanFinds's walk. -/
import Derived.Test.YtbdbchgnjjlccaaTells
namespace Go.Proofs.Ytbdbchgnjjlccaa
open Go.ChangeShapes Go.WideShapes Go.ChangeAt Go.RowKit
set_option linter.unusedVariables false

/-- Amid PlanFinds: the pair's box N, the plan's box P, the list. -/
structure FindS (c : Cf) (x y : Int) (w : World) (N P n0 g n cap : Nat) (W : World) : Prop where
  nb : Blk W N 36 #[.int .i64 x, .int .i64 y]
  p : Blk W P 25 c.cs
  row : W.ownsRow n0 39 3 (.slice (some ⟨g, 0, none⟩) n cap) n (encP (c.upto n))
  bel : Below w.heap.size w W
theorem FindS.below {c : Cf} {x y : Int} {w : World} {N P n0 g n cap : Nat} {W W1 : World} (h : FindS c x y w N P n0 g n cap W) (hb : Below W.heap.size W W1) : FindS c x y w N P n0 g n cap W1 :=
  ⟨h.nb.below hb h.nb.lt, h.p.below hb h.p.lt, row_below h.row hb, below_then h.bel hb (Nat.le_refl _)⟩

set_option maxRecDepth 100000 in
set_option maxHeartbeats 16000000 in
theorem finds_all (c : Cf) (x y : Int) (w : World) (hx : I64 x) (hy : I64 y) : Calls Try.prog 4 #[c.v, .agg #[.int .i64 x, .int .i64 y]] w fun e w' => e = .returned (.bool true) ∧ Below w.heap.size w w' := by
  have HL := Lib.hid lives_any
  have hB0 : Blk ((w.alloc (.cells c.cs 23)).alloc (.cells #[.int .i64 x, .int .i64 y] 36)) w.heap.size 23 c.cs := (Blk.new _ _ _).alloc _
  have hN0 : Blk ((w.alloc (.cells c.cs 23)).alloc (.cells #[.int .i64 x, .int .i64 y] 36)) (w.heap.size + 1) 36 #[.int .i64 x, .int .i64 y] := by
    have := Blk.new (w.alloc (.cells c.cs 23)) 36 #[.int .i64 x, .int .i64 y]
    rwa [show (w.alloc (.cells c.cs 23)).heap.size = w.heap.size + 1 by simp] at this
  have b0 : Below w.heap.size w ((w.alloc (.cells c.cs 23)).alloc (.cells #[.int .i64 x, .int .i64 y] 36)) := ((Below.refl _ _).alloc (Nat.le_refl _) _).alloc (by simp) _
  by_cases h : c.Ok
  · have k1 := fun W => hazard_ok c x y W h hx hy
    have k2 := fun W => link_ok c x W h hx
    have k3 := fun W => node_ok c x y W h hx hy
    have k4 := fun W => tree_ok c x W h hx
    go_enter Try.func4, Try.ntmps4
    go_wp2_with fail
    refine (right_ok c _ h).mono ?_
    rintro e V ⟨rfl, hb⟩
    have hB1 := hB0.below hb hB0.lt
    have hN1 := hN0.below hb hN0.lt
    have b1 := below_then b0 hb (Nat.le_refl _)
    clear hb hB0 hN0 b0
    obtain ⟨p0, p1, p2, p3, p4, p5, p6⟩ := hB1.conf
    go_wp2_with fail
    refine (new_ok c _ h).mono ?_
    rintro e V1 ⟨rfl, hb⟩
    have b2 := below_then b1 hb (Nat.le_refl _)
    have hB2 := (hB1.below hb hB1.lt).alloc (.cells c.cs 25)
    have hN2 := (hN1.below hb hN1.lt).alloc (.cells c.cs 25)
    have hP2 := Blk.new V1 25 c.cs
    have b3 := b2.alloc b2.size (.cells c.cs 25)
    clear hb hB1 hN1 b1 b2 p0 p1 p2 p3 p4 p5 p6
    obtain ⟨p0, p1, p2, p3, p4, p5, p6⟩ := hB2.conf
    go_wp2_with fail
    refine (all_form c _ h).mono ?_
    rintro e V2 ⟨g, cap, rfl, hr, hc1, hc2, hb⟩
    have S0 : FindS c x y w (w.heap.size + 1) V1.heap.size ((V1.alloc (.cells c.cs 25)).heap.size + 1) g c.size.toNat cap V2 := ⟨hN2.below hb hN2.lt, hP2.below hb hP2.lt, hr, below_then b3 hb (Nat.le_refl _)⟩
    clear hb hB2 hN2 hP2 b3 hr p0 p1 p2 p3 p4 p5 p6
    generalize (V1.alloc (.cells c.cs 25)).heap.size + 1 = n0 at *
    generalize V1.heap.size = P at *
    generalize w.heap.size + 1 = N at *
    have f1 := fun W hr => find_is c g cap n0 c.size.toNat 1 x y (c.hazard x y) W h rfl hr (finds_hazard h x y)
    have f2 := fun W hr => find_is c g cap n0 c.size.toNat 2 x 0 (c.link x) W h rfl hr (finds_link h x)
    have f3 := fun W hr => find_is c g cap n0 c.size.toNat 3 x y (c.node x y) W h rfl hr (finds_node h x y)
    have f4 := fun W hr => find_is c g cap n0 c.size.toNat 4 x 0 (c.tree x) W h rfl hr (finds_tree h x)
    have F1 := Lib.hid f1
    have F2 := Lib.hid f2
    have F3 := Lib.hid f3
    have F4 := Lib.hid f4
    have K1 := Lib.hid k1
    have K2 := Lib.hid k2
    have K3 := Lib.hid k3
    have K4 := Lib.hid k4
    clear f1 f2 f3 f4 k1 k2 k3 k4 h hx hy
    generalize c.size.toNat = n at *
    generalize c.hazard x y = r1 at *
    generalize c.link x = r2 at *
    generalize c.node x y = r3 at *
    generalize c.tree x = r4 at *
    have x0 := S0.nb.get 0 rfl
    have x1 := S0.nb.get 1 rfl
    obtain ⟨p0, p1, p2, p3, p4, p5, p6⟩ := S0.p.conf
    go_wp2_with fail
    clear x0 x1 p0 p1 p2 p3 p4 p5 p6
    refine (F1.out _ S0.row).mono ?_
    rintro e U1 ⟨rfl, hb⟩
    have S1 := S0.below hb
    clear hb S0
    have x0 := S1.nb.get 0 rfl
    have x1 := S1.nb.get 1 rfl
    obtain ⟨p0, p1, p2, p3, p4, p5, p6⟩ := S1.p.conf
    go_wp2_with fail
    clear x0 x1 p0 p1 p2 p3 p4 p5 p6
    refine (F2.out _ S1.row).mono ?_
    rintro e U2 ⟨rfl, hb⟩
    have S2 := S1.below hb
    clear hb S1
    have x0 := S2.nb.get 0 rfl
    have x1 := S2.nb.get 1 rfl
    obtain ⟨p0, p1, p2, p3, p4, p5, p6⟩ := S2.p.conf
    go_wp2_with fail
    clear x0 x1 p0 p1 p2 p3 p4 p5 p6
    refine (F3.out _ S2.row).mono ?_
    rintro e U3 ⟨rfl, hb⟩
    have S3 := S2.below hb
    clear hb S2
    have x0 := S3.nb.get 0 rfl
    have x1 := S3.nb.get 1 rfl
    obtain ⟨p0, p1, p2, p3, p4, p5, p6⟩ := S3.p.conf
    go_wp2_with fail
    clear x0 x1 p0 p1 p2 p3 p4 p5 p6
    refine (F4.out _ S3.row).mono ?_
    rintro e U4 ⟨rfl, hb⟩
    have S4 := S3.below hb
    clear hb S3
    have x0 := S4.nb.get 0 rfl
    have x1 := S4.nb.get 1 rfl
    obtain ⟨p0, p1, p2, p3, p4, p5, p6⟩ := S4.p.conf
    go_wp2_with fail
    clear x0 x1 p0 p1 p2 p3 p4 p5 p6
    refine (K1.out _).mono ?_
    rintro e U5 ⟨rfl, hb⟩
    have S5 := S4.below hb
    clear hb S4
    have x0 := S5.nb.get 0 rfl
    have x1 := S5.nb.get 1 rfl
    obtain ⟨p0, p1, p2, p3, p4, p5, p6⟩ := S5.p.conf
    go_wp2_with fail
    clear x0 x1 p0 p1 p2 p3 p4 p5 p6
    refine (K2.out _).mono ?_
    rintro e U6 ⟨rfl, hb⟩
    have S6 := S5.below hb
    clear hb S5
    have x0 := S6.nb.get 0 rfl
    have x1 := S6.nb.get 1 rfl
    obtain ⟨p0, p1, p2, p3, p4, p5, p6⟩ := S6.p.conf
    go_wp2_with fail
    clear x0 x1 p0 p1 p2 p3 p4 p5 p6
    refine (K3.out _).mono ?_
    rintro e U7 ⟨rfl, hb⟩
    have S7 := S6.below hb
    clear hb S6
    have x0 := S7.nb.get 0 rfl
    have x1 := S7.nb.get 1 rfl
    obtain ⟨p0, p1, p2, p3, p4, p5, p6⟩ := S7.p.conf
    go_wp2_with fail
    clear x0 x1 p0 p1 p2 p3 p4 p5 p6
    refine (K4.out _).mono ?_
    rintro e U8 ⟨rfl, hb⟩
    have S8 := S7.below hb
    clear hb S7
    have x0 := S8.nb.get 0 rfl
    have x1 := S8.nb.get 1 rfl
    obtain ⟨p0, p1, p2, p3, p4, p5, p6⟩ := S8.p.conf
    go_wp2_with fail
    clear x0 x1 p0 p1 p2 p3 p4 p5 p6
    refine (HL.out _).mono ?_
    rintro e U9 ⟨rfl, hb⟩
    have S9 := S8.below hb
    go_wp2
    go_ret
    exact ⟨rfl, S9.bel⟩
  · go_enter Try.func4, Try.ntmps4
    go_wp2_with fail
    refine (right_bad c _ h).mono ?_
    rintro e V ⟨rfl, hb⟩
    have b1 := below_then b0 hb (Nat.le_refl _)
    clear hb
    go_wp2_with (go_at_call 11; refine (HL.out _).mono ?_; rintro e V4 ⟨rfl, hb⟩)
    go_ret
    exact ⟨rfl, below_then b1 hb (Nat.le_refl _)⟩
end Go.Proofs.Ytbdbchgnjjlccaa
