/- PlanBack's walk. -/
import Derived.Test.YtbdbchgnjjlccaaRef
import Derived.Test.YtbdbchgnjjlccaaMath
namespace Go.Proofs.Ytbdbchgnjjlccaa
open Go.ChangeShapes Go.WideShapes Go.ChangeAt Go.RowKit
set_option linter.unusedVariables false

/-- Amid PlanBack: the boxes of its arguments, and of the zero plan. -/
structure BackS (c : Cf) (x y : Int) (w : World) (P N Z : Nat) (W : World) : Prop where
  p : Blk W P 23 c.cs
  n : Blk W N 36 #[.int .i64 x, .int .i64 y]
  z : Blk W Z 25 zc.cs
  bel : Below w.heap.size w W
theorem BackS.below {c : Cf} {x y : Int} {w : World} {P N Z : Nat} {W W1 : World} (h : BackS c x y w P N Z W) (hb : Below W.heap.size W W1) : BackS c x y w P N Z W1 :=
  ⟨h.p.below hb h.p.lt, h.n.below hb h.n.lt, h.z.below hb h.z.lt, below_then h.bel hb (Nat.le_refl _)⟩
theorem where_as {c : Cf} {a k x y : Int} (h : c.Ok) (ha : I64 a) (hp : c.place a = (k, x, y)) (W : World) :
    Calls Try.prog 24 #[c.v, .int .i64 a] W fun e w' => e = .returned (.tuple #[.int .i64 k, .int .i64 x, .int .i64 y]) ∧ Below W.heap.size W w' := by
  have := where_ok c a W h ha
  rwa [hp] at this
theorem alloc2 {w : World} (o1 o2 : Obj) : ((w.alloc o1).alloc o2).heap.size = w.heap.size + 2 := by simp

set_option maxRecDepth 100000 in
set_option maxHeartbeats 16000000 in
theorem back_all (c : Cf) (a x y : Int) (w : World) (ha : I64 a) (hx : I64 x) (hy : I64 y) :
    Calls Try.prog 6 #[c.v, .int .i64 a, .agg #[.int .i64 x, .int .i64 y]] w fun e w' => e = .returned (.bool true) ∧ Below w.heap.size w w' := by
  have S0 : BackS c x y w w.heap.size (w.heap.size + 1) (w.heap.size + 1 + 1) (((w.alloc (.cells c.cs 23)).alloc (.cells #[.int .i64 x, .int .i64 y] 36)).alloc (.cells zc.cs 25)) := by
    refine ⟨((Blk.new _ _ _).alloc _).alloc _, ?_, ?_, (((Below.refl _ _).alloc (Nat.le_refl _) _).alloc (by simp) _).alloc (by simp; omega) _⟩
    · have := (Blk.new (w.alloc (.cells c.cs 23)) 36 #[.int .i64 x, .int .i64 y]).alloc (.cells zc.cs 25)
      rwa [show (w.alloc (.cells c.cs 23)).heap.size = w.heap.size + 1 by simp] at this
    · have := Blk.new ((w.alloc (.cells c.cs 23)).alloc (.cells #[.int .i64 x, .int .i64 y] 36)) 25 zc.cs
      rwa [alloc2] at this
  have z1 := fun W => hazard_zero x y W hx hy
  have z2 := fun W => link_zero x W hx
  have z3 := fun W => node_zero x y W hx hy
  have z4 := fun W => tree_zero x W hx
  have HL := Lib.hid lives_any
  have HA := Lib.hid ha
  obtain ⟨a0, a1⟩ := ha
  clear hx hy
  go_enter Try.func6, Try.ntmps6
  go_wp2_with fail
  have g1 : w.heap.size ≠ w.heap.size + 1 := by omega
  clear g1
  refine (z1 _).mono ?_
  rintro e W1 ⟨rfl, hb⟩
  generalize w.heap.size + 1 + 1 = Z at *
  generalize w.heap.size + 1 = N at *
  have S1 := S0.below hb
  clear S0 hb
  have n0 := S1.n.get 0 rfl
  have n1 := S1.n.get 1 rfl
  obtain ⟨p0, p1, p2, p3, p4, p5, p6⟩ := S1.p.conf
  obtain ⟨q0, q1, q2, q3, q4, q5, q6⟩ := S1.z.conf

  go_wp2_with fail
  clear n0 n1 p0 p1 p2 p3 p4 p5 p6 q0 q1 q2 q3 q4 q5 q6
  refine (z2 _).mono ?_
  rintro e W2 ⟨rfl, hb⟩
  have S2 := S1.below hb
  clear S1 hb
  have n0 := S2.n.get 0 rfl
  have n1 := S2.n.get 1 rfl
  obtain ⟨p0, p1, p2, p3, p4, p5, p6⟩ := S2.p.conf
  obtain ⟨q0, q1, q2, q3, q4, q5, q6⟩ := S2.z.conf

  go_wp2_with fail
  clear n0 n1 p0 p1 p2 p3 p4 p5 p6 q0 q1 q2 q3 q4 q5 q6
  refine (z3 _).mono ?_
  rintro e W3 ⟨rfl, hb⟩
  have S3 := S2.below hb
  clear S2 hb
  have n0 := S3.n.get 0 rfl
  have n1 := S3.n.get 1 rfl
  obtain ⟨p0, p1, p2, p3, p4, p5, p6⟩ := S3.p.conf
  obtain ⟨q0, q1, q2, q3, q4, q5, q6⟩ := S3.z.conf

  go_wp2_with fail
  clear n0 n1 p0 p1 p2 p3 p4 p5 p6 q0 q1 q2 q3 q4 q5 q6
  refine (z4 _).mono ?_
  rintro e W4 ⟨rfl, hb⟩
  have S4 := S3.below hb
  clear S3 hb
  have n0 := S4.n.get 0 rfl
  have n1 := S4.n.get 1 rfl
  obtain ⟨p0, p1, p2, p3, p4, p5, p6⟩ := S4.p.conf
  obtain ⟨q0, q1, q2, q3, q4, q5, q6⟩ := S4.z.conf

  go_wp2_with fail
  clear n0 n1 p0 p1 p2 p3 p4 p5 p6 q0 q1 q2 q3 q4 q5 q6
  refine (size_zero _).mono ?_
  rintro e W5 ⟨rfl, hb⟩
  have S5 := S4.below hb
  clear S4 hb
  have n0 := S5.n.get 0 rfl
  have n1 := S5.n.get 1 rfl
  obtain ⟨p0, p1, p2, p3, p4, p5, p6⟩ := S5.p.conf
  obtain ⟨q0, q1, q2, q3, q4, q5, q6⟩ := S5.z.conf

  clear z1 z2 z3 z4
  by_cases h : c.Ok
  · go_wp2_with fail
    refine (new_ok c _ h).mono ?_
    rintro e V ⟨rfl, hb⟩
    have hV := below_then S5.bel hb (Nat.le_refl _)
    have hB : Blk (V.alloc (.cells c.cs 25)) V.heap.size 25 c.cs := Blk.new _ _ _
    have hV1 : Below w.heap.size w (V.alloc (.cells c.cs 25)) := hV.alloc hV.size _
    clear S5 hb hV n0 n1 p0 p1 p2 p3 p4 p5 p6 q0 q1 q2 q3 q4 q5 q6
    have HO := Lib.hid h
    obtain ⟨u1, u2, u3, u4, u5⟩ := h.steps
    by_cases c1 : a < 0
    · go_wp2_with (go_at_call 11; refine (HL.out _).mono ?_; rintro e V1 ⟨rfl, hb⟩)
      go_ret
      exact ⟨rfl, below_then hV1 hb (Nat.le_refl _)⟩
    go_wp2_with fail
    refine (size_ok c _ h).mono ?_
    rintro e V1 ⟨rfl, hb⟩
    have hB1 := hB.below hb hB.lt
    have hV2 := below_then hV1 hb (Nat.le_refl _)
    obtain ⟨y0, y1, y2, y3, y4, y5, y6⟩ := hB1.conf
    clear hB hV1 hb
    generalize V.heap.size = B at *
    by_cases c2 : c.size ≤ a
    · go_wp2_with (go_at_call 11; refine (HL.out _).mono ?_; rintro e V2 ⟨rfl, hb⟩)
      go_ret
      exact ⟨rfl, below_then hV2 hb (Nat.le_refl _)⟩
    have c3 : a < c.size := by omega
    have t1 := h.th
    have t2 := h.slots
    have t3 := h.nd
    have t4 := h.width
    have t5 := h.places
    rcases place_cases h (by omega) c3 with ⟨k1, hp⟩ | ⟨t, s, hp, k1, k2, k3, k4, k5⟩ | ⟨t, hp, k1, k2, k5⟩ | ⟨t, s, hp, k1, k2, k3, k4, k5⟩ | ⟨t, hp, k1, k2, k5⟩
    · have hw := where_as h HA.out hp
      clear hp h c2
      go_wp2_with fail
      refine (hw _).mono ?_
      rintro e V2 ⟨rfl, hb⟩
      have hV3 := below_then hV2 hb (Nat.le_refl _)
      have hB2 := hB1.below hb hB1.lt
      clear y0 y1 y2 y3 y4 y5 y6 hV2 hb hB1 hw
      obtain ⟨y0, y1, y2, y3, y4, y5, y6⟩ := hB2.conf
      go_wp2_with fail
      refine (HL.out _).mono ?_
      rintro e V4 ⟨rfl, hb⟩
      go_wp2
      go_ret
      exact ⟨rfl, below_then hV3 hb (Nat.le_refl _)⟩
    · have hw := where_as h HA.out hp
      have hc := fun W => hazard_ok c t s W h ⟨by omega, by omega⟩ ⟨by omega, by omega⟩
      rw [k5] at hc
      clear hp h c2 k5
      go_wp2_with fail
      refine (hw _).mono ?_
      rintro e V2 ⟨rfl, hb⟩
      have hV3 := below_then hV2 hb (Nat.le_refl _)
      have hB2 := hB1.below hb hB1.lt
      clear y0 y1 y2 y3 y4 y5 y6 hV2 hb hB1 hw
      obtain ⟨y0, y1, y2, y3, y4, y5, y6⟩ := hB2.conf
      go_wp2_with fail
      refine (hc _).mono ?_
      rintro e V3 ⟨rfl, hb⟩
      have hV4 := below_then hV3 hb (Nat.le_refl _)
      clear hV3 hb hB2
      go_wp2_with fail
      refine (HL.out _).mono ?_
      rintro e V4 ⟨rfl, hb⟩
      go_wp2
      go_ret
      exact ⟨rfl, below_then hV4 hb (Nat.le_refl _)⟩
    · have hw := where_as h HA.out hp
      have hc := fun W => link_ok c t W h ⟨by omega, by omega⟩
      rw [k5] at hc
      clear hp h c2 k5
      go_wp2_with fail
      refine (hw _).mono ?_
      rintro e V2 ⟨rfl, hb⟩
      have hV3 := below_then hV2 hb (Nat.le_refl _)
      have hB2 := hB1.below hb hB1.lt
      clear y0 y1 y2 y3 y4 y5 y6 hV2 hb hB1 hw
      obtain ⟨y0, y1, y2, y3, y4, y5, y6⟩ := hB2.conf
      go_wp2_with fail
      refine (hc _).mono ?_
      rintro e V3 ⟨rfl, hb⟩
      have hV4 := below_then hV3 hb (Nat.le_refl _)
      clear hV3 hb hB2
      go_wp2_with fail
      refine (HL.out _).mono ?_
      rintro e V4 ⟨rfl, hb⟩
      go_wp2
      go_ret
      exact ⟨rfl, below_then hV4 hb (Nat.le_refl _)⟩
    · have hw := where_as h HA.out hp
      have hc := fun W => node_ok c t s W h ⟨by omega, by omega⟩ ⟨by omega, by omega⟩
      rw [k5] at hc
      clear hp h c2 k5
      go_wp2_with fail
      refine (hw _).mono ?_
      rintro e V2 ⟨rfl, hb⟩
      have hV3 := below_then hV2 hb (Nat.le_refl _)
      have hB2 := hB1.below hb hB1.lt
      clear y0 y1 y2 y3 y4 y5 y6 hV2 hb hB1 hw
      obtain ⟨y0, y1, y2, y3, y4, y5, y6⟩ := hB2.conf
      go_wp2_with fail
      refine (hc _).mono ?_
      rintro e V3 ⟨rfl, hb⟩
      have hV4 := below_then hV3 hb (Nat.le_refl _)
      clear hV3 hb hB2
      go_wp2_with fail
      refine (HL.out _).mono ?_
      rintro e V4 ⟨rfl, hb⟩
      go_wp2
      go_ret
      exact ⟨rfl, below_then hV4 hb (Nat.le_refl _)⟩
    · have hw := where_as h HA.out hp
      have hc := fun W => tree_ok c t W h ⟨by omega, by omega⟩
      rw [k5] at hc
      clear hp h c2 k5
      go_wp2_with fail
      refine (hw _).mono ?_
      rintro e V2 ⟨rfl, hb⟩
      have hV3 := below_then hV2 hb (Nat.le_refl _)
      have hB2 := hB1.below hb hB1.lt
      clear y0 y1 y2 y3 y4 y5 y6 hV2 hb hB1 hw
      obtain ⟨y0, y1, y2, y3, y4, y5, y6⟩ := hB2.conf
      go_wp2_with fail
      refine (hc _).mono ?_
      rintro e V3 ⟨rfl, hb⟩
      have hV4 := below_then hV3 hb (Nat.le_refl _)
      clear hV3 hb hB2
      go_wp2_with fail
      refine (HL.out _).mono ?_
      rintro e V4 ⟨rfl, hb⟩
      go_wp2
      go_ret
      exact ⟨rfl, below_then hV4 hb (Nat.le_refl _)⟩
  · go_wp2_with fail
    refine (new_bad c _ h).mono ?_
    rintro e V ⟨rfl, hb⟩
    have hV := below_then S5.bel hb (Nat.le_refl _)
    have hV1 : Below w.heap.size w (V.alloc (.cells zc.cs 25)) := hV.alloc hV.size _
    clear S5 hb hV n0 n1 p0 p1 p2 p3 p4 p5 p6 q0 q1 q2 q3 q4 q5 q6
    go_wp2_with (go_at_call 11; refine (HL.out _).mono ?_; rintro e V1 ⟨rfl, hb⟩)
    go_ret
    exact ⟨rfl, below_then hV1 hb (Nat.le_refl _)⟩
end Go.Proofs.Ytbdbchgnjjlccaa
