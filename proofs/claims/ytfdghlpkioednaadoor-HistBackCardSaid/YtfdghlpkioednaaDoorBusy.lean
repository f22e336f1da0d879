/- Who is busy: which threads there are, who has a call that isn't answered, how one begins and how one ends. -/
import Derived.Test.YtfdghlpkioednaaDoorData
namespace Go.Proofs.YtfdghlpkioednaaDoor
open Go.ChangeShapes Go.WideShapes Go.ChangeAt Go.RowKit
set_option linter.unusedVariables false

theorem isThread_any (t : Int) (w : World) : Calls Tryd.prog 42 #[.int .i64 t] w fun e w' => e = .returned (.bool (decide (0 ≤ t ∧ t ≤ 5))) ∧ w' = w := by
  by_cases h0 : 0 ≤ t
  · have hd : decide (0 ≤ t ∧ t ≤ 5) = decide (t < 6) := by by_cases h : t < 6 <;> simp [h, h0] <;> omega
    rw [hd]
    go_enter Tryd.func42, Tryd.ntmps42
    go_wp2
    go_ret
    exact ⟨rfl, rfl⟩
  · have hd : decide (0 ≤ t ∧ t ≤ 5) = false := by simp [h0]
    rw [hd]
    go_enter Tryd.func42, Tryd.ntmps42
    go_wp2
    go_ret
    exact ⟨rfl, rfl⟩

theorem has_any (W : World) (g n : Nat) (f : Int → Option Tri) (t : Int) (ht : I64 t) (h : MapAt W g n f) : Calls Tryd.prog 25 #[.map (some g), .int .i64 t] W fun e w' => e = .returned (.bool (f t).isSome) ∧ Below W.heap.size W w' := by
  have hl := h.look ht
  clear h
  generalize ((f t).getD zt) = c at *
  generalize (f t).isSome = b at *
  obtain ⟨c1, c2, c3⟩ := c
  go_enter Tryd.func25, Tryd.ntmps25
  go_wp2
  go_ret
  exact ⟨rfl, box1 _⟩
theorem has_nil (W : World) (t : Int) (ht : I64 t) : Calls Tryd.prog 25 #[.map none, .int .i64 t] W fun e w' => e = .returned (.bool false) ∧ Below W.heap.size W w' := by
  have hl := fun W => look_nil (W := W) ht
  go_enter Tryd.func25, Tryd.ntmps25
  go_wp2
  go_ret
  exact ⟨rfl, box1 _⟩

/-- Who is busy behind an event. -/
def stepF (f : Int → Option Tri) (e : Ev) : Int → Option Tri := fun x => if e.t = x then (if e.b then none else some e.c) else f x
/-- What begin, end and follow leave: the map alone may have turned. -/
def Went (g n : Nat) (f : Int → Option Tri) (e : Ev) (W : World) (x : Ending) (W' : World) : Prop :=
  x = .returned (.int .i64 (errC (f e.t) e)) ∧ Keeps (fun k => k = g) W W' ∧ MapAt W' g (n + 1) (if errC (f e.t) e = 0 then stepF f e else f)
theorem Went.bad {g n : Nat} {f : Int → Option Tri} {e : Ev} {W W' : World} {x : Int} (he : errC (f e.t) e = x) (hx : x ≠ 0) (hm : MapAt W g n f) (hb : Below W.heap.size W W') : Went g n f e W (.returned (.int .i64 x)) W' := by
  unfold Went
  rw [he, if_neg hx]
  exact ⟨rfl, Keeps.of_below hb, (hm.below hb).mono (Nat.le_succ n)⟩
theorem Keeps.turned {g : Nat} {A W W' : World} (hb : Below A.heap.size A W) (h : W.mapTurned W' g) : Keeps (fun k => k = g) A W' :=
  (Keeps.of_below hb).grown h.grown fun k hk => .inl (Option.some.inj hk).symm
theorem Went.good {g n : Nat} {f f' : Int → Option Tri} {e : Ev} {W W1 W' : World} (he : errC (f e.t) e = 0) (hf : f' = stepF f e) (hb : Below W.heap.size W W1) (h : W1.mapTurned W' g) {n' : Nat} (hn : n' ≤ n + 1) (hm : MapAt W' g n' f') : Went g n f e W (.returned (.int .i64 0)) W' := by
  unfold Went
  rw [he, if_pos rfl, ← hf]
  exact ⟨rfl, Keeps.turned hb h, hm.mono hn⟩

set_option maxRecDepth 100000 in
set_option maxHeartbeats 2000000 in
theorem begin_any (W : World) (g n : Nat) (f : Int → Option Tri) (t : Int) (c a : Tri) (ht : I64 t) (hn : n < maxLen) (h : MapAt W g n f) :
    Calls Tryd.prog 37 #[.map (some g), .int .i64 t, c.v] W (Went g n f ⟨t, false, c, a⟩ W) := by
  have KT := isThread_any t
  have KR := right_any c
  by_cases hr : 0 ≤ t ∧ t ≤ 5
  case neg =>
    have he : errC (f t) ⟨t, false, c, a⟩ = 2 := by unfold errC; rw [if_pos (by simp only; omega)]
    have hd : decide (0 ≤ t ∧ t ≤ 5) = false := by simp only [decide_eq_false_iff_not]; exact hr
    rw [hd] at KT
    have HM := Lib.hid h
    clear h hd
    go_enter Tryd.func37, Tryd.ntmps37
    go_wp2_with fail
    refine (KT _).mono ?_
    rintro e w1 ⟨rfl, rfl⟩
    go_wp2
    go_ret
    exact Went.bad he (by decide) HM.out (box1 _)
  case pos =>
    have hd : decide (0 ≤ t ∧ t ≤ 5) = true := by simp only [decide_eq_true_eq]; exact hr
    rw [hd] at KT
    have he : errC (f t) ⟨t, false, c, a⟩ = if rightB c then (if (f t).isSome then 5 else 0) else 1 := by
      unfold errC
      rw [if_neg (by simp only; omega)]
      rfl
    have HM := Lib.hid h
    have HB0 := Lib.hid (box1 (w := W) (.cells c.cs 30))
    have HK0 := Lib.hid (Blk.new W 30 c.cs)
    generalize hrc : rightB c = r at *
    clear h hd
    cases r with
    | false =>
      simp only [Bool.false_eq_true, if_false] at he
      go_enter Tryd.func37, Tryd.ntmps37
      go_wp2_with fail
      refine (KT _).mono ?_
      rintro e w1 ⟨rfl, rfl⟩
      go_wp2_with fail
      refine (KR _).mono ?_
      rintro e w2 ⟨rfl, hb⟩
      have HB2 := Lib.hid (below_th HB0.out hb (Nat.le_refl _))
      clear hb
      go_wp2
      go_ret
      exact Went.bad he (by decide) HM.out HB2.out
    | true =>
      simp only [if_true] at he
      go_enter Tryd.func37, Tryd.ntmps37
      go_wp2_with fail
      refine (KT _).mono ?_
      rintro e w1 ⟨rfl, rfl⟩
      go_wp2_with fail
      refine (KR _).mono ?_
      rintro e w2 ⟨rfl, hb⟩
      have HB2 := Lib.hid (below_th HB0.out hb (Nat.le_refl _))
      have KH := has_any w2 g n f t ht (HM.out.below HB2.out)
      have HK2 := Lib.hid (HK0.out.below hb HK0.out.lt)
      clear hb KT KR
      generalize hfs : (f t).isSome = s at *
      cases s with
      | true =>
        simp only [if_true] at he
        go_wp2_with fail
        refine KH.mono ?_
        rintro e w3 ⟨rfl, hb⟩
        have HB3 := Lib.hid (below_th HB2.out hb (Nat.le_refl _))
        clear hb KH
        go_wp2
        go_ret
        exact Went.bad he (by decide) HM.out HB3.out
      | false =>
        simp only [Bool.false_eq_true, if_false] at he
        go_wp2_with fail
        refine KH.mono ?_
        rintro e w3 ⟨rfl, hb⟩
        have HB3 := Lib.hid (below_th HB2.out hb (Nat.le_refl _))
        have hK3 := HK2.out.below hb HK2.out.lt
        obtain ⟨w4, hrun, hm4, ht4⟩ := (HM.out.below HB3.out).put ht c hn
        clear hb KH
        have x0 := hK3.cell 0
        have x1 := hK3.cell 1
        have x2 := hK3.cell 2
        simp at x0 x1 x2
        obtain ⟨c1, c2, c3⟩ := c
        simp only [Tri.v] at hrun
        go_wp2
        go_ret
        exact Went.good he (by funext x; simp [stepF]) HB3.out ht4 (Nat.le_refl _) hm4
end Go.Proofs.YtfdghlpkioednaaDoor
