/- How a call ends; which event may follow; whether what an event doesn't have is zero. -/
import Derived.Test.YtfdghlpkioednaaDoorBusy
namespace Go.Proofs.YtfdghlpkioednaaDoor
open Go.ChangeShapes Go.WideShapes Go.ChangeAt Go.RowKit
set_option linter.unusedVariables false

/-- 'delete(b, t)', at the operation. -/
theorem wpList_delete_call {w : World} {os : Array Oper} {rest : List Oper} {o : Oper} {a : Act} {Q : Exit → Act → World → Prop} (hg : o.guard = none) (m x : Operand) (g n : Nat) (f : Int → Option Tri) (t : Int) (hM : MapAt w g n f) (ht : I64 t)
    (hm : a.eval m = .map (some g)) (hx : a.eval x = .int .i64 t) (hop : o.op = Op.call { callee := Callee.builtin Builtin.delete, args := #[m, x], argTypes := #[25, 3] })
    (hK : ∀ w', MapAt w' g n (fun x => if t = x then none else f x) → w.mapTurned w' g → wpList Tryd.prog os Q rest (a.put o.dst (.tuple #[])) w') : wpList Tryd.prog os Q (o :: rest) a w := by
  refine wpList_plain hg fun K' hK' => ?_
  obtain ⟨w', hrun, r1, r2⟩ := hM.drop ht o.type
  unfold Oper.wp
  simp [execOp, hop, resolve, invoke, builtin, hm, hx, hrun, Result.andThen]
  exact hK' _ _ (hK w' r1 r2)
set_option maxRecDepth 100000 in
set_option maxHeartbeats 2000000 in
theorem end_any (W : World) (g n : Nat) (f : Int → Option Tri) (t : Int) (c a : Tri) (ht : I64 t) (h : MapAt W g n f) :
    Calls Tryd.prog 36 #[.map (some g), .int .i64 t, a.v] W (Went g n f ⟨t, true, c, a⟩ W) := by
  have KT := isThread_any t
  by_cases hr : 0 ≤ t ∧ t ≤ 5
  case neg =>
    have he : errC (f t) ⟨t, true, c, a⟩ = 2 := by unfold errC; rw [if_pos (by simp only; omega)]
    have hd : decide (0 ≤ t ∧ t ≤ 5) = false := by simp only [decide_eq_false_iff_not]; exact hr
    rw [hd] at KT
    have HM := Lib.hid h
    clear h hd
    go_enter Tryd.func36, Tryd.ntmps36
    go_wp2_with fail
    refine (KT _).mono ?_
    rintro e w1 ⟨rfl, rfl⟩
    go_wp2
    go_ret
    exact Went.bad he (by decide) HM.out (box1 _)
  case pos =>
    have hd : decide (0 ≤ t ∧ t ≤ 5) = true := by simp only [decide_eq_true_eq]; exact hr
    rw [hd] at KT
    have he : errC (f t) ⟨t, true, c, a⟩ = match f t with | none => 4 | some c => if fitsB c a then 0 else 1 := by
      unfold errC
      rw [if_neg (by simp only; omega)]
      rfl
    have b0 := box1 (w := W) (.cells a.cs 32)
    have HK0 := Lib.hid (Blk.new W 32 a.cs)
    have hl := (h.below b0).look ht
    have HM := Lib.hid h
    have HB0 := Lib.hid b0
    clear h hd b0
    cases hf : f t with
    | none =>
      rw [hf] at he hl
      simp only at he
      simp only [Option.getD_none, Option.isSome_none] at hl
      go_enter Tryd.func36, Tryd.ntmps36
      go_wp2_with fail
      refine (KT _).mono ?_
      rintro e w1 ⟨rfl, rfl⟩
      go_wp2
      go_ret
      exact Went.bad (by show errC (f t) _ = _; rw [hf]; exact he) (by decide) HM.out ((HB0.out).alloc (by simp) _)
    | some c0 =>
      rw [hf] at he hl
      simp only at he
      simp only [Option.getD_some, Option.isSome_some] at hl
      have KF := fits_any c0 a
      generalize hfb : fitsB c0 a = r at *
      have HB1 := Lib.hid (HB0.out.alloc (by simp) (.cells c0.cs 30))
      have HK1 := Lib.hid (HK0.out.alloc (.cells c0.cs 30))
      obtain ⟨o1, k1, v1⟩ := c0
      obtain ⟨o2, k2, v2⟩ := a
      dsimp only [Tri.v, Tri.cs] at *
      go_enter Tryd.func36, Tryd.ntmps36
      go_wp2_with fail
      refine (KT _).mono ?_
      rintro e w1 ⟨rfl, rfl⟩
      go_wp2_with fail
      refine (KF _).mono ?_
      rintro e w2 ⟨rfl, hb⟩
      have HB2 := Lib.hid (below_th HB1.out hb (Nat.le_refl _))
      clear hb KF KT hl
      cases r with
      | false =>
        simp only [Bool.false_eq_true, if_false] at he
        go_wp2
        go_ret
        exact Went.bad (by show errC (f t) _ = _; rw [hf]; exact he) (by decide) HM.out HB2.out
      | true =>
        simp only [if_true] at he
        have hM2 := HM.out.below HB2.out
        go_wp2_with (at_delete; (refine wpList_delete_call rfl _ _ g n f t hM2 ht rfl rfl rfl ?_; intro w3 hm3 ht3))
        go_wp2
        go_ret
        exact Went.good (by show errC (f t) _ = _; rw [hf]; exact he) (by funext x; simp [stepF]) HB2.out ht3 (Nat.le_succ _) hm3

set_option maxRecDepth 100000 in
set_option maxHeartbeats 2000000 in
theorem follow_any (W : World) (g n : Nat) (f : Int → Option Tri) (e : Ev) (ht : I64 e.t) (hn : n < maxLen) (h : MapAt W g n f) :
    Calls Tryd.prog 28 #[.map (some g), e.v] W (Went g n f e W) := by
  obtain ⟨t, b, c, a⟩ := e
  have hb0 := box1 (w := W) (.cells (Ev.cs ⟨t, b, c, a⟩) 34)
  have fin : ∀ x W', Went g n f ⟨t, b, c, a⟩ (W.alloc (.cells (Ev.cs ⟨t, b, c, a⟩) 34)) x W' → Went g n f ⟨t, b, c, a⟩ W x W' := by
    rintro x W' ⟨h1, h2, h3⟩
    exact ⟨h1, (Keeps.of_below hb0).trans h2 (Later.refl _ _), h3⟩
  have hM := h.below hb0
  clear hb0 h
  cases b with
  | true =>
    have KE := end_any _ g n f t c a ht hM
    clear hM
    obtain ⟨o1, k1, v1⟩ := c
    obtain ⟨o2, k2, v2⟩ := a
    dsimp only [Tri.v, Ev.cs, Ev.v] at *
    have HF := Lib.hid fin
    clear fin
    go_enter Tryd.func28, Tryd.ntmps28
    go_wp2_with fail
    refine KE.mono ?_
    rintro x W' hw
    obtain rfl := hw.1
    have HW := Lib.hid (HF.out _ _ hw)
    clear hw KE
    dsimp only at *
    go_wp2
    go_ret
    exact HW.out
  | false =>
    have KE := begin_any _ g n f t c a ht hn hM
    clear hM
    obtain ⟨o1, k1, v1⟩ := c
    obtain ⟨o2, k2, v2⟩ := a
    dsimp only [Tri.v, Ev.cs, Ev.v] at *
    have HF := Lib.hid fin
    clear fin
    go_enter Tryd.func28, Tryd.ntmps28
    go_wp2_with fail
    refine KE.mono ?_
    rintro x W' hw
    obtain rfl := hw.1
    have HW := Lib.hid (HF.out _ _ hw)
    clear hw KE
    dsimp only at *
    go_wp2
    go_ret
    exact HW.out

theorem bare_any (e : Ev) (w : World) : Calls Tryd.prog 27 #[e.v] w fun x w' => x = .returned (.bool (bareE e)) ∧ Below w.heap.size w w' := by
  obtain ⟨t, b, c, a⟩ := e
  cases b with
  | true =>
    have hq := fun w => eq_call 30 (.inl rfl) c zt w
    have hd : bareE ⟨t, true, c, a⟩ = (c.op == 0 && c.key == 0 && c.val == 0) := rfl
    rw [hd]
    generalize (c.op == 0 && c.key == 0 && c.val == 0) = x at *
    clear hd
    obtain ⟨o1, k1, v1⟩ := c
    obtain ⟨o2, k2, v2⟩ := a
    dsimp only [Tri.v] at hq
    go_enter Tryd.func27, Tryd.ntmps27
    go_wp2
    go_ret
    exact ⟨rfl, box1 _⟩
  | false =>
    have hq := fun w => eq_call 32 (.inr rfl) a zt w
    have hd : bareE ⟨t, false, c, a⟩ = (a.op == 0 && a.key == 0 && a.val == 0) := rfl
    rw [hd]
    generalize (a.op == 0 && a.key == 0 && a.val == 0) = x at *
    clear hd
    obtain ⟨o1, k1, v1⟩ := c
    obtain ⟨o2, k2, v2⟩ := a
    dsimp only [Tri.v] at hq
    go_enter Tryd.func27, Tryd.ntmps27
    go_wp2
    go_ret
    exact ⟨rfl, box1 _⟩
end Go.Proofs.YtfdghlpkioednaaDoor
