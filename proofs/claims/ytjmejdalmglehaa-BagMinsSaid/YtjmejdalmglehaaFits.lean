/- sound, Fits, and the document's Right and May. -/
import Derived.Test.YtjmejdalmglehaaBase
namespace Go.Proofs.Ytjmejdalmglehaa
open Go.ChangeShapes Go.WideShapes Go.ChangeAt Go.RowKit
set_option linter.unusedVariables false

set_option maxRecDepth 100000 in
theorem sound_any (c : Tri) (w : World) : Calls Try.prog 44 #[c.v] w fun e w' => e = .returned (.bool (mayB c)) ∧ Below w.heap.size w w' := by
  obtain ⟨o, k, v⟩ := c
  by_cases h0 : o = 2
  · subst h0
    have hr : mayB ⟨2, k, v⟩ = true := by simp [mayB]
    rw [hr]
    clear hr
    go_enter Try.func44, Try.ntmps44
    go_wp2
    go_ret
    exact ⟨rfl, (Below.refl _ _).alloc (Nat.le_refl _) _⟩
  by_cases h12 : o = 0 ∨ o = 1 ∨ o = 3
  · have hr : mayB ⟨o, k, v⟩ = (o == o && k == 0 && v == 0) := by rcases h12 with rfl | rfl | rfl <;> simp [mayB, bare]
    rw [hr]
    clear hr
    have hq := fun w => eq_call 32 (.inr rfl) ⟨o, k, v⟩ ⟨o, 0, 0⟩ w
    simp only [Tri.v] at hq
    generalize (o == o && k == 0 && v == 0) = x at *
    rcases h12 with rfl | rfl | rfl
    all_goals
      go_enter Try.func44, Try.ntmps44
      go_wp2
      go_ret
      exact ⟨rfl, (Below.refl _ _).alloc (Nat.le_refl _) _⟩
  · have hr : mayB ⟨o, k, v⟩ = false := by simp [mayB, h0]; omega
    rw [hr]
    clear hr
    have h1 : ¬ o = 0 := fun e => h12 (.inl e)
    have h2 : ¬ o = 1 := fun e => h12 (.inr (.inl e))
    have h3 : ¬ o = 3 := fun e => h12 (.inr (.inr e))
    go_enter Try.func44, Try.ntmps44
    go_wp2
    go_ret
    exact ⟨rfl, (Below.refl _ _).alloc (Nat.le_refl _) _⟩

/-- A bool that is decided. -/
theorem beq_t {a b : Int} (h : a = b) : (a == b) = true := by simpa using h
theorem beq_f {a b : Int} (h : ¬ a = b) : (a == b) = false := by simpa using h

set_option maxRecDepth 100000 in
theorem refRight_any (c : Tri) (w : World) : Calls Try.prog 41 #[c.v] w fun e w' => e = .returned (.bool (rightB c)) ∧ Below w.heap.size w w' := by
  obtain ⟨o, k, v⟩ := c
  have fin : ∀ b, rightB ⟨o, k, v⟩ = b → Calls Try.prog 41 #[Tri.v ⟨o, k, v⟩] w (fun e w' => e = .returned (.bool b) ∧ Below w.heap.size w w') → Calls Try.prog 41 #[Tri.v ⟨o, k, v⟩] w (fun e w' => e = .returned (.bool (rightB ⟨o, k, v⟩)) ∧ Below w.heap.size w w') := fun b e h => by rw [e]; exact h
  by_cases h0 : o = 0
  · subst h0
    refine fin true (by simp [rightB]) ?_
    go_enter Try.func41, Try.ntmps41
    go_wp2
    go_ret
    exact ⟨rfl, (Below.refl _ _).alloc (Nat.le_refl _) _⟩
  have e0 := beq_f h0
  by_cases h1 : o = 1
  · subst h1
    by_cases hk : k = 0
    · subst hk
      refine fin (v == 0) (by simp [rightB, bare]) ?_
      go_enter Try.func41, Try.ntmps41
      go_wp2
      go_ret
      exact ⟨rfl, (Below.refl _ _).alloc (Nat.le_refl _) _⟩
    · have ek := beq_f hk
      refine fin false (by simp [rightB, bare, hk]) ?_
      go_enter Try.func41, Try.ntmps41
      go_wp2
      go_ret
      exact ⟨rfl, (Below.refl _ _).alloc (Nat.le_refl _) _⟩
  have e1 := beq_f h1
  by_cases h2 : o = 2
  · subst h2
    by_cases hk : k = 0
    · subst hk
      refine fin (v == 0) (by simp [rightB, bare]) ?_
      go_enter Try.func41, Try.ntmps41
      go_wp2
      go_ret
      exact ⟨rfl, (Below.refl _ _).alloc (Nat.le_refl _) _⟩
    · have ek := beq_f hk
      refine fin false (by simp [rightB, bare, hk]) ?_
      go_enter Try.func41, Try.ntmps41
      go_wp2
      go_ret
      exact ⟨rfl, (Below.refl _ _).alloc (Nat.le_refl _) _⟩
  · have e2 := beq_f h2
    refine fin false (by simp [rightB, bare, h0, h1, h2]) ?_
    go_enter Try.func41, Try.ntmps41
    go_wp2
    go_ret
    exact ⟨rfl, (Below.refl _ _).alloc (Nat.le_refl _) _⟩

set_option maxRecDepth 100000 in
theorem refMay_any (c : Tri) (w : World) : Calls Try.prog 42 #[c.v] w fun e w' => e = .returned (.bool (mayB c)) ∧ Below w.heap.size w w' := by
  obtain ⟨o, k, v⟩ := c
  have fin : ∀ b, mayB ⟨o, k, v⟩ = b → Calls Try.prog 42 #[Tri.v ⟨o, k, v⟩] w (fun e w' => e = .returned (.bool b) ∧ Below w.heap.size w w') → Calls Try.prog 42 #[Tri.v ⟨o, k, v⟩] w (fun e w' => e = .returned (.bool (mayB ⟨o, k, v⟩)) ∧ Below w.heap.size w w') := fun b e h => by rw [e]; exact h
  by_cases h0 : o = 2
  · subst h0
    refine fin true (by simp [mayB]) ?_
    go_enter Try.func42, Try.ntmps42
    go_wp2
    go_ret
    exact ⟨rfl, (Below.refl _ _).alloc (Nat.le_refl _) _⟩
  have e0 := beq_f h0
  by_cases h12 : o = 0 ∨ o = 1 ∨ o = 3
  · by_cases hk : k = 0
    · subst hk
      refine fin (v == 0) (by rcases h12 with rfl | rfl | rfl <;> simp [mayB, bare]) ?_
      rcases h12 with rfl | rfl | rfl
      all_goals
        go_enter Try.func42, Try.ntmps42
        go_wp2
        go_ret
        exact ⟨rfl, (Below.refl _ _).alloc (Nat.le_refl _) _⟩
    · have ek := beq_f hk
      refine fin false (by rcases h12 with rfl | rfl | rfl <;> simp [mayB, bare, hk]) ?_
      rcases h12 with rfl | rfl | rfl
      all_goals
        go_enter Try.func42, Try.ntmps42
        go_wp2
        go_ret
        exact ⟨rfl, (Below.refl _ _).alloc (Nat.le_refl _) _⟩
  · have e1 := beq_f (fun e => h12 (.inl e))
    have e2 := beq_f (fun e => h12 (.inr (.inl e)))
    have e3 := beq_f (fun e => h12 (.inr (.inr e)))
    refine fin false (by simp [mayB, bare, e0, e1, e2, e3]) ?_
    go_enter Try.func42, Try.ntmps42
    go_wp2
    go_ret
    exact ⟨rfl, (Below.refl _ _).alloc (Nat.le_refl _) _⟩

set_option maxRecDepth 100000 in
theorem fits_any (c a : Tri) (w : World) : Calls Try.prog 28 #[c.v, a.v] w fun e w' => e = .returned (.bool (fitsB c a)) ∧ Below w.heap.size w w' := by
  have R := right_any c
  have S := sound_any a
  have hf : fitsB c a = (rightB c && mayB a && ((a.op == 0 || a.op == 1) == (c.op == 0))) := rfl
  rw [hf]
  clear hf
  generalize rightB c = r at *
  generalize mayB a = m at *
  have b0 := ((Below.refl w.heap.size w).alloc (Nat.le_refl _) (.cells c.cs 30)).alloc (by simp) (.cells a.cs 32)
  have k0 : Blk ((w.alloc (.cells c.cs 30)).alloc (.cells a.cs 32)) w.heap.size 30 c.cs := (Blk.new _ _ _).alloc _
  have k1 : Blk ((w.alloc (.cells c.cs 30)).alloc (.cells a.cs 32)) (w.heap.size + 1) 32 a.cs := by simpa using Blk.new (w.alloc (.cells c.cs 30)) 32 a.cs
  obtain ⟨co, ck, cv⟩ := c
  obtain ⟨ao, ak, av⟩ := a
  have HB := Lib.hid b0
  have H0 := Lib.hid k0
  have H1 := Lib.hid k1
  clear b0 k0 k1
  go_enter Try.func28, Try.ntmps28
  go_wp2_with fail
  refine (R _).mono ?_
  rintro e w1 ⟨rfl, hb⟩
  have HB1 := Lib.hid (below_then HB.out hb)
  have q0 := H0.out.below hb H0.out.lt
  have q1 := H1.out.below hb H1.out.lt
  have H01 := Lib.hid q0
  have H11 := Lib.hid q1
  clear hb q0 q1 R
  cases r with
  | false =>
    go_wp2
    go_ret
    exact ⟨rfl, HB1.out⟩
  | true =>
    have a0 := H11.out.cell 0
    have a1 := H11.out.cell 1
    have a2 := H11.out.cell 2
    simp at a0 a1 a2
    go_wp2_with fail
    refine (S _).mono ?_
    rintro e w2 ⟨rfl, hb⟩
    have HB2 := Lib.hid (below_then HB1.out hb)
    have q0 := H01.out.below hb H01.out.lt
    have q1 := H11.out.below hb H11.out.lt
    clear hb S a0 a1 a2
    cases m with
    | false =>
      clear q0 q1
      go_wp2
      go_ret
      exact ⟨rfl, HB2.out⟩
    | true =>
      have a0 := q0.cell 0
      have a1 := q1.cell 0
      simp at a0 a1
      clear q0 q1
      by_cases h0 : ao = 0
      · subst h0
        go_wp2
        go_ret
        exact ⟨by simp, HB2.out⟩
      · have e0 := beq_f h0
        go_wp2
        go_ret
        refine ⟨?_, HB2.out⟩
        simp [e0]

theorem law_fits (c a : Tri) : fitsB c a = (rightB c && mayB a && ((c.op == 0) == decide (a.op < 2))) := by
  obtain ⟨o, k, v⟩ := c
  obtain ⟨o2, k2, v2⟩ := a
  cases hm : mayB ⟨o2, k2, v2⟩ with
  | false => simp [fitsB, hm]
  | true =>
    have : o2 = 0 ∨ o2 = 1 ∨ o2 = 2 ∨ o2 = 3 := by
      simp [mayB] at hm
      omega
    rcases this with rfl | rfl | rfl | rfl <;> cases h : (o == 0) <;> simp_all [fitsB]
set_option maxRecDepth 100000 in
set_option maxHeartbeats 4000000 in
theorem rfits_any (c a : Tri) (w : World) : Calls Try.prog 27 #[c.v, a.v] w fun x w' => x = .returned (.bool (fitsB c a)) ∧ Below w.heap.size w w' := by
  have R := refRight_any c
  have S := refMay_any a
  rw [law_fits]
  generalize rightB c = r at *
  generalize mayB a = m at *
  have b0 := ((Below.refl w.heap.size w).alloc (Nat.le_refl _) (.cells c.cs 30)).alloc (by simp) (.cells a.cs 32)
  have k0 : Blk ((w.alloc (.cells c.cs 30)).alloc (.cells a.cs 32)) w.heap.size 30 c.cs := (Blk.new _ _ _).alloc _
  have k1 : Blk ((w.alloc (.cells c.cs 30)).alloc (.cells a.cs 32)) (w.heap.size + 1) 32 a.cs := by simpa using Blk.new (w.alloc (.cells c.cs 30)) 32 a.cs
  obtain ⟨co, ck, cv⟩ := c
  obtain ⟨ao, ak, av⟩ := a
  have HB := Lib.hid b0
  have H0 := Lib.hid k0
  have H1 := Lib.hid k1
  clear b0 k0 k1
  go_enter Try.func27, Try.ntmps27
  go_wp2_with fail
  refine (R _).mono ?_
  rintro e w1 ⟨rfl, hb⟩
  have HB1 := Lib.hid (below_then HB.out hb)
  have H01 := Lib.hid (H0.out.below hb H0.out.lt)
  have H11 := Lib.hid (H1.out.below hb H1.out.lt)
  clear hb R
  cases r with
  | false =>
    go_wp2
    go_ret
    exact ⟨by simp, HB1.out⟩
  | true =>
    have a0 := H11.out.cell 0
    have a1 := H11.out.cell 1
    have a2 := H11.out.cell 2
    simp at a0 a1 a2
    go_wp2_with fail
    refine (S _).mono ?_
    rintro e w2 ⟨rfl, hb⟩
    have HB2 := Lib.hid (below_then HB1.out hb)
    have q0 := H01.out.below hb H01.out.lt
    have q1 := H11.out.below hb H11.out.lt
    clear hb S a0 a1 a2
    cases m with
    | false =>
      clear q0 q1
      go_wp2
      go_ret
      exact ⟨by simp, HB2.out⟩
    | true =>
      have a0 := q0.cell 0
      have a1 := q1.cell 0
      simp at a0 a1
      clear q0 q1
      go_wp2
      go_ret
      exact ⟨by simp, HB2.out⟩

end Go.Proofs.Ytjmejdalmglehaa
