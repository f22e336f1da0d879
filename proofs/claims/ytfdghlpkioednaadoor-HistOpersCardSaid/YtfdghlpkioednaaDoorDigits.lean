/- The document's texts: Digits, Show, Tell. -/
import Derived.Test.YtfdghlpkioednaaDoorTexts
namespace Go.Proofs.YtfdghlpkioednaaDoor
open Go.ChangeShapes Go.WideShapes Go.ChangeAt Go.RowKit
set_option linter.unusedVariables false

abbrev tenB : ByteArray := ⟨#[48, 49, 50, 51, 52, 53, 54, 55, 56, 57]⟩
/-- A digit's text. -/
def digT (d : Nat) : List UInt8 := [UInt8.ofNat (48 + d)]
theorem ten_piece : ∀ d : Fin 10, (tenB.extract d.val (d.val + 1)) = ⟨(digT d.val).toArray⟩ := by decide +kernel
theorem one_digit (m : Nat) (w : World) : (Instr.slice 9 (.string tenB) (some (.int .u64 ((m : Int) % 10))) (some (.int .u64 ((m : Int) % 10 + 1))) none).run Tryd.prog w = .ok (strV (digT (m % 10))) w := by
  have hd : m % 10 < 10 := Nat.mod_lt _ (by decide)
  have hs : tenB.size = 10 := rfl
  rw [run_slice_string w 9 tenB .u64 .u64 _ _ Tryd.underlying9 (by omega) (by omega) (by rw [hs]; omega), show ((m : Int) % 10).toNat = m % 10 by omega, show ((m : Int) % 10 + 1).toNat = m % 10 + 1 by omega]
  rw [ten_piece ⟨m % 10, hd⟩]
/-- The digits ahead of the last one. -/
def pre (m : Nat) : List UInt8 := if m < 10 then [] else Lib.decDigits (m / 10)
theorem dec_pre (m : Nat) : Lib.decDigits m = pre m ++ digT (m % 10) := by
  unfold pre digT
  by_cases h : m < 10
  · rw [Lib.decDigits_one h, if_pos h, Nat.mod_eq_of_lt h]; rfl
  · rw [Lib.decDigits, dif_neg h, if_neg h]
theorem mod_same (m : Nat) : (m : Int).tmod 10 = (m : Int) % 10 := Int.tmod_eq_emod_of_nonneg (by omega)
theorem div_same (m : Nat) : (m : Int).tdiv 10 = ((m / 10 : Nat) : Int) := by rw [Int.tdiv_eq_ediv_of_nonneg (by omega)]; omega

set_option maxRecDepth 100000 in
theorem refDigits_any (u : Nat) (hu : u < 4294967296) (w : World) : Calls Tryd.prog 32 #[.int .u64 u] w fun e w' => e = .returned (strV (Lib.decDigits u)) ∧ w = w' := by
  have hlen := dec_len hu
  have q0 := fun w => one_digit u w
  have e0 := dec_pre u
  have m0 := mod_same u
  generalize Lib.decDigits u = X at *
  generalize digT (u % 10) = d0 at *
  go_enter Tryd.func32, Tryd.ntmps32
  go_wp2
  go_loop [0, 4] (fun n s => ∃ (m : Nat) (t : List UInt8), m ≤ u ∧ n = .int .u64 m ∧ s = strV t ∧ X = pre m ++ t) (fun n _ => (intOf n).toNat)
  case atStart => exact ⟨u, d0, Nat.le_refl _, rfl, rfl, e0⟩
  case round =>
    obtain ⟨m, t, hm, rfl, rfl, he⟩ := hrel
    clear q0 e0 m0
    by_cases h : m < 10
    · have : X = t := by simpa [pre, h] using he
      subst this
      clear he
      go_wp2
      go_ret
      exact ⟨rfl, rfl⟩
    · have htl : t.length ≤ 10 := by
        have := congrArg List.length he
        simp at this
        omega
      have e1 : X = pre (m / 10) ++ (digT (m / 10 % 10) ++ t) := by
        rw [he]
        simp only [pre, h, if_false]
        rw [dec_pre (m / 10)]
        simp [pre]
      have q1 := fun w => one_digit (m / 10) w
      have q2 := fun w => add_strs (digT (m / 10 % 10)) t (by simp [digT]) (by omega) w
      have m1 := mod_same (m / 10)
      have m2 := div_same m
      clear he
      generalize digT (m / 10 % 10) = d1 at *
      have E1 := Lib.hid e1
      clear e1
      have hx : m / 10 < m := by omega
      have hy : m / 10 ≤ u := by omega
      generalize m / 10 = m' at *
      go_wp2
      go_round
      case rel => exact ⟨m', d1 ++ t, hy, rfl, rfl, E1.out⟩
      case measure => simpa [intOf] using hx
theorem refDigits_q (u : Nat) (hu : u < 4294967296) (w : World) : Calls Tryd.prog 32 #[.int .u64 u] w fun e w' => e = .returned (strV (Lib.decDigits u)) ∧ w' = w :=
  (refDigits_any u hu w).mono fun _ _ h => ⟨h.1, h.2.symm⟩
set_option maxRecDepth 100000 in
set_option maxHeartbeats 4000000 in
theorem refShow_any (c : Tri) (hc : Fit c) (w : World) : Calls Tryd.prog 34 #[c.v] w fun e w' => e = .returned (strV (showT c)) ∧ Below w.heap.size w w' := by
  have R := refRight_any c
  have b0 := (Below.refl w.heap.size w).alloc (Nat.le_refl _) (.cells c.cs 30)
  have k0 : Blk (w.alloc (.cells c.cs 30)) w.heap.size 30 c.cs := Blk.new _ _ _
  obtain ⟨o, k, v⟩ := c
  obtain ⟨h1, h2, h3, h4⟩ := hc
  simp only at h1 h2 h3 h4
  obtain ⟨k, rfl⟩ := Int.eq_ofNat_of_zero_le h1
  obtain ⟨v, rfl⟩ := Int.eq_ofNat_of_zero_le h3
  have D1 := fun w => refDigits_q k (by omega) w
  have D2 := fun w => refDigits_q v (by omega) w
  have l1 := dec_len (u := k) (by omega)
  have l2 := dec_len (u := v) (by omega)
  have fin : ∀ l, showT ⟨o, k, v⟩ = l → Calls Tryd.prog 34 #[Tri.v ⟨o, k, v⟩] w (fun e w' => e = .returned (strV l) ∧ Below w.heap.size w w') → Calls Tryd.prog 34 #[Tri.v ⟨o, k, v⟩] w (fun e w' => e = .returned (strV (showT ⟨o, k, v⟩)) ∧ Below w.heap.size w w') := by
    intro l e h
    rw [e]
    exact h
  have hr0 : rightB ⟨o, k, v⟩ = true → o = 1 ∨ o = 2 ∨ o = 0 := by
    intro h
    simp [rightB] at h
    omega
  have hs : showT ⟨o, k, v⟩ = if rightB ⟨o, k, v⟩ then (if o = 1 then delT else if o = 2 then peekT else insT' ++ pairT k v) else askT := by simp [showT]
  generalize showT ⟨o, k, v⟩ = X at *
  unfold insT' pairT at hs
  generalize rightB ⟨o, k, v⟩ = r at *
  generalize Lib.decDigits k = x at *
  generalize Lib.decDigits v = y at *
  have q1 := fun w => add_strs [105, 110, 115, 101, 114, 116, 32] x (by decide) (by omega) w
  have q2 := fun w => add_strs ([105, 110, 115, 101, 114, 116, 32] ++ x) [32] (by simp; omega) (by decide) w
  have q3 := fun w => add_strs ([105, 110, 115, 101, 114, 116, 32] ++ (x ++ [32])) y (by simp; omega) (by omega) w
  simp only [List.append_assoc, List.cons_append, List.nil_append] at q1 q2 q3 hs
  have HB := Lib.hid b0
  have H0 := Lib.hid k0
  clear b0 k0
  cases r with
  | false =>
    refine fin _ hs ?_
    simp only [Bool.false_eq_true, if_false]
    clear hr0 D1 D2 hs fin
    go_enter Tryd.func34, Tryd.ntmps34
    go_wp2_with fail
    refine (R _).mono ?_
    rintro e w1 ⟨rfl, hb⟩
    have HB1 := Lib.hid (below_then HB.out hb)
    clear hb R
    go_wp2
    go_ret
    exact ⟨rfl, HB1.out⟩
  | true =>
    refine fin _ hs ?_
    clear fin hs
    rcases hr0 rfl with rfl | rfl | rfl
    · simp only [if_true]
      clear hr0
      go_enter Tryd.func34, Tryd.ntmps34
      go_wp2_with fail
      refine (R _).mono ?_
      rintro e w1 ⟨rfl, hb⟩
      have HB1 := Lib.hid (below_then HB.out hb)
      have q0 := H0.out.below hb H0.out.lt
      clear hb R
      have a0 := q0.cell 0
      have a1 := q0.cell 1
      have a2 := q0.cell 2
      simp at a0 a1 a2
      clear q0
      clear D1 D2
      go_wp2
      go_ret
      exact ⟨rfl, HB1.out⟩
    · simp only [if_true, show ¬ (2 : Int) = 1 by decide, if_false]
      clear hr0
      go_enter Tryd.func34, Tryd.ntmps34
      go_wp2_with fail
      refine (R _).mono ?_
      rintro e w1 ⟨rfl, hb⟩
      have HB1 := Lib.hid (below_then HB.out hb)
      have q0 := H0.out.below hb H0.out.lt
      clear hb R
      have a0 := q0.cell 0
      have a1 := q0.cell 1
      have a2 := q0.cell 2
      simp at a0 a1 a2
      clear q0
      clear D1 D2
      go_wp2
      go_ret
      exact ⟨rfl, HB1.out⟩
    · simp only [if_true, show ¬ (0 : Int) = 1 by decide, show ¬ (0 : Int) = 2 by decide, if_false]
      clear hr0
      go_enter Tryd.func34, Tryd.ntmps34
      go_wp2_with fail
      refine (R _).mono ?_
      rintro e w1 ⟨rfl, hb⟩
      have HB1 := Lib.hid (below_then HB.out hb)
      have q0 := H0.out.below hb H0.out.lt
      clear hb R
      have a0 := q0.cell 0
      have a1 := q0.cell 1
      have a2 := q0.cell 2
      simp at a0 a1 a2
      clear q0
      go_wp2_with fail
      go_quiet ((first
        | (go_at_call_of 32 (Value.int .u64 (k : Int)); exact Calls.quiet_of_same (D1 _))
        | (go_at_call_of 32 (Value.int .u64 (v : Int)); exact Calls.quiet_of_same (D2 _))))
      go_wp2
      go_ret
      exact ⟨rfl, below_drewN HB1.out _⟩
set_option maxRecDepth 100000 in
set_option maxHeartbeats 4000000 in
theorem refTell_any (c : Tri) (hc : Fit c) (w : World) : Calls Tryd.prog 33 #[c.v] w fun e w' => e = .returned (strV (tellT c)) ∧ Below w.heap.size w w' := by
  have R := refMay_any c
  have b0 := (Below.refl w.heap.size w).alloc (Nat.le_refl _) (.cells c.cs 32)
  have k0 : Blk (w.alloc (.cells c.cs 32)) w.heap.size 32 c.cs := Blk.new _ _ _
  obtain ⟨o, k, v⟩ := c
  obtain ⟨h1, h2, h3, h4⟩ := hc
  simp only at h1 h2 h3 h4
  obtain ⟨k, rfl⟩ := Int.eq_ofNat_of_zero_le h1
  obtain ⟨v, rfl⟩ := Int.eq_ofNat_of_zero_le h3
  have D1 := fun w => refDigits_q k (by omega) w
  have D2 := fun w => refDigits_q v (by omega) w
  have l1 := dec_len (u := k) (by omega)
  have l2 := dec_len (u := v) (by omega)
  have fin : ∀ l, tellT ⟨o, k, v⟩ = l → Calls Tryd.prog 33 #[Tri.v ⟨o, k, v⟩] w (fun e w' => e = .returned (strV l) ∧ Below w.heap.size w w') → Calls Tryd.prog 33 #[Tri.v ⟨o, k, v⟩] w (fun e w' => e = .returned (strV (tellT ⟨o, k, v⟩)) ∧ Below w.heap.size w w') := by
    intro l e h
    rw [e]
    exact h
  have hr0 : mayB ⟨o, k, v⟩ = true → o = 0 ∨ o = 1 ∨ o = 3 ∨ o = 2 := by
    intro h
    simp [mayB] at h
    omega
  have hs : tellT ⟨o, k, v⟩ = if mayB ⟨o, k, v⟩ then (if o = 0 then doneT else if o = 1 then fullT else if o = 3 then emptyT else pairT k v) else askT := by simp [tellT]
  generalize tellT ⟨o, k, v⟩ = X at *
  unfold pairT at hs
  generalize mayB ⟨o, k, v⟩ = r at *
  generalize Lib.decDigits k = x at *
  generalize Lib.decDigits v = y at *
  have q1 := fun w => add_strs x [32] (by omega) (by decide) w
  have q2 := fun w => add_strs (x ++ [32]) y (by simp; omega) (by omega) w
  simp only [List.append_assoc, List.cons_append, List.nil_append] at q1 q2
  have HB := Lib.hid b0
  have H0 := Lib.hid k0
  clear b0 k0
  cases r with
  | false =>
    refine fin _ hs ?_
    simp only [Bool.false_eq_true, if_false]
    clear hr0 D1 D2 hs fin
    go_enter Tryd.func33, Tryd.ntmps33
    go_wp2_with fail
    refine (R _).mono ?_
    rintro e w1 ⟨rfl, hb⟩
    have HB1 := Lib.hid (below_then HB.out hb)
    clear hb R
    go_wp2
    go_ret
    exact ⟨rfl, HB1.out⟩
  | true =>
    refine fin _ hs ?_
    clear fin hs
    rcases hr0 rfl with rfl | rfl | rfl | rfl
    · simp only [if_true]
      clear hr0
      go_enter Tryd.func33, Tryd.ntmps33
      go_wp2_with fail
      refine (R _).mono ?_
      rintro e w1 ⟨rfl, hb⟩
      have HB1 := Lib.hid (below_then HB.out hb)
      have q0 := H0.out.below hb H0.out.lt
      clear hb R
      have a0 := q0.cell 0
      have a1 := q0.cell 1
      have a2 := q0.cell 2
      simp at a0 a1 a2
      clear q0
      clear D1 D2
      go_wp2
      go_ret
      exact ⟨rfl, HB1.out⟩
    · simp only [if_true, show ¬ (1 : Int) = 0 by decide, if_false]
      clear hr0
      go_enter Tryd.func33, Tryd.ntmps33
      go_wp2_with fail
      refine (R _).mono ?_
      rintro e w1 ⟨rfl, hb⟩
      have HB1 := Lib.hid (below_then HB.out hb)
      have q0 := H0.out.below hb H0.out.lt
      clear hb R
      have a0 := q0.cell 0
      have a1 := q0.cell 1
      have a2 := q0.cell 2
      simp at a0 a1 a2
      clear q0
      clear D1 D2
      go_wp2
      go_ret
      exact ⟨rfl, HB1.out⟩
    · simp only [if_true, show ¬ (3 : Int) = 0 by decide, show ¬ (3 : Int) = 1 by decide, if_false]
      clear hr0
      go_enter Tryd.func33, Tryd.ntmps33
      go_wp2_with fail
      refine (R _).mono ?_
      rintro e w1 ⟨rfl, hb⟩
      have HB1 := Lib.hid (below_then HB.out hb)
      have q0 := H0.out.below hb H0.out.lt
      clear hb R
      have a0 := q0.cell 0
      have a1 := q0.cell 1
      have a2 := q0.cell 2
      simp at a0 a1 a2
      clear q0
      clear D1 D2
      go_wp2
      go_ret
      exact ⟨rfl, HB1.out⟩
    · simp only [if_true, show ¬ (2 : Int) = 0 by decide, show ¬ (2 : Int) = 1 by decide, show ¬ (2 : Int) = 3 by decide, if_false]
      clear hr0
      go_enter Tryd.func33, Tryd.ntmps33
      go_wp2_with fail
      refine (R _).mono ?_
      rintro e w1 ⟨rfl, hb⟩
      have HB1 := Lib.hid (below_then HB.out hb)
      have q0 := H0.out.below hb H0.out.lt
      clear hb R
      have a0 := q0.cell 0
      have a1 := q0.cell 1
      have a2 := q0.cell 2
      simp at a0 a1 a2
      clear q0
      go_wp2_with fail
      go_quiet ((first
        | (go_at_call_of 32 (Value.int .u64 (k : Int)); exact Calls.quiet_of_same (D1 _))
        | (go_at_call_of 32 (Value.int .u64 (v : Int)); exact Calls.quiet_of_same (D2 _))))
      go_wp2
      go_ret
      exact ⟨rfl, below_drewN HB1.out _⟩
end Go.Proofs.YtfdghlpkioednaaDoor
