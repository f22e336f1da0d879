/- The texts of calls and answers. -/
import Derived.Test.YtfdghlpkioednaaDoorFits
import Derived.Test.YtfdghlpkioednaaDoorUint
namespace Go.Proofs.YtfdghlpkioednaaDoor
open Go.ChangeShapes Go.WideShapes Go.ChangeAt Go.RowKit
set_option linter.unusedVariables false

/-- What a walk hands on: the table where it was, in a later world. -/
theorem tab_below {w w' : World} (h : Tab w) (b : Below w.heap.size w w') : Tab w' := Lib.tabBelow_of_tabIs h w' b
theorem digits_any (u : Nat) (hu : u < 4294967296) (w : World) (ht : Tab w) : Calls Tryd.prog 49 #[.int .u32 u] w fun e w' => e = .returned (strV (Lib.decDigits u)) ∧ Below w.heap.size w w' := by
  go_enter Tryd.func49, Tryd.ntmps49
  go_wp2_with fail
  refine (formatUint_any u (by omega) _ ht).mono ?_
  rintro e w1 ⟨rfl, hb⟩
  go_wp2
  go_ret
  exact ⟨rfl, hb⟩
/-- A number below 2^32 has at most ten digits. -/
theorem dec_len {u : Nat} (hu : u < 4294967296) : (Lib.decDigits u).length ≤ 10 := by
  rw [Lib.decDigits_length]
  rcases Nat.eq_zero_or_pos u with rfl | h1
  · rw [Lib.nDigits_small (by decide)]; decide
  · have hp := Lib.nDigits_pos u
    rcases Nat.lt_or_ge 10 (Lib.nDigits u) with h | h
    · exfalso
      have key : ∀ (k n : Nat), 10 ^ k ≤ n → ∀ m, n < 10 ^ m → k < m := fun k n a m b => Nat.pow_lt_pow_iff_right (by decide) |>.1 (Nat.lt_of_le_of_lt a b)
      have hlow : 10 ^ (Lib.nDigits u - 1) ≤ u := by
        clear hp h key hu
        induction u using Nat.strongRecOn with
        | _ u ih =>
          by_cases h10 : u < 10
          · rw [Lib.nDigits_small h10]; simp; omega
          · have := ih (u / 10) (by omega) (by omega)
            rw [Lib.nDigits_big h10]
            have hp := Lib.nDigits_pos (u / 10)
            have e : Lib.nDigits (u / 10) + 1 - 1 = (Lib.nDigits (u / 10) - 1) + 1 := by omega
            rw [e, Nat.pow_succ]
            omega
      have := key (Lib.nDigits u - 1) u hlow 10 (by omega)
      omega
    · exact h
theorem add_strs (x y : List UInt8) (hx : x.length ≤ 100000) (hy : y.length ≤ 100000) (w : World) : (Op.stringOp .add ⟨x.toArray⟩ ⟨y.toArray⟩).run Tryd.prog w = .ok (strV (x ++ y)) w :=
  run_string_add_lists w x y (by omega) (by omega)

/-- Two numbers' text. -/
def pairT (k v : Nat) : List UInt8 := Lib.decDigits k ++ 32 :: Lib.decDigits v
def insT : List UInt8 := [105, 110, 115, 101, 114, 116]
def insT' : List UInt8 := [105, 110, 115, 101, 114, 116, 32]
def delT : List UInt8 := [100, 101, 108, 101, 116, 101, 109, 105, 110]
def peekT : List UInt8 := [112, 101, 101, 107, 109, 105, 110]
def doneT : List UInt8 := [100, 111, 110, 101]
def fullT : List UInt8 := [102, 117, 108, 108]
def emptyT : List UInt8 := [101, 109, 112, 116, 121]
def askT : List UInt8 := [63]
theorem pairT_len {k v : Nat} (hk : k < 4294967296) (hv : v < 4294967296) : (pairT k v).length ≤ 21 := by
  have := dec_len hk
  have := dec_len hv
  simp [pairT]
  omega
theorem pairText_any (k v : Nat) (hk : k < 4294967296) (hv : v < 4294967296) (w : World) (ht : Tab w) :
    Calls Tryd.prog 46 #[.int .u32 k, .int .u32 v] w fun e w' => e = .returned (strV (pairT k v)) ∧ Below w.heap.size w w' := by
  have D := fun w => digits_any k hk w
  have E := fun w => digits_any v hv w
  have l1 := dec_len hk
  have l2 := dec_len hv
  unfold pairT
  generalize Lib.decDigits k = x at *
  generalize Lib.decDigits v = y at *
  have q1 := fun w => add_strs x [32] (by omega) (by decide) w
  have q2 := fun w => add_strs (x ++ [32]) y (by simp; omega) (by omega) w
  simp only [List.append_assoc, List.cons_append, List.nil_append] at q2
  go_enter Tryd.func46, Tryd.ntmps46
  go_wp2_with fail
  refine (D _ ht).mono ?_
  rintro e w1 ⟨rfl, hb⟩
  go_wp2_with fail
  refine (E _ (tab_below ht hb)).mono ?_
  rintro e w2 ⟨rfl, hb2⟩
  have hB := below_then hb hb2
  clear hb hb2 D E
  go_wp2
  go_ret
  exact ⟨rfl, hB⟩

/-- A call's, and an answer's, numbers are below 2^32. -/
structure Fit (c : Tri) : Prop where
  k0 : 0 ≤ c.key
  k1 : c.key < 4294967296
  v0 : 0 ≤ c.val
  v1 : c.val < 4294967296
def showT (c : Tri) : List UInt8 :=
  if rightB c then (if c.op = 1 then delT else if c.op = 2 then peekT else insT' ++ pairT c.key.toNat c.val.toNat) else askT
def tellT (a : Tri) : List UInt8 :=
  if mayB a then (if a.op = 0 then doneT else if a.op = 1 then fullT else if a.op = 3 then emptyT else pairT a.key.toNat a.val.toNat) else askT

set_option maxRecDepth 100000 in
theorem show_any (c : Tri) (hc : Fit c) (w : World) (ht : Tab w) : Calls Tryd.prog 39 #[c.v] w fun e w' => e = .returned (strV (showT c)) ∧ Below w.heap.size w w' := by
  have R := right_any c
  have b0 := (Below.refl w.heap.size w).alloc (Nat.le_refl _) (.cells c.cs 30)
  have k0 : Blk (w.alloc (.cells c.cs 30)) w.heap.size 30 c.cs := Blk.new _ _ _
  obtain ⟨o, k, v⟩ := c
  obtain ⟨h1, h2, h3, h4⟩ := hc
  simp only at h1 h2 h3 h4
  obtain ⟨k, rfl⟩ := Int.eq_ofNat_of_zero_le h1
  obtain ⟨v, rfl⟩ := Int.eq_ofNat_of_zero_le h3
  have T := fun w => pairText_any k v (by omega) (by omega) w
  have fin : ∀ l, showT ⟨o, k, v⟩ = l → Calls Tryd.prog 39 #[Tri.v ⟨o, k, v⟩] w (fun e w' => e = .returned (strV l) ∧ Below w.heap.size w w') → Calls Tryd.prog 39 #[Tri.v ⟨o, k, v⟩] w (fun e w' => e = .returned (strV (showT ⟨o, k, v⟩)) ∧ Below w.heap.size w w') := by
    intro l e h
    rw [e]
    exact h
  have hl := pairT_len (k := k) (v := v) (by omega) (by omega)
  have hr0 : rightB ⟨o, k, v⟩ = true → o = 1 ∨ o = 2 ∨ o = 0 := by
    intro h
    simp [rightB] at h
    omega
  have hs : showT ⟨o, k, v⟩ = if rightB ⟨o, k, v⟩ then (if o = 1 then delT else if o = 2 then peekT else insT' ++ pairT k v) else askT := by simp [showT]
  generalize showT ⟨o, k, v⟩ = X at *
  have q1 := fun w => add_strs insT' (pairT k v) (by decide) (by omega) w
  unfold insT' at q1 hs
  generalize rightB ⟨o, k, v⟩ = r at *
  generalize pairT k v = p at *
  have HB := Lib.hid b0
  have H0 := Lib.hid k0
  clear b0 k0
  cases r with
  | false =>
    refine fin _ hs ?_
    simp only [Bool.false_eq_true, if_false]
    clear hr0 T hs fin
    go_enter Tryd.func39, Tryd.ntmps39
    go_wp2_with fail
    refine (R _).mono ?_
    rintro e w1 ⟨rfl, hb⟩
    have HB1 := Lib.hid (below_then HB.out hb)
    clear hb R
    go_wp2
    go_ret
    exact ⟨rfl, HB1.out⟩
  | true =>
    refine fin _ hs ?_
    clear fin hs
    rcases hr0 rfl with rfl | rfl | rfl
    · simp only [if_true]
      clear hr0
      go_enter Tryd.func39, Tryd.ntmps39
      go_wp2_with fail
      refine (R _).mono ?_
      rintro e w1 ⟨rfl, hb⟩
      have ht1 := tab_below ht (below_then HB.out hb)
      have HB1 := Lib.hid (below_then HB.out hb)
      have q0 := H0.out.below hb H0.out.lt
      clear hb R ht
      have a0 := q0.cell 0
      have a1 := q0.cell 1
      have a2 := q0.cell 2
      simp at a0 a1 a2
      clear q0
      clear T ht1
      go_wp2
      go_ret
      exact ⟨rfl, HB1.out⟩
    · simp only [if_true, show ¬ (2 : Int) = 1 by decide, if_false]
      clear hr0
      go_enter Tryd.func39, Tryd.ntmps39
      go_wp2_with fail
      refine (R _).mono ?_
      rintro e w1 ⟨rfl, hb⟩
      have ht1 := tab_below ht (below_then HB.out hb)
      have HB1 := Lib.hid (below_then HB.out hb)
      have q0 := H0.out.below hb H0.out.lt
      clear hb R ht
      have a0 := q0.cell 0
      have a1 := q0.cell 1
      have a2 := q0.cell 2
      simp at a0 a1 a2
      clear q0
      clear T ht1
      go_wp2
      go_ret
      exact ⟨rfl, HB1.out⟩
    · simp only [if_true, show ¬ (0 : Int) = 1 by decide, show ¬ (0 : Int) = 2 by decide, if_false]
      clear hr0
      go_enter Tryd.func39, Tryd.ntmps39
      go_wp2_with fail
      refine (R _).mono ?_
      rintro e w1 ⟨rfl, hb⟩
      have ht1 := tab_below ht (below_then HB.out hb)
      have HB1 := Lib.hid (below_then HB.out hb)
      have q0 := H0.out.below hb H0.out.lt
      clear hb R ht
      have a0 := q0.cell 0
      have a1 := q0.cell 1
      have a2 := q0.cell 2
      simp at a0 a1 a2
      clear q0
      go_wp2_with fail
      refine (T _ ht1).mono ?_
      rintro e w2 ⟨rfl, hb⟩
      have HB2 := Lib.hid (below_then HB1.out hb)
      clear hb T a0 a1 a2
      go_wp2
      go_ret
      exact ⟨rfl, HB2.out⟩
set_option maxRecDepth 100000 in
theorem tell_any (c : Tri) (hc : Fit c) (w : World) (ht : Tab w) : Calls Tryd.prog 40 #[c.v] w fun e w' => e = .returned (strV (tellT c)) ∧ Below w.heap.size w w' := by
  have R := sound_any c
  have b0 := (Below.refl w.heap.size w).alloc (Nat.le_refl _) (.cells c.cs 32)
  have k0 : Blk (w.alloc (.cells c.cs 32)) w.heap.size 32 c.cs := Blk.new _ _ _
  obtain ⟨o, k, v⟩ := c
  obtain ⟨h1, h2, h3, h4⟩ := hc
  simp only at h1 h2 h3 h4
  obtain ⟨k, rfl⟩ := Int.eq_ofNat_of_zero_le h1
  obtain ⟨v, rfl⟩ := Int.eq_ofNat_of_zero_le h3
  have T := fun w => pairText_any k v (by omega) (by omega) w
  have fin : ∀ l, tellT ⟨o, k, v⟩ = l → Calls Tryd.prog 40 #[Tri.v ⟨o, k, v⟩] w (fun e w' => e = .returned (strV l) ∧ Below w.heap.size w w') → Calls Tryd.prog 40 #[Tri.v ⟨o, k, v⟩] w (fun e w' => e = .returned (strV (tellT ⟨o, k, v⟩)) ∧ Below w.heap.size w w') := by
    intro l e h
    rw [e]
    exact h
  have hl := pairT_len (k := k) (v := v) (by omega) (by omega)
  have hr0 : mayB ⟨o, k, v⟩ = true → o = 0 ∨ o = 1 ∨ o = 3 ∨ o = 2 := by
    intro h
    simp [mayB] at h
    omega
  have hs : tellT ⟨o, k, v⟩ = if mayB ⟨o, k, v⟩ then (if o = 0 then doneT else if o = 1 then fullT else if o = 3 then emptyT else pairT k v) else askT := by simp [tellT]
  generalize tellT ⟨o, k, v⟩ = X at *
  generalize mayB ⟨o, k, v⟩ = r at *
  generalize pairT k v = p at *
  have HB := Lib.hid b0
  have H0 := Lib.hid k0
  clear b0 k0
  cases r with
  | false =>
    refine fin _ hs ?_
    simp only [Bool.false_eq_true, if_false]
    clear hr0 T hs fin
    go_enter Tryd.func40, Tryd.ntmps40
    go_wp2_with fail
    refine (R _).mono ?_
    rintro e w1 ⟨rfl, hb⟩
    have HB1 := Lib.hid (below_then HB.out hb)
    clear hb R
    go_wp2
    go_ret
    exact ⟨rfl, HB1.out⟩
  | true =>
    refine fin _ hs ?_
    clear fin hs
    rcases hr0 rfl with rfl | rfl | rfl | rfl
    · simp only [if_true]
      clear hr0
      go_enter Tryd.func40, Tryd.ntmps40
      go_wp2_with fail
      refine (R _).mono ?_
      rintro e w1 ⟨rfl, hb⟩
      have ht1 := tab_below ht (below_then HB.out hb)
      have HB1 := Lib.hid (below_then HB.out hb)
      have q0 := H0.out.below hb H0.out.lt
      clear hb R ht
      have a0 := q0.cell 0
      have a1 := q0.cell 1
      have a2 := q0.cell 2
      simp at a0 a1 a2
      clear q0
      clear T ht1
      go_wp2
      go_ret
      exact ⟨rfl, HB1.out⟩
    · simp only [if_true, show ¬ (1 : Int) = 0 by decide, if_false]
      clear hr0
      go_enter Tryd.func40, Tryd.ntmps40
      go_wp2_with fail
      refine (R _).mono ?_
      rintro e w1 ⟨rfl, hb⟩
      have ht1 := tab_below ht (below_then HB.out hb)
      have HB1 := Lib.hid (below_then HB.out hb)
      have q0 := H0.out.below hb H0.out.lt
      clear hb R ht
      have a0 := q0.cell 0
      have a1 := q0.cell 1
      have a2 := q0.cell 2
      simp at a0 a1 a2
      clear q0
      clear T ht1
      go_wp2
      go_ret
      exact ⟨rfl, HB1.out⟩
    · simp only [if_true, show ¬ (3 : Int) = 0 by decide, show ¬ (3 : Int) = 1 by decide, if_false]
      clear hr0
      go_enter Tryd.func40, Tryd.ntmps40
      go_wp2_with fail
      refine (R _).mono ?_
      rintro e w1 ⟨rfl, hb⟩
      have ht1 := tab_below ht (below_then HB.out hb)
      have HB1 := Lib.hid (below_then HB.out hb)
      have q0 := H0.out.below hb H0.out.lt
      clear hb R ht
      have a0 := q0.cell 0
      have a1 := q0.cell 1
      have a2 := q0.cell 2
      simp at a0 a1 a2
      clear q0
      clear T ht1
      go_wp2
      go_ret
      exact ⟨rfl, HB1.out⟩
    · simp only [if_true, show ¬ (2 : Int) = 0 by decide, show ¬ (2 : Int) = 1 by decide, show ¬ (2 : Int) = 3 by decide, if_false]
      clear hr0
      go_enter Tryd.func40, Tryd.ntmps40
      go_wp2_with fail
      refine (R _).mono ?_
      rintro e w1 ⟨rfl, hb⟩
      have ht1 := tab_below ht (below_then HB.out hb)
      have HB1 := Lib.hid (below_then HB.out hb)
      have q0 := H0.out.below hb H0.out.lt
      clear hb R ht
      have a0 := q0.cell 0
      have a1 := q0.cell 1
      have a2 := q0.cell 2
      simp at a0 a1 a2
      clear q0
      go_wp2_with fail
      refine (T _ ht1).mono ?_
      rintro e w2 ⟨rfl, hb⟩
      have HB2 := Lib.hid (below_then HB1.out hb)
      clear hb T a0 a1 a2
      go_wp2
      go_ret
      exact ⟨rfl, HB2.out⟩
end Go.Proofs.YtfdghlpkioednaaDoor
