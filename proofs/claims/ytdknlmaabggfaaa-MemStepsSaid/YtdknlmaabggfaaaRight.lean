/- May a step be; what 'do' answers of a step that may be. -/
import Derived.Test.YtdknlmaabggfaaaDo
namespace Go.Proofs.Ytdknlmaabggfaaa
open Go.ChangeShapes Go.WideShapes Go.ChangeAt Go.RowKit
set_option linter.unusedVariables false

/-- May a step be, of n words? -/
def rightB (k a b : Int) (n : Nat) : Bool := decide (0 ≤ k) && decide (k ≤ 5) && inB n a && (decide (k < 4) || (inB n b && (decide (k = 5) || !decide (a = b))))

set_option maxRecDepth 100000 in
set_option maxHeartbeats 4000000 in
theorem right_any (k a b o x p q : Int) (n : Nat) (w : World) :
    Calls Try.prog 11 #[opV k a b o x p q, .int .i64 n] w fun e w' => e = .returned (.bool (rightB k a b n)) ∧ Below w.heap.size w w' := by
  have hb1 : Below w.heap.size w (w.alloc (.cells #[.int .i64 k, .int .i64 a, .int .i64 b, .int .u64 o, .int .u64 x, .int .u64 p, .int .u64 q] 33)) := (Below.refl _ _).alloc (Nat.le_refl _) _
  by_cases h0 : k < 0
  · have hr : rightB k a b n = false := by unfold rightB inB; rw [Bool.eq_false_iff]; intro h; simp at h; omega
    rw [hr]
    clear hr
    go_enter Try.func11, Try.ntmps11
    go_wp2
    go_ret
    exact ⟨rfl, hb1⟩
  by_cases h5 : 5 < k
  · have hr : rightB k a b n = false := by unfold rightB inB; rw [Bool.eq_false_iff]; intro h; simp at h; omega
    rw [hr]
    clear hr
    go_enter Try.func11, Try.ntmps11
    go_wp2
    go_ret
    exact ⟨rfl, hb1⟩
  by_cases ha0 : a < 0
  · have hr : rightB k a b n = false := by unfold rightB inB; rw [Bool.eq_false_iff]; intro h; simp at h; omega
    rw [hr]
    clear hr
    go_enter Try.func11, Try.ntmps11
    go_wp2
    go_ret
    exact ⟨rfl, hb1⟩
  by_cases ha1 : (n : Int) ≤ a
  · have hr : rightB k a b n = false := by unfold rightB inB; rw [Bool.eq_false_iff]; intro h; simp at h; omega
    rw [hr]
    clear hr
    go_enter Try.func11, Try.ntmps11
    go_wp2
    go_ret
    exact ⟨rfl, hb1⟩
  by_cases h4 : k < 4
  · have hr : rightB k a b n = true := by unfold rightB inB; simp; omega
    rw [hr]
    clear hr
    go_enter Try.func11, Try.ntmps11
    go_wp2
    go_ret
    exact ⟨rfl, hb1⟩
  by_cases hc0 : b < 0
  · have hr : rightB k a b n = false := by unfold rightB inB; rw [Bool.eq_false_iff]; intro h; simp at h; omega
    rw [hr]
    clear hr
    go_enter Try.func11, Try.ntmps11
    go_wp2
    go_ret
    exact ⟨rfl, hb1⟩
  by_cases hc1 : (n : Int) ≤ b
  · have hr : rightB k a b n = false := by unfold rightB inB; rw [Bool.eq_false_iff]; intro h; simp at h; omega
    rw [hr]
    clear hr
    go_enter Try.func11, Try.ntmps11
    go_wp2
    go_ret
    exact ⟨rfl, hb1⟩
  by_cases hk5 : k = 5
  · have hr : rightB k a b n = true := by unfold rightB inB; simp; omega
    rw [hr]
    clear hr
    subst hk5
    go_enter Try.func11, Try.ntmps11
    go_wp2
    go_ret
    exact ⟨rfl, hb1⟩
  by_cases hab : a = b
  · have hr : rightB k a b n = false := by unfold rightB inB; rw [Bool.eq_false_iff]; intro h; simp at h; omega
    rw [hr]
    clear hr
    subst hab
    obtain rfl : k = 4 := by omega
    go_enter Try.func11, Try.ntmps11
    go_wp2
    go_ret
    exact ⟨rfl, hb1⟩
  have hr : rightB k a b n = true := by unfold rightB inB; simp; omega
  rw [hr]
  clear hr
  obtain rfl : k = 4 := by omega
  have e1 : (a != b) = true := by simpa using hab
  go_enter Try.func11, Try.ntmps11
  go_wp2
  go_ret
  exact ⟨rfl, hb1⟩

/-- A step that may be: the words behind it, what it tells, whether something was written. -/
def act (ws : List Int) (k : Int) (a : Nat) (b o x p q : Int) : List Int × Int × Bool :=
  if k = 0 then (ws, wordAt ws a, false)
  else if k = 1 then (ws.set a x, 0, true)
  else if k = 2 then (if wordAt ws a = o then (ws.set a x, 0, true) else (ws, 0, false))
  else if k = 3 then (ws.set a (IntKind.u64.wrap (wordAt ws a + x)), wordAt ws a, true)
  else if wordAt ws a = o ∧ wordAt ws b.toNat = p then ((if k = 4 then (ws.set a x).set b.toNat q else ws.set a x), 0, true) else (ws, 0, false)
theorem act_len (ws : List Int) (k : Int) (a : Nat) (b o x p q : Int) : (act ws k a b o x p q).1.length = ws.length := by
  unfold act
  repeat' split
  all_goals simp
/-- How it is logged. -/
def entry (ws : List Int) (k : Int) (a : Nat) (b o x p q : Int) : Acc := (k, a, if k < 4 then -1 else b, (act ws k a b o x p q).2.2)

set_option maxRecDepth 100000 in
set_option maxHeartbeats 8000000 in
theorem do_right (B : Nat) (ws : List Int) (st : Int) (wa : Bool) (log : List Acc) (O : Nat → Prop) (k : Int) (a : Nat) (b o x p q : Int) (w : World) (h : MemAt B ⟨ws, st, wa, log⟩ O w) (hf : MS.fine ⟨ws, st, wa, log⟩)
    (k0 : 0 ≤ k) (k5 : k ≤ 5) (ha : a < ws.length) (hb : 4 ≤ k → 0 ≤ b ∧ b < ws.length) (hab : k = 4 → (a : Int) ≠ b) :
    Calls Try.prog 10 #[at0 B, opV k a b o x p q] w (Does B (.tuple #[.int .u64 (act ws k a b o x p q).2.1, .bool (act ws k a b o x p q).2.2, .int .i64 0]) (MS.counted ⟨(act ws k a b o x p q).1, st, wa, log⟩ (entry ws k a b o x p q)) O w) := by
  have hA := h.alloc (.cells #[.int .i64 k, .int .i64 a, .int .i64 b, .int .u64 o, .int .u64 x, .int .u64 p, .int .u64 q] 33)
  have k1 := (Keeps.refl O w).alloc (.cells #[.int .i64 k, .int .i64 a, .int .i64 b, .int .u64 o, .int .u64 x, .int .u64 p, .int .u64 q] 33)
  unfold entry
  by_cases h0 : k = 0
  · subst h0
    have hact : act ws 0 a b o x p q = (ws, wordAt ws a, false) := by simp [act]
    rw [hact]
    clear hact
    go_enter Try.func10, Try.ntmps10
    go_wp2_with fail
    refine (load_ok B _ O a _ hA hf ha).mono ?_
    rintro e w' ⟨rfl, hT⟩
    have hT := Turn.from k1 (Later.refl _ _) hT
    try generalize wordAt ws a = y at *
    go_wp2
    exact bodyPost_ret (v := .tuple #[.int .u64 _, .bool false, .int .i64 0]) (by simp [results, Try.results10, go_sem]) rfl ⟨rfl, hT⟩
  by_cases h1 : k = 1
  · subst h1
    have hact : act ws 1 a b o x p q = (ws.set a x, 0, true) := by simp [act]
    rw [hact]
    clear hact
    go_enter Try.func10, Try.ntmps10
    go_wp2_with fail
    refine (store_ok B ws st wa log O a x _ hA hf ha).mono ?_
    rintro e w' ⟨rfl, hT⟩
    have hT := Turn.from k1 (Later.refl _ _) hT
    try generalize wordAt ws a = y at *
    go_wp2
    exact bodyPost_ret (v := .tuple #[.int .u64 0, .bool true, .int .i64 0]) (by simp [results, Try.results10, go_sem]) rfl ⟨rfl, hT⟩
  by_cases h2 : k = 2
  · subst h2
    by_cases ho : wordAt ws a = o
    · skip
      have hact : act ws 2 a b o x p q = (ws.set a x, 0, true) := by simp [act, ho]
      rw [hact]
      clear hact
      go_enter Try.func10, Try.ntmps10
      go_wp2_with fail
      refine (cas_yes B ws st wa log O a o x _ hA hf ha ho).mono ?_
      rintro e w' ⟨rfl, hT⟩
      have hT := Turn.from k1 (Later.refl _ _) hT
      try generalize wordAt ws a = y at *
      go_wp2
      exact bodyPost_ret (v := .tuple #[.int .u64 0, .bool true, .int .i64 0]) (by simp [results, Try.results10, go_sem]) rfl ⟨rfl, hT⟩
    · skip
      have hact : act ws 2 a b o x p q = (ws, 0, false) := by simp [act, ho]
      rw [hact]
      clear hact
      go_enter Try.func10, Try.ntmps10
      go_wp2_with fail
      refine (cas_no B ws st wa log O a o x _ hA hf ha ho).mono ?_
      rintro e w' ⟨rfl, hT⟩
      have hT := Turn.from k1 (Later.refl _ _) hT
      try generalize wordAt ws a = y at *
      go_wp2
      exact bodyPost_ret (v := .tuple #[.int .u64 0, .bool false, .int .i64 0]) (by simp [results, Try.results10, go_sem]) rfl ⟨rfl, hT⟩
  by_cases h3 : k = 3
  · subst h3
    have hact : act ws 3 a b o x p q = (ws.set a (IntKind.u64.wrap (wordAt ws a + x)), wordAt ws a, true) := by simp [act]
    rw [hact]
    clear hact
    go_enter Try.func10, Try.ntmps10
    go_wp2_with fail
    refine (add_ok B ws st wa log O a x _ hA hf ha).mono ?_
    rintro e w' ⟨rfl, hT⟩
    have hT := Turn.from k1 (Later.refl _ _) hT
    try generalize wordAt ws a = y at *
    go_wp2
    exact bodyPost_ret (v := .tuple #[.int .u64 _, .bool true, .int .i64 0]) (by simp [results, Try.results10, go_sem]) rfl ⟨rfl, hT⟩
  obtain ⟨hb0, hb1⟩ := hb (by omega)
  obtain ⟨m, rfl⟩ : ∃ m : Nat, b = m := ⟨b.toNat, by omega⟩
  have hm : m < ws.length := by omega
  by_cases h4 : k = 4
  · subst h4
    have ham : a ≠ m := by have := hab rfl; omega
    by_cases ho : wordAt ws a = o
    · by_cases hp : wordAt ws m = p
      · skip
        have hact : act ws 4 a m o x p q = ((ws.set a x).set m q, 0, true) := by simp [act, ho, hp]
        rw [hact]
        clear hact
        go_enter Try.func10, Try.ntmps10
        go_wp2_with fail
        refine (dcas_yes B ws st wa log O a o x m p q _ hA hf ha hm ham ho hp).mono ?_
        rintro e w' ⟨rfl, hT⟩
        have hT := Turn.from k1 (Later.refl _ _) hT
        try generalize wordAt ws a = y at *
        go_wp2
        exact bodyPost_ret (v := .tuple #[.int .u64 0, .bool true, .int .i64 0]) (by simp [results, Try.results10, go_sem]) rfl ⟨rfl, hT⟩
      · skip
        have hact : act ws 4 a m o x p q = (ws, 0, false) := by simp [act, ho, hp]
        rw [hact]
        clear hact
        go_enter Try.func10, Try.ntmps10
        go_wp2_with fail
        refine (dcas_no2 B ws st wa log O a o x m p q _ hA hf ha hm ham ho hp).mono ?_
        rintro e w' ⟨rfl, hT⟩
        have hT := Turn.from k1 (Later.refl _ _) hT
        try generalize wordAt ws a = y at *
        go_wp2
        exact bodyPost_ret (v := .tuple #[.int .u64 0, .bool false, .int .i64 0]) (by simp [results, Try.results10, go_sem]) rfl ⟨rfl, hT⟩
    · skip
      have hact : act ws 4 a m o x p q = (ws, 0, false) := by simp [act, ho]
      rw [hact]
      clear hact
      go_enter Try.func10, Try.ntmps10
      go_wp2_with fail
      refine (dcas_no1 B ws st wa log O a o x m p q _ hA hf ha hm ham ho).mono ?_
      rintro e w' ⟨rfl, hT⟩
      have hT := Turn.from k1 (Later.refl _ _) hT
      try generalize wordAt ws a = y at *
      go_wp2
      exact bodyPost_ret (v := .tuple #[.int .u64 0, .bool false, .int .i64 0]) (by simp [results, Try.results10, go_sem]) rfl ⟨rfl, hT⟩
  obtain rfl : k = 5 := by omega
  by_cases ho : wordAt ws a = o
  · by_cases hp : wordAt ws m = p
    · skip
      have hact : act ws 5 a m o x p q = (ws.set a x, 0, true) := by simp [act, ho, hp]
      rw [hact]
      clear hact
      go_enter Try.func10, Try.ntmps10
      go_wp2_with fail
      refine (dcss_yes B ws st wa log O a o x m p _ hA hf ha hm ho hp).mono ?_
      rintro e w' ⟨rfl, hT⟩
      have hT := Turn.from k1 (Later.refl _ _) hT
      try generalize wordAt ws a = y at *
      go_wp2
      exact bodyPost_ret (v := .tuple #[.int .u64 0, .bool true, .int .i64 0]) (by simp [results, Try.results10, go_sem]) rfl ⟨rfl, hT⟩
    · skip
      have hact : act ws 5 a m o x p q = (ws, 0, false) := by simp [act, ho, hp]
      rw [hact]
      clear hact
      go_enter Try.func10, Try.ntmps10
      go_wp2_with fail
      refine (dcss_no2 B ws st wa log O a o x m p _ hA hf ha hm ho hp).mono ?_
      rintro e w' ⟨rfl, hT⟩
      have hT := Turn.from k1 (Later.refl _ _) hT
      try generalize wordAt ws a = y at *
      go_wp2
      exact bodyPost_ret (v := .tuple #[.int .u64 0, .bool false, .int .i64 0]) (by simp [results, Try.results10, go_sem]) rfl ⟨rfl, hT⟩
  · skip
    have hact : act ws 5 a m o x p q = (ws, 0, false) := by simp [act, ho]
    rw [hact]
    clear hact
    go_enter Try.func10, Try.ntmps10
    go_wp2_with fail
    refine (dcss_no1 B ws st wa log O a o x m p _ hA hf ha hm ho).mono ?_
    rintro e w' ⟨rfl, hT⟩
    have hT := Turn.from k1 (Later.refl _ _) hT
    try generalize wordAt ws a = y at *
    go_wp2
    exact bodyPost_ret (v := .tuple #[.int .u64 0, .bool false, .int .i64 0]) (by simp [results, Try.results10, go_sem]) rfl ⟨rfl, hT⟩
end Go.Proofs.Ytdknlmaabggfaaa
