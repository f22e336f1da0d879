/- algo, number: an algorithm's and a part's number out of a word. -/
import Derived.Test.YtdhdomeckloedaaDoorText
namespace Go.Proofs.YtdhdomeckloedaaDoor
open Go.ChangeShapes Go.WideShapes Go.ChangeAt Go.RowKit
set_option linter.unusedVariables false
set_option linter.unusedSimpArgs false

/-! ### number -/
/-- What layer 9 reads of a word and a 0 behind it. -/
def numW (l : List UInt8) : Int := match readL (l ++ [32, 48]) with | some c => c.key | none => 0
theorem readL_key {l : List UInt8} {c : Tri} (h : readL l = some c) : 0 ≤ c.key ∧ c.key < 4294967296 := by
  unfold readL at h
  split at h
  · obtain rfl := Option.some.inj h; decide
  split at h
  · obtain rfl := Option.some.inj h; decide
  split at h
  · obtain rfl := Option.some.inj h; decide
  split at h
  · next k v e =>
    obtain rfl := Option.some.inj h
    have := (pairL_sound e).2.1
    dsimp only
    omega
  · cases h
set_option maxRecDepth 100000 in
set_option maxHeartbeats 1000000 in
theorem numW_any (l : List UInt8) (hl : l.length ≤ 1000) (w : World) : Calls Tryd.prog 38 #[strV l] w fun e w' => e = .returned (.int .i64 (numW l)) ∧ Below w.heap.size w w' := by
  have q1 := fun w => add_strs l [32] (by omega) (by decide) w
  have q2 := fun w => add_strs (l ++ [32]) [48] (by simp; omega) (by decide) w
  rw [List.append_assoc] at q2
  simp only [List.cons_append, List.nil_append] at q2
  have KR := fun w => read_any (l ++ [32, 48]) (by simp; omega) w
  have fin : ∀ n, numW l = n → ∀ e w', e = Ending.returned (.int .i64 n) → Below w.heap.size w w' → (e = .returned (.int .i64 (numW l)) ∧ Below w.heap.size w w') := by
    intro n h e w' h1 h2
    rw [h]
    exact ⟨h1, h2⟩
  have hk : ∀ c, readL (l ++ [32, 48]) = some c → 0 ≤ c.key ∧ c.key < 4294967296 := fun c h => readL_key h
  have hn : numW l = match readL (l ++ [32, 48]) with | some c => c.key | none => 0 := rfl
  generalize numW l = N at *
  generalize readL (l ++ [32, 48]) = r at *
  cases r with
  | none =>
    have HF := Lib.hid (fin 0 hn)
    have hw : IntKind.i64.wrap 0 = 0 := rfl
    simp only [optV] at KR
    clear fin hn hk
    go_enter Tryd.func38, Tryd.ntmps38
    go_wp2_with fail
    refine (KR _).mono ?_
    rintro e V ⟨rfl, hb⟩
    go_wp2
    go_ret
    exact HF.out _ _ rfl (hb.alloc hb.size _)
  | some c =>
    obtain ⟨o, k, v⟩ := c
    obtain ⟨k0, k1⟩ := hk _ rfl
    dsimp only at k0 k1 hn
    have HF := Lib.hid (fin k hn)
    have hw : IntKind.i64.wrap k = k := by rw [IntKind.wrap_i64]; omega
    simp only [optV] at KR
    clear fin hn hk
    go_enter Tryd.func38, Tryd.ntmps38
    go_wp2_with fail
    refine (KR _).mono ?_
    rintro e V ⟨rfl, hb⟩
    go_wp2
    go_ret
    exact HF.out _ _ rfl (hb.alloc hb.size _)
/-- A part's text is read as it. -/
theorem numW_dec (n : Nat) (h : n < 4294967296) : numW (Lib.decDigits n) = n := by
  have e : Lib.decDigits n ++ [32, 48] = pairT n 0 := by
    unfold pairT
    rw [Lib.decDigits_one (show (0 : Nat) < 10 by decide)]
    rfl
  unfold numW
  rw [e, readL_pair h (by decide)]

/-! ### algo -/
theorem beq_is {a l : List UInt8} (h : l = a) : (a == l) = true := by simp [h]
theorem beq_not {a l : List UInt8} (h : ¬ l = a) : (a == l) = false := by simpa using fun e => h (Eq.symm e)
def algoN (l : List UInt8) : Int := if l = [109, 111, 117, 110, 100] then 0 else if l = [115, 117, 110, 100, 101, 108, 108] then 1 else if l = [108, 105, 110, 100, 101, 110] then 2 else 3
theorem algoN_alg (al : Int) (h : al = 0 ∨ al = 1 ∨ al = 2) : algoN (algT al) = al := by
  rcases h with rfl | rfl | rfl <;> rfl
theorem index_three0 (v0 v1 v2 : Value) (w : World) : (Instr.index 60 (.agg #[v0, v1, v2]) (.int .i64 0)).run Tryd.prog w = .ok v0 w := by
  simp [Instr.index, run_underlying Tryd.underlying60, asIntOf, go_sem]
theorem index_three1 (v0 v1 v2 : Value) (w : World) : (Instr.index 60 (.agg #[v0, v1, v2]) (.int .i64 1)).run Tryd.prog w = .ok v1 w := by
  simp [Instr.index, run_underlying Tryd.underlying60, asIntOf, go_sem]
theorem index_three2 (v0 v1 v2 : Value) (w : World) : (Instr.index 60 (.agg #[v0, v1, v2]) (.int .i64 2)).run Tryd.prog w = .ok v2 w := by
  simp [Instr.index, run_underlying Tryd.underlying60, asIntOf, go_sem]
set_option maxRecDepth 100000 in
set_option maxHeartbeats 4000000 in
theorem algo_any (l : List UInt8) (w : World) (hE : Env w) : Calls Tryd.prog 37 #[strV l] w fun e w' => e = .returned (.int .i64 (algoN l)) ∧ w' = w := by
  obtain ⟨a0, a1, a2⟩ : w.cell? ⟨2, 0, none⟩ = some (strV [109, 111, 117, 110, 100]) ∧ w.cell? ⟨2, 1, none⟩ = some (strV [115, 117, 110, 100, 101, 108, 108]) ∧ w.cell? ⟨2, 2, none⟩ = some (strV [108, 105, 110, 100, 101, 110]) := ⟨hE.al.cell 0, hE.al.cell 1, hE.al.cell 2⟩
  have i0 := index_three0 (strV [109, 111, 117, 110, 100]) (strV [115, 117, 110, 100, 101, 108, 108]) (strV [108, 105, 110, 100, 101, 110])
  have i1 := index_three1 (strV [109, 111, 117, 110, 100]) (strV [115, 117, 110, 100, 101, 108, 108]) (strV [108, 105, 110, 100, 101, 110])
  have i2 := index_three2 (strV [109, 111, 117, 110, 100]) (strV [115, 117, 110, 100, 101, 108, 108]) (strV [108, 105, 110, 100, 101, 110])
  by_cases h0 : l = [109, 111, 117, 110, 100]
  · have hr : algoN l = 0 := by rw [algoN, if_pos h0]
    rw [hr]
    have e0 := beq_is h0
    clear h0 hr
    go_enter Tryd.func37, Tryd.ntmps37
    go_wp2
    go_rounds 4
    go_ret
    exact ⟨rfl, rfl⟩
  by_cases h1 : l = [115, 117, 110, 100, 101, 108, 108]
  · have hr : algoN l = 1 := by rw [algoN, if_neg h0, if_pos h1]
    rw [hr]
    have e0 := beq_not h0
    have e1 := beq_is h1
    clear h0 h1 hr
    go_enter Tryd.func37, Tryd.ntmps37
    go_wp2
    go_rounds 4
    go_ret
    exact ⟨rfl, rfl⟩
  by_cases h2 : l = [108, 105, 110, 100, 101, 110]
  · have hr : algoN l = 2 := by rw [algoN, if_neg h0, if_neg h1, if_pos h2]
    rw [hr]
    have e0 := beq_not h0
    have e1 := beq_not h1
    have e2 := beq_is h2
    clear h0 h1 h2 hr
    go_enter Tryd.func37, Tryd.ntmps37
    go_wp2
    go_rounds 4
    go_ret
    exact ⟨rfl, rfl⟩
  · have hr : algoN l = 3 := by rw [algoN, if_neg h0, if_neg h1, if_neg h2]
    rw [hr]
    have e0 := beq_not h0
    have e1 := beq_not h1
    have e2 := beq_not h2
    clear h0 h1 h2 hr
    go_enter Tryd.func37, Tryd.ntmps37
    go_wp2
    go_rounds 4
    go_ret
    exact ⟨rfl, rfl⟩
end Go.Proofs.YtdhdomeckloedaaDoor
