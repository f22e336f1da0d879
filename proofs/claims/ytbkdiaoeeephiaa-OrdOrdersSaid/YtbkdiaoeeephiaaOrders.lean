/- The law on the order of order numbers returns true, whatever two pairs of a key and a ticket it is given. -/
import Derived.Test.YtbkdiaoeeephiaaLaws
import Derived.Deep.QuietTactic
import Derived.BigQuiet
import Derived.ChangeKeysEq
import Derived.Deep.RegionWith
namespace Go.Proofs.Ytbkdiaoeeephiaa
open Go.ChangeShapes Go.WideShapes Go.ChangeAt Go.RowKit
set_option linter.unusedVariables false

theorem make_q (k t : Int) (w : World) (h0 : 0 ≤ k) (h1 : k < 4294967296) (h2 : 0 ≤ t) (h3 : t < 4294967296) :
    Calls Try.prog 7 #[.int .u32 k, .int .u32 t] w fun e w' => e = .returned (.int .u64 (k * 4294967296 + t)) ∧ w' = w := by
  refine (make_any k t w h0 h1 h2 h3).mono ?_
  rintro e w' ⟨rfl, rfl⟩
  exact ⟨rfl, rfl⟩
theorem key_q (k t : Int) (w : World) (h0 : 0 ≤ k) (h1 : k < 4294967296) (h2 : 0 ≤ t) (h3 : t < 4294967296) :
    Calls Try.prog 8 #[.int .u64 (k * 4294967296 + t)] w fun e w' => e = .returned (.int .u32 k) ∧ w' = w := by
  refine (key_any _ w (by omega) (by omega)).mono ?_
  rintro e w' ⟨rfl, rfl⟩
  exact ⟨ret_int (by omega), rfl⟩
theorem ticket_q (k t : Int) (w : World) (h0 : 0 ≤ k) (h1 : k < 4294967296) (h2 : 0 ≤ t) (h3 : t < 4294967296) :
    Calls Try.prog 9 #[.int .u64 (k * 4294967296 + t)] w fun e w' => e = .returned (.int .u32 t) ∧ w' = w := by
  refine (ticket_any _ w (by omega) (by omega)).mono ?_
  rintro e w' ⟨rfl, rfl⟩
  exact ⟨ret_int (by omega), rfl⟩
theorem lives_q (w : World) : Calls Try.prog 10 #[] w fun e w' => e = .returned (.bool true) ∧ w' = w := by
  refine (lives_any w).mono ?_
  rintro e w' ⟨rfl, rfl⟩
  exact ⟨rfl, rfl⟩

theorem grown_drewN {w w' : World} {n : Nat} (h : Grown w w') : Grown w (w'.drewN n) := h
theorem eq_arr (a b c d : Int) (w : World) :
    (Op.equalIn 10000 36 (.agg #[.int .u32 a, .int .u32 b]) (.agg #[.int .u32 c, .int .u32 d])).run Try.prog w = .ok (a == c && b == d) w := by
  have hu : Try.prog.underlying 36 = some (.array 2 22) := by kernel_rfl
  have hu2 : Try.prog.underlying 22 = some (.int .u32) := by kernel_rfl
  have hc : Try.prog.cellsOf 22 = 1 := by kernel_rfl
  obtain ⟨i, hi⟩ := Option.isSome_iff_exists.mp (show (Try.prog.info? 22).isSome = true by kernel_rfl)
  rw [run_equalIn_array w 9999 _ _ hu hi, hc]
  simp [List.range, List.range.loop, Op.eqItems, go_sem, hu2]
  by_cases h : a = c <;> by_cases k : b = d <;> simp [h, k]
theorem orders_1 (a b c d : Int) (w : World) (a0 : 0 ≤ a) (a1 : a < 4294967296) (b0 : 0 ≤ b) (b1 : b < 4294967296) (c0 : 0 ≤ c) (c1 : c < 4294967296) (d0 : 0 ≤ d) (d1 : d < 4294967296) (h : a < c) :
    Calls Try.prog 6 #[.agg #[.int .u32 a, .int .u32 b], .agg #[.int .u32 c, .int .u32 d]] w fun e w' => e = .returned (.bool true) ∧ Grown w w' := by
  go_enter Try.func6, Try.ntmps6
  go_wp2
  have hg : Grown w ((w.alloc (Obj.cells #[Value.int IntKind.u32 a, Value.int IntKind.u32 b] 36)).alloc (Obj.cells #[Value.int IntKind.u32 c, Value.int IntKind.u32 d] 36)) := by
    repeat (first | exact Grown.refl _ | apply Grown.alloc)
  have f0 : ((w.alloc (Obj.cells #[Value.int IntKind.u32 a, Value.int IntKind.u32 b] 36)).alloc (Obj.cells #[Value.int IntKind.u32 c, Value.int IntKind.u32 d] 36)).cell? ⟨w.heap.size, 0, none⟩ = some (.int .u32 a) := by simp
  have f1 : ((w.alloc (Obj.cells #[Value.int IntKind.u32 a, Value.int IntKind.u32 b] 36)).alloc (Obj.cells #[Value.int IntKind.u32 c, Value.int IntKind.u32 d] 36)).cell? ⟨w.heap.size, 1, none⟩ = some (.int .u32 b) := by simp
  have f2 : ((w.alloc (Obj.cells #[Value.int IntKind.u32 a, Value.int IntKind.u32 b] 36)).alloc (Obj.cells #[Value.int IntKind.u32 c, Value.int IntKind.u32 d] 36)).cell? ⟨w.heap.size + 1, 0, none⟩ = some (.int .u32 c) := by simp
  have f3 : ((w.alloc (Obj.cells #[Value.int IntKind.u32 a, Value.int IntKind.u32 b] 36)).alloc (Obj.cells #[Value.int IntKind.u32 c, Value.int IntKind.u32 d] 36)).cell? ⟨w.heap.size + 1, 1, none⟩ = some (.int .u32 d) := by simp
  generalize ((w.alloc (Obj.cells #[Value.int IntKind.u32 a, Value.int IntKind.u32 b] 36)).alloc (Obj.cells #[Value.int IntKind.u32 c, Value.int IntKind.u32 d] 36)) = w1 at *
  generalize w.heap.size = p at *
  generalize p + 1 = q at *
  go_quiet ((first
    | (go_at_call_of 7 (Value.int .u32 b); exact Calls.quiet_of_same (make_q a b _ a0 a1 b0 b1))
    | (go_at_call_of 7 (Value.int .u32 d); exact Calls.quiet_of_same (make_q c d _ c0 c1 d0 d1))))
  go_wp2
  have hg2 := grown_drewN (n := nq) hg
  have e0 : (w1.drewN nq).cell? ⟨p, 0, none⟩ = some (.int .u32 a) := by simpa using f0
  have e1 : (w1.drewN nq).cell? ⟨p, 1, none⟩ = some (.int .u32 b) := by simpa using f1
  have e2 : (w1.drewN nq).cell? ⟨q, 0, none⟩ = some (.int .u32 c) := by simpa using f2
  have e3 : (w1.drewN nq).cell? ⟨q, 1, none⟩ = some (.int .u32 d) := by simpa using f3
  clear hg f0 f1 f2 f3
  generalize w1.drewN nq = w2 at *
  have k1 : decide (a * 4294967296 + b < c * 4294967296 + d) = true := by simp; omega
  have k2 : (a * 4294967296 + b == c * 4294967296 + d) = false := by simp; omega
  have k3 : ∀ w : World, (Op.equalIn 10000 36 (.agg #[.int .u32 a, .int .u32 b]) (.agg #[.int .u32 c, .int .u32 d])).run Try.prog w = .ok false w := fun w => by
    rw [eq_arr]; congr 1; simp; try omega
  go_quiet ((first
    | (go_at_call 8; exact Calls.quiet_of_same (key_q a b _ a0 a1 b0 b1))
    | (go_at_call 9; exact Calls.quiet_of_same (ticket_q a b _ a0 a1 b0 b1))
    | (go_at_call 10; exact Calls.quiet_of_same (lives_q _))))
  go_wp2
  go_ret
  exact ⟨rfl, grown_drewN hg2⟩
theorem orders_2 (a b d : Int) (w : World) (a0 : 0 ≤ a) (a1 : a < 4294967296) (b0 : 0 ≤ b) (b1 : b < 4294967296) (d0 : 0 ≤ d) (d1 : d < 4294967296) (h : b < d) :
    Calls Try.prog 6 #[.agg #[.int .u32 a, .int .u32 b], .agg #[.int .u32 a, .int .u32 d]] w fun e w' => e = .returned (.bool true) ∧ Grown w w' := by
  go_enter Try.func6, Try.ntmps6
  go_wp2
  have hg : Grown w ((w.alloc (Obj.cells #[Value.int IntKind.u32 a, Value.int IntKind.u32 b] 36)).alloc (Obj.cells #[Value.int IntKind.u32 a, Value.int IntKind.u32 d] 36)) := by
    repeat (first | exact Grown.refl _ | apply Grown.alloc)
  have f0 : ((w.alloc (Obj.cells #[Value.int IntKind.u32 a, Value.int IntKind.u32 b] 36)).alloc (Obj.cells #[Value.int IntKind.u32 a, Value.int IntKind.u32 d] 36)).cell? ⟨w.heap.size, 0, none⟩ = some (.int .u32 a) := by simp
  have f1 : ((w.alloc (Obj.cells #[Value.int IntKind.u32 a, Value.int IntKind.u32 b] 36)).alloc (Obj.cells #[Value.int IntKind.u32 a, Value.int IntKind.u32 d] 36)).cell? ⟨w.heap.size, 1, none⟩ = some (.int .u32 b) := by simp
  have f2 : ((w.alloc (Obj.cells #[Value.int IntKind.u32 a, Value.int IntKind.u32 b] 36)).alloc (Obj.cells #[Value.int IntKind.u32 a, Value.int IntKind.u32 d] 36)).cell? ⟨w.heap.size + 1, 0, none⟩ = some (.int .u32 a) := by simp
  have f3 : ((w.alloc (Obj.cells #[Value.int IntKind.u32 a, Value.int IntKind.u32 b] 36)).alloc (Obj.cells #[Value.int IntKind.u32 a, Value.int IntKind.u32 d] 36)).cell? ⟨w.heap.size + 1, 1, none⟩ = some (.int .u32 d) := by simp
  generalize ((w.alloc (Obj.cells #[Value.int IntKind.u32 a, Value.int IntKind.u32 b] 36)).alloc (Obj.cells #[Value.int IntKind.u32 a, Value.int IntKind.u32 d] 36)) = w1 at *
  generalize w.heap.size = p at *
  generalize p + 1 = q at *
  go_quiet ((first
    | (go_at_call_of 7 (Value.int .u32 b); exact Calls.quiet_of_same (make_q a b _ a0 a1 b0 b1))
    | (go_at_call_of 7 (Value.int .u32 d); exact Calls.quiet_of_same (make_q a d _ a0 a1 d0 d1))))
  go_wp2
  have hg2 := grown_drewN (n := nq) hg
  have e0 : (w1.drewN nq).cell? ⟨p, 0, none⟩ = some (.int .u32 a) := by simpa using f0
  have e1 : (w1.drewN nq).cell? ⟨p, 1, none⟩ = some (.int .u32 b) := by simpa using f1
  have e2 : (w1.drewN nq).cell? ⟨q, 0, none⟩ = some (.int .u32 a) := by simpa using f2
  have e3 : (w1.drewN nq).cell? ⟨q, 1, none⟩ = some (.int .u32 d) := by simpa using f3
  clear hg f0 f1 f2 f3
  generalize w1.drewN nq = w2 at *
  have k1 : decide (a * 4294967296 + b < a * 4294967296 + d) = true := by simp; omega
  have k2 : (a * 4294967296 + b == a * 4294967296 + d) = false := by simp; omega
  have k3 : ∀ w : World, (Op.equalIn 10000 36 (.agg #[.int .u32 a, .int .u32 b]) (.agg #[.int .u32 a, .int .u32 d])).run Try.prog w = .ok false w := fun w => by
    rw [eq_arr]; congr 1; simp; try omega
  go_quiet ((first
    | (go_at_call 8; exact Calls.quiet_of_same (key_q a b _ a0 a1 b0 b1))
    | (go_at_call 9; exact Calls.quiet_of_same (ticket_q a b _ a0 a1 b0 b1))
    | (go_at_call 10; exact Calls.quiet_of_same (lives_q _))))
  go_wp2
  go_ret
  exact ⟨rfl, grown_drewN hg2⟩
theorem orders_3 (a b : Int) (w : World) (a0 : 0 ≤ a) (a1 : a < 4294967296) (b0 : 0 ≤ b) (b1 : b < 4294967296) :
    Calls Try.prog 6 #[.agg #[.int .u32 a, .int .u32 b], .agg #[.int .u32 a, .int .u32 b]] w fun e w' => e = .returned (.bool true) ∧ Grown w w' := by
  go_enter Try.func6, Try.ntmps6
  go_wp2
  have hg : Grown w ((w.alloc (Obj.cells #[Value.int IntKind.u32 a, Value.int IntKind.u32 b] 36)).alloc (Obj.cells #[Value.int IntKind.u32 a, Value.int IntKind.u32 b] 36)) := by
    repeat (first | exact Grown.refl _ | apply Grown.alloc)
  have f0 : ((w.alloc (Obj.cells #[Value.int IntKind.u32 a, Value.int IntKind.u32 b] 36)).alloc (Obj.cells #[Value.int IntKind.u32 a, Value.int IntKind.u32 b] 36)).cell? ⟨w.heap.size, 0, none⟩ = some (.int .u32 a) := by simp
  have f1 : ((w.alloc (Obj.cells #[Value.int IntKind.u32 a, Value.int IntKind.u32 b] 36)).alloc (Obj.cells #[Value.int IntKind.u32 a, Value.int IntKind.u32 b] 36)).cell? ⟨w.heap.size, 1, none⟩ = some (.int .u32 b) := by simp
  have f2 : ((w.alloc (Obj.cells #[Value.int IntKind.u32 a, Value.int IntKind.u32 b] 36)).alloc (Obj.cells #[Value.int IntKind.u32 a, Value.int IntKind.u32 b] 36)).cell? ⟨w.heap.size + 1, 0, none⟩ = some (.int .u32 a) := by simp
  have f3 : ((w.alloc (Obj.cells #[Value.int IntKind.u32 a, Value.int IntKind.u32 b] 36)).alloc (Obj.cells #[Value.int IntKind.u32 a, Value.int IntKind.u32 b] 36)).cell? ⟨w.heap.size + 1, 1, none⟩ = some (.int .u32 b) := by simp
  generalize ((w.alloc (Obj.cells #[Value.int IntKind.u32 a, Value.int IntKind.u32 b] 36)).alloc (Obj.cells #[Value.int IntKind.u32 a, Value.int IntKind.u32 b] 36)) = w1 at *
  generalize w.heap.size = p at *
  generalize p + 1 = q at *
  go_quiet ((first
    | (go_at_call_of 7 (Value.int .u32 b); exact Calls.quiet_of_same (make_q a b _ a0 a1 b0 b1))
    | (go_at_call_of 7 (Value.int .u32 b); exact Calls.quiet_of_same (make_q a b _ a0 a1 b0 b1))))
  go_wp2
  have hg2 := grown_drewN (n := nq) hg
  have e0 : (w1.drewN nq).cell? ⟨p, 0, none⟩ = some (.int .u32 a) := by simpa using f0
  have e1 : (w1.drewN nq).cell? ⟨p, 1, none⟩ = some (.int .u32 b) := by simpa using f1
  have e2 : (w1.drewN nq).cell? ⟨q, 0, none⟩ = some (.int .u32 a) := by simpa using f2
  have e3 : (w1.drewN nq).cell? ⟨q, 1, none⟩ = some (.int .u32 b) := by simpa using f3
  clear hg f0 f1 f2 f3
  generalize w1.drewN nq = w2 at *
  have k3 : ∀ w : World, (Op.equalIn 10000 36 (.agg #[.int .u32 a, .int .u32 b]) (.agg #[.int .u32 a, .int .u32 b])).run Try.prog w = .ok true w := fun w => by
    rw [eq_arr]; congr 1; simp; try omega
  go_quiet ((first
    | (go_at_call 8; exact Calls.quiet_of_same (key_q a b _ a0 a1 b0 b1))
    | (go_at_call 9; exact Calls.quiet_of_same (ticket_q a b _ a0 a1 b0 b1))
    | (go_at_call 10; exact Calls.quiet_of_same (lives_q _))))
  go_wp2
  go_ret
  exact ⟨rfl, grown_drewN hg2⟩
theorem orders_4 (a b d : Int) (w : World) (a0 : 0 ≤ a) (a1 : a < 4294967296) (b0 : 0 ≤ b) (b1 : b < 4294967296) (d0 : 0 ≤ d) (d1 : d < 4294967296) (h : d < b) :
    Calls Try.prog 6 #[.agg #[.int .u32 a, .int .u32 b], .agg #[.int .u32 a, .int .u32 d]] w fun e w' => e = .returned (.bool true) ∧ Grown w w' := by
  go_enter Try.func6, Try.ntmps6
  go_wp2
  have hg : Grown w ((w.alloc (Obj.cells #[Value.int IntKind.u32 a, Value.int IntKind.u32 b] 36)).alloc (Obj.cells #[Value.int IntKind.u32 a, Value.int IntKind.u32 d] 36)) := by
    repeat (first | exact Grown.refl _ | apply Grown.alloc)
  have f0 : ((w.alloc (Obj.cells #[Value.int IntKind.u32 a, Value.int IntKind.u32 b] 36)).alloc (Obj.cells #[Value.int IntKind.u32 a, Value.int IntKind.u32 d] 36)).cell? ⟨w.heap.size, 0, none⟩ = some (.int .u32 a) := by simp
  have f1 : ((w.alloc (Obj.cells #[Value.int IntKind.u32 a, Value.int IntKind.u32 b] 36)).alloc (Obj.cells #[Value.int IntKind.u32 a, Value.int IntKind.u32 d] 36)).cell? ⟨w.heap.size, 1, none⟩ = some (.int .u32 b) := by simp
  have f2 : ((w.alloc (Obj.cells #[Value.int IntKind.u32 a, Value.int IntKind.u32 b] 36)).alloc (Obj.cells #[Value.int IntKind.u32 a, Value.int IntKind.u32 d] 36)).cell? ⟨w.heap.size + 1, 0, none⟩ = some (.int .u32 a) := by simp
  have f3 : ((w.alloc (Obj.cells #[Value.int IntKind.u32 a, Value.int IntKind.u32 b] 36)).alloc (Obj.cells #[Value.int IntKind.u32 a, Value.int IntKind.u32 d] 36)).cell? ⟨w.heap.size + 1, 1, none⟩ = some (.int .u32 d) := by simp
  generalize ((w.alloc (Obj.cells #[Value.int IntKind.u32 a, Value.int IntKind.u32 b] 36)).alloc (Obj.cells #[Value.int IntKind.u32 a, Value.int IntKind.u32 d] 36)) = w1 at *
  generalize w.heap.size = p at *
  generalize p + 1 = q at *
  go_quiet ((first
    | (go_at_call_of 7 (Value.int .u32 b); exact Calls.quiet_of_same (make_q a b _ a0 a1 b0 b1))
    | (go_at_call_of 7 (Value.int .u32 d); exact Calls.quiet_of_same (make_q a d _ a0 a1 d0 d1))))
  go_wp2
  have hg2 := grown_drewN (n := nq) hg
  have e0 : (w1.drewN nq).cell? ⟨p, 0, none⟩ = some (.int .u32 a) := by simpa using f0
  have e1 : (w1.drewN nq).cell? ⟨p, 1, none⟩ = some (.int .u32 b) := by simpa using f1
  have e2 : (w1.drewN nq).cell? ⟨q, 0, none⟩ = some (.int .u32 a) := by simpa using f2
  have e3 : (w1.drewN nq).cell? ⟨q, 1, none⟩ = some (.int .u32 d) := by simpa using f3
  clear hg f0 f1 f2 f3
  generalize w1.drewN nq = w2 at *
  have k1 : decide (a * 4294967296 + b < a * 4294967296 + d) = false := by simp; omega
  have k2 : (a * 4294967296 + b == a * 4294967296 + d) = false := by simp; omega
  have k3 : ∀ w : World, (Op.equalIn 10000 36 (.agg #[.int .u32 a, .int .u32 b]) (.agg #[.int .u32 a, .int .u32 d])).run Try.prog w = .ok false w := fun w => by
    rw [eq_arr]; congr 1; simp; try omega
  go_quiet ((first
    | (go_at_call 8; exact Calls.quiet_of_same (key_q a b _ a0 a1 b0 b1))
    | (go_at_call 9; exact Calls.quiet_of_same (ticket_q a b _ a0 a1 b0 b1))
    | (go_at_call 10; exact Calls.quiet_of_same (lives_q _))))
  go_wp2
  go_ret
  exact ⟨rfl, grown_drewN hg2⟩
theorem orders_5 (a b c d : Int) (w : World) (a0 : 0 ≤ a) (a1 : a < 4294967296) (b0 : 0 ≤ b) (b1 : b < 4294967296) (c0 : 0 ≤ c) (c1 : c < 4294967296) (d0 : 0 ≤ d) (d1 : d < 4294967296) (h : c < a) :
    Calls Try.prog 6 #[.agg #[.int .u32 a, .int .u32 b], .agg #[.int .u32 c, .int .u32 d]] w fun e w' => e = .returned (.bool true) ∧ Grown w w' := by
  have j1 : decide (a < c) = false := by simp; omega
  have j2 : (a == c) = false := by simp; omega
  go_enter Try.func6, Try.ntmps6
  go_wp2
  have hg : Grown w ((w.alloc (Obj.cells #[Value.int IntKind.u32 a, Value.int IntKind.u32 b] 36)).alloc (Obj.cells #[Value.int IntKind.u32 c, Value.int IntKind.u32 d] 36)) := by
    repeat (first | exact Grown.refl _ | apply Grown.alloc)
  have f0 : ((w.alloc (Obj.cells #[Value.int IntKind.u32 a, Value.int IntKind.u32 b] 36)).alloc (Obj.cells #[Value.int IntKind.u32 c, Value.int IntKind.u32 d] 36)).cell? ⟨w.heap.size, 0, none⟩ = some (.int .u32 a) := by simp
  have f1 : ((w.alloc (Obj.cells #[Value.int IntKind.u32 a, Value.int IntKind.u32 b] 36)).alloc (Obj.cells #[Value.int IntKind.u32 c, Value.int IntKind.u32 d] 36)).cell? ⟨w.heap.size, 1, none⟩ = some (.int .u32 b) := by simp
  have f2 : ((w.alloc (Obj.cells #[Value.int IntKind.u32 a, Value.int IntKind.u32 b] 36)).alloc (Obj.cells #[Value.int IntKind.u32 c, Value.int IntKind.u32 d] 36)).cell? ⟨w.heap.size + 1, 0, none⟩ = some (.int .u32 c) := by simp
  have f3 : ((w.alloc (Obj.cells #[Value.int IntKind.u32 a, Value.int IntKind.u32 b] 36)).alloc (Obj.cells #[Value.int IntKind.u32 c, Value.int IntKind.u32 d] 36)).cell? ⟨w.heap.size + 1, 1, none⟩ = some (.int .u32 d) := by simp
  generalize ((w.alloc (Obj.cells #[Value.int IntKind.u32 a, Value.int IntKind.u32 b] 36)).alloc (Obj.cells #[Value.int IntKind.u32 c, Value.int IntKind.u32 d] 36)) = w1 at *
  generalize w.heap.size = p at *
  generalize p + 1 = q at *
  go_quiet ((first
    | (go_at_call_of 7 (Value.int .u32 b); exact Calls.quiet_of_same (make_q a b _ a0 a1 b0 b1))
    | (go_at_call_of 7 (Value.int .u32 d); exact Calls.quiet_of_same (make_q c d _ c0 c1 d0 d1))))
  go_wp2
  have hg2 := grown_drewN (n := nq) hg
  have e0 : (w1.drewN nq).cell? ⟨p, 0, none⟩ = some (.int .u32 a) := by simpa using f0
  have e1 : (w1.drewN nq).cell? ⟨p, 1, none⟩ = some (.int .u32 b) := by simpa using f1
  have e2 : (w1.drewN nq).cell? ⟨q, 0, none⟩ = some (.int .u32 c) := by simpa using f2
  have e3 : (w1.drewN nq).cell? ⟨q, 1, none⟩ = some (.int .u32 d) := by simpa using f3
  clear hg f0 f1 f2 f3
  generalize w1.drewN nq = w2 at *
  have k1 : decide (a * 4294967296 + b < c * 4294967296 + d) = false := by simp; omega
  have k2 : (a * 4294967296 + b == c * 4294967296 + d) = false := by simp; omega
  have k3 : ∀ w : World, (Op.equalIn 10000 36 (.agg #[.int .u32 a, .int .u32 b]) (.agg #[.int .u32 c, .int .u32 d])).run Try.prog w = .ok false w := fun w => by
    rw [eq_arr]; congr 1; simp; try omega
  go_quiet ((first
    | (go_at_call 8; exact Calls.quiet_of_same (key_q a b _ a0 a1 b0 b1))
    | (go_at_call 9; exact Calls.quiet_of_same (ticket_q a b _ a0 a1 b0 b1))
    | (go_at_call 10; exact Calls.quiet_of_same (lives_q _))))
  go_wp2
  go_ret
  exact ⟨rfl, grown_drewN hg2⟩
theorem orders_all (a b c d : Int) (ha : (Lit.int .u32 a).wf = true) (hb : (Lit.int .u32 b).wf = true) (hc : (Lit.int .u32 c).wf = true) (hd : (Lit.int .u32 d).wf = true) (w : World) :
    Calls Try.prog 6 #[.agg #[.int .u32 a, .int .u32 b], .agg #[.int .u32 c, .int .u32 d]] w fun e w' => e = .returned (.bool true) ∧ Grown w w' := by
  obtain ⟨a0, a1⟩ := bd_u32 ha
  obtain ⟨b0, b1⟩ := bd_u32 hb
  obtain ⟨c0, c1⟩ := bd_u32 hc
  obtain ⟨d0, d1⟩ := bd_u32 hd
  by_cases h1 : a < c
  · exact orders_1 a b c d w a0 a1 b0 b1 c0 c1 d0 d1 h1
  by_cases h5 : c < a
  · exact orders_5 a b c d w a0 a1 b0 b1 c0 c1 d0 d1 h5
  obtain rfl : a = c := by omega
  by_cases h2 : b < d
  · exact orders_2 a b d w a0 a1 b0 b1 d0 d1 h2
  by_cases h4 : d < b
  · exact orders_4 a b d w a0 a1 b0 b1 d0 d1 h4
  obtain rfl : b = d := by omega
  exact orders_3 a b w a0 a1 b0 b1
end Go.Proofs.Ytbkdiaoeeephiaa
