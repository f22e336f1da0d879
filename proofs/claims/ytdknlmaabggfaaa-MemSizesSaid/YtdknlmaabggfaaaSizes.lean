/- The walk of MemSizes. -/
import Derived.Test.YtdknlmaabggfaaaDo
namespace Go.Proofs.Ytdknlmaabggfaaa
open Go.ChangeShapes Go.WideShapes Go.ChangeAt Go.RowKit
set_option linter.unusedVariables false

set_option maxRecDepth 100000 in
set_option maxHeartbeats 4000000 in
theorem sizes_low (n k a b o x p q : Int) (w : World) (hn : n < 1) :
    Calls Try.prog 5 #[.int .i64 n, opV k a b o x p q] w fun e w' => e = .returned (.bool true) ∧ Below w.heap.size w w' := by
  have hb1 : Below w.heap.size w (w.alloc (.cells #[.int .i64 k, .int .i64 a, .int .i64 b, .int .u64 o, .int .u64 x, .int .u64 p, .int .u64 q] 33)) := (Below.refl _ _).alloc (Nat.le_refl _) _
  go_enter Try.func5, Try.ntmps5
  go_wp2_with fail
  refine (new_no n _ (.inl hn)).mono ?_
  rintro e w' ⟨rfl, rfl⟩
  go_wp2_with fail
  refine (watch_nil true _).mono ?_
  rintro e w' ⟨rfl, rfl⟩
  go_wp2_with fail
  refine (do_nil k a b o x p q _).mono ?_
  rintro e w1 ⟨rfl, hb2⟩
  have hb3 := hb1.trans (hb2.mono (by simp))
  clear hb2
  go_wp2_with fail
  refine (len_nil _).mono ?_
  rintro e w' ⟨rfl, rfl⟩
  go_wp2_with fail
  refine (steps_nil _).mono ?_
  rintro e w' ⟨rfl, rfl⟩
  go_wp2_with fail
  refine (log_nil _).mono ?_
  rintro e w' ⟨rfl, rfl⟩
  go_wp2_with fail
  refine (words_nil _).mono ?_
  rintro e w' ⟨rfl, rfl⟩
  go_wp2_with fail
  refine (lives_any _).mono ?_
  rintro e w9 ⟨rfl, hb9⟩
  have hbE := hb3.trans (hb9.mono hb3.size)
  clear hb9
  go_wp2
  go_ret
  exact ⟨rfl, hbE⟩

set_option maxRecDepth 100000 in
set_option maxHeartbeats 4000000 in
theorem sizes_high (n k a b o x p q : Int) (w : World) (hn : 4096 < n) :
    Calls Try.prog 5 #[.int .i64 n, opV k a b o x p q] w fun e w' => e = .returned (.bool true) ∧ Below w.heap.size w w' := by
  have hn2 : ¬ n < 1 := by omega
  have hb1 : Below w.heap.size w (w.alloc (.cells #[.int .i64 k, .int .i64 a, .int .i64 b, .int .u64 o, .int .u64 x, .int .u64 p, .int .u64 q] 33)) := (Below.refl _ _).alloc (Nat.le_refl _) _
  go_enter Try.func5, Try.ntmps5
  go_wp2_with fail
  refine (new_no n _ (.inr hn)).mono ?_
  rintro e w' ⟨rfl, rfl⟩
  go_wp2_with fail
  refine (watch_nil true _).mono ?_
  rintro e w' ⟨rfl, rfl⟩
  go_wp2_with fail
  refine (do_nil k a b o x p q _).mono ?_
  rintro e w1 ⟨rfl, hb2⟩
  have hb3 := hb1.trans (hb2.mono (by simp))
  clear hb2
  go_wp2_with fail
  refine (len_nil _).mono ?_
  rintro e w' ⟨rfl, rfl⟩
  go_wp2_with fail
  refine (steps_nil _).mono ?_
  rintro e w' ⟨rfl, rfl⟩
  go_wp2_with fail
  refine (log_nil _).mono ?_
  rintro e w' ⟨rfl, rfl⟩
  go_wp2_with fail
  refine (words_nil _).mono ?_
  rintro e w' ⟨rfl, rfl⟩
  go_wp2_with fail
  refine (lives_any _).mono ?_
  rintro e w9 ⟨rfl, hb9⟩
  have hbE := hb3.trans (hb9.mono hb3.size)
  clear hb9
  go_wp2
  go_ret
  exact ⟨rfl, hbE⟩

set_option maxRecDepth 100000 in
set_option maxHeartbeats 4000000 in
theorem sizes_yes (n : Nat) (k a b o x p q : Int) (w : World) (h0 : 1 ≤ n) (h1 : n ≤ 4096) :
    Calls Try.prog 5 #[.int .i64 n, opV k a b o x p q] w fun e w' => e = .returned (.bool true) ∧ Below w.heap.size w w' := by
  have hn0 : (1 : Int) ≤ (n : Int) := by omega
  have hn1 : (n : Int) ≤ 4096 := by omega
  have hb1 : Below w.heap.size w (w.alloc (.cells #[.int .i64 k, .int .i64 a, .int .i64 b, .int .u64 o, .int .u64 x, .int .u64 p, .int .u64 q] 33)) := (Below.refl _ _).alloc (Nat.le_refl _) _
  have hx : Blk (w.alloc (.cells #[.int .i64 k, .int .i64 a, .int .i64 b, .int .u64 o, .int .u64 x, .int .u64 p, .int .u64 q] 33)) w.heap.size 33 #[.int .i64 k, .int .i64 a, .int .i64 b, .int .u64 o, .int .u64 x, .int .u64 p, .int .u64 q] := Blk.new _ _ _
  go_enter Try.func5, Try.ntmps5
  go_wp2_with fail
  refine (new_yes n _ h0 h1).mono ?_
  rintro e w1 ⟨rfl, hB, O, hM, hO⟩
  have hx1 : Blk w1 w.heap.size 33 _ := hx.agree (hB.block w.heap.size (by simp))
  have hbx := hb1.trans (hB.mono (by simp))
  generalize (w.alloc (.cells #[.int .i64 k, .int .i64 a, .int .i64 b, .int .u64 o, .int .u64 x, .int .u64 p, .int .u64 q] 33)).heap.size + 1 = B at *
  clear hB hb1 hx hO
  have x0 := hx1.cell 0
  have x1 := hx1.cell 1
  have x2 := hx1.cell 2
  have x3 := hx1.cell 3
  have x4 := hx1.cell 4
  have x5 := hx1.cell 5
  have x6 := hx1.cell 6
  simp at x0 x1 x2 x3 x4 x5 x6
  go_wp2_with fail
  refine (watch_nil true _).mono ?_
  rintro e w' ⟨rfl, rfl⟩
  go_wp2_with fail
  refine (do_nil k a b o x p q _).mono ?_
  rintro e w2 ⟨rfl, hb2⟩
  have hb3 := hbx.trans (hb2.mono hbx.size)
  have hM2 : MemAt B _ O w2 := hM.agree fun j hj => hb2.block j (hM.lt hj)
  clear hb2 hM x0 x1 x2 x3 x4 x5 x6 hx1 hbx
  go_wp2_with fail
  refine (len_any B _ O _ hM2 n (by simp) (by omega)).mono ?_
  rintro e w' ⟨rfl, rfl⟩
  go_wp2_with fail
  refine (len_nil _).mono ?_
  rintro e w' ⟨rfl, rfl⟩
  go_wp2_with fail
  refine (steps_nil _).mono ?_
  rintro e w' ⟨rfl, rfl⟩
  go_wp2_with fail
  refine (log_nil _).mono ?_
  rintro e w' ⟨rfl, rfl⟩
  go_wp2_with fail
  refine (words_nil _).mono ?_
  rintro e w' ⟨rfl, rfl⟩
  go_wp2_with fail
  refine (lives_any _).mono ?_
  rintro e w9 ⟨rfl, hb9⟩
  have hbE := hb3.trans (hb9.mono hb3.size)
  clear hb9
  go_wp2
  go_ret
  exact ⟨rfl, hbE⟩

theorem sizes_all (n k a b o x p q : Int) (w : World) : Calls Try.prog 5 #[.int .i64 n, opV k a b o x p q] w fun e w' => e = .returned (.bool true) ∧ Below w.heap.size w w' := by
  by_cases h0 : n < 1
  · exact sizes_low n k a b o x p q w h0
  by_cases h1 : 4096 < n
  · exact sizes_high n k a b o x p q w h1
  obtain ⟨m, rfl⟩ : ∃ m : Nat, n = m := ⟨n.toNat, by omega⟩
  exact sizes_yes m k a b o x p q w (by omega) (by omega)
end Go.Proofs.Ytdknlmaabggfaaa
