/- Each of the four laws on package word returns true, whatever its arguments; it only lays new memory. -/
import Derived.Test.YtffefndomkcjpaaWalks
namespace Go.Proofs.Ytffefndomkcjpaa
open Go.ChangeShapes Go.WideShapes Go.ChangeAt Go.RowKit
set_option linter.unusedVariables false

theorem bd_u64 {a : Int} (h : (Lit.int .u64 a).wf = true) : 0 ≤ a ∧ a < 18446744073709551616 := by
  simp [Lit.wf, IntKind.min, IntKind.max, IntKind.signed, IntKind.bits] at h; omega
theorem bd_i64 {a : Int} (h : (Lit.int .i64 a).wf = true) : -9223372036854775808 ≤ a ∧ a < 9223372036854775808 := by
  simp [Lit.wf, IntKind.min, IntKind.max, IntKind.signed, IntKind.bits] at h; omega
theorem bd_u16 {a : Int} (h : (Lit.int .u16 a).wf = true) : 0 ≤ a ∧ a < 65536 := by
  simp [Lit.wf, IntKind.min, IntKind.max, IntKind.signed, IntKind.bits] at h; omega

theorem makes_yes (p : Int) (m : Bool) (v : Int) (w : World) (h0 : 0 ≤ p) (h1 : p < 65536) (h2 : 0 ≤ v) (h3 : v < 140737488355328) :
    Calls Try.prog 3 #[.int .i64 p, .bool m, .int .u64 v] w fun e w' => e = .returned (.bool true) ∧ Grown w w' := by
  go_enter Try.func3, Try.ntmps3
  go_wp2_with (go_at_call 7; refine (make_yes _ _ _ _ h0 h1 h2 h3).mono ?_; rintro e w1 ⟨rfl, hg⟩)
  go_wp2_with (go_at_call 8; refine (rmake_yes _ _ _ _ h0 h1 h2 h3).mono ?_; rintro e w' ⟨rfl, rfl⟩)
  refine (lives_any _).mono ?_
  rintro e w2 ⟨rfl, hl⟩
  go_wp2
  go_ret
  exact ⟨rfl, grown_trans hg hl⟩
theorem makes_no1 (p : Int) (m : Bool) (v : Int) (w : World) (h0 : 65536 ≤ p) (h1 : p < 9223372036854775808) (h2 : 0 ≤ v) (h3 : v < 18446744073709551616) :
    Calls Try.prog 3 #[.int .i64 p, .bool m, .int .u64 v] w fun e w' => e = .returned (.bool true) ∧ Grown w w' := by
  go_enter Try.func3, Try.ntmps3
  go_wp2_with (go_at_call 7; refine (make_no1 _ _ _ _ h0 h1 h2 h3).mono ?_; rintro e w1 ⟨rfl, hg⟩)
  go_wp2_with (go_at_call 8; refine (rmake_no _ _ _ _ (Or.inr (Or.inl h0)) h2 h3).mono ?_; rintro e w' ⟨rfl, rfl⟩)
  refine (lives_any _).mono ?_
  rintro e w2 ⟨rfl, hl⟩
  go_wp2
  go_ret
  exact ⟨rfl, grown_trans hg hl⟩
theorem makes_no2 (p : Int) (m : Bool) (v : Int) (w : World) (h0 : 0 ≤ p) (h1 : p < 65536) (h2 : 140737488355328 ≤ v) (h3 : v < 18446744073709551616) :
    Calls Try.prog 3 #[.int .i64 p, .bool m, .int .u64 v] w fun e w' => e = .returned (.bool true) ∧ Grown w w' := by
  go_enter Try.func3, Try.ntmps3
  go_wp2_with (go_at_call 7; refine (make_no2 _ _ _ _ h0 h1 h2 h3).mono ?_; rintro e w1 ⟨rfl, hg⟩)
  go_wp2_with (go_at_call 8; refine (rmake_no _ _ _ _ (Or.inr (Or.inr h2)) (by omega) h3).mono ?_; rintro e w' ⟨rfl, rfl⟩)
  refine (lives_any _).mono ?_
  rintro e w2 ⟨rfl, hl⟩
  go_wp2
  go_ret
  exact ⟨rfl, grown_trans hg hl⟩
theorem makes_no3 (p : Int) (m : Bool) (v : Int) (w : World) (h0 : p < 0) (h1 : -9223372036854775808 ≤ p) (h2 : 0 ≤ v) (h3 : v < 18446744073709551616) :
    Calls Try.prog 3 #[.int .i64 p, .bool m, .int .u64 v] w fun e w' => e = .returned (.bool true) ∧ Grown w w' := by
  go_enter Try.func3, Try.ntmps3
  go_wp2_with (go_at_call 7; refine (make_no3 _ _ _ _ h0 h1 h2 h3).mono ?_; rintro e w1 ⟨rfl, hg⟩)
  go_wp2_with (go_at_call 8; refine (rmake_no _ _ _ _ (Or.inl h0) h2 h3).mono ?_; rintro e w' ⟨rfl, rfl⟩)
  refine (lives_any _).mono ?_
  rintro e w2 ⟨rfl, hl⟩
  go_wp2
  go_ret
  exact ⟨rfl, grown_trans hg hl⟩
theorem makes_all (p : Int) (m : Bool) (v : Int) (hp : (Lit.int .i64 p).wf = true) (hv : (Lit.int .u64 v).wf = true) (w : World) :
    Calls Try.prog 3 #[.int .i64 p, .bool m, .int .u64 v] w fun e w' => e = .returned (.bool true) ∧ Grown w w' := by
  obtain ⟨a, b⟩ := bd_i64 hp
  obtain ⟨c, d⟩ := bd_u64 hv
  by_cases h0 : p < 0
  · exact makes_no3 p m v w h0 a c d
  · by_cases h1 : 65536 ≤ p
    · exact makes_no1 p m v w h1 b c d
    · by_cases h2 : 140737488355328 ≤ v
      · exact makes_no2 p m v w (by omega) (by omega) h2 d
      · exact makes_yes p m v w (by omega) (by omega) c (by omega)
theorem parts_all (x : Int) (hx : (Lit.int .u64 x).wf = true) (w : World) :
    Calls Try.prog 4 #[.int .u64 x] w fun e w' => e = .returned (.bool true) ∧ Grown w w' := by
  obtain ⟨h0, h1⟩ := bd_u64 hx
  clear hx
  go_enter Try.func4, Try.ntmps4
  go_wp2_with (first | (go_at_call 10; refine (ptr_any _ _ h0 h1).mono ?_; rintro e w' ⟨rfl, rfl⟩) | (go_at_call 11; refine (rptr_any _ _ h0 h1).mono ?_; rintro e w' ⟨rfl, rfl⟩) | (go_at_call 12; refine (mark_any _ _ h0 h1).mono ?_; rintro e w' ⟨rfl, rfl⟩) | (go_at_call 13; refine (rmark_any _ _ h0 h1).mono ?_; rintro e w' ⟨rfl, rfl⟩) | (go_at_call 14; refine (ver_any _ _ h0 h1).mono ?_; rintro e w' ⟨rfl, rfl⟩) | (go_at_call 15; refine (rver_any _ _ h0 h1).mono ?_; rintro e w' ⟨rfl, rfl⟩))
  refine (lives_any _).mono ?_
  rintro e w2 ⟨rfl, hl⟩
  go_wp2
  go_ret
  exact ⟨rfl, hl⟩

/-- The word behind x, with the pointer p and the mark m. -/
def nx (x p : Int) (m : Bool) : Int := (x / 131072 + 1) % 140737488355328 * 131072 + p % 65536 * 2 + mk m
theorem nx_bd (x p : Int) (m : Bool) : 0 ≤ nx x p m ∧ nx x p m < 18446744073709551616 := by
  have := mk_bd m; unfold nx; omega
theorem nx_ver (x p : Int) (m : Bool) : nx x p m / 131072 = (x / 131072 + 1) % 140737488355328 := by
  have := mk_bd m; unfold nx; omega
theorem nx_ptr (x p : Int) (m : Bool) : nx x p m / 2 % 65536 = p % 65536 := by
  have := mk_bd m; unfold nx; omega
theorem nx_mark (x p : Int) (m : Bool) : (nx x p m % 2 == 1) = m := by
  unfold nx; cases m <;> simp [mk] <;> omega
theorem nx_other (x p : Int) (m : Bool) (h0 : 0 ≤ x) (h1 : x < 18446744073709551616) : nx x p m ≠ x := by
  intro h; have := nx_ver x p m; rw [h] at this; omega
theorem nx_other2 (x p q : Int) (m n : Bool) (h0 : 0 ≤ x) (h1 : x < 18446744073709551616) : nx (nx x p m) q n ≠ x := by
  intro h; have := nx_ver (nx x p m) q n; have := nx_ver x p m; rw [h] at *; omega
theorem back (x : Int) (h0 : 0 ≤ x) : x / 131072 * 131072 + x / 2 % 65536 * 2 + mk (x % 2 == 1) = x := by
  by_cases h : x % 2 = 1
  · simp [mk, h]; omega
  · simp [mk, h]; omega
theorem next_nx (x p : Int) (m : Bool) (w : World) (h0 : 0 ≤ x) (h1 : x < 18446744073709551616) (h2 : -9223372036854775808 ≤ p) (h3 : p < 9223372036854775808) :
    Calls Try.prog 16 #[.int .u64 x, .int .i64 p, .bool m] w fun e w' => e = .returned (.int .u64 (nx x p m)) ∧ w = w' := next_any x p m w h0 h1 h2 h3
theorem rnext_nx (x p : Int) (m : Bool) (w : World) (h0 : 0 ≤ x) (h1 : x < 18446744073709551616) (h2 : -9223372036854775808 ≤ p) (h3 : p < 9223372036854775808) :
    Calls Try.prog 17 #[.int .u64 x, .int .i64 p, .bool m] w fun e w' => e = .returned (.int .u64 (nx x p m)) ∧ w = w' := rnext_any x p m w h0 h1 h2 h3
theorem marked_nx (x : Int) (w : World) (h0 : 0 ≤ x) (h1 : x < 18446744073709551616) :
    Calls Try.prog 18 #[.int .u64 x] w fun e w' => e = .returned (.int .u64 (nx x (x / 2 % 65536) true)) ∧ w = w' :=
  (marked_any x w h0 h1).mono fun e w' ⟨he, hw⟩ => ⟨he.trans (ret_int (by unfold nx mk; simp)), hw⟩
theorem make_back (x : Int) (w : World) (h0 : 0 ≤ x) (h1 : x < 18446744073709551616) :
    Calls Try.prog 7 #[.int .i64 (x / 2 % 65536), .bool (x % 2 == 1), .int .u64 (x / 131072)] w fun e w' => e = .returned (.tuple #[.int .u64 x, .int .i64 0]) ∧ Grown w w' :=
  (make_yes _ _ _ w (by omega) (by omega) (by omega) (by omega)).mono fun e w' ⟨he, hw⟩ => ⟨he.trans (by rw [back x h0]), hw⟩
theorem ptr_nx (x p : Int) (m : Bool) (w : World) (h0 : 0 ≤ p) (h1 : p < 65536) :
    Calls Try.prog 10 #[.int .u64 (nx x p m)] w fun e w' => e = .returned (.int .i64 p) ∧ w = w' :=
  (ptr_any _ w (nx_bd x p m).1 (nx_bd x p m).2).mono fun e w' ⟨he, hw⟩ => ⟨he.trans (ret_int (by rw [nx_ptr]; omega)), hw⟩
theorem mark_nx (x p : Int) (m : Bool) (w : World) :
    Calls Try.prog 12 #[.int .u64 (nx x p m)] w fun e w' => e = .returned (.bool m) ∧ w = w' :=
  (mark_any _ w (nx_bd x p m).1 (nx_bd x p m).2).mono fun e w' ⟨he, hw⟩ => ⟨he.trans (ret_bool (nx_mark x p m)), hw⟩

theorem nexts_all (x p : Int) (m : Bool) (hx : (Lit.int .u64 x).wf = true) (hp : (Lit.int .i64 p).wf = true) (w : World) :
    Calls Try.prog 5 #[.int .u64 x, .int .i64 p, .bool m] w fun e w' => e = .returned (.bool true) ∧ Grown w w' := by
  obtain ⟨h0, h1⟩ := bd_u64 hx
  obtain ⟨h2, h3⟩ := bd_i64 hp
  clear hx hp
  go_enter Try.func5, Try.ntmps5
  go_wp2_with (first | (go_at_call 16; refine (next_nx _ _ _ _ h0 h1 h2 h3).mono ?_; rintro e w' ⟨rfl, rfl⟩) | (go_at_call 18; refine (marked_nx _ _ h0 h1).mono ?_; rintro e w' ⟨rfl, rfl⟩) | (go_at_call 11; refine (rptr_any _ _ h0 h1).mono ?_; rintro e w' ⟨rfl, rfl⟩) | (go_at_call 17; refine (rnext_nx _ _ _ _ h0 h1 (by omega) (by omega)).mono ?_; rintro e w' ⟨rfl, rfl⟩))
  refine (lives_any _).mono ?_
  rintro e w2 ⟨rfl, hl⟩
  go_wp2
  go_ret
  exact ⟨rfl, hl⟩
theorem back_all (x p : Int) (m : Bool) (hx : (Lit.int .u64 x).wf = true) (hp : (Lit.int .u16 p).wf = true) (w : World) :
    Calls Try.prog 6 #[.int .u64 x, .int .u16 p, .bool m] w fun e w' => e = .returned (.bool true) ∧ Grown w w' := by
  obtain ⟨h0, h1⟩ := bd_u64 hx
  obtain ⟨h2, h3⟩ := bd_u16 hp
  have b1 := nx_bd x p m
  have n1 : (nx x p m != x) = true := by simpa using nx_other x p m h0 h1
  have n2 : (nx (nx x p m) (x / 2 % 65536) (x % 2 == 1) != x) = true := by simpa using nx_other2 x p (x / 2 % 65536) m (x % 2 == 1) h0 h1
  clear hx hp
  go_enter Try.func6, Try.ntmps6
  go_wp2_with (first | (go_at_call 10; refine (ptr_any _ _ h0 h1).mono ?_; rintro e w' ⟨rfl, rfl⟩) | (go_at_call 12; refine (mark_any _ _ h0 h1).mono ?_; rintro e w' ⟨rfl, rfl⟩) | (go_at_call 14; refine (ver_any _ _ h0 h1).mono ?_; rintro e w' ⟨rfl, rfl⟩))
  refine (make_back x _ h0 h1).mono ?_
  rintro e w1 ⟨rfl, hg⟩
  go_wp2_with (first | (go_at_call 16; refine (next_nx _ _ _ _ (by omega) (by omega) (by omega) (by omega)).mono ?_; rintro e w' ⟨rfl, rfl⟩) | (go_at_call 10; (first | (with_reducible refine (ptr_nx _ _ _ _ ?_ ?_).mono ?_) | (with_reducible refine (ptr_any x _ h0 h1).mono ?_)); (try any_goals omega); rintro e w' ⟨rfl, rfl⟩) | (go_at_call 12; (first | (with_reducible refine (mark_nx _ _ _ _).mono ?_) | (with_reducible refine (mark_any x _ h0 h1).mono ?_)); rintro e w' ⟨rfl, rfl⟩) | (go_at_call 18; refine (marked_nx _ _ h0 h1).mono ?_; rintro e w' ⟨rfl, rfl⟩))
  refine (lives_any _).mono ?_
  rintro e w2 ⟨rfl, hl⟩
  go_wp2
  go_ret
  exact ⟨rfl, grown_trans hg hl⟩
end Go.Proofs.Ytffefndomkcjpaa
