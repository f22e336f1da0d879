/- What the functions of package word, and the document's own answers beside them, return and leave. -/
import Derived.Test.YtemikojaldoofaaGreatRows
import Derived.WalkKit
import Derived.ProofKit
import Derived.OpenShut
import Derived.WalkLawsBesides
import Derived.Handy
import Derived.Lib.Hide
namespace Go.Proofs.YtemikojaldoofaaGreat.W
open Go.ChangeShapes Go.WideShapes Go.ChangeAt Go.RowKit

theorem ret_int {k : IntKind} {a b : Int} (h : a = b) : Ending.returned (.int k a) = .returned (.int k b) := by rw [h]
theorem ret_bool {a b : Bool} (h : a = b) : Ending.returned (.bool a) = .returned (.bool b) := by rw [h]
theorem and_one (x : Int) (h0 : 0 ≤ x) (h1 : x < 18446744073709551616) : bits .and .u64 x 1 = x % 2 := by
  rw [u64_and x 1 h0 h1 (by omega) (by omega)]
  have e : x.toNat &&& (1 : Int).toNat = x.toNat % 2 := nat_mask1 _
  rw [e]; omega
theorem or_parts (p v : Int) (h0 : 0 ≤ p) (h1 : p < 65536) (h2 : 0 ≤ v) (h3 : v < 140737488355328) : bits .or .u64 (p * 2) (v * 131072) = v * 131072 + p * 2 := by
  rw [u64_or _ _ (by omega) (by omega) (by omega) (by omega), nat_join17' _ _ (by omega) (by omega)]
  omega
theorem or_mark (p v : Int) (h0 : 0 ≤ p) (h1 : p < 65536) (h2 : 0 ≤ v) (h3 : v < 140737488355328) : bits .or .u64 (v * 131072 + p * 2) 1 = v * 131072 + p * 2 + 1 := by
  rw [u64_or _ _ (by omega) (by omega) (by omega) (by omega), nat_join1 _ _ (by omega) (by omega)]
  omega

set_option linter.unusedVariables false

set_option maxRecDepth 20000

/-- What has grown, and grown again, has grown. -/
theorem grown_trans {a b c : World} (h : Grown a b) (k : Grown b c) : Grown a c :=
  ⟨World.keptBut_trans h.1 k.1, fun x => (k.2.1 x).trans (h.2.1 x), Nat.le_trans h.2.2 k.2.2⟩

/-- The bit of a mark. -/
def mk (m : Bool) : Int := if m then 1 else 0
theorem mk_bd (m : Bool) : 0 ≤ mk m ∧ mk m ≤ 1 := by cases m <;> simp [mk]
theorem pack_any (p : Int) (m : Bool) (v : Int) (w : World) (h0 : 0 ≤ p) (h1 : p < 65536) (h2 : 0 ≤ v) (h3 : v < 140737488355328) :
    Calls Tryz.prog 92 #[.int .u64 p, .bool m, .int .u64 v] w fun e w' => e = .returned (.int .u64 (v * 131072 + p * 2 + mk m)) ∧ w = w' := by
  cases m
  · go_enter Tryz.func92, Tryz.ntmps92
    go_wp2
    go_ret
    exact ⟨ret_int (by rw [or_parts p v h0 h1 h2 h3]; simp [mk]), rfl⟩
  · go_enter Tryz.func92, Tryz.ntmps92
    go_wp2
    go_ret
    exact ⟨ret_int (by rw [or_parts p v h0 h1 h2 h3, or_mark p v h0 h1 h2 h3]; simp [mk]), rfl⟩
theorem fit_yes (b : Nat) (p v : Int) (w : World) (h0 : 0 ≤ p) (h1 : p < 65536) (h2 : 0 ≤ v) (h3 : v < 140737488355328) (hb : b < w.heap.size)
    (c0 : w.cell? ⟨b, 0, none⟩ = some (.int .u64 p)) (c1 : w.cell? ⟨b, 1, none⟩ = some (.int .u64 65536)) (c2 : w.cell? ⟨b, 2, none⟩ = some (.int .u64 v)) (c3 : w.cell? ⟨b, 3, none⟩ = some (.int .u64 140737488355328)) :
    Calls Tryz.prog 91 #[.slice (some ⟨b, 0, none⟩) 2 2] w fun e w' => e = .returned (.bool true) ∧ Grown w w' := by
  go_enter Tryz.func91, Tryz.ntmps91
  go_wp2
  go_rounds 3
  go_ret
  exact ⟨rfl, by repeat (first | exact Grown.refl _ | apply Grown.drew | apply Grown.alloc)⟩
theorem fit_no1 (b : Nat) (p v : Int) (w : World) (h0 : 0 ≤ p) (h1 : 65536 ≤ p) (h1b : p < 18446744073709551616) (hb : b < w.heap.size)
    (c0 : w.cell? ⟨b, 0, none⟩ = some (.int .u64 p)) (c1 : w.cell? ⟨b, 1, none⟩ = some (.int .u64 65536)) (c2 : w.cell? ⟨b, 2, none⟩ = some (.int .u64 v)) (c3 : w.cell? ⟨b, 3, none⟩ = some (.int .u64 140737488355328)) :
    Calls Tryz.prog 91 #[.slice (some ⟨b, 0, none⟩) 2 2] w fun e w' => e = .returned (.bool false) ∧ Grown w w' := by
  go_enter Tryz.func91, Tryz.ntmps91
  go_wp2
  go_rounds 1
  go_ret
  exact ⟨rfl, by repeat (first | exact Grown.refl _ | apply Grown.drew | apply Grown.alloc)⟩
theorem fit_no2 (b : Nat) (p v : Int) (w : World) (h0 : 0 ≤ p) (h1 : p < 65536) (h2 : 0 ≤ v) (h3 : 140737488355328 ≤ v) (h3b : v < 18446744073709551616) (hb : b < w.heap.size)
    (c0 : w.cell? ⟨b, 0, none⟩ = some (.int .u64 p)) (c1 : w.cell? ⟨b, 1, none⟩ = some (.int .u64 65536)) (c2 : w.cell? ⟨b, 2, none⟩ = some (.int .u64 v)) (c3 : w.cell? ⟨b, 3, none⟩ = some (.int .u64 140737488355328)) :
    Calls Tryz.prog 91 #[.slice (some ⟨b, 0, none⟩) 2 2] w fun e w' => e = .returned (.bool false) ∧ Grown w w' := by
  go_enter Tryz.func91, Tryz.ntmps91
  go_wp2
  go_rounds 2
  go_ret
  exact ⟨rfl, by repeat (first | exact Grown.refl _ | apply Grown.drew | apply Grown.alloc)⟩
theorem make_yes (p : Int) (m : Bool) (v : Int) (w : World) (h0 : 0 ≤ p) (h1 : p < 65536) (h2 : 0 ≤ v) (h3 : v < 140737488355328) :
    Calls Tryz.prog 81 #[.int .i64 p, .bool m, .int .u64 v] w fun e w' => e = .returned (.tuple #[.int .u64 (v * 131072 + p * 2 + mk m), .int .i64 0]) ∧ Grown w w' := by
  go_enter Tryz.func81, Tryz.ntmps81
  go_wp2_with fail
  refine (fit_yes _ p v _ h0 h1 h2 h3 (by simp) (by simp) (by simp) (by simp) (by simp)).mono ?_
  rintro e w1 ⟨rfl, hg⟩
  go_wp2_with (go_at_call 92; refine (pack_any _ _ _ _ h0 h1 h2 h3).mono ?_; rintro e w' ⟨rfl, rfl⟩)
  go_ret2
  exact ⟨rfl, grown_trans ((Grown.refl _).alloc _ _) hg⟩
theorem make_no1 (p : Int) (m : Bool) (v : Int) (w : World) (h0 : 65536 ≤ p) (h1 : p < 9223372036854775808) (h2 : 0 ≤ v) (h3 : v < 18446744073709551616) :
    Calls Tryz.prog 81 #[.int .i64 p, .bool m, .int .u64 v] w fun e w' => e = .returned (.tuple #[.int .u64 0, .int .i64 2]) ∧ Grown w w' := by
  go_enter Tryz.func81, Tryz.ntmps81
  go_wp2_with fail
  refine (fit_no1 _ p v _ (by omega) h0 (by omega) (by simp) (by simp) (by simp) (by simp) (by simp)).mono ?_
  rintro e w1 ⟨rfl, hg⟩
  go_wp2
  go_ret2
  exact ⟨rfl, grown_trans ((Grown.refl _).alloc _ _) hg⟩
theorem make_no2 (p : Int) (m : Bool) (v : Int) (w : World) (h0 : 0 ≤ p) (h1 : p < 65536) (h2 : 140737488355328 ≤ v) (h3 : v < 18446744073709551616) :
    Calls Tryz.prog 81 #[.int .i64 p, .bool m, .int .u64 v] w fun e w' => e = .returned (.tuple #[.int .u64 0, .int .i64 2]) ∧ Grown w w' := by
  go_enter Tryz.func81, Tryz.ntmps81
  go_wp2_with fail
  refine (fit_no2 _ p v _ h0 h1 (by omega) h2 h3 (by simp) (by simp) (by simp) (by simp) (by simp)).mono ?_
  rintro e w1 ⟨rfl, hg⟩
  go_wp2
  go_ret2
  exact ⟨rfl, grown_trans ((Grown.refl _).alloc _ _) hg⟩
theorem make_no3 (p : Int) (m : Bool) (v : Int) (w : World) (h0 : p < 0) (h1 : -9223372036854775808 ≤ p) (h2 : 0 ≤ v) (h3 : v < 18446744073709551616) :
    Calls Tryz.prog 81 #[.int .i64 p, .bool m, .int .u64 v] w fun e w' => e = .returned (.tuple #[.int .u64 0, .int .i64 2]) ∧ Grown w w' := by
  have hw : IntKind.u64.wrap p = p + 18446744073709551616 := by rw [IntKind.wrap_u64]; omega
  have HW := Lib.hid hw
  clear hw
  go_enter Tryz.func81, Tryz.ntmps81
  go_wp2_with fail
  have hw := HW.out
  refine (fit_no1 _ (IntKind.u64.wrap p) v _ (by omega) (by omega) (by omega) (by simp) (by simp) (by simp) (by simp) (by simp)).mono ?_
  rintro e w1 ⟨rfl, hg⟩
  clear hw
  go_wp2
  go_ret2
  exact ⟨rfl, grown_trans ((Grown.refl _).alloc _ _) hg⟩
theorem wrap_ptr (p : Int) (h2 : -9223372036854775808 ≤ p) (h3 : p < 9223372036854775808) : (IntKind.u64.wrap p).tmod 65536 = p % 65536 := by
  rw [IntKind.wrap_u64, tmod_of_emod]; omega
theorem wrap_rptr (p : Int) (h2 : -9223372036854775808 ≤ p) (h3 : p < 9223372036854775808) : (wrap64 (p.tmod 65536 + 65536)).tmod 65536 = p % 65536 := by
  have e : -65536 < p.tmod 65536 ∧ p.tmod 65536 < 65536 ∧ (p.tmod 65536 + 65536) % 65536 = p % 65536 := by
    by_cases h : 0 ≤ p
    · rw [Int.tmod_eq_emod_of_nonneg h]; omega
    · have k : p.tmod 65536 = -((-p) % 65536) := by
        have := Int.neg_tmod (-p) 65536
        rw [Int.neg_neg] at this
        rw [this, Int.tmod_eq_emod_of_nonneg (by omega)]
      rw [k]; omega
  have f : wrap64 (p.tmod 65536 + 65536) = p.tmod 65536 + 65536 := by unfold wrap64; omega
  rw [f, Int.tmod_eq_emod_of_nonneg (by omega)]
  exact e.2.2
end Go.Proofs.YtemikojaldoofaaGreat.W
