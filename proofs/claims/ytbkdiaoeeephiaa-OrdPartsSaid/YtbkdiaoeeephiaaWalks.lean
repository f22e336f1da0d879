/- What the functions of package ord return and leave, and that the chapter's examples hold. -/
import Derived.Test.YtbkdiaoeeephiaaRows
import Derived.WalkKit
import Derived.ProofKit
import Derived.OpenShut
import Derived.WalkLawsBesides
import Derived.Handy
import Derived.Lib.Hide
namespace Go.Proofs.Ytbkdiaoeeephiaa
open Go.ChangeShapes Go.WideShapes Go.ChangeAt Go.RowKit
set_option linter.unusedVariables false

theorem ret_int {k : IntKind} {a b : Int} (h : a = b) : Ending.returned (.int k a) = .returned (.int k b) := by rw [h]
theorem ret_bool {a b : Bool} (h : a = b) : Ending.returned (.bool a) = .returned (.bool b) := by rw [h]
theorem and_one (x : Int) (h0 : 0 ≤ x) (h1 : x < 18446744073709551616) : bits .and .u64 x 1 = x % 2 := by
  rw [u64_and x 1 h0 h1 (by omega) (by omega)]
  have e : x.toNat &&& (1 : Int).toNat = x.toNat % 2 := nat_mask1 _
  rw [e]; omega
theorem or_one (x : Int) (h0 : 0 ≤ x) (h1 : x < 18446744073709551616) : bits .or .u64 x 1 = x / 2 * 2 + 1 := by
  rw [u64_or x 1 h0 h1 (by omega) (by omega)]
  have e : x.toNat ||| (1 : Int).toNat = x.toNat / 2 * 2 + 1 := by
    have d : x.toNat = x.toNat / 2 * 2 ||| x.toNat % 2 := by
      rw [nat_join1 _ _ (by omega) (by omega)]; omega
    have f : x.toNat ||| 1 = x.toNat / 2 * 2 ||| (x.toNat % 2 ||| 1) := by
      rw [← Nat.or_assoc, ← d]
    have g : x.toNat % 2 ||| 1 = 1 := by
      rcases Nat.mod_two_eq_zero_or_one x.toNat with h | h <;> rw [h] <;> rfl
    rw [show (1 : Int).toNat = 1 from rfl, f, g, nat_join1 _ _ (by omega) (by omega)]
  rw [e]; omega
theorem or_key (k t : Int) (h0 : 0 ≤ k) (h1 : k < 4294967296) (h2 : 0 ≤ t) (h3 : t < 4294967296) : bits .or .u64 (k * 4294967296) t = k * 4294967296 + t := by
  rw [u64_or _ _ (by omega) (by omega) (by omega) (by omega), nat_join32 _ _ (by omega) (by omega)]
  omega

theorem make_any (k t : Int) (w : World) (h0 : 0 ≤ k) (h1 : k < 4294967296) (h2 : 0 ≤ t) (h3 : t < 4294967296) :
    Calls Try.prog 7 #[.int .u32 k, .int .u32 t] w fun e w' => e = .returned (.int .u64 (k * 4294967296 + t)) ∧ w = w' := by
  go_enter Try.func7, Try.ntmps7
  go_wp2
  go_ret
  exact ⟨ret_int (or_key k t h0 h1 h2 h3), rfl⟩
theorem key_any (x : Int) (w : World) (h0 : 0 ≤ x) (h1 : x < 18446744073709551616) :
    Calls Try.prog 8 #[.int .u64 x] w fun e w' => e = .returned (.int .u32 (x / 4294967296)) ∧ w = w' := by
  go_enter Try.func8, Try.ntmps8
  go_wp2
  go_ret
  exact ⟨rfl, rfl⟩
theorem ticket_any (x : Int) (w : World) (h0 : 0 ≤ x) (h1 : x < 18446744073709551616) :
    Calls Try.prog 9 #[.int .u64 x] w fun e w' => e = .returned (.int .u32 (x % 4294967296)) ∧ w = w' := by
  go_enter Try.func9, Try.ntmps9
  go_wp2
  go_ret
  exact ⟨ret_int (by first | rfl | rw [IntKind.wrap_u32]), rfl⟩
theorem bury_any (x : Int) (w : World) (h0 : 0 ≤ x) (h1 : x < 18446744073709551616) :
    Calls Try.prog 11 #[.int .u64 x] w fun e w' => e = .returned (.int .u64 (x / 2 * 2 + 1)) ∧ w = w' := by
  go_enter Try.func11, Try.ntmps11
  go_wp2
  go_ret
  exact ⟨ret_int (or_one x h0 h1), rfl⟩
/-- The bit that tells that a value is gone. -/
def mk (m : Bool) : Int := if m then 1 else 0
theorem pack_any (x : Int) (m : Bool) (w : World) (h0 : 0 ≤ x) (h1 : x < 4294967296) :
    Calls Try.prog 12 #[.int .u32 x, .bool m] w fun e w' => e = .returned (.int .u64 (x * 2 + mk m)) ∧ w = w' := by
  cases m
  · go_enter Try.func12, Try.ntmps12
    go_wp2
    go_ret
    exact ⟨ret_int (by simp [mk]), rfl⟩
  · go_enter Try.func12, Try.ntmps12
    go_wp2_with (go_at_call 11; refine (bury_any _ _ (by omega) (by omega)).mono ?_; rintro e w' ⟨rfl, rfl⟩)
    go_ret
    exact ⟨ret_int (by simp [mk]), rfl⟩
theorem val_any (x : Int) (w : World) (h0 : 0 ≤ x) (h1 : x < 18446744073709551616) :
    Calls Try.prog 13 #[.int .u64 x] w fun e w' => e = .returned (.int .u32 (x / 2 % 4294967296)) ∧ w = w' := by
  go_enter Try.func13, Try.ntmps13
  go_wp2
  go_ret
  exact ⟨ret_int (by first | rfl | rw [IntKind.wrap_u32]), rfl⟩
theorem gone_any (x : Int) (w : World) (h0 : 0 ≤ x) (h1 : x < 18446744073709551616) :
    Calls Try.prog 14 #[.int .u64 x] w fun e w' => e = .returned (.bool (x % 2 == 1)) ∧ w = w' := by
  go_enter Try.func14, Try.ntmps14
  go_wp2
  go_ret
  exact ⟨ret_bool (by
    rw [and_one x h0 h1]
    rcases Int.emod_two_eq x with h | h <;> rw [h] <;> rfl), rfl⟩
theorem lives_any (w : World) : Calls Try.prog 10 #[] w fun e w' => e = .returned (.bool true) ∧ w = w' := by
  go_enter Try.func10, Try.ntmps10
  go_wp2_with (first
    | (go_at_call 7; refine (make_any _ _ _ (by omega) (by omega) (by omega) (by omega)).mono ?_; rintro e w' ⟨rfl, rfl⟩)
    | (go_at_call 12; refine (pack_any _ _ _ (by omega) (by omega)).mono ?_; rintro e w' ⟨rfl, rfl⟩))
  go_ret
  exact ⟨ret_bool (by simp [mk]), rfl⟩

/-- x is one of the first k + 1 numbers, and none of them is below it. -/
def Low (zs : List Int) (k : Nat) (x : Int) : Prop := (∃ j : Nat, j ≤ k ∧ x = zs[j]?.getD 0) ∧ ∀ j : Nat, j ≤ k → x ≤ zs[j]?.getD 0
theorem low_0 (zs : List Int) : Low zs 0 (zs[0]?.getD 0) :=
  ⟨⟨0, by omega, rfl⟩, fun j hj => by obtain rfl : j = 0 := by omega
                                      exact Int.le_refl _⟩
theorem low_new {zs : List Int} {k : Nat} {x : Int} (h : Low zs k x) (hl : zs[k + 1]?.getD 0 < x) : Low zs (k + 1) (zs[k + 1]?.getD 0) := by
  refine ⟨⟨k + 1, by omega, rfl⟩, fun j hj => ?_⟩
  by_cases e : j = k + 1
  · subst e; exact Int.le_refl _
  · have := h.2 j (by omega); omega
theorem low_old {zs : List Int} {k : Nat} {x : Int} (h : Low zs k x) (hl : ¬ zs[k + 1]?.getD 0 < x) : Low zs (k + 1) x := by
  obtain ⟨⟨i, hi, e⟩, g⟩ := h
  refine ⟨⟨i, by omega, e⟩, fun j hj => ?_⟩
  by_cases e : j = k + 1
  · subst e; omega
  · exact g j (by omega)

theorem least_none (a : Option Addr) (cap : Nat) (w : World) :
    Calls Try.prog 16 #[.slice a 0 cap] w fun e w' => e = .returned (.tuple #[.int .u64 0, .bool false]) ∧ w = w' := by
  go_enter Try.func16, Try.ntmps16
  go_wp2
  go_ret2
  exact ⟨rfl, rfl⟩
theorem least_one (b off : Nat) (zs : List Int) (w : World)
    (c0 : w.cell? ⟨b, off, none⟩ = some (.int .u64 (zs[0]?.getD 0))) :
    Calls Try.prog 16 #[.slice (some ⟨b, off, none⟩) 1 1] w fun e w' => e = .returned (.tuple #[.int .u64 (zs[0]?.getD 0), .bool true]) ∧ w = w' := by
  go_enter Try.func16, Try.ntmps16
  go_wp2
  go_rounds 1
  go_ret2
  exact ⟨rfl, rfl⟩
theorem least_more (b off len cap : Nat) (zs : List Int) (w : World) (hl : 0 < len) (hc : len ≤ cap) (hp : 1 < cap) (hm : cap ≤ 9223372036854775807)
    (cell : ∀ i : Nat, i < len → w.cell? ⟨b, off + i, none⟩ = some (.int .u64 (zs[i]?.getD 0))) :
    Calls Try.prog 16 #[.slice (some ⟨b, off, none⟩) len cap] w fun e w' => (∃ x, Low zs (len - 1) x ∧ e = .returned (.tuple #[.int .u64 x, .bool true])) ∧ w = w' := by
  have c0 : w.cell? ⟨b, off, none⟩ = some (.int .u64 (zs[0]?.getD 0)) := cell 0 hl
  have cellL := Lib.hid cell
  clear cell
  go_enter Try.func16, Try.ntmps16
  go_wp2
  go_loop [5, 7, 18] (fun m n i => ∃ (k : Nat) (x : Int), k + 1 ≤ len ∧ i = .int .i64 k ∧ m = .int .u64 x ∧ Low zs k x) (fun _ _ i => len - (intOf i).toNat)
  case atStart => exact ⟨0, _, by omega, rfl, rfl, low_0 zs⟩
  case round =>
    obtain ⟨k, x, hk, rfl, rfl, hx⟩ := hrel
    have hcell : k < len - 1 → w.cell? ⟨b, off + 1 + k, none⟩ = some (.int .u64 (zs[k + 1]?.getD 0)) := fun h => by
      have := cellL.out (k + 1) (by omega)
      rw [show off + 1 + k = off + (k + 1) by omega]; exact this
    go_wp2
    · go_round
      case rel => exact ⟨k + 1, _, by omega, by go_num, rfl, low_new hx (by assumption)⟩
      case measure => simp [intOf]; omega
    · go_round
      case rel => exact ⟨k + 1, _, by omega, by go_num, rfl, low_old hx (by omega)⟩
      case measure => simp [intOf]; omega
    · have hk' : len - 1 = k := by omega
      go_ret2
      exact ⟨⟨x, by rw [hk']; exact hx, rfl⟩, rfl⟩
theorem Least_none (a : Option Addr) (cap : Nat) (w : World) :
    Calls Try.prog 15 #[.slice a 0 cap] w fun e w' => e = .returned (.tuple #[.int .u64 0, .bool false]) ∧ w = w' := by
  go_enter Try.func15, Try.ntmps15
  go_wp2_with (go_at_call 16; refine (least_none _ _ _).mono ?_; rintro e w' ⟨rfl, rfl⟩)
  go_ret2
  exact ⟨rfl, rfl⟩
theorem least_some (b off len cap : Nat) (zs : List Int) (w : World) (hl : 0 < len) (hc : len ≤ cap) (hm : cap ≤ 9223372036854775807)
    (cell : ∀ i : Nat, i < len → w.cell? ⟨b, off + i, none⟩ = some (.int .u64 (zs[i]?.getD 0))) :
    Calls Try.prog 16 #[.slice (some ⟨b, off, none⟩) len cap] w fun e w' => (∃ x, Low zs (len - 1) x ∧ e = .returned (.tuple #[.int .u64 x, .bool true])) ∧ w = w' := by
  by_cases hp : 1 < cap
  · exact least_more b off len cap zs w hl hc hp hm cell
  · obtain rfl : cap = 1 := by omega
    obtain rfl : len = 1 := by omega
    refine (least_one b off zs w (cell 0 hl)).mono ?_
    rintro e w' ⟨rfl, rfl⟩
    exact ⟨⟨_, low_0 zs, rfl⟩, rfl⟩
theorem Least_some (b off len cap : Nat) (zs : List Int) (w : World) (hl : 0 < len) (hc : len ≤ cap) (hm : cap ≤ 9223372036854775807)
    (cell : ∀ i : Nat, i < len → w.cell? ⟨b, off + i, none⟩ = some (.int .u64 (zs[i]?.getD 0))) :
    Calls Try.prog 15 #[.slice (some ⟨b, off, none⟩) len cap] w fun e w' => (∃ x, Low zs (len - 1) x ∧ e = .returned (.tuple #[.int .u64 x, .bool true])) ∧ w = w' := by
  have cellL := Lib.hid cell
  clear cell
  go_enter Try.func15, Try.ntmps15
  go_wp2_with fail
  refine (least_some b off len cap zs _ hl hc hm cellL.out).mono ?_
  rintro e w' ⟨⟨x, hx, rfl⟩, rfl⟩
  go_wp2
  go_ret2
  exact ⟨⟨x, hx, rfl⟩, rfl⟩
end Go.Proofs.Ytbkdiaoeeephiaa
