/- Each of three laws on package ord returns true, whatever its arguments (the law on the order of numbers: in a text of its own). -/
import Derived.Test.YtbkdiaoeeephiaaWalks
namespace Go.Proofs.Ytbkdiaoeeephiaa
open Go.ChangeShapes Go.WideShapes Go.ChangeAt Go.RowKit
set_option linter.unusedVariables false

theorem bd_u64 {a : Int} (h : (Lit.int .u64 a).wf = true) : 0 ≤ a ∧ a < 18446744073709551616 := by
  simp [Lit.wf, IntKind.min, IntKind.max, IntKind.signed, IntKind.bits] at h; omega
theorem bd_u32 {a : Int} (h : (Lit.int .u32 a).wf = true) : 0 ≤ a ∧ a < 4294967296 := by
  simp [Lit.wf, IntKind.min, IntKind.max, IntKind.signed, IntKind.bits] at h; omega

theorem parts_all (k t n : Int) (hk : (Lit.int .u32 k).wf = true) (ht : (Lit.int .u32 t).wf = true) (hn : (Lit.int .u64 n).wf = true) (w : World) :
    Calls Try.prog 3 #[.int .u32 k, .int .u32 t, .int .u64 n] w fun e w' => e = .returned (.bool true) ∧ Grown w w' := by
  obtain ⟨a, b⟩ := bd_u32 hk
  obtain ⟨c, d⟩ := bd_u32 ht
  obtain ⟨f, g⟩ := bd_u64 hn
  clear hk ht hn
  go_enter Try.func3, Try.ntmps3
  go_wp2_with (first
    | (go_at_call 7; refine (make_any _ _ _ a b c d).mono ?_; rintro e w' ⟨rfl, rfl⟩)
    | (go_at_call 8; refine (key_any _ _ f g).mono ?_; rintro e w' ⟨rfl, rfl⟩)
    | (go_at_call 9; refine (ticket_any _ _ f g).mono ?_; rintro e w' ⟨rfl, rfl⟩)
    | (go_at_call 10; refine (lives_any _).mono ?_; rintro e w' ⟨rfl, rfl⟩))
  go_ret
  exact ⟨rfl, Grown.refl _⟩
theorem vals_all (x : Int) (m : Bool) (n : Int) (hx : (Lit.int .u32 x).wf = true) (hn : (Lit.int .u64 n).wf = true) (w : World) :
    Calls Try.prog 4 #[.int .u32 x, .bool m, .int .u64 n] w fun e w' => e = .returned (.bool true) ∧ Grown w w' := by
  obtain ⟨a, b⟩ := bd_u32 hx
  obtain ⟨f, g⟩ := bd_u64 hn
  clear hx hn
  have e0 : mk false = 0 := rfl
  have e1 : mk true = 1 := rfl
  cases m
  all_goals
    go_enter Try.func4, Try.ntmps4
    go_wp2_with (first
      | (go_at_call 12; refine (pack_any _ _ _ a b).mono ?_; rintro e w' ⟨rfl, rfl⟩)
      | (go_at_call 11; refine (bury_any _ _ f g).mono ?_; rintro e w' ⟨rfl, rfl⟩)
      | (go_at_call 13; refine (val_any _ _ (by omega) (by omega)).mono ?_; rintro e w' ⟨rfl, rfl⟩)
      | (go_at_call 14; refine (gone_any _ _ (by omega) (by omega)).mono ?_; rintro e w' ⟨rfl, rfl⟩)
      | (go_at_call 10; refine (lives_any _).mono ?_; rintro e w' ⟨rfl, rfl⟩))
    go_ret
    exact ⟨rfl, Grown.refl _⟩
theorem least0_all (a : Option Addr) (cap : Nat) (w : World) :
    Calls Try.prog 5 #[.slice a 0 cap] w fun e w' => e = .returned (.bool true) ∧ w = w' := by
  go_enter Try.func5, Try.ntmps5
  go_wp2_with (first
    | (go_at_call 15; refine (Least_none _ _ _).mono ?_; rintro e w' ⟨rfl, rfl⟩)
    | (go_at_call 10; refine (lives_any _).mono ?_; rintro e w' ⟨rfl, rfl⟩))
  go_ret
  exact ⟨rfl, rfl⟩
theorem least1_all (b off len cap : Nat) (zs : List Int) (w : World) (hl : 0 < len) (hc : len ≤ cap) (hm : cap ≤ 9223372036854775807)
    (cell : ∀ i : Nat, i < len → w.cell? ⟨b, off + i, none⟩ = some (.int .u64 (zs[i]?.getD 0))) :
    Calls Try.prog 5 #[.slice (some ⟨b, off, none⟩) len cap] w fun e w' => e = .returned (.bool true) ∧ w = w' := by
  have cellL := Lib.hid cell
  clear cell
  go_enter Try.func5, Try.ntmps5
  go_wp2_with fail
  refine (Least_some b off len cap zs _ hl hc hm cellL.out).mono ?_
  rintro e w' ⟨⟨x, hx, rfl⟩, rfl⟩
  go_wp2
  go_loop [5, 6] (fun t i => ∃ (k : Nat) (tt : Bool), k ≤ len ∧ i = .int .i64 k ∧ t = .bool tt ∧ ∀ j : Nat, j < k → x = zs[j]?.getD 0 → tt = true) (fun _ i => len - (intOf i).toNat)
  case atStart => exact ⟨0, _, by omega, rfl, rfl, fun j hj => by omega⟩
  case round =>
    obtain ⟨k, tt, hk, rfl, rfl, ht⟩ := hrel
    have hcell : k < len → w.cell? ⟨b, off + k, none⟩ = some (.int .u64 (zs[k]?.getD 0)) := fun h => cellL.out k h
    have hlow : k < len → ¬ zs[k]?.getD 0 < x := fun h => by have := hx.2 k (by omega); omega
    have HT := Lib.hid ht
    have HX := Lib.hid hx
    clear ht hx
    cases tt
    all_goals go_wp2_with (go_at_call 10; refine (lives_any _).mono ?_; rintro e w' ⟨rfl, rfl⟩)
    · go_round
      case rel =>
        refine ⟨k + 1, _, by omega, by go_num, rfl, fun j hj e => ?_⟩
        by_cases hj' : j = k
        · subst hj'; simp [e]
        · exact absurd (HT.out j (by omega) e) (by simp)
      case measure => simp [intOf]; omega
    · obtain ⟨⟨j, hj, e⟩, _⟩ := HX.out
      exact absurd (HT.out j (by omega) e) (by simp)
    · go_round
      case rel => exact ⟨k + 1, _, by omega, by go_num, rfl, fun j hj e => rfl⟩
      case measure => simp [intOf]; omega
    · go_ret
      exact ⟨rfl, rfl⟩
end Go.Proofs.Ytbkdiaoeeephiaa
