/- The search, and what stands ahead. -/
import Derived.Test.YtjmejdalmglehaaData
import Derived.Shelf.Abstract
namespace Go.Proofs.Ytjmejdalmglehaa
open Go.ChangeShapes Go.WideShapes Go.ChangeAt Go.RowKit
set_option linter.unusedVariables false

set_option maxRecDepth 100000 in
theorem search_any (n c : Nat) (cb : Array Value) (w : World) (hn : n < 4611686018427387904) (hc : c ≤ n)
    (hf : ∀ V (i : Nat), Below w.heap.size w V → i < n → Calls Try.prog 37 (#[.int .i64 i] ++ cb) V fun e V' => e = .returned (.bool (decide (c ≤ i))) ∧ Below V.heap.size V V') :
    Calls Try.prog 36 #[.int .i64 n, .func (.func 37) #[] cb] w fun e w' => e = .returned (.int .i64 c) ∧ Below w.heap.size w w' := by
  have eg : ∀ args w, (callFunc 37 args).run Try.prog w = .ok (.enter 37 args) w := enters_of Try.func37 (by kernel_rfl) rfl
  have HF := Lib.hid hf
  clear hf
  go_enter Try.func36, Try.ntmps36
  go_wp2_with fail
  go_loopw [5, 6] (fun s5 s6 W => ∃ lo hi : Nat, s5 = .int .i64 lo ∧ s6 = .int .i64 hi ∧ lo ≤ hi ∧ hi ≤ n ∧ lo ≤ c ∧ c ≤ hi ∧ Hid (Below w.heap.size w W)) (fun s5 s6 _ => (intOf s6 - intOf s5).toNat)
  case atStart => exact ⟨0, n, rfl, rfl, Nat.zero_le _, Nat.le_refl _, Nat.zero_le _, hc, Lib.hid (Below.refl _ _)⟩
  case round =>
    obtain ⟨lo, hi, rfl, rfl, hlh, hin, h1, h2, HB⟩ := hrel
    by_cases hlt : lo < hi
    · have HC := HF.out wr ((lo + hi) / 2) HB.out (by omega)
      rw [show (((lo + hi) / 2 : Nat) : Int) = ((lo : Int) + (hi : Int)) / 2 by omega] at HC
      by_cases hd : c ≤ (lo + hi) / 2
      · rw [decide_eq_true hd] at HC
        go_wp2_with (go_at_fn 37; refine HC.mono ?_; rintro e w' ⟨rfl, hb⟩)
        have HB2 := Lib.hid (below_then HB.out hb)
        go_roundw
        case rel => exact ⟨lo, (lo + hi) / 2, rfl, by rw [show ((lo : Int) + (hi : Int)) / 2 = (((lo + hi) / 2 : Nat) : Int) by omega], by omega, by omega, by omega, by omega, HB2⟩
        case measure => simp [intOf]; omega
      · rw [decide_eq_false hd] at HC
        go_wp2_with (go_at_fn 37; refine HC.mono ?_; rintro e w' ⟨rfl, hb⟩)
        have HB2 := Lib.hid (below_then HB.out hb)
        go_roundw
        case rel => exact ⟨(lo + hi) / 2 + 1, hi, by rw [show ((lo : Int) + (hi : Int)) / 2 + 1 = (((lo + hi) / 2 + 1 : Nat) : Int) by omega], rfl, by omega, by omega, by omega, by omega, HB2⟩
        case measure => simp [intOf]; omega
    · obtain rfl : hi = lo := by omega
      obtain rfl : c = hi := by omega
      go_wp2
      go_ret
      exact ⟨rfl, HB.out⟩
end Go.Proofs.Ytjmejdalmglehaa
