/- What lowOnes, ones, Level, Clone, New and lives do. -/
import Derived.Test.YtemikojaldoofaaGreatFBase
namespace Go.Proofs.YtemikojaldoofaaGreat.F
open Go.ChangeShapes Go.WideShapes Go.ChangeAt Go.RowKit
set_option linter.unusedVariables false

set_option maxRecDepth 20000


/-- How many of the k lowest bits of c are 1, below the lowest 0. -/
def low : Nat → Nat → Nat
  | 0, _ => 0
  | k + 1, c => if c % 2 = 1 then low k (c / 2) + 1 else 0
theorem low_le (k c : Nat) : low k c ≤ k := by
  induction k generalizing c with
  | zero => simp [low]
  | succ k ih =>
    unfold low
    have := ih (c / 2)
    split <;> omega
theorem half (c i : Nat) : c / 2 ^ i / 2 = c / 2 ^ (i + 1) := by
  rw [Nat.div_div_eq_div_mul, Nat.pow_succ]
theorem low_on {c i : Nat} (hi : i < 8) (h : c / 2 ^ i % 2 = 1) (e : i + low (8 - i) (c / 2 ^ i) = low 8 c) : (i + 1) + low (8 - (i + 1)) (c / 2 ^ (i + 1)) = low 8 c := by
  rw [← e]
  have : 8 - i = (8 - (i + 1)) + 1 := by omega
  rw [this]
  simp only [low, h, if_true, half]
  omega
theorem low_off {c i : Nat} (hi : i < 8) (h : ¬ c / 2 ^ i % 2 = 1) (e : i + low (8 - i) (c / 2 ^ i) = low 8 c) : low 8 c = i := by
  rw [← e]
  have : 8 - i = (8 - (i + 1)) + 1 := by omega
  rw [this]
  simp [low, h]
theorem low_end {c i : Nat} (hi : i = 8) (e : i + low (8 - i) (c / 2 ^ i) = low 8 c) : low 8 c = 8 := by
  subst hi
  simpa [low] using e.symm

theorem and_one : ∀ x : Fin 256, bits .and .u8 ((x.val : Nat) : Int) 1 = ((x.val % 2 : Nat) : Int) := by decide +kernel
theorem and_one' (c k : Nat) (hc : c < 256) : bits .and .u8 ((c : Int) / 2 ^ k) 1 = ((c / 2 ^ k % 2 : Nat) : Int) := by
  have h : c / 2 ^ k < 256 := Nat.lt_of_le_of_lt (Nat.div_le_self _ _) hc
  have := and_one ⟨c / 2 ^ k, h⟩
  simpa using this
/-! ### Level -/
/-- The level of a byte, at most m. -/
def lev (c : Int) (m : Int) : Int := if m < 1 + ((low 8 c.toNat : Nat) : Int) then m else 1 + ((low 8 c.toNat : Nat) : Int)
theorem min_lev (c m : Int) (w : World) : (Builtin.min_ #[3, 3] 3 #[.int .i64 (1 + ((low 8 c.toNat : Nat) : Int)), .int .i64 m]).run Tryz.prog w = .ok (.int .i64 (lev c m)) w := by
  unfold lev
  simp [Builtin.min_, Builtin.min2]
theorem lev_zero (m : Int) (h : 1 ≤ m) : lev 0 m = 1 := by
  have : low 8 0 = 0 := rfl
  simp only [lev, Int.toNat_zero, this]
  split <;> omega
end Go.Proofs.YtemikojaldoofaaGreat.F
