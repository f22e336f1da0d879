/- What lowOnes, ones, Level, Clone, New and lives do. -/
import Derived.Test.YtnghbdokehfjgaaBase
namespace Go.Proofs.Ytnghbdokehfjgaa
open Go.ChangeShapes Go.WideShapes Go.ChangeAt Go.RowKit
set_option linter.unusedVariables false

/-- How many of the k lowest bits of c are 1, below the lowest 0. -/
def low : Nat → Nat → Nat
  | 0, _ => 0
  | k + 1, c => if c % 2 = 1 then low k (c / 2) + 1 else 0
theorem low_le (k c : Nat) : low k c ≤ k := by
  induction k generalizing c with
  | zero => simp [low]
  | succ k ih =>
    unfold low
    have := ih (c / 2)
    split <;> omega
theorem half (c i : Nat) : c / 2 ^ i / 2 = c / 2 ^ (i + 1) := by
  rw [Nat.div_div_eq_div_mul, Nat.pow_succ]
theorem low_on {c i : Nat} (hi : i < 8) (h : c / 2 ^ i % 2 = 1) (e : i + low (8 - i) (c / 2 ^ i) = low 8 c) : (i + 1) + low (8 - (i + 1)) (c / 2 ^ (i + 1)) = low 8 c := by
  rw [← e]
  have : 8 - i = (8 - (i + 1)) + 1 := by omega
  rw [this]
  simp only [low, h, if_true, half]
  omega
theorem low_off {c i : Nat} (hi : i < 8) (h : ¬ c / 2 ^ i % 2 = 1) (e : i + low (8 - i) (c / 2 ^ i) = low 8 c) : low 8 c = i := by
  rw [← e]
  have : 8 - i = (8 - (i + 1)) + 1 := by omega
  rw [this]
  simp [low, h]
theorem low_end {c i : Nat} (hi : i = 8) (e : i + low (8 - i) (c / 2 ^ i) = low 8 c) : low 8 c = 8 := by
  subst hi
  simpa [low] using e.symm

theorem and_one : ∀ x : Fin 256, bits .and .u8 ((x.val : Nat) : Int) 1 = ((x.val % 2 : Nat) : Int) := by decide +kernel
theorem and_one' (c k : Nat) (hc : c < 256) : bits .and .u8 ((c : Int) / 2 ^ k) 1 = ((c / 2 ^ k % 2 : Nat) : Int) := by
  have h : c / 2 ^ k < 256 := Nat.lt_of_le_of_lt (Nat.div_le_self _ _) hc
  have := and_one ⟨c / 2 ^ k, h⟩
  simpa using this
theorem ones_any (c : Nat) (w : World) (hc : c < 256) : Calls Try.prog 9 #[.int .u8 c] w fun e w' => e = .returned (.int .i64 (low 8 c : Nat)) ∧ w = w' := by
  go_enter Try.func9, Try.ntmps9
  go_wp2
  go_loop [0, 3] (fun x i => ∃ k m : Nat, k ≤ 8 ∧ x = .int .u8 m ∧ m = c / 2 ^ k ∧ i = .int .i64 k ∧ k + low (8 - k) (c / 2 ^ k) = low 8 c) (fun _ i => 8 - (intOf i).toNat)
  case atStart => exact ⟨0, c, by omega, rfl, by simp, rfl, by simp⟩
  case round =>
    obtain ⟨k, m, hk, rfl, hm, rfl, he⟩ := hrel
    have hlt : m < 256 := by rw [hm]; exact Nat.lt_of_le_of_lt (Nat.div_le_self _ _) hc
    have r1 : (m : Int).tmod 2 = ((m % 2 : Nat) : Int) := by rw [Int.tmod_eq_emod_of_nonneg (by omega)]; omega
    have r2 : (m : Int).tdiv 2 = ((m / 2 : Nat) : Int) := by rw [Int.tdiv_eq_ediv_of_nonneg (by omega)]; omega
    by_cases h1 : m % 2 = 1
    · have h8 : k < 8 := by
        rcases Nat.lt_or_ge k 8 with h | h
        · exact h
        · have : m = 0 := by rw [hm]; exact Nat.div_eq_of_lt (Nat.lt_of_lt_of_le hc (Nat.pow_le_pow_right (n := 2) (by decide) h))
          omega
      rw [h1] at r1
      have hn := low_on h8 (by rw [← hm]; exact h1) he
      have hm2 : m / 2 = c / 2 ^ (k + 1) := by rw [hm, half]
      have HN := Lib.hid hn
      have HM := Lib.hid hm2
      clear hn hm2 he hm
      go_wp2
      go_round
      case rel => exact ⟨k + 1, m / 2, by omega, by simp, HM.out, by go_num, HN.out⟩
      case measure => simp [intOf]; omega
    · have h0 : m % 2 = 0 := by omega
      rw [h0] at r1
      have hn : low 8 c = k := by
        rcases Nat.lt_or_ge k 8 with h | h
        · exact low_off h (by rw [← hm]; exact h1) he
        · have h8 : k = 8 := by omega
          rw [low_end h8 he, h8]
      clear he hm
      rw [hn]
      go_wp2
      go_ret
      exact ⟨rfl, rfl⟩
theorem lowOnes_any (c : Nat) (w : World) (hc : c < 256) : Calls Try.prog 13 #[.int .u8 c] w fun e w' => e = .returned (.int .i64 (low 8 c : Nat)) ∧ w = w' := by
  go_enter Try.func13, Try.ntmps13
  go_wp2
  go_loop [4] (fun i => ∃ k : Nat, k ≤ 8 ∧ i = .int .i64 k ∧ k + low (8 - k) (c / 2 ^ k) = low 8 c) (fun i => 8 - (intOf i).toNat)
  case atStart => exact ⟨0, by omega, rfl, by simp⟩
  case round =>
    obtain ⟨k, hk, rfl, he⟩ := hrel
    have ha := and_one' c k hc
    by_cases h8 : k < 8
    · by_cases h1 : c / 2 ^ k % 2 = 1
      · have HN := Lib.hid (low_on h8 h1 he)
        rw [h1] at ha
        clear he
        go_wp2
        go_round
        case rel => exact ⟨k + 1, by omega, by go_num, HN.out⟩
        case measure => simp [intOf]; omega
      · have hn := low_off h8 h1 he
        have h0 : c / 2 ^ k % 2 = 0 := by omega
        rw [h0] at ha
        clear he
        rw [hn]
        go_wp2
        go_ret
        exact ⟨rfl, rfl⟩
    · have hn := low_end (show k = 8 by omega) he
      clear he ha
      rw [hn]
      go_wp2
      go_ret
      exact ⟨rfl, rfl⟩

/-! ### Level -/
/-- The level of a byte, at most m. -/
def lev (c : Int) (m : Int) : Int := if m < 1 + ((low 8 c.toNat : Nat) : Int) then m else 1 + ((low 8 c.toNat : Nat) : Int)
theorem min_lev (c m : Int) (w : World) : (Builtin.min_ #[3, 3] 3 #[.int .i64 (1 + ((low 8 c.toNat : Nat) : Int)), .int .i64 m]).run Try.prog w = .ok (.int .i64 (lev c m)) w := by
  unfold lev
  simp [Builtin.min_, Builtin.min2]
theorem lev_zero (m : Int) (h : 1 ≤ m) : lev 0 m = 1 := by
  have : low 8 0 = 0 := rfl
  simp only [lev, Int.toNat_zero, this]
  split <;> omega
theorem level_low (p : Value) (m : Int) (w : World) (h : m < 1) : Calls Try.prog 8 #[p, .int .i64 m] w fun e w' => e = .returned (.int .i64 1) ∧ w = w' := by
  go_enter Try.func8, Try.ntmps8
  go_wp2
  go_ret
  exact ⟨rfl, rfl⟩
theorem level_nil (m : Int) (w : World) : Calls Try.prog 8 #[.pointer none, .int .i64 m] w fun e w' => e = .returned (.int .i64 1) ∧ w = w' := by
  by_cases h : m < 1
  · exact level_low _ m w h
  · have hm := min_lev 0 m
    rw [lev_zero m (by omega)] at hm
    simp [low] at hm
    have hl := lowOnes_any 0
    simp [low] at hl
    go_enter Try.func8, Try.ntmps8
    go_wp2_with fail
    refine (take_nil _).mono ?_
    rintro e w' ⟨rfl, rfl⟩
    go_wp2_with fail
    refine (hl _).mono ?_
    rintro e w' ⟨rfl, rfl⟩
    go_wp2
    go_ret
    exact ⟨rfl, rfl⟩
set_option maxRecDepth 100000 in
theorem level_any (B : Nat) (ad : Option Addr) (n cap : Nat) (bs : List Int) (u : Nat) (m : Int) (w : World) (f : FAt B ad n cap bs u w) (hb : Bytes bs) (hu : u ≤ 10000) (hm : 0 < m) :
    Calls Try.prog 8 #[at0 B, .int .i64 m] w (Does B ad n cap bs (.int .i64 (lev (byteAt bs u) m)) (u + 1) w) := by
  obtain ⟨b0, b1⟩ := hb u
  have T := take_any B ad n cap bs u w f hu
  have hmin := min_lev (byteAt bs u) m
  obtain ⟨c, hc⟩ : ∃ c : Nat, byteAt bs u = c := ⟨(byteAt bs u).toNat, by omega⟩
  rw [hc] at T hmin b1 ⊢
  simp only [Int.toNat_natCast] at hmin
  have L := lowOnes_any c
  have hle := low_le 8 c
  clear f hb hc b0
  generalize lev c m = y at *
  generalize low 8 c = x at *
  have HL := Lib.hid fun w => L w (by omega)
  have HT := Lib.hid T
  have HM := Lib.hid hmin
  clear hu L T hmin
  go_enter Try.func8, Try.ntmps8
  go_wp2_with fail
  refine HT.out.mono ?_
  rintro e w' ⟨rfl, hf, ho⟩
  have HE := Lib.hid hf
  have HO := Lib.hid ho
  clear hf ho HT
  go_wp2_with fail
  refine (HL.out _).mono ?_
  rintro e w2 ⟨rfl, rfl⟩
  clear HL
  have hmin := HM.out
  go_wp2
  go_ret
  exact ⟨rfl, HE.out, HO.out⟩
end Go.Proofs.Ytnghbdokehfjgaa
