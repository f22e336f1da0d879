/- The rows of digits in a text, as numbers. -/
import Derived.Test.YtifojpkcegefgaaDoorRow
namespace Go.Proofs.YtifojpkcegefgaaDoor
open Go.ChangeShapes Go.WideShapes Go.ChangeAt Go.RowKit
set_option linter.unusedVariables false

/-- A number with one digit more; one that is great stays. -/
def up1 (x c : Nat) : Nat := if x < 1099511627776 then x * 10 + (c - 48) else x
def isDig (c : UInt8) : Bool := decide (48 ≤ c.toNat) && decide (c.toNat ≤ 57)
/-- The last number of a list with one digit more. -/
def upLast (l : List Nat) (c : Nat) : List Nat := l.set (l.length - 1) (up1 (l.getD (l.length - 1) 0) c)
def numStep (s : List Nat × Bool) (c : UInt8) : List Nat × Bool :=
  if isDig c then (upLast (if s.2 then s.1 else s.1 ++ [0]) c.toNat, true) else (s.1, false)
def numsGo (s : List Nat × Bool) (l : List UInt8) : List Nat × Bool := l.foldl numStep s
def numsL (l : List UInt8) : List Nat := (numsGo ([], false) l).1

theorem upLast_snoc (l : List Nat) (x c : Nat) : upLast (l ++ [x]) c = l ++ [up1 x c] := by
  unfold upLast
  have e : (l ++ [x]).length - 1 = l.length := by simp
  rw [e]
  simp [List.getD_eq_getElem?_getD]
theorem numsGo_dec (n : Nat) : n < 4294967296 → ∀ l, numsGo (l, false) (Lib.decDigits n) = (l ++ [n], true) := by
  induction n using Nat.strongRecOn with
  | _ n ih =>
    intro hn l
    by_cases h : n < 10
    · rw [Lib.decDigits_one h]
      have e : (UInt8.ofNat (48 + n)).toNat = 48 + n := by rw [UInt8.toNat_ofNat']; omega
      have hd : isDig (UInt8.ofNat (48 + n)) = true := by simp only [isDig, e]; simp; omega
      simp only [numsGo, List.foldl, numStep, hd, if_true, Bool.false_eq_true, if_false, e, upLast_snoc]
      simp [up1]
    · rw [Lib.decDigits, dif_neg h]
      have e : (UInt8.ofNat (48 + n % 10)).toNat = 48 + n % 10 := by rw [UInt8.toNat_ofNat']; omega
      have hd : isDig (UInt8.ofNat (48 + n % 10)) = true := by simp only [isDig, e]; simp; omega
      have := ih (n / 10) (by omega) (by omega) l
      unfold numsGo at this ⊢
      rw [List.foldl_append, this]
      simp only [List.foldl, numStep, hd, if_true, e, upLast_snoc]
      have hu : up1 (n / 10) (48 + n % 10) = n := by
        unfold up1
        rw [if_pos (by omega)]
        omega
      rw [hu]
theorem numsGo_off (l : List UInt8) (h : ∀ c ∈ l, isDig c = false) (s : List Nat × Bool) (hs : s.2 = false) : numsGo s l = s := by
  induction l generalizing s with
  | nil => rfl
  | cons c r ih =>
    have hc := h c (by simp)
    have : numStep s c = s := by
      unfold numStep
      rw [hc]
      obtain ⟨a, b⟩ := s
      simp at hs
      simp [hs]
    unfold numsGo at ih ⊢
    rw [List.foldl_cons, this]
    exact ih (fun x hx => h x (by simp [hx])) s hs
theorem numsL_pair {k v : Nat} (hk : k < 4294967296) (hv : v < 4294967296) (s : List Nat) : numsGo (s, false) (pairT k v) = (s ++ [k] ++ [v], true) := by
  unfold pairT
  have h1 := numsGo_dec k hk s
  have h2 := numsGo_dec v hv (s ++ [k])
  unfold numsGo at h1 h2 ⊢
  rw [List.foldl_append, h1, List.foldl_cons]
  have : numStep (s ++ [k], true) 32 = (s ++ [k], false) := rfl
  rw [this, h2]
theorem numsL_text {k v : Nat} (hk : k < 4294967296) (hv : v < 4294967296) : numsL (pairT k v) = [k, v] := by
  unfold numsL
  rw [numsL_pair hk hv]
  rfl
theorem numsL_ins {k v : Nat} (hk : k < 4294967296) (hv : v < 4294967296) : numsL (insT' ++ pairT k v) = [k, v] := by
  unfold numsL numsGo
  rw [List.foldl_append]
  have h1 := numsGo_off insT' (by unfold insT'; decide) ([], false) rfl
  have h2 := numsL_pair hk hv []
  unfold numsGo at h1 h2
  rw [h1, h2]
  rfl
/-- No number comes to its end. -/
def Low (l : List Nat) : Prop := ∀ x ∈ l, x < 10995116277770
theorem up1_low {x c : Nat} (h : x < 10995116277770) (h2 : c ≤ 57) : up1 x c < 10995116277770 := by
  unfold up1
  split <;> omega
theorem getD_low {l : List Nat} (h : Low l) (i : Nat) : l.getD i 0 < 10995116277770 := by
  by_cases hz : i < l.length
  · have := h l[i] (List.getElem_mem hz)
    simpa [List.getD_eq_getElem?_getD, List.getElem?_eq_getElem hz] using this
  · simp [List.getD_eq_getElem?_getD, List.getElem?_eq_none (Nat.le_of_not_lt hz)]
theorem upLast_low {l : List Nat} (h : Low l) (c : Nat) (h2 : c ≤ 57) : Low (upLast l c) := by
  intro x hx
  unfold upLast at hx
  rcases List.mem_or_eq_of_mem_set hx with hx | rfl
  · exact h x hx
  · exact up1_low (getD_low h _) h2
theorem more_low {l : List Nat} (h : Low l) : Low (l ++ [0]) := by
  intro x hx
  rcases List.mem_append.1 hx with hx | hx
  · exact h x hx
  · simp at hx; omega
def encU (l : List Nat) : List Value := l.map fun (x : Nat) => Value.int .u64 (x : Int)
theorem upLast_len (l : List Nat) (c : Nat) : (upLast l c).length = l.length := by simp [upLast]
theorem encU_len (l : List Nat) : (encU l).length = l.length := by simp [encU]
theorem encU_at (l : List Nat) (i : Nat) (h : i < l.length) : (encU l)[i]? = some (.int .u64 (l.getD i 0 : Nat)) := by
  simp [encU, List.getD_eq_getElem?_getD, List.getElem?_eq_getElem h]
theorem encU_set (l : List Nat) (c : Nat) : (encU l).set (l.length - 1) (.int .u64 (up1 (l.getD (l.length - 1) 0) c : Nat)) = encU (upLast l c) := by
  simp [encU, upLast, List.map_set]
end Go.Proofs.YtifojpkcegefgaaDoor
