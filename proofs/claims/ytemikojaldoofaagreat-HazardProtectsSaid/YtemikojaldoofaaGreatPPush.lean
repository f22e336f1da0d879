/- The list of all places, as it grows. -/
import Derived.Test.YtemikojaldoofaaGreatPMath
import Derived.Test.YtemikojaldoofaaGreatPRef
import Derived.Maps.AppendAt
import Derived.Deep.AppendLies
namespace Go.Proofs.YtemikojaldoofaaGreat.P
open Go.ChangeShapes Go.WideShapes Go.ChangeAt Go.RowKit
set_option linter.unusedVariables false

/-- Places in their cells. -/
def encX (x : Int × Int × Int) : List Value := [.int .i64 x.1, .int .i64 x.2.1, .int .i64 x.2.2]
def encP (l : List (Int × Int × Int)) : List Value := l.flatMap encX
/-- The places of the first m addresses. -/
def Cf.upto (c : Cf) (m : Nat) : List (Int × Int × Int) := (List.range m).map fun (i : Nat) => c.place (i : Int)
theorem upto_succ (c : Cf) (m : Nat) : c.upto (m + 1) = c.upto m ++ [c.place (m : Int)] := by simp [Cf.upto, List.range_succ]
theorem encP_snoc (l : List (Int × Int × Int)) (x : Int × Int × Int) : encP (l ++ [x]) = encP l ++ encX x := by simp [encP]
theorem encP_len (l : List (Int × Int × Int)) : (encP l).length = l.length * 3 := by
  induction l with
  | nil => rfl
  | cons x l ih => simp [encP, encX] at ih ⊢; omega
theorem upto_len (c : Cf) (m : Nat) : (c.upto m).length = m := by simp [Cf.upto]
theorem encP_get (l : List (Int × Int × Int)) (j : Nat) (x : Int × Int × Int) (h : l[j]? = some x) :
    (encP l)[j * 3]? = some (.int .i64 x.1) ∧ (encP l)[j * 3 + 1]? = some (.int .i64 x.2.1) ∧ (encP l)[j * 3 + 2]? = some (.int .i64 x.2.2) := by
  induction l generalizing j with
  | nil => simp at h
  | cons y l ih =>
    have e : encP (y :: l) = encX y ++ encP l := by simp [encP]
    have le : (encX y).length = 3 := rfl
    cases j with
    | zero =>
      obtain rfl : y = x := by simpa using h
      rw [e]
      exact ⟨rfl, rfl, rfl⟩
    | succ j =>
      have := ih j (by simpa using h)
      rw [e]
      refine ⟨?_, ?_, ?_⟩
      · rw [List.getElem?_append_right (by omega), le, show (j + 1) * 3 - 3 = j * 3 by omega]; exact this.1
      · rw [List.getElem?_append_right (by omega), le, show (j + 1) * 3 + 1 - 3 = j * 3 + 1 by omega]; exact this.2.1
      · rw [List.getElem?_append_right (by omega), le, show (j + 1) * 3 + 2 - 3 = j * 3 + 2 by omega]; exact this.2.2

theorem row_agree {W W' : World} {base : Nat} {e : TypeId} {size n : Nat} {v : Value} {xs : List Value} (h : W.ownsRow base e size v n xs) (hk : ∀ k, v.ownBlock = some k → W'.heap[k]? = W.heap[k]?) : W'.ownsRow base e size v n xs := by
  refine ⟨h.1, ?_⟩
  rcases h.2 with h | ⟨g, cap, cur, rfl, hb, hg, r⟩
  · exact .inl h
  · exact .inr ⟨g, cap, cur, rfl, hb, (hk g rfl).trans hg, r⟩

end Go.Proofs.YtemikojaldoofaaGreat.P
