/- Texts cut at a byte, and joined by it: each undoes the other. -/
import Derived.Lib.Split
import Derived.Lib.Join
namespace Go.Proofs.YtdhdomeckloedaaDoor
open Go.Lib

theorem idx_none (c : UInt8) : ∀ s : List UInt8, c ∉ s → index s [c] = -1
  | [], _ => rfl
  | b :: l, h => by
    have h1 : ¬ c = b := fun e => h (by simp [e])
    have h2 := idx_none c l (fun e => h (by simp [e]))
    simp [index, List.isPrefixOf, h1, h2]
theorem idx_hit (c : UInt8) (r : List UInt8) : ∀ a : List UInt8, c ∉ a → index (a ++ c :: r) [c] = a.length
  | [], _ => by simp [index, List.isPrefixOf]
  | b :: l, h => by
    have h1 : ¬ c = b := fun e => h (by simp [e])
    have h2 := idx_hit c r l (fun e => h (by simp [e]))
    have h3 : ¬ ((l.length : Int) = -1) := by omega
    simp [index, List.isPrefixOf, h1, h2, h3]
theorem idx_split (c : UInt8) : ∀ s : List UInt8, c ∉ s ∨ ∃ a r, s = a ++ c :: r ∧ c ∉ a
  | [] => .inl (by simp)
  | b :: l => by
    by_cases h : b = c
    · exact .inr ⟨[], l, by simp [h], by simp⟩
    · rcases idx_split c l with hn | ⟨a, r, rfl, ha⟩
      · exact .inl (by simp [hn, Ne.symm h])
      · exact .inr ⟨b :: a, r, rfl, by simp [ha, Ne.symm h]⟩
theorem joinTail_join (sep x : List UInt8) (r : List (List UInt8)) : joinTail sep (x :: r) = sep ++ join (x :: r) sep := by
  rw [join_cons]
  simp [joinTail]
theorem cut_hit (c : UInt8) (k : Nat) (a r : List UInt8) (h : c ∉ a) : splitK [c] 0 (k + 1) (a ++ c :: r) = a :: splitK [c] 0 k r := by
  have e := idx_hit c r a h
  have h3 : ¬ ((a.length : Int) = -1) := by omega
  simp [splitK, e, h3]
theorem cut_miss (c : UInt8) (k : Nat) (s : List UInt8) (h : c ∉ s) : splitK [c] 0 k s = [s] := by
  cases k with
  | zero => rfl
  | succ k => simp [splitK, idx_none c s h]
theorem cut_ne (c : UInt8) (k : Nat) (s : List UInt8) : ∃ x r, splitK [c] 0 k s = x :: r := by
  cases k with
  | zero => exact ⟨s, [], rfl⟩
  | succ k =>
    rcases idx_split c s with hn | ⟨a, r, rfl, ha⟩
    · exact ⟨s, [], cut_miss c _ s hn⟩
    · exact ⟨a, _, cut_hit c k a r ha⟩
/-- What was cut is joined again, however often it was cut. -/
theorem join_cut (c : UInt8) : ∀ (k : Nat) (s : List UInt8), join (splitK [c] 0 k s) [c] = s
  | 0, s => join_one _ _
  | k + 1, s => by
    rcases idx_split c s with hn | ⟨a, r, rfl, ha⟩
    · rw [cut_miss c _ s hn, join_one]
    · have ih := join_cut c k r
      obtain ⟨x, t, e⟩ := cut_ne c k r
      rw [cut_hit c k a r ha, e, join_cons, joinTail_join]
      rw [e] at ih
      rw [ih]
      rfl
/-- What was joined is cut again, if no word has the byte. -/
theorem cut_join (c : UInt8) : ∀ (ws : List (List UInt8)) (k : Nat), ws ≠ [] → ws.length ≤ k + 1 → (∀ w ∈ ws, c ∉ w) → splitK [c] 0 k (join ws [c]) = ws
  | [], _, h, _, _ => (h rfl).elim
  | [w], k, _, _, h => by rw [join_one, cut_miss c k w (h w (by simp))]
  | w :: w2 :: r, k, _, hk, h => by
    obtain ⟨k, rfl⟩ : ∃ m, k = m + 1 := ⟨k - 1, by simp at hk; omega⟩
    rw [join_cons, joinTail_join]
    have ih := cut_join c (w2 :: r) k (by simp) (by simp at hk ⊢; omega) (fun x hx => h x (by simp at hx ⊢; exact .inr hx))
    show splitK [c] 0 (k + 1) (w ++ c :: join (w2 :: r) [c]) = _
    rw [cut_hit c k w _ (h w (by simp)), ih]
end Go.Proofs.YtdhdomeckloedaaDoor
