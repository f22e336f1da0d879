/- Compact: each of many alike ones that stand side by side once. -/
import Derived.Test.YtjmejdalmglehaaOrdered
import Derived.Test.YtjmejdalmglehaaClone
namespace Go.Proofs.Ytjmejdalmglehaa
open Go.ChangeShapes Go.WideShapes Go.ChangeAt Go.RowKit
set_option linter.unusedVariables false

/-- The first k of a list, but those that are like the one ahead. -/
def ddL (L : List Pr) : Nat → List Pr
  | 0 => []
  | k + 1 => if 0 < k ∧ ithP L k = ithP L (k - 1) then ddL L k else ddL L k ++ [ithP L k]
theorem ddL_same {L : List Pr} {k : Nat} (h0 : 0 < k) (h : ithP L k = ithP L (k - 1)) : ddL L (k + 1) = ddL L k := if_pos ⟨h0, h⟩
theorem ddL_more {L : List Pr} {k : Nat} (h : ithP L k ≠ ithP L (k - 1)) : ddL L (k + 1) = ddL L k ++ [ithP L k] := if_neg (fun e => h e.2)
theorem ddL_len (L : List Pr) : ∀ k, (ddL L k).length ≤ k
  | 0 => Nat.le_refl _
  | k + 1 => by
    have := ddL_len L k
    rw [ddL]
    split
    · omega
    · simp; omega
theorem ddL_one (L : List Pr) : ddL L 1 = [ithP L 0] := rfl
/-- What is so of it, if the list is in order. -/
structure DD (L : List Pr) (k : Nat) : Prop where
  mem : ∀ x, x ∈ ddL L k ↔ x ∈ L.take k
  srt : (ddL L k).Pairwise fun a b => ltP a b = true
theorem mem_take {L : List Pr} {k : Nat} {x : Pr} (hk : k ≤ L.length) (h : x ∈ L.take k) : ∃ i, i < k ∧ x = ithP L i := by
  obtain ⟨i, hi⟩ := List.getElem?_of_mem h
  have hl := (List.getElem?_eq_some_iff.1 hi).1
  rw [List.length_take] at hl
  rw [List.getElem?_take, if_pos (by omega)] at hi
  exact ⟨i, by omega, (ithP_eq hi).symm⟩
theorem ord_ith {L : List Pr} (ho : Ord L) {i j : Nat} (hij : i ≤ j) (hj : j < L.length) : ltP (ithP L j) (ithP L i) = false := by
  rcases Nat.lt_or_ge i j with h | h
  · have hp := List.pairwise_iff_getElem.1 ho i j (by omega) hj h
    have e0 := ithP_lt (l := L) (k := i) (by omega)
    have e1 := ithP_lt hj
    rw [List.getElem?_eq_getElem (by omega)] at e0 e1
    rw [Option.some.inj e0, Option.some.inj e1] at hp
    exact hp
  · obtain rfl : i = j := by omega
    exact ltP_self _
theorem DD.of {L : List Pr} (ho : Ord L) : ∀ k, k ≤ L.length → DD L k
  | 0, _ => ⟨fun x => by simp [ddL], List.Pairwise.nil⟩
  | k + 1, hk => by
    have d := DD.of ho k (by omega)
    by_cases h : 0 < k ∧ ithP L k = ithP L (k - 1)
    · rw [show DD L (k + 1) ↔ (∀ x, x ∈ ddL L (k + 1) ↔ x ∈ L.take (k + 1)) ∧ (ddL L (k + 1)).Pairwise (fun a b => ltP a b = true) from ⟨fun h => ⟨h.1, h.2⟩, fun h => ⟨h.1, h.2⟩⟩, ddL_same h.1 h.2]
      refine ⟨fun x => ?_, d.srt⟩
      rw [d.mem, take_next (ithP_lt hk), List.mem_append, List.mem_singleton]
      refine ⟨.inl, fun hx => hx.elim id fun e => ?_⟩
      rw [e, h.2]
      have h1 := ithP_lt (l := L) (k := k - 1) (by omega)
      exact List.mem_of_getElem? (i := k - 1) (by rw [List.getElem?_take, if_pos (by omega)]; exact h1)
    · have e : ddL L (k + 1) = ddL L k ++ [ithP L k] := if_neg h
      refine ⟨fun x => ?_, ?_⟩
      · rw [e, take_next (ithP_lt hk), List.mem_append, List.mem_append, d.mem]
      · rw [e, List.pairwise_append]
        refine ⟨d.srt, List.pairwise_singleton _ _, fun x hx y hy => ?_⟩
        obtain rfl := List.mem_singleton.1 hy
        obtain ⟨i, hi, rfl⟩ := mem_take (by omega) ((d.mem x).1 hx)
        have h1 := ord_ith ho (i := i) (j := k) (by omega) (by omega)
        cases h2 : ltP (ithP L i) (ithP L k) with
        | true => rfl
        | false =>
          exfalso
          apply h
          have e1 := ltP_anti h2 h1
          have h3 := ord_ith ho (i := i) (j := k - 1) (by omega) (by omega)
          have h4 := ord_ith ho (i := k - 1) (j := k) (by omega) (by omega)
          rw [e1] at h3
          exact ⟨by omega, ltP_anti h4 h3 ▸ rfl⟩

/-! ### the row -/
theorem set2 (R : List Pr) (rest : List Value) (k : Nat) (hk : k < R.length) (p : Pr) : ((encP R ++ rest).set (k * 2) (.int .u32 p.k)).set (k * 2 + 1) (.int .u32 p.v) = encP (R.set k p) ++ rest := by
  have hl := encP_len R
  rw [List.set_append_left _ _ (by omega), List.set_append_left _ _ (by rw [List.length_set]; omega)]
  congr 1
  apply List.ext_getElem?
  intro q
  have hf := flat_set (f := fun c : Pr => c.cs.toList) (m := 2) (fun _ => rfl) R k p hk q
  unfold encP at hl ⊢
  rw [hf]
  simp only [List.getElem?_set, List.length_set, hl]
  by_cases h0 : q = k * 2
  · subst h0
    rw [if_neg (by omega), if_pos rfl, if_pos (by omega), if_pos (by omega), Nat.sub_self]
    rfl
  · by_cases h1 : q = k * 2 + 1
    · subst h1
      rw [if_pos rfl, if_pos (by omega), if_pos (by omega), Nat.add_sub_cancel_left]
      rfl
    · rw [if_neg (by omega), if_neg (by omega), if_neg (by omega)]
/-- Amid Compact: the row reads R. -/
structure CS (w : World) (g : Nat) (R : List Pr) (rest : List Value) (W : World) : Prop where
  blk : Blk W g 38 (encP R ++ rest).toArray
  keep : Keeps (fun k => k = g) w W
theorem CS.drewN {w W : World} {g : Nat} {R : List Pr} {rest : List Value} (h : CS w g R rest W) (n : Nat) : CS w g R rest (W.drewN n) :=
  ⟨h.blk, ⟨h.keep.os, h.keep.tape, h.keep.output, h.keep.size, h.keep.block⟩⟩
theorem CS.pr {w W : World} {g : Nat} {R : List Pr} {rest : List Value} (h : CS w g R rest W) {k : Nat} (hk : k < R.length) : PrAt W g (k * 2) (ithP R k) := by
  have key := fun i hi => encP_get (ithP_lt hk) i hi
  have hl := encP_len R
  constructor
  · rw [h.blk.cell, List.getElem?_toArray, List.getElem?_append_left (by omega)]
    exact (key 0 (by omega)).trans rfl
  · rw [h.blk.cell, List.getElem?_toArray, List.getElem?_append_left (by omega)]
    exact (key 1 (by omega)).trans rfl
theorem CS.put {w W : World} {g : Nat} {R : List Pr} {rest : List Value} (h : CS w g R rest W) {k : Nat} (hk : k < R.length) (p : Pr) :
    CS w g (R.set k p) rest ((W.setCell ⟨g, k * 2, none⟩ (.int .u32 p.k)).setCell ⟨g, k * 2 + 1, none⟩ (.int .u32 p.v)) := by
  refine ⟨?_, (h.keep.setCell (.inl rfl) _).setCell (.inl rfl) _⟩
  have := (h.blk.set (k * 2) (.int .u32 p.k)).set (k * 2 + 1) (.int .u32 p.v)
  simp only [List.setIfInBounds_toArray] at this
  rwa [set2 R rest k hk p] at this
theorem set_drop {D T : List Pr} {p : Pr} (hT : 0 < T.length) : (D ++ T).set D.length p = D ++ [p] ++ T.drop 1 := by
  cases T with
  | nil => simp at hT
  | cons x t => rw [List.set_append_right _ _ (Nat.le_refl _), Nat.sub_self]; simp
theorem ithP_drop {D L : List Pr} {k : Nat} (hk : D.length ≤ k) : ithP (D ++ L.drop D.length) k = ithP L k := by
  unfold ithP
  simp only [List.getD]
  rw [List.getElem?_append_right hk, List.getElem?_drop, Nat.add_sub_cancel' hk]
/-- What Compact tells. -/
structure Packed (w : World) (g : Nat) (L : List Pr) (e : Ending) (W : World) : Prop where
  ex : ∃ o : Sl, e = .returned (.slice o.a o.n o.cap) ∧ Reads W o 2 (encP L) ∧ Keeps (fun k => k = g) w W
theorem Packed.of {w W : World} {g : Nat} {L D : List Pr} {rest : List Value} {c : Nat} (h : CS w g L rest W) (hD : ∃ T, L = D ++ T) (hc : L.length ≤ c) (hm : c ≤ maxLen) : Packed w g D (.returned (.slice (some ⟨g, 0, none⟩) D.length c)) W := by
  obtain ⟨T, rfl⟩ := hD
  refine ⟨⟨some ⟨g, 0, none⟩, D.length, c⟩, rfl, ⟨by rw [encP_len]; show 2 * D.length = D.length * 2; omega, ⟨by simp at hc; show D.length ≤ c; omega, hm⟩, (fun e => by cases e), .inr ⟨g, 0, rfl, fun j u hj => ?_⟩⟩, h.keep⟩
  have hlt := (List.getElem?_eq_some_iff.1 hj).1
  rw [h.blk.cell, List.getElem?_toArray, encP_append, Nat.zero_add, List.append_assoc, List.getElem?_append_left hlt]
  exact hj
end Go.Proofs.Ytjmejdalmglehaa
