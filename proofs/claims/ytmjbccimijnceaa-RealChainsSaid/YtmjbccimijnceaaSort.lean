/- Places, sorted by the ends of their operations: slices.SortFunc of three at most. -/
import Derived.Test.YtmjbccimijnceaaLeft
import Derived.Shelf.Abstract
import Derived.Laws.OwnMore
namespace Go.Proofs.Ytmjbccimijnceaa
open Go.ChangeShapes Go.WideShapes Go.ChangeAt Go.RowKit
set_option linter.unusedVariables false
set_option linter.unusedSimpArgs false

def cmpI (a b : Int) : Int := if a < b then -1 else if b < a then 1 else 0

theorem nan_any (a : Int) (w : World) : Calls Try.prog 33 #[.int .i64 a] w fun e w' => e = .returned (.bool false) ∧ w' = w := by
  go_enter Try.func33, Try.ntmps33
  go_wp2
  go_ret
  exact ⟨by simp, rfl⟩
theorem compare_any (a b : Int) (w : World) : Calls Try.prog 29 #[.int .i64 a, .int .i64 b] w fun e w' => e = .returned (.int .i64 (cmpI a b)) ∧ w' = w := by
  have hN := fun a W => nan_any a W
  by_cases h : a < b
  · have e : cmpI a b = -1 := by simp [cmpI, h]
    rw [e]; clear e
    go_enter Try.func29, Try.ntmps29
    go_wp2_with (go_at_call 33; refine (hN _ _).mono ?_; rintro e w1 ⟨rfl, rfl⟩)
    go_ret
    exact ⟨rfl, rfl⟩
  · by_cases h2 : b < a
    · have e : cmpI a b = 1 := by simp [cmpI, h, h2]
      rw [e]; clear e
      go_enter Try.func29, Try.ntmps29
      go_wp2_with (go_at_call 33; refine (hN _ _).mono ?_; rintro e w1 ⟨rfl, rfl⟩)
      go_ret
      exact ⟨rfl, rfl⟩
    · have e : cmpI a b = 0 := by simp [cmpI, h, h2]
      rw [e]; clear e
      go_enter Try.func29, Try.ntmps29
      go_wp2_with (go_at_call 33; refine (hN _ _).mono ?_; rintro e w1 ⟨rfl, rfl⟩)
      go_ret
      exact ⟨rfl, rfl⟩

/-- The sort's own comparison. -/
theorem by_any (y : Sl) (l : List Opr) (bl i j : Nat) (W : World) (hb : Boxed W bl 22 y.v) (hr : Reads W y 9 (encO l)) (hi : i < l.length) (hj : j < l.length) :
    Calls Try.prog 28 #[.int .i64 i, .int .i64 j, at0 bl] W fun e W' => e = .returned (.int .i64 (cmpI (ith l i).o (ith l j).o)) ∧ ∃ m, W' = W.drewN m := by
  have hn := hr.lenO
  obtain ⟨b, off, ea, hi0⟩ := hr.opr (ith_lt hi)
  obtain ⟨b', off', ea', hj0⟩ := hr.opr (ith_lt hj)
  rw [ea] at ea'
  simp only [Option.some.injEq, Addr.mk.injEq] at ea'
  obtain ⟨rfl, rfl, -⟩ := ea'
  have xi := hi0.x8
  have xj := hj0.x8
  have c0 := hb.cell
  obtain ⟨a, n, cap⟩ := y
  simp only at ea hn
  subst ea
  have hcap := hr.room
  simp only [maxLen] at hcap
  simp only [Sl.v] at c0
  have gi : i < n := by omega
  have gj : j < n := by omega
  have KC := fun W => compare_any (ith l i).o (ith l j).o W
  generalize (ith l i).o = vi at *
  generalize (ith l j).o = vj at *
  generalize cmpI vi vj = r at *
  clear hr hn hi hj hb hi0 hj0
  go_enter Try.func28, Try.ntmps28
  go_wp2_with fail
  go_quiet ((go_at_call 29; exact Calls.quiet_of_same (KC _)))
  go_wp2
  go_ret
  exact ⟨rfl, _, rfl⟩

/-! ### the row that is sorted -/
abbrev iI (d : List Int) (k : Nat) : Int := d.getD k 0
theorem iI_lt {d : List Int} {k : Nat} (h : k < d.length) : iI d k = d[k] := by simp [iI, List.getD_eq_getElem?_getD, h]
/-- Amid a sort of the row in block g. -/
structure SortS (w : World) (g cap : Nat) (d : List Int) (W : World) : Prop where
  keeps : Keeps (fun k => k = g) w W
  row : ∃ cur : Array Value, Blk W g 3 cur ∧ cur.size = cap ∧ cur.toList.take d.length = ints d
theorem SortS.cell {w : World} {g cap : Nat} {d : List Int} {W : World} (h : SortS w g cap d W) {j : Nat} (hj : j < d.length) : W.cell? ⟨g, j, none⟩ = some (.int .i64 (iI d j)) := by
  obtain ⟨cur, hb, hs, ht⟩ := h.row
  rw [hb.cell]
  have : (cur.toList.take d.length)[j]? = some (.int .i64 (iI d j)) := by
    rw [ht]
    simp [iI, hj, List.getD_eq_getElem?_getD]
  rw [List.getElem?_take, if_pos hj] at this
  simpa using this
theorem SortS.frozen {w : World} {g cap : Nat} {d : List Int} {W : World} (h : SortS w g cap d W) (j : Nat) : W.frozen? ⟨g, j, none⟩ = false := by
  obtain ⟨cur, hb, hs, ht⟩ := h.row
  exact hb.frozen j
theorem keeps_drewN {O : Nat → Prop} {A W : World} (h : Keeps O A W) (m : Nat) : Keeps O A (W.drewN m) := ⟨h.os, h.tape, h.output, h.size, h.block⟩
theorem SortS.drewN {w : World} {g cap : Nat} {d : List Int} {W : World} (h : SortS w g cap d W) (m : Nat) : SortS w g cap d (W.drewN m) := ⟨keeps_drewN h.keeps m, h.row⟩
theorem SortS.drew {w : World} {g cap : Nat} {d : List Int} {W : World} (h : SortS w g cap d W) : SortS w g cap d W.drew := ⟨h.keeps.drew, h.row⟩
theorem SortS.set {w : World} {g cap : Nat} {d : List Int} {W : World} (h : SortS w g cap d W) {j : Nat} (hj : j < d.length) (x : Int) : SortS w g cap (d.set j x) (W.setCell ⟨g, j, none⟩ (.int .i64 x)) := by
  obtain ⟨cur, hb, hs, ht⟩ := h.row
  refine ⟨h.keeps.setCell (.inl rfl) _, _, hb.set j _, by simp [hs], ?_⟩
  rw [List.length_set, Array.toList_setIfInBounds, List.take_set, ht]
  simp [List.map_set]

/-! ### the order -/
/-- Up to k they stand in order. -/
def SortedTo (key : Int → Int) (d : List Int) (k : Nat) : Prop := ∀ p q, p < q → q < k → key (iI d p) ≤ key (iI d q)
/-- Up to k they stand in order, that at j aside. -/
def SortedBut (key : Int → Int) (d : List Int) (k j : Nat) : Prop := ∀ p q, p < q → q ≤ k → q ≠ j → key (iI d p) ≤ key (iI d q)
abbrev swp (d : List Int) (m : Nat) : List Int := (d.set (m + 1) (iI d m)).set m (iI d (m + 1))
theorem swp_at {d : List Int} {m : Nat} (h : m + 1 < d.length) (p : Nat) : iI (swp d m) p = if p = m then iI d (m + 1) else if p = m + 1 then iI d m else iI d p := by
  simp only [swp, iI, List.getD_eq_getElem?_getD, List.getElem?_set]
  by_cases h1 : m = p
  · subst h1
    simp [show m < d.length by omega]
  · by_cases h2 : m + 1 = p
    · subst h2
      simp [h]
    · simp [h1, h2, Ne.symm h1, Ne.symm h2]
theorem swp_perm {d : List Int} {m : Nat} (h : m + 1 < d.length) : (swp d m).Perm d := by
  have := List.set_set_perm (i := m + 1) (j := m) h (show m < d.length by omega)
  rw [swp, iI_lt h, iI_lt (show m < d.length by omega)]
  exact this
theorem but_start {key : Int → Int} {d : List Int} {k : Nat} (h : SortedTo key d k) : SortedBut key d k k := fun p q h1 h2 h3 => h p q h1 (by omega)
theorem but_swap {key : Int → Int} {d : List Int} {k m : Nat} (h : SortedBut key d k (m + 1)) (hm : m + 1 ≤ k) (hk : k < d.length) (hl : key (iI d (m + 1)) < key (iI d m)) : SortedBut key (swp d m) k m := by
  intro p q h1 h2 h3
  rw [swp_at (by omega), swp_at (by omega), if_neg h3]
  by_cases hq : q = m + 1
  · rw [if_pos hq]
    by_cases hp : p = m
    · rw [if_pos hp]; omega
    · rw [if_neg hp, if_neg (by omega)]
      exact h p m (by omega) (by omega) (by omega)
  · rw [if_neg hq]
    by_cases hp : p = m
    · rw [if_pos hp]
      exact h (m + 1) q (by omega) h2 hq
    · rw [if_neg hp]
      by_cases hp2 : p = m + 1
      · rw [if_pos hp2]
        exact h m q (by omega) h2 hq
      · rw [if_neg hp2]
        exact h p q h1 h2 hq
theorem but_done {key : Int → Int} {d : List Int} {k m : Nat} (h : SortedBut key d k (m + 1)) (hm : m + 1 ≤ k) (hl : ¬ key (iI d (m + 1)) < key (iI d m)) : SortedTo key d (k + 1) := by
  intro p q h1 h2
  by_cases hq : q = m + 1
  · subst hq
    by_cases hp : p = m
    · subst hp; omega
    · have := h p m (by omega) (by omega) (by omega)
      omega
  · exact h p q h1 (by omega) hq
theorem but_zero {key : Int → Int} {d : List Int} {k : Nat} (h : SortedBut key d k 0) : SortedTo key d (k + 1) := fun p q h1 h2 => h p q h1 (by omega) (by omega)
theorem sorted_pairwise {key : Int → Int} {d : List Int} (h : SortedTo key d d.length) : d.Pairwise fun a b => key a ≤ key b := by
  rw [List.pairwise_iff_getElem]
  intro i j hi hj hij
  have := h i j hij hj
  rwa [iI_lt hi, iI_lt hj] at this
end Go.Proofs.Ytmjbccimijnceaa
