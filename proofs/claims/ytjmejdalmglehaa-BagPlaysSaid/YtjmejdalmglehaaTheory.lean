/- Pairs, which stands ahead of which, and lists of them that are in order. -/
import Derived.Test.YtjmejdalmglehaaFits
namespace Go.Proofs.Ytjmejdalmglehaa
open Go.ChangeShapes Go.WideShapes Go.ChangeAt Go.RowKit
set_option linter.unusedVariables false

/-- A key and a value. -/
structure Pr where
  k : Int
  v : Int
deriving DecidableEq
abbrev Pr.val (p : Pr) : Value := .agg #[.int .u32 p.k, .int .u32 p.v]
abbrev Pr.cs (p : Pr) : Array Value := #[.int .u32 p.k, .int .u32 p.v]
def encP (l : List Pr) : List Value := l.flatMap fun p => p.cs.toList
abbrev zp : Pr := ⟨0, 0⟩
def ithP (l : List Pr) (k : Nat) : Pr := l.getD k zp
theorem ithP_lt {l : List Pr} {k : Nat} (h : k < l.length) : l[k]? = some (ithP l k) := by
  simp [ithP, List.getD, List.getElem?_eq_getElem h]
theorem ithP_eq {l : List Pr} {k : Nat} {p : Pr} (h : l[k]? = some p) : ithP l k = p := by simp [ithP, List.getD, h]
theorem ithP_mem {l : List Pr} {k : Nat} (h : k < l.length) : ithP l k ∈ l := List.mem_of_getElem? (ithP_lt h)

/-- Does a pair stand ahead of another one? -/
def ltP (p q : Pr) : Bool := if p.k = q.k then decide (p.v < q.v) else decide (p.k < q.k)
theorem ltP_iff {p q : Pr} : ltP p q = true ↔ p.k < q.k ∨ p.k = q.k ∧ p.v < q.v := by
  unfold ltP
  split <;> simp <;> omega
theorem ltP_not {p q : Pr} : ltP p q = false ↔ q.k < p.k ∨ p.k = q.k ∧ q.v ≤ p.v := by
  unfold ltP
  split <;> simp <;> omega
theorem ltP_self (p : Pr) : ltP p p = false := by rw [ltP_not]; omega
theorem ltP_anti {p q : Pr} (h : ltP p q = false) (h' : ltP q p = false) : p = q := by
  rw [ltP_not] at h h'
  obtain ⟨a, b⟩ := p
  obtain ⟨c, d⟩ := q
  simp only [Pr.mk.injEq]
  dsimp only at h h'
  omega
theorem ltP_le_trans {p q r : Pr} (h : ltP q p = false) (h' : ltP r q = false) : ltP r p = false := by
  rw [ltP_not] at h h' ⊢
  omega
theorem ltP_asymm {p q : Pr} (h : ltP p q = true) : ltP q p = false := by
  rw [ltP_iff] at h
  rw [ltP_not]
  omega

/-- In order. -/
def Ord (l : List Pr) : Prop := l.Pairwise fun a b => ltP b a = false

/-- What is such stands ahead of what isn't. -/
def Closed (such : Pr → Bool) (l : List Pr) : Prop := ∀ x y, x ∈ l → y ∈ l → ltP y x = false → such y = true → such x = true
theorem drop_not {such : Pr → Bool} : ∀ {l : List Pr} (_ : Ord l) (_ : Closed such l) (x : Pr) (_ : x ∈ l.dropWhile such), such x = false
  | [], _, _, x, h => by simp at h
  | y :: l, ho, hc, x, h => by
    cases hy : such y with
    | true =>
      rw [List.dropWhile_cons, if_pos hy] at h
      exact drop_not (List.pairwise_cons.1 ho).2 (fun a b ha hb => hc a b (by simp [ha]) (by simp [hb])) x h
    | false =>
      rw [List.dropWhile_cons, if_neg (by simp [hy])] at h
      rcases List.mem_cons.1 h with rfl | h
      · exact hy
      · cases hx : such x with
        | false => rfl
        | true =>
          have := hc y x (by simp) (by simp [h]) ((List.pairwise_cons.1 ho).1 x h) hx
          rw [hy] at this
          cases this
theorem take_such {such : Pr → Bool} : ∀ {l : List Pr} (x : Pr) (_ : x ∈ l.takeWhile such), such x = true
  | [], x, h => by simp at h
  | y :: l, x, h => by
    cases hy : such y with
    | true =>
      rw [List.takeWhile_cons, if_pos hy] at h
      rcases List.mem_cons.1 h with rfl | h
      · exact hy
      · exact take_such x h
    | false =>
      rw [List.takeWhile_cons, if_neg (by simp [hy])] at h
      simp at h

/-- The first n are such, and no other ones. -/
structure Cut (such : Pr → Bool) (l : List Pr) (n : Nat) : Prop where
  le : n ≤ l.length
  yes : ∀ i, i < n → such (ithP l i) = true
  no : ∀ i, n ≤ i → i < l.length → such (ithP l i) = false
theorem Cut.of {such : Pr → Bool} {l : List Pr} (ho : Ord l) (hc : Closed such l) : Cut such l (l.takeWhile such).length := by
  have e : l.takeWhile such ++ l.dropWhile such = l := List.takeWhile_append_dropWhile
  have hl : (l.takeWhile such).length ≤ l.length := by
    have := congrArg List.length e
    rw [List.length_append] at this
    omega
  refine ⟨hl, fun i hi => ?_, fun i hi hl' => ?_⟩
  · have h1 := ithP_lt (l := l) (k := i) (by omega)
    rw [← e, List.getElem?_append_left hi, e] at h1
    exact take_such _ (List.mem_of_getElem? h1)
  · have h1 := ithP_lt hl'
    rw [← e, List.getElem?_append_right hi, e] at h1
    exact drop_not ho hc _ (List.mem_of_getElem? h1)

/-! ### a pair is put in -/
/-- What stays ahead of a pair that is put in. -/
def upto (p : Pr) (q : Pr) : Bool := !ltP p q
def addL (l : List Pr) (p : Pr) : List Pr := l.takeWhile (upto p) ++ p :: l.dropWhile (upto p)
theorem upto_closed (p : Pr) (l : List Pr) : Closed (upto p) l := fun x y _ _ h hy => by
  simp only [upto, Bool.not_eq_true'] at hy ⊢
  exact ltP_le_trans h hy
theorem addL_perm (l : List Pr) (p : Pr) : (addL l p).Perm (p :: l) := by
  have h := List.perm_middle (a := p) (l₁ := l.takeWhile (upto p)) (l₂ := l.dropWhile (upto p))
  rwa [List.takeWhile_append_dropWhile] at h
theorem addL_len (l : List Pr) (p : Pr) : (addL l p).length = l.length + 1 := by simpa using (addL_perm l p).length_eq
theorem addL_ord {l : List Pr} (h : Ord l) (p : Pr) : Ord (addL l p) := by
  have e : l.takeWhile (upto p) ++ l.dropWhile (upto p) = l := List.takeWhile_append_dropWhile
  have h' := h
  unfold Ord at h'
  rw [← e, List.pairwise_append] at h'
  unfold Ord addL
  rw [List.pairwise_append]
  refine ⟨h'.1, List.pairwise_cons.2 ⟨fun x hx => ?_, h'.2.1⟩, fun x hx y hy => ?_⟩
  · have := drop_not h (upto_closed p l) x hx
    simp only [upto, Bool.not_eq_false'] at this
    exact ltP_asymm this
  · rcases List.mem_cons.1 hy with rfl | hy
    · have := take_such x hx
      simpa [upto] using this
    · exact h'.2.2 x hx y hy

/-! ### a pair is taken out -/
def under (p : Pr) (q : Pr) : Bool := ltP q p
theorem under_closed (p : Pr) (l : List Pr) : Closed (under p) l := fun x y _ _ h hy => by
  simp only [under] at hy ⊢
  rw [ltP_iff] at hy ⊢
  rw [ltP_not] at h
  omega
/-- Where a pair stands, or would stand. -/
def plcP (l : List Pr) (p : Pr) : Nat := (l.takeWhile (under p)).length
theorem plcP_cut {l : List Pr} (h : Ord l) (p : Pr) : Cut (under p) l (plcP l p) := Cut.of h (under_closed p l)
theorem plcP_found {l : List Pr} (h : Ord l) (p : Pr) : (decide (plcP l p < l.length) && decide (ithP l (plcP l p) = p)) = decide (p ∈ l) := by
  have c := plcP_cut h p
  by_cases hm : p ∈ l
  · rw [decide_eq_true hm]
    obtain ⟨i, hi⟩ := List.getElem?_of_mem hm
    have hl := (List.getElem?_eq_some_iff.1 hi).1
    have hip := ithP_eq hi
    have hpi : plcP l p ≤ i := by
      rcases Nat.lt_or_ge i (plcP l p) with h1 | h1
      · have := c.yes i h1
        rw [hip, under, ltP_self] at this
        cases this
      · exact h1
    have hlt : plcP l p < l.length := by omega
    have hn := c.no (plcP l p) (Nat.le_refl _) hlt
    have hle : ltP p (ithP l (plcP l p)) = false := by
      rcases Nat.lt_or_ge (plcP l p) i with h1 | h1
      · have hp := List.pairwise_iff_getElem.1 h (plcP l p) i hlt hl h1
        have e1 := ithP_lt hlt
        rw [List.getElem?_eq_getElem hlt] at e1
        rw [List.getElem?_eq_getElem hl] at hi
        rw [Option.some.inj e1, Option.some.inj hi] at hp
        exact hp
      · obtain rfl : i = plcP l p := by omega
        rw [hip]
        exact ltP_self p
    have := ltP_anti hle hn
    simp [hlt, this.symm]
  · rw [decide_eq_false hm]
    by_cases hlt : plcP l p < l.length
    · have : ¬ ithP l (plcP l p) = p := fun e => hm (e ▸ ithP_mem hlt)
      simp [this]
    · simp [hlt]
theorem erase_plc {l : List Pr} (h : Ord l) {p : Pr} (hm : p ∈ l) : l.erase p = l.take (plcP l p) ++ l.drop (plcP l p + 1) := by
  have f := plcP_found h p
  rw [decide_eq_true hm] at f
  simp only [Bool.and_eq_true, decide_eq_true_eq] at f
  obtain ⟨hlt, hp⟩ := f
  have c := plcP_cut h p
  have e1 := ithP_lt hlt
  rw [hp] at e1
  have hsp : l = l.take (plcP l p) ++ p :: l.drop (plcP l p + 1) := by
    conv => lhs; rw [← List.take_append_drop (plcP l p) l]
    rw [List.drop_eq_getElem_cons hlt]
    rw [List.getElem?_eq_getElem hlt] at e1
    rw [Option.some.inj e1]
  have hno : p ∉ l.take (plcP l p) := by
    intro hm'
    obtain ⟨i, hi⟩ := List.getElem?_of_mem hm'
    have hl := (List.getElem?_eq_some_iff.1 hi).1
    rw [List.length_take] at hl
    rw [List.getElem?_take, if_pos (by omega)] at hi
    have := c.yes i (by omega)
    rw [ithP_eq hi, under, ltP_self] at this
    cases this
  conv => lhs; rw [hsp]
  rw [List.erase_append_right _ hno, List.erase_cons_head]
theorem erase_ord {l : List Pr} (h : Ord l) (p : Pr) : Ord (l.erase p) := h.sublist (List.erase_sublist)

/-! ### the least key -/
def leastL (l : List Pr) : Int := (l.head?.getD zp).k
theorem leastL_le {l : List Pr} (h : Ord l) {p : Pr} (hp : p ∈ l) : leastL l ≤ p.k := by
  cases l with
  | nil => simp at hp
  | cons x t =>
    show x.k ≤ p.k
    rcases List.mem_cons.1 hp with rfl | hp
    · exact Int.le_refl _
    · have := (List.pairwise_cons.1 h).1 p hp
      rw [ltP_not] at this
      omega
theorem leastL_mem {l : List Pr} (h : l ≠ []) : ∃ p ∈ l, p.k = leastL l := by
  cases l with
  | nil => exact absurd rfl h
  | cons x t => exact ⟨x, by simp, rfl⟩
/-! ### what is legal -/
def cpr (c : Tri) : Pr := ⟨c.key, c.val⟩
def doL (l : List Pr) (c a : Tri) : List Pr × Bool :=
  if fitsB c a = false then (l, false)
  else if a.op = 0 then (addL l (cpr c), true)
  else if a.op = 3 then (l, l.isEmpty)
  else if a.op = 2 then
    if a.key = leastL l then (if c.op = 1 then (l.erase (cpr a), decide (cpr a ∈ l)) else (l, decide (cpr a ∈ l))) else (l, false)
  else (l, true)
theorem doL_ord {l : List Pr} (h : Ord l) (c a : Tri) : Ord (doL l c a).1 := by
  unfold doL
  repeat' split
  all_goals first | exact h | exact addL_ord h _ | exact erase_ord h _
theorem doL_len (l : List Pr) (c a : Tri) : (doL l c a).1.length ≤ l.length + 1 := by
  unfold doL
  repeat' split
  all_goals first | (simp only [addL_len]; omega) | (have := List.length_erase_le (a := cpr a) (l := l); simp only; omega) | (simp only; omega)
/-- The pairs with the least key stand first. -/
def isLeast (k : Int) (q : Pr) : Bool := q.k == k
theorem isLeast_closed {l : List Pr} (h : Ord l) : Closed (isLeast (leastL l)) l := fun x y hx hy h' hs => by
  simp only [isLeast, beq_iff_eq] at hs ⊢
  have h1 := leastL_le h hx
  rw [ltP_not] at h'
  omega
end Go.Proofs.Ytjmejdalmglehaa
