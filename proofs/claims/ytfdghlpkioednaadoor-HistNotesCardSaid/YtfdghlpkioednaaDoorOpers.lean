/- Opers, by the program. -/
import Derived.Test.YtfdghlpkioednaaDoorSame
namespace Go.Proofs.YtfdghlpkioednaaDoor
open Go.ChangeShapes Go.WideShapes Go.ChangeAt Go.RowKit
set_option linter.unusedVariables false

theorem encO_cons (x : Opr) (l : List Opr) : encO (x :: l) = x.cs.toList ++ encO l := rfl
theorem encO_put : ∀ (l : List Opr) (p : Nat) (t f o : Int) (c z a : Tri) (k : Int), l[p]? = some ⟨t, c, z, f, o⟩ →
    ((((encO l).set (p * 9 + 4) (.int .i64 a.op)).set (p * 9 + 5) (.int .u32 a.key)).set (p * 9 + 6) (.int .u32 a.val)).set (p * 9 + 8) (.int .i64 k) = encO (l.set p ⟨t, c, a, f, k⟩)
  | [], p, _, _, _, _, _, _, _, h => by simp at h
  | x :: l, 0, t, f, o, c, z, a, k, h => by
    obtain rfl : x = ⟨t, c, z, f, o⟩ := by simpa using h
    simp [encO]
  | x :: l, p + 1, t, f, o, c, z, a, k, h => by
    have ih := encO_put l p t f o c z a k (by simpa using h)
    have hl : x.cs.toList.length = 9 := rfl
    have e : ∀ m, (p + 1) * 9 + m = 9 + (p * 9 + m) := fun m => by omega
    rw [List.set_cons_succ, encO_cons, encO_cons, ← ih]
    simp only [e]
    rw [List.set_append_right _ _ (by rw [hl]; omega), List.set_append_right _ _ (by rw [hl]; omega), List.set_append_right _ _ (by rw [hl]; omega), List.set_append_right _ _ (by rw [hl]; omega)]
    simp only [hl, Nat.add_sub_cancel_left]

/-- Amid Opers: the operations of the first k events, and where the last one of each thread lies, of the first q. -/
structure OpS (w : World) (l : List Ev) (L k q : Nat) (o : Sl) (W : World) : Prop where
  bel : Below w.heap.size w W
  row : W.ownsRow w.heap.size 50 9 (.slice o.a o.n o.cap) (ops (ith l) k).length (encO (ops (ith l) k))
  lo : w.heap.size ≤ L
  last : ∃ r : List Int, r.length = 6 ∧ Blk W L 60 (r.map (Value.int .i64)).toArray ∧ ∀ t j : Nat, opn (ith l) q t = some j → t ≤ 5 → r[t]? = some ((beg (ith l) j).length : Int)
theorem OpS.start {w W1 : World} {l : List Ev} (h : Below w.heap.size w W1) : OpS w l W1.heap.size 0 0 nilS (W1.alloc (.cells #[.int .i64 0, .int .i64 0, .int .i64 0, .int .i64 0, .int .i64 0, .int .i64 0] 60)) :=
  ⟨h.alloc h.size _, World.ownsRow_nil _ _ _ _, h.size, [0, 0, 0, 0, 0, 0], rfl, Blk.new _ _ _, fun t j h => by cases h⟩
theorem OpS.alloc {w W : World} {l : List Ev} {L k q : Nat} {o : Sl} (h : OpS w l L k q o W) (b : Obj) : OpS w l L k q o (W.alloc b) := by
  obtain ⟨r, h1, h2, h3⟩ := h.last
  exact ⟨h.bel.alloc h.bel.size _, h.row.alloc b, h.lo, r, h1, h2.alloc b, h3⟩
theorem OpS.len {w W : World} {l : List Ev} {L k q : Nat} {o : Sl} (h : OpS w l L k q o W) : o.n = (ops (ith l) k).length := (Reads.of_own h.row).2
theorem OpS.ltL {w W : World} {l : List Ev} {L k q : Nat} {o : Sl} (h : OpS w l L k q o W) : L < W.heap.size := by
  obtain ⟨r, h1, h2, h3⟩ := h.last
  exact h2.lt
/-- The place of a thread's call that isn't answered. -/
theorem OpS.lastAt {w W : World} {l : List Ev} {L k q : Nat} {o : Sl} (h : OpS w l L k q o W) {t j : Nat} (hj : opn (ith l) q t = some j) (ht : t ≤ 5) : W.cell? ⟨L, t, none⟩ = some (.int .i64 ((beg (ith l) j).length : Int)) := by
  obtain ⟨r, h1, h2, h3⟩ := h.last
  rw [h2.cell]
  simp [h3 t j hj ht]
theorem OpS.lastFree {w W : World} {l : List Ev} {L k q : Nat} {o : Sl} (h : OpS w l L k q o W) (t : Nat) : W.frozen? ⟨L, t, none⟩ = false := by
  obtain ⟨r, h1, h2, h3⟩ := h.last
  exact h2.frozen t
theorem OpS.lastHas {w W : World} {l : List Ev} {L k q : Nat} {o : Sl} (h : OpS w l L k q o W) {t : Nat} (ht : t ≤ 5) : ∃ u, W.cell? ⟨L, t, none⟩ = some u := by
  obtain ⟨r, h1, h2, h3⟩ := h.last
  rw [h2.cell]
  exact ⟨_, Array.getElem?_eq_getElem (by simp; omega)⟩
theorem OpS.setL {w W : World} {l : List Ev} {L k : Nat} {o : Sl} (h : OpS w l L k k o W) (hb : (ith l k).b = false) {t : Nat} (ht : (ith l k).t = t) (t5 : t ≤ 5) :
    OpS w l L k (k + 1) o (W.setCell ⟨L, t, none⟩ (.int .i64 (ops (ith l) k).length)) := by
  obtain ⟨r, h1, h2, h3⟩ := h.last
  have hn := row_not h.row h2 (by decide)
  refine ⟨h.bel.setCell (p := ⟨L, t, none⟩) h.lo _, row_agree h.row fun j e => Below.heap_setCell _ _ _ _ (fun e2 => hn (by rw [e, e2])), h.lo, r.set t (ops (ith l) k).length, by simpa using h1, ?_, fun t' j hj ht' => ?_⟩
  · have := h2.set t (.int .i64 (ops (ith l) k).length)
    rw [List.map_set, ← List.setIfInBounds_toArray]
    exact this
  · rw [opn, ht, hb] at hj
    rw [List.getElem?_set]
    by_cases e : t = t'
    · subst e
      rw [if_pos rfl] at hj ⊢
      obtain rfl : k = j := by simpa using hj
      rw [if_pos (by omega), ops_len]
    · rw [if_neg (by omega)] at hj
      rw [if_neg e]
      exact h3 t' j hj ht'
theorem OpS.push {w W w3 : World} {l : List Ev} {L k : Nat} {o : Sl} (h : OpS w l L k (k + 1) o W) (hr : rightN (ith l) (k + 1) = true) (hb : (ith l k).b = false) {g cap : Nat} {b : Obj}
    (hown : w3.ownsRow w.heap.size 50 9 (.slice (some ⟨g, 0, none⟩) ((ops (ith l) k).length + 1) cap) ((ops (ith l) k).length + 1) (encO (ops (ith l) k) ++ (Opr.cs ⟨(ith l k).t, (ith l k).c, zt, k, -1⟩).toList))
    (hgrow : (W.alloc b).grownBy w3 (Value.slice o.a o.n o.cap).ownBlock) : OpS w l L (k + 1) (k + 1) ⟨some ⟨g, 0, none⟩, (ops (ith l) k).length + 1, cap⟩ w3 := by
  obtain ⟨r, h1, h2, h3⟩ := h.last
  have hn := row_not h.row h2 (by decide)
  refine ⟨(h.bel.alloc h.bel.size _).grown hgrow (by have := h.bel.size; simp; omega) (fun j e => (h.row.lt j e).1), ?_, h.lo, r, h1, ?_, h3⟩
  · rw [ops_begin hr hb, List.length_append, encO_snoc]
    exact hown
  · exact (h2.alloc b).agree (hgrow.block L (by have := h2.lt; simp; omega) (fun e => hn e.symm))
theorem OpS.put {w W : World} {l : List Ev} {L k j : Nat} {o : Sl} (h : OpS w l L k k o W) (hb : (ith l k).b = true) (hj : opn (ith l) k (ith l k).t = some j) :
    (beg (ith l) j).length < (ops (ith l) k).length ∧ ∃ g, o.a = some ⟨g, 0, none⟩ ∧ (∀ i, W.frozen? ⟨g, i, none⟩ = false) ∧ (∀ i, i < 9 → ∃ u, W.cell? ⟨g, (beg (ith l) j).length * 9 + i, none⟩ = some u) ∧
      OpS w l L (k + 1) (k + 1) o ((((W.setCell ⟨g, (beg (ith l) j).length * 9 + 4, none⟩ (.int .i64 (ith l k).a.op)).setCell ⟨g, (beg (ith l) j).length * 9 + 5, none⟩ (.int .u32 (ith l k).a.key)).setCell
        ⟨g, (beg (ith l) j).length * 9 + 6, none⟩ (.int .u32 (ith l k).a.val)).setCell ⟨g, (beg (ith l) j).length * 9 + 8, none⟩ (.int .i64 k)) := by
  obtain ⟨r, h1, h2, h3⟩ := h.last
  obtain ⟨o1, o2⟩ := ops_back hb hj
  have hlt := (List.getElem?_eq_some_iff.1 o1).1
  refine ⟨hlt, ?_⟩
  have hn := row_not h.row h2 (by decide)
  obtain ⟨g, cap, hv, hg, hg2⟩ := h.row.form (by omega)
  obtain ⟨oa, on, oc⟩ := o
  simp only [Value.slice.injEq] at hv
  obtain ⟨rfl, rfl, rfl⟩ := hv
  have hrow : W.ownsRow w.heap.size 50 9 (.slice (some ⟨g, 0, none⟩) (ops (ith l) k).length oc) (ops (ith l) k).length (encO (ops (ith l) k)) := h.row
  have hgL : L ≠ g := fun e => hn (by rw [e]; rfl)
  refine ⟨g, rfl, fun i => hrow.frozenAt i, fun i hi => ?_, ?_⟩
  · rw [hrow.cellAt _ (by omega)]
    exact ⟨_, List.getElem?_eq_getElem (by rw [encO_len]; omega)⟩
  · have s1 := hrow.stored ((beg (ith l) j).length * 9 + 4) (.int .i64 (ith l k).a.op)
    have s2 := s1.1.stored ((beg (ith l) j).length * 9 + 5) (.int .u32 (ith l k).a.key)
    have s3 := s2.1.stored ((beg (ith l) j).length * 9 + 6) (.int .u32 (ith l k).a.val)
    have s4 := s3.1.stored ((beg (ith l) j).length * 9 + 8) (.int .i64 k)
    refine ⟨(((h.bel.setCell (p := ⟨g, _, none⟩) hg _).setCell (p := ⟨g, _, none⟩) hg _).setCell (p := ⟨g, _, none⟩) hg _).setCell (p := ⟨g, _, none⟩) hg _, ?_, h.lo, r, h1, ?_, fun t' j' hj' ht' => ?_⟩
    · have e := s4.1
      rw [encO_put _ _ _ _ _ _ _ _ _ o1, ← o2] at e
      rw [show (ops (ith l) (k + 1)).length = (ops (ith l) k).length by rw [o2, List.length_set]]
      exact e
    · exact (((h2.far (p := ⟨g, _, none⟩) hgL _).far (p := ⟨g, _, none⟩) hgL _).far (p := ⟨g, _, none⟩) hgL _).far (p := ⟨g, _, none⟩) hgL _
    · rw [opn, hb] at hj'
      simp only [if_true] at hj'
      split at hj'
      · cases hj'
      · exact h3 t' j' hj' ht'
end Go.Proofs.YtfdghlpkioednaaDoor
