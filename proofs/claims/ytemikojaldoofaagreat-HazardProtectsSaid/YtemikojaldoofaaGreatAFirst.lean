/- The free list of a machine as at first; the machine that New makes. -/
import Derived.Test.YtemikojaldoofaaGreatAInv
namespace Go.Proofs.YtemikojaldoofaaGreat
open Go.ChangeShapes Go.WideShapes Go.ChangeAt Go.RowKit
set_option linter.unusedVariables false

set_option maxRecDepth 20000

def rise (a : Int) (m : Nat) : List Int := (List.range m).map fun (i : Nat) => a + 1 + i
theorem rise_len (a : Int) (m : Nat) : (rise a m).length = m := by simp [rise]
theorem rise_succ (a : Int) (m : Nat) : rise a (m + 1) = rise a m ++ [a + 1 + m] := by simp [rise, List.range_succ]
theorem rise_nth (a : Int) (m j : Nat) (h : j < m) : nth (rise a m) j = a + 1 + j := by
  unfold nth rise
  rw [List.getD_eq_getElem?_getD, List.getElem?_map, List.getElem?_range h]
  rfl
theorem rise_count (a : Int) (m : Nat) (x : Int) : (rise a m).count x = if a < x ∧ x ≤ a + m then 1 else 0 := by
  induction m with
  | zero => simp [rise]
  | succ m ih =>
    rw [rise_succ, List.count_append, ih, List.count_singleton]
    by_cases e : a + 1 + (m : Int) = x
    · subst e
      rw [if_neg (by omega), if_pos (by simp), if_pos (by omega)]
    · rw [if_neg (c := (a + 1 + (m : Int) == x) = true) (by simpa using e)]
      by_cases q : a < x ∧ x ≤ a + m
      · rw [if_pos q, if_pos (by omega)]
      · rw [if_neg q, if_neg (by omega)]
/-- The free list as at first. -/
def list0 (c : P.Cf) : List Int := rise (P.sent c.al) (c.nd - P.sent c.al).toNat
theorem list0_len {c : P.Cf} (hc : c.Ok) : ((list0 c).length : Int) = c.nd - P.sent c.al := by
  have := hc.n0
  unfold list0; rw [rise_len]; omega
theorem list0_nth {c : P.Cf} (hc : c.Ok) {j : Nat} (h : (j : Int) < c.nd - P.sent c.al) : nth (list0 c) j = P.sent c.al + 1 + j := rise_nth _ _ _ (by omega)
theorem link_word {c : P.Cf} (hc : c.Ok) {m : Int} (h0 : 1 ≤ m) (h1 : m ≤ c.nd) : wordAt (firstMS c).ws (c.link m).toNat = if P.sent c.al < m ∧ m < c.nd then m + 1 else 0 := by
  obtain ⟨g1, g2, g3⟩ := link_ge hc h0 h1
  have hz := hc.steps
  have e3 : c.o3 = c.o2 + c.nd * 1 := rfl
  rw [first_ws hc g2]
  have hp : c.place ((c.link m).toNat : Nat) = (2, 1 + (m - 1), 0) := by
    unfold P.Cf.place
    rw [g3, if_neg (by omega), if_neg (by omega), if_neg (by omega), if_pos (by omega)]
    congr 2; omega
  rw [hp]
  have : firstAt c (2, 1 + (m - 1), 0) = if P.sent c.al < 1 + (m - 1) ∧ 1 + (m - 1) < c.nd then 1 + (m - 1) + 1 else 0 := by simp [firstAt]
  rw [this, show 1 + (m - 1) = m by omega]
theorem free_word {c : P.Cf} (hc : c.Ok) : wordAt (firstMS c).ws 0 = 2 * (P.sent c.al + 1) := by
  have hz := hc.steps
  rw [first_ws hc (i := 0) (by omega)]
  rfl
theorem tags0_at (n m j : Nat) (hj : j < n) (hm : m ≤ j) : G.tagAt (G.tags0 n m) j = 0 := by
  unfold G.tagAt G.tags0
  rw [List.getD_eq_getElem?_getD, List.getElem?_append_right (by simp; omega), List.getElem?_replicate]
  split <;> rfl
theorem tags0_count (n m : Nat) : G.countOf (G.tags0 n m) 1 = m := by
  unfold G.countOf G.tags0
  rw [List.countP_append, List.countP_replicate, List.countP_replicate]
  simp
theorem first_inv {c : P.Cf} (hc : c.Ok) (n : Nat) : Inv c n (list0 c) 0 (firstMS c).ws (ghost0 c) (fun _ => .idle) (fun _ => []) := by
  have hz := hc.steps
  have hn0 := hc.n0
  have hnd := hc.nd
  have hs := P.sent_in c.al
  have hl := list0_len hc
  have hcat : ∀ x, tot n (cat (fun _ => Ph.idle) (fun _ => []) x) = 0 := fun x => tot_zero fun j _ => by simp [cat, Ph.rel]
  refine ⟨first_len hc, ?_, ?_, ?_, fun x => ?_, ?_, ?_, rfl, ?_, fun k _ x hx => by simp at hx, fun k _ x hx => by simp [Ph.rel] at hx, ?_, fun k _ => trivial⟩
  · rw [free_word hc, list0_nth hc (by omega)]; simp; omega
  · intro j hj
    rw [list0_nth hc (by omega), link_word hc (by omega) (by omega)]
    by_cases e : j + 1 < (list0 c).length
    · rw [list0_nth hc (by omega), if_pos (by omega)]; omega
    · rw [nth_end (by omega), if_neg (by omega)]
  · intro m h0 h1
    rw [link_word hc h0 h1]
    split <;> omega
  · rw [hcat, list0, rise_count]
    by_cases q : P.sent c.al < x ∧ x ≤ c.nd
    · rw [if_pos q, if_pos (by omega)]
    · rw [if_neg q, if_neg (by omega)]
  · rw [tot_zero fun j _ => by simp [Ph.rel]]
    omega
  · show (G.tags0 _ _).length = _
    exact G.tags0_len (by omega)
  · intro x hx
    have h1 : 0 < (list0 c).count x := List.count_pos_iff.2 hx
    rw [list0, rise_count] at h1
    have h2 : P.sent c.al < x ∧ x ≤ P.sent c.al + ((c.nd - P.sent c.al).toNat : Nat) := by
      by_cases q : P.sent c.al < x ∧ x ≤ P.sent c.al + ((c.nd - P.sent c.al).toNat : Nat)
      · exact q
      · rw [if_neg q] at h1; omega
    exact tags0_at _ _ _ (by omega) (by omega)
  · show G.countOf (G.tags0 _ _) 1 = _
    rw [tags0_count, tot_zero fun j _ => by simp]
    omega

theorem calm_mk {ms : MS} {n s : Nat} (h : Calm ms n s) : ms = mk ms.ws ms.st := by
  obtain ⟨ws, st, wa, log⟩ := ms
  have := h.wa
  have := h.log
  simp_all
theorem first_mk {c : P.Cf} (hc : c.Ok) : firstMS c = mk (firstMS c).ws (firstMS c).st ∧ 0 ≤ (firstMS c).st ∧ (firstMS c).st ≤ 100 := by
  have h1 := (((calm0 c.size.toNat).free c hc).sent c hc)
  exact ⟨calm_mk h1, h1.st0, Int.le_trans h1.st1 (by omega)⟩
def ts0 (cs : Array Value) : Nat → Th := fun i => ⟨[], 0, 0, 0, fun j => (cs[i * 10 + j]?).getD (.bool false)⟩
theorem born_mac {c : P.Cf} (hc : c.Ok) {n g t : Nat} {bs : List Int} {w W : World} {Cb Pb B Fb T : Nat} {ad : Option Addr} {cap : Nat} {O : Nat → Prop} (h : Amid c n bs w Cb Pb B Fb T ad cap (firstMS c) (some (g, t, ghost0 c)) c.th.toNat O W) :
    ∃ X cs, Mac c B Fb T X (AS g t (firstMS c).ws (firstMS c).st (ghost0 c) (ts0 cs)) W ∧ (∀ k, X k → w.heap.size ≤ k) ∧ (∀ i, i < c.th.toNat → ThIs cs c.lv.toNat i W (fun p => w.heap.size ≤ p ∧ ¬ O p)) ∧ (∀ k, X k → k = T ∨ O k) ∧ Blk W T 48 cs := by
  obtain ⟨cs, b1, b2, b3⟩ := h.thr
  have hm := h.mach
  rw [(first_mk hc).1] at hm
  refine ⟨fun k => k = T ∨ O k ∨ ∃ i, i < c.th.toNat ∧ ((fun _ => .slice none 0 0 : Nat → Value) i).ownBlock = some k, cs, ⟨O, cs, fun _ => .slice none 0 0, rfl, hm, b1, b2, fun i hi => ?_, fun i j _ _ _ k e => by cases e⟩, ?_, b3, ?_, b1⟩
  · obtain ⟨p, s, q, hc', -⟩ := b3 i hi
    have e : 10 * i = i * 10 := by omega
    rw [e] at hc'
    refine ⟨hc' 1 (by omega), hc' 2 (by omega), hc' 3 (by omega), hc' 4 (by omega), ⟨rfl, .inl ⟨rfl, rfl⟩⟩, fun j hj => ?_⟩
    have hlt : i * 10 + j < cs.size := by unfold Oth at hj; omega
    show _ = some ((cs[i * 10 + j]?).getD (.bool false))
    rw [Array.getElem?_eq_getElem hlt]
    rfl
  · rintro k (rfl | hk | ⟨i, _, hk⟩)
    · exact h.tl
    · exact h.low k hk
    · cases hk
  · rintro k (hk | hk | ⟨i, _, hk⟩)
    · exact .inl hk
    · exact .inr hk
    · cases hk
theorem ts0_v {cs : Array Value} {lv i j : Nat} {W : World} {Q : Nat → Prop} (h : ThIs cs lv i W Q) (hj : j < 10) : ∃ p s q, (ts0 cs i).v j = ((thCs i p s q lv)[j]?).getD (.bool false) ∧ Q p ∧ Q s ∧ Q q ∧ Blk W p 24 (zeros lv) ∧ Blk W s 24 (zeros lv) ∧ Blk W q 24 (zeros lv) := by
  obtain ⟨p, s, q, h1, h2⟩ := h
  exact ⟨p, s, q, by show (cs[i * 10 + j]?).getD _ = _; rw [show i * 10 + j = 10 * i + j by omega, h1 j hj], h2⟩
end Go.Proofs.YtemikojaldoofaaGreat
