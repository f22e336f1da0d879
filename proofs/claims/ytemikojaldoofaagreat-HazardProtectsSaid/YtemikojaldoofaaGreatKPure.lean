/- The words of a new machine are the document's. -/
import Derived.Test.YtemikojaldoofaaGreatPPush
import Derived.Test.YtemikojaldoofaaGreatKNew
namespace Go.Proofs.YtemikojaldoofaaGreat
open Go.ChangeShapes Go.WideShapes Go.ChangeAt Go.RowKit
set_option linter.unusedVariables false


set_option maxRecDepth 20000

theorem wordAt_set (ws : List Int) (a i : Nat) (x : Int) : wordAt (ws.set a x) i = if a = i ∧ i < ws.length then x else wordAt ws i := by
  simp only [wordAt, List.getD_eq_getElem?_getD, List.getElem?_set]
  by_cases h : a = i
  · subst h
    by_cases h2 : a < ws.length
    · simp [h2]
    · simp [h2]
  · simp [h]
theorem put_ws {ms : MS} {n s : Nat} (h : Calm ms n s) {a : Int} (h0 : 0 ≤ a) (h1 : a < n) (x : Int) (i : Nat) : wordAt (ms.put a x).ws i = if a = i then x else wordAt ms.ws i := by
  have hr : rightB 1 a 0 ms.ws.length = true := by unfold rightB inB; rw [h.len]; simp; omega
  have e : (ms.put a x).ws = ms.ws.set a.toNat x := by
    unfold MS.put msR
    rw [if_pos hr]
    simp [MS.counted, act]
  rw [e, wordAt_set, h.len]
  by_cases hi : a = i
  · rw [if_pos (by omega), if_pos hi]
  · rw [if_neg (by omega), if_neg hi]
theorem links_ws {c : P.Cf} (hc : c.Ok) {ms : MS} {s : Nat} (h : Calm ms c.size.toNat s) {f : Int} (hf : 1 ≤ f) (i : Nat) : ∀ k : Nat, f + k ≤ c.nd + 1 →
    wordAt (linksMS c f ms k).ws i = if c.o2 + (f - 1) ≤ i ∧ (i : Int) < c.o2 + (f - 1) + k then (i : Int) - c.o2 + 2 else wordAt ms.ws i
  | 0, _ => by rw [if_neg (by omega)]; rfl
  | k + 1, hk => by
    obtain ⟨e, l0, l1⟩ := link_at hc (n := f + k) (by omega) (by omega)
    have hz := hc.steps
    show wordAt ((linksMS c f ms k).put (c.link (f + k)) (f + k + 1)).ws i = _
    rw [put_ws (h.links c f k) l0 (by omega), links_ws hc h hf i k (by omega), e]
    by_cases h1 : c.o2 + (f + k - 1) = i
    · rw [if_pos h1, if_pos (by omega)]; omega
    · rw [if_neg h1]
      by_cases h2 : c.o2 + (f - 1) ≤ i ∧ (i : Int) < c.o2 + (f - 1) + k
      · rw [if_pos h2, if_pos (by omega)]
      · rw [if_neg h2, if_neg (by omega)]
theorem rows_ws {c : P.Cf} (hc : c.Ok) (ha : c.al ≠ 0) {ms : MS} {s : Nat} (h : Calm ms c.size.toNat s) (i : Nat) : ∀ k : Nat, (k : Int) ≤ c.lv →
    wordAt (rowsMS c ms k).ws i = if c.o3 + 5 ≤ i ∧ (i : Int) < c.o3 + 5 + k then 4 else wordAt ms.ws i
  | 0, _ => by rw [if_neg (by omega)]; rfl
  | k + 1, hk => by
    have hw : c.width = 5 + c.lv := by unfold P.Cf.width; rw [if_neg ha]
    obtain ⟨e, l0, l1⟩ := node_at hc (n := 1) (f := 5 + k) (by omega) (by have := hc.nd; omega) (by omega) (by omega)
    have hz := hc.steps
    show wordAt ((rowsMS c ms k).put (c.node 1 (5 + k)) 4).ws i = _
    rw [put_ws (h.rows c k) l0 (by omega), rows_ws hc ha h i k (by omega), e]
    by_cases h1 : c.o3 + (1 - 1) * c.width + (5 + (k : Int)) = i
    · rw [if_pos h1, if_pos (by omega)]
    · rw [if_neg h1]
      by_cases h2 : c.o3 + 5 ≤ i ∧ (i : Int) < c.o3 + 5 + k
      · rw [if_pos h2, if_pos (by omega)]
      · rw [if_neg h2, if_neg (by omega)]

/-- The word that the document has at a place. -/
def firstAt (c : P.Cf) (x : Int × Int × Int) : Int :=
  if x.1 = 0 then (if x.2.1 = 0 then 2 * (P.sent c.al + 1) else if x.2.1 = 2 then 1 else 0)
  else if x.1 = 2 then (if P.sent c.al < x.2.1 ∧ x.2.1 < c.nd then x.2.1 + 1 else 0)
  else if x.1 = 3 ∧ c.al ≠ 0 then (if x.2.1 = 1 ∧ x.2.2 = 3 then c.lv else if x.2.1 = 1 ∧ 5 ≤ x.2.2 then 4 else if x.2.1 = 2 ∧ x.2.2 = 0 then 18446744073709551615 else 0)
  else 0
def firstL (c : P.Cf) : List Int := (c.upto c.size.toNat).map (firstAt c)

theorem free_ws {c : P.Cf} (hc : c.Ok) {i : Nat} (hi : i < c.size.toNat) :
    wordAt (freeMS c (ms0 c.size.toNat)).ws i = if (i : Int) = 0 then 2 * (P.sent c.al + 1) else if i = 2 then 1 else if c.o2 + P.sent c.al ≤ i ∧ (i : Int) < c.o2 + c.nd - 1 then (i : Int) - c.o2 + 2 else 0 := by
  have hz := hc.steps
  obtain ⟨d1, d2⟩ := P.sent_in c.al
  have hn0 := hc.n0
  have hnd := hc.nd
  have k0 := calm0 c.size.toNat
  have k1 := k0.put 0 ((P.sent c.al + 1) * 2)
  have k2 := k1.put 2 1
  unfold freeMS
  rw [links_ws hc k2 (by omega) i _ (by omega), put_ws k1 (by omega) (by omega), put_ws k0 (by omega) (by omega)]
  have z : wordAt (ms0 c.size.toNat).ws i = 0 := by simp [ms0, wordAt, List.getD_eq_getElem?_getD, hi]
  rw [z]
  by_cases h0 : (i : Int) = 0
  · rw [if_neg (by omega), if_neg (by omega), if_pos (by omega), if_pos h0]; omega
  · rw [if_neg h0]
    by_cases h2 : i = 2
    · rw [if_neg (by omega), if_pos (by omega), if_pos h2]
    · rw [if_neg h2, if_neg (show ¬ (2 : Int) = i by omega), if_neg (show ¬ (0 : Int) = i by omega)]
      by_cases h3 : c.o2 + P.sent c.al ≤ i ∧ (i : Int) < c.o2 + c.nd - 1
      · rw [if_pos h3, if_pos (by omega)]
      · rw [if_neg h3, if_neg (by omega)]

theorem div_small {x w : Int} (h0 : 0 ≤ x) (h1 : x < w) : x / w = 0 ∧ x % w = x := ⟨Int.ediv_eq_zero_of_lt h0 h1, Int.emod_eq_of_lt h0 h1⟩
theorem first_ws {c : P.Cf} (hc : c.Ok) {i : Nat} (hi : i < c.size.toNat) : wordAt (firstMS c).ws i = firstAt c (c.place i) := by
  have hz := hc.steps
  obtain ⟨d1, d2⟩ := P.sent_in c.al
  have hn0 := hc.n0
  have hnd := hc.nd
  have hsl := hc.slots
  have hwd := hc.width
  have hlv := hc.l1
  have hlv0 := hc.l0
  have e3 : c.o3 = c.o2 + c.nd * 1 := rfl
  have e4 : c.o4 = c.o3 + c.nd * c.width := rfl
  have hfree := free_ws hc hi
  have hplace : c.place i = if (i : Int) < 0 then (5, 0, 0) else if (i : Int) < 8 then (0, (i : Int), 0) else if (i : Int) < c.o2 then (1, ((i : Int) - 8) / c.slots, ((i : Int) - 8) % c.slots) else if (i : Int) < c.o3 then (2, 1 + ((i : Int) - c.o2), 0)
    else if (i : Int) < c.o4 then (3, 1 + ((i : Int) - c.o3) / c.width, ((i : Int) - c.o3) % c.width) else if (i : Int) < c.size then (4, (i : Int) - c.o4, 0) else (5, 0, 0) := rfl
  have hfm : wordAt (firstMS c).ws i = if c.al = 0 then wordAt (freeMS c (ms0 c.size.toNat)).ws i else if c.o3 + c.width = i then 18446744073709551615 else if c.o3 + 5 ≤ i ∧ (i : Int) < c.o3 + 5 + c.lv then 4 else if c.o3 + 3 = i then c.lv else wordAt (freeMS c (ms0 c.size.toNat)).ws i := by
    unfold firstMS sentMS
    by_cases ha : c.al = 0
    · rw [if_pos ha, if_pos ha]
    · rw [if_neg ha, if_neg ha]
      have hw : c.width = 5 + c.lv := by unfold P.Cf.width; rw [if_neg ha]
      have hsent : P.sent c.al = 2 := by unfold P.sent; rw [if_neg ha]
      have kf := (calm0 c.size.toNat).free c hc
      have k1 := kf.put (c.node 1 3) c.lv
      obtain ⟨n1, l0, l1⟩ := node_at hc (n := 1) (f := 3) (by omega) (by omega) (by omega) (by omega)
      obtain ⟨n2, l2, l3⟩ := node_at hc (n := 2) (f := 0) (by omega) (by omega) (by omega) (by omega)
      rw [put_ws (k1.rows c _) l2 (by omega), rows_ws hc ha k1 i _ (by omega), put_ws kf l0 (by omega), n1, n2]
      have e1 : (c.o3 + (2 - 1) * c.width + 0 = i) = (c.o3 + c.width = i) := by congr 1; omega
      have e2 : (c.o3 + (1 - 1) * c.width + 3 = i) = (c.o3 + 3 = i) := by congr 1; omega
      have e5 : ((c.lv.toNat : Nat) : Int) = c.lv := by omega
      rw [e5]
      simp only [e1, e2]
  rw [hfm, hfree, hplace]
  rw [if_neg (show ¬ (i : Int) < 0 by omega)]
  by_cases r0 : (i : Int) < 8
  · rw [if_pos r0, if_neg (show ¬ c.o3 + c.width = i by omega), if_neg (show ¬ (c.o3 + 5 ≤ i ∧ (i : Int) < c.o3 + 5 + c.lv) by omega), if_neg (show ¬ c.o3 + 3 = i by omega), if_neg (show ¬ (c.o2 + P.sent c.al ≤ i ∧ (i : Int) < c.o2 + c.nd - 1) by omega)]
    simp only [firstAt, if_true]
    by_cases h0 : (i : Int) = 0
    · simp [h0]
    · by_cases h2 : i = 2
      · subst h2; simp
      · have h2' : ¬ (i : Int) = 2 := by omega
        simp [h2, h2']
  rw [if_neg r0, if_neg (show ¬ (i : Int) = 0 by omega), if_neg (show ¬ i = 2 by omega)]
  by_cases r1 : (i : Int) < c.o2
  · rw [if_pos r1, if_neg (show ¬ c.o3 + c.width = i by omega), if_neg (show ¬ (c.o3 + 5 ≤ i ∧ (i : Int) < c.o3 + 5 + c.lv) by omega), if_neg (show ¬ c.o3 + 3 = i by omega), if_neg (show ¬ (c.o2 + P.sent c.al ≤ i ∧ (i : Int) < c.o2 + c.nd - 1) by omega)]
    simp [firstAt]
  rw [if_neg r1]
  by_cases r2 : (i : Int) < c.o3
  · rw [if_pos r2, if_neg (show ¬ c.o3 + c.width = i by omega), if_neg (show ¬ (c.o3 + 5 ≤ i ∧ (i : Int) < c.o3 + 5 + c.lv) by omega), if_neg (show ¬ c.o3 + 3 = i by omega)]
    have : firstAt c (2, 1 + ((i : Int) - c.o2), 0) = if P.sent c.al < 1 + ((i : Int) - c.o2) ∧ 1 + ((i : Int) - c.o2) < c.nd then 1 + ((i : Int) - c.o2) + 1 else 0 := by simp [firstAt]
    rw [this]
    by_cases h3 : c.o2 + P.sent c.al ≤ i ∧ (i : Int) < c.o2 + c.nd - 1
    · rw [if_pos h3, if_pos (show P.sent c.al < 1 + ((i : Int) - c.o2) ∧ 1 + ((i : Int) - c.o2) < c.nd by omega)]
      simp only [ite_self]; omega
    · rw [if_neg h3, if_neg (show ¬ (P.sent c.al < 1 + ((i : Int) - c.o2) ∧ 1 + ((i : Int) - c.o2) < c.nd) by omega)]
      simp
  rw [if_neg r2, if_neg (show ¬ (c.o2 + P.sent c.al ≤ i ∧ (i : Int) < c.o2 + c.nd - 1) by omega)]
  by_cases r3 : (i : Int) < c.o4
  · rw [if_pos r3]
    by_cases ha : c.al = 0
    · rw [if_pos ha]; simp [firstAt, ha]
    · have hw : c.width = 5 + c.lv := by unfold P.Cf.width; rw [if_neg ha]
      have hsent : P.sent c.al = 2 := by unfold P.sent; rw [if_neg ha]
      rw [if_neg ha]
      have hF : ∀ q r : Int, firstAt c (3, 1 + q, r) = if q = 0 ∧ r = 3 then c.lv else if q = 0 ∧ 5 ≤ r then 4 else if q = 1 ∧ r = 0 then 18446744073709551615 else 0 := fun q r => by
        have a1 : (1 + q = 1) = (q = 0) := by apply propext; omega
        have a2 : (1 + q = 2) = (q = 1) := by apply propext; omega
        simp [firstAt, ha, a1, a2]
      rw [hF]
      by_cases hlow : (i : Int) - c.o3 < c.width
      · obtain ⟨v1, v2⟩ := div_small (by omega : 0 ≤ (i : Int) - c.o3) hlow
        rw [v1, v2, if_neg (show ¬ c.o3 + c.width = i by omega)]
        by_cases h5 : c.o3 + 5 ≤ i
        · rw [if_pos (show c.o3 + 5 ≤ i ∧ (i : Int) < c.o3 + 5 + c.lv by omega), if_neg (show ¬ ((0 : Int) = 0 ∧ (i : Int) - c.o3 = 3) by omega), if_pos (show (0 : Int) = 0 ∧ 5 ≤ (i : Int) - c.o3 by omega)]
        · rw [if_neg (show ¬ (c.o3 + 5 ≤ i ∧ (i : Int) < c.o3 + 5 + c.lv) by omega)]
          by_cases h4 : c.o3 + 3 = i
          · rw [if_pos h4, if_pos (show (0 : Int) = 0 ∧ (i : Int) - c.o3 = 3 by omega)]
          · rw [if_neg h4, if_neg (show ¬ ((0 : Int) = 0 ∧ (i : Int) - c.o3 = 3) by omega), if_neg (show ¬ ((0 : Int) = 0 ∧ 5 ≤ (i : Int) - c.o3) by omega), if_neg (show ¬ ((0 : Int) = 1 ∧ (i : Int) - c.o3 = 0) by omega)]
      · have q1 : 1 ≤ ((i : Int) - c.o3) / c.width := by
          have := (Int.le_ediv_iff_mul_le (c := c.width) (a := 1) (b := (i : Int) - c.o3) (by omega)).2 (by omega)
          exact this
        have hdm := Int.mul_ediv_add_emod ((i : Int) - c.o3) c.width
        have hr0 := Int.emod_nonneg ((i : Int) - c.o3) (show c.width ≠ 0 by omega)
        have hr1 := Int.emod_lt_of_pos ((i : Int) - c.o3) (show 0 < c.width by omega)
        rw [if_neg (show ¬ (c.o3 + 5 ≤ i ∧ (i : Int) < c.o3 + 5 + c.lv) by omega), if_neg (show ¬ c.o3 + 3 = i by omega)]
        generalize hq : ((i : Int) - c.o3) / c.width = q at *
        generalize hr : ((i : Int) - c.o3) % c.width = r at *
        rw [if_neg (show ¬ (q = 0 ∧ r = 3) by omega), if_neg (show ¬ (q = 0 ∧ 5 ≤ r) by omega)]
        by_cases h1 : q = 1
        · subst h1
          by_cases h2 : r = 0
          · rw [if_pos (show (1 : Int) = 1 ∧ r = 0 from ⟨rfl, h2⟩), if_pos (show c.o3 + c.width = i by omega)]
          · rw [if_neg (show ¬ ((1 : Int) = 1 ∧ r = 0) by omega), if_neg (show ¬ c.o3 + c.width = i by omega)]
        · rw [if_neg (show ¬ (q = 1 ∧ r = 0) by omega)]
          have h3 : ¬ c.o3 + c.width = i := by
            intro e
            have : (i : Int) - c.o3 = c.width := by omega
            rw [this, Int.ediv_self (by omega)] at hq
            omega
          rw [if_neg h3]
  · rw [if_neg r3, if_pos (show (i : Int) < c.size by omega)]
    by_cases ha : c.al = 0
    · rw [if_pos ha]; simp [firstAt]
    · exfalso
      have hp : c.places = 0 := by unfold P.Cf.places; rw [if_neg ha]
      have hs : c.size = c.o4 + c.places * 1 := rfl
      rw [hp] at hs
      omega
theorem first_len {c : P.Cf} (hc : c.Ok) : (firstMS c).ws.length = c.size.toNat := (((calm0 c.size.toNat).free c hc).sent c hc).len
theorem first_calm {c : P.Cf} (hc : c.Ok) : Calm (firstMS c) c.size.toNat 120 := by
  have := ((calm0 c.size.toNat).free c hc).sent c hc
  exact this.mono (by omega)
theorem first_list {c : P.Cf} (hc : c.Ok) : (firstMS c).ws = firstL c := by
  have h0 := first_len hc
  have h1 : (firstL c).length = c.size.toNat := by simp [firstL, P.Cf.upto]
  apply List.ext_getElem (by rw [h0, h1])
  intro i h2 h3
  have hi : i < c.size.toNat := by omega
  have := first_ws hc hi
  simp only [wordAt, List.getD_eq_getElem?_getD, List.getElem?_eq_getElem h2, Option.getD_some] at this
  rw [this]
  simp [firstL, P.Cf.upto]
end Go.Proofs.YtemikojaldoofaaGreat
