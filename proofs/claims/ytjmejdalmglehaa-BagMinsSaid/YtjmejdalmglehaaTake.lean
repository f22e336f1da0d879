/- Take. -/
import Derived.Test.YtjmejdalmglehaaDelete
namespace Go.Proofs.Ytjmejdalmglehaa
open Go.ChangeShapes Go.WideShapes Go.ChangeAt Go.RowKit
set_option linter.unusedVariables false

/-- The first one goes: the slice begins behind it. -/
theorem RowS.tail {W : World} {b : Nat} {pre suf : List Value} {q : Pr} {y : List Pr} {r : Nat} (hs : 2 * r ≤ suf.length) (hr : (q :: y).length + r ≤ maxLen) (hb : Blk W b 38 (pre ++ encP (q :: y) ++ suf).toArray) :
    RowS W (if y.length + r = 0 then ⟨some ⟨b, pre.length, none⟩, 0, 0⟩ else ⟨some ⟨b, pre.length + 2, none⟩, y.length, y.length + r⟩) y := by
  split
  · rename_i h
    obtain rfl : y = [] := List.length_eq_zero_iff.1 (by omega)
    exact .row b pre [] (encP [q] ++ suf) 0 (by omega) (by simp) (by
      have e : pre ++ encP [] ++ (encP [q] ++ suf) = pre ++ encP [q] ++ suf := by simp [encP]
      rw [e]
      exact hb)
  · have := RowS.row (W := W) b (pre ++ q.cs.toList) y suf r hs (by simp at hr; omega) (by
      have e : pre ++ q.cs.toList ++ encP y ++ suf = pre ++ encP (q :: y) ++ suf := by rw [encP_cons]; simp only [List.append_assoc]
      rw [e]
      exact hb)
    have e2 : (pre ++ q.cs.toList).length = pre.length + 2 := by simp
    rw [e2] at this
    exact this

set_option maxRecDepth 100000 in
set_option maxHeartbeats 4000000 in
theorem take_any (B : Nat) (s : Sl) (l : List Pr) (p : Pr) (w : World) (h : BagS w B s l) (ho : Ord l) (hl : l.length < 100000) :
    Calls Try.prog 7 #[.pointer (some ⟨B, 0, none⟩), p.val] w fun e w' => e = .returned (.bool (decide (p ∈ l))) ∧ Turned w B s (l.erase p) w' := by
  have HB := Lib.hid (box1 (w := w) (.cells #[.int .u32 p.k, .int .u32 p.v] 38))
  have c := Blk.new w 38 p.cs
  have c0 := c.cell 0
  have c1 := c.cell 1
  simp at c0 c1
  have KF := find_any B s l p _ (h.below HB.out) ho (by omega)
  have HS := Lib.hid h
  clear c
  by_cases hm : p ∈ l
  case neg =>
    rw [List.erase_of_not_mem hm]
    rw [decide_eq_false hm] at *
    generalize plcP l p = n at *
    obtain ⟨k, v⟩ := p
    dsimp only [Pr.val] at *
    clear h
    go_enter Try.func7, Try.ntmps7
    go_wp2_with fail
    refine KF.mono ?_
    rintro e w1 ⟨rfl, hb⟩
    have HF := Lib.hid (Turned.same HS.out (below_then HB.out hb))
    clear KF c0 c1 hb
    go_wp2
    go_ret
    exact ⟨rfl, HF.out⟩
  case pos =>
    have hlt := plcP_found ho p
    rw [decide_eq_true hm] at hlt
    simp only [Bool.and_eq_true, decide_eq_true_eq] at hlt
    obtain ⟨hlt, hip⟩ := hlt
    have hsp := erase_plc ho hm
    have hll : l = l.take (plcP l p) ++ p :: l.drop (plcP l p + 1) := by
      conv => lhs; rw [← List.take_append_drop (plcP l p) l]
      rw [List.drop_eq_getElem_cons hlt]
      have e1 := ithP_lt hlt
      rw [hip, List.getElem?_eq_getElem hlt] at e1
      rw [Option.some.inj e1]
    have hxl : (l.take (plcP l p)).length = plcP l p := by rw [List.length_take]; omega
    rw [hsp]
    rw [decide_eq_true hm] at *
    generalize l.take (plcP l p) = x at *
    generalize l.drop (plcP l p + 1) = y at *
    generalize plcP l p = n at *
    clear hsp hm hip ho
    subst hll hxl
    have hr0 := h.row
    generalize hq : x ++ p :: y = l at hr0
    cases hr0 with
    | none_ => simp at hq
    | row b pre l suf r hs hr hb =>
    subst hq
    have hBox : Blk w B 26 #[.slice (some ⟨b, pre.length, none⟩) (x ++ p :: y).length ((x ++ p :: y).length + r)] := h.box
    have hnB : b ≠ B := fun e => h.row.not h.box (by decide) (by rw [e]; rfl)
    by_cases hx : x = []
    · subst hx
      have HT := Lib.hid fun W (hW : Below w.heap.size w W) => Turned.then hW (Turned.stored (h.below hW) (RowS.tail hs hr (hb.below hW hb.lt)) (Keeps.refl _ _) (fun k hk => .inl (by
        split at hk <;> exact hk)))
      have HBx := Lib.hid hBox
      have e4 : (([] : List Pr) ++ p :: y).length = y.length + 1 := by simp
      simp only [e4] at *
      clear h hb hr e4 hlt hl
      obtain ⟨k, v⟩ := p
      dsimp only [Pr.val, List.length_nil] at *
      generalize pre.length = o at *
      by_cases hc : y.length + r = 0
      · simp only [if_pos hc] at HT
        have hy0 : y.length = 0 := by omega
        have hr0 : r = 0 := by omega
        simp only [hy0, hr0, Nat.zero_add, Nat.add_zero, List.nil_append] at *
        go_enter Try.func7, Try.ntmps7
        go_wp2_with fail
        refine KF.mono ?_
        rintro e w1 ⟨rfl, hb⟩
        have hb1 := below_then HB.out hb
        have HF := Lib.hid (HT.out w1 hb1)
        have hB2 := HBx.out.below hb1 HBx.out.lt
        have hB3 := hB2.cell 0
        have hB4 := hB2.frozen 0
        simp at hB3
        clear KF c0 c1 hb hb1 HT HB HBx hB2
        go_wp2
        go_ret
        exact ⟨rfl, HF.out⟩
      · simp only [if_neg hc] at HT
        have hc2 : ¬ (y.length + 1 + r = 1) := by omega
        have hc3 : (1 : Int) ≤ (y.length : Int) + 1 + r := by omega
        have hc4 : (1 : Int) ≤ (y.length : Int) + 1 := by omega
        generalize y.length = m at *
        simp only [List.nil_append] at *
        go_enter Try.func7, Try.ntmps7
        go_wp2_with fail
        refine KF.mono ?_
        rintro e w1 ⟨rfl, hb⟩
        have hb1 := below_then HB.out hb
        have HF := Lib.hid (HT.out w1 hb1)
        have hB2 := HBx.out.below hb1 HBx.out.lt
        have hB3 := hB2.cell 0
        have hB4 := hB2.frozen 0
        simp at hB3
        clear KF c0 c1 hb hb1 HT HB HBx hB2
        go_wp2
        go_ret
        exact ⟨rfl, HF.out⟩
    · have hx1 : 0 < x.length := List.length_pos_iff.2 hx
      have KD := Lib.hid fun W (hW : Below w.heap.size w W) => delete_any b pre suf x p y r W hs hr (hb.below hW hb.lt)
      have HT := Lib.hid fun W (hW : Below w.heap.size w W) e W3 ha => Turned.of_anew (W2 := W) (W3 := W3) (l' := x ++ y) (e := e) HS.out hW ha
      have HBx := Lib.hid hBox
      have hz : ¬ ((x.length : Int) = 0) := by omega
      have hw : IntKind.i64.wrap ((x.length : Int) + 1) = (x.length : Int) + 1 := by rw [IntKind.wrap_i64]; omega
      clear h hb hr hlt hl hx hx1
      generalize (x ++ p :: y).length = n at *
      generalize x ++ y = l2 at *
      generalize x.length = i at *
      obtain ⟨k, v⟩ := p
      dsimp only [Pr.val] at *
      go_enter Try.func7, Try.ntmps7
      go_wp2_with fail
      refine KF.mono ?_
      rintro e w1 ⟨rfl, hb⟩
      have hb1 := below_then HB.out hb
      have KD1 := KD.out w1 hb1
      have HT1 := Lib.hid (HT.out w1 hb1)
      have hB2 := HBx.out.below hb1 HBx.out.lt
      have hB3 := hB2.cell 0
      simp at hB3
      clear KF c0 c1 hb hb1 HT HB HBx hB2 KD
      go_wp2_with fail
      refine KD1.mono ?_
      intro e w3 ha
      obtain ⟨s', rfl, hc, hz, HT3⟩ := HT1.out e w3 ha
      have HT4 := Lib.hid HT3
      clear HT3 KD1 HT1 ha
      go_wp2
      go_ret
      exact ⟨rfl, HT4.out⟩
end Go.Proofs.Ytjmejdalmglehaa
