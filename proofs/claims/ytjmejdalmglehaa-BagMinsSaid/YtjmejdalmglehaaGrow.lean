/- slices.Insert of one pair ahead of others, into a new row; and all ways together. -/
import Derived.Test.YtjmejdalmglehaaShift
namespace Go.Proofs.Ytjmejdalmglehaa
open Go.ChangeShapes Go.WideShapes Go.ChangeAt Go.RowKit
set_option linter.unusedVariables false

set_option maxHeartbeats 4000000 in
set_option maxRecDepth 100000 in
/-- Ahead of others, where there is no room. -/
theorem ins_grow (b : Nat) (pre suf : List Value) (x y : List Pr) (vb : Nat) (p : Pr) (w : World) (hy : y ≠ []) (hr : (x ++ y).length < 1000000) (hb : Blk w b 38 (pre ++ encP (x ++ y) ++ suf).toArray) (hv : Blk w vb 38 p.cs) :
    Calls Try.prog 24 #[.slice (some ⟨b, pre.length, none⟩) (x ++ y).length (x ++ y).length, .int .i64 x.length, .slice (some ⟨vb, 0, none⟩) 1 1] w fun e w' => Anew w ⟨some ⟨b, pre.length, none⟩, (x ++ y).length, (x ++ y).length⟩ (x ++ p :: y) e w' := by
  obtain ⟨i0, hi0, hz0, hzs, hzb⟩ := info_parts info38
  have hyl : 0 < y.length := List.length_pos_iff.2 hy
  have hxy : (x ++ y).length = x.length + y.length := List.length_append
  have hcs : ∀ j v, (encP y)[j]? = some v → w.cell? ((⟨b, pre.length + x.length * 2, none⟩ : Addr).add j) = some v := by
    have := row_get hb x.length
    rwa [List.drop_left] at this
  have hcx : ∀ j v, (encP x)[j]? = some v → w.cell? ((⟨b, pre.length, none⟩ : Addr).add j) = some v := fun j v hj => by
    have := row_get hb 0
    simp only [List.drop_zero, Nat.zero_mul, Nat.add_zero] at this
    refine this j v ?_
    rw [encP_append, List.getElem?_append_left (List.getElem?_eq_some_iff.1 hj).1]
    exact hj
  have hold : (Builtin.firstCells i0.size x.length (.slice (some ⟨b, pre.length, none⟩) x.length (x ++ y).length)).run Try.prog w.drew = .ok (encP x).toArray w.drew := by
    rw [hzs]
    exact run_firstCells_some w.drew 2 x.length _ x.length _ (encP x) (by rw [encP_len]; omega) hcx
  have hrz : ∀ ty, (Builtin.append_ #[24, 3] ty #[.slice (some ⟨b, pre.length, none⟩) x.length (x ++ y).length, .int .i64 (((x ++ y).length : Int) + 1 - (x.length : Int))]).run Try.prog w =
      .ok (.slice (some ⟨w.heap.size, 0, none⟩) ((x ++ y).length + 1) (grownCap w ((x ++ y).length + 1) (x ++ y).length 38)) (w.drew.alloc (.cells ((encP x).toArray ++ Builtin.zeroCells zp.val.cells (y.length + 1) ++ Builtin.zeroCells zp.val.cells (grownCap w ((x ++ y).length + 1) (x ++ y).length 38 - ((x ++ y).length + 1))) 38)) := fun ty => by
    have h := Lib.run_append_grow_zeros w 24 3 ty 38 i0 _ .i64 .i64 Try.underlying24 Try.underlying3 hi0 hz0 (some ⟨b, pre.length, none⟩) x.length (x ++ y).length (encP x) hold (y.length + 1) (by omega) (by omega) (by omega) (by omega) (by rw [hzb]; omega) (by rw [hzb]; exact growslice_fits (by omega) (by omega))
    rw [show x.length + (y.length + 1) = (x ++ y).length + 1 by omega] at h
    rw [show ((x ++ y).length : Int) + 1 - (x.length : Int) = ((y.length + 1 : Nat) : Int) by omega]
    exact h
  have hG := grownCap_ge w ((x ++ y).length + 1) (x ++ y).length 38
  have hG2 := grownCap_le_maxLen w ((x ++ y).length + 1) (x ++ y).length 38 (by unfold maxLen; omega)
  generalize grownCap w ((x ++ y).length + 1) (x ++ y).length 38 = G at *
  obtain ⟨Z, hZ⟩ : ∃ Z, Z = encP (List.replicate (G - ((x ++ y).length + 1)) zp) := ⟨_, rfl⟩
  obtain ⟨Y, hY⟩ : ∃ Y, Y = encP (List.replicate y.length zp) := ⟨_, rfl⟩
  have eR : (encP x).toArray ++ Builtin.zeroCells zp.val.cells (y.length + 1) ++ Builtin.zeroCells zp.val.cells (G - ((x ++ y).length + 1)) = (encP x ++ zp.cs.toList ++ (Y ++ Z)).toArray := by
    rw [zeros_array, zeros_array, ← hZ, List.replicate_succ, encP_cons, ← hY]
    simp [List.append_assoc]
  rw [eR] at hrz
  have hYl : Y.length = (encP y).length := by rw [hY, encP_len, encP_len, List.length_replicate]
  obtain ⟨W1, hW1⟩ : ∃ W1, W1 = w.drew.alloc (.cells (encP x ++ zp.cs.toList ++ (Y ++ Z)).toArray 38) := ⟨_, rfl⟩
  rw [← hW1] at hrz
  have hB1 : Blk W1 w.heap.size 38 (encP x ++ zp.cs.toList ++ (Y ++ Z)).toArray := by rw [hW1]; exact Blk.new w.drew 38 _
  have hV1 : Blk W1 vb 38 p.cs := by rw [hW1]; exact hv.drew.alloc _
  have hO1 : Blk W1 b 38 (pre ++ encP (x ++ y) ++ suf).toArray := by rw [hW1]; exact hb.drew.alloc _
  have hK1 : Keeps (fun k => (Sl.v ⟨some ⟨b, pre.length, none⟩, (x ++ y).length, (x ++ y).length⟩).ownBlock = some k) w W1 := by rw [hW1]; exact (Keeps.refl _ _).drew.alloc _
  have hbg : b ≠ w.heap.size := by have := hb.lt; omega
  have e1 : (encP x ++ zp.cs.toList ++ (Y ++ Z)).toArray.toList.take (x.length * 2) ++ p.cs.toList ++ (encP x ++ zp.cs.toList ++ (Y ++ Z)).toArray.toList.drop (x.length * 2 + p.cs.toList.length) = encP x ++ p.cs.toList ++ (Y ++ Z) := by
    show (encP x ++ zp.cs.toList ++ (Y ++ Z)).take _ ++ _ ++ (encP x ++ zp.cs.toList ++ (Y ++ Z)).drop _ = _
    exact seg_put (encP x) zp.cs.toList (Y ++ Z) p.cs.toList _ _ (by rw [encP_len]; omega) rfl
  have hcpA : ∀ ty dc, (Builtin.copy_ #[24, 24] ty #[.slice (some ⟨w.heap.size, x.length * 2, none⟩) ((x ++ y).length + 1 - x.length) dc, .slice (some ⟨vb, 0, none⟩) 1 1]).run Try.prog W1 = .ok (goInt (Nat.min 1 ((x ++ y).length + 1 - x.length))) (W1.setRow w.heap.size (encP x ++ p.cs.toList ++ (Y ++ Z)).toArray) := fun ty dc => by
    have := run_copy_two W1 24 24 ty 38 w.heap.size (x.length * 2) ((x ++ y).length + 1 - x.length) dc ⟨vb, 0, none⟩ 1 1 _ 38 p.cs.toList Try.underlying24 size38 hB1
      (by rw [hxy, show Nat.min 1 (x.length + y.length + 1 - x.length) = 1 by simp only [Nat.min_def]; split <;> omega]; rfl) (World.news_of_block hV1) (by simp [encP_len]; omega) (fun u hu => by simp at hu; rcases hu with rfl | rfl <;> rfl)
    rw [e1] at this
    exact this
  obtain ⟨W2, hW2⟩ : ∃ W2, W2 = W1.setRow w.heap.size (encP x ++ p.cs.toList ++ (Y ++ Z)).toArray := ⟨_, rfl⟩
  rw [← hW2] at hcpA
  have hB2 : Blk W2 w.heap.size 38 (encP x ++ p.cs.toList ++ (Y ++ Z)).toArray := by rw [hW2]; exact hB1.row _
  have hO2 : Blk W2 b 38 (pre ++ encP (x ++ y) ++ suf).toArray := by rw [hW2]; exact hO1.rowFar hbg.symm _
  have hK2 : Keeps (fun k => (Sl.v ⟨some ⟨b, pre.length, none⟩, (x ++ y).length, (x ++ y).length⟩).ownBlock = some k) w W2 := by rw [hW2]; exact hK1.setRow (.inr (Nat.le_refl _)) _
  have e2 : (encP x ++ p.cs.toList ++ (Y ++ Z)).toArray.toList.take ((x.length + 1) * 2) ++ encP y ++ (encP x ++ p.cs.toList ++ (Y ++ Z)).toArray.toList.drop ((x.length + 1) * 2 + (encP y).length) = encP (x ++ p :: y) ++ Z := by
    show (encP x ++ p.cs.toList ++ (Y ++ Z)).take _ ++ _ ++ (encP x ++ p.cs.toList ++ (Y ++ Z)).drop _ = _
    rw [← List.append_assoc (encP x ++ p.cs.toList) Y Z, seg_put (encP x ++ p.cs.toList) Y Z (encP y) _ _ (by simp [encP_len]; omega) hYl.symm, encP_append, encP_cons]
    simp only [List.append_assoc]
  have hcpB : ∀ ty dc sc, (Builtin.copy_ #[24, 24] ty #[.slice (some ⟨w.heap.size, (x.length + 1) * 2, none⟩) ((x ++ y).length - x.length) dc, .slice (some ⟨b, pre.length + x.length * 2, none⟩) ((x ++ y).length - x.length) sc]).run Try.prog W2.drew = .ok (goInt (Nat.min ((x ++ y).length - x.length) ((x ++ y).length - x.length))) (W2.drew.setRow w.heap.size (encP (x ++ p :: y) ++ Z).toArray) := fun ty dc sc => by
    have := run_copy_two W2.drew 24 24 ty 38 w.heap.size ((x.length + 1) * 2) ((x ++ y).length - x.length) dc ⟨b, pre.length + x.length * 2, none⟩ ((x ++ y).length - x.length) sc _ 38 (encP y) Try.underlying24 size38 hB2.drew
      (by rw [encP_len, hxy]; simp only [Nat.min_def]; split <;> omega) (by
        have := row_get hO2 x.length
        rw [List.drop_left] at this
        exact this) (by simp [encP_len, hYl]; omega) (encP_one y)
    rw [e2] at this
    exact this
  have HF : Hid (Anew w ⟨some ⟨b, pre.length, none⟩, (x ++ y).length, (x ++ y).length⟩ (x ++ p :: y) (.returned (.slice (some ⟨w.heap.size, 0, none⟩) ((x ++ y).length + 1) G)) (W2.drew.setRow w.heap.size (encP (x ++ p :: y) ++ Z).toArray)) := Lib.hid (by
    have e4 : (x ++ p :: y).length = (x ++ y).length + 1 := by simp; omega
    have := grown_row w (W2.drew.setRow w.heap.size (encP (x ++ p :: y) ++ Z).toArray) ⟨some ⟨b, pre.length, none⟩, (x ++ y).length, (x ++ y).length⟩ (x ++ p :: y) G w.heap.size (by omega) hG2 (Nat.le_refl _) (hK2.drew.setRow (.inr (Nat.le_refl _)) _) (by
      rw [zeros_array, e4, ← hZ]
      have := hB2.drew.row (encP (x ++ p :: y) ++ Z).toArray
      rw [← List.append_toArray] at this
      rwa [← List.append_toArray])
    rw [e4] at this
    exact this)
  generalize W2.drew.setRow w.heap.size (encP (x ++ p :: y) ++ Z).toArray = W3 at *
  clear hB1 hV1 hO1 hK1 hB2 hO2 hK2 e1 e2 eR hcs hcx hold hb hv
  have hil : x.length < (x ++ y).length := by omega
  unfold maxLen at hG2
  generalize x ++ p :: y = l2 at *
  generalize pre.length = o at *
  generalize (x ++ y).length = n at *
  generalize x.length = i at *
  have hz2 : ¬ ((i : Int) = (n : Int)) := by omega
  have hz3 : (n : Int) < (n : Int) + 1 := by omega
  have hw0 : IntKind.i64.wrap ((n : Int) + 1) = (n : Int) + 1 := by rw [IntKind.wrap_i64]; omega
  have hw1 : IntKind.i64.wrap ((i : Int) + 1) = (i : Int) + 1 := by rw [IntKind.wrap_i64]; omega
  have hw2 : IntKind.i64.wrap ((n : Int) + 1 - i) = (n : Int) + 1 - i := by rw [IntKind.wrap_i64]; omega
  have hb1 : (0 : Int) ≤ (i : Int) + 1 := by omega
  have hb0 : (0 : Int) ≤ (n : Int) + 1 := by omega
  have hin : i ≤ n := by omega
  have htn : ((i : Int) + 1).toNat = i + 1 := by omega
  have htn2 : ((n : Int) + 1).toNat = n + 1 := by omega
  have hGi : ¬ (G = i) := by omega
  have hGim : ¬ (G = i + 1) := by omega
  have hci : ¬ (n = i) := by omega
  have hb3 : (i : Int) ≤ (n : Int) + 1 := by omega
  have hb5 : (i : Int) ≤ (n : Int) := by omega
  clear hxy hyl hy hW1 hW2 hZ hY hYl hbg hr
  go_enter Try.func24, Try.ntmps24
  go_wp2_with (first
    | (at_builtin; refine Lib.wpList_append_run _ rfl _ _ 24 3 rfl _ _ rfl rfl _ _ (hrz _) ?_)
    | (at_builtin; refine wpList_copy_runI _ rfl _ _ 24 24 rfl _ _ rfl rfl (hcpA _ _) ?_))

  go_region_law (refine step_copy_runI rfl _ _ 24 24 rfl _ _ (by simp [Act.eval, Act.put]) (by simp [Act.eval, Act.put]) (hcpB _ _ _) ?_)
  go_wp2
  go_ret
  exact HF.out

/-- slices.Insert of one pair. -/
theorem insert_any (s : Sl) (x y : List Pr) (vb : Nat) (p : Pr) (w : World) (h : RowS w s (x ++ y)) (hl : (x ++ y).length < 1000000) (hv : Blk w vb 38 p.cs) (hvb : s.v.ownBlock ≠ some vb) :
    Calls Try.prog 24 #[.slice s.a s.n s.cap, .int .i64 x.length, .slice (some ⟨vb, 0, none⟩) 1 1] w fun e w' => Anew w s (x ++ p :: y) e w' := by
  by_cases hy : y = []
  · subst hy
    simp only [List.append_nil] at *
    have hR := h.reads
    cases h with
    | none_ => exact ins_end_grow nilS [] vb p w hR rfl hl hv
    | row b pre l suf r hs hr hb =>
      cases r with
      | zero => exact ins_end_grow _ x vb p w hR rfl hl hv
      | succ r => exact ins_end_room b pre suf x r vb p w hs hr hb hv
  · generalize hq : x ++ y = q at h
    cases h with
    | none_ =>
      simp at hq
      exact absurd hq.2 hy
    | row b pre l suf r hs hr hb =>
      subst hq
      cases r with
      | zero => exact ins_grow b pre suf x y vb p w hy hl hb hv
      | succ r => exact ins_shift b pre suf x y r vb p w hy hs hr hb hv (fun e => hvb (by rw [e]; rfl))
end Go.Proofs.Ytjmejdalmglehaa
