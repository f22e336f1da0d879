/- slices.Insert of one pair ahead of others. -/
import Derived.Test.YtjmejdalmglehaaInsert
namespace Go.Proofs.Ytjmejdalmglehaa
open Go.ChangeShapes Go.WideShapes Go.ChangeAt Go.RowKit
set_option linter.unusedVariables false

theorem overlaps24 (w : World) (a b : Addr) (la ca lb cb : Nat) (hne : a.block ≠ b.block) (csa csb : Array Value) (ha : Blk w a.block 38 csa) (hb : Blk w b.block 38 csb) (h0 : csb.size ≠ 0) (hao : a = ⟨a.block, 0, none⟩) :
    (callFunc 38 #[.slice (some a) la ca, .slice (some b) lb cb]).run Try.prog w = .ok (.value (.bool false)) w := by
  have z38 : ∀ w, (Go.sizeOf 38).run Try.prog w = .ok 2 w := fun w => by
    obtain ⟨i0, hi0, hz0, hzs, hzb⟩ := info_parts info38
    simp [sizeOf, typeInfo, hi0, hzs]
  have sa : w.shape? a.block = some (38, csa.size) := by unfold Blk at ha; simp [World.shape?, ha]
  have sb : w.shape? b.block = some (38, csb.size) := by unfold Blk at hb; simp [World.shape?, hb]
  rw [run_callFunc_extern Try.func38 (by kernel_rfl) (by kernel_rfl) (by kernel_rfl) (e := Extern.SlicesOverlaps.overlaps #[24, 24] #[4]) (by kernel_rfl),
    Lib.run_overlaps_apart w 24 4 38 Try.underlying24 2 z38 a b la ca lb cb hne 38 38 csa.size csb.size sa sb h0 (by rw [hao]; exact ha.frozen 0) (ha.frozen _)]
  rfl

set_option maxHeartbeats 4000000 in
set_option maxRecDepth 100000 in
/-- Ahead of others, where there is room. -/
theorem ins_shift (b : Nat) (pre suf : List Value) (x y : List Pr) (r vb : Nat) (p : Pr) (w : World) (hy : y ≠ []) (hs : 2 * (r + 1) ≤ suf.length) (hr : (x ++ y).length + (r + 1) ≤ maxLen) (hb : Blk w b 38 (pre ++ encP (x ++ y) ++ suf).toArray) (hv : Blk w vb 38 p.cs) (hvb : vb ≠ b) :
    Calls Try.prog 24 #[.slice (some ⟨b, pre.length, none⟩) (x ++ y).length ((x ++ y).length + (r + 1)), .int .i64 x.length, .slice (some ⟨vb, 0, none⟩) 1 1] w fun e w' => Anew w ⟨some ⟨b, pre.length, none⟩, (x ++ y).length, (x ++ y).length + (r + 1)⟩ (x ++ p :: y) e w' := by
  have hyl : 0 < y.length := List.length_pos_iff.2 hy
  have hxy : (x ++ y).length = x.length + y.length := List.length_append
  have hcs : ∀ j v, (encP y)[j]? = some v → w.cell? ((⟨b, pre.length + x.length * 2, none⟩ : Addr).add j) = some v := by
    have := row_get hb x.length
    rwa [List.drop_left] at this
  -- the row's parts
  have eA : pre ++ encP (x ++ y) ++ suf = (pre ++ encP x ++ (encP y).take 2) ++ ((encP y).drop 2 ++ suf.take 2) ++ suf.drop 2 := by
    rw [encP_append]
    conv => lhs; rw [← List.take_append_drop 2 suf, ← List.take_append_drop 2 (encP y)]
    simp only [List.append_assoc]
  have l1 : (pre ++ encP x ++ (encP y).take 2).length = pre.length + (x.length + 1) * 2 := by simp [encP_len]; omega
  have l2 : ((encP y).drop 2 ++ suf.take 2).length = (encP y).length := by simp [encP_len]; omega
  have e1 : (pre ++ encP (x ++ y) ++ suf).toArray.toList.take (pre.length + (x.length + 1) * 2) ++ encP y ++ (pre ++ encP (x ++ y) ++ suf).toArray.toList.drop (pre.length + (x.length + 1) * 2 + (encP y).length) = (pre ++ encP x ++ (encP y).take 2) ++ encP y ++ suf.drop 2 := by
    show (pre ++ encP (x ++ y) ++ suf).take _ ++ _ ++ (pre ++ encP (x ++ y) ++ suf).drop _ = _
    rw [eA, seg_put _ _ _ _ _ _ l1.symm l2.symm]
  have e2 : ((pre ++ encP x ++ (encP y).take 2) ++ encP y ++ suf.drop 2).toArray.toList.take (pre.length + x.length * 2) ++ p.cs.toList ++ ((pre ++ encP x ++ (encP y).take 2) ++ encP y ++ suf.drop 2).toArray.toList.drop (pre.length + x.length * 2 + p.cs.toList.length) = pre ++ encP (x ++ p :: y) ++ suf.drop 2 := by
    show ((pre ++ encP x ++ (encP y).take 2) ++ encP y ++ suf.drop 2).take _ ++ _ ++ ((pre ++ encP x ++ (encP y).take 2) ++ encP y ++ suf.drop 2).drop _ = _
    have e3 : (pre ++ encP x ++ (encP y).take 2) ++ encP y ++ suf.drop 2 = (pre ++ encP x) ++ (encP y).take 2 ++ (encP y ++ suf.drop 2) := by simp only [List.append_assoc]
    rw [e3, seg_put (pre ++ encP x) ((encP y).take 2) (encP y ++ suf.drop 2) p.cs.toList _ _ (by simp [encP_len]; omega) (by simp [encP_len]; omega), encP_append, encP_cons]
    simp only [List.append_assoc]
  have hov : ∀ lb cb, (callFunc 38 #[.slice (some ⟨vb, 0, none⟩) 1 1, .slice (some ⟨b, pre.length + (x.length + 1) * 2, none⟩) lb cb]).run Try.prog w = .ok (.value (.bool false)) w := fun lb cb =>
    overlaps24 w ⟨vb, 0, none⟩ ⟨b, _, none⟩ 1 1 lb cb hvb _ _ hv hb (by simp [encP_len]; omega) rfl
  obtain ⟨W1, hW1⟩ : ∃ W1, W1 = w.drew.setRow b ((pre ++ encP x ++ (encP y).take 2) ++ encP y ++ suf.drop 2).toArray := ⟨_, rfl⟩
  have hcp1 : ∀ ty dc sc, (Builtin.copy_ #[24, 24] ty #[.slice (some ⟨b, pre.length + (x.length + 1) * 2, none⟩) ((x ++ y).length - x.length) dc, .slice (some ⟨b, pre.length + x.length * 2, none⟩) ((x ++ y).length + 1 - x.length) sc]).run Try.prog w.drew = .ok (goInt (Nat.min ((x ++ y).length + 1 - x.length) ((x ++ y).length - x.length))) W1 := fun ty dc sc => by
    have := run_copy_two w.drew 24 24 ty 38 b (pre.length + (x.length + 1) * 2) ((x ++ y).length - x.length) dc ⟨b, pre.length + x.length * 2, none⟩ ((x ++ y).length + 1 - x.length) sc _ 38 (encP y) Try.underlying24 size38 hb.drew
      (by rw [encP_len, hxy]; simp only [Nat.min_def]; split <;> omega) hcs (by simp [encP_len]; omega) (encP_one y)
    rw [e1] at this
    rw [this, hW1]
  have hB1 : Blk W1 b 38 ((pre ++ encP x ++ (encP y).take 2) ++ encP y ++ suf.drop 2).toArray := by rw [hW1]; exact hb.drew.row _
  have hV1 : Blk W1 vb 38 p.cs := by rw [hW1]; exact hv.drew.rowFar hvb.symm _
  have hK1 : Keeps (fun k => (Sl.v ⟨some ⟨b, pre.length, none⟩, (x ++ y).length, (x ++ y).length + (r + 1)⟩).ownBlock = some k) w W1 := by
    rw [hW1]
    exact Keeps.setRow (O := fun k => (Sl.v ⟨some ⟨b, pre.length, none⟩, (x ++ y).length, (x ++ y).length + (r + 1)⟩).ownBlock = some k) (Keeps.refl _ _).drew (.inl rfl) _
  have hcp2 : ∀ ty dc, (Builtin.copy_ #[24, 24] ty #[.slice (some ⟨b, pre.length + x.length * 2, none⟩) ((x ++ y).length + 1 - x.length) dc, .slice (some ⟨vb, 0, none⟩) 1 1]).run Try.prog W1 = .ok (goInt (Nat.min 1 ((x ++ y).length + 1 - x.length))) (W1.setRow b (pre ++ encP (x ++ p :: y) ++ suf.drop 2).toArray) := fun ty dc => by
    have := run_copy_two W1 24 24 ty 38 b (pre.length + x.length * 2) ((x ++ y).length + 1 - x.length) dc ⟨vb, 0, none⟩ 1 1 _ 38 p.cs.toList Try.underlying24 size38 hB1
      (by rw [hxy, show Nat.min 1 (x.length + y.length + 1 - x.length) = 1 by simp only [Nat.min_def]; split <;> omega]; rfl) (World.news_of_block hV1) (by simp [encP_len]; omega) (fun u hu => by simp at hu; rcases hu with rfl | rfl <;> rfl)
    rw [e2] at this
    exact this
  have HF : Hid (Anew w ⟨some ⟨b, pre.length, none⟩, (x ++ y).length, (x ++ y).length + (r + 1)⟩ (x ++ p :: y) (.returned (.slice (some ⟨b, pre.length, none⟩) ((x ++ y).length + 1) ((x ++ y).length + (r + 1)))) (W1.setRow b (pre ++ encP (x ++ p :: y) ++ suf.drop 2).toArray)) := Lib.hid (by
    refine ⟨⟨some ⟨b, pre.length, none⟩, (x ++ y).length + 1, (x ++ y).length + (r + 1)⟩, rfl, ?_, hK1.setRow (.inl rfl) _, fun k hk => .inl hk⟩
    have := RowS.row (W := W1.setRow b (pre ++ encP (x ++ p :: y) ++ suf.drop 2).toArray) b pre (x ++ p :: y) (suf.drop 2) r (by simp; omega) (by simp at hr ⊢; omega) (hB1.row _)
    have e4 : (x ++ p :: y).length = (x ++ y).length + 1 := by simp; omega
    rw [e4, show (x ++ y).length + 1 + r = (x ++ y).length + (r + 1) by omega] at this
    exact this)
  generalize W1.setRow b (pre ++ encP (x ++ p :: y) ++ suf.drop 2).toArray = W2 at *
  clear hB1 hV1 hK1 e1 e2 eA l1 l2 hcs hW1 hb hv
  have hil : x.length < (x ++ y).length := by omega
  unfold maxLen at hr
  generalize x ++ p :: y = l2 at *
  generalize pre.length = o at *
  generalize (x ++ y).length = n at *
  generalize x.length = i at *
  generalize hcap : n + (r + 1) = c at *
  have hz2 : ¬ ((i : Int) = (n : Int)) := by omega
  have hw0 : IntKind.i64.wrap ((n : Int) + 1) = (n : Int) + 1 := by rw [IntKind.wrap_i64]; omega
  have hw1 : IntKind.i64.wrap ((i : Int) + 1) = (i : Int) + 1 := by rw [IntKind.wrap_i64]; omega
  have hz3 : ¬ ((c : Int) < (n : Int) + 1) := by omega
  have hb1 : (0 : Int) ≤ (i : Int) + 1 := by omega
  have hb0 : (0 : Int) ≤ (n : Int) + 1 := by omega
  have hin : i ≤ n := by omega
  have htn : ((i : Int) + 1).toNat = i + 1 := by omega
  have htn2 : ((n : Int) + 1).toNat = n + 1 := by omega
  have hb2 : ¬ (c = i + 1) := by omega
  have hb3 : (i : Int) ≤ (n : Int) + 1 := by omega
  have hb4 : ¬ (c = i) := by omega
  have hb5 : (n : Int) + 1 ≤ c := by omega
  clear hxy hyl hy hs
  go_enter Try.func24, Try.ntmps24
  go_wp2_with (simp only [hov])
  go_region_law (refine step_copy_runI rfl _ _ 24 24 rfl _ _ (by simp [Act.eval, Act.put]) (by simp [Act.eval, Act.put]) (hcp1 _ _ _) ?_)
  go_wp2_with (at_builtin; refine wpList_copy_runI _ rfl _ _ 24 24 rfl _ _ rfl rfl (hcp2 _ _) ?_)
  go_ret
  exact HF.out
end Go.Proofs.Ytjmejdalmglehaa
