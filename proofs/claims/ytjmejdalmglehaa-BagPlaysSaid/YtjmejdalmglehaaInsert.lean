/- slices.Insert of one pair: in place, or into a new row. -/
import Derived.Test.YtjmejdalmglehaaSmall
import Derived.Shelf.Spec.SlicesInsert
namespace Go.Proofs.Ytjmejdalmglehaa
open Go.ChangeShapes Go.WideShapes Go.ChangeAt Go.RowKit
set_option linter.unusedVariables false

theorem info38 : (Try.prog.info? 38).map (fun i => (i.zero, i.size, i.bytes)) = some (some zp.val, 2, 8) := by kernel_rfl
theorem size38 : (Try.prog.info? 38).map (·.size) = some 2 := by kernel_rfl
/-- What a call that puts a row anew leaves: the row reads so, in its block or in a new one. -/
structure Anew (w : World) (s : Sl) (l : List Pr) (e : Ending) (w' : World) : Prop where
  ex : ∃ s' : Sl, e = .returned (.slice s'.a s'.n s'.cap) ∧ RowS w' s' l ∧ Keeps (fun k => s.v.ownBlock = some k) w w' ∧ ∀ k, s'.v.ownBlock = some k → s.v.ownBlock = some k ∨ w.heap.size ≤ k
theorem Keeps.setRow {O : Nat → Prop} {A W : World} (h : Keeps O A W) {b : Nat} (hb : O b ∨ A.heap.size ≤ b) (ds : Array Value) : Keeps O A (W.setRow b ds) :=
  ⟨h.os, h.tape, h.output, by have := h.size; unfold World.setRow; simpa using this, fun k hk hn => by
    have hne : b ≠ k := by
      rintro rfl
      rcases hb with hb | hb
      · exact hn hb
      · omega
    unfold World.setRow
    simp only [Array.getElem?_modify, if_neg hne]
    exact h.block k hk hn⟩
/-- The slice's cells. -/
theorem row_get {W : World} {b : Nat} {pre suf : List Value} {l : List Pr} (hb : Blk W b 38 (pre ++ encP l ++ suf).toArray) (i : Nat) : ∀ j v, (encP (l.drop i))[j]? = some v → W.cell? ((⟨b, pre.length + i * 2, none⟩ : Addr).add j) = some v := fun j v hj => by
  rw [Addr.add_lit, hb.cell, List.getElem?_toArray, List.append_assoc, List.getElem?_append_right (by omega)]
  have hlt := (List.getElem?_eq_some_iff.1 hj).1
  rw [encP_len, List.length_drop] at hlt
  rw [List.getElem?_append_left (by rw [encP_len]; omega), show pre.length + i * 2 + j - pre.length = i * 2 + j by omega]
  have e : encP l = encP (l.take i) ++ encP (l.drop i) := by rw [← encP_append, List.take_append_drop]
  rw [e, List.getElem?_append_right (by rw [encP_len, List.length_take]; omega), encP_len, List.length_take]
  rw [show i * 2 + j - 2 * min i l.length = j by omega]
  exact hj
theorem seg_put (a b c x : List Value) (k m : Nat) (hk : k = a.length) (hm : m = b.length) : (a ++ b ++ c).take k ++ x ++ (a ++ b ++ c).drop (k + m) = a ++ x ++ c := by
  subst hk hm
  rw [List.append_assoc a b c, List.take_left, List.drop_append, List.drop_append]
  simp

set_option maxHeartbeats 4000000 in
set_option maxRecDepth 100000 in
/-- At the end, where there is room. -/
theorem ins_end_room (b : Nat) (pre suf : List Value) (l : List Pr) (r vb : Nat) (p : Pr) (w : World) (hs : 2 * (r + 1) ≤ suf.length) (hr : l.length + (r + 1) ≤ maxLen) (hb : Blk w b 38 (pre ++ encP l ++ suf).toArray) (hv : Blk w vb 38 p.cs) :
    Calls Try.prog 24 #[.slice (some ⟨b, pre.length, none⟩) l.length (l.length + (r + 1)), .int .i64 l.length, .slice (some ⟨vb, 0, none⟩) 1 1] w fun e w' => Anew w ⟨some ⟨b, pre.length, none⟩, l.length, l.length + (r + 1)⟩ (l ++ [p]) e w' := by
  have hrun : ∀ ty, (Builtin.append_ #[24, 24] ty #[.slice (some ⟨b, pre.length, none⟩) l.length (l.length + (r + 1)), .slice (some ⟨vb, 0, none⟩) 1 1]).run Try.prog w = _ := fun ty =>
    run_append_two w 24 ty 38 Try.underlying24 size38 b pre.length l.length (l.length + (r + 1)) ⟨vb, 0, none⟩ 1 1 _ 38 p.cs.toList hb rfl (World.news_of_block hv) (by omega)
      (by simp [encP_len]; omega) (fun u hu => by simp at hu; rcases hu with rfl | rfl <;> rfl)
  have hd : suf = suf.take 2 ++ suf.drop 2 := (List.take_append_drop 2 suf).symm
  have e2 : ((pre ++ encP l ++ suf).toArray.toList.take (pre.length + l.length * 2) ++ p.cs.toList ++ (pre ++ encP l ++ suf).toArray.toList.drop (pre.length + l.length * 2 + p.cs.toList.length)) = pre ++ encP (l ++ [p]) ++ suf.drop 2 := by
    have e3 : pre ++ encP l ++ suf = pre ++ encP l ++ suf.take 2 ++ suf.drop 2 := by rw [List.append_assoc (pre ++ encP l), ← hd]
    show (pre ++ encP l ++ suf).take _ ++ _ ++ (pre ++ encP l ++ suf).drop _ = _
    rw [e3, seg_put (pre ++ encP l) (suf.take 2) (suf.drop 2) p.cs.toList _ _ (by simp [encP_len]; omega) (by simp; omega), encP_snoc, List.append_assoc pre]
  have HF : Hid (Anew w ⟨some ⟨b, pre.length, none⟩, l.length, l.length + (r + 1)⟩ (l ++ [p]) (.returned (.slice (some ⟨b, pre.length, none⟩) (l.length + 1) (l.length + (r + 1)))) (w.setRow b ((pre ++ encP l ++ suf).toArray.toList.take (pre.length + l.length * 2) ++ p.cs.toList ++ (pre ++ encP l ++ suf).toArray.toList.drop (pre.length + l.length * 2 + p.cs.toList.length)).toArray)) := Lib.hid (by
    refine ⟨⟨some ⟨b, pre.length, none⟩, l.length + 1, l.length + (r + 1)⟩, rfl, ?_, Keeps.setRow (O := fun k => (Sl.v ⟨some ⟨b, pre.length, none⟩, l.length, l.length + (r + 1)⟩).ownBlock = some k) (Keeps.refl _ _) (.inl rfl) _, fun k hk => .inl hk⟩
    rw [e2]
    have := RowS.row (W := w.setRow b (pre ++ encP (l ++ [p]) ++ suf.drop 2).toArray) b pre (l ++ [p]) (suf.drop 2) r (by simp; omega) (by simp; omega) (hb.row _)
    rw [List.length_append] at this
    simp only [List.length_cons, List.length_nil] at this
    rw [show l.length + (0 + 1) + r = l.length + (r + 1) by omega] at this
    exact this)
  clear e2 hd hb hv
  generalize w.setRow b ((pre ++ encP l ++ suf).toArray.toList.take (pre.length + l.length * 2) ++ p.cs.toList ++ (pre ++ encP l ++ suf).toArray.toList.drop (pre.length + l.length * 2 + p.cs.toList.length)).toArray = W2 at *
  generalize l ++ [p] = l2 at *
  generalize pre.length = o at *
  generalize l.length = n at *
  generalize hcap : n + (r + 1) = c at *
  have h1 : n < c := by omega
  have h2 : ¬ (c = n) := by omega
  have h3 : (n : Int) ≤ n := by omega
  go_enter Try.func24, Try.ntmps24
  go_wp2_with (at_builtin; refine Lib.wpList_append_run _ rfl _ _ 24 24 rfl _ _ rfl rfl _ _ (hrun _) ?_)
  go_ret
  exact HF.out

theorem own_of {g o n c k : Nat} (h : (Sl.v ⟨some ⟨g, o, none⟩, n, c⟩).ownBlock = some k) : g = k := by simpa [Sl.v, Value.ownBlock] using h
/-- What a new row holds behind its pairs. -/
theorem grown_row (w W : World) (s : Sl) (l : List Pr) (G g : Nat) (hG : l.length ≤ G) (hm : G ≤ maxLen) (hg : w.heap.size ≤ g) (hk : Keeps (fun k => s.v.ownBlock = some k) w W) (hb : Blk W g 38 ((encP l).toArray ++ Builtin.zeroCells zp.val.cells (G - l.length))) :
    Anew w s l (.returned (.slice (some ⟨g, 0, none⟩) l.length G)) W := by
  refine ⟨⟨some ⟨g, 0, none⟩, l.length, G⟩, rfl, ?_, hk, fun k hk => .inr (own_of hk ▸ hg)⟩
  have := RowS.row (W := W) g [] l (encP (List.replicate (G - l.length) zp)) (G - l.length) (by rw [encP_len, List.length_replicate]; exact Nat.le_refl _) (by omega) (by
    rw [zeros_array] at hb
    rw [List.nil_append, ← List.append_toArray]
    exact hb)
  rw [show l.length + (G - l.length) = G by omega] at this
  exact this

set_option maxHeartbeats 4000000 in
set_option maxRecDepth 100000 in
/-- At the end, where there is no room. -/
theorem ins_end_grow (s : Sl) (l : List Pr) (vb : Nat) (p : Pr) (w : World) (hr : Reads w s 2 (encP l)) (hc : s.cap = l.length) (hl : l.length < 1000000) (hv : Blk w vb 38 p.cs) :
    Calls Try.prog 24 #[.slice s.a s.n s.cap, .int .i64 l.length, .slice (some ⟨vb, 0, none⟩) 1 1] w fun e w' => Anew w s (l ++ [p]) e w' := by
  obtain ⟨i0, hi0, hz0, hzs, hzb⟩ := info_parts info38
  have hn := hr.lenP
  have hsrc : Src Try.prog i0.size 24 (.slice (some ⟨vb, 0, none⟩) 1 1) 1 p.cs.toList w := by
    rw [hzs]
    exact Src.ofSlice w Try.underlying24 ⟨vb, 0, none⟩ 1 1 _ rfl (World.news_of_block hv) (fun u hu => by simp at hu; rcases hu with rfl | rfl <;> rfl)
  have hold : (Builtin.firstCells i0.size l.length (.slice s.a l.length s.cap)).run Try.prog w.drew = .ok (encP l).toArray w.drew := by
    rw [hzs]
    cases ha : s.a with
    | none =>
      have h0 := (hr.nil ha).1
      have : l = [] := List.length_eq_zero_iff.1 (by omega)
      subst this
      exact run_firstCells_none w.drew 2 0 0 _
    | some a =>
      refine run_firstCells_some w.drew 2 l.length a l.length s.cap (encP l) (by rw [encP_len]; omega) (fun j v hj => ?_)
      obtain ⟨b, off, ea, hcell⟩ := hr.cell j v hj
      rw [ha] at ea
      obtain rfl := Option.some.inj ea
      rw [Addr.add_lit]
      exact hcell
  have hrun : ∀ ty, (Builtin.append_ #[24, 24] ty #[.slice s.a l.length s.cap, .slice (some ⟨vb, 0, none⟩) 1 1]).run Try.prog w = _ := fun ty =>
    run_append_grow_src w 24 24 ty 38 i0 _ Try.underlying24 hi0 hz0 s.a l.length s.cap (encP l) hold _ 1 p.cs.toList hsrc (by omega) (by omega) (by rw [hzb]; exact growslice_fits (by omega) (by omega))
  have hG := grownCap_ge w (l.length + 1) s.cap 38
  have hG2 := grownCap_le_maxLen w (l.length + 1) s.cap 38 (by unfold maxLen; omega)
  have HF : Hid (Anew w s (l ++ [p]) (.returned (.slice (some ⟨w.heap.size, 0, none⟩) (l.length + 1) (grownCap w (l.length + 1) s.cap 38))) (w.drew.alloc (.cells ((encP l ++ p.cs.toList).toArray ++ Builtin.zeroCells zp.val.cells (grownCap w (l.length + 1) s.cap 38 - (l.length + 1))) 38))) := Lib.hid (by
    have := grown_row w (w.drew.alloc (.cells ((encP l ++ p.cs.toList).toArray ++ Builtin.zeroCells zp.val.cells (grownCap w (l.length + 1) s.cap 38 - (l.length + 1))) 38)) s (l ++ [p]) (grownCap w (l.length + 1) s.cap 38) w.heap.size (by simpa using hG) hG2 (Nat.le_refl _) ((Keeps.refl _ _).drew.alloc _) (by
      rw [encP_snoc]
      simp only [List.length_append, List.length_cons, List.length_nil, Nat.zero_add]
      exact Blk.new w.drew 38 _)
    simpa using this)
  clear hold hsrc hr hv hG hG2
  generalize grownCap w (l.length + 1) s.cap 38 = G at *
  generalize w.drew.alloc (.cells ((encP l ++ p.cs.toList).toArray ++ Builtin.zeroCells zp.val.cells (G - (l.length + 1))) 38) = W2 at *
  generalize l ++ [p] = l2 at *
  obtain ⟨sa, sn, sc⟩ := s
  dsimp only at *
  subst hn hc
  generalize l.length = n at *
  cases sa with
  | none =>
    go_enter Try.func24, Try.ntmps24
    go_wp2_with (at_builtin; refine Lib.wpList_append_run _ rfl _ _ 24 24 rfl _ _ rfl rfl _ _ (hrun _) ?_)
    go_ret
    exact HF.out
  | some a =>
    obtain ⟨ab, ao, asp⟩ := a
    go_enter Try.func24, Try.ntmps24
    go_wp2_with (at_builtin; refine Lib.wpList_append_run _ rfl _ _ 24 24 rfl _ _ rfl rfl _ _ (hrun _) ?_)
    all_goals (go_ret; exact HF.out)
end Go.Proofs.Ytjmejdalmglehaa
