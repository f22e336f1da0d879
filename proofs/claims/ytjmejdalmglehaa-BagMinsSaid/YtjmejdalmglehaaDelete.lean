/- slices.Delete of one pair. -/
import Derived.Test.YtjmejdalmglehaaAdd
namespace Go.Proofs.Ytjmejdalmglehaa
open Go.ChangeShapes Go.WideShapes Go.ChangeAt Go.RowKit
set_option linter.unusedVariables false

/-- An append whose run is known, as one step of a region that draws. -/
theorem step_append_known {ops : Array Oper} {o : Oper} {a : Act} {w : World} {K : Act → World → Prop} {Q : Exit → Act → World → Prop} {E : Prop}
    (hg : o.guard = none) (d x : Operand) (dT sT : TypeId) (hop : o.op = Op.call { callee := Callee.builtin Builtin.append, args := #[d, x], argTypes := #[dT, sT] })
    (v u : Value) (hd : a.eval d = v) (hx : a.eval x = u) {v' : Value} {w' : World} (hr : (Builtin.append_ #[dT, sT] o.type #[v, u]).run Try.prog w = .ok v' w') (hK : K (a.put o.dst v') w') :
    if Region.wanted o (yielded ops a.tmps) = true then Oper.wp Try.prog o a w K Q else E := by
  have hw : Region.wanted o (yielded ops a.tmps) = true := by simp [Region.wanted, hg]
  rw [if_pos hw]
  unfold Oper.wp execOp
  simp only [hop, resolve, invoke, builtin, Sem.run_bind, Sem.run_pure, Result.andThen_ok, List.map_toArray, List.map_cons, List.map_nil, hd, hx, hr]
  exact hK

set_option maxHeartbeats 4000000 in
set_option maxRecDepth 100000 in
theorem delete_any (b : Nat) (pre suf : List Value) (x : List Pr) (q : Pr) (y : List Pr) (r : Nat) (w : World) (hs : 2 * r ≤ suf.length) (hr : (x ++ q :: y).length + r ≤ maxLen) (hb : Blk w b 38 (pre ++ encP (x ++ q :: y) ++ suf).toArray) :
    Calls Try.prog 26 #[.slice (some ⟨b, pre.length, none⟩) (x ++ q :: y).length ((x ++ q :: y).length + r), .int .i64 x.length, .int .i64 ((x.length : Int) + 1)] w fun e w' => Anew w ⟨some ⟨b, pre.length, none⟩, (x ++ q :: y).length, (x ++ q :: y).length + r⟩ (x ++ y) e w' := by
  have hn : (x ++ q :: y).length = x.length + y.length + 1 := by simp; omega
  have hcs : ∀ j v, (encP y)[j]? = some v → w.cell? ((⟨b, pre.length + (x.length + 1) * 2, none⟩ : Addr).add j) = some v := by
    have := row_get hb (x.length + 1)
    rwa [show (x ++ q :: y).drop (x.length + 1) = y by simp] at this
  -- the row's parts
  obtain ⟨A, B', hAB, hAl⟩ : ∃ A B' : List Value, q.cs.toList ++ encP y = A ++ B' ∧ B'.length = 2 ∧ A.length = (encP y).length := by
    refine ⟨(q.cs.toList ++ encP y).take (encP y).length, (q.cs.toList ++ encP y).drop (encP y).length, (List.take_append_drop _ _).symm, ?_, ?_⟩
    · simp; omega
    · simp; omega
  obtain ⟨hBl, hAl⟩ := hAl
  have eA : pre ++ encP (x ++ q :: y) ++ suf = (pre ++ encP x) ++ A ++ (B' ++ suf) := by
    rw [encP_append, encP_cons, hAB]
    simp only [List.append_assoc]
  have e1 : (pre ++ encP (x ++ q :: y) ++ suf).toArray.toList.take (pre.length + x.length * 2) ++ encP y ++ (pre ++ encP (x ++ q :: y) ++ suf).toArray.toList.drop (pre.length + x.length * 2 + (encP y).length) = (pre ++ encP x) ++ encP y ++ (B' ++ suf) := by
    show (pre ++ encP (x ++ q :: y) ++ suf).take _ ++ _ ++ (pre ++ encP (x ++ q :: y) ++ suf).drop _ = _
    rw [eA, seg_put _ _ _ _ _ _ (by simp [encP_len]; omega) hAl.symm]
  have e2 : ((pre ++ encP x) ++ encP y ++ (B' ++ suf)).toArray.toList.take (pre.length + (x.length + y.length) * 2) ++ zp.cs.toList ++ ((pre ++ encP x) ++ encP y ++ (B' ++ suf)).toArray.toList.drop (pre.length + (x.length + y.length) * 2 + zp.cs.toList.length) = pre ++ encP (x ++ y) ++ (zp.cs.toList ++ suf) := by
    show ((pre ++ encP x) ++ encP y ++ (B' ++ suf)).take _ ++ _ ++ ((pre ++ encP x) ++ encP y ++ (B' ++ suf)).drop _ = _
    rw [← List.append_assoc ((pre ++ encP x) ++ encP y) B' suf, seg_put (pre ++ encP x ++ encP y) B' suf zp.cs.toList _ _ (by simp [encP_len]; omega) (by rw [hBl]; rfl), encP_append]
    simp only [List.append_assoc]
  obtain ⟨W1, hW1⟩ : ∃ W1, W1 = w.drew.setRow b ((pre ++ encP x) ++ encP y ++ (B' ++ suf)).toArray := ⟨_, rfl⟩
  have hrun : ∀ (ad : Addr) (xc : Nat), (y = [] ∨ ad = ⟨b, pre.length + (x.length + 1) * 2, none⟩) → ∀ ty, (Builtin.append_ #[24, 24] ty #[.slice (some ⟨b, pre.length, none⟩) x.length (x.length + y.length + 1 + r), .slice (some ad) y.length xc]).run Try.prog w.drew = .ok (.slice (some ⟨b, pre.length, none⟩) (x.length + y.length) (x.length + y.length + 1 + r)) W1 := fun ad xc had ty => by
    have := run_append_two w.drew 24 ty 38 Try.underlying24 size38 b pre.length x.length (x.length + y.length + 1 + r) ad y.length xc _ 38 (encP y) hb.drew (by rw [encP_len]; omega)
      (fun j v hj => by
        rcases had with rfl | rfl
        · simp [encP] at hj
        · exact hcs j v hj) (by omega) (by simp [encP_len]; omega) (encP_one y)
    rw [e1] at this
    rw [this, hW1]
  have hW0 : y = [] → W1 = w.drew := fun h => by
    have hA : A = [] := List.length_eq_zero_iff.1 (by rw [hAl, h]; rfl)
    have e : (pre ++ encP x) ++ encP y ++ (B' ++ suf) = pre ++ encP (x ++ q :: y) ++ suf := by rw [eA, hA, h]; rfl
    rw [hW1, e]
    exact setRow_self w.drew b _ 38 (0, 0) hb
  have hB1 : Blk W1 b 38 ((pre ++ encP x) ++ encP y ++ (B' ++ suf)).toArray := by rw [hW1]; exact hb.drew.row _
  have hK1 : Keeps (fun k => (Sl.v ⟨some ⟨b, pre.length, none⟩, (x ++ q :: y).length, (x ++ q :: y).length + r⟩).ownBlock = some k) w W1 := by
    rw [hW1]
    exact Keeps.setRow (O := fun k => (Sl.v ⟨some ⟨b, pre.length, none⟩, (x ++ q :: y).length, (x ++ q :: y).length + r⟩).ownBlock = some k) (Keeps.refl _ _).drew (.inl rfl) _
  have hcl : ∀ ty c, (Builtin.clear_ #[24] ty #[.slice (some ⟨b, pre.length + (x.length + y.length) * 2, none⟩) 1 c]).run Try.prog W1 = .ok (.tuple #[]) (W1.setRow b (pre ++ encP (x ++ y) ++ (zp.cs.toList ++ suf)).toArray) := fun ty c => by
    have := run_clear_two W1 24 ty 38 zp.val Try.underlying24 zero38 zp.cs.toList b (pre.length + (x.length + y.length) * 2) 1 c (zeros_two 1) _ 38 hB1 (by omega) (by simp [encP_len, hBl]; omega) (fun u hu => by simp at hu; rcases hu with rfl | rfl <;> rfl)
    rw [e2] at this
    exact this
  have HF : Hid (Anew w ⟨some ⟨b, pre.length, none⟩, (x ++ q :: y).length, (x ++ q :: y).length + r⟩ (x ++ y) (.returned (.slice (some ⟨b, pre.length, none⟩) (x.length + y.length) (x.length + y.length + 1 + r))) (W1.setRow b (pre ++ encP (x ++ y) ++ (zp.cs.toList ++ suf)).toArray)) := Lib.hid (by
    refine ⟨⟨some ⟨b, pre.length, none⟩, x.length + y.length, x.length + y.length + 1 + r⟩, rfl, ?_, hK1.setRow (.inl rfl) _, fun k hk => .inl hk⟩
    have := RowS.row (W := W1.setRow b (pre ++ encP (x ++ y) ++ (zp.cs.toList ++ suf)).toArray) b pre (x ++ y) (zp.cs.toList ++ suf) (r + 1) (by simp; omega) (by simp at hr ⊢; omega) (hB1.row _)
    have e4 : (x ++ y).length = x.length + y.length := by simp
    rw [e4, show x.length + y.length + (r + 1) = x.length + y.length + 1 + r by omega] at this
    exact this)
  generalize W1.setRow b (pre ++ encP (x ++ y) ++ (zp.cs.toList ++ suf)).toArray = W2 at *
  have hy0 : y = [] ∨ 0 < y.length := by cases y <;> simp
  clear hB1 hK1 e1 e2 eA hcs hW1 hb hAB hAl hBl
  unfold maxLen at hr
  rw [hn] at HF hr ⊢
  generalize x ++ y = l2 at *
  clear hn
  obtain ⟨m, hm⟩ : ∃ m, m = y.length := ⟨_, rfl⟩
  rw [← hm] at hrun hcl HF hr hy0 ⊢
  have hm0 : m ≠ 0 → y ≠ [] := fun h e => h (by rw [hm, e]; rfl)
  clear hm hs
  obtain ⟨i, hi⟩ : ∃ i, i = x.length := ⟨_, rfl⟩
  rw [← hi] at hrun hcl HF hr ⊢
  clear hi
  generalize pre.length = o at *
  have hb0 : (0 : Int) ≤ (i : Int) := by omega
  have hb1 : (0 : Int) ≤ (i : Int) + 1 := by omega
  have hb2 : (i : Int) ≤ (i : Int) + 1 := by omega
  have htn : ((i : Int) + 1).toNat = i + 1 := by omega
  by_cases hc : i + m + 1 + r = i + 1
  · have hm1 : m = 0 := by omega
    have hr0 : r = 0 := by omega
    have hyn : y = [] := by rcases hy0 with h | h; exact h; omega
    have hrun0 := fun xc => hrun ⟨b, o, none⟩ xc (.inl hyn)
    obtain rfl := hW0 hyn
    subst hm1 hr0
    clear hrun hc hm0 hy0 hyn
    have hne : ¬ ((i : Int) = (i : Int) + 1) := by omega
    simp only [Nat.add_zero] at *
    go_enter Try.func26, Try.ntmps26
    go_wp2_with fail
    go_region_law (refine step_append_known rfl _ _ 24 24 rfl _ _ (by simp [Act.eval, Act.put]) (by simp [Act.eval, Act.put]) (hrun0 _ _) ?_)
    go_wp2
    go_ret
    exact HF.out
  · have hrun1 := fun xc => hrun ⟨b, o + (i + 1) * 2, none⟩ xc (.inr rfl)
    have hne : ¬ ((i : Int) = (i : Int) + 1) := by omega
    have hc2 : ¬ (i + m + 1 + r = i + m) := by omega
    have hle : (i : Int) + 1 ≤ (i : Int) + m + 1 := by omega
    have hle2 : (i : Int) ≤ (i : Int) + m + 1 + r := by omega
    have hle3 : (i : Int) + m ≤ (i : Int) + m + 1 := by omega
    have hle4 : (0 : Int) ≤ (i : Int) + m := by omega
    have hle5 : (0 : Int) ≤ (i : Int) + m + 1 := by omega
    have htn2 : ((i : Int) + m).toNat = i + m := by omega
    have htn3 : ((i : Int) + m + 1).toNat = i + m + 1 := by omega
    clear hrun hm0 hy0 hW0
    go_enter Try.func26, Try.ntmps26
    go_wp2_with fail
    go_region_law (refine step_append_known rfl _ _ 24 24 rfl (.slice (some ⟨b, o, none⟩) i (i + m + 1 + r)) (.slice (some ⟨b, o + (i + 1) * 2, none⟩) m (i + m + 1 + r - (i + 1))) (by simp [Act.eval, Act.put]) (by simp [Act.eval, Act.put]) (hrun1 _ _) ?_)
    go_wp2
    go_ret
    exact HF.out
end Go.Proofs.Ytjmejdalmglehaa
