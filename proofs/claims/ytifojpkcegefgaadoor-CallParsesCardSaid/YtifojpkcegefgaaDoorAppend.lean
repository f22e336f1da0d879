/- append(b, more...) behind a call's nine bytes, as one step of a region that draws; what the bytes decode to. -/
import Derived.Test.YtifojpkcegefgaaDoorCode
import Derived.ArgAppend
import Derived.Deep.Upon
import Derived.Deep.RegionLaw
namespace Go.Proofs.YtifojpkcegefgaaDoor
open Go.ChangeShapes Go.WideShapes Go.ChangeAt Go.RowKit
set_option linter.unusedVariables false

theorem byteAt_left (xs zs : List Int) (j : Nat) (h : j < xs.length) : byteAt (xs ++ zs) j = byteAt xs j := by
  simp [byteAt, List.getD_eq_getElem?_getD, List.getElem?_append_left h]
theorem byteAt_right (xs zs : List Int) (j : Nat) (h : xs.length ≤ j) : byteAt (xs ++ zs) j = byteAt zs (j - xs.length) := by
  simp [byteAt, List.getD_eq_getElem?_getD, List.getElem?_append_right h]
theorem below_grownBy {w w' : World} (h : w.grownBy w' none) : Below w.heap.size w w' := ⟨h.os, h.tape, h.output, h.size, fun k hk => h.block k hk (by simp)⟩

/-- Bytes behind nine bytes of one's own: a slice that reads as all of them. -/
theorem run_append_bytes (w : World) (B : Nat) (xs zs : List Int) (a : Option Addr) (n cap : Nat) (hb : Blk w B 5 (encB xs).toArray) (hl : xs.length = 9) (hx : ∀ j, 0 ≤ byteAt xs j ∧ byteAt xs j < 256) (hr : Rd w a n cap zs) (hn : n ≤ 200) :
    ∃ a' cap' w', (Builtin.append_ #[43, 43] 43 #[.slice (some ⟨B, 0, none⟩) 9 9, .slice a n cap]).run Tryd.prog w = .ok (.slice a' (9 + n) cap') w' ∧ Rd w' a' (9 + n) cap' (xs ++ zs) ∧ Below w.heap.size w w' := by
  obtain ⟨i, hi, h0, h1, h2⟩ := info_parts info5
  have hxs : ∀ j u, (encB xs)[j]? = some u → w.cell? ((⟨B, 0, none⟩ : Addr).add j) = some u := by
    intro j u hu
    rw [Go.WideShapes.add_plain, Nat.zero_add, hb.cell j]
    simpa using hu
  have hby : ∀ j, 0 ≤ byteAt (xs ++ zs) j ∧ byteAt (xs ++ zs) j < 256 := by
    intro j
    rcases Nat.lt_or_ge j xs.length with h | h
    · rw [byteAt_left _ _ _ h]; exact hx j
    · rw [byteAt_right _ _ _ h]; exact hr.bytes _
  have hzl := hr.len
  by_cases hz : n = 0
  · subst hz
    have hz0 : zs = [] := by simpa using hzl
    subst hz0
    have hsrc : Src Tryd.prog i.size 43 (.slice a 0 cap) 0 [] w := by
      rcases hr.form with ⟨rfl, _, rfl⟩ | ⟨x, rfl, _⟩
      · exact Src.ofNil _ Tryd.underlying43 _
      · exact Src.ofSlice _ Tryd.underlying43 x 0 cap [] (by simp) (by simp) (by simp)
    refine ⟨_, _, _, run_append_nothing w 43 43 43 5 i Tryd.underlying43 hi (some ⟨B, 0, none⟩) 9 9 (by omega) _ hsrc, ⟨by simp [hl], ⟨by omega, by decide⟩, .inr ⟨_, rfl, ?_⟩, hby⟩, Below.refl _ _⟩
    rw [List.append_nil]
    exact hxs
  · rcases hr.form with ⟨_, h, _⟩ | ⟨x, rfl, hc⟩
    · exact absurd h hz
    obtain ⟨v', w', hrun, hown, hg⟩ := run_append_arg_grows (P := Tryd.prog) w 43 43 5 i (.int .u8 0) 1 1 Tryd.underlying43 hi h0 h1 h2 rfl (by decide) ⟨B, 0, none⟩ 9 9 (encB xs) (by simp [encB, hl]) hxs x n cap (encB zs) (by simp [encB, hzl]) hc (by omega) (by unfold maxLen; omega) (by omega)
    obtain ⟨_, h⟩ := hown
    rcases h with ⟨_, h⟩ | ⟨g, cap', cur, rfl, hlow, hheap, hle, hmx, _, htake⟩
    · omega
    refine ⟨_, _, _, hrun, ⟨by simp [hl, hzl], ⟨hle, hmx⟩, .inr ⟨_, rfl, fun j u hu => ?_⟩, hby⟩, below_grownBy hg⟩
    have hj : j < 9 + n := by
      have := (List.getElem?_eq_some_iff.1 hu).1
      simp [encB, hl, hzl] at this
      omega
    rw [Go.WideShapes.add_plain, Nat.zero_add, cell_of_row w' g j cur 5 (0, 0) hheap]
    have e : encB (xs ++ zs) = cur.toList.take ((9 + n) * 1) := by rw [htake]; simp [encB]
    rw [e, List.getElem?_take, if_pos (by omega)] at hu
    simpa using hu
/-- The same, as a step. -/
theorem step_append_bytes {ops : Array Oper} {o : Oper} {act : Act} {w : World} {K : Act → World → Prop} {Q : Exit → Act → World → Prop} {E : Prop}
    (hw : Region.wanted o (yielded ops act.tmps) = true) (s x : Operand) (hop : o.op = Op.call { callee := Callee.builtin Builtin.append, args := #[s, x], argTypes := #[43, 43] }) (hty : o.type = 43)
    (B : Nat) (xs zs : List Int) (a : Option Addr) (n cap : Nat) (hs : act.eval s = .slice (some ⟨B, 0, none⟩) 9 9) (hx : act.eval x = .slice a n cap)
    (hb : Blk w B 5 (encB xs).toArray) (hl : xs.length = 9) (hxb : ∀ j, 0 ≤ byteAt xs j ∧ byteAt xs j < 256) (hr : Rd w a n cap zs) (hn : n ≤ 200)
    (hK : ∀ a' cap' w', Rd w' a' (9 + n) cap' (xs ++ zs) → Below w.heap.size w w' → K (act.put o.dst (.slice a' (9 + n) cap')) w') :
    if Region.wanted o (yielded ops act.tmps) = true then Oper.wp Tryd.prog o act w K Q else E := by
  rw [if_pos hw]
  obtain ⟨a', cap', w', hrun, h1, h2⟩ := run_append_bytes w B xs zs a n cap hb hl hxb hr hn
  unfold Oper.wp
  simp [execOp, hop, hty, resolve, invoke, builtin, hs, hx, hrun, Result.andThen]
  exact hK a' cap' w' h1 h2

/-- What was coded is decoded, whatever stands behind it. -/
theorem code_bytes (c : Tri) (h : rightB c = true) : ∀ j, 0 ≤ byteAt (codeBs c) j ∧ byteAt (codeBs c) j < 256 := by
  intro j
  have ho : 0 ≤ c.op ∧ c.op < 256 := by have := right_op h; omega
  rcases (show j = 0 ∨ j = 1 ∨ j = 2 ∨ j = 3 ∨ j = 4 ∨ j = 5 ∨ j = 6 ∨ j = 7 ∨ j = 8 ∨ 9 ≤ j by omega) with rfl | rfl | rfl | rfl | rfl | rfl | rfl | rfl | rfl | hj
  · exact ho
  · exact byteOf_lt _ _
  · exact byteOf_lt _ _
  · exact byteOf_lt _ _
  · exact byteOf_lt _ _
  · exact byteOf_lt _ _
  · exact byteOf_lt _ _
  · exact byteOf_lt _ _
  · exact byteOf_lt _ _
  · rw [byteAt_end _ _ (by simpa [codeBs] using hj)]; decide
theorem decT_code (c : Tri) (f : Fit c) (h : rightB c = true) (zs : List Int) : decT (codeBs c ++ zs) = c := by
  have hl : (codeBs c).length = 9 := rfl
  have e : ∀ j, j < 9 → byteAt (codeBs c ++ zs) j = byteAt (codeBs c) j := fun j hj => byteAt_left _ _ _ (by omega)
  have lo1 : lo (fun j => byteAt (codeBs c ++ zs) (1 + j)) 4 = c.key := by
    have : lo (fun j => byteAt (codeBs c ++ zs) (1 + j)) 4 = lo (byteOf c.key) 4 := by
      simp only [lo]
      rw [e _ (by decide), e _ (by decide), e _ (by decide), e _ (by decide)]
      rfl
    rw [this, lo_bytes _ f.k0 f.k1]
  have lo2 : lo (fun j => byteAt (codeBs c ++ zs) (5 + j)) 4 = c.val := by
    have : lo (fun j => byteAt (codeBs c ++ zs) (5 + j)) 4 = lo (byteOf c.val) 4 := by
      simp only [lo]
      rw [e _ (by decide), e _ (by decide), e _ (by decide), e _ (by decide)]
      rfl
    rw [this, lo_bytes _ f.v0 f.v1]
  have e0 : byteAt (codeBs c ++ zs) 0 = c.op := by rw [e 0 (by decide)]; rfl
  unfold decT
  rw [lo1, lo2, e0]
  obtain ⟨o, k, v⟩ := c
  rcases right_op h with h | ⟨h | h, h2, h3⟩
  · simp only at h; subst h; rfl
  · simp only at h h2 h3; subst h h2 h3; rfl
  · simp only at h h2 h3; subst h h2 h3; rfl
end Go.Proofs.YtifojpkcegefgaaDoor
