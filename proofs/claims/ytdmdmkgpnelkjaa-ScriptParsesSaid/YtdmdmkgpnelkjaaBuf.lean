/- Bytes of one's own that grow: append of bytes that lie anywhere. -/
import Derived.Test.YtdmdmkgpnelkjaaRConf
namespace Go.Proofs.Ytdmdmkgpnelkjaa
open Go.ChangeShapes Go.WideShapes Go.ChangeAt Go.RowKit
set_option linter.unusedVariables false

/-- Bytes of one's own. -/
def OwnB (base : Nat) (s : Sl) (xs : List Int) (W : World) : Prop := W.ownsRow base 5 1 (.slice s.a s.n s.cap) s.n (encB xs)
theorem OwnB.nil (base : Nat) (W : World) : OwnB base nilS [] W := World.ownsRow_nil W base 5 1
theorem OwnB.len {base : Nat} {s : Sl} {xs : List Int} {W : World} (h : OwnB base s xs W) : xs.length = s.n := by
  have := h.1
  simpa [encB] using this
theorem OwnB.below {base : Nat} {s : Sl} {xs : List Int} {W V : World} (h : OwnB base s xs W) (b : Below W.heap.size W V) : OwnB base s xs V := by
  refine ⟨h.1, ?_⟩
  rcases h.2 with h2 | ⟨g, cap, cur, hv, hb, hg, r⟩
  · exact .inl h2
  · exact .inr ⟨g, cap, cur, hv, hb, (b.block g (Array.getElem?_eq_some_iff.1 hg).1).trans hg, r⟩
theorem OwnB.reads {base : Nat} {s : Sl} {xs : List Int} {W : World} (h : OwnB base s xs W) : Reads W s 1 (encB xs) := (Reads.of_own h).1
theorem OwnB.rd {base : Nat} {s : Sl} {xs : List Int} {W : World} (h : OwnB base s xs W) (hb : ∀ j, 0 ≤ byteAt xs j ∧ byteAt xs j < 256) : Rd W s.a s.n s.cap xs := h.reads.rd hb
theorem OwnB.blk {base B n : Nat} {xs : List Int} {W : World} (h : Blk W B 5 (encB xs).toArray) (hb : base ≤ B) (hn : xs.length = n) (hm : n ≤ 1000000) : OwnB base ⟨some ⟨B, 0, none⟩, n, n⟩ xs W :=
  ⟨by simp [encB, hn], .inr ⟨B, n, (encB xs).toArray, rfl, hb, h, Nat.le_refl _, by unfold maxLen; omega, by simp [encB, hn], by rw [List.take_of_length_le (by simp [encB, hn])]⟩⟩
/-- Where a slice of one's own lies. -/
theorem own_low {base : Nat} {s : Sl} {xs : List Int} {W : World} (h : OwnB base s xs W) : ∀ k, (Value.slice s.a s.n s.cap).ownBlock = some k → base ≤ k ∧ k < W.heap.size := World.ownsRow.lt h
/-- A slice that owns: written out. -/
theorem sl_of_own {W : World} {base n : Nat} {e : TypeId} {size : Nat} {v : Value} {vs : List Value} (h : W.ownsRow base e size v n vs) : ∃ s : Sl, v = .slice s.a s.n s.cap ∧ s.n = n := by
  rcases h.2 with ⟨rfl, rfl⟩ | ⟨g, cap, cur, rfl, _⟩
  · exact ⟨nilS, rfl, rfl⟩
  · exact ⟨⟨_, _, _⟩, rfl, rfl⟩
theorem run_append_rd (w : World) (ty base : Nat) (b : Sl) (xs : List Int) (hown : OwnB base b xs w) (s : Sl) (zs : List Int) (hr : Rd w s.a s.n s.cap zs) (hn : b.n + s.n ≤ 1000000) (hbase : base ≤ w.heap.size) :
    ∃ (b' : Sl) (w' : World), (Builtin.append_ #[22, 22] ty #[.slice b.a b.n b.cap, .slice s.a s.n s.cap]).run Try.prog w = .ok (.slice b'.a b'.n b'.cap) w' ∧ OwnB base b' (xs ++ zs) w' ∧ b'.n = b.n + s.n ∧ w.grownBy w' (Value.slice b.a b.n b.cap).ownBlock := by
  obtain ⟨i, hi, h0, h1, h2⟩ := info_parts info5
  have hzl := hr.len
  have hxl := hown.len
  cases ha : s.a with
  | none =>
    obtain ⟨hs0, hs1⟩ := hr.reads.nil (by simpa using ha)
    dsimp only at hs0 hs1
    have hz0 : zs = [] := List.eq_nil_of_length_eq_zero (by omega)
    subst hz0
    have hrun := run_append_nothing (P := Try.prog) w 22 22 ty 5 i Try.underlying22 hi b.a b.n b.cap (by have := hown.reads.room; omega) (.slice none s.n s.cap) (by
      rw [hs0, hs1]
      exact Src.ofNil _ Try.underlying22 _)
    exact ⟨b, w, hrun, by simpa using hown, by omega, ⟨rfl, rfl, rfl, Nat.le_refl _, fun _ _ _ => rfl⟩⟩
  | some x =>
    have hx : ∀ j u, (encB zs)[j]? = some u → w.cell? (x.add j) = some u := by
      rcases hr.form with ⟨e, _⟩ | ⟨y, e, hc⟩
      · rw [ha] at e; cases e
      · rw [ha] at e
        obtain rfl := Option.some.inj e
        exact hc
    obtain ⟨v', w', hrun, hown', hg, _, _⟩ := run_append_own_at (P := Try.prog) w base 22 ty 5 i (.int .u8 0) 1 1 Try.underlying22 hi h0 h1 h2 rfl (by decide) _ b.n (encB xs) hown x s.n s.cap (encB zs) (by simp [encB, hzl]) hx
      (fun u hu => by
        obtain ⟨y, _, rfl⟩ := List.mem_map.1 hu
        rfl) (by unfold maxLen; omega) (by omega) hbase
    obtain ⟨b', rfl, hb'⟩ := sl_of_own hown'
    refine ⟨b', w', hrun, ?_, hb', hg⟩
    have e : encB xs ++ encB zs = encB (xs ++ zs) := by simp [encB]
    rw [e] at hown'
    rw [← hb'] at hown'
    exact hown'
theorem wpList_append_rd {w : World} {ops : Array Oper} {rest : List Oper} {o : Oper} {a : Act} {Q : Exit → Act → World → Prop} (hg : o.guard = none) (s x : Operand)
    (hop : o.op = Op.call { callee := Callee.builtin Builtin.append, args := #[s, x], argTypes := #[22, 22] })
    (base : Nat) (b : Sl) (xs : List Int) (hown : OwnB base b xs w) (r : Sl) (zs : List Int) (hr : Rd w r.a r.n r.cap zs) (hn : b.n + r.n ≤ 1000000) (hbase : base ≤ w.heap.size)
    (hs : a.eval s = .slice b.a b.n b.cap) (hx : a.eval x = .slice r.a r.n r.cap)
    (hK : ∀ (b' : Sl) (w' : World), OwnB base b' (xs ++ zs) w' → b'.n = b.n + r.n → w.grownBy w' (Value.slice b.a b.n b.cap).ownBlock → wpList Try.prog ops Q rest (a.put o.dst (.slice b'.a b'.n b'.cap)) w') :
    wpList Try.prog ops Q (o :: rest) a w := by
  refine wpList_plain hg fun K hK' => ?_
  obtain ⟨b', w', hrun, r1, r2, r3⟩ := run_append_rd w o.type base b xs hown r zs hr hn hbase
  unfold Oper.wp
  simp [execOp, hop, resolve, invoke, builtin, hs, hx, hrun, Result.andThen]
  exact hK' _ _ (hK b' w' r1 r2 r3)
end Go.Proofs.Ytdmdmkgpnelkjaa
