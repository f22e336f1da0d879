/- The list of all places, as it grows. -/
import Derived.Test.YtogbakgmkiiboaaPMath
import Derived.Test.YtogbakgmkiiboaaPRef
import Derived.Maps.AppendAt
import Derived.Deep.AppendLies
namespace Go.Proofs.Ytogbakgmkiiboaa.P
open Go.ChangeShapes Go.WideShapes Go.ChangeAt Go.RowKit
set_option linter.unusedVariables false
set_option maxRecDepth 20000


theorem info65 : (Try.prog.info? 65).map (fun i => (i.zero, i.size, i.bytes)) = some (some (.agg #[i0, i0, i0]), 3, 24) := by kernel_rfl
/-- Places in their cells. -/
def encX (x : Int × Int × Int) : List Value := [.int .i64 x.1, .int .i64 x.2.1, .int .i64 x.2.2]
def encP (l : List (Int × Int × Int)) : List Value := l.flatMap encX
/-- The places of the first m addresses. -/
def Cf.upto (c : Cf) (m : Nat) : List (Int × Int × Int) := (List.range m).map fun (i : Nat) => c.place (i : Int)
theorem upto_succ (c : Cf) (m : Nat) : c.upto (m + 1) = c.upto m ++ [c.place (m : Int)] := by simp [Cf.upto, List.range_succ]
theorem encP_snoc (l : List (Int × Int × Int)) (x : Int × Int × Int) : encP (l ++ [x]) = encP l ++ encX x := by simp [encP]
theorem encP_len (l : List (Int × Int × Int)) : (encP l).length = l.length * 3 := by
  induction l with
  | nil => rfl
  | cons x l ih => simp [encP, encX] at ih ⊢; omega
theorem upto_len (c : Cf) (m : Nat) : (c.upto m).length = m := by simp [Cf.upto]
theorem encP_get (l : List (Int × Int × Int)) (j : Nat) (x : Int × Int × Int) (h : l[j]? = some x) :
    (encP l)[j * 3]? = some (.int .i64 x.1) ∧ (encP l)[j * 3 + 1]? = some (.int .i64 x.2.1) ∧ (encP l)[j * 3 + 2]? = some (.int .i64 x.2.2) := by
  induction l generalizing j with
  | nil => simp at h
  | cons y l ih =>
    have e : encP (y :: l) = encX y ++ encP l := by simp [encP]
    have le : (encX y).length = 3 := rfl
    cases j with
    | zero =>
      obtain rfl : y = x := by simpa using h
      rw [e]
      exact ⟨rfl, rfl, rfl⟩
    | succ j =>
      have := ih j (by simpa using h)
      rw [e]
      refine ⟨?_, ?_, ?_⟩
      · rw [List.getElem?_append_right (by omega), le, show (j + 1) * 3 - 3 = j * 3 by omega]; exact this.1
      · rw [List.getElem?_append_right (by omega), le, show (j + 1) * 3 + 1 - 3 = j * 3 + 1 by omega]; exact this.2.1
      · rw [List.getElem?_append_right (by omega), le, show (j + 1) * 3 + 2 - 3 = j * 3 + 2 by omega]; exact this.2.2

theorem row_agree {W W' : World} {base : Nat} {e : TypeId} {size n : Nat} {v : Value} {xs : List Value} (h : W.ownsRow base e size v n xs) (hk : ∀ k, v.ownBlock = some k → W'.heap[k]? = W.heap[k]?) : W'.ownsRow base e size v n xs := by
  refine ⟨h.1, ?_⟩
  rcases h.2 with h | ⟨g, cap, cur, rfl, hb, hg, r⟩
  · exact .inl h
  · exact .inr ⟨g, cap, cur, rfl, hb, (hk g rfl).trans hg, r⟩

/-- Amid 'All': the configuration's box, and the list v with the places of the first m addresses. -/
structure AllS (c : Cf) (w : World) (m : Nat) (v : Value) (W : World) : Prop where
  p : Blk W w.heap.size 23 c.cs
  row : W.ownsRow (w.heap.size + 1) 65 3 v m (encP (c.upto m))
  bel : Below w.heap.size w W
theorem AllS.below {c : Cf} {w W W1 : World} {m : Nat} {v : Value} (h : AllS c w m v W) (hb : Below W.heap.size W W1) : AllS c w m v W1 :=
  ⟨h.p.below hb h.p.lt, row_agree h.row fun k e => hb.block k (h.row.lt k e).2, below_then h.bel hb (Nat.le_refl _)⟩
theorem AllS.new (c : Cf) (w : World) : AllS c w 0 (.slice none 0 0) (w.alloc (.cells c.cs 23)) :=
  ⟨Blk.new _ _ _, World.ownsRow_nil _ _ _ _, box1 _⟩

/-- One more place. -/
theorem wpList_push {c : Cf} {w W : World} {m : Nat} {v : Value} (hS : AllS c w m v W) (hm : m < 2000) {x y z : Int} (hx : c.place (m : Int) = (x, y, z)) {ops : Array Oper} {rest : List Oper} {o : Oper} {a : Act} {Q : Exit → Act → World → Prop} (s t : Operand)
    (hgd : o.guard = none) (ho : o.op = .call { callee := .builtin .append, args := #[s, t], argTypes := #[60, 60] }) (hs : a.eval s = v) (ht : a.eval t = .slice (some ⟨W.heap.size, 0, none⟩) 1 1)
    (h : ∀ v' W', AllS c w (m + 1) v' W' → wpList Try.prog ops Q rest (a.put o.dst v') W') : wpList Try.prog ops Q (o :: rest) a (W.alloc (.cells #[.int .i64 x, .int .i64 y, .int .i64 z] 65)) := by
  obtain ⟨i, hi, hz0, hz1, hz2⟩ := info_parts info65
  have hP := hS.p.lt
  refine wpList_append_lies _ hgd s t 60 ho (w.heap.size + 1) 65 i _ 3 24 Try.underlying60 hi hz0 hz1 hz2 rfl (by decide) v m (encP (c.upto m)) hs (hS.row.alloc _) ⟨W.heap.size, 0, none⟩ 1 1 [.int .i64 x, .int .i64 y, .int .i64 z] ht rfl
    (World.news_of_block (cs := #[.int .i64 x, .int .i64 y, .int .i64 z]) (t := 65) (fr := (0, 0)) (heap_alloc_new W _)) (by simp [Value.oneCell']) (by omega) (by unfold maxLen; omega) (by omega) (by simp; omega) (W.heap.size + 1) (by simp) ?_
  intro g cap w' hown hgrow hat hlt
  refine h _ _ ⟨?_, ?_, ?_⟩
  · refine (hS.p.alloc _).agree (hgrow.block _ (by simp; omega) (fun e => ?_))
    have := (hS.row.lt _ e.symm).1
    omega
  · rw [upto_succ, encP_snoc, hx]
    exact hown
  · refine (hS.bel.alloc hS.bel.size _).grown hgrow (by have := hS.bel.size; simp; omega) (fun k e => ?_)
    have := (hS.row.lt _ e).1
    omega
end Go.Proofs.Ytogbakgmkiiboaa.P
