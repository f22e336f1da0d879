/- Calls and answers written plainly; which may be, and which fit each other. -/
import Derived.Test.YtjmejdalmglehaaRows
import Derived.WalkKit
import Derived.ProofKit
import Derived.Below
import Derived.OwnWalk
import Derived.OneCell
import Derived.Lib.Walk
import Derived.Lib.Hide
import Derived.Laws.OwnMore
import Derived.Deep.Onto
import Derived.Deep.Draws
import Derived.StillTailTactics
import Derived.WalkLawsBesides
import Derived.Handy
import Derived.Laws.StructEq
import Derived.Deep.RegionHeld3
import Derived.Deep.RegionWith
import Derived.Deep.QuietTactic
import Derived.BigQuiet
import Derived.Deep.Cut
import Derived.Deep.CutRange
import Derived.Lib.QuietBelow
namespace Go.Proofs.Ytjmejdalmglehaa
open Go.ChangeShapes Go.WideShapes Go.ChangeAt Go.RowKit
set_option linter.unusedVariables false

/-- A block that is known whole. -/
def Blk (W : World) (g : Nat) (t : TypeId) (cs : Array Value) : Prop := W.heap[g]? = some (.cells cs t (0, 0))
theorem Blk.lt {W : World} {g : Nat} {t : TypeId} {cs : Array Value} (h : Blk W g t cs) : g < W.heap.size := (Array.getElem?_eq_some_iff.1 h).1
theorem Blk.cell {W : World} {g : Nat} {t : TypeId} {cs : Array Value} (h : Blk W g t cs) (i : Nat) : W.cell? ⟨g, i, none⟩ = cs[i]? := cell_of_row W g i cs t (0, 0) h
theorem Blk.frozen {W : World} {g : Nat} {t : TypeId} {cs : Array Value} (h : Blk W g t cs) (i : Nat) : W.frozen? ⟨g, i, none⟩ = false := by
  unfold Blk at h
  simp [World.frozen?, h]
theorem Blk.agree {W W' : World} {g : Nat} {t : TypeId} {cs : Array Value} (h : Blk W g t cs) (e : W'.heap[g]? = W.heap[g]?) : Blk W' g t cs := e.trans h
theorem Blk.new (W : World) (t : TypeId) (cs : Array Value) : Blk (W.alloc (.cells cs t)) W.heap.size t cs := heap_alloc_new W _
theorem Blk.alloc {W : World} {g : Nat} {t : TypeId} {cs : Array Value} (h : Blk W g t cs) (o : Obj) : Blk (W.alloc o) g t cs := h.agree (Below.heap_alloc _ _ _ h.lt)
theorem Blk.below {W W' : World} {g n : Nat} {t : TypeId} {cs : Array Value} (h : Blk W g t cs) (hb : Below n W W') (hn : g < n) : Blk W' g t cs := h.agree (hb.block g hn)
theorem Blk.drew {W : World} {g : Nat} {t : TypeId} {cs : Array Value} (h : Blk W g t cs) : Blk W.drew g t cs := h
theorem Blk.set {W : World} {g : Nat} {t : TypeId} {cs : Array Value} (h : Blk W g t cs) (i : Nat) (u : Value) : Blk (W.setCell ⟨g, i, none⟩ u) g t (cs.setIfInBounds i u) := by
  unfold Blk at h ⊢
  simp [World.setCell, Array.getElem?_modify, h]
theorem Blk.far {W : World} {g : Nat} {t : TypeId} {cs : Array Value} (h : Blk W g t cs) {p : Addr} (hp : g ≠ p.block) (u : Value) : Blk (W.setCell p u) g t cs := h.agree (Below.heap_setCell _ _ _ _ hp)
theorem below_drewN {n : Nat} {A W : World} (h : Below n A W) (m : Nat) : Below n A (W.drewN m) := ⟨h.os, h.tape, h.output, h.size, h.block⟩
theorem below_drew {n : Nat} {A W : World} (h : Below n A W) : Below n A W.drew := ⟨h.os, h.tape, h.output, h.size, h.block⟩
/-- Behind a world that is as w below w's size: another that is so of it. -/
theorem below_then {w W V : World} (h : Below w.heap.size w W) (k : Below W.heap.size W V) : Below w.heap.size w V := h.trans (k.mono h.size)

/-- A call, or an answer, written plainly. -/
structure Tri where
  op : Int
  key : Int
  val : Int
abbrev Tri.v (c : Tri) : Value := .agg #[.int .i64 c.op, .int .u32 c.key, .int .u32 c.val]
abbrev Tri.cs (c : Tri) : Array Value := #[.int .i64 c.op, .int .u32 c.key, .int .u32 c.val]
def bare (c : Tri) : Bool := c.key == 0 && c.val == 0
/-- May a call be? -/
def rightB (c : Tri) : Bool := c.op == 0 || (c.op == 1 || c.op == 2) && bare c
/-- May an answer be? -/
def mayB (a : Tri) : Bool := a.op == 2 || (a.op == 0 || a.op == 1 || a.op == 3) && bare a
def fitsB (c a : Tri) : Bool := rightB c && mayB a && ((a.op == 0 || a.op == 1) == (c.op == 0))

theorem eq_call (t : TypeId) (ht : t = 30 ∨ t = 32) (a b : Tri) (w : World) : (Op.equalIn 10000 t a.v b.v).run Try.prog w = .ok (a.op == b.op && a.key == b.key && a.val == b.val) w := by
  obtain ⟨a1, a2, a3⟩ := a
  obtain ⟨b1, b2, b3⟩ := b
  rcases ht with rfl | rfl <;> simp [go_sem] <;> by_cases h1 : a1 = b1 <;> by_cases h2 : a2 = b2 <;> by_cases h3 : a3 = b3 <;> simp [h1, h2, h3]

set_option maxRecDepth 100000 in
theorem right_any (c : Tri) (w : World) : Calls Try.prog 43 #[c.v] w fun e w' => e = .returned (.bool (rightB c)) ∧ Below w.heap.size w w' := by
  obtain ⟨o, k, v⟩ := c
  by_cases h0 : o = 0
  · subst h0
    have hr : rightB ⟨0, k, v⟩ = true := by simp [rightB]
    rw [hr]
    clear hr
    go_enter Try.func43, Try.ntmps43
    go_wp2
    go_ret
    exact ⟨rfl, (Below.refl _ _).alloc (Nat.le_refl _) _⟩
  by_cases h12 : o = 1 ∨ o = 2
  · have hr : rightB ⟨o, k, v⟩ = (o == o && k == 0 && v == 0) := by rcases h12 with rfl | rfl <;> simp [rightB, bare]
    rw [hr]
    clear hr
    have hq := fun w => eq_call 30 (.inl rfl) ⟨o, k, v⟩ ⟨o, 0, 0⟩ w
    simp only [Tri.v] at hq
    generalize (o == o && k == 0 && v == 0) = x at *
    rcases h12 with rfl | rfl
    all_goals
      go_enter Try.func43, Try.ntmps43
      go_wp2
      go_ret
      exact ⟨rfl, (Below.refl _ _).alloc (Nat.le_refl _) _⟩
  · have hr : rightB ⟨o, k, v⟩ = false := by simp [rightB, h0]; omega
    rw [hr]
    clear hr
    have h1 : ¬ o = 1 := fun e => h12 (.inl e)
    have h2 : ¬ o = 2 := fun e => h12 (.inr e)
    go_enter Try.func43, Try.ntmps43
    go_wp2
    go_ret
    exact ⟨rfl, (Below.refl _ _).alloc (Nat.le_refl _) _⟩
end Go.Proofs.Ytjmejdalmglehaa
