/- A configuration written plainly; what the small functions of the plan answer. -/
import Derived.Test.YtnedifcjenlcjaaRows
import Derived.WalkKit
import Derived.ProofKit
import Derived.Below
import Derived.OwnWalk
import Derived.OneCell
import Derived.Laws.OwnMore
import Derived.Laws.StructEq
import Derived.Deep.RegionHeld3
import Derived.Deep.Onto
import Derived.Deep.Draws
import Derived.Lib.Hide
import Derived.Lib.QuietBelow
import Derived.StillTailTactics
import Derived.WalkLawsBesides
import Derived.Handy
namespace Go.Proofs.Ytnedifcjenlcjaa.P
open Go.ChangeShapes Go.WideShapes Go.ChangeAt Go.RowKit
set_option linter.unusedVariables false
set_option maxRecDepth 20000


/-- A configuration, written plainly. -/
structure Cf where
  al : Int
  th : Int
  nd : Int
  lv : Int
  ba : Int
  pr : Int
  sc : Int
/-- Its cells, and its value; a plan has the same. -/
abbrev Cf.cs (c : Cf) : Array Value := #[.int .i64 c.al, .int .i64 c.th, .int .i64 c.nd, .int .i64 c.lv, .int .i64 c.ba, .int .i64 c.pr, .int .i64 c.sc]
abbrev Cf.v (c : Cf) : Value := .agg #[.int .i64 c.al, .int .i64 c.th, .int .i64 c.nd, .int .i64 c.lv, .int .i64 c.ba, .int .i64 c.pr, .int .i64 c.sc]
abbrev zc : Cf := ⟨0, 0, 0, 0, 0, 0, 0⟩

/-- How many nodes of an algorithm are always there. -/
def sent (al : Int) : Int := if al = 0 then 0 else 2
/-- May a configuration be? -/
structure Cf.Ok (c : Cf) : Prop where
  a0 : 0 ≤ c.al
  a1 : c.al ≤ 2
  t0 : 1 ≤ c.th
  t1 : c.th ≤ 6
  n0 : sent c.al + 1 ≤ c.nd
  n1 : c.nd ≤ 64
  l0 : 1 ≤ c.lv
  l1 : c.lv ≤ 6
  b0 : 1 ≤ c.ba
  b1 : c.ba ≤ 16
  p0 : 1 ≤ c.pr
  p1 : c.pr ≤ 16
  s0 : 1 ≤ c.sc
  s1 : c.sc ≤ 64

theorem ret_int {k : IntKind} {a b : Int} (h : a = b) : Ending.returned (.int k a) = .returned (.int k b) := by rw [h]
theorem below_drewN {n : Nat} {A W : World} (h : Below n A W) (m : Nat) : Below n A (W.drewN m) := ⟨h.os, h.tape, h.output, h.size, h.block⟩
theorem bcell {W w1 : World} (hb : Below W.heap.size W w1) : (∀ b o, b < W.heap.size → w1.cell? ⟨b, o, none⟩ = W.cell? ⟨b, o, none⟩) ∧ (∀ b o, b < W.heap.size → w1.frozen? ⟨b, o, none⟩ = W.frozen? ⟨b, o, none⟩) :=
  ⟨fun b o h => hb.cell (p := ⟨b, o, none⟩) h, fun b o h => hb.frozen (p := ⟨b, o, none⟩) h⟩

/-- A region that reads and asks quietly, and ends in one forced tail. -/
theorem wp_tail {P : Program} {id : Nat} {Q : Exit → Act → World → Prop} {a : Act} {w : World} {l : List Oper} (n : Nat) (hm : P.follows .mixedOrders = true) (hB : Region.lexTailB .any l.toArray n = true)
    (h : wpStill P l.toArray w.drew (fun a' => wpList P l.toArray Q (l.drop n) a' w.drew) (l.take n) a) : (Code.region id l.toArray true).wp P Q a w := wp_region_still_tail n hm hB h

/-! ### within, sentinels -/
/-- The number nearest to n from lo to hi. -/
def nearN (n lo hi : Int) : Int := if lo < (if hi < n then hi else n) then (if hi < n then hi else n) else lo
theorem within_any (n lo hi : Int) (w : World) : Calls Try.prog 58 #[.int .i64 n, .int .i64 lo, .int .i64 hi] w fun e w' => e = .returned (.int .i64 (nearN n lo hi)) ∧ w' = w := by
  have qmin : ∀ w, (Builtin.min_ #[3, 3] 3 #[.int .i64 n, .int .i64 hi]).run Try.prog w = .ok (.int .i64 (if hi < n then hi else n)) w := fun w => by simp [Builtin.min_, Builtin.min2]
  have qmax : ∀ w, (Builtin.max_ #[3, 3] 3 #[.int .i64 lo, .int .i64 (if hi < n then hi else n)]).run Try.prog w = .ok (.int .i64 (nearN n lo hi)) w := fun w => by simp [Builtin.max_, Builtin.max2, nearN]
  generalize (if hi < n then hi else n) = m at *
  generalize nearN n lo hi = r at *
  go_enter Try.func58, Try.ntmps58
  go_wp2
  go_ret
  exact ⟨rfl, rfl⟩
theorem sentinels_any (al : Int) (w : World) : Calls Try.prog 42 #[.int .i64 al] w fun e w' => e = .returned (.int .i64 (sent al)) ∧ w' = w := by
  by_cases h : al = 0
  · subst h
    have hs : sent 0 = 0 := rfl
    rw [hs]
    clear hs
    go_enter Try.func42, Try.ntmps42
    go_wp2
    go_ret
    exact ⟨rfl, rfl⟩
  · have hs : sent al = 2 := if_neg h
    rw [hs]
    clear hs
    have h2 : (al == 0) = false := by simpa using h
    go_enter Try.func42, Try.ntmps42
    go_wp2
    go_ret
    exact ⟨rfl, rfl⟩

/-! ### nearest -/
def Cf.near (c : Cf) : Cf := ⟨nearN c.al 0 2, nearN c.th 1 6, nearN c.nd (sent c.al + 1) 64, nearN c.lv 1 6, nearN c.ba 1 16, nearN c.pr 1 16, nearN c.sc 1 64⟩
end Go.Proofs.Ytnedifcjenlcjaa.P
