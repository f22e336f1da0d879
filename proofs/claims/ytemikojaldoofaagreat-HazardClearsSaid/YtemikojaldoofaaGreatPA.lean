/- A configuration written plainly; what the small functions of the plan answer. nearest, New. New: a plan just of what may be. The plan's numbers; an area's end, the area behind it. The areas of a plan. The areas of a zero plan; Size; where a thing lies. Hazard, Link, Node, Tree; Where. -/
import Derived.Test.YtemikojaldoofaaGreatRows
import Derived.WalkKit
import Derived.ProofKit
import Derived.Below
import Derived.OwnWalk
import Derived.OneCell
import Derived.Laws.OwnMore
import Derived.Laws.StructEq
import Derived.Deep.RegionHeld3
import Derived.Deep.Onto
import Derived.Deep.Draws
import Derived.Lib.Hide
import Derived.Lib.QuietBelow
import Derived.StillTailTactics
import Derived.WalkLawsBesides
import Derived.Handy
import Derived.Deep.MidRow
import Derived.BigQuiet
namespace Go.Proofs.YtemikojaldoofaaGreat.P
open Go.ChangeShapes Go.WideShapes Go.ChangeAt Go.RowKit
set_option linter.unusedVariables false

set_option maxRecDepth 20000


/-- A configuration, written plainly. -/
structure Cf where
  al : Int
  th : Int
  nd : Int
  lv : Int
  ba : Int
  pr : Int
  sc : Int
/-- Its cells, and its value; a plan has the same. -/
abbrev Cf.cs (c : Cf) : Array Value := #[.int .i64 c.al, .int .i64 c.th, .int .i64 c.nd, .int .i64 c.lv, .int .i64 c.ba, .int .i64 c.pr, .int .i64 c.sc]
abbrev Cf.v (c : Cf) : Value := .agg #[.int .i64 c.al, .int .i64 c.th, .int .i64 c.nd, .int .i64 c.lv, .int .i64 c.ba, .int .i64 c.pr, .int .i64 c.sc]
abbrev zc : Cf := ⟨0, 0, 0, 0, 0, 0, 0⟩

/-- How many nodes of an algorithm are always there. -/
def sent (al : Int) : Int := if al = 0 then 0 else 2
/-- May a configuration be? -/
structure Cf.Ok (c : Cf) : Prop where
  a0 : 0 ≤ c.al
  a1 : c.al ≤ 2
  t0 : 1 ≤ c.th
  t1 : c.th ≤ 6
  n0 : sent c.al + 1 ≤ c.nd
  n1 : c.nd ≤ 64
  l0 : 1 ≤ c.lv
  l1 : c.lv ≤ 6
  b0 : 1 ≤ c.ba
  b1 : c.ba ≤ 16
  p0 : 1 ≤ c.pr
  p1 : c.pr ≤ 16
  s0 : 1 ≤ c.sc
  s1 : c.sc ≤ 64

theorem ret_int {k : IntKind} {a b : Int} (h : a = b) : Ending.returned (.int k a) = .returned (.int k b) := by rw [h]
theorem below_drewN {n : Nat} {A W : World} (h : Below n A W) (m : Nat) : Below n A (W.drewN m) := ⟨h.os, h.tape, h.output, h.size, h.block⟩
theorem bcell {W w1 : World} (hb : Below W.heap.size W w1) : (∀ b o, b < W.heap.size → w1.cell? ⟨b, o, none⟩ = W.cell? ⟨b, o, none⟩) ∧ (∀ b o, b < W.heap.size → w1.frozen? ⟨b, o, none⟩ = W.frozen? ⟨b, o, none⟩) :=
  ⟨fun b o h => hb.cell (p := ⟨b, o, none⟩) h, fun b o h => hb.frozen (p := ⟨b, o, none⟩) h⟩

/-- A region that reads and asks quietly, and ends in one forced tail. -/
theorem wp_tail {P : Program} {id : Nat} {Q : Exit → Act → World → Prop} {a : Act} {w : World} {l : List Oper} (n : Nat) (hm : P.follows .mixedOrders = true) (hB : Region.lexTailB .any l.toArray n = true)
    (h : wpStill P l.toArray w.drew (fun a' => wpList P l.toArray Q (l.drop n) a' w.drew) (l.take n) a) : (Code.region id l.toArray true).wp P Q a w := wp_region_still_tail n hm hB h

/-! ### within, sentinels -/
/-- The number nearest to n from lo to hi. -/
def nearN (n lo hi : Int) : Int := if lo < (if hi < n then hi else n) then (if hi < n then hi else n) else lo
theorem within_any (n lo hi : Int) (w : World) : Calls Tryz.prog 76 #[.int .i64 n, .int .i64 lo, .int .i64 hi] w fun e w' => e = .returned (.int .i64 (nearN n lo hi)) ∧ w' = w := by
  have qmin : ∀ w, (Builtin.min_ #[3, 3] 3 #[.int .i64 n, .int .i64 hi]).run Tryz.prog w = .ok (.int .i64 (if hi < n then hi else n)) w := fun w => by simp [Builtin.min_, Builtin.min2]
  have qmax : ∀ w, (Builtin.max_ #[3, 3] 3 #[.int .i64 lo, .int .i64 (if hi < n then hi else n)]).run Tryz.prog w = .ok (.int .i64 (nearN n lo hi)) w := fun w => by simp [Builtin.max_, Builtin.max2, nearN]
  generalize (if hi < n then hi else n) = m at *
  generalize nearN n lo hi = r at *
  go_enter Tryz.func76, Tryz.ntmps76
  go_wp2
  go_ret
  exact ⟨rfl, rfl⟩
theorem sentinels_any (al : Int) (w : World) : Calls Tryz.prog 60 #[.int .i64 al] w fun e w' => e = .returned (.int .i64 (sent al)) ∧ w' = w := by
  by_cases h : al = 0
  · subst h
    have hs : sent 0 = 0 := rfl
    rw [hs]
    clear hs
    go_enter Tryz.func60, Tryz.ntmps60
    go_wp2
    go_ret
    exact ⟨rfl, rfl⟩
  · have hs : sent al = 2 := if_neg h
    rw [hs]
    clear hs
    have h2 : (al == 0) = false := by simpa using h
    go_enter Tryz.func60, Tryz.ntmps60
    go_wp2
    go_ret
    exact ⟨rfl, rfl⟩

/-! ### nearest -/
def Cf.near (c : Cf) : Cf := ⟨nearN c.al 0 2, nearN c.th 1 6, nearN c.nd (sent c.al + 1) 64, nearN c.lv 1 6, nearN c.ba 1 16, nearN c.pr 1 16, nearN c.sc 1 64⟩
end Go.Proofs.YtemikojaldoofaaGreat.P
namespace Go.Proofs.YtemikojaldoofaaGreat.P
open Go.ChangeShapes Go.WideShapes Go.ChangeAt Go.RowKit
set_option linter.unusedVariables false

set_option maxRecDepth 20000


set_option maxRecDepth 100000 in
set_option maxHeartbeats 4000000 in
theorem nearest_any (c : Cf) (w : World) : Calls Tryz.prog 56 #[c.v] w fun e w' => e = .returned c.near.v ∧ Below w.heap.size w w' := by
  obtain ⟨al, th, nd, lv, ba, pr, sc⟩ := c
  have hs : IntKind.i64.wrap (sent al + 1) = sent al + 1 := by
    unfold sent
    split <;> rfl
  go_enter Tryz.func56, Tryz.ntmps56
  go_wp2
  refine wp_tail 26 (by kernel_rfl) (by kernel_rfl) ?_
  simp only [List.take_succ_cons, List.take_zero, List.drop_succ_cons, List.drop_zero]
  still_step
  still_step
  still_call (within_any _ _ _ _)
  still_step
  still_step
  still_call (within_any _ _ _ _)
  still_step
  still_step
  still_step
  still_step
  still_call (sentinels_any _ _)
  still_step
  still_call (within_any _ _ _ _)
  still_step
  still_step
  still_call (within_any _ _ _ _)
  still_step
  still_step
  still_call (within_any _ _ _ _)
  still_step
  still_step
  still_call (within_any _ _ _ _)
  still_step
  still_step
  still_call (within_any _ _ _ _)
  still_step
  refine wpStill_nil ?_
  go_wp2
  refine bodyPost_ret (v := Cf.v (Cf.near ⟨al, th, nd, lv, ba, pr, sc⟩)) (by simp [results, Tryz.results56, go_sem, Cf.near]) rfl ⟨rfl, ?_⟩
  exact (((Below.refl _ _).alloc (Nat.le_refl _) _).alloc (by simp) _).drew

/-- A block known whole stays so. -/
def Blk (W : World) (g : Nat) (t : TypeId) (cs : Array Value) : Prop := W.heap[g]? = some (.cells cs t (0, 0))
theorem Blk.lt {W : World} {g : Nat} {t : TypeId} {cs : Array Value} (h : Blk W g t cs) : g < W.heap.size := (Array.getElem?_eq_some_iff.1 h).1
theorem Blk.cell {W : World} {g : Nat} {t : TypeId} {cs : Array Value} (h : Blk W g t cs) (i : Nat) : W.cell? ⟨g, i, none⟩ = cs[i]? := cell_of_row W g i cs t (0, 0) h
theorem Blk.frozen {W : World} {g : Nat} {t : TypeId} {cs : Array Value} (h : Blk W g t cs) (i : Nat) : W.frozen? ⟨g, i, none⟩ = false := by
  unfold Blk at h
  simp [World.frozen?, h]
theorem Blk.agree {W W' : World} {g : Nat} {t : TypeId} {cs : Array Value} (h : Blk W g t cs) (e : W'.heap[g]? = W.heap[g]?) : Blk W' g t cs := e.trans h
theorem Blk.new (W : World) (t : TypeId) (cs : Array Value) : Blk (W.alloc (.cells cs t)) W.heap.size t cs := heap_alloc_new W _
theorem Blk.alloc {W : World} {g : Nat} {t : TypeId} {cs : Array Value} (h : Blk W g t cs) (o : Obj) : Blk (W.alloc o) g t cs := h.agree (Below.heap_alloc _ _ _ h.lt)
theorem Blk.below {W W' : World} {g n : Nat} {t : TypeId} {cs : Array Value} (h : Blk W g t cs) (hb : Below n W W') (hn : g < n) : Blk W' g t cs := h.agree (hb.block g hn)
theorem Blk.drew {W : World} {g : Nat} {t : TypeId} {cs : Array Value} (h : Blk W g t cs) : Blk W.drew g t cs := h
theorem Blk.set {W : World} {g : Nat} {t : TypeId} {cs : Array Value} (h : Blk W g t cs) (i : Nat) (u : Value) : Blk (W.setCell ⟨g, i, none⟩ u) g t (cs.setIfInBounds i u) := by
  unfold Blk at h ⊢
  simp [World.setCell, Array.getElem?_modify, h]
theorem Blk.far {W : World} {g : Nat} {t : TypeId} {cs : Array Value} (h : Blk W g t cs) {p : Addr} (hp : g ≠ p.block) (u : Value) : Blk (W.setCell p u) g t cs := h.agree (Below.heap_setCell _ _ _ _ hp)
/-- The seven cells of a configuration. -/
theorem Blk.conf {W : World} {g : Nat} {t : TypeId} {c : Cf} (h : Blk W g t c.cs) : W.cell? ⟨g, 0, none⟩ = some (.int .i64 c.al) ∧ W.cell? ⟨g, 1, none⟩ = some (.int .i64 c.th) ∧ W.cell? ⟨g, 2, none⟩ = some (.int .i64 c.nd) ∧ W.cell? ⟨g, 3, none⟩ = some (.int .i64 c.lv) ∧
    W.cell? ⟨g, 4, none⟩ = some (.int .i64 c.ba) ∧ W.cell? ⟨g, 5, none⟩ = some (.int .i64 c.pr) ∧ W.cell? ⟨g, 6, none⟩ = some (.int .i64 c.sc) :=
  ⟨by rw [h.cell]; rfl, by rw [h.cell]; rfl, by rw [h.cell]; rfl, by rw [h.cell]; rfl, by rw [h.cell]; rfl, by rw [h.cell]; rfl, by rw [h.cell]; rfl⟩

theorem below_drew1 {n : Nat} {A W : World} (h : Below n A W) : Below n A W.drew := ⟨h.os, h.tape, h.output, h.size, h.block⟩

/-! ### Two configurations compared -/
def Cf.eqB (c d : Cf) : Bool := c.al == d.al && c.th == d.th && c.nd == d.nd && c.lv == d.lv && c.ba == d.ba && c.pr == d.pr && c.sc == d.sc
theorem Cf.eqB_true {c d : Cf} : c.eqB d = true ↔ c = d := by
  obtain ⟨a1, a2, a3, a4, a5, a6, a7⟩ := c
  obtain ⟨b1, b2, b3, b4, b5, b6, b7⟩ := d
  simp [Cf.eqB, and_assoc]
theorem Cf.eqB_self (c : Cf) : c.eqB c = true := Cf.eqB_true.2 rfl
theorem Cf.eqB_false {c d : Cf} (h : c ≠ d) : c.eqB d = false := by
  cases hb : c.eqB d with
  | false => rfl
  | true => exact (h (Cf.eqB_true.1 hb)).elim
theorem eq_conf (c d : Cf) (w : World) : (Op.equalIn 10000 23 c.v d.v).run Tryz.prog w = .ok (c.eqB d) w := by
  obtain ⟨a1, a2, a3, a4, a5, a6, a7⟩ := c
  obtain ⟨b1, b2, b3, b4, b5, b6, b7⟩ := d
  simp [go_sem, Cf.eqB]
  by_cases h1 : a1 = b1 <;> by_cases h2 : a2 = b2 <;> by_cases h3 : a3 = b3 <;> by_cases h4 : a4 = b4 <;> by_cases h5 : a5 = b5 <;> by_cases h6 : a6 = b6 <;> by_cases h7 : a7 = b7 <;> simp [h1, h2, h3, h4, h5, h6, h7]
end Go.Proofs.YtemikojaldoofaaGreat.P
namespace Go.Proofs.YtemikojaldoofaaGreat.P
open Go.ChangeShapes Go.WideShapes Go.ChangeAt Go.RowKit
set_option linter.unusedVariables false

set_option maxRecDepth 20000


theorem below_then {n : Nat} {w W w1 : World} (h0 : Below n w W) (hb : Below W.heap.size W w1) (hn : n ≤ w.heap.size) : Below n w w1 :=
  h0.trans (hb.mono (Nat.le_trans hn h0.size))
theorem nearN_self {n lo hi : Int} (h1 : lo ≤ n) (h2 : n ≤ hi) : nearN n lo hi = n := by
  unfold nearN
  rw [if_neg (show ¬ hi < n by omega)]
  split <;> omega
theorem nearN_in {n lo hi : Int} (h : lo ≤ hi) : lo ≤ nearN n lo hi ∧ nearN n lo hi ≤ hi := by
  unfold nearN
  split <;> split at * <;> omega
theorem sent_in (al : Int) : 0 ≤ sent al ∧ sent al ≤ 2 := by
  unfold sent
  split <;> omega
theorem Cf.Ok.near {c : Cf} (h : c.Ok) : c = c.near := by
  obtain ⟨al, th, nd, lv, ba, pr, sc⟩ := c
  obtain ⟨h1, h2, h3, h4, h5, h6, h7, h8, h9, h10, h11, h12, h13, h14⟩ := h
  simp only [Cf.near] at *
  rw [nearN_self h1 h2, nearN_self h3 h4, nearN_self h5 h6, nearN_self h7 h8, nearN_self h9 h10, nearN_self h11 h12, nearN_self h13 h14]
theorem Cf.ok_of_near {c : Cf} (h : c = c.near) : c.Ok := by
  obtain ⟨al, th, nd, lv, ba, pr, sc⟩ := c
  simp only [Cf.near, Cf.mk.injEq] at h
  obtain ⟨e1, e2, e3, e4, e5, e6, e7⟩ := h
  have s := sent_in al
  have q1 := nearN_in (n := al) (lo := 0) (hi := 2) (by omega)
  have q2 := nearN_in (n := th) (lo := 1) (hi := 6) (by omega)
  have q3 := nearN_in (n := nd) (lo := sent al + 1) (hi := 64) (by omega)
  have q4 := nearN_in (n := lv) (lo := 1) (hi := 6) (by omega)
  have q5 := nearN_in (n := ba) (lo := 1) (hi := 16) (by omega)
  have q6 := nearN_in (n := pr) (lo := 1) (hi := 16) (by omega)
  have q7 := nearN_in (n := sc) (lo := 1) (hi := 64) (by omega)
  rw [← e1] at q1
  rw [← e2] at q2
  rw [← e3] at q3
  rw [← e4] at q4
  rw [← e5] at q5
  rw [← e6] at q6
  rw [← e7] at q7
  exact ⟨q1.1, q1.2, q2.1, q2.2, q3.1, q3.2, q4.1, q4.2, q5.1, q5.2, q6.1, q6.2, q7.1, q7.2⟩

set_option maxHeartbeats 1000000 in
theorem new_bad (c : Cf) (w : World) (h : ¬ c.Ok) : Calls Tryz.prog 32 #[c.v] w fun e w' => e = .returned (.tuple #[zc.v, .int .i64 6]) ∧ Below w.heap.size w w' := by
  have hq : ∀ w, (Op.equalIn 10000 23 c.v c.near.v).run Tryz.prog w = .ok false w := fun w => by rw [eq_conf, Cf.eqB_false (fun e => h (Cf.ok_of_near e))]
  have hc := nearest_any c
  generalize c.near = d at *
  clear h
  have hB : Blk ((w.alloc (.cells c.cs 23)).alloc (.cells zc.cs 33)) w.heap.size 23 c.cs := (Blk.new _ _ _).alloc _
  have hR : Blk ((w.alloc (.cells c.cs 23)).alloc (.cells zc.cs 33)) (w.heap.size + 1) 33 zc.cs := by
    have := Blk.new (w.alloc (.cells c.cs 23)) 33 zc.cs
    simpa using this
  have h0 : Below w.heap.size w ((w.alloc (.cells c.cs 23)).alloc (.cells zc.cs 33)) := ((Below.refl _ _).alloc (Nat.le_refl _) _).alloc (by simp) _
  go_enter Tryz.func32, Tryz.ntmps32
  go_wp2
  generalize ((w.alloc (.cells c.cs 23)).alloc (.cells zc.cs 33)) = W at *
  have hR0 : w.heap.size ≤ w.heap.size + 1 := by omega
  have hne : w.heap.size ≠ w.heap.size + 1 := by omega
  have hne2 : w.heap.size + 1 ≠ w.heap.size := by omega
  generalize w.heap.size + 1 = R at *
  obtain ⟨x0, x1, x2, x3, x4, x5, x6⟩ := hB.conf
  go_region_held3 (fun W => W.cell? ⟨w.heap.size, 0, none⟩ = some (.int .i64 c.al) ∧ W.cell? ⟨w.heap.size, 1, none⟩ = some (.int .i64 c.th) ∧ W.cell? ⟨w.heap.size, 2, none⟩ = some (.int .i64 c.nd) ∧ W.cell? ⟨w.heap.size, 3, none⟩ = some (.int .i64 c.lv) ∧
    W.cell? ⟨w.heap.size, 4, none⟩ = some (.int .i64 c.ba) ∧ W.cell? ⟨w.heap.size, 5, none⟩ = some (.int .i64 c.pr) ∧ W.cell? ⟨w.heap.size, 6, none⟩ = some (.int .i64 c.sc)) (go_keep)
    (first | (go_at_call 56; refine (hc _).mono ?_; rintro e w1 ⟨rfl, hb⟩; obtain ⟨y0, y1, y2, y3, y4, y5, y6⟩ := Blk.conf (hB.drew.below hb hB.lt); obtain ⟨z0, z1, z2, z3, z4, z5, z6⟩ := Blk.conf (hR.drew.below hb hR.lt); have zf := Blk.frozen (hR.drew.below hb hR.lt)))
  go_wp2
  refine bodyPost_ret (v := .tuple #[zc.v, .int .i64 6]) (by simp [results, Tryz.results32, go_sem, z0, z1, z2, z3, z4, z5, z6]) rfl ⟨rfl, ?_⟩
  exact (((((((below_then (below_drew1 h0) hb (Nat.le_refl _)).setCell hR0 _).setCell hR0 _).setCell hR0 _).setCell hR0 _).setCell hR0 _).setCell hR0 _).setCell hR0 _

set_option maxHeartbeats 1000000 in
theorem new_ok (c : Cf) (w : World) (h : c.Ok) : Calls Tryz.prog 32 #[c.v] w fun e w' => e = .returned (.tuple #[c.v, .int .i64 0]) ∧ Below w.heap.size w w' := by
  have hq : ∀ w, (Op.equalIn 10000 23 c.v c.v).run Tryz.prog w = .ok true w := fun w => by rw [eq_conf, Cf.eqB_self]
  have hc := nearest_any c
  rw [← h.near] at hc
  clear h
  have hB : Blk ((w.alloc (.cells c.cs 23)).alloc (.cells zc.cs 33)) w.heap.size 23 c.cs := (Blk.new _ _ _).alloc _
  have hR : Blk ((w.alloc (.cells c.cs 23)).alloc (.cells zc.cs 33)) (w.heap.size + 1) 33 zc.cs := by
    have := Blk.new (w.alloc (.cells c.cs 23)) 33 zc.cs
    simpa using this
  have h0 : Below w.heap.size w ((w.alloc (.cells c.cs 23)).alloc (.cells zc.cs 33)) := ((Below.refl _ _).alloc (Nat.le_refl _) _).alloc (by simp) _
  go_enter Tryz.func32, Tryz.ntmps32
  go_wp2
  generalize ((w.alloc (.cells c.cs 23)).alloc (.cells zc.cs 33)) = W at *
  have hR0 : w.heap.size ≤ w.heap.size + 1 := by omega
  have hne : w.heap.size ≠ w.heap.size + 1 := by omega
  have hne2 : w.heap.size + 1 ≠ w.heap.size := by omega
  generalize w.heap.size + 1 = R at *
  obtain ⟨x0, x1, x2, x3, x4, x5, x6⟩ := hB.conf
  go_region_held3 (fun W => W.cell? ⟨w.heap.size, 0, none⟩ = some (.int .i64 c.al) ∧ W.cell? ⟨w.heap.size, 1, none⟩ = some (.int .i64 c.th) ∧ W.cell? ⟨w.heap.size, 2, none⟩ = some (.int .i64 c.nd) ∧ W.cell? ⟨w.heap.size, 3, none⟩ = some (.int .i64 c.lv) ∧
    W.cell? ⟨w.heap.size, 4, none⟩ = some (.int .i64 c.ba) ∧ W.cell? ⟨w.heap.size, 5, none⟩ = some (.int .i64 c.pr) ∧ W.cell? ⟨w.heap.size, 6, none⟩ = some (.int .i64 c.sc)) (go_keep)
    (first | (go_at_call 56; refine (hc _).mono ?_; rintro e w1 ⟨rfl, hb⟩; obtain ⟨y0, y1, y2, y3, y4, y5, y6⟩ := Blk.conf (hB.drew.below hb hB.lt); obtain ⟨z0, z1, z2, z3, z4, z5, z6⟩ := Blk.conf (hR.drew.below hb hR.lt); have zf := Blk.frozen (hR.drew.below hb hR.lt)))
  go_wp2
  refine bodyPost_ret (v := .tuple #[c.v, .int .i64 0]) (by simp [results, Tryz.results32, go_sem, z0, z1, z2, z3, z4, z5, z6]) rfl ⟨rfl, ?_⟩
  exact (((((((below_then (below_drew1 h0) hb (Nat.le_refl _)).setCell hR0 _).setCell hR0 _).setCell hR0 _).setCell hR0 _).setCell hR0 _).setCell hR0 _).setCell hR0 _
end Go.Proofs.YtemikojaldoofaaGreat.P
namespace Go.Proofs.YtemikojaldoofaaGreat.P
open Go.ChangeShapes Go.WideShapes Go.ChangeAt Go.RowKit
set_option linter.unusedVariables false

set_option maxRecDepth 20000


theorem eq_plan (c d : Cf) (w : World) : (Op.equalIn 10000 33 c.v d.v).run Tryz.prog w = .ok (c.eqB d) w := by
  obtain ⟨a1, a2, a3, a4, a5, a6, a7⟩ := c
  obtain ⟨b1, b2, b3, b4, b5, b6, b7⟩ := d
  simp [go_sem, Cf.eqB]
  by_cases h1 : a1 = b1 <;> by_cases h2 : a2 = b2 <;> by_cases h3 : a3 = b3 <;> by_cases h4 : a4 = b4 <;> by_cases h5 : a5 = b5 <;> by_cases h6 : a6 = b6 <;> by_cases h7 : a7 = b7 <;> simp [h1, h2, h3, h4, h5, h6, h7]

theorem zero_no (c : Cf) (w : World) (h : c.Ok) : Calls Tryz.prog 41 #[c.v] w fun e w' => e = .returned (.bool false) ∧ Below w.heap.size w w' := by
  have hne : ¬ c = zc := fun e => by have := h.t0; rw [e] at this; simp at this
  have hq : ∀ w, (Op.equalIn 10000 33 c.v zc.v).run Tryz.prog w = .ok false w := fun w => by rw [eq_plan, Cf.eqB_false hne]
  clear h hne
  go_enter Tryz.func41, Tryz.ntmps41
  go_wp2
  go_ret
  exact ⟨rfl, (Below.refl _ _).alloc (Nat.le_refl _) _⟩
theorem zero_yes (w : World) : Calls Tryz.prog 41 #[zc.v] w fun e w' => e = .returned (.bool true) ∧ Below w.heap.size w w' := by
  have hq : ∀ w, (Op.equalIn 10000 33 zc.v zc.v).run Tryz.prog w = .ok true w := fun w => by rw [eq_plan, Cf.eqB_self]
  go_enter Tryz.func41, Tryz.ntmps41
  go_wp2
  go_ret
  exact ⟨rfl, (Below.refl _ _).alloc (Nat.le_refl _) _⟩

/-! ### Slots, Width, Sentinels, Conf, places -/
def Cf.slots (c : Cf) : Int := if c.al = 0 then 2 else 2 * c.lv + 2
def Cf.width (c : Cf) : Int := if c.al = 0 then 3 else 5 + c.lv
def Cf.places (c : Cf) : Int := if c.al = 0 then 2 ^ c.lv.toNat else 0

/-- A box of a plan, behind a callee that leaves what was there. -/
theorem boxed {w w1 : World} {t : TypeId} (c : Cf) (hb : Below (w.alloc (.cells c.cs t)).heap.size (w.alloc (.cells c.cs t)) w1) : Blk w1 w.heap.size t c.cs ∧ Below w.heap.size w w1 :=
  ⟨(Blk.new w t c.cs).below hb (by simp), below_then ((Below.refl _ _).alloc (Nat.le_refl _) _) hb (Nat.le_refl _)⟩

set_option maxHeartbeats 1000000 in
theorem slots_ok (c : Cf) (w : World) (h : c.Ok) : Calls Tryz.prog 11 #[c.v] w fun e w' => e = .returned (.int .i64 c.slots) ∧ Below w.heap.size w w' := by
  have hz := fun W => zero_no c W h
  obtain ⟨h1, h2, -, -, -, -, h7, h8, -⟩ := h
  obtain ⟨al, th, nd, lv, ba, pr, sc⟩ := c
  dsimp only at *
  by_cases h0 : al = 0
  · subst h0
    have hs : Cf.slots ⟨0, th, nd, lv, ba, pr, sc⟩ = 2 := rfl
    rw [hs]
    clear hs
    go_enter Tryz.func11, Tryz.ntmps11
    go_wp2_with fail
    refine (hz _).mono ?_
    rintro e w1 ⟨rfl, hb⟩
    obtain ⟨hB, h0⟩ := boxed ⟨0, th, nd, lv, ba, pr, sc⟩ hb
    obtain ⟨x0, x1, x2, x3, x4, x5, x6⟩ := hB.conf
    go_wp2
    go_ret
    exact ⟨rfl, h0⟩
  · have hs : Cf.slots ⟨al, th, nd, lv, ba, pr, sc⟩ = 2 * lv + 2 := if_neg h0
    rw [hs]
    clear hs
    have h0' : (al == 0) = false := by simpa using h0
    go_enter Tryz.func11, Tryz.ntmps11
    go_wp2_with fail
    refine (hz _).mono ?_
    rintro e w1 ⟨rfl, hb⟩
    obtain ⟨hB, h0⟩ := boxed ⟨al, th, nd, lv, ba, pr, sc⟩ hb
    obtain ⟨x0, x1, x2, x3, x4, x5, x6⟩ := hB.conf
    go_wp2
    go_ret
    exact ⟨rfl, h0⟩
set_option maxHeartbeats 1000000 in
theorem width_ok (c : Cf) (w : World) (h : c.Ok) : Calls Tryz.prog 78 #[c.v] w fun e w' => e = .returned (.int .i64 c.width) ∧ Below w.heap.size w w' := by
  have hz := fun W => zero_no c W h
  obtain ⟨h1, h2, -, -, -, -, h7, h8, -⟩ := h
  obtain ⟨al, th, nd, lv, ba, pr, sc⟩ := c
  dsimp only at *
  by_cases h0 : al = 0
  · subst h0
    have hs : Cf.width ⟨0, th, nd, lv, ba, pr, sc⟩ = 3 := rfl
    rw [hs]
    clear hs
    go_enter Tryz.func78, Tryz.ntmps78
    go_wp2_with fail
    refine (hz _).mono ?_
    rintro e w1 ⟨rfl, hb⟩
    obtain ⟨hB, h0⟩ := boxed ⟨0, th, nd, lv, ba, pr, sc⟩ hb
    obtain ⟨x0, x1, x2, x3, x4, x5, x6⟩ := hB.conf
    go_wp2
    go_ret
    exact ⟨rfl, h0⟩
  · have hs : Cf.width ⟨al, th, nd, lv, ba, pr, sc⟩ = 5 + lv := if_neg h0
    rw [hs]
    clear hs
    have h0' : (al == 0) = false := by simpa using h0
    go_enter Tryz.func78, Tryz.ntmps78
    go_wp2_with fail
    refine (hz _).mono ?_
    rintro e w1 ⟨rfl, hb⟩
    obtain ⟨hB, h0⟩ := boxed ⟨al, th, nd, lv, ba, pr, sc⟩ hb
    obtain ⟨x0, x1, x2, x3, x4, x5, x6⟩ := hB.conf
    go_wp2
    go_ret
    exact ⟨rfl, h0⟩
theorem sentinelsM_any (c : Cf) (w : World) : Calls Tryz.prog 37 #[c.v] w fun e w' => e = .returned (.int .i64 (sent c.al)) ∧ Below w.heap.size w w' := by
  go_enter Tryz.func37, Tryz.ntmps37
  go_wp2_with (go_at_call 60; refine (sentinels_any _ _).mono ?_; rintro e w1 ⟨rfl, rfl⟩)
  go_ret
  exact ⟨rfl, (Below.refl _ _).alloc (Nat.le_refl _) _⟩
theorem conf_any (c : Cf) (w : World) : Calls Tryz.prog 63 #[c.v] w fun e w' => e = .returned c.v ∧ Below w.heap.size w w' := by
  go_enter Tryz.func63, Tryz.ntmps63
  go_wp2
  refine bodyPost_ret (v := c.v) (by simp [results, Tryz.results63, go_sem]) rfl ⟨rfl, ?_⟩
  exact ((Below.refl _ _).alloc (Nat.le_refl _) _).alloc (by simp) _
set_option maxHeartbeats 1000000 in
theorem places_ok (c : Cf) (w : World) (h : c.Ok) : Calls Tryz.prog 79 #[c.v] w fun e w' => e = .returned (.int .i64 c.places) ∧ Below w.heap.size w w' := by
  obtain ⟨h1, h2, -, -, -, -, h7, h8, -⟩ := h
  obtain ⟨al, th, nd, lv, ba, pr, sc⟩ := c
  dsimp only at *
  by_cases h0 : al = 0
  · subst h0
    have hl : lv = 1 ∨ lv = 2 ∨ lv = 3 ∨ lv = 4 ∨ lv = 5 ∨ lv = 6 := by omega
    rcases hl with rfl | rfl | rfl | rfl | rfl | rfl
    all_goals
      clear h1 h2 h7 h8
      go_enter Tryz.func79, Tryz.ntmps79
      go_wp2
      go_ret
      exact ⟨rfl, (Below.refl _ _).alloc (Nat.le_refl _) _⟩
  · have hs : Cf.places ⟨al, th, nd, lv, ba, pr, sc⟩ = 0 := if_neg h0
    rw [hs]
    clear hs
    have h0' : (al != 0) = true := by simpa using h0
    go_enter Tryz.func79, Tryz.ntmps79
    go_wp2
    go_ret
    exact ⟨rfl, (Below.refl _ _).alloc (Nat.le_refl _) _⟩

/-! ### end, behind -/
theorem end_any (f b r k : Int) (w : World) (h0 : 0 ≤ f) (h1 : f ≤ 100000) (h2 : 0 ≤ r * k) (h3 : r * k ≤ 100000) : Calls Tryz.prog 58 #[.agg #[.int .i64 f, .int .i64 b, .int .i64 r, .int .i64 k]] w fun e w' => e = .returned (.int .i64 (f + r * k)) ∧ Below w.heap.size w w' := by
  go_enter Tryz.func58, Tryz.ntmps58
  go_wp2
  go_ret
  exact ⟨rfl, (Below.refl _ _).alloc (Nat.le_refl _) _⟩
set_option maxHeartbeats 1000000 in
theorem behind_any (f b r k b' r' k' : Int) (w : World) (h0 : 0 ≤ f) (h1 : f ≤ 100000) (h2 : 0 ≤ r * k) (h3 : r * k ≤ 100000) :
    Calls Tryz.prog 77 #[.agg #[.int .i64 f, .int .i64 b, .int .i64 r, .int .i64 k], .int .i64 b', .int .i64 r', .int .i64 k'] w fun e w' => e = .returned (.agg #[.int .i64 (f + r * k), .int .i64 b', .int .i64 r', .int .i64 k']) ∧ Below w.heap.size w w' := by
  go_enter Tryz.func77, Tryz.ntmps77
  go_wp2_with fail
  refine (end_any f b r k _ h0 h1 h2 h3).mono ?_
  rintro e w1 ⟨rfl, hb⟩
  have hR : Blk w1 (w.heap.size + 1) 110 #[.int .i64 0, .int .i64 0, .int .i64 0, .int .i64 0] := by
    have := Blk.new (w.alloc (.cells #[.int .i64 f, .int .i64 b, .int .i64 r, .int .i64 k] 110)) 110 #[.int .i64 0, .int .i64 0, .int .i64 0, .int .i64 0]
    rw [show (w.alloc (.cells #[.int .i64 f, .int .i64 b, .int .i64 r, .int .i64 k] 110)).heap.size = w.heap.size + 1 by simp] at this
    exact this.below hb (by simp)
  have hbl : Below w.heap.size w w1 := below_then (((Below.refl _ _).alloc (Nat.le_refl _) _).alloc (by simp) _) hb (Nat.le_refl _)
  clear hb
  have z0 := hR.cell 0
  have z1 := hR.cell 1
  have z2 := hR.cell 2
  have z3 := hR.cell 3
  have zf := hR.frozen
  simp only [List.getElem?_toArray, List.getElem?_cons_zero, List.getElem?_cons_succ] at z0 z1 z2 z3
  have hR0 : w.heap.size ≤ w.heap.size + 1 := by omega
  generalize w.heap.size + 1 = R at *
  go_wp2
  refine bodyPost_ret (v := .agg #[.int .i64 (f + r * k), .int .i64 b', .int .i64 r', .int .i64 k']) (by simp [results, Tryz.results77, go_sem, z0, z1, z2, z3]) rfl ⟨rfl, ?_⟩
  exact (((hbl.setCell hR0 _).setCell hR0 _).setCell hR0 _).setCell hR0 _
end Go.Proofs.YtemikojaldoofaaGreat.P
namespace Go.Proofs.YtemikojaldoofaaGreat.P
open Go.ChangeShapes Go.WideShapes Go.ChangeAt Go.RowKit
set_option linter.unusedVariables false

set_option maxRecDepth 20000


theorem Blk.get {W : World} {g : Nat} {t : TypeId} {cs : Array Value} (h : Blk W g t cs) (i : Nat) {v : Value} (e : cs[i]? = some v) : W.cell? ⟨g, i, none⟩ = some v := (h.cell i).trans e
abbrev i0 : Value := .int .i64 0
abbrev z20 : Array Value := #[i0, i0, i0, i0, i0, i0, i0, i0, i0, i0, i0, i0, i0, i0, i0, i0, i0, i0, i0, i0]

/-- Where the areas begin, and the end. -/
def Cf.o2 (c : Cf) : Int := 8 + c.th * c.slots
def Cf.o3 (c : Cf) : Int := c.o2 + c.nd * 1
def Cf.o4 (c : Cf) : Int := c.o3 + c.nd * c.width
def Cf.size (c : Cf) : Int := c.o4 + c.places * 1

theorem mul_in {a b A B : Int} (h0 : 0 ≤ a) (h1 : a ≤ A) (h2 : 0 ≤ b) (h3 : b ≤ B) : 0 ≤ a * b ∧ a * b ≤ A * B :=
  ⟨Int.mul_nonneg h0 h2, Int.mul_le_mul h1 h3 h2 (Int.le_trans h0 h1)⟩
theorem Cf.Ok.slots {c : Cf} (h : c.Ok) : 2 ≤ c.slots ∧ c.slots ≤ 14 := by
  obtain ⟨h1, h2, -, -, -, -, h7, h8, -⟩ := h
  unfold Cf.slots
  split <;> omega
theorem Cf.Ok.width {c : Cf} (h : c.Ok) : 3 ≤ c.width ∧ c.width ≤ 11 := by
  obtain ⟨h1, h2, -, -, -, -, h7, h8, -⟩ := h
  unfold Cf.width
  split <;> omega
theorem Cf.Ok.places {c : Cf} (h : c.Ok) : 0 ≤ c.places ∧ c.places ≤ 64 := by
  obtain ⟨h1, h2, -, -, -, -, h7, h8, -⟩ := h
  unfold Cf.places
  split
  · have hl : c.lv = 1 ∨ c.lv = 2 ∨ c.lv = 3 ∨ c.lv = 4 ∨ c.lv = 5 ∨ c.lv = 6 := by omega
    rcases hl with e | e | e | e | e | e <;> rw [e] <;> decide
  · omega
theorem Cf.Ok.nd {c : Cf} (h : c.Ok) : 1 ≤ c.nd ∧ c.nd ≤ 64 := ⟨by have := h.n0; have := sent_in c.al; omega, h.n1⟩
theorem Cf.Ok.th {c : Cf} (h : c.Ok) : 1 ≤ c.th ∧ c.th ≤ 6 := ⟨h.t0, h.t1⟩
/-- Everything that the areas are reckoned of is small. -/
theorem Cf.Ok.bounds {c : Cf} (h : c.Ok) : (0 ≤ c.th * c.slots ∧ c.th * c.slots ≤ 84) ∧ (0 ≤ c.nd * c.width ∧ c.nd * c.width ≤ 704) ∧ (8 ≤ c.o2 ∧ c.o2 ≤ 92) ∧ (8 ≤ c.o3 ∧ c.o3 ≤ 156) ∧ (8 ≤ c.o4 ∧ c.o4 ≤ 860) ∧ (8 ≤ c.size ∧ c.size ≤ 924) := by
  have a := mul_in (A := 6) (B := 14) (by have := h.t0; omega) h.t1 (by have := h.slots.1; omega) h.slots.2
  have b := mul_in (A := 64) (B := 11) (by have := h.nd; omega) h.n1 (by have := h.width.1; omega) h.width.2
  have p := h.places
  have n := h.nd
  simp only [Cf.o2, Cf.o3, Cf.o4, Cf.size] at *
  omega

/-- All areas. -/
abbrev Cf.rows (c : Cf) : Array Value := #[i0, i0, .int .i64 8, .int .i64 1, .int .i64 8, i0, .int .i64 c.th, .int .i64 c.slots, .int .i64 c.o2, .int .i64 1, .int .i64 c.nd, .int .i64 1,
  .int .i64 c.o3, .int .i64 1, .int .i64 c.nd, .int .i64 c.width, .int .i64 c.o4, i0, .int .i64 c.places, .int .i64 1]

theorem rows_size (c : Cf) : (Tryz.prog.info? 111).map (·.size) = some c.rows.size := by kernel_rfl
theorem rows_one (c : Cf) : c.rows.all (·.oneCell') = true := by simp [Value.oneCell']
theorem results_cell (V : World) (R : Nat) (v : Value) (a : Array Value) (ha : a.getD 2 undef = .pointer (some ⟨R, 0, none⟩)) (hl : (loadVar 111 ⟨R, 0, none⟩).run Tryz.prog V = .ok v V) : (results Tryz.f57 a).run Tryz.prog V = .ok v V := by
  have ha' : a[2]?.getD undef = .pointer (some ⟨R, 0, none⟩) := by simpa using ha
  simp only [results, Tryz.results57]
  simp [ha', asAddr, hl]
theorem rows_load (c : Cf) (W : World) (R : Nat) (th : W.there R 0 20) : (loadVar 111 ⟨R, 0, none⟩).run Tryz.prog (W.setCells R 0 c.rows.toList) = .ok (.agg c.rows) (W.setCells R 0 c.rows.toList) :=
  run_loadVar_mid (P := Tryz.prog) (W.setCells R 0 c.rows.toList) R 0 111 c.rows.toList (.array 5 110) (World.rangeAt_setCells_same W R 0 c.rows.toList th) (by kernel_rfl) rfl (by kernel_rfl)
theorem below_setCells {n : Nat} {A : World} (b : Nat) (hb : n ≤ b) : ∀ (vs : List Value) (o : Nat) (W : World), Below n A W → Below n A (W.setCells b o vs)
  | [], _, _, h => h
  | v :: vs, o, W, h => below_setCells b hb vs (o + 1) _ (h.setCell hb v)
theorem wpList_rows (c : Cf) {W : World} (L R : Nat) (rg : W.rangeAt L 0 c.rows.toList) (th : W.there R 0 20) {ops : Array Oper} {a : Act} {Q : Exit → Act → World → Prop} {ty1 ty2 : TypeId} {p1 p2 : String} {af1 af2 : Array Edge}
    (h3 : a.tmps.getD 3 undef = .pointer (some ⟨L, 0, none⟩)) (h2 : a.tmps.getD 2 undef = .pointer (some ⟨R, 0, none⟩)) (hs : a.tmps.size = 41)
    (h : ∀ V, (loadVar 111 ⟨R, 0, none⟩).run Tryz.prog V = .ok (.agg c.rows) V → (∀ n A, n ≤ R → Below n A W → Below n A V) → wpList Tryz.prog ops Q [] (a.put (some 40) (.agg c.rows)) V) :
    wpList Tryz.prog ops Q [⟨some 40, .load 111 (.tmp 3), ty1, p1, af1, none⟩, ⟨none, .store 111 (.tmp 2) (.tmp 40), ty2, p2, af2, none⟩] a W := by
  refine wpList_load_mid rfl 111 _ rfl L 0 h3 c.rows.toList (.array 5 110) rg (by kernel_rfl) rfl (by kernel_rfl) ?_
  refine wpList_store_mid rfl 111 _ _ rfl R 0 c.rows ?_ ?_ th (rows_size c) (rows_one c) (h _ (rows_load c W R th) fun n A hn hb => below_setCells R hn _ 0 _ hb)
  · show (a.tmps.setIfInBounds 40 _).getD 2 undef = _
    rw [← h2]
    simp
  · show (a.tmps.setIfInBounds 40 _).getD 40 undef = _
    simp [hs]

/-- How things stand amid 'areas': the plan's box P, the result R, the list L. -/
structure St (c : Cf) (w : World) (P R L : Nat) (cs : Array Value) (W : World) : Prop where
  p : Blk W P 33 c.cs
  r : Blk W R 111 z20
  l : Blk W L 111 cs
  bel : Below w.heap.size w W
theorem St.below {c : Cf} {w : World} {P R L : Nat} {cs : Array Value} {W W1 : World} (h : St c w P R L cs W) (hb : Below W.heap.size W W1) : St c w P R L cs W1 :=
  ⟨h.p.below hb h.p.lt, h.r.below hb h.r.lt, h.l.below hb h.l.lt, below_then h.bel hb (Nat.le_refl _)⟩
theorem St.drew {c : Cf} {w : World} {P R L : Nat} {cs : Array Value} {W : World} (h : St c w P R L cs W) : St c w P R L cs W.drew := ⟨h.p, h.r, h.l, below_drew1 h.bel⟩
theorem St.set {c : Cf} {w : World} {P R L : Nat} {cs : Array Value} {W : World} (h : St c w P R L cs W) (h1 : w.heap.size ≤ L) (h2 : P ≠ L) (h3 : R ≠ L) (i : Nat) (v : Value) : St c w P R L (cs.setIfInBounds i v) (W.setCell ⟨L, i, none⟩ v) :=
  ⟨h.p.far h2 v, h.r.far h3 v, h.l.set i v, h.bel.setCell h1 v⟩
theorem St.set4 {c : Cf} {w : World} {P R L : Nat} {cs : Array Value} {W : World} (h : St c w P R L cs W) (h1 : w.heap.size ≤ L) (h2 : P ≠ L) (h3 : R ≠ L) (i j k l : Nat) (a b d e : Value) :
    St c w P R L ((((cs.setIfInBounds i a).setIfInBounds j b).setIfInBounds k d).setIfInBounds l e) ((((W.setCell ⟨L, i, none⟩ a).setCell ⟨L, j, none⟩ b).setCell ⟨L, k, none⟩ d).setCell ⟨L, l, none⟩ e) :=
  (((h.set h1 h2 h3 i a).set h1 h2 h3 j b).set h1 h2 h3 k d).set h1 h2 h3 l e

set_option maxRecDepth 100000 in
set_option maxHeartbeats 4000000 in
theorem areas_ok (c : Cf) (w : World) (h : c.Ok) : Calls Tryz.prog 57 #[c.v] w fun e w' => e = .returned (.agg c.rows) ∧ Below w.heap.size w w' := by
  have hz := fun W => zero_no c W h
  have S0 : St c w w.heap.size (w.heap.size + 1) (w.heap.size + 2) z20 (((w.alloc (.cells c.cs 33)).alloc (.cells z20 111)).alloc (.cells z20 111)) := by
    refine ⟨((Blk.new _ _ _).alloc _).alloc _, ?_, ?_, (((Below.refl _ _).alloc (Nat.le_refl _) _).alloc (by simp) _).alloc (by simp; omega) _⟩
    · have := (Blk.new (w.alloc (.cells c.cs 33)) 111 z20).alloc (.cells z20 111)
      rwa [show (w.alloc (.cells c.cs 33)).heap.size = w.heap.size + 1 by simp] at this
    · have := Blk.new ((w.alloc (.cells c.cs 33)).alloc (.cells z20 111)) 111 z20
      rwa [show ((w.alloc (.cells c.cs 33)).alloc (.cells z20 111)).heap.size = w.heap.size + 2 by simp] at this
  go_enter Tryz.func57, Tryz.ntmps57
  go_wp2_with fail
  refine (hz _).mono ?_
  rintro e w1 ⟨rfl, hb⟩
  have S1 := S0.below hb
  clear hb S0 hz
  have g1 : w.heap.size ≤ w.heap.size + 2 := by omega
  have g2 : w.heap.size ≠ w.heap.size + 2 := by omega
  have g3 : w.heap.size + 1 ≠ w.heap.size + 2 := by omega
  have g4 : w.heap.size ≤ w.heap.size + 1 := by omega
  generalize w.heap.size + 2 = L at *
  generalize w.heap.size + 1 = R at *
  have l0 := S1.l.get 0 rfl
  have l1 := S1.l.get 1 rfl
  have l2 := S1.l.get 2 rfl
  have l3 := S1.l.get 3 rfl
  have lf := S1.l.frozen
  go_wp2
  have S2 := S1.set4 g1 g2 g3 0 1 2 3 i0 i0 (.int .i64 8) (.int .i64 1)
  clear S1 l0 l1 l2 l3 lf
  obtain ⟨⟨m1, m2⟩, ⟨m3, m4⟩, ⟨m5, m6⟩, ⟨m7, m8⟩, ⟨m9, m10⟩, -⟩ := h.bounds
  obtain ⟨n1, n2⟩ := h.nd
  have k1 : ∀ W, Calls Tryz.prog 77 #[.agg #[i0, i0, .int .i64 8, .int .i64 1], i0, .int .i64 c.th, .int .i64 c.slots] W fun e w' => e = .returned (.agg #[.int .i64 8, i0, .int .i64 c.th, .int .i64 c.slots]) ∧ Below W.heap.size W w' := fun W => behind_any 0 0 8 1 0 c.th c.slots W (by omega) (by omega) (by omega) (by omega)
  have k2 : ∀ W, Calls Tryz.prog 77 #[.agg #[.int .i64 8, i0, .int .i64 c.th, .int .i64 c.slots], .int .i64 1, .int .i64 c.nd, .int .i64 1] W fun e w' => e = .returned (.agg #[.int .i64 c.o2, .int .i64 1, .int .i64 c.nd, .int .i64 1]) ∧ Below W.heap.size W w' := fun W => behind_any 8 0 c.th c.slots 1 c.nd 1 W (by omega) (by omega) (by omega) (by omega)
  have k3 : ∀ W, Calls Tryz.prog 77 #[.agg #[.int .i64 c.o2, .int .i64 1, .int .i64 c.nd, .int .i64 1], .int .i64 1, .int .i64 c.nd, .int .i64 c.width] W fun e w' => e = .returned (.agg #[.int .i64 c.o3, .int .i64 1, .int .i64 c.nd, .int .i64 c.width]) ∧ Below W.heap.size W w' := fun W => behind_any c.o2 1 c.nd 1 1 c.nd c.width W (by omega) (by omega) (by omega) (by omega)
  have k4 : ∀ W, Calls Tryz.prog 77 #[.agg #[.int .i64 c.o3, .int .i64 1, .int .i64 c.nd, .int .i64 c.width], i0, .int .i64 c.places, .int .i64 1] W fun e w' => e = .returned (.agg #[.int .i64 c.o4, i0, .int .i64 c.places, .int .i64 1]) ∧ Below W.heap.size W w' := fun W => behind_any c.o3 1 c.nd c.width 0 c.places 1 W (by omega) (by omega) (by omega) (by omega)
  have a1 := fun W => slots_ok c W h
  have a2 := fun W => width_ok c W h
  have a3 := fun W => places_ok c W h
  clear m1 m2 m3 m4 m5 m6 m7 m8 m9 m10 n1 n2 h
  generalize ((((w1.setCell ⟨L, 0, none⟩ (i0)).setCell ⟨L, 1, none⟩ (i0)).setCell ⟨L, 2, none⟩ (.int .i64 8)).setCell ⟨L, 3, none⟩ (.int .i64 1)) = W2 at *
  replace S2 : St c w w.heap.size R L #[i0, i0, .int .i64 8, .int .i64 1, i0, i0, i0, i0, i0, i0, i0, i0, i0, i0, i0, i0, i0, i0, i0, i0] W2 := S2
  have xl0 := S2.l.get 0 rfl
  have xl1 := S2.l.get 1 rfl
  have xl2 := S2.l.get 2 rfl
  have xl3 := S2.l.get 3 rfl
  have xf := S2.l.frozen
  obtain ⟨xp0, xp1, xp2, xp3, xp4, xp5, xp6⟩ := S2.p.conf
  go_region_held3 (fun W => W.cell? ⟨L, 0, none⟩ = some (i0) ∧ W.cell? ⟨L, 1, none⟩ = some (i0) ∧ W.cell? ⟨L, 2, none⟩ = some (.int .i64 8) ∧ W.cell? ⟨L, 3, none⟩ = some (.int .i64 1) ∧ W.cell? ⟨w.heap.size, 0, none⟩ = some (.int .i64 c.al) ∧ W.cell? ⟨w.heap.size, 1, none⟩ = some (.int .i64 c.th) ∧ W.cell? ⟨w.heap.size, 2, none⟩ = some (.int .i64 c.nd) ∧ W.cell? ⟨w.heap.size, 3, none⟩ = some (.int .i64 c.lv) ∧ W.cell? ⟨w.heap.size, 4, none⟩ = some (.int .i64 c.ba) ∧ W.cell? ⟨w.heap.size, 5, none⟩ = some (.int .i64 c.pr) ∧ W.cell? ⟨w.heap.size, 6, none⟩ = some (.int .i64 c.sc)) (first | go_keep | exact ⟨(S4.set4 g1 g2 g3 4 5 6 7 (.int .i64 8) (i0) (.int .i64 c.th) (.int .i64 c.slots)).l.get 0 rfl, (S4.set4 g1 g2 g3 4 5 6 7 (.int .i64 8) (i0) (.int .i64 c.th) (.int .i64 c.slots)).l.get 1 rfl, (S4.set4 g1 g2 g3 4 5 6 7 (.int .i64 8) (i0) (.int .i64 c.th) (.int .i64 c.slots)).l.get 2 rfl, (S4.set4 g1 g2 g3 4 5 6 7 (.int .i64 8) (i0) (.int .i64 c.th) (.int .i64 c.slots)).l.get 3 rfl, (S4.set4 g1 g2 g3 4 5 6 7 (.int .i64 8) (i0) (.int .i64 c.th) (.int .i64 c.slots)).p.conf⟩)
    (first | (go_at_call 11; refine (a1 _).mono ?_; rintro e w2 ⟨rfl, hb⟩; have S3 := S2.drew.below hb; have yl0 := S3.l.get 0 rfl; have yl1 := S3.l.get 1 rfl; have yl2 := S3.l.get 2 rfl; have yl3 := S3.l.get 3 rfl; have yf := S3.l.frozen; obtain ⟨yp0, yp1, yp2, yp3, yp4, yp5, yp6⟩ := S3.p.conf) | (go_at_call 77; refine (k1 _).mono ?_; rintro e w3 ⟨rfl, hb3⟩; have S4 := S3.below hb3; have zl0 := S4.l.get 0 rfl; have zl1 := S4.l.get 1 rfl; have zl2 := S4.l.get 2 rfl; have zl3 := S4.l.get 3 rfl; have zl4 := S4.l.get 4 rfl; have zl5 := S4.l.get 5 rfl; have zl6 := S4.l.get 6 rfl; have zl7 := S4.l.get 7 rfl; have zf := S4.l.frozen; obtain ⟨zp0, zp1, zp2, zp3, zp4, zp5, zp6⟩ := S4.p.conf))
  have S5 := S4.set4 g1 g2 g3 4 5 6 7 (.int .i64 8) (i0) (.int .i64 c.th) (.int .i64 c.slots)
  clear S2 S3 S4 hb hb3 xf yf zf xp0 xp1 xp2 xp3 xp4 xp5 xp6 yp0 yp1 yp2 yp3 yp4 yp5 yp6 zp0 zp1 zp2 zp3 zp4 zp5 zp6 xl0 xl1 xl2 xl3 yl0 yl1 yl2 yl3 zl0 zl1 zl2 zl3 zl4 zl5 zl6 zl7
  rename_i hHeld
  clear hHeld
  generalize ((((w3.setCell ⟨L, 4, none⟩ (.int .i64 8)).setCell ⟨L, 5, none⟩ (i0)).setCell ⟨L, 6, none⟩ (.int .i64 c.th)).setCell ⟨L, 7, none⟩ (.int .i64 c.slots)) = W3 at *
  have S2 : St c w w.heap.size R L #[i0, i0, .int .i64 8, .int .i64 1, .int .i64 8, i0, .int .i64 c.th, .int .i64 c.slots, i0, i0, i0, i0, i0, i0, i0, i0, i0, i0, i0, i0] W3 := S5
  clear S5
  have xl4 := S2.l.get 4 rfl
  have xl5 := S2.l.get 5 rfl
  have xl6 := S2.l.get 6 rfl
  have xl7 := S2.l.get 7 rfl
  have xl8 := S2.l.get 8 rfl
  have xl9 := S2.l.get 9 rfl
  have xl10 := S2.l.get 10 rfl
  have xl11 := S2.l.get 11 rfl
  have xf := S2.l.frozen
  obtain ⟨xp0, xp1, xp2, xp3, xp4, xp5, xp6⟩ := S2.p.conf
  go_wp2_with fail
  refine (k2 _).mono ?_
  rintro e w2 ⟨rfl, hb⟩
  have S3 := S2.below hb
  have yl4 := S3.l.get 4 rfl
  have yl5 := S3.l.get 5 rfl
  have yl6 := S3.l.get 6 rfl
  have yl7 := S3.l.get 7 rfl
  have yl8 := S3.l.get 8 rfl
  have yl9 := S3.l.get 9 rfl
  have yl10 := S3.l.get 10 rfl
  have yl11 := S3.l.get 11 rfl
  have yf := S3.l.frozen
  obtain ⟨yp0, yp1, yp2, yp3, yp4, yp5, yp6⟩ := S3.p.conf
  go_wp2
  have S5 := S3.set4 g1 g2 g3 8 9 10 11 (.int .i64 c.o2) (.int .i64 1) (.int .i64 c.nd) (.int .i64 1)
  clear S2 S3 hb xf yf xp0 xp1 xp2 xp3 xp4 xp5 xp6 yp0 yp1 yp2 yp3 yp4 yp5 yp6 xl4 xl5 xl6 xl7 xl8 xl9 xl10 xl11 yl4 yl5 yl6 yl7 yl8 yl9 yl10 yl11
  generalize ((((w2.setCell ⟨L, 8, none⟩ (.int .i64 c.o2)).setCell ⟨L, 9, none⟩ (.int .i64 1)).setCell ⟨L, 10, none⟩ (.int .i64 c.nd)).setCell ⟨L, 11, none⟩ (.int .i64 1)) = W4 at *
  have S2 : St c w w.heap.size R L #[i0, i0, .int .i64 8, .int .i64 1, .int .i64 8, i0, .int .i64 c.th, .int .i64 c.slots, .int .i64 c.o2, .int .i64 1, .int .i64 c.nd, .int .i64 1, i0, i0, i0, i0, i0, i0, i0, i0] W4 := S5
  clear S5
  have xl8 := S2.l.get 8 rfl
  have xl9 := S2.l.get 9 rfl
  have xl10 := S2.l.get 10 rfl
  have xl11 := S2.l.get 11 rfl
  have xf := S2.l.frozen
  obtain ⟨xp0, xp1, xp2, xp3, xp4, xp5, xp6⟩ := S2.p.conf
  go_region_held3 (fun W => W.cell? ⟨L, 8, none⟩ = some (.int .i64 c.o2) ∧ W.cell? ⟨L, 9, none⟩ = some (.int .i64 1) ∧ W.cell? ⟨L, 10, none⟩ = some (.int .i64 c.nd) ∧ W.cell? ⟨L, 11, none⟩ = some (.int .i64 1) ∧ W.cell? ⟨w.heap.size, 0, none⟩ = some (.int .i64 c.al) ∧ W.cell? ⟨w.heap.size, 1, none⟩ = some (.int .i64 c.th) ∧ W.cell? ⟨w.heap.size, 2, none⟩ = some (.int .i64 c.nd) ∧ W.cell? ⟨w.heap.size, 3, none⟩ = some (.int .i64 c.lv) ∧ W.cell? ⟨w.heap.size, 4, none⟩ = some (.int .i64 c.ba) ∧ W.cell? ⟨w.heap.size, 5, none⟩ = some (.int .i64 c.pr) ∧ W.cell? ⟨w.heap.size, 6, none⟩ = some (.int .i64 c.sc)) (first | go_keep | exact ⟨(S4.set4 g1 g2 g3 12 13 14 15 (.int .i64 c.o3) (.int .i64 1) (.int .i64 c.nd) (.int .i64 c.width)).l.get 8 rfl, (S4.set4 g1 g2 g3 12 13 14 15 (.int .i64 c.o3) (.int .i64 1) (.int .i64 c.nd) (.int .i64 c.width)).l.get 9 rfl, (S4.set4 g1 g2 g3 12 13 14 15 (.int .i64 c.o3) (.int .i64 1) (.int .i64 c.nd) (.int .i64 c.width)).l.get 10 rfl, (S4.set4 g1 g2 g3 12 13 14 15 (.int .i64 c.o3) (.int .i64 1) (.int .i64 c.nd) (.int .i64 c.width)).l.get 11 rfl, (S4.set4 g1 g2 g3 12 13 14 15 (.int .i64 c.o3) (.int .i64 1) (.int .i64 c.nd) (.int .i64 c.width)).p.conf⟩)
    (first | (go_at_call 78; refine (a2 _).mono ?_; rintro e w2 ⟨rfl, hb⟩; have S3 := S2.drew.below hb; have yl8 := S3.l.get 8 rfl; have yl9 := S3.l.get 9 rfl; have yl10 := S3.l.get 10 rfl; have yl11 := S3.l.get 11 rfl; have yf := S3.l.frozen; obtain ⟨yp0, yp1, yp2, yp3, yp4, yp5, yp6⟩ := S3.p.conf) | (go_at_call 77; refine (k3 _).mono ?_; rintro e w3 ⟨rfl, hb3⟩; have S4 := S3.below hb3; have zl8 := S4.l.get 8 rfl; have zl9 := S4.l.get 9 rfl; have zl10 := S4.l.get 10 rfl; have zl11 := S4.l.get 11 rfl; have zl12 := S4.l.get 12 rfl; have zl13 := S4.l.get 13 rfl; have zl14 := S4.l.get 14 rfl; have zl15 := S4.l.get 15 rfl; have zf := S4.l.frozen; obtain ⟨zp0, zp1, zp2, zp3, zp4, zp5, zp6⟩ := S4.p.conf))
  have S5 := S4.set4 g1 g2 g3 12 13 14 15 (.int .i64 c.o3) (.int .i64 1) (.int .i64 c.nd) (.int .i64 c.width)
  clear S2 S3 S4 hb hb3 xf yf zf xp0 xp1 xp2 xp3 xp4 xp5 xp6 yp0 yp1 yp2 yp3 yp4 yp5 yp6 zp0 zp1 zp2 zp3 zp4 zp5 zp6 xl8 xl9 xl10 xl11 yl8 yl9 yl10 yl11 zl8 zl9 zl10 zl11 zl12 zl13 zl14 zl15
  rename_i hHeld
  clear hHeld
  generalize ((((w3.setCell ⟨L, 12, none⟩ (.int .i64 c.o3)).setCell ⟨L, 13, none⟩ (.int .i64 1)).setCell ⟨L, 14, none⟩ (.int .i64 c.nd)).setCell ⟨L, 15, none⟩ (.int .i64 c.width)) = W5 at *
  have S2 : St c w w.heap.size R L #[i0, i0, .int .i64 8, .int .i64 1, .int .i64 8, i0, .int .i64 c.th, .int .i64 c.slots, .int .i64 c.o2, .int .i64 1, .int .i64 c.nd, .int .i64 1, .int .i64 c.o3, .int .i64 1, .int .i64 c.nd, .int .i64 c.width, i0, i0, i0, i0] W5 := S5
  clear S5
  go_wp2
  have xl12 := S2.l.get 12 rfl
  have xl13 := S2.l.get 13 rfl
  have xl14 := S2.l.get 14 rfl
  have xl15 := S2.l.get 15 rfl
  have xf := S2.l.frozen
  obtain ⟨xp0, xp1, xp2, xp3, xp4, xp5, xp6⟩ := S2.p.conf
  go_region_held3 (fun W => W.cell? ⟨L, 12, none⟩ = some (.int .i64 c.o3) ∧ W.cell? ⟨L, 13, none⟩ = some (.int .i64 1) ∧ W.cell? ⟨L, 14, none⟩ = some (.int .i64 c.nd) ∧ W.cell? ⟨L, 15, none⟩ = some (.int .i64 c.width) ∧ W.cell? ⟨w.heap.size, 0, none⟩ = some (.int .i64 c.al) ∧ W.cell? ⟨w.heap.size, 1, none⟩ = some (.int .i64 c.th) ∧ W.cell? ⟨w.heap.size, 2, none⟩ = some (.int .i64 c.nd) ∧ W.cell? ⟨w.heap.size, 3, none⟩ = some (.int .i64 c.lv) ∧ W.cell? ⟨w.heap.size, 4, none⟩ = some (.int .i64 c.ba) ∧ W.cell? ⟨w.heap.size, 5, none⟩ = some (.int .i64 c.pr) ∧ W.cell? ⟨w.heap.size, 6, none⟩ = some (.int .i64 c.sc)) (first | go_keep | exact ⟨(S4.set4 g1 g2 g3 16 17 18 19 (.int .i64 c.o4) (i0) (.int .i64 c.places) (.int .i64 1)).l.get 12 rfl, (S4.set4 g1 g2 g3 16 17 18 19 (.int .i64 c.o4) (i0) (.int .i64 c.places) (.int .i64 1)).l.get 13 rfl, (S4.set4 g1 g2 g3 16 17 18 19 (.int .i64 c.o4) (i0) (.int .i64 c.places) (.int .i64 1)).l.get 14 rfl, (S4.set4 g1 g2 g3 16 17 18 19 (.int .i64 c.o4) (i0) (.int .i64 c.places) (.int .i64 1)).l.get 15 rfl, (S4.set4 g1 g2 g3 16 17 18 19 (.int .i64 c.o4) (i0) (.int .i64 c.places) (.int .i64 1)).p.conf⟩)
    (first | (go_at_call 79; refine (a3 _).mono ?_; rintro e w2 ⟨rfl, hb⟩; have S3 := S2.drew.below hb; have yl12 := S3.l.get 12 rfl; have yl13 := S3.l.get 13 rfl; have yl14 := S3.l.get 14 rfl; have yl15 := S3.l.get 15 rfl; have yf := S3.l.frozen; obtain ⟨yp0, yp1, yp2, yp3, yp4, yp5, yp6⟩ := S3.p.conf) | (go_at_call 77; refine (k4 _).mono ?_; rintro e w3 ⟨rfl, hb3⟩; have S4 := S3.below hb3; have zl12 := S4.l.get 12 rfl; have zl13 := S4.l.get 13 rfl; have zl14 := S4.l.get 14 rfl; have zl15 := S4.l.get 15 rfl; have zl16 := S4.l.get 16 rfl; have zl17 := S4.l.get 17 rfl; have zl18 := S4.l.get 18 rfl; have zl19 := S4.l.get 19 rfl; have zf := S4.l.frozen; obtain ⟨zp0, zp1, zp2, zp3, zp4, zp5, zp6⟩ := S4.p.conf))
  have S5 := S4.set4 g1 g2 g3 16 17 18 19 (.int .i64 c.o4) (i0) (.int .i64 c.places) (.int .i64 1)
  clear S2 S3 S4 hb hb3 xf yf zf xp0 xp1 xp2 xp3 xp4 xp5 xp6 yp0 yp1 yp2 yp3 yp4 yp5 yp6 zp0 zp1 zp2 zp3 zp4 zp5 zp6 xl12 xl13 xl14 xl15 yl12 yl13 yl14 yl15 zl12 zl13 zl14 zl15 zl16 zl17 zl18 zl19
  rename_i hHeld
  clear hHeld
  generalize ((((w3.setCell ⟨L, 16, none⟩ (.int .i64 c.o4)).setCell ⟨L, 17, none⟩ (i0)).setCell ⟨L, 18, none⟩ (.int .i64 c.places)).setCell ⟨L, 19, none⟩ (.int .i64 1)) = W6 at *
  have S2 : St c w w.heap.size R L #[i0, i0, .int .i64 8, .int .i64 1, .int .i64 8, i0, .int .i64 c.th, .int .i64 c.slots, .int .i64 c.o2, .int .i64 1, .int .i64 c.nd, .int .i64 1, .int .i64 c.o3, .int .i64 1, .int .i64 c.nd, .int .i64 c.width, .int .i64 c.o4, i0, .int .i64 c.places, .int .i64 1] W6 := S5
  clear S5
  have rg : W6.rangeAt L 0 c.rows.toList := fun j v hv => by
    rw [Nat.zero_add]
    exact S2.l.get j (by simpa using hv)
  have th : W6.there R 0 20 := fun j hj => by
    rw [Nat.zero_add]
    refine ⟨?_, S2.r.frozen j⟩
    rw [S2.r.cell j, Array.getElem?_eq_getElem (show j < z20.size from hj)]
    rfl
  have bel := S2.bel
  clear S2
  go_wp2_with ((with_reducible refine wpList_rows c L R rg th ?_ ?_ ?_ ?_); rfl; rfl; rfl; intro V hV hB; have HV := Lib.hid hV; clear hV; simp only [Act.put, List.setIfInBounds_toArray, List.set_cons_zero, List.set_cons_succ])
  refine bodyPost_ret (v := .agg c.rows) (results_cell V R _ _ rfl HV.out) rfl ⟨rfl, hB _ _ g4 bel⟩
end Go.Proofs.YtemikojaldoofaaGreat.P
namespace Go.Proofs.YtemikojaldoofaaGreat.P
open Go.ChangeShapes Go.WideShapes Go.ChangeAt Go.RowKit
set_option linter.unusedVariables false

set_option maxRecDepth 20000


theorem wpList_zeros {W : World} (L R : Nat) (rg : W.rangeAt L 0 z20.toList) (th : W.there R 0 20) {ops : Array Oper} {a : Act} {Q : Exit → Act → World → Prop} {ty1 ty2 : TypeId} {p1 p2 : String} {af1 af2 : Array Edge}
    (h3 : a.tmps.getD 3 undef = .pointer (some ⟨L, 0, none⟩)) (h2 : a.tmps.getD 2 undef = .pointer (some ⟨R, 0, none⟩)) (hs : a.tmps.size = 41)
    (h : ∀ V, (loadVar 111 ⟨R, 0, none⟩).run Tryz.prog V = .ok (.agg z20) V → (∀ n A, n ≤ R → Below n A W → Below n A V) → wpList Tryz.prog ops Q [] (a.put (some 6) (.agg z20)) V) :
    wpList Tryz.prog ops Q [⟨some 6, .load 111 (.tmp 3), ty1, p1, af1, none⟩, ⟨none, .store 111 (.tmp 2) (.tmp 6), ty2, p2, af2, none⟩] a W := by
  refine wpList_load_mid rfl 111 _ rfl L 0 h3 z20.toList (.array 5 110) rg (by kernel_rfl) rfl (by kernel_rfl) ?_
  refine wpList_store_mid rfl 111 _ _ rfl R 0 z20 ?_ ?_ th (by kernel_rfl) (by simp [Value.oneCell']) (h _ ?_ fun n A hn hb => below_setCells R hn _ 0 _ hb)
  · show (a.tmps.setIfInBounds 6 _).getD 2 undef = _
    rw [← h2]
    simp
  · show (a.tmps.setIfInBounds 6 _).getD 6 undef = _
    simp [hs]
  · exact run_loadVar_mid (P := Tryz.prog) (W.setCells R 0 z20.toList) R 0 111 z20.toList (.array 5 110) (World.rangeAt_setCells_same W R 0 z20.toList th) (by kernel_rfl) rfl (by kernel_rfl)

set_option maxRecDepth 100000 in
set_option maxHeartbeats 4000000 in
theorem areas_zero (w : World) : Calls Tryz.prog 57 #[zc.v] w fun e w' => e = .returned (.agg z20) ∧ Below w.heap.size w w' := by
  have S0 : St zc w w.heap.size (w.heap.size + 1) (w.heap.size + 2) z20 (((w.alloc (.cells zc.cs 33)).alloc (.cells z20 111)).alloc (.cells z20 111)) := by
    refine ⟨((Blk.new _ _ _).alloc _).alloc _, ?_, ?_, (((Below.refl _ _).alloc (Nat.le_refl _) _).alloc (by simp) _).alloc (by simp; omega) _⟩
    · have := (Blk.new (w.alloc (.cells zc.cs 33)) 111 z20).alloc (.cells z20 111)
      rwa [show (w.alloc (.cells zc.cs 33)).heap.size = w.heap.size + 1 by simp] at this
    · have := Blk.new ((w.alloc (.cells zc.cs 33)).alloc (.cells z20 111)) 111 z20
      rwa [show ((w.alloc (.cells zc.cs 33)).alloc (.cells z20 111)).heap.size = w.heap.size + 2 by simp] at this
  go_enter Tryz.func57, Tryz.ntmps57
  go_wp2_with fail
  refine (zero_yes _).mono ?_
  rintro e w1 ⟨rfl, hb⟩
  have S2 := S0.below hb
  clear hb S0
  have g4 : w.heap.size ≤ w.heap.size + 1 := by omega
  generalize w.heap.size + 2 = L at *
  generalize w.heap.size + 1 = R at *
  have rg : w1.rangeAt L 0 z20.toList := fun j v hv => by
    rw [Nat.zero_add]
    exact S2.l.get j (by simpa using hv)
  have th : w1.there R 0 20 := fun j hj => by
    rw [Nat.zero_add]
    refine ⟨?_, S2.r.frozen j⟩
    rw [S2.r.cell j, Array.getElem?_eq_getElem (show j < z20.size from hj)]
    rfl
  have bel := S2.bel
  clear S2
  go_wp2_with ((with_reducible refine wpList_zeros L R rg th ?_ ?_ ?_ ?_); rfl; rfl; rfl; intro V hV hB; have HV := Lib.hid hV; clear hV; simp only [Act.put, List.setIfInBounds_toArray, List.set_cons_zero, List.set_cons_succ])
  refine bodyPost_ret (v := .agg z20) (results_cell V R _ _ rfl HV.out) rfl ⟨rfl, hB _ _ g4 bel⟩

/-! ### One area out of all -/
theorem index_rows0 (c : Cf) (w : World) : (Instr.index 111 (.agg c.rows) (.int .i64 0)).run Tryz.prog w = .ok (.agg #[i0, i0, .int .i64 8, .int .i64 1]) w := by
  have hu : Tryz.prog.underlying 111 = some (.array 5 110) := by kernel_rfl
  simp [Instr.index, run_underlying hu, asIntOf, go_sem]
theorem index_rows1 (c : Cf) (w : World) : (Instr.index 111 (.agg c.rows) (.int .i64 1)).run Tryz.prog w = .ok (.agg #[.int .i64 8, i0, .int .i64 c.th, .int .i64 c.slots]) w := by
  have hu : Tryz.prog.underlying 111 = some (.array 5 110) := by kernel_rfl
  simp [Instr.index, run_underlying hu, asIntOf, go_sem]
theorem index_rows2 (c : Cf) (w : World) : (Instr.index 111 (.agg c.rows) (.int .i64 2)).run Tryz.prog w = .ok (.agg #[.int .i64 c.o2, .int .i64 1, .int .i64 c.nd, .int .i64 1]) w := by
  have hu : Tryz.prog.underlying 111 = some (.array 5 110) := by kernel_rfl
  simp [Instr.index, run_underlying hu, asIntOf, go_sem]
theorem index_rows3 (c : Cf) (w : World) : (Instr.index 111 (.agg c.rows) (.int .i64 3)).run Tryz.prog w = .ok (.agg #[.int .i64 c.o3, .int .i64 1, .int .i64 c.nd, .int .i64 c.width]) w := by
  have hu : Tryz.prog.underlying 111 = some (.array 5 110) := by kernel_rfl
  simp [Instr.index, run_underlying hu, asIntOf, go_sem]
theorem index_rows4 (c : Cf) (w : World) : (Instr.index 111 (.agg c.rows) (.int .i64 4)).run Tryz.prog w = .ok (.agg #[.int .i64 c.o4, i0, .int .i64 c.places, .int .i64 1]) w := by
  have hu : Tryz.prog.underlying 111 = some (.array 5 110) := by kernel_rfl
  simp [Instr.index, run_underlying hu, asIntOf, go_sem]
theorem index_zero0 (w : World) : (Instr.index 111 (.agg z20) (.int .i64 0)).run Tryz.prog w = .ok (.agg #[i0, i0, i0, i0]) w := by
  have hu : Tryz.prog.underlying 111 = some (.array 5 110) := by kernel_rfl
  simp [Instr.index, run_underlying hu, asIntOf, go_sem]
theorem index_zero1 (w : World) : (Instr.index 111 (.agg z20) (.int .i64 1)).run Tryz.prog w = .ok (.agg #[i0, i0, i0, i0]) w := by
  have hu : Tryz.prog.underlying 111 = some (.array 5 110) := by kernel_rfl
  simp [Instr.index, run_underlying hu, asIntOf, go_sem]
theorem index_zero2 (w : World) : (Instr.index 111 (.agg z20) (.int .i64 2)).run Tryz.prog w = .ok (.agg #[i0, i0, i0, i0]) w := by
  have hu : Tryz.prog.underlying 111 = some (.array 5 110) := by kernel_rfl
  simp [Instr.index, run_underlying hu, asIntOf, go_sem]
theorem index_zero3 (w : World) : (Instr.index 111 (.agg z20) (.int .i64 3)).run Tryz.prog w = .ok (.agg #[i0, i0, i0, i0]) w := by
  have hu : Tryz.prog.underlying 111 = some (.array 5 110) := by kernel_rfl
  simp [Instr.index, run_underlying hu, asIntOf, go_sem]
theorem index_zero4 (w : World) : (Instr.index 111 (.agg z20) (.int .i64 4)).run Tryz.prog w = .ok (.agg #[i0, i0, i0, i0]) w := by
  have hu : Tryz.prog.underlying 111 = some (.array 5 110) := by kernel_rfl
  simp [Instr.index, run_underlying hu, asIntOf, go_sem]
/-! ### Size -/
set_option maxHeartbeats 1000000 in
theorem size_ok (c : Cf) (w : World) (h : c.Ok) : Calls Tryz.prog 34 #[c.v] w fun e w' => e = .returned (.int .i64 c.size) ∧ Below w.heap.size w w' := by
  have ha := fun W => areas_ok c W h
  obtain ⟨-, -, -, -, ⟨m9, m10⟩, -⟩ := h.bounds
  obtain ⟨p1, p2⟩ := h.places
  have he : ∀ W, Calls Tryz.prog 58 #[.agg #[.int .i64 c.o4, i0, .int .i64 c.places, .int .i64 1]] W fun e w' => e = .returned (.int .i64 c.size) ∧ Below W.heap.size W w' := fun W => end_any c.o4 0 c.places 1 W (by omega) (by omega) (by omega) (by omega)
  clear m9 m10 p1 p2 h
  have hx := index_rows4 c
  go_enter Tryz.func34, Tryz.ntmps34
  go_wp2_with fail
  refine (ha _).mono ?_
  rintro e w1 ⟨rfl, hb⟩
  obtain ⟨hB, h0⟩ := boxed c hb
  clear hb hB ha
  go_wp2_with fail
  refine (he _).mono ?_
  rintro e w2 ⟨rfl, hb⟩
  go_wp2
  go_ret
  exact ⟨rfl, below_then h0 hb (Nat.le_refl _)⟩
set_option maxHeartbeats 1000000 in
theorem size_zero (w : World) : Calls Tryz.prog 34 #[zc.v] w fun e w' => e = .returned (.int .i64 0) ∧ Below w.heap.size w w' := by
  have he : ∀ W, Calls Tryz.prog 58 #[.agg #[i0, i0, i0, i0]] W fun e w' => e = .returned (.int .i64 0) ∧ Below W.heap.size W w' := fun W => end_any 0 0 0 0 W (by omega) (by omega) (by omega) (by omega)
  have hx := index_zero4
  go_enter Tryz.func34, Tryz.ntmps34
  go_wp2_with fail
  refine (areas_zero _).mono ?_
  rintro e w1 ⟨rfl, hb⟩
  obtain ⟨hB, h0⟩ := boxed zc hb
  clear hb hB
  go_wp2_with fail
  refine (he _).mono ?_
  rintro e w2 ⟨rfl, hb⟩
  go_wp2
  go_ret
  exact ⟨rfl, below_then h0 hb (Nat.le_refl _)⟩

/-! ### address -/
/-- The address of a word of a row of an area. -/
def addrN (f b r k row word : Int) : Int := if b ≤ row ∧ row - b < r ∧ 0 ≤ word ∧ word < k then f + (row - b) * k + word else -1
theorem addrN_no {f b r k row word : Int} (h : ¬ (b ≤ row ∧ row - b < r ∧ 0 ≤ word ∧ word < k)) : addrN f b r k row word = -1 := if_neg h
theorem addrN_yes {f b r k row word : Int} (h : b ≤ row ∧ row - b < r ∧ 0 ≤ word ∧ word < k) : addrN f b r k row word = f + (row - b) * k + word := if_pos h

set_option maxHeartbeats 4000000 in
theorem addr_gen (c : Cf) (v : Array Value) (i f b r k row word : Int) (w : World)
    (ha : ∀ W, Calls Tryz.prog 57 #[c.v] W fun e w' => e = .returned (.agg v) ∧ Below W.heap.size W w')
    (hx : ∀ W, (Instr.index 111 (.agg v) (.int .i64 i)).run Tryz.prog W = .ok (.agg #[.int .i64 f, .int .i64 b, .int .i64 r, .int .i64 k]) W)
    (f0 : 0 ≤ f) (f1 : f ≤ 1000) (b0 : 0 ≤ b) (b1 : b ≤ 1) (r0 : 0 ≤ r) (r1 : r ≤ 64) (k0 : 0 ≤ k) (k1 : k ≤ 14) (w0 : -9223372036854775808 ≤ row) (w1 : row ≤ 9223372036854775807) (w2 : -9223372036854775808 ≤ word) (w3 : word ≤ 9223372036854775807) :
    Calls Tryz.prog 44 #[c.v, .int .i64 i, .int .i64 row, .int .i64 word] w fun e w' => e = .returned (.int .i64 (addrN f b r k row word)) ∧ Below w.heap.size w w' := by
  by_cases c1 : row < b
  · rw [addrN_no (by omega)]
    go_enter Tryz.func44, Tryz.ntmps44
    go_wp2_with fail
    refine (ha _).mono ?_
    rintro e V ⟨rfl, hb⟩
    obtain ⟨hB, h0⟩ := boxed c hb
    clear hb hB ha
    go_wp2
    go_ret
    exact ⟨rfl, h0.alloc (Nat.le_trans (Nat.le_refl _) h0.size) _⟩
  by_cases c2 : r ≤ row - b
  · rw [addrN_no (by omega)]
    go_enter Tryz.func44, Tryz.ntmps44
    go_wp2_with fail
    refine (ha _).mono ?_
    rintro e V ⟨rfl, hb⟩
    obtain ⟨hB, h0⟩ := boxed c hb
    clear hb hB ha
    go_wp2
    go_ret
    exact ⟨rfl, h0.alloc (Nat.le_trans (Nat.le_refl _) h0.size) _⟩
  by_cases c3 : word < 0
  · rw [addrN_no (by omega)]
    go_enter Tryz.func44, Tryz.ntmps44
    go_wp2_with fail
    refine (ha _).mono ?_
    rintro e V ⟨rfl, hb⟩
    obtain ⟨hB, h0⟩ := boxed c hb
    clear hb hB ha
    go_wp2
    go_ret
    exact ⟨rfl, h0.alloc (Nat.le_trans (Nat.le_refl _) h0.size) _⟩
  by_cases c4 : k ≤ word
  · rw [addrN_no (by omega)]
    go_enter Tryz.func44, Tryz.ntmps44
    go_wp2_with fail
    refine (ha _).mono ?_
    rintro e V ⟨rfl, hb⟩
    obtain ⟨hB, h0⟩ := boxed c hb
    clear hb hB ha
    go_wp2
    go_ret
    exact ⟨rfl, h0.alloc (Nat.le_trans (Nat.le_refl _) h0.size) _⟩
  · rw [addrN_yes (by omega)]
    obtain ⟨m0, m1⟩ := mul_in (a := row - b) (b := k) (A := 64) (B := 14) (by omega) (by omega) k0 k1
    go_enter Tryz.func44, Tryz.ntmps44
    go_wp2_with fail
    refine (ha _).mono ?_
    rintro e V ⟨rfl, hb⟩
    obtain ⟨hB, h0⟩ := boxed c hb
    clear hb hB ha
    go_wp2
    go_ret
    exact ⟨rfl, h0.alloc (Nat.le_trans (Nat.le_refl _) h0.size) _⟩
end Go.Proofs.YtemikojaldoofaaGreat.P
namespace Go.Proofs.YtemikojaldoofaaGreat.P
open Go.ChangeShapes Go.WideShapes Go.ChangeAt Go.RowKit
set_option linter.unusedVariables false

set_option maxRecDepth 20000


def I64 (x : Int) : Prop := -9223372036854775808 ≤ x ∧ x ≤ 9223372036854775807
def Cf.hazard (c : Cf) (t s : Int) : Int := addrN 8 0 c.th c.slots t s
def Cf.link (c : Cf) (n : Int) : Int := addrN c.o2 1 c.nd 1 n 0
def Cf.node (c : Cf) (n f : Int) : Int := addrN c.o3 1 c.nd c.width n f
def Cf.tree (c : Cf) (p : Int) : Int := addrN c.o4 0 c.places 1 p 0
theorem small0 : I64 0 := ⟨by omega, by omega⟩

theorem addr1_ok (c : Cf) (row word : Int) (w : World) (h : c.Ok) (hr : I64 row) (hw : I64 word) :
    Calls Tryz.prog 44 #[c.v, .int .i64 1, .int .i64 row, .int .i64 word] w fun e w' => e = .returned (.int .i64 (addrN 8 0 c.th c.slots row word)) ∧ Below w.heap.size w w' := by
  obtain ⟨⟨m1, m2⟩, ⟨m3, m4⟩, ⟨m5, m6⟩, ⟨m7, m8⟩, ⟨m9, m10⟩, -⟩ := h.bounds
  obtain ⟨n1, n2⟩ := h.nd
  obtain ⟨t1, t2⟩ := h.th
  obtain ⟨s1, s2⟩ := h.slots
  obtain ⟨q1, q2⟩ := h.width
  obtain ⟨p1, p2⟩ := h.places
  exact addr_gen c c.rows 1 _ _ _ _ row word w (fun W => areas_ok c W h) (index_rows1 c) (by omega) (by omega) (by omega) (by omega) (by omega) (by omega) (by omega) (by omega) hr.1 hr.2 hw.1 hw.2
theorem addr1_zero (row word : Int) (w : World) (hr : I64 row) (hw : I64 word) :
    Calls Tryz.prog 44 #[zc.v, .int .i64 1, .int .i64 row, .int .i64 word] w fun e w' => e = .returned (.int .i64 (-1)) ∧ Below w.heap.size w w' := by
  have := addr_gen zc z20 1 0 0 0 0 row word w areas_zero index_zero1 (by omega) (by omega) (by omega) (by omega) (by omega) (by omega) (by omega) (by omega) hr.1 hr.2 hw.1 hw.2
  rw [addrN_no (by omega)] at this
  exact this
theorem addr2_ok (c : Cf) (row word : Int) (w : World) (h : c.Ok) (hr : I64 row) (hw : I64 word) :
    Calls Tryz.prog 44 #[c.v, .int .i64 2, .int .i64 row, .int .i64 word] w fun e w' => e = .returned (.int .i64 (addrN c.o2 1 c.nd 1 row word)) ∧ Below w.heap.size w w' := by
  obtain ⟨⟨m1, m2⟩, ⟨m3, m4⟩, ⟨m5, m6⟩, ⟨m7, m8⟩, ⟨m9, m10⟩, -⟩ := h.bounds
  obtain ⟨n1, n2⟩ := h.nd
  obtain ⟨t1, t2⟩ := h.th
  obtain ⟨s1, s2⟩ := h.slots
  obtain ⟨q1, q2⟩ := h.width
  obtain ⟨p1, p2⟩ := h.places
  exact addr_gen c c.rows 2 _ _ _ _ row word w (fun W => areas_ok c W h) (index_rows2 c) (by omega) (by omega) (by omega) (by omega) (by omega) (by omega) (by omega) (by omega) hr.1 hr.2 hw.1 hw.2
theorem addr2_zero (row word : Int) (w : World) (hr : I64 row) (hw : I64 word) :
    Calls Tryz.prog 44 #[zc.v, .int .i64 2, .int .i64 row, .int .i64 word] w fun e w' => e = .returned (.int .i64 (-1)) ∧ Below w.heap.size w w' := by
  have := addr_gen zc z20 2 0 0 0 0 row word w areas_zero index_zero2 (by omega) (by omega) (by omega) (by omega) (by omega) (by omega) (by omega) (by omega) hr.1 hr.2 hw.1 hw.2
  rw [addrN_no (by omega)] at this
  exact this
theorem addr3_ok (c : Cf) (row word : Int) (w : World) (h : c.Ok) (hr : I64 row) (hw : I64 word) :
    Calls Tryz.prog 44 #[c.v, .int .i64 3, .int .i64 row, .int .i64 word] w fun e w' => e = .returned (.int .i64 (addrN c.o3 1 c.nd c.width row word)) ∧ Below w.heap.size w w' := by
  obtain ⟨⟨m1, m2⟩, ⟨m3, m4⟩, ⟨m5, m6⟩, ⟨m7, m8⟩, ⟨m9, m10⟩, -⟩ := h.bounds
  obtain ⟨n1, n2⟩ := h.nd
  obtain ⟨t1, t2⟩ := h.th
  obtain ⟨s1, s2⟩ := h.slots
  obtain ⟨q1, q2⟩ := h.width
  obtain ⟨p1, p2⟩ := h.places
  exact addr_gen c c.rows 3 _ _ _ _ row word w (fun W => areas_ok c W h) (index_rows3 c) (by omega) (by omega) (by omega) (by omega) (by omega) (by omega) (by omega) (by omega) hr.1 hr.2 hw.1 hw.2
theorem addr3_zero (row word : Int) (w : World) (hr : I64 row) (hw : I64 word) :
    Calls Tryz.prog 44 #[zc.v, .int .i64 3, .int .i64 row, .int .i64 word] w fun e w' => e = .returned (.int .i64 (-1)) ∧ Below w.heap.size w w' := by
  have := addr_gen zc z20 3 0 0 0 0 row word w areas_zero index_zero3 (by omega) (by omega) (by omega) (by omega) (by omega) (by omega) (by omega) (by omega) hr.1 hr.2 hw.1 hw.2
  rw [addrN_no (by omega)] at this
  exact this
theorem addr4_ok (c : Cf) (row word : Int) (w : World) (h : c.Ok) (hr : I64 row) (hw : I64 word) :
    Calls Tryz.prog 44 #[c.v, .int .i64 4, .int .i64 row, .int .i64 word] w fun e w' => e = .returned (.int .i64 (addrN c.o4 0 c.places 1 row word)) ∧ Below w.heap.size w w' := by
  obtain ⟨⟨m1, m2⟩, ⟨m3, m4⟩, ⟨m5, m6⟩, ⟨m7, m8⟩, ⟨m9, m10⟩, -⟩ := h.bounds
  obtain ⟨n1, n2⟩ := h.nd
  obtain ⟨t1, t2⟩ := h.th
  obtain ⟨s1, s2⟩ := h.slots
  obtain ⟨q1, q2⟩ := h.width
  obtain ⟨p1, p2⟩ := h.places
  exact addr_gen c c.rows 4 _ _ _ _ row word w (fun W => areas_ok c W h) (index_rows4 c) (by omega) (by omega) (by omega) (by omega) (by omega) (by omega) (by omega) (by omega) hr.1 hr.2 hw.1 hw.2
theorem addr4_zero (row word : Int) (w : World) (hr : I64 row) (hw : I64 word) :
    Calls Tryz.prog 44 #[zc.v, .int .i64 4, .int .i64 row, .int .i64 word] w fun e w' => e = .returned (.int .i64 (-1)) ∧ Below w.heap.size w w' := by
  have := addr_gen zc z20 4 0 0 0 0 row word w areas_zero index_zero4 (by omega) (by omega) (by omega) (by omega) (by omega) (by omega) (by omega) (by omega) hr.1 hr.2 hw.1 hw.2
  rw [addrN_no (by omega)] at this
  exact this
theorem link_ok (c : Cf) (a : Int) (w : World) (h : c.Ok) (ha : I64 a)  :
    Calls Tryz.prog 64 #[c.v, .int .i64 a] w fun e w' => e = .returned (.int .i64 (c.link a)) ∧ Below w.heap.size w w' := by
  go_enter Tryz.func64, Tryz.ntmps64
  go_wp2_with fail
  refine (addr2_ok c a 0 _ h ha small0).mono ?_
  rintro e V ⟨rfl, hV⟩
  obtain ⟨-, h0⟩ := boxed c hV
  go_wp2
  go_ret
  exact ⟨rfl, h0⟩
theorem link_zero (a : Int) (w : World) (ha : I64 a)  :
    Calls Tryz.prog 64 #[zc.v, .int .i64 a] w fun e w' => e = .returned (.int .i64 (-1)) ∧ Below w.heap.size w w' := by
  go_enter Tryz.func64, Tryz.ntmps64
  go_wp2_with fail
  refine (addr2_zero a 0 _ ha small0).mono ?_
  rintro e V ⟨rfl, hV⟩
  obtain ⟨-, h0⟩ := boxed zc hV
  go_wp2
  go_ret
  exact ⟨rfl, h0⟩
theorem node_ok (c : Cf) (a b : Int) (w : World) (h : c.Ok) (ha : I64 a) (hb : I64 b) :
    Calls Tryz.prog 65 #[c.v, .int .i64 a, .int .i64 b] w fun e w' => e = .returned (.int .i64 (c.node a b)) ∧ Below w.heap.size w w' := by
  go_enter Tryz.func65, Tryz.ntmps65
  go_wp2_with fail
  refine (addr3_ok c a b _ h ha hb).mono ?_
  rintro e V ⟨rfl, hV⟩
  obtain ⟨-, h0⟩ := boxed c hV
  go_wp2
  go_ret
  exact ⟨rfl, h0⟩
theorem node_zero (a b : Int) (w : World) (ha : I64 a) (hb : I64 b) :
    Calls Tryz.prog 65 #[zc.v, .int .i64 a, .int .i64 b] w fun e w' => e = .returned (.int .i64 (-1)) ∧ Below w.heap.size w w' := by
  go_enter Tryz.func65, Tryz.ntmps65
  go_wp2_with fail
  refine (addr3_zero a b _ ha hb).mono ?_
  rintro e V ⟨rfl, hV⟩
  obtain ⟨-, h0⟩ := boxed zc hV
  go_wp2
  go_ret
  exact ⟨rfl, h0⟩
end Go.Proofs.YtemikojaldoofaaGreat.P
