/- A configuration written plainly; what the small functions of the plan answer; which may be, by the document; Check; rows of parts. -/
import Derived.Test.YtdmdmkgpnelkjaaRows
import Derived.WalkKit
import Derived.ProofKit
import Derived.Below
import Derived.OwnWalk
import Derived.OneCell
import Derived.Laws.OwnMore
import Derived.Laws.StructEq
import Derived.Deep.RegionHeld3
import Derived.Deep.Onto
import Derived.Deep.Draws
import Derived.Lib.Hide
import Derived.Lib.QuietBelow
import Derived.StillTailTactics
import Derived.WalkLawsBesides
import Derived.Handy
namespace Go.Proofs.Ytdmdmkgpnelkjaa
open Go.ChangeShapes Go.WideShapes Go.ChangeAt Go.RowKit
set_option linter.unusedVariables false



/-- A configuration, written plainly. -/
structure Cf where
  al : Int
  th : Int
  nd : Int
  lv : Int
  ba : Int
  pr : Int
  sc : Int
/-- Its cells, and its value; a plan has the same. -/
abbrev Cf.cs (c : Cf) : Array Value := #[.int .i64 c.al, .int .i64 c.th, .int .i64 c.nd, .int .i64 c.lv, .int .i64 c.ba, .int .i64 c.pr, .int .i64 c.sc]
abbrev Cf.v (c : Cf) : Value := .agg #[.int .i64 c.al, .int .i64 c.th, .int .i64 c.nd, .int .i64 c.lv, .int .i64 c.ba, .int .i64 c.pr, .int .i64 c.sc]
abbrev zc : Cf := ⟨0, 0, 0, 0, 0, 0, 0⟩

/-- How many nodes of an algorithm are always there. -/
def sent (al : Int) : Int := if al = 0 then 0 else 2
/-- May a configuration be? -/
structure Cf.Ok (c : Cf) : Prop where
  a0 : 0 ≤ c.al
  a1 : c.al ≤ 2
  t0 : 1 ≤ c.th
  t1 : c.th ≤ 6
  n0 : sent c.al + 1 ≤ c.nd
  n1 : c.nd ≤ 64
  l0 : 1 ≤ c.lv
  l1 : c.lv ≤ 6
  b0 : 1 ≤ c.ba
  b1 : c.ba ≤ 16
  p0 : 1 ≤ c.pr
  p1 : c.pr ≤ 16
  s0 : 1 ≤ c.sc
  s1 : c.sc ≤ 64

theorem ret_int {k : IntKind} {a b : Int} (h : a = b) : Ending.returned (.int k a) = .returned (.int k b) := by rw [h]
theorem below_drewN {n : Nat} {A W : World} (h : Below n A W) (m : Nat) : Below n A (W.drewN m) := ⟨h.os, h.tape, h.output, h.size, h.block⟩
theorem bcell {W w1 : World} (hb : Below W.heap.size W w1) : (∀ b o, b < W.heap.size → w1.cell? ⟨b, o, none⟩ = W.cell? ⟨b, o, none⟩) ∧ (∀ b o, b < W.heap.size → w1.frozen? ⟨b, o, none⟩ = W.frozen? ⟨b, o, none⟩) :=
  ⟨fun b o h => hb.cell (p := ⟨b, o, none⟩) h, fun b o h => hb.frozen (p := ⟨b, o, none⟩) h⟩

/-- A region that reads and asks quietly, and ends in one forced tail. -/
theorem wp_tail {P : Program} {id : Nat} {Q : Exit → Act → World → Prop} {a : Act} {w : World} {l : List Oper} (n : Nat) (hm : P.follows .mixedOrders = true) (hB : Region.lexTailB .any l.toArray n = true)
    (h : wpStill P l.toArray w.drew (fun a' => wpList P l.toArray Q (l.drop n) a' w.drew) (l.take n) a) : (Code.region id l.toArray true).wp P Q a w := wp_region_still_tail n hm hB h

/-- The number nearest to n from lo to hi. -/
def nearN (n lo hi : Int) : Int := if lo < (if hi < n then hi else n) then (if hi < n then hi else n) else lo
theorem within_any (n lo hi : Int) (w : World) : Calls Try.prog 42 #[.int .i64 n, .int .i64 lo, .int .i64 hi] w fun e w' => e = .returned (.int .i64 (nearN n lo hi)) ∧ w' = w := by
  have qmin : ∀ w, (Builtin.min_ #[3, 3] 3 #[.int .i64 n, .int .i64 hi]).run Try.prog w = .ok (.int .i64 (if hi < n then hi else n)) w := fun w => by simp [Builtin.min_, Builtin.min2]
  have qmax : ∀ w, (Builtin.max_ #[3, 3] 3 #[.int .i64 lo, .int .i64 (if hi < n then hi else n)]).run Try.prog w = .ok (.int .i64 (nearN n lo hi)) w := fun w => by simp [Builtin.max_, Builtin.max2, nearN]
  generalize (if hi < n then hi else n) = m at *
  generalize nearN n lo hi = r at *
  go_enter Try.func42, Try.ntmps42
  go_wp2
  go_ret
  exact ⟨rfl, rfl⟩
theorem sentinels_any (al : Int) (w : World) : Calls Try.prog 43 #[.int .i64 al] w fun e w' => e = .returned (.int .i64 (sent al)) ∧ w' = w := by
  by_cases h : al = 0
  · subst h
    have hs : sent 0 = 0 := rfl
    rw [hs]
    clear hs
    go_enter Try.func43, Try.ntmps43
    go_wp2
    go_ret
    exact ⟨rfl, rfl⟩
  · have hs : sent al = 2 := if_neg h
    rw [hs]
    clear hs
    have h2 : (al == 0) = false := by simpa using h
    go_enter Try.func43, Try.ntmps43
    go_wp2
    go_ret
    exact ⟨rfl, rfl⟩

def Cf.near (c : Cf) : Cf := ⟨nearN c.al 0 2, nearN c.th 1 6, nearN c.nd (sent c.al + 1) 64, nearN c.lv 1 6, nearN c.ba 1 16, nearN c.pr 1 16, nearN c.sc 1 64⟩


set_option maxRecDepth 100000 in
set_option maxHeartbeats 4000000 in
theorem nearest_any (c : Cf) (w : World) : Calls Try.prog 39 #[c.v] w fun e w' => e = .returned c.near.v ∧ Below w.heap.size w w' := by
  obtain ⟨al, th, nd, lv, ba, pr, sc⟩ := c
  have hs : IntKind.i64.wrap (sent al + 1) = sent al + 1 := by
    unfold sent
    split <;> rfl
  go_enter Try.func39, Try.ntmps39
  go_wp2
  refine wp_tail 26 (by kernel_rfl) (by kernel_rfl) ?_
  simp only [List.take_succ_cons, List.take_zero, List.drop_succ_cons, List.drop_zero]
  still_step
  still_step
  still_call (within_any _ _ _ _)
  still_step
  still_step
  still_call (within_any _ _ _ _)
  still_step
  still_step
  still_step
  still_step
  still_call (sentinels_any _ _)
  still_step
  still_call (within_any _ _ _ _)
  still_step
  still_step
  still_call (within_any _ _ _ _)
  still_step
  still_step
  still_call (within_any _ _ _ _)
  still_step
  still_step
  still_call (within_any _ _ _ _)
  still_step
  still_step
  still_call (within_any _ _ _ _)
  still_step
  refine wpStill_nil ?_
  go_wp2
  refine bodyPost_ret (v := Cf.v (Cf.near ⟨al, th, nd, lv, ba, pr, sc⟩)) (by simp [results, Try.results39, go_sem, Cf.near]) rfl ⟨rfl, ?_⟩
  exact (((Below.refl _ _).alloc (Nat.le_refl _) _).alloc (by simp) _).drew

/-- A block known whole stays so. -/
def Blk (W : World) (g : Nat) (t : TypeId) (cs : Array Value) : Prop := W.heap[g]? = some (.cells cs t (0, 0))
theorem Blk.lt {W : World} {g : Nat} {t : TypeId} {cs : Array Value} (h : Blk W g t cs) : g < W.heap.size := (Array.getElem?_eq_some_iff.1 h).1
theorem Blk.cell {W : World} {g : Nat} {t : TypeId} {cs : Array Value} (h : Blk W g t cs) (i : Nat) : W.cell? ⟨g, i, none⟩ = cs[i]? := cell_of_row W g i cs t (0, 0) h
theorem Blk.frozen {W : World} {g : Nat} {t : TypeId} {cs : Array Value} (h : Blk W g t cs) (i : Nat) : W.frozen? ⟨g, i, none⟩ = false := by
  unfold Blk at h
  simp [World.frozen?, h]
theorem Blk.agree {W W' : World} {g : Nat} {t : TypeId} {cs : Array Value} (h : Blk W g t cs) (e : W'.heap[g]? = W.heap[g]?) : Blk W' g t cs := e.trans h
theorem Blk.new (W : World) (t : TypeId) (cs : Array Value) : Blk (W.alloc (.cells cs t)) W.heap.size t cs := heap_alloc_new W _
theorem Blk.alloc {W : World} {g : Nat} {t : TypeId} {cs : Array Value} (h : Blk W g t cs) (o : Obj) : Blk (W.alloc o) g t cs := h.agree (Below.heap_alloc _ _ _ h.lt)
theorem Blk.below {W W' : World} {g n : Nat} {t : TypeId} {cs : Array Value} (h : Blk W g t cs) (hb : Below n W W') (hn : g < n) : Blk W' g t cs := h.agree (hb.block g hn)
theorem Blk.drew {W : World} {g : Nat} {t : TypeId} {cs : Array Value} (h : Blk W g t cs) : Blk W.drew g t cs := h
theorem Blk.set {W : World} {g : Nat} {t : TypeId} {cs : Array Value} (h : Blk W g t cs) (i : Nat) (u : Value) : Blk (W.setCell ⟨g, i, none⟩ u) g t (cs.setIfInBounds i u) := by
  unfold Blk at h ⊢
  simp [World.setCell, Array.getElem?_modify, h]
theorem Blk.far {W : World} {g : Nat} {t : TypeId} {cs : Array Value} (h : Blk W g t cs) {p : Addr} (hp : g ≠ p.block) (u : Value) : Blk (W.setCell p u) g t cs := h.agree (Below.heap_setCell _ _ _ _ hp)
/-- The seven cells of a configuration. -/
theorem Blk.conf {W : World} {g : Nat} {t : TypeId} {c : Cf} (h : Blk W g t c.cs) : W.cell? ⟨g, 0, none⟩ = some (.int .i64 c.al) ∧ W.cell? ⟨g, 1, none⟩ = some (.int .i64 c.th) ∧ W.cell? ⟨g, 2, none⟩ = some (.int .i64 c.nd) ∧ W.cell? ⟨g, 3, none⟩ = some (.int .i64 c.lv) ∧
    W.cell? ⟨g, 4, none⟩ = some (.int .i64 c.ba) ∧ W.cell? ⟨g, 5, none⟩ = some (.int .i64 c.pr) ∧ W.cell? ⟨g, 6, none⟩ = some (.int .i64 c.sc) :=
  ⟨by rw [h.cell]; rfl, by rw [h.cell]; rfl, by rw [h.cell]; rfl, by rw [h.cell]; rfl, by rw [h.cell]; rfl, by rw [h.cell]; rfl, by rw [h.cell]; rfl⟩

theorem below_drew1 {n : Nat} {A W : World} (h : Below n A W) : Below n A W.drew := ⟨h.os, h.tape, h.output, h.size, h.block⟩

def Cf.eqB (c d : Cf) : Bool := c.al == d.al && c.th == d.th && c.nd == d.nd && c.lv == d.lv && c.ba == d.ba && c.pr == d.pr && c.sc == d.sc
theorem Cf.eqB_true {c d : Cf} : c.eqB d = true ↔ c = d := by
  obtain ⟨a1, a2, a3, a4, a5, a6, a7⟩ := c
  obtain ⟨b1, b2, b3, b4, b5, b6, b7⟩ := d
  simp [Cf.eqB, and_assoc]
theorem Cf.eqB_self (c : Cf) : c.eqB c = true := Cf.eqB_true.2 rfl
theorem Cf.eqB_false {c d : Cf} (h : c ≠ d) : c.eqB d = false := by
  cases hb : c.eqB d with
  | false => rfl
  | true => exact (h (Cf.eqB_true.1 hb)).elim
theorem eq_conf (c d : Cf) (w : World) : (Op.equalIn 10000 25 c.v d.v).run Try.prog w = .ok (c.eqB d) w := by
  obtain ⟨a1, a2, a3, a4, a5, a6, a7⟩ := c
  obtain ⟨b1, b2, b3, b4, b5, b6, b7⟩ := d
  simp [go_sem, Cf.eqB]
  by_cases h1 : a1 = b1 <;> by_cases h2 : a2 = b2 <;> by_cases h3 : a3 = b3 <;> by_cases h4 : a4 = b4 <;> by_cases h5 : a5 = b5 <;> by_cases h6 : a6 = b6 <;> by_cases h7 : a7 = b7 <;> simp [h1, h2, h3, h4, h5, h6, h7]


theorem below_then {n : Nat} {w W w1 : World} (h0 : Below n w W) (hb : Below W.heap.size W w1) (hn : n ≤ w.heap.size) : Below n w w1 :=
  h0.trans (hb.mono (Nat.le_trans hn h0.size))
theorem nearN_self {n lo hi : Int} (h1 : lo ≤ n) (h2 : n ≤ hi) : nearN n lo hi = n := by
  unfold nearN
  rw [if_neg (show ¬ hi < n by omega)]
  split <;> omega
theorem nearN_in {n lo hi : Int} (h : lo ≤ hi) : lo ≤ nearN n lo hi ∧ nearN n lo hi ≤ hi := by
  unfold nearN
  split <;> split at * <;> omega
theorem sent_in (al : Int) : 0 ≤ sent al ∧ sent al ≤ 2 := by
  unfold sent
  split <;> omega
theorem Cf.Ok.near {c : Cf} (h : c.Ok) : c = c.near := by
  obtain ⟨al, th, nd, lv, ba, pr, sc⟩ := c
  obtain ⟨h1, h2, h3, h4, h5, h6, h7, h8, h9, h10, h11, h12, h13, h14⟩ := h
  simp only [Cf.near] at *
  rw [nearN_self h1 h2, nearN_self h3 h4, nearN_self h5 h6, nearN_self h7 h8, nearN_self h9 h10, nearN_self h11 h12, nearN_self h13 h14]
theorem Cf.ok_of_near {c : Cf} (h : c = c.near) : c.Ok := by
  obtain ⟨al, th, nd, lv, ba, pr, sc⟩ := c
  simp only [Cf.near, Cf.mk.injEq] at h
  obtain ⟨e1, e2, e3, e4, e5, e6, e7⟩ := h
  have s := sent_in al
  have q1 := nearN_in (n := al) (lo := 0) (hi := 2) (by omega)
  have q2 := nearN_in (n := th) (lo := 1) (hi := 6) (by omega)
  have q3 := nearN_in (n := nd) (lo := sent al + 1) (hi := 64) (by omega)
  have q4 := nearN_in (n := lv) (lo := 1) (hi := 6) (by omega)
  have q5 := nearN_in (n := ba) (lo := 1) (hi := 16) (by omega)
  have q6 := nearN_in (n := pr) (lo := 1) (hi := 16) (by omega)
  have q7 := nearN_in (n := sc) (lo := 1) (hi := 64) (by omega)
  rw [← e1] at q1
  rw [← e2] at q2
  rw [← e3] at q3
  rw [← e4] at q4
  rw [← e5] at q5
  rw [← e6] at q6
  rw [← e7] at q7
  exact ⟨q1.1, q1.2, q2.1, q2.2, q3.1, q3.2, q4.1, q4.2, q5.1, q5.2, q6.1, q6.2, q7.1, q7.2⟩

set_option maxHeartbeats 1000000 in
theorem new_bad (c : Cf) (w : World) (h : ¬ c.Ok) : Calls Try.prog 33 #[c.v] w fun e w' => e = .returned (.tuple #[zc.v, .int .i64 6]) ∧ Below w.heap.size w w' := by
  have hq : ∀ w, (Op.equalIn 10000 25 c.v c.near.v).run Try.prog w = .ok false w := fun w => by rw [eq_conf, Cf.eqB_false (fun e => h (Cf.ok_of_near e))]
  have hc := nearest_any c
  generalize c.near = d at *
  clear h
  have hB : Blk ((w.alloc (.cells c.cs 25)).alloc (.cells zc.cs 64)) w.heap.size 25 c.cs := (Blk.new _ _ _).alloc _
  have hR : Blk ((w.alloc (.cells c.cs 25)).alloc (.cells zc.cs 64)) (w.heap.size + 1) 64 zc.cs := by
    have := Blk.new (w.alloc (.cells c.cs 25)) 64 zc.cs
    simpa using this
  have h0 : Below w.heap.size w ((w.alloc (.cells c.cs 25)).alloc (.cells zc.cs 64)) := ((Below.refl _ _).alloc (Nat.le_refl _) _).alloc (by simp) _
  go_enter Try.func33, Try.ntmps33
  go_wp2
  generalize ((w.alloc (.cells c.cs 25)).alloc (.cells zc.cs 64)) = W at *
  have hR0 : w.heap.size ≤ w.heap.size + 1 := by omega
  have hne : w.heap.size ≠ w.heap.size + 1 := by omega
  have hne2 : w.heap.size + 1 ≠ w.heap.size := by omega
  generalize w.heap.size + 1 = R at *
  obtain ⟨x0, x1, x2, x3, x4, x5, x6⟩ := hB.conf
  go_region_held3 (fun W => W.cell? ⟨w.heap.size, 0, none⟩ = some (.int .i64 c.al) ∧ W.cell? ⟨w.heap.size, 1, none⟩ = some (.int .i64 c.th) ∧ W.cell? ⟨w.heap.size, 2, none⟩ = some (.int .i64 c.nd) ∧ W.cell? ⟨w.heap.size, 3, none⟩ = some (.int .i64 c.lv) ∧
    W.cell? ⟨w.heap.size, 4, none⟩ = some (.int .i64 c.ba) ∧ W.cell? ⟨w.heap.size, 5, none⟩ = some (.int .i64 c.pr) ∧ W.cell? ⟨w.heap.size, 6, none⟩ = some (.int .i64 c.sc)) (go_keep)
    (first | (go_at_call 39; refine (hc _).mono ?_; rintro e w1 ⟨rfl, hb⟩; obtain ⟨y0, y1, y2, y3, y4, y5, y6⟩ := Blk.conf (hB.drew.below hb hB.lt); obtain ⟨z0, z1, z2, z3, z4, z5, z6⟩ := Blk.conf (hR.drew.below hb hR.lt); have zf := Blk.frozen (hR.drew.below hb hR.lt)))
  go_wp2
  refine bodyPost_ret (v := .tuple #[zc.v, .int .i64 6]) (by simp [results, Try.results33, go_sem, z0, z1, z2, z3, z4, z5, z6]) rfl ⟨rfl, ?_⟩
  exact (((((((below_then (below_drew1 h0) hb (Nat.le_refl _)).setCell hR0 _).setCell hR0 _).setCell hR0 _).setCell hR0 _).setCell hR0 _).setCell hR0 _).setCell hR0 _

set_option maxHeartbeats 1000000 in
theorem new_ok (c : Cf) (w : World) (h : c.Ok) : Calls Try.prog 33 #[c.v] w fun e w' => e = .returned (.tuple #[c.v, .int .i64 0]) ∧ Below w.heap.size w w' := by
  have hq : ∀ w, (Op.equalIn 10000 25 c.v c.v).run Try.prog w = .ok true w := fun w => by rw [eq_conf, Cf.eqB_self]
  have hc := nearest_any c
  rw [← h.near] at hc
  clear h
  have hB : Blk ((w.alloc (.cells c.cs 25)).alloc (.cells zc.cs 64)) w.heap.size 25 c.cs := (Blk.new _ _ _).alloc _
  have hR : Blk ((w.alloc (.cells c.cs 25)).alloc (.cells zc.cs 64)) (w.heap.size + 1) 64 zc.cs := by
    have := Blk.new (w.alloc (.cells c.cs 25)) 64 zc.cs
    simpa using this
  have h0 : Below w.heap.size w ((w.alloc (.cells c.cs 25)).alloc (.cells zc.cs 64)) := ((Below.refl _ _).alloc (Nat.le_refl _) _).alloc (by simp) _
  go_enter Try.func33, Try.ntmps33
  go_wp2
  generalize ((w.alloc (.cells c.cs 25)).alloc (.cells zc.cs 64)) = W at *
  have hR0 : w.heap.size ≤ w.heap.size + 1 := by omega
  have hne : w.heap.size ≠ w.heap.size + 1 := by omega
  have hne2 : w.heap.size + 1 ≠ w.heap.size := by omega
  generalize w.heap.size + 1 = R at *
  obtain ⟨x0, x1, x2, x3, x4, x5, x6⟩ := hB.conf
  go_region_held3 (fun W => W.cell? ⟨w.heap.size, 0, none⟩ = some (.int .i64 c.al) ∧ W.cell? ⟨w.heap.size, 1, none⟩ = some (.int .i64 c.th) ∧ W.cell? ⟨w.heap.size, 2, none⟩ = some (.int .i64 c.nd) ∧ W.cell? ⟨w.heap.size, 3, none⟩ = some (.int .i64 c.lv) ∧
    W.cell? ⟨w.heap.size, 4, none⟩ = some (.int .i64 c.ba) ∧ W.cell? ⟨w.heap.size, 5, none⟩ = some (.int .i64 c.pr) ∧ W.cell? ⟨w.heap.size, 6, none⟩ = some (.int .i64 c.sc)) (go_keep)
    (first | (go_at_call 39; refine (hc _).mono ?_; rintro e w1 ⟨rfl, hb⟩; obtain ⟨y0, y1, y2, y3, y4, y5, y6⟩ := Blk.conf (hB.drew.below hb hB.lt); obtain ⟨z0, z1, z2, z3, z4, z5, z6⟩ := Blk.conf (hR.drew.below hb hR.lt); have zf := Blk.frozen (hR.drew.below hb hR.lt)))
  go_wp2
  refine bodyPost_ret (v := .tuple #[c.v, .int .i64 0]) (by simp [results, Try.results33, go_sem, z0, z1, z2, z3, z4, z5, z6]) rfl ⟨rfl, ?_⟩
  exact (((((((below_then (below_drew1 h0) hb (Nat.le_refl _)).setCell hR0 _).setCell hR0 _).setCell hR0 _).setCell hR0 _).setCell hR0 _).setCell hR0 _).setCell hR0 _



/-- A box of a plan, behind a callee that leaves what was there. -/
theorem boxed {w w1 : World} {t : TypeId} (c : Cf) (hb : Below (w.alloc (.cells c.cs t)).heap.size (w.alloc (.cells c.cs t)) w1) : Blk w1 w.heap.size t c.cs ∧ Below w.heap.size w w1 :=
  ⟨(Blk.new w t c.cs).below hb (by simp), below_then ((Below.refl _ _).alloc (Nat.le_refl _) _) hb (Nat.le_refl _)⟩

theorem box1 {w : World} (o : Obj) : Below w.heap.size w (w.alloc o) := (Below.refl _ _).alloc (Nat.le_refl _) _
theorem rsent_any (c : Cf) (w : World) : Calls Try.prog 29 #[c.v] w fun e w' => e = .returned (.int .i64 (sent c.al)) ∧ Below w.heap.size w w' := by
  obtain ⟨al, th, nd, lv, ba, pr, sc⟩ := c
  dsimp only at *
  by_cases h0 : al = 0
  · subst h0
    have hs : sent 0 = 0 := rfl
    rw [hs]
    clear hs
    go_enter Try.func29, Try.ntmps29
    go_wp2
    go_ret
    exact ⟨rfl, box1 _⟩
  · have hs : sent al = 2 := if_neg h0
    rw [hs]
    clear hs
    have h0' : (al == 0) = false := by simpa using h0
    go_enter Try.func29, Try.ntmps29
    go_wp2
    go_ret
    exact ⟨rfl, box1 _⟩
set_option maxRecDepth 100000 in
set_option maxHeartbeats 8000000 in
theorem right_early (al th nd lv ba pr sc : Int) (w : World) (h : al < 0 ∨ 2 < al ∨ th < 1 ∨ 6 < th ∨ nd < 1 ∨ 64 < nd ∨ lv < 1 ∨ 6 < lv ∨ ba < 1 ∨ 16 < ba ∨ pr < 1 ∨ 16 < pr ∨ sc < 1 ∨ 64 < sc) :
    Calls Try.prog 16 #[Cf.v ⟨al, th, nd, lv, ba, pr, sc⟩] w fun e w' => e = .returned (.bool false) ∧ Below w.heap.size w w' := by
  by_cases g0 : al < 0
  · clear h
    go_enter Try.func16, Try.ntmps16
    go_wp2
    go_ret
    exact ⟨rfl, box1 _⟩
  by_cases g1 : 2 < al
  · clear h
    go_enter Try.func16, Try.ntmps16
    go_wp2
    go_ret
    exact ⟨rfl, box1 _⟩
  by_cases g2 : th < 1
  · clear h
    go_enter Try.func16, Try.ntmps16
    go_wp2
    go_ret
    exact ⟨rfl, box1 _⟩
  by_cases g3 : 6 < th
  · clear h
    go_enter Try.func16, Try.ntmps16
    go_wp2
    go_ret
    exact ⟨rfl, box1 _⟩
  by_cases g4 : nd < 1
  · clear h
    go_enter Try.func16, Try.ntmps16
    go_wp2
    go_ret
    exact ⟨rfl, box1 _⟩
  by_cases g5 : 64 < nd
  · clear h
    go_enter Try.func16, Try.ntmps16
    go_wp2
    go_ret
    exact ⟨rfl, box1 _⟩
  by_cases g6 : lv < 1
  · clear h
    go_enter Try.func16, Try.ntmps16
    go_wp2
    go_ret
    exact ⟨rfl, box1 _⟩
  by_cases g7 : 6 < lv
  · clear h
    go_enter Try.func16, Try.ntmps16
    go_wp2
    go_ret
    exact ⟨rfl, box1 _⟩
  by_cases g8 : ba < 1
  · clear h
    go_enter Try.func16, Try.ntmps16
    go_wp2
    go_ret
    exact ⟨rfl, box1 _⟩
  by_cases g9 : 16 < ba
  · clear h
    go_enter Try.func16, Try.ntmps16
    go_wp2
    go_ret
    exact ⟨rfl, box1 _⟩
  by_cases g10 : pr < 1
  · clear h
    go_enter Try.func16, Try.ntmps16
    go_wp2
    go_ret
    exact ⟨rfl, box1 _⟩
  by_cases g11 : 16 < pr
  · clear h
    go_enter Try.func16, Try.ntmps16
    go_wp2
    go_ret
    exact ⟨rfl, box1 _⟩
  by_cases g12 : sc < 1
  · clear h
    go_enter Try.func16, Try.ntmps16
    go_wp2
    go_ret
    exact ⟨rfl, box1 _⟩
  by_cases g13 : 64 < sc
  · clear h
    go_enter Try.func16, Try.ntmps16
    go_wp2
    go_ret
    exact ⟨rfl, box1 _⟩
  omega
set_option maxRecDepth 100000 in
set_option maxHeartbeats 8000000 in
theorem right_late (al th nd lv ba pr sc : Int) (w : World) (g0 : ¬ al < 0) (g1 : ¬ 2 < al) (g2 : ¬ th < 1) (g3 : ¬ 6 < th) (g4 : ¬ nd < 1) (g5 : ¬ 64 < nd) (g6 : ¬ lv < 1) (g7 : ¬ 6 < lv) (g8 : ¬ ba < 1) (g9 : ¬ 16 < ba) (g10 : ¬ pr < 1) (g11 : ¬ 16 < pr) (g12 : ¬ sc < 1) (g13 : ¬ 64 < sc) :
    Calls Try.prog 16 #[Cf.v ⟨al, th, nd, lv, ba, pr, sc⟩] w fun e w' => e = .returned (.bool (decide (sent al < nd))) ∧ Below w.heap.size w w' := by
  have hB : Blk (w.alloc (.cells (Cf.cs ⟨al, th, nd, lv, ba, pr, sc⟩) 25)) w.heap.size 25 (Cf.cs ⟨al, th, nd, lv, ba, pr, sc⟩) := Blk.new _ _ _
  have h0 : Below w.heap.size w (w.alloc (.cells (Cf.cs ⟨al, th, nd, lv, ba, pr, sc⟩) 25)) := box1 _
  have hc := rsent_any ⟨al, th, nd, lv, ba, pr, sc⟩
  dsimp only at hc
  generalize sent al = s at *
  go_enter Try.func16, Try.ntmps16
  go_wp2
  generalize (w.alloc (.cells (Cf.cs ⟨al, th, nd, lv, ba, pr, sc⟩) 25)) = W at *
  obtain ⟨x0, x1, x2, x3, x4, x5, x6⟩ := hB.conf
  dsimp only at x0 x1 x2 x3 x4 x5 x6
  go_region_held3 (fun W => W.cell? ⟨w.heap.size, 0, none⟩ = some (.int .i64 al) ∧ W.cell? ⟨w.heap.size, 1, none⟩ = some (.int .i64 th) ∧ W.cell? ⟨w.heap.size, 2, none⟩ = some (.int .i64 nd) ∧ W.cell? ⟨w.heap.size, 3, none⟩ = some (.int .i64 lv) ∧
    W.cell? ⟨w.heap.size, 4, none⟩ = some (.int .i64 ba) ∧ W.cell? ⟨w.heap.size, 5, none⟩ = some (.int .i64 pr) ∧ W.cell? ⟨w.heap.size, 6, none⟩ = some (.int .i64 sc)) (go_keep)
    (first | (go_at_call 29; refine (hc _).mono ?_; rintro e w1 ⟨rfl, hb⟩; obtain ⟨y0, y1, y2, y3, y4, y5, y6⟩ := Blk.conf (hB.drew.below hb hB.lt); dsimp only at y0 y1 y2 y3 y4 y5 y6))
  go_wp2
  go_ret
  exact ⟨rfl, below_then (below_drew1 h0) hb (Nat.le_refl _)⟩
theorem right_ok (c : Cf) (w : World) (h : c.Ok) : Calls Try.prog 16 #[c.v] w fun e w' => e = .returned (.bool true) ∧ Below w.heap.size w w' := by
  obtain ⟨al, th, nd, lv, ba, pr, sc⟩ := c
  obtain ⟨h1, h2, h3, h4, h5, h6, h7, h8, h9, h10, h11, h12, h13, h14⟩ := h
  have hs := sent_in al
  dsimp only at *
  have := right_late al th nd lv ba pr sc w (by omega) (by omega) (by omega) (by omega) (by omega) (by omega) (by omega) (by omega) (by omega) (by omega) (by omega) (by omega) (by omega) (by omega)
  rwa [show decide (sent al < nd) = true by simp; omega] at this
theorem right_bad (c : Cf) (w : World) (h : ¬ c.Ok) : Calls Try.prog 16 #[c.v] w fun e w' => e = .returned (.bool false) ∧ Below w.heap.size w w' := by
  obtain ⟨al, th, nd, lv, ba, pr, sc⟩ := c
  by_cases g : al < 0 ∨ 2 < al ∨ th < 1 ∨ 6 < th ∨ nd < 1 ∨ 64 < nd ∨ lv < 1 ∨ 6 < lv ∨ ba < 1 ∨ 16 < ba ∨ pr < 1 ∨ 16 < pr ∨ sc < 1 ∨ 64 < sc
  · exact right_early al th nd lv ba pr sc w g
  · have := right_late al th nd lv ba pr sc w (by omega) (by omega) (by omega) (by omega) (by omega) (by omega) (by omega) (by omega) (by omega) (by omega) (by omega) (by omega) (by omega) (by omega)
    rwa [show decide (sent al < nd) = false by
      simp only [decide_eq_false_iff_not]
      intro hlt
      exact h ⟨by dsimp only; omega, by dsimp only; omega, by dsimp only; omega, by dsimp only; omega, by dsimp only; omega, by dsimp only; omega, by dsimp only; omega, by dsimp only; omega, by dsimp only; omega, by dsimp only; omega, by dsimp only; omega, by dsimp only; omega, by dsimp only; omega, by dsimp only; omega⟩] at this

theorem rowOf_any (c : Cf) (w : World) : Calls Try.prog 30 #[c.v] w fun e w' => e = .returned c.v ∧ Below w.heap.size w w' := by
  go_enter Try.func30, Try.ntmps30
  go_wp2
  refine bodyPost_ret (v := c.v) (by simp [results, Try.results30, go_sem]) rfl ⟨rfl, ?_⟩
  exact ((Below.refl _ _).alloc (Nat.le_refl _) _).alloc (by simp) _
theorem conf_any (c : Cf) (w : World) : Calls Try.prog 40 #[c.v] w fun e w' => e = .returned c.v ∧ Below w.heap.size w w' := by
  go_enter Try.func40, Try.ntmps40
  go_wp2
  refine bodyPost_ret (v := c.v) (by simp [results, Try.results40, go_sem]) rfl ⟨rfl, ?_⟩
  exact ((Below.refl _ _).alloc (Nat.le_refl _) _).alloc (by simp) _

theorem check_ok (c : Cf) (w : World) (h : c.Ok) : Calls Try.prog 21 #[c.v] w fun e w' => e = .returned (.int .i64 0) ∧ Below w.heap.size w w' := by
  have KN := fun W => new_ok c W h
  clear h
  go_enter Try.func21, Try.ntmps21
  go_wp2_with fail
  refine (KN _).mono ?_
  rintro e w1 ⟨rfl, hb⟩
  have h0 := below_then ((Below.refl w.heap.size w).alloc (Nat.le_refl _) _) hb (Nat.le_refl _)
  go_wp2
  go_ret
  exact ⟨rfl, h0.alloc h0.size _⟩
theorem check_bad (c : Cf) (w : World) (h : ¬ c.Ok) : Calls Try.prog 21 #[c.v] w fun e w' => e = .returned (.int .i64 6) ∧ Below w.heap.size w w' := by
  have KN := fun W => new_bad c W h
  clear h
  go_enter Try.func21, Try.ntmps21
  go_wp2_with fail
  refine (KN _).mono ?_
  rintro e w1 ⟨rfl, hb⟩
  have h0 := below_then ((Below.refl w.heap.size w).alloc (Nat.le_refl _) _) hb (Nat.le_refl _)
  go_wp2
  go_ret
  exact ⟨rfl, h0.alloc h0.size _⟩

/-- A row's parts, one by one. -/
theorem index_row0 (c : Cf) (w : World) : (Instr.index 60 (.agg c.cs) (.int .i64 0)).run Try.prog w = .ok (.int .i64 c.al) w := by
  simp [Instr.index, run_underlying Try.underlying60, asIntOf, go_sem]
theorem index_row1 (c : Cf) (w : World) : (Instr.index 60 (.agg c.cs) (.int .i64 1)).run Try.prog w = .ok (.int .i64 c.th) w := by
  simp [Instr.index, run_underlying Try.underlying60, asIntOf, go_sem]
theorem index_row2 (c : Cf) (w : World) : (Instr.index 60 (.agg c.cs) (.int .i64 2)).run Try.prog w = .ok (.int .i64 c.nd) w := by
  simp [Instr.index, run_underlying Try.underlying60, asIntOf, go_sem]
theorem index_row3 (c : Cf) (w : World) : (Instr.index 60 (.agg c.cs) (.int .i64 3)).run Try.prog w = .ok (.int .i64 c.lv) w := by
  simp [Instr.index, run_underlying Try.underlying60, asIntOf, go_sem]
theorem index_row4 (c : Cf) (w : World) : (Instr.index 60 (.agg c.cs) (.int .i64 4)).run Try.prog w = .ok (.int .i64 c.ba) w := by
  simp [Instr.index, run_underlying Try.underlying60, asIntOf, go_sem]
theorem index_row5 (c : Cf) (w : World) : (Instr.index 60 (.agg c.cs) (.int .i64 5)).run Try.prog w = .ok (.int .i64 c.pr) w := by
  simp [Instr.index, run_underlying Try.underlying60, asIntOf, go_sem]
theorem index_row6 (c : Cf) (w : World) : (Instr.index 60 (.agg c.cs) (.int .i64 6)).run Try.prog w = .ok (.int .i64 c.sc) w := by
  simp [Instr.index, run_underlying Try.underlying60, asIntOf, go_sem]
end Go.Proofs.Ytdmdmkgpnelkjaa
