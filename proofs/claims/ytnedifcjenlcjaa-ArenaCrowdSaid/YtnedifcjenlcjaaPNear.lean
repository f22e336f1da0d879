/- nearest, New. -/
import Derived.Test.YtnedifcjenlcjaaPBase
namespace Go.Proofs.Ytnedifcjenlcjaa.P
open Go.ChangeShapes Go.WideShapes Go.ChangeAt Go.RowKit
set_option linter.unusedVariables false
set_option maxRecDepth 20000


set_option maxRecDepth 100000 in
set_option maxHeartbeats 4000000 in
theorem nearest_any (c : Cf) (w : World) : Calls Try.prog 38 #[c.v] w fun e w' => e = .returned c.near.v ∧ Below w.heap.size w w' := by
  obtain ⟨al, th, nd, lv, ba, pr, sc⟩ := c
  have hs : IntKind.i64.wrap (sent al + 1) = sent al + 1 := by
    unfold sent
    split <;> rfl
  go_enter Try.func38, Try.ntmps38
  go_wp2
  refine wp_tail 26 (by kernel_rfl) (by kernel_rfl) ?_
  simp only [List.take_succ_cons, List.take_zero, List.drop_succ_cons, List.drop_zero]
  still_step
  still_step
  still_call (within_any _ _ _ _)
  still_step
  still_step
  still_call (within_any _ _ _ _)
  still_step
  still_step
  still_step
  still_step
  still_call (sentinels_any _ _)
  still_step
  still_call (within_any _ _ _ _)
  still_step
  still_step
  still_call (within_any _ _ _ _)
  still_step
  still_step
  still_call (within_any _ _ _ _)
  still_step
  still_step
  still_call (within_any _ _ _ _)
  still_step
  still_step
  still_call (within_any _ _ _ _)
  still_step
  refine wpStill_nil ?_
  go_wp2
  refine bodyPost_ret (v := Cf.v (Cf.near ⟨al, th, nd, lv, ba, pr, sc⟩)) (by simp [results, Try.results38, go_sem, Cf.near]) rfl ⟨rfl, ?_⟩
  exact (((Below.refl _ _).alloc (Nat.le_refl _) _).alloc (by simp) _).drew

/-- A block known whole stays so. -/
def Blk (W : World) (g : Nat) (t : TypeId) (cs : Array Value) : Prop := W.heap[g]? = some (.cells cs t (0, 0))
theorem Blk.lt {W : World} {g : Nat} {t : TypeId} {cs : Array Value} (h : Blk W g t cs) : g < W.heap.size := (Array.getElem?_eq_some_iff.1 h).1
theorem Blk.cell {W : World} {g : Nat} {t : TypeId} {cs : Array Value} (h : Blk W g t cs) (i : Nat) : W.cell? ⟨g, i, none⟩ = cs[i]? := cell_of_row W g i cs t (0, 0) h
theorem Blk.frozen {W : World} {g : Nat} {t : TypeId} {cs : Array Value} (h : Blk W g t cs) (i : Nat) : W.frozen? ⟨g, i, none⟩ = false := by
  unfold Blk at h
  simp [World.frozen?, h]
theorem Blk.agree {W W' : World} {g : Nat} {t : TypeId} {cs : Array Value} (h : Blk W g t cs) (e : W'.heap[g]? = W.heap[g]?) : Blk W' g t cs := e.trans h
theorem Blk.new (W : World) (t : TypeId) (cs : Array Value) : Blk (W.alloc (.cells cs t)) W.heap.size t cs := heap_alloc_new W _
theorem Blk.alloc {W : World} {g : Nat} {t : TypeId} {cs : Array Value} (h : Blk W g t cs) (o : Obj) : Blk (W.alloc o) g t cs := h.agree (Below.heap_alloc _ _ _ h.lt)
theorem Blk.below {W W' : World} {g n : Nat} {t : TypeId} {cs : Array Value} (h : Blk W g t cs) (hb : Below n W W') (hn : g < n) : Blk W' g t cs := h.agree (hb.block g hn)
theorem Blk.drew {W : World} {g : Nat} {t : TypeId} {cs : Array Value} (h : Blk W g t cs) : Blk W.drew g t cs := h
theorem Blk.set {W : World} {g : Nat} {t : TypeId} {cs : Array Value} (h : Blk W g t cs) (i : Nat) (u : Value) : Blk (W.setCell ⟨g, i, none⟩ u) g t (cs.setIfInBounds i u) := by
  unfold Blk at h ⊢
  simp [World.setCell, Array.getElem?_modify, h]
theorem Blk.far {W : World} {g : Nat} {t : TypeId} {cs : Array Value} (h : Blk W g t cs) {p : Addr} (hp : g ≠ p.block) (u : Value) : Blk (W.setCell p u) g t cs := h.agree (Below.heap_setCell _ _ _ _ hp)
/-- The seven cells of a configuration. -/
theorem Blk.conf {W : World} {g : Nat} {t : TypeId} {c : Cf} (h : Blk W g t c.cs) : W.cell? ⟨g, 0, none⟩ = some (.int .i64 c.al) ∧ W.cell? ⟨g, 1, none⟩ = some (.int .i64 c.th) ∧ W.cell? ⟨g, 2, none⟩ = some (.int .i64 c.nd) ∧ W.cell? ⟨g, 3, none⟩ = some (.int .i64 c.lv) ∧
    W.cell? ⟨g, 4, none⟩ = some (.int .i64 c.ba) ∧ W.cell? ⟨g, 5, none⟩ = some (.int .i64 c.pr) ∧ W.cell? ⟨g, 6, none⟩ = some (.int .i64 c.sc) :=
  ⟨by rw [h.cell]; rfl, by rw [h.cell]; rfl, by rw [h.cell]; rfl, by rw [h.cell]; rfl, by rw [h.cell]; rfl, by rw [h.cell]; rfl, by rw [h.cell]; rfl⟩

theorem below_drew1 {n : Nat} {A W : World} (h : Below n A W) : Below n A W.drew := ⟨h.os, h.tape, h.output, h.size, h.block⟩

/-! ### Two configurations compared -/
def Cf.eqB (c d : Cf) : Bool := c.al == d.al && c.th == d.th && c.nd == d.nd && c.lv == d.lv && c.ba == d.ba && c.pr == d.pr && c.sc == d.sc
theorem Cf.eqB_true {c d : Cf} : c.eqB d = true ↔ c = d := by
  obtain ⟨a1, a2, a3, a4, a5, a6, a7⟩ := c
  obtain ⟨b1, b2, b3, b4, b5, b6, b7⟩ := d
  simp [Cf.eqB, and_assoc]
theorem Cf.eqB_self (c : Cf) : c.eqB c = true := Cf.eqB_true.2 rfl
theorem Cf.eqB_false {c d : Cf} (h : c ≠ d) : c.eqB d = false := by
  cases hb : c.eqB d with
  | false => rfl
  | true => exact (h (Cf.eqB_true.1 hb)).elim
theorem eq_conf (c d : Cf) (w : World) : (Op.equalIn 10000 23 c.v d.v).run Try.prog w = .ok (c.eqB d) w := by
  obtain ⟨a1, a2, a3, a4, a5, a6, a7⟩ := c
  obtain ⟨b1, b2, b3, b4, b5, b6, b7⟩ := d
  simp [go_sem, Cf.eqB]
  by_cases h1 : a1 = b1 <;> by_cases h2 : a2 = b2 <;> by_cases h3 : a3 = b3 <;> by_cases h4 : a4 = b4 <;> by_cases h5 : a5 = b5 <;> by_cases h6 : a6 = b6 <;> by_cases h7 : a7 = b7 <;> simp [h1, h2, h3, h4, h5, h6, h7]
end Go.Proofs.Ytnedifcjenlcjaa.P
