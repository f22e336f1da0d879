/- The laid limits; a configuration's parts in a row; Check, sentinels, Near. -/
import Derived.Test.YtdhdomeckloedaaDoorRight
import Derived.Deep.Cut
import Derived.Deep.CutRange
import Derived.Lib.LaidTab
namespace Go.Proofs.YtdhdomeckloedaaDoor
open Go.ChangeShapes Go.WideShapes Go.ChangeAt Go.RowKit
set_option linter.unusedVariables false

/-! ### What the listed variables hold -/
/-- A variable's block, whole. -/
def Glob (w : World) (g : Nat) (cs : Array Value) : Prop := ∃ t f, w.heap[g]? = some (.cells cs t f)
theorem Glob.lt {w : World} {g : Nat} {cs : Array Value} (h : Glob w g cs) : g < w.heap.size := by
  obtain ⟨t, f, h⟩ := h
  exact (Array.getElem?_eq_some_iff.1 h).1
theorem Glob.cell {w : World} {g : Nat} {cs : Array Value} (h : Glob w g cs) (i : Nat) : w.cell? ⟨g, i, none⟩ = cs[i]? := by
  obtain ⟨t, f, h⟩ := h
  exact cell_of_row w g i cs t f h
theorem Glob.below {w w' : World} {g n : Nat} {cs : Array Value} (h : Glob w g cs) (hb : Below n w w') (hn : g < n) : Glob w' g cs := by
  obtain ⟨t, f, h⟩ := h
  exact ⟨t, f, (hb.block g hn).trans h⟩
theorem Glob.of_var {w : World} {name : String} {g : Nat} {cs : Array Value} (hg : Tryd.prog.globalNamed name = some g) (h : w.var? Tryd.prog name = some cs) : Glob w g cs := by
  unfold World.var? at h
  rw [hg] at h
  simp only [Option.bind_some] at h
  split at h
  · rename_i c t f e
    obtain rfl := Option.some.inj h
    exact ⟨t, f, e⟩
  · cases h
abbrev lows : Cf := ⟨0, 1, 1, 1, 1, 1, 1⟩
abbrev tops : Cf := ⟨2, 6, 64, 6, 16, 16, 64⟩
/-- The two rows of limits. -/
structure Lims (w : World) : Prop where
  lo : Glob w 0 lows.cs
  hi : Glob w 1 tops.cs
theorem Lims.below {w w' : World} (h : Lims w) {n : Nat} (hb : Below n w w') (hn : w.heap.size ≤ n) : Lims w' :=
  ⟨h.lo.below hb (Nat.lt_of_lt_of_le h.lo.lt hn), h.hi.below hb (Nat.lt_of_lt_of_le h.hi.lt hn)⟩
theorem Lims.two {w : World} (h : Lims w) : 1 < w.heap.size := h.hi.lt

/-! ### Rows of parts -/
theorem rowOf_any (c : Cf) (w : World) : Calls Tryd.prog 18 #[c.v] w fun e w' => e = .returned c.v ∧ Below w.heap.size w w' := by
  go_enter Tryd.func18, Tryd.ntmps18
  go_wp2
  refine bodyPost_ret (v := c.v) (by simp [results, Tryd.results18, go_sem]) rfl ⟨rfl, ?_⟩
  exact ((Below.refl _ _).alloc (Nat.le_refl _) _).alloc (by simp) _
theorem conf_any (c : Cf) (w : World) : Calls Tryd.prog 20 #[c.v] w fun e w' => e = .returned c.v ∧ Below w.heap.size w w' := by
  go_enter Tryd.func20, Tryd.ntmps20
  go_wp2
  refine bodyPost_ret (v := c.v) (by simp [results, Tryd.results20, go_sem]) rfl ⟨rfl, ?_⟩
  exact ((Below.refl _ _).alloc (Nat.le_refl _) _).alloc (by simp) _

/-! ### Check -/
theorem check_ok (c : Cf) (w : World) (h : c.Ok) : Calls Tryd.prog 8 #[c.v] w fun e w' => e = .returned (.int .i64 0) ∧ Below w.heap.size w w' := by
  have KN := fun W => new_ok c W h
  clear h
  go_enter Tryd.func8, Tryd.ntmps8
  go_wp2_with fail
  refine (KN _).mono ?_
  rintro e w1 ⟨rfl, hb⟩
  have h0 := below_then ((Below.refl w.heap.size w).alloc (Nat.le_refl _) _) hb (Nat.le_refl _)
  go_wp2
  go_ret
  exact ⟨rfl, h0.alloc h0.size _⟩
theorem check_bad (c : Cf) (w : World) (h : ¬ c.Ok) : Calls Tryd.prog 8 #[c.v] w fun e w' => e = .returned (.int .i64 6) ∧ Below w.heap.size w w' := by
  have KN := fun W => new_bad c W h
  clear h
  go_enter Tryd.func8, Tryd.ntmps8
  go_wp2_with fail
  refine (KN _).mono ?_
  rintro e w1 ⟨rfl, hb⟩
  have h0 := below_then ((Below.refl w.heap.size w).alloc (Nat.le_refl _) _) hb (Nat.le_refl _)
  go_wp2
  go_ret
  exact ⟨rfl, h0.alloc h0.size _⟩

/-! ### sentinels -/
theorem tops_ok {al : Int} (h0 : 0 ≤ al) (h1 : al ≤ 2) : Cf.Ok ⟨al, 6, 64, 6, 16, 16, 64⟩ := by
  have := sent_in al
  refine ⟨?_, ?_, ?_, ?_, ?_, ?_, ?_, ?_, ?_, ?_, ?_, ?_, ?_, ?_⟩ <;> dsimp only <;> omega
theorem sents_any (al : Int) (h0 : 0 ≤ al) (h1 : al ≤ 2) (w : World) (hl : Lims w) : Calls Tryd.prog 19 #[.int .i64 al] w fun e w' => e = .returned (.int .i64 (sent al)) ∧ Below w.heap.size w w' := by
  have KN := fun W => new_ok _ W (tops_ok h0 h1)
  obtain ⟨x0, x1, x2, x3, x4, x5, x6⟩ : w.cell? ⟨1, 0, none⟩ = some (.int .i64 2) ∧ w.cell? ⟨1, 1, none⟩ = some (.int .i64 6) ∧ w.cell? ⟨1, 2, none⟩ = some (.int .i64 64) ∧ w.cell? ⟨1, 3, none⟩ = some (.int .i64 6) ∧ w.cell? ⟨1, 4, none⟩ = some (.int .i64 16) ∧ w.cell? ⟨1, 5, none⟩ = some (.int .i64 16) ∧ w.cell? ⟨1, 6, none⟩ = some (.int .i64 64) :=
    ⟨hl.hi.cell 0, hl.hi.cell 1, hl.hi.cell 2, hl.hi.cell 3, hl.hi.cell 4, hl.hi.cell 5, hl.hi.cell 6⟩
  have h2 := hl.two
  clear h0 h1 hl
  go_enter Tryd.func19, Tryd.ntmps19
  go_wp2_with fail
  refine (conf_any ⟨al, 6, 64, 6, 16, 16, 64⟩ _).mono ?_
  rintro e V ⟨rfl, hb⟩
  have h0 := below_then (((Below.refl w.heap.size w).alloc (Nat.le_refl _) _)) hb (Nat.le_refl _)
  go_wp2_with fail
  refine (KN _).mono ?_
  rintro e V1 ⟨rfl, hb1⟩
  have h1 := below_then h0 hb1 (Nat.le_refl _)
  go_wp2_with fail
  refine (sentinelsM_any ⟨al, 6, 64, 6, 16, 16, 64⟩ _).mono ?_
  rintro e V2 ⟨rfl, hb2⟩
  have h3 := below_then (h1.alloc h1.size _) hb2 (Nat.le_refl _)
  go_wp2
  go_ret
  exact ⟨rfl, h3⟩

/-! ### Near -/
def minI (n hi : Int) : Int := if hi < n then hi else n
def maxI (lo m : Int) : Int := if lo < m then m else lo
theorem near_eq (n lo hi : Int) : nearN n lo hi = maxI lo (minI n hi) := rfl
/-- The parts when the first k of them have been made near; of Nodes, the sentinels have not had their say. -/
def Cf.upto (c : Cf) (k : Nat) : Cf := ⟨if 0 < k then maxI 0 (minI c.al 2) else c.al, if 1 < k then maxI 1 (minI c.th 6) else c.th, if 2 < k then maxI 1 (minI c.nd 64) else c.nd, if 3 < k then maxI 1 (minI c.lv 6) else c.lv, if 4 < k then maxI 1 (minI c.ba 16) else c.ba, if 5 < k then maxI 1 (minI c.pr 16) else c.pr, if 6 < k then maxI 1 (minI c.sc 64) else c.sc⟩
def Cf.seven (c : Cf) : Cf := ⟨nearN c.al 0 2, nearN c.th 1 6, nearN c.nd 1 64, nearN c.lv 1 6, nearN c.ba 1 16, nearN c.pr 1 16, nearN c.sc 1 64⟩
/-- The configuration near any one. -/
def Cf.nigh (c : Cf) : Cf := ⟨nearN c.al 0 2, nearN c.th 1 6, maxI (nearN c.nd 1 64) (sent (nearN c.al 0 2) + 1), nearN c.lv 1 6, nearN c.ba 1 16, nearN c.pr 1 16, nearN c.sc 1 64⟩
/-- Amid Near: the row's box R, the answer's box A. -/
structure NearS (w : World) (A R : Nat) (d : Cf) (W : World) : Prop where
  row : Blk W R 41 d.cs
  ans : Blk W A 23 zc.cs
  lim : Lims W
  bel : Below w.heap.size w W
theorem NearS.ten {w : World} {A R : Nat} {d : Cf} {W : World} (h : NearS w A R d W) : (W.cell? ⟨0, 0, none⟩ = some (.int .i64 0) ∧ W.cell? ⟨0, 1, none⟩ = some (.int .i64 1) ∧ W.cell? ⟨0, 2, none⟩ = some (.int .i64 1) ∧ W.cell? ⟨0, 3, none⟩ = some (.int .i64 1) ∧ W.cell? ⟨0, 4, none⟩ = some (.int .i64 1) ∧ W.cell? ⟨0, 5, none⟩ = some (.int .i64 1) ∧ W.cell? ⟨0, 6, none⟩ = some (.int .i64 1)) ∧
    W.cell? ⟨1, 0, none⟩ = some (.int .i64 2) ∧ W.cell? ⟨1, 1, none⟩ = some (.int .i64 6) ∧ W.cell? ⟨1, 2, none⟩ = some (.int .i64 64) ∧ W.cell? ⟨1, 3, none⟩ = some (.int .i64 6) ∧ W.cell? ⟨1, 4, none⟩ = some (.int .i64 16) ∧ W.cell? ⟨1, 5, none⟩ = some (.int .i64 16) ∧ W.cell? ⟨1, 6, none⟩ = some (.int .i64 64) :=
  ⟨⟨h.lim.lo.cell 0, h.lim.lo.cell 1, h.lim.lo.cell 2, h.lim.lo.cell 3, h.lim.lo.cell 4, h.lim.lo.cell 5, h.lim.lo.cell 6⟩, h.lim.hi.cell 0, h.lim.hi.cell 1, h.lim.hi.cell 2, h.lim.hi.cell 3, h.lim.hi.cell 4, h.lim.hi.cell 5, h.lim.hi.cell 6⟩
theorem Lims.set {W : World} (h : Lims W) {R : Nat} (hR : 1 < R) (i : Nat) (u : Value) : Lims (W.setCell ⟨R, i, none⟩ u) := by
  obtain ⟨⟨t, f, a⟩, t', f', b⟩ := h
  exact ⟨⟨t, f, (Below.heap_setCell _ _ _ _ (Nat.ne_of_lt (Nat.lt_trans (by decide) hR))).trans a⟩, ⟨t', f', (Below.heap_setCell _ _ _ _ (Nat.ne_of_lt hR)).trans b⟩⟩
theorem NearS.set {w : World} {A R : Nat} {d : Cf} {W : World} (h : NearS w A R d W) (hAR : A ≠ R) (hR : w.heap.size ≤ R) (h2 : 1 < w.heap.size) (i : Nat) (u : Value) (d' : Cf) (e : d.cs.setIfInBounds i u = d'.cs) : NearS w A R d' (W.setCell ⟨R, i, none⟩ u) :=
  ⟨e ▸ h.row.set i u, h.ans.far hAR u, h.lim.set (Nat.lt_of_lt_of_le h2 hR) i u, h.bel.setCell hR u⟩
theorem NearS.below {w : World} {A R : Nat} {d : Cf} {W W' : World} (h : NearS w A R d W) (hb : Below W.heap.size W W') : NearS w A R d W' :=
  ⟨h.row.below hb h.row.lt, h.ans.below hb h.ans.lt, h.lim.below hb (Nat.le_refl _), below_then h.bel hb (Nat.le_refl _)⟩
theorem NearS.drewN {w : World} {A R : Nat} {d : Cf} {W : World} (h : NearS w A R d W) (n : Nat) : NearS w A R d (W.drewN n) := ⟨h.row, h.ans, ⟨h.lim.lo, h.lim.hi⟩, below_drewN h.bel n⟩
theorem NearS.drew {w : World} {A R : Nat} {d : Cf} {W : World} (h : NearS w A R d W) : NearS w A R d W.drew := ⟨h.row, h.ans, ⟨h.lim.lo, h.lim.hi⟩, below_drew1 h.bel⟩

/-- A row's parts, one by one. -/
theorem index_row0 (c : Cf) (w : World) : (Instr.index 41 (.agg c.cs) (.int .i64 0)).run Tryd.prog w = .ok (.int .i64 c.al) w := by
  simp [Instr.index, run_underlying Tryd.underlying41, asIntOf, go_sem]
theorem index_row1 (c : Cf) (w : World) : (Instr.index 41 (.agg c.cs) (.int .i64 1)).run Tryd.prog w = .ok (.int .i64 c.th) w := by
  simp [Instr.index, run_underlying Tryd.underlying41, asIntOf, go_sem]
theorem index_row2 (c : Cf) (w : World) : (Instr.index 41 (.agg c.cs) (.int .i64 2)).run Tryd.prog w = .ok (.int .i64 c.nd) w := by
  simp [Instr.index, run_underlying Tryd.underlying41, asIntOf, go_sem]
theorem index_row3 (c : Cf) (w : World) : (Instr.index 41 (.agg c.cs) (.int .i64 3)).run Tryd.prog w = .ok (.int .i64 c.lv) w := by
  simp [Instr.index, run_underlying Tryd.underlying41, asIntOf, go_sem]
theorem index_row4 (c : Cf) (w : World) : (Instr.index 41 (.agg c.cs) (.int .i64 4)).run Tryd.prog w = .ok (.int .i64 c.ba) w := by
  simp [Instr.index, run_underlying Tryd.underlying41, asIntOf, go_sem]
theorem index_row5 (c : Cf) (w : World) : (Instr.index 41 (.agg c.cs) (.int .i64 5)).run Tryd.prog w = .ok (.int .i64 c.pr) w := by
  simp [Instr.index, run_underlying Tryd.underlying41, asIntOf, go_sem]
theorem index_row6 (c : Cf) (w : World) : (Instr.index 41 (.agg c.cs) (.int .i64 6)).run Tryd.prog w = .ok (.int .i64 c.sc) w := by
  simp [Instr.index, run_underlying Tryd.underlying41, asIntOf, go_sem]
set_option maxRecDepth 100000 in
set_option maxHeartbeats 8000000 in
theorem near_any (c : Cf) (w : World) (hl : Lims w) : Calls Tryd.prog 7 #[c.v] w fun e w' => e = .returned c.nigh.v ∧ Below w.heap.size w w' := by
  have q0 := nearN_in (n := c.al) (lo := 0) (hi := 2) (by omega)
  have HR := Lib.hid (rowOf_any c)
  have HC := Lib.hid (conf_any)
  have h2 := hl.two
  have qmin : ∀ n hi w, (Builtin.min_ #[3, 3] 3 #[.int .i64 n, .int .i64 hi]).run Tryd.prog w = .ok (.int .i64 (minI n hi)) w := fun n hi w => by simp [Builtin.min_, Builtin.min2, minI]
  have qmax : ∀ lo n w, (Builtin.max_ #[3, 3] 3 #[.int .i64 lo, .int .i64 n]).run Tryd.prog w = .ok (.int .i64 (maxI lo n)) w := fun lo n w => by simp [Builtin.max_, Builtin.max2, maxI]
  have HQ : ∀ W, Lims W → Calls Tryd.prog 19 #[.int .i64 (nearN c.al 0 2)] W fun e w' => e = .returned (.int .i64 (sent (nearN c.al 0 2))) ∧ Below W.heap.size W w' := fun W h => sents_any _ q0.1 q0.2 W h
  have hse : IntKind.i64.wrap (sent (nearN c.al 0 2) + 1) = sent (nearN c.al 0 2) + 1 := by
    unfold sent
    split <;> rfl
  have hfin : c.nigh = ⟨nearN c.al 0 2, nearN c.th 1 6, maxI (nearN c.nd 1 64) (sent (nearN c.al 0 2) + 1), nearN c.lv 1 6, nearN c.ba 1 16, nearN c.pr 1 16, nearN c.sc 1 64⟩ := rfl
  rw [hfin]
  clear hfin
  generalize sent (nearN c.al 0 2) = se at *
  go_enter Tryd.func7, Tryd.ntmps7
  go_wp2_with fail
  refine (HR.out _).mono ?_
  rintro e V ⟨rfl, hb⟩
  have S0 : NearS w (w.heap.size + 1) V.heap.size c (V.alloc (.cells c.cs 41)) := by
    have b1 : Below w.heap.size w ((w.alloc (.cells c.cs 23)).alloc (.cells zc.cs 23)) := ((Below.refl _ _).alloc (Nat.le_refl _) _).alloc (by simp) _
    have b2 := below_then b1 hb (Nat.le_refl _)
    have a1 := Blk.new (w.alloc (.cells c.cs 23)) 23 zc.cs
    simp only [World.size_alloc] at a1
    have a2 := (a1.below hb (by simp)).alloc (.cells c.cs 41)
    have b3 := b2.alloc b2.size (.cells c.cs 41)
    exact ⟨Blk.new _ _ _, a2, hl.below b3 (Nat.le_refl _), b3⟩
  have hAR : w.heap.size + 1 ≠ V.heap.size := by have := hb.size; simp at this; omega
  have hA : w.heap.size ≤ w.heap.size + 1 := by omega
  have hR : w.heap.size ≤ V.heap.size := by have := hb.size; simp at this; omega
  have HS := Lib.hid S0
  clear S0 hb
  go_wp2_with fail
  generalize w.heap.size + 1 = A at *
  generalize V.heap.size = R at *
  go_loopw [9] (fun i W => ∃ k : Nat, k ≤ 7 ∧ i = .int .i64 k ∧ Hid (NearS w A R (c.upto k) W)) (fun i _ => 7 - (intOf i).toNat)
  case atStart => exact ⟨0, by omega, rfl, HS⟩
  case round =>
    obtain ⟨k, hk, rfl, HS⟩ := hrel
    have h7 : k = 0 ∨ k = 1 ∨ k = 2 ∨ k = 3 ∨ k = 4 ∨ k = 5 ∨ k = 6 ∨ k = 7 := by omega
    clear hk
    rcases h7 with rfl | rfl | rfl | rfl | rfl | rfl | rfl | rfl
    focus
      have hx := index_row0 c
      go_wp2_with fail
      obtain ⟨⟨x0, x1, x2, x3, x4, x5, x6⟩, y0, y1, y2, y3, y4, y5, y6⟩ := HS.out.ten
      have hR2 : (1 : Nat) ≠ R := by omega
      have hR0 : (0 : Nat) ≠ R := by omega
      obtain ⟨z0, z1, z2, z3, z4, z5, z6⟩ := HS.out.row.conf
      have zf := HS.out.row.frozen 0
      go_region
      go_wp2
      exact ⟨⟨1, by omega, rfl, Lib.hid ((HS.out.set hAR hR h2 0 _ (c.upto 1) (by simp [Cf.upto])).drew)⟩, by simp [intOf]⟩
    focus
      have hx := index_row1 c
      go_wp2_with fail
      obtain ⟨⟨x0, x1, x2, x3, x4, x5, x6⟩, y0, y1, y2, y3, y4, y5, y6⟩ := HS.out.ten
      have hR2 : (1 : Nat) ≠ R := by omega
      have hR0 : (0 : Nat) ≠ R := by omega
      obtain ⟨z0, z1, z2, z3, z4, z5, z6⟩ := HS.out.row.conf
      have zf := HS.out.row.frozen 1
      go_region
      go_wp2
      exact ⟨⟨2, by omega, rfl, Lib.hid ((HS.out.set hAR hR h2 1 _ (c.upto 2) (by simp [Cf.upto])).drew)⟩, by simp [intOf]⟩
    focus
      have hx := index_row2 c
      go_wp2_with fail
      obtain ⟨⟨x0, x1, x2, x3, x4, x5, x6⟩, y0, y1, y2, y3, y4, y5, y6⟩ := HS.out.ten
      have hR2 : (1 : Nat) ≠ R := by omega
      have hR0 : (0 : Nat) ≠ R := by omega
      obtain ⟨z0, z1, z2, z3, z4, z5, z6⟩ := HS.out.row.conf
      have zf := HS.out.row.frozen 2
      go_region
      go_wp2
      exact ⟨⟨3, by omega, rfl, Lib.hid ((HS.out.set hAR hR h2 2 _ (c.upto 3) (by simp [Cf.upto])).drew)⟩, by simp [intOf]⟩
    focus
      have hx := index_row3 c
      go_wp2_with fail
      obtain ⟨⟨x0, x1, x2, x3, x4, x5, x6⟩, y0, y1, y2, y3, y4, y5, y6⟩ := HS.out.ten
      have hR2 : (1 : Nat) ≠ R := by omega
      have hR0 : (0 : Nat) ≠ R := by omega
      obtain ⟨z0, z1, z2, z3, z4, z5, z6⟩ := HS.out.row.conf
      have zf := HS.out.row.frozen 3
      go_region
      go_wp2
      exact ⟨⟨4, by omega, rfl, Lib.hid ((HS.out.set hAR hR h2 3 _ (c.upto 4) (by simp [Cf.upto])).drew)⟩, by simp [intOf]⟩
    focus
      have hx := index_row4 c
      go_wp2_with fail
      obtain ⟨⟨x0, x1, x2, x3, x4, x5, x6⟩, y0, y1, y2, y3, y4, y5, y6⟩ := HS.out.ten
      have hR2 : (1 : Nat) ≠ R := by omega
      have hR0 : (0 : Nat) ≠ R := by omega
      obtain ⟨z0, z1, z2, z3, z4, z5, z6⟩ := HS.out.row.conf
      have zf := HS.out.row.frozen 4
      go_region
      go_wp2
      exact ⟨⟨5, by omega, rfl, Lib.hid ((HS.out.set hAR hR h2 4 _ (c.upto 5) (by simp [Cf.upto])).drew)⟩, by simp [intOf]⟩
    focus
      have hx := index_row5 c
      go_wp2_with fail
      obtain ⟨⟨x0, x1, x2, x3, x4, x5, x6⟩, y0, y1, y2, y3, y4, y5, y6⟩ := HS.out.ten
      have hR2 : (1 : Nat) ≠ R := by omega
      have hR0 : (0 : Nat) ≠ R := by omega
      obtain ⟨z0, z1, z2, z3, z4, z5, z6⟩ := HS.out.row.conf
      have zf := HS.out.row.frozen 5
      go_region
      go_wp2
      exact ⟨⟨6, by omega, rfl, Lib.hid ((HS.out.set hAR hR h2 5 _ (c.upto 6) (by simp [Cf.upto])).drew)⟩, by simp [intOf]⟩
    focus
      have hx := index_row6 c
      go_wp2_with fail
      obtain ⟨⟨x0, x1, x2, x3, x4, x5, x6⟩, y0, y1, y2, y3, y4, y5, y6⟩ := HS.out.ten
      have hR2 : (1 : Nat) ≠ R := by omega
      have hR0 : (0 : Nat) ≠ R := by omega
      obtain ⟨z0, z1, z2, z3, z4, z5, z6⟩ := HS.out.row.conf
      have zf := HS.out.row.frozen 6
      go_region
      go_wp2
      exact ⟨⟨7, by omega, rfl, Lib.hid ((HS.out.set hAR hR h2 6 _ (c.upto 7) (by simp [Cf.upto])).drew)⟩, by simp [intOf]⟩
    focus
      have e7 : c.upto 7 = c.seven := by simp [Cf.upto, Cf.seven, near_eq]
      rw [e7] at HS
      clear e7
      go_wp2_with fail
      obtain ⟨z0, z1, z2, z3, z4, z5, z6⟩ := HS.out.row.conf
      have zf := HS.out.row.frozen 2
      have HS1 := HS.out.drew
      dsimp only [Cf.seven] at z0 z1 z2 z3 z4 z5 z6
      go_region_with (go_at_call 19; refine (HQ _ (NearS.lim (by assumption))).mono ?_; rintro e V' ⟨rfl, hb'⟩; have S' := NearS.below HS1 hb'; clear hb'; have zf' := Blk.frozen (NearS.row S') 2; obtain ⟨z0', z1', z2', z3', z4', z5', z6'⟩ := Blk.conf (NearS.row S'); dsimp only [Cf.seven] at z0' z1' z2' z3' z4' z5' z6')
      all_goals
        have T' := (S'.set hAR hR h2 2 (.int .i64 (maxI (nearN c.nd 1 64) (se + 1))) ⟨nearN c.al 0 2, nearN c.th 1 6, maxI (nearN c.nd 1 64) (se + 1), nearN c.lv 1 6, nearN c.ba 1 16, nearN c.pr 1 16, nearN c.sc 1 64⟩ rfl)
        clear S' HS1 HS zf' z0' z1' z2' z3' z4' z5' z6'
        generalize (V'.setCell _ _) = U at *
        obtain ⟨z0', z1', z2', z3', z4', z5', z6'⟩ := T'.row.conf
        dsimp only at z0' z1' z2' z3' z4' z5' z6'
        go_wp2_with fail
        refine (HC.out ⟨nearN c.al 0 2, nearN c.th 1 6, maxI (nearN c.nd 1 64) (se + 1), nearN c.lv 1 6, nearN c.ba 1 16, nearN c.pr 1 16, nearN c.sc 1 64⟩ _).mono ?_
        rintro e X ⟨rfl, hb⟩
        have X' := NearS.below T' hb
        obtain ⟨a0, a1, a2, a3, a4, a5, a6⟩ := X'.ans.conf
        have af := X'.ans.frozen
        have hA0 : w.heap.size ≤ A := hA
        go_wp2_with fail
        refine bodyPost_ret (v := Cf.v ⟨nearN c.al 0 2, nearN c.th 1 6, maxI (nearN c.nd 1 64) (se + 1), nearN c.lv 1 6, nearN c.ba 1 16, nearN c.pr 1 16, nearN c.sc 1 64⟩) (by simp [results, Tryd.results7, go_sem, a0, a1, a2, a3, a4, a5, a6]) rfl ⟨rfl, ?_⟩
        exact ((((((X'.bel.setCell hA0 _).setCell hA0 _).setCell hA0 _).setCell hA0 _).setCell hA0 _).setCell hA0 _).setCell hA0 _
end Go.Proofs.YtdhdomeckloedaaDoor
