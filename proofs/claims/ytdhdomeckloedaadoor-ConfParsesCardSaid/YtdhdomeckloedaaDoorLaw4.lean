/- ConfCodes's walk. -/
import Derived.Test.YtdhdomeckloedaaDoorLaw1
import Derived.Test.YtdhdomeckloedaaDoorSlices
import Derived.Test.YtdhdomeckloedaaDoorRead
import Derived.BigRegion
namespace Go.Proofs.YtdhdomeckloedaaDoor
open Go.ChangeShapes Go.WideShapes Go.ChangeAt Go.RowKit
set_option linter.unusedVariables false
set_option linter.unusedSimpArgs false

/-- What a law answers. -/
abbrev Good (w : World) (e : Ending) (w' : World) : Prop := e = .returned (.bool true) ∧ Below w.heap.size w w'

theorem codes_far (a : Option Addr) (n cap : Nat) (w : World) (hl : Lims w) (h : 200 < n) : Calls Tryd.prog 6 #[.slice a n cap] w (Good w) := by
  have g : (200 : Int) < n := by omega
  have KL := lives_any w hl
  go_enter Tryd.func6, Tryd.ntmps6
  go_wp2_with fail
  refine KL.mono ?_
  rintro e V ⟨rfl, hb⟩
  go_wp2
  go_ret
  exact ⟨rfl, hb⟩
set_option maxHeartbeats 2000000 in
theorem codes_short (a : Option Addr) (n cap : Nat) (w : World) (hl : Lims w) (h : n < 7) : Calls Tryd.prog 6 #[.slice a n cap] w (Good w) := by
  have g1 : ¬ (200 : Int) < n := by omega
  have g2 : (n : Int) < 7 := by omega
  have KD := decode_short a n cap w h
  have KL := fun W hb => lives_any W (hl.below (w' := W) (n := w.heap.size) hb (Nat.le_refl _))
  have hq : ∀ w, (Op.equalIn 10000 23 zc.v zc.v).run Tryd.prog w = .ok true w := fun w => by rw [eq_conf, Cf.eqB_self]
  clear h hl
  go_enter Tryd.func6, Tryd.ntmps6
  go_wp2_with fail
  refine KD.mono ?_
  rintro e V ⟨rfl, hb⟩
  have hb1 := hb.alloc hb.size (.cells zc.cs 23)
  clear hb KD
  go_wp2_with fail
  generalize (V.alloc (.cells zc.cs 23)) = V2 at *
  refine (KL _ hb1).mono ?_
  rintro e V3 ⟨rfl, hb2⟩
  go_wp2
  go_ret
  exact ⟨rfl, below_then hb1 hb2 (Nat.le_refl _)⟩

/-- Amid ConfCodes: what was decoded C, what should have been D. -/
structure CodS (c d : Cf) (w : World) (C D : Nat) (W : World) : Prop where
  q : Blk W C 23 c.cs
  p : Blk W D 23 d.cs
  bel : Below w.heap.size w W
theorem CodS.below {c d : Cf} {w : World} {C D : Nat} {W W1 : World} (h : CodS c d w C D W) (hb : Below W.heap.size W W1) : CodS c d w C D W1 :=
  ⟨h.q.below hb h.q.lt, h.p.below hb h.p.lt, below_then h.bel hb (Nat.le_refl _)⟩
theorem CodS.drew {c d : Cf} {w : World} {C D : Nat} {W : World} (h : CodS c d w C D W) : CodS c d w C D W.drew := ⟨h.q, h.p, below_drew1 h.bel⟩
theorem CodS.cells {c d : Cf} {w : World} {C D : Nat} {W : World} (h : CodS c d w C D W) : W.cell? ⟨C, 0, none⟩ = some (.int .i64 c.al) ∧ W.cell? ⟨C, 1, none⟩ = some (.int .i64 c.th) ∧ W.cell? ⟨C, 2, none⟩ = some (.int .i64 c.nd) ∧ W.cell? ⟨C, 3, none⟩ = some (.int .i64 c.lv) ∧ W.cell? ⟨C, 4, none⟩ = some (.int .i64 c.ba) ∧ W.cell? ⟨C, 5, none⟩ = some (.int .i64 c.pr) ∧ W.cell? ⟨C, 6, none⟩ = some (.int .i64 c.sc) ∧ W.cell? ⟨D, 0, none⟩ = some (.int .i64 d.al) ∧ W.cell? ⟨D, 1, none⟩ = some (.int .i64 d.th) ∧ W.cell? ⟨D, 2, none⟩ = some (.int .i64 d.nd) ∧ W.cell? ⟨D, 3, none⟩ = some (.int .i64 d.lv) ∧ W.cell? ⟨D, 4, none⟩ = some (.int .i64 d.ba) ∧ W.cell? ⟨D, 5, none⟩ = some (.int .i64 d.pr) ∧ W.cell? ⟨D, 6, none⟩ = some (.int .i64 d.sc) := by
  obtain ⟨a0, a1, a2, a3, a4, a5, a6⟩ := h.q.conf
  exact ⟨a0, a1, a2, a3, a4, a5, a6, h.p.conf⟩

set_option maxRecDepth 100000 in
set_option maxHeartbeats 32000000 in
/-- The part of ConfCodes that all long ones go through: what was decoded is c, with the error e; what should have been is laid in D. -/
theorem codes_long (x : Addr) (n cap : Nat) (bs : List Int) (w : World) (hl : Lims w) (hr : Rd w (some x) n cap bs) (h1 : 7 ≤ n) (h2 : n ≤ 200) (c : Cf) (er : Int)
    (KD : Calls Tryd.prog 16 #[.slice (some x) n cap] w fun e w' => e = .returned (.tuple #[c.v, .int .i64 er]) ∧ Below w.heap.size w w')
    (hok : (ofB bs).Ok → c = ofB bs ∧ er = 0) (hbad : ¬ (ofB bs).Ok → c = zc ∧ er = 6) :
    Calls Tryd.prog 6 #[.slice (some x) n cap] w (Good w) := by
  have g1 : ¬ (200 : Int) < n := by omega
  have g2 : ¬ (n : Int) < 7 := by omega
  have hcap := hr.room
  unfold maxLen at hcap
  have n0 : (0 : Int) < n := by omega
  have w0 : IntKind.i64.wrap (byteAt bs 0) = byteAt bs 0 := by
    have := hr.bytes 0
    exact IntWalk.i64_in _ (by omega)
  have n1 : (1 : Int) < n := by omega
  have w1 : IntKind.i64.wrap (byteAt bs 1) = byteAt bs 1 := by
    have := hr.bytes 1
    exact IntWalk.i64_in _ (by omega)
  have n2 : (2 : Int) < n := by omega
  have w2 : IntKind.i64.wrap (byteAt bs 2) = byteAt bs 2 := by
    have := hr.bytes 2
    exact IntWalk.i64_in _ (by omega)
  have n3 : (3 : Int) < n := by omega
  have w3 : IntKind.i64.wrap (byteAt bs 3) = byteAt bs 3 := by
    have := hr.bytes 3
    exact IntWalk.i64_in _ (by omega)
  have n4 : (4 : Int) < n := by omega
  have w4 : IntKind.i64.wrap (byteAt bs 4) = byteAt bs 4 := by
    have := hr.bytes 4
    exact IntWalk.i64_in _ (by omega)
  have n5 : (5 : Int) < n := by omega
  have w5 : IntKind.i64.wrap (byteAt bs 5) = byteAt bs 5 := by
    have := hr.bytes 5
    exact IntWalk.i64_in _ (by omega)
  have n6 : (6 : Int) < n := by omega
  have w6 : IntKind.i64.wrap (byteAt bs 6) = byteAt bs 6 := by
    have := hr.bytes 6
    exact IntWalk.i64_in _ (by omega)
  have HB := fun W (hb : Below w.heap.size w W) => hr.below hb
  have hlen := hr.len
  have hby := hr.bytes
  have KL := fun W (hb : Below w.heap.size w W) => lives_any W (hl.below hb (Nat.le_refl _))
  have HX := Lib.hid hby
  clear hr hl hby
  go_enter Tryd.func6, Tryd.ntmps6
  go_wp2_with fail
  refine KD.mono ?_
  rintro e V ⟨rfl, hb⟩
  have hC := Blk.new V 23 c.cs
  have hb1 := hb.alloc hb.size (.cells c.cs 23)
  clear hb KD
  go_wp2_with fail
  generalize (V.alloc (.cells c.cs 23)) = V1 at *
  generalize V.heap.size = C at *
  have b0 : V1.cell? x = some (.int .u8 (byteAt bs 0)) := by
    have h := (HB _ hb1).cell 0 (by omega)
    have e : x.add 0 = x := by cases x; simp [Addr.add]
    rwa [e] at h
  have b1 : V1.cell? ⟨x.block, x.off + 1, none⟩ = some (.int .u8 (byteAt bs 1)) := (HB _ hb1).cell 1 (by omega)
  have b2 : V1.cell? ⟨x.block, x.off + 2, none⟩ = some (.int .u8 (byteAt bs 2)) := (HB _ hb1).cell 2 (by omega)
  have b3 : V1.cell? ⟨x.block, x.off + 3, none⟩ = some (.int .u8 (byteAt bs 3)) := (HB _ hb1).cell 3 (by omega)
  have b4 : V1.cell? ⟨x.block, x.off + 4, none⟩ = some (.int .u8 (byteAt bs 4)) := (HB _ hb1).cell 4 (by omega)
  have b5 : V1.cell? ⟨x.block, x.off + 5, none⟩ = some (.int .u8 (byteAt bs 5)) := (HB _ hb1).cell 5 (by omega)
  have b6 : V1.cell? ⟨x.block, x.off + 6, none⟩ = some (.int .u8 (byteAt bs 6)) := (HB _ hb1).cell 6 (by omega)
  have hx : x.block < V1.heap.size := World.block_lt_of_cell? _ _ b0
  have hx2 : x.block ≠ V1.heap.size := Nat.ne_of_lt hx
  have hn0 : 0 < n := by omega
  go_region_held3 (fun W => W.cell? x = some (.int .u8 (byteAt bs 0)) ∧ W.cell? ⟨x.block, x.off + 1, none⟩ = some (.int .u8 (byteAt bs 1)) ∧ W.cell? ⟨x.block, x.off + 2, none⟩ = some (.int .u8 (byteAt bs 2)) ∧ W.cell? ⟨x.block, x.off + 3, none⟩ = some (.int .u8 (byteAt bs 3)) ∧ W.cell? ⟨x.block, x.off + 4, none⟩ = some (.int .u8 (byteAt bs 4)) ∧ W.cell? ⟨x.block, x.off + 5, none⟩ = some (.int .u8 (byteAt bs 5)) ∧ W.cell? ⟨x.block, x.off + 6, none⟩ = some (.int .u8 (byteAt bs 6))) (go_keep) (fail)
  have S0 : CodS c (ofB bs) w C V1.heap.size ((V1.alloc (.cells (ofB bs).cs 23)).drew) := ⟨(hC.alloc _).drew, (Blk.new _ _ _).drew, below_drew1 (hb1.alloc hb1.size _)⟩
  clear hC hb1 hx hx2 b0 b1 b2 b3 b4 b5 b6
  generalize ((V1.alloc (.cells (ofB bs).cs 23)).drew) = V2 at *
  generalize V1.heap.size = D at *
  obtain ⟨y0, y1, y2, y3, y4, y5, y6, z0, z1, z2, z3, z4, z5, z6⟩ := S0.cells
  dsimp only at z0 z1 z2 z3 z4 z5 z6
  by_cases hk : (ofB bs).Ok
  · obtain ⟨rfl, rfl⟩ := hok hk
    have KR := fun W => right_ok _ W hk
    have KC := fun W => code_ok _ W hk
    have hq : ∀ w, (Op.equalIn 10000 23 (ofB bs).v (ofB bs).v).run Tryd.prog w = .ok true w := fun w => by rw [eq_conf, Cf.eqB_self]
    have hcv : ∀ W, (∀ j, j < 7 → W.cell? (x.add j) = some (.int .u8 (byteAt bs j))) → (convert 29 9 (.slice (some x) 7 cap)).run Tryd.prog W = .ok (.string ⟨(((ofB bs).bytes).map u8).toArray⟩) W := fun W hc => to_text W x cap (ofB bs).bytes (fun j hj => by
      have hj7 : j = 0 ∨ j = 1 ∨ j = 2 ∨ j = 3 ∨ j = 4 ∨ j = 5 ∨ j = 6 := by simp at hj; omega
      rcases hj7 with rfl | rfl | rfl | rfl | rfl | rfl | rfl <;> exact HX.out _) (fun j hj => by
      have hj7 : j = 0 ∨ j = 1 ∨ j = 2 ∨ j = 3 ∨ j = 4 ∨ j = 5 ∨ j = 6 := by simp at hj; omega
      rcases hj7 with rfl | rfl | rfl | rfl | rfl | rfl | rfl <;> exact hc _ (by decide))
    have hcb : ∀ W B, Blk W B 5 (encB (ofB bs).bytes).toArray → (convert 29 9 (.slice (some ⟨B, 0, none⟩) 7 7)).run Tryd.prog W = .ok (.string ⟨(((ofB bs).bytes).map u8).toArray⟩) W := fun W B hB => to_text W ⟨B, 0, none⟩ 7 (ofB bs).bytes (fun j hj => by
      have hj7 : j = 0 ∨ j = 1 ∨ j = 2 ∨ j = 3 ∨ j = 4 ∨ j = 5 ∨ j = 6 := by simp at hj; omega
      rcases hj7 with rfl | rfl | rfl | rfl | rfl | rfl | rfl <;> exact HX.out _) (fun j hj => by
      have hj7 : j = 0 ∨ j = 1 ∨ j = 2 ∨ j = 3 ∨ j = 4 ∨ j = 5 ∨ j = 6 := by simp at hj; omega
      rcases hj7 with rfl | rfl | rfl | rfl | rfl | rfl | rfl <;> exact hB.cell _)
    have hc7 : (7 : Int) ≤ cap := by omega
    have hc7' : 7 ≤ cap := by omega
    generalize (((ofB bs).bytes).map u8) = txt at *
    have qs := fun w => eq_str txt txt w
    rw [beq_self_eq_true] at qs
    clear hok hbad hk
    go_wp2_with fail
    refine (KR _).mono ?_
    rintro e V3 ⟨rfl, hb⟩
    have S1 := S0.below hb
    clear S0 hb KR y0 y1 y2 y3 y4 y5 y6 z0 z1 z2 z3 z4 z5 z6
    go_wp2_with fail
    have S2 := S1.drew
    have c2 : ∀ {W}, CodS (ofB bs) (ofB bs) w C D W → (W.cell? ⟨C, 0, none⟩ = some (.int .i64 (byteAt bs 0)) ∧ W.cell? ⟨C, 1, none⟩ = some (.int .i64 (byteAt bs 1)) ∧ W.cell? ⟨C, 2, none⟩ = some (.int .i64 (byteAt bs 2)) ∧ W.cell? ⟨C, 3, none⟩ = some (.int .i64 (byteAt bs 3)) ∧ W.cell? ⟨C, 4, none⟩ = some (.int .i64 (byteAt bs 4)) ∧ W.cell? ⟨C, 5, none⟩ = some (.int .i64 (byteAt bs 5)) ∧ W.cell? ⟨C, 6, none⟩ = some (.int .i64 (byteAt bs 6)) ∧ W.cell? ⟨D, 0, none⟩ = some (.int .i64 (byteAt bs 0)) ∧ W.cell? ⟨D, 1, none⟩ = some (.int .i64 (byteAt bs 1)) ∧ W.cell? ⟨D, 2, none⟩ = some (.int .i64 (byteAt bs 2)) ∧ W.cell? ⟨D, 3, none⟩ = some (.int .i64 (byteAt bs 3)) ∧ W.cell? ⟨D, 4, none⟩ = some (.int .i64 (byteAt bs 4)) ∧ W.cell? ⟨D, 5, none⟩ = some (.int .i64 (byteAt bs 5)) ∧ W.cell? ⟨D, 6, none⟩ = some (.int .i64 (byteAt bs 6))) ∧ ∀ j, j < 7 → W.cell? (x.add j) = some (.int .u8 (byteAt bs j)) := fun h => ⟨h.cells, fun j hj => (HB _ h.bel).cell j (by omega)⟩
    refine wp_region_held_drew (S := fun W => (W.cell? ⟨C, 0, none⟩ = some (.int .i64 (byteAt bs 0)) ∧ W.cell? ⟨C, 1, none⟩ = some (.int .i64 (byteAt bs 1)) ∧ W.cell? ⟨C, 2, none⟩ = some (.int .i64 (byteAt bs 2)) ∧ W.cell? ⟨C, 3, none⟩ = some (.int .i64 (byteAt bs 3)) ∧ W.cell? ⟨C, 4, none⟩ = some (.int .i64 (byteAt bs 4)) ∧ W.cell? ⟨C, 5, none⟩ = some (.int .i64 (byteAt bs 5)) ∧ W.cell? ⟨C, 6, none⟩ = some (.int .i64 (byteAt bs 6)) ∧ W.cell? ⟨D, 0, none⟩ = some (.int .i64 (byteAt bs 0)) ∧ W.cell? ⟨D, 1, none⟩ = some (.int .i64 (byteAt bs 1)) ∧ W.cell? ⟨D, 2, none⟩ = some (.int .i64 (byteAt bs 2)) ∧ W.cell? ⟨D, 3, none⟩ = some (.int .i64 (byteAt bs 3)) ∧ W.cell? ⟨D, 4, none⟩ = some (.int .i64 (byteAt bs 4)) ∧ W.cell? ⟨D, 5, none⟩ = some (.int .i64 (byteAt bs 5)) ∧ W.cell? ⟨D, 6, none⟩ = some (.int .i64 (byteAt bs 6))) ∧ ∀ j, j < 7 → W.cell? (x.add j) = some (.int .u8 (byteAt bs j))) (by kernel_rfl) ?_ (fun hHeld => ?_)
    focus exact c2 S2
    refine wpAnyH_take (i := 0) (oi := _) (v := ?_) rfl (by kernel_rfl) (by kernel_rfl) (by kernel_rfl) (fun _ _ _ h => h) (Or.inl ⟨by rfl, ?_⟩) (by assumption) ?_
    rotate_left
    focus (intro w hSw; (try dsimp only at hSw); obtain ⟨hSw, hSw2⟩ := hSw; go_simp; (try with_reducible rfl))
    simp only [List.getElem_toArray, List.getElem_cons_succ, List.getElem_cons_zero, Act.put, List.setIfInBounds_toArray, List.set_cons_zero, List.set_cons_succ]
    refine wpAnyH_take (i := 1) (oi := _) (v := ?_) rfl (by kernel_rfl) (by kernel_rfl) (by kernel_rfl) (fun _ _ _ h => h) (Or.inl ⟨by rfl, ?_⟩) (by assumption) ?_
    rotate_left
    focus (intro w hSw; (try dsimp only at hSw); obtain ⟨hSw, hSw2⟩ := hSw; go_simp; (try with_reducible rfl))
    simp only [List.getElem_toArray, List.getElem_cons_succ, List.getElem_cons_zero, Act.put, List.setIfInBounds_toArray, List.set_cons_zero, List.set_cons_succ]
    refine wpAnyH_take (i := 2) (oi := _) (v := ?_) rfl (by kernel_rfl) (by kernel_rfl) (by kernel_rfl) (fun _ _ _ h => h) (Or.inl ⟨by rfl, ?_⟩) (by assumption) ?_
    rotate_left
    focus (intro w hSw; (try dsimp only at hSw); obtain ⟨hSw, hSw2⟩ := hSw; go_simp; (try with_reducible rfl))
    simp only [List.getElem_toArray, List.getElem_cons_succ, List.getElem_cons_zero, Act.put, List.setIfInBounds_toArray, List.set_cons_zero, List.set_cons_succ]
    refine wpAnyH_take (i := 3) (oi := _) (v := ?_) rfl (by kernel_rfl) (by kernel_rfl) (by kernel_rfl) (fun _ _ _ h => h) (Or.inl ⟨by rfl, ?_⟩) (by assumption) ?_
    rotate_left
    focus (intro w hSw; (try dsimp only at hSw); obtain ⟨hSw, hSw2⟩ := hSw; go_simp; (try with_reducible rfl))
    simp only [List.getElem_toArray, List.getElem_cons_succ, List.getElem_cons_zero, Act.put, List.setIfInBounds_toArray, List.set_cons_zero, List.set_cons_succ]
    refine wpAnyH_take (i := 4) (oi := _) (v := ?_) rfl (by kernel_rfl) (by kernel_rfl) (by kernel_rfl) (fun _ _ _ h => h) (Or.inl ⟨by rfl, ?_⟩) (by assumption) ?_
    rotate_left
    focus (intro w hSw; (try dsimp only at hSw); obtain ⟨hSw, hSw2⟩ := hSw; go_simp; (try with_reducible rfl))
    simp only [List.getElem_toArray, List.getElem_cons_succ, List.getElem_cons_zero, Act.put, List.setIfInBounds_toArray, List.set_cons_zero, List.set_cons_succ]
    refine wpAnyH_take (i := 5) (oi := _) (v := ?_) rfl (by kernel_rfl) (by kernel_rfl) (by kernel_rfl) (fun _ _ _ h => h) (Or.inl ⟨by rfl, ?_⟩) (by assumption) ?_
    rotate_left
    focus (intro w hSw; (try dsimp only at hSw); obtain ⟨hSw, hSw2⟩ := hSw; go_simp; (try with_reducible rfl))
    simp only [List.getElem_toArray, List.getElem_cons_succ, List.getElem_cons_zero, Act.put, List.setIfInBounds_toArray, List.set_cons_zero, List.set_cons_succ]
    refine wpAnyH_take (i := 6) (oi := _) (v := ?_) rfl (by kernel_rfl) (by kernel_rfl) (by kernel_rfl) (fun _ _ _ h => h) (Or.inl ⟨by rfl, ?_⟩) (by assumption) ?_
    rotate_left
    focus (intro w hSw; (try dsimp only at hSw); obtain ⟨hSw, hSw2⟩ := hSw; go_simp; (try with_reducible rfl))
    simp only [List.getElem_toArray, List.getElem_cons_succ, List.getElem_cons_zero, Act.put, List.setIfInBounds_toArray, List.set_cons_zero, List.set_cons_succ]
    refine wpAnyH_take (i := 7) (oi := _) (v := ?_) rfl (by kernel_rfl) (by kernel_rfl) (by kernel_rfl) (fun _ _ _ h => h) (Or.inl ⟨by rfl, ?_⟩) (by assumption) ?_
    rotate_left
    focus (intro w hSw; (try dsimp only at hSw); obtain ⟨hSw, hSw2⟩ := hSw; go_simp; (try with_reducible rfl))
    simp only [List.getElem_toArray, List.getElem_cons_succ, List.getElem_cons_zero, Act.put, List.setIfInBounds_toArray, List.set_cons_zero, List.set_cons_succ]
    refine wpAnyH_take (i := 8) (oi := _) (v := ?_) rfl (by kernel_rfl) (by kernel_rfl) (by kernel_rfl) (fun _ _ _ h => h) (Or.inl ⟨by rfl, ?_⟩) (by assumption) ?_
    rotate_left
    focus (intro w hSw; (try dsimp only at hSw); obtain ⟨hSw, hSw2⟩ := hSw; go_simp; (try with_reducible rfl))
    simp only [List.getElem_toArray, List.getElem_cons_succ, List.getElem_cons_zero, Act.put, List.setIfInBounds_toArray, List.set_cons_zero, List.set_cons_succ]
    refine wpAnyH_take (i := 11) (oi := _) (v := ?_) rfl (by kernel_rfl) (by kernel_rfl) (by kernel_rfl) (fun _ _ _ h => h) (Or.inl ⟨by rfl, ?_⟩) (by assumption) ?_
    rotate_left
    focus (intro w hSw; (try dsimp only at hSw); obtain ⟨hSw, hSw2⟩ := hSw; go_simp; (try with_reducible rfl))
    simp only [List.getElem_toArray, List.getElem_cons_succ, List.getElem_cons_zero, Act.put, List.setIfInBounds_toArray, List.set_cons_zero, List.set_cons_succ]
    refine wpAnyH_take (i := 12) (oi := _) (v := ?_) rfl (by kernel_rfl) (by kernel_rfl) (by kernel_rfl) (fun _ _ _ h => h) (Or.inl ⟨by rfl, ?_⟩) (by assumption) ?_
    rotate_left
    focus (intro w hSw; (try dsimp only at hSw); go_simp; (try with_reducible rfl))
    simp only [List.getElem_toArray, List.getElem_cons_succ, List.getElem_cons_zero, Act.put, List.setIfInBounds_toArray, List.set_cons_zero, List.set_cons_succ]
    refine wpAnyH_take (i := 13) (oi := _) (v := ?_) rfl (by kernel_rfl) (by kernel_rfl) (by kernel_rfl) (fun _ _ _ h => h) (Or.inl ⟨by rfl, ?_⟩) (by assumption) ?_
    rotate_left
    focus (intro w hSw; (try dsimp only at hSw); have hh := hcv w hSw.2; go_simp; (try with_reducible rfl))
    simp only [List.getElem_toArray, List.getElem_cons_succ, List.getElem_cons_zero, Act.put, List.setIfInBounds_toArray, List.set_cons_zero, List.set_cons_succ]
    refine wpAnyH_ready (rs := [9]) (by kernel_rfl) (by simp) ?_
    refine AllReadyH.cons (o := _) rfl (fun K hK => ?_) AllReadyH.nil
    go_simp
    refine (KC _).mono ?_
    rintro e V4 ⟨B, rfl, hBl, hBk, hb⟩
    have S3 := S2.below hb
    clear hb S2 S1
    (try go_wp2_with fail)
    refine hK.out _ _ ?_ (fun hHeld => ?_)
    focus exact c2 S3
    clear hK K
    (try simp only [List.getElem_toArray, List.getElem_cons_succ, List.getElem_cons_zero, Act.put, List.setIfInBounds_toArray, List.set_cons_zero, List.set_cons_succ])
    refine wpAnyH_ready (rs := [10]) (by kernel_rfl) (by simp) ?_
    refine AllReadyH.cons (o := _) rfl (fun K hK => ?_) AllReadyH.nil
    go_simp
    refine hK.out _ _ ?_ (fun hHeld => ?_)
    focus exact c2 S3
    clear hK K
    (try simp only [List.getElem_toArray, List.getElem_cons_succ, List.getElem_cons_zero, Act.put, List.setIfInBounds_toArray, List.set_cons_zero, List.set_cons_succ])
    refine wpAnyH_take (i := 14) (oi := _) (v := ?_) rfl (by kernel_rfl) (by kernel_rfl) (by kernel_rfl) (fun _ _ _ h => h) (Or.inl ⟨by rfl, ?_⟩) (by assumption) ?_
    rotate_left
    focus (intro w hSw; (try dsimp only at hSw); obtain ⟨hSw, hSw2⟩ := hSw; go_simp; (try with_reducible rfl))
    simp only [List.getElem_toArray, List.getElem_cons_succ, List.getElem_cons_zero, Act.put, List.setIfInBounds_toArray, List.set_cons_zero, List.set_cons_succ]
    refine wpAnyH_take (i := 15) (oi := _) (v := ?_) rfl (by kernel_rfl) (by kernel_rfl) (by kernel_rfl) (fun _ _ _ h => h) (Or.inl ⟨by rfl, ?_⟩) (by assumption) ?_
    rotate_left
    focus (intro w hSw; (try dsimp only at hSw); obtain ⟨hSw, hSw2⟩ := hSw; go_simp; (try with_reducible rfl))
    simp only [List.getElem_toArray, List.getElem_cons_succ, List.getElem_cons_zero, Act.put, List.setIfInBounds_toArray, List.set_cons_zero, List.set_cons_succ]
    refine wpAnyH_take (i := 16) (oi := _) (v := ?_) rfl (by kernel_rfl) (by kernel_rfl) (by kernel_rfl) (fun _ _ _ h => h) (Or.inl ⟨by rfl, ?_⟩) (by assumption) ?_
    rotate_left
    focus (intro w hSw; (try dsimp only at hSw); obtain ⟨hSw, hSw2⟩ := hSw; go_simp; (try with_reducible rfl))
    simp only [List.getElem_toArray, List.getElem_cons_succ, List.getElem_cons_zero, Act.put, List.setIfInBounds_toArray, List.set_cons_zero, List.set_cons_succ]
    refine wpAnyH_ready (rs := [17]) (by kernel_rfl) (by simp) ?_
    refine AllReadyH.cons (o := _) rfl (fun K hK => ?_) AllReadyH.nil
    go_simp
    refine (KL _ S3.bel).mono ?_
    rintro e V5 ⟨rfl, hb⟩
    have S4 := S3.below hb
    clear hb
    (try go_wp2_with fail)
    refine hK.out _ _ ?_ (fun hHeld => ?_)
    focus exact c2 S4
    clear hK K
    (try simp only [List.getElem_toArray, List.getElem_cons_succ, List.getElem_cons_zero, Act.put, List.setIfInBounds_toArray, List.set_cons_zero, List.set_cons_succ])
    refine wpAnyH_take (i := 18) (oi := _) (v := ?_) rfl (by kernel_rfl) (by kernel_rfl) (by kernel_rfl) (fun _ _ _ h => h) (Or.inl ⟨by rfl, ?_⟩) (by assumption) ?_
    rotate_left
    focus (intro w hSw; (try dsimp only at hSw); obtain ⟨hSw, hSw2⟩ := hSw; go_simp; (try with_reducible rfl))
    simp only [List.getElem_toArray, List.getElem_cons_succ, List.getElem_cons_zero, Act.put, List.setIfInBounds_toArray, List.set_cons_zero, List.set_cons_succ]
    refine wpAnyH_take (i := 19) (oi := _) (v := ?_) rfl (by kernel_rfl) (by kernel_rfl) (by kernel_rfl) (fun _ _ _ h => h) (Or.inl ⟨by rfl, ?_⟩) (by assumption) ?_
    rotate_left
    focus (intro w hSw; (try dsimp only at hSw); obtain ⟨hSw, hSw2⟩ := hSw; go_simp; (try with_reducible rfl))
    simp only [List.getElem_toArray, List.getElem_cons_succ, List.getElem_cons_zero, Act.put, List.setIfInBounds_toArray, List.set_cons_zero, List.set_cons_succ]
    refine wpAnyH_done (by kernel_rfl) ?_ _
    go_wp2
    go_ret
    exact ⟨rfl, S4.bel⟩
  · obtain ⟨rfl, rfl⟩ := hbad hk
    have KR := fun W => right_bad _ W hk
    have hq : ∀ w, (Op.equalIn 10000 23 zc.v zc.v).run Tryd.prog w = .ok true w := fun w => by rw [eq_conf, Cf.eqB_self]
    clear hok hbad hk
    go_wp2_with fail
    refine (KR _).mono ?_
    rintro e V3 ⟨rfl, hb⟩
    have S1 := S0.below hb
    clear S0 hb KR y0 y1 y2 y3 y4 y5 y6 z0 z1 z2 z3 z4 z5 z6
    obtain ⟨y0, y1, y2, y3, y4, y5, y6, z0, z1, z2, z3, z4, z5, z6⟩ := S1.cells
    dsimp only at y0 y1 y2 y3 y4 y5 y6
    go_wp2_with fail
    refine (KL _ S1.bel).mono ?_
    rintro e V5 ⟨rfl, hb⟩
    have S4 := S1.below hb
    go_wp2
    go_ret
    exact ⟨rfl, S4.bel⟩

theorem codes_all (a : Option Addr) (n cap : Nat) (zs : List Int) (w : World) (hl : Lims w) (w0 : IsRow .u8 w a n cap zs) : Calls Tryd.prog 6 #[.slice a n cap] w (Good w) := by
  have hr := rd_of w0
  by_cases h2 : 200 < n
  · exact codes_far a n cap w hl h2
  by_cases h1 : n < 7
  · exact codes_short a n cap w hl h1
  cases a with
  | none =>
    have := hr.nil
    omega
  | some x =>
    by_cases hk : (ofB (zs.take n)).Ok
    · exact codes_long x n cap _ w hl hr (by omega) (by omega) _ 0 (decode_long x n cap _ w hr (by omega) _ (fun _ W hb => ⟨rfl, hb⟩) (fun h => (h hk).elim)) (fun _ => ⟨rfl, rfl⟩) (fun h => (h hk).elim)
    · exact codes_long x n cap _ w hl hr (by omega) (by omega) zc 6 (decode_long x n cap _ w hr (by omega) _ (fun h => (hk h).elim) (fun _ W hb => ⟨rfl, hb⟩)) (fun h => (hk h).elim) (fun _ => ⟨rfl, rfl⟩)
end Go.Proofs.YtdhdomeckloedaaDoor
