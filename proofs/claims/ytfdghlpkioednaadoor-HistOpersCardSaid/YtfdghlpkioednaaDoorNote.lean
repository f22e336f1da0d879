/- What note does. -/
import Derived.Test.YtfdghlpkioednaaDoorHist
import Derived.Laws.Cover3
namespace Go.Proofs.YtfdghlpkioednaaDoor
open Go.ChangeShapes Go.WideShapes Go.ChangeAt Go.RowKit
set_option linter.unusedVariables false

theorem blk_grown {B : Nat} {w2 w2' w3 : World} {t : TypeId} {cs : Array Value} {r : Option Nat} (hb : Blk w2 B t cs) (hb2 : Below w2.heap.size w2 w2') (hg : w2'.grownBy w3 r) (hn : r ≠ some B) : Blk w3 B t cs :=
  hb.agree ((hg.block B (Nat.lt_of_lt_of_le hb.lt hb2.size) (Ne.symm hn)).trans (hb2.block B hb.lt))
theorem eq_map (m : Option Nat) (W : World) : (binOp BinOp.eql 25 (.map m) (.map none)).run Tryd.prog W = .ok (.bool m.isNone) W := by
  simp [binOp, go_sem, run_equal_map_nil _ 25 3 30 m Tryd.underlying25]
set_option maxRecDepth 100000 in
set_option maxHeartbeats 8000000 in
theorem note_some (B : Nat) (X : List Ev) (n : Nat) (s : Sl) (g : Nat) (W : World) (e : Ev) (ht : I64 e.t) (hn : n ≤ 1000) (hX : X.length ≤ 1000)
    (hb : Blk W B 27 #[.slice s.a s.n s.cap, .map (some g)]) (hr : W.ownsRow 0 34 8 (.slice s.a s.n s.cap) X.length (encE X)) (hm : MapAt W g n (cur (ith X) X.length)) :
    Calls Tryd.prog 24 #[.pointer (some ⟨B, 0, none⟩), e.v] W (Noted B X n (fun k => k = B ∨ s.v.ownBlock = some k ∨ some g = some k) e W) := by
  have h0 := box1 (w := W) (.cells e.cs 34)
  have hx : Blk (W.alloc (.cells e.cs 34)) W.heap.size 34 e.cs := Blk.new _ _ _
  have hM : Mid B X n s g (fun k => k = B ∨ s.v.ownBlock = some k ∨ some g = some k) W (W.alloc (.cells e.cs 34)) :=
    ⟨hb.alloc _, row_agree hr fun k e => h0.block k (hr.lt k e).2, hm.below h0, Keeps.of_below h0, .inl rfl, fun k e => .inr (.inl e), .inl (.inr (.inr rfl))⟩
  have y1 := (hb.alloc (.cells e.cs 34)).cell 1
  simp at y1
  have HGL := Lib.hid hm.lt
  clear hb hr hm h0
  have KF := follow_any _ g n (cur (ith X) X.length) e ht (by unfold maxLen; omega) (hM.drew 1).hm
  have HM := Lib.hid hM
  have HM1 := Lib.hid (hM.drew 1)
  have HX := Lib.hid hx
  have HX1 := Lib.hid (hx.drew)
  have x := hx.ev
  clear hM hx
  obtain ⟨x0, x1, x2, x3, x4, x5, x6, x7⟩ := x
  unfold Went at KF
  generalize hr : errC (cur (ith X) X.length e.t) e = r at *
  have HR := Lib.hid hr
  clear hr
  obtain ⟨t, b, c, a⟩ := e
  obtain ⟨o1, k1, v1⟩ := c
  obtain ⟨o2, k2, v2⟩ := a
  dsimp only [Ev.v, Ev.cs] at *
  simp only [Nat.zero_add] at x0 x1 x2 x3 x4 x5 x6 x7
  have hqm := fun W => eq_map (some g) W
  simp only [Option.isNone_some] at hqm
  go_enter Tryd.func24, Tryd.ntmps24
  go_wp2_with fail
  have HXL := Lib.hid (show W.heap.size < (W.alloc (.cells #[.int .i64 t, .bool b, .int .i64 o1, .int .u32 k1, .int .u32 v1, .int .i64 o2, .int .u32 k2, .int .u32 v2] 34)).heap.size by simp)
  generalize (W.alloc (.cells #[.int .i64 t, .bool b, .int .i64 o1, .int .u32 k1, .int .u32 v1, .int .i64 o2, .int .u32 k2, .int .u32 v2] 34)) = W1 at *
  go_region_held3 (fun W' => W'.cell? ⟨B, 1, none⟩ = some (.map (some g)) ∧ W'.cell? ⟨W.heap.size, 0, none⟩ = some (.int .i64 t) ∧ W'.cell? ⟨W.heap.size, 1, none⟩ = some (.bool b) ∧ W'.cell? ⟨W.heap.size, 2, none⟩ = some (.int .i64 o1) ∧ W'.cell? ⟨W.heap.size, 3, none⟩ = some (.int .u32 k1) ∧
    W'.cell? ⟨W.heap.size, 4, none⟩ = some (.int .u32 v1) ∧ W'.cell? ⟨W.heap.size, 5, none⟩ = some (.int .i64 o2) ∧ W'.cell? ⟨W.heap.size, 6, none⟩ = some (.int .u32 k2) ∧ W'.cell? ⟨W.heap.size, 7, none⟩ = some (.int .u32 v2)) (go_keep)
    (first | (go_at_call 28; refine KF.mono ?_; rintro x w2 ⟨rfl, hk, hm⟩; have y2 := (HM1.out.step hk).1.cell 1; simp at y2; have hx2 := Blk.agree HX1.out (hk.block W.heap.size HXL.out (Nat.ne_of_gt HGL.out)); obtain ⟨z0, z1, z2, z3, z4, z5, z6, z7⟩ := Blk.ev (e := ⟨t, b, ⟨o1, k1, v1⟩, ⟨o2, k2, v2⟩⟩) hx2; simp only [Nat.zero_add] at z0 z1 z2 z3 z4 z5 z6 z7))
  by_cases hr0 : r = 0
  case neg =>
    rw [if_neg hr0] at hm
    have HF := Lib.hid (Mid.bad HM1.out HR.out hr0 hk hm)
    have hr1 := beq_f hr0
    clear hk hm hx2 HM HM1 HX HX1 y2 z0 z1 z2 z3 z4 z5 z6 z7
    go_wp2
    go_ret
    exact HF.out
  case pos =>
    subst hr0
    rw [if_pos rfl] at hm
    obtain ⟨q1, q2, _⟩ := HM1.out.step hk
    have y0 := q1.cell 0
    simp at y0
    have nq := row_not q2 q1 (by decide)
    have lb := q1.lt
    have lx := hx2.lt
    have HG := Lib.hid fun w2' w3 gg cap => Mid.good (w2' := w2') (w3 := w3) (gg := gg) (cap := cap) HM1.out HR.out hk hm
    obtain ⟨i0, hi, hz0, hz1, hz2⟩ := info_parts info34
    obtain ⟨sa, sn, sc⟩ := s
    dsimp only at *
    clear hk hm hx2 HM HM1 HX HX1 y2 KF
    go_wp2_with fail
    go_region_law ((refine step_append_lies _ (by rfl) _ _ _ (by rfl) 0 34 i0 _ 8 48 Tryd.underlying22 hi hz0 hz1 hz2 rfl (by omega) (.slice sa sn sc) X.length (encE X) (by rfl) ((q2.alloc _).drew) ⟨w2.heap.size, 0, none⟩ 1 1 [.int .i64 t, .bool b, .int .i64 o1, .int .u32 k1, .int .u32 v1, .int .i64 o2, .int .u32 k2, .int .u32 v2] (by rfl) (by rfl) (World.news_of_block (cs := #[.int .i64 t, .bool b, .int .i64 o1, .int .u32 k1, .int .u32 v1, .int .i64 o2, .int .u32 k2, .int .u32 v2]) (t := 34) (fr := (0, 0)) (heap_alloc_new w2 _)) (by simp [Value.oneCell']) (by omega) (by unfold maxLen; omega) (by omega) (by omega) (w2.heap.size + 1) (by simp) ?_; intro gg cap w3 hown3 hgrow hat hlt; have q3 := blk_grown q1 (below_drew (box1 _)) hgrow nq; have c4 := q3.cell 0; have f4 := q3.frozen 0; simp at c4))
    all_goals
      go_wp2
      go_ret
      exact HG.out _ _ _ _ (below_drew (box1 _)) hown3 hgrow (hat.imp id (fun e => by omega))

/-- The first one: the map is made. -/
theorem mid_none {B : Nat} {X : List Ev} {n : Nat} {s : Sl} {W : World} (e : Ev) (hX : X = []) (hb : Blk W B 27 #[.slice s.a s.n s.cap, .map none]) (hr : W.ownsRow 0 34 8 (.slice s.a s.n s.cap) X.length (encE X)) :
    Mid B X n s (W.heap.size + 1) (fun k => k = B ∨ s.v.ownBlock = some k ∨ (none : Option Nat) = some k) W (((W.setCell ⟨B, 1, none⟩ (.map (some (W.heap.size + 1)))).alloc (.cells e.cs 34)).alloc (.map #[] 0)) ∧
      Blk (((W.setCell ⟨B, 1, none⟩ (.map (some (W.heap.size + 1)))).alloc (.cells e.cs 34)).alloc (.map #[] 0)) W.heap.size 34 e.cs := by
  have lb := hb.lt
  have nb := row_not hr hb (by decide)
  have es : (W.setCell ⟨B, 1, none⟩ (.map (some (W.heap.size + 1)))).heap.size = W.heap.size := by simp [World.setCell]
  have e1 : ((W.setCell ⟨B, 1, none⟩ (.map (some (W.heap.size + 1)))).alloc (.cells e.cs 34)).heap.size = W.heap.size + 1 := by simp [World.setCell]
  have hx := (Blk.new (W.setCell ⟨B, 1, none⟩ (.map (some (W.heap.size + 1)))) 34 e.cs).alloc (.map #[] 0)
  have hm := MapAt.made ((W.setCell ⟨B, 1, none⟩ (.map (some (W.heap.size + 1)))).alloc (.cells e.cs 34))
  rw [es] at hx
  rw [e1] at hm
  refine ⟨⟨?_, ?_, ?_, ?_, .inl rfl, fun k e => .inr (.inl e), .inr (by omega)⟩, hx⟩
  · have := ((hb.set 1 (.map (some (W.heap.size + 1)))).alloc (.cells e.cs 34)).alloc (.map #[] 0)
    simpa using this
  · refine row_agree hr fun k e => ?_
    have := (hr.lt k e).2
    rw [Below.heap_alloc _ _ _ (by rw [e1]; omega), Below.heap_alloc _ _ _ (by rw [es]; omega), Below.heap_setCell _ _ _ _ (by intro e2; exact nb (by rw [e, e2]))]
  · refine (hm.congr fun t => ?_).mono (Nat.zero_le n)
    rw [hX]
    rfl
  · exact (((Keeps.refl _ W).setCell (.inl (.inl rfl)) _).alloc _).alloc _
set_option maxRecDepth 100000 in
set_option maxHeartbeats 8000000 in
theorem note_none (B : Nat) (X : List Ev) (n : Nat) (s : Sl) (W : World) (e : Ev) (ht : I64 e.t) (hn : n ≤ 1000) (h00 : X = [])
    (hb : Blk W B 27 #[.slice s.a s.n s.cap, .map none]) (hr : W.ownsRow 0 34 8 (.slice s.a s.n s.cap) X.length (encE X)) :
    Calls Tryd.prog 24 #[.pointer (some ⟨B, 0, none⟩), e.v] W (Noted B X n (fun k => k = B ∨ s.v.ownBlock = some k ∨ (none : Option Nat) = some k) e W) := by
  obtain ⟨hM, hx⟩ := mid_none (n := n) e h00 hb hr
  have hX : X.length ≤ 1000 := by rw [h00]; simp
  have y1 := (hb.alloc (.cells e.cs 34)).cell 1
  have yf := ((hb.alloc (.cells e.cs 34)).alloc (.map #[] 0)).frozen 1
  have y1' := ((hb.alloc (.cells e.cs 34)).alloc (.map #[] 0)).cell 1
  have lb0 := hb.lt
  simp at y1 y1'
  clear hb hr h00
  have KF := follow_any _ (W.heap.size + 1) n (cur (ith X) X.length) e ht (by unfold maxLen; omega) (hM.drew 1).hm
  have HM1 := Lib.hid (hM.drew 1)
  have HX1 := Lib.hid (hx.drew)
  have HM := Lib.hid hM
  have HX := Lib.hid hx
  have x := hx.ev
  have z1 := hM.hb.cell 1
  simp at z1
  have HXL := Lib.hid hx.lt
  clear hM hx
  obtain ⟨x0, x1, x2, x3, x4, x5, x6, x7⟩ := x
  unfold Went at KF
  generalize hr : errC (cur (ith X) X.length e.t) e = r at *
  have HR := Lib.hid hr
  clear hr
  obtain ⟨t, b, c, a⟩ := e
  obtain ⟨o1, k1, v1⟩ := c
  obtain ⟨o2, k2, v2⟩ := a
  dsimp only [Ev.v, Ev.cs] at *
  simp only [Nat.zero_add] at x0 x1 x2 x3 x4 x5 x6 x7
  have hqm := fun W => eq_map none W
  simp only [Option.isNone_none] at hqm
  have hmm := @run_makeMap Tryd.prog
  go_enter Tryd.func24, Tryd.ntmps24
  go_wp2_with fail
  generalize (((W.setCell ⟨B, 1, none⟩ (.map (some (W.heap.size + 1)))).alloc (.cells #[.int .i64 t, .bool b, .int .i64 o1, .int .u32 k1, .int .u32 v1, .int .i64 o2, .int .u32 k2, .int .u32 v2] 34)).alloc (.map #[] 0)) = W1 at *
  clear y1 yf y1'
  go_region_held3 (fun W' => W'.cell? ⟨B, 1, none⟩ = some (.map (some (W.heap.size + 1))) ∧ W'.cell? ⟨W.heap.size, 0, none⟩ = some (.int .i64 t) ∧ W'.cell? ⟨W.heap.size, 1, none⟩ = some (.bool b) ∧ W'.cell? ⟨W.heap.size, 2, none⟩ = some (.int .i64 o1) ∧ W'.cell? ⟨W.heap.size, 3, none⟩ = some (.int .u32 k1) ∧
    W'.cell? ⟨W.heap.size, 4, none⟩ = some (.int .u32 v1) ∧ W'.cell? ⟨W.heap.size, 5, none⟩ = some (.int .i64 o2) ∧ W'.cell? ⟨W.heap.size, 6, none⟩ = some (.int .u32 k2) ∧ W'.cell? ⟨W.heap.size, 7, none⟩ = some (.int .u32 v2)) (go_keep)
    (first | (go_at_call 28; refine KF.mono ?_; rintro x w2 ⟨rfl, hk, hm⟩; have y2 := (HM1.out.step hk).1.cell 1; simp at y2; have hx2 := Blk.agree HX1.out (hk.block W.heap.size HXL.out ((by omega : W.heap.size ≠ W.heap.size + 1))); obtain ⟨z0, z1, z2, z3, z4, z5, z6, z7⟩ := Blk.ev (e := ⟨t, b, ⟨o1, k1, v1⟩, ⟨o2, k2, v2⟩⟩) hx2; simp only [Nat.zero_add] at z0 z1 z2 z3 z4 z5 z6 z7))
  by_cases hr0 : r = 0
  case neg =>
    rw [if_neg hr0] at hm
    have HF := Lib.hid (Mid.bad HM1.out HR.out hr0 hk hm)
    have hr1 := beq_f hr0
    clear hk hm hx2 HM HM1 HX HX1 y2 z0 z1 z2 z3 z4 z5 z6 z7
    go_wp2
    go_ret
    exact HF.out
  case pos =>
    subst hr0
    rw [if_pos rfl] at hm
    obtain ⟨q1, q2, _⟩ := HM1.out.step hk
    have y0 := q1.cell 0
    simp at y0
    have nq := row_not q2 q1 (by decide)
    have lb := q1.lt
    have lx := hx2.lt
    have HG := Lib.hid fun w2' w3 gg cap => Mid.good (w2' := w2') (w3 := w3) (gg := gg) (cap := cap) HM1.out HR.out hk hm
    obtain ⟨i0, hi, hz0, hz1, hz2⟩ := info_parts info34
    obtain ⟨sa, sn, sc⟩ := s
    dsimp only at *
    clear hk hm hx2 HM HM1 HX HX1 y2 KF
    go_wp2_with fail
    go_region_law ((refine step_append_lies _ (by rfl) _ _ _ (by rfl) 0 34 i0 _ 8 48 Tryd.underlying22 hi hz0 hz1 hz2 rfl (by omega) (.slice sa sn sc) X.length (encE X) (by rfl) ((q2.alloc _).drew) ⟨w2.heap.size, 0, none⟩ 1 1 [.int .i64 t, .bool b, .int .i64 o1, .int .u32 k1, .int .u32 v1, .int .i64 o2, .int .u32 k2, .int .u32 v2] (by rfl) (by rfl) (World.news_of_block (cs := #[.int .i64 t, .bool b, .int .i64 o1, .int .u32 k1, .int .u32 v1, .int .i64 o2, .int .u32 k2, .int .u32 v2]) (t := 34) (fr := (0, 0)) (heap_alloc_new w2 _)) (by simp [Value.oneCell']) (by omega) (by unfold maxLen; omega) (by omega) (by omega) (w2.heap.size + 1) (by simp) ?_; intro gg cap w3 hown3 hgrow hat hlt; have q3 := blk_grown q1 (below_drew (box1 _)) hgrow nq; have c4 := q3.cell 0; have f4 := q3.frozen 0; simp at c4))
    all_goals
      go_wp2
      go_ret
      exact HG.out _ _ _ _ (below_drew (box1 _)) hown3 hgrow (hat.imp id (fun e => by omega))
end Go.Proofs.YtfdghlpkioednaaDoor
