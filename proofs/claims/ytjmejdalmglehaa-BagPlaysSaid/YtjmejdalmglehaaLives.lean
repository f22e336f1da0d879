/- The chapter's example, walked. -/
import Derived.Test.YtjmejdalmglehaaRun
namespace Go.Proofs.Ytjmejdalmglehaa
open Go.ChangeShapes Go.WideShapes Go.ChangeAt Go.RowKit
set_option linter.unusedVariables false

theorem info32 : (Try.prog.info? 32).map (fun i => (i.zero, i.size, i.bytes)) = some (some (Tri.v ⟨0, 0, 0⟩), 3, 16) := by kernel_rfl
theorem made54 (w : World) : (Instr.makeSlice 54 (.int .i64 3) (.int .i64 3)).run Try.prog w = .ok (.slice (some ⟨w.heap.size, 0, none⟩) 3 3) (w.alloc (.cells (encT (ansAt 0)).toArray 32)) := by
  obtain ⟨i, hi, h0, h1, h2⟩ := info_parts info32
  have := run_makeSlice (P := Try.prog) w 54 32 i (Tri.v ⟨0, 0, 0⟩) Try.underlying54 hi h0 .i64 .i64 3 3 (by omega) (by omega) (by rw [h1]; decide) (by rw [h2]; omega) (by omega)
  rw [this, h1]
  have hc : madeCells (Tri.v ⟨0, 0, 0⟩).cells (Int.toNat 3 * 3) = (encT (ansAt 0)).toArray := by kernel_rfl
  rw [hc]
  rfl
theorem below_alloc {n : Nat} {w W : World} (h : Below n w W) (hn : n ≤ w.heap.size) (o : Obj) : Below n w (W.alloc o) := h.alloc (Nat.le_trans hn h.size) _
/-- Amid a round of Run: the answer is written. -/
structure MidS (w : World) (cb k : Nat) (a : Tri) (s : Sl) (W : World) : Prop where
  bag : BagS W w.heap.size s (bagAt k)
  own : ∀ j, s.v.ownBlock = some j → w.heap.size ≤ j
  ans : Blk W (w.heap.size + 1) 32 (encT ((ansAt k).set k a)).toArray
  bel : Below w.heap.size w W
  cal : Blk W cb 30 (encT CL).toArray
  lt : cb < w.heap.size
theorem MidS.below {w W V : World} {cb k : Nat} {a : Tri} {s : Sl} (h : MidS w cb k a s W) (hb : Below W.heap.size W V) : MidS w cb k a s V :=
  ⟨h.bag.below hb, h.own, h.ans.below hb h.ans.lt, below_then h.bel hb, h.cal.below hb h.cal.lt, h.lt⟩
theorem MidS.of {w W : World} {cb k : Nat} {s : Sl} (h : RunS w cb k W) (hB : BagS W w.heap.size s (bagAt k)) (hs : ∀ j, s.v.ownBlock = some j → w.heap.size ≤ j) (hk : k < 3) (a : Tri) :
    MidS w cb k a s (((W.setCell ⟨w.heap.size + 1, k * 3, none⟩ (.int .i64 a.op)).setCell ⟨w.heap.size + 1, k * 3 + 1, none⟩ (.int .u32 a.key)).setCell ⟨w.heap.size + 1, k * 3 + 2, none⟩ (.int .u32 a.val)) := by
  have hn := hB.row.not h.ans (by decide)
  have hfar : ∀ j, j ≠ w.heap.size + 1 → (((W.setCell ⟨w.heap.size + 1, k * 3, none⟩ (.int .i64 a.op)).setCell ⟨w.heap.size + 1, k * 3 + 1, none⟩ (.int .u32 a.key)).setCell ⟨w.heap.size + 1, k * 3 + 2, none⟩ (.int .u32 a.val)).heap[j]? = W.heap[j]? := fun j hj => by
    rw [Below.heap_setCell _ _ _ _ hj, Below.heap_setCell _ _ _ _ hj, Below.heap_setCell _ _ _ _ hj]
  refine ⟨hB.agree fun j _ hj => hfar j ?_, hs, put3_row h.ans (by rw [ansAt_len]; exact hk) a, ?_, h.cal.agree (hfar cb (by have := h.lt; omega)), h.lt⟩
  · rcases hj with rfl | hj
    · omega
    · rintro rfl
      exact hn hj
  · exact below_set (below_set (below_set h.bel (p := ⟨w.heap.size + 1, k * 3, none⟩) (Nat.le_succ _) _) (p := ⟨w.heap.size + 1, k * 3 + 1, none⟩) (Nat.le_succ _) _) (p := ⟨w.heap.size + 1, k * 3 + 2, none⟩) (Nat.le_succ _) _
theorem MidS.next {w W V : World} {cb k : Nat} {a : Tri} {s : Sl} {l' : List Pr} (h : MidS w cb k a s W) (ht : Turned W w.heap.size s l' V) (hl : l' = bagAt (k + 1)) (ha : (ansAt k).set k a = ansAt (k + 1)) : RunS w cb (k + 1) V := by
  obtain ⟨s', h1, h2, h3⟩ := ht.ex
  subst hl
  have hO : ∀ j, Ob w.heap.size s j → w.heap.size ≤ j := fun j hj => hj.elim (fun e => by omega) (h.own j)
  have hb : Below w.heap.size W V := h2.below h.bel.size hO
  refine ⟨⟨s', h1, fun j hj => (h3 j (.inr hj)).elim (hO j) (fun q => Nat.le_trans h.bel.size q)⟩, ?_, h.bel.trans hb, h.cal.agree (hb.block cb h.lt), h.lt⟩
  rw [← ha]
  refine h.ans.agree (h2.block _ h.ans.lt fun ho => ?_)
  rcases ho with ho | ho
  · omega
  · exact h.bag.row.not h.ans (by decide) ho
set_option maxRecDepth 100000 in
set_option maxHeartbeats 8000000 in
theorem run_any (cb : Nat) (w : World) (hb : Blk w cb 30 (encT CL).toArray) : Calls Try.prog 20 #[.slice (some ⟨cb, 0, none⟩) 3 3] w fun e w' => e = .returned (.slice (some ⟨w.heap.size + 1, 0, none⟩) 3 3) ∧ RunS w cb 3 w' := by
  have S0 : Hid (RunS w cb 0 ((w.alloc (.cells #[.slice none 0 0] 26)).alloc (.cells (encT (ansAt 0)).toArray 32))) := Lib.hid (by
    refine ⟨⟨nilS, ⟨(Blk.new w 26 #[.slice none 0 0]).alloc _, .none_⟩, fun j hj => by cases hj⟩, ?_, ((Below.refl w.heap.size w).alloc (Nat.le_refl _) _).alloc (by simp) _, (hb.alloc _).alloc _, hb.lt⟩
    simpa using Blk.new (w.alloc (.cells #[.slice none 0 0] 26)) 32 (encT (ansAt 0)).toArray)
  have hm := made54
  clear hb
  generalize encT (ansAt 0) = q0 at *
  go_enter Try.func20, Try.ntmps20
  go_wp2_with fail
  go_loopw [12] (fun i W => ∃ k : Nat, k ≤ 3 ∧ i = .int .i64 k ∧ Hid (RunS w cb k W)) (fun i _ => 3 - (intOf i).toNat)
  case atStart => exact ⟨0, by omega, rfl, S0⟩
  case round =>
    clear S0
    obtain ⟨k, hk, rfl, HS⟩ := hrel
    by_cases hkn : k < 3
    · obtain ⟨x0, x1, x2⟩ := HS.out.cal.tri (callAt_lt hkn)
      obtain ⟨s, hB, hs⟩ := HS.out.ex
      generalize hc : callAt k = c at *
      have hHS := HS.out.below (box1 (.cells c.cs 30))
      have KA := answer_any w.heap.size s (bagAt k) c _ (hB.below (box1 (.cells c.cs 30)))
      have HX := Lib.hid (Blk.new wr 30 c.cs)
      have HB1 := Lib.hid (hB.below (box1 (.cells c.cs 30)))
      have HS1 := Lib.hid hHS
      have gk : (k : Int) < 3 := by omega
      have w2 := IntWalk.i64_in ((k : Int) + 1) (by omega)
      have hcC := Lib.hid hc
      generalize hans : ansL (bagAt k) c = a at *
      have hA := Lib.hid hans
      obtain ⟨co, ck, cv⟩ := c
      obtain ⟨ao, ak, av⟩ := a
      dsimp only [Tri.v] at *
      clear hB hHS hc hans HS
      go_wp2_with fail
      refine KA.mono ?_
      rintro e w1 ⟨rfl, hb⟩
      have HS2 := Lib.hid (HS1.out.below hb)
      have HB2 := Lib.hid (HB1.out.below hb)
      have HX2 := Lib.hid (HX.out.below hb HX.out.lt)
      have hal := ansAt_len k
      obtain ⟨z, hz⟩ : ∃ z, (ansAt k)[k]? = some z := ⟨_, List.getElem?_eq_getElem (by omega)⟩
      obtain ⟨z0, z1, z2⟩ := HS2.out.ans.tri hz
      have f0 := HS2.out.ans.frozen (k * 3)
      have f1 := HS2.out.ans.frozen (k * 3 + 1)
      have f2 := HS2.out.ans.frozen (k * 3 + 2)
      have HM : Hid (MidS w cb k ⟨ao, ak, av⟩ s (((w1.setCell ⟨w.heap.size + 1, k * 3, none⟩ (.int .i64 ao)).setCell ⟨w.heap.size + 1, k * 3 + 1, none⟩ (.int .u32 ak)).setCell ⟨w.heap.size + 1, k * 3 + 2, none⟩ (.int .u32 av))) := Lib.hid (MidS.of HS2.out HB2.out hs hkn ⟨ao, ak, av⟩)
      have hXl := HX2.out.lt
      have hXn : wr.heap.size ≠ w.heap.size + 1 := by have := HS1.out.ans.lt; simp at this; have h2 := HS2.out.ans; have h3 := HX2.out; intro e; unfold Blk at h2 h3; rw [e, h2] at h3; simp only [Option.some.injEq, Obj.cells.injEq] at h3; exact absurd h3.2.1 (by decide)
      have HX3 : Hid (Blk (((w1.setCell ⟨w.heap.size + 1, k * 3, none⟩ (.int .i64 ao)).setCell ⟨w.heap.size + 1, k * 3 + 1, none⟩ (.int .u32 ak)).setCell ⟨w.heap.size + 1, k * 3 + 2, none⟩ (.int .u32 av)) wr.heap.size 30 #[.int .i64 co, .int .u32 ck, .int .u32 cv]) := Lib.hid (((HX2.out.far (p := ⟨w.heap.size + 1, k * 3, none⟩) hXn (.int .i64 ao)).far (p := ⟨w.heap.size + 1, k * 3 + 1, none⟩) hXn (.int .u32 ak)).far (p := ⟨w.heap.size + 1, k * 3 + 2, none⟩) hXn (.int .u32 av))
      clear KA hb HS2 HB2 HX2 HX HB1 HS1 hz x0 x1 x2 hXn hXl
      go_wp2_with fail
      clear z0 z1 z2 f0 f1 f2
      generalize ((w1.setCell ⟨w.heap.size + 1, k * 3, none⟩ (.int .i64 ao)).setCell ⟨w.heap.size + 1, k * 3 + 1, none⟩ (.int .u32 ak)).setCell ⟨w.heap.size + 1, k * 3 + 2, none⟩ (.int .u32 av) = W2 at *
      obtain ⟨y0, y1, y2⟩ := HM.out.ans.tri (k := k) (c := ⟨ao, ak, av⟩) (by rw [List.getElem?_set_self (by omega)])
      obtain ⟨x0, x1, x2⟩ := blk_cells HX3.out
      have KD := do_any w.heap.size s (bagAt k) ⟨co, ck, cv⟩ ⟨ao, ak, av⟩ W2.drew (HM.out.bag.below (below_drew (Below.refl _ _))) (bagAt_ord k) (by have := bagAt_len k; omega)
      have HN := Lib.hid fun V (ht : Turned W2.drew w.heap.size s (doL (bagAt k) ⟨co, ck, cv⟩ ⟨ao, ak, av⟩).1 V) => MidS.next (HM.out.below (V := W2.drew) (below_drew (Below.refl _ _))) ht (by rw [bagAt, hcC.out, hA.out]) (by rw [ansAt, hcC.out, hA.out])
      clear HM HX3 hcC hA hal
      dsimp only [Tri.v] at *
      generalize doL (bagAt k) ⟨co, ck, cv⟩ ⟨ao, ak, av⟩ = d at *
      go_region_with (go_at_call 11; refine KD.mono ?_; rintro e w3 ⟨rfl, ht⟩; have HS3 := Lib.hid (HN.out w3 ht); clear ht)
      all_goals
        go_wp2
        go_roundw
      all_goals first
        | exact ⟨k + 1, by omega, by go_num, HS3⟩
        | (simp [intOf]; omega)
    · obtain rfl : k = 3 := by omega
      go_wp2
      go_ret
      exact ⟨rfl, HS.out⟩
set_option maxRecDepth 100000 in
set_option maxHeartbeats 4000000 in
theorem lives_any (w : World) : Calls Try.prog 5 #[] w fun e w' => e = .returned (.bool true) ∧ Below w.heap.size w w' := by
  have HB := Lib.hid (box1 (w := w) (.cells #[.int .i64 0, .int .u32 5, .int .u32 1, .int .i64 0, .int .u32 3, .int .u32 2, .int .i64 1, .int .u32 0, .int .u32 0] 30))
  have KR := run_any w.heap.size (w.alloc (.cells #[.int .i64 0, .int .u32 5, .int .u32 1, .int .i64 0, .int .u32 3, .int .u32 2, .int .i64 1, .int .u32 0, .int .u32 0] 30)) (Blk.new w 30 _)
  have hq := fun w => eq_call 32 (.inr rfl) ⟨2, 3, 2⟩ ⟨2, 3, 2⟩ w
  dsimp only [Tri.v] at *
  go_enter Try.func5, Try.ntmps5
  go_wp2_with fail
  refine KR.mono ?_
  rintro e w1 ⟨rfl, h⟩
  have HF := Lib.hid (below_then HB.out h.bel)
  have ha := h.ans
  rw [ansAt_3] at ha
  obtain ⟨x0, x1, x2⟩ := ha.tri (k := 2) (c := ⟨2, 3, 2⟩) rfl
  simp at x0 x1 x2
  clear KR h HB ha
  go_wp2
  go_ret
  exact ⟨rfl, HF.out⟩
end Go.Proofs.Ytjmejdalmglehaa
