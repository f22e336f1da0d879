/- The areas of a zero plan; Size; where a thing lies. -/
import Derived.Test.YtnedifcjenlcjaaPAreas
namespace Go.Proofs.Ytnedifcjenlcjaa.P
open Go.ChangeShapes Go.WideShapes Go.ChangeAt Go.RowKit
set_option linter.unusedVariables false
set_option maxRecDepth 20000


theorem wpList_zeros {W : World} (L R : Nat) (rg : W.rangeAt L 0 z20.toList) (th : W.there R 0 20) {ops : Array Oper} {a : Act} {Q : Exit → Act → World → Prop} {ty1 ty2 : TypeId} {p1 p2 : String} {af1 af2 : Array Edge}
    (h3 : a.tmps.getD 3 undef = .pointer (some ⟨L, 0, none⟩)) (h2 : a.tmps.getD 2 undef = .pointer (some ⟨R, 0, none⟩)) (hs : a.tmps.size = 41)
    (h : ∀ V, (loadVar 95 ⟨R, 0, none⟩).run Try.prog V = .ok (.agg z20) V → (∀ n A, n ≤ R → Below n A W → Below n A V) → wpList Try.prog ops Q [] (a.put (some 6) (.agg z20)) V) :
    wpList Try.prog ops Q [⟨some 6, .load 95 (.tmp 3), ty1, p1, af1, none⟩, ⟨none, .store 95 (.tmp 2) (.tmp 6), ty2, p2, af2, none⟩] a W := by
  refine wpList_load_mid rfl 95 _ rfl L 0 h3 z20.toList (.array 5 94) rg (by kernel_rfl) rfl (by kernel_rfl) ?_
  refine wpList_store_mid rfl 95 _ _ rfl R 0 z20 ?_ ?_ th (by kernel_rfl) (by simp [Value.oneCell']) (h _ ?_ fun n A hn hb => below_setCells R hn _ 0 _ hb)
  · show (a.tmps.setIfInBounds 6 _).getD 2 undef = _
    rw [← h2]
    simp
  · show (a.tmps.setIfInBounds 6 _).getD 6 undef = _
    simp [hs]
  · exact run_loadVar_mid (P := Try.prog) (W.setCells R 0 z20.toList) R 0 95 z20.toList (.array 5 94) (World.rangeAt_setCells_same W R 0 z20.toList th) (by kernel_rfl) rfl (by kernel_rfl)

set_option maxRecDepth 100000 in
set_option maxHeartbeats 4000000 in
theorem areas_zero (w : World) : Calls Try.prog 39 #[zc.v] w fun e w' => e = .returned (.agg z20) ∧ Below w.heap.size w w' := by
  have S0 : St zc w w.heap.size (w.heap.size + 1) (w.heap.size + 2) z20 (((w.alloc (.cells zc.cs 65)).alloc (.cells z20 95)).alloc (.cells z20 95)) := by
    refine ⟨((Blk.new _ _ _).alloc _).alloc _, ?_, ?_, (((Below.refl _ _).alloc (Nat.le_refl _) _).alloc (by simp) _).alloc (by simp; omega) _⟩
    · have := (Blk.new (w.alloc (.cells zc.cs 65)) 95 z20).alloc (.cells z20 95)
      rwa [show (w.alloc (.cells zc.cs 65)).heap.size = w.heap.size + 1 by simp] at this
    · have := Blk.new ((w.alloc (.cells zc.cs 65)).alloc (.cells z20 95)) 95 z20
      rwa [show ((w.alloc (.cells zc.cs 65)).alloc (.cells z20 95)).heap.size = w.heap.size + 2 by simp] at this
  go_enter Try.func39, Try.ntmps39
  go_wp2_with fail
  refine (zero_yes _).mono ?_
  rintro e w1 ⟨rfl, hb⟩
  have S2 := S0.below hb
  clear hb S0
  have g4 : w.heap.size ≤ w.heap.size + 1 := by omega
  generalize w.heap.size + 2 = L at *
  generalize w.heap.size + 1 = R at *
  have rg : w1.rangeAt L 0 z20.toList := fun j v hv => by
    rw [Nat.zero_add]
    exact S2.l.get j (by simpa using hv)
  have th : w1.there R 0 20 := fun j hj => by
    rw [Nat.zero_add]
    refine ⟨?_, S2.r.frozen j⟩
    rw [S2.r.cell j, Array.getElem?_eq_getElem (show j < z20.size from hj)]
    rfl
  have bel := S2.bel
  clear S2
  go_wp2_with ((with_reducible refine wpList_zeros L R rg th ?_ ?_ ?_ ?_); rfl; rfl; rfl; intro V hV hB; have HV := Lib.hid hV; clear hV; simp only [Act.put, List.setIfInBounds_toArray, List.set_cons_zero, List.set_cons_succ])
  refine bodyPost_ret (v := .agg z20) (results_cell V R _ _ rfl HV.out) rfl ⟨rfl, hB _ _ g4 bel⟩

/-! ### One area out of all -/
theorem index_rows0 (c : Cf) (w : World) : (Instr.index 95 (.agg c.rows) (.int .i64 0)).run Try.prog w = .ok (.agg #[i0, i0, .int .i64 8, .int .i64 1]) w := by
  have hu : Try.prog.underlying 95 = some (.array 5 94) := by kernel_rfl
  simp [Instr.index, run_underlying hu, asIntOf, go_sem]
theorem index_rows1 (c : Cf) (w : World) : (Instr.index 95 (.agg c.rows) (.int .i64 1)).run Try.prog w = .ok (.agg #[.int .i64 8, i0, .int .i64 c.th, .int .i64 c.slots]) w := by
  have hu : Try.prog.underlying 95 = some (.array 5 94) := by kernel_rfl
  simp [Instr.index, run_underlying hu, asIntOf, go_sem]
theorem index_rows2 (c : Cf) (w : World) : (Instr.index 95 (.agg c.rows) (.int .i64 2)).run Try.prog w = .ok (.agg #[.int .i64 c.o2, .int .i64 1, .int .i64 c.nd, .int .i64 1]) w := by
  have hu : Try.prog.underlying 95 = some (.array 5 94) := by kernel_rfl
  simp [Instr.index, run_underlying hu, asIntOf, go_sem]
theorem index_rows3 (c : Cf) (w : World) : (Instr.index 95 (.agg c.rows) (.int .i64 3)).run Try.prog w = .ok (.agg #[.int .i64 c.o3, .int .i64 1, .int .i64 c.nd, .int .i64 c.width]) w := by
  have hu : Try.prog.underlying 95 = some (.array 5 94) := by kernel_rfl
  simp [Instr.index, run_underlying hu, asIntOf, go_sem]
theorem index_rows4 (c : Cf) (w : World) : (Instr.index 95 (.agg c.rows) (.int .i64 4)).run Try.prog w = .ok (.agg #[.int .i64 c.o4, i0, .int .i64 c.places, .int .i64 1]) w := by
  have hu : Try.prog.underlying 95 = some (.array 5 94) := by kernel_rfl
  simp [Instr.index, run_underlying hu, asIntOf, go_sem]
theorem index_zero0 (w : World) : (Instr.index 95 (.agg z20) (.int .i64 0)).run Try.prog w = .ok (.agg #[i0, i0, i0, i0]) w := by
  have hu : Try.prog.underlying 95 = some (.array 5 94) := by kernel_rfl
  simp [Instr.index, run_underlying hu, asIntOf, go_sem]
theorem index_zero1 (w : World) : (Instr.index 95 (.agg z20) (.int .i64 1)).run Try.prog w = .ok (.agg #[i0, i0, i0, i0]) w := by
  have hu : Try.prog.underlying 95 = some (.array 5 94) := by kernel_rfl
  simp [Instr.index, run_underlying hu, asIntOf, go_sem]
theorem index_zero2 (w : World) : (Instr.index 95 (.agg z20) (.int .i64 2)).run Try.prog w = .ok (.agg #[i0, i0, i0, i0]) w := by
  have hu : Try.prog.underlying 95 = some (.array 5 94) := by kernel_rfl
  simp [Instr.index, run_underlying hu, asIntOf, go_sem]
theorem index_zero3 (w : World) : (Instr.index 95 (.agg z20) (.int .i64 3)).run Try.prog w = .ok (.agg #[i0, i0, i0, i0]) w := by
  have hu : Try.prog.underlying 95 = some (.array 5 94) := by kernel_rfl
  simp [Instr.index, run_underlying hu, asIntOf, go_sem]
theorem index_zero4 (w : World) : (Instr.index 95 (.agg z20) (.int .i64 4)).run Try.prog w = .ok (.agg #[i0, i0, i0, i0]) w := by
  have hu : Try.prog.underlying 95 = some (.array 5 94) := by kernel_rfl
  simp [Instr.index, run_underlying hu, asIntOf, go_sem]
/-! ### Size -/
set_option maxHeartbeats 1000000 in
theorem size_ok (c : Cf) (w : World) (h : c.Ok) : Calls Try.prog 25 #[c.v] w fun e w' => e = .returned (.int .i64 c.size) ∧ Below w.heap.size w w' := by
  have ha := fun W => areas_ok c W h
  obtain ⟨-, -, -, -, ⟨m9, m10⟩, -⟩ := h.bounds
  obtain ⟨p1, p2⟩ := h.places
  have he : ∀ W, Calls Try.prog 40 #[.agg #[.int .i64 c.o4, i0, .int .i64 c.places, .int .i64 1]] W fun e w' => e = .returned (.int .i64 c.size) ∧ Below W.heap.size W w' := fun W => end_any c.o4 0 c.places 1 W (by omega) (by omega) (by omega) (by omega)
  clear m9 m10 p1 p2 h
  have hx := index_rows4 c
  go_enter Try.func25, Try.ntmps25
  go_wp2_with fail
  refine (ha _).mono ?_
  rintro e w1 ⟨rfl, hb⟩
  obtain ⟨hB, h0⟩ := boxed c hb
  clear hb hB ha
  go_wp2_with fail
  refine (he _).mono ?_
  rintro e w2 ⟨rfl, hb⟩
  go_wp2
  go_ret
  exact ⟨rfl, below_then h0 hb (Nat.le_refl _)⟩
set_option maxHeartbeats 1000000 in
theorem size_zero (w : World) : Calls Try.prog 25 #[zc.v] w fun e w' => e = .returned (.int .i64 0) ∧ Below w.heap.size w w' := by
  have he : ∀ W, Calls Try.prog 40 #[.agg #[i0, i0, i0, i0]] W fun e w' => e = .returned (.int .i64 0) ∧ Below W.heap.size W w' := fun W => end_any 0 0 0 0 W (by omega) (by omega) (by omega) (by omega)
  have hx := index_zero4
  go_enter Try.func25, Try.ntmps25
  go_wp2_with fail
  refine (areas_zero _).mono ?_
  rintro e w1 ⟨rfl, hb⟩
  obtain ⟨hB, h0⟩ := boxed zc hb
  clear hb hB
  go_wp2_with fail
  refine (he _).mono ?_
  rintro e w2 ⟨rfl, hb⟩
  go_wp2
  go_ret
  exact ⟨rfl, below_then h0 hb (Nat.le_refl _)⟩

/-! ### address -/
/-- The address of a word of a row of an area. -/
def addrN (f b r k row word : Int) : Int := if b ≤ row ∧ row - b < r ∧ 0 ≤ word ∧ word < k then f + (row - b) * k + word else -1
theorem addrN_no {f b r k row word : Int} (h : ¬ (b ≤ row ∧ row - b < r ∧ 0 ≤ word ∧ word < k)) : addrN f b r k row word = -1 := if_neg h
theorem addrN_yes {f b r k row word : Int} (h : b ≤ row ∧ row - b < r ∧ 0 ≤ word ∧ word < k) : addrN f b r k row word = f + (row - b) * k + word := if_pos h

set_option maxHeartbeats 4000000 in
theorem addr_gen (c : Cf) (v : Array Value) (i f b r k row word : Int) (w : World)
    (ha : ∀ W, Calls Try.prog 39 #[c.v] W fun e w' => e = .returned (.agg v) ∧ Below W.heap.size W w')
    (hx : ∀ W, (Instr.index 95 (.agg v) (.int .i64 i)).run Try.prog W = .ok (.agg #[.int .i64 f, .int .i64 b, .int .i64 r, .int .i64 k]) W)
    (f0 : 0 ≤ f) (f1 : f ≤ 1000) (b0 : 0 ≤ b) (b1 : b ≤ 1) (r0 : 0 ≤ r) (r1 : r ≤ 64) (k0 : 0 ≤ k) (k1 : k ≤ 14) (w0 : -9223372036854775808 ≤ row) (w1 : row ≤ 9223372036854775807) (w2 : -9223372036854775808 ≤ word) (w3 : word ≤ 9223372036854775807) :
    Calls Try.prog 67 #[c.v, .int .i64 i, .int .i64 row, .int .i64 word] w fun e w' => e = .returned (.int .i64 (addrN f b r k row word)) ∧ Below w.heap.size w w' := by
  by_cases c1 : row < b
  · rw [addrN_no (by omega)]
    go_enter Try.func67, Try.ntmps67
    go_wp2_with fail
    refine (ha _).mono ?_
    rintro e V ⟨rfl, hb⟩
    obtain ⟨hB, h0⟩ := boxed c hb
    clear hb hB ha
    go_wp2
    go_ret
    exact ⟨rfl, h0.alloc (Nat.le_trans (Nat.le_refl _) h0.size) _⟩
  by_cases c2 : r ≤ row - b
  · rw [addrN_no (by omega)]
    go_enter Try.func67, Try.ntmps67
    go_wp2_with fail
    refine (ha _).mono ?_
    rintro e V ⟨rfl, hb⟩
    obtain ⟨hB, h0⟩ := boxed c hb
    clear hb hB ha
    go_wp2
    go_ret
    exact ⟨rfl, h0.alloc (Nat.le_trans (Nat.le_refl _) h0.size) _⟩
  by_cases c3 : word < 0
  · rw [addrN_no (by omega)]
    go_enter Try.func67, Try.ntmps67
    go_wp2_with fail
    refine (ha _).mono ?_
    rintro e V ⟨rfl, hb⟩
    obtain ⟨hB, h0⟩ := boxed c hb
    clear hb hB ha
    go_wp2
    go_ret
    exact ⟨rfl, h0.alloc (Nat.le_trans (Nat.le_refl _) h0.size) _⟩
  by_cases c4 : k ≤ word
  · rw [addrN_no (by omega)]
    go_enter Try.func67, Try.ntmps67
    go_wp2_with fail
    refine (ha _).mono ?_
    rintro e V ⟨rfl, hb⟩
    obtain ⟨hB, h0⟩ := boxed c hb
    clear hb hB ha
    go_wp2
    go_ret
    exact ⟨rfl, h0.alloc (Nat.le_trans (Nat.le_refl _) h0.size) _⟩
  · rw [addrN_yes (by omega)]
    obtain ⟨m0, m1⟩ := mul_in (a := row - b) (b := k) (A := 64) (B := 14) (by omega) (by omega) k0 k1
    go_enter Try.func67, Try.ntmps67
    go_wp2_with fail
    refine (ha _).mono ?_
    rintro e V ⟨rfl, hb⟩
    obtain ⟨hB, h0⟩ := boxed c hb
    clear hb hB ha
    go_wp2
    go_ret
    exact ⟨rfl, h0.alloc (Nat.le_trans (Nat.le_refl _) h0.size) _⟩
end Go.Proofs.Ytnedifcjenlcjaa.P
