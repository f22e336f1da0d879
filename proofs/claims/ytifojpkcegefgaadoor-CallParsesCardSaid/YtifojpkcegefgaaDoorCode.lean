/- Code. -/
import Derived.Test.YtifojpkcegefgaaDoorCodes
import Derived.Laws.MakeOwn
namespace Go.Proofs.YtifojpkcegefgaaDoor
open Go.ChangeShapes Go.WideShapes Go.ChangeAt Go.RowKit
set_option linter.unusedVariables false

/-- A call's nine bytes. -/
def codeBs (c : Tri) : List Int := [c.op, byteOf c.key 0, byteOf c.key 1, byteOf c.key 2, byteOf c.key 3, byteOf c.val 0, byteOf c.val 1, byteOf c.val 2, byteOf c.val 3]
theorem right_op {c : Tri} (h : rightB c = true) : c.op = 0 ∨ ((c.op = 1 ∨ c.op = 2) ∧ c.key = 0 ∧ c.val = 0) := by
  obtain ⟨o, k, v⟩ := c
  simp [rightB, bare] at h
  exact h

set_option maxRecDepth 100000 in
theorem code_bad (c : Tri) (w : World) (h : rightB c = false) : Calls Tryd.prog 23 #[c.v] w fun e w' => e = .returned (.slice none 0 0) ∧ Below w.heap.size w w' := by
  have R := right_any c
  rw [h] at R
  have b0 := (Below.refl w.heap.size w).alloc (Nat.le_refl _) (.cells c.cs 24)
  obtain ⟨o, k, v⟩ := c
  have HB := Lib.hid b0
  clear b0 h
  go_enter Tryd.func23, Tryd.ntmps23
  go_wp2_with fail
  refine (R _).mono ?_
  rintro e w1 ⟨rfl, hb⟩
  have HB1 := Lib.hid (below_then HB.out hb)
  clear hb R
  go_wp2
  go_ret
  exact ⟨rfl, HB1.out⟩

theorem info_parts {t : TypeId} {z : Value} {n m : Nat} (h : (Tryd.prog.info? t).map (fun i => (i.zero, i.size, i.bytes)) = some (some z, n, m)) : ∃ i, Tryd.prog.info? t = some i ∧ i.zero = some z ∧ i.size = n ∧ i.bytes = m := by
  obtain ⟨i, hi, e⟩ := Option.map_eq_some_iff.1 h
  simp only [Prod.mk.injEq] at e
  exact ⟨i, hi, e.1, e.2.1, e.2.2⟩
theorem info5 : (Tryd.prog.info? 5).map (fun i => (i.zero, i.size, i.bytes)) = some (some (.int .u8 0), 1, 1) := by kernel_rfl
theorem made (w : World) : (Instr.makeSlice 43 (.int .i64 9) (.int .i64 9)).run Tryd.prog w = .ok (.slice (some ⟨w.heap.size, 0, none⟩) 9 9) (w.alloc (.cells nought 5)) := by
  obtain ⟨i, hi, h0, h1, h2⟩ := info_parts info5
  have := run_makeSlice (P := Tryd.prog) w 43 5 i (.int .u8 0) Tryd.underlying43 hi h0 .i64 .i64 9 9 (by omega) (by omega) (by rw [h1]; decide) (by rw [h2]; omega) (by omega)
  rw [this, h1]
  have hc : madeCells (Value.int .u8 0).cells (Int.toNat 9 * 1) = nought := by kernel_rfl
  rw [hc]
  rfl
/-- The call, boxed, and the row of its bytes. -/
structure CR (c : Tri) (w : World) (C B : Nat) (row : Array Value) (W : World) : Prop where
  hc : Blk W C 24 c.cs
  hr : Blk W B 5 row
  ne : C ≠ B
  low : w.heap.size ≤ B
  bel : Below w.heap.size w W
theorem CR.drew {c : Tri} {w W : World} {C B : Nat} {row : Array Value} (h : CR c w C B row W) : CR c w C B row W.drew := ⟨h.hc.drew, h.hr.drew, h.ne, h.low, below_drew h.bel⟩
theorem CR.cells {c : Tri} {w W : World} {C B : Nat} {row : Array Value} (h : CR c w C B row W) : W.cell? ⟨C, 0, none⟩ = some (.int .i64 c.op) ∧ W.cell? ⟨C, 1, none⟩ = some (.int .u32 c.key) ∧ W.cell? ⟨C, 2, none⟩ = some (.int .u32 c.val) := by
  obtain ⟨c0, c1, c2, _⟩ := blk_cells h.hc
  exact ⟨c0, c1, c2⟩
theorem CR.set {c : Tri} {w W : World} {C B : Nat} {row : Array Value} (h : CR c w C B row W) (i : Nat) (u : Value) : CR c w C B (row.setIfInBounds i u) (W.setCell ⟨B, i, none⟩ u) :=
  ⟨h.hc.far h.ne u, h.hr.set i u, h.ne, h.low, below_set h.bel (p := ⟨B, i, none⟩) h.low u⟩
/-- Four bytes written from a place on. -/
abbrev row4 (row : Array Value) (i : Nat) (m : Int) : Array Value := (((row.setIfInBounds i (.int .u8 (byteOf m 0))).setIfInBounds (i + 1) (.int .u8 (byteOf m 1))).setIfInBounds (i + 2) (.int .u8 (byteOf m 2))).setIfInBounds (i + 3) (.int .u8 (byteOf m 3))
theorem CR.lay {c : Tri} {w W : World} {C B : Nat} {row : Array Value} (h : CR c w C B row W) (hs : row.size = 9) (i n cap : Nat) (hi : i + 4 ≤ 9) (hn : 4 ≤ n) (m : Int) (h0 : 0 ≤ m) (h1 : m < 4294967296) :
    Calls Tryd.prog 31 #[.slice (some ⟨B, i, none⟩) n cap, .int .u32 m] W fun e W' => e = .returned (.tuple #[]) ∧ CR c w C B (row4 row i m) W' := by
  refine (lay_any B i n cap m W h0 h1 hn (fun j hj => ?_) (fun j hj => h.hr.frozen _)).mono fun e W' ⟨he, hw⟩ => ⟨he, ?_⟩
  · rw [h.hr.cell]
    exact ⟨_, Array.getElem?_eq_getElem (by omega)⟩
  · subst hw
    exact (((h.set i _).set (i + 1) _).set (i + 2) _).set (i + 3) _

set_option maxRecDepth 100000 in
set_option maxHeartbeats 4000000 in
theorem code_good (c : Tri) (f : Fit c) (w : World) (h : rightB c = true) : Calls Tryd.prog 23 #[c.v] w fun e w' => ∃ B, e = .returned (.slice (some ⟨B, 0, none⟩) 9 9) ∧ w.heap.size ≤ B ∧ Blk w' B 5 (encB (codeBs c)).toArray ∧ Below w.heap.size w w' := by
  have R := right_any c
  rw [h] at R
  have hop := right_op h
  have b0 := (Below.refl w.heap.size w).alloc (Nat.le_refl _) (.cells c.cs 24)
  have k0 : Blk (w.alloc (.cells c.cs 24)) w.heap.size 24 c.cs := Blk.new _ _ _
  obtain ⟨o, k, v⟩ := c
  obtain ⟨f0, f1, f2, f3⟩ := f
  simp only at f0 f1 f2 f3 hop
  have ho : IntKind.u8.wrap o = o := by rw [IntKind.wrap_u8]; omega
  have HB := Lib.hid b0
  have HK := Lib.hid k0
  clear b0 k0 h hop
  go_enter Tryd.func23, Tryd.ntmps23
  go_wp2_with fail
  refine (R _).mono ?_
  rintro e w1 ⟨rfl, hb⟩
  have HB1 := Lib.hid (below_then HB.out hb)
  have HK1 := Lib.hid (HK.out.below hb HK.out.lt)
  have hlt := HK1.out.lt
  clear hb R HK HB
  obtain ⟨c0, c1, c2, _⟩ := blk_cells HK1.out
  have hmk := made w1
  go_wp2_with fail
  have S : CR ⟨o, k, v⟩ w w.heap.size w1.heap.size #[.int .u8 o, .int .u8 0, .int .u8 0, .int .u8 0, .int .u8 0, .int .u8 0, .int .u8 0, .int .u8 0, .int .u8 0] (w1.alloc (.cells #[.int .u8 o, .int .u8 0, .int .u8 0, .int .u8 0, .int .u8 0, .int .u8 0, .int .u8 0, .int .u8 0, .int .u8 0] 5)) :=
    ⟨HK1.out.alloc _, Blk.new _ _ _, by omega, HB1.out.size, HB1.out.alloc HB1.out.size _⟩
  have L1 := fun W (h : CR ⟨o, k, v⟩ w w.heap.size w1.heap.size #[.int .u8 o, .int .u8 0, .int .u8 0, .int .u8 0, .int .u8 0, .int .u8 0, .int .u8 0, .int .u8 0, .int .u8 0] W) => h.lay rfl 1 8 8 (by decide) (by decide) k f0 f1
  have L2 := fun W (h : CR ⟨o, k, v⟩ w w.heap.size w1.heap.size (row4 #[.int .u8 o, .int .u8 0, .int .u8 0, .int .u8 0, .int .u8 0, .int .u8 0, .int .u8 0, .int .u8 0, .int .u8 0] 1 k) W) => h.lay (by simp) 5 4 4 (by decide) (by decide) v f2 f3
  have hfin : row4 (row4 #[.int .u8 o, .int .u8 0, .int .u8 0, .int .u8 0, .int .u8 0, .int .u8 0, .int .u8 0, .int .u8 0, .int .u8 0] 1 k) 5 v = (encB (codeBs ⟨o, k, v⟩)).toArray := rfl
  clear HB1 HK1 c0 c1 c2 hmk hlt
  generalize hV : w1.alloc (.cells #[.int .u8 o, .int .u8 0, .int .u8 0, .int .u8 0, .int .u8 0, .int .u8 0, .int .u8 0, .int .u8 0, .int .u8 0] 5) = V at *
  have HV := Lib.hid hV
  clear hV
  generalize hr1 : row4 #[.int .u8 o, .int .u8 0, .int .u8 0, .int .u8 0, .int .u8 0, .int .u8 0, .int .u8 0, .int .u8 0, .int .u8 0] 1 k = row1 at *
  generalize hr0 : (#[.int .u8 o, .int .u8 0, .int .u8 0, .int .u8 0, .int .u8 0, .int .u8 0, .int .u8 0, .int .u8 0, .int .u8 0] : Array Value) = row0 at *
  generalize hr2 : row4 row1 5 v = row2 at *
  have HF := Lib.hid hfin
  clear hr1 hr0 hr2 hfin
  generalize w1.heap.size = B at *
  generalize hC : w.heap.size = C at *
  have HC := Lib.hid hC
  clear hC
  obtain ⟨c0, c1, c2⟩ := S.cells
  have S' := S.drew
  clear S
  go_region_held3 (fun W => W.cell? ⟨C, 0, none⟩ = some (.int .i64 o) ∧ W.cell? ⟨C, 1, none⟩ = some (.int .u32 k) ∧ W.cell? ⟨C, 2, none⟩ = some (.int .u32 v)) (first | exact CR.cells (c := ⟨o, k, v⟩) (w := w) (C := C) (B := B) (row := row0) (by assumption) | exact CR.cells (c := ⟨o, k, v⟩) (w := w) (C := C) (B := B) (row := row1) (by assumption) | go_keep)
    (first | (go_at_call 31; refine (L1 _ (by assumption)).mono ?_; rintro e V' ⟨rfl, S2⟩))
  clear c0 c1 c2 S' L1
  have T := S2.drew
  obtain ⟨c0, c1, c2⟩ := S2.cells
  clear S2
  go_wp2_with fail
  go_region_held3 (fun W => W.cell? ⟨C, 0, none⟩ = some (.int .i64 o) ∧ W.cell? ⟨C, 1, none⟩ = some (.int .u32 k) ∧ W.cell? ⟨C, 2, none⟩ = some (.int .u32 v)) (first | exact CR.cells (c := ⟨o, k, v⟩) (w := w) (C := C) (B := B) (row := row1) (by assumption) | exact CR.cells (c := ⟨o, k, v⟩) (w := w) (C := C) (B := B) (row := row2) (by assumption) | go_keep)
    (first | (go_at_call 31; refine (L2 _ (by assumption)).mono ?_; rintro e V2 ⟨rfl, S3⟩))
  clear c0 c1 c2 T L2
  go_wp2
  go_ret
  exact ⟨B, rfl, HC.out ▸ S3.low, HF.out ▸ S3.hr, S3.bel⟩
end Go.Proofs.YtifojpkcegefgaaDoor
