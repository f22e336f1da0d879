/- Hazard, Link, Node, Tree; Where. -/
import Derived.Test.YtnedifcjenlcjaaPZero
import Derived.BigQuiet
namespace Go.Proofs.Ytnedifcjenlcjaa.P
open Go.ChangeShapes Go.WideShapes Go.ChangeAt Go.RowKit
set_option linter.unusedVariables false
set_option maxRecDepth 20000


def I64 (x : Int) : Prop := -9223372036854775808 ≤ x ∧ x ≤ 9223372036854775807
def Cf.hazard (c : Cf) (t s : Int) : Int := addrN 8 0 c.th c.slots t s
def Cf.link (c : Cf) (n : Int) : Int := addrN c.o2 1 c.nd 1 n 0
def Cf.node (c : Cf) (n f : Int) : Int := addrN c.o3 1 c.nd c.width n f
def Cf.tree (c : Cf) (p : Int) : Int := addrN c.o4 0 c.places 1 p 0
theorem small0 : I64 0 := ⟨by omega, by omega⟩

theorem addr1_ok (c : Cf) (row word : Int) (w : World) (h : c.Ok) (hr : I64 row) (hw : I64 word) :
    Calls Try.prog 67 #[c.v, .int .i64 1, .int .i64 row, .int .i64 word] w fun e w' => e = .returned (.int .i64 (addrN 8 0 c.th c.slots row word)) ∧ Below w.heap.size w w' := by
  obtain ⟨⟨m1, m2⟩, ⟨m3, m4⟩, ⟨m5, m6⟩, ⟨m7, m8⟩, ⟨m9, m10⟩, -⟩ := h.bounds
  obtain ⟨n1, n2⟩ := h.nd
  obtain ⟨t1, t2⟩ := h.th
  obtain ⟨s1, s2⟩ := h.slots
  obtain ⟨q1, q2⟩ := h.width
  obtain ⟨p1, p2⟩ := h.places
  exact addr_gen c c.rows 1 _ _ _ _ row word w (fun W => areas_ok c W h) (index_rows1 c) (by omega) (by omega) (by omega) (by omega) (by omega) (by omega) (by omega) (by omega) hr.1 hr.2 hw.1 hw.2
theorem addr1_zero (row word : Int) (w : World) (hr : I64 row) (hw : I64 word) :
    Calls Try.prog 67 #[zc.v, .int .i64 1, .int .i64 row, .int .i64 word] w fun e w' => e = .returned (.int .i64 (-1)) ∧ Below w.heap.size w w' := by
  have := addr_gen zc z20 1 0 0 0 0 row word w areas_zero index_zero1 (by omega) (by omega) (by omega) (by omega) (by omega) (by omega) (by omega) (by omega) hr.1 hr.2 hw.1 hw.2
  rw [addrN_no (by omega)] at this
  exact this
theorem addr2_ok (c : Cf) (row word : Int) (w : World) (h : c.Ok) (hr : I64 row) (hw : I64 word) :
    Calls Try.prog 67 #[c.v, .int .i64 2, .int .i64 row, .int .i64 word] w fun e w' => e = .returned (.int .i64 (addrN c.o2 1 c.nd 1 row word)) ∧ Below w.heap.size w w' := by
  obtain ⟨⟨m1, m2⟩, ⟨m3, m4⟩, ⟨m5, m6⟩, ⟨m7, m8⟩, ⟨m9, m10⟩, -⟩ := h.bounds
  obtain ⟨n1, n2⟩ := h.nd
  obtain ⟨t1, t2⟩ := h.th
  obtain ⟨s1, s2⟩ := h.slots
  obtain ⟨q1, q2⟩ := h.width
  obtain ⟨p1, p2⟩ := h.places
  exact addr_gen c c.rows 2 _ _ _ _ row word w (fun W => areas_ok c W h) (index_rows2 c) (by omega) (by omega) (by omega) (by omega) (by omega) (by omega) (by omega) (by omega) hr.1 hr.2 hw.1 hw.2
theorem addr2_zero (row word : Int) (w : World) (hr : I64 row) (hw : I64 word) :
    Calls Try.prog 67 #[zc.v, .int .i64 2, .int .i64 row, .int .i64 word] w fun e w' => e = .returned (.int .i64 (-1)) ∧ Below w.heap.size w w' := by
  have := addr_gen zc z20 2 0 0 0 0 row word w areas_zero index_zero2 (by omega) (by omega) (by omega) (by omega) (by omega) (by omega) (by omega) (by omega) hr.1 hr.2 hw.1 hw.2
  rw [addrN_no (by omega)] at this
  exact this
theorem addr3_ok (c : Cf) (row word : Int) (w : World) (h : c.Ok) (hr : I64 row) (hw : I64 word) :
    Calls Try.prog 67 #[c.v, .int .i64 3, .int .i64 row, .int .i64 word] w fun e w' => e = .returned (.int .i64 (addrN c.o3 1 c.nd c.width row word)) ∧ Below w.heap.size w w' := by
  obtain ⟨⟨m1, m2⟩, ⟨m3, m4⟩, ⟨m5, m6⟩, ⟨m7, m8⟩, ⟨m9, m10⟩, -⟩ := h.bounds
  obtain ⟨n1, n2⟩ := h.nd
  obtain ⟨t1, t2⟩ := h.th
  obtain ⟨s1, s2⟩ := h.slots
  obtain ⟨q1, q2⟩ := h.width
  obtain ⟨p1, p2⟩ := h.places
  exact addr_gen c c.rows 3 _ _ _ _ row word w (fun W => areas_ok c W h) (index_rows3 c) (by omega) (by omega) (by omega) (by omega) (by omega) (by omega) (by omega) (by omega) hr.1 hr.2 hw.1 hw.2
theorem addr3_zero (row word : Int) (w : World) (hr : I64 row) (hw : I64 word) :
    Calls Try.prog 67 #[zc.v, .int .i64 3, .int .i64 row, .int .i64 word] w fun e w' => e = .returned (.int .i64 (-1)) ∧ Below w.heap.size w w' := by
  have := addr_gen zc z20 3 0 0 0 0 row word w areas_zero index_zero3 (by omega) (by omega) (by omega) (by omega) (by omega) (by omega) (by omega) (by omega) hr.1 hr.2 hw.1 hw.2
  rw [addrN_no (by omega)] at this
  exact this
theorem addr4_ok (c : Cf) (row word : Int) (w : World) (h : c.Ok) (hr : I64 row) (hw : I64 word) :
    Calls Try.prog 67 #[c.v, .int .i64 4, .int .i64 row, .int .i64 word] w fun e w' => e = .returned (.int .i64 (addrN c.o4 0 c.places 1 row word)) ∧ Below w.heap.size w w' := by
  obtain ⟨⟨m1, m2⟩, ⟨m3, m4⟩, ⟨m5, m6⟩, ⟨m7, m8⟩, ⟨m9, m10⟩, -⟩ := h.bounds
  obtain ⟨n1, n2⟩ := h.nd
  obtain ⟨t1, t2⟩ := h.th
  obtain ⟨s1, s2⟩ := h.slots
  obtain ⟨q1, q2⟩ := h.width
  obtain ⟨p1, p2⟩ := h.places
  exact addr_gen c c.rows 4 _ _ _ _ row word w (fun W => areas_ok c W h) (index_rows4 c) (by omega) (by omega) (by omega) (by omega) (by omega) (by omega) (by omega) (by omega) hr.1 hr.2 hw.1 hw.2
theorem addr4_zero (row word : Int) (w : World) (hr : I64 row) (hw : I64 word) :
    Calls Try.prog 67 #[zc.v, .int .i64 4, .int .i64 row, .int .i64 word] w fun e w' => e = .returned (.int .i64 (-1)) ∧ Below w.heap.size w w' := by
  have := addr_gen zc z20 4 0 0 0 0 row word w areas_zero index_zero4 (by omega) (by omega) (by omega) (by omega) (by omega) (by omega) (by omega) (by omega) hr.1 hr.2 hw.1 hw.2
  rw [addrN_no (by omega)] at this
  exact this
theorem link_ok (c : Cf) (a : Int) (w : World) (h : c.Ok) (ha : I64 a)  :
    Calls Try.prog 46 #[c.v, .int .i64 a] w fun e w' => e = .returned (.int .i64 (c.link a)) ∧ Below w.heap.size w w' := by
  go_enter Try.func46, Try.ntmps46
  go_wp2_with fail
  refine (addr2_ok c a 0 _ h ha small0).mono ?_
  rintro e V ⟨rfl, hV⟩
  obtain ⟨-, h0⟩ := boxed c hV
  go_wp2
  go_ret
  exact ⟨rfl, h0⟩
theorem link_zero (a : Int) (w : World) (ha : I64 a)  :
    Calls Try.prog 46 #[zc.v, .int .i64 a] w fun e w' => e = .returned (.int .i64 (-1)) ∧ Below w.heap.size w w' := by
  go_enter Try.func46, Try.ntmps46
  go_wp2_with fail
  refine (addr2_zero a 0 _ ha small0).mono ?_
  rintro e V ⟨rfl, hV⟩
  obtain ⟨-, h0⟩ := boxed zc hV
  go_wp2
  go_ret
  exact ⟨rfl, h0⟩
theorem node_ok (c : Cf) (a b : Int) (w : World) (h : c.Ok) (ha : I64 a) (hb : I64 b) :
    Calls Try.prog 47 #[c.v, .int .i64 a, .int .i64 b] w fun e w' => e = .returned (.int .i64 (c.node a b)) ∧ Below w.heap.size w w' := by
  go_enter Try.func47, Try.ntmps47
  go_wp2_with fail
  refine (addr3_ok c a b _ h ha hb).mono ?_
  rintro e V ⟨rfl, hV⟩
  obtain ⟨-, h0⟩ := boxed c hV
  go_wp2
  go_ret
  exact ⟨rfl, h0⟩
theorem node_zero (a b : Int) (w : World) (ha : I64 a) (hb : I64 b) :
    Calls Try.prog 47 #[zc.v, .int .i64 a, .int .i64 b] w fun e w' => e = .returned (.int .i64 (-1)) ∧ Below w.heap.size w w' := by
  go_enter Try.func47, Try.ntmps47
  go_wp2_with fail
  refine (addr3_zero a b _ ha hb).mono ?_
  rintro e V ⟨rfl, hV⟩
  obtain ⟨-, h0⟩ := boxed zc hV
  go_wp2
  go_ret
  exact ⟨rfl, h0⟩
end Go.Proofs.Ytnedifcjenlcjaa.P
