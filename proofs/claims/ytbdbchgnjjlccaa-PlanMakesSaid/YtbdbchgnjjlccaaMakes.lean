/- PlanMakes's walk. -/
import Derived.Test.YtbdbchgnjjlccaaTells
namespace Go.Proofs.Ytbdbchgnjjlccaa
open Go.ChangeShapes Go.WideShapes Go.ChangeAt Go.RowKit
set_option linter.unusedVariables false

/-- Amid PlanMakes: the configuration's box C, the plan's box P. -/
structure MakeS (c : Cf) (w : World) (C P : Nat) (W : World) : Prop where
  q : Blk W C 23 c.cs
  p : Blk W P 25 c.cs
  bel : Below w.heap.size w W
theorem MakeS.below {c : Cf} {w : World} {C P : Nat} {W W1 : World} (h : MakeS c w C P W) (hb : Below W.heap.size W W1) : MakeS c w C P W1 :=
  ⟨h.q.below hb h.q.lt, h.p.below hb h.p.lt, below_then h.bel hb (Nat.le_refl _)⟩
theorem MakeS.drew {c : Cf} {w : World} {C P : Nat} {W : World} (h : MakeS c w C P W) : MakeS c w C P W.drew := ⟨h.q, h.p, below_drew1 h.bel⟩
theorem MakeS.cells {c : Cf} {w : World} {C P : Nat} {W : World} (h : MakeS c w C P W) : W.cell? ⟨C, 0, none⟩ = some (.int .i64 c.al) ∧ W.cell? ⟨C, 1, none⟩ = some (.int .i64 c.th) ∧ W.cell? ⟨C, 2, none⟩ = some (.int .i64 c.nd) ∧ W.cell? ⟨C, 3, none⟩ = some (.int .i64 c.lv) ∧ W.cell? ⟨C, 4, none⟩ = some (.int .i64 c.ba) ∧ W.cell? ⟨C, 5, none⟩ = some (.int .i64 c.pr) ∧ W.cell? ⟨C, 6, none⟩ = some (.int .i64 c.sc) ∧ W.cell? ⟨P, 0, none⟩ = some (.int .i64 c.al) ∧ W.cell? ⟨P, 1, none⟩ = some (.int .i64 c.th) ∧ W.cell? ⟨P, 2, none⟩ = some (.int .i64 c.nd) ∧ W.cell? ⟨P, 3, none⟩ = some (.int .i64 c.lv) ∧ W.cell? ⟨P, 4, none⟩ = some (.int .i64 c.ba) ∧ W.cell? ⟨P, 5, none⟩ = some (.int .i64 c.pr) ∧ W.cell? ⟨P, 6, none⟩ = some (.int .i64 c.sc) := by
  obtain ⟨a0, a1, a2, a3, a4, a5, a6⟩ := h.q.conf
  exact ⟨a0, a1, a2, a3, a4, a5, a6, h.p.conf⟩

set_option maxRecDepth 100000 in
set_option maxHeartbeats 64000000 in
theorem makes_ok (c : Cf) (w : World) (h : c.Ok) : Calls Try.prog 3 #[c.v] w fun e w' => e = .returned (.bool true) ∧ Below w.heap.size w w' := by
  have HL := Lib.hid lives_any
  obtain ⟨u1, u2, u3, u4, u5⟩ := h.steps
  obtain ⟨n, hn⟩ : ∃ n : Nat, c.size = n := ⟨c.size.toNat, by omega⟩
  have hn2 : c.size.toNat = n := by omega
  have K9 : ∀ W, Calls Try.prog 9 #[c.v] W fun e w' => e = .returned (.int .i64 n) ∧ Below W.heap.size W w' := fun W => by rw [← hn]; exact size_ok c W h
  have K18 : ∀ W, Calls Try.prog 18 #[c.v] W fun e w' => ∃ g cap, e = .returned (.slice (some ⟨g, 0, none⟩) n cap) ∧ Below W.heap.size W w' := fun W => (all_form c W h).mono fun e w' ⟨g, cap, he, _, _, _, hb⟩ => ⟨g, cap, by rw [← hn2]; exact he, hb⟩
  have hn3 : n ≤ 924 := by omega
  have K10 := conf_any c
  have K12 := fun W => slots_ok c W h
  have K13 := fun W => rslots_ok c W h
  have K14 := fun W => width_ok c W h
  have K15 := fun W => rwidth_ok c W h
  have K16 := sentinelsM_any c
  have K17 := rsent_any c
  have hq : ∀ w, (Op.equalIn 10000 23 c.v c.v).run Try.prog w = .ok true w := fun w => by rw [eq_conf, Cf.eqB_self]
  have KN := fun W => new_ok c W h
  have KR := fun W => right_ok c W h
  clear u1 u2 u3 u4 u5 hn hn2 h
  generalize c.slots = sl at *
  generalize c.width = wi at *
  generalize sent c.al = se at *
  go_enter Try.func3, Try.ntmps3
  go_wp2_with fail
  refine (KN _).mono ?_
  rintro e V ⟨rfl, hb⟩
  obtain ⟨hB, h0⟩ := boxed c hb
  have hP := Blk.new V 25 c.cs
  have hC := hB.alloc (.cells c.cs 25)
  have h1 := h0.alloc h0.size (.cells c.cs 25)
  clear hb hB h0 KN
  obtain ⟨p0, p1, p2, p3, p4, p5, p6⟩ := hC.conf
  go_wp2_with fail
  refine (KR _).mono ?_
  rintro e V1 ⟨rfl, hb⟩
  have S0 : MakeS c w w.heap.size V.heap.size V1 := ⟨hC.below hb hC.lt, hP.below hb hP.lt, below_then h1 hb (Nat.le_refl _)⟩
  clear hb hC hP h1 KR p0 p1 p2 p3 p4 p5 p6
  generalize hCn : w.heap.size = C at *
  have HC := Lib.hid hCn
  clear hCn
  generalize V.heap.size = P at *
  go_wp2_with fail
  have S1 := S0.drew
  obtain ⟨y0, y1, y2, y3, y4, y5, y6, y7, y8, y9, y10, y11, y12, y13⟩ := S0.cells
  clear S0
  go_region_held3 (fun W => W.cell? ⟨C, 0, none⟩ = some (.int .i64 c.al) ∧ W.cell? ⟨C, 1, none⟩ = some (.int .i64 c.th) ∧ W.cell? ⟨C, 2, none⟩ = some (.int .i64 c.nd) ∧ W.cell? ⟨C, 3, none⟩ = some (.int .i64 c.lv) ∧ W.cell? ⟨C, 4, none⟩ = some (.int .i64 c.ba) ∧ W.cell? ⟨C, 5, none⟩ = some (.int .i64 c.pr) ∧ W.cell? ⟨C, 6, none⟩ = some (.int .i64 c.sc) ∧ W.cell? ⟨P, 0, none⟩ = some (.int .i64 c.al) ∧ W.cell? ⟨P, 1, none⟩ = some (.int .i64 c.th) ∧ W.cell? ⟨P, 2, none⟩ = some (.int .i64 c.nd) ∧ W.cell? ⟨P, 3, none⟩ = some (.int .i64 c.lv) ∧ W.cell? ⟨P, 4, none⟩ = some (.int .i64 c.ba) ∧ W.cell? ⟨P, 5, none⟩ = some (.int .i64 c.pr) ∧ W.cell? ⟨P, 6, none⟩ = some (.int .i64 c.sc)) (first | exact MakeS.cells (c := c) (w := w) (C := C) (P := P) (by assumption) | go_keep)
    (first | (go_at_call 10; refine (K10 _).mono ?_; rintro e V' ⟨rfl, hb⟩; have S' := MakeS.below (by assumption) hb; clear hb) | (go_at_call 12; refine (K12 _).mono ?_; rintro e V' ⟨rfl, hb⟩; have S' := MakeS.below (by assumption) hb; clear hb) | (go_at_call 13; refine (K13 _).mono ?_; rintro e V' ⟨rfl, hb⟩; have S' := MakeS.below (by assumption) hb; clear hb) | (go_at_call 14; refine (K14 _).mono ?_; rintro e V' ⟨rfl, hb⟩; have S' := MakeS.below (by assumption) hb; clear hb) | (go_at_call 15; refine (K15 _).mono ?_; rintro e V' ⟨rfl, hb⟩; have S' := MakeS.below (by assumption) hb; clear hb) | (go_at_call 16; refine (K16 _).mono ?_; rintro e V' ⟨rfl, hb⟩; have S' := MakeS.below (by assumption) hb; clear hb) | (go_at_call 17; refine (K17 _).mono ?_; rintro e V' ⟨rfl, hb⟩; have S' := MakeS.below (by assumption) hb; clear hb) | (go_at_call 9; refine (K9 _).mono ?_; rintro e V' ⟨rfl, hb⟩; have S' := MakeS.below (by assumption) hb; clear hb) | (go_at_call 11; refine (HL.out _).mono ?_; rintro e V' ⟨rfl, hb⟩; have S' := MakeS.below (by assumption) hb; clear hb) | (go_at_call 18; refine (K18 _).mono ?_; rintro e V' ⟨g, cap, rfl, hb⟩; have S' := MakeS.below (by assumption) hb; clear hb))
  all_goals
    go_wp2
    go_ret
    exact ⟨rfl, MakeS.bel (c := c) (C := C) (P := P) (by assumption)⟩

set_option maxRecDepth 100000 in
set_option maxHeartbeats 8000000 in
theorem makes_bad (c : Cf) (w : World) (h : ¬ c.Ok) : Calls Try.prog 3 #[c.v] w fun e w' => e = .returned (.bool true) ∧ Below w.heap.size w w' := by
  have HL := Lib.hid lives_any
  have KN := fun W => new_bad c W h
  have KR := fun W => right_bad c W h
  have hq : ∀ w, (Op.equalIn 10000 23 zc.v zc.v).run Try.prog w = .ok true w := fun w => by rw [eq_conf, Cf.eqB_self]
  clear h
  go_enter Try.func3, Try.ntmps3
  go_wp2_with fail
  refine (KN _).mono ?_
  rintro e V ⟨rfl, hb⟩
  obtain ⟨hB, h0⟩ := boxed c hb
  have hP := Blk.new V 25 zc.cs
  have hC := hB.alloc (.cells zc.cs 25)
  have h1 := h0.alloc h0.size (.cells zc.cs 25)
  clear hb hB h0 KN
  obtain ⟨p0, p1, p2, p3, p4, p5, p6⟩ := hC.conf
  go_wp2_with fail
  refine (KR _).mono ?_
  rintro e V1 ⟨rfl, hb⟩
  have hP1 := hP.below hb hP.lt
  have h2 := below_then h1 hb (Nat.le_refl _)
  clear hb hC hP h1 KR p0 p1 p2 p3 p4 p5 p6
  generalize V.heap.size = P at *
  obtain ⟨p0, p1, p2, p3, p4, p5, p6⟩ := hP1.conf
  go_wp2_with fail
  refine (size_zero _).mono ?_
  rintro e V2 ⟨rfl, hb⟩
  have hP2 := hP1.below hb hP1.lt
  have h3 := below_then h2 hb (Nat.le_refl _)
  clear hb hP1 h2 p0 p1 p2 p3 p4 p5 p6
  obtain ⟨p0, p1, p2, p3, p4, p5, p6⟩ := hP2.conf
  go_wp2_with fail
  refine (conf_any zc _).mono ?_
  rintro e V3 ⟨rfl, hb⟩
  have h4 := below_then h3 hb (Nat.le_refl _)
  clear hb hP2 h3 p0 p1 p2 p3 p4 p5 p6
  go_wp2_with fail
  refine (HL.out _).mono ?_
  rintro e V4 ⟨rfl, hb⟩
  go_wp2
  go_ret
  exact ⟨rfl, below_then h4 hb (Nat.le_refl _)⟩
theorem makes_all (c : Cf) (w : World) : Calls Try.prog 3 #[c.v] w fun e w' => e = .returned (.bool true) ∧ Below w.heap.size w w' := by
  by_cases h : c.Ok
  · exact makes_ok c w h
  · exact makes_bad c w h
end Go.Proofs.Ytbdbchgnjjlccaa
