/- The walk of GhostRounds. -/
import Derived.Test.YtdipomdnihfjjaaDo
namespace Go.Proofs.Ytdipomdnihfjjaa
open Go.ChangeShapes Go.WideShapes Go.ChangeAt Go.RowKit
set_option linter.unusedVariables false

/-- Three nodes, all free, no fault; the same, the second one's tag being t. -/
abbrev z3 (t : Int) : GS := ⟨[0, t, 0], 0, 0⟩
theorem ka : kindOf (z3 0) 3 0 2 = 0 := by decide
theorem kt1 : kindOf (z3 1) 3 3 2 = 0 := by decide
theorem kr : kindOf (z3 1) 3 1 2 = 0 := by decide
theorem kt2 : kindOf (z3 2) 3 3 2 = 0 := by decide
theorem kf : kindOf (z3 2) 3 2 2 = 0 := by decide
theorem kt0 : kindOf (z3 0) 3 3 2 = 4 := by decide
theorem sa : (z3 0).then 3 0 2 = z3 1 := by simp [GS.then, ka]
theorem st1 : (z3 1).then 3 3 2 = z3 1 := by simp [GS.then, kt1]
theorem sr : (z3 1).then 3 1 2 = z3 2 := by simp [GS.then, kr]
theorem st2 : (z3 2).then 3 3 2 = z3 2 := by simp [GS.then, kt2]
theorem sf : (z3 2).then 3 2 2 = z3 0 := by simp [GS.then, kf]
theorem st0 : (z3 0).then 3 3 2 = ⟨[0, 0, 0], 4, 2⟩ := by simp [GS.then, kt0, GS.bad]
/-- The ghost, and all else as it was. -/
structure Has (B : Nat) (ad : Option Addr) (X : Nat) (k i : Int) (s : GS) (w W : World) : Prop where
  at_ : GAt B ad 3 s W
  low : w.heap.size ≤ B ∧ ∀ g, ad = some ⟨g, 0, none⟩ → w.heap.size ≤ g
  below : Below w.heap.size w W
  op : Blk W X 30 #[.int .i64 k, .int .i64 i]
  opB : X ≠ B ∧ ad ≠ some ⟨X, 0, none⟩
theorem Has.then {B : Nat} {ad : Option Addr} {X : Nat} {k i : Int} {s s' : GS} {w W W' : World} (h : Has B ad X k i s w W) (g : GAt B ad 3 s' W') (o : Only B ad W W') : Has B ad X k i s' w W' :=
  ⟨g, h.low, h.below.trans (o.below h.below.size h.low.1 h.low.2), o.blk h.op h.opB.1 h.opB.2, h.opB⟩
theorem Has.later {B : Nat} {ad : Option Addr} {X : Nat} {k i : Int} {s : GS} {w W W' : World} (h : Has B ad X k i s w W) (b : Below W.heap.size W W') : Has B ad X k i s w W' :=
  ⟨h.at_.below b, h.low, h.below.trans (b.mono h.below.size), h.op.below b, h.opB⟩
theorem ends (n : Int) : ∃ mv d : Int, 0 ≤ d ∧ d ≤ 50 ∧ (∀ w, (Builtin.min_ #[3, 3] 3 #[.int .i64 n, .int .i64 50]).run Try.prog w = .ok (.int .i64 mv) w) ∧ (∀ w, (Builtin.max_ #[3, 3] 3 #[.int .i64 0, .int .i64 mv]).run Try.prog w = .ok (.int .i64 d) w) := by
  refine ⟨if 50 < n then 50 else n, if 0 < (if 50 < n then 50 else n) then (if 50 < n then 50 else n) else 0, ?_, ?_, fun w => ?_, fun w => ?_⟩
  · split <;> omega
  · split <;> split <;> omega
  · simp [Builtin.min_, Builtin.min2]
  · simp [Builtin.max_, Builtin.max2]

theorem field0 (a b : Int) (w : World) : (Instr.field 28 (.agg #[.int .i64 a, .int .i64 b]) 0).run Try.prog w = .ok (.int .i64 a) w := by
  simp [Instr.field, run_underlying Try.underlying28, asAgg, go_sem]
  done
set_option maxRecDepth 100000 in
set_option maxHeartbeats 4000000 in
theorem rounds_all (n k i : Int) (w : World) : Calls Try.prog 4 #[.int .i64 n, opV k i] w fun e w' => e = .returned (.bool true) ∧ Below w.heap.size w w' := by
  obtain ⟨mv, d, d0, d1, qmin, qmax⟩ := ends n
  have hfld := field0 4 2
  have hb1 : Below w.heap.size w (w.alloc (.cells #[.int .i64 k, .int .i64 i] 30)) := (Below.refl _ _).alloc (Nat.le_refl _) _
  have hx : Blk (w.alloc (.cells #[.int .i64 k, .int .i64 i] 30)) w.heap.size 30 #[.int .i64 k, .int .i64 i] := Blk.new _ _ _
  go_enter Try.func4, Try.ntmps4
  go_wp2_with fail
  refine (new_some 3 0 _ (by decide) (by decide)).mono ?_
  rintro e w1 ⟨B, ad, rfl, hb, hg, hB, had⟩
  have e0 : (min (0 : Int) (3 : Nat)).toNat = 0 := by decide
  have e1 : tags0 3 0 = [0, 0, 0] := rfl
  rw [e0, e1] at hg
  have S0 : Has B ad w.heap.size k i (z3 0) w w1 := ⟨hg, ⟨by simp at hB; omega, fun g h => by have := (had g h).1; simp at this; omega⟩, hb1.trans (hb.mono (by simp)), hx.below hb, by simp at hB; omega, fun h => by have := (had _ h).1; simp at this; omega⟩
  clear hb hg hB had hb1 hx e0 e1
  generalize w.heap.size = X at S0
  go_wp2
  go_loopw [6] (fun i' wr => ∃ j : Nat, (j : Int) ≤ d ∧ i' = .int .i64 j ∧ Has B ad X k i (z3 0) w wr) (fun i' _ => d.toNat - (intOf i').toNat)
  case atStart => exact ⟨0, by omega, rfl, S0⟩
  case round =>
    obtain ⟨j, hj, rfl, S⟩ := hrel
    clear S0
    by_cases hlt : (j : Int) < d
    · have A := alloc_any B ad 3 _ 2 _ S.at_
      rw [ka, sa] at A
      go_wp2_with fail
      refine A.mono ?_
      rintro e v1 ⟨rfl, hg, ho⟩
      have S1 := S.then hg ho
      clear A S hg ho
      have A := touch_any B ad 3 _ 2 _ S1.at_
      rw [kt1, st1] at A
      go_wp2_with fail
      refine A.mono ?_
      rintro e v2 ⟨rfl, hg, ho⟩
      have S2 := S1.then hg ho
      clear A S1 hg ho
      have A := retire_any B ad 3 _ 2 _ S2.at_
      rw [kr, sr] at A
      go_wp2_with fail
      refine A.mono ?_
      rintro e v3 ⟨rfl, hg, ho⟩
      have S3 := S2.then hg ho
      clear A S2 hg ho
      have A := touch_any B ad 3 _ 2 _ S3.at_
      rw [kt2, st2] at A
      go_wp2_with fail
      refine A.mono ?_
      rintro e v4 ⟨rfl, hg, ho⟩
      have S4 := S3.then hg ho
      clear A S3 hg ho
      have A := release_any B ad 3 _ 2 _ S4.at_
      rw [kf, sf] at A
      go_wp2_with fail
      refine A.mono ?_
      rintro e v5 ⟨rfl, hg, ho⟩
      have S5 := S4.then hg ho
      clear A S4 hg ho
      go_wp2
      go_roundw
      case rel => exact ⟨j + 1, by omega, by go_num, S5⟩
      case measure => simp [intOf]; omega
    · clear hj
      go_wp2_with fail
      refine (first_any B ad 3 _ _ S.at_).mono ?_
      rintro e v1 ⟨rfl, hb⟩
      have S1 := S.later hb
      clear S hb
      have A := touch_any B ad 3 _ 2 _ S1.at_
      rw [kt0, st0] at A
      go_wp2_with fail
      refine A.mono ?_
      rintro e v2 ⟨rfl, hg, ho⟩
      have S2 := S1.then hg ho
      clear A S1 hg ho
      go_wp2_with fail
      refine (first_any B ad 3 _ _ S2.at_).mono ?_
      rintro e v3 ⟨rfl, hb⟩
      have S3 := S2.later hb
      clear S2 hb
      have hc := count_any B ad 3 _ 0 _ S3.at_
      rw [show countOf [0, 0, 0] 0 = 3 from by decide] at hc
      go_wp2_with fail
      refine hc.mono ?_
      rintro e w' ⟨rfl, rfl⟩
      clear hc
      have hop := S3.op
      have hbl := S3.below
      clear S3
      have x0 := hop.cell 0
      have x1 := hop.cell 1
      simp at x0 x1
      go_wp2_with fail
      refine (do_nil k i _).mono ?_
      rintro e v4 ⟨rfl, hb⟩
      have hop4 := hop.below hb
      have hb4 := hbl.trans (hb.mono hbl.size)
      clear hop hbl x0 x1 hb
      have x1 := hop4.cell 1
      simp at x1
      go_wp2_with fail
      refine (tag_nil i _).mono ?_
      rintro e w' ⟨rfl, rfl⟩
      go_wp2_with fail
      refine (count_nil 0 _).mono ?_
      rintro e w' ⟨rfl, rfl⟩
      go_wp2_with fail
      refine (first_nil _).mono ?_
      rintro e v5 ⟨rfl, hb⟩
      have hb5 := hb4.trans (hb.mono hb4.size)
      clear hb hop4 x1 hb4
      go_wp2_with fail
      refine (lives_any _).mono ?_
      rintro e v6 ⟨rfl, hb⟩
      have hb6 := hb5.trans (hb.mono hb5.size)
      clear hb hb5
      go_wp2
      go_ret
      exact ⟨rfl, hb6⟩
end Go.Proofs.Ytdipomdnihfjjaa
