/-
  For every configuration c and every slice ops of deeds the law CoreSteps returns true, and its arguments read as before; no condition.
-/
import Derived.Test.YtogbakgmkiiboaaRows
import Derived.Test.YtogbakgmkiiboaaKStepLaw
import Derived.Test.YtogbakgmkiiboaaKArg
import Derived.WalkKit
import Derived.ProofKit
import Derived.OpenShut
import Derived.ShutString
import Derived.ChangeOld
import Derived.Below
namespace Go.Proofs.Ytogbakgmkiiboaa.coreSteps
open Go.ChangeShapes Go.WideShapes Go.ChangeAt Go.RowKit Go.Deep
open Go.ChangeMaps (open_string shut_string)
set_option linter.unusedVariables false

theorem own : ownKnob Try.prog.godebug = none := by kernel_rfl
theorem ops_in {H : Type} {enc : TypeId × Value → H} {w : World} {base : Nat} {spare : Nat → Bool} {held : Bool} {ao : Option Addr} {n cap : Nat} {d : DataW H} {pl : List MemPlace}
    (h : DataW.Trod enc Try.prog w base spare held 59 (.slice ao n cap) d pl) : n ≤ cap ∧ cap ≤ 9223372036854775807 ∧ ∃ F, OpsIn w ao n F := by
  obtain ⟨fuel, hf⟩ := h
  have ce : Try.prog.cellsOf 63 = 7 := by kernel_rfl
  rcases open_slice Try.underlying59 hf with ⟨hcs, _⟩ | ⟨x, l, c, m, f, D, Pl, hcs, _, hl, hm, hmm, _, hx⟩
  · simp [Value.cells] at hcs
    obtain ⟨rfl, rfl, rfl⟩ := hcs
    exact ⟨by omega, by omega, fun _ => ⟨0, 0, 0, 0, 0, 0, 0⟩, fun j hj => by omega⟩
  · simp [Value.cells] at hcs
    obtain ⟨rfl, rfl, rfl⟩ := hcs
    refine ⟨hl, hm, ?_⟩
    have hlm : n ≤ m := by rw [hmm]; split <;> omega
    have each : ∀ j, ∃ g : OpT, j < n → w.cell? (x.add (j * 7)) = some (.int .i64 g.k) ∧ w.cell? (x.add (j * 7 + 1)) = some (.int .i64 g.a) ∧ w.cell? (x.add (j * 7 + 2)) = some (.int .i64 g.b) ∧ w.cell? (x.add (j * 7 + 3)) = some (.int .u64 g.o) ∧
        w.cell? (x.add (j * 7 + 4)) = some (.int .u64 g.x) ∧ w.cell? (x.add (j * 7 + 5)) = some (.int .u64 g.p) ∧ w.cell? (x.add (j * 7 + 6)) = some (.int .u64 g.q) ∧ P.I64 g.a ∧ P.I64 g.b := fun j => by
      by_cases hj : j < n
      · obtain ⟨cs', g1, g2⟩ := hx j (by omega)
        rw [ce] at g1
        obtain ⟨_, hlen, hcell⟩ := World.cells?_some g1
        obtain ⟨k, a, b, o, z, p, q, rfl, hfit⟩ := op_cells g2 hlen
        have e0 := hcell 0 (by omega)
        have e1 := hcell 1 (by omega)
        have e2 := hcell 2 (by omega)
        have e3 := hcell 3 (by omega)
        have e4 := hcell 4 (by omega)
        have e5 := hcell 5 (by omega)
        have e6 := hcell 6 (by omega)
        rw [add_add] at e0 e1 e2 e3 e4 e5 e6
        exact ⟨⟨k, a, b, o, z, p, q⟩, fun _ => ⟨by simpa using e0, by simpa using e1, by simpa using e2, by simpa using e3, by simpa using e4, by simpa using e5, by simpa using e6, hfit.2.1, hfit.2.2.1⟩⟩
      · exact ⟨⟨0, 0, 0, 0, 0, 0, 0⟩, fun h => absurd h hj⟩
    obtain ⟨F, hF⟩ := Classical.axiomOfChoice each
    clear each
    refine ⟨F, fun j hj => ?_⟩
    obtain ⟨h0, h1, h2, h3, h4, h5, h6, h7, h8⟩ := hF j hj
    have g0 := (hF 0 (by omega)).1
    obtain ⟨b, off, spot⟩ := x
    have hspot : spot = none := by simpa [Addr.add] using World.cell?_spot g0
    subst hspot
    simp only [Go.WideShapes.add_plain, ← Nat.add_assoc] at h0 h1 h2 h3 h4 h5 h6
    exact ⟨b, off, rfl, h0, h1, h2, h3, h4, h5, h6, h7, h8⟩
theorem ops_two {H : Type} {enc : TypeId × Value → H} {w : World} {base : Nat} {spare : Nat → Bool} {held : Bool} {ao : Option Addr} {n cap : Nat} {d : DataW H} {pl : List MemPlace}
    (h : DataW.Trod enc Try.prog w base spare held 59 (.slice ao n cap) d pl) : ∃ F, (n ≤ cap ∧ cap ≤ 9223372036854775807) ∧ OpsIn w ao n F := by
  obtain ⟨h1, h2, F, hF⟩ := ops_in h
  exact ⟨F, ⟨h1, h2⟩, hF⟩
theorem laidOut : laidOutB Try.prog = true := by kernel_rfl

/-! ### THE ROW's STEP -/
set_option maxRecDepth 100000 in
theorem lifted (os : Os) (started : os.Started) (H : Type) (enc : TypeId × Value → H) :
    ReturnsInHanded {} Try.checked os 4 .any (Rows.coreStepsSpec.pre6 enc Try.prog Try.f4 Rows.coreStepsRow.domain false) (Rows.coreStepsSpec.post enc Try.prog Try.f4 false true false false) := by
  refine returnsInHanded_of_change (C := Try.checked) own started (by kernel_rfl) Try.func4
    (ChangeSpec.witness6 (enc := enc) (C := Try.checked) false ⟨#[], #[.agg #[.int .i64 0, .int .i64 0, .int .i64 0, .int .i64 0, .int .i64 0, .int .i64 0, .int .i64 0], .slice none 0 0], []⟩ 8 (by kernel_rfl) (by kernel_rfl) (by kernel_rfl) (by kernel_rfl)) ?_
  intro W base args ds gs before hval0 hW hcnd _
  have hval : ∀ (j : Nat) t v, Try.f4.params[j]? = some t → args[j]? = some v → Value.okWide Try.prog W .any base t v := hval0
  have hW' := hW
  obtain ⟨p, q, hA0, hV, rfl, hfz, hnd⟩ := hW
  have hA : DataW.TrodAll enc Try.prog W 0 (fun _ => true) true Try.f4.params.toList args.toList ds p := hA0
  rw [Try.params4] at hA hval
  obtain ⟨v0, vs0, d0, ds0, p0, q0, hargs, rfl, rfl, h0, r0⟩ := trodAll_cons hA
  obtain ⟨v1, vs1, d1, ds1, p1, q1, rfl, rfl, rfl, h1, r1⟩ := trodAll_cons r0
  obtain ⟨rfl, rfl, rfl⟩ := trodAll_nil r1
  obtain rfl : args = #[v0, v1] := by cases args; simp_all
  obtain ⟨rfl, rfl⟩ := trodVars_none hV
  have k0 := h0
  have lt0 : ∀ x ∈ p0, x.block < W.heap.size := by obtain ⟨m, hm⟩ := k0; exact DataW.trod_lt m _ _ _ hm
  obtain ⟨L0, rfl⟩ := P.open_conf (hval 0 23 v0 rfl rfl) h0
  obtain ⟨a1, len1, cap1, rfl⟩ := okWide_slice Try.underlying59 (hval 1 59 v1 rfl rfl)
  have k1 := h1
  have lt1 : ∀ x ∈ p1, x.block < W.heap.size := by obtain ⟨m, hm⟩ := k1; exact DataW.trod_lt m _ _ _ hm
  obtain ⟨L1, R1⟩ := ops_two h1
  clear hA0 hval0
  refine (csteps_any L0 a1 len1 cap1 L1 W R1.2 R1.1).mono fun e W' ⟨he, bel⟩ => ?_
  subst he
  exact ⟨_, rfl, _, _, _, [], _, [], hW', trodAll_mk1 (shut_bool Try.underlying4 _), (trodAll_cons_mk (Below.trod laidOut (by kernel_rfl) (of_decide_eq_true (by kernel_rfl)) k0 bel lt0) (trodAll_cons_mk (Below.trod laidOut (by kernel_rfl) (of_decide_eq_true (by kernel_rfl)) k1 bel lt1) trodAll_mk0)), rfl, bel.frame _, fun h => by cases h⟩

theorem over : Rows.coreStepsRow.holds Try.pinned (OpenSpec.ofChange Rows.coreStepsSpec) :=
  OpenClaim.holds_of_wide 4 Try.f4 rfl rfl rfl rfl rfl rfl rfl ⟨rfl, rfl, rfl, rfl, rfl⟩ rfl rfl rfl rfl rfl (by kernel_rfl) Try.func4 (by kernel_rfl)
    (of_decide_eq_true (by kernel_rfl)) (by unfold Func.isWrapper; first | (rw [if_pos (by decide +kernel)]; kernel_rfl) | (rw [if_neg (by decide +kernel)]; exact ⟨rfl, rfl⟩))
    (fun os started H enc _ => lifted os started H enc)

/-- THE STATEMENT -/
theorem proved : Rows.CoreStepsSaid := over
#print axioms proved
end Go.Proofs.Ytogbakgmkiiboaa.coreSteps
