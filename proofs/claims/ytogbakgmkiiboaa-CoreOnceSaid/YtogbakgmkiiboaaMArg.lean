/- An argument that is a deed, by value: its seven numbers. -/
import Derived.Test.YtogbakgmkiiboaaMMem
import Derived.OpenShut
import Derived.Deep.Slices
import Derived.Deep.Fields
import Derived.ChangeSame
import Derived.Lib.SmallJoins
namespace Go.Proofs.Ytogbakgmkiiboaa
open Go.Joins Go.ChangeShapes Go.WideShapes Go.ChangeAt Go.RowKit Go.Deep
set_option linter.unusedVariables false
set_option maxRecDepth 20000


/-- A deed's value. -/
abbrev opV (k a b o n p q : Int) : Value := .agg #[.int .i64 k, .int .i64 a, .int .i64 b, .int .u64 o, .int .u64 n, .int .u64 p, .int .u64 q]
/-- Its numbers are what their kinds can hold. -/
def OpFits (k a b o n p q : Int) : Prop :=
  (-9223372036854775808 ≤ k ∧ k ≤ 9223372036854775807) ∧ (-9223372036854775808 ≤ a ∧ a ≤ 9223372036854775807) ∧ (-9223372036854775808 ≤ b ∧ b ≤ 9223372036854775807) ∧
  (0 ≤ o ∧ o < 18446744073709551616) ∧ (0 ≤ n ∧ n < 18446744073709551616) ∧ (0 ≤ p ∧ p < 18446744073709551616) ∧ (0 ≤ q ∧ q < 18446744073709551616)
theorem bd_i64 {x : Int} (h : (Lit.int .i64 x).wf = true) : -9223372036854775808 ≤ x ∧ x ≤ 9223372036854775807 := by
  simp [Lit.wf, IntKind.min, IntKind.max, IntKind.signed, IntKind.bits] at h
  exact ⟨by omega, by omega⟩
theorem bd_u64 {x : Int} (h : (Lit.int .u64 x).wf = true) : 0 ≤ x ∧ x < 18446744073709551616 := by
  simp [Lit.wf, IntKind.min, IntKind.max, IntKind.signed, IntKind.bits] at h
  exact ⟨by omega, by omega⟩

theorem int_of {H : Type} {enc : TypeId × Value → H} {w : World} {base : Nat} {spare : Nat → Bool} {held : Bool} {n : Nat} {t : TypeId} {q : IntKind} {c : Value} {y : Option (DataW H × List MemPlace)}
    (ht : Try.prog.underlying t = some (.int q)) (hy : y.isSome = true) (h : DataW.trod enc Try.prog w base spare held n t [c] = y) : ∃ x, c = .int q x ∧ (Lit.int q x).wf = true := by
  obtain ⟨y, rfl⟩ := Option.isSome_iff_exists.1 hy
  obtain ⟨x, hx, _, hw⟩ := DataW.trod_int ht h
  exact ⟨x, by simpa using hx, hw⟩

theorem op_cells {H : Type} {enc : TypeId × Value → H} {w : World} {base : Nat} {spare : Nat → Bool} {held : Bool} {fuel : Nat} {cs : List Value} {y : DataW H × List MemPlace}
    (h : DataW.trod enc Try.prog w base spare held fuel 63 cs = some y) (hl : cs.length = 7) :
    ∃ k a b o n p q, cs = [.int .i64 k, .int .i64 a, .int .i64 b, .int .u64 o, .int .u64 n, .int .u64 p, .int .u64 q] ∧ OpFits k a b o n p q := by
  match cs, hl with
  | [c0, c1, c2, c3, c4, c5, c6], _ =>
    have q3 : Try.prog.cellsOf 3 = 1 := by kernel_rfl
    have q31 : Try.prog.cellsOf 44 = 1 := by kernel_rfl
    obtain ⟨xs, n, _, hx, _, hlen, hg⟩ := DataW.trod_struct Try.underlying63 h
    have hs : ∀ j, j < 7 → (xs[j]?).isSome = true := fun j hj => by
      have : xs.length = 7 := hlen
      rw [List.getElem?_eq_getElem (by omega)]; rfl
    obtain ⟨k, rfl, wk⟩ := int_of Try.underlying3 (hs 0 (by omega)) (by simpa [q3, q31] using hg 0 _ rfl)
    obtain ⟨a, rfl, wa⟩ := int_of Try.underlying3 (hs 1 (by omega)) (by simpa [q3, q31] using hg 1 _ rfl)
    obtain ⟨b, rfl, wb⟩ := int_of Try.underlying3 (hs 2 (by omega)) (by simpa [q3, q31] using hg 2 _ rfl)
    obtain ⟨o, rfl, wo⟩ := int_of Try.underlying44 (hs 3 (by omega)) (by simpa [q3, q31] using hg 3 _ rfl)
    obtain ⟨m, rfl, wm⟩ := int_of Try.underlying44 (hs 4 (by omega)) (by simpa [q3, q31] using hg 4 _ rfl)
    obtain ⟨p, rfl, wp⟩ := int_of Try.underlying44 (hs 5 (by omega)) (by simpa [q3, q31] using hg 5 _ rfl)
    obtain ⟨q, rfl, wq⟩ := int_of Try.underlying44 (hs 6 (by omega)) (by simpa [q3, q31] using hg 6 _ rfl)
    exact ⟨k, a, b, o, m, p, q, rfl, bd_i64 wk, bd_i64 wa, bd_i64 wb, bd_u64 wo, bd_u64 wm, bd_u64 wp, bd_u64 wq⟩

theorem open_op {H : Type} {enc : TypeId × Value → H} {w : World} {base : Nat} {spare : Nat → Bool} {held : Bool} {r : Reach} {b0 : Nat} {v : Value} {d : DataW H} {pl : List MemPlace}
    (hv : Value.okWide Try.prog w r b0 63 v) (h : DataW.Trod enc Try.prog w base spare held 63 v d pl) : ∃ k a b o n p q, v = opV k a b o n p q ∧ OpFits k a b o n p q := by
  obtain ⟨cs, rfl, hsz⟩ := okWide_struct Try.underlying63 hv
  obtain ⟨fuel, hf⟩ := h
  have hc : cs.size = 7 := hsz.trans (by kernel_rfl)
  obtain ⟨k, a, b, o, n, p, q, he, hw⟩ := op_cells hf (by simpa [Value.cells] using hc)
  refine ⟨k, a, b, o, n, p, q, ?_, hw⟩
  obtain ⟨l⟩ := cs
  simp [Value.cells] at he
  rw [he]
end Go.Proofs.Ytogbakgmkiiboaa
