/- An argument that is a deed, by value: its two numbers. -/
import Derived.Test.YtdipomdnihfjjaaBase
import Derived.Test.YtdipomdnihfjjaaDo
import Derived.OpenShut
import Derived.Deep.Slices
import Derived.Deep.Fields
import Derived.ChangeSame
import Derived.Lib.SmallJoins
namespace Go.Proofs.Ytdipomdnihfjjaa
open Go.Joins Go.ChangeShapes Go.WideShapes Go.ChangeAt Go.RowKit Go.Deep
set_option linter.unusedVariables false

/-- What an int can hold. -/
def I64 (x : Int) : Prop := -9223372036854775808 ≤ x ∧ x ≤ 9223372036854775807
theorem bd_i64 {x : Int} (h : (Lit.int .i64 x).wf = true) : I64 x := by
  simp [Lit.wf, IntKind.min, IntKind.max, IntKind.signed, IntKind.bits] at h
  exact ⟨by omega, by omega⟩
theorem int_of {H : Type} {enc : TypeId × Value → H} {w : World} {base : Nat} {spare : Nat → Bool} {held : Bool} {n : Nat} {t : TypeId} {q : IntKind} {c : Value} {y : Option (DataW H × List MemPlace)}
    (ht : Try.prog.underlying t = some (.int q)) (hy : y.isSome = true) (h : DataW.trod enc Try.prog w base spare held n t [c] = y) : ∃ x, c = .int q x ∧ (Lit.int q x).wf = true := by
  obtain ⟨y, rfl⟩ := Option.isSome_iff_exists.1 hy
  obtain ⟨x, hx, _, hw⟩ := DataW.trod_int ht h
  exact ⟨x, by simpa using hx, hw⟩
theorem op_cells {H : Type} {enc : TypeId × Value → H} {w : World} {base : Nat} {spare : Nat → Bool} {held : Bool} {fuel : Nat} {cs : List Value} {y : DataW H × List MemPlace}
    (h : DataW.trod enc Try.prog w base spare held fuel 30 cs = some y) (hl : cs.length = 2) : ∃ k i, cs = [.int .i64 k, .int .i64 i] ∧ I64 k ∧ I64 i := by
  match cs, hl with
  | [c0, c1], _ =>
    have q3 : Try.prog.cellsOf 3 = 1 := by kernel_rfl
    obtain ⟨xs, n, _, hx, _, hlen, hg⟩ := DataW.trod_struct Try.underlying30 h
    have hs : ∀ j, j < 2 → (xs[j]?).isSome = true := fun j hj => by
      have : xs.length = 2 := hlen
      rw [List.getElem?_eq_getElem (by omega)]; rfl
    obtain ⟨k, rfl, wk⟩ := int_of Try.underlying3 (hs 0 (by omega)) (by simpa [q3] using hg 0 _ rfl)
    obtain ⟨i, rfl, wi⟩ := int_of Try.underlying3 (hs 1 (by omega)) (by simpa [q3] using hg 1 _ rfl)
    exact ⟨k, i, rfl, bd_i64 wk, bd_i64 wi⟩
theorem open_op {H : Type} {enc : TypeId × Value → H} {w : World} {base : Nat} {spare : Nat → Bool} {held : Bool} {r : Reach} {b0 : Nat} {v : Value} {d : DataW H} {pl : List MemPlace}
    (hv : Value.okWide Try.prog w r b0 30 v) (h : DataW.Trod enc Try.prog w base spare held 30 v d pl) : ∃ k i, v = opV k i ∧ I64 k ∧ I64 i := by
  obtain ⟨cs, rfl, hsz⟩ := okWide_struct Try.underlying30 hv
  obtain ⟨fuel, hf⟩ := h
  have hc : cs.size = 2 := hsz.trans (by kernel_rfl)
  obtain ⟨k, i, he, hw⟩ := op_cells hf (by simpa [Value.cells] using hc)
  refine ⟨k, i, ?_, hw⟩
  obtain ⟨l⟩ := cs
  simp [Value.cells] at he
  rw [he]
end Go.Proofs.Ytdipomdnihfjjaa
