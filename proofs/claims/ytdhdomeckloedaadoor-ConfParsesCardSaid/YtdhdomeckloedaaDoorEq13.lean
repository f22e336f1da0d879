/- Arrays of texts compared. -/
import Derived.Test.YtdhdomeckloedaaDoorRead
import Derived.ChangeKeysEq
namespace Go.Proofs.YtdhdomeckloedaaDoor
open Go.ChangeShapes Go.WideShapes Go.ChangeAt Go.RowKit
set_option linter.unusedVariables false
theorem items_eq (xs ys : List ByteArray) (w : World) : ∀ is : List Nat, (∀ j ∈ is, j < xs.length ∧ j < ys.length) →
    (Op.eqItems 9999 9 1 (xs.map Value.string).toArray (ys.map Value.string).toArray is).run Tryd.prog w = .ok (is.all fun j => (xs.getD j ByteArray.empty).data.toList == (ys.getD j ByteArray.empty).data.toList) w
  | [], _ => by simp [Op.eqItems]
  | j :: is, h => by
    have ih := items_eq xs ys w is (fun i hi => h i (by simp [hi]))
    obtain ⟨h1, h2⟩ := h j (by simp)
    have hp : ∀ zs : List ByteArray, (h : j < zs.length) → (part 9 (zs.map Value.string).toArray (j * 1)).run Tryd.prog w = .ok (.string zs[j]) w := fun zs h => by
      simp [part, go_sem, h]
    have he : (Op.equalIn 9999 9 (.string xs[j]) (.string ys[j])).run Tryd.prog w = .ok (xs[j].data.toList == ys[j].data.toList) w := by
      rw [run_equalIn_string w 9998 9 _ _ Tryd.underlying9, ByteArray.toList_eq, ByteArray.toList_eq]
    have e1 : xs.getD j ByteArray.empty = xs[j] := by simp [List.getD, h1]
    have e2 : ys.getD j ByteArray.empty = ys[j] := by simp [List.getD, h2]
    simp only [Op.eqItems, Sem.run_bind, hp xs h1, hp ys h2, Result.andThen_ok, he, List.all_cons, e1, e2]
    cases xs[j].data.toList == ys[j].data.toList
    · simp
    · simpa using ih
theorem all_ne {xs ys : List ByteArray} (hx : xs.length = 13) (hy : ys.length = 13) (h : xs ≠ ys) : ((List.range 13).all fun j => (xs.getD j ByteArray.empty).data.toList == (ys.getD j ByteArray.empty).data.toList) = false := by
  rw [← Bool.not_eq_true]
  intro ha
  refine h (List.ext_getElem (by omega) fun j h1 h2 => ?_)
  rw [List.all_eq_true] at ha
  have := ha j (by simp; omega)
  simp only [List.getD, h1, h2, List.getElem?_eq_getElem, Option.getD_some, beq_iff_eq] at this
  exact ByteArray.ext (Array.toList_inj.1 this)
theorem all_eq (xs : List ByteArray) : ((List.range 13).all fun j => (xs.getD j ByteArray.empty).data.toList == (xs.getD j ByteArray.empty).data.toList) = true := by simp
theorem eq_texts (xs ys : List ByteArray) (hx : xs.length = 13) (hy : ys.length = 13) (w : World) :
    (Op.equalIn 10000 52 (.agg (xs.map Value.string).toArray) (.agg (ys.map Value.string).toArray)).run Tryd.prog w = .ok ((List.range 13).all fun j => (xs.getD j ByteArray.empty).data.toList == (ys.getD j ByteArray.empty).data.toList) w := by
  have hc : Tryd.prog.cellsOf 9 = 1 := by kernel_rfl
  obtain ⟨i, hi⟩ := Option.isSome_iff_exists.mp (show (Tryd.prog.info? 9).isSome = true by kernel_rfl)
  rw [run_equalIn_array w 9999 _ _ Tryd.underlying52 hi, hc, items_eq xs ys w]
  intro j hj
  simp at hj
  omega
end Go.Proofs.YtdhdomeckloedaaDoor
