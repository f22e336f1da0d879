/- Arguments: lists of integers. -/
import Derived.Test.YtemikojaldoofaaGreatFTells
import Derived.Test.YtemikojaldoofaaGreatPArg
import Derived.Test.YtemikojaldoofaaGreatKMach
import Derived.OpenShut
import Derived.Deep.Slices
namespace Go.Proofs.YtemikojaldoofaaGreat
open Go.Joins Go.ChangeShapes Go.WideShapes Go.ChangeAt Go.RowKit Go.Deep
set_option linter.unusedVariables false


theorem open_row {k : IntKind} {t e : TypeId} (ht : Tryz.prog.underlying t = some (.slice e)) (he : Tryz.prog.underlying e = some (.int k)) (hc : Tryz.prog.cellsOf e = 1) {H : Type} {enc : TypeId × Value → H} {W : World} {base : Nat} {spare : Nat → Bool} {held : Bool} {a : Option Addr} {n cap : Nat} {d : DataW H} {pl : List MemPlace}
    (h : DataW.Trod enc Tryz.prog W base spare held t (.slice a n cap) d pl) : ∃ zs, F.Row k W a n cap zs := by
  obtain ⟨fuel, hf⟩ := h
  rcases open_ints ht he hc hf with ⟨hcs, _⟩ | ⟨x, l, c, zs, hcs, _, hl, hm, hz, _, hcell, hwz⟩
  · simp [Value.cells] at hcs
    obtain ⟨rfl, rfl, rfl⟩ := hcs
    exact ⟨_, F.row_of (.inl ⟨rfl, rfl, rfl, rfl⟩)⟩
  · simp [Value.cells] at hcs
    obtain ⟨rfl, rfl, rfl⟩ := hcs
    by_cases hs : zs.length = cap
    · exact ⟨_, F.row_of (.inr ⟨_, rfl, hl, hm, hs, hcell, hwz⟩)⟩
    · have hz2 : n ≤ zs.length := by split at hz <;> omega
      refine ⟨zs.take n, ?_⟩
      refine ⟨by rw [List.length_take]; omega, ⟨hl, hm⟩, .inr ⟨x, rfl, fun j u hj => ?_⟩, fun j hj => ?_, fun y hy => hwz y (List.mem_of_mem_take hy)⟩
      · rw [List.getElem?_map, Option.map_eq_some_iff] at hj
        obtain ⟨y, hy, rfl⟩ := hj
        rw [List.getElem?_take] at hy
        split at hy
        · next hjn =>
          rw [hcell j (by omega)]
          simp [List.getD_eq_getElem?_getD, hy]
        · cases hy
      · have h0 := hcell 0 (by omega)
        have hj' := hcell j (by omega)
        obtain ⟨b, off, spot⟩ := x
        have hspot : spot = none := by simpa [Addr.add] using World.cell?_spot h0
        subst hspot
        refine ⟨b, off, rfl, ?_⟩
        rw [← Go.WideShapes.add_plain, hj']
        simp [F.byteAt, List.getD_eq_getElem?_getD, hj]
end Go.Proofs.YtemikojaldoofaaGreat
