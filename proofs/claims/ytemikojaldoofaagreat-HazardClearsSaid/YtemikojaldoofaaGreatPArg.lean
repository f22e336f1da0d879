/- An argument that is a configuration, by value: its seven numbers. -/
import Derived.Test.YtemikojaldoofaaGreatPA
import Derived.OpenShut
import Derived.Deep.Slices
import Derived.Deep.Fields
import Derived.ChangeSame
import Derived.Lib.SmallJoins
namespace Go.Proofs.YtemikojaldoofaaGreat.P
open Go.Joins Go.ChangeShapes Go.WideShapes Go.ChangeAt Go.RowKit Go.Deep
set_option linter.unusedVariables false

set_option maxRecDepth 20000


theorem bd_i64 {x : Int} (h : (Lit.int .i64 x).wf = true) : I64 x := by
  simp [Lit.wf, IntKind.min, IntKind.max, IntKind.signed, IntKind.bits] at h
  exact ⟨by omega, by omega⟩
theorem int_of {H : Type} {enc : TypeId × Value → H} {w : World} {base : Nat} {spare : Nat → Bool} {held : Bool} {n : Nat} {t : TypeId} {q : IntKind} {c : Value} {y : Option (DataW H × List MemPlace)}
    (ht : Tryz.prog.underlying t = some (.int q)) (hy : y.isSome = true) (h : DataW.trod enc Tryz.prog w base spare held n t [c] = y) : ∃ x, c = .int q x ∧ (Lit.int q x).wf = true := by
  obtain ⟨y, rfl⟩ := Option.isSome_iff_exists.1 hy
  obtain ⟨x, hx, _, hw⟩ := DataW.trod_int ht h
  exact ⟨x, by simpa using hx, hw⟩
theorem conf_cells {H : Type} {enc : TypeId × Value → H} {w : World} {base : Nat} {spare : Nat → Bool} {held : Bool} {fuel : Nat} {cs : List Value} {y : DataW H × List MemPlace}
    (h : DataW.trod enc Tryz.prog w base spare held fuel 23 cs = some y) (hl : cs.length = 7) : ∃ c : Cf, cs = c.cs.toList := by
  match cs, hl with
  | [c0, c1, c2, c3, c4, c5, c6], _ =>
    have q3 : Tryz.prog.cellsOf 3 = 1 := by kernel_rfl
    obtain ⟨xs, n, _, hx, _, hlen, hg⟩ := DataW.trod_struct Tryz.underlying23 h
    have hs : ∀ j, j < 7 → (xs[j]?).isSome = true := fun j hj => by
      have : xs.length = 7 := hlen
      rw [List.getElem?_eq_getElem (by omega)]; rfl
    obtain ⟨a0, rfl, _⟩ := int_of Tryz.underlying3 (hs 0 (by omega)) (by simpa [q3] using hg 0 _ rfl)
    obtain ⟨a1, rfl, _⟩ := int_of Tryz.underlying3 (hs 1 (by omega)) (by simpa [q3] using hg 1 _ rfl)
    obtain ⟨a2, rfl, _⟩ := int_of Tryz.underlying3 (hs 2 (by omega)) (by simpa [q3] using hg 2 _ rfl)
    obtain ⟨a3, rfl, _⟩ := int_of Tryz.underlying3 (hs 3 (by omega)) (by simpa [q3] using hg 3 _ rfl)
    obtain ⟨a4, rfl, _⟩ := int_of Tryz.underlying3 (hs 4 (by omega)) (by simpa [q3] using hg 4 _ rfl)
    obtain ⟨a5, rfl, _⟩ := int_of Tryz.underlying3 (hs 5 (by omega)) (by simpa [q3] using hg 5 _ rfl)
    obtain ⟨a6, rfl, _⟩ := int_of Tryz.underlying3 (hs 6 (by omega)) (by simpa [q3] using hg 6 _ rfl)
    exact ⟨⟨a0, a1, a2, a3, a4, a5, a6⟩, rfl⟩
theorem open_conf {H : Type} {enc : TypeId × Value → H} {w : World} {base : Nat} {spare : Nat → Bool} {held : Bool} {r : Reach} {b0 : Nat} {v : Value} {d : DataW H} {pl : List MemPlace}
    (hv : Value.okWide Tryz.prog w r b0 23 v) (h : DataW.Trod enc Tryz.prog w base spare held 23 v d pl) : ∃ c : Cf, v = c.v := by
  obtain ⟨cs, rfl, hsz⟩ := okWide_struct Tryz.underlying23 hv
  obtain ⟨fuel, hf⟩ := h
  have hc : cs.size = 7 := hsz.trans (by kernel_rfl)
  obtain ⟨c, he⟩ := conf_cells hf (by simpa [Value.cells] using hc)
  refine ⟨c, ?_⟩
  obtain ⟨l⟩ := cs
  simp [Value.cells] at he
  rw [he]
end Go.Proofs.YtemikojaldoofaaGreat.P
