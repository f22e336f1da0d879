/- The arguments of the laws: a configuration, by value; the limits as the rows list them; the start that fits. -/
import Derived.Test.YtdhdomeckloedaaDoorNear
import Derived.OpenShut
import Derived.Deep.Slices
import Derived.Deep.Fields
import Derived.ChangeSame
import Derived.Lib.SmallJoins
import Derived.LaidMore
import Derived.Stop.Joined
import Derived.MakeChecks
namespace Go.Proofs.YtdhdomeckloedaaDoor
open Go.Joins Go.ChangeShapes Go.WideShapes Go.ChangeAt Go.RowKit Go.Deep
set_option linter.unusedVariables false

theorem int_of {H : Type} {enc : TypeId × Value → H} {w : World} {base : Nat} {spare : Nat → Bool} {held : Bool} {n : Nat} {t : TypeId} {q : IntKind} {c : Value} {y : Option (DataW H × List MemPlace)}
    (ht : Tryd.prog.underlying t = some (.int q)) (hy : y.isSome = true) (h : DataW.trod enc Tryd.prog w base spare held n t [c] = y) : ∃ x, c = .int q x ∧ (Lit.int q x).wf = true := by
  obtain ⟨y, rfl⟩ := Option.isSome_iff_exists.1 hy
  obtain ⟨x, hx, _, hw⟩ := DataW.trod_int ht h
  exact ⟨x, by simpa using hx, hw⟩
set_option maxRecDepth 100000 in
theorem conf_cells {H : Type} {enc : TypeId × Value → H} {w : World} {base : Nat} {spare : Nat → Bool} {held : Bool} {fuel : Nat} {cs : List Value} {y : DataW H × List MemPlace}
    (h : DataW.trod enc Tryd.prog w base spare held fuel 23 cs = some y) (hl : cs.length = 7) : ∃ c : Cf, cs = c.cs.toList := by
  match cs, hl with
  | [c0, c1, c2, c3, c4, c5, c6], _ =>
    have q3 : Tryd.prog.cellsOf 3 = 1 := by kernel_rfl
    obtain ⟨xs, n, _, hx, _, hlen, hg⟩ := DataW.trod_struct Tryd.underlying23 h
    have hs : ∀ j, j < 7 → (xs[j]?).isSome = true := fun j hj => by
      have : xs.length = 7 := hlen
      rw [List.getElem?_eq_getElem (by omega)]; rfl
    obtain ⟨a0, rfl, _⟩ := int_of Tryd.underlying3 (hs 0 (by omega)) (by simpa [q3] using hg 0 _ rfl)
    obtain ⟨a1, rfl, _⟩ := int_of Tryd.underlying3 (hs 1 (by omega)) (by simpa [q3] using hg 1 _ rfl)
    obtain ⟨a2, rfl, _⟩ := int_of Tryd.underlying3 (hs 2 (by omega)) (by simpa [q3] using hg 2 _ rfl)
    obtain ⟨a3, rfl, _⟩ := int_of Tryd.underlying3 (hs 3 (by omega)) (by simpa [q3] using hg 3 _ rfl)
    obtain ⟨a4, rfl, _⟩ := int_of Tryd.underlying3 (hs 4 (by omega)) (by simpa [q3] using hg 4 _ rfl)
    obtain ⟨a5, rfl, _⟩ := int_of Tryd.underlying3 (hs 5 (by omega)) (by simpa [q3] using hg 5 _ rfl)
    obtain ⟨a6, rfl, _⟩ := int_of Tryd.underlying3 (hs 6 (by omega)) (by simpa [q3] using hg 6 _ rfl)
    exact ⟨⟨a0, a1, a2, a3, a4, a5, a6⟩, rfl⟩
set_option maxRecDepth 100000 in
theorem open_conf {H : Type} {enc : TypeId × Value → H} {w : World} {base : Nat} {spare : Nat → Bool} {held : Bool} {r : Reach} {b0 : Nat} {v : Value} {d : DataW H} {pl : List MemPlace}
    (hv : Value.okWide Tryd.prog w r b0 23 v) (h : DataW.Trod enc Tryd.prog w base spare held 23 v d pl) : ∃ c : Cf, v = c.v := by
  obtain ⟨cs, rfl, hsz⟩ := okWide_struct Tryd.underlying23 hv
  obtain ⟨fuel, hf⟩ := h
  have hc : cs.size = 7 := hsz.trans (by kernel_rfl)
  obtain ⟨c, he⟩ := conf_cells hf (by simpa [Value.cells] using hc)
  refine ⟨c, ?_⟩
  obtain ⟨l⟩ := cs
  simp [Value.cells] at he
  rw [he]

/-! ### What the rows list: the two rows of limits -/
abbrev laid2 : List (String × DataW Unit) := Rows.confChecksRow.laid
/-- A start that fits. -/
theorem door_met2 (os : Os) (args : Array Value) : laidMetH Tryd.prog laid2 ((World.doorLaid Tryd.prog 400 os).forCall (fun _ _ => 0) ⟨#[], args, []⟩).memory :=
  laidMetH_of_parts3 (fuel := 8) (laidMet_of_run' 8 (by kernel_rfl) (by kernel_rfl)) (by kernel_rfl) (by kernel_rfl)
theorem glob_ints {W : World} {name : String} {g : Nat} {cs : Array Value} {zs : List Int}
    (hg : Tryd.prog.globalNamed name = some g) (hv : W.var? Tryd.prog name = some cs) (e : cs.toList = zs.map fun z => Value.int .i64 z) : Glob W g (zs.map fun z => Value.int .i64 z).toArray := by
  have := Glob.of_var hg hv
  obtain ⟨l⟩ := cs
  simp only at e
  rwa [e] at this
theorem lims_of_laid {W : World} (h : laidMetH Tryd.prog laid2 W) : Lims W := by
  rw [MakeChecks.laidMetH_plain _ _ _ (by kernel_rfl)] at h
  obtain ⟨ps, ⟨g0, t0, cs0, f0, p0, q0, hg0, ht0, hv0, hd0, ⟨g1, t1, cs1, f1, p1, q1, hg1, ht1, hv1, hd1, _⟩, _⟩, _⟩ := h
  have G0 : Tryd.prog.globalNamed "jostle/conf.least" = some 0 := by kernel_rfl
  have G1 : Tryd.prog.globalNamed "jostle/conf.most" = some 1 := by kernel_rfl
  have T0 : (Tryd.prog.globals[0]?).map (·.type) = some 41 := by kernel_rfl
  have T1 : (Tryd.prog.globals[1]?).map (·.type) = some 41 := by kernel_rfl
  obtain rfl := Option.some.inj (G0.symm.trans hg0)
  obtain rfl := Option.some.inj (T0.symm.trans ht0)
  obtain rfl := Option.some.inj (G1.symm.trans hg1)
  obtain rfl := Option.some.inj (T1.symm.trans ht1)
  have e0 : cs0.toList = [0, 1, 1, 1, 1, 1, 1].map fun z => Value.int .i64 z := Lib.cells_of_tab (k := .i64) (zs := [0, 1, 1, 1, 1, 1, 1]) (n := 7) (e := 3) Tryd.underlying41 Tryd.underlying3 (by kernel_rfl) (by kernel_rfl) hd0
  have e1 : cs1.toList = [2, 6, 64, 6, 16, 16, 64].map fun z => Value.int .i64 z := Lib.cells_of_tab (k := .i64) (zs := [2, 6, 64, 6, 16, 16, 64]) (n := 7) (e := 3) Tryd.underlying41 Tryd.underlying3 (by kernel_rfl) (by kernel_rfl) hd1
  exact ⟨glob_ints G0 hv0 e0, glob_ints G1 hv1 e1⟩
end Go.Proofs.YtdhdomeckloedaaDoor
