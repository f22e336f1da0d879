/- The arguments of the laws: a call or an answer, by value; the table of powers as the rows list it; the start that fits. -/
import Derived.Test.YtifojpkcegefgaaDoorTexts
import Derived.OpenShut
import Derived.Deep.Slices
import Derived.Deep.Fields
import Derived.ChangeSame
import Derived.Lib.SmallJoins
import Derived.LaidMore
import Derived.Stop.Joined
import Derived.MakeChecks
namespace Go.Proofs.YtifojpkcegefgaaDoor
open Go.Joins Go.ChangeShapes Go.WideShapes Go.ChangeAt Go.RowKit Go.Deep
set_option linter.unusedVariables false

theorem int_of {H : Type} {enc : TypeId × Value → H} {w : World} {base : Nat} {spare : Nat → Bool} {held : Bool} {n : Nat} {t : TypeId} {q : IntKind} {c : Value} {y : Option (DataW H × List MemPlace)}
    (ht : Tryd.prog.underlying t = some (.int q)) (hy : y.isSome = true) (h : DataW.trod enc Tryd.prog w base spare held n t [c] = y) : ∃ x, c = .int q x ∧ (Lit.int q x).wf = true := by
  obtain ⟨y, rfl⟩ := Option.isSome_iff_exists.1 hy
  obtain ⟨x, hx, _, hw⟩ := DataW.trod_int ht h
  exact ⟨x, by simpa using hx, hw⟩
theorem bd_u32 {x : Int} (h : (Lit.int .u32 x).wf = true) : 0 ≤ x ∧ x < 4294967296 := by
  simp [Lit.wf, IntKind.min, IntKind.max, IntKind.signed, IntKind.bits] at h
  exact ⟨by omega, by omega⟩
theorem bd_i64 {x : Int} (h : (Lit.int .i64 x).wf = true) : -9223372036854775808 ≤ x ∧ x ≤ 9223372036854775807 := by
  simp [Lit.wf, IntKind.min, IntKind.max, IntKind.signed, IntKind.bits] at h
  exact ⟨by omega, by omega⟩
theorem tri_cells {H : Type} {enc : TypeId × Value → H} {w : World} {base : Nat} {spare : Nat → Bool} {held : Bool} {fuel : Nat} {t : TypeId} {cs : List Value} {y : DataW H × List MemPlace}
    (ht : t = 24 ∨ t = 26) (h : DataW.trod enc Tryd.prog w base spare held fuel t cs = some y) (hl : cs.length = 3) : ∃ c : Tri, cs = c.cs.toList ∧ Fit c ∧ (-9223372036854775808 ≤ c.op ∧ c.op ≤ 9223372036854775807) := by
  match cs, hl with
  | [c0, c1, c2], _ =>
    have q3 : Tryd.prog.cellsOf 3 = 1 := by kernel_rfl
    have q22 : Tryd.prog.cellsOf 22 = 1 := by kernel_rfl
    rcases ht with rfl | rfl
    · obtain ⟨xs, n, _, hx, _, hlen, hg⟩ := DataW.trod_struct Tryd.underlying24 h
      have hs : ∀ j, j < 3 → (xs[j]?).isSome = true := fun j hj => by
        have : xs.length = 3 := hlen
        rw [List.getElem?_eq_getElem (by omega)]; rfl
      obtain ⟨a0, rfl, w0⟩ := int_of Tryd.underlying3 (hs 0 (by omega)) (by simpa [q3, q22] using hg 0 _ rfl)
      obtain ⟨a1, rfl, w1⟩ := int_of Tryd.underlying22 (hs 1 (by omega)) (by simpa [q3, q22] using hg 1 _ rfl)
      obtain ⟨a2, rfl, w2⟩ := int_of Tryd.underlying22 (hs 2 (by omega)) (by simpa [q3, q22] using hg 2 _ rfl)
      exact ⟨⟨a0, a1, a2⟩, rfl, ⟨(bd_u32 w1).1, (bd_u32 w1).2, (bd_u32 w2).1, (bd_u32 w2).2⟩, bd_i64 w0⟩
    · obtain ⟨xs, n, _, hx, _, hlen, hg⟩ := DataW.trod_struct Tryd.underlying26 h
      have hs : ∀ j, j < 3 → (xs[j]?).isSome = true := fun j hj => by
        have : xs.length = 3 := hlen
        rw [List.getElem?_eq_getElem (by omega)]; rfl
      obtain ⟨a0, rfl, w0⟩ := int_of Tryd.underlying3 (hs 0 (by omega)) (by simpa [q3, q22] using hg 0 _ rfl)
      obtain ⟨a1, rfl, w1⟩ := int_of Tryd.underlying22 (hs 1 (by omega)) (by simpa [q3, q22] using hg 1 _ rfl)
      obtain ⟨a2, rfl, w2⟩ := int_of Tryd.underlying22 (hs 2 (by omega)) (by simpa [q3, q22] using hg 2 _ rfl)
      exact ⟨⟨a0, a1, a2⟩, rfl, ⟨(bd_u32 w1).1, (bd_u32 w1).2, (bd_u32 w2).1, (bd_u32 w2).2⟩, bd_i64 w0⟩
theorem open_tri {H : Type} {enc : TypeId × Value → H} {w : World} {base : Nat} {spare : Nat → Bool} {held : Bool} {r : Reach} {b0 : Nat} {t : TypeId} {v : Value} {d : DataW H} {pl : List MemPlace}
    (ht : t = 24 ∨ t = 26) (hv : Value.okWide Tryd.prog w r b0 t v) (h : DataW.Trod enc Tryd.prog w base spare held t v d pl) : ∃ c : Tri, v = c.v ∧ Fit c ∧ (-9223372036854775808 ≤ c.op ∧ c.op ≤ 9223372036854775807) := by
  have hst : ∃ cs : Array Value, v = .agg cs ∧ cs.size = 3 := by
    rcases ht with rfl | rfl
    · obtain ⟨cs, rfl, hsz⟩ := okWide_struct Tryd.underlying24 hv
      exact ⟨cs, rfl, hsz.trans (by kernel_rfl)⟩
    · obtain ⟨cs, rfl, hsz⟩ := okWide_struct Tryd.underlying26 hv
      exact ⟨cs, rfl, hsz.trans (by kernel_rfl)⟩
  obtain ⟨cs, rfl, hc⟩ := hst
  obtain ⟨fuel, hf⟩ := h
  obtain ⟨c, he, hfit⟩ := tri_cells ht hf (by simpa [Value.cells] using hc)
  refine ⟨c, ?_, hfit⟩
  obtain ⟨l⟩ := cs
  simp [Value.cells] at he
  rw [he]

/-- What the rows list. -/
abbrev laidL : List (String × DataW Unit) := Rows.callRightRow.laid
/-- A start that fits what the rows list. -/
theorem door_met (os : Os) (args : Array Value) : laidMetH Tryd.prog laidL ((World.doorLaid Tryd.prog 400 os).forCall (fun _ _ => 0) ⟨#[], args, []⟩).memory :=
  laidMetH_of_parts3 (fuel := 8) (laidMet_of_run' 8 (by kernel_rfl) (by kernel_rfl)) (by kernel_rfl) (by kernel_rfl)
theorem tab_of_laid {W : World} (h : laidMetH Tryd.prog laidL W) : Tab W := by
  rw [MakeChecks.laidMetH_plain _ _ _ (by kernel_rfl)] at h
  obtain ⟨ps, ⟨g0, t0, cs0, f0, p0, q0, hg0, ht0, hv0, hd0, ⟨g1, t1, cs1, f1, p1, q1, hg1, ht1, hv1, hd1, ⟨g2, t2, cs2, f2, p2, q2, hg2, ht2, hv2, hd2, _, _⟩, _⟩, _⟩, _⟩ := h
  have gU : Tryd.prog.globalNamed "internal/strconv.uint64pow10" = some 0 := by kernel_rfl
  have tU : (Tryd.prog.globals[0]?).map (·.type) = some 73 := by kernel_rfl
  obtain rfl := Option.some.inj (gU.symm.trans hg2)
  obtain rfl := Option.some.inj (tU.symm.trans ht2)
  unfold Tab Lib.TabIs
  rw [hv2]
  have e : cs2.toList = Lib.pow10Tab.map fun z => Value.int .u64 z := Lib.cells_of_tab (k := .u64) (zs := Lib.pow10Tab) (n := 20) (e := 50) Tryd.underlying73 Tryd.underlying50 (by kernel_rfl) (by kernel_rfl) hd2
  obtain ⟨l⟩ := cs2
  simp only at e
  rw [e]
end Go.Proofs.YtifojpkcegefgaaDoor
