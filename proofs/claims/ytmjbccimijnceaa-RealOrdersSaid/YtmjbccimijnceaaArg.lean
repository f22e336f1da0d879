/- An argument that is a list of operations, or of numbers. -/
import Derived.Test.YtmjbccimijnceaaLaw1
import Derived.Test.YtmjbccimijnceaaLaw2
import Derived.OpenShut
import Derived.Deep.Slices
import Derived.Deep.Fields
import Derived.ChangeSame
import Derived.ChangeArms
import Derived.Lib.SmallJoins
namespace Go.Proofs.Ytmjbccimijnceaa
open Go.Joins Go.ChangeShapes Go.WideShapes Go.ChangeAt Go.RowKit Go.Deep
set_option linter.unusedVariables false
set_option linter.unusedSimpArgs false

theorem int_of {H : Type} {enc : TypeId × Value → H} {w : World} {base : Nat} {spare : Nat → Bool} {held : Bool} {n : Nat} {t : TypeId} {q : IntKind} {c : Value} {y : Option (DataW H × List MemPlace)}
    (ht : Try.prog.underlying t = some (.int q)) (hy : y.isSome = true) (h : DataW.trod enc Try.prog w base spare held n t [c] = y) : ∃ x, c = .int q x ∧ (Lit.int q x).wf = true := by
  obtain ⟨y, rfl⟩ := Option.isSome_iff_exists.1 hy
  obtain ⟨x, hx, _, hw⟩ := DataW.trod_int ht h
  exact ⟨x, by simpa using hx, hw⟩
theorem bd_u32 {x : Int} (h : (Lit.int .u32 x).wf = true) : 0 ≤ x ∧ x < 4294967296 := by
  simp [Lit.wf, IntKind.min, IntKind.max, IntKind.signed, IntKind.bits] at h
  exact ⟨by omega, by omega⟩
theorem bd_i64 {x : Int} (h : (Lit.int .i64 x).wf = true) : -9223372036854775808 ≤ x ∧ x ≤ 9223372036854775807 := by
  simp [Lit.wf, IntKind.min, IntKind.max, IntKind.signed, IntKind.bits] at h
  exact ⟨by omega, by omega⟩
theorem tri_cells {H : Type} {enc : TypeId × Value → H} {w : World} {base : Nat} {spare : Nat → Bool} {held : Bool} {fuel : Nat} {t : TypeId} {cs : List Value} {y : DataW H × List MemPlace}
    (ht : t = 28 ∨ t = 30) (h : DataW.trod enc Try.prog w base spare held fuel t cs = some y) (hl : cs.length = 3) : ∃ c : Tri, cs = c.cs.toList := by
  match cs, hl with
  | [c0, c1, c2], _ =>
    have q3 : Try.prog.cellsOf 3 = 1 := by kernel_rfl
    have q26 : Try.prog.cellsOf 26 = 1 := by kernel_rfl
    rcases ht with rfl | rfl
    · obtain ⟨xs, n, _, hx, _, hlen, hg⟩ := DataW.trod_struct Try.underlying28 h
      have hs : ∀ j, j < 3 → (xs[j]?).isSome = true := fun j hj => by
        have : xs.length = 3 := hlen
        rw [List.getElem?_eq_getElem (by omega)]; rfl
      obtain ⟨a0, rfl, w0⟩ := int_of Try.underlying3 (hs 0 (by omega)) (by simpa [q3, q26] using hg 0 _ rfl)
      obtain ⟨a1, rfl, w1⟩ := int_of Try.underlying26 (hs 1 (by omega)) (by simpa [q3, q26] using hg 1 _ rfl)
      obtain ⟨a2, rfl, w2⟩ := int_of Try.underlying26 (hs 2 (by omega)) (by simpa [q3, q26] using hg 2 _ rfl)
      exact ⟨⟨a0, a1, a2⟩, rfl⟩
    · obtain ⟨xs, n, _, hx, _, hlen, hg⟩ := DataW.trod_struct Try.underlying30 h
      have hs : ∀ j, j < 3 → (xs[j]?).isSome = true := fun j hj => by
        have : xs.length = 3 := hlen
        rw [List.getElem?_eq_getElem (by omega)]; rfl
      obtain ⟨a0, rfl, w0⟩ := int_of Try.underlying3 (hs 0 (by omega)) (by simpa [q3, q26] using hg 0 _ rfl)
      obtain ⟨a1, rfl, w1⟩ := int_of Try.underlying26 (hs 1 (by omega)) (by simpa [q3, q26] using hg 1 _ rfl)
      obtain ⟨a2, rfl, w2⟩ := int_of Try.underlying26 (hs 2 (by omega)) (by simpa [q3, q26] using hg 2 _ rfl)
      exact ⟨⟨a0, a1, a2⟩, rfl⟩
set_option maxRecDepth 100000 in
theorem op_cells {H : Type} {enc : TypeId × Value → H} {w : World} {base : Nat} {spare : Nat → Bool} {held : Bool} {fuel : Nat} {cs : List Value} {y : DataW H × List MemPlace}
    (h : DataW.trod enc Try.prog w base spare held fuel 32 cs = some y) (hl : cs.length = 9) : ∃ e : Opr, cs = e.cs.toList := by
  match cs, hl with
  | [c0, c1, c2, c3, c4, c5, c6, c7, c8], _ =>
    have q3 : Try.prog.cellsOf 3 = 1 := by kernel_rfl
    have q28 : Try.prog.cellsOf 28 = 3 := by kernel_rfl
    have q30 : Try.prog.cellsOf 30 = 3 := by kernel_rfl
    obtain ⟨xs, n, _, hx, _, hlen, hg⟩ := DataW.trod_struct Try.underlying32 h
    have hxs : xs.length = 5 := hlen
    match xs, hxs with
    | [x0, x1, x2, x3, x4], _ =>
      have g0 := hg 0 _ rfl
      have g1 := hg 1 _ rfl
      have g2 := hg 2 _ rfl
      have g3 := hg 3 _ rfl
      have g4 := hg 4 _ rfl
      simp [q3] at g0
      simp [q3, q28] at g1
      simp [q3, q28, q30] at g2
      simp [q3, q28, q30] at g3
      simp [q3, q28, q30] at g4
      obtain ⟨a0, rfl, w0⟩ := int_of Try.underlying3 rfl g0
      obtain ⟨c, hc⟩ := tri_cells (.inl rfl) g1 rfl
      obtain ⟨a, ha⟩ := tri_cells (.inr rfl) g2 rfl
      obtain ⟨a3, rfl, w3⟩ := int_of Try.underlying3 rfl g3
      obtain ⟨a4, rfl, w4⟩ := int_of Try.underlying3 rfl g4
      simp at hc ha
      obtain ⟨rfl, rfl, rfl⟩ := hc
      obtain ⟨rfl, rfl, rfl⟩ := ha
      exact ⟨⟨a0, c, a, a3, a4⟩, rfl⟩
theorem reads_of {W : World} {a : Addr} {len cap size : Nat} {vs : List Value} (hl : len ≤ cap) (hm : cap ≤ maxLen) (hv : vs.length = len * size) (hs : 0 < size) (hc : ∀ j u, vs[j]? = some u → W.cell? (a.add j) = some u) : Reads W ⟨some a, len, cap⟩ size vs := by
  refine ⟨hv, ⟨hl, hm⟩, (by intro e; cases e), ?_⟩
  rcases Nat.eq_zero_or_pos len with h0 | h0
  · exact .inl h0
  · right
    have hpos : 0 < vs.length := by rw [hv]; exact Nat.mul_pos h0 hs
    have h1 := hc 0 _ (List.getElem?_eq_getElem hpos)
    obtain ⟨b, off, spot⟩ := a
    have hspot : spot = none := by simpa [Addr.add] using World.cell?_spot h1
    subst hspot
    exact ⟨b, off, rfl, fun j u hj => by rw [← Go.WideShapes.add_plain]; exact hc j u hj⟩
instance : Inhabited Opr := ⟨zo⟩
/-- A slice of operations. -/
theorem open_opers {H : Type} {enc : TypeId × Value → H} {w : World} {base : Nat} {spare : Nat → Bool} {held : Bool} {ao : Option Addr} {n cap : Nat} {d : DataW H} {pl : List MemPlace}
    (h : DataW.Trod enc Try.prog w base spare held 22 (.slice ao n cap) d pl) : ∃ l : List Opr, Reads w ⟨ao, n, cap⟩ 9 (encO l) := by
  obtain ⟨fuel, h⟩ := h
  have ce : Try.prog.cellsOf 32 = 9 := by kernel_rfl
  rcases open_slice Try.underlying22 h with ⟨hv, hx⟩ | ⟨a, len, cap', m, n', D, Pl, hv, _, hl, hm, hmm, hx, hcells⟩
  · simp [Value.cells] at hv
    obtain ⟨rfl, rfl, rfl⟩ := hv
    exact ⟨[], Reads.none_ w 9⟩
  · simp [Value.cells] at hv
    obtain ⟨rfl, rfl, rfl⟩ := hv
    have hlm : n ≤ m := by rw [hmm]; split <;> omega
    obtain ⟨T, hT⟩ := choose_lt (α := Opr) (n := n) (p := fun i t => ∀ j, j < 9 → w.cell? ((a.add (i * 9)).add j) = t.cs[j]?) (fun i hi => by
      obtain ⟨cs', h1, h2⟩ := hcells i (by omega)
      rw [ce] at h1
      obtain ⟨_, hlen, hcell⟩ := World.cells?_some h1
      obtain ⟨t, rfl⟩ := op_cells h2 hlen
      exact ⟨t, fun j hj => by rw [hcell j hj]; simp⟩)
    refine ⟨(List.range n).map T, reads_of hl hm (by simp [encO_len]) (by decide) ?_⟩
    intro j u hj
    have hjl := (List.getElem?_eq_some_iff.1 hj).1
    rw [encO_len] at hjl
    simp at hjl
    have hi : j / 9 < n := by omega
    have hr := flat_get (f := fun e : Opr => e.cs.toList) (m := 9) (fun _ => rfl) ((List.range n).map T) (j / 9) (T (j / 9)) (by simp [hi]) (j % 9) (Nat.mod_lt _ (by decide))
    rw [show j / 9 * 9 + j % 9 = j by omega] at hr
    have hc := hT (j / 9) hi (j % 9) (Nat.mod_lt _ (by decide))
    rw [add_add, show j / 9 * 9 + j % 9 = j by omega] at hc
    rw [hc, ← hj]
    unfold encO
    rw [hr]
    simp
/-- A slice of numbers. -/
theorem open_ints {H : Type} {enc : TypeId × Value → H} {w : World} {base : Nat} {spare : Nat → Bool} {held : Bool} {ao : Option Addr} {n cap : Nat} {d : DataW H} {pl : List MemPlace}
    (h : DataW.Trod enc Try.prog w base spare held 23 (.slice ao n cap) d pl) : ∃ l : List Int, Reads w ⟨ao, n, cap⟩ 1 (ints l) := by
  obtain ⟨fuel, h⟩ := h
  have ce : Try.prog.cellsOf 3 = 1 := by kernel_rfl
  rcases open_slice Try.underlying23 h with ⟨hv, hx⟩ | ⟨a, len, cap', m, n', D, Pl, hv, _, hl, hm, hmm, hx, hcells⟩
  · simp [Value.cells] at hv
    obtain ⟨rfl, rfl, rfl⟩ := hv
    exact ⟨[], Reads.none_ w 1⟩
  · simp [Value.cells] at hv
    obtain ⟨rfl, rfl, rfl⟩ := hv
    have hlm : n ≤ m := by rw [hmm]; split <;> omega
    obtain ⟨T, hT⟩ := choose_lt (α := Int) (n := n) (p := fun i t => w.cell? (a.add i) = some (.int .i64 t)) (fun i hi => by
      obtain ⟨cs', h1, h2⟩ := hcells i (by omega)
      rw [ce] at h1
      obtain ⟨_, hlen, hcell⟩ := World.cells?_some h1
      match cs', hlen with
      | [c], _ =>
        obtain ⟨x, rfl, _⟩ := int_of Try.underlying3 rfl h2
        refine ⟨x, ?_⟩
        have := hcell 0 (by decide)
        simpa [add_add] using this)
    refine ⟨(List.range n).map T, reads_of hl hm (by simp) (by decide) ?_⟩
    intro j u hj
    have hjl := (List.getElem?_eq_some_iff.1 hj).1
    simp at hjl
    rw [hT j hjl, ← hj]
    simp [hjl]
end Go.Proofs.Ytmjbccimijnceaa
