/- An argument that is a list of pairs, or of deeds. -/
import Derived.Test.YtjmejdalmglehaaLaw1
import Derived.Test.YtjmejdalmglehaaLaw2
import Derived.OpenShut
import Derived.Deep.Slices
import Derived.Deep.Fields
import Derived.ChangeSame
import Derived.ChangeArms
import Derived.Lib.SmallJoins
namespace Go.Proofs.Ytjmejdalmglehaa
open Go.Joins Go.ChangeShapes Go.WideShapes Go.ChangeAt Go.RowKit Go.Deep
set_option linter.unusedVariables false

theorem int_of {H : Type} {enc : TypeId × Value → H} {w : World} {base : Nat} {spare : Nat → Bool} {held : Bool} {n : Nat} {t : TypeId} {q : IntKind} {c : Value} {y : Option (DataW H × List MemPlace)}
    (ht : Try.prog.underlying t = some (.int q)) (hy : y.isSome = true) (h : DataW.trod enc Try.prog w base spare held n t [c] = y) : ∃ x, c = .int q x ∧ (Lit.int q x).wf = true := by
  obtain ⟨y, rfl⟩ := Option.isSome_iff_exists.1 hy
  obtain ⟨x, hx, _, hw⟩ := DataW.trod_int ht h
  exact ⟨x, by simpa using hx, hw⟩
theorem bd_u32 {x : Int} (h : (Lit.int .u32 x).wf = true) : 0 ≤ x ∧ x < 4294967296 := by
  simp [Lit.wf, IntKind.min, IntKind.max, IntKind.signed, IntKind.bits] at h
  exact ⟨by omega, by omega⟩
theorem bd_i64 {x : Int} (h : (Lit.int .i64 x).wf = true) : -9223372036854775808 ≤ x ∧ x ≤ 9223372036854775807 := by
  simp [Lit.wf, IntKind.min, IntKind.max, IntKind.signed, IntKind.bits] at h
  exact ⟨by omega, by omega⟩
theorem tri_cells {H : Type} {enc : TypeId × Value → H} {w : World} {base : Nat} {spare : Nat → Bool} {held : Bool} {fuel : Nat} {t : TypeId} {cs : List Value} {y : DataW H × List MemPlace}
    (ht : t = 30 ∨ t = 32) (h : DataW.trod enc Try.prog w base spare held fuel t cs = some y) (hl : cs.length = 3) : ∃ c : Tri, cs = c.cs.toList := by
  match cs, hl with
  | [c0, c1, c2], _ =>
    have q3 : Try.prog.cellsOf 3 = 1 := by kernel_rfl
    have q28 : Try.prog.cellsOf 28 = 1 := by kernel_rfl
    rcases ht with rfl | rfl
    · obtain ⟨xs, n, _, hx, _, hlen, hg⟩ := DataW.trod_struct Try.underlying30 h
      have hs : ∀ j, j < 3 → (xs[j]?).isSome = true := fun j hj => by
        have : xs.length = 3 := hlen
        rw [List.getElem?_eq_getElem (by omega)]; rfl
      obtain ⟨a0, rfl, w0⟩ := int_of Try.underlying3 (hs 0 (by omega)) (by simpa [q3, q28] using hg 0 _ rfl)
      obtain ⟨a1, rfl, w1⟩ := int_of Try.underlying28 (hs 1 (by omega)) (by simpa [q3, q28] using hg 1 _ rfl)
      obtain ⟨a2, rfl, w2⟩ := int_of Try.underlying28 (hs 2 (by omega)) (by simpa [q3, q28] using hg 2 _ rfl)
      exact ⟨⟨a0, a1, a2⟩, rfl⟩
    · obtain ⟨xs, n, _, hx, _, hlen, hg⟩ := DataW.trod_struct Try.underlying32 h
      have hs : ∀ j, j < 3 → (xs[j]?).isSome = true := fun j hj => by
        have : xs.length = 3 := hlen
        rw [List.getElem?_eq_getElem (by omega)]; rfl
      obtain ⟨a0, rfl, w0⟩ := int_of Try.underlying3 (hs 0 (by omega)) (by simpa [q3, q28] using hg 0 _ rfl)
      obtain ⟨a1, rfl, w1⟩ := int_of Try.underlying28 (hs 1 (by omega)) (by simpa [q3, q28] using hg 1 _ rfl)
      obtain ⟨a2, rfl, w2⟩ := int_of Try.underlying28 (hs 2 (by omega)) (by simpa [q3, q28] using hg 2 _ rfl)
      exact ⟨⟨a0, a1, a2⟩, rfl⟩
theorem pr_cells {H : Type} {enc : TypeId × Value → H} {w : World} {base : Nat} {spare : Nat → Bool} {held : Bool} {fuel : Nat} {cs : List Value} {y : DataW H × List MemPlace}
    (h : DataW.trod enc Try.prog w base spare held fuel 38 cs = some y) (hl : cs.length = 2) : ∃ p : Pr, cs = p.cs.toList := by
  match cs, hl with
  | [c0, c1], _ =>
    have q28 : Try.prog.cellsOf 28 = 1 := by kernel_rfl
    obtain ⟨xs, n, _, hx, _, hlen, hg⟩ := DataW.trod_struct Try.underlying38 h
    have hs : ∀ j, j < 2 → (xs[j]?).isSome = true := fun j hj => by
      have : xs.length = 2 := hlen
      rw [List.getElem?_eq_getElem (by omega)]; rfl
    obtain ⟨a0, rfl, w0⟩ := int_of Try.underlying28 (hs 0 (by omega)) (by simpa [q28] using hg 0 _ rfl)
    obtain ⟨a1, rfl, w1⟩ := int_of Try.underlying28 (hs 1 (by omega)) (by simpa [q28] using hg 1 _ rfl)
    exact ⟨⟨a0, a1⟩, rfl⟩
set_option maxRecDepth 100000 in
theorem op_cells {H : Type} {enc : TypeId × Value → H} {w : World} {base : Nat} {spare : Nat → Bool} {held : Bool} {fuel : Nat} {cs : List Value} {y : DataW H × List MemPlace}
    (h : DataW.trod enc Try.prog w base spare held fuel 34 cs = some y) (hl : cs.length = 7) : ∃ e : Opb, cs = e.cs.toList := by
  match cs, hl with
  | [c0, c1, c2, c3, c4, c5, c6], _ =>
    have q3 : Try.prog.cellsOf 3 = 1 := by kernel_rfl
    have q30 : Try.prog.cellsOf 30 = 3 := by kernel_rfl
    have q32 : Try.prog.cellsOf 32 = 3 := by kernel_rfl
    obtain ⟨xs, n, _, hx, _, hlen, hg⟩ := DataW.trod_struct Try.underlying34 h
    have hxs : xs.length = 3 := hlen
    match xs, hxs with
    | [x0, x1, x2], _ =>
      have g0 := hg 0 _ rfl
      have g1 := hg 1 _ rfl
      have g2 := hg 2 _ rfl
      simp [q3] at g0
      simp [q30] at g1
      simp [q32] at g2
      obtain ⟨a0, rfl, w0⟩ := int_of Try.underlying3 rfl g0
      obtain ⟨c, hc⟩ := tri_cells (.inl rfl) g1 rfl
      obtain ⟨a, ha⟩ := tri_cells (.inr rfl) g2 rfl
      simp at hc ha
      obtain ⟨rfl, rfl, rfl⟩ := hc
      obtain ⟨rfl, rfl, rfl⟩ := ha
      exact ⟨⟨a0, c, a⟩, rfl⟩
theorem reads_of {W : World} {a : Addr} {len cap size : Nat} {vs : List Value} (hl : len ≤ cap) (hm : cap ≤ maxLen) (hv : vs.length = len * size) (hs : 0 < size) (hc : ∀ j u, vs[j]? = some u → W.cell? (a.add j) = some u) : Reads W ⟨some a, len, cap⟩ size vs := by
  refine ⟨hv, ⟨hl, hm⟩, (by intro e; cases e), ?_⟩
  rcases Nat.eq_zero_or_pos len with h0 | h0
  · exact .inl h0
  · right
    have hpos : 0 < vs.length := by rw [hv]; exact Nat.mul_pos h0 hs
    have h1 := hc 0 _ (List.getElem?_eq_getElem hpos)
    obtain ⟨b, off, spot⟩ := a
    have hspot : spot = none := by simpa [Addr.add] using World.cell?_spot h1
    subst hspot
    exact ⟨b, off, rfl, fun j u hj => by rw [← Go.WideShapes.add_plain]; exact hc j u hj⟩
instance : Inhabited Pr := ⟨zp⟩
instance : Inhabited Opb := ⟨zo⟩
/-- A slice of pairs. -/
theorem open_pairs {H : Type} {enc : TypeId × Value → H} {w : World} {base : Nat} {spare : Nat → Bool} {held : Bool} {ao : Option Addr} {n cap : Nat} {d : DataW H} {pl : List MemPlace}
    (h : DataW.Trod enc Try.prog w base spare held 24 (.slice ao n cap) d pl) : ∃ l : List Pr, Reads w ⟨ao, n, cap⟩ 2 (encP l) := by
  obtain ⟨fuel, h⟩ := h
  have ce : Try.prog.cellsOf 38 = 2 := by kernel_rfl
  rcases open_slice Try.underlying24 h with ⟨hv, hx⟩ | ⟨a, len, cap', m, n', D, Pl, hv, _, hl, hm, hmm, hx, hcells⟩
  · simp [Value.cells] at hv
    obtain ⟨rfl, rfl, rfl⟩ := hv
    exact ⟨[], Reads.none_ w 2⟩
  · simp [Value.cells] at hv
    obtain ⟨rfl, rfl, rfl⟩ := hv
    have hlm : n ≤ m := by rw [hmm]; split <;> omega
    obtain ⟨T, hT⟩ := choose_lt (α := Pr) (n := n) (p := fun i t => ∀ j, j < 2 → w.cell? ((a.add (i * 2)).add j) = t.cs[j]?) (fun i hi => by
      obtain ⟨cs', h1, h2⟩ := hcells i (by omega)
      rw [ce] at h1
      obtain ⟨_, hlen, hcell⟩ := World.cells?_some h1
      obtain ⟨t, rfl⟩ := pr_cells h2 hlen
      exact ⟨t, fun j hj => by rw [hcell j hj]; simp⟩)
    refine ⟨(List.range n).map T, reads_of hl hm (by rw [encP_len]; simp; omega) (by decide) ?_⟩
    intro j u hj
    have hjl := (List.getElem?_eq_some_iff.1 hj).1
    rw [encP_len] at hjl
    simp at hjl
    have hi : j / 2 < n := by omega
    have hr := flat_get (f := fun e : Pr => e.cs.toList) (m := 2) (fun _ => rfl) ((List.range n).map T) (j / 2) (T (j / 2)) (by simp [hi]) (j % 2) (Nat.mod_lt _ (by decide))
    rw [show j / 2 * 2 + j % 2 = j by omega] at hr
    have hc := hT (j / 2) hi (j % 2) (Nat.mod_lt _ (by decide))
    rw [add_add, show j / 2 * 2 + j % 2 = j by omega] at hc
    rw [hc, ← hj]
    unfold encP
    rw [hr]
    simp
/-- A slice of deeds. -/
theorem open_deeds {H : Type} {enc : TypeId × Value → H} {w : World} {base : Nat} {spare : Nat → Bool} {held : Bool} {ao : Option Addr} {n cap : Nat} {d : DataW H} {pl : List MemPlace}
    (h : DataW.Trod enc Try.prog w base spare held 22 (.slice ao n cap) d pl) : ∃ l : List Opb, Reads w ⟨ao, n, cap⟩ 7 (encO l) := by
  obtain ⟨fuel, h⟩ := h
  have ce : Try.prog.cellsOf 34 = 7 := by kernel_rfl
  rcases open_slice Try.underlying22 h with ⟨hv, hx⟩ | ⟨a, len, cap', m, n', D, Pl, hv, _, hl, hm, hmm, hx, hcells⟩
  · simp [Value.cells] at hv
    obtain ⟨rfl, rfl, rfl⟩ := hv
    exact ⟨[], Reads.none_ w 7⟩
  · simp [Value.cells] at hv
    obtain ⟨rfl, rfl, rfl⟩ := hv
    have hlm : n ≤ m := by rw [hmm]; split <;> omega
    obtain ⟨T, hT⟩ := choose_lt (α := Opb) (n := n) (p := fun i t => ∀ j, j < 7 → w.cell? ((a.add (i * 7)).add j) = t.cs[j]?) (fun i hi => by
      obtain ⟨cs', h1, h2⟩ := hcells i (by omega)
      rw [ce] at h1
      obtain ⟨_, hlen, hcell⟩ := World.cells?_some h1
      obtain ⟨t, rfl⟩ := op_cells h2 hlen
      exact ⟨t, fun j hj => by rw [hcell j hj]; simp⟩)
    refine ⟨(List.range n).map T, reads_of hl hm (by rw [encO_len]; simp; omega) (by decide) ?_⟩
    intro j u hj
    have hjl := (List.getElem?_eq_some_iff.1 hj).1
    rw [encO_len] at hjl
    simp at hjl
    have hi : j / 7 < n := by omega
    have hr := flat_get (f := fun e : Opb => e.cs.toList) (m := 7) (fun _ => rfl) ((List.range n).map T) (j / 7) (T (j / 7)) (by simp [hi]) (j % 7) (Nat.mod_lt _ (by decide))
    rw [show j / 7 * 7 + j % 7 = j by omega] at hr
    have hc := hT (j / 7) hi (j % 7) (Nat.mod_lt _ (by decide))
    rw [add_add, show j / 7 * 7 + j % 7 = j by omega] at hc
    rw [hc, ← hj]
    unfold encO
    rw [hr]
    simp
end Go.Proofs.Ytjmejdalmglehaa
