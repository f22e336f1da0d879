/- An argument that is a list of events; the table of powers as the rows list it; the start that fits. -/
import Derived.Test.YtfdghlpkioednaaDoorLaw1
import Derived.OpenShut
import Derived.Deep.Slices
import Derived.Deep.Fields
import Derived.ChangeSame
import Derived.ChangeArms
import Derived.Lib.SmallJoins
import Derived.LaidMore
import Derived.Stop.Joined
import Derived.MakeChecks
namespace Go.Proofs.YtfdghlpkioednaaDoor
open Go.Joins Go.ChangeShapes Go.WideShapes Go.ChangeAt Go.RowKit Go.Deep
set_option linter.unusedVariables false

theorem int_of {H : Type} {enc : TypeId × Value → H} {w : World} {base : Nat} {spare : Nat → Bool} {held : Bool} {n : Nat} {t : TypeId} {q : IntKind} {c : Value} {y : Option (DataW H × List MemPlace)}
    (ht : Tryd.prog.underlying t = some (.int q)) (hy : y.isSome = true) (h : DataW.trod enc Tryd.prog w base spare held n t [c] = y) : ∃ x, c = .int q x ∧ (Lit.int q x).wf = true := by
  obtain ⟨y, rfl⟩ := Option.isSome_iff_exists.1 hy
  obtain ⟨x, hx, _, hw⟩ := DataW.trod_int ht h
  exact ⟨x, by simpa using hx, hw⟩
theorem bd_u32 {x : Int} (h : (Lit.int .u32 x).wf = true) : 0 ≤ x ∧ x < 4294967296 := by
  simp [Lit.wf, IntKind.min, IntKind.max, IntKind.signed, IntKind.bits] at h
  exact ⟨by omega, by omega⟩
theorem bd_i64 {x : Int} (h : (Lit.int .i64 x).wf = true) : -9223372036854775808 ≤ x ∧ x ≤ 9223372036854775807 := by
  simp [Lit.wf, IntKind.min, IntKind.max, IntKind.signed, IntKind.bits] at h
  exact ⟨by omega, by omega⟩
theorem tri_cells {H : Type} {enc : TypeId × Value → H} {w : World} {base : Nat} {spare : Nat → Bool} {held : Bool} {fuel : Nat} {t : TypeId} {cs : List Value} {y : DataW H × List MemPlace}
    (ht : t = 30 ∨ t = 32) (h : DataW.trod enc Tryd.prog w base spare held fuel t cs = some y) (hl : cs.length = 3) : ∃ c : Tri, cs = c.cs.toList ∧ Fit c ∧ (-9223372036854775808 ≤ c.op ∧ c.op ≤ 9223372036854775807) := by
  match cs, hl with
  | [c0, c1, c2], _ =>
    have q3 : Tryd.prog.cellsOf 3 = 1 := by kernel_rfl
    have q28 : Tryd.prog.cellsOf 28 = 1 := by kernel_rfl
    rcases ht with rfl | rfl
    · obtain ⟨xs, n, _, hx, _, hlen, hg⟩ := DataW.trod_struct Tryd.underlying30 h
      have hs : ∀ j, j < 3 → (xs[j]?).isSome = true := fun j hj => by
        have : xs.length = 3 := hlen
        rw [List.getElem?_eq_getElem (by omega)]; rfl
      obtain ⟨a0, rfl, w0⟩ := int_of Tryd.underlying3 (hs 0 (by omega)) (by simpa [q3, q28] using hg 0 _ rfl)
      obtain ⟨a1, rfl, w1⟩ := int_of Tryd.underlying28 (hs 1 (by omega)) (by simpa [q3, q28] using hg 1 _ rfl)
      obtain ⟨a2, rfl, w2⟩ := int_of Tryd.underlying28 (hs 2 (by omega)) (by simpa [q3, q28] using hg 2 _ rfl)
      exact ⟨⟨a0, a1, a2⟩, rfl, ⟨(bd_u32 w1).1, (bd_u32 w1).2, (bd_u32 w2).1, (bd_u32 w2).2⟩, bd_i64 w0⟩
    · obtain ⟨xs, n, _, hx, _, hlen, hg⟩ := DataW.trod_struct Tryd.underlying32 h
      have hs : ∀ j, j < 3 → (xs[j]?).isSome = true := fun j hj => by
        have : xs.length = 3 := hlen
        rw [List.getElem?_eq_getElem (by omega)]; rfl
      obtain ⟨a0, rfl, w0⟩ := int_of Tryd.underlying3 (hs 0 (by omega)) (by simpa [q3, q28] using hg 0 _ rfl)
      obtain ⟨a1, rfl, w1⟩ := int_of Tryd.underlying28 (hs 1 (by omega)) (by simpa [q3, q28] using hg 1 _ rfl)
      obtain ⟨a2, rfl, w2⟩ := int_of Tryd.underlying28 (hs 2 (by omega)) (by simpa [q3, q28] using hg 2 _ rfl)
      exact ⟨⟨a0, a1, a2⟩, rfl, ⟨(bd_u32 w1).1, (bd_u32 w1).2, (bd_u32 w2).1, (bd_u32 w2).2⟩, bd_i64 w0⟩
theorem bool_of {H : Type} {enc : TypeId × Value → H} {w : World} {base : Nat} {spare : Nat → Bool} {held : Bool} {n : Nat} {c : Value} {y : Option (DataW H × List MemPlace)}
    (hy : y.isSome = true) (h : DataW.trod enc Tryd.prog w base spare held n 4 [c] = y) : ∃ x, c = .bool x := by
  obtain ⟨y, rfl⟩ := Option.isSome_iff_exists.1 hy
  obtain ⟨x, hx, _⟩ := DataW.trod_bool Tryd.underlying4 h
  exact ⟨x, by simpa using hx⟩
theorem some_of {H : Type} {y : Option H} (h : y.isSome = true) : ∃ z, y = some z := Option.isSome_iff_exists.1 h
set_option maxRecDepth 100000 in
theorem ev_cells {H : Type} {enc : TypeId × Value → H} {w : World} {base : Nat} {spare : Nat → Bool} {held : Bool} {fuel : Nat} {cs : List Value} {y : DataW H × List MemPlace}
    (h : DataW.trod enc Tryd.prog w base spare held fuel 34 cs = some y) (hl : cs.length = 8) : ∃ e : Ev, cs = e.cs.toList ∧ FitE e := by
  match cs, hl with
  | [c0, c1, c2, c3, c4, c5, c6, c7], _ =>
    have q3 : Tryd.prog.cellsOf 3 = 1 := by kernel_rfl
    have q4 : Tryd.prog.cellsOf 4 = 1 := by kernel_rfl
    have q30 : Tryd.prog.cellsOf 30 = 3 := by kernel_rfl
    have q32 : Tryd.prog.cellsOf 32 = 3 := by kernel_rfl
    obtain ⟨xs, n, _, hx, _, hlen, hg⟩ := DataW.trod_struct Tryd.underlying34 h
    have hxs : xs.length = 4 := hlen
    match xs, hxs with
    | [x0, x1, x2, x3], _ =>
      have g0 := hg 0 _ rfl
      have g1 := hg 1 _ rfl
      have g2 := hg 2 _ rfl
      have g3 := hg 3 _ rfl
      simp [q3] at g0
      simp [q4] at g1
      simp [q30] at g2
      simp [q32] at g3
      obtain ⟨a0, rfl, w0⟩ := int_of Tryd.underlying3 rfl g0
      obtain ⟨a1, rfl⟩ := bool_of rfl g1
      obtain ⟨c, hc, fc, _⟩ := tri_cells (.inl rfl) g2 rfl
      obtain ⟨a, ha, fa, _⟩ := tri_cells (.inr rfl) g3 rfl
      simp at hc ha
      obtain ⟨rfl, rfl, rfl⟩ := hc
      obtain ⟨rfl, rfl, rfl⟩ := ha
      exact ⟨⟨a0, a1, c, a⟩, rfl, bd_i64 w0, fc, fa⟩
theorem reads_of {W : World} {a : Addr} {len cap size : Nat} {vs : List Value} (hl : len ≤ cap) (hm : cap ≤ maxLen) (hv : vs.length = len * size) (hs : 0 < size) (hc : ∀ j u, vs[j]? = some u → W.cell? (a.add j) = some u) : Reads W ⟨some a, len, cap⟩ size vs := by
  refine ⟨hv, ⟨hl, hm⟩, (by intro e; cases e), ?_⟩
  rcases Nat.eq_zero_or_pos len with h0 | h0
  · exact .inl h0
  · right
    have hpos : 0 < vs.length := by rw [hv]; exact Nat.mul_pos h0 hs
    have h1 := hc 0 _ (List.getElem?_eq_getElem hpos)
    obtain ⟨b, off, spot⟩ := a
    have hspot : spot = none := by simpa [Addr.add] using World.cell?_spot h1
    subst hspot
    exact ⟨b, off, rfl, fun j u hj => by rw [← Go.WideShapes.add_plain]; exact hc j u hj⟩
instance : Inhabited Ev := ⟨ze⟩
/-- A slice of events. -/
theorem open_events {H : Type} {enc : TypeId × Value → H} {w : World} {base : Nat} {spare : Nat → Bool} {held : Bool} {fuel : Nat} {v : Value} {x : DataW H × List MemPlace}
    (h : DataW.trod enc Tryd.prog w base spare held fuel 22 [v] = some x) : ∃ (q : Sl) (l : List Ev), v = .slice q.a q.n q.cap ∧ Reads w q 8 (encE l) ∧ ∀ e ∈ l, FitE e := by
  have c34 : Tryd.prog.cellsOf 34 = 8 := by kernel_rfl
  rcases open_slice Tryd.underlying22 h with ⟨hv, hx⟩ | ⟨a, len, cap, m, n, D, Pl, hv, _, hl, hm, hmm, hx, hcells⟩
  · obtain rfl : v = .slice none 0 0 := by simpa using hv
    exact ⟨nilS, [], rfl, Reads.none_ w 8, fun c hc => by simp at hc⟩
  · obtain rfl : v = .slice (some a) len cap := by simpa using hv
    have hlm : len ≤ m := by rw [hmm]; split <;> omega
    obtain ⟨T, hT⟩ := choose_lt (α := Ev) (n := len) (p := fun i t => FitE t ∧ ∀ j, j < 8 → w.cell? ((a.add (i * 8)).add j) = t.cs[j]?) (fun i hi => by
      obtain ⟨cs', h1, h2⟩ := hcells i (by omega)
      rw [c34] at h1
      obtain ⟨_, hlen, hcell⟩ := World.cells?_some h1
      obtain ⟨t, rfl, hf⟩ := ev_cells h2 hlen
      exact ⟨t, hf, fun j hj => by rw [hcell j hj]; simp⟩)
    refine ⟨⟨some a, len, cap⟩, (List.range len).map T, rfl, reads_of hl hm (by simp [encE_len]) (by decide) ?_, ?_⟩
    · intro j u hj
      have hjl := (List.getElem?_eq_some_iff.1 hj).1
      rw [encE_len] at hjl
      simp at hjl
      have hi : j / 8 < len := by omega
      have hr := flat_get (f := fun e : Ev => e.cs.toList) (m := 8) (fun _ => rfl) ((List.range len).map T) (j / 8) (T (j / 8)) (by simp [hi]) (j % 8) (Nat.mod_lt _ (by decide))
      rw [show j / 8 * 8 + j % 8 = j by omega] at hr
      have hc := (hT (j / 8) hi).2 (j % 8) (Nat.mod_lt _ (by decide))
      rw [add_add, show j / 8 * 8 + j % 8 = j by omega] at hc
      rw [hc, ← hj]
      unfold encE
      rw [hr]
      simp
    · intro c hc
      obtain ⟨i, hi, rfl⟩ := List.mem_map.1 hc
      exact (hT i (by simpa using hi)).1

/-- What the rows list. -/
abbrev laidL : List (String × DataW Unit) := Rows.histNotesRow.laid
/-- A start that fits what the rows list. -/
theorem door_met (os : Os) (args : Array Value) : laidMetH Tryd.prog laidL ((World.doorLaid Tryd.prog 400 os).forCall (fun _ _ => 0) ⟨#[], args, []⟩).memory :=
  laidMetH_of_parts3 (fuel := 8) (laidMet_of_run' 8 (by kernel_rfl) (by kernel_rfl)) (by kernel_rfl) (by kernel_rfl)
theorem tab_of_laid {W : World} (h : laidMetH Tryd.prog laidL W) : Tab W := by
  rw [MakeChecks.laidMetH_plain _ _ _ (by kernel_rfl)] at h
  obtain ⟨ps, ⟨g0, t0, cs0, f0, p0, q0, hg0, ht0, hv0, hd0, ⟨g1, t1, cs1, f1, p1, q1, hg1, ht1, hv1, hd1, ⟨g2, t2, cs2, f2, p2, q2, hg2, ht2, hv2, hd2, _, _⟩, _⟩, _⟩, _⟩ := h
  have gU : Tryd.prog.globalNamed "internal/strconv.uint64pow10" = some 0 := by kernel_rfl
  have tU : (Tryd.prog.globals[0]?).map (·.type) = some 93 := by kernel_rfl
  obtain rfl := Option.some.inj (gU.symm.trans hg2)
  obtain rfl := Option.some.inj (tU.symm.trans ht2)
  unfold Tab Lib.TabIs
  rw [hv2]
  have e : cs2.toList = Lib.pow10Tab.map fun z => Value.int .u64 z := Lib.cells_of_tab (k := .u64) (zs := Lib.pow10Tab) (n := 20) (e := 73) Tryd.underlying93 Tryd.underlying73 (by kernel_rfl) (by kernel_rfl) hd2
  obtain ⟨l⟩ := cs2
  simp only at e
  rw [e]
end Go.Proofs.YtfdghlpkioednaaDoor
