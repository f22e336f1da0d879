/- An argument that is a script, by value: its configuration, its lists of calls, its picks and draws. -/
import Derived.Test.YtdmdmkgpnelkjaaData
import Derived.OpenShut
import Derived.Deep.Slices
import Derived.Deep.Fields
import Derived.ChangeSame
import Derived.Lib.SmallJoins
namespace Go.Proofs.Ytdmdmkgpnelkjaa
open Go.Joins Go.ChangeShapes Go.WideShapes Go.ChangeAt Go.RowKit Go.Deep
set_option linter.unusedVariables false

theorem bd_u32 {x : Int} (h : (Lit.int .u32 x).wf = true) : 0 ≤ x ∧ x < 4294967296 := by
  simp [Lit.wf, IntKind.min, IntKind.max, IntKind.signed, IntKind.bits] at h
  exact ⟨by omega, by omega⟩
theorem int_of {H : Type} {enc : TypeId × Value → H} {w : World} {base : Nat} {spare : Nat → Bool} {held : Bool} {n : Nat} {t : TypeId} {q : IntKind} {c : Value} {y : Option (DataW H × List MemPlace)}
    (ht : Try.prog.underlying t = some (.int q)) (hy : y.isSome = true) (h : DataW.trod enc Try.prog w base spare held n t [c] = y) : ∃ x, c = .int q x ∧ (Lit.int q x).wf = true := by
  obtain ⟨y, rfl⟩ := Option.isSome_iff_exists.1 hy
  obtain ⟨x, hx, _, hw⟩ := DataW.trod_int ht h
  exact ⟨x, by simpa using hx, hw⟩
theorem reads_of {W : World} {a : Addr} {len cap size : Nat} {vs : List Value} (hl : len ≤ cap) (hm : cap ≤ maxLen) (hv : vs.length = len * size) (hs : 0 < size) (hc : ∀ j u, vs[j]? = some u → W.cell? (a.add j) = some u) : Reads W ⟨some a, len, cap⟩ size vs := by
  refine ⟨hv, ⟨hl, hm⟩, (by intro e; cases e), ?_⟩
  rcases Nat.eq_zero_or_pos len with h0 | h0
  · exact .inl h0
  · right
    have hpos : 0 < vs.length := by rw [hv]; exact Nat.mul_pos h0 hs
    have h1 := hc 0 _ (List.getElem?_eq_getElem hpos)
    obtain ⟨b, off, spot⟩ := a
    have hspot : spot = none := by simpa [Addr.add] using World.cell?_spot h1
    subst hspot
    exact ⟨b, off, rfl, fun j u hj => by rw [← Go.WideShapes.add_plain]; exact hc j u hj⟩
set_option maxRecDepth 100000 in
theorem conf_cells {H : Type} {enc : TypeId × Value → H} {w : World} {base : Nat} {spare : Nat → Bool} {held : Bool} {fuel : Nat} {cs : List Value} {y : DataW H × List MemPlace}
    (h : DataW.trod enc Try.prog w base spare held fuel 25 cs = some y) (hl : cs.length = 7) : ∃ c : Cf, cs = c.cs.toList := by
  match cs, hl with
  | [c0, c1, c2, c3, c4, c5, c6], _ =>
    have q3 : Try.prog.cellsOf 3 = 1 := by kernel_rfl
    obtain ⟨xs, n, _, hx, _, hlen, hg⟩ := DataW.trod_struct Try.underlying25 h
    have hs : ∀ j, j < 7 → (xs[j]?).isSome = true := fun j hj => by
      have : xs.length = 7 := hlen
      rw [List.getElem?_eq_getElem (by omega)]; rfl
    obtain ⟨a0, rfl, _⟩ := int_of Try.underlying3 (hs 0 (by omega)) (by simpa [q3] using hg 0 _ rfl)
    obtain ⟨a1, rfl, _⟩ := int_of Try.underlying3 (hs 1 (by omega)) (by simpa [q3] using hg 1 _ rfl)
    obtain ⟨a2, rfl, _⟩ := int_of Try.underlying3 (hs 2 (by omega)) (by simpa [q3] using hg 2 _ rfl)
    obtain ⟨a3, rfl, _⟩ := int_of Try.underlying3 (hs 3 (by omega)) (by simpa [q3] using hg 3 _ rfl)
    obtain ⟨a4, rfl, _⟩ := int_of Try.underlying3 (hs 4 (by omega)) (by simpa [q3] using hg 4 _ rfl)
    obtain ⟨a5, rfl, _⟩ := int_of Try.underlying3 (hs 5 (by omega)) (by simpa [q3] using hg 5 _ rfl)
    obtain ⟨a6, rfl, _⟩ := int_of Try.underlying3 (hs 6 (by omega)) (by simpa [q3] using hg 6 _ rfl)
    exact ⟨⟨a0, a1, a2, a3, a4, a5, a6⟩, rfl⟩
set_option maxRecDepth 100000 in
theorem tri_cells {H : Type} {enc : TypeId × Value → H} {w : World} {base : Nat} {spare : Nat → Bool} {held : Bool} {fuel : Nat} {cs : List Value} {y : DataW H × List MemPlace}
    (h : DataW.trod enc Try.prog w base spare held fuel 49 cs = some y) (hl : cs.length = 3) : ∃ c : Tri, cs = c.cs.toList ∧ Fit c := by
  match cs, hl with
  | [c0, c1, c2], _ =>
    have q3 : Try.prog.cellsOf 3 = 1 := by kernel_rfl
    have q47 : Try.prog.cellsOf 47 = 1 := by kernel_rfl
    obtain ⟨xs, n, _, hx, _, hlen, hg⟩ := DataW.trod_struct Try.underlying49 h
    have hs : ∀ j, j < 3 → (xs[j]?).isSome = true := fun j hj => by
      have : xs.length = 3 := hlen
      rw [List.getElem?_eq_getElem (by omega)]; rfl
    obtain ⟨a0, rfl, _⟩ := int_of Try.underlying3 (hs 0 (by omega)) (by simpa [q3, q47] using hg 0 _ rfl)
    obtain ⟨a1, rfl, w1⟩ := int_of Try.underlying47 (hs 1 (by omega)) (by simpa [q3, q47] using hg 1 _ rfl)
    obtain ⟨a2, rfl, w2⟩ := int_of Try.underlying47 (hs 2 (by omega)) (by simpa [q3, q47] using hg 2 _ rfl)
    exact ⟨⟨a0, a1, a2⟩, rfl, (bd_u32 w1).1, (bd_u32 w1).2, (bd_u32 w2).1, (bd_u32 w2).2⟩
instance : Inhabited Tri := ⟨⟨0, 0, 0⟩⟩
instance : Inhabited Sl := ⟨nilS⟩
theorem encT_at (l : List Tri) (i j : Nat) (c : Tri) (h : l[i]? = some c) (hj : j < 3) : (encT l)[i * 3 + j]? = c.cs[j]? := by
  obtain ⟨h0, h1, h2⟩ := encT_get l i c h
  rcases (show j = 0 ∨ j = 1 ∨ j = 2 by omega) with rfl | rfl | rfl
  · simpa using h0
  · simpa using h1
  · simpa using h2
/-- A slice of calls. -/
theorem open_calls {H : Type} {enc : TypeId × Value → H} {w : World} {base : Nat} {spare : Nat → Bool} {held : Bool} {fuel : Nat} {v : Value} {x : DataW H × List MemPlace}
    (h : DataW.trod enc Try.prog w base spare held fuel 38 [v] = some x) :
    ∃ (q : Sl) (l : List Tri), v = .slice q.a q.n q.cap ∧ Reads w q 3 (encT l) ∧ (∀ c ∈ l, Fit c) ∧ ((x.1.weights Try.prog 38).all (· ≤ reachBytes) = true → l.length ≤ 1125899906842624) := by
  have c49 : Try.prog.cellsOf 49 = 3 := by kernel_rfl
  have b49 : Try.prog.bytesOf 49 = 16 := by kernel_rfl
  rcases open_slice Try.underlying38 h with ⟨hv, hx⟩ | ⟨a, len, cap, m, n, D, Pl, hv, _, hl, hm, hmm, hx, hcells⟩
  · obtain rfl : v = .slice none 0 0 := by simpa using hv
    exact ⟨nilS, [], rfl, Reads.none_ w 3, fun c hc => by simp at hc, fun _ => by simp⟩
  · obtain rfl : v = .slice (some a) len cap := by simpa using hv
    have hlm : len ≤ m := by rw [hmm]; split <;> omega
    obtain ⟨T, hT⟩ := choose_lt (α := Tri) (n := len) (p := fun i t => Fit t ∧ ∀ j, j < 3 → w.cell? ((a.add (i * 3)).add j) = t.cs[j]?) (fun i hi => by
      obtain ⟨cs', h1, h2⟩ := hcells i (by omega)
      rw [c49] at h1
      obtain ⟨_, hlen, hcell⟩ := World.cells?_some h1
      obtain ⟨t, rfl, hf⟩ := tri_cells h2 hlen
      exact ⟨t, hf, fun j hj => by rw [hcell j hj]; simp⟩)
    refine ⟨⟨some a, len, cap⟩, (List.range len).map T, rfl, reads_of hl hm (by simp [encT_len]) (by decide) ?_, ?_, ?_⟩
    · intro j u hj
      have hjl := (List.getElem?_eq_some_iff.1 hj).1
      rw [encT_len] at hjl
      simp at hjl
      have hi : j / 3 < len := by omega
      have hr := encT_at ((List.range len).map T) (j / 3) (j % 3) (T (j / 3)) (by simp [hi]) (Nat.mod_lt _ (by decide))
      rw [show j / 3 * 3 + j % 3 = j by omega] at hr
      have hc := (hT (j / 3) hi).2 (j % 3) (Nat.mod_lt _ (by decide))
      rw [add_add, show j / 3 * 3 + j % 3 = j by omega] at hc
      rw [hc, ← hr, hj]
    · intro c hc
      obtain ⟨i, hi, rfl⟩ := List.mem_map.1 hc
      exact (hT i (by simpa using hi)).1
    · intro hw
      subst hx
      simp only [DataW.weights, Try.underlying38, List.all_cons, Bool.and_eq_true, decide_eq_true_eq, b49] at hw
      have h1 := hw.1
      simp only [List.length_map, List.length_range, reachBytes] at h1 ⊢
      omega
theorem weightsAll_mem {H : Type} (P : Program) (e : TypeId) (l : List (DataW H)) (d : DataW H) (h : d ∈ l) (p : Nat → Bool) (ha : (DataW.weightsAll P e l).all p = true) : (d.weights P e).all p = true := by
  induction l with
  | nil => cases h
  | cons x r ih =>
    simp only [DataW.weightsAll, List.all_append, Bool.and_eq_true] at ha
    rcases List.mem_cons.1 h with rfl | h
    · exact ha.1
    · exact ih h ha.2
/-- A slice of slices of calls. -/
theorem open_lists {H : Type} {enc : TypeId × Value → H} {w : World} {base : Nat} {spare : Nat → Bool} {held : Bool} {fuel : Nat} {v : Value} {x : DataW H × List MemPlace}
    (h : DataW.trod enc Try.prog w base spare held fuel 26 [v] = some x) :
    ∃ (q : Sl) (ls : List (List Tri)), v = .slice q.a q.n q.cap ∧ RdL w q ls ∧ (∀ l ∈ ls, ∀ c ∈ l, Fit c) ∧ ((x.1.weights Try.prog 26).all (· ≤ reachBytes) = true → ∀ l ∈ ls, l.length ≤ 1125899906842624) := by
  rcases open_slice1 Try.underlying26 (by kernel_rfl) h with ⟨hv, hx⟩ | ⟨a, len, cap, m, n, V, D, Pl, hv, _, hl, hm, hmm, hx, hcells⟩
  · obtain rfl : v = .slice none 0 0 := by simpa using hv
    exact ⟨nilS, [], rfl, ⟨[], rfl, Reads.none_ w 1, fun i y l h => by simp at h⟩, fun c hc => by simp at hc, fun _ c hc => by simp at hc⟩
  · obtain rfl : v = .slice (some a) len cap := by simpa using hv
    have hlm : len ≤ m := by rw [hmm]; split <;> omega
    obtain ⟨T, hT⟩ := choose_lt (α := Sl × List Tri) (n := len) (p := fun i t => V i = .slice t.1.a t.1.n t.1.cap ∧ w.cell? (a.add i) = some (V i) ∧ Reads w t.1 3 (encT t.2) ∧ (∀ c ∈ t.2, Fit c) ∧ (((D i).weights Try.prog 38).all (· ≤ reachBytes) = true → t.2.length ≤ 1125899906842624)) (fun i hi => by
      obtain ⟨h1, h2⟩ := hcells i (by omega)
      obtain ⟨q, l, e, h3, h4, h5⟩ := open_calls h2
      exact ⟨(q, l), e, h1, h3, h4, h5⟩)
    refine ⟨⟨some a, len, cap⟩, (List.range len).map fun i => (T i).2, rfl, ⟨(List.range len).map fun i => (T i).1, by simp, reads_of hl hm (by simp) (by decide) ?_, ?_⟩, ?_, ?_⟩
    · intro j u hj
      have hjl := (List.getElem?_eq_some_iff.1 hj).1
      simp at hjl
      obtain ⟨h1, h2, _⟩ := hT j hjl
      rw [h2, h1]
      simpa [hjl] using hj
    · intro i y l hy hl'
      have hil := (List.getElem?_eq_some_iff.1 hy).1
      simp at hil
      obtain ⟨_, _, h3, _⟩ := hT i hil
      simp [hil] at hy hl'
      subst hy hl'
      exact h3
    · intro l hl' c hc
      obtain ⟨i, hi, rfl⟩ := List.mem_map.1 hl'
      exact (hT i (by simpa using hi)).2.2.2.1 c hc
    · intro hw l hl'
      obtain ⟨i, hi, rfl⟩ := List.mem_map.1 hl'
      subst hx
      simp only [DataW.weights, Try.underlying26, List.all_cons, List.all_append, Bool.and_eq_true] at hw
      exact (hT i (by simpa using hi)).2.2.2.2 (weightsAll_mem _ _ _ _ (List.mem_map.2 ⟨i, hi, rfl⟩) _ hw.2.1)

/-- A slice of bytes, a slice of numbers. -/
theorem open_bytes {H : Type} {enc : TypeId × Value → H} {w : World} {base : Nat} {spare : Nat → Bool} {held : Bool} {fuel : Nat} {v : Value} {x : DataW H × List MemPlace}
    (h : DataW.trod enc Try.prog w base spare held fuel 22 [v] = some x) : ∃ (q : Sl) (bs : List Int), v = .slice q.a q.n q.cap ∧ Rd w q.a q.n q.cap bs := by
  rcases open_ints Try.underlying22 Try.underlying5 (by kernel_rfl) h with ⟨hv, hx⟩ | ⟨a, len, cap, zs, hv, _, hl, hm, hz, hx, hcell, hwf⟩
  · obtain rfl : v = .slice none 0 0 := by simpa using hv
    exact ⟨nilS, [], rfl, ⟨rfl, ⟨Nat.le_refl _, by simp [maxLen]⟩, .inl ⟨rfl, rfl, rfl⟩, fun j => by simp [byteAt]⟩⟩
  · obtain rfl : v = .slice (some a) len cap := by simpa using hv
    have hlz : len ≤ zs.length := by rw [hz]; split <;> omega
    refine ⟨⟨some a, len, cap⟩, zs.take len, rfl, ⟨by rw [List.length_take]; exact Nat.min_eq_left hlz, ⟨hl, hm⟩, .inr ⟨a, rfl, fun j u hj => ?_⟩, fun j => ?_⟩⟩
    · rw [encB, List.getElem?_map, Option.map_eq_some_iff] at hj
      obtain ⟨y, hy, rfl⟩ := hj
      rw [List.getElem?_take] at hy
      split at hy
      · rw [hcell j (by omega)]
        simp [List.getD_eq_getElem?_getD, hy]
      · cases hy
    · unfold byteAt
      by_cases hj : j < (zs.take len).length
      · have := hwf ((zs.take len)[j]) (List.mem_of_mem_take (List.getElem_mem hj))
        simp [Lit.wf, IntKind.min, IntKind.max, IntKind.signed, IntKind.bits] at this
        rw [List.getD_eq_getElem?_getD, List.getElem?_eq_getElem hj]
        simp
        omega
      · simp [List.getElem?_eq_none (show (zs.take len).length ≤ j by omega)]
theorem open_nums {H : Type} {enc : TypeId × Value → H} {w : World} {base : Nat} {spare : Nat → Bool} {held : Bool} {fuel : Nat} {v : Value} {x : DataW H × List MemPlace}
    (h : DataW.trod enc Try.prog w base spare held fuel 27 [v] = some x) : ∃ (q : Sl) (ps : List Int), v = .slice q.a q.n q.cap ∧ Reads w q 1 (encI ps) := by
  rcases open_ints Try.underlying27 Try.underlying3 (by kernel_rfl) h with ⟨hv, hx⟩ | ⟨a, len, cap, zs, hv, _, hl, hm, hz, hx, hcell, hwf⟩
  · obtain rfl : v = .slice none 0 0 := by simpa using hv
    exact ⟨nilS, [], rfl, Reads.none_ w 1⟩
  · obtain rfl : v = .slice (some a) len cap := by simpa using hv
    have hlz : len ≤ zs.length := by rw [hz]; split <;> omega
    refine ⟨⟨some a, len, cap⟩, zs.take len, rfl, reads_of hl hm (by simp [encI]; omega) (by decide) fun j u hj => ?_⟩
    rw [encI, List.getElem?_map, Option.map_eq_some_iff] at hj
    obtain ⟨y, hy, rfl⟩ := hj
    rw [List.getElem?_take] at hy
    split at hy
    · rw [hcell j (by omega)]
      simp [List.getD_eq_getElem?_getD, hy]
    · cases hy
set_option maxRecDepth 100000 in
/-- A script. -/
theorem open_script {H : Type} {enc : TypeId × Value → H} {w : World} {base : Nat} {spare : Nat → Bool} {held : Bool} {r : Reach} {b0 : Nat} {v : Value} {d : DataW H} {pl : List MemPlace}
    (hv : Value.okWide Try.prog w r b0 29 v) (h : DataW.Trod enc Try.prog w base spare held 29 v d pl) :
    ∃ (s : Sc) (x y z : Sl), v = sv s.c x y z ∧ SV w s x y z ∧ ((d.weights Try.prog 29).all (· ≤ reachBytes) = true → ∀ l ∈ s.ls, l.length ≤ 1125899906842624) := by
  obtain ⟨cs, rfl, hsz⟩ := okWide_struct Try.underlying29 hv
  obtain ⟨fuel, hf⟩ := h
  have hc : cs.size = 10 := hsz.trans (by kernel_rfl)
  obtain ⟨l⟩ := cs
  have hl : l.length = 10 := by simpa using hc
  simp only [Value.cells] at hf
  match l, hl with
  | [c0, c1, c2, c3, c4, c5, c6, c7, c8, c9], _ =>
    have q25 : Try.prog.cellsOf 25 = 7 := by kernel_rfl
    have q26 : Try.prog.cellsOf 26 = 1 := by kernel_rfl
    have q27 : Try.prog.cellsOf 27 = 1 := by kernel_rfl
    have q22 : Try.prog.cellsOf 22 = 1 := by kernel_rfl
    obtain ⟨xs, n, _, hx, _, hlen, hg⟩ := DataW.trod_struct Try.underlying29 hf
    have hxs : xs.length = 4 := hlen
    match xs, hxs with
    | [x0, x1, x2, x3], _ =>
      have g0 := hg 0 _ rfl
      have g1 := hg 1 _ rfl
      have g2 := hg 2 _ rfl
      have g3 := hg 3 _ rfl
      simp [q25] at g0
      simp [q26] at g1
      simp [q27] at g2
      simp [q22] at g3
      obtain ⟨c, hcc⟩ := conf_cells g0 rfl
      obtain ⟨x, ls, rfl, hls, hfit, hw⟩ := open_lists g1
      obtain ⟨y, ps, rfl, hps⟩ := open_nums g2
      obtain ⟨z, ds, rfl, hds⟩ := open_bytes g3
      simp at hcc
      obtain ⟨rfl, rfl, rfl, rfl, rfl, rfl, rfl⟩ := hcc
      refine ⟨⟨c, ls, ps, ds⟩, x, y, z, rfl, ⟨hls, hps, hds, hfit⟩, fun ha => hw ?_⟩
      obtain ⟨hd, _⟩ := Prod.mk.inj hx
      subst hd
      simp only [DataW.weights, Try.underlying29, List.map_cons, List.map_nil, DataW.weightsEach, List.all_append, Bool.and_eq_true] at ha
      exact ha.2.1
end Go.Proofs.Ytdmdmkgpnelkjaa
