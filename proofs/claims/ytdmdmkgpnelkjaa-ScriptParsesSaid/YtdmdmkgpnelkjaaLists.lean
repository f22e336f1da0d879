/- Lists of calls of one's own, one for each thread, in a row of one's own. -/
import Derived.Test.YtdmdmkgpnelkjaaRPicks
import Derived.Deep.RegionLaw
import Derived.BigRegion
namespace Go.Proofs.Ytdmdmkgpnelkjaa
open Go.ChangeShapes Go.WideShapes Go.ChangeAt Go.RowKit
set_option linter.unusedVariables false

theorem row_agree {W W' : World} {base : Nat} {e : TypeId} {size n : Nat} {v : Value} {xs : List Value} (h : W.ownsRow base e size v n xs) (hk : ∀ k, v.ownBlock = some k → W'.heap[k]? = W.heap[k]?) : W'.ownsRow base e size v n xs := by
  refine ⟨h.1, ?_⟩
  rcases h.2 with h | ⟨g, cap, cur, rfl, hb, hg, r⟩
  · exact .inl h
  · exact .inr ⟨g, cap, cur, rfl, hb, (hk g rfl).trans hg, r⟩
/-- A row's block is of its own type. -/
theorem row_type {W : World} {base : Nat} {e : TypeId} {size n : Nat} {v : Value} {xs : List Value} (h : W.ownsRow base e size v n xs) {k : Nat} (hk : v.ownBlock = some k) : ∃ cur, W.heap[k]? = some (.cells cur e (0, 0)) := by
  rcases h.2 with ⟨rfl, _⟩ | ⟨g, cap, cur, rfl, hb, hg, r⟩
  · cases hk
  · obtain rfl : g = k := by simpa [Value.ownBlock] using hk
    exact ⟨cur, hg⟩
theorem row_not {W : World} {base : Nat} {e : TypeId} {size n : Nat} {v : Value} {xs : List Value} (h : W.ownsRow base e size v n xs) {B : Nat} {t : TypeId} {cs : Array Value} (hB : Blk W B t cs) (ht : e ≠ t) : v.ownBlock ≠ some B := by
  intro hk
  obtain ⟨cur, hc⟩ := row_type h hk
  unfold Blk at hB
  rw [hB] at hc
  simp only [Option.some.injEq, Obj.cells.injEq] at hc
  exact ht hc.2.1.symm

/-- The lists of calls of the threads: each in a row of its own, all from block base on. -/
structure Ls (base L : Nat) (vs : List Sl) (ls : List (List Tri)) (W : World) : Prop where
  row : Blk W L 38 (vs.map fun v : Sl => Value.slice v.a v.n v.cap).toArray
  len : vs.length = ls.length
  low : base ≤ L
  own : ∀ (i : Nat) (v : Sl) (l : List Tri), vs[i]? = some v → ls[i]? = some l → W.ownsRow base 49 3 (.slice v.a v.n v.cap) l.length (encT l)
  ne : ∀ (i j : Nat) (v u : Sl) (k : Nat), i ≠ j → vs[i]? = some v → vs[j]? = some u → (Value.slice v.a v.n v.cap).ownBlock = some k → (Value.slice u.a u.n u.cap).ownBlock ≠ some k
theorem Ls.get {base L : Nat} {vs : List Sl} {ls : List (List Tri)} {W : World} (h : Ls base L vs ls W) {i : Nat} {v : Sl} (hv : vs[i]? = some v) : ∃ l, ls[i]? = some l := by
  have := (List.getElem?_eq_some_iff.1 hv).1
  exact ⟨_, List.getElem?_eq_getElem (by rw [← h.len]; exact this)⟩
theorem Ls.agree {base L : Nat} {vs : List Sl} {ls : List (List Tri)} {W V : World} (h : Ls base L vs ls W) (hk : ∀ k, k < W.heap.size → base ≤ k → V.heap[k]? = W.heap[k]?) : Ls base L vs ls V :=
  ⟨h.row.agree (hk _ h.row.lt h.low), h.len, h.low, fun i v l hv hl => row_agree (h.own i v l hv hl) fun k e => by
    have := (h.own i v l hv hl).lt k e
    exact hk k this.2 this.1, h.ne⟩
theorem Ls.below {base L : Nat} {vs : List Sl} {ls : List (List Tri)} {W V : World} (h : Ls base L vs ls W) (b : Below W.heap.size W V) : Ls base L vs ls V := h.agree fun k hk _ => b.block k hk
theorem Ls.cell {base L : Nat} {vs : List Sl} {ls : List (List Tri)} {W : World} (h : Ls base L vs ls W) {t : Nat} {v : Sl} (hv : vs[t]? = some v) : W.cell? ⟨L, t, none⟩ = some (.slice v.a v.n v.cap) := by
  rw [h.row.cell]
  simp [hv]
theorem Ls.rdl {base L B : Nat} {vs : List Sl} {ls : List (List Tri)} {W : World} (h : Ls base L vs ls W) (hB : B < base) (hT : ls.length ≤ 1000) : Safe B W (fun V => RdL V ⟨some ⟨L, 0, none⟩, ls.length, ls.length⟩ ls) := by
  intro V hV
  have h' : Ls base L vs ls V := h.agree fun k hk hb => hV k hk (by omega)
  refine ⟨vs, h'.len, ⟨by simp [h'.len], ⟨Nat.le_refl _, by simp only [maxLen]; omega⟩, (by intro e; cases e), .inr ⟨L, 0, rfl, fun j u hj => ?_⟩⟩, fun i y l hy hl => ?_⟩
  · rw [Nat.zero_add, h'.row.cell]
    simpa using hj
  · exact (Reads.of_own (s := y) (h'.own i y l hy hl)).1
/-- One more call of a thread. -/
theorem Ls.push {base L : Nat} {vs : List Sl} {ls : List (List Tri)} {W W' : World} (h : Ls base L vs ls W) {t : Nat} {v : Sl} {l : List Tri} (hv : vs[t]? = some v) (hl : ls[t]? = some l) (c : Tri) (tmp : Obj) (g cap : Nat)
    (hown : W'.ownsRow base 49 3 (.slice (some ⟨g, 0, none⟩) (l.length + 1) cap) (l.length + 1) (encT l ++ [.int .i64 c.op, .int .u32 c.key, .int .u32 c.val])) (hgrow : (W.alloc tmp).grownBy W' (Value.slice v.a v.n v.cap).ownBlock)
    (hat : (Value.slice v.a v.n v.cap).ownBlock = some g ∨ g = (W.alloc tmp).heap.size) :
    Ls base L (vs.set t ⟨some ⟨g, 0, none⟩, l.length + 1, cap⟩) (ls.set t (l ++ [c])) (W'.setCell ⟨L, t, none⟩ (.slice (some ⟨g, 0, none⟩) (l.length + 1) cap)) ∧ Blk W' L 38 (vs.map fun v : Sl => Value.slice v.a v.n v.cap).toArray := by
  have hvo := h.own t v l hv hl
  have hLne := row_not hvo h.row (by decide)
  have hLlt := h.row.lt
  have hrow' : Blk W' L 38 (vs.map fun v : Sl => Value.slice v.a v.n v.cap).toArray := (h.row.alloc tmp).agree (hgrow.block L (by simp; omega) (fun e => hLne e.symm))
  have htl := (List.getElem?_eq_some_iff.1 hv).1
  have hgL : g ≠ L := by
    intro e
    have := row_not hown hrow' (by decide)
    exact this (by rw [e]; rfl)
  refine ⟨⟨?_, by simpa using h.len, h.low, ?_, ?_⟩, hrow'⟩
  · have := hrow'.set t (.slice (some ⟨g, 0, none⟩) (l.length + 1) cap)
    simpa [List.map_set] using this
  · intro i v' l' hv' hl'
    rw [List.getElem?_set] at hv' hl'
    by_cases e : t = i
    · subst e
      have hl2 := (List.getElem?_eq_some_iff.1 hl).1
      rw [if_pos rfl, if_pos htl] at hv'
      rw [if_pos rfl, if_pos hl2] at hl'
      obtain rfl := Option.some.inj hv'
      obtain rfl := Option.some.inj hl'
      rw [encT_snoc, List.length_append]
      exact row_agree hown fun k hk => Below.heap_setCell _ _ _ _ (by
        have : g = k := by simpa [Value.ownBlock] using hk
        show k ≠ L
        omega)
    · rw [if_neg e] at hv' hl'
      have ho := h.own i v' l' hv' hl'
      refine row_agree ho fun k hk => ?_
      have hkl := ho.lt k hk
      have hkL : k ≠ L := fun e2 => row_not ho h.row (by decide) (by rw [hk, e2])
      have hkv : (Value.slice v.a v.n v.cap).ownBlock ≠ some k := h.ne i t v' v k (Ne.symm e) hv' hv hk
      rw [Below.heap_setCell _ _ _ _ hkL, hgrow.block k (by simp; omega) (fun e2 => hkv e2.symm), Below.heap_alloc _ _ _ hkl.2]
  · intro i j v1 v2 k hij hv1 hv2 hk
    rw [List.getElem?_set] at hv1 hv2
    by_cases e1 : t = i
    · subst e1
      rw [if_pos rfl, if_pos htl] at hv1
      rw [if_neg hij] at hv2
      obtain rfl := Option.some.inj hv1
      obtain rfl : g = k := by simpa [Value.ownBlock] using hk
      rcases hat with hat | hat
      · exact h.ne t j v v2 g hij hv hv2 hat
      · intro e2
        obtain ⟨l2, hl2⟩ := h.get hv2
        have := ((h.own j v2 l2 hv2 hl2).lt g e2).2
        simp at hat
        omega
    · rw [if_neg e1] at hv1
      by_cases e2 : t = j
      · subst e2
        rw [if_pos rfl, if_pos htl] at hv2
        obtain rfl := Option.some.inj hv2
        intro e3
        obtain rfl : g = k := by simpa [Value.ownBlock] using e3
        rcases hat with hat | hat
        · exact h.ne i t v1 v g hij hv1 hv hk hat
        · obtain ⟨l2, hl2⟩ := h.get hv1
          have := ((h.own i v1 l2 hv1 hl2).lt g hk).2
          simp at hat
          omega
      · rw [if_neg e2] at hv2
        exact h.ne i j v1 v2 k hij hv1 hv2 hk
end Go.Proofs.Ytdmdmkgpnelkjaa
