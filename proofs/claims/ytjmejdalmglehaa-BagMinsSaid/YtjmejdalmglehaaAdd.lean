/- Add. -/
import Derived.Test.YtjmejdalmglehaaGrow
namespace Go.Proofs.Ytjmejdalmglehaa
open Go.ChangeShapes Go.WideShapes Go.ChangeAt Go.RowKit
set_option linter.unusedVariables false

/-- The bag in block B, which had the slice s, has the pairs l now: its own blocks alone have turned. -/
structure Turned (w : World) (B : Nat) (s : Sl) (l : List Pr) (w' : World) : Prop where
  ex : ∃ s', BagS w' B s' l ∧ Keeps (Ob B s) w w' ∧ Later (Ob B s) w (Ob B s')
theorem Turned.same {w w' : World} {B : Nat} {s : Sl} {l : List Pr} (h : BagS w B s l) (hb : Below w.heap.size w w') : Turned w B s l w' := ⟨s, h.below hb, Keeps.of_below hb, Later.refl _ _⟩
theorem Turned.then {w w1 w2 : World} {B : Nat} {s : Sl} {l : List Pr} (hb : Below w.heap.size w w1) (h : Turned w1 B s l w2) : Turned w B s l w2 := by
  obtain ⟨s', h1, h2, h3⟩ := h.ex
  exact ⟨s', h1, (Keeps.of_below (O := Ob B s) hb).trans h2 (Later.refl _ _), fun k hk => (h3 k hk).imp id (fun h => Nat.le_trans hb.size h)⟩
/-- The slice is written into the box. -/
theorem Turned.stored {w W3 : World} {B : Nat} {s s' : Sl} {l l' : List Pr} (h : BagS w B s l) (hr : RowS W3 s' l') (hk : Keeps (fun k => s.v.ownBlock = some k) w W3) (ho : ∀ k, s'.v.ownBlock = some k → s.v.ownBlock = some k ∨ w.heap.size ≤ k) :
    Turned w B s l' (W3.setCell ⟨B, 0, none⟩ (.slice s'.a s'.n s'.cap)) := by
  have hnB : s.v.ownBlock ≠ some B := h.row.not h.box (by decide)
  have hnB' : s'.v.ownBlock ≠ some B := fun e => (ho B e).elim hnB (fun h2 => by have := h.box.lt; omega)
  refine ⟨s', ⟨?_, hr.agree fun k hk' => Below.heap_setCell _ _ _ _ (fun (e : k = B) => hnB' (e ▸ hk'))⟩, ?_, fun k hk' => ?_⟩
  · have hb3 : Blk W3 B 26 #[s.v] := h.box.agree (hk.block B h.box.lt hnB)
    have := hb3.set 0 (.slice s'.a s'.n s'.cap)
    simpa using this
  · exact (hk.mono (O' := Ob B s) (fun k hk' => .inl (.inr hk'))).setCell (.inl (.inl rfl)) _
  · rcases hk' with rfl | hk'
    · exact .inl (.inl rfl)
    · exact (ho k hk').imp .inr id
/-- .. out of a new row. -/
theorem Turned.of_anew {w W2 W3 : World} {B : Nat} {s : Sl} {l l' : List Pr} {e : Ending} (h : BagS w B s l) (hb : Below w.heap.size w W2) (ha : Anew W2 s l' e W3) :
    ∃ s' : Sl, e = .returned (.slice s'.a s'.n s'.cap) ∧ W3.cell? ⟨B, 0, none⟩ = some s.v ∧ W3.frozen? ⟨B, 0, none⟩ = false ∧ Turned w B s l' (W3.setCell ⟨B, 0, none⟩ (.slice s'.a s'.n s'.cap)) := by
  obtain ⟨s', he, hr, hk, ho⟩ := ha.ex
  have hnB : s.v.ownBlock ≠ some B := h.row.not h.box (by decide)
  have h2 := h.below hb
  have hb3 : Blk W3 B 26 #[s.v] := h2.box.agree (hk.block B h2.box.lt hnB)
  refine ⟨s', he, by rw [hb3.cell]; rfl, hb3.frozen 0, Turned.then hb (Turned.stored h2 hr hk ho)⟩

set_option maxRecDepth 100000 in
set_option maxHeartbeats 4000000 in
theorem add_any (B : Nat) (s : Sl) (l : List Pr) (p : Pr) (w : World) (h : BagS w B s l) (ho : Ord l) (hl : l.length < 100000) :
    Calls Try.prog 6 #[.pointer (some ⟨B, 0, none⟩), p.val] w fun e w' => e = .returned (.tuple #[]) ∧ Turned w B s (addL l p) w' := by
  have HB := Lib.hid (box1 (w := w) (.cells #[.int .u32 p.k, .int .u32 p.v] 38))
  have x3 : Blk (w.alloc (.cells #[.int .u32 p.k, .int .u32 p.v] 38)) w.heap.size 38 p.cs := Blk.new _ _ _
  have HX := Lib.hid x3
  have KA := ahead_any 22 #[.pointer (some ⟨w.heap.size, 0, none⟩)] (upto p) B s l _ _ enters22 (suches_upto x3.pr) (h.below HB.out) (Cut.of ho (upto_closed p l)) (by omega)
  have HS := Lib.hid h
  have el : l.takeWhile (upto p) ++ l.dropWhile (upto p) = l := List.takeWhile_append_dropWhile
  have KI := Lib.hid fun (W : World) (hb : Below w.heap.size w W) (vb : Nat) (hv : Blk W vb 38 p.cs) (hn : w.heap.size ≤ vb) => insert_any s (l.takeWhile (upto p)) (l.dropWhile (upto p)) vb p W (by rw [el]; exact h.row.below hb) (by rw [el]; omega) hv (fun e => by have := h.row.lt e; omega)
  have ha : addL l p = l.takeWhile (upto p) ++ p :: l.dropWhile (upto p) := rfl
  rw [ha]
  clear h x3 el ha
  generalize l.takeWhile (upto p) ++ p :: l.dropWhile (upto p) = l2 at *
  generalize (l.takeWhile (upto p)).length = n at *
  obtain ⟨k, v⟩ := p
  obtain ⟨sa, sn, sc⟩ := s
  dsimp only at *
  go_enter Try.func6, Try.ntmps6
  go_wp2_with fail
  refine KA.mono ?_
  rintro e w1 ⟨rfl, hb⟩
  clear KA
  have HF := Lib.hid (below_then HB.out hb)
  have c := (HX.out.below hb HX.out.lt)
  have c0 := c.cell 0
  have c1 := c.cell 1
  have hB := (HS.out.below HF.out).box.cell 0
  have hsz := HF.out.size
  have KI2 := KI.out (w1.drew.alloc (.cells #[.int .u32 k, .int .u32 v] 38)) (HF.out.drew.alloc HF.out.size _) w1.heap.size (Blk.new w1.drew 38 _) HF.out.size
  have HT := Lib.hid fun e W3 ha => Turned.of_anew (W2 := w1.drew.alloc (.cells #[.int .u32 k, .int .u32 v] 38)) (W3 := W3) (l' := l2) (e := e) HS.out (HF.out.drew.alloc HF.out.size _) ha
  clear c hb HX HB HS KI
  simp at c0 c1 hB
  have hB2 : (w1.alloc (.cells #[.int .u32 k, .int .u32 v] 38)).cell? ⟨B, 0, none⟩ = some (.slice sa sn sc) := cell_below (W := w1) hB (box1 _)
  dsimp only [Sl.v] at *
  go_wp2_with fail
  go_region_with (go_at_call 24; refine KI2.mono ?_; rintro e w3 ha; obtain ⟨s', rfl, hc, hz, HT3⟩ := HT.out e w3 ha)
  all_goals
    have HT4 := Lib.hid HT3
    clear HT3
    go_wp2
    exact ⟨rfl, .tuple #[], by simp [results, Try.results6, go_sem], rfl, HT4.out⟩
end Go.Proofs.Ytjmejdalmglehaa
