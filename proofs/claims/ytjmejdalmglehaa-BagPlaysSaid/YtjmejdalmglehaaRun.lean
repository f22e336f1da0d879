/- Run of three calls; the chapter's example. -/
import Derived.Test.YtjmejdalmglehaaDo
namespace Go.Proofs.Ytjmejdalmglehaa
open Go.ChangeShapes Go.WideShapes Go.ChangeAt Go.RowKit
set_option linter.unusedVariables false

/-- What a call is answered. -/
def ansL (l : List Pr) (c : Tri) : Tri :=
  if rightB c = false then ⟨1, 0, 0⟩ else if c.op = 0 then ⟨0, 0, 0⟩ else if l.isEmpty = true then ⟨3, 0, 0⟩ else ⟨2, (headP l).k, (headP l).v⟩
/-- Three cells stored into a block of one's own. -/
abbrev put3 (W : World) (g : Nat) (c : Tri) : World := ((W.setCell ⟨g, 0, none⟩ (.int .i64 c.op)).setCell ⟨g, 1, none⟩ (.int .u32 c.key)).setCell ⟨g, 2, none⟩ (.int .u32 c.val)
theorem put3_blk {W : World} {g : Nat} {t : TypeId} {a b d : Value} (h : Blk W g t #[a, b, d]) (c : Tri) : Blk (put3 W g c) g t c.cs := by
  have := ((h.set 0 (.int .i64 c.op)).set 1 (.int .u32 c.key)).set 2 (.int .u32 c.val)
  simpa using this
theorem put3_below {b g : Nat} {w W : World} (h : Below b w W) (hg : b ≤ g) (c : Tri) : Below b w (put3 W g c) :=
  below_set (below_set (below_set h (p := ⟨g, 0, none⟩) hg _) (p := ⟨g, 1, none⟩) hg _) (p := ⟨g, 2, none⟩) hg _
theorem blk_cells {W : World} {g : Nat} {t : TypeId} {a b c : Value} (h : Blk W g t #[a, b, c]) : W.cell? ⟨g, 0, none⟩ = some a ∧ W.cell? ⟨g, 1, none⟩ = some b ∧ W.cell? ⟨g, 2, none⟩ = some c :=
  ⟨by rw [h.cell]; rfl, by rw [h.cell]; rfl, by rw [h.cell]; rfl⟩
set_option maxRecDepth 100000 in
set_option maxHeartbeats 4000000 in
theorem answer_any (B : Nat) (s : Sl) (l : List Pr) (c : Tri) (w : World) (h : BagS w B s l) : Calls Try.prog 35 #[.pointer (some ⟨B, 0, none⟩), c.v] w fun e w' => e = .returned (ansL l c).v ∧ Below w.heap.size w w' := by
  have HB := Lib.hid (((Below.refl w.heap.size w).alloc (Nat.le_refl _) (.cells c.cs 30)).alloc (by simp) (.cells #[.int .i64 0, .int .u32 0, .int .u32 0] 32))
  have k0 : Blk ((w.alloc (.cells c.cs 30)).alloc (.cells #[.int .i64 0, .int .u32 0, .int .u32 0] 32)) w.heap.size 30 c.cs := (Blk.new _ _ _).alloc _
  have k1 : Blk ((w.alloc (.cells c.cs 30)).alloc (.cells #[.int .i64 0, .int .u32 0, .int .u32 0] 32)) (w.heap.size + 1) 32 #[.int .i64 0, .int .u32 0, .int .u32 0] := by simpa using Blk.new (w.alloc (.cells c.cs 30)) 32 #[.int .i64 0, .int .u32 0, .int .u32 0]
  have H0 := Lib.hid k0
  have H1 := Lib.hid k1
  have y0 := k0.cell 0
  have y1 := k0.cell 1
  have y2 := k0.cell 2
  have KR := right_any c ((w.alloc (.cells c.cs 30)).alloc (.cells #[.int .i64 0, .int .u32 0, .int .u32 0] 32))
  have KF := Lib.hid fun W (hW : Below w.heap.size w W) => first_any B s l W (h.below hW)
  clear h k0 k1
  have ha : ansL l c = if rightB c = false then ⟨1, 0, 0⟩ else if c.op = 0 then ⟨0, 0, 0⟩ else if l.isEmpty = true then ⟨3, 0, 0⟩ else ⟨2, (headP l).k, (headP l).v⟩ := rfl
  rw [ha]
  clear ha
  generalize rightB c = r at *
  generalize headP l = p at *
  generalize l.isEmpty = em at *
  obtain ⟨co, ck, cv⟩ := c
  obtain ⟨k, v⟩ := p
  simp at y0 y1 y2
  dsimp only [Tri.v, Pr.val] at *
  cases r with
  | false =>
    simp only [if_true]
    clear KF H0
    go_enter Try.func35, Try.ntmps35
    go_wp2_with fail
    refine KR.mono ?_
    rintro e w1 ⟨rfl, hb⟩
    have HF := Lib.hid (below_then HB.out hb)
    have q1 := H1.out.below hb H1.out.lt
    obtain ⟨z0, z1, z2⟩ := blk_cells q1
    have f0 := q1.frozen 0
    have f1 := q1.frozen 1
    have f2 := q1.frozen 2
    have HC := Lib.hid (blk_cells (put3_blk q1 ⟨1, 0, 0⟩))
    have HL := Lib.hid (put3_below (g := w.heap.size + 1) HF.out (by omega) ⟨1, 0, 0⟩)
    clear KR hb HB y0 y1 y2 H1 q1
    go_wp2
    obtain ⟨c0, c1, c2⟩ := HC.out
    refine bodyPost_ret (v := Tri.v ⟨1, 0, 0⟩) (by simp [results, Try.results35, go_sem, c0, c1, c2]) rfl ⟨rfl, HL.out⟩
  | true =>
    simp only [Bool.true_eq_false, if_false]
    by_cases h0 : co = 0
    · subst h0
      simp only [if_true]
      clear KF
      go_enter Try.func35, Try.ntmps35
      go_wp2_with fail
      refine KR.mono ?_
      rintro e w1 ⟨rfl, hb⟩
      have HF := Lib.hid (below_then HB.out hb)
      have q1 := H1.out.below hb H1.out.lt
      obtain ⟨z0, z1, z2⟩ := blk_cells q1
      have q0 := H0.out.below hb H0.out.lt
      have x0 := q0.cell 0
      simp at x0
      have f0 := q1.frozen 0
      have f1 := q1.frozen 1
      have f2 := q1.frozen 2
      have HC := Lib.hid (blk_cells (put3_blk q1 ⟨0, 0, 0⟩))
      have HL := Lib.hid (put3_below (g := w.heap.size + 1) HF.out (by omega) ⟨0, 0, 0⟩)
      clear KR hb HB y0 y1 y2 H1 q1 H0 q0
      go_wp2
      obtain ⟨c0, c1, c2⟩ := HC.out
      refine bodyPost_ret (v := Tri.v ⟨0, 0, 0⟩) (by simp [results, Try.results35, go_sem, c0, c1, c2]) rfl ⟨rfl, HL.out⟩
    · have e0 := beq_f h0
      simp only [if_neg h0]
      cases em with
      | true =>
        simp only [if_true]
        go_enter Try.func35, Try.ntmps35
        go_wp2_with fail
        refine KR.mono ?_
        rintro e w1 ⟨rfl, hb⟩
        have hW := below_then HB.out hb
        have HW := Lib.hid hW
        have q1 := Lib.hid (H1.out.below hb H1.out.lt)
        have q0 := H0.out.below hb H0.out.lt
        have x0 := q0.cell 0
        simp at x0
        have KF1 := KF.out w1 hW
        clear KR hb HB y0 y1 y2 H1 H0 q0 KF hW
        go_wp2_with fail
        refine KF1.mono ?_
        rintro e w2 ⟨rfl, hb⟩
        have HF := Lib.hid (below_then HW.out hb)
        have HB2 := Lib.hid hb
        have q2 := (q1.out.below hb q1.out.lt).alloc (.cells #[.int .u32 k, .int .u32 v] 38)
        obtain ⟨z0, z1, z2⟩ := blk_cells q2
        have f0 := q2.frozen 0
        have f1 := q2.frozen 1
        have f2 := q2.frozen 2
        have HC := Lib.hid (blk_cells (put3_blk q2 ⟨3, 0, 0⟩))
        have HL := Lib.hid (put3_below (g := w.heap.size + 1) (below_then HF.out (box1 (w := w2) (.cells #[.int .u32 k, .int .u32 v] 38))) (by omega) ⟨3, 0, 0⟩)
        clear KF1 hb HW q1 q2 x0
        go_wp2
        obtain ⟨c0, c1, c2⟩ := HC.out
        refine bodyPost_ret (v := Tri.v ⟨3, 0, 0⟩) (by simp [results, Try.results35, go_sem, c0, c1, c2]) rfl ⟨rfl, HL.out⟩
      | false =>
        simp only [Bool.false_eq_true, if_false]
        go_enter Try.func35, Try.ntmps35
        go_wp2_with fail
        refine KR.mono ?_
        rintro e w1 ⟨rfl, hb⟩
        have hW := below_then HB.out hb
        have HW := Lib.hid hW
        have q1 := Lib.hid (H1.out.below hb H1.out.lt)
        have q0 := H0.out.below hb H0.out.lt
        have x0 := q0.cell 0
        simp at x0
        have KF1 := KF.out w1 hW
        clear KR hb HB y0 y1 y2 H1 H0 q0 KF hW
        go_wp2_with fail
        refine KF1.mono ?_
        rintro e w2 ⟨rfl, hb⟩
        have HF := Lib.hid (below_then HW.out hb)
        have HB2 := Lib.hid hb
        have q2 := (q1.out.below hb q1.out.lt).alloc (.cells #[.int .u32 k, .int .u32 v] 38)
        obtain ⟨z0, z1, z2⟩ := blk_cells q2
        have f0 := q2.frozen 0
        have f1 := q2.frozen 1
        have f2 := q2.frozen 2
        have HC := Lib.hid (blk_cells (put3_blk q2 ⟨2, k, v⟩))
        have HL := Lib.hid (put3_below (g := w.heap.size + 1) (below_then HF.out (box1 (w := w2) (.cells #[.int .u32 k, .int .u32 v] 38))) (by omega) ⟨2, k, v⟩)
        clear KF1 hb HW q1 q2 x0
        go_wp2
        obtain ⟨c0, c1, c2⟩ := HC.out
        refine bodyPost_ret (v := Tri.v ⟨2, k, v⟩) (by simp [results, Try.results35, go_sem, c0, c1, c2]) rfl ⟨rfl, HL.out⟩

/-! ### three calls -/
def encT (l : List Tri) : List Value := l.flatMap fun c => c.cs.toList
theorem encT_len (l : List Tri) : (encT l).length = l.length * 3 := flat_len (f := fun c : Tri => c.cs.toList) (m := 3) (fun _ => rfl) l
theorem set3 (L : List Tri) (k : Nat) (hk : k < L.length) (c : Tri) : (((encT L).set (k * 3) (.int .i64 c.op)).set (k * 3 + 1) (.int .u32 c.key)).set (k * 3 + 2) (.int .u32 c.val) = encT (L.set k c) := by
  have hl := encT_len L
  apply List.ext_getElem?
  intro p
  have hf := flat_set (f := fun c : Tri => c.cs.toList) (m := 3) (fun _ => rfl) L k c hk p
  unfold encT at hl ⊢
  rw [hf]
  simp only [List.getElem?_set, List.length_set, hl]
  by_cases h0 : p = k * 3
  · subst h0
    rw [if_neg (by omega), if_neg (by omega), if_pos rfl, if_pos (by omega), if_pos (by omega), Nat.sub_self]
    rfl
  · by_cases h1 : p = k * 3 + 1
    · subst h1
      rw [if_neg (by omega), if_pos rfl, if_pos (by omega), if_pos (by omega), Nat.add_sub_cancel_left]
      rfl
    · by_cases h2 : p = k * 3 + 2
      · subst h2
        rw [if_pos rfl, if_pos (by omega), if_pos (by omega), Nat.add_sub_cancel_left]
        rfl
      · rw [if_neg (by omega), if_neg (by omega), if_neg (by omega), if_neg (by omega)]
theorem put3_row {W : World} {g : Nat} {L : List Tri} (h : Blk W g 32 (encT L).toArray) {k : Nat} (hk : k < L.length) (c : Tri) :
    Blk (((W.setCell ⟨g, k * 3, none⟩ (.int .i64 c.op)).setCell ⟨g, k * 3 + 1, none⟩ (.int .u32 c.key)).setCell ⟨g, k * 3 + 2, none⟩ (.int .u32 c.val)) g 32 (encT (L.set k c)).toArray := by
  have := ((h.set (k * 3) (.int .i64 c.op)).set (k * 3 + 1) (.int .u32 c.key)).set (k * 3 + 2) (.int .u32 c.val)
  simp only [List.setIfInBounds_toArray] at this
  rwa [set3 L k hk c] at this
theorem Blk.tri {W : World} {g : Nat} {t : TypeId} {L : List Tri} (h : Blk W g t (encT L).toArray) {k : Nat} {c : Tri} (hk : L[k]? = some c) :
    W.cell? ⟨g, k * 3, none⟩ = some (.int .i64 c.op) ∧ W.cell? ⟨g, k * 3 + 1, none⟩ = some (.int .u32 c.key) ∧ W.cell? ⟨g, k * 3 + 2, none⟩ = some (.int .u32 c.val) := by
  have key := fun i hi => flat_get (f := fun c : Tri => c.cs.toList) (m := 3) (fun _ => rfl) L k c hk i hi
  refine ⟨?_, ?_, ?_⟩
  · rw [h.cell, List.getElem?_toArray]
    exact (key 0 (by omega)).trans rfl
  · rw [h.cell, List.getElem?_toArray]
    exact (key 1 (by omega)).trans rfl
  · rw [h.cell, List.getElem?_toArray]
    exact (key 2 (by omega)).trans rfl

def CL : List Tri := [⟨0, 5, 1⟩, ⟨0, 3, 2⟩, ⟨1, 0, 0⟩]
def callAt (k : Nat) : Tri := CL.getD k ⟨0, 0, 0⟩
theorem callAt_lt {k : Nat} (h : k < 3) : CL[k]? = some (callAt k) := by
  have : k < CL.length := h
  simp [callAt, List.getD, List.getElem?_eq_getElem this]
/-- What the bag holds behind so many calls; what they are answered. -/
def bagAt : Nat → List Pr
  | 0 => []
  | k + 1 => (doL (bagAt k) (callAt k) (ansL (bagAt k) (callAt k))).1
def ansAt : Nat → List Tri
  | 0 => [⟨0, 0, 0⟩, ⟨0, 0, 0⟩, ⟨0, 0, 0⟩]
  | k + 1 => (ansAt k).set k (ansL (bagAt k) (callAt k))
theorem bagAt_ord : ∀ k, Ord (bagAt k)
  | 0 => List.Pairwise.nil
  | k + 1 => doL_ord (bagAt_ord k) _ _
theorem bagAt_len : ∀ k, (bagAt k).length ≤ k
  | 0 => Nat.le_refl _
  | k + 1 => by
    have := doL_len (bagAt k) (callAt k) (ansL (bagAt k) (callAt k))
    have := bagAt_len k
    rw [bagAt]
    omega
theorem ansAt_len : ∀ k, (ansAt k).length = 3
  | 0 => rfl
  | k + 1 => by rw [ansAt, List.length_set, ansAt_len k]
theorem ansAt_3 : ansAt 3 = [⟨0, 0, 0⟩, ⟨0, 0, 0⟩, ⟨2, 3, 2⟩] := by rfl
/-- Amid Run. -/
structure RunS (w : World) (cb k : Nat) (W : World) : Prop where
  ex : ∃ s, BagS W w.heap.size s (bagAt k) ∧ (∀ j, s.v.ownBlock = some j → w.heap.size ≤ j)
  ans : Blk W (w.heap.size + 1) 32 (encT (ansAt k)).toArray
  bel : Below w.heap.size w W
  cal : Blk W cb 30 (encT CL).toArray
  lt : cb < w.heap.size
theorem RunS.below {w W V : World} {cb k : Nat} (h : RunS w cb k W) (hb : Below W.heap.size W V) : RunS w cb k V := by
  obtain ⟨s, h1, h2⟩ := h.ex
  exact ⟨⟨s, h1.below hb, h2⟩, h.ans.below hb h.ans.lt, below_then h.bel hb, h.cal.below hb h.cal.lt, h.lt⟩
end Go.Proofs.Ytjmejdalmglehaa
