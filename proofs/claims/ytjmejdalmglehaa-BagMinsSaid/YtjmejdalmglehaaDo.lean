/- Do. -/
import Derived.Test.YtjmejdalmglehaaTake
namespace Go.Proofs.Ytjmejdalmglehaa
open Go.ChangeShapes Go.WideShapes Go.ChangeAt Go.RowKit
set_option linter.unusedVariables false

def leastDo (l : List Pr) (c : Tri) (p : Pr) : List Pr × Bool :=
  if p.k = leastL l then (if c.op = 1 then (l.erase p, decide (p ∈ l)) else (l, decide (p ∈ l))) else (l, false)
theorem doL_least {l : List Pr} {c a : Tri} (hf : fitsB c a = true) (h2 : a.op = 2) : doL l c a = leastDo l c (cpr a) := by
  unfold doL leastDo
  rw [if_neg (by simp [hf]), if_neg (by omega), if_neg (by omega), if_pos h2]
  rfl

set_option maxRecDepth 100000 in
set_option maxHeartbeats 4000000 in
theorem doLeast_any (B : Nat) (s : Sl) (l : List Pr) (c : Tri) (p : Pr) (w : World) (h : BagS w B s l) (ho : Ord l) (hl : l.length < 100000) :
    Calls Try.prog 29 #[.pointer (some ⟨B, 0, none⟩), c.v, p.val] w fun e w' => e = .returned (.bool (leastDo l c p).2) ∧ Turned w B s (leastDo l c p).1 w' := by
  have HB := Lib.hid (((Below.refl w.heap.size w).alloc (Nat.le_refl _) (.cells c.cs 30)).alloc (by simp) (.cells p.cs 38))
  have k0 : Blk ((w.alloc (.cells c.cs 30)).alloc (.cells p.cs 38)) w.heap.size 30 c.cs := (Blk.new _ _ _).alloc _
  have k1 : Blk ((w.alloc (.cells c.cs 30)).alloc (.cells p.cs 38)) (w.heap.size + 1) 38 p.cs := by simpa using Blk.new (w.alloc (.cells c.cs 30)) 38 p.cs
  have H0 := Lib.hid k0
  have H1 := Lib.hid k1
  have KL := least_any B s l _ (h.below HB.out)
  have HS := Lib.hid h
  have KF := Lib.hid fun W (hW : Below w.heap.size w W) => find_any B s l p W (h.below hW) ho (by omega)
  have KT := Lib.hid fun W (hW : Below w.heap.size w W) => take_any B s l p W (h.below hW) ho hl
  have HL : leastDo l c p = if p.k = leastL l then (if c.op = 1 then (l.erase p, decide (p ∈ l)) else (l, decide (p ∈ l))) else (l, false) := rfl
  rw [HL]
  clear h k0 k1 HL
  generalize leastL l = m at *
  generalize l.erase p = l2 at *
  generalize decide (p ∈ l) = r at *
  generalize (!l.isEmpty) = em at *
  generalize plcP l p = n at *
  obtain ⟨co, ck, cv⟩ := c
  obtain ⟨k, v⟩ := p
  dsimp only [Pr.val, Tri.v] at *
  by_cases hk : k = m
  case neg =>
    have e0 := beq_f hk
    simp only [if_neg hk]
    go_enter Try.func29, Try.ntmps29
    go_wp2_with fail
    refine KL.mono ?_
    rintro e w1 ⟨rfl, hb⟩
    have HF := Lib.hid (Turned.same HS.out (below_then HB.out hb))
    have q1 := H1.out.below hb H1.out.lt
    have c0 := q1.cell 0
    simp at c0
    clear KL hb q1 H0 H1 KF KT HB
    go_wp2
    go_ret
    exact ⟨rfl, HF.out⟩
  case pos =>
    subst hk
    simp only [if_true]
    by_cases h1 : co = 1
    case pos =>
      subst h1
      simp only [if_true]
      go_enter Try.func29, Try.ntmps29
      go_wp2_with fail
      refine KL.mono ?_
      rintro e w1 ⟨rfl, hb⟩
      have hW := below_then HB.out hb
      have q0 := H0.out.below hb H0.out.lt
      have q1 := H1.out.below hb H1.out.lt
      have a0 := q0.cell 0
      have c0 := q1.cell 0
      have c1 := q1.cell 1
      simp at a0 c0 c1
      have KT1 := KT.out w1 hW
      have HT := Lib.hid fun w2 (hw2 : Turned w1 B s l2 w2) => Turned.then (w := w) (w2 := w2) hW hw2
      clear KL hb q0 q1 H0 H1 KF KT HB hW
      go_wp2_with fail
      refine KT1.mono ?_
      rintro e w2 ⟨rfl, ht⟩
      have HF := Lib.hid (HT.out w2 ht)
      clear KT1 ht HT
      go_wp2
      go_ret
      exact ⟨rfl, HF.out⟩
    case neg =>
      have e1 := beq_f h1
      simp only [if_neg h1]
      go_enter Try.func29, Try.ntmps29
      go_wp2_with fail
      refine KL.mono ?_
      rintro e w1 ⟨rfl, hb⟩
      have hW := below_then HB.out hb
      have HW := Lib.hid hW
      have q0 := H0.out.below hb H0.out.lt
      have q1 := H1.out.below hb H1.out.lt
      have a0 := q0.cell 0
      have c0 := q1.cell 0
      have c1 := q1.cell 1
      simp at a0 c0 c1
      have KF1 := KF.out w1 hW
      clear KL hb q0 q1 H0 H1 KF KT HB hW
      go_wp2_with fail
      refine KF1.mono ?_
      rintro e w2 ⟨rfl, hb⟩
      have HF := Lib.hid (Turned.same HS.out (below_then HW.out hb))
      clear KF1 hb HW
      go_wp2
      go_ret
      exact ⟨rfl, HF.out⟩

set_option maxRecDepth 100000 in
set_option maxHeartbeats 4000000 in
theorem do_any (B : Nat) (s : Sl) (l : List Pr) (c a : Tri) (w : World) (h : BagS w B s l) (ho : Ord l) (hl : l.length < 100000) :
    Calls Try.prog 11 #[.pointer (some ⟨B, 0, none⟩), c.v, a.v] w fun e w' => e = .returned (.bool (doL l c a).2) ∧ Turned w B s (doL l c a).1 w' := by
  have HB := Lib.hid (((Below.refl w.heap.size w).alloc (Nat.le_refl _) (.cells c.cs 30)).alloc (by simp) (.cells a.cs 32))
  have k0 : Blk ((w.alloc (.cells c.cs 30)).alloc (.cells a.cs 32)) w.heap.size 30 c.cs := (Blk.new _ _ _).alloc _
  have k1 : Blk ((w.alloc (.cells c.cs 30)).alloc (.cells a.cs 32)) (w.heap.size + 1) 32 a.cs := by simpa using Blk.new (w.alloc (.cells c.cs 30)) 32 a.cs
  have H0 := Lib.hid k0
  have H1 := Lib.hid k1
  have y0 := k0.cell 0
  have y1 := k0.cell 1
  have y2 := k0.cell 2
  have z0 := k1.cell 0
  have z1 := k1.cell 1
  have z2 := k1.cell 2
  have KX := fits_any c a ((w.alloc (.cells c.cs 30)).alloc (.cells a.cs 32))
  have HS := Lib.hid h
  have KN := Lib.hid fun W (hW : Below w.heap.size w W) => len_any B s l W (h.below hW)
  have KA := Lib.hid fun W (hW : Below w.heap.size w W) => add_any B s l (cpr c) W (h.below hW) ho hl
  have KD := Lib.hid fun W (hW : Below w.heap.size w W) => doLeast_any B s l c (cpr a) W (h.below hW) ho hl
  clear h k0 k1
  by_cases hf : fitsB c a = true
  case neg =>
    have e : doL l c a = (l, false) := by unfold doL; simp [hf]
    rw [e]
    have hf' : fitsB c a = false := by simpa using hf
    rw [hf'] at KX
    obtain ⟨co, ck, cv⟩ := c
    obtain ⟨ao, ak, av⟩ := a
    simp at y0 y1 y2 z0 z1 z2
    dsimp only [Tri.v] at *
    clear KN KA KD H0 H1 hf hf'
    go_enter Try.func11, Try.ntmps11
    go_wp2_with fail
    refine KX.mono ?_
    rintro e w1 ⟨rfl, hb⟩
    have HF := Lib.hid (Turned.same HS.out (below_then HB.out hb))
    clear KX hb HB y0 y1 y2 z0 z1 z2
    go_wp2
    go_ret
    exact ⟨rfl, HF.out⟩
  case pos =>
    rw [hf] at KX
    by_cases h0 : a.op = 0
    case pos =>
      have e : doL l c a = (addL l (cpr c), true) := by unfold doL; simp [hf, h0]
      rw [e]
      clear hf
      generalize addL l (cpr c) = l2 at *
      obtain ⟨co, ck, cv⟩ := c
      obtain ⟨ao, ak, av⟩ := a
      simp at y0 y1 y2 z0 z1 z2
      dsimp only [Tri.v, cpr, Pr.val] at *
      subst h0
      clear KN KD e
      go_enter Try.func11, Try.ntmps11
      go_wp2_with fail
      refine KX.mono ?_
      rintro e w1 ⟨rfl, hb⟩
      have hW := below_then HB.out hb
      have q0 := H0.out.below hb H0.out.lt
      have q1 := H1.out.below hb H1.out.lt
      have a0 := q1.cell 0
      have c1 := q0.cell 1
      have c2 := q0.cell 2
      simp at a0 c1 c2
      have KA1 := KA.out w1 hW
      have HT := Lib.hid fun w2 (hw2 : Turned w1 B s l2 w2) => Turned.then (w := w) (w2 := w2) hW hw2
      clear KX hb HB y0 y1 y2 z0 z1 z2 H0 H1 KA hW q0 q1
      go_wp2_with fail
      refine KA1.mono ?_
      rintro e w2 ⟨rfl, ht⟩
      have HF := Lib.hid (HT.out w2 ht)
      clear KA1 ht HT
      go_wp2
      go_ret
      exact ⟨rfl, HF.out⟩
    case neg =>
      have b0 := beq_f h0
      by_cases h3 : a.op = 3
      case pos =>
        have e : doL l c a = (l, l.isEmpty) := by unfold doL; simp [hf, h3]
        rw [e]
        have hem : l.isEmpty = ((l.length : Int) == 0) := by cases l <;> simp; omega
        rw [hem]
        clear hf hem
        obtain ⟨co, ck, cv⟩ := c
        obtain ⟨ao, ak, av⟩ := a
        simp at y0 y1 y2 z0 z1 z2
        dsimp only [Tri.v, cpr, Pr.val] at *
        subst h3
        clear KA KD e
        go_enter Try.func11, Try.ntmps11
        go_wp2_with fail
        refine KX.mono ?_
        rintro e w1 ⟨rfl, hb⟩
        have hW := below_then HB.out hb
        have HF := Lib.hid (Turned.same HS.out hW)
        have q1 := H1.out.below hb H1.out.lt
        have a0 := q1.cell 0
        simp at a0
        have KN1 := KN.out w1 hW
        clear KX hb HB y0 y1 y2 z0 z1 z2 H0 H1 KN hW q1
        go_wp2_with fail
        refine KN1.mono ?_
        rintro e w2 ⟨rfl, rfl⟩
        clear KN1
        go_wp2
        go_ret
        exact ⟨rfl, HF.out⟩
      case neg =>
        have b3 := beq_f h3
        by_cases h2 : a.op = 2
        case pos =>
          rw [doL_least hf h2]
          generalize leastDo l c (cpr a) = x at *
          obtain ⟨l2, r⟩ := x
          clear hf
          obtain ⟨co, ck, cv⟩ := c
          obtain ⟨ao, ak, av⟩ := a
          simp at y0 y1 y2 z0 z1 z2
          dsimp only [Tri.v, cpr, Pr.val] at *
          subst h2
          clear KA KN
          go_enter Try.func11, Try.ntmps11
          go_wp2_with fail
          refine KX.mono ?_
          rintro e w1 ⟨rfl, hb⟩
          have hW := below_then HB.out hb
          have q0 := H0.out.below hb H0.out.lt
          have q1 := H1.out.below hb H1.out.lt
          have a0 := q1.cell 0
          have a1 := q1.cell 1
          have a2 := q1.cell 2
          have c0 := q0.cell 0
          have c1 := q0.cell 1
          have c2 := q0.cell 2
          simp at a0 a1 a2 c0 c1 c2
          have KD1 := KD.out w1 hW
          have HT := Lib.hid fun w2 (hw2 : Turned w1 B s l2 w2) => Turned.then (w := w) (w2 := w2) hW hw2
          clear KX hb HB y0 y1 y2 z0 z1 z2 H0 H1 KD hW q0 q1
          go_wp2_with fail
          refine KD1.mono ?_
          rintro e w2 ⟨rfl, ht⟩
          have HF := Lib.hid (HT.out w2 ht)
          clear KD1 ht HT
          go_wp2
          go_ret
          exact ⟨rfl, HF.out⟩
        case neg =>
          have b2 := beq_f h2
          have e : doL l c a = (l, true) := by unfold doL; simp [hf, h0, h2, h3]
          rw [e]
          clear hf
          obtain ⟨co, ck, cv⟩ := c
          obtain ⟨ao, ak, av⟩ := a
          simp at y0 y1 y2 z0 z1 z2
          dsimp only [Tri.v, cpr, Pr.val] at *
          clear KA KN KD e
          go_enter Try.func11, Try.ntmps11
          go_wp2_with fail
          refine KX.mono ?_
          rintro e w1 ⟨rfl, hb⟩
          have hW := below_then HB.out hb
          have HF := Lib.hid (Turned.same HS.out hW)
          have q1 := H1.out.below hb H1.out.lt
          have a0 := q1.cell 0
          simp at a0
          clear KX hb HB y0 y1 y2 z0 z1 z2 H0 H1 hW q1
          go_wp2
          go_ret
          exact ⟨rfl, HF.out⟩
end Go.Proofs.Ytjmejdalmglehaa
