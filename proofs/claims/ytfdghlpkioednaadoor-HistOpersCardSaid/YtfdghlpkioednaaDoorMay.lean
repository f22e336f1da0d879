/- By the document: who has a call that isn't answered; which event may come; which histories may be. -/
import Derived.Test.YtfdghlpkioednaaDoorRight
namespace Go.Proofs.YtfdghlpkioednaaDoor
open Go.ChangeShapes Go.WideShapes Go.ChangeAt Go.RowKit
set_option linter.unusedVariables false

/-- A place, or -1. -/
def plc : Option Nat → Int
  | none => -1
  | some k => k
set_option maxRecDepth 100000 in
set_option maxHeartbeats 4000000 in
theorem open_any (s : Sl) (l : List Ev) (w : World) (h : Reads w s 8 (encE l)) (n : Nat) (hn : n ≤ l.length) (t : Int) : Calls Tryd.prog 21 #[.slice s.a s.n s.cap, .int .i64 n, .int .i64 t] w fun x w' => x = .returned (.int .i64 (plc (opn (ith l) n t))) ∧ w' = w := by
  have hlen := h.lenE
  have hroom := h.room
  unfold maxLen at hroom
  have HR := Lib.hid h
  clear h
  obtain ⟨sa, sn, sc⟩ := s
  dsimp only at *
  subst hlen
  have w0 := IntWalk.i64_in ((n : Int) - 1) (by omega)
  go_enter Tryd.func21, Tryd.ntmps21
  go_wp2_with fail
  go_loop [7] (fun i => ∃ k : Nat, k ≤ n ∧ i = .int .i64 ((k : Int) - 1) ∧ Hid (opn (ith l) n t = opn (ith l) k t)) (fun i => (intOf i + 1).toNat)
  case atStart => exact ⟨n, by omega, rfl, Lib.hid rfl⟩
  case round =>
    obtain ⟨k, hk, hi, HO⟩ := hrel
    cases k with
    | zero =>
      have e1 : (((0 : Nat) : Int) - 1) = -1 := rfl
      rw [e1] at hi
      subst hi
      have HE := Lib.hid (show opn (ith l) n t = none from HO.out)
      clear HO
      go_wp2
      go_ret
      exact ⟨by rw [HE.out]; rfl, rfl⟩
    | succ j =>
      have e1 : (((j + 1 : Nat) : Int) - 1) = (j : Int) := by omega
      rw [e1] at hi
      subst hi
      have hjn : j < l.length := by omega
      obtain ⟨b, off, rfl, hq⟩ := HR.out.ev hjn
      have gj : (j : Int) < l.length := by omega
      have g0 : (0 : Int) ≤ j := by omega
      have w2 := IntWalk.i64_in ((j : Int) - 1) (by omega)
      have ho := HO.out
      rw [opn] at ho
      have HO2 := Lib.hid ho
      clear ho HO HR
      obtain ⟨x0, x1, x2, x3, x4, x5, x6, x7⟩ := hq
      generalize ith l j = e at *
      obtain ⟨t', b', c, a⟩ := e
      dsimp only at *
      by_cases ht : t' = t
      · subst ht
        cases b' with
        | true =>
          have HE := Lib.hid (show opn (ith l) n t' = none by rw [HO2.out]; simp)
          clear HO2
          go_wp2
          go_ret
          exact ⟨by rw [HE.out]; rfl, rfl⟩
        | false =>
          have HE := Lib.hid (show opn (ith l) n t' = some j by rw [HO2.out]; simp)
          clear HO2
          go_wp2
          go_ret
          exact ⟨by rw [HE.out]; rfl, rfl⟩
      · have HE := Lib.hid (show opn (ith l) n t = opn (ith l) j t by rw [HO2.out, if_neg ht])
        have ht1 := beq_f ht
        clear HO2
        go_wp2
        go_round
        case rel => exact ⟨j, by omega, rfl, HE⟩
        case measure => simp [intOf]

theorem law_fits (c a : Tri) : fitsB c a = (rightB c && mayB a && ((c.op == 0) == decide (a.op < 2))) := by
  obtain ⟨o, k, v⟩ := c
  obtain ⟨o2, k2, v2⟩ := a
  cases hm : mayB ⟨o2, k2, v2⟩ with
  | false => simp [fitsB, hm]
  | true =>
    have : o2 = 0 ∨ o2 = 1 ∨ o2 = 2 ∨ o2 = 3 := by
      simp [mayB] at hm
      omega
    rcases this with rfl | rfl | rfl | rfl <;> cases h : (o == 0) <;> simp_all [fitsB]
set_option maxRecDepth 100000 in
set_option maxHeartbeats 4000000 in
theorem rfits_any (c a : Tri) (w : World) : Calls Tryd.prog 22 #[c.v, a.v] w fun x w' => x = .returned (.bool (fitsB c a)) ∧ Below w.heap.size w w' := by
  have R := refRight_any c
  have S := refMay_any a
  rw [law_fits]
  generalize rightB c = r at *
  generalize mayB a = m at *
  have b0 := ((Below.refl w.heap.size w).alloc (Nat.le_refl _) (.cells c.cs 30)).alloc (by simp) (.cells a.cs 32)
  have k0 : Blk ((w.alloc (.cells c.cs 30)).alloc (.cells a.cs 32)) w.heap.size 30 c.cs := (Blk.new _ _ _).alloc _
  have k1 : Blk ((w.alloc (.cells c.cs 30)).alloc (.cells a.cs 32)) (w.heap.size + 1) 32 a.cs := by simpa using Blk.new (w.alloc (.cells c.cs 30)) 32 a.cs
  obtain ⟨co, ck, cv⟩ := c
  obtain ⟨ao, ak, av⟩ := a
  have HB := Lib.hid b0
  have H0 := Lib.hid k0
  have H1 := Lib.hid k1
  clear b0 k0 k1
  go_enter Tryd.func22, Tryd.ntmps22
  go_wp2_with fail
  refine (R _).mono ?_
  rintro e w1 ⟨rfl, hb⟩
  have HB1 := Lib.hid (below_then HB.out hb)
  have H01 := Lib.hid (H0.out.below hb H0.out.lt)
  have H11 := Lib.hid (H1.out.below hb H1.out.lt)
  clear hb R
  cases r with
  | false =>
    go_wp2
    go_ret
    exact ⟨by simp, HB1.out⟩
  | true =>
    have a0 := H11.out.cell 0
    have a1 := H11.out.cell 1
    have a2 := H11.out.cell 2
    simp at a0 a1 a2
    go_wp2_with fail
    refine (S _).mono ?_
    rintro e w2 ⟨rfl, hb⟩
    have HB2 := Lib.hid (below_then HB1.out hb)
    have q0 := H01.out.below hb H01.out.lt
    have q1 := H11.out.below hb H11.out.lt
    clear hb S a0 a1 a2
    cases m with
    | false =>
      clear q0 q1
      go_wp2
      go_ret
      exact ⟨by simp, HB2.out⟩
    | true =>
      have a0 := q0.cell 0
      have a1 := q1.cell 0
      simp at a0 a1
      clear q0 q1
      go_wp2
      go_ret
      exact ⟨by simp, HB2.out⟩

/-- Eight cells, as one statement. -/
abbrev Evs (W : World) (b o : Nat) (e : Ev) : Prop :=
  W.cell? ⟨b, o, none⟩ = some (.int .i64 e.t) ∧ W.cell? ⟨b, o + 1, none⟩ = some (.bool e.b) ∧ W.cell? ⟨b, o + 2, none⟩ = some (.int .i64 e.c.op) ∧ W.cell? ⟨b, o + 3, none⟩ = some (.int .u32 e.c.key) ∧ W.cell? ⟨b, o + 4, none⟩ = some (.int .u32 e.c.val) ∧
    W.cell? ⟨b, o + 5, none⟩ = some (.int .i64 e.a.op) ∧ W.cell? ⟨b, o + 6, none⟩ = some (.int .u32 e.a.key) ∧ W.cell? ⟨b, o + 7, none⟩ = some (.int .u32 e.a.val)
set_option maxRecDepth 100000 in
set_option maxHeartbeats 8000000 in
theorem may_any (s : Sl) (l : List Ev) (w : World) (h : Reads w s 8 (encE l)) (i : Nat) (hi : i < l.length) :
    Calls Tryd.prog 7 #[.slice s.a s.n s.cap, .int .i64 i] w fun x w' => x = .returned (.int .i64 (errE (ith l) i (ith l i))) ∧ Below w.heap.size w w' := by
  have hlen := h.lenE
  have hroom := h.room
  unfold maxLen at hroom
  obtain ⟨b, off, hsa, hq⟩ := h.ev hi
  have HB0 := Lib.hid (box1 (w := w) (.cells (ith l i).cs 34))
  have HX := Lib.hid (Blk.new w 34 (ith l i).cs)
  have KO := open_any s l _ (h.below HB0.out) i (by omega) (ith l i).t
  have HR := Lib.hid (h.below HB0.out)
  clear h
  have HE := Lib.hid (show ∀ j, opn (ith l) i (ith l i).t = some j → j < l.length from fun j hj => by have := (opn_some hj).1; omega)
  have HC : errE (ith l) i (ith l i) = errC ((opn (ith l) i (ith l i).t).map fun k => (ith l k).c) (ith l i) := rfl
  rw [HC]
  clear HC
  generalize opn (ith l) i (ith l i).t = q at *
  generalize ith l i = e at *
  obtain ⟨sa, sn, sc⟩ := s
  dsimp only at *
  subst hsa hlen
  obtain ⟨x0, x1, x2, x3, x4, x5, x6, x7⟩ := hq
  have hX := HX.out.ev
  obtain ⟨t, b', c, a⟩ := e
  obtain ⟨o1, k1, v1⟩ := c
  obtain ⟨o2, k2, v2⟩ := a
  obtain ⟨y0, y1, y2, y3, y4, y5, y6, y7⟩ := hX
  simp only [Nat.zero_add] at y0 y1 y2 y3 y4 y5 y6 y7
  dsimp only [Ev.cs] at *
  have gi : (i : Int) < l.length := by omega
  have fin : ∀ (r : Int), errC (q.map fun k => (ith l k).c) ⟨t, b', ⟨o1, k1, v1⟩, ⟨o2, k2, v2⟩⟩ = r → ∀ (A : Array Value) (P : World → Prop), (Calls Tryd.prog 7 A w fun x w' => x = .returned (.int .i64 r) ∧ P w') → Calls Tryd.prog 7 A w fun x w' => x = .returned (.int .i64 (errC (q.map fun k => (ith l k).c) ⟨t, b', ⟨o1, k1, v1⟩, ⟨o2, k2, v2⟩⟩)) ∧ P w' := fun r e A P h => by rw [e]; exact h
  by_cases hr : t < 0 ∨ 5 < t
  case pos =>
    refine fin 2 (by unfold errC; rw [if_pos hr]) _ _ ?_
    clear fin HR HE
    rcases hr with hr | hr
    · have g1 : (decide (t < 0)) = true := by simpa using hr
      go_enter Tryd.func7, Tryd.ntmps7
      go_wp2_with fail
      refine KO.mono ?_
      rintro x w1 ⟨rfl, rfl⟩
      clear KO
      go_wp2
      go_ret
      exact ⟨rfl, HB0.out⟩
    · have g1 : ¬ t < 0 := by omega
      have g2 : (5 : Int) < t := hr
      go_enter Tryd.func7, Tryd.ntmps7
      go_wp2_with fail
      refine KO.mono ?_
      rintro x w1 ⟨rfl, rfl⟩
      clear KO
      go_wp2
      go_ret
      exact ⟨rfl, HB0.out⟩
  case neg =>
    have g1 : ¬ t < 0 := by omega
    have g2 : ¬ (5 : Int) < t := by omega
    cases b' with
    | true =>
      cases q with
      | none =>
        refine fin 4 (by unfold errC; rw [if_neg hr]; rfl) _ _ ?_
        clear fin HR HE
        dsimp only [plc] at KO
        go_enter Tryd.func7, Tryd.ntmps7
        go_wp2_with fail
        refine KO.mono ?_
        rintro x w1 ⟨rfl, rfl⟩
        clear KO
        go_wp2
        go_ret
        exact ⟨rfl, HB0.out⟩
      | some j =>
        refine fin (if fitsB (ith l j).c ⟨o2, k2, v2⟩ then 0 else 1) (by unfold errC; rw [if_neg hr]; rfl) _ _ ?_
        have hjl := HE.out j rfl
        obtain ⟨b2, off2, hb2, hq2⟩ := HR.out.ev hjl
        simp only [Option.some.injEq, Addr.mk.injEq] at hb2
        obtain ⟨rfl, rfl, _⟩ := hb2
        have gj : (j : Int) < l.length := by omega
        have gj0 : ¬ ((j : Int) < 0) := by omega
        have KF := fun W => rfits_any (ith l j).c ⟨o2, k2, v2⟩ W
        clear fin HR HE
        generalize ith l j = d at *
        obtain ⟨t4, b4, c4, a4⟩ := d
        obtain ⟨o4, k4, v4⟩ := c4
        obtain ⟨z0, z1, z2, z3, z4, z5, z6, z7⟩ := hq2
        dsimp only [plc] at *
        generalize fitsB ⟨o4, k4, v4⟩ ⟨o2, k2, v2⟩ = r at *
        go_enter Tryd.func7, Tryd.ntmps7
        go_wp2_with fail
        refine KO.mono ?_
        rintro x w1 ⟨rfl, rfl⟩
        clear KO
        go_wp2_with fail
        go_region_held3 (fun W => W.cell? ⟨b, off + j * 8 + 2, none⟩ = some (.int .i64 o4) ∧ W.cell? ⟨b, off + j * 8 + 3, none⟩ = some (.int .u32 k4) ∧ W.cell? ⟨b, off + j * 8 + 4, none⟩ = some (.int .u32 v4) ∧
          W.cell? ⟨w.heap.size, 5, none⟩ = some (.int .i64 o2) ∧ W.cell? ⟨w.heap.size, 6, none⟩ = some (.int .u32 k2) ∧ W.cell? ⟨w.heap.size, 7, none⟩ = some (.int .u32 v2)) (go_keep)
          (first | (go_at_call 22; refine (KF _).mono ?_; rintro x w2 ⟨rfl, hb⟩; have hz := fun p u (h : (w.alloc (.cells #[.int .i64 t, .bool true, .int .i64 o1, .int .u32 k1, .int .u32 v1, .int .i64 o2, .int .u32 k2, .int .u32 v2] 34)).drew.cell? p = some u) => (hb.cell (World.block_lt_of_cell? _ _ h)).trans h; have z2' := hz _ _ z2; have z3' := hz _ _ z3; have z4' := hz _ _ z4; have y5' := hz _ _ y5; have y6' := hz _ _ y6; have y7' := hz _ _ y7))
        have HL := Lib.hid (below_then HB0.out (below_drew (Below.refl _ _)))
        have HL2 := Lib.hid (below_then HL.out hb)
        clear HL z2' z3' z4' y5' y6' y7' hz hb
        cases r with
        | true =>
          go_wp2
          go_ret
          exact ⟨rfl, HL2.out⟩
        | false =>
          go_wp2
          go_ret
          exact ⟨rfl, HL2.out⟩
    | false =>
      have KR := fun W => refRight_any ⟨o1, k1, v1⟩ W
      have he : errC (q.map fun k => (ith l k).c) ⟨t, false, ⟨o1, k1, v1⟩, ⟨o2, k2, v2⟩⟩ = if rightB ⟨o1, k1, v1⟩ then (if q.isSome then 5 else 0) else 1 := by
        unfold errC
        rw [if_neg hr]
        simp only [Option.isSome_map]
        rfl
      refine fin _ he _ _ ?_
      have HXL := Lib.hid HX.out
      have HQ := Lib.hid HE.out
      clear fin HR HE he
      dsimp only [Tri.v] at KR
      generalize rightB ⟨o1, k1, v1⟩ = r at *
      cases r with
      | false =>
        simp only [Bool.false_eq_true, if_false]
        go_enter Tryd.func7, Tryd.ntmps7
        go_wp2_with fail
        refine KO.mono ?_
        rintro x w1 ⟨rfl, rfl⟩
        clear KO
        go_wp2_with fail
        refine (KR _).mono ?_
        rintro x w1 ⟨rfl, hb⟩
        have HL := Lib.hid (below_then HB0.out hb)
        clear KR hb
        go_wp2
        go_ret
        exact ⟨rfl, HL.out⟩
      | true =>
        simp only [if_true]
        cases q with
        | none =>
          dsimp only [plc] at KO
          simp only [Option.isSome_none, Bool.false_eq_true, if_false]
          go_enter Tryd.func7, Tryd.ntmps7
          go_wp2_with fail
          refine KO.mono ?_
          rintro x w1 ⟨rfl, rfl⟩
          clear KO
          go_wp2_with fail
          refine (KR _).mono ?_
          rintro x w1 ⟨rfl, hb⟩
          have HL := Lib.hid (below_then HB0.out hb)
          clear KR hb
          go_wp2
          go_ret
          exact ⟨rfl, HL.out⟩
        | some j =>
          dsimp only [plc] at KO
          have gj0 : (0 : Int) ≤ j := by omega
          simp only [Option.isSome_some, if_true]
          go_enter Tryd.func7, Tryd.ntmps7
          go_wp2_with fail
          refine KO.mono ?_
          rintro x w1 ⟨rfl, rfl⟩
          clear KO
          go_wp2_with fail
          refine (KR _).mono ?_
          rintro x w1 ⟨rfl, hb⟩
          have HL := Lib.hid (below_then HB0.out hb)
          clear KR hb
          go_wp2
          go_ret
          exact ⟨rfl, HL.out⟩
end Go.Proofs.YtfdghlpkioednaaDoor
