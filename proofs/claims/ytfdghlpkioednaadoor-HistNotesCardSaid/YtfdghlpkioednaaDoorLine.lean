/- Histories as text: an event's line, by the program; all of them, by the program and by the document. -/
import Derived.Test.YtfdghlpkioednaaDoorRefEvents
import Derived.Test.YtfdghlpkioednaaDoorDigits
import Derived.Test.YtfdghlpkioednaaDoorBuild
namespace Go.Proofs.YtfdghlpkioednaaDoor
open Go.ChangeShapes Go.WideShapes Go.ChangeAt Go.RowKit
set_option linter.unusedVariables false

/-- A thread's digit; what was said; an event's line; all lines. -/
def thT (t : Int) : List UInt8 := if 0 ≤ t ∧ t ≤ 5 then Lib.decDigits t.toNat else askT
def saidT (e : Ev) : List UInt8 := if e.b then tellT e.a else showT e.c
def signT (b : Bool) : UInt8 := if b then 62 else 60
def lineT (e : Ev) : List UInt8 := thT e.t ++ 32 :: signT e.b :: 32 :: (saidT e ++ [10])
def textT (l : List Ev) : List UInt8 := l.flatMap lineT
structure FitE (e : Ev) : Prop where
  t : I64 e.t
  c : Fit e.c
  a : Fit e.a
theorem thT_len (t : Int) : (thT t).length ≤ 10 := by
  unfold thT
  split
  · exact dec_len (by omega)
  · decide
theorem showT_len {c : Tri} (h : Fit c) : (showT c).length ≤ 28 := by
  have := pairT_len (k := c.key.toNat) (v := c.val.toNat) (by have := h.k1; omega) (by have := h.v1; omega)
  unfold showT insT' delT peekT askT
  repeat' split
  all_goals (simp; try omega)
theorem tellT_len {c : Tri} (h : Fit c) : (tellT c).length ≤ 28 := by
  have := pairT_len (k := c.key.toNat) (v := c.val.toNat) (by have := h.k1; omega) (by have := h.v1; omega)
  unfold tellT doneT fullT emptyT askT
  repeat' split
  all_goals (simp; try omega)
theorem saidT_len {e : Ev} (h : FitE e) : (saidT e).length ≤ 28 := by
  unfold saidT
  split
  · exact tellT_len h.a
  · exact showT_len h.c
theorem lineT_len {e : Ev} (h : FitE e) : (lineT e).length ≤ 42 := by
  have := thT_len e.t
  have := saidT_len h
  simp [lineT]
  omega
theorem textT_len : ∀ {l : List Ev}, (∀ e ∈ l, FitE e) → (textT l).length ≤ 42 * l.length
  | [], _ => by simp [textT]
  | x :: l, h => by
    have := lineT_len (h x List.mem_cons_self)
    have := textT_len (l := l) fun e he => h e (List.mem_cons_of_mem _ he)
    simp only [textT, List.flatMap_cons, List.length_append, List.length_cons] at *
    omega
theorem textT_next {l : List Ev} {k : Nat} (h : k < l.length) : textT (l.take (k + 1)) = textT (l.take k) ++ lineT (ith l k) := by
  rw [take_next (ith_lt h), textT, List.flatMap_append]
  simp [textT]

theorem digit_any (t : Int) (w : World) : Calls Tryd.prog 41 #[.int .i64 t] w fun e w' => e = .returned (strV (thT t)) ∧ w' = w := by
  have KT := isThread_any t
  by_cases hr : 0 ≤ t ∧ t ≤ 5
  · have hd : decide (0 ≤ t ∧ t ≤ 5) = true := by simp only [decide_eq_true_eq]; exact hr
    have hx : thT t = Lib.decDigits t.toNat := if_pos hr
    rw [hd] at KT
    rw [hx]
    obtain ⟨t, rfl⟩ := Int.eq_ofNat_of_zero_le hr.1
    have KI := fun w => sh.strconv_Itoa_small t (by omega) w
    rw [Int.toNat_natCast]
    clear hd hx hr
    generalize Lib.decDigits t = x at *
    go_enter Tryd.func41, Tryd.ntmps41
    go_wp2_with fail
    refine (KT _).mono ?_
    rintro e w1 ⟨rfl, rfl⟩
    go_wp2_with fail
    refine (KI _).mono ?_
    rintro e w1 ⟨rfl, rfl⟩
    go_wp2
    go_ret
    exact ⟨rfl, rfl⟩
  · have hd : decide (0 ≤ t ∧ t ≤ 5) = false := by simp only [decide_eq_false_iff_not]; exact hr
    have hx : thT t = [63] := if_neg hr
    rw [hd] at KT
    rw [hx]
    clear hd hx
    go_enter Tryd.func41, Tryd.ntmps41
    go_wp2_with fail
    refine (KT _).mono ?_
    rintro e w1 ⟨rfl, rfl⟩
    go_wp2
    go_ret
    exact ⟨rfl, rfl⟩

set_option maxRecDepth 100000 in
set_option maxHeartbeats 4000000 in
theorem line_any (e : Ev) (he : FitE e) (w : World) (ht : Tab w) : Calls Tryd.prog 30 #[e.v] w fun x w' => x = .returned (strV (lineT e)) ∧ Below w.heap.size w w' := by
  have h0 := box1 (w := w) (.cells e.cs 34)
  have hX := Blk.new w 34 e.cs
  have HT0 := Lib.hid (tab_below ht h0)
  have KS := fun W h => show_any e.c he.c W h
  have KA := fun W h => tell_any e.a he.a W h
  have KD := digit_any e.t
  have l1 := thT_len e.t
  have l2 := showT_len he.c
  have l3 := tellT_len he.a
  have HB0 := Lib.hid h0
  have HX := Lib.hid hX
  unfold lineT saidT
  generalize thT e.t = th at *
  generalize showT e.c = sw at *
  generalize tellT e.a = tl at *
  have q1 := fun w => add_strs th [32] (by omega) (by decide) w
  clear h0 hX ht he
  obtain ⟨t, b, ⟨c1, c2, c3⟩, ⟨a1, a2, a3⟩⟩ := e
  dsimp only [Ev.v, Ev.cs, Tri.v] at *
  cases b with
  | false =>
    have q2 := fun w => add_strs (th ++ [32]) [60] (by simp; omega) (by decide) w
    have q3 := fun w => add_strs (th ++ [32, 60]) [32] (by simp; omega) (by decide) w
    have q4 := fun w => add_strs (th ++ [32, 60, 32]) sw (by simp; omega) (by omega) w
    have q5 := fun w => add_strs (th ++ 32 :: 60 :: 32 :: sw) [10] (by simp; omega) (by decide) w
    simp only [List.append_assoc, List.cons_append, List.nil_append] at q1 q2 q3 q4 q5
    simp only [Bool.false_eq_true, if_false, signT]
    clear KA l3
    go_enter Tryd.func30, Tryd.ntmps30
    go_wp2_with fail
    refine (KS _ HT0.out).mono ?_
    rintro x w1 ⟨rfl, hb⟩
    have HB1 := Lib.hid (below_then HB0.out hb)
    obtain ⟨x0, x1, x2, x3, x4, x5, x6, x7⟩ := Blk.ev (e := ⟨t, false, ⟨c1, c2, c3⟩, ⟨a1, a2, a3⟩⟩) (HX.out.below hb HX.out.lt)
    simp only [Nat.zero_add] at x0 x1 x2 x3 x4 x5 x6 x7
    clear hb KS
    go_wp2_with fail
    refine (KD _).mono ?_
    rintro x w2 ⟨rfl, rfl⟩
    clear KD
    go_wp2
    go_ret
    exact ⟨rfl, HB1.out⟩
  | true =>
    have q2 := fun w => add_strs (th ++ [32]) [62] (by simp; omega) (by decide) w
    have q3 := fun w => add_strs (th ++ [32, 62]) [32] (by simp; omega) (by decide) w
    have q4 := fun w => add_strs (th ++ [32, 62, 32]) tl (by simp; omega) (by omega) w
    have q5 := fun w => add_strs (th ++ 32 :: 62 :: 32 :: tl) [10] (by simp; omega) (by decide) w
    simp only [List.append_assoc, List.cons_append, List.nil_append] at q1 q2 q3 q4 q5
    simp only [if_true, signT]
    clear l2
    go_enter Tryd.func30, Tryd.ntmps30
    go_wp2_with fail
    refine (KS _ HT0.out).mono ?_
    rintro x w1 ⟨rfl, hb⟩
    have HB1 := Lib.hid (below_then HB0.out hb)
    have HT1 := Lib.hid (tab_below HT0.out hb)
    have HX1 := Lib.hid (HX.out.below hb HX.out.lt)
    obtain ⟨x0, x1, x2, x3, x4, x5, x6, x7⟩ := Blk.ev (e := ⟨t, true, ⟨c1, c2, c3⟩, ⟨a1, a2, a3⟩⟩) HX1.out
    simp only [Nat.zero_add] at x0 x1 x2 x3 x4 x5 x6 x7
    clear hb KS
    go_wp2_with fail
    refine (KA _ HT1.out).mono ?_
    rintro x w2 ⟨rfl, hb⟩
    have HB2 := Lib.hid (below_then HB1.out hb)
    obtain ⟨y0, y1, y2, y3, y4, y5, y6, y7⟩ := Blk.ev (e := ⟨t, true, ⟨c1, c2, c3⟩, ⟨a1, a2, a3⟩⟩) (HX1.out.below hb HX1.out.lt)
    simp only [Nat.zero_add] at y0 y1 y2 y3 y4 y5 y6 y7
    clear hb KA x0 x1 x2 x3 x4 x5 x6 x7
    go_wp2_with fail
    refine (KD _).mono ?_
    rintro x w3 ⟨rfl, rfl⟩
    clear KD
    go_wp2
    go_ret
    exact ⟨rfl, HB2.out⟩
end Go.Proofs.YtfdghlpkioednaaDoor
