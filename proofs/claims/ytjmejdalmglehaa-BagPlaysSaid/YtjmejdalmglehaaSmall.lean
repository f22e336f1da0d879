/- What a bag tells without being turned. -/
import Derived.Test.YtjmejdalmglehaaSearch
namespace Go.Proofs.Ytjmejdalmglehaa
open Go.ChangeShapes Go.WideShapes Go.ChangeAt Go.RowKit
set_option linter.unusedVariables false

theorem PrAt.below {W V : World} {b o : Nat} {p : Pr} (h : PrAt W b o p) (hb : Below W.heap.size W V) : PrAt V b o p :=
  ⟨(hb.cell (World.block_lt_of_cell? _ _ h.x0)).trans h.x0, (hb.cell (World.block_lt_of_cell? _ _ h.x1)).trans h.x1⟩
theorem cell_below {W V : World} {a : Addr} {u : Value} (h : W.cell? a = some u) (hb : Below W.heap.size W V) : V.cell? a = some u := (hb.cell (World.block_lt_of_cell? _ _ h)).trans h
theorem below_set {b : Nat} {w W : World} (h : Below b w W) {p : Addr} (hp : b ≤ p.block) (u : Value) : Below b w (W.setCell p u) :=
  ⟨h.os, h.tape, h.output, by simpa [World.setCell] using h.size, fun k hk => (Below.heap_setCell _ _ _ _ (by omega)).trans (h.block k hk)⟩
set_option maxRecDepth 100000 in
theorem before_any (p q : Pr) (w : World) : Calls Try.prog 23 #[p.val, q.val] w fun e w' => e = .returned (.bool (ltP p q)) ∧ Below w.heap.size w w' := by
  obtain ⟨pk, pv⟩ := p
  obtain ⟨qk, qv⟩ := q
  by_cases h : pk = qk
  · subst h
    have hr : ltP ⟨pk, pv⟩ ⟨pk, qv⟩ = decide (pv < qv) := by simp [ltP]
    rw [hr]
    clear hr
    go_enter Try.func23, Try.ntmps23
    go_wp2
    go_ret
    exact ⟨rfl, ((Below.refl _ _).alloc (Nat.le_refl _) _).alloc (by simp) _⟩
  · have hr : ltP ⟨pk, pv⟩ ⟨qk, qv⟩ = decide (pk < qk) := by simp [ltP, h]
    have e0 := beq_f h
    rw [hr]
    clear hr
    go_enter Try.func23, Try.ntmps23
    go_wp2
    go_ret
    exact ⟨rfl, ((Below.refl _ _).alloc (Nat.le_refl _) _).alloc (by simp) _⟩

/-- What stands ahead of a pair that is put in: 'Add's closure. -/
theorem upto_any (b : Nat) (p q : Pr) (w : World) (h : PrAt w b 0 p) : Calls Try.prog 22 #[q.val, .pointer (some ⟨b, 0, none⟩)] w fun e w' => e = .returned (.bool (upto p q)) ∧ Below w.heap.size w w' := by
  have KB := fun W => before_any p q W
  have hu : upto p q = !ltP p q := rfl
  rw [hu]
  clear hu
  generalize ltP p q = r at *
  have HB := Lib.hid (box1 (w := w) (.cells q.cs 38))
  obtain ⟨x0, x1⟩ := h.below HB.out
  clear h
  simp only [Nat.zero_add] at x0 x1
  obtain ⟨pk, pv⟩ := p
  obtain ⟨qk, qv⟩ := q
  dsimp only at *
  go_enter Try.func22, Try.ntmps22
  go_wp2_with fail
  refine (KB _).mono ?_
  rintro e w1 ⟨rfl, hb⟩
  have HB1 := Lib.hid (below_then HB.out hb)
  clear KB hb
  go_wp2
  go_ret
  exact ⟨rfl, HB1.out⟩
/-- 'find's closure. -/
theorem under_any (b : Nat) (p q : Pr) (w : World) (h : PrAt w b 0 p) : Calls Try.prog 40 #[q.val, .pointer (some ⟨b, 0, none⟩)] w fun e w' => e = .returned (.bool (under p q)) ∧ Below w.heap.size w w' := by
  have KB := fun W => before_any q p W
  have hu : under p q = ltP q p := rfl
  rw [hu]
  clear hu
  generalize ltP q p = r at *
  have HB := Lib.hid (box1 (w := w) (.cells q.cs 38))
  obtain ⟨x0, x1⟩ := h.below HB.out
  clear h
  simp only [Nat.zero_add] at x0 x1
  obtain ⟨pk, pv⟩ := p
  obtain ⟨qk, qv⟩ := q
  dsimp only at *
  go_enter Try.func40, Try.ntmps40
  go_wp2_with fail
  refine (KB _).mono ?_
  rintro e w1 ⟨rfl, hb⟩
  have HB1 := Lib.hid (below_then HB.out hb)
  clear KB hb
  go_wp2
  go_ret
  exact ⟨rfl, HB1.out⟩
/-- 'Mins's closure. -/
theorem isLeast_any (b : Nat) (k : Int) (q : Pr) (w : World) (h : w.cell? ⟨b, 0, none⟩ = some (.int .u32 k)) : Calls Try.prog 33 #[q.val, .pointer (some ⟨b, 0, none⟩)] w fun e w' => e = .returned (.bool (isLeast k q)) ∧ Below w.heap.size w w' := by
  have hu : isLeast k q = (q.k == k) := rfl
  rw [hu]
  clear hu
  obtain ⟨qk, qv⟩ := q
  dsimp only
  have h1 := cell_below h (box1 (w := w) (.cells #[.int .u32 qk, .int .u32 qv] 38))
  clear h
  go_enter Try.func33, Try.ntmps33
  go_wp2
  go_ret
  exact ⟨rfl, box1 _⟩

theorem all_any (B : Nat) (s : Sl) (l : List Pr) (w : World) (h : BagS w B s l) : Calls Try.prog 31 #[.pointer (some ⟨B, 0, none⟩)] w fun e w' => e = .returned (.slice s.a s.n s.cap) ∧ w' = w := by
  have hB := h.box.cell 0
  clear h
  obtain ⟨sa, sn, sc⟩ := s
  simp at hB
  go_enter Try.func31, Try.ntmps31
  go_wp2
  go_ret
  exact ⟨rfl, rfl⟩
theorem len_any (B : Nat) (s : Sl) (l : List Pr) (w : World) (h : BagS w B s l) : Calls Try.prog 14 #[.pointer (some ⟨B, 0, none⟩)] w fun e w' => e = .returned (.int .i64 l.length) ∧ w' = w := by
  have KA := all_any B s l w h
  have hl := h.len
  clear h
  obtain ⟨sa, sn, sc⟩ := s
  dsimp only at *
  subst hl
  go_enter Try.func14, Try.ntmps14
  go_wp2_with fail
  refine KA.mono ?_
  rintro e w1 ⟨rfl, rfl⟩
  clear KA
  go_wp2
  go_ret
  exact ⟨rfl, rfl⟩
def headP (l : List Pr) : Pr := l.head?.getD zp
set_option maxRecDepth 100000 in
theorem first_any (B : Nat) (s : Sl) (l : List Pr) (w : World) (h : BagS w B s l) : Calls Try.prog 30 #[.pointer (some ⟨B, 0, none⟩)] w fun e w' => e = .returned (.tuple #[(headP l).val, .bool (!l.isEmpty)]) ∧ Below w.heap.size w w' := by
  have HB := Lib.hid (box1 (w := w) (.cells #[.int .u32 0, .int .u32 0] 38))
  have HX := Lib.hid (Blk.new w 38 #[.int .u32 0, .int .u32 0])
  have h2 := h.below HB.out
  have KL := len_any B s l _ h2
  have hl := h.len
  have hB := h2.box.cell 0
  cases l with
  | nil =>
    clear h h2 hB
    simp only [headP, List.head?_nil, Option.getD_none, List.isEmpty_nil, Bool.not_true]
    clear HX HB
    go_enter Try.func30, Try.ntmps30
    go_wp2_with fail
    refine KL.mono ?_
    rintro e w1 ⟨rfl, rfl⟩
    clear KL
    go_wp2
    refine bodyPost_ret (v := .tuple #[zp.val, .bool false]) (by simp [results, Try.results30, go_sem]) rfl ⟨rfl, box1 _⟩
  | cons x t =>
    obtain ⟨b, off, ea, x0, x1⟩ := h2.row.reads.pr (k := 0) (by simp)
    obtain ⟨sa, sn, sc⟩ := s
    dsimp only [Sl.v] at *
    subst ea hl
    have hx : ithP (x :: t) 0 = x := rfl
    rw [hx] at x0 x1
    obtain ⟨k, v⟩ := x
    clear HX HB
    simp at hB x0 x1
    clear h h2 hx
    have hz : ¬ (((t.length + 1 : Nat) : Int) = 0) := by omega
    have hz2 : (0 : Int) < ((t.length + 1 : Nat) : Int) := by omega
    simp only [List.length_cons] at *
    generalize t.length + 1 = n at *
    have hr : headP (⟨k, v⟩ :: t) = ⟨k, v⟩ := rfl
    rw [hr]
    simp only [List.isEmpty_cons, Bool.not_false]
    go_enter Try.func30, Try.ntmps30
    go_wp2_with fail
    refine KL.mono ?_
    rintro e w1 ⟨rfl, rfl⟩
    clear KL
    go_wp2
    refine bodyPost_ret (v := .tuple #[Pr.val ⟨k, v⟩, .bool true]) (by simp [results, Try.results30, go_sem]) rfl ⟨rfl, box1 _⟩

theorem leastL_head (l : List Pr) : leastL l = (headP l).k := rfl
set_option maxRecDepth 100000 in
theorem least_any (B : Nat) (s : Sl) (l : List Pr) (w : World) (h : BagS w B s l) : Calls Try.prog 12 #[.pointer (some ⟨B, 0, none⟩)] w fun e w' => e = .returned (.tuple #[.int .u32 (leastL l), .bool (!l.isEmpty)]) ∧ Below w.heap.size w w' := by
  have KF := first_any B s l w h
  rw [leastL_head]
  clear h
  generalize headP l = p at *
  generalize (!l.isEmpty) = r at *
  obtain ⟨k, v⟩ := p
  dsimp only [Pr.val] at *
  go_enter Try.func12, Try.ntmps12
  go_wp2_with fail
  refine KF.mono ?_
  rintro e w1 ⟨rfl, hb⟩
  have HB := Lib.hid hb
  clear KF hb
  go_wp2
  refine bodyPost_ret (v := .tuple #[.int .u32 k, .bool r]) (by simp [results, Try.results12, go_sem]) rfl ⟨rfl, below_then HB.out (box1 _)⟩

/-- A function value says what is such, in whatever world that has come of W by what was laid behind. -/
def Suches (W : World) (g : Nat) (cb : Array Value) (such : Pr → Bool) : Prop :=
  ∀ V q, Below W.heap.size W V → Calls Try.prog g (#[q.val] ++ cb) V fun e V' => e = .returned (.bool (such q)) ∧ Below V.heap.size V V'
theorem suches_upto {W : World} {b : Nat} {p : Pr} (h : PrAt W b 0 p) : Suches W 22 #[.pointer (some ⟨b, 0, none⟩)] (upto p) := fun V q hb => upto_any b p q V (h.below hb)
theorem suches_under {W : World} {b : Nat} {p : Pr} (h : PrAt W b 0 p) : Suches W 40 #[.pointer (some ⟨b, 0, none⟩)] (under p) := fun V q hb => under_any b p q V (h.below hb)
theorem suches_least {W : World} {b : Nat} {k : Int} (h : W.cell? ⟨b, 0, none⟩ = some (.int .u32 k)) : Suches W 33 #[.pointer (some ⟨b, 0, none⟩)] (isLeast k) := fun V q hb => isLeast_any b k q V (cell_below h hb)

set_option maxRecDepth 100000 in
/-- 'ahead's closure. -/
theorem ahead1_any (g : Nat) (cb : Array Value) (such : Pr → Bool) (b3 b5 : Nat) (s : Sl) (l : List Pr) (w : World) (eg : ∀ args w, (callFunc g args).run Try.prog w = .ok (.enter g args) w) (hS : Suches w g cb such)
    (h3 : w.cell? ⟨b3, 0, none⟩ = some (.func (.func g) #[] cb)) (h5 : w.cell? ⟨b5, 0, none⟩ = some (.slice s.a s.n s.cap)) (h : Reads w s 2 (encP l)) (i : Nat) (hi : i < l.length) :
    Calls Try.prog 37 (#[.int .i64 i] ++ #[.pointer (some ⟨b3, 0, none⟩), .pointer (some ⟨b5, 0, none⟩)]) w fun e w' => e = .returned (.bool (!such (ithP l i))) ∧ Below w.heap.size w w' := by
  have hn := h.lenP
  have hroom := h.room
  unfold maxLen at hroom
  obtain ⟨b, off, ea, x0, x1⟩ := h.pr hi
  have HC := hS w.drew (ithP l i) (below_drew (Below.refl _ _))
  have HC2 := hS w (ithP l i) (Below.refl _ _)
  clear h hS
  generalize such (ithP l i) = r at *
  generalize ithP l i = q at *
  obtain ⟨sa, sn, sc⟩ := s
  obtain ⟨qk, qv⟩ := q
  dsimp only at *
  subst ea hn
  have gi : (i : Int) < l.length := by omega
  go_enter Try.func37, Try.ntmps37
  go_wp2_with fail
  go_region_with (first | (go_at_fn g; refine HC.mono ?_; rintro e w' ⟨rfl, hb⟩) | (go_at_fn g; refine HC2.mono ?_; rintro e w' ⟨rfl, hb⟩))
  all_goals go_wp2
  all_goals go_ret
  all_goals exact ⟨rfl, by first | exact hb | exact (below_drew (Below.refl _ _)).trans hb⟩

set_option maxRecDepth 100000 in
theorem ahead_any (g : Nat) (cb : Array Value) (such : Pr → Bool) (B : Nat) (s : Sl) (l : List Pr) (n : Nat) (w : World) (eg : ∀ args w, (callFunc g args).run Try.prog w = .ok (.enter g args) w) (hS : Suches w g cb such)
    (h : BagS w B s l) (hc : Cut such l n) (hl : l.length < 1000000) :
    Calls Try.prog 21 #[.pointer (some ⟨B, 0, none⟩), .func (.func g) #[] cb] w fun e w' => e = .returned (.int .i64 n) ∧ Below w.heap.size w w' := by
  have hn := h.len
  have HB := Lib.hid (box1 (w := w) (.cells #[.func (.func g) #[] cb] 39))
  have HB2 := Lib.hid (below_then HB.out (box1 (.cells #[.slice s.a s.n s.cap] 24)))
  have x3 : Blk ((w.alloc (.cells #[.func (.func g) #[] cb] 39)).alloc (.cells #[.slice s.a s.n s.cap] 24)) w.heap.size 39 #[.func (.func g) #[] cb] := (Blk.new _ _ _).alloc _
  have x5 : Blk ((w.alloc (.cells #[.func (.func g) #[] cb] 39)).alloc (.cells #[.slice s.a s.n s.cap] 24)) (w.heap.size + 1) 24 #[.slice s.a s.n s.cap] := by simpa using Blk.new (w.alloc (.cells #[.func (.func g) #[] cb] 39)) 24 #[.slice s.a s.n s.cap]
  have KA := all_any B s l _ (h.below HB.out)
  have KS := search_any l.length n #[.pointer (some ⟨w.heap.size, 0, none⟩), .pointer (some ⟨w.heap.size + 1, 0, none⟩)] ((w.alloc (.cells #[.func (.func g) #[] cb] 39)).alloc (.cells #[.slice s.a s.n s.cap] 24)) (by omega) hc.le
    (fun V i hb hi => by
      have := ahead1_any g cb such w.heap.size (w.heap.size + 1) s l V eg (fun U q hu => hS U q (below_then (below_then HB2.out hb) hu)) (cell_below (by rw [x3.cell]; rfl) hb) (cell_below (by rw [x5.cell]; rfl) hb) ((h.row.reads.below HB2.out).below hb) i hi
      have e : (!such (ithP l i)) = decide (n ≤ i) := by
        rcases Nat.lt_or_ge i n with h1 | h1
        · rw [hc.yes i h1, decide_eq_false (by omega)]; rfl
        · rw [hc.no i h1 hi, decide_eq_true h1]; rfl
      rw [e] at this
      exact this)
  clear h hc hS x3 x5 HB
  obtain ⟨sa, sn, sc⟩ := s
  dsimp only at *
  subst hn
  go_enter Try.func21, Try.ntmps21
  go_wp2_with fail
  refine KA.mono ?_
  rintro e w1 ⟨rfl, rfl⟩
  clear KA
  go_wp2_with fail
  refine KS.mono ?_
  rintro e w1 ⟨rfl, hb⟩
  have HF := Lib.hid (below_then HB2.out hb)
  clear KS hb
  go_wp2
  go_ret
  exact ⟨rfl, HF.out⟩

theorem enters22 : ∀ args w, (callFunc 22 args).run Try.prog w = .ok (.enter 22 args) w := enters_of Try.func22 (by kernel_rfl) rfl
theorem enters40 : ∀ args w, (callFunc 40 args).run Try.prog w = .ok (.enter 40 args) w := enters_of Try.func40 (by kernel_rfl) rfl
theorem enters33 : ∀ args w, (callFunc 33 args).run Try.prog w = .ok (.enter 33 args) w := enters_of Try.func33 (by kernel_rfl) rfl

theorem eq_pr (p q : Pr) (w : World) : (Op.equalIn 10000 38 p.val q.val).run Try.prog w = .ok (decide (p = q)) w := by
  obtain ⟨a1, a2⟩ := p
  obtain ⟨b1, b2⟩ := q
  simp only [Pr.mk.injEq]
  simp [go_sem]
  by_cases h1 : a1 = b1 <;> by_cases h2 : a2 = b2 <;> simp [h1, h2]
set_option maxRecDepth 100000 in
theorem find_any (B : Nat) (s : Sl) (l : List Pr) (p : Pr) (w : World) (h : BagS w B s l) (ho : Ord l) (hl : l.length < 1000000) :
    Calls Try.prog 25 #[.pointer (some ⟨B, 0, none⟩), p.val] w fun e w' => e = .returned (.tuple #[.int .i64 (plcP l p), .bool (decide (p ∈ l))]) ∧ Below w.heap.size w w' := by
  have hn := h.len
  have hf := plcP_found ho p
  rw [← hf]
  clear hf
  have HB := Lib.hid (box1 (w := w) (.cells #[.int .u32 p.k, .int .u32 p.v] 38))
  have x3 : Blk (w.alloc (.cells #[.int .u32 p.k, .int .u32 p.v] 38)) w.heap.size 38 p.cs := Blk.new _ _ _
  have HX := Lib.hid x3
  have h1 := h.below HB.out
  have KA := ahead_any 40 #[.pointer (some ⟨w.heap.size, 0, none⟩)] (under p) B s l (plcP l p) _ enters40 (suches_under x3.pr) h1 (plcP_cut ho p) hl
  have hp := (plcP_cut ho p).le
  have H1 := Lib.hid h1
  have hq := fun w => eq_pr (ithP l (plcP l p)) p w
  clear h h1 x3
  obtain ⟨sa, sn, sc⟩ := s
  dsimp only [Sl.v] at *
  subst hn
  generalize plcP l p = n at *
  obtain ⟨k, v⟩ := p
  dsimp only [Pr.val] at *
  by_cases hlt : n < l.length
  · have hg : (n : Int) < l.length := by omega
    generalize hz : ithP l n = z at *
    rw [decide_eq_true hlt]
    generalize decide (z = ⟨k, v⟩) = r at *
    go_enter Try.func25, Try.ntmps25
    go_wp2_with fail
    refine KA.mono ?_
    rintro e w1 ⟨rfl, hb⟩
    clear KA
    have HF := Lib.hid (below_then HB.out hb)
    have H2 := Lib.hid (H1.out.below hb)
    have c := (HX.out.below hb HX.out.lt)
    have c0 := c.cell 0
    have c1 := c.cell 1
    have hB := H2.out.box.cell 0
    obtain ⟨b, off, rfl, y0, y1⟩ := H2.out.row.reads.pr hlt
    rw [hz] at y0 y1
    obtain ⟨zk, zv⟩ := z
    have KL := fun W hW => len_any B _ l W (H2.out.below hW)
    clear c hb HX H1 H2 HB
    simp at c0 c1 hB
    dsimp only [Pr.val, Sl.v] at *
    go_wp2_with fail
    go_quiet (first | (go_at_call 14; exact Calls.quiet_of_same (KL _ (below_drewN (Below.refl _ _) _))))
    have HL := Lib.hid (below_drewN HF.out nq)
    clear HF
    go_wp2
    refine bodyPost_ret (v := .tuple #[.int .i64 n, .bool (true && r)]) (by simp [results, Try.results25, go_sem]) rfl ⟨rfl, HL.out⟩
  · have hg : ¬ ((n : Int) < l.length) := by omega
    rw [decide_eq_false hlt]
    clear hq
    go_enter Try.func25, Try.ntmps25
    go_wp2_with fail
    refine KA.mono ?_
    rintro e w1 ⟨rfl, hb⟩
    clear KA
    have HF := Lib.hid (below_then HB.out hb)
    have H2 := Lib.hid (H1.out.below hb)
    have KL := fun W hW => len_any B _ l W (H2.out.below hW)
    clear hb HX H1 HB
    go_wp2_with fail
    go_quiet (first | (go_at_call 14; exact Calls.quiet_of_same (KL _ (below_drewN (Below.refl _ _) _))))
    have HL := Lib.hid (below_drewN HF.out nq)
    clear HF
    go_wp2
    refine bodyPost_ret (v := .tuple #[.int .i64 n, .bool false]) (by simp [results, Try.results25, go_sem]) rfl ⟨rfl, HL.out⟩
end Go.Proofs.Ytjmejdalmglehaa
