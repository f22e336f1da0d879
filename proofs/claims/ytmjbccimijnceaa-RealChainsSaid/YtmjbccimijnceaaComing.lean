/- Who comes next, told by a sequence. -/
import Derived.Test.YtmjbccimijnceaaRoundReg
import Derived.Test.YtmjbccimijnceaaMay
import Derived.Deep.CutBlock
import Derived.Scope
namespace Go.Proofs.Ytmjbccimijnceaa
open Go.ChangeShapes Go.WideShapes Go.ChangeAt Go.RowKit
set_option linter.unusedVariables false
set_option linter.unusedSimpArgs false
attribute [local go_sem] Oper.semAt_some wide_fn

/-- Of those that are left: whom none of the others keeps back. -/
def nextD (l : List Opr) (ds : List Bool) : List Int := (leftL ds).filter fun x => (leftL ds).all fun j => decide (j = x) || !aheadAt l j x
theorem next_same {l : List Opr} {ds : List Bool} {F : List Int} (h : Soon l (missL l ds) F) {x : Int} (hx : x ∈ leftL ds) :
    ((leftL ds).all fun j => decide (j = x) || !aheadAt l j x) = !(F.any fun o => decide (o ≠ x) && aheadAt l o x) := by
  have h1 := next_mem h (x := x)
  unfold nextL at h1
  rw [List.mem_filter] at h1
  rw [Bool.eq_iff_iff]
  constructor
  · intro h2
    refine (h1.2 ⟨hx, fun j hj hjx => ?_⟩).2
    rw [List.all_eq_true] at h2
    have := h2 j hj
    simpa [hjx] using this
  · intro h2
    rw [List.all_eq_true]
    intro j hj
    by_cases e : j = x
    · simp [e]
    · simp [(h1.1 ⟨hx, h2⟩).2 j hj e]
theorem nextD_eq {l : List Opr} {ds : List Bool} {F : List Int} (h : Soon l (missL l ds) F) : nextD l ds = nextL l ds F := by
  unfold nextD nextL
  exact List.filter_congr fun x hx => next_same h hx

theorem own_mono {W : World} {n₀ n₁ : Nat} {e : TypeId} {size n : Nat} {v : Value} {xs : List Value} (h : W.ownsRow n₁ e size v n xs) (hn : n₀ ≤ n₁) : W.ownsRow n₀ e size v n xs := by
  refine ⟨h.1, h.2.imp id ?_⟩
  rintro ⟨g, cap, cur, e, hb, r⟩
  exact ⟨g, cap, cur, e, by omega, r⟩

theorem own_sl {W : World} {n₀ : Nat} {e : TypeId} {size n : Nat} {v : Value} {xs : List Value} (h : W.ownsRow n₀ e size v n xs) : ∃ a m c, v = .slice a m c := by
  rcases h.2 with ⟨rfl, _⟩ | ⟨g, cap, cur, rfl, _⟩
  · exact ⟨_, _, _, rfl⟩
  · exact ⟨_, _, _, rfl⟩

theorem cell_far {W : World} {k b : Nat} (h : k ≠ b) (u : Value) : (W.setCell ⟨b, 0, none⟩ u).cell? ⟨k, 0, none⟩ = W.cell? ⟨k, 0, none⟩ := World.cell?_of_block (a := ⟨k, 0, none⟩) (Below.heap_setCell _ _ _ _ h)

/-- Two operations of the list, and the list's box. -/
structure AtC (bl : Nat) (y : Value) (b o1 o2 : Nat) (v z : Opr) (W : World) : Prop where
  box : Boxed W bl 22 y
  p1 : OpAt W b o1 v
  p2 : OpAt W b o2 z
theorem AtC.below {bl : Nat} {y : Value} {b o1 o2 : Nat} {v z : Opr} {W V : World} (h : AtC bl y b o1 o2 v z W) (hb : Below W.heap.size W V) : AtC bl y b o1 o2 v z V :=
  ⟨(hb.block bl h.box.lt).trans h.box, h.p1.below hb, h.p2.below hb⟩
theorem AtC.cells {bl : Nat} {y : Value} {b o1 o2 : Nat} {v z : Opr} {W : World} (h : AtC bl y b o1 o2 v z W) :
    W.cell? ⟨bl, 0, none⟩ = some y ∧ W.cell? ⟨b, o1, none⟩ = some (.int .i64 v.t) ∧ W.cell? ⟨b, o1 + 1, none⟩ = some (.int .i64 v.c.op) ∧ W.cell? ⟨b, o1 + 2, none⟩ = some (.int .u32 v.c.key) ∧ W.cell? ⟨b, o1 + 3, none⟩ = some (.int .u32 v.c.val) ∧ W.cell? ⟨b, o1 + 4, none⟩ = some (.int .i64 v.a.op) ∧ W.cell? ⟨b, o1 + 5, none⟩ = some (.int .u32 v.a.key) ∧ W.cell? ⟨b, o1 + 6, none⟩ = some (.int .u32 v.a.val) ∧ W.cell? ⟨b, o1 + 7, none⟩ = some (.int .i64 v.f) ∧ W.cell? ⟨b, o1 + 8, none⟩ = some (.int .i64 v.o) ∧ W.cell? ⟨b, o2, none⟩ = some (.int .i64 z.t) ∧ W.cell? ⟨b, o2 + 1, none⟩ = some (.int .i64 z.c.op) ∧ W.cell? ⟨b, o2 + 2, none⟩ = some (.int .u32 z.c.key) ∧ W.cell? ⟨b, o2 + 3, none⟩ = some (.int .u32 z.c.val) ∧ W.cell? ⟨b, o2 + 4, none⟩ = some (.int .i64 z.a.op) ∧ W.cell? ⟨b, o2 + 5, none⟩ = some (.int .u32 z.a.key) ∧ W.cell? ⟨b, o2 + 6, none⟩ = some (.int .u32 z.a.val) ∧ W.cell? ⟨b, o2 + 7, none⟩ = some (.int .i64 z.f) ∧ W.cell? ⟨b, o2 + 8, none⟩ = some (.int .i64 z.o) := by
  obtain ⟨x0, x1, x2, x3, x4, x5, x6, x7, x8⟩ := h.p1
  obtain ⟨y0, y1, y2, y3, y4, y5, y6, y7, y8⟩ := h.p2
  exact ⟨h.box.cell, x0, x1, x2, x3, x4, x5, x6, x7, x8, y0, y1, y2, y3, y4, y5, y6, y7, y8⟩

/-- What is found ahead of the loop: the two, in a variable. -/
def Few (l : List Opr) (ds : List Bool) (w : World) (B : Nat) (W : World) : Prop :=
  ∃ v F, Boxed W B 23 v ∧ W.ownsRow w.heap.size 3 1 v F.length (ints F) ∧ Soon l (missL l ds) F ∧ Below w.heap.size w W ∧ w.heap.size ≤ B

theorem few_alloc {l : List Opr} {ds : List Bool} {W1 w2 : World} {n₁ : Nat} {v : Value} {F : List Int} (hb : Below W1.heap.size W1 w2) (hown : w2.ownsRow n₁ 3 1 v F.length (ints F)) (hn : W1.heap.size ≤ n₁) (hS : Soon l (missL l ds) F) :
    Few l ds W1 w2.heap.size (w2.alloc (.cells #[v] 23)) := by
  refine ⟨v, F, Boxed.new _ _ _, ?_, hS, hb.alloc hb.size _, hb.size⟩
  exact (own_mono hown hn).alloc _
theorem few_set {l : List Opr} {ds : List Bool} {W1 w2 : World} {n₁ B : Nat} {u v : Value} {F : List Int} (hb : Below W1.heap.size W1 w2) (hown : w2.ownsRow n₁ 3 1 v F.length (ints F)) (hn : W1.heap.size ≤ n₁) (hS : Soon l (missL l ds) F)
    (hq : Blk w2 B 23 #[u]) (hB : W1.heap.size ≤ B) : Few l ds W1 B (w2.setCell ⟨B, 0, none⟩ v) := by
  have hx : Boxed w2 B 23 u := hq
  refine ⟨v, F, hx.set _, ?_, hS, hb.setCell hB _, hB⟩
  exact ownsRow_agree (own_mono hown hn) fun k hk => Below.heap_setCell _ _ _ _ (fun e => by subst e; exact hx.not_row (by decide) hown hk.symm)

set_option maxRecDepth 100000 in
set_option maxHeartbeats 4000000 in
theorem coming_tells (y s : Sl) (l : List Opr) (ds : List Bool) (bl bd : Nat) (W0 : World) (hbl : Boxed W0 bl 22 y.v) (hbd : Boxed W0 bd 34 s.v) (hy : Reads W0 y 9 (encO l)) (hs : Reads W0 s 1 (bools ds)) (he : ds.length = l.length) :
    Tells Try.prog encI (.func (.func 20) #[] #[at0 bl, at0 bd]) (fun k => (k = bl ∨ k = bd) ∨ (y.row k ∨ s.row k)) (nextD l ds) W0 := by
  refine ⟨⟨_, _, rfl⟩, fun k hk => ?_, ?_⟩
  · rcases hk with (rfl | rfl) | (hk | hk)
    · exact hbl.lt
    · exact hbd.lt
    · exact hy.row_lt (by decide) hk
    · exact hs.row_lt (by decide) hk
  intro W hW y' J Jx O hyf hJ hJx hY hC h0
  have b1 : Boxed W bl 22 y.v := (hW bl (.inl (.inl rfl))).trans hbl
  have b2 : Boxed W bd 34 s.v := (hW bd (.inl (.inr rfl))).trans hbd
  have yW : Reads W y 9 (encO l) := hy.of_row fun k hk => hW k (.inr (.inl hk))
  have sW : Reads W s 1 (bools ds) := hs.of_row fun k hk => hW k (.inr (.inr hk))
  have hbA : Below W.heap.size W (W.alloc (.cells #[y'] 43)) := (Below.refl _ _).alloc (Nat.le_refl _) _
  refine callsV_func (enters_of Try.func20 (by kernel_rfl) rfl) ?_
  refine (callsIn_wide (n := 9)).1 ?_
  refine callsIn_of_wp_marks Try.func20 rfl trivial ?_ rfl
  simp only [Try.ntmps20, List.size_toArray, List.length_cons, List.length_nil, Nat.reduceAdd, Nat.reduceSub, Array.replicate_succ, Array.replicate_zero, List.push_toArray, List.append_toArray, List.nil_append, List.cons_append]
  refine wpIn_wide.2 ?_
  obtain ⟨yf, yc, rfl⟩ := hyf.func
  obtain ⟨W1, hW1⟩ : ∃ W1, W1 = W.alloc (.cells #[.func yf #[] yc] 43) := ⟨_, rfl⟩
  rw [← hW1] at hbA
  have q3 : Boxed W1 W.heap.size 43 (.func yf #[] yc) := by rw [hW1]; exact Boxed.new W 43 _
  have KM := Lib.hid fun V (hb : Below W1.heap.size W1 V) => miss_any y s l ds V ((yW.below hbA).below hb) ((sW.below hbA).below hb) he
  have KS := Lib.hid fun g lb C V eg (hT : Tells Try.prog encI (.func (.func g) #[] lb) C (missL l ds) V) (hb : Below W1.heap.size W1 V) =>
    soonest_any y l g lb C (missL l ds) V ((yW.below hbA).below hb) eg hT (fun x hx => by have := (mem_miss.1 hx).1.1; omega) (miss_nodup l ds)
  have KL := Lib.hid fun V (hb : Below W1.heap.size W1 V) => left_any y s l ds V ((yW.below hbA).below hb) ((sW.below hbA).below hb) he
  have b1' : Boxed W1 bl 22 y.v := (hbA.block _ b1.lt).trans b1
  have b2' : Boxed W1 bd 34 s.v := (hbA.block _ b2.lt).trans b2
  have c1 := b1'.cell
  have c2 := b2'.cell
  have hsz1 : W1.heap.size = W.heap.size + 1 := by rw [hW1]; simp
  have l1' := b1'.lt
  have l2' := b2'.lt
  have HW := Lib.hid hW1
  have HZ := Lib.hid hsz1
  clear hW hbl hbd hy hs hW1 hsz1
  obtain ⟨ya, yn, yp⟩ := y
  obtain ⟨sa, sn, sp⟩ := s
  dsimp only [Sl.v] at *
  go_wp2_with fail
  refine wp_scope_straight ?_
  go_wp2_with fail
  rw [← HW.out]
  go_cut [4] from 8 (fun s4 wc => ∃ B, s4 = at0 B ∧ Hid (Few l ds W1 B wc))
  case first =>
    have hD : Below W1.heap.size W1 W1.drew := below_drew (Below.refl _ _)
    go_region_held3 (fun W => W.cell? ⟨bl, 0, none⟩ = some (.slice ya yn yp) ∧ W.cell? ⟨bd, 0, none⟩ = some (.slice sa sn sp)) (first | exact ⟨c1, c2⟩ | exact ⟨c1w, c2w⟩ | exact ⟨c1x, c2x⟩ | exact ⟨(cell_far (by omega) _).trans c1x, (cell_far (by omega) _).trans c2x⟩ | go_keep) ((first
      | (go_at_call 12
         first
          | (refine (KM.out _ hD).mono ?_
             rintro e w1 ⟨g, lb, C, rfl, eg, hT, hCC, hb1⟩
             have hV := below_then hD hb1
             have c1w := Boxed.cell (show Boxed w1 bl 22 (.slice ya yn yp) from (hV.block bl b1'.lt).trans b1')
             have c2w := Boxed.cell (show Boxed w1 bd 34 (.slice sa sn sp) from (hV.block bd b2'.lt).trans b2')
             have l1w : bl < w1.heap.size := by have := hV.size; omega
             have l2w : bd < w1.heap.size := by have := hV.size; omega)
          | (refine (KM.out _ (hD.alloc (Nat.le_refl _) (.cells #[.slice none 0 0] 23))).mono ?_
             rintro e w1 ⟨g, lb, C, rfl, eg, hT, hCC, hb1⟩
             have hV := below_then (hD.alloc (Nat.le_refl _) (.cells #[.slice none 0 0] 23)) hb1
             have c1w := Boxed.cell (show Boxed w1 bl 22 (.slice ya yn yp) from (hV.block bl b1'.lt).trans b1')
             have c2w := Boxed.cell (show Boxed w1 bd 34 (.slice sa sn sp) from (hV.block bd b2'.lt).trans b2')
             have l1w : bl < w1.heap.size := by have := hV.size; omega
             have l2w : bd < w1.heap.size := by have := hV.size; omega
             have qb : Blk w1 W1.heap.size 23 #[.slice none 0 0] := (Blk.new W1.drew 23 #[.slice none 0 0]).below hb1 (by simp)))
      | (go_at_call 21
         first
          | (refine (KS.out g lb C _ eg hT hV).mono ?_
             rintro e w2 ⟨v, F, rfl, hown, hS, hb2⟩
             obtain ⟨fa, fn, fc, rfl⟩ := own_sl hown
             have hV2 := below_then hV hb2
             have c1x := Boxed.cell (show Boxed w2 bl 22 (.slice ya yn yp) from (hV2.block bl b1'.lt).trans b1')
             have c2x := Boxed.cell (show Boxed w2 bd 34 (.slice sa sn sp) from (hV2.block bd b2'.lt).trans b2')
             try (have qb2 := qb.below hb2 qb.lt; have qc : w2.cell? ⟨W1.heap.size, 0, none⟩ = some (.slice none 0 0) := qb2.cell 0; have qf := qb2.frozen 0))
          | (refine (KS.out g lb C _ eg (hT.below (box1 (.cells #[.slice none 0 0] 23))) (hV.alloc hV.size (.cells #[.slice none 0 0] 23))).mono ?_
             rintro e w2 ⟨v, F, rfl, hown, hS, hb2⟩
             obtain ⟨fa, fn, fc, rfl⟩ := own_sl hown
             have hV2 := below_then (hV.alloc hV.size (.cells #[.slice none 0 0] 23)) hb2
             have c1x := Boxed.cell (show Boxed w2 bl 22 (.slice ya yn yp) from (hV2.block bl b1'.lt).trans b1')
             have c2x := Boxed.cell (show Boxed w2 bd 34 (.slice sa sn sp) from (hV2.block bd b2'.lt).trans b2')
             have qb2 : Blk w2 w1.heap.size 23 #[.slice none 0 0] := (Blk.new w1 23 #[.slice none 0 0]).below hb2 (by simp)
             have qc : w2.cell? ⟨w1.heap.size, 0, none⟩ = some (.slice none 0 0) := qb2.cell 0
             have qf := qb2.frozen 0))))
    all_goals go_wp2_with fail
    all_goals go_meet
    case rel => exact ⟨_, rfl, Lib.hid (few_alloc hV2 hown hV.size hS)⟩
    case rel => exact ⟨_, rfl, Lib.hid (few_set hV2 hown (by simp; have := hV.size; omega) hS qb2 hV.size)⟩
    case rel => exact ⟨_, rfl, Lib.hid (few_set hV2 hown hV.size hS qb2 (Nat.le_refl _))⟩
  case rest =>
    obtain ⟨B, rfl, HF⟩ := hcut
    obtain ⟨v, F, hv, hrow, hS, hb, hB⟩ := HF.out
    have c3 := Boxed.cell (show Boxed wc bl 22 (.slice ya yn yp) from (hb.block bl b1'.lt).trans b1')
    have c4 := Boxed.cell (show Boxed wc bd 34 (.slice sa sn sp) from (hb.block bd b2'.lt).trans b2')
    clear HF
    go_wp2_with fail
    refine wp_label ?_
    go_wp2_with (go_at_call 17; refine (KL.out _ hb).mono ?_; rintro e w3 ⟨g, lb, C, rfl, eg, hT, hCC, hb3⟩)
    obtain ⟨fa, fn, fc, rfl⟩ := own_sl hrow
    have hfr := Reads.of_own (s := ⟨fa, fn, fc⟩) hrow
    have hfn : fn = F.length := hfr.2
    have hb13 := below_then hb hb3
    have hb03 := hbA.trans (hb13.mono (by have := HZ.out; omega))
    have hkL : Keeps O W w3 := Keeps.of_below hb03
    have hOlt : ∀ k, O k → k < W.heap.size := fun k hk => hJ.lt h0 hk
    have rF : Reads w3 ⟨fa, fn, fc⟩ 1 (ints F) := hfr.1.below hb3
    have rFl : ∀ k, (Sl.mk fa fn fc).row k → W.heap.size ≤ k := fun k hk => by have := (hrow.lt k hk.2).1; have := HZ.out; omega
    have xF : Boxed w3 B 23 (.slice fa fn fc) := (hb3.block B hv.lt).trans hv
    have xy : Boxed w3 W.heap.size 43 (.func yf #[] yc) := (hb13.block _ q3.lt).trans q3
    have xl : Boxed w3 bl 22 (.slice ya yn yp) := (hb13.block bl b1'.lt).trans b1'
    have rY : Reads w3 ⟨ya, yn, yp⟩ 9 (encO l) := yW.below hb03
    have hBW : W.heap.size ≤ B := by have := HZ.out; omega
    have hCO : ∀ k, C k → ¬ O k := fun k hk ho => by
      rcases hCC k hk with h | h
      · exact hC k (.inr (.inr h)) ho
      · have := hOlt k ho; have := hb.size; have := HZ.out; omega
    have hlO : ¬ O bl := hC bl (.inl (.inl rfl))
    have hyO : ∀ k, (Sl.mk ya yn yp).row k → ¬ O k := fun k hk => hC k (.inr (.inl hk))
    have hJ3 : J [] O w3 := (hJ _ _ _ h0).2 _ fun k hk => hb03.block k (hOlt k hk)
    clear KM KS KL c1 c2 c3 c4 l1' l2' b1' b2' q3 hb3 hb hrow hv hfr HW yW sW
    refine (wpIn_wide (n := 9)).1 ?_
    unfold nextD
    obtain ⟨q, hq⟩ : ∃ q : Int → Bool, q = (fun x => (leftL ds).all fun j => decide (j = x) || !aheadAt l j x) := ⟨_, rfl⟩
    have hqx : ∀ x ∈ leftL ds, q x = !(F.any fun o => decide (o ≠ x) && aheadAt l o x) := fun x hx => by rw [hq]; exact next_same hS hx
    unfold nextD at hY
    rw [← hq] at hY ⊢
    clear hq
    refine wp_range (gf := g) (lb := lb) rfl eg hT (fun _ => rfl) (fun pre => J (pre.filter q)) (fun c pre O' w => c = .ret ∧ Jx (pre.filter q) O' w) (fun pre => hJ (pre.filter q)) (fun c pre O' w h => ⟨(hJx _ _ _ h.2).1, fun W' hW' => ⟨h.1, (hJx _ _ _ h.2).2 W' hW'⟩⟩)
      O hJ3 hCO
      (fun x => { tmps := List.toArray ((.func yf #[] yc : Value) :: at0 bl :: at0 bd :: at0 W.heap.size :: at0 B :: (.int .i64 x : Value) :: undef :: undef :: u8 :: u9 :: u10 :: u11 :: u12 :: (.slice ya yn yp : Value) :: (.slice sa sn sp : Value) :: (.func (.func g) #[] lb : Value) :: (.int .i64 x : Value) :: u17 :: u18 :: u19 :: u20 :: u21 :: u22 :: u23 :: u24 :: u25 :: u26 :: u27 :: u28 :: u29 :: u30 :: u31 :: u32 :: u33 :: u34 :: u35 :: u36 :: u37 :: u38 :: u39 :: u40 :: u41 :: []), defers := [] }) ?assign ?body ?done ?stop
    case assign =>
      intro l x W K hK
      gi_wp2
      exact hK
    case body =>
      rintro l' pre x O1 w hpre hk hL hj
      have hkW : Keeps O W w := hkL.trans hk (Later.refl _ _)
      have hLW : Later O W O1 := (Later.refl _ _).trans hkL.size hL
      have hxl := prefix_mem hpre
      have hx2 := (mem_left.1 hxl).1
      have hqx' := hqx x hxl
      have zF := (hk.boxed xF (fun h => by have := hOlt B h; omega)).cell
      have zy := (hk.boxed xy (fun h => by have := hOlt _ h; omega)).cell
      have zl0 := hk.boxed xl hlO
      have sF : Reads w ⟨fa, fn, fc⟩ 1 (ints F) := rF.of_row fun k h => hk.block k (rF.row_lt (by decide) h) (fun ho => by have := hOlt k ho; have := rFl k h; omega)
      have sY : Reads w ⟨ya, yn, yp⟩ 9 (encO l) := rY.of_row fun k h => hk.block k (rY.row_lt (by decide) h) (hyO k h)
      have hmix : Try.prog.follows .mixedOrders = true := by kernel_rfl
      obtain ⟨m, rfl⟩ : ∃ m : Nat, x = (m : Int) := ⟨x.toNat, by omega⟩
      have hm : m < l.length := by omega
      have HFx : Hid (∀ i, i < F.length → 0 ≤ iI F i ∧ iI F i < l.length) := Lib.hid fun i hi => by
        have := (mem_miss.1 (hS.sub (iI F i) (by rw [iI_lt hi]; exact List.getElem_mem _))).1.1
        omega
      have HY' : Hid (q m = true → ∀ w1, Keeps (fun _ => False) w w1 → CallsV Try.prog (.func yf #[] yc) #[.int .i64 m] w1 (Took J Jx ((pre ++ [(m : Int)]).filter q) O1 w1)) := Lib.hid fun hqm w1 h1 => by
        have e : (pre ++ [(m : Int)]).filter q = pre.filter q ++ [(m : Int)] := by simp [hqm]
        rw [e]
        exact hY (pre.filter q) m O1 w1 (by rw [← e]; exact hpre.filter q) (hkW.trans h1 (fun _ h => h.elim)) hLW (hJ.keeps hj h1 (fun _ _ h => h))
      have HN' : Hid (q m = false → ∀ w1, Keeps (fun _ => False) w w1 → postR (fun pre => J (pre.filter q)) (fun c pre O' w => c = .ret ∧ Jx (pre.filter q) O' w) (pre ++ [(m : Int)]) O1 w .normal { tmps := #[], defers := [] } w1) := Lib.hid fun hqm w1 h1 => by
        refine ⟨O1, h1.mono (fun _ h => h.elim), Later.refl _ _, ?_⟩
        show J ((pre ++ [(m : Int)]).filter q) O1 w1
        have e : (pre ++ [(m : Int)]).filter q = pre.filter q := by simp [hqm]
        rw [e]
        exact hJ.keeps hj h1 (fun _ _ h => h)
      have HQ := Lib.hid hqx'
      have HR := Lib.hid (show Reads w ⟨fa, fn, fc⟩ 1 (ints F) ∧ Reads w ⟨ya, yn, yp⟩ 9 (encO l) ∧ Boxed w bl 22 (.slice ya yn yp) ∧ Boxed w W.heap.size 43 (.func yf #[] yc) from ⟨sF, sY, zl0, hk.boxed xy (fun h => by have := hOlt _ h; omega)⟩)
      have hroomF := sF.room
      have hroomY := sY.room
      have hyn := sY.lenO
      dsimp only at hyn hroomF hroomY
      subst hyn hfn
      simp only [maxLen] at hroomF hroomY
      clear hqx' hY hj hpre hkW hLW sF sY zl0 zy hqx hT hCC hOlt hkL hJ3 hCO hC hyO hlO rF rFl xF xy xl rY h0 hyf hk hL hb03 hb13 hbA hxl hx2 HZ
      gi_wp2_with fail
      gi_loopw [19] (fun i W' => ∃ j : Nat, j ≤ F.length ∧ i = .int .i64 j ∧ Hid (Keeps (fun _ => False) w W' ∧ ∀ i, i < j → (decide (iI F i ≠ m) && aheadAt l (iI F i) m) = false)) (fun i _ => F.length - (intOf i).toNat)
      case atStart => exact ⟨0, Nat.zero_le _, rfl, Lib.hid ⟨Keeps.refl _ _, fun i hi => by omega⟩⟩
      case round =>
        obtain ⟨j, hjn, rfl, HI⟩ := hrel
        by_cases hlt : j < F.length
        · have gj : (j : Int) < F.length := by omega
          have tF := HR.out.1.of_row (V := wr) fun k hk => HI.out.1.block k (HR.out.1.row_lt (by decide) hk) (fun h => h)
          have tY := HR.out.2.1.of_row (V := wr) fun k hk => HI.out.1.block k (HR.out.2.1.row_lt (by decide) hk) (fun h => h)
          obtain ⟨gF, offF, eaF, cF⟩ := tF.at_ (by show 0 < F.length; omega)
          have cj := cF j (.int .i64 (iI F j)) (by simp [iI_lt hlt, hlt])
          have tl := (HI.out.1.boxed HR.out.2.2.1 (fun h => h)).cell
          obtain ⟨no, hno⟩ : ∃ no : Nat, iI F j = (no : Int) := ⟨(iI F j).toNat, by have := HFx.out j hlt; omega⟩
          have hnl : no < l.length := by have := HFx.out j hlt; omega
          obtain ⟨b, off, ea, hop⟩ := tY.opr (ith_lt hnl)
          obtain ⟨b', off', ea', hopx⟩ := tY.opr (ith_lt hm)
          dsimp only at ea ea' eaF
          rw [ea] at ea'
          simp only [Option.some.injEq, Addr.mk.injEq] at ea'
          obtain ⟨rfl, rfl, -⟩ := ea'
          subst ea eaF
          have gn : (no : Int) < l.length := by omega
          have gm : (m : Int) < l.length := by omega
          have KA := Lib.hid fun V => ahead_any (ith l no) (ith l m) V
          obtain ⟨c, hc⟩ : ∃ c, c = ahd (ith l no) (ith l m) := ⟨_, rfl⟩
          have HCx : Hid (aheadAt l (iI F j) m = c) := Lib.hid (by rw [hno, hc]; rfl)
          rw [← hc] at KA
          clear hc tF tY cF
          rw [hno] at cj
          have HNO := Lib.hid hno
          clear hno
          by_cases e : no = m
          · subst e
            have hne : ((no : Int) != (no : Int)) = false := by simp
            have S0 := (show AtC bl (.slice (some ⟨b, off, none⟩) l.length yp) b (off + no * 9) (off + no * 9) (ith l no) (ith l no) wr from ⟨HI.out.1.boxed HR.out.2.2.1 (fun h => h), hop, hop⟩).below (below_drew (Below.refl _ _))
            have HJ2 : Hid (Keeps (fun _ => False) w wr.drew ∧ ∀ i, i < j + 1 → (decide (iI F i ≠ no) && aheadAt l (iI F i) no) = false) := Lib.hid ⟨HI.out.1.drew, fun i hi => by
              by_cases h : i = j
              · subst h; rw [HNO.out]; simp
              · exact HI.out.2 i (by omega)⟩
            clear hop hopx KA HCx
            gi_wp2_with fail
            refine wpIn_region_held_round (S := fun W => W.cell? ⟨bl, 0, none⟩ = some (.slice (some ⟨b, off, none⟩) l.length yp) ∧ W.cell? ⟨b, off + no * 9, none⟩ = some (.int .i64 (ith l no).t) ∧ W.cell? ⟨b, off + no * 9 + 1, none⟩ = some (.int .i64 (ith l no).c.op) ∧ W.cell? ⟨b, off + no * 9 + 2, none⟩ = some (.int .u32 (ith l no).c.key) ∧ W.cell? ⟨b, off + no * 9 + 3, none⟩ = some (.int .u32 (ith l no).c.val) ∧ W.cell? ⟨b, off + no * 9 + 4, none⟩ = some (.int .i64 (ith l no).a.op) ∧ W.cell? ⟨b, off + no * 9 + 5, none⟩ = some (.int .u32 (ith l no).a.key) ∧ W.cell? ⟨b, off + no * 9 + 6, none⟩ = some (.int .u32 (ith l no).a.val) ∧ W.cell? ⟨b, off + no * 9 + 7, none⟩ = some (.int .i64 (ith l no).f) ∧ W.cell? ⟨b, off + no * 9 + 8, none⟩ = some (.int .i64 (ith l no).o) ∧ W.cell? ⟨b, off + no * 9, none⟩ = some (.int .i64 (ith l no).t) ∧ W.cell? ⟨b, off + no * 9 + 1, none⟩ = some (.int .i64 (ith l no).c.op) ∧ W.cell? ⟨b, off + no * 9 + 2, none⟩ = some (.int .u32 (ith l no).c.key) ∧ W.cell? ⟨b, off + no * 9 + 3, none⟩ = some (.int .u32 (ith l no).c.val) ∧ W.cell? ⟨b, off + no * 9 + 4, none⟩ = some (.int .i64 (ith l no).a.op) ∧ W.cell? ⟨b, off + no * 9 + 5, none⟩ = some (.int .u32 (ith l no).a.key) ∧ W.cell? ⟨b, off + no * 9 + 6, none⟩ = some (.int .u32 (ith l no).a.val) ∧ W.cell? ⟨b, off + no * 9 + 7, none⟩ = some (.int .i64 (ith l no).f) ∧ W.cell? ⟨b, off + no * 9 + 8, none⟩ = some (.int .i64 (ith l no).o)) hmix (by intro i o hi c hc; match i with | 0 | 1 | 2 | 3 | 4 | 5 | 6 | 7 | 8 | 9 | 10 | 11 | 12 | 13 => (simp at hi; subst hi; cases hc) | (k + 14) => simp at hi) ?_ (fun hHeld => ?_)
            focus exact AtC.cells S0
            refine wpAnyH_take (i := 0) (oi := _) (v := ?_) rfl (by kernel_rfl) (by kernel_rfl) (by kernel_rfl) (fun _ _ _ h => h) (Or.inl ⟨by rfl, ?_⟩) (by assumption) ?_
            rotate_left
            focus (intro w hSw; (try dsimp only at hSw); go_simp; (try with_reducible rfl))
            simp only [List.getElem_toArray, List.getElem_cons_succ, List.getElem_cons_zero, Act.put, List.setIfInBounds_toArray, List.set_cons_zero, List.set_cons_succ]
            refine wpAnyH_take (i := 1) (oi := _) (v := ?_) rfl (by kernel_rfl) (by kernel_rfl) (by kernel_rfl) (fun _ _ _ h => h) (Or.inl ⟨by rfl, ?_⟩) (by assumption) ?_
            rotate_left
            focus (intro w hSw; (try dsimp only at hSw); go_simp; (try with_reducible rfl))
            simp only [List.getElem_toArray, List.getElem_cons_succ, List.getElem_cons_zero, Act.put, List.setIfInBounds_toArray, List.set_cons_zero, List.set_cons_succ]
            refine wpAnyH_take (i := 2) (oi := _) (v := ?_) rfl (by kernel_rfl) (by kernel_rfl) (by kernel_rfl) (fun _ _ _ h => h) (Or.inl ⟨by rfl, ?_⟩) (by assumption) ?_
            rotate_left
            focus (intro w hSw; (try dsimp only at hSw); go_simp; (try with_reducible rfl))
            simp only [List.getElem_toArray, List.getElem_cons_succ, List.getElem_cons_zero, Act.put, List.setIfInBounds_toArray, List.set_cons_zero, List.set_cons_succ]
            refine wpAnyH_take (i := 3) (oi := _) (v := ?_) rfl (by kernel_rfl) (by kernel_rfl) (by kernel_rfl) (fun _ _ _ h => h) (Or.inl ⟨by rfl, ?_⟩) (by assumption) ?_
            rotate_left
            focus (intro w hSw; (try dsimp only at hSw); go_simp; (try with_reducible rfl))
            simp only [List.getElem_toArray, List.getElem_cons_succ, List.getElem_cons_zero, Act.put, List.setIfInBounds_toArray, List.set_cons_zero, List.set_cons_succ]
            refine wpAnyH_take (i := 4) (oi := _) (v := undef) rfl (by kernel_rfl) (by kernel_rfl) (by kernel_rfl) (fun _ _ _ h => h) (Or.inr ⟨by rfl, rfl⟩) (by assumption) ?_
            simp only [List.getElem_toArray, List.getElem_cons_succ, List.getElem_cons_zero, Act.put, List.setIfInBounds_toArray, List.set_cons_zero, List.set_cons_succ]
            refine wpAnyH_take (i := 5) (oi := _) (v := undef) rfl (by kernel_rfl) (by kernel_rfl) (by kernel_rfl) (fun _ _ _ h => h) (Or.inr ⟨by rfl, rfl⟩) (by assumption) ?_
            simp only [List.getElem_toArray, List.getElem_cons_succ, List.getElem_cons_zero, Act.put, List.setIfInBounds_toArray, List.set_cons_zero, List.set_cons_succ]
            refine wpAnyH_take (i := 6) (oi := _) (v := undef) rfl (by kernel_rfl) (by kernel_rfl) (by kernel_rfl) (fun _ _ _ h => h) (Or.inr ⟨by rfl, rfl⟩) (by assumption) ?_
            simp only [List.getElem_toArray, List.getElem_cons_succ, List.getElem_cons_zero, Act.put, List.setIfInBounds_toArray, List.set_cons_zero, List.set_cons_succ]
            refine wpAnyH_take (i := 7) (oi := _) (v := undef) rfl (by kernel_rfl) (by kernel_rfl) (by kernel_rfl) (fun _ _ _ h => h) (Or.inr ⟨by rfl, rfl⟩) (by assumption) ?_
            simp only [List.getElem_toArray, List.getElem_cons_succ, List.getElem_cons_zero, Act.put, List.setIfInBounds_toArray, List.set_cons_zero, List.set_cons_succ]
            refine wpAnyH_take (i := 8) (oi := _) (v := undef) rfl (by kernel_rfl) (by kernel_rfl) (by kernel_rfl) (fun _ _ _ h => h) (Or.inr ⟨by rfl, rfl⟩) (by assumption) ?_
            simp only [List.getElem_toArray, List.getElem_cons_succ, List.getElem_cons_zero, Act.put, List.setIfInBounds_toArray, List.set_cons_zero, List.set_cons_succ]
            refine wpAnyH_take (i := 9) (oi := _) (v := undef) rfl (by kernel_rfl) (by kernel_rfl) (by kernel_rfl) (fun _ _ _ h => h) (Or.inr ⟨by rfl, rfl⟩) (by assumption) ?_
            simp only [List.getElem_toArray, List.getElem_cons_succ, List.getElem_cons_zero, Act.put, List.setIfInBounds_toArray, List.set_cons_zero, List.set_cons_succ]
            refine wpAnyH_take (i := 10) (oi := _) (v := undef) rfl (by kernel_rfl) (by kernel_rfl) (by kernel_rfl) (fun _ _ _ h => h) (Or.inr ⟨by rfl, rfl⟩) (by assumption) ?_
            simp only [List.getElem_toArray, List.getElem_cons_succ, List.getElem_cons_zero, Act.put, List.setIfInBounds_toArray, List.set_cons_zero, List.set_cons_succ]
            refine wpAnyH_take (i := 11) (oi := _) (v := undef) rfl (by kernel_rfl) (by kernel_rfl) (by kernel_rfl) (fun _ _ _ h => h) (Or.inr ⟨by rfl, rfl⟩) (by assumption) ?_
            simp only [List.getElem_toArray, List.getElem_cons_succ, List.getElem_cons_zero, Act.put, List.setIfInBounds_toArray, List.set_cons_zero, List.set_cons_succ]
            refine wpAnyH_take (i := 12) (oi := _) (v := undef) rfl (by kernel_rfl) (by kernel_rfl) (by kernel_rfl) (fun _ _ _ h => h) (Or.inr ⟨by rfl, rfl⟩) (by assumption) ?_
            simp only [List.getElem_toArray, List.getElem_cons_succ, List.getElem_cons_zero, Act.put, List.setIfInBounds_toArray, List.set_cons_zero, List.set_cons_succ]
            refine wpAnyH_take (i := 13) (oi := _) (v := ?_) rfl (by kernel_rfl) (by kernel_rfl) (by kernel_rfl) (fun _ _ _ h => h) (Or.inl ⟨by rfl, ?_⟩) (by assumption) ?_
            rotate_left
            focus (intro w hSw; (try dsimp only at hSw); go_simp; (try with_reducible rfl))
            simp only [List.getElem_toArray, List.getElem_cons_succ, List.getElem_cons_zero, Act.put, List.setIfInBounds_toArray, List.set_cons_zero, List.set_cons_succ]
            refine wpAnyH_done (by kernel_rfl) ?_ _
            simp only [OnlyN]
            gi_wp2_with fail
            go_roundw
            case rel => exact ⟨j + 1, by omega, by go_num, HJ2⟩
            case measure => simp [intOf]; omega
          · have hne : ((no : Int) != (m : Int)) = true := by simp; omega
            have SA : AtC bl (.slice (some ⟨b, off, none⟩) l.length yp) b (off + no * 9) (off + m * 9) (ith l no) (ith l m) wr := ⟨HI.out.1.boxed HR.out.2.2.1 (fun h => h), hop, hopx⟩
            have S0 := SA.below (below_drew (Below.refl _ _))
            clear hop hopx SA
            generalize ith l no = e2 at *
            generalize ith l m = e1 at *
            obtain ⟨vt, ⟨v1, v2, v3⟩, ⟨v4, v5, v6⟩, vf, vo⟩ := e2
            obtain ⟨zt0, ⟨z1, z2, z3⟩, ⟨z4, z5, z6⟩, zf, zo0⟩ := e1
            dsimp only [Opr.v] at *
            gi_wp2_with fail
            refine wpIn_region_held_round (S := fun W => W.cell? ⟨bl, 0, none⟩ = some (.slice (some ⟨b, off, none⟩) l.length yp) ∧ W.cell? ⟨b, off + no * 9, none⟩ = some (.int .i64 vt) ∧ W.cell? ⟨b, off + no * 9 + 1, none⟩ = some (.int .i64 v1) ∧ W.cell? ⟨b, off + no * 9 + 2, none⟩ = some (.int .u32 v2) ∧ W.cell? ⟨b, off + no * 9 + 3, none⟩ = some (.int .u32 v3) ∧ W.cell? ⟨b, off + no * 9 + 4, none⟩ = some (.int .i64 v4) ∧ W.cell? ⟨b, off + no * 9 + 5, none⟩ = some (.int .u32 v5) ∧ W.cell? ⟨b, off + no * 9 + 6, none⟩ = some (.int .u32 v6) ∧ W.cell? ⟨b, off + no * 9 + 7, none⟩ = some (.int .i64 vf) ∧ W.cell? ⟨b, off + no * 9 + 8, none⟩ = some (.int .i64 vo) ∧ W.cell? ⟨b, off + m * 9, none⟩ = some (.int .i64 zt0) ∧ W.cell? ⟨b, off + m * 9 + 1, none⟩ = some (.int .i64 z1) ∧ W.cell? ⟨b, off + m * 9 + 2, none⟩ = some (.int .u32 z2) ∧ W.cell? ⟨b, off + m * 9 + 3, none⟩ = some (.int .u32 z3) ∧ W.cell? ⟨b, off + m * 9 + 4, none⟩ = some (.int .i64 z4) ∧ W.cell? ⟨b, off + m * 9 + 5, none⟩ = some (.int .u32 z5) ∧ W.cell? ⟨b, off + m * 9 + 6, none⟩ = some (.int .u32 z6) ∧ W.cell? ⟨b, off + m * 9 + 7, none⟩ = some (.int .i64 zf) ∧ W.cell? ⟨b, off + m * 9 + 8, none⟩ = some (.int .i64 zo0)) hmix (by intro i o hi c hc; match i with | 0 | 1 | 2 | 3 | 4 | 5 | 6 | 7 | 8 | 9 | 10 | 11 | 12 | 13 => (simp at hi; subst hi; cases hc) | (k + 14) => simp at hi) ?_ (fun hHeld => ?_)
            focus exact AtC.cells S0
            refine wpAnyH_take (i := 0) (oi := _) (v := ?_) rfl (by kernel_rfl) (by kernel_rfl) (by kernel_rfl) (fun _ _ _ h => h) (Or.inl ⟨by rfl, ?_⟩) (by assumption) ?_
            rotate_left
            focus (intro w hSw; (try dsimp only at hSw); go_simp; (try with_reducible rfl))
            simp only [List.getElem_toArray, List.getElem_cons_succ, List.getElem_cons_zero, Act.put, List.setIfInBounds_toArray, List.set_cons_zero, List.set_cons_succ]
            refine wpAnyH_take (i := 1) (oi := _) (v := ?_) rfl (by kernel_rfl) (by kernel_rfl) (by kernel_rfl) (fun _ _ _ h => h) (Or.inl ⟨by rfl, ?_⟩) (by assumption) ?_
            rotate_left
            focus (intro w hSw; (try dsimp only at hSw); go_simp; (try with_reducible rfl))
            simp only [List.getElem_toArray, List.getElem_cons_succ, List.getElem_cons_zero, Act.put, List.setIfInBounds_toArray, List.set_cons_zero, List.set_cons_succ]
            refine wpAnyH_take (i := 2) (oi := _) (v := ?_) rfl (by kernel_rfl) (by kernel_rfl) (by kernel_rfl) (fun _ _ _ h => h) (Or.inl ⟨by rfl, ?_⟩) (by assumption) ?_
            rotate_left
            focus (intro w hSw; (try dsimp only at hSw); go_simp; (try with_reducible rfl))
            simp only [List.getElem_toArray, List.getElem_cons_succ, List.getElem_cons_zero, Act.put, List.setIfInBounds_toArray, List.set_cons_zero, List.set_cons_succ]
            refine wpAnyH_take (i := 3) (oi := _) (v := ?_) rfl (by kernel_rfl) (by kernel_rfl) (by kernel_rfl) (fun _ _ _ h => h) (Or.inl ⟨by rfl, ?_⟩) (by assumption) ?_
            rotate_left
            focus (intro w hSw; (try dsimp only at hSw); go_simp; (try with_reducible rfl))
            simp only [List.getElem_toArray, List.getElem_cons_succ, List.getElem_cons_zero, Act.put, List.setIfInBounds_toArray, List.set_cons_zero, List.set_cons_succ]
            refine wpAnyH_take (i := 4) (oi := _) (v := ?_) rfl (by kernel_rfl) (by kernel_rfl) (by kernel_rfl) (fun _ _ _ h => h) (Or.inl ⟨by rfl, ?_⟩) (by assumption) ?_
            rotate_left
            focus (intro w hSw; (try dsimp only at hSw); go_simp; (try with_reducible rfl))
            simp only [List.getElem_toArray, List.getElem_cons_succ, List.getElem_cons_zero, Act.put, List.setIfInBounds_toArray, List.set_cons_zero, List.set_cons_succ]
            refine wpAnyH_take (i := 5) (oi := _) (v := ?_) rfl (by kernel_rfl) (by kernel_rfl) (by kernel_rfl) (fun _ _ _ h => h) (Or.inl ⟨by rfl, ?_⟩) (by assumption) ?_
            rotate_left
            focus (intro w hSw; (try dsimp only at hSw); go_simp; (try with_reducible rfl))
            simp only [List.getElem_toArray, List.getElem_cons_succ, List.getElem_cons_zero, Act.put, List.setIfInBounds_toArray, List.set_cons_zero, List.set_cons_succ]
            refine wpAnyH_take (i := 6) (oi := _) (v := ?_) rfl (by kernel_rfl) (by kernel_rfl) (by kernel_rfl) (fun _ _ _ h => h) (Or.inl ⟨by rfl, ?_⟩) (by assumption) ?_
            rotate_left
            focus (intro w hSw; (try dsimp only at hSw); go_simp; (try with_reducible rfl))
            simp only [List.getElem_toArray, List.getElem_cons_succ, List.getElem_cons_zero, Act.put, List.setIfInBounds_toArray, List.set_cons_zero, List.set_cons_succ]
            refine wpAnyH_take (i := 7) (oi := _) (v := ?_) rfl (by kernel_rfl) (by kernel_rfl) (by kernel_rfl) (fun _ _ _ h => h) (Or.inl ⟨by rfl, ?_⟩) (by assumption) ?_
            rotate_left
            focus (intro w hSw; (try dsimp only at hSw); go_simp; (try with_reducible rfl))
            simp only [List.getElem_toArray, List.getElem_cons_succ, List.getElem_cons_zero, Act.put, List.setIfInBounds_toArray, List.set_cons_zero, List.set_cons_succ]
            refine wpAnyH_take (i := 8) (oi := _) (v := ?_) rfl (by kernel_rfl) (by kernel_rfl) (by kernel_rfl) (fun _ _ _ h => h) (Or.inl ⟨by rfl, ?_⟩) (by assumption) ?_
            rotate_left
            focus (intro w hSw; (try dsimp only at hSw); go_simp; (try with_reducible rfl))
            simp only [List.getElem_toArray, List.getElem_cons_succ, List.getElem_cons_zero, Act.put, List.setIfInBounds_toArray, List.set_cons_zero, List.set_cons_succ]
            refine wpAnyH_take (i := 9) (oi := _) (v := ?_) rfl (by kernel_rfl) (by kernel_rfl) (by kernel_rfl) (fun _ _ _ h => h) (Or.inl ⟨by rfl, ?_⟩) (by assumption) ?_
            rotate_left
            focus (intro w hSw; (try dsimp only at hSw); go_simp; (try with_reducible rfl))
            simp only [List.getElem_toArray, List.getElem_cons_succ, List.getElem_cons_zero, Act.put, List.setIfInBounds_toArray, List.set_cons_zero, List.set_cons_succ]
            refine wpAnyH_take (i := 10) (oi := _) (v := ?_) rfl (by kernel_rfl) (by kernel_rfl) (by kernel_rfl) (fun _ _ _ h => h) (Or.inl ⟨by rfl, ?_⟩) (by assumption) ?_
            rotate_left
            focus (intro w hSw; (try dsimp only at hSw); go_simp; (try with_reducible rfl))
            simp only [List.getElem_toArray, List.getElem_cons_succ, List.getElem_cons_zero, Act.put, List.setIfInBounds_toArray, List.set_cons_zero, List.set_cons_succ]
            refine wpAnyH_take (i := 11) (oi := _) (v := ?_) rfl (by kernel_rfl) (by kernel_rfl) (by kernel_rfl) (fun _ _ _ h => h) (Or.inl ⟨by rfl, ?_⟩) (by assumption) ?_
            rotate_left
            focus (intro w hSw; (try dsimp only at hSw); go_simp; (try with_reducible rfl))
            simp only [List.getElem_toArray, List.getElem_cons_succ, List.getElem_cons_zero, Act.put, List.setIfInBounds_toArray, List.set_cons_zero, List.set_cons_succ]
            refine wpAnyH_ready (rs := [12]) (by kernel_rfl) (by simp) ?_
            refine AllReadyH.cons (o := _) rfl (fun K hK => ?_) AllReadyH.nil
            go_simp
            refine (KA.out _).mono ?_
            rintro e V' ⟨rfl, hb⟩
            have S' := AtC.below (by assumption) hb
            (try go_wp2_with fail)
            refine hK.out _ _ ?_ (fun hHeld => ?_)
            focus exact AtC.cells S'
            clear hK K
            (try simp only [List.getElem_toArray, List.getElem_cons_succ, List.getElem_cons_zero, Act.put, List.setIfInBounds_toArray, List.set_cons_zero, List.set_cons_succ])
            refine wpAnyH_take (i := 13) (oi := _) (v := ?_) rfl (by kernel_rfl) (by kernel_rfl) (by kernel_rfl) (fun _ _ _ h => h) (Or.inl ⟨by rfl, ?_⟩) (by assumption) ?_
            rotate_left
            focus (intro w hSw; (try dsimp only at hSw); go_simp; (try with_reducible rfl))
            simp only [List.getElem_toArray, List.getElem_cons_succ, List.getElem_cons_zero, Act.put, List.setIfInBounds_toArray, List.set_cons_zero, List.set_cons_succ]
            refine wpAnyH_done (by kernel_rfl) ?_ _
            simp only [OnlyN]
            have hKV : Keeps (fun _ => False) w V' := (HI.out.1.drew).trans (Keeps.of_below (O := fun _ => False) hb) (Later.refl _ _)
            cases c with
            | true =>
              have hqf : q m = false := by
                rw [HQ.out]
                simp only [Bool.not_eq_false', List.any_eq_true]
                exact ⟨iI F j, by rw [iI_lt hlt]; exact List.getElem_mem _, by rw [HCx.out, HNO.out]; simp; omega⟩
              have HE := HN'.out hqf V' hKV
              gi_wp2
              exact HE
            | false =>
              have HJ2 : Hid (Keeps (fun _ => False) w V' ∧ ∀ i, i < j + 1 → (decide (iI F i ≠ m) && aheadAt l (iI F i) m) = false) := Lib.hid ⟨hKV, fun i hi => by
                by_cases h : i = j
                · subst h; rw [HCx.out]; simp
                · exact HI.out.2 i (by omega)⟩
              gi_wp2_with fail
              go_roundw
              case rel => exact ⟨j + 1, by omega, by go_num, HJ2⟩
              case measure => simp [intOf]; omega
        · obtain rfl : j = F.length := by omega
          have hqt : q m = true := by
            rw [HQ.out]
            simp only [Bool.not_eq_true', List.any_eq_false]
            intro o ho
            obtain ⟨i, hi, rfl⟩ := List.getElem_of_mem ho
            have := HI.out.2 i hi
            rw [iI_lt hi] at this
            simpa using this
          have tz := (HI.out.1.boxed HR.out.2.2.2 (fun h => h)).cell
          have hcy := HY'.out hqt wr HI.out.1
          gi_wp2_with ((with_reducible refine wpListIn_callV_round (f := .tmp 38) (y := .func yf #[] yc) (args := #[.int .i64 m]) rfl rfl ?_ ?_ ?_ hcy ?_); rfl; rfl; simp [go_sem]; (rintro e w' ⟨O2, hk', hL', (⟨rfl, hJ'⟩ | ⟨rfl, hJ'⟩)⟩) <;> (refine ⟨_, rfl, ?_⟩))
          all_goals
            have hk2 : Keeps O1 w w' := ((HI.out.1).mono (fun _ h => h.elim)).trans hk' (Later.refl _ _)
            have hL2 : Later O1 w O2 := fun k h => (hL' k h).imp id (Nat.le_trans HI.out.1.size)
          · exact ⟨O2, hk2, hL2, hJ'⟩
          · exact ⟨O2, hk2, hL2, rfl, hJ'⟩
    case done =>
      rintro D O1 w hD hnD hk hL hj hK
      gi_wp2
      refine ⟨by simp, .inl ⟨_, _, rfl, run_takeDeferred hK, ?_⟩⟩
      exact ⟨_, results_none rfl _ _ _, ⟨_, rfl⟩, O1, (hkL.trans hk (Later.refl _ _)).putObj (.inr (by have := hkL.size; omega)) _, (Later.refl _ _).trans hkL.size hL, .inl (hJ.putObj hj hnD _)⟩
    case stop =>
      rintro D c pre O1 w hD hnD hk hL hpre ⟨rfl, hj⟩ hK
      gi_wp2
      refine ⟨by simp, .inl ⟨_, _, rfl, run_takeDeferred hK, ?_⟩⟩
      exact ⟨_, results_none rfl _ _ _, ⟨_, rfl⟩, O1, (hkL.trans hk (Later.refl _ _)).putObj (.inr (by have := hkL.size; omega)) _, (Later.refl _ _).trans hkL.size hL, .inr ⟨_, hpre.filter q, hJx.putObj hj hnD _⟩⟩
end Go.Proofs.Ytmjbccimijnceaa
