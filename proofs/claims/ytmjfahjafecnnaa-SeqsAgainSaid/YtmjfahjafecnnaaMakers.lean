/- What the makers of sequences hand back; the chapter example. -/
import Derived.Test.YtmjfahjafecnnaaLists
namespace Go.Proofs.Ytmjfahjafecnnaa
open Go.RowKit Go.Shelf
set_option linter.unusedVariables false
attribute [local go_sem] Oper.semAt_some wide_fn

/-- What a maker of sequences hands back: a sequence that tells xs, and leans on blocks of its sources, or new ones; nothing that lay has turned. -/
def Makes (Src : Nat → Prop) (xs : List Int) (w : World) (e : Ending) (w' : World) : Prop :=
  ∃ g lb C, e = .returned (.func (.func g) #[] lb) ∧ (∀ args w, (callFunc g args).run Try.prog w = .ok (.enter g args) w) ∧ Tells Try.prog encI (.func (.func g) #[] lb) C xs w' ∧ (∀ k, C k → Src k ∨ w.heap.size ≤ k) ∧ Below w.heap.size w w'

theorem count_makes (f t : Int) (w : World) (hf : InR f) (ht : InR t) : Calls Try.prog 10 #[.int .i64 f, .int .i64 t] w (Makes (fun _ => False) (ups f (t - f).toNat) w) := by
  go_enter Try.func10, Try.ntmps10
  go_wp2
  go_ret
  refine ⟨_, _, _, rfl, enters_of Try.func26 (by kernel_rfl) rfl, count_tells f t w.heap.size (w.heap.size + 1) _ ((Boxed.new w 3 _).alloc _) ?_ hf.1 ht.2, fun k hk => .inr (by omega), ((Below.refl _ _).alloc (Nat.le_refl _) _).alloc (by simp) _⟩
  have := Boxed.new (w.alloc (.cells #[.int .i64 f] 3)) 3 (.int .i64 t); rw [World.size_alloc] at this; exact this

theorem TellsN.below {s : Value} {C : Nat → Prop} {xs : List Int} {w w' : World} (h : TellsN s C xs w) (hb : Below w.heap.size w w') : TellsN s C xs w' := h.elim .inl fun h => .inr (h.below hb)
theorem TellsN.func {s : Value} {C : Nat → Prop} {xs : List Int} {w : World} (h : TellsN s C xs w) : s = .nilFunc ∨ ∃ fn caps, s = .func fn #[] caps := h.elim (fun h => .inl h.1) (fun h => .inr h.func)

theorem first_makes (s : Value) (C : Nat → Prop) (xs : List Int) (n : Int) (w : World) (hs : TellsN s C xs w) (hn : InR n) : Calls Try.prog 11 #[s, .int .i64 n] w (Makes C (xs.take n.toNat) w) := by
  have hb : Below w.heap.size w ((w.alloc (.cells #[s] 27)).alloc (.cells #[.int .i64 n] 3)) := ((Below.refl _ _).alloc (Nat.le_refl _) _).alloc (by simp) _
  have b2 : Boxed ((w.alloc (.cells #[s] 27)).alloc (.cells #[.int .i64 n] 3)) (w.heap.size + 1) 3 (.int .i64 n) := by
    have := Boxed.new (w.alloc (.cells #[s] 27)) 3 (.int .i64 n); rw [World.size_alloc] at this; exact this
  have hT := first_tells s C xs n (w.heap.size + 1) w.heap.size _ (hs.below hb) b2 ((Boxed.new w 27 _).alloc _) hn.1 hn.2
  rcases hs.func with rfl | ⟨fn, caps, rfl⟩
  all_goals
    clear hs
    go_enter Try.func11, Try.ntmps11
    go_wp2
    go_ret
    exact ⟨_, _, _, rfl, enters_of Try.func27 (by kernel_rfl) rfl, hT, fun k hk => (by rcases hk with ⟨_, hk⟩ | hk | hk; exact .inl hk; exact .inr (by omega); exact .inr (by omega)), hb⟩

theorem only_makes (s kv : Value) (C Ck : Nat → Prop) (xs : List Int) (p : Int → Bool) (w : World) (hs : TellsN s C xs w) (hkv : Gives kv Ck (fun x => .bool (p x)) w) (hR : ∀ x ∈ xs, InR x) : Calls Try.prog 13 #[s, kv] w (Makes (fun k => C k ∨ Ck k) (xs.filter p) w) := by
  have hb : Below w.heap.size w ((w.alloc (.cells #[s] 27)).alloc (.cells #[kv] 31)) := ((Below.refl _ _).alloc (Nat.le_refl _) _).alloc (by simp) _
  have b2 : Boxed ((w.alloc (.cells #[s] 27)).alloc (.cells #[kv] 31)) (w.heap.size + 1) 31 kv := by
    have := Boxed.new (w.alloc (.cells #[s] 27)) 31 kv; rw [World.size_alloc] at this; exact this
  have hT := only_tells s kv C Ck xs p (w.heap.size + 1) w.heap.size _ (hs.below hb) (hkv.later (fun k hk => hb.block k (hkv.lt k hk))) b2 ((Boxed.new w 27 _).alloc _) hR
  obtain ⟨kf, kc, rfl, -, -⟩ := hkv.func
  rcases hs.func with rfl | ⟨fn, caps, rfl⟩
  all_goals
    clear hs
    go_enter Try.func13, Try.ntmps13
    go_wp2
    go_ret
    exact ⟨_, _, _, rfl, enters_of Try.func28 (by kernel_rfl) rfl, hT, fun k hk => (by rcases hk with ⟨_, hk⟩ | hk | hk | hk; exact .inl (.inl hk); exact .inl (.inr hk); exact .inr (by omega); exact .inr (by omega)), hb⟩

set_option maxRecDepth 100000 in
set_option maxHeartbeats 1000000 in
/-- Each, without a function: nothing is told. -/
theorem each_nil (s : Value) (bk bs : Nat) (W0 : World) (hbk : Boxed W0 bk 35 .nilFunc) :
    Tells Try.prog encI (.func (.func 31) #[] #[at0 bk, at0 bs]) (fun k => k = bk) [] W0 := by
  refine ⟨⟨_, _, rfl⟩, fun k hk => by subst hk; exact hbk.lt, ?_⟩
  intro W hW y J Jx O hyf hJ hJx hY hC h0
  have b1 : Boxed W bk 35 .nilFunc := (hW bk rfl).trans hbk
  have c1 := b1.cell
  have l1 := b1.lt
  have qn : ∀ w, (binOp .eql 35 .nilFunc .nilFunc).run Try.prog w = .ok (.bool true) w := fun _ => by kernel_rfl
  refine callsV_func (enters_of Try.func31 (by kernel_rfl) rfl) ?_
  refine (callsIn_wide (n := 9)).1 ?_
  refine callsIn_of_wp_marks Try.func31 rfl trivial ?_ rfl
  simp only [Try.ntmps31, List.size_toArray, List.length_cons, List.length_nil, Nat.reduceAdd, Nat.reduceSub, Array.replicate_succ, Array.replicate_zero, List.push_toArray, List.append_toArray, List.nil_append, List.cons_append]
  obtain ⟨yf, yc, rfl⟩ := hyf.func
  have hkA : Keeps O W (W.alloc (.cells #[.func yf #[] yc] 31)) := (Keeps.refl _ _).alloc _
  gi_wp2
  exact ⟨_, results_none rfl _ _ _, ⟨_, rfl⟩, O, hkA, Later.refl _ _, .inl (hJ.alloc h0 _)⟩

theorem each_nil_makes (s : Value) (w : World) (hs : s = .nilFunc ∨ ∃ fn caps, s = .func fn #[] caps) : Calls Try.prog 15 #[s, .nilFunc] w (Makes (fun _ => False) [] w) := by
  have hb : Below w.heap.size w ((w.alloc (.cells #[s] 27)).alloc (.cells #[.nilFunc] 35)) := ((Below.refl _ _).alloc (Nat.le_refl _) _).alloc (by simp) _
  have b2 : Boxed ((w.alloc (.cells #[s] 27)).alloc (.cells #[.nilFunc] 35)) (w.heap.size + 1) 35 .nilFunc := by
    have := Boxed.new (w.alloc (.cells #[s] 27)) 35 .nilFunc; rw [World.size_alloc] at this; exact this
  have hT := each_nil s (w.heap.size + 1) w.heap.size _ b2
  rcases hs with rfl | ⟨fn, caps, rfl⟩
  all_goals
    go_enter Try.func15, Try.ntmps15
    go_wp2
    go_ret
    exact ⟨_, _, _, rfl, enters_of Try.func31 (by kernel_rfl) rfl, hT, fun k hk => .inr (by omega), hb⟩

/-- A list that is laid on the spot. -/
theorem reads_new (w : World) (xs : List Int) (h0 : 0 < xs.length) (hl : xs.length ≤ 1000) : Reads (w.alloc (.cells (ints xs).toArray 3)) (.slice (some ⟨w.heap.size, 0, none⟩) xs.length xs.length) xs := by
  refine .inr ⟨_, _, _, rfl, h0, Nat.le_refl _, by omega, fun i hi => ?_⟩
  have hh : (w.alloc (.cells (ints xs).toArray 3)).heap[w.heap.size]? = some (.cells (ints xs).toArray 3) := World.alloc_heap_new w _
  rw [show 0 + i = i by omega, cell_of_row _ _ i _ 3 (0, 0) hh]
  simp [hi]

set_option maxHeartbeats 1000000 in
/-- The chapter's example. -/
theorem lives_any (w : World) : Calls Try.prog 7 #[] w fun e w' => e = .returned (.bool true) ∧ Below w.heap.size w w' := by
  go_enter Try.func7, Try.ntmps7
  go_wp2_with (first
    | (go_at_call 10; refine (count_makes 2 9 _ ⟨by omega, by omega⟩ ⟨by omega, by omega⟩).mono ?_; rintro e w1 ⟨g1, lb1, C1, rfl, -, hT1, -, hb1⟩)
    | (go_at_call 11; refine (first_makes _ C1 _ 3 _ (.inr hT1) ⟨by omega, by omega⟩).mono ?_; rintro e w2 ⟨g2, lb2, C2, rfl, -, hT2, -, hb2⟩)
    | (go_at_call 9; refine (list_any _ C2 _ _ (.inr hT2) (by decide)).mono ?_; rintro e w3 ⟨v3, rfl, hr3, hb3⟩)
    | (go_at_call 8; refine (same_any v3 _ [2, 3, 4] [2, 3, 4] _ (reads_below (reads_row (xs := [2, 3, 4]) hr3) ((Below.refl _ _).alloc (Nat.le_refl _) _)) (reads_new w3 [2, 3, 4] (by simp) (by simp)) (by simp) (by simp)).mono ?_; rintro e w4 ⟨rfl, n4, rfl⟩))
  go_ret
  refine ⟨rfl, ?_⟩
  have hb4 : Below w3.heap.size w3 (w3.alloc (.cells #[.int .i64 2, .int .i64 3, .int .i64 4] 3)) := (Below.refl _ _).alloc (Nat.le_refl _) _
  exact ((hb1.trans (hb2.mono hb1.size)).trans (hb3.mono (Nat.le_trans hb1.size hb2.size))).trans (below_drewN (hb4.mono (Nat.le_trans hb1.size (Nat.le_trans hb2.size hb3.size))) n4)

/-- A variable that is owned alone. -/
def boxJ (b : Nat) (t : TypeId) (P : List Int → Value → Prop) (pre : List Int) (O : Nat → Prop) (W : World) : Prop := ∃ v, O = (fun k => k = b) ∧ Boxed W b t v ∧ P pre v
theorem boxJ_fits (b : Nat) (t : TypeId) (P : List Int → Value → Prop) : Fits (boxJ b t P) := by
  rintro s O W ⟨v, rfl, h, hp⟩
  exact ⟨fun k hk => by subst hk; exact h.lt, fun W' hW => ⟨v, rfl, (hW _ rfl).trans h, hp⟩⟩

set_option maxRecDepth 100000 in
set_option maxHeartbeats 1000000 in
theorem some_any (s kv : Value) (C Ck : Nat → Prop) (xs : List Int) (p : Int → Bool) (w : World) (hs : TellsN s C xs w) (hkv : Gives kv Ck (fun x => .bool (p x)) w) (hR : ∀ x ∈ xs, InR x) (hC : ∀ k, C k → k < w.heap.size) :
    Calls Try.prog 19 #[s, kv] w fun e w' => e = .returned (.bool (decide (xs.filter p ≠ []))) ∧ Below w.heap.size w w' := by
  have hb0 : Below w.heap.size w (w.alloc (.cells #[.bool false] 4)) := (Below.refl _ _).alloc (Nat.le_refl _) _
  have q := only_makes s kv C Ck xs p _ (hs.below hb0) (hkv.later (fun k hk => hb0.block k (hkv.lt k hk))) hR
  refine (callsIn_wide (n := 9)).1 ?_
  refine callsIn_of_wp_marks Try.func19 rfl trivial ?_ rfl
  simp only [Try.ntmps19, List.size_toArray, List.length_cons, List.length_nil, Nat.reduceAdd, Nat.reduceSub, Array.replicate_succ, Array.replicate_zero, List.push_toArray, List.append_toArray, List.nil_append, List.cons_append]
  gi_wp2_with (gi_at_call 13; refine (callsIn_wide.2 q).mono ?_; clear q; rintro e WL ⟨g, lb, CL, rfl, eg, hT, hCL, hbL⟩)
  have bx : Boxed WL w.heap.size 4 (.bool false) := (hbL.block _ (by simp)).trans (Boxed.new w 4 _)
  have hsz := hbL.size
  simp at hsz
  refine wp_range (gf := g) (lb := lb) rfl eg hT (fun _ => rfl) (boxJ w.heap.size 4 (fun pre v => pre = [] ∧ v = .bool false)) (fun c => boxJ w.heap.size 4 (fun pre v => c = .ret ∧ pre ≠ [] ∧ v = .bool true)) (boxJ_fits _ _ _) (fun _ => boxJ_fits _ _ _)
    (fun k => k = w.heap.size) ⟨_, rfl, bx, rfl, rfl⟩ ?_
    (fun x => { tmps := #[s, kv, undef, undef, at0 w.heap.size, s, kv, .func (.func g) #[] lb, .int .i64 x], defers := [] }) ?assign ?body ?done ?stop
  case assign =>
    intro l x W K hK
    refine wpIn_skip ?_
    simpa [encI, Exit.then] using hK
  case body =>
    rintro l pre x O W hpre hk hL ⟨v, rfl, hv, rfl, rfl⟩
    have hc := hv.cell
    have hf := hv.frozen
    gi_wp2
    exact ⟨fun k => k = w.heap.size, (Keeps.refl (fun k => k = w.heap.size) W).setCell (p := ⟨w.heap.size, 0, none⟩) (.inl rfl) _, Later.refl _ _, _, rfl, hv.set _, rfl, by simp, rfl⟩
  case done =>
    rintro D O W hD hnD hk hL ⟨v, rfl, hv, hx, rfl⟩ hK
    have hc := hv.cell
    have hf := hv.frozen
    have hB := (hb0.trans (hbL.mono (by simp))).trans ((((hk.setCell (p := ⟨w.heap.size, 0, none⟩) (.inl rfl) (.bool false)).putObj (.inr hD) (.deferred none))).below (B := w.heap.size) (by omega) (fun k h => by omega))
    have hv2 : Boxed ((W.setCell ⟨w.heap.size, 0, none⟩ (.bool false)).putObj D (.deferred none)) w.heap.size 4 (.bool false) := (World.putObj_heap_other (fun e => hnD e.symm)).trans (hv.set _)
    have hK2 := (KeepsOthers.setCell W ⟨w.heap.size, 0, none⟩ (.bool false)).same D _ hK rfl
    have hc2 := hv2.cell
    gi_wp2
    refine ⟨by simp, .inl ⟨_, _, rfl, run_takeDeferred hK2, ?_⟩⟩
    exact ⟨.bool false, by simp [results, Try.results19, go_sem, hc2], rfl, hB⟩
  case stop =>
    rintro D c pre O W hD hnD hk hL hpre ⟨v, rfl, hv, rfl, hx, rfl⟩ hK
    have hB := (hb0.trans (hbL.mono (by simp))).trans ((hk.putObj (.inr hD) (.deferred none)).below (B := w.heap.size) (by omega) (fun k h => by omega))
    have hv2 : Boxed (W.putObj D (.deferred none)) w.heap.size 4 (.bool true) := (World.putObj_heap_other (fun e => hnD e.symm)).trans hv
    have hc2 := hv2.cell
    have hxs : xs.filter p ≠ [] := fun e => by rw [e] at hpre; exact hx (List.prefix_nil.1 hpre)
    gi_wp2
    refine ⟨by simp, .inl ⟨_, _, rfl, run_takeDeferred hK, ?_⟩⟩
    exact ⟨.bool true, by simp [results, Try.results19, go_sem, hc2], by simp [hxs], hB⟩
  · intro k hk h
    rcases hCL k hk with (h2 | h2) | h2
    · have := hC _ h2; omega
    · have := hkv.lt _ h2; omega
    · simp at h2; omega

set_option maxRecDepth 100000 in
set_option maxHeartbeats 1000000 in
/-- Fold: what was joined behind each thing is F of those that have come. -/
theorem fold_any (s : Value) (C Cf : Nat → Prop) (xs : List Int) (F : List Int → Int) (g : Nat) (caps : Array Value) (w : World) (hs : TellsN s C xs w) (hC : ∀ k, C k → k < w.heap.size) (hCf : ∀ k, Cf k → k < w.heap.size)
    (eg : ∀ args w, (callFunc g args).run Try.prog w = .ok (.enter g args) w)
    (hF : ∀ pre x, pre ++ [x] <+: xs → ∀ W, (∀ k, Cf k → W.heap[k]? = w.heap[k]?) → Calls Try.prog g (#[.int .i64 (F pre), .int .i64 x] ++ caps) W fun e W' => e = .returned (.int .i64 (F (pre ++ [x]))) ∧ Keeps (fun _ => False) W W') :
    Calls Try.prog 17 #[s, .int .i64 (F []), .func (.func g) #[] caps] w fun e w' => e = .returned (.int .i64 (F xs)) ∧ Below w.heap.size w w' := by
  have qf : ∀ fn caps w, (binOp .eql 37 (.func fn #[] caps) .nilFunc).run Try.prog w = .ok (.bool false) w := fun _ _ _ => by kernel_rfl
  have hsv := hs.func
  refine (callsIn_wide (n := 9)).1 ?_
  refine callsIn_of_wp_marks Try.func17 rfl trivial ?_ rfl
  simp only [Try.ntmps17, List.size_toArray, List.length_cons, List.length_nil, Nat.reduceAdd, Nat.reduceSub, Array.replicate_succ, Array.replicate_zero, List.push_toArray, List.append_toArray, List.nil_append, List.cons_append]
  gi_wp2_with (gi_at_call 25; refine (callsIn_wide.2 (heeding_any s _ hsv)).mono ?_; rintro e w' ⟨rfl, rfl⟩)
  obtain ⟨WL, hWL⟩ : ∃ WL, ((w.alloc (.cells #[.int .i64 (F [])] 3)).alloc (.cells #[.func (.func g) #[] caps] 37)).alloc (.cells #[s] 27) = WL := ⟨_, rfl⟩
  have hBL : Below w.heap.size w WL := by rw [← hWL]; exact (((Below.refl _ _).alloc (Nat.le_refl _) _).alloc (by simp) _).alloc (by simp; omega) _
  have hsL : WL.heap.size = w.heap.size + 3 := by rw [← hWL]; simp
  have q0 : Boxed WL w.heap.size 3 (.int .i64 (F [])) := by rw [← hWL]; exact ((Boxed.new w 3 _).alloc _).alloc _
  have q1 : Boxed WL (w.heap.size + 1) 37 (.func (.func g) #[] caps) := by
    rw [← hWL]; have := Boxed.new (w.alloc (.cells #[.int .i64 (F [])] 3)) 37 (.func (.func g) #[] caps); rw [World.size_alloc] at this; exact this.alloc _
  have q2 : Boxed WL (w.heap.size + 2) 27 s := by
    rw [← hWL]; have := Boxed.new ((w.alloc (.cells #[.int .i64 (F [])] 3)).alloc (.cells #[.func (.func g) #[] caps] 37)) 27 s; rw [World.size_alloc, World.size_alloc] at this; exact this
  have hT := heed_tells s C xs (w.heap.size + 2) WL (hs.below hBL) q2
  rw [hWL]
  refine wp_range (gf := 33) (lb := #[at0 (w.heap.size + 2)]) rfl (enters_of Try.func33 (by kernel_rfl) rfl) hT (fun _ => rfl) (boxJ w.heap.size 3 (fun pre v => v = .int .i64 (F pre))) (fun _ _ _ _ => False) (boxJ_fits _ _ _) (fun _ => fits_none)
    (fun k => k = w.heap.size) ⟨_, rfl, q0, rfl⟩ ?_
    (fun x => { tmps := #[s, .int .i64 (F []), .func (.func g) #[] caps, undef, at0 w.heap.size, at0 (w.heap.size + 1), .int .i64 0, .int .i64 x, .func (.func g) #[] caps, .bool false, undef, s, .func (.func 33) #[] #[at0 (w.heap.size + 2)], .int .i64 x, undef, undef, undef, undef, undef], defers := [] }) ?assign ?body ?done ?stop
  case assign =>
    intro l x W K hK
    gi_wp2
    exact hK
  case body =>
    rintro l pre x O W hpre hk hL ⟨v, rfl, hv, rfl⟩
    have hc := hv.cell
    have d1 := (hk.boxed q1 (by omega)).cell
    have hcg := CallsIn.inRound l ((callsIn_wide (n := 8)).2 (hF pre x hpre W (fun k h => (hk.block k (by have := hCf k h; omega) (by have := hCf k h; omega)).trans (hBL.block k (hCf k h)))))
    clear hF
    gi_wp2_with ((with_reducible refine hcg.mono ?_); clear hcg; rintro e w1 ⟨rfl, h1⟩; have hv1 := h1.boxed hv (fun h => h); have hc1 := hv1.cell; have hf1 := hv1.frozen)
    refine ⟨fun k => k = w.heap.size, (h1.mono (O' := fun k => k = w.heap.size) (fun _ h => h.elim)).setCell (p := ⟨w.heap.size, 0, none⟩) (.inl rfl) _, Later.refl _ _, _, rfl, hv1.set _, rfl⟩
  case done =>
    rintro D O W hD hnD hk hL ⟨v, rfl, hv, rfl⟩ hK
    have hc := hv.cell
    have hB := hBL.trans ((hk.putObj (.inr hD) (.deferred none)).below (B := w.heap.size) (by omega) (fun k h => by omega))
    gi_wp2
    refine ⟨by simp, .inl ⟨_, _, rfl, run_takeDeferred hK, ?_⟩⟩
    exact ⟨_, results_tmp rfl _ _ _, rfl, hB⟩
  case stop =>
    rintro D c pre O W _ _ _ _ _ h _
    exact h.elim
  · intro k hk h
    rcases hk with ⟨_, hk⟩ | hk
    · have := hC k hk; omega
    · omega

end Go.Proofs.Ytmjfahjafecnnaa
