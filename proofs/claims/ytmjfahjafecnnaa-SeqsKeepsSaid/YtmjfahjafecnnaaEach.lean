/- What Each tells: what a function makes of each thing. -/
import Derived.Test.YtmjfahjafecnnaaIters
import Derived.Shelf.RegionOpen
namespace Go.Proofs.Ytmjfahjafecnnaa
open Go.RowKit Go.Shelf
set_option linter.unusedVariables false
attribute [local go_sem] Oper.semAt_some wide_fn

/-- The same, its answer a Bool that is not parted yet. -/
def TookB (J Jx : List Int → (Nat → Prop) → World → Prop) (xs : List Int) (O : Nat → Prop) (W : World) (e : Ending) (W' : World) : Prop :=
  ∃ (bo : Bool) (O' : Nat → Prop), e = .returned (.bool bo) ∧ Keeps O W W' ∧ Later O W O' ∧ ((bo = true ∧ J xs O' W') ∨ (bo = false ∧ Jx xs O' W'))
theorem Took.bool {J Jx : List Int → (Nat → Prop) → World → Prop} {xs : List Int} {O : Nat → Prop} {W : World} {e : Ending} {W' : World} (h : Took J Jx xs O W e W') : TookB J Jx xs O W e W' := by
  obtain ⟨O', h1, h2, (⟨rfl, h⟩ | ⟨rfl, h⟩)⟩ := h
  · exact ⟨true, O', rfl, h1, h2, .inl ⟨rfl, h⟩⟩
  · exact ⟨false, O', rfl, h1, h2, .inr ⟨rfl, h⟩⟩

set_option maxRecDepth 100000 in
set_option maxHeartbeats 4000000 in
theorem each_tells (s kv : Value) (C Ck : Nat → Prop) (xs : List Int) (t : Int → Int) (bk bs : Nat) (W0 : World) (hs : TellsN s C xs W0) (hkv : Gives kv Ck (fun x => .int .i64 (t x)) W0) (hbk : Boxed W0 bk 35 kv) (hbs : Boxed W0 bs 27 s) (hR : ∀ x ∈ xs, InR x) :
    Tells Try.prog encI (.func (.func 31) #[] #[at0 bk, at0 bs]) (fun k => (s ≠ .nilFunc ∧ C k) ∨ Ck k ∨ k = bk ∨ k = bs) (xs.map t) W0 := by
  refine ⟨⟨_, _, rfl⟩, fun k hk => ?_, ?_⟩
  · rcases hk with ⟨hn, hk⟩ | hk | rfl | rfl
    · exact hs.elim (fun h => (hn h.1).elim) (fun h => h.lt k hk)
    · exact hkv.lt k hk
    · exact hbk.lt
    · exact hbs.lt
  intro W hW y J Jx O hyf hJ hJx hY hC h0
  have b1 : Boxed W bk 35 kv := (hW bk (.inr (.inr (.inl rfl)))).trans hbk
  have b2 : Boxed W bs 27 s := (hW bs (.inr (.inr (.inr rfl)))).trans hbs
  have c1 := b1.cell
  have c2 := b2.cell
  have l1 := b1.lt
  have l2 := b2.lt
  have hkW := hkv.later (W1 := W) (fun k hk => hW k (.inr (.inl hk)))
  have qf : ∀ fn caps w, (binOp .eql 35 (.func fn #[] caps) .nilFunc).run Try.prog w = .ok (.bool false) w := fun _ _ _ => by kernel_rfl
  refine callsV_func (enters_of Try.func31 (by kernel_rfl) rfl) ?_
  refine (callsIn_wide (n := 9)).1 ?_
  refine callsIn_of_wp_marks Try.func31 rfl trivial ?_ rfl
  simp only [Try.ntmps31, List.size_toArray, List.length_cons, List.length_nil, Nat.reduceAdd, Nat.reduceSub, Array.replicate_succ, Array.replicate_zero, List.push_toArray, List.append_toArray, List.nil_append, List.cons_append]
  have hyf2 := hyf
  obtain ⟨yf, yc, rfl⟩ := hyf.func
  obtain ⟨kf, kc, rfl, ek, -⟩ := hkv.func
  have hsv : s = .nilFunc ∨ ∃ fn caps, s = .func fn #[] caps := hs.elim (fun h => .inl h.1) (fun h => .inr h.func)
  gi_wp2_with (gi_at_call 25; refine (callsIn_wide.2 (heeding_any s _ hsv)).mono ?_; rintro e w' ⟨rfl, rfl⟩)
  obtain ⟨WL, hWL⟩ : ∃ WL, (W.alloc (.cells #[.func yf #[] yc] 31)).alloc (.cells #[s] 27) = WL := ⟨_, rfl⟩
  have hkL : Keeps O W WL := by rw [← hWL]; exact ((Keeps.refl _ _).alloc _).alloc _
  have hsL : WL.heap.size = W.heap.size + 2 := by rw [← hWL]; simp
  have q0 : Boxed WL W.heap.size 31 (.func yf #[] yc) := by rw [← hWL]; exact (Boxed.new W 31 _).alloc _
  have q2 : Boxed WL (W.heap.size + 1) 27 s := by
    rw [← hWL]; have := Boxed.new (W.alloc (.cells #[.func yf #[] yc] 31)) 27 s; rw [World.size_alloc] at this; exact this
  have hTL : TellsN s C xs WL := hs.elim .inl fun h => .inr ((h.later (W1 := W) (fun k hk => hW k (.inl ⟨by obtain ⟨_, _, e⟩ := h.func; rw [e]; simp, hk⟩))).keeps hkL (fun k hk => hC k (.inl ⟨by obtain ⟨_, _, e⟩ := h.func; rw [e]; simp, hk⟩)))
  have hT := heed_tells s C xs (W.heap.size + 1) WL hTL q2
  have hn0 : ¬ O W.heap.size := hJ.new h0 (Nat.le_refl _)
  have hla : Later O W O := Later.refl _ _
  rw [hWL]
  refine wp_range (gf := 33) (lb := #[at0 (W.heap.size + 1)]) rfl (enters_of Try.func33 (by kernel_rfl) rfl) hT (fun _ => rfl) (fun pre => J (pre.map t)) (fun c pre O' w => c = .ret ∧ Jx (pre.map t) O' w) (fun pre => hJ (pre.map t)) (fun c pre O' w h => ⟨(hJx _ _ _ h.2).1, fun W' hW' => ⟨h.1, (hJx _ _ _ h.2).2 W' hW'⟩⟩)
    O (by rw [← hWL]; exact hJ.alloc (hJ.alloc h0 _) _) ?_
    (fun x => { tmps := #[.func yf #[] yc, at0 bk, at0 bs, at0 W.heap.size, .int .i64 x, .func (.func kf) #[] kc, .bool false, s, .func (.func 33) #[] #[at0 (W.heap.size + 1)], .int .i64 x, undef, undef, undef, undef, undef, undef], defers := [] }) ?assign ?body ?done ?stop
  case assign =>
    intro l x W K hK
    gi_wp2
    exact hK
  case body =>
    rintro l pre x O1 w hpre hk hL hj
    have hkw : Keeps O W w := hkL.trans hk hla
    have hLW : Later O W O1 := hla.trans hkL.size hL
    have d0 := (hk.boxed q0 hn0).cell
    have lw := (hk.boxed q0 hn0).lt
    have d1 := (hkw.boxed b1 (hC bk (.inr (.inr (.inl rfl))))).cell
    obtain ⟨kf', kc', ee, -, hcK⟩ := (hkW.keeps hkw (fun k h => hC k (.inr (.inl h)))).func
    cases ee
    replace hcK := CallsIn.inRound l ((callsIn_wide (n := 8)).2 (hcK w.drew (fun _ _ => rfl) x (hR x (prefix_mem hpre))))
    have hcy : ∀ w1, Keeps (fun _ => False) w.drew w1 → CallsV Try.prog (.func yf #[] yc) #[.int .i64 (t x)] w1 (TookB J Jx ((pre ++ [x]).map t) O1 w1) := fun w1 h1 => by
      have e : (pre ++ [x]).map t = pre.map t ++ [t x] := by simp
      rw [e]
      exact (hY (pre.map t) (t x) O1 w1 (by rw [← e]; exact hpre.map t) (hkw.drew.trans h1 (fun _ h => h.elim)) hLW (hJ.keeps (hJ.drew hj) h1 (fun _ _ h => h))).mono (fun _ _ => Took.bool)
    have hb0 : Boxed w W.heap.size 31 (.func yf #[] yc) := hk.boxed q0 hn0
    clear hY hT hTL hs hsv hC hW hWL hbk hbs b1 b2 c1 c2 hkv hkW hR hyf
    have hmix : Try.prog.follows .mixedOrders = true := by kernel_rfl
    rcases hyf2 with ⟨g, yc', ey, eg⟩ | ⟨ly, ey⟩
    · cases ey
      gi_wp2
      gi_region_with_o (first
        | ((with_reducible refine hcK.mono ?_); clear hcK; rintro e w1 ⟨rfl, h1⟩; have e0 := (h1.boxed (show Boxed w.drew W.heap.size 31 _ from hb0) (fun h => h)).cell; have hcy1 := CallsIn.inRound l ((callsIn_wide (n := 8)).2 (callsV_func_inv eg (hcy w1 h1))))
        | ((with_reducible refine hcy1.mono ?_); rintro e w' ⟨bo, O2, rfl, hk', hL', hj'⟩))
      all_goals
        have hk2 : Keeps O1 w w' := ((((Keeps.refl O1 w).drew).trans h1 (fun _ h => h.elim))).trans hk' (Later.refl _ _)
        have hL2 : Later O1 w O2 := fun k h => (hL' k h).imp id (Nat.le_trans h1.size)
        clear hcy1 hcy e0
        rcases hj' with ⟨rfl, hj'⟩ | ⟨rfl, hj'⟩
        · gi_wp2
          exact ⟨O2, hk2, hL2, hj'⟩
        · gi_wp2
          exact ⟨O2, hk2, hL2, rfl, hj'⟩
    · cases ey
      gi_wp2
      gi_region_with_o (first
        | ((with_reducible refine hcK.mono ?_); clear hcK; rintro e w1 ⟨rfl, h1⟩; have e0 := (h1.boxed (show Boxed w.drew W.heap.size 31 _ from hb0) (fun h => h)).cell; obtain ⟨fn1, tmps1, as1, bd1, hy1, hR0⟩ := callsV_yield_inv (hcy w1 h1); have hR1 := roundIn_round (m := 8) (l₀ := l) hR0; clear hR0)
        | ((with_reducible refine hR1.mono ?_); rintro e w' ⟨bo, O2, rfl, hk', hL', hj'⟩))
      all_goals
        have hk2 : Keeps O1 w w' := ((((Keeps.refl O1 w).drew).trans h1 (fun _ h => h.elim))).trans hk' (Later.refl _ _)
        have hL2 : Later O1 w O2 := fun k h => (hL' k h).imp id (Nat.le_trans h1.size)
        clear hR1 hy1 hcy e0
        rcases hj' with ⟨rfl, hj'⟩ | ⟨rfl, hj'⟩
        · gi_wp2
          exact ⟨O2, hk2, hL2, hj'⟩
        · gi_wp2
          exact ⟨O2, hk2, hL2, rfl, hj'⟩
  case done =>
    rintro D O1 w hD hnD hk hL hj hK
    gi_wp2
    refine ⟨by simp, .inl ⟨_, _, rfl, run_takeDeferred hK, ?_⟩⟩
    exact ⟨_, results_none rfl _ _ _, ⟨_, rfl⟩, O1, (hkL.trans hk hla).putObj (.inr (by omega)) _, hla.trans hkL.size hL, .inl (hJ.putObj hj hnD _)⟩
  case stop =>
    rintro D c pre O1 w hD hnD hk hL hpre ⟨rfl, hj⟩ hK
    gi_wp2
    refine ⟨by simp, .inl ⟨_, _, rfl, run_takeDeferred hK, ?_⟩⟩
    exact ⟨_, results_none rfl _ _ _, ⟨_, rfl⟩, O1, (hkL.trans hk hla).putObj (.inr (by omega)) _, hla.trans hkL.size hL, .inr ⟨_, hpre.map t, hJx.putObj hj hnD _⟩⟩
  · intro k hk h
    rcases hk with ⟨hn, hk⟩ | rfl
    · exact hC k (.inl ⟨hn, hk⟩) h
    · exact hJ.new h0 (by omega) h
end Go.Proofs.Ytmjfahjafecnnaa
