/- What heeding, Only and Of tell; what Clone hands back; when two lists are the same. -/
import Derived.Test.YtemikojaldoofaaGreatQRow
import Derived.Test.YtemikojaldoofaaGreatRows
import Derived.WalkKit
import Derived.OwnWalkIn
import Derived.TacticsInMore
import Derived.LoopNIn
import Derived.LoopIn
import Derived.Shelf.Abstract
import Derived.Maps.AppendAt
import Derived.Deep.QuietTactic
import Derived.BigQuiet
import Derived.Lib.Hide
import Derived.WalkLawsBesides
import Derived.Handy
import Derived.Lib.SliceRun
namespace Go.Proofs.YtemikojaldoofaaGreat.S
open Go.Proofs.YtemikojaldoofaaGreat
open Go.RowKit Go.Shelf
set_option linter.unusedVariables false
attribute [local go_sem] Oper.semAt_some wide_fn

/-- A number, as it is handed on. -/
abbrev encI (x : Int) : Array Value := #[.int .i64 x]
/-- A variable's address. -/
abbrev at0 (b : Nat) : Value := .pointer (some ⟨b, 0, none⟩)
/-- What heeding's own function keeps beside what y keeps: y's variable, and whether it goes on. -/
def heedJ {α : Type} (b0 b1 : Nat) (y : Value) (v : Bool) (J : List α → (Nat → Prop) → World → Prop) (pre : List α) (O' : Nat → Prop) (W : World) : Prop :=
  ∃ O, O' = (fun k => O k ∨ k = b0 ∨ k = b1) ∧ J pre O W ∧ ¬ O b0 ∧ ¬ O b1 ∧ Boxed W b0 92 y ∧ Boxed W b1 4 (.bool v)
theorem heedJ_fits {α : Type} {b0 b1 : Nat} {y : Value} {v : Bool} {J : List α → (Nat → Prop) → World → Prop} (hJ : Fits J) : Fits (heedJ b0 b1 y v J) := by
  rintro s O' W ⟨O, rfl, h, n0, n1, h0, h1⟩
  refine ⟨fun k hk => ?_, fun W' hW => ⟨O, rfl, (hJ _ _ _ h).2 _ (fun k hk => hW k (.inl hk)), n0, n1, (hW _ (.inr (.inl rfl))).trans h0, (hW _ (.inr (.inr rfl))).trans h1⟩⟩
  rcases hk with hk | rfl | rfl
  · exact hJ.lt h hk
  · exact h0.lt
  · exact h1.lt
set_option maxRecDepth 100000 in
set_option maxHeartbeats 1000000 in
theorem heed_takes (b0 b1 : Nat) (hne : b0 ≠ b1) (y : Value) (J Jx : List Int → (Nat → Prop) → World → Prop) (xs : List Int) (O₀ : Nat → Prop) (W₀ W₁ : World) (hJ : Fits J) (hJx : Fits Jx)
    (hY : Takes Tryz.prog encI y J Jx xs O₀ W₀) (hk1 : Keeps O₀ W₀ W₁) (hb0 : W₀.heap.size ≤ b0) (hb1 : W₀.heap.size ≤ b1) :
    Takes Tryz.prog encI (.func (.func 111) #[] #[at0 b1, at0 b0]) (heedJ b0 b1 y true J) (heedJ b0 b1 y false Jx) xs (fun k => O₀ k ∨ k = b0 ∨ k = b1) W₁ := by
  rintro pre x O' W hpre hkW hlat ⟨O, rfl, hj, n0, n1, h0, h1⟩
  have hlat1 : Later O₀ W₀ (fun k => O₀ k ∨ k = b0 ∨ k = b1) := fun k hk => by
    rcases hk with hk | rfl | rfl
    · exact .inl hk
    · exact .inr hb0
    · exact .inr hb1
  have hkw : Keeps O₀ W₀ W := hk1.trans hkW hlat1
  have hlw : Later O₀ W₀ O := fun k hk => (hlat1.trans hk1.size hlat) k (.inl hk)
  have hc := hY pre x O W hpre hkw hlw hj
  have c0 := h0.cell
  have c1 := h1.cell
  refine callsV_func (enters_of Tryz.func111 (by kernel_rfl) rfl) ?_
  refine (callsIn_wide (n := 9)).1 ?_
  refine callsIn_of_wp Tryz.func111 rfl trivial ?_ rfl
  simp only [Tryz.ntmps111, List.size_toArray, List.length_cons, List.length_nil, Nat.reduceAdd, Nat.reduceSub, Array.replicate_succ, Array.replicate_zero, List.push_toArray, List.append_toArray, List.nil_append, List.cons_append]
  gi_wp2_with ((with_reducible refine wpListIn_callV (f := .tmp 7) (y := y) (args := #[.int .i64 x]) rfl rfl ?_ ?_ ?_ hc ?_); rfl; rfl; simp [go_sem]; (rintro e w' ⟨O'', hk', hL', (⟨rfl, hJ'⟩ | ⟨rfl, hJ'⟩)⟩) <;> (refine ⟨_, rfl, ?_⟩; have d1 := (hk'.boxed h1 n1).cell; have f1 := (hk'.boxed h1 n1).frozen))
  · go_ret
    exact ⟨fun k => O'' k ∨ k = b0 ∨ k = b1, (hk'.mono (fun k h => .inl (.inl h))).setCell (.inl (.inr (.inr rfl))) _, hL'.wide _, .inl ⟨rfl, O'', rfl, hJ.setCell hJ' (hL'.no h1.lt n1) _, hL'.no h0.lt n0, hL'.no h1.lt n1, (hk'.boxed h0 n0).other hne _, (hk'.boxed h1 n1).set _⟩⟩
  · go_ret
    exact ⟨fun k => O'' k ∨ k = b0 ∨ k = b1, (hk'.mono (fun k h => .inl (.inl h))).setCell (.inl (.inr (.inr rfl))) _, hL'.wide _, .inr ⟨rfl, O'', rfl, hJx.setCell hJ' (hL'.no h1.lt n1) _, hL'.no h0.lt n0, hL'.no h1.lt n1, (hk'.boxed h0 n0).other hne _, (hk'.boxed h1 n1).set _⟩⟩
/-- A sequence, or none. -/
def TellsN (s : Value) (C : Nat → Prop) (xs : List Int) (W0 : World) : Prop := (s = .nilFunc ∧ xs = []) ∨ Tells Tryz.prog encI s C xs W0
set_option maxRecDepth 100000 in
set_option maxHeartbeats 1000000 in
theorem heed_tells (s : Value) (C : Nat → Prop) (xs : List Int) (b : Nat) (W0 : World) (hs : TellsN s C xs W0) (hb : Boxed W0 b 98 s) :
    Tells Tryz.prog encI (.func (.func 110) #[] #[at0 b]) (fun k => (s ≠ .nilFunc ∧ C k) ∨ k = b) xs W0 := by
  have qn : ∀ w, (binOp .eql 98 .nilFunc .nilFunc).run Tryz.prog w = .ok (.bool true) w := fun _ => by kernel_rfl
  have qf : ∀ fn caps w, (binOp .eql 98 (.func fn #[] caps) .nilFunc).run Tryz.prog w = .ok (.bool false) w := fun _ _ _ => by kernel_rfl
  refine ⟨⟨_, _, rfl⟩, fun k hk => ?_, ?_⟩
  · rcases hk with ⟨hn, hk⟩ | rfl
    · exact hs.elim (fun h => (hn h.1).elim) (fun h => h.lt k hk)
    · exact hb.lt
  intro W hW y J Jx O hyf hJ hJx hY hC h0
  have bb : Boxed W b 98 s := (hW b (.inr rfl)).trans hb
  have cb := bb.cell
  refine callsV_func (enters_of Tryz.func110 (by kernel_rfl) rfl) ?_
  refine (callsIn_wide (n := 9)).1 ?_
  refine callsIn_of_wp Tryz.func110 rfl trivial ?_ rfl
  simp only [Tryz.ntmps110, List.size_toArray, List.length_cons, List.length_nil, Nat.reduceAdd, Nat.reduceSub, Array.replicate_succ, Array.replicate_zero, List.push_toArray, List.append_toArray, List.nil_append, List.cons_append]
  have hbl := bb.lt
  obtain ⟨yf, yc, rfl⟩ := hyf.func
  rcases hs with ⟨rfl, rfl⟩ | hT
  · gi_wp2
    refine bodyPost_ret (results_none rfl _ _ _) rfl ?_
    exact ⟨⟨_, rfl⟩, O, (Keeps.refl _ _).alloc _, Later.refl _ _, .inl (hJ.alloc h0 _)⟩
  · obtain ⟨fn, caps, rfl⟩ := hT.func
    obtain ⟨W1, hW1⟩ : ∃ W1, (W.alloc (.cells #[.func yf #[] yc] 92)).alloc (.cells #[.bool true] 4) = W1 := ⟨_, rfl⟩
    have hk1 : Keeps O W W1 := by rw [← hW1]; exact ((Keeps.refl _ _).alloc _).alloc _
    have b0 : Boxed W1 W.heap.size 92 (.func yf #[] yc) := by rw [← hW1]; exact (Boxed.new W 92 _).alloc _
    have b1 : Boxed W1 (W.heap.size + 1) 4 (.bool true) := by
      rw [← hW1]; have := Boxed.new (W.alloc (.cells #[.func yf #[] yc] 92)) 4 (.bool true); rw [World.size_alloc] at this; exact this
    have hn0 : ¬ O W.heap.size := hJ.new h0 (Nat.le_refl _)
    have hn1 : ¬ O (W.heap.size + 1) := hJ.new h0 (by omega)
    have h01 : heedJ W.heap.size (W.heap.size + 1) (.func yf #[] yc) true J [] (fun k => O k ∨ k = W.heap.size ∨ k = W.heap.size + 1) W1 := by
      refine ⟨O, rfl, ?_, hn0, hn1, b0, b1⟩
      rw [← hW1]; exact hJ.alloc (hJ.alloc h0 _) _
    have hTW := hT.later (W1 := W) (fun k hk => hW k (.inl ⟨by simp, hk⟩))
    have hc := (hTW.keeps hk1 (fun k hk => hC k (.inl ⟨by simp, hk⟩))).tells W1 (fun _ _ => rfl) (.func (.func 111) #[] #[at0 (W.heap.size + 1), at0 W.heap.size]) _ _ _ (.inl ⟨_, _, rfl, enters_of Tryz.func111 (by kernel_rfl) rfl⟩) (heedJ_fits hJ) (heedJ_fits hJx)
      (heed_takes W.heap.size (W.heap.size + 1) (by omega) (.func yf #[] yc) J Jx xs O W W1 hJ hJx hY hk1 (Nat.le_refl _) (by omega))
      (fun k hk h => by
        have h3 := hTW.lt k hk
        rcases h with h | h | h
        · exact hC k (.inl ⟨by simp, hk⟩) h
        · omega
        · omega) h01
    subst hW1
    clear h01 b1 b0 hk1
    gi_wp2_with ((with_reducible refine wpListIn_callV (f := .tmp 6) (y := .func fn #[] caps) (args := #[.func (.func 111) #[] #[at0 (W.heap.size + 1), at0 W.heap.size]]) rfl rfl ?_ ?_ ?_ hc ?_); rfl; rfl; simp [go_sem]; (rintro e w' ⟨⟨v, rfl⟩, O', hk', hL', (⟨O1, rfl, hj, n0, n1, c0, c1⟩ | ⟨pre, hpre, O1, rfl, hj, n0, n1, c0, c1⟩)⟩) <;> (refine ⟨_, rfl, ?_⟩; have d1 := c1.cell; have f1 := c1.frozen))
    all_goals
      have hla : Later O W (fun k => O k ∨ k = W.heap.size ∨ k = W.heap.size + 1) := fun k hk => by
        rcases hk with hk | rfl | rfl
        · exact .inl hk
        · exact .inr (Nat.le_refl _)
        · exact .inr (by omega)
      have hk1 := (((Keeps.refl O W).alloc (.cells #[.func yf #[] yc] 92)).alloc (.cells #[.bool true] 4))
      have hK := (hk1.trans hk' hla).setCell (p := ⟨W.heap.size + 1, 0, none⟩) (.inr (by simp)) (.bool false)
      have hL : Later O W O1 := fun k hk => (hla.trans hk1.size hL') k (.inl hk)
      go_end0
    · exact ⟨⟨_, rfl⟩, O1, hK, hL, .inl (hJ.setCell hj n1 _)⟩
    · exact ⟨⟨_, rfl⟩, O1, hK, hL, .inr ⟨pre, hpre, hJx.setCell hj n1 _⟩⟩
theorem heeding_any (s : Value) (w : World) (hs : s = .nilFunc ∨ ∃ fn caps, s = .func fn #[] caps) :
    Calls Tryz.prog 106 #[s] w fun e w' => e = .returned (.func (.func 110) #[] #[at0 w.heap.size]) ∧ w' = w.alloc (.cells #[s] 98) := by
  rcases hs with rfl | ⟨fn, caps, rfl⟩
  all_goals
    go_enter Tryz.func106, Tryz.ntmps106
    go_wp2
    go_ret
    exact ⟨rfl, rfl⟩
/-- A number that an int can be. -/
def InR (x : Int) : Prop := -9223372036854775808 ≤ x ∧ x ≤ 9223372036854775807
/-- A function value that answers out of its argument alone, and changes nothing. -/
structure Gives (f : Value) (C : Nat → Prop) (out : Int → Value) (W0 : World) : Prop where
  func : ∃ g caps, f = .func (.func g) #[] caps ∧ (∀ args w, (callFunc g args).run Tryz.prog w = .ok (.enter g args) w) ∧
    ∀ W, (∀ k, C k → W.heap[k]? = W0.heap[k]?) → ∀ x, InR x → Calls Tryz.prog g (#[.int .i64 x] ++ caps) W fun e W' => e = .returned (out x) ∧ Keeps (fun _ => False) W W'
  lt : ∀ k, C k → k < W0.heap.size
theorem Gives.gives {f : Value} {C : Nat → Prop} {out : Int → Value} {W0 : World} (h : Gives f C out W0) (W : World) (hW : ∀ k, C k → W.heap[k]? = W0.heap[k]?) (x : Int) (hx : InR x) :
    CallsV Tryz.prog f #[.int .i64 x] W fun e W' => e = .returned (out x) ∧ Keeps (fun _ => False) W W' := by
  obtain ⟨g, caps, rfl, eg, h⟩ := h.func
  exact callsV_func eg (h W hW x hx)
theorem Gives.later {f : Value} {C : Nat → Prop} {out : Int → Value} {W0 W1 : World} (h : Gives f C out W0) (hk : ∀ k, C k → W1.heap[k]? = W0.heap[k]?) : Gives f C out W1 := by
  obtain ⟨g, caps, e, eg, h2⟩ := h.func
  exact ⟨⟨g, caps, e, eg, fun W hW x hx => h2 W (fun k hc => (hW k hc).trans (hk k hc)) x hx⟩, fun k hc => by
    have h1 := hk k hc
    rw [Array.getElem?_eq_getElem (h.lt k hc)] at h1
    exact (Array.getElem?_eq_some_iff.1 h1).1⟩
theorem Gives.keeps {f : Value} {C O : Nat → Prop} {out : Int → Value} {W0 W1 : World} (h : Gives f C out W0) (hk : Keeps O W0 W1) (hd : ∀ k, C k → ¬ O k) : Gives f C out W1 :=
  h.later fun k hc => hk.block k (h.lt k hc) (hd k hc)
theorem prefix_mem {xs pre : List Int} {x : Int} (h : pre ++ [x] <+: xs) : x ∈ xs := h.subset (by simp)
set_option maxRecDepth 100000 in
set_option maxHeartbeats 1000000 in
theorem only_tells (s kv : Value) (C Ck : Nat → Prop) (xs : List Int) (p : Int → Bool) (bk bs : Nat) (W0 : World) (hs : TellsN s C xs W0) (hkv : Gives kv Ck (fun x => .bool (p x)) W0) (hbk : Boxed W0 bk 92 kv) (hbs : Boxed W0 bs 98 s) (hR : ∀ x ∈ xs, InR x) :
    Tells Tryz.prog encI (.func (.func 105) #[] #[at0 bk, at0 bs]) (fun k => (s ≠ .nilFunc ∧ C k) ∨ Ck k ∨ k = bk ∨ k = bs) (xs.filter p) W0 := by
  refine ⟨⟨_, _, rfl⟩, fun k hk => ?_, ?_⟩
  · rcases hk with ⟨hn, hk⟩ | hk | rfl | rfl
    · exact hs.elim (fun h => (hn h.1).elim) (fun h => h.lt k hk)
    · exact hkv.lt k hk
    · exact hbk.lt
    · exact hbs.lt
  intro W hW y J Jx O hyf hJ hJx hY hC h0
  have b1 : Boxed W bk 92 kv := (hW bk (.inr (.inr (.inl rfl)))).trans hbk
  have b2 : Boxed W bs 98 s := (hW bs (.inr (.inr (.inr rfl)))).trans hbs
  have c1 := b1.cell
  have c2 := b2.cell
  have l1 := b1.lt
  have l2 := b2.lt
  have hkW := hkv.later (W1 := W) (fun k hk => hW k (.inr (.inl hk)))
  have qf : ∀ fn caps w, (binOp .eql 92 (.func fn #[] caps) .nilFunc).run Tryz.prog w = .ok (.bool false) w := fun _ _ _ => by kernel_rfl
  refine callsV_func (enters_of Tryz.func105 (by kernel_rfl) rfl) ?_
  refine (callsIn_wide (n := 9)).1 ?_
  refine callsIn_of_wp_marks Tryz.func105 rfl trivial ?_ rfl
  simp only [Tryz.ntmps105, List.size_toArray, List.length_cons, List.length_nil, Nat.reduceAdd, Nat.reduceSub, Array.replicate_succ, Array.replicate_zero, List.push_toArray, List.append_toArray, List.nil_append, List.cons_append]
  obtain ⟨yf, yc, rfl⟩ := hyf.func
  obtain ⟨kf, kc, rfl, -, -⟩ := hkv.func
  have hsv : s = .nilFunc ∨ ∃ fn caps, s = .func fn #[] caps := hs.elim (fun h => .inl h.1) (fun h => .inr h.func)
  gi_wp2_with (gi_at_call 106; refine (callsIn_wide.2 (heeding_any s _ hsv)).mono ?_; rintro e w' ⟨rfl, rfl⟩)
  obtain ⟨WL, hWL⟩ : ∃ WL, (W.alloc (.cells #[.func yf #[] yc] 92)).alloc (.cells #[s] 98) = WL := ⟨_, rfl⟩
  have hkL : Keeps O W WL := by rw [← hWL]; exact ((Keeps.refl _ _).alloc _).alloc _
  have hsL : WL.heap.size = W.heap.size + 2 := by rw [← hWL]; simp
  have q0 : Boxed WL W.heap.size 92 (.func yf #[] yc) := by rw [← hWL]; exact (Boxed.new W 92 _).alloc _
  have q2 : Boxed WL (W.heap.size + 1) 98 s := by
    rw [← hWL]; have := Boxed.new (W.alloc (.cells #[.func yf #[] yc] 92)) 98 s; rw [World.size_alloc] at this; exact this
  have hTL : TellsN s C xs WL := hs.elim .inl fun h => .inr ((h.later (W1 := W) (fun k hk => hW k (.inl ⟨by obtain ⟨_, _, e⟩ := h.func; rw [e]; simp, hk⟩))).keeps hkL (fun k hk => hC k (.inl ⟨by obtain ⟨_, _, e⟩ := h.func; rw [e]; simp, hk⟩)))
  have hT := heed_tells s C xs (W.heap.size + 1) WL hTL q2
  have hn0 : ¬ O W.heap.size := hJ.new h0 (Nat.le_refl _)
  have hla : Later O W O := Later.refl _ _
  rw [hWL]
  refine wp_range (gf := 110) (lb := #[at0 (W.heap.size + 1)]) rfl (enters_of Tryz.func110 (by kernel_rfl) rfl) hT (fun _ => rfl) (fun pre => J (pre.filter p)) (fun c pre O' w => c = .ret ∧ Jx (pre.filter p) O' w) (fun pre => hJ (pre.filter p)) (fun c pre O' w h => ⟨(hJx _ _ _ h.2).1, fun W' hW' => ⟨h.1, (hJx _ _ _ h.2).2 W' hW'⟩⟩)
    O (by rw [← hWL]; exact hJ.alloc (hJ.alloc h0 _) _) ?_
    (fun x => { tmps := #[.func yf #[] yc, at0 bk, at0 bs, at0 W.heap.size, .int .i64 x, .func (.func kf) #[] kc, .bool false, s, .func (.func 110) #[] #[at0 (W.heap.size + 1)], .int .i64 x, undef, undef, undef, undef, undef, undef, undef, undef, undef], defers := [] }) ?assign ?body ?done ?stop
  case assign =>
    intro l x W K hK
    gi_wp2
    exact hK
  case body =>
    rintro l pre x O1 w hpre hk hL hj
    have hkw : Keeps O W w := hkL.trans hk hla
    have hLW : Later O W O1 := hla.trans hkL.size hL
    have d0 := (hk.boxed q0 hn0).cell
    have lw := (hk.boxed q0 hn0).lt
    have d1 := (hkw.boxed b1 (hC bk (.inr (.inr (.inl rfl))))).cell
    have hck := (hkW.keeps hkw (fun k h => hC k (.inr (.inl h)))).gives w (fun _ _ => rfl) x (hR x (prefix_mem hpre))
    have hcy : ∀ w1, Keeps (fun _ => False) w w1 → p x = true → CallsV Tryz.prog (.func yf #[] yc) #[.int .i64 x] w1 (Took J Jx ((pre ++ [x]).filter p) O1 w1) := fun w1 h1 hp => by
      have e : (pre ++ [x]).filter p = pre.filter p ++ [x] := by simp [hp]
      rw [e]
      exact hY (pre.filter p) x O1 w1 (by rw [← e]; exact hpre.filter p) (hkw.trans h1 (fun _ h => h.elim)) hLW (hJ.keeps hj h1 (fun _ _ h => h))
    clear hY hT hTL hs hsv hC hW hWL hbk hbs b1 b2 c1 c2 hkv hkW hR
    by_cases hp : p x = true
    · rw [hp] at hck
      replace hcy := fun w1 h1 => hcy w1 h1 hp
      gi_wp2_with (first
        | ((with_reducible refine wpListIn_callV_round (f := .tmp 10) (y := .func (.func kf) #[] kc) (args := #[.int .i64 x]) rfl rfl ?_ ?_ ?_ hck ?_); rfl; rfl; simp [go_sem]; (rintro e w1 ⟨rfl, h1⟩); (refine ⟨_, rfl, ?_⟩); have e0 := (h1.boxed (hk.boxed q0 hn0) (fun h => h)).cell)
        | ((with_reducible refine wpListIn_callV_round (f := .tmp 14) (y := .func yf #[] yc) (args := #[.int .i64 x]) rfl rfl ?_ ?_ ?_ (hcy _ h1) ?_); rfl; rfl; simp [go_sem]; (rintro e w' ⟨O2, hk', hL', (⟨rfl, hJ'⟩ | ⟨rfl, hJ'⟩)⟩) <;> (refine ⟨_, rfl, ?_⟩)))
      all_goals
        have hk2 : Keeps O1 w w' := (h1.mono (fun _ h => h.elim)).trans hk' (Later.refl _ _)
        have hL2 : Later O1 w O2 := fun k h => (hL' k h).imp id (Nat.le_trans h1.size)
      · exact ⟨O2, hk2, hL2, hJ'⟩
      · exact ⟨O2, hk2, hL2, rfl, hJ'⟩
    · have hp' : p x = false := by simpa using hp
      rw [hp'] at hck
      have e : (pre ++ [x]).filter p = pre.filter p := by simp [hp]
      clear hcy hp
      have E := Hid.out (p := Hid ((pre ++ [x]).filter p = pre.filter p)) e
      clear e hp'
      gi_wp2_with ((with_reducible refine wpListIn_callV_round (f := .tmp 10) (y := .func (.func kf) #[] kc) (args := #[.int .i64 x]) rfl rfl ?_ ?_ ?_ hck ?_); rfl; rfl; simp [go_sem]; (rintro e w1 ⟨rfl, h1⟩); (refine ⟨_, rfl, ?_⟩))
      refine ⟨O1, h1.mono (fun _ h => h.elim), Later.refl _ _, ?_⟩
      show J ((pre ++ [x]).filter p) O1 w1
      rw [E.out]
      exact hJ.keeps hj h1 (fun _ _ h => h)
  case done =>
    rintro D O1 w hD hnD hk hL hj hK
    gi_wp2
    refine ⟨by simp, .inl ⟨_, _, rfl, run_takeDeferred hK, ?_⟩⟩
    exact ⟨_, results_none rfl _ _ _, ⟨_, rfl⟩, O1, (hkL.trans hk hla).putObj (.inr (by omega)) _, hla.trans hkL.size hL, .inl (hJ.putObj hj hnD _)⟩
  case stop =>
    rintro D c pre O1 w hD hnD hk hL hpre ⟨rfl, hj⟩ hK
    gi_wp2
    refine ⟨by simp, .inl ⟨_, _, rfl, run_takeDeferred hK, ?_⟩⟩
    exact ⟨_, results_none rfl _ _ _, ⟨_, rfl⟩, O1, (hkL.trans hk hla).putObj (.inr (by omega)) _, hla.trans hkL.size hL, .inr ⟨_, hpre.filter p, hJx.putObj hj hnD _⟩⟩
  · intro k hk h
    rcases hk with ⟨hn, hk⟩ | rfl
    · exact hC k (.inl ⟨hn, hk⟩) h
    · exact hJ.new h0 (by omega) h
theorem Try.info3 : (Tryz.prog.info? 3).map (fun i => (i.zero, i.size, i.bytes)) = some (some (.int .i64 0), 1, 8) := by kernel_rfl
/-- A list's numbers, as they lie. -/
abbrev ints (xs : List Int) : List Value := xs.map (Value.int .i64)
/-- What List hands back. -/
def Listed (xs : List Int) (w : World) (e : Ending) (w' : World) : Prop :=
  ∃ v, e = .returned v ∧ w'.ownsRow w.heap.size 3 1 v xs.length (ints xs) ∧ Below w.heap.size w w'
/-- A slice that reads as the numbers xs. -/
def Reads (W : World) (v : Value) (xs : List Int) : Prop :=
  (∃ a cap, v = .slice a 0 cap ∧ xs = []) ∨
  ∃ b off cap, v = .slice (some ⟨b, off, none⟩) xs.length cap ∧ 0 < xs.length ∧ xs.length ≤ cap ∧ cap ≤ 9223372036854775807 ∧ ∀ i : Nat, i < xs.length → W.cell? ⟨b, off + i, none⟩ = some (.int .i64 (xs[i]?.getD 0))
theorem reads_row {W : World} {base : Nat} {v : Value} {xs : List Int} (h : W.ownsRow base 3 1 v xs.length (ints xs)) : Reads W v xs := by
  rcases h.2 with ⟨rfl, h0⟩ | ⟨g, cap, cur, rfl, hb, hg, hc, hm, hs, ht⟩
  · exact .inl ⟨_, _, rfl, List.eq_nil_of_length_eq_zero h0⟩
  · by_cases h0 : xs.length = 0
    · exact .inl ⟨_, _, by rw [h0], List.eq_nil_of_length_eq_zero h0⟩
    · refine .inr ⟨g, 0, cap, rfl, by omega, hc, by simp only [maxLen] at hm; omega, fun i hi => ?_⟩
      have := h.cells (g := g) rfl i (.int .i64 (xs[i]?.getD 0)) (by simp [ints, hi])
      have e : (⟨g, 0, none⟩ : Addr).add i = ⟨g, i, none⟩ := by unfold Addr.add; split <;> simp_all
      rw [e] at this; rw [show 0 + i = i by omega]; exact this
theorem reads_below {W W' : World} {v : Value} {xs : List Int} (h : Reads W v xs) (hb : Below W.heap.size W W') : Reads W' v xs := by
  rcases h with h | ⟨b, off, cap, rfl, h0, hc, hm, hcell⟩
  · exact .inl h
  · refine .inr ⟨b, off, cap, rfl, h0, hc, hm, fun i hi => (hb.cell (p := ⟨b, off + i, none⟩) ?_).trans (hcell i hi)⟩
    exact World.block_lt_of_cell? W _ (hcell i hi)

/-- What a maker of sequences hands back: a sequence that tells xs, and leans on blocks of its sources, or new ones; nothing that lay has turned. -/
def Makes (Src : Nat → Prop) (xs : List Int) (w : World) (e : Ending) (w' : World) : Prop :=
  ∃ g lb C, e = .returned (.func (.func g) #[] lb) ∧ (∀ args w, (callFunc g args).run Tryz.prog w = .ok (.enter g args) w) ∧ Tells Tryz.prog encI (.func (.func g) #[] lb) C xs w' ∧ (∀ k, C k → Src k ∨ w.heap.size ≤ k) ∧ Below w.heap.size w w'
theorem TellsN.below {s : Value} {C : Nat → Prop} {xs : List Int} {w w' : World} (h : TellsN s C xs w) (hb : Below w.heap.size w w') : TellsN s C xs w' := h.elim .inl fun h => .inr (h.below hb)
theorem TellsN.func {s : Value} {C : Nat → Prop} {xs : List Int} {w : World} (h : TellsN s C xs w) : s = .nilFunc ∨ ∃ fn caps, s = .func fn #[] caps := h.elim (fun h => .inl h.1) (fun h => .inr h.func)
theorem only_makes (s kv : Value) (C Ck : Nat → Prop) (xs : List Int) (p : Int → Bool) (w : World) (hs : TellsN s C xs w) (hkv : Gives kv Ck (fun x => .bool (p x)) w) (hR : ∀ x ∈ xs, InR x) : Calls Tryz.prog 98 #[s, kv] w (Makes (fun k => C k ∨ Ck k) (xs.filter p) w) := by
  have hb : Below w.heap.size w ((w.alloc (.cells #[s] 98)).alloc (.cells #[kv] 92)) := ((Below.refl _ _).alloc (Nat.le_refl _) _).alloc (by simp) _
  have b2 : Boxed ((w.alloc (.cells #[s] 98)).alloc (.cells #[kv] 92)) (w.heap.size + 1) 92 kv := by
    have := Boxed.new (w.alloc (.cells #[s] 98)) 92 kv; rw [World.size_alloc] at this; exact this
  have hT := only_tells s kv C Ck xs p (w.heap.size + 1) w.heap.size _ (hs.below hb) (hkv.later (fun k hk => hb.block k (hkv.lt k hk))) b2 ((Boxed.new w 98 _).alloc _) hR
  obtain ⟨kf, kc, rfl, -, -⟩ := hkv.func
  rcases hs.func with rfl | ⟨fn, caps, rfl⟩
  all_goals
    clear hs
    go_enter Tryz.func98, Tryz.ntmps98
    go_wp2
    go_ret
    exact ⟨_, _, _, rfl, enters_of Tryz.func105 (by kernel_rfl) rfl, hT, fun k hk => (by rcases hk with ⟨_, hk⟩ | hk | hk | hk; exact .inl (.inl hk); exact .inl (.inr hk); exact .inr (by omega); exact .inr (by omega)), hb⟩
/-- A list that is laid on the spot. -/
theorem reads_new (w : World) (xs : List Int) (h0 : 0 < xs.length) (hl : xs.length ≤ 1000) : Reads (w.alloc (.cells (ints xs).toArray 3)) (.slice (some ⟨w.heap.size, 0, none⟩) xs.length xs.length) xs := by
  refine .inr ⟨_, _, _, rfl, h0, Nat.le_refl _, by omega, fun i hi => ?_⟩
  have hh : (w.alloc (.cells (ints xs).toArray 3)).heap[w.heap.size]? = some (.cells (ints xs).toArray 3) := World.alloc_heap_new w _
  rw [show 0 + i = i by omega, cell_of_row _ _ i _ 3 (0, 0) hh]
  simp [hi]
theorem q23 (w : World) (a : Option Addr) (n c n' c' : Nat) : (binOp .eql 44 (.slice a n c) (.slice none n' c')).run Tryz.prog w = .ok (.bool a.isNone) w := Lib.run_eql_slice_nil w _ _ a n c n' c' Tryz.underlying44
theorem clone_nil (cap : Nat) (w : World) : Calls Tryz.prog 45 #[.slice none 0 cap] w (Listed [] w) := by
  have q := @q23
  go_enter Tryz.func45, Tryz.ntmps45
  go_wp2
  go_ret
  exact ⟨_, rfl, World.ownsRow_nil _ _ _ _, Below.refl _ _⟩
set_option maxHeartbeats 1000000 in
theorem clone_some (ad : Addr) (cap : Nat) (xs : List Int) (w : World) (hlen : xs.length ≤ 1000000000) (hc : ∀ j u, (ints xs)[j]? = some u → (w.alloc (.cells #[] 3)).cell? (ad.add j) = some u) :
    Calls Tryz.prog 45 #[.slice (some ad) xs.length cap] w (Listed xs w) := by
  obtain ⟨i0, hi, hz0, hz1, hz2⟩ := info_parts Try.info3
  have q := @q23
  have hm := World.ownsRow_made (base := w.heap.size) (e := 3) (size := 1) w #[] 0 (Nat.le_refl _) (by simp [maxLen]) rfl
  have HC := Lib.hid hc
  clear hc
  go_enter Tryz.func45, Tryz.ntmps45
  go_wp2_with (at_builtin; refine wpList_append_own _ rfl _ _ 44 rfl w.heap.size 3 i0 (.int .i64 0) 1 8 Tryz.underlying44 hi hz0 hz1 hz2 rfl (by decide) _ _ _ rfl hm ad xs.length cap (ints xs) rfl (by simp) HC.out (by simp [Value.oneCell']) (by simp only [maxLen]; omega) (by omega) (by simp) ?_; intro v' w1 hown hgrow _)
  go_ret
  refine ⟨v', rfl, by simpa using hown, ((Below.refl _ _).alloc (Nat.le_refl _) _).grown hgrow (by simp) (fun k e => ?_)⟩
  cases e
  exact Nat.le_refl _
theorem clone_any (v : Value) (xs : List Int) (w : World) (h : Reads w v xs) (hlen : xs.length ≤ 1000000000) : Calls Tryz.prog 45 #[v] w (Listed xs w) := by
  rcases h with ⟨a, cap, rfl, rfl⟩ | ⟨b, off, cap, rfl, h0, hc, hm, hcell⟩
  · cases a with
    | none => exact clone_nil cap w
    | some ad => exact clone_some ad cap [] w hlen (fun j u h => by simp at h)
  · refine clone_some ⟨b, off, none⟩ cap xs w hlen (fun j u h => ?_)
    have e : (⟨b, off, none⟩ : Addr).add j = ⟨b, off + j, none⟩ := by unfold Addr.add; split <;> simp_all
    have hj : j < xs.length := by
      have := (List.getElem?_eq_some_iff.1 h).1; simpa using this
    have hu : u = .int .i64 (xs[j]?.getD 0) := by
      simp [ints, hj] at h ⊢; exact h.symm
    rw [e, hu, Below.cell ((Below.refl w.heap.size w).alloc (Nat.le_refl _) _) (World.block_lt_of_cell? w _ (hcell j hj))]
    exact hcell j hj
set_option maxRecDepth 100000 in
set_option maxHeartbeats 1000000 in
theorem of_tells (v : Value) (b n₀ : Nat) (xs : List Int) (W0 : World) (hb : Boxed W0 b 44 v) (hr : W0.ownsRow n₀ 3 1 v xs.length (ints xs)) (hlen : xs.length ≤ 1000000000) :
    Tells Tryz.prog encI (.func (.func 107) #[] #[at0 b]) (fun k => k = b ∨ v.ownBlock = some k) xs W0 := by
  refine ⟨⟨_, _, rfl⟩, fun k hk => by rcases hk with rfl | hk; exact hb.lt; exact (hr.lt k hk).2, ?_⟩
  intro W hW y J Jx O hyf hJ hJx hY hC h0
  have b0 : Boxed W b 44 v := (hW b (.inl rfl)).trans hb
  have r0 : W.ownsRow n₀ 3 1 v xs.length (ints xs) := ownsRow_agree hr (fun k hk => hW k (.inr hk))
  have hkeep : ∀ W', Keeps O W W' → Reads W' v xs := fun W' hk => reads_row (ownsRow_agree r0 (fun k h => hk.block k (r0.lt k h).2 (hC k (.inr h))))
  refine callsV_func (enters_of Tryz.func107 (by kernel_rfl) rfl) ?_
  refine (callsIn_wide (n := 9)).1 ?_
  refine callsIn_of_wp Tryz.func107 rfl trivial ?_ rfl
  simp only [Tryz.ntmps107, List.size_toArray, List.length_cons, List.length_nil, Nat.reduceAdd, Nat.reduceSub, Array.replicate_succ, Array.replicate_zero, List.push_toArray, List.append_toArray, List.nil_append, List.cons_append]
  have c1 := b0.cell
  obtain ⟨a, cap, rfl⟩ : ∃ a cap, v = .slice a xs.length cap := by
    rcases r0.2 with ⟨rfl, h0⟩ | ⟨g, cap, cur, rfl, _⟩
    · exact ⟨_, _, by rw [h0]⟩
    · exact ⟨_, _, rfl⟩
  obtain ⟨len, hl⟩ : ∃ len, xs.length = len := ⟨_, rfl⟩
  have HL := Lib.hid hl
  have HK := Lib.hid hkeep
  rw [hl] at c1 hlen
  clear hl hkeep hr r0 b0 hb
  gi_wp2
  gi_loopw [7] (fun i wr => ∃ (j : Nat) (O' : Nat → Prop), j ≤ len ∧ i = .int .i64 j ∧ Keeps O W wr ∧ Later O W O' ∧ J (xs.take j) O' wr) (fun i wr => len - (intOf i).toNat)
  case atStart => exact ⟨0, O, by omega, rfl, Keeps.refl _ _, Later.refl _ _, h0⟩
  case round =>
    obtain ⟨j, O', hj, rfl, hk, hL, hj0⟩ := hrel
    by_cases hlt : j < len
    · have hrd := HK.out wr hk
      rcases hrd with ⟨a', cap', he, hx⟩ | ⟨g, off, cap', he, _, hcc, hmm, hcell⟩
      · have := HL.out; rw [hx] at this; simp at this; omega
      · cases he
        have hjx : j < xs.length := by rw [HL.out]; exact hlt
        have d1 := hcell j hjx
        have htk : xs.take (j + 1) = xs.take j ++ [xs[j]?.getD 0] := by rw [List.take_succ_eq_append_getElem hjx]; simp [hjx]
        have HT := Lib.hid htk
        have hc := hY (xs.take j) (xs[j]?.getD 0) O' wr (by rw [← htk]; exact List.take_prefix _ _) hk hL hj0
        clear htk hcell hmm hcc hjx
        gi_wp2_with ((with_reducible refine wpListIn_callV (f := .tmp 11) (y := y) (args := #[.int .i64 (xs[j]?.getD 0)]) rfl rfl ?_ ?_ ?_ hc ?_); rfl; rfl; simp [go_sem]; (rintro e w' ⟨O'', hk', hL', (⟨rfl, hJ'⟩ | ⟨rfl, hJ'⟩)⟩) <;> refine ⟨_, rfl, ?_⟩)
        · go_roundw
          case rel => exact ⟨j + 1, O'', by omega, by go_num, hk.trans hk' hL, hL.trans hk.size hL', by rw [HT.out]; exact hJ'⟩
          case measure => simp [intOf]; omega
        · refine bodyPost_ret (results_none rfl _ _ _) rfl ?_
          exact ⟨⟨_, rfl⟩, O'', hk.trans hk' hL, hL.trans hk.size hL', .inr ⟨_, by rw [← HT.out]; exact List.take_prefix _ _, hJ'⟩⟩
    · gi_wp2
      go_end0
      exact ⟨⟨_, rfl⟩, O', hk, hL, .inl (by have h := HL.out; have e : xs.take j = xs := List.take_of_length_le (by omega); rw [← e]; exact hj0)⟩
theorem of_makes (v : Value) (xs : List Int) (w : World) (h : Reads w v xs) (hlen : xs.length ≤ 1000000000) : Calls Tryz.prog 99 #[v] w (Makes (fun _ => False) xs w) := by
  go_enter Tryz.func99, Tryz.ntmps99
  go_wp2_with fail
  refine (clone_any v xs _ h hlen).mono ?_
  rintro e w1 ⟨v1, rfl, hr, hb⟩
  have hT := of_tells v1 w1.heap.size w.heap.size xs (w1.alloc (.cells #[v1] 44)) (Boxed.new w1 44 _) (hr.alloc _) hlen
  have hB := hb.alloc hb.size (.cells #[v1] 44)
  have hCC : ∀ k, (k = w1.heap.size ∨ v1.ownBlock = some k) → False ∨ w.heap.size ≤ k := fun k h => by
    rcases h with rfl | h
    · exact .inr hb.size
    · exact .inr (hr.lt k h).1
  rcases hr.2 with ⟨rfl, h0⟩ | ⟨g, cap, cur, rfl, _⟩
  all_goals
    clear hr
    go_wp2
    go_ret
    exact ⟨_, _, _, rfl, enters_of Tryz.func107 (by kernel_rfl) rfl, hT, hCC, hB⟩
end Go.Proofs.YtemikojaldoofaaGreat.S
