/- What the functions of package seqs that are ranged over tell. -/
import Derived.Test.YtmjbccimijnceaaData
import Derived.Test.YtmjbccimijnceaaRows
import Derived.WalkKit
import Derived.OwnWalkIn
import Derived.TacticsInMore
import Derived.LoopNIn
import Derived.LoopIn
import Derived.Shelf.Abstract
import Derived.Maps.AppendAt
namespace Go.Proofs.Ytmjbccimijnceaa
open Go.RowKit Go.Shelf
set_option linter.unusedVariables false
attribute [local go_sem] Oper.semAt_some wide_fn

/-- A number, as it is handed on. -/
abbrev encI (x : Int) : Array Value := #[.int .i64 x]
/-- A variable's address. -/
abbrev at0 (b : Nat) : Value := .pointer (some ⟨b, 0, none⟩)

def ups (f : Int) (n : Nat) : List Int := (List.range n).map fun (i : Nat) => f + (i : Int)
theorem ups_succ (f : Int) (n : Nat) : ups f (n + 1) = ups f n ++ [f + n] := by simp [ups, List.range_succ]
theorem ups_length (f : Int) (n : Nat) : (ups f n).length = n := by simp [ups]
theorem ups_prefix (f : Int) {m n : Nat} (h : m ≤ n) : ups f m <+: ups f n := by
  induction n with
  | zero => obtain rfl : m = 0 := by omega
            exact List.prefix_rfl
  | succ n ih =>
    by_cases e : m = n + 1
    · subst e; exact List.prefix_rfl
    · rw [ups_succ]; exact (ih (by omega)).trans (List.prefix_append _ _)

set_option maxRecDepth 100000 in
set_option maxHeartbeats 1000000 in
theorem count_tells (f t : Int) (bf bt : Nat) (W0 : World) (hf : Boxed W0 bf 3 (.int .i64 f)) (ht : Boxed W0 bt 3 (.int .i64 t)) (h1 : -9223372036854775808 ≤ f) (h2 : t ≤ 9223372036854775807) :
    Tells Try.prog encI (.func (.func 30) #[] #[at0 bf, at0 bt]) (fun k => k = bf ∨ k = bt) (ups f (t - f).toNat) W0 := by
  refine ⟨⟨_, _, rfl⟩, fun k hk => by rcases hk with rfl | rfl; exact hf.lt; exact ht.lt, ?_⟩
  intro W hW y J Jx O hyf hJ hJx hY hC h0
  have bf0 : Boxed W bf 3 (.int .i64 f) := (hW bf (.inl rfl)).trans hf
  have bt0 : Boxed W bt 3 (.int .i64 t) := (hW bt (.inr rfl)).trans ht
  refine callsV_func (enters_of Try.func30 (by kernel_rfl) rfl) ?_
  refine (callsIn_wide (n := 9)).1 ?_
  refine callsIn_of_wp Try.func30 rfl trivial ?_ rfl
  simp only [Try.ntmps30, List.size_toArray, List.length_cons, List.length_nil, Nat.reduceAdd, Nat.reduceSub, Array.replicate_succ, Array.replicate_zero, List.push_toArray, List.append_toArray, List.nil_append, List.cons_append]
  have c1 := bf0.cell
  have c2 := bt0.cell
  gi_wp2
  gi_loopw [4] (fun i wr => ∃ (j : Nat) (O' : Nat → Prop), j ≤ (t - f).toNat ∧ i = .int .i64 (f + j) ∧ Keeps O W wr ∧ Later O W O' ∧ J (ups f j) O' wr) (fun i wr => (t - intOf i).toNat)
  case atStart => exact ⟨0, O, by omega, by simp, Keeps.refl _ _, Later.refl _ _, h0⟩
  case round =>
    obtain ⟨j, O', hj, rfl, hk, hL, hj0⟩ := hrel
    have d2 := (hk.boxed bt0 (hC bt (.inr rfl))).cell
    clear c1 c2
    by_cases hlt : f + j < t
    · have hc := hY (ups f j) (f + j) O' wr (by rw [← ups_succ]; exact ups_prefix f (by omega)) hk hL hj0
      gi_wp2_with ((with_reducible refine wpListIn_callV (f := .tmp 11) (y := y) (args := #[.int .i64 (f + j)]) rfl rfl ?_ ?_ ?_ hc ?_); rfl; rfl; simp [go_sem]; (rintro e w' ⟨O'', hk', hL', (⟨rfl, hJ'⟩ | ⟨rfl, hJ'⟩)⟩) <;> refine ⟨_, rfl, ?_⟩)
      · go_roundw
        case rel => exact ⟨j + 1, O'', by omega, by go_num, hk.trans hk' hL, hL.trans hk.size hL', by rw [ups_succ]; exact hJ'⟩
        case measure => simp [intOf]; omega
      · refine bodyPost_ret (results_none rfl _ _ _) rfl ?_
        exact ⟨⟨_, rfl⟩, O'', hk.trans hk' hL, hL.trans hk.size hL', .inr ⟨_, by rw [← ups_succ]; exact ups_prefix f (by omega), hJ'⟩⟩
    · gi_wp2
      go_end0
      have e : j = (t - f).toNat := by omega
      exact ⟨⟨_, rfl⟩, O', hk, hL, .inl (by rw [← e]; exact hj0)⟩

/-- What heeding's own function keeps beside what y keeps: y's variable, and whether it goes on. -/
def heedJ {α : Type} (b0 b1 : Nat) (y : Value) (v : Bool) (J : List α → (Nat → Prop) → World → Prop) (pre : List α) (O' : Nat → Prop) (W : World) : Prop :=
  ∃ O, O' = (fun k => O k ∨ k = b0 ∨ k = b1) ∧ J pre O W ∧ ¬ O b0 ∧ ¬ O b1 ∧ Boxed W b0 43 y ∧ Boxed W b1 4 (.bool v)
theorem heedJ_fits {α : Type} {b0 b1 : Nat} {y : Value} {v : Bool} {J : List α → (Nat → Prop) → World → Prop} (hJ : Fits J) : Fits (heedJ b0 b1 y v J) := by
  rintro s O' W ⟨O, rfl, h, n0, n1, h0, h1⟩
  refine ⟨fun k hk => ?_, fun W' hW => ⟨O, rfl, (hJ _ _ _ h).2 _ (fun k hk => hW k (.inl hk)), n0, n1, (hW _ (.inr (.inl rfl))).trans h0, (hW _ (.inr (.inr rfl))).trans h1⟩⟩
  rcases hk with hk | rfl | rfl
  · exact hJ.lt h hk
  · exact h0.lt
  · exact h1.lt

set_option maxRecDepth 100000 in
set_option maxHeartbeats 1000000 in
theorem heed_takes (b0 b1 : Nat) (hne : b0 ≠ b1) (y : Value) (J Jx : List Int → (Nat → Prop) → World → Prop) (xs : List Int) (O₀ : Nat → Prop) (W₀ W₁ : World) (hJ : Fits J) (hJx : Fits Jx)
    (hY : Takes Try.prog encI y J Jx xs O₀ W₀) (hk1 : Keeps O₀ W₀ W₁) (hb0 : W₀.heap.size ≤ b0) (hb1 : W₀.heap.size ≤ b1) :
    Takes Try.prog encI (.func (.func 26) #[] #[at0 b1, at0 b0]) (heedJ b0 b1 y true J) (heedJ b0 b1 y false Jx) xs (fun k => O₀ k ∨ k = b0 ∨ k = b1) W₁ := by
  rintro pre x O' W hpre hkW hlat ⟨O, rfl, hj, n0, n1, h0, h1⟩
  have hlat1 : Later O₀ W₀ (fun k => O₀ k ∨ k = b0 ∨ k = b1) := fun k hk => by
    rcases hk with hk | rfl | rfl
    · exact .inl hk
    · exact .inr hb0
    · exact .inr hb1
  have hkw : Keeps O₀ W₀ W := hk1.trans hkW hlat1
  have hlw : Later O₀ W₀ O := fun k hk => (hlat1.trans hk1.size hlat) k (.inl hk)
  have hc := hY pre x O W hpre hkw hlw hj
  have c0 := h0.cell
  have c1 := h1.cell
  refine callsV_func (enters_of Try.func26 (by kernel_rfl) rfl) ?_
  refine (callsIn_wide (n := 9)).1 ?_
  refine callsIn_of_wp Try.func26 rfl trivial ?_ rfl
  simp only [Try.ntmps26, List.size_toArray, List.length_cons, List.length_nil, Nat.reduceAdd, Nat.reduceSub, Array.replicate_succ, Array.replicate_zero, List.push_toArray, List.append_toArray, List.nil_append, List.cons_append]
  gi_wp2_with ((with_reducible refine wpListIn_callV (f := .tmp 7) (y := y) (args := #[.int .i64 x]) rfl rfl ?_ ?_ ?_ hc ?_); rfl; rfl; simp [go_sem]; (rintro e w' ⟨O'', hk', hL', (⟨rfl, hJ'⟩ | ⟨rfl, hJ'⟩)⟩) <;> (refine ⟨_, rfl, ?_⟩; have d1 := (hk'.boxed h1 n1).cell; have f1 := (hk'.boxed h1 n1).frozen))
  · go_ret
    exact ⟨fun k => O'' k ∨ k = b0 ∨ k = b1, (hk'.mono (fun k h => .inl (.inl h))).setCell (.inl (.inr (.inr rfl))) _, hL'.wide _, .inl ⟨rfl, O'', rfl, hJ.setCell hJ' (hL'.no h1.lt n1) _, hL'.no h0.lt n0, hL'.no h1.lt n1, (hk'.boxed h0 n0).other hne _, (hk'.boxed h1 n1).set _⟩⟩
  · go_ret
    exact ⟨fun k => O'' k ∨ k = b0 ∨ k = b1, (hk'.mono (fun k h => .inl (.inl h))).setCell (.inl (.inr (.inr rfl))) _, hL'.wide _, .inr ⟨rfl, O'', rfl, hJx.setCell hJ' (hL'.no h1.lt n1) _, hL'.no h0.lt n0, hL'.no h1.lt n1, (hk'.boxed h0 n0).other hne _, (hk'.boxed h1 n1).set _⟩⟩

/-- A sequence, or none. -/
def TellsN (s : Value) (C : Nat → Prop) (xs : List Int) (W0 : World) : Prop := (s = .nilFunc ∧ xs = []) ∨ Tells Try.prog encI s C xs W0

set_option maxRecDepth 100000 in
set_option maxHeartbeats 1000000 in
theorem heed_tells (s : Value) (C : Nat → Prop) (xs : List Int) (b : Nat) (W0 : World) (hs : TellsN s C xs W0) (hb : Boxed W0 b 38 s) :
    Tells Try.prog encI (.func (.func 25) #[] #[at0 b]) (fun k => (s ≠ .nilFunc ∧ C k) ∨ k = b) xs W0 := by
  have qn : ∀ w, (binOp .eql 38 .nilFunc .nilFunc).run Try.prog w = .ok (.bool true) w := fun _ => by kernel_rfl
  have qf : ∀ fn caps w, (binOp .eql 38 (.func fn #[] caps) .nilFunc).run Try.prog w = .ok (.bool false) w := fun _ _ _ => by kernel_rfl
  refine ⟨⟨_, _, rfl⟩, fun k hk => ?_, ?_⟩
  · rcases hk with ⟨hn, hk⟩ | rfl
    · exact hs.elim (fun h => (hn h.1).elim) (fun h => h.lt k hk)
    · exact hb.lt
  intro W hW y J Jx O hyf hJ hJx hY hC h0
  have bb : Boxed W b 38 s := (hW b (.inr rfl)).trans hb
  have cb := bb.cell
  refine callsV_func (enters_of Try.func25 (by kernel_rfl) rfl) ?_
  refine (callsIn_wide (n := 9)).1 ?_
  refine callsIn_of_wp Try.func25 rfl trivial ?_ rfl
  simp only [Try.ntmps25, List.size_toArray, List.length_cons, List.length_nil, Nat.reduceAdd, Nat.reduceSub, Array.replicate_succ, Array.replicate_zero, List.push_toArray, List.append_toArray, List.nil_append, List.cons_append]
  have hbl := bb.lt
  obtain ⟨yf, yc, rfl⟩ := hyf.func
  rcases hs with ⟨rfl, rfl⟩ | hT
  · gi_wp2
    refine bodyPost_ret (results_none rfl _ _ _) rfl ?_
    exact ⟨⟨_, rfl⟩, O, (Keeps.refl _ _).alloc _, Later.refl _ _, .inl (hJ.alloc h0 _)⟩
  · obtain ⟨fn, caps, rfl⟩ := hT.func
    obtain ⟨W1, hW1⟩ : ∃ W1, (W.alloc (.cells #[.func yf #[] yc] 43)).alloc (.cells #[.bool true] 4) = W1 := ⟨_, rfl⟩
    have hk1 : Keeps O W W1 := by rw [← hW1]; exact ((Keeps.refl _ _).alloc _).alloc _
    have b0 : Boxed W1 W.heap.size 43 (.func yf #[] yc) := by rw [← hW1]; exact (Boxed.new W 43 _).alloc _
    have b1 : Boxed W1 (W.heap.size + 1) 4 (.bool true) := by
      rw [← hW1]; have := Boxed.new (W.alloc (.cells #[.func yf #[] yc] 43)) 4 (.bool true); rw [World.size_alloc] at this; exact this
    have hn0 : ¬ O W.heap.size := hJ.new h0 (Nat.le_refl _)
    have hn1 : ¬ O (W.heap.size + 1) := hJ.new h0 (by omega)
    have h01 : heedJ W.heap.size (W.heap.size + 1) (.func yf #[] yc) true J [] (fun k => O k ∨ k = W.heap.size ∨ k = W.heap.size + 1) W1 := by
      refine ⟨O, rfl, ?_, hn0, hn1, b0, b1⟩
      rw [← hW1]; exact hJ.alloc (hJ.alloc h0 _) _
    have hTW := hT.later (W1 := W) (fun k hk => hW k (.inl ⟨by simp, hk⟩))
    have hc := (hTW.keeps hk1 (fun k hk => hC k (.inl ⟨by simp, hk⟩))).tells W1 (fun _ _ => rfl) (.func (.func 26) #[] #[at0 (W.heap.size + 1), at0 W.heap.size]) _ _ _ (.inl ⟨_, _, rfl, enters_of Try.func26 (by kernel_rfl) rfl⟩) (heedJ_fits hJ) (heedJ_fits hJx)
      (heed_takes W.heap.size (W.heap.size + 1) (by omega) (.func yf #[] yc) J Jx xs O W W1 hJ hJx hY hk1 (Nat.le_refl _) (by omega))
      (fun k hk h => by
        have h3 := hTW.lt k hk
        rcases h with h | h | h
        · exact hC k (.inl ⟨by simp, hk⟩) h
        · omega
        · omega) h01
    subst hW1
    clear h01 b1 b0 hk1
    gi_wp2_with ((with_reducible refine wpListIn_callV (f := .tmp 6) (y := .func fn #[] caps) (args := #[.func (.func 26) #[] #[at0 (W.heap.size + 1), at0 W.heap.size]]) rfl rfl ?_ ?_ ?_ hc ?_); rfl; rfl; simp [go_sem]; (rintro e w' ⟨⟨v, rfl⟩, O', hk', hL', (⟨O1, rfl, hj, n0, n1, c0, c1⟩ | ⟨pre, hpre, O1, rfl, hj, n0, n1, c0, c1⟩)⟩) <;> (refine ⟨_, rfl, ?_⟩; have d1 := c1.cell; have f1 := c1.frozen))
    all_goals
      have hla : Later O W (fun k => O k ∨ k = W.heap.size ∨ k = W.heap.size + 1) := fun k hk => by
        rcases hk with hk | rfl | rfl
        · exact .inl hk
        · exact .inr (Nat.le_refl _)
        · exact .inr (by omega)
      have hk1 := (((Keeps.refl O W).alloc (.cells #[.func yf #[] yc] 43)).alloc (.cells #[.bool true] 4))
      have hK := (hk1.trans hk' hla).setCell (p := ⟨W.heap.size + 1, 0, none⟩) (.inr (by simp)) (.bool false)
      have hL : Later O W O1 := fun k hk => (hla.trans hk1.size hL') k (.inl hk)
      go_end0
    · exact ⟨⟨_, rfl⟩, O1, hK, hL, .inl (hJ.setCell hj n1 _)⟩
    · exact ⟨⟨_, rfl⟩, O1, hK, hL, .inr ⟨pre, hpre, hJx.setCell hj n1 _⟩⟩

theorem heeding_any (s : Value) (w : World) (hs : s = .nilFunc ∨ ∃ fn caps, s = .func fn #[] caps) :
    Calls Try.prog 19 #[s] w fun e w' => e = .returned (.func (.func 25) #[] #[at0 w.heap.size]) ∧ w' = w.alloc (.cells #[s] 38) := by
  rcases hs with rfl | ⟨fn, caps, rfl⟩
  all_goals
    go_enter Try.func19, Try.ntmps19
    go_wp2
    go_ret
    exact ⟨rfl, rfl⟩

/-- A number that an int can be. -/
def InR (x : Int) : Prop := -9223372036854775808 ≤ x ∧ x ≤ 9223372036854775807

/-- A function value that answers out of its argument alone, and changes nothing. -/
structure Gives (D : Int → Prop) (f : Value) (C : Nat → Prop) (out : Int → Value) (W0 : World) : Prop where
  func : ∃ g caps, f = .func (.func g) #[] caps ∧ (∀ args w, (callFunc g args).run Try.prog w = .ok (.enter g args) w) ∧
    ∀ W, (∀ k, C k → W.heap[k]? = W0.heap[k]?) → ∀ x, D x → Calls Try.prog g (#[.int .i64 x] ++ caps) W fun e W' => e = .returned (out x) ∧ Keeps (fun _ => False) W W'
  lt : ∀ k, C k → k < W0.heap.size
theorem Gives.gives {D : Int → Prop} {f : Value} {C : Nat → Prop} {out : Int → Value} {W0 : World} (h : Gives D f C out W0) (W : World) (hW : ∀ k, C k → W.heap[k]? = W0.heap[k]?) (x : Int) (hx : D x) :
    CallsV Try.prog f #[.int .i64 x] W fun e W' => e = .returned (out x) ∧ Keeps (fun _ => False) W W' := by
  obtain ⟨g, caps, rfl, eg, h⟩ := h.func
  exact callsV_func eg (h W hW x hx)
theorem Gives.later {D : Int → Prop} {f : Value} {C : Nat → Prop} {out : Int → Value} {W0 W1 : World} (h : Gives D f C out W0) (hk : ∀ k, C k → W1.heap[k]? = W0.heap[k]?) : Gives D f C out W1 := by
  obtain ⟨g, caps, e, eg, h2⟩ := h.func
  exact ⟨⟨g, caps, e, eg, fun W hW x hx => h2 W (fun k hc => (hW k hc).trans (hk k hc)) x hx⟩, fun k hc => by
    have h1 := hk k hc
    rw [Array.getElem?_eq_getElem (h.lt k hc)] at h1
    exact (Array.getElem?_eq_some_iff.1 h1).1⟩
theorem Gives.keeps {D : Int → Prop} {f : Value} {C O : Nat → Prop} {out : Int → Value} {W0 W1 : World} (h : Gives D f C out W0) (hk : Keeps O W0 W1) (hd : ∀ k, C k → ¬ O k) : Gives D f C out W1 :=
  h.later fun k hc => hk.block k (h.lt k hc) (hd k hc)

theorem prefix_mem {xs pre : List Int} {x : Int} (h : pre ++ [x] <+: xs) : x ∈ xs := h.subset (by simp)

set_option maxRecDepth 100000 in
set_option maxHeartbeats 1000000 in
theorem only_tells (D : Int → Prop) (s kv : Value) (C Ck : Nat → Prop) (xs : List Int) (p : Int → Bool) (bk bs : Nat) (W0 : World) (hs : TellsN s C xs W0) (hkv : Gives D kv Ck (fun x => .bool (p x)) W0) (hbk : Boxed W0 bk 43 kv) (hbs : Boxed W0 bs 38 s) (hR : ∀ x ∈ xs, D x) :
    Tells Try.prog encI (.func (.func 22) #[] #[at0 bk, at0 bs]) (fun k => (s ≠ .nilFunc ∧ C k) ∨ Ck k ∨ k = bk ∨ k = bs) (xs.filter p) W0 := by
  refine ⟨⟨_, _, rfl⟩, fun k hk => ?_, ?_⟩
  · rcases hk with ⟨hn, hk⟩ | hk | rfl | rfl
    · exact hs.elim (fun h => (hn h.1).elim) (fun h => h.lt k hk)
    · exact hkv.lt k hk
    · exact hbk.lt
    · exact hbs.lt
  intro W hW y J Jx O hyf hJ hJx hY hC h0
  have b1 : Boxed W bk 43 kv := (hW bk (.inr (.inr (.inl rfl)))).trans hbk
  have b2 : Boxed W bs 38 s := (hW bs (.inr (.inr (.inr rfl)))).trans hbs
  have c1 := b1.cell
  have c2 := b2.cell
  have l1 := b1.lt
  have l2 := b2.lt
  have hkW := hkv.later (W1 := W) (fun k hk => hW k (.inr (.inl hk)))
  have qf : ∀ fn caps w, (binOp .eql 43 (.func fn #[] caps) .nilFunc).run Try.prog w = .ok (.bool false) w := fun _ _ _ => by kernel_rfl
  refine callsV_func (enters_of Try.func22 (by kernel_rfl) rfl) ?_
  refine (callsIn_wide (n := 9)).1 ?_
  refine callsIn_of_wp_marks Try.func22 rfl trivial ?_ rfl
  simp only [Try.ntmps22, List.size_toArray, List.length_cons, List.length_nil, Nat.reduceAdd, Nat.reduceSub, Array.replicate_succ, Array.replicate_zero, List.push_toArray, List.append_toArray, List.nil_append, List.cons_append]
  obtain ⟨yf, yc, rfl⟩ := hyf.func
  obtain ⟨kf, kc, rfl, -, -⟩ := hkv.func
  have hsv : s = .nilFunc ∨ ∃ fn caps, s = .func fn #[] caps := hs.elim (fun h => .inl h.1) (fun h => .inr h.func)
  gi_wp2_with (gi_at_call 19; refine (callsIn_wide.2 (heeding_any s _ hsv)).mono ?_; rintro e w' ⟨rfl, rfl⟩)
  obtain ⟨WL, hWL⟩ : ∃ WL, (W.alloc (.cells #[.func yf #[] yc] 43)).alloc (.cells #[s] 38) = WL := ⟨_, rfl⟩
  have hkL : Keeps O W WL := by rw [← hWL]; exact ((Keeps.refl _ _).alloc _).alloc _
  have hsL : WL.heap.size = W.heap.size + 2 := by rw [← hWL]; simp
  have q0 : Boxed WL W.heap.size 43 (.func yf #[] yc) := by rw [← hWL]; exact (Boxed.new W 43 _).alloc _
  have q2 : Boxed WL (W.heap.size + 1) 38 s := by
    rw [← hWL]; have := Boxed.new (W.alloc (.cells #[.func yf #[] yc] 43)) 38 s; rw [World.size_alloc] at this; exact this
  have hTL : TellsN s C xs WL := hs.elim .inl fun h => .inr ((h.later (W1 := W) (fun k hk => hW k (.inl ⟨by obtain ⟨_, _, e⟩ := h.func; rw [e]; simp, hk⟩))).keeps hkL (fun k hk => hC k (.inl ⟨by obtain ⟨_, _, e⟩ := h.func; rw [e]; simp, hk⟩)))
  have hT := heed_tells s C xs (W.heap.size + 1) WL hTL q2
  have hn0 : ¬ O W.heap.size := hJ.new h0 (Nat.le_refl _)
  have hla : Later O W O := Later.refl _ _
  rw [hWL]
  refine wp_range (gf := 25) (lb := #[at0 (W.heap.size + 1)]) rfl (enters_of Try.func25 (by kernel_rfl) rfl) hT (fun _ => rfl) (fun pre => J (pre.filter p)) (fun c pre O' w => c = .ret ∧ Jx (pre.filter p) O' w) (fun pre => hJ (pre.filter p)) (fun c pre O' w h => ⟨(hJx _ _ _ h.2).1, fun W' hW' => ⟨h.1, (hJx _ _ _ h.2).2 W' hW'⟩⟩)
    O (by rw [← hWL]; exact hJ.alloc (hJ.alloc h0 _) _) ?_
    (fun x => { tmps := #[.func yf #[] yc, at0 bk, at0 bs, at0 W.heap.size, .int .i64 x, .func (.func kf) #[] kc, .bool false, s, .func (.func 25) #[] #[at0 (W.heap.size + 1)], .int .i64 x, undef, undef, undef, undef, undef, undef, undef, undef, undef], defers := [] }) ?assign ?body ?done ?stop
  case assign =>
    intro l x W K hK
    gi_wp2
    exact hK
  case body =>
    rintro l pre x O1 w hpre hk hL hj
    have hkw : Keeps O W w := hkL.trans hk hla
    have hLW : Later O W O1 := hla.trans hkL.size hL
    have d0 := (hk.boxed q0 hn0).cell
    have lw := (hk.boxed q0 hn0).lt
    have d1 := (hkw.boxed b1 (hC bk (.inr (.inr (.inl rfl))))).cell
    have hck := (hkW.keeps hkw (fun k h => hC k (.inr (.inl h)))).gives w (fun _ _ => rfl) x (hR x (prefix_mem hpre))
    have hcy : ∀ w1, Keeps (fun _ => False) w w1 → p x = true → CallsV Try.prog (.func yf #[] yc) #[.int .i64 x] w1 (Took J Jx ((pre ++ [x]).filter p) O1 w1) := fun w1 h1 hp => by
      have e : (pre ++ [x]).filter p = pre.filter p ++ [x] := by simp [hp]
      rw [e]
      exact hY (pre.filter p) x O1 w1 (by rw [← e]; exact hpre.filter p) (hkw.trans h1 (fun _ h => h.elim)) hLW (hJ.keeps hj h1 (fun _ _ h => h))
    clear hY hT hTL hs hsv hC hW hWL hbk hbs b1 b2 c1 c2 hkv hkW hR
    by_cases hp : p x = true
    · rw [hp] at hck
      replace hcy := fun w1 h1 => hcy w1 h1 hp
      gi_wp2_with (first
        | ((with_reducible refine wpListIn_callV_round (f := .tmp 10) (y := .func (.func kf) #[] kc) (args := #[.int .i64 x]) rfl rfl ?_ ?_ ?_ hck ?_); rfl; rfl; simp [go_sem]; (rintro e w1 ⟨rfl, h1⟩); (refine ⟨_, rfl, ?_⟩); have e0 := (h1.boxed (hk.boxed q0 hn0) (fun h => h)).cell)
        | ((with_reducible refine wpListIn_callV_round (f := .tmp 14) (y := .func yf #[] yc) (args := #[.int .i64 x]) rfl rfl ?_ ?_ ?_ (hcy _ h1) ?_); rfl; rfl; simp [go_sem]; (rintro e w' ⟨O2, hk', hL', (⟨rfl, hJ'⟩ | ⟨rfl, hJ'⟩)⟩) <;> (refine ⟨_, rfl, ?_⟩)))
      all_goals
        have hk2 : Keeps O1 w w' := (h1.mono (fun _ h => h.elim)).trans hk' (Later.refl _ _)
        have hL2 : Later O1 w O2 := fun k h => (hL' k h).imp id (Nat.le_trans h1.size)
      · exact ⟨O2, hk2, hL2, hJ'⟩
      · exact ⟨O2, hk2, hL2, rfl, hJ'⟩
    · have hp' : p x = false := by simpa using hp
      rw [hp'] at hck
      have e : (pre ++ [x]).filter p = pre.filter p := by simp [hp]
      clear hcy hp
      have E := Hid.out (p := Hid ((pre ++ [x]).filter p = pre.filter p)) e
      clear e hp'
      gi_wp2_with ((with_reducible refine wpListIn_callV_round (f := .tmp 10) (y := .func (.func kf) #[] kc) (args := #[.int .i64 x]) rfl rfl ?_ ?_ ?_ hck ?_); rfl; rfl; simp [go_sem]; (rintro e w1 ⟨rfl, h1⟩); (refine ⟨_, rfl, ?_⟩))
      refine ⟨O1, h1.mono (fun _ h => h.elim), Later.refl _ _, ?_⟩
      show J ((pre ++ [x]).filter p) O1 w1
      rw [E.out]
      exact hJ.keeps hj h1 (fun _ _ h => h)
  case done =>
    rintro D O1 w hD hnD hk hL hj hK
    gi_wp2
    refine ⟨by simp, .inl ⟨_, _, rfl, run_takeDeferred hK, ?_⟩⟩
    exact ⟨_, results_none rfl _ _ _, ⟨_, rfl⟩, O1, (hkL.trans hk hla).putObj (.inr (by omega)) _, hla.trans hkL.size hL, .inl (hJ.putObj hj hnD _)⟩
  case stop =>
    rintro D c pre O1 w hD hnD hk hL hpre ⟨rfl, hj⟩ hK
    gi_wp2
    refine ⟨by simp, .inl ⟨_, _, rfl, run_takeDeferred hK, ?_⟩⟩
    exact ⟨_, results_none rfl _ _ _, ⟨_, rfl⟩, O1, (hkL.trans hk hla).putObj (.inr (by omega)) _, hla.trans hkL.size hL, .inr ⟨_, hpre.filter p, hJx.putObj hj hnD _⟩⟩
  · intro k hk h
    rcases hk with ⟨hn, hk⟩ | rfl
    · exact hC k (.inl ⟨hn, hk⟩) h
    · exact hJ.new h0 (by omega) h

end Go.Proofs.Ytmjbccimijnceaa
