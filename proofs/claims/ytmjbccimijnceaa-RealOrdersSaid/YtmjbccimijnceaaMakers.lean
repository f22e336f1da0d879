/- What List, Of, Some, Fold and Back hand back, and when two lists are the same. -/
import Derived.Test.YtmjbccimijnceaaIters
import Derived.Maps.AppendAt
import Derived.Deep.QuietTactic
import Derived.BigQuiet
import Derived.Lib.Hide
import Derived.WalkLawsBesides
import Derived.Handy
namespace Go.Proofs.Ytmjbccimijnceaa
open Go.RowKit Go.Shelf
set_option linter.unusedVariables false
attribute [local go_sem] Oper.semAt_some wide_fn

theorem Try.info3 : (Try.prog.info? 3).map (fun i => (i.zero, i.size, i.bytes)) = some (some (.int .i64 0), 1, 8) := by kernel_rfl

/-- A list's numbers, as they lie. -/
abbrev ints (xs : List Int) : List Value := xs.map (Value.int .i64)

/-- A slice in a variable, which owns the numbers xs: who owns it owns the variable's block and the row's. -/
def listJ (n₀ b : Nat) (xs : List Int) (O : Nat → Prop) (W : World) : Prop :=
  ∃ v, O = (fun k => k = b ∨ v.ownBlock = some k) ∧ Boxed W b 23 v ∧ W.ownsRow n₀ 3 1 v xs.length (ints xs)
theorem listJ_fits (n₀ b : Nat) : Fits (listJ n₀ b) := by
  rintro s O W ⟨v, rfl, hb, hr⟩
  refine ⟨fun k hk => ?_, fun W' hW => ⟨v, rfl, (hW _ (.inl rfl)).trans hb, ownsRow_agree hr (fun k hk => hW k (.inr hk))⟩⟩
  rcases hk with rfl | hk
  · exact hb.lt
  · exact (hr.lt k hk).2

/-- What List hands back. -/
def Listed (xs : List Int) (w : World) (e : Ending) (w' : World) : Prop :=
  ∃ v, e = .returned v ∧ w'.ownsRow w.heap.size 3 1 v xs.length (ints xs) ∧ Below w.heap.size w w'

set_option maxRecDepth 100000 in
set_option maxHeartbeats 1000000 in
theorem list_any (s : Value) (C : Nat → Prop) (xs : List Int) (w : World) (hs : TellsN s C xs w) (hlen : xs.length ≤ 1000000000) :
    Calls Try.prog 14 #[s] w (Listed xs w) := by
  obtain ⟨i0, hi, hz0, hz1, hz2⟩ := info_parts Try.info3
  have hsv : s = .nilFunc ∨ ∃ fn caps, s = .func fn #[] caps := hs.elim (fun h => .inl h.1) (fun h => .inr h.func)
  refine (callsIn_wide (n := 9)).1 ?_
  refine callsIn_of_wp_marks Try.func14 rfl trivial ?_ rfl
  simp only [Try.ntmps14, List.size_toArray, List.length_cons, List.length_nil, Nat.reduceAdd, Nat.reduceSub, Array.replicate_succ, Array.replicate_zero, List.push_toArray, List.append_toArray, List.nil_append, List.cons_append]
  gi_wp2_with (gi_at_call 19; refine (callsIn_wide.2 (heeding_any s _ hsv)).mono ?_; rintro e w' ⟨rfl, rfl⟩)
  obtain ⟨WL, hWL⟩ : ∃ WL, (w.alloc (.cells #[.slice none 0 0] 23)).alloc (.cells #[s] 38) = WL := ⟨_, rfl⟩
  have hBL : Below w.heap.size w WL := by rw [← hWL]; exact ((Below.refl _ _).alloc (Nat.le_refl _) _).alloc (by simp) _
  have hsL : WL.heap.size = w.heap.size + 2 := by rw [← hWL]; simp
  have q0 : Boxed WL w.heap.size 23 (.slice none 0 0) := by rw [← hWL]; exact (Boxed.new w 23 _).alloc _
  have q2 : Boxed WL (w.heap.size + 1) 38 s := by
    rw [← hWL]; have := Boxed.new (w.alloc (.cells #[.slice none 0 0] 23)) 38 s; rw [World.size_alloc] at this; exact this
  have hTL : TellsN s C xs WL := hs.elim .inl fun h => .inr (h.below hBL)
  have hT := heed_tells s C xs (w.heap.size + 1) WL hTL q2
  rw [hWL]
  refine wp_range (gf := 25) (lb := #[at0 (w.heap.size + 1)]) rfl (enters_of Try.func25 (by kernel_rfl) rfl) hT (fun _ => rfl) (listJ w.heap.size w.heap.size) (fun _ _ _ _ => False) (listJ_fits _ _) (fun _ => fits_none)
    (fun k => k = w.heap.size ∨ (Value.slice none 0 0).ownBlock = some k) ⟨_, rfl, q0, World.ownsRow_nil _ _ _ _⟩ ?_
    (fun x => { tmps := #[s, undef, .slice none 0 0, at0 w.heap.size, .int .i64 x, s, .func (.func 25) #[] #[at0 (w.heap.size + 1)], .int .i64 x, undef, undef, undef, undef, undef], defers := [] }) ?assign ?body ?done ?stop
  case assign =>
    intro l x W K hK
    gi_wp2
    exact hK
  case body =>
    rintro l pre x O W hpre hk hL ⟨v, rfl, hv, hrow⟩
    have hc := hv.cell
    have hl1 : pre.length < 1000000000 := by have := hpre.length_le; simp at this; omega
    have hsz : w.heap.size ≤ W.heap.size := by have := hk.size; omega
    gi_wp2_with (gi_at_builtin; refine wpListIn_append_later _ rfl _ _ 23 rfl w.heap.size 3 i0 (.int .i64 0) 1 8 Try.underlying23 hi hz0 hz1 hz2 rfl (by decide) _ _ _ rfl (hrow.alloc _) ⟨W.heap.size, 0, none⟩ 1 1 [.int .i64 x] rfl rfl (cell_one_new _ _ _) (by simp [Value.oneCell']) (by simp only [maxLen]; omega) (by omega) (by simp; omega) ?_; intro v' w1 hown' hgrow _ hlat; obtain ⟨g', cap', rfl⟩ := ownsRow_succ hown'; obtain ⟨hv1, hv2, hr2, hk2, hb2⟩ := hv.appended (by decide) hrow hsz (Nat.le_refl _) hown' hgrow; have hc1 := hv1.cell; have hf1 := hv1.frozen)
    refine ⟨_, (((Keeps.refl _ W).alloc _).grown hgrow (fun k e => .inl (.inr e))).setCell (.inl (.inl rfl)) _, fun k h => ?_, _, rfl, hv2, by simpa using hr2⟩
    rcases h with h | h
    · exact .inl (.inl h)
    · rcases hlat with hlat | hlat
      · exact .inl (.inr (hlat ▸ h))
      · exact .inr (by have := hlat k h; simp at this; omega)
  case done =>
    rintro D O W hD hnD hk hL ⟨v, rfl, hv, hrow⟩ hK
    have hc := hv.cell
    gi_wp2
    refine ⟨by simp, .inl ⟨_, _, rfl, run_takeDeferred hK, ?_⟩⟩
    refine ⟨_, results_tmp rfl _ _ _, v, rfl, ownsRow_putObj hrow _ hK rfl, hBL.trans ((hk.putObj (.inr hD) _).below (by omega) (fun k h => ?_))⟩
    rcases h with h | h
    · omega
    · simp [Value.ownBlock] at h
  case stop =>
    rintro D c pre O W _ _ _ _ _ h _
    exact h.elim
  · intro k hk h
    rcases h with rfl | h
    · rcases hk with ⟨hn, hk⟩ | hk
      · rcases hs with ⟨hs, _⟩ | hs
        · exact hn hs
        · have := hs.lt _ hk; omega
      · omega
    · simp [Value.ownBlock] at h

/-- What a maker of sequences hands back: a sequence that tells xs, and leans on blocks of its sources, or new ones; nothing that lay has turned. -/
def Makes (Src : Nat → Prop) (xs : List Int) (w : World) (e : Ending) (w' : World) : Prop :=
  ∃ g lb C, e = .returned (.func (.func g) #[] lb) ∧ (∀ args w, (callFunc g args).run Try.prog w = .ok (.enter g args) w) ∧ Tells Try.prog encI (.func (.func g) #[] lb) C xs w' ∧ (∀ k, C k → Src k ∨ w.heap.size ≤ k) ∧ Below w.heap.size w w'

theorem count_makes (f t : Int) (w : World) (hf : InR f) (ht : InR t) : Calls Try.prog 23 #[.int .i64 f, .int .i64 t] w (Makes (fun _ => False) (ups f (t - f).toNat) w) := by
  go_enter Try.func23, Try.ntmps23
  go_wp2
  go_ret
  refine ⟨_, _, _, rfl, enters_of Try.func30 (by kernel_rfl) rfl, count_tells f t w.heap.size (w.heap.size + 1) _ ((Boxed.new w 3 _).alloc _) ?_ hf.1 ht.2, fun k hk => .inr (by omega), ((Below.refl _ _).alloc (Nat.le_refl _) _).alloc (by simp) _⟩
  have := Boxed.new (w.alloc (.cells #[.int .i64 f] 3)) 3 (.int .i64 t); rw [World.size_alloc] at this; exact this

theorem TellsN.below {s : Value} {C : Nat → Prop} {xs : List Int} {w w' : World} (h : TellsN s C xs w) (hb : Below w.heap.size w w') : TellsN s C xs w' := h.elim .inl fun h => .inr (h.below hb)
theorem TellsN.func {s : Value} {C : Nat → Prop} {xs : List Int} {w : World} (h : TellsN s C xs w) : s = .nilFunc ∨ ∃ fn caps, s = .func fn #[] caps := h.elim (fun h => .inl h.1) (fun h => .inr h.func)

theorem only_makes (D : Int → Prop) (s kv : Value) (C Ck : Nat → Prop) (xs : List Int) (p : Int → Bool) (w : World) (hs : TellsN s C xs w) (hkv : Gives D kv Ck (fun x => .bool (p x)) w) (hR : ∀ x ∈ xs, D x) : Calls Try.prog 16 #[s, kv] w (Makes (fun k => C k ∨ Ck k) (xs.filter p) w) := by
  have hb : Below w.heap.size w ((w.alloc (.cells #[s] 38)).alloc (.cells #[kv] 43)) := ((Below.refl _ _).alloc (Nat.le_refl _) _).alloc (by simp) _
  have b2 : Boxed ((w.alloc (.cells #[s] 38)).alloc (.cells #[kv] 43)) (w.heap.size + 1) 43 kv := by
    have := Boxed.new (w.alloc (.cells #[s] 38)) 43 kv; rw [World.size_alloc] at this; exact this
  have hT := only_tells D s kv C Ck xs p (w.heap.size + 1) w.heap.size _ (hs.below hb) (hkv.later (fun k hk => hb.block k (hkv.lt k hk))) b2 ((Boxed.new w 38 _).alloc _) hR
  obtain ⟨kf, kc, rfl, -, -⟩ := hkv.func
  rcases hs.func with rfl | ⟨fn, caps, rfl⟩
  all_goals
    clear hs
    go_enter Try.func16, Try.ntmps16
    go_wp2
    go_ret
    exact ⟨_, _, _, rfl, enters_of Try.func22 (by kernel_rfl) rfl, hT, fun k hk => (by rcases hk with ⟨_, hk⟩ | hk | hk | hk; exact .inl (.inl hk); exact .inl (.inr hk); exact .inr (by omega); exact .inr (by omega)), hb⟩

end Go.Proofs.Ytmjbccimijnceaa
