/- What List, Of, Some, Fold and Back hand back, and when two lists are the same. -/
import Derived.Test.YtmjfahjafecnnaaIters
import Derived.Maps.AppendAt
import Derived.Deep.QuietTactic
import Derived.BigQuiet
import Derived.Lib.Hide
import Derived.WalkLawsBesides
import Derived.Handy
namespace Go.Proofs.Ytmjfahjafecnnaa
open Go.RowKit Go.Shelf
set_option linter.unusedVariables false
attribute [local go_sem] Oper.semAt_some wide_fn

theorem Try.info3 : (Try.prog.info? 3).map (fun i => (i.zero, i.size, i.bytes)) = some (some (.int .i64 0), 1, 8) := by kernel_rfl

/-- A list's numbers, as they lie. -/
abbrev ints (xs : List Int) : List Value := xs.map (Value.int .i64)

/-- A slice in a variable, which owns the numbers xs: who owns it owns the variable's block and the row's. -/
def listJ (n₀ b : Nat) (xs : List Int) (O : Nat → Prop) (W : World) : Prop :=
  ∃ v, O = (fun k => k = b ∨ v.ownBlock = some k) ∧ Boxed W b 23 v ∧ W.ownsRow n₀ 3 1 v xs.length (ints xs)
theorem listJ_fits (n₀ b : Nat) : Fits (listJ n₀ b) := by
  rintro s O W ⟨v, rfl, hb, hr⟩
  refine ⟨fun k hk => ?_, fun W' hW => ⟨v, rfl, (hW _ (.inl rfl)).trans hb, ownsRow_agree hr (fun k hk => hW k (.inr hk))⟩⟩
  rcases hk with rfl | hk
  · exact hb.lt
  · exact (hr.lt k hk).2

/-- What List hands back. -/
def Listed (xs : List Int) (w : World) (e : Ending) (w' : World) : Prop :=
  ∃ v, e = .returned v ∧ w'.ownsRow w.heap.size 3 1 v xs.length (ints xs) ∧ Below w.heap.size w w'

set_option maxRecDepth 100000 in
set_option maxHeartbeats 1000000 in
theorem list_any (s : Value) (C : Nat → Prop) (xs : List Int) (w : World) (hs : TellsN s C xs w) (hlen : xs.length ≤ 1000000000) :
    Calls Try.prog 9 #[s] w (Listed xs w) := by
  obtain ⟨i0, hi, hz0, hz1, hz2⟩ := info_parts Try.info3
  have hsv : s = .nilFunc ∨ ∃ fn caps, s = .func fn #[] caps := hs.elim (fun h => .inl h.1) (fun h => .inr h.func)
  refine (callsIn_wide (n := 9)).1 ?_
  refine callsIn_of_wp_marks Try.func9 rfl trivial ?_ rfl
  simp only [Try.ntmps9, List.size_toArray, List.length_cons, List.length_nil, Nat.reduceAdd, Nat.reduceSub, Array.replicate_succ, Array.replicate_zero, List.push_toArray, List.append_toArray, List.nil_append, List.cons_append]
  gi_wp2_with (gi_at_call 25; refine (callsIn_wide.2 (heeding_any s _ hsv)).mono ?_; rintro e w' ⟨rfl, rfl⟩)
  obtain ⟨WL, hWL⟩ : ∃ WL, (w.alloc (.cells #[.slice none 0 0] 23)).alloc (.cells #[s] 27) = WL := ⟨_, rfl⟩
  have hBL : Below w.heap.size w WL := by rw [← hWL]; exact ((Below.refl _ _).alloc (Nat.le_refl _) _).alloc (by simp) _
  have hsL : WL.heap.size = w.heap.size + 2 := by rw [← hWL]; simp
  have q0 : Boxed WL w.heap.size 23 (.slice none 0 0) := by rw [← hWL]; exact (Boxed.new w 23 _).alloc _
  have q2 : Boxed WL (w.heap.size + 1) 27 s := by
    rw [← hWL]; have := Boxed.new (w.alloc (.cells #[.slice none 0 0] 23)) 27 s; rw [World.size_alloc] at this; exact this
  have hTL : TellsN s C xs WL := hs.elim .inl fun h => .inr (h.below hBL)
  have hT := heed_tells s C xs (w.heap.size + 1) WL hTL q2
  rw [hWL]
  refine wp_range (gf := 33) (lb := #[at0 (w.heap.size + 1)]) rfl (enters_of Try.func33 (by kernel_rfl) rfl) hT (fun _ => rfl) (listJ w.heap.size w.heap.size) (fun _ _ _ _ => False) (listJ_fits _ _) (fun _ => fits_none)
    (fun k => k = w.heap.size ∨ (Value.slice none 0 0).ownBlock = some k) ⟨_, rfl, q0, World.ownsRow_nil _ _ _ _⟩ ?_
    (fun x => { tmps := #[s, undef, .slice none 0 0, at0 w.heap.size, .int .i64 x, s, .func (.func 33) #[] #[at0 (w.heap.size + 1)], .int .i64 x, undef, undef, undef, undef, undef], defers := [] }) ?assign ?body ?done ?stop
  case assign =>
    intro l x W K hK
    gi_wp2
    exact hK
  case body =>
    rintro l pre x O W hpre hk hL ⟨v, rfl, hv, hrow⟩
    have hc := hv.cell
    have hl1 : pre.length < 1000000000 := by have := hpre.length_le; simp at this; omega
    have hsz : w.heap.size ≤ W.heap.size := by have := hk.size; omega
    gi_wp2_with (gi_at_builtin; refine wpListIn_append_later _ rfl _ _ 23 rfl w.heap.size 3 i0 (.int .i64 0) 1 8 Try.underlying23 hi hz0 hz1 hz2 rfl (by decide) _ _ _ rfl (hrow.alloc _) ⟨W.heap.size, 0, none⟩ 1 1 [.int .i64 x] rfl rfl (cell_one_new _ _ _) (by simp [Value.oneCell']) (by simp only [maxLen]; omega) (by omega) (by simp; omega) ?_; intro v' w1 hown' hgrow _ hlat; obtain ⟨g', cap', rfl⟩ := ownsRow_succ hown'; obtain ⟨hv1, hv2, hr2, hk2, hb2⟩ := hv.appended (by decide) hrow hsz (Nat.le_refl _) hown' hgrow; have hc1 := hv1.cell; have hf1 := hv1.frozen)
    refine ⟨_, (((Keeps.refl _ W).alloc _).grown hgrow (fun k e => .inl (.inr e))).setCell (.inl (.inl rfl)) _, fun k h => ?_, _, rfl, hv2, by simpa using hr2⟩
    rcases h with h | h
    · exact .inl (.inl h)
    · rcases hlat with hlat | hlat
      · exact .inl (.inr (hlat ▸ h))
      · exact .inr (by have := hlat k h; simp at this; omega)
  case done =>
    rintro D O W hD hnD hk hL ⟨v, rfl, hv, hrow⟩ hK
    have hc := hv.cell
    gi_wp2
    refine ⟨by simp, .inl ⟨_, _, rfl, run_takeDeferred hK, ?_⟩⟩
    refine ⟨_, results_tmp rfl _ _ _, v, rfl, ownsRow_putObj hrow _ hK rfl, hBL.trans ((hk.putObj (.inr hD) _).below (by omega) (fun k h => ?_))⟩
    rcases h with h | h
    · omega
    · simp [Value.ownBlock] at h
  case stop =>
    rintro D c pre O W _ _ _ _ _ h _
    exact h.elim
  · intro k hk h
    rcases h with rfl | h
    · rcases hk with ⟨hn, hk⟩ | hk
      · rcases hs with ⟨hs, _⟩ | hs
        · exact hn hs
        · have := hs.lt _ hk; omega
      · omega
    · simp [Value.ownBlock] at h

/-- A slice that reads as the numbers xs. -/
def Reads (W : World) (v : Value) (xs : List Int) : Prop :=
  (∃ a cap, v = .slice a 0 cap ∧ xs = []) ∨
  ∃ b off cap, v = .slice (some ⟨b, off, none⟩) xs.length cap ∧ 0 < xs.length ∧ xs.length ≤ cap ∧ cap ≤ 9223372036854775807 ∧ ∀ i : Nat, i < xs.length → W.cell? ⟨b, off + i, none⟩ = some (.int .i64 (xs[i]?.getD 0))

theorem reads_row {W : World} {base : Nat} {v : Value} {xs : List Int} (h : W.ownsRow base 3 1 v xs.length (ints xs)) : Reads W v xs := by
  rcases h.2 with ⟨rfl, h0⟩ | ⟨g, cap, cur, rfl, hb, hg, hc, hm, hs, ht⟩
  · exact .inl ⟨_, _, rfl, List.eq_nil_of_length_eq_zero h0⟩
  · by_cases h0 : xs.length = 0
    · exact .inl ⟨_, _, by rw [h0], List.eq_nil_of_length_eq_zero h0⟩
    · refine .inr ⟨g, 0, cap, rfl, by omega, hc, by simp only [maxLen] at hm; omega, fun i hi => ?_⟩
      have := h.cells (g := g) rfl i (.int .i64 (xs[i]?.getD 0)) (by simp [ints, hi])
      have e : (⟨g, 0, none⟩ : Addr).add i = ⟨g, i, none⟩ := by unfold Addr.add; split <;> simp_all
      rw [e] at this; rw [show 0 + i = i by omega]; exact this

theorem reads_below {W W' : World} {v : Value} {xs : List Int} (h : Reads W v xs) (hb : Below W.heap.size W W') : Reads W' v xs := by
  rcases h with h | ⟨b, off, cap, rfl, h0, hc, hm, hcell⟩
  · exact .inl h
  · refine .inr ⟨b, off, cap, rfl, h0, hc, hm, fun i hi => (hb.cell (p := ⟨b, off + i, none⟩) ?_).trans (hcell i hi)⟩
    exact World.block_lt_of_cell? W _ (hcell i hi)

/-- What 'same' hands back. -/
def Samed (xs ys : List Int) (w : World) (e : Ending) (w' : World) : Prop := e = .returned (.bool (decide (xs = ys))) ∧ ∃ n, w' = w.drewN n
theorem samed_mk {xs ys : List Int} {w w' : World} {bo : Bool} (h : bo = decide (xs = ys)) (hw : ∃ n, w' = w.drewN n) : Samed xs ys w (.returned (.bool bo)) w' := ⟨by rw [h], hw⟩

theorem same_len (v1 v2 : Value) (xs ys : List Int) (w : World) (h1 : Reads w v1 xs) (h2 : Reads w v2 ys) (hne : xs.length ≠ ys.length) (l1 : xs.length ≤ 9223372036854775807) (l2 : ys.length ≤ 9223372036854775807) :
    Calls Try.prog 8 #[v1, v2] w (Samed xs ys w) := by
  have e : false = decide (xs = ys) := by symm; simp; intro h; exact hne (by rw [h])
  have q1 : ((xs.length : Int) != (ys.length : Int)) = true := by simp; omega
  obtain ⟨a1, n1, c1, rfl, e1⟩ : ∃ a n c, v1 = .slice a n c ∧ n = xs.length := by
    rcases h1 with ⟨a, c, rfl, rfl⟩ | ⟨b, off, cap, rfl, _⟩ <;> exact ⟨_, _, _, rfl, rfl⟩
  obtain ⟨a2, n2, c2, rfl, e2⟩ : ∃ a n c, v2 = .slice a n c ∧ n = ys.length := by
    rcases h2 with ⟨a, c, rfl, rfl⟩ | ⟨b, off, cap, rfl, _⟩ <;> exact ⟨_, _, _, rfl, rfl⟩
  rw [← e1, ← e2] at q1
  have E := Lib.hid e
  clear e e1 e2 h1 h2 hne
  go_enter Try.func8, Try.ntmps8
  go_wp2
  go_ret
  exact samed_mk E.out ⟨0, rfl⟩

theorem same_none (a1 a2 : Option Addr) (c1 c2 : Nat) (w : World) :
    Calls Try.prog 8 #[.slice a1 0 c1, .slice a2 0 c2] w (Samed [] [] w) := by
  go_enter Try.func8, Try.ntmps8
  go_wp2
  go_rounds 1
  go_ret
  exact samed_mk (by simp) ⟨0, rfl⟩

set_option maxHeartbeats 1000000 in
theorem same_some (b1 o1 c1 b2 o2 c2 : Nat) (xs ys : List Int) (n : Nat) (w : World) (hn : 0 < n) (l1 : xs.length = n) (l2 : ys.length = n) (hc1 : n ≤ c1) (hc2 : n ≤ c2) (hm1 : c1 ≤ 9223372036854775807) (hm2 : c2 ≤ 9223372036854775807)
    (h1 : ∀ i : Nat, i < n → w.cell? ⟨b1, o1 + i, none⟩ = some (.int .i64 (xs[i]?.getD 0))) (h2 : ∀ i : Nat, i < n → w.cell? ⟨b2, o2 + i, none⟩ = some (.int .i64 (ys[i]?.getD 0))) :
    Calls Try.prog 8 #[.slice (some ⟨b1, o1, none⟩) n c1, .slice (some ⟨b2, o2, none⟩) n c2] w (Samed xs ys w) := by
  have H1 := Lib.hid h1
  have H2 := Lib.hid h2
  have L1 := Lib.hid l1
  have L2 := Lib.hid l2
  clear h1 h2 l1 l2
  go_enter Try.func8, Try.ntmps8
  go_wp2
  go_loopw [5] (fun i wr => ∃ k m : Nat, k ≤ n ∧ i = .int .i64 k ∧ wr = w.drewN m ∧ ∀ j : Nat, j < k → xs[j]?.getD 0 = ys[j]?.getD 0) (fun i _ => n - (intOf i).toNat)
  case atStart => exact ⟨0, 0, by omega, rfl, rfl, fun j hj => by omega⟩
  case round =>
    obtain ⟨k, m, hk, rfl, rfl, hj⟩ := hrel
    have HJ := Lib.hid hj
    clear hj
    by_cases hlt : k < n
    · have d1 : (w.drewN m).cell? ⟨b1, o1 + k, none⟩ = some (.int .i64 (xs[k]?.getD 0)) := H1.out k hlt
      have d2 : (w.drewN m).cell? ⟨b2, o2 + k, none⟩ = some (.int .i64 (ys[k]?.getD 0)) := H2.out k hlt
      have HD := Lib.hid (show ∀ q, (w.drewN m).drewN q = w.drewN (m + q) from fun q => World.drewN_drewN _ _ _)
      generalize w.drewN m = w2 at *
      go_wp2
      go_quiet (fail)
      go_wp2
      · have hne : xs[k]?.getD 0 ≠ ys[k]?.getD 0 := by simpa using ‹(xs[k]?.getD 0 != ys[k]?.getD 0) = true›
        go_ret
        exact samed_mk (by symm; simp; intro h; exact hne (by rw [h])) ⟨_, HD.out _⟩
      · have he : xs[k]?.getD 0 = ys[k]?.getD 0 := by simpa using ‹(xs[k]?.getD 0 != ys[k]?.getD 0) = false›
        go_roundw
        case rel =>
          refine ⟨k + 1, _, by omega, by go_num, HD.out _, fun j hj => ?_⟩
          by_cases e : j = k
          · rw [e]; exact he
          · exact HJ.out j (by omega)
        case measure => simp [intOf]; omega
    · go_wp2
      go_ret
      refine samed_mk ?_ ⟨_, rfl⟩
      symm
      simp
      refine List.ext_getElem (by rw [L1.out, L2.out]) fun i h1 h2 => ?_
      have := HJ.out i (by have := L1.out; omega)
      simpa [h1, h2] using this
theorem same_any (v1 v2 : Value) (xs ys : List Int) (w : World) (h1 : Reads w v1 xs) (h2 : Reads w v2 ys) (l1 : xs.length ≤ 9223372036854775807) (l2 : ys.length ≤ 9223372036854775807) :
    Calls Try.prog 8 #[v1, v2] w (Samed xs ys w) := by
  by_cases hne : xs.length = ys.length
  · rcases h1 with ⟨a, c, rfl, rfl⟩ | ⟨b1, o1, c1, rfl, hp, hc1, hm1, hcell1⟩
    · rcases h2 with ⟨a2, c2, rfl, rfl⟩ | ⟨b2, o2, c2, rfl, hp2, _⟩
      · exact same_none _ _ _ _ w
      · simp at hne; rw [← hne] at hp2; simp at hp2
    · rcases h2 with ⟨a2, c2, rfl, rfl⟩ | ⟨b2, o2, c2, rfl, hp2, hc2, hm2, hcell2⟩
      · rw [hne] at hp; simp at hp
      · rw [← hne] at hc2 hcell2 ⊢
        exact same_some b1 o1 c1 b2 o2 c2 xs ys xs.length w hp rfl hne.symm hc1 hc2 hm1 hm2 hcell1 hcell2
  · exact same_len v1 v2 xs ys w h1 h2 hne l1 l2

end Go.Proofs.Ytmjfahjafecnnaa
