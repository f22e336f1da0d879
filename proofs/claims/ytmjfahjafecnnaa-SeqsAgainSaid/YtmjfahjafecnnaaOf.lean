/- What Of and slices.Clone hand back. -/
import Derived.Test.YtmjfahjafecnnaaMakers
import Derived.Lib.SliceRun
namespace Go.Proofs.Ytmjfahjafecnnaa
open Go.RowKit Go.Shelf
set_option linter.unusedVariables false
attribute [local go_sem] Oper.semAt_some wide_fn

theorem q23 (w : World) (a : Option Addr) (n c n' c' : Nat) : (binOp .eql 23 (.slice a n c) (.slice none n' c')).run Try.prog w = .ok (.bool a.isNone) w := Lib.run_eql_slice_nil w _ _ a n c n' c' Try.underlying23

theorem clone_nil (cap : Nat) (w : World) : Calls Try.prog 29 #[.slice none 0 cap] w (Listed [] w) := by
  have q := @q23
  go_enter Try.func29, Try.ntmps29
  go_wp2
  go_ret
  exact ⟨_, rfl, World.ownsRow_nil _ _ _ _, Below.refl _ _⟩

set_option maxHeartbeats 1000000 in
theorem clone_some (ad : Addr) (cap : Nat) (xs : List Int) (w : World) (hlen : xs.length ≤ 1000000000) (hc : ∀ j u, (ints xs)[j]? = some u → (w.alloc (.cells #[] 3)).cell? (ad.add j) = some u) :
    Calls Try.prog 29 #[.slice (some ad) xs.length cap] w (Listed xs w) := by
  obtain ⟨i0, hi, hz0, hz1, hz2⟩ := info_parts Try.info3
  have q := @q23
  have hm := World.ownsRow_made (base := w.heap.size) (e := 3) (size := 1) w #[] 0 (Nat.le_refl _) (by simp [maxLen]) rfl
  have HC := Lib.hid hc
  clear hc
  go_enter Try.func29, Try.ntmps29
  go_wp2_with (at_builtin; refine wpList_append_own _ rfl _ _ 23 rfl w.heap.size 3 i0 (.int .i64 0) 1 8 Try.underlying23 hi hz0 hz1 hz2 rfl (by decide) _ _ _ rfl hm ad xs.length cap (ints xs) rfl (by simp) HC.out (by simp [Value.oneCell']) (by simp only [maxLen]; omega) (by omega) (by simp) ?_; intro v' w1 hown hgrow _)
  go_ret
  refine ⟨v', rfl, by simpa using hown, ((Below.refl _ _).alloc (Nat.le_refl _) _).grown hgrow (by simp) (fun k e => ?_)⟩
  cases e
  exact Nat.le_refl _

theorem clone_any (v : Value) (xs : List Int) (w : World) (h : Reads w v xs) (hlen : xs.length ≤ 1000000000) : Calls Try.prog 29 #[v] w (Listed xs w) := by
  rcases h with ⟨a, cap, rfl, rfl⟩ | ⟨b, off, cap, rfl, h0, hc, hm, hcell⟩
  · cases a with
    | none => exact clone_nil cap w
    | some ad => exact clone_some ad cap [] w hlen (fun j u h => by simp at h)
  · refine clone_some ⟨b, off, none⟩ cap xs w hlen (fun j u h => ?_)
    have e : (⟨b, off, none⟩ : Addr).add j = ⟨b, off + j, none⟩ := by unfold Addr.add; split <;> simp_all
    have hj : j < xs.length := by
      have := (List.getElem?_eq_some_iff.1 h).1; simpa using this
    have hu : u = .int .i64 (xs[j]?.getD 0) := by
      simp [ints, hj] at h ⊢; exact h.symm
    rw [e, hu, Below.cell ((Below.refl w.heap.size w).alloc (Nat.le_refl _) _) (World.block_lt_of_cell? w _ (hcell j hj))]
    exact hcell j hj

set_option maxRecDepth 100000 in
set_option maxHeartbeats 1000000 in
theorem of_tells (v : Value) (b n₀ : Nat) (xs : List Int) (W0 : World) (hb : Boxed W0 b 23 v) (hr : W0.ownsRow n₀ 3 1 v xs.length (ints xs)) (hlen : xs.length ≤ 1000000000) :
    Tells Try.prog encI (.func (.func 30) #[] #[at0 b]) (fun k => k = b ∨ v.ownBlock = some k) xs W0 := by
  refine ⟨⟨_, _, rfl⟩, fun k hk => by rcases hk with rfl | hk; exact hb.lt; exact (hr.lt k hk).2, ?_⟩
  intro W hW y J Jx O hyf hJ hJx hY hC h0
  have b0 : Boxed W b 23 v := (hW b (.inl rfl)).trans hb
  have r0 : W.ownsRow n₀ 3 1 v xs.length (ints xs) := ownsRow_agree hr (fun k hk => hW k (.inr hk))
  have hkeep : ∀ W', Keeps O W W' → Reads W' v xs := fun W' hk => reads_row (ownsRow_agree r0 (fun k h => hk.block k (r0.lt k h).2 (hC k (.inr h))))
  refine callsV_func (enters_of Try.func30 (by kernel_rfl) rfl) ?_
  refine (callsIn_wide (n := 9)).1 ?_
  refine callsIn_of_wp Try.func30 rfl trivial ?_ rfl
  simp only [Try.ntmps30, List.size_toArray, List.length_cons, List.length_nil, Nat.reduceAdd, Nat.reduceSub, Array.replicate_succ, Array.replicate_zero, List.push_toArray, List.append_toArray, List.nil_append, List.cons_append]
  have c1 := b0.cell
  obtain ⟨a, cap, rfl⟩ : ∃ a cap, v = .slice a xs.length cap := by
    rcases r0.2 with ⟨rfl, h0⟩ | ⟨g, cap, cur, rfl, _⟩
    · exact ⟨_, _, by rw [h0]⟩
    · exact ⟨_, _, rfl⟩
  obtain ⟨len, hl⟩ : ∃ len, xs.length = len := ⟨_, rfl⟩
  have HL := Lib.hid hl
  have HK := Lib.hid hkeep
  rw [hl] at c1 hlen
  clear hl hkeep hr r0 b0 hb
  gi_wp2
  gi_loopw [7] (fun i wr => ∃ (j : Nat) (O' : Nat → Prop), j ≤ len ∧ i = .int .i64 j ∧ Keeps O W wr ∧ Later O W O' ∧ J (xs.take j) O' wr) (fun i wr => len - (intOf i).toNat)
  case atStart => exact ⟨0, O, by omega, rfl, Keeps.refl _ _, Later.refl _ _, h0⟩
  case round =>
    obtain ⟨j, O', hj, rfl, hk, hL, hj0⟩ := hrel
    by_cases hlt : j < len
    · have hrd := HK.out wr hk
      rcases hrd with ⟨a', cap', he, hx⟩ | ⟨g, off, cap', he, _, hcc, hmm, hcell⟩
      · have := HL.out; rw [hx] at this; simp at this; omega
      · cases he
        have hjx : j < xs.length := by rw [HL.out]; exact hlt
        have d1 := hcell j hjx
        have htk : xs.take (j + 1) = xs.take j ++ [xs[j]?.getD 0] := by rw [List.take_succ_eq_append_getElem hjx]; simp [hjx]
        have HT := Lib.hid htk
        have hc := hY (xs.take j) (xs[j]?.getD 0) O' wr (by rw [← htk]; exact List.take_prefix _ _) hk hL hj0
        clear htk hcell hmm hcc hjx
        gi_wp2_with ((with_reducible refine wpListIn_callV (f := .tmp 11) (y := y) (args := #[.int .i64 (xs[j]?.getD 0)]) rfl rfl ?_ ?_ ?_ hc ?_); rfl; rfl; simp [go_sem]; (rintro e w' ⟨O'', hk', hL', (⟨rfl, hJ'⟩ | ⟨rfl, hJ'⟩)⟩) <;> refine ⟨_, rfl, ?_⟩)
        · go_roundw
          case rel => exact ⟨j + 1, O'', by omega, by go_num, hk.trans hk' hL, hL.trans hk.size hL', by rw [HT.out]; exact hJ'⟩
          case measure => simp [intOf]; omega
        · refine bodyPost_ret (results_none rfl _ _ _) rfl ?_
          exact ⟨⟨_, rfl⟩, O'', hk.trans hk' hL, hL.trans hk.size hL', .inr ⟨_, by rw [← HT.out]; exact List.take_prefix _ _, hJ'⟩⟩
    · gi_wp2
      go_end0
      exact ⟨⟨_, rfl⟩, O', hk, hL, .inl (by have h := HL.out; have e : xs.take j = xs := List.take_of_length_le (by omega); rw [← e]; exact hj0)⟩

theorem of_makes (v : Value) (xs : List Int) (w : World) (h : Reads w v xs) (hlen : xs.length ≤ 1000000000) : Calls Try.prog 14 #[v] w (Makes (fun _ => False) xs w) := by
  go_enter Try.func14, Try.ntmps14
  go_wp2_with fail
  refine (clone_any v xs _ h hlen).mono ?_
  rintro e w1 ⟨v1, rfl, hr, hb⟩
  have hT := of_tells v1 w1.heap.size w.heap.size xs (w1.alloc (.cells #[v1] 23)) (Boxed.new w1 23 _) (hr.alloc _) hlen
  have hB := hb.alloc hb.size (.cells #[v1] 23)
  have hCC : ∀ k, (k = w1.heap.size ∨ v1.ownBlock = some k) → False ∨ w.heap.size ≤ k := fun k h => by
    rcases h with rfl | h
    · exact .inr hb.size
    · exact .inr (hr.lt k h).1
  rcases hr.2 with ⟨rfl, h0⟩ | ⟨g, cap, cur, rfl, _⟩
  all_goals
    clear hr
    go_wp2
    go_ret
    exact ⟨_, _, _, rfl, enters_of Try.func30 (by kernel_rfl) rfl, hT, hCC, hB⟩
end Go.Proofs.Ytmjfahjafecnnaa
