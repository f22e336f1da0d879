/- That the numbers from one up to another one are told, and the first of them. -/
import Derived.Test.YtmjfahjafecnnaaMakers
import Derived.ProofKit
import Derived.OpenShut
namespace Go.Proofs.Ytmjfahjafecnnaa
open Go.RowKit Go.Shelf
set_option linter.unusedVariables false
attribute [local go_sem] Oper.semAt_some wide_fn

/-- Two slices lie in different rows. -/
def Apart (v u : Value) : Prop := ∀ k, v.ownBlock = some k → u.ownBlock ≠ some k
theorem Apart.symm {v u : Value} (h : Apart v u) : Apart u v := fun k hk hv => h k hv hk

/-- One of two slices was appended to: the other one holds what it held, and they lie apart still. -/
theorem append_two {n₀ : Nat} {w W w1 : World} {tmp : Obj} {v v' u : Value} {k m : Nat} {xs ys : List Value} (hB : Below n₀ w W) (hn : n₀ ≤ W.heap.size) (hrow : W.ownsRow n₀ 3 1 v k xs) (hu : W.ownsRow n₀ 3 1 u m ys) (hap : Apart v u)
    (hgrow : (W.alloc tmp).grownBy w1 v.ownBlock) (hlat : v'.ownBlock = v.ownBlock ∨ ∀ k, v'.ownBlock = some k → (W.alloc tmp).heap.size ≤ k) :
    w1.ownsRow n₀ 3 1 u m ys ∧ Apart v' u ∧ Below n₀ w w1 ∧ n₀ ≤ w1.heap.size := by
  refine ⟨(hu.alloc tmp).kept hgrow ?_, fun k hk hu' => ?_, ((hB.alloc hn tmp).grown hgrow (by simp; omega) (fun k e => (hrow.lt k e).1)), by have := hgrow.size; simp at this; omega⟩
  · cases hb : u.ownBlock with
    | none => exact .inl rfl
    | some q => exact .inr fun e => hap q e.symm hb
  · rcases hlat with h | h
    · exact hap k (h ▸ hk) hu'
    · have h1 := h k hk
      have h2 := (hu.lt k hu').2
      simp at h1; omega

theorem row_slice {W : World} {base k : Nat} {v : Value} {xs : List Value} (h : W.ownsRow base 3 1 v k xs) : ∃ a cap, v = .slice a k cap := by
  rcases h.2 with ⟨rfl, rfl⟩ | ⟨g, cap, cur, rfl, _⟩
  · exact ⟨_, _, rfl⟩
  · exact ⟨_, _, rfl⟩

theorem counts_lives (f t n : Int) (w : World) (h : f > 1000000 ∨ f < -1000000 ∨ t > 1000000 ∨ (t > f ∧ t - f > 3000)) (hf : InR f) (ht : InR t) :
    Calls Try.prog 3 #[.int .i64 f, .int .i64 t, .int .i64 n] w fun e w' => e = .returned (.bool true) ∧ Below w.heap.size w w' := by
  have f1 := hf.1; have f2 := hf.2; have t1 := ht.1; have t2 := ht.2
  clear hf ht
  by_cases c1 : f > 1000000
  · go_enter Try.func3, Try.ntmps3
    go_wp2_with (go_at_call 7; refine (lives_any _).mono ?_; rintro e w' ⟨rfl, hb⟩)
    go_ret
    exact ⟨rfl, hb⟩
  · by_cases c2 : f < -1000000
    · go_enter Try.func3, Try.ntmps3
      go_wp2_with (go_at_call 7; refine (lives_any _).mono ?_; rintro e w' ⟨rfl, hb⟩)
      go_ret
      exact ⟨rfl, hb⟩
    · by_cases c3 : t > 1000000
      · go_enter Try.func3, Try.ntmps3
        go_wp2_with (go_at_call 7; refine (lives_any _).mono ?_; rintro e w' ⟨rfl, hb⟩)
        go_ret
        exact ⟨rfl, hb⟩
      · have c4 : t > f := by omega
        have c5 : t - f > 3000 := by omega
        clear h
        go_enter Try.func3, Try.ntmps3
        go_wp2_with (go_at_call 7; refine (lives_any _).mono ?_; rintro e w' ⟨rfl, hb⟩)
        go_ret
        exact ⟨rfl, hb⟩

/-- What the law's own lists hold when j numbers have come. -/
def CountR (f n : Int) (w : World) (N : Nat) (s7 s8 s9 : Value) (wr : World) : Prop :=
  ∃ j : Nat, j ≤ N ∧ s9 = .int .i64 (f + j) ∧ Below w.heap.size w wr ∧ wr.ownsRow w.heap.size 3 1 s7 (ups f j).length (ints (ups f j)) ∧ wr.ownsRow w.heap.size 3 1 s8 ((ups f j).take n.toNat).length (ints ((ups f j).take n.toNat)) ∧ Apart s7 s8

set_option maxRecDepth 100000 in
set_option maxHeartbeats 2000000 in
theorem counts_main (f t n : Int) (w : World) (h1 : f ≤ 1000000) (h2 : -1000000 ≤ f) (h3 : t ≤ 1000000) (h4 : t - f ≤ 3000) (ht : InR t) (hn : InR n) :
    Calls Try.prog 3 #[.int .i64 f, .int .i64 t, .int .i64 n] w fun e w' => e = .returned (.bool true) ∧ Below w.heap.size w w' := by
  obtain ⟨i0, hi, hz0, hz1, hz2⟩ := info_parts Try.info3
  have t1 := ht.1
  have n1 := hn.1
  have n2 := hn.2
  have c1 : ¬ f > 1000000 := by omega
  have c2 : ¬ f < -1000000 := by omega
  have c3 : ¬ t > 1000000 := by omega
  refine (callsIn_wide (n := 9)).1 ?_
  refine callsIn_of_wp Try.func3 rfl trivial ?_ rfl
  simp only [Try.ntmps3, List.size_toArray, List.length_cons, List.length_nil, Nat.reduceAdd, Nat.reduceSub, Array.replicate_succ, Array.replicate_zero, List.push_toArray, List.append_toArray, List.nil_append, List.cons_append]
  by_cases c4 : t > f
  · have c5 : ¬ t - f > 3000 := by omega
    gi_wp2
    gi_loopw [7, 8, 9] (fun a b c wr => CountR f n w (t - f).toNat a b c wr) (fun _ _ c _ => (t - intOf c).toNat)
    case atStart => exact ⟨0, by omega, by simp, Below.refl _ _, World.ownsRow_nil _ _ _ _, by rw [show ups f 0 = [] from rfl, List.take_nil]; exact World.ownsRow_nil _ _ _ _, fun k h => by simp [Value.ownBlock] at h⟩
    case round =>
      obtain ⟨j, hj, rfl, hB, hr7, hr8, hap⟩ := hrel
      have hs := hB.size
      by_cases hlt : f + j < t
      · have hjj : j < 3001 := by omega
        by_cases hjn : (j : Int) < n
        · rw [List.take_of_length_le (by rw [ups_length]; omega)] at hr8
          rw [ups_length] at hr7 hr8
          obtain ⟨a8, c8, rfl⟩ := row_slice hr8
          gi_wp2_with (first
            | (gi_at_builtin; refine wpListIn_append_later _ rfl _ _ 23 rfl w.heap.size 3 i0 (.int .i64 0) 1 8 Try.underlying23 hi hz0 hz1 hz2 rfl (by decide) _ _ _ rfl (hr7.alloc _) ⟨wr.heap.size, 0, none⟩ 1 1 [.int .i64 (f + j)] rfl rfl (cell_one_new _ _ _) (by simp [Value.oneCell']) (by simp only [maxLen]; omega) (by omega) (by simp; omega) ?_; intro v7 w1 hown7 hgrow7 _ hlat7; obtain ⟨hr8', hap', hB', hs'⟩ := append_two hB hs hr7 hr8 hap hgrow7 hlat7; clear hr7)
            | (gi_at_builtin; refine wpListIn_append_later _ rfl _ _ 23 rfl w.heap.size 3 i0 (.int .i64 0) 1 8 Try.underlying23 hi hz0 hz1 hz2 rfl (by decide) _ _ _ rfl (hr8'.alloc _) ⟨w1.heap.size, 0, none⟩ 1 1 [.int .i64 (f + j)] rfl rfl (cell_one_new _ _ _) (by simp [Value.oneCell']) (by simp only [maxLen]; omega) (by omega) (by simp; omega) ?_; intro v8 w2 hown8 hgrow8 _ hlat8; obtain ⟨hr7', hap2, hB2, hs2⟩ := append_two hB' hs' hr8' hown7 hap'.symm hgrow8 hlat8))
          go_roundw
          case rel =>
            refine ⟨j + 1, by omega, by go_num, hB2, ?_, ?_, hap2.symm⟩
            · rw [ups_length, ups_succ]; simpa using hr7'
            · rw [List.take_of_length_le (by rw [ups_length]; omega), ups_length, ups_succ]; simpa using hown8
          case measure => simp [intOf]; omega
        · obtain ⟨m8, hm8, hm8n⟩ : ∃ m8 : Nat, ((ups f j).take n.toNat).length = m8 ∧ ¬ ((m8 : Int) < n) := ⟨_, rfl, by rw [List.length_take, ups_length]; omega⟩
          rw [hm8] at hr8
          rw [ups_length] at hr7
          have HM := Lib.hid hm8
          clear hm8
          obtain ⟨a8, c8, rfl⟩ := row_slice hr8
          gi_wp2_with (gi_at_builtin; refine wpListIn_append_later _ rfl _ _ 23 rfl w.heap.size 3 i0 (.int .i64 0) 1 8 Try.underlying23 hi hz0 hz1 hz2 rfl (by decide) _ _ _ rfl (hr7.alloc _) ⟨wr.heap.size, 0, none⟩ 1 1 [.int .i64 (f + j)] rfl rfl (cell_one_new _ _ _) (by simp [Value.oneCell']) (by simp only [maxLen]; omega) (by omega) (by simp; omega) ?_; intro v7 w1 hown7 hgrow7 _ hlat7; obtain ⟨hr8', hap', hB', hs'⟩ := append_two hB hs hr7 hr8 hap hgrow7 hlat7; clear hr7)
          go_roundw
          case rel =>
            refine ⟨j + 1, by omega, by go_num, hB', ?_, ?_, hap'⟩
            · rw [ups_length, ups_succ]; simpa using hown7
            · have e : (ups f (j + 1)).take n.toNat = (ups f j).take n.toNat := by rw [ups_succ, List.take_append_of_le_length (by rw [ups_length]; omega)]
              rw [e, HM.out]; exact hr8'
          case measure => simp [intOf]; omega
      · obtain rfl : j = (t - f).toNat := by omega
        have hlen := ups_length f (t - f).toNat
        have HN := Lib.hid (show ((ups f (t - f).toNat).take n.toNat).length ≤ (ups f (t - f).toNat).length from by rw [List.length_take]; omega)
        have HJ := Lib.hid hlen
        clear hlen hj
        gi_wp2_with fail
        refine (callsIn_wide.2 (count_makes f t _ ⟨by omega, by omega⟩ ht)).mono ?_
        rintro e w1 ⟨g1, lb1, C1, rfl, -, hT1, -, hb1⟩
        gi_wp2_with fail
        refine (callsIn_wide.2 (list_any _ C1 _ _ (.inr hT1) (by rw [HJ.out]; omega))).mono ?_
        rintro e w2 ⟨v2, rfl, hr2, hb2⟩
        have hb12 := hb1.trans (hb2.mono hb1.size)
        gi_wp2_with fail
        refine (callsIn_wide.2 (same_any _ _ _ _ _ (reads_row hr2) (reads_below (reads_row hr7) hb12) (by rw [HJ.out]; omega) (by rw [HJ.out]; omega))).mono ?_
        rintro e w3 ⟨rfl, n3, rfl⟩
        rw [show decide (ups f (t - f).toNat = ups f (t - f).toNat) = true by simp]
        have hb3 := below_drewN hb12 n3
        gi_wp2_with fail
        refine (callsIn_wide.2 (count_makes f t _ ⟨by omega, by omega⟩ ht)).mono ?_
        rintro e w4 ⟨g4, lb4, C4, rfl, -, hT4, -, hb4⟩
        have hb5 := hb3.trans (hb4.mono hb3.size)
        gi_wp2_with fail
        refine (callsIn_wide.2 (first_makes _ C4 _ n _ (.inr hT4) hn)).mono ?_
        rintro e w5 ⟨g5, lb5, C5, rfl, -, hT5, -, hb6⟩
        have hb7 := hb5.trans (hb6.mono hb5.size)
        gi_wp2_with fail
        refine (callsIn_wide.2 (list_any _ C5 _ _ (.inr hT5) (by have := HN.out; have := HJ.out; omega))).mono ?_
        rintro e w6 ⟨v6, rfl, hr6, hb8⟩
        have hb9 := hb7.trans (hb8.mono hb7.size)
        gi_wp2_with fail
        refine (callsIn_wide.2 (same_any _ _ _ _ _ (reads_row hr6) (reads_below (reads_row hr8) hb9) (by have := HN.out; have := HJ.out; omega) (by have := HN.out; have := HJ.out; omega))).mono ?_
        rintro e w7 ⟨rfl, n7, rfl⟩
        rw [show decide (List.take n.toNat (ups f (t - f).toNat) = List.take n.toNat (ups f (t - f).toNat)) = true by simp]
        have hb10 := below_drewN hb9 n7
        gi_wp2_with fail
        refine (callsIn_wide.2 (lives_any _)).mono ?_
        rintro e w8 ⟨rfl, hb11⟩
        gi_wp2
        go_ret
        exact ⟨rfl, (hB.trans (hb10.mono hs)).trans (hb11.mono (Nat.le_trans hs hb10.size))⟩
  · gi_wp2
    gi_loopw [7, 8, 9] (fun a b c wr => CountR f n w (t - f).toNat a b c wr) (fun _ _ c _ => (t - intOf c).toNat)
    case atStart => exact ⟨0, by omega, by simp, Below.refl _ _, World.ownsRow_nil _ _ _ _, by rw [show ups f 0 = [] from rfl, List.take_nil]; exact World.ownsRow_nil _ _ _ _, fun k h => by simp [Value.ownBlock] at h⟩
    case round =>
      obtain ⟨j, hj, rfl, hB, hr7, hr8, hap⟩ := hrel
      have hs := hB.size
      by_cases hlt : f + j < t
      · exfalso; omega
      · obtain rfl : j = (t - f).toNat := by omega
        have hlen := ups_length f (t - f).toNat
        have HN := Lib.hid (show ((ups f (t - f).toNat).take n.toNat).length ≤ (ups f (t - f).toNat).length from by rw [List.length_take]; omega)
        have HJ := Lib.hid hlen
        clear hlen hj
        gi_wp2_with fail
        refine (callsIn_wide.2 (count_makes f t _ ⟨by omega, by omega⟩ ht)).mono ?_
        rintro e w1 ⟨g1, lb1, C1, rfl, -, hT1, -, hb1⟩
        gi_wp2_with fail
        refine (callsIn_wide.2 (list_any _ C1 _ _ (.inr hT1) (by rw [HJ.out]; omega))).mono ?_
        rintro e w2 ⟨v2, rfl, hr2, hb2⟩
        have hb12 := hb1.trans (hb2.mono hb1.size)
        gi_wp2_with fail
        refine (callsIn_wide.2 (same_any _ _ _ _ _ (reads_row hr2) (reads_below (reads_row hr7) hb12) (by rw [HJ.out]; omega) (by rw [HJ.out]; omega))).mono ?_
        rintro e w3 ⟨rfl, n3, rfl⟩
        rw [show decide (ups f (t - f).toNat = ups f (t - f).toNat) = true by simp]
        have hb3 := below_drewN hb12 n3
        gi_wp2_with fail
        refine (callsIn_wide.2 (count_makes f t _ ⟨by omega, by omega⟩ ht)).mono ?_
        rintro e w4 ⟨g4, lb4, C4, rfl, -, hT4, -, hb4⟩
        have hb5 := hb3.trans (hb4.mono hb3.size)
        gi_wp2_with fail
        refine (callsIn_wide.2 (first_makes _ C4 _ n _ (.inr hT4) hn)).mono ?_
        rintro e w5 ⟨g5, lb5, C5, rfl, -, hT5, -, hb6⟩
        have hb7 := hb5.trans (hb6.mono hb5.size)
        gi_wp2_with fail
        refine (callsIn_wide.2 (list_any _ C5 _ _ (.inr hT5) (by have := HN.out; have := HJ.out; omega))).mono ?_
        rintro e w6 ⟨v6, rfl, hr6, hb8⟩
        have hb9 := hb7.trans (hb8.mono hb7.size)
        gi_wp2_with fail
        refine (callsIn_wide.2 (same_any _ _ _ _ _ (reads_row hr6) (reads_below (reads_row hr8) hb9) (by have := HN.out; have := HJ.out; omega) (by have := HN.out; have := HJ.out; omega))).mono ?_
        rintro e w7 ⟨rfl, n7, rfl⟩
        rw [show decide (List.take n.toNat (ups f (t - f).toNat) = List.take n.toNat (ups f (t - f).toNat)) = true by simp]
        have hb10 := below_drewN hb9 n7
        gi_wp2_with fail
        refine (callsIn_wide.2 (lives_any _)).mono ?_
        rintro e w8 ⟨rfl, hb11⟩
        gi_wp2
        go_ret
        exact ⟨rfl, (hB.trans (hb10.mono hs)).trans (hb11.mono (Nat.le_trans hs hb10.size))⟩

theorem counts_all (f t n : Int) (w : World) (hf : InR f) (ht : InR t) (hn : InR n) :
    Calls Try.prog 3 #[.int .i64 f, .int .i64 t, .int .i64 n] w fun e w' => e = .returned (.bool true) ∧ Below w.heap.size w w' := by
  by_cases h : f > 1000000 ∨ f < -1000000 ∨ t > 1000000 ∨ (t > f ∧ t - f > 3000)
  · exact counts_lives f t n w h hf ht
  · exact counts_main f t n w (by omega) (by omega) (by omega) (by omega) ht hn
theorem inR_wf {x : Int} (h : (Lit.int .i64 x).wf = true) : InR x := by
  simp only [Lit.wf, Bool.and_eq_true, decide_eq_true_eq] at h
  exact h

end Go.Proofs.Ytmjfahjafecnnaa
