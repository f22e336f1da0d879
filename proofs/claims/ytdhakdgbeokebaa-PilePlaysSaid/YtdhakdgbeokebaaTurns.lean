/- The chapter's example; the law PileTurns. -/
import Derived.Test.YtdhakdgbeokebaaPile
import Derived.OpenShut
namespace Go.Proofs.Ytdhakdgbeokebaa
open Go.RowKit Go.Shelf
set_option linter.unusedVariables false

theorem chain {O O1 O2 : Nat → Prop} {A B C : World} (h : Keeps O A B) (hL : Later O A O1) (k : Keeps O1 B C) (l : Later O1 B O2) : Keeps O A C ∧ Later O A O2 := ⟨h.trans k hL, hL.trans h.size l⟩

/-- A new pile. -/
theorem held_new (w : World) (t e : TypeId) : Held t e w.heap.size [] (fun k => k = w.heap.size ∨ (Value.slice none 0 0).ownBlock = some k) (w.alloc (.cells #[.slice none 0 0] t)) :=
  ⟨_, rfl, Boxed.new w t _, Row.nil _ _⟩
theorem new_below {w : World} {o : Obj} {O : Nat → Prop} {w' : World} (h : Keeps O (w.alloc o) w') (hO : ∀ k, O k → w.heap.size ≤ k) : Below w.heap.size w w' :=
  ((Below.refl _ _).alloc (Nat.le_refl _) o).trans (h.below (by simp) hO)

theorem Held.box {t e : TypeId} {B n : Nat} {vs : List Value} {O : Nat → Prop} {W : World} (h : Held t e B vs O W) (hn : vs.length = n) : ∃ a cap, Boxed W B t (.slice a n cap) ∧ n ≤ cap ∧ cap ≤ maxLen := by
  obtain ⟨v, rfl, hb, hr⟩ := h
  rw [hn] at hr
  obtain ⟨a, cap, rfl, h1, h2⟩ := hr.form
  exact ⟨a, cap, hb, h1, h2⟩

theorem lives_any (w : World) : Calls Try.prog 6 #[] w fun e w' => e = .returned (.bool true) ∧ Below w.heap.size w w' := by
  have h0 := held_new w 26 3
  go_enter Try.func6, Try.ntmps6
  go_wp2_with fail
  refine (push_any w.heap.size [] 1 _ _ h0 (by simp)).mono ?_
  rintro e w1 ⟨rfl, O1, k1, l1, h1⟩
  go_wp2_with fail
  refine (push_any w.heap.size [1] 2 _ _ h1 (by simp)).mono ?_
  rintro e w2 ⟨rfl, O2, k2, l2, h2⟩
  obtain ⟨k2, l2⟩ := chain k1 l1 k2 l2
  go_wp2_with fail
  refine (push_any w.heap.size [1, 2] 3 _ _ h2 (by simp)).mono ?_
  rintro e w3 ⟨rfl, O3, k3, l3, h3⟩
  obtain ⟨k3, l3⟩ := chain k2 l2 k3 l3
  go_wp2_with fail
  refine (pop_yes w.heap.size [1, 2] 3 _ _ h3).mono ?_
  rintro e w4 ⟨rfl, O4, k4, l4, h4⟩
  obtain ⟨k4, l4⟩ := chain k3 l3 k4 l4
  go_wp2_with fail
  refine (shift_yes w.heap.size [2] 1 _ _ h4).mono ?_
  rintro e w5 ⟨rfl, O5, k5, l5, h5⟩
  obtain ⟨k5, l5⟩ := chain k4 l4 k5 l5
  obtain ⟨a, cap, hb, _, _⟩ := h5.box (n := 1) rfl
  have hB := new_below k5 (fun k hk => by rcases hk with hk | hk; omega; cases hk)
  go_wp2_with (go_at_call 16; refine (len_any w.heap.size 1 cap a _ hb (by omega)).mono ?_; rintro e w' ⟨rfl, rfl⟩)
  go_ret
  exact ⟨rfl, hB⟩

/-- Two piles that share nothing, nor anything with what lay below n₀. -/
def Two (w : World) (P Q : Nat) (ps qs : List Int) (Op Oq : Nat → Prop) (W : World) : Prop :=
  Held 26 3 P (ints ps) Op W ∧ Held 26 3 Q (ints qs) Oq W ∧ (∀ k, Op k → ¬ Oq k) ∧ Below w.heap.size w W ∧ (∀ k, Op k → w.heap.size ≤ k) ∧ (∀ k, Oq k → w.heap.size ≤ k)
theorem Two.left {w : World} {P Q : Nat} {ps qs ps' : List Int} {Op Oq : Nat → Prop} {W W' : World} (h : Two w P Q ps qs Op Oq W) (hT : Turned 26 3 P (ints ps') Op W W') : ∃ Op', Two w P Q ps' qs Op' Oq W' := by
  obtain ⟨hp, hq, hd, hB, h1, h2⟩ := h
  obtain ⟨O', hk, hL, hh⟩ := hT
  have hs := hB.size
  refine ⟨O', hh, (Held.fits _ _ _).keeps hq hk (fun k ho h => hd k h ho), fun k ho hq' => ?_, hB.trans (hk.below hs h1), fun k ho => ?_, h2⟩
  · rcases hL k ho with h | h
    · exact hd k h hq'
    · have := (Held.fits _ _ _).lt hq hq'; omega
  · rcases hL k ho with h | h
    · exact h1 k h
    · omega
theorem Two.symm {w : World} {P Q : Nat} {ps qs : List Int} {Op Oq : Nat → Prop} {W : World} (h : Two w P Q ps qs Op Oq W) : Two w Q P qs ps Oq Op W :=
  ⟨h.2.1, h.1, fun k ho hp => h.2.2.1 k hp ho, h.2.2.2.1, h.2.2.2.2.2, h.2.2.2.2.1⟩
theorem Two.right {w : World} {P Q : Nat} {ps qs qs' : List Int} {Op Oq : Nat → Prop} {W W' : World} (h : Two w P Q ps qs Op Oq W) (hT : Turned 26 3 Q (ints qs') Oq W W') : ∃ Oq', Two w P Q ps qs' Op Oq' W' := by
  obtain ⟨O', h'⟩ := h.symm.left hT
  exact ⟨O', h'.symm⟩

def TurnR (w : World) (xs qs : List Int) (i : Value) (len j : Nat) (W : World) : Prop := j ≤ len ∧ i = .int .i64 j ∧ ∃ Op Oq, Two w w.heap.size (w.heap.size + 1) xs qs Op Oq W

theorem take_snoc (xs : List Int) (j : Nat) (h : j < xs.length) : xs.take (j + 1) = xs.take j ++ [xs[j]?.getD 0] := by rw [List.take_succ_eq_append_getElem h]; simp [h]
theorem drop_cons (xs : List Int) (j : Nat) (h : j < xs.length) : xs.drop j = xs[j]?.getD 0 :: xs.drop (j + 1) := by rw [List.drop_eq_getElem_cons h]; simp [h]

set_option maxRecDepth 100000 in
set_option maxHeartbeats 4000000 in
theorem turns_loop (a : Option Addr) (cap : Nat) (xs : List Int) (w : World) (hl : xs.length ≤ 1000) (hRd : Reads w (.slice a xs.length cap) xs) :
    Calls Try.prog 4 #[.slice a xs.length cap] w fun e w' => e = .returned (.bool true) ∧ Below w.heap.size w w' := by
  obtain ⟨len, hlen⟩ : ∃ len, xs.length = len := ⟨_, rfl⟩
  have HL := Lib.hid hlen
  have HC := Lib.hid hRd
  have c1 : ¬ (len : Int) > 1000 := by omega
  rw [hlen] at hl ⊢
  clear hlen hRd
  have hT0 : Two w w.heap.size (w.heap.size + 1) [] [] (fun k => k = w.heap.size ∨ (Value.slice none 0 0).ownBlock = some k) (fun k => k = w.heap.size + 1 ∨ (Value.slice none 0 0).ownBlock = some k) ((w.alloc (.cells #[.slice none 0 0] 26)).alloc (.cells #[.slice none 0 0] 26)) := by
    have h2 := held_new (w.alloc (.cells #[.slice none 0 0] 26)) 26 3
    rw [World.size_alloc] at h2
    refine ⟨(Held.fits _ _ _).alloc (held_new w 26 3) _, h2, fun k h1 h2 => ?_, ((Below.refl _ _).alloc (Nat.le_refl _) _).alloc (by simp) _, fun k h => ?_, fun k h => ?_⟩
    · simp [Value.ownBlock] at h1 h2; omega
    · simp [Value.ownBlock] at h; omega
    · simp [Value.ownBlock] at h; omega
  go_enter Try.func4, Try.ntmps4
  go_wp2
  generalize (w.alloc (.cells #[.slice none 0 0] 26)).alloc (.cells #[.slice none 0 0] 26) = w0 at *
  go_loopw [5] (fun i wr => ∃ j, TurnR w (xs.take j) (xs.take j) i len j wr) (fun i _ => len - (intOf i).toNat)
  case atStart => exact ⟨0, by omega, rfl, _, _, hT0⟩
  case round =>
    clear hT0
    obtain ⟨j, hj, rfl, Op, Oq, hT⟩ := hrel
    by_cases hlt : j < len
    · have hjx : j < xs.length := by rw [HL.out]; exact hlt
      rcases HC.out with ⟨a', cap', he, hx0⟩ | ⟨b, off, cap', he, _, hcap, hcm, hcell⟩
      · rw [hx0] at hjx; simp at hjx
      cases he
      rw [HL.out] at hcap
      have hcj := hcell j hjx
      have hbl : b < w.heap.size := World.block_lt_of_cell? w _ hcj
      have HT := Lib.hid (take_snoc xs j hjx)
      have hlk : (xs.take j).length + 1 ≤ 1000000000 := by rw [List.length_take]; omega
      clear hcell hjx
      have d1 := (hT.2.2.2.1.cell (p := ⟨b, off + j, none⟩) hbl).trans hcj
      generalize xs[j]?.getD 0 = x at *
      go_wp2_with fail
      refine (push_any _ _ x _ _ hT.1 hlk).mono ?_
      rintro e w1 ⟨rfl, hU⟩
      obtain ⟨Op1, hT1⟩ := hT.left hU
      have d2 := (hT1.2.2.2.1.cell (p := ⟨b, off + j, none⟩) hbl).trans hcj
      clear d1
      go_wp2_with fail
      refine (push_any _ _ x _ _ hT1.2.1 hlk).mono ?_
      rintro e w2 ⟨rfl, hU⟩
      obtain ⟨Oq1, hT2⟩ := hT1.right hU
      clear d2
      rw [← HT.out] at hT2
      go_wp2
      go_roundw
      case rel => exact ⟨j + 1, by omega, by go_num, _, _, hT2⟩
      case measure => simp [intOf]; omega
    · obtain rfl : j = len := by omega
      have etk : xs.take j = xs := List.take_of_length_le (by rw [HL.out]; omega)
      rw [etk] at hT
      clear etk hlt hj
      have hT0 : Two w w.heap.size (w.heap.size + 1) (xs.drop 0) (xs.take (j - 0)) Op Oq wr := by rw [List.drop_zero, List.take_of_length_le (by rw [HL.out]; omega)]; exact hT
      clear hT
      go_wp2
      go_loopw [6, 7, 8, 9, 10] (fun i _ _ _ _ wr => ∃ m, TurnR w (xs.drop m) (xs.take (j - m)) i j m wr) (fun i _ _ _ _ _ => j - (intOf i).toNat)
      case atStart => exact ⟨0, by omega, rfl, _, _, hT0⟩
      case round =>
        clear hT0
        obtain ⟨m, hm, rfl, Op, Oq, hT⟩ := hrel
        by_cases hlt : m < j
        · have hjx : m < xs.length := by rw [HL.out]; exact hlt
          have hjy : j - 1 - m < xs.length := by rw [HL.out]; omega
          rcases HC.out with ⟨a', cap', he, hx0⟩ | ⟨b, off, cap', he, _, hcap, hcm, hcell⟩
          · rw [hx0] at hjx; simp at hjx
          cases he
          rw [HL.out] at hcap
          have hcj := hcell m hjx
          have hcy := hcell (j - 1 - m) hjy
          have hbl : b < w.heap.size := World.block_lt_of_cell? w _ hcj
          have e1 := drop_cons xs m hjx
          have e2 := take_snoc xs (j - 1 - m) hjy
          rw [show j - 1 - m + 1 = j - m by omega] at e2
          rw [e1, e2] at hT
          clear hcell hjx hjy e1 e2
          generalize xs[m]?.getD 0 = x at *
          generalize xs[j - 1 - m]?.getD 0 = y at *
          go_wp2_with fail
          refine (shift_yes _ _ x _ _ hT.1).mono ?_
          rintro e w1 ⟨rfl, hU⟩
          obtain ⟨Op1, hT1⟩ := hT.left hU
          go_wp2_with fail
          refine (pop_yes _ _ y _ _ hT1.2.1).mono ?_
          rintro e w2 ⟨rfl, hU⟩
          obtain ⟨Oq1, hT2⟩ := hT1.right hU
          have d1 := (hT2.2.2.2.1.cell (p := ⟨b, off + m, none⟩) hbl).trans hcj
          have d2 := (hT2.2.2.2.1.cell (p := ⟨b, off + (j - 1 - m), none⟩) hbl).trans hcy
          rw [show j - 1 - m = j - (m + 1) by omega] at hT2
          have e3 : ((j : Int) - 1 - m).toNat = j - 1 - m := by omega
          go_wp2
          go_roundw
          case rel => exact ⟨m + 1, by omega, by go_num, _, _, hT2⟩
          case measure => simp [intOf]; omega
        · obtain rfl : m = j := by omega
          have e1 : xs.drop m = [] := List.drop_of_length_le (by rw [HL.out]; omega)
          rw [e1, Nat.sub_self, List.take_zero] at hT
          clear e1
          obtain ⟨ap, cp, hbp, _, _⟩ := hT.1.box (n := 0) rfl
          obtain ⟨aq, cq, hbq, _, _⟩ := hT.2.1.box (n := 0) rfl
          have hB := hT.2.2.2.1
          clear hT
          go_wp2_with (first
            | (go_at_call 8; refine (pop_no _ cp ap _ hbp).mono ?_; rintro e w' ⟨rfl, rfl⟩)
            | (go_at_call 10; refine (shift_no _ cq aq _ hbq).mono ?_; rintro e w' ⟨rfl, rfl⟩)
            | (go_at_call 16; refine (len_any _ 0 cp ap _ hbp (by omega)).mono ?_; rintro e w' ⟨rfl, rfl⟩)
            | (go_at_call 6; refine (lives_any _).mono ?_; rintro e w' ⟨rfl, hb⟩))
          go_ret
          exact ⟨rfl, hB.trans (hb.mono hB.size)⟩

theorem turns_all (a : Option Addr) (len cap : Nat) (xs : List Int) (w : World) (hx : xs.length = len) (hl : len ≤ 9223372036854775807) (hRd : Reads w (.slice a len cap) xs) :
    Calls Try.prog 4 #[.slice a len cap] w fun e w' => e = .returned (.bool true) ∧ Below w.heap.size w w' := by
  by_cases h : len ≤ 1000
  · subst hx; exact turns_loop a cap xs w h hRd
  · have c1 : (len : Int) > 1000 := by omega
    go_enter Try.func4, Try.ntmps4
    go_wp2_with (go_at_call 6; refine (lives_any _).mono ?_; rintro e w' ⟨rfl, hb⟩)
    go_ret
    exact ⟨rfl, hb⟩

theorem reads_in (x : Addr) (len cap : Nat) (zs : List Int) (w : World) (hl : len ≤ cap) (hm : cap ≤ maxLen) (hz : zs.length = cap) (hc : ∀ i, i < zs.length → w.cell? (x.add i) = some (.int .i64 (zs.getD i 0))) :
    (zs.take len).length = len ∧ Reads w (.slice (some x) len cap) (zs.take len) := by
  unfold maxLen at hm
  have hlen : (zs.take len).length = len := by rw [List.length_take]; omega
  refine ⟨hlen, ?_⟩
  by_cases h : len = 0
  · subst h; exact .inl ⟨_, _, rfl, by simp⟩
  · obtain ⟨b, off, rfl, hb⟩ := ints_at hc (by omega)
    refine .inr ⟨b, off, cap, by rw [hlen], by omega, by omega, by omega, fun i hi => ?_⟩
    rw [hb i (by omega)]
    have h1 : i < len := by omega
    have h2 : i < zs.length := by omega
    simp [h1, h2]
theorem inR_wf {x : Int} (h : (Lit.int .i64 x).wf = true) : InR x := by
  simp only [Lit.wf, Bool.and_eq_true, decide_eq_true_eq] at h
  exact h

end Go.Proofs.Ytdhakdgbeokebaa
