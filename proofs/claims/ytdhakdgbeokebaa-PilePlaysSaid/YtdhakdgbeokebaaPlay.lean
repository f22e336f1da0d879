/- The law PilePlays: its first loop. -/
import Derived.Test.YtdhakdgbeokebaaTaken
namespace Go.Proofs.Ytdhakdgbeokebaa
open Go.RowKit Go.Shelf
set_option linter.unusedVariables false

/-- A pile and a list that share nothing, nor anything with what lay. -/
def Play (w : World) (P : Nat) (ps ls : List Int) (Op : Nat → Prop) (l : Value) (W : World) : Prop :=
  Held 26 3 P (ints ps) Op W ∧ Row W 3 l ls.length (ints ls) ∧ (∀ k, l.ownBlock = some k → ¬ Op k) ∧ Below w.heap.size w W ∧ (∀ k, Op k → w.heap.size ≤ k) ∧ (∀ k, l.ownBlock = some k → w.heap.size ≤ k)
theorem Play.left {w : World} {P : Nat} {ps ls ps' : List Int} {Op : Nat → Prop} {l : Value} {W W' : World} (h : Play w P ps ls Op l W) (hT : Turned 26 3 P (ints ps') Op W W') : ∃ Op', Play w P ps' ls Op' l W' := by
  obtain ⟨hp, hr, hd, hB, h1, h2⟩ := h
  obtain ⟨O', hk, hL, hh⟩ := hT
  have hs := hB.size
  refine ⟨O', hh, hr.keeps hk hd, fun k ho hq' => ?_, hB.trans (hk.below hs h1), fun k ho => ?_, h2⟩
  · rcases hL k hq' with h | h
    · exact hd k ho h
    · have := hr.lt ho; omega
  · rcases hL k ho with h | h
    · exact h1 k h
    · omega
theorem Play.right {w : World} {P : Nat} {ps ls ls' : List Int} {Op : Nat → Prop} {l l' : Value} {W W' : World} (h : Play w P ps ls Op l W) (hk : Keeps (fun k => l.ownBlock = some k) W W') (hL : Later (fun k => l.ownBlock = some k) W (fun k => l'.ownBlock = some k))
    (hr' : Row W' 3 l' ls'.length (ints ls')) : Play w P ps ls' Op l' W' := by
  obtain ⟨hp, hr, hd, hB, h1, h2⟩ := h
  have hs := hB.size
  refine ⟨(Held.fits _ _ _).keeps hp hk (fun k ho h => hd k h ho), hr', fun k ho hq => ?_, hB.trans (hk.below hs h2), h1, fun k ho => ?_⟩
  · rcases hL k ho with h | h
    · exact hd k h hq
    · have := (Held.fits _ _ _).lt hp hq; omega
  · rcases hL k ho with h | h
    · exact h2 k h
    · omega
theorem keeps_drewN (O : Nat → Prop) (W : World) (m : Nat) : Keeps O W (W.drewN m) := ⟨rfl, rfl, rfl, Nat.le_refl _, fun _ _ _ => rfl⟩
theorem Play.keeps {w : World} {P : Nat} {ps ls : List Int} {Op : Nat → Prop} {l : Value} {W W' : World} (h : Play w P ps ls Op l W) (hk : Keeps (fun _ => False) W W') : Play w P ps ls Op l W' :=
  h.right (hk.mono (fun _ h => h.elim)) (Later.refl _ _) (h.2.1.keeps hk (fun _ _ h => h))
/-- 'l = append(l, x)' -/
theorem Play.append {w : World} {P : Nat} {ps ls : List Int} {x : Int} {Op : Nat → Prop} {l l' : Value} {W w1 : World} {tmp : Obj} {n : Nat} (h : Play w P ps ls Op l W) (hr' : Row w1 3 l' (n + 1) (ints ls ++ [.int .i64 x])) (hn : ls.length = n) (hg : (W.alloc tmp).grownBy w1 l.ownBlock)
    (hl : l'.ownBlock = l.ownBlock ∨ ∀ k, l'.ownBlock = some k → (W.alloc tmp).heap.size ≤ k) : Play w P ps (ls ++ [x]) Op l' w1 := by
  refine h.right (((Keeps.refl _ W).alloc tmp).grown hg (fun k e => .inl e)) (fun k hk => ?_) (by simpa [hn] using hr')
  rcases hl with hl | hl
  · exact .inl (hl ▸ hk)
  · exact .inr (by have := hl k hk; simp at this; omega)

/-- 'l', cut. -/
theorem Play.cut {w : World} {P : Nat} {ps ls ls' : List Int} {Op : Nat → Prop} {l l' : Value} {W : World} (h : Play w P ps ls Op l W) (hr' : Row W 3 l' ls'.length (ints ls')) (ho : l'.ownBlock = l.ownBlock) (m : Nat) : Play w P ps ls' Op l' (W.drewN m) :=
  h.right (keeps_drewN _ W m) (fun k hk => .inl (by rw [← ho]; exact hk)) (hr'.agree (fun _ _ => rfl))

/-- max(2, min(z, 1000)) -/
theorem between (z : Int) : ∃ mv d : Int, 2 ≤ d ∧ d ≤ 1000 ∧ (∀ w, (Builtin.min_ #[3, 3] 3 #[.int .i64 z, .int .i64 1000]).run Try.prog w = .ok (.int .i64 mv) w) ∧ (∀ w, (Builtin.max_ #[3, 3] 3 #[.int .i64 2, .int .i64 mv]).run Try.prog w = .ok (.int .i64 d) w) := by
  refine ⟨if 1000 < z then 1000 else z, if 2 < (if 1000 < z then 1000 else z) then (if 1000 < z then 1000 else z) else 2, ?_, ?_, fun w => ?_, fun w => ?_⟩
  · split <;> omega
  · split <;> split <;> omega
  · simp [Builtin.min_, Builtin.min2]
  · simp [Builtin.max_, Builtin.max2]

/-- The inner loop: what stays of the first j. -/
def StayR (xs : List Int) (d : Int) (W1 : World) (n : Nat) (v i : Value) (W : World) : Prop :=
  ∃ j : Nat, j ≤ n ∧ i = .int .i64 j ∧ Keeps (fun _ => False) W1 W ∧ Row W 3 v ((xs.take j).filter (stays d)).length (ints ((xs.take j).filter (stays d))) ∧ ∀ k, v.ownBlock = some k → W1.heap.size ≤ k

theorem has_step {l : List Int} {x y : Int} (h : ¬ x ∈ l) : Value.bool (y == x) = .bool (decide (x ∈ l ++ [y])) := by
  congr 1
  rw [Bool.eq_iff_iff]
  simp only [beq_iff_eq, decide_eq_true_eq, List.mem_append, List.mem_singleton, h, false_or]
  exact eq_comm

/-- What the loop knows: j deeds are done, and both are the same. -/
def PlayR (w : World) (len : Nat) (l i : Value) (W : World) : Prop := ∃ (j : Nat) (xs : List Int) (Op : Nat → Prop), j ≤ len ∧ i = .int .i64 j ∧ xs.length ≤ j ∧ (∀ x ∈ xs, InR x) ∧ Play w w.heap.size xs xs Op l W

/-- The deeds, as they lie. -/
def OpsIn (w : World) (ao : Option Addr) (len : Nat) (K X : Nat → Int) : Prop := ∀ j, j < len → ∃ b off, ao = some ⟨b, off, none⟩ ∧ w.cell? ⟨b, off + j * 2, none⟩ = some (.int .i64 (K j)) ∧ w.cell? ⟨b, off + j * 2 + 1, none⟩ = some (.int .i64 (X j)) ∧ InR (X j)

set_option maxRecDepth 100000 in
set_option maxHeartbeats 4000000 in
theorem plays_some (ao : Option Addr) (len cap : Nat) (K X : Nat → Int) (i x : Int) (w : World) (hl : len ≤ 1000) (hcap : len ≤ cap) (hmx : cap ≤ 9223372036854775807) (hops : OpsIn w ao len K X) (hi : InR i) (hx : InR x) :
    Calls Try.prog 3 #[.slice ao len cap, .int .i64 i, .int .i64 x] w fun e w' => e = .returned (.bool true) ∧ Below w.heap.size w w' := by
  have c1 : ¬ (len : Int) > 1000 := by omega
  have hP0 : Play w w.heap.size [] [] (fun k => k = w.heap.size ∨ (Value.slice none 0 0).ownBlock = some k) (.slice none 0 0) (w.alloc (.cells #[.slice none 0 0] 26)) :=
    ⟨held_new w 26 3, Row.nil _ _, (fun k h => by cases h), (Below.refl _ _).alloc (Nat.le_refl _) _, (fun k h => by rcases h with h | h; omega; cases h), (fun k h => by cases h)⟩
  have HO := Lib.hid hops
  clear hops
  obtain ⟨i0, hi0, hz0, hz1, hz2⟩ := info_parts Try.info3
  go_enter Try.func3, Try.ntmps3
  go_wp2
  generalize w.alloc (.cells #[.slice none 0 0] 26) = w0 at *
  go_loopw [8, 9] (fun l i wr => PlayR w len l i wr) (fun _ i _ => len - (intOf i).toNat)
  case atStart => exact ⟨0, [], _, by omega, rfl, by simp, by simp, hP0⟩
  case round =>
    clear hP0
    obtain ⟨j, xs, Op, hj, rfl, hxl, hR, hT⟩ := hrel
    by_cases hlt : j < len
    · obtain ⟨b, off, rfl, o1, o2, hX⟩ := HO.out j hlt
      have hbl : b < w.heap.size := World.block_lt_of_cell? w _ o1
      have d1 := (hT.2.2.2.1.cell (p := ⟨b, off + j * 2, none⟩) hbl).trans o1
      have d2 := (hT.2.2.2.1.cell (p := ⟨b, off + j * 2 + 1, none⟩) hbl).trans o2
      generalize K j = y at *
      generalize X j = z at *
      obtain ⟨a, cp, rfl, hcp, hcm⟩ := hT.2.1.form
      have hcm2 : cp ≤ 9223372036854775807 := hcm
      obtain ⟨n, hn⟩ : ∃ n, xs.length = n := ⟨_, rfl⟩
      rw [hn] at hxl hcp hT ⊢
      have HN := Lib.hid hn
      clear hn hcm
      by_cases h01 : y = 0 ∨ y = 1
      · rcases h01 with rfl | rfl
        all_goals
          go_wp2_with fail
          refine (push_any _ xs z _ _ hT.1 (by rw [HN.out]; omega)).mono ?_
          rintro e w1 ⟨rfl, hU⟩
          obtain ⟨Op1, hT1⟩ := hT.left hU
          have d3 := (hT1.2.2.2.1.cell (p := ⟨b, off + j * 2 + 1, none⟩) hbl).trans o2
          have hrow := hT1.2.1
          rw [HN.out] at hrow
          clear d1 d2
          go_wp2_with (at_builtin; refine wpList_append_row _ rfl _ _ 24 rfl 3 i0 (.int .i64 0) 8 Try.underlying24 hi0 hz0 hz1 hz2 rfl (by decide) _ n (ints xs) rfl (hrow.alloc _) ⟨w1.heap.size, 0, none⟩ 1 (.int .i64 z) rfl (by simp) (by simp [Value.oneCell']) (by omega) ?_; intro v' w2 hr' hg hlat)
          have hT2 := hT1.append hr' HN.out hg hlat
          go_roundw
          case rel => exact ⟨j + 1, xs ++ [z], _, by omega, by go_num, by simp [HN.out]; omega, fun x' hx' => by
            rcases List.mem_append.1 hx' with h | h
            · exact hR x' h
            · rw [List.mem_singleton.1 h]; exact hX, hT2⟩
          case measure => simp [intOf]; omega
      have e0 : (y == 0) = false := by simp; omega
      have e1 : (y == 1) = false := by simp; omega
      clear h01
      by_cases h2 : y = 2
      · subst h2
        clear e0 e1
        by_cases hz : n = 0
        · subst hz
          obtain ⟨ap, cpp, hbp, _, _⟩ := hT.1.box (n := 0) (by rw [ints_len]; exact HN.out)
          go_wp2_with (first
            | (go_at_call 8; refine (pop_no _ cpp ap _ hbp).mono ?_; rintro e w' ⟨rfl, rfl⟩)
            | (go_at_call 9; refine (taken_no a cp true _).mono ?_; rintro e w' ⟨rfl, rfl⟩))
          go_roundw
          case rel => exact ⟨j + 1, xs, _, by omega, by go_num, by rw [HN.out]; omega, hR, hT⟩
          case measure => simp [intOf]; omega
        · obtain ⟨ys, q, rfl⟩ : ∃ ys q, xs = ys ++ [q] := by
            rcases List.eq_nil_or_concat xs with h | ⟨ys, q, h⟩
            · exfalso; apply hz; rw [← HN.out, h]; rfl
            · exact ⟨ys, q, by rw [h, List.concat_eq_append]⟩
          have hyl : ys.length ≤ j := by have := HN.out; simp at this; omega
          go_wp2_with fail
          refine (pop_yes _ ys q _ _ hT.1).mono ?_
          rintro e w1 ⟨rfl, hU⟩
          obtain ⟨Op1, hT1⟩ := hT.left hU
          clear d1 d2
          go_wp2_with fail
          refine (taken_last _ ys q _ (by have := hT1.2.1; rwa [List.length_append, List.length_singleton] at this)).mono ?_
          rintro e w2 ⟨v', m, rfl, hr', ho, rfl⟩
          have hT2 := hT1.cut hr' ho m
          go_wp2
          go_roundw
          case rel => exact ⟨j + 1, ys, _, by omega, by go_num, by omega, fun x' hx' => hR x' (by simp [hx']), hT2⟩
          case measure => simp [intOf]; omega
      have e2 : (y == 2) = false := by simp; omega
      clear h2
      by_cases h3 : y = 3
      · subst h3
        clear e0 e1 e2
        by_cases hz : n = 0
        · subst hz
          obtain ⟨ap, cpp, hbp, _, _⟩ := hT.1.box (n := 0) (by rw [ints_len]; exact HN.out)
          go_wp2_with (first
            | (go_at_call 10; refine (shift_no _ cpp ap _ hbp).mono ?_; rintro e w' ⟨rfl, rfl⟩)
            | (go_at_call 9; refine (taken_no a cp false _).mono ?_; rintro e w' ⟨rfl, rfl⟩))
          go_roundw
          case rel => exact ⟨j + 1, xs, _, by omega, by go_num, by rw [HN.out]; omega, hR, hT⟩
          case measure => simp [intOf]; omega
        · obtain ⟨q, ys, rfl⟩ : ∃ q ys, xs = q :: ys := by
            cases xs with
            | nil => exfalso; apply hz; rw [← HN.out]; rfl
            | cons q ys => exact ⟨q, ys, rfl⟩
          have hyl : ys.length ≤ j := by have := HN.out; simp at this; omega
          go_wp2_with fail
          refine (shift_yes _ ys q _ _ hT.1).mono ?_
          rintro e w1 ⟨rfl, hU⟩
          obtain ⟨Op1, hT1⟩ := hT.left hU
          clear d1 d2
          go_wp2_with fail
          refine (taken_first _ ys q _ (by have := hT1.2.1; rwa [List.length_cons] at this)).mono ?_
          rintro e w2 ⟨v', m, rfl, hr', ho, rfl⟩
          have hT2 := hT1.cut hr' ho m
          go_wp2
          go_roundw
          case rel => exact ⟨j + 1, ys, _, by omega, by go_num, by omega, fun x' hx' => hR x' (by simp [hx']), hT2⟩
          case measure => simp [intOf]; omega
      have e3 : (y == 3) = false := by simp; omega
      clear h3
      by_cases h4 : y = 4
      · subst h4
        clear e0 e1 e2 e3
        obtain ⟨mv, d, hd1, hd2, qmin, qmax⟩ := between z
        go_wp2
        clear qmin qmax
        have hTa := hT.keeps ((Keeps.refl _ _).alloc (.cells #[.int .i64 d] 3))
        have hbd := Boxed.new wr 3 (.int .i64 d)
        have hsa : (wr.alloc (.cells #[.int .i64 d] 3)).heap.size = wr.heap.size + 1 := by simp
        have hDp : ¬ Op wr.heap.size := fun h => by have := (Held.fits _ _ _).lt hT.1 h; omega
        have hDr : (Value.slice a n cp).ownBlock ≠ some wr.heap.size := fun h => by have := hT.2.1.lt h; omega
        generalize wr.alloc (.cells #[.int .i64 d] 3) = W1 at *
        generalize wr.heap.size = D at *
        clear hT d1 d2
        have HSA := Lib.hid hsa
        clear hsa
        go_loopw [21, 22] (fun v i wr => StayR xs d W1 n v i wr) (fun _ i _ => n - (intOf i).toNat)
        case atStart => exact ⟨0, by omega, rfl, Keeps.refl _ _, Row.nil _ _, fun k h => by cases h⟩
        case round =>
          obtain ⟨m, hm, rfl, hk, hrow, hnew⟩ := hrel
          have hTb := hTa.keeps hk
          by_cases hlm : m < n
          · have hmx' : m < xs.length := by rw [HN.out]; exact hlm
            have hrl := hTb.2.1
            rw [HN.out] at hrl
            obtain ⟨g, o, cp', he, hcp', hcm', hcell, _⟩ := hrl.at_ (by omega)
            cases he
            have hc1 : wr.cell? ⟨g, o + m, none⟩ = some (.int .i64 (xs[m]?.getD 0)) := by rw [hcell m hlm]; simp [hmx']
            have hc2 := (hk.boxed hbd (fun h => h)).cell
            have HT := Lib.hid (take_snoc xs m hmx')
            have hxm : InR (xs[m]?.getD 0) := by simp [hmx']; exact hR _ (List.getElem_mem hmx')
            have q1 := hxm.1
            have q2 := hxm.2
            have q0 : ¬ d = 0 := by omega
            have q9 : ¬ d = -1 := by omega
            generalize xs[m]?.getD 0 = xv at *
            clear hcell hmx' hcp' hcm' hrl
            obtain ⟨f, hf⟩ : ∃ f, (xs.take m).filter (stays d) = f := ⟨_, rfl⟩
            rw [hf] at hrow
            have hfl : f.length ≤ m := by rw [← hf]; refine Nat.le_trans (List.length_filter_le _ _) ?_; rw [List.length_take]; omega
            have HF := Lib.hid hf
            clear hf
            by_cases hs : stays d xv = true
            · have hs' : (xv.tmod d != 0) = true := hs
              have HS := Lib.hid hs
              clear hs
              go_wp2
              go_quiet (fail)
              generalize hW2 : wr.drewN nq = W2
              have hk2 : Keeps (fun _ => False) W1 W2 := by rw [← hW2]; exact hk.trans (keeps_drewN _ _ _) (Later.refl _ _)
              have hrow2 : Row W2 3 u21 f.length (ints f) := by rw [← hW2]; exact hrow.agree (fun _ _ => rfl)
              have hc3 : W2.cell? ⟨g, o + m, none⟩ = some (.int .i64 xv) := by rw [← hW2]; exact hc1
              clear hW2 hc1 hc2 hrow hk hTb
              go_wp2_with (at_builtin; refine wpList_append_row _ rfl _ _ 24 rfl 3 i0 (.int .i64 0) 8 Try.underlying24 hi0 hz0 hz1 hz2 rfl (by decide) _ f.length (ints f) rfl (hrow2.alloc _) ⟨W2.heap.size, 0, none⟩ 1 (.int .i64 xv) rfl (by simp) (by simp [Value.oneCell']) (by omega) ?_; intro v' w2 hr' hg hlat)
              go_roundw
              case rel =>
                refine ⟨m + 1, by omega, by go_num, (hk2.alloc _).grown hg (fun k e => .inr (hnew k e)), ?_, fun k hk' => ?_⟩
                · rw [HT.out, List.filter_append, HF.out]; simpa [HS.out] using hr'
                · rcases hlat with hl' | hl'
                  · exact hnew k (hl' ▸ hk')
                  · have h1 := hl' k hk'; have h2 := hk2.size; simp at h1; omega
              case measure => simp [intOf]; omega
            · have hs' : (xv.tmod d != 0) = false := by simpa [stays] using hs
              have HS := Lib.hid hs
              clear hs
              go_wp2
              go_quiet (fail)
              generalize hW2 : wr.drewN nq = W2
              have hk2 : Keeps (fun _ => False) W1 W2 := by rw [← hW2]; exact hk.trans (keeps_drewN _ _ _) (Later.refl _ _)
              have hrow2 : Row W2 3 u21 f.length (ints f) := by rw [← hW2]; exact hrow.agree (fun _ _ => rfl)
              clear hW2 hc1 hc2 hrow hk hTb
              go_wp2
              go_roundw
              case rel =>
                refine ⟨m + 1, by omega, by go_num, hk2, ?_, hnew⟩
                rw [HT.out, List.filter_append, HF.out]; simpa [HS.out] using hrow2
              case measure => simp [intOf]; omega
          · obtain rfl : m = n := by omega
            have etk : xs.take m = xs := List.take_of_length_le (by rw [HN.out]; omega)
            rw [etk] at hrow
            clear etk hlm hm
            have hTc : Play w w.heap.size xs (xs.filter (stays d)) Op u21 wr := by
              refine ⟨hTb.1, hrow, fun k h1 h2 => ?_, hTb.2.2.2.1, hTb.2.2.2.2.1, fun k h1 => ?_⟩
              · have := hnew k h1; have := (Held.fits _ _ _).lt hTa.1 h2; omega
              · have := hnew k h1; have := hTa.2.2.2.1.size; omega
            have hbd2 := hk.boxed hbd (fun h => h)
            obtain ⟨am, cm, rfl, _, _⟩ := hrow.form
            obtain ⟨n2, hn2⟩ : ∃ n2, (xs.filter (stays d)).length = n2 := ⟨_, rfl⟩
            have hfl : n2 ≤ m := by rw [← hn2, ← HN.out]; exact List.length_filter_le _ _
            have hR2 : ∀ x' ∈ xs.filter (stays d), InR x' := fun x' hx' => hR x' (List.mem_filter.1 hx').1
            rw [hn2] at hTc ⊢
            have HN2 := Lib.hid hn2
            clear hn2 hrow hTb hnew
            go_wp2_with fail
            refine (keep_any _ xs _ _ _ (stays d) _ hTc.1 (stay_gives d D wr hbd2 hd1 hd2) hR (by rw [HN.out]; omega)).mono ?_
            rintro e w2 ⟨rfl, hU⟩
            rw [HN.out, HN2.out]
            obtain ⟨Op1, hT1⟩ := hTc.left hU
            go_wp2
            go_roundw
            case rel => exact ⟨j + 1, xs.filter (stays d), _, by omega, by go_num, by rw [HN2.out]; omega, hR2, hT1⟩
            case measure => simp [intOf]; omega
      · have e4 : (y == 4) = false := by simp; omega
        clear h4
        go_wp2
        go_roundw
        case rel => exact ⟨j + 1, xs, _, by omega, by go_num, by rw [HN.out]; omega, hR, hT⟩
        case measure => simp [intOf]; omega
    · have hjl : j ≤ 1000 := by omega
      obtain ⟨a, cp, rfl, hcp, hcm⟩ := hT.2.1.form
      have hcm2 : cp ≤ 9223372036854775807 := hcm
      obtain ⟨n, hn⟩ : ∃ n, xs.length = n := ⟨_, rfl⟩
      have hxn : n ≤ 1000 := by omega
      rw [hn] at hxl hcp hT ⊢
      have HN := Lib.hid hn
      clear hn hcm hxl
      go_wp2
      go_loop [23, 24] (fun h i => ∃ j : Nat, j ≤ n ∧ i = .int .i64 j ∧ h = .bool (decide (x ∈ xs.take j))) (fun _ i => n - (intOf i).toNat)
      case atStart => exact ⟨0, by omega, rfl, by simp⟩
      case round =>
        obtain ⟨m, hm, rfl, rfl⟩ := hrel
        by_cases hlm : m < n
        · have hmx' : m < xs.length := by rw [HN.out]; exact hlm
          have HT := Lib.hid (take_snoc xs m hmx')
          by_cases hh : x ∈ xs.take m
          · have HH := Lib.hid hh
            rw [decide_eq_true hh]
            clear hh
            go_wp2
            go_round
            case rel => exact ⟨m + 1, by omega, by go_num, by rw [HT.out, decide_eq_true (List.mem_append_left _ HH.out)]⟩
            case measure => simp [intOf]; omega
          · have HH := Lib.hid hh
            rw [decide_eq_false hh]
            clear hh
            have hrl := hT.2.1
            rw [HN.out] at hrl
            obtain ⟨g, o, cp', he, hcp', hcm', hcell, _⟩ := hrl.at_ (by omega)
            cases he
            have hc1 : wr.cell? ⟨g, o + m, none⟩ = some (.int .i64 (xs[m]?.getD 0)) := by rw [hcell m hlm]; simp [hmx']
            generalize xs[m]?.getD 0 = xv at *
            clear hcell hmx' hcp' hcm' hrl
            go_wp2
            go_round
            case rel =>
              refine ⟨m + 1, by omega, by go_num, ?_⟩
              rw [HT.out]
              exact has_step HH.out
            case measure => simp [intOf]; omega
        · obtain rfl : m = n := by omega
          have etk : xs.take m = xs := List.take_of_length_le (by rw [HN.out]; omega)
          rw [etk]
          clear etk hlm hm
          obtain ⟨ap, cpp, hbp, hcp1, hcp2⟩ := hT.1.box (n := m) (by rw [ints_len]; exact HN.out)
          obtain ⟨hs, HHS⟩ : ∃ hs : Bool, Hid (decide (x ∈ xs) = hs) := ⟨_, Lib.hid rfl⟩
          rw [HHS.out]
          have i1 := hi.1
          have i2 := hi.2
          have fin : Calls Try.prog 15 #[at0 w.heap.size] wr (Listed xs wr) := plist_any _ xs _ _ hT.1 (by rw [HN.out]; omega)
          have hc3 : i < 0 ∨ (m : Int) ≤ i ∨ (0 ≤ i ∧ i < m) := by omega
          rcases hc3 with hin | hin | ⟨hin1, hin2⟩
          · go_wp2_with (go_at_call 13; refine (at_no _ m cpp ap i _ hbp (by omega) (.inl hin)).mono ?_; rintro e w1 ⟨rfl, rfl⟩)
            refine fin.mono ?_
            rintro e w1 ⟨v1, rfl, hr1, hb1⟩
            have hT1 := hT.keeps (Keeps.of_below hb1)
            go_wp2_with fail
            refine (same_any v1 _ xs xs _ (reads_row hr1) (row_reads hT1.2.1) (by rw [HN.out]; omega) (by rw [HN.out]; omega)).mono ?_
            rintro e w2 ⟨rfl, m2, hw2⟩
            rw [show decide (xs = xs) = true by simp]
            have hT2 := hT1.keeps (keeps_drewN _ _ m2)
            rw [← hw2] at hT2
            clear hw2
            obtain ⟨ap2, cp2, hbp2, _, _⟩ := hT2.1.box (n := m) (by rw [ints_len]; exact HN.out)
            go_wp2_with fail
            refine (len_any _ m cp2 ap2 _ hbp2 (by omega)).mono ?_
            rintro e w3 ⟨rfl, rfl⟩
            go_wp2_with fail
            refine (has_any _ xs x _ _ hT2.1).mono ?_
            rintro e w3 ⟨rfl, hb3⟩
            rw [HHS.out]
            go_wp2_with fail
            refine (lives_any _).mono ?_
            rintro e w4 ⟨rfl, hb4⟩
            have hB2 := hT2.2.2.2.1
            go_wp2
            go_ret
            exact ⟨rfl, (hB2.trans (hb3.mono hB2.size)).trans (hb4.mono (Nat.le_trans hB2.size hb3.size))⟩
          · have hge : ¬ i < 0 := by omega
            have hge0 : 0 ≤ i := by omega
            go_wp2_with (go_at_call 13; refine (at_no _ m cpp ap i _ hbp (by omega) (.inr hin)).mono ?_; rintro e w1 ⟨rfl, rfl⟩)
            refine fin.mono ?_
            rintro e w1 ⟨v1, rfl, hr1, hb1⟩
            have hT1 := hT.keeps (Keeps.of_below hb1)
            go_wp2_with fail
            refine (same_any v1 _ xs xs _ (reads_row hr1) (row_reads hT1.2.1) (by rw [HN.out]; omega) (by rw [HN.out]; omega)).mono ?_
            rintro e w2 ⟨rfl, m2, hw2⟩
            rw [show decide (xs = xs) = true by simp]
            have hT2 := hT1.keeps (keeps_drewN _ _ m2)
            rw [← hw2] at hT2
            clear hw2
            obtain ⟨ap2, cp2, hbp2, _, _⟩ := hT2.1.box (n := m) (by rw [ints_len]; exact HN.out)
            go_wp2_with fail
            refine (len_any _ m cp2 ap2 _ hbp2 (by omega)).mono ?_
            rintro e w3 ⟨rfl, rfl⟩
            go_wp2_with fail
            refine (has_any _ xs x _ _ hT2.1).mono ?_
            rintro e w3 ⟨rfl, hb3⟩
            rw [HHS.out]
            go_wp2_with fail
            refine (lives_any _).mono ?_
            rintro e w4 ⟨rfl, hb4⟩
            have hB2 := hT2.2.2.2.1
            go_wp2
            go_ret
            exact ⟨rfl, (hB2.trans (hb3.mono hB2.size)).trans (hb4.mono (Nat.le_trans hB2.size hb3.size))⟩
          · obtain ⟨k, rfl⟩ : ∃ k : Nat, i = k := ⟨i.toNat, by omega⟩
            have hkm : k < m := by omega
            have qmin : ∀ w, (Builtin.min_ #[3, 3] 3 #[.int .i64 (k : Int), .int .i64 ((m : Int) - 1)]).run Try.prog w = .ok (.int .i64 (k : Int)) w := fun w => by
              simp [Builtin.min_, Builtin.min2]; omega
            have qmax : ∀ w, (Builtin.max_ #[3, 3] 3 #[.int .i64 0, .int .i64 (k : Int)]).run Try.prog w = .ok (.int .i64 (k : Int)) w := fun w => by
              simp [Builtin.max_, Builtin.max2]; omega
            have hkx : k < xs.length := by rw [HN.out]; exact hkm
            have hrl := hT.2.1
            rw [HN.out] at hrl
            obtain ⟨g, o, cp', he, hcp', hcm', hcell, _⟩ := hrl.at_ (by omega)
            cases he
            have hc1 : wr.cell? ⟨g, o + k, none⟩ = some (.int .i64 (xs[k]?.getD 0)) := by rw [hcell k hkm]; simp [hkx]
            obtain ⟨vp, _, hbp', hrp⟩ := hT.1
            rw [ints_len, HN.out] at hrp
            obtain ⟨gp, op, cp'', rfl, hcq, hcmq, hcellp, _⟩ := hrp.at_ (by omega)
            have hcq1 : wr.cell? ⟨gp, op + k, none⟩ = some (.int .i64 (xs[k]?.getD 0)) := by rw [hcellp k hkm]; simp [hkx]
            generalize xs[k]?.getD 0 = xv at *
            clear hcell hcellp hkx hrl hrp hcp' hcm'
            have hAt := at_yes _ m cp'' gp op k xv wr hbp' (by omega) hkm hcq1
            clear hcq1 hcq hcmq
            go_wp2_with (go_at_call 13; refine hAt.mono ?_; rintro e w1 ⟨rfl, rfl⟩)
            refine fin.mono ?_
            rintro e w1 ⟨v1, rfl, hr1, hb1⟩
            have hT1 := hT.keeps (Keeps.of_below hb1)
            go_wp2_with fail
            refine (same_any v1 _ xs xs _ (reads_row hr1) (row_reads hT1.2.1) (by rw [HN.out]; omega) (by rw [HN.out]; omega)).mono ?_
            rintro e w2 ⟨rfl, m2, hw2⟩
            rw [show decide (xs = xs) = true by simp]
            have hT2 := hT1.keeps (keeps_drewN _ _ m2)
            rw [← hw2] at hT2
            clear hw2
            obtain ⟨ap2, cp2, hbp2, _, _⟩ := hT2.1.box (n := m) (by rw [ints_len]; exact HN.out)
            go_wp2_with fail
            refine (len_any _ m cp2 ap2 _ hbp2 (by omega)).mono ?_
            rintro e w3 ⟨rfl, rfl⟩
            go_wp2_with fail
            refine (has_any _ xs x _ _ hT2.1).mono ?_
            rintro e w3 ⟨rfl, hb3⟩
            rw [HHS.out]
            go_wp2_with fail
            refine (lives_any _).mono ?_
            rintro e w4 ⟨rfl, hb4⟩
            have hB2 := hT2.2.2.2.1
            go_wp2
            go_ret
            exact ⟨rfl, (hB2.trans (hb3.mono hB2.size)).trans (hb4.mono (Nat.le_trans hB2.size hb3.size))⟩

set_option maxRecDepth 100000 in
theorem plays_all (ao : Option Addr) (len cap : Nat) (K X : Nat → Int) (i x : Int) (w : World) (hcap : len ≤ cap) (hmx : cap ≤ 9223372036854775807) (hops : OpsIn w ao len K X) (hi : InR i) (hx : InR x) :
    Calls Try.prog 3 #[.slice ao len cap, .int .i64 i, .int .i64 x] w fun e w' => e = .returned (.bool true) ∧ Below w.heap.size w w' := by
  by_cases h : len ≤ 1000
  · exact plays_some ao len cap K X i x w h hcap hmx hops hi hx
  · have c1 : (len : Int) > 1000 := by omega
    clear hops
    go_enter Try.func3, Try.ntmps3
    go_wp2_with (go_at_call 6; refine (lives_any _).mono ?_; rintro e w' ⟨rfl, hb⟩)
    go_ret
    exact ⟨rfl, hb⟩

end Go.Proofs.Ytdhakdgbeokebaa
