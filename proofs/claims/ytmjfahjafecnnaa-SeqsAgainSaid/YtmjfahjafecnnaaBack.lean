/- What Back tells: a list, turned round. -/
import Derived.Test.YtmjfahjafecnnaaOf
import Derived.Test.YtmjfahjafecnnaaCounts
namespace Go.Proofs.Ytmjfahjafecnnaa
open Go.RowKit Go.Shelf
set_option linter.unusedVariables false
attribute [local go_sem] Oper.semAt_some wide_fn

/-- A place and a thing, as they are handed on. -/
abbrev encP (x : Int × Int) : Array Value := #[.int .i64 x.1, .int .i64 x.2]
/-- The last n places and things, the last one first. -/
def backs (xs : List Int) (n : Nat) : List (Int × Int) := (List.range n).map fun (i : Nat) => (((xs.length : Int) - 1 - i), xs[xs.length - 1 - i]?.getD 0)
theorem backs_succ (xs : List Int) (n : Nat) : backs xs (n + 1) = backs xs n ++ [((xs.length : Int) - 1 - n, xs[xs.length - 1 - n]?.getD 0)] := by simp [backs, List.range_succ]
theorem backs_length (xs : List Int) (n : Nat) : (backs xs n).length = n := by simp [backs]
theorem backs_prefix (xs : List Int) {m n : Nat} (h : m ≤ n) : backs xs m <+: backs xs n := by
  induction n with
  | zero => obtain rfl : m = 0 := by omega
            exact List.prefix_rfl
  | succ n ih =>
    by_cases e : m = n + 1
    · subst e; exact List.prefix_rfl
    · rw [backs_succ]; exact (ih (by omega)).trans (List.prefix_append _ _)

set_option maxRecDepth 100000 in
set_option maxHeartbeats 1000000 in
theorem back_tells (v : Value) (b n₀ : Nat) (xs : List Int) (W0 : World) (hb : Boxed W0 b 23 v) (hr : W0.ownsRow n₀ 3 1 v xs.length (ints xs)) (hlen : xs.length ≤ 1000000000) :
    Tells Try.prog encP (.func (.func 32) #[] #[at0 b]) (fun k => k = b ∨ v.ownBlock = some k) (backs xs xs.length) W0 := by
  refine ⟨⟨_, _, rfl⟩, fun k hk => by rcases hk with rfl | hk; exact hb.lt; exact (hr.lt k hk).2, ?_⟩
  intro W hW y J Jx O hyf hJ hJx hY hC h0
  have b0 : Boxed W b 23 v := (hW b (.inl rfl)).trans hb
  have r0 : W.ownsRow n₀ 3 1 v xs.length (ints xs) := ownsRow_agree hr (fun k hk => hW k (.inr hk))
  have hkeep : ∀ W', Keeps O W W' → Reads W' v xs ∧ W'.cell? ⟨b, 0, none⟩ = some v := fun W' hk => ⟨reads_row (ownsRow_agree r0 (fun k h => hk.block k (r0.lt k h).2 (hC k (.inr h)))), (hk.boxed b0 (hC b (.inl rfl))).cell⟩
  refine callsV_func (enters_of Try.func32 (by kernel_rfl) rfl) ?_
  refine (callsIn_wide (n := 9)).1 ?_
  refine callsIn_of_wp Try.func32 rfl trivial ?_ rfl
  simp only [Try.ntmps32, List.size_toArray, List.length_cons, List.length_nil, Nat.reduceAdd, Nat.reduceSub, Array.replicate_succ, Array.replicate_zero, List.push_toArray, List.append_toArray, List.nil_append, List.cons_append]
  have c1 := b0.cell
  obtain ⟨a, cap, rfl⟩ : ∃ a cap, v = .slice a xs.length cap := by
    rcases r0.2 with ⟨rfl, h0⟩ | ⟨g, cap, cur, rfl, _⟩
    · exact ⟨_, _, by rw [h0]⟩
    · exact ⟨_, _, rfl⟩
  obtain ⟨len, hl⟩ : ∃ len, xs.length = len := ⟨_, rfl⟩
  have HL := Lib.hid hl
  have HK := Lib.hid hkeep
  rw [hl] at c1 hlen
  clear hl hkeep hr r0 b0 hb
  gi_wp2
  gi_loopw [3] (fun i wr => ∃ (j : Nat) (O' : Nat → Prop), j ≤ len ∧ i = .int .i64 (len - 1 - j) ∧ Keeps O W wr ∧ Later O W O' ∧ J (backs xs j) O' wr) (fun i wr => (intOf i + 1).toNat)
  case atStart => exact ⟨0, O, by omega, by simp, Keeps.refl _ _, Later.refl _ _, h0⟩
  case round =>
    obtain ⟨j, O', hj, rfl, hk, hL, hj0⟩ := hrel
    by_cases hlt : j < len
    · have hrd := HK.out wr hk
      obtain ⟨hrd, hcb⟩ := hrd
      rw [HL.out] at hcb
      rcases hrd with ⟨a', cap', he, hx⟩ | ⟨g, off, cap', he, _, hcc, hmm, hcell⟩
      · have := HL.out; rw [hx] at this; simp at this; omega
      · cases he
        have e1 := HL.out
        have d1 := hcell (len - 1 - j) (by omega)
        have HT := Lib.hid (backs_succ xs j)
        have hc := hY (backs xs j) ((len : Int) - 1 - j, xs[len - 1 - j]?.getD 0) O' wr (by rw [← e1, ← backs_succ]; exact backs_prefix xs (by omega)) hk hL hj0
        have HE := Lib.hid e1
        clear hcell hmm hcc e1
        obtain ⟨i, hi⟩ : ∃ i : Nat, len - 1 - j = i := ⟨_, rfl⟩
        have hi' : (len : Int) - 1 - j = i := by omega
        rw [hi] at d1 hc
        rw [hi'] at hc ⊢
        have hil : i < len := by omega
        have HI := Lib.hid hi
        have HI' := Lib.hid hi'
        clear hi hi'
        gi_wp2_with ((with_reducible refine wpListIn_callV (f := .tmp 11) (y := y) (args := #[.int .i64 i, .int .i64 (xs[i]?.getD 0)]) rfl rfl ?_ ?_ ?_ hc ?_); rfl; rfl; simp [go_sem]; (rintro e w' ⟨O'', hk', hL', (⟨rfl, hJ'⟩ | ⟨rfl, hJ'⟩)⟩) <;> refine ⟨_, rfl, ?_⟩)
        all_goals have hT2 : backs xs (j + 1) = backs xs j ++ [((i : Int), xs[i]?.getD 0)] := by rw [HT.out, HE.out, HI'.out, HI.out]
        · go_roundw
          case rel => exact ⟨j + 1, O'', by omega, by have := HI'.out; rw [show (i : Int) - 1 = len - 1 - ((j + 1 : Nat) : Int) by omega], hk.trans hk' hL, hL.trans hk.size hL', by rw [hT2]; exact hJ'⟩
          case measure => simp [intOf]
        · refine bodyPost_ret (results_none rfl _ _ _) rfl ?_
          exact ⟨⟨_, rfl⟩, O'', hk.trans hk' hL, hL.trans hk.size hL', .inr ⟨_, by rw [← hT2]; exact backs_prefix xs (by have := HL.out; omega), hJ'⟩⟩
    · gi_wp2
      go_end0
      exact ⟨⟨_, rfl⟩, O', hk, hL, .inl (by have h := HL.out; have e : j = xs.length := by omega
                                            rw [← e]; exact hj0)⟩

/-- What Back hands back. -/
def MakesP (xs : List Int) (w : World) (e : Ending) (w' : World) : Prop :=
  ∃ g lb C, e = .returned (.func (.func g) #[] lb) ∧ Tells Try.prog encP (.func (.func g) #[] lb) C (backs xs xs.length) w' ∧ (∀ k, C k → w.heap.size ≤ k) ∧ Below w.heap.size w w'
theorem back_makes (v : Value) (xs : List Int) (w : World) (h : Reads w v xs) (hlen : xs.length ≤ 1000000000) : Calls Try.prog 20 #[v] w (MakesP xs w) := by
  go_enter Try.func20, Try.ntmps20
  go_wp2_with fail
  refine (clone_any v xs _ h hlen).mono ?_
  rintro e w1 ⟨v1, rfl, hr, hb⟩
  have hT := back_tells v1 w1.heap.size w.heap.size xs (w1.alloc (.cells #[v1] 23)) (Boxed.new w1 23 _) (hr.alloc _) hlen
  have hB := hb.alloc hb.size (.cells #[v1] 23)
  have hCC : ∀ k, (k = w1.heap.size ∨ v1.ownBlock = some k) → w.heap.size ≤ k := fun k h => by
    rcases h with rfl | h
    · exact hb.size
    · exact (hr.lt k h).1
  rcases hr.2 with ⟨rfl, h0⟩ | ⟨g, cap, cur, rfl, _⟩
  all_goals
    clear hr
    go_wp2
    go_ret
    exact ⟨_, _, _, rfl, hT, hCC, hB⟩

/-- What the law's own function keeps: how many are still to come; all was fine. -/
def atJ (ba bf len : Nat) (pre : List (Int × Int)) (O : Nat → Prop) (W : World) : Prop :=
  O = (fun k => k = ba ∨ k = bf) ∧ Boxed W ba 3 (.int .i64 (len - pre.length)) ∧ Boxed W bf 4 (.bool true)
theorem atJ_fits (ba bf len : Nat) : Fits (atJ ba bf len) := by
  rintro s O W ⟨rfl, h1, h2⟩
  refine ⟨fun k hk => ?_, fun W' hW => ⟨rfl, (hW _ (.inl rfl)).trans h1, (hW _ (.inr rfl)).trans h2⟩⟩
  rcases hk with rfl | rfl
  · exact h1.lt
  · exact h2.lt

theorem backs_at (xs : List Int) (pre : List (Int × Int)) (x : Int × Int) (h : pre ++ [x] <+: backs xs xs.length) : pre.length < xs.length ∧ x = ((xs.length : Int) - 1 - pre.length, xs[xs.length - 1 - pre.length]?.getD 0) := by
  have hl := h.length_le
  rw [backs_length] at hl
  simp at hl
  refine ⟨by omega, ?_⟩
  have h1 : (backs xs xs.length)[pre.length]? = some x := by
    obtain ⟨r, hr⟩ := h
    rw [← hr]; simp
  unfold backs at h1
  rw [List.getElem?_map, List.getElem?_range (by omega)] at h1
  simp at h1
  exact h1.symm

set_option maxRecDepth 100000 in
set_option maxHeartbeats 1000000 in
theorem takes21 (ba bf bl : Nat) (a : Option Addr) (cap : Nat) (xs : List Int) (W₀ : World) (hne : ba ≠ bf) (hl1 : bl ≠ ba) (hl2 : bl ≠ bf) (hlen : xs.length ≤ 2000) (hbl : Boxed W₀ bl 23 (.slice a xs.length cap))
    (hRd : Reads W₀ (.slice a xs.length cap) xs) (hap : 0 < xs.length → ∀ b off, a = some ⟨b, off, none⟩ → b ≠ ba ∧ b ≠ bf) :
    Takes Try.prog encP (.func (.func 21) #[] #[at0 ba, at0 bf, at0 bl]) (atJ ba bf xs.length) (fun _ _ _ => False) (backs xs xs.length) (fun k => k = ba ∨ k = bf) W₀ := by
  rintro pre x O W hpre hk hL ⟨rfl, h1, h2⟩
  obtain ⟨hp, rfl⟩ := backs_at xs pre x hpre
  rcases hRd with ⟨a', c', he, hx⟩ | ⟨b, off, cap', he, _, hcc, hmm, hcell⟩
  · rw [hx] at hp; simp at hp
  cases he
  obtain ⟨n1, n2⟩ := hap (by omega) b off rfl
  have q0 := hcell (xs.length - 1 - pre.length) (by omega)
  have q1 : W.cell? ⟨b, off + (xs.length - 1 - pre.length), none⟩ = some (.int .i64 (xs[xs.length - 1 - pre.length]?.getD 0)) :=
    (World.cell?_of_block (hk.block b (World.block_lt_of_cell? W₀ _ q0) (fun h => h.elim n1 n2))).trans q0
  have c1 := h1.cell
  have f1 := h1.frozen
  have c2 := h2.cell
  have f2 := h2.frozen
  have c3 := (hk.boxed hbl (fun h => h.elim hl1 hl2)).cell
  obtain ⟨len, hlen'⟩ : ∃ len, xs.length = len := ⟨_, rfl⟩
  obtain ⟨m, hm⟩ : ∃ m, pre.length = m := ⟨_, rfl⟩
  obtain ⟨i, hi⟩ : ∃ i : Nat, len - 1 - m = i := ⟨_, rfl⟩
  rw [hlen', hm] at h1 c1 q1 hp ⊢
  rw [hlen'] at c3 hlen
  rw [hi] at q1 ⊢
  have hi' : (len : Int) - 1 - m = i := by omega
  have hi2 : (len : Int) - m = i + 1 := by omega
  rw [hi'] at ⊢
  rw [hi2] at c1 h1
  have HI := Lib.hid hi2
  have HM := Lib.hid hm
  have hil : i < len := by omega
  clear hcell hmm q0 hi hi' hi2 hm hlen' hpre hbl hL hap
  refine callsV_func (enters_of Try.func21 (by kernel_rfl) rfl) ?_
  refine (callsIn_wide (n := 9)).1 ?_
  refine callsIn_of_wp Try.func21 rfl trivial ?_ rfl
  simp only [Try.ntmps21, List.size_toArray, List.length_cons, List.length_nil, Nat.reduceAdd, Nat.reduceSub, Array.replicate_succ, Array.replicate_zero, List.push_toArray, List.append_toArray, List.nil_append, List.cons_append]
  rcases Nat.eq_zero_or_pos i with rfl | hpos
  · rw [Nat.add_zero] at q1
    gi_wp2
    go_ret
    have e : (len : Int) - ((pre ++ [(((0 : Nat) : Int), xs[0]?.getD 0)]).length : Nat) = (0 : Nat) := by have h1 := HI.out; have h2 := HM.out; simp; omega
    refine ⟨fun k => k = ba ∨ k = bf, ((Keeps.refl (fun k => k = ba ∨ k = bf) W).setCell (p := ⟨ba, 0, none⟩) (.inl (.inl rfl)) _).setCell (p := ⟨bf, 0, none⟩) (.inl (.inr rfl)) _, Later.refl _ _, .inl ⟨rfl, rfl, ?_, ?_⟩⟩
    · rw [e]; exact (h1.set _).other hne _
    · exact (h2.other (Ne.symm hne) _).set _
  · gi_wp2
    go_ret
    have e : (len : Int) - ((pre ++ [((i : Int), xs[i]?.getD 0)]).length : Nat) = (i : Nat) := by have h1 := HI.out; have h2 := HM.out; simp; omega
    refine ⟨fun k => k = ba ∨ k = bf, ((Keeps.refl (fun k => k = ba ∨ k = bf) W).setCell (p := ⟨ba, 0, none⟩) (.inl (.inl rfl)) _).setCell (p := ⟨bf, 0, none⟩) (.inl (.inr rfl)) _, Later.refl _ _, .inl ⟨rfl, rfl, ?_, ?_⟩⟩
    · rw [e]; exact (h1.set _).other hne _
    · exact (h2.other (Ne.symm hne) _).set _
end Go.Proofs.Ytmjfahjafecnnaa
