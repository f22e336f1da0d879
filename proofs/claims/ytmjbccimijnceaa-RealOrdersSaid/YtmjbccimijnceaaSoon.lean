/- The two that are answered first. -/
import Derived.Test.YtmjbccimijnceaaSortF
import Derived.RangeFuncCalls
namespace Go.Proofs.Ytmjbccimijnceaa
open Go.ChangeShapes Go.WideShapes Go.ChangeAt Go.RowKit
set_option linter.unusedVariables false
set_option linter.unusedSimpArgs false
attribute [local go_sem] Oper.semAt_some wide_fn

theorem SortS.of_row {W : World} {n₀ g cap n : Nat} {d : List Int} (h : W.ownsRow n₀ 3 1 (.slice (some ⟨g, 0, none⟩) n cap) n (ints d)) : SortS W g cap d W ∧ d.length = n ∧ n₀ ≤ g ∧ n ≤ cap ∧ cap ≤ maxLen := by
  obtain ⟨h1, h2⟩ := h
  have hl : d.length = n := by simpa using h1
  rcases h2 with ⟨he, rfl⟩ | ⟨g', cap', cur, he, hb, hg, hc, hm, hs, ht⟩
  · simp at he
  · simp only [Value.slice.injEq, Option.some.injEq, Addr.mk.injEq] at he
    obtain ⟨⟨rfl, -, -⟩, -, rfl⟩ := he
    exact ⟨⟨Keeps.refl _ _, cur, hg, by simpa using hs, by rw [hl]; simpa using ht⟩, hl, hb, hc, hm⟩
theorem SortS.to_row {w : World} {n₀ g cap : Nat} {d : List Int} {W : World} (h : SortS w g cap d W) (hg : n₀ ≤ g) (m : Nat) (hm : m ≤ d.length) (hc : d.length ≤ cap) (hcm : cap ≤ maxLen) :
    W.ownsRow n₀ 3 1 (.slice (some ⟨g, 0, none⟩) m cap) m (ints (d.take m)) := by
  obtain ⟨cur, hb, hs, ht⟩ := h.row
  refine ⟨by simp; omega, .inr ⟨g, cap, cur, rfl, hg, hb, by omega, hcm, by omega, ?_⟩⟩
  have : (cur.toList.take d.length).take m = (ints d).take m := by rw [ht]
  rw [List.take_take, Nat.min_eq_left hm] at this
  simpa [List.map_take] using this

theorem sorted_any (y : Sl) (l : List Opr) (bl n₀ g cap n : Nat) (d : List Int) (W : World) (hb : Boxed W bl 22 y.v) (hy : Reads W y 9 (encO l)) (hyg : ¬ y.row g) (hd : ∀ x ∈ d, 0 ≤ x ∧ x < l.length) (h1 : 1 ≤ n) (h4 : n < 4)
    (h : W.ownsRow n₀ 3 1 (.slice (some ⟨g, 0, none⟩) n cap) n (ints d)) :
    Calls Try.prog 27 #[.slice (some ⟨g, 0, none⟩) n cap, .func (.func 28) #[] #[at0 bl]] W fun e W' => e = .returned (.tuple #[]) ∧ ∃ d', SortS W g cap d' W' ∧ d'.Perm d ∧ d'.Pairwise (fun a b => toOf l a ≤ toOf l b) := by
  have hne : bl ≠ g := fun e => (hb.not_row (by decide) h) (by rw [e]; rfl)
  obtain ⟨hS, rfl, hg, hc, hm⟩ := SortS.of_row h
  simp only [maxLen] at hm
  refine sortFunc_any g cap d.length _ W h4 hc hm _ ?_
  refine insertion_any (toOf l) g cap _ d W (fun x => 0 ≤ x ∧ x < l.length) hd h1 (by omega) hc hm hS fun W' hk a b ha hb' => ?_
  have e1 : ((a.toNat : Nat) : Int) = a := by omega
  have e2 : ((b.toNat : Nat) : Int) = b := by omega
  have := by_any y l bl a.toNat b.toNat W' (hk.boxed hb hne) (hy.of_row fun k hk' => hk.block k (hy.row_lt (by decide) hk') (fun e => hyg (e ▸ hk'))) (by omega) (by omega)
  rw [e1, e2] at this
  exact this

/-- The two that are answered first, in a variable. -/
def soonJ (l : List Opr) (n₀ b : Nat) (pre : List Int) (O : Nat → Prop) (W : World) : Prop :=
  ∃ v F, O = (fun k => k = b ∨ v.ownBlock = some k) ∧ Boxed W b 23 v ∧ W.ownsRow n₀ 3 1 v F.length (ints F) ∧ Soon l pre F
theorem soonJ_fits (l : List Opr) (n₀ b : Nat) : Fits (soonJ l n₀ b) := by
  rintro s O W ⟨v, F, rfl, hb, hr, hS⟩
  refine ⟨fun k hk => ?_, fun W' hW => ⟨v, F, rfl, (hW _ (.inl rfl)).trans hb, ownsRow_agree hr (fun k hk => hW k (.inr hk)), hS⟩⟩
  rcases hk with rfl | hk
  · exact hb.lt
  · exact (hr.lt k hk).2

/-- What soonest hands back. -/
def Sooned (l : List Opr) (xs : List Int) (w : World) (e : Ending) (W : World) : Prop := ∃ v F, e = .returned v ∧ W.ownsRow w.heap.size 3 1 v F.length (ints F) ∧ Soon l xs F ∧ Below w.heap.size w W
set_option maxRecDepth 100000 in
set_option maxHeartbeats 2000000 in
theorem soonest_any (y : Sl) (l : List Opr) (gf : Nat) (lb : Array Value) (C : Nat → Prop) (xs : List Int) (w : World) (hy : Reads w y 9 (encO l)) (eg : ∀ args w, (callFunc gf args).run Try.prog w = .ok (.enter gf args) w)
    (hs : Tells Try.prog encI (.func (.func gf) #[] lb) C xs w) (hx : ∀ x ∈ xs, 0 ≤ x ∧ x < l.length) (hnd : xs.Nodup) :
    Calls Try.prog 21 #[y.v, .func (.func gf) #[] lb] w (Sooned l xs w) := by
  obtain ⟨i0, hi, hz0, hz1, hz2⟩ := info_parts Try.info3
  refine (callsIn_wide (n := 9)).1 ?_
  refine callsIn_of_wp_marks Try.func21 rfl trivial ?_ rfl
  simp only [Try.ntmps21, List.size_toArray, List.length_cons, List.length_nil, Nat.reduceAdd, Nat.reduceSub, Array.replicate_succ, Array.replicate_zero, List.push_toArray, List.append_toArray, List.nil_append, List.cons_append]
  gi_wp2_with fail
  obtain ⟨WL, hWL⟩ : ∃ WL, (w.alloc (.cells #[y.v] 22)).alloc (.cells #[.slice none 0 0] 23) = WL := ⟨_, rfl⟩
  have hBL : Below w.heap.size w WL := by rw [← hWL]; exact ((Below.refl _ _).alloc (Nat.le_refl _) _).alloc (by simp) _
  have hsL : WL.heap.size = w.heap.size + 2 := by rw [← hWL]; simp
  have q0 : Boxed WL w.heap.size 22 y.v := by rw [← hWL]; exact (Boxed.new w 22 _).alloc _
  have q1 : Boxed WL (w.heap.size + 1) 23 (.slice none 0 0) := by
    rw [← hWL]; have := Boxed.new (w.alloc (.cells #[y.v] 22)) 23 (.slice none 0 0); rw [World.size_alloc] at this; exact this
  have hT := hs.below hBL
  have hyL := hy.below hBL
  simp only [Sl.v] at hWL
  rw [hWL]
  have hyr : ∀ k, y.row k → k < w.heap.size := fun k hk => hy.row_lt (by decide) hk
  refine wp_range (gf := gf) (lb := lb) rfl eg hT (fun _ => rfl) (soonJ l w.heap.size (w.heap.size + 1)) (fun _ _ _ _ => False) (soonJ_fits _ _ _) (fun _ => fits_none)
    (fun k => k = w.heap.size + 1 ∨ (Value.slice none 0 0).ownBlock = some k) ⟨_, [], rfl, q1, World.ownsRow_nil _ _ _ _, soon_nil l⟩ ?_
    (fun x => { tmps := #[y.v, .func (.func gf) #[] lb, at0 w.heap.size, undef, .slice none 0 0, at0 (w.heap.size + 1), .int .i64 x, .func (.func gf) #[] lb, .int .i64 x, undef, undef, undef, undef, undef, undef, undef, undef, undef, undef, undef, undef, undef], defers := [] }) ?assign ?body ?done ?stop
  case assign =>
    intro l x W K hK
    gi_wp2
    exact hK
  case body =>
    rintro l' pre x O W hpre hk hL ⟨v, F, rfl, hv, hrow, hS⟩
    have hno : ∀ k, k < w.heap.size + 1 → ¬ (k = w.heap.size + 1 ∨ (Value.slice none 0 0).ownBlock = some k) := fun k hk h => by
      rcases h with h | h
      · omega
      · simp [Value.ownBlock] at h
    have hbox : Boxed W w.heap.size 22 y.v := hk.boxed q0 (hno _ (by omega))
    have hyW : Reads W y 9 (encO l) := hyL.of_row fun k h => hk.block k (by have := hyr k h; omega) (hno k (by have := hyr k h; omega))
    have hc := hv.cell
    have hsz : w.heap.size ≤ W.heap.size := by have := hk.size; omega
    have hF2 := hS.two
    have KS := Lib.hid fun (V : World) (g cap : Nat) (hB : Boxed V w.heap.size 22 y.v) (hY : Reads V y 9 (encO l)) (hg : ¬ y.row g) (hown : V.ownsRow w.heap.size 3 1 (.slice (some ⟨g, 0, none⟩) (F.length + 1) cap) (F.length + 1) (ints (F ++ [x]))) =>
      sorted_any y l w.heap.size w.heap.size g cap (F.length + 1) (F ++ [x]) V hB hY hg (fun z hz => by
        have hxs : ∀ z ∈ pre ++ [x], z ∈ xs := fun z hz => hpre.subset hz
        simp at hz
        rcases hz with hz | rfl
        · exact hx z (hxs z (by simp [hS.sub z hz]))
        · exact hx z (hxs z (by simp))) (by omega) (by omega) hown
    have HS := Lib.hid hS
    have HX : Hid (x ∉ pre) := Lib.hid fun h => by
      have := hnd.sublist hpre.sublist
      rw [List.nodup_append] at this
      exact this.2.2 x h x (by simp) rfl
    have HBX := Lib.hid hbox
    have HY := Lib.hid hyW
    have HYR := Lib.hid hyr
    clear hS hx hnd hs hT hyL hy hpre hno hbox hyW hWL hBL q0 q1 hyr hk hL
    obtain ⟨n, hn⟩ : ∃ n, n = F.length := ⟨_, rfl⟩
    have hNN := Lib.hid hn
    rw [← hn] at hF2 hrow
    rw [← hn] at KS
    clear hn
    obtain ⟨m, hmin, hmm⟩ : ∃ m : Nat, min ((n : Int) + 1) 2 = (m : Int) ∧ Hid (m = min (n + 1) 2) := ⟨min (n + 1) 2, by omega, Lib.hid rfl⟩
    obtain ⟨ya, yn, yc⟩ := y
    gi_wp2_with (first
      | (gi_at_builtin
         (
          refine wpListIn_append_later _ rfl _ _ 23 rfl w.heap.size 3 i0 (.int .i64 0) 1 8 Try.underlying23 hi hz0 hz1 hz2 rfl (by decide) _ _ _ rfl (hrow.alloc _) ⟨W.heap.size, 0, none⟩ 1 1 [.int .i64 x] rfl rfl (cell_one_new _ _ _) (by simp [Value.oneCell']) (by simp only [maxLen]; omega) (by omega) (by simp; omega) ?_
          intro v' w1 hown' hgrow _ hlat
          obtain ⟨g', cap', rfl⟩ := ownsRow_succ hown'
          obtain ⟨hv1, hv2, hr2, hk2, hb2⟩ := hv.appended (by decide) hrow hsz (by omega) hown' hgrow
          have hc1 := hv1.cell
          have hf1 := hv1.frozen
          have hK2 := (((Keeps.refl (fun k => k = w.heap.size + 1 ∨ v.ownBlock = some k) W).alloc _).grown hgrow (fun k e => .inl (.inr e))).setCell (p := ⟨w.heap.size + 1, 0, none⟩) (.inl (.inl rfl)) (.slice (some ⟨g', 0, none⟩) (n + 1) cap')
          have hB2 := hK2.boxed HBX.out (fun h => by rcases h with h | h; omega; exact HBX.out.not_row (by decide) hrow h.symm)
          have hY2 := HY.out.of_row (fun k hk' => hK2.block k (HY.out.row_lt (by decide) hk') (fun h => by rcases h with h | h; have := HYR.out k hk'; omega; have := (hrow.lt k h).1; have := HYR.out k hk'; omega))
          have hg2 : ¬ (Sl.mk ya yn yc).row g' := (fun h => by have := HYR.out _ h; have := (hr2.lt g' rfl).1; omega)
          have hr2' : ((w1.setCell ⟨w.heap.size + 1, 0, none⟩ (.slice (some ⟨g', 0, none⟩) (n + 1) cap'))).ownsRow w.heap.size 3 1 (.slice (some ⟨g', 0, none⟩) (n + 1) cap') (n + 1) (ints (F ++ [x])) := (by simpa using hr2)
          have KS2 := Lib.hid (KS.out _ _ _ hB2 hY2 hg2 hr2')
          clear hB2 hY2 hg2))
      | (gi_at_call 27
         (
          refine (CallsIn.inRound l' (callsIn_wide.2 KS2.out)).mono ?_
          rintro e W3 ⟨rfl, d', hS3, hp3, hpw3⟩
          have hv3 := hS3.keeps.boxed hv2 (fun e => hv2.not_row (by decide) hr2' (by rw [e]; rfl))
          have hc3 := hv3.cell
          have hf3 := hv3.frozen
          have hrow3 := SortS.of_row hr2'
          have hcap3 := hrow3.2.2.2.1
          have hmc : m ≤ cap' := (by have := hmm.out; omega))))
    have hlw : ∀ k, k = g' → v.ownBlock = some k ∨ W.heap.size ≤ k := fun k hk => by
      subst hk
      rcases hlat with h | h
      · exact .inl (h ▸ rfl)
      · exact .inr (by have := h k rfl; simp at this; omega)
    have hgl : w.heap.size ≤ g' := hrow3.2.2.1
    have hcm := hrow3.2.2.2.2
    have hdl : d'.length = n + 1 := hp3.length_eq.trans hrow3.2.1
    have hgb : w.heap.size + 1 ≠ g' := fun e => hv2.not_row (by decide) hr2' (by rw [e]; rfl)
    have hm2 := hmm.out
    have htk : d'.take 2 = d'.take m := by
      rcases Nat.lt_or_ge n 1 with h | h
      · rw [List.take_of_length_le (by omega), List.take_of_length_le (by omega)]
      · rw [show m = 2 by omega]
    have hlen : (d'.take 2).length = m := by rw [List.length_take]; omega
    refine ⟨fun k => k = w.heap.size + 1 ∨ (Value.slice (some ⟨g', 0, none⟩) m cap').ownBlock = some k, (hK2.trans hS3.keeps (fun k hk => (hlw k hk).imp .inr id)).setCell (.inl (.inl rfl)) _, fun k hk => ?_, _, d'.take 2, rfl, hv3.set _, ?_, HS.out.step HX.out hp3 hpw3⟩
    · rcases hk with hk | hk
      · exact .inl (.inl hk)
      · exact (hlw k (by simpa [Value.ownBlock] using hk.symm)).imp .inr id
    · rw [hlen, htk]
      exact ownsRow_agree (hS3.to_row hgl m (by omega) (by omega) hcm) (fun k hk => Below.heap_setCell _ _ _ _ (by simp [Value.ownBlock] at hk; subst hk; exact fun e => hgb e.symm))
  case done =>
    rintro D O W hD hnD hk hL ⟨v, F, rfl, hv, hrow, hS⟩ hK
    have hc := hv.cell
    gi_wp2
    refine ⟨by simp, .inl ⟨_, _, rfl, run_takeDeferred hK, ?_⟩⟩
    refine ⟨_, results_tmp rfl _ _ _, v, F, rfl, ownsRow_putObj hrow _ hK rfl, hS, hBL.trans ((hk.putObj (.inr hD) _).below (by omega) (fun k h => ?_))⟩
    rcases h with h | h
    · omega
    · simp [Value.ownBlock] at h
  case stop =>
    rintro D c pre O W _ _ _ _ _ h _
    exact h.elim
  · intro k hk h
    have := hs.lt k hk
    rcases h with rfl | h
    · omega
    · simp [Value.ownBlock] at h
end Go.Proofs.Ytmjbccimijnceaa
