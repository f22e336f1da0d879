/- ArenaAlone's walk. -/
import Derived.Test.YtnedifcjenlcjaaAOwn
import Derived.Deep.CutBlock
import Derived.Deep.RegionLaw
import Derived.BigRegion
namespace Go.Proofs.Ytnedifcjenlcjaa
open Go.ChangeShapes Go.WideShapes Go.ChangeAt Go.RowKit
set_option linter.unusedVariables false
set_option maxRecDepth 20000

/-- Amid the first loop: j nodes have been laid in the list. -/
def A1 (c : P.Cf) (w : World) (Cb B Fb T g t : Nat) (j : Nat) (fa : Option Addr) (fc : Nat) (W : World) : Prop :=
  ∃ fl : List Int, fl.length = j ∧ (∀ i, i < j → nth fl i = c.nd - i) ∧ LS c w Cb B Fb T g t .idle (list0 c) [] 0 (firstMS c).st fa fc fl none 0 [] W
/-- Amid the second loop. -/
def A2 (c : P.Cf) (w : World) (Cb B Fb T g t : Nat) (k : Nat) (fa : Option Addr) (fn fc : Nat) (ha : Option Addr) (hn hc : Nat) (W : World) : Prop :=
  ∃ (L hv : List Int) (s : Nat) (st : Int), L.length = fn ∧ hv.length = hn ∧ s ≤ k ∧ 0 ≤ st ∧ st ≤ 100 + 3 * k ∧ LS c w Cb B Fb T g t .idle L hv s st fa fc L.reverse ha hc hv W
theorem nth_snoc (l : List Int) (y : Int) (i : Nat) : nth (l ++ [y]) i = if i < l.length then nth l i else if i = l.length then y else 0 := by
  unfold nth
  simp only [List.getD_eq_getElem?_getD]
  by_cases h : i < l.length
  · rw [if_pos h, List.getElem?_append_left h]
  · rw [if_neg h, List.getElem?_append_right (by omega)]
    by_cases e : i = l.length
    · subst e; simp
    · rw [if_neg e, List.getElem?_eq_none (by simp; omega)]; rfl
theorem ext_nth {l l' : List Int} (h : l.length = l'.length) (h2 : ∀ i, i < l.length → nth l i = nth l' i) : l = l' := by
  apply List.ext_getElem h
  intro i a b
  have := h2 i a
  simpa [nth, List.getElem?_eq_getElem a, List.getElem?_eq_getElem b] using this
theorem nth_rev (l : List Int) (i : Nat) (h : i < l.length) : nth l.reverse i = nth l (l.length - 1 - i) := by
  unfold nth
  rw [List.getD_eq_getElem?_getD, List.getD_eq_getElem?_getD, List.getElem?_reverse h]

set_option maxHeartbeats 8000000 in
theorem alone_main (c : P.Cf) (a1 : Option Addr) (n cap : Nat) (xs : List Int) (w : World) (hc : c.Ok) (R : F.Row .i64 w a1 n cap xs) (hn : n ≤ 200) :
    Calls Try.prog 3 #[c.v, .slice a1 n cap] w fun e w' => e = .returned (.bool true) ∧ Below w.heap.size w w' := by
  obtain ⟨i0, hi, hz0, hz1, hz2⟩ := info_parts info3'
  have KR := fun W => P.right_ok c W hc
  have KN : ∀ W, Calls Try.prog 8 #[c.v, .slice none 0 0, .bool true] W fun e W' => ∃ B Fb T g t, e = .returned (.tuple #[at0 B, .int .i64 0]) ∧ ALw c W B Fb T g t .idle (list0 c) [] 0 (firstMS c).st W' := fun W => born_alw hc
  have KS := fun W => P.rsent_any c W
  have HC := Lib.hid hc
  have HR := Lib.hid R
  have hnd := hc.nd
  have hsn := P.sent_in c.al
  have hn0 := hc.n0
  have HD := Lib.hid (And.intro hnd (And.intro hsn hn0))
  clear hc R
  go_enter Try.func3, Try.ntmps3
  go_wp2_with fail
  refine (KR _).mono ?_
  rintro e V ⟨rfl, hb⟩
  obtain ⟨hB, h0⟩ := P.boxed c hb
  clear hb KR
  obtain ⟨p0, p1, p2, p3, p4, p5, p6⟩ := hB.conf
  generalize hCb : w.heap.size = Cb at *
  go_wp2_with fail
  refine (KN _).mono ?_
  rintro e V1 ⟨B, Fb, T, g, t, rfl, X, hAL, hX, hbl⟩
  have hA : LS c w Cb B Fb T g t .idle (list0 c) [] 0 (firstMS c).st none 0 [] none 0 [] V1 := by
    subst hCb
    exact ⟨hB.below hbl hB.lt, P.below_then h0 hbl (Nat.le_refl _), ⟨X, hAL, fun k hk => Nat.le_trans h0.size (hX k hk), Mine.nil _ _ _, Mine.nil _ _ _⟩, fun k e => by cases e⟩
  have HA := Lib.hid hA
  obtain ⟨p0, p1, p2, p3, p4, p5, p6⟩ := hA.cb.conf
  have HCb := Lib.hid hCb
  clear hAL hX hbl hA hB h0 KN hCb
  go_wp2_with fail
  clear p0 p1 p2 p3 p4 p5 p6
  go_loopw [7, 9] (fun v i wr => ∃ (j : Nat) (fa : Option Addr) (fc : Nat), (j : Int) + P.sent c.al ≤ c.nd ∧ v = .slice fa j fc ∧ i = .int .i64 (c.nd - j) ∧ Hid (A1 c w Cb B Fb T g t j fa fc wr)) (fun v i wr => (intOf i).toNat)
  case atStart => exact ⟨0, none, 0, by omega, rfl, by simp, Lib.hid ⟨[], rfl, fun i hi => by omega, HA.out⟩⟩
  case round =>
    obtain ⟨j, fa, fc, hj, rfl, rfl, hrel⟩ := hrel
    clear HA
    obtain ⟨fl, hfl, hnth, hS⟩ := hrel.out
    clear hrel
    obtain ⟨p0, p1, p2, p3, p4, p5, p6⟩ := hS.cb.conf
    have HS := Lib.hid hS
    have HFL := Lib.hid (And.intro hfl hnth)
    clear hS hfl hnth
    by_cases hlt : (j : Int) + P.sent c.al < c.nd
    · have hgt : (c.nd - j > P.sent c.al) := by omega
      go_wp2_with fail
      refine (KS _).mono ?_
      rintro e V2 ⟨rfl, hb⟩
      have HS2 := Lib.hid (HS.out.below hb)
      clear hb HS p0 p1 p2 p3 p4 p5 p6
      have hrow : V2.ownsRow w.heap.size 3 1 (.slice fa j fc) j (ints fl) := by
        obtain ⟨X, a, hX, m1, m2⟩ := HS2.out.al
        have := m1.row
        rwa [HFL.out.1] at this
      have hbw := HS2.out.bel.size
      have hj64 : j < 100 := by omega
      have HROW := Lib.hid hrow
      clear hrow
      go_wp2_with (at_builtin; refine wpList_append_any _ rfl _ _ 24 rfl w.heap.size 3 i0 (.int .i64 0) 8 Try.underlying24 hi hz0 hz1 hz2 rfl (.slice fa j fc) j (ints fl) rfl (HROW.out.alloc _) ⟨V2.heap.size, 0, none⟩ 1 1 (ints [c.nd - j]) rfl rfl (cell_one_new _ _ _) (by simp [Value.oneCell']) (by simp only [maxLen]; omega) (by omega) (by simp; omega) ?_; intro fa' fc' w3 hown hgrow hat)
      have HG := Lib.hid (HS2.out.free (y := c.nd - j) (n := j + 1) (by rw [HFL.out.1]) ((Below.refl _ _).alloc (Nat.le_refl _) _) (by rw [HFL.out.1]; exact hgrow) hown (by rw [HFL.out.1]; simpa using hat))
      clear hown hgrow hat HROW HS2
      go_roundw
      case rel =>
        refine ⟨j + 1, fa', fc', by omega, rfl, by go_num, Lib.hid ⟨_, by simp [HFL.out.1], fun i hi => ?_, HG.out⟩⟩
        rw [nth_snoc, HFL.out.1]
        by_cases e : i < j
        · rw [if_pos e]; exact HFL.out.2 i e
        · rw [if_neg e, if_pos (by omega)]; omega
      case measure => simp [intOf]; omega
    · have hgt : ¬ (c.nd - j > P.sent c.al) := by omega
      have HA2 : Hid (A2 c w Cb B Fb T g t 0 fa j fc none 0 0 wr) := Lib.hid ⟨list0 c, [], 0, (firstMS c).st, by have := list0_len HC.out; omega, rfl, Nat.le_refl _, (first_mk HC.out).2.1, by have := (first_mk HC.out).2.2; omega, by
        have hfe : fl = (list0 c).reverse := by
          have hlen := list0_len HC.out
          refine ext_nth (by rw [List.length_reverse, HFL.out.1]; omega) fun i hi => ?_
          rw [HFL.out.1] at hi
          rw [HFL.out.2 i hi, nth_rev _ _ (by omega), list0_nth HC.out (by omega)]
          omega
        rw [← hfe]; exact HS.out⟩
      go_wp2_with fail
      refine (KS _).mono ?_
      rintro e V2 ⟨rfl, hb⟩
      have HA3 : Hid (A2 c w Cb B Fb T g t 0 fa j fc none 0 0 V2) := Lib.hid (by
        obtain ⟨L, hv, s, st, q1, q2, q3, q4, q5, q6⟩ := HA2.out
        exact ⟨L, hv, s, st, q1, q2, q3, q4, q5, q6.below hb⟩)
      clear hb HS HFL HA2 p0 p1 p2 p3 p4 p5 p6
      go_wp2_with fail
      go_loopw [7, 8, 10] (fun v u i wr => ∃ (k fn : Nat) (fa : Option Addr) (fc : Nat) (hn' : Nat) (ha : Option Addr) (hcp : Nat), k ≤ n ∧ fn ≤ 64 ∧ hn' ≤ 64 ∧ v = .slice fa fn fc ∧ u = .slice ha hn' hcp ∧ i = .int .i64 k ∧ Hid (A2 c w Cb B Fb T g t k fa fn fc ha hn' hcp wr)) (fun _ _ i _ => n - (intOf i).toNat)
      case atStart => exact ⟨0, j, fa, fc, 0, none, 0, by omega, by omega, by omega, rfl, rfl, rfl, HA3⟩
      case round =>
        clear HA3 KS
        obtain ⟨k, fn, fa, fc, hn', ha, hcp, hk, hf64, hh64, rfl, rfl, rfl, hrel⟩ := hrel
        obtain ⟨L, hv, s, st, q1, q2, q3, q4, q5, hS⟩ := hrel.out
        have HQ := Lib.hid (And.intro q1 (And.intro q2 (And.intro q3 (And.intro q4 q5))))
        have HS := Lib.hid hS
        by_cases hlt : k < n
        · obtain ⟨b1, o1, rfl, hx⟩ := (Row.later HR.out hS.bel).cell k hlt
          have hx' : wr.cell? ⟨b1, o1 + k, none⟩ = some (.int .i64 (xs.getD k 0)) := hx
          have hxw := (Row.later HR.out hS.bel).wf
          clear hx
          obtain ⟨M, hM⟩ : ∃ M, ∀ V, Below wr.heap.size wr V → (Calls Try.prog 10 #[at0 B] V fun e V' => e = .returned (at0 M) ∧ V = V') ∧ Calls Try.prog 11 #[at0 M] V fun e V' => e = .returned (.int .i64 st) ∧ V = V' := by
            obtain ⟨X, a, -⟩ := hS.al
            exact al_steps a
          obtain ⟨KM, KT⟩ := hM wr (Below.refl _ _)
          clear hM hS hrel q1 q2 q3 q4 q5
          go_wp2_with fail
          refine KM.mono ?_
          rintro e v1 ⟨rfl, rfl⟩
          go_wp2_with fail
          refine KT.mono ?_
          rintro e v1 ⟨rfl, rfl⟩
          clear KM KT
          obtain ⟨x, hxe⟩ : ∃ x, xs.getD k 0 = x := ⟨_, rfl⟩
          rw [hxe] at hx'
          have hxb : -9223372036854775808 ≤ x ∧ x ≤ 9223372036854775807 := bd_i64 (hxw x (by
            rw [← hxe, List.getD_eq_getElem?_getD, List.getElem?_eq_getElem (by rw [HR.out.len]; exact hlt)]
            exact List.getElem_mem _))
          have HXX := Lib.hid hxe
          clear hxw hxe
          by_cases hal : x < 0 ∨ hn' = 0
          · cases L with
            | nil =>
              have hfn : fn = 0 := HQ.out.1.symm
              subst hfn
              have K := HS.out.call (fun X a => al_none HC.out a (by have := HQ.out; omega) ⟨by have := HQ.out; omega, by have := HQ.out; omega⟩)
              have w1 : IntKind.i64.wrap (st + 1 - st) = 1 := by rw [IntWalk.i64_in _ (by omega)]; omega
              clear HS
              by_cases hx0 : x < 0
              all_goals
                try have hz : ((hn' : Int) == 0) = true := by simp; omega
                clear hal
                go_wp2_with fail
                refine K.mono ?_
                rintro e W9 ⟨rfl, hS⟩
                have HS9 := Lib.hid hS
                have HLEN : Hid (([] : List Int).length = 0 ∧ hv.length = hn' ∧ hn' ≤ 64) := Lib.hid ⟨rfl, HQ.out.2.1, hh64⟩
                clear hS K
                have hMem : ∃ M, ∀ V, Below W9.heap.size W9 V → (Calls Try.prog 10 #[at0 B] V fun e V' => e = .returned (at0 M) ∧ V = V') ∧ Calls Try.prog 11 #[at0 M] V fun e V' => e = .returned (.int .i64 (st + 1)) ∧ V = V' := by
                  obtain ⟨X, a, -⟩ := HS9.out.al
                  exact al_steps a
                obtain ⟨M2, hM⟩ := hMem
                obtain ⟨KM, KT⟩ := hM W9 (Below.refl _ _)
                clear hM
                go_wp2_with fail
                refine KM.mono ?_
                rintro e v1 ⟨rfl, rfl⟩
                go_wp2_with fail
                refine KT.mono ?_
                rintro e v1 ⟨rfl, rfl⟩
                clear KM KT
                go_wp2
                go_roundw
                case rel =>
                  have hsh := HS9.out.short HC.out
                  have hle := HLEN.out
                  try simp at hsh hle
                  exact ⟨k + 1, 0, fa, fc, hn', ha, hcp, by omega, by omega, by omega, rfl, rfl, by go_num, Lib.hid ⟨[], hv, s, st + 1, by first | omega | (simp; done) | (simp; omega), by first | omega | (simp; done) | (simp; omega), by have := HQ.out; omega, by have := HQ.out; omega, by have := HQ.out; omega, HS9.out⟩⟩
                case measure => simp [intOf]; omega
            | cons p L =>
              obtain ⟨m, hm⟩ : ∃ m, L.length = m := ⟨_, rfl⟩
              have hfn : fn = m + 1 := by have := HQ.out.1; simp at this; omega
              subst hfn
              have K := HS.out.call (fun X a => al_some HC.out a (by have := HQ.out; omega) ⟨by have := HQ.out; omega, by have := HQ.out; omega⟩)
              have w1 : IntKind.i64.wrap (st + 3 - st) = 3 := by rw [IntWalk.i64_in _ (by omega)]; omega
              have e1 : ((m + 1 : Nat) : Int) = (m : Int) + 1 := by omega
              have w2 : IntKind.i64.wrap ((m : Int) + 1 - 1) = m := by rw [IntWalk.i64_in _ (by omega)]; omega
              have g1 : ((m : Int) + 1 > 0) := by omega
              have HLEN : Hid (L.length = m ∧ hv.length = hn' ∧ hn' ≤ 64) := Lib.hid ⟨hm, HQ.out.2.1, hh64⟩
              clear HS hm
              by_cases hx0 : x < 0
              all_goals
                try have hz : ((hn' : Int) == 0) = true := by simp; omega
                clear hal
                go_wp2_with fail
                refine K.mono ?_
                rintro e W7 ⟨rfl, hS⟩
                rw [List.reverse_cons] at hS
                obtain ⟨X, a, hX, m1, m2⟩ := hS.al
                obtain ⟨gr, hfa, hcell⟩ := m1.at_ (by simp)
                have hroom := m1.room
                simp only [List.length_append, List.length_reverse, HLEN.out.1, List.length_cons, List.length_nil, Nat.zero_add] at hroom hcell
                have cp := hcell m (by omega)
                rw [nth_snoc, List.length_reverse, HLEN.out.1, if_neg (Nat.lt_irrefl m), if_pos rfl] at cp
                subst hfa
                have hrow := m2.row
                have hbw := hS.bel.size
                rw [HLEN.out.2.1] at hrow
                have HROW := Lib.hid hrow
                have HS7 := Lib.hid hS.cut.swap
                have hml : m + 1 ≤ fc ∧ fc ≤ 9223372036854775807 := by unfold maxLen at hroom; omega
                clear hS K a hX m1 m2 hcell hroom hrow X
                go_wp2_with (at_builtin; refine wpList_append_any _ rfl _ _ 24 rfl w.heap.size 3 i0 (.int .i64 0) 8 Try.underlying24 hi hz0 hz1 hz2 rfl (.slice ha hn' hcp) hn' (ints hv) rfl (HROW.out.alloc _) ⟨W7.heap.size, 0, none⟩ 1 1 (ints [p]) rfl rfl (cell_one_new _ _ _) (by simp [Value.oneCell']) (by simp only [maxLen]; omega) (by omega) (by simp; omega) ?_; intro ha' hcp' W9 hown hgrow hat; have hS9 := (HS7.out.free (y := p) (n := hn' + 1) (by rw [HLEN.out.2.1]) ((Below.refl _ _).alloc (Nat.le_refl _) _) (by rw [HLEN.out.2.1]; exact hgrow) hown (by rw [HLEN.out.2.1]; simpa using hat)).swap; have HS9 := Lib.hid hS9; clear hown hgrow hat hS9)
                have hMem : ∃ M, ∀ V, Below W9.heap.size W9 V → (Calls Try.prog 10 #[at0 B] V fun e V' => e = .returned (at0 M) ∧ V = V') ∧ Calls Try.prog 11 #[at0 M] V fun e V' => e = .returned (.int .i64 (st + 3)) ∧ V = V' := by
                  obtain ⟨X, a, -⟩ := HS9.out.al
                  exact al_steps a
                obtain ⟨M2, hM⟩ := hMem
                obtain ⟨KM, KT⟩ := hM W9 (Below.refl _ _)
                clear hM
                go_wp2_with fail
                refine KM.mono ?_
                rintro e v1 ⟨rfl, rfl⟩
                go_wp2_with fail
                refine KT.mono ?_
                rintro e v1 ⟨rfl, rfl⟩
                clear KM KT
                go_wp2
                go_roundw
                case rel =>
                  have hsh := HS9.out.short HC.out
                  have hle := HLEN.out
                  try simp at hsh hle
                  exact ⟨k + 1, m, (some ⟨gr, 0, none⟩), fc, (hn' + 1), ha', hcp', by omega, by omega, by omega, rfl, rfl, by go_num, Lib.hid ⟨L, (hv ++ [p]), (s + 1), st + 3, by first | omega | (simp; done) | (simp; omega), by first | omega | (simp; done) | (simp; omega), by have := HQ.out; omega, by have := HQ.out; omega, by have := HQ.out; omega, HS9.out⟩⟩
                case measure => simp [intOf]; omega
          · have hx0 : ¬ x < 0 := by omega
            have hh0 : 0 < hn' := by omega
            have hz : ((hn' : Int) == 0) = false := by simp; omega
            have hz' : ¬ (hn' : Int) = 0 := by omega
            obtain ⟨kk, hkk, hkl⟩ : ∃ kk : Nat, x.tmod (hn' : Int) = kk ∧ kk < hn' := by
              have h1 := Int.tmod_eq_emod_of_nonneg (b := (hn' : Int)) (show 0 ≤ x by omega)
              have h2 := Int.emod_nonneg x (show (hn' : Int) ≠ 0 by omega)
              have h3 := Int.emod_lt_of_pos x (show 0 < (hn' : Int) by omega)
              exact ⟨(x.tmod (hn' : Int)).toNat, by omega, by omega⟩
            obtain ⟨X, a, hX, m1, m2⟩ := HS.out.al
            obtain ⟨gh, hga, hcell⟩ := m2.at_ (by rw [HQ.out.2.1]; exact hh0)
            have hroom := m2.room
            rw [HQ.out.2.1] at hroom hcell
            subst hga
            obtain ⟨y, hy⟩ : ∃ y, nth hv kk = y := ⟨_, rfl⟩
            have ck := hcell kk hkl
            rw [hy] at ck
            have hsplit : hv = hv.take kk ++ y :: hv.drop (kk + 1) := by
              have hlt : kk < hv.length := by have := HQ.out; omega
              rw [← hy]
              unfold nth
              rw [List.getD_eq_getElem?_getD, List.getElem?_eq_getElem hlt]
              conv => lhs; rw [← List.take_append_drop kk hv, List.drop_eq_getElem_cons hlt]
              rfl
            have HSP := Lib.hid hsplit
            have HCL := Lib.hid (show ∀ j, j < hv.length → wr.cell? ⟨gh, j, none⟩ = some (.int .i64 (nth hv j)) by rw [HQ.out.2.1]; exact hcell)
            have hml : hn' ≤ hcp ∧ hcp ≤ 9223372036854775807 := by unfold maxLen at hroom; omega
            have w1 : IntKind.i64.wrap (st + 3 - st) = 3 := by rw [IntWalk.i64_in _ (by omega)]; omega
            obtain ⟨k1, hk1⟩ : ∃ k1, k1 = kk + 1 := ⟨_, rfl⟩
            have w2 : IntKind.i64.wrap ((kk : Int) + 1) = k1 := by rw [IntWalk.i64_in _ (by omega)]; omega
            have HK1 := Lib.hid hk1
            have hbw := HS.out.bel.size
            clear hal hsplit hcell hroom hX m1 m2 a X hy
            have bb1 : kk ≤ hcp := by omega
            have bb2 : k1 ≤ hn' := by omega
            have bb3 : hn' ≤ hcp := by omega
            have bb5 : k1 ≤ hcp := by omega
            clear hk1
            go_upto_region 29 with fail
            go_cut [17] from 101 to 110 (fun s17 wx => ∃ r2 rc2, s17 = .slice r2 (hn' - 1) rc2 ∧ Hid (Below wr.heap.size wr wx ∧ wx.ownsRow wr.heap.size 3 1 (.slice r2 (hn' - 1) rc2) (hn' - 1) (ints (hv.take kk ++ hv.drop (kk + 1)))))
            case first =>
              repeat (rename (∀ (a : Act) (w_1 : World), Code.wp Try.prog _ _ a w_1 → _) => hK1; clear hK1)
              have HGH : Hid (gh < wr.heap.size) := Lib.hid (World.block_lt_of_cell? wr _ (HCL.out kk (by have := HQ.out.2.1; omega)))
              have HFIN : Hid (∀ (m : Nat), m = hn' - k1 → ∀ (r1 r2 : Option Addr) (rc1 rc2 : Nat) (W5 W6 : World), W5.ownsRow wr.heap.size 3 1 (.slice r1 (0 + kk) rc1) (0 + kk) ([] ++ ints ((hv.drop 0).take kk)) → wr.drew.grownBy W5 (Value.slice none 0 0).ownBlock → W6.ownsRow wr.heap.size 3 1 (.slice r2 (0 + kk + m) rc2) (0 + kk + m) ([] ++ ints ((hv.drop 0).take kk) ++ ints ((hv.drop k1).take m)) → W5.grownBy W6 (Value.slice r1 (0 + kk) rc1).ownBlock → (Value.slice r2 (0 + kk + m) rc2 : Value) = .slice r2 (hn' - 1) rc2 ∧ Below wr.heap.size wr W6 ∧ W6.ownsRow wr.heap.size 3 1 (.slice r2 (hn' - 1) rc2) (hn' - 1) (ints (hv.take kk ++ hv.drop (kk + 1)))) := Lib.hid (by
                intro m hm r1 r2 rc1 rc2 W5 W6 h1 h2 h3 h4
                have e : 0 + kk + m = hn' - 1 := by have := HK1.out; omega
                rw [e] at h3 ⊢
                refine ⟨rfl, (((Below.refl _ _).drew).grown h2 (Nat.le_refl _) (by simp [Value.ownBlock])).grown h4 h2.size (fun k e => (h1.lt k e).1), ?_⟩
                have e2 : (hv.drop k1).take m = hv.drop (kk + 1) := by rw [hm, HK1.out]; exact List.take_of_length_le (by have := HQ.out.2.1; simp; omega)
                rw [e2] at h3
                simpa [ints] using h3)
              by_cases hcap : k1 < hcp
              · have bb4 : ¬ hcp = k1 := by omega
                go_wp2_with fail
                go_region_held3 (fun W => ∀ j, j < hv.length → W.cell? ⟨gh, j, none⟩ = some (.int .i64 (nth hv j))) (first | exact hc6 | exact hc5 | exact HCL.out) (first | (refine step_append_any _ (by rfl) _ _ _ (by rfl) wr.heap.size 3 i0 _ 8 Try.underlying24 hi hz0 hz1 hz2 rfl (.slice none 0 0) 0 [] (by rfl) (World.ownsRow_nil _ _ _ _) ⟨gh, 0, none⟩ kk hcp (ints ((hv.drop 0).take kk)) (by rfl) (by have := HQ.out.2.1; simp; omega) (news_part HCL.out 0 kk (by have := HQ.out.2.1; omega)) (ints_one _) (by simp only [maxLen]; omega) (by omega) (by simp) ?_; intro r1 rc1 W5 hown5 hgrow5 hat5; have hne5 : ∀ j, some (⟨gh, j, none⟩ : Addr).block ≠ (Value.slice r1 (0 + kk) rc1).ownBlock := fun j e => (by have h1 := (hown5.lt gh e.symm).1; have h2 := HGH.out; omega); have hc5 : ∀ j, j < hv.length → W5.cell? ⟨gh, j, none⟩ = some (.int .i64 (nth hv j)) := fun j hj => hgrow5.cell (HCL.out j hj) (by simp [Value.ownBlock])) | (refine step_append_any _ (by rfl) _ _ _ (by rfl) wr.heap.size 3 i0 _ 8 Try.underlying24 hi hz0 hz1 hz2 rfl (.slice r1 (0 + kk) rc1) (0 + kk) _ (by rfl) hown5 ⟨gh, k1, none⟩ (hn' - k1) (hcp - k1) (ints ((hv.drop k1).take (hn' - k1))) (by rfl) (by have := HQ.out.2.1; simp; omega) (news_part hc5 k1 (hn' - k1) (by have := HQ.out.2.1; omega)) (ints_one _) (by simp only [maxLen]; omega) (by omega) hgrow5.size ?_; intro r2 rc2 W6 hown6 hgrow6 hat6; have hc6 : ∀ j, j < hv.length → W6.cell? ⟨gh, j, none⟩ = some (.int .i64 (nth hv j)) := fun j hj => hgrow6.cell (hc5 j hj) (hne5 _)))
                go_wp2_with fail
                go_meet
                have hF := HFIN.out _ rfl _ _ _ _ _ _ hown5 hgrow5 hown6 hgrow6
                exact ⟨r2, rc2, by simpa using hF.1, Lib.hid hF.2⟩
              · have bb4 : k1 = hcp := by omega
                subst bb4
                go_wp2_with fail
                go_region_held3 (fun W => ∀ j, j < hv.length → W.cell? ⟨gh, j, none⟩ = some (.int .i64 (nth hv j))) (first | exact hc6 | exact hc5 | exact HCL.out) (first | (refine step_append_any _ (by rfl) _ _ _ (by rfl) wr.heap.size 3 i0 _ 8 Try.underlying24 hi hz0 hz1 hz2 rfl (.slice none 0 0) 0 [] (by rfl) (World.ownsRow_nil _ _ _ _) ⟨gh, 0, none⟩ kk k1 (ints ((hv.drop 0).take kk)) (by rfl) (by first | (simp; done) | (have := HQ.out.2.1; simp; omega)) (news_part HCL.out 0 kk (by have := HQ.out.2.1; omega)) (ints_one _) (by simp only [maxLen]; omega) (by omega) (by simp) ?_; intro r1 rc1 W5 hown5 hgrow5 hat5; have hne5 : ∀ j, some (⟨gh, j, none⟩ : Addr).block ≠ (Value.slice r1 (0 + kk) rc1).ownBlock := fun j e => (by have h1 := (hown5.lt gh e.symm).1; have h2 := HGH.out; omega); have hc5 : ∀ j, j < hv.length → W5.cell? ⟨gh, j, none⟩ = some (.int .i64 (nth hv j)) := fun j hj => hgrow5.cell (HCL.out j hj) (by simp [Value.ownBlock])) | (refine step_append_any _ (by rfl) _ _ _ (by rfl) wr.heap.size 3 i0 _ 8 Try.underlying24 hi hz0 hz1 hz2 rfl (.slice r1 (0 + kk) rc1) (0 + kk) _ (by rfl) hown5 ⟨gh, 0, none⟩ 0 0 (ints ((hv.drop k1).take 0)) (by rfl) (by first | (simp; done) | (have := HQ.out.2.1; simp; omega)) (fun j u hj => absurd (List.getElem?_eq_some_iff.1 hj).1 (by first | (simp; done) | (have := HQ.out.2.1; simp; omega))) (ints_one _) (by simp only [maxLen]; omega) (by omega) hgrow5.size ?_; intro r2 rc2 W6 hown6 hgrow6 hat6; have hc6 : ∀ j, j < hv.length → W6.cell? ⟨gh, j, none⟩ = some (.int .i64 (nth hv j)) := fun j hj => hgrow6.cell (hc5 j hj) (hne5 _)))
                go_wp2_with fail
                go_meet
                have hF := HFIN.out 0 (by omega) _ _ _ _ _ _ hown5 hgrow5 hown6 hgrow6
                exact ⟨r2, rc2, by simpa using hF.1, Lib.hid hF.2⟩
            case rest =>
              obtain ⟨r2, rc2, rfl, HR2⟩ := hcut
              clear ck hx' bb1 bb2 bb3 bb5 w2
              have hlr : hn' - 1 = (hv.take kk ++ hv.drop (kk + 1)).length := by have := HQ.out.2.1; simp; omega
              have hS5 := HS.out.fresh hlr HR2.out.1 HR2.out.2
              obtain ⟨l1, l2, hsp, hll⟩ : ∃ l1 l2, hv = l1 ++ y :: l2 ∧ hv.take kk ++ hv.drop (kk + 1) = l1 ++ l2 := ⟨_, _, HSP.out, rfl⟩
              rw [hll] at hS5 hlr
              have HS5 := Lib.hid hS5
              have HLR := Lib.hid hlr
              have HSQ := Lib.hid hsp
              clear hS5 hsp hll HSP
              have hrow : wc.ownsRow w.heap.size 3 1 (.slice fa fn fc) fn (ints L.reverse) := by
                obtain ⟨X, a, hX, m1, m2⟩ := HS5.out.al
                have := m1.row
                rwa [List.length_reverse, HQ.out.1] at this
              have hbw := HS5.out.bel.size
              have HROW := Lib.hid hrow
              have HLEN : Hid (L.length = fn ∧ L.reverse.length = fn ∧ fn ≤ 64) := Lib.hid ⟨HQ.out.1, by rw [List.length_reverse]; exact HQ.out.1, hf64⟩
              clear hrow HS HR2 hlr
              go_wp2_with (at_builtin; refine wpList_append_any _ rfl _ _ 24 rfl w.heap.size 3 i0 (.int .i64 0) 8 Try.underlying24 hi hz0 hz1 hz2 rfl (.slice fa fn fc) fn (ints L.reverse) rfl (HROW.out.alloc _) ⟨wc.heap.size, 0, none⟩ 1 1 (ints [y]) rfl rfl (cell_one_new _ _ _) (by simp [Value.oneCell']) (by simp only [maxLen]; omega) (by omega) (by simp; omega) ?_; intro fa' fc' W6 hown hgrow hat; have hS6 := (HS5.out.free (y := y) (n := fn + 1) (by rw [HLEN.out.2.1]) ((Below.refl _ _).alloc (Nat.le_refl _) _) (by rw [HLEN.out.2.1]; exact hgrow) hown (by rw [HLEN.out.2.1]; simpa using hat)); rw [HSQ.out] at hS6; have K6 := hS6.call (fun X a => al_gone HC.out a); clear hown hgrow hat hS6)
              refine K6.mono ?_
              rintro e W7 ⟨rfl, hS7⟩
              have K7 := hS7.call (fun X a => al_free HC.out a (by have := HQ.out; omega) ⟨by have := HQ.out; omega, by have := HQ.out; omega⟩)
              clear K6 hS7
              go_wp2_with fail
              refine K7.mono ?_
              rintro e W9 ⟨rfl, hS9⟩
              rw [← List.reverse_cons] at hS9
              have HS9 := Lib.hid hS9
              clear K7 hS9
              have hMem : ∃ M, ∀ V, Below W9.heap.size W9 V → (Calls Try.prog 10 #[at0 B] V fun e V' => e = .returned (at0 M) ∧ V = V') ∧ Calls Try.prog 11 #[at0 M] V fun e V' => e = .returned (.int .i64 (st + 3)) ∧ V = V' := by
                obtain ⟨X, a, -⟩ := HS9.out.al
                exact al_steps a
              obtain ⟨M2, hM⟩ := hMem
              obtain ⟨KM, KT⟩ := hM W9 (Below.refl _ _)
              clear hM
              go_wp2_with fail
              refine KM.mono ?_
              rintro e v1 ⟨rfl, rfl⟩
              go_wp2_with fail
              refine KT.mono ?_
              rintro e v1 ⟨rfl, rfl⟩
              clear KM KT
              go_wp2
              go_roundw
              case rel =>
                have hsh := HS9.out.short HC.out
                have hle := HLEN.out
                have hlr := HLR.out
                simp only [List.length_append, List.length_cons] at hsh hle hlr
                exact ⟨k + 1, (fn + 1), fa', fc', (hn' - 1), r2, rc2, by omega, by omega, by omega, rfl, rfl, by go_num, Lib.hid ⟨(y :: L), (l1 ++ l2), (s + 1), st + 3, by simp; omega, by simp; omega, by have := HQ.out; omega, by have := HQ.out; omega, by have := HQ.out; omega, HS9.out⟩⟩
              case measure => simp [intOf]; omega
        · have hkn : k = n := by omega
          have KCh : Calls Try.prog 14 #[at0 B] wr (Listed L wr) := by
            obtain ⟨X, a, -⟩ := hS.al
            exact al_chain HC.out a (by omega)
          have HC1 : Hid (∀ V, Below wr.heap.size wr V → (Calls Try.prog 15 #[at0 B] V fun e V' => e = .returned (.bool false) ∧ Below V.heap.size V V') ∧ (Calls Try.prog 16 #[at0 B] V fun e V' => e = .returned (at0 g) ∧ V = V') ∧ Calls Try.prog 17 #[at0 g, .int .i64 1] V fun e V' => e = .returned (.int .i64 (hn' + P.sent c.al)) ∧ V = V') := Lib.hid (by
            obtain ⟨X, a, -⟩ := hS.al
            intro V hV
            have h2 := al_count a HC.out V hV
            rw [show P.sent c.al + (hv.length : Int) = hn' + P.sent c.al by omega] at h2
            exact ⟨al_fault (a.below hV), h2⟩)
          have HP : Hid (∀ V, Below wr.heap.size wr V → V.cell? ⟨Cb, 0, none⟩ = some (.int .i64 c.al) ∧ V.cell? ⟨Cb, 1, none⟩ = some (.int .i64 c.th) ∧ V.cell? ⟨Cb, 2, none⟩ = some (.int .i64 c.nd) ∧ V.cell? ⟨Cb, 3, none⟩ = some (.int .i64 c.lv) ∧ V.cell? ⟨Cb, 4, none⟩ = some (.int .i64 c.ba) ∧ V.cell? ⟨Cb, 5, none⟩ = some (.int .i64 c.pr) ∧ V.cell? ⟨Cb, 6, none⟩ = some (.int .i64 c.sc)) := Lib.hid fun V hV => (hS.below hV).cb.conf
          have HF : Hid (∀ V, Below wr.heap.size wr V → 0 < fn → ∃ gr, fa = some ⟨gr, 0, none⟩ ∧ fn ≤ fc ∧ ∀ j, j < fn → V.cell? ⟨gr, j, none⟩ = some (.int .i64 (nth L.reverse j))) := Lib.hid (by
            obtain ⟨X, a, hX, m1, m2⟩ := hS.al
            intro V hV h0
            obtain ⟨gr, e1, e2⟩ := (m1.below hV).at_ (by rw [List.length_reverse, q1]; exact h0)
            rw [List.length_reverse, q1] at e2
            have hr := m1.room
            rw [List.length_reverse, q1] at hr
            exact ⟨gr, e1, hr.1, e2⟩)
          have HBW := Lib.hid hS.bel
          have wsum : IntKind.i64.wrap ((hn' : Int) + P.sent c.al) = hn' + P.sent c.al := IntWalk.i64_in _ (by omega)
          clear hS HS hrel q2 q3 q4 q5 hkn
          go_wp2_with fail
          refine KCh.mono ?_
          rintro e W2 ⟨v, rfl, ho, hb2⟩
          rw [q1] at ho
          obtain ⟨la, lc, rfl⟩ : ∃ a cap, v = .slice a fn cap := by
            rcases ho.2 with ⟨ev, h0⟩ | ⟨g', cap', cur, ev, _⟩
            · exact ⟨none, 0, by rw [ev, h0]⟩
            · exact ⟨_, _, ev⟩
          have KF := (HC1.out W2 hb2).1
          have HB2 := Lib.hid hb2
          have HO := Lib.hid ho
          have HQ1 := Lib.hid q1
          clear KCh hb2 ho q1
          go_wp2_with fail
          refine KF.mono ?_
          rintro e W3 ⟨rfl, hb3⟩
          have HB3 : Hid (Below wr.heap.size wr W3) := Lib.hid (P.below_then HB2.out hb3 (Nat.le_refl _))
          have HL3 : Hid (W3.ownsRow wr.heap.size 3 1 (.slice la fn lc) fn (ints L)) := Lib.hid (row_agree HO.out fun k e => hb3.block k (HO.out.lt k e).2)
          clear KF hb3 HO HB2
          go_wp2_with fail
          go_loopw [19] (fun i wq => ∃ q : Nat, q ≤ fn ∧ i = .int .i64 q ∧ Hid (Below wr.heap.size wr wq ∧ wq.ownsRow wr.heap.size 3 1 (.slice la fn lc) fn (ints L))) (fun i _ => fn - (intOf i).toNat)
          case atStart => exact ⟨0, by omega, rfl, Lib.hid ⟨HB3.out, HL3.out⟩⟩
          case round =>
            obtain ⟨q, hq, rfl, hr3⟩ := hrel
            clear HB3 HL3
            rename World => wq
            by_cases hqf : q < fn
            · obtain ⟨gr, hfa, hfc, hcf⟩ := HF.out _ hr3.out.1 (by omega)
              subst hfa
              rcases hr3.out.2.2 with ⟨ev, h0⟩ | ⟨gl, cap', cur, ev, hgl, hcur, hcc, hmm, hx9⟩
              · omega
              simp only [Value.slice.injEq, true_and] at ev
              obtain ⟨rfl, rfl⟩ := ev
              have cl := hr3.out.2.cellAt q (by first | (have := HQ1.out; simp; omega) | (simp; exact hqf) | omega)
              have cle : (ints L)[q]? = some (.int .i64 (nth L q)) := by
                have hql : q < L.length := by have := HQ1.out; omega
                simp [ints, nth, List.getElem?_eq_getElem hql]
              rw [cle] at cl
              try simp only [Nat.zero_add] at cl
              obtain ⟨f1, hf1⟩ : ∃ f1, f1 = fn - 1 := ⟨_, rfl⟩
              obtain ⟨pp, hpp⟩ : ∃ pp, pp = fn - 1 - q := ⟨_, rfl⟩
              have cf := hcf pp (by omega)
              rw [nth_rev _ _ (by have := HQ1.out; omega), show L.length - 1 - pp = q by have := HQ1.out; omega] at cf
              have wa : IntKind.i64.wrap ((fn : Int) - 1) = f1 := by rw [IntWalk.i64_in _ (by omega)]; omega
              have wb : IntKind.i64.wrap ((f1 : Int) - q) = pp := by rw [IntWalk.i64_in _ (by omega)]; omega
              have wc' : IntKind.i64.wrap ((q : Int) + 1) = q + 1 := IntWalk.i64_in _ (by omega)
              have b1 : pp < fn := by omega
              have b2 : (pp : Int) < fn := by omega
              have b3 : (q : Int) < fn := by omega
              have HR4 := Lib.hid hr3.out
              clear hcf cle hf1 hpp hgl hcur hx9 hr3
              generalize nth L q = y at cl cf
              go_wp2_with fail
              go_quiet (fail)
              all_goals
                go_wp2_with fail
                refine ⟨⟨q + 1, by omega, by go_num, Lib.hid ⟨⟨HR4.out.1.os, HR4.out.1.tape, HR4.out.1.output, HR4.out.1.size, HR4.out.1.block⟩, HR4.out.2⟩⟩, by simp [intOf]; omega⟩
            · have hqf2 : q = fn := by omega
              have HB := Lib.hid hr3.out.1
              clear hr3 HF HQ1
              go_wp2_with fail
              have hB0 : Below wr.heap.size wr wq.drew := HB.out.drew
              have hP0 := HP.out _ hB0
              go_region_held3 (fun V => V.cell? ⟨Cb, 0, none⟩ = some (.int .i64 c.al) ∧ V.cell? ⟨Cb, 1, none⟩ = some (.int .i64 c.th) ∧ V.cell? ⟨Cb, 2, none⟩ = some (.int .i64 c.nd) ∧ V.cell? ⟨Cb, 3, none⟩ = some (.int .i64 c.lv) ∧ V.cell? ⟨Cb, 4, none⟩ = some (.int .i64 c.ba) ∧ V.cell? ⟨Cb, 5, none⟩ = some (.int .i64 c.pr) ∧ V.cell? ⟨Cb, 6, none⟩ = some (.int .i64 c.sc))
                (first | exact HP.out _ hB2 | exact HP.out _ hB1 | exact HP.out _ hB0)
                (first | (go_at_call 16; (first | refine (HC1.out _ hB1).2.1.mono ?_ | refine (HC1.out _ hB0).2.1.mono ?_); rintro e v1 ⟨rfl, rfl⟩) | (go_at_call 17; (first | refine (HC1.out _ hB1).2.2.mono ?_ | refine (HC1.out _ hB0).2.2.mono ?_); rintro e v1 ⟨rfl, rfl⟩) | (go_at_call 9; refine (P.rsent_any c _).mono ?_; rintro e V1 ⟨rfl, hbS⟩; have hB1 := P.below_then hB0 hbS (Nat.le_refl _)) | (go_at_call 7; refine (lives_any _).mono ?_; rintro e V2 ⟨rfl, hbL⟩; have hB2 := P.below_then hB1 hbL (Nat.le_refl _)))
              all_goals
                have HB5 := Lib.hid (P.below_then HBW.out hB2 (Nat.le_refl _))
                clear hB2 hB1 hbL hbS hB0
                go_wp2
                go_ret
                exact ⟨rfl, HB5.out⟩
theorem alone_any (c : P.Cf) (a1 : Option Addr) (n cap : Nat) (xs : List Int) (w : World) (R : F.Row .i64 w a1 n cap xs) :
    Calls Try.prog 3 #[c.v, .slice a1 n cap] w fun e w' => e = .returned (.bool true) ∧ Below w.heap.size w w' := by
  by_cases hc : c.Ok
  · by_cases hn : n ≤ 200
    · exact alone_main c a1 n cap xs w hc R hn
    · have KR := P.right_ok c
      have hr := R.room
      unfold maxLen at hr
      clear R
      go_enter Try.func3, Try.ntmps3
      go_wp2_with fail
      refine (KR _ hc).mono ?_
      rintro e V ⟨rfl, hb⟩
      obtain ⟨hB, h0⟩ := P.boxed c hb
      clear hb KR hB hc
      go_wp2_with fail
      refine (lives_any _).mono ?_
      rintro e v2 ⟨rfl, hb⟩
      have HB2 := Lib.hid (P.below_then h0 hb (Nat.le_refl _))
      clear hb h0
      go_wp2
      go_ret
      exact ⟨rfl, HB2.out⟩
  · have KR := P.right_bad c
    clear R
    go_enter Try.func3, Try.ntmps3
    go_wp2_with fail
    refine (KR _ hc).mono ?_
    rintro e V ⟨rfl, hb⟩
    obtain ⟨hB, h0⟩ := P.boxed c hb
    clear hb KR hB hc
    go_wp2_with fail
    refine (lives_any _).mono ?_
    rintro e v2 ⟨rfl, hb⟩
    have HB2 := Lib.hid (P.below_then h0 hb (Nat.le_refl _))
    clear hb h0
    go_wp2
    go_ret
    exact ⟨rfl, HB2.out⟩
end Go.Proofs.Ytnedifcjenlcjaa
