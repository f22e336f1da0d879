/- ArenaCrowd's walk. -/
import Derived.Test.YtnedifcjenlcjaaCEnd
import Derived.Deep.CutBlock
import Derived.Deep.RegionLaw
import Derived.BigRegion
namespace Go.Proofs.Ytnedifcjenlcjaa
open Go.ChangeShapes Go.WideShapes Go.ChangeAt Go.RowKit
set_option linter.unusedVariables false
set_option maxRecDepth 20000

theorem made_hvc (c : P.Cf) (h : c.Ok) (w : World) : (Instr.makeSlice 42 (.int .i64 c.th) (.int .i64 c.th)).run Try.prog w = .ok (.slice (some ⟨w.heap.size, 0, none⟩) c.th.toNat c.th.toNat) (w.alloc (.cells (madeCells (Value.slice none 0 0).cells c.th.toNat) 24)) := by
  have := h.th
  have e : ((c.th.toNat : Nat) : Int) = c.th := by omega
  have := made_hv c.th.toNat w (by omega)
  rw [e] at this
  exact this
theorem pk_next {n k i N : Nat} (hi : i < N) : pk n k i (N - i) = (if i % n = k then 1 else 0) + pk n k (i + 1) (N - (i + 1)) := by
  rw [show N - i = (N - (i + 1)) + 1 by omega]
  rfl
/-- Amid the first loop. -/
def CR (c : P.Cf) (w : World) (Cb B Fb T g t H len N i : Nat) (W : World) : Prop :=
  ∃ (L : List Int) (s : Nat) (st : Int) (ws : List Int) (ph : Nat → Ph) (hv : Nat → List Int), CS c w Cb B Fb T g t H L s st ws ph ph hv hv W ∧ s ≤ i ∧ 0 ≤ st ∧ st ≤ 100 + i ∧ (len ≤ i → ∀ k, k < c.th.toNat → need c.th.toNat ws ph k ≤ pk c.th.toNat k i (N - i))
theorem CR.next {c : P.Cf} {len N i kk : Nat} {ws ws' : List Int} {ph ph' : Nat → Ph} (hn : c.th.toNat ≤ 6 ∧ 0 < c.th.toNat) (hN : N = len + 200 * c.th.toNat) (hi : i < N) (hkk : len ≤ i → kk = i % c.th.toNat) (h : len ≤ i → ∀ k, k < c.th.toNat → need c.th.toNat ws ph k ≤ pk c.th.toNat k i (N - i))
    (h1 : len ≤ i → (need c.th.toNat ws' ph' kk + 1 ≤ need c.th.toNat ws ph kk ∨ need c.th.toNat ws' ph' kk = 0) ∧ ∀ j, j < c.th.toNat → j ≠ kk → need c.th.toNat ws' ph' j ≤ need c.th.toNat ws ph j) :
    len ≤ i + 1 → ∀ k, k < c.th.toNat → need c.th.toNat ws' ph' k ≤ pk c.th.toNat k (i + 1) (N - (i + 1)) := by
  intro hl k hk
  by_cases hli : len ≤ i
  · obtain ⟨h2, h3⟩ := h1 hli
    have h4 := h hli k hk
    rw [pk_next hi] at h4
    by_cases e : k = kk
    · subst e
      rw [← hkk hli, if_pos rfl] at h4
      omega
    · rw [if_neg (by rw [← hkk hli]; exact fun q => e q.symm)] at h4
      have := h3 k hk e
      omega
  · have e : i + 1 = len := by omega
    rw [e, hN, show len + 200 * c.th.toNat - len = 200 * c.th.toNat by omega]
    have := pk_many hk len 200
    have := need_le (n := c.th.toNat) (ws := ws') (ph := ph') hn.1 k
    omega

set_option maxHeartbeats 20000000 in
theorem crowd_main (c : P.Cf) (a1 : Option Addr) (n1 cap1 : Nat) (xs : List Int) (a2 : Option Addr) (n2 cap2 : Nat) (ys : List Int) (w : World) (hc : c.Ok) (R1 : F.Row .i64 w a1 n1 cap1 xs) (R2 : F.Row .i64 w a2 n2 cap2 ys) (hn : n2 ≤ 3000) :
    Calls Try.prog 4 #[c.v, .slice a1 n1 cap1, .slice a2 n2 cap2] w fun e w' => e = .returned (.bool true) ∧ Below w.heap.size w w' := by
  obtain ⟨i0, hi, hz0, hz1, hz2⟩ := info_parts info3'
  have KR := fun W => P.right_ok c W hc
  have KN : ∀ W, Calls Try.prog 8 #[c.v, .slice none 0 0, .bool true] W fun e W' => ∃ B Fb T g t, e = .returned (.tuple #[at0 B, .int .i64 0]) ∧ ALw c W B Fb T g t .idle (list0 c) [] 0 (firstMS c).st W' := fun W => born_alw hc
  have KM := made_hvc c hc
  have KS := fun W => P.rsent_any c W
  have HC := Lib.hid hc
  have HR1 := Lib.hid R1
  have HR2 := Lib.hid R2
  have hn1 := R1.room
  unfold maxLen at hn1
  have ht := hc.th
  have hnd := hc.nd
  have hsn := P.sent_in c.al
  have hn0 := hc.n0
  clear hc R1 R2
  go_enter Try.func4, Try.ntmps4
  go_wp2_with fail
  refine (KR _).mono ?_
  rintro e V ⟨rfl, hb⟩
  obtain ⟨hB, h0⟩ := P.boxed c hb
  clear hb KR
  obtain ⟨p0, p1, p2, p3, p4, p5, p6⟩ := hB.conf
  generalize hCb : w.heap.size = Cb at *
  go_wp2_with fail
  refine (KN _).mono ?_
  rintro e V1 ⟨B, Fb, T, g, t, rfl, X, ⟨ws, Gs, ts, m, inv, hfr⟩, hX, hbl⟩
  have hS : CS c w Cb B Fb T g t V1.heap.size (list0 c) 0 (firstMS c).st ws idl idl (fun _ => []) (fun _ => []) (V1.alloc (.cells (madeCells (Value.slice none 0 0).cells c.th.toNat) 24)) := by
    subst hCb
    have hbw := P.below_then h0 hbl (Nat.le_refl _)
    rw [idl_id] at inv
    have e : own0 [] = fun _ => [] := by funext j; simp only [own0, updL]; split <;> rfl
    rw [e] at inv
    exact ⟨(hB.below hbl hB.lt).alloc _, hbw.alloc hbw.size _, ⟨X, Gs, ts, m.alloc _, inv, fun i _ => hfr i, fun k hk => Nat.le_trans h0.size (hX k hk), HvAt.made _ _ _ _⟩, hbw.size⟩
  have p1' : V1.cell? ⟨Cb, 1, none⟩ = some (.int .i64 c.th) := (P.Blk.below hB hbl hB.lt).conf.2.1
  have HCb := Lib.hid hCb
  generalize hHH : V1.heap.size = H at *
  have hst := (first_mk HC.out).2
  obtain ⟨N, hN⟩ : ∃ N, N = n2 + 200 * c.th.toNat := ⟨_, rfl⟩
  have HA : Hid (CR c w Cb B Fb T g t H n2 N 0 (V1.alloc (.cells (madeCells (Value.slice none 0 0).cells c.th.toNat) 24))) := Lib.hid ⟨_, _, _, _, _, _, hS, Nat.le_refl _, hst.1, by omega, fun _ k hk => by simp [need, Ph.on]⟩
  have HHH := Lib.hid hHH
  have HN := Lib.hid hN
  have wA : IntKind.i64.wrap (200 * c.th) = 200 * c.th := IntWalk.i64_in _ (by omega)
  have wB : IntKind.i64.wrap ((n2 : Int) + 200 * c.th) = (N : Int) := by rw [IntWalk.i64_in _ (by omega)]; omega
  have hN4 : N ≤ 4200 := by omega
  clear m inv hfr hX hbl hB h0 KN hCb hS p0 p1 p2 p3 p4 p5 p6 hst hN
  go_wp2_with fail
  go_loopw [10, 11] (fun nx iv wr => ∃ (q i : Nat), q ≤ n1 ∧ i ≤ N ∧ nx = .int .i64 q ∧ iv = .int .i64 i ∧ Hid (CR c w Cb B Fb T g t H n2 N i wr)) (fun _ iv _ => 5000 - (intOf iv).toNat)
  case atStart => exact ⟨0, 0, by omega, by omega, rfl, rfl, HA⟩
  case round =>
    obtain ⟨q, i, hq, hiN, rfl, rfl, hrel⟩ := hrel
    clear HA p1'
    obtain ⟨L, s, st, ws, ph, hv, hS, q1, q2, q3, q4⟩ := hrel.out
    clear hrel
    have HS := Lib.hid hS
    have HQ := Lib.hid (And.intro q1 (And.intro q2 q3))
    have HNE := Lib.hid q4
    obtain ⟨-, p1, p2, -⟩ := hS.cb.conf
    clear hS q1 q2 q3 q4
    by_cases hlt : i < N
    · obtain ⟨kk0, hkk0⟩ : ∃ kk0, kk0 = i % c.th.toNat := ⟨_, rfl⟩
      have hmod : (i : Int).tmod c.th = (kk0 : Int) := by
        rw [Int.tmod_eq_emod_of_nonneg (by omega), hkk0]
        have : c.th = ((c.th.toNat : Nat) : Int) := by omega
        rw [this]; simp
      have HK0 := Lib.hid hkk0
      clear hkk0
      have hth0 : ¬ c.th = 0 := by omega
      go_upto_if 59 with fail
      go_cut [12] from 60 to 72 (fun s12 wx => ∃ kk : Nat, s12 = .int .i64 kk ∧ Hid (kk < c.th.toNat ∧ (n2 ≤ i → kk = i % c.th.toNat)) ∧ Hid (CS c w Cb B Fb T g t H L s st ws ph ph hv hv wx))
      case first =>
        repeat (rename (∀ (a : Act) (w_1 : World), Code.wp Try.prog _ _ a w_1 → _) => hK1; clear hK1)
        by_cases hpi : i < n2
        · obtain ⟨b2, o2, rfl, hx⟩ := (Row.later HR2.out HS.out.bel).cell i hpi
          have hx' : wr.cell? ⟨b2, o2 + i, none⟩ = some (.int .i64 (ys.getD i 0)) := hx
          have hxw := (Row.later HR2.out HS.out.bel).wf
          clear hx
          obtain ⟨x, hxe⟩ : ∃ x, ys.getD i 0 = x := ⟨_, rfl⟩
          rw [hxe] at hx'
          have hxb : -9223372036854775808 ≤ x ∧ x ≤ 9223372036854775807 := bd_i64 (hxw x (by
            rw [← hxe, List.getD_eq_getElem?_getD, List.getElem?_eq_getElem (by rw [HR2.out.len]; exact hpi)]
            exact List.getElem_mem _))
          obtain ⟨r, hr⟩ : ∃ r, x.tmod c.th = r := ⟨_, rfl⟩
          have hrb : -c.th < r ∧ r < c.th := by
            have h1 := Int.tmod_lt_of_pos x (show 0 < c.th by omega)
            have h2 := Int.tmod_lt_of_pos (-x) (show 0 < c.th by omega)
            rw [Int.neg_tmod] at h2
            omega
          have wr1 : IntKind.i64.wrap (r + c.th) = r + c.th := IntWalk.i64_in _ (by omega)
          obtain ⟨kk, hkk, hkl⟩ : ∃ kk : Nat, (r + c.th).tmod c.th = kk ∧ kk < c.th.toNat := by
            have h0 := Int.tmod_eq_emod_of_nonneg (b := c.th) (show 0 ≤ r + c.th by omega)
            have h1 := Int.emod_nonneg (r + c.th) hth0
            have h2 := Int.emod_lt_of_pos (r + c.th) (show 0 < c.th by omega)
            exact ⟨((r + c.th).tmod c.th).toNat, by omega, by omega⟩
          clear hxe hxw
          go_wp2_with fail
          go_quiet (fail)
          all_goals
            go_wp2_with fail
            go_meet
            exact ⟨kk, rfl, Lib.hid ⟨hkl, fun h => by omega⟩, Lib.hid (HS.out.below ⟨rfl, rfl, rfl, Nat.le_refl _, fun _ _ => rfl⟩)⟩
        · go_wp2_with fail
          go_meet
          exact ⟨kk0, rfl, Lib.hid ⟨by rw [HK0.out]; exact Nat.mod_lt _ (by omega), fun _ => HK0.out⟩, HS⟩
      case rest =>
        obtain ⟨kk, rfl, HK, HS1⟩ := hcut
        clear HS p1 p2 hmod
        have hkm : (kk : Int) < max c.th 0 := by have := HK.out.1; omega
        have KT := HS1.out.thread HC.out HK.out.1
        go_wp2_with fail
        refine KT.mono ?_
        rintro e v1 ⟨rfl, rfl⟩
        clear KT
        by_cases hon : (ph kk).on = true
        · have HON := Lib.hid hon
          clear hon
          obtain ⟨gg0, cfn0, KTop0⟩ := HS1.out.topSome HK.out.1 HON.out
          go_wp2_with fail
          refine KTop0.mono ?_
          rintro e v1 ⟨rfl, rfl⟩
          have HS2 := Lib.hid (HS1.out.below ((Below.refl _ _).drew))
          clear KTop0 HS1 cfn0
          obtain ⟨gg, cfn, KTop⟩ := HS2.out.topSome HK.out.1 HON.out
          have KSt := (HS2.out.below ((Below.refl _ _).drew)).step HC.out (by have := HQ.out; omega) ⟨HQ.out.2.1, by have := HQ.out; omega⟩ HK.out.1 HON.out
          obtain ⟨fnv, hfnv⟩ : ∃ fnv, (ph kk).fn = fnv := ⟨_, rfl⟩
          rw [hfnv] at cfn
          go_wp2_with fail
          refine KTop.mono ?_
          rintro e v1 ⟨rfl, rfl⟩
          clear KTop
          go_wp2_with fail
          refine KSt.mono ?_
          rintro e W5 ⟨L', s', ws', p, ret, got, rfl, h1, hS5, h3, h4, h5, h6, h7⟩
          rw [hfnv] at h4 h5
          have HND : Hid (n2 ≤ i → (need c.th.toNat ws' (updP (ph) kk p) kk + 1 ≤ need c.th.toNat ws ph kk ∨ need c.th.toNat ws' (updP (ph) kk p) kk = 0) ∧ ∀ j, j < c.th.toNat → j ≠ kk → need c.th.toNat ws' (updP (ph) kk p) j ≤ need c.th.toNat ws ph j) := Lib.hid (fun _ => ⟨.inl h6, h7⟩)
          have HS5 := Lib.hid hS5
          have HLE := Lib.hid h1
          have H4 := Lib.hid h4
          have h5 := Lib.hid h5
          clear KSt h1 hS5 h4 h6 h7 hfnv cfn
          obtain ⟨b, hb⟩ : ∃ b, p.on = b := ⟨_, rfl⟩
          rw [hb] at h3 H4 h5
          rw [hb]
          clear hb
          cases b with
          | true =>
            clear h3 H4
            have hgot : got = [] := h5.out (.inl rfl)
            have hS6 := HS5.out
            rw [hgot, List.append_nil, updL_id] at hS6
            have HS6 := Lib.hid hS6
            clear hS6 hgot
            have KF := HS6.out.fault
            go_wp2_with fail
            refine KF.mono ?_
            rintro e W6 ⟨rfl, hb6⟩
            have HS7 := Lib.hid (HS6.out.below hb6)
            clear KF hb6
            go_wp2
            go_roundw
            case rel => exact ⟨q, i + 1, by omega, by omega, rfl, by go_num, Lib.hid ⟨L', s', st + 1, ws', _, hv, HS7.out, by have := HQ.out; have := HLE.out; omega, by have := HQ.out; omega, by have := HQ.out; omega, CR.next ⟨by omega, by omega⟩ HN.out hlt HK.out.2 HNE.out HND.out⟩⟩
            case measure => simp [intOf]; omega
          | false =>
            obtain ⟨cret, rb⟩ := h3 rfl
            by_cases hfn : fnv = 1
            · have hf1 : (fnv == 1) = true := by simpa using hfn
              by_cases hr0 : ret = 0
              · have hr1 : (ret != 0) = false := by simp [hr0]
                clear H4
                have hgot : got = [] := h5.out (.inr (.inr hr0))
                have hS6 := HS5.out
                rw [hgot, List.append_nil, updL_id] at hS6
                have HS6 := Lib.hid hS6
                clear hS6 hgot
                have KF := HS6.out.fault
                go_wp2_with fail
                refine KF.mono ?_
                rintro e W6 ⟨rfl, hb6⟩
                have HS7 := Lib.hid (HS6.out.below hb6)
                clear KF hb6
                go_wp2
                go_roundw
                case rel => exact ⟨q, i + 1, by omega, by omega, rfl, by go_num, Lib.hid ⟨L', s', st + 1, ws', _, hv, HS7.out, by have := HQ.out; have := HLE.out; omega, by have := HQ.out; omega, by have := HQ.out; omega, CR.next ⟨by omega, by omega⟩ HN.out hlt HK.out.2 HNE.out HND.out⟩⟩
                case measure => simp [intOf]; omega
              · have hr1 : (ret != 0) = true := by simp [hr0]
                have hgot : got = [ret] := H4.out rfl hfn hr0
                have hS6 := HS5.out
                rw [hgot] at hS6
                have HS6 := Lib.hid hS6
                clear H4 h5 hgot hS6 hfn h3
                go_upto_region 29 with fail
                go_cut [14] from 156 to 170 (fun s14 wx => Hid (CS c w Cb B Fb T g t H L' s' (st + 1) ws' (updP (ph) kk p) (updP (ph) kk p) (updL (hv) kk ((hv) kk ++ [ret])) (updL (hv) kk ((hv) kk ++ [ret])) wx))
                case first =>
                  repeat (rename (∀ (a : Act) (w_1 : World), Code.wp Try.prog _ _ a w_1 → _) => hK1; clear hK1)
                  obtain ⟨a, cap, c1, c2, c3, fz⟩ := HS6.out.read HK.out.1
                  obtain ⟨rw1, -⟩ := HS6.out.rowOf HK.out.1 c1
                  have hHl : H < W5.heap.size := World.block_lt_of_cell? W5 _ c1
                  have hsh := HS6.out.short HC.out HK.out.1
                  rw [updL_same, List.length_append] at hsh
                  have hlen : (hv kk).length ≤ 64 := by omega
                  have hrw : IntKind.i64.wrap ret = ret := IntWalk.i64_in _ (by omega)
                  obtain ⟨csH, hHb⟩ : ∃ cs, Blk W5 H 24 cs := by
                    obtain ⟨X, Gs, ts, m9, i9, hi9, hX9, cs9, vs9, hb9, _⟩ := HS6.out.ex
                    exact ⟨cs9, hb9⟩
                  have hcs : csH[kk]? = some (.slice a (hv kk).length cap) := (hHb.cell kk).symm.trans c1
                  have hnH : some H ≠ (Value.slice a (hv kk).length cap).ownBlock := fun e => by
                    obtain ⟨cur, hc9⟩ := rrow_blk rw1 e.symm
                    exact Blk.ne hc9 hHb (by decide) rfl
                  have HFIN : Hid (∀ (V V' : World) a' cap', Below W5.heap.size W5 V → V.grownBy V' (Value.slice a (hv kk).length cap).ownBlock → R.Row V' 3 (.slice a' ((hv kk).length + 1) cap') ((hv kk).length + 1) (ints (hv kk) ++ [.int .i64 ret]) → ((Value.slice a' ((hv kk).length + 1) cap').ownBlock = (Value.slice a (hv kk).length cap).ownBlock ∨ ∀ q, (Value.slice a' ((hv kk).length + 1) cap').ownBlock = some q → V.heap.size ≤ q) → CS c w Cb B Fb T g t H L' s' (st + 1) ws' (updP (ph) kk p) (updP (ph) kk p) (updL (hv) kk ((hv) kk ++ [ret])) (updL (hv) kk ((hv) kk ++ [ret])) (V'.setCell ⟨H, kk, none⟩ (.slice a' ((hv kk).length + 1) cap'))) := Lib.hid fun V V' a' cap' h1 h2 h3 h4 => HS6.out.pushed HK.out.1 c1 h1 h2 h3 h4
                  have HKK := Lib.hid HK.out.1
                  have hkt : kk < c.th.toNat := HK.out.1
                  clear hsh c2 c3
                  generalize (hv kk).length = m at *
                  generalize ints (hv kk) = vs at *
                  go_region_law (refine step_append_row (by rfl) _ _ _ (by rfl) 3 i0 _ 8 Try.underlying24 hi hz0 hz1 hz2 rfl (by decide) (.slice a m cap) m vs (by rfl) ((rw1.drew).alloc _) ⟨W5.heap.size, 0, none⟩ 1 (.int .i64 ret) (by rfl) (by simp) (by rfl) (by omega) ?_; intro a' cap' w3 hrow3 hgr3 hown3; have hb3 : Blk w3 H 24 csH := Blk.agree (W := (W5.alloc (.cells #[.int .i64 ret] 3)).drew) (hHb.alloc _) (hgr3.block H (by simp [World.drew]; omega) hnH); have c4 := (hb3.cell kk).trans hcs; have f4 := hb3.frozen kk)
                  all_goals
                    go_wp2_with fail
                    go_meet
                    exact Lib.hid (HFIN.out _ _ _ _ ((Below.refl _ _).alloc (Nat.le_refl _) _).drew hgr3 hrow3 hown3)
                case rest =>
                  have HS8 := hcut
                  clear hcut cret
                  have KF := HS8.out.fault
                  go_wp2_with fail
                  refine KF.mono ?_
                  rintro e W6 ⟨rfl, hb6⟩
                  have HS7 := Lib.hid (HS8.out.below hb6)
                  clear KF hb6
                  go_wp2
                  go_roundw
                  case rel => exact ⟨q, i + 1, by omega, by omega, rfl, by go_num, Lib.hid ⟨L', s', st + 1, ws', _, _, HS7.out, by have := HQ.out; have := HLE.out; omega, by have := HQ.out; omega, by have := HQ.out; omega, CR.next ⟨by omega, by omega⟩ HN.out hlt HK.out.2 HNE.out HND.out⟩⟩
                  case measure => simp [intOf]; omega
            · have hf1 : (fnv == 1) = false := by simpa using hfn
              clear H4
              have hgot : got = [] := h5.out (.inr (.inl hfn))
              have hS6 := HS5.out
              rw [hgot, List.append_nil, updL_id] at hS6
              have HS6 := Lib.hid hS6
              clear hS6 hgot
              have KF := HS6.out.fault
              go_wp2_with fail
              refine KF.mono ?_
              rintro e W6 ⟨rfl, hb6⟩
              have HS7 := Lib.hid (HS6.out.below hb6)
              clear KF hb6
              go_wp2
              go_roundw
              case rel => exact ⟨q, i + 1, by omega, by omega, rfl, by go_num, Lib.hid ⟨L', s', st + 1, ws', _, hv, HS7.out, by have := HQ.out; have := HLE.out; omega, by have := HQ.out; omega, by have := HQ.out; omega, CR.next ⟨by omega, by omega⟩ HN.out hlt HK.out.2 HNE.out HND.out⟩⟩
              case measure => simp [intOf]; omega

        · have hid : ph kk = .idle := by
            generalize ph kk = z at hon
            cases z <;> first | rfl | exact absurd rfl hon
          have KTop0 := HS1.out.topNone HK.out.1 hid
          have HID := Lib.hid hid
          clear hon hid
          by_cases hst : i < n2 ∧ q < n1
          · obtain ⟨hpi, hqn⟩ := hst
            obtain ⟨b2, o2, rfl, hx⟩ := (Row.later HR1.out HS1.out.bel).cell q hqn
            have hx' : wc.cell? ⟨b2, o2 + q, none⟩ = some (.int .i64 (xs.getD q 0)) := hx
            clear hx
            generalize xs.getD q 0 = x at hx'
            obtain ⟨a, cap, c1, c2, c3, fz⟩ := HS1.out.read HK.out.1
            obtain ⟨m, hm⟩ : ∃ m, (hv kk).length = m := ⟨_, rfl⟩
            rw [hm] at c1 c2
            have hm64 : m ≤ 64 := by have := HS1.out.short HC.out HK.out.1; omega
            have HM := Lib.hid hm
            clear hm c3
            go_wp2_with fail
            refine KTop0.mono ?_
            rintro e v1 ⟨rfl, rfl⟩
            clear KTop0
            go_upto_if 92 with fail
            go_cut [10, 14] from 93 to 131 (fun s10 s14 wx => s10 = .int .i64 ((q : Int) + 1) ∧ ∃ (p : Ph) (hv' : Nat → List Int), Hid (p.on = true ∧ CS c w Cb B Fb T g t H L s st ws (updP ph kk p) (updP ph kk p) hv' hv' wx))
            case first =>
              repeat (rename (∀ (a : Act) (w_1 : World), Code.wp Try.prog _ _ a w_1 → _) => hK1; clear hK1)
              by_cases hrel : 0 ≤ x ∧ 0 < m
              · obtain ⟨hx0, hm0⟩ := hrel
                obtain ⟨y, l, hyl⟩ : ∃ y l, hv kk = y :: l := by
                  cases h : hv kk with
                  | nil => have := HM.out; rw [h] at this; simp at this; omega
                  | cons y l => exact ⟨y, l, rfl⟩
                obtain ⟨gr, off, cap', d1, d2, d3, d4, d5⟩ := HS1.out.at_ HK.out.1 (by rw [hyl]; simp)
                rw [HM.out, c1] at d1
                cases d1
                have cy := d5 0 (by rw [hyl]; simp)
                rw [hyl] at cy
                have cy' : wc.cell? ⟨gr, off, none⟩ = some (.int .i64 y) := cy
                have hml : m = l.length + 1 := by have := HM.out; rw [hyl] at this; simp at this; omega
                subst hml
                have hsx := HS1.out.shifted HK.out.1 hyl c1
                have b1 : 1 ≤ l.length + 1 := by omega
                have b2 : 1 ≤ cap := by omega
                have b3 : l.length + 1 ≤ cap := by omega
                have hyw : IntKind.u64.wrap y = y := IntWalk.u64_in _ (by
                  have := HS1.out.ex
                  obtain ⟨X, Gs, ts, m9, i9, hi9, hX9, hh9⟩ := this
                  have := i9.hvBd HK.out.1 (x := y) (by rw [hyl]; simp)
                  omega)
                have hyb : 0 ≤ y ∧ y ≤ 64 := by
                  obtain ⟨X, Gs, ts, m9, i9, hi9, hX9, hh9⟩ := HS1.out.ex
                  have := i9.hvBd HK.out.1 (x := y) (by rw [hyl]; simp)
                  omega
                have HYL := Lib.hid hyl
                have hgt : ((l.length : Int) + 1 > 0) := by omega
                clear d5 cy hyl
                by_cases hcap : cap = 1
                · have hl0 : l.length = 0 := by omega
                  have HS2 := Lib.hid (hsx.2 hl0)
                  subst hcap
                  clear hsx
                  go_wp2_with fail
                  have K6 := HS2.out.gone HC.out HK.out.1 HID.out HYL.out
                  refine K6.mono ?_
                  rintro e W6 ⟨rfl, hS6⟩
                  have KP := hS6.push (ph' := updP ph kk (.b0 y)) (p := .b0 y) (fn := 2) HC.out HK.out.1 HID.out (W6.alloc (.cells #[.int .u64 y] 48)) ((Below.refl _ _).alloc (Nat.le_refl _) _) (row1 W6 y (by omega) (by omega)) (by omega) ⟨_, rfl, rfl, rfl, rfl⟩ (fun _ h => h)
                  clear K6 hS6
                  go_wp2_with fail
                  refine KP.mono ?_
                  rintro e W7 ⟨rfl, hS7⟩
                  have HS7 := Lib.hid hS7
                  clear KP hS7
                  go_wp2_with fail
                  go_meet
                  exact ⟨rfl, .b0 y, updL hv kk l, Lib.hid ⟨rfl, HS7.out⟩⟩
                · have HS2 := Lib.hid (hsx.1 hcap)
                  clear hsx
                  go_wp2_with fail
                  have K6 := HS2.out.gone HC.out HK.out.1 HID.out HYL.out
                  refine K6.mono ?_
                  rintro e W6 ⟨rfl, hS6⟩
                  have KP := hS6.push (ph' := updP ph kk (.b0 y)) (p := .b0 y) (fn := 2) HC.out HK.out.1 HID.out (W6.alloc (.cells #[.int .u64 y] 48)) ((Below.refl _ _).alloc (Nat.le_refl _) _) (row1 W6 y (by omega) (by omega)) (by omega) ⟨_, rfl, rfl, rfl, rfl⟩ (fun _ h => h)
                  clear K6 hS6
                  go_wp2_with fail
                  refine KP.mono ?_
                  rintro e W7 ⟨rfl, hS7⟩
                  have HS7 := Lib.hid hS7
                  clear KP hS7
                  go_wp2_with fail
                  go_meet
                  exact ⟨rfl, .b0 y, updL hv kk l, Lib.hid ⟨rfl, HS7.out⟩⟩
              · have KP := HS1.out.push (ph' := updP ph kk .a0) (p := .a0) (fn := 1) HC.out HK.out.1 HID.out wc (Below.refl _ _) (row0 wc) (by omega) ⟨_, rfl, rfl, rfl, by decide⟩ (fun Gs i => i.phase HK.out.1 .a0 (by rw [HID.out]; rfl) trivial)
                have hm1 : (m : Int) > 0 ↔ 0 < m := by omega
                by_cases hx0 : 0 ≤ x
                all_goals
                  try have hm0 : ¬ ((m : Int) > 0) := by omega
                  clear hrel hm1
                  go_wp2_with fail
                  refine KP.mono ?_
                  rintro e W7 ⟨rfl, hS7⟩
                  have HS7 := Lib.hid hS7
                  clear KP hS7
                  go_wp2_with fail
                  go_meet
                  exact ⟨rfl, .a0, hv, Lib.hid ⟨rfl, HS7.out⟩⟩
            case rest =>
              obtain ⟨rfl, p0, hv', HX⟩ := hcut
              have HON : Hid ((updP ph kk p0 kk).on = true) := Lib.hid (by rw [updP_same]; exact HX.out.1)
              have HS2 := Lib.hid HX.out.2
              clear HX HS1 c1 c2 fz hx'
              obtain ⟨gg, cfn, KTop⟩ := HS2.out.topSome HK.out.1 HON.out
              have KSt := (HS2.out.below ((Below.refl _ _).drew)).step HC.out (by have := HQ.out; omega) ⟨HQ.out.2.1, by have := HQ.out; omega⟩ HK.out.1 HON.out
              obtain ⟨fnv, hfnv⟩ : ∃ fnv, (updP ph kk p0 kk).fn = fnv := ⟨_, rfl⟩
              rw [hfnv] at cfn
              go_wp2_with fail
              refine KTop.mono ?_
              rintro e v1 ⟨rfl, rfl⟩
              clear KTop
              go_wp2_with fail
              refine KSt.mono ?_
              rintro e W5 ⟨L', s', ws', p, ret, got, rfl, h1, hS5, h3, h4, h5, h6, h7⟩
              rw [hfnv] at h4 h5
              have HND : Hid (n2 ≤ i → (need c.th.toNat ws' (updP (updP ph kk p0) kk p) kk + 1 ≤ need c.th.toNat ws ph kk ∨ need c.th.toNat ws' (updP (updP ph kk p0) kk p) kk = 0) ∧ ∀ j, j < c.th.toNat → j ≠ kk → need c.th.toNat ws' (updP (updP ph kk p0) kk p) j ≤ need c.th.toNat ws ph j) := Lib.hid (fun h => absurd h (by omega))
              have HS5 := Lib.hid hS5
              have HLE := Lib.hid h1
              have H4 := Lib.hid h4
              have h5 := Lib.hid h5
              clear KSt h1 hS5 h4 h6 h7 hfnv cfn
              obtain ⟨b, hb⟩ : ∃ b, p.on = b := ⟨_, rfl⟩
              rw [hb] at h3 H4 h5
              rw [hb]
              clear hb
              cases b with
              | true =>
                clear h3 H4
                have hgot : got = [] := h5.out (.inl rfl)
                have hS6 := HS5.out
                rw [hgot, List.append_nil, updL_id] at hS6
                have HS6 := Lib.hid hS6
                clear hS6 hgot
                have KF := HS6.out.fault
                go_wp2_with fail
                refine KF.mono ?_
                rintro e W6 ⟨rfl, hb6⟩
                have HS7 := Lib.hid (HS6.out.below hb6)
                clear KF hb6
                go_wp2
                go_roundw
                case rel => exact ⟨q + 1, i + 1, by omega, by omega, rfl, by go_num, Lib.hid ⟨L', s', st + 1, ws', _, hv', HS7.out, by have := HQ.out; have := HLE.out; omega, by have := HQ.out; omega, by have := HQ.out; omega, CR.next ⟨by omega, by omega⟩ HN.out hlt HK.out.2 HNE.out HND.out⟩⟩
                case measure => simp [intOf]; omega
              | false =>
                obtain ⟨cret, rb⟩ := h3 rfl
                by_cases hfn : fnv = 1
                · have hf1 : (fnv == 1) = true := by simpa using hfn
                  by_cases hr0 : ret = 0
                  · have hr1 : (ret != 0) = false := by simp [hr0]
                    clear H4
                    have hgot : got = [] := h5.out (.inr (.inr hr0))
                    have hS6 := HS5.out
                    rw [hgot, List.append_nil, updL_id] at hS6
                    have HS6 := Lib.hid hS6
                    clear hS6 hgot
                    have KF := HS6.out.fault
                    go_wp2_with fail
                    refine KF.mono ?_
                    rintro e W6 ⟨rfl, hb6⟩
                    have HS7 := Lib.hid (HS6.out.below hb6)
                    clear KF hb6
                    go_wp2
                    go_roundw
                    case rel => exact ⟨q + 1, i + 1, by omega, by omega, rfl, by go_num, Lib.hid ⟨L', s', st + 1, ws', _, hv', HS7.out, by have := HQ.out; have := HLE.out; omega, by have := HQ.out; omega, by have := HQ.out; omega, CR.next ⟨by omega, by omega⟩ HN.out hlt HK.out.2 HNE.out HND.out⟩⟩
                    case measure => simp [intOf]; omega
                  · have hr1 : (ret != 0) = true := by simp [hr0]
                    have hgot : got = [ret] := H4.out rfl hfn hr0
                    have hS6 := HS5.out
                    rw [hgot] at hS6
                    have HS6 := Lib.hid hS6
                    clear H4 h5 hgot hS6 hfn h3
                    go_upto_region 29 with fail
                    go_cut [14] from 156 to 170 (fun s14 wx => Hid (CS c w Cb B Fb T g t H L' s' (st + 1) ws' (updP (updP ph kk p0) kk p) (updP (updP ph kk p0) kk p) (updL (hv') kk ((hv') kk ++ [ret])) (updL (hv') kk ((hv') kk ++ [ret])) wx))
                    case first =>
                      repeat (rename (∀ (a : Act) (w_1 : World), Code.wp Try.prog _ _ a w_1 → _) => hK1; clear hK1)
                      obtain ⟨a, cap, c1, c2, c3, fz⟩ := HS6.out.read HK.out.1
                      obtain ⟨rw1, -⟩ := HS6.out.rowOf HK.out.1 c1
                      have hHl : H < W5.heap.size := World.block_lt_of_cell? W5 _ c1
                      have hsh := HS6.out.short HC.out HK.out.1
                      rw [updL_same, List.length_append] at hsh
                      have hlen : (hv' kk).length ≤ 64 := by omega
                      have hrw : IntKind.i64.wrap ret = ret := IntWalk.i64_in _ (by omega)
                      obtain ⟨csH, hHb⟩ : ∃ cs, Blk W5 H 24 cs := by
                        obtain ⟨X, Gs, ts, m9, i9, hi9, hX9, cs9, vs9, hb9, _⟩ := HS6.out.ex
                        exact ⟨cs9, hb9⟩
                      have hcs : csH[kk]? = some (.slice a (hv' kk).length cap) := (hHb.cell kk).symm.trans c1
                      have hnH : some H ≠ (Value.slice a (hv' kk).length cap).ownBlock := fun e => by
                        obtain ⟨cur, hc9⟩ := rrow_blk rw1 e.symm
                        exact Blk.ne hc9 hHb (by decide) rfl
                      have HFIN : Hid (∀ (V V' : World) a' cap', Below W5.heap.size W5 V → V.grownBy V' (Value.slice a (hv' kk).length cap).ownBlock → R.Row V' 3 (.slice a' ((hv' kk).length + 1) cap') ((hv' kk).length + 1) (ints (hv' kk) ++ [.int .i64 ret]) → ((Value.slice a' ((hv' kk).length + 1) cap').ownBlock = (Value.slice a (hv' kk).length cap).ownBlock ∨ ∀ q, (Value.slice a' ((hv' kk).length + 1) cap').ownBlock = some q → V.heap.size ≤ q) → CS c w Cb B Fb T g t H L' s' (st + 1) ws' (updP (updP ph kk p0) kk p) (updP (updP ph kk p0) kk p) (updL (hv') kk ((hv') kk ++ [ret])) (updL (hv') kk ((hv') kk ++ [ret])) (V'.setCell ⟨H, kk, none⟩ (.slice a' ((hv' kk).length + 1) cap'))) := Lib.hid fun V V' a' cap' h1 h2 h3 h4 => HS6.out.pushed HK.out.1 c1 h1 h2 h3 h4
                      have HKK := Lib.hid HK.out.1
                      have hkt : kk < c.th.toNat := HK.out.1
                      clear hsh c2 c3
                      generalize (hv' kk).length = m at *
                      generalize ints (hv' kk) = vs at *
                      go_region_law (refine step_append_row (by rfl) _ _ _ (by rfl) 3 i0 _ 8 Try.underlying24 hi hz0 hz1 hz2 rfl (by decide) (.slice a m cap) m vs (by rfl) ((rw1.drew).alloc _) ⟨W5.heap.size, 0, none⟩ 1 (.int .i64 ret) (by rfl) (by simp) (by rfl) (by omega) ?_; intro a' cap' w3 hrow3 hgr3 hown3; have hb3 : Blk w3 H 24 csH := Blk.agree (W := (W5.alloc (.cells #[.int .i64 ret] 3)).drew) (hHb.alloc _) (hgr3.block H (by simp [World.drew]; omega) hnH); have c4 := (hb3.cell kk).trans hcs; have f4 := hb3.frozen kk)
                      all_goals
                        go_wp2_with fail
                        go_meet
                        exact Lib.hid (HFIN.out _ _ _ _ ((Below.refl _ _).alloc (Nat.le_refl _) _).drew hgr3 hrow3 hown3)
                    case rest =>
                      have HS8 := hcut
                      clear hcut cret
                      have KF := HS8.out.fault
                      go_wp2_with fail
                      refine KF.mono ?_
                      rintro e W6 ⟨rfl, hb6⟩
                      have HS7 := Lib.hid (HS8.out.below hb6)
                      clear KF hb6
                      go_wp2
                      go_roundw
                      case rel => exact ⟨q + 1, i + 1, by omega, by omega, rfl, by go_num, Lib.hid ⟨L', s', st + 1, ws', _, _, HS7.out, by have := HQ.out; have := HLE.out; omega, by have := HQ.out; omega, by have := HQ.out; omega, CR.next ⟨by omega, by omega⟩ HN.out hlt HK.out.2 HNE.out HND.out⟩⟩
                      case measure => simp [intOf]; omega
                · have hf1 : (fnv == 1) = false := by simpa using hfn
                  clear H4
                  have hgot : got = [] := h5.out (.inr (.inl hfn))
                  have hS6 := HS5.out
                  rw [hgot, List.append_nil, updL_id] at hS6
                  have HS6 := Lib.hid hS6
                  clear hS6 hgot
                  have KF := HS6.out.fault
                  go_wp2_with fail
                  refine KF.mono ?_
                  rintro e W6 ⟨rfl, hb6⟩
                  have HS7 := Lib.hid (HS6.out.below hb6)
                  clear KF hb6
                  go_wp2
                  go_roundw
                  case rel => exact ⟨q + 1, i + 1, by omega, by omega, rfl, by go_num, Lib.hid ⟨L', s', st + 1, ws', _, hv', HS7.out, by have := HQ.out; have := HLE.out; omega, by have := HQ.out; omega, by have := HQ.out; omega, CR.next ⟨by omega, by omega⟩ HN.out hlt HK.out.2 HNE.out HND.out⟩⟩
                  case measure => simp [intOf]; omega

          · have hst2 : ¬ i < n2 ∨ (i < n2 ∧ ¬ q < n1) := by omega
            have HND : Hid (n2 ≤ i → (need c.th.toNat ws ph kk + 1 ≤ need c.th.toNat ws ph kk ∨ need c.th.toNat ws ph kk = 0) ∧ ∀ j, j < c.th.toNat → j ≠ kk → need c.th.toNat ws ph j ≤ need c.th.toNat ws ph j) := Lib.hid fun _ => ⟨.inr (by simp [need, HID.out, Ph.on]), fun _ _ _ => Nat.le_refl _⟩
            clear hst
            rcases hst2 with h1 | ⟨h1, h2⟩
            all_goals
              go_wp2_with fail
              refine KTop0.mono ?_
              rintro e v1 ⟨rfl, rfl⟩
              go_wp2_with fail
              refine KTop0.mono ?_
              rintro e v1 ⟨rfl, rfl⟩
              clear KTop0
              go_wp2
              go_roundw
              case rel => exact ⟨q, i + 1, by omega, by omega, rfl, by go_num, Lib.hid ⟨L, s, st, ws, ph, hv, HS1.out, by have := HQ.out; omega, by have := HQ.out; omega, by have := HQ.out; omega, CR.next ⟨by omega, by omega⟩ HN.out hlt HK.out.2 HNE.out HND.out⟩⟩
              case measure => simp [intOf]; omega
    · have hiN2 : i = N := by omega
      have hidle : ∀ k, k < c.th.toNat → ph k = .idle := fun k hk => by
        have := HNE.out (by have := HN.out; omega) k hk
        rw [hiN2, Nat.sub_self] at this
        exact need_zero (n := c.th.toNat) (ws := ws) (by simpa [pk] using this)
      have HI := Lib.hid hidle
      clear hiN2
      obtain ⟨X9, Gs9, ts9, m9, inv9, hi9, hX9, hh9⟩ := HS.out.ex
      have HINV : Hid (∃ Gs, Inv c c.th.toNat L s ws Gs ph hv) := Lib.hid ⟨_, inv9⟩
      obtain ⟨sz, hsz⟩ : ∃ sz : Nat, (sz : Int) = c.nd + 1 := ⟨(c.nd + 1).toNat, by omega⟩
      have KO := fun W => made_ow sz W (by omega)
      rw [hsz] at KO
      have HSZ := Lib.hid hsz
      have wnd : IntKind.i64.wrap (c.nd + 1) = c.nd + 1 := IntWalk.i64_in _ (by omega)
      clear hidle m9 inv9 hi9 hX9 hh9 hsz X9 Gs9 ts9
      obtain ⟨W0, hW0⟩ : ∃ W0, W0 = wr := ⟨_, rfl⟩
      rw [← hW0] at HS
      go_wp2_with fail
      have HO : Hid (OW wr wr.heap.size sz (own hv 0 0) (wr.alloc (.cells (G.encI (List.replicate sz 0)) 3))) := Lib.hid (by
        have e : own hv 0 0 = fun _ => 0 := by funext x; exact own_zero hv x
        rw [e]
        exact OW.new wr sz)
      generalize hOO : wr.heap.size = O at *
      rw [← hW0] at HO hOO
      have HOO := Lib.hid hOO
      have HW0 := Lib.hid hW0
      clear hOO hW0 p1 p2 KO
      go_loopw [18] (fun v wq => ∃ k : Nat, (k : Int) ≤ c.th ∧ v = .int .i64 k ∧ Hid (OW W0 O sz (own hv k 0) wq)) (fun v _ => 100 - (intOf v).toNat)
      case atStart => exact ⟨0, by omega, rfl, by rw [← HW0.out]; exact HO⟩
      case round =>
        obtain ⟨k, hk, rfl, hr⟩ := hrel
        clear HO HW0
        have hSk := HS.out.below hr.out.bel
        obtain ⟨-, p1, p2, -⟩ := hSk.cb.conf
        have HO := Lib.hid hr.out
        clear hr
        by_cases hkt : (k : Int) < c.th
        · have hkn : k < c.th.toNat := by omega
          have hkm : (k : Int) < max c.th 0 := by omega
          have KT := hSk.thread HC.out hkn
          have KN := hSk.topNone hkn (HI.out k hkn)
          obtain ⟨m, hm⟩ : ∃ m, (hv k).length = m := ⟨_, rfl⟩
          have hm64 : m ≤ 64 := by have := hSk.short HC.out hkn; omega
          have HM := Lib.hid hm
          have HKN := Lib.hid hkn
          clear hSk hm
          go_wp2_with fail
          refine KT.mono ?_
          rintro e v1 ⟨rfl, rfl⟩
          go_wp2_with fail
          refine KN.mono ?_
          rintro e v1 ⟨rfl, rfl⟩
          clear KT KN
          go_wp2_with fail
          go_loopw [19] (fun v wq => ∃ j : Nat, j ≤ m ∧ v = .int .i64 j ∧ Hid (OW W0 O sz (own hv k j) wq)) (fun v _ => 100 - (intOf v).toNat)
          case atStart => exact ⟨0, by omega, rfl, HO⟩
          case round =>
            obtain ⟨j, hj, rfl, hr⟩ := hrel
            clear HO p1 p2
            have hSj := HS.out.below hr.out.bel
            have HO := Lib.hid hr.out
            clear hr
            by_cases hjm : j < m
            · obtain ⟨gr, off, cap, d1, d2, d3, d4, d5⟩ := hSj.at_ HKN.out (by rw [HM.out]; omega)
              rw [HM.out] at d1 d2
              have dy := d5 j (by rw [HM.out]; exact hjm)
              obtain ⟨y, hy⟩ : ∃ y : Nat, nth (hv k) j = y := by
                obtain ⟨Gs, inv⟩ := HINV.out
                have := inv.hvBd HKN.out (nth_in (L := hv k) (j := j) (by rw [HM.out]; exact hjm))
                exact ⟨(nth (hv k) j).toNat, by omega⟩
              have hys : y < sz := by
                obtain ⟨Gs, inv⟩ := HINV.out
                have := inv.hvBd HKN.out (nth_in (L := hv k) (j := j) (by rw [HM.out]; exact hjm))
                have := HSZ.out
                omega
              rw [hy] at dy
              obtain ⟨o1, o2, o3⟩ := HO.out.cell hys
              obtain ⟨f, hf⟩ : ∃ f, own hv k j (y : Int) = f := ⟨_, rfl⟩
              have hf1 : f ≤ 1 := by
                obtain ⟨Gs, inv⟩ := HINV.out
                rw [← hf]; exact own_le inv HKN.out _
              have HO2 : Hid (OW W0 O sz (own hv k (j + 1)) (wr.setCell ⟨O, y, none⟩ (.int .i64 ((f : Int) + 1)))) := Lib.hid (by
                rw [← hf]
                refine HO.out.inc hys fun x hx => ?_
                rw [own_step (by rw [HM.out]; exact hjm), hy]
                congr 1
                by_cases e : x = y
                · subst e; simp
                · rw [if_neg (by omega), if_neg e])
              rw [hf] at o1
              have wf : IntKind.i64.wrap ((f : Int) + 1) = f + 1 := IntWalk.i64_in _ (by omega)
              have hj64 : j < 64 := by omega
              clear hSj d3 d5 hy hf HO
              go_wp2
              go_roundw
              case rel => exact ⟨j + 1, by omega, by go_num, HO2⟩
              case measure => simp [intOf]; omega
            · obtain ⟨a, cap, c1, c2, c3, c4⟩ := hSj.read HKN.out
              rw [HM.out] at c1
              have HO2 : Hid (OW W0 O sz (own hv (k + 1) 0) wr) := Lib.hid (by
                have e : own hv (k + 1) 0 = own hv k j := by
                  funext x
                  rw [← own_next, HM.out, show j = m by omega]
                rw [e]; exact HO.out)
              clear hSj HO
              go_wp2
              go_roundw
              case rel => exact ⟨k + 1, by omega, by go_num, HO2⟩
              case measure => simp [intOf]; omega
        · have KCh := hSk.chain HC.out (by have := HQ.out; omega)
          have HKE : Hid (k = c.th.toNat) := Lib.hid (by omega)
          obtain ⟨bs, hbs⟩ : ∃ bs, bs = wr.heap.size := ⟨_, rfl⟩
          have hOb : O < bs := by
            have := (HO.out.cell (y := 0) (by have := HSZ.out; omega)).2.2
            omega
          obtain ⟨lm, hlm⟩ : ∃ lm, L.length = lm := ⟨_, rfl⟩
          have hl64 : lm ≤ 64 := by
            obtain ⟨Gs, inv⟩ := HINV.out
            have := inv.tl
            omega
          have HLM := Lib.hid hlm
          clear hSk
          go_wp2_with fail
          refine KCh.mono ?_
          rintro e W2 ⟨v, rfl, ho, hb2⟩
          rw [hlm, ← hbs] at ho
          obtain ⟨la, lc, rfl⟩ : ∃ a cap, v = .slice a lm cap := by
            rcases ho.2 with ⟨ev, h0⟩ | ⟨g', cap', cur, ev, _⟩
            · exact ⟨none, 0, by rw [ev, h0]⟩
            · exact ⟨_, _, ev⟩
          have HO2 : Hid (OW W0 O sz (fun x => own hv k 0 x + (L.take 0).count x) W2 ∧ W2.ownsRow bs 3 1 (.slice la lm lc) lm (ints L)) := Lib.hid ⟨by simpa using HO.out.below hb2, ho⟩
          have HBS := Lib.hid hbs
          clear KCh ho hb2 HO hlm hbs p1 p2
          go_wp2_with fail
          go_loopw [21] (fun v wq => ∃ j : Nat, j ≤ lm ∧ v = .int .i64 j ∧ Hid (OW W0 O sz (fun x => own hv k 0 x + (L.take j).count x) wq ∧ wq.ownsRow bs 3 1 (.slice la lm lc) lm (ints L))) (fun v _ => 100 - (intOf v).toNat)
          case atStart => exact ⟨0, by omega, rfl, HO2⟩
          case round =>
            obtain ⟨j, hj, rfl, hr⟩ := hrel
            clear HO2
            have hSj := HS.out.below hr.out.1.bel
            obtain ⟨p0, p1, p2, p3, p4, p5, p6⟩ := hSj.cb.conf
            have HO := Lib.hid hr.out
            clear hr
            by_cases hjm : j < lm
            · rcases HO.out.2.2 with ⟨ev, h0⟩ | ⟨gl, cap', cur, ev, hgl, hcur, hcc, hmm, hx9⟩
              · omega
              simp only [Value.slice.injEq, true_and] at ev
              obtain ⟨rfl, rfl⟩ := ev
              have hjL : j < L.length := by have := HLM.out; omega
              have dl := HO.out.2.cellAt j (by first | (simp; done) | (simp; exact hjL) | (simp; omega))
              obtain ⟨y, hy⟩ : ∃ y : Nat, nth L j = y := by
                obtain ⟨Gs, inv⟩ := HINV.out
                have := inv.bd (nth_in hjL)
                exact ⟨(nth L j).toNat, by omega⟩
              have hyb : 1 ≤ (y : Int) ∧ (y : Int) ≤ c.nd := by
                obtain ⟨Gs, inv⟩ := HINV.out
                have := inv.bd (nth_in hjL)
                omega
              have hys : y < sz := by have := HSZ.out; omega
              have dle : (ints L)[j]? = some (.int .i64 (y : Int)) := by
                rw [← hy]
                simp [ints, nth, List.getElem?_eq_getElem hjL]
              rw [dle] at dl
              try simp only [Nat.zero_add] at dl
              obtain ⟨o1, o2, o3⟩ := HO.out.1.cell hys
              obtain ⟨f, hf⟩ : ∃ f, own hv k 0 (y : Int) + (L.take j).count (y : Int) = f := ⟨_, rfl⟩
              have hf1 : f ≤ 1 := by
                obtain ⟨Gs, inv⟩ := HINV.out
                have h1 := own_all inv HI.out (y : Int)
                have h2 := (List.take_sublist j L).count_le (y : Int)
                rw [← HKE.out] at h1
                split at h1 <;> omega
              have HO3 : Hid (∀ nq, OW W0 O sz (fun x => own hv k 0 x + (L.take (j + 1)).count x) ((wr.drewN nq).setCell ⟨O, y, none⟩ (.int .i64 ((f : Int) + 1))) ∧ ((wr.drewN nq).setCell ⟨O, y, none⟩ (.int .i64 ((f : Int) + 1))).ownsRow bs 3 1 (.slice (some ⟨gl, 0, none⟩) lm lc) lm (ints L)) := Lib.hid fun nq => by
                have hw : OW W0 O sz (fun x => own hv k 0 x + (L.take j).count x) (wr.drewN nq) := HO.out.1.below ⟨rfl, rfl, rfl, Nat.le_refl _, fun _ _ => rfl⟩
                refine ⟨?_, ownsRow_setCell_other (a := ⟨O, y, none⟩) (show (wr.drewN nq).ownsRow bs 3 1 _ lm (ints L) from HO.out.2) (fun e => ?_) _⟩
                · rw [← hf]
                  refine hw.inc hys fun x hx => ?_
                  rw [count_take hjL, hy]
                  by_cases e : x = y
                  · subst e; simp; omega
                  · rw [if_neg (by omega), if_neg e]; omega
                · have := (HO.out.2.lt O e).1
                  omega
              rw [hf] at o1
              have wf : IntKind.i64.wrap ((f : Int) + 1) = f + 1 := IntWalk.i64_in _ (by omega)
              have hj64 : j < 64 := by omega
              have n1 : ¬ (y : Int) < 1 := by omega
              have n2' : ¬ (y : Int) > c.nd := by omega
              have hjc : j < lc := by omega
              clear hSj hy hf HO dle hcur hx9 hgl hjL p0 p1 p3 p4 p5 p6
              go_wp2_with fail
              go_quiet (fail)
              all_goals
                have dl' : (wr.drewN nq).cell? ⟨gl, j, none⟩ = some (.int .i64 (y : Int)) := dl
                have o1' : (wr.drewN nq).cell? ⟨O, y, none⟩ = some (.int .i64 (f : Int)) := o1
                have o2' : (wr.drewN nq).frozen? ⟨O, y, none⟩ = false := o2
                go_wp2_with fail
                go_roundw
                case rel => exact ⟨j + 1, by omega, by go_num, Lib.hid (HO3.out nq)⟩
                case measure => simp [intOf]; omega
            · have hOF : OW W0 O sz (fun x => if P.sent c.al < x ∧ x ≤ c.nd then 1 else 0) wr := by
                obtain ⟨Gs, inv⟩ := HINV.out
                have h1 : (fun x => own hv k 0 x + (L.take j).count x) = fun x => if P.sent c.al < x ∧ x ≤ c.nd then 1 else 0 := by
                  funext x
                  rw [List.take_of_length_le (by have := HLM.out; omega), HKE.out]
                  exact own_all inv HI.out x
                rw [← h1]; exact HO.out.1
              have HOF := Lib.hid hOF
              have wsn : IntKind.i64.wrap (P.sent c.al + 1) = P.sent c.al + 1 := IntWalk.i64_in _ (by omega)
              obtain ⟨z0, hz0'⟩ : ∃ z0 : Nat, P.sent c.al + 1 = (z0 : Int) := ⟨(P.sent c.al + 1).toNat, by omega⟩
              rw [hz0'] at wsn
              have HZ0 := Lib.hid hz0'
              clear hSj hOF HO hz0'
              go_wp2_with fail
              refine (KS _).mono ?_
              rintro e W5 ⟨rfl, hb5⟩
              have HO5 := Lib.hid (HOF.out.below hb5)
              clear hb5 HOF p0 p1 p2 p3 p4 p5 p6
              go_wp2_with fail
              go_loopw [22] (fun v wq => ∃ z : Nat, z0 ≤ z ∧ (z : Int) ≤ c.nd + 1 ∧ v = .int .i64 z ∧ Hid (OW W0 O sz (fun x => if P.sent c.al < x ∧ x ≤ c.nd then 1 else 0) wq)) (fun v _ => 100 - (intOf v).toNat)
              case atStart => exact ⟨z0, Nat.le_refl _, by have := HZ0.out; omega, congrArg (Value.int .i64) HZ0.out, HO5⟩
              case round =>
                obtain ⟨z, hz, hz2, rfl, hr⟩ := hrel
                clear HO5
                obtain ⟨-, p1, p2, -⟩ := (HS.out.below hr.out.bel).cb.conf
                by_cases hzn : (z : Int) ≤ c.nd
                · have hzs : z < sz := by have := HSZ.out; omega
                  obtain ⟨o1, o2, o3⟩ := hr.out.cell hzs
                  rw [if_pos ⟨by have := HZ0.out; omega, hzn⟩] at o1
                  have HR := Lib.hid hr.out
                  clear hr
                  go_wp2
                  go_roundw
                  case rel => exact ⟨z + 1, by omega, by omega, by go_num, HR⟩
                  case measure => simp [intOf]; omega
                · have HBF := Lib.hid (HS.out.bel.trans (hr.out.bel.mono HS.out.bel.size))
                  clear hr
                  go_wp2_with fail
                  refine (lives_any _).mono ?_
                  rintro e v2 ⟨rfl, hb⟩
                  have HB2 := Lib.hid (P.below_then HBF.out hb (Nat.le_refl _))
                  clear hb
                  go_wp2
                  go_ret
                  exact ⟨rfl, HB2.out⟩
theorem crowd_any (c : P.Cf) (a1 : Option Addr) (n1 cap1 : Nat) (xs : List Int) (a2 : Option Addr) (n2 cap2 : Nat) (ys : List Int) (w : World) (R1 : F.Row .i64 w a1 n1 cap1 xs) (R2 : F.Row .i64 w a2 n2 cap2 ys) :
    Calls Try.prog 4 #[c.v, .slice a1 n1 cap1, .slice a2 n2 cap2] w fun e w' => e = .returned (.bool true) ∧ Below w.heap.size w w' := by
  by_cases hc : c.Ok
  · by_cases hn : n2 ≤ 3000
    · exact crowd_main c a1 n1 cap1 xs a2 n2 cap2 ys w hc R1 R2 hn
    · have KR := P.right_ok c
      have hr := R2.room
      unfold maxLen at hr
      clear R1 R2
      go_enter Try.func4, Try.ntmps4
      go_wp2_with fail
      refine (KR _ hc).mono ?_
      rintro e V ⟨rfl, hb⟩
      obtain ⟨hB, h0⟩ := P.boxed c hb
      clear hb KR hB hc
      go_wp2_with fail
      refine (lives_any _).mono ?_
      rintro e v2 ⟨rfl, hb⟩
      have HB2 := Lib.hid (P.below_then h0 hb (Nat.le_refl _))
      clear hb h0
      go_wp2
      go_ret
      exact ⟨rfl, HB2.out⟩
  · have KR := P.right_bad c
    clear R1 R2
    go_enter Try.func4, Try.ntmps4
    go_wp2_with fail
    refine (KR _ hc).mono ?_
    rintro e V ⟨rfl, hb⟩
    obtain ⟨hB, h0⟩ := P.boxed c hb
    clear hb KR hB hc
    go_wp2_with fail
    refine (lives_any _).mono ?_
    rintro e v2 ⟨rfl, hb⟩
    have HB2 := Lib.hid (P.below_then h0 hb (Nat.le_refl _))
    clear hb h0
    go_wp2
    go_ret
    exact ⟨rfl, HB2.out⟩
end Go.Proofs.Ytnedifcjenlcjaa
