/- CoreOnce's walk. -/
import Derived.Test.YtogbakgmkiiboaaKOEnd
namespace Go.Proofs.Ytogbakgmkiiboaa
open Go.ChangeShapes Go.WideShapes Go.ChangeAt Go.RowKit
set_option linter.unusedVariables false
set_option maxRecDepth 20000

variable {c : P.Cf} {w W : World} {Cb B Fb T Cal g t : Nat} {s : G.GS} {l : List Fr} {r0 : Option Int} {ms : MS}
theorem OnceS.mems (h : OnceS c w Cb B Fb T Cal g t s l r0 ms W) : ∃ M, (Calls Try.prog 12 #[at0 B] W fun e W' => e = .returned (at0 M) ∧ W = W') ∧ Calls Try.prog 43 #[at0 M] W fun e W' => e = .returned (.int .i64 ms.st) ∧ W = W' := by
  obtain ⟨O, ⟨M, Om, rfl, hb, hm, hg⟩, _⟩ := h.mach
  exact ⟨M, mem_any B M c _ Fb T _ false W hb, steps_any M ms Om W hm⟩
theorem OnceS.first (h : OnceS c w Cb B Fb T Cal g t s l r0 ms W) (ht : 0 < c.th.toNat ∧ c.th.toNat ≤ 6) : Calls Try.prog 18 #[at0 B, .int .i64 0] W fun e W' => e = .returned (.pointer (some ⟨T, 0, none⟩)) ∧ W = W' := by
  have KT := thread_yes B T c.th.toNat 0 W ht.2 h.thread ht.1
  simpa using KT
/-- Amid the waits: k have been waited. -/
def AmidK (c : P.Cf) (w : World) (Cb B Fb T Cal g t : Nat) (s : G.GS) (sz k : Nat) (W : World) : Prop :=
  ∃ r0 ms, OnceS c w Cb B Fb T Cal g t s [] r0 ms W ∧ Calm ms sz (100 + 40 * k)
/-- Amid a wait of m: rounds at most are to come. -/
def AmidR (c : P.Cf) (w : World) (Cb B Fb T Cal g t : Nat) (s : G.GS) (sz k : Nat) (m : Int) (r : Nat) (W : World) : Prop :=
  (∃ (q : Int) (r0 : Option Int) (ms : MS), 0 ≤ q ∧ q ≤ m ∧ r = (m - q).toNat + 1 ∧ OnceS c w Cb B Fb T Cal g t s [⟨7, q, [m]⟩] r0 ms W ∧ Calm ms sz (100 + 40 * k + q.toNat)) ∨
  (∃ ms, r = 0 ∧ OnceS c w Cb B Fb T Cal g t s [] (some m) ms W ∧ Calm ms sz (100 + 40 * k + 40))
set_option maxHeartbeats 16000000 in
theorem once_main (c : P.Cf) (a1 : Option Addr) (n cap : Nat) (xs : List Int) (i : Int) (w : World) (hc : c.Ok) (R : F.Row .i64 w a1 n cap xs) (hn : n ≤ 60) :
    Calls Try.prog 7 #[c.v, .slice a1 n cap, .int .i64 i] w fun e w' => e = .returned (.bool true) ∧ Below w.heap.size w w' := by
  have KR := fun W => P.right_ok c W hc
  have KN : ∀ gh W, Calls Try.prog 9 #[c.v, .slice none 0 0, .bool gh] W (Born c 0 [] gh W) := fun gh W => new_ok c _ gh 0 [] W hc (fun W' _ => F.new_nil W')
  have HC := Lib.hid hc
  have HR := Lib.hid R
  have ht : 0 < c.th.toNat ∧ c.th.toNat ≤ 6 := by have := hc.th; omega
  have HT := Lib.hid ht
  clear hc R ht
  go_enter Try.func7, Try.ntmps7
  go_wp2_with fail
  refine (KR _).mono ?_
  rintro e V ⟨rfl, hb⟩
  obtain ⟨hB, h0⟩ := P.boxed c hb
  clear hb KR
  obtain ⟨p0, p1, p2, p3, p4, p5, p6⟩ := hB.conf
  generalize hCb : w.heap.size = Cb at *
  go_wp2_with fail
  refine (KN true _).mono ?_
  rintro e V1 ⟨Cb1, Pb1, B, Fb, T, ad, cap1, gs, O, rfl, hgs, hA⟩
  have hgs' : ∃ g t, gs = some (g, t, ghost0 c) := hgs
  obtain ⟨g, t, rfl⟩ := hgs'
  have hG : OnceS c w Cb B Fb T V1.heap.size g t (ghost0 c) [] none (firstMS c) (V1.alloc (.cells #[.int .i64 0] 3)) := by
    subst hCb
    exact OnceS.born HC.out hA (hB.below hA.bel hB.lt) (P.below_then h0 hA.bel (Nat.le_refl _)) h0.size
  generalize hCal : V1.heap.size = Cal at *
  have HG : Hid (AmidK c w Cb B Fb T Cal g t (ghost0 c) c.size.toNat 0 (V1.alloc (.cells #[.int .i64 0] 3))) := Lib.hid ⟨none, firstMS c, hG, (first_calm HC.out).mono (by omega)⟩
  have HCal := Lib.hid hCal
  have HCb := Lib.hid hCb
  clear hgs hA hB h0 p0 p1 p2 p3 p4 p5 p6 KN hG hCb
  generalize ghost0 c = s at *
  go_wp2_with fail
  go_loopw [11] (fun v wr => ∃ k : Nat, k ≤ n ∧ v = .int .i64 k ∧ Hid (AmidK c w Cb B Fb T Cal g t s c.size.toNat k wr)) (fun v _ => n - (intOf v).toNat)
  case atStart => exact ⟨0, by omega, rfl, HG⟩
  case round =>
    obtain ⟨k, hk, rfl, hrel⟩ := hrel
    clear HG hCal HCal
    obtain ⟨r0, ms, hS, hcm⟩ := hrel.out
    by_cases hlt : k < n
    · obtain ⟨b1, o1, rfl, hx⟩ := (Row.later HR.out hS.bel).cell k hlt
      have hx' : wr.cell? ⟨b1, o1 + k, none⟩ = some (.int .i64 (xs.getD k 0)) := hx
      clear hx
      generalize xs.getD k 0 = x at hx'
      have KT := thread_yes B T c.th.toNat 0 wr HT.out.2 hS.thread HT.out.1
      simp at KT
      obtain ⟨m, hm, hm0, hm1⟩ : ∃ m : Int, max 0 (min x 30) = m ∧ 0 ≤ m ∧ m ≤ 30 := ⟨_, rfl, by omega, by omega⟩
      have HM := Lib.hid hm
      clear hm
      have hmu : IntKind.u64.wrap m = m := IntWalk.u64_in _ (by omega)
      have HS := Lib.hid hS
      have HCM := Lib.hid hcm
      clear hS hcm hrel
      go_upto_region 11 with fail
      go_cut [12] from 41 to 46 (fun s12 wx => s12 = .int .i64 m ∧ wx = wr)
      case first =>
        rcases (show (x < 0 ∧ m = 0) ∨ (0 ≤ x ∧ x ≤ 30 ∧ m = x) ∨ (30 < x ∧ m = 30) by have := HM.out; omega) with ⟨h1, rfl⟩ | ⟨h1, h2, rfl⟩ | ⟨h1, rfl⟩
        all_goals
          go_wp2_with fail
          all_goals first
            | (go_meet; exact ⟨rfl, rfl⟩)
            | (go_meet; exact ⟨congrArg (Value.int .i64) (by omega), rfl⟩)
      case rest =>
        obtain ⟨rfl, rfl⟩ := hcut
        clear hx'
        have KP := fun (V : World) hV (aa : Option Addr) (R1 : F.Row .u64 V aa 1 1 [m]) => (HS.out.below (W' := V) hV).push 7 R1 (by omega)
        have HW := Lib.hid HS.out.bel.size
        go_wp2_with fail
        refine KT.mono ?_
        rintro e v1 ⟨rfl, rfl⟩
        clear KT
        go_wp2_with fail
        refine (KP _ ((Below.refl _ _).alloc (Nat.le_refl _) _) _ (row1 _ m (by omega) (by omega))).mono ?_
        rintro e v2 ⟨rfl, hS2⟩
        have HS2 := Lib.hid hS2
        clear KP hS2 HS
        go_wp2_with fail
        go_loopg [] (m.toNat + 1) (fun r wr => Hid (AmidR c w Cb B Fb T Cal g t s c.size.toNat k m r wr))
        case atStart => exact Lib.hid (.inl ⟨0, r0, ms, Int.le_refl _, hm0, by simp, HS2.out, HCM.out.mono (by omega)⟩)
        case round =>
          clear HS2 HCM HW
          have HH := hrel.out
          clear hrel
          rcases HH with ⟨q, r1, ms1, q0, q1, q2, h, hcm⟩ | ⟨ms1, q2, h, hcm⟩
          · obtain ⟨gg, cp, t1, -⟩ := h.frame
            have K := h.top t1
            have KT := h.first HT.out
            have h2 := h.below (Below.refl _ _).drew
            obtain ⟨M, KM, KS⟩ := h2.mems
            have hl8 : 8 ≤ ms1.ws.length := by rw [hcm.len]; have := HC.out.steps; omega
            have hfi : ms1.fine := hcm.fine (by have := HC.out.steps; omega) (by omega)
            have KST := step_go HC.out q m w _ q0 q1 hm1 h2 hfi hl8 HT.out
            have HLS := Lib.hid (load_st ms1 hl8)
            have HCL := Lib.hid (hcm.msR 0 1 0 0 0 0 0)
            have HCM := Lib.hid hcm
            have HQ := Lib.hid (And.intro q0 (And.intro q1 q2))
            have w0 : IntKind.i64.wrap (ms1.st - ms1.st) = 0 := by rw [IntWalk.i64_in _ (by omega)]; omega
            have w1 : IntKind.i64.wrap (ms1.st + 1 - ms1.st) = 1 := by rw [IntWalk.i64_in _ (by omega)]; omega
            clear h h2 t1 hfi hl8 hcm q0 q1 q2
            go_wp2_with fail
            refine KT.mono ?_
            rintro e v1 ⟨rfl, rfl⟩
            go_wp2_with fail
            refine K.mono ?_
            rintro e v1 ⟨rfl, rfl⟩
            clear KT K
            go_wp2_with fail
            refine KM.mono ?_
            rintro e v1 ⟨rfl, rfl⟩
            go_wp2_with fail
            refine KS.mono ?_
            rintro e v1 ⟨rfl, rfl⟩
            clear KM KS
            go_wp2_with fail
            refine KST.mono ?_
            rintro e v3 ⟨b, rfl, hx⟩
            clear KST
            rcases hx with ⟨rfl, q', p1, p2, h⟩ | ⟨rfl, h⟩
            · obtain ⟨gg, cp, t1, -⟩ := h.frame
              have K := h.top t1
              have KT := h.first HT.out
              obtain ⟨M2, KM, KS⟩ := h.mems
              rw [HLS.out] at KS
              have H := Lib.hid (h.below (Below.refl _ _).drew)
              have HP := Lib.hid (And.intro p1 p2)
              clear t1 h p1 p2 w0
              go_wp2_with fail
              refine KM.mono ?_
              rintro e v1 ⟨rfl, rfl⟩
              go_wp2_with fail
              refine KS.mono ?_
              rintro e v1 ⟨rfl, rfl⟩
              clear KM KS
              go_wp2_with fail
              refine KT.mono ?_
              rintro e v1 ⟨rfl, rfl⟩
              go_wp2_with fail
              refine K.mono ?_
              rintro e v1 ⟨rfl, rfl⟩
              clear KT K
              go_wp2
              go_roundg ((m - q').toNat + 1)
              case measure => have := HQ.out; have := HP.out; omega
              case rel => exact Lib.hid (.inl ⟨q', r1, loadMS ms1, by have := HQ.out; have := HP.out; omega, HP.out.2, rfl, H.out, HCL.out.mono (by have := HQ.out; have := HP.out; omega)⟩)
            · have K := h.topNone
              have KT := h.first HT.out
              obtain ⟨M2, KM, KS⟩ := h.mems
              have H := Lib.hid h
              clear h w1
              go_wp2_with fail
              refine KM.mono ?_
              rintro e v1 ⟨rfl, rfl⟩
              go_wp2_with fail
              refine KS.mono ?_
              rintro e v1 ⟨rfl, rfl⟩
              clear KM KS
              go_wp2_with fail
              refine KT.mono ?_
              rintro e v1 ⟨rfl, rfl⟩
              go_wp2_with fail
              refine K.mono ?_
              rintro e v1 ⟨rfl, rfl⟩
              clear KT K
              go_wp2
              go_roundg 0
              case measure => have := HQ.out; omega
              case rel => exact Lib.hid (.inr ⟨ms1, rfl, H.out, HCM.out.mono (by have := HQ.out; omega)⟩)
          · have KT := h.first HT.out
            have K := h.topNone
            have hret := h.ret
            have H := Lib.hid h
            have HCM := Lib.hid hcm
            clear h hcm q2
            go_wp2_with fail
            refine KT.mono ?_
            rintro e v1 ⟨rfl, rfl⟩
            go_wp2_with fail
            refine K.mono ?_
            rintro e v1 ⟨rfl, rfl⟩
            go_wp2_with fail
            refine KT.mono ?_
            rintro e v1 ⟨rfl, rfl⟩
            clear KT K
            go_wp2
            go_roundw
            case rel => exact ⟨k + 1, by omega, by go_num, Lib.hid ⟨some m, ms1, H.out, HCM.out.mono (by omega)⟩⟩
            case measure => simp [intOf]; omega
    · have hkn : k = n := by omega
      obtain ⟨y, hy⟩ := hS.cal
      have cy : wr.cell? ⟨Cal, 0, none⟩ = some (.int .i64 y) := by
        have := hy.cell 0
        simpa using this
      obtain ⟨-, p1, -, -, -, -, -⟩ := hS.cf.conf
      have HB := Lib.hid hS.bel
      have hth := HC.out.th
      have KL := lives_any wr
      by_cases hin : i < 0 ∨ c.th ≤ i
      · have KN1 := step_no i (.func (.func 41) #[] #[at0 Cal]) hS HT.out.2 (by omega)
        have hin' : (i < 0 ∧ ¬ c.th ≤ i) ∨ c.th ≤ i := by omega
        clear hS hcm hrel hy hkn hth HR HC HT KL hin
        rcases hin' with ⟨hin, hin2⟩ | hin
        all_goals
          go_wp2_with fail
          refine KN1.mono ?_
          rintro e v1 ⟨rfl, rfl⟩
          go_wp2_with fail
          refine (step_nil _ _ _).mono ?_
          rintro e v1 ⟨rfl, rfl⟩
          clear KN1
          go_wp2_with fail
          refine (fault_nil _).mono ?_
          rintro e v1 ⟨rfl, rfl⟩
          go_wp2_with fail
          refine (mload_nil _ _).mono ?_
          rintro e v1 ⟨rfl, hb⟩
          have HB1 := Lib.hid (P.below_then HB.out hb (Nat.le_refl _))
          clear hb
          go_wp2_with fail
          refine (lives_any _).mono ?_
          rintro e v2 ⟨rfl, hb⟩
          have HB2 := Lib.hid (P.below_then HB1.out hb (Nat.le_refl _))
          clear hb
          go_wp2
          go_ret
          exact ⟨rfl, HB2.out⟩
      · obtain ⟨j, rfl⟩ := Int.eq_ofNat_of_zero_le (show 0 ≤ i by omega)
        have KT := thread_yes B T c.th.toNat j wr HT.out.2 hS.thread (by omega)
        have KR := step_rest hS HT.out
        by_cases hj : j = 0
        · subst hj
          have hlt2 : ¬ c.th ≤ 0 := by omega
          clear hS hcm hrel hy hkn hth HR HC HT KT
          go_wp2_with fail
          refine KR.mono ?_
          rintro e v1 ⟨rfl, rfl⟩
          clear KR
          go_wp2_with fail
          refine KL.mono ?_
          rintro e v2 ⟨rfl, hb⟩
          have HB2 := Lib.hid (P.below_then HB.out hb (Nat.le_refl _))
          clear hb KL
          go_wp2
          go_ret
          exact ⟨rfl, HB2.out⟩
        · have KS := hS.still (i := j) (by omega) (by omega)
          have hlt2 : ¬ c.th ≤ (j : Int) := by omega
          have hj0 : ¬ (j : Int) < 0 := by omega
          have hj1 : ¬ (j : Int) = 0 := by omega
          clear hS hcm hrel hy hkn hth HR HC HT hj hin
          go_wp2_with fail
          refine KR.mono ?_
          rintro e v1 ⟨rfl, rfl⟩
          clear KR
          go_wp2_with fail
          refine KT.mono ?_
          rintro e v1 ⟨rfl, rfl⟩
          go_wp2_with fail
          refine KS.mono ?_
          rintro e v1 ⟨rfl, rfl⟩
          clear KT KS
          go_wp2_with fail
          refine KL.mono ?_
          rintro e v2 ⟨rfl, hb⟩
          have HB2 := Lib.hid (P.below_then HB.out hb (Nat.le_refl _))
          clear hb KL
          go_wp2
          go_ret
          exact ⟨rfl, HB2.out⟩
theorem once_any (c : P.Cf) (a1 : Option Addr) (n cap : Nat) (xs : List Int) (i : Int) (w : World) (R : F.Row .i64 w a1 n cap xs) :
    Calls Try.prog 7 #[c.v, .slice a1 n cap, .int .i64 i] w fun e w' => e = .returned (.bool true) ∧ Below w.heap.size w w' := by
  by_cases hc : c.Ok
  · by_cases hn : n ≤ 60
    · exact once_main c a1 n cap xs i w hc R hn
    · have KR := P.right_ok c
      have hr := R.room
      unfold maxLen at hr
      clear R
      go_enter Try.func7, Try.ntmps7
      go_wp2_with fail
      refine (KR _ hc).mono ?_
      rintro e V ⟨rfl, hb⟩
      obtain ⟨hB, h0⟩ := P.boxed c hb
      clear hb KR hB hc
      go_wp2_with fail
      refine (lives_any _).mono ?_
      rintro e v2 ⟨rfl, hb⟩
      have HB2 := Lib.hid (P.below_then h0 hb (Nat.le_refl _))
      clear hb h0
      go_wp2
      go_ret
      exact ⟨rfl, HB2.out⟩
  · have KR := P.right_bad c
    clear R
    go_enter Try.func7, Try.ntmps7
    go_wp2_with fail
    refine (KR _ hc).mono ?_
    rintro e V ⟨rfl, hb⟩
    obtain ⟨hB, h0⟩ := P.boxed c hb
    clear hb KR hB hc
    go_wp2_with fail
    refine (lives_any _).mono ?_
    rintro e v2 ⟨rfl, hb⟩
    have HB2 := Lib.hid (P.below_then h0 hb (Nat.le_refl _))
    clear hb h0
    go_wp2
    go_ret
    exact ⟨rfl, HB2.out⟩
end Go.Proofs.Ytogbakgmkiiboaa
