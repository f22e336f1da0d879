/- ArenaOdd's walk. -/
import Derived.Test.YtnedifcjenlcjaaALives
namespace Go.Proofs.Ytnedifcjenlcjaa
open Go.ChangeShapes Go.WideShapes Go.ChangeAt Go.RowKit
set_option linter.unusedVariables false
set_option maxRecDepth 20000

set_option maxHeartbeats 4000000 in
theorem odd_any (fn r : Int) (w : World) (hr : 0 ≤ r ∧ r < 18446744073709551616) (hf : -9223372036854775808 ≤ fn ∧ fn < 9223372036854775808) : Calls Try.prog 5 #[.int .i64 fn, .int .u64 r] w fun e w' => e = .returned (.bool true) ∧ Below w.heap.size w w' := by
  have KN := born_alw ex_ok (w := w)
  have ev : ex.v = .agg #[.int .i64 0, .int .i64 1, .int .i64 2, .int .i64 1, .int .i64 1, .int .i64 1, .int .i64 1] := rfl
  rw [ev] at KN
  have hth : ex.th.toNat = 1 := rfl
  have qa : ∀ w, (binOp .eql 55 (.agg #[.int .u64 0, .int .u64 0, .int .u64 0]) (.agg #[.int .u64 0, .int .u64 0, .int .u64 0])).run Try.prog w = .ok (.bool true) w := fun w => by kernel_rfl
  have HR := Lib.hid (And.intro hr hf)
  clear ev hr
  go_enter Try.func5, Try.ntmps5
  go_wp2_with fail
  refine KN.mono ?_
  rintro e W ⟨B, Fb, T, g, t, rfl, X, ⟨ws, Gs, ts, m, i, hfr⟩, hX, hb⟩
  clear KN
  have KT := thread_yes B T 1 0 W (by omega) (by have := m.thread; rwa [hth] at this) (by omega)
  simp at KT
  have KD := do_none m (i := 0) (by decide) (hfr 0) (at0 B)
  simp only [Nat.zero_mul] at KD
  have hF := m.fault
  have hk : gBad (some (g, t, Gs)) = false := by simp [gBad, i.k0]
  have HM := Lib.hid m
  have HX := Lib.hid (And.intro hX hb)
  have HFR := Lib.hid hfr
  have HG := Lib.hid hk
  clear m i hfr hX hb hF hk
  go_wp2_with fail
  refine (do_nil _ _).mono ?_
  rintro e v ⟨rfl, rfl⟩
  go_wp2_with fail
  refine (do_nil _ _).mono ?_
  rintro e v ⟨rfl, rfl⟩
  go_wp2_with fail
  refine KT.mono ?_
  rintro e v ⟨rfl, rfl⟩
  go_wp2_with fail
  refine KD.mono ?_
  rintro e v ⟨rfl, rfl⟩
  clear KD
  go_wp2_with fail
  refine KT.mono ?_
  rintro e v ⟨rfl, rfl⟩
  go_wp2_with fail
  refine (chain_nil _).mono ?_
  rintro e W1 ⟨v, rfl, ho, hb1⟩
  obtain ⟨a0, cap0, rfl⟩ : ∃ a cap, v = .slice a 0 cap := by
    rcases ho.2 with ⟨ev, _⟩ | ⟨g', cap', cur, ev, _⟩
    · exact ⟨_, _, ev⟩
    · exact ⟨_, _, ev⟩
  have m1 := HM.out.below hb1
  have HX1 := Lib.hid (And.intro HX.out.1 (P.below_then HX.out.2 hb1 (Nat.le_refl _)))
  clear ho hb1 HX HM
  have HM1 := Lib.hid m1
  clear m1 KT
  by_cases h1 : fn = 1
  · subst h1
    go_wp2_with fail
    refine (lives_any _).mono ?_
    rintro e v2 ⟨rfl, hb⟩
    have HB2 := Lib.hid (P.below_then HX1.out.2 hb (Nat.le_refl _))
    clear hb
    go_wp2
    go_ret
    exact ⟨rfl, HB2.out⟩
  by_cases h2 : fn = 2
  · subst h2
    go_wp2_with fail
    refine (lives_any _).mono ?_
    rintro e v2 ⟨rfl, hb⟩
    have HB2 := Lib.hid (P.below_then HX1.out.2 hb (Nat.le_refl _))
    clear hb
    go_wp2
    go_ret
    exact ⟨rfl, HB2.out⟩
  have n1 : (fn == 1) = false := by simpa using h1
  have n2 : (fn == 2) = false := by simpa using h2
  have KT := thread_yes B T 1 0 W1 (by omega) (by have := HM1.out.thread; rwa [hth] at this) (by omega)
  simp at KT
  have hA : Below W1.heap.size W1 (W1.alloc (.cells #[.int .u64 r] 48)) := (Below.refl _ _).alloc (Nat.le_refl _) _
  have KP := (HM1.out.below hA).push (i := 0) (by decide) (by show (ts 0).fr.length ≤ 1000; rw [HFR.out 0]; simp) fn (row1 W1 r HR.out.1.1 HR.out.1.2) (by omega)
  simp only [Nat.zero_mul, HFR.out 0, List.nil_append] at KP
  obtain ⟨ts1, hts1, hfr1⟩ : ∃ ts1, upd ts 0 { fr := [⟨fn, 0, [r]⟩], r0 := (ts 0).r0, r1 := (ts 0).r1, r2 := (ts 0).r2 } = ts1 ∧ (ts1 0).fr = [⟨fn, 0, [r]⟩] := ⟨_, rfl, by rw [upd_same]⟩
  rw [hts1] at KP
  have HA := Lib.hid hA
  clear hA
  go_wp2_with fail
  refine KT.mono ?_
  rintro e v ⟨rfl, rfl⟩
  go_wp2_with fail
  refine KP.mono ?_
  rintro e W2 ⟨rfl, X2, k2, l2, m2⟩
  have hk02 : Keeps X W1 W2 := (Keeps.of_below (O := X) HA.out).trans k2 (Later.refl _ _)
  have hl02 : Later X W1 X2 := fun k hk => (l2 k hk).imp id (fun h => Nat.le_trans HA.out.size h)
  have hem : (upd ts1 0 ⟨[], 0, 0, 0⟩ 0).fr = [] := by rw [upd_same]
  have KS := step_once (l := []) (i := 0) (f := ⟨fn, 0, [r]⟩) (σ' := AS g t ws (firstMS ex).st Gs (upd ts1 0 ⟨[], 0, 0, 0⟩)) ex_ok m2 (by decide) hfr1 (by simp) (fun X V hm => do_odd (l := []) (f := ⟨fn, 0, [r]⟩) hm (by decide) hfr1 (by simp) h1 h2) (.inr hem) (Nat.le_trans (Nat.le_of_eq (congrArg List.length hem)) (by simp))
  have hemp : (upd ts1 0 ⟨[], 0, 0, 0⟩ 0).fr.isEmpty = true := by rw [upd_same]; rfl
  simp only [hemp, Bool.not_true] at KS
  have HK := Lib.hid (And.intro hk02 hl02)
  clear KP KT m2 k2 l2 hk02 hl02 hemp hts1 hfr1 hem
  go_wp2_with fail
  refine KS.mono ?_
  rintro e W3 ⟨rfl, X3, k3, l3, m3⟩
  have hk3 : Keeps X W1 W3 := HK.out.1.trans k3 HK.out.2
  have KT := thread_yes B T 1 0 W3 (by omega) (by have := m3.thread; rwa [hth] at this) (by omega)
  simp at KT
  have KF := m3.fault
  simp only [HG.out, Bool.or_false] at KF
  have hret := m3.ret (i := 0) (by decide)
  simp only [upd_same, Nat.zero_mul, Nat.zero_add] at hret
  obtain ⟨t0, t1, t2⟩ := hret
  have HB3 : Hid (Below w.heap.size w W3) := Lib.hid (HX1.out.2.trans (hk3.below HX1.out.2.size HX1.out.1))
  clear KS k3 l3 m3 hk3 HK
  go_wp2_with fail
  refine KT.mono ?_
  rintro e v ⟨rfl, rfl⟩
  go_wp2_with fail
  refine KF.mono ?_
  rintro e W4 ⟨rfl, hb4⟩
  have HB4 := Lib.hid (P.below_then HB3.out hb4 (Nat.le_refl _))
  clear hb4 KF KT
  go_wp2_with fail
  refine (lives_any _).mono ?_
  rintro e v2 ⟨rfl, hb⟩
  have HB5 := Lib.hid (P.below_then HB4.out hb (Nat.le_refl _))
  clear hb
  go_wp2
  go_ret
  exact ⟨rfl, HB5.out⟩
end Go.Proofs.Ytnedifcjenlcjaa
