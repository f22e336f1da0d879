/- CoreSteps's walk. Printed by core_steplaw.py. -/
import Derived.Test.YtogbakgmkiiboaaKSt
import Derived.Deep.RegionWith
import Derived.Deep.Cut
import Derived.Deep.CutRange
import Derived.Lib.QuietBelow
import Derived.Deep.QuietTactic
import Derived.BigQuiet
namespace Go.Proofs.Ytogbakgmkiiboaa
open Go.ChangeShapes Go.WideShapes Go.ChangeAt Go.RowKit Go.Sort
set_option linter.unusedVariables false
set_option maxRecDepth 20000

/-- What a call answers that only reads. -/
theorem ans_call {f : FuncId} {args : Array Value} {w : World} {v : Value} {d : Nat} {os : Array Obj} (h : Calls Try.prog f args (grow (redrawn w d) os) fun e w' => e = .returned v ∧ Below (grow (redrawn w d) os).heap.size (grow (redrawn w d) os) w') :
    Calls Try.prog f args (grow (redrawn w d) os) fun e w'' => e = .returned v ∧ ∃ p : Regrown, w'' = grow (redrawn w p.d) p.os := Calls.regrown_of h
abbrev ocs (d : OpT) : Array Value := #[.int .i64 d.k, .int .i64 d.a, .int .i64 d.b, .int .u64 d.o, .int .u64 d.x, .int .u64 d.p, .int .u64 d.q]
/-- All that holds between two deeds. -/
structure Good (c : P.Cf) (w : World) (Cb B Fb T B2 F2 T2 pg pcp g t : Nat) (wg cp Ob : Nat) (oc : Array Value) (ms ms2 : MS) (s : G.GS) (bad touched : Bool) (st : Nat) (W : World) : Prop where
  core : StS c w Cb B Fb T B2 F2 T2 wg cp pg pcp Ob oc ms ms2 (some (g, t, s)) bad bad ms.ws W
  gs : GsOk c s touched
  ws : ms2.ws = ms.ws
  c1 : Calm ms c.size.toNat st
  c2 : Calm ms2 c.size.toNat st
theorem Good.below {c : P.Cf} {w : World} {Cb B Fb T B2 F2 T2 pg pcp g t wg cp Ob : Nat} {oc : Array Value} {ms ms2 : MS} {s : G.GS} {bad touched : Bool} {st : Nat} {W W' : World} (h : Good c w Cb B Fb T B2 F2 T2 pg pcp g t wg cp Ob oc ms ms2 s bad touched st W) (hb : Below W.heap.size W W') :
    Good c w Cb B Fb T B2 F2 T2 pg pcp g t wg cp Ob oc ms ms2 s bad touched st W' := ⟨h.core.below hb, h.gs, h.ws, h.c1, h.c2⟩
theorem Good.deed {c : P.Cf} {w : World} {Cb B Fb T B2 F2 T2 pg pcp g t wg cp Ob : Nat} {oc : Array Value} {ms ms2 : MS} {s : G.GS} {bad touched : Bool} {st : Nat} {W : World} (h : Good c w Cb B Fb T B2 F2 T2 pg pcp g t wg cp Ob oc ms ms2 s bad touched st W) (oc' : Array Value) :
    Good c w Cb B Fb T B2 F2 T2 pg pcp g t wg cp W.heap.size oc' ms ms2 s bad touched st (W.alloc (.cells oc' 63)) := ⟨h.core.deed oc', h.gs, h.ws, h.c1, h.c2⟩
/-- What has been touched behind j of a step's two addresses. -/
def tj (c : P.Cf) (touched : Bool) (k a b : Int) (j : Nat) : Bool := if j = 0 then touched else if j = 1 then touched || hit c a else touched || hits c k a b
theorem tj_end (c : P.Cf) (touched : Bool) (k a b : Int) : tj c touched k a b 2 = (touched || hits c k a b) := rfl
theorem hit_out {c : P.Cf} (hc : c.Ok) {x : Int} (h : ¬ (0 ≤ x ∧ x < c.size)) : hit c x = false := by
  unfold hit
  rw [P.place_5 hc (by omega)]
  rfl

set_option maxHeartbeats 64000000 in
theorem steps_main (c : P.Cf) (ao : Option Addr) (n cap : Nat) (D : Nat → OpT) (w : World) (hc : c.Ok) (hO : OpsIn w ao n D) (hn : n ≤ 60) (hr : n ≤ cap ∧ cap ≤ 9223372036854775807) :
    Calls Try.prog 4 #[c.v, .slice ao n cap] w fun e w' => e = .returned (.bool true) ∧ Below w.heap.size w w' := by
  have KR := fun W => P.right_ok c W hc
  have KS := P.rsent_any c
  have KF := fun W => first_own2 c W hc
  have KA := fun W => P.all_ok c W hc
  have KN : ∀ gh W, Calls Try.prog 9 #[c.v, .slice none 0 0, .bool gh] W (Born c 0 [] gh W) := fun gh W => new_ok c _ gh 0 [] W hc (fun W' _ => F.new_nil W')
  have HC := Lib.hid hc
  have HO := Lib.hid hO
  clear hc hO
  go_enter Try.func4, Try.ntmps4
  go_wp2_with fail
  refine (KR _).mono ?_
  rintro e V ⟨rfl, hb⟩
  obtain ⟨hB, h0⟩ := P.boxed c hb
  clear hb KR
  obtain ⟨p0, p1, p2, p3, p4, p5, p6⟩ := hB.conf
  generalize hCb : w.heap.size = Cb at *
  go_wp2_with fail
  refine (KN true _).mono ?_
  rintro e V1 ⟨Cb1, Pb1, B, Fb, T, ad, cap1, gs, O, rfl, hgs, hA⟩
  have hgs' : ∃ g t, gs = some (g, t, ghost0 c) := hgs
  obtain ⟨g, t, rfl⟩ := hgs'
  have hb1 := hA.bel
  have hm1 := hA.mach
  have hB1 := hB.below hb1 hB.lt
  have h01 := P.below_then h0 hb1 (Nat.le_of_eq hCb.symm)
  have hlow := hA.low
  have hV := h0.size
  clear hA hgs hB h0 p0 p1 p2 p3 p4 p5 p6 hb1
  obtain ⟨p0, p1, p2, p3, p4, p5, p6⟩ := hB1.conf
  go_wp2_with fail
  refine (KN false _).mono ?_
  rintro e V2 ⟨Cb2, Pb2, B2, F2, T2, ad2, cap2', gs2, O2, rfl, hgs, hA⟩
  obtain rfl : gs2 = none := hgs
  have hb1 := hA.bel
  have hm2 := hA.mach
  have hB2 := hB1.below hb1 hB1.lt
  have h02 := P.below_then h01 hb1 (Nat.le_of_eq hCb.symm)
  have hlow2 := hA.low
  have hm1' := hm1.below hb1
  have hlt1 : ∀ k, O k → k < V1.heap.size := fun k hk => hm1.lt hk
  have hV1 := h01.size
  clear hA hB1 h01 p0 p1 p2 p3 p4 p5 p6 hb1 KN hm1
  have K21 : Calls Try.prog 21 #[at0 B2] V2 fun e w' => e = .returned (.pointer none) ∧ V2 = w' := by
    obtain ⟨M, Om, hO, hb, hm, hg⟩ := hm2
    exact ghost_any B2 M c _ F2 T2 _ false V2 hb
  obtain ⟨p0, p1, p2, p3, p4, p5, p6⟩ := hB2.conf
  go_wp2_with fail
  refine K21.mono ?_
  rintro e v3 ⟨rfl, rfl⟩
  clear K21
  go_wp2_with fail
  refine (KF _).mono ?_
  rintro e V3 ⟨wg, cp, n0, rfl, ho, hc1, hc2, hb, hwg⟩
  have hB3 := hB2.below hb hB2.lt
  have h03 := P.below_then h02 hb (Nat.le_of_eq hCb.symm)
  have hm13 := hm1'.below hb
  have hm23 := hm2.below hb
  have hlt13 : ∀ k, O k → k < V2.heap.size := fun k hk => hm1'.lt hk
  have hlt23 : ∀ k, O2 k → k < V2.heap.size := fun k hk => hm2.lt hk
  clear hm1' hm2 hB2 h02 hb p0 p1 p2 p3 p4 p5 p6 KF
  obtain ⟨p0, p1, p2, p3, p4, p5, p6⟩ := hB3.conf
  go_wp2_with fail
  refine (KA _).mono ?_
  rintro e V4 ⟨v, rfl, hp, hb⟩
  have hst := HC.out.steps
  obtain ⟨pg, pcp, rfl, -⟩ : ∃ pg pcp, v = .slice (some ⟨pg, 0, none⟩) c.size.toNat pcp ∧ True := by
    rcases hp.2 with ⟨rfl, hz⟩ | ⟨g, cp, cur, rfl, _⟩
    · omega
    · exact ⟨g, cp, rfl, trivial⟩
  have hG : Good c w Cb B Fb T B2 F2 T2 pg pcp g t wg cp 0 #[] (firstMS c) (firstMS c) (ghost0 c) false false 100 V4 := by
    subst hCb
    refine ⟨⟨hB3.below hb hB3.lt, P.below_then h03 hb (Nat.le_refl _), ⟨O, O2, hm13.below hb, hm23.below hb, ?_, ?_, ?_, ?_, ?_⟩, ⟨n0, ?_⟩, ⟨_, hp⟩, .inl rfl⟩, ghost0_ok c, rfl, (first_calm HC.out).mono (by omega), (first_calm HC.out).mono (by omega)⟩
    · intro k hk; have := hlow k hk; omega
    · intro k hk; have := hlow2 k hk; omega
    · intro k hk hk2; have := hlow2 k hk2; have := hlt1 k hk; omega
    · intro hk; have := hlt13 wg hk; omega
    · intro hk; have := hlt23 wg hk; omega
    · rw [first_list HC.out]
      exact row_agree ho fun k e => hb.block k (ho.lt k e).2
  have HG := Lib.hid hG
  clear hG hp hb hB3 h03 hm13 hm23 hlt13 hlt23 hlow hlow2 hlt1 hV hV1 ho hwg p0 p1 p2 p3 p4 p5 p6 KA hst hc1 hc2
  obtain ⟨sz, hsz⟩ : ∃ sz, c.size.toNat = sz := ⟨_, rfl⟩
  have hsz1 : 8 ≤ sz ∧ sz ≤ 924 := by have := HC.out.steps; omega
  have HSZ := Lib.hid hsz
  rw [hsz]
  clear hsz
  go_wp2_with fail
  go_loopw [9, 11, 12, 13] (fun s9 s11 s12 s13 wr => ∃ (k wg cp Ob : Nat) (oc : Array Value) (ms ms2 : MS) (s : G.GS) (bad touched : Bool), k ≤ n ∧ s9 = .slice (some ⟨wg, 0, none⟩) sz cp ∧ s11 = .bool bad ∧ s12 = .bool touched ∧ s13 = .int .i64 k ∧ Hid (Good c w Cb B Fb T B2 F2 T2 pg pcp g t wg cp Ob oc ms ms2 s bad touched (100 + k) wr)) (fun _ _ _ s13 _ => n - (intOf s13).toNat)
  case atStart => exact ⟨0, wg, cp, 0, #[], _, _, _, false, false, by omega, rfl, rfl, rfl, rfl, HG⟩
  case round =>
    obtain ⟨k, wg, cp, Ob, oc, ms, ms2, s, bad, touched, hk, rfl, rfl, rfl, rfl, HR⟩ := hrel
    clear HG
    by_cases hlt : k < n
    · obtain ⟨bb, off, rfl, y0, y1, y2, y3, y4, y5, y6, ya, yb⟩ := (HO.out.below HR.out.core.bel) k hlt
      obtain ⟨d, hd⟩ : ∃ d, D k = d := ⟨_, rfl⟩
      rw [hd] at y0 y1 y2 y3 y4 y5 y6 ya yb
      clear hd
      have HR1 := Lib.hid (HR.out.deed (ocs d))
      obtain ⟨dk, da, db, d4, d5, d6, d7⟩ := d
      simp only at y0 y1 y2 y3 y4 y5 y6 ya yb
      have YA := Lib.hid ya
      have YB := Lib.hid yb
      clear ya yb HR
      by_cases hk0 : dk < 0
      · go_wp2
        go_roundw
        case rel => exact ⟨k + 1, wg, cp, _, _, ms, ms2, s, bad, touched, by omega, rfl, rfl, rfl, by go_num, Lib.hid ⟨HR1.out.core, HR1.out.gs, HR1.out.ws, HR1.out.c1.mono (by omega), HR1.out.c2.mono (by omega)⟩⟩
        case measure => simp [intOf]; omega
      by_cases hk5 : 5 < dk
      · go_wp2
        go_roundw
        case rel => exact ⟨k + 1, wg, cp, _, _, ms, ms2, s, bad, touched, by omega, rfl, rfl, rfl, by go_num, Lib.hid ⟨HR1.out.core, HR1.out.gs, HR1.out.ws, HR1.out.c1.mono (by omega), HR1.out.c2.mono (by omega)⟩⟩
        case measure => simp [intOf]; omega
      go_wp2_with fail
      generalize hOb : wr.heap.size = Ob1 at *
      generalize wr.alloc (.cells (ocs ⟨dk, da, db, d4, d5, d6, d7⟩) 63) = W1 at *
      clear y0 y1 y2 y3 y4 y5 y6 hOb
      go_loopw [12, 15] (fun s12 s15 wr => ∃ j : Nat, j ≤ 2 ∧ s15 = .int .i64 j ∧ s12 = .bool (tj c touched dk da db j) ∧ Hid (Good c w Cb B Fb T B2 F2 T2 pg pcp g t wg cp Ob1 (ocs ⟨dk, da, db, d4, d5, d6, d7⟩) ms ms2 s bad touched (100 + k) wr)) (fun _ s15 _ => 2 - (intOf s15).toNat)
      case atStart => exact ⟨0, by omega, rfl, rfl, HR1⟩
      case round =>
        obtain ⟨j, hj, rfl, rfl, HR2⟩ := hrel
        clear HR1
        have c0 : wr.cell? ⟨Ob1, 0, none⟩ = some (.int .i64 dk) := HR2.out.core.cells (by simp) 0
        have c1 : wr.cell? ⟨Ob1, 1, none⟩ = some (.int .i64 da) := HR2.out.core.cells (by simp) 1
        have c2 : wr.cell? ⟨Ob1, 2, none⟩ = some (.int .i64 db) := HR2.out.core.cells (by simp) 2
        obtain ⟨a0, a1, a2, a3, a4, a5, a6⟩ := HR2.out.core.cf.conf
        have hr2 := HR2.out.core.room
        rw [HSZ.out] at hr2
        rcases (by omega : j = 0 ∨ j = 1 ∨ j = 2) with rfl | rfl | rfl
        · generalize ht0 : tj c touched dk da db 0 = t0 at *
          have HT0 := Lib.hid ht0
          clear ht0
          go_upto_region 23 with fail
          obtain ⟨bv, hbv⟩ : ∃ bv, bv = hit c da := ⟨_, rfl⟩
          have HBV := Lib.hid hbv
          have HTJ : Hid (tj c touched dk da db 1 = (t0 || bv)) := Lib.hid (by rw [hbv, ← HT0.out]; rfl)
          clear hbv
          go_cut [122] from 88 to 122 (fun s122 wx => s122 = .bool bv ∧ Hid (Good c w Cb B Fb T B2 F2 T2 pg pcp g t wg cp Ob1 (ocs ⟨dk, da, db, d4, d5, d6, d7⟩) ms ms2 s bad touched (100 + k) wx))
          case first =>
            clear HTJ HT0
            repeat (rename (∀ (a : Act) (w_1 : World), Code.wp Try.prog _ _ a w_1 → _) => hK1; clear hK1)
            by_cases hx0 : 0 ≤ da
            · by_cases hx1 : da < sz
              · obtain ⟨i, hi⟩ : ∃ i : Nat, da = i := ⟨da.toNat, by omega⟩
                have hisz : i < sz := by omega
                obtain ⟨z0, z1⟩ := HR2.out.core.place (i := i) (by rw [HSZ.out]; exact hisz)
                obtain ⟨u, y, zz, hpl⟩ : ∃ u y zz, c.place (i : Int) = (u, y, zz) := ⟨_, _, _, rfl⟩
                rw [hpl] at z0 z1
                simp only at z0 z1
                have HIT : Hid (hit c da = (decide (u = 3) && decide (P.sent c.al < y))) := Lib.hid (by rw [hi]; unfold hit; rw [hpl])
                clear hpl
                subst hi
                by_cases hu : u = 3
                · subst hu
                  obtain rfl : bv = decide (P.sent c.al < y) := by rw [HBV.out, HIT.out]; simp
                  clear HIT
                  have kc0 := cell_regrown (w := wr) c0
                  have kz0 := cell_regrown (w := wr) z0
                  have kz1 := cell_regrown (w := wr) z1
                  have ka0 := cell_regrown (w := wr) a0
                  have ka1 := cell_regrown (w := wr) a1
                  have ka2 := cell_regrown (w := wr) a2
                  have ka3 := cell_regrown (w := wr) a3
                  have ka4 := cell_regrown (w := wr) a4
                  have ka5 := cell_regrown (w := wr) a5
                  have ka6 := cell_regrown (w := wr) a6
                  have K20 := fun d os => ans_call (KS (grow (redrawn wr d) os))
                  clear HBV c0 c1 c2 a0 a1 a2 a3 a4 a5 a6
                  generalize P.sent c.al = sd at *
                  refine wp_region_quiet_below (by kernel_rfl) (by kernel_rfl) ?_
                  repeat (go_big_quiet_step (first | exact K20 _ _))
                  refine wpQuiet_nil ?_
                  intro _ hw'
                  obtain ⟨⟨dq, osq⟩, hw''⟩ := hw'
                  subst hw''
                  go_wp2_with fail
                  go_meet
                  exact ⟨rfl, Lib.hid (HR2.out.below (below_regrown _ dq osq))⟩
                · obtain rfl : bv = false := by rw [HBV.out, HIT.out]; simp [hu]
                  have hu' : (u == 3) = false := by simpa using hu
                  clear HIT
                  have kc0 := cell_regrown (w := wr) c0
                  have kz0 := cell_regrown (w := wr) z0
                  have K20 := fun d os => ans_call (KS (grow (redrawn wr d) os))
                  clear HBV c0 c1 c2 a0 a1 a2 a3 a4 a5 a6
                  generalize P.sent c.al = sd at *
                  refine wp_region_quiet_below (by kernel_rfl) (by kernel_rfl) ?_
                  repeat (go_big_quiet_step (first | exact K20 _ _))
                  refine wpQuiet_nil ?_
                  intro _ hw'
                  obtain ⟨⟨dq, osq⟩, hw''⟩ := hw'
                  subst hw''
                  go_wp2_with fail
                  go_meet
                  exact ⟨rfl, Lib.hid (HR2.out.below (below_regrown _ dq osq))⟩
              · obtain rfl : bv = false := by rw [HBV.out, hit_out HC.out (by have := HSZ.out; omega)] <;> simp
                have kc0 := cell_regrown (w := wr) c0
                have K20 := fun d os => ans_call (KS (grow (redrawn wr d) os))
                clear HBV c0 c1 c2 a0 a1 a2 a3 a4 a5 a6
                generalize P.sent c.al = sd at *
                refine wp_region_quiet_below (by kernel_rfl) (by kernel_rfl) ?_
                repeat (go_big_quiet_step (first | exact K20 _ _))
                refine wpQuiet_nil ?_
                intro _ hw'
                obtain ⟨⟨dq, osq⟩, hw''⟩ := hw'
                subst hw''
                go_wp2_with fail
                go_meet
                exact ⟨rfl, Lib.hid (HR2.out.below (below_regrown _ dq osq))⟩
            · obtain rfl : bv = false := by rw [HBV.out, hit_out HC.out (by have := HSZ.out; omega)] <;> simp
              have kc0 := cell_regrown (w := wr) c0
              have K20 := fun d os => ans_call (KS (grow (redrawn wr d) os))
              clear HBV c0 c1 c2 a0 a1 a2 a3 a4 a5 a6
              generalize P.sent c.al = sd at *
              refine wp_region_quiet_below (by kernel_rfl) (by kernel_rfl) ?_
              repeat (go_big_quiet_step (first | exact K20 _ _))
              refine wpQuiet_nil ?_
              intro _ hw'
              obtain ⟨⟨dq, osq⟩, hw''⟩ := hw'
              subst hw''
              go_wp2_with fail
              go_meet
              exact ⟨rfl, Lib.hid (HR2.out.below (below_regrown _ dq osq))⟩
          case rest =>
            obtain ⟨rfl, HR3⟩ := hcut
            clear HR2 HBV c0 c1 c2 a0 a1 a2 a3 a4 a5 a6
            cases bv with
            | true =>
              have HT2 : Hid (tj c touched dk da db 1 = true) := Lib.hid (by rw [HTJ.out]; simp)
              clear HTJ
              go_wp2
              go_roundw
              case rel => exact ⟨1, by omega, by go_num, congrArg Value.bool HT2.out.symm, HR3⟩
              case measure => first | (simp [intOf]; done) | (simp [intOf]; omega)
            | false =>
              have HT2 : Hid (tj c touched dk da db 1 = t0) := Lib.hid (by rw [HTJ.out]; simp)
              clear HTJ
              go_wp2
              go_roundw
              case rel => exact ⟨1, by omega, by go_num, congrArg Value.bool HT2.out.symm, HR3⟩
              case measure => first | (simp [intOf]; done) | (simp [intOf]; omega)
        · generalize ht0 : tj c touched dk da db 1 = t0 at *
          have HT0 := Lib.hid ht0
          clear ht0
          go_upto_region 23 with fail
          obtain ⟨bv, hbv⟩ : ∃ bv, bv = (decide (3 < dk) && hit c db) := ⟨_, rfl⟩
          have HBV := Lib.hid hbv
          have HTJ : Hid (tj c touched dk da db 2 = (t0 || bv)) := Lib.hid (by rw [hbv, ← HT0.out]; unfold tj hits; simp [Bool.or_assoc])
          clear hbv
          go_cut [122] from 88 to 122 (fun s122 wx => s122 = .bool bv ∧ Hid (Good c w Cb B Fb T B2 F2 T2 pg pcp g t wg cp Ob1 (ocs ⟨dk, da, db, d4, d5, d6, d7⟩) ms ms2 s bad touched (100 + k) wx))
          case first =>
            clear HTJ HT0
            repeat (rename (∀ (a : Act) (w_1 : World), Code.wp Try.prog _ _ a w_1 → _) => hK1; clear hK1)
            by_cases hx0 : 0 ≤ db
            · by_cases hx1 : db < sz
              · obtain ⟨i, hi⟩ : ∃ i : Nat, db = i := ⟨db.toNat, by omega⟩
                have hisz : i < sz := by omega
                obtain ⟨z0, z1⟩ := HR2.out.core.place (i := i) (by rw [HSZ.out]; exact hisz)
                obtain ⟨u, y, zz, hpl⟩ : ∃ u y zz, c.place (i : Int) = (u, y, zz) := ⟨_, _, _, rfl⟩
                rw [hpl] at z0 z1
                simp only at z0 z1
                have HIT : Hid (hit c db = (decide (u = 3) && decide (P.sent c.al < y))) := Lib.hid (by rw [hi]; unfold hit; rw [hpl])
                clear hpl
                subst hi
                by_cases h3 : 3 < dk
                · skip
                  by_cases hu : u = 3
                  · subst hu
                    obtain rfl : bv = decide (P.sent c.al < y) := by rw [HBV.out, HIT.out]; simp [h3]
                    clear HIT
                    have kc0 := cell_regrown (w := wr) c0
                    have kz0 := cell_regrown (w := wr) z0
                    have kz1 := cell_regrown (w := wr) z1
                    have ka0 := cell_regrown (w := wr) a0
                    have ka1 := cell_regrown (w := wr) a1
                    have ka2 := cell_regrown (w := wr) a2
                    have ka3 := cell_regrown (w := wr) a3
                    have ka4 := cell_regrown (w := wr) a4
                    have ka5 := cell_regrown (w := wr) a5
                    have ka6 := cell_regrown (w := wr) a6
                    have K20 := fun d os => ans_call (KS (grow (redrawn wr d) os))
                    clear HBV c0 c1 c2 a0 a1 a2 a3 a4 a5 a6
                    generalize P.sent c.al = sd at *
                    refine wp_region_quiet_below (by kernel_rfl) (by kernel_rfl) ?_
                    repeat (go_big_quiet_step (first | exact K20 _ _))
                    refine wpQuiet_nil ?_
                    intro _ hw'
                    obtain ⟨⟨dq, osq⟩, hw''⟩ := hw'
                    subst hw''
                    go_wp2_with fail
                    go_meet
                    exact ⟨rfl, Lib.hid (HR2.out.below (below_regrown _ dq osq))⟩
                  · obtain rfl : bv = false := by rw [HBV.out, HIT.out]; simp [hu]
                    have hu' : (u == 3) = false := by simpa using hu
                    clear HIT
                    have kc0 := cell_regrown (w := wr) c0
                    have kz0 := cell_regrown (w := wr) z0
                    have K20 := fun d os => ans_call (KS (grow (redrawn wr d) os))
                    clear HBV c0 c1 c2 a0 a1 a2 a3 a4 a5 a6
                    generalize P.sent c.al = sd at *
                    refine wp_region_quiet_below (by kernel_rfl) (by kernel_rfl) ?_
                    repeat (go_big_quiet_step (first | exact K20 _ _))
                    refine wpQuiet_nil ?_
                    intro _ hw'
                    obtain ⟨⟨dq, osq⟩, hw''⟩ := hw'
                    subst hw''
                    go_wp2_with fail
                    go_meet
                    exact ⟨rfl, Lib.hid (HR2.out.below (below_regrown _ dq osq))⟩
                · obtain rfl : bv = false := by rw [HBV.out]; simp [h3]
                  clear HIT z0 z1
                  have kc0 := cell_regrown (w := wr) c0
                  have K20 := fun d os => ans_call (KS (grow (redrawn wr d) os))
                  clear HBV c0 c1 c2 a0 a1 a2 a3 a4 a5 a6
                  generalize P.sent c.al = sd at *
                  refine wp_region_quiet_below (by kernel_rfl) (by kernel_rfl) ?_
                  repeat (go_big_quiet_step (first | exact K20 _ _))
                  refine wpQuiet_nil ?_
                  intro _ hw'
                  obtain ⟨⟨dq, osq⟩, hw''⟩ := hw'
                  subst hw''
                  go_wp2_with fail
                  go_meet
                  exact ⟨rfl, Lib.hid (HR2.out.below (below_regrown _ dq osq))⟩
              · obtain rfl : bv = false := by rw [HBV.out, hit_out HC.out (by have := HSZ.out; omega)] <;> simp
                have kc0 := cell_regrown (w := wr) c0
                have K20 := fun d os => ans_call (KS (grow (redrawn wr d) os))
                clear HBV c0 c1 c2 a0 a1 a2 a3 a4 a5 a6
                generalize P.sent c.al = sd at *
                refine wp_region_quiet_below (by kernel_rfl) (by kernel_rfl) ?_
                repeat (go_big_quiet_step (first | exact K20 _ _))
                refine wpQuiet_nil ?_
                intro _ hw'
                obtain ⟨⟨dq, osq⟩, hw''⟩ := hw'
                subst hw''
                go_wp2_with fail
                go_meet
                exact ⟨rfl, Lib.hid (HR2.out.below (below_regrown _ dq osq))⟩
            · obtain rfl : bv = false := by rw [HBV.out, hit_out HC.out (by have := HSZ.out; omega)] <;> simp
              have kc0 := cell_regrown (w := wr) c0
              have K20 := fun d os => ans_call (KS (grow (redrawn wr d) os))
              clear HBV c0 c1 c2 a0 a1 a2 a3 a4 a5 a6
              generalize P.sent c.al = sd at *
              refine wp_region_quiet_below (by kernel_rfl) (by kernel_rfl) ?_
              repeat (go_big_quiet_step (first | exact K20 _ _))
              refine wpQuiet_nil ?_
              intro _ hw'
              obtain ⟨⟨dq, osq⟩, hw''⟩ := hw'
              subst hw''
              go_wp2_with fail
              go_meet
              exact ⟨rfl, Lib.hid (HR2.out.below (below_regrown _ dq osq))⟩
          case rest =>
            obtain ⟨rfl, HR3⟩ := hcut
            clear HR2 HBV c0 c1 c2 a0 a1 a2 a3 a4 a5 a6
            cases bv with
            | true =>
              have HT2 : Hid (tj c touched dk da db 2 = true) := Lib.hid (by rw [HTJ.out]; simp)
              clear HTJ
              go_wp2
              go_roundw
              case rel => exact ⟨2, by omega, by go_num, congrArg Value.bool HT2.out.symm, HR3⟩
              case measure => first | (simp [intOf]; done) | (simp [intOf]; omega)
            | false =>
              have HT2 : Hid (tj c touched dk da db 2 = t0) := Lib.hid (by rw [HTJ.out]; simp)
              clear HTJ
              go_wp2
              go_roundw
              case rel => exact ⟨2, by omega, by go_num, congrArg Value.bool HT2.out.symm, HR3⟩
              case measure => first | (simp [intOf]; done) | (simp [intOf]; omega)
        · have c3 : wr.cell? ⟨Ob1, 3, none⟩ = some (.int .u64 d4) := HR2.out.core.cells (by simp) 3
          have c4 : wr.cell? ⟨Ob1, 4, none⟩ = some (.int .u64 d5) := HR2.out.core.cells (by simp) 4
          have c5 : wr.cell? ⟨Ob1, 5, none⟩ = some (.int .u64 d6) := HR2.out.core.cells (by simp) 5
          have c6 : wr.cell? ⟨Ob1, 6, none⟩ = some (.int .u64 d7) := HR2.out.core.cells (by simp) 6
          have hl1 : ms.ws.length = sz := by rw [← HSZ.out]; exact HR2.out.c1.len
          have hl2 : ms2.ws.length = sz := by rw [← HSZ.out]; exact HR2.out.c2.len
          have K1 := HR2.out.core.one (K := 26) (fun O h => do_any B c Fb T ms (some (g, t, s)) bad O dk da db d4 d5 d6 d7 wr HC.out h (HR2.out.c1.fine (by rw [HSZ.out]; omega) (by omega)) YA.out YB.out (by omega) (by omega))
          rw [hl1] at K1
          have HTJ : Hid (tj c touched dk da db 2 = (touched || hits c dk da db)) := Lib.hid rfl
          have HL1 := Lib.hid hl1
          have HL2 := Lib.hid hl2
          clear hl1 hl2 a0 a1 a2 a3 a4 a5 a6
          generalize tj c touched dk da db 2 = tt at *
          go_wp2_with fail
          refine K1.mono ?_
          rintro e v1 ⟨rfl, S1⟩
          clear K1 c0 c1 c2 c3 c4 c5 c6
          have c0 : v1.cell? ⟨Ob1, 0, none⟩ = some (.int .i64 dk) := S1.cells (by simp) 0
          have c1 : v1.cell? ⟨Ob1, 1, none⟩ = some (.int .i64 da) := S1.cells (by simp) 1
          have c2 : v1.cell? ⟨Ob1, 2, none⟩ = some (.int .i64 db) := S1.cells (by simp) 2
          have c3 : v1.cell? ⟨Ob1, 3, none⟩ = some (.int .u64 d4) := S1.cells (by simp) 3
          have c4 : v1.cell? ⟨Ob1, 4, none⟩ = some (.int .u64 d5) := S1.cells (by simp) 4
          have c5 : v1.cell? ⟨Ob1, 5, none⟩ = some (.int .u64 d6) := S1.cells (by simp) 5
          have c6 : v1.cell? ⟨Ob1, 6, none⟩ = some (.int .u64 d7) := S1.cells (by simp) 6
          have K2 := S1.two (K := 26) (fun O h => do_any B2 c F2 T2 ms2 none bad O dk da db d4 d5 d6 d7 v1 HC.out h (HR2.out.c2.fine (by rw [HSZ.out]; omega) (by omega)) YA.out YB.out (by omega) (by omega))
          rw [HL2.out] at K2
          clear S1
          go_wp2_with fail
          refine K2.mono ?_
          rintro e v2 ⟨rfl, S2⟩
          clear K2 c0 c1 c2 c3 c4 c5 c6
          have c0 : v2.cell? ⟨Ob1, 0, none⟩ = some (.int .i64 dk) := S2.cells (by simp) 0
          have c1 : v2.cell? ⟨Ob1, 1, none⟩ = some (.int .i64 da) := S2.cells (by simp) 1
          have c2 : v2.cell? ⟨Ob1, 2, none⟩ = some (.int .i64 db) := S2.cells (by simp) 2
          have c3 : v2.cell? ⟨Ob1, 3, none⟩ = some (.int .u64 d4) := S2.cells (by simp) 3
          have c4 : v2.cell? ⟨Ob1, 4, none⟩ = some (.int .u64 d5) := S2.cells (by simp) 4
          have c5 : v2.cell? ⟨Ob1, 5, none⟩ = some (.int .u64 d6) := S2.cells (by simp) 5
          have c6 : v2.cell? ⟨Ob1, 6, none⟩ = some (.int .u64 d7) := S2.cells (by simp) 6
          have HVV : Hid (valR ms2 dk da db d4 d5 d6 d7 = valR ms dk da db d4 d5 d6 d7 ∧ okD ms2 dk da db d4 d5 d6 d7 = okD ms dk da db d4 d5 d6 d7 ∧ (msR ms2 dk da db d4 d5 d6 d7).ws = (msR ms dk da db d4 d5 d6 d7).ws) := Lib.hid (by
            have hw := HR2.out.ws
            refine ⟨by unfold valR; rw [hw], by unfold okD okR; rw [hw], ?_⟩
            unfold msR
            rw [hw]
            split <;> simp [MS.counted, hw])
          rw [HVV.out.1, HVV.out.2.1]
          have hgs' := touches_ok HC.out HR2.out.gs dk da db
          have HGS : Hid (GsOk c ((addrs dk da db).foldl (touchG c) s) tt) := Lib.hid (by rw [HTJ.out]; exact hgs')
          have HF1 : Hid (gBad (some (g, t, (addrs dk da db).foldl (touchG c) s)) = tt) := Lib.hid (by
            have := HGS.out.2
            show (!decide (((addrs dk da db).foldl (touchG c) s).k = 0)) = tt
            rw [this]; simp)
          have hsn : touchM c (addrs dk da db) (some (g, t, s)) = some (g, t, (addrs dk da db).foldl (touchG c) s) := rfl
          rw [hsn] at S2
          have HC1 := Lib.hid (HR2.out.c1.msR dk da db d4 d5 d6 d7)
          have HC2 := Lib.hid (HR2.out.c2.msR dk da db d4 d5 d6 d7)
          clear hgs' hsn HTJ
          generalize hs' : (addrs dk da db).foldl (touchG c) s = s' at *
          clear hs'
          have K3 := right_any dk da db d4 d5 d6 d7 sz v2
          go_wp2_with fail
          refine K3.mono ?_
          rintro e v3 ⟨rfl, hb3⟩
          have S3 := S2.below hb3
          clear K3 S2 hb3 c0 c1 c2 c3 c4 c5 c6
          have c0 : v3.cell? ⟨Ob1, 0, none⟩ = some (.int .i64 dk) := S3.cells (by simp) 0
          have c1 : v3.cell? ⟨Ob1, 1, none⟩ = some (.int .i64 da) := S3.cells (by simp) 1
          have c2 : v3.cell? ⟨Ob1, 2, none⟩ = some (.int .i64 db) := S3.cells (by simp) 2
          have c3 : v3.cell? ⟨Ob1, 3, none⟩ = some (.int .u64 d4) := S3.cells (by simp) 3
          have c4 : v3.cell? ⟨Ob1, 4, none⟩ = some (.int .u64 d5) := S3.cells (by simp) 4
          have c5 : v3.cell? ⟨Ob1, 5, none⟩ = some (.int .u64 d6) := S3.cells (by simp) 5
          have c6 : v3.cell? ⟨Ob1, 6, none⟩ = some (.int .u64 d7) := S3.cells (by simp) 6
          cases hR : rightB dk da db sz with
          | false =>
            rw [hR] at S3
            have em : msR ms dk da db d4 d5 d6 d7 = ms := by unfold msR; rw [HL1.out, hR]; rfl
            have em2 : msR ms2 dk da db d4 d5 d6 d7 = ms2 := by unfold msR; rw [HL2.out, hR]; rfl
            rw [em, em2] at S3
            have HWS := Lib.hid HR2.out.ws
            have HD1 := Lib.hid (HR2.out.c1.mono (s' := 100 + (k + 1)) (by omega))
            have HD2 := Lib.hid (HR2.out.c2.mono (s' := 100 + (k + 1)) (by omega))
            have S4 : StS c w Cb B Fb T B2 F2 T2 wg cp pg pcp Ob1 (ocs ⟨dk, da, db, d4, d5, d6, d7⟩) ms ms2 (some (g, t, s')) true true ms.ws v3 := by simpa using S3
            clear S3 em em2 hR HVV HC1 HC2 c0 c1 c2 c3 c4 c5 c6
            generalize valR ms dk da db d4 d5 d6 d7 = vv at *
            generalize okD ms dk da db d4 d5 d6 d7 = oo at *
            have KF1 := S4.fault1
            go_wp2_with fail
            refine KF1.mono ?_
            rintro e v4 ⟨rfl, S5⟩
            have KF2 := S5.fault2
            clear KF1 S4 S5
            simp only [Bool.true_or]
            go_wp2_with fail
            refine KF2.mono ?_
            rintro e v5 ⟨rfl, S6⟩
            have HS6 := Lib.hid S6
            clear KF2 S6
            go_wp2
            go_roundw
            case rel => exact ⟨k + 1, wg, cp, _, _, ms, ms2, s', true, tt, by omega, rfl, rfl, rfl, by go_num, Lib.hid ⟨HS6.out, HGS.out, HWS.out, HD1.out, HD2.out⟩⟩
            case measure => simp [intOf]; omega
          | true =>
            rw [hR] at S3
            have hbb : (bad || !true) = bad := by simp
            rw [hbb] at S3
            obtain ⟨a0', a1'⟩ := right_in hR
            have hbR := fun h4 => right_b hR h4
            obtain ⟨ja, rfl⟩ : ∃ ja : Nat, da = ja := ⟨da.toNat, by omega⟩
            obtain ⟨n0, hrow⟩ := S3.row
            rw [HSZ.out] at hrow
            have K4 := ref_do wg cp sz ms.ws n0 dk ja db d4 d5 d6 d7 v3 HL1.out (by omega) hrow (by omega) (by omega) (by omega) (fun h4 => ⟨(hbR h4).1, (hbR h4).2.1⟩) (fun h4 => (hbR (by omega)).2.2 h4)
            have ev : valR ms dk ja db d4 d5 d6 d7 = (act ms.ws dk ja db d4 d5 d6 d7).2.1 := by unfold valR; rw [HL1.out, hR]; rfl
            have eo : dk ≤ 1 ∨ dk = 3 ∨ okD ms dk ja db d4 d5 d6 d7 = (act ms.ws dk ja db d4 d5 d6 d7).2.2 := by
              by_cases h1 : dk ≤ 1
              · exact .inl h1
              by_cases h3 : dk = 3
              · exact .inr (.inl h3)
              refine .inr (.inr ?_)
              unfold okD okR
              rw [if_neg (by omega), HL1.out, hR]
              rfl
            have ew : (msR ms dk ja db d4 d5 d6 d7).ws = (act ms.ws dk ja db d4 d5 d6 d7).1 := by unfold msR; rw [HL1.out, hR]; rfl
            have EW := Lib.hid ew
            have EW2 := Lib.hid (HVV.out.2.2.trans ew)
            have hc12 := S3.room
            rw [HSZ.out] at hc12
            have HS3 := Lib.hid S3
            clear S3 hbb hbR hR HVV hrow ew
            rw [ev]
            clear ev
            have EO := Lib.hid eo
            clear eo
            generalize okD ms dk ja db d4 d5 d6 d7 = oo at *
            go_wp2_with fail
            refine K4.mono ?_
            rintro e v4 ⟨g', cp', rfl, hr', hb4, hg1, hg2⟩
            have S4 := HS3.out.words hb4 (g' := g') (cp' := cp') (wl' := (act ms.ws dk ja db d4 d5 d6 d7).1) (by rw [HSZ.out]; exact hr')
            have c0' : v4.cell? ⟨Ob1, 0, none⟩ = some (.int .i64 dk) := S4.cells (by simp) 0
            have HS4 := Lib.hid S4
            clear K4 HS3 hr' hb4 S4 c0 c1 c2 c3 c4 c5 c6
            generalize (act ms.ws dk ja db d4 d5 d6 d7).2.1 = vv at *
            generalize (act ms.ws dk ja db d4 d5 d6 d7).2.2 = dn at *
            go_upto_region 31 with fail
            go_cut [175] from 148 to 175 (fun s175 wx => s175 = .bool false ∧ Hid (v4 = wx))
            case first =>
              by_cases h1 : dk ≤ 1
              · have h1' : ¬ 1 < dk := by omega
                go_wp2
                go_meet
                exact ⟨rfl, Lib.hid rfl⟩
              · have h1' : 1 < dk := by omega
                by_cases h3 : dk = 3
                · subst h3
                  go_wp2
                  go_meet
                  exact ⟨rfl, Lib.hid rfl⟩
                · have h3' : (dk == 3) = false := by simpa using h3
                  obtain rfl : oo = dn := by
                    rcases EO.out with h | h | h
                    · exact absurd h h1
                    · exact absurd h h3
                    · exact h
                  clear EO
                  cases oo <;>
                  · go_wp2
                    go_meet
                    exact ⟨rfl, Lib.hid rfl⟩
            case rest =>
              obtain ⟨rfl, hw4⟩ := hcut
              obtain rfl := hw4.out
              clear hw4 c0' EO
              have KF1 := HS4.out.fault1
              rw [HF1.out] at KF1
              have HX : Hid (∀ {W : World}, StS c w Cb B Fb T B2 F2 T2 g' cp' pg pcp Ob1 (ocs ⟨dk, ja, db, d4, d5, d6, d7⟩) (msR ms dk ja db d4 d5 d6 d7) (msR ms2 dk ja db d4 d5 d6 d7) (some (g, t, s')) bad bad (act ms.ws dk ja db d4 d5 d6 d7).1 W → Good c w Cb B Fb T B2 F2 T2 pg pcp g t g' cp' Ob1 (ocs ⟨dk, ja, db, d4, d5, d6, d7⟩) (msR ms dk ja db d4 d5 d6 d7) (msR ms2 dk ja db d4 d5 d6 d7) s' bad tt (100 + (k + 1)) W) := Lib.hid fun h =>
                ⟨by rw [EW.out]; exact h, HGS.out, by rw [EW2.out, EW.out], HC1.out, HC2.out⟩
              clear HC1 HC2 HGS HF1 EW EW2 HL1 HL2 HR2
              generalize msR ms dk ja db d4 d5 d6 d7 = msA at *
              generalize msR ms2 dk ja db d4 d5 d6 d7 = msB at *
              generalize (act ms.ws dk ja db d4 d5 d6 d7).1 = wlA at *
              cases bad <;> cases tt <;>
              · simp only [Bool.or_false, Bool.or_true, Bool.false_or, Bool.true_or] at KF1
                go_wp2_with fail
                refine KF1.mono ?_
                rintro e v5 ⟨rfl, S5⟩
                have KF2 := S5.fault2
                clear KF1 S5 HS4
                go_wp2_with fail
                refine KF2.mono ?_
                rintro e v6 ⟨rfl, S6⟩
                have HS6 := Lib.hid (HX.out S6)
                clear KF2 S6 HX
                go_wp2
                go_roundw
                case rel => exact ⟨k + 1, g', cp', _, _, msA, msB, s', _, _, by omega, rfl, rfl, rfl, by go_num, HS6⟩
                case measure => simp [intOf]; omega
    · have hkn : k = n := by omega
      subst hkn
      have hl1 : ms.ws.length = sz := by rw [← HSZ.out]; exact HR.out.c1.len
      have hl2 : ms2.ws.length = sz := by rw [← HSZ.out]; exact HR.out.c2.len
      obtain ⟨M, K12, K13⟩ := HR.out.core.copyOne (by omega) (by omega)
      rw [hl1] at K13
      have HW := Lib.hid HR.out.ws
      have HCo := Lib.hid HR.out.core
      have HL1 := Lib.hid hl1
      have HL2 := Lib.hid hl2
      clear HR hl1 hl2
      go_wp2_with fail
      refine K12.mono ?_
      rintro e v1 ⟨rfl, rfl⟩
      clear K12
      go_wp2_with fail
      refine K13.mono ?_
      rintro e v1 ⟨g1, cp1, m1, rfl, ho1, hc1, hd1, hb1, hg1⟩
      have S1 := HCo.out.below hb1
      obtain ⟨n0, hrow⟩ := S1.row
      have hroom := S1.room
      rw [HSZ.out] at hrow hroom
      have KW := words_same g1 cp1 wg cp sz m1 n0 ms.ws v1 HL1.out (by omega) ho1 hrow hc1 hd1 hroom.1 hroom.2.1
      clear K13 HCo hrow ho1 hb1
      go_wp2_with fail
      refine KW.mono ?_
      rintro e v2 ⟨rfl, hb2⟩
      have S2 := S1.below hb2
      obtain ⟨M2, K12, K13⟩ := S2.copyTwo (by rw [HL2.out]; omega) (by rw [HL2.out]; omega)
      rw [HL2.out, HW.out] at K13
      have HS2 := Lib.hid S2
      clear KW S1 S2 hb2
      go_wp2_with fail
      refine K12.mono ?_
      rintro e v3 ⟨rfl, rfl⟩
      clear K12
      go_wp2_with fail
      refine K13.mono ?_
      rintro e v3 ⟨g2, cp2, m2, rfl, ho2, hc2, hd2, hb3, hg2⟩
      have S3 := HS2.out.below hb3
      obtain ⟨n0, hrow⟩ := S3.row
      rw [HSZ.out] at hrow
      have KW := words_same g2 cp2 wg cp sz m2 n0 ms.ws v3 HL1.out (by omega) ho2 hrow hc2 hd2 hroom.1 hroom.2.1
      have HB3 := Lib.hid S3.bel
      clear K13 HS2 hrow ho2 hb3 S3
      go_wp2_with fail
      refine KW.mono ?_
      rintro e v4 ⟨rfl, hb4⟩
      have HB4 := Lib.hid (P.below_then HB3.out hb4 (Nat.le_refl _))
      clear KW hb4 HB3
      go_wp2_with fail
      refine (lives_any _).mono ?_
      rintro e v5 ⟨rfl, hb5⟩
      have HE := Lib.hid (P.below_then HB4.out hb5 (Nat.le_refl _))
      clear hb5
      go_wp2
      go_ret
      exact ⟨rfl, HE.out⟩
theorem csteps_any (c : P.Cf) (ao : Option Addr) (n cap : Nat) (D : Nat → OpT) (w : World) (hO : OpsIn w ao n D) (hr : n ≤ cap ∧ cap ≤ 9223372036854775807) :
    Calls Try.prog 4 #[c.v, .slice ao n cap] w fun e w' => e = .returned (.bool true) ∧ Below w.heap.size w w' := by
  by_cases hc : c.Ok ∧ n ≤ 60
  · exact steps_main c ao n cap D w hc.1 hO hc.2 hr
  have HL := Lib.hid lives_any
  clear hO
  by_cases h : c.Ok
  · have KR := fun W => P.right_ok c W h
    have hn : ¬ n ≤ 60 := fun hh => hc ⟨h, hh⟩
    clear h hc
    go_enter Try.func4, Try.ntmps4
    go_wp2_with fail
    refine (KR _).mono ?_
    rintro e V ⟨rfl, hb⟩
    obtain ⟨-, h0⟩ := P.boxed c hb
    have H0 := Lib.hid h0
    clear hb h0 KR
    go_wp2_with fail
    refine (HL.out _).mono ?_
    rintro e V2 ⟨rfl, hb⟩
    have HE := Lib.hid (P.below_then H0.out hb (Nat.le_refl _))
    clear hb
    go_wp2
    go_ret
    exact ⟨rfl, HE.out⟩
  · have KR := fun W => P.right_bad c W h
    clear h hc
    go_enter Try.func4, Try.ntmps4
    go_wp2_with fail
    refine (KR _).mono ?_
    rintro e V ⟨rfl, hb⟩
    obtain ⟨-, h0⟩ := P.boxed c hb
    have H0 := Lib.hid h0
    clear hb h0 KR
    go_wp2_with fail
    refine (HL.out _).mono ?_
    rintro e V2 ⟨rfl, hb⟩
    have HE := Lib.hid (P.below_then H0.out hb (Nat.le_refl _))
    clear hb
    go_wp2
    go_ret
    exact ⟨rfl, HE.out⟩
end Go.Proofs.Ytogbakgmkiiboaa
