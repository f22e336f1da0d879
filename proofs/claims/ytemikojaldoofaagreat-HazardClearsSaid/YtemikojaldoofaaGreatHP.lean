/- The law HazardProtects. -/
import Derived.Test.YtemikojaldoofaaGreatHXc
import Derived.Deep.Cut
import Derived.Deep.CutRange
import Derived.Deep.RegionWith
import Derived.Deep.QuietTactic
import Derived.BigQuiet
namespace Go.Proofs.YtemikojaldoofaaGreat
open Go.ChangeShapes Go.WideShapes Go.ChangeAt Go.RowKit
set_option linter.unusedVariables false
set_option maxRecDepth 20000
/-- Protect, alone. -/
theorem prot_run {c : P.Cf} (hc : c.Ok) {ws : List Int} {G : G.GS} {rt fn : List Int} {s a x : Int} (hl : ws.length = c.size.toNat) (s0 : 0 ≤ s) (s1 : s < c.slots) (a0 : 0 ≤ a) (a1 : a < 8) (hx : wordAt ws a.toNat = x) (hu : U64 x) :
    ∃ m o, (1 ≤ m ∧ m ≤ 2999) ∧ (∀ j, j < m → (hrun c 0 ⟨ws, G, 0, .p0 s a, rt, fn, 0⟩ j).ph.Pre c (hrun c 0 ⟨ws, G, 0, .p0 s a, rt, fn, 0⟩ j).ws (hrun c 0 ⟨ws, G, 0, .p0 s a, rt, fn, 0⟩ j).rt (hrun c 0 ⟨ws, G, 0, .p0 s a, rt, fn, 0⟩ j).fn ∧ (hrun c 0 ⟨ws, G, 0, .p0 s a, rt, fn, 0⟩ j).ws.length = c.size.toNat ∧ 0 ≤ (hrun c 0 ⟨ws, G, 0, .p0 s a, rt, fn, 0⟩ j).inc ∧ (hrun c 0 ⟨ws, G, 0, .p0 s a, rt, fn, 0⟩ j).inc ≤ 3) ∧
      hrun c 0 ⟨ws, G, 0, .p0 s a, rt, fn, 0⟩ m = o ∧ o.ph = .idle ∧ o.ret = x ∧ o.ws.length = c.size.toNat ∧ (pt x = 0 → o.inc = 1 ∧ wordAt o.ws (c.hazard 0 s).toNat = wordAt ws (c.hazard 0 s).toNat) ∧ (pt x ≠ 0 → o.inc = 3 ∧ wordAt o.ws (c.hazard 0 s).toNat = pt x) ∧ 0 ≤ o.inc ∧ o.inc ≤ 3 := by
  have hz := hc.steps
  have hth := hc.th
  have h8 := haz_at hc (k := 0) (s := s) (by omega) (by omega) s0 s1
  have hlow := haz_low hc (k := 0) (s := s) (by omega) (by omega) s0 s1
  have pb := pt_bd x
  by_cases hp : pt x = 0
  · have e1 : hrun c 0 ⟨ws, G, 0, .p0 s a, rt, fn, 0⟩ 1 = ⟨ws, G, 1, .idle, rt, fn, x⟩ := by
      rw [hrun_succ]
      simp only [hrun, Hp.step, hx, hp, if_true]
      rfl
    refine ⟨1, _, by omega, fun j hj => ?_, e1, rfl, rfl, hl, fun _ => ⟨rfl, rfl⟩, fun h => absurd hp h, by show (0 : Int) ≤ 1; decide, by show (1 : Int) ≤ 3; decide⟩
    obtain rfl : j = 0 := by omega
    exact ⟨⟨a0, by omega, by show U64 (wordAt ws a.toNat); rw [hx]; exact hu⟩, hl, by show (0 : Int) ≤ 0; decide, by show (0 : Int) ≤ 3; decide⟩
  · have e1 : hrun c 0 ⟨ws, G, 0, .p0 s a, rt, fn, 0⟩ 1 = ⟨ws, G, 1, .p1 s a x, rt, fn, 0⟩ := by
      rw [hrun_succ]
      simp only [hrun, Hp.step, hx, if_neg hp]
      rfl
    have e2 : hrun c 0 ⟨ws, G, 0, .p0 s a, rt, fn, 0⟩ 2 = ⟨ws.set (c.hazard 0 s).toNat (pt x), G, 2, .p2 s a x, rt, fn, 0⟩ := by
      rw [hrun_succ, e1]
      rfl
    have hw : wordAt (ws.set (c.hazard 0 s).toNat (pt x)) a.toNat = x := by rw [set_far _ _ _ (by omega)]; exact hx
    have e3 : hrun c 0 ⟨ws, G, 0, .p0 s a, rt, fn, 0⟩ 3 = ⟨ws.set (c.hazard 0 s).toNat (pt x), G, 3, .idle, rt, fn, x⟩ := by
      rw [hrun_succ, e2]
      simp only [Hp.step, hw]
      rw [if_pos (.inr (by first | rfl | trivial))]
      rfl
    refine ⟨3, _, by omega, fun j hj => ?_, e3, rfl, rfl, by simpa using hl, fun h => absurd h hp, fun _ => ⟨rfl, set_at _ _ (by rw [hl]; omega)⟩, by show (0 : Int) ≤ 3; decide, by show (3 : Int) ≤ 3; decide⟩
    obtain rfl | rfl | rfl : j = 0 ∨ j = 1 ∨ j = 2 := by omega
    · exact ⟨⟨a0, by omega, by show U64 (wordAt ws a.toNat); rw [hx]; exact hu⟩, hl, by show (0 : Int) ≤ 0; decide, by show (0 : Int) ≤ 3; decide⟩
    · rw [e1]; exact ⟨⟨s0, s1, hu⟩, hl, by show (0 : Int) ≤ 1; decide, by show (1 : Int) ≤ 3; decide⟩
    · rw [e2]; exact ⟨⟨a0, by omega, by rw [hw]; exact hu⟩, by simpa using hl, by show (0 : Int) ≤ 2; decide, by show (2 : Int) ≤ 3; decide⟩
theorem mod_in (a : Int) {S : Int} (h0 : 0 < S) (h1 : S ≤ 64) : -64 < a.tmod S ∧ a.tmod S < 64 ∧ IntKind.i64.wrap (a.tmod S) = a.tmod S ∧ IntKind.i64.wrap (a.tmod S + S) = a.tmod S + S ∧ IntKind.i64.wrap ((a.tmod S + S).tmod S) = (a.tmod S + S).tmod S ∧ 0 ≤ (a.tmod S + S).tmod S ∧ (a.tmod S + S).tmod S < S := by
  have h2 := Int.tmod_lt_of_pos a h0
  have h3 : -S < a.tmod S := by
    have := Int.lt_tmod_of_pos a h0
    omega
  have h4 : 0 ≤ a.tmod S + S := by omega
  have h5 := Int.tmod_nonneg S h4
  have h6 := Int.tmod_lt_of_pos (a.tmod S + S) h0
  exact ⟨by omega, by omega, IntWalk.i64_in _ (by omega), IntWalk.i64_in _ (by omega), IntWalk.i64_in _ (by omega), h5, h6⟩
/-- The cells of a configuration's box. -/
theorem conf_at {c : P.Cf} {W : World} {k : Nat} {ty : TypeId} (h : Blk W k ty c.cs) : W.cell? ⟨k, 0, none⟩ = some (.int .i64 c.al) ∧ W.cell? ⟨k, 1, none⟩ = some (.int .i64 c.th) ∧ W.cell? ⟨k, 2, none⟩ = some (.int .i64 c.nd) ∧ W.cell? ⟨k, 3, none⟩ = some (.int .i64 c.lv) ∧ W.cell? ⟨k, 4, none⟩ = some (.int .i64 c.ba) ∧ W.cell? ⟨k, 5, none⟩ = some (.int .i64 c.pr) ∧ W.cell? ⟨k, 6, none⟩ = some (.int .i64 c.sc) := P.Blk.conf (show P.Blk W k ty c.cs from h)
/-- The row that Push is handed: two numbers. -/
theorem row2 (W : World) (x y : Int) (h0 : U64 x) (h1 : U64 y) : F.Row .u64 (W.alloc (.cells #[.int .u64 x, .int .u64 y] 24)) (some ⟨W.heap.size, 0, none⟩) 2 2 [x, y] := by
  have hB : Blk (W.alloc (.cells #[.int .u64 x, .int .u64 y] 24)) W.heap.size 24 #[.int .u64 x, .int .u64 y] := Blk.new _ _ _
  refine ⟨rfl, ⟨Nat.le_refl _, by simp [maxLen]⟩, .inr ⟨_, rfl, fun j u hj => ?_⟩, fun j hj => ⟨_, 0, rfl, ?_⟩, fun z hz => ?_⟩
  · match j with
    | 0 =>
      simp at hj
      subst hj
      rw [add0, hB.cell 0]
      rfl
    | 1 =>
      simp at hj
      subst hj
      have := hB.cell 1
      simp [Addr.add]
    | j + 2 => simp at hj
  · obtain rfl | rfl : j = 0 ∨ j = 1 := by omega
    · rw [hB.cell]; rfl
    · rw [hB.cell]; rfl
  · simp at hz
    rcases hz with rfl | rfl
    · simp [Lit.wf, IntKind.min, IntKind.max, IntKind.signed, IntKind.bits]
      omega
    · simp [Lit.wf, IntKind.min, IntKind.max, IntKind.signed, IntKind.bits]
      omega
set_option maxHeartbeats 4000000 in
theorem prot_main (c : P.Cf) (v a0 a1 : Int) (w : World) (hc : c.Ok) (hv : U64 v) (ha0 : P.I64 a0) (ha1 : P.I64 a1) :
    Calls Tryz.prog 3 #[c.v, .int .u64 v, .agg #[.int .i64 a0, .int .i64 a1]] w fun e w' => e = .returned (.bool true) ∧ Below w.heap.size w w' := by
  have KR := fun W => P.right_ok c W hc
  have KN : ∀ W, Calls Tryz.prog 9 #[c.v, .slice none 0 0, .bool true] W fun e W' => ∃ B Fb T g t, e = .returned (.tuple #[at0 B, .int .i64 0]) ∧ Rest c W [] B Fb T g t (firstMS c).ws (firstMS c).st (ghost0 c) [] [] 0 W' := fun W => born_rest hc
  have HC := Lib.hid hc
  have HV := Lib.hid hv
  have hsl := hc.slots
  have HSL : Hid (∀ V', Calls Tryz.prog 11 #[c.v] V' fun e V2 => e = .returned (.int .i64 c.slots) ∧ Below V'.heap.size V' V2) := Lib.hid fun V' => P.slots_ok c V' hc
  have hm0 := mod_in a0 (S := c.slots) (by omega) (by omega)
  have hm1 := mod_in a1 (S := 8) (by omega) (by omega)
  clear hc
  go_enter Tryz.func3, Tryz.ntmps3
  go_wp2_with fail
  refine (KR _).mono ?_
  rintro e V ⟨rfl, hb⟩
  have hA : Below w.heap.size w ((w.alloc (.cells c.cs 23)).alloc (.cells #[.int .i64 a0, .int .i64 a1] 25)) := ((Below.refl _ _).alloc (Nat.le_refl _) _).alloc (by simp) _
  have hB0 : Blk ((w.alloc (.cells c.cs 23)).alloc (.cells #[.int .i64 a0, .int .i64 a1] 25)) w.heap.size 23 c.cs := (Blk.new w 23 c.cs).alloc _
  have hB1 : Blk ((w.alloc (.cells c.cs 23)).alloc (.cells #[.int .i64 a0, .int .i64 a1] 25)) (w.heap.size + 1) 25 #[.int .i64 a0, .int .i64 a1] := by
    have := Blk.new (w.alloc (.cells c.cs 23)) 25 #[.int .i64 a0, .int .i64 a1]
    simpa using this
  have hbl := hA.trans (hb.mono (by simp; omega))
  have hB0' := hB0.agree (hb.block _ (by simp; omega))
  have hB1' := hB1.agree (hb.block _ (by simp))
  generalize hCb : w.heap.size = Cb at *
  have HCb := Lib.hid hCb
  clear hCb hb hA hB0 hB1 KR
  obtain ⟨p0, p1, p2, p3, p4, p5, p6⟩ := conf_at hB0'
  go_wp2_with fail
  refine (KN _).mono ?_
  rintro e V1 ⟨B, Fb, T, g, t, rfl, h⟩
  have h1 := h.add (Below.refl _ _) (hB0'.agree (h.bel.block _ hB0'.lt)) (.inr hB0'.lt)
  have h2 := (h1.add (Below.refl _ _) (hB1'.agree (h.bel.block _ hB1'.lt)) (.inr hB1'.lt)).since (w0 := w) (by rw [HCb.out]; exact hbl)
  have HH := Lib.hid h2
  have K10 := h2.plan
  clear h h1 h2 hB0' hB1' hbl KN p0 p1 p2 p3 p4 p5 p6
  go_wp2_with fail
  refine K10.mono ?_
  rintro e V2 ⟨rfl, hb⟩
  have HH2 := Lib.hid (HH.out.below hb)
  clear K10 hb HH
  go_upto_region 7 with fail
  have hAl : Below V2.heap.size V2 (V2.alloc (.cells c.cs 33)) := (Below.refl _ _).alloc (Nat.le_refl _) _
  have HP := Lib.hid (HH2.out.add hAl (Blk.new V2 33 c.cs) (.inl (Nat.le_refl _)))
  clear HH2 hAl
  generalize hPb : V2.heap.size = Pb at *
  generalize V2.alloc (.cells c.cs 33) = V3 at *
  clear hPb
  have HSS : Hid (∀ ws st Gs rt fn r V', Rest c w [(Pb, 33, c.cs), (Cb + 1, 25, #[.int .i64 a0, .int .i64 a1]), (Cb, 23, c.cs)] B Fb T g t ws st Gs rt fn r V' → V'.cell? ⟨Cb + 1, 0, none⟩ = some (.int .i64 a0) ∧ V'.cell? ⟨Pb, 0, none⟩ = some (.int .i64 c.al) ∧ V'.cell? ⟨Pb, 1, none⟩ = some (.int .i64 c.th) ∧ V'.cell? ⟨Pb, 2, none⟩ = some (.int .i64 c.nd) ∧ V'.cell? ⟨Pb, 3, none⟩ = some (.int .i64 c.lv) ∧ V'.cell? ⟨Pb, 4, none⟩ = some (.int .i64 c.ba) ∧ V'.cell? ⟨Pb, 5, none⟩ = some (.int .i64 c.pr) ∧ V'.cell? ⟨Pb, 6, none⟩ = some (.int .i64 c.sc)) := Lib.hid fun ws st Gs rt fn r V' h => ⟨by
    have := (h.blk (x := (Cb + 1, 25, #[.int .i64 a0, .int .i64 a1])) (by simp)).cell 0
    exact this, conf_at (h.blk (x := (Pb, 33, c.cs)) (by simp))⟩
  obtain ⟨z0, z1, z2, z3, z4, z5, z6⟩ := hm0
  generalize hsl2 : (a0.tmod c.slots + c.slots).tmod c.slots = k at *
  have nsl : (c.slots == 0) = false := beq_eq_false_iff_ne.2 (by omega)
  have nsl2 : ¬ c.slots = 0 := by omega
  go_cut [10] from 30 to 40 (fun s10 wx => s10 = .int .i64 k ∧ Hid (Rest c w [(Pb, 33, c.cs), (Cb + 1, 25, #[.int .i64 a0, .int .i64 a1]), (Cb, 23, c.cs)] B Fb T g t (firstMS c).ws (firstMS c).st (ghost0 c) [] [] 0 wx))
  case first =>
    repeat (rename (∀ (a : Act) (w_1 : World), Code.wp Tryz.prog _ _ a w_1 → _) => hK1; clear hK1)
    have hM := HP.out.below ((Below.refl _ _).drew)
    go_wp2_with fail
    go_region_held3 (fun V' => V'.cell? ⟨Cb + 1, 0, none⟩ = some (.int .i64 a0) ∧ V'.cell? ⟨Pb, 0, none⟩ = some (.int .i64 c.al) ∧ V'.cell? ⟨Pb, 1, none⟩ = some (.int .i64 c.th) ∧ V'.cell? ⟨Pb, 2, none⟩ = some (.int .i64 c.nd) ∧ V'.cell? ⟨Pb, 3, none⟩ = some (.int .i64 c.lv) ∧ V'.cell? ⟨Pb, 4, none⟩ = some (.int .i64 c.ba) ∧ V'.cell? ⟨Pb, 5, none⟩ = some (.int .i64 c.pr) ∧ V'.cell? ⟨Pb, 6, none⟩ = some (.int .i64 c.sc))
      (first | exact HSS.out _ _ _ _ _ _ _ (by assumption) | go_keep)
      (first | (go_at_call 11; refine (HSL.out _).mono ?_; rintro e V4 ⟨rfl, hb4⟩; have hM4 := Rest.below (by assumption) hb4; clear hb4))
    all_goals
      go_wp2_with fail
      go_meet
      exact ⟨rfl, Lib.hid (by assumption)⟩
  case rest =>
    obtain ⟨rfl, HR⟩ := hcut
    clear HP
    have c1 := (HR.out.blk (x := (Cb + 1, 25, #[.int .i64 a0, .int .i64 a1])) (by simp)).cell 1
    simp at c1
    obtain ⟨y0, y1, y2, y3, y4, y5, y6⟩ := hm1
    generalize hpl : (a1.tmod 8 + 8).tmod 8 = p at *
    obtain ⟨M, q1, q2, q3, q4⟩ := HR.out.mem
    have K1 := q1 _ (Below.refl _ _)
    have Q3 := Lib.hid q3
    clear q1 q2 q3 q4
    go_wp2_with fail
    refine K1.mono ?_
    rintro e v1 ⟨rfl, rfl⟩
    clear K1
    have hz := HC.out.steps
    have hfl := first_len HC.out
    have hst := (first_mk HC.out).2
    generalize hws : (firstMS c).ws = ws0 at *
    generalize hstt : (firstMS c).st = st0 at *
    have K3 := Q3.out _ p v (Below.refl _ _) (by omega) hst.1 (by omega) y5 (by omega)
    have HW := Lib.hid (And.intro hz (And.intro hfl hst))
    clear Q3 HR hz hfl hws hstt
    go_wp2_with fail
    refine K3.mono ?_
    rintro e V5 ⟨rfl, h⟩
    have HR := Lib.hid h
    clear K3 h hst
    have HZ : Hid (∀ V', Calls Tryz.prog 14 #[c.v, .int .i64 0, .int .i64 k] V' fun e V2 => e = .returned (.int .i64 (c.hazard 0 k)) ∧ Below V'.heap.size V' V2) := Lib.hid fun V' => hazard_ok c 0 k V' HC.out (by unfold P.I64; omega) (by unfold P.I64; omega)
    have hth := HC.out.th
    have HH8 := Lib.hid (haz_at HC.out (k := 0) (s := k) (by omega) (by omega) z5 z6)
    have HLO := Lib.hid (haz_low HC.out (k := 0) (s := k) (by omega) (by omega) z5 z6)
    generalize hhz : c.hazard 0 k = hz at *
    have HHZ := Lib.hid hhz
    clear hhz hth
    go_upto_region 10 with fail
    go_cut [] from 51 to 56 (fun wx => Hid (Rest c w [(Pb, 33, c.cs), (Cb + 1, 25, #[.int .i64 a0, .int .i64 a1]), (Cb, 23, c.cs)] B Fb T g t ((ws0.set p.toNat v).set hz.toNat 9) (st0 + 1 + 1) (ghost0 c) [] [] 0 wx))
    case first =>
      repeat (rename (∀ (a : Act) (w_1 : World), Code.wp Tryz.prog _ _ a w_1 → _) => hK1; clear hK1)
      obtain ⟨M, q1, q2, q3, q4⟩ := HR.out.mem
      have hB0 : Below V5.heap.size V5 V5.drew := (Below.refl _ _).drew
      have HSB : Hid (∀ V, Below V5.heap.size V5 V → V.cell? ⟨Pb, 0, none⟩ = some (.int .i64 c.al) ∧ V.cell? ⟨Pb, 1, none⟩ = some (.int .i64 c.th) ∧ V.cell? ⟨Pb, 2, none⟩ = some (.int .i64 c.nd) ∧ V.cell? ⟨Pb, 3, none⟩ = some (.int .i64 c.lv) ∧ V.cell? ⟨Pb, 4, none⟩ = some (.int .i64 c.ba) ∧ V.cell? ⟨Pb, 5, none⟩ = some (.int .i64 c.pr) ∧ V.cell? ⟨Pb, 6, none⟩ = some (.int .i64 c.sc)) := Lib.hid fun V hV => (HSS.out _ _ _ _ _ _ _ (HR.out.below hV)).2
      have HQ3 : Hid (∀ V, Below V5.heap.size V5 V → Calls Tryz.prog 13 #[at0 M, .int .i64 hz, .int .u64 9] V fun e V' => e = .returned (.int .i64 0) ∧ Rest c w [(Pb, 33, c.cs), (Cb + 1, 25, #[.int .i64 a0, .int .i64 a1]), (Cb, 23, c.cs)] B Fb T g t ((ws0.set p.toNat v).set hz.toNat 9) (st0 + 1 + 1) (ghost0 c) [] [] 0 V') := Lib.hid fun V hV => q3 V hz 9 hV (by have := HW.out; simp; omega) (by have := HW.out; omega) (by have := HW.out; omega) HLO.out.1 (by have := HW.out; have := HLO.out; simp; omega)
      clear q2 q3 q4
      go_wp2_with fail
      go_region_held3 (fun V' => V'.cell? ⟨Pb, 0, none⟩ = some (.int .i64 c.al) ∧ V'.cell? ⟨Pb, 1, none⟩ = some (.int .i64 c.th) ∧ V'.cell? ⟨Pb, 2, none⟩ = some (.int .i64 c.nd) ∧ V'.cell? ⟨Pb, 3, none⟩ = some (.int .i64 c.lv) ∧ V'.cell? ⟨Pb, 4, none⟩ = some (.int .i64 c.ba) ∧ V'.cell? ⟨Pb, 5, none⟩ = some (.int .i64 c.pr) ∧ V'.cell? ⟨Pb, 6, none⟩ = some (.int .i64 c.sc))
        (first | exact HSB.out _ (by assumption) | exact (HSS.out _ _ _ _ _ _ _ (by assumption)).2 | go_keep)
        (first | (go_at_call 12; refine (q1 _ (by assumption)).mono ?_; rintro e v2 ⟨rfl, rfl⟩) | (go_at_call 14; refine (HZ.out _).mono ?_; rintro e V6 ⟨rfl, hb6⟩; have hB6 := P.below_then (by assumption) hb6 (Nat.le_refl _); clear hb6) | (go_at_call 13; refine (HQ3.out _ (by assumption)).mono ?_; rintro e V7 ⟨rfl, hR7⟩))
      all_goals
        go_wp2_with fail
        go_meet
        exact Lib.hid (by assumption)
    case rest =>
      clear HR
      obtain ⟨M, q1, q2, -, -⟩ := hcut.out.mem
      have KA := q1 _ (Below.refl _ _)
      have KB := q2 _ (Below.refl _ _)
      clear q1 q2
      have hlen1 : ((ws0.set p.toNat v).set hz.toNat 9).length = c.size.toNat := by simp; exact HW.out.2.1
      have hx1 : wordAt ((ws0.set p.toNat v).set hz.toNat 9) p.toNat = v := by
        rw [set_far _ _ _ (by have := HH8.out; omega)]
        exact set_at _ _ (by have := HW.out; omega)
      have hx9 : wordAt ((ws0.set p.toNat v).set hz.toNat 9) hz.toNat = 9 := set_at _ _ (by have := HW.out; have := HLO.out; simp; omega)
      obtain ⟨m, o, hm, hrn, ho, hph, hret, hlo, hp0, hp1, hi0, hi3⟩ := prot_run HC.out (G := ghost0 c) (rt := []) (fn := []) hlen1 z5 z6 y5 y6 hx1 HV.out
      rw [HHZ.out, hx9] at hp0
      rw [HHZ.out] at hp1
      generalize ((ws0.set p.toNat v).set hz.toNat 9) = ws1 at *
      have hAl : Below wc.heap.size wc (wc.alloc (.cells #[.int .u64 k, .int .u64 p] 24)) := (Below.refl _ _).alloc (Nat.le_refl _) _
      have KC := (hcut.out.below hAl).alone HC.out 3 (row2 wc k p ⟨by omega, by omega⟩ ⟨by omega, by omega⟩) (by omega) (.p0 k p) ⟨_, rfl, rfl, rfl, rfl, rfl⟩ m hm (by have := HW.out; omega) (fun j hj => ⟨(hrn j hj).1, (hrn j hj).2.1, (hrn j hj).2.2.1, by have := (hrn j hj).2.2.2; have := HW.out; omega⟩) ho hph
      rw [hret] at KC
      generalize o.ws = ws2 at *
      generalize o.inc = inc at *
      generalize hnow : wordAt ws2 hz.toNat = now at *
      generalize o.G = G2 at *
      generalize o.rt = rt2 at *
      generalize o.fn = fn2 at *
      have HQ := Lib.hid (And.intro hp0 hp1)
      have HL2 := Lib.hid (And.intro hlo hnow)
      have wk : IntKind.u64.wrap k = k := IntWalk.u64_in _ (by omega)
      have wp' : IntKind.u64.wrap p = p := IntWalk.u64_in _ (by omega)
      have HH0 := Lib.hid hcut
      clear hcut hlen1 hx1 hx9 hrn ho hph hret hm hp0 hp1 hAl hlo hnow
      go_wp2_with fail
      refine KA.mono ?_
      rintro e v1 ⟨rfl, rfl⟩
      go_wp2_with fail
      refine KB.mono ?_
      rintro e v1 ⟨rfl, rfl⟩
      clear KA KB
      go_wp2_with fail
      refine KC.mono ?_
      rintro e V8 ⟨rfl, h⟩
      obtain ⟨KT, cT, -, -⟩ := h.thread HC.out
      have HR8 := Lib.hid h
      clear KC h HH0
      go_wp2_with fail
      refine KT.mono ?_
      rintro e v1 ⟨rfl, rfl⟩
      clear KT
      have hv1 := HV.out.1
      have n1 : v.tdiv 2 = v / 2 := P.tdiv_of HV.out.1
      have n2 : (v / 2).tmod 65536 = v / 2 % 65536 := P.tmod_of (by omega)
      have n3 : IntKind.u64.wrap (v / 2) = v / 2 := IntWalk.u64_in _ (by have := HV.out; omega)
      have n4 : IntKind.u64.wrap (v / 2 % 65536) = v / 2 % 65536 := IntWalk.u64_in _ (by omega)
      obtain ⟨M2, q1, q2, -, q4⟩ := HR8.out.mem
      have KA := q1 _ (Below.refl _ _)
      have KB := q2 _ (Below.refl _ _)
      have ws9 : IntKind.i64.wrap (st0 + 1 + 1 + inc - (st0 + 1 + 1)) = inc := by rw [IntWalk.i64_in _ (by have := HW.out; omega)]; omega
      clear q1 q2 q4
      go_wp2_with fail
      refine KA.mono ?_
      rintro e v1 ⟨rfl, rfl⟩
      go_wp2_with fail
      refine KB.mono ?_
      rintro e v1 ⟨rfl, rfl⟩
      clear KA KB cT
      go_upto_region 16 with fail
      have hnode : 0 ≤ v / 2 % 65536 := by omega
      obtain ⟨nd, hnd⟩ : ∃ nd, v / 2 % 65536 = nd := ⟨_, rfl⟩
      have HND := Lib.hid hnd
      rw [hnd] at n2 n4 ⊢
      go_cut [15, 16] from 86 to 94 (fun s15 s16 wx => s15 = .int .u64 now ∧ s16 = .int .i64 0 ∧ ∃ st2, Hid (Rest c w [(Pb, 33, c.cs), (Cb + 1, 25, #[.int .i64 a0, .int .i64 a1]), (Cb, 23, c.cs)] B Fb T g t ws2 st2 G2 rt2 fn2 v wx))
      case first =>
        repeat (rename (∀ (a : Act) (w_1 : World), Code.wp Tryz.prog _ _ a w_1 → _) => hK1; clear hK1)
        obtain ⟨M, q1, q2, q3, q4⟩ := HR8.out.mem
        have hB0 : Below V8.heap.size V8 V8.drew := (Below.refl _ _).drew
        have HSB : Hid (∀ V, Below V8.heap.size V8 V → V.cell? ⟨Pb, 0, none⟩ = some (.int .i64 c.al) ∧ V.cell? ⟨Pb, 1, none⟩ = some (.int .i64 c.th) ∧ V.cell? ⟨Pb, 2, none⟩ = some (.int .i64 c.nd) ∧ V.cell? ⟨Pb, 3, none⟩ = some (.int .i64 c.lv) ∧ V.cell? ⟨Pb, 4, none⟩ = some (.int .i64 c.ba) ∧ V.cell? ⟨Pb, 5, none⟩ = some (.int .i64 c.pr) ∧ V.cell? ⟨Pb, 6, none⟩ = some (.int .i64 c.sc)) := Lib.hid fun V hV => (HSS.out _ _ _ _ _ _ _ (HR8.out.below hV)).2
        have HQ3 : Hid (∀ V, Below V8.heap.size V8 V → Calls Tryz.prog 18 #[at0 M, .int .i64 hz] V fun e V' => e = .returned (.tuple #[.int .u64 now, .int .i64 0]) ∧ Rest c w [(Pb, 33, c.cs), (Cb + 1, 25, #[.int .i64 a0, .int .i64 a1]), (Cb, 23, c.cs)] B Fb T g t ws2 (st0 + 1 + 1 + inc + 1) G2 rt2 fn2 v V') := Lib.hid fun V hV => by
          have := q4 V hz hV (by have := HL2.out; have := HW.out; omega) (by have := HW.out; omega) (by have := HW.out; omega) HLO.out.1 (by have := HL2.out; have := HW.out; have := HLO.out; omega)
          rw [HL2.out.2] at this
          exact this
        clear q2 q3 q4
        go_wp2_with fail
        go_region_held3 (fun V' => V'.cell? ⟨Pb, 0, none⟩ = some (.int .i64 c.al) ∧ V'.cell? ⟨Pb, 1, none⟩ = some (.int .i64 c.th) ∧ V'.cell? ⟨Pb, 2, none⟩ = some (.int .i64 c.nd) ∧ V'.cell? ⟨Pb, 3, none⟩ = some (.int .i64 c.lv) ∧ V'.cell? ⟨Pb, 4, none⟩ = some (.int .i64 c.ba) ∧ V'.cell? ⟨Pb, 5, none⟩ = some (.int .i64 c.pr) ∧ V'.cell? ⟨Pb, 6, none⟩ = some (.int .i64 c.sc))
          (first | exact HSB.out _ (by assumption) | exact (HSS.out _ _ _ _ _ _ _ (by assumption)).2 | go_keep)
          (first | (go_at_call 12; refine (q1 _ (by assumption)).mono ?_; rintro e v2 ⟨rfl, rfl⟩) | (go_at_call 14; refine (HZ.out _).mono ?_; rintro e V6 ⟨rfl, hb6⟩; have hB6 := P.below_then (by assumption) hb6 (Nat.le_refl _); clear hb6) | (go_at_call 18; refine (HQ3.out _ (by assumption)).mono ?_; rintro e V7 ⟨rfl, hR7⟩))
        all_goals
          go_wp2_with fail
          go_meet
          exact ⟨rfl, rfl, _, Lib.hid (by assumption)⟩
      case rest =>
        obtain ⟨rfl, rfl, st2, HR9⟩ := hcut
        clear HR8
        by_cases hnz : nd = 0
        · obtain ⟨hi2, hn2⟩ := HQ.out.1 (by unfold pt; rw [HND.out]; exact hnz)
          have hnb : (nd == 0) = true := by rw [hnz]; rfl
          subst hi2
          subst hn2
          have KL := fun W => lives_any W
          go_wp2_with fail
          refine (KL _).mono ?_
          rintro e V9 ⟨rfl, hb⟩
          have HX := Lib.hid (P.below_then HR9.out.bel hb (Nat.le_refl _))
          clear KL hb HR9
          go_wp2
          go_ret
          exact ⟨rfl, HX.out⟩
        · obtain ⟨hi2, hn2⟩ := HQ.out.2 (by unfold pt; rw [HND.out]; exact hnz)
          have hn3 : now = nd := by rw [hn2]; unfold pt; exact HND.out
          have hnb : (nd == 0) = false := by simpa using hnz
          clear hn2
          subst hn3
          subst hi2
          have KL := fun W => lives_any W
          go_wp2_with fail
          refine (KL _).mono ?_
          rintro e V9 ⟨rfl, hb⟩
          have HX := Lib.hid (P.below_then HR9.out.bel hb (Nat.le_refl _))
          clear KL hb HR9
          go_wp2
          go_ret
          exact ⟨rfl, HX.out⟩
theorem bad_main (c : P.Cf) (v : Value) (a0 a1 : Int) (w : World) (hv : ∃ x, v = .int .u64 x) (hc : ¬ c.Ok) :
    Calls Tryz.prog 3 #[c.v, v, .agg #[.int .i64 a0, .int .i64 a1]] w fun e w' => e = .returned (.bool true) ∧ Below w.heap.size w w' := by
  have KR := fun W => P.right_bad c W hc
  have KL := fun W => lives_any W
  obtain ⟨x, rfl⟩ := hv
  clear hc
  go_enter Tryz.func3, Tryz.ntmps3
  go_wp2_with fail
  refine (KR _).mono ?_
  rintro e V ⟨rfl, hb⟩
  have hA : Below w.heap.size w ((w.alloc (.cells c.cs 23)).alloc (.cells #[.int .i64 a0, .int .i64 a1] 25)) := ((Below.refl _ _).alloc (Nat.le_refl _) _).alloc (by simp) _
  have HB := Lib.hid (hA.trans (hb.mono (by simp; omega)))
  clear KR hb hA
  go_wp2_with fail
  refine (KL _).mono ?_
  rintro e V2 ⟨rfl, hb⟩
  have HX := Lib.hid (P.below_then HB.out hb (Nat.le_refl _))
  clear KL hb HB
  go_wp2
  go_ret
  exact ⟨rfl, HX.out⟩
theorem prot_any (c : P.Cf) (v a0 a1 : Int) (w : World) (hv : U64 v) (ha0 : P.I64 a0) (ha1 : P.I64 a1) :
    Calls Tryz.prog 3 #[c.v, .int .u64 v, .agg #[.int .i64 a0, .int .i64 a1]] w fun e w' => e = .returned (.bool true) ∧ Below w.heap.size w w' := by
  by_cases hc : c.Ok
  · exact prot_main c v a0 a1 w hc hv ha0 ha1
  · exact bad_main c _ a0 a1 w ⟨v, rfl⟩ hc
theorem bd_u64' {x : Int} (h : (Lit.int .u64 x).wf = true) : U64 x := by
  simp [Lit.wf, IntKind.min, IntKind.max, IntKind.signed, IntKind.bits] at h
  omega
end Go.Proofs.YtemikojaldoofaaGreat
