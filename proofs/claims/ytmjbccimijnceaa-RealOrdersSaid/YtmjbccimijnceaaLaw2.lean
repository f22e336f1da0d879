/- RealChains: the walk. -/
import Derived.Test.YtmjbccimijnceaaNext
import Derived.Test.YtmjbccimijnceaaLives
import Derived.Deep.AppendLies
import Derived.Deep.Upon
namespace Go.Proofs.Ytmjbccimijnceaa
open Go.ChangeShapes Go.WideShapes Go.ChangeAt Go.RowKit
set_option linter.unusedVariables false
set_option linter.unusedSimpArgs false

theorem news_new {W : World} {cs : Array Value} {t : TypeId} {H : Nat} (hH : W.heap.size = H) : (W.alloc (.cells cs t)).heap[H]? = some (.cells cs t (0, 0)) := by
  subst hH
  exact heap_alloc_new W _
/-- Amid the law's loop: who is done, and in which order. -/
structure ChS (w : World) (l : List Opr) (D : Nat) (p : List Int) (o : Sl) (W : World) : Prop where
  bel : Below w.heap.size w W
  low : w.heap.size ≤ D
  dn : Blk W D 4 (bools (fl l.length p)).toArray
  row : W.ownsRow w.heap.size 3 1 (.slice o.a o.n o.cap) p.length (ints p)
theorem ChS.below {w : World} {l : List Opr} {D : Nat} {p : List Int} {o : Sl} {W V : World} (h : ChS w l D p o W) (hb : Below W.heap.size W V) : ChS w l D p o V :=
  ⟨below_then h.bel hb, h.low, h.dn.below hb h.dn.lt, row_agree h.row fun k e => hb.block k (h.row.lt k e).2⟩
theorem ChS.len {w : World} {l : List Opr} {D : Nat} {p : List Int} {o : Sl} {W : World} (h : ChS w l D p o W) : o.n = p.length := (Reads.of_own h.row).2
theorem ChS.reads {w : World} {l : List Opr} {D : Nat} {p : List Int} {o : Sl} {W : World} (h : ChS w l D p o W) : Reads W o 1 (ints p) := (Reads.of_own h.row).1
theorem ChS.done {w : World} {l : List Opr} {D : Nat} {p : List Int} {o : Sl} {W : World} (h : ChS w l D p o W) (hn : l.length ≤ 1000) : Reads W ⟨some ⟨D, 0, none⟩, l.length, l.length⟩ 1 (bools (fl l.length p)) :=
  ⟨by simp [fl], ⟨Nat.le_refl _, by simp only [maxLen]; omega⟩, (by intro e; cases e), .inr ⟨_, _, rfl, fun j u hj => by
    rw [Nat.zero_add, h.dn.cell]
    simpa using hj⟩⟩
theorem ChS.notD {w : World} {l : List Opr} {D : Nat} {p : List Int} {o : Sl} {W : World} (h : ChS w l D p o W) : ∀ k, (Value.slice o.a o.n o.cap).ownBlock = some k → k ≠ D := fun k hk e => by
  subst e
  exact row_not h.row h.dn (by decide) hk

theorem ChS.push {w : World} {l : List Opr} {D : Nat} {p : List Int} {o : Sl} {W w3 : World} (h : ChS w l D p o W) {m g cap n : Nat} (hm : m < l.length) (hn : n = p.length)
    (hown : w3.ownsRow w.heap.size 3 1 (.slice (some ⟨g, 0, none⟩) (n + 1) cap) (n + 1) (ints p ++ [.int .i64 (m : Int)])) (hgrow : ((W.setCell ⟨D, m, none⟩ (.bool true)).alloc (.cells #[.int .i64 (m : Int)] 3)).grownBy w3 (Value.slice o.a o.n o.cap).ownBlock) :
    ChS w l D (p ++ [(m : Int)]) ⟨some ⟨g, 0, none⟩, n + 1, cap⟩ w3 := by
  subst hn
  have hb : Below w.heap.size w ((W.setCell ⟨D, m, none⟩ (.bool true)).alloc (.cells #[.int .i64 (m : Int)] 3)) := (h.bel.setCell h.low _).alloc (by have := h.bel.size; simp [World.setCell]; omega) _
  refine ⟨hb.grown hgrow hb.size (fun j e => (h.row.lt j e).1), h.low, ?_, ?_⟩
  · have q1 := (h.dn.set m (.bool true)).alloc (.cells #[.int .i64 (m : Int)] 3)
    have q2 := q1.agree (hgrow.block D q1.lt (fun e => h.notD D e.symm rfl))
    rw [← fl_set (n := l.length) (p := p) (x := m) (by omega) (by omega)]
    simpa using q2
  · have e : ints (p ++ [(m : Int)]) = ints p ++ [.int .i64 (m : Int)] := by simp
    rw [List.length_append, List.length_singleton, e]
    exact hown

/-- A pick, taken so that it is a place. -/
theorem pick_place (x : Int) (n : Nat) (hn : 0 < n) (h2 : n ≤ 1000) : ∃ q : Nat, q < n ∧ IntKind.i64.wrap (IntKind.i64.wrap (x.tmod n) + n) = IntKind.i64.wrap (x.tmod n) + n ∧ (IntKind.i64.wrap (x.tmod n) + n).tmod n = q ∧ IntKind.i64.wrap (x.tmod n) = x.tmod n := by
  have h3 : (x.tmod n).natAbs < n := by
    rw [Int.natAbs_tmod, Int.natAbs_natCast]
    exact Nat.mod_lt _ hn
  have w0 : IntKind.i64.wrap (x.tmod n) = x.tmod n := by rw [IntKind.wrap_i64]; omega
  have h4 : 0 < x.tmod n + n := by omega
  refine ⟨((x.tmod n + n).tmod n).toNat, ?_, ?_, ?_, w0⟩
  · rw [Int.tmod_eq_emod_of_nonneg (by omega)]
    have := Int.emod_lt_of_pos (x.tmod n + n) (b := (n : Int)) (by omega)
    have := Int.emod_nonneg (x.tmod n + n) (b := (n : Int)) (by omega)
    omega
  · rw [w0, IntKind.wrap_i64]; omega
  · rw [w0, Int.tmod_eq_emod_of_nonneg (by omega)]
    have := Int.emod_nonneg (x.tmod n + n) (b := (n : Int)) (by omega)
    omega

set_option maxRecDepth 100000 in
set_option maxHeartbeats 4000000 in
theorem law_chains (y s : Sl) (l : List Opr) (picks : List Int) (w : World) (hy : Reads w y 9 (encO l)) (hs : Reads w s 1 (ints picks)) :
    Calls Try.prog 4 #[y.v, s.v] w fun e w' => e = .returned (.bool true) ∧ Below w.heap.size w w' := by
  obtain ⟨i0, hi, hz0, hz1, hz2⟩ := info_parts Try.info3
  have hny := hy.lenO
  have hns := hs.lenI
  have hroom := hs.room
  have hroomy := hy.room
  simp only [maxLen] at hroom hroomy
  have KL := Lib.hid fun W => lives_any W
  have HY := Lib.hid hy
  have HS := Lib.hid hs
  obtain ⟨ya, yn, yc⟩ := y
  obtain ⟨sa, sn, sc⟩ := s
  dsimp only at hny hns hroom hroomy
  subst hny hns
  clear hy hs
  simp only [Sl.v] at *
  by_cases h1 : 40 < l.length
  · have g1 : decide ((l.length : Int) > 40) = true := by simp; omega
    go_enter Try.func4, Try.ntmps4
    go_wp2_with (go_at_call 5; refine (KL.out _).mono ?_; rintro e w1 ⟨rfl, hb1⟩)
    go_ret
    exact ⟨rfl, hb1⟩
  have g1 : decide ((l.length : Int) > 40) = false := by simp; omega
  by_cases h2 : 200 < picks.length
  · have g2 : decide ((picks.length : Int) > 200) = true := by simp; omega
    go_enter Try.func4, Try.ntmps4
    go_wp2_with (go_at_call 5; refine (KL.out _).mono ?_; rintro e w1 ⟨rfl, hb1⟩)
    go_ret
    exact ⟨rfl, hb1⟩
  have g2 : decide ((picks.length : Int) > 200) = false := by simp; omega
  have hmk := fun W => made l.length W (by omega)
  go_enter Try.func4, Try.ntmps4
  go_wp2_with fail
  go_loopw [5] (fun i W => ∃ k : Nat, k ≤ l.length ∧ i = .int .i64 k ∧ Hid (Below w.heap.size w W ∧ ∀ j, j < k → 0 ≤ (ith l j).o → (ith l j).f ≤ (ith l j).o)) (fun i _ => l.length - (intOf i).toNat)
  case atStart => exact ⟨0, by omega, rfl, Lib.hid ⟨Below.refl _ _, fun j hj => by omega⟩⟩
  case round =>
    obtain ⟨k, hk, rfl, HB⟩ := hrel
    by_cases hlt : k < l.length
    · have gk : (k : Int) < l.length := by omega
      obtain ⟨b, off, ea, hop⟩ := (HY.out.below HB.out.1).opr (ith_lt hlt)
      have x7 := hop.x7
      have x8 := hop.x8
      dsimp only at ea
      subst ea
      clear hop hmk
      have HG : Hid (((ith l k).o < 0 ∨ (ith l k).f ≤ (ith l k).o) → ∀ j, j < k + 1 → 0 ≤ (ith l j).o → (ith l j).f ≤ (ith l j).o) := Lib.hid fun hc j hj h0 => by
        by_cases e : j = k
        · subst e; omega
        · exact HB.out.2 j (by omega) h0
      generalize (ith l k).o = vo at *
      generalize (ith l k).f = vf at *
      by_cases hn : 0 ≤ vo
      · by_cases hb : vo < vf
        · have d1 : decide (vo ≥ 0) = true := decide_eq_true hn
          have d2 : decide (vo < vf) = true := decide_eq_true hb
          go_wp2_with fail
          go_quiet (fail)
          go_wp2_with (go_at_call 5; refine (KL.out _).mono ?_; rintro e w1 ⟨rfl, hb1⟩)
          go_ret
          exact ⟨rfl, below_then (below_drewN HB.out.1 _) hb1⟩
        · have d1 : decide (vo ≥ 0) = true := decide_eq_true hn
          have d2 : decide (vo < vf) = false := decide_eq_false hb
          go_wp2_with fail
          go_quiet (fail)
          go_wp2
          go_roundw
          case rel => exact ⟨k + 1, by omega, by go_num, Lib.hid ⟨below_drewN HB.out.1 _, HG.out (.inr (by omega))⟩⟩
          case measure => simp [intOf]; omega
      · have d1 : decide (vo ≥ 0) = false := decide_eq_false (by omega)
        go_wp2_with fail
        go_quiet (fail)
        go_wp2
        go_roundw
        case rel => exact ⟨k + 1, by omega, by go_num, Lib.hid ⟨below_drewN HB.out.1 _, HG.out (.inl (by omega))⟩⟩
        case measure => simp [intOf]; omega
    · obtain rfl : k = l.length := by omega
      have HP := Lib.hid HB.out.2
      have HB1 := Lib.hid HB.out.1
      have C0 : ChS w l wr.heap.size [] nilS (wr.alloc (.cells (bools (fl l.length [])).toArray 4)) :=
        ⟨below_then HB.out.1 (box1 _), HB.out.1.size, Blk.new _ _ _, World.ownsRow_nil _ _ _ _⟩
      have HC0 := Lib.hid C0
      clear C0 HB
      go_wp2_with fail
      clear hmk
      obtain ⟨D, hD⟩ : ∃ D, D = wr.heap.size := ⟨_, rfl⟩
      rw [← hD] at HC0 ⊢
      generalize wr.alloc (.cells (bools (fl l.length [])).toArray 4) = W0 at *
      clear hD HB1
      have KN := Lib.hid fun p o W (h : ChS w l D p o W) => next_any ⟨ya, l.length, yc⟩ ⟨some ⟨D, 0, none⟩, l.length, l.length⟩ l (fl l.length p) W (HY.out.below h.bel) (h.done (by omega)) (fl_len _ _) (by omega)
      go_loopw [7, 8] (fun v i W => ∃ (k : Nat) (oa : Option Addr) (on oc : Nat) (p : List Int), k ≤ l.length ∧ i = .int .i64 k ∧ v = .slice oa on oc ∧ Hid (ChS w l D p ⟨oa, on, oc⟩ W ∧ p.length = k ∧ Chain l p)) (fun _ i _ => l.length - (intOf i).toNat)
      case atStart => exact ⟨0, none, 0, 0, [], by omega, rfl, rfl, Lib.hid ⟨HC0.out, rfl, chain_nil l⟩⟩
      case round =>
        obtain ⟨k, oa, on, oc, p, hk, rfl, rfl, HI⟩ := hrel
        by_cases hlt : k < l.length
        · have gk : (k : Int) < l.length := by omega
          have hne := nextD_some HP.out (p := p) (by have := HI.out.2.1; omega)
          have hstep := Lib.hid fun x hx => nextD_step HI.out.2.2 (x := x) hx
          have hlen := next_len l (fl l.length p)
          rw [fl_len] at hlen
          have KN' := Lib.hid (KN.out p _ wr HI.out.1)
          have HKN := Lib.hid KN
          clear KN
          dsimp only [Sl.v] at *
          generalize nextD l (fl l.length p) = X at *
          have hXl : 0 < X.length := List.length_pos_iff.2 hne
          go_upto_if 64 with (go_at_call 10; refine KN'.out.mono ?_; rintro e w1 ⟨v, rfl, hown, hb1⟩; obtain ⟨na, nn, nc, rfl⟩ := own_sl hown; obtain rfl : nn = X.length := (Reads.of_own (s := ⟨na, nn, nc⟩) hown).2)
          have hX40 : X.length ≤ 40 := by omega
          go_cut [10] from 49 to 113 (fun s10 wc => ∃ q : Nat, s10 = .int .i64 q ∧ q < X.length ∧ wc = w1)
          case first =>
            by_cases hkp : k < picks.length
            · have gp : (k : Int) < picks.length := by omega
              obtain ⟨b, off, ea, hcell⟩ := (HS.out.below (below_then HI.out.1.bel hb1)).at_ (by show 0 < picks.length; omega)
              have hc1 := hcell k (.int .i64 (iI picks k)) (by simp [iI_lt hkp, hkp])
              dsimp only at ea
              subst ea
              clear hcell
              obtain ⟨q, hq, hq1, hq2, hq3⟩ := pick_place (iI picks k) X.length hXl (by omega)
              generalize iI picks k = pk at *
              rw [hq3] at hq1 hq2
              go_wp2_with fail
              go_meet
              case rel => exact ⟨q, by go_num, hq, rfl⟩
            · have gp : ¬ (k : Int) < picks.length := by omega
              go_wp2_with fail
              go_meet
              case rel => exact ⟨0, rfl, hXl, rfl⟩
          case rest =>
            obtain ⟨q, rfl, hq, rfl⟩ := hcut
            have SC := HI.out.1.below hb1
            have hxm : iI X q ∈ X := by rw [iI_lt hq]; exact List.getElem_mem _
            have hst := hstep.out _ hxm
            obtain ⟨m, hm⟩ : ∃ m : Nat, iI X q = (m : Int) := ⟨(iI X q).toNat, by omega⟩
            rw [hm] at hst
            have hml : m < l.length := by omega
            obtain ⟨b, off, ea, hcell⟩ := ((Reads.of_own (s := ⟨na, X.length, nc⟩) hown).1).at_ hXl
            have hcq := hcell q (.int .i64 (m : Int)) (by simp [← hm, iI_lt hq, hq])
            dsimp only at ea
            subst ea
            have hcd : wc.cell? ⟨D, m, none⟩ = some (.bool false) := by
              rw [SC.dn.cell]
              simp [fl, hml, hst.2.2]
            have hfd := SC.dn.frozen m
            have gml : (m : Int) < l.length := by omega
            have d1 : decide (((m : Nat) : Int) < 0) = false := by simp
            have d2 : decide (((m : Nat) : Int) ≥ (l.length : Int)) = false := by simp; omega
            have gq : (q : Int) < X.length := by omega
            have hbD : b ≠ D := fun e => by
              subst e
              exact row_not hown SC.dn (by decide) rfl
            have hcq2 := (World.cell?_setCell_far wc ⟨D, m, none⟩ ⟨b, off + q, none⟩ (.bool true) (fun e => hbD e.symm)).trans hcq
            have HSC := Lib.hid SC
            have HST := Lib.hid hst
            have hpl : on = p.length := SC.len
            have hpk : p.length = k := HI.out.2.1
            have hon : on ≤ 40 := by omega
            have HRW := Lib.hid (show (wc.setCell ⟨D, m, none⟩ (.bool true)).ownsRow w.heap.size 3 1 (.slice oa on oc) on (ints p) from by
              have hr := SC.row
              rw [← hpl] at hr
              exact row_agree hr fun k hk => Below.heap_setCell _ _ _ _ (SC.notD k hk))
            have hszc : w.heap.size ≤ wc.heap.size := SC.bel.size
            have HPL := Lib.hid hpl
            have HPK := Lib.hid hpk
            clear hcell SC hst hstep hpl hpk hm hxm hown hbD hb1 KN'
            go_wp2_with (at_builtin; refine wpList_append_lies _ rfl _ _ 23 rfl w.heap.size 3 i0 _ 1 8 Try.underlying23 hi hz0 hz1 hz2 rfl (by decide) (.slice oa on oc) on (ints p) rfl (HRW.out.alloc _) ⟨wc.heap.size, 0, none⟩ 1 1 [.int .i64 (m : Int)] rfl rfl (World.news_of_block (cs := #[.int .i64 (m : Int)]) (t := 3) (fr := (0, 0)) (news_new (by simp))) (by simp [Value.oneCell']) (by omega) (by unfold maxLen; omega) (by omega) (by simp; omega) (wc.heap.size + 1) (by simp) ?_; intro gg cap w3 hown3 hgrow hat hlt)
            have HF := Lib.hid (HSC.out.push (by omega) HPL.out hown3 hgrow)
            clear hown3 hgrow hat hlt HRW
            go_wp2_with fail
            exact ⟨⟨k + 1, some ⟨gg, 0, none⟩, on + 1, cap, p ++ [(m : Int)], by omega, by go_num, rfl, Lib.hid ⟨HF.out, by have := HPK.out; simp; omega, HST.out.1⟩⟩, by simp [intOf]; omega⟩
        · obtain rfl : k = l.length := by omega
          have hM := full_mays HI.out.2.2.ok HI.out.2.1
          have hpl : p.length ≤ 40 := by have := HI.out.2.1; omega
          have hN := nextD_none HI.out.2.2 HI.out.2.1
          have hon : on = p.length := HI.out.1.len
          have KM := Lib.hid fun V (hb : Below wr.heap.size wr V) =>
            (may_any ⟨ya, l.length, yc⟩ ⟨oa, on, oc⟩ l p V (HY.out.below (below_then HI.out.1.bel hb)) (HI.out.1.below hb).reads (by omega)).mono fun e w' h => mayed_is (b0 := true) (by simp; exact hM) h
          have KR := Lib.hid fun V (hb : Below wr.heap.size wr V) =>
            (refMay_any ⟨ya, l.length, yc⟩ ⟨oa, on, oc⟩ l p V (HY.out.below (below_then HI.out.1.bel hb)) (HI.out.1.below hb).reads (by omega) (by omega)).mono fun e w' h => mayed_is (b0 := true) (by simp; exact hM) h
          have KN' := Lib.hid fun V (hb : Below wr.heap.size wr V) => KN.out p _ V (HI.out.1.below hb)
          rw [hN] at KN'
          have HB := Lib.hid HI.out.1.bel
          clear HI hM hN hon KN hpl HC0
          dsimp only [Sl.v] at *
          go_wp2_with (first
            | (go_at_call 8; refine (KM.out _ (Below.refl _ _)).mono ?_; rintro e w1 ⟨rfl, hb1⟩)
            | (go_at_call 9; refine (KR.out _ hb1).mono ?_; rintro e w2 ⟨rfl, hb2⟩)
            | (go_at_call 10; refine (KN'.out _ (below_then hb1 hb2)).mono ?_; rintro e w3 ⟨v, rfl, hown, hb3⟩; obtain ⟨na, nn, nc, rfl⟩ := own_sl hown; obtain rfl : nn = 0 := (Reads.of_own (s := ⟨na, nn, nc⟩) hown).2)
            | (go_at_call 5; refine (KL.out _).mono ?_; rintro e w4 ⟨rfl, hb4⟩))
          go_ret
          exact ⟨rfl, below_then (below_then (below_then (below_then HB.out hb1) hb2) hb3) hb4⟩
end Go.Proofs.Ytmjbccimijnceaa
