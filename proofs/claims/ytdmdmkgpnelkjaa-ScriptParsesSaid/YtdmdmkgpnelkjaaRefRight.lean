/- Which scripts may be, by the document. -/
import Derived.Test.YtdmdmkgpnelkjaaPicks
import Derived.BigQuiet
namespace Go.Proofs.Ytdmdmkgpnelkjaa
open Go.ChangeShapes Go.WideShapes Go.ChangeAt Go.RowKit
set_option linter.unusedVariables false

theorem rcB_far (th : Int) (ls : List (List Tri)) (h : 48 < tot ls) : rcB th ls = false := by simp [rcB, show ¬ tot ls ≤ 48 by omega]
theorem rcB_not (th : Int) (ls : List (List Tri)) (h : allB ls = false) : rcB th ls = false := by simp [rcB, h]
theorem rightS_rc (s : Sc) (h : rcB s.c.th s.ls = false) : rightS s = false := by simp [rightS, h]
theorem rightS_rp (s : Sc) (h : rpB s.c.th s.ps = false) : rightS s = false := by simp [rightS, h]

set_option maxRecDepth 100000 in
set_option maxHeartbeats 16000000 in
theorem refRightS_any (s : Sc) (x y z : Sl) (w : World) (h : SV w s x y z) : Calls Try.prog 13 #[sv s.c x y z] w fun e w' => e = .returned (.bool (rightS s)) ∧ Below w.heap.size w w' := by
  have hB : Blk (w.alloc (.cells (scs s.c x y z) 29)) w.heap.size 29 (scs s.c x y z) := Blk.new _ _ _
  have h0 : Below w.heap.size w (w.alloc (.cells (scs s.c x y z) 29)) := box1 _
  have hl3 := h.hz.len
  have hl1 := h.hx.len
  have hl2 := h.hy.picks_len
  by_cases hk : s.c.Ok
  case neg =>
    have HE := Lib.hid (show rightS s = false by simp [rightS, okB_f hk])
    have KB := fun W => right_bad s.c W hk
    obtain ⟨c, ls, ps, ds⟩ := s
    dsimp only at *
    clear h hk hl1 hl2 hl3
    go_enter Try.func13, Try.ntmps13
    go_wp2_with fail
    refine (KB _).mono ?_
    rintro e w1 ⟨rfl, hb⟩
    have HF := Lib.hid (below_then h0 hb (Nat.le_refl _))
    clear hb KB h0
    go_wp2
    go_ret
    exact ⟨ret_b HE.out, HF.out⟩
  case pos =>
  have KB := fun W => right_ok s.c W hk
  have hs : rightS s = (rcB s.c.th s.ls && (rpB s.c.th s.ps && decide (s.ds.length ≤ 4096))) := by simp [rightS, okB_t hk]
  have HSC := Lib.hid hs
  have hroom := h.hx.room
  have hroom2 := h.hy.room
  unfold maxLen at hroom hroom2
  have HV := Lib.hid h
  obtain ⟨c, ls, ps, ds⟩ := s
  obtain ⟨xa, xn, xc⟩ := x
  obtain ⟨ya, yn, yc⟩ := y
  obtain ⟨za, zn, zc'⟩ := z
  dsimp only at *
  subst hl1 hl2 hl3
  clear h hs hk
  -- ends that are early
  have done : ∀ b, rightS ⟨c, ls, ps, ds⟩ = b → Hid (rightS ⟨c, ls, ps, ds⟩ = b) := fun b h => Lib.hid h
  by_cases hth : (ls.length : Int) = c.th
  case neg =>
    have HE := done false (rightS_rc _ (by simp [rcB, hth]))
    have hth' : ((ls.length : Int) != c.th) = true := by simpa using hth
    clear hth
    go_enter Try.func13, Try.ntmps13
    go_wp2_with fail
    refine (KB _).mono ?_
    rintro e w1 ⟨rfl, hb⟩
    have HF := Lib.hid (below_then h0 hb (Nat.le_refl _))
    obtain ⟨x0, x1, x2, x3, x4, x5, x6, x7, x8, x9⟩ := (hB.below hb hB.lt).script
    dsimp only at x7 x8 x9
    clear hb KB h0
    go_wp2
    go_ret
    exact ⟨ret_b HE.out, HF.out⟩
  case pos =>
  have hth' : ((ls.length : Int) != c.th) = false := by simpa using hth
  by_cases hp6 : ps.length ≤ 60000
  case neg =>
    have HE := done false (rightS_rp _ (by simp [rpB, hp6]))
    have g : (60000 : Int) < ps.length := by omega
    clear hth hp6
    go_enter Try.func13, Try.ntmps13
    go_wp2_with fail
    refine (KB _).mono ?_
    rintro e w1 ⟨rfl, hb⟩
    have HF := Lib.hid (below_then h0 hb (Nat.le_refl _))
    obtain ⟨x0, x1, x2, x3, x4, x5, x6, x7, x8, x9⟩ := (hB.below hb hB.lt).script
    dsimp only at x7 x8 x9
    clear hb KB h0
    go_wp2
    go_ret
    exact ⟨ret_b HE.out, HF.out⟩
  case pos =>
  have g6 : ¬ (60000 : Int) < ps.length := by omega
  by_cases hd4 : ds.length ≤ 4096
  case neg =>
    have HE := done false (by rw [HSC.out]; simp [hd4])
    have g : (4096 : Int) < ds.length := by omega
    clear hth hp6 hd4
    go_enter Try.func13, Try.ntmps13
    go_wp2_with fail
    refine (KB _).mono ?_
    rintro e w1 ⟨rfl, hb⟩
    have HF := Lib.hid (below_then h0 hb (Nat.le_refl _))
    obtain ⟨x0, x1, x2, x3, x4, x5, x6, x7, x8, x9⟩ := (hB.below hb hB.lt).script
    dsimp only at x7 x8 x9
    clear hb KB h0
    go_wp2
    go_ret
    exact ⟨ret_b HE.out, HF.out⟩
  case pos =>
  have g4 : ¬ (4096 : Int) < ds.length := by omega
  have HSE := Lib.hid (show ∀ b1 b2, rcB c.th ls = b1 → rpB c.th ps = b2 → rightS ⟨c, ls, ps, ds⟩ = (b1 && b2) by
    rintro b1 b2 rfl rfl
    rw [HSC.out]
    simp [hd4])
  have HTH := Lib.hid hth
  have HP6 := Lib.hid hp6
  clear hp6 hd4 hth
  go_enter Try.func13, Try.ntmps13
  go_wp2_with fail
  refine (KB _).mono ?_
  rintro e W0 ⟨rfl, hb⟩
  have HF := Lib.hid (below_then h0 hb (Nat.le_refl _))
  have HBk := Lib.hid (hB.below hb hB.lt)
  clear hb KB h0 hB
  obtain ⟨x0, x1, x2, x3, x4, x5, x6, x7, x8, x9⟩ := HBk.out.script
  dsimp only at x7 x8 x9
  go_wp2_with fail
  go_loopw [4, 3] (fun t n W => ∃ k : Nat, k ≤ ls.length ∧ t = .int .i64 k ∧ n = .int .i64 (tot (ls.take k)) ∧ Hid (tot (ls.take k) ≤ 48) ∧ Hid (allB (ls.take k) = true) ∧ Hid (Below W0.heap.size W0 W)) (fun t _ _ => ls.length - (intOf t).toNat)
  case atStart => exact ⟨0, by omega, rfl, rfl, Lib.hid (by simp [tot]), Lib.hid rfl, Lib.hid (Below.refl _ _)⟩
  case round =>
    clear x0 x1 x2 x3 x4 x5 x6 x7 x8 x9
    obtain ⟨k, hk, rfl, rfl, HN, HA, HB⟩ := hrel
    have HBw := Lib.hid (below_then HF.out HB.out (Nat.le_refl _))
    obtain ⟨x0, x1, x2, x3, x4, x5, x6, x7, x8, x9⟩ := (HBk.out.below HB.out HBk.out.lt).script
    dsimp only at x7 x8 x9
    by_cases hkn : k < ls.length
    · have hl : ls[k]? = some ls[k] := List.getElem?_eq_getElem hkn
      obtain ⟨b, off, q, rfl, hq, hqn, hr⟩ := (HV.out.below HBw.out).hx.at_ k _ hl
      have gk : (k : Int) < ls.length := by omega
      have w2 := IntWalk.i64_in ((k : Int) + 1) (by omega)
      have hm := hr.room
      unfold maxLen at hm
      have HR := Lib.hid hr
      obtain ⟨qa, qn, qc⟩ := q
      dsimp only at hq hqn hm
      subst hqn
      have HL := Lib.hid hl
      have HT := Lib.hid (tot_take ls k _ hl)
      have HTL := Lib.hid (tot_le ls (k + 1))
      clear hl hr
      generalize ls[k] = l at *
      generalize htk : tot (ls.take k) = t0 at *
      have htk := Lib.hid htk
      go_wp2_with fail
      go_loopw [5, 3] (fun i n W => ∃ j : Nat, j ≤ l.length ∧ i = .int .i64 j ∧ n = .int .i64 ((t0 + j : Nat) : Int) ∧ Hid (t0 + j ≤ 48) ∧ Hid ((l.take j).all rightB = true) ∧ Hid (Below wr.heap.size wr W)) (fun i _ _ => l.length - (intOf i).toNat)
      case atStart => exact ⟨0, by omega, rfl, rfl, HN, Lib.hid rfl, Lib.hid (Below.refl _ _)⟩
      case round =>
        rename_i wq
        clear x0 x1 x2 x3 x4 x5 x6 x7 x8 x9
        obtain ⟨j, hj, rfl, rfl, HN2, HA2, HB2⟩ := hrel
        have HB3 := Lib.hid (below_then HB.out HB2.out (Nat.le_refl _))
        obtain ⟨x0, x1, x2, x3, x4, x5, x6, x7, x8, x9⟩ := (HBk.out.below HB3.out HBk.out.lt).script
        dsimp only at x7 x8 x9
        have hq2 := (HB2.out.cell (World.block_lt_of_cell? _ _ hq)).trans hq
        have HW := Lib.hid hq
        clear hq
        by_cases hjn : j < l.length
        · have hl2 : l[j]? = some l[j] := List.getElem?_eq_getElem hjn
          obtain ⟨b2, off2, rfl, c0, c1, c2⟩ := (HR.out.below HB2.out).tri j _ hl2
          have gj : (j : Int) < l.length := by omega
          have w3 := IntWalk.i64_in ((j : Int) + 1) (by omega)
          have HL2 := Lib.hid hl2
          clear hl2
          generalize l[j] = t at *
          have hn2 := HN2.out
          have w4 : IntKind.i64.wrap (((t0 + j : Nat) : Int) + 1) = ((t0 + (j + 1) : Nat) : Int) := by
            rw [IntWalk.i64_in _ (by omega)]
            omega
          by_cases h48 : t0 + (j + 1) ≤ 48
          · have g48 : ¬ (48 : Int) < ((t0 + (j + 1) : Nat) : Int) := by omega
            have HN3 := Lib.hid h48
            have KR := rcright_any t
            clear h48 hn2 HN2
            generalize hn0 : ((t0 + j : Nat) : Int) = n0 at *
            generalize hn1 : ((t0 + (j + 1) : Nat) : Int) = n1 at *
            have hn0 := Lib.hid hn0
            have hn1 := Lib.hid hn1
            go_wp2_with fail
            refine (KR _).mono ?_
            rintro e w2 ⟨rfl, hb⟩
            have HB4 := Lib.hid (below_then HB2.out hb (Nat.le_refl _))
            have HB5 := Lib.hid (below_then HB3.out hb (Nat.le_refl _))
            clear hb KR
            cases hrb : rightB t with
            | false =>
              have HE := Lib.hid (show rightS ⟨c, ls, ps, ds⟩ = false from rightS_rc _ (rcB_not _ _ (all_false k l HL.out (all_false j t HL2.out hrb))))
              have HF2 := Lib.hid (below_then HF.out HB5.out (Nat.le_refl _))
              go_wp2
              go_ret
              exact ⟨ret_b HE.out, HF2.out⟩
            | true =>
              have HA3 := Lib.hid (all_take j t HL2.out HA2.out hrb)
              go_wp2
              go_roundw
              case rel => exact ⟨j + 1, by omega, by go_num, by rw [hn1.out], HN3, HA3, HB4⟩
              case measure => simp [intOf]; omega
          · have g48 : (48 : Int) < ((t0 + (j + 1) : Nat) : Int) := by omega
            have HE := Lib.hid (show rightS ⟨c, ls, ps, ds⟩ = false from rightS_rc _ (rcB_far _ _ (by
              have a := HTL.out
              have d := HT.out
              dsimp only
              omega)))
            have HF2 := Lib.hid (below_then HF.out HB3.out (Nat.le_refl _))
            clear h48 hn2 HN2
            generalize ((t0 + j : Nat) : Int) = n0 at *
            generalize ((t0 + (j + 1) : Nat) : Int) = n1 at *
            go_wp2
            go_ret
            exact ⟨ret_b HE.out, HF2.out⟩
        · obtain rfl : j = l.length := by omega
          have HA3 := Lib.hid (show allB (ls.take (k + 1)) = true from all_take k l HL.out HA.out (by have := HA2.out; rwa [List.take_length] at this))
          have HN3 := Lib.hid (show tot (ls.take (k + 1)) ≤ 48 by rw [HT.out]; exact HN2.out)
          have HT2 := Lib.hid (show Value.int .i64 ((t0 + l.length : Nat) : Int) = .int .i64 (tot (ls.take (k + 1))) by rw [HT.out])
          generalize ((t0 + l.length : Nat) : Int) = n0 at *
          go_wp2
          go_roundw
          case rel => exact ⟨k + 1, by omega, by go_num, HT2.out, HN3, HA3, HB3⟩
          case measure => simp [intOf]; omega
    · obtain rfl : k = ls.length := by omega
      have HRC := Lib.hid (show rcB c.th ls = true by
        have e := HA.out
        have n := HN.out
        rw [List.take_length] at e n
        simp [rcB, HTH.out, n, e])
      rw [List.take_length] at *
      generalize tot ls = t0 at *
      go_wp2_with fail
      go_loopw [6] (fun i W => ∃ j : Nat, j ≤ ps.length ∧ i = .int .i64 j ∧ Hid ((ps.take j).all (fun p => decide (0 ≤ p) && decide (p < c.th)) = true) ∧ Hid (Below W0.heap.size W0 W)) (fun i _ => ps.length - (intOf i).toNat)
      case atStart => exact ⟨0, by omega, rfl, Lib.hid rfl, HB⟩
      case round =>
        rename_i wq
        clear x0 x1 x2 x3 x4 x5 x6 x7 x8 x9
        obtain ⟨j, hj, rfl, HA2, HB2⟩ := hrel
        have HBw2 := Lib.hid (below_then HF.out HB2.out (Nat.le_refl _))
        obtain ⟨x0, x1, x2, x3, x4, x5, x6, x7, x8, x9⟩ := (HBk.out.below HB2.out HBk.out.lt).script
        dsimp only at x7 x8 x9
        have HYY := Lib.hid (HV.out.below HBw2.out).hy
        by_cases hjn : j < ps.length
        · have hl : ps[j]? = some ps[j] := List.getElem?_eq_getElem hjn
          obtain ⟨b, off, rfl, hq⟩ := HYY.out.pick j _ hl
          have gj : (j : Int) < ps.length := by omega
          have w2 := IntWalk.i64_in ((j : Int) + 1) (by omega)
          have HL := Lib.hid hl
          clear hl
          generalize ps[j] = p at *
          have HE := Lib.hid (fun (e : (decide (0 ≤ p) && decide (p < c.th)) = false) => rightS_rp ⟨c, ls, ps, ds⟩ (show rpB c.th ps = false by
            have := all_false j p HL.out (p := fun p => decide (0 ≤ p) && decide (p < c.th)) e
            simp only [rpB, this, Bool.and_false]))
          by_cases h1 : p < 0
          · have HE := Lib.hid (HE.out (by simp; omega))
            go_wp2_with fail
            go_quiet (fail)
            go_wp2
            go_ret
            exact ⟨ret_b HE.out, below_drewN HBw2.out _⟩
          by_cases h2 : c.th ≤ p
          · have HE := Lib.hid (HE.out (by simp; omega))
            go_wp2_with fail
            go_quiet (fail)
            go_wp2
            go_ret
            exact ⟨ret_b HE.out, below_drewN HBw2.out _⟩
          have HA3 := Lib.hid (all_take j p HL.out HA2.out (p := fun p => decide (0 ≤ p) && decide (p < c.th)) (by simp; omega))
          go_wp2_with fail
          go_quiet (fail)
          go_wp2
          go_roundw
          case rel => exact ⟨j + 1, by omega, by go_num, HA3, Lib.hid (below_drewN HB2.out _)⟩
          case measure => simp [intOf]; omega
        · obtain rfl : j = ps.length := by omega
          have HE := Lib.hid (show rightS ⟨c, ls, ps, ds⟩ = true from HSE.out true true HRC.out (by
            have e := HA2.out
            rw [List.take_length] at e
            simp only [rpB, e, HP6.out]
            rfl))
          clear HA2
          go_wp2
          go_ret
          exact ⟨ret_b HE.out, HBw2.out⟩
end Go.Proofs.Ytdmdmkgpnelkjaa
