/- ScriptRight's walk. -/
import Derived.Test.YtdmdmkgpnelkjaaLight
import Derived.Test.YtdmdmkgpnelkjaaLaw1
namespace Go.Proofs.Ytdmdmkgpnelkjaa
open Go.ChangeShapes Go.WideShapes Go.ChangeAt Go.RowKit
set_option linter.unusedVariables false

/-- A script, boxed first; what lay there is as it was. -/
structure BX (w : World) (c : Cf) (x y z : Sl) (W : World) : Prop where
  box : Blk W w.heap.size 29 (scs c x y z)
  bel : Below w.heap.size w W
theorem BX.below {w W V : World} {c : Cf} {x y z : Sl} (h : BX w c x y z W) (b : Below W.heap.size W V) : BX w c x y z V := ⟨h.box.below b h.box.lt, below_then h.bel b (Nat.le_refl _)⟩
theorem BX.drew {w W : World} {c : Cf} {x y z : Sl} (h : BX w c x y z W) : BX w c x y z W.drew := h.below (below_drew1 (Below.refl _ _))
theorem BX.start (w : World) (c : Cf) (x y z : Sl) : BX w c x y z (w.alloc (.cells (scs c x y z) 29)) := ⟨Blk.new _ _ _, box1 _⟩
theorem light_parts {s : Sc} (h : lightB s = true) : s.ls.length ≤ 100 ∧ tot s.ls ≤ 1000 ∧ s.ps.length ≤ 70000 ∧ s.ds.length ≤ 10000 := by
  simpa [lightB] using h

set_option maxRecDepth 100000 in
set_option maxHeartbeats 16000000 in
theorem right_law (s : Sc) (x y z : Sl) (w : World) (h : SV w s x y z) (hs : ∀ l ∈ s.ls, l.length ≤ 1125899906842624) : Calls Try.prog 4 #[sv s.c x y z] w (Good w) := by
  have hS0 := BX.start w s.c x y z
  have K0 := light_any s x y z _ (h.below hS0.bel) hs
  cases hl : lightB s with
  | false =>
    rw [hl] at K0
    obtain ⟨c, ls, ps, ds⟩ := s
    dsimp only at *
    have HS := Lib.hid hS0
    clear h hs hl hS0
    go_enter Try.func4, Try.ntmps4
    go_wp2_with fail
    refine K0.mono ?_
    rintro e w1 ⟨rfl, hb⟩
    have H1 := Lib.hid (HS.out.below hb).bel
    have KL := Lib.hid (lives_any w1)
    clear hb K0 HS
    go_wp2_with fail
    refine KL.out.mono ?_
    rintro e w2 ⟨rfl, hb⟩
    have HF := Lib.hid (below_then H1.out hb (Nat.le_refl _))
    clear hb
    go_wp2
    go_ret
    exact ⟨rfl, HF.out⟩
  | true =>
    rw [hl] at K0
    obtain ⟨b1, b2, b3, b4⟩ := light_parts hl
    have KR := fun W (hb : Below w.heap.size w W) => rightS_any s x y z W (h.below hb) (by omega)
    have KD := fun W (hb : Below w.heap.size w W) => refRightS_any s x y z W (h.below hb)
    have KN := fun W (hb : Below w.heap.size w W) => calls_any s x y z W (h.below hb) (by omega)
    have HV := Lib.hid h
    have hxl := h.hx.len
    have hyl := h.hy.picks_len
    have hzl := h.hz.len
    have HBL := Lib.hid (bytesOf_len s)
    -- what Write answers
    have KW : ∃ (er : Int), (rightS s = true ∧ er = 0 ∨ rightS s = false ∧ er = 1) ∧ ∀ W, Below w.heap.size w W → Calls Try.prog 11 #[sv s.c x y z] W fun e W' => (∃ b : Sl, e = .returned (.tuple #[.slice b.a b.n b.cap, .int .i64 er]) ∧ (rightS s = true → b.n = (bytesOf s).length) ∧ (rightS s = false → b.n = 0)) ∧ Below W.heap.size W W' := by
      cases hr : rightS s with
      | true =>
        refine ⟨0, .inl ⟨rfl, rfl⟩, fun W hb => (write_good s x y z W (h.below hb) hr).mono fun e W' ⟨⟨b, he, hR, hB⟩⟩ => ⟨⟨b, he, fun _ => hR.len.symm, fun e => by cases e⟩, hB⟩⟩
      | false =>
        refine ⟨1, .inr ⟨rfl, rfl⟩, fun W hb => (write_bad s x y z W (h.below hb) (by omega) hr).mono fun e W' ⟨he, hB⟩ => ⟨⟨nilS, he, (fun e => by cases e), fun _ => rfl⟩, hB⟩⟩
    obtain ⟨er, her, KW⟩ := KW
    generalize rightS s = r at *
    generalize hbl : (bytesOf s).length = bl at *
    obtain ⟨c, ls, ps, ds⟩ := s
    obtain ⟨xa, xn, xc⟩ := x
    obtain ⟨ya, yn, yc⟩ := y
    obtain ⟨za, zn, zc'⟩ := z
    dsimp only at *
    subst hxl hyl hzl
    have HB := Lib.hid (And.intro b1 (And.intro b2 (And.intro b3 b4)))
    have HER := Lib.hid her
    have HS := Lib.hid hS0
    have HKW := Lib.hid KW
    have HKR := Lib.hid KR
    have HKD := Lib.hid KD
    have HKN := Lib.hid KN
    clear h hs hl hS0 b1 b2 b3 b4 her KW KR KD KN hbl
    go_enter Try.func4, Try.ntmps4
    go_wp2_with fail
    refine K0.mono ?_
    rintro e w1 ⟨rfl, hb⟩
    have HS1 := Lib.hid (HS.out.below hb)
    clear hb K0 HS
    obtain ⟨x0, x1, x2, x3, x4, x5, x6, x7, x8, x9⟩ := HS1.out.box.script
    go_wp2_with fail
    refine (HKW.out _ HS1.out.bel).mono ?_
    rintro e w2 ⟨⟨b, rfl, hb1, hb2⟩, hb⟩
    have HS2 := Lib.hid (HS1.out.below hb)
    have HB1 := Lib.hid hb1
    have HB2 := Lib.hid hb2
    clear hb hb1 hb2 HS1 HKW x0 x1 x2 x3 x4 x5 x6 x7 x8 x9
    obtain ⟨ba, bn, bc⟩ := b
    dsimp only at HB1 HB2
    have hV2 := Lib.hid (HV.out.below HS2.out.bel)
    obtain ⟨x0, x1, x2, x3, x4, x5, x6, x7, x8, x9⟩ := HS2.out.box.script
    dsimp only at x7 x8 x9
    go_wp2_with fail
    go_loop [6, 5] (fun i n => ∃ k : Nat, k ≤ ls.length ∧ i = .int .i64 k ∧ n = .int .i64 (tot (ls.take k))) (fun i _ => ls.length - (intOf i).toNat)
    case atStart => exact ⟨0, by omega, rfl, rfl⟩
    case round =>
      obtain ⟨k, hk, rfl, rfl⟩ := hrel
      have hBB := HB.out
      by_cases hkn : k < ls.length
      · have gk : (k : Int) < ls.length := by omega
        have hl : ls[k]? = some ls[k] := List.getElem?_eq_getElem hkn
        obtain ⟨b, off, q, rfl, hq, hqn, hr⟩ := hV2.out.hx.at_ k _ hl
        have ht := tot_take ls k _ hl
        have h2 := tot_le ls (k + 1)
        have w1 : IntKind.i64.wrap ((tot (ls.take k) : Int) + (ls[k].length : Int)) = (tot (ls.take (k + 1)) : Int) := by
          rw [ht] at h2 ⊢
          push_cast
          exact IntWalk.i64_in _ (by omega)
        have w2 := IntWalk.i64_in ((k : Int) + 1) (by omega)
        obtain ⟨qa, qn, qc⟩ := q
        dsimp only at hq hqn
        subst hqn
        clear ht h2 hr hl
        generalize ls[k].length = m at *
        go_wp2
        go_round
        case rel => exact ⟨k + 1, by omega, by go_num, rfl⟩
        case measure => simp [intOf]; omega
      · obtain rfl : k = ls.length := by omega
        rw [List.take_length]
        have HT := Lib.hid (show (tot ls : Nat) ≤ 1000 by omega)
        generalize htt : ((tot ls : Nat) : Int) = tt at *
        have HTT := Lib.hid htt
        clear hBB hkn htt
        have S' := HS2.out.drew
        have hcs : ∀ U, BX w c ⟨xa, ls.length, xc⟩ ⟨ya, ps.length, yc⟩ ⟨za, ds.length, zc'⟩ U → U.cell? ⟨w.heap.size, 0, none⟩ = some (.int .i64 c.al) ∧ U.cell? ⟨w.heap.size, 1, none⟩ = some (.int .i64 c.th) ∧ U.cell? ⟨w.heap.size, 2, none⟩ = some (.int .i64 c.nd) ∧ U.cell? ⟨w.heap.size, 3, none⟩ = some (.int .i64 c.lv) ∧
          U.cell? ⟨w.heap.size, 4, none⟩ = some (.int .i64 c.ba) ∧ U.cell? ⟨w.heap.size, 5, none⟩ = some (.int .i64 c.pr) ∧ U.cell? ⟨w.heap.size, 6, none⟩ = some (.int .i64 c.sc) ∧ U.cell? ⟨w.heap.size, 7, none⟩ = some (.slice xa ls.length xc) ∧ U.cell? ⟨w.heap.size, 8, none⟩ = some (.slice ya ps.length yc) ∧ U.cell? ⟨w.heap.size, 9, none⟩ = some (.slice za ds.length zc') := fun U hU => hU.box.script
        have HCS := Lib.hid hcs
        clear hcs
        go_wp2_with fail
        go_region_held3 (fun U => U.cell? ⟨w.heap.size, 0, none⟩ = some (.int .i64 c.al) ∧ U.cell? ⟨w.heap.size, 1, none⟩ = some (.int .i64 c.th) ∧ U.cell? ⟨w.heap.size, 2, none⟩ = some (.int .i64 c.nd) ∧ U.cell? ⟨w.heap.size, 3, none⟩ = some (.int .i64 c.lv) ∧ U.cell? ⟨w.heap.size, 4, none⟩ = some (.int .i64 c.ba) ∧ U.cell? ⟨w.heap.size, 5, none⟩ = some (.int .i64 c.pr) ∧ U.cell? ⟨w.heap.size, 6, none⟩ = some (.int .i64 c.sc) ∧ U.cell? ⟨w.heap.size, 7, none⟩ = some (.slice xa ls.length xc) ∧ U.cell? ⟨w.heap.size, 8, none⟩ = some (.slice ya ps.length yc) ∧ U.cell? ⟨w.heap.size, 9, none⟩ = some (.slice za ds.length zc')) (exact HCS.out _ (by assumption))
          (first | (go_at_call 12; refine (HKR.out _ (BX.bel (by assumption))).mono ?_; rintro e V' ⟨rfl, hb⟩; have S' := BX.below (by assumption) hb; clear hb) | (go_at_call 13; refine (HKD.out _ (BX.bel (by assumption))).mono ?_; rintro e V' ⟨rfl, hb⟩; have S' := BX.below (by assumption) hb; clear hb) | (go_at_call 14; refine (HKN.out _ (BX.bel (by assumption))).mono ?_; rintro e V' ⟨rfl, hb⟩; have S' := BX.below (by assumption) hb; clear hb))
        all_goals
          have HS3 := Lib.hid S'
          clear S'
          obtain ⟨x0, x1, x2, x3, x4, x5, x6, x7, x8, x9⟩ := HS3.out.box.script
          dsimp only at x7 x8 x9
          go_wp2_with fail
          refine (HKD.out _ HS3.out.bel).mono ?_
          rintro e V5 ⟨rfl, hb⟩
          have HS5 := Lib.hid (HS3.out.below hb)
          have KL := Lib.hid (lives_any V5)
          clear hb x0 x1 x2 x3 x4 x5 x6 x7 x8 x9
          obtain ⟨x0, x1, x2, x3, x4, x5, x6, x7, x8, x9⟩ := HS5.out.box.script
          dsimp only at x7 x8 x9
          cases r with
          | true =>
            obtain rfl : er = 0 := by
              rcases HER.out with ⟨_, h⟩ | ⟨h, _⟩
              · exact h
              · cases h
            have hbl := HB1.out rfl
            have hb5 := HB.out
            have m1 : IntKind.i64.wrap (10 * tt) = 10 * tt := IntWalk.i64_in _ (by have := HTT.out; have := HT.out; omega)
            have m2 : IntKind.i64.wrap (10 + 10 * tt) = 10 + 10 * tt := IntWalk.i64_in _ (by have := HTT.out; have := HT.out; omega)
            have m3 : IntKind.i64.wrap (10 + 10 * tt + (ps.length : Int)) = 10 + 10 * tt + (ps.length : Int) := IntWalk.i64_in _ (by have := HTT.out; have := HT.out; omega)
            have m4 : IntKind.i64.wrap (10 + 10 * tt + (ps.length : Int) + (ds.length : Int)) = 10 + 10 * tt + (ps.length : Int) + (ds.length : Int) := IntWalk.i64_in _ (by have := HTT.out; have := HT.out; omega)
            have m5 : ((bn : Int) == 10 + 10 * tt + (ps.length : Int) + (ds.length : Int)) = true := by
              have := HBL.out
              have := HTT.out
              simp
              omega
            clear hbl hb5
            go_wp2_with fail
            refine KL.out.mono ?_
            rintro e V6 ⟨rfl, hb⟩
            have HF := Lib.hid (below_then HS5.out.bel hb (Nat.le_refl _))
            clear hb
            go_wp2
            go_ret
            exact ⟨rfl, HF.out⟩
          | false =>
            obtain rfl : er = 1 := by
              rcases HER.out with ⟨h, _⟩ | ⟨_, h⟩
              · cases h
              · exact h
            obtain rfl : bn = 0 := HB2.out rfl
            go_wp2_with fail
            refine KL.out.mono ?_
            rintro e V6 ⟨rfl, hb⟩
            have HF := Lib.hid (below_then HS5.out.bel hb (Nat.le_refl _))
            clear hb
            go_wp2
            go_ret
            exact ⟨rfl, HF.out⟩
end Go.Proofs.Ytdmdmkgpnelkjaa
