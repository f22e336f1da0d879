/- ScriptBack's walk. -/
import Derived.Test.YtdmdmkgpnelkjaaLaw2
namespace Go.Proofs.Ytdmdmkgpnelkjaa
open Go.ChangeShapes Go.WideShapes Go.ChangeAt Go.RowKit
set_option linter.unusedVariables false

theorem parse_err {bs : List Int} {e : Int} (h : parseL bs = .error e) : ¬ e = 0 := by
  by_cases h1 : bs.length < 7
  · rw [parse1 h1] at h; cases h; decide
  by_cases h2 : (ofB bs).Ok
  case neg => rw [parse2 h1 h2] at h; cases h; decide
  by_cases h3 : bs.length < 8
  · rw [parse3 h1 h2 h3] at h; cases h; decide
  by_cases h4 : 48 < byteAt bs 7
  · rw [parse4 h2 h3 h4] at h; cases h; decide
  by_cases h5 : bs.length < 10 + 10 * nOf bs
  · rw [parse5 h2 h3 h4 h5] at h; cases h; decide
  by_cases h6 : 60000 < mOf bs
  · rw [parse6 h2 h4 h5 h6] at h; cases h; decide
  by_cases h7 : bs.length < 10 + 10 * nOf bs + mOf bs
  · rw [parse7 h2 h4 h5 h6 h7] at h; cases h; decide
  by_cases h8 : 4096 < bs.length - (10 + 10 * nOf bs + mOf bs)
  · rw [parse8 h2 h4 h6 h7 h8] at h; cases h; decide
  rw [parse9 h2 h4 h6 h7 h8] at h
  cases h
/-- A script that was told, boxed at U. -/
structure UB (s : Sc) (w : World) (U : Nat) (x y z : Sl) (W : World) : Prop where
  box : Blk W U 29 (scs s.c x y z)
  sv : SV W s x y z
  bel : Below w.heap.size w W
theorem UB.below {s : Sc} {w W V : World} {U : Nat} {x y z : Sl} (h : UB s w U x y z W) (b : Below W.heap.size W V) : UB s w U x y z V := ⟨h.box.below b h.box.lt, h.sv.below b, below_then h.bel b (Nat.le_refl _)⟩
theorem UB.new {s : Sc} {w W : World} {x y z : Sl} (h : SV W s x y z) (hb : Below w.heap.size w W) : UB s w W.heap.size x y z (W.alloc (.cells (scs s.c x y z) 29)) := ⟨Blk.new _ _ _, h.below (box1 _), hb.alloc hb.size _⟩

set_option maxRecDepth 100000 in
set_option maxHeartbeats 16000000 in
theorem back_law (s : Sc) (x y z : Sl) (r : Sl) (bs : List Int) (w : World) (h : SV w s x y z) (hs : ∀ l ∈ s.ls, l.length ≤ 1125899906842624) (hr : Rd w r.a r.n r.cap bs) : Calls Try.prog 5 #[sv s.c x y z, .slice r.a r.n r.cap] w (Good w) := by
  have hS0 := BX.start w s.c x y z
  have K0 := light_any s x y z _ (h.below hS0.bel) hs
  have hroom := hr.room
  unfold maxLen at hroom
  have hrl := hr.len
  cases hl : lightB s with
  | false =>
    rw [hl] at K0
    obtain ⟨c, ls, ps, ds⟩ := s
    obtain ⟨ra, rn, rc⟩ := r
    dsimp only at *
    have HS := Lib.hid hS0
    clear h hs hl hS0 hr
    go_enter Try.func5, Try.ntmps5
    go_wp2_with fail
    refine K0.mono ?_
    rintro e w1 ⟨rfl, hb⟩
    have H1 := Lib.hid (HS.out.below hb).bel
    have KL := Lib.hid (lives_any w1)
    clear hb K0 HS
    go_wp2_with fail
    refine KL.out.mono ?_
    rintro e w2 ⟨rfl, hb⟩
    have HF := Lib.hid (below_then H1.out hb (Nat.le_refl _))
    clear hb
    go_wp2
    go_ret
    exact ⟨rfl, HF.out⟩
  | true =>
    rw [hl] at K0
    obtain ⟨b1, b2, b3, b4⟩ := light_parts hl
    by_cases hbig : r.n ≤ 100000
    case neg =>
      have g : (100000 : Int) < r.n := by omega
      obtain ⟨c, ls, ps, ds⟩ := s
      obtain ⟨ra, rn, rc⟩ := r
      dsimp only at *
      have HS := Lib.hid hS0
      clear h hs hl hS0 hr b1 b2 b3 b4 hbig
      go_enter Try.func5, Try.ntmps5
      go_wp2_with fail
      refine K0.mono ?_
      rintro e w1 ⟨rfl, hb⟩
      have H1 := Lib.hid (HS.out.below hb).bel
      have KL := Lib.hid (lives_any w1)
      clear hb K0 HS
      go_wp2_with fail
      refine KL.out.mono ?_
      rintro e w2 ⟨rfl, hb⟩
      have HF := Lib.hid (below_then H1.out hb (Nat.le_refl _))
      clear hb
      go_wp2
      go_ret
      exact ⟨rfl, HF.out⟩
    case pos =>
    have g : ¬ (100000 : Int) < r.n := by omega
    have HV := Lib.hid h
    have HR := Lib.hid hr
    have HTT := Lib.hid (show tot s.ls ≤ 1000000 by omega)
    have HRL := Lib.hid hrl
    cases hri : rightS s with
    | false =>
      have KW := fun W (hb : Below w.heap.size w W) => write_bad s x y z W (h.below hb) (by omega) hri
      obtain ⟨c, ls, ps, ds⟩ := s
      obtain ⟨ra, rn, rc⟩ := r
      dsimp only at *
      have HS := Lib.hid hS0
      have HKW := Lib.hid KW
      clear h hs hl hS0 hr b1 b2 b3 b4 hbig KW hri hrl
      go_enter Try.func5, Try.ntmps5
      go_wp2_with fail
      refine K0.mono ?_
      rintro e w1 ⟨rfl, hb⟩
      have HS1 := Lib.hid (HS.out.below hb)
      clear hb K0 HS
      obtain ⟨x0, x1, x2, x3, x4, x5, x6, x7, x8, x9⟩ := HS1.out.box.script
      go_wp2_with fail
      refine (HKW.out _ HS1.out.bel).mono ?_
      rintro e w2 ⟨rfl, hb⟩
      have HB := Lib.hid (HS1.out.below hb).bel
      clear hb HKW HS1 x0 x1 x2 x3 x4 x5 x6 x7 x8 x9
      have KP := parse_any ⟨ra, rn, rc⟩ bs w2 (HR.out.below HB.out)
      have hby := HR.out.bytes
      cases hp : parseL bs with
      | error er =>
        rw [hp] at KP
        have h0 : (er == 0) = false := by simpa using parse_err hp
        clear hp hby
        dsimp only at KP
        go_wp2_with fail
        refine KP.mono ?_
        rintro e u1 ⟨x1, y1, z1, rfl, hV1, hb⟩
        simp only [scOf] at hV1
        have hxl := hV1.hx.len
        have HB1 := Lib.hid ((below_then HB.out hb (Nat.le_refl _)).alloc (below_then HB.out hb (Nat.le_refl _)).size (.cells (scs zc x1 y1 z1) 29))
        have KL := Lib.hid (lives_any (u1.alloc (.cells (scs zc x1 y1 z1) 29)))
        obtain ⟨x1a, x1n, x1c⟩ := x1
        dsimp only at hxl
        simp only [List.length_nil] at hxl
        subst hxl
        clear hV1 hb KP HB
        simp only [scOf, erOf]
        go_wp2_with fail
        refine KL.out.mono ?_
        rintro e u2 ⟨rfl, hb⟩
        have HF := Lib.hid (below_then HB1.out hb (Nat.le_refl _))
        clear hb
        go_wp2
        go_ret
        exact ⟨rfl, HF.out⟩
      | ok u =>
        rw [hp] at KP
        obtain ⟨hur, hulen⟩ := parse_right bs hby hp
        clear hp hby
        dsimp only at KP
        go_wp2_with fail
        refine KP.mono ?_
        rintro e u1 ⟨x1, y1, z1, rfl, hV1, hb⟩
        simp only [scOf] at hV1
        have HU := Lib.hid (UB.new hV1 (below_then HB.out hb (Nat.le_refl _)))
        have HTU := Lib.hid (show tot u.ls ≤ 1000000 by have := (rightS_parts hur).2.2.1; omega)
        have HUR := Lib.hid hur
        have HPB2 := Lib.hid (parse_bytes u hur hV1.fit)
        have HLEN := Lib.hid (show (bytesOf u).length = rn by rw [hulen, HRL.out])
        have KW2 := write_good u x1 y1 z1 _ HU.out.sv hur
        clear hV1 hb KP HB hur hulen
        generalize bytesOf u = ub at *
        obtain ⟨x0, x1', x2, x3, x4, x5, x6, x7, x8, x9⟩ := HU.out.box.script
        simp only [scOf, erOf]
        go_wp2_with fail
        refine KW2.mono ?_
        rintro e u2 ⟨bw2, rfl, hRw2, hb⟩
        have HU2 := Lib.hid (HU.out.below hb)
        have hbl2 := hRw2.len
        have KP2 := parse_any bw2 ub u2 hRw2
        rw [HPB2.out] at KP2
        clear hb KW2 HU hRw2 x0 x1' x2 x3 x4 x5 x6 x7 x8 x9
        obtain ⟨b2a, b2n, b2c⟩ := bw2
        dsimp only at KP2 hbl2
        have HBL2 := Lib.hid hbl2
        clear hbl2
        go_wp2_with fail
        refine KP2.mono ?_
        rintro e u3 ⟨x3', y3', z3', rfl, hV3, hb⟩
        simp only [scOf] at hV3
        have HU3 := Lib.hid (HU2.out.below hb)
        have HT3 := Lib.hid (UB.new hV3 HU3.out.bel)
        have HU4 := Lib.hid (HU3.out.below (box1 (.cells (scs u.c x3' y3' z3') 29)))
        have KR := rightS_any u x1 y1 z1 _ HU4.out.sv HTU.out
        rw [HUR.out] at KR
        have hU3 : u1.heap.size < u3.heap.size := HU3.out.box.lt
        clear hb KP2 HU2 hV3
        obtain ⟨x0, x1', x2, x3, x4, x5, x6, x7, x8, x9⟩ := HU4.out.box.script
        simp only [scOf, erOf]
        go_wp2_with fail
        refine KR.mono ?_
        rintro e u5 ⟨rfl, hb⟩
        have HU5 := Lib.hid (HU4.out.below hb)
        have HT5 := Lib.hid (HT3.out.below hb)
        have KS2 := same_any u x1 y1 z1 x3' y3' z3' _ HU5.out.sv HT5.out.sv
        clear hb KR HU4 HT3 HU3 x0 x1' x2 x3 x4 x5 x6 x7 x8 x9
        obtain ⟨x0, x1', x2, x3, x4, x5, x6, x7, x8, x9⟩ := HU5.out.box.script
        obtain ⟨t0, t1, t2, t3, t4, t5, t6, t7, t8, t9⟩ := HT5.out.box.script
        have hll : ((b2n : Int) == (rn : Int)) = true := by
          have := HBL2.out
          have := HLEN.out
          simp
          omega
        go_wp2_with fail
        refine KS2.mono ?_
        rintro e u6 ⟨rfl, hb⟩
        have HB6 := Lib.hid (HU5.out.below hb).bel
        have KL := Lib.hid (lives_any u6)
        clear hb KS2 HU5 HT5 x0 x1' x2 x3 x4 x5 x6 x7 x8 x9 t0 t1 t2 t3 t4 t5 t6 t7 t8 t9
        go_wp2_with fail
        refine KL.out.mono ?_
        rintro e u7 ⟨rfl, hb⟩
        have HF := Lib.hid (below_then HB6.out hb (Nat.le_refl _))
        clear hb
        go_wp2
        go_ret
        exact ⟨rfl, HF.out⟩
    | true =>
      have KW := fun W (hb : Below w.heap.size w W) => write_good s x y z W (h.below hb) hri
      have hpb := parse_bytes s hri h.fit
      generalize bytesOf s = wb at *
      have HPB := Lib.hid hpb
      have hsc : scOf (.ok s) = s := rfl
      have KS := fun (x' y' z' : Sl) W (hb : Below w.heap.size w W) (h' : SV W s x' y' z') => same_any s x y z x' y' z' W (h.below hb) h'
      obtain ⟨c, ls, ps, ds⟩ := s
      obtain ⟨ra, rn, rc⟩ := r
      dsimp only at *
      have HS := Lib.hid hS0
      have HKW := Lib.hid KW
      have HKS := Lib.hid KS
      clear h hs hl hS0 hr b1 b2 b3 b4 hbig KW KS hri hrl hpb
      go_enter Try.func5, Try.ntmps5
      go_wp2_with fail
      refine K0.mono ?_
      rintro e w1 ⟨rfl, hb⟩
      have HS1 := Lib.hid (HS.out.below hb)
      clear hb K0 HS
      obtain ⟨x0, x1, x2, x3, x4, x5, x6, x7, x8, x9⟩ := HS1.out.box.script
      go_wp2_with fail
      refine (HKW.out _ HS1.out.bel).mono ?_
      rintro e w2 ⟨bw, rfl, hRw, hb⟩
      have HS2 := Lib.hid (HS1.out.below hb)
      have KP := parse_any bw wb w2 hRw
      rw [HPB.out] at KP
      clear hb HKW HS1 x0 x1 x2 x3 x4 x5 x6 x7 x8 x9 hRw
      obtain ⟨bwa, bwn, bwc⟩ := bw
      dsimp only at KP
      go_wp2_with fail
      refine KP.mono ?_
      rintro e w3 ⟨x', y', z', rfl, hV', hb⟩
      simp only [scOf] at hV'
      have HS3 := Lib.hid (HS2.out.below hb)
      have HU := Lib.hid (UB.new hV' HS3.out.bel)
      have HS4 := Lib.hid (HS3.out.below (box1 (.cells (scs c x' y' z') 29)))
      have hlt3 : w.heap.size < w3.heap.size := HS3.out.box.lt
      clear hb hV' KP HS2
      obtain ⟨x0, x1, x2, x3, x4, x5, x6, x7, x8, x9⟩ := HS3.out.box.script
      have KS1 := HKS.out x' y' z' _ HS4.out.bel HU.out.sv
      clear HKS
      simp only [scOf, erOf]
      go_wp2_with fail
      refine KS1.mono ?_
      rintro e w4 ⟨rfl, hb⟩
      have HB := Lib.hid (HS4.out.below hb).bel
      clear hb KS1 HS4 HS3 HU x0 x1 x2 x3 x4 x5 x6 x7 x8 x9
      have KP := parse_any ⟨ra, rn, rc⟩ bs w4 (HR.out.below HB.out)
      have hby := HR.out.bytes
      cases hp : parseL bs with
      | error er =>
        rw [hp] at KP
        have h0 : (er == 0) = false := by simpa using parse_err hp
        clear hp hby
        dsimp only at KP
        go_wp2_with fail
        refine KP.mono ?_
        rintro e u1 ⟨x1, y1, z1, rfl, hV1, hb⟩
        simp only [scOf] at hV1
        have hxl := hV1.hx.len
        have HB1 := Lib.hid ((below_then HB.out hb (Nat.le_refl _)).alloc (below_then HB.out hb (Nat.le_refl _)).size (.cells (scs zc x1 y1 z1) 29))
        have KL := Lib.hid (lives_any (u1.alloc (.cells (scs zc x1 y1 z1) 29)))
        obtain ⟨x1a, x1n, x1c⟩ := x1
        dsimp only at hxl
        simp only [List.length_nil] at hxl
        subst hxl
        clear hV1 hb KP HB
        simp only [scOf, erOf]
        go_wp2_with fail
        refine KL.out.mono ?_
        rintro e u2 ⟨rfl, hb⟩
        have HF := Lib.hid (below_then HB1.out hb (Nat.le_refl _))
        clear hb
        go_wp2
        go_ret
        exact ⟨rfl, HF.out⟩
      | ok u =>
        rw [hp] at KP
        obtain ⟨hur, hulen⟩ := parse_right bs hby hp
        clear hp hby
        dsimp only at KP
        go_wp2_with fail
        refine KP.mono ?_
        rintro e u1 ⟨x1, y1, z1, rfl, hV1, hb⟩
        simp only [scOf] at hV1
        have HU := Lib.hid (UB.new hV1 (below_then HB.out hb (Nat.le_refl _)))
        have HTU := Lib.hid (show tot u.ls ≤ 1000000 by have := (rightS_parts hur).2.2.1; omega)
        have HUR := Lib.hid hur
        have HPB2 := Lib.hid (parse_bytes u hur hV1.fit)
        have HLEN := Lib.hid (show (bytesOf u).length = rn by rw [hulen, HRL.out])
        have KW2 := write_good u x1 y1 z1 _ HU.out.sv hur
        clear hV1 hb KP HB hur hulen
        generalize bytesOf u = ub at *
        obtain ⟨x0, x1', x2, x3, x4, x5, x6, x7, x8, x9⟩ := HU.out.box.script
        simp only [scOf, erOf]
        go_wp2_with fail
        refine KW2.mono ?_
        rintro e u2 ⟨bw2, rfl, hRw2, hb⟩
        have HU2 := Lib.hid (HU.out.below hb)
        have hbl2 := hRw2.len
        have KP2 := parse_any bw2 ub u2 hRw2
        rw [HPB2.out] at KP2
        clear hb KW2 HU hRw2 x0 x1' x2 x3 x4 x5 x6 x7 x8 x9
        obtain ⟨b2a, b2n, b2c⟩ := bw2
        dsimp only at KP2 hbl2
        have HBL2 := Lib.hid hbl2
        clear hbl2
        go_wp2_with fail
        refine KP2.mono ?_
        rintro e u3 ⟨x3', y3', z3', rfl, hV3, hb⟩
        simp only [scOf] at hV3
        have HU3 := Lib.hid (HU2.out.below hb)
        have HT3 := Lib.hid (UB.new hV3 HU3.out.bel)
        have HU4 := Lib.hid (HU3.out.below (box1 (.cells (scs u.c x3' y3' z3') 29)))
        have KR := rightS_any u x1 y1 z1 _ HU4.out.sv HTU.out
        rw [HUR.out] at KR
        have hU3 : u1.heap.size < u3.heap.size := HU3.out.box.lt
        clear hb KP2 HU2 hV3
        obtain ⟨x0, x1', x2, x3, x4, x5, x6, x7, x8, x9⟩ := HU4.out.box.script
        simp only [scOf, erOf]
        go_wp2_with fail
        refine KR.mono ?_
        rintro e u5 ⟨rfl, hb⟩
        have HU5 := Lib.hid (HU4.out.below hb)
        have HT5 := Lib.hid (HT3.out.below hb)
        have KS2 := same_any u x1 y1 z1 x3' y3' z3' _ HU5.out.sv HT5.out.sv
        clear hb KR HU4 HT3 HU3 x0 x1' x2 x3 x4 x5 x6 x7 x8 x9
        obtain ⟨x0, x1', x2, x3, x4, x5, x6, x7, x8, x9⟩ := HU5.out.box.script
        obtain ⟨t0, t1, t2, t3, t4, t5, t6, t7, t8, t9⟩ := HT5.out.box.script
        have hll : ((b2n : Int) == (rn : Int)) = true := by
          have := HBL2.out
          have := HLEN.out
          simp
          omega
        go_wp2_with fail
        refine KS2.mono ?_
        rintro e u6 ⟨rfl, hb⟩
        have HB6 := Lib.hid (HU5.out.below hb).bel
        have KL := Lib.hid (lives_any u6)
        clear hb KS2 HU5 HT5 x0 x1' x2 x3 x4 x5 x6 x7 x8 x9 t0 t1 t2 t3 t4 t5 t6 t7 t8 t9
        go_wp2_with fail
        refine KL.out.mono ?_
        rintro e u7 ⟨rfl, hb⟩
        have HF := Lib.hid (below_then HB6.out hb (Nat.le_refl _))
        clear hb
        go_wp2
        go_ret
        exact ⟨rfl, HF.out⟩
end Go.Proofs.Ytdmdmkgpnelkjaa
