/- read, Parse. -/
import Derived.Test.YtdmdmkgpnelkjaaRCalls
namespace Go.Proofs.Ytdmdmkgpnelkjaa
open Go.ChangeShapes Go.WideShapes Go.ChangeAt Go.RowKit
set_option linter.unusedVariables false

theorem rconf_bad {w W : World} {B : Nat} {r : Sl} {bs : List Int} {c : Cf} {x y z : Sl} (h : Rr w B r bs c x y z W) (hn : 7 ≤ bs.length) (hk : ¬ (ofB bs).Ok) :
    Calls Try.prog 25 #[.pointer (some ⟨B, 0, none⟩)] W (Erred w 6) := rconf_long h hn _ (fun h => (hk h).elim) (fun _ _ _ h => h)
theorem rconf_ok {w W : World} {B : Nat} {r : Sl} {bs : List Int} {c : Cf} {x y z : Sl} (h : Rr w B r bs c x y z W) (hn : 7 ≤ bs.length) (hk : (ofB bs).Ok) :
    Calls Try.prog 25 #[.pointer (some ⟨B, 0, none⟩)] W (Went w B (bs.drop 7) (ofB bs) x y z W) := rconf_long h hn _ (fun _ _ _ h => h) (fun h => (h hk).elim)
theorem rcalls_less {w W : World} {B : Nat} {r : Sl} {bs : List Int} {c : Cf} {x y z : Sl} (h : Rr w B r bs c x y z W) (hn : 1 ≤ bs.length) (n : Nat) (he : byteAt bs 0 = n) (hm : n ≤ 48) (hc : c.Ok) (hl : bs.length < 1 + 10 * n) :
    Calls Try.prog 26 #[.pointer (some ⟨B, 0, none⟩)] W (Erred w 9) := rcalls_main h hn n he hm c.th.toNat (by have := hc.t0; omega) hc _ (fun h => by omega) (fun _ _ _ h => h)
theorem rcalls_ok {w W : World} {B : Nat} {r : Sl} {bs : List Int} {c : Cf} {x y z : Sl} (h : Rr w B r bs c x y z W) (n : Nat) (he : byteAt bs 0 = n) (hm : n ≤ 48) (hc : c.Ok) (hl : 1 + 10 * n ≤ bs.length) :
    Calls Try.prog 26 #[.pointer (some ⟨B, 0, none⟩)] W (WentC w B (bs.drop (1 + 10 * n)) c y z (byTh c.th.toNat (prs c.th.toNat (bs.drop 1) n)) W) := rcalls_main h (by omega) n he hm c.th.toNat (by have := hc.t0; omega) hc _ (fun _ _ _ h => h) (fun h => by omega)

/-- What read leaves. -/
structure ReadAll (w : World) (B : Nat) (p : Except Int Sc) (e : Ending) (W' : World) : Prop where
  ex : (∃ er, p = .error er ∧ ¬ er = 0 ∧ Erred w er e W') ∨ (∃ (s : Sc) (q x y z : Sl), p = .ok s ∧ e = .returned (.int .i64 0) ∧ Rr w B q [] s.c x y z W' ∧ Safe B W' (fun V => RdL V x s.ls) ∧ Safe B W' (fun V => Reads V y 1 (encI s.ps)) ∧ Safe B W' (fun V => Rd V z.a z.n z.cap s.ds))
theorem readAll_err {w : World} {B : Nat} {p : Except Int Sc} {er : Int} (hp : p = .error er) (h0 : ¬ er = 0) : ∀ e V, Erred w er e V → ReadAll w B p e V := fun e V h => ⟨.inl ⟨er, hp, h0, h⟩⟩

set_option maxRecDepth 100000 in
set_option maxHeartbeats 8000000 in
theorem read_any {w W : World} {B : Nat} {r : Sl} {bs : List Int} {c : Cf} (h : Rr w B r bs c nilS nilS nilS W) : Calls Try.prog 15 #[.pointer (some ⟨B, 0, none⟩)] W (ReadAll w B (parseL bs)) := by
  have hby := h.rest.bytes
  by_cases h1 : bs.length < 7
  · have HE := Lib.hid (readAll_err (w := w) (B := B) (parse1 h1) (by decide))
    have K1 := rconf_short h h1
    clear h h1 hby
    go_enter Try.func15, Try.ntmps15
    go_wp2_with fail
    refine K1.mono ?_
    rintro e w1 ⟨rfl, hb⟩
    have HB := Lib.hid hb
    clear hb K1
    go_wp2
    go_ret
    exact HE.out _ _ ⟨rfl, HB.out⟩
  by_cases h2 : (ofB bs).Ok
  case neg =>
    have HE := Lib.hid (readAll_err (w := w) (B := B) (parse2 h1 h2) (by decide))
    have K1 := rconf_bad h (by omega) h2
    clear h h1 hby h2
    go_enter Try.func15, Try.ntmps15
    go_wp2_with fail
    refine K1.mono ?_
    rintro e w1 ⟨rfl, hb⟩
    have HB := Lib.hid hb
    clear hb K1
    go_wp2
    go_ret
    exact HE.out _ _ ⟨rfl, HB.out⟩
  case pos =>
  have K1 := rconf_ok h (by omega) h2
  generalize hp : parseL bs = p
  have HP := Lib.hid hp
  have H1 := Lib.hid h1
  have H2 := Lib.hid h2
  have HBY := Lib.hid hby
  clear h h1 h2 hby hp
  go_enter Try.func15, Try.ntmps15
  go_wp2_with fail
  refine K1.mono ?_
  rintro e w1 ⟨q1, rfl, hq1, hg1⟩
  clear K1 hg1
  have HQ1 := Lib.hid hq1
  clear hq1
  by_cases h3 : bs.length < 8
  · have HE := Lib.hid (readAll_err (w := w) (B := B) (p := p) (by rw [← HP.out]; exact parse3 (by have := H1.out; omega) H2.out h3) (by decide))
    have K2 := rcalls_short HQ1.out (by simp; omega)
    clear h3
    go_wp2_with fail
    refine K2.mono ?_
    rintro e w2 ⟨rfl, hb⟩
    have HB := Lib.hid hb
    clear hb K2
    go_wp2
    go_ret
    exact HE.out _ _ ⟨rfl, HB.out⟩
  by_cases h4 : 48 < byteAt bs 7
  · have HE := Lib.hid (readAll_err (w := w) (B := B) (p := p) (by rw [← HP.out]; exact parse4 H2.out h3 h4) (by decide))
    have K2 := rcalls_far HQ1.out (by simp; omega) (by rw [byteAt_drop]; exact h4)
    clear h3 h4
    go_wp2_with fail
    refine K2.mono ?_
    rintro e w2 ⟨rfl, hb⟩
    have HB := Lib.hid hb
    clear hb K2
    go_wp2
    go_ret
    exact HE.out _ _ ⟨rfl, HB.out⟩
  have b7 := HBY.out 7
  have en : byteAt (bs.drop 7) 0 = (nOf bs : Nat) := by rw [byteAt_drop, Nat.add_zero]; unfold nOf; omega
  have hn48 : nOf bs ≤ 48 := by unfold nOf; omega
  by_cases h5a : bs.length < 8 + 10 * nOf bs
  · have HE := Lib.hid (readAll_err (w := w) (B := B) (p := p) (by rw [← HP.out]; exact parse5 H2.out h3 h4 (by omega)) (by decide))
    have K2 := rcalls_less HQ1.out (by simp; omega) (nOf bs) en hn48 H2.out (by simp; omega)
    clear h3 h4 b7 en hn48 h5a
    go_wp2_with fail
    refine K2.mono ?_
    rintro e w2 ⟨rfl, hb⟩
    have HB := Lib.hid hb
    clear hb K2
    go_wp2
    go_ret
    exact HE.out _ _ ⟨rfl, HB.out⟩
  have K2 := rcalls_ok HQ1.out (nOf bs) en hn48 H2.out (by simp; omega)
  have H3 := Lib.hid h3
  have H4 := Lib.hid h4
  have H5 := Lib.hid h5a
  clear h3 h4 h5a b7 en hn48
  go_wp2_with fail
  refine K2.mono ?_
  rintro e w2 ⟨q2, x, rfl, hq2, hx, hg2⟩
  rw [List.drop_drop, show 7 + (1 + 10 * nOf bs) = 8 + 10 * nOf bs by omega] at hq2
  have HQ2 := Lib.hid hq2
  have HX := Lib.hid hx
  clear K2 hq2 hx hg2
  by_cases h5 : bs.length < 10 + 10 * nOf bs
  · have HE := Lib.hid (readAll_err (w := w) (B := B) (p := p) (by rw [← HP.out]; exact parse5 H2.out (by have := H3.out; omega) (by have := H4.out; omega) h5) (by decide))
    have K3 := rpicks_short HQ2.out (by simp; omega)
    clear h5
    go_wp2_with fail
    refine K3.mono ?_
    rintro e w3 ⟨rfl, hb⟩
    have HB := Lib.hid hb
    clear hb K3
    go_wp2
    go_ret
    exact HE.out _ _ ⟨rfl, HB.out⟩
  have em : byteAt (bs.drop (8 + 10 * nOf bs)) 0 + 256 * byteAt (bs.drop (8 + 10 * nOf bs)) 1 = (mOf bs : Nat) := by
    rw [byteAt_drop, byteAt_drop]
    unfold mOf
    have a := HBY.out (8 + 10 * nOf bs)
    have b := HBY.out (9 + 10 * nOf bs)
    rw [show 8 + 10 * nOf bs + 1 = 9 + 10 * nOf bs by omega, Nat.add_zero]
    omega
  by_cases h6 : 60000 < mOf bs
  · have HE := Lib.hid (readAll_err (w := w) (B := B) (p := p) (by rw [← HP.out]; exact parse6 H2.out (by have := H4.out; omega) h5 h6) (by decide))
    have K3 := rpicks_far HQ2.out (by simp; omega) (by rw [em]; omega)
    clear h5 em h6
    go_wp2_with fail
    refine K3.mono ?_
    rintro e w3 ⟨rfl, hb⟩
    have HB := Lib.hid hb
    clear hb K3
    go_wp2
    go_ret
    exact HE.out _ _ ⟨rfl, HB.out⟩
  by_cases h7 : bs.length < 10 + 10 * nOf bs + mOf bs
  · have HE := Lib.hid (readAll_err (w := w) (B := B) (p := p) (by rw [← HP.out]; exact parse7 H2.out (by have := H4.out; omega) h5 h6 h7) (by decide))
    have K3 := rpicks_less HQ2.out (by simp; omega) (mOf bs) em (by omega) (by simp; omega)
    clear h5 em h6 h7
    go_wp2_with fail
    refine K3.mono ?_
    rintro e w3 ⟨rfl, hb⟩
    have HB := Lib.hid hb
    clear hb K3
    go_wp2
    go_ret
    exact HE.out _ _ ⟨rfl, HB.out⟩
  have K3 := rpicks_ok HQ2.out (mOf bs) em (by omega) (by simp; omega) H2.out
  have H6 := Lib.hid h6
  have H7 := Lib.hid h7
  clear h5 em h6 h7
  go_wp2_with fail
  refine K3.mono ?_
  rintro e w3 ⟨q3, y, rfl, hq3, hy, hg3⟩
  rw [List.drop_drop, show 8 + 10 * nOf bs + (2 + mOf bs) = 10 + 10 * nOf bs + mOf bs by omega] at hq3
  have HQ3 := Lib.hid hq3
  have HY := Lib.hid hy
  have HX3 := Lib.hid (HX.out.grown hg3)
  clear K3 hq3 hy hg3
  by_cases h8 : 4096 < bs.length - (10 + 10 * nOf bs + mOf bs)
  · have HE := Lib.hid (readAll_err (w := w) (B := B) (p := p) (by rw [← HP.out]; exact parse8 H2.out (by have := H4.out; omega) (by have := H6.out; omega) (by have := H7.out; omega) h8) (by decide))
    have K4 := rdraws_far HQ3.out (by simp; omega)
    clear h8
    go_wp2_with fail
    refine K4.mono ?_
    rintro e w4 ⟨rfl, hb⟩
    have HB := Lib.hid hb
    clear hb K4
    go_wp2
    go_ret
    exact HE.out _ _ ⟨rfl, HB.out⟩
  have K4 := rdraws_ok HQ3.out (by simp; omega)
  have HE := Lib.hid (show p = .ok (theS bs) by rw [← HP.out]; exact parse9 H2.out (by have := H4.out; omega) (by have := H6.out; omega) (by have := H7.out; omega) h8)
  clear h8
  go_wp2_with fail
  refine K4.mono ?_
  rintro e w4 ⟨q4, z, rfl, hq4, hz, hg4⟩
  have HQ4 := Lib.hid hq4
  have HZ := Lib.hid hz
  have HX4 := Lib.hid (HX3.out.grown hg4)
  have HY4 := Lib.hid (HY.out.grown hg4)
  clear K4 hq4 hz hg4
  go_wp2
  go_ret
  refine ⟨.inr ⟨theS bs, q4, x, y, z, HE.out, rfl, HQ4.out, ?_, ?_, ?_⟩⟩
  · have := HX4.out
    rw [List.drop_drop] at this
    exact this
  · have := HY4.out
    rw [List.drop_drop, show 8 + 10 * nOf bs + 2 = 10 + 10 * nOf bs by omega] at this
    exact this
  · exact HZ.out
end Go.Proofs.Ytdmdmkgpnelkjaa
