/- readConf. -/
import Derived.Test.YtdmdmkgpnelkjaaCount
namespace Go.Proofs.Ytdmdmkgpnelkjaa
open Go.ChangeShapes Go.WideShapes Go.ChangeAt Go.RowKit
set_option linter.unusedVariables false

/-- A configuration written into the reader's box. -/
abbrev put7 (W : World) (B : Nat) (c : Cf) : World := ((((((W.setCell ⟨B, 1, none⟩ (.int .i64 c.al)).setCell ⟨B, 2, none⟩ (.int .i64 c.th)).setCell ⟨B, 3, none⟩ (.int .i64 c.nd)).setCell ⟨B, 4, none⟩ (.int .i64 c.lv)).setCell ⟨B, 5, none⟩ (.int .i64 c.ba)).setCell ⟨B, 6, none⟩ (.int .i64 c.pr)).setCell ⟨B, 7, none⟩ (.int .i64 c.sc)
theorem Rr.put7 {w W : World} {B : Nat} {r : Sl} {bs : List Int} {c : Cf} {x y z : Sl} (h : Rr w B r bs c x y z W) (d : Cf) : Rr w B r bs d x y z (put7 W B d) := by
  refine ⟨?_, h.low, h.rest, ((((((h.bel.setCell (p := ⟨B, 1, none⟩) h.low _).setCell (p := ⟨B, 2, none⟩) h.low _).setCell (p := ⟨B, 3, none⟩) h.low _).setCell (p := ⟨B, 4, none⟩) h.low _).setCell (p := ⟨B, 5, none⟩) h.low _).setCell (p := ⟨B, 6, none⟩) h.low _).setCell (p := ⟨B, 7, none⟩) h.low _⟩
  have := ((((((h.box.set 1 (.int .i64 d.al)).set 2 (.int .i64 d.th)).set 3 (.int .i64 d.nd)).set 4 (.int .i64 d.lv)).set 5 (.int .i64 d.ba)).set 6 (.int .i64 d.pr)).set 7 (.int .i64 d.sc)
  simpa using this
theorem grown_put7 {W V : World} {B : Nat} {c : Cf} (h : W.grownBy V (some B)) : W.grownBy (put7 V B c) (some B) :=
  grown_trans (grown_trans (grown_trans (grown_trans (grown_trans (grown_trans (grown_trans h grown_set) grown_set) grown_set) grown_set) grown_set) grown_set) grown_set
/-- What a part of reading leaves where there is an error. -/
structure Erred (w : World) (er : Int) (e : Ending) (W' : World) : Prop where
  er : e = .returned (.int .i64 er)
  bel : Below w.heap.size w W'

set_option maxRecDepth 100000 in
set_option maxHeartbeats 8000000 in
theorem rconf_short {w W : World} {B : Nat} {r : Sl} {bs : List Int} {c : Cf} {x y z : Sl} (h : Rr w B r bs c x y z W) (hn : bs.length < 7) :
    Calls Try.prog 25 #[.pointer (some ⟨B, 0, none⟩)] W (Erred w 9) := by
  have KT := take_short h 7 (by omega) (by omega)
  have KD := fun W => decode_short none 0 0 W (by omega)
  have HR := Lib.hid h
  clear h hn
  go_enter Try.func25, Try.ntmps25
  go_wp2_with fail
  refine KT.mono ?_
  rintro e w1 ⟨rfl, rfl⟩
  go_wp2_with fail
  refine (KD _).mono ?_
  rintro e w2 ⟨rfl, hb⟩
  have hR := (HR.out.below hb).below (box1 (.cells zc.cs 25))
  clear KT KD hb HR
  obtain ⟨x0, x1, x2, x3, x4, x5, x6, x7, x8, x9, x10⟩ := hR.box.rdr
  have xf := hR.box.frozen
  have hlt := hR.lt
  have hP := Lib.hid (hR.put7 zc).bel
  clear hR
  go_wp2_with fail
  go_ret
  exact ⟨rfl, hP.out⟩

theorem ofB_take (bs : List Int) : ofB (bs.take 7) = ofB bs := by
  simp only [ofB]
  rw [byteAt_take _ _ 0 (by omega), byteAt_take _ _ 1 (by omega), byteAt_take _ _ 2 (by omega), byteAt_take _ _ 3 (by omega), byteAt_take _ _ 4 (by omega), byteAt_take _ _ 5 (by omega), byteAt_take _ _ 6 (by omega)]
/-- What a part of reading leaves where all is well: the reader, behind k bytes, with new parts. -/
structure Went (w : World) (B : Nat) (bs : List Int) (c : Cf) (x y z : Sl) (W : World) (e : Ending) (W' : World) : Prop where
  ex : ∃ q : Sl, e = .returned (.int .i64 0) ∧ Rr w B q bs c x y z W' ∧ W.grownBy W' (some B)
set_option maxRecDepth 100000 in
set_option maxHeartbeats 8000000 in
theorem rconf_long {w W : World} {B : Nat} {r : Sl} {bs : List Int} {c : Cf} {x y z : Sl} (h : Rr w B r bs c x y z W) (hn : 7 ≤ bs.length) (P : Ending → World → Prop)
    (hok : (ofB bs).Ok → ∀ e V, Went w B (bs.drop 7) (ofB bs) x y z W e V → P e V) (hbad : ¬ (ofB bs).Ok → ∀ e V, Erred w 6 e V → P e V) :
    Calls Try.prog 25 #[.pointer (some ⟨B, 0, none⟩)] W P := by
  have KT := take_long h 7 hn
  have HR := Lib.hid h
  clear h
  go_enter Try.func25, Try.ntmps25
  go_wp2_with fail
  refine KT.mono ?_
  rintro e w1 ⟨p, q, rfl, hp, hq, hg⟩
  have hpn := hp.len
  rw [List.length_take, Nat.min_eq_left hn] at hpn
  have hp1 := hp.below hq.bel
  obtain ⟨pa, pn, pc⟩ := p
  dsimp only at hpn hp1
  subst hpn
  have hpa : ∃ a, pa = some a := by
    cases pa with
    | none => have := hp1.nil; omega
    | some a => exact ⟨a, rfl⟩
  obtain ⟨a, rfl⟩ := hpa
  have HQ := Lib.hid hq
  have HG := Lib.hid hg
  have HP1 := Lib.hid hp1
  clear hp hq hg KT hp1
  go_wp2_with fail
  have fin : ∀ (d : Cf) (er : Int) (V : World), Below w1.heap.size w1 V → Rr w B q (bs.drop 7) d x y z (put7 (V.alloc (.cells d.cs 25)) B d) ∧ W.grownBy (put7 (V.alloc (.cells d.cs 25)) B d) (some B) :=
    fun d er V hb => ⟨((HQ.out.below hb).below (box1 (.cells d.cs 25))).put7 d, grown_put7 (grown_trans (grown_trans HG.out (grown_below hb)) (grown_below (box1 _)))⟩
  refine decode_long a 7 pc _ w1 HP1.out (by omega) _ ?_ ?_
  · rw [ofB_take]
    intro hk V hb
    obtain ⟨f1, f2⟩ := fin (ofB bs) 0 V hb
    have F1 := Lib.hid f1
    have F2 := Lib.hid f2
    have HPP := Lib.hid (hok hk)
    have hR := (HQ.out.below hb).below (box1 (.cells (ofB bs).cs 25))
    clear fin f1 f2 hok hbad
    obtain ⟨x0, x1, x2, x3, x4, x5, x6, x7, x8, x9, x10⟩ := hR.box.rdr
    have xf := hR.box.frozen
    have hlt := hR.lt
    clear hR hb
    go_wp2_with fail
    exact HPP.out _ _ ⟨q, rfl, F1.out, F2.out⟩
  · rw [ofB_take]
    intro hk V hb
    obtain ⟨f1, f2⟩ := fin zc 0 V hb
    have F1 := Lib.hid f1.bel
    have HPP := Lib.hid (hbad hk)
    have hR := (HQ.out.below hb).below (box1 (.cells zc.cs 25))
    clear fin f1 f2 hok hbad
    obtain ⟨x0, x1, x2, x3, x4, x5, x6, x7, x8, x9, x10⟩ := hR.box.rdr
    have xf := hR.box.frozen
    have hlt := hR.lt
    clear hR hb
    go_wp2_with fail
    exact HPP.out _ _ ⟨rfl, F1.out⟩
end Go.Proofs.Ytdmdmkgpnelkjaa
