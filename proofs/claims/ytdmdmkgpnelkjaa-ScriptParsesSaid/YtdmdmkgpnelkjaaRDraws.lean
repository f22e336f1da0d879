/- readDraws, readPicks. -/
import Derived.Test.YtdmdmkgpnelkjaaBuf
namespace Go.Proofs.Ytdmdmkgpnelkjaa
open Go.ChangeShapes Go.WideShapes Go.ChangeAt Go.RowKit
set_option linter.unusedVariables false

/-- What readDraws leaves where all is well. -/
structure WentD (w : World) (B : Nat) (bs : List Int) (c : Cf) (x y : Sl) (W : World) (e : Ending) (W' : World) : Prop where
  ex : ∃ q z : Sl, e = .returned (.int .i64 0) ∧ Rr w B q [] c x y z W' ∧ Safe B W' (fun V => Rd V z.a z.n z.cap bs) ∧ W.grownBy W' (some B)
theorem Rr.setz {w W : World} {B : Nat} {r : Sl} {bs : List Int} {c : Cf} {x y z : Sl} (h : Rr w B r bs c x y z W) (z' : Sl) : Rr w B r bs c x y z' (W.setCell ⟨B, 10, none⟩ (.slice z'.a z'.n z'.cap)) :=
  ⟨by have := h.box.set 10 (.slice z'.a z'.n z'.cap); simpa using this, h.low, h.rest, h.bel.setCell (p := ⟨B, 10, none⟩) h.low _⟩
theorem Rr.sety {w W : World} {B : Nat} {r : Sl} {bs : List Int} {c : Cf} {x y z : Sl} (h : Rr w B r bs c x y z W) (y' : Sl) : Rr w B r bs c x y' z (W.setCell ⟨B, 9, none⟩ (.slice y'.a y'.n y'.cap)) :=
  ⟨by have := h.box.set 9 (.slice y'.a y'.n y'.cap); simpa using this, h.low, h.rest, h.bel.setCell (p := ⟨B, 9, none⟩) h.low _⟩
theorem Rr.setx {w W : World} {B : Nat} {r : Sl} {bs : List Int} {c : Cf} {x y z : Sl} (h : Rr w B r bs c x y z W) (x' : Sl) : Rr w B r bs c x' y z (W.setCell ⟨B, 8, none⟩ (.slice x'.a x'.n x'.cap)) :=
  ⟨by have := h.box.set 8 (.slice x'.a x'.n x'.cap); simpa using this, h.low, h.rest, h.bel.setCell (p := ⟨B, 8, none⟩) h.low _⟩
/-- Bytes of one's own from base on, with B below base. -/
theorem OwnB.safe {base B : Nat} {s : Sl} {xs : List Int} {W : World} (h : OwnB base s xs W) (hB : B < base) (hb : ∀ j, 0 ≤ byteAt xs j ∧ byteAt xs j < 256) : Safe B W (fun V => Rd V s.a s.n s.cap xs) := by
  intro V hV
  refine Reads.rd (h.reads.agree fun k hk e => hV k hk ?_) hb
  have := (own_low h k e).1
  omega

set_option maxRecDepth 100000 in
theorem rdraws_far {w W : World} {B : Nat} {r : Sl} {bs : List Int} {c : Cf} {x y z : Sl} (h : Rr w B r bs c x y z W) (hn : 4096 < bs.length) :
    Calls Try.prog 28 #[.pointer (some ⟨B, 0, none⟩)] W (Erred w 10) := by
  obtain ⟨x0, x1, x2, x3, x4, x5, x6, x7, x8, x9, x10⟩ := h.box.rdr
  have hl := h.rest.len
  have g : (4096 : Int) < r.n := by omega
  have HB := Lib.hid h.bel
  clear h hl hn
  go_enter Try.func28, Try.ntmps28
  go_wp2
  go_ret
  exact ⟨rfl, HB.out⟩
set_option maxRecDepth 100000 in
set_option maxHeartbeats 4000000 in
theorem rdraws_ok {w W : World} {B : Nat} {r : Sl} {bs : List Int} {c : Cf} {x y z : Sl} (h : Rr w B r bs c x y z W) (hn : bs.length ≤ 4096) :
    Calls Try.prog 28 #[.pointer (some ⟨B, 0, none⟩)] W (WentD w B bs c x y W) := by
  obtain ⟨x0, x1, x2, x3, x4, x5, x6, x7, x8, x9, x10⟩ := h.box.rdr
  have hl := h.rest.len
  have g : ¬ (4096 : Int) < r.n := by omega
  have KT := take_long h bs.length (Nat.le_refl _)
  rw [hl] at KT
  have hby := h.rest.bytes
  have hlt := h.lt
  have hW := Lib.hid hn
  obtain ⟨ra, rn, rc⟩ := r
  dsimp only at *
  clear h hn
  go_enter Try.func28, Try.ntmps28
  go_wp2_with fail
  refine KT.mono ?_
  rintro e w1 ⟨p, q, rfl, hp, hq, hg⟩
  clear KT x0 x1 x2 x3 x4 x5 x6 x7 x8 x9 x10
  obtain ⟨x0, x1, x2, x3, x4, x5, x6, x7, x8, x9, x10⟩ := hq.box.rdr
  have xf := hq.box.frozen
  rw [← hl, List.take_length] at hp
  rw [← hl, List.drop_length] at hq
  have hp1 := Lib.hid (hp.below hq.bel)
  have hpl := Lib.hid hp.len
  have HQ := Lib.hid hq
  have HG := Lib.hid hg
  have hw1 := hq.lt
  clear hp hq hg g
  have hl := Lib.hid hl
  have hby := Lib.hid hby
  obtain ⟨pa, pn, pc⟩ := p
  dsimp only at hp1 hpl
  have hpn : 0 + pn ≤ 1000000 := by have := hpl.out; have := hW.out; omega
  clear x0 x1 x2 x3 x4 x5 x6 x7 x8 x9 x10 xf
  go_wp2_with (at_builtin; refine wpList_append_rd rfl _ _ rfl w1.heap.size nilS [] (OwnB.nil _ _) ⟨pa, pn, pc⟩ bs hp1.out hpn (Nat.le_refl _) rfl rfl ?_; intro b' w2 hown hb' hgr; have hbel := (Below.refl w1.heap.size w1).grown hgr (Nat.le_refl _) (by intro k e; cases e); have hQ2 := HQ.out.below hbel; have y10 := hQ2.box.rdr.2.2.2.2.2.2.2.2.2.2; have yf := hQ2.box.frozen; have HF := Lib.hid (hQ2.setz b'); have HG2 := Lib.hid (grown_trans (grown_trans HG.out (grown_below hbel)) (grown_set (B := B) (i := 10) (u := .slice b'.a b'.n b'.cap))); have HO := Lib.hid ((hown.safe hw1 (by simpa using hby.out)).grown (grown_set (B := B) (i := 10) (u := .slice b'.a b'.n b'.cap))); clear hown hgr hbel hQ2 hb')
  go_ret
  exact ⟨q, b', rfl, HF.out, by simpa using HO.out, HG2.out⟩
end Go.Proofs.Ytdmdmkgpnelkjaa
