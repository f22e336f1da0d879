/- Write, of a script that may be. -/
import Derived.Test.YtdmdmkgpnelkjaaWrite
namespace Go.Proofs.Ytdmdmkgpnelkjaa
open Go.ChangeShapes Go.WideShapes Go.ChangeAt Go.RowKit
set_option linter.unusedVariables false

set_option maxRecDepth 100000 in
set_option maxHeartbeats 16000000 in
theorem write_good (s : Sc) (x y z : Sl) (w : World) (h : SV w s x y z) (hr : rightS s = true) : Calls Try.prog 11 #[sv s.c x y z] w (Wrote w (bytesOf s)) := by
  obtain ⟨h1, h2, h3, h4, h5, h6, h7⟩ := rightS_parts hr
  have hrange := bytesOf_range s hr h.fit h.hz.bytes
  have hB : Blk (w.alloc (.cells (scs s.c x y z) 29)) w.heap.size 29 (scs s.c x y z) := Blk.new _ _ _
  have h0 : Below w.heap.size w (w.alloc (.cells (scs s.c x y z) 29)) := box1 _
  have K := rightS_any s x y z _ (h.below h0) (by omega)
  rw [hr] at K
  have KC := fun W => code_ok s.c W h1
  have KN := fun W (hb : Below w.heap.size w W) => calls_any s x y z W (h.below hb) (by omega)
  have hxl := h.hx.len
  have hyl := h.hy.picks_len
  have hzl := h.hz.len
  have hxr := h.hx.room
  have hyr := h.hy.room
  unfold maxLen at hxr hyr
  have HT := Lib.hid (And.intro h1.t0 h1.t1)
  have hdef : bytesOf s = s.c.bytes ++ ((tot s.ls : Int) :: (encP (prsOf 0 s.ls) ++ ((s.ps.length : Int) % 256 :: (s.ps.length : Int) / 256 :: (s.ps ++ s.ds)))) := rfl
  have HV := Lib.hid h
  generalize bytesOf s = out at *
  obtain ⟨c, ls, ps, ds⟩ := s
  obtain ⟨xa, xn, xc⟩ := x
  obtain ⟨ya, yn, yc⟩ := y
  obtain ⟨za, zn, zc'⟩ := z
  dsimp only at *
  subst hxl hyl hzl
  have H2 := Lib.hid h2
  have H3 := Lib.hid h3
  have H4 := Lib.hid h4
  have H5 := Lib.hid h5
  have H6 := Lib.hid h6
  have H7 := Lib.hid h7
  have HR := Lib.hid hrange
  have HD := Lib.hid hdef
  have HB := Lib.hid hB
  have H0 := Lib.hid h0
  clear h h1 h2 h3 h4 h5 h6 h7 hr hrange hdef hB h0
  go_enter Try.func11, Try.ntmps11
  go_wp2_with fail
  refine K.mono ?_
  rintro e w1 ⟨rfl, hb⟩
  have hbx := HB.out.below hb HB.out.lt
  have HB1 := Lib.hid hbx
  have H1 := Lib.hid (below_then H0.out hb (Nat.le_refl _))
  obtain ⟨x0, x1, x2, x3, x4, x5, x6, x7, x8, x9⟩ := hbx.script
  clear K hb HB H0 hbx
  go_wp2_with fail
  refine (KC _).mono ?_
  rintro e w2 ⟨Bk, rfl, hlow, hblk, hb⟩
  have HS2 := Lib.hid (show WS w c ⟨xa, ls.length, xc⟩ ⟨ya, ps.length, yc⟩ ⟨za, ds.length, zc'⟩ ⟨some ⟨Bk, 0, none⟩, 7, 7⟩ c.bytes w2 from ⟨HB1.out.below hb HB1.out.lt, OwnB.blk hblk (by have := HB1.out.lt; omega) rfl (by omega), below_then H1.out hb (Nat.le_refl _)⟩)
  clear KC hlow hblk hb HB1 H1 x0 x1 x2 x3 x4 x5 x6 x7 x8 x9
  obtain ⟨x0, x1, x2, x3, x4, x5, x6, x7, x8, x9⟩ := HS2.out.box.script
  go_wp2_with fail
  refine (KN _ HS2.out.bel).mono ?_
  rintro e w3 ⟨rfl, hb⟩
  have HS3 := Lib.hid (HS2.out.below hb)
  clear KN hb HS2 x0 x1 x2 x3 x4 x5 x6 x7 x8 x9
  have KL := lay_any2 (w.heap.size + 1) ⟨some ⟨Bk, 0, none⟩, 7, 7⟩ c.bytes w3 HS3.out.own HS3.out.lt (tot ls : Nat) (by omega) (by have := H3.out; omega) (by dsimp only; omega) 1 (.inl rfl)
  generalize htt : ((tot ls : Nat) : Int) = tt at *
  have HTT := Lib.hid htt
  clear htt
  go_wp2_with fail
  refine KL.mono ?_
  rintro e w4 ⟨b, rfl, hown, hb⟩
  have HS4 := Lib.hid (HS3.out.grew hown hb)
  clear KL hown hb HS3
  obtain ⟨ba, bn, bc⟩ := b
  obtain ⟨x0, x1, x2, x3, x4, x5, x6, x7, x8, x9⟩ := HS4.out.box.script
  dsimp only at x7 x8 x9
  go_wp2_with fail
  clear x0 x1 x2 x3 x4 x5 x6 x7 x8 x9
  -- the calls, thread by thread
  go_loopw [4, 24] (fun v i V => ∃ (k : Nat) (b : Sl), k ≤ ls.length ∧ i = .int .i64 k ∧ v = .slice b.a b.n b.cap ∧ Hid (WS w c ⟨xa, ls.length, xc⟩ ⟨ya, ps.length, yc⟩ ⟨za, ds.length, zc'⟩ b (c.bytes ++ layB tt 1 ++ encP (prsOf 0 (ls.take k))) V)) (fun _ i _ => ls.length - (intOf i).toNat)
  case atStart => exact ⟨0, ⟨ba, bn, bc⟩, by omega, rfl, rfl, Lib.hid (by simpa [prsOf, encP] using HS4.out)⟩
  case round =>
    clear HS4
    rename World => V
    obtain ⟨k, b, hk, rfl, rfl, HS⟩ := hrel
    obtain ⟨va, vn, vc⟩ := b
    by_cases hkn : k < ls.length
    · have hl : ls[k]? = some ls[k] := List.getElem?_eq_getElem hkn
      obtain ⟨b1, off1, q, rfl, hq0, hqn, hrd⟩ := HV.out.hx.at_ k _ hl
      have hq := (HS.out.bel.cell (World.block_lt_of_cell? _ _ hq0)).trans hq0
      have gk : (k : Int) < ls.length := by omega
      have wk := IntWalk.i64_in ((k : Int) + 1) (by omega)
      have hk6 : (k : Int) < 6 := by have := H2.out; have := HT.out; omega
      have wk8 : IntKind.u8.wrap (k : Int) = (k : Int) := by rw [IntKind.wrap_u8]; omega
      have hm := hrd.room
      unfold maxLen at hm
      have HRd := Lib.hid hrd
      obtain ⟨qa, qn, qc⟩ := q
      dsimp only at hq hqn hm
      subst hqn
      have HL := Lib.hid hl
      have HPT := Lib.hid (prsOf_take ls k _ hl)
      have htt2 := tot_take ls k _ hl
      have htl := tot_le ls (k + 1)
      have HTL := Lib.hid (show tot (ls.take k) + ls[k].length ≤ 48 by have := H3.out; omega)
      have HFT := Lib.hid (HV.out.fit ls[k] (List.getElem_mem hkn))
      clear hl hrd htt2 htl hq0
      generalize ls[k] = l at *
      go_wp2_with fail
      go_loopw [4, 31] (fun v i U => ∃ (j : Nat) (b : Sl), j ≤ l.length ∧ i = .int .i64 j ∧ v = .slice b.a b.n b.cap ∧ Hid (WS w c ⟨some ⟨b1, off1, none⟩, ls.length, xc⟩ ⟨ya, ps.length, yc⟩ ⟨za, ds.length, zc'⟩ b (c.bytes ++ layB tt 1 ++ encP (prsOf 0 (ls.take k) ++ (l.take j).map fun c => (k, c))) U)) (fun _ i _ => l.length - (intOf i).toNat)
      case atStart => exact ⟨0, ⟨va, vn, vc⟩, by omega, rfl, rfl, Lib.hid (by simpa using HS.out)⟩
      case round =>
        rename World => U
        obtain ⟨j, b, hj, rfl, rfl, HSU⟩ := hrel
        obtain ⟨ua, un, uc⟩ := b
        have hul : un = 8 + 10 * (tot (ls.take k) + j) := by
          have := HSU.out.own.len
          simp [layB, encP_len, prsOf_len, Nat.min_eq_left hj] at this
          omega
        have HUL := Lib.hid hul
        clear hul
        by_cases hjn : j < l.length
        · have hl2 : l[j]? = some l[j] := List.getElem?_eq_getElem hjn
          obtain ⟨b2, off2, rfl, c0, c1, c2⟩ := (HRd.out.below HSU.out.bel).tri j _ hl2
          have gj : (j : Int) < l.length := by omega
          have wj := IntWalk.i64_in ((j : Int) + 1) (by omega)
          have HF := Lib.hid (HFT.out l[j] (List.getElem_mem hjn))
          have HRB := Lib.hid (show rightB l[j] = true by
            have h4 := H4.out
            unfold allB at h4
            rw [List.all_eq_true] at h4
            have := h4 l (List.mem_of_getElem? HL.out)
            rw [List.all_eq_true] at this
            exact this _ (List.getElem_mem hjn))
          have HST := Lib.hid (show encP (prsOf 0 (ls.take k) ++ (l.take (j + 1)).map fun c => (k, c)) = encP (prsOf 0 (ls.take k) ++ (l.take j).map fun c => (k, c)) ++ (k : Int) :: codeBs l[j] by
            have e1 : encP [((k : Nat), l[j])] = (k : Int) :: codeBs l[j] := by simp [encP]
            rw [List.take_add_one, hl2, Option.toList_some, List.map_append, ← List.append_assoc, encP_append, List.map_singleton, e1])
          clear hl2
          generalize l[j] = t at *
          have KC := fun W => ccode_ok t HF.out W HRB.out
          generalize encP (prsOf 0 (ls.take k) ++ (l.take j).map fun c => (k, c)) = pre at *
          have HS1 := Lib.hid (HSU.out.below (box1 (.cells t.cs 49)))
          have hRb := Rd.byte (U.alloc (.cells t.cs 49)) (k : Int) (by omega) (by omega)
          rw [World.size_alloc] at hRb
          have HRb := Lib.hid hRb
          clear hRb
          have HLow := Lib.hid (own_low HSU.out.own)
          clear HSU
          go_wp2_with (at_builtin; refine wpList_append_rd rfl _ _ rfl (w.heap.size + 1) ⟨ua, un, uc⟩ _ (HS1.out.own.alloc _) ⟨some ⟨U.heap.size + 1, 0, none⟩, 1, 1⟩ [(k : Int)] HRb.out (by have := HUL.out; have := HTL.out; dsimp only; omega) (by have := HS1.out.lt; simp at *; omega) rfl rfl ?_; intro b' w2 hown hb' hgr; have HS5 := Lib.hid ((HS1.out.below (box1 (.cells #[.int .u8 (k : Int)] 5))).grew hown (own_grown (HS1.out.own.alloc _) hgr (by have := HS1.out.lt; simp at *; omega))); have HL5 := Lib.hid hb'; have hbk : Blk w2 U.heap.size 49 t.cs := ((Blk.new U 49 t.cs).alloc (.cells #[.int .u8 (k : Int)] 5)).agree (hgr.block _ (by rw [World.size_alloc, World.size_alloc]; omega) (fun e => by have := (HLow.out _ e.symm).2; omega)); obtain ⟨d0, d1, d2, _⟩ := blk_cells hbk; clear hown hb' hgr hbk)
          refine (KC _).mono ?_
          rintro e w6 ⟨Bc, rfl, hlow, hblk, hb⟩
          have HS6 := Lib.hid (HS5.out.below hb)
          have HRc := Lib.hid ((OwnB.blk (base := 0) hblk (by omega) (n := 9) rfl (by omega)).rd (code_bytes t HRB.out))
          clear KC hlow hblk hb HS1 d0 d1 d2
          obtain ⟨b5a, b5n, b5c⟩ := b'
          dsimp only at HL5
          go_wp2_with (at_builtin; refine wpList_append_rd rfl _ _ rfl (w.heap.size + 1) ⟨b5a, b5n, b5c⟩ _ HS6.out.own ⟨some ⟨Bc, 0, none⟩, 9, 9⟩ (codeBs t) HRc.out (by have := HL5.out; have := HUL.out; have := HTL.out; dsimp only; omega) HS6.out.lt rfl rfl ?_; intro b' w7 hown hb' hgr; have HS7 := Lib.hid (HS6.out.grew hown (own_grown HS6.out.own hgr HS6.out.lt)); clear hown hb' hgr)
          go_roundw
          case rel => exact ⟨j + 1, b', by omega, by go_num, rfl, Lib.hid (by rw [HST.out]; simpa using HS7.out)⟩
          case measure => simp [intOf]; omega
        · obtain rfl : j = l.length := by omega
          rw [List.take_length, ← HPT.out] at HSU
          go_wp2
          go_roundw
          case rel => exact ⟨k + 1, ⟨ua, un, uc⟩, by omega, by go_num, rfl, HSU⟩
          case measure => simp [intOf]; omega
    · obtain rfl : k = ls.length := by omega
      rw [List.take_length] at HS
      have hvl : vn = 8 + 10 * tot ls := by
        have := HS.out.own.len
        simp [layB, encP_len, prsOf_len] at this
        omega
      have HVL := Lib.hid hvl
      clear hvl
      have hp5 := H5.out
      have h33 := H3.out
      have KL := lay_any2 (w.heap.size + 1) ⟨va, vn, vc⟩ _ V HS.out.own HS.out.lt (ps.length : Nat) (by omega) (by omega) (by have := HVL.out; dsimp only; omega) 2 (.inr rfl)
      obtain ⟨x0, x1, x2, x3, x4, x5, x6, x7, x8, x9⟩ := HS.out.box.script
      dsimp only at x7 x8 x9
      clear hp5 h33
      go_wp2_with fail
      refine KL.mono ?_
      rintro e w5 ⟨b, rfl, hown, hb⟩
      have HS5 := Lib.hid (HS.out.grew hown hb)
      clear KL hown hb HS x0 x1 x2 x3 x4 x5 x6 x7 x8 x9
      obtain ⟨ba, bn, bc⟩ := b
      obtain ⟨x0, x1, x2, x3, x4, x5, x6, x7, x8, x9⟩ := HS5.out.box.script
      dsimp only at x7 x8 x9
      have hpre : out = (c.bytes ++ layB tt 1 ++ encP (prsOf 0 ls) ++ layB ((ps.length : Nat) : Int) 2) ++ (ps ++ ds) := by
        have e1 : tt % 256 = tt := by have := HTT.out; have := H3.out; omega
        rw [HD.out]
        simp [layB, e1]
      have hprl : (c.bytes ++ layB tt 1 ++ encP (prsOf 0 ls) ++ layB ((ps.length : Nat) : Int) 2).length = 10 + 10 * tot ls := by
        simp [layB, encP_len, prsOf_len]
        omega
      have HPRE := Lib.hid hpre
      have HPRL := Lib.hid hprl
      clear hpre hprl
      generalize c.bytes ++ layB tt 1 ++ encP (prsOf 0 ls) ++ layB ((ps.length : Nat) : Int) 2 = pre at *
      go_wp2_with fail
      clear x0 x1 x2 x3 x4 x5 x6 x7 x8 x9
      go_loopw [4, 54] (fun v i U => ∃ (j : Nat) (b : Sl), j ≤ ps.length ∧ i = .int .i64 j ∧ v = .slice b.a b.n b.cap ∧ Hid (WS w c ⟨xa, ls.length, xc⟩ ⟨ya, ps.length, yc⟩ ⟨za, ds.length, zc'⟩ b (pre ++ ps.take j) U)) (fun _ i _ => ps.length - (intOf i).toNat)
      case atStart => exact ⟨0, ⟨ba, bn, bc⟩, by omega, rfl, rfl, Lib.hid (by simpa using HS5.out)⟩
      case round =>
        clear HS5
        rename World => U
        obtain ⟨j, b, hj, rfl, rfl, HSU⟩ := hrel
        obtain ⟨ua, un, uc⟩ := b
        have hul : un = 10 + 10 * tot ls + j := by
          have := HSU.out.own.len
          rw [List.length_append, HPRL.out, List.length_take, Nat.min_eq_left hj] at this
          exact this.symm
        have HUL := Lib.hid hul
        clear hul
        by_cases hjn : j < ps.length
        · have hl2 : ps[j]? = some ps[j] := List.getElem?_eq_getElem hjn
          obtain ⟨b2, off2, rfl, hc0⟩ := (HV.out.below HSU.out.bel).hy.pick j _ hl2
          have gj : (j : Int) < ps.length := by omega
          have wj := IntWalk.i64_in ((j : Int) + 1) (by omega)
          have hp := H6.out ps[j] (List.getElem_mem hjn)
          have hp6 := HT.out
          have wp8 : IntKind.u8.wrap ps[j] = ps[j] := by rw [IntKind.wrap_u8]; omega
          have HST := Lib.hid (show ps.take (j + 1) = ps.take j ++ [ps[j]] by rw [List.take_add_one, hl2, Option.toList_some])
          have hrb := Rd.byte U ps[j] (by omega) (by omega)
          have HRb := Lib.hid hrb
          clear hl2 hrb hp hp6
          generalize ps[j] = pp at *
          go_wp2_with (at_builtin; refine wpList_append_rd rfl _ _ rfl (w.heap.size + 1) ⟨ua, un, uc⟩ _ (HSU.out.own.alloc _) ⟨some ⟨U.heap.size, 0, none⟩, 1, 1⟩ [pp] HRb.out (by have := HUL.out; have := H3.out; have := H5.out; dsimp only; omega) (by have := HSU.out.lt; rw [World.size_alloc]; omega) rfl rfl ?_; intro b' w7 hown hb' hgr; have HS7 := Lib.hid ((HSU.out.below (box1 (.cells #[.int .u8 pp] 5))).grew hown (own_grown (HSU.out.own.alloc _) hgr (by have := HSU.out.lt; rw [World.size_alloc]; omega))); clear hown hb' hgr)
          go_roundw
          case rel => exact ⟨j + 1, b', by omega, by go_num, rfl, Lib.hid (by rw [HST.out, ← List.append_assoc]; exact HS7.out)⟩
          case measure => simp [intOf]; omega
        · obtain rfl : j = ps.length := by omega
          rw [List.take_length] at HSU
          obtain ⟨x0, x1, x2, x3, x4, x5, x6, x7, x8, x9⟩ := HSU.out.box.script
          dsimp only at x7 x8 x9
          have HRz := Lib.hid (HV.out.below HSU.out.bel).hz
          go_wp2_with (at_builtin; refine wpList_append_rd rfl _ _ rfl (w.heap.size + 1) ⟨ua, un, uc⟩ _ HSU.out.own ⟨za, ds.length, zc'⟩ ds HRz.out (by have := HUL.out; have := H3.out; have := H5.out; have := H7.out; dsimp only; omega) HSU.out.lt rfl rfl ?_; intro b' w7 hown hb' hgr; have HS7 := Lib.hid (HSU.out.grew hown (own_grown HSU.out.own hgr HSU.out.lt)); clear hown hb' hgr)
          have HOUT := Lib.hid (show Wrote w out (.returned (.tuple #[.slice b'.a b'.n b'.cap, .int .i64 0])) w7 from ⟨b', rfl, (by
            have e : out = pre ++ ps ++ ds := by rw [HPRE.out, List.append_assoc]
            rw [e]
            exact HS7.out.own.rd (by rw [← e]; exact HR.out)), HS7.out.bel⟩)
          refine bodyPost_ret (v := .tuple #[.slice b'.a b'.n b'.cap, .int .i64 0]) (by simp [results, Try.results11, go_sem]) rfl HOUT.out
end Go.Proofs.Ytdmdmkgpnelkjaa
