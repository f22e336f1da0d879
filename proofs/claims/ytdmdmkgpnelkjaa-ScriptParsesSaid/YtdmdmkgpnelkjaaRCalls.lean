/- readCalls. -/
import Derived.Test.YtdmdmkgpnelkjaaLists
namespace Go.Proofs.Ytdmdmkgpnelkjaa
open Go.ChangeShapes Go.WideShapes Go.ChangeAt Go.RowKit
set_option linter.unusedVariables false

theorem info38 : (Try.prog.info? 38).map (fun i => (i.zero, i.size, i.bytes)) = some (some (.slice none 0 0), 1, 24) := by kernel_rfl
theorem info49 : (Try.prog.info? 49).map (fun i => (i.zero, i.size, i.bytes)) = some (some (.agg #[.int .i64 0, .int .u32 0, .int .u32 0]), 3, 16) := by kernel_rfl
theorem made38 (w : World) (T : Nat) (h : T ≤ 6) : (Instr.makeSlice 26 (.int .i64 T) (.int .i64 T)).run Try.prog w = .ok (.slice (some ⟨w.heap.size, 0, none⟩) T T) (w.alloc (.cells (Array.replicate T (Value.slice none 0 0)) 38)) := by
  obtain ⟨i, hi, h0, h1, h2⟩ := info_parts info38
  have := run_makeSlice (P := Try.prog) w 26 38 i (.slice none 0 0) Try.underlying26 hi h0 .i64 .i64 T T (by omega) (by omega) (by rw [h1]; omega) (by rw [h2]; omega) (by omega)
  rw [this, h1]
  have hc : madeCells (Value.slice none 0 0).cells (Int.toNat T * 1) = Array.replicate T (Value.slice none 0 0) := by
    rw [show (Value.slice none 0 0).cells = #[Value.slice none 0 0] from rfl, madeCells_one]
    simp
  rw [hc]
  rfl
theorem Ls.start (base T : Nat) (W : World) (hb : base ≤ W.heap.size) : Ls base W.heap.size (List.replicate T nilS) (byTh T []) (W.alloc (.cells (Array.replicate T (Value.slice none 0 0)) 38)) := by
  have e0 : ((List.replicate T nilS).map fun v : Sl => Value.slice v.a v.n v.cap).toArray = Array.replicate T (Value.slice none 0 0) := by simp
  refine ⟨by rw [e0]; exact Blk.new _ _ _, by simp [byTh_len], hb, fun i v l hv hl => ?_, fun i j v u k _ hv _ hk => ?_⟩
  · have h1 := List.getElem?_eq_some_iff.1 hv
    obtain ⟨hi, e⟩ := h1
    rw [List.getElem_replicate] at e
    subst e
    have hT : i < T := by simpa using hi
    rw [byTh_get _ _ _ hT] at hl
    obtain rfl := Option.some.inj hl
    exact World.ownsRow_nil _ _ _ _
  · obtain ⟨hi, e⟩ := List.getElem?_eq_some_iff.1 hv
    rw [List.getElem_replicate] at e
    subst e
    cases hk
/-- What readCalls leaves where all is well. -/
structure WentC (w : World) (B : Nat) (bs : List Int) (c : Cf) (y z : Sl) (ls : List (List Tri)) (W : World) (e : Ending) (W' : World) : Prop where
  ex : ∃ q x : Sl, e = .returned (.int .i64 0) ∧ Rr w B q bs c x y z W' ∧ Safe B W' (fun V => RdL V x ls) ∧ W.grownBy W' (some B)

set_option maxRecDepth 100000 in
theorem rcalls_short {w W : World} {B : Nat} {r : Sl} {bs : List Int} {c : Cf} {x y z : Sl} (h : Rr w B r bs c x y z W) (hn : bs.length < 1) :
    Calls Try.prog 26 #[.pointer (some ⟨B, 0, none⟩)] W (Erred w 9) := by
  have KC := count_short h 1 48 hn (by omega)
  have HB := Lib.hid h.bel
  clear h hn
  go_enter Try.func26, Try.ntmps26
  go_wp2_with fail
  refine KC.mono ?_
  rintro e w1 ⟨rfl, rfl⟩
  go_wp2
  go_ret
  exact ⟨rfl, HB.out⟩
set_option maxRecDepth 100000 in
theorem rcalls_far {w W : World} {B : Nat} {r : Sl} {bs : List Int} {c : Cf} {x y z : Sl} (h : Rr w B r bs c x y z W) (hn : 1 ≤ bs.length) (hm : 48 < byteAt bs 0) :
    Calls Try.prog 26 #[.pointer (some ⟨B, 0, none⟩)] W (Erred w 10) := by
  have KC := count_one h hn 0 10 (.inl ⟨hm, rfl, rfl⟩)
  clear h hn hm
  go_enter Try.func26, Try.ntmps26
  go_wp2_with fail
  refine KC.mono ?_
  rintro e w1 ⟨q, rfl, hq, hg⟩
  have HB := Lib.hid hq.bel
  clear hq hg KC
  go_wp2
  go_ret
  exact ⟨rfl, HB.out⟩

set_option maxRecDepth 100000 in
set_option maxHeartbeats 4000000 in
theorem rcalls_main {w W : World} {B : Nat} {r : Sl} {bs : List Int} {c : Cf} {x y z : Sl} (h : Rr w B r bs c x y z W) (hn : 1 ≤ bs.length) (n : Nat) (he : byteAt bs 0 = n) (hm : n ≤ 48) (T : Nat) (hT : c.th = T) (hc : c.Ok) (P : Ending → World → Prop)
    (hok : 1 + 10 * n ≤ bs.length → ∀ e V, WentC w B (bs.drop (1 + 10 * n)) c y z (byTh T (prs T (bs.drop 1) n)) W e V → P e V) (hbad : bs.length < 1 + 10 * n → ∀ e V, Erred w 9 e V → P e V) :
    Calls Try.prog 26 #[.pointer (some ⟨B, 0, none⟩)] W P := by
  have KC := count_one h hn n 0 (.inr ⟨by omega, he.symm, rfl⟩)
  have HBW := Lib.hid h.lt
  have t0 := hc.t0
  have t1 := hc.t1
  have HM := Lib.hid hm
  have HT := Lib.hid (show 1 ≤ c.th ∧ c.th ≤ 6 from ⟨t0, t1⟩)
  have HTT := Lib.hid hT
  have hmk := fun W => made38 W T (by omega)
  have hL := Lib.hid (show bs.length = (bs.drop 1).length + 1 by simp; omega)
  have HOK := Lib.hid hok
  have HBAD := Lib.hid hbad
  clear h he hn hc hok hbad
  go_enter Try.func26, Try.ntmps26
  go_wp2_with fail
  refine KC.mono ?_
  rintro e w1 ⟨q, rfl, hq, hg⟩
  have HG := Lib.hid hg
  have HQ := Lib.hid hq
  obtain ⟨x0, x1, x2, x3, x4, x5, x6, x7, x8, x9, x10⟩ := hq.box.rdr
  rw [hT] at x2
  have hS := Lib.hid (Ls.start W.heap.size T w1 hg.size)
  have hbel := Lib.hid (box1 (w := w1) (.cells (Array.replicate T (Value.slice none 0 0)) 38))
  clear hq hg KC hT
  have hmi : (n : Int) ≤ 48 := by omega
  go_wp2_with fail
  clear hmk x0 x1 x2 x3 x4 x5 x6 x7 x8 x9 x10
  have HQ0 := Lib.hid (HQ.out.below hbel.out)
  have HG0 := Lib.hid (grown_trans HG.out (grown_below (r := some B) hbel.out))
  clear hbel HQ HG
  generalize (w1.alloc (.cells (Array.replicate T (Value.slice none 0 0)) 38)) = V0 at *
  generalize w1.heap.size = L at *
  go_loopw [27] (fun i V => ∃ (k : Nat) (q : Sl) (vs : List Sl), k ≤ n ∧ i = .int .i64 k ∧ Hid (10 * k ≤ (bs.drop 1).length) ∧ Hid (Rr w B q ((bs.drop 1).drop (10 * k)) c x y z V) ∧ Hid (W.grownBy V (some B)) ∧ Hid (Ls W.heap.size L vs (byTh T (prs T (bs.drop 1) k)) V)) (fun i _ => n - (intOf i).toNat)
  case atStart => exact ⟨0, q, _, by omega, rfl, Lib.hid (by omega), HQ0, HG0, hS⟩
  case round =>
    clear HQ0 HG0 hS
    obtain ⟨k, q, vs, hk, rfl, HLe, HQ, HG, HS⟩ := hrel
    by_cases hkn : k < n
    · have gk : (k : Int) < n := by omega
      have w3 := IntWalk.i64_in ((k : Int) + 1) (by omega)
      by_cases hlen : 10 ≤ ((bs.drop 1).drop (10 * k)).length
      · have KT := take_long HQ.out 10 hlen
        have HLen := Lib.hid (show 10 * (k + 1) ≤ (bs.drop 1).length by simp at hlen ⊢; omega)
        go_wp2_with fail
        refine KT.mono ?_
        rintro e w2 ⟨p, q2, rfl, hp, hq2, hg2⟩
        have HG2 := Lib.hid (grown_trans HG.out hg2)
        have hpl := hp.len
        rw [List.length_take, Nat.min_eq_left hlen] at hpl
        obtain ⟨pa, pn, pc⟩ := p
        dsimp only at hpl hp
        subst hpl
        have hroom := hp.room
        obtain ⟨b, off, ea, hcell⟩ := (hp.below hq2.bel).at 0 (by omega)
        subst ea
        rw [byteAt_take _ _ _ (by omega), byteAt_drop, Nat.add_zero] at hcell
        rw [Nat.add_zero] at hcell
        have hby := hp.bytes 0
        rw [byteAt_take _ _ _ (by omega), byteAt_drop, Nat.add_zero] at hby
        have KT := thread_any hq2 (byteAt (bs.drop 1) (10 * k)) hby.1 hby.2 HT.out.1 HT.out.2
        have hcut := hp.cut (s := ⟨some ⟨b, off, none⟩, 10, pc⟩) 1 10 pc (by omega) (by simp) hroom.1 (Nat.le_refl _)
        have hsl : ∀ W, (Instr.slice 22 (.slice (some ⟨b, off, none⟩) 10 pc) (some (.int .i64 1)) none none).run Try.prog W = .ok (Sl.cut ⟨some ⟨b, off, none⟩, 10, pc⟩ 1 10 pc).v W := fun W => slice_from ⟨some ⟨b, off, none⟩, 10, pc⟩ 1 W (by simp)
        have hdec : decT (((((bs.drop 1).drop (10 * k)).take 10).take 10).drop 1) = decT ((bs.drop 1).drop (10 * k + 1)) := by
          rw [List.take_take, Nat.min_self, List.drop_take, List.drop_drop]
          exact decT_nine _ _ (Nat.le_refl _)
        generalize (Sl.cut ⟨some ⟨b, off, none⟩, 10, pc⟩ 1 10 pc) = p9 at *
        obtain ⟨p9a, p9n, p9c⟩ := p9
        dsimp only [Sl.v] at hsl hcut
        have KD := cdecode_any p9a p9n p9c _ w2.drew (hcut.below (below_drew1 hq2.bel))
        rw [hdec] at KD
        clear hdec hcut
        have hS2 : Ls W.heap.size L vs (byTh T (prs T (bs.drop 1) k)) w2 := HS.out.agree fun j hj hb => hg2.block j hj (by intro e; have := Option.some.inj e; have := HBW.out; omega)
        have hT0 := HT.out
        have hTT := HTT.out
        have et : byteAt (bs.drop 1) (10 * k) % c.th = (((byteAt (bs.drop 1) (10 * k)).toNat % T : Nat) : Int) := by
          have e0 := Int.toNat_of_nonneg hby.1
          rw [hTT, Int.natCast_emod, e0]
        have htT : (byteAt (bs.drop 1) (10 * k)).toNat % T < T := Nat.mod_lt _ (by omega)
        have hsn := prs_snoc T (bs.drop 1) k
        rw [et] at KT
        clear hby
        generalize (byteAt (bs.drop 1) (10 * k)).toNat % T = t at *
        generalize byteAt (bs.drop 1) (10 * k) = bt at *
        generalize decT ((bs.drop 1).drop (10 * k + 1)) = cc at *
        have hbs := byTh_snoc T (prs T (bs.drop 1) k) t cc htT
        rw [← hsn] at hbs
        have hl : (byTh T (prs T (bs.drop 1) k))[t]? = some ((byTh T (prs T (bs.drop 1) k))[t]'(by rw [byTh_len]; exact htT)) := List.getElem?_eq_getElem _
        have hld : (byTh T (prs T (bs.drop 1) k)).getD t [] = (byTh T (prs T (bs.drop 1) k))[t]'(by rw [byTh_len]; exact htT) := by rw [List.getD_eq_getElem?_getD, hl]; rfl
        rw [hld] at hbs
        have hvl : t < vs.length := by rw [hS2.len, byTh_len]; exact htT
        have hv : vs[t]? = some vs[t] := List.getElem?_eq_getElem hvl
        have htot := byTh_tot T (prs T (bs.drop 1) k) (fun p hp => by
          obtain ⟨j, _, rfl⟩ := List.mem_map.1 hp
          exact Nat.mod_lt _ (by omega))
        have hll : ((byTh T (prs T (bs.drop 1) k))[t]'(by rw [byTh_len]; exact htT)).length ≤ 48 := by
          have := tot_take _ t _ hl
          have h2 := tot_le (byTh T (prs T (bs.drop 1) k)) (t + 1)
          rw [htot, prs_len] at h2
          have := HM.out
          omega
        generalize ((byTh T (prs T (bs.drop 1) k))[t]'(by rw [byTh_len]; exact htT)) = l at *
        generalize vs[t] = v at *
        obtain ⟨va, vn, vc⟩ := v
        obtain ⟨i0, hi, hz0, hz1, hz2⟩ := info_parts info49
        have HL := Lib.hid hl
        have HV := Lib.hid hv
        have HLL := Lib.hid hll
        have HBS := Lib.hid hbs
        have HQ2 := Lib.hid hq2
        have HS2 := Lib.hid hS2
        have htv : (t : Int) < T := by omega
        have h0c : w2.drew.cell? ⟨L, t, none⟩ = some (.slice va vn vc) := hS2.cell hv
        clear hp hq2 hg2 et hsn hbs hl hld hvl hv htot hll hS2 hT0 hTT htT hroom HQ HG HS
        go_wp2_with fail
        refine KT.mono ?_
        rintro e w2' ⟨rfl, rfl⟩
        clear KT
        go_wp2_with fail
        go_region_law (first
          | (refine step_append_lies _ (by rfl) _ _ _ (by rfl) W.heap.size 49 i0 _ 3 16 Try.underlying38 hi hz0 hz1 hz2 rfl (by omega) (.slice va vn vc) l.length (encT l) (by rfl) (row_agree (hS3.out.own t _ l HV.out HL.out) (fun j hj => Below.heap_alloc _ _ _ ((hS3.out.own t _ l HV.out HL.out).lt j hj).2)) ⟨V3.heap.size, 0, none⟩ 1 1 [.int .i64 cc.op, .int .u32 cc.key, .int .u32 cc.val] (by rfl) (by rfl) (World.news_of_block (cs := #[.int .i64 cc.op, .int .u32 cc.key, .int .u32 cc.val]) (t := 49) (fr := (0, 0)) (heap_alloc_new V3 _)) (by simp [Value.oneCell']) (by omega) (by have := HLL.out; unfold maxLen; omega) (by have := HLL.out; omega) (by have := hS3.out.row.lt; have := hS3.out.low; simp; omega) _ rfl ?_; intro g cap w4 hown hgrow hat hlt4; have hPush := Ls.push hS3.out HV.out HL.out cc _ g cap hown hgrow hat; have c4 : w4.cell? ⟨L, t, none⟩ = some (.slice va vn vc) := (by rw [hPush.2.cell]; simp [HV.out]); have f4 := hPush.2.frozen t; have HPush := Lib.hid hPush.1; have hg4 : V3.grownBy w4 (Value.slice va vn vc).ownBlock := grown_trans (grown_below (box1 _)) hgrow; clear hPush hat hlt4 hown hgrow)
          | (go_simp; go_wp2_with (go_at_call 38; refine KD.mono ?_; rintro e V3 ⟨rfl, hb⟩; have hS3 := Lib.hid ((HS2.out.below (V := w2'.drew) (below_drew1 (Below.refl _ _))).below hb); have hQ3 := Lib.hid ((HQ2.out.below (V := w2'.drew) (below_drew1 (Below.refl _ _))).below hb); have HG3 := Lib.hid (grown_trans (grown_trans HG2.out (grown_below (below_drew1 (Below.refl _ w2')))) (grown_below (r := some B) hb)); have c3 := hS3.out.cell HV.out; have lt3 := hS3.out.row.lt; have ne3 := Nat.ne_of_lt lt3; clear hb)))
        all_goals
          have hlo : ∀ j, (Value.slice va vn vc).ownBlock = some j → W.heap.size ≤ j := fun j hj => ((hS3.out.own t _ l HV.out HL.out).lt j hj).1
          have hLow := hS3.out.low
          have hQL := hQ3.out.low
          have HQ4 : Rr w B q2 ((bs.drop 1).drop (10 * (k + 1))) c x y z (w4.setCell ⟨L, t, none⟩ (.slice (some ⟨g, 0, none⟩) (l.length + 1) cap)) := by
            have hB4 : Blk w4 B 44 (rcs q2 c x y z) := hQ3.out.box.agree (hg4.block B hQ3.out.lt (fun e => by have := hlo B e.symm; have := HBW.out; omega))
            refine ⟨hB4.far (p := ⟨L, t, none⟩) (by show B ≠ L; have := HBW.out; omega) _, hQ3.out.low, ?_, ((hQ3.out.bel.grown hg4 hQ3.out.bel.size (fun j hj => by have := hlo j hj; have := HBW.out; omega)).setCell (p := ⟨L, t, none⟩) (by show w.heap.size ≤ L; have := HBW.out; omega) _)⟩
            have := hQ3.out.rest
            rwa [List.drop_drop] at this
          have HG4 : W.grownBy (w4.setCell ⟨L, t, none⟩ (.slice (some ⟨g, 0, none⟩) (l.length + 1) cap)) (some B) := by
            have a := HG3.out
            refine ⟨hg4.os.trans a.os, hg4.tape.trans a.tape, hg4.output.trans a.output, by have := a.size; have := hg4.size; simp [World.setCell]; omega, fun j hj hne => ?_⟩
            rw [Below.heap_setCell _ _ _ _ (by show j ≠ L; omega), hg4.block j (Nat.lt_of_lt_of_le hj a.size) (fun e => by have := hlo j e.symm; omega)]
            exact a.block j hj hne
          have HQ5 := Lib.hid HQ4
          have HG5 := Lib.hid HG4
          have HP5 := HPush
          rw [← HBS.out] at HP5
          clear HQ4 HG4 hlo hLow hQL c3 lt3 ne3 c4 f4 hg4 HPush h0c
          generalize (w4.setCell ⟨L, t, none⟩ (.slice (some ⟨g, 0, none⟩) (l.length + 1) cap)) = W5 at *
          go_wp2
          go_roundw
          case rel => exact ⟨k + 1, q2, _, by omega, by go_num, HLen, HQ5, HG5, HP5⟩
          case measure => simp [intOf]; omega
      · have KT := take_short HQ.out 10 (by omega) (by omega)
        have HE := Lib.hid (HBAD.out (by have := hL.out; simp at hlen this ⊢; omega))
        have HF := Lib.hid HQ.out.bel
        clear hlen
        go_wp2_with fail
        refine KT.mono ?_
        rintro e w2 ⟨rfl, rfl⟩
        go_wp2
        exact HE.out _ _ ⟨rfl, HF.out⟩
    · obtain rfl : k = n := by omega
      obtain ⟨x0, x1, x2, x3, x4, x5, x6, x7, x8, x9, x10⟩ := HQ.out.box.rdr
      have xf := HQ.out.box.frozen
      have hlt := HQ.out.lt
      have hlenL : (byTh T (prs T (bs.drop 1) k)).length = T := byTh_len _ _
      have hSafe := HS.out.rdl HBW.out (by rw [hlenL]; have := HT.out; have := HTT.out; omega)
      rw [hlenL] at hSafe
      have HF := HQ.out.setx ⟨some ⟨L, 0, none⟩, T, T⟩
      rw [List.drop_drop] at HF
      have HF := Lib.hid HF
      have HO := Lib.hid (hSafe.grown (grown_set (B := B) (i := 8) (u := .slice (some ⟨L, 0, none⟩) T T)))
      have HG3 := Lib.hid (grown_trans HG.out (grown_set (B := B) (i := 8) (u := .slice (some ⟨L, 0, none⟩) T T)))
      have HE := Lib.hid (HOK.out (by have := hL.out; have := HLe.out; omega))
      clear hSafe hlenL HQ HS HG HLe
      go_wp2
      exact HE.out _ _ ⟨q, ⟨some ⟨L, 0, none⟩, T, T⟩, rfl, HF.out, HO.out, HG3.out⟩
end Go.Proofs.Ytdmdmkgpnelkjaa
