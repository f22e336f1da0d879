/- readPicks. -/
import Derived.Test.YtdmdmkgpnelkjaaRDraws
namespace Go.Proofs.Ytdmdmkgpnelkjaa
open Go.ChangeShapes Go.WideShapes Go.ChangeAt Go.RowKit
set_option linter.unusedVariables false

/-- What readPicks leaves where all is well. -/
structure WentP (w : World) (B : Nat) (bs : List Int) (c : Cf) (x z : Sl) (ps : List Int) (W : World) (e : Ending) (W' : World) : Prop where
  ex : ∃ q y : Sl, e = .returned (.int .i64 0) ∧ Rr w B q bs c x y z W' ∧ Safe B W' (fun V => Reads V y 1 (encI ps)) ∧ W.grownBy W' (some B)
theorem info3 : (Try.prog.info? 3).map (fun i => (i.zero, i.size, i.bytes)) = some (some (.int .i64 0), 1, 8) := by kernel_rfl
theorem madeCells_one (v : Value) (n : Nat) : madeCells #[v] n = (List.replicate n v).toArray := by
  apply Array.ext
  · simp [size_madeCells]
  · intro i h1 h2
    simp [madeCells, Nat.mod_one]
/-- A row of picks, when the first k have been laid. -/
def pkRow (ps : List Int) (m : Nat) : Array Value := (encI ps ++ List.replicate (m - ps.length) (Value.int .i64 0)).toArray
theorem made3 (w : World) (m : Nat) (h : m ≤ 60000) : (Instr.makeSlice 27 (.int .i64 m) (.int .i64 m)).run Try.prog w = .ok (.slice (some ⟨w.heap.size, 0, none⟩) m m) (w.alloc (.cells (pkRow [] m) 3)) := by
  obtain ⟨i, hi, h0, h1, h2⟩ := info_parts info3
  have := run_makeSlice (P := Try.prog) w 27 3 i (.int .i64 0) Try.underlying27 hi h0 .i64 .i64 m m (by omega) (by omega) (by rw [h1]; omega) (by rw [h2]; omega) (by omega)
  rw [this, h1]
  have hc : madeCells (Value.int .i64 0).cells (Int.toNat m * 1) = pkRow [] m := by
    rw [show (Value.int .i64 0).cells = #[Value.int .i64 0] from rfl, madeCells_one]
    simp [pkRow, encI]
  rw [hc]
  rfl
theorem pkRow_set (ps : List Int) (p : Int) (m : Nat) (h : ps.length < m) : (pkRow ps m).setIfInBounds ps.length (.int .i64 p) = pkRow (ps ++ [p]) m := by
  unfold pkRow
  have e : m - ps.length = (m - (ps ++ [p]).length) + 1 := by simp; omega
  rw [e, List.replicate_succ]
  simp [encI]
theorem pkRow_full (ps : List Int) (W : World) (P : Nat) (h : Blk W P 3 (pkRow ps ps.length)) (hm : ps.length ≤ 60000) : Reads W ⟨some ⟨P, 0, none⟩, ps.length, ps.length⟩ 1 (encI ps) := by
  refine ⟨by simp [encI], ⟨Nat.le_refl _, by simp only [maxLen]; omega⟩, (by intro e; cases e), .inr ⟨P, 0, rfl, fun j u hj => ?_⟩⟩
  rw [h.cell]
  unfold pkRow
  simpa using hj

set_option maxRecDepth 100000 in
theorem rpicks_short {w W : World} {B : Nat} {r : Sl} {bs : List Int} {c : Cf} {x y z : Sl} (h : Rr w B r bs c x y z W) (hn : bs.length < 2) :
    Calls Try.prog 27 #[.pointer (some ⟨B, 0, none⟩)] W (Erred w 9) := by
  have KC := count_short h 2 60000 hn (by omega)
  have HB := Lib.hid h.bel
  clear h hn
  go_enter Try.func27, Try.ntmps27
  go_wp2_with fail
  refine KC.mono ?_
  rintro e w1 ⟨rfl, rfl⟩
  go_wp2
  go_ret
  exact ⟨rfl, HB.out⟩
set_option maxRecDepth 100000 in
theorem rpicks_far {w W : World} {B : Nat} {r : Sl} {bs : List Int} {c : Cf} {x y z : Sl} (h : Rr w B r bs c x y z W) (hn : 2 ≤ bs.length) (hm : 60000 < byteAt bs 0 + 256 * byteAt bs 1) :
    Calls Try.prog 27 #[.pointer (some ⟨B, 0, none⟩)] W (Erred w 10) := by
  have KC := count_two h hn 0 10 (.inl ⟨hm, rfl, rfl⟩)
  clear h hn hm
  go_enter Try.func27, Try.ntmps27
  go_wp2_with fail
  refine KC.mono ?_
  rintro e w1 ⟨q, rfl, hq, hg⟩
  have HB := Lib.hid hq.bel
  clear hq hg KC
  go_wp2
  go_ret
  exact ⟨rfl, HB.out⟩
set_option maxRecDepth 100000 in
theorem rpicks_less {w W : World} {B : Nat} {r : Sl} {bs : List Int} {c : Cf} {x y z : Sl} (h : Rr w B r bs c x y z W) (hn : 2 ≤ bs.length) (m : Nat) (he : byteAt bs 0 + 256 * byteAt bs 1 = m) (hm : m ≤ 60000) (hl : bs.length < 2 + m) :
    Calls Try.prog 27 #[.pointer (some ⟨B, 0, none⟩)] W (Erred w 9) := by
  have KC := count_two h hn m 0 (.inr ⟨by omega, he.symm, rfl⟩)
  have HL := Lib.hid (show (bs.drop 2).length < m ∧ m ≤ 1000000 by simp; omega)
  clear h hn hm hl he
  go_enter Try.func27, Try.ntmps27
  go_wp2_with fail
  refine KC.mono ?_
  rintro e w1 ⟨q, rfl, hq, hg⟩
  have KT := take_short hq m HL.out.1 HL.out.2
  have HB := Lib.hid hq.bel
  clear hq hg KC
  go_wp2_with fail
  refine KT.mono ?_
  rintro e w2 ⟨rfl, rfl⟩
  go_wp2
  go_ret
  exact ⟨rfl, HB.out⟩
set_option maxRecDepth 100000 in
set_option maxHeartbeats 8000000 in
theorem rpicks_ok {w W : World} {B : Nat} {r : Sl} {bs : List Int} {c : Cf} {x y z : Sl} (h : Rr w B r bs c x y z W) (m : Nat) (he : byteAt bs 0 + 256 * byteAt bs 1 = m) (hm : m ≤ 60000) (hl : 2 + m ≤ bs.length) (hc : c.Ok) :
    Calls Try.prog 27 #[.pointer (some ⟨B, 0, none⟩)] W (WentP w B (bs.drop (2 + m)) c x z (pks c.th (bs.drop 2) m) W) := by
  have KC := count_two h (by omega) m 0 (.inr ⟨by omega, he.symm, rfl⟩)
  have HL := Lib.hid (show m ≤ (bs.drop 2).length by simp; omega)
  have HM := Lib.hid hm
  have HT := Lib.hid (show 1 ≤ c.th ∧ c.th ≤ 6 from ⟨hc.t0, hc.t1⟩)
  have hmk := fun W => made3 W m hm
  clear h he hl hc hm
  go_enter Try.func27, Try.ntmps27
  go_wp2_with fail
  refine KC.mono ?_
  rintro e w1 ⟨q, rfl, hq, hg⟩
  have KT := take_long hq m HL.out
  have HG := Lib.hid hg
  clear hq hg KC
  go_wp2_with fail
  refine KT.mono ?_
  rintro e w2 ⟨p, q, rfl, hp, hq, hg⟩
  have HG2 := Lib.hid (grown_trans HG.out hg)
  have hlen := hp.len
  rw [List.length_take, Nat.min_eq_left HL.out] at hlen
  obtain ⟨pa, pn, pc⟩ := p
  dsimp only at hlen hp
  subst hlen
  have HQ := Lib.hid (show Rr w B q (bs.drop (2 + m)) c x y z w2 by rw [← List.drop_drop]; exact hq)
  have HP := Lib.hid hp
  have hPb : Blk (w2.alloc (.cells (pkRow [] m) 3)) w2.heap.size 3 (pkRow [] m) := Blk.new _ _ _
  have HPb := Lib.hid hPb
  have hbel := Lib.hid (box1 (w := w2) (.cells (pkRow [] m) 3))
  clear hp hq hg KT HG hPb
  have hmi : (m : Int) ≤ 60000 := by have := HM.out; omega
  go_wp2_with fail
  clear hmk
  generalize (w2.alloc (.cells (pkRow [] m) 3)) = V0 at *
  go_loopw [34] (fun i V => ∃ k : Nat, k ≤ m ∧ i = .int .i64 k ∧ Hid (Blk V w2.heap.size 3 (pkRow (pks c.th (bs.drop 2) k) m)) ∧ Hid (Below w2.heap.size w2 V)) (fun i _ => m - (intOf i).toNat)
  case atStart => exact ⟨0, by omega, rfl, HPb, hbel⟩
  case round =>
    clear HPb hbel
    obtain ⟨k, hk, rfl, HK, HB⟩ := hrel
    have HQ2 := Lib.hid (HQ.out.below HB.out)
    by_cases hkm : k < m
    · have gk : (k : Int) < m := by omega
      have w3 := IntWalk.i64_in ((k : Int) + 1) (by omega)
      obtain ⟨b, off, ea, hcell⟩ := (HP.out.below HQ2.out.bel).at k hkm
      subst ea
      rw [byteAt_take _ _ _ hkm] at hcell
      have hby := HP.out.bytes k
      rw [byteAt_take _ _ _ hkm] at hby
      have KT := thread_any HQ2.out (byteAt (bs.drop 2) k) hby.1 hby.2 HT.out.1 HT.out.2
      have hset := HK.out.set k (.int .i64 (byteAt (bs.drop 2) k % c.th))
      have hrow := pkRow_set (pks c.th (bs.drop 2) k) (byteAt (bs.drop 2) k % c.th) m (by rw [pks_len]; exact hkm)
      rw [pks_len] at hrow
      rw [hrow, ← pks_snoc] at hset
      have HK2 := Lib.hid hset
      have HB2 := Lib.hid (HB.out.setCell (p := ⟨w2.heap.size, k, none⟩) (Nat.le_refl _) (.int .i64 (byteAt (bs.drop 2) k % c.th)))
      have kf := HK.out.frozen k
      have kc := HK.out.cell k
      have hks : ∃ u, (pkRow (pks c.th (bs.drop 2) k) m)[k]? = some u := by
        have : k < (pkRow (pks c.th (bs.drop 2) k) m).size := by simp [pkRow, encI, pks_len]; omega
        exact ⟨_, Array.getElem?_eq_getElem this⟩
      obtain ⟨u, hu⟩ := hks
      rw [hu] at kc
      clear hset hrow hu hby HK HB
      generalize byteAt (bs.drop 2) k = bt at *
      go_wp2_with fail
      refine KT.mono ?_
      rintro e w4 ⟨rfl, rfl⟩
      go_wp2
      go_roundw
      case rel => exact ⟨k + 1, by omega, by go_num, HK2, HB2⟩
      case measure => simp [intOf]; omega
    · obtain rfl : k = m := by omega
      obtain ⟨x0, x1, x2, x3, x4, x5, x6, x7, x8, x9, x10⟩ := HQ2.out.box.rdr
      have xf := HQ2.out.box.frozen
      have hlt := HQ2.out.lt
      have hS := pkRow_full (pks c.th (bs.drop 2) k) wr w2.heap.size (by rw [pks_len]; exact HK.out) (by rw [pks_len]; exact HM.out)
      rw [pks_len] at hS
      have hne : w2.heap.size ≠ B := Nat.ne_of_gt HQ.out.lt
      have hSafe : Safe B wr (fun V => Reads V ⟨some ⟨w2.heap.size, 0, none⟩, k, k⟩ 1 (encI (pks c.th (bs.drop 2) k))) := fun V hV => hS.agree fun j hj e => hV j hj (by
        have : w2.heap.size = j := by simpa [Value.ownBlock] using e
        have := HQ.out.lt
        omega)
      have HF := Lib.hid (HQ2.out.sety ⟨some ⟨w2.heap.size, 0, none⟩, k, k⟩)
      have HO := Lib.hid (hSafe.grown (grown_set (B := B) (i := 9) (u := .slice (some ⟨w2.heap.size, 0, none⟩) k k)))
      have HG3 := Lib.hid (grown_trans (grown_trans HG2.out (grown_below HB.out)) (grown_set (B := B) (i := 9) (u := .slice (some ⟨w2.heap.size, 0, none⟩) k k)))
      clear hS hSafe HK HB
      generalize w2.heap.size = P at *
      go_wp2
      go_ret
      exact ⟨q, ⟨some ⟨P, 0, none⟩, k, k⟩, rfl, HF.out, HO.out, HG3.out⟩
end Go.Proofs.Ytdmdmkgpnelkjaa
