/- The free list in the words; what Chain tells. -/
import Derived.Test.YtemikojaldoofaaGreatAPh
import Derived.Test.YtemikojaldoofaaGreatQSeq
import Derived.LoopNIn
import Derived.LoopIn
import Derived.Shelf.Abstract
import Derived.Maps.AppendAt
import Derived.Deep.QuietTactic
import Derived.BigQuiet
import Derived.Lib.Hide
import Derived.WalkLawsBesides
import Derived.Handy
namespace Go.Proofs.YtemikojaldoofaaGreat
open Go.ChangeShapes Go.WideShapes Go.ChangeAt Go.RowKit Go.Shelf
set_option linter.unusedVariables false

set_option maxRecDepth 20000
attribute [local go_sem] Oper.semAt_some wide_fn

/-- The j-th node of a list, 0 behind its end. -/
def nth (L : List Int) (j : Nat) : Int := L.getD j 0
/-- The words hold the list L: each node's link is the next one's number. -/
def Linked (c : P.Cf) (ws : List Int) (L : List Int) : Prop := ∀ j, j < L.length → wordAt ws (c.link (nth L j)).toNat = nth L (j + 1)
/-- The free list L in the words. -/
structure Free (c : P.Cf) (ws : List Int) (L : List Int) : Prop where
  len : ws.length = c.size.toNat
  hd : pt (wordAt ws 0) = nth L 0
  u : U64 (wordAt ws 0)
  lk : Linked c ws L
  bd : ∀ x ∈ L, P.sent c.al < x ∧ x ≤ c.nd
  short : (L.length : Int) ≤ c.nd
theorem nth_in {L : List Int} {j : Nat} (h : j < L.length) : nth L j ∈ L := by
  unfold nth
  rw [List.getD_eq_getElem?_getD, List.getElem?_eq_getElem h]
  exact List.getElem_mem h
theorem nth_end {L : List Int} {j : Nat} (h : L.length ≤ j) : nth L j = 0 := by
  unfold nth
  rw [List.getD_eq_getElem?_getD, List.getElem?_eq_none h]
  rfl
theorem take_nth {L : List Int} {j : Nat} (h : j < L.length) : L.take (j + 1) = L.take j ++ [nth L j] := by
  rw [List.take_add_one, List.getElem?_eq_getElem h]
  simp [nth, List.getElem?_eq_getElem h]
theorem link_zero_of (c : P.Cf) : c.link 0 = -1 := by
  unfold P.Cf.link
  rw [P.addrN_no (by omega)]

abbrev encI (x : Int) : Array Value := #[.int .i64 x]
set_option maxRecDepth 100000 in
set_option maxHeartbeats 2000000 in
theorem nodes_tells (c : P.Cf) (hc : c.Ok) (ws L : List Int) (hF : Free c ws L) (bw bp gw cap : Nat) (W0 : World) (hw : Boxed W0 bw 43 (.slice (some ⟨gw, 0, none⟩) ws.length cap)) (hp : Blk W0 bp 33 c.cs)
    (hr : W0.ownsRow 0 24 1 (.slice (some ⟨gw, 0, none⟩) ws.length cap) ws.length (encU ws)) :
    Tells Tryz.prog encI (.func (.func 66) #[] #[at0 bw, at0 bp]) (fun k => k = bw ∨ k = bp ∨ k = gw) L W0 := by
  refine ⟨⟨_, _, rfl⟩, fun k hk => by
    rcases hk with rfl | rfl | rfl
    · exact hw.lt
    · exact hp.lt
    · exact (hr.lt _ rfl).2, ?_⟩
  intro W hW y J Jx O hyf hJ hJx hY hC h0
  have bw0 : Boxed W bw 43 (.slice (some ⟨gw, 0, none⟩) ws.length cap) := (hW bw (.inl rfl)).trans hw
  have bp0 : Blk W bp 33 c.cs := hp.agree (hW bp (.inr (.inl rfl)))
  have hr0 : W.ownsRow 0 24 1 (.slice (some ⟨gw, 0, none⟩) ws.length cap) ws.length (encU ws) := row_agree hr fun k e => hW k (.inr (.inr (by simpa [Value.ownBlock] using e.symm)))
  have hz := hc.steps
  have hnd := hc.nd
  have hl0 : ws.length = c.size.toNat := hF.len
  have cellW : ∀ V : World, (∀ k, (k = bw ∨ k = bp ∨ k = gw) → V.heap[k]? = W.heap[k]?) → ∀ j, j < ws.length → V.cell? ⟨gw, j, none⟩ = some (Value.int .u64 (wordAt ws j)) := fun V hV j hj => by
    have hr1 := row_agree hr0 (W' := V) fun k e => hV k (.inr (.inr (by simpa [Value.ownBlock] using e.symm)))
    have := hr1.cellAt j (by simp; exact hj)
    rw [this]
    simp [encU, wordAt, List.getElem?_eq_getElem hj]
  have KL := fun V a (ha : P.I64 a) => P.link_ok c a V hc ha
  have KC := fun V => P.conf_any c V
  have KP := fun V => ptr_any (wordAt ws 0) V hF.u.1 hF.u.2
  have hhd : wordAt ws 0 / 2 % 65536 = nth L 0 := hF.hd
  rw [hhd] at KP
  obtain ⟨n, hn⟩ : ∃ n, ws.length = n := ⟨_, rfl⟩
  have hn8 : 8 ≤ n ∧ n ≤ 924 := by omega
  rw [hn] at bw0
  have q0 : ((n : Int) == 0) = false := by simp; omega
  have w0 := cellW W (fun _ _ => rfl) 0 (by omega)
  have ecv : c.v = .agg #[.int .i64 c.al, .int .i64 c.th, .int .i64 c.nd, .int .i64 c.lv, .int .i64 c.ba, .int .i64 c.pr, .int .i64 c.sc] := rfl
  rw [ecv] at KC
  simp only [ecv] at KL
  have pc : ∀ V : World, Blk V bp 33 c.cs → V.cell? ⟨bp, 0, none⟩ = some (.int .i64 c.al) ∧ V.cell? ⟨bp, 1, none⟩ = some (.int .i64 c.th) ∧ V.cell? ⟨bp, 2, none⟩ = some (.int .i64 c.nd) ∧ V.cell? ⟨bp, 3, none⟩ = some (.int .i64 c.lv) ∧ V.cell? ⟨bp, 4, none⟩ = some (.int .i64 c.ba) ∧ V.cell? ⟨bp, 5, none⟩ = some (.int .i64 c.pr) ∧ V.cell? ⟨bp, 6, none⟩ = some (.int .i64 c.sc) := fun V h => ⟨h.cell 0, h.cell 1, h.cell 2, h.cell 3, h.cell 4, h.cell 5, h.cell 6⟩
  have PC := Lib.hid pc
  have fld : ∀ w, (Instr.field 23 (.agg #[.int .i64 c.al, .int .i64 c.th, .int .i64 c.nd, .int .i64 c.lv, .int .i64 c.ba, .int .i64 c.pr, .int .i64 c.sc]) 2).run Tryz.prog w = .ok (.int .i64 c.nd) w := fun w => field_nd c w
  obtain ⟨p0, p1, p2, p3, p4, p5, p6⟩ := pc W bp0
  clear pc ecv
  have HN := Lib.hid (And.intro hn hl0)
  have HZ := Lib.hid hz
  have HD := Lib.hid hnd
  have HF := Lib.hid hF
  have HR := Lib.hid cellW
  have H0 := Lib.hid (And.intro bw0 bp0)
  have c1 := bw0.cell
  have HJ := Lib.hid (And.intro hJ hY)
  have HC := Lib.hid hC
  have HH := Lib.hid h0
  clear hn hl0 hz hnd hF hr hr0 hw hp hW cellW hhd bp0 bw0 hC h0 hJ hY
  refine callsV_func (enters_of Tryz.func66 (by kernel_rfl) rfl) ?_
  refine (callsIn_wide (n := 9)).1 ?_
  refine callsIn_of_wp Tryz.func66 rfl trivial ?_ rfl
  simp only [Tryz.ntmps66, List.size_toArray, List.length_cons, List.length_nil, Nat.reduceAdd, Nat.reduceSub, Array.replicate_succ, Array.replicate_zero, List.push_toArray, List.append_toArray, List.nil_append, List.cons_append]
  gi_wp2_with (first | (gi_at_call 67; refine (callsIn_wide.2 (KP _)).mono ?_; rintro e w' ⟨rfl, rfl⟩) | (gi_at_call 63; refine (callsIn_wide.2 (KC _)).mono ?_; rintro e w' ⟨rfl, hB⟩))
  have HB := Lib.hid hB
  clear hB w0 c1 KC KP q0 p0 p1 p2 p3 p4 p5 p6
  gi_loopw [4, 16] (fun v i wr => ∃ (j : Nat) (O' : Nat → Prop), j ≤ L.length ∧ v = .int .i64 (nth L j) ∧ i = .int .i64 j ∧ Hid (Keeps O W wr ∧ Later O W O' ∧ J (L.take j) O' wr)) (fun v i wr => 100 - (intOf i).toNat)
  case atStart =>
    exact ⟨0, O, by omega, rfl, rfl, Lib.hid ⟨Keeps.of_below HB.out, Later.refl _ _, (HJ.out.1 _ _ _ HH.out).2 _ fun k hk => HB.out.block k (HJ.out.1.lt HH.out hk)⟩⟩
  case round =>
    obtain ⟨j, O', hj, rfl, rfl, HS⟩ := hrel
    have hAG : ∀ V, Keeps O W V → ∀ k, (k = bw ∨ k = bp ∨ k = gw) → V.heap[k]? = W.heap[k]? := fun V hV k hk => hV.block k (by
      rcases hk with rfl | rfl | rfl
      · exact H0.out.1.lt
      · exact H0.out.2.lt
      · exact World.block_lt_of_cell? W _ (HR.out W (fun _ _ => rfl) 0 (by have := HN.out; omega))) (HC.out k hk)
    have hag := hAG wr HS.out.1
    have HAG := Lib.hid hAG
    clear hAG
    have d1 := ((show Boxed wr bw 43 (.slice (some ⟨gw, 0, none⟩) n cap) from (hag bw (.inl rfl)).trans H0.out.1)).cell
    obtain ⟨p0, p1, p2, p3, p4, p5, p6⟩ := PC.out wr (H0.out.2.agree (hag bp (.inr (.inl rfl))))
    have hnd := HD.out
    have hsh := HF.out.short
    by_cases hlt : (j : Int) < c.nd
    · by_cases hj2 : j < L.length
      · obtain ⟨b0, b1⟩ := HF.out.bd _ (nth_in hj2)
        have hs0 := (P.sent_in c.al).1
        obtain ⟨e1, l0, l1⟩ := link_at hc (n := nth L j) (by omega) b1
        have hlk := HF.out.lk j hj2
        have hLk := KL wr (nth L j) (by unfold P.I64; omega)
        obtain ⟨a, ha⟩ : ∃ a : Nat, c.link (nth L j) = a := ⟨(c.link (nth L j)).toNat, by omega⟩
        rw [ha] at hLk l1 hlk
        have han : a < ws.length := by have := HN.out; omega
        have HHA := Lib.hid han
        have HLK : Hid (wordAt ws a = nth L (j + 1)) := Lib.hid (by simpa using hlk)
        have hneg : decide ((a : Int) < 0) = false := by simp
        have hnx : 0 ≤ nth L (j + 1) ∧ nth L (j + 1) < 1000 := by
          by_cases h3 : j + 1 < L.length
          · have := HF.out.bd _ (nth_in h3); omega
          · rw [nth_end (by omega)]; omega
        have HT : Hid (L.take (j + 1) = L.take j ++ [nth L j]) := Lib.hid (take_nth hj2)
        have HPX : Hid (L.take j ++ [nth L j] <+: L) := Lib.hid (by rw [← HT.out]; exact List.take_prefix _ _)
        have HX : Hid (∀ V, Keeps O W V → V.cell? ⟨bw, 0, none⟩ = some (.slice (some ⟨gw, 0, none⟩) n cap) ∧ V.cell? ⟨gw, a, none⟩ = some (.int .u64 (nth L (j + 1)))) := Lib.hid fun V hV => by
          have h1 := HAG.out V hV
          refine ⟨((show Boxed V bw 43 (.slice (some ⟨gw, 0, none⟩) n cap) from (h1 bw (.inl rfl)).trans H0.out.1)).cell, ?_⟩
          rw [← HLK.out]
          exact HR.out V h1 a HHA.out
        have hcap : a < n := by have := HN.out; omega
        have hw2 : IntKind.i64.wrap (nth L (j + 1)) = nth L (j + 1) := IntWalk.i64_in _ (by omega)
        have HNX := Lib.hid hnx
        have HND := Lib.hid (And.intro hnd (And.intro hlt hj2))
        have hj64 : (j : Int) < 64 := by omega
        clear hag e1 l0 l1 ha hlk b0 b1 hs0 han hsh hj2 hnx hnd
        gi_wp2_with (first | (gi_at_call 64; refine (callsIn_wide.2 hLk).mono ?_; rintro e w2 ⟨rfl, hB2⟩; have hk2 := HS.out.1.trans (Keeps.of_below (O := O') hB2) HS.out.2.1; have hc := HJ.out.2 (L.take j) (nth L j) O' w2 HPX.out hk2 HS.out.2.1 ((HJ.out.1 _ _ _ HS.out.2.2).2 _ fun k hk => hB2.block k (HJ.out.1.lt HS.out.2.2 hk)); have HK2 := Lib.hid hk2; clear hk2 hB2 hLk d1 p0 p1 p2 p3 p4 p5 p6) | ((with_reducible refine wpListIn_callV (f := .tmp 24) (y := y) (args := #[.int .i64 (nth L j)]) rfl rfl ?_ ?_ ?_ hc ?_); rfl; rfl; simp [go_sem]; (rintro e w' ⟨O'', hk', hL', (⟨rfl, hJ'⟩ | ⟨rfl, hJ'⟩)⟩) <;> (have HK3 := Lib.hid (HK2.out.trans hk' HS.out.2.1); have HL3 := Lib.hid (HS.out.2.1.trans HK2.out.size hL'); have HJ3 := Lib.hid hJ'; obtain ⟨x1, x2⟩ := HX.out _ HK3.out; clear hk' hL' hJ' hc) <;> refine ⟨_, rfl, ?_⟩))
        · go_roundw
          case rel =>
            have := HND.out
            exact ⟨j + 1, O'', by omega, rfl, by go_num, Lib.hid ⟨HK3.out, HL3.out, by rw [HT.out]; exact HJ3.out⟩⟩
          case measure => have := HND.out; simp [intOf]; omega
        · refine bodyPost_ret (results_none rfl _ _ _) rfl ?_
          exact ⟨⟨_, rfl⟩, O'', HK3.out, HL3.out, .inr ⟨_, HPX.out, HJ3.out⟩⟩
      · have hjl : j = L.length := by omega
        have hn0 : nth L j = 0 := nth_end (by omega)
        rw [hn0]
        have hLk := KL wr 0 (by unfold P.I64; omega)
        rw [link_zero_of] at hLk
        have HE : Hid (Keeps O W wr ∧ Later O W O' ∧ J L O' wr) := Lib.hid (by
          have := HS.out
          rwa [hjl, List.take_length] at this)
        clear hag hsh hj2 hnd hjl hn0 HS
        gi_wp2_with (gi_at_call 64; refine (callsIn_wide.2 hLk).mono ?_; rintro e w2 ⟨rfl, hB2⟩)
        have hk2 := HE.out.1.trans (Keeps.of_below (O := O') hB2) HE.out.2.1
        refine bodyPost_ret (results_none rfl _ _ _) rfl ?_
        exact ⟨⟨_, rfl⟩, O', hk2, HE.out.2.1, .inl ((HJ.out.1 _ _ _ HE.out.2.2).2 _ fun k hk => hB2.block k (HJ.out.1.lt HE.out.2.2 hk))⟩
    · have hjl : j = L.length := by omega
      have HE : Hid (Keeps O W wr ∧ Later O W O' ∧ J L O' wr) := Lib.hid (by
        have := HS.out
        rwa [hjl, List.take_length] at this)
      clear hag hsh hnd hjl HS
      gi_wp2
      go_end0
      exact ⟨⟨_, rfl⟩, O', HE.out.1, HE.out.2.1, .inl HE.out.2.2⟩
end Go.Proofs.YtemikojaldoofaaGreat
