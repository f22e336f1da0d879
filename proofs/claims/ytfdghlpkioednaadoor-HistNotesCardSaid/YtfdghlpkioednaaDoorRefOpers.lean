/- Opers, by the document. -/
import Derived.Test.YtfdghlpkioednaaDoorOpersW
import Derived.Laws.Cover3
namespace Go.Proofs.YtfdghlpkioednaaDoor
open Go.ChangeShapes Go.WideShapes Go.ChangeAt Go.RowKit
set_option linter.unusedVariables false

/-- Amid Opers: the operations that begin among the first i events. -/
structure RefS (w : World) (l : List Ev) (i : Nat) (o : Sl) (W : World) : Prop where
  bel : Below w.heap.size w W
  row : W.ownsRow w.heap.size 50 9 (.slice o.a o.n o.cap) (beg (ith l) i).length (encO ((beg (ith l) i).map (oper (ith l) l.length)))
theorem RefS.start (w : World) (l : List Ev) : RefS w l 0 nilS w := ⟨Below.refl _ _, World.ownsRow_nil _ _ _ _⟩
theorem RefS.len {w W : World} {l : List Ev} {i : Nat} {o : Sl} (h : RefS w l i o W) : o.n = (beg (ith l) i).length := (Reads.of_own h.row).2
theorem RefS.drewN {w W : World} {l : List Ev} {i : Nat} {o : Sl} (h : RefS w l i o W) (m : Nat) : RefS w l i o (W.drewN m) :=
  ⟨below_drewN h.bel m, row_agree h.row fun k e => (below_drewN (Below.refl W.heap.size W) m).block k (h.row.lt k e).2⟩
theorem RefS.back {w W : World} {l : List Ev} {i : Nat} {o : Sl} (h : RefS w l i o W) (hb : (ith l i).b = true) : RefS w l (i + 1) o W := by
  have := h.row
  refine ⟨h.bel, ?_⟩
  rw [beg_back hb]
  exact this
/-- And one that is being made, as far as the first q events tell. -/
structure RefB (w : World) (l : List Ev) (i q B : Nat) (o : Sl) (W : World) : Prop where
  s : RefS w l i o W
  lo : w.heap.size ≤ B
  box : Blk W B 50 (oper (ith l) q i).cs
  ne : (Value.slice o.a o.n o.cap).ownBlock ≠ some B
theorem RefB.new {w W : World} {l : List Ev} {i : Nat} {o : Sl} (h : RefS w l i o W) : RefB w l i (i + 1) W.heap.size o (W.alloc (.cells (Opr.cs ⟨(ith l i).t, (ith l i).c, zt, i, -1⟩) 50)) := by
  refine ⟨⟨h.bel.alloc h.bel.size _, h.row.alloc _⟩, h.bel.size, ?_, fun e => ?_⟩
  · rw [oper_none (nxt_none (by omega))]
    exact Blk.new _ _ _
  · have := (h.row.lt _ e).2
    omega
theorem RefB.drewN {w W : World} {l : List Ev} {i q B : Nat} {o : Sl} (h : RefB w l i q B o W) (m : Nat) : RefB w l i q B o (W.drewN m) :=
  ⟨h.s.drewN m, h.lo, h.box.below (below_drewN (Below.refl W.heap.size W) m) h.box.lt, h.ne⟩
theorem RefB.drew {w W : World} {l : List Ev} {i q B : Nat} {o : Sl} (h : RefB w l i q B o W) : RefB w l i q B o W.drew := h.drewN 1
theorem RefB.miss {w W : World} {l : List Ev} {i q B : Nat} {o : Sl} (h : RefB w l i q B o W) (ht : (ith l q).t ≠ (ith l i).t) : RefB w l i (q + 1) B o W := by
  refine ⟨h.s, h.lo, ?_, h.ne⟩
  rw [oper_same]
  · exact h.box
  · simp only [nxt]
    cases nxt (ith l) i q with
    | some k => rfl
    | none =>
      simp only
      rw [if_neg]
      rintro ⟨_, h2⟩
      exact ht h2
theorem RefB.hit {w W : World} {l : List Ev} {i q B : Nat} {o : Sl} (h : RefB w l i q B o W) (hn : nxt (ith l) i q = none) (hi : i < q) (ht : (ith l q).t = (ith l i).t) :
    RefB w l i (q + 1) B o ((((W.setCell ⟨B, 8, none⟩ (.int .i64 q)).setCell ⟨B, 4, none⟩ (.int .i64 (ith l q).a.op)).setCell ⟨B, 5, none⟩ (.int .u32 (ith l q).a.key)).setCell ⟨B, 6, none⟩ (.int .u32 (ith l q).a.val)) := by
  have hlo := h.lo
  refine ⟨⟨(((h.s.bel.setCell (p := ⟨B, 8, none⟩) hlo _).setCell (p := ⟨B, 4, none⟩) hlo _).setCell (p := ⟨B, 5, none⟩) hlo _).setCell (p := ⟨B, 6, none⟩) hlo _, ?_⟩, hlo, ?_, h.ne⟩
  · have hne := h.ne
    exact ownsRow_setCell_other (ownsRow_setCell_other (ownsRow_setCell_other (ownsRow_setCell_other h.s.row (a := ⟨B, 8, none⟩) hne _) (a := ⟨B, 4, none⟩) hne _) (a := ⟨B, 5, none⟩) hne _) (a := ⟨B, 6, none⟩) hne _
  · have hb := h.box
    rw [oper_none hn] at hb
    have := (((hb.set 8 (.int .i64 q)).set 4 (.int .i64 (ith l q).a.op)).set 5 (.int .u32 (ith l q).a.key)).set 6 (.int .u32 (ith l q).a.val)
    rw [oper_some (show nxt (ith l) i (q + 1) = some q by simp only [nxt, hn]; rw [if_pos ⟨hi, ht⟩])]
    simpa using this
theorem RefB.fin {w W : World} {l : List Ev} {i q B : Nat} {o : Sl} (h : RefB w l i q B o W) (hq : q = l.length ∨ q ≤ l.length ∧ ∃ m, nxt (ith l) i q = some m) : RefB w l i l.length B o W := by
  rcases hq with rfl | ⟨hq, m, hm⟩
  · exact h
  · refine ⟨h.s, h.lo, ?_, h.ne⟩
    have := h.box
    rw [oper_some hm] at this
    rw [oper_some (nxt_mono hm hq)]
    exact this
theorem RefB.push {w W w3 : World} {l : List Ev} {i B : Nat} {o : Sl} (h : RefB w l i l.length B o W) (hb : (ith l i).b = false) {g cap n : Nat} (hn : n = (beg (ith l) i).length) {b : Obj}
    (hown : w3.ownsRow w.heap.size 50 9 (.slice (some ⟨g, 0, none⟩) (n + 1) cap) (n + 1) (encO ((beg (ith l) i).map (oper (ith l) l.length)) ++ (oper (ith l) l.length i).cs.toList))
    (hgrow : (W.alloc b).grownBy w3 (Value.slice o.a o.n o.cap).ownBlock) : RefS w l (i + 1) ⟨some ⟨g, 0, none⟩, n + 1, cap⟩ w3 := by
  subst hn
  refine ⟨(h.s.bel.alloc h.s.bel.size _).grown hgrow (by have := h.s.bel.size; simp; omega) (fun j e => (h.s.row.lt j e).1), ?_⟩
  rw [beg_begin hb, List.map_append, List.length_append, List.map_cons, List.map_nil, encO_snoc]
  exact hown
/-- What Opers tells. -/
structure ROpered (w : World) (l : List Ev) (e : Ending) (W : World) : Prop where
  ex : ∃ o : Sl, e = .returned (.slice o.a o.n o.cap) ∧ W.ownsRow w.heap.size 50 9 (.slice o.a o.n o.cap) (ops (ith l) l.length).length (encO (ops (ith l) l.length)) ∧ Below w.heap.size w W

set_option maxRecDepth 100000 in
set_option maxHeartbeats 8000000 in
theorem refOpers_any (s : Sl) (l : List Ev) (w : World) (h : Reads w s 8 (encE l)) (hlen : l.length ≤ 1000) :
    Calls Tryd.prog 19 #[.slice s.a s.n s.cap] w (ROpered w l) := by
  have hn := h.lenE
  have hroom := h.room
  unfold maxLen at hroom
  have HR := Lib.hid h
  clear h
  obtain ⟨sa, sn, sc⟩ := s
  dsimp only at *
  subst hn
  obtain ⟨i0, hi, hz0, hz1, hz2⟩ := info_parts info50
  go_enter Tryd.func19, Tryd.ntmps19
  go_wp2_with fail
  go_loopw [3, 4] (fun v i W => ∃ (k : Nat) (oa : Option Addr) (on oc : Nat), k ≤ l.length ∧ i = .int .i64 k ∧ v = .slice oa on oc ∧ Hid (RefS w l k ⟨oa, on, oc⟩ W)) (fun _ i _ => l.length - (intOf i).toNat)
  case atStart => exact ⟨0, none, 0, 0, by omega, rfl, rfl, Lib.hid (RefS.start w l)⟩
  case round =>
    obtain ⟨k, oa, on, oc, hk, rfl, rfl, HS⟩ := hrel
    by_cases hkn : k < l.length
    · obtain ⟨b, off, rfl, x0, x1, x2, x3, x4, x5, x6, x7⟩ := (HR.out.below HS.out.bel).ev hkn
      have gk : (k : Int) < l.length := by omega
      have w2 := IntWalk.i64_in ((k : Int) + 1) (by omega)
      cases hbk : (ith l k).b with
      | true =>
        have HF := Lib.hid (HS.out.back hbk)
        rw [hbk] at x1
        clear HS HR
        go_wp2
        go_roundw
        case rel => exact ⟨k + 1, oa, on, oc, by omega, by go_num, rfl, HF⟩
        case measure => simp [intOf]; omega
      | false =>
        rw [hbk] at x1
        go_wp2_with fail
        go_region_held3 (fun W => W.cell? ⟨b, off + k * 8, none⟩ = some (.int .i64 (ith l k).t) ∧ W.cell? ⟨b, off + k * 8 + 2, none⟩ = some (.int .i64 (ith l k).c.op) ∧ W.cell? ⟨b, off + k * 8 + 3, none⟩ = some (.int .u32 (ith l k).c.key) ∧ W.cell? ⟨b, off + k * 8 + 4, none⟩ = some (.int .u32 (ith l k).c.val)) (go_keep) (fail)
        have w3 := IntWalk.i64_in ((k : Int) + 1) (by omega)
        have HB := Lib.hid (RefB.new HS.out).drew
        clear HS x0 x1 x2 x3 x4 x5 x6 x7
        go_wp2_with fail
        generalize wr.heap.size = B at *
        generalize (wr.alloc (.cells #[.int .i64 (ith l k).t, .int .i64 (ith l k).c.op, .int .u32 (ith l k).c.key, .int .u32 (ith l k).c.val, .int .i64 0, .int .u32 0, .int .u32 0, .int .i64 k, .int .i64 (-1)] 50)).drew = W1 at *
        clear wr
        go_loopw [6] (fun q W => ∃ (j : Nat), k < j ∧ j ≤ l.length ∧ q = .int .i64 j ∧ Hid (RefB w l k j B ⟨oa, on, oc⟩ W)) (fun q _ => l.length - (intOf q).toNat)
        case atStart => exact ⟨k + 1, by omega, by omega, by go_num, HB⟩
        case round =>
          clear HB
          obtain ⟨j, hkj, hjn, rfl, HS2⟩ := hrel
          by_cases hcj : j < l.length ∧ nxt (ith l) k j = none
          · obtain ⟨hj, hno⟩ := hcj
            have gj : (j : Int) < l.length := by omega
            have w4 := IntWalk.i64_in ((j : Int) + 1) (by omega)
            have hbox := HS2.out.box
            rw [oper_none hno] at hbox
            obtain ⟨z0, z1, z2, z3, z4, z5, z6, z7, z8⟩ := hbox.opr
            obtain ⟨b2, off2, hb2, y0, y1, y2, y3, y4, y5, y6, y7⟩ := (HR.out.below HS2.out.s.bel).ev hj
            simp only [Option.some.injEq, Addr.mk.injEq] at hb2
            obtain ⟨rfl, rfl, _⟩ := hb2
            simp only [Nat.zero_add] at z0 z1 z2 z3 z4 z5 z6 z7 z8
            have f := hbox.frozen
            by_cases ht : (ith l j).t = (ith l k).t
            · clear hbox HR
              rw [ht] at y0
              go_wp2_with fail
              go_quiet (fail)
              have HN := Lib.hid ((HS2.out.drewN nq).hit hno hkj ht)
              clear HS2
              go_wp2
              go_roundw
              case rel => exact ⟨j + 1, by omega, by omega, by go_num, HN⟩
              case measure => simp [intOf]; omega
            · have ht1 := beq_f ht
              clear hbox HR
              go_wp2_with fail
              go_quiet (fail)
              have HN := Lib.hid ((HS2.out.drewN nq).miss ht)
              clear HS2
              go_wp2
              go_roundw
              case rel => exact ⟨j + 1, by omega, by omega, by go_num, HN⟩
              case measure => simp [intOf]; omega
          · have hfin : j = l.length ∨ j ≤ l.length ∧ ∃ m, nxt (ith l) k j = some m := by
              by_cases e : j = l.length
              · exact .inl e
              · refine .inr ⟨hjn, ?_⟩
                cases hq : nxt (ith l) k j with
                | none => exact (hcj ⟨by omega, hq⟩).elim
                | some m => exact ⟨m, rfl⟩
            have HF := Lib.hid (HS2.out.fin hfin)
            by_cases hj : j < l.length
            · have hoo : ¬ (oper (ith l) l.length k).o < 0 := by
                rcases hfin with e | ⟨_, m, hm⟩
                · omega
                · rw [oper_some (nxt_mono hm hjn)]
                  simp only
                  omega
              have gj : (j : Int) < l.length := by omega
              clear hfin
              obtain ⟨hbel, hlt0, hon0⟩ : w.heap.size ≤ wr.heap.size ∧ B < wr.heap.size ∧ on = (beg (ith l) k).length := ⟨HF.out.s.bel.size, HF.out.box.lt, HF.out.s.len⟩
              obtain ⟨z0, z1, z2, z3, z4, z5, z6, z7, z8⟩ := HF.out.box.opr
              simp only [Nat.zero_add] at z0 z1 z2 z3 z4 z5 z6 z7 z8
              have hbl : (beg (ith l) k).length ≤ k := beg_len
              have HP := Lib.hid fun w3 g cap bb => RefB.push (w3 := w3) (g := g) (cap := cap) (b := bb) HF.out hbk hon0
              have HRW := Lib.hid HF.out.s.row
              rw [← hon0] at HRW
              clear HF HS2 HR hcj
              generalize oper (ith l) l.length k = O at *
              obtain ⟨ot, ⟨oc1, oc2, oc3⟩, ⟨oa1, oa2, oa3⟩, of, oo⟩ := O
              dsimp only [Opr.cs] at *
              go_wp2_with (at_builtin; refine wpList_append_lies _ rfl _ _ 44 rfl w.heap.size 50 i0 _ 9 56 Tryd.underlying44 hi hz0 hz1 hz2 rfl (by decide) (.slice oa on oc) on (encO ((beg (ith l) k).map (oper (ith l) l.length))) rfl (HRW.out.alloc _) ⟨wr.heap.size, 0, none⟩ 1 1 [.int .i64 ot, .int .i64 oc1, .int .u32 oc2, .int .u32 oc3, .int .i64 oa1, .int .u32 oa2, .int .u32 oa3, .int .i64 of, .int .i64 oo] rfl rfl (World.news_of_block (cs := #[.int .i64 ot, .int .i64 oc1, .int .u32 oc2, .int .u32 oc3, .int .i64 oa1, .int .u32 oa2, .int .u32 oa3, .int .i64 of, .int .i64 oo]) (t := 50) (fr := (0, 0)) (news_new (by simp))) (by simp [Value.oneCell']) (by omega) (by unfold maxLen; omega) (by omega) (by simp; omega) (wr.heap.size + 1) (by simp) ?_; intro g cap w3 hown hgrow hat hlt)
              have HF2 := Lib.hid (HP.out _ _ _ _ hown hgrow)
              clear HP hown hgrow hat hlt HRW z0 z1 z2 z3 z4 z5 z6 z7 z8
              go_wp2
              go_roundw
              case rel => exact ⟨k + 1, some ⟨g, 0, none⟩, on + 1, cap, by omega, by go_num, by rw [hon0], HF2⟩
              case measure => simp [intOf]; omega
            · obtain rfl : j = l.length := by omega
              clear hfin
              obtain ⟨hbel, hlt0, hon0⟩ : w.heap.size ≤ wr.heap.size ∧ B < wr.heap.size ∧ on = (beg (ith l) k).length := ⟨HF.out.s.bel.size, HF.out.box.lt, HF.out.s.len⟩
              obtain ⟨z0, z1, z2, z3, z4, z5, z6, z7, z8⟩ := HF.out.box.opr
              simp only [Nat.zero_add] at z0 z1 z2 z3 z4 z5 z6 z7 z8
              have hbl : (beg (ith l) k).length ≤ k := beg_len
              have HP := Lib.hid fun w3 g cap bb => RefB.push (w3 := w3) (g := g) (cap := cap) (b := bb) HF.out hbk hon0
              have HRW := Lib.hid HF.out.s.row
              rw [← hon0] at HRW
              clear HF HS2 HR hcj
              generalize oper (ith l) l.length k = O at *
              obtain ⟨ot, ⟨oc1, oc2, oc3⟩, ⟨oa1, oa2, oa3⟩, of, oo⟩ := O
              dsimp only [Opr.cs] at *
              go_wp2_with (at_builtin; refine wpList_append_lies _ rfl _ _ 44 rfl w.heap.size 50 i0 _ 9 56 Tryd.underlying44 hi hz0 hz1 hz2 rfl (by decide) (.slice oa on oc) on (encO ((beg (ith l) k).map (oper (ith l) l.length))) rfl (HRW.out.alloc _) ⟨wr.heap.size, 0, none⟩ 1 1 [.int .i64 ot, .int .i64 oc1, .int .u32 oc2, .int .u32 oc3, .int .i64 oa1, .int .u32 oa2, .int .u32 oa3, .int .i64 of, .int .i64 oo] rfl rfl (World.news_of_block (cs := #[.int .i64 ot, .int .i64 oc1, .int .u32 oc2, .int .u32 oc3, .int .i64 oa1, .int .u32 oa2, .int .u32 oa3, .int .i64 of, .int .i64 oo]) (t := 50) (fr := (0, 0)) (news_new (by simp))) (by simp [Value.oneCell']) (by omega) (by unfold maxLen; omega) (by omega) (by simp; omega) (wr.heap.size + 1) (by simp) ?_; intro g cap w3 hown hgrow hat hlt)
              have HF2 := Lib.hid (HP.out _ _ _ _ hown hgrow)
              clear HP hown hgrow hat hlt HRW z0 z1 z2 z3 z4 z5 z6 z7 z8
              go_wp2
              go_roundw
              case rel => exact ⟨k + 1, some ⟨g, 0, none⟩, on + 1, cap, by omega, by go_num, by rw [hon0], HF2⟩
              case measure => simp [intOf]; omega
    · obtain rfl : k = l.length := by omega
      have hon := HS.out.len
      have HF := Lib.hid HS.out
      clear HS HR
      dsimp only at hon
      go_wp2
      go_ret
      exact ⟨⟨⟨oa, on, oc⟩, rfl, by rw [ops_len]; exact HF.out.row, HF.out.bel⟩⟩
end Go.Proofs.YtfdghlpkioednaaDoor
