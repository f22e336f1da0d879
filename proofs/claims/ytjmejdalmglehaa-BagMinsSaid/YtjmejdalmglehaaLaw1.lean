/- BagPlays, walked. -/
import Derived.Test.YtjmejdalmglehaaPlay
import Derived.Deep.CutBlock
namespace Go.Proofs.Ytjmejdalmglehaa
open Go.ChangeShapes Go.WideShapes Go.ChangeAt Go.RowKit
set_option linter.unusedVariables false

/-- A call and an answer, or a pair that is put in, or taken out. -/
structure Opb where
  pl : Int
  c : Tri
  a : Tri
abbrev Opb.cs (o : Opb) : Array Value := #[.int .i64 o.pl, .int .i64 o.c.op, .int .u32 o.c.key, .int .u32 o.c.val, .int .i64 o.a.op, .int .u32 o.a.key, .int .u32 o.a.val]
abbrev Opb.val (o : Opb) : Value := .agg o.cs
def encO (l : List Opb) : List Value := l.flatMap fun o => o.cs.toList
abbrev zo : Opb := ⟨0, ⟨0, 0, 0⟩, ⟨0, 0, 0⟩⟩
def ithO (l : List Opb) (k : Nat) : Opb := l.getD k zo
theorem ithO_lt {l : List Opb} {k : Nat} (h : k < l.length) : l[k]? = some (ithO l k) := by
  simp [ithO, List.getD, List.getElem?_eq_getElem h]
theorem encO_len (l : List Opb) : (encO l).length = 7 * l.length := by
  have := flat_len (f := fun e : Opb => e.cs.toList) (m := 7) (fun _ => rfl) l
  unfold encO
  omega
theorem Reads.lenO {W : World} {s : Sl} {l : List Opb} (h : Reads W s 7 (encO l)) : s.n = l.length := by
  have := h.len
  rw [encO_len] at this
  omega
theorem Reads.opb {W : World} {y : Sl} {l : List Opb} (h : Reads W y 7 (encO l)) {k : Nat} (hk : k < l.length) : ∃ b off, y.a = some ⟨b, off, none⟩ ∧
    W.cell? ⟨b, off + k * 7, none⟩ = some (.int .i64 (ithO l k).pl) ∧ W.cell? ⟨b, off + k * 7 + 1, none⟩ = some (.int .i64 (ithO l k).c.op) ∧ W.cell? ⟨b, off + k * 7 + 2, none⟩ = some (.int .u32 (ithO l k).c.key) ∧ W.cell? ⟨b, off + k * 7 + 3, none⟩ = some (.int .u32 (ithO l k).c.val) ∧
    W.cell? ⟨b, off + k * 7 + 4, none⟩ = some (.int .i64 (ithO l k).a.op) ∧ W.cell? ⟨b, off + k * 7 + 5, none⟩ = some (.int .u32 (ithO l k).a.key) ∧ W.cell? ⟨b, off + k * 7 + 6, none⟩ = some (.int .u32 (ithO l k).a.val) := by
  have hc := ithO_lt hk
  have hn := h.lenO
  obtain ⟨b, off, ea, hcell⟩ := h.at_ (by omega)
  have key := fun i hi u (hu : (ithO l k).cs.toList[i]? = some u) => hcell (k * 7 + i) u ((flat_get (f := fun e : Opb => e.cs.toList) (m := 7) (fun _ => rfl) l k _ hc i hi).trans hu)
  have a0 := key 0 (by omega) _ rfl
  have a1 := key 1 (by omega) _ rfl
  have a2 := key 2 (by omega) _ rfl
  have a3 := key 3 (by omega) _ rfl
  have a4 := key 4 (by omega) _ rfl
  have a5 := key 5 (by omega) _ rfl
  have a6 := key 6 (by omega) _ rfl
  simp only [← Nat.add_assoc, Nat.add_zero] at a0 a1 a2 a3 a4 a5 a6
  exact ⟨b, off, ea, a0, a1, a2, a3, a4, a5, a6⟩

/-- Amid BagPlays. -/
structure LS (w : World) (k : Nat) (m l : List Pr) (o : Sl) (W : World) : Prop where
  ex : ∃ s, PS w m l s o W
  perm : m.Perm l
  ord : Ord m
  len : l.length ≤ k
theorem LS.start (w : World) : LS w 0 [] [] nilS (w.alloc (.cells #[.slice none 0 0] 26)) := ⟨⟨nilS, PS.start w⟩, List.Perm.nil, List.Pairwise.nil, Nat.le_refl _⟩
theorem LS.bel {w W : World} {k : Nat} {m l : List Pr} {o : Sl} (h : LS w k m l o W) : Below w.heap.size w W := by
  obtain ⟨s, hs⟩ := h.ex
  exact hs.bel
theorem LS.below {w W V : World} {k : Nat} {m l : List Pr} {o : Sl} (h : LS w k m l o W) (hb : Below W.heap.size W V) : LS w k m l o V := by
  obtain ⟨s, hs⟩ := h.ex
  exact ⟨⟨s, hs.below hb⟩, h.perm, h.ord, h.len⟩
theorem LS.mlen {w W : World} {k : Nat} {m l : List Pr} {o : Sl} (h : LS w k m l o W) : m.length ≤ k := by
  rw [h.perm.length_eq]
  exact h.len

set_option maxRecDepth 100000 in
set_option maxHeartbeats 8000000 in
theorem law_plays (s : Sl) (ops : List Opb) (w : World) (h : Reads w s 7 (encO ops)) : Calls Try.prog 3 #[.slice s.a s.n s.cap] w fun e w' => e = .returned (.bool true) ∧ Below w.heap.size w w' := by
  obtain ⟨i0, hi, hz0, hz1, hz2⟩ := info_parts info36
  have hn := h.lenO
  have hroom := h.room
  unfold maxLen at hroom
  by_cases hlen : 150 < ops.length
  · have gl : (150 : Int) < ops.length := by omega
    have KL := lives_any w
    clear h
    obtain ⟨sa, sn, sc⟩ := s
    dsimp only at *
    subst hn
    go_enter Try.func3, Try.ntmps3
    go_wp2_with fail
    refine KL.mono ?_
    rintro x w1 ⟨rfl, hb⟩
    have HB := Lib.hid hb
    clear hb KL
    go_wp2
    go_ret
    exact ⟨rfl, HB.out⟩
  have gl : ¬ (150 : Int) < ops.length := by omega
  have HR := Lib.hid fun W hb => h.below (V := W) hb
  have S0 := Lib.hid (LS.start w)
  clear h
  obtain ⟨sa, sn, sc⟩ := s
  dsimp only at *
  subst hn
  go_enter Try.func3, Try.ntmps3
  go_wp2_with fail
  go_loopw [4, 5] (fun v i W => ∃ (k : Nat) (oa : Option Addr) (on oc : Nat) (m l : List Pr), k ≤ ops.length ∧ i = .int .i64 k ∧ v = .slice oa on oc ∧ Hid (LS w k m l ⟨oa, on, oc⟩ W)) (fun _ i _ => ops.length - (intOf i).toNat)
  case atStart => exact ⟨0, none, 0, 0, [], [], by omega, rfl, rfl, S0⟩
  case round =>
    clear S0
    obtain ⟨k, oa, on, oc, m, l, hk, rfl, rfl, HS⟩ := hrel
    by_cases hkn : k < ops.length
    · obtain ⟨b, off, rfl, x0, x1, x2, x3, x4, x5, x6⟩ := (HR.out wr HS.out.bel).opb hkn
      have gk : (k : Int) < ops.length := by omega
      have w2 := IntWalk.i64_in ((k : Int) + 1) (by omega)
      obtain rfl : on = l.length := by
        obtain ⟨s, hs⟩ := HS.out.ex
        exact hs.len
      generalize ithO ops k = o at *
      obtain ⟨pl, ⟨co, ck, cv⟩, ⟨ao, ak, av⟩⟩ := o
      dsimp only at *
      have HT := Lib.hid (show LS w k m l ⟨oa, l.length, oc⟩ ((wr.alloc (.cells (Opb.cs ⟨pl, ⟨co, ck, cv⟩, ⟨ao, ak, av⟩⟩) 34)).alloc (.cells (Pr.cs ⟨ck, cv⟩) 36)) from (HS.out.below (box1 _)).below (box1 _))
      have H6 := Lib.hid (show Blk ((wr.alloc (.cells (Opb.cs ⟨pl, ⟨co, ck, cv⟩, ⟨ao, ak, av⟩⟩) 34)).alloc (.cells (Pr.cs ⟨ck, cv⟩) 36)) wr.heap.size 34 (Opb.cs ⟨pl, ⟨co, ck, cv⟩, ⟨ao, ak, av⟩⟩) from (Blk.new _ _ _).alloc _)
      have H7 := Lib.hid (show Blk ((wr.alloc (.cells (Opb.cs ⟨pl, ⟨co, ck, cv⟩, ⟨ao, ak, av⟩⟩) 34)).alloc (.cells (Pr.cs ⟨ck, cv⟩) 36)) (wr.heap.size + 1) 36 (Pr.cs ⟨ck, cv⟩) by simpa using Blk.new (wr.alloc (.cells (Opb.cs ⟨pl, ⟨co, ck, cv⟩, ⟨ao, ak, av⟩⟩) 34)) 36 (Pr.cs ⟨ck, cv⟩))
      have hsz := HS.out.bel.size
      dsimp only [Opb.cs, Pr.cs] at *
      go_upto_block 2 with fail
      clear HS x0 x1 x2 x3 x4 x5 x6
      go_cut [4] from 19 to 105 (fun v wx => ∃ (oa : Option Addr) (on oc : Nat) (m l : List Pr), v = .slice oa on oc ∧ Hid (LS w (k + 1) m l ⟨oa, on, oc⟩ wx))
      case rest =>
        obtain ⟨pa, pn, pc, m, l, rfl, HS⟩ := hcut
        obtain ⟨s, hs⟩ := HS.out.ex
        obtain rfl : pn = l.length := hs.len
        have KL := least_any w.heap.size s m wc hs.bag
        have KR := Lib.hid fun W (hb : Below wc.heap.size wc W) => refLeast_any ⟨pa, l.length, pc⟩ l W (hs.reads.below hb)
        have KN := Lib.hid fun W (hb : Below wc.heap.size wc W) => len_any w.heap.size s m W (hs.bag.below hb)
        obtain ⟨e1, e2⟩ := refLeast_perm HS.out.perm HS.out.ord
        rw [e1, e2] at KR
        rw [HS.out.perm.length_eq] at KN
        clear hs e1 e2 HT H6 H7
        generalize leastL m = y at *
        generalize (!m.isEmpty) = em at *
        dsimp only at *
        go_wp2_with fail
        refine KL.mono ?_
        rintro e w1 ⟨rfl, hb⟩
        have KR1 := KR.out w1 hb
        have KN1 := KN.out w1 hb
        have HF := Lib.hid (HS.out.below hb)
        clear KL KR KN hb HS
        go_wp2_with fail
        refine KR1.mono ?_
        rintro e w2 ⟨rfl, rfl⟩
        clear KR1
        go_wp2_with fail
        refine KN1.mono ?_
        rintro e w2 ⟨rfl, rfl⟩
        clear KN1
        go_wp2
        go_roundw
        case rel => exact ⟨k + 1, pa, l.length, pc, m, l, by omega, by go_num, rfl, HF⟩
        case measure => simp [intOf]; omega
      case first =>
        have HQ := Lib.hid (QS.mk (p := ⟨ck, cv⟩) HT.out.ex H7.out (show w.heap.size < wr.heap.size + 1 by omega))
        have HO := Lib.hid HT.out.ord
        have HPM := Lib.hid HT.out.perm
        have hml := HT.out.mlen
        have hll := HT.out.len
        have hk5 : k < 150 := by omega
        generalize ((wr.alloc (.cells #[.int .i64 pl, .int .i64 co, .int .u32 ck, .int .u32 cv, .int .i64 ao, .int .u32 ak, .int .u32 av] 34)).alloc (.cells #[.int .u32 ck, .int .u32 cv] 36)) = V at *
        by_cases h1 : pl = 1
        · subst h1
          have KA := HQ.out.add HO.out (by omega)
          obtain ⟨y0, y1⟩ := HQ.out.cells
          have HN : Hid ((addL m ⟨ck, cv⟩).Perm (l ++ [⟨ck, cv⟩]) ∧ Ord (addL m ⟨ck, cv⟩)) := Lib.hid ⟨((addL_perm m _).trans ((HPM.out.cons _).trans (List.perm_append_singleton _ _).symm)), addL_ord HO.out _⟩
          generalize addL m ⟨ck, cv⟩ = m2 at *
          dsimp only [Pr.val] at *
          clear HQ HT H6 H7 HO HPM
          go_wp2_with fail
          refine KA.mono ?_
          rintro e w1 ⟨rfl, hq⟩
          obtain ⟨y0, y1⟩ := hq.cells
          obtain ⟨s', hs⟩ := hq.ex
          have HRW := Lib.hid hs.row
          have hs2 := hs.bel.size
          have HP := Lib.hid fun w3 g cap hown hgrow => hs.pushed (w3 := w3) (g := g) (cap := cap) ⟨ck, cv⟩ (box1 (.cells #[.int .u32 ck, .int .u32 cv] 36)) rfl hown hgrow
          clear KA hq hs
          dsimp only at *
          go_wp2_with (at_builtin; refine wpList_append_lies _ rfl _ _ 27 rfl w.heap.size 36 i0 _ 2 8 Try.underlying27 hi hz0 hz1 hz2 rfl (by decide) (.slice oa l.length oc) l.length (encP l) rfl (HRW.out.alloc _) ⟨w1.heap.size, 0, none⟩ 1 1 [.int .u32 ck, .int .u32 cv] rfl rfl (World.news_of_block (cs := #[.int .u32 ck, .int .u32 cv]) (t := 36) (fr := (0, 0)) (news_new (by simp))) (by simp [Value.oneCell']) (by omega) (by unfold maxLen; omega) (by omega) (by simp; omega) (w1.heap.size + 1) (by simp) ?_; intro gg cap w3 hown3 hgrow hat hlt)
          have HF := Lib.hid (HP.out _ _ _ hown3 hgrow)
          clear HP hown3 hgrow hat hlt HRW
          go_wp2
          go_meet
          exact ⟨some ⟨gg, 0, none⟩, l.length + 1, cap, m2, l ++ [⟨ck, cv⟩], rfl, Lib.hid ⟨⟨s', HF.out⟩, HN.out.1, HN.out.2, by simp; omega⟩⟩
        have h1b := beq_f h1
        by_cases h2 : pl = 2
        · subst h2
          have KT := Lib.hid fun W (h : QS w m l ⟨oa, l.length, oc⟩ (wr.heap.size + 1) ⟨ck, cv⟩ W) => h.take HO.out (by omega)
          have KC := Lib.hid fun W m' (h : QS w m' l ⟨oa, l.length, oc⟩ (wr.heap.size + 1) ⟨ck, cv⟩ W) => h.count
          have HN : Hid ((m.erase ⟨ck, cv⟩).Perm (l.erase ⟨ck, cv⟩) ∧ Ord (m.erase ⟨ck, cv⟩) ∧ (l.erase ⟨ck, cv⟩).length ≤ k + 1) := Lib.hid ⟨HPM.out.erase _, erase_ord HO.out _, by have := List.length_erase_le (a := (⟨ck, cv⟩ : Pr)) (l := l); omega⟩
          have hcm : (⟨ck, cv⟩ : Pr) ∈ m ↔ (0 : Int) < ((l.count ⟨ck, cv⟩ : Nat) : Int) := by
            rw [HPM.out.mem_iff, ← List.count_pos_iff]
            omega
          have S0 := HQ.out.below (V := V.drew) (below_drew (Below.refl _ _))
          clear HQ HT H6 H7 HO HPM
          generalize ((l.count ⟨ck, cv⟩ : Nat) : Int) = n at *
          by_cases hm : (⟨ck, cv⟩ : Pr) ∈ m
          all_goals
            first | (rw [decide_eq_true hm] at KT; have hn0 := hcm.1 hm) | (rw [decide_eq_false hm] at KT; have hn0 : ¬ 0 < n := fun h => hm (hcm.2 h))
            clear hm hcm
            dsimp only [Pr.val] at *
            go_wp2_with fail
            go_region_held3 (fun W => W.cell? ⟨wr.heap.size + 1, 0, none⟩ = some (.int .u32 ck) ∧ W.cell? ⟨wr.heap.size + 1, 1, none⟩ = some (.int .u32 cv)) (first | exact QS.cells (by assumption) | go_keep)
              (first | (go_at_call 7; refine (KT.out _ (by assumption)).mono ?_; rintro e V' ⟨rfl, hq⟩) | (go_at_call 8; refine (KC.out _ _ (by assumption)).mono ?_; rintro e V' ⟨rfl, hq⟩))
            all_goals
              have HQ2 : Hid (QS w (m.erase ⟨ck, cv⟩) l ⟨oa, l.length, oc⟩ (wr.heap.size + 1) ⟨ck, cv⟩ _) := Lib.hid (by assumption)
              have KW := HQ2.out.without (by omega)
              obtain ⟨y0, y1⟩ := HQ2.out.cells
              clear KT KC S0 HQ2
              generalize l.erase ⟨ck, cv⟩ = l2 at *
              generalize m.erase ⟨ck, cv⟩ = m2 at *
              dsimp only at *
              go_wp2_with fail
              refine KW.mono ?_
              rintro e w3 ⟨⟨pa, pn, pc⟩, rfl, s', hs⟩
              have HF := Lib.hid hs
              clear KW hs
              go_wp2
              go_meet
              exact ⟨pa, pn, pc, m2, l2, rfl, Lib.hid ⟨⟨s', HF.out⟩, HN.out.1, HN.out.2.1, HN.out.2.2⟩⟩
        have h2b := beq_f h2
        obtain ⟨s, hs⟩ := HT.out.ex
        have HS := Lib.hid hs
        have KD := refDo_any ⟨oa, l.length, oc⟩ l ⟨co, ck, cv⟩ ⟨ao, ak, av⟩ V hs.reads (by omega)
        have KX := Lib.hid fun W (h : BagS W w.heap.size s m) => do_any w.heap.size s m ⟨co, ck, cv⟩ ⟨ao, ak, av⟩ W h HO.out (by omega)
        obtain ⟨hp1, hp2⟩ := do_perm HPM.out HO.out ⟨co, ck, cv⟩ ⟨ao, ak, av⟩
        have ho2 := doL_ord HO.out ⟨co, ck, cv⟩ ⟨ao, ak, av⟩
        have hl2 := doL_len m ⟨co, ck, cv⟩ ⟨ao, ak, av⟩
        rw [hp1.length_eq] at hl2
        have z := fun i => H6.out.cell i
        have z0 := z 0
        have z1 := z 1
        have z2 := z 2
        have z3 := z 3
        have z4 := z 4
        have z5 := z 5
        have z6 := z 6
        simp at z0 z1 z2 z3 z4 z5 z6
        clear HQ HT H7 HO HPM hs z
        generalize doR l ⟨co, ck, cv⟩ ⟨ao, ak, av⟩ = x at *
        generalize doL m ⟨co, ck, cv⟩ ⟨ao, ak, av⟩ = y at *
        obtain ⟨l2, r⟩ := x
        obtain ⟨m2, r2⟩ := y
        dsimp only [Tri.v] at *
        subst hp2
        have HN := Lib.hid hp1
        have HO := Lib.hid ho2
        clear hp1 ho2
        go_wp2_with fail
        refine KD.mono ?_
        intro e w1 hd
        obtain ⟨⟨pa, pn, pc⟩, rfl, hs1⟩ := HS.out.did hd
        obtain ⟨_, _, hb, _⟩ := hd.ex
        have q := H6.out.below hb H6.out.lt
        have z := fun i => q.cell i
        have z0 := z 0
        have z1 := z 1
        have z2 := z 2
        have z3 := z 3
        have z4 := z 4
        have z5 := z 5
        have z6 := z 6
        simp at z0 z1 z2 z3 z4 z5 z6
        have HS1 := Lib.hid hs1
        have KX1 := KX.out _ hs1.bag
        clear KD hd hs1 HS hb q z H6 KX
        go_wp2_with fail
        refine KX1.mono ?_
        rintro e w2 ⟨rfl, ht⟩
        obtain ⟨s2, hs2⟩ := HS1.out.turned ht
        have HF := Lib.hid hs2
        clear KX1 ht hs2 HS1
        go_wp2
        go_meet
        exact ⟨pa, pn, pc, m2, l2, rfl, Lib.hid ⟨⟨s2, HF.out⟩, HN.out, HO.out, by omega⟩⟩
    · obtain rfl : k = ops.length := by omega
      have hml := HS.out.mlen
      obtain ⟨s, hs⟩ := HS.out.ex
      obtain rfl : on = l.length := hs.len
      have KL := list_any w.heap.size s m wr hs.bag (by omega)
      have HPM := Lib.hid HS.out.perm
      have HO := Lib.hid HS.out.ord
      have HB := Lib.hid HS.out.bel
      have HX := Lib.hid hs.reads
      clear HR HS hs
      go_wp2_with fail
      refine KL.mono ?_
      rintro e w1 ⟨⟨ca, cn, cc⟩, rfl, hb, hr⟩
      have HB1 := Lib.hid (below_then HB.out hb)
      have HX1 := Lib.hid (HX.out.below hb)
      have hrd := (Reads.of_own (s := ⟨ca, cn, cc⟩) hr).1
      have HC := Lib.hid hrd
      have KO := ordered_any ⟨ca, cn, cc⟩ m w1 hrd HO.out (by omega)
      clear KL hb hr hrd HB HX HO
      dsimp only at *
      go_wp2_with fail
      refine KO.mono ?_
      rintro e w2 ⟨rfl, hb⟩
      have KP := plain_any ⟨ca, cn, cc⟩ m w2 (HC.out.below hb) (by omega)
      have HB2 := Lib.hid (below_then HB1.out hb)
      have HX2 := Lib.hid (HX1.out.below hb)
      clear KO hb HB1 HX1 HC
      dsimp only at *
      go_wp2_with fail
      refine KP.mono ?_
      rintro e w3 ⟨⟨da, dn, dc⟩, rfl, hM⟩
      have KS := same_any ⟨da, dn, dc⟩ ⟨oa, l.length, oc⟩ m l w3 hM.reads (HX2.out.below hM.bel) HPM.out
      have HB3 := Lib.hid (below_then HB2.out hM.bel)
      clear KP hM HB2 HX2 HPM
      dsimp only at *
      go_wp2_with fail
      refine KS.mono ?_
      rintro e w4 ⟨rfl, hb⟩
      have HB4 := Lib.hid (below_then HB3.out hb)
      have KV := lives_any w4
      clear KS hb HB3
      go_wp2_with fail
      refine KV.mono ?_
      rintro e w5 ⟨rfl, hb⟩
      have HB5 := Lib.hid (below_then HB4.out hb)
      clear KV hb HB4
      go_wp2
      go_ret
      exact ⟨rfl, HB5.out⟩
end Go.Proofs.Ytjmejdalmglehaa
