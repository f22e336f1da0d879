/- Do, by the document. -/
import Derived.Test.YtjmejdalmglehaaOwn
import Derived.Test.YtjmejdalmglehaaDelete
namespace Go.Proofs.Ytjmejdalmglehaa
open Go.ChangeShapes Go.WideShapes Go.ChangeAt Go.RowKit
set_option linter.unusedVariables false

def doR (l : List Pr) (c a : Tri) : List Pr × Bool :=
  if fitsB c a = false then (l, false)
  else if a.op = 0 then (l ++ [cpr c], true)
  else if a.op = 1 then (l, true)
  else if a.op = 3 then (l, l.isEmpty)
  else if l.count (cpr a) = 0 then (l, false)
  else if a.key = refLeastL l then (if c.op = 1 then (l.erase (cpr a), true) else (l, true))
  else (l, false)
theorem fits_op {c a : Tri} (h : fitsB c a = true) : a.op = 0 ∨ a.op = 1 ∨ a.op = 2 ∨ a.op = 3 := by
  simp [fitsB, mayB] at h
  omega
theorem do_perm {m l : List Pr} (hp : m.Perm l) (ho : Ord m) (c a : Tri) : (doL m c a).1.Perm (doR l c a).1 ∧ (doL m c a).2 = (doR l c a).2 := by
  obtain ⟨h1, h2⟩ := refLeast_perm hp ho
  unfold doL doR
  by_cases hf : fitsB c a = false
  · rw [if_pos hf, if_pos hf]
    exact ⟨hp, rfl⟩
  have hop := fits_op (c := c) (a := a) (by simpa using hf)
  rw [if_neg hf, if_neg hf]
  by_cases h0 : a.op = 0
  · rw [if_pos h0, if_pos h0]
    refine ⟨(addL_perm m _).trans ?_, rfl⟩
    exact ((hp.cons _).trans (List.perm_append_singleton _ _).symm)
  rw [if_neg h0, if_neg h0]
  by_cases h3 : a.op = 3
  · rw [if_pos h3, if_neg (show ¬ a.op = 1 by omega), if_pos h3]
    exact ⟨hp, h2.symm⟩
  rw [if_neg h3]
  by_cases h2' : a.op = 2
  · rw [if_pos h2', if_neg (show ¬ a.op = 1 by omega), if_neg h3]
    have hc : (l.count (cpr a) = 0) ↔ ¬ cpr a ∈ m := by rw [← hp.count_eq, List.count_eq_zero]
    by_cases hm : cpr a ∈ m
    · rw [if_neg (show ¬ l.count (cpr a) = 0 by rw [hc]; simpa using hm), h1]
      by_cases hk : a.key = leastL m
      · rw [if_pos hk, if_pos hk]
        by_cases h1 : c.op = 1
        · rw [if_pos h1, if_pos h1]
          exact ⟨hp.erase _, decide_eq_true hm⟩
        · rw [if_neg h1, if_neg h1]
          exact ⟨hp, decide_eq_true hm⟩
      · rw [if_neg hk, if_neg hk]
        exact ⟨hp, rfl⟩
    · rw [if_pos (show l.count (cpr a) = 0 by rw [hc]; exact hm)]
      by_cases hk : a.key = leastL m
      · rw [if_pos hk]
        by_cases h1 : c.op = 1
        · rw [if_pos h1]
          refine ⟨?_, decide_eq_false hm⟩
          show (m.erase (cpr a)).Perm l
          rw [List.erase_of_not_mem hm]
          exact hp
        · rw [if_neg h1]
          exact ⟨hp, decide_eq_false hm⟩
      · rw [if_neg hk]
        exact ⟨hp, rfl⟩
  · rw [if_neg h2', if_pos (show a.op = 1 by omega)]
    exact ⟨hp, rfl⟩

/-- What the document's Do tells of a list in the slice s. -/
structure DidR (w : World) (s : Sl) (l l' : List Pr) (r : Bool) (e : Ending) (W : World) : Prop where
  ex : ∃ o : Sl, e = .returned (.tuple #[.slice o.a o.n o.cap, .bool r]) ∧ Below w.heap.size w W ∧
    ∀ base, base ≤ w.heap.size → w.ownsRow base 36 2 (.slice s.a s.n s.cap) l.length (encP l) → W.ownsRow base 36 2 (.slice o.a o.n o.cap) l'.length (encP l')
theorem DidR.same {w W : World} {s : Sl} {l : List Pr} {r : Bool} (hb : Below w.heap.size w W) : DidR w s l l r (.returned (.tuple #[.slice s.a s.n s.cap, .bool r])) W :=
  ⟨s, rfl, hb, fun base _ h => row_agree h fun k e => hb.block k (h.lt k e).2⟩
theorem DidR.new {w V W : World} {s o : Sl} {l l' : List Pr} {r : Bool} (hb : Below w.heap.size w V) (h : Mine V l' o W) : DidR w s l l' r (.returned (.tuple #[.slice o.a o.n o.cap, .bool r])) W :=
  ⟨o, rfl, below_then hb h.bel, fun base hbase _ => h.row.mono (Nat.le_trans hbase hb.size)⟩
theorem below_grown {V V1 w4 : World} (hb : Below V.heap.size V V1) (hg : V1.grownBy w4 none) : Below V.heap.size V w4 := hb.grown hg hb.size (by simp)
theorem made_two {V w4 w5 : World} {l : List Pr} {p : Pr} {v : Value} {n gg cap : Nat} {xs : List Value} (hb4 : Below V.heap.size V w4) (hown4 : w4.ownsRow V.heap.size 36 2 v n xs) (hgrow : w4.grownBy w5 v.ownBlock)
    (hown : w5.ownsRow V.heap.size 36 2 (.slice (some ⟨gg, 0, none⟩) (l.length + 1) cap) (l.length + 1) (encP l ++ p.cs.toList)) : Mine V (l ++ [p]) ⟨some ⟨gg, 0, none⟩, l.length + 1, cap⟩ w5 := by
  refine ⟨hb4.grown hgrow hb4.size (fun k e => (hown4.lt k e).1), ?_⟩
  rw [List.length_append, List.length_singleton, encP_snoc]
  exact hown
theorem append_none (ty : TypeId) (a : Option Addr) (c : Nat) (w : World) : (Builtin.append_ #[27, 27] ty #[.slice none 0 0, .slice a 0 c]).run Try.prog w = .ok (.slice none 0 0) w := by
  obtain ⟨i0, hi, hz0, hz1, hz2⟩ := info_parts info36
  cases a with
  | none => simp [Builtin.append_, run_underlying Try.underlying27, sizeOf, typeInfo, hi, Builtin.lenOf, Builtin.firstCells]
  | some a =>
    have hl := run_loadCells_list (P := Try.prog) w a [] (fun j v h => by simp at h)
    simp at hl
    simp [Builtin.append_, run_underlying Try.underlying27, sizeOf, typeInfo, hi, Builtin.lenOf, Builtin.firstCells, hl]

set_option maxRecDepth 100000 in
set_option maxHeartbeats 4000000 in
theorem refDo_any (s : Sl) (l : List Pr) (c a : Tri) (w : World) (h : Reads w s 2 (encP l)) (hl : l.length < 100000) :
    Calls Try.prog 10 #[.slice s.a s.n s.cap, c.v, a.v] w (DidR w s l (doR l c a).1 (doR l c a).2) := by
  obtain ⟨i0, hi, hz0, hz1, hz2⟩ := info_parts info36
  have HB := Lib.hid (((Below.refl w.heap.size w).alloc (Nat.le_refl _) (.cells c.cs 30)).alloc (by simp) (.cells a.cs 32))
  have k0 : Blk ((w.alloc (.cells c.cs 30)).alloc (.cells a.cs 32)) w.heap.size 30 c.cs := (Blk.new _ _ _).alloc _
  have k1 : Blk ((w.alloc (.cells c.cs 30)).alloc (.cells a.cs 32)) (w.heap.size + 1) 32 a.cs := by simpa using Blk.new (w.alloc (.cells c.cs 30)) 32 a.cs
  have H0 := Lib.hid k0
  have H1 := Lib.hid k1
  have y0 := k0.cell 0
  have y1 := k0.cell 1
  have y2 := k0.cell 2
  have z0 := k1.cell 0
  have z1 := k1.cell 1
  have z2 := k1.cell 2
  have KX := rfits_any c a ((w.alloc (.cells c.cs 30)).alloc (.cells a.cs 32))
  have HS := Lib.hid fun r W (hW : Below w.heap.size w W) => DidR.same (s := s) (l := l) (r := r) hW
  have HR := Lib.hid h
  have HD : Hid (doR l c a = if fitsB c a = false then (l, false)
    else if a.op = 0 then (l ++ [⟨c.key, c.val⟩], true)
    else if a.op = 1 then (l, true)
    else if a.op = 3 then (l, l.isEmpty)
    else if l.count ⟨a.key, a.val⟩ = 0 then (l, false)
    else if a.key = refLeastL l then (if c.op = 1 then (l.erase ⟨a.key, a.val⟩, true) else (l, true))
    else (l, false)) := Lib.hid rfl
  clear h k0 k1
  by_cases hf : fitsB c a = true
  case neg =>
    have hf' : fitsB c a = false := by simpa using hf
    have e := HD.out
    rw [if_pos hf'] at e
    rw [e]
    rw [hf'] at KX
    obtain ⟨co, ck, cv⟩ := c
    obtain ⟨ao, ak, av⟩ := a
    simp at y0 y1 y2 z0 z1 z2
    dsimp only [Tri.v] at *
    clear HD e hf hf' H0 H1 HR
    obtain ⟨sa, sn, sc⟩ := s
    dsimp only at *
    go_enter Try.func10, Try.ntmps10
    go_wp2_with fail
    refine KX.mono ?_
    rintro e w1 ⟨rfl, hb⟩
    have HF := Lib.hid (HS.out false _ (below_then HB.out hb))
    clear KX hb HB HS y0 y1 y2 z0 z1 z2
    go_wp2
    refine bodyPost_ret (v := .tuple #[.slice sa sn sc, .bool false]) (by simp [results, Try.results10, go_sem]) rfl HF.out
  case pos =>
    have e := HD.out
    rw [if_neg (by simp [hf])] at e
    rw [e]
    rw [hf] at KX
    clear HD e hf
    -- behind the least key
    have KL := Lib.hid fun W (hW : Below w.heap.size w W) => refLeast_any s l W (HR.out.below hW)
    have KC := Lib.hid fun W (hW : Below w.heap.size w W) => count_any s l ⟨a.key, a.val⟩ W (HR.out.below hW)
    have KW := Lib.hid fun W (hW : Below w.heap.size w W) => without_any s l ⟨a.key, a.val⟩ W (HR.out.below hW) hl
    have hem : l.isEmpty = (!(!l.isEmpty)) := by simp
    rw [hem]
    generalize refLeastL l = m at *
    generalize hemp : (!l.isEmpty) = em at *
    obtain ⟨co, ck, cv⟩ := c
    obtain ⟨ao, ak, av⟩ := a
    simp at y0 y1 y2 z0 z1 z2
    dsimp only [Tri.v, Pr.val] at *
    by_cases h0 : ao = 0
    case pos =>
      subst h0
      simp only [if_true]
      have HN := Lib.hid fun V (hV : Below w.heap.size w V) o W => DidR.new (V := V) (W := W) (s := s) (o := o) (l := l) (l' := l ++ [⟨ck, cv⟩]) (r := true) hV
      clear KC KW HS
      have hn := HR.out.lenP
      have hroom := HR.out.room
      unfold maxLen at hroom
      by_cases hl0 : l = []
      case pos =>
        subst hl0
        have hn0 : s.n = 0 := hn
        obtain ⟨sa, sn, sc⟩ := s
        dsimp only at *
        subst hn0
        clear HR hroom hn hl
        have hap := fun w => append_none 27 sa sc w
        go_enter Try.func10, Try.ntmps10
        go_wp2_with fail
        refine KX.mono ?_
        rintro e w1 ⟨rfl, hb⟩
        have hW := below_then HB.out hb
        have q1 := (H1.out.below hb H1.out.lt)
        have Q0 := Lib.hid ((H0.out.below hb H0.out.lt).alloc (.cells #[.int .u32 ak, .int .u32 av] 36))
        have a0 := q1.cell 0
        have a1 := q1.cell 1
        have a2 := q1.cell 2
        simp at a0 a1 a2
        have g0 := cell_below a0 (box1 (w := w1) (.cells #[.int .u32 ak, .int .u32 av] 36))
        have hW2 := below_then hW (box1 (w := w1) (.cells #[.int .u32 ak, .int .u32 av] 36))
        have HW2 := Lib.hid hW2
        have KL1 := KL.out _ hW2
        have v0 := Q0.out.cell 1
        have v1 := Q0.out.cell 2
        simp at v0 v1
        have HN1 := Lib.hid (HN.out _ hW2)
        clear KX hb HB y0 y1 y2 z0 z1 z2 hW q1 KL hW2 H1 H0 HN
        go_wp2_with fail
        refine KL1.mono ?_
        rintro e w2 ⟨rfl, rfl⟩
        clear KL1
        generalize w1.alloc (.cells #[.int .u32 ak, .int .u32 av] 36) = V at *
        go_wp2_with fail
        go_region_law (first | (refine step_append_known rfl _ _ 27 27 rfl _ _ (by rfl) (by rfl) (hap _) ?_) | (refine step_append_lies _ (by rfl) _ _ _ (by rfl) V.heap.size 36 i0 _ 2 8 Try.underlying27 hi hz0 hz1 hz2 rfl (by omega) (.slice none 0 0) 0 [] (by rfl) (World.ownsRow_nil _ _ _ _) ⟨V.heap.size, 0, none⟩ 1 1 [.int .u32 ck, .int .u32 cv] (by rfl) (by rfl) (World.news_of_block (cs := #[.int .u32 ck, .int .u32 cv]) (t := 36) (fr := (0, 0)) (heap_alloc_new V _)) (by simp [Value.oneCell']) (by omega) (by unfold maxLen; omega) (by omega) (by simp) (V.heap.size + 1) (by simp) ?_; intro gg cap w3 hown3 hgrow hat hlt))
        all_goals
          have HF := Lib.hid (HN1.out _ _ (Mine.push (n := 0) (Mine.start V) ⟨ck, cv⟩ (below_drew (box1 _)) rfl hown3 hgrow))
          clear hown3 hgrow hat hlt HN1
          go_wp2
          refine bodyPost_ret (v := .tuple #[.slice (some ⟨gg, 0, none⟩) (0 + 1) cap, .bool true]) (by simp [results, Try.results10, go_sem]) rfl HF.out
      case neg =>
        have hpos : 0 < l.length := List.length_pos_iff.2 hl0
        obtain ⟨b, off, ea, hcell⟩ := HR.out.at_ (by omega)
        have HCE : Hid (∀ W, Below w.heap.size w W → ∀ j u, (encP l)[j]? = some u → W.cell? ((⟨b, off, none⟩ : Addr).add j) = some u) := Lib.hid fun W hW j u hj => by
          rw [Addr.add_lit]
          exact cell_below (hcell j u hj) hW
        obtain ⟨sa, sn, sc⟩ := s
        dsimp only at *
        subst hn ea
        have hlen : (encP l).length = l.length * 2 := by rw [encP_len]; omega
        have hone := Lib.hid (encP_one l)
        have HPS := Lib.hid (encP_snoc l ⟨ck, cv⟩)
        clear HR hcell hem hemp hl0
        go_enter Try.func10, Try.ntmps10
        go_wp2_with fail
        refine KX.mono ?_
        rintro e w1 ⟨rfl, hb⟩
        have hW := below_then HB.out hb
        have q1 := (H1.out.below hb H1.out.lt)
        have Q0 := Lib.hid ((H0.out.below hb H0.out.lt).alloc (.cells #[.int .u32 ak, .int .u32 av] 36))
        have a0 := q1.cell 0
        have a1 := q1.cell 1
        have a2 := q1.cell 2
        simp at a0 a1 a2
        have g0 := cell_below a0 (box1 (w := w1) (.cells #[.int .u32 ak, .int .u32 av] 36))
        have hW2 := below_then hW (box1 (w := w1) (.cells #[.int .u32 ak, .int .u32 av] 36))
        have HW2 := Lib.hid hW2
        have KL1 := KL.out _ hW2
        have v0 := Q0.out.cell 1
        have v1 := Q0.out.cell 2
        simp at v0 v1
        have HN1 := Lib.hid (HN.out _ hW2)
        clear KX hb HB y0 y1 y2 z0 z1 z2 hW q1 KL hW2 H1 H0 HN
        go_wp2_with fail
        refine KL1.mono ?_
        rintro e w2 ⟨rfl, rfl⟩
        clear KL1 a0 a1 a2
        generalize w1.alloc (.cells #[.int .u32 ak, .int .u32 av] 36) = V at *
        have HC1 := Lib.hid (HCE.out V.drew (below_drew HW2.out))
        have HC2 := Lib.hid (HCE.out (V.drew.alloc (.cells #[.int .u32 ck, .int .u32 cv] 36)) (below_then (below_drew HW2.out) (box1 _)))
        clear HCE
        go_wp2_with fail
        go_region_law (first | (refine step_append_lies _ (by rfl) _ _ _ (by rfl) V.heap.size 36 i0 _ 2 8 Try.underlying27 hi hz0 hz1 hz2 rfl (by omega) (.slice none 0 0) 0 [] (by rfl) (World.ownsRow_nil _ _ _ _) ⟨b, off, none⟩ l.length sc (encP l) (by rfl) hlen (by first | exact HC1.out | exact HC2.out) hone.out hpos (by unfold maxLen; omega) (by omega) (by simp) _ rfl ?_; intro g1 cap1 w4 hown4 hgrow4 hat4 hlt4; have hb4 := below_grown (V := V) (by first | exact below_drew (Below.refl _ _) | exact below_drew (box1 _)) hgrow4; have t0 := cell_below v0 hb4; have t1 := cell_below v1 hb4; have hz4 := hb4.size; simp only [Nat.zero_add, List.nil_append] at hown4) | (refine step_append_lies _ (by rfl) _ _ _ (by rfl) V.heap.size 36 i0 _ 2 8 Try.underlying27 hi hz0 hz1 hz2 rfl (by omega) (.slice (some ⟨g1, 0, none⟩) l.length cap1) l.length (encP l) (by rfl) (hown4.alloc _) ⟨w4.heap.size, 0, none⟩ 1 1 [.int .u32 ck, .int .u32 cv] (by rfl) (by rfl) (World.news_of_block (cs := #[.int .u32 ck, .int .u32 cv]) (t := 36) (fr := (0, 0)) (heap_alloc_new w4 _)) (by simp [Value.oneCell']) (by omega) (by unfold maxLen; omega) (by omega) (by simp; omega) _ rfl ?_; intro gg cap w5 hown5 hgrow hat hlt; have HF := Lib.hid (HN1.out _ _ (made_two (hb4.alloc hz4 _) (hown4.alloc _) hgrow hown5))) | (refine step_append_lies _ (by rfl) _ _ _ (by rfl) V.heap.size 36 i0 _ 2 8 Try.underlying27 hi hz0 hz1 hz2 rfl (by omega) (.slice (some ⟨g1, 0, none⟩) l.length cap1) l.length (encP l) (by rfl) hown4 ⟨V.heap.size, 0, none⟩ 1 1 [.int .u32 ck, .int .u32 cv] (by rfl) (by rfl) (World.news_of_block (cs := #[.int .u32 ck, .int .u32 cv]) (t := 36) (fr := (0, 0)) ((hgrow4.block V.heap.size (by simp) (by simp [Value.ownBlock])).trans (heap_alloc_new V.drew _))) (by simp [Value.oneCell']) (by omega) (by unfold maxLen; omega) (by omega) (by omega) _ rfl ?_; intro gg cap w5 hown5 hgrow hat hlt; have HF := Lib.hid (HN1.out _ _ (made_two hb4 hown4 hgrow hown5))))
        all_goals
          clear hown4 hown5 hgrow4 hgrow hat hlt hat4 hlt4 HN1
          go_wp2
          refine bodyPost_ret (v := .tuple #[.slice (some ⟨gg, 0, none⟩) (l.length + 1) cap, .bool true]) (by simp [results, Try.results10, go_sem]) rfl HF.out
    case neg =>
    have b0 := beq_f h0
    simp only [if_neg h0]
    by_cases h1 : ao = 1
    case pos =>
      subst h1
      simp only [if_true]
      clear KC KW HR H0
      obtain ⟨sa, sn, sc⟩ := s
      dsimp only at *
      go_enter Try.func10, Try.ntmps10
      go_wp2_with fail
      refine KX.mono ?_
      rintro e w1 ⟨rfl, hb⟩
      have hW := below_then HB.out hb
      have q1 := (H1.out.below hb H1.out.lt)
      have a0 := q1.cell 0
      have a1 := q1.cell 1
      have a2 := q1.cell 2
      simp at a0 a1 a2
      have g0 := cell_below a0 (box1 (w := w1) (.cells #[.int .u32 ak, .int .u32 av] 36))
      have hW2 := below_then hW (box1 (w := w1) (.cells #[.int .u32 ak, .int .u32 av] 36))
      have KL1 := KL.out _ hW2
      have HF := Lib.hid (HS.out true _ hW2)
      clear KX hb HB HS y0 y1 y2 z0 z1 z2 hW q1 KL hW2 H1
      go_wp2_with fail
      refine KL1.mono ?_
      rintro e w2 ⟨rfl, rfl⟩
      clear KL1
      go_wp2
      refine bodyPost_ret (v := .tuple #[.slice sa sn sc, .bool true]) (by simp [results, Try.results10, go_sem]) rfl HF.out
    case neg =>
    have b1 := beq_f h1
    simp only [if_neg h1]
    by_cases h3 : ao = 3
    case pos =>
      subst h3
      simp only [if_true]
      clear KC KW HR H0
      obtain ⟨sa, sn, sc⟩ := s
      dsimp only at *
      go_enter Try.func10, Try.ntmps10
      go_wp2_with fail
      refine KX.mono ?_
      rintro e w1 ⟨rfl, hb⟩
      have hW := below_then HB.out hb
      have q1 := (H1.out.below hb H1.out.lt)
      have a0 := q1.cell 0
      have a1 := q1.cell 1
      have a2 := q1.cell 2
      simp at a0 a1 a2
      have g0 := cell_below a0 (box1 (w := w1) (.cells #[.int .u32 ak, .int .u32 av] 36))
      have hW2 := below_then hW (box1 (w := w1) (.cells #[.int .u32 ak, .int .u32 av] 36))
      have KL1 := KL.out _ hW2
      have HF := Lib.hid (HS.out (!em) _ hW2)
      clear KX hb HB HS y0 y1 y2 z0 z1 z2 hW q1 KL hW2 H1
      go_wp2_with fail
      refine KL1.mono ?_
      rintro e w2 ⟨rfl, rfl⟩
      clear KL1
      go_wp2
      refine bodyPost_ret (v := .tuple #[.slice sa sn sc, .bool (!em)]) (by simp [results, Try.results10, go_sem]) rfl HF.out
    case neg =>
    have b3 := beq_f h3
    simp only [if_neg h3]
    clear h0 h1 h3
    by_cases hc : l.count ⟨ak, av⟩ = 0
    case pos =>
      simp only [if_pos hc]
      have hci : ((l.count ⟨ak, av⟩ : Nat) : Int) = 0 := by omega
      simp only [hci] at KC
      clear KW HR H0 hc hci
      obtain ⟨sa, sn, sc⟩ := s
      dsimp only at *
      go_enter Try.func10, Try.ntmps10
      go_wp2_with fail
      refine KX.mono ?_
      rintro e w1 ⟨rfl, hb⟩
      have hW := below_then HB.out hb
      have q1 := (H1.out.below hb H1.out.lt)
      have a0 := q1.cell 0
      have a1 := q1.cell 1
      have a2 := q1.cell 2
      simp at a0 a1 a2
      have g0 := cell_below a0 (box1 (w := w1) (.cells #[.int .u32 ak, .int .u32 av] 36))
      have hW2 := below_then hW (box1 (w := w1) (.cells #[.int .u32 ak, .int .u32 av] 36))
      have HW2 := Lib.hid hW2
      have KL1 := KL.out _ hW2
      have KC1 := KC.out _ hW2
      clear KX hb HB y0 y1 y2 z0 z1 z2 hW q1 KL hW2 H1 KC
      go_wp2_with fail
      refine KL1.mono ?_
      rintro e w2 ⟨rfl, rfl⟩
      clear KL1
      go_wp2_with fail
      refine KC1.mono ?_
      rintro e w2 ⟨rfl, hb⟩
      have HF := Lib.hid (HS.out false _ (below_then HW2.out hb))
      clear KC1 HW2 hb HS
      go_wp2
      refine bodyPost_ret (v := .tuple #[.slice sa sn sc, .bool false]) (by simp [results, Try.results10, go_sem]) rfl HF.out
    case neg =>
    have hcb := beq_f (a := ((l.count ⟨ak, av⟩ : Nat) : Int)) (b := 0) (by omega)
    simp only [if_neg hc]
    clear hc
    generalize ((l.count ⟨ak, av⟩ : Nat) : Int) = n at *
    by_cases hk : ak = m
    case neg =>
      have hkb := beq_f hk
      simp only [if_neg hk]
      clear KW HR H0
      obtain ⟨sa, sn, sc⟩ := s
      dsimp only at *
      go_enter Try.func10, Try.ntmps10
      go_wp2_with fail
      refine KX.mono ?_
      rintro e w1 ⟨rfl, hb⟩
      have hW := below_then HB.out hb
      have q1 := (H1.out.below hb H1.out.lt)
      have a0 := q1.cell 0
      have a1 := q1.cell 1
      have a2 := q1.cell 2
      simp at a0 a1 a2
      have g0 := cell_below a0 (box1 (w := w1) (.cells #[.int .u32 ak, .int .u32 av] 36))
      have hW2 := below_then hW (box1 (w := w1) (.cells #[.int .u32 ak, .int .u32 av] 36))
      have HW2 := Lib.hid hW2
      have KL1 := KL.out _ hW2
      have KC1 := KC.out _ hW2
      have HX := Lib.hid (Blk.new w1 36 #[.int .u32 ak, .int .u32 av])
      clear KX hb HB y0 y1 y2 z0 z1 z2 hW q1 KL hW2 H1 KC
      go_wp2_with fail
      refine KL1.mono ?_
      rintro e w2 ⟨rfl, rfl⟩
      clear KL1
      go_wp2_with fail
      refine KC1.mono ?_
      rintro e w2 ⟨rfl, hb⟩
      have HF := Lib.hid (HS.out false _ (below_then HW2.out hb))
      have x := HX.out.below hb HX.out.lt
      have x0 := x.cell 0
      simp at x0
      clear KC1 HW2 hb HS HX x
      go_wp2
      refine bodyPost_ret (v := .tuple #[.slice sa sn sc, .bool false]) (by simp [results, Try.results10, go_sem]) rfl HF.out
    case pos =>
    subst hk
    simp only [if_true]
    by_cases h1 : co = 1
    case neg =>
      have hob := beq_f h1
      simp only [if_neg h1]
      clear KW HR
      obtain ⟨sa, sn, sc⟩ := s
      dsimp only at *
      go_enter Try.func10, Try.ntmps10
      go_wp2_with fail
      refine KX.mono ?_
      rintro e w1 ⟨rfl, hb⟩
      have hW := below_then HB.out hb
      have q1 := (H1.out.below hb H1.out.lt)
      have Q0 := Lib.hid ((H0.out.below hb H0.out.lt).alloc (.cells #[.int .u32 ak, .int .u32 av] 36))
      have a0 := q1.cell 0
      have a1 := q1.cell 1
      have a2 := q1.cell 2
      simp at a0 a1 a2
      have g0 := cell_below a0 (box1 (w := w1) (.cells #[.int .u32 ak, .int .u32 av] 36))
      have hW2 := below_then hW (box1 (w := w1) (.cells #[.int .u32 ak, .int .u32 av] 36))
      have HW2 := Lib.hid hW2
      have KL1 := KL.out _ hW2
      have KC1 := KC.out _ hW2
      have HX := Lib.hid (Blk.new w1 36 #[.int .u32 ak, .int .u32 av])
      clear KX hb HB y0 y1 y2 z0 z1 z2 hW q1 KL hW2 H1 KC H0
      go_wp2_with fail
      refine KL1.mono ?_
      rintro e w2 ⟨rfl, rfl⟩
      clear KL1
      go_wp2_with fail
      refine KC1.mono ?_
      rintro e w2 ⟨rfl, hb⟩
      have HF := Lib.hid (HS.out true _ (below_then HW2.out hb))
      have x := HX.out.below hb HX.out.lt
      have x0 := x.cell 0
      have v := Q0.out.below hb Q0.out.lt
      have v0 := v.cell 0
      simp at x0 v0
      clear KC1 HW2 hb HS HX x v Q0
      go_wp2
      refine bodyPost_ret (v := .tuple #[.slice sa sn sc, .bool true]) (by simp [results, Try.results10, go_sem]) rfl HF.out
    case pos =>
      subst h1
      simp only [if_true]
      clear HR HS
      have HN := Lib.hid fun V (hV : Below w.heap.size w V) o W => DidR.new (V := V) (W := W) (s := s) (o := o) (l := l) (l' := l.erase ⟨ak, av⟩) (r := true) hV
      obtain ⟨sa, sn, sc⟩ := s
      dsimp only at *
      generalize l.erase ⟨ak, av⟩ = l2 at *
      go_enter Try.func10, Try.ntmps10
      go_wp2_with fail
      refine KX.mono ?_
      rintro e w1 ⟨rfl, hb⟩
      have hW := below_then HB.out hb
      have q1 := (H1.out.below hb H1.out.lt)
      have Q0 := Lib.hid ((H0.out.below hb H0.out.lt).alloc (.cells #[.int .u32 ak, .int .u32 av] 36))
      have a0 := q1.cell 0
      have a1 := q1.cell 1
      have a2 := q1.cell 2
      simp at a0 a1 a2
      have g0 := cell_below a0 (box1 (w := w1) (.cells #[.int .u32 ak, .int .u32 av] 36))
      have hW2 := below_then hW (box1 (w := w1) (.cells #[.int .u32 ak, .int .u32 av] 36))
      have HW2 := Lib.hid hW2
      have KL1 := KL.out _ hW2
      have KC1 := KC.out _ hW2
      have HX := Lib.hid (Blk.new w1 36 #[.int .u32 ak, .int .u32 av])
      clear KX hb HB y0 y1 y2 z0 z1 z2 hW q1 KL hW2 H1 KC H0
      go_wp2_with fail
      refine KL1.mono ?_
      rintro e w2 ⟨rfl, rfl⟩
      clear KL1
      go_wp2_with fail
      refine KC1.mono ?_
      rintro e w2 ⟨rfl, hb⟩
      have hW3 := below_then HW2.out hb
      have x := HX.out.below hb HX.out.lt
      have x0 := x.cell 0
      have x1 := x.cell 1
      have v := Q0.out.below hb Q0.out.lt
      have v0 := v.cell 0
      simp at x0 x1 v0
      have KW1 := KW.out _ hW3
      have HN1 := Lib.hid (HN.out _ hW3)
      clear KC1 HW2 hb HX x v Q0 KW HN hW3
      go_wp2_with fail
      refine KW1.mono ?_
      rintro e w3 ⟨⟨oa, on, oc⟩, rfl, hM⟩
      have HF := Lib.hid (HN1.out ⟨oa, on, oc⟩ w3 hM)
      clear KW1 hM HN1
      go_wp2
      refine bodyPost_ret (v := .tuple #[.slice oa on oc, .bool true]) (by simp [results, Try.results10, go_sem]) rfl HF.out
end Go.Proofs.Ytjmejdalmglehaa
