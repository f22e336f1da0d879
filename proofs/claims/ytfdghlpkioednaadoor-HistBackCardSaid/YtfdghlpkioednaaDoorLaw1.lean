/- HistNotes: the walk. -/
import Derived.Test.YtfdghlpkioednaaDoorLaw3
namespace Go.Proofs.YtfdghlpkioednaaDoor
open Go.ChangeShapes Go.WideShapes Go.ChangeAt Go.RowKit
set_option linter.unusedVariables false

theorem errE_snoc (X : List Ev) (e : Ev) : errE (ith (X ++ [e])) X.length (ith (X ++ [e]) X.length) = errE (ith X) X.length e := by
  rw [ith_last]
  unfold errE
  rw [cur_congr e.t (fun i hi => ith_left hi)]
theorem right_snoc {X : List Ev} {e : Ev} (h : rightN (ith X) X.length = true) (he : errE (ith X) X.length e = 0) (hb : bareE e = true) : rightN (ith (X ++ [e])) (X ++ [e]).length = true := by
  rw [List.length_append, List.length_singleton, rightN_succ]
  refine ⟨(rightN_congr fun i hi => ith_left hi).trans h, ?_⟩
  unfold okE
  rw [errE_snoc, he, ith_last, hb]
  rfl
theorem addE_right {X : List Ev} {e : Ev} (h : rightN (ith X) X.length = true) (hb : bareE e = true) : rightN (ith (addE X e)) (addE X e).length = true := by
  unfold addE
  split
  · rename_i he
    exact right_snoc h he hb
  · exact h
theorem addE_len (X : List Ev) (e : Ev) : (addE X e).length ≤ X.length + 1 := by
  unfold addE
  split
  · simp
  · omega
theorem addE_fit {X : List Ev} {e : Ev} (h : ∀ x ∈ X, I64 x.t) (he : I64 e.t) : ∀ x ∈ addE X e, I64 x.t := by
  unfold addE
  split
  · intro x hx
    rcases List.mem_append.1 hx with h1 | h1
    · exact h x h1
    · rw [List.mem_singleton.1 h1]
      exact he
  · exact h
/-- Amid HistNotes. -/
structure LN (w : World) (i : Nat) (o : Sl) (X : List Ev) (W : World) : Prop where
  s : NS w w.heap.size X i o X noneP W
  len : X.length ≤ i
  ok : rightN (ith X) X.length = true
  fit : ∀ x ∈ X, I64 x.t
theorem LN.start (w : World) : LN w 0 nilS [] (w.alloc (.cells #[.slice none 0 0, .map none] 27)) := ⟨NS.start w, Nat.le_refl _, rfl, fun x h => by cases h⟩

set_option maxRecDepth 100000 in
set_option maxHeartbeats 8000000 in
theorem law_notes (s : Sl) (l : List Ev) (w : World) (h : Reads w s 8 (encE l)) (hf : ∀ e ∈ l, FitE e) (ht : Tab w) :
    Calls Tryd.prog 3 #[.slice s.a s.n s.cap] w fun e w' => e = .returned (.bool true) ∧ Below w.heap.size w w' := by
  have hn := h.lenE
  have hroom := h.room
  unfold maxLen at hroom
  by_cases hlen : 200 < l.length
  · have gl : (200 : Int) < l.length := by omega
    have KL := lives_any w ht
    clear h ht
    obtain ⟨sa, sn, sc⟩ := s
    dsimp only at *
    subst hn
    go_enter Tryd.func3, Tryd.ntmps3
    go_wp2_with fail
    refine KL.mono ?_
    rintro x w1 ⟨rfl, hb⟩
    have HB := Lib.hid hb
    clear hb KL
    go_wp2
    go_ret
    exact ⟨rfl, HB.out⟩
  have gl : ¬ (200 : Int) < l.length := by omega
  have HF := Lib.hid fun e he => (hf e he).t
  have HR := Lib.hid fun W hb => h.below (V := W) hb
  have KL := Lib.hid fun W (hb : Below w.heap.size w W) => lives_any W (tab_below ht hb)
  have S0 := Lib.hid (LN.start w)
  clear h ht hf
  obtain ⟨i0, hi, hz0, hz1, hz2⟩ := info_parts info34
  obtain ⟨sa, sn, sc⟩ := s
  dsimp only at *
  subst hn
  go_enter Tryd.func3, Tryd.ntmps3
  go_wp2_with fail
  go_loopw [4, 5] (fun v i W => ∃ (k : Nat) (oa : Option Addr) (on oc : Nat) (X : List Ev), k ≤ l.length ∧ i = .int .i64 k ∧ v = .slice oa on oc ∧ Hid (LN w k ⟨oa, on, oc⟩ X W)) (fun _ i _ => l.length - (intOf i).toNat)
  case atStart => exact ⟨0, none, 0, 0, [], by omega, rfl, rfl, S0⟩
  case round =>
    clear S0
    obtain ⟨k, oa, on, oc, X, hk, rfl, rfl, HS⟩ := hrel
    by_cases hkn : k < l.length
    · obtain ⟨b, off, rfl, x0, x1, x2, x3, x4, x5, x6, x7⟩ := (HR.out wr HS.out.s.bel).ev hkn
      have gk : (k : Int) < l.length := by omega
      have w2 := IntWalk.i64_in ((k : Int) + 1) (by omega)
      have hti := HF.out _ (List.mem_of_getElem? (ith_lt hkn))
      have hxl := HS.out.len
      obtain rfl : on = X.length := (Reads.of_own HS.out.s.row).2
      clear HR HF KL
      generalize ith l k = e at *
      obtain ⟨t, b', ⟨c1, c2, c3⟩, ⟨a1, a2, a3⟩⟩ := e
      dsimp only at *
      cases b' with
      | true =>
        have HRW := Lib.hid HS.out.s.row
        have HP := Lib.hid fun w3 g cap hown hgrow hat => (HS.out.s.box (.cells (Ev.cs ⟨t, true, ⟨0, 0, 0⟩, ⟨a1, a2, a3⟩⟩) 34)).push (w3 := w3) (g := g) (cap := cap) (m := X.length) ⟨t, true, ⟨0, 0, 0⟩, ⟨a1, a2, a3⟩⟩ (box1 (.cells (Ev.cs ⟨t, true, ⟨0, 0, 0⟩, ⟨a1, a2, a3⟩⟩) 34)) rfl hown hgrow hat
        have HX := Lib.hid (Blk.new wr 34 (Ev.cs ⟨t, true, ⟨0, 0, 0⟩, ⟨a1, a2, a3⟩⟩))
        have HOK := Lib.hid HS.out.ok
        have HFT := Lib.hid HS.out.fit
        have hsz : w.heap.size ≤ wr.heap.size := HS.out.s.bel.size
        have w5 := IntWalk.i64_in (X.length : Int) (by omega)
        have w6 : IntKind.i64.wrap ((X.length : Int) + 1 - 1) = X.length := by rw [IntWalk.i64_in _ (by omega)]; omega
        clear HS
        dsimp only [Ev.cs] at *
        go_wp2_with (at_builtin; refine wpList_append_lies _ rfl _ _ 22 rfl w.heap.size 34 i0 _ 8 48 Tryd.underlying22 hi hz0 hz1 hz2 rfl (by decide) (.slice oa X.length oc) X.length (encE X) rfl ((HRW.out.alloc _).alloc _) ⟨wr.heap.size + 1, 0, none⟩ 1 1 [.int .i64 t, .bool true, .int .i64 0, .int .u32 0, .int .u32 0, .int .i64 a1, .int .u32 a2, .int .u32 a3] rfl rfl (World.news_of_block (cs := #[.int .i64 t, .bool true, .int .i64 0, .int .u32 0, .int .u32 0, .int .i64 a1, .int .u32 a2, .int .u32 a3]) (t := 34) (fr := (0, 0)) (news_new (by simp))) (by simp [Value.oneCell']) (by omega) (by unfold maxLen; omega) (by omega) (by simp; omega) (wr.heap.size + 2) (by simp) ?_; intro g cap w3 hown hgrow hat hlt)
        obtain ⟨hN3, hK3⟩ := HP.out w3 g cap hown hgrow (hat.imp id (fun e => by simp; omega))
        have hbox3 := HX.out.agree (hK3 wr.heap.size rfl)
        have hr3 := Reads.of_own (s := ⟨some ⟨g, 0, none⟩, X.length + 1, cap⟩) hN3.row
        have KM := may_any _ _ w3 hr3.1 X.length (by simp)
        rw [errE_snoc] at KM
        have hcap : X.length + 1 ≤ cap := hr3.1.room.1
        have hcap2 : (X.length : Int) ≤ cap := by omega
        have HN3 := Lib.hid hN3
        have HBX3 := Lib.hid hbox3
        have HAD := Lib.hid (show addE X ⟨t, true, ⟨0, 0, 0⟩, ⟨a1, a2, a3⟩⟩ = if errE (ith X) X.length ⟨t, true, ⟨0, 0, 0⟩, ⟨a1, a2, a3⟩⟩ = 0 then X ++ [⟨t, true, ⟨0, 0, 0⟩, ⟨a1, a2, a3⟩⟩] else X from rfl)
        have HAR := Lib.hid (addE_right (e := ⟨t, true, ⟨0, 0, 0⟩, ⟨a1, a2, a3⟩⟩) HOK.out rfl)
        have HAL := Lib.hid (addE_len X ⟨t, true, ⟨0, 0, 0⟩, ⟨a1, a2, a3⟩⟩)
        have HAF := Lib.hid (addE_fit (e := ⟨t, true, ⟨0, 0, 0⟩, ⟨a1, a2, a3⟩⟩) HFT.out hti)
        generalize hrr : errE (ith X) X.length ⟨t, true, ⟨0, 0, 0⟩, ⟨a1, a2, a3⟩⟩ = r at *
        have HRr := Lib.hid hrr
        clear hN3 hK3 hbox3 hr3 HP HX hown hgrow hat hlt HRW hrr HOK HFT
        generalize wr.heap.size = E at *
        go_wp2_with fail
        refine KM.mono ?_
        rintro x w4 ⟨rfl, hb⟩
        have HN4 := Lib.hid (HN3.out.below hb)
        have HBX := Lib.hid (HBX3.out.below hb HBX3.out.lt)
        obtain ⟨y0, y1, y2, y3, y4, y5, y6, y7⟩ := Blk.ev (e := ⟨t, true, ⟨0, 0, 0⟩, ⟨a1, a2, a3⟩⟩) HBX.out
        simp only [Nat.zero_add] at y0 y1 y2 y3 y4 y5 y6 y7
        clear hb KM HN3 HBX3
        by_cases hr0 : r = 0
        · subst hr0
          have had : addE X ⟨t, true, ⟨0, 0, 0⟩, ⟨a1, a2, a3⟩⟩ = X ++ [⟨t, true, ⟨0, 0, 0⟩, ⟨a1, a2, a3⟩⟩] := HAD.out.trans (if_pos rfl)
          have KC := HN4.out.respond t ⟨a1, a2, a3⟩ hti (by omega) (by omega)
          rw [had] at KC HAR HAL HAF
          clear HN4 HAD had
          go_wp2_with fail
          refine KC.mono ?_
          rintro x w5 ⟨rfl, hN5, hK5⟩
          rw [HRr.out]
          have hbox5 := HBX.out.agree (hK5 E rfl)
          obtain ⟨z0, z1, z2, z3, z4, z5, z6, z7⟩ := Blk.ev (e := ⟨t, true, ⟨0, 0, 0⟩, ⟨a1, a2, a3⟩⟩) hbox5
          simp only [Nat.zero_add] at z0 z1 z2 z3 z4 z5 z6 z7
          have KB := hN5.busy t hti
          have HN5 := Lib.hid hN5
          clear hN5 hK5 KC y0 y1 y2 y3 y4 y5 y6 y7
          go_wp2_with fail
          refine KB.mono ?_
          rintro x w6 ⟨rfl, hb⟩
          have hN6 := HN5.out.below hb
          have HN6 := Lib.hid hN6
          obtain ⟨y0, y1, y2, y3, y4, y5, y6, y7⟩ := Blk.ev (e := ⟨t, true, ⟨0, 0, 0⟩, ⟨a1, a2, a3⟩⟩) (hbox5.below hb hbox5.lt)
          simp only [Nat.zero_add] at y0 y1 y2 y3 y4 y5 y6 y7
          have KY := lbusy_any ⟨some ⟨g, 0, none⟩, X.length + 1, cap⟩ (X ++ [(⟨t, true, ⟨0, 0, 0⟩, ⟨a1, a2, a3⟩⟩ : Ev)]) w6 (Reads.of_own (s := ⟨some ⟨g, 0, none⟩, X.length + 1, cap⟩) hN6.row).1 t
          clear hb KB hN6 hbox5 z0 z1 z2 z3 z4 z5 z6 z7
          generalize hq : (cur (ith (X ++ [(⟨t, true, ⟨0, 0, 0⟩, ⟨a1, a2, a3⟩⟩ : Ev)])) (X ++ [(⟨t, true, ⟨0, 0, 0⟩, ⟨a1, a2, a3⟩⟩ : Ev)]).length t).isSome = q at *
          have HFN : Hid (LN w (k + 1) ⟨some ⟨g, 0, none⟩, X.length + 1, cap⟩ (X ++ [⟨t, true, ⟨0, 0, 0⟩, ⟨a1, a2, a3⟩⟩]) w6) := Lib.hid ⟨by
            obtain ⟨O, h1, h2, h3, h4⟩ := HN6.out.ex
            exact ⟨HN6.out.bel, HN6.out.row, O, h1, h2, h3, fun k hk => hk.elim⟩, Nat.le_trans HAL.out (by omega), HAR.out, HAF.out⟩
          clear HN5 HN6 HAR HAL HAF hq HRr HBX
          go_wp2_with fail
          refine KY.mono ?_
          rintro x w7 ⟨rfl, rfl⟩
          clear KY
          go_wp2
          go_roundw
          case rel => exact ⟨k + 1, some ⟨g, 0, none⟩, X.length + 1, cap, X ++ [⟨t, true, ⟨0, 0, 0⟩, ⟨a1, a2, a3⟩⟩], by omega, by go_num, rfl, HFN⟩
          case measure => simp [intOf]; omega
        · have had : addE X ⟨t, true, ⟨0, 0, 0⟩, ⟨a1, a2, a3⟩⟩ = X := HAD.out.trans (if_neg hr0)
          have hr1 := beq_f hr0
          have hr2 := beq_self_eq_true r
          have KC := (HN4.out.cut (m' := X.length) rfl).respond t ⟨a1, a2, a3⟩ hti (by omega) (by omega)
          rw [had] at KC HAR HAL HAF
          clear HN4 HAD had
          go_wp2_with fail
          refine KC.mono ?_
          rintro x w5 ⟨rfl, hN5, hK5⟩
          rw [HRr.out]
          have hbox5 := HBX.out.agree (hK5 E rfl)
          obtain ⟨z0, z1, z2, z3, z4, z5, z6, z7⟩ := Blk.ev (e := ⟨t, true, ⟨0, 0, 0⟩, ⟨a1, a2, a3⟩⟩) hbox5
          simp only [Nat.zero_add] at z0 z1 z2 z3 z4 z5 z6 z7
          have KB := hN5.busy t hti
          have HN5 := Lib.hid hN5
          clear hN5 hK5 KC y0 y1 y2 y3 y4 y5 y6 y7
          go_wp2_with fail
          refine KB.mono ?_
          rintro x w6 ⟨rfl, hb⟩
          have hN6 := HN5.out.below hb
          have HN6 := Lib.hid hN6
          obtain ⟨y0, y1, y2, y3, y4, y5, y6, y7⟩ := Blk.ev (e := ⟨t, true, ⟨0, 0, 0⟩, ⟨a1, a2, a3⟩⟩) (hbox5.below hb hbox5.lt)
          simp only [Nat.zero_add] at y0 y1 y2 y3 y4 y5 y6 y7
          have KY := lbusy_any ⟨some ⟨g, 0, none⟩, X.length, cap⟩ X w6 (Reads.of_own (s := ⟨some ⟨g, 0, none⟩, X.length, cap⟩) hN6.row).1 t
          clear hb KB hN6 hbox5 z0 z1 z2 z3 z4 z5 z6 z7
          generalize hq : (cur (ith X) X.length t).isSome = q at *
          have HFN : Hid (LN w (k + 1) ⟨some ⟨g, 0, none⟩, X.length, cap⟩ X w6) := Lib.hid ⟨by
            obtain ⟨O, h1, h2, h3, h4⟩ := HN6.out.ex
            exact ⟨HN6.out.bel, HN6.out.row, O, h1, h2, h3, fun k hk => hk.elim⟩, by omega, HAR.out, HAF.out⟩
          clear HN5 HN6 HAR HAL HAF HRr HBX
          by_cases hx0 : 0 < X.length
          · have hx1 : (0 : Int) < X.length := by omega
            clear hq
            go_wp2_with fail
            refine KY.mono ?_
            rintro x w7 ⟨rfl, rfl⟩
            clear KY
            go_wp2
            go_roundw
            case rel => exact ⟨k + 1, some ⟨g, 0, none⟩, X.length, cap, X, by omega, by go_num, rfl, HFN⟩
            case measure => simp [intOf]; omega
          · obtain rfl : X = [] := List.eq_nil_of_length_eq_zero (by omega)
            obtain rfl : false = q := hq
            clear KY
            go_wp2
            go_roundw
            case rel => exact ⟨k + 1, some ⟨g, 0, none⟩, 0, cap, [], by omega, by go_num, rfl, HFN⟩
            case measure => simp [intOf]; omega
      | false =>
        have HRW := Lib.hid HS.out.s.row
        have HP := Lib.hid fun w3 g cap hown hgrow hat => (HS.out.s.box (.cells (Ev.cs ⟨t, false, ⟨c1, c2, c3⟩, ⟨0, 0, 0⟩⟩) 34)).push (w3 := w3) (g := g) (cap := cap) (m := X.length) ⟨t, false, ⟨c1, c2, c3⟩, ⟨0, 0, 0⟩⟩ (box1 (.cells (Ev.cs ⟨t, false, ⟨c1, c2, c3⟩, ⟨0, 0, 0⟩⟩) 34)) rfl hown hgrow hat
        have HX := Lib.hid (Blk.new wr 34 (Ev.cs ⟨t, false, ⟨c1, c2, c3⟩, ⟨0, 0, 0⟩⟩))
        have HOK := Lib.hid HS.out.ok
        have HFT := Lib.hid HS.out.fit
        have hsz : w.heap.size ≤ wr.heap.size := HS.out.s.bel.size
        have w5 := IntWalk.i64_in (X.length : Int) (by omega)
        have w6 : IntKind.i64.wrap ((X.length : Int) + 1 - 1) = X.length := by rw [IntWalk.i64_in _ (by omega)]; omega
        clear HS
        dsimp only [Ev.cs] at *
        go_wp2_with (at_builtin; refine wpList_append_lies _ rfl _ _ 22 rfl w.heap.size 34 i0 _ 8 48 Tryd.underlying22 hi hz0 hz1 hz2 rfl (by decide) (.slice oa X.length oc) X.length (encE X) rfl ((HRW.out.alloc _).alloc _) ⟨wr.heap.size + 1, 0, none⟩ 1 1 [.int .i64 t, .bool false, .int .i64 c1, .int .u32 c2, .int .u32 c3, .int .i64 0, .int .u32 0, .int .u32 0] rfl rfl (World.news_of_block (cs := #[.int .i64 t, .bool false, .int .i64 c1, .int .u32 c2, .int .u32 c3, .int .i64 0, .int .u32 0, .int .u32 0]) (t := 34) (fr := (0, 0)) (news_new (by simp))) (by simp [Value.oneCell']) (by omega) (by unfold maxLen; omega) (by omega) (by simp; omega) (wr.heap.size + 2) (by simp) ?_; intro g cap w3 hown hgrow hat hlt)
        obtain ⟨hN3, hK3⟩ := HP.out w3 g cap hown hgrow (hat.imp id (fun e => by simp; omega))
        have hbox3 := HX.out.agree (hK3 wr.heap.size rfl)
        have hr3 := Reads.of_own (s := ⟨some ⟨g, 0, none⟩, X.length + 1, cap⟩) hN3.row
        have KM := may_any _ _ w3 hr3.1 X.length (by simp)
        rw [errE_snoc] at KM
        have hcap : X.length + 1 ≤ cap := hr3.1.room.1
        have hcap2 : (X.length : Int) ≤ cap := by omega
        have HN3 := Lib.hid hN3
        have HBX3 := Lib.hid hbox3
        have HAD := Lib.hid (show addE X ⟨t, false, ⟨c1, c2, c3⟩, ⟨0, 0, 0⟩⟩ = if errE (ith X) X.length ⟨t, false, ⟨c1, c2, c3⟩, ⟨0, 0, 0⟩⟩ = 0 then X ++ [⟨t, false, ⟨c1, c2, c3⟩, ⟨0, 0, 0⟩⟩] else X from rfl)
        have HAR := Lib.hid (addE_right (e := ⟨t, false, ⟨c1, c2, c3⟩, ⟨0, 0, 0⟩⟩) HOK.out rfl)
        have HAL := Lib.hid (addE_len X ⟨t, false, ⟨c1, c2, c3⟩, ⟨0, 0, 0⟩⟩)
        have HAF := Lib.hid (addE_fit (e := ⟨t, false, ⟨c1, c2, c3⟩, ⟨0, 0, 0⟩⟩) HFT.out hti)
        generalize hrr : errE (ith X) X.length ⟨t, false, ⟨c1, c2, c3⟩, ⟨0, 0, 0⟩⟩ = r at *
        have HRr := Lib.hid hrr
        clear hN3 hK3 hbox3 hr3 HP HX hown hgrow hat hlt HRW hrr HOK HFT
        generalize wr.heap.size = E at *
        go_wp2_with fail
        refine KM.mono ?_
        rintro x w4 ⟨rfl, hb⟩
        have HN4 := Lib.hid (HN3.out.below hb)
        have HBX := Lib.hid (HBX3.out.below hb HBX3.out.lt)
        obtain ⟨y0, y1, y2, y3, y4, y5, y6, y7⟩ := Blk.ev (e := ⟨t, false, ⟨c1, c2, c3⟩, ⟨0, 0, 0⟩⟩) HBX.out
        simp only [Nat.zero_add] at y0 y1 y2 y3 y4 y5 y6 y7
        clear hb KM HN3 HBX3
        by_cases hr0 : r = 0
        · subst hr0
          have had : addE X ⟨t, false, ⟨c1, c2, c3⟩, ⟨0, 0, 0⟩⟩ = X ++ [⟨t, false, ⟨c1, c2, c3⟩, ⟨0, 0, 0⟩⟩] := HAD.out.trans (if_pos rfl)
          have KC := HN4.out.invoke t ⟨c1, c2, c3⟩ hti (by omega) (by omega)
          rw [had] at KC HAR HAL HAF
          clear HN4 HAD had
          go_wp2_with fail
          refine KC.mono ?_
          rintro x w5 ⟨rfl, hN5, hK5⟩
          rw [HRr.out]
          have hbox5 := HBX.out.agree (hK5 E rfl)
          obtain ⟨z0, z1, z2, z3, z4, z5, z6, z7⟩ := Blk.ev (e := ⟨t, false, ⟨c1, c2, c3⟩, ⟨0, 0, 0⟩⟩) hbox5
          simp only [Nat.zero_add] at z0 z1 z2 z3 z4 z5 z6 z7
          have KB := hN5.busy t hti
          have HN5 := Lib.hid hN5
          clear hN5 hK5 KC y0 y1 y2 y3 y4 y5 y6 y7
          go_wp2_with fail
          refine KB.mono ?_
          rintro x w6 ⟨rfl, hb⟩
          have hN6 := HN5.out.below hb
          have HN6 := Lib.hid hN6
          obtain ⟨y0, y1, y2, y3, y4, y5, y6, y7⟩ := Blk.ev (e := ⟨t, false, ⟨c1, c2, c3⟩, ⟨0, 0, 0⟩⟩) (hbox5.below hb hbox5.lt)
          simp only [Nat.zero_add] at y0 y1 y2 y3 y4 y5 y6 y7
          have KY := lbusy_any ⟨some ⟨g, 0, none⟩, X.length + 1, cap⟩ (X ++ [(⟨t, false, ⟨c1, c2, c3⟩, ⟨0, 0, 0⟩⟩ : Ev)]) w6 (Reads.of_own (s := ⟨some ⟨g, 0, none⟩, X.length + 1, cap⟩) hN6.row).1 t
          clear hb KB hN6 hbox5 z0 z1 z2 z3 z4 z5 z6 z7
          generalize hq : (cur (ith (X ++ [(⟨t, false, ⟨c1, c2, c3⟩, ⟨0, 0, 0⟩⟩ : Ev)])) (X ++ [(⟨t, false, ⟨c1, c2, c3⟩, ⟨0, 0, 0⟩⟩ : Ev)]).length t).isSome = q at *
          have HFN : Hid (LN w (k + 1) ⟨some ⟨g, 0, none⟩, X.length + 1, cap⟩ (X ++ [⟨t, false, ⟨c1, c2, c3⟩, ⟨0, 0, 0⟩⟩]) w6) := Lib.hid ⟨by
            obtain ⟨O, h1, h2, h3, h4⟩ := HN6.out.ex
            exact ⟨HN6.out.bel, HN6.out.row, O, h1, h2, h3, fun k hk => hk.elim⟩, Nat.le_trans HAL.out (by omega), HAR.out, HAF.out⟩
          clear HN5 HN6 HAR HAL HAF hq HRr HBX
          go_wp2_with fail
          refine KY.mono ?_
          rintro x w7 ⟨rfl, rfl⟩
          clear KY
          go_wp2
          go_roundw
          case rel => exact ⟨k + 1, some ⟨g, 0, none⟩, X.length + 1, cap, X ++ [⟨t, false, ⟨c1, c2, c3⟩, ⟨0, 0, 0⟩⟩], by omega, by go_num, rfl, HFN⟩
          case measure => simp [intOf]; omega
        · have had : addE X ⟨t, false, ⟨c1, c2, c3⟩, ⟨0, 0, 0⟩⟩ = X := HAD.out.trans (if_neg hr0)
          have hr1 := beq_f hr0
          have hr2 := beq_self_eq_true r
          have KC := (HN4.out.cut (m' := X.length) rfl).invoke t ⟨c1, c2, c3⟩ hti (by omega) (by omega)
          rw [had] at KC HAR HAL HAF
          clear HN4 HAD had
          go_wp2_with fail
          refine KC.mono ?_
          rintro x w5 ⟨rfl, hN5, hK5⟩
          rw [HRr.out]
          have hbox5 := HBX.out.agree (hK5 E rfl)
          obtain ⟨z0, z1, z2, z3, z4, z5, z6, z7⟩ := Blk.ev (e := ⟨t, false, ⟨c1, c2, c3⟩, ⟨0, 0, 0⟩⟩) hbox5
          simp only [Nat.zero_add] at z0 z1 z2 z3 z4 z5 z6 z7
          have KB := hN5.busy t hti
          have HN5 := Lib.hid hN5
          clear hN5 hK5 KC y0 y1 y2 y3 y4 y5 y6 y7
          go_wp2_with fail
          refine KB.mono ?_
          rintro x w6 ⟨rfl, hb⟩
          have hN6 := HN5.out.below hb
          have HN6 := Lib.hid hN6
          obtain ⟨y0, y1, y2, y3, y4, y5, y6, y7⟩ := Blk.ev (e := ⟨t, false, ⟨c1, c2, c3⟩, ⟨0, 0, 0⟩⟩) (hbox5.below hb hbox5.lt)
          simp only [Nat.zero_add] at y0 y1 y2 y3 y4 y5 y6 y7
          have KY := lbusy_any ⟨some ⟨g, 0, none⟩, X.length, cap⟩ X w6 (Reads.of_own (s := ⟨some ⟨g, 0, none⟩, X.length, cap⟩) hN6.row).1 t
          clear hb KB hN6 hbox5 z0 z1 z2 z3 z4 z5 z6 z7
          generalize hq : (cur (ith X) X.length t).isSome = q at *
          have HFN : Hid (LN w (k + 1) ⟨some ⟨g, 0, none⟩, X.length, cap⟩ X w6) := Lib.hid ⟨by
            obtain ⟨O, h1, h2, h3, h4⟩ := HN6.out.ex
            exact ⟨HN6.out.bel, HN6.out.row, O, h1, h2, h3, fun k hk => hk.elim⟩, by omega, HAR.out, HAF.out⟩
          clear HN5 HN6 HAR HAL HAF HRr HBX
          by_cases hx0 : 0 < X.length
          · have hx1 : (0 : Int) < X.length := by omega
            clear hq
            go_wp2_with fail
            refine KY.mono ?_
            rintro x w7 ⟨rfl, rfl⟩
            clear KY
            go_wp2
            go_roundw
            case rel => exact ⟨k + 1, some ⟨g, 0, none⟩, X.length, cap, X, by omega, by go_num, rfl, HFN⟩
            case measure => simp [intOf]; omega
          · obtain rfl : X = [] := List.eq_nil_of_length_eq_zero (by omega)
            obtain rfl : false = q := hq
            clear KY
            go_wp2
            go_roundw
            case rel => exact ⟨k + 1, some ⟨g, 0, none⟩, 0, cap, [], by omega, by go_num, rfl, HFN⟩
            case measure => simp [intOf]; omega
    · obtain rfl : k = l.length := by omega
      have hS := HS.out.s
      have hxl := HS.out.len
      obtain rfl : on = X.length := (Reads.of_own hS.row).2
      have hrd := (Reads.of_own (s := ⟨oa, X.length, oc⟩) hS.row).1
      have KE := hS.events (by omega)
      have HX := Lib.hid fun W hb => hrd.below (V := W) hb
      have HB := Lib.hid hS.bel
      have HOK := Lib.hid HS.out.ok
      have HFT := Lib.hid HS.out.fit
      clear hS hrd HS HR HF
      go_wp2_with fail
      refine KE.mono ?_
      rintro x w3 ⟨v, rfl, hown, hb⟩
      obtain ⟨a, n, c, rfl⟩ : ∃ a n c, v = .slice a n c := by
        rcases hown.2 with ⟨e, _⟩ | ⟨g, cap, cur, e, _⟩
        · exact ⟨_, _, _, e⟩
        · exact ⟨_, _, _, e⟩
      have KS := same_any ⟨a, n, c⟩ ⟨oa, X.length, oc⟩ X w3 (Reads.of_own (s := ⟨a, n, c⟩) hown).1 (HX.out w3 hb)
      have HB3 := Lib.hid (below_then HB.out hb)
      have HX3 := Lib.hid (HX.out w3 hb)
      clear KE hown hb HX HB
      go_wp2_with fail
      refine KS.mono ?_
      rintro x w4 ⟨rfl, hb⟩
      have KR := hright_any ⟨oa, X.length, oc⟩ X w4 (HX3.out.below hb) HFT.out
      rw [HOK.out] at KR
      have HB4 := Lib.hid (below_then HB3.out hb)
      clear hb KS HB3 HX3 HOK HFT
      go_wp2_with fail
      refine KR.mono ?_
      rintro x w5 ⟨rfl, hb⟩
      have HB5 := Lib.hid (below_then HB4.out hb)
      have KL5 := KL.out w5 HB5.out
      clear hb KR HB4 KL
      go_wp2_with fail
      refine KL5.mono ?_
      rintro x w6 ⟨rfl, hb⟩
      have HB6 := Lib.hid (below_then HB5.out hb)
      clear hb KL5 HB5
      go_wp2
      go_ret
      exact ⟨rfl, HB6.out⟩
end Go.Proofs.YtfdghlpkioednaaDoor
