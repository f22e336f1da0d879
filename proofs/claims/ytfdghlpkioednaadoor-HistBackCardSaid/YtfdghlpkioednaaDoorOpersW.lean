/- Opers, by the program: the walk. -/
import Derived.Test.YtfdghlpkioednaaDoorOpers
namespace Go.Proofs.YtfdghlpkioednaaDoor
open Go.ChangeShapes Go.WideShapes Go.ChangeAt Go.RowKit
set_option linter.unusedVariables false

set_option maxRecDepth 100000 in
theorem opers_bad (s : Sl) (l : List Ev) (w : World) (h : Reads w s 8 (encE l)) (ht : ∀ e ∈ l, I64 e.t) (hr : rightN (ith l) l.length = false) :
    Calls Tryd.prog 15 #[.slice s.a s.n s.cap] w fun x w' => x = .returned (.tuple #[.slice none 0 0, .int .i64 11]) ∧ Below w.heap.size w w' := by
  have KR := hright_any s l w h ht
  rw [hr] at KR
  clear h ht hr
  go_enter Tryd.func15, Tryd.ntmps15
  go_wp2_with fail
  refine KR.mono ?_
  rintro x w1 ⟨rfl, hb⟩
  have HB := Lib.hid hb
  clear hb KR
  go_wp2
  go_ret2
  exact ⟨rfl, HB.out⟩

theorem news_new {W : World} {cs : Array Value} {t : TypeId} {H : Nat} (hH : W.heap.size = H) : (W.alloc (.cells cs t)).heap[H]? = some (.cells cs t (0, 0)) := by
  subst hH
  exact heap_alloc_new W _
/-- What Opers tells of a history that may be. -/
structure Opered (w : World) (l : List Ev) (e : Ending) (W : World) : Prop where
  ex : ∃ o : Sl, e = .returned (.tuple #[.slice o.a o.n o.cap, .int .i64 0]) ∧ W.ownsRow w.heap.size 50 9 (.slice o.a o.n o.cap) (ops (ith l) l.length).length (encO (ops (ith l) l.length)) ∧ Below w.heap.size w W

set_option maxRecDepth 100000 in
set_option maxHeartbeats 8000000 in
theorem opers_good (s : Sl) (l : List Ev) (w : World) (h : Reads w s 8 (encE l)) (ht : ∀ e ∈ l, I64 e.t) (hr : rightN (ith l) l.length = true) (hlen : l.length ≤ 1000) :
    Calls Tryd.prog 15 #[.slice s.a s.n s.cap] w (Opered w l) := by
  have KR := hright_any s l w h ht
  have hn := h.lenE
  have hroom := h.room
  unfold maxLen at hroom
  have HRT := Lib.hid hr
  rw [hr] at KR
  have HR := Lib.hid h
  clear h ht hr
  obtain ⟨sa, sn, sc⟩ := s
  dsimp only at *
  subst hn
  obtain ⟨i0, hi, hz0, hz1, hz2⟩ := info_parts info50
  go_enter Tryd.func15, Tryd.ntmps15
  go_wp2_with fail
  refine KR.mono ?_
  rintro x w1 ⟨rfl, hb⟩
  have HS := Lib.hid (OpS.start (l := l) hb)
  clear hb KR
  go_wp2_with fail
  generalize w1.heap.size = L at *
  go_loopw [4, 14] (fun v i W => ∃ (k : Nat) (oa : Option Addr) (on oc : Nat), k ≤ l.length ∧ i = .int .i64 k ∧ v = .slice oa on oc ∧ Hid (OpS w l L k k ⟨oa, on, oc⟩ W)) (fun _ i _ => l.length - (intOf i).toNat)
  case atStart => exact ⟨0, none, 0, 0, by omega, rfl, rfl, HS⟩
  case round =>
    clear HS
    obtain ⟨k, oa, on, oc, hk, rfl, rfl, HS⟩ := hrel
    by_cases hkn : k < l.length
    · obtain ⟨b, off, rfl, x0, x1, x2, x3, x4, x5, x6, x7⟩ := (HR.out.below HS.out.bel).ev hkn
      have gk : (k : Int) < l.length := by omega
      have w2 := IntWalk.i64_in ((k : Int) + 1) (by omega)
      have hrk := rightN_le HRT.out (show k + 1 ≤ l.length by omega)
      obtain ⟨⟨t0, t5⟩, hcase⟩ := ok_parts (rightN_at HRT.out hkn)
      obtain ⟨t, htn⟩ := Int.eq_ofNat_of_zero_le t0
      have HB := Lib.hid (box1 (w := wr) (.cells (ith l k).cs 34))
      have HX := Lib.hid (Blk.new wr 34 (ith l k).cs)
      have hSA := HS.out.alloc (.cells (ith l k).cs 34)
      rcases hcase with ⟨hbk, hc0, j, hj, hfit⟩ | ⟨hbk, ha0, hrc, hno⟩
      · obtain ⟨hlt, g, hoa, hfr, hcell, hput⟩ := hSA.put hbk hj
        have hlast := hSA.lastAt (t := t) (j := j) (by rw [← htn]; exact hj) (by omega)
        have hon : on = (ops (ith l) k).length := hSA.len
        have HL := Lib.hid hSA.lo
        obtain ⟨u4, c4⟩ := hcell 4 (by omega)
        obtain ⟨u5, c5⟩ := hcell 5 (by omega)
        obtain ⟨u6, c6⟩ := hcell 6 (by omega)
        obtain ⟨u8, c8⟩ := hcell 8 (by omega)
        have HP := Lib.hid hput
        have gp : (((beg (ith l) j).length : Nat) : Int) < on := by omega
        dsimp only at hoa
        subst hoa
        generalize (beg (ith l) j).length = p at *
        clear hput hSA hcell HR HRT HS hfit hj hrk hc0 hon hlt HX HB
        generalize ith l k = e at *
        obtain ⟨t', b', c, a⟩ := e
        obtain ⟨o1, k1, v1⟩ := c
        obtain ⟨o2, k2, v2⟩ := a
        dsimp only [Ev.cs] at *
        subst htn hbk
        have gt6 : (t : Int) < 6 := by omega
        go_wp2
        go_roundw
        case rel => exact ⟨k + 1, some ⟨g, 0, none⟩, on, oc, by omega, by go_num, rfl, HP⟩
        case measure => simp [intOf]; omega
      · have hS1 := (HS.out.setL hbk htn (by omega)).alloc (.cells (ith l k).cs 34)
        have hLt := HS.out.ltL
        have hon : on = (ops (ith l) k).length := hSA.len
        have HL := Lib.hid hSA.lo
        obtain ⟨u0, c0⟩ := hSA.lastHas (t := t) (by omega)
        have c0' := hSA.lastFree t
        have HP := Lib.hid fun w3 g cap b => OpS.push (w3 := w3) (g := g) (cap := cap) (b := b) hS1 hrk hbk
        have HRW := Lib.hid hS1.row
        have hsz : w.heap.size ≤ wr.heap.size := HS.out.bel.size
        have hol : (ops (ith l) k).length ≤ k := by rw [ops_len]; exact beg_len
        clear hS1 hSA HR HRT HS hrk hno HX HB hrc
        rw [← hon] at *
        generalize ith l k = e at *
        obtain ⟨t', b', c, a⟩ := e
        obtain ⟨o1, k1, v1⟩ := c
        obtain ⟨o2, k2, v2⟩ := a
        dsimp only [Ev.cs, Opr.cs] at *
        subst htn hbk
        have gt6 : (t : Int) < 6 := by omega
        have HT : Hid (t ≤ 5) := Lib.hid (by omega)
        clear t5
        go_wp2_with (at_builtin; refine wpList_append_lies _ rfl _ _ 44 rfl w.heap.size 50 i0 _ 9 56 Tryd.underlying44 hi hz0 hz1 hz2 rfl (by decide) (.slice oa on oc) on (encO (ops (ith l) k)) rfl (HRW.out.alloc _) ⟨wr.heap.size + 1, 0, none⟩ 1 1 [.int .i64 t, .int .i64 o1, .int .u32 k1, .int .u32 v1, .int .i64 0, .int .u32 0, .int .u32 0, .int .i64 k, .int .i64 (-1)] rfl rfl (World.news_of_block (cs := #[.int .i64 t, .int .i64 o1, .int .u32 k1, .int .u32 v1, .int .i64 0, .int .u32 0, .int .u32 0, .int .i64 k, .int .i64 (-1)]) (t := 50) (fr := (0, 0)) (news_new (by simp [World.setCell]))) (by simp [Value.oneCell']) (by omega) (by unfold maxLen; omega) (by omega) (by simp [World.setCell]; omega) (wr.heap.size + 2) (by simp [World.setCell]) ?_; intro g cap w3 hown hgrow hat hlt)
        have HF := Lib.hid (HP.out _ _ _ _ hown hgrow)
        clear HP hown hgrow hat hlt HRW
        go_wp2
        go_roundw
        case rel => exact ⟨k + 1, some ⟨g, 0, none⟩, on + 1, cap, by omega, by go_num, rfl, HF⟩
        case measure => simp [intOf]; omega
    · obtain rfl : k = l.length := by omega
      have hon := HS.out.len
      have HF := Lib.hid HS.out
      clear HS HR HRT
      dsimp only at hon
      go_wp2
      go_ret2
      exact ⟨⟨⟨oa, on, oc⟩, rfl, HF.out.row, HF.out.bel⟩⟩
end Go.Proofs.YtfdghlpkioednaaDoor
