/- Which scripts may be, by the program. -/
import Derived.Test.YtdmdmkgpnelkjaaCalls
namespace Go.Proofs.Ytdmdmkgpnelkjaa
open Go.ChangeShapes Go.WideShapes Go.ChangeAt Go.RowKit
set_option linter.unusedVariables false

def allB (ls : List (List Tri)) : Bool := ls.all fun l => l.all rightB
/-- May the calls be? -/
def rcB (th : Int) (ls : List (List Tri)) : Bool := decide ((ls.length : Int) = th) && (decide (tot ls ≤ 48) && allB ls)
/-- May the picks be? -/
def rpB (th : Int) (ps : List Int) : Bool := decide (ps.length ≤ 60000) && ps.all fun p => decide (0 ≤ p) && decide (p < th)
theorem ret_b {a b : Bool} (h : a = b) : Ending.returned (.bool b) = .returned (.bool a) := by rw [h]
theorem all_false {α : Type} {p : α → Bool} {l : List α} (k : Nat) (c : α) (h : l[k]? = some c) (hp : p c = false) : l.all p = false := by
  rw [List.all_eq_false]
  exact ⟨c, List.mem_of_getElem? h, by simp [hp]⟩
theorem all_take {α : Type} {p : α → Bool} {l : List α} (k : Nat) (c : α) (h : l[k]? = some c) (h1 : (l.take k).all p = true) (hp : p c = true) : (l.take (k + 1)).all p = true := by
  rw [List.take_add_one, h, List.all_append, h1]
  simp [hp]

set_option maxRecDepth 100000 in
set_option maxHeartbeats 8000000 in
theorem rightCalls_any (s : Sc) (x y z : Sl) (w : World) (h : SV w s x y z) (ht : tot s.ls ≤ 1000000) : Calls Try.prog 22 #[sv s.c x y z] w fun e w' => e = .returned (.bool (rcB s.c.th s.ls)) ∧ Below w.heap.size w w' := by
  have hB : Blk (w.alloc (.cells (scs s.c x y z) 29)) w.heap.size 29 (scs s.c x y z) := Blk.new _ _ _
  have h0 : Below w.heap.size w (w.alloc (.cells (scs s.c x y z) 29)) := box1 _
  have HS := h.below h0
  have KC := calls_any s x y z _ HS ht
  have hx := h.hx
  have hlen := hx.len
  have hroom := hx.room
  unfold maxLen at hroom
  obtain ⟨c, ls, ps, ds⟩ := s
  obtain ⟨xa, xn, xc⟩ := x
  dsimp only at *
  subst hlen
  by_cases hth : (ls.length : Int) = c.th
  case neg =>
    have e : rcB c.th ls = false := by simp [rcB, hth]
    rw [e]
    have hth' : ((ls.length : Int) == c.th) = false := by simpa using hth
    clear HS KC hx h
    go_enter Try.func22, Try.ntmps22
    go_wp2
    go_ret
    exact ⟨rfl, h0⟩
  case pos =>
    have hth' : ((ls.length : Int) != c.th) = false := by simpa using hth
    by_cases h48 : tot ls ≤ 48
    case neg =>
      have e : rcB c.th ls = false := by simp [rcB, h48]
      rw [e]
      have g : (48 : Int) < (tot ls : Int) := by omega
      clear HS hx h e h48
      generalize (tot ls : Int) = t at *
      go_enter Try.func22, Try.ntmps22
      go_wp2_with fail
      refine KC.mono ?_
      rintro e w1 ⟨rfl, hb⟩
      have h1 := below_then h0 hb (Nat.le_refl _)
      go_wp2
      go_ret
      exact ⟨rfl, h1⟩
    case pos =>
      have e : rcB c.th ls = allB ls := by simp [rcB, h48, hth]
      rw [e]
      have g : ¬ (48 : Int) < (tot ls : Int) := by omega
      have HX := Lib.hid hx
      clear HS hx h e h48 hth ht
      generalize (tot ls : Int) = t at *
      go_enter Try.func22, Try.ntmps22
      go_wp2_with fail
      refine KC.mono ?_
      rintro e w1 ⟨rfl, hb⟩
      have hB1 := hB.below hb hB.lt
      have h1 := below_then h0 hb (Nat.le_refl _)
      clear hb KC hB h0
      obtain ⟨x0, x1, x2, x3, x4, x5, x6, x7, x8, x9⟩ := hB1.script
      dsimp only at x7
      have HB1 := Lib.hid h1
      clear hB1 h1
      go_wp2_with fail
      go_loopw [22] (fun i W => ∃ k : Nat, k ≤ ls.length ∧ i = .int .i64 k ∧ Hid (allB (ls.take k) = true) ∧ Hid (Below w.heap.size w W)) (fun i _ => ls.length - (intOf i).toNat)
      case atStart => exact ⟨0, by omega, rfl, Lib.hid rfl, HB1⟩
      case round =>
        clear HB1 x0 x1 x2 x3 x4 x5 x6 x7 x8 x9
        obtain ⟨k, hk, rfl, HA, HB⟩ := hrel
        by_cases hkn : k < ls.length
        · have hl : ls[k]? = some ls[k] := List.getElem?_eq_getElem hkn
          obtain ⟨b, off, q, rfl, hq, hqn, hr⟩ := (HX.out.below HB.out).at_ k _ hl
          have gk : (k : Int) < ls.length := by omega
          have w2 := IntWalk.i64_in ((k : Int) + 1) (by omega)
          have hm := hr.room
          unfold maxLen at hm
          have HR := Lib.hid hr
          obtain ⟨qa, qn, qc⟩ := q
          dsimp only at hq hqn hm
          subst hqn
          have HL := Lib.hid hl
          clear hl hr
          generalize ls[k] = l at *
          go_wp2_with fail
          go_loopw [28] (fun i W => ∃ j : Nat, j ≤ l.length ∧ i = .int .i64 j ∧ Hid ((l.take j).all rightB = true) ∧ Hid (Below wr.heap.size wr W)) (fun i _ => l.length - (intOf i).toNat)
          case atStart => exact ⟨0, by omega, rfl, Lib.hid rfl, Lib.hid (Below.refl _ _)⟩
          case round =>
            rename_i wq
            obtain ⟨j, hj, rfl, HA2, HB2⟩ := hrel
            by_cases hjn : j < l.length
            · have hl2 : l[j]? = some l[j] := List.getElem?_eq_getElem hjn
              obtain ⟨b2, off2, rfl, c0, c1, c2⟩ := (HR.out.below HB2.out).tri j _ hl2
              have gj : (j : Int) < l.length := by omega
              have w3 := IntWalk.i64_in ((j : Int) + 1) (by omega)
              have HL2 := Lib.hid hl2
              clear hl2
              generalize l[j] = t at *
              have KR := cright_any t
              go_wp2_with fail
              refine (KR _).mono ?_
              rintro e w2 ⟨rfl, hb⟩
              have HB3 := Lib.hid (below_then (HB2.out.alloc HB2.out.size (.cells t.cs 49)) hb (Nat.le_refl _))
              clear hb KR
              cases hrb : rightB t with
              | false =>
                have HE := Lib.hid (show allB ls = false from all_false k l HL.out (all_false j t HL2.out hrb))
                have HF := Lib.hid (below_then HB.out HB3.out (Nat.le_refl _))
                clear HA HB HA2 HB2 HB3
                go_wp2
                go_ret
                exact ⟨ret_b HE.out, HF.out⟩
              | true =>
                have HA3 := Lib.hid (all_take j t HL2.out HA2.out hrb)
                go_wp2
                go_roundw
                case rel => exact ⟨j + 1, by omega, by go_num, HA3, HB3⟩
                case measure => simp [intOf]; omega
            · obtain rfl : j = l.length := by omega
              have HA3 := Lib.hid (show allB (ls.take (k + 1)) = true from all_take k l HL.out HA.out (by have := HA2.out; rwa [List.take_length] at this))
              have HB3 := Lib.hid (below_then HB.out HB2.out (Nat.le_refl _))
              go_wp2
              go_roundw
              case rel => exact ⟨k + 1, by omega, by go_num, HA3, HB3⟩
              case measure => simp [intOf]; omega
        · obtain rfl : k = ls.length := by omega
          have HE := Lib.hid (show allB ls = true by have e := HA.out; rwa [List.take_length] at e)
          clear HA
          go_wp2
          go_ret
          exact ⟨ret_b HE.out, HB.out⟩
end Go.Proofs.Ytdmdmkgpnelkjaa
