/- How many calls a script has. -/
import Derived.Test.YtdmdmkgpnelkjaaData
namespace Go.Proofs.Ytdmdmkgpnelkjaa
open Go.ChangeShapes Go.WideShapes Go.ChangeAt Go.RowKit
set_option linter.unusedVariables false

set_option maxRecDepth 100000 in
set_option maxHeartbeats 4000000 in
theorem calls_any (s : Sc) (x y z : Sl) (w : World) (h : SV w s x y z) (ht : tot s.ls ≤ 1000000) : Calls Try.prog 14 #[sv s.c x y z] w fun e w' => e = .returned (.int .i64 (tot s.ls)) ∧ Below w.heap.size w w' := by
  have hB : Blk (w.alloc (.cells (scs s.c x y z) 29)) w.heap.size 29 (scs s.c x y z) := Blk.new _ _ _
  have h0 : Below w.heap.size w (w.alloc (.cells (scs s.c x y z) 29)) := box1 _
  have hx := h.hx.below h0
  have hlen := hx.len
  have hroom := hx.room
  unfold maxLen at hroom
  clear h
  obtain ⟨c, ls, ps, ds⟩ := s
  obtain ⟨xa, xn, xc⟩ := x
  dsimp only at *
  subst hlen
  have HX := Lib.hid hx
  have HT := Lib.hid ht
  clear hx ht
  go_enter Try.func14, Try.ntmps14
  go_wp2
  generalize (w.alloc (.cells (scs c ⟨xa, ls.length, xc⟩ y z) 29)) = W at *
  go_loop [9, 3] (fun i n => ∃ k : Nat, k ≤ ls.length ∧ i = .int .i64 k ∧ n = .int .i64 (tot (ls.take k))) (fun i _ => ls.length - (intOf i).toNat)
  case atStart => exact ⟨0, by omega, rfl, rfl⟩
  case round =>
    obtain ⟨k, hk, rfl, rfl⟩ := hrel
    by_cases hkn : k < ls.length
    · obtain ⟨b, off, q, rfl, hq, hqn, hr⟩ := HX.out.at_ k _ (List.getElem?_eq_getElem hkn)
      have ht := tot_take ls k _ (List.getElem?_eq_getElem hkn)
      have g : (k : Int) < ls.length := by omega
      have l1 := tot_le ls (k + 1)
      have l2 := HT.out
      rw [ht] at l1
      have w1 : IntKind.i64.wrap ((tot (ls.take k) : Int) + (ls[k].length : Int)) = (tot (ls.take (k + 1)) : Int) := by
        rw [ht]
        push_cast
        exact IntWalk.i64_in _ (by omega)
      have w2 := IntWalk.i64_in ((k : Int) + 1) (by omega)
      obtain ⟨qa, qn, qc⟩ := q
      dsimp only at hq hqn
      subst hqn
      clear ht l1 l2 hr
      generalize ls[k].length = m at *
      go_wp2
      go_round
      case rel => exact ⟨k + 1, by omega, by go_num, rfl⟩
      case measure => simp [intOf]; omega
    · obtain rfl : k = ls.length := by omega
      rw [List.take_length]
      go_wp2
      go_ret
      exact ⟨rfl, h0⟩
end Go.Proofs.Ytdmdmkgpnelkjaa
