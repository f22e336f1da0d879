/- Whether two lists of events are the same, by the law: of the same events, they are. -/
import Derived.Test.YtfdghlpkioednaaDoorRefRight
namespace Go.Proofs.YtfdghlpkioednaaDoor
open Go.ChangeShapes Go.WideShapes Go.ChangeAt Go.RowKit
set_option linter.unusedVariables false

set_option maxRecDepth 100000 in
set_option maxHeartbeats 4000000 in
theorem same_any (a b : Sl) (l : List Ev) (w : World) (ha : Reads w a 8 (encE l)) (hb : Reads w b 8 (encE l)) : Calls Tryd.prog 12 #[.slice a.a a.n a.cap, .slice b.a b.n b.cap] w fun x w' => x = .returned (.bool true) ∧ Below w.heap.size w w' := by
  have hna := ha.lenE
  have hnb := hb.lenE
  have hroom := ha.room
  unfold maxLen at hroom
  have HA := Lib.hid ha
  have HB := Lib.hid hb
  clear ha hb
  obtain ⟨sa, sn, sc⟩ := a
  obtain ⟨ta, tn, tc⟩ := b
  dsimp only at *
  subst hna hnb
  go_enter Tryd.func12, Tryd.ntmps12
  go_wp2_with fail
  go_loopw [5] (fun i W => ∃ k : Nat, k ≤ l.length ∧ i = .int .i64 k ∧ Hid (Below w.heap.size w W)) (fun i _ => l.length - (intOf i).toNat)
  case atStart => exact ⟨0, by omega, rfl, Lib.hid (Below.refl _ _)⟩
  case round =>
    obtain ⟨k, hk, rfl, HL⟩ := hrel
    by_cases hkn : k < l.length
    · obtain ⟨b1, o1, rfl, x0, x1, x2, x3, x4, x5, x6, x7⟩ := (HA.out.below HL.out).ev hkn
      obtain ⟨b2, o2, rfl, y0, y1, y2, y3, y4, y5, y6, y7⟩ := (HB.out.below HL.out).ev hkn
      have gk : (k : Int) < l.length := by omega
      have w2 := IntWalk.i64_in ((k : Int) + 1) (by omega)
      have hq := fun w => eq_ev_self (ith l k) w
      generalize ith l k = e at *
      obtain ⟨t, b', c, a⟩ := e
      obtain ⟨c1, c2, c3⟩ := c
      obtain ⟨a1, a2, a3⟩ := a
      dsimp only [Ev.v] at *
      clear HA HB
      go_wp2_with fail
      go_quiet (fail)
      have HL2 := Lib.hid (below_drewN HL.out nq)
      clear HL
      go_wp2
      go_roundw
      case rel => exact ⟨k + 1, by omega, by go_num, HL2⟩
      case measure => simp [intOf]; omega
    · obtain rfl : k = l.length := by omega
      go_wp2
      go_ret
      exact ⟨rfl, HL.out⟩
end Go.Proofs.YtfdghlpkioednaaDoor
