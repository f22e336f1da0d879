/- Are pairs in order? -/
import Derived.Test.YtjmejdalmglehaaOwn
namespace Go.Proofs.Ytjmejdalmglehaa
open Go.ChangeShapes Go.WideShapes Go.ChangeAt Go.RowKit
set_option linter.unusedVariables false

theorem ord_next {m : List Pr} (h : Ord m) {j : Nat} (hj : j + 1 < m.length) : ltP (ithP m (j + 1)) (ithP m j) = false := by
  have hp := List.pairwise_iff_getElem.1 h j (j + 1) (by omega) hj (by omega)
  have e0 := ithP_lt (l := m) (k := j) (by omega)
  have e1 := ithP_lt hj
  rw [List.getElem?_eq_getElem (by omega)] at e0 e1
  rw [Option.some.inj e0, Option.some.inj e1] at hp
  exact hp
set_option maxRecDepth 100000 in
set_option maxHeartbeats 4000000 in
theorem ordered_any (s : Sl) (m : List Pr) (w : World) (h : Reads w s 2 (encP m)) (ho : Ord m) (hl : m.length < 100000) : Calls Try.prog 16 #[.slice s.a s.n s.cap] w fun e w' => e = .returned (.bool true) ∧ Below w.heap.size w w' := by
  have hn := h.lenP
  have hroom := h.room
  unfold maxLen at hroom
  have HR := Lib.hid h
  have HO := Lib.hid ho
  clear h ho
  obtain ⟨sa, sn, sc⟩ := s
  dsimp only at *
  subst hn
  go_enter Try.func16, Try.ntmps16
  go_wp2_with fail
  go_loopw [3] (fun i W => ∃ k : Nat, 1 ≤ k ∧ k ≤ m.length + 1 ∧ i = .int .i64 k ∧ Hid (Below w.heap.size w W)) (fun i _ => m.length + 1 - (intOf i).toNat)
  case atStart => exact ⟨1, by omega, by omega, rfl, Lib.hid (Below.refl _ _)⟩
  case round =>
    obtain ⟨k, hk1, hk2, rfl, HL⟩ := hrel
    by_cases hkn : k < m.length
    · obtain ⟨j, hjk⟩ : ∃ j, k = j + 1 := ⟨k - 1, by omega⟩
      have hjn : j + 1 < m.length := by omega
      obtain ⟨b, off, rfl, x0, x1⟩ := (HR.out.below HL.out).pr (k := k) hkn
      obtain ⟨b2, off2, eb, y0, y1⟩ := (HR.out.below HL.out).pr (k := j) (by omega)
      simp only [Option.some.injEq, Addr.mk.injEq] at eb
      obtain ⟨rfl, rfl, _⟩ := eb
      have gk : (k : Int) < m.length := by omega
      have gj : (j : Int) < m.length := by omega
      have w1 : IntKind.i64.wrap ((k : Int) - 1) = (j : Int) := by rw [IntKind.wrap_i64]; omega
      have w2 := IntWalk.i64_in ((k : Int) + 1) (by omega)
      have hlt := ord_next HO.out hjn
      rw [← hjk] at hlt
      clear hjk hjn
      clear HR HO
      rw [ltP_not] at hlt
      generalize ithP m k = a at *
      generalize ithP m j = c at *
      obtain ⟨ak, av⟩ := a
      obtain ⟨ck, cv⟩ := c
      dsimp only at *
      by_cases hk : ak = ck
      · subst hk
        have hv : decide (av < cv) = false := by simp; omega
        have hk2 : decide (ak < ak) = false := by simp
        clear hlt
        go_wp2_with fail
        go_quiet (fail)
        have HL2 := Lib.hid (below_drewN HL.out nq)
        clear HL
        go_wp2
        go_roundw
        case rel => exact ⟨k + 1, by omega, by omega, by go_num, HL2⟩
        case measure => simp [intOf]; omega
      · have hkb := beq_f hk
        have hk2 : decide (ak < ck) = false := by simp; omega
        clear hlt
        go_wp2_with fail
        go_quiet (fail)
        have HL2 := Lib.hid (below_drewN HL.out nq)
        clear HL
        go_wp2
        go_roundw
        case rel => exact ⟨k + 1, by omega, by omega, by go_num, HL2⟩
        case measure => simp [intOf]; omega
    · have gj : ¬ (k : Int) < m.length := by omega
      clear HR HO
      go_wp2
      go_ret
      exact ⟨rfl, HL.out⟩

end Go.Proofs.Ytjmejdalmglehaa
