/- All places, in the order of their addresses. -/
import Derived.Test.YtogbakgmkiiboaaPPush
namespace Go.Proofs.Ytogbakgmkiiboaa.P
open Go.ChangeShapes Go.WideShapes Go.ChangeAt Go.RowKit
set_option linter.unusedVariables false
set_option maxRecDepth 20000


/-- The list is told, and owned. -/
def AllTold (c : Cf) (w : World) (e : Ending) (w' : World) : Prop :=
  ∃ v, e = .returned v ∧ w'.ownsRow (w.heap.size + 1) 65 3 v c.size.toNat (encP (c.upto c.size.toNat)) ∧ Below w.heap.size w w'
def R1 (c : Cf) (w : World) (v i : Value) (W : World) : Prop := ∃ k : Nat, k ≤ 8 ∧ i = .int .i64 k ∧ AllS c w k v W
def R2 (c : Cf) (w : World) (v i : Value) (W : World) : Prop := ∃ k m : Nat, (k : Int) ≤ c.th ∧ i = .int .i64 k ∧ (m : Int) = 8 + k * c.slots ∧ AllS c w m v W
def R3 (c : Cf) (w : World) (t : Nat) (v i : Value) (W : World) : Prop := ∃ k m : Nat, (k : Int) ≤ c.slots ∧ i = .int .i64 k ∧ (m : Int) = 8 + t * c.slots + k ∧ AllS c w m v W
def R4 (c : Cf) (w : World) (v i : Value) (W : World) : Prop := ∃ k m : Nat, 1 ≤ k ∧ (k : Int) ≤ c.nd + 1 ∧ i = .int .i64 k ∧ (m : Int) = c.o2 + (k - 1) ∧ AllS c w m v W
def R5 (c : Cf) (w : World) (v i : Value) (W : World) : Prop := ∃ k m : Nat, 1 ≤ k ∧ (k : Int) ≤ c.nd + 1 ∧ i = .int .i64 k ∧ (m : Int) = c.o3 + (k - 1) * c.width ∧ AllS c w m v W
def R6 (c : Cf) (w : World) (n : Nat) (v i : Value) (W : World) : Prop := ∃ k m : Nat, (k : Int) ≤ c.width ∧ i = .int .i64 k ∧ (m : Int) = c.o3 + (n - 1) * c.width + k ∧ AllS c w m v W
def R7 (c : Cf) (u i : Value) : Prop := ∃ k : Nat, (k : Int) ≤ c.lv ∧ i = .int .i64 k ∧ u = .int .i64 (2 ^ k)
def R8 (c : Cf) (w : World) (v i : Value) (W : World) : Prop := ∃ k m : Nat, (k : Int) ≤ c.places ∧ i = .int .i64 k ∧ (m : Int) = c.o4 + k ∧ AllS c w m v W
theorem pow_in {k : Nat} (h : k ≤ 6) : (1 : Int) ≤ 2 ^ k ∧ (2 : Int) ^ k ≤ 64 := by
  have : k = 0 ∨ k = 1 ∨ k = 2 ∨ k = 3 ∨ k = 4 ∨ k = 5 ∨ k = 6 := by omega
  rcases this with rfl | rfl | rfl | rfl | rfl | rfl | rfl <;> decide

set_option maxRecDepth 100000 in
set_option maxHeartbeats 16000000 in
theorem all_ok (c : Cf) (w : World) (h : c.Ok) : Calls Try.prog 25 #[c.v] w (AllTold c w) := by
  have hSl := fun W => rslots_ok c W h
  have hWi := fun W => rwidth_ok c W h
  obtain ⟨⟨m1, m2⟩, ⟨m3, m4⟩, ⟨m5, m6⟩, ⟨m7, m8⟩, ⟨m9, m10⟩, ⟨m11, m12⟩⟩ := h.bounds
  obtain ⟨n1, n2⟩ := h.nd
  obtain ⟨t1, t2⟩ := h.th
  obtain ⟨s1, s2⟩ := h.slots
  obtain ⟨q1, q2⟩ := h.width
  obtain ⟨p1, p2⟩ := h.places
  obtain ⟨w1, w2, w3, w4, w5⟩ := h.steps
  have l1 := h.l0
  have l2 := h.l1
  have H := Lib.hid h
  clear h
  have hS0 := AllS.new c w
  go_enter Try.func25, Try.ntmps25
  go_wp2
  generalize w.alloc (.cells c.cs 23) = W0 at *
  go_loopw [3, 4] (fun v i wr => R1 c w v i wr) (fun _ i _ => 8 - (intOf i).toNat)
  case atStart => exact ⟨0, by omega, rfl, hS0⟩
  case round =>
    clear hS0
    obtain ⟨k, hk, rfl, hS⟩ := hrel
    by_cases hlt : k < 8
    · have hx : c.place (k : Int) = (0, (k : Int), 0) := place_0 H.out (by omega) (by omega)
      have HX := Lib.hid hx
      clear hx
      go_wp2_with (at_builtin; refine wpList_push hS (by omega) HX.out _ _ rfl rfl rfl rfl ?_; intro v' W' hS')
      go_roundw
      case rel => exact ⟨k + 1, by omega, by go_num, hS'⟩
      case measure => simp [intOf]; omega
    · have HK := Lib.hid (show (k : Int) = 8 by omega)
      obtain ⟨x0, x1, x2, x3, x4, x5, x6⟩ := hS.p.conf
      go_wp2
      clear x0 x1 x2 x3 x4 x5 x6
      go_loopw [3, 5] (fun v i wr => R2 c w v i wr) (fun _ i _ => (c.th - intOf i).toNat)
      case atStart => exact ⟨0, k, by omega, rfl, by rw [HK.out]; simp, hS⟩
      case round =>
        clear hS
        obtain ⟨t, m, ht, rfl, hm, hS⟩ := hrel
        obtain ⟨x0, x1, x2, x3, x4, x5, x6⟩ := hS.p.conf
        by_cases htl : (t : Int) < c.th
        · have HM := Lib.hid hm
          clear hm
          go_wp2
          clear x0 x1 x2 x3 x4 x5 x6
          go_loopw [3, 6] (fun v i wr => R3 c w t v i wr) (fun _ i _ => (c.slots - intOf i).toNat)
          case atStart => exact ⟨0, m, by omega, rfl, by rw [HM.out]; simp, hS⟩
          case round =>
            clear hS HM
            obtain ⟨k2, m', hk2, rfl, hm, hS⟩ := hrel
            obtain ⟨x0, x1, x2, x3, x4, x5, x6⟩ := hS.p.conf
            obtain ⟨b1, b2⟩ := mul_in (a := (t : Int)) (b := c.slots) (A := 6) (B := 14) (by omega) (by omega) (by omega) (by omega)
            have hm2 : m' < 2000 := by omega
            by_cases hkl : (k2 : Int) < c.slots
            · have hx : c.place (m' : Int) = (1, (t : Int), (k2 : Int)) := by rw [hm]; exact place_1 H.out (by omega) htl (by omega) hkl
              have HX := Lib.hid hx
              have HM := Lib.hid hm
              clear hm hx
              go_wp2_with (first
                | (go_at_call 54; refine (hSl _).mono ?_; rintro e V ⟨rfl, hb⟩; have hS1 := hS.below hb)
                | (at_builtin; refine wpList_push hS1 hm2 HX.out _ _ rfl rfl rfl rfl ?_; intro v' W' hS'))
              go_roundw
              case rel => exact ⟨k2 + 1, m' + 1, by omega, by go_num, by have := HM.out; omega, hS'⟩
              case measure => simp [intOf]; omega
            · have HM := Lib.hid hm
              clear hm
              go_wp2_with (go_at_call 54; refine (hSl _).mono ?_; rintro e V ⟨rfl, hb⟩; have hS1 := hS.below hb)
              go_roundw
              case rel => exact ⟨t + 1, m', by omega, by go_num, by
                have := HM.out
                have e : ((t + 1 : Nat) : Int) * c.slots = t * c.slots + c.slots := by rw [Int.natCast_add, Int.add_mul]; simp
                omega, hS1⟩
              case measure => simp [intOf]; omega
        · have hm' : (m : Int) = c.o2 + (1 - 1) := by
            have e : (t : Int) = c.th := by omega
            rw [hm, e]
            unfold Cf.o2
            omega
          clear hm
          have HM := Lib.hid hm'
          clear hm'
          go_wp2
          clear x0 x1 x2 x3 x4 x5 x6
          go_loopw [3, 7] (fun v i wr => R4 c w v i wr) (fun _ i _ => (c.nd + 1 - intOf i).toNat)
          case atStart => exact ⟨1, m, by omega, by omega, rfl, HM.out, hS⟩
          case round =>
            clear hS HM
            obtain ⟨k3, m3, hk3, hk4, rfl, hm, hS⟩ := hrel
            obtain ⟨x0, x1, x2, x3, x4, x5, x6⟩ := hS.p.conf
            have hm2 : m3 < 2000 := by omega
            by_cases hkl : (k3 : Int) ≤ c.nd
            · have hx : c.place (m3 : Int) = (2, (k3 : Int), 0) := by rw [hm]; exact place_2 H.out (by omega) hkl
              have HX := Lib.hid hx
              have HM := Lib.hid hm
              clear hm hx
              go_wp2_with (at_builtin; refine wpList_push hS hm2 HX.out _ _ rfl rfl rfl rfl ?_; intro v' W' hS')
              go_roundw
              case rel => exact ⟨k3 + 1, m3 + 1, by omega, by omega, by go_num, by have := HM.out; omega, hS'⟩
              case measure => simp [intOf]; omega
            · have hm' : (m3 : Int) = c.o3 + (1 - 1) * c.width := by
                have e : (k3 : Int) = c.nd + 1 := by omega
                rw [hm, e]
                unfold Cf.o3
                omega
              clear hm
              have HM := Lib.hid hm'
              clear hm'
              go_wp2
              clear x0 x1 x2 x3 x4 x5 x6
              go_loopw [3, 8] (fun v i wr => R5 c w v i wr) (fun _ i _ => (c.nd + 1 - intOf i).toNat)
              case atStart => exact ⟨1, m3, by omega, by omega, rfl, HM.out, hS⟩
              case round =>
                clear hS HM
                obtain ⟨k5, m5', hk5, hk6, rfl, hm, hS⟩ := hrel
                obtain ⟨x0, x1, x2, x3, x4, x5, x6⟩ := hS.p.conf
                by_cases hnl : (k5 : Int) ≤ c.nd
                · have HM := Lib.hid hm
                  clear hm
                  go_wp2
                  clear x0 x1 x2 x3 x4 x5 x6
                  go_loopw [3, 9] (fun v i wr => R6 c w k5 v i wr) (fun _ i _ => (c.width - intOf i).toNat)
                  case atStart => exact ⟨0, m5', by omega, rfl, by rw [HM.out]; simp, hS⟩
                  case round =>
                    clear hS HM
                    obtain ⟨k6, m6', hk7, rfl, hm, hS⟩ := hrel
                    obtain ⟨x0, x1, x2, x3, x4, x5, x6⟩ := hS.p.conf
                    obtain ⟨b1, b2⟩ := mul_in (a := (k5 : Int) - 1) (b := c.width) (A := 64) (B := 11) (by omega) (by omega) (by omega) (by omega)
                    have hm2 : m6' < 2000 := by omega
                    by_cases hkl2 : (k6 : Int) < c.width
                    · have hx : c.place (m6' : Int) = (3, (k5 : Int), (k6 : Int)) := by rw [hm]; exact place_3 H.out (by omega) hnl (by omega) hkl2
                      have HX := Lib.hid hx
                      have HM := Lib.hid hm
                      clear hm hx
                      go_wp2_with (first
                        | (go_at_call 55; refine (hWi _).mono ?_; rintro e V ⟨rfl, hb⟩; have hS1 := hS.below hb)
                        | (at_builtin; refine wpList_push hS1 hm2 HX.out _ _ rfl rfl rfl rfl ?_; intro v' W' hS'))
                      go_roundw
                      case rel => exact ⟨k6 + 1, m6' + 1, by omega, by go_num, by have := HM.out; omega, hS'⟩
                      case measure => simp [intOf]; omega
                    · have HM := Lib.hid hm
                      clear hm
                      go_wp2_with (go_at_call 55; refine (hWi _).mono ?_; rintro e V ⟨rfl, hb⟩; have hS1 := hS.below hb)
                      go_roundw
                      case rel => exact ⟨k5 + 1, m6', by omega, by omega, by go_num, by
                        have := HM.out
                        have e : (((k5 + 1 : Nat) : Int) - 1) * c.width = ((k5 : Int) - 1) * c.width + c.width := by
                          rw [show ((k5 + 1 : Nat) : Int) - 1 = ((k5 : Int) - 1) + 1 by omega, Int.add_mul, Int.one_mul]
                        omega, hS1⟩
                      case measure => simp [intOf]; omega
                · have hm' : (m5' : Int) = c.o4 + 0 := by
                    have e : (k5 : Int) = c.nd + 1 := by omega
                    rw [hm, e]
                    unfold Cf.o4
                    rw [show c.nd + 1 - 1 = c.nd by omega]
                    omega
                  clear hm
                  have HM := Lib.hid hm'
                  clear hm'
                  go_wp2
                  clear x0 x1 x2 x3 x4 x5 x6
                  go_loop [10, 11] (fun u i => R7 c u i) (fun _ i => (c.lv - intOf i).toNat)
                  case atStart => exact ⟨0, by omega, rfl, rfl⟩
                  case round =>
                    obtain ⟨k7, hk8, rfl, rfl⟩ := hrel
                    obtain ⟨x0, x1, x2, x3, x4, x5, x6⟩ := hS.p.conf
                    obtain ⟨b1, b2⟩ := pow_in (k := k7) (by omega)
                    by_cases hkl2 : (k7 : Int) < c.lv
                    · have hp2 : (2 : Int) * 2 ^ k7 = 2 ^ (k7 + 1) := by rw [Int.pow_succ]; omega
                      have HP := Lib.hid hp2
                      clear hp2
                      generalize (2 : Int) ^ k7 = u at *
                      go_wp2
                      go_round
                      case rel => exact ⟨k7 + 1, by omega, by go_num, by rw [HP.out]⟩
                      case measure => simp [intOf]; omega
                    · have hk9 : k7 = c.lv.toNat := by omega
                      have hpl : c.al = 0 → c.places = 2 ^ k7 := fun e => by rw [hk9]; exact if_pos e
                      have hpn : c.al ≠ 0 → c.places = 0 := fun e => if_neg e
                      have HPL := Lib.hid hpl
                      have HPN := Lib.hid hpn
                      have HS := Lib.hid (show c.size = c.o4 + c.places * 1 from rfl)
                      clear hpl hpn hk9
                      generalize (2 : Int) ^ k7 = u at *
                      go_wp2
                      clear x0 x1 x2 x3 x4 x5 x6
                      go_loopw [3, 12] (fun v i wr => R8 c w v i wr) (fun _ i _ => (c.places - intOf i).toNat)
                      case atStart => exact ⟨0, m5', by omega, rfl, HM.out, hS⟩
                      case round =>
                        clear hS HM
                        obtain ⟨k8, m8', hk10, rfl, hm, hS⟩ := hrel
                        obtain ⟨x0, x1, x2, x3, x4, x5, x6⟩ := hS.p.conf
                        have hm2 : m8' < 2000 := by omega
                        by_cases hal : c.al = 0
                        · have hpl := HPL.out hal
                          by_cases hkl3 : (k8 : Int) < c.places
                          · have hx : c.place (m8' : Int) = (4, (k8 : Int), 0) := by rw [hm]; exact place_4 H.out (by omega) hkl3
                            have HX := Lib.hid hx
                            have HM := Lib.hid hm
                            have hku : (k8 : Int) < u := by omega
                            have hal2 : (c.al == 0) = true := by simpa using hal
                            clear hm hx hpl hal
                            go_wp2_with (at_builtin; refine wpList_push hS hm2 HX.out _ _ rfl rfl rfl rfl ?_; intro v' W' hS')
                            go_roundw
                            case rel => exact ⟨k8 + 1, m8' + 1, by omega, by go_num, by have := HM.out; omega, hS'⟩
                            case measure => simp [intOf]; omega
                          · have hku : ¬ (k8 : Int) < u := by omega
                            have hal2 : (c.al == 0) = true := by simpa using hal
                            have hsz : m8' = c.size.toNat := by have := HS.out; omega
                            have HZ := Lib.hid hsz
                            clear hm hpl hal hsz
                            go_wp2
                            go_ret
                            exact ⟨_, rfl, by rw [← HZ.out]; exact hS.row, hS.bel⟩
                        · have hpn := HPN.out hal
                          have hal2 : (c.al == 0) = false := by simpa using hal
                          have hsz : m8' = c.size.toNat := by have := HS.out; omega
                          have HZ := Lib.hid hsz
                          clear hm hpn hal hsz
                          go_wp2
                          go_ret
                          exact ⟨_, rfl, by rw [← HZ.out]; exact hS.row, hS.bel⟩
end Go.Proofs.Ytogbakgmkiiboaa.P
