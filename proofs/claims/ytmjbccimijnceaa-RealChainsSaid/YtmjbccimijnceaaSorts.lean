/- The sort, walked. -/
import Derived.Test.YtmjbccimijnceaaSort
namespace Go.Proofs.Ytmjbccimijnceaa
open Go.ChangeShapes Go.WideShapes Go.ChangeAt Go.RowKit
set_option linter.unusedVariables false
set_option linter.unusedSimpArgs false

theorem cmp_less {a b : Int} (h : a < b) : cmpI a b = -1 := by simp [cmpI, h]
theorem cmp_more {a b : Int} (h : ¬ a < b) : 0 ≤ cmpI a b := by unfold cmpI; rw [if_neg h]; split <;> omega

set_option maxRecDepth 100000 in
set_option maxHeartbeats 2000000 in
theorem insertion_any (key : Int → Int) (g cap : Nat) (cb : Array Value) (d : List Int) (w : World) (D : Int → Prop) (hd : ∀ x ∈ d, D x) (hn : 1 ≤ d.length) (hn2 : d.length ≤ 1000)  (hcap : d.length ≤ cap) (hcap2 : cap ≤ 9223372036854775807)
    (h : SortS w g cap d w)
    (hf : ∀ W, Keeps (fun k => k = g) w W → ∀ a b, D a → D b → Calls Try.prog 28 (#[.int .i64 a, .int .i64 b] ++ cb) W fun e W' => e = .returned (.int .i64 (cmpI (key a) (key b))) ∧ ∃ m, W' = W.drewN m) :
    Calls Try.prog 34 #[.slice (some ⟨g, 0, none⟩) d.length cap, .int .i64 0, .int .i64 d.length, .func (.func 28) #[] cb] w fun e W =>
      e = .returned (.tuple #[]) ∧ ∃ d', SortS w g cap d' W ∧ d'.Perm d ∧ d'.Pairwise (fun a b => key a ≤ key b) := by
  have eg : ∀ args w, (callFunc 28 args).run Try.prog w = .ok (.enter 28 args) w := enters_of Try.func28 (by kernel_rfl) rfl
  have HF := Lib.hid hf
  have HD := Lib.hid hd
  have H := Lib.hid h
  clear hf hd h
  obtain ⟨n, hnn⟩ : ∃ n, n = d.length := ⟨_, rfl⟩
  rw [← hnn] at hn hn2 hcap ⊢
  have HN := Lib.hid hnn
  clear hnn
  go_enter Try.func34, Try.ntmps34
  go_wp2_with fail
  go_loopw [8] (fun i W => ∃ (k : Nat) (dk : List Int), 1 ≤ k ∧ k ≤ n ∧ i = .int .i64 k ∧ Hid (SortS w g cap dk W ∧ dk.Perm d ∧ SortedTo key dk k)) (fun i _ => n - (intOf i).toNat)
  case atStart => exact ⟨1, d, by omega, hn, rfl, Lib.hid ⟨H.out, List.Perm.refl _, fun p q h1 h2 => by omega⟩⟩
  case round =>
    obtain ⟨k, dk, hk1, hk, rfl, HI⟩ := hrel
    by_cases hlt : k < n
    · have gk : (k : Int) < n := by omega
      go_wp2_with fail
      rename World => W4
      go_loopw [9] (fun i W => ∃ (j : Nat) (dj : List Int), j ≤ k ∧ i = .int .i64 j ∧ Hid (SortS w g cap dj W ∧ dj.Perm d ∧ SortedBut key dj k j)) (fun i _ => (intOf i).toNat)
      case atStart => exact ⟨k, dk, Nat.le_refl _, rfl, Lib.hid ⟨HI.out.1, HI.out.2.1, but_start HI.out.2.2⟩⟩
      case round =>
        obtain ⟨j, dj, hj, rfl, HJ⟩ := hrel
        have hl : dj.length = n := by rw [HN.out]; exact HJ.out.2.1.length_eq
        rcases j with _ | m
        · have g0 : decide (((0 : Nat) : Int) > 0) = false := by simp
          have HZ := Lib.hid (but_zero HJ.out.2.2)
          go_wp2_with fail
          go_quiet (fail)
          go_wp2
          go_roundw
          case rel => exact ⟨k + 1, dj, by omega, by omega, by go_num, Lib.hid ⟨HJ.out.1.drewN _, HJ.out.2.1, HZ.out⟩⟩
          case measure => simp [intOf]; omega
        · have g0 : decide ((0 : Int) < (m : Int) + 1) = true := by simp
          have hs := HJ.out.1
          have x1 := hs.cell (j := m + 1) (by omega)
          have x0 := hs.cell (j := m) (by omega)
          have f1 := hs.frozen (m + 1)
          have f0 := hs.frozen m
          have hm1 := HD.out _ (HJ.out.2.1.mem_iff.1 (show iI dj (m + 1) ∈ dj by rw [iI_lt (show m + 1 < dj.length by omega)]; exact List.getElem_mem _))
          have hm0 := HD.out _ (HJ.out.2.1.mem_iff.1 (show iI dj m ∈ dj by rw [iI_lt (show m < dj.length by omega)]; exact List.getElem_mem _))
          have KC := fun q => HF.out (wr.drewN q) (keeps_drewN hs.keeps q) _ _ hm1 hm0
          have w0 : IntKind.i64.wrap (((m + 1 : Nat) : Int) - 1) = (m : Int) := by rw [IntKind.wrap_i64]; omega
          clear hs hm1 hm0
          by_cases hc : key (iI dj (m + 1)) < key (iI dj m)
          · have HS := Lib.hid (but_swap HJ.out.2.2 hj (by omega) hc)
            have HP := Lib.hid ((swp_perm (d := dj) (m := m) (by omega)).trans HJ.out.2.1)
            rw [cmp_less hc] at KC
            clear hc
            go_wp2_with fail
            go_quiet ((go_at_fn 28; exact Calls.quiet_of (KC _)))
            go_wp2_with fail
            have HJ2 := Lib.hid (HJ.out.1.drewN nq)
            have y1 : (wr.drewN nq).cell? _ = _ := x1
            have y0 : (wr.drewN nq).cell? _ = _ := x0
            have z1 : (wr.drewN nq).frozen? _ = _ := f1
            have z0 : (wr.drewN nq).frozen? _ = _ := f0
            clear x1 x0 f1 f0 KC HJ HI
            generalize wr.drewN nq = wr at *
            go_region
            go_wp2_with fail
            exact ⟨⟨m, swp dj m, by omega, rfl, Lib.hid ⟨((HJ2.out.set (j := m + 1) (by omega) (iI dj m)).set (j := m) (by simp; omega) (iI dj (m + 1))).drew, HP.out, HS.out⟩⟩, by simp [intOf]⟩
          · have HZ := Lib.hid (but_done HJ.out.2.2 hj hc)
            have hge := cmp_more hc
            generalize cmpI (key (iI dj (m + 1))) (key (iI dj m)) = c at *
            have gc : decide (c < 0) = false := by simp; omega
            clear hc
            go_wp2_with fail
            go_quiet ((go_at_fn 28; exact Calls.quiet_of (KC _)))
            go_wp2
            go_roundw
            case rel => exact ⟨k + 1, dj, by omega, by omega, by go_num, Lib.hid ⟨HJ.out.1.drewN _, HJ.out.2.1, HZ.out⟩⟩
            case measure => simp [intOf]; omega
    · obtain rfl : k = n := by omega
      have HE := Lib.hid (sorted_pairwise (d := dk) (key := key) (by have e := HI.out.2.1.length_eq; have h2 := HI.out.2.2; have h3 := HN.out; rw [e, ← h3]; exact h2))
      go_wp2
      go_end0
      exact ⟨rfl, dk, HI.out.1, HI.out.2.1, HE.out⟩
end Go.Proofs.Ytmjbccimijnceaa
