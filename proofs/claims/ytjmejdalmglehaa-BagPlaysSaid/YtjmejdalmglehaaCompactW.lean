/- Compact, walked. -/
import Derived.Test.YtjmejdalmglehaaCompact
namespace Go.Proofs.Ytjmejdalmglehaa
open Go.ChangeShapes Go.WideShapes Go.ChangeAt Go.RowKit
set_option linter.unusedVariables false

theorem CS.clear {w W : World} {g : Nat} {D T : List Pr} {rest : List Value} (h : CS w g (D ++ T) rest W) (hT : 0 < T.length) :
    (∀ ty c, (Builtin.clear_ #[24] ty #[.slice (some ⟨g, D.length * 2, none⟩) T.length c]).run Try.prog W = .ok (.tuple #[]) (W.setRow g (encP (D ++ List.replicate T.length zp) ++ rest).toArray)) ∧
    CS w g (D ++ List.replicate T.length zp) rest (W.setRow g (encP (D ++ List.replicate T.length zp) ++ rest).toArray) := by
  have hz : (encP (List.replicate T.length zp)).length = (encP T).length := by rw [encP_len, encP_len, List.length_replicate]
  have e2 : (encP (D ++ T) ++ rest).toArray.toList.take (D.length * 2) ++ encP (List.replicate T.length zp) ++ (encP (D ++ T) ++ rest).toArray.toList.drop (D.length * 2 + (encP (List.replicate T.length zp)).length) = encP (D ++ List.replicate T.length zp) ++ rest := by
    show (encP (D ++ T) ++ rest).take _ ++ _ ++ (encP (D ++ T) ++ rest).drop _ = _
    rw [encP_append, seg_put (encP D) (encP T) rest _ _ _ (by rw [encP_len]; omega) hz, encP_append]
  refine ⟨fun ty c => ?_, h.blk.row _, Keeps.setRow (O := fun k => k = g) h.keep (.inl rfl) _⟩
  have hl := encP_len (D ++ T)
  have := run_clear_two W 24 ty 38 zp.val Try.underlying24 zero38 (encP (List.replicate T.length zp)) g (D.length * 2) T.length c (zeros_two _) _ 38 h.blk hT (by rw [hz, encP_len, List.size_toArray, List.length_append, hl, List.length_append]; omega) (encP_one _)
  rw [e2] at this
  exact this

set_option maxRecDepth 100000 in
set_option maxHeartbeats 8000000 in
theorem compact_any (g : Nat) (L : List Pr) (rest : List Value) (c : Nat) (w : World) (hb : Blk w g 38 (encP L ++ rest).toArray) (hc : L.length ≤ c) (hm : c ≤ maxLen) (hl : L.length < 100000) :
    Calls Try.prog 34 #[.slice (some ⟨g, 0, none⟩) L.length c] w (Packed w g (ddL L L.length)) := by
  have S0 := Lib.hid (CS.mk hb (Keeps.refl (fun k => k = g) w))
  have HPK := Lib.hid fun (L' D : List Pr) W (h : CS w g L' rest W) (hl : L'.length = L.length) (hD : ∃ T, L' = D ++ T) => Packed.of (D := D) h hD (by rw [hl]; exact hc) hm
  clear hb
  by_cases h2 : L.length < 2
  · have hD : ddL L L.length = L := by
      cases L with
      | nil => rfl
      | cons x t =>
        cases t with
        | nil => rfl
        | cons y u => simp at h2; omega
    rw [hD]
    have gl : (L.length : Int) < 2 := by omega
    have HF := Lib.hid (HPK.out L L w S0.out rfl ⟨[], by simp⟩)
    clear HPK S0 hD hm
    go_enter Try.func34, Try.ntmps34
    go_wp2
    go_ret
    exact HF.out
  have gl : ¬ (L.length : Int) < 2 := by omega
  have hmc := hm
  unfold maxLen at hmc
  clear hm
  go_enter Try.func34, Try.ntmps34
  go_wp2_with fail
  go_loopw [3] (fun i W => ∃ k : Nat, 1 ≤ k ∧ k ≤ L.length ∧ i = .int .i64 k ∧ Hid (ddL L k = L.take k) ∧ Hid (CS w g L rest W)) (fun i _ => L.length - (intOf i).toNat)
  case atStart => exact ⟨1, by omega, by omega, rfl, Lib.hid (by
    rw [ddL_one]
    cases L with
    | nil => simp at h2
    | cons x t => rfl), S0⟩
  case round =>
    clear S0
    obtain ⟨k, hk1, hk2, rfl, HD, HS⟩ := hrel
    by_cases hkn : k < L.length
    · obtain ⟨j, hjk⟩ : ∃ j, k = j + 1 := ⟨k - 1, by omega⟩
      have hj1 : k - 1 = j := by omega
      obtain ⟨x0, x1⟩ := HS.out.pr hkn
      obtain ⟨y0, y1⟩ := HS.out.pr (show j < L.length by omega)
      have gk : (k : Int) < L.length := by omega
      have gj : (j : Int) < L.length := by omega
      have w1 : IntKind.i64.wrap ((k : Int) - 1) = (j : Int) := by rw [IntKind.wrap_i64]; omega
      have w2 := IntWalk.i64_in ((k : Int) + 1) (by omega)
      have hq := fun w => eq_pr (ithP L k) (ithP L j) w
      by_cases he : ithP L k = ithP L j
      case neg =>
        rw [decide_eq_false he] at hq
        have HN : Hid (ddL L (k + 1) = L.take (k + 1)) := Lib.hid (by rw [ddL_more (by rw [hj1]; exact he), HD.out, take_next (ithP_lt hkn)])
        clear he hjk hj1 HD
        generalize ithP L k = a at *
        generalize ithP L j = b at *
        obtain ⟨ak, av⟩ := a
        obtain ⟨bk, bv⟩ := b
        dsimp only [Pr.val] at *
        go_wp2_with fail
        go_quiet (fail)
        have HS2 := Lib.hid (HS.out.drewN nq)
        clear HS
        go_wp2
        go_roundw
        case rel => exact ⟨k + 1, by omega, by omega, by go_num, HN, HS2⟩
        case measure => simp [intOf]; omega
      case pos =>
        rw [decide_eq_true he] at hq
        have HN : Hid (ddL L (k + 1) = L.take k) := Lib.hid (by rw [ddL_same (by omega) (by rw [hj1]; exact he), HD.out])
        have gk0 : k < c := by omega
        have gkc : (k : Int) ≤ c := by omega
        have gkl : (k : Int) ≤ L.length := by omega
        clear he hjk hj1 HD
        generalize ithP L k = a at *
        generalize ithP L j = b at *
        obtain ⟨ak, av⟩ := a
        obtain ⟨bk, bv⟩ := b
        dsimp only [Pr.val] at *
        go_wp2_with fail
        go_quiet (fail)
        have HS2 := Lib.hid (HS.out.drewN nq)
        clear HS x0 x1 y0 y1 hq
        generalize wr.drewN nq = wr at *
        go_wp2_with fail
        go_loopw [3, 5] (fun i i2 W => ∃ q d : Nat, 1 ≤ q ∧ k + q ≤ L.length ∧ d < k + q ∧ i2 = .int .i64 q ∧ i = .int .i64 d ∧ Hid (d = (ddL L (k + q)).length) ∧ Hid (CS w g (ddL L (k + q) ++ L.drop (ddL L (k + q)).length) rest W)) (fun _ i2 _ => L.length - (intOf i2).toNat)
        case atStart =>
          refine ⟨1, k, by omega, by omega, by omega, rfl, rfl, Lib.hid ?_, Lib.hid ?_⟩
          · rw [HN.out, List.length_take]; omega
          · rw [HN.out, List.length_take, Nat.min_eq_left (by omega), List.take_append_drop]; exact HS2.out
        case round =>
          clear HS2 HN
          obtain ⟨q, d, hq1, hkq, hd, rfl, rfl, HDl, HS⟩ := hrel
          by_cases hqn : k + q < L.length
          · obtain ⟨p, hqp⟩ : ∃ p, q = p + 1 := ⟨q - 1, by omega⟩
            have hR : (ddL L (k + q) ++ L.drop (ddL L (k + q)).length).length = L.length := by
              have := ddL_len L (k + q)
              rw [List.length_append, List.length_drop]; omega
            obtain ⟨x0, x1⟩ := HS.out.pr (k := k + q) (by omega)
            obtain ⟨y0, y1⟩ := HS.out.pr (k := k + p) (by omega)
            rw [ithP_drop (by have := HDl.out; omega)] at x0 x1
            rw [ithP_drop (by have := HDl.out; omega)] at y0 y1
            have hd2 : d < L.length := by omega
            obtain ⟨u0, u1⟩ := HS.out.pr (k := d) (by omega)
            have f0 := HS.out.blk.frozen (d * 2)
            have f1 := HS.out.blk.frozen (d * 2 + 1)
            generalize ithP (ddL L (k + q) ++ L.drop (ddL L (k + q)).length) d = old at u0 u1
            have em : (k + q) * 2 = k * 2 + q * 2 := by omega
            have em2 : (k + p) * 2 = k * 2 + p * 2 := by omega
            rw [em] at x0 x1
            rw [em2] at y0 y1
            have gq : (q : Int) < (L.length : Int) - k := by omega
            have gq2 : (q : Int) < ((L.length - k : Nat) : Int) := by omega
            have gp : (p : Int) < (L.length : Int) - k := by omega
            have gp2 : (p : Int) < ((L.length - k : Nat) : Int) := by omega
            have gd : (d : Int) < L.length := by omega
            have w1 : IntKind.i64.wrap ((q : Int) - 1) = (p : Int) := by rw [IntKind.wrap_i64]; omega
            have w2 := IntWalk.i64_in ((q : Int) + 1) (by omega)
            have w3 := IntWalk.i64_in ((d : Int) + 1) (by omega)
            have hq := fun w => eq_pr (ithP L (k + q)) (ithP L (k + p)) w
            have hkp : k + q - 1 = k + p := by omega
            have hkq1 : k + (q + 1) = k + q + 1 := by omega
            by_cases he : ithP L (k + q) = ithP L (k + p)
            case pos =>
              rw [decide_eq_true he] at hq
              have hn := ddL_same (L := L) (k := k + q) (by omega) (by rw [hkp]; exact he)
              have HN : Hid (d = (ddL L (k + (q + 1))).length) := Lib.hid (by rw [hkq1, hn]; exact HDl.out)
              have HS3 : Hid (∀ n, CS w g (ddL L (k + (q + 1)) ++ L.drop (ddL L (k + (q + 1))).length) rest (wr.drewN n)) := Lib.hid fun n => by rw [hkq1, hn]; exact HS.out.drewN n
              clear he hqp hkp hkq1 hn HDl HS hR u0 u1 f0 f1 em em2
              generalize ithP L (k + q) = a at *
              generalize ithP L (k + p) = b at *
              obtain ⟨ak, av⟩ := a
              obtain ⟨bk, bv⟩ := b
              dsimp only [Pr.val] at *
              go_wp2_with fail
              go_quiet (fail)
              have HS2 := Lib.hid (HS3.out nq)
              clear HS3
              go_wp2
              go_roundw
              case rel => exact ⟨q + 1, d, by omega, by omega, by omega, by go_num, rfl, HN, HS2⟩
              case measure => simp [intOf]; omega
            case neg =>
              rw [decide_eq_false he] at hq
              have hn := ddL_more (L := L) (k := k + q) (by rw [hkp]; exact he)
              have HN : Hid (d + 1 = (ddL L (k + (q + 1))).length) := Lib.hid (by rw [hkq1, hn, List.length_append, ← HDl.out]; rfl)
              have HS3 : Hid (∀ n, CS w g (ddL L (k + (q + 1)) ++ L.drop (ddL L (k + (q + 1))).length) rest (((wr.drewN n).setCell ⟨g, d * 2, none⟩ (.int .u32 (ithP L (k + q)).k)).setCell ⟨g, d * 2 + 1, none⟩ (.int .u32 (ithP L (k + q)).v))) := Lib.hid fun n => by
                have := (HS.out.drewN n).put (k := d) (by omega) (ithP L (k + q))
                rw [HDl.out, set_drop (by rw [List.length_drop, ← HDl.out]; omega), List.drop_drop, ← HDl.out] at this
                rw [hkq1, hn, List.length_append, ← HDl.out]
                exact this
              clear he hqp hkp hkq1 hn HDl HS hR em em2
              generalize ithP L (k + q) = a at *
              generalize ithP L (k + p) = b at *
              obtain ⟨ak, av⟩ := a
              obtain ⟨bk, bv⟩ := b
              obtain ⟨ck, cv⟩ := old
              dsimp only [Pr.val] at *
              go_wp2_with fail
              go_quiet (fail)
              have HS2 := Lib.hid (HS3.out nq)
              clear HS3
              have v0 : (wr.drewN nq).cell? _ = _ := u0
              have v1 : (wr.drewN nq).cell? _ = _ := u1
              have v2 : (wr.drewN nq).cell? _ = _ := x0
              have v3 : (wr.drewN nq).cell? _ = _ := x1
              have v4 : (wr.drewN nq).frozen? _ = _ := f0
              have v5 : (wr.drewN nq).frozen? _ = _ := f1
              clear u0 u1 x0 x1 y0 y1 f0 f1
              generalize wr.drewN nq = wr at *
              go_wp2
              go_roundw
              case rel => exact ⟨q + 1, d + 1, by omega, by omega, by omega, by go_num, by go_num, HN, HS2⟩
              case measure => simp [intOf]; omega
          · have hkL : k + q = L.length := by omega
            have hS := HS.out
            rw [hkL] at hS HDl
            have hdl := HDl.out
            obtain ⟨hcl, hS2⟩ := hS.clear (by rw [List.length_drop, ← hdl]; omega)
            have hll : (L.drop (ddL L L.length).length).length = L.length - d := by rw [List.length_drop, ← hdl]
            have HF := Lib.hid (HPK.out _ (ddL L L.length) _ hS2 (by rw [List.length_append, List.length_replicate, hll, ← hdl]; omega) ⟨_, rfl⟩)
            rw [hll, ← hdl] at hcl
            rw [hll, ← hdl] at HF
            have gq : ¬ (q : Int) < (L.length : Int) - k := by omega
            have gq2 : ¬ (q : Int) < ((L.length - k : Nat) : Int) := by omega
            have gd : (d : Int) ≤ L.length := by omega
            have gd2 : (d : Int) ≤ c := by omega
            have gd3 : d < c := by omega
            clear HPK HS hS hS2 HDl hll hdl
            generalize wr.setRow g (encP (ddL L L.length ++ List.replicate (L.length - d) zp) ++ rest).toArray = W2 at *
            go_wp2
            go_ret
            exact HF.out
    · obtain rfl : k = L.length := by omega
      have gk : ¬ (L.length : Int) < L.length := by omega
      have hD := HD.out
      rw [List.take_length] at hD
      have HF : Hid (Packed w g (ddL L L.length) (.returned (.slice (some ⟨g, 0, none⟩) L.length c)) wr) := Lib.hid (by
        rw [hD]
        exact HPK.out L L wr HS.out rfl ⟨[], by simp⟩)
      clear HPK HS HD hD
      go_wp2
      go_ret
      exact HF.out
end Go.Proofs.Ytjmejdalmglehaa
