/- HistOpers: the walk. -/
import Derived.Test.YtfdghlpkioednaaDoorNS
namespace Go.Proofs.YtfdghlpkioednaaDoor
open Go.ChangeShapes Go.WideShapes Go.ChangeAt Go.RowKit
set_option linter.unusedVariables false

theorem eq_str (a b : List UInt8) (w : World) : (Op.equalIn 10000 9 (.string ⟨a.toArray⟩) (.string ⟨b.toArray⟩)).run Tryd.prog w = .ok (a == b) w := by
  rw [run_equalIn_string w 9999 9 _ _ Tryd.underlying9, ByteArray.toList_eq, ByteArray.toList_eq]
theorem eq_op_self (e : Opr) (w : World) : (Op.equalIn 10000 50 e.v e.v).run Tryd.prog w = .ok true w := by
  obtain ⟨t1, ⟨c1, c2, c3⟩, ⟨a1, a2, a3⟩, f, o⟩ := e
  simp [go_sem]

set_option maxRecDepth 100000 in
set_option maxHeartbeats 8000000 in
theorem law_opers (s : Sl) (l : List Ev) (w : World) (h : Reads w s 8 (encE l)) (hf : ∀ e ∈ l, FitE e) (ht : Tab w) :
    Calls Tryd.prog 4 #[.slice s.a s.n s.cap] w fun e w' => e = .returned (.bool true) ∧ Below w.heap.size w w' := by
  have hn := h.lenE
  have hroom := h.room
  unfold maxLen at hroom
  by_cases hlen : 200 < l.length
  · have gl : (200 : Int) < l.length := by omega
    have KL := lives_any w ht
    clear h ht
    obtain ⟨sa, sn, sc⟩ := s
    dsimp only at *
    subst hn
    go_enter Tryd.func4, Tryd.ntmps4
    go_wp2_with fail
    refine KL.mono ?_
    rintro x w1 ⟨rfl, hb⟩
    have HB := Lib.hid hb
    clear hb KL
    go_wp2
    go_ret
    exact ⟨rfl, HB.out⟩
  have gl : ¬ (200 : Int) < l.length := by omega
  have HI : ∀ e ∈ l, I64 e.t := fun e he => (hf e he).t
  have HR := Lib.hid fun W hb => h.below (V := W) hb
  have KR := Lib.hid fun W hb => hright_any s l W (h.below hb) HI
  have KRR := Lib.hid fun W hb => rright_any s l W (h.below hb)
  have KS := Lib.hid fun W (hb : Below w.heap.size w W) => hshow_any s l W (h.below hb) hf (by omega) (tab_below ht hb)
  have KSS := Lib.hid fun W hb => rshow_any s l W (h.below hb) hf (by omega)
  have KRO := Lib.hid fun W hb => refOpers_any s l W (h.below hb) (by omega)
  have KL := Lib.hid fun W (hb : Below w.heap.size w W) => lives_any W (tab_below ht hb)
  have qs := fun w => eq_str (textT l) (textT l) w
  simp only [beq_self_eq_true] at qs
  have hol : (ops (ith l) l.length).length ≤ l.length := by rw [ops_len]; exact beg_len
  cases hr : rightN (ith l) l.length with
  | false =>
    have KO := opers_bad s l w h HI hr
    rw [hr] at KR KRR
    clear h hf ht HI hr HR KRO
    generalize textT l = txt at *
    obtain ⟨sa, sn, sc⟩ := s
    dsimp only at *
    subst hn
    go_enter Tryd.func4, Tryd.ntmps4
    go_wp2_with fail
    refine KO.mono ?_
    rintro x w1 ⟨rfl, hb⟩
    have KRR1 := KRR.out w1 hb
    have HB := Lib.hid hb
    clear hb KO KRR
    go_wp2_with fail
    refine KRR1.mono ?_
    rintro x w2 ⟨rfl, hb⟩
    have HB2 := Lib.hid (below_then HB.out hb)
    have KR2 := KR.out w2 HB2.out
    clear hb KRR1 KR HB
    go_wp2_with fail
    refine KR2.mono ?_
    rintro x w3 ⟨rfl, hb⟩
    have HB3 := Lib.hid (below_then HB2.out hb)
    have KS3 := KS.out w3 HB3.out
    clear hb KR2 KS HB2
    go_wp2_with fail
    refine KS3.mono ?_
    rintro x w4 ⟨rfl, hb⟩
    have HB4 := Lib.hid (below_then HB3.out hb)
    have KS4 := KSS.out w4 HB4.out
    clear hb KS3 KSS HB3
    go_wp2_with fail
    refine KS4.mono ?_
    rintro x w5 ⟨rfl, hb⟩
    have HB5 := Lib.hid (below_then HB4.out hb)
    have KL5 := KL.out w5 HB5.out
    clear hb KS4 KL HB4
    go_wp2_with fail
    refine KL5.mono ?_
    rintro x w6 ⟨rfl, hb⟩
    have HB6 := Lib.hid (below_then HB5.out hb)
    clear hb KL5 HB5
    go_wp2
    go_ret
    exact ⟨rfl, HB6.out⟩
  | true =>
    have KO := opers_good s l w h HI hr (by omega)
    rw [hr] at KR KRR
    clear h hf ht HI hr
    generalize textT l = txt at *
    obtain ⟨sa, sn, sc⟩ := s
    dsimp only at *
    subst hn
    go_enter Tryd.func4, Tryd.ntmps4
    go_wp2_with fail
    refine KO.mono ?_
    rintro x w1 ⟨⟨oa, on, oc⟩, rfl, hown, hb⟩
    have hro := Reads.of_own (s := ⟨oa, on, oc⟩) hown
    have HO := Lib.hid fun W hb => hro.1.below (V := W) hb
    obtain rfl : on = (ops (ith l) l.length).length := hro.2
    have KRR1 := KRR.out w1 hb
    have HB := Lib.hid hb
    clear hb KO KRR hown hro
    go_wp2_with fail
    refine KRR1.mono ?_
    rintro x w2 ⟨rfl, hb⟩
    have HO2 := Lib.hid (HO.out w2 hb)
    have HB2 := Lib.hid (below_then HB.out hb)
    have KR2 := KR.out w2 HB2.out
    clear hb KRR1 KR HB HO
    go_wp2_with fail
    refine KR2.mono ?_
    rintro x w3 ⟨rfl, hb⟩
    have HO3 := Lib.hid (HO2.out.below hb)
    have HB3 := Lib.hid (below_then HB2.out hb)
    have KS3 := KS.out w3 HB3.out
    clear hb KR2 KS HB2 HO2
    go_wp2_with fail
    refine KS3.mono ?_
    rintro x w4 ⟨rfl, hb⟩
    have HO4 := Lib.hid (HO3.out.below hb)
    have HB4 := Lib.hid (below_then HB3.out hb)
    have KS4 := KSS.out w4 HB4.out
    clear hb KS3 KSS HB3 HO3
    go_wp2_with fail
    refine KS4.mono ?_
    rintro x w5 ⟨rfl, hb⟩
    have HO5 := Lib.hid (HO4.out.below hb)
    have HB5 := Lib.hid (below_then HB4.out hb)
    have KO5 := KRO.out w5 HB5.out
    clear hb KS4 KRO HB4 HO4
    go_wp2_with fail
    refine KO5.mono ?_
    rintro x w6 ⟨⟨pa, pn, pc⟩, rfl, hown, hb⟩
    have HO6 := Lib.hid (HO5.out.below hb)
    have HB6 := Lib.hid (below_then HB5.out hb)
    have hro := Reads.of_own (s := ⟨pa, pn, pc⟩) hown
    have HP := Lib.hid hro.1
    obtain rfl : pn = (ops (ith l) l.length).length := hro.2
    clear hb KO5 HB5 HO5 hown hro HR
    generalize ops (ith l) l.length = L at *
    dsimp only at *
    go_wp2_with fail
    go_loopw [7] (fun i W => ∃ k : Nat, k ≤ L.length ∧ i = .int .i64 k ∧ Hid (Below w6.heap.size w6 W)) (fun i _ => L.length - (intOf i).toNat)
    case atStart => exact ⟨0, by omega, rfl, Lib.hid (Below.refl _ _)⟩
    case round =>
      obtain ⟨k, hk, rfl, HW⟩ := hrel
      by_cases hkn : k < L.length
      · have hx := List.getElem?_eq_getElem hkn
        generalize L[k] = e at *
        obtain ⟨b1, o1, rfl, x0, x1, x2, x3, x4, x5, x6, x7, x8⟩ := (HO6.out.below HW.out).opr hx
        obtain ⟨b2, o2, rfl, y0, y1, y2, y3, y4, y5, y6, y7, y8⟩ := (HP.out.below HW.out).opr hx
        have gk : (k : Int) < L.length := by omega
        have w2 := IntWalk.i64_in ((k : Int) + 1) (by omega)
        have hq := fun w => eq_op_self e w
        obtain ⟨t, ⟨c1, c2, c3⟩, ⟨a1, a2, a3⟩, f, o⟩ := e
        dsimp only [Opr.v] at *
        clear HO6 HP hx qs
        go_wp2_with fail
        go_quiet (fail)
        have HW2 := Lib.hid (below_drewN HW.out nq)
        clear HW
        go_wp2
        go_roundw
        case rel => exact ⟨k + 1, by omega, by go_num, HW2⟩
        case measure => simp [intOf]; omega
      · obtain rfl : k = L.length := by omega
        have HB7 := Lib.hid (below_then HB6.out HW.out)
        have KL7 := KL.out wr HB7.out
        clear KL HB6 HO6 HP
        go_wp2_with fail
        refine KL7.mono ?_
        rintro x w8 ⟨rfl, hb⟩
        have HB8 := Lib.hid (below_then HB7.out hb)
        clear hb KL7 HB7
        go_wp2
        go_ret
        exact ⟨rfl, HB8.out⟩
end Go.Proofs.YtfdghlpkioednaaDoor
