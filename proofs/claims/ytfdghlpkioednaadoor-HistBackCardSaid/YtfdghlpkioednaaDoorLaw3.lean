/- HistBack: the walk. -/
import Derived.Test.YtfdghlpkioednaaDoorLaw2
namespace Go.Proofs.YtfdghlpkioednaaDoor
open Go.ChangeShapes Go.WideShapes Go.ChangeAt Go.RowKit
set_option linter.unusedVariables false

set_option maxRecDepth 100000 in
set_option maxHeartbeats 8000000 in
theorem law_back (s : Sl) (l : List Ev) (t : Int) (w : World) (h : Reads w s 8 (encE l)) (hf : ∀ e ∈ l, FitE e) (ht : Tab w) :
    Calls Tryd.prog 5 #[.slice s.a s.n s.cap, .int .i64 t] w fun e w' => e = .returned (.bool true) ∧ Below w.heap.size w w' := by
  have hn := h.lenE
  have hroom := h.room
  unfold maxLen at hroom
  by_cases hlen : 200 < l.length
  · have gl : (200 : Int) < l.length := by omega
    have KL := lives_any w ht
    clear h ht
    obtain ⟨sa, sn, sc⟩ := s
    dsimp only at *
    subst hn
    go_enter Tryd.func5, Tryd.ntmps5
    go_wp2_with fail
    refine KL.mono ?_
    rintro x w1 ⟨rfl, hb⟩
    have HB := Lib.hid hb
    clear hb KL
    go_wp2
    go_ret
    exact ⟨rfl, HB.out⟩
  have gl : ¬ (200 : Int) < l.length := by omega
  have HI : ∀ e ∈ l, I64 e.t := fun e he => (hf e he).t
  have HR := Lib.hid fun W hb => h.below (V := W) hb
  have KL := Lib.hid fun W (hb : Below w.heap.size w W) => lives_any W (tab_below ht hb)
  have KI := fun W => invoke_nil W t zt
  have KR := fun W => respond_nil W t zt
  have KB := fun W => busy_nil W t
  have KE := fun W => events_nil W
  cases hr : rightN (ith l) l.length with
  | false =>
    have KO := Lib.hid fun W hb => opers_bad s l W (h.below hb) HI hr
    clear h hf ht HI hr HR
    obtain ⟨sa, sn, sc⟩ := s
    dsimp only at *
    subst hn
    go_enter Tryd.func5, Tryd.ntmps5
    go_wp2_with fail
    refine (KI _).mono ?_
    rintro x w1 ⟨rfl, hb⟩
    have HB := Lib.hid hb
    clear hb KI
    go_wp2_with fail
    refine (KR _).mono ?_
    rintro x w2 ⟨rfl, hb⟩
    have HB2 := Lib.hid (below_then HB.out hb)
    clear hb KR HB
    go_wp2_with fail
    refine (KB _).mono ?_
    rintro x w3 ⟨rfl, rfl⟩
    clear KB
    go_wp2_with fail
    refine (KE _).mono ?_
    rintro x w4 ⟨rfl, rfl⟩
    clear KE
    have KO4 := KO.out _ HB2.out
    clear KO
    go_wp2_with fail
    refine KO4.mono ?_
    rintro x w5 ⟨rfl, hb⟩
    have HB5 := Lib.hid (below_then HB2.out hb)
    have KL5 := KL.out w5 HB5.out
    clear hb KO4 KL HB2
    go_wp2_with fail
    refine KL5.mono ?_
    rintro x w6 ⟨rfl, hb⟩
    have HB6 := Lib.hid (below_then HB5.out hb)
    clear hb KL5 HB5
    go_wp2
    go_ret
    exact ⟨rfl, HB6.out⟩
  | true =>
    have KO := Lib.hid fun W hb => opers_good s l W (h.below hb) HI hr (by omega)
    have KV := Lib.hid fun (q : Sl) W hq => refEvents_any q (ops (ith l) l.length) l W hq (by rw [ops_len]; exact Nat.le_trans beg_len (by omega)) (by omega) (ops_count hr) (fun k hk => told_ops hr hk)
    clear h hf ht HI hr
    obtain ⟨sa, sn, sc⟩ := s
    dsimp only at *
    subst hn
    go_enter Tryd.func5, Tryd.ntmps5
    go_wp2_with fail
    refine (KI _).mono ?_
    rintro x w1 ⟨rfl, hb⟩
    have HB := Lib.hid hb
    clear hb KI
    go_wp2_with fail
    refine (KR _).mono ?_
    rintro x w2 ⟨rfl, hb⟩
    have HB2 := Lib.hid (below_then HB.out hb)
    clear hb KR HB
    go_wp2_with fail
    refine (KB _).mono ?_
    rintro x w3 ⟨rfl, rfl⟩
    clear KB
    go_wp2_with fail
    refine (KE _).mono ?_
    rintro x w4 ⟨rfl, rfl⟩
    clear KE
    have KO4 := KO.out _ HB2.out
    clear KO
    go_wp2_with fail
    refine KO4.mono ?_
    rintro x w5 ⟨⟨oa, on, oc⟩, rfl, hown, hb⟩
    have HB5 := Lib.hid (below_then HB2.out hb)
    have KV5 := KV.out ⟨oa, on, oc⟩ w5 (Reads.of_own (s := ⟨oa, on, oc⟩) hown).1
    clear hb KO4 KV HB2 hown
    go_wp2_with fail
    refine KV5.mono ?_
    rintro x w6 ⟨⟨pa, pn, pc⟩, rfl, hown, hb⟩
    have HB6 := Lib.hid (below_then HB5.out hb)
    have KS := same_any ⟨pa, pn, pc⟩ ⟨sa, l.length, sc⟩ l w6 (Reads.of_own (s := ⟨pa, pn, pc⟩) hown).1 (HR.out w6 HB6.out)
    clear hb KV5 HB5 hown HR
    go_wp2_with fail
    refine KS.mono ?_
    rintro x w7 ⟨rfl, hb⟩
    have HB7 := Lib.hid (below_then HB6.out hb)
    have KL7 := KL.out w7 HB7.out
    clear hb KS KL HB6
    go_wp2_with fail
    refine KL7.mono ?_
    rintro x w8 ⟨rfl, hb⟩
    have HB8 := Lib.hid (below_then HB7.out hb)
    clear hb KL7 HB7
    go_wp2
    go_ret
    exact ⟨rfl, HB8.out⟩
end Go.Proofs.YtfdghlpkioednaaDoor
