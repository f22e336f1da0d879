/- Right, by the document; whether a thread is busy, by the law; whether two lists of events are the same. -/
import Derived.Test.YtfdghlpkioednaaDoorMay
namespace Go.Proofs.YtfdghlpkioednaaDoor
open Go.ChangeShapes Go.WideShapes Go.ChangeAt Go.RowKit
set_option linter.unusedVariables false

set_option maxRecDepth 100000 in
set_option maxHeartbeats 8000000 in
theorem rright_any (s : Sl) (l : List Ev) (w : World) (h : Reads w s 8 (encE l)) : Calls Tryd.prog 16 #[.slice s.a s.n s.cap] w fun x w' => x = .returned (.bool (rightN (ith l) l.length)) ∧ Below w.heap.size w w' := by
  have hn := h.lenE
  have hroom := h.room
  unfold maxLen at hroom
  have HR := Lib.hid h
  clear h
  have KM := fun W hb k hk => may_any s l W (h := HR.out.below (V := W) hb) k hk
  obtain ⟨sa, sn, sc⟩ := s
  dsimp only at *
  subst hn
  have HM := Lib.hid KM
  clear KM
  go_enter Tryd.func16, Tryd.ntmps16
  go_wp2_with fail
  go_loopw [3] (fun i W => ∃ k : Nat, k ≤ l.length ∧ i = .int .i64 k ∧ Hid (rightN (ith l) k = true) ∧ Hid (Below w.heap.size w W)) (fun i _ => l.length - (intOf i).toNat)
  case atStart => exact ⟨0, by omega, rfl, Lib.hid rfl, Lib.hid (Below.refl _ _)⟩
  case round =>
    obtain ⟨k, hk, rfl, HS, HB⟩ := hrel
    by_cases hkn : k < l.length
    · have KM := HM.out wr HB.out k hkn
      have gk : (k : Int) < l.length := by omega
      have w2 := IntWalk.i64_in ((k : Int) + 1) (by omega)
      have HBF := Lib.hid fun (h : okE (ith l) k = false) => rightN_false h hkn
      have HN := Lib.hid fun h => rightN_succ.2 ⟨HS.out, h⟩
      have ho : okE (ith l) k = (errE (ith l) k (ith l k) == 0 && bareE (ith l k)) := rfl
      rw [ho] at HBF HN
      clear ho
      obtain ⟨b, off, rfl, _⟩ := HR.out.ev hkn
      have HEV := Lib.hid fun W hb => (HR.out.below (V := W) hb).ev hkn
      generalize errE (ith l) k (ith l k) = r at *
      generalize ith l k = e at *
      clear HM HS
      go_wp2_with fail
      refine KM.mono ?_
      rintro x w3 ⟨rfl, hb⟩
      have HB3 := Lib.hid (below_then HB.out hb)
      clear KM hb HB
      by_cases hr : r = 0
      · subst hr
        obtain ⟨b2, off2, hb2, x0, x1, x2, x3, x4, x5, x6, x7⟩ := HEV.out w3 HB3.out
        simp only [Option.some.injEq, Addr.mk.injEq] at hb2
        obtain ⟨rfl, rfl, _⟩ := hb2
        obtain ⟨t, b', c, a⟩ := e
        clear HEV
        cases b' with
        | true =>
          have hq := fun w => eq_call 30 (.inl rfl) c zt w
          have hd : bareE ⟨t, true, c, a⟩ = (c.op == 0 && c.key == 0 && c.val == 0) := rfl
          rw [hd] at HBF HN
          clear hd
          generalize (c.op == 0 && c.key == 0 && c.val == 0) = x at *
          obtain ⟨o1, k1, v1⟩ := c
          obtain ⟨o2, k2, v2⟩ := a
          dsimp only [Tri.v] at *
          cases x with
          | true =>
            have HN2 := Lib.hid (HN.out rfl)
            clear HN HBF
            go_wp2
            go_roundw
            case rel => exact ⟨k + 1, by omega, by go_num, HN2, HB3⟩
            case measure => simp [intOf]; omega
          | false =>
            have HE := Lib.hid (HBF.out rfl)
            clear HN HBF
            go_wp2
            go_ret
            exact ⟨ret_b HE.out, HB3.out⟩
        | false =>
          have hq := fun w => eq_call 32 (.inr rfl) a zt w
          have hd : bareE ⟨t, false, c, a⟩ = (a.op == 0 && a.key == 0 && a.val == 0) := rfl
          rw [hd] at HBF HN
          clear hd
          generalize (a.op == 0 && a.key == 0 && a.val == 0) = x at *
          obtain ⟨o1, k1, v1⟩ := c
          obtain ⟨o2, k2, v2⟩ := a
          dsimp only [Tri.v] at *
          cases x with
          | true =>
            have HN2 := Lib.hid (HN.out rfl)
            clear HN HBF
            go_wp2
            go_roundw
            case rel => exact ⟨k + 1, by omega, by go_num, HN2, HB3⟩
            case measure => simp [intOf]; omega
          | false =>
            have HE := Lib.hid (HBF.out rfl)
            clear HN HBF
            go_wp2
            go_ret
            exact ⟨ret_b HE.out, HB3.out⟩
      · have hr1 := beq_f hr
        have HE := Lib.hid (HBF.out (by rw [hr1]; rfl))
        clear HN HBF HEV
        go_wp2
        go_ret
        exact ⟨ret_b HE.out, HB3.out⟩
    · obtain rfl : k = l.length := by omega
      have HE := Lib.hid HS.out
      clear HS
      go_wp2
      go_ret
      exact ⟨ret_b HE.out, HB.out⟩

/-- The last event of a thread is a call that begins. -/
def lastB (E : Nat → Ev) : Nat → Int → Bool
  | 0, _ => false
  | n + 1, t => if (E n).t = t then !(E n).b else lastB E n t
theorem lastB_cur (E : Nat → Ev) (n : Nat) (t : Int) : lastB E n t = (cur E n t).isSome := by
  induction n with
  | zero => rfl
  | succ n ih =>
    rw [lastB, cur_succ, ih]
    split
    · cases (E n).b <;> rfl
    · rfl
set_option maxRecDepth 100000 in
set_option maxHeartbeats 4000000 in
theorem lbusy_any (s : Sl) (l : List Ev) (w : World) (h : Reads w s 8 (encE l)) (t : Int) : Calls Tryd.prog 11 #[.slice s.a s.n s.cap, .int .i64 t] w fun x w' => x = .returned (.bool (cur (ith l) l.length t).isSome) ∧ w' = w := by
  rw [← lastB_cur]
  have hn := h.lenE
  have hroom := h.room
  unfold maxLen at hroom
  have HR := Lib.hid h
  clear h
  obtain ⟨sa, sn, sc⟩ := s
  dsimp only at *
  subst hn
  go_enter Tryd.func11, Tryd.ntmps11
  go_wp2_with fail
  go_loop [5, 6] (fun b i => ∃ k : Nat, k ≤ l.length ∧ i = .int .i64 k ∧ b = .bool (lastB (ith l) k t)) (fun _ i => l.length - (intOf i).toNat)
  case atStart => exact ⟨0, by omega, rfl, rfl⟩
  case round =>
    obtain ⟨k, hk, rfl, rfl⟩ := hrel
    by_cases hkn : k < l.length
    · obtain ⟨b, off, rfl, hq⟩ := HR.out.ev hkn
      have gk : (k : Int) < l.length := by omega
      have w2 := IntWalk.i64_in ((k : Int) + 1) (by omega)
      have hl : lastB (ith l) (k + 1) t = if (ith l k).t = t then !(ith l k).b else lastB (ith l) k t := rfl
      clear HR
      obtain ⟨x0, x1, x2, x3, x4, x5, x6, x7⟩ := hq
      generalize ith l k = e at *
      obtain ⟨t', b', c, a⟩ := e
      dsimp only at *
      by_cases ht : t' = t
      · subst ht
        rw [if_pos rfl] at hl
        have HL := Lib.hid hl
        clear hl
        go_wp2
        go_round
        case rel => exact ⟨k + 1, by omega, by go_num, by rw [HL.out]⟩
        case measure => simp [intOf]; omega
      · have ht1 := beq_f ht
        rw [if_neg ht] at hl
        have HL := Lib.hid hl
        clear hl
        go_wp2
        go_round
        case rel => exact ⟨k + 1, by omega, by go_num, by rw [HL.out]⟩
        case measure => simp [intOf]; omega
    · obtain rfl : k = l.length := by omega
      go_wp2
      go_ret
      exact ⟨rfl, rfl⟩

theorem eq_ev (e d : Ev) (w : World) : (Op.equalIn 10000 34 e.v d.v).run Tryd.prog w = .ok (e.t == d.t && e.b == d.b && (e.c.op == d.c.op && e.c.key == d.c.key && e.c.val == d.c.val) && (e.a.op == d.a.op && e.a.key == d.a.key && e.a.val == d.a.val)) w := by
  obtain ⟨t1, b1, ⟨c1, c2, c3⟩, ⟨a1, a2, a3⟩⟩ := e
  obtain ⟨t2, b2, ⟨d1, d2, d3⟩, ⟨f1, f2, f3⟩⟩ := d
  simp [go_sem]
  by_cases h1 : t1 = t2 <;> by_cases h2 : b1 = b2 <;> by_cases h3 : c1 = d1 <;> by_cases h4 : c2 = d2 <;> by_cases h5 : c3 = d3 <;> by_cases h6 : a1 = f1 <;> by_cases h7 : a2 = f2 <;> by_cases h8 : a3 = f3 <;> simp [h1, h2, h3, h4, h5, h6, h7, h8]
theorem eq_ev_self (e : Ev) (w : World) : (Op.equalIn 10000 34 e.v e.v).run Tryd.prog w = .ok true w := by rw [eq_ev]; simp
end Go.Proofs.YtfdghlpkioednaaDoor
