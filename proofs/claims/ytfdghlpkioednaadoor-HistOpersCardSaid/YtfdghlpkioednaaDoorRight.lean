/- Right, by the program. -/
import Derived.Test.YtfdghlpkioednaaDoorMethods
namespace Go.Proofs.YtfdghlpkioednaaDoor
open Go.ChangeShapes Go.WideShapes Go.ChangeAt Go.RowKit
set_option linter.unusedVariables false

theorem ret_b {a b : Bool} (h : a = b) : Ending.returned (.bool b) = .returned (.bool a) := by rw [h]
/-- Amid Right: the map tells who is busy behind k events. -/
structure RtS (w : World) (l : List Ev) (k : Nat) (W : World) : Prop where
  hm : MapAt W w.heap.size k (cur (ith l) k)
  bel : Below w.heap.size w W
  ok : rightN (ith l) k = true
theorem RtS.start (w : World) (l : List Ev) : RtS w l 0 (w.alloc (.map #[] 0)) := ⟨MapAt.made w, box1 _, rfl⟩
theorem RtS.below {w : World} {l : List Ev} {k : Nat} {W W' : World} (h : RtS w l k W) (hb : Below W.heap.size W W') : RtS w l k W' := ⟨h.hm.below hb, below_then h.bel hb, h.ok⟩
theorem RtS.next {w : World} {l : List Ev} {k : Nat} {W W' : World} (h : RtS w l k W) (hb : bareE (ith l k) = true) (he : errC (cur (ith l) k (ith l k).t) (ith l k) = 0) (hk : Keeps (fun j => j = w.heap.size) W W')
    (hm : MapAt W' w.heap.size (k + 1) (stepF (cur (ith l) k) (ith l k))) : RtS w l (k + 1) W' := by
  refine ⟨hm.congr fun t => (cur_succ (ith l) k t).symm, ?_, rightN_succ.2 ⟨h.ok, ?_⟩⟩
  · have h2 : Below w.heap.size W W' := hk.below h.bel.size (fun j hj => by omega)
    exact h.bel.trans h2
  · simp only [okE, errE, he, hb]
    rfl
theorem RtS.bad_bel {w : World} {l : List Ev} {k : Nat} {W W' : World} (h : RtS w l k W) (hk : Keeps (fun j => j = w.heap.size) W W') : Below w.heap.size w W' :=
  h.bel.trans (hk.below h.bel.size (fun j hj => by omega))
theorem ok_bare {l : List Ev} {k : Nat} (h : bareE (ith l k) = false) : okE (ith l) k = false := by simp [okE, h]
theorem ok_err {l : List Ev} {k : Nat} {r : Int} (h : errC (cur (ith l) k (ith l k).t) (ith l k) = r) (h0 : r ≠ 0) : okE (ith l) k = false := by simp [okE, errE, h, h0]

set_option maxRecDepth 100000 in
set_option maxHeartbeats 8000000 in
theorem hright_any (s : Sl) (l : List Ev) (w : World) (h : Reads w s 8 (encE l)) (ht : ∀ e ∈ l, I64 e.t) : Calls Tryd.prog 14 #[.slice s.a s.n s.cap] w fun x w' => x = .returned (.bool (rightN (ith l) l.length)) ∧ Below w.heap.size w w' := by
  have hn := h.lenE
  have hroom := h.room
  unfold maxLen at hroom
  have HR := Lib.hid h
  have S0 := Lib.hid (RtS.start w l)
  have HT := Lib.hid ht
  clear h ht
  obtain ⟨sa, sn, sc⟩ := s
  dsimp only at *
  subst hn
  have hmm := @run_makeMap Tryd.prog
  go_enter Tryd.func14, Tryd.ntmps14
  go_wp2_with fail
  go_loopw [9] (fun i W => ∃ k : Nat, k ≤ l.length ∧ i = .int .i64 k ∧ Hid (RtS w l k W)) (fun i _ => l.length - (intOf i).toNat)
  case atStart => exact ⟨0, by omega, rfl, S0⟩
  case round =>
    clear S0
    obtain ⟨k, hk, rfl, HS⟩ := hrel
    by_cases hkn : k < l.length
    · obtain ⟨b, off, rfl, hq⟩ := (HR.out.below HS.out.bel).ev hkn
      have hI := HT.out _ (List.mem_of_getElem? (ith_lt hkn))
      have gk : (k : Int) < l.length := by omega
      have w2 := IntWalk.i64_in ((k : Int) + 1) (by omega)
      have HBF := Lib.hid fun (h : okE (ith l) k = false) => rightN_false h hkn
      have HN := Lib.hid fun W1 W' h0 h1 h2 h3 h4 => RtS.next (w := w) (l := l) (k := k) (W := W1) (W' := W') h0 h1 h2 h3 h4
      have HOB := Lib.hid fun h => ok_bare (l := l) (k := k) h
      have HOE := Lib.hid fun r h h0 => ok_err (l := l) (k := k) (r := r) h h0
      generalize ith l k = e at *
      have HSX := Lib.hid (HS.out.below (box1 (.cells e.cs 34)))
      have HX := Lib.hid (Blk.new wr 34 e.cs)
      have KB := bare_any e
      have HF := Lib.hid fun W g n f => follow_any W g n f e hI
      obtain ⟨x0, x1, x2, x3, x4, x5, x6, x7⟩ := hq
      generalize hbr : bareE e = br at *
      obtain ⟨t, b', c, a⟩ := e
      obtain ⟨o1, k1, v1⟩ := c
      obtain ⟨o2, k2, v2⟩ := a
      dsimp only [Ev.v, Ev.cs] at *
      clear HR HT hI
      go_wp2_with fail
      refine (KB _).mono ?_
      rintro x w1 ⟨rfl, hb⟩
      have HS1 := Lib.hid (HSX.out.below hb)
      have hX1 := HX.out.below hb HX.out.lt
      clear hb KB HSX HX x0 x1 x2 x3 x4 x5 x6 x7
      cases br with
      | false =>
        have HE := Lib.hid (HBF.out (HOB.out rfl))
        clear hX1 HF HN HOB HOE HBF HS
        go_wp2
        go_ret
        exact ⟨ret_b HE.out, HS1.out.bel⟩
      | true =>
        obtain ⟨x0, x1, x2, x3, x4, x5, x6, x7⟩ := Blk.ev (e := ⟨t, b', ⟨o1, k1, v1⟩, ⟨o2, k2, v2⟩⟩) hX1
        simp only [Nat.zero_add] at x0 x1 x2 x3 x4 x5 x6 x7
        have KF := HF.out w1 w.heap.size k _ (by unfold maxLen; omega) HS1.out.hm
        clear hX1 HF HOB HS
        go_wp2_with fail
        refine KF.mono ?_
        rintro x w3 ⟨rfl, hk3, hm3⟩
        clear KF x0 x1 x2 x3 x4 x5 x6 x7
        generalize hr : errC (cur (ith l) k t) ⟨t, b', ⟨o1, k1, v1⟩, ⟨o2, k2, v2⟩⟩ = r at *
        by_cases h0 : r = 0
        · subst h0
          rw [if_pos rfl] at hm3
          have HS3 := Lib.hid (HN.out _ _ HS1.out (by trivial) (by trivial) hk3 hm3)
          clear hm3 hk3 HOE HBF HS1 HN
          go_wp2
          go_roundw
          case rel => exact ⟨k + 1, by omega, by go_num, HS3⟩
          case measure => simp [intOf]; omega
        · have HE := Lib.hid (HBF.out (HOE.out r rfl h0))
          have HL := Lib.hid (HS1.out.bad_bel hk3)
          have hr1 := beq_f h0
          clear hm3 hk3 HOE HBF HS1
          go_wp2
          go_ret
          exact ⟨ret_b HE.out, HL.out⟩
    · obtain rfl : k = l.length := by omega
      have HE := Lib.hid HS.out.ok
      have HF := Lib.hid HS.out.bel
      clear HS
      go_wp2
      go_ret
      exact ⟨ret_b HE.out, HF.out⟩
end Go.Proofs.YtfdghlpkioednaaDoor
