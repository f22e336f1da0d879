/- Right: the picks, and all parts. -/
import Derived.Test.YtdmdmkgpnelkjaaRight
namespace Go.Proofs.Ytdmdmkgpnelkjaa
open Go.ChangeShapes Go.WideShapes Go.ChangeAt Go.RowKit
set_option linter.unusedVariables false

/-- A pick of a list. -/
theorem Reads.pick {W : World} {y : Sl} {ps : List Int} (h : Reads W y 1 (encI ps)) (k : Nat) (p : Int) (hp : ps[k]? = some p) : ∃ b off, y.a = some ⟨b, off, none⟩ ∧ W.cell? ⟨b, off + k, none⟩ = some (.int .i64 p) :=
  h.cell k _ (by simp [encI, hp])
theorem Reads.picks_len {W : World} {y : Sl} {ps : List Int} (h : Reads W y 1 (encI ps)) : y.n = ps.length := by
  have := h.len
  simp [encI] at this
  omega

set_option maxRecDepth 100000 in
set_option maxHeartbeats 8000000 in
theorem rightPicks_any (s : Sc) (x y z : Sl) (w : World) (h : SV w s x y z) : Calls Try.prog 23 #[sv s.c x y z] w fun e w' => e = .returned (.bool (rpB s.c.th s.ps)) ∧ Below w.heap.size w w' := by
  have hB : Blk (w.alloc (.cells (scs s.c x y z) 29)) w.heap.size 29 (scs s.c x y z) := Blk.new _ _ _
  have h0 : Below w.heap.size w (w.alloc (.cells (scs s.c x y z) 29)) := box1 _
  have hy := (h.below h0).hy
  have hlen := hy.picks_len
  have hroom := hy.room
  unfold maxLen at hroom
  clear h
  obtain ⟨c, ls, ps, ds⟩ := s
  obtain ⟨ya, yn, yc⟩ := y
  dsimp only at *
  subst hlen
  by_cases h6 : ps.length ≤ 60000
  case neg =>
    have e : rpB c.th ps = false := by simp [rpB, h6]
    rw [e]
    have g : (60000 : Int) < ps.length := by omega
    clear hy h6
    go_enter Try.func23, Try.ntmps23
    go_wp2
    go_ret
    exact ⟨rfl, h0⟩
  case pos =>
    have e : rpB c.th ps = ps.all fun p => decide (0 ≤ p) && decide (p < c.th) := by simp [rpB, h6]
    rw [e]
    have g : ¬ (60000 : Int) < ps.length := by omega
    have HY := Lib.hid hy
    clear hy h6 e
    go_enter Try.func23, Try.ntmps23
    go_wp2
    generalize (w.alloc (.cells (scs c x ⟨ya, ps.length, yc⟩ z) 29)) = W at *
    obtain ⟨x0, x1, x2, x3, x4, x5, x6, x7, x8, x9⟩ := hB.script
    clear hB
    go_loop [12] (fun i => ∃ k : Nat, k ≤ ps.length ∧ i = .int .i64 k ∧ Hid ((ps.take k).all (fun p => decide (0 ≤ p) && decide (p < c.th)) = true)) (fun i => ps.length - (intOf i).toNat)
    case atStart => exact ⟨0, by omega, rfl, Lib.hid rfl⟩
    case round =>
      obtain ⟨k, hk, rfl, HA⟩ := hrel
      by_cases hkn : k < ps.length
      · have hl : ps[k]? = some ps[k] := List.getElem?_eq_getElem hkn
        obtain ⟨b, off, rfl, hq⟩ := HY.out.pick k _ hl
        have gk : (k : Int) < ps.length := by omega
        have w2 := IntWalk.i64_in ((k : Int) + 1) (by omega)
        have HL := Lib.hid hl
        clear hl
        generalize ps[k] = p at *
        by_cases h1 : p < 0
        · have HE := Lib.hid (all_false k p HL.out (p := fun p => decide (0 ≤ p) && decide (p < c.th)) (by simp; omega))
          go_wp2
          go_ret
          exact ⟨ret_b HE.out, h0⟩
        by_cases h2 : c.th ≤ p
        · have HE := Lib.hid (all_false k p HL.out (p := fun p => decide (0 ≤ p) && decide (p < c.th)) (by simp; omega))
          go_wp2
          go_ret
          exact ⟨ret_b HE.out, h0⟩
        have HA2 := Lib.hid (all_take k p HL.out HA.out (p := fun p => decide (0 ≤ p) && decide (p < c.th)) (by simp; omega))
        go_wp2
        go_round
        case rel => exact ⟨k + 1, by omega, by go_num, HA2⟩
        case measure => simp [intOf]; omega
      · obtain rfl : k = ps.length := by omega
        have HE := Lib.hid (show (ps.all fun p => decide (0 ≤ p) && decide (p < c.th)) = true by have e := HA.out; rwa [List.take_length] at e)
        clear HA
        go_wp2
        go_ret
        exact ⟨ret_b HE.out, h0⟩

/-! ### Right -/
open Classical in
noncomputable def okB (c : Cf) : Bool := decide c.Ok
theorem okB_t {c : Cf} (h : c.Ok) : okB c = true := by simp [okB, h]
theorem okB_f {c : Cf} (h : ¬ c.Ok) : okB c = false := by simp [okB, h]
/-- May a script be? -/
noncomputable def rightS (s : Sc) : Bool := okB s.c && (rcB s.c.th s.ls && (rpB s.c.th s.ps && decide (s.ds.length ≤ 4096)))

set_option maxRecDepth 100000 in
set_option maxHeartbeats 8000000 in
theorem rightS_any (s : Sc) (x y z : Sl) (w : World) (h : SV w s x y z) (ht : tot s.ls ≤ 1000000) : Calls Try.prog 12 #[sv s.c x y z] w fun e w' => e = .returned (.bool (rightS s)) ∧ Below w.heap.size w w' := by
  have hB : Blk (w.alloc (.cells (scs s.c x y z) 29)) w.heap.size 29 (scs s.c x y z) := Blk.new _ _ _
  have h0 : Below w.heap.size w (w.alloc (.cells (scs s.c x y z) 29)) := box1 _
  have KC := fun W (hb : Below w.heap.size w W) => rightCalls_any s x y z W (h.below hb) ht
  have KP := fun W (hb : Below w.heap.size w W) => rightPicks_any s x y z W (h.below hb)
  have hlen := h.hz.len
  by_cases hk : s.c.Ok
  case neg =>
    have HE := Lib.hid (show rightS s = false by simp [rightS, okB_f hk])
    have KB := fun W => check_bad s.c W hk
    obtain ⟨c, ls, ps, ds⟩ := s
    dsimp only at *
    clear h KC KP hk
    go_enter Try.func12, Try.ntmps12
    go_wp2_with fail
    refine (KB _).mono ?_
    rintro e w1 ⟨rfl, hb⟩
    have HF := Lib.hid (below_then h0 hb (Nat.le_refl _))
    clear hb KB h0
    go_wp2
    go_ret
    exact ⟨ret_b HE.out, HF.out⟩
  case pos =>
    have KB := fun W => check_ok s.c W hk
    have hr : rightS s = (rcB s.c.th s.ls && (rpB s.c.th s.ps && decide (s.ds.length ≤ 4096))) := by simp [rightS, okB_t hk]
    obtain ⟨c, ls, ps, ds⟩ := s
    obtain ⟨za, zn, zc'⟩ := z
    dsimp only at *
    subst hlen
    rw [hr]
    clear h hk hr
    generalize rcB c.th ls = r at *
    generalize rpB c.th ps = q at *
    go_enter Try.func12, Try.ntmps12
    go_wp2_with fail
    refine (KB _).mono ?_
    rintro e w1 ⟨rfl, hb⟩
    have hB1 := hB.below hb hB.lt
    have hb1 := below_then h0 hb (Nat.le_refl _)
    clear hb KB h0 hB
    obtain ⟨x0, x1, x2, x3, x4, x5, x6, x7, x8, x9⟩ := hB1.script
    dsimp only at x9
    go_wp2_with fail
    refine (KC _ hb1).mono ?_
    rintro e w2 ⟨rfl, hb⟩
    have hB2 := hB1.below hb hB1.lt
    have hb2 := below_then hb1 hb (Nat.le_refl _)
    clear hb KC hb1 hB1 x0 x1 x2 x3 x4 x5 x6 x7 x8 x9
    obtain ⟨x0, x1, x2, x3, x4, x5, x6, x7, x8, x9⟩ := hB2.script
    dsimp only at x9
    cases r with
    | false =>
      go_wp2
      go_ret
      exact ⟨rfl, hb2⟩
    | true =>
      go_wp2_with fail
      refine (KP _ hb2).mono ?_
      rintro e w3 ⟨rfl, hb⟩
      have hB3 := hB2.below hb hB2.lt
      have hb3 := below_then hb2 hb (Nat.le_refl _)
      clear hb KP hb2 hB2 x0 x1 x2 x3 x4 x5 x6 x7 x8 x9
      obtain ⟨x0, x1, x2, x3, x4, x5, x6, x7, x8, x9⟩ := hB3.script
      dsimp only at x9
      cases q with
      | false =>
        go_wp2
        go_ret
        exact ⟨rfl, hb3⟩
      | true =>
        by_cases h4 : ds.length ≤ 4096
        · have HE := Lib.hid (show (true && (true && decide (ds.length ≤ 4096))) = true by simp [h4])
          have g : (ds.length : Int) ≤ 4096 := by omega
          clear h4
          go_wp2
          go_ret
          exact ⟨ret_b HE.out, hb3⟩
        · have HE := Lib.hid (show (true && (true && decide (ds.length ≤ 4096))) = false by simp [h4])
          have g : ¬ (ds.length : Int) ≤ 4096 := by omega
          clear h4
          go_wp2
          go_ret
          exact ⟨ret_b (HE.out.trans (by simp; omega)), hb3⟩
end Go.Proofs.Ytdmdmkgpnelkjaa
