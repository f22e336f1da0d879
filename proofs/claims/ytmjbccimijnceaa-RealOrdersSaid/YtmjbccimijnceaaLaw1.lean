/- RealOrders: the walk. -/
import Derived.Test.YtmjbccimijnceaaLives
namespace Go.Proofs.Ytmjbccimijnceaa
open Go.ChangeShapes Go.WideShapes Go.ChangeAt Go.RowKit
set_option linter.unusedVariables false
set_option linter.unusedSimpArgs false

/-- Amid a round of the law's loop. -/
structure AtL (w : World) (b off k : Nat) (v z : Opr) (W : World) : Prop where
  bel : Below w.heap.size w W
  p1 : OpAt W b (off + k * 9) v
  p2 : OpAt W b off z
theorem AtL.below {w : World} {b off k : Nat} {v z : Opr} {W V : World} (h : AtL w b off k v z W) (hb : Below W.heap.size W V) : AtL w b off k v z V :=
  ⟨below_then h.bel hb, h.p1.below hb, h.p2.below hb⟩
theorem AtL.cells {w : World} {b off k : Nat} {v z : Opr} {W : World} (h : AtL w b off k v z W) :
    W.cell? ⟨b, off + k * 9, none⟩ = some (.int .i64 v.t) ∧ W.cell? ⟨b, off + k * 9 + 1, none⟩ = some (.int .i64 v.c.op) ∧ W.cell? ⟨b, off + k * 9 + 2, none⟩ = some (.int .u32 v.c.key) ∧ W.cell? ⟨b, off + k * 9 + 3, none⟩ = some (.int .u32 v.c.val) ∧
    W.cell? ⟨b, off + k * 9 + 4, none⟩ = some (.int .i64 v.a.op) ∧ W.cell? ⟨b, off + k * 9 + 5, none⟩ = some (.int .u32 v.a.key) ∧ W.cell? ⟨b, off + k * 9 + 6, none⟩ = some (.int .u32 v.a.val) ∧ W.cell? ⟨b, off + k * 9 + 7, none⟩ = some (.int .i64 v.f) ∧ W.cell? ⟨b, off + k * 9 + 8, none⟩ = some (.int .i64 v.o) ∧
    W.cell? ⟨b, off, none⟩ = some (.int .i64 z.t) ∧ W.cell? ⟨b, off + 1, none⟩ = some (.int .i64 z.c.op) ∧ W.cell? ⟨b, off + 2, none⟩ = some (.int .u32 z.c.key) ∧ W.cell? ⟨b, off + 3, none⟩ = some (.int .u32 z.c.val) ∧
    W.cell? ⟨b, off + 4, none⟩ = some (.int .i64 z.a.op) ∧ W.cell? ⟨b, off + 5, none⟩ = some (.int .u32 z.a.key) ∧ W.cell? ⟨b, off + 6, none⟩ = some (.int .u32 z.a.val) ∧ W.cell? ⟨b, off + 7, none⟩ = some (.int .i64 z.f) ∧ W.cell? ⟨b, off + 8, none⟩ = some (.int .i64 z.o) := by
  obtain ⟨x0, x1, x2, x3, x4, x5, x6, x7, x8⟩ := h.p1
  obtain ⟨y0, y1, y2, y3, y4, y5, y6, y7, y8⟩ := h.p2
  exact ⟨x0, x1, x2, x3, x4, x5, x6, x7, x8, y0, y1, y2, y3, y4, y5, y6, y7, y8⟩

set_option maxRecDepth 100000 in
set_option maxHeartbeats 4000000 in
theorem law_orders (y s : Sl) (l : List Opr) (order : List Int) (w : World) (hy : Reads w y 9 (encO l)) (hs : Reads w s 1 (ints order)) :
    Calls Try.prog 3 #[y.v, s.v] w fun e w' => e = .returned (.bool true) ∧ Below w.heap.size w w' := by
  have hny := hy.lenO
  have hns := hs.lenI
  have hroom := hs.room
  have hroomy := hy.room
  simp only [maxLen] at hroom hroomy
  have KL := Lib.hid fun W => lives_any W
  obtain ⟨b0, hb0⟩ : ∃ b0 : Bool, b0 = true ↔ Mays l order := by classical exact ⟨decide (Mays l order), by simp⟩
  have KM := Lib.hid fun (h1 : l.length ≤ 60) (h2 : order.length ≤ 60) W (hb : Below w.heap.size w W) =>
    (may_any y s l order W (hy.below hb) (hs.below hb) (by omega)).mono fun e w' h => mayed_is hb0 h
  have KR := Lib.hid fun (h1 : l.length ≤ 60) (h2 : order.length ≤ 60) W (hb : Below w.heap.size w W) =>
    (refMay_any y s l order W (hy.below hb) (hs.below hb) (by omega) (by omega)).mono fun e w' h => mayed_is hb0 h
  have HY := Lib.hid hy
  obtain ⟨ya, yn, yc⟩ := y
  obtain ⟨sa, sn, sc⟩ := s
  simp only at hny hns hroom hroomy
  subst hny hns
  clear hy hs hb0
  simp only [Sl.v] at *
  by_cases h1 : 60 < l.length
  · have g1 : decide ((l.length : Int) > 60) = true := by simp; omega
    go_enter Try.func3, Try.ntmps3
    go_wp2_with (go_at_call 5; refine (KL.out _).mono ?_; rintro e w1 ⟨rfl, hb1⟩)
    go_ret
    exact ⟨rfl, hb1⟩
  have g1 : decide ((l.length : Int) > 60) = false := by simp; omega
  by_cases h2 : 60 < order.length
  · have g2 : decide ((order.length : Int) > 60) = true := by simp; omega
    go_enter Try.func3, Try.ntmps3
    go_wp2_with (go_at_call 5; refine (KL.out _).mono ?_; rintro e w1 ⟨rfl, hb1⟩)
    go_ret
    exact ⟨rfl, hb1⟩
  have g2 : decide ((order.length : Int) > 60) = false := by simp; omega
  have KM' := Lib.hid (KM.out (by omega) (by omega))
  have KR' := Lib.hid (KR.out (by omega) (by omega))
  clear KM KR
  go_enter Try.func3, Try.ntmps3
  go_wp2_with fail
  go_loopw [5] (fun i W => ∃ k : Nat, k ≤ l.length ∧ i = .int .i64 k ∧ Below w.heap.size w W) (fun i _ => l.length - (intOf i).toNat)
  case atStart => exact ⟨0, by omega, rfl, Below.refl _ _⟩
  case round =>
    obtain ⟨k, hk, rfl, HB⟩ := hrel
    by_cases hlt : k < l.length
    · have gk : (k : Int) < l.length := by omega
      have g0 : (0 : Int) < l.length := by omega
      have gn : 0 < l.length := by omega
      have n0 : decide (l.length ≤ 0) = false := decide_eq_false (by omega)
      have nk : decide (l.length ≤ k) = false := decide_eq_false (by omega)
      obtain ⟨b, off, ea, hopk⟩ := (HY.out.below HB).opr (ith_lt hlt)
      obtain ⟨b', off', ea', hop0⟩ := (HY.out.below HB).opr (ith_lt (show 0 < l.length by omega))
      simp only at ea ea'
      rw [ea] at ea'
      simp only [Option.some.injEq, Addr.mk.injEq] at ea'
      obtain ⟨rfl, rfl, -⟩ := ea'
      subst ea
      simp only [Nat.zero_mul, Nat.add_zero] at hop0
      have S0 : AtL w b off k (ith l k) (ith l 0) wr.drew := AtL.below ⟨HB, hopk, hop0⟩ (below_drew (Below.refl _ _))
      have KA1 := Lib.hid fun W => ahead_any (ith l k) (ith l 0) W
      have KA2 := Lib.hid fun W => ahead_any (ith l 0) (ith l k) W
      have KA3 := Lib.hid fun W => refAhead_any (ith l k) (ith l 0) W
      have KA4 := Lib.hid fun W => refAhead_any (ith l 0) (ith l k) W
      clear hopk hop0 KM' KR' KL HY HB h1 h2 g1 g2
      generalize ith l k = e2 at *
      generalize ith l 0 = e1 at *
      obtain ⟨vt, ⟨v1, v2, v3⟩, ⟨v4, v5, v6⟩, vf, vo⟩ := e2
      obtain ⟨zt0, ⟨z1, z2, z3⟩, ⟨z4, z5, z6⟩, zf, zo0⟩ := e1
      generalize ahd ⟨vt, ⟨v1, v2, v3⟩, ⟨v4, v5, v6⟩, vf, vo⟩ ⟨zt0, ⟨z1, z2, z3⟩, ⟨z4, z5, z6⟩, zf, zo0⟩ = c1 at *
      generalize ahd ⟨zt0, ⟨z1, z2, z3⟩, ⟨z4, z5, z6⟩, zf, zo0⟩ ⟨vt, ⟨v1, v2, v3⟩, ⟨v4, v5, v6⟩, vf, vo⟩ = c2 at *
      have q1 : (c1 != c1) = false := by simp
      have q2 : (c2 != c2) = false := by simp
      dsimp only [Opr.v] at *
      go_wp2_with fail
      refine wp_region_held_drew (S := fun W => W.cell? ⟨b, off + k * 9, none⟩ = some (.int .i64 vt) ∧ W.cell? ⟨b, off + k * 9 + 1, none⟩ = some (.int .i64 v1) ∧ W.cell? ⟨b, off + k * 9 + 2, none⟩ = some (.int .u32 v2) ∧ W.cell? ⟨b, off + k * 9 + 3, none⟩ = some (.int .u32 v3) ∧ W.cell? ⟨b, off + k * 9 + 4, none⟩ = some (.int .i64 v4) ∧ W.cell? ⟨b, off + k * 9 + 5, none⟩ = some (.int .u32 v5) ∧ W.cell? ⟨b, off + k * 9 + 6, none⟩ = some (.int .u32 v6) ∧ W.cell? ⟨b, off + k * 9 + 7, none⟩ = some (.int .i64 vf) ∧ W.cell? ⟨b, off + k * 9 + 8, none⟩ = some (.int .i64 vo) ∧ W.cell? ⟨b, off, none⟩ = some (.int .i64 zt0) ∧ W.cell? ⟨b, off + 1, none⟩ = some (.int .i64 z1) ∧ W.cell? ⟨b, off + 2, none⟩ = some (.int .u32 z2) ∧ W.cell? ⟨b, off + 3, none⟩ = some (.int .u32 z3) ∧ W.cell? ⟨b, off + 4, none⟩ = some (.int .i64 z4) ∧ W.cell? ⟨b, off + 5, none⟩ = some (.int .u32 z5) ∧ W.cell? ⟨b, off + 6, none⟩ = some (.int .u32 z6) ∧ W.cell? ⟨b, off + 7, none⟩ = some (.int .i64 zf) ∧ W.cell? ⟨b, off + 8, none⟩ = some (.int .i64 zo0)) (by kernel_rfl) ?_ (fun hHeld => ?_)
      focus exact AtL.cells S0
      refine wpAnyH_take (i := 0) (oi := _) (v := ?_) rfl (by kernel_rfl) (by kernel_rfl) (by kernel_rfl) (fun _ _ _ h => h) (Or.inl ⟨by rfl, ?_⟩) (by assumption) ?_
      rotate_left
      focus (intro w hSw; (try dsimp only at hSw); go_simp; (try with_reducible rfl))
      simp only [List.getElem_toArray, List.getElem_cons_succ, List.getElem_cons_zero, Act.put, List.setIfInBounds_toArray, List.set_cons_zero, List.set_cons_succ]
      refine wpAnyH_take (i := 1) (oi := _) (v := ?_) rfl (by kernel_rfl) (by kernel_rfl) (by kernel_rfl) (fun _ _ _ h => h) (Or.inl ⟨by rfl, ?_⟩) (by assumption) ?_
      rotate_left
      focus (intro w hSw; (try dsimp only at hSw); go_simp; (try with_reducible rfl))
      simp only [List.getElem_toArray, List.getElem_cons_succ, List.getElem_cons_zero, Act.put, List.setIfInBounds_toArray, List.set_cons_zero, List.set_cons_succ]
      refine wpAnyH_take (i := 2) (oi := _) (v := ?_) rfl (by kernel_rfl) (by kernel_rfl) (by kernel_rfl) (fun _ _ _ h => h) (Or.inl ⟨by rfl, ?_⟩) (by assumption) ?_
      rotate_left
      focus (intro w hSw; (try dsimp only at hSw); go_simp; (try with_reducible rfl))
      simp only [List.getElem_toArray, List.getElem_cons_succ, List.getElem_cons_zero, Act.put, List.setIfInBounds_toArray, List.set_cons_zero, List.set_cons_succ]
      refine wpAnyH_take (i := 3) (oi := _) (v := ?_) rfl (by kernel_rfl) (by kernel_rfl) (by kernel_rfl) (fun _ _ _ h => h) (Or.inl ⟨by rfl, ?_⟩) (by assumption) ?_
      rotate_left
      focus (intro w hSw; (try dsimp only at hSw); go_simp; (try with_reducible rfl))
      simp only [List.getElem_toArray, List.getElem_cons_succ, List.getElem_cons_zero, Act.put, List.setIfInBounds_toArray, List.set_cons_zero, List.set_cons_succ]
      refine wpAnyH_take (i := 4) (oi := _) (v := ?_) rfl (by kernel_rfl) (by kernel_rfl) (by kernel_rfl) (fun _ _ _ h => h) (Or.inl ⟨by rfl, ?_⟩) (by assumption) ?_
      rotate_left
      focus (intro w hSw; (try dsimp only at hSw); go_simp; (try with_reducible rfl))
      simp only [List.getElem_toArray, List.getElem_cons_succ, List.getElem_cons_zero, Act.put, List.setIfInBounds_toArray, List.set_cons_zero, List.set_cons_succ]
      refine wpAnyH_take (i := 5) (oi := _) (v := ?_) rfl (by kernel_rfl) (by kernel_rfl) (by kernel_rfl) (fun _ _ _ h => h) (Or.inl ⟨by rfl, ?_⟩) (by assumption) ?_
      rotate_left
      focus (intro w hSw; (try dsimp only at hSw); go_simp; (try with_reducible rfl))
      simp only [List.getElem_toArray, List.getElem_cons_succ, List.getElem_cons_zero, Act.put, List.setIfInBounds_toArray, List.set_cons_zero, List.set_cons_succ]
      refine wpAnyH_take (i := 6) (oi := _) (v := ?_) rfl (by kernel_rfl) (by kernel_rfl) (by kernel_rfl) (fun _ _ _ h => h) (Or.inl ⟨by rfl, ?_⟩) (by assumption) ?_
      rotate_left
      focus (intro w hSw; (try dsimp only at hSw); go_simp; (try with_reducible rfl))
      simp only [List.getElem_toArray, List.getElem_cons_succ, List.getElem_cons_zero, Act.put, List.setIfInBounds_toArray, List.set_cons_zero, List.set_cons_succ]
      refine wpAnyH_take (i := 8) (oi := _) (v := ?_) rfl (by kernel_rfl) (by kernel_rfl) (by kernel_rfl) (fun _ _ _ h => h) (Or.inl ⟨by rfl, ?_⟩) (by assumption) ?_
      rotate_left
      focus (intro w hSw; (try dsimp only at hSw); go_simp; (try with_reducible rfl))
      simp only [List.getElem_toArray, List.getElem_cons_succ, List.getElem_cons_zero, Act.put, List.setIfInBounds_toArray, List.set_cons_zero, List.set_cons_succ]
      refine wpAnyH_take (i := 9) (oi := _) (v := ?_) rfl (by kernel_rfl) (by kernel_rfl) (by kernel_rfl) (fun _ _ _ h => h) (Or.inl ⟨by rfl, ?_⟩) (by assumption) ?_
      rotate_left
      focus (intro w hSw; (try dsimp only at hSw); go_simp; (try with_reducible rfl))
      simp only [List.getElem_toArray, List.getElem_cons_succ, List.getElem_cons_zero, Act.put, List.setIfInBounds_toArray, List.set_cons_zero, List.set_cons_succ]
      refine wpAnyH_take (i := 10) (oi := _) (v := ?_) rfl (by kernel_rfl) (by kernel_rfl) (by kernel_rfl) (fun _ _ _ h => h) (Or.inl ⟨by rfl, ?_⟩) (by assumption) ?_
      rotate_left
      focus (intro w hSw; (try dsimp only at hSw); go_simp; (try with_reducible rfl))
      simp only [List.getElem_toArray, List.getElem_cons_succ, List.getElem_cons_zero, Act.put, List.setIfInBounds_toArray, List.set_cons_zero, List.set_cons_succ]
      refine wpAnyH_take (i := 11) (oi := _) (v := ?_) rfl (by kernel_rfl) (by kernel_rfl) (by kernel_rfl) (fun _ _ _ h => h) (Or.inl ⟨by rfl, ?_⟩) (by assumption) ?_
      rotate_left
      focus (intro w hSw; (try dsimp only at hSw); go_simp; (try with_reducible rfl))
      simp only [List.getElem_toArray, List.getElem_cons_succ, List.getElem_cons_zero, Act.put, List.setIfInBounds_toArray, List.set_cons_zero, List.set_cons_succ]
      refine wpAnyH_take (i := 12) (oi := _) (v := ?_) rfl (by kernel_rfl) (by kernel_rfl) (by kernel_rfl) (fun _ _ _ h => h) (Or.inl ⟨by rfl, ?_⟩) (by assumption) ?_
      rotate_left
      focus (intro w hSw; (try dsimp only at hSw); go_simp; (try with_reducible rfl))
      simp only [List.getElem_toArray, List.getElem_cons_succ, List.getElem_cons_zero, Act.put, List.setIfInBounds_toArray, List.set_cons_zero, List.set_cons_succ]
      refine wpAnyH_take (i := 13) (oi := _) (v := ?_) rfl (by kernel_rfl) (by kernel_rfl) (by kernel_rfl) (fun _ _ _ h => h) (Or.inl ⟨by rfl, ?_⟩) (by assumption) ?_
      rotate_left
      focus (intro w hSw; (try dsimp only at hSw); go_simp; (try with_reducible rfl))
      simp only [List.getElem_toArray, List.getElem_cons_succ, List.getElem_cons_zero, Act.put, List.setIfInBounds_toArray, List.set_cons_zero, List.set_cons_succ]
      refine wpAnyH_take (i := 14) (oi := _) (v := ?_) rfl (by kernel_rfl) (by kernel_rfl) (by kernel_rfl) (fun _ _ _ h => h) (Or.inl ⟨by rfl, ?_⟩) (by assumption) ?_
      rotate_left
      focus (intro w hSw; (try dsimp only at hSw); go_simp; (try with_reducible rfl))
      simp only [List.getElem_toArray, List.getElem_cons_succ, List.getElem_cons_zero, Act.put, List.setIfInBounds_toArray, List.set_cons_zero, List.set_cons_succ]
      refine wpAnyH_ready (rs := [7]) (by kernel_rfl) (by simp) ?_
      refine AllReadyH.cons (o := _) rfl (fun K hK => ?_) AllReadyH.nil
      go_simp
      refine (KA1.out _).mono ?_
      rintro e V' ⟨rfl, hb⟩
      have S' := AtL.below (by assumption) hb
      clear hb
      (try go_wp2_with fail)
      refine hK.out _ _ ?_ (fun hHeld => ?_)
      focus exact AtL.cells S'
      clear hK K
      (try simp only [List.getElem_toArray, List.getElem_cons_succ, List.getElem_cons_zero, Act.put, List.setIfInBounds_toArray, List.set_cons_zero, List.set_cons_succ])
      refine wpAnyH_ready (rs := [15]) (by kernel_rfl) (by simp) ?_
      refine AllReadyH.cons (o := _) rfl (fun K hK => ?_) AllReadyH.nil
      go_simp
      refine (KA3.out _).mono ?_
      rintro e V' ⟨rfl, hb⟩
      have S' := AtL.below (by assumption) hb
      clear hb
      (try go_wp2_with fail)
      refine hK.out _ _ ?_ (fun hHeld => ?_)
      focus exact AtL.cells S'
      clear hK K
      (try simp only [List.getElem_toArray, List.getElem_cons_succ, List.getElem_cons_zero, Act.put, List.setIfInBounds_toArray, List.set_cons_zero, List.set_cons_succ])
      refine wpAnyH_take (i := 16) (oi := _) (v := ?_) rfl (by kernel_rfl) (by kernel_rfl) (by kernel_rfl) (fun _ _ _ h => h) (Or.inl ⟨by rfl, ?_⟩) (by assumption) ?_
      rotate_left
      focus (intro w hSw; (try dsimp only at hSw); go_simp; (try with_reducible rfl))
      simp only [List.getElem_toArray, List.getElem_cons_succ, List.getElem_cons_zero, Act.put, List.setIfInBounds_toArray, List.set_cons_zero, List.set_cons_succ]
      refine wpAnyH_take (i := 17) (oi := _) (v := ?_) rfl (by kernel_rfl) (by kernel_rfl) (by kernel_rfl) (fun _ _ _ h => h) (Or.inl ⟨by rfl, ?_⟩) (by assumption) ?_
      rotate_left
      focus (intro w hSw; (try dsimp only at hSw); go_simp; (try with_reducible rfl))
      simp only [List.getElem_toArray, List.getElem_cons_succ, List.getElem_cons_zero, Act.put, List.setIfInBounds_toArray, List.set_cons_zero, List.set_cons_succ]
      refine wpAnyH_take (i := 18) (oi := _) (v := ?_) rfl (by kernel_rfl) (by kernel_rfl) (by kernel_rfl) (fun _ _ _ h => h) (Or.inl ⟨by rfl, ?_⟩) (by assumption) ?_
      rotate_left
      focus (intro w hSw; (try dsimp only at hSw); go_simp; (try with_reducible rfl))
      simp only [List.getElem_toArray, List.getElem_cons_succ, List.getElem_cons_zero, Act.put, List.setIfInBounds_toArray, List.set_cons_zero, List.set_cons_succ]
      refine wpAnyH_take (i := 19) (oi := _) (v := ?_) rfl (by kernel_rfl) (by kernel_rfl) (by kernel_rfl) (fun _ _ _ h => h) (Or.inl ⟨by rfl, ?_⟩) (by assumption) ?_
      rotate_left
      focus (intro w hSw; (try dsimp only at hSw); go_simp; (try with_reducible rfl))
      simp only [List.getElem_toArray, List.getElem_cons_succ, List.getElem_cons_zero, Act.put, List.setIfInBounds_toArray, List.set_cons_zero, List.set_cons_succ]
      refine wpAnyH_take (i := 20) (oi := _) (v := ?_) rfl (by kernel_rfl) (by kernel_rfl) (by kernel_rfl) (fun _ _ _ h => h) (Or.inl ⟨by rfl, ?_⟩) (by assumption) ?_
      rotate_left
      focus (intro w hSw; (try dsimp only at hSw); go_simp; (try with_reducible rfl))
      simp only [List.getElem_toArray, List.getElem_cons_succ, List.getElem_cons_zero, Act.put, List.setIfInBounds_toArray, List.set_cons_zero, List.set_cons_succ]
      refine wpAnyH_take (i := 21) (oi := _) (v := ?_) rfl (by kernel_rfl) (by kernel_rfl) (by kernel_rfl) (fun _ _ _ h => h) (Or.inl ⟨by rfl, ?_⟩) (by assumption) ?_
      rotate_left
      focus (intro w hSw; (try dsimp only at hSw); go_simp; (try with_reducible rfl))
      simp only [List.getElem_toArray, List.getElem_cons_succ, List.getElem_cons_zero, Act.put, List.setIfInBounds_toArray, List.set_cons_zero, List.set_cons_succ]
      refine wpAnyH_take (i := 22) (oi := _) (v := ?_) rfl (by kernel_rfl) (by kernel_rfl) (by kernel_rfl) (fun _ _ _ h => h) (Or.inl ⟨by rfl, ?_⟩) (by assumption) ?_
      rotate_left
      focus (intro w hSw; (try dsimp only at hSw); go_simp; (try with_reducible rfl))
      simp only [List.getElem_toArray, List.getElem_cons_succ, List.getElem_cons_zero, Act.put, List.setIfInBounds_toArray, List.set_cons_zero, List.set_cons_succ]
      refine wpAnyH_take (i := 23) (oi := _) (v := ?_) rfl (by kernel_rfl) (by kernel_rfl) (by kernel_rfl) (fun _ _ _ h => h) (Or.inl ⟨by rfl, ?_⟩) (by assumption) ?_
      rotate_left
      focus (intro w hSw; (try dsimp only at hSw); go_simp; (try with_reducible rfl))
      simp only [List.getElem_toArray, List.getElem_cons_succ, List.getElem_cons_zero, Act.put, List.setIfInBounds_toArray, List.set_cons_zero, List.set_cons_succ]
      refine wpAnyH_take (i := 24) (oi := _) (v := ?_) rfl (by kernel_rfl) (by kernel_rfl) (by kernel_rfl) (fun _ _ _ h => h) (Or.inl ⟨by rfl, ?_⟩) (by assumption) ?_
      rotate_left
      focus (intro w hSw; (try dsimp only at hSw); go_simp; (try with_reducible rfl))
      simp only [List.getElem_toArray, List.getElem_cons_succ, List.getElem_cons_zero, Act.put, List.setIfInBounds_toArray, List.set_cons_zero, List.set_cons_succ]
      refine wpAnyH_take (i := 26) (oi := _) (v := ?_) rfl (by kernel_rfl) (by kernel_rfl) (by kernel_rfl) (fun _ _ _ h => h) (Or.inl ⟨by rfl, ?_⟩) (by assumption) ?_
      rotate_left
      focus (intro w hSw; (try dsimp only at hSw); go_simp; (try with_reducible rfl))
      simp only [List.getElem_toArray, List.getElem_cons_succ, List.getElem_cons_zero, Act.put, List.setIfInBounds_toArray, List.set_cons_zero, List.set_cons_succ]
      refine wpAnyH_take (i := 27) (oi := _) (v := ?_) rfl (by kernel_rfl) (by kernel_rfl) (by kernel_rfl) (fun _ _ _ h => h) (Or.inl ⟨by rfl, ?_⟩) (by assumption) ?_
      rotate_left
      focus (intro w hSw; (try dsimp only at hSw); go_simp; (try with_reducible rfl))
      simp only [List.getElem_toArray, List.getElem_cons_succ, List.getElem_cons_zero, Act.put, List.setIfInBounds_toArray, List.set_cons_zero, List.set_cons_succ]
      refine wpAnyH_take (i := 28) (oi := _) (v := ?_) rfl (by kernel_rfl) (by kernel_rfl) (by kernel_rfl) (fun _ _ _ h => h) (Or.inl ⟨by rfl, ?_⟩) (by assumption) ?_
      rotate_left
      focus (intro w hSw; (try dsimp only at hSw); go_simp; (try with_reducible rfl))
      simp only [List.getElem_toArray, List.getElem_cons_succ, List.getElem_cons_zero, Act.put, List.setIfInBounds_toArray, List.set_cons_zero, List.set_cons_succ]
      refine wpAnyH_take (i := 29) (oi := _) (v := ?_) rfl (by kernel_rfl) (by kernel_rfl) (by kernel_rfl) (fun _ _ _ h => h) (Or.inl ⟨by rfl, ?_⟩) (by assumption) ?_
      rotate_left
      focus (intro w hSw; (try dsimp only at hSw); go_simp; (try with_reducible rfl))
      simp only [List.getElem_toArray, List.getElem_cons_succ, List.getElem_cons_zero, Act.put, List.setIfInBounds_toArray, List.set_cons_zero, List.set_cons_succ]
      refine wpAnyH_take (i := 30) (oi := _) (v := ?_) rfl (by kernel_rfl) (by kernel_rfl) (by kernel_rfl) (fun _ _ _ h => h) (Or.inl ⟨by rfl, ?_⟩) (by assumption) ?_
      rotate_left
      focus (intro w hSw; (try dsimp only at hSw); go_simp; (try with_reducible rfl))
      simp only [List.getElem_toArray, List.getElem_cons_succ, List.getElem_cons_zero, Act.put, List.setIfInBounds_toArray, List.set_cons_zero, List.set_cons_succ]
      refine wpAnyH_take (i := 31) (oi := _) (v := ?_) rfl (by kernel_rfl) (by kernel_rfl) (by kernel_rfl) (fun _ _ _ h => h) (Or.inl ⟨by rfl, ?_⟩) (by assumption) ?_
      rotate_left
      focus (intro w hSw; (try dsimp only at hSw); go_simp; (try with_reducible rfl))
      simp only [List.getElem_toArray, List.getElem_cons_succ, List.getElem_cons_zero, Act.put, List.setIfInBounds_toArray, List.set_cons_zero, List.set_cons_succ]
      refine wpAnyH_take (i := 32) (oi := _) (v := ?_) rfl (by kernel_rfl) (by kernel_rfl) (by kernel_rfl) (fun _ _ _ h => h) (Or.inl ⟨by rfl, ?_⟩) (by assumption) ?_
      rotate_left
      focus (intro w hSw; (try dsimp only at hSw); go_simp; (try with_reducible rfl))
      simp only [List.getElem_toArray, List.getElem_cons_succ, List.getElem_cons_zero, Act.put, List.setIfInBounds_toArray, List.set_cons_zero, List.set_cons_succ]
      refine wpAnyH_ready (rs := [25]) (by kernel_rfl) (by simp) ?_
      refine AllReadyH.cons (o := _) rfl (fun K hK => ?_) AllReadyH.nil
      go_simp
      refine (KA2.out _).mono ?_
      rintro e V' ⟨rfl, hb⟩
      have S' := AtL.below (by assumption) hb
      clear hb
      (try go_wp2_with fail)
      refine hK.out _ _ ?_ (fun hHeld => ?_)
      focus exact AtL.cells S'
      clear hK K
      (try simp only [List.getElem_toArray, List.getElem_cons_succ, List.getElem_cons_zero, Act.put, List.setIfInBounds_toArray, List.set_cons_zero, List.set_cons_succ])
      refine wpAnyH_ready (rs := [33]) (by kernel_rfl) (by simp) ?_
      refine AllReadyH.cons (o := _) rfl (fun K hK => ?_) AllReadyH.nil
      go_simp
      refine (KA4.out _).mono ?_
      rintro e V' ⟨rfl, hb⟩
      have S' := AtL.below (by assumption) hb
      clear hb
      (try go_wp2_with fail)
      refine hK.out _ _ ?_ (fun hHeld => ?_)
      focus exact AtL.cells S'
      clear hK K
      (try simp only [List.getElem_toArray, List.getElem_cons_succ, List.getElem_cons_zero, Act.put, List.setIfInBounds_toArray, List.set_cons_zero, List.set_cons_succ])
      refine wpAnyH_take (i := 34) (oi := _) (v := ?_) rfl (by kernel_rfl) (by kernel_rfl) (by kernel_rfl) (fun _ _ _ h => h) (Or.inl ⟨by rfl, ?_⟩) (by assumption) ?_
      rotate_left
      focus (intro w hSw; (try dsimp only at hSw); go_simp; (try with_reducible rfl))
      simp only [List.getElem_toArray, List.getElem_cons_succ, List.getElem_cons_zero, Act.put, List.setIfInBounds_toArray, List.set_cons_zero, List.set_cons_succ]
      refine wpAnyH_take (i := 35) (oi := _) (v := ?_) rfl (by kernel_rfl) (by kernel_rfl) (by kernel_rfl) (fun _ _ _ h => h) (Or.inl ⟨by rfl, ?_⟩) (by assumption) ?_
      rotate_left
      focus (intro w hSw; (try dsimp only at hSw); go_simp; (try with_reducible rfl))
      simp only [List.getElem_toArray, List.getElem_cons_succ, List.getElem_cons_zero, Act.put, List.setIfInBounds_toArray, List.set_cons_zero, List.set_cons_succ]
      refine wpAnyH_done (by kernel_rfl) ?_ _
      go_wp2_with fail
      go_roundw
      case rel => exact ⟨k + 1, by omega, by go_num, AtL.bel (by assumption)⟩
      case measure => simp [intOf]; omega
    · obtain rfl : k = l.length := by omega
      clear HY
      go_wp2_with (first
        | (go_at_call 8; refine (KM'.out _ HB).mono ?_; rintro e w1 ⟨rfl, hb1⟩)
        | (go_at_call 9; refine (KR'.out _ (below_then HB hb1)).mono ?_; rintro e w2 ⟨rfl, hb2⟩)
        | (go_at_call 5; refine (KL.out _).mono ?_; rintro e w3 ⟨rfl, hb3⟩))
      go_ret
      exact ⟨rfl, below_then (below_then (below_then HB hb1) hb2) hb3⟩
end Go.Proofs.Ytmjbccimijnceaa
