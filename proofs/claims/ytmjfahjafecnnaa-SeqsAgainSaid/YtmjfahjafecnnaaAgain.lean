/- That a sequence tells the same again. -/
import Derived.Test.YtmjfahjafecnnaaBack
import Derived.Shelf.RegionOpen
namespace Go.Proofs.Ytmjfahjafecnnaa
open Go.RowKit Go.Shelf
set_option linter.unusedVariables false
attribute [local go_sem] Oper.semAt_some wide_fn

theorem boxed_below {W W' : World} {B : Nat} {t : TypeId} {v : Value} (h : Boxed W B t v) (hb : Below W.heap.size W W') : Boxed W' B t v := (hb.block B h.lt).trans h

theorem same_yes (v1 v2 : Value) (xs : List Int) (w : World) (h1 : Reads w v1 xs) (h2 : Reads w v2 xs) (l1 : xs.length ≤ 1000000000) :
    Calls Try.prog 8 #[v1, v2] w fun e w' => e = .returned (.bool true) ∧ Below w.heap.size w w' := by
  refine (same_any v1 v2 xs xs w h1 h2 (by omega) (by omega)).mono ?_
  rintro e w' ⟨rfl, n, rfl⟩
  exact ⟨by simp, below_drewN (Below.refl _ _) n⟩
theorem reads_take {w : World} {a : Option Addr} {cap : Nat} {xs : List Int} (m : Nat) (h : Reads w (.slice a xs.length cap) xs) (hm : m ≤ xs.length) : Reads w (.slice a m cap) (xs.take m) := by
  have hl : (xs.take m).length = m := by rw [List.length_take]; omega
  rcases h with ⟨a', c', he, hx⟩ | ⟨b', off', cap', he, h0, hc, hmm, hcell⟩
  · subst hx; simp at hm; subst hm; exact .inl ⟨_, _, rfl, by simp⟩
  · cases he
    by_cases h0 : m = 0
    · subst h0; exact .inl ⟨_, _, rfl, by simp⟩
    · refine .inr ⟨b', off', cap, by rw [hl], by omega, by omega, hmm, fun i hi => ?_⟩
      rw [hcell i (by omega)]
      have h1 : i < m := by omega
      simp [h1]

/-- The list, gone through backwards: all was fine, and none is left. -/
def Went (w9 : World) (e : Ending) (w' : World) : Prop :=
  (∃ v, e = .returned v) ∧ Boxed w' w9.heap.size 3 (.int .i64 0) ∧ Boxed w' (w9.heap.size + 1) 4 (.bool true) ∧ Below w9.heap.size w9 w'
theorem back_run (a : Option Addr) (len cap bl g : Nat) (lb : Array Value) (C : Nat → Prop) (xs : List Int) (w9 w11 : World) (hx : xs.length = len) (hl : len ≤ 2000) (bx : Boxed w9 bl 23 (.slice a len cap)) (rd : Reads w9 (.slice a len cap) xs)
    (hT : Tells Try.prog encP (.func (.func g) #[] lb) C (backs xs xs.length) w11) (hC : ∀ k, C k → w9.heap.size + 2 ≤ k)
    (hb : Below ((w9.alloc (.cells #[.int .i64 len] 3)).alloc (.cells #[.bool true] 4)).heap.size ((w9.alloc (.cells #[.int .i64 len] 3)).alloc (.cells #[.bool true] 4)) w11) :
    CallsV Try.prog (.func (.func g) #[] lb) #[.func (.func 21) #[] #[at0 w9.heap.size, at0 (w9.heap.size + 1), at0 bl]] w11 (Went w9) := by
  subst hx
  have hA : Below w9.heap.size w9 ((w9.alloc (.cells #[.int .i64 xs.length] 3)).alloc (.cells #[.bool true] 4)) := ((Below.refl _ _).alloc (Nat.le_refl _) _).alloc (by simp) _
  have hB : Below w9.heap.size w9 w11 := hA.trans (hb.mono hA.size)
  have b1 : Boxed w11 w9.heap.size 3 (.int .i64 xs.length) := (hb.block _ (by simp; omega)).trans ((Boxed.new w9 3 _).alloc _)
  have b2 : Boxed w11 (w9.heap.size + 1) 4 (.bool true) := by
    have := Boxed.new (w9.alloc (.cells #[.int .i64 xs.length] 3)) 4 (.bool true)
    rw [World.size_alloc] at this
    exact (hb.block _ (by simp)).trans this
  have bl' := bx.lt
  refine (hT.tells w11 (fun _ _ => rfl) _ (atJ w9.heap.size (w9.heap.size + 1) xs.length) (fun _ _ _ => False) (fun k => k = w9.heap.size ∨ k = w9.heap.size + 1) (.inl ⟨_, _, rfl, enters_of Try.func21 (by kernel_rfl) rfl⟩) (atJ_fits _ _ _) fits_none
    (takes21 w9.heap.size (w9.heap.size + 1) bl a cap xs w11 (by omega) (by omega) (by omega) hl (boxed_below bx hB) (reads_below rd hB) (fun hp b off e => ?_)) (fun k hk h => by have := hC k hk; omega) ⟨rfl, by simpa using b1, b2⟩).mono ?_
  · subst e
    rcases rd with ⟨a', c', he, hx⟩ | ⟨b', off', cap', he, h0, _, _, hcell⟩
    · rw [hx] at hp; simp at hp
    · cases he
      have := World.block_lt_of_cell? w9 _ (hcell 0 h0)
      simp at this; omega
  · rintro e w' ⟨hv, O', hk, hL, (⟨rfl, h1, h2⟩ | ⟨_, _, h⟩)⟩
    · refine ⟨hv, ?_, h2, hB.trans (hk.below (by have := hB.size; omega) (fun k h => by omega))⟩
      rw [backs_length] at h1; simpa using h1
    · exact h.elim

set_option maxRecDepth 100000 in
set_option maxHeartbeats 8000000 in
theorem again_mid (a : Option Addr) (cap : Nat) (xs : List Int) (m : Nat) (w : World) (hl : xs.length ≤ 2000) (hcc : xs.length ≤ cap) (hcm : cap ≤ 9223372036854775807) (hRd : Reads w (.slice a xs.length cap) xs) (hn : InR (m : Int)) (ca : (0 : Int) < m) (cb : (m : Int) < xs.length) :
    Calls Try.prog 5 #[.slice a xs.length cap, .int .i64 (m : Int)] w fun e w' => e = .returned (.bool true) ∧ Below w.heap.size w w' := by
  obtain ⟨len, hlen⟩ : ∃ len, xs.length = len := ⟨_, rfl⟩
  have HL := Lib.hid hlen
  have c1 : ¬ (len : Int) > 2000 := by omega
  obtain ⟨wb, hwb⟩ : ∃ wb, w.alloc (.cells #[.slice a len cap] 23) = wb := ⟨_, rfl⟩
  have hbx : Boxed wb w.heap.size 23 (.slice a len cap) := by rw [← hwb]; exact Boxed.new _ _ _
  have hsb : wb.heap.size = w.heap.size + 1 := by rw [← hwb]; simp
  have hBb : Below w.heap.size w wb := by rw [← hwb]; exact (Below.refl _ _).alloc (Nat.le_refl _) _
  have rd := reads_below hRd hBb
  have rdk := reads_take m rd (by omega)
  rw [hlen] at rd hl hcc ⊢
  rw [hlen] at cb
  have HRd := Lib.hid rd
  have HRk := Lib.hid rdk
  clear hlen rd rdk hRd
  have l1 : xs.length ≤ 1000000000 := by rw [HL.out]; omega
  have l2 : (xs.take m).length ≤ 1000000000 := by rw [List.length_take]; omega
  have HL1 := Lib.hid l1
  have HL2 := Lib.hid l2
  clear l1 l2
  have n1 := hn.1
  have n2 := hn.2
  have ek : xs.take (Int.toNat (m)) = xs.take m := by rw [show Int.toNat (m) = m by omega]
  have HE := Lib.hid ek
  clear ek
  refine (callsIn_wide (n := 9)).1 ?_
  refine callsIn_of_wp Try.func5 rfl trivial ?_ rfl
  simp only [Try.ntmps5, List.size_toArray, List.length_cons, List.length_nil, Nat.reduceAdd, Nat.reduceSub, Array.replicate_succ, Array.replicate_zero, List.push_toArray, List.append_toArray, List.nil_append, List.cons_append]
  have d0 := hbx.cell
  gi_wp2_with fail
  clear hwb
  refine (callsIn_wide.2 (of_makes _ xs _ HRd.out HL1.out)).mono ?_
  rintro e w1 ⟨g1, lb1, C1, rfl, -, hT1, -, hb1⟩
  have bx1 := boxed_below hbx hb1
  have d1 := bx1.cell
  gi_wp2_with fail
  refine (callsIn_wide.2 (first_makes _ C1 xs _ _ (.inr hT1) hn)).mono ?_
  rintro e w2 ⟨g2, lb2, C2, rfl, -, hT2, -, hb2⟩
  rw [HE.out] at hT2
  gi_wp2_with fail
  refine (callsIn_wide.2 (list_any _ C2 _ _ (.inr hT2) HL2.out)).mono ?_
  rintro e w3 ⟨v3, rfl, hr3, hb3⟩
  have t3 := hb2.trans (hb3.mono hb2.size)
  have bx3 := boxed_below bx1 t3
  have d3 := bx3.cell
  have hT3 := hT1.below t3
  have hmix : Try.prog.follows .mixedOrders = true := by kernel_rfl
  have s0 : Below w3.heap.size w3 w3.drew := (Below.refl _ _).drew
  have tb3 := hb1.trans (t3.mono hb1.size)
  have hs1 := (callsIn_wide (n := 8)).2 (same_yes v3 (.slice a m cap) (xs.take m) w3.drew (reads_below (reads_row hr3) s0) (reads_below (reads_below HRk.out tb3) s0) HL2.out)
  gi_wp2
  gi_region_with_o (first
    | ((with_reducible refine hs1.mono ?_); clear hs1; rintro e w4 ⟨rfl, hb4⟩; have t4 : Below w3.heap.size w3 w4 := s0.trans hb4; have bx4 := boxed_below bx3 t4; have d4 := bx4.cell; have hs2 := (callsIn_wide (n := 8)).2 (list_any _ C1 xs w4 (.inr (hT3.below t4)) HL1.out))
    | ((with_reducible refine hs2.mono ?_); clear hs2; rintro e w5 ⟨v5, rfl, hr5, hb5⟩; have t5 := t4.trans (hb5.mono t4.size); have bx5 := boxed_below bx3 t5; have d5 := bx5.cell; have hs3 := (callsIn_wide (n := 8)).2 (same_yes v5 (.slice a len cap) xs w5 (reads_row hr5) (reads_below (reads_below HRd.out tb3) t5) HL1.out))
    | ((with_reducible refine hs3.mono ?_); clear hs3; rintro e w6 ⟨rfl, hb6⟩; have t6 := t5.trans (hb6.mono t5.size); have hs4 := (callsIn_wide (n := 8)).2 (first_makes _ C1 xs _ w6 (.inr (hT3.below t6)) hn))
    | ((with_reducible refine hs4.mono ?_); clear hs4; rintro e w7 ⟨g7, lb7, C7, rfl, -, hT7, -, hb7⟩; rw [HE.out] at hT7; have t7 := t6.trans (hb7.mono t6.size); have hs5 := (callsIn_wide (n := 8)).2 (list_any _ C7 _ w7 (.inr hT7) HL2.out))
    | ((with_reducible refine hs5.mono ?_); clear hs5; rintro e w8 ⟨v8, rfl, hr8, hb8⟩; have t8 := t7.trans (hb8.mono t7.size); have hs6 := (callsIn_wide (n := 8)).2 (same_yes v8 v3 _ w8 (reads_row hr8) (reads_below (reads_row hr3) t8) HL2.out))
    | ((with_reducible refine hs6.mono ?_); clear hs6; rintro e w9 ⟨rfl, hb9⟩; have t9 := t8.trans (hb9.mono t8.size)))
  all_goals
    have bx9 := boxed_below bx3 t9
    have d9 := bx9.cell
    have rd9 := reads_below (reads_below HRd.out tb3) t9
    have z3 := tb3.size
    have z9 := t9.size
    have B9 : Below w.heap.size w w9 := (hBb.trans (tb3.mono hBb.size)).trans (t9.mono (Nat.le_trans hBb.size tb3.size))
    clear hr3 hr5 hr8 hT7 bx4 bx5 d4 d5 hb4 hb5 hb6 hb7 hb8 hb9 t4 t5 t6 t7 t8
    have d9' : ((w9.alloc (.cells #[.int .i64 len] 3)).alloc (.cells #[.bool true] 4)).cell? ⟨w.heap.size, 0, none⟩ = some (.slice a len cap) := ((bx9.alloc _).alloc _).cell
    gi_wp2_with fail
    refine (callsIn_wide.2 (back_makes _ xs _ (reads_below rd9 (((Below.refl _ _).alloc (Nat.le_refl _) _).alloc (by simp) _)) HL1.out)).mono ?_
    rintro e w11 ⟨g11, lb11, C11, rfl, hT11, hC11, hb11⟩
    have hrun := back_run a len cap w.heap.size g11 lb11 C11 xs w9 w11 HL.out hl bx9 rd9 hT11 (fun k h => by have := hC11 k h; simpa using this) hb11
    clear hT11 hC11 d9'
    gi_wp2_with ((with_reducible refine wpListIn_callV (f := .tmp 50) (y := .func (.func g11) #[] lb11) (args := #[.func (.func 21) #[] #[at0 w9.heap.size, at0 (w9.heap.size + 1), at0 w.heap.size]]) rfl rfl ?_ ?_ ?_ hrun ?_); rfl; rfl; simp [go_sem]; clear hrun; (rintro e w12 ⟨⟨v, rfl⟩, k1, k2, B12⟩); (refine ⟨_, rfl, ?_⟩); have e1 := k1.cell; have e2 := k2.cell)
    refine (callsIn_wide.2 (lives_any w12)).mono ?_
    rintro e w13 ⟨rfl, B13⟩
    gi_wp2
    go_ret
    exact ⟨rfl, (B9.trans (B12.mono B9.size)).trans (B13.mono (Nat.le_trans B9.size B12.size))⟩

set_option maxRecDepth 100000 in
set_option maxHeartbeats 8000000 in
theorem again_neg (a : Option Addr) (cap : Nat) (xs : List Int) (n : Int) (w : World) (hl : xs.length ≤ 2000) (hcc : xs.length ≤ cap) (hcm : cap ≤ 9223372036854775807) (hRd : Reads w (.slice a xs.length cap) xs) (hn : InR (n : Int)) (ca : n ≤ 0) :
    Calls Try.prog 5 #[.slice a xs.length cap, .int .i64 (n : Int)] w fun e w' => e = .returned (.bool true) ∧ Below w.heap.size w w' := by
  obtain ⟨len, hlen⟩ : ∃ len, xs.length = len := ⟨_, rfl⟩
  have HL := Lib.hid hlen
  have c1 : ¬ (len : Int) > 2000 := by omega
  obtain ⟨wb, hwb⟩ : ∃ wb, w.alloc (.cells #[.slice a len cap] 23) = wb := ⟨_, rfl⟩
  have hbx : Boxed wb w.heap.size 23 (.slice a len cap) := by rw [← hwb]; exact Boxed.new _ _ _
  have hsb : wb.heap.size = w.heap.size + 1 := by rw [← hwb]; simp
  have hBb : Below w.heap.size w wb := by rw [← hwb]; exact (Below.refl _ _).alloc (Nat.le_refl _) _
  have rd := reads_below hRd hBb
  have rdk := reads_take 0 rd (by omega)
  rw [hlen] at rd hl hcc ⊢
  have HRd := Lib.hid rd
  have HRk := Lib.hid rdk
  clear hlen rd rdk hRd
  have l1 : xs.length ≤ 1000000000 := by rw [HL.out]; omega
  have l2 : (xs.take 0).length ≤ 1000000000 := by rw [List.length_take]; omega
  have HL1 := Lib.hid l1
  have HL2 := Lib.hid l2
  clear l1 l2
  have n1 := hn.1
  have n2 := hn.2
  have ek : xs.take (Int.toNat (n)) = xs.take 0 := by rw [show Int.toNat (n) = 0 by omega]
  have HE := Lib.hid ek
  clear ek
  refine (callsIn_wide (n := 9)).1 ?_
  refine callsIn_of_wp Try.func5 rfl trivial ?_ rfl
  simp only [Try.ntmps5, List.size_toArray, List.length_cons, List.length_nil, Nat.reduceAdd, Nat.reduceSub, Array.replicate_succ, Array.replicate_zero, List.push_toArray, List.append_toArray, List.nil_append, List.cons_append]
  have d0 := hbx.cell
  gi_wp2_with fail
  clear hwb
  refine (callsIn_wide.2 (of_makes _ xs _ HRd.out HL1.out)).mono ?_
  rintro e w1 ⟨g1, lb1, C1, rfl, -, hT1, -, hb1⟩
  have bx1 := boxed_below hbx hb1
  have d1 := bx1.cell
  gi_wp2_with fail
  refine (callsIn_wide.2 (first_makes _ C1 xs _ _ (.inr hT1) hn)).mono ?_
  rintro e w2 ⟨g2, lb2, C2, rfl, -, hT2, -, hb2⟩
  rw [HE.out] at hT2
  gi_wp2_with fail
  refine (callsIn_wide.2 (list_any _ C2 _ _ (.inr hT2) HL2.out)).mono ?_
  rintro e w3 ⟨v3, rfl, hr3, hb3⟩
  have t3 := hb2.trans (hb3.mono hb2.size)
  have bx3 := boxed_below bx1 t3
  have d3 := bx3.cell
  have hT3 := hT1.below t3
  have hmix : Try.prog.follows .mixedOrders = true := by kernel_rfl
  have s0 : Below w3.heap.size w3 w3.drew := (Below.refl _ _).drew
  have tb3 := hb1.trans (t3.mono hb1.size)
  have hs1 := (callsIn_wide (n := 8)).2 (same_yes v3 (.slice a 0 cap) (xs.take 0) w3.drew (reads_below (reads_row hr3) s0) (reads_below (reads_below HRk.out tb3) s0) HL2.out)
  gi_wp2
  gi_region_with_o (first
    | ((with_reducible refine hs1.mono ?_); clear hs1; rintro e w4 ⟨rfl, hb4⟩; have t4 : Below w3.heap.size w3 w4 := s0.trans hb4; have bx4 := boxed_below bx3 t4; have d4 := bx4.cell; have hs2 := (callsIn_wide (n := 8)).2 (list_any _ C1 xs w4 (.inr (hT3.below t4)) HL1.out))
    | ((with_reducible refine hs2.mono ?_); clear hs2; rintro e w5 ⟨v5, rfl, hr5, hb5⟩; have t5 := t4.trans (hb5.mono t4.size); have bx5 := boxed_below bx3 t5; have d5 := bx5.cell; have hs3 := (callsIn_wide (n := 8)).2 (same_yes v5 (.slice a len cap) xs w5 (reads_row hr5) (reads_below (reads_below HRd.out tb3) t5) HL1.out))
    | ((with_reducible refine hs3.mono ?_); clear hs3; rintro e w6 ⟨rfl, hb6⟩; have t6 := t5.trans (hb6.mono t5.size); have hs4 := (callsIn_wide (n := 8)).2 (first_makes _ C1 xs _ w6 (.inr (hT3.below t6)) hn))
    | ((with_reducible refine hs4.mono ?_); clear hs4; rintro e w7 ⟨g7, lb7, C7, rfl, -, hT7, -, hb7⟩; rw [HE.out] at hT7; have t7 := t6.trans (hb7.mono t6.size); have hs5 := (callsIn_wide (n := 8)).2 (list_any _ C7 _ w7 (.inr hT7) HL2.out))
    | ((with_reducible refine hs5.mono ?_); clear hs5; rintro e w8 ⟨v8, rfl, hr8, hb8⟩; have t8 := t7.trans (hb8.mono t7.size); have hs6 := (callsIn_wide (n := 8)).2 (same_yes v8 v3 _ w8 (reads_row hr8) (reads_below (reads_row hr3) t8) HL2.out))
    | ((with_reducible refine hs6.mono ?_); clear hs6; rintro e w9 ⟨rfl, hb9⟩; have t9 := t8.trans (hb9.mono t8.size)))
  all_goals
    have bx9 := boxed_below bx3 t9
    have d9 := bx9.cell
    have rd9 := reads_below (reads_below HRd.out tb3) t9
    have z3 := tb3.size
    have z9 := t9.size
    have B9 : Below w.heap.size w w9 := (hBb.trans (tb3.mono hBb.size)).trans (t9.mono (Nat.le_trans hBb.size tb3.size))
    clear hr3 hr5 hr8 hT7 bx4 bx5 d4 d5 hb4 hb5 hb6 hb7 hb8 hb9 t4 t5 t6 t7 t8
    have d9' : ((w9.alloc (.cells #[.int .i64 len] 3)).alloc (.cells #[.bool true] 4)).cell? ⟨w.heap.size, 0, none⟩ = some (.slice a len cap) := ((bx9.alloc _).alloc _).cell
    gi_wp2_with fail
    refine (callsIn_wide.2 (back_makes _ xs _ (reads_below rd9 (((Below.refl _ _).alloc (Nat.le_refl _) _).alloc (by simp) _)) HL1.out)).mono ?_
    rintro e w11 ⟨g11, lb11, C11, rfl, hT11, hC11, hb11⟩
    have hrun := back_run a len cap w.heap.size g11 lb11 C11 xs w9 w11 HL.out hl bx9 rd9 hT11 (fun k h => by have := hC11 k h; simpa using this) hb11
    clear hT11 hC11 d9'
    gi_wp2_with ((with_reducible refine wpListIn_callV (f := .tmp 50) (y := .func (.func g11) #[] lb11) (args := #[.func (.func 21) #[] #[at0 w9.heap.size, at0 (w9.heap.size + 1), at0 w.heap.size]]) rfl rfl ?_ ?_ ?_ hrun ?_); rfl; rfl; simp [go_sem]; clear hrun; (rintro e w12 ⟨⟨v, rfl⟩, k1, k2, B12⟩); (refine ⟨_, rfl, ?_⟩); have e1 := k1.cell; have e2 := k2.cell)
    refine (callsIn_wide.2 (lives_any w12)).mono ?_
    rintro e w13 ⟨rfl, B13⟩
    gi_wp2
    go_ret
    exact ⟨rfl, (B9.trans (B12.mono B9.size)).trans (B13.mono (Nat.le_trans B9.size B12.size))⟩

set_option maxRecDepth 100000 in
set_option maxHeartbeats 8000000 in
theorem again_eq (a : Option Addr) (cap : Nat) (xs : List Int)  (w : World) (hl : xs.length ≤ 2000) (hcc : xs.length ≤ cap) (hcm : cap ≤ 9223372036854775807) (hRd : Reads w (.slice a xs.length cap) xs) (hn : InR (xs.length : Int)) (ca : (0 : Int) < xs.length) :
    Calls Try.prog 5 #[.slice a xs.length cap, .int .i64 (xs.length : Int)] w fun e w' => e = .returned (.bool true) ∧ Below w.heap.size w w' := by
  obtain ⟨len, hlen⟩ : ∃ len, xs.length = len := ⟨_, rfl⟩
  have HL := Lib.hid hlen
  have c1 : ¬ (len : Int) > 2000 := by omega
  obtain ⟨wb, hwb⟩ : ∃ wb, w.alloc (.cells #[.slice a len cap] 23) = wb := ⟨_, rfl⟩
  have hbx : Boxed wb w.heap.size 23 (.slice a len cap) := by rw [← hwb]; exact Boxed.new _ _ _
  have hsb : wb.heap.size = w.heap.size + 1 := by rw [← hwb]; simp
  have hBb : Below w.heap.size w wb := by rw [← hwb]; exact (Below.refl _ _).alloc (Nat.le_refl _) _
  have rd := reads_below hRd hBb
  have rdk := reads_take xs.length rd (by omega)
  rw [hlen] at rd hl hcc ⊢
  rw [hlen] at ca rdk hn
  have HRd := Lib.hid rd
  have HRk := Lib.hid rdk
  clear hlen rd rdk hRd
  have l1 : xs.length ≤ 1000000000 := by rw [HL.out]; omega
  have l2 : (xs.take len).length ≤ 1000000000 := by rw [List.length_take]; omega
  have HL1 := Lib.hid l1
  have HL2 := Lib.hid l2
  clear l1 l2
  have n1 := hn.1
  have n2 := hn.2
  have ek : xs.take (Int.toNat (len)) = xs.take len := by rw [show Int.toNat (len) = len by omega]
  have HE := Lib.hid ek
  clear ek
  refine (callsIn_wide (n := 9)).1 ?_
  refine callsIn_of_wp Try.func5 rfl trivial ?_ rfl
  simp only [Try.ntmps5, List.size_toArray, List.length_cons, List.length_nil, Nat.reduceAdd, Nat.reduceSub, Array.replicate_succ, Array.replicate_zero, List.push_toArray, List.append_toArray, List.nil_append, List.cons_append]
  have d0 := hbx.cell
  gi_wp2_with fail
  clear hwb
  refine (callsIn_wide.2 (of_makes _ xs _ HRd.out HL1.out)).mono ?_
  rintro e w1 ⟨g1, lb1, C1, rfl, -, hT1, -, hb1⟩
  have bx1 := boxed_below hbx hb1
  have d1 := bx1.cell
  gi_wp2_with fail
  refine (callsIn_wide.2 (first_makes _ C1 xs _ _ (.inr hT1) hn)).mono ?_
  rintro e w2 ⟨g2, lb2, C2, rfl, -, hT2, -, hb2⟩
  rw [HE.out] at hT2
  gi_wp2_with fail
  refine (callsIn_wide.2 (list_any _ C2 _ _ (.inr hT2) HL2.out)).mono ?_
  rintro e w3 ⟨v3, rfl, hr3, hb3⟩
  have t3 := hb2.trans (hb3.mono hb2.size)
  have bx3 := boxed_below bx1 t3
  have d3 := bx3.cell
  have hT3 := hT1.below t3
  have hmix : Try.prog.follows .mixedOrders = true := by kernel_rfl
  have s0 : Below w3.heap.size w3 w3.drew := (Below.refl _ _).drew
  have tb3 := hb1.trans (t3.mono hb1.size)
  have hs1 := (callsIn_wide (n := 8)).2 (same_yes v3 (.slice a len cap) (xs.take len) w3.drew (reads_below (reads_row hr3) s0) (reads_below (reads_below HRk.out tb3) s0) HL2.out)
  gi_wp2
  gi_region_with_o (first
    | ((with_reducible refine hs1.mono ?_); clear hs1; rintro e w4 ⟨rfl, hb4⟩; have t4 : Below w3.heap.size w3 w4 := s0.trans hb4; have bx4 := boxed_below bx3 t4; have d4 := bx4.cell; have hs2 := (callsIn_wide (n := 8)).2 (list_any _ C1 xs w4 (.inr (hT3.below t4)) HL1.out))
    | ((with_reducible refine hs2.mono ?_); clear hs2; rintro e w5 ⟨v5, rfl, hr5, hb5⟩; have t5 := t4.trans (hb5.mono t4.size); have bx5 := boxed_below bx3 t5; have d5 := bx5.cell; have hs3 := (callsIn_wide (n := 8)).2 (same_yes v5 (.slice a len cap) xs w5 (reads_row hr5) (reads_below (reads_below HRd.out tb3) t5) HL1.out))
    | ((with_reducible refine hs3.mono ?_); clear hs3; rintro e w6 ⟨rfl, hb6⟩; have t6 := t5.trans (hb6.mono t5.size); have hs4 := (callsIn_wide (n := 8)).2 (first_makes _ C1 xs _ w6 (.inr (hT3.below t6)) hn))
    | ((with_reducible refine hs4.mono ?_); clear hs4; rintro e w7 ⟨g7, lb7, C7, rfl, -, hT7, -, hb7⟩; rw [HE.out] at hT7; have t7 := t6.trans (hb7.mono t6.size); have hs5 := (callsIn_wide (n := 8)).2 (list_any _ C7 _ w7 (.inr hT7) HL2.out))
    | ((with_reducible refine hs5.mono ?_); clear hs5; rintro e w8 ⟨v8, rfl, hr8, hb8⟩; have t8 := t7.trans (hb8.mono t7.size); have hs6 := (callsIn_wide (n := 8)).2 (same_yes v8 v3 _ w8 (reads_row hr8) (reads_below (reads_row hr3) t8) HL2.out))
    | ((with_reducible refine hs6.mono ?_); clear hs6; rintro e w9 ⟨rfl, hb9⟩; have t9 := t8.trans (hb9.mono t8.size)))
  all_goals
    have bx9 := boxed_below bx3 t9
    have d9 := bx9.cell
    have rd9 := reads_below (reads_below HRd.out tb3) t9
    have z3 := tb3.size
    have z9 := t9.size
    have B9 : Below w.heap.size w w9 := (hBb.trans (tb3.mono hBb.size)).trans (t9.mono (Nat.le_trans hBb.size tb3.size))
    clear hr3 hr5 hr8 hT7 bx4 bx5 d4 d5 hb4 hb5 hb6 hb7 hb8 hb9 t4 t5 t6 t7 t8
    have d9' : ((w9.alloc (.cells #[.int .i64 len] 3)).alloc (.cells #[.bool true] 4)).cell? ⟨w.heap.size, 0, none⟩ = some (.slice a len cap) := ((bx9.alloc _).alloc _).cell
    gi_wp2_with fail
    refine (callsIn_wide.2 (back_makes _ xs _ (reads_below rd9 (((Below.refl _ _).alloc (Nat.le_refl _) _).alloc (by simp) _)) HL1.out)).mono ?_
    rintro e w11 ⟨g11, lb11, C11, rfl, hT11, hC11, hb11⟩
    have hrun := back_run a len cap w.heap.size g11 lb11 C11 xs w9 w11 HL.out hl bx9 rd9 hT11 (fun k h => by have := hC11 k h; simpa using this) hb11
    clear hT11 hC11 d9'
    gi_wp2_with ((with_reducible refine wpListIn_callV (f := .tmp 50) (y := .func (.func g11) #[] lb11) (args := #[.func (.func 21) #[] #[at0 w9.heap.size, at0 (w9.heap.size + 1), at0 w.heap.size]]) rfl rfl ?_ ?_ ?_ hrun ?_); rfl; rfl; simp [go_sem]; clear hrun; (rintro e w12 ⟨⟨v, rfl⟩, k1, k2, B12⟩); (refine ⟨_, rfl, ?_⟩); have e1 := k1.cell; have e2 := k2.cell)
    refine (callsIn_wide.2 (lives_any w12)).mono ?_
    rintro e w13 ⟨rfl, B13⟩
    gi_wp2
    go_ret
    exact ⟨rfl, (B9.trans (B12.mono B9.size)).trans (B13.mono (Nat.le_trans B9.size B12.size))⟩

set_option maxRecDepth 100000 in
set_option maxHeartbeats 8000000 in
theorem again_big (a : Option Addr) (cap : Nat) (xs : List Int) (n : Int) (w : World) (hl : xs.length ≤ 2000) (hcc : xs.length ≤ cap) (hcm : cap ≤ 9223372036854775807) (hRd : Reads w (.slice a xs.length cap) xs) (hn : InR (n : Int)) (ca : (0 : Int) < n) (cb : (xs.length : Int) < n) (h0 : 0 < xs.length) :
    Calls Try.prog 5 #[.slice a xs.length cap, .int .i64 (n : Int)] w fun e w' => e = .returned (.bool true) ∧ Below w.heap.size w w' := by
  obtain ⟨len, hlen⟩ : ∃ len, xs.length = len := ⟨_, rfl⟩
  have HL := Lib.hid hlen
  have c1 : ¬ (len : Int) > 2000 := by omega
  obtain ⟨wb, hwb⟩ : ∃ wb, w.alloc (.cells #[.slice a len cap] 23) = wb := ⟨_, rfl⟩
  have hbx : Boxed wb w.heap.size 23 (.slice a len cap) := by rw [← hwb]; exact Boxed.new _ _ _
  have hsb : wb.heap.size = w.heap.size + 1 := by rw [← hwb]; simp
  have hBb : Below w.heap.size w wb := by rw [← hwb]; exact (Below.refl _ _).alloc (Nat.le_refl _) _
  have rd := reads_below hRd hBb
  have rdk := reads_take xs.length rd (by omega)
  rw [hlen] at rd hl hcc ⊢
  rw [hlen] at cb rdk h0
  have HRd := Lib.hid rd
  have HRk := Lib.hid rdk
  clear hlen rd rdk hRd
  have l1 : xs.length ≤ 1000000000 := by rw [HL.out]; omega
  have l2 : (xs.take len).length ≤ 1000000000 := by rw [List.length_take]; omega
  have HL1 := Lib.hid l1
  have HL2 := Lib.hid l2
  clear l1 l2
  have n1 := hn.1
  have n2 := hn.2
  have ek : xs.take (Int.toNat (n)) = xs.take len := by have := HL.out; rw [List.take_of_length_le (by omega), List.take_of_length_le (by omega)]
  have HE := Lib.hid ek
  clear ek
  refine (callsIn_wide (n := 9)).1 ?_
  refine callsIn_of_wp Try.func5 rfl trivial ?_ rfl
  simp only [Try.ntmps5, List.size_toArray, List.length_cons, List.length_nil, Nat.reduceAdd, Nat.reduceSub, Array.replicate_succ, Array.replicate_zero, List.push_toArray, List.append_toArray, List.nil_append, List.cons_append]
  have d0 := hbx.cell
  gi_wp2_with fail
  clear hwb
  refine (callsIn_wide.2 (of_makes _ xs _ HRd.out HL1.out)).mono ?_
  rintro e w1 ⟨g1, lb1, C1, rfl, -, hT1, -, hb1⟩
  have bx1 := boxed_below hbx hb1
  have d1 := bx1.cell
  gi_wp2_with fail
  refine (callsIn_wide.2 (first_makes _ C1 xs _ _ (.inr hT1) hn)).mono ?_
  rintro e w2 ⟨g2, lb2, C2, rfl, -, hT2, -, hb2⟩
  rw [HE.out] at hT2
  gi_wp2_with fail
  refine (callsIn_wide.2 (list_any _ C2 _ _ (.inr hT2) HL2.out)).mono ?_
  rintro e w3 ⟨v3, rfl, hr3, hb3⟩
  have t3 := hb2.trans (hb3.mono hb2.size)
  have bx3 := boxed_below bx1 t3
  have d3 := bx3.cell
  have hT3 := hT1.below t3
  have hmix : Try.prog.follows .mixedOrders = true := by kernel_rfl
  have s0 : Below w3.heap.size w3 w3.drew := (Below.refl _ _).drew
  have tb3 := hb1.trans (t3.mono hb1.size)
  have hs1 := (callsIn_wide (n := 8)).2 (same_yes v3 (.slice a len cap) (xs.take len) w3.drew (reads_below (reads_row hr3) s0) (reads_below (reads_below HRk.out tb3) s0) HL2.out)
  gi_wp2
  gi_region_with_o (first
    | ((with_reducible refine hs1.mono ?_); clear hs1; rintro e w4 ⟨rfl, hb4⟩; have t4 : Below w3.heap.size w3 w4 := s0.trans hb4; have bx4 := boxed_below bx3 t4; have d4 := bx4.cell; have hs2 := (callsIn_wide (n := 8)).2 (list_any _ C1 xs w4 (.inr (hT3.below t4)) HL1.out))
    | ((with_reducible refine hs2.mono ?_); clear hs2; rintro e w5 ⟨v5, rfl, hr5, hb5⟩; have t5 := t4.trans (hb5.mono t4.size); have bx5 := boxed_below bx3 t5; have d5 := bx5.cell; have hs3 := (callsIn_wide (n := 8)).2 (same_yes v5 (.slice a len cap) xs w5 (reads_row hr5) (reads_below (reads_below HRd.out tb3) t5) HL1.out))
    | ((with_reducible refine hs3.mono ?_); clear hs3; rintro e w6 ⟨rfl, hb6⟩; have t6 := t5.trans (hb6.mono t5.size); have hs4 := (callsIn_wide (n := 8)).2 (first_makes _ C1 xs _ w6 (.inr (hT3.below t6)) hn))
    | ((with_reducible refine hs4.mono ?_); clear hs4; rintro e w7 ⟨g7, lb7, C7, rfl, -, hT7, -, hb7⟩; rw [HE.out] at hT7; have t7 := t6.trans (hb7.mono t6.size); have hs5 := (callsIn_wide (n := 8)).2 (list_any _ C7 _ w7 (.inr hT7) HL2.out))
    | ((with_reducible refine hs5.mono ?_); clear hs5; rintro e w8 ⟨v8, rfl, hr8, hb8⟩; have t8 := t7.trans (hb8.mono t7.size); have hs6 := (callsIn_wide (n := 8)).2 (same_yes v8 v3 _ w8 (reads_row hr8) (reads_below (reads_row hr3) t8) HL2.out))
    | ((with_reducible refine hs6.mono ?_); clear hs6; rintro e w9 ⟨rfl, hb9⟩; have t9 := t8.trans (hb9.mono t8.size)))
  all_goals
    have bx9 := boxed_below bx3 t9
    have d9 := bx9.cell
    have rd9 := reads_below (reads_below HRd.out tb3) t9
    have z3 := tb3.size
    have z9 := t9.size
    have B9 : Below w.heap.size w w9 := (hBb.trans (tb3.mono hBb.size)).trans (t9.mono (Nat.le_trans hBb.size tb3.size))
    clear hr3 hr5 hr8 hT7 bx4 bx5 d4 d5 hb4 hb5 hb6 hb7 hb8 hb9 t4 t5 t6 t7 t8
    have d9' : ((w9.alloc (.cells #[.int .i64 len] 3)).alloc (.cells #[.bool true] 4)).cell? ⟨w.heap.size, 0, none⟩ = some (.slice a len cap) := ((bx9.alloc _).alloc _).cell
    gi_wp2_with fail
    refine (callsIn_wide.2 (back_makes _ xs _ (reads_below rd9 (((Below.refl _ _).alloc (Nat.le_refl _) _).alloc (by simp) _)) HL1.out)).mono ?_
    rintro e w11 ⟨g11, lb11, C11, rfl, hT11, hC11, hb11⟩
    have hrun := back_run a len cap w.heap.size g11 lb11 C11 xs w9 w11 HL.out hl bx9 rd9 hT11 (fun k h => by have := hC11 k h; simpa using this) hb11
    clear hT11 hC11 d9'
    gi_wp2_with ((with_reducible refine wpListIn_callV (f := .tmp 50) (y := .func (.func g11) #[] lb11) (args := #[.func (.func 21) #[] #[at0 w9.heap.size, at0 (w9.heap.size + 1), at0 w.heap.size]]) rfl rfl ?_ ?_ ?_ hrun ?_); rfl; rfl; simp [go_sem]; clear hrun; (rintro e w12 ⟨⟨v, rfl⟩, k1, k2, B12⟩); (refine ⟨_, rfl, ?_⟩); have e1 := k1.cell; have e2 := k2.cell)
    refine (callsIn_wide.2 (lives_any w12)).mono ?_
    rintro e w13 ⟨rfl, B13⟩
    gi_wp2
    go_ret
    exact ⟨rfl, (B9.trans (B12.mono B9.size)).trans (B13.mono (Nat.le_trans B9.size B12.size))⟩

set_option maxRecDepth 100000 in
set_option maxHeartbeats 8000000 in
theorem again_zero (a : Option Addr) (cap : Nat) (xs : List Int) (n : Int) (w : World) (hl : xs.length ≤ 2000) (hcc : xs.length ≤ cap) (hcm : cap ≤ 9223372036854775807) (hRd : Reads w (.slice a xs.length cap) xs) (hn : InR (n : Int)) (ca : (0 : Int) < n) (cb : (xs.length : Int) < n) (h0 : xs.length = 0) :
    Calls Try.prog 5 #[.slice a xs.length cap, .int .i64 (n : Int)] w fun e w' => e = .returned (.bool true) ∧ Below w.heap.size w w' := by
  obtain ⟨len, hlen⟩ : ∃ len, xs.length = len := ⟨_, rfl⟩
  have HL := Lib.hid hlen
  have c1 : ¬ (len : Int) > 2000 := by omega
  obtain ⟨wb, hwb⟩ : ∃ wb, w.alloc (.cells #[.slice a len cap] 23) = wb := ⟨_, rfl⟩
  have hbx : Boxed wb w.heap.size 23 (.slice a len cap) := by rw [← hwb]; exact Boxed.new _ _ _
  have hsb : wb.heap.size = w.heap.size + 1 := by rw [← hwb]; simp
  have hBb : Below w.heap.size w wb := by rw [← hwb]; exact (Below.refl _ _).alloc (Nat.le_refl _) _
  have rd := reads_below hRd hBb
  have rdk := reads_take xs.length rd (by omega)
  rw [hlen] at rd hl hcc ⊢
  rw [hlen] at cb rdk h0
  subst h0
  have HRd := Lib.hid rd
  have HRk := Lib.hid rdk
  clear hlen rd rdk hRd
  have l1 : xs.length ≤ 1000000000 := by rw [HL.out]; omega
  have l2 : (xs.take 0).length ≤ 1000000000 := by rw [List.length_take]; omega
  have HL1 := Lib.hid l1
  have HL2 := Lib.hid l2
  clear l1 l2
  have n1 := hn.1
  have n2 := hn.2
  have ek : xs.take (Int.toNat (n)) = xs.take 0 := by have := HL.out; rw [List.take_of_length_le (by omega), List.take_of_length_le (by omega)]
  have HE := Lib.hid ek
  clear ek
  refine (callsIn_wide (n := 9)).1 ?_
  refine callsIn_of_wp Try.func5 rfl trivial ?_ rfl
  simp only [Try.ntmps5, List.size_toArray, List.length_cons, List.length_nil, Nat.reduceAdd, Nat.reduceSub, Array.replicate_succ, Array.replicate_zero, List.push_toArray, List.append_toArray, List.nil_append, List.cons_append]
  have d0 := hbx.cell
  gi_wp2_with fail
  clear hwb
  refine (callsIn_wide.2 (of_makes _ xs _ HRd.out HL1.out)).mono ?_
  rintro e w1 ⟨g1, lb1, C1, rfl, -, hT1, -, hb1⟩
  have bx1 := boxed_below hbx hb1
  have d1 := bx1.cell
  gi_wp2_with fail
  refine (callsIn_wide.2 (first_makes _ C1 xs _ _ (.inr hT1) hn)).mono ?_
  rintro e w2 ⟨g2, lb2, C2, rfl, -, hT2, -, hb2⟩
  rw [HE.out] at hT2
  gi_wp2_with fail
  refine (callsIn_wide.2 (list_any _ C2 _ _ (.inr hT2) HL2.out)).mono ?_
  rintro e w3 ⟨v3, rfl, hr3, hb3⟩
  have t3 := hb2.trans (hb3.mono hb2.size)
  have bx3 := boxed_below bx1 t3
  have d3 := bx3.cell
  have hT3 := hT1.below t3
  have hmix : Try.prog.follows .mixedOrders = true := by kernel_rfl
  have s0 : Below w3.heap.size w3 w3.drew := (Below.refl _ _).drew
  have tb3 := hb1.trans (t3.mono hb1.size)
  have hs1 := (callsIn_wide (n := 8)).2 (same_yes v3 (.slice a 0 cap) (xs.take 0) w3.drew (reads_below (reads_row hr3) s0) (reads_below (reads_below HRk.out tb3) s0) HL2.out)
  gi_wp2
  gi_region_with_o (first
    | ((with_reducible refine hs1.mono ?_); clear hs1; rintro e w4 ⟨rfl, hb4⟩; have t4 : Below w3.heap.size w3 w4 := s0.trans hb4; have bx4 := boxed_below bx3 t4; have d4 := bx4.cell; have hs2 := (callsIn_wide (n := 8)).2 (list_any _ C1 xs w4 (.inr (hT3.below t4)) HL1.out))
    | ((with_reducible refine hs2.mono ?_); clear hs2; rintro e w5 ⟨v5, rfl, hr5, hb5⟩; have t5 := t4.trans (hb5.mono t4.size); have bx5 := boxed_below bx3 t5; have d5 := bx5.cell; have hs3 := (callsIn_wide (n := 8)).2 (same_yes v5 (.slice a 0 cap) xs w5 (reads_row hr5) (reads_below (reads_below HRd.out tb3) t5) HL1.out))
    | ((with_reducible refine hs3.mono ?_); clear hs3; rintro e w6 ⟨rfl, hb6⟩; have t6 := t5.trans (hb6.mono t5.size); have hs4 := (callsIn_wide (n := 8)).2 (first_makes _ C1 xs _ w6 (.inr (hT3.below t6)) hn))
    | ((with_reducible refine hs4.mono ?_); clear hs4; rintro e w7 ⟨g7, lb7, C7, rfl, -, hT7, -, hb7⟩; rw [HE.out] at hT7; have t7 := t6.trans (hb7.mono t6.size); have hs5 := (callsIn_wide (n := 8)).2 (list_any _ C7 _ w7 (.inr hT7) HL2.out))
    | ((with_reducible refine hs5.mono ?_); clear hs5; rintro e w8 ⟨v8, rfl, hr8, hb8⟩; have t8 := t7.trans (hb8.mono t7.size); have hs6 := (callsIn_wide (n := 8)).2 (same_yes v8 v3 _ w8 (reads_row hr8) (reads_below (reads_row hr3) t8) HL2.out))
    | ((with_reducible refine hs6.mono ?_); clear hs6; rintro e w9 ⟨rfl, hb9⟩; have t9 := t8.trans (hb9.mono t8.size)))
  all_goals
    have bx9 := boxed_below bx3 t9
    have d9 := bx9.cell
    have rd9 := reads_below (reads_below HRd.out tb3) t9
    have z3 := tb3.size
    have z9 := t9.size
    have B9 : Below w.heap.size w w9 := (hBb.trans (tb3.mono hBb.size)).trans (t9.mono (Nat.le_trans hBb.size tb3.size))
    clear hr3 hr5 hr8 hT7 bx4 bx5 d4 d5 hb4 hb5 hb6 hb7 hb8 hb9 t4 t5 t6 t7 t8
    have d9' : ((w9.alloc (.cells #[.int .i64 0] 3)).alloc (.cells #[.bool true] 4)).cell? ⟨w.heap.size, 0, none⟩ = some (.slice a 0 cap) := ((bx9.alloc _).alloc _).cell
    gi_wp2_with fail
    refine (callsIn_wide.2 (back_makes _ xs _ (reads_below rd9 (((Below.refl _ _).alloc (Nat.le_refl _) _).alloc (by simp) _)) HL1.out)).mono ?_
    rintro e w11 ⟨g11, lb11, C11, rfl, hT11, hC11, hb11⟩
    have hrun := back_run a 0 cap w.heap.size g11 lb11 C11 xs w9 w11 HL.out hl bx9 rd9 hT11 (fun k h => by have := hC11 k h; simpa using this) hb11
    clear hT11 hC11 d9'
    gi_wp2_with ((with_reducible refine wpListIn_callV (f := .tmp 50) (y := .func (.func g11) #[] lb11) (args := #[.func (.func 21) #[] #[at0 w9.heap.size, at0 (w9.heap.size + 1), at0 w.heap.size]]) rfl rfl ?_ ?_ ?_ hrun ?_); rfl; rfl; simp [go_sem]; clear hrun; (rintro e w12 ⟨⟨v, rfl⟩, k1, k2, B12⟩); (refine ⟨_, rfl, ?_⟩); have e1 := k1.cell; have e2 := k2.cell)
    refine (callsIn_wide.2 (lives_any w12)).mono ?_
    rintro e w13 ⟨rfl, B13⟩
    gi_wp2
    go_ret
    exact ⟨rfl, (B9.trans (B12.mono B9.size)).trans (B13.mono (Nat.le_trans B9.size B12.size))⟩

theorem again_lives (a : Option Addr) (len cap : Nat) (n : Int) (w : World) (hl : len ≤ 9223372036854775807) (h : len > 2000) :
    Calls Try.prog 5 #[.slice a len cap, .int .i64 n] w fun e w' => e = .returned (.bool true) ∧ Below w.heap.size w w' := by
  have hb0 : Below w.heap.size w (w.alloc (.cells #[.slice a len cap] 23)) := (Below.refl _ _).alloc (Nat.le_refl _) _
  have c1 : (len : Int) > 2000 := by omega
  go_enter Try.func5, Try.ntmps5
  go_wp2_with (go_at_call 7; refine (lives_any _).mono ?_; rintro e w' ⟨rfl, hb⟩)
  go_ret
  exact ⟨rfl, hb0.trans (hb.mono hb0.size)⟩

theorem again_all (a : Option Addr) (len cap : Nat) (xs : List Int) (n : Int) (w : World) (hx : xs.length = len) (hc : len ≤ cap) (hm : cap ≤ 9223372036854775807) (hRd : Reads w (.slice a len cap) xs) (hn : InR n) :
    Calls Try.prog 5 #[.slice a len cap, .int .i64 n] w fun e w' => e = .returned (.bool true) ∧ Below w.heap.size w w' := by
  by_cases h : len > 2000
  · exact again_lives a len cap n w (by omega) h
  · subst hx
    by_cases c1 : n ≤ 0
    · exact again_neg a cap xs n w (by omega) hc hm hRd hn c1
    by_cases c2 : n < xs.length
    · obtain ⟨m, rfl⟩ : ∃ m : Nat, n = m := ⟨n.toNat, by omega⟩
      exact again_mid a cap xs m w (by omega) hc hm hRd hn (by omega) c2
    by_cases c3 : n = xs.length
    · subst c3
      exact again_eq a cap xs w (by omega) hc hm hRd hn (by omega)
    by_cases c4 : xs.length = 0
    · exact again_zero a cap xs n w (by omega) hc hm hRd hn (by omega) (by omega) c4
    · exact again_big a cap xs n w (by omega) hc hm hRd hn (by omega) (by omega) (by omega)

theorem reads_came (x : Addr) (len cap : Nat) (zs : List Int) (w : World) (hl : len ≤ cap) (hm : cap ≤ maxLen) (hz : zs.length = cap) (hc : ∀ i, i < zs.length → w.cell? (x.add i) = some (.int .i64 (zs.getD i 0))) :
    (zs.take len).length = len ∧ Reads w (.slice (some x) len cap) (zs.take len) := by
  unfold maxLen at hm
  have hlen : (zs.take len).length = len := by rw [List.length_take]; omega
  refine ⟨hlen, ?_⟩
  by_cases h : len = 0
  · subst h; exact .inl ⟨_, _, rfl, by simp⟩
  · obtain ⟨b, off, rfl, hb⟩ := ints_at hc (by omega)
    refine .inr ⟨b, off, cap, by rw [hlen], by omega, by omega, by omega, fun i hi => ?_⟩
    rw [hb i (by omega)]
    have h1 : i < len := by omega
    have h2 : i < zs.length := by omega
    simp [h1, h2]

end Go.Proofs.Ytmjfahjafecnnaa
