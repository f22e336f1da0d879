/- The chapter's example; ConfChecks's walk. -/
import Derived.Test.YtdhdomeckloedaaDoorChecks
namespace Go.Proofs.YtdhdomeckloedaaDoor
open Go.ChangeShapes Go.WideShapes Go.ChangeAt Go.RowKit
set_option linter.unusedVariables false
set_option linter.unusedSimpArgs false

theorem Cf.nigh_ok (c : Cf) : c.nigh.Ok := by
  have q0 := nearN_in (n := c.al) (lo := 0) (hi := 2) (by omega)
  have q1 := nearN_in (n := c.th) (lo := 1) (hi := 6) (by omega)
  have q2 := nearN_in (n := c.nd) (lo := 1) (hi := 64) (by omega)
  have q3 := nearN_in (n := c.lv) (lo := 1) (hi := 6) (by omega)
  have q4 := nearN_in (n := c.ba) (lo := 1) (hi := 16) (by omega)
  have q5 := nearN_in (n := c.pr) (lo := 1) (hi := 16) (by omega)
  have q6 := nearN_in (n := c.sc) (lo := 1) (hi := 64) (by omega)
  have qs := sent_in (nearN c.al 0 2)
  have qm : sent (nearN c.al 0 2) + 1 ≤ maxI (nearN c.nd 1 64) (sent (nearN c.al 0 2) + 1) ∧ maxI (nearN c.nd 1 64) (sent (nearN c.al 0 2) + 1) ≤ 64 := by
    unfold maxI
    split <;> omega
  exact ⟨q0.1, q0.2, q1.1, q1.2, qm.1, qm.2, q3.1, q3.2, q4.1, q4.2, q5.1, q5.2, q6.1, q6.2⟩
theorem Cf.Ok.nigh {c : Cf} (h : c.Ok) : c.nigh = c := by
  obtain ⟨al, th, nd, lv, ba, pr, sc⟩ := c
  obtain ⟨h1, h2, h3, h4, h5, h6, h7, h8, h9, h10, h11, h12, h13, h14⟩ := h
  have hs := sent_in al
  dsimp only at *
  have hm : maxI nd (sent al + 1) = nd := by
    unfold maxI
    split <;> omega
  simp only [Cf.nigh]
  rw [nearN_self h1 h2, nearN_self h3 h4, nearN_self (by omega) h6, nearN_self h7 h8, nearN_self h9 h10, nearN_self h11 h12, nearN_self h13 h14, hm]

theorem lives_any (w : World) (hl : Lims w) : Calls Tryd.prog 11 #[] w fun e w' => e = .returned (.bool true) ∧ Below w.heap.size w w' := by
  have hn : zc.nigh = lows := by
    simp [Cf.nigh, nearN, maxI, sent]
  have hN := near_any zc w hl
  rw [hn] at hN
  have hq : ∀ w, (Op.equalIn 10000 23 lows.v lows.v).run Tryd.prog w = .ok true w := fun w => by rw [eq_conf, Cf.eqB_self]
  go_enter Tryd.func11, Tryd.ntmps11
  go_wp2_with fail
  refine hN.mono ?_
  rintro e V ⟨rfl, hb⟩
  go_wp2
  go_ret
  exact ⟨rfl, hb⟩

/-- Amid ConfChecks: the configuration's box C, the near one's box N. -/
structure ChkS (c n : Cf) (w : World) (C N : Nat) (W : World) : Prop where
  q : Blk W C 23 c.cs
  p : Blk W N 23 n.cs
  lim : Lims W
  bel : Below w.heap.size w W
theorem ChkS.below {c n : Cf} {w : World} {C N : Nat} {W W1 : World} (h : ChkS c n w C N W) (hb : Below W.heap.size W W1) : ChkS c n w C N W1 :=
  ⟨h.q.below hb h.q.lt, h.p.below hb h.p.lt, h.lim.below hb (Nat.le_refl _), below_then h.bel hb (Nat.le_refl _)⟩
theorem ChkS.drew {c n : Cf} {w : World} {C N : Nat} {W : World} (h : ChkS c n w C N W) : ChkS c n w C N W.drew := ⟨h.q, h.p, ⟨h.lim.lo, h.lim.hi⟩, below_drew1 h.bel⟩
theorem ChkS.cells {c n : Cf} {w : World} {C N : Nat} {W : World} (h : ChkS c n w C N W) : W.cell? ⟨C, 0, none⟩ = some (.int .i64 c.al) ∧ W.cell? ⟨C, 1, none⟩ = some (.int .i64 c.th) ∧ W.cell? ⟨C, 2, none⟩ = some (.int .i64 c.nd) ∧ W.cell? ⟨C, 3, none⟩ = some (.int .i64 c.lv) ∧ W.cell? ⟨C, 4, none⟩ = some (.int .i64 c.ba) ∧ W.cell? ⟨C, 5, none⟩ = some (.int .i64 c.pr) ∧ W.cell? ⟨C, 6, none⟩ = some (.int .i64 c.sc) ∧ W.cell? ⟨N, 0, none⟩ = some (.int .i64 n.al) ∧ W.cell? ⟨N, 1, none⟩ = some (.int .i64 n.th) ∧ W.cell? ⟨N, 2, none⟩ = some (.int .i64 n.nd) ∧ W.cell? ⟨N, 3, none⟩ = some (.int .i64 n.lv) ∧ W.cell? ⟨N, 4, none⟩ = some (.int .i64 n.ba) ∧ W.cell? ⟨N, 5, none⟩ = some (.int .i64 n.pr) ∧ W.cell? ⟨N, 6, none⟩ = some (.int .i64 n.sc) := by
  obtain ⟨a0, a1, a2, a3, a4, a5, a6⟩ := h.q.conf
  exact ⟨a0, a1, a2, a3, a4, a5, a6, h.p.conf⟩

set_option maxRecDepth 100000 in
set_option maxHeartbeats 64000000 in
theorem checks_ok (c : Cf) (w : World) (hl : Lims w) (h : c.Ok) : Calls Tryd.prog 3 #[c.v] w fun e w' => e = .returned (.bool true) ∧ Below w.heap.size w w' := by
  have HL := Lib.hid lives_any
  have KN := near_any c
  have KRN := rnear_any c
  have KC := fun W => check_ok c W h
  have KR := fun W => right_ok c W h
  rw [h.nigh] at KN KRN
  clear h
  have hq : ∀ w, (Op.equalIn 10000 23 c.v c.v).run Tryd.prog w = .ok true w := fun w => by rw [eq_conf, Cf.eqB_self]
  go_enter Tryd.func3, Tryd.ntmps3
  go_wp2_with fail
  have hl1 := hl.below ((Below.refl w.heap.size w).alloc (Nat.le_refl _) (.cells c.cs 23)) (Nat.le_refl _)
  refine (KN _ hl1).mono ?_
  rintro e V ⟨rfl, hb⟩
  obtain ⟨hB, h0⟩ := boxed c hb
  have S0 : ChkS c c w w.heap.size V.heap.size (V.alloc (.cells c.cs 23)) := ⟨hB.alloc _, Blk.new _ _ _, (hl.below h0 (Nat.le_refl _)).below ((Below.refl V.heap.size V).alloc (Nat.le_refl _) (.cells c.cs 23)) (Nat.le_refl _), h0.alloc h0.size _⟩
  have hVw : w.heap.size ≤ V.heap.size := h0.size
  clear hb hB h0 hl hl1
  go_wp2_with fail
  have S1 := S0.drew
  obtain ⟨y0, y1, y2, y3, y4, y5, y6, y7, y8, y9, y10, y11, y12, y13⟩ := S0.cells
  clear S0
  generalize (V.alloc (.cells c.cs 23)) = U at *
  generalize V.heap.size = N at *
  generalize hCn : w.heap.size = C at *
  have HC := Lib.hid hCn
  clear hCn
  go_region_held3 (fun W => W.cell? ⟨C, 0, none⟩ = some (.int .i64 c.al) ∧ W.cell? ⟨C, 1, none⟩ = some (.int .i64 c.th) ∧ W.cell? ⟨C, 2, none⟩ = some (.int .i64 c.nd) ∧ W.cell? ⟨C, 3, none⟩ = some (.int .i64 c.lv) ∧ W.cell? ⟨C, 4, none⟩ = some (.int .i64 c.ba) ∧ W.cell? ⟨C, 5, none⟩ = some (.int .i64 c.pr) ∧ W.cell? ⟨C, 6, none⟩ = some (.int .i64 c.sc) ∧ W.cell? ⟨N, 0, none⟩ = some (.int .i64 c.al) ∧ W.cell? ⟨N, 1, none⟩ = some (.int .i64 c.th) ∧ W.cell? ⟨N, 2, none⟩ = some (.int .i64 c.nd) ∧ W.cell? ⟨N, 3, none⟩ = some (.int .i64 c.lv) ∧ W.cell? ⟨N, 4, none⟩ = some (.int .i64 c.ba) ∧ W.cell? ⟨N, 5, none⟩ = some (.int .i64 c.pr) ∧ W.cell? ⟨N, 6, none⟩ = some (.int .i64 c.sc)) (first | exact ChkS.cells (c := c) (n := c) (w := w) (C := C) (N := N) (by assumption) | go_keep)
    (first | (go_at_call 8; refine (KC _).mono ?_; rintro e V' ⟨rfl, hb⟩; have S' := ChkS.below (by assumption) hb; clear hb) | (go_at_call 9; refine (KR _).mono ?_; rintro e V' ⟨rfl, hb⟩; have S' := ChkS.below (by assumption) hb; clear hb) | (go_at_call 10; refine (KRN _).mono ?_; rintro e V' ⟨rfl, hb⟩; have S' := ChkS.below (by assumption) hb; clear hb) | (go_at_call 7; refine (KN _ (ChkS.lim (c := c) (n := c) (w := w) (C := C) (N := N) (by assumption))).mono ?_; rintro e V' ⟨rfl, hb⟩; have S' := ChkS.below (by assumption) hb; clear hb) | (go_at_call 11; refine (HL.out _ (ChkS.lim (c := c) (n := c) (w := w) (C := C) (N := N) (by assumption))).mono ?_; rintro e V' ⟨rfl, hb⟩; have S' := ChkS.below (by assumption) hb; clear hb))
  all_goals
    go_wp2
    go_ret
    exact ⟨rfl, HC.out ▸ ChkS.bel (c := c) (n := c) (C := C) (N := N) (by assumption)⟩

set_option maxRecDepth 100000 in
set_option maxHeartbeats 64000000 in
theorem checks_bad (c : Cf) (w : World) (hl : Lims w) (h : ¬ c.Ok) : Calls Tryd.prog 3 #[c.v] w fun e w' => e = .returned (.bool true) ∧ Below w.heap.size w w' := by
  have HL := Lib.hid lives_any
  have KN := near_any c
  have KRN := rnear_any c
  have KC := fun W => check_bad c W h
  have KR := fun W => right_bad c W h
  have hnk := c.nigh_ok
  have KC2 := fun W => check_ok c.nigh W hnk
  have KN2 := near_any c.nigh
  rw [hnk.nigh] at KN2
  generalize c.nigh = n at *
  clear h hnk
  have hq : ∀ w, (Op.equalIn 10000 23 n.v n.v).run Tryd.prog w = .ok true w := fun w => by rw [eq_conf, Cf.eqB_self]
  go_enter Tryd.func3, Tryd.ntmps3
  go_wp2_with fail
  have hl1 := hl.below ((Below.refl w.heap.size w).alloc (Nat.le_refl _) (.cells c.cs 23)) (Nat.le_refl _)
  refine (KN _ hl1).mono ?_
  rintro e V ⟨rfl, hb⟩
  obtain ⟨hB, h0⟩ := boxed c hb
  have S0 : ChkS c n w w.heap.size V.heap.size (V.alloc (.cells n.cs 23)) := ⟨hB.alloc _, Blk.new _ _ _, (hl.below h0 (Nat.le_refl _)).below ((Below.refl V.heap.size V).alloc (Nat.le_refl _) (.cells n.cs 23)) (Nat.le_refl _), h0.alloc h0.size _⟩
  have hVw : w.heap.size ≤ V.heap.size := h0.size
  clear hb hB h0 hl hl1
  go_wp2_with fail
  have S1 := S0.drew
  obtain ⟨y0, y1, y2, y3, y4, y5, y6, y7, y8, y9, y10, y11, y12, y13⟩ := S0.cells
  clear S0
  generalize (V.alloc (.cells n.cs 23)) = U at *
  generalize V.heap.size = N at *
  generalize hCn : w.heap.size = C at *
  have HC := Lib.hid hCn
  clear hCn
  refine wp_region_held_drew (S := fun W => W.cell? ⟨C, 0, none⟩ = some (.int .i64 c.al) ∧ W.cell? ⟨C, 1, none⟩ = some (.int .i64 c.th) ∧ W.cell? ⟨C, 2, none⟩ = some (.int .i64 c.nd) ∧ W.cell? ⟨C, 3, none⟩ = some (.int .i64 c.lv) ∧ W.cell? ⟨C, 4, none⟩ = some (.int .i64 c.ba) ∧ W.cell? ⟨C, 5, none⟩ = some (.int .i64 c.pr) ∧ W.cell? ⟨C, 6, none⟩ = some (.int .i64 c.sc) ∧ W.cell? ⟨N, 0, none⟩ = some (.int .i64 n.al) ∧ W.cell? ⟨N, 1, none⟩ = some (.int .i64 n.th) ∧ W.cell? ⟨N, 2, none⟩ = some (.int .i64 n.nd) ∧ W.cell? ⟨N, 3, none⟩ = some (.int .i64 n.lv) ∧ W.cell? ⟨N, 4, none⟩ = some (.int .i64 n.ba) ∧ W.cell? ⟨N, 5, none⟩ = some (.int .i64 n.pr) ∧ W.cell? ⟨N, 6, none⟩ = some (.int .i64 n.sc)) (by kernel_rfl) ?_ (fun hHeld => ?_)
  focus exact ChkS.cells S1
  refine wpAnyH_take (i := 0) (oi := _) (v := ?_) rfl (by kernel_rfl) (by kernel_rfl) (by kernel_rfl) (fun _ _ _ h => h) (Or.inl ⟨by rfl, ?_⟩) (by assumption) ?_
  rotate_left
  focus (intro w hSw; (try dsimp only at hSw); go_simp; (try with_reducible rfl))
  simp only [List.getElem_toArray, List.getElem_cons_succ, List.getElem_cons_zero, Act.put, List.setIfInBounds_toArray, List.set_cons_zero, List.set_cons_succ]
  refine wpAnyH_take (i := 3) (oi := _) (v := ?_) rfl (by kernel_rfl) (by kernel_rfl) (by kernel_rfl) (fun _ _ _ h => h) (Or.inl ⟨by rfl, ?_⟩) (by assumption) ?_
  rotate_left
  focus (intro w hSw; (try dsimp only at hSw); go_simp; (try with_reducible rfl))
  simp only [List.getElem_toArray, List.getElem_cons_succ, List.getElem_cons_zero, Act.put, List.setIfInBounds_toArray, List.set_cons_zero, List.set_cons_succ]
  refine wpAnyH_ready (rs := [1]) (by kernel_rfl) (by simp) ?_
  refine AllReadyH.cons (o := _) rfl (fun K hK => ?_) AllReadyH.nil
  go_simp
  refine (KC _).mono ?_
  rintro e V' ⟨rfl, hb⟩
  have S' := ChkS.below (by assumption) hb
  clear hb
  (try go_wp2_with fail)
  refine hK.out _ _ ?_ (fun hHeld => ?_)
  focus exact ChkS.cells S'
  clear hK K
  (try simp only [List.getElem_toArray, List.getElem_cons_succ, List.getElem_cons_zero, Act.put, List.setIfInBounds_toArray, List.set_cons_zero, List.set_cons_succ])
  refine wpAnyH_take (i := 2) (oi := _) (v := ?_) rfl (by kernel_rfl) (by kernel_rfl) (by kernel_rfl) (fun _ _ _ h => h) (Or.inl ⟨by rfl, ?_⟩) (by assumption) ?_
  rotate_left
  focus (intro w hSw; (try dsimp only at hSw); go_simp; (try with_reducible rfl))
  simp only [List.getElem_toArray, List.getElem_cons_succ, List.getElem_cons_zero, Act.put, List.setIfInBounds_toArray, List.set_cons_zero, List.set_cons_succ]
  refine wpAnyH_ready (rs := [4]) (by kernel_rfl) (by simp) ?_
  refine AllReadyH.cons (o := _) rfl (fun K hK => ?_) AllReadyH.nil
  go_simp
  refine (KR _).mono ?_
  rintro e V' ⟨rfl, hb⟩
  have S' := ChkS.below (by assumption) hb
  clear hb
  (try go_wp2_with fail)
  refine hK.out _ _ ?_ (fun hHeld => ?_)
  focus exact ChkS.cells S'
  clear hK K
  (try simp only [List.getElem_toArray, List.getElem_cons_succ, List.getElem_cons_zero, Act.put, List.setIfInBounds_toArray, List.set_cons_zero, List.set_cons_succ])
  refine wpAnyH_take (i := 5) (oi := _) (v := ?_) rfl (by kernel_rfl) (by kernel_rfl) (by kernel_rfl) (fun _ _ _ h => h) (Or.inl ⟨by rfl, ?_⟩) (by assumption) ?_
  rotate_left
  focus (intro w hSw; (try dsimp only at hSw); go_simp; (try with_reducible rfl))
  simp only [List.getElem_toArray, List.getElem_cons_succ, List.getElem_cons_zero, Act.put, List.setIfInBounds_toArray, List.set_cons_zero, List.set_cons_succ]
  refine wpAnyH_take (i := 6) (oi := _) (v := ?_) rfl (by kernel_rfl) (by kernel_rfl) (by kernel_rfl) (fun _ _ _ h => h) (Or.inl ⟨by rfl, ?_⟩) (by assumption) ?_
  rotate_left
  focus (intro w hSw; (try dsimp only at hSw); go_simp; (try with_reducible rfl))
  simp only [List.getElem_toArray, List.getElem_cons_succ, List.getElem_cons_zero, Act.put, List.setIfInBounds_toArray, List.set_cons_zero, List.set_cons_succ]
  refine wpAnyH_take (i := 7) (oi := _) (v := ?_) rfl (by kernel_rfl) (by kernel_rfl) (by kernel_rfl) (fun _ _ _ h => h) (Or.inl ⟨by rfl, ?_⟩) (by assumption) ?_
  rotate_left
  focus (intro w hSw; (try dsimp only at hSw); go_simp; (try with_reducible rfl))
  simp only [List.getElem_toArray, List.getElem_cons_succ, List.getElem_cons_zero, Act.put, List.setIfInBounds_toArray, List.set_cons_zero, List.set_cons_succ]
  refine wpAnyH_take (i := 8) (oi := _) (v := ?_) rfl (by kernel_rfl) (by kernel_rfl) (by kernel_rfl) (fun _ _ _ h => h) (Or.inl ⟨by rfl, ?_⟩) (by assumption) ?_
  rotate_left
  focus (intro w hSw; (try dsimp only at hSw); go_simp; (try with_reducible rfl))
  simp only [List.getElem_toArray, List.getElem_cons_succ, List.getElem_cons_zero, Act.put, List.setIfInBounds_toArray, List.set_cons_zero, List.set_cons_succ]
  refine wpAnyH_ready (rs := [9]) (by kernel_rfl) (by simp) ?_
  refine AllReadyH.cons (o := _) rfl (fun K hK => ?_) AllReadyH.nil
  go_simp
  refine (KRN _).mono ?_
  rintro e V' ⟨rfl, hb⟩
  have S' := ChkS.below (by assumption) hb
  clear hb
  (try go_wp2_with fail)
  refine hK.out _ _ ?_ (fun hHeld => ?_)
  focus exact ChkS.cells S'
  clear hK K
  (try simp only [List.getElem_toArray, List.getElem_cons_succ, List.getElem_cons_zero, Act.put, List.setIfInBounds_toArray, List.set_cons_zero, List.set_cons_succ])
  refine wpAnyH_take (i := 10) (oi := _) (v := ?_) rfl (by kernel_rfl) (by kernel_rfl) (by kernel_rfl) (fun _ _ _ h => h) (Or.inl ⟨by rfl, ?_⟩) (by assumption) ?_
  rotate_left
  focus (intro w hSw; (try dsimp only at hSw); go_simp; (try with_reducible rfl))
  simp only [List.getElem_toArray, List.getElem_cons_succ, List.getElem_cons_zero, Act.put, List.setIfInBounds_toArray, List.set_cons_zero, List.set_cons_succ]
  refine wpAnyH_take (i := 11) (oi := _) (v := ?_) rfl (by kernel_rfl) (by kernel_rfl) (by kernel_rfl) (fun _ _ _ h => h) (Or.inl ⟨by rfl, ?_⟩) (by assumption) ?_
  rotate_left
  focus (intro w hSw; (try dsimp only at hSw); go_simp; (try with_reducible rfl))
  simp only [List.getElem_toArray, List.getElem_cons_succ, List.getElem_cons_zero, Act.put, List.setIfInBounds_toArray, List.set_cons_zero, List.set_cons_succ]
  refine wpAnyH_take (i := 12) (oi := _) (v := ?_) rfl (by kernel_rfl) (by kernel_rfl) (by kernel_rfl) (fun _ _ _ h => h) (Or.inl ⟨by rfl, ?_⟩) (by assumption) ?_
  rotate_left
  focus (intro w hSw; (try dsimp only at hSw); go_simp; (try with_reducible rfl))
  simp only [List.getElem_toArray, List.getElem_cons_succ, List.getElem_cons_zero, Act.put, List.setIfInBounds_toArray, List.set_cons_zero, List.set_cons_succ]
  refine wpAnyH_take (i := 13) (oi := _) (v := ?_) rfl (by kernel_rfl) (by kernel_rfl) (by kernel_rfl) (fun _ _ _ h => h) (Or.inl ⟨by rfl, ?_⟩) (by assumption) ?_
  rotate_left
  focus (intro w hSw; (try dsimp only at hSw); go_simp; (try with_reducible rfl))
  simp only [List.getElem_toArray, List.getElem_cons_succ, List.getElem_cons_zero, Act.put, List.setIfInBounds_toArray, List.set_cons_zero, List.set_cons_succ]
  refine wpAnyH_ready (rs := [14]) (by kernel_rfl) (by simp) ?_
  refine AllReadyH.cons (o := _) rfl (fun K hK => ?_) AllReadyH.nil
  go_simp
  refine (KC2 _).mono ?_
  rintro e V' ⟨rfl, hb⟩
  have S' := ChkS.below (by assumption) hb
  clear hb
  (try go_wp2_with fail)
  refine hK.out _ _ ?_ (fun hHeld => ?_)
  focus exact ChkS.cells S'
  clear hK K
  (try simp only [List.getElem_toArray, List.getElem_cons_succ, List.getElem_cons_zero, Act.put, List.setIfInBounds_toArray, List.set_cons_zero, List.set_cons_succ])
  refine wpAnyH_take (i := 15) (oi := _) (v := ?_) rfl (by kernel_rfl) (by kernel_rfl) (by kernel_rfl) (fun _ _ _ h => h) (Or.inl ⟨by rfl, ?_⟩) (by assumption) ?_
  rotate_left
  focus (intro w hSw; (try dsimp only at hSw); go_simp; (try with_reducible rfl))
  simp only [List.getElem_toArray, List.getElem_cons_succ, List.getElem_cons_zero, Act.put, List.setIfInBounds_toArray, List.set_cons_zero, List.set_cons_succ]
  refine wpAnyH_take (i := 16) (oi := _) (v := ?_) rfl (by kernel_rfl) (by kernel_rfl) (by kernel_rfl) (fun _ _ _ h => h) (Or.inl ⟨by rfl, ?_⟩) (by assumption) ?_
  rotate_left
  focus (intro w hSw; (try dsimp only at hSw); go_simp; (try with_reducible rfl))
  simp only [List.getElem_toArray, List.getElem_cons_succ, List.getElem_cons_zero, Act.put, List.setIfInBounds_toArray, List.set_cons_zero, List.set_cons_succ]
  refine wpAnyH_take (i := 17) (oi := _) (v := ?_) rfl (by kernel_rfl) (by kernel_rfl) (by kernel_rfl) (fun _ _ _ h => h) (Or.inl ⟨by rfl, ?_⟩) (by assumption) ?_
  rotate_left
  focus (intro w hSw; (try dsimp only at hSw); go_simp; (try with_reducible rfl))
  simp only [List.getElem_toArray, List.getElem_cons_succ, List.getElem_cons_zero, Act.put, List.setIfInBounds_toArray, List.set_cons_zero, List.set_cons_succ]
  refine wpAnyH_take (i := 18) (oi := _) (v := ?_) rfl (by kernel_rfl) (by kernel_rfl) (by kernel_rfl) (fun _ _ _ h => h) (Or.inl ⟨by rfl, ?_⟩) (by assumption) ?_
  rotate_left
  focus (intro w hSw; (try dsimp only at hSw); go_simp; (try with_reducible rfl))
  simp only [List.getElem_toArray, List.getElem_cons_succ, List.getElem_cons_zero, Act.put, List.setIfInBounds_toArray, List.set_cons_zero, List.set_cons_succ]
  refine wpAnyH_take (i := 20) (oi := _) (v := ?_) rfl (by kernel_rfl) (by kernel_rfl) (by kernel_rfl) (fun _ _ _ h => h) (Or.inl ⟨by rfl, ?_⟩) (by assumption) ?_
  rotate_left
  focus (intro w hSw; (try dsimp only at hSw); go_simp; (try with_reducible rfl))
  simp only [List.getElem_toArray, List.getElem_cons_succ, List.getElem_cons_zero, Act.put, List.setIfInBounds_toArray, List.set_cons_zero, List.set_cons_succ]
  refine wpAnyH_ready (rs := [19]) (by kernel_rfl) (by simp) ?_
  refine AllReadyH.cons (o := _) rfl (fun K hK => ?_) AllReadyH.nil
  go_simp
  refine (KN2 _ (ChkS.lim (c := c) (n := n) (w := w) (C := C) (N := N) (by assumption))).mono ?_
  rintro e V' ⟨rfl, hb⟩
  have S' := ChkS.below (by assumption) hb
  clear hb
  (try go_wp2_with fail)
  refine hK.out _ _ ?_ (fun hHeld => ?_)
  focus exact ChkS.cells S'
  clear hK K
  (try simp only [List.getElem_toArray, List.getElem_cons_succ, List.getElem_cons_zero, Act.put, List.setIfInBounds_toArray, List.set_cons_zero, List.set_cons_succ])
  refine wpAnyH_take (i := 21) (oi := _) (v := ?_) rfl (by kernel_rfl) (by kernel_rfl) (by kernel_rfl) (fun _ _ _ h => h) (Or.inl ⟨by rfl, ?_⟩) (by assumption) ?_
  rotate_left
  focus (intro w hSw; (try dsimp only at hSw); go_simp; (try with_reducible rfl))
  simp only [List.getElem_toArray, List.getElem_cons_succ, List.getElem_cons_zero, Act.put, List.setIfInBounds_toArray, List.set_cons_zero, List.set_cons_succ]
  refine wpAnyH_take (i := 22) (oi := _) (v := ?_) rfl (by kernel_rfl) (by kernel_rfl) (by kernel_rfl) (fun _ _ _ h => h) (Or.inl ⟨by rfl, ?_⟩) (by assumption) ?_
  rotate_left
  focus (intro w hSw; (try dsimp only at hSw); go_simp; (try with_reducible rfl))
  simp only [List.getElem_toArray, List.getElem_cons_succ, List.getElem_cons_zero, Act.put, List.setIfInBounds_toArray, List.set_cons_zero, List.set_cons_succ]
  refine wpAnyH_take (i := 23) (oi := _) (v := ?_) rfl (by kernel_rfl) (by kernel_rfl) (by kernel_rfl) (fun _ _ _ h => h) (Or.inl ⟨by rfl, ?_⟩) (by assumption) ?_
  rotate_left
  focus (intro w hSw; (try dsimp only at hSw); go_simp; (try with_reducible rfl))
  simp only [List.getElem_toArray, List.getElem_cons_succ, List.getElem_cons_zero, Act.put, List.setIfInBounds_toArray, List.set_cons_zero, List.set_cons_succ]
  refine wpAnyH_take (i := 24) (oi := _) (v := ?_) rfl (by kernel_rfl) (by kernel_rfl) (by kernel_rfl) (fun _ _ _ h => h) (Or.inl ⟨by rfl, ?_⟩) (by assumption) ?_
  rotate_left
  focus (intro w hSw; (try dsimp only at hSw); go_simp; (try with_reducible rfl))
  simp only [List.getElem_toArray, List.getElem_cons_succ, List.getElem_cons_zero, Act.put, List.setIfInBounds_toArray, List.set_cons_zero, List.set_cons_succ]
  refine wpAnyH_ready (rs := [25]) (by kernel_rfl) (by simp) ?_
  refine AllReadyH.cons (o := _) rfl (fun K hK => ?_) AllReadyH.nil
  go_simp
  refine (KC _).mono ?_
  rintro e V' ⟨rfl, hb⟩
  have S' := ChkS.below (by assumption) hb
  clear hb
  (try go_wp2_with fail)
  refine hK.out _ _ ?_ (fun hHeld => ?_)
  focus exact ChkS.cells S'
  clear hK K
  (try simp only [List.getElem_toArray, List.getElem_cons_succ, List.getElem_cons_zero, Act.put, List.setIfInBounds_toArray, List.set_cons_zero, List.set_cons_succ])
  refine wpAnyH_take (i := 26) (oi := _) (v := ?_) rfl (by kernel_rfl) (by kernel_rfl) (by kernel_rfl) (fun _ _ _ h => h) (Or.inl ⟨by rfl, ?_⟩) (by assumption) ?_
  rotate_left
  focus (intro w hSw; (try dsimp only at hSw); go_simp; (try with_reducible rfl))
  simp only [List.getElem_toArray, List.getElem_cons_succ, List.getElem_cons_zero, Act.put, List.setIfInBounds_toArray, List.set_cons_zero, List.set_cons_succ]
  refine wpAnyH_take (i := 27) (oi := _) (v := ?_) rfl (by kernel_rfl) (by kernel_rfl) (by kernel_rfl) (fun _ _ _ h => h) (Or.inl ⟨by rfl, ?_⟩) (by assumption) ?_
  rotate_left
  focus (intro w hSw; (try dsimp only at hSw); go_simp; (try with_reducible rfl))
  simp only [List.getElem_toArray, List.getElem_cons_succ, List.getElem_cons_zero, Act.put, List.setIfInBounds_toArray, List.set_cons_zero, List.set_cons_succ]
  refine wpAnyH_take (i := 28) (oi := _) (v := undef) rfl (by kernel_rfl) (by kernel_rfl) (by kernel_rfl) (fun _ _ _ h => h) (Or.inr ⟨by rfl, rfl⟩) (by assumption) ?_
  simp only [List.getElem_toArray, List.getElem_cons_succ, List.getElem_cons_zero, Act.put, List.setIfInBounds_toArray, List.set_cons_zero, List.set_cons_succ]
  refine wpAnyH_take (i := 29) (oi := _) (v := undef) rfl (by kernel_rfl) (by kernel_rfl) (by kernel_rfl) (fun _ _ _ h => h) (Or.inr ⟨by rfl, rfl⟩) (by assumption) ?_
  simp only [List.getElem_toArray, List.getElem_cons_succ, List.getElem_cons_zero, Act.put, List.setIfInBounds_toArray, List.set_cons_zero, List.set_cons_succ]
  refine wpAnyH_take (i := 30) (oi := _) (v := undef) rfl (by kernel_rfl) (by kernel_rfl) (by kernel_rfl) (fun _ _ _ h => h) (Or.inr ⟨by rfl, rfl⟩) (by assumption) ?_
  simp only [List.getElem_toArray, List.getElem_cons_succ, List.getElem_cons_zero, Act.put, List.setIfInBounds_toArray, List.set_cons_zero, List.set_cons_succ]
  refine wpAnyH_take (i := 31) (oi := _) (v := ?_) rfl (by kernel_rfl) (by kernel_rfl) (by kernel_rfl) (fun _ _ _ h => h) (Or.inl ⟨by rfl, ?_⟩) (by assumption) ?_
  rotate_left
  focus (intro w hSw; (try dsimp only at hSw); go_simp; (try with_reducible rfl))
  simp only [List.getElem_toArray, List.getElem_cons_succ, List.getElem_cons_zero, Act.put, List.setIfInBounds_toArray, List.set_cons_zero, List.set_cons_succ]
  refine wpAnyH_take (i := 32) (oi := _) (v := ?_) rfl (by kernel_rfl) (by kernel_rfl) (by kernel_rfl) (fun _ _ _ h => h) (Or.inl ⟨by rfl, ?_⟩) (by assumption) ?_
  rotate_left
  focus (intro w hSw; (try dsimp only at hSw); go_simp; (try with_reducible rfl))
  simp only [List.getElem_toArray, List.getElem_cons_succ, List.getElem_cons_zero, Act.put, List.setIfInBounds_toArray, List.set_cons_zero, List.set_cons_succ]
  refine wpAnyH_take (i := 33) (oi := _) (v := ?_) rfl (by kernel_rfl) (by kernel_rfl) (by kernel_rfl) (fun _ _ _ h => h) (Or.inl ⟨by rfl, ?_⟩) (by assumption) ?_
  rotate_left
  focus (intro w hSw; (try dsimp only at hSw); go_simp; (try with_reducible rfl))
  simp only [List.getElem_toArray, List.getElem_cons_succ, List.getElem_cons_zero, Act.put, List.setIfInBounds_toArray, List.set_cons_zero, List.set_cons_succ]
  refine wpAnyH_ready (rs := [34]) (by kernel_rfl) (by simp) ?_
  refine AllReadyH.cons (o := _) rfl (fun K hK => ?_) AllReadyH.nil
  go_simp
  refine (HL.out _ (ChkS.lim (c := c) (n := n) (w := w) (C := C) (N := N) (by assumption))).mono ?_
  rintro e V' ⟨rfl, hb⟩
  have S' := ChkS.below (by assumption) hb
  clear hb
  (try go_wp2_with fail)
  refine hK.out _ _ ?_ (fun hHeld => ?_)
  focus exact ChkS.cells S'
  clear hK K
  (try simp only [List.getElem_toArray, List.getElem_cons_succ, List.getElem_cons_zero, Act.put, List.setIfInBounds_toArray, List.set_cons_zero, List.set_cons_succ])
  refine wpAnyH_take (i := 35) (oi := _) (v := ?_) rfl (by kernel_rfl) (by kernel_rfl) (by kernel_rfl) (fun _ _ _ h => h) (Or.inl ⟨by rfl, ?_⟩) (by assumption) ?_
  rotate_left
  focus (intro w hSw; (try dsimp only at hSw); go_simp; (try with_reducible rfl))
  simp only [List.getElem_toArray, List.getElem_cons_succ, List.getElem_cons_zero, Act.put, List.setIfInBounds_toArray, List.set_cons_zero, List.set_cons_succ]
  refine wpAnyH_take (i := 36) (oi := _) (v := ?_) rfl (by kernel_rfl) (by kernel_rfl) (by kernel_rfl) (fun _ _ _ h => h) (Or.inl ⟨by rfl, ?_⟩) (by assumption) ?_
  rotate_left
  focus (intro w hSw; (try dsimp only at hSw); go_simp; (try with_reducible rfl))
  simp only [List.getElem_toArray, List.getElem_cons_succ, List.getElem_cons_zero, Act.put, List.setIfInBounds_toArray, List.set_cons_zero, List.set_cons_succ]
  refine wpAnyH_done (by kernel_rfl) ?_ _
  all_goals
    go_wp2
    go_ret
    exact ⟨rfl, HC.out ▸ ChkS.bel (c := c) (n := n) (C := C) (N := N) (by assumption)⟩
theorem checks_all (c : Cf) (w : World) (hl : Lims w) : Calls Tryd.prog 3 #[c.v] w fun e w' => e = .returned (.bool true) ∧ Below w.heap.size w w' := by
  by_cases h : c.Ok
  · exact checks_ok c w hl h
  · exact checks_bad c w hl h
end Go.Proofs.YtdhdomeckloedaaDoor
