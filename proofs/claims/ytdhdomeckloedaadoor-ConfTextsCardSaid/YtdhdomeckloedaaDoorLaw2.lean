/- Bytes behind a configuration's own; ConfTexts's walk. -/
import Derived.Test.YtdhdomeckloedaaDoorParsed
import Derived.Test.YtdhdomeckloedaaDoorLaw4
import Derived.ArgAppend
import Derived.Deep.Upon
namespace Go.Proofs.YtdhdomeckloedaaDoor
open Go.ChangeShapes Go.WideShapes Go.ChangeAt Go.RowKit
set_option linter.unusedVariables false
set_option linter.unusedSimpArgs false

theorem byteAt_left (xs zs : List Int) (j : Nat) (h : j < xs.length) : byteAt (xs ++ zs) j = byteAt xs j := by
  simp [byteAt, List.getD_eq_getElem?_getD, List.getElem?_append_left h]
theorem byteAt_right (xs zs : List Int) (j : Nat) (h : xs.length ≤ j) : byteAt (xs ++ zs) j = byteAt zs (j - xs.length) := by
  simp [byteAt, List.getD_eq_getElem?_getD, List.getElem?_append_right h]
theorem below_grownBy {w w' : World} (h : w.grownBy w' none) : Below w.heap.size w w' := ⟨h.os, h.tape, h.output, h.size, fun k hk => h.block k hk (by simp)⟩

/-- Bytes behind seven bytes of one's own: a slice that reads as all of them. -/
theorem run_append_bytes (w : World) (B : Nat) (xs zs : List Int) (a : Option Addr) (n cap : Nat) (hb : Blk w B 5 (encB xs).toArray) (hl : xs.length = 7) (hx : ∀ j, 0 ≤ byteAt xs j ∧ byteAt xs j < 256) (hr : Rd w a n cap zs) (hn : n ≤ 200) :
    ∃ a' cap' w', (Builtin.append_ #[29, 29] 29 #[.slice (some ⟨B, 0, none⟩) 7 7, .slice a n cap]).run Tryd.prog w = .ok (.slice a' (7 + n) cap') w' ∧ Rd w' a' (7 + n) cap' (xs ++ zs) ∧ Below w.heap.size w w' := by
  obtain ⟨i, hi, h0, h1, h2⟩ := info_parts info5
  have hxs : ∀ j u, (encB xs)[j]? = some u → w.cell? ((⟨B, 0, none⟩ : Addr).add j) = some u := by
    intro j u hu
    rw [Go.WideShapes.add_plain, Nat.zero_add, hb.cell j]
    simpa using hu
  have hby : ∀ j, 0 ≤ byteAt (xs ++ zs) j ∧ byteAt (xs ++ zs) j < 256 := by
    intro j
    rcases Nat.lt_or_ge j xs.length with h | h
    · rw [byteAt_left _ _ _ h]; exact hx j
    · rw [byteAt_right _ _ _ h]; exact hr.bytes _
  have hzl := hr.len
  by_cases hz : n = 0
  · subst hz
    have hz0 : zs = [] := by simpa using hzl
    subst hz0
    have hsrc : Src Tryd.prog i.size 29 (.slice a 0 cap) 0 [] w := by
      rcases hr.form with ⟨rfl, _, rfl⟩ | ⟨x, rfl, _⟩
      · exact Src.ofNil _ Tryd.underlying29 _
      · exact Src.ofSlice _ Tryd.underlying29 x 0 cap [] (by simp) (by simp) (by simp)
    refine ⟨_, _, _, run_append_nothing w 29 29 29 5 i Tryd.underlying29 hi (some ⟨B, 0, none⟩) 7 7 (by omega) _ hsrc, ⟨by simp [hl], ⟨by omega, by decide⟩, .inr ⟨_, rfl, ?_⟩, hby⟩, Below.refl _ _⟩
    rw [List.append_nil]
    exact hxs
  · rcases hr.form with ⟨_, h, _⟩ | ⟨x, rfl, hc⟩
    · exact absurd h hz
    obtain ⟨v', w', hrun, hown, hg⟩ := run_append_arg_grows (P := Tryd.prog) w 29 29 5 i (.int .u8 0) 1 1 Tryd.underlying29 hi h0 h1 h2 rfl (by decide) ⟨B, 0, none⟩ 7 7 (encB xs) (by simp [encB, hl]) hxs x n cap (encB zs) (by simp [encB, hzl]) hc (by omega) (by unfold maxLen; omega) (by omega)
    obtain ⟨_, h⟩ := hown
    rcases h with ⟨_, h⟩ | ⟨g, cap', cur, rfl, hlow, hheap, hle, hmx, _, htake⟩
    · omega
    refine ⟨_, _, _, hrun, ⟨by simp [hl, hzl], ⟨hle, hmx⟩, .inr ⟨_, rfl, fun j u hu => ?_⟩, hby⟩, below_grownBy hg⟩
    have hj : j < 7 + n := by
      have := (List.getElem?_eq_some_iff.1 hu).1
      simp [encB, hl, hzl] at this
      omega
    rw [Go.WideShapes.add_plain, Nat.zero_add, cell_of_row w' g j cur 5 (0, 0) hheap]
    have e : encB (xs ++ zs) = cur.toList.take ((7 + n) * 1) := by rw [htake]; simp [encB]
    rw [e, List.getElem?_take, if_pos (by omega)] at hu
    simpa using hu

theorem wpList_append_bytes {ops : Array Oper} {rest : List Oper} {o : Oper} {act : Act} {w : World} {Q : Exit → Act → World → Prop} (hgd : o.guard = none) (s x : Operand)
    (hop : o.op = Op.call { callee := Callee.builtin Builtin.append, args := #[s, x], argTypes := #[29, 29] }) (hty : o.type = 29)
    (B : Nat) (xs zs : List Int) (a : Option Addr) (n cap : Nat) (hs : act.eval s = .slice (some ⟨B, 0, none⟩) 7 7) (hx : act.eval x = .slice a n cap)
    (hb : Blk w B 5 (encB xs).toArray) (hl : xs.length = 7) (hxb : ∀ j, 0 ≤ byteAt xs j ∧ byteAt xs j < 256) (hr : Rd w a n cap zs) (hn : n ≤ 200)
    (h : ∀ a' cap' w', Rd w' a' (7 + n) cap' (xs ++ zs) → Below w.heap.size w w' → wpList Tryd.prog ops Q rest (act.put o.dst (.slice a' (7 + n) cap')) w') : wpList Tryd.prog ops Q (o :: rest) act w := by
  refine wpList_plain hgd fun K hK => ?_
  obtain ⟨a', cap', w', hrun, h1, h2⟩ := run_append_bytes w B xs zs a n cap hb hl hxb hr hn
  unfold Oper.wp
  simp [execOp, hop, hty, resolve, invoke, builtin, hs, hx, hrun, Result.andThen]
  exact hK _ _ (h a' cap' w' h1 h2)
/-- Amid ConfTexts: the configuration's box C. -/
structure TxS (c : Cf) (w : World) (C : Nat) (W : World) : Prop where
  q : Blk W C 23 c.cs
  bel : Below w.heap.size w W
theorem TxS.below {c : Cf} {w : World} {C : Nat} {W W1 : World} (h : TxS c w C W) (hb : Below W.heap.size W W1) : TxS c w C W1 := ⟨h.q.below hb h.q.lt, below_then h.bel hb (Nat.le_refl _)⟩
theorem TxS.drew {c : Cf} {w : World} {C : Nat} {W : World} (h : TxS c w C W) : TxS c w C W.drew := ⟨h.q, below_drew1 h.bel⟩
theorem TxS.alloc {c : Cf} {w : World} {C : Nat} {W : World} (h : TxS c w C W) (o : Obj) : TxS c w C (W.alloc o) := ⟨h.q.alloc o, h.bel.alloc h.bel.size o⟩

theorem texts_far (c : Cf) (a : Option Addr) (n cap : Nat) (w : World) (hE : Env w) (h : 200 < n) : Calls Tryd.prog 4 #[c.v, .slice a n cap] w (Good w) := by
  have g : (200 : Int) < n := by omega
  have b0 := (Below.refl w.heap.size w).alloc (Nat.le_refl _) (.cells c.cs 23)
  have KL := lives_any _ (hE.below b0).lim
  go_enter Tryd.func4, Tryd.ntmps4
  go_wp2_with fail
  refine KL.mono ?_
  rintro e V ⟨rfl, hb⟩
  go_wp2
  go_ret
  exact ⟨rfl, below_then b0 hb (Nat.le_refl _)⟩
set_option maxRecDepth 100000 in
set_option maxHeartbeats 8000000 in
theorem texts_bad (c : Cf) (a : Option Addr) (n cap : Nat) (w : World) (hE : Env w) (hn : n ≤ 200) (h : ¬ c.Ok) : Calls Tryd.prog 4 #[c.v, .slice a n cap] w (Good w) := by
  have g : ¬ (200 : Int) < n := by omega
  have b0 := (Below.refl w.heap.size w).alloc (Nat.le_refl _) (.cells c.cs 23)
  have KL := fun W hb => lives_any W (hE.below (w' := W) hb).lim
  have KS := fun W => show_bad c W h
  have KC := fun W => code_bad c W h
  have KF := fun W => rshow_bad c W h
  have KR := fun W => right_bad c W h
  have qs := fun w => eq_str [63] [63] w
  rw [beq_self_eq_true] at qs
  have S0 : TxS c w w.heap.size (w.alloc (.cells c.cs 23)) := ⟨Blk.new _ _ _, b0⟩
  clear h hn b0 hE
  go_enter Tryd.func4, Tryd.ntmps4
  go_wp2_with fail
  have S1 := S0.drew
  obtain ⟨y0, y1, y2, y3, y4, y5, y6⟩ := S0.q.conf
  clear S0
  generalize (w.alloc (.cells c.cs 23)) = W0 at *
  go_region_held3 (fun W => W.cell? ⟨w.heap.size, 0, none⟩ = some (.int .i64 c.al) ∧ W.cell? ⟨w.heap.size, 1, none⟩ = some (.int .i64 c.th) ∧ W.cell? ⟨w.heap.size, 2, none⟩ = some (.int .i64 c.nd) ∧ W.cell? ⟨w.heap.size, 3, none⟩ = some (.int .i64 c.lv) ∧ W.cell? ⟨w.heap.size, 4, none⟩ = some (.int .i64 c.ba) ∧ W.cell? ⟨w.heap.size, 5, none⟩ = some (.int .i64 c.pr) ∧ W.cell? ⟨w.heap.size, 6, none⟩ = some (.int .i64 c.sc)) (first | exact (TxS.q (c := c) (w := w) (C := w.heap.size) (by assumption)).conf | go_keep)
    (first | (go_at_call 12; refine (KS _).mono ?_; rintro e V' ⟨rfl, hb⟩; have S' := TxS.below (by assumption) hb; clear hb) | (go_at_call 13; refine (KC _).mono ?_; rintro e V' ⟨rfl, hb⟩; have S' := TxS.below (by assumption) hb; clear hb))
  rename_i T' HH
  clear HH
  obtain ⟨y0', y1', y2', y3', y4', y5', y6'⟩ := S'.q.conf
  go_wp2_with fail
  refine (KF _).mono ?_
  rintro e V2 ⟨rfl, hb⟩
  have S2 := S'.below hb
  clear hb y0' y1' y2' y3' y4' y5' y6'
  obtain ⟨y0', y1', y2', y3', y4', y5', y6'⟩ := S2.q.conf
  go_wp2_with fail
  refine (KR _).mono ?_
  rintro e V3 ⟨rfl, hb⟩
  have S3 := S2.below hb
  clear hb y0' y1' y2' y3' y4' y5' y6'
  go_wp2_with fail
  refine (KL _ S3.bel).mono ?_
  rintro e V4 ⟨rfl, hb⟩
  have S4 := S3.below hb
  go_wp2
  go_ret
  exact ⟨rfl, S4.bel⟩

set_option maxRecDepth 100000 in
set_option maxHeartbeats 16000000 in
theorem texts_ok (c : Cf) (a : Option Addr) (n cap : Nat) (zs : List Int) (w : World) (hE : Env w) (hn : n ≤ 200) (hr : Rd w a n cap zs) (h : c.Ok) : Calls Tryd.prog 4 #[c.v, .slice a n cap] w (Good w) := by
  have g : ¬ (200 : Int) < n := by omega
  have b0 := (Below.refl w.heap.size w).alloc (Nat.le_refl _) (.cells c.cs 23)
  have HE := fun W hb => hE.below (w' := W) hb
  have HRd := fun W hb => hr.below (W := W) hb
  have KS := fun W hb => show_ok c W (HE W hb) h
  have KC := fun W => code_ok c W h
  have KF := fun W => rshow_ok c W h
  have KR := fun W => right_ok c W h
  have KP := fun W hb => parse_show c h W (HE W hb)
  have qs := fun w => eq_str (showT c) (showT c) w
  rw [beq_self_eq_true] at qs
  have hq : ∀ w, (Op.equalIn 10000 23 c.v c.v).run Tryd.prog w = .ok true w := fun w => by rw [eq_conf, Cf.eqB_self]
  have hby : ∀ j, 0 ≤ byteAt c.bytes j ∧ byteAt c.bytes j < 256 := by
    have hs := sent_in c.al
    have := h.a0; have := h.a1; have := h.t0; have := h.t1; have := h.n0; have := h.n1; have := h.l0; have := h.l1
    have := h.b0; have := h.b1; have := h.p0; have := h.p1; have := h.s0; have := h.s1
    intro j
    rcases j with _ | _ | _ | _ | _ | _ | _ | j
    all_goals simp only [byteAt, Cf.bytes, List.getD, List.getElem?_cons_zero, List.getElem?_cons_succ, List.getElem?_nil, Option.getD_some, Option.getD_none]
    all_goals omega
  have hof : ofB (c.bytes ++ zs) = c := rfl
  have KD : ∀ x cap' W, Rd W (some x) (7 + n) cap' (c.bytes ++ zs) → Calls Tryd.prog 16 #[.slice (some x) (7 + n) cap'] W fun e w' => e = .returned (.tuple #[c.v, .int .i64 0]) ∧ Below W.heap.size W w' := fun x cap' W hR => by
    refine decode_long x (7 + n) cap' (c.bytes ++ zs) W hR (by omega) _ (fun _ W' hb => ⟨by rw [hof], hb⟩) (fun hk => ?_)
    rw [hof] at hk
    exact (hk h).elim
  have KL := fun W hb => lives_any W (HE W hb).lim
  have S0 : TxS c w w.heap.size (w.alloc (.cells c.cs 23)) := ⟨Blk.new _ _ _, b0⟩
  have HB := Lib.hid hby
  generalize showT c = tt at *
  clear h b0 hE hr hby hof HE
  go_enter Tryd.func4, Tryd.ntmps4
  go_wp2_with fail
  have S1 := S0.drew
  obtain ⟨y0, y1, y2, y3, y4, y5, y6⟩ := S0.q.conf
  clear S0
  generalize (w.alloc (.cells c.cs 23)) = W0 at *
  go_region_held3 (fun W => W.cell? ⟨w.heap.size, 0, none⟩ = some (.int .i64 c.al) ∧ W.cell? ⟨w.heap.size, 1, none⟩ = some (.int .i64 c.th) ∧ W.cell? ⟨w.heap.size, 2, none⟩ = some (.int .i64 c.nd) ∧ W.cell? ⟨w.heap.size, 3, none⟩ = some (.int .i64 c.lv) ∧ W.cell? ⟨w.heap.size, 4, none⟩ = some (.int .i64 c.ba) ∧ W.cell? ⟨w.heap.size, 5, none⟩ = some (.int .i64 c.pr) ∧ W.cell? ⟨w.heap.size, 6, none⟩ = some (.int .i64 c.sc)) (first | exact (TxS.q (c := c) (w := w) (C := w.heap.size) (by assumption)).conf | go_keep)
    (first | (go_at_call 12; refine (KS _ (TxS.bel (c := c) (C := w.heap.size) (by assumption))).mono ?_; rintro e V' ⟨rfl, hb⟩; have S' := TxS.below (by assumption) hb; clear hb) | (go_at_call 13; refine (KC _).mono ?_; rintro e V' ⟨B, rfl, hBl, hBk, hb⟩; have S' := TxS.below (by assumption) hb; clear hb))
  rename_i T' HH
  clear HH
  obtain ⟨y0', y1', y2', y3', y4', y5', y6'⟩ := S'.q.conf
  go_wp2_with fail
  refine (KF _).mono ?_
  rintro e V2 ⟨rfl, hb⟩
  have S2 := S'.below hb
  have hB2 := hBk.below hb hBk.lt
  clear hb y0' y1' y2' y3' y4' y5' y6' hBk S' KF
  obtain ⟨y0', y1', y2', y3', y4', y5', y6'⟩ := S2.q.conf
  go_wp2_with fail
  refine (KR _).mono ?_
  rintro e V3 ⟨rfl, hb⟩
  have S3 := S2.below hb
  have hB3 := hB2.below hb hB2.lt
  clear hb y0' y1' y2' y3' y4' y5' y6' hB2 S2 KR
  go_wp2_with fail
  refine (KP _ S3.bel).mono ?_
  rintro e V4 ⟨rfl, hb⟩
  have S4 := (S3.below hb).alloc (.cells c.cs 23)
  have hB4 := (hB3.below hb hB3.lt).alloc (.cells c.cs 23)
  have hD4 := Blk.new V4 23 c.cs
  clear hb hB3 S3 KP
  have hRn := HRd _ S4.bel
  go_wp2_with (at_builtin; refine wpList_append_bytes rfl _ _ rfl rfl B c.bytes zs a n cap rfl rfl hB4 rfl HB.out hRn hn ?_; intro a' cap' V5 hR5 hb)
  obtain ⟨x, rfl⟩ : ∃ x, a' = some x := by
    rcases hR5.form with ⟨_, h0, _⟩ | ⟨x, e, _⟩
    · omega
    · exact ⟨x, e⟩
  have S5 := S4.below hb
  have hD5 := (hD4.below hb hD4.lt)
  clear hB4 hb S4 HRd hRn
  refine (KD x cap' _ hR5).mono ?_
  rintro e V6 ⟨rfl, hb⟩
  have S6 := (S5.below hb).alloc (.cells c.cs 23)
  have hD6 := (hD5.below hb hD5.lt).alloc (.cells c.cs 23)
  have hF6 := Blk.new V6 23 c.cs
  clear hb S5 hD5 hR5 KD hD4
  obtain ⟨y0', y1', y2', y3', y4', y5', y6'⟩ := S6.q.conf
  obtain ⟨z0', z1', z2', z3', z4', z5', z6'⟩ := hD6.conf
  obtain ⟨x0', x1', x2', x3', x4', x5', x6'⟩ := hF6.conf
  go_wp2_with fail
  refine (KL _ S6.bel).mono ?_
  rintro e V8 ⟨rfl, hb⟩
  have S8 := S6.below hb
  go_wp2
  go_ret
  exact ⟨rfl, S8.bel⟩

theorem texts_all (c : Cf) (a : Option Addr) (n cap : Nat) (zs : List Int) (w : World) (hE : Env w) (w0 : IsRow .u8 w a n cap zs) : Calls Tryd.prog 4 #[c.v, .slice a n cap] w (Good w) := by
  by_cases h : 200 < n
  · exact texts_far c a n cap w hE h
  by_cases hk : c.Ok
  · exact texts_ok c a n cap _ w hE (by omega) (rd_of w0) hk
  · exact texts_bad c a n cap w hE (by omega) hk
end Go.Proofs.YtdhdomeckloedaaDoor
