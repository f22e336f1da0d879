/- The numbers of a configuration's text; ConfParses's walk. -/
import Derived.Test.YtdhdomeckloedaaDoorRParse
import Derived.Test.YtdhdomeckloedaaDoorLaw4
namespace Go.Proofs.YtdhdomeckloedaaDoor
open Go.ChangeShapes Go.WideShapes Go.ChangeAt Go.RowKit
set_option linter.unusedVariables false
set_option linter.unusedSimpArgs false

theorem go_app (x : List UInt8) : ∀ (y : List UInt8) (s : Sc), s.go (x ++ y) = (s.go x).go y := by
  induction x with
  | nil => intro y s; rfl
  | cons c r ih => intro y s; exact ih y (s.step c)
theorem go_text (t : List UInt8) : (∀ c ∈ t, isDig c = false) → ∀ s : Sc, t ≠ [] ∨ s.b = false → s.go t = ⟨s.ns, s.a, false⟩ := by
  induction t with
  | nil =>
    intro _ s h
    rcases h with h | h
    · exact (h rfl).elim
    · obtain ⟨ns, a, b⟩ := s
      dsimp only at h
      subst h
      rfl
  | cons c r ih =>
    intro h s _
    have e : s.step c = ⟨s.ns, s.a, false⟩ := by unfold Sc.step; rw [if_neg (by rw [h c (by simp)]; decide)]
    show (s.step c).go r = _
    rw [e, ih (fun x hx => h x (by simp [hx])) _ (.inr rfl)]
theorem dig_of (n : Nat) (h : n < 10) : isDig (UInt8.ofNat (48 + n)) = true ∧ (UInt8.ofNat (48 + n)).toNat = 48 + n := by
  have : n = 0 ∨ n = 1 ∨ n = 2 ∨ n = 3 ∨ n = 4 ∨ n = 5 ∨ n = 6 ∨ n = 7 ∨ n = 8 ∨ n = 9 := by omega
  rcases this with rfl | rfl | rfl | rfl | rfl | rfl | rfl | rfl | rfl | rfl <;> exact ⟨rfl, rfl⟩
theorem go_num100 (n : Nat) (h : n < 100) (ns : List Nat) (a : Nat) (hl : ns.length = 6) (ha : a < 6) (h0 : ns.getD a 0 = 0) : (⟨ns, a, false⟩ : Sc).go (Lib.decDigits n) = ⟨ns.set a n, a + 1, true⟩ := by
  by_cases h10 : n < 10
  · rw [Lib.decDigits_one h10]
    obtain ⟨d1, d2⟩ := dig_of n h10
    show (⟨ns, a, false⟩ : Sc).step _ = _
    unfold Sc.step
    rw [if_pos d1, d2]
    simp only [Bool.false_eq_true, if_false, Nat.add_sub_cancel, upd, h0]
    rw [if_pos ⟨ha, by decide⟩]
    congr 2
    omega
  · have h10' : n / 10 < 10 := by omega
    have hm : n % 10 < 10 := by omega
    rw [Lib.decDigits, dif_neg h10, Lib.decDigits_one h10']
    obtain ⟨d1, d2⟩ := dig_of (n / 10) h10'
    obtain ⟨e1, e2⟩ := dig_of (n % 10) hm
    show ((⟨ns, a, false⟩ : Sc).step _).step _ = _
    have s1 : (⟨ns, a, false⟩ : Sc).step (UInt8.ofNat (48 + n / 10)) = ⟨ns.set a (n / 10), a + 1, true⟩ := by
      unfold Sc.step
      rw [if_pos d1, d2]
      simp only [Bool.false_eq_true, if_false, Nat.add_sub_cancel, upd, h0]
      rw [if_pos ⟨ha, by decide⟩]
      congr 2
      omega
    rw [s1]
    unfold Sc.step
    rw [if_pos e1, e2]
    have hg : (ns.set a (n / 10)).getD a 0 = n / 10 := by
      rw [List.getD_eq_getElem?_getD, List.getElem?_set_self (by omega)]
      rfl
    simp only [if_true, Nat.add_sub_cancel, upd, hg]
    rw [if_pos ⟨ha, by omega⟩, List.set_set]
    congr 2
    omega
theorem alg_text (al : Int) : ∀ c ∈ algT al, isDig c = false := by
  unfold algT
  split
  · decide
  split <;> decide
theorem alg_ne (al : Int) : algT al ≠ [] := by
  unfold algT
  split
  · decide
  split <;> decide
/-- The numbers of a configuration's text are its parts. -/
theorem scan_show (c : Cf) (h : c.Ok) : (scan (showT c)).ns = [c.th.toNat, c.nd.toNat, c.lv.toNat, c.ba.toNat, c.pr.toNat, c.sc.toNat] := by
  have xth : c.th.toNat < 100 := by have := h.t1; omega
  have xnd : c.nd.toNat < 100 := by have := h.n1; omega
  have xlv : c.lv.toNat < 100 := by have := h.l1; omega
  have xba : c.ba.toNat < 100 := by have := h.b1; omega
  have xpr : c.pr.toNat < 100 := by have := h.p1; omega
  have xsc : c.sc.toNat < 100 := by have := h.s1; omega
  unfold scan showT sc0
  rw [go_app, go_app, go_app, go_app, go_app, go_app, go_app, go_app, go_app, go_app, go_app, go_app]
  rw [go_text (algT c.al) (alg_text _) _ (.inr rfl)]
  rw [go_text thS (by decide) _ (.inl (by decide))]
  unfold decT
  rw [go_num100 c.th.toNat xth _ 0 rfl (by decide) rfl]
  rw [go_text ndS (by decide) _ (.inl (by decide)), go_num100 c.nd.toNat xnd _ 1 rfl (by decide) rfl]
  rw [go_text lvS (by decide) _ (.inl (by decide)), go_num100 c.lv.toNat xlv _ 2 rfl (by decide) rfl]
  rw [go_text baS (by decide) _ (.inl (by decide)), go_num100 c.ba.toNat xba _ 3 rfl (by decide) rfl]
  rw [go_text prS (by decide) _ (.inl (by decide)), go_num100 c.pr.toNat xpr _ 4 rfl (by decide) rfl]
  rw [go_text scS (by decide) _ (.inl (by decide)), go_num100 c.sc.toNat xsc _ 5 rfl (by decide) rfl]
  rfl
theorem cand_show (c : Cf) (h : c.Ok) : cand (scan (showT c)).ns c.al.toNat = c := by
  rw [scan_show c h]
  obtain ⟨al, th, nd, lv, ba, pr, sc⟩ := c
  obtain ⟨h1, h2, h3, h4, h5, h6, h7, h8, h9, h10, h11, h12, h13, h14⟩ := h
  have hs := sent_in al
  dsimp only at *
  simp only [cand, List.getD_cons_zero, List.getD_cons_succ, Cf.mk.injEq]
  refine ⟨?_, ?_, ?_, ?_, ?_, ?_, ?_⟩ <;> omega
/-- A text is one configuration's. -/
theorem show_inj {c d : Cf} (hc : c.Ok) (hd : d.Ok) (h : showT c = showT d) : c = d := by
  have e1 := pieces_show c
  have e2 := pieces_show d
  rw [h, e2] at e1
  have e3 := congrArg (List.map fun x : ByteArray => x.data.toList) e1
  rw [List.map_map, List.map_map] at e3
  have e4 : ((fun x : ByteArray => x.data.toList) ∘ baOf) = id := by
    funext b
    simp [baOf]
  rw [e4, List.map_id, List.map_id] at e3
  rw [conf_words c hc, conf_words d hd]
  simp only [words, List.cons.injEq] at e3
  obtain ⟨q0, -, q1, -, q2, -, q3, -, q4, -, q5, -, q6, -⟩ := e3
  rw [q0, q1, q2, q3, q4, q5, q6]

theorem parses_far (s : List UInt8) (hs : 300 < s.length) (hm : s.length ≤ 9223372036854775807) (w : World) (hE : Env w) : Calls Tryd.prog 5 #[strV s] w (Good w) := by
  have hsz := mk_size s
  have g : (300 : Int) < ((ByteArray.mk s.toArray).size : Int) := by omega
  have KL := lives_any _ hE.lim
  go_enter Tryd.func5, Tryd.ntmps5
  go_wp2_with fail
  refine KL.mono ?_
  rintro e V ⟨rfl, hb⟩
  go_wp2
  go_ret
  exact ⟨rfl, hb⟩
/-- Both answer c, or none. -/
theorem parses_near (s : List UInt8) (hs : s.length ≤ 300) (w : World) (hE : Env w) (c : Cf) (er : Int) (ok : Bool) (hcase : (er = 0 ∧ ok = true) ∨ (er = 8 ∧ ok = false))
    (K1 : Calls Tryd.prog 15 #[strV s] w fun e w' => e = .returned (.tuple #[c.v, .int .i64 er]) ∧ Below w.heap.size w w')
    (K2 : ∀ W, Calls Tryd.prog 17 #[strV s] W fun e w' => e = .returned (.tuple #[c.v, .bool ok]) ∧ Below W.heap.size W w') : Calls Tryd.prog 5 #[strV s] w (Good w) := by
  have hsz := mk_size s
  have g : ¬ (300 : Int) < ((ByteArray.mk s.toArray).size : Int) := by omega
  have KL := fun W hb => lives_any W (hE.below (w' := W) hb).lim
  have hq : ∀ w, (Op.equalIn 10000 23 c.v c.v).run Tryd.prog w = .ok true w := fun w => by rw [eq_conf, Cf.eqB_self]
  clear hE
  rcases hcase with ⟨rfl, rfl⟩ | ⟨rfl, rfl⟩
  all_goals
    go_enter Tryd.func5, Tryd.ntmps5
    go_wp2_with fail
    refine K1.mono ?_
    rintro e V ⟨rfl, hb⟩
    have b1 := hb.alloc hb.size (.cells c.cs 23)
    have hC := Blk.new V 23 c.cs
    clear hb K1
    go_wp2_with fail
    refine (K2 _).mono ?_
    rintro e V2 ⟨rfl, hb⟩
    have b2 := (below_then b1 hb (Nat.le_refl _))
    have b3 := b2.alloc b2.size (.cells c.cs 23)
    have hC2 := (hC.below hb hC.lt).alloc (.cells c.cs 23)
    have hD2 := Blk.new V2 23 c.cs
    clear hb b1 b2 hC K2
    obtain ⟨y0, y1, y2, y3, y4, y5, y6⟩ := hC2.conf
    obtain ⟨z0, z1, z2, z3, z4, z5, z6⟩ := hD2.conf
    go_wp2_with fail
    refine (KL _ b3).mono ?_
    rintro e V3 ⟨rfl, hb⟩
    go_wp2
    go_ret
    exact ⟨rfl, below_then b3 hb (Nat.le_refl _)⟩
theorem parses_all (S : ByteArray) (w : World) (hE : Env w) (hm : S.size ≤ maxLen) : Calls Tryd.prog 5 #[.string S] w (Good w) := by
  obtain ⟨⟨s⟩⟩ := S
  have hsz := mk_size s
  show Calls Tryd.prog 5 #[strV s] w (Good w)
  by_cases h3 : 300 < s.length
  · exact parses_far s h3 (by unfold maxLen at hm; have : (ByteArray.mk s.toArray).size ≤ _ := hm; omega) w hE
  by_cases hc : ∃ c : Cf, c.Ok ∧ showT c = s
  · obtain ⟨c, hk, rfl⟩ := hc
    refine parses_near _ (by omega) w hE c 0 true (.inl ⟨rfl, rfl⟩) (parse_show c hk w hE) (fun W => rparse_any _ (by omega) W _ (fun j hj hok hsh W' hb => ?_) (fun hno => ?_))
    · rw [show_inj hok hk hsh]
      exact ⟨rfl, hb⟩
    · refine (hno c.al.toNat (by have := hk.a0; have := hk.a1; omega) ?_).elim
      rw [cand_show c hk]
      exact ⟨hk, rfl⟩
  · refine parses_near s (by omega) w hE zc 8 false (.inr ⟨rfl, rfl⟩) (parse_none s (by omega) (fun c hk he => hc ⟨c, hk, he⟩) w hE) (fun W => rparse_any _ (by omega) W _ (fun j hj hok hsh W' hb => (hc ⟨_, hok, hsh⟩).elim) (fun _ W' hb => ⟨rfl, hb⟩))
end Go.Proofs.YtdhdomeckloedaaDoor
