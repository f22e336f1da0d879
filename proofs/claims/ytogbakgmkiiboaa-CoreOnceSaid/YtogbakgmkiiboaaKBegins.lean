/- CoreBegins's walk. Printed by core_begins.py. -/
import Derived.Test.YtogbakgmkiiboaaKFirst
import Derived.Test.YtogbakgmkiiboaaKLives
import Derived.Test.YtogbakgmkiiboaaKArg
import Derived.Deep.RegionWith
import Derived.Deep.Cut
import Derived.Deep.CutRange
namespace Go.Proofs.Ytogbakgmkiiboaa
open Go.ChangeShapes Go.WideShapes Go.ChangeAt Go.RowKit
set_option linter.unusedVariables false
set_option maxRecDepth 20000

theorem thread_nil (i : Int) (w : World) : Calls Try.prog 18 #[.pointer none, .int .i64 i] w fun e w' => e = .returned (.pointer none) ∧ w = w' := by
  go_enter Try.func18, Try.ntmps18
  go_wp2
  go_ret
  exact ⟨rfl, rfl⟩
theorem thread_no (B T n : Nat) (i : Int) (w : World) (hn : n ≤ 6) (h10 : w.cell? ⟨B, 10, none⟩ = some (.slice (some ⟨T, 0, none⟩) n n)) (hi : i < 0 ∨ (n : Int) ≤ i) : Calls Try.prog 18 #[at0 B, .int .i64 i] w fun e w' => e = .returned (.pointer none) ∧ w = w' := by
  by_cases h : i < 0
  · go_enter Try.func18, Try.ntmps18
    go_wp2
    go_ret
    exact ⟨rfl, rfl⟩
  · have h2 : (n : Int) ≤ i := by omega
    go_enter Try.func18, Try.ntmps18
    go_wp2
    go_ret
    exact ⟨rfl, rfl⟩
theorem thread_yes (B T n k : Nat) (w : World) (hn : n ≤ 6) (h10 : w.cell? ⟨B, 10, none⟩ = some (.slice (some ⟨T, 0, none⟩) n n)) (hi : k < n) : Calls Try.prog 18 #[at0 B, .int .i64 k] w fun e w' => e = .returned (.pointer (some ⟨T, k * 10, none⟩)) ∧ w = w' := by
  have h1 : ¬ (k : Int) < 0 := by omega
  have h2 : ¬ (n : Int) ≤ k := by omega
  go_enter Try.func18, Try.ntmps18
  go_wp2
  go_ret
  exact ⟨rfl, rfl⟩
theorem pile_len (b o n cap : Nat) (a : Option Addr) (w : World) (h : w.cell? ⟨b, o, none⟩ = some (.slice a n cap)) (hn : n ≤ 1000000) : Calls Try.prog 19 #[.pointer (some ⟨b, o, none⟩)] w fun e w' => e = .returned (.int .i64 n) ∧ w = w' := by
  go_enter Try.func19, Try.ntmps19
  go_wp2
  go_ret
  exact ⟨rfl, rfl⟩
theorem Row.later {k : IntKind} {w W : World} {a : Option Addr} {n cap : Nat} {zs : List Int} (h : F.Row k w a n cap zs) (b : Below w.heap.size w W) : F.Row k W a n cap zs := by
  refine ⟨h.len, h.room, ?_, h.cells b, h.wf⟩
  rcases h.form with h1 | ⟨x, e, hx⟩
  · exact .inl h1
  · exact .inr ⟨x, e, fun j u hj => by
      have := hx j u hj
      rw [Below.cell b (World.block_lt_of_cell? w _ this)]
      exact this⟩

/-- A list of words of one's own. -/
def WordsAt (ws : List Int) (n : Nat) (w : World) (e : Ending) (w' : World) : Prop :=
  ∃ g cp n0, e = .returned (.slice (some ⟨g, 0, none⟩) n cp) ∧ w'.ownsRow n0 44 1 (.slice (some ⟨g, 0, none⟩) n cp) n (encU ws) ∧ n ≤ cp ∧ cp ≤ 9223372036854775807 ∧ Below w.heap.size w w'
theorem own_words {W : World} {n0 n : Nat} {v : Value} {ws : List Int} (h : W.ownsRow n0 44 1 v n (encU ws)) (hn : 0 < n) : ∃ g cp, v = .slice (some ⟨g, 0, none⟩) n cp ∧ n ≤ cp ∧ cp ≤ 9223372036854775807 := by
  rcases h.2 with ⟨rfl, hz⟩ | ⟨g, cp, cur, rfl, _, _, h1, h2, _⟩
  · omega
  · exact ⟨g, cp, rfl, h1, by unfold maxLen at h2; omega⟩
theorem words_own (M : Nat) (s : MS) (O : Nat → Prop) (w : World) (h : MemAt M s O w) (h1 : s.ws.length ≤ 4096) (h0 : 0 < s.ws.length) : Calls Try.prog 13 #[at0 M] w (WordsAt s.ws s.ws.length w) := by
  refine (words_any M s O w h h1).mono ?_
  rintro e w' ⟨v, rfl, ho, hb⟩
  obtain ⟨g, cp, rfl, h2, h3⟩ := own_words ho h0
  exact ⟨g, cp, _, rfl, ho, h2, h3, hb⟩
theorem first_own (c : P.Cf) (w : World) (hc : c.Ok) : Calls Try.prog 14 #[c.v] w (WordsAt (firstL c) c.size.toNat w) := by
  refine (first_any c w hc).mono ?_
  rintro e w' ⟨v, rfl, ho, hb⟩
  obtain ⟨g, cp, rfl, h2, h3⟩ := own_words ho (by have := hc.steps; omega)
  exact ⟨g, cp, _, rfl, ho, h2, h3, hb⟩

theorem eq_conf_self (c : P.Cf) (w : World) : (Op.equalIn 10000 23 c.v c.v).run Try.prog w = .ok true w := by rw [P.eq_conf, P.Cf.eqB_self]
variable {c : P.Cf} {n : Nat} {bs : List Int} {w W : World} {Cb Pb B Fb T : Nat} {ad : Option Addr} {cap : Nat} {ms : MS} {gs : Gh} {k : Nat} {O : Nat → Prop}
theorem Amid.words (h : Amid c n bs w Cb Pb B Fb T ad cap ms gs k O W) (h1 : ms.ws.length ≤ 4096) (h0 : 0 < ms.ws.length) : ∃ M, (Calls Try.prog 12 #[at0 B] W fun e W' => e = .returned (at0 M) ∧ W = W') ∧ Calls Try.prog 13 #[at0 M] W (WordsAt ms.ws ms.ws.length W) := by
  obtain ⟨M, Om, hO, hb, hm, hg⟩ := h.mach
  exact ⟨M, mem_any B M c _ Fb T _ false W hb, words_own M ms Om W hm h1 h0⟩
theorem Amid.fault (h : Amid c n bs w Cb Pb B Fb T ad cap ms gs k O W) (hz : gBad gs = false) : Calls Try.prog 15 #[at0 B] W fun e W' => e = .returned (.bool false) ∧ Below W.heap.size W W' := by
  refine (fault_any B c Fb T ms gs false O W h.mach).mono ?_
  rintro e W' ⟨rfl, hb⟩
  exact ⟨by rw [hz]; rfl, hb⟩
theorem Amid.plan (h : Amid c n bs w Cb Pb B Fb T ad cap ms gs k O W) : Calls Try.prog 16 #[at0 B] W fun e W' => e = .returned c.v ∧ Below W.heap.size W W' := by
  obtain ⟨M, Om, hO, hb, hm, hg⟩ := h.mach
  exact plan_any B M c _ Fb T _ false W hb
theorem Amid.row (h : Amid c n bs w Cb Pb B Fb T ad cap ms gs k O W) : W.cell? ⟨B, 10, none⟩ = some (.slice (some ⟨T, 0, none⟩) c.th.toNat c.th.toNat) := by
  obtain ⟨-, -, -, -, -, -, -, -, -, -, x⟩ := h.cells
  exact x
/-- What is read of a thread as it is at first. -/
theorem Amid.thread (h : Amid c n bs w Cb Pb B Fb T ad cap ms gs k O W) {i : Nat} (hi : i < k) : ∃ p s q, W.cell? ⟨T, i * 10, none⟩ = some (.int .i64 i) ∧ W.cell? ⟨T, i * 10 + 1, none⟩ = some (.slice none 0 0) ∧ W.cell? ⟨T, i * 10 + 5, none⟩ = some (.slice (some ⟨p, 0, none⟩) c.lv.toNat c.lv.toNat) ∧
    W.cell? ⟨T, i * 10 + 6, none⟩ = some (.slice (some ⟨s, 0, none⟩) c.lv.toNat c.lv.toNat) ∧ W.cell? ⟨T, i * 10 + 7, none⟩ = some (.slice (some ⟨q, 0, none⟩) c.lv.toNat c.lv.toNat) ∧ W.cell? ⟨T, i * 10 + 8, none⟩ = some (.slice none 0 0) := by
  obtain ⟨cs, hb, hs, hx⟩ := h.thr
  obtain ⟨p, s, q, hc, _⟩ := hx i hi
  have e : 10 * i = i * 10 := by omega
  rw [e] at hc
  exact ⟨p, s, q, (hb.cell _).trans (hc 0 (by omega)), (hb.cell _).trans (hc 1 (by omega)), (hb.cell _).trans (hc 5 (by omega)), (hb.cell _).trans (hc 6 (by omega)), (hb.cell _).trans (hc 7 (by omega)), (hb.cell _).trans (hc 8 (by omega))⟩
theorem Amid.used (h : Amid c n bs w Cb Pb B Fb T ad cap ms gs k O W) : (Calls Try.prog 23 #[at0 B] W fun e W' => e = .returned (at0 Fb) ∧ W = W') ∧ Calls Try.prog 24 #[at0 Fb] W fun e W' => e = .returned (.int .i64 0) ∧ W = W' := by
  obtain ⟨M, Om, hO, hb, hm, hg⟩ := h.mach
  exact ⟨feed_any B M c _ Fb T _ false W hb, F.used_any Fb ad n cap bs 0 W h.feed⟩
theorem count_tags (n m : Nat) (h : m ≤ n) : G.countOf (G.tags0 n m) 1 = m ∧ G.countOf (G.tags0 n m) 0 = n - m := by
  unfold G.countOf G.tags0
  simp only [List.countP_append, List.countP_replicate]
  constructor
  · simp
  · simp; omega
theorem Amid.counts {g t : Nat} (hc : c.Ok) (h : Amid c n bs w Cb Pb B Fb T ad cap ms (some (g, t, ghost0 c)) k O W) : (Calls Try.prog 21 #[at0 B] W fun e W' => e = .returned (at0 g) ∧ W = W') ∧
    (Calls Try.prog 22 #[at0 g, .int .i64 1] W fun e W' => e = .returned (.int .i64 (P.sent c.al)) ∧ W = W') ∧ Calls Try.prog 22 #[at0 g, .int .i64 0] W fun e W' => e = .returned (.int .i64 (c.nd - P.sent c.al)) ∧ W = W' := by
  obtain ⟨M, Om, hO, hb, hm, hg⟩ := h.mach
  have hn := hc.n0
  have hs := P.sent_in c.al
  have hm1 : (min (P.sent c.al) (c.nd.toNat : Int)).toNat = (P.sent c.al).toNat := by rw [Int.min_eq_left (by omega)]
  obtain ⟨c1, c0⟩ := count_tags c.nd.toNat (P.sent c.al).toNat (by omega)
  have e1 : G.countOf (ghost0 c).tags 1 = P.sent c.al := by unfold ghost0; rw [hm1, c1]; omega
  have e0 : G.countOf (ghost0 c).tags 0 = c.nd - P.sent c.al := by unfold ghost0; rw [hm1, c0]; omega
  refine ⟨ghost_any B M c _ Fb T _ false W hb, ?_, ?_⟩
  · have := G.count_any g _ _ (ghost0 c) 1 W hg.1
    rwa [e1] at this
  · have := G.count_any g _ _ (ghost0 c) 0 W hg.1
    rwa [e0] at this

set_option maxHeartbeats 32000000 in
theorem begins_main (c : P.Cf) (a1 : Option Addr) (n1 cap1 : Nat) (ds : List Int) (w : World) (hc : c.Ok) (R1 : F.Row .u8 w a1 n1 cap1 ds) (h1 : n1 ≤ 5000) :
    Calls Try.prog 3 #[c.v, .slice a1 n1 cap1] w fun e w' => e = .returned (.bool true) ∧ Below w.heap.size w w' := by
  have KR := fun W => P.right_ok c W hc
  have KS := P.rsent_any c
  have KC := P.conf_any c
  have KF := fun W => first_own c W hc
  have KN : ∀ W, Below w.heap.size w W → Calls Try.prog 9 #[c.v, .slice a1 n1 cap1, .bool true] W (Born c n1 ds true W) := fun W hW => new_ok c _ true n1 ds W hc (fun W' hW' => F.new_row (Row.later R1 (P.below_then hW hW' (Nat.le_refl _))) h1)
  have hq := eq_conf_self c
  have HC := Lib.hid hc
  have hr1 := R1.room
  unfold maxLen at hr1
  clear hc R1
  go_enter Try.func3, Try.ntmps3
  have hB : P.Blk (w.alloc (.cells c.cs 23)) w.heap.size 23 c.cs := P.Blk.new _ _ _
  have h0 : Below w.heap.size w (w.alloc (.cells c.cs 23)) := (Below.refl _ _).alloc (Nat.le_refl _) _
  have KN0 := KN _ h0
  clear KN
  go_wp2_with fail
  have HX := Lib.hid ((Nat.le_refl w.heap.size))
  refine KN0.mono ?_
  rintro e V1 ⟨Cb1, Pb1, B, Fb, T, ad, cap, gs, O, rfl, hgs, hA⟩
  have hgs' : ∃ g t, gs = some (g, t, ghost0 c) := hgs
  obtain ⟨g, t, rfl⟩ := hgs'
  have HB : Hid (∀ {W : World}, Amid c n1 ds (w.alloc (.cells c.cs 23)) Cb1 Pb1 B Fb T ad cap (firstMS c) (some (g, t, ghost0 c)) c.th.toNat O W → P.Blk W w.heap.size 23 c.cs) := Lib.hid fun h => hB.below h.bel hB.lt
  have HW : Hid (∀ {W : World}, Amid c n1 ds (w.alloc (.cells c.cs 23)) Cb1 Pb1 B Fb T ad cap (firstMS c) (some (g, t, ghost0 c)) c.th.toNat O W → Below w.heap.size w W) := Lib.hid fun h => P.below_then h0 h.bel (Nat.le_refl _)
  clear hgs KN0 hB h0 HX
  have hB1 := HB.out hA
  obtain ⟨p0, p1, p2, p3, p4, p5, p6⟩ := hB1.conf
  generalize w.alloc (.cells c.cs 23) = w0 at *
  generalize hC : w.heap.size = C at *
  have HCC := Lib.hid hC
  clear hC hB1
  go_wp2_with fail
  refine (KR _).mono ?_
  rintro e V2 ⟨rfl, hb⟩
  have hA2 := hA.below hb
  clear hA hb KR p0 p1 p2 p3 p4 p5 p6
  have hlen : (firstMS c).ws.length = c.size.toNat := first_len HC.out
  have hst := HC.out.steps
  have HWS : Hid (∀ {W : World}, Amid c n1 ds w0 Cb1 Pb1 B Fb T ad cap (firstMS c) (some (g, t, ghost0 c)) c.th.toNat O W → ∃ M, (Calls Try.prog 12 #[at0 B] W fun e W' => e = .returned (at0 M) ∧ W = W') ∧ Calls Try.prog 13 #[at0 M] W (WordsAt (firstL c) c.size.toNat W)) := Lib.hid fun h => by
    have := h.words (by rw [hlen]; omega) (by rw [hlen]; omega)
    rw [hlen, first_list HC.out] at this
    exact this
  have hz : gBad (some (g, t, ghost0 c)) = false := rfl
  obtain ⟨sz, hsz, hsz1⟩ : ∃ sz, c.size.toNat = sz ∧ sz ≤ 4096 := ⟨_, rfl, by omega⟩
  have hfl : (firstL c).length = sz := by rw [← first_list HC.out, hlen, hsz]
  rw [hsz] at HWS KF
  have HSZ := Lib.hid hsz
  clear hlen hst hsz
  generalize firstL c = fw at *
  generalize hms : firstMS c = fms at *
  obtain ⟨p0, p1, p2, p3, p4, p5, p6⟩ := (HB.out hA2).conf
  go_wp2_with fail
  go_cut [57] from 32 to 57 (fun s57 wx => s57 = .bool false ∧ Amid c n1 ds w0 Cb1 Pb1 B Fb T ad cap fms (some (g, t, ghost0 c)) c.th.toNat O wx)
  case first =>
    have hA3 := hA2.drew
    clear hA2
    obtain ⟨M, K12, K13⟩ := HWS.out hA3
    go_region_held3 (fun W => W.cell? ⟨C, 0, none⟩ = some (.int .i64 c.al) ∧ W.cell? ⟨C, 1, none⟩ = some (.int .i64 c.th) ∧ W.cell? ⟨C, 2, none⟩ = some (.int .i64 c.nd) ∧ W.cell? ⟨C, 3, none⟩ = some (.int .i64 c.lv) ∧ W.cell? ⟨C, 4, none⟩ = some (.int .i64 c.ba) ∧ W.cell? ⟨C, 5, none⟩ = some (.int .i64 c.pr) ∧ W.cell? ⟨C, 6, none⟩ = some (.int .i64 c.sc))
      (first | exact P.Blk.conf (HB.out (by assumption)) | go_keep)
      (first
        | (go_at_call 12; refine K12.mono ?_; rintro e W1 ⟨rfl, rfl⟩)
        | (go_at_call 13; refine K13.mono ?_; rintro e W1 ⟨g1, cp1, nn1, rfl, ho1, hc1, hm1, hb1⟩; have hA4 := hA3.below hb1; obtain ⟨q0, q1, q2, q3, q4, q5, q6⟩ := (HB.out hA4).conf)
        | (go_at_call 14; refine (KF _).mono ?_; rintro e W2 ⟨g2, cp2, nn2, rfl, ho2, hc2, hm2, hb2⟩; have hA5 := hA4.below hb2; have ho1' := row_agree ho1 (fun k e => hb2.block k (ho1.lt k e).2); obtain ⟨r0, r1, r2, r3, r4, r5, r6⟩ := (HB.out hA5).conf)
        | (go_at_call 11; refine (words_same g1 cp1 g2 cp2 sz nn1 nn2 fw _ hfl hsz1 ho1' ho2 hc1 hm1 hc2 hm2).mono ?_; rintro e W3 ⟨rfl, hb3⟩; have hA6 := hA5.below hb3; obtain ⟨s0, s1, s2, s3, s4, s5, s6⟩ := (HB.out hA6).conf)
        | (go_at_call 15; refine (hA6.fault hz).mono ?_; rintro e W4 ⟨rfl, hb4⟩; have hA7 := hA6.below hb4; obtain ⟨t0, t1, t2, t3, t4, t5, t6⟩ := (HB.out hA7).conf)
        | (go_at_call 16; refine hA7.plan.mono ?_; rintro e W5 ⟨rfl, hb5⟩; have hA8 := hA7.below hb5; obtain ⟨u0, u1, u2, u3, u4, u5, u6⟩ := (HB.out hA8).conf)
        | (go_at_call 17; refine (KC _).mono ?_; rintro e W6 ⟨rfl, hb6⟩; have hA9 := hA8.below hb6; obtain ⟨v0, v1, v2, v3, v4, v5, v6⟩ := (HB.out hA9).conf))
    all_goals
      go_wp2_with fail
      go_meet
      exact ⟨rfl, hA9⟩
  case rest =>
    obtain ⟨rfl, hA⟩ := hcut
    have HA := Lib.hid hA
    clear hA hA2 HWS KF hz hfl hsz1 HSZ hq KC p0 p1 p2 p3 p4 p5 p6
    have hth := HC.out.th
    have hlv0 := HC.out.l0
    have hlv1 := HC.out.l1
    go_wp2
    go_loopw [7] (fun i wr => ∃ k : Nat, (k : Int) ≤ c.th ∧ i = .int .i64 k ∧ Hid (Amid c n1 ds w0 Cb1 Pb1 B Fb T ad cap fms (some (g, t, ghost0 c)) c.th.toNat O wr)) (fun i _ => 100 - (intOf i).toNat)
    case atStart => exact ⟨0, by omega, rfl, HA⟩
    case round =>
      obtain ⟨k, hk, rfl, HR⟩ := hrel
      clear HA
      obtain ⟨p0, p1, p2, p3, p4, p5, p6⟩ := (HB.out HR.out).conf
      by_cases hlt : (k : Int) < c.th
      · have hlv : ((c.lv.toNat : Nat) : Int) = c.lv := by omega
        have K18 := thread_yes B T c.th.toNat k wr (by omega) HR.out.row (by omega)
        obtain ⟨tp, ts, tq, x0, x1, x5, x6, x7, x8⟩ := HR.out.thread (i := k) (by omega)
        have hq1 := HR.out
        clear p0 p2 p4 p5 p6
        go_wp2_with fail
        refine K18.mono ?_
        rintro e v1 ⟨rfl, rfl⟩
        clear K18 hq1
        go_wp2_with fail
        have hD : wr.drew.cell? ⟨T, k * 10 + 8, none⟩ = some (.slice none 0 0) := x8
        go_region_held3 (fun W => W.cell? ⟨T, k * 10, none⟩ = some (.int .i64 k) ∧ W.cell? ⟨T, k * 10 + 1, none⟩ = some (.slice none 0 0) ∧ W.cell? ⟨T, k * 10 + 5, none⟩ = some (.slice (some ⟨tp, 0, none⟩) c.lv.toNat c.lv.toNat) ∧ W.cell? ⟨T, k * 10 + 6, none⟩ = some (.slice (some ⟨ts, 0, none⟩) c.lv.toNat c.lv.toNat) ∧ W.cell? ⟨T, k * 10 + 7, none⟩ = some (.slice (some ⟨tq, 0, none⟩) c.lv.toNat c.lv.toNat) ∧ W.cell? ⟨T, k * 10 + 8, none⟩ = some (.slice none 0 0) ∧ W.cell? ⟨C, 3, none⟩ = some (.int .i64 c.lv)) (go_keep)
          (first | (go_at_call 19; refine (pile_len T (k * 10 + 8) 0 0 none _ hD (by omega)).mono ?_; rintro e W1 ⟨rfl, rfl⟩))
        all_goals
          have HD : Hid (Amid c n1 ds w0 Cb1 Pb1 B Fb T ad cap fms (some (g, t, ghost0 c)) c.th.toNat O wr.drew) := Lib.hid HR.out.drew
          clear x0 x1 x5 x6 x7 x8 hD p1 p3
          go_wp2
          go_roundw
          case rel => exact ⟨k + 1, by omega, by go_num, HD⟩
          case measure => simp [intOf]; omega
      · go_wp2_with fail
        refine (KS _).mono ?_
        rintro e v1 ⟨rfl, hb⟩
        have hA1 := HR.out.below hb
        clear HR hb p0 p1 p2 p3 p4 p5 p6
        obtain ⟨p0, p1, p2, p3, p4, p5, p6⟩ := (HB.out hA1).conf
        have hnd := HC.out.nd
        have hn0 := HC.out.n0
        have hsd := P.sent_in c.al
        obtain ⟨K21, K22, K23⟩ := Amid.counts HC.out hA1.drew
        obtain ⟨K24, K25⟩ := Amid.used hA1.drew
        have K18 : Hid (∀ i : Int, (i < 0 ∨ c.th ≤ i) → Calls Try.prog 18 #[at0 B, .int .i64 i] v1.drew fun e w' => e = .returned (.pointer none) ∧ v1.drew = w') := Lib.hid fun i hi => thread_no B T c.th.toNat i v1.drew (by omega) hA1.drew.row (by omega)
        have hAd := hA1.drew
        have HAd := Lib.hid hAd
        clear hA1 hAd
        generalize P.sent c.al = sd at *
        have hw : IntKind.i64.wrap (c.nd - sd) = c.nd - sd := IntWalk.i64_in _ (by omega)
        have q1 : v1.drew.cell? ⟨C, 1, none⟩ = some (.int .i64 c.th) := p1
        have q2 : v1.drew.cell? ⟨C, 2, none⟩ = some (.int .i64 c.nd) := p2
        go_wp2_with fail
        go_region_held3 (fun W => W.cell? ⟨C, 1, none⟩ = some (.int .i64 c.th) ∧ W.cell? ⟨C, 2, none⟩ = some (.int .i64 c.nd)) (go_keep)
          (first
            | (go_at_call 18; refine (K18.out _ (by omega)).mono ?_; rintro e W1 ⟨rfl, rfl⟩)
            | (go_at_call 21; refine K21.mono ?_; rintro e W1 ⟨rfl, rfl⟩)
            | (go_at_call_of 22 (Value.int .i64 1); refine K22.mono ?_; rintro e W1 ⟨rfl, rfl⟩)
            | (go_at_call_of 22 (Value.int .i64 0); refine K23.mono ?_; rintro e W1 ⟨rfl, rfl⟩)
            | (go_at_call 23; refine K24.mono ?_; rintro e W1 ⟨rfl, rfl⟩)
            | (go_at_call 24; refine K25.mono ?_; rintro e W1 ⟨rfl, rfl⟩)
            | (go_at_call 8; refine (lives_any _).mono ?_; rintro e W9 ⟨rfl, hb9⟩; have hA9 := HAd.out.below hb9; obtain ⟨v0, y1, y2, v3, v4, v5, v6⟩ := (HB.out hA9).conf))
        all_goals
          have HE := Lib.hid (HW.out hA9)
          go_wp2
          go_ret
          exact ⟨rfl, by rw [HCC.out]; exact HE.out⟩
theorem begins_any (c : P.Cf) (a1 : Option Addr) (n1 cap1 : Nat) (ds : List Int) (w : World) (R1 : F.Row .u8 w a1 n1 cap1 ds) :
    Calls Try.prog 3 #[c.v, .slice a1 n1 cap1] w fun e w' => e = .returned (.bool true) ∧ Below w.heap.size w w' := by
  have hr1 := R1.room
  unfold maxLen at hr1
  have HL := Lib.hid lives_any
  by_cases h1 : n1 ≤ 5000
  · by_cases hc : c.Ok
    · exact begins_main c a1 n1 cap1 ds w hc R1 h1
    · have KR := fun W => P.right_bad c W hc
      have KN := fun W => new_bad c (.slice a1 n1 cap1) true W hc
      clear R1 hc
      go_enter Try.func3, Try.ntmps3
      go_wp2_with fail
      refine (KN _).mono ?_
      rintro e V ⟨rfl, hb⟩
      obtain ⟨hB, h0⟩ := P.boxed c hb
      clear hb KN
      obtain ⟨p0, p1, p2, p3, p4, p5, p6⟩ := hB.conf
      go_wp2_with fail
      refine (KR _).mono ?_
      rintro e V1 ⟨rfl, hb⟩
      have H1 := Lib.hid (P.below_then h0 hb (Nat.le_refl _))
      clear hb KR h0 hB p0 p1 p2 p3 p4 p5 p6
      go_wp2_with fail
      refine (HL.out _).mono ?_
      rintro e V2 ⟨rfl, hb⟩
      have HE := Lib.hid (P.below_then H1.out hb (Nat.le_refl _))
      clear hb
      go_wp2
      go_ret
      exact ⟨rfl, HE.out⟩
  · clear R1
    have h2 : ¬ (n1 : Int) ≤ 5000 := by omega
    have H1 : Hid (Below w.heap.size w (w.alloc (.cells c.cs 23))) := Lib.hid ((Below.refl _ _).alloc (Nat.le_refl _) _)
    go_enter Try.func3, Try.ntmps3
    go_wp2_with fail
    refine (HL.out _).mono ?_
    rintro e V2 ⟨rfl, hb⟩
    have HE := Lib.hid (P.below_then H1.out hb (Nat.le_refl _))
    clear hb
    go_wp2
    go_ret
    exact ⟨rfl, HE.out⟩
end Go.Proofs.Ytogbakgmkiiboaa
