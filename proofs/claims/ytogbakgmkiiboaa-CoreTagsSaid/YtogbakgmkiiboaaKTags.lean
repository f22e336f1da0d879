/- CoreTags's walk. Printed by core_tags2.py. -/
import Derived.Test.YtogbakgmkiiboaaKDeeds
import Derived.Test.YtogbakgmkiiboaaKLives
import Derived.Test.YtogbakgmkiiboaaKArg
import Derived.Deep.RegionWith
import Derived.Deep.Cut
import Derived.Deep.CutRange
namespace Go.Proofs.Ytogbakgmkiiboaa
open Go.ChangeShapes Go.WideShapes Go.ChangeAt Go.RowKit
set_option linter.unusedVariables false
set_option maxRecDepth 20000

/-- Amid CoreTags: two machines, one with a ghost in the state s, and a ghost of its own in the state s2. -/
structure TagS (c : P.Cf) (w : World) (Cb B Fb T B2 F2 T2 Gb Gt : Nat) (s s2 : G.GS) (W : World) : Prop where
  cf : P.Blk W Cb 23 c.cs
  bel : Below w.heap.size w W
  ex : ∃ O O2 g t ms ms2, MachAt B c Fb T ms (some (g, t, s)) false O W ∧ MachAt B2 c F2 T2 ms2 none false O2 W ∧ (∀ k, O k → w.heap.size ≤ k) ∧ (∀ k, O k → ¬ O2 k) ∧
    G.GAt Gb (some ⟨Gt, 0, none⟩) c.nd.toNat s2 W ∧ Blk W Gt 3 (G.encI s2.tags) ∧ ¬ O Gb ∧ ¬ O Gt ∧ ¬ O2 Gb ∧ ¬ O2 Gt ∧ w.heap.size ≤ Gb ∧ w.heap.size ≤ Gt
variable {c : P.Cf} {w : World} {Cb B Fb T B2 F2 T2 Gb Gt : Nat} {s s2 : G.GS} {W W' : World}
theorem TagS.below (h : TagS c w Cb B Fb T B2 F2 T2 Gb Gt s s2 W) (hb : Below W.heap.size W W') : TagS c w Cb B Fb T B2 F2 T2 Gb Gt s s2 W' := by
  obtain ⟨O, O2, g, t, ms, ms2, h1, h2, h3, h4, h5, h6, h7⟩ := h.ex
  exact ⟨h.cf.below hb h.cf.lt, P.below_then h.bel hb (Nat.le_refl _), O, O2, g, t, ms, ms2, h1.below hb, h2.below hb, h3, h4, h5.below hb, h6.below' hb, h7⟩
theorem TagS.size (h : TagS c w Cb B Fb T B2 F2 T2 Gb Gt s s2 W) : w.heap.size ≤ W.heap.size := h.bel.size
/-- The machine with the ghost has turned. -/
theorem TagS.one (h : TagS c w Cb B Fb T B2 F2 T2 Gb Gt s s2 W) {v : Value} {K : Nat} {args : Array Value} {s' : G.GS}
    (hK : ∀ g t ms O, MachAt B c Fb T ms (some (g, t, s)) false O W → Calls Try.prog K args W (MDoes B c Fb T v ms (some (g, t, s')) false O W)) :
    Calls Try.prog K args W fun e W' => e = .returned v ∧ TagS c w Cb B Fb T B2 F2 T2 Gb Gt s' s2 W' := by
  obtain ⟨O, O2, g, t, ms, ms2, h1, h2, h3, h4, h5, h6, h7, h8, h9, h10, h11, h12⟩ := h.ex
  refine (hK g t ms O h1).mono ?_
  rintro e W' ⟨rfl, O', hk, hl, hm⟩
  have nC : ¬ O Cb := h1.no (show Blk W Cb 23 _ from h.cf) (by decide) (by decide) (by decide) (by decide) (by decide) (by decide)
  have hGl : Gb < W.heap.size := Blk.lt (show Blk W Gb 106 _ from h5.box)
  refine ⟨rfl, Blk.agree h.cf (hk.block Cb (Blk.lt h.cf) nC), h.bel.trans (hk.below h.bel.size h3), O', O2, g, t, ms, ms2, hm, ?_, ?_, ?_, ?_, ?_, ?_, ?_, h9, h10, h11, h12⟩
  · exact h2.agree fun k hk2 => hk.block k (h2.lt hk2) fun ho => h4 k ho hk2
  · intro k hk2
    exact (hl k hk2).elim (h3 k) (fun h' => Nat.le_trans h.bel.size h')
  · intro k hk2 ho2
    exact (hl k hk2).elim (fun ho => h4 k ho ho2) (fun h' => by have := h2.lt ho2; omega)
  · exact GAt.agree h5 (hk.block Gb hGl h7) (hk.block Gt h6.lt h8)
  · exact h6.agree (hk.block Gt h6.lt h8)
  · exact fun h' => (hl _ h').elim h7 (by omega)
  · exact fun h' => (hl _ h').elim h8 (by have := h6.lt; omega)
/-- The other machine does nothing. -/
theorem TagS.two (h : TagS c w Cb B Fb T B2 F2 T2 Gb Gt s s2 W) {v : Value} {K : Nat} {args : Array Value}
    (hK : ∀ ms2 O2, MachAt B2 c F2 T2 ms2 none false O2 W → Calls Try.prog K args W fun e W' => e = .returned v ∧ W = W') :
    Calls Try.prog K args W fun e W' => e = .returned v ∧ TagS c w Cb B Fb T B2 F2 T2 Gb Gt s s2 W' := by
  obtain ⟨O, O2, g, t, ms, ms2, h1, h2, h3⟩ := h.ex
  refine (hK ms2 O2 h2).mono ?_
  rintro e W' ⟨rfl, rfl⟩
  exact ⟨rfl, h⟩
/-- The ghost of its own has turned. -/
theorem TagS.own (h : TagS c w Cb B Fb T B2 F2 T2 Gb Gt s s2 W) (hnd : 0 < c.nd.toNat) {v : Value} {K : Nat} {args : Array Value} {s' : G.GS}
    (hK : G.GAt Gb (some ⟨Gt, 0, none⟩) c.nd.toNat s2 W → Calls Try.prog K args W (G.Does Gb (some ⟨Gt, 0, none⟩) c.nd.toNat v s' W)) :
    Calls Try.prog K args W fun e W' => e = .returned v ∧ TagS c w Cb B Fb T B2 F2 T2 Gb Gt s s' W' := by
  obtain ⟨O, O2, g, t, ms, ms2, h1, h2, h3, h4, h5, h6, h7, h8, h9, h10, h11, h12⟩ := h.ex
  refine (hK h5).mono ?_
  rintro e W' ⟨rfl, hg, ho⟩
  have hno : ∀ k, k < W.heap.size → k ≠ Gb → k ≠ Gt → W'.heap[k]? = W.heap[k]? := fun k hk h1 h2 => ho.block k hk h1 (fun e => h2 (by simpa using e.symm))
  have hGb : Blk W Gb 106 _ := h5.box
  refine ⟨rfl, Blk.agree h.cf (hno Cb (Blk.lt h.cf) (Blk.ne h.cf hGb (by decide)) (Blk.ne h.cf h6 (by decide))), h.bel.trans (ho.below h.bel.size h11 fun x e => (show Gt = x by simpa using e) ▸ h12), O, O2, g, t, ms, ms2, ?_, ?_, h3, h4, hg, ?_, h7, h8, h9, h10, h11, h12⟩
  · exact h1.agree fun k hk => hno k (h1.lt hk) (fun e => h7 (by rw [← e]; exact hk)) (fun e => h8 (by rw [← e]; exact hk))
  · exact h2.agree fun k hk => hno k (h2.lt hk) (fun e => h9 (by rw [← e]; exact hk)) (fun e => h10 (by rw [← e]; exact hk))
  · obtain ⟨G, e, hG⟩ := hg.row hnd
    have : Gt = G := by simpa using e
    subst this
    exact hG

theorem TagS.zero (h : TagS c w Cb B Fb T B2 F2 T2 Gb Gt s s W) : (s.k == 0 && s.i == 0) = decide (s.k = 0) := by
  obtain ⟨O, O2, g, t, ms, ms2, h1, h2, h3, h4, h5, h6⟩ := h.ex
  by_cases hh : s.k = 0
  · simp [hh, h5.first hh]
  · simp [hh]
theorem TagS.ghost (h : TagS c w Cb B Fb T B2 F2 T2 Gb Gt s s W) : ∃ g, (Calls Try.prog 21 #[at0 B] W fun e W' => e = .returned (at0 g) ∧ W = W') ∧
    Calls Try.prog 36 #[at0 g] W fun e W' => e = .returned (.agg #[.int .i64 s.k, .int .i64 s.i]) ∧ TagS c w Cb B Fb T B2 F2 T2 Gb Gt s s W' := by
  obtain ⟨O, O2, g, t, ms, ms2, h1, h2, h3⟩ := h.ex
  obtain ⟨M, Om, hO, hb, -, hg⟩ := h1
  refine ⟨g, ghost_any B M c _ Fb T _ false W hb, (G.first_any g _ _ s W hg.1).mono ?_⟩
  rintro e W' ⟨rfl, hb⟩
  exact ⟨rfl, h.below hb⟩
theorem TagS.ownFirst (h : TagS c w Cb B Fb T B2 F2 T2 Gb Gt s s W) : Calls Try.prog 36 #[at0 Gb] W fun e W' => e = .returned (.agg #[.int .i64 s.k, .int .i64 s.i]) ∧ TagS c w Cb B Fb T B2 F2 T2 Gb Gt s s W' := by
  obtain ⟨O, O2, g, t, ms, ms2, h1, h2, h3, h4, h5, h6⟩ := h.ex
  refine (G.first_any Gb _ _ s W h5).mono ?_
  rintro e W' ⟨rfl, hb⟩
  exact ⟨rfl, h.below hb⟩
theorem TagS.faultOne (h : TagS c w Cb B Fb T B2 F2 T2 Gb Gt s s W) : Calls Try.prog 15 #[at0 B] W fun e W' => e = .returned (.bool (!decide (s.k = 0))) ∧ TagS c w Cb B Fb T B2 F2 T2 Gb Gt s s W' := by
  obtain ⟨O, O2, g, t, ms, ms2, h1, h2⟩ := h.ex
  refine (fault_any B c Fb T ms _ false O W h1).mono ?_
  rintro e W' ⟨rfl, hb⟩
  exact ⟨by simp [gBad], h.below hb⟩
theorem TagS.faultTwo (h : TagS c w Cb B Fb T B2 F2 T2 Gb Gt s s W) : Calls Try.prog 15 #[at0 B2] W fun e W' => e = .returned (.bool false) ∧ TagS c w Cb B Fb T B2 F2 T2 Gb Gt s s W' := by
  obtain ⟨O, O2, g, t, ms, ms2, h1, h2, h3⟩ := h.ex
  refine (fault_any B2 c F2 T2 ms2 _ false O2 W h2).mono ?_
  rintro e W' ⟨rfl, hb⟩
  exact ⟨by simp [gBad], h.below hb⟩
theorem TagS.tags (h : TagS c w Cb B Fb T B2 F2 T2 Gb Gt s s W) (i : Int) : ∃ g, (Calls Try.prog 21 #[at0 B] W fun e W' => e = .returned (at0 g) ∧ W = W') ∧
    (Calls Try.prog 37 #[at0 g, .int .i64 i] W fun e W' => e = .returned (.int .i64 (tagOf c.nd.toNat s i)) ∧ W = W') ∧ Calls Try.prog 37 #[at0 Gb, .int .i64 i] W fun e W' => e = .returned (.int .i64 (tagOf c.nd.toNat s i)) ∧ W = W' := by
  obtain ⟨O, O2, g, t, ms, ms2, h1, h2, h3, h4, h5, h6⟩ := h.ex
  obtain ⟨M, Om, hO, hb, -, hg⟩ := h1
  exact ⟨g, ghost_any B M c _ Fb T _ false W hb, tag_any g _ _ s i W hg.1, tag_any Gb _ _ s i W h5⟩
/-- The configuration's box. -/
def Two5 (c : P.Cf) (Cb : Nat) (W : World) : Prop := P.Blk W Cb 23 c.cs
theorem eq_fault2 (k i : Int) (w : World) : (Op.equalIn 10000 76 (.agg #[.int .i64 k, .int .i64 i]) (.agg #[.int .i64 k, .int .i64 i])).run Try.prog w = .ok true w := by simp [go_sem]

set_option maxHeartbeats 16000000 in
theorem tags_main (c : P.Cf) (a1 : Option Addr) (n1 cap1 : Nat) (ks : List Int) (a2 : Option Addr) (n2 cap2 : Nat) (ns : List Int) (w : World) (hc : c.Ok) (R1 : F.Row .i64 w a1 n1 cap1 ks) (R2 : F.Row .i64 w a2 n2 cap2 ns) (h1 : n1 ≤ 100) (h2 : n1 ≤ n2) :
    Calls Try.prog 5 #[c.v, .slice a1 n1 cap1, .slice a2 n2 cap2] w fun e w' => e = .returned (.bool true) ∧ Below w.heap.size w w' := by
  have KR := fun W => P.right_ok c W hc
  have KS := P.rsent_any c
  have KN : ∀ gh W, Calls Try.prog 9 #[c.v, .slice none 0 0, .bool gh] W (Born c 0 [] gh W) := fun gh W => new_ok c _ gh 0 [] W hc (fun W' _ => F.new_nil W')
  have hnn : 0 < c.nd.toNat := by have := hc.nd; omega
  have KG : ∀ W, Calls Try.prog 29 #[.int .i64 c.nd, .int .i64 (P.sent c.al)] W (G.NewG c.nd.toNat (ghost0 c) W) := fun W => by
    have := G.new_some c.nd.toNat (P.sent c.al) W (by omega) (by have := hc.nd; omega)
    rw [show ((c.nd.toNat : Nat) : Int) = c.nd by omega] at this
    unfold ghost0
    rw [show ((c.nd.toNat : Nat) : Int) = c.nd by omega]
    exact this
  have HC := Lib.hid hc
  have hr1 := R1.room
  have hr2 := R2.room
  unfold maxLen at hr1 hr2
  have H1 := Lib.hid R1
  have H2 := Lib.hid R2
  clear hc R1 R2
  go_enter Try.func5, Try.ntmps5
  go_wp2_with fail
  refine (KR _).mono ?_
  rintro e V ⟨rfl, hb⟩
  obtain ⟨hB, h0⟩ := P.boxed c hb
  clear hb KR
  obtain ⟨p0, p1, p2, p3, p4, p5, p6⟩ := hB.conf
  generalize hCb : w.heap.size = Cb at *
  go_wp2_with fail
  refine (KN true _).mono ?_
  rintro e V1 ⟨Cb1, Pb1, B, Fb, T, ad, cap, gs, O, rfl, hgs, hA⟩
  have hgs' : ∃ g t, gs = some (g, t, ghost0 c) := hgs
  obtain ⟨g, t, rfl⟩ := hgs'
  have hb1 := hA.bel
  have hm1 := hA.mach
  have hB1 := hB.below hb1 hB.lt
  have h01 := P.below_then h0 hb1 (Nat.le_of_eq hCb.symm)
  have hlow := hA.low
  have hV := h0.size
  clear hA hgs hB h0 p0 p1 p2 p3 p4 p5 p6 hb1
  obtain ⟨p0, p1, p2, p3, p4, p5, p6⟩ := hB1.conf
  go_wp2_with fail
  refine (KN false _).mono ?_
  rintro e V2 ⟨Cb2, Pb2, B2, F2, T2, ad2, cap2', gs2, O2, rfl, hgs, hA⟩
  obtain rfl : gs2 = none := hgs
  have hb1 := hA.bel
  have hm2 := hA.mach
  have hB2 := hB1.below hb1 hB1.lt
  have h02 := P.below_then h01 hb1 (Nat.le_of_eq hCb.symm)
  have hlow2 := hA.low
  have hm1' := hm1.below hb1
  have hlt1 : ∀ k, O k → k < V1.heap.size := fun k hk => hm1.lt hk
  clear hA hB1 h01 p0 p1 p2 p3 p4 p5 p6 hb1 KN hm1
  obtain ⟨p0, p1, p2, p3, p4, p5, p6⟩ := hB2.conf
  have HT : Hid (Two5 c Cb V2.drew) := Lib.hid (P.Blk.drew hB2)
  have HM : Hid (∀ W Gb ad, Below V2.heap.size V2 W → G.GAt Gb ad c.nd.toNat (ghost0 c) W → V2.heap.size ≤ Gb → (∀ g, ad = some ⟨g, 0, none⟩ → V2.heap.size ≤ g) → ∃ Gt, TagS c w Cb B Fb T B2 F2 T2 Gb Gt (ghost0 c) (ghost0 c) W) := Lib.hid (by
    intro W Gb ad hb hg hGb had
    subst hCb
    obtain ⟨Gt, rfl, hGt⟩ := hg.row hnn
    have hsz := h02.size
    have hGt2 := had Gt rfl
    refine ⟨Gt, hB2.below hb hB2.lt, P.below_then h02 hb (by omega), O, O2, g, t, _, _, hm1'.below hb, hm2.below hb, ?_, ?_, hg, hGt, ?_, ?_, ?_, ?_, by omega, by omega⟩
    · intro k hk; have := hlow k hk; omega
    · intro k hk hk2; have := hlow2 k hk2; have := hlt1 k hk; omega
    · intro hk; have := hm1'.lt hk; omega
    · intro hk; have := hm1'.lt hk; omega
    · intro hk; have := hm2.lt hk; omega
    · intro hk; have := hm2.lt hk; omega)
  clear hm1' hm2 hB2 hlow hlow2 hlt1 h02 hV
  go_wp2_with fail
  go_cut [11] from 42 to 46 (fun s11 wx => ∃ Gb Gt, s11 = at0 Gb ∧ TagS c w Cb B Fb T B2 F2 T2 Gb Gt (ghost0 c) (ghost0 c) wx)
  case first =>
    have hTd := HT.out
    have hV2d : V2.drew.heap.size = V2.heap.size := rfl
    go_region_held3 (fun W => W.cell? ⟨Cb, 0, none⟩ = some (.int .i64 c.al) ∧ W.cell? ⟨Cb, 1, none⟩ = some (.int .i64 c.th) ∧ W.cell? ⟨Cb, 2, none⟩ = some (.int .i64 c.nd) ∧ W.cell? ⟨Cb, 3, none⟩ = some (.int .i64 c.lv) ∧ W.cell? ⟨Cb, 4, none⟩ = some (.int .i64 c.ba) ∧ W.cell? ⟨Cb, 5, none⟩ = some (.int .i64 c.pr) ∧ W.cell? ⟨Cb, 6, none⟩ = some (.int .i64 c.sc))
      (first | exact P.Blk.conf (show P.Blk _ Cb 23 c.cs by assumption) | go_keep)
      (first | (go_at_call 20; refine (KS _).mono ?_; rintro e W1 ⟨rfl, hb⟩; have hX1 : P.Blk W1 Cb 23 c.cs := P.Blk.below hTd hb (P.Blk.lt hTd); obtain ⟨q0, q1, q2, q3, q4, q5, q6⟩ := hX1.conf) | (go_at_call 29; refine (KG _).mono ?_; rintro e W2 ⟨Gb, ad', rfl, hb2, hg, hg1, hg2⟩; have hX2 : P.Blk W2 Cb 23 c.cs := P.Blk.below hX1 hb2 (P.Blk.lt hX1); obtain ⟨r0, r1, r2, r3, r4, r5, r6⟩ := hX2.conf))
    all_goals
      go_wp2_with fail
      go_meet
      have hs1 := hb.size
      obtain ⟨Gt, hX⟩ := HM.out W2 Gb ad' (((Below.refl V2.heap.size V2).drew.trans hb).trans (hb2.mono (by omega))) hg (by omega) (fun x e => by have := (hg2 x e).1; omega)
      exact ⟨_, Gt, rfl, hX⟩
  case rest =>
    obtain ⟨Gb, Gt, rfl, hS⟩ := hcut
    have HS := Lib.hid hS
    clear hS HM HT p0 p1 p2 p3 p4 p5 p6 KS KG
    go_wp2_with fail
    go_loopw [12] (fun i wr => ∃ k : Nat, k ≤ n1 ∧ i = .int .i64 k ∧ ∃ s, Hid (TagS c w Cb B Fb T B2 F2 T2 Gb Gt s s wr)) (fun i _ => n1 - (intOf i).toNat)
    case atStart => exact ⟨0, by omega, rfl, _, HS⟩
    case round =>
      obtain ⟨k, hk, rfl, s, HR⟩ := hrel
      clear HS
      by_cases hlt : k < n1
      · obtain ⟨b1, o1, rfl, z1⟩ := H1.out.cells HR.out.bel k hlt
        obtain ⟨b2, o2, rfl, z2⟩ := H2.out.cells HR.out.bel k (by omega)
        have HZ : Hid (∀ W, Below w.heap.size w W → W.cell? ⟨b2, o2 + k, none⟩ = some (.int .i64 (F.byteAt ns k))) := Lib.hid fun W hW => by
          obtain ⟨b2', o2', e, z⟩ := H2.out.cells hW k (by omega)
          obtain ⟨rfl, rfl⟩ : b2 = b2' ∧ o2 = o2' := by simpa using e
          exact z
        generalize F.byteAt ks k = kd at *
        generalize F.byteAt ns k = nd at *
        by_cases e0 : kd = 0
        · subst e0
          go_wp2_with fail
          refine (HR.out.one (K := 30) (fun g t ms O h => took_some B g t c Fb T ms s false O nd _ HC.out h)).mono ?_
          rintro e v1 ⟨rfl, S1⟩
          have z2 := HZ.out _ S1.bel
          go_wp2_with fail
          refine (S1.two (K := 30) (fun ms2 O2 h => took_none B2 c F2 T2 ms2 false O2 nd _ h)).mono ?_
          rintro e v2 ⟨rfl, S2⟩
          have z2 := HZ.out _ S2.bel
          go_wp2_with fail
          refine (S2.own hnn (K := 31) (fun hg => G.alloc_any Gb _ _ s nd _ hg)).mono ?_
          rintro e v3 ⟨rfl, S3⟩
          clear HR S1 S2
          have HX := Lib.hid S3
          have q1 := eq_fault2 (s.then c.nd.toNat 0 nd).k (s.then c.nd.toNat 0 nd).i
          have q2 := eq_fault (s.then c.nd.toNat 0 nd).k (s.then c.nd.toNat 0 nd).i
          rw [HX.out.zero] at q2
          obtain ⟨g, K21, K36⟩ := HX.out.ghost
          have H36 := Lib.hid K36
          have HO : Hid (∀ W', TagS c w Cb B Fb T B2 F2 T2 Gb Gt (s.then c.nd.toNat 0 nd) (s.then c.nd.toNat 0 nd) W' → Calls Try.prog 36 #[at0 Gb] W' fun e W'' => e = .returned (.agg #[.int .i64 (s.then c.nd.toNat 0 nd).k, .int .i64 (s.then c.nd.toNat 0 nd).i]) ∧ TagS c w Cb B Fb T B2 F2 T2 Gb Gt (s.then c.nd.toNat 0 nd) (s.then c.nd.toNat 0 nd) W'') := Lib.hid fun W' h => h.ownFirst
          have HF : Hid (∀ W', TagS c w Cb B Fb T B2 F2 T2 Gb Gt (s.then c.nd.toNat 0 nd) (s.then c.nd.toNat 0 nd) W' → Calls Try.prog 15 #[at0 B] W' fun e W'' => e = .returned (.bool (!decide ((s.then c.nd.toNat 0 nd).k = 0))) ∧ TagS c w Cb B Fb T B2 F2 T2 Gb Gt (s.then c.nd.toNat 0 nd) (s.then c.nd.toNat 0 nd) W'') := Lib.hid fun W' h => h.faultOne
          have HF2 : Hid (∀ W', TagS c w Cb B Fb T B2 F2 T2 Gb Gt (s.then c.nd.toNat 0 nd) (s.then c.nd.toNat 0 nd) W' → Calls Try.prog 15 #[at0 B2] W' fun e W'' => e = .returned (.bool false) ∧ TagS c w Cb B Fb T B2 F2 T2 Gb Gt (s.then c.nd.toNat 0 nd) (s.then c.nd.toNat 0 nd) W'') := Lib.hid fun W' h => h.faultTwo
          clear S3 K36 z1 z2
          generalize (s.then c.nd.toNat 0 nd) = sx at *
          generalize decide (sx.k = 0) = dd at *
          go_wp2_with fail
          refine K21.mono ?_
          rintro e v1 ⟨rfl, rfl⟩
          clear K21
          go_wp2_with fail
          refine H36.out.mono ?_
          rintro e v2 ⟨rfl, T2⟩
          clear H36 HX
          go_wp2_with fail
          refine (HO.out _ T2).mono ?_
          rintro e v3 ⟨rfl, T3⟩
          go_wp2_with fail
          refine (HF.out _ T3).mono ?_
          rintro e v4 ⟨rfl, T4⟩
          go_wp2_with fail
          refine (HO.out _ T4).mono ?_
          rintro e v5 ⟨rfl, T5⟩
          go_wp2_with fail
          refine (HF2.out _ T5).mono ?_
          rintro e v6 ⟨rfl, T6⟩
          have HT6 := Lib.hid T6
          clear T2 T3 T4 T5 T6 HO HF HF2
          go_wp2
          go_roundw
          case rel => exact ⟨k + 1, by omega, by go_num, _, HT6⟩
          case measure => simp [intOf]; omega
        by_cases e1 : kd = 1
        · subst e1
          go_wp2_with fail
          refine (HR.out.one (K := 32) (fun g t ms O h => gone_some B g t c Fb T ms s false O nd _ HC.out h)).mono ?_
          rintro e v1 ⟨rfl, S1⟩
          have z2 := HZ.out _ S1.bel
          go_wp2_with fail
          refine (S1.two (K := 32) (fun ms2 O2 h => gone_none B2 c F2 T2 ms2 false O2 nd _ h)).mono ?_
          rintro e v2 ⟨rfl, S2⟩
          have z2 := HZ.out _ S2.bel
          go_wp2_with fail
          refine (S2.own hnn (K := 33) (fun hg => G.retire_any Gb _ _ s nd _ hg)).mono ?_
          rintro e v3 ⟨rfl, S3⟩
          clear HR S1 S2
          have HX := Lib.hid S3
          have q1 := eq_fault2 (s.then c.nd.toNat 1 nd).k (s.then c.nd.toNat 1 nd).i
          have q2 := eq_fault (s.then c.nd.toNat 1 nd).k (s.then c.nd.toNat 1 nd).i
          rw [HX.out.zero] at q2
          obtain ⟨g, K21, K36⟩ := HX.out.ghost
          have H36 := Lib.hid K36
          have HO : Hid (∀ W', TagS c w Cb B Fb T B2 F2 T2 Gb Gt (s.then c.nd.toNat 1 nd) (s.then c.nd.toNat 1 nd) W' → Calls Try.prog 36 #[at0 Gb] W' fun e W'' => e = .returned (.agg #[.int .i64 (s.then c.nd.toNat 1 nd).k, .int .i64 (s.then c.nd.toNat 1 nd).i]) ∧ TagS c w Cb B Fb T B2 F2 T2 Gb Gt (s.then c.nd.toNat 1 nd) (s.then c.nd.toNat 1 nd) W'') := Lib.hid fun W' h => h.ownFirst
          have HF : Hid (∀ W', TagS c w Cb B Fb T B2 F2 T2 Gb Gt (s.then c.nd.toNat 1 nd) (s.then c.nd.toNat 1 nd) W' → Calls Try.prog 15 #[at0 B] W' fun e W'' => e = .returned (.bool (!decide ((s.then c.nd.toNat 1 nd).k = 0))) ∧ TagS c w Cb B Fb T B2 F2 T2 Gb Gt (s.then c.nd.toNat 1 nd) (s.then c.nd.toNat 1 nd) W'') := Lib.hid fun W' h => h.faultOne
          have HF2 : Hid (∀ W', TagS c w Cb B Fb T B2 F2 T2 Gb Gt (s.then c.nd.toNat 1 nd) (s.then c.nd.toNat 1 nd) W' → Calls Try.prog 15 #[at0 B2] W' fun e W'' => e = .returned (.bool false) ∧ TagS c w Cb B Fb T B2 F2 T2 Gb Gt (s.then c.nd.toNat 1 nd) (s.then c.nd.toNat 1 nd) W'') := Lib.hid fun W' h => h.faultTwo
          clear S3 K36 z1 z2
          generalize (s.then c.nd.toNat 1 nd) = sx at *
          generalize decide (sx.k = 0) = dd at *
          go_wp2_with fail
          refine K21.mono ?_
          rintro e v1 ⟨rfl, rfl⟩
          clear K21
          go_wp2_with fail
          refine H36.out.mono ?_
          rintro e v2 ⟨rfl, T2⟩
          clear H36 HX
          go_wp2_with fail
          refine (HO.out _ T2).mono ?_
          rintro e v3 ⟨rfl, T3⟩
          go_wp2_with fail
          refine (HF.out _ T3).mono ?_
          rintro e v4 ⟨rfl, T4⟩
          go_wp2_with fail
          refine (HO.out _ T4).mono ?_
          rintro e v5 ⟨rfl, T5⟩
          go_wp2_with fail
          refine (HF2.out _ T5).mono ?_
          rintro e v6 ⟨rfl, T6⟩
          have HT6 := Lib.hid T6
          clear T2 T3 T4 T5 T6 HO HF HF2
          go_wp2
          go_roundw
          case rel => exact ⟨k + 1, by omega, by go_num, _, HT6⟩
          case measure => simp [intOf]; omega
        by_cases e2 : kd = 2
        · subst e2
          go_wp2_with fail
          refine (HR.out.one (K := 34) (fun g t ms O h => freed_some B g t c Fb T ms s false O nd _ HC.out h)).mono ?_
          rintro e v1 ⟨rfl, S1⟩
          have z2 := HZ.out _ S1.bel
          go_wp2_with fail
          refine (S1.two (K := 34) (fun ms2 O2 h => freed_none B2 c F2 T2 ms2 false O2 nd _ h)).mono ?_
          rintro e v2 ⟨rfl, S2⟩
          have z2 := HZ.out _ S2.bel
          go_wp2_with fail
          refine (S2.own hnn (K := 35) (fun hg => G.release_any Gb _ _ s nd _ hg)).mono ?_
          rintro e v3 ⟨rfl, S3⟩
          clear HR S1 S2
          have HX := Lib.hid S3
          have q1 := eq_fault2 (s.then c.nd.toNat 2 nd).k (s.then c.nd.toNat 2 nd).i
          have q2 := eq_fault (s.then c.nd.toNat 2 nd).k (s.then c.nd.toNat 2 nd).i
          rw [HX.out.zero] at q2
          obtain ⟨g, K21, K36⟩ := HX.out.ghost
          have H36 := Lib.hid K36
          have HO : Hid (∀ W', TagS c w Cb B Fb T B2 F2 T2 Gb Gt (s.then c.nd.toNat 2 nd) (s.then c.nd.toNat 2 nd) W' → Calls Try.prog 36 #[at0 Gb] W' fun e W'' => e = .returned (.agg #[.int .i64 (s.then c.nd.toNat 2 nd).k, .int .i64 (s.then c.nd.toNat 2 nd).i]) ∧ TagS c w Cb B Fb T B2 F2 T2 Gb Gt (s.then c.nd.toNat 2 nd) (s.then c.nd.toNat 2 nd) W'') := Lib.hid fun W' h => h.ownFirst
          have HF : Hid (∀ W', TagS c w Cb B Fb T B2 F2 T2 Gb Gt (s.then c.nd.toNat 2 nd) (s.then c.nd.toNat 2 nd) W' → Calls Try.prog 15 #[at0 B] W' fun e W'' => e = .returned (.bool (!decide ((s.then c.nd.toNat 2 nd).k = 0))) ∧ TagS c w Cb B Fb T B2 F2 T2 Gb Gt (s.then c.nd.toNat 2 nd) (s.then c.nd.toNat 2 nd) W'') := Lib.hid fun W' h => h.faultOne
          have HF2 : Hid (∀ W', TagS c w Cb B Fb T B2 F2 T2 Gb Gt (s.then c.nd.toNat 2 nd) (s.then c.nd.toNat 2 nd) W' → Calls Try.prog 15 #[at0 B2] W' fun e W'' => e = .returned (.bool false) ∧ TagS c w Cb B Fb T B2 F2 T2 Gb Gt (s.then c.nd.toNat 2 nd) (s.then c.nd.toNat 2 nd) W'') := Lib.hid fun W' h => h.faultTwo
          clear S3 K36 z1 z2
          generalize (s.then c.nd.toNat 2 nd) = sx at *
          generalize decide (sx.k = 0) = dd at *
          go_wp2_with fail
          refine K21.mono ?_
          rintro e v1 ⟨rfl, rfl⟩
          clear K21
          go_wp2_with fail
          refine H36.out.mono ?_
          rintro e v2 ⟨rfl, T2⟩
          clear H36 HX
          go_wp2_with fail
          refine (HO.out _ T2).mono ?_
          rintro e v3 ⟨rfl, T3⟩
          go_wp2_with fail
          refine (HF.out _ T3).mono ?_
          rintro e v4 ⟨rfl, T4⟩
          go_wp2_with fail
          refine (HO.out _ T4).mono ?_
          rintro e v5 ⟨rfl, T5⟩
          go_wp2_with fail
          refine (HF2.out _ T5).mono ?_
          rintro e v6 ⟨rfl, T6⟩
          have HT6 := Lib.hid T6
          clear T2 T3 T4 T5 T6 HO HF HF2
          go_wp2
          go_roundw
          case rel => exact ⟨k + 1, by omega, by go_num, _, HT6⟩
          case measure => simp [intOf]; omega
        have w0 : (kd == 0) = false := by simpa using e0
        have w1 : (kd == 1) = false := by simpa using e1
        have w2 : (kd == 2) = false := by simpa using e2
        have S3 := HR.out
        clear HR
        have HX := Lib.hid S3
        have q1 := eq_fault2 (s).k (s).i
        have q2 := eq_fault (s).k (s).i
        rw [HX.out.zero] at q2
        obtain ⟨g, K21, K36⟩ := HX.out.ghost
        have H36 := Lib.hid K36
        have HO : Hid (∀ W', TagS c w Cb B Fb T B2 F2 T2 Gb Gt (s) (s) W' → Calls Try.prog 36 #[at0 Gb] W' fun e W'' => e = .returned (.agg #[.int .i64 (s).k, .int .i64 (s).i]) ∧ TagS c w Cb B Fb T B2 F2 T2 Gb Gt (s) (s) W'') := Lib.hid fun W' h => h.ownFirst
        have HF : Hid (∀ W', TagS c w Cb B Fb T B2 F2 T2 Gb Gt (s) (s) W' → Calls Try.prog 15 #[at0 B] W' fun e W'' => e = .returned (.bool (!decide ((s).k = 0))) ∧ TagS c w Cb B Fb T B2 F2 T2 Gb Gt (s) (s) W'') := Lib.hid fun W' h => h.faultOne
        have HF2 : Hid (∀ W', TagS c w Cb B Fb T B2 F2 T2 Gb Gt (s) (s) W' → Calls Try.prog 15 #[at0 B2] W' fun e W'' => e = .returned (.bool false) ∧ TagS c w Cb B Fb T B2 F2 T2 Gb Gt (s) (s) W'') := Lib.hid fun W' h => h.faultTwo
        clear S3 K36
        generalize (s) = sx at *
        generalize decide (sx.k = 0) = dd at *
        go_wp2_with fail
        refine K21.mono ?_
        rintro e v1 ⟨rfl, rfl⟩
        clear K21
        go_wp2_with fail
        refine H36.out.mono ?_
        rintro e v2 ⟨rfl, T2⟩
        clear H36 HX
        go_wp2_with fail
        refine (HO.out _ T2).mono ?_
        rintro e v3 ⟨rfl, T3⟩
        go_wp2_with fail
        refine (HF.out _ T3).mono ?_
        rintro e v4 ⟨rfl, T4⟩
        go_wp2_with fail
        refine (HO.out _ T4).mono ?_
        rintro e v5 ⟨rfl, T5⟩
        go_wp2_with fail
        refine (HF2.out _ T5).mono ?_
        rintro e v6 ⟨rfl, T6⟩
        have HT6 := Lib.hid T6
        clear T2 T3 T4 T5 T6 HO HF HF2
        go_wp2
        go_roundw
        case rel => exact ⟨k + 1, by omega, by go_num, _, HT6⟩
        case measure => simp [intOf]; omega
      · have hkn : k = n1 := by omega
        subst hkn
        have HB : Hid (∀ W, TagS c w Cb B Fb T B2 F2 T2 Gb Gt s s W → W.cell? ⟨Cb, 2, none⟩ = some (.int .i64 c.nd)) := Lib.hid fun W h => by
          obtain ⟨-, -, p2, -⟩ := h.cf.conf
          exact p2
        have hnd2 : c.nd ≤ 64 := HC.out.nd.2
        have hnd1 : 1 ≤ c.nd := HC.out.nd.1
        go_wp2
        go_loopw [13] (fun i wr => ∃ j : Nat, (j : Int) ≤ c.nd + 2 ∧ i = .int .i64 j ∧ Hid (TagS c w Cb B Fb T B2 F2 T2 Gb Gt s s wr)) (fun i _ => 100 - (intOf i).toNat)
        case atStart => exact ⟨0, by omega, rfl, HR⟩
        case round =>
          obtain ⟨j, hj, rfl, HR2⟩ := hrel
          clear HR
          have y2 := HB.out _ HR2.out
          have w1 : IntKind.i64.wrap (c.nd + 1) = c.nd + 1 := IntWalk.i64_in _ (by omega)
          by_cases hle : (j : Int) ≤ c.nd + 1
          · obtain ⟨g, K21, K37, K37b⟩ := HR2.out.tags j
            generalize tagOf c.nd.toNat s j = tg at *
            go_wp2_with fail
            refine K21.mono ?_
            rintro e v1 ⟨rfl, rfl⟩
            clear K21
            go_wp2_with fail
            refine K37.mono ?_
            rintro e v2 ⟨rfl, rfl⟩
            clear K37
            go_wp2_with fail
            refine K37b.mono ?_
            rintro e v3 ⟨rfl, rfl⟩
            clear K37b y2
            go_wp2
            go_roundw
            case rel => exact ⟨j + 1, by omega, by go_num, HR2⟩
            case measure => simp [intOf]; omega
          · have HL := Lib.hid (lives_any wr)
            have HBel := Lib.hid HR2.out.bel
            clear HR2
            go_wp2_with fail
            refine HL.out.mono ?_
            rintro e v1 ⟨rfl, hb⟩
            have HE := Lib.hid (HBel.out.trans (hb.mono HBel.out.size))
            clear hb y2
            go_wp2
            go_ret
            exact ⟨rfl, HE.out⟩
theorem tags_any (c : P.Cf) (a1 : Option Addr) (n1 cap1 : Nat) (ks : List Int) (a2 : Option Addr) (n2 cap2 : Nat) (ns : List Int) (w : World) (R1 : F.Row .i64 w a1 n1 cap1 ks) (R2 : F.Row .i64 w a2 n2 cap2 ns) :
    Calls Try.prog 5 #[c.v, .slice a1 n1 cap1, .slice a2 n2 cap2] w fun e w' => e = .returned (.bool true) ∧ Below w.heap.size w w' := by
  by_cases hc : c.Ok ∧ n1 ≤ 100 ∧ n1 ≤ n2
  · exact tags_main c a1 n1 cap1 ks a2 n2 cap2 ns w hc.1 R1 R2 hc.2.1 hc.2.2
  have hr1 := R1.room
  have hr2 := R2.room
  unfold maxLen at hr1 hr2
  have HL := Lib.hid lives_any
  clear R1 R2
  by_cases h : c.Ok
  · have KR := fun W => P.right_ok c W h
    have hn : ¬ (n1 ≤ 100 ∧ n1 ≤ n2) := fun hh => hc ⟨h, hh⟩
    clear h hc
    by_cases h1 : n1 ≤ 100
    · have h2 : ¬ n1 ≤ n2 := fun hh => hn ⟨h1, hh⟩
      clear hn
      go_enter Try.func5, Try.ntmps5
      go_wp2_with fail
      refine (KR _).mono ?_
      rintro e V ⟨rfl, hb⟩
      obtain ⟨-, h0⟩ := P.boxed c hb
      have H0 := Lib.hid h0
      clear hb h0 KR
      go_wp2_with fail
      refine (HL.out _).mono ?_
      rintro e V2 ⟨rfl, hb⟩
      have HE := Lib.hid (P.below_then H0.out hb (Nat.le_refl _))
      clear hb
      go_wp2
      go_ret
      exact ⟨rfl, HE.out⟩
    · clear hn
      go_enter Try.func5, Try.ntmps5
      go_wp2_with fail
      refine (KR _).mono ?_
      rintro e V ⟨rfl, hb⟩
      obtain ⟨-, h0⟩ := P.boxed c hb
      have H0 := Lib.hid h0
      clear hb h0 KR
      go_wp2_with fail
      refine (HL.out _).mono ?_
      rintro e V2 ⟨rfl, hb⟩
      have HE := Lib.hid (P.below_then H0.out hb (Nat.le_refl _))
      clear hb
      go_wp2
      go_ret
      exact ⟨rfl, HE.out⟩
  · have KR := fun W => P.right_bad c W h
    clear h hc
    go_enter Try.func5, Try.ntmps5
    go_wp2_with fail
    refine (KR _).mono ?_
    rintro e V ⟨rfl, hb⟩
    obtain ⟨-, h0⟩ := P.boxed c hb
    have H0 := Lib.hid h0
    clear hb h0 KR
    go_wp2_with fail
    refine (HL.out _).mono ?_
    rintro e V2 ⟨rfl, hb⟩
    have HE := Lib.hid (P.below_then H0.out hb (Nat.le_refl _))
    clear hb
    go_wp2
    go_ret
    exact ⟨rfl, HE.out⟩
end Go.Proofs.Ytogbakgmkiiboaa
