/- Amid CoreSteps: two machines, the document's words, the places; the touches of the ghost. -/
import Derived.Test.YtogbakgmkiiboaaKDo
import Derived.Test.YtogbakgmkiiboaaKFirst
import Derived.Test.YtogbakgmkiiboaaKLives
namespace Go.Proofs.Ytogbakgmkiiboaa
open Go.ChangeShapes Go.WideShapes Go.ChangeAt Go.RowKit
set_option linter.unusedVariables false
set_option maxRecDepth 20000

/-- Does an address lie in a node that isn't a sentinel? -/
def hit (c : P.Cf) (x : Int) : Bool := decide ((c.place x).1 = 3) && decide (P.sent c.al < (c.place x).2.1)
/-- The ghost's tags are those at first; it is at fault just if t. -/
def GsOk (c : P.Cf) (s : G.GS) (t : Bool) : Prop := s.tags = (ghost0 c).tags ∧ decide (s.k = 0) = !t
theorem tag0 (n m j : Nat) (hm : m ≤ n) (hj : j < n) : G.tagAt (G.tags0 n m) j = if j < m then 1 else 0 := by
  unfold G.tagAt G.tags0
  rw [List.getD_eq_getElem?_getD, List.getElem?_append]
  by_cases h : j < m
  · simp [h]
  · have : j - m < n - m := by omega
    simp [h, List.getElem?_replicate, this]
theorem place3_in {c : P.Cf} (hc : c.Ok) {x n f : Int} (h : c.place x = (3, n, f)) : 1 ≤ n ∧ n ≤ c.nd ∧ 0 ≤ x ∧ x < c.size := by
  by_cases h0 : 0 ≤ x ∧ x < c.size
  · rcases P.place_cases hc h0.1 h0.2 with ⟨_, e⟩ | ⟨_, _, e, _⟩ | ⟨_, e, _⟩ | ⟨n', f', e, h1, h2, _⟩ | ⟨_, e, _⟩
    · rw [h] at e; cases e
    · rw [h] at e; cases e
    · rw [h] at e; cases e
    · rw [h] at e
      cases e
      exact ⟨h1, h2, h0.1, h0.2⟩
    · rw [h] at e; cases e
  · have := P.place_5 hc (a := x) (by omega)
    rw [h] at this; cases this
theorem touchG_ok {c : P.Cf} (hc : c.Ok) {s : G.GS} {t : Bool} (h : GsOk c s t) (x : Int) : GsOk c (touchG c s x) (t || hit c x) := by
  obtain ⟨h1, h2⟩ := h
  unfold touchG hit
  by_cases h3 : (c.place x).1 = 3
  · obtain ⟨y, n, f, e⟩ : ∃ y n f, c.place x = (y, n, f) := ⟨_, _, _, rfl⟩
    rw [e] at h3 ⊢
    simp only at h3
    subst h3
    obtain ⟨n1, n2, _, _⟩ := place3_in hc e
    obtain ⟨d1, d2⟩ := P.sent_in c.al
    have hn0 := hc.n0
    have hm1 : (min (P.sent c.al) (c.nd.toNat : Int)).toNat = (P.sent c.al).toNat := by rw [Int.min_eq_left (by omega)]
    have ht : G.tagAt s.tags (n - 1).toNat = if (n - 1).toNat < (P.sent c.al).toNat then 1 else 0 := by
      rw [h1]
      unfold ghost0
      rw [hm1, tag0 _ _ _ (by omega) (by omega)]
    simp only [if_true, decide_true, Bool.true_and]
    have hk : G.kindOf s c.nd.toNat 3 n = if P.sent c.al < n then 4 else 0 := by
      unfold G.kindOf
      rw [if_neg (by omega), if_pos rfl, ht]
      by_cases hs : P.sent c.al < n
      · have h' : ¬ (n - 1).toNat < (P.sent c.al).toNat := by omega
        rw [if_neg h', if_pos rfl, if_pos hs]
      · have h' : (n - 1).toNat < (P.sent c.al).toNat := by omega
        rw [if_pos h', if_neg (by decide : ¬ (1 : Int) = 0), if_neg hs]
    unfold G.GS.then
    rw [hk]
    by_cases hs : P.sent c.al < n
    · rw [if_pos hs, if_pos (by decide), decide_eq_true hs, Bool.or_true]
      unfold G.GS.bad
      by_cases hz : s.k = 0
      · rw [if_pos hz]
        exact ⟨h1, rfl⟩
      · rw [if_neg hz]
        refine ⟨h1, by simp [hz]⟩
    · rw [if_neg hs, if_neg (by decide), if_pos rfl, decide_eq_false hs, Bool.or_false]
      exact ⟨h1, h2⟩
  · rw [if_neg h3, decide_eq_false h3, Bool.false_and, Bool.or_false]
    exact ⟨h1, h2⟩
theorem ghost0_ok (c : P.Cf) : GsOk c (ghost0 c) false := ⟨rfl, rfl⟩
/-- A step's touches: was a node touched that is free? -/
def hits (c : P.Cf) (k a b : Int) : Bool := hit c a || (decide (3 < k) && hit c b)
theorem touches_ok {c : P.Cf} (hc : c.Ok) {s : G.GS} {t : Bool} (h : GsOk c s t) (k a b : Int) : GsOk c ((addrs k a b).foldl (touchG c) s) (t || hits c k a b) := by
  unfold addrs hits
  by_cases h3 : 3 < k
  · rw [if_pos h3, decide_eq_true h3, Bool.true_and, ← Bool.or_assoc]
    exact touchG_ok hc (touchG_ok hc h a) b
  · rw [if_neg h3, decide_eq_false h3, Bool.false_and, Bool.or_false]
    exact touchG_ok hc h a

/-- A deed, written plainly; a list of deeds that came in. -/
structure OpT where
  k : Int
  a : Int
  b : Int
  o : Int
  x : Int
  p : Int
  q : Int
def OpsIn (w : World) (ao : Option Addr) (len : Nat) (F : Nat → OpT) : Prop := ∀ j, j < len → ∃ bb off, ao = some ⟨bb, off, none⟩ ∧
  w.cell? ⟨bb, off + j * 7, none⟩ = some (.int .i64 (F j).k) ∧ w.cell? ⟨bb, off + j * 7 + 1, none⟩ = some (.int .i64 (F j).a) ∧ w.cell? ⟨bb, off + j * 7 + 2, none⟩ = some (.int .i64 (F j).b) ∧
  w.cell? ⟨bb, off + j * 7 + 3, none⟩ = some (.int .u64 (F j).o) ∧ w.cell? ⟨bb, off + j * 7 + 4, none⟩ = some (.int .u64 (F j).x) ∧ w.cell? ⟨bb, off + j * 7 + 5, none⟩ = some (.int .u64 (F j).p) ∧ w.cell? ⟨bb, off + j * 7 + 6, none⟩ = some (.int .u64 (F j).q) ∧
  P.I64 (F j).a ∧ P.I64 (F j).b
theorem OpsIn.below {w W : World} {ao : Option Addr} {len : Nat} {F : Nat → OpT} (h : OpsIn w ao len F) (b : Below w.heap.size w W) : OpsIn W ao len F := by
  intro j hj
  obtain ⟨bb, off, e, h0, h1, h2, h3, h4, h5, h6, h7⟩ := h j hj
  have hl := World.block_lt_of_cell? w _ h0
  have q : ∀ i, W.cell? ⟨bb, i, none⟩ = w.cell? ⟨bb, i, none⟩ := fun i => b.cell (p := ⟨bb, i, none⟩) hl
  exact ⟨bb, off, e, (q _).trans h0, (q _).trans h1, (q _).trans h2, (q _).trans h3, (q _).trans h4, (q _).trans h5, (q _).trans h6, h7⟩

/-- A list of words of one's own. -/
def WordsAt2 (ws : List Int) (n : Nat) (w : World) (e : Ending) (w' : World) : Prop :=
  ∃ g cp n0, e = .returned (.slice (some ⟨g, 0, none⟩) n cp) ∧ w'.ownsRow n0 44 1 (.slice (some ⟨g, 0, none⟩) n cp) n (encU ws) ∧ n ≤ cp ∧ cp ≤ 9223372036854775807 ∧ Below w.heap.size w w' ∧ w.heap.size ≤ g
theorem own_words2 {W : World} {n0 n : Nat} {v : Value} {ws : List Int} (h : W.ownsRow n0 44 1 v n (encU ws)) (hn : 0 < n) : ∃ g cp, v = .slice (some ⟨g, 0, none⟩) n cp ∧ n ≤ cp ∧ cp ≤ 9223372036854775807 ∧ n0 ≤ g := by
  rcases h.2 with ⟨rfl, hz⟩ | ⟨g, cp, cur, rfl, hg, _, h1, h2, _⟩
  · omega
  · exact ⟨g, cp, rfl, h1, by unfold maxLen at h2; omega, hg⟩
theorem words_own2 (M : Nat) (s : MS) (O : Nat → Prop) (w : World) (h : MemAt M s O w) (h1 : s.ws.length ≤ 4096) (h0 : 0 < s.ws.length) : Calls Try.prog 13 #[at0 M] w (WordsAt2 s.ws s.ws.length w) := by
  refine (words_any M s O w h h1).mono ?_
  rintro e w' ⟨v, rfl, ho, hb⟩
  obtain ⟨g, cp, rfl, h2, h3, h4⟩ := own_words2 ho h0
  exact ⟨g, cp, _, rfl, ho, h2, h3, hb, h4⟩
theorem first_own2 (c : P.Cf) (w : World) (hc : c.Ok) : Calls Try.prog 14 #[c.v] w (WordsAt2 (firstL c) c.size.toNat w) := by
  refine (first_any c w hc).mono ?_
  rintro e w' ⟨v, rfl, ho, hb⟩
  obtain ⟨g, cp, rfl, h2, h3, h4⟩ := own_words2 ho (by have := hc.steps; omega)
  exact ⟨g, cp, _, rfl, ho, h2, h3, hb, h4⟩
/-- Amid CoreSteps. -/
structure StS (c : P.Cf) (w : World) (Cb B Fb T B2 F2 T2 wg cp pg pcp Ob : Nat) (oc : Array Value) (ms ms2 : MS) (gs : Gh) (bad bad2 : Bool) (wl : List Int) (W : World) : Prop where
  cf : P.Blk W Cb 23 c.cs
  bel : Below w.heap.size w W
  ex : ∃ O O2, MachAt B c Fb T ms gs bad O W ∧ MachAt B2 c F2 T2 ms2 none bad2 O2 W ∧ (∀ k, O k → w.heap.size ≤ k) ∧ (∀ k, O2 k → w.heap.size ≤ k) ∧ (∀ k, O k → ¬ O2 k) ∧ ¬ O wg ∧ ¬ O2 wg
  row : ∃ n0, W.ownsRow n0 44 1 (.slice (some ⟨wg, 0, none⟩) c.size.toNat cp) c.size.toNat (encU wl)
  prow : ∃ n1, W.ownsRow n1 65 3 (.slice (some ⟨pg, 0, none⟩) c.size.toNat pcp) c.size.toNat (P.encP (c.upto c.size.toNat))
  ob : oc = #[] ∨ Blk W Ob 63 oc
variable {c : P.Cf} {w W W' : World} {Cb B Fb T B2 F2 T2 wg cp pg pcp Ob : Nat} {oc : Array Value} {ms ms2 : MS} {gs : Gh} {bad bad2 : Bool} {wl : List Int}
theorem StS.below (h : StS c w Cb B Fb T B2 F2 T2 wg cp pg pcp Ob oc ms ms2 gs bad bad2 wl W) (hb : Below W.heap.size W W') : StS c w Cb B Fb T B2 F2 T2 wg cp pg pcp Ob oc ms ms2 gs bad bad2 wl W' := by
  obtain ⟨O, O2, h1, h2, h3⟩ := h.ex
  obtain ⟨n0, hr⟩ := h.row
  obtain ⟨n1, hp⟩ := h.prow
  exact ⟨h.cf.below hb h.cf.lt, P.below_then h.bel hb (Nat.le_refl _), ⟨O, O2, h1.below hb, h2.below hb, h3⟩, ⟨n0, row_agree hr fun k e => hb.block k (hr.lt k e).2⟩, ⟨n1, row_agree hp fun k e => hb.block k (hp.lt k e).2⟩, h.ob.imp id fun h => h.below' hb⟩
theorem StS.one (h : StS c w Cb B Fb T B2 F2 T2 wg cp pg pcp Ob oc ms ms2 gs bad bad2 wl W) {v : Value} {K : Nat} {args : Array Value} {ms' : MS} {gs' : Gh} {bad' : Bool}
    (hK : ∀ O, MachAt B c Fb T ms gs bad O W → Calls Try.prog K args W (MDoes B c Fb T v ms' gs' bad' O W)) :
    Calls Try.prog K args W fun e W' => e = .returned v ∧ StS c w Cb B Fb T B2 F2 T2 wg cp pg pcp Ob oc ms' ms2 gs' bad' bad2 wl W' := by
  obtain ⟨O, O2, h1, h2, h3, h4, h5, h6, h7⟩ := h.ex
  obtain ⟨n0, hr⟩ := h.row
  obtain ⟨n1, hp⟩ := h.prow
  refine (hK O h1).mono ?_
  rintro e W' ⟨rfl, O', hk, hl, hm⟩
  have nC : ¬ O Cb := h1.no (show Blk W Cb 23 _ from h.cf) (by decide) (by decide) (by decide) (by decide) (by decide) (by decide)
  have hwl : wg < W.heap.size := (hr.lt wg rfl).2
  have hpl : pg < W.heap.size := (hp.lt pg rfl).2
  have nP : ¬ O pg := by
    rcases hp.2 with ⟨e, _⟩ | ⟨g, cap, cur, e, _, hg, _⟩
    · cases e
    · have e' : pg = g := by cases e; rfl
      subst e'
      exact h1.no (show Blk W pg 65 cur from hg) (by decide) (by decide) (by decide) (by decide) (by decide) (by decide)
  refine ⟨rfl, Blk.agree h.cf (hk.block Cb (Blk.lt h.cf) nC), h.bel.trans (hk.below h.bel.size h3), ⟨O', O2, hm, ?_, ?_, h4, ?_, ?_, h7⟩, ⟨n0, row_agree hr fun k e => ?_⟩, ⟨n1, row_agree hp fun k e => ?_⟩, h.ob.imp id fun hB => hB.agree (hk.block Ob hB.lt (h1.no hB (by decide) (by decide) (by decide) (by decide) (by decide) (by decide)))⟩
  · exact h2.agree fun k hk2 => hk.block k (h2.lt hk2) fun ho => h5 k ho hk2
  · intro k hk2
    exact (hl k hk2).elim (h3 k) (fun h' => Nat.le_trans h.bel.size h')
  · intro k hk2 ho2
    exact (hl k hk2).elim (fun ho => h5 k ho ho2) (fun h' => by have := h2.lt ho2; omega)
  · exact fun h' => (hl _ h').elim h6 (by omega)
  · have e' : wg = k := by simpa [Value.ownBlock] using e
    subst e'
    exact hk.block wg hwl h6
  · have e' : pg = k := by simpa [Value.ownBlock] using e
    subst e'
    exact hk.block pg hpl nP
theorem StS.two (h : StS c w Cb B Fb T B2 F2 T2 wg cp pg pcp Ob oc ms ms2 gs bad bad2 wl W) {v : Value} {K : Nat} {args : Array Value} {ms' : MS} {bad' : Bool}
    (hK : ∀ O, MachAt B2 c F2 T2 ms2 none bad2 O W → Calls Try.prog K args W (MDoes B2 c F2 T2 v ms' none bad' O W)) :
    Calls Try.prog K args W fun e W' => e = .returned v ∧ StS c w Cb B Fb T B2 F2 T2 wg cp pg pcp Ob oc ms ms' gs bad bad' wl W' := by
  obtain ⟨O, O2, h1, h2, h3, h4, h5, h6, h7⟩ := h.ex
  obtain ⟨n0, hr⟩ := h.row
  obtain ⟨n1, hp⟩ := h.prow
  refine (hK O2 h2).mono ?_
  rintro e W' ⟨rfl, O', hk, hl, hm⟩
  have nC : ¬ O2 Cb := h2.no (show Blk W Cb 23 _ from h.cf) (by decide) (by decide) (by decide) (by decide) (by decide) (by decide)
  have hwl : wg < W.heap.size := (hr.lt wg rfl).2
  have hpl : pg < W.heap.size := (hp.lt pg rfl).2
  have nP : ¬ O2 pg := by
    rcases hp.2 with ⟨e, _⟩ | ⟨g, cap, cur, e, _, hg, _⟩
    · cases e
    · have e' : pg = g := by cases e; rfl
      subst e'
      exact h2.no (show Blk W pg 65 cur from hg) (by decide) (by decide) (by decide) (by decide) (by decide) (by decide)
  refine ⟨rfl, Blk.agree h.cf (hk.block Cb (Blk.lt h.cf) nC), h.bel.trans (hk.below h.bel.size h4), ⟨O, O', ?_, hm, h3, ?_, ?_, h6, ?_⟩, ⟨n0, row_agree hr fun k e => ?_⟩, ⟨n1, row_agree hp fun k e => ?_⟩, h.ob.imp id fun hB => hB.agree (hk.block Ob hB.lt (h2.no hB (by decide) (by decide) (by decide) (by decide) (by decide) (by decide)))⟩
  · exact h1.agree fun k hk2 => hk.block k (h1.lt hk2) fun ho => h5 k hk2 ho
  · intro k hk2
    exact (hl k hk2).elim (h4 k) (fun h' => Nat.le_trans h.bel.size h')
  · intro k hk2 ho2
    exact (hl k ho2).elim (fun ho => h5 k hk2 ho) (fun h' => by have := h1.lt hk2; omega)
  · exact fun h' => (hl _ h').elim h7 (by omega)
  · have e' : wg = k := by simpa [Value.ownBlock] using e
    subst e'
    exact hk.block wg hwl h7
  · have e' : pg = k := by simpa [Value.ownBlock] using e
    subst e'
    exact hk.block pg hpl nP
/-- The document's words are another list. -/
theorem StS.words (h : StS c w Cb B Fb T B2 F2 T2 wg cp pg pcp Ob oc ms ms2 gs bad bad2 wl W) (hb : Below W.heap.size W W') {g' cp' : Nat} {wl' : List Int} (hr : W'.ownsRow W.heap.size 44 1 (.slice (some ⟨g', 0, none⟩) c.size.toNat cp') c.size.toNat (encU wl')) :
    StS c w Cb B Fb T B2 F2 T2 g' cp' pg pcp Ob oc ms ms2 gs bad bad2 wl' W' := by
  have hh := h.below hb
  obtain ⟨O, O2, h1, h2, h3, h4, h5, h6, h7⟩ := h.ex
  have hg : W.heap.size ≤ g' := by
    rcases hr.2 with ⟨e, _⟩ | ⟨g, cap, cur, e, hb, _⟩
    · cases e
    · have e' : g' = g := by cases e; rfl
      omega
  exact ⟨hh.cf, hh.bel, ⟨O, O2, h1.below hb, h2.below hb, h3, h4, h5, fun ho => by have := h1.lt ho; omega, fun ho => by have := h2.lt ho; omega⟩, ⟨_, hr⟩, hh.prow, hh.ob⟩
/-- A deed's box is made. -/
theorem StS.deed (h : StS c w Cb B Fb T B2 F2 T2 wg cp pg pcp Ob oc ms ms2 gs bad bad2 wl W) (oc' : Array Value) : StS c w Cb B Fb T B2 F2 T2 wg cp pg pcp W.heap.size oc' ms ms2 gs bad bad2 wl (W.alloc (.cells oc' 63)) := by
  have hh := h.below (W' := W.alloc (.cells oc' 63)) ((Below.refl _ _).alloc (Nat.le_refl _) _)
  exact ⟨hh.cf, hh.bel, hh.ex, hh.row, hh.prow, .inr (Blk.new _ _ _)⟩
theorem StS.cells (h : StS c w Cb B Fb T B2 F2 T2 wg cp pg pcp Ob oc ms ms2 gs bad bad2 wl W) (ho : oc ≠ #[]) (i : Nat) : W.cell? ⟨Ob, i, none⟩ = oc[i]? := by
  rcases h.ob with e | hb
  · exact absurd e ho
  · exact hb.cell i
theorem StS.copyOne (h : StS c w Cb B Fb T B2 F2 T2 wg cp pg pcp Ob oc ms ms2 gs bad bad2 wl W) (h1 : ms.ws.length ≤ 4096) (h0 : 0 < ms.ws.length) : ∃ M, (Calls Try.prog 12 #[at0 B] W fun e W' => e = .returned (at0 M) ∧ W = W') ∧ Calls Try.prog 13 #[at0 M] W (WordsAt2 ms.ws ms.ws.length W) := by
  obtain ⟨O, O2, h1', h2, h3⟩ := h.ex
  obtain ⟨M, Om, hO, hb, hm, hg⟩ := h1'
  exact ⟨M, mem_any B M c _ Fb T _ bad W hb, words_own2 M ms Om W hm h1 h0⟩
theorem StS.copyTwo (h : StS c w Cb B Fb T B2 F2 T2 wg cp pg pcp Ob oc ms ms2 gs bad bad2 wl W) (h1 : ms2.ws.length ≤ 4096) (h0 : 0 < ms2.ws.length) : ∃ M, (Calls Try.prog 12 #[at0 B2] W fun e W' => e = .returned (at0 M) ∧ W = W') ∧ Calls Try.prog 13 #[at0 M] W (WordsAt2 ms2.ws ms2.ws.length W) := by
  obtain ⟨O, O2, h1', h2, h3⟩ := h.ex
  obtain ⟨M, Om, hO, hb, hm, hg⟩ := h2
  exact ⟨M, mem_any B2 M c _ F2 T2 _ bad2 W hb, words_own2 M ms2 Om W hm h1 h0⟩
theorem StS.fault1 (h : StS c w Cb B Fb T B2 F2 T2 wg cp pg pcp Ob oc ms ms2 gs bad bad2 wl W) : Calls Try.prog 15 #[at0 B] W fun e W' => e = .returned (.bool (bad || gBad gs)) ∧ StS c w Cb B Fb T B2 F2 T2 wg cp pg pcp Ob oc ms ms2 gs bad bad2 wl W' := by
  obtain ⟨O, O2, h1, h2⟩ := h.ex
  refine (fault_any B c Fb T ms _ bad O W h1).mono ?_
  rintro e W' ⟨rfl, hb⟩
  exact ⟨rfl, h.below hb⟩
theorem StS.fault2 (h : StS c w Cb B Fb T B2 F2 T2 wg cp pg pcp Ob oc ms ms2 gs bad bad2 wl W) : Calls Try.prog 15 #[at0 B2] W fun e W' => e = .returned (.bool bad2) ∧ StS c w Cb B Fb T B2 F2 T2 wg cp pg pcp Ob oc ms ms2 gs bad bad2 wl W' := by
  obtain ⟨O, O2, h1, h2, h3⟩ := h.ex
  refine (fault_any B2 c F2 T2 ms2 none bad2 O2 W h2).mono ?_
  rintro e W' ⟨rfl, hb⟩
  exact ⟨by simp [gBad], h.below hb⟩
/-- A place's cells. -/
theorem StS.place (h : StS c w Cb B Fb T B2 F2 T2 wg cp pg pcp Ob oc ms ms2 gs bad bad2 wl W) {i : Nat} (hi : i < c.size.toNat) : W.cell? ⟨pg, i * 3, none⟩ = some (.int .i64 (c.place (i : Int)).1) ∧ W.cell? ⟨pg, i * 3 + 1, none⟩ = some (.int .i64 (c.place (i : Int)).2.1) := by
  obtain ⟨n1, hp⟩ := h.prow
  have hx : (c.upto c.size.toNat)[i]? = some (c.place (i : Int)) := by simp [P.Cf.upto, hi]
  obtain ⟨q0, q1, q2⟩ := P.encP_get _ i _ hx
  exact ⟨by rw [hp.cellAt _ (by omega)]; exact q0, by rw [hp.cellAt _ (by omega)]; exact q1⟩
theorem StS.room (h : StS c w Cb B Fb T B2 F2 T2 wg cp pg pcp Ob oc ms ms2 gs bad bad2 wl W) : c.size.toNat ≤ cp ∧ cp ≤ 9223372036854775807 ∧ c.size.toNat ≤ pcp ∧ pcp ≤ 9223372036854775807 := by
  obtain ⟨n0, hr⟩ := h.row
  obtain ⟨n1, hp⟩ := h.prow
  have q : ∀ {W : World} {b e s n g cp : Nat} {xs : List Value}, W.ownsRow b e s (.slice (some ⟨g, 0, none⟩) n cp) n xs → n ≤ cp ∧ cp ≤ 9223372036854775807 := fun {W b e s n g cp xs} h => by
    rcases h.2 with ⟨e, _⟩ | ⟨g', cap, cur, e, _, _, h1, h2, _⟩
    · cases e
    · cases e
      exact ⟨h1, by unfold maxLen at h2; omega⟩
  exact ⟨(q hr).1, (q hr).2, (q hp).1, (q hp).2⟩
end Go.Proofs.Ytogbakgmkiiboaa
