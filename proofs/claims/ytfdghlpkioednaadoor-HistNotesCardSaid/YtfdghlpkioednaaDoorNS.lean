/- A history beside a list of events of one's own, and other blocks that neither turns. -/
import Derived.Test.YtfdghlpkioednaaDoorRefShowH
namespace Go.Proofs.YtfdghlpkioednaaDoor
open Go.ChangeShapes Go.WideShapes Go.ChangeAt Go.RowKit
set_option linter.unusedVariables false

structure NS (w : World) (B : Nat) (X : List Ev) (n : Nat) (o : Sl) (Y : List Ev) (P : Nat → Prop) (W : World) : Prop where
  bel : Below w.heap.size w W
  row : W.ownsRow w.heap.size 34 8 (.slice o.a o.n o.cap) Y.length (encE Y)
  ex : ∃ O, HistAt B X n O W ∧ (∀ k, O k → w.heap.size ≤ k) ∧ (∀ k, (Value.slice o.a o.n o.cap).ownBlock = some k → ¬ O k) ∧ ∀ k, P k → ¬ O k ∧ (Value.slice o.a o.n o.cap).ownBlock ≠ some k ∧ k < W.heap.size
abbrev noneP : Nat → Prop := fun _ => False
theorem NS.start (w : World) : NS w w.heap.size [] 0 nilS [] noneP (w.alloc (.cells #[.slice none 0 0, .map none] 27)) :=
  ⟨box1 _, World.ownsRow_nil _ _ _ _, _, HistAt.new w, (by rintro k (rfl | h | h); exact Nat.le_refl _; cases h; cases h), (fun k e => by cases e), fun k h => h.elim⟩
theorem NS.below {w : World} {B : Nat} {X : List Ev} {n : Nat} {o : Sl} {Y : List Ev} {P : Nat → Prop} {W W' : World} (h : NS w B X n o Y P W) (hb : Below W.heap.size W W') : NS w B X n o Y P W' := by
  obtain ⟨O, h1, h2, h3, h4⟩ := h.ex
  exact ⟨below_then h.bel hb, row_agree h.row fun k e => hb.block k (h.row.lt k e).2, O, h1.below hb, h2, h3, fun k hk => ⟨(h4 k hk).1, (h4 k hk).2.1, Nat.lt_of_lt_of_le (h4 k hk).2.2 hb.size⟩⟩
/-- One more block that neither turns: a new one. -/
theorem NS.box {w : World} {B : Nat} {X : List Ev} {n : Nat} {o : Sl} {Y : List Ev} {P : Nat → Prop} {W : World} (h : NS w B X n o Y P W) (b : Obj) : NS w B X n o Y (fun k => k = W.heap.size) (W.alloc b) := by
  obtain ⟨O, h1, h2, h3, h4⟩ := h.ex
  refine ⟨below_then h.bel (box1 _), h.row.alloc _, O, h1.below (box1 b), h2, h3, ?_⟩
  rintro k rfl
  refine ⟨fun ho => ?_, fun e => ?_, by simp⟩
  · have := h1.lt ho
    omega
  · have := (h.row.lt _ e).2
    omega
/-- One more event in the list. -/
theorem NS.push {w : World} {B : Nat} {X : List Ev} {n : Nat} {o : Sl} {Y : List Ev} {P : Nat → Prop} {W W2 w3 : World} (h : NS w B X n o Y P W) (e : Ev) (hb : Below W.heap.size W W2) {g cap m : Nat} (hm : m = Y.length)
    (hown : w3.ownsRow w.heap.size 34 8 (.slice (some ⟨g, 0, none⟩) (m + 1) cap) (m + 1) (encE Y ++ e.cs.toList)) (hgrow : W2.grownBy w3 (Value.slice o.a o.n o.cap).ownBlock) (hat : (Value.slice o.a o.n o.cap).ownBlock = some g ∨ W.heap.size ≤ g) :
    NS w B X n ⟨some ⟨g, 0, none⟩, m + 1, cap⟩ (Y ++ [e]) P w3 ∧ ∀ k, P k → w3.heap[k]? = W.heap[k]? := by
  subst hm
  obtain ⟨O, h1, h2, h3, h4⟩ := h.ex
  have hsz := hb.size
  have hsz3 := hgrow.size
  refine ⟨⟨(below_then h.bel hb).grown hgrow (Nat.le_trans h.bel.size hb.size) (fun j e => (h.row.lt j e).1), ?_, O, ?_, h2, ?_, ?_⟩, ?_⟩
  · rw [List.length_append, List.length_singleton, encE_snoc]
    exact hown
  · exact h1.agree fun k hk => (hgrow.block k (by have := h1.lt hk; omega) (fun e => h3 k e.symm hk)).trans (hb.block k (h1.lt hk))
  · intro k hk ho
    obtain rfl : g = k := by simpa [Value.ownBlock] using hk
    rcases hat with h5 | h5
    · exact h3 _ h5 ho
    · have := h1.lt ho
      omega
  · intro k hk
    obtain ⟨p1, p2, p3⟩ := h4 k hk
    refine ⟨p1, fun e => ?_, by omega⟩
    obtain rfl : g = k := by simpa [Value.ownBlock] using e
    rcases hat with h5 | h5
    · exact p2 h5
    · omega
  · intro k hk
    obtain ⟨p1, p2, p3⟩ := h4 k hk
    exact (hgrow.block k (by omega) (fun e => p2 e.symm)).trans (hb.block k p3)
/-- The list without its last event. -/
theorem NS.cut {w : World} {B : Nat} {X : List Ev} {n : Nat} {a : Option Addr} {m m' cap : Nat} {Y : List Ev} {e : Ev} {P : Nat → Prop} {W : World} (h : NS w B X n ⟨a, m, cap⟩ (Y ++ [e]) P W) (hm : m' = Y.length) : NS w B X n ⟨a, m', cap⟩ Y P W := by
  subst hm
  obtain ⟨O, h1, h2, h3, h4⟩ := h.ex
  have hob : (Value.slice a Y.length cap).ownBlock = (Value.slice a m cap).ownBlock := by
    cases a <;> rfl
  refine ⟨h.bel, ?_, O, h1, h2, fun k hk => h3 k (hob.symm.trans hk), fun k hk => ⟨(h4 k hk).1, fun e => (h4 k hk).2.1 (hob.symm.trans e), (h4 k hk).2.2⟩⟩
  refine ⟨by rw [encE_len], ?_⟩
  rcases h.row.2 with ⟨_, h0⟩ | ⟨g, cap', cur, hv, hb, hg, hc, hmx, hs, ht⟩
  · simp at h0
  · simp only [Value.slice.injEq] at hv
    obtain ⟨rfl, rfl, rfl⟩ := hv
    refine .inr ⟨g, cap, cur, rfl, hb, hg, by rw [List.length_append] at hc; simp at hc; omega, hmx, hs, ?_⟩
    have e2 : encE Y = (encE (Y ++ [e])).take (Y.length * 8) := by
      rw [encE_snoc, List.take_append_of_le_length (by rw [encE_len]; exact Nat.le_refl _), List.take_of_length_le (by rw [encE_len]; exact Nat.le_refl _)]
    rw [e2, ← ht, List.take_take, Nat.min_eq_left (by rw [List.length_append]; simp; omega)]
/-- What noting leaves. -/
theorem NS.noted {w : World} {B : Nat} {X : List Ev} {n : Nat} {o : Sl} {Y : List Ev} {P : Nat → Prop} {W W' : World} {e : Ev} {x : Ending} {O : Nat → Prop} (h : NS w B X n o Y P W) (hH : HistAt B X n O W) (h2 : ∀ k, O k → w.heap.size ≤ k)
    (h3 : ∀ k, (Value.slice o.a o.n o.cap).ownBlock = some k → ¬ O k) (h4 : ∀ k, P k → ¬ O k ∧ (Value.slice o.a o.n o.cap).ownBlock ≠ some k ∧ k < W.heap.size) (hN : Noted B X n O e W x W') :
    x = .returned (.int .i64 (errE (ith X) X.length e)) ∧ NS w B (addE X e) (n + 1) o Y P W' ∧ ∀ k, P k → W'.heap[k]? = W.heap[k]? := by
  obtain ⟨hx, O', hK, hL, hA⟩ := hN
  have hsz := hK.size
  have hws := h.bel.size
  refine ⟨hx, ⟨h.bel.trans (hK.below hws h2), row_agree h.row fun k e => hK.block k (h.row.lt k e).2 (h3 k e), O', hA, fun k hk => ?_, fun k hk ho => ?_, fun k hk => ⟨fun ho => ?_, (h4 k hk).2.1, Nat.lt_of_lt_of_le (h4 k hk).2.2 hsz⟩⟩, fun k hk => hK.block k (h4 k hk).2.2 (h4 k hk).1⟩
  · rcases hL k hk with h5 | h5
    · exact h2 k h5
    · omega
  · rcases hL k ho with h5 | h5
    · exact h3 k hk h5
    · have := (h.row.lt k hk).2
      omega
  · rcases hL k ho with h5 | h5
    · exact (h4 k hk).1 h5
    · have := (h4 k hk).2.2
      omega
theorem NS.invoke {w : World} {B : Nat} {X : List Ev} {n : Nat} {o : Sl} {Y : List Ev} {P : Nat → Prop} {W : World} (h : NS w B X n o Y P W) (t : Int) (c : Tri) (ht : I64 t) (hn : n ≤ 1000) (hX : X.length ≤ 1000) :
    Calls Tryd.prog 9 #[at0 B, .int .i64 t, c.v] W fun x W' => x = .returned (.int .i64 (errE (ith X) X.length ⟨t, false, c, zt⟩)) ∧ NS w B (addE X ⟨t, false, c, zt⟩) (n + 1) o Y P W' ∧ ∀ k, P k → W'.heap[k]? = W.heap[k]? := by
  obtain ⟨O, h1, h2, h3, h4⟩ := h.ex
  exact (invoke_any B X n O W t c ht hn hX h1).mono fun x W' hN => h.noted h1 h2 h3 h4 hN
theorem NS.respond {w : World} {B : Nat} {X : List Ev} {n : Nat} {o : Sl} {Y : List Ev} {P : Nat → Prop} {W : World} (h : NS w B X n o Y P W) (t : Int) (a : Tri) (ht : I64 t) (hn : n ≤ 1000) (hX : X.length ≤ 1000) :
    Calls Tryd.prog 8 #[at0 B, .int .i64 t, a.v] W fun x W' => x = .returned (.int .i64 (errE (ith X) X.length ⟨t, true, zt, a⟩)) ∧ NS w B (addE X ⟨t, true, zt, a⟩) (n + 1) o Y P W' ∧ ∀ k, P k → W'.heap[k]? = W.heap[k]? := by
  obtain ⟨O, h1, h2, h3, h4⟩ := h.ex
  exact (respond_any B X n O W t a ht hn hX h1).mono fun x W' hN => h.noted h1 h2 h3 h4 hN
theorem NS.busy {w : World} {B : Nat} {X : List Ev} {n : Nat} {o : Sl} {Y : List Ev} {P : Nat → Prop} {W : World} (h : NS w B X n o Y P W) (t : Int) (ht : I64 t) :
    Calls Tryd.prog 10 #[at0 B, .int .i64 t] W fun x W' => x = .returned (.bool (cur (ith X) X.length t).isSome) ∧ Below W.heap.size W W' := by
  obtain ⟨O, h1, h2, h3, h4⟩ := h.ex
  exact busy_any B X n O W t ht h1
theorem NS.events {w : World} {B : Nat} {X : List Ev} {n : Nat} {o : Sl} {Y : List Ev} {P : Nat → Prop} {W : World} (h : NS w B X n o Y P W) (hX : X.length ≤ 1000) : Calls Tryd.prog 13 #[at0 B] W (CopiedE X W) := by
  obtain ⟨O, h1, h2, h3, h4⟩ := h.ex
  exact events_any B X n O W (by omega) h1

/-! ### the chapter's example -/
abbrev ex1 : Ev := ⟨1, false, ⟨2, 0, 0⟩, zt⟩
abbrev ex2 : Ev := ⟨1, true, zt, ⟨3, 0, 0⟩⟩
theorem ex_text : textT [ex1, ex2] = [49, 32, 60, 32, 112, 101, 101, 107, 109, 105, 110, 10, 49, 32, 62, 32, 101, 109, 112, 116, 121, 10] := by
  have h1 : Lib.decDigits 1 = [49] := by rw [Lib.decDigits_one (by decide)]; rfl
  simp [textT, lineT, thT, signT, saidT, showT, tellT, rightB, mayB, bare, h1, peekT, emptyT]
theorem ex_err1 : errE (ith []) 0 ex1 = 0 := by decide
theorem ex_err2 : errE (ith [ex1]) 1 ex2 = 0 := by decide
theorem ex_add1 : addE [] ex1 = [ex1] := if_pos ex_err1
theorem ex_add2 : addE [ex1] ex2 = [ex1, ex2] := if_pos ex_err2
theorem ex_fit : ∀ e ∈ [ex1, ex2], FitE e := by
  intro e he
  simp only [List.mem_cons, List.not_mem_nil, or_false] at he
  rcases he with rfl | rfl <;> exact ⟨by decide, ⟨by decide, by decide, by decide, by decide⟩, ⟨by decide, by decide, by decide, by decide⟩⟩
set_option maxRecDepth 100000 in
set_option maxHeartbeats 4000000 in
theorem lives_any (w : World) (ht : Tab w) : Calls Tryd.prog 6 #[] w fun e w' => e = .returned (.bool true) ∧ Below w.heap.size w w' := by
  have S0 := NS.start w
  have K1 := S0.invoke 1 ⟨2, 0, 0⟩ (by decide) (by decide) (by decide)
  have HT := Lib.hid ht
  clear ht S0
  go_enter Tryd.func6, Tryd.ntmps6
  go_wp2_with fail
  refine K1.mono ?_
  rintro x w1 ⟨rfl, h1, _⟩
  rw [ex_add1] at h1
  have K2 := h1.respond 1 ⟨3, 0, 0⟩ (by decide) (by decide) (by decide)
  clear K1 h1
  go_wp2_with fail
  refine K2.mono ?_
  rintro x w2 ⟨rfl, h2, _⟩
  rw [ex_add2] at h2
  have K3 := h2.events (by decide)
  have HB := Lib.hid h2.bel
  clear K2 h2
  go_wp2_with fail
  refine K3.mono ?_
  rintro x w3 ⟨v, rfl, hown, hb⟩
  obtain ⟨a, n, c, rfl⟩ : ∃ a n c, v = .slice a n c := by
    rcases hown.2 with ⟨e, _⟩ | ⟨g, cap, cur, e, _⟩
    · exact ⟨_, _, _, e⟩
    · exact ⟨_, _, _, e⟩
  have hB := below_then HB.out hb
  have K4 := hshow_any ⟨a, n, c⟩ [ex1, ex2] w3 (Reads.of_own (s := ⟨a, n, c⟩) hown).1 ex_fit (by decide) (tab_below HT.out hB)
  rw [ex_text] at K4
  have HB3 := Lib.hid hB
  clear K3 hown hb hB
  go_wp2_with fail
  refine K4.mono ?_
  rintro x w4 ⟨rfl, hb⟩
  have HF := Lib.hid (below_then HB3.out hb)
  clear hb K4
  go_wp2
  go_ret
  exact ⟨rfl, HF.out⟩
end Go.Proofs.YtfdghlpkioednaaDoor
