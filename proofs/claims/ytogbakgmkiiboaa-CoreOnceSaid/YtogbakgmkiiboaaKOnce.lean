/- Amid CoreOnce: a machine, its thread 0 with at most one frame, the box of the calls that are counted; what Step's callees do of them. -/
import Derived.Test.YtogbakgmkiiboaaKFrames
import Derived.Test.YtogbakgmkiiboaaKBegins
namespace Go.Proofs.Ytogbakgmkiiboaa
open Go.ChangeShapes Go.WideShapes Go.ChangeAt Go.RowKit
set_option linter.unusedVariables false
set_option maxRecDepth 20000

/-- Amid CoreOnce: the frames l of thread 0, the number r0 that the last routine told. -/
structure OnceS (c : P.Cf) (w : World) (Cb B Fb T Cal g t : Nat) (s : G.GS) (l : List Fr) (r0 : Option Int) (ms : MS) (W : World) : Prop where
  cf : P.Blk W Cb 23 c.cs
  bel : Below w.heap.size w W
  mach : ∃ O, MachAt B c Fb T ms (some (g, t, s)) false O W ∧ (∀ k, O k → w.heap.size ≤ k) ∧ ¬ O Cal
  cal : ∃ y, Blk W Cal 3 #[.int .i64 y]
  call : w.heap.size ≤ Cal
  thr : ∃ cs v, Blk W T 50 cs ∧ cs.size = c.th.toNat * 10 ∧ cs[1]? = some v ∧ W.ownsRow 0 85 12 v l.length (encFs l) ∧ (∀ k, v.ownBlock = some k → w.heap.size ≤ k) ∧ (∀ x, r0 = some x → cs[2]? = some (.int .u64 x)) ∧ (∀ i, 0 < i → i < c.th.toNat → cs[i * 10 + 1]? = some (.slice none 0 0))
  tl : w.heap.size ≤ T
variable {c : P.Cf} {w W W' : World} {Cb B Fb T Cal g t : Nat} {s : G.GS} {l : List Fr} {r0 : Option Int} {ms : MS}
theorem OnceS.below (h : OnceS c w Cb B Fb T Cal g t s l r0 ms W) (hb : Below W.heap.size W W') : OnceS c w Cb B Fb T Cal g t s l r0 ms W' := by
  obtain ⟨O, h1, h2, h3⟩ := h.mach
  obtain ⟨y, hy⟩ := h.cal
  obtain ⟨cs, v, a1, a2, a3, a4, a5⟩ := h.thr
  exact ⟨h.cf.below hb h.cf.lt, P.below_then h.bel hb (Nat.le_refl _), ⟨O, h1.below hb, h2, h3⟩, ⟨y, hy.below' hb⟩, h.call, ⟨cs, v, a1.below' hb, a2, a3, row_agree a4 fun k e => hb.block k (a4.lt k e).2, a5⟩, h.tl⟩
/-- The machine has turned. -/
theorem OnceS.one (h : OnceS c w Cb B Fb T Cal g t s l r0 ms W) {v : Value} {K : Nat} {args : Array Value} {ms' : MS}
    (hK : ∀ O, MachAt B c Fb T ms (some (g, t, s)) false O W → Calls Try.prog K args W (MDoes B c Fb T v ms' (some (g, t, s)) false O W)) :
    Calls Try.prog K args W fun e W' => e = .returned v ∧ OnceS c w Cb B Fb T Cal g t s l r0 ms' W' := by
  obtain ⟨O, h1, h2, h3⟩ := h.mach
  obtain ⟨y, hy⟩ := h.cal
  obtain ⟨cs, vf, a1, a2, a3, a4, a5⟩ := h.thr
  refine (hK O h1).mono ?_
  rintro e W' ⟨rfl, O', hk, hl, hm⟩
  have nO : ∀ {x : Nat} {ty : TypeId} {cs : Array Value}, Blk W x ty cs → ty ≠ 98 → ty ≠ 103 → ty ≠ 44 → ty ≠ 139 → ty ≠ 106 → ty ≠ 3 → W'.heap[x]? = W.heap[x]? := fun hb h0 h1' h2 h3 h4 h5 => hk.block _ hb.lt (h1.no hb h0 h1' h2 h3 h4 h5)
  refine ⟨rfl, Blk.agree h.cf (nO h.cf (by decide) (by decide) (by decide) (by decide) (by decide) (by decide)), h.bel.trans (hk.below h.bel.size h2), ⟨O', hm, ?_, ?_⟩, ⟨y, hy.agree (hk.block Cal hy.lt h3)⟩, h.call,
    ⟨cs, vf, a1.agree (nO a1 (by decide) (by decide) (by decide) (by decide) (by decide) (by decide)), a2, a3, row_agree a4 fun k e => ?_, a5⟩, h.tl⟩
  · intro k hk2
    exact (hl k hk2).elim (h2 k) (fun h' => Nat.le_trans h.bel.size h')
  · exact fun h' => (hl _ h').elim h3 (by have := hy.lt; omega)
  · rcases a4.2 with ⟨e', _⟩ | ⟨gg, cap, cur, e', _, hg, _⟩
    · rw [e'] at e; cases e
    · rw [e'] at e
      have e2 : gg = k := by simpa [Value.ownBlock] using e
      subst e2
      exact nO (show Blk W gg 85 cur from hg) (by decide) (by decide) (by decide) (by decide) (by decide) (by decide)
/-- The thread's block, its frames' row, or the calls' box have turned: all that is the machine's has not. -/
theorem OnceS.other (h : OnceS c w Cb B Fb T Cal g t s l r0 ms W) {X : Nat → Prop} (hk : Keeps X W W') (hX : ∀ k, X k → k = T ∨ k = Cal ∨ ∃ cur, Blk W k 85 cur) (hlow : ∀ k, X k → w.heap.size ≤ k) :
    P.Blk W' Cb 23 c.cs ∧ Below w.heap.size w W' ∧ ∃ O, MachAt B c Fb T ms (some (g, t, s)) false O W' ∧ (∀ k, O k → w.heap.size ≤ k) ∧ ¬ O Cal := by
  obtain ⟨O, h1, h2, h3⟩ := h.mach
  obtain ⟨cs, vf, a1, a2, a3, a4, a5⟩ := h.thr
  obtain ⟨y, hy⟩ := h.cal
  refine ⟨Blk.agree h.cf (hk.block Cb (Blk.lt h.cf) fun hx => ?_), h.bel.trans (hk.below h.bel.size hlow), O, h1.keeps hk fun k ho hx => ?_, h2, h3⟩
  · rcases hX _ hx with rfl | rfl | ⟨cur, hc⟩
    · exact Blk.ne h.cf a1 (by decide) rfl
    · exact Blk.ne h.cf hy (by decide) rfl
    · exact Blk.ne h.cf hc (by decide) rfl
  · rcases hX _ hx with rfl | rfl | ⟨cur, hc⟩
    · exact h1.no a1 (by decide) (by decide) (by decide) (by decide) (by decide) (by decide) ho
    · exact h3 ho
    · exact h1.no hc (by decide) (by decide) (by decide) (by decide) (by decide) (by decide) ho

theorem row_blk {W : World} {b size n : Nat} {e : TypeId} {v : Value} {xs : List Value} (h : W.ownsRow b e size v n xs) {k : Nat} (hk : v.ownBlock = some k) : ∃ cur, Blk W k e cur := by
  rcases h.2 with ⟨e', _⟩ | ⟨gg, cap, cur, e', _, hg, _⟩
  · rw [e'] at hk; cases hk
  · rw [e'] at hk
    have e2 : gg = k := by simpa [Value.ownBlock] using hk
    subst e2
    exact ⟨cur, hg⟩
/-- A frame is put on. -/
theorem OnceS.push (h : OnceS c w Cb B Fb T Cal g t s [] r0 ms W) (fn : Int) {a : Option Addr} {n cap : Nat} {rl : List Int} (R : F.Row .u64 W a n cap rl) (hn : n ≤ 100) :
    Calls Try.prog 38 #[.pointer (some ⟨T, 0, none⟩), .int .i64 fn, .slice a n cap] W fun e W' => e = .returned (.tuple #[]) ∧ OnceS c w Cb B Fb T Cal g t s [⟨fn, 0, rl⟩] r0 ms W' := by
  have h' := h
  obtain ⟨y, hy⟩ := h.cal
  obtain ⟨cs, v, a1, a2, a3, a4, a5, a6, a7⟩ := h.thr
  refine (push_any T 0 cs v [] fn a n cap rl W a1 a3 a4 (by simp) R hn).mono ?_
  rintro e W' ⟨rfl, v', b1, b2, b3, b4⟩
  obtain ⟨q1, q2, q3⟩ := h'.other b3 (fun k hk => by
    rcases hk with rfl | hk
    · exact .inl rfl
    · exact .inr (.inr (row_blk a4 hk))) (fun k hk => by
    rcases hk with rfl | hk
    · exact h.tl
    · exact a5 k hk)
  refine ⟨rfl, q1, q2, q3, ⟨y, hy.agree (b3.block Cal hy.lt fun hx => ?_)⟩, h.call, ⟨_, v', b1, by simpa using a2, Array.getElem?_setIfInBounds_self_of_lt (Array.getElem?_eq_some_iff.1 a3).1, b2, fun k hk => ?_, fun x hx => ?_, fun i h0 h1 => ?_⟩, h.tl⟩
  · rcases hx with e | hx
    · exact Blk.ne hy a1 (by decide) e
    · obtain ⟨cur, hc⟩ := row_blk a4 hx
      exact Blk.ne hy hc (by decide) rfl
  · rcases b4 k hk with h1 | h1
    · exact a5 k h1
    · exact Nat.le_trans h.bel.size h1
  · rw [Array.getElem?_setIfInBounds_ne (by omega)]
    exact a6 x hx
  · rw [Array.getElem?_setIfInBounds_ne (by omega)]
    exact a7 i h0 h1
/-- The frame is taken off. -/
theorem OnceS.pop {f : Fr} (h : OnceS c w Cb B Fb T Cal g t s [f] r0 ms W) {a : Option Addr} {n cap : Nat} {rs : List Int} (R : F.Row .u64 W a n cap rs) (hn : n ≤ 100) (hR : 0 < n → ∀ x, a = some x → x.block ≠ T) :
    Calls Try.prog 39 #[.pointer (some ⟨T, 0, none⟩), .slice a n cap] W fun e W' => e = .returned (.tuple #[]) ∧ OnceS c w Cb B Fb T Cal g t s [] (some (rs.getD 0 0)) ms W' := by
  have h' := h
  obtain ⟨y, hy⟩ := h.cal
  obtain ⟨cs, v, a1, a2, a3, a4, a5, a6, a7⟩ := h.thr
  have nT := a1.not_row a4 (by decide)
  rcases a4.2 with ⟨rfl, hz⟩ | ⟨gg, cp, cur, rfl, hg, hcur, hc, hmm, hsz, htk⟩
  · cases hz
  have hth : 10 ≤ cs.size := by
    have := (Array.getElem?_eq_some_iff.1 a3).1
    omega
  refine (pop_any T 0 gg 0 cp cs a n cap rs W a1 a3 (by omega) (by omega) ⟨hc, by unfold maxLen at hmm; omega⟩ R hn hR).mono ?_
  rintro e W' ⟨rfl, b1, b2⟩
  have hgT : gg ≠ T := fun e => nT (by simp [Value.ownBlock, e])
  obtain ⟨q1, q2, q3⟩ := h'.other b2 (fun k hk => .inl hk) (fun k hk => by rw [hk]; exact h.tl)
  refine ⟨rfl, q1, q2, q3, ⟨y, hy.agree (b2.block Cal hy.lt fun hx => Blk.ne hy a1 (by decide) hx)⟩, h.call, ⟨_, .slice (some ⟨gg, 0, none⟩) 0 cp, b1, by simpa using a2, by
    rw [Array.getElem?_setIfInBounds_ne (by omega), Array.getElem?_setIfInBounds_ne (by omega), Array.getElem?_setIfInBounds_ne (by omega)]
    exact Array.getElem?_setIfInBounds_self_of_lt (by omega), ⟨rfl, .inr ⟨gg, cp, cur, rfl, hg, (b2.block gg (Array.getElem?_eq_some_iff.1 hcur).1 hgT).trans hcur, Nat.zero_le _, hmm, hsz, rfl⟩⟩, a5, fun x hx => ?_, fun i h0 h1 => ?_⟩, h.tl⟩
  · cases hx
    rw [Array.getElem?_setIfInBounds_ne (by omega), Array.getElem?_setIfInBounds_ne (by omega)]
    exact Array.getElem?_setIfInBounds_self_of_lt (by simp; omega)
  · rw [Array.getElem?_setIfInBounds_ne (by omega), Array.getElem?_setIfInBounds_ne (by omega), Array.getElem?_setIfInBounds_ne (by omega), Array.getElem?_setIfInBounds_ne (by omega)]
    exact a7 i h0 h1

/-- The calls are counted. -/
theorem OnceS.count (h : OnceS c w Cb B Fb T Cal g t s l r0 ms W) (y : Int) : OnceS c w Cb B Fb T Cal g t s l r0 ms (W.setCell ⟨Cal, 0, none⟩ (.int .i64 y)) := by
  have h' := h
  obtain ⟨y0, hy⟩ := h.cal
  obtain ⟨cs, v, a1, a2, a3, a4, a5⟩ := h.thr
  have hk : Keeps (fun k => k = Cal) W (W.setCell ⟨Cal, 0, none⟩ (.int .i64 y)) := (Keeps.refl (fun k => k = Cal) W).setCell (.inl rfl) _
  obtain ⟨q1, q2, q3⟩ := h'.other hk (fun k hk => .inr (.inl hk)) (fun k hk => by rw [hk]; exact h.call)
  refine ⟨q1, q2, q3, ⟨y, by simpa using hy.set 0 (.int .i64 y)⟩, h.call, ⟨cs, v, a1.agree (hk.block T a1.lt (Blk.ne a1 hy (by decide))), a2, a3, row_agree a4 fun k e => ?_, a5⟩, h.tl⟩
  obtain ⟨cur, hc⟩ := row_blk a4 e
  exact hk.block k hc.lt (Blk.ne hc hy (by decide))
/-- A frame goes on. -/
theorem OnceS.pc {f : Fr} (h : OnceS c w Cb B Fb T Cal g t s [f] r0 ms W) {gg cp : Nat} (hc : W.cell? ⟨T, 1, none⟩ = some (.slice (some ⟨gg, 0, none⟩) 1 cp)) (p : Int) : OnceS c w Cb B Fb T Cal g t s [⟨f.fn, p, f.r⟩] r0 ms (W.setCell ⟨gg, 1, none⟩ (.int .i64 p)) := by
  have h' := h
  obtain ⟨y0, hy⟩ := h.cal
  obtain ⟨cs, v, a1, a2, a3, a4, a5, a6⟩ := h.thr
  obtain rfl : v = .slice (some ⟨gg, 0, none⟩) 1 cp := by
    have := (a1.cell 1).trans a3
    rw [hc] at this
    cases this; rfl
  obtain ⟨cur, hcur⟩ := row_blk a4 rfl
  have hk : Keeps (fun k => k = gg) W (W.setCell ⟨gg, 1, none⟩ (.int .i64 p)) := (Keeps.refl (fun k => k = gg) W).setCell (.inl rfl) _
  obtain ⟨q1, q2, q3⟩ := h'.other hk (fun k hk => .inr (.inr ⟨cur, by rw [hk]; exact hcur⟩)) (fun k hk => by rw [hk]; exact a5 gg rfl)
  refine ⟨q1, q2, q3, ⟨y0, hy.agree (hk.block Cal hy.lt (Blk.ne hy hcur (by decide)))⟩, h.call, ⟨cs, _, a1.agree (hk.block T a1.lt (Blk.ne a1 hcur (by decide))), a2, a3, ?_, a5, a6⟩, h.tl⟩
  have := (a4.stored 1 (.int .i64 p)).1
  simpa [encFs, Fr.cs] using this
/-- What is read of a thread with a frame. -/
theorem OnceS.frame {f : Fr} (h : OnceS c w Cb B Fb T Cal g t s [f] r0 ms W) : ∃ gg cp, W.cell? ⟨T, 1, none⟩ = some (.slice (some ⟨gg, 0, none⟩) 1 cp) ∧ W.cell? ⟨gg, 1, none⟩ = some (.int .i64 f.pc) ∧ W.cell? ⟨gg, 2, none⟩ = some (.int .u64 (f.r.getD 0 0)) ∧ W.frozen? ⟨gg, 1, none⟩ = false ∧ gg ≠ Cal ∧ gg < W.heap.size := by
  obtain ⟨y0, hy⟩ := h.cal
  obtain ⟨cs, v, a1, a2, a3, a4, a5, a6⟩ := h.thr
  rcases a4.2 with ⟨rfl, hz⟩ | ⟨gg, cp, cur, rfl, hg, hcur, hc, hmm, hsz, htk⟩
  · cases hz
  have q : ∀ j, j < 12 → W.cell? ⟨gg, j, none⟩ = (encFs [f])[j]? := fun j hj => a4.cellAt j (by simpa using hj)
  exact ⟨gg, cp, (a1.cell 1).trans a3, (q 1 (by omega)).trans (by simp [encFs, Fr.cs]), (q 2 (by omega)).trans (by simp [encFs, Fr.cs, ten]), a4.frozenAt 1, Ne.symm (Blk.ne hy (show Blk W gg 85 cur from hcur) (by decide)), (Array.getElem?_eq_some_iff.1 hcur).1⟩
end Go.Proofs.Ytogbakgmkiiboaa
