/- Slices that lie at any place of a row that nobody else knows: what append, a cut and a store leave; a list in a variable. -/
import Derived.Test.YtemikojaldoofaaGreatQSeq
import Derived.Maps.AppendAt
import Derived.ArgAppend
import Derived.Lib.SliceRun
namespace Go.Proofs.YtemikojaldoofaaGreat.R
open Go.RowKit
set_option linter.unusedVariables false


/-- A slice of n things of one cell each, at any place of a row of element type e. -/
def Row (W : World) (e : TypeId) (v : Value) (n : Nat) (vs : List Value) : Prop :=
  vs.length = n ∧ ((v = .slice none 0 0 ∧ n = 0) ∨
  ∃ g off cap cur, v = .slice (some ⟨g, off, none⟩) n cap ∧ W.heap[g]? = some (.cells cur e (0, 0)) ∧ n ≤ cap ∧ off + cap ≤ cur.size ∧ cap ≤ maxLen ∧ ∀ i, i < n → cur[off + i]? = vs[i]?)

theorem Row.nil (W : World) (e : TypeId) : Row W e (.slice none 0 0) 0 [] := ⟨rfl, .inl ⟨rfl, rfl⟩⟩
theorem Row.agree {W W' : World} {e : TypeId} {v : Value} {n : Nat} {vs : List Value} (h : Row W e v n vs) (hk : ∀ k, v.ownBlock = some k → W'.heap[k]? = W.heap[k]?) : Row W' e v n vs := by
  refine ⟨h.1, ?_⟩
  rcases h.2 with h | ⟨g, off, cap, cur, rfl, hg, r⟩
  · exact .inl h
  · exact .inr ⟨g, off, cap, cur, rfl, (hk g rfl).trans hg, r⟩
theorem Row.lt {W : World} {e : TypeId} {v : Value} {n : Nat} {vs : List Value} (h : Row W e v n vs) {k : Nat} (hk : v.ownBlock = some k) : k < W.heap.size := by
  rcases h.2 with ⟨rfl, _⟩ | ⟨g, off, cap, cur, rfl, hg, r⟩
  · cases hk
  · obtain rfl : g = k := by simpa [Value.ownBlock] using hk
    exact (Array.getElem?_eq_some_iff.1 hg).1
theorem Row.keeps {W W' : World} {O : Nat → Prop} {e : TypeId} {v : Value} {n : Nat} {vs : List Value} (h : Row W e v n vs) (hk : Keeps O W W') (hd : ∀ k, v.ownBlock = some k → ¬ O k) : Row W' e v n vs :=
  h.agree fun k he => hk.block k (h.lt he) (hd k he)
theorem Row.below {W W' : World} {B : Nat} {e : TypeId} {v : Value} {n : Nat} {vs : List Value} (h : Row W e v n vs) (hk : Below B W W') (hd : ∀ k, v.ownBlock = some k → k < B) : Row W' e v n vs :=
  h.agree fun k he => hk.block k (hd k he)
theorem Row.alloc {W : World} {e : TypeId} {v : Value} {n : Nat} {vs : List Value} (h : Row W e v n vs) (o : Obj) : Row (W.alloc o) e v n vs := h.agree fun k he => Below.heap_alloc _ _ _ (h.lt he)
theorem Row.drew {W : World} {e : TypeId} {v : Value} {n : Nat} {vs : List Value} (h : Row W e v n vs) : Row W.drew e v n vs := h
theorem Row.setCell {W : World} {e : TypeId} {v : Value} {n : Nat} {vs : List Value} (h : Row W e v n vs) {p : Addr} (hp : v.ownBlock ≠ some p.block) (u : Value) : Row (W.setCell p u) e v n vs :=
  h.agree fun k he => Below.heap_setCell _ _ _ _ (fun e' => hp (by rw [he, e']))
theorem Row.grown {W W' : World} {row : Option Nat} {e : TypeId} {v : Value} {n : Nat} {vs : List Value} (h : Row W e v n vs) (hg : W.grownBy W' row) (hd : ∀ k, v.ownBlock = some k → some k ≠ row) : Row W' e v n vs :=
  h.agree fun k he => hg.block k (h.lt he) (hd k he)
theorem Row.not_box {W : World} {B : Nat} {t e : TypeId} {u v : Value} {n : Nat} {vs : List Value} (h : Row W e v n vs) (hb : Boxed W B t u) (hte : t ≠ e) : v.ownBlock ≠ some B := by
  rcases h.2 with ⟨rfl, _⟩ | ⟨g, off, cap, cur, rfl, hg, r⟩
  · simp [Value.ownBlock]
  · intro he
    obtain rfl : g = B := by simpa [Value.ownBlock] using he
    have := (show W.heap[g]? = _ from hb).symm.trans hg
    simp at this
    exact hte this.2
theorem Row.of_own {W : World} {base : Nat} {e : TypeId} {v : Value} {n : Nat} {vs : List Value} (h : W.ownsRow base e 1 v n vs) : Row W e v n vs := by
  refine ⟨by simpa using h.1, ?_⟩
  rcases h.2 with h | ⟨g, cap, cur, rfl, hb, hg, hc, hm, hs, ht⟩
  · exact .inl h
  · refine .inr ⟨g, 0, cap, cur, rfl, hg, hc, by omega, hm, fun i hi => ?_⟩
    rw [← ht]; simp [hi]
theorem Row.form {W : World} {e : TypeId} {v : Value} {n : Nat} {vs : List Value} (h : Row W e v n vs) : ∃ a cap, v = .slice a n cap ∧ n ≤ cap ∧ cap ≤ maxLen := by
  rcases h.2 with ⟨rfl, rfl⟩ | ⟨g, off, cap, cur, rfl, hg, hc, ho, hm, r⟩
  · exact ⟨_, _, rfl, Nat.le_refl _, Nat.zero_le _⟩
  · exact ⟨_, _, rfl, hc, hm⟩
/-- A slice that has things, written out. -/
theorem Row.at_ {W : World} {e : TypeId} {v : Value} {n : Nat} {vs : List Value} (h : Row W e v n vs) (hn : 0 < n) :
    ∃ g off cap, v = .slice (some ⟨g, off, none⟩) n cap ∧ n ≤ cap ∧ cap ≤ maxLen ∧ (∀ i, i < n → W.cell? ⟨g, off + i, none⟩ = vs[i]?) ∧ ∀ i, W.frozen? ⟨g, i, none⟩ = false := by
  rcases h.2 with ⟨rfl, rfl⟩ | ⟨g, off, cap, cur, rfl, hg, hc, ho, hm, r⟩
  · omega
  · exact ⟨g, off, cap, rfl, hc, hm, fun i hi => by rw [cell_of_row W g _ cur e (0, 0) hg]; exact r i hi, fun i => by simp [World.frozen?, hg]⟩
/-- l[:n-1] -/
theorem Row.init {W : World} {e : TypeId} {a : Option Addr} {n cap : Nat} {vs : List Value} (h : Row W e (.slice a (n + 1) cap) (n + 1) vs) : Row W e (.slice a n cap) n vs.dropLast := by
  refine ⟨by simp [h.1], ?_⟩
  rcases h.2 with ⟨_, h0⟩ | ⟨g, off, cap', cur, he, hg, hc, ho, hm, r⟩
  · omega
  · cases he
    refine .inr ⟨g, off, cap, cur, rfl, hg, by omega, ho, hm, fun i hi => ?_⟩
    have h1 := h.1
    rw [r i (by omega), List.getElem?_dropLast, if_pos (by omega)]
/-- l[1:], where there is room behind -/
theorem Row.tail {W : World} {e : TypeId} {g off n cap : Nat} {vs : List Value} (h : Row W e (.slice (some ⟨g, off, none⟩) (n + 1) cap) (n + 1) vs) : Row W e (.slice (some ⟨g, off + 1, none⟩) n (cap - 1)) n vs.tail := by
  refine ⟨by simp [h.1], ?_⟩
  rcases h.2 with ⟨_, h0⟩ | ⟨g', off', cap', cur, he, hg, hc, ho, hm, r⟩
  · omega
  · cases he
    refine .inr ⟨g, off + 1, cap - 1, cur, rfl, hg, by omega, by omega, by omega, fun i hi => ?_⟩
    rw [show off + 1 + i = off + (i + 1) by omega, r (i + 1) (by omega)]
    simp
/-- l[1:], where there is none -/
theorem Row.none_ {W : World} {e : TypeId} {g off n cap : Nat} {vs : List Value} (h : Row W e (.slice (some ⟨g, off, none⟩) n cap) n vs) : Row W e (.slice (some ⟨g, off, none⟩) 0 0) 0 [] := by
  refine ⟨rfl, ?_⟩
  rcases h.2 with ⟨h0, _⟩ | ⟨g', off', cap', cur, he, hg, hc, ho, hm, r⟩
  · cases h0
  · cases he
    exact .inr ⟨g, off, 0, cur, rfl, hg, by omega, by omega, by omega, fun i hi => by omega⟩
/-- A store outside of the slice, in its row. -/
theorem Row.set_out {W : World} {e : TypeId} {g off n cap k : Nat} {vs : List Value} (h : Row W e (.slice (some ⟨g, off, none⟩) n cap) n vs) (hk : k < off ∨ off + n ≤ k) (u : Value) : Row (W.setCell ⟨g, k, none⟩ u) e (.slice (some ⟨g, off, none⟩) n cap) n vs := by
  refine ⟨h.1, ?_⟩
  rcases h.2 with ⟨h0, _⟩ | ⟨g', off', cap', cur, he, hg, hc, ho, hm, r⟩
  · cases h0
  · cases he
    refine .inr ⟨g, off, cap, cur.setIfInBounds k u, rfl, by simp [World.setCell, Array.getElem?_modify, hg], hc, by simpa using ho, hm, fun i hi => ?_⟩
    rw [Array.getElem?_setIfInBounds_ne (by omega)]
    exact r i hi
/-- A store just behind the slice, where there is room. -/
theorem Row.set_more {W : World} {e : TypeId} {g off n cap : Nat} {vs : List Value} (h : Row W e (.slice (some ⟨g, off, none⟩) n cap) n vs) (hk : n + 1 ≤ cap) (u : Value) : Row (W.setCell ⟨g, off + n, none⟩ u) e (.slice (some ⟨g, off, none⟩) (n + 1) cap) (n + 1) (vs ++ [u]) := by
  refine ⟨by simp [h.1], ?_⟩
  rcases h.2 with ⟨h0, _⟩ | ⟨g', off', cap', cur, he, hg, hc, ho, hm, r⟩
  · cases h0
  · cases he
    refine .inr ⟨g, off, cap, cur.setIfInBounds (off + n) u, rfl, by simp [World.setCell, Array.getElem?_modify, hg], hk, by simpa using ho, hm, fun i hi => ?_⟩
    have h1 := h.1
    by_cases e : i = n
    · subst e
      rw [Array.getElem?_setIfInBounds_self_of_lt (by omega), List.getElem?_append_right (by omega)]
      simp [h1]
    · rw [Array.getElem?_setIfInBounds_ne (by omega), List.getElem?_append_left (by omega)]
      exact r i (by omega)

/-- 'append' of one thing: the row that it hands back is the one that came in, or a new one. -/
theorem run_append_row {P : Program} (w : World) (t ty e : TypeId) (i : TypeInfo) (z : Value) (bytes : Nat) (ht : P.underlying t = some (.slice e)) (hi : P.info? e = some i) (hz : i.zero = some z)
    (hsize : i.size = 1) (hby : i.bytes = bytes) (hzs : z.cells.size = 1) (hb16 : bytes ≤ 1024)
    (v : Value) (n : Nat) (vs : List Value) (hrow : Row w e v n vs)
    (a : Addr) (c : Nat) (u : Value) (hu : w.cell? a = some u) (h1 : u.oneCell' = true) (hn : n + 1 ≤ 1000000000) :
    ∃ v' w', (Builtin.append_ #[t, t] ty #[v, .slice (some a) 1 c]).run P w = .ok v' w' ∧ Row w' e v' (n + 1) (vs ++ [u]) ∧ w.grownBy w' v.ownBlock ∧
      (v'.ownBlock = v.ownBlock ∨ ∀ k, v'.ownBlock = some k → w.heap.size ≤ k) := by
  have hnews : ∀ (j : Nat) (x : Value), [u][j]? = some x → w.cell? (a.add j) = some x := fun j x hx => by
    obtain ⟨rfl, rfl⟩ : j = 0 ∧ u = x := by
      cases j with
      | zero => exact ⟨rfl, by simpa using hx⟩
      | succ j => simp at hx
    simpa [Addr.add] using hu
  have hbt : (n + 1) * bytes ≤ 140737488355328 := Nat.le_trans (Nat.mul_le_mul hn hb16) (by decide)
  have hml : n + 1 ≤ maxLen := by unfold maxLen; omega
  rcases hrow.2 with ⟨rfl, rfl⟩ | ⟨g, off, cap, cur, rfl, hg, hc, ho, hm, r⟩
  · obtain rfl : vs = [] := List.eq_nil_of_length_eq_zero hrow.1
    obtain ⟨v', w', hr, h2, h3, h4, h5⟩ := run_append_own_at (P := P) w w.heap.size t ty e i z 1 bytes ht hi hz hsize hby hzs (by decide) (.slice none 0 0) 0 [] (World.ownsRow_nil w _ e 1) a 1 c [u] rfl hnews (by simpa using h1) hml hbt (Nat.le_refl _)
    exact ⟨v', w', hr, by have := Row.of_own h2; simpa using this, h3, .inr fun k hk => (h2.lt k hk).1⟩
  · by_cases hroom : n + 1 ≤ cap
    · have hr := run_append_room_cells (P := P) w t ty e i ht hi g off n cap a 1 c [u] (by simp [hsize]) hnews (by simpa using h1) hroom
        (fun j hj => by
          obtain rfl : j = 0 := by simpa using hj
          rw [cell_of_row w g _ cur e (0, 0) hg, hsize]
          simp; omega)
        (fun j hj => by simp [World.frozen?, hg])
      rw [hsize, Nat.mul_one] at hr
      refine ⟨_, _, hr, hrow.set_more hroom u, ⟨rfl, rfl, rfl, by simp [World.setCells, World.setCell], fun k _ hk => ?_⟩, .inl rfl⟩
      exact Below.heap_setCell _ _ _ k (fun e => hk (by rw [e]; rfl))
    · obtain ⟨v', w', hr, h2, h3⟩ := run_append_arg_grows (P := P) w t ty e i z 1 bytes ht hi hz hsize hby hzs (by decide) ⟨g, off, none⟩ n cap vs (by simpa using hrow.1)
        (fun j x hx => by
          have hj : j < n := by have := (List.getElem?_eq_some_iff.1 hx).1; have := hrow.1; omega
          rw [Addr.add_lit, cell_of_row w g _ cur e (0, 0) hg, r j hj]
          exact hx)
        a 1 c [u] rfl hnews (by omega) hml hbt
      exact ⟨v', w', hr, Row.of_own h2, ⟨h3.os, h3.tape, h3.output, h3.size, fun k hk _ => h3.block k hk (by simp)⟩, .inr fun k hk => (h2.lt k hk).1⟩

theorem wpList_append_row {P : Program} (w : World) {ops : Array Oper} {rest : List Oper} {o : Oper} {a : Act} {Q : Exit → Act → World → Prop}
    (hg : o.guard = none) (s x : Operand) (t : TypeId) (hop : o.op = Op.call { callee := Callee.builtin Builtin.append, args := #[s, x], argTypes := #[t, t] })
    (e : TypeId) (i : TypeInfo) (z : Value) (bytes : Nat) (h1 : P.underlying t = some (.slice e)) (h2 : P.info? e = some i) (h3 : i.zero = some z) (h4 : i.size = 1) (h5 : i.bytes = bytes) (h6 : z.cells.size = 1) (h7 : bytes ≤ 1024)
    (v : Value) (n : Nat) (vs : List Value) (hs : a.eval s = v) (hrow : Row w e v n vs) (ad : Addr) (c : Nat) (u : Value) (hx : a.eval x = .slice (some ad) 1 c)
    (hc : w.cell? ad = some u) (h1c : u.oneCell' = true) (b1 : n + 1 ≤ 1000000000)
    (hK : ∀ v' w', Row w' e v' (n + 1) (vs ++ [u]) → w.grownBy w' v.ownBlock → (v'.ownBlock = v.ownBlock ∨ ∀ k, v'.ownBlock = some k → w.heap.size ≤ k) → wpList P ops Q rest (a.put o.dst v') w') :
    wpList P ops Q (o :: rest) a w := by
  refine wpList_plain hg fun K hK' => ?_
  obtain ⟨v', w', hrun, r1, r2, r3⟩ := run_append_row (P := P) w t o.type e i z bytes h1 h2 h3 h4 h5 h6 h7 v n vs hrow ad c u hc h1c b1
  unfold Oper.wp
  simp [execOp, hop, resolve, invoke, builtin, hs, hx, hrun, Result.andThen]
  exact hK' _ _ (hK v' w' r1 r2 r3)

theorem wpListIn_append_row {F : Fence} {m : Nat} {P : Program} (w : World) {ops : Array Oper} {rest : List Oper} {o : Oper} {a : Act} {Q : Exit → Act → World → Prop}
    (hg : o.guard = none) (s x : Operand) (t : TypeId) (hop : o.op = Op.call { callee := Callee.builtin Builtin.append, args := #[s, x], argTypes := #[t, t] })
    (e : TypeId) (i : TypeInfo) (z : Value) (bytes : Nat) (h1 : P.underlying t = some (.slice e)) (h2 : P.info? e = some i) (h3 : i.zero = some z) (h4 : i.size = 1) (h5 : i.bytes = bytes) (h6 : z.cells.size = 1) (h7 : bytes ≤ 1024)
    (v : Value) (n : Nat) (vs : List Value) (hs : a.eval s = v) (hrow : Row w e v n vs) (ad : Addr) (c : Nat) (u : Value) (hx : a.eval x = .slice (some ad) 1 c)
    (hc : w.cell? ad = some u) (h1c : u.oneCell' = true) (b1 : n + 1 ≤ 1000000000)
    (hK : ∀ v' w', Row w' e v' (n + 1) (vs ++ [u]) → w.grownBy w' v.ownBlock → (v'.ownBlock = v.ownBlock ∨ ∀ k, v'.ownBlock = some k → w.heap.size ≤ k) → wpListIn F m P ops Q rest (a.put o.dst v') w') :
    wpListIn F m P ops Q (o :: rest) a w := by
  refine wpListIn_plain hg fun K hK' => ?_
  obtain ⟨v', w', hrun, r1, r2, r3⟩ := run_append_row (P := P) w t o.type e i z bytes h1 h2 h3 h4 h5 h6 h7 v n vs hrow ad c u hc h1c b1
  unfold Oper.wpIn
  refine ⟨?_, ?_⟩
  · simp [Oper.about, hop, resolve, Target.leads, Sem.run_pure]
  · rw [Oper.semAt_plain F _ _ (by rw [hop]; intro c hc'; cases hc')]
    simp [execOp, hop, resolve, invoke, builtin, hs, hx, hrun, Result.andThen]
    exact hK' _ _ (hK v' w' r1 r2 r3)

end Go.Proofs.YtemikojaldoofaaGreat.R
