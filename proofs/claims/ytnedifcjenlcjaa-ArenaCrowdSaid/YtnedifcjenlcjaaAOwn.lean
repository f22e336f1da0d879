/- A machine at rest beside two lists of one's own: the free ones, and those that thread 0 has. -/
import Derived.Test.YtnedifcjenlcjaaALives
namespace Go.Proofs.Ytnedifcjenlcjaa
open Go.ChangeShapes Go.WideShapes Go.ChangeAt Go.RowKit
set_option linter.unusedVariables false
set_option maxRecDepth 20000

/-! ### append of a slice of any length, none too -/
section
variable {P : Program} (w : World)
theorem run_append_any (t ty e : TypeId) (base : Nat) (i : TypeInfo) (z : Value) (bytes : Nat) (ht : P.underlying t = some (.slice e)) (hi : P.info? e = some i) (hz : i.zero = some z)
    (hsize : i.size = 1) (hby : i.bytes = bytes) (hzs : z.cells.size = 1)
    (v : Value) (n : Nat) (xs : List Value) (hown : w.ownsRow base e 1 v n xs) (ad : Addr) (m c : Nat) (news : List Value) (hl : news.length = m) (hnews : ∀ j u, news[j]? = some u → w.cell? (ad.add j) = some u) (h1 : ∀ u ∈ news, u.oneCell' = true)
    (h63 : n + m ≤ maxLen) (hbytes : (n + m) * bytes ≤ 140737488355328) (hbase : base ≤ w.heap.size) :
    ∃ a' cap w', (Builtin.append_ #[t, t] ty #[v, .slice (some ad) m c]).run P w = .ok (.slice a' (n + m) cap) w' ∧ w'.ownsRow base e 1 (.slice a' (n + m) cap) (n + m) (xs ++ news) ∧ w.grownBy w' v.ownBlock ∧ ((Value.slice a' (n + m) cap).ownBlock = v.ownBlock ∨ (Value.slice a' (n + m) cap).ownBlock = some w.heap.size) := by
  obtain ⟨v', w', hr, h2, h3, _, h5⟩ := run_append_own_at (P := P) w base t ty e i z 1 bytes ht hi hz hsize hby hzs (by decide) v n xs hown ad m c news (by omega) hnews h1 h63 hbytes hbase
  obtain ⟨a', cap, rfl⟩ : ∃ a cap, v' = .slice a (n + m) cap := by
    rcases h2.2 with ⟨ev, h0⟩ | ⟨g', cap', cur, ev, _⟩
    · exact ⟨none, 0, by rw [ev, h0]⟩
    · exact ⟨_, _, ev⟩
  exact ⟨a', cap, w', hr, h2, h3, h5⟩
theorem wp_append_any {o : Oper} {a : Act} {K : Act → World → Prop} {Q : Exit → Act → World → Prop} (s x : Operand) (t : TypeId)
    (ho : o.op = .call { callee := .builtin .append, args := #[s, x], argTypes := #[t, t] })
    (base : Nat) (e : TypeId) (i : TypeInfo) (z : Value) (bytes : Nat) (ht : P.underlying t = some (.slice e)) (hi : P.info? e = some i) (hz : i.zero = some z)
    (hsize : i.size = 1) (hby : i.bytes = bytes) (hzs : z.cells.size = 1)
    (v : Value) (n : Nat) (xs : List Value) (hs : a.eval s = v) (hown : w.ownsRow base e 1 v n xs) (ad : Addr) (m c : Nat) (news : List Value) (hx : a.eval x = .slice (some ad) m c) (hl : news.length = m) (hnews : ∀ j u, news[j]? = some u → w.cell? (ad.add j) = some u) (h1 : ∀ u ∈ news, u.oneCell' = true)
    (h63 : n + m ≤ maxLen) (hbytes : (n + m) * bytes ≤ 140737488355328) (hbase : base ≤ w.heap.size)
    (h : ∀ a' cap w', w'.ownsRow base e 1 (.slice a' (n + m) cap) (n + m) (xs ++ news) → w.grownBy w' v.ownBlock → ((Value.slice a' (n + m) cap).ownBlock = v.ownBlock ∨ (Value.slice a' (n + m) cap).ownBlock = some w.heap.size) → K (a.put o.dst (.slice a' (n + m) cap)) w') : o.wp P a w K Q := by
  obtain ⟨a', cap, w', hr, h2, h3, h4⟩ := run_append_any (P := P) w t o.type e base i z bytes ht hi hz hsize hby hzs v n xs hown ad m c news hl hnews h1 h63 hbytes hbase
  unfold Oper.wp execOp
  simp only [ho, resolve, invoke, builtin, Sem.run_bind, Sem.run_pure, Result.andThen_ok, List.map_toArray, List.map_cons, List.map_nil, hs, hx, hr]
  exact h a' cap w' h2 h3 h4
theorem wpList_append_any {ops : Array Oper} {rest : List Oper} {o : Oper} {a : Act} {Q : Exit → Act → World → Prop} (hgd : o.guard = none) (s x : Operand) (t : TypeId)
    (ho : o.op = .call { callee := .builtin .append, args := #[s, x], argTypes := #[t, t] })
    (base : Nat) (e : TypeId) (i : TypeInfo) (z : Value) (bytes : Nat) (ht : P.underlying t = some (.slice e)) (hi : P.info? e = some i) (hz : i.zero = some z)
    (hsize : i.size = 1) (hby : i.bytes = bytes) (hzs : z.cells.size = 1)
    (v : Value) (n : Nat) (xs : List Value) (hs : a.eval s = v) (hown : w.ownsRow base e 1 v n xs) (ad : Addr) (m c : Nat) (news : List Value) (hx : a.eval x = .slice (some ad) m c) (hl : news.length = m) (hnews : ∀ j u, news[j]? = some u → w.cell? (ad.add j) = some u) (h1 : ∀ u ∈ news, u.oneCell' = true)
    (h63 : n + m ≤ maxLen) (hbytes : (n + m) * bytes ≤ 140737488355328) (hbase : base ≤ w.heap.size)
    (h : ∀ a' cap w', w'.ownsRow base e 1 (.slice a' (n + m) cap) (n + m) (xs ++ news) → w.grownBy w' v.ownBlock → ((Value.slice a' (n + m) cap).ownBlock = v.ownBlock ∨ (Value.slice a' (n + m) cap).ownBlock = some w.heap.size) → wpList P ops Q rest (a.put o.dst (.slice a' (n + m) cap)) w') : wpList P ops Q (o :: rest) a w :=
  wpList_plain hgd fun _ hK => wp_append_any w s x t ho base e i z bytes ht hi hz hsize hby hzs v n xs hs hown ad m c news hx hl hnews h1 h63 hbytes hbase fun a' cap w' h2 h3 h4 => hK _ _ (h a' cap w' h2 h3 h4)
theorem step_append_any {ops : Array Oper} {o : Oper} {a : Act} {K : Act → World → Prop} {Q : Exit → Act → World → Prop} {E : Prop} (hgd : o.guard = none) (s x : Operand) (t : TypeId)
    (ho : o.op = .call { callee := .builtin .append, args := #[s, x], argTypes := #[t, t] })
    (base : Nat) (e : TypeId) (i : TypeInfo) (z : Value) (bytes : Nat) (ht : P.underlying t = some (.slice e)) (hi : P.info? e = some i) (hz : i.zero = some z)
    (hsize : i.size = 1) (hby : i.bytes = bytes) (hzs : z.cells.size = 1)
    (v : Value) (n : Nat) (xs : List Value) (hs : a.eval s = v) (hown : w.ownsRow base e 1 v n xs) (ad : Addr) (m c : Nat) (news : List Value) (hx : a.eval x = .slice (some ad) m c) (hl : news.length = m) (hnews : ∀ j u, news[j]? = some u → w.cell? (ad.add j) = some u) (h1 : ∀ u ∈ news, u.oneCell' = true)
    (h63 : n + m ≤ maxLen) (hbytes : (n + m) * bytes ≤ 140737488355328) (hbase : base ≤ w.heap.size)
    (h : ∀ a' cap w', w'.ownsRow base e 1 (.slice a' (n + m) cap) (n + m) (xs ++ news) → w.grownBy w' v.ownBlock → ((Value.slice a' (n + m) cap).ownBlock = v.ownBlock ∨ (Value.slice a' (n + m) cap).ownBlock = some w.heap.size) → K (a.put o.dst (.slice a' (n + m) cap)) w') :
    if Region.wanted o (yielded ops a.tmps) = true then Oper.wp P o a w K Q else E := by
  have hw : Region.wanted o (yielded ops a.tmps) = true := by simp [Region.wanted, hgd]
  rw [if_pos hw]
  exact wp_append_any w s x t ho base e i z bytes ht hi hz hsize hby hzs v n xs hs hown ad m c news hx hl hnews h1 h63 hbytes hbase h
end

/-! ### A row of one's own -/
/-- The list l in a slice of one's own; what it owns is none of X's. -/
structure Mine (w : World) (X : Nat → Prop) (a : Option Addr) (cap : Nat) (l : List Int) (W : World) : Prop where
  row : W.ownsRow w.heap.size 3 1 (.slice a l.length cap) l.length (ints l)
  no : ∀ k, (Value.slice a l.length cap).ownBlock = some k → ¬ X k
variable {w W W' : World} {X X' : Nat → Prop} {a : Option Addr} {cap : Nat} {l : List Int}
theorem Mine.lt (h : Mine w X a cap l W) {k : Nat} (hk : (Value.slice a l.length cap).ownBlock = some k) : w.heap.size ≤ k ∧ k < W.heap.size := h.row.lt k hk
theorem Mine.keeps (h : Mine w X a cap l W) (hk : Keeps X W W') (hl : Later X W X') : Mine w X' a cap l W' :=
  ⟨row_agree h.row fun k e => hk.block k (h.lt e).2 (h.no k e), fun k e hx => (hl k hx).elim (h.no k e) (by have := (h.lt e).2; omega)⟩
theorem Mine.below (h : Mine w X a cap l W) (hb : Below W.heap.size W W') : Mine w X a cap l W' := ⟨row_agree h.row fun k e => hb.block k (h.lt e).2, h.no⟩
theorem Mine.nil (w W : World) (X : Nat → Prop) : Mine w X none 0 [] W := ⟨World.ownsRow_nil _ _ _ _, fun k e => by cases e⟩
theorem Mine.room (h : Mine w X a cap l W) : l.length ≤ cap ∧ cap ≤ maxLen := by
  rcases h.row.2 with ⟨ev, h0⟩ | ⟨g', cap', cur, ev, hg, hcur, hc, hmm, hx⟩
  · simp only [Value.slice.injEq] at ev
    obtain ⟨_, h1, h2⟩ := ev
    exact ⟨by omega, by unfold maxLen; omega⟩
  · cases ev; exact ⟨hc, hmm⟩
theorem Mine.at_ (h : Mine w X a cap l W) (hl : 0 < l.length) : ∃ gr, a = some ⟨gr, 0, none⟩ ∧ ∀ j, j < l.length → W.cell? ⟨gr, j, none⟩ = some (.int .i64 (nth l j)) := by
  rcases h.row.2 with ⟨ev, h0⟩ | ⟨g', cap', cur, ev, hg, hcur, hc, hmm, hx⟩
  · omega
  · cases ev
    refine ⟨g', rfl, fun j hj => ?_⟩
    rw [h.row.cellAt j (by simp; exact hj)]
    simp [ints, nth, List.getElem?_eq_getElem hj]
theorem ints_len (l : List Int) : (ints l).length = l.length := by simp
/-- Its last one is cut off. -/
theorem Mine.cut {y : Int} (h : Mine w X a cap (l ++ [y]) W) : Mine w X a cap l W := by
  have ho : ∀ k, (Value.slice a l.length cap).ownBlock = some k → (Value.slice a (l ++ [y]).length cap).ownBlock = some k := fun k e => by cases a <;> exact e
  refine ⟨⟨by simp, ?_⟩, fun k e => h.no k (ho k e)⟩
  rcases h.row.2 with ⟨ev, h0⟩ | ⟨g', cap', cur, ev, hg, hcur, hc, hmm, hs, ht⟩
  · simp at h0
  · cases ev
    refine .inr ⟨g', cap, cur, rfl, hg, hcur, by simp at hc; omega, hmm, hs, ?_⟩
    have h2 := congrArg (List.take l.length) ht
    rw [List.take_take] at h2
    simp [ints] at h2 ⊢
    exact h2
/-- A part of a row reads as that part of the list. -/
theorem news_part {gr : Nat} {l : List Int} (hcell : ∀ j, j < l.length → W.cell? ⟨gr, j, none⟩ = some (.int .i64 (nth l j))) (o m : Nat) (h : o + m ≤ l.length) : ∀ j u, (ints ((l.drop o).take m))[j]? = some u → W.cell? ((⟨gr, o, none⟩ : Addr).add j) = some u := by
  intro j u hj
  have hadd : (⟨gr, o, none⟩ : Addr).add j = ⟨gr, o + j, none⟩ := Addr.add_lit _ _ _
  rw [hadd]
  rw [List.getElem?_map, Option.map_eq_some_iff] at hj
  obtain ⟨y, hy, rfl⟩ := hj
  rw [List.getElem?_take] at hy
  split at hy
  · rename_i hjm
    rw [List.getElem?_drop] at hy
    rw [hcell (o + j) (by omega)]
    simp [nth, hy]
  · cases hy
theorem ints_one (l : List Int) : ∀ u ∈ ints l, u.oneCell' = true := by
  intro u hu
  simp [ints] at hu
  obtain ⟨a, _, rfl⟩ := hu
  rfl
/-- One more is appended. -/
theorem Mine.push {V : World} (h : Mine w X a cap l W) (hXW : ∀ k, X k → k < W.heap.size) {y : Int} {a' : Option Addr} {cap' : Nat} {n : Nat} (hn : n = l.length + 1) (hV : Below W.heap.size W V) (hg : V.grownBy W' (Value.slice a l.length cap).ownBlock)
    (hr : W'.ownsRow w.heap.size 3 1 (.slice a' n cap') n (ints l ++ ints [y])) (ho : (Value.slice a' n cap').ownBlock = (Value.slice a l.length cap).ownBlock ∨ (Value.slice a' n cap').ownBlock = some V.heap.size) : Mine w X a' cap' (l ++ [y]) W' := by
  subst hn
  have e : (l ++ [y]).length = l.length + 1 := by simp
  refine ⟨by rw [e]; simpa [ints] using hr, fun k hk hx => ?_⟩
  rw [e] at hk
  rcases ho with ho | ho
  · rw [ho] at hk; exact h.no k hk hx
  · rw [ho] at hk
    have := hXW k hx
    have := hV.size
    have : V.heap.size = k := by simpa using hk
    omega

theorem Row.later {k : IntKind} {w W : World} {a : Option Addr} {n cap : Nat} {zs : List Int} (h : F.Row k w a n cap zs) (b : Below w.heap.size w W) : F.Row k W a n cap zs := by
  refine ⟨h.len, h.room, ?_, h.cells b, h.wf⟩
  rcases h.form with h1 | ⟨x, e, hx⟩
  · exact .inl h1
  · exact .inr ⟨x, e, fun j u hj => by
      have := hx j u hj
      rw [Below.cell b (World.block_lt_of_cell? w _ this)]
      exact this⟩

/-- Amid ArenaAlone: a machine at rest, the lists fl and hl beside it. -/
structure LS (c : P.Cf) (w : World) (Cb B Fb T g t : Nat) (p : Ph) (L hv : List Int) (s : Nat) (st : Int) (fa : Option Addr) (fc : Nat) (fl : List Int) (ha : Option Addr) (hc : Nat) (hl : List Int) (W : World) : Prop where
  cb : P.Blk W Cb 23 c.cs
  bel : Below w.heap.size w W
  al : ∃ X, AL c B Fb T g t p L hv s st X W ∧ (∀ k, X k → w.heap.size ≤ k) ∧ Mine w X fa fc fl W ∧ Mine w X ha hc hl W
  apart : ∀ k, (Value.slice fa fl.length fc).ownBlock = some k → (Value.slice ha hl.length hc).ownBlock ≠ some k
section
variable {c : P.Cf} {w W W' : World} {Cb B Fb T g t : Nat} {p p' : Ph} {L L' hv hv' : List Int} {s s' : Nat} {st st' : Int} {fa fa' ha ha' : Option Addr} {fc fc' hc hc' : Nat} {fl hl : List Int}
theorem LS.below (h : LS c w Cb B Fb T g t p L hv s st fa fc fl ha hc hl W) (hb : Below W.heap.size W W') : LS c w Cb B Fb T g t p L hv s st fa fc fl ha hc hl W' := by
  obtain ⟨X, a, hX, m1, m2⟩ := h.al
  exact ⟨h.cb.below hb h.cb.lt, P.below_then h.bel hb (Nat.le_refl _), ⟨X, a.below hb, hX, m1.below hb, m2.below hb⟩, h.apart⟩
theorem LS.drew (h : LS c w Cb B Fb T g t p L hv s st fa fc fl ha hc hl W) : LS c w Cb B Fb T g t p L hv s st fa fc fl ha hc hl W.drew := h.below ((Below.refl _ _).drew)
theorem AL.no23 {X : Nat → Prop} (h : AL c B Fb T g t p L hv s st X W) {k : Nat} {cs : Array Value} (hb : Blk W k 23 cs) : ¬ X k := by
  obtain ⟨ws, Gs, ts, m, _⟩ := h
  exact m.no hb (by decide) (by decide) (by decide) (by decide) (by decide) (by decide) (by decide) (by decide)
theorem LS.call (h : LS c w Cb B Fb T g t p L hv s st fa fc fl ha hc hl W) {K : Nat} {args : Array Value} {v : Value}
    (hK : ∀ X, AL c B Fb T g t p L hv s st X W → Calls Try.prog K args W (ALT c B Fb T g t p' L' hv' s' st' v X W)) : Calls Try.prog K args W fun e W' => e = .returned v ∧ LS c w Cb B Fb T g t p' L' hv' s' st' fa fc fl ha hc hl W' := by
  obtain ⟨X, a, hX, m1, m2⟩ := h.al
  refine (hK X a).mono ?_
  rintro e W' ⟨rfl, X', k, l, a'⟩
  obtain ⟨h1, h2⟩ := alt_below (c := c) (B := B) (Fb := Fb) (T := T) (g := g) (t := t) (p := p) (L := L) (hv := hv) (s := s) (st := st) h.bel hX k l
  exact ⟨rfl, Blk.agree h.cb (k.block Cb (Blk.lt h.cb) (a.no23 h.cb)), h1, ⟨X', a', h2, m1.keeps k l, m2.keeps k l⟩, h.apart⟩
/-- A row has grown: the machine has not turned. -/
theorem LS.free (h : LS c w Cb B Fb T g t p L hv s st fa fc fl ha hc hl W) {y : Int} {V : World} {n : Nat} (hn : n = fl.length + 1) (hV : Below W.heap.size W V) (hg : V.grownBy W' (Value.slice fa fl.length fc).ownBlock)
    (hr : W'.ownsRow w.heap.size 3 1 (.slice fa' n fc') n (ints fl ++ ints [y])) (ho : (Value.slice fa' n fc').ownBlock = (Value.slice fa fl.length fc).ownBlock ∨ (Value.slice fa' n fc').ownBlock = some V.heap.size) :
    LS c w Cb B Fb T g t p L hv s st fa' fc' (fl ++ [y]) ha hc hl W' := by
  obtain ⟨X, a, hX, m1, m2⟩ := h.al
  have hag : ∀ k, k < W.heap.size → (Value.slice fa fl.length fc).ownBlock ≠ some k → W'.heap[k]? = W.heap[k]? := fun k hk hn => (hg.block k (by have := hV.size; omega) (fun e => hn e.symm)).trans (hV.block k hk)
  have hlen : (fl ++ [y]).length = n := by simp [hn]
  refine ⟨Blk.agree h.cb (hag Cb (Blk.lt h.cb) fun e => ?_), (h.bel.trans (hV.mono h.bel.size)).grown hg (by have := h.bel.size; have := hV.size; omega) (fun k e => (m1.lt e).1), ⟨X, a.agree fun k hk => hag k (a.lt hk) fun e => m1.no k e hk, hX, m1.push (fun k hk => a.lt hk) hn hV hg hr ho, ?_⟩, fun k e e2 => ?_⟩
  · obtain ⟨cur, hc⟩ := row_blk m1.row e
    exact Blk.ne h.cb hc (by decide) rfl
  · exact ⟨row_agree m2.row fun k e => hag k (m2.lt e).2 fun e2 => h.apart k e2 e, m2.no⟩
  · rw [hlen] at e
    rcases ho with ho | ho
    · rw [ho] at e; exact h.apart k e e2
    · rw [ho] at e
      have h1 := (m2.lt e2).2
      have : V.heap.size = k := by simpa using e
      have := hV.size
      omega
theorem LS.cut {y : Int} (h : LS c w Cb B Fb T g t p L hv s st fa fc (fl ++ [y]) ha hc hl W) : LS c w Cb B Fb T g t p L hv s st fa fc fl ha hc hl W := by
  obtain ⟨X, a, hX, m1, m2⟩ := h.al
  exact ⟨h.cb, h.bel, ⟨X, a, hX, m1.cut, m2⟩, fun k e => h.apart k (by cases fa <;> exact e)⟩
theorem LS.swap (h : LS c w Cb B Fb T g t p L hv s st fa fc fl ha hc hl W) : LS c w Cb B Fb T g t p L hv s st ha hc hl fa fc fl W := by
  obtain ⟨X, a, hX, m1, m2⟩ := h.al
  exact ⟨h.cb, h.bel, ⟨X, a, hX, m2, m1⟩, fun k e e2 => h.apart k e2 e⟩
theorem LS.none_ (h : LS c w Cb B Fb T g t p L hv s st fa fc fl ha hc hl W) : LS c w Cb B Fb T g t p L hv s st none 0 [] ha hc hl W := by
  obtain ⟨X, a, hX, m1, m2⟩ := h.al
  exact ⟨h.cb, h.bel, ⟨X, a, hX, Mine.nil _ _ _, m2⟩, fun k e => by cases e⟩
/-- Another list in place of the second one. -/
theorem LS.fresh (h : LS c w Cb B Fb T g t p L hv s st fa fc fl ha hc hl W) {n : Nat} {l : List Int} (hn : n = l.length) (hb : Below W.heap.size W W') (hr : W'.ownsRow W.heap.size 3 1 (.slice ha' n hc') n (ints l)) : LS c w Cb B Fb T g t p L hv s st fa fc fl ha' hc' l W' := by
  subst hn
  have h' := h.below hb
  obtain ⟨X, a, hX, m1, m2⟩ := h.al
  obtain ⟨X, a, hX, m1, m2⟩ := (show ∃ X, AL c B Fb T g t p L hv s st X W ∧ (∀ k, X k → w.heap.size ≤ k) ∧ Mine w X fa fc fl W ∧ Mine w X ha hc hl W from ⟨X, a, hX, m1, m2⟩)
  refine ⟨h'.cb, h'.bel, ⟨X, a.below hb, hX, m1.below hb, ⟨hr.mono h.bel.size, fun k e hx => ?_⟩⟩, fun k e e2 => ?_⟩
  · have := (hr.lt k e).1
    have := a.lt hx
    omega
  · have := (hr.lt k e2).1
    have := (m1.lt e).2
    omega
theorem LS.short (h : LS c w Cb B Fb T g t .idle L hv s st fa fc fl ha hc hl W) (hok : c.Ok) : L.length + hv.length ≤ 64 := by
  obtain ⟨X, ⟨ws, Gs, ts, m, i, hfr⟩, -⟩ := h.al
  have hth := hok.th
  have hnd := hok.nd
  have hsn := (P.sent_in c.al).1
  have h1 := i.tl
  have h2 := tot_le (n := c.th.toNat) (k := 0) (f := fun k => (updP idl 0 .idle k).rel.length + (own0 hv k).length) (by omega)
  simp only [own0_at] at h2
  omega
end
end Go.Proofs.Ytnedifcjenlcjaa
