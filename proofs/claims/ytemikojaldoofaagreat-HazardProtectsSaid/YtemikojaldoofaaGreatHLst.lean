/- A machine whose threads have lists in their other cells: from the cell q on (Retired, Found; Pred, Succ, Word too, if q is 5). -/
import Derived.Test.YtemikojaldoofaaGreatKMac
import Derived.Test.YtemikojaldoofaaGreatQRow
namespace Go.Proofs.YtemikojaldoofaaGreat
open Go.ChangeShapes Go.WideShapes Go.ChangeAt Go.RowKit
set_option linter.unusedVariables false
set_option maxRecDepth 20000

/-- The type of what a list holds. -/
def ety (j : Nat) : TypeId := if j < 8 then 24 else 3
/-- The lists of the threads' cells q to 9: each lies in a row of its own, apart from all else. -/
structure Lsts (c : P.Cf) (q : Nat) (ts : Nat → Th) (ls : Nat → Nat → List Value) (X0 : Nat → Prop) (W : World) : Prop where
  row : ∀ i j, i < c.th.toNat → q ≤ j → j < 10 → R.Row W (ety j) ((ts i).v j) (ls i j).length (ls i j)
  far : ∀ i j, i < c.th.toNat → q ≤ j → j < 10 → ∀ k, ((ts i).v j).ownBlock = some k → ¬ X0 k
  apart : ∀ i j i' j', i < c.th.toNat → q ≤ j → j < 10 → i' < c.th.toNat → q ≤ j' → j' < 10 → (i ≠ i' ∨ j ≠ j') → ∀ k, ((ts i).v j).ownBlock = some k → ((ts i').v j').ownBlock ≠ some k
/-- A machine with lists; X: the blocks that its steps may turn. -/
def HM (c : P.Cf) (B Fb T q : Nat) (σ : Sg) (ls : Nat → Nat → List Value) (X : Nat → Prop) (W : World) : Prop :=
  ∃ X0, X = (fun k => X0 k ∨ ∃ i j, i < c.th.toNat ∧ q ≤ j ∧ j < 10 ∧ ((σ.ts i).v j).ownBlock = some k) ∧ Mac c B Fb T X0 σ W ∧ Lsts c q σ.ts ls X0 W
def HMT (c : P.Cf) (B Fb T q : Nat) (σ : Sg) (ls : Nat → Nat → List Value) (X : Nat → Prop) (W W' : World) : Prop :=
  ∃ X', Keeps X W W' ∧ Later X W X' ∧ HM c B Fb T q σ ls X' W'

theorem rrow_blk {W : World} {n : Nat} {e : TypeId} {v : Value} {xs : List Value} (h : R.Row W e v n xs) {k : Nat} (hk : v.ownBlock = some k) : ∃ cur, Blk W k e cur := by
  rcases h.2 with ⟨e', _⟩ | ⟨gg, off, cap, cur, e', hg, _⟩
  · rw [e'] at hk; cases hk
  · rw [e'] at hk
    have e2 : gg = k := by simpa [Value.ownBlock] using hk
    subst e2
    exact ⟨cur, hg⟩

variable {c : P.Cf} {B Fb T q : Nat} {X : Nat → Prop} {σ σ' : Sg} {ls ls' : Nat → Nat → List Value} {W W' V V' : World}
theorem Lsts.agree {ts : Nat → Th} {X0 X1 : Nat → Prop} (h : Lsts c q ts ls X0 W) (hk : ∀ i j, i < c.th.toNat → q ≤ j → j < 10 → ∀ k, ((ts i).v j).ownBlock = some k → W'.heap[k]? = W.heap[k]? ∧ ¬ X1 k) : Lsts c q ts ls X1 W' :=
  ⟨fun i j hi h0 h1 => (h.row i j hi h0 h1).agree fun k e => (hk i j hi h0 h1 k e).1, fun i j hi h0 h1 k e => (hk i j hi h0 h1 k e).2, h.apart⟩
theorem HM.lt (h : HM c B Fb T q σ ls X W) {k : Nat} (hk : X k) : k < W.heap.size := by
  obtain ⟨X0, rfl, hm, hl⟩ := h
  rcases hk with hk | ⟨i, j, h0, h1, h2, e⟩
  · exact hm.lt hk
  · exact (hl.row i j h0 h1 h2).lt e
theorem HM.agree (h : HM c B Fb T q σ ls X W) (hk : ∀ k, X k → W'.heap[k]? = W.heap[k]?) : HM c B Fb T q σ ls X W' := by
  obtain ⟨X0, rfl, hm, hl⟩ := h
  exact ⟨X0, rfl, hm.agree fun k e => hk k (.inl e), hl.agree fun i j h0 h1 h2 k e => ⟨hk k (.inr ⟨i, j, h0, h1, h2, e⟩), hl.far i j h0 h1 h2 k e⟩⟩
theorem HM.below (h : HM c B Fb T q σ ls X W) (hb : Below W.heap.size W W') : HM c B Fb T q σ ls X W' := h.agree fun k hk => hb.block k (h.lt hk)
theorem HM.drew (h : HM c B Fb T q σ ls X W) : HM c B Fb T q σ ls X W.drew := h.agree fun k hk => rfl
theorem HM.keeps {Y : Nat → Prop} (h : HM c B Fb T q σ ls X W) (hk : Keeps Y W W') (hd : ∀ k, X k → ¬ Y k) : HM c B Fb T q σ ls X W' := h.agree fun k ho => hk.block k (h.lt ho) (hd k ho)
theorem HMT.refl (h : HM c B Fb T q σ ls X W) : HMT c B Fb T q σ ls X W W := ⟨X, Keeps.refl _ _, Later.refl _ _, h⟩
theorem HMT.from {X1 : Nat → Prop} {W1 : World} (hk : Keeps X W W1) (hl : Later X W X1) (h : HMT c B Fb T q σ ls X1 W1 W') : HMT c B Fb T q σ ls X W W' := by
  obtain ⟨X', k, l, m⟩ := h
  exact ⟨X', hk.trans k hl, hl.trans hk.size l, m⟩
theorem HMT.below (h : HMT c B Fb T q σ ls X W V) (hb : Below V.heap.size V V') : HMT c B Fb T q σ ls X W V' := by
  obtain ⟨X', k, l, m⟩ := h
  exact ⟨X', k.trans (Keeps.of_below (O := X') hb) l, l, m.below hb⟩
theorem HMT.drew (h : HMT c B Fb T q σ ls X W V) : HMT c B Fb T q σ ls X W V.drew := h.below ((Below.refl _ _).drew)
theorem HMT.then {σ2 : Sg} {ls2 : Nat → Nat → List Value} (h : HMT c B Fb T q σ ls X W V) (h2 : ∀ X', HM c B Fb T q σ ls X' V → HMT c B Fb T q σ2 ls2 X' V V') : HMT c B Fb T q σ2 ls2 X W V' := by
  obtain ⟨X', k, l, m⟩ := h
  exact HMT.from k l (h2 X' m)
theorem HM.mac (h : HM c B Fb T q σ ls X W) : ∃ X0, Mac c B Fb T X0 σ W ∧ ∀ k, X0 k → X k := by
  obtain ⟨X0, rfl, hm, hl⟩ := h
  exact ⟨X0, hm, fun k hk => .inl hk⟩
/-- A turn of the machine that leaves the threads' other cells. -/
theorem HM.turn {X0 : Nat → Prop} (hm : Mac c B Fb T X0 σ W) (hl : Lsts c q σ.ts ls X0 W) (ht : MacT c B Fb T σ' X0 W W') (hv : ∀ i, i < c.th.toNat → (σ'.ts i).v = (σ.ts i).v) :
    HMT c B Fb T q σ' ls (fun k => X0 k ∨ ∃ i j, i < c.th.toNat ∧ q ≤ j ∧ j < 10 ∧ ((σ.ts i).v j).ownBlock = some k) W W' := by
  obtain ⟨X1, k1, l1, m1⟩ := ht
  refine ⟨fun k => X1 k ∨ ∃ i j, i < c.th.toNat ∧ q ≤ j ∧ j < 10 ∧ ((σ'.ts i).v j).ownBlock = some k, k1.mono fun k h => .inl (.inl h), ?_, X1, rfl, m1, ?_⟩
  · rintro k (h | ⟨i, j, h0, h1, h2, e⟩)
    · exact (l1 k h).imp .inl id
    · rw [hv i h0] at e
      exact .inl (.inr ⟨i, j, h0, h1, h2, e⟩)
  · refine ⟨fun i j h0 h1 h2 => ?_, fun i j h0 h1 h2 k e => ?_, fun i j i' j' h0 h1 h2 h3 h4 h5 hne k e => ?_⟩
    · rw [hv i h0]
      exact (hl.row i j h0 h1 h2).agree fun k e => k1.block k ((hl.row i j h0 h1 h2).lt e) (hl.far i j h0 h1 h2 k e)
    · rw [hv i h0] at e
      intro hx
      rcases l1 k hx with h | h
      · exact hl.far i j h0 h1 h2 k e h
      · have := (hl.row i j h0 h1 h2).lt e
        omega
    · rw [hv i h0] at e
      rw [hv i' h3]
      exact hl.apart i j i' j' h0 h1 h2 h3 h4 h5 hne k e
/-- A contract of a layer below. -/
theorem HM.lift (h : HM c B Fb T q σ ls X W) {v : Value} {K : Nat} {args : Array Value} (hv : ∀ i, i < c.th.toNat → (σ'.ts i).v = (σ.ts i).v)
    (hK : ∀ X0, Mac c B Fb T X0 σ W → Calls Tryz.prog K args W fun e W' => e = .returned v ∧ MacT c B Fb T σ' X0 W W') :
    Calls Tryz.prog K args W fun e W' => e = .returned v ∧ HMT c B Fb T q σ' ls X W W' := by
  obtain ⟨X0, rfl, hm, hl⟩ := h
  refine (hK X0 hm).mono ?_
  rintro e W' ⟨rfl, ht⟩
  exact ⟨rfl, HM.turn hm hl ht hv⟩
def updLs (ls : Nat → Nat → List Value) (i j : Nat) (xs : List Value) : Nat → Nat → List Value := fun a b => if a = i ∧ b = j then xs else ls a b
theorem updLs_at (ls : Nat → Nat → List Value) (i j : Nat) (xs : List Value) : updLs ls i j xs i j = xs := by simp [updLs]
theorem updLs_ne (ls : Nat → Nat → List Value) (i j : Nat) (xs : List Value) {a b : Nat} (h : a ≠ i ∨ b ≠ j) : updLs ls i j xs a b = ls a b := by
  unfold updLs
  rw [if_neg (by omega)]
theorem setV_at (t : Th) (j : Nat) (u : Value) : (t.setV j u).v j = u := by simp [Th.setV]
theorem setV_ne (t : Th) {j k : Nat} (u : Value) (h : k ≠ j) : (t.setV j u).v k = t.v k := by simp [Th.setV, h]
/-- What lies in the cell of a list. -/
theorem HM.list (h : HM c B Fb T q σ ls X W) {i j : Nat} (hi : i < c.th.toNat) (h0 : q ≤ j) (h5 : 5 ≤ j) (h1 : j < 10) :
    W.cell? ⟨T, i * 10 + j, none⟩ = some ((σ.ts i).v j) ∧ W.frozen? ⟨T, i * 10 + j, none⟩ = false ∧ R.Row W (ety j) ((σ.ts i).v j) (ls i j).length (ls i j) ∧ T < W.heap.size := by
  obtain ⟨X0, rfl, hm, hl⟩ := h
  obtain ⟨a1, a2, a3, -⟩ := hm.oth hi (j := j) (.inr ⟨h5, h1⟩)
  exact ⟨a1, a2, hl.row i j hi h0 h1, hm.lt a3⟩
/-- A list is another: its cell and its own row alone have turned since, or a new one was made. -/
theorem HM.put (h : HM c B Fb T q σ ls X W) {i j : Nat} (hi : i < c.th.toNat) (h0 : q ≤ j) (h5 : 5 ≤ j) (h1 : j < 10) (hk : Keeps (fun k => k = T ∨ ((σ.ts i).v j).ownBlock = some k) W W') {u : Value} (hT' : ∀ cs, Blk W T 48 cs → Blk W' T 48 (cs.setIfInBounds (i * 10 + j) u))
    {xs : List Value} (hr : R.Row W' (ety j) u xs.length xs) (hu : ∀ k, u.ownBlock = some k → ((σ.ts i).v j).ownBlock = some k ∨ W.heap.size ≤ k) :
    HMT c B Fb T q { σ with ts := upd σ.ts i ((σ.ts i).setV j u) } (updLs ls i j xs) X W W' := by
  obtain ⟨X0, rfl, hm, hl⟩ := h
  have hm2 : Mac c B Fb T X0 { σ with ts := upd σ.ts i ((σ.ts i).setV j u) } W' := hm.setV hi ⟨h5, h1⟩ u (fun k hx hne => hk.block k (hm.lt hx) fun e => by
    rcases e with e | e
    · exact hne e
    · exact hl.far i j hi h0 h1 k e hx) hT'
  have hT : X0 T := hm.own.2
  have hlt := fun i j a b d k e => (hl.row i j a b d).lt (k := k) e
  have hsz := hk.size
  have hval : ∀ a b, a < c.th.toNat → ((upd σ.ts i ((σ.ts i).setV j u)) a).v b = if a = i ∧ b = j then u else (σ.ts a).v b := fun a b ha => by
    by_cases e : a = i
    · subst e
      rw [upd_same]
      by_cases e2 : b = j
      · subst e2; rw [setV_at, if_pos ⟨rfl, rfl⟩]
      · rw [setV_ne _ _ e2, if_neg (by omega)]
    · rw [upd_ne _ _ e, if_neg (by omega)]
  refine ⟨fun k => X0 k ∨ ∃ a b, a < c.th.toNat ∧ q ≤ b ∧ b < 10 ∧ (((upd σ.ts i ((σ.ts i).setV j u)) a).v b).ownBlock = some k, ?_, ?_, X0, rfl, hm2, ?_⟩
  · refine hk.mono ?_
    rintro k (rfl | e)
    · exact .inl (.inl hT)
    · exact .inl (.inr ⟨i, j, hi, h0, h1, e⟩)
  · rintro k (e | ⟨a, b, a0, a1, a2, e⟩)
    · exact .inl (.inl e)
    · rw [hval a b a0] at e
      by_cases e1 : a = i ∧ b = j
      · rw [if_pos e1] at e
        rcases hu k e with h | h
        · exact .inl (.inr ⟨i, j, hi, h0, h1, h⟩)
        · exact .inr h
      · rw [if_neg e1] at e
        exact .inl (.inr ⟨a, b, a0, a1, a2, e⟩)
  · refine ⟨fun a b a0 a1 a2 => ?_, fun a b a0 a1 a2 k e => ?_, fun a b a' b' a0 a1 a2 b0 b1 b2 hne k e e2 => ?_⟩
    · dsimp only
      rw [hval a b a0]
      by_cases e1 : a = i ∧ b = j
      · obtain ⟨rfl, rfl⟩ := e1
        rw [if_pos ⟨rfl, rfl⟩, updLs_at]
        exact hr
      · rw [if_neg e1, updLs_ne _ _ _ _ (by omega)]
        have hrow := hl.row a b a0 a1 a2
        refine hrow.agree fun k e => ?_
        have hkT : k ≠ T := by rintro rfl; exact hl.far a b a0 a1 a2 k e hT
        exact hk.block k (hrow.lt e) fun e2 => e2.elim hkT fun e2 => hl.apart i j a b hi h0 h1 a0 a1 a2 (by omega) k e2 e
    · dsimp only at e
      rw [hval a b a0] at e
      by_cases e1 : a = i ∧ b = j
      · rw [if_pos e1] at e
        rcases hu k e with h | h
        · exact hl.far i j hi h0 h1 k h
        · intro hx
          have := hm.lt hx; omega
      · rw [if_neg e1] at e
        exact hl.far a b a0 a1 a2 k e
    · dsimp only at e e2
      rw [hval a b a0] at e
      rw [hval a' b' b0] at e2
      by_cases e1 : a = i ∧ b = j
      · rw [if_pos e1] at e
        rw [if_neg (by omega)] at e2
        rcases hu k e with h | h
        · exact hl.apart i j a' b' hi h0 h1 b0 b1 b2 (by omega) k h e2
        · have := hlt a' b' b0 b1 b2 k e2; omega
      · rw [if_neg e1] at e
        by_cases e3 : a' = i ∧ b' = j
        · rw [if_pos e3] at e2
          rcases hu k e2 with h | h
          · exact hl.apart i j a b hi h0 h1 a0 a1 a2 (by omega) k h e
          · have := hlt a b a0 a1 a2 k e; omega
        · rw [if_neg e3] at e2
          exact hl.apart a b a' b' a0 a1 a2 b0 b1 b2 hne k e e2
/-- Where a frame lies, behind a list that was put. -/
theorem FrIs.put {i gg o cp i' j : Nat} {f : Fr} (h : FrIs T i gg o cp f W) {v : Value} (hk : Keeps (fun k => k = T ∨ v.ownBlock = some k) W W') {e : TypeId} {n : Nat} {vs : List Value} (hr : R.Row W e v n vs) (he : e ≠ 48 ∧ e ≠ 103) (hj : i' * 10 + j ≠ i * 10 + 1) {u : Value} (hT' : ∀ cs, Blk W T 48 cs → Blk W' T 48 (cs.setIfInBounds (i' * 10 + j) u)) :
    FrIs T i gg o cp f W' := by
  obtain ⟨cur, hb⟩ := h.bl
  obtain ⟨cs, ht⟩ := h.tb
  have hTg : gg ≠ T := Blk.ne hb ht (by decide)
  have n1 : v.ownBlock ≠ some gg := fun e2 => by
    obtain ⟨cur', hb'⟩ := rrow_blk hr e2
    exact Blk.ne hb' hb he.2 rfl
  have hb2 : Blk W' gg 103 cur := hb.agree (hk.block _ hb.lt fun e => e.elim hTg n1)
  have ht2 := hT' cs ht
  have qq : ∀ j', W'.cell? ⟨gg, j', none⟩ = W.cell? ⟨gg, j', none⟩ := fun j' => (hb2.cell j').trans (hb.cell j').symm
  exact ⟨by rw [ht2.cell, Array.getElem?_setIfInBounds_ne hj, ← ht.cell]; exact h.sl, h.o12, (qq _).trans h.fn, (qq _).trans h.pc, fun k hk => (qq _).trans (h.reg k hk), fun k => hb2.frozen k, ⟨cur, hb2⟩, ⟨_, ht2⟩⟩
/-- A store into a thread's cell, behind a turn of a row. -/
theorem Keeps.setT {v u : Value} {o : Nat} (hk : Keeps (fun k => v.ownBlock = some k) W W') : Keeps (fun k => k = T ∨ v.ownBlock = some k) W (W'.setCell ⟨T, o, none⟩ u) := (hk.mono (O' := fun k => k = T ∨ v.ownBlock = some k) fun k e => .inl (.inr e)).setCell (p := ⟨T, o, none⟩) (.inl (.inl rfl)) u
end Go.Proofs.YtemikojaldoofaaGreat
