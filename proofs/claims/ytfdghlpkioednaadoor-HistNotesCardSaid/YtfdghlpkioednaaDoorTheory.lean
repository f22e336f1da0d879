/- Histories, by the document: who is busy, which events may come, the operations, and that they tell the events back. -/
import Derived.Test.YtfdghlpkioednaaDoorFits
namespace Go.Proofs.YtfdghlpkioednaaDoor
open Go.ChangeShapes Go.WideShapes Go.ChangeAt Go.RowKit
set_option linter.unusedVariables false

/-- An event, and an operation, written plainly. -/
structure Ev where
  t : Int
  b : Bool
  c : Tri
  a : Tri
structure Opr where
  t : Int
  c : Tri
  a : Tri
  f : Int
  o : Int
abbrev zt : Tri := ⟨0, 0, 0⟩
abbrev ze : Ev := ⟨0, false, zt, zt⟩
def ith (l : List Ev) (i : Nat) : Ev := l.getD i ze
theorem ith_get {l : List Ev} {i : Nat} {e : Ev} (h : l[i]? = some e) : ith l i = e := by simp [ith, List.getD_eq_getElem?_getD, h]
theorem ith_lt {l : List Ev} {i : Nat} (h : i < l.length) : l[i]? = some (ith l i) := by simp [ith, List.getD_eq_getElem?_getD, List.getElem?_eq_getElem h]
theorem ith_left {l r : List Ev} {i : Nat} (h : i < l.length) : ith (l ++ r) i = ith l i := by simp [ith, List.getD_eq_getElem?_getD, List.getElem?_append_left h]
theorem ith_last (l : List Ev) (e : Ev) : ith (l ++ [e]) l.length = e := by simp [ith, List.getD_eq_getElem?_getD]

/-- Of the first n events: the place of a thread's call that isn't answered. -/
def opn (E : Nat → Ev) : Nat → Int → Option Nat
  | 0, _ => none
  | n + 1, t => if (E n).t = t then (if (E n).b then none else some n) else opn E n t
theorem opn_some {E : Nat → Ev} {n : Nat} {t : Int} {k : Nat} (h : opn E n t = some k) : k < n ∧ (E k).t = t ∧ (E k).b = false := by
  induction n with
  | zero => simp [opn] at h
  | succ n ih =>
    unfold opn at h
    split at h
    · rename_i ht
      split at h
      · cases h
      · rename_i hb
        obtain rfl := Option.some.inj h
        exact ⟨by omega, ht, by simpa using hb⟩
    · have := ih h
      exact ⟨by omega, this.2⟩
theorem opn_congr {E E' : Nat → Ev} {n : Nat} (t : Int) (h : ∀ i, i < n → E i = E' i) : opn E n t = opn E' n t := by
  induction n with
  | zero => rfl
  | succ n ih => simp only [opn, h n (by omega), ih fun i hi => h i (by omega)]
/-- That call. -/
def cur (E : Nat → Ev) (n : Nat) (t : Int) : Option Tri := (opn E n t).map fun k => (E k).c
theorem cur_congr {E E' : Nat → Ev} {n : Nat} (t : Int) (h : ∀ i, i < n → E i = E' i) : cur E n t = cur E' n t := by
  unfold cur
  rw [opn_congr t h]
  cases hq : opn E' n t with
  | none => rfl
  | some k => simp [h k (opn_some hq).1]
theorem cur_succ (E : Nat → Ev) (n : Nat) (t : Int) : cur E (n + 1) t = if (E n).t = t then (if (E n).b then none else some (E n).c) else cur E n t := by
  unfold cur
  rw [opn]
  split
  · split <;> simp
  · rfl
/-- May an event come behind n others, and if not, why? -/
def errC (q : Option Tri) (e : Ev) : Int :=
  if e.t < 0 ∨ 5 < e.t then 2 else if e.b then (match q with | none => 4 | some c => if fitsB c e.a then 0 else 1) else if rightB e.c then (if q.isSome then 5 else 0) else 1
def errE (E : Nat → Ev) (n : Nat) (e : Ev) : Int := errC (cur E n e.t) e
def nul (c : Tri) : Bool := c.op == 0 && c.key == 0 && c.val == 0
theorem nul_eq {c : Tri} (h : nul c = true) : c = zt := by
  obtain ⟨o, k, v⟩ := c
  simp [nul] at h
  simp [h]
/-- Is what an event doesn't have zero? -/
def bareE (e : Ev) : Bool := if e.b then nul e.c else nul e.a
def okE (E : Nat → Ev) (i : Nat) : Bool := errE E i (E i) == 0 && bareE (E i)
def rightN (E : Nat → Ev) : Nat → Bool
  | 0 => true
  | n + 1 => rightN E n && okE E n
theorem rightN_succ {E : Nat → Ev} {n : Nat} : rightN E (n + 1) = true ↔ rightN E n = true ∧ okE E n = true := by simp [rightN]
theorem rightN_le {E : Nat → Ev} {n m : Nat} (h : rightN E n = true) (hm : m ≤ n) : rightN E m = true := by
  induction n with
  | zero => obtain rfl : m = 0 := by omega
            rfl
  | succ n ih =>
    rcases Nat.lt_or_ge n m with h1 | h1
    · obtain rfl : m = n + 1 := by omega
      exact h
    · exact ih (rightN_succ.1 h).1 h1
theorem rightN_at {E : Nat → Ev} {n i : Nat} (h : rightN E n = true) (hi : i < n) : okE E i = true := (rightN_succ.1 (rightN_le h (show i + 1 ≤ n from hi))).2
theorem rightN_false {E : Nat → Ev} {n i : Nat} (h : okE E i = false) (hi : i < n) : rightN E n = false := by
  cases hq : rightN E n with
  | false => rfl
  | true => rw [rightN_at hq hi] at h; cases h
theorem rightN_congr {E E' : Nat → Ev} {n : Nat} (h : ∀ i, i < n → E i = E' i) : rightN E n = rightN E' n := by
  induction n with
  | zero => rfl
  | succ n ih =>
    simp only [rightN, ih fun i hi => h i (by omega), okE, errE, h n (by omega)]
    rw [cur_congr _ fun i hi => h i (by omega)]
/-- What an event that may come is. -/
theorem ok_parts {E : Nat → Ev} {i : Nat} (h : okE E i = true) : (0 ≤ (E i).t ∧ (E i).t ≤ 5) ∧
    (((E i).b = true ∧ (E i).c = zt ∧ ∃ j, opn E i (E i).t = some j ∧ fitsB (E j).c (E i).a = true) ∨ ((E i).b = false ∧ (E i).a = zt ∧ rightB (E i).c = true ∧ opn E i (E i).t = none)) := by
  simp only [okE, errE, errC, bareE, Bool.and_eq_true, beq_iff_eq] at h
  obtain ⟨h1, h2⟩ := h
  split at h1
  · omega
  rename_i hr
  refine ⟨by omega, ?_⟩
  cases hb : (E i).b with
  | true =>
    rw [hb] at h1 h2
    simp only [if_true] at h1 h2
    unfold cur at h1
    cases hq : opn E i (E i).t with
    | none => rw [hq] at h1; simp at h1
    | some j =>
      rw [hq] at h1
      simp only [Option.map_some] at h1
      refine .inl ⟨rfl, nul_eq h2, j, rfl, ?_⟩
      cases hf : fitsB (E j).c (E i).a with
      | true => rfl
      | false => rw [hf] at h1; simp at h1
  | false =>
    rw [hb] at h1 h2
    simp only [Bool.false_eq_true, if_false] at h1 h2
    cases hr2 : rightB (E i).c with
    | false => rw [hr2] at h1; simp at h1
    | true =>
      rw [hr2] at h1
      simp only [if_true] at h1
      unfold cur at h1
      cases hq : opn E i (E i).t with
      | some j => rw [hq] at h1; simp at h1
      | none => exact .inr ⟨rfl, nul_eq h2, rfl, rfl⟩

/-- The place of the next event of the thread of event j, among the first i. -/
def nxt (E : Nat → Ev) (j : Nat) : Nat → Option Nat
  | 0 => none
  | i + 1 => match nxt E j i with
    | some k => some k
    | none => if j < i ∧ (E i).t = (E j).t then some i else none
theorem nxt_none {E : Nat → Ev} {j i : Nat} (h : i ≤ j + 1) : nxt E j i = none := by
  induction i with
  | zero => rfl
  | succ i ih => simp only [nxt, ih (by omega)]; rw [if_neg (by omega)]
theorem nxt_some {E : Nat → Ev} {j i k : Nat} (h : nxt E j i = some k) : j < k ∧ k < i ∧ (E k).t = (E j).t ∧ nxt E j k = none := by
  induction i with
  | zero => cases h
  | succ i ih =>
    unfold nxt at h
    split at h
    · rename_i k' hk
      obtain rfl := Option.some.inj h
      have := ih hk
      exact ⟨this.1, by omega, this.2.2⟩
    · rename_i hk
      split at h
      · rename_i hc
        obtain rfl := Option.some.inj h
        exact ⟨hc.1, by omega, hc.2, hk⟩
      · cases h
theorem nxt_mono {E : Nat → Ev} {j i k : Nat} (h : nxt E j i = some k) {n : Nat} (hn : i ≤ n) : nxt E j n = some k := by
  induction n with
  | zero => obtain rfl : i = 0 := by omega
            exact h
  | succ n ih =>
    rcases Nat.lt_or_ge n i with h1 | h1
    · obtain rfl : i = n + 1 := by omega
      exact h
    · simp only [nxt, ih h1]
theorem opn_nxt {E : Nat → Ev} {j : Nat} (hb : (E j).b = false) {i : Nat} (hj : j < i) : opn E i (E j).t = some j ↔ nxt E j i = none := by
  induction i with
  | zero => omega
  | succ i ih =>
    simp only [opn, nxt]
    rcases Nat.lt_or_ge j i with h | h
    · have := ih h
      by_cases ht : (E i).t = (E j).t
      · have hno : (if (E i).t = (E j).t then (if (E i).b = true then none else some i) else opn E i (E j).t) ≠ some j := by
          rw [if_pos ht]
          split
          · intro e; cases e
          · intro e
            have := Option.some.inj e
            omega
        cases hn : nxt E j i with
        | some k => exact ⟨fun e => (hno e).elim, fun e => by cases e⟩
        | none =>
          simp only
          exact ⟨fun e => (hno e).elim, fun e => by rw [if_pos ⟨h, ht⟩] at e; cases e⟩
      · rw [if_neg ht, this]
        cases hn : nxt E j i with
        | some k => simp
        | none => simp [ht]
    · obtain rfl : j = i := by omega
      rw [nxt_none (by omega)]
      simp [hb]
theorem nxt_of_open {E : Nat → Ev} {j k n : Nat} (h : opn E k (E k).t = some j) (hk : k < n) : nxt E j n = some k := by
  obtain ⟨h1, h2, h3⟩ := opn_some h
  refine nxt_mono (i := k + 1) ?_ hk
  have := (opn_nxt h3 h1).1 (by rw [h2]; exact h)
  simp only [nxt, this]
  rw [if_pos ⟨h1, h2.symm⟩]
theorem nxt_back {E : Nat → Ev} {n j k i : Nat} (hr : rightN E n = true) (hb : (E j).b = false) (h : nxt E j i = some k) (hi : i ≤ n) : (E k).b = true ∧ opn E k (E k).t = some j := by
  obtain ⟨h1, h2, h3, h4⟩ := nxt_some h
  have ho := (opn_nxt hb h1).2 h4
  rw [← h3] at ho
  rcases (ok_parts (rightN_at hr (show k < n by omega))).2 with ⟨hb2, _⟩ | ⟨_, _, _, hn⟩
  · exact ⟨hb2, ho⟩
  · rw [ho] at hn; cases hn

/-- The places where calls begin. -/
def beg (E : Nat → Ev) : Nat → List Nat
  | 0 => []
  | i + 1 => if (E i).b then beg E i else beg E i ++ [i]
theorem beg_mem {E : Nat → Ev} {i j : Nat} : j ∈ beg E i ↔ j < i ∧ (E j).b = false := by
  induction i with
  | zero => simp [beg]
  | succ i ih =>
    unfold beg
    split
    · rename_i hb
      rw [ih]
      constructor
      · rintro ⟨h1, h2⟩; exact ⟨by omega, h2⟩
      · rintro ⟨h1, h2⟩
        refine ⟨?_, h2⟩
        rcases Nat.lt_or_ge j i with h | h
        · exact h
        · obtain rfl : j = i := by omega
          rw [h2] at hb; cases hb
    · rename_i hb
      rw [List.mem_append, ih, List.mem_singleton]
      constructor
      · rintro (⟨h1, h2⟩ | rfl)
        · exact ⟨by omega, h2⟩
        · exact ⟨by omega, by simpa using hb⟩
      · rintro ⟨h1, h2⟩
        rcases Nat.lt_or_ge j i with h | h
        · exact .inl ⟨h, h2⟩
        · exact .inr (by omega)
theorem beg_back {E : Nat → Ev} {i : Nat} (h : (E i).b = true) : beg E (i + 1) = beg E i := by rw [beg, if_pos h]
theorem beg_begin {E : Nat → Ev} {i : Nat} (h : (E i).b = false) : beg E (i + 1) = beg E i ++ [i] := by rw [beg, if_neg (by rw [h]; decide)]
theorem beg_len {E : Nat → Ev} {i : Nat} : (beg E i).length ≤ i := by
  induction i with
  | zero => simp [beg]
  | succ i ih =>
    cases h : (E i).b with
    | true => rw [beg_back h]; omega
    | false => rw [beg_begin h, List.length_append]; simp; omega
theorem beg_nodup (E : Nat → Ev) (i : Nat) : (beg E i).Nodup := by
  induction i with
  | zero => simp [beg]
  | succ i ih =>
    unfold beg
    split
    · exact ih
    · rw [List.nodup_append]
      refine ⟨ih, by simp, ?_⟩
      intro a ha b hb
      have := (beg_mem.1 ha).1
      simp at hb
      omega
theorem beg_at {E : Nat → Ev} {i j : Nat} (hj : j < i) (hb : (E j).b = false) : (beg E i)[(beg E j).length]? = some j := by
  induction i with
  | zero => omega
  | succ i ih =>
    rcases Nat.lt_or_ge j i with h | h
    · have := ih h
      cases hi : (E i).b with
      | true => rw [beg_back hi]; exact this
      | false =>
        rw [beg_begin hi, List.getElem?_append_left (List.getElem?_eq_some_iff.1 this).1]
        exact this
    · obtain rfl : j = i := by omega
      rw [beg_begin hb]
      simp
theorem beg_rank {E : Nat → Ev} {i p j : Nat} (h : (beg E i)[p]? = some j) : p = (beg E j).length := by
  induction i with
  | zero => simp [beg] at h
  | succ i ih =>
    cases hi : (E i).b with
    | true => rw [beg_back hi] at h; exact ih h
    | false =>
      rw [beg_begin hi] at h
      rcases Nat.lt_or_ge p (beg E i).length with hp | hp
      · rw [List.getElem?_append_left hp] at h
        exact ih h
      · rw [List.getElem?_append_right hp] at h
        have hl := (List.getElem?_eq_some_iff.1 h).1
        simp at hl
        obtain rfl : p = (beg E i).length := by omega
        simp at h
        rw [h]
/-- The operation that begins at j, as far as the first i events tell. -/
def oper (E : Nat → Ev) (i j : Nat) : Opr :=
  match nxt E j i with
  | none => ⟨(E j).t, (E j).c, zt, j, -1⟩
  | some k => ⟨(E j).t, (E j).c, (E k).a, j, k⟩
theorem oper_none {E : Nat → Ev} {i j : Nat} (h : nxt E j i = none) : oper E i j = ⟨(E j).t, (E j).c, zt, j, -1⟩ := by simp only [oper, h]
theorem oper_some {E : Nat → Ev} {i j k : Nat} (h : nxt E j i = some k) : oper E i j = ⟨(E j).t, (E j).c, (E k).a, j, k⟩ := by simp only [oper, h]
theorem oper_f (E : Nat → Ev) (i j : Nat) : (oper E i j).f = j := by unfold oper; split <;> rfl
theorem oper_same {E : Nat → Ev} {i j : Nat} (h : nxt E j (i + 1) = nxt E j i) : oper E (i + 1) j = oper E i j := by simp only [oper, h]
def ops (E : Nat → Ev) (i : Nat) : List Opr := (beg E i).map (oper E i)
theorem ops_len (E : Nat → Ev) (i : Nat) : (ops E i).length = (beg E i).length := by simp [ops]
/-- One more event: a call that begins. -/
theorem ops_begin {E : Nat → Ev} {i : Nat} (hr : rightN E (i + 1) = true) (hb : (E i).b = false) : ops E (i + 1) = ops E i ++ [⟨(E i).t, (E i).c, zt, i, -1⟩] := by
  have hok := (ok_parts (rightN_at hr (Nat.lt_succ_self i))).2
  have hno : opn E i (E i).t = none := by
    rcases hok with ⟨h, _⟩ | ⟨_, _, _, h⟩
    · rw [hb] at h; cases h
    · exact h
  unfold ops
  rw [beg, hb]
  simp only [Bool.false_eq_true, if_false, List.map_append, List.map_cons, List.map_nil]
  congr 1
  · apply List.map_congr_left
    intro j hj
    obtain ⟨h1, h2⟩ := beg_mem.1 hj
    apply oper_same
    simp only [nxt]
    cases hn : nxt E j i with
    | some k => rfl
    | none =>
      simp only
      rw [if_neg]
      rintro ⟨_, ht⟩
      have := (opn_nxt h2 h1).2 hn
      rw [← ht, hno] at this
      cases this
  · rw [oper_none (nxt_none (by omega))]
/-- One more event: an answer. -/
theorem ops_back {E : Nat → Ev} {i j : Nat} (hb : (E i).b = true) (hj : opn E i (E i).t = some j) :
    (ops E i)[(beg E j).length]? = some ⟨(E j).t, (E j).c, zt, j, -1⟩ ∧ ops E (i + 1) = (ops E i).set (beg E j).length ⟨(E j).t, (E j).c, (E i).a, j, i⟩ := by
  obtain ⟨h1, h2, h3⟩ := opn_some hj
  have hn := (opn_nxt h3 h1).1 (by rw [h2]; exact hj)
  have hn1 := nxt_of_open hj (Nat.lt_succ_self i)
  have hat := beg_at h1 h3
  refine ⟨by simp [ops, hat, oper_none hn], ?_⟩
  apply List.ext_getElem?
  intro p
  rw [List.getElem?_set]
  unfold ops
  rw [beg, hb]
  simp only [if_true, List.getElem?_map, List.length_map]
  by_cases e : (beg E j).length = p
  · rw [if_pos e, if_pos (e ▸ (List.getElem?_eq_some_iff.1 hat).1), ← e, hat]
    simp [oper_some hn1]
  · rw [if_neg e]
    cases hp : (beg E i)[p]? with
    | none => rfl
    | some q =>
      simp only [Option.map_some, Option.some.injEq]
      apply oper_same
      have hq := beg_mem.1 (List.mem_of_getElem? hp)
      simp only [nxt]
      cases hnq : nxt E q i with
      | some k => rfl
      | none =>
        simp only
        rw [if_neg]
        rintro ⟨_, ht⟩
        have := (opn_nxt hq.2 hq.1).2 hnq
        rw [← ht, hj] at this
        obtain rfl := Option.some.inj this
        exact e (beg_rank hp).symm

/-! ### that operations tell their history back -/
/-- What an operation tells of a place. -/
def told (k : Nat) (o : Opr) : Option Ev := if o.f = k then some ⟨o.t, false, o.c, zt⟩ else if o.o = k then some ⟨o.t, true, zt, o.a⟩ else none
theorem filterMap_one {α β : Type} {f : α → Option β} {b : β} : ∀ {l : List α} {a : α}, l.Nodup → a ∈ l → f a = some b → (∀ x ∈ l, x ≠ a → f x = none) → l.filterMap f = [b]
  | [], a, _, h, _, _ => by cases h
  | x :: l, a, hn, h, hf, ho => by
    have hx := List.nodup_cons.1 hn
    rcases List.mem_cons.1 h with rfl | h
    · rw [List.filterMap_cons, hf]
      simp only
      rw [List.filterMap_eq_nil_iff.2 fun y hy => ho y (List.mem_cons_of_mem _ hy) (fun e => hx.1 (e ▸ hy))]
    · rw [List.filterMap_cons, ho x List.mem_cons_self (fun e => hx.1 (e ▸ h))]
      exact filterMap_one hx.2 h hf fun y hy hne => ho y (List.mem_cons_of_mem _ hy) hne
theorem told_ops {E : Nat → Ev} {n k : Nat} (hr : rightN E n = true) (hk : k < n) : (ops E n).filterMap (told k) = [E k] := by
  unfold ops
  rw [List.filterMap_map]
  rcases (ok_parts (rightN_at hr hk)).2 with ⟨hb, hc, j, hj, _⟩ | ⟨hb, ha, _, _⟩
  · obtain ⟨h1, h2, h3⟩ := opn_some hj
    have hn := nxt_of_open hj hk
    refine filterMap_one (a := j) (beg_nodup E n) (beg_mem.2 ⟨by omega, h3⟩) ?_ fun x hx hne => ?_
    · simp only [Function.comp, oper_some hn, told]
      rw [if_neg (by omega), if_pos trivial, h2]
      generalize E k = e at *
      obtain ⟨t, b, c, a⟩ := e
      simp only at hb hc
      rw [hb, hc]
    · obtain ⟨x1, x2⟩ := beg_mem.1 hx
      have hxk : x ≠ k := fun e => by rw [e, hb] at x2; cases x2
      simp only [Function.comp, told, oper_f]
      rw [if_neg (by omega), if_neg]
      intro e
      cases hq : nxt E x n with
      | none => rw [oper_none hq] at e; simp at e
      | some m =>
        rw [oper_some hq] at e
        have e2 : (m : Int) = k := e
        obtain rfl : m = k := by omega
        have := (nxt_back hr x2 hq (Nat.le_refl _)).2
        rw [hj] at this
        exact hne (Option.some.inj this).symm
  · refine filterMap_one (a := k) (beg_nodup E n) (beg_mem.2 ⟨hk, hb⟩) ?_ fun x hx hne => ?_
    · have e1 : (oper E n k).t = (E k).t ∧ (oper E n k).c = (E k).c := by unfold oper; split <;> exact ⟨rfl, rfl⟩
      simp only [Function.comp, told, oper_f, if_true, e1.1, e1.2]
      generalize E k = e at *
      obtain ⟨t, b, c, a⟩ := e
      simp only at hb ha
      rw [hb, ha]
    · obtain ⟨x1, x2⟩ := beg_mem.1 hx
      simp only [Function.comp, told, oper_f]
      rw [if_neg (by omega), if_neg]
      intro e
      cases hq : nxt E x n with
      | none => rw [oper_none hq] at e; simp at e
      | some m =>
        rw [oper_some hq] at e
        have e2 : (m : Int) = k := e
        obtain rfl : m = k := by omega
        have := (nxt_back hr x2 hq (Nat.le_refl _)).1
        rw [hb] at this
        cases this
def answered (o : Opr) : Bool := decide (0 ≤ o.o)
theorem countP_set {α : Type} {p : α → Bool} : ∀ {l : List α} {i : Nat} {a b : α}, l[i]? = some a → p a = false → p b = true → (l.set i b).countP p = l.countP p + 1
  | [], i, a, b, h, _, _ => by simp at h
  | x :: l, 0, a, b, h, ha, hb => by
    obtain rfl : x = a := by simpa using h
    simp [ha, hb]
  | x :: l, i + 1, a, b, h, ha, hb => by
    simp only [List.set_cons_succ, List.countP_cons, countP_set (l := l) (by simpa using h) ha hb]
    omega
theorem ops_count {E : Nat → Ev} {n : Nat} (hr : rightN E n = true) : (ops E n).length + (ops E n).countP answered = n := by
  induction n with
  | zero => rfl
  | succ n ih =>
    have h := ih (rightN_succ.1 hr).1
    rcases (ok_parts (rightN_at hr (Nat.lt_succ_self n))).2 with ⟨hb, _, j, hj, _⟩ | ⟨hb, _⟩
    · obtain ⟨h1, h2⟩ := ops_back hb hj
      rw [h2, countP_set h1 (by simp [answered]) (by simp [answered]), List.length_set]
      omega
    · rw [ops_begin hr hb, List.length_append, List.countP_append]
      simp [answered]
      omega
end Go.Proofs.YtfdghlpkioednaaDoor
