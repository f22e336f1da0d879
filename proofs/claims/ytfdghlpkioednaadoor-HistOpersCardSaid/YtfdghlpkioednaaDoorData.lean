/- Slices that read as lists; lists of events and of operations; the map of who is busy; who may turn which blocks. -/
import Derived.Test.YtfdghlpkioednaaDoorTheory
import Derived.Maps.AppendAt
import Derived.Maps.OwnSet
import Derived.Deep.AppendLies
namespace Go.Proofs.YtfdghlpkioednaaDoor
open Go.ChangeShapes Go.WideShapes Go.ChangeAt Go.RowKit
set_option linter.unusedVariables false

/-- A slice, written plainly. -/
structure Sl where
  a : Option Addr
  n : Nat
  cap : Nat
abbrev Sl.v (s : Sl) : Value := .slice s.a s.n s.cap
abbrev nilS : Sl := ⟨none, 0, 0⟩
/-- A slice of things of so many cells reads as these cells. -/
structure Reads (W : World) (s : Sl) (size : Nat) (vs : List Value) : Prop where
  len : vs.length = s.n * size
  room : s.n ≤ s.cap ∧ s.cap ≤ maxLen
  nil : s.a = none → s.n = 0 ∧ s.cap = 0
  form : s.n = 0 ∨ ∃ b off, s.a = some ⟨b, off, none⟩ ∧ ∀ j u, vs[j]? = some u → W.cell? ⟨b, off + j, none⟩ = some u
theorem Reads.agree {W V : World} {s : Sl} {size : Nat} {vs : List Value} (h : Reads W s size vs) (hv : ∀ k, k < W.heap.size → s.v.ownBlock = some k → V.heap[k]? = W.heap[k]?) : Reads V s size vs := by
  refine ⟨h.len, h.room, h.nil, h.form.imp id ?_⟩
  rintro ⟨b, off, e, hc⟩
  refine ⟨b, off, e, fun j u hu => ?_⟩
  have := hc j u hu
  rw [World.cell?_of_block (a := ⟨b, off + j, none⟩) (hv b (World.block_lt_of_cell? W _ this) (by rw [Sl.v, e]; rfl))]
  exact this
theorem Reads.below {W V : World} {s : Sl} {size : Nat} {vs : List Value} (h : Reads W s size vs) (b : Below W.heap.size W V) : Reads V s size vs := h.agree fun k hk _ => b.block k hk
theorem Reads.none_ (W : World) (size : Nat) : Reads W nilS size [] := ⟨by simp, ⟨Nat.le_refl _, by simp [maxLen]⟩, fun _ => ⟨rfl, rfl⟩, .inl rfl⟩
theorem Reads.of_own {W : World} {base : Nat} {e : TypeId} {size : Nat} {s : Sl} {n : Nat} {vs : List Value} (h : W.ownsRow base e size s.v n vs) : Reads W s size vs ∧ s.n = n := by
  obtain ⟨h1, h2⟩ := h
  rcases h2 with ⟨he, rfl⟩ | ⟨g, cap, cur, he, hb, hg, hc, hm, hs, ht⟩
  · obtain ⟨a, n, cap⟩ := s
    simp only [Sl.v, Value.slice.injEq] at he
    obtain ⟨rfl, rfl, rfl⟩ := he
    refine ⟨⟨by simpa using h1, ⟨Nat.le_refl _, by simp [maxLen]⟩, fun _ => ⟨rfl, rfl⟩, .inl rfl⟩, rfl⟩
  · obtain ⟨a, n', cap'⟩ := s
    simp only [Sl.v, Value.slice.injEq] at he
    obtain ⟨rfl, rfl, rfl⟩ := he
    refine ⟨⟨h1, ⟨hc, hm⟩, (by intro e; cases e), .inr ⟨g, 0, rfl, fun j u hj => ?_⟩⟩, rfl⟩
    rw [cell_of_row W g _ cur e (0, 0) hg, Nat.zero_add]
    have := (List.getElem?_eq_some_iff.1 hj).1
    have : j < n' * size := by omega
    rw [← ht, List.getElem?_take, if_pos this] at hj
    simpa using hj
/-- The cell at a place. -/
theorem Reads.cell {W : World} {s : Sl} {size : Nat} {vs : List Value} (h : Reads W s size vs) (j : Nat) (u : Value) (hj : vs[j]? = some u) : ∃ b off, s.a = some ⟨b, off, none⟩ ∧ W.cell? ⟨b, off + j, none⟩ = some u := by
  rcases h.form with h0 | ⟨b, off, e, hc⟩
  · have := h.len
    rw [h0] at this
    have hl := (List.getElem?_eq_some_iff.1 hj).1
    omega
  · exact ⟨b, off, e, hc j u hj⟩
/-- Where a slice that has things lies. -/
theorem Reads.at_ {W : World} {s : Sl} {size : Nat} {vs : List Value} (h : Reads W s size vs) (hn : 0 < s.n) : ∃ b off, s.a = some ⟨b, off, none⟩ ∧ ∀ j u, vs[j]? = some u → W.cell? ⟨b, off + j, none⟩ = some u := by
  rcases h.form with h0 | h
  · omega
  · exact h
theorem row_agree {W W' : World} {base : Nat} {e : TypeId} {size n : Nat} {v : Value} {xs : List Value} (h : W.ownsRow base e size v n xs) (hk : ∀ k, v.ownBlock = some k → W'.heap[k]? = W.heap[k]?) : W'.ownsRow base e size v n xs := by
  refine ⟨h.1, ?_⟩
  rcases h.2 with h | ⟨g, cap, cur, rfl, hb, hg, r⟩
  · exact .inl h
  · exact .inr ⟨g, cap, cur, rfl, hb, (hk g rfl).trans hg, r⟩
/-- A row's block is of its own type. -/
theorem row_type {W : World} {base : Nat} {e : TypeId} {size n : Nat} {v : Value} {xs : List Value} (h : W.ownsRow base e size v n xs) {k : Nat} (hk : v.ownBlock = some k) : ∃ cur, W.heap[k]? = some (.cells cur e (0, 0)) := by
  rcases h.2 with ⟨rfl, _⟩ | ⟨g, cap, cur, rfl, hb, hg, r⟩
  · cases hk
  · obtain rfl : g = k := by simpa [Value.ownBlock] using hk
    exact ⟨cur, hg⟩
theorem row_not {W : World} {base : Nat} {e : TypeId} {size n : Nat} {v : Value} {xs : List Value} (h : W.ownsRow base e size v n xs) {B : Nat} {t : TypeId} {cs : Array Value} (hB : Blk W B t cs) (ht : e ≠ t) : v.ownBlock ≠ some B := by
  intro hk
  obtain ⟨cur, hc⟩ := row_type h hk
  unfold Blk at hB
  rw [hB] at hc
  simp only [Option.some.injEq, Obj.cells.injEq] at hc
  exact ht hc.2.1.symm

/-- Of the blocks that lay in W those of O alone may have turned in W'. -/
structure Keeps (O : Nat → Prop) (W W' : World) : Prop where
  os : W'.os = W.os
  tape : W'.tape = W.tape
  output : W'.output = W.output
  size : W.heap.size ≤ W'.heap.size
  block : ∀ k, k < W.heap.size → ¬ O k → W'.heap[k]? = W.heap[k]?

/-- What is owned later was owned before, or is new. -/
def Later (O : Nat → Prop) (W : World) (O' : Nat → Prop) : Prop := ∀ k, O' k → O k ∨ W.heap.size ≤ k

theorem Keeps.refl (O : Nat → Prop) (W : World) : Keeps O W W := ⟨rfl, rfl, rfl, Nat.le_refl _, fun _ _ _ => rfl⟩
theorem Keeps.trans {O O' : Nat → Prop} {A B C : World} (h : Keeps O A B) (k : Keeps O' B C) (hO : Later O A O') : Keeps O A C :=
  ⟨k.os.trans h.os, k.tape.trans h.tape, k.output.trans h.output, Nat.le_trans h.size k.size, fun i hi hn =>
    (k.block i (Nat.lt_of_lt_of_le hi h.size) (fun ho => (hO i ho).elim hn (by omega))).trans (h.block i hi hn)⟩
theorem Keeps.mono {O O' : Nat → Prop} {A B : World} (h : Keeps O A B) (hO : Later O' A O) : Keeps O' A B :=
  ⟨h.os, h.tape, h.output, h.size, fun i hi hn => h.block i hi (fun ho => (hO i ho).elim hn (by omega))⟩
theorem Keeps.alloc {O : Nat → Prop} {A W : World} (h : Keeps O A W) (o : Obj) : Keeps O A (W.alloc o) :=
  ⟨h.os, h.tape, h.output, by have := h.size; simp; omega, fun k hk hn => (Below.heap_alloc _ _ _ (by have := h.size; omega)).trans (h.block k hk hn)⟩
theorem Keeps.setCell {O : Nat → Prop} {A W : World} (h : Keeps O A W) {p : Addr} (hp : O p.block ∨ A.heap.size ≤ p.block) (u : Value) : Keeps O A (W.setCell p u) :=
  ⟨h.os, h.tape, h.output, by have := h.size; simp [World.setCell]; omega, fun k hk hn => (Below.heap_setCell _ _ _ _ (fun e => by
    subst e; rcases hp with hp | hp; exact hn hp; omega)).trans (h.block k hk hn)⟩
theorem Keeps.drew {O : Nat → Prop} {A W : World} (h : Keeps O A W) : Keeps O A W.drew := ⟨h.os, h.tape, h.output, h.size, h.block⟩
theorem Keeps.grown {O : Nat → Prop} {A W W' : World} {row : Option Nat} (h : Keeps O A W) (hg : W.grownBy W' row) (hr : ∀ k, row = some k → O k ∨ A.heap.size ≤ k) : Keeps O A W' :=
  ⟨hg.os.trans h.os, hg.tape.trans h.tape, hg.output.trans h.output, Nat.le_trans h.size hg.size, fun k hk hn =>
    (hg.block k (Nat.lt_of_lt_of_le hk h.size) (fun e => (hr k e.symm).elim hn (by omega))).trans (h.block k hk hn)⟩
theorem Keeps.below {O : Nat → Prop} {A W : World} (h : Keeps O A W) {B : Nat} (hB : B ≤ A.heap.size) (hO : ∀ k, O k → B ≤ k) : Below B A W :=
  ⟨h.os, h.tape, h.output, h.size, fun k hk => h.block k (by omega) (fun ho => by have := hO k ho; omega)⟩
theorem Keeps.of_below {O : Nat → Prop} {A W : World} (h : Below A.heap.size A W) : Keeps O A W :=
  ⟨h.os, h.tape, h.output, h.size, fun k hk _ => h.block k hk⟩
theorem Later.refl (O : Nat → Prop) (W : World) : Later O W O := fun _ h => .inl h
theorem Later.trans {O O' O'' : Nat → Prop} {A B : World} (h : Later O A O') (hs : A.heap.size ≤ B.heap.size) (k : Later O' B O'') : Later O A O'' := fun i hi => by
  rcases k i hi with h1 | h1
  · exact h i h1
  · exact .inr (by omega)

theorem Later.no {O O' : Nat → Prop} {W : World} (h : Later O W O') {k : Nat} (hk : k < W.heap.size) (hn : ¬ O k) : ¬ O' k := fun ho => (h k ho).elim hn (by omega)
theorem Later.wide {O O' : Nat → Prop} {W : World} (h : Later O W O') (X : Nat → Prop) : Later (fun k => O k ∨ X k) W (fun k => O' k ∨ X k) := fun k hk => by
  rcases hk with hk | hk
  · exact (h k hk).elim (fun h => .inl (.inl h)) .inr
  · exact .inl (.inr hk)



theorem box1 {w : World} (o : Obj) : Below w.heap.size w (w.alloc o) := (Below.refl _ _).alloc (Nat.le_refl _) _
theorem below_th {n : Nat} {w W w1 : World} (h0 : Below n w W) (hb : Below W.heap.size W w1) (hn : n ≤ w.heap.size) : Below n w w1 :=
  h0.trans (hb.mono (Nat.le_trans hn h0.size))
/-! ### lists of events, and of operations -/
abbrev Ev.v (e : Ev) : Value := .agg #[.int .i64 e.t, .bool e.b, .int .i64 e.c.op, .int .u32 e.c.key, .int .u32 e.c.val, .int .i64 e.a.op, .int .u32 e.a.key, .int .u32 e.a.val]
abbrev Ev.cs (e : Ev) : Array Value := #[.int .i64 e.t, .bool e.b, .int .i64 e.c.op, .int .u32 e.c.key, .int .u32 e.c.val, .int .i64 e.a.op, .int .u32 e.a.key, .int .u32 e.a.val]
abbrev Opr.v (o : Opr) : Value := .agg #[.int .i64 o.t, .int .i64 o.c.op, .int .u32 o.c.key, .int .u32 o.c.val, .int .i64 o.a.op, .int .u32 o.a.key, .int .u32 o.a.val, .int .i64 o.f, .int .i64 o.o]
abbrev Opr.cs (o : Opr) : Array Value := #[.int .i64 o.t, .int .i64 o.c.op, .int .u32 o.c.key, .int .u32 o.c.val, .int .i64 o.a.op, .int .u32 o.a.key, .int .u32 o.a.val, .int .i64 o.f, .int .i64 o.o]
def encE (l : List Ev) : List Value := l.flatMap fun e => e.cs.toList
def encO (l : List Opr) : List Value := l.flatMap fun e => e.cs.toList
theorem flat_len {α : Type} {f : α → List Value} {m : Nat} (hf : ∀ x, (f x).length = m) : ∀ l : List α, (l.flatMap f).length = l.length * m
  | [] => by simp
  | x :: l => by
    rw [List.flatMap_cons, List.length_append, hf, flat_len hf l, List.length_cons, Nat.add_mul]
    omega
theorem flat_get {α : Type} {f : α → List Value} {m : Nat} (hf : ∀ x, (f x).length = m) : ∀ (l : List α) (j : Nat) (x : α) (_ : l[j]? = some x) (i : Nat) (_ : i < m), (l.flatMap f)[j * m + i]? = (f x)[i]?
  | [], j, x, h, _, _ => by simp at h
  | y :: l, 0, x, h, i, hi => by
    obtain rfl : y = x := by simpa using h
    rw [List.flatMap_cons, List.getElem?_append_left (by rw [hf]; omega), Nat.zero_mul, Nat.zero_add]
  | y :: l, j + 1, x, h, i, hi => by
    have e : (j + 1) * m + i = m + (j * m + i) := by rw [Nat.add_mul]; omega
    rw [List.flatMap_cons, List.getElem?_append_right (by rw [hf, e]; omega), hf, e, Nat.add_sub_cancel_left]
    exact flat_get hf l j x (by simpa using h) i hi
theorem flat_set {α : Type} {f : α → List Value} {m : Nat} (hf : ∀ x, (f x).length = m) : ∀ (l : List α) (j : Nat) (x : α) (_ : j < l.length) (p : Nat),
    ((l.set j x).flatMap f)[p]? = if j * m ≤ p ∧ p < j * m + m then (f x)[p - j * m]? else (l.flatMap f)[p]?
  | [], j, x, h, _ => by simp at h
  | y :: l, 0, x, h, p => by
    simp only [List.set_cons_zero, List.flatMap_cons, Nat.zero_mul, Nat.zero_add, Nat.zero_le, true_and, Nat.sub_zero]
    split
    · rename_i hp
      rw [List.getElem?_append_left (by rw [hf]; exact hp)]
    · rename_i hp
      rw [List.getElem?_append_right (by rw [hf]; omega), List.getElem?_append_right (by rw [hf]; omega), hf, hf]
  | y :: l, j + 1, x, h, p => by
    have e : (j + 1) * m = m + j * m := by rw [Nat.add_mul]; omega
    simp only [List.set_cons_succ, List.flatMap_cons]
    rcases Nat.lt_or_ge p m with hp | hp
    · rw [List.getElem?_append_left (by rw [hf]; exact hp), List.getElem?_append_left (by rw [hf]; exact hp), if_neg (by omega)]
    · rw [List.getElem?_append_right (by rw [hf]; exact hp), List.getElem?_append_right (by rw [hf]; exact hp), hf, flat_set hf l j x (by simpa using h) (p - m), e]
      by_cases hc : j * m ≤ p - m ∧ p - m < j * m + m
      · rw [if_pos hc, if_pos (by omega), Nat.sub_sub]
      · rw [if_neg hc, if_neg (by omega)]
theorem encE_len (l : List Ev) : (encE l).length = l.length * 8 := flat_len (f := fun e : Ev => e.cs.toList) (m := 8) (fun _ => rfl) l
theorem encO_len (l : List Opr) : (encO l).length = l.length * 9 := flat_len (f := fun e : Opr => e.cs.toList) (m := 9) (fun _ => rfl) l
theorem encE_snoc (l : List Ev) (e : Ev) : encE (l ++ [e]) = encE l ++ e.cs.toList := by simp [encE]
theorem encO_snoc (l : List Opr) (e : Opr) : encO (l ++ [e]) = encO l ++ e.cs.toList := by simp [encO]
theorem Reads.lenE {W : World} {s : Sl} {l : List Ev} (h : Reads W s 8 (encE l)) : s.n = l.length := by
  have := h.len
  rw [encE_len] at this
  omega
theorem Reads.lenO {W : World} {s : Sl} {l : List Opr} (h : Reads W s 9 (encO l)) : s.n = l.length := by
  have := h.len
  rw [encO_len] at this
  omega
/-- The cells of one event. -/
structure EvAt (W : World) (b o : Nat) (e : Ev) : Prop where
  x0 : W.cell? ⟨b, o, none⟩ = some (.int .i64 e.t)
  x1 : W.cell? ⟨b, o + 1, none⟩ = some (.bool e.b)
  x2 : W.cell? ⟨b, o + 2, none⟩ = some (.int .i64 e.c.op)
  x3 : W.cell? ⟨b, o + 3, none⟩ = some (.int .u32 e.c.key)
  x4 : W.cell? ⟨b, o + 4, none⟩ = some (.int .u32 e.c.val)
  x5 : W.cell? ⟨b, o + 5, none⟩ = some (.int .i64 e.a.op)
  x6 : W.cell? ⟨b, o + 6, none⟩ = some (.int .u32 e.a.key)
  x7 : W.cell? ⟨b, o + 7, none⟩ = some (.int .u32 e.a.val)
/-- The cells of one operation. -/
structure OpAt (W : World) (b o : Nat) (e : Opr) : Prop where
  x0 : W.cell? ⟨b, o, none⟩ = some (.int .i64 e.t)
  x1 : W.cell? ⟨b, o + 1, none⟩ = some (.int .i64 e.c.op)
  x2 : W.cell? ⟨b, o + 2, none⟩ = some (.int .u32 e.c.key)
  x3 : W.cell? ⟨b, o + 3, none⟩ = some (.int .u32 e.c.val)
  x4 : W.cell? ⟨b, o + 4, none⟩ = some (.int .i64 e.a.op)
  x5 : W.cell? ⟨b, o + 5, none⟩ = some (.int .u32 e.a.key)
  x6 : W.cell? ⟨b, o + 6, none⟩ = some (.int .u32 e.a.val)
  x7 : W.cell? ⟨b, o + 7, none⟩ = some (.int .i64 e.f)
  x8 : W.cell? ⟨b, o + 8, none⟩ = some (.int .i64 e.o)
theorem Blk.ev {W : World} {g : Nat} {t : TypeId} {e : Ev} (h : Blk W g t e.cs) : EvAt W g 0 e :=
  ⟨by rw [h.cell]; rfl, by rw [h.cell]; rfl, by rw [h.cell]; rfl, by rw [h.cell]; rfl, by rw [h.cell]; rfl, by rw [h.cell]; rfl, by rw [h.cell]; rfl, by rw [h.cell]; rfl⟩
theorem Blk.opr {W : World} {g : Nat} {t : TypeId} {e : Opr} (h : Blk W g t e.cs) : OpAt W g 0 e :=
  ⟨by rw [h.cell]; rfl, by rw [h.cell]; rfl, by rw [h.cell]; rfl, by rw [h.cell]; rfl, by rw [h.cell]; rfl, by rw [h.cell]; rfl, by rw [h.cell]; rfl, by rw [h.cell]; rfl, by rw [h.cell]; rfl⟩
theorem Reads.ev {W : World} {y : Sl} {l : List Ev} (h : Reads W y 8 (encE l)) {k : Nat} (hk : k < l.length) : ∃ b off, y.a = some ⟨b, off, none⟩ ∧ EvAt W b (off + k * 8) (ith l k) := by
  have hc := ith_lt hk
  have hn := h.lenE
  obtain ⟨b, off, ea, hcell⟩ := h.at_ (by omega)
  have key := fun i hi u (hu : (ith l k).cs.toList[i]? = some u) => hcell (k * 8 + i) u ((flat_get (f := fun e : Ev => e.cs.toList) (m := 8) (fun _ => rfl) l k _ hc i hi).trans hu)
  have a0 := key 0 (by omega) _ rfl
  have a1 := key 1 (by omega) _ rfl
  have a2 := key 2 (by omega) _ rfl
  have a3 := key 3 (by omega) _ rfl
  have a4 := key 4 (by omega) _ rfl
  have a5 := key 5 (by omega) _ rfl
  have a6 := key 6 (by omega) _ rfl
  have a7 := key 7 (by omega) _ rfl
  simp only [← Nat.add_assoc, Nat.add_zero] at a0 a1 a2 a3 a4 a5 a6 a7
  exact ⟨b, off, ea, a0, a1, a2, a3, a4, a5, a6, a7⟩
theorem Reads.opr {W : World} {y : Sl} {l : List Opr} (h : Reads W y 9 (encO l)) {k : Nat} {o : Opr} (hk : l[k]? = some o) : ∃ b off, y.a = some ⟨b, off, none⟩ ∧ OpAt W b (off + k * 9) o := by
  have hl := (List.getElem?_eq_some_iff.1 hk).1
  have hn := h.lenO
  obtain ⟨b, off, ea, hcell⟩ := h.at_ (by omega)
  have key := fun i hi u (hu : o.cs.toList[i]? = some u) => hcell (k * 9 + i) u ((flat_get (f := fun e : Opr => e.cs.toList) (m := 9) (fun _ => rfl) l k _ hk i hi).trans hu)
  have a0 := key 0 (by omega) _ rfl
  have a1 := key 1 (by omega) _ rfl
  have a2 := key 2 (by omega) _ rfl
  have a3 := key 3 (by omega) _ rfl
  have a4 := key 4 (by omega) _ rfl
  have a5 := key 5 (by omega) _ rfl
  have a6 := key 6 (by omega) _ rfl
  have a7 := key 7 (by omega) _ rfl
  have a8 := key 8 (by omega) _ rfl
  simp only [← Nat.add_assoc, Nat.add_zero] at a0 a1 a2 a3 a4 a5 a6 a7 a8
  exact ⟨b, off, ea, a0, a1, a2, a3, a4, a5, a6, a7, a8⟩

/-! ### the map of who is busy -/
/-- How a call in the map reads. -/
def triD (c : Tri) : DataW Unit := .agg [.lit (.int .i64 c.op), .lit (.int .u32 c.key), .lit (.int .u32 c.val)]
def triElem : Value → Option (DataW Unit × List MemPlace)
  | .agg cs => match cs.toList with
    | [.int .i64 o, .int .u32 k, .int .u32 v] => some (triD ⟨o, k, v⟩, [])
    | _ => none
  | _ => none
theorem triElem_mk (c : Tri) : triElem c.v = some (triD c, []) := rfl
theorem triElem_inv {v : Value} {c : Tri} {ps : List MemPlace} (h : triElem v = some (triD c, ps)) : v = c.v := by
  unfold triElem at h
  split at h
  · rename_i cs
    split at h
    · rename_i o k x hq
      obtain ⟨c1, c2, c3⟩ := c
      obtain ⟨l⟩ := cs
      simp only at hq
      simp [triD] at h
      obtain ⟨⟨rfl, rfl, rfl⟩, _⟩ := h
      rw [hq]
    · cases h
  · cases h
abbrev I64 (t : Int) : Prop := -9223372036854775808 ≤ t ∧ t ≤ 9223372036854775807
theorem key_of {t : Int} (h : I64 t) : keyOf Tryd.prog 3 (.int .i64 t) = some (.int .i64 t) := by
  have hw : (Lit.int .i64 t).wf = true := by
    simp [Lit.wf, IntKind.min, IntKind.max, IntKind.signed, IntKind.bits]
    exact h
  exact Maps.keyOf_int_mk Tryd.underlying3 hw
/-- Block g of W is a map of at most n entries: who is busy, and with what. -/
def MapAt (W : World) (g n : Nat) (f : Int → Option Tri) : Prop :=
  ∃ D : DataW Unit, W.ownsMap Tryd.prog 3 triElem g n D ∧ ∀ t, I64 t → Maps.has D (.int .i64 t) = (f t).isSome ∧ ∀ c, f t = some c → ∀ z, D.atKey (.int .i64 t) z = triD c
theorem kd3 : Maps.Keyed Tryd.prog 3 := Maps.int_keyed Tryd.underlying3
theorem MapAt.lt {W : World} {g n : Nat} {f : Int → Option Tri} (h : MapAt W g n f) : g < W.heap.size := by
  obtain ⟨D, h, _⟩ := h
  exact h.lt
theorem MapAt.agree {W W' : World} {g n : Nat} {f : Int → Option Tri} (h : MapAt W g n f) (hk : W'.heap[g]? = W.heap[g]?) : MapAt W' g n f := by
  obtain ⟨D, ⟨es, clock, hb, r⟩, h2⟩ := h
  exact ⟨D, ⟨es, clock, hk.trans hb, r⟩, h2⟩
theorem MapAt.mono {W : World} {g n n' : Nat} {f : Int → Option Tri} (h : MapAt W g n f) (hn : n ≤ n') : MapAt W g n' f := by
  obtain ⟨D, h, h2⟩ := h
  exact ⟨D, h.mono hn, h2⟩
theorem MapAt.below {W W' : World} {g n : Nat} {f : Int → Option Tri} (h : MapAt W g n f) (hb : Below W.heap.size W W') : MapAt W' g n f := h.agree (hb.block g h.lt)
theorem MapAt.congr {W : World} {g n : Nat} {f f' : Int → Option Tri} (h : MapAt W g n f) (hf : ∀ t, f t = f' t) : MapAt W g n f' := by
  obtain rfl : f = f' := funext hf
  exact h
theorem MapAt.made (w : World) : MapAt (w.alloc (.map #[] 0)) w.heap.size 0 (fun _ => none) :=
  ⟨.map [], World.ownsMap_made w _ _ _, fun t _ => ⟨rfl, fun c h => by cases h⟩⟩
theorem zero30 (w : World) : (zeroValue 30).run Tryd.prog w = .ok zt.v w := by
  have := Tryd.zeroValue30
  simp [this]
/-- 'c, ok := b[t]'. -/
theorem MapAt.look {W : World} {g n : Nat} {f : Int → Option Tri} (h : MapAt W g n f) {t : Int} (ht : I64 t) :
    (Instr.lookup 25 (.map (some g)) (.int .i64 t) true).run Tryd.prog W = .ok (.tuple #[((f t).getD zt).v, .bool (f t).isSome]) W := by
  obtain ⟨D, h, h2⟩ := h
  obtain ⟨v, ps, hrun, hv⟩ := h.look_ok kd3 Tryd.underlying25 (zero30 W) (triElem_mk zt) (key_of ht)
  obtain ⟨h3, h4⟩ := h2 t ht
  rw [h3] at hrun
  cases hf : f t with
  | none =>
    rw [hf] at h3 hrun
    rw [Maps.atKey_of_not_has h3] at hv
    rw [triElem_inv hv] at hrun
    exact hrun
  | some c =>
    rw [hf] at hrun
    rw [h4 c hf] at hv
    rw [triElem_inv hv] at hrun
    exact hrun
theorem look_nil {W : World} {t : Int} (ht : I64 t) : (Instr.lookup 25 (.map none) (.int .i64 t) true).run Tryd.prog W = .ok (.tuple #[zt.v, .bool false]) W :=
  Maps.look_nil true kd3 Tryd.underlying25 (zero30 W) (key_of ht)
theorem lit_ne {t t' : Int} (h : t ≠ t') : (Lit.int .i64 t' : Lit) ≠ .int .i64 t := fun e => by
  cases e
  exact h rfl
/-- 'b[t] = c'. -/
theorem MapAt.put {W : World} {g n : Nat} {f : Int → Option Tri} (h : MapAt W g n f) {t : Int} (ht : I64 t) (c : Tri) (hn : n < maxLen) :
    ∃ w', (Instr.mapUpdate 25 (.map (some g)) (.int .i64 t) c.v).run Tryd.prog W = .ok () w' ∧ MapAt w' g (n + 1) (fun x => if t = x then some c else f x) ∧ W.mapTurned w' g := by
  obtain ⟨D, h, h2⟩ := h
  obtain ⟨w', hrun, h3, h4⟩ := h.store kd3 Tryd.underlying25 hn (key_of ht) (triElem_mk c)
  refine ⟨w', hrun, ⟨_, h3, fun x hx => ?_⟩, h4⟩
  by_cases e : t = x
  · subst e
    simp only [if_true]
    refine ⟨Maps.has_put_same h.isMap (by trivial) _, fun c' hc z => ?_⟩
    obtain rfl := Option.some.inj hc
    exact Maps.atKey_put_same h.isMap (by trivial) _ _
  · simp only [if_neg e]
    refine ⟨(Maps.has_put_other (lit_ne e) _).trans (h2 x hx).1, fun c' hc z => ?_⟩
    exact (Maps.atKey_put_other (lit_ne e) _ _).trans ((h2 x hx).2 c' hc z)
/-- 'delete(b, t)'. -/
theorem MapAt.drop {W : World} {g n : Nat} {f : Int → Option Tri} (h : MapAt W g n f) {t : Int} (ht : I64 t) (ty : TypeId) :
    ∃ w', (Builtin.delete_ #[25, 3] ty #[.map (some g), .int .i64 t]).run Tryd.prog W = .ok (.tuple #[]) w' ∧ MapAt w' g n (fun x => if t = x then none else f x) ∧ W.mapTurned w' g := by
  obtain ⟨D, h, h2⟩ := h
  obtain ⟨w', hrun, h3, h4⟩ := h.drop kd3 Tryd.underlying25 (key_of ht) ty
  refine ⟨w', hrun, ⟨_, h3, fun x hx => ?_⟩, h4⟩
  by_cases e : t = x
  · subst e
    simp only [if_true]
    exact ⟨Maps.has_del_same, fun c' hc z => by cases hc⟩
  · simp only [if_neg e]
    refine ⟨(Maps.has_del_other (lit_ne e)).trans (h2 x hx).1, fun c' hc z => ?_⟩
    exact (Maps.atKey_del_other (lit_ne e) _).trans ((h2 x hx).2 c' hc z)
end Go.Proofs.YtfdghlpkioednaaDoor
