/- Slices that read as lists; lists of operations. -/
import Derived.Test.YtmjbccimijnceaaBase
import Derived.Maps.AppendAt
namespace Go.Proofs.Ytmjbccimijnceaa
open Go.ChangeShapes Go.WideShapes Go.ChangeAt Go.RowKit
set_option linter.unusedVariables false

/-- A slice, written plainly. -/
structure Sl where
  a : Option Addr
  n : Nat
  cap : Nat
abbrev Sl.v (s : Sl) : Value := .slice s.a s.n s.cap
abbrev nilS : Sl := ⟨none, 0, 0⟩
/-- A slice of things of so many cells reads as these cells. -/
structure Reads (W : World) (s : Sl) (size : Nat) (vs : List Value) : Prop where
  len : vs.length = s.n * size
  room : s.n ≤ s.cap ∧ s.cap ≤ maxLen
  nil : s.a = none → s.n = 0 ∧ s.cap = 0
  form : s.n = 0 ∨ ∃ b off, s.a = some ⟨b, off, none⟩ ∧ ∀ j u, vs[j]? = some u → W.cell? ⟨b, off + j, none⟩ = some u
theorem Reads.agree {W V : World} {s : Sl} {size : Nat} {vs : List Value} (h : Reads W s size vs) (hv : ∀ k, k < W.heap.size → s.v.ownBlock = some k → V.heap[k]? = W.heap[k]?) : Reads V s size vs := by
  refine ⟨h.len, h.room, h.nil, h.form.imp id ?_⟩
  rintro ⟨b, off, e, hc⟩
  refine ⟨b, off, e, fun j u hu => ?_⟩
  have := hc j u hu
  rw [World.cell?_of_block (a := ⟨b, off + j, none⟩) (hv b (World.block_lt_of_cell? W _ this) (by rw [Sl.v, e]; rfl))]
  exact this
theorem Reads.below {W V : World} {s : Sl} {size : Nat} {vs : List Value} (h : Reads W s size vs) (b : Below W.heap.size W V) : Reads V s size vs := h.agree fun k hk _ => b.block k hk
theorem Reads.none_ (W : World) (size : Nat) : Reads W nilS size [] := ⟨by simp, ⟨Nat.le_refl _, by simp [maxLen]⟩, fun _ => ⟨rfl, rfl⟩, .inl rfl⟩
theorem Reads.of_own {W : World} {base : Nat} {e : TypeId} {size : Nat} {s : Sl} {n : Nat} {vs : List Value} (h : W.ownsRow base e size s.v n vs) : Reads W s size vs ∧ s.n = n := by
  obtain ⟨h1, h2⟩ := h
  rcases h2 with ⟨he, rfl⟩ | ⟨g, cap, cur, he, hb, hg, hc, hm, hs, ht⟩
  · obtain ⟨a, n, cap⟩ := s
    simp only [Sl.v, Value.slice.injEq] at he
    obtain ⟨rfl, rfl, rfl⟩ := he
    refine ⟨⟨by simpa using h1, ⟨Nat.le_refl _, by simp [maxLen]⟩, fun _ => ⟨rfl, rfl⟩, .inl rfl⟩, rfl⟩
  · obtain ⟨a, n', cap'⟩ := s
    simp only [Sl.v, Value.slice.injEq] at he
    obtain ⟨rfl, rfl, rfl⟩ := he
    refine ⟨⟨h1, ⟨hc, hm⟩, (by intro e; cases e), .inr ⟨g, 0, rfl, fun j u hj => ?_⟩⟩, rfl⟩
    rw [cell_of_row W g _ cur e (0, 0) hg, Nat.zero_add]
    have := (List.getElem?_eq_some_iff.1 hj).1
    have : j < n' * size := by omega
    rw [← ht, List.getElem?_take, if_pos this] at hj
    simpa using hj
/-- The cell at a place. -/
theorem Reads.cell {W : World} {s : Sl} {size : Nat} {vs : List Value} (h : Reads W s size vs) (j : Nat) (u : Value) (hj : vs[j]? = some u) : ∃ b off, s.a = some ⟨b, off, none⟩ ∧ W.cell? ⟨b, off + j, none⟩ = some u := by
  rcases h.form with h0 | ⟨b, off, e, hc⟩
  · have := h.len
    rw [h0] at this
    have hl := (List.getElem?_eq_some_iff.1 hj).1
    omega
  · exact ⟨b, off, e, hc j u hj⟩
/-- Where a slice that has things lies. -/
theorem Reads.at_ {W : World} {s : Sl} {size : Nat} {vs : List Value} (h : Reads W s size vs) (hn : 0 < s.n) : ∃ b off, s.a = some ⟨b, off, none⟩ ∧ ∀ j u, vs[j]? = some u → W.cell? ⟨b, off + j, none⟩ = some u := by
  rcases h.form with h0 | h
  · omega
  · exact h
theorem row_agree {W W' : World} {base : Nat} {e : TypeId} {size n : Nat} {v : Value} {xs : List Value} (h : W.ownsRow base e size v n xs) (hk : ∀ k, v.ownBlock = some k → W'.heap[k]? = W.heap[k]?) : W'.ownsRow base e size v n xs := by
  refine ⟨h.1, ?_⟩
  rcases h.2 with h | ⟨g, cap, cur, rfl, hb, hg, r⟩
  · exact .inl h
  · exact .inr ⟨g, cap, cur, rfl, hb, (hk g rfl).trans hg, r⟩
/-- A row's block is of its own type. -/
theorem row_type {W : World} {base : Nat} {e : TypeId} {size n : Nat} {v : Value} {xs : List Value} (h : W.ownsRow base e size v n xs) {k : Nat} (hk : v.ownBlock = some k) : ∃ cur, W.heap[k]? = some (.cells cur e (0, 0)) := by
  rcases h.2 with ⟨rfl, _⟩ | ⟨g, cap, cur, rfl, hb, hg, r⟩
  · cases hk
  · obtain rfl : g = k := by simpa [Value.ownBlock] using hk
    exact ⟨cur, hg⟩
theorem row_not {W : World} {base : Nat} {e : TypeId} {size n : Nat} {v : Value} {xs : List Value} (h : W.ownsRow base e size v n xs) {B : Nat} {t : TypeId} {cs : Array Value} (hB : Blk W B t cs) (ht : e ≠ t) : v.ownBlock ≠ some B := by
  intro hk
  obtain ⟨cur, hc⟩ := row_type h hk
  unfold Blk at hB
  rw [hB] at hc
  simp only [Option.some.injEq, Obj.cells.injEq] at hc
  exact ht hc.2.1.symm

theorem box1 {w : World} (o : Obj) : Below w.heap.size w (w.alloc o) := (Below.refl _ _).alloc (Nat.le_refl _) _
theorem below_th {n : Nat} {w W w1 : World} (h0 : Below n w W) (hb : Below W.heap.size W w1) (hn : n ≤ w.heap.size) : Below n w w1 :=
  h0.trans (hb.mono (Nat.le_trans hn h0.size))
/-! ### lists of events, and of operations -/
abbrev Opr.v (o : Opr) : Value := .agg #[.int .i64 o.t, .int .i64 o.c.op, .int .u32 o.c.key, .int .u32 o.c.val, .int .i64 o.a.op, .int .u32 o.a.key, .int .u32 o.a.val, .int .i64 o.f, .int .i64 o.o]
abbrev Opr.cs (o : Opr) : Array Value := #[.int .i64 o.t, .int .i64 o.c.op, .int .u32 o.c.key, .int .u32 o.c.val, .int .i64 o.a.op, .int .u32 o.a.key, .int .u32 o.a.val, .int .i64 o.f, .int .i64 o.o]
def encO (l : List Opr) : List Value := l.flatMap fun e => e.cs.toList
theorem flat_len {α : Type} {f : α → List Value} {m : Nat} (hf : ∀ x, (f x).length = m) : ∀ l : List α, (l.flatMap f).length = l.length * m
  | [] => by simp
  | x :: l => by
    rw [List.flatMap_cons, List.length_append, hf, flat_len hf l, List.length_cons, Nat.add_mul]
    omega
theorem flat_get {α : Type} {f : α → List Value} {m : Nat} (hf : ∀ x, (f x).length = m) : ∀ (l : List α) (j : Nat) (x : α) (_ : l[j]? = some x) (i : Nat) (_ : i < m), (l.flatMap f)[j * m + i]? = (f x)[i]?
  | [], j, x, h, _, _ => by simp at h
  | y :: l, 0, x, h, i, hi => by
    obtain rfl : y = x := by simpa using h
    rw [List.flatMap_cons, List.getElem?_append_left (by rw [hf]; omega), Nat.zero_mul, Nat.zero_add]
  | y :: l, j + 1, x, h, i, hi => by
    have e : (j + 1) * m + i = m + (j * m + i) := by rw [Nat.add_mul]; omega
    rw [List.flatMap_cons, List.getElem?_append_right (by rw [hf, e]; omega), hf, e, Nat.add_sub_cancel_left]
    exact flat_get hf l j x (by simpa using h) i hi
theorem flat_set {α : Type} {f : α → List Value} {m : Nat} (hf : ∀ x, (f x).length = m) : ∀ (l : List α) (j : Nat) (x : α) (_ : j < l.length) (p : Nat),
    ((l.set j x).flatMap f)[p]? = if j * m ≤ p ∧ p < j * m + m then (f x)[p - j * m]? else (l.flatMap f)[p]?
  | [], j, x, h, _ => by simp at h
  | y :: l, 0, x, h, p => by
    simp only [List.set_cons_zero, List.flatMap_cons, Nat.zero_mul, Nat.zero_add, Nat.zero_le, true_and, Nat.sub_zero]
    split
    · rename_i hp
      rw [List.getElem?_append_left (by rw [hf]; exact hp)]
    · rename_i hp
      rw [List.getElem?_append_right (by rw [hf]; omega), List.getElem?_append_right (by rw [hf]; omega), hf, hf]
  | y :: l, j + 1, x, h, p => by
    have e : (j + 1) * m = m + j * m := by rw [Nat.add_mul]; omega
    simp only [List.set_cons_succ, List.flatMap_cons]
    rcases Nat.lt_or_ge p m with hp | hp
    · rw [List.getElem?_append_left (by rw [hf]; exact hp), List.getElem?_append_left (by rw [hf]; exact hp), if_neg (by omega)]
    · rw [List.getElem?_append_right (by rw [hf]; exact hp), List.getElem?_append_right (by rw [hf]; exact hp), hf, flat_set hf l j x (by simpa using h) (p - m), e]
      by_cases hc : j * m ≤ p - m ∧ p - m < j * m + m
      · rw [if_pos hc, if_pos (by omega), Nat.sub_sub]
      · rw [if_neg hc, if_neg (by omega)]
theorem encO_len (l : List Opr) : (encO l).length = l.length * 9 := flat_len (f := fun e : Opr => e.cs.toList) (m := 9) (fun _ => rfl) l
theorem encO_snoc (l : List Opr) (e : Opr) : encO (l ++ [e]) = encO l ++ e.cs.toList := by simp [encO]
theorem Reads.lenO {W : World} {s : Sl} {l : List Opr} (h : Reads W s 9 (encO l)) : s.n = l.length := by
  have := h.len
  rw [encO_len] at this
  omega
/-- The cells of one operation. -/
structure OpAt (W : World) (b o : Nat) (e : Opr) : Prop where
  x0 : W.cell? ⟨b, o, none⟩ = some (.int .i64 e.t)
  x1 : W.cell? ⟨b, o + 1, none⟩ = some (.int .i64 e.c.op)
  x2 : W.cell? ⟨b, o + 2, none⟩ = some (.int .u32 e.c.key)
  x3 : W.cell? ⟨b, o + 3, none⟩ = some (.int .u32 e.c.val)
  x4 : W.cell? ⟨b, o + 4, none⟩ = some (.int .i64 e.a.op)
  x5 : W.cell? ⟨b, o + 5, none⟩ = some (.int .u32 e.a.key)
  x6 : W.cell? ⟨b, o + 6, none⟩ = some (.int .u32 e.a.val)
  x7 : W.cell? ⟨b, o + 7, none⟩ = some (.int .i64 e.f)
  x8 : W.cell? ⟨b, o + 8, none⟩ = some (.int .i64 e.o)
theorem Blk.opr {W : World} {g : Nat} {t : TypeId} {e : Opr} (h : Blk W g t e.cs) : OpAt W g 0 e :=
  ⟨by rw [h.cell]; rfl, by rw [h.cell]; rfl, by rw [h.cell]; rfl, by rw [h.cell]; rfl, by rw [h.cell]; rfl, by rw [h.cell]; rfl, by rw [h.cell]; rfl, by rw [h.cell]; rfl, by rw [h.cell]; rfl⟩
theorem Reads.opr {W : World} {y : Sl} {l : List Opr} (h : Reads W y 9 (encO l)) {k : Nat} {o : Opr} (hk : l[k]? = some o) : ∃ b off, y.a = some ⟨b, off, none⟩ ∧ OpAt W b (off + k * 9) o := by
  have hl := (List.getElem?_eq_some_iff.1 hk).1
  have hn := h.lenO
  obtain ⟨b, off, ea, hcell⟩ := h.at_ (by omega)
  have key := fun i hi u (hu : o.cs.toList[i]? = some u) => hcell (k * 9 + i) u ((flat_get (f := fun e : Opr => e.cs.toList) (m := 9) (fun _ => rfl) l k _ hk i hi).trans hu)
  have a0 := key 0 (by omega) _ rfl
  have a1 := key 1 (by omega) _ rfl
  have a2 := key 2 (by omega) _ rfl
  have a3 := key 3 (by omega) _ rfl
  have a4 := key 4 (by omega) _ rfl
  have a5 := key 5 (by omega) _ rfl
  have a6 := key 6 (by omega) _ rfl
  have a7 := key 7 (by omega) _ rfl
  have a8 := key 8 (by omega) _ rfl
  simp only [← Nat.add_assoc, Nat.add_zero] at a0 a1 a2 a3 a4 a5 a6 a7 a8
  exact ⟨b, off, ea, a0, a1, a2, a3, a4, a5, a6, a7, a8⟩

end Go.Proofs.Ytmjbccimijnceaa
