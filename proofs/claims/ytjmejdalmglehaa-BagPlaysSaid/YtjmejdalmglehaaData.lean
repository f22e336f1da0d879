/- Slices that read as lists; what stays of the memory; a row of pairs that is written in place. -/
import Derived.Test.YtjmejdalmglehaaTheory
import Derived.Maps.AppendAt
import Derived.Deep.AppendLies
import Derived.Lib.AppendZerosOnto
import Derived.Lib.SliceRun
import Derived.Lib.Overlaps
import Derived.Laws.IdiomCopy
import Derived.Shelf.RegionOpenPlain
namespace Go.Proofs.Ytjmejdalmglehaa
open Go.ChangeShapes Go.WideShapes Go.ChangeAt Go.RowKit
set_option linter.unusedVariables false

/-- A slice, written plainly. -/
structure Sl where
  a : Option Addr
  n : Nat
  cap : Nat
abbrev Sl.v (s : Sl) : Value := .slice s.a s.n s.cap
abbrev nilS : Sl := ⟨none, 0, 0⟩
/-- A slice of things of so many cells reads as these cells. -/
structure Reads (W : World) (s : Sl) (size : Nat) (vs : List Value) : Prop where
  len : vs.length = s.n * size
  room : s.n ≤ s.cap ∧ s.cap ≤ maxLen
  nil : s.a = none → s.n = 0 ∧ s.cap = 0
  form : s.n = 0 ∨ ∃ b off, s.a = some ⟨b, off, none⟩ ∧ ∀ j u, vs[j]? = some u → W.cell? ⟨b, off + j, none⟩ = some u
theorem Reads.agree {W V : World} {s : Sl} {size : Nat} {vs : List Value} (h : Reads W s size vs) (hv : ∀ k, k < W.heap.size → s.v.ownBlock = some k → V.heap[k]? = W.heap[k]?) : Reads V s size vs := by
  refine ⟨h.len, h.room, h.nil, h.form.imp id ?_⟩
  rintro ⟨b, off, e, hc⟩
  refine ⟨b, off, e, fun j u hu => ?_⟩
  have := hc j u hu
  rw [World.cell?_of_block (a := ⟨b, off + j, none⟩) (hv b (World.block_lt_of_cell? W _ this) (by rw [Sl.v, e]; rfl))]
  exact this
theorem Reads.below {W V : World} {s : Sl} {size : Nat} {vs : List Value} (h : Reads W s size vs) (b : Below W.heap.size W V) : Reads V s size vs := h.agree fun k hk _ => b.block k hk
theorem Reads.none_ (W : World) (size : Nat) : Reads W nilS size [] := ⟨by simp, ⟨Nat.le_refl _, by simp [maxLen]⟩, fun _ => ⟨rfl, rfl⟩, .inl rfl⟩
theorem Reads.of_own {W : World} {base : Nat} {e : TypeId} {size : Nat} {s : Sl} {n : Nat} {vs : List Value} (h : W.ownsRow base e size s.v n vs) : Reads W s size vs ∧ s.n = n := by
  obtain ⟨h1, h2⟩ := h
  rcases h2 with ⟨he, rfl⟩ | ⟨g, cap, cur, he, hb, hg, hc, hm, hs, ht⟩
  · obtain ⟨a, n, cap⟩ := s
    simp only [Sl.v, Value.slice.injEq] at he
    obtain ⟨rfl, rfl, rfl⟩ := he
    refine ⟨⟨by simpa using h1, ⟨Nat.le_refl _, by simp [maxLen]⟩, fun _ => ⟨rfl, rfl⟩, .inl rfl⟩, rfl⟩
  · obtain ⟨a, n', cap'⟩ := s
    simp only [Sl.v, Value.slice.injEq] at he
    obtain ⟨rfl, rfl, rfl⟩ := he
    refine ⟨⟨h1, ⟨hc, hm⟩, (by intro e; cases e), .inr ⟨g, 0, rfl, fun j u hj => ?_⟩⟩, rfl⟩
    rw [cell_of_row W g _ cur e (0, 0) hg, Nat.zero_add]
    have := (List.getElem?_eq_some_iff.1 hj).1
    have : j < n' * size := by omega
    rw [← ht, List.getElem?_take, if_pos this] at hj
    simpa using hj
/-- The cell at a place. -/
theorem Reads.cell {W : World} {s : Sl} {size : Nat} {vs : List Value} (h : Reads W s size vs) (j : Nat) (u : Value) (hj : vs[j]? = some u) : ∃ b off, s.a = some ⟨b, off, none⟩ ∧ W.cell? ⟨b, off + j, none⟩ = some u := by
  rcases h.form with h0 | ⟨b, off, e, hc⟩
  · have := h.len
    rw [h0] at this
    have hl := (List.getElem?_eq_some_iff.1 hj).1
    omega
  · exact ⟨b, off, e, hc j u hj⟩
/-- Where a slice that has things lies. -/
theorem Reads.at_ {W : World} {s : Sl} {size : Nat} {vs : List Value} (h : Reads W s size vs) (hn : 0 < s.n) : ∃ b off, s.a = some ⟨b, off, none⟩ ∧ ∀ j u, vs[j]? = some u → W.cell? ⟨b, off + j, none⟩ = some u := by
  rcases h.form with h0 | h
  · omega
  · exact h
theorem row_agree {W W' : World} {base : Nat} {e : TypeId} {size n : Nat} {v : Value} {xs : List Value} (h : W.ownsRow base e size v n xs) (hk : ∀ k, v.ownBlock = some k → W'.heap[k]? = W.heap[k]?) : W'.ownsRow base e size v n xs := by
  refine ⟨h.1, ?_⟩
  rcases h.2 with h | ⟨g, cap, cur, rfl, hb, hg, r⟩
  · exact .inl h
  · exact .inr ⟨g, cap, cur, rfl, hb, (hk g rfl).trans hg, r⟩
/-- A row's block is of its own type. -/
theorem row_type {W : World} {base : Nat} {e : TypeId} {size n : Nat} {v : Value} {xs : List Value} (h : W.ownsRow base e size v n xs) {k : Nat} (hk : v.ownBlock = some k) : ∃ cur, W.heap[k]? = some (.cells cur e (0, 0)) := by
  rcases h.2 with ⟨rfl, _⟩ | ⟨g, cap, cur, rfl, hb, hg, r⟩
  · cases hk
  · obtain rfl : g = k := by simpa [Value.ownBlock] using hk
    exact ⟨cur, hg⟩
theorem row_not {W : World} {base : Nat} {e : TypeId} {size n : Nat} {v : Value} {xs : List Value} (h : W.ownsRow base e size v n xs) {B : Nat} {t : TypeId} {cs : Array Value} (hB : Blk W B t cs) (ht : e ≠ t) : v.ownBlock ≠ some B := by
  intro hk
  obtain ⟨cur, hc⟩ := row_type h hk
  unfold Blk at hB
  rw [hB] at hc
  simp only [Option.some.injEq, Obj.cells.injEq] at hc
  exact ht hc.2.1.symm

/-- Of the blocks that lay in W those of O alone may have turned in W'. -/
structure Keeps (O : Nat → Prop) (W W' : World) : Prop where
  os : W'.os = W.os
  tape : W'.tape = W.tape
  output : W'.output = W.output
  size : W.heap.size ≤ W'.heap.size
  block : ∀ k, k < W.heap.size → ¬ O k → W'.heap[k]? = W.heap[k]?

/-- What is owned later was owned before, or is new. -/
def Later (O : Nat → Prop) (W : World) (O' : Nat → Prop) : Prop := ∀ k, O' k → O k ∨ W.heap.size ≤ k

theorem Keeps.refl (O : Nat → Prop) (W : World) : Keeps O W W := ⟨rfl, rfl, rfl, Nat.le_refl _, fun _ _ _ => rfl⟩
theorem Keeps.trans {O O' : Nat → Prop} {A B C : World} (h : Keeps O A B) (k : Keeps O' B C) (hO : Later O A O') : Keeps O A C :=
  ⟨k.os.trans h.os, k.tape.trans h.tape, k.output.trans h.output, Nat.le_trans h.size k.size, fun i hi hn =>
    (k.block i (Nat.lt_of_lt_of_le hi h.size) (fun ho => (hO i ho).elim hn (by omega))).trans (h.block i hi hn)⟩
theorem Keeps.mono {O O' : Nat → Prop} {A B : World} (h : Keeps O A B) (hO : Later O' A O) : Keeps O' A B :=
  ⟨h.os, h.tape, h.output, h.size, fun i hi hn => h.block i hi (fun ho => (hO i ho).elim hn (by omega))⟩
theorem Keeps.alloc {O : Nat → Prop} {A W : World} (h : Keeps O A W) (o : Obj) : Keeps O A (W.alloc o) :=
  ⟨h.os, h.tape, h.output, by have := h.size; simp; omega, fun k hk hn => (Below.heap_alloc _ _ _ (by have := h.size; omega)).trans (h.block k hk hn)⟩
theorem Keeps.setCell {O : Nat → Prop} {A W : World} (h : Keeps O A W) {p : Addr} (hp : O p.block ∨ A.heap.size ≤ p.block) (u : Value) : Keeps O A (W.setCell p u) :=
  ⟨h.os, h.tape, h.output, by have := h.size; simp [World.setCell]; omega, fun k hk hn => (Below.heap_setCell _ _ _ _ (fun e => by
    subst e; rcases hp with hp | hp; exact hn hp; omega)).trans (h.block k hk hn)⟩
theorem Keeps.drew {O : Nat → Prop} {A W : World} (h : Keeps O A W) : Keeps O A W.drew := ⟨h.os, h.tape, h.output, h.size, h.block⟩
theorem Keeps.grown {O : Nat → Prop} {A W W' : World} {row : Option Nat} (h : Keeps O A W) (hg : W.grownBy W' row) (hr : ∀ k, row = some k → O k ∨ A.heap.size ≤ k) : Keeps O A W' :=
  ⟨hg.os.trans h.os, hg.tape.trans h.tape, hg.output.trans h.output, Nat.le_trans h.size hg.size, fun k hk hn =>
    (hg.block k (Nat.lt_of_lt_of_le hk h.size) (fun e => (hr k e.symm).elim hn (by omega))).trans (h.block k hk hn)⟩
theorem Keeps.below {O : Nat → Prop} {A W : World} (h : Keeps O A W) {B : Nat} (hB : B ≤ A.heap.size) (hO : ∀ k, O k → B ≤ k) : Below B A W :=
  ⟨h.os, h.tape, h.output, h.size, fun k hk => h.block k (by omega) (fun ho => by have := hO k ho; omega)⟩
theorem Keeps.of_below {O : Nat → Prop} {A W : World} (h : Below A.heap.size A W) : Keeps O A W :=
  ⟨h.os, h.tape, h.output, h.size, fun k hk _ => h.block k hk⟩
theorem Later.refl (O : Nat → Prop) (W : World) : Later O W O := fun _ h => .inl h
theorem Later.trans {O O' O'' : Nat → Prop} {A B : World} (h : Later O A O') (hs : A.heap.size ≤ B.heap.size) (k : Later O' B O'') : Later O A O'' := fun i hi => by
  rcases k i hi with h1 | h1
  · exact h i h1
  · exact .inr (by omega)

theorem Later.no {O O' : Nat → Prop} {W : World} (h : Later O W O') {k : Nat} (hk : k < W.heap.size) (hn : ¬ O k) : ¬ O' k := fun ho => (h k ho).elim hn (by omega)
theorem Later.wide {O O' : Nat → Prop} {W : World} (h : Later O W O') (X : Nat → Prop) : Later (fun k => O k ∨ X k) W (fun k => O' k ∨ X k) := fun k hk => by
  rcases hk with hk | hk
  · exact (h k hk).elim (fun h => .inl (.inl h)) .inr
  · exact .inl (.inr hk)



theorem box1 {w : World} (o : Obj) : Below w.heap.size w (w.alloc o) := (Below.refl _ _).alloc (Nat.le_refl _) _
theorem below_th {n : Nat} {w W w1 : World} (h0 : Below n w W) (hb : Below W.heap.size W w1) (hn : n ≤ w.heap.size) : Below n w w1 :=
  h0.trans (hb.mono (Nat.le_trans hn h0.size))
theorem flat_len {α : Type} {f : α → List Value} {m : Nat} (hf : ∀ x, (f x).length = m) : ∀ l : List α, (l.flatMap f).length = l.length * m
  | [] => by simp
  | x :: l => by
    rw [List.flatMap_cons, List.length_append, hf, flat_len hf l, List.length_cons, Nat.add_mul]
    omega
theorem flat_get {α : Type} {f : α → List Value} {m : Nat} (hf : ∀ x, (f x).length = m) : ∀ (l : List α) (j : Nat) (x : α) (_ : l[j]? = some x) (i : Nat) (_ : i < m), (l.flatMap f)[j * m + i]? = (f x)[i]?
  | [], j, x, h, _, _ => by simp at h
  | y :: l, 0, x, h, i, hi => by
    obtain rfl : y = x := by simpa using h
    rw [List.flatMap_cons, List.getElem?_append_left (by rw [hf]; omega), Nat.zero_mul, Nat.zero_add]
  | y :: l, j + 1, x, h, i, hi => by
    have e : (j + 1) * m + i = m + (j * m + i) := by rw [Nat.add_mul]; omega
    rw [List.flatMap_cons, List.getElem?_append_right (by rw [hf, e]; omega), hf, e, Nat.add_sub_cancel_left]
    exact flat_get hf l j x (by simpa using h) i hi
theorem flat_set {α : Type} {f : α → List Value} {m : Nat} (hf : ∀ x, (f x).length = m) : ∀ (l : List α) (j : Nat) (x : α) (_ : j < l.length) (p : Nat),
    ((l.set j x).flatMap f)[p]? = if j * m ≤ p ∧ p < j * m + m then (f x)[p - j * m]? else (l.flatMap f)[p]?
  | [], j, x, h, _ => by simp at h
  | y :: l, 0, x, h, p => by
    simp only [List.set_cons_zero, List.flatMap_cons, Nat.zero_mul, Nat.zero_add, Nat.zero_le, true_and, Nat.sub_zero]
    split
    · rename_i hp
      rw [List.getElem?_append_left (by rw [hf]; exact hp)]
    · rename_i hp
      rw [List.getElem?_append_right (by rw [hf]; omega), List.getElem?_append_right (by rw [hf]; omega), hf, hf]
  | y :: l, j + 1, x, h, p => by
    have e : (j + 1) * m = m + j * m := by rw [Nat.add_mul]; omega
    simp only [List.set_cons_succ, List.flatMap_cons]
    rcases Nat.lt_or_ge p m with hp | hp
    · rw [List.getElem?_append_left (by rw [hf]; exact hp), List.getElem?_append_left (by rw [hf]; exact hp), if_neg (by omega)]
    · rw [List.getElem?_append_right (by rw [hf]; exact hp), List.getElem?_append_right (by rw [hf]; exact hp), hf, flat_set hf l j x (by simpa using h) (p - m), e]
      by_cases hc : j * m ≤ p - m ∧ p - m < j * m + m
      · rw [if_pos hc, if_pos (by omega), Nat.sub_sub]
      · rw [if_neg hc, if_neg (by omega)]
theorem encP_len (l : List Pr) : (encP l).length = 2 * l.length := by
  have := flat_len (f := fun e : Pr => e.cs.toList) (m := 2) (fun _ => rfl) l
  unfold encP
  omega
theorem encP_append (a b : List Pr) : encP (a ++ b) = encP a ++ encP b := by simp [encP]
theorem encP_cons (p : Pr) (l : List Pr) : encP (p :: l) = p.cs.toList ++ encP l := by simp [encP]
theorem encP_snoc (l : List Pr) (p : Pr) : encP (l ++ [p]) = encP l ++ p.cs.toList := by simp [encP]
theorem encP_one (l : List Pr) : ∀ u ∈ encP l, u.oneCell' = true := fun u hu => by
  obtain ⟨p, _, hp⟩ := List.mem_flatMap.1 hu
  simp at hp
  rcases hp with rfl | rfl <;> rfl
theorem encP_get {l : List Pr} {j : Nat} {p : Pr} (h : l[j]? = some p) (i : Nat) (hi : i < 2) : (encP l)[j * 2 + i]? = p.cs.toList[i]? := flat_get (f := fun e : Pr => e.cs.toList) (m := 2) (fun _ => rfl) l j p h i hi
theorem Reads.lenP {W : World} {s : Sl} {l : List Pr} (h : Reads W s 2 (encP l)) : s.n = l.length := by
  have := h.len
  rw [encP_len] at this
  omega
/-- The cells of one pair. -/
structure PrAt (W : World) (b o : Nat) (p : Pr) : Prop where
  x0 : W.cell? ⟨b, o, none⟩ = some (.int .u32 p.k)
  x1 : W.cell? ⟨b, o + 1, none⟩ = some (.int .u32 p.v)
theorem Blk.pr {W : World} {g : Nat} {t : TypeId} {p : Pr} (h : Blk W g t p.cs) : PrAt W g 0 p := ⟨by rw [h.cell]; rfl, by rw [h.cell]; rfl⟩
theorem Reads.pr {W : World} {y : Sl} {l : List Pr} (h : Reads W y 2 (encP l)) {k : Nat} (hk : k < l.length) : ∃ b off, y.a = some ⟨b, off, none⟩ ∧ PrAt W b (off + k * 2) (ithP l k) := by
  have hc := ithP_lt hk
  have hn := h.lenP
  obtain ⟨b, off, ea, hcell⟩ := h.at_ (by omega)
  have key := fun i hi u (hu : (ithP l k).cs.toList[i]? = some u) => hcell (k * 2 + i) u ((encP_get hc i hi).trans hu)
  have a0 := key 0 (by omega) _ rfl
  have a1 := key 1 (by omega) _ rfl
  simp only [← Nat.add_assoc, Nat.add_zero] at a0 a1
  exact ⟨b, off, ea, a0, a1⟩
/-- A slice of fewer. -/
theorem Reads.cut {W : World} {y : Sl} {l : List Pr} (h : Reads W y 2 (encP l)) {k : Nat} (hk : k ≤ l.length) : Reads W ⟨y.a, k, y.cap⟩ 2 (encP (l.take k)) := by
  have hn := h.lenP
  refine ⟨by rw [encP_len, List.length_take]; show 2 * min k l.length = k * 2; omega, ⟨by have := h.room; show k ≤ y.cap; omega, h.room.2⟩, fun e => ⟨by have := (h.nil e).1; show k = 0; omega, (h.nil e).2⟩, ?_⟩
  by_cases h0 : k = 0
  · exact .inl h0
  · obtain ⟨b, off, ea, hcell⟩ := h.at_ (by omega)
    refine .inr ⟨b, off, ea, fun j u hj => hcell j u ?_⟩
    have hlt := (List.getElem?_eq_some_iff.1 hj).1
    have e : encP l = encP (l.take k) ++ encP (l.drop k) := by rw [← encP_append, List.take_append_drop]
    rw [e, List.getElem?_append_left hlt]
    exact hj

/-! ### a row that is written in place -/
theorem Blk.row {W : World} {g : Nat} {t : TypeId} {cs : Array Value} (h : Blk W g t cs) (ds : Array Value) : Blk (W.setRow g ds) g t ds := setRow_heap W g cs ds t (0, 0) h
theorem Blk.rowFar {W : World} {g k : Nat} {t : TypeId} {cs : Array Value} (h : Blk W g t cs) (hk : k ≠ g) (ds : Array Value) : Blk (W.setRow k ds) g t cs := by
  refine h.agree ?_
  unfold World.setRow
  simp [Array.getElem?_modify, hk]
theorem seg3 (a b c x : List Value) (hx : x.length = b.length) : (a ++ b ++ c).take a.length ++ x ++ (a ++ b ++ c).drop (a.length + x.length) = a ++ x ++ c := by
  rw [hx, List.append_assoc a b c, List.take_left', List.drop_append, List.drop_append]
  · simp
  · rfl
/-- All is read ahead of anything being written: the run of 'copy' at things of two cells. -/
theorem run_copy_two (w : World) (dT sT ty elem : TypeId) (g o dLen dCap : Nat) (a : Addr) (sLen sCap : Nat) (cur : Array Value) (t : TypeId) (cs : List Value)
    (hu : Try.prog.underlying dT = some (.slice elem)) (hs : (Try.prog.info? elem).map (·.size) = some 2)
    (hg : Blk w g t cur) (hn : cs.length = Nat.min sLen dLen * 2)
    (hsrc : ∀ j v, cs[j]? = some v → w.cell? (a.add j) = some v) (hfit : o + cs.length ≤ cur.size) (h1 : ∀ v ∈ cs, v.oneCell' = true) :
    (Builtin.copy_ #[dT, sT] ty #[.slice (some ⟨g, o, none⟩) dLen dCap, .slice (some a) sLen sCap]).run Try.prog w =
      .ok (goInt (Nat.min sLen dLen)) (w.setRow g (cur.toList.take o ++ cs ++ cur.toList.drop (o + cs.length)).toArray) := by
  have hl := run_loadCells_list (P := Try.prog) w a cs hsrc
  have hst := run_storeCells_at Try.prog g o t cs 0 cur w hg (by simpa using hfit) h1
  cases hq : Try.prog.info? elem with
  | none => simp [hq] at hs
  | some i =>
    have hi : i.size = 2 := by simpa [hq] using hs
    simp [Builtin.copy_, run_underlying hu, Builtin.lenOf, Builtin.firstCells, sizeOf, typeInfo, hq, hi, ← hn, hl, hst]
/-- 'append' where there is room, at things of two cells. -/
theorem run_append_two (w : World) (t ty e : TypeId) (ht : Try.prog.underlying t = some (.slice e)) (hs : (Try.prog.info? e).map (·.size) = some 2)
    (g o sLen sCap : Nat) (a : Addr) (xLen xCap : Nat) (cur : Array Value) (tt : TypeId) (cs : List Value) (hg : Blk w g tt cur) (hn : cs.length = xLen * 2)
    (hsrc : ∀ j v, cs[j]? = some v → w.cell? (a.add j) = some v) (hroom : sLen + xLen ≤ sCap) (hfit : o + sLen * 2 + cs.length ≤ cur.size) (h1 : ∀ v ∈ cs, v.oneCell' = true) :
    (Builtin.append_ #[t, t] ty #[.slice (some ⟨g, o, none⟩) sLen sCap, .slice (some a) xLen xCap]).run Try.prog w =
      .ok (.slice (some ⟨g, o, none⟩) (sLen + xLen) sCap) (w.setRow g (cur.toList.take (o + sLen * 2) ++ cs ++ cur.toList.drop (o + sLen * 2 + cs.length)).toArray) := by
  have hl := run_loadCells_list (P := Try.prog) w a cs hsrc
  have hst := run_storeCells_at Try.prog g (o + sLen * 2) tt cs 0 cur w hg (by simpa using hfit) h1
  simp only [Nat.add_zero] at hst
  cases hq : Try.prog.info? e with
  | none => simp [hq] at hs
  | some i =>
    have hi : i.size = 2 := by simpa [hq] using hs
    have hz : ((TypeDesc.slice e) matches .int _) = false := rfl
    simp [Builtin.append_, run_underlying ht, sizeOf, typeInfo, hq, hi, Builtin.lenOf, hroom, Builtin.firstCells, ← hn, hl, Addr.add_lit, hst]
/-- 'clear' of things of two cells. -/
theorem run_clear_two (w : World) (t ty e : TypeId) (z : Value) (ht : Try.prog.underlying t = some (.slice e)) (hz : ∀ w, (zeroValue e).run Try.prog w = .ok z w) (zs : List Value)
    (g o n c : Nat) (hzs : (Builtin.zeroCells z.cells n).toList = zs) (cur : Array Value) (tt : TypeId) (hg : Blk w g tt cur) (hn : 0 < n)
    (hfit : o + zs.length ≤ cur.size) (h1 : ∀ v ∈ zs, v.oneCell' = true) :
    (Builtin.clear_ #[t] ty #[.slice (some ⟨g, o, none⟩) n c]).run Try.prog w = .ok (.tuple #[]) (w.setRow g (cur.toList.take o ++ zs ++ cur.toList.drop (o + zs.length)).toArray) := by
  have hst := run_storeCells_at Try.prog g o tt zs 0 cur w hg (by simpa using hfit) h1
  cases n with
  | zero => omega
  | succ n => simp [Builtin.clear_, run_underlying ht, hz, hzs, hst]
theorem zero38 (w : World) : (zeroValue 38).run Try.prog w = .ok zp.val w := by
  have := Try.zeroValue38
  simp [this]
theorem zeros_two (n : Nat) : (Builtin.zeroCells zp.val.cells n).toList = encP (List.replicate n zp) := by
  have hc : zp.val.cells = zp.cs := by simp [Value.cells]
  apply List.ext_getElem?
  intro j
  rw [hc]
  simp only [Builtin.zeroCells, Array.toList_map, Array.toList_range, List.getElem?_map]
  show Option.map _ (List.range (n * 2))[j]? = _
  by_cases h : j < n * 2
  · rw [List.getElem?_range h]
    have e : j = j / 2 * 2 + j % 2 := by omega
    have h2 : (List.replicate n zp)[j / 2]? = some zp := by rw [List.getElem?_replicate, if_pos (by omega)]
    have h3 := encP_get h2 (j % 2) (Nat.mod_lt _ (by omega))
    rw [← e] at h3
    rw [h3]
    have : j % 2 = 0 ∨ j % 2 = 1 := by omega
    rcases this with q | q <;> simp [q]
  · rw [List.getElem?_eq_none (by simpa using h), List.getElem?_eq_none (by rw [encP_len, List.length_replicate]; omega)]
    rfl
theorem zeros_array (n : Nat) : Builtin.zeroCells zp.val.cells n = (encP (List.replicate n zp)).toArray := by
  rw [← zeros_two]

/-! ### the bag's row -/
/-- A slice that is a bag's row: none, or of pairs in a block of its own, with cells ahead of it and behind. -/
inductive RowS (W : World) : Sl → List Pr → Prop
  | none_ : RowS W nilS []
  | row (b : Nat) (pre : List Value) (l : List Pr) (suf : List Value) (r : Nat) (hs : 2 * r ≤ suf.length) (hr : l.length + r ≤ maxLen) (hb : Blk W b 38 (pre ++ encP l ++ suf).toArray) : RowS W ⟨some ⟨b, pre.length, none⟩, l.length, l.length + r⟩ l
theorem RowS.agree {W V : World} {s : Sl} {l : List Pr} (h : RowS W s l) (hv : ∀ k, s.v.ownBlock = some k → V.heap[k]? = W.heap[k]?) : RowS V s l := by
  cases h with
  | none_ => exact .none_
  | row b pre l suf r hs hr hb => exact .row b pre l suf r hs hr (hb.agree (hv b rfl))
theorem RowS.reads {W : World} {s : Sl} {l : List Pr} (h : RowS W s l) : Reads W s 2 (encP l) := by
  cases h with
  | none_ => exact Reads.none_ W 2
  | row b pre l suf r hs hr hb =>
    refine ⟨by rw [encP_len]; show 2 * l.length = l.length * 2; omega, ⟨by show l.length ≤ l.length + r; omega, hr⟩, (fun e => by cases e), .inr ⟨b, pre.length, rfl, fun j u hj => ?_⟩⟩
    have hlt := (List.getElem?_eq_some_iff.1 hj).1
    rw [hb.cell, List.getElem?_toArray, List.append_assoc, List.getElem?_append_right (by omega), List.getElem?_append_left (by omega), Nat.add_sub_cancel_left]
    exact hj
theorem RowS.lt {W : World} {s : Sl} {l : List Pr} (h : RowS W s l) {k : Nat} (hk : s.v.ownBlock = some k) : k < W.heap.size := by
  cases h with
  | none_ => cases hk
  | row b pre l suf r hs hr hb =>
    obtain rfl : b = k := by simpa [Sl.v, Value.ownBlock] using hk
    exact hb.lt
theorem RowS.below {W V : World} {s : Sl} {l : List Pr} (h : RowS W s l) (hb : Below W.heap.size W V) : RowS V s l := h.agree fun k hk => hb.block k (h.lt hk)
theorem RowS.not {W : World} {s : Sl} {l : List Pr} (h : RowS W s l) {B : Nat} {t : TypeId} {cs : Array Value} (hB : Blk W B t cs) (ht : t ≠ 38) : s.v.ownBlock ≠ some B := by
  intro hk
  cases h with
  | none_ => cases hk
  | row b pre l suf r hs hr hb =>
    obtain rfl : b = B := by simpa [Sl.v, Value.ownBlock] using hk
    unfold Blk at hB hb
    rw [hB] at hb
    simp only [Option.some.injEq, Obj.cells.injEq] at hb
    exact ht hb.2.1
/-- Block B is a bag: its pairs are l, in the slice s. -/
structure BagS (W : World) (B : Nat) (s : Sl) (l : List Pr) : Prop where
  box : Blk W B 26 #[s.v]
  row : RowS W s l
/-- The blocks that a bag may turn. -/
def Ob (B : Nat) (s : Sl) (k : Nat) : Prop := k = B ∨ s.v.ownBlock = some k
theorem BagS.agree {W V : World} {B : Nat} {s : Sl} {l : List Pr} (h : BagS W B s l) (hv : ∀ k, k < W.heap.size → Ob B s k → V.heap[k]? = W.heap[k]?) : BagS V B s l :=
  ⟨h.box.agree (hv B h.box.lt (.inl rfl)), h.row.agree fun k hk => hv k (h.row.lt hk) (.inr hk)⟩
theorem BagS.below {W V : World} {B : Nat} {s : Sl} {l : List Pr} (h : BagS W B s l) (hb : Below W.heap.size W V) : BagS V B s l := h.agree fun k hk _ => hb.block k hk
theorem BagS.len {W : World} {B : Nat} {s : Sl} {l : List Pr} (h : BagS W B s l) : s.n = l.length := h.row.reads.lenP
end Go.Proofs.Ytjmejdalmglehaa
