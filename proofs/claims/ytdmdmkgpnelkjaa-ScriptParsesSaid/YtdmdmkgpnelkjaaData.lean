/- Scripts written plainly; slices that read as lists; what is read of bytes, by the document. -/
import Derived.Test.YtdmdmkgpnelkjaaCall
import Derived.Maps.AppendAt
import Derived.Deep.AppendLies
namespace Go.Proofs.Ytdmdmkgpnelkjaa
open Go.ChangeShapes Go.WideShapes Go.ChangeAt Go.RowKit
set_option linter.unusedVariables false

/-- A slice, written plainly. -/
structure Sl where
  a : Option Addr
  n : Nat
  cap : Nat
abbrev Sl.v (s : Sl) : Value := .slice s.a s.n s.cap
abbrev nilS : Sl := ⟨none, 0, 0⟩
/-- A slice of things of so many cells reads as these cells. -/
structure Reads (W : World) (s : Sl) (size : Nat) (vs : List Value) : Prop where
  len : vs.length = s.n * size
  room : s.n ≤ s.cap ∧ s.cap ≤ maxLen
  nil : s.a = none → s.n = 0 ∧ s.cap = 0
  form : s.n = 0 ∨ ∃ b off, s.a = some ⟨b, off, none⟩ ∧ ∀ j u, vs[j]? = some u → W.cell? ⟨b, off + j, none⟩ = some u
theorem Reads.agree {W V : World} {s : Sl} {size : Nat} {vs : List Value} (h : Reads W s size vs) (hv : ∀ k, k < W.heap.size → s.v.ownBlock = some k → V.heap[k]? = W.heap[k]?) : Reads V s size vs := by
  refine ⟨h.len, h.room, h.nil, h.form.imp id ?_⟩
  rintro ⟨b, off, e, hc⟩
  refine ⟨b, off, e, fun j u hu => ?_⟩
  have := hc j u hu
  rw [World.cell?_of_block (a := ⟨b, off + j, none⟩) (hv b (World.block_lt_of_cell? W _ this) (by rw [Sl.v, e]; rfl))]
  exact this
theorem Reads.below {W V : World} {s : Sl} {size : Nat} {vs : List Value} (h : Reads W s size vs) (b : Below W.heap.size W V) : Reads V s size vs := h.agree fun k hk _ => b.block k hk
theorem Reads.none_ (W : World) (size : Nat) : Reads W nilS size [] := ⟨by simp, ⟨Nat.le_refl _, by simp [maxLen]⟩, fun _ => ⟨rfl, rfl⟩, .inl rfl⟩
theorem Reads.of_own {W : World} {base : Nat} {e : TypeId} {size : Nat} {s : Sl} {n : Nat} {vs : List Value} (h : W.ownsRow base e size s.v n vs) : Reads W s size vs ∧ s.n = n := by
  obtain ⟨h1, h2⟩ := h
  rcases h2 with ⟨he, rfl⟩ | ⟨g, cap, cur, he, hb, hg, hc, hm, hs, ht⟩
  · obtain ⟨a, n, cap⟩ := s
    simp only [Sl.v, Value.slice.injEq] at he
    obtain ⟨rfl, rfl, rfl⟩ := he
    refine ⟨⟨by simpa using h1, ⟨Nat.le_refl _, by simp [maxLen]⟩, fun _ => ⟨rfl, rfl⟩, .inl rfl⟩, rfl⟩
  · obtain ⟨a, n', cap'⟩ := s
    simp only [Sl.v, Value.slice.injEq] at he
    obtain ⟨rfl, rfl, rfl⟩ := he
    refine ⟨⟨h1, ⟨hc, hm⟩, (by intro e; cases e), .inr ⟨g, 0, rfl, fun j u hj => ?_⟩⟩, rfl⟩
    rw [cell_of_row W g _ cur e (0, 0) hg, Nat.zero_add]
    have := (List.getElem?_eq_some_iff.1 hj).1
    have : j < n' * size := by omega
    rw [← ht, List.getElem?_take, if_pos this] at hj
    simpa using hj
/-- The cell at a place. -/
theorem Reads.cell {W : World} {s : Sl} {size : Nat} {vs : List Value} (h : Reads W s size vs) (j : Nat) (u : Value) (hj : vs[j]? = some u) : ∃ b off, s.a = some ⟨b, off, none⟩ ∧ W.cell? ⟨b, off + j, none⟩ = some u := by
  rcases h.form with h0 | ⟨b, off, e, hc⟩
  · have := h.len
    rw [h0] at this
    have hl := (List.getElem?_eq_some_iff.1 hj).1
    omega
  · exact ⟨b, off, e, hc j u hj⟩
/-- Where a slice that has things lies. -/
theorem Reads.at_ {W : World} {s : Sl} {size : Nat} {vs : List Value} (h : Reads W s size vs) (hn : 0 < s.n) : ∃ b off, s.a = some ⟨b, off, none⟩ ∧ ∀ j u, vs[j]? = some u → W.cell? ⟨b, off + j, none⟩ = some u := by
  rcases h.form with h0 | h
  · omega
  · exact h
/-- A slice of bytes, so. -/
theorem Rd.reads {W : World} {a : Option Addr} {n cap : Nat} {bs : List Int} (h : Rd W a n cap bs) : Reads W ⟨a, n, cap⟩ 1 (encB bs) := by
  refine ⟨by simp [encB, h.len], h.room, ?_, ?_⟩
  · intro e
    rcases h.form with ⟨_, h1, h2⟩ | ⟨x, e', _⟩
    · exact ⟨h1, h2⟩
    · simp only at e
      rw [e] at e'
      cases e'
  · rcases Nat.eq_zero_or_pos n with h0 | h0
    · exact .inl h0
    · obtain ⟨bb, off, rfl, q⟩ := h.at 0 h0
      refine .inr ⟨bb, off, rfl, fun j u hj => ?_⟩
      have hl := (List.getElem?_eq_some_iff.1 hj).1
      have hn := h.len
      simp [encB] at hl
      obtain ⟨b2, o2, e2, q2⟩ := h.at j (by omega)
      simp only [Option.some.injEq, Addr.mk.injEq] at e2
      obtain ⟨rfl, rfl, _⟩ := e2
      rw [q2]
      simp only [encB, List.getElem?_map, Option.map_eq_some_iff] at hj
      obtain ⟨y, hy, rfl⟩ := hj
      simp [byteAt, List.getD_eq_getElem?_getD, hy]
theorem Reads.rd {W : World} {s : Sl} {bs : List Int} (h : Reads W s 1 (encB bs)) (hb : ∀ j, 0 ≤ byteAt bs j ∧ byteAt bs j < 256) : Rd W s.a s.n s.cap bs := by
  refine ⟨by have := h.len; simpa [encB] using this, h.room, ?_, hb⟩
  rcases h.form with h0 | ⟨b, off, e, hc⟩
  · cases ha : s.a with
    | none => exact .inl ⟨rfl, h.nil ha⟩
    | some x =>
      refine .inr ⟨x, rfl, fun j u hj => ?_⟩
      have := h.len
      rw [h0] at this
      have hl := (List.getElem?_eq_some_iff.1 hj).1
      omega
  · refine .inr ⟨_, e, fun j u hj => ?_⟩
    rw [Go.WideShapes.add_plain]
    exact hc j u hj

/-! ### Scripts -/
structure Sc where
  c : Cf
  ls : List (List Tri)
  ps : List Int
  ds : List Int
abbrev zs : Sc := ⟨zc, [], [], []⟩
/-- The cells of a script of these slices. -/
abbrev scs (c : Cf) (x y z : Sl) : Array Value := #[.int .i64 c.al, .int .i64 c.th, .int .i64 c.nd, .int .i64 c.lv, .int .i64 c.ba, .int .i64 c.pr, .int .i64 c.sc, .slice x.a x.n x.cap, .slice y.a y.n y.cap, .slice z.a z.n z.cap]
abbrev sv (c : Cf) (x y z : Sl) : Value := .agg #[.int .i64 c.al, .int .i64 c.th, .int .i64 c.nd, .int .i64 c.lv, .int .i64 c.ba, .int .i64 c.pr, .int .i64 c.sc, .slice x.a x.n x.cap, .slice y.a y.n y.cap, .slice z.a z.n z.cap]
def encI (l : List Int) : List Value := l.map (Value.int .i64)
def encT (l : List Tri) : List Value := l.flatMap fun c => [.int .i64 c.op, .int .u32 c.key, .int .u32 c.val]
/-- A list of lists of calls reads so. -/
structure RdL (W : World) (x : Sl) (ls : List (List Tri)) : Prop where
  ex : ∃ inner : List Sl, inner.length = ls.length ∧ Reads W x 1 (inner.map Sl.v) ∧ ∀ (i : Nat) (y : Sl) (l : List Tri), inner[i]? = some y → ls[i]? = some l → Reads W y 3 (encT l)
/-- A script reads so. -/
structure SV (W : World) (s : Sc) (x y z : Sl) : Prop where
  hx : RdL W x s.ls
  hy : Reads W y 1 (encI s.ps)
  hz : Rd W z.a z.n z.cap s.ds
  fit : ∀ l ∈ s.ls, ∀ c ∈ l, Fit c
theorem encT_len (l : List Tri) : (encT l).length = l.length * 3 := by
  induction l with
  | nil => rfl
  | cons c l ih => simp [encT] at ih ⊢; omega
theorem encT_snoc (l : List Tri) (c : Tri) : encT (l ++ [c]) = encT l ++ [.int .i64 c.op, .int .u32 c.key, .int .u32 c.val] := by simp [encT]
theorem encT_get (l : List Tri) (j : Nat) (c : Tri) (h : l[j]? = some c) :
    (encT l)[j * 3]? = some (.int .i64 c.op) ∧ (encT l)[j * 3 + 1]? = some (.int .u32 c.key) ∧ (encT l)[j * 3 + 2]? = some (.int .u32 c.val) := by
  induction l generalizing j with
  | nil => simp at h
  | cons y l ih =>
    have e : encT (y :: l) = [.int .i64 y.op, .int .u32 y.key, .int .u32 y.val] ++ encT l := by simp [encT]
    cases j with
    | zero =>
      obtain rfl : y = c := by simpa using h
      rw [e]
      exact ⟨rfl, rfl, rfl⟩
    | succ j =>
      have := ih j (by simpa using h)
      rw [e]
      refine ⟨?_, ?_, ?_⟩
      · rw [List.getElem?_append_right (by simp; omega)]; simpa [show (j + 1) * 3 - 3 = j * 3 by omega] using this.1
      · rw [List.getElem?_append_right (by simp; omega)]; simpa [show (j + 1) * 3 + 1 - 3 = j * 3 + 1 by omega] using this.2.1
      · rw [List.getElem?_append_right (by simp; omega)]; simpa [show (j + 1) * 3 + 2 - 3 = j * 3 + 2 by omega] using this.2.2
theorem RdL.below {W V : World} {x : Sl} {ls : List (List Tri)} (h : RdL W x ls) (b : Below W.heap.size W V) : RdL V x ls := by
  obtain ⟨inner, h1, h2, h3⟩ := h.ex
  exact ⟨inner, h1, h2.below b, fun i y l e1 e2 => (h3 i y l e1 e2).below b⟩
theorem SV.below {W V : World} {s : Sc} {x y z : Sl} (h : SV W s x y z) (b : Below W.heap.size W V) : SV V s x y z := ⟨h.hx.below b, h.hy.below b, h.hz.below b, h.fit⟩
theorem SV.zero (W : World) : SV W zs nilS nilS nilS :=
  ⟨⟨[], rfl, Reads.none_ W 1, fun i y l h => by simp at h⟩, Reads.none_ W 1, ⟨rfl, ⟨Nat.le_refl _, by simp [maxLen]⟩, .inl ⟨rfl, rfl, rfl⟩, fun j => by simp [byteAt]⟩, fun l h => by simp at h⟩
theorem RdL.len {W : World} {x : Sl} {ls : List (List Tri)} (h : RdL W x ls) : x.n = ls.length := by
  obtain ⟨inner, h1, h2, h3⟩ := h.ex
  have := h2.len
  simp at this
  omega
theorem RdL.room {W : World} {x : Sl} {ls : List (List Tri)} (h : RdL W x ls) : x.n ≤ x.cap ∧ x.cap ≤ maxLen := by
  obtain ⟨inner, h1, h2, h3⟩ := h.ex
  exact h2.room
/-- The list of one thread: where it is told of, and where it lies. -/
theorem RdL.at_ {W : World} {x : Sl} {ls : List (List Tri)} (h : RdL W x ls) (i : Nat) (l : List Tri) (hl : ls[i]? = some l) :
    ∃ b off y, x.a = some ⟨b, off, none⟩ ∧ W.cell? ⟨b, off + i, none⟩ = some (.slice y.a y.n y.cap) ∧ y.n = l.length ∧ Reads W y 3 (encT l) := by
  obtain ⟨inner, h1, h2, h3⟩ := h.ex
  have hi := (List.getElem?_eq_some_iff.1 hl).1
  have e : inner[i]? = some (inner[i]'(by omega)) := List.getElem?_eq_getElem (by omega)
  obtain ⟨b, off, ea, hc⟩ := h2.cell i (inner[i]'(by omega)).v (by simp [e])
  have hr := h3 i _ l e hl
  have := hr.len
  rw [encT_len] at this
  exact ⟨b, off, _, ea, hc, by omega, hr⟩
/-- A call of a list. -/
theorem Reads.tri {W : World} {y : Sl} {l : List Tri} (h : Reads W y 3 (encT l)) (k : Nat) (c : Tri) (hc : l[k]? = some c) :
    ∃ b off, y.a = some ⟨b, off, none⟩ ∧ W.cell? ⟨b, off + k * 3, none⟩ = some (.int .i64 c.op) ∧ W.cell? ⟨b, off + k * 3 + 1, none⟩ = some (.int .u32 c.key) ∧ W.cell? ⟨b, off + k * 3 + 2, none⟩ = some (.int .u32 c.val) := by
  obtain ⟨e0, e1, e2⟩ := encT_get l k c hc
  have hl := (List.getElem?_eq_some_iff.1 hc).1
  have hn := h.len
  rw [encT_len] at hn
  obtain ⟨b, off, ea, hcell⟩ := h.at_ (by omega)
  exact ⟨b, off, ea, hcell _ _ e0, hcell _ _ e1, hcell _ _ e2⟩
/-- The ten cells of a script. -/
theorem Blk.script {W : World} {g : Nat} {t : TypeId} {c : Cf} {x y z : Sl} (h : Blk W g t (scs c x y z)) : W.cell? ⟨g, 0, none⟩ = some (.int .i64 c.al) ∧ W.cell? ⟨g, 1, none⟩ = some (.int .i64 c.th) ∧ W.cell? ⟨g, 2, none⟩ = some (.int .i64 c.nd) ∧ W.cell? ⟨g, 3, none⟩ = some (.int .i64 c.lv) ∧
    W.cell? ⟨g, 4, none⟩ = some (.int .i64 c.ba) ∧ W.cell? ⟨g, 5, none⟩ = some (.int .i64 c.pr) ∧ W.cell? ⟨g, 6, none⟩ = some (.int .i64 c.sc) ∧ W.cell? ⟨g, 7, none⟩ = some (.slice x.a x.n x.cap) ∧ W.cell? ⟨g, 8, none⟩ = some (.slice y.a y.n y.cap) ∧ W.cell? ⟨g, 9, none⟩ = some (.slice z.a z.n z.cap) :=
  ⟨by rw [h.cell]; rfl, by rw [h.cell]; rfl, by rw [h.cell]; rfl, by rw [h.cell]; rfl, by rw [h.cell]; rfl, by rw [h.cell]; rfl, by rw [h.cell]; rfl, by rw [h.cell]; rfl, by rw [h.cell]; rfl, by rw [h.cell]; rfl⟩

/-- How many calls there are. -/
def tot (ls : List (List Tri)) : Nat := (ls.map List.length).sum
theorem tot_snoc (ls : List (List Tri)) (l : List Tri) : tot (ls ++ [l]) = tot ls + l.length := by simp [tot]
theorem tot_take (ls : List (List Tri)) (k : Nat) (l : List Tri) (h : ls[k]? = some l) : tot (ls.take (k + 1)) = tot (ls.take k) + l.length := by
  rw [List.take_add_one, h]
  exact tot_snoc _ _
theorem tot_le (ls : List (List Tri)) (k : Nat) : tot (ls.take k) ≤ tot ls := by
  have h : ls = ls.take k ++ ls.drop k := (List.take_append_drop k ls).symm
  have : tot ls = tot (ls.take k) + tot (ls.drop k) := by
    conv => lhs; rw [h]
    unfold tot
    rw [List.map_append, List.sum_append]
  omega
/-- A list's length is small. -/
theorem SV.short {W : World} {s : Sc} {x y z : Sl} (h : SV W s x y z) : ∀ l ∈ s.ls, l.length ≤ maxLen := by
  intro l hl
  obtain ⟨i, hi, rfl⟩ := List.getElem_of_mem hl
  obtain ⟨b, off, y', _, _, h1, h2⟩ := h.hx.at_ i _ (List.getElem?_eq_getElem hi)
  have := h2.room
  omega
theorem tot_bound (ls : List (List Tri)) (m : Nat) (h : ∀ l ∈ ls, l.length ≤ m) : tot ls ≤ ls.length * m := by
  induction ls with
  | nil => simp [tot]
  | cons l r ih =>
    have h1 := h l (by simp)
    have h2 := ih fun x hx => h x (by simp [hx])
    simp [tot, Nat.add_mul] at h2 ⊢
    omega
end Go.Proofs.Ytdmdmkgpnelkjaa
