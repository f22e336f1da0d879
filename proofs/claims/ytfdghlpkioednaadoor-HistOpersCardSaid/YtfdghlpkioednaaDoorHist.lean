/- A history in the heap: its block, the row of its events, the map of who is busy; what note does. -/
import Derived.Test.YtfdghlpkioednaaDoorFollow
import Derived.Deep.RegionLaw
import Derived.BigRegion
namespace Go.Proofs.YtfdghlpkioednaaDoor
open Go.ChangeShapes Go.WideShapes Go.ChangeAt Go.RowKit
set_option linter.unusedVariables false

theorem info34 : (Tryd.prog.info? 34).map (fun i => (i.zero, i.size, i.bytes)) = some (some (.agg #[.int .i64 0, .bool false, .int .i64 0, .int .u32 0, .int .u32 0, .int .i64 0, .int .u32 0, .int .u32 0]), 8, 48) := by kernel_rfl
theorem info50 : (Tryd.prog.info? 50).map (fun i => (i.zero, i.size, i.bytes)) = some (some (.agg #[.int .i64 0, .int .i64 0, .int .u32 0, .int .u32 0, .int .i64 0, .int .u32 0, .int .u32 0, .int .i64 0, .int .i64 0]), 9, 56) := by kernel_rfl
theorem MapAt.not_blk {W : World} {g n : Nat} {f : Int → Option Tri} (h : MapAt W g n f) {B : Nat} {t : TypeId} {cs : Array Value} (hB : Blk W B t cs) : g ≠ B := by
  rintro rfl
  obtain ⟨D, ⟨es, clock, hb, _⟩, _⟩ := h
  have := (show W.heap[g]? = _ from hB).symm.trans hb
  simp at this
theorem MapAt.not_row {W : World} {g n : Nat} {f : Int → Option Tri} (h : MapAt W g n f) {base : Nat} {e : TypeId} {size m : Nat} {v : Value} {xs : List Value} (hr : W.ownsRow base e size v m xs) : v.ownBlock ≠ some g := by
  intro hk
  obtain ⟨cur, hc⟩ := row_type hr hk
  exact h.not_blk (B := g) hc rfl
/-- The history X behind a pointer to the block B; its own blocks are those of O. -/
def HistAt (B : Nat) (X : List Ev) (n : Nat) (O : Nat → Prop) (W : World) : Prop :=
  ∃ (s : Sl) (m : Option Nat), O = (fun k => k = B ∨ s.v.ownBlock = some k ∨ m = some k) ∧ Blk W B 27 #[.slice s.a s.n s.cap, .map m] ∧ W.ownsRow 0 34 8 (.slice s.a s.n s.cap) X.length (encE X) ∧
    (m = none → X = []) ∧ ∀ g, m = some g → MapAt W g n (cur (ith X) X.length)
theorem HistAt.lt {B : Nat} {X : List Ev} {n : Nat} {O : Nat → Prop} {W : World} (h : HistAt B X n O W) {k : Nat} (hk : O k) : k < W.heap.size := by
  obtain ⟨s, m, rfl, hb, hr, h0, hm⟩ := h
  rcases hk with rfl | hk | hk
  · exact hb.lt
  · exact (hr.lt k hk).2
  · exact (hm k hk).lt
theorem HistAt.own {B : Nat} {X : List Ev} {n : Nat} {O : Nat → Prop} {W : World} (h : HistAt B X n O W) : O B := by
  obtain ⟨s, m, rfl, _⟩ := h
  exact .inl rfl
theorem HistAt.agree {B : Nat} {X : List Ev} {n : Nat} {O : Nat → Prop} {W W' : World} (h : HistAt B X n O W) (hk : ∀ k, O k → W'.heap[k]? = W.heap[k]?) : HistAt B X n O W' := by
  obtain ⟨s, m, rfl, hb, hr, h0, hm⟩ := h
  exact ⟨s, m, rfl, hb.agree (hk _ (.inl rfl)), row_agree hr fun k e => hk k (.inr (.inl e)), h0, fun g e => (hm g e).agree (hk g (.inr (.inr e)))⟩
theorem HistAt.below {B : Nat} {X : List Ev} {n : Nat} {O : Nat → Prop} {W W' : World} (h : HistAt B X n O W) (hb : Below W.heap.size W W') : HistAt B X n O W' := h.agree fun k hk => hb.block k (h.lt hk)
theorem HistAt.mono {B : Nat} {X : List Ev} {n n' : Nat} {O : Nat → Prop} {W : World} (h : HistAt B X n O W) (hn : n ≤ n') : HistAt B X n' O W := by
  obtain ⟨s, m, hO, hb, hr, h0, hm⟩ := h
  exact ⟨s, m, hO, hb, hr, h0, fun g e => (hm g e).mono hn⟩
theorem HistAt.keeps {B : Nat} {X : List Ev} {n : Nat} {O O' : Nat → Prop} {W W' : World} (h : HistAt B X n O W) (hk : Keeps O' W W') (hd : ∀ k, O k → ¬ O' k) : HistAt B X n O W' := h.agree fun k ho => hk.block k (h.lt ho) (hd k ho)
theorem HistAt.new (W : World) : HistAt W.heap.size [] 0 (fun k => k = W.heap.size ∨ (none : Option Nat) = some k ∨ (none : Option Nat) = some k) (W.alloc (.cells #[.slice none 0 0, .map none] 27)) :=
  ⟨nilS, none, rfl, Blk.new _ _ _, World.ownsRow_nil _ _ _ _, fun _ => rfl, fun g e => by cases e⟩
/-- The events behind one more that may be noted, or not. -/
def addE (X : List Ev) (e : Ev) : List Ev := if errE (ith X) X.length e = 0 then X ++ [e] else X
/-- What note leaves. -/
def Noted (B : Nat) (X : List Ev) (n : Nat) (O : Nat → Prop) (e : Ev) (W : World) (x : Ending) (W' : World) : Prop :=
  x = .returned (.int .i64 (errE (ith X) X.length e)) ∧ ∃ O', Keeps O W W' ∧ Later O W O' ∧ HistAt B (addE X e) (n + 1) O' W'
theorem cur_snoc (X : List Ev) (e : Ev) : ∀ t, cur (ith (X ++ [e])) (X ++ [e]).length t = stepF (cur (ith X) X.length) e t := fun t => by
  rw [List.length_append, List.length_singleton, cur_succ, ith_last, cur_congr t (fun i hi => ith_left hi)]
  rfl
/-- What lies ahead of follow, in note. -/
structure Mid (B : Nat) (X : List Ev) (n : Nat) (s : Sl) (g : Nat) (O : Nat → Prop) (W W1 : World) : Prop where
  hb : Blk W1 B 27 #[.slice s.a s.n s.cap, .map (some g)]
  hr : W1.ownsRow 0 34 8 (.slice s.a s.n s.cap) X.length (encE X)
  hm : MapAt W1 g n (cur (ith X) X.length)
  kw : Keeps O W W1
  ob : O B
  os : ∀ k, s.v.ownBlock = some k → O k
  og : O g ∨ W.heap.size ≤ g
theorem Mid.drew {B : Nat} {X : List Ev} {n : Nat} {s : Sl} {g : Nat} {O : Nat → Prop} {W W1 : World} (h : Mid B X n s g O W W1) (m : Nat) : Mid B X n s g O W (W1.drewN m) := by
  have hb := below_drewN (Below.refl W1.heap.size W1) m
  exact ⟨h.hb.below hb h.hb.lt, row_agree h.hr fun k e => hb.block k (h.hr.lt k e).2, h.hm.below hb, ⟨h.kw.os, h.kw.tape, h.kw.output, h.kw.size, h.kw.block⟩, h.ob, h.os, h.og⟩
/-- Behind follow. -/
theorem Mid.step {B : Nat} {X : List Ev} {n : Nat} {s : Sl} {g : Nat} {O : Nat → Prop} {W W1 w2 : World} (h : Mid B X n s g O W W1) (hk : Keeps (fun k => k = g) W1 w2) :
    Blk w2 B 27 #[.slice s.a s.n s.cap, .map (some g)] ∧ w2.ownsRow 0 34 8 (.slice s.a s.n s.cap) X.length (encE X) ∧ Keeps O W w2 := by
  have n1 := h.hm.not_blk h.hb
  have n2 := h.hm.not_row h.hr
  refine ⟨h.hb.agree (hk.block B h.hb.lt (Ne.symm n1)), row_agree h.hr fun k e => hk.block k (h.hr.lt k e).2 (fun e2 => n2 (by rw [e, e2])), h.kw.trans hk ?_⟩
  rintro k rfl
  exact h.og
theorem Mid.bad {B : Nat} {X : List Ev} {n : Nat} {s : Sl} {g : Nat} {O : Nat → Prop} {W W1 w2 : World} {e : Ev} {r : Int} (h : Mid B X n s g O W W1) (hr : errC (cur (ith X) X.length e.t) e = r) (h0 : r ≠ 0)
    (hk : Keeps (fun k => k = g) W1 w2) (hm : MapAt w2 g (n + 1) (cur (ith X) X.length)) : Noted B X n O e W (.returned (.int .i64 r)) w2 := by
  obtain ⟨k1, k2, k3⟩ := h.step hk
  have he : errE (ith X) X.length e = r := hr
  refine ⟨by rw [he], fun k => k = B ∨ s.v.ownBlock = some k ∨ some g = some k, k3, ?_, s, some g, rfl, ?_⟩
  · rintro k (rfl | hk | hk)
    · exact .inl h.ob
    · exact .inl (h.os k hk)
    · obtain rfl := Option.some.inj hk
      exact h.og
  · unfold addE
    rw [he, if_neg h0]
    exact ⟨k1, k2, (fun e => by cases e), fun g' e => (by obtain rfl := Option.some.inj e; exact hm)⟩
theorem Mid.good {B : Nat} {X : List Ev} {n : Nat} {s : Sl} {g : Nat} {O : Nat → Prop} {W W1 w2 w2' w3 : World} {e : Ev} (h : Mid B X n s g O W W1) (hr : errC (cur (ith X) X.length e.t) e = 0)
    (hk : Keeps (fun k => k = g) W1 w2) (hm : MapAt w2 g (n + 1) (stepF (cur (ith X) X.length) e)) (hb2 : Below w2.heap.size w2 w2') {gg cap : Nat}
    (hown : w3.ownsRow 0 34 8 (.slice (some ⟨gg, 0, none⟩) (X.length + 1) cap) (X.length + 1) (encE X ++ e.cs.toList)) (hgrow : w2'.grownBy w3 (Value.slice s.a s.n s.cap).ownBlock) (hat : (Value.slice s.a s.n s.cap).ownBlock = some gg ∨ w2.heap.size ≤ gg) :
    Noted B X n O e W (.returned (.int .i64 0)) (w3.setCell ⟨B, 0, none⟩ (.slice (some ⟨gg, 0, none⟩) (X.length + 1) cap)) := by
  obtain ⟨k1, k2, k3⟩ := h.step hk
  have he : errE (ith X) X.length e = 0 := hr
  have n1 := row_not k2 k1 (by decide)
  have n2 := hm.not_row k2
  have n3 := hm.not_blk k1
  have hsz := hb2.size
  have kB : w3.heap[B]? = w2.heap[B]? := (hgrow.block B (by have := k1.lt; omega) (fun e => n1 e.symm)).trans (hb2.block B k1.lt)
  have kG : w3.heap[g]? = w2.heap[g]? := (hgrow.block g (by have := hm.lt; omega) (fun e => n2 e.symm)).trans (hb2.block g hm.lt)
  have hB3 : Blk w3 B 27 #[.slice s.a s.n s.cap, .map (some g)] := k1.agree kB
  have ngB := row_not hown hB3 (by decide)
  refine ⟨by rw [he], fun k => k = B ∨ (Value.slice (some ⟨gg, 0, none⟩) (X.length + 1) cap).ownBlock = some k ∨ some g = some k, ?_, ?_, ⟨some ⟨gg, 0, none⟩, X.length + 1, cap⟩, some g, rfl, ?_⟩
  · refine Keeps.setCell ?_ (.inl h.ob) _
    refine Keeps.grown ((k3.trans (Keeps.of_below (O := fun k => k = B) hb2) ?_)) hgrow fun k e => .inl (h.os k e)
    rintro k rfl
    exact .inl h.ob
  · rintro k (rfl | hk' | hk')
    · exact .inl h.ob
    · obtain rfl : gg = k := by simpa [Value.ownBlock] using hk'
      rcases hat with h1 | h1
      · exact .inl (h.os _ h1)
      · exact .inr (Nat.le_trans k3.size h1)
    · obtain rfl := Option.some.inj hk'
      exact h.og
  · unfold addE
    rw [he, if_pos rfl]
    refine ⟨?_, ?_, fun h => (by cases h), fun g' hg' => ?_⟩
    · have := hB3.set 0 (.slice (some ⟨gg, 0, none⟩) (X.length + 1) cap)
      simpa using this
    · rw [List.length_append, encE_snoc]
      exact row_agree hown fun k e => Below.heap_setCell _ _ _ _ (fun e2 => ngB (by rw [e, e2]))
    · obtain rfl := Option.some.inj hg'
      exact ((hm.agree kG).agree (Below.heap_setCell _ _ _ _ n3)).congr fun t => (cur_snoc X e t).symm
end Go.Proofs.YtfdghlpkioednaaDoor
