/- A memory in the heap: a block with its four fields, the block of its words, the row of its log; who may turn which blocks; what ask answers. -/
import Derived.Test.YtnedifcjenlcjaaRows
import Derived.WalkKit
import Derived.ProofKit
import Derived.Below
import Derived.OwnWalk
import Derived.OneCell
import Derived.Laws.OwnMore
import Derived.Laws.MakeOwn
import Derived.Maps.AppendAt
import Derived.Deep.AppendLies
import Derived.Deep.RegionHeld3
import Derived.Deep.Onto
import Derived.Deep.Draws
import Derived.Lib.Hide
import Derived.WalkLawsBesides
import Derived.Handy
namespace Go.Proofs.Ytnedifcjenlcjaa
open Go.ChangeShapes Go.WideShapes Go.ChangeAt Go.RowKit
set_option linter.unusedVariables false
set_option maxRecDepth 20000


/-- Of the blocks that lay in W those of O alone may have turned in W'. -/
structure Keeps (O : Nat → Prop) (W W' : World) : Prop where
  os : W'.os = W.os
  tape : W'.tape = W.tape
  output : W'.output = W.output
  size : W.heap.size ≤ W'.heap.size
  block : ∀ k, k < W.heap.size → ¬ O k → W'.heap[k]? = W.heap[k]?

/-- What is owned later was owned before, or is new. -/
def Later (O : Nat → Prop) (W : World) (O' : Nat → Prop) : Prop := ∀ k, O' k → O k ∨ W.heap.size ≤ k

theorem Keeps.refl (O : Nat → Prop) (W : World) : Keeps O W W := ⟨rfl, rfl, rfl, Nat.le_refl _, fun _ _ _ => rfl⟩
theorem Keeps.trans {O O' : Nat → Prop} {A B C : World} (h : Keeps O A B) (k : Keeps O' B C) (hO : Later O A O') : Keeps O A C :=
  ⟨k.os.trans h.os, k.tape.trans h.tape, k.output.trans h.output, Nat.le_trans h.size k.size, fun i hi hn =>
    (k.block i (Nat.lt_of_lt_of_le hi h.size) (fun ho => (hO i ho).elim hn (by omega))).trans (h.block i hi hn)⟩
theorem Keeps.mono {O O' : Nat → Prop} {A B : World} (h : Keeps O A B) (hO : Later O' A O) : Keeps O' A B :=
  ⟨h.os, h.tape, h.output, h.size, fun i hi hn => h.block i hi (fun ho => (hO i ho).elim hn (by omega))⟩
theorem Keeps.alloc {O : Nat → Prop} {A W : World} (h : Keeps O A W) (o : Obj) : Keeps O A (W.alloc o) :=
  ⟨h.os, h.tape, h.output, by have := h.size; simp; omega, fun k hk hn => (Below.heap_alloc _ _ _ (by have := h.size; omega)).trans (h.block k hk hn)⟩
theorem Keeps.setCell {O : Nat → Prop} {A W : World} (h : Keeps O A W) {p : Addr} (hp : O p.block ∨ A.heap.size ≤ p.block) (u : Value) : Keeps O A (W.setCell p u) :=
  ⟨h.os, h.tape, h.output, by have := h.size; simp [World.setCell]; omega, fun k hk hn => (Below.heap_setCell _ _ _ _ (fun e => by
    subst e; rcases hp with hp | hp; exact hn hp; omega)).trans (h.block k hk hn)⟩
theorem Keeps.drew {O : Nat → Prop} {A W : World} (h : Keeps O A W) : Keeps O A W.drew := ⟨h.os, h.tape, h.output, h.size, h.block⟩
theorem Keeps.grown {O : Nat → Prop} {A W W' : World} {row : Option Nat} (h : Keeps O A W) (hg : W.grownBy W' row) (hr : ∀ k, row = some k → O k ∨ A.heap.size ≤ k) : Keeps O A W' :=
  ⟨hg.os.trans h.os, hg.tape.trans h.tape, hg.output.trans h.output, Nat.le_trans h.size hg.size, fun k hk hn =>
    (hg.block k (Nat.lt_of_lt_of_le hk h.size) (fun e => (hr k e.symm).elim hn (by omega))).trans (h.block k hk hn)⟩
theorem Keeps.below {O : Nat → Prop} {A W : World} (h : Keeps O A W) {B : Nat} (hB : B ≤ A.heap.size) (hO : ∀ k, O k → B ≤ k) : Below B A W :=
  ⟨h.os, h.tape, h.output, h.size, fun k hk => h.block k (by omega) (fun ho => by have := hO k ho; omega)⟩
theorem Keeps.of_below {O : Nat → Prop} {A W : World} (h : Below A.heap.size A W) : Keeps O A W :=
  ⟨h.os, h.tape, h.output, h.size, fun k hk _ => h.block k hk⟩
theorem Later.refl (O : Nat → Prop) (W : World) : Later O W O := fun _ h => .inl h
theorem Later.trans {O O' O'' : Nat → Prop} {A B : World} (h : Later O A O') (hs : A.heap.size ≤ B.heap.size) (k : Later O' B O'') : Later O A O'' := fun i hi => by
  rcases k i hi with h1 | h1
  · exact h i h1
  · exact .inr (by omega)

theorem Later.no {O O' : Nat → Prop} {W : World} (h : Later O W O') {k : Nat} (hk : k < W.heap.size) (hn : ¬ O k) : ¬ O' k := fun ho => (h k ho).elim hn (by omega)
theorem Later.wide {O O' : Nat → Prop} {W : World} (h : Later O W O') (X : Nat → Prop) : Later (fun k => O k ∨ X k) W (fun k => O' k ∨ X k) := fun k hk => by
  rcases hk with hk | hk
  · exact (h k hk).elim (fun h => .inl (.inl h)) .inr
  · exact .inl (.inr hk)


/-- A block that is known whole. -/
def Blk (W : World) (g : Nat) (t : TypeId) (cs : Array Value) : Prop := W.heap[g]? = some (.cells cs t (0, 0))
theorem Blk.lt {W : World} {g : Nat} {t : TypeId} {cs : Array Value} (h : Blk W g t cs) : g < W.heap.size := (Array.getElem?_eq_some_iff.1 h).1
theorem Blk.cell {W : World} {g : Nat} {t : TypeId} {cs : Array Value} (h : Blk W g t cs) (i : Nat) : W.cell? ⟨g, i, none⟩ = cs[i]? := cell_of_row W g i cs t (0, 0) h
theorem Blk.frozen {W : World} {g : Nat} {t : TypeId} {cs : Array Value} (h : Blk W g t cs) (i : Nat) : W.frozen? ⟨g, i, none⟩ = false := by
  unfold Blk at h
  simp [World.frozen?, h]
theorem Blk.agree {W W' : World} {g : Nat} {t : TypeId} {cs : Array Value} (h : Blk W g t cs) (e : W'.heap[g]? = W.heap[g]?) : Blk W' g t cs := e.trans h
theorem Blk.new (W : World) (t : TypeId) (cs : Array Value) : Blk (W.alloc (.cells cs t)) W.heap.size t cs := heap_alloc_new W _
theorem Blk.alloc {W : World} {g : Nat} {t : TypeId} {cs : Array Value} (h : Blk W g t cs) (o : Obj) : Blk (W.alloc o) g t cs := h.agree (Below.heap_alloc _ _ _ h.lt)
theorem Blk.set {W : World} {g : Nat} {t : TypeId} {cs : Array Value} (h : Blk W g t cs) (i : Nat) (u : Value) : Blk (W.setCell ⟨g, i, none⟩ u) g t (cs.setIfInBounds i u) := by
  unfold Blk at h ⊢
  simp [World.setCell, Array.getElem?_modify, h]
theorem Blk.far {W : World} {g : Nat} {t : TypeId} {cs : Array Value} (h : Blk W g t cs) {p : Addr} (hp : g ≠ p.block) (u : Value) : Blk (W.setCell p u) g t cs := h.agree (Below.heap_setCell _ _ _ _ hp)
theorem Blk.ne {W : World} {g g' : Nat} {t t' : TypeId} {cs cs' : Array Value} (h : Blk W g t cs) (h' : Blk W g' t' cs') (ht : t ≠ t') : g ≠ g' := by
  rintro rfl
  have := (show W.heap[g]? = _ from h).symm.trans h'
  simp at this
  exact ht this.2
theorem Blk.not_row {W : World} {g : Nat} {t e : TypeId} {cs : Array Value} {base size n : Nat} {v : Value} {xs : List Value} (h : Blk W g t cs) (hr : W.ownsRow base e size v n xs) (ht : t ≠ e) : v.ownBlock ≠ some g := by
  rcases hr.2 with ⟨rfl, _⟩ | ⟨g', cap, cur, rfl, _, hg, _⟩
  · simp [Value.ownBlock]
  · intro he
    obtain rfl : g' = g := by simpa [Value.ownBlock] using he
    exact Blk.ne h hg ht rfl
theorem row_agree {W W' : World} {base : Nat} {e : TypeId} {size n : Nat} {v : Value} {xs : List Value} (h : W.ownsRow base e size v n xs) (hk : ∀ k, v.ownBlock = some k → W'.heap[k]? = W.heap[k]?) : W'.ownsRow base e size v n xs := by
  refine ⟨h.1, ?_⟩
  rcases h.2 with h | ⟨g, cap, cur, rfl, hb, hg, r⟩
  · exact .inl h
  · exact .inr ⟨g, cap, cur, rfl, hb, (hk g rfl).trans hg, r⟩

/-- An access, and a memory, written plainly. -/
abbrev Acc := Int × Int × Int × Bool
structure MS where
  ws : List Int
  st : Int
  wa : Bool
  log : List Acc
def encA (x : Acc) : List Value := [.int .i64 x.1, .int .i64 x.2.1, .int .i64 x.2.2.1, .bool x.2.2.2]
def encL (l : List Acc) : List Value := l.flatMap encA
def encU (ws : List Int) : List Value := ws.map (Value.int .u64)
theorem encL_len (l : List Acc) : (encL l).length = l.length * 4 := by
  induction l with
  | nil => rfl
  | cons x l ih => simp [encL, encA] at ih ⊢; omega
theorem encL_snoc (l : List Acc) (x : Acc) : encL (l ++ [x]) = encL l ++ encA x := by simp [encL]
theorem encU_len (ws : List Int) : (encU ws).length = ws.length := by simp [encU]
def MS.counted (s : MS) (x : Acc) : MS := { s with st := s.st + 1, log := if s.wa then s.log ++ [x] else s.log }

/-- The memory s behind a pointer to the block B; its own blocks are those of O. -/
def MemAt (B : Nat) (s : MS) (O : Nat → Prop) (W : World) : Prop :=
  ∃ G v, O = (fun k => k = B ∨ k = G ∨ v.ownBlock = some k) ∧
    Blk W B 79 #[.slice (some ⟨G, 0, none⟩) s.ws.length s.ws.length, .int .i64 s.st, .bool s.wa, v] ∧ Blk W G 48 (encU s.ws).toArray ∧ W.ownsRow 0 126 4 v s.log.length (encL s.log)
theorem MemAt.lt {B : Nat} {s : MS} {O : Nat → Prop} {W : World} (h : MemAt B s O W) {k : Nat} (hk : O k) : k < W.heap.size := by
  obtain ⟨G, v, rfl, hb, hg, hr⟩ := h
  rcases hk with rfl | rfl | hk
  · exact hb.lt
  · exact hg.lt
  · exact (hr.lt k hk).2
theorem MemAt.agree {B : Nat} {s : MS} {O : Nat → Prop} {W W' : World} (h : MemAt B s O W) (hk : ∀ k, O k → W'.heap[k]? = W.heap[k]?) : MemAt B s O W' := by
  obtain ⟨G, v, rfl, hb, hg, hr⟩ := h
  exact ⟨G, v, rfl, hb.agree (hk _ (.inl rfl)), hg.agree (hk _ (.inr (.inl rfl))), row_agree hr fun k e => hk k (.inr (.inr e))⟩
theorem MemAt.alloc {B : Nat} {s : MS} {O : Nat → Prop} {W : World} (h : MemAt B s O W) (o : Obj) : MemAt B s O (W.alloc o) := h.agree fun k hk => Below.heap_alloc _ _ _ (h.lt hk)
theorem MemAt.keeps {B : Nat} {s : MS} {O O' : Nat → Prop} {W W' : World} (h : MemAt B s O W) (hk : Keeps O' W W') (hd : ∀ k, O k → ¬ O' k) : MemAt B s O W' := h.agree fun k ho => hk.block k (h.lt ho) (hd k ho)
theorem MemAt.own {B : Nat} {s : MS} {O : Nat → Prop} {W : World} (h : MemAt B s O W) : O B := by
  obtain ⟨G, v, rfl, _⟩ := h
  exact .inl rfl

/-- The memory has become s'; its own blocks alone have turned. -/
def Turn (B : Nat) (s' : MS) (O : Nat → Prop) (W W' : World) : Prop := ∃ O', Keeps O W W' ∧ Later O W O' ∧ MemAt B s' O' W'
theorem Turn.refl {B : Nat} {s : MS} {O : Nat → Prop} {W : World} (h : MemAt B s O W) : Turn B s O W W := ⟨O, Keeps.refl _ _, Later.refl _ _, h⟩
theorem Turn.from {B : Nat} {s' : MS} {O O1 : Nat → Prop} {W W1 W' : World} (hk : Keeps O W W1) (hl : Later O W O1) (h : Turn B s' O1 W1 W') : Turn B s' O W W' := by
  obtain ⟨O', k, l, m⟩ := h
  exact ⟨O', hk.trans k hl, hl.trans hk.size l, m⟩
/-- What a call leaves that hands v back. -/
def Does (B : Nat) (v : Value) (s' : MS) (O : Nat → Prop) (W : World) (e : Ending) (W' : World) : Prop := e = .returned v ∧ Turn B s' O W W'

abbrev at0 (b : Nat) : Value := .pointer (some ⟨b, 0, none⟩)
theorem info48 : (Try.prog.info? 48).map (fun i => (i.zero, i.size, i.bytes)) = some (some (.int .u64 0), 1, 8) := by kernel_rfl
theorem info126 : (Try.prog.info? 126).map (fun i => (i.zero, i.size, i.bytes)) = some (some (.agg #[.int .i64 0, .int .i64 0, .int .i64 0, .bool false]), 4, 32) := by kernel_rfl

/-! ### ask -/
def inB (n : Nat) (a : Int) : Bool := decide (0 ≤ a) && decide (a < n)
/-- What ask answers. -/
def askR (n : Nat) (xs : List Int) : Int := if xs.all (inB n) then 0 else 2
theorem askR_ok {n : Nat} {xs : List Int} (h : ∀ a ∈ xs, inB n a = true) : askR n xs = 0 := by
  unfold askR; rw [if_pos]; simpa using h
theorem askR_bad {n : Nat} {xs : List Int} {a : Int} (ha : a ∈ xs) (h : inB n a = false) : askR n xs = 2 := by
  unfold askR; rw [if_neg]
  intro hh
  have := List.all_eq_true.1 hh a ha
  rw [h] at this; cases this
theorem ret_int {k : IntKind} {a b : Int} (h : a = b) : Ending.returned (.int k a) = .returned (.int k b) := by rw [h]

theorem ask_nil (v : Value) (w : World) : Calls Try.prog 77 #[.pointer none, v] w fun e w' => e = .returned (.int .i64 1) ∧ w = w' := by
  go_enter Try.func77, Try.ntmps77
  go_wp2
  go_ret
  exact ⟨rfl, rfl⟩

set_option maxHeartbeats 1000000 in
theorem ask_any (B n cap A : Nat) (ad : Option Addr) (xs : List Int) (w : World) (hn : n ≤ 1000000) (hl : xs.length ≤ 1000) (hb : w.cell? ⟨B, 0, none⟩ = some (.slice ad n cap))
    (hA : ∀ i x, xs[i]? = some x → w.cell? ⟨A, i, none⟩ = some (.int .i64 x)) :
    Calls Try.prog 77 #[at0 B, .slice (some ⟨A, 0, none⟩) xs.length xs.length] w fun e w' => e = .returned (.int .i64 (askR n xs)) ∧ w = w' := by
  have HA := Lib.hid hA
  clear hA
  obtain ⟨m, hm⟩ : ∃ m, xs.length = m := ⟨_, rfl⟩
  rw [hm] at hl ⊢
  have HM := Lib.hid hm
  clear hm
  go_enter Try.func77, Try.ntmps77
  go_wp2
  go_loop [11] (fun i => ∃ k : Nat, k ≤ m ∧ i = .int .i64 k ∧ ∀ a ∈ xs.take k, inB n a = true) (fun i => m - (intOf i).toNat)
  case atStart => exact ⟨0, by omega, rfl, by simp⟩
  case round =>
    obtain ⟨k, hk, rfl, hin⟩ := hrel
    have HI := Lib.hid hin
    clear hin
    by_cases hlt : k < m
    · have hx : xs[k]? = some (xs[k]'(by rw [HM.out]; exact hlt)) := List.getElem?_eq_getElem _
      obtain ⟨x, hx⟩ : ∃ x, xs[k]? = some x := ⟨_, hx⟩
      have hc := HA.out k x hx
      have HX := Lib.hid hx
      clear hx
      have hmem : x ∈ xs := List.mem_of_getElem? HX.out
      by_cases h0 : x < 0
      · have HB : Hid (inB n x = false) := by unfold inB; exact Lib.hid (by simp; omega)
        go_wp2
        go_ret
        exact ⟨ret_int (askR_bad hmem HB.out).symm, rfl⟩
      · by_cases h1 : (n : Int) ≤ x
        · have HB : Hid (inB n x = false) := by unfold inB; exact Lib.hid (by simp; omega)
          go_wp2
          go_ret
          exact ⟨ret_int (askR_bad hmem HB.out).symm, rfl⟩
        · have HB : Hid (inB n x = true) := by unfold inB; exact Lib.hid (by simp; omega)
          go_wp2
          go_round
          case rel => exact ⟨k + 1, by omega, by go_num, by
            intro a ha
            rw [List.take_add_one, HX.out] at ha
            simp at ha
            rcases ha with ha | rfl
            · exact HI.out a ha
            · exact HB.out⟩
          case measure => simp [intOf]; omega
    · go_wp2
      go_ret
      exact ⟨ret_int (askR_ok fun a ha => HI.out a (by rw [List.take_of_length_le (by rw [HM.out]; omega)]; exact ha)).symm, rfl⟩
end Go.Proofs.Ytnedifcjenlcjaa
