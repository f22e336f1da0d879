/- A memory in the heap: a block with its four fields, the block of its words, the row of its log; who may turn which blocks; what ask answers. What count, New, Len, Steps and Watch do. What the six steps do: done, out of range, of no memory. What Store, Cas, Add, Dcas and Dcss do where they are done. An argument that is a deed, by value: its seven numbers. May a step be; what 'do' answers of a step that may be. Copies: Clone, Words, Log; are two lists of words the same. -/
import Derived.Test.YtemikojaldoofaaGreatRows
import Derived.WalkKit
import Derived.ProofKit
import Derived.Below
import Derived.OwnWalk
import Derived.OneCell
import Derived.Laws.OwnMore
import Derived.Laws.MakeOwn
import Derived.Maps.AppendAt
import Derived.Deep.AppendLies
import Derived.Deep.RegionHeld3
import Derived.Deep.Onto
import Derived.Deep.Draws
import Derived.Lib.Hide
import Derived.WalkLawsBesides
import Derived.Handy
import Derived.Deep.RegionLaw
import Derived.BigRegion
import Derived.Deep.QuietTactic
import Derived.BigQuiet
import Derived.OpenShut
import Derived.Deep.Slices
import Derived.Deep.Fields
import Derived.ChangeSame
import Derived.Lib.SmallJoins
import Derived.Lib.SliceRun
namespace Go.Proofs.YtemikojaldoofaaGreat
open Go.ChangeShapes Go.WideShapes Go.ChangeAt Go.RowKit
set_option linter.unusedVariables false

set_option maxRecDepth 20000


/-- Of the blocks that lay in W those of O alone may have turned in W'. -/
structure Keeps (O : Nat → Prop) (W W' : World) : Prop where
  os : W'.os = W.os
  tape : W'.tape = W.tape
  output : W'.output = W.output
  size : W.heap.size ≤ W'.heap.size
  block : ∀ k, k < W.heap.size → ¬ O k → W'.heap[k]? = W.heap[k]?

/-- What is owned later was owned before, or is new. -/
def Later (O : Nat → Prop) (W : World) (O' : Nat → Prop) : Prop := ∀ k, O' k → O k ∨ W.heap.size ≤ k

theorem Keeps.refl (O : Nat → Prop) (W : World) : Keeps O W W := ⟨rfl, rfl, rfl, Nat.le_refl _, fun _ _ _ => rfl⟩
theorem Keeps.trans {O O' : Nat → Prop} {A B C : World} (h : Keeps O A B) (k : Keeps O' B C) (hO : Later O A O') : Keeps O A C :=
  ⟨k.os.trans h.os, k.tape.trans h.tape, k.output.trans h.output, Nat.le_trans h.size k.size, fun i hi hn =>
    (k.block i (Nat.lt_of_lt_of_le hi h.size) (fun ho => (hO i ho).elim hn (by omega))).trans (h.block i hi hn)⟩
theorem Keeps.mono {O O' : Nat → Prop} {A B : World} (h : Keeps O A B) (hO : Later O' A O) : Keeps O' A B :=
  ⟨h.os, h.tape, h.output, h.size, fun i hi hn => h.block i hi (fun ho => (hO i ho).elim hn (by omega))⟩
theorem Keeps.alloc {O : Nat → Prop} {A W : World} (h : Keeps O A W) (o : Obj) : Keeps O A (W.alloc o) :=
  ⟨h.os, h.tape, h.output, by have := h.size; simp; omega, fun k hk hn => (Below.heap_alloc _ _ _ (by have := h.size; omega)).trans (h.block k hk hn)⟩
theorem Keeps.setCell {O : Nat → Prop} {A W : World} (h : Keeps O A W) {p : Addr} (hp : O p.block ∨ A.heap.size ≤ p.block) (u : Value) : Keeps O A (W.setCell p u) :=
  ⟨h.os, h.tape, h.output, by have := h.size; simp [World.setCell]; omega, fun k hk hn => (Below.heap_setCell _ _ _ _ (fun e => by
    subst e; rcases hp with hp | hp; exact hn hp; omega)).trans (h.block k hk hn)⟩
theorem Keeps.drew {O : Nat → Prop} {A W : World} (h : Keeps O A W) : Keeps O A W.drew := ⟨h.os, h.tape, h.output, h.size, h.block⟩
theorem Keeps.grown {O : Nat → Prop} {A W W' : World} {row : Option Nat} (h : Keeps O A W) (hg : W.grownBy W' row) (hr : ∀ k, row = some k → O k ∨ A.heap.size ≤ k) : Keeps O A W' :=
  ⟨hg.os.trans h.os, hg.tape.trans h.tape, hg.output.trans h.output, Nat.le_trans h.size hg.size, fun k hk hn =>
    (hg.block k (Nat.lt_of_lt_of_le hk h.size) (fun e => (hr k e.symm).elim hn (by omega))).trans (h.block k hk hn)⟩
theorem Keeps.below {O : Nat → Prop} {A W : World} (h : Keeps O A W) {B : Nat} (hB : B ≤ A.heap.size) (hO : ∀ k, O k → B ≤ k) : Below B A W :=
  ⟨h.os, h.tape, h.output, h.size, fun k hk => h.block k (by omega) (fun ho => by have := hO k ho; omega)⟩
theorem Keeps.of_below {O : Nat → Prop} {A W : World} (h : Below A.heap.size A W) : Keeps O A W :=
  ⟨h.os, h.tape, h.output, h.size, fun k hk _ => h.block k hk⟩
theorem Later.refl (O : Nat → Prop) (W : World) : Later O W O := fun _ h => .inl h
theorem Later.trans {O O' O'' : Nat → Prop} {A B : World} (h : Later O A O') (hs : A.heap.size ≤ B.heap.size) (k : Later O' B O'') : Later O A O'' := fun i hi => by
  rcases k i hi with h1 | h1
  · exact h i h1
  · exact .inr (by omega)

theorem Later.no {O O' : Nat → Prop} {W : World} (h : Later O W O') {k : Nat} (hk : k < W.heap.size) (hn : ¬ O k) : ¬ O' k := fun ho => (h k ho).elim hn (by omega)
theorem Later.wide {O O' : Nat → Prop} {W : World} (h : Later O W O') (X : Nat → Prop) : Later (fun k => O k ∨ X k) W (fun k => O' k ∨ X k) := fun k hk => by
  rcases hk with hk | hk
  · exact (h k hk).elim (fun h => .inl (.inl h)) .inr
  · exact .inl (.inr hk)


/-- A block that is known whole. -/
def Blk (W : World) (g : Nat) (t : TypeId) (cs : Array Value) : Prop := W.heap[g]? = some (.cells cs t (0, 0))
theorem Blk.lt {W : World} {g : Nat} {t : TypeId} {cs : Array Value} (h : Blk W g t cs) : g < W.heap.size := (Array.getElem?_eq_some_iff.1 h).1
theorem Blk.cell {W : World} {g : Nat} {t : TypeId} {cs : Array Value} (h : Blk W g t cs) (i : Nat) : W.cell? ⟨g, i, none⟩ = cs[i]? := cell_of_row W g i cs t (0, 0) h
theorem Blk.frozen {W : World} {g : Nat} {t : TypeId} {cs : Array Value} (h : Blk W g t cs) (i : Nat) : W.frozen? ⟨g, i, none⟩ = false := by
  unfold Blk at h
  simp [World.frozen?, h]
theorem Blk.agree {W W' : World} {g : Nat} {t : TypeId} {cs : Array Value} (h : Blk W g t cs) (e : W'.heap[g]? = W.heap[g]?) : Blk W' g t cs := e.trans h
theorem Blk.new (W : World) (t : TypeId) (cs : Array Value) : Blk (W.alloc (.cells cs t)) W.heap.size t cs := heap_alloc_new W _
theorem Blk.alloc {W : World} {g : Nat} {t : TypeId} {cs : Array Value} (h : Blk W g t cs) (o : Obj) : Blk (W.alloc o) g t cs := h.agree (Below.heap_alloc _ _ _ h.lt)
theorem Blk.set {W : World} {g : Nat} {t : TypeId} {cs : Array Value} (h : Blk W g t cs) (i : Nat) (u : Value) : Blk (W.setCell ⟨g, i, none⟩ u) g t (cs.setIfInBounds i u) := by
  unfold Blk at h ⊢
  simp [World.setCell, Array.getElem?_modify, h]
theorem Blk.far {W : World} {g : Nat} {t : TypeId} {cs : Array Value} (h : Blk W g t cs) {p : Addr} (hp : g ≠ p.block) (u : Value) : Blk (W.setCell p u) g t cs := h.agree (Below.heap_setCell _ _ _ _ hp)
theorem Blk.ne {W : World} {g g' : Nat} {t t' : TypeId} {cs cs' : Array Value} (h : Blk W g t cs) (h' : Blk W g' t' cs') (ht : t ≠ t') : g ≠ g' := by
  rintro rfl
  have := (show W.heap[g]? = _ from h).symm.trans h'
  simp at this
  exact ht this.2
theorem Blk.not_row {W : World} {g : Nat} {t e : TypeId} {cs : Array Value} {base size n : Nat} {v : Value} {xs : List Value} (h : Blk W g t cs) (hr : W.ownsRow base e size v n xs) (ht : t ≠ e) : v.ownBlock ≠ some g := by
  rcases hr.2 with ⟨rfl, _⟩ | ⟨g', cap, cur, rfl, _, hg, _⟩
  · simp [Value.ownBlock]
  · intro he
    obtain rfl : g' = g := by simpa [Value.ownBlock] using he
    exact Blk.ne h hg ht rfl
theorem row_agree {W W' : World} {base : Nat} {e : TypeId} {size n : Nat} {v : Value} {xs : List Value} (h : W.ownsRow base e size v n xs) (hk : ∀ k, v.ownBlock = some k → W'.heap[k]? = W.heap[k]?) : W'.ownsRow base e size v n xs := by
  refine ⟨h.1, ?_⟩
  rcases h.2 with h | ⟨g, cap, cur, rfl, hb, hg, r⟩
  · exact .inl h
  · exact .inr ⟨g, cap, cur, rfl, hb, (hk g rfl).trans hg, r⟩

/-- An access, and a memory, written plainly. -/
abbrev Acc := Int × Int × Int × Bool
structure MS where
  ws : List Int
  st : Int
  wa : Bool
  log : List Acc
def encA (x : Acc) : List Value := [.int .i64 x.1, .int .i64 x.2.1, .int .i64 x.2.2.1, .bool x.2.2.2]
def encL (l : List Acc) : List Value := l.flatMap encA
def encU (ws : List Int) : List Value := ws.map (Value.int .u64)
theorem encL_len (l : List Acc) : (encL l).length = l.length * 4 := by
  induction l with
  | nil => rfl
  | cons x l ih => simp [encL, encA] at ih ⊢; omega
theorem encL_snoc (l : List Acc) (x : Acc) : encL (l ++ [x]) = encL l ++ encA x := by simp [encL]
theorem encU_len (ws : List Int) : (encU ws).length = ws.length := by simp [encU]
def MS.counted (s : MS) (x : Acc) : MS := { s with st := s.st + 1, log := if s.wa then s.log ++ [x] else s.log }

/-- The memory s behind a pointer to the block B; its own blocks are those of O. -/
def MemAt (B : Nat) (s : MS) (O : Nat → Prop) (W : World) : Prop :=
  ∃ G v, O = (fun k => k = B ∨ k = G ∨ v.ownBlock = some k) ∧
    Blk W B 85 #[.slice (some ⟨G, 0, none⟩) s.ws.length s.ws.length, .int .i64 s.st, .bool s.wa, v] ∧ Blk W G 24 (encU s.ws).toArray ∧ W.ownsRow 0 88 4 v s.log.length (encL s.log)
theorem MemAt.lt {B : Nat} {s : MS} {O : Nat → Prop} {W : World} (h : MemAt B s O W) {k : Nat} (hk : O k) : k < W.heap.size := by
  obtain ⟨G, v, rfl, hb, hg, hr⟩ := h
  rcases hk with rfl | rfl | hk
  · exact hb.lt
  · exact hg.lt
  · exact (hr.lt k hk).2
theorem MemAt.agree {B : Nat} {s : MS} {O : Nat → Prop} {W W' : World} (h : MemAt B s O W) (hk : ∀ k, O k → W'.heap[k]? = W.heap[k]?) : MemAt B s O W' := by
  obtain ⟨G, v, rfl, hb, hg, hr⟩ := h
  exact ⟨G, v, rfl, hb.agree (hk _ (.inl rfl)), hg.agree (hk _ (.inr (.inl rfl))), row_agree hr fun k e => hk k (.inr (.inr e))⟩
theorem MemAt.alloc {B : Nat} {s : MS} {O : Nat → Prop} {W : World} (h : MemAt B s O W) (o : Obj) : MemAt B s O (W.alloc o) := h.agree fun k hk => Below.heap_alloc _ _ _ (h.lt hk)
theorem MemAt.keeps {B : Nat} {s : MS} {O O' : Nat → Prop} {W W' : World} (h : MemAt B s O W) (hk : Keeps O' W W') (hd : ∀ k, O k → ¬ O' k) : MemAt B s O W' := h.agree fun k ho => hk.block k (h.lt ho) (hd k ho)
theorem MemAt.own {B : Nat} {s : MS} {O : Nat → Prop} {W : World} (h : MemAt B s O W) : O B := by
  obtain ⟨G, v, rfl, _⟩ := h
  exact .inl rfl

/-- The memory has become s'; its own blocks alone have turned. -/
def Turn (B : Nat) (s' : MS) (O : Nat → Prop) (W W' : World) : Prop := ∃ O', Keeps O W W' ∧ Later O W O' ∧ MemAt B s' O' W'
theorem Turn.refl {B : Nat} {s : MS} {O : Nat → Prop} {W : World} (h : MemAt B s O W) : Turn B s O W W := ⟨O, Keeps.refl _ _, Later.refl _ _, h⟩
theorem Turn.from {B : Nat} {s' : MS} {O O1 : Nat → Prop} {W W1 W' : World} (hk : Keeps O W W1) (hl : Later O W O1) (h : Turn B s' O1 W1 W') : Turn B s' O W W' := by
  obtain ⟨O', k, l, m⟩ := h
  exact ⟨O', hk.trans k hl, hl.trans hk.size l, m⟩
/-- What a call leaves that hands v back. -/
def Does (B : Nat) (v : Value) (s' : MS) (O : Nat → Prop) (W : World) (e : Ending) (W' : World) : Prop := e = .returned v ∧ Turn B s' O W W'

abbrev at0 (b : Nat) : Value := .pointer (some ⟨b, 0, none⟩)
theorem info24 : (Tryz.prog.info? 24).map (fun i => (i.zero, i.size, i.bytes)) = some (some (.int .u64 0), 1, 8) := by kernel_rfl
theorem info88 : (Tryz.prog.info? 88).map (fun i => (i.zero, i.size, i.bytes)) = some (some (.agg #[.int .i64 0, .int .i64 0, .int .i64 0, .bool false]), 4, 32) := by kernel_rfl

/-! ### ask -/
def inB (n : Nat) (a : Int) : Bool := decide (0 ≤ a) && decide (a < n)
/-- What ask answers. -/
def askR (n : Nat) (xs : List Int) : Int := if xs.all (inB n) then 0 else 2
theorem askR_ok {n : Nat} {xs : List Int} (h : ∀ a ∈ xs, inB n a = true) : askR n xs = 0 := by
  unfold askR; rw [if_pos]; simpa using h
theorem askR_bad {n : Nat} {xs : List Int} {a : Int} (ha : a ∈ xs) (h : inB n a = false) : askR n xs = 2 := by
  unfold askR; rw [if_neg]
  intro hh
  have := List.all_eq_true.1 hh a ha
  rw [h] at this; cases this
theorem ret_int {k : IntKind} {a b : Int} (h : a = b) : Ending.returned (.int k a) = .returned (.int k b) := by rw [h]

theorem ask_nil (v : Value) (w : World) : Calls Tryz.prog 42 #[.pointer none, v] w fun e w' => e = .returned (.int .i64 1) ∧ w = w' := by
  go_enter Tryz.func42, Tryz.ntmps42
  go_wp2
  go_ret
  exact ⟨rfl, rfl⟩

set_option maxHeartbeats 1000000 in
theorem ask_any (B n cap A : Nat) (ad : Option Addr) (xs : List Int) (w : World) (hn : n ≤ 1000000) (hl : xs.length ≤ 1000) (hb : w.cell? ⟨B, 0, none⟩ = some (.slice ad n cap))
    (hA : ∀ i x, xs[i]? = some x → w.cell? ⟨A, i, none⟩ = some (.int .i64 x)) :
    Calls Tryz.prog 42 #[at0 B, .slice (some ⟨A, 0, none⟩) xs.length xs.length] w fun e w' => e = .returned (.int .i64 (askR n xs)) ∧ w = w' := by
  have HA := Lib.hid hA
  clear hA
  obtain ⟨m, hm⟩ : ∃ m, xs.length = m := ⟨_, rfl⟩
  rw [hm] at hl ⊢
  have HM := Lib.hid hm
  clear hm
  go_enter Tryz.func42, Tryz.ntmps42
  go_wp2
  go_loop [11] (fun i => ∃ k : Nat, k ≤ m ∧ i = .int .i64 k ∧ ∀ a ∈ xs.take k, inB n a = true) (fun i => m - (intOf i).toNat)
  case atStart => exact ⟨0, by omega, rfl, by simp⟩
  case round =>
    obtain ⟨k, hk, rfl, hin⟩ := hrel
    have HI := Lib.hid hin
    clear hin
    by_cases hlt : k < m
    · have hx : xs[k]? = some (xs[k]'(by rw [HM.out]; exact hlt)) := List.getElem?_eq_getElem _
      obtain ⟨x, hx⟩ : ∃ x, xs[k]? = some x := ⟨_, hx⟩
      have hc := HA.out k x hx
      have HX := Lib.hid hx
      clear hx
      have hmem : x ∈ xs := List.mem_of_getElem? HX.out
      by_cases h0 : x < 0
      · have HB : Hid (inB n x = false) := by unfold inB; exact Lib.hid (by simp; omega)
        go_wp2
        go_ret
        exact ⟨ret_int (askR_bad hmem HB.out).symm, rfl⟩
      · by_cases h1 : (n : Int) ≤ x
        · have HB : Hid (inB n x = false) := by unfold inB; exact Lib.hid (by simp; omega)
          go_wp2
          go_ret
          exact ⟨ret_int (askR_bad hmem HB.out).symm, rfl⟩
        · have HB : Hid (inB n x = true) := by unfold inB; exact Lib.hid (by simp; omega)
          go_wp2
          go_round
          case rel => exact ⟨k + 1, by omega, by go_num, by
            intro a ha
            rw [List.take_add_one, HX.out] at ha
            simp at ha
            rcases ha with ha | rfl
            · exact HI.out a ha
            · exact HB.out⟩
          case measure => simp [intOf]; omega
    · go_wp2
      go_ret
      exact ⟨ret_int (askR_ok fun a ha => HI.out a (by rw [List.take_of_length_le (by rw [HM.out]; omega)]; exact ha)).symm, rfl⟩
end Go.Proofs.YtemikojaldoofaaGreat
namespace Go.Proofs.YtemikojaldoofaaGreat
open Go.ChangeShapes Go.WideShapes Go.ChangeAt Go.RowKit
set_option linter.unusedVariables false

set_option maxRecDepth 20000
theorem steps_nil (w : World) : Calls Tryz.prog 15 #[.pointer none] w fun e w' => e = .returned (.int .i64 0) ∧ w = w' := by
  go_enter Tryz.func15, Tryz.ntmps15
  go_wp2
  go_ret
  exact ⟨rfl, rfl⟩
theorem words_nil (w : World) : Calls Tryz.prog 29 #[.pointer none] w fun e w' => e = .returned (.slice none 0 0) ∧ w = w' := by
  go_enter Tryz.func29, Tryz.ntmps29
  go_wp2
  go_ret
  exact ⟨rfl, rfl⟩

theorem steps_any (B : Nat) (s : MS) (O : Nat → Prop) (w : World) (h : MemAt B s O w) :
    Calls Tryz.prog 15 #[at0 B] w fun e w' => e = .returned (.int .i64 s.st) ∧ w = w' := by
  obtain ⟨G, v, rfl, hb, hg, hr⟩ := h
  have c := hb.cell 1
  simp at c
  go_enter Tryz.func15, Tryz.ntmps15
  go_wp2
  go_ret
  exact ⟨rfl, rfl⟩

theorem made (n : Nat) (w : World) (h : n ≤ 4096) : (Instr.makeSlice 43 (.int .i64 n) (.int .i64 n)).run Tryz.prog w = .ok (.slice (some ⟨w.heap.size, 0, none⟩) n n) (w.alloc (.cells (encU (List.replicate n 0)).toArray 24)) := by
  obtain ⟨i0, hi, hz0, hz1, hz2⟩ := info_parts info24
  have := run_makeSlice (P := Tryz.prog) w 43 24 i0 (.int .u64 0) Tryz.underlying43 hi hz0 .i64 .i64 n n (by omega) (by omega) (by rw [hz1]; simp; omega) (by rw [hz2]; omega) (by omega)
  rw [this]
  have hc : madeCells (Value.int .u64 0).cells ((n : Int).toNat * i0.size) = (encU (List.replicate n 0)).toArray := by
    rw [hz1]
    unfold madeCells
    apply Array.ext
    · simp [encU]
    · intro j h1 h2
      simp [encU, Value.cells, Nat.mod_one]
  rw [hc]
  simp

/-- A new memory. -/
def NewMem (n : Nat) (w : World) (e : Ending) (w' : World) : Prop :=
  e = .returned (.tuple #[at0 (w.heap.size + 1), .int .i64 0]) ∧ Below w.heap.size w w' ∧ ∃ O, MemAt (w.heap.size + 1) ⟨List.replicate n 0, 0, false, []⟩ O w' ∧ ∀ k, O k → w.heap.size ≤ k
theorem new_yes (n : Nat) (w : World) (h0 : 1 ≤ n) (h : n ≤ 4096) :
    Calls Tryz.prog 33 #[.int .i64 n] w (NewMem n w) := by
  have hm := made n w h
  go_enter Tryz.func33, Tryz.ntmps33
  go_wp2
  go_ret2
  have hb : Blk (w.alloc (.cells (encU (List.replicate n 0)).toArray 24)) w.heap.size 24 (encU (List.replicate n 0)).toArray := Blk.new _ _ _
  refine ⟨rfl, ((Below.refl _ _).alloc (Nat.le_refl _) _).alloc (by simp) _, _, ⟨w.heap.size, .slice none 0 0, rfl, ?_, hb.alloc _, World.ownsRow_nil _ _ _ _⟩, ?_⟩
  · have := Blk.new (w.alloc (.cells (encU (List.replicate n 0)).toArray 24)) 85 #[.slice (some ⟨w.heap.size, 0, none⟩) n n, .int .i64 0, .bool false, .slice none 0 0]
    simpa using this
  · rintro k (rfl | rfl | h)
    · omega
    · omega
    · cases h
theorem new_no (n : Int) (w : World) (h : n < 1 ∨ 4096 < n) :
    Calls Tryz.prog 33 #[.int .i64 n] w fun e w' => e = .returned (.tuple #[.pointer none, .int .i64 2]) ∧ w = w' := by
  by_cases h0 : n < 1
  · go_enter Tryz.func33, Tryz.ntmps33
    go_wp2
    go_ret2
    exact ⟨rfl, rfl⟩
  · have h1 : 4096 < n := by omega
    go_enter Tryz.func33, Tryz.ntmps33
    go_wp2
    go_ret2
    exact ⟨rfl, rfl⟩

/-! ### count -/
theorem st_next (st : Int) (h0 : 0 ≤ st) (h1 : st ≤ 1000000000) : IntKind.i64.wrap (st + 1) = st + 1 := IntWalk.i64_in _ (by omega)

set_option maxHeartbeats 1000000 in
theorem count_off (B : Nat) (s : MS) (O : Nat → Prop) (k a b : Int) (d : Bool) (w : World) (h : MemAt B s O w) (hw : s.wa = false) (h0 : 0 ≤ s.st) (h1 : s.st ≤ 1000000000) :
    Calls Tryz.prog 43 #[at0 B, .agg #[.int .i64 k, .int .i64 a, .int .i64 b, .bool d]] w (Does B (.tuple #[]) (s.counted (k, a, b, d)) O w) := by
  obtain ⟨ws, st, wa, log⟩ := s
  obtain rfl : wa = false := hw
  obtain ⟨G, v, rfl, hb, hg, hr⟩ := h
  simp only at h0 h1 hb hg hr
  have lb := hb.lt
  have c1 := hb.cell 1
  have c2 := hb.cell 2
  have f1 := hb.frozen 1
  simp at c1 c2
  go_enter Tryz.func43, Tryz.ntmps43
  go_wp2
  go_end0
  refine ⟨rfl, _, ((Keeps.refl _ w).setCell (.inl (.inl rfl)) _).alloc _, Later.refl _ _, G, v, rfl, ?_, (hg.far (hg.ne hb (by decide)) _).alloc _, (ownsRow_setCell_other hr (hb.not_row hr (by decide)) _).alloc _⟩
  simpa [MS.counted] using (hb.set 1 (.int .i64 (st + 1))).alloc (.cells #[.int .i64 k, .int .i64 a, .int .i64 b, .bool d] 88)

theorem cell3 {B : Nat} {w2 w3 : World} {o : Obj} {x0 x1 x2 v : Value} (hb : Blk w2 B 85 #[x0, x1, x2, v]) (nb : v.ownBlock ≠ some B) (hg : ((w2.alloc o).drew).grownBy w3 v.ownBlock) : w3.cell? ⟨B, 3, none⟩ = some v := by
  have := (Blk.agree (W := (w2.alloc o).drew) (W' := w3) (hb.alloc o) (hg.block B (by have := hb.lt; simp [World.drew]; omega) (Ne.symm nb))).cell 3
  simpa using this
theorem frozen3 {B : Nat} {w2 w3 : World} {o : Obj} {x0 x1 x2 v : Value} (hb : Blk w2 B 85 #[x0, x1, x2, v]) (nb : v.ownBlock ≠ some B) (hg : ((w2.alloc o).drew).grownBy w3 v.ownBlock) : w3.frozen? ⟨B, 3, none⟩ = false :=
  (Blk.agree (W := (w2.alloc o).drew) (W' := w3) (hb.alloc o) (hg.block B (by have := hb.lt; simp [World.drew]; omega) (Ne.symm nb))).frozen 3

theorem logged {B G gg cap n : Nat} {w w2 w3 : World} {o : Obj} {v : Value} {ws : List Int} {st : Int} {log : List Acc} {x : Acc} (hb : Blk w2 B 85 #[.slice (some ⟨G, 0, none⟩) ws.length ws.length, .int .i64 (st + 1), .bool true, v])
    (hg : Blk w2 G 24 (encU ws).toArray) (hr : w2.ownsRow 0 88 4 v n (encL log)) (hn : log.length = n) (kw : Keeps (fun k => k = B ∨ k = G ∨ v.ownBlock = some k) w w2) (hs : w.heap.size ≤ w2.heap.size)
    (ho : w3.ownsRow 0 88 4 (.slice (some ⟨gg, 0, none⟩) (n + 1) cap) (n + 1) (encL log ++ encA x)) (hgr : ((w2.alloc o).drew).grownBy w3 v.ownBlock) (hat : v.ownBlock = some gg ∨ gg = w2.heap.size + 1) :
    Turn B (MS.counted ⟨ws, st, true, log⟩ x) (fun k => k = B ∨ k = G ∨ v.ownBlock = some k) w (w3.setCell ⟨B, 3, none⟩ (.slice (some ⟨gg, 0, none⟩) (n + 1) cap)) := by
  have nb := hb.not_row hr (by decide)
  have ng := hg.not_row hr (by decide)
  have hb3 : Blk w3 B 85 _ := Blk.agree (W := (w2.alloc o).drew) (hb.alloc o) (hgr.block B (by have := hb.lt; simp [World.drew]; omega) (Ne.symm nb))
  have hg3 : Blk w3 G 24 _ := Blk.agree (W := (w2.alloc o).drew) (hg.alloc o) (hgr.block G (by have := hg.lt; simp [World.drew]; omega) (Ne.symm ng))
  refine ⟨fun k => k = B ∨ k = G ∨ (Value.slice (some ⟨gg, 0, none⟩) (n + 1) cap).ownBlock = some k, ((kw.alloc o).drew.grown hgr (fun k e => .inl (.inr (.inr e)))).setCell (.inl (.inl rfl)) _, ?_, G, _, rfl, ?_, hg3.far (hg3.ne hb3 (by decide)) _, ?_⟩
  · rintro k (rfl | rfl | hk)
    · exact .inl (.inl rfl)
    · exact .inl (.inr (.inl rfl))
    · have hk' : gg = k := by simpa [Value.ownBlock] using hk
      subst hk'
      rcases hat with h | h
      · exact .inl (.inr (.inr h))
      · exact .inr (by omega)
  · simpa [MS.counted] using hb3.set 3 (.slice (some ⟨gg, 0, none⟩) (n + 1) cap)
  · have := ownsRow_setCell_other (a := ⟨B, 3, none⟩) ho (hb3.not_row ho (by decide)) (.slice (some ⟨gg, 0, none⟩) (n + 1) cap)
    simpa [MS.counted, encL_snoc, hn] using this

set_option maxHeartbeats 4000000 in
theorem count_on (B : Nat) (s : MS) (O : Nat → Prop) (k a b : Int) (d : Bool) (w : World) (h : MemAt B s O w) (hw : s.wa = true) (h0 : 0 ≤ s.st) (h1 : s.st ≤ 1000000000) (h2 : s.log.length ≤ 1000000) :
    Calls Tryz.prog 43 #[at0 B, .agg #[.int .i64 k, .int .i64 a, .int .i64 b, .bool d]] w (Does B (.tuple #[]) (s.counted (k, a, b, d)) O w) := by
  obtain ⟨ws, st, wa, log⟩ := s
  obtain rfl : wa = true := hw
  obtain ⟨G, v, rfl, hb, hg, hr⟩ := h
  simp only at h0 h1 h2 hb hg hr
  obtain ⟨i0, hi, hz0, hz1, hz2⟩ := info_parts info88
  have lb := hb.lt
  have c1 := hb.cell 1
  have c2 := hb.cell 2
  have f1 := hb.frozen 1
  have f3 := hb.frozen 3
  have hx : Blk (w.alloc (.cells #[.int .i64 k, .int .i64 a, .int .i64 b, .bool d] 88)) w.heap.size 88 _ := Blk.new _ _ _
  simp at c1 c2
  go_enter Tryz.func43, Tryz.ntmps43
  go_wp2
  have kW : Keeps (fun k => k = B ∨ k = G ∨ v.ownBlock = some k) w ((w.setCell ⟨B, 1, none⟩ (.int .i64 (st + 1))).alloc (.cells #[.int .i64 k, .int .i64 a, .int .i64 b, .bool d] 88)) := ((Keeps.refl _ w).setCell (.inl (.inl rfl)) _).alloc _
  have hb2 : Blk ((w.setCell ⟨B, 1, none⟩ (.int .i64 (st + 1))).alloc (.cells #[.int .i64 k, .int .i64 a, .int .i64 b, .bool d] 88)) B 85 #[.slice (some ⟨G, 0, none⟩) ws.length ws.length, .int .i64 (st + 1), .bool true, v] := by
    simpa using (hb.set 1 (.int .i64 (st + 1))).alloc _
  have hg2 := (hg.far (p := ⟨B, 1, none⟩) (hg.ne hb (by decide)) (.int .i64 (st + 1))).alloc (.cells #[.int .i64 k, .int .i64 a, .int .i64 b, .bool d] 88)
  have hr2 := (ownsRow_setCell_other (a := ⟨B, 1, none⟩) hr (hb.not_row hr (by decide)) (.int .i64 (st + 1))).alloc (.cells #[.int .i64 k, .int .i64 a, .int .i64 b, .bool d] 88)
  have hx2 : Blk ((w.setCell ⟨B, 1, none⟩ (.int .i64 (st + 1))).alloc (.cells #[.int .i64 k, .int .i64 a, .int .i64 b, .bool d] 88)) w.heap.size 88 #[.int .i64 k, .int .i64 a, .int .i64 b, .bool d] := by
    simpa using Blk.new (w.setCell ⟨B, 1, none⟩ (.int .i64 (st + 1))) 88 #[.int .i64 k, .int .i64 a, .int .i64 b, .bool d]
  have KW := Lib.hid kW
  clear hb hg c1 c2 f1 f3 hx lb kW
  generalize (w.setCell ⟨B, 1, none⟩ (.int .i64 (st + 1))).alloc (.cells #[.int .i64 k, .int .i64 a, .int .i64 b, .bool d] 88) = w2 at *
  have nx : v.ownBlock ≠ some w.heap.size := fun e => by have := (hr.lt _ e).2; omega
  clear hr
  generalize w.heap.size = X at *
  have c3 := hb2.cell 3
  have f3 := hb2.frozen 3
  have lb := hb2.lt
  have lx := hx2.lt
  have nb := hb2.not_row hr2 (by decide)
  have x0 := hx2.cell 0
  have x1 := hx2.cell 1
  have x2 := hx2.cell 2
  have x3 := hx2.cell 3
  simp at c3 x0 x1 x2 x3
  obtain ⟨n, hn⟩ : ∃ n, log.length = n := ⟨_, rfl⟩
  rw [hn] at h2 hr2
  have HN := Lib.hid hn
  clear hn
  go_region_law
    ((refine step_append_lies _ (by rfl) _ _ _ (by rfl) 0 88 i0 _ 4 32 Tryz.underlying83 hi hz0 hz1 hz2 rfl (by omega) v n (encL log) (by rfl) ((hr2.alloc _).drew)
        ⟨w2.heap.size, 0, none⟩ 1 1 [.int .i64 k, .int .i64 a, .int .i64 b, .bool d] (by rfl) (by rfl) (World.news_of_block (cs := #[.int .i64 k, .int .i64 a, .int .i64 b, .bool d]) (t := 88) (fr := (0, 0)) (heap_alloc_new w2 _)) (by simp [Value.oneCell'])
        (by omega) (by unfold maxLen; omega) (by omega) (by omega) (w2.heap.size + 1) (by simp) ?_; intro gg cap w3 hown3 hgrow hat hlt; have c4 := cell3 hb2 nb hgrow; have f4 := frozen3 hb2 nb hgrow))
  all_goals
    go_end0
    exact ⟨rfl, logged hb2 hg2 hr2 HN.out KW.out KW.out.size hown3 hgrow hat⟩
theorem count_any (B : Nat) (s : MS) (O : Nat → Prop) (k a b : Int) (d : Bool) (w : World) (h : MemAt B s O w) (h0 : 0 ≤ s.st) (h1 : s.st ≤ 1000000000) (h2 : s.log.length ≤ 1000000) :
    Calls Tryz.prog 43 #[at0 B, .agg #[.int .i64 k, .int .i64 a, .int .i64 b, .bool d]] w (Does B (.tuple #[]) (s.counted (k, a, b, d)) O w) := by
  by_cases hw : s.wa = true
  · exact count_on B s O k a b d w h hw h0 h1 h2
  · exact count_off B s O k a b d w h (by simpa using hw) h0 h1
end Go.Proofs.YtemikojaldoofaaGreat
namespace Go.Proofs.YtemikojaldoofaaGreat
open Go.ChangeShapes Go.WideShapes Go.ChangeAt Go.RowKit
set_option linter.unusedVariables false

set_option maxRecDepth 20000


/-- It is small enough to be counted. -/
def MS.fine (s : MS) : Prop := 0 ≤ s.st ∧ s.st ≤ 1000000000 ∧ s.log.length ≤ 1000000 ∧ s.ws.length ≤ 4096

theorem ask1 (B : Nat) (s : MS) (O : Nat → Prop) (a r : Int) (A : Nat) (w : World) (h : MemAt B s O w) (hf : s.fine) (hA : w.cell? ⟨A, 0, none⟩ = some (.int .i64 a)) (hr : askR s.ws.length [a] = r) :
    Calls Tryz.prog 42 #[at0 B, .slice (some ⟨A, 0, none⟩) 1 1] w fun e w' => e = .returned (.int .i64 r) ∧ w = w' := by
  obtain ⟨G, v, rfl, hb, hg, hr'⟩ := h
  have c := hb.cell 0
  simp at c
  subst hr
  refine ask_any B s.ws.length _ A _ [a] w (by have := hf.2.2.2; omega) (by simp) c fun i x hx => ?_
  cases i with
  | zero => simp at hx; subst hx; exact hA
  | succ i => simp at hx
theorem ask2 (B : Nat) (s : MS) (O : Nat → Prop) (a b r : Int) (A : Nat) (w : World) (h : MemAt B s O w) (hf : s.fine) (hA : w.cell? ⟨A, 0, none⟩ = some (.int .i64 a)) (hA1 : w.cell? ⟨A, 1, none⟩ = some (.int .i64 b)) (hr : askR s.ws.length [a, b] = r) :
    Calls Tryz.prog 42 #[at0 B, .slice (some ⟨A, 0, none⟩) 2 2] w fun e w' => e = .returned (.int .i64 r) ∧ w = w' := by
  obtain ⟨G, v, rfl, hb, hg, hr'⟩ := h
  have c := hb.cell 0
  simp at c
  subst hr
  refine ask_any B s.ws.length _ A _ [a, b] w (by have := hf.2.2.2; omega) (by simp) c fun i x hx => ?_
  match i, hx with
  | 0, hx => simp at hx; subst hx; exact hA
  | 1, hx => simp at hx; subst hx; exact hA1
  | i + 2, hx => simp at hx
theorem inB_nat {n a : Nat} (h : a < n) : inB n a = true := by simp [inB, h]
theorem ok1 {n a : Nat} (h : a < n) : askR n [(a : Int)] = 0 := askR_ok (by simpa using inB_nat h)
theorem ok2 {n a b : Nat} (h : a < n) (h' : b < n) : askR n [(a : Int), (b : Int)] = 0 := askR_ok (by simpa using ⟨inB_nat h, inB_nat h'⟩)

/-- The word at a. -/
def wordAt (ws : List Int) (a : Nat) : Int := ws.getD a 0
theorem cell_word {W : World} {G a : Nat} {ws : List Int} (h : Blk W G 24 (encU ws).toArray) (ha : a < ws.length) : W.cell? ⟨G, a, none⟩ = some (.int .u64 (wordAt ws a)) := by
  rw [h.cell a]
  simp [encU, wordAt, List.getElem?_eq_getElem ha]
theorem stored {B G : Nat} {v : Value} {ws : List Int} {st : Int} {wa : Bool} {log : List Acc} {W : World} (hb : Blk W B 85 #[.slice (some ⟨G, 0, none⟩) ws.length ws.length, .int .i64 st, .bool wa, v])
    (hg : Blk W G 24 (encU ws).toArray) (hr : W.ownsRow 0 88 4 v log.length (encL log)) (a : Nat) (x : Int) :
    MemAt B ⟨ws.set a x, st, wa, log⟩ (fun k => k = B ∨ k = G ∨ v.ownBlock = some k) (W.setCell ⟨G, a, none⟩ (.int .u64 x)) := by
  refine ⟨G, v, rfl, ?_, ?_, ownsRow_setCell_other hr (hg.not_row hr (by decide)) _⟩
  · simpa using hb.far (p := ⟨G, a, none⟩) (hb.ne hg (by decide)) (.int .u64 x)
  · have := hg.set a (.int .u64 x)
    simpa [encU, List.map_set] using this

theorem load_ok (B : Nat) (s : MS) (O : Nat → Prop) (a : Nat) (w : World) (h : MemAt B s O w) (hf : s.fine) (ha : a < s.ws.length) :
    Calls Tryz.prog 18 #[at0 B, .int .i64 a] w (Does B (.tuple #[.int .u64 (wordAt s.ws a), .int .i64 0]) (s.counted (0, a, -1, false)) O w) := by
  go_enter Tryz.func18, Tryz.ntmps18
  go_wp2_with fail
  have h1 := h.alloc (.cells #[.int .i64 a] 3)
  refine (ask1 B s O a 0 w.heap.size _ h1 hf (by simp) (ok1 ha)).mono ?_
  rintro e w' ⟨rfl, rfl⟩
  have k1 := (Keeps.refl O w).alloc (.cells #[.int .i64 a] 3)
  go_wp2_with fail
  refine (count_any B s O 0 a (-1) false _ h1 hf.1 hf.2.1 hf.2.2.1).mono ?_
  rintro e w' ⟨rfl, hT⟩
  have hT2 := Turn.from k1 (Later.refl _ _) hT
  obtain ⟨O', hk, hl, G, v, rfl, hb, hg, hr⟩ := hT
  have c0 := hb.cell 0
  simp only [MS.counted] at hg hb c0
  have c1 := cell_word hg ha
  simp at c0
  have ha' : (a : Int) < s.ws.length := by omega
  go_wp2
  go_ret2
  exact ⟨rfl, hT2⟩
theorem load_bad (B : Nat) (s : MS) (O : Nat → Prop) (a : Int) (w : World) (h : MemAt B s O w) (hf : s.fine) (hr : askR s.ws.length [a] = 2) :
    Calls Tryz.prog 18 #[at0 B, .int .i64 a] w (Does B (.tuple #[.int .u64 0, .int .i64 2]) s O w) := by
  go_enter Tryz.func18, Tryz.ntmps18
  go_wp2_with fail
  have h1 := h.alloc (.cells #[.int .i64 a] 3)
  refine (ask1 B s O a 2 w.heap.size _ h1 hf (by simp) hr).mono ?_
  rintro e w' ⟨rfl, rfl⟩
  have hT := Turn.from ((Keeps.refl O w).alloc (.cells #[.int .i64 a] 3)) (Later.refl _ _) (Turn.refl h1)
  clear hr
  go_wp2
  go_ret2
  exact ⟨rfl, hT⟩
theorem load_nil (a : Int) (w : World) : Calls Tryz.prog 18 #[.pointer none, .int .i64 a] w fun e w' => e = .returned (.tuple #[.int .u64 0, .int .i64 1]) ∧ Below w.heap.size w w' := by
  go_enter Tryz.func18, Tryz.ntmps18
  go_wp2_with (go_at_call 42; refine (ask_nil _ _).mono ?_; rintro e w' ⟨rfl, rfl⟩)
  go_ret2
  exact ⟨rfl, (Below.refl _ _).alloc (Nat.le_refl _) _⟩
theorem store_bad (B : Nat) (s : MS) (O : Nat → Prop) (a x : Int) (w : World) (h : MemAt B s O w) (hf : s.fine) (hr : askR s.ws.length [a] = 2) :
    Calls Tryz.prog 13 #[at0 B, .int .i64 a, .int .u64 x] w (Does B (.int .i64 2) s O w) := by
  go_enter Tryz.func13, Tryz.ntmps13
  go_wp2_with fail
  have h1 := h.alloc (.cells #[.int .i64 a] 3)
  refine (ask1 B s O a 2 w.heap.size _ h1 hf (by simp) hr).mono ?_
  rintro e w' ⟨rfl, rfl⟩
  have hT := Turn.from ((Keeps.refl O w).alloc (.cells #[.int .i64 a] 3)) (Later.refl _ _) (Turn.refl h1)
  clear hr
  go_wp2
  go_ret
  exact ⟨rfl, hT⟩
theorem store_nil (a x : Int) (w : World) : Calls Tryz.prog 13 #[.pointer none, .int .i64 a, .int .u64 x] w fun e w' => e = .returned (.int .i64 1) ∧ Below w.heap.size w w' := by
  go_enter Tryz.func13, Tryz.ntmps13
  go_wp2_with (go_at_call 42; refine (ask_nil _ _).mono ?_; rintro e w' ⟨rfl, rfl⟩)
  go_ret
  exact ⟨rfl, (Below.refl _ _).alloc (Nat.le_refl _) _⟩
theorem cas_bad (B : Nat) (s : MS) (O : Nat → Prop) (a o x : Int) (w : World) (h : MemAt B s O w) (hf : s.fine) (hr : askR s.ws.length [a] = 2) :
    Calls Tryz.prog 109 #[at0 B, .int .i64 a, .int .u64 o, .int .u64 x] w (Does B (.tuple #[.bool false, .int .i64 2]) s O w) := by
  go_enter Tryz.func109, Tryz.ntmps109
  go_wp2_with fail
  have h1 := h.alloc (.cells #[.int .i64 a] 3)
  refine (ask1 B s O a 2 w.heap.size _ h1 hf (by simp) hr).mono ?_
  rintro e w' ⟨rfl, rfl⟩
  have hT := Turn.from ((Keeps.refl O w).alloc (.cells #[.int .i64 a] 3)) (Later.refl _ _) (Turn.refl h1)
  clear hr
  go_wp2
  go_ret2
  exact ⟨rfl, hT⟩
theorem cas_nil (a o x : Int) (w : World) : Calls Tryz.prog 109 #[.pointer none, .int .i64 a, .int .u64 o, .int .u64 x] w fun e w' => e = .returned (.tuple #[.bool false, .int .i64 1]) ∧ Below w.heap.size w w' := by
  go_enter Tryz.func109, Tryz.ntmps109
  go_wp2_with (go_at_call 42; refine (ask_nil _ _).mono ?_; rintro e w' ⟨rfl, rfl⟩)
  go_ret2
  exact ⟨rfl, (Below.refl _ _).alloc (Nat.le_refl _) _⟩
end Go.Proofs.YtemikojaldoofaaGreat
namespace Go.Proofs.YtemikojaldoofaaGreat
open Go.ChangeShapes Go.WideShapes Go.ChangeAt Go.RowKit
set_option linter.unusedVariables false

set_option maxRecDepth 20000


theorem fine_set {ws : List Int} {st : Int} {wa : Bool} {log : List Acc} (h : MS.fine ⟨ws, st, wa, log⟩) (a : Nat) (x : Int) : MS.fine ⟨ws.set a x, st, wa, log⟩ := by
  obtain ⟨h0, h1, h2, h3⟩ := h
  exact ⟨h0, h1, h2, by simpa using h3⟩

theorem stored2 {B G : Nat} {v : Value} {ws : List Int} {st : Int} {wa : Bool} {log : List Acc} {W : World} (hb : Blk W B 85 #[.slice (some ⟨G, 0, none⟩) ws.length ws.length, .int .i64 st, .bool wa, v])
    (hg : Blk W G 24 (encU ws).toArray) (hr : W.ownsRow 0 88 4 v log.length (encL log)) (a b : Nat) (x y : Int) :
    MemAt B ⟨(ws.set a x).set b y, st, wa, log⟩ (fun k => k = B ∨ k = G ∨ v.ownBlock = some k) (((W.setCell ⟨G, a, none⟩ (.int .u64 x)).setCell ⟨G, b, none⟩ (.int .u64 y)).drew) := by
  have hb1 := hb.far (p := ⟨G, a, none⟩) (hb.ne hg (by decide)) (.int .u64 x)
  have hg1 : Blk (W.setCell ⟨G, a, none⟩ (.int .u64 x)) G 24 (encU (ws.set a x)).toArray := by
    simpa [encU, List.map_set] using hg.set a (.int .u64 x)
  have hr1 := ownsRow_setCell_other (a := ⟨G, a, none⟩) hr (hg.not_row hr (by decide)) (.int .u64 x)
  exact (stored (ws := ws.set a x) (by simpa using hb1) hg1 hr1 b y).agree fun _ _ => rfl

set_option maxHeartbeats 1000000 in
theorem store_ok (B : Nat) (ws : List Int) (st : Int) (wa : Bool) (log : List Acc) (O : Nat → Prop) (a : Nat) (x : Int) (w : World) (h : MemAt B ⟨ws, st, wa, log⟩ O w) (hf : MS.fine ⟨ws, st, wa, log⟩) (ha : a < ws.length) :
    Calls Tryz.prog 13 #[at0 B, .int .i64 a, .int .u64 x] w (Does B (.int .i64 0) (MS.counted ⟨ws.set a x, st, wa, log⟩ (1, a, (-1), true)) O w) := by
  go_enter Tryz.func13, Tryz.ntmps13
  go_wp2_with fail
  have h1 := h.alloc (.cells #[.int .i64 a] 3)
  refine (ask1 B _ _ a 0 w.heap.size _ h1 hf (by simp) (ok1 ha)).mono ?_
  rintro e w' ⟨rfl, rfl⟩
  have k1 := (Keeps.refl O w).alloc (.cells #[.int .i64 a] 3)
  generalize w.alloc (.cells #[.int .i64 a] 3) = w1 at *
  obtain ⟨G, v, rfl, hb, hg, hr⟩ := h1
  have c0 := hb.cell 0
  simp at c0
  have c1 := cell_word hg ha
  have f1 := hg.frozen a
  have ha' : (a : Int) < ws.length := by omega
  have hM := stored hb hg hr a (x)
  have k2 := k1.setCell (p := ⟨G, a, none⟩) (.inl (.inr (.inl rfl))) (.int .u64 (x))
  have hf2 := fine_set hf a (x)
  go_wp2_with fail
  refine (count_any B _ _ 1 a (-1) true _ hM hf2.1 hf2.2.1 hf2.2.2.1).mono ?_
  rintro e w' ⟨rfl, hT⟩
  have hT2 := Turn.from k2 (Later.refl _ _) hT
  go_wp2
  go_ret
  exact ⟨rfl, hT2⟩

set_option maxHeartbeats 1000000 in
theorem cas_yes (B : Nat) (ws : List Int) (st : Int) (wa : Bool) (log : List Acc) (O : Nat → Prop) (a : Nat) (o x : Int) (w : World) (h : MemAt B ⟨ws, st, wa, log⟩ O w) (hf : MS.fine ⟨ws, st, wa, log⟩) (ha : a < ws.length) (ho : wordAt ws a = o) :
    Calls Tryz.prog 109 #[at0 B, .int .i64 a, .int .u64 o, .int .u64 x] w (Does B (.tuple #[.bool true, .int .i64 0]) (MS.counted ⟨ws.set a x, st, wa, log⟩ (2, a, (-1), true)) O w) := by
  go_enter Tryz.func109, Tryz.ntmps109
  go_wp2_with fail
  have h1 := h.alloc (.cells #[.int .i64 a] 3)
  refine (ask1 B _ _ a 0 w.heap.size _ h1 hf (by simp) (ok1 ha)).mono ?_
  rintro e w' ⟨rfl, rfl⟩
  have k1 := (Keeps.refl O w).alloc (.cells #[.int .i64 a] 3)
  generalize w.alloc (.cells #[.int .i64 a] 3) = w1 at *
  obtain ⟨G, v, rfl, hb, hg, hr⟩ := h1
  have c0 := hb.cell 0
  simp at c0
  have c1 := cell_word hg ha
  have f1 := hg.frozen a
  have ha' : (a : Int) < ws.length := by omega
  rw [ho] at c1
  clear ho
  have hM := stored hb hg hr a (x)
  have k2 := k1.setCell (p := ⟨G, a, none⟩) (.inl (.inr (.inl rfl))) (.int .u64 (x))
  have hf2 := fine_set hf a (x)
  go_wp2_with fail
  refine (count_any B _ _ 2 a (-1) true _ hM hf2.1 hf2.2.1 hf2.2.2.1).mono ?_
  rintro e w' ⟨rfl, hT⟩
  have hT2 := Turn.from k2 (Later.refl _ _) hT
  go_wp2
  go_ret2
  exact ⟨rfl, hT2⟩

set_option maxHeartbeats 1000000 in
theorem cas_no (B : Nat) (ws : List Int) (st : Int) (wa : Bool) (log : List Acc) (O : Nat → Prop) (a : Nat) (o x : Int) (w : World) (h : MemAt B ⟨ws, st, wa, log⟩ O w) (hf : MS.fine ⟨ws, st, wa, log⟩) (ha : a < ws.length) (ho : wordAt ws a ≠ o) :
    Calls Tryz.prog 109 #[at0 B, .int .i64 a, .int .u64 o, .int .u64 x] w (Does B (.tuple #[.bool false, .int .i64 0]) (MS.counted ⟨ws, st, wa, log⟩ (2, a, (-1), false)) O w) := by
  go_enter Tryz.func109, Tryz.ntmps109
  go_wp2_with fail
  have h1 := h.alloc (.cells #[.int .i64 a] 3)
  refine (ask1 B _ _ a 0 w.heap.size _ h1 hf (by simp) (ok1 ha)).mono ?_
  rintro e w' ⟨rfl, rfl⟩
  have k1 := (Keeps.refl O w).alloc (.cells #[.int .i64 a] 3)
  generalize w.alloc (.cells #[.int .i64 a] 3) = w1 at *
  obtain ⟨G, v, rfl, hb, hg, hr⟩ := h1
  have c0 := hb.cell 0
  simp at c0
  have c1 := cell_word hg ha
  have f1 := hg.frozen a
  have ha' : (a : Int) < ws.length := by omega
  generalize wordAt ws a = y at *
  have ho2 : (y == o) = false := by simpa using ho
  go_wp2_with fail
  refine (count_any B _ _ 2 a (-1) false _ ⟨G, v, rfl, hb, hg, hr⟩ hf.1 hf.2.1 hf.2.2.1).mono ?_
  rintro e w' ⟨rfl, hT⟩
  have hT2 := Turn.from k1 (Later.refl _ _) hT
  go_wp2
  go_ret2
  exact ⟨rfl, hT2⟩

end Go.Proofs.YtemikojaldoofaaGreat
namespace Go.Proofs.YtemikojaldoofaaGreat
open Go.Joins Go.ChangeShapes Go.WideShapes Go.ChangeAt Go.RowKit Go.Deep
set_option linter.unusedVariables false

set_option maxRecDepth 20000


/-- A deed's value. -/
abbrev opV (k a b o n p q : Int) : Value := .agg #[.int .i64 k, .int .i64 a, .int .i64 b, .int .u64 o, .int .u64 n, .int .u64 p, .int .u64 q]
/-- Its numbers are what their kinds can hold. -/
def OpFits (k a b o n p q : Int) : Prop :=
  (-9223372036854775808 ≤ k ∧ k ≤ 9223372036854775807) ∧ (-9223372036854775808 ≤ a ∧ a ≤ 9223372036854775807) ∧ (-9223372036854775808 ≤ b ∧ b ≤ 9223372036854775807) ∧
  (0 ≤ o ∧ o < 18446744073709551616) ∧ (0 ≤ n ∧ n < 18446744073709551616) ∧ (0 ≤ p ∧ p < 18446744073709551616) ∧ (0 ≤ q ∧ q < 18446744073709551616)
theorem bd_i64 {x : Int} (h : (Lit.int .i64 x).wf = true) : -9223372036854775808 ≤ x ∧ x ≤ 9223372036854775807 := by
  simp [Lit.wf, IntKind.min, IntKind.max, IntKind.signed, IntKind.bits] at h
  exact ⟨by omega, by omega⟩
theorem bd_u64 {x : Int} (h : (Lit.int .u64 x).wf = true) : 0 ≤ x ∧ x < 18446744073709551616 := by
  simp [Lit.wf, IntKind.min, IntKind.max, IntKind.signed, IntKind.bits] at h
  exact ⟨by omega, by omega⟩

theorem int_of {H : Type} {enc : TypeId × Value → H} {w : World} {base : Nat} {spare : Nat → Bool} {held : Bool} {n : Nat} {t : TypeId} {q : IntKind} {c : Value} {y : Option (DataW H × List MemPlace)}
    (ht : Tryz.prog.underlying t = some (.int q)) (hy : y.isSome = true) (h : DataW.trod enc Tryz.prog w base spare held n t [c] = y) : ∃ x, c = .int q x ∧ (Lit.int q x).wf = true := by
  obtain ⟨y, rfl⟩ := Option.isSome_iff_exists.1 hy
  obtain ⟨x, hx, _, hw⟩ := DataW.trod_int ht h
  exact ⟨x, by simpa using hx, hw⟩

end Go.Proofs.YtemikojaldoofaaGreat
namespace Go.Proofs.YtemikojaldoofaaGreat
open Go.ChangeShapes Go.WideShapes Go.ChangeAt Go.RowKit
set_option linter.unusedVariables false

set_option maxRecDepth 20000


/-- May a step be, of n words? -/
def rightB (k a b : Int) (n : Nat) : Bool := decide (0 ≤ k) && decide (k ≤ 5) && inB n a && (decide (k < 4) || (inB n b && (decide (k = 5) || !decide (a = b))))

/-- A step that may be: the words behind it, what it tells, whether something was written. -/
def act (ws : List Int) (k : Int) (a : Nat) (b o x p q : Int) : List Int × Int × Bool :=
  if k = 0 then (ws, wordAt ws a, false)
  else if k = 1 then (ws.set a x, 0, true)
  else if k = 2 then (if wordAt ws a = o then (ws.set a x, 0, true) else (ws, 0, false))
  else if k = 3 then (ws.set a (IntKind.u64.wrap (wordAt ws a + x)), wordAt ws a, true)
  else if wordAt ws a = o ∧ wordAt ws b.toNat = p then ((if k = 4 then (ws.set a x).set b.toNat q else ws.set a x), 0, true) else (ws, 0, false)
theorem act_len (ws : List Int) (k : Int) (a : Nat) (b o x p q : Int) : (act ws k a b o x p q).1.length = ws.length := by
  unfold act
  repeat' split
  all_goals simp
/-- How it is logged. -/
def entry (ws : List Int) (k : Int) (a : Nat) (b o x p q : Int) : Acc := (k, a, if k < 4 then -1 else b, (act ws k a b o x p q).2.2)

end Go.Proofs.YtemikojaldoofaaGreat
namespace Go.Proofs.YtemikojaldoofaaGreat
open Go.ChangeShapes Go.WideShapes Go.ChangeAt Go.RowKit
set_option linter.unusedVariables false

set_option maxRecDepth 20000


theorem ones (ws : List Int) : ∀ u ∈ encU ws, u.oneCell' = true := ints_oneCell .u64 ws
theorem onesL (l : List Acc) : ∀ u ∈ encL l, u.oneCell' = true := by
  intro u hu
  simp only [encL, List.mem_flatMap] at hu
  obtain ⟨x, _, hx⟩ := hu
  simp [encA] at hx
  rcases hx with rfl | rfl | rfl | rfl <;> rfl
theorem q29 (w : World) (a : Option Addr) (n c n' c' : Nat) : (binOp .eql 43 (.slice a n c) (.slice none n' c')).run Tryz.prog w = .ok (.bool a.isNone) w := Lib.run_eql_slice_nil w _ _ a n c n' c' Tryz.underlying43
theorem q30 (w : World) (a : Option Addr) (n c n' c' : Nat) : (binOp .eql 83 (.slice a n c) (.slice none n' c')).run Tryz.prog w = .ok (.bool a.isNone) w := Lib.run_eql_slice_nil w _ _ a n c n' c' Tryz.underlying83

/-- A new row that reads xs. -/
def Copied (e : TypeId) (size n : Nat) (xs : List Value) (w : World) (r : Ending) (w' : World) : Prop := ∃ v, r = .returned v ∧ w'.ownsRow w.heap.size e size v n xs ∧ Below w.heap.size w w'

theorem add0 (g j : Nat) : (⟨g, 0, none⟩ : Addr).add j = ⟨g, j, none⟩ := by unfold Addr.add; split <;> simp_all
theorem news_of {w : World} {g : Nat} {xs : List Value} (h : ∀ j u, xs[j]? = some u → w.cell? ⟨g, j, none⟩ = some u) (o : Obj) : ∀ j u, xs[j]? = some u → (w.alloc o).cell? ((⟨g, 0, none⟩ : Addr).add j) = some u := by
  intro j u hj
  have := h j u hj
  rw [add0, Below.cell ((Below.refl w.heap.size w).alloc (Nat.le_refl _) _) (World.block_lt_of_cell? w _ this)]
  exact this

set_option maxHeartbeats 1000000 in
theorem clone24 (g n cap : Nat) (ws : List Int) (w : World) (hn : ws.length = n) (h1 : n ≤ 4096) (hc : ∀ j u, (encU ws)[j]? = some u → w.cell? ⟨g, j, none⟩ = some u) :
    Calls Tryz.prog 49 #[.slice (some ⟨g, 0, none⟩) n cap] w (Copied 24 1 n (encU ws) w) := by
  obtain ⟨i0, hi, hz0, hz1, hz2⟩ := info_parts info24
  have q := @q29
  have hm := World.ownsRow_made (base := w.heap.size) (e := 24) (size := 1) w #[] 0 (Nat.le_refl _) (by simp [maxLen]) rfl
  have HC := Lib.hid (news_of hc (.cells #[] 24))
  have HL := Lib.hid (show (encU ws).length = n * 1 by simp [encU_len, hn])
  have H1 := Lib.hid (ones ws)
  clear hc hn
  go_enter Tryz.func49, Tryz.ntmps49
  go_wp2_with (at_builtin; refine wpList_append_own _ rfl _ _ 43 rfl w.heap.size 24 i0 (.int .u64 0) 1 8 Tryz.underlying43 hi hz0 hz1 hz2 rfl (by decide) _ _ _ rfl hm ⟨g, 0, none⟩ n cap (encU ws) rfl HL.out HC.out H1.out (by simp only [maxLen]; omega) (by omega) (by simp) ?_; intro v' w1 hown hgrow _)
  go_ret
  refine ⟨v', rfl, by simpa using hown, ((Below.refl _ _).alloc (Nat.le_refl _) _).grown hgrow (by simp) (fun k e => ?_)⟩
  cases e
  exact Nat.le_refl _
theorem words_any (B : Nat) (s : MS) (O : Nat → Prop) (w : World) (h : MemAt B s O w) (h1 : s.ws.length ≤ 4096) :
    Calls Tryz.prog 29 #[at0 B] w (Copied 24 1 s.ws.length (encU s.ws) w) := by
  obtain ⟨G, v, rfl, hb, hg, hr⟩ := h
  have c0 := hb.cell 0
  simp at c0
  go_enter Tryz.func29, Tryz.ntmps29
  go_wp2_with fail
  refine (clone24 G s.ws.length s.ws.length s.ws w rfl h1 (fun j u hj => by rw [hg.cell j]; simpa using hj)).mono ?_
  rintro e w' ⟨u, rfl, ho, hB⟩
  go_wp2
  go_ret
  exact ⟨u, rfl, ho, hB⟩
end Go.Proofs.YtemikojaldoofaaGreat
