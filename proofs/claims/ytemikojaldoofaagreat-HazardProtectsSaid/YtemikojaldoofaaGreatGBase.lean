/- A ghost in the heap: a block with its three cells, the row of its tags; what has, fault, turn, Touch, Tag, First do. -/
import Derived.Test.YtemikojaldoofaaGreatRows
import Derived.WalkKit
import Derived.ProofKit
import Derived.Below
import Derived.OwnWalk
import Derived.OneCell
import Derived.Laws.OwnMore
import Derived.Laws.MakeOwn
import Derived.Laws.StructEq
import Derived.Lib.Hide
import Derived.WalkLawsBesides
import Derived.Handy
namespace Go.Proofs.YtemikojaldoofaaGreat.G
open Go.ChangeShapes Go.WideShapes Go.ChangeAt Go.RowKit
set_option linter.unusedVariables false

set_option maxRecDepth 20000


/-- A block that is known whole. -/
def Blk (W : World) (g : Nat) (t : TypeId) (cs : Array Value) : Prop := W.heap[g]? = some (.cells cs t (0, 0))
theorem Blk.lt {W : World} {g : Nat} {t : TypeId} {cs : Array Value} (h : Blk W g t cs) : g < W.heap.size := (Array.getElem?_eq_some_iff.1 h).1
theorem Blk.cell {W : World} {g : Nat} {t : TypeId} {cs : Array Value} (h : Blk W g t cs) (i : Nat) : W.cell? ⟨g, i, none⟩ = cs[i]? := cell_of_row W g i cs t (0, 0) h
theorem Blk.frozen {W : World} {g : Nat} {t : TypeId} {cs : Array Value} (h : Blk W g t cs) (i : Nat) : W.frozen? ⟨g, i, none⟩ = false := by
  unfold Blk at h
  simp [World.frozen?, h]
theorem Blk.agree {W W' : World} {g : Nat} {t : TypeId} {cs : Array Value} (h : Blk W g t cs) (e : W'.heap[g]? = W.heap[g]?) : Blk W' g t cs := e.trans h
theorem Blk.new (W : World) (t : TypeId) (cs : Array Value) : Blk (W.alloc (.cells cs t)) W.heap.size t cs := heap_alloc_new W _
theorem Blk.alloc {W : World} {g : Nat} {t : TypeId} {cs : Array Value} (h : Blk W g t cs) (o : Obj) : Blk (W.alloc o) g t cs := h.agree (Below.heap_alloc _ _ _ h.lt)
theorem Blk.below {W W' : World} {g : Nat} {t : TypeId} {cs : Array Value} (h : Blk W g t cs) (b : Below W.heap.size W W') : Blk W' g t cs := h.agree (b.block g h.lt)
theorem Blk.set {W : World} {g : Nat} {t : TypeId} {cs : Array Value} (h : Blk W g t cs) (i : Nat) (u : Value) : Blk (W.setCell ⟨g, i, none⟩ u) g t (cs.setIfInBounds i u) := by
  unfold Blk at h ⊢
  simp [World.setCell, Array.getElem?_modify, h]
theorem Blk.far {W : World} {g : Nat} {t : TypeId} {cs : Array Value} (h : Blk W g t cs) {p : Addr} (hp : g ≠ p.block) (u : Value) : Blk (W.setCell p u) g t cs := h.agree (Below.heap_setCell _ _ _ _ hp)
theorem Blk.ne {W : World} {g g' : Nat} {t t' : TypeId} {cs cs' : Array Value} (h : Blk W g t cs) (h' : Blk W g' t' cs') (ht : t ≠ t') : g ≠ g' := by
  rintro rfl
  have := (show W.heap[g]? = _ from h).symm.trans h'
  simp at this
  exact ht this.2

abbrev at0 (b : Nat) : Value := .pointer (some ⟨b, 0, none⟩)
def encI (l : List Int) : Array Value := (l.map (Value.int .i64)).toArray
def tagAt (l : List Int) (j : Nat) : Int := l.getD j 0
theorem cell_tag {W : World} {G a : Nat} {l : List Int} (h : Blk W G 3 (encI l)) (ha : a < l.length) : W.cell? ⟨G, a, none⟩ = some (.int .i64 (tagAt l a)) := by
  rw [h.cell a]
  simp [encI, tagAt, List.getElem?_eq_getElem ha]
theorem set_tag {W : World} {G a : Nat} {l : List Int} (h : Blk W G 3 (encI l)) (x : Int) : Blk (W.setCell ⟨G, a, none⟩ (.int .i64 x)) G 3 (encI (l.set a x)) := by
  have := h.set a (.int .i64 x)
  simpa [encI, List.map_set] using this

/-- A ghost, written plainly: its tags, the first fault. -/
structure GS where
  tags : List Int
  k : Int
  i : Int
/-- The ghost s behind a pointer to the block B; its tags lie where ad says. -/
structure GAt (B : Nat) (ad : Option Addr) (n : Nat) (s : GS) (W : World) : Prop where
  box : Blk W B 96 #[.slice ad n n, .int .i64 s.k, .int .i64 s.i]
  row : 0 < n → ∃ G, ad = some ⟨G, 0, none⟩ ∧ Blk W G 3 (encI s.tags)
  len : s.tags.length = n
  small : n ≤ 64
  first : s.k = 0 → s.i = 0
/-- Of the blocks that lay in W the ghost's own alone may have turned in W'. -/
structure Only (B : Nat) (ad : Option Addr) (W W' : World) : Prop where
  os : W'.os = W.os
  tape : W'.tape = W.tape
  output : W'.output = W.output
  size : W.heap.size ≤ W'.heap.size
  block : ∀ k, k < W.heap.size → k ≠ B → ad ≠ some ⟨k, 0, none⟩ → W'.heap[k]? = W.heap[k]?
theorem Only.refl (B : Nat) (ad : Option Addr) (W : World) : Only B ad W W := ⟨rfl, rfl, rfl, Nat.le_refl _, fun _ _ _ _ => rfl⟩
theorem Only.trans {B : Nat} {ad : Option Addr} {X Y Z : World} (h : Only B ad X Y) (k : Only B ad Y Z) : Only B ad X Z :=
  ⟨k.os.trans h.os, k.tape.trans h.tape, k.output.trans h.output, Nat.le_trans h.size k.size, fun i hi hb ha =>
    (k.block i (Nat.lt_of_lt_of_le hi h.size) hb ha).trans (h.block i hi hb ha)⟩
theorem Only.of_below {B : Nat} {ad : Option Addr} {W W' : World} (h : Below W.heap.size W W') : Only B ad W W' :=
  ⟨h.os, h.tape, h.output, h.size, fun k hk _ _ => h.block k hk⟩
theorem Only.alloc {B : Nat} {ad : Option Addr} (W : World) (o : Obj) : Only B ad W (W.alloc o) := .of_below ((Below.refl _ _).alloc (Nat.le_refl _) _)
theorem Only.set {B : Nat} {ad : Option Addr} (W : World) {p : Addr} (hp : p.block = B ∨ ad = some ⟨p.block, 0, none⟩) (u : Value) : Only B ad W (W.setCell p u) :=
  ⟨rfl, rfl, rfl, by simp [World.setCell], fun k hk hb ha => Below.heap_setCell _ _ _ _ (fun e => by subst e; rcases hp with h | h; exact hb h; exact ha h)⟩
theorem Only.below {B : Nat} {ad : Option Addr} {W W' : World} {b : Nat} (h : Only B ad W W') (hs : b ≤ W.heap.size) (hB : b ≤ B) (hG : ∀ g, ad = some ⟨g, 0, none⟩ → b ≤ g) : Below b W W' :=
  ⟨h.os, h.tape, h.output, h.size, fun k hk => h.block k (by omega) (by omega) (fun e => by have := hG k e; omega)⟩
theorem Only.blk {B : Nat} {ad : Option Addr} {W W' : World} (h : Only B ad W W') {g : Nat} {t : TypeId} {cs : Array Value} (hb : Blk W g t cs) (h0 : g ≠ B) (h1 : ad ≠ some ⟨g, 0, none⟩) : Blk W' g t cs := hb.agree (h.block g hb.lt h0 h1)
theorem GAt.below {B : Nat} {ad : Option Addr} {n : Nat} {s : GS} {W W' : World} (h : GAt B ad n s W) (b : Below W.heap.size W W') : GAt B ad n s W' :=
  ⟨h.box.below b, fun hn => by obtain ⟨G, e, hG⟩ := h.row hn; exact ⟨G, e, hG.below b⟩, h.len, h.small, h.first⟩
theorem GAt.alloc {B : Nat} {ad : Option Addr} {n : Nat} {s : GS} {W : World} (h : GAt B ad n s W) (o : Obj) : GAt B ad n s (W.alloc o) := h.below ((Below.refl _ _).alloc (Nat.le_refl _) _)

/-- A fault, unless there was one ahead of it. -/
def GS.bad (s : GS) (kind i : Int) : GS := if s.k = 0 then ⟨s.tags, kind, i⟩ else s
/-- What a call leaves that hands v back, the ghost being s' then. -/
def Does (B : Nat) (ad : Option Addr) (n : Nat) (v : Value) (s' : GS) (W : World) (e : Ending) (W' : World) : Prop := e = .returned v ∧ GAt B ad n s' W' ∧ Only B ad W W'

/-! ### has -/
theorem has_nil (i : Int) (w : World) : Calls Tryz.prog 46 #[.pointer none, .int .i64 i] w fun e w' => e = .returned (.bool false) ∧ w = w' := by
  go_enter Tryz.func46, Tryz.ntmps46
  go_wp2
  go_ret
  exact ⟨rfl, rfl⟩
theorem has_low (B : Nat) (i : Int) (w : World) (h : i < 1) : Calls Tryz.prog 46 #[at0 B, .int .i64 i] w fun e w' => e = .returned (.bool false) ∧ w = w' := by
  go_enter Tryz.func46, Tryz.ntmps46
  go_wp2
  go_ret
  exact ⟨rfl, rfl⟩
theorem has_high (B : Nat) (ad : Option Addr) (n : Nat) (s : GS) (i : Int) (w : World) (g : GAt B ad n s w) (h : 1 ≤ i) (h1 : (n : Int) < i) : Calls Tryz.prog 46 #[at0 B, .int .i64 i] w fun e w' => e = .returned (.bool false) ∧ w = w' := by
  have c := g.box.cell 0
  have := g.small
  have hd : decide (i ≤ (n : Int)) = false := by simp; omega
  simp at c
  clear g
  go_enter Tryz.func46, Tryz.ntmps46
  go_wp2
  go_ret
  exact ⟨by simp, rfl⟩
theorem has_yes (B : Nat) (ad : Option Addr) (n : Nat) (s : GS) (i : Int) (w : World) (g : GAt B ad n s w) (h : 1 ≤ i) (h1 : i ≤ n) : Calls Tryz.prog 46 #[at0 B, .int .i64 i] w fun e w' => e = .returned (.bool true) ∧ w = w' := by
  have c := g.box.cell 0
  have := g.small
  simp at c
  clear g
  go_enter Tryz.func46, Tryz.ntmps46
  go_wp2
  go_ret
  exact ⟨rfl, rfl⟩
theorem has_no (B : Nat) (ad : Option Addr) (n : Nat) (s : GS) (i : Int) (w : World) (g : GAt B ad n s w) (h : i < 1 ∨ (n : Int) < i) : Calls Tryz.prog 46 #[at0 B, .int .i64 i] w fun e w' => e = .returned (.bool false) ∧ w = w' := by
  by_cases h0 : i < 1
  · exact has_low B i w h0
  · exact has_high B ad n s i w g (by omega) (by omega)

/-! ### fault -/
theorem fault_nil (k i : Int) (w : World) : Calls Tryz.prog 104 #[.pointer none, .int .i64 k, .int .i64 i] w fun e w' => e = .returned (.bool false) ∧ w = w' := by
  go_enter Tryz.func104, Tryz.ntmps104
  go_wp2
  go_ret
  exact ⟨rfl, rfl⟩
theorem fault_any (B : Nat) (ad : Option Addr) (n : Nat) (s : GS) (k i : Int) (w : World) (g : GAt B ad n s w) (hk : k ≠ 0) :
    Calls Tryz.prog 104 #[at0 B, .int .i64 k, .int .i64 i] w (Does B ad n (.bool false) (s.bad k i) w) := by
  obtain ⟨tags, k0, i0⟩ := s
  have c1 := g.box.cell 1
  have c2 := g.box.cell 2
  have f1 := g.box.frozen 1
  have f2 := g.box.frozen 2
  simp at c1 c2
  by_cases h0 : k0 = 0
  · subst h0
    obtain rfl : i0 = 0 := g.first rfl
    go_enter Tryz.func104, Tryz.ntmps104
    go_wp2
    go_ret
    refine ⟨rfl, ⟨?_, fun hn => ?_, g.len, g.small, fun h => absurd h hk⟩, ?_⟩
    · have := (g.box.set 1 (.int .i64 k)).set 2 (.int .i64 i)
      simpa [GS.bad] using this
    · obtain ⟨G, e, hG⟩ := g.row hn
      have hne := hG.ne g.box (by decide)
      exact ⟨G, e, (hG.far (p := ⟨B, 1, none⟩) hne _).far (p := ⟨B, 2, none⟩) hne _⟩
    · exact (Only.set w (p := ⟨B, 1, none⟩) (.inl rfl) _).trans (Only.set _ (p := ⟨B, 2, none⟩) (.inl rfl) _)
  · have e : GS.bad ⟨tags, k0, i0⟩ k i = ⟨tags, k0, i0⟩ := by simp [GS.bad, h0]
    rw [e]
    go_enter Tryz.func104, Tryz.ntmps104
    go_wp2
    go_ret
    exact ⟨rfl, g, Only.refl _ _ _⟩

/-! ### First, Tag, Touch, turn -/
theorem first_nil (w : World) : Calls Tryz.prog 48 #[.pointer none] w fun e w' => e = .returned (.agg #[.int .i64 0, .int .i64 0]) ∧ Below w.heap.size w w' := by
  go_enter Tryz.func48, Tryz.ntmps48
  go_wp2
  refine bodyPost_ret (v := .agg #[.int .i64 0, .int .i64 0]) (by simp [results, Tryz.results48, go_sem]) rfl ⟨rfl, ?_⟩
  exact ((Below.refl _ _).alloc (Nat.le_refl _) _)
theorem first_any (B : Nat) (ad : Option Addr) (n : Nat) (s : GS) (w : World) (g : GAt B ad n s w) : Calls Tryz.prog 48 #[at0 B] w fun e w' => e = .returned (.agg #[.int .i64 s.k, .int .i64 s.i]) ∧ Below w.heap.size w w' := by
  have c1 := g.box.cell 1
  have c2 := g.box.cell 2
  have hlt := g.box.lt
  simp at c1 c2
  clear g
  go_enter Tryz.func48, Tryz.ntmps48
  go_wp2
  refine bodyPost_ret (v := .agg #[.int .i64 s.k, .int .i64 s.i]) (by simp [results, Tryz.results48, go_sem]) rfl ⟨rfl, ?_⟩
  exact ((Below.refl _ _).alloc (Nat.le_refl _) _)
theorem less_one {j : Nat} (h : j < 64) : IntKind.i64.wrap ((j : Int) + 1 - 1) = j := by
  rw [IntWalk.i64_in _ (by omega)]; omega
theorem touch_nil (i : Int) (w : World) : Calls Tryz.prog 94 #[.pointer none, .int .i64 i] w fun e w' => e = .returned (.bool false) ∧ w = w' := by
  go_enter Tryz.func94, Tryz.ntmps94
  go_wp2_with fail
  refine (has_nil i _).mono ?_
  rintro e w' ⟨rfl, rfl⟩
  go_wp2_with fail
  refine (fault_nil 5 i _).mono ?_
  rintro e w' ⟨rfl, rfl⟩
  go_wp2
  go_ret
  exact ⟨rfl, rfl⟩
theorem touch_no (B : Nat) (ad : Option Addr) (n : Nat) (s : GS) (i : Int) (w : World) (g : GAt B ad n s w) (h : i < 1 ∨ (n : Int) < i) : Calls Tryz.prog 94 #[at0 B, .int .i64 i] w (Does B ad n (.bool false) (s.bad 5 i) w) := by
  go_enter Tryz.func94, Tryz.ntmps94
  go_wp2_with fail
  refine (has_no B ad n s i _ g h).mono ?_
  rintro e w' ⟨rfl, rfl⟩
  go_wp2_with fail
  refine (fault_any B ad n s 5 i _ g (by decide)).mono ?_
  rintro e w' ⟨rfl, hg, ho⟩
  go_wp2
  go_ret
  exact ⟨rfl, hg, ho⟩
theorem touch_free (B : Nat) (ad : Option Addr) (n : Nat) (s : GS) (j : Nat) (w : World) (g : GAt B ad n s w) (h : j < n) (ht : tagAt s.tags j = 0) : Calls Tryz.prog 94 #[at0 B, .int .i64 ((j : Int) + 1)] w (Does B ad n (.bool false) (s.bad 4 ((j : Int) + 1)) w) := by
  go_enter Tryz.func94, Tryz.ntmps94
  go_wp2_with fail
  refine (has_yes B ad n s ((j : Int) + 1) _ g (by omega) (by omega)).mono ?_
  rintro e w' ⟨rfl, rfl⟩
  obtain ⟨G, rfl, hG⟩ := g.row (by omega)
  have c := g.box.cell 0
  have t := cell_tag (a := j) hG (by rw [g.len]; exact h)
  rw [ht] at t
  have := g.small
  have hw := less_one (j := j) (by omega)
  simp at c
  clear hG ht
  go_wp2_with fail
  refine (fault_any B _ n s 4 ((j : Int) + 1) _ g (by decide)).mono ?_
  rintro e w' ⟨rfl, hg, ho⟩
  clear c t
  go_wp2
  go_ret
  exact ⟨rfl, hg, ho⟩
theorem touch_yes (B : Nat) (ad : Option Addr) (n : Nat) (s : GS) (j : Nat) (w : World) (g : GAt B ad n s w) (h : j < n) (ht : tagAt s.tags j ≠ 0) : Calls Tryz.prog 94 #[at0 B, .int .i64 ((j : Int) + 1)] w fun e w' => e = .returned (.bool true) ∧ w = w' := by
  go_enter Tryz.func94, Tryz.ntmps94
  go_wp2_with fail
  refine (has_yes B ad n s ((j : Int) + 1) _ g (by omega) (by omega)).mono ?_
  rintro e w' ⟨rfl, rfl⟩
  obtain ⟨G, rfl, hG⟩ := g.row (by omega)
  have c := g.box.cell 0
  have t := cell_tag (a := j) hG (by rw [g.len]; exact h)
  have := g.small
  have hw := less_one (j := j) (by omega)
  simp at c
  clear hG g
  generalize tagAt s.tags j = x at *
  go_wp2
  go_ret
  exact ⟨rfl, rfl⟩
theorem turn_nil (i t k : Int) (w : World) : Calls Tryz.prog 95 #[.pointer none, .int .i64 i, .int .i64 t, .int .i64 k] w fun e w' => e = .returned (.bool false) ∧ w = w' := by
  go_enter Tryz.func95, Tryz.ntmps95
  go_wp2_with fail
  refine (has_nil i _).mono ?_
  rintro e w' ⟨rfl, rfl⟩
  go_wp2_with fail
  refine (fault_nil 5 i _).mono ?_
  rintro e w' ⟨rfl, rfl⟩
  go_wp2
  go_ret
  exact ⟨rfl, rfl⟩
theorem turn_no (B : Nat) (ad : Option Addr) (n : Nat) (s : GS) (i t k : Int) (w : World) (g : GAt B ad n s w) (h : i < 1 ∨ (n : Int) < i) : Calls Tryz.prog 95 #[at0 B, .int .i64 i, .int .i64 t, .int .i64 k] w (Does B ad n (.bool false) (s.bad 5 i) w) := by
  go_enter Tryz.func95, Tryz.ntmps95
  go_wp2_with fail
  refine (has_no B ad n s i _ g h).mono ?_
  rintro e w' ⟨rfl, rfl⟩
  go_wp2_with fail
  refine (fault_any B ad n s 5 i _ g (by decide)).mono ?_
  rintro e w' ⟨rfl, hg, ho⟩
  go_wp2
  go_ret
  exact ⟨rfl, hg, ho⟩
theorem turn_wrong (B : Nat) (ad : Option Addr) (n : Nat) (s : GS) (j : Nat) (t k : Int) (w : World) (g : GAt B ad n s w) (h : j < n) (ht : tagAt s.tags j ≠ t) (hk : k ≠ 0) :
    Calls Tryz.prog 95 #[at0 B, .int .i64 ((j : Int) + 1), .int .i64 t, .int .i64 k] w (Does B ad n (.bool false) (s.bad k ((j : Int) + 1)) w) := by
  go_enter Tryz.func95, Tryz.ntmps95
  go_wp2_with fail
  refine (has_yes B ad n s ((j : Int) + 1) _ g (by omega) (by omega)).mono ?_
  rintro e w' ⟨rfl, rfl⟩
  obtain ⟨G, rfl, hG⟩ := g.row (by omega)
  have c := g.box.cell 0
  have q := cell_tag (a := j) hG (by rw [g.len]; exact h)
  have := g.small
  have hw := less_one (j := j) (by omega)
  have HF := Lib.hid (fault_any B _ n s k ((j : Int) + 1) _ g hk)
  simp at c
  clear hG g
  generalize tagAt s.tags j = x at *
  go_wp2_with fail
  refine HF.out.mono ?_
  rintro e w' ⟨rfl, hg, ho⟩
  clear c q
  go_wp2
  go_ret
  exact ⟨rfl, hg, ho⟩
theorem turn_yes (B : Nat) (ad : Option Addr) (n : Nat) (s : GS) (j : Nat) (t k : Int) (w : World) (g : GAt B ad n s w) (h : j < n) (ht : tagAt s.tags j = t) (t0 : 0 ≤ t) (t2 : t ≤ 2) :
    Calls Tryz.prog 95 #[at0 B, .int .i64 ((j : Int) + 1), .int .i64 t, .int .i64 k] w (Does B ad n (.bool true) ⟨s.tags.set j ((t + 1) % 3), s.k, s.i⟩ w) := by
  go_enter Tryz.func95, Tryz.ntmps95
  go_wp2_with fail
  refine (has_yes B ad n s ((j : Int) + 1) _ g (by omega) (by omega)).mono ?_
  rintro e w' ⟨rfl, rfl⟩
  obtain ⟨G, rfl, hG⟩ := g.row (by omega)
  have c := g.box.cell 0
  have q := cell_tag (a := j) hG (by rw [g.len]; exact h)
  rw [ht] at q
  have := g.small
  have hw := less_one (j := j) (by omega)
  have hw2 : IntKind.i64.wrap (t + 1) = t + 1 := IntWalk.i64_in _ (by omega)
  have hw3 : (t + 1).tmod 3 = (t + 1) % 3 := Int.tmod_eq_emod_of_nonneg (by omega)
  have hf := hG.frozen j
  simp at c
  have HG := Lib.hid g
  have HR := Lib.hid hG
  clear hG g ht
  go_wp2
  go_ret
  refine ⟨rfl, ⟨?_, fun hn => ⟨G, rfl, ?_⟩, by simpa using HG.out.len, HG.out.small, HG.out.first⟩, ?_⟩
  · exact HG.out.box.far (p := ⟨G, j, none⟩) (HG.out.box.ne HR.out (by decide)) _
  · exact set_tag HR.out _
  · exact Only.set _ (p := ⟨G, j, none⟩) (.inr rfl) _
end Go.Proofs.YtemikojaldoofaaGreat.G
