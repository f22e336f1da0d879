/- A feed in the heap: a block with its two cells, the row of its bytes; what take, lowOnes, ones, Next, Level, Used do. -/
import Derived.Test.YtemikojaldoofaaGreatRows
import Derived.WalkKit
import Derived.ProofKit
import Derived.Below
import Derived.OwnWalk
import Derived.OneCell
import Derived.Laws.OwnMore
import Derived.Laws.MakeOwn
import Derived.Lib.SliceRun
import Derived.Lib.Hide
import Derived.WalkLawsBesides
import Derived.Handy
namespace Go.Proofs.YtemikojaldoofaaGreat.F
open Go.ChangeShapes Go.WideShapes Go.ChangeAt Go.RowKit
set_option linter.unusedVariables false

set_option maxRecDepth 20000


/-- A block that is known whole. -/
def Blk (W : World) (g : Nat) (t : TypeId) (cs : Array Value) : Prop := W.heap[g]? = some (.cells cs t (0, 0))
theorem Blk.lt {W : World} {g : Nat} {t : TypeId} {cs : Array Value} (h : Blk W g t cs) : g < W.heap.size := (Array.getElem?_eq_some_iff.1 h).1
theorem Blk.cell {W : World} {g : Nat} {t : TypeId} {cs : Array Value} (h : Blk W g t cs) (i : Nat) : W.cell? ⟨g, i, none⟩ = cs[i]? := cell_of_row W g i cs t (0, 0) h
theorem Blk.frozen {W : World} {g : Nat} {t : TypeId} {cs : Array Value} (h : Blk W g t cs) (i : Nat) : W.frozen? ⟨g, i, none⟩ = false := by
  unfold Blk at h
  simp [World.frozen?, h]
theorem Blk.agree {W W' : World} {g : Nat} {t : TypeId} {cs : Array Value} (h : Blk W g t cs) (e : W'.heap[g]? = W.heap[g]?) : Blk W' g t cs := e.trans h
theorem Blk.new (W : World) (t : TypeId) (cs : Array Value) : Blk (W.alloc (.cells cs t)) W.heap.size t cs := heap_alloc_new W _
theorem Blk.alloc {W : World} {g : Nat} {t : TypeId} {cs : Array Value} (h : Blk W g t cs) (o : Obj) : Blk (W.alloc o) g t cs := h.agree (Below.heap_alloc _ _ _ h.lt)
theorem Blk.below {W W' : World} {g : Nat} {t : TypeId} {cs : Array Value} (h : Blk W g t cs) (b : Below W.heap.size W W') : Blk W' g t cs := h.agree (b.block g h.lt)
theorem Blk.set {W : World} {g : Nat} {t : TypeId} {cs : Array Value} (h : Blk W g t cs) (i : Nat) (u : Value) : Blk (W.setCell ⟨g, i, none⟩ u) g t (cs.setIfInBounds i u) := by
  unfold Blk at h ⊢
  simp [World.setCell, Array.getElem?_modify, h]
theorem Blk.far {W : World} {g : Nat} {t : TypeId} {cs : Array Value} (h : Blk W g t cs) {p : Addr} (hp : g ≠ p.block) (u : Value) : Blk (W.setCell p u) g t cs := h.agree (Below.heap_setCell _ _ _ _ hp)

abbrev at0 (b : Nat) : Value := .pointer (some ⟨b, 0, none⟩)
def encB (l : List Int) : List Value := l.map (Value.int .u8)
theorem encB_len (l : List Int) : (encB l).length = l.length := by simp [encB]
/-- The byte at a place; 0 behind the last one. -/
def byteAt (l : List Int) (j : Nat) : Int := l.getD j 0
/-- Bytes are bytes. -/
def Bytes (l : List Int) : Prop := ∀ j, 0 ≤ byteAt l j ∧ byteAt l j < 256

/-- The feed of the bytes bs, of which u were asked for, behind a pointer to the block B; its bytes lie where ad says. -/
structure FAt (B : Nat) (ad : Option Addr) (n cap : Nat) (bs : List Int) (u : Nat) (W : World) : Prop where
  box : Blk W B 115 #[.slice ad n cap, .int .i64 u]
  row : 0 < n → ∃ G, ad = some ⟨G, 0, none⟩ ∧ G ≠ B ∧ G < W.heap.size ∧ ∀ j, j < n → W.cell? ⟨G, j, none⟩ = some (.int .u8 (byteAt bs j))
  len : bs.length = n
  small : n ≤ 5000
  room : n ≤ cap ∧ cap ≤ maxLen
/-- Of the blocks that lay in W the block B alone may have turned in W'. -/
structure Only (B : Nat) (W W' : World) : Prop where
  os : W'.os = W.os
  tape : W'.tape = W.tape
  output : W'.output = W.output
  size : W.heap.size ≤ W'.heap.size
  block : ∀ k, k < W.heap.size → k ≠ B → W'.heap[k]? = W.heap[k]?
theorem Only.refl (B : Nat) (W : World) : Only B W W := ⟨rfl, rfl, rfl, Nat.le_refl _, fun _ _ _ => rfl⟩
theorem Only.trans {B : Nat} {X Y Z : World} (h : Only B X Y) (k : Only B Y Z) : Only B X Z :=
  ⟨k.os.trans h.os, k.tape.trans h.tape, k.output.trans h.output, Nat.le_trans h.size k.size, fun i hi hb =>
    (k.block i (Nat.lt_of_lt_of_le hi h.size) hb).trans (h.block i hi hb)⟩
theorem Only.of_below {B : Nat} {W W' : World} (h : Below W.heap.size W W') : Only B W W' :=
  ⟨h.os, h.tape, h.output, h.size, fun k hk _ => h.block k hk⟩
theorem Only.set {B : Nat} (W : World) {p : Addr} (hp : p.block = B) (u : Value) : Only B W (W.setCell p u) :=
  ⟨rfl, rfl, rfl, by simp [World.setCell], fun k hk hb => Below.heap_setCell _ _ _ _ (fun e => hb (e.trans hp))⟩
theorem Only.below {B : Nat} {W W' : World} {b : Nat} (h : Only B W W') (hs : b ≤ W.heap.size) (hB : b ≤ B) : Below b W W' :=
  ⟨h.os, h.tape, h.output, h.size, fun k hk => h.block k (by omega) (by omega)⟩
theorem cell_agree {W W' : World} {p : Addr} (e : W'.heap[p.block]? = W.heap[p.block]?) : W'.cell? p = W.cell? p := by
  simp [World.cell?, e]
theorem FAt.agree {B : Nat} {ad : Option Addr} {n cap : Nat} {bs : List Int} {u u' : Nat} {W W' : World} (h : FAt B ad n cap bs u W) (hb : Blk W' B 115 #[.slice ad n cap, .int .i64 u'])
    (hs : W.heap.size ≤ W'.heap.size) (ho : ∀ k, k < W.heap.size → k ≠ B → (∀ G, ad = some ⟨G, 0, none⟩ → G = k → W'.heap[k]? = W.heap[k]?)) : FAt B ad n cap bs u' W' :=
  ⟨hb, fun hn => by
    obtain ⟨G, e, hG, hl, hc⟩ := h.row hn
    exact ⟨G, e, hG, by omega, fun j hj => by rw [cell_agree (ho G hl hG G e rfl)]; exact hc j hj⟩, h.len, h.small, h.room⟩
theorem FAt.below {B : Nat} {ad : Option Addr} {n cap : Nat} {bs : List Int} {u : Nat} {W W' : World} (h : FAt B ad n cap bs u W) (b : Below W.heap.size W W') : FAt B ad n cap bs u W' :=
  h.agree (h.box.below b) b.size fun k hk _ _ _ _ => b.block k hk
theorem FAt.only {B B' : Nat} {ad : Option Addr} {n cap : Nat} {bs : List Int} {u : Nat} {W W' : World} (h : FAt B ad n cap bs u W) (o : Only B' W W') (hB : B ≠ B') (hG : ad ≠ some ⟨B', 0, none⟩) : FAt B ad n cap bs u W' :=
  h.agree (h.box.agree (o.block B h.box.lt hB)) o.size fun k hk _ G e hk2 => o.block k hk fun e' => hG (by rw [e, hk2, e'])
/-- What a call leaves that hands v back, u bytes having been asked for then. -/
def Does (B : Nat) (ad : Option Addr) (n cap : Nat) (bs : List Int) (v : Value) (u : Nat) (W : World) (e : Ending) (W' : World) : Prop := e = .returned v ∧ FAt B ad n cap bs u W' ∧ Only B W W'

theorem one_more {u : Nat} (h : u ≤ 10000) : IntKind.i64.wrap ((u : Int) + 1) = ((u + 1 : Nat) : Int) := by
  rw [IntWalk.i64_in _ (by omega)]; omega
theorem rem_of {x n : Int} (h0 : 0 ≤ x) (h1 : x < 256) : IntKind.i64.wrap x = x ∧ x.tmod n = x % n := ⟨IntWalk.i64_in _ (by omega), Int.tmod_eq_emod_of_nonneg h0⟩
end Go.Proofs.YtemikojaldoofaaGreat.F
