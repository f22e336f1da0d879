/- The arguments as lists; the walk of FeedTells. -/
import Derived.Test.YtemikojaldoofaaGreatFNew
import Derived.Deep.RegionWith
import Derived.Deep.Cut
import Derived.Deep.CutRange
import Derived.Deep.QuietTactic
import Derived.BigQuiet
import Derived.Deep.RegionHeld3
namespace Go.Proofs.YtemikojaldoofaaGreat.F
open Go.ChangeShapes Go.WideShapes Go.ChangeAt Go.RowKit
set_option linter.unusedVariables false

set_option maxRecDepth 20000


/-- The frame's word on a slice of integers that came in. -/
def IsRow (k : IntKind) (w : World) (a : Option Addr) (len cap : Nat) (zs : List Int) : Prop :=
  (a = none ∧ len = 0 ∧ cap = 0 ∧ zs = []) ∨
  ∃ x, a = some x ∧ len ≤ cap ∧ cap ≤ maxLen ∧ zs.length = cap ∧ (∀ i, i < zs.length → w.cell? (x.add i) = some (.int k (zs.getD i 0))) ∧ ∀ n ∈ zs, (Lit.int k n).wf = true
/-- A slice of integers: its n elements. -/
structure Row (k : IntKind) (w : World) (a : Option Addr) (n cap : Nat) (zs : List Int) : Prop where
  len : zs.length = n
  room : n ≤ cap ∧ cap ≤ maxLen
  form : (a = none ∧ n = 0 ∧ cap = 0) ∨ ∃ x, a = some x ∧ ∀ j u, (zs.map (Value.int k))[j]? = some u → w.cell? (x.add j) = some u
  cell : ∀ j, j < n → ∃ b off, a = some ⟨b, off, none⟩ ∧ w.cell? ⟨b, off + j, none⟩ = some (.int k (byteAt zs j))
  wf : ∀ x ∈ zs, (Lit.int k x).wf = true
theorem row_of {k : IntKind} {w : World} {a : Option Addr} {n cap : Nat} {zs : List Int} (h : IsRow k w a n cap zs) : Row k w a n cap (zs.take n) := by
  rcases h with ⟨rfl, rfl, rfl, rfl⟩ | ⟨x, rfl, hl, hm, hz, hc, hw⟩
  · exact ⟨rfl, ⟨Nat.le_refl _, by simp [maxLen]⟩, .inl ⟨rfl, rfl, rfl⟩, fun j hj => absurd hj (by omega), fun x hx => by simp at hx⟩
  · refine ⟨by rw [List.length_take]; omega, ⟨hl, hm⟩, .inr ⟨x, rfl, fun j u hj => ?_⟩, fun j hj => ?_, fun y hy => hw y (List.mem_of_mem_take hy)⟩
    · rw [List.getElem?_map, Option.map_eq_some_iff] at hj
      obtain ⟨y, hy, rfl⟩ := hj
      rw [List.getElem?_take] at hy
      split at hy
      · next hjn =>
        rw [hc j (by omega)]
        simp [List.getD_eq_getElem?_getD, hy]
      · cases hy
    · have h0 := hc 0 (by omega)
      have hj' := hc j (by omega)
      obtain ⟨b, off, spot⟩ := x
      have hspot : spot = none := by simpa [Addr.add] using World.cell?_spot h0
      subst hspot
      refine ⟨b, off, rfl, ?_⟩
      rw [← Go.WideShapes.add_plain, hj']
      simp [byteAt, List.getD_eq_getElem?_getD, hj]
theorem Row.cells {k : IntKind} {w : World} {a : Option Addr} {n cap : Nat} {zs : List Int} (h : Row k w a n cap zs) {W : World} (b : Below w.heap.size w W) (j : Nat) (hj : j < n) :
    ∃ bb off, a = some ⟨bb, off, none⟩ ∧ W.cell? ⟨bb, off + j, none⟩ = some (.int k (byteAt zs j)) := by
  obtain ⟨bb, off, e, hc⟩ := h.cell j hj
  exact ⟨bb, off, e, (b.cell (p := ⟨bb, off + j, none⟩) (World.block_lt_of_cell? w _ hc)).trans hc⟩
theorem Row.bytes {w : World} {a : Option Addr} {n cap : Nat} {zs : List Int} (h : Row .u8 w a n cap zs) : Bytes zs := by
  intro j
  unfold byteAt
  by_cases hj : j < zs.length
  · have := h.wf (zs[j]) (List.getElem_mem hj)
    simp [Lit.wf, IntKind.min, IntKind.max, IntKind.signed, IntKind.bits] at this
    simp [List.getElem?_eq_getElem hj]

    omega
  · simp [List.getElem?_eq_none (show zs.length ≤ j by omega)]
theorem new_row {a : Option Addr} {n cap : Nat} {zs : List Int} {w : World} (h : Row .u8 w a n cap zs) (h1 : n ≤ 5000) : Calls Tryz.prog 35 #[.slice a n cap] w (NewF n zs w) := by
  rcases h.form with ⟨rfl, rfl, rfl⟩ | ⟨x, rfl, hr⟩
  · have := h.len
    obtain rfl : zs = [] := by simpa using this
    exact new_nil w
  · exact new_some x n cap zs w h.len h1 hr

/-- What the loop of FeedTells keeps: the feed, u bytes asked for. -/
structure St (B : Nat) (ad : Option Addr) (n cap : Nat) (bs : List Int) (u : Nat) (w W : World) : Prop where
  at_ : FAt B ad n cap bs u W
  low : w.heap.size ≤ B
  below : Below w.heap.size w W
theorem St.then {B : Nat} {ad : Option Addr} {n cap : Nat} {bs : List Int} {u u' : Nat} {w W W' : World} (h : St B ad n cap bs u w W) (f : FAt B ad n cap bs u' W') (o : Only B W W') : St B ad n cap bs u' w W' :=
  ⟨f, h.low, h.below.trans (o.below h.below.size h.low)⟩
theorem St.later {B : Nat} {ad : Option Addr} {n cap : Nat} {bs : List Int} {u : Nat} {w W W' : World} (h : St B ad n cap bs u w W) (b : Below W.heap.size W W') : St B ad n cap bs u w W' :=
  ⟨h.at_.below b, h.low, h.below.trans (b.mono h.below.size)⟩
theorem St.drew {B : Nat} {ad : Option Addr} {n cap : Nat} {bs : List Int} {u : Nat} {w W : World} (h : St B ad n cap bs u w W) : St B ad n cap bs u w W.drew :=
  ⟨h.at_.agree h.at_.box (Nat.le_refl _) fun _ _ _ _ _ _ => rfl, h.low, h.below.drew⟩
abbrev Good (w : World) (e : Ending) (w' : World) : Prop := e = .returned (.bool true) ∧ Below w.heap.size w w'

end Go.Proofs.YtemikojaldoofaaGreat.F
