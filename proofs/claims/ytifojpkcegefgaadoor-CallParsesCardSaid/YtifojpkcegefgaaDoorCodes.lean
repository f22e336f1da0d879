/- The walk of CallCodes. -/
import Derived.Test.YtifojpkcegefgaaDoorRefDecode
namespace Go.Proofs.YtifojpkcegefgaaDoor
open Go.ChangeShapes Go.WideShapes Go.ChangeAt Go.RowKit
set_option linter.unusedVariables false

/-- The frame's word on a slice of integers that came in. -/
def IsRow (k : IntKind) (w : World) (a : Option Addr) (len cap : Nat) (zs : List Int) : Prop :=
  (a = none ∧ len = 0 ∧ cap = 0 ∧ zs = []) ∨
  ∃ x, a = some x ∧ len ≤ cap ∧ cap ≤ maxLen ∧ zs.length = cap ∧ (∀ i, i < zs.length → w.cell? (x.add i) = some (.int k (zs.getD i 0))) ∧ ∀ n ∈ zs, (Lit.int k n).wf = true
theorem rd_of {w : World} {a : Option Addr} {n cap : Nat} {zs : List Int} (h : IsRow .u8 w a n cap zs) : Rd w a n cap (zs.take n) := by
  rcases h with ⟨rfl, rfl, rfl, rfl⟩ | ⟨x, rfl, hl, hm, hz, hc, hw⟩
  · exact ⟨rfl, ⟨Nat.le_refl _, by simp [maxLen]⟩, .inl ⟨rfl, rfl, rfl⟩, fun j => by simp [byteAt]⟩
  · refine ⟨by rw [List.length_take]; omega, ⟨hl, hm⟩, .inr ⟨x, rfl, fun j u hj => ?_⟩, fun j => ?_⟩
    · rw [encB, List.getElem?_map, Option.map_eq_some_iff] at hj
      obtain ⟨y, hy, rfl⟩ := hj
      rw [List.getElem?_take] at hy
      split at hy
      · next hjn =>
        rw [hc j (by omega)]
        simp [List.getD_eq_getElem?_getD, hy]
      · cases hy
    · unfold byteAt
      by_cases hj : j < (zs.take n).length
      · have := hw ((zs.take n)[j]) (List.mem_of_mem_take (List.getElem_mem hj))
        simp [Lit.wf, IntKind.min, IntKind.max, IntKind.signed, IntKind.bits] at this
        rw [List.getD_eq_getElem?_getD, List.getElem?_eq_getElem hj]
        simp
        omega
      · simp [List.getElem?_eq_none (show (zs.take n).length ≤ j by omega)]
theorem decT_right (bs : List Int) : rightB (decT bs) = true := by
  unfold decT
  split
  · rfl
  · next h =>
    have : byteAt bs 0 % 3 = 1 ∨ byteAt bs 0 % 3 = 2 := by omega
    rcases this with h | h <;> simp [rightB, bare, h]
theorem eq_self (t : TypeId) (ht : t = 24 ∨ t = 26) (a : Tri) (w : World) : (Op.equalIn 10000 t a.v a.v).run Tryd.prog w = .ok true w := by
  rw [eq_call t ht]
  simp
/-- A call, boxed. -/
structure CB (c : Tri) (w : World) (C : Nat) (W : World) : Prop where
  hc : Blk W C 24 c.cs
  bel : Below w.heap.size w W
theorem CB.below {c : Tri} {w W V : World} {C : Nat} (h : CB c w C W) (b : Below W.heap.size W V) : CB c w C V := ⟨h.hc.below b h.hc.lt, below_then h.bel b⟩
theorem CB.drew {c : Tri} {w W : World} {C : Nat} (h : CB c w C W) : CB c w C W.drew := ⟨h.hc.drew, below_drew h.bel⟩
theorem CB.cells {c : Tri} {w W : World} {C : Nat} (h : CB c w C W) : W.cell? ⟨C, 0, none⟩ = some (.int .i64 c.op) ∧ W.cell? ⟨C, 1, none⟩ = some (.int .u32 c.key) ∧ W.cell? ⟨C, 2, none⟩ = some (.int .u32 c.val) := by
  obtain ⟨c0, c1, c2, _⟩ := blk_cells h.hc
  exact ⟨c0, c1, c2⟩

set_option maxRecDepth 100000 in
set_option maxHeartbeats 8000000 in
theorem callCodes_walk (a : Option Addr) (n cap : Nat) (zs : List Int) (w : World) (ht : Tab w) (w0 : IsRow .u8 w a n cap zs) : Calls Tryd.prog 6 #[.slice a n cap] w (Good w) := by
  have R := rd_of w0
  generalize zs.take n = bs at *
  have hm := R.room
  unfold maxLen at hm
  by_cases h : 200 < n
  · have hn : (200 : Int) < n := by omega
    go_enter Tryd.func6, Tryd.ntmps6
    go_wp2_with fail
    refine (lives_any _ ht).mono ?_
    rintro e w1 ⟨rfl, hb⟩
    go_wp2
    go_ret
    exact ⟨rfl, hb⟩
  · have hn : ¬ (200 : Int) < n := by omega
    have D := decode_any a n cap bs w R
    have K22 : ∀ C W, CB (decT bs) w C W → _ := fun C W h => refDecode_any a n cap bs W (R.below h.bel)
    have K10 := right_any (decT bs)
    have K12 : ∀ C W, CB (decT bs) w C W → _ := fun C W h => lives_any W (tab_below ht h.bel)
    rw [decT_right] at K10
    have q := eq_self 24 (.inl rfl) (decT bs)
    generalize decT bs = c at *
    obtain ⟨o, k, v⟩ := c
    simp only [Tri.v] at D K22 K10 q
    have H22 := Lib.hid K22
    have H10 := Lib.hid K10
    have H12 := Lib.hid K12
    clear K22 K10 K12 R w0 ht
    go_enter Tryd.func6, Tryd.ntmps6
    go_wp2_with fail
    refine D.mono ?_
    rintro e w1 ⟨rfl, hb⟩
    have S : CB ⟨o, k, v⟩ w w1.heap.size (w1.alloc (.cells #[.int .i64 o, .int .u32 k, .int .u32 v] 24)) := ⟨Blk.new _ _ _, hb.alloc hb.size _⟩
    have S' := S.drew
    obtain ⟨c0, c1, c2⟩ := S.cells
    clear D hb S
    go_wp2_with fail
    generalize w1.heap.size = C at *
    generalize w1.alloc (.cells #[.int .i64 o, .int .u32 k, .int .u32 v] 24) = V at *
    go_region_held3 (fun W => W.cell? ⟨C, 0, none⟩ = some (.int .i64 o) ∧ W.cell? ⟨C, 1, none⟩ = some (.int .u32 k) ∧ W.cell? ⟨C, 2, none⟩ = some (.int .u32 v)) (first | exact CB.cells (c := ⟨o, k, v⟩) (w := w) (C := C) (by assumption) | go_keep)
      (first | (go_at_call 22; refine (H22.out C _ (by assumption)).mono ?_; rintro e V' ⟨rfl, hb⟩; have S' := CB.below (by assumption) hb; clear hb) | (go_at_call 10; refine (H10.out _).mono ?_; rintro e V' ⟨rfl, hb⟩; have S' := CB.below (by assumption) hb; clear hb) | (go_at_call 12; refine (H12.out C _ (by assumption)).mono ?_; rintro e V' ⟨rfl, hb⟩; have S' := CB.below (by assumption) hb; clear hb))
    all_goals
      go_wp2
      go_ret
      exact ⟨rfl, CB.bel (c := ⟨o, k, v⟩) (w := w) (C := C) (by assumption)⟩
end Go.Proofs.YtifojpkcegefgaaDoor
