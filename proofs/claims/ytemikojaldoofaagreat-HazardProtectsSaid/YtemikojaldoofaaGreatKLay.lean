/- A word that points to a node; what lay and newThread do. -/
import Derived.Test.YtemikojaldoofaaGreatKSteps
namespace Go.Proofs.YtemikojaldoofaaGreat
open Go.ChangeShapes Go.WideShapes Go.ChangeAt Go.RowKit
set_option linter.unusedVariables false

set_option maxRecDepth 20000

theorem fit_b (b : Nat) (p v : Int) (w : World) (h0 : 0 ≤ p) (h1 : p < 65536) (h2 : 0 ≤ v) (h3 : v < 140737488355328) (hb : b < w.heap.size)
    (c0 : w.cell? ⟨b, 0, none⟩ = some (.int .u64 p)) (c1 : w.cell? ⟨b, 1, none⟩ = some (.int .u64 65536)) (c2 : w.cell? ⟨b, 2, none⟩ = some (.int .u64 v)) (c3 : w.cell? ⟨b, 3, none⟩ = some (.int .u64 140737488355328)) :
    Calls Tryz.prog 91 #[.slice (some ⟨b, 0, none⟩) 2 2] w fun e w' => e = .returned (.bool true) ∧ Below w.heap.size w w' := by
  go_enter Tryz.func91, Tryz.ntmps91
  go_wp2
  go_rounds 3
  go_ret
  exact ⟨rfl, by repeat (first | exact Below.refl _ _ | refine Below.drew ?_ | refine Below.alloc ?_ (by simp) _)⟩
theorem make_b (p : Int) (m : Bool) (v : Int) (w : World) (h0 : 0 ≤ p) (h1 : p < 65536) (h2 : 0 ≤ v) (h3 : v < 140737488355328) :
    Calls Tryz.prog 81 #[.int .i64 p, .bool m, .int .u64 v] w fun e w' => e = .returned (.tuple #[.int .u64 (v * 131072 + p * 2 + W.mk m), .int .i64 0]) ∧ Below w.heap.size w w' := by
  go_enter Tryz.func81, Tryz.ntmps81
  go_wp2_with fail
  refine (fit_b _ p v _ h0 h1 h2 h3 (by simp) (by simp) (by simp) (by simp) (by simp)).mono ?_
  rintro e w1 ⟨rfl, hg⟩
  go_wp2_with (go_at_call 92; refine (W.pack_any _ _ _ _ h0 h1 h2 h3).mono ?_; rintro e w' ⟨rfl, rfl⟩)
  go_ret2
  exact ⟨rfl, P.below_then ((Below.refl _ _).alloc (Nat.le_refl _) _) hg (Nat.le_refl _)⟩
theorem point_any (p : Int) (w : World) (h0 : 0 ≤ p) (h1 : p < 65536) : Calls Tryz.prog 62 #[.int .i64 p] w fun e w' => e = .returned (.int .u64 (p * 2)) ∧ Below w.heap.size w w' := by
  have K := make_b p false 0 w h0 h1 (by omega) (by omega)
  rw [show (0 : Int) * 131072 + p * 2 + W.mk false = p * 2 by simp [W.mk]] at K
  go_enter Tryz.func62, Tryz.ntmps62
  go_wp2_with fail
  refine K.mono ?_
  rintro e w1 ⟨rfl, hg⟩
  go_wp2
  go_ret
  exact ⟨rfl, hg⟩

/-! ### lay -/
/-- A memory behind a word that is laid. -/
def MS.put (ms : MS) (a x : Int) : MS := msR ms 1 a 0 0 x 0 0
set_option maxHeartbeats 1000000 in
theorem lay_any (B : Nat) (c : P.Cf) (F T : Nat) (ms : MS) (gs : Gh) (bad : Bool) (O : Nat → Prop) (a x : Int) (w : World) (h : MachAt B c F T ms gs bad O w) (hf : ms.fine) (ha : 0 ≤ a ∧ a < ms.ws.length) :
    Calls Tryz.prog 61 #[at0 B, .int .i64 a, .int .u64 x] w (MDoes B c F T (.tuple #[]) (ms.put a x) gs bad O w) := by
  have hr : rightB 1 a 0 ms.ws.length = true := by unfold rightB inB; simp; exact ha
  obtain ⟨M, Om, hO1, hb1, hm1, hg1⟩ := h
  obtain ⟨-, -, -, -, -, -, -, c7, -, -, -, -⟩ := mach_plan hb1
  have KM := mstore M ms Om a x w hm1 hf
  rw [hr] at KM
  simp only [errR, if_true] at KM
  go_enter Tryz.func61, Tryz.ntmps61
  go_wp2_with fail
  refine KM.mono ?_
  rintro e w2 ⟨rfl, ht⟩
  have hT := MachAt.mem hb1 hm1 hg1 ht
  rw [← hO1] at hT
  have HT := Lib.hid hT
  clear KM hb1 hm1 hg1 ht hT hO1
  go_wp2_with fail
  refine (note_ok _ (.inr ⟨B, rfl⟩) _).mono ?_
  rintro e w3 ⟨rfl, rfl⟩
  go_wp2
  go_end0
  exact ⟨rfl, HT.out⟩

/-! ### newThread -/
abbrev thCs (i : Int) (p s q lv : Nat) : Array Value :=
  #[.int .i64 i, .slice none 0 0, .int .u64 0, .int .u64 0, .int .u64 0, .slice (some ⟨p, 0, none⟩) lv lv, .slice (some ⟨s, 0, none⟩) lv lv, .slice (some ⟨q, 0, none⟩) lv lv, .slice none 0 0, .slice none 0 0]
abbrev zeros (n : Nat) : Array Value := (encU (List.replicate n 0)).toArray
def NewTh (i : Int) (lv : Nat) (w : World) (e : Ending) (w' : World) : Prop :=
  ∃ p s q, e = .returned (.agg (thCs i p s q lv)) ∧ Below w.heap.size w w' ∧ w.heap.size ≤ p ∧ w.heap.size ≤ s ∧ w.heap.size ≤ q ∧ Blk w' p 24 (zeros lv) ∧ Blk w' s 24 (zeros lv) ∧ Blk w' q 24 (zeros lv)
theorem three (w : World) (o : Obj) (lv k : Nat) (hk : k = w.heap.size + 1 ∨ k = w.heap.size + 1 + 1 ∨ k = w.heap.size + 1 + 1 + 1) :
    Blk ((((w.alloc o).alloc (.cells (zeros lv) 24)).alloc (.cells (zeros lv) 24)).alloc (.cells (zeros lv) 24)).drew k 24 (zeros lv) := by
  show Blk (((((w.alloc o).alloc (.cells (zeros lv) 24)).alloc (.cells (zeros lv) 24)).alloc (.cells (zeros lv) 24))) k 24 (zeros lv)
  rcases hk with rfl | rfl | rfl
  · have := Blk.new (w.alloc o) 24 (zeros lv)
    exact ((by simpa using this : Blk _ (w.heap.size + 1) 24 (zeros lv)).alloc _).alloc _
  · have := Blk.new ((w.alloc o).alloc (.cells (zeros lv) 24)) 24 (zeros lv)
    exact (by simpa using this : Blk _ (w.heap.size + 1 + 1) 24 (zeros lv)).alloc _
  · have := Blk.new (((w.alloc o).alloc (.cells (zeros lv) 24)).alloc (.cells (zeros lv) 24)) 24 (zeros lv)
    simpa using this
theorem three_below (w : World) (o : Obj) (lv : Nat) : Below w.heap.size w ((((w.alloc o).alloc (.cells (zeros lv) 24)).alloc (.cells (zeros lv) 24)).alloc (.cells (zeros lv) 24)).drew :=
  (((((Below.refl _ _).alloc (Nat.le_refl _) _).alloc (by simp) _).alloc (by simp; omega) _).alloc (by simp; omega) _).drew
set_option maxHeartbeats 4000000 in
theorem thread_new (i : Int) (lv : Nat) (w : World) (h : lv ≤ 6) : Calls Tryz.prog 38 #[.int .i64 i, .int .i64 lv] w (NewTh i lv w) := by
  have hm := fun W => made lv W (by omega)
  go_enter Tryz.func38, Tryz.ntmps38
  go_wp2
  go_region
  all_goals
    go_wp2
    refine bodyPost_ret (v := .agg (thCs i _ _ _ lv)) (by simp [results, Tryz.results38, go_sem]; exact ⟨rfl, rfl, rfl⟩) rfl ?_
    exact ⟨_, _, _, rfl, three_below _ _ _, by omega, by omega, by omega, three _ _ _ _ (by omega), three _ _ _ _ (by omega), three _ _ _ _ (by omega)⟩
end Go.Proofs.YtemikojaldoofaaGreat
