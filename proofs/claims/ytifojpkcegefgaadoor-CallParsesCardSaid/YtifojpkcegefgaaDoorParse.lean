/- pair, Parse, Read. -/
import Derived.Test.YtifojpkcegefgaaDoorParts
namespace Go.Proofs.YtifojpkcegefgaaDoor
open Go.ChangeShapes Go.WideShapes Go.ChangeAt Go.RowKit
set_option linter.unusedVariables false

def pairV (o : Option (Nat × Nat)) : Value := match o with | some (k, v) => .tuple #[.int .u32 k, .int .u32 v, .bool true] | none => .tuple #[.int .u32 0, .int .u32 0, .bool false]
theorem partL_len (l : List UInt8) : (partL l).1.length ≤ l.length ∧ (partL l).2.length ≤ l.length := by
  induction l with
  | nil => simp [partL]
  | cons c r ih =>
    unfold partL
    split
    · simp
    · simp; omega

set_option maxRecDepth 100000 in
set_option maxHeartbeats 4000000 in
theorem pair_any (l : List UInt8) (hl : l.length ≤ 100000) (w : World) : Calls Tryd.prog 28 #[strV l] w fun e w' => e = .returned (pairV (pairL l)) ∧ Below w.heap.size w w' := by
  have P := fun w => part_any l hl w
  obtain ⟨l1, l2⟩ := partL_len l
  have A := fun w => number_any (partL l).1 (by omega) w
  have B := fun w => number_any (partL l).2 (by omega) w
  have fin : ∀ o, pairL l = o → ∀ e w', e = Ending.returned (pairV o) → Below w.heap.size w w' → (e = .returned (pairV (pairL l)) ∧ Below w.heap.size w w') := by
    intro o h e w' h1 h2
    rw [h]
    exact ⟨h1, h2⟩
  have hX : pairL l = (match numL (partL l).1, numL (partL l).2 with | some k, some v => some (k, v) | _, _ => none) := rfl
  generalize pairL l = X at *
  generalize (partL l).1 = x at *
  generalize (partL l).2 = y at *
  generalize numL x = a at *
  generalize numL y = b at *
  go_enter Tryd.func28, Tryd.ntmps28
  go_wp2_with fail
  refine (P _).mono ?_
  rintro e w1 ⟨rfl, h1⟩
  go_wp2_with fail
  refine (A _).mono ?_
  rintro e w2 ⟨rfl, h2⟩
  have h12 := below_then h1 h2
  clear h1 h2 P A
  cases a with
  | none =>
    simp only [numV]
    go_wp2_with fail
    refine (B _).mono ?_
    rintro e w3 ⟨rfl, h3⟩
    have h13 := below_then h12 h3
    clear h12 h3 B
    have HE := Lib.hid (fin none hX)
    clear fin hX
    cases b with
    | none =>
      simp only [numV]
      go_wp2
      go_ret3
      exact HE.out _ _ rfl h13
    | some v =>
      simp only [numV]
      go_wp2
      go_ret3
      exact HE.out _ _ rfl h13
  | some k =>
    simp only [numV]
    go_wp2_with fail
    refine (B _).mono ?_
    rintro e w3 ⟨rfl, h3⟩
    have h13 := below_then h12 h3
    clear h12 h3 B
    cases b with
    | none =>
      have HE := Lib.hid (fin none hX)
      clear fin hX
      simp only [numV]
      go_wp2
      go_ret3
      exact HE.out _ _ rfl h13
    | some v =>
      have HE := Lib.hid (fin (some (k, v)) hX)
      clear fin hX
      simp only [numV]
      go_wp2
      go_ret3
      exact HE.out _ _ rfl h13

/-- What Parse and Read answer. -/
def optV (o : Option Tri) : Value := match o with | some c => .tuple #[c.v, .int .i64 0] | none => .tuple #[Tri.v ⟨0, 0, 0⟩, .int .i64 8]
theorem beqL_t {a b : List UInt8} (h : a = b) : (a == b) = true := by simpa using h
theorem beqL_f {a b : List UInt8} (h : ¬ a = b) : (a == b) = false := by simpa using h
/-- The first block of a call's own: zeros of a triple. -/
theorem zero_blk (w : World) (t : TypeId) : Blk (w.alloc (.cells #[.int .i64 0, .int .u32 0, .int .u32 0] t)) w.heap.size t #[.int .i64 0, .int .u32 0, .int .u32 0] := Blk.new _ _ _
theorem blk_cells {W : World} {g : Nat} {t : TypeId} {a b c : Value} (h : Blk W g t #[a, b, c]) : W.cell? ⟨g, 0, none⟩ = some a ∧ W.cell? ⟨g, 1, none⟩ = some b ∧ W.cell? ⟨g, 2, none⟩ = some c ∧ W.frozen? ⟨g, 0, none⟩ = false ∧ W.frozen? ⟨g, 1, none⟩ = false ∧ W.frozen? ⟨g, 2, none⟩ = false :=
  ⟨by rw [h.cell]; rfl, by rw [h.cell]; rfl, by rw [h.cell]; rfl, h.frozen 0, h.frozen 1, h.frozen 2⟩
theorem below_set {b : Nat} {w W : World} (h : Below b w W) {p : Addr} (hp : b ≤ p.block) (u : Value) : Below b w (W.setCell p u) :=
  ⟨h.os, h.tape, h.output, by simpa [World.setCell] using h.size, fun k hk => (Below.heap_setCell _ _ _ _ (by omega)).trans (h.block k hk)⟩
/-- A triple stored into a block of one's own. -/
abbrev put3 (W : World) (g : Nat) (c : Tri) : World := ((W.setCell ⟨g, 0, none⟩ (.int .i64 c.op)).setCell ⟨g, 1, none⟩ (.int .u32 c.key)).setCell ⟨g, 2, none⟩ (.int .u32 c.val)
theorem put3_blk {W : World} {g : Nat} {t : TypeId} {a b d : Value} (h : Blk W g t #[a, b, d]) (c : Tri) : Blk (put3 W g c) g t c.cs := by
  have := ((h.set 0 (.int .i64 c.op)).set 1 (.int .u32 c.key)).set 2 (.int .u32 c.val)
  simpa using this
theorem put3_below {b g : Nat} {w W : World} (h : Below b w W) (hg : b ≤ g) (c : Tri) : Below b w (put3 W g c) :=
  below_set (below_set (below_set h (p := ⟨g, 0, none⟩) hg _) (p := ⟨g, 1, none⟩) hg _) (p := ⟨g, 2, none⟩) hg _

set_option maxRecDepth 100000 in
set_option maxHeartbeats 4000000 in
theorem parse_any (l : List UInt8) (hl : l.length ≤ 100000) (w : World) : Calls Tryd.prog 17 #[strV l] w fun e w' => e = .returned (optV (parseL l)) ∧ Below w.heap.size w w' := by
  have P := fun w => part_any l hl w
  obtain ⟨l1, l2⟩ := partL_len l
  have B := fun w => pair_any (partL l).2 (by omega) w
  have q1 := fun w => eq_str l delT w
  have q2 := fun w => eq_str l peekT w
  have q3 := fun w => eq_str (partL l).1 insT w
  have hX : parseL l = if l = delT then some ⟨1, 0, 0⟩ else if l = peekT then some ⟨2, 0, 0⟩ else match pairL (partL l).2 with | some (k, v) => if (partL l).1 = insT then some ⟨0, k, v⟩ else none | none => none := rfl
  have fin : ∀ o, parseL l = o → ∀ e w', e = Ending.returned (optV o) → Below w.heap.size w w' → (e = .returned (optV (parseL l)) ∧ Below w.heap.size w w') := by
    intro o h e w' h1 h2
    rw [h]
    exact ⟨h1, h2⟩
  generalize parseL l = X at *
  generalize (partL l).1 = x at *
  generalize (partL l).2 = y at *
  generalize pairL y = b at *
  unfold delT at q1 hX
  unfold peekT at q2 hX
  unfold insT at q3 hX
  have b0 := (Below.refl w.heap.size w).alloc (Nat.le_refl _) (.cells #[.int .i64 0, .int .u32 0, .int .u32 0] 24)
  have k0 := zero_blk w 24
  by_cases h1 : l = [100, 101, 108, 101, 116, 101, 109, 105, 110]
  · rw [if_pos h1] at hX
    have HE := Lib.hid (fin _ hX)
    have e1 := beqL_t h1
    have HB := Lib.hid ((Below.refl w.heap.size w).alloc (Nat.le_refl _) (.cells #[.int .i64 1, .int .u32 0, .int .u32 0] 24))
    clear hX fin P B q2 q3 h1 b0 k0
    go_enter Tryd.func17, Tryd.ntmps17
    go_wp2
    exact bodyPost_ret (v := optV (some ⟨1, 0, 0⟩)) (by simp [results, Tryd.results17, go_sem, optV]) rfl (HE.out _ _ rfl HB.out)
  rw [if_neg h1] at hX
  have e1 := beqL_f h1
  by_cases h2 : l = [112, 101, 101, 107, 109, 105, 110]
  · rw [if_pos h2] at hX
    have HE := Lib.hid (fin _ hX)
    have e2 := beqL_t h2
    have HB := Lib.hid ((Below.refl w.heap.size w).alloc (Nat.le_refl _) (.cells #[.int .i64 2, .int .u32 0, .int .u32 0] 24))
    clear hX fin P B q3 h1 h2 b0 k0
    go_enter Tryd.func17, Tryd.ntmps17
    go_wp2
    exact bodyPost_ret (v := optV (some ⟨2, 0, 0⟩)) (by simp [results, Tryd.results17, go_sem, optV]) rfl (HE.out _ _ rfl HB.out)
  rw [if_neg h2] at hX
  have e2 := beqL_f h2
  clear h1 h2
  go_enter Tryd.func17, Tryd.ntmps17
  go_wp2_with fail
  refine (P _).mono ?_
  rintro e w1 ⟨rfl, g1⟩
  have b1 := below_then b0 g1
  have k1 := k0.below g1 k0.lt
  have B1 := Lib.hid b1
  have K1 := Lib.hid k1
  clear b0 k0 g1 P b1 k1
  go_wp2_with fail
  refine (B _).mono ?_
  rintro e w2 ⟨rfl, g2⟩
  have b2 := below_then B1.out g2
  have k2 := K1.out.below g2 K1.out.lt
  obtain ⟨c0, c1, c2, f0, f1, f2⟩ := blk_cells k2
  have HB := Lib.hid b2
  have HK := Lib.hid k2
  clear B1 K1 g2 B b2 k2
  by_cases h3 : x = [105, 110, 115, 101, 114, 116]
  · have e3 := beqL_t h3
    cases b with
    | none =>
      have HE := Lib.hid (fin _ hX)
      obtain ⟨n0, n1, n2, _⟩ := blk_cells (put3_blk HK.out ⟨0, 0, 0⟩)
      have H0 := Lib.hid n0
      have H1 := Lib.hid n1
      have H2 := Lib.hid n2
      clear fin hX h3 n0 n1 n2
      simp only [pairV]
      go_wp2
      exact bodyPost_ret (v := optV none) (by simp [results, Tryd.results17, go_sem, optV, H0.out, H1.out, H2.out]) rfl (HE.out _ _ rfl (put3_below HB.out (Nat.le_refl _) ⟨0, 0, 0⟩))
    | some kv =>
      obtain ⟨k, v⟩ := kv
      simp only [if_pos h3] at hX
      have HE := Lib.hid (fin _ hX)
      obtain ⟨n0, n1, n2, _⟩ := blk_cells (put3_blk HK.out ⟨0, k, v⟩)
      have H0 := Lib.hid n0
      have H1 := Lib.hid n1
      have H2 := Lib.hid n2
      clear fin hX h3 n0 n1 n2
      simp only [pairV]
      go_wp2
      exact bodyPost_ret (v := optV (some ⟨0, k, v⟩)) (by simp [results, Tryd.results17, go_sem, optV, H0.out, H1.out, H2.out]) rfl (HE.out _ _ rfl (put3_below HB.out (Nat.le_refl _) ⟨0, k, v⟩))
  · have e3 := beqL_f h3
    have hX' : X = none := by
      cases b with
      | none => exact hX
      | some kv => simpa [h3] using hX
    have HE := Lib.hid (fin _ hX')
    obtain ⟨n0, n1, n2, _⟩ := blk_cells (put3_blk HK.out ⟨0, 0, 0⟩)
    have H0 := Lib.hid n0
    have H1 := Lib.hid n1
    have H2 := Lib.hid n2
    clear fin hX hX' h3 n0 n1 n2
    cases b with
    | none =>
      simp only [pairV]
      go_wp2
      exact bodyPost_ret (v := optV none) (by simp [results, Tryd.results17, go_sem, optV, H0.out, H1.out, H2.out]) rfl (HE.out _ _ rfl (put3_below HB.out (Nat.le_refl _) ⟨0, 0, 0⟩))
    | some kv =>
      obtain ⟨k, v⟩ := kv
      simp only [pairV]
      go_wp2
      exact bodyPost_ret (v := optV none) (by simp [results, Tryd.results17, go_sem, optV, H0.out, H1.out, H2.out]) rfl (HE.out _ _ rfl (put3_below HB.out (Nat.le_refl _) ⟨0, 0, 0⟩))
end Go.Proofs.YtifojpkcegefgaaDoor
