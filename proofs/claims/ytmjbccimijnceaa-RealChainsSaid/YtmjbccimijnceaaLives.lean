/- The chapter's example. -/
import Derived.Test.YtmjbccimijnceaaRefMay
namespace Go.Proofs.Ytmjbccimijnceaa
open Go.ChangeShapes Go.WideShapes Go.ChangeAt Go.RowKit
set_option linter.unusedVariables false

theorem mayed_is {l : List Opr} {p : List Int} {w : World} {b0 : Bool} (h0 : b0 = true ↔ Mays l p) {e : Ending} {w' : World} (h : Mayed l p w e w') : e = .returned (.bool b0) ∧ Below w.heap.size w w' := by
  obtain ⟨⟨b, rfl, hb⟩, hw⟩ := h
  have e : b = b0 := by
    cases b <;> cases b0 <;> simp at * <;> simp_all
  exact ⟨by rw [e], hw⟩
theorem reads_new (W : World) (e : TypeId) (n size : Nat) (vs : List Value) (hv : vs.length = n * size) (hn : n ≤ 1000) : Reads (W.alloc (.cells vs.toArray e)) ⟨some ⟨W.heap.size, 0, none⟩, n, n⟩ size vs :=
  ⟨hv, ⟨Nat.le_refl _, by simp only [maxLen]; omega⟩, (by intro e; cases e), .inr ⟨_, _, rfl, fun j u hj => by
    rw [Nat.zero_add, (Blk.new W e vs.toArray).cell]
    simpa using hj⟩⟩
abbrev x0 : Opr := ⟨0, zt, zt, 0, 1⟩
abbrev x1 : Opr := ⟨0, zt, zt, 2, -1⟩
theorem exE : (encO [x0, x1]).toArray = #[.int .i64 0, .int .i64 0, .int .u32 0, .int .u32 0, .int .i64 0, .int .u32 0, .int .u32 0, .int .i64 0, .int .i64 1, .int .i64 0, .int .i64 0, .int .u32 0, .int .u32 0, .int .i64 0, .int .u32 0, .int .u32 0, .int .i64 2, .int .i64 (-1)] := rfl
theorem ex_may : Mays [x0, x1] [0] := by
  refine ⟨⟨by simp, by simp, by simp⟩, fun k hk ha => ?_⟩
  rcases k with _ | _ | k
  · simp
  · simp [ans, ith] at ha
  · simp at hk; omega
theorem ex_not : ¬ Mays [x0, x1] [1, 0] := by
  rintro ⟨⟨h1, h2, h3⟩, h4⟩
  simp [aheadAt, ahd, ith] at h3

set_option maxRecDepth 100000 in
set_option maxHeartbeats 1000000 in
theorem lives_any (w : World) : Calls Try.prog 5 #[] w fun e w' => e = .returned (.bool true) ∧ Below w.heap.size w w' := by
  have r0 := reads_new w 32 2 9 (encO [x0, x1]) (by rw [encO_len]; rfl) (by omega)
  have b1 : Below w.heap.size w ((w.alloc (.cells (encO [x0, x1]).toArray 32)).alloc (.cells #[.int .i64 0] 3)) := ((Below.refl _ _).alloc (Nat.le_refl _) _).alloc (by simp) _
  have K1 : Calls Try.prog 8 #[.slice (some ⟨w.heap.size, 0, none⟩) 2 2, .slice (some ⟨w.heap.size + 1, 0, none⟩) 1 1] ((w.alloc (.cells (encO [x0, x1]).toArray 32)).alloc (.cells #[.int .i64 0] 3)) fun e w' => e = .returned (.bool true) ∧ Below ((w.alloc (.cells (encO [x0, x1]).toArray 32)).alloc (.cells #[.int .i64 0] 3)).heap.size ((w.alloc (.cells (encO [x0, x1]).toArray 32)).alloc (.cells #[.int .i64 0] 3)) w' := by
    have rs := reads_new (w.alloc (.cells (encO [x0, x1]).toArray 32)) 3 1 1 (ints [0]) rfl (by omega)
    rw [World.size_alloc] at rs
    exact (may_any ⟨some ⟨w.heap.size, 0, none⟩, 2, 2⟩ ⟨some ⟨w.heap.size + 1, 0, none⟩, 1, 1⟩ [x0, x1] [0] _ (r0.below ((Below.refl _ _).alloc (Nat.le_refl _) _)) rs (by simp)).mono fun e w' h => mayed_is (b0 := true) (by simp; exact ex_may) h
  have K2 : ∀ V, Below ((w.alloc (.cells (encO [x0, x1]).toArray 32)).alloc (.cells #[.int .i64 0] 3)).heap.size ((w.alloc (.cells (encO [x0, x1]).toArray 32)).alloc (.cells #[.int .i64 0] 3)) V →
      Calls Try.prog 8 #[.slice (some ⟨w.heap.size, 0, none⟩) 2 2, .slice (some ⟨V.heap.size, 0, none⟩) 2 2] (V.alloc (.cells #[.int .i64 1, .int .i64 0] 3)) fun e w' => e = .returned (.bool false) ∧ Below w.heap.size w w' := fun V hb => by
    have rs := reads_new V 3 2 1 (ints [1, 0]) rfl (by omega)
    have hb2 := hb.alloc hb.size (.cells #[.int .i64 1, .int .i64 0] 3)
    have hbw := b1.trans (hb2.mono b1.size)
    refine (may_any ⟨some ⟨w.heap.size, 0, none⟩, 2, 2⟩ ⟨some ⟨V.heap.size, 0, none⟩, 2, 2⟩ [x0, x1] [1, 0] _ ((r0.below ((Below.refl _ _).alloc (Nat.le_refl _) _)).below hb2) rs (by simp)).mono fun e w' h => ?_
    obtain ⟨h1, h2⟩ := mayed_is (b0 := false) (by simp; exact ex_not) h
    exact ⟨h1, hbw.trans (h2.mono hbw.size)⟩
  rw [exE] at K1
  simp only [exE] at K2
  have K1' := Lib.hid K1
  have K2' := Lib.hid K2
  clear K1 K2 r0 b1
  go_enter Try.func5, Try.ntmps5
  go_wp2_with (go_at_call 8; first | (refine (K2'.out V hb).mono ?_; rintro e V2 ⟨rfl, hb2⟩) | (refine K1'.out.mono ?_; rintro e V ⟨rfl, hb⟩))
  go_ret
  exact ⟨rfl, hb2⟩

end Go.Proofs.Ytmjbccimijnceaa
