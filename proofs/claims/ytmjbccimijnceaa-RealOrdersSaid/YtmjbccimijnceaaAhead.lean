/- Ahead, of the program and of the document. -/
import Derived.Test.YtmjbccimijnceaaMakers
namespace Go.Proofs.Ytmjbccimijnceaa
open Go.ChangeShapes Go.WideShapes Go.ChangeAt Go.RowKit
set_option linter.unusedVariables false

/-- Is an operation answered? -/
def ans (a : Opr) : Bool := decide (0 ≤ a.o)
/-- Is an operation ahead of another one? -/
def ahd (a b : Opr) : Bool := decide (0 ≤ a.o) && decide (a.o < b.f)

theorem answered_any (a : Opr) (w : World) : Calls Try.prog 11 #[a.v] w fun e w' => e = .returned (.bool (ans a)) ∧ Below w.heap.size w w' := by
  have e : ans a = decide (a.o ≥ 0) := rfl
  rw [e]
  clear e
  go_enter Try.func11, Try.ntmps11
  go_wp2
  go_ret
  exact ⟨rfl, (Below.refl _ _).alloc (Nat.le_refl _) _⟩

theorem ahead_any (a b : Opr) (w : World) : Calls Try.prog 6 #[a.v, b.v] w fun e w' => e = .returned (.bool (ahd a b)) ∧ Below w.heap.size w w' := by
  have hA := fun W => answered_any a W
  cases ha : ans a with
  | false =>
    have e : ahd a b = false := by unfold ahd; unfold ans at ha; simp [ha]
    rw [e]
    simp only [ha] at hA
    clear e ha
    go_enter Try.func6, Try.ntmps6
    go_wp2_with (go_at_call 11; refine (hA _).mono ?_; rintro e w1 ⟨rfl, hb⟩)
    go_ret
    exact ⟨rfl, below_then (((Below.refl _ _).alloc (Nat.le_refl _) _).alloc (by simp) _) hb⟩
  | true =>
    have e : ahd a b = decide (a.o < b.f) := by unfold ahd; unfold ans at ha; simp [ha]
    rw [e]
    simp only [ha] at hA
    clear e ha
    have q : ∀ w1, Below ((w.alloc (.cells a.cs 32)).alloc (.cells b.cs 32)).heap.size ((w.alloc (.cells a.cs 32)).alloc (.cells b.cs 32)) w1 → w1.cell? ⟨w.heap.size, 8, none⟩ = some (.int .i64 a.o) ∧ w1.cell? ⟨w.heap.size + 1, 7, none⟩ = some (.int .i64 b.f) := fun w1 hb => by
      have q2 := Blk.new (w.alloc (.cells a.cs 32)) 32 b.cs
      rw [World.size_alloc] at q2
      have q1 := ((Blk.new w 32 a.cs).alloc (.cells b.cs 32)).below hb (by simp; omega)
      replace q2 := q2.below hb (by simp)
      exact ⟨by rw [q1.cell]; rfl, by rw [q2.cell]; rfl⟩
    go_enter Try.func6, Try.ntmps6
    go_wp2_with (go_at_call 11; refine (hA _).mono ?_; rintro e w1 ⟨rfl, hb⟩; obtain ⟨q1, q2⟩ := q _ hb)
    go_ret
    exact ⟨rfl, below_then (((Below.refl _ _).alloc (Nat.le_refl _) _).alloc (by simp) _) hb⟩

theorem refAhead_any (a b : Opr) (w : World) : Calls Try.prog 7 #[a.v, b.v] w fun e w' => e = .returned (.bool (ahd a b)) ∧ Below w.heap.size w w' := by
  have hB : Below w.heap.size w ((w.alloc (.cells a.cs 32)).alloc (.cells b.cs 32)) := (((Below.refl _ _).alloc (Nat.le_refl _) _).alloc (by simp) _)
  by_cases h : a.o < 0
  · have e : ahd a b = false := by unfold ahd; simp; omega
    rw [e]
    clear e
    go_enter Try.func7, Try.ntmps7
    go_wp2
    go_ret
    exact ⟨rfl, hB⟩
  · have e : ahd a b = decide (a.o < b.f) := by unfold ahd; simp; omega
    rw [e]
    clear e
    go_enter Try.func7, Try.ntmps7
    go_wp2
    go_ret
    exact ⟨rfl, hB⟩
end Go.Proofs.Ytmjbccimijnceaa
