/- The plan's numbers; an area's end, the area behind it. -/
import Derived.Test.YtnedifcjenlcjaaPNew
namespace Go.Proofs.Ytnedifcjenlcjaa.P
open Go.ChangeShapes Go.WideShapes Go.ChangeAt Go.RowKit
set_option linter.unusedVariables false
set_option maxRecDepth 20000


theorem eq_plan (c d : Cf) (w : World) : (Op.equalIn 10000 65 c.v d.v).run Try.prog w = .ok (c.eqB d) w := by
  obtain ⟨a1, a2, a3, a4, a5, a6, a7⟩ := c
  obtain ⟨b1, b2, b3, b4, b5, b6, b7⟩ := d
  simp [go_sem, Cf.eqB]
  by_cases h1 : a1 = b1 <;> by_cases h2 : a2 = b2 <;> by_cases h3 : a3 = b3 <;> by_cases h4 : a4 = b4 <;> by_cases h5 : a5 = b5 <;> by_cases h6 : a6 = b6 <;> by_cases h7 : a7 = b7 <;> simp [h1, h2, h3, h4, h5, h6, h7]

theorem zero_no (c : Cf) (w : World) (h : c.Ok) : Calls Try.prog 59 #[c.v] w fun e w' => e = .returned (.bool false) ∧ Below w.heap.size w w' := by
  have hne : ¬ c = zc := fun e => by have := h.t0; rw [e] at this; simp at this
  have hq : ∀ w, (Op.equalIn 10000 65 c.v zc.v).run Try.prog w = .ok false w := fun w => by rw [eq_plan, Cf.eqB_false hne]
  clear h hne
  go_enter Try.func59, Try.ntmps59
  go_wp2
  go_ret
  exact ⟨rfl, (Below.refl _ _).alloc (Nat.le_refl _) _⟩
theorem zero_yes (w : World) : Calls Try.prog 59 #[zc.v] w fun e w' => e = .returned (.bool true) ∧ Below w.heap.size w w' := by
  have hq : ∀ w, (Op.equalIn 10000 65 zc.v zc.v).run Try.prog w = .ok true w := fun w => by rw [eq_plan, Cf.eqB_self]
  go_enter Try.func59, Try.ntmps59
  go_wp2
  go_ret
  exact ⟨rfl, (Below.refl _ _).alloc (Nat.le_refl _) _⟩

/-! ### Slots, Width, Sentinels, Conf, places -/
def Cf.slots (c : Cf) : Int := if c.al = 0 then 2 else 2 * c.lv + 2
def Cf.width (c : Cf) : Int := if c.al = 0 then 3 else 5 + c.lv
def Cf.places (c : Cf) : Int := if c.al = 0 then 2 ^ c.lv.toNat else 0

/-- A box of a plan, behind a callee that leaves what was there. -/
theorem boxed {w w1 : World} {t : TypeId} (c : Cf) (hb : Below (w.alloc (.cells c.cs t)).heap.size (w.alloc (.cells c.cs t)) w1) : Blk w1 w.heap.size t c.cs ∧ Below w.heap.size w w1 :=
  ⟨(Blk.new w t c.cs).below hb (by simp), below_then ((Below.refl _ _).alloc (Nat.le_refl _) _) hb (Nat.le_refl _)⟩

set_option maxHeartbeats 1000000 in
theorem slots_ok (c : Cf) (w : World) (h : c.Ok) : Calls Try.prog 61 #[c.v] w fun e w' => e = .returned (.int .i64 c.slots) ∧ Below w.heap.size w w' := by
  have hz := fun W => zero_no c W h
  obtain ⟨h1, h2, -, -, -, -, h7, h8, -⟩ := h
  obtain ⟨al, th, nd, lv, ba, pr, sc⟩ := c
  dsimp only at *
  by_cases h0 : al = 0
  · subst h0
    have hs : Cf.slots ⟨0, th, nd, lv, ba, pr, sc⟩ = 2 := rfl
    rw [hs]
    clear hs
    go_enter Try.func61, Try.ntmps61
    go_wp2_with fail
    refine (hz _).mono ?_
    rintro e w1 ⟨rfl, hb⟩
    obtain ⟨hB, h0⟩ := boxed ⟨0, th, nd, lv, ba, pr, sc⟩ hb
    obtain ⟨x0, x1, x2, x3, x4, x5, x6⟩ := hB.conf
    go_wp2
    go_ret
    exact ⟨rfl, h0⟩
  · have hs : Cf.slots ⟨al, th, nd, lv, ba, pr, sc⟩ = 2 * lv + 2 := if_neg h0
    rw [hs]
    clear hs
    have h0' : (al == 0) = false := by simpa using h0
    go_enter Try.func61, Try.ntmps61
    go_wp2_with fail
    refine (hz _).mono ?_
    rintro e w1 ⟨rfl, hb⟩
    obtain ⟨hB, h0⟩ := boxed ⟨al, th, nd, lv, ba, pr, sc⟩ hb
    obtain ⟨x0, x1, x2, x3, x4, x5, x6⟩ := hB.conf
    go_wp2
    go_ret
    exact ⟨rfl, h0⟩
set_option maxHeartbeats 1000000 in
theorem width_ok (c : Cf) (w : World) (h : c.Ok) : Calls Try.prog 62 #[c.v] w fun e w' => e = .returned (.int .i64 c.width) ∧ Below w.heap.size w w' := by
  have hz := fun W => zero_no c W h
  obtain ⟨h1, h2, -, -, -, -, h7, h8, -⟩ := h
  obtain ⟨al, th, nd, lv, ba, pr, sc⟩ := c
  dsimp only at *
  by_cases h0 : al = 0
  · subst h0
    have hs : Cf.width ⟨0, th, nd, lv, ba, pr, sc⟩ = 3 := rfl
    rw [hs]
    clear hs
    go_enter Try.func62, Try.ntmps62
    go_wp2_with fail
    refine (hz _).mono ?_
    rintro e w1 ⟨rfl, hb⟩
    obtain ⟨hB, h0⟩ := boxed ⟨0, th, nd, lv, ba, pr, sc⟩ hb
    obtain ⟨x0, x1, x2, x3, x4, x5, x6⟩ := hB.conf
    go_wp2
    go_ret
    exact ⟨rfl, h0⟩
  · have hs : Cf.width ⟨al, th, nd, lv, ba, pr, sc⟩ = 5 + lv := if_neg h0
    rw [hs]
    clear hs
    have h0' : (al == 0) = false := by simpa using h0
    go_enter Try.func62, Try.ntmps62
    go_wp2_with fail
    refine (hz _).mono ?_
    rintro e w1 ⟨rfl, hb⟩
    obtain ⟨hB, h0⟩ := boxed ⟨al, th, nd, lv, ba, pr, sc⟩ hb
    obtain ⟨x0, x1, x2, x3, x4, x5, x6⟩ := hB.conf
    go_wp2
    go_ret
    exact ⟨rfl, h0⟩
theorem sentinelsM_any (c : Cf) (w : World) : Calls Try.prog 28 #[c.v] w fun e w' => e = .returned (.int .i64 (sent c.al)) ∧ Below w.heap.size w w' := by
  go_enter Try.func28, Try.ntmps28
  go_wp2_with (go_at_call 42; refine (sentinels_any _ _).mono ?_; rintro e w1 ⟨rfl, rfl⟩)
  go_ret
  exact ⟨rfl, (Below.refl _ _).alloc (Nat.le_refl _) _⟩
theorem conf_any (c : Cf) (w : World) : Calls Try.prog 45 #[c.v] w fun e w' => e = .returned c.v ∧ Below w.heap.size w w' := by
  go_enter Try.func45, Try.ntmps45
  go_wp2
  refine bodyPost_ret (v := c.v) (by simp [results, Try.results45, go_sem]) rfl ⟨rfl, ?_⟩
  exact ((Below.refl _ _).alloc (Nat.le_refl _) _).alloc (by simp) _
set_option maxHeartbeats 1000000 in
theorem places_ok (c : Cf) (w : World) (h : c.Ok) : Calls Try.prog 63 #[c.v] w fun e w' => e = .returned (.int .i64 c.places) ∧ Below w.heap.size w w' := by
  obtain ⟨h1, h2, -, -, -, -, h7, h8, -⟩ := h
  obtain ⟨al, th, nd, lv, ba, pr, sc⟩ := c
  dsimp only at *
  by_cases h0 : al = 0
  · subst h0
    have hl : lv = 1 ∨ lv = 2 ∨ lv = 3 ∨ lv = 4 ∨ lv = 5 ∨ lv = 6 := by omega
    rcases hl with rfl | rfl | rfl | rfl | rfl | rfl
    all_goals
      clear h1 h2 h7 h8
      go_enter Try.func63, Try.ntmps63
      go_wp2
      go_ret
      exact ⟨rfl, (Below.refl _ _).alloc (Nat.le_refl _) _⟩
  · have hs : Cf.places ⟨al, th, nd, lv, ba, pr, sc⟩ = 0 := if_neg h0
    rw [hs]
    clear hs
    have h0' : (al != 0) = true := by simpa using h0
    go_enter Try.func63, Try.ntmps63
    go_wp2
    go_ret
    exact ⟨rfl, (Below.refl _ _).alloc (Nat.le_refl _) _⟩

/-! ### end, behind -/
theorem end_any (f b r k : Int) (w : World) (h0 : 0 ≤ f) (h1 : f ≤ 100000) (h2 : 0 ≤ r * k) (h3 : r * k ≤ 100000) : Calls Try.prog 40 #[.agg #[.int .i64 f, .int .i64 b, .int .i64 r, .int .i64 k]] w fun e w' => e = .returned (.int .i64 (f + r * k)) ∧ Below w.heap.size w w' := by
  go_enter Try.func40, Try.ntmps40
  go_wp2
  go_ret
  exact ⟨rfl, (Below.refl _ _).alloc (Nat.le_refl _) _⟩
set_option maxHeartbeats 1000000 in
theorem behind_any (f b r k b' r' k' : Int) (w : World) (h0 : 0 ≤ f) (h1 : f ≤ 100000) (h2 : 0 ≤ r * k) (h3 : r * k ≤ 100000) :
    Calls Try.prog 60 #[.agg #[.int .i64 f, .int .i64 b, .int .i64 r, .int .i64 k], .int .i64 b', .int .i64 r', .int .i64 k'] w fun e w' => e = .returned (.agg #[.int .i64 (f + r * k), .int .i64 b', .int .i64 r', .int .i64 k']) ∧ Below w.heap.size w w' := by
  go_enter Try.func60, Try.ntmps60
  go_wp2_with fail
  refine (end_any f b r k _ h0 h1 h2 h3).mono ?_
  rintro e w1 ⟨rfl, hb⟩
  have hR : Blk w1 (w.heap.size + 1) 94 #[.int .i64 0, .int .i64 0, .int .i64 0, .int .i64 0] := by
    have := Blk.new (w.alloc (.cells #[.int .i64 f, .int .i64 b, .int .i64 r, .int .i64 k] 94)) 94 #[.int .i64 0, .int .i64 0, .int .i64 0, .int .i64 0]
    rw [show (w.alloc (.cells #[.int .i64 f, .int .i64 b, .int .i64 r, .int .i64 k] 94)).heap.size = w.heap.size + 1 by simp] at this
    exact this.below hb (by simp)
  have hbl : Below w.heap.size w w1 := below_then (((Below.refl _ _).alloc (Nat.le_refl _) _).alloc (by simp) _) hb (Nat.le_refl _)
  clear hb
  have z0 := hR.cell 0
  have z1 := hR.cell 1
  have z2 := hR.cell 2
  have z3 := hR.cell 3
  have zf := hR.frozen
  simp only [List.getElem?_toArray, List.getElem?_cons_zero, List.getElem?_cons_succ] at z0 z1 z2 z3
  have hR0 : w.heap.size ≤ w.heap.size + 1 := by omega
  generalize w.heap.size + 1 = R at *
  go_wp2
  refine bodyPost_ret (v := .agg #[.int .i64 (f + r * k), .int .i64 b', .int .i64 r', .int .i64 k']) (by simp [results, Try.results60, go_sem, z0, z1, z2, z3]) rfl ⟨rfl, ?_⟩
  exact (((hbl.setCell hR0 _).setCell hR0 _).setCell hR0 _).setCell hR0 _
end Go.Proofs.Ytnedifcjenlcjaa.P
