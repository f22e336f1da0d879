/- The memory's six steps, whatever is asked of them; the machine's six steps. Printed by core_steps.py. -/
import Derived.Test.YtemikojaldoofaaGreatKTouch
import Derived.Test.YtemikojaldoofaaGreatMA
namespace Go.Proofs.YtemikojaldoofaaGreat
open Go.ChangeShapes Go.WideShapes Go.ChangeAt Go.RowKit
set_option linter.unusedVariables false

set_option maxRecDepth 20000

/-- What a step is told of: its error; the memory behind it; what it tells, and whether something was written. -/
def errR (r : Bool) : Int := if r then 0 else 2
def msR (ms : MS) (k a b o x p q : Int) : MS := if rightB k a b ms.ws.length then MS.counted ⟨(act ms.ws k a.toNat b o x p q).1, ms.st, ms.wa, ms.log⟩ (entry ms.ws k a.toNat b o x p q) else ms
def valR (ms : MS) (k a b o x p q : Int) : Int := if rightB k a b ms.ws.length then (act ms.ws k a.toNat b o x p q).2.1 else 0
def okR (ms : MS) (k a b o x p q : Int) : Bool := if rightB k a b ms.ws.length then (act ms.ws k a.toNat b o x p q).2.2 else false
theorem errR_bad (bad r : Bool) : (bad || !decide (errR r = 0)) = (bad || !r) := by cases r <;> simp [errR]
theorem right_in {k a b : Int} {n : Nat} (h : rightB k a b n = true) : 0 ≤ a ∧ a < n := by
  unfold rightB inB at h; simp at h; omega
theorem right_b {k a b : Int} {n : Nat} (h : rightB k a b n = true) (h4 : 4 ≤ k) : 0 ≤ b ∧ b < n ∧ (k = 4 → a ≠ b) := by
  unfold rightB inB at h; simp at h
  rcases h with ⟨⟨⟨_, _⟩, _⟩, h | ⟨h, h'⟩⟩
  · omega
  · refine ⟨h.1, h.2, fun e => ?_⟩
    rcases h' with h' | h'
    · omega
    · exact h'
theorem wrong_of {k a b : Int} {n : Nat} (h : rightB k a b n = false) (k0 : 0 ≤ k) (k5 : k ≤ 5) : inB n a = false ∨ (4 ≤ k ∧ inB n b = false) ∨ (k = 4 ∧ a = b) := by
  by_cases h1 : inB n a = true
  · by_cases h4 : 4 ≤ k
    · by_cases h2 : inB n b = true
      · by_cases h3 : a = b
        · refine .inr (.inr ⟨?_, h3⟩)
          by_cases h5 : k = 4
          · exact h5
          · exfalso
            have : rightB k a b n = true := by unfold rightB; rw [h1, h2]; simp; omega
            rw [h] at this; cases this
        · exfalso
          have : rightB k a b n = true := by unfold rightB; rw [h1, h2]; simp [h3]; omega
          rw [h] at this; cases this
      · exact .inr (.inl ⟨h4, by simpa using h2⟩)
    · exfalso
      have : rightB k a b n = true := by unfold rightB; rw [h1]; simp; omega
      rw [h] at this; cases this
  · exact .inl (by simpa using h1)

theorem mload (M : Nat) (ms : MS) (O : Nat → Prop) (a : Int) (w : World) (h : MemAt M ms O w) (hf : ms.fine) :
    Calls Tryz.prog 18 #[at0 M, .int .i64 a] w (Does M (.tuple #[.int .u64 (valR ms 0 a 0 0 0 0 0), .int .i64 (errR (rightB 0 a 0 ms.ws.length))]) (msR ms 0 a 0 0 0 0 0) O w) := by
  cases hr : rightB 0 a 0 ms.ws.length with
  | true =>
    obtain ⟨a0, a1⟩ := right_in hr
    obtain ⟨j, rfl⟩ : ∃ j : Nat, a = j := ⟨a.toNat, by omega⟩
    have hj : j < ms.ws.length := by omega
    have hact : act ms.ws 0 j 0 0 0 0 0 = (ms.ws, wordAt ms.ws j, false) := by simp [act]
    simp only [msR, valR, hr, if_true, errR, Int.toNat_natCast, entry, hact]
    exact load_ok M ms O j w h hf hj
  | false =>
    simp only [msR, valR, hr, errR, Bool.false_eq_true, if_false]
    rcases wrong_of hr (by decide) (by decide) with h1 | ⟨h1, _⟩ | ⟨h1, _⟩
    · exact load_bad M ms O a w h hf (askR_bad (a := a) (by simp) h1)
    · omega
    · omega
theorem mstore (M : Nat) (ms : MS) (O : Nat → Prop) (a x : Int) (w : World) (h : MemAt M ms O w) (hf : ms.fine) :
    Calls Tryz.prog 13 #[at0 M, .int .i64 a, .int .u64 x] w (Does M (.int .i64 (errR (rightB 1 a 0 ms.ws.length))) (msR ms 1 a 0 0 x 0 0) O w) := by
  cases hr : rightB 1 a 0 ms.ws.length with
  | true =>
    obtain ⟨a0, a1⟩ := right_in hr
    obtain ⟨j, rfl⟩ : ∃ j : Nat, a = j := ⟨a.toNat, by omega⟩
    have hj : j < ms.ws.length := by omega
    have hact : act ms.ws 1 j 0 0 x 0 0 = (ms.ws.set j x, 0, true) := by simp [act]
    simp only [msR, hr, if_true, errR, Int.toNat_natCast, entry, hact]
    exact store_ok M ms.ws ms.st ms.wa ms.log O j x w h hf hj
  | false =>
    simp only [msR, hr, errR, Bool.false_eq_true, if_false]
    rcases wrong_of hr (by decide) (by decide) with h1 | ⟨h1, _⟩ | ⟨h1, _⟩
    · exact store_bad M ms O a x w h hf (askR_bad (a := a) (by simp) h1)
    · omega
    · omega
theorem mcas (M : Nat) (ms : MS) (O : Nat → Prop) (a o x : Int) (w : World) (h : MemAt M ms O w) (hf : ms.fine) :
    Calls Tryz.prog 109 #[at0 M, .int .i64 a, .int .u64 o, .int .u64 x] w (Does M (.tuple #[.bool (okR ms 2 a 0 o x 0 0), .int .i64 (errR (rightB 2 a 0 ms.ws.length))]) (msR ms 2 a 0 o x 0 0) O w) := by
  cases hr : rightB 2 a 0 ms.ws.length with
  | true =>
    obtain ⟨a0, a1⟩ := right_in hr
    obtain ⟨j, rfl⟩ : ∃ j : Nat, a = j := ⟨a.toNat, by omega⟩
    have hj : j < ms.ws.length := by omega
    by_cases ho : wordAt ms.ws j = o
    · have hact : act ms.ws 2 j 0 o x 0 0 = (ms.ws.set j x, 0, true) := by simp [act, ho]
      simp only [msR, okR, hr, if_true, errR, Int.toNat_natCast, entry, hact]
      exact cas_yes M ms.ws ms.st ms.wa ms.log O j o x w h hf hj ho
    · have hact : act ms.ws 2 j 0 o x 0 0 = (ms.ws, 0, false) := by simp [act, ho]
      simp only [msR, okR, hr, if_true, errR, Int.toNat_natCast, entry, hact]
      exact cas_no M ms.ws ms.st ms.wa ms.log O j o x w h hf hj ho
  | false =>
    simp only [msR, okR, hr, errR, Bool.false_eq_true, if_false]
    rcases wrong_of hr (by decide) (by decide) with h1 | ⟨h1, _⟩ | ⟨h1, _⟩
    · exact cas_bad M ms O a o x w h hf (askR_bad (a := a) (by simp) h1)
    · omega
    · omega
/-! ### The machine's steps -/
theorem new_i {W : World} {O : Nat → Prop} (hO : ∀ k, O k → k < W.heap.size) : ¬ O W.heap.size := fun h => by have := hO _ h; omega
set_option maxHeartbeats 1000000 in
theorem kload (B : Nat) (c : P.Cf) (F T : Nat) (ms : MS) (gs : Gh) (bad : Bool) (O : Nat → Prop) (a : Int) (w : World) (hc : c.Ok) (h : MachAt B c F T ms gs bad O w) (hf : ms.fine) (ha : P.I64 a) :
    Calls Tryz.prog 69 #[at0 B, .int .i64 a] w (MDoes B c F T (.int .u64 (valR ms 0 a 0 0 0 0 0)) (msR ms 0 a 0 0 0 0 0) (touchM c [a] gs) (bad || !rightB 0 a 0 ms.ws.length) O w) := by
  have KT := touch_any B w.heap.size 1 c F T ms gs bad O [a] (w.alloc (.cells #[.int .i64 a] 3)) hc (h.alloc _) (Blk.new _ _ _) (new_i fun k hk => h.lt hk) rfl (by omega) (by intro x hx; simp at hx; subst hx; exact ha)
  have kA := (Keeps.refl O w).alloc (.cells #[.int .i64 a] 3)
  rw [← errR_bad]
  generalize touchM c [a] gs = gs' at *
  clear h
  go_enter Tryz.func69, Tryz.ntmps69
  go_wp2_with fail
  refine KT.mono ?_
  rintro e w1 ⟨rfl, O1, k1, l1, M, Om, hO1, hb1, hm1, hg1⟩
  have K1 : Hid (Keeps O w w1) := Lib.hid (kA.trans k1 (Later.refl _ _))
  have L1 : Hid (Later O w O1) := Lib.hid ((Later.refl O w).trans kA.size l1)
  clear KT kA k1 l1
  go_wp2_with fail
  refine (mem_any B M c _ F T _ bad _ hb1).mono ?_
  rintro e w1' ⟨rfl, rfl⟩
  have KM := mload M ms Om a w1 hm1 hf
  generalize rightB 0 a 0 ms.ws.length = r at *
  generalize valR ms 0 a 0 0 0 0 0 = y at *
  generalize msR ms 0 a 0 0 0 0 0 = ms' at *
  generalize errR r = er at *
  go_wp2_with fail
  refine KM.mono ?_
  rintro e w2 ⟨rfl, ht⟩
  have hT := MachAt.mem hb1 hm1 hg1 ht
  rw [← hO1] at hT
  obtain ⟨O2, k2, l2, h2⟩ := hT
  have KN := note_any B c F T ms' gs' bad O2 er w2 h2
  have K2 : Hid (Keeps O w w2) := Lib.hid (K1.out.trans k2 L1.out)
  have L2 : Hid (Later O w O2) := Lib.hid (L1.out.trans K1.out.size l2)
  clear KM hb1 hm1 hg1 ht hO1 k2 l2 h2
  go_wp2_with fail
  refine KN.mono ?_
  rintro e w3 ⟨rfl, hT⟩
  have hT := MTurn.from K2.out L2.out hT
  have HT := Lib.hid hT
  clear hT KN
  go_wp2
  go_ret
  exact ⟨rfl, HT.out⟩
set_option maxHeartbeats 1000000 in
theorem kstore (B : Nat) (c : P.Cf) (F T : Nat) (ms : MS) (gs : Gh) (bad : Bool) (O : Nat → Prop) (a x : Int) (w : World) (hc : c.Ok) (h : MachAt B c F T ms gs bad O w) (hf : ms.fine) (ha : P.I64 a) :
    Calls Tryz.prog 68 #[at0 B, .int .i64 a, .int .u64 x] w (MDoes B c F T (.tuple #[]) (msR ms 1 a 0 0 x 0 0) (touchM c [a] gs) (bad || !rightB 1 a 0 ms.ws.length) O w) := by
  have KT := touch_any B w.heap.size 1 c F T ms gs bad O [a] (w.alloc (.cells #[.int .i64 a] 3)) hc (h.alloc _) (Blk.new _ _ _) (new_i fun k hk => h.lt hk) rfl (by omega) (by intro x hx; simp at hx; subst hx; exact ha)
  have kA := (Keeps.refl O w).alloc (.cells #[.int .i64 a] 3)
  rw [← errR_bad]
  generalize touchM c [a] gs = gs' at *
  clear h
  go_enter Tryz.func68, Tryz.ntmps68
  go_wp2_with fail
  refine KT.mono ?_
  rintro e w1 ⟨rfl, O1, k1, l1, M, Om, hO1, hb1, hm1, hg1⟩
  have K1 : Hid (Keeps O w w1) := Lib.hid (kA.trans k1 (Later.refl _ _))
  have L1 : Hid (Later O w O1) := Lib.hid ((Later.refl O w).trans kA.size l1)
  clear KT kA k1 l1
  go_wp2_with fail
  refine (mem_any B M c _ F T _ bad _ hb1).mono ?_
  rintro e w1' ⟨rfl, rfl⟩
  have KM := mstore M ms Om a x w1 hm1 hf
  generalize rightB 1 a 0 ms.ws.length = r at *
  generalize msR ms 1 a 0 0 x 0 0 = ms' at *
  generalize errR r = er at *
  go_wp2_with fail
  refine KM.mono ?_
  rintro e w2 ⟨rfl, ht⟩
  have hT := MachAt.mem hb1 hm1 hg1 ht
  rw [← hO1] at hT
  obtain ⟨O2, k2, l2, h2⟩ := hT
  have KN := note_any B c F T ms' gs' bad O2 er w2 h2
  have K2 : Hid (Keeps O w w2) := Lib.hid (K1.out.trans k2 L1.out)
  have L2 : Hid (Later O w O2) := Lib.hid (L1.out.trans K1.out.size l2)
  clear KM hb1 hm1 hg1 ht hO1 k2 l2 h2
  go_wp2_with fail
  refine KN.mono ?_
  rintro e w3 ⟨rfl, hT⟩
  have hT := MTurn.from K2.out L2.out hT
  have HT := Lib.hid hT
  clear hT KN
  go_wp2
  go_end0
  exact ⟨rfl, HT.out⟩
set_option maxHeartbeats 1000000 in
theorem kcas (B : Nat) (c : P.Cf) (F T : Nat) (ms : MS) (gs : Gh) (bad : Bool) (O : Nat → Prop) (a o x : Int) (w : World) (hc : c.Ok) (h : MachAt B c F T ms gs bad O w) (hf : ms.fine) (ha : P.I64 a) :
    Calls Tryz.prog 101 #[at0 B, .int .i64 a, .int .u64 o, .int .u64 x] w (MDoes B c F T (.bool (okR ms 2 a 0 o x 0 0)) (msR ms 2 a 0 o x 0 0) (touchM c [a] gs) (bad || !rightB 2 a 0 ms.ws.length) O w) := by
  have KT := touch_any B w.heap.size 1 c F T ms gs bad O [a] (w.alloc (.cells #[.int .i64 a] 3)) hc (h.alloc _) (Blk.new _ _ _) (new_i fun k hk => h.lt hk) rfl (by omega) (by intro x hx; simp at hx; subst hx; exact ha)
  have kA := (Keeps.refl O w).alloc (.cells #[.int .i64 a] 3)
  rw [← errR_bad]
  generalize touchM c [a] gs = gs' at *
  clear h
  go_enter Tryz.func101, Tryz.ntmps101
  go_wp2_with fail
  refine KT.mono ?_
  rintro e w1 ⟨rfl, O1, k1, l1, M, Om, hO1, hb1, hm1, hg1⟩
  have K1 : Hid (Keeps O w w1) := Lib.hid (kA.trans k1 (Later.refl _ _))
  have L1 : Hid (Later O w O1) := Lib.hid ((Later.refl O w).trans kA.size l1)
  clear KT kA k1 l1
  go_wp2_with fail
  refine (mem_any B M c _ F T _ bad _ hb1).mono ?_
  rintro e w1' ⟨rfl, rfl⟩
  have KM := mcas M ms Om a o x w1 hm1 hf
  generalize rightB 2 a 0 ms.ws.length = r at *
  generalize okR ms 2 a 0 o x 0 0 = y at *
  generalize msR ms 2 a 0 o x 0 0 = ms' at *
  generalize errR r = er at *
  go_wp2_with fail
  refine KM.mono ?_
  rintro e w2 ⟨rfl, ht⟩
  have hT := MachAt.mem hb1 hm1 hg1 ht
  rw [← hO1] at hT
  obtain ⟨O2, k2, l2, h2⟩ := hT
  have KN := note_any B c F T ms' gs' bad O2 er w2 h2
  have K2 : Hid (Keeps O w w2) := Lib.hid (K1.out.trans k2 L1.out)
  have L2 : Hid (Later O w O2) := Lib.hid (L1.out.trans K1.out.size l2)
  clear KM hb1 hm1 hg1 ht hO1 k2 l2 h2
  go_wp2_with fail
  refine KN.mono ?_
  rintro e w3 ⟨rfl, hT⟩
  have hT := MTurn.from K2.out L2.out hT
  have HT := Lib.hid hT
  clear hT KN
  go_wp2
  go_ret
  exact ⟨rfl, HT.out⟩
end Go.Proofs.YtemikojaldoofaaGreat
