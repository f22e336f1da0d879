/- May a step be; what 'do' answers of a step that may be. -/
import Derived.Test.YtogbakgmkiiboaaMDone
import Derived.Test.YtogbakgmkiiboaaMArg
namespace Go.Proofs.Ytogbakgmkiiboaa
open Go.ChangeShapes Go.WideShapes Go.ChangeAt Go.RowKit
set_option linter.unusedVariables false
set_option maxRecDepth 20000


/-- May a step be, of n words? -/
def rightB (k a b : Int) (n : Nat) : Bool := decide (0 ≤ k) && decide (k ≤ 5) && inB n a && (decide (k < 4) || (inB n b && (decide (k = 5) || !decide (a = b))))

set_option maxRecDepth 100000 in
set_option maxHeartbeats 4000000 in
theorem right_any (k a b o x p q : Int) (n : Nat) (w : World) :
    Calls Try.prog 27 #[opV k a b o x p q, .int .i64 n] w fun e w' => e = .returned (.bool (rightB k a b n)) ∧ Below w.heap.size w w' := by
  have hb1 : Below w.heap.size w (w.alloc (.cells #[.int .i64 k, .int .i64 a, .int .i64 b, .int .u64 o, .int .u64 x, .int .u64 p, .int .u64 q] 63)) := (Below.refl _ _).alloc (Nat.le_refl _) _
  by_cases h0 : k < 0
  · have hr : rightB k a b n = false := by unfold rightB inB; rw [Bool.eq_false_iff]; intro h; simp at h; omega
    rw [hr]
    clear hr
    go_enter Try.func27, Try.ntmps27
    go_wp2
    go_ret
    exact ⟨rfl, hb1⟩
  by_cases h5 : 5 < k
  · have hr : rightB k a b n = false := by unfold rightB inB; rw [Bool.eq_false_iff]; intro h; simp at h; omega
    rw [hr]
    clear hr
    go_enter Try.func27, Try.ntmps27
    go_wp2
    go_ret
    exact ⟨rfl, hb1⟩
  by_cases ha0 : a < 0
  · have hr : rightB k a b n = false := by unfold rightB inB; rw [Bool.eq_false_iff]; intro h; simp at h; omega
    rw [hr]
    clear hr
    go_enter Try.func27, Try.ntmps27
    go_wp2
    go_ret
    exact ⟨rfl, hb1⟩
  by_cases ha1 : (n : Int) ≤ a
  · have hr : rightB k a b n = false := by unfold rightB inB; rw [Bool.eq_false_iff]; intro h; simp at h; omega
    rw [hr]
    clear hr
    go_enter Try.func27, Try.ntmps27
    go_wp2
    go_ret
    exact ⟨rfl, hb1⟩
  by_cases h4 : k < 4
  · have hr : rightB k a b n = true := by unfold rightB inB; simp; omega
    rw [hr]
    clear hr
    go_enter Try.func27, Try.ntmps27
    go_wp2
    go_ret
    exact ⟨rfl, hb1⟩
  by_cases hc0 : b < 0
  · have hr : rightB k a b n = false := by unfold rightB inB; rw [Bool.eq_false_iff]; intro h; simp at h; omega
    rw [hr]
    clear hr
    go_enter Try.func27, Try.ntmps27
    go_wp2
    go_ret
    exact ⟨rfl, hb1⟩
  by_cases hc1 : (n : Int) ≤ b
  · have hr : rightB k a b n = false := by unfold rightB inB; rw [Bool.eq_false_iff]; intro h; simp at h; omega
    rw [hr]
    clear hr
    go_enter Try.func27, Try.ntmps27
    go_wp2
    go_ret
    exact ⟨rfl, hb1⟩
  by_cases hk5 : k = 5
  · have hr : rightB k a b n = true := by unfold rightB inB; simp; omega
    rw [hr]
    clear hr
    subst hk5
    go_enter Try.func27, Try.ntmps27
    go_wp2
    go_ret
    exact ⟨rfl, hb1⟩
  by_cases hab : a = b
  · have hr : rightB k a b n = false := by unfold rightB inB; rw [Bool.eq_false_iff]; intro h; simp at h; omega
    rw [hr]
    clear hr
    subst hab
    obtain rfl : k = 4 := by omega
    go_enter Try.func27, Try.ntmps27
    go_wp2
    go_ret
    exact ⟨rfl, hb1⟩
  have hr : rightB k a b n = true := by unfold rightB inB; simp; omega
  rw [hr]
  clear hr
  obtain rfl : k = 4 := by omega
  have e1 : (a != b) = true := by simpa using hab
  go_enter Try.func27, Try.ntmps27
  go_wp2
  go_ret
  exact ⟨rfl, hb1⟩

/-- A step that may be: the words behind it, what it tells, whether something was written. -/
def act (ws : List Int) (k : Int) (a : Nat) (b o x p q : Int) : List Int × Int × Bool :=
  if k = 0 then (ws, wordAt ws a, false)
  else if k = 1 then (ws.set a x, 0, true)
  else if k = 2 then (if wordAt ws a = o then (ws.set a x, 0, true) else (ws, 0, false))
  else if k = 3 then (ws.set a (IntKind.u64.wrap (wordAt ws a + x)), wordAt ws a, true)
  else if wordAt ws a = o ∧ wordAt ws b.toNat = p then ((if k = 4 then (ws.set a x).set b.toNat q else ws.set a x), 0, true) else (ws, 0, false)
theorem act_len (ws : List Int) (k : Int) (a : Nat) (b o x p q : Int) : (act ws k a b o x p q).1.length = ws.length := by
  unfold act
  repeat' split
  all_goals simp
/-- How it is logged. -/
def entry (ws : List Int) (k : Int) (a : Nat) (b o x p q : Int) : Acc := (k, a, if k < 4 then -1 else b, (act ws k a b o x p q).2.2)

end Go.Proofs.Ytogbakgmkiiboaa
