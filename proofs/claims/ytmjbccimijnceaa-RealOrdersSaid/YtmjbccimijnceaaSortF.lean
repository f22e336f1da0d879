/- slices.SortFunc of three at most. -/
import Derived.Test.YtmjbccimijnceaaSorts
namespace Go.Proofs.Ytmjbccimijnceaa
open Go.ChangeShapes Go.WideShapes Go.ChangeAt Go.RowKit
set_option linter.unusedVariables false
set_option linter.unusedSimpArgs false

set_option maxRecDepth 100000 in
theorem len64_any (n : Nat) (hn : n < 4) (w : World) : Calls Try.prog 43 #[.int .u64 n] w fun e w' => (∃ v, e = .returned (.int .i64 v)) ∧ w' = w := by
  rcases n with _ | _ | _ | _ | n
  all_goals first
    | (exfalso; omega)
    | (go_enter Try.func43, Try.ntmps43
       go_wp2
       go_ret
       exact ⟨⟨_, rfl⟩, rfl⟩)
theorem len_any (n : Nat) (hn : n < 4) (w : World) : Calls Try.prog 32 #[.int .u64 n] w fun e w' => (∃ v, e = .returned (.int .i64 v)) ∧ w' = w := by
  have K := fun W => len64_any n hn W
  go_enter Try.func32, Try.ntmps32
  go_wp2_with (go_at_call 43; refine (K _).mono ?_; rintro e w1 ⟨⟨v, rfl⟩, rfl⟩)
  go_ret
  exact ⟨⟨_, rfl⟩, rfl⟩

set_option maxRecDepth 100000 in
set_option maxHeartbeats 2000000 in
theorem pdq_any (g cap n : Nat) (lim : Int) (cb : Array Value) (w : World) (hn : n ≤ 12) (hcap : n ≤ cap) (hcap2 : cap ≤ 9223372036854775807) (R : World → Prop)
    (hI : Calls Try.prog 34 #[.slice (some ⟨g, 0, none⟩) n cap, .int .i64 0, .int .i64 n, .func (.func 28) #[] cb] w fun e W => e = .returned (.tuple #[]) ∧ R W) :
    Calls Try.prog 31 #[.slice (some ⟨g, 0, none⟩) n cap, .int .i64 0, .int .i64 n, .int .i64 lim, .func (.func 28) #[] cb] w fun e W => e = .returned (.tuple #[]) ∧ R W := by
  have K := Lib.hid hI
  clear hI
  have g1 : decide ((n : Int) ≤ 12) = true := by simp; omega
  go_enter Try.func31, Try.ntmps31
  go_wp2_with fail
  go_loopw [1, 2] (fun s1 s2 W => s1 = .int .i64 0 ∧ s2 = .int .i64 n ∧ W = w) (fun _ _ _ => 0)
  case atStart => exact ⟨rfl, rfl, rfl⟩
  case round =>
    obtain ⟨rfl, rfl, rfl⟩ := hrel
    go_wp2_with (go_at_call 34; refine K.out.mono ?_; rintro e w1 ⟨rfl, hw1⟩)
    (try simp only [Exit.inBlock, Exit.then])
    refine bodyPost_ret (results_none rfl _ _ _) rfl ?_
    exact ⟨rfl, hw1⟩
theorem sortFunc_any (g cap n : Nat) (cb : Array Value) (w : World) (hn : n < 4) (hcap : n ≤ cap) (hcap2 : cap ≤ 9223372036854775807) (R : World → Prop)
    (hI : Calls Try.prog 34 #[.slice (some ⟨g, 0, none⟩) n cap, .int .i64 0, .int .i64 n, .func (.func 28) #[] cb] w fun e W => e = .returned (.tuple #[]) ∧ R W) :
    Calls Try.prog 27 #[.slice (some ⟨g, 0, none⟩) n cap, .func (.func 28) #[] cb] w fun e W => e = .returned (.tuple #[]) ∧ R W := by
  have K := Lib.hid fun lim => pdq_any g cap n lim cb w (by omega) hcap hcap2 R hI
  have KL := Lib.hid fun W => len_any n hn W
  clear hI
  go_enter Try.func27, Try.ntmps27
  go_wp2_with (first
    | (go_at_call 32; refine (KL.out _).mono ?_; rintro e w1 ⟨⟨v, rfl⟩, rfl⟩)
    | (go_at_call 31; refine (K.out _).mono ?_; rintro e w2 ⟨rfl, hw2⟩))
  go_end0
  exact ⟨rfl, hw2⟩
end Go.Proofs.Ytmjbccimijnceaa
