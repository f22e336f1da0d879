/- The law's own list beside a pile: 'taken', the test of Keep, and who owns what. -/
import Derived.Test.YtdhakdgbeokebaaKeep
namespace Go.Proofs.Ytdhakdgbeokebaa
open Go.RowKit Go.Shelf
set_option linter.unusedVariables false

theorem taken_no (a : Option Addr) (cap : Nat) (last : Bool) (w : World) : Calls Try.prog 9 #[.slice a 0 cap, .bool last] w fun e w' => e = .returned (.tuple #[.slice a 0 cap, .int .i64 0, .bool false]) ∧ w = w' := by
  go_enter Try.func9, Try.ntmps9
  go_wp2
  exact bodyPost_ret (v := .tuple #[.slice a 0 cap, .int .i64 0, .bool false]) (by simp [results, Try.results9, go_sem]) rfl ⟨rfl, rfl⟩

/-- What 'taken' hands back. -/
def TookL (v : Value) (x : Int) (xs : List Int) (w : World) (e : Ending) (w' : World) : Prop :=
  ∃ v' m, e = .returned (.tuple #[v', .int .i64 x, .bool true]) ∧ Row w 3 v' xs.length (ints xs) ∧ v'.ownBlock = v.ownBlock ∧ w' = w.drewN m

theorem taken_last (v : Value) (xs : List Int) (x : Int) (w : World) (hr : Row w 3 v (xs.length + 1) (ints (xs ++ [x]))) : Calls Try.prog 9 #[v, .bool true] w (TookL v x xs w) := by
  obtain ⟨g, off, cap, rfl, hc, hm, hcell, hf⟩ := hr.at_ (by omega)
  have h1 : w.cell? ⟨g, off + xs.length, none⟩ = some (.int .i64 x) := by rw [hcell _ (by omega)]; simp
  have hm2 : cap ≤ 9223372036854775807 := hm
  have hr2 := hr.init
  have e2 : (ints (xs ++ [x])).dropLast = ints xs := by simp
  rw [e2] at hr2
  have HR := Lib.hid hr2
  clear hr hr2 e2 hcell hf hm
  obtain ⟨k, hk⟩ : ∃ k, xs.length = k := ⟨_, rfl⟩
  have HK := Lib.hid hk
  rw [hk] at HR h1 hc ⊢
  clear hk
  go_enter Try.func9, Try.ntmps9
  go_wp2
  go_quiet (fail)
  go_wp2
  exact bodyPost_ret (v := .tuple #[.slice (some ⟨g, off, none⟩) k cap, .int .i64 x, .bool true]) (by simp [results, Try.results9, go_sem]) rfl ⟨_, _, rfl, by rw [HK.out]; exact HR.out, rfl, rfl⟩

theorem taken_first (v : Value) (xs : List Int) (x : Int) (w : World) (hr : Row w 3 v (xs.length + 1) (ints (x :: xs))) : Calls Try.prog 9 #[v, .bool false] w (TookL v x xs w) := by
  obtain ⟨g, off, cap, rfl, hc, hm, hcell, hf⟩ := hr.at_ (by omega)
  have h1 : w.cell? ⟨g, off, none⟩ = some (.int .i64 x) := by have := hcell 0 (by omega); simpa using this
  have hm2 : cap ≤ 9223372036854775807 := hm
  by_cases hcap : cap = 1
  · subst hcap
    obtain rfl : xs = [] := List.eq_nil_of_length_eq_zero (by omega)
    have HR := Lib.hid hr.none_
    clear hr hcell hf hm
    go_enter Try.func9, Try.ntmps9
    go_wp2
    go_quiet (fail)
    go_wp2
    exact bodyPost_ret (v := .tuple #[.slice (some ⟨g, off, none⟩) 0 0, .int .i64 x, .bool true]) (by simp [results, Try.results9, go_sem]) rfl ⟨_, _, rfl, HR.out, rfl, rfl⟩
  · have HR := Lib.hid hr.tail
    have h2 : 1 < cap := by omega
    clear hr hcell hf hm
    simp only [ints, List.map_cons, List.tail_cons] at HR
    obtain ⟨k, hk⟩ : ∃ k, xs.length = k := ⟨_, rfl⟩
    have HK := Lib.hid hk
    rw [hk] at HR hc ⊢
    clear hk
    go_enter Try.func9, Try.ntmps9
    go_wp2
    go_quiet (fail)
    go_wp2
    exact bodyPost_ret (v := .tuple #[.slice (some ⟨g, off + 1, none⟩) k (cap - 1), .int .i64 x, .bool true]) (by simp [results, Try.results9, go_sem]) rfl ⟨_, _, rfl, by rw [HK.out]; exact HR.out, rfl, rfl⟩

/-- Which numbers stay. -/
def stays (d x : Int) : Bool := x.tmod d != 0
theorem stay12 (x d : Int) (b : Nat) (W : World) (hx : InR x) (hb : Boxed W b 3 (.int .i64 d)) (d1 : 2 ≤ d) (d2 : d ≤ 1000) :
    Calls Try.prog 12 #[.int .i64 x, at0 b] W fun e W' => e = .returned (.bool (stays d x)) ∧ W' = W := by
  have c := hb.cell
  have x1 := hx.1
  have x2 := hx.2
  have d0 : ¬ d = 0 := by omega
  have d9 : ¬ d = -1 := by omega
  go_enter Try.func12, Try.ntmps12
  go_wp2
  go_ret
  exact ⟨rfl, rfl⟩
theorem stay_gives (d : Int) (b : Nat) (W : World) (hb : Boxed W b 3 (.int .i64 d)) (d1 : 2 ≤ d) (d2 : d ≤ 1000) : Gives (.func (.func 12) #[] #[at0 b]) (fun k => k = b) (fun x => .bool (stays d x)) W :=
  ⟨⟨12, _, rfl, enters_of Try.func12 (by kernel_rfl) rfl, fun W' hW x hx => (stay12 x d b W' hx ((hW b rfl).trans hb) d1 d2).mono fun e w' ⟨he, hw⟩ => ⟨he, by rw [hw]; exact Keeps.refl _ _⟩⟩, fun k h => by subst h; exact hb.lt⟩

end Go.Proofs.Ytdhakdgbeokebaa
