/- That nothing is told of nothing. -/
import Derived.Test.YtmjfahjafecnnaaMakers
import Derived.ProofKit
import Derived.OpenShut
namespace Go.Proofs.Ytmjfahjafecnnaa
open Go.RowKit Go.Shelf
set_option linter.unusedVariables false

theorem yes_gives (g : Nat) (w : World) (eg : ∀ args w, (callFunc g args).run Try.prog w = .ok (.enter g args) w) (h : ∀ (x : Int) (W : World), Calls Try.prog g #[.int .i64 x] W fun e W' => e = .returned (.bool true) ∧ W' = W) :
    Gives (.func (.func g) #[] #[]) (fun _ => False) (fun _ => .bool true) w :=
  ⟨⟨g, #[], rfl, eg, fun W _ x _ => (h x W).mono fun e W' ⟨he, hw⟩ => ⟨he, by rw [hw]; exact Keeps.refl _ _⟩⟩, fun k h => h.elim⟩
theorem yes22 (x : Int) (W : World) : Calls Try.prog 22 #[.int .i64 x] W fun e W' => e = .returned (.bool true) ∧ W' = W := by
  go_enter Try.func22, Try.ntmps22
  go_wp2
  go_ret
  exact ⟨rfl, rfl⟩
theorem yes23 (x : Int) (W : World) : Calls Try.prog 23 #[.int .i64 x] W fun e W' => e = .returned (.bool true) ∧ W' = W := by
  go_enter Try.func23, Try.ntmps23
  go_wp2
  go_ret
  exact ⟨rfl, rfl⟩

theorem listed_none {w w' : World} {v : Value} {base : Nat} (h : w'.ownsRow base 3 1 v ([] : List Int).length (ints [])) : ∃ a cap, v = .slice a 0 cap := by
  rcases h.2 with ⟨rfl, _⟩ | ⟨g, cap, cur, rfl, _⟩
  · exact ⟨_, _, rfl⟩
  · exact ⟨_, _, rfl⟩
theorem nilT (w : World) : TellsN .nilFunc (fun _ => False) [] w := .inl ⟨rfl, rfl⟩

set_option maxHeartbeats 1000000 in
theorem nils_all (u : Int) (w : World) : Calls Try.prog 6 #[.int .i64 u] w fun e w' => e = .returned (.bool true) ∧ Below w.heap.size w w' := by
  have no : ∀ x ∈ ([] : List Int), InR x := fun x h => by cases h
  have nil0 : ∀ w, TellsN .nilFunc (fun _ => False) [] w := nilT
  go_enter Try.func6, Try.ntmps6
  go_wp2_with fail
  refine (only_makes .nilFunc _ _ _ [] (fun _ => true) _ (nilT w) (yes_gives 22 w (enters_of Try.func22 (by kernel_rfl) rfl) yes22) no).mono ?_
  rintro e w1 ⟨g1, lb1, C1, rfl, -, hT1, -, hb1⟩
  go_wp2_with fail
  refine (list_any _ C1 _ _ (.inr hT1) (by decide)).mono ?_
  rintro e w2 ⟨v2, rfl, hr2, hb2⟩
  obtain ⟨a2, c2, rfl⟩ := listed_none (w := w2) hr2
  go_wp2_with fail
  refine (count_makes 0 3 _ ⟨by omega, by omega⟩ ⟨by omega, by omega⟩).mono ?_
  rintro e w3 ⟨g3, lb3, C3, rfl, -, hT3, -, hb3⟩
  go_wp2_with fail
  refine (each_nil_makes _ _ (.inr ⟨_, _, rfl⟩)).mono ?_
  rintro e w4 ⟨g4, lb4, C4, rfl, -, hT4, -, hb4⟩
  go_wp2_with fail
  refine (list_any _ C4 _ _ (.inr hT4) (by decide)).mono ?_
  rintro e w5 ⟨v5, rfl, hr5, hb5⟩
  obtain ⟨a5, c5, rfl⟩ := listed_none (w := w5) hr5
  go_wp2_with fail
  refine (first_makes .nilFunc _ [] 3 _ (nilT w5) ⟨by omega, by omega⟩).mono ?_
  rintro e w6 ⟨g6, lb6, C6, rfl, -, hT6, -, hb6⟩
  go_wp2_with fail
  refine (list_any _ C6 _ _ (.inr hT6) (by decide)).mono ?_
  rintro e w7 ⟨v7, rfl, hr7, hb7⟩
  obtain ⟨a7, c7, rfl⟩ := listed_none (w := w7) hr7
  go_wp2_with fail
  refine (list_any .nilFunc _ [] _ (nilT w7) (by decide)).mono ?_
  rintro e w8 ⟨v8, rfl, hr8, hb8⟩
  obtain ⟨a8, c8, rfl⟩ := listed_none (w := w8) hr8
  go_wp2_with fail
  refine (some_any .nilFunc _ _ _ [] (fun _ => true) _ (nilT w8) (yes_gives 23 w8 (enters_of Try.func23 (by kernel_rfl) rfl) yes23) no (fun k h => h.elim)).mono ?_
  rintro e w9 ⟨rfl, hb9⟩
  go_wp2_with fail
  refine (fold_any .nilFunc (fun _ => False) (fun _ => False) [] (fun _ => u) 24 #[] _ (nilT w9) (fun k h => h.elim) (fun k h => h.elim) (enters_of Try.func24 (by kernel_rfl) rfl) (fun pre x h => by have := List.prefix_nil.1 h; simp at this)).mono ?_
  rintro e w10 ⟨rfl, hb10⟩
  go_wp2_with fail
  refine (lives_any w10).mono ?_
  rintro e w11 ⟨rfl, hb11⟩
  go_wp2
  go_ret
  refine ⟨rfl, ?_⟩
  have t2 := hb1.trans (hb2.mono hb1.size)
  have t3 := t2.trans (hb3.mono t2.size)
  have t4 := t3.trans (hb4.mono t3.size)
  have t5 := t4.trans (hb5.mono t4.size)
  have t6 := t5.trans (hb6.mono t5.size)
  have t7 := t6.trans (hb7.mono t6.size)
  have t8 := t7.trans (hb8.mono t7.size)
  have t9 := t8.trans (hb9.mono t8.size)
  have t10 := t9.trans (hb10.mono t9.size)
  exact t10.trans (hb11.mono t10.size)
end Go.Proofs.Ytmjfahjafecnnaa
