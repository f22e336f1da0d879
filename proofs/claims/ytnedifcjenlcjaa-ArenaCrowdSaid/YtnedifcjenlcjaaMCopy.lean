/- Copies: Clone, Words, Log; are two lists of words the same. -/
import Derived.Test.YtnedifcjenlcjaaMSteps
import Derived.Lib.SliceRun
namespace Go.Proofs.Ytnedifcjenlcjaa
open Go.ChangeShapes Go.WideShapes Go.ChangeAt Go.RowKit
set_option linter.unusedVariables false
set_option maxRecDepth 20000


theorem ones (ws : List Int) : ∀ u ∈ encU ws, u.oneCell' = true := ints_oneCell .u64 ws
theorem onesL (l : List Acc) : ∀ u ∈ encL l, u.oneCell' = true := by
  intro u hu
  simp only [encL, List.mem_flatMap] at hu
  obtain ⟨x, _, hx⟩ := hu
  simp [encA] at hx
  rcases hx with rfl | rfl | rfl | rfl <;> rfl
theorem q29 (w : World) (a : Option Addr) (n c n' c' : Nat) : (binOp .eql 56 (.slice a n c) (.slice none n' c')).run Try.prog w = .ok (.bool a.isNone) w := Lib.run_eql_slice_nil w _ _ a n c n' c' Try.underlying56
theorem q30 (w : World) (a : Option Addr) (n c n' c' : Nat) : (binOp .eql 77 (.slice a n c) (.slice none n' c')).run Try.prog w = .ok (.bool a.isNone) w := Lib.run_eql_slice_nil w _ _ a n c n' c' Try.underlying77

/-- A new row that reads xs. -/
def Copied (e : TypeId) (size n : Nat) (xs : List Value) (w : World) (r : Ending) (w' : World) : Prop := ∃ v, r = .returned v ∧ w'.ownsRow w.heap.size e size v n xs ∧ Below w.heap.size w w'

theorem add0 (g j : Nat) : (⟨g, 0, none⟩ : Addr).add j = ⟨g, j, none⟩ := by unfold Addr.add; split <;> simp_all
theorem news_of {w : World} {g : Nat} {xs : List Value} (h : ∀ j u, xs[j]? = some u → w.cell? ⟨g, j, none⟩ = some u) (o : Obj) : ∀ j u, xs[j]? = some u → (w.alloc o).cell? ((⟨g, 0, none⟩ : Addr).add j) = some u := by
  intro j u hj
  have := h j u hj
  rw [add0, Below.cell ((Below.refl w.heap.size w).alloc (Nat.le_refl _) _) (World.block_lt_of_cell? w _ this)]
  exact this

set_option maxHeartbeats 1000000 in
theorem clone24 (g n cap : Nat) (ws : List Int) (w : World) (hn : ws.length = n) (h1 : n ≤ 4096) (hc : ∀ j u, (encU ws)[j]? = some u → w.cell? ⟨g, j, none⟩ = some u) :
    Calls Try.prog 70 #[.slice (some ⟨g, 0, none⟩) n cap] w (Copied 48 1 n (encU ws) w) := by
  obtain ⟨i0, hi, hz0, hz1, hz2⟩ := info_parts info48
  have q := @q29
  have hm := World.ownsRow_made (base := w.heap.size) (e := 48) (size := 1) w #[] 0 (Nat.le_refl _) (by simp [maxLen]) rfl
  have HC := Lib.hid (news_of hc (.cells #[] 48))
  have HL := Lib.hid (show (encU ws).length = n * 1 by simp [encU_len, hn])
  have H1 := Lib.hid (ones ws)
  clear hc hn
  go_enter Try.func70, Try.ntmps70
  go_wp2_with (at_builtin; refine wpList_append_own _ rfl _ _ 56 rfl w.heap.size 48 i0 (.int .u64 0) 1 8 Try.underlying56 hi hz0 hz1 hz2 rfl (by decide) _ _ _ rfl hm ⟨g, 0, none⟩ n cap (encU ws) rfl HL.out HC.out H1.out (by simp only [maxLen]; omega) (by omega) (by simp) ?_; intro v' w1 hown hgrow _)
  go_ret
  refine ⟨v', rfl, by simpa using hown, ((Below.refl _ _).alloc (Nat.le_refl _) _).grown hgrow (by simp) (fun k e => ?_)⟩
  cases e
  exact Nat.le_refl _
theorem words_any (B : Nat) (s : MS) (O : Nat → Prop) (w : World) (h : MemAt B s O w) (h1 : s.ws.length ≤ 4096) :
    Calls Try.prog 50 #[at0 B] w (Copied 48 1 s.ws.length (encU s.ws) w) := by
  obtain ⟨G, v, rfl, hb, hg, hr⟩ := h
  have c0 := hb.cell 0
  simp at c0
  go_enter Try.func50, Try.ntmps50
  go_wp2_with fail
  refine (clone24 G s.ws.length s.ws.length s.ws w rfl h1 (fun j u hj => by rw [hg.cell j]; simpa using hj)).mono ?_
  rintro e w' ⟨u, rfl, ho, hB⟩
  go_wp2
  go_ret
  exact ⟨u, rfl, ho, hB⟩
end Go.Proofs.Ytnedifcjenlcjaa
