/- Copies: Clone, Words, Log; are two lists of words the same. -/
import Derived.Test.YtdknlmaabggfaaaSteps
import Derived.Lib.SliceRun
namespace Go.Proofs.Ytdknlmaabggfaaa
open Go.ChangeShapes Go.WideShapes Go.ChangeAt Go.RowKit
set_option linter.unusedVariables false

theorem ones (ws : List Int) : ∀ u ∈ encU ws, u.oneCell' = true := ints_oneCell .u64 ws
theorem onesL (l : List Acc) : ∀ u ∈ encL l, u.oneCell' = true := by
  intro u hu
  simp only [encL, List.mem_flatMap] at hu
  obtain ⟨x, _, hx⟩ := hu
  simp [encA] at hx
  rcases hx with rfl | rfl | rfl | rfl <;> rfl
theorem q29 (w : World) (a : Option Addr) (n c n' c' : Nat) : (binOp .eql 29 (.slice a n c) (.slice none n' c')).run Try.prog w = .ok (.bool a.isNone) w := Lib.run_eql_slice_nil w _ _ a n c n' c' Try.underlying29
theorem q30 (w : World) (a : Option Addr) (n c n' c' : Nat) : (binOp .eql 30 (.slice a n c) (.slice none n' c')).run Try.prog w = .ok (.bool a.isNone) w := Lib.run_eql_slice_nil w _ _ a n c n' c' Try.underlying30

/-- A new row that reads xs. -/
def Copied (e : TypeId) (size n : Nat) (xs : List Value) (w : World) (r : Ending) (w' : World) : Prop := ∃ v, r = .returned v ∧ w'.ownsRow w.heap.size e size v n xs ∧ Below w.heap.size w w'

theorem add0 (g j : Nat) : (⟨g, 0, none⟩ : Addr).add j = ⟨g, j, none⟩ := by unfold Addr.add; split <;> simp_all
theorem news_of {w : World} {g : Nat} {xs : List Value} (h : ∀ j u, xs[j]? = some u → w.cell? ⟨g, j, none⟩ = some u) (o : Obj) : ∀ j u, xs[j]? = some u → (w.alloc o).cell? ((⟨g, 0, none⟩ : Addr).add j) = some u := by
  intro j u hj
  have := h j u hj
  rw [add0, Below.cell ((Below.refl w.heap.size w).alloc (Nat.le_refl _) _) (World.block_lt_of_cell? w _ this)]
  exact this

set_option maxHeartbeats 1000000 in
theorem clone24 (g n cap : Nat) (ws : List Int) (w : World) (hn : ws.length = n) (h1 : n ≤ 4096) (hc : ∀ j u, (encU ws)[j]? = some u → w.cell? ⟨g, j, none⟩ = some u) :
    Calls Try.prog 24 #[.slice (some ⟨g, 0, none⟩) n cap] w (Copied 31 1 n (encU ws) w) := by
  obtain ⟨i0, hi, hz0, hz1, hz2⟩ := info_parts info31
  have q := @q29
  have hm := World.ownsRow_made (base := w.heap.size) (e := 31) (size := 1) w #[] 0 (Nat.le_refl _) (by simp [maxLen]) rfl
  have HC := Lib.hid (news_of hc (.cells #[] 31))
  have HL := Lib.hid (show (encU ws).length = n * 1 by simp [encU_len, hn])
  have H1 := Lib.hid (ones ws)
  clear hc hn
  go_enter Try.func24, Try.ntmps24
  go_wp2_with (at_builtin; refine wpList_append_own _ rfl _ _ 29 rfl w.heap.size 31 i0 (.int .u64 0) 1 8 Try.underlying29 hi hz0 hz1 hz2 rfl (by decide) _ _ _ rfl hm ⟨g, 0, none⟩ n cap (encU ws) rfl HL.out HC.out H1.out (by simp only [maxLen]; omega) (by omega) (by simp) ?_; intro v' w1 hown hgrow _)
  go_ret
  refine ⟨v', rfl, by simpa using hown, ((Below.refl _ _).alloc (Nat.le_refl _) _).grown hgrow (by simp) (fun k e => ?_)⟩
  cases e
  exact Nat.le_refl _
set_option maxHeartbeats 1000000 in
theorem clone23 (g n cap : Nat) (l : List Acc) (w : World) (hn : l.length = n) (h1 : n ≤ 1000000) (hc : ∀ j u, (encL l)[j]? = some u → w.cell? ⟨g, j, none⟩ = some u) :
    Calls Try.prog 23 #[.slice (some ⟨g, 0, none⟩) n cap] w (Copied 41 4 n (encL l) w) := by
  obtain ⟨i0, hi, hz0, hz1, hz2⟩ := info_parts info41
  have q := @q30
  have hm := World.ownsRow_made (base := w.heap.size) (e := 41) (size := 4) w #[] 0 (Nat.le_refl _) (by simp [maxLen]) rfl
  have HC := Lib.hid (news_of hc (.cells #[] 41))
  have HL := Lib.hid (show (encL l).length = n * 4 by rw [encL_len, hn])
  have H1 := Lib.hid (onesL l)
  clear hc hn
  go_enter Try.func23, Try.ntmps23
  go_wp2_with (at_builtin; refine wpList_append_own _ rfl _ _ 30 rfl w.heap.size 41 i0 (.agg #[.int .i64 0, .int .i64 0, .int .i64 0, .bool false]) 4 32 Try.underlying30 hi hz0 hz1 hz2 rfl (by decide) _ _ _ rfl hm ⟨g, 0, none⟩ n cap (encL l) rfl HL.out HC.out H1.out (by simp only [maxLen]; omega) (by omega) (by simp) ?_; intro v' w1 hown hgrow _)
  go_ret
  refine ⟨v', rfl, by simpa using hown, ((Below.refl _ _).alloc (Nat.le_refl _) _).grown hgrow (by simp) (fun k e => ?_)⟩
  cases e
  exact Nat.le_refl _
theorem clone23_nil (w : World) : Calls Try.prog 23 #[.slice none 0 0] w (Copied 41 4 0 (encL []) w) := by
  have q := @q30
  go_enter Try.func23, Try.ntmps23
  go_wp2
  go_ret
  exact ⟨_, rfl, World.ownsRow_nil _ _ _ _, Below.refl _ _⟩

theorem words_any (B : Nat) (s : MS) (O : Nat → Prop) (w : World) (h : MemAt B s O w) (h1 : s.ws.length ≤ 4096) :
    Calls Try.prog 15 #[at0 B] w (Copied 31 1 s.ws.length (encU s.ws) w) := by
  obtain ⟨G, v, rfl, hb, hg, hr⟩ := h
  have c0 := hb.cell 0
  simp at c0
  go_enter Try.func15, Try.ntmps15
  go_wp2_with fail
  refine (clone24 G s.ws.length s.ws.length s.ws w rfl h1 (fun j u hj => by rw [hg.cell j]; simpa using hj)).mono ?_
  rintro e w' ⟨u, rfl, ho, hB⟩
  go_wp2
  go_ret
  exact ⟨u, rfl, ho, hB⟩
theorem log_any (B : Nat) (s : MS) (O : Nat → Prop) (w : World) (h : MemAt B s O w) (h1 : s.log.length ≤ 1000000) :
    Calls Try.prog 13 #[at0 B] w (Copied 41 4 s.log.length (encL s.log) w) := by
  obtain ⟨G, v, rfl, hb, hg, hr⟩ := h
  have c3 := hb.cell 3
  simp at c3
  have hc : Calls Try.prog 23 #[v] w (Copied 41 4 s.log.length (encL s.log) w) := by
    rcases hr.2 with ⟨rfl, hz⟩ | ⟨g, cap, cur, rfl, _⟩
    · have : s.log = [] := List.eq_nil_of_length_eq_zero hz
      rw [this]
      exact clone23_nil w
    · refine clone23 g _ cap s.log w rfl h1 fun j u hj => ?_
      have hlt : j < s.log.length * 4 := by have := (List.getElem?_eq_some_iff.1 hj).1; rwa [encL_len] at this
      rw [hr.cellAt j hlt]; exact hj
  go_enter Try.func13, Try.ntmps13
  go_wp2_with fail
  refine hc.mono ?_
  rintro e w' ⟨u, rfl, ho, hB⟩
  clear hc
  go_wp2
  go_ret
  exact ⟨u, rfl, ho, hB⟩

set_option maxHeartbeats 1000000 in
theorem words_same (g c g' c' n n0 n1 : Nat) (ws : List Int) (w : World) (hn : ws.length = n) (h1 : n ≤ 4096) (hx : w.ownsRow n0 31 1 (.slice (some ⟨g, 0, none⟩) n c) n (encU ws)) (hy : w.ownsRow n1 31 1 (.slice (some ⟨g', 0, none⟩) n c') n (encU ws))
    (hc : n ≤ c) (hcm : c ≤ 9223372036854775807) (hc' : n ≤ c') (hcm' : c' ≤ 9223372036854775807) :
    Calls Try.prog 14 #[.slice (some ⟨g, 0, none⟩) n c, .slice (some ⟨g', 0, none⟩) n c'] w fun e w' => e = .returned (.bool true) ∧ Below w.heap.size w w' := by
  have H1 : Hid (∀ j, j < n → w.cell? ⟨g, j, none⟩ = some (.int .u64 (wordAt ws j))) := Lib.hid fun j hj => by rw [hx.cellAt j (by omega)]; simp [encU, wordAt, List.getElem?_eq_getElem (show j < ws.length by omega)]
  have H2 : Hid (∀ j, j < n → w.cell? ⟨g', j, none⟩ = some (.int .u64 (wordAt ws j))) := Lib.hid fun j hj => by rw [hy.cellAt j (by omega)]; simp [encU, wordAt, List.getElem?_eq_getElem (show j < ws.length by omega)]
  clear hx hy hn
  go_enter Try.func14, Try.ntmps14
  go_wp2
  go_loopw [5] (fun i wr => ∃ k m : Nat, k ≤ n ∧ i = .int .i64 k ∧ wr = w.drewN m) (fun i _ => n - (intOf i).toNat)
  case atStart => exact ⟨0, 0, by omega, rfl, rfl⟩
  case round =>
    obtain ⟨k, m, hk, rfl, rfl⟩ := hrel
    by_cases hlt : k < n
    · have d1 : (w.drewN m).cell? ⟨g, k, none⟩ = some (.int .u64 (wordAt ws k)) := H1.out k hlt
      have d2 : (w.drewN m).cell? ⟨g', k, none⟩ = some (.int .u64 (wordAt ws k)) := H2.out k hlt
      have HD := Lib.hid (show ∀ q, (w.drewN m).drewN q = w.drewN (m + q) from fun q => World.drewN_drewN _ _ _)
      generalize w.drewN m = w2 at *
      generalize wordAt ws k = y at *
      go_wp2
      go_quiet (fail)
      go_wp2
      go_roundw
      case rel => exact ⟨k + 1, _, by omega, by go_num, HD.out _⟩
      case measure => simp [intOf]; omega
    · go_wp2
      go_ret
      exact ⟨rfl, rfl, rfl, rfl, Nat.le_refl _, fun _ _ => rfl⟩
end Go.Proofs.Ytdknlmaabggfaaa
