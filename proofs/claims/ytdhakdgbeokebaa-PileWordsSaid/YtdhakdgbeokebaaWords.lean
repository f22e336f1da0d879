/- The law PileWords. -/
import Derived.Test.YtdhakdgbeokebaaTexts
namespace Go.Proofs.Ytdhakdgbeokebaa
open Go.RowKit Go.Shelf
set_option linter.unusedVariables false

/-- The texts, as they lie. -/
def WordsIn (w : World) (ao : Option Addr) (len : Nat) (xs : List ByteArray) : Prop := xs.length = len ∧ ∀ j, j < len → ∃ b off, ao = some ⟨b, off, none⟩ ∧ w.cell? ⟨b, off + j, none⟩ = some (.string (xs[j]?.getD ⟨#[]⟩))

def WordR (w : World) (xs : List ByteArray) (s : ByteArray) (len : Nat) (h i : Value) (W : World) : Prop :=
  ∃ (j : Nat) (O : Nat → Prop), j ≤ len ∧ i = .int .i64 j ∧ h = .bool (hasB (xs.take j) s) ∧ Held 44 9 w.heap.size (strs (xs.take j)) O W ∧ Below w.heap.size w W ∧ ∀ k, O k → w.heap.size ≤ k

theorem takeS_snoc (xs : List ByteArray) (j : Nat) (h : j < xs.length) : xs.take (j + 1) = xs.take j ++ [xs[j]?.getD ⟨#[]⟩] := by rw [List.take_succ_eq_append_getElem h]; simp [h]
theorem hasB_snoc (xs : List ByteArray) (s y : ByteArray) : hasB (xs ++ [y]) s = (hasB xs s || y.toList == s.toList) := by simp [hasB]

set_option maxRecDepth 100000 in
set_option maxHeartbeats 4000000 in
theorem words_some (ao : Option Addr) (len cap : Nat) (xs : List ByteArray) (s : ByteArray) (w : World) (hl : len ≤ 1000) (hcap : len ≤ cap) (hmx : cap ≤ 9223372036854775807) (hin : WordsIn w ao len xs) :
    Calls Try.prog 5 #[.slice ao len cap, .string s] w fun e w' => e = .returned (.bool true) ∧ Below w.heap.size w w' := by
  have c1 : ¬ (len : Int) > 1000 := by omega
  have HI := Lib.hid hin
  clear hin
  have h0 := held_new w 44 9
  have hB0 : Below w.heap.size w (w.alloc (.cells #[.slice none 0 0] 44)) := (Below.refl _ _).alloc (Nat.le_refl _) _
  go_enter Try.func5, Try.ntmps5
  go_wp2_with fail
  refine (push_nil s _).mono ?_
  rintro e w' ⟨rfl, rfl⟩
  go_wp2_with fail
  refine (pop_nil _).mono ?_
  rintro e w' ⟨rfl, rfl⟩
  go_wp2_with fail
  refine (shift_nil _).mono ?_
  rintro e w' ⟨rfl, rfl⟩
  go_wp2_with fail
  refine (at_nil 0 _ (.inl rfl)).mono ?_
  rintro e w' ⟨rfl, rfl⟩
  go_wp2_with fail
  refine (len_nil _).mono ?_
  rintro e w' ⟨rfl, rfl⟩
  go_wp2_with fail
  refine (has_nil s _).mono ?_
  rintro e w' ⟨rfl, rfl⟩
  go_wp2_with fail
  refine (keep_nil 25 #[] _).mono ?_
  rintro e w' ⟨rfl, rfl⟩
  go_wp2_with fail
  refine (list_nil _).mono ?_
  rintro e w' ⟨rfl, rfl⟩
  go_wp2_with fail
  refine (keep_none w.heap.size _).mono ?_
  rintro e w' ⟨rfl, rfl⟩
  go_wp2
  generalize w.alloc (.cells #[.slice none 0 0] 44) = w0 at *
  go_loopw [13, 14] (fun h i wr => WordR w xs s len h i wr) (fun _ i _ => len - (intOf i).toNat)
  case atStart => exact ⟨0, _, by omega, rfl, rfl, h0, hB0, (fun k h => by rcases h with h | h; omega; cases h)⟩
  case round =>
    clear h0 hB0
    obtain ⟨j, O, hj, rfl, rfl, hH, hB, hO⟩ := hrel
    by_cases hlt : j < len
    · obtain ⟨hxl, hcs⟩ := HI.out
      obtain ⟨b, off, rfl, o1⟩ := hcs j hlt
      have hjx : j < xs.length := by omega
      have hbl : b < w.heap.size := World.block_lt_of_cell? w _ o1
      have HT := Lib.hid (takeS_snoc xs j hjx)
      have hlk : (xs.take j).length + 1 ≤ 1000000000 := by rw [List.length_take]; omega
      clear hcs hjx
      have HX := Lib.hid hxl
      clear hxl
      have d1 := (hB.cell (p := ⟨b, off + j, none⟩) hbl).trans o1
      generalize xs[j]?.getD ⟨#[]⟩ = y at *
      go_wp2_with fail
      refine (pushS_any _ _ y _ _ hH hlk).mono ?_
      rintro e w1 ⟨rfl, O1, k1, l1, h1⟩
      have hs := hB.size
      have hB1 : Below w.heap.size w w1 := hB.trans (k1.below hs hO)
      have hO1 : ∀ k, O1 k → w.heap.size ≤ k := fun k h => by
        rcases l1 k h with h | h
        · exact hO k h
        · omega
      have d2 := (hB1.cell (p := ⟨b, off + j, none⟩) hbl).trans o1
      clear d1
      obtain ⟨hb, HHB⟩ : ∃ hb : Bool, Hid (hasB (xs.take j) s = hb) := ⟨_, Lib.hid rfl⟩
      rw [HHB.out]
      rw [← HT.out] at h1
      cases hb
      · go_wp2
        go_roundw
        case rel => exact ⟨j + 1, _, by omega, by go_num, by rw [HT.out, hasB_snoc, HHB.out]; simp, h1, hB1, hO1⟩
        case measure => simp [intOf]; omega
      · go_wp2
        go_roundw
        case rel => exact ⟨j + 1, _, by omega, by go_num, by rw [HT.out, hasB_snoc, HHB.out]; simp, h1, hB1, hO1⟩
        case measure => simp [intOf]; omega
    · obtain rfl : j = len := by omega
      have etk : xs.take j = xs := List.take_of_length_le (by rw [HI.out.1]; omega)
      rw [etk] at hH ⊢
      clear etk hlt hj
      obtain ⟨hb, HHB⟩ : ∃ hb : Bool, Hid (hasB xs s = hb) := ⟨_, Lib.hid rfl⟩
      rw [HHB.out]
      go_wp2_with fail
      refine (hasS_any _ xs s _ _ hH).mono ?_
      rintro e w1 ⟨rfl, hb1⟩
      rw [HHB.out]
      have hH1 := (Held.fits _ _ _).keeps hH (Keeps.of_below (O := fun _ => False) hb1) (fun _ _ h => h)
      obtain ⟨ap, cp, hbp, _, _⟩ := hH1.box (n := j) (by rw [strs_len]; exact HI.out.1)
      go_wp2_with fail
      refine (lenS_any _ j cp ap _ hbp (by omega)).mono ?_
      rintro e w2 ⟨rfl, rfl⟩
      go_wp2_with fail
      refine (lives_any _).mono ?_
      rintro e w2 ⟨rfl, hb2⟩
      go_wp2
      go_ret
      exact ⟨rfl, (hB.trans (hb1.mono hB.size)).trans (hb2.mono (Nat.le_trans hB.size hb1.size))⟩

set_option maxRecDepth 100000 in
theorem words_all (ao : Option Addr) (len cap : Nat) (xs : List ByteArray) (s : ByteArray) (w : World) (hcap : len ≤ cap) (hmx : cap ≤ 9223372036854775807) (hin : WordsIn w ao len xs) :
    Calls Try.prog 5 #[.slice ao len cap, .string s] w fun e w' => e = .returned (.bool true) ∧ Below w.heap.size w w' := by
  by_cases h : len ≤ 1000
  · exact words_some ao len cap xs s w h hcap hmx hin
  · have c1 : (len : Int) > 1000 := by omega
    clear hin
    go_enter Try.func5, Try.ntmps5
    go_wp2_with (go_at_call 6; refine (lives_any _).mono ?_; rintro e w' ⟨rfl, hb⟩)
    go_ret
    exact ⟨rfl, hb⟩

end Go.Proofs.Ytdhakdgbeokebaa
