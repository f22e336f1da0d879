/- The chapter's example. -/
import Derived.Test.YtdmdmkgpnelkjaaParsed
namespace Go.Proofs.Ytdmdmkgpnelkjaa
open Go.ChangeShapes Go.WideShapes Go.ChangeAt Go.RowKit
set_option linter.unusedVariables false

abbrev exB : List Int := [0, 1, 2, 1, 1, 1, 1, 0, 0, 0]
theorem ex_parse : parseL exB = .ok ⟨⟨0, 1, 2, 1, 1, 1, 1⟩, [[]], [], []⟩ := by
  have hk : (ofB exB).Ok := by
    have e : ofB exB = ⟨0, 1, 2, 1, 1, 1, 1⟩ := rfl
    rw [e]
    refine ⟨?_, ?_, ?_, ?_, ?_, ?_, ?_, ?_, ?_, ?_, ?_, ?_, ?_, ?_⟩ <;> decide
  rw [parse9 hk (by decide) (by decide) (by decide) (by decide)]
  rfl
theorem ex_bytes : ∀ j, 0 ≤ byteAt exB j ∧ byteAt exB j < 256 := by
  intro j
  rcases (show j = 0 ∨ j = 1 ∨ j = 2 ∨ j = 3 ∨ j = 4 ∨ j = 5 ∨ j = 6 ∨ j = 7 ∨ j = 8 ∨ j = 9 ∨ 10 ≤ j by omega) with rfl | rfl | rfl | rfl | rfl | rfl | rfl | rfl | rfl | rfl | h
  all_goals first | decide | (rw [byteAt_end _ _ (by simpa using h)]; decide)
abbrev exC : Array Value := #[.int .u8 0, .int .u8 1, .int .u8 2, .int .u8 1, .int .u8 1, .int .u8 1, .int .u8 1, .int .u8 0, .int .u8 0, .int .u8 0]

set_option maxRecDepth 100000 in
set_option maxHeartbeats 4000000 in
theorem lives_any (w : World) : Calls Try.prog 6 #[] w fun e w' => e = .returned (.bool true) ∧ Below w.heap.size w w' := by
  have hB : Blk (w.alloc (.cells exC 5)) w.heap.size 5 (encB exB).toArray := Blk.new _ _ _
  have h0 : Below w.heap.size w (w.alloc (.cells exC 5)) := box1 _
  have hR : Rd (w.alloc (.cells exC 5)) (some ⟨w.heap.size, 0, none⟩) 10 10 exB := (OwnB.blk (base := 0) hB (by omega) (n := 10) rfl (by omega)).rd ex_bytes
  have K := parse_any ⟨some ⟨w.heap.size, 0, none⟩, 10, 10⟩ exB _ hR
  rw [ex_parse] at K
  dsimp only at K
  clear hB hR
  go_enter Try.func6, Try.ntmps6
  go_wp2_with fail
  refine K.mono ?_
  rintro e w1 ⟨x, y, z, rfl, hV, hb⟩
  have h1 := below_then h0 hb (Nat.le_refl _)
  simp only [scOf] at hV
  have hF := Lib.hid (h1.alloc h1.size (.cells (scs ⟨0, 1, 2, 1, 1, 1, 1⟩ x y z) 29))
  have hV2 := hV.below (box1 (w := w1) (.cells (scs ⟨0, 1, 2, 1, 1, 1, 1⟩ x y z) 29))
  have hxl := hV.hx.len
  have hyl := hV.hy.picks_len
  obtain ⟨b, off, q, ha, hq, hqn, _⟩ := hV2.hx.at_ 0 [] rfl
  obtain ⟨xa, xn, xc⟩ := x
  obtain ⟨ya, yn, yc⟩ := y
  obtain ⟨qa, qn, qc⟩ := q
  dsimp only at ha hq hqn hxl hyl
  simp only [List.length_cons, List.length_nil, Nat.zero_add] at hxl hyl hqn
  subst ha hxl hyl hqn
  simp only [Nat.add_zero] at hq
  clear hV hV2 h0 h1 hb K
  simp only [scOf, erOf]
  go_wp2
  go_ret
  exact ⟨rfl, hF.out⟩
end Go.Proofs.Ytdmdmkgpnelkjaa
