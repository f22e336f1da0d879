/- What Clone, New and lives do. -/
import Derived.Test.YtemikojaldoofaaGreatFDo
namespace Go.Proofs.YtemikojaldoofaaGreat.F
open Go.ChangeShapes Go.WideShapes Go.ChangeAt Go.RowKit
set_option linter.unusedVariables false

set_option maxRecDepth 20000


theorem info5 : (Tryz.prog.info? 5).map (fun i => (i.zero, i.size, i.bytes)) = some (some (.int .u8 0), 1, 1) := by kernel_rfl
theorem onesB (l : List Int) : ∀ u ∈ encB l, u.oneCell' = true := ints_oneCell .u8 l
theorem q22 (w : World) (a : Option Addr) (n c n' c' : Nat) : (binOp .eql 70 (.slice a n c) (.slice none n' c')).run Tryz.prog w = .ok (.bool a.isNone) w := Lib.run_eql_slice_nil w _ _ a n c n' c' Tryz.underlying70

/-- A new row that reads xs. -/
def Copied (n : Nat) (bs : List Int) (w : World) (r : Ending) (w' : World) : Prop := ∃ v, r = .returned v ∧ w'.ownsRow w.heap.size 5 1 v n (encB bs) ∧ Below w.heap.size w w'
/-- A slice that reads bs. -/
def Reads (w : World) (ad : Addr) (bs : List Int) : Prop := ∀ j u, (encB bs)[j]? = some u → w.cell? (ad.add j) = some u
theorem Reads.below {w w' : World} {ad : Addr} {bs : List Int} (h : Reads w ad bs) (b : Below w.heap.size w w') : Reads w' ad bs := by
  intro j u hj
  have := h j u hj
  rw [Below.cell b (World.block_lt_of_cell? w _ this)]
  exact this

set_option maxHeartbeats 1000000 in
theorem clone_some (ad : Addr) (n cap : Nat) (bs : List Int) (w : World) (hn : bs.length = n) (h1 : n ≤ 5000) (hc : Reads w ad bs) :
    Calls Tryz.prog 59 #[.slice (some ad) n cap] w (Copied n bs w) := by
  obtain ⟨i0, hi, hz0, hz1, hz2⟩ := info_parts info5
  have q := @q22
  have hm := World.ownsRow_made (base := w.heap.size) (e := 5) (size := 1) w #[] 0 (Nat.le_refl _) (by simp [maxLen]) rfl
  have HC : Hid (∀ j u, (encB bs)[j]? = some u → (w.alloc (.cells #[] 5)).cell? (ad.add j) = some u) := Lib.hid (hc.below ((Below.refl w.heap.size w).alloc (Nat.le_refl _) _))
  have HL := Lib.hid (show (encB bs).length = n * 1 by simp [encB_len, hn])
  have H1 := Lib.hid (onesB bs)
  clear hc hn
  go_enter Tryz.func59, Tryz.ntmps59
  go_wp2_with (at_builtin; refine wpList_append_own _ rfl _ _ 70 rfl w.heap.size 5 i0 (.int .u8 0) 1 1 Tryz.underlying70 hi hz0 hz1 hz2 rfl (by decide) _ _ _ rfl hm ad n cap (encB bs) rfl HL.out HC.out H1.out (by simp only [maxLen]; omega) (by omega) (by simp) ?_; intro v' w1 hown hgrow _)
  go_ret
  refine ⟨v', rfl, by simpa using hown, ((Below.refl _ _).alloc (Nat.le_refl _) _).grown hgrow (by simp) (fun k e => ?_)⟩
  cases e
  exact Nat.le_refl _
theorem clone_nil (w : World) : Calls Tryz.prog 59 #[.slice none 0 0] w (Copied 0 [] w) := by
  have q := @q22
  go_enter Tryz.func59, Tryz.ntmps59
  go_wp2
  go_ret
  exact ⟨_, rfl, World.ownsRow_nil _ _ _ _, Below.refl _ _⟩

/-- A new feed of the bytes bs. -/
def NewF (n : Nat) (bs : List Int) (w : World) (r : Ending) (w' : World) : Prop :=
  ∃ B ad cap, r = .returned (at0 B) ∧ Below w.heap.size w w' ∧ FAt B ad n cap bs 0 w' ∧ w.heap.size ≤ B ∧ ∀ g, ad = some ⟨g, 0, none⟩ → w.heap.size ≤ g ∧ g < w'.heap.size
theorem new_of (v0 : Value) (n : Nat) (bs : List Int) (w : World) (hn : bs.length = n) (h1 : n ≤ 5000) (hc : Calls Tryz.prog 59 #[v0] w (Copied n bs w)) :
    Calls Tryz.prog 35 #[v0] w (NewF n bs w) := by
  have HC := Lib.hid hc
  clear hc
  go_enter Tryz.func35, Tryz.ntmps35
  go_wp2_with fail
  refine HC.out.mono ?_
  rintro e w1 ⟨v, rfl, ho, hb⟩
  clear HC
  have hsz := hb.size
  rcases ho.2 with ⟨rfl, rfl⟩ | ⟨g, cap, cur, rfl, hg, hcur, hnc, hcm, hsz2, htk⟩
  · have hbb := hb.alloc hsz (.cells #[.slice none 0 0, .int .i64 0] 115)
    have hB : Blk (w1.alloc (.cells #[.slice none 0 0, .int .i64 0] 115)) w1.heap.size 115 #[.slice none 0 0, .int .i64 0] := Blk.new _ _ _
    go_wp2
    go_ret
    exact ⟨_, none, 0, rfl, hbb, ⟨hB, fun h => absurd h (by decide), hn, by omega, by omega, by simp [maxLen]⟩, hsz, fun g e => by cases e⟩
  · have hbb := hb.alloc hsz (.cells #[.slice (some ⟨g, 0, none⟩) n cap, .int .i64 0] 115)
    have hB : Blk (w1.alloc (.cells #[.slice (some ⟨g, 0, none⟩) n cap, .int .i64 0] 115)) w1.heap.size 115 #[.slice (some ⟨g, 0, none⟩) n cap, .int .i64 0] := Blk.new _ _ _
    have hgl : g < w1.heap.size := (Array.getElem?_eq_some_iff.1 hcur).1
    have HO := Lib.hid ho
    clear ho hcur htk
    go_wp2
    go_ret
    refine ⟨_, some ⟨g, 0, none⟩, cap, rfl, hbb, ⟨hB, fun h => ⟨g, rfl, by omega, by simp; omega, fun j hj => ?_⟩, hn, h1, hnc, hcm⟩, hsz, fun g' e => ?_⟩
    · have hb1 : Below w1.heap.size w1 (w1.alloc (.cells #[.slice (some ⟨g, 0, none⟩) n cap, .int .i64 0] 115)) := (Below.refl _ _).alloc (Nat.le_refl _) _
      rw [Below.cell hb1 (by simpa using hgl), HO.out.cellAt j (by omega)]
      simp [encB, byteAt, List.getElem?_eq_getElem (show j < bs.length by omega)]
    · cases e
      simp
      omega
theorem new_some (ad : Addr) (n cap : Nat) (bs : List Int) (w : World) (hn : bs.length = n) (h1 : n ≤ 5000) (hc : Reads w ad bs) :
    Calls Tryz.prog 35 #[.slice (some ad) n cap] w (NewF n bs w) := new_of _ n bs w hn h1 (clone_some ad n cap bs w hn h1 hc)
theorem new_nil (w : World) : Calls Tryz.prog 35 #[.slice none 0 0] w (NewF 0 [] w) := new_of _ 0 [] w rfl (by omega) (clone_nil w)

end Go.Proofs.YtemikojaldoofaaGreat.F
