/- ScriptParses's walk. -/
import Derived.Test.YtdmdmkgpnelkjaaLives
import Derived.Test.YtdmdmkgpnelkjaaSame
namespace Go.Proofs.Ytdmdmkgpnelkjaa
open Go.ChangeShapes Go.WideShapes Go.ChangeAt Go.RowKit
set_option linter.unusedVariables false

/-- What a law answers. -/
abbrev Good (w : World) (e : Ending) (w' : World) : Prop := e = .returned (.bool true) ∧ Below w.heap.size w w'
/-- What is told of the document's Parse. -/
def RefTold : Prop := ∀ (r : Sl) (bs : List Int) (w : World), Rd w r.a r.n r.cap bs → r.n ≤ 200000 → Calls Try.prog 8 #[.slice r.a r.n r.cap] w (Parsed w (parseL bs))

set_option maxRecDepth 100000 in
set_option maxHeartbeats 8000000 in
theorem parses_all (hrp : RefTold) (r : Sl) (bs : List Int) (w : World) (h : Rd w r.a r.n r.cap bs) : Calls Try.prog 3 #[.slice r.a r.n r.cap] w (Good w) := by
  have hroom := h.room
  unfold maxLen at hroom
  by_cases hn : r.n ≤ 200000
  case neg =>
    have g : (200000 : Int) < r.n := by omega
    have KL := lives_any w
    clear h hn
    obtain ⟨ra, rn, rc⟩ := r
    dsimp only at *
    go_enter Try.func3, Try.ntmps3
    go_wp2_with fail
    refine KL.mono ?_
    rintro e V ⟨rfl, hb⟩
    go_wp2
    go_ret
    exact ⟨rfl, hb⟩
  case pos =>
  have g : ¬ (200000 : Int) < r.n := by omega
  have K1 := parse_any r bs w h
  have K2 := fun W (hb : Below w.heap.size w W) => hrp r bs W (h.below hb) hn
  clear h hn
  generalize parseL bs = p at *
  obtain ⟨ra, rn, rc⟩ := r
  dsimp only at *
  go_enter Try.func3, Try.ntmps3
  go_wp2_with fail
  refine K1.mono ?_
  rintro e w1 ⟨x, y, z, rfl, hV, hb⟩
  have h1 := hb.alloc hb.size (.cells (scs (scOf p).c x y z) 29)
  have hB1 : Blk (w1.alloc (.cells (scs (scOf p).c x y z) 29)) w1.heap.size 29 (scs (scOf p).c x y z) := Blk.new _ _ _
  have hV1 := hV.below (box1 (w := w1) (.cells (scs (scOf p).c x y z) 29))
  have KK := K2 _ h1
  clear hV hb K1 K2
  go_wp2_with fail
  refine KK.mono ?_
  rintro e w2 ⟨x', y', z', rfl, hV', hb⟩
  have h2 := below_then h1 hb (Nat.le_refl _)
  have h3 := h2.alloc h2.size (.cells (scs (scOf p).c x' y' z') 29)
  have hB1' := (hB1.below hb hB1.lt).alloc (.cells (scs (scOf p).c x' y' z') 29)
  have hB2 : Blk (w2.alloc (.cells (scs (scOf p).c x' y' z') 29)) w2.heap.size 29 (scs (scOf p).c x' y' z') := Blk.new _ _ _
  have hlt : w1.heap.size < w2.heap.size := (hB1.below hb hB1.lt).lt
  have hVa := (hV1.below hb).below (box1 (w := w2) (.cells (scs (scOf p).c x' y' z') 29))
  have hVb := hV'.below (box1 (w := w2) (.cells (scs (scOf p).c x' y' z') 29))
  have KS := same_any (scOf p) x y z x' y' z' _ hVa hVb
  have HF := Lib.hid h3
  obtain ⟨a0, a1, a2, a3, a4, a5, a6, a7, a8, a9⟩ := (hB1.below hb hB1.lt).script
  clear hV1 hV' hVa hVb h1 h2 h3 hB1 KK hb hB1' hB2
  generalize scOf p = s at *
  generalize erOf p = er at *
  obtain ⟨c, ls, ps, ds⟩ := s
  obtain ⟨al, th, nd, lv, ba, pr, sc⟩ := c
  dsimp only at *
  go_wp2_with fail
  refine KS.mono ?_
  rintro e w3 ⟨rfl, hb⟩
  have HF3 := Lib.hid (below_then HF.out hb (Nat.le_refl _))
  have KL := Lib.hid (lives_any w3)
  clear hb KS HF a0 a1 a2 a3 a4 a5 a6 a7 a8 a9
  go_wp2_with fail
  refine KL.out.mono ?_
  rintro e w4 ⟨rfl, hb⟩
  have HF4 := Lib.hid (below_then HF3.out hb (Nat.le_refl _))
  clear hb
  go_wp2
  go_ret
  exact ⟨rfl, HF4.out⟩
end Go.Proofs.Ytdmdmkgpnelkjaa
