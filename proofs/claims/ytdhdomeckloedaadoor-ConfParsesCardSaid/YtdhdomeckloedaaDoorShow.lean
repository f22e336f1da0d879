/- Show. -/
import Derived.Test.YtdhdomeckloedaaDoorText
namespace Go.Proofs.YtdhdomeckloedaaDoor
open Go.ChangeShapes Go.WideShapes Go.ChangeAt Go.RowKit
set_option linter.unusedVariables false
set_option linter.unusedSimpArgs false

theorem show_bad (c : Cf) (w : World) (h : ¬ c.Ok) : Calls Tryd.prog 12 #[c.v] w fun e w' => e = .returned (strV [63]) ∧ Below w.heap.size w w' := by
  have KR := fun W => check_bad c W h
  clear h
  go_enter Tryd.func12, Tryd.ntmps12
  go_wp2_with fail
  refine (KR _).mono ?_
  rintro e V ⟨rfl, hb⟩
  obtain ⟨hB, h0⟩ := boxed c hb
  go_wp2
  go_ret
  exact ⟨rfl, h0⟩

theorem show_len (c : Cf) (h : c.Ok) : (showT c).length ≤ 200 := by
  have l1 := decT_len (n := c.th) (by have := h.t1; omega)
  have l2 := decT_len (n := c.nd) (by have := h.n1; omega)
  have l3 := decT_len (n := c.lv) (by have := h.l1; omega)
  have l4 := decT_len (n := c.ba) (by have := h.b1; omega)
  have l5 := decT_len (n := c.pr) (by have := h.p1; omega)
  have l6 := decT_len (n := c.sc) (by have := h.s1; omega)
  have la := algT_len c.al
  simp [showT, thS, ndS, lvS, baS, prS, scS]
  omega

/-- The bytes of a text. -/
abbrev baOf (l : List UInt8) : ByteArray := ⟨l.toArray⟩
set_option maxRecDepth 100000 in
set_option maxHeartbeats 8000000 in
theorem show_ok (c : Cf) (w : World) (hE : Env w) (h : c.Ok) : Calls Tryd.prog 12 #[c.v] w fun e w' => e = .returned (strV (showT c)) ∧ Below w.heap.size w w' := by
  have KR := fun W => check_ok c W h
  have KT := fun W hb => textOf_ok c W (hE.below (w' := W) hb) h
  have hlen := show_len c h
  have KJ := fun T W (hB : Blk W T 52 ((words c).map strV).toArray) => sh.strings_Join T 0 13 ((words c).map baOf) ⟨#[32]⟩ W
    (fun j x hx => by
      rw [Nat.zero_add, hB.cell]
      rw [List.getElem?_map, Option.map_eq_some_iff] at hx
      obtain ⟨l, hl, rfl⟩ := hx
      simp [hl]) hB.lt (by simp [words]) (by simp [words]) (by
      have e : ((words c).map baOf).map (·.data.toList) = words c := by simp [List.map_map, Function.comp_def]
      rw [e]
      show (Lib.join (words c) [32]).length ≤ _
      rw [join_words]
      omega)
  have e : ((words c).map baOf).map (·.data.toList) = words c := by simp [List.map_map, Function.comp_def]
  have ej : Lib.join (((words c).map baOf).map (·.data.toList)) (ByteArray.mk #[32]).data.toList = showT c := by
    rw [e]
    exact join_words c
  have e13 : ((words c).map baOf).length = 13 := by simp [words]
  simp only [ej, e13] at KJ
  have hl : ((words c).map strV).toArray = #[strV (algT c.al), strV (thW), strV (decT c.th), strV (ndW), strV (decT c.nd), strV (lvW), strV (decT c.lv), strV (baW), strV (decT c.ba), strV (prW), strV (decT c.pr), strV (scW), strV (decT c.sc)] := rfl
  rw [hl] at KT
  simp only [hl] at KJ
  clear hl e ej e13 h
  generalize showT c = tt at *
  go_enter Tryd.func12, Tryd.ntmps12
  go_wp2_with fail
  refine (KR _).mono ?_
  rintro e V ⟨rfl, hb⟩
  obtain ⟨hB, h0⟩ := boxed c hb
  obtain ⟨y0, y1, y2, y3, y4, y5, y6⟩ := hB.conf
  clear hb
  go_wp2_with fail
  refine (KT _ h0).mono ?_
  rintro e V2 ⟨rfl, hb⟩
  have h1 := below_then h0 hb (Nat.le_refl _)
  clear h0 hb y0 y1 y2 y3 y4 y5 y6 hB
  go_wp2_with fail
  refine (KJ _ _ (Blk.new _ _ _)).mono ?_
  rintro e V3 ⟨rfl, hb⟩
  have h2 := below_then (h1.alloc h1.size _) hb (Nat.le_refl _)
  go_wp2
  go_ret
  exact ⟨rfl, h2⟩
end Go.Proofs.YtdhdomeckloedaaDoor
