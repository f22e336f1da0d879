/- Show, by the program and by the document. -/
import Derived.Test.YtfdghlpkioednaaDoorLine
namespace Go.Proofs.YtfdghlpkioednaaDoor
open Go.ChangeShapes Go.WideShapes Go.ChangeAt Go.RowKit
set_option linter.unusedVariables false

theorem isBuilder_below {B b : Nat} {bs : List Value} {W W' : World} (h : Lib.IsBuilder 65 5 B b bs W) (hb : Below W.heap.size W W') : Lib.IsBuilder 65 5 B b bs W' := by
  have key : ∀ p, Lib.BuilderAt 65 5 B b p bs W → Lib.BuilderAt 65 5 B b p bs W' := by
    rintro p ⟨h1, v, h2, h3, h4⟩
    have hlt := (Array.getElem?_eq_some_iff.1 h2).1
    exact ⟨h1, v, (hb.block b hlt).trans h2, row_agree h3 fun k e => hb.block k (h3.lt k e).2, h4⟩
  exact h.imp (key _) (key _)
/-- Amid Show. -/
structure ShS (w : World) (l : List Ev) (k : Nat) (W : World) : Prop where
  bel : Below w.heap.size w W
  b : Lib.IsBuilder 65 5 w.heap.size w.heap.size (Lib.byteCells (textT (l.take k))) W
theorem ShS.start (w : World) (l : List Ev) : ShS w l 0 (w.alloc (.cells #[.pointer none, .slice none 0 0] 65)) := ⟨box1 _, Lib.fresh_isBuilder 65 5 w⟩
theorem ShS.below {w W W' : World} {l : List Ev} {k : Nat} (h : ShS w l k W) (hb : Below W.heap.size W W') : ShS w l k W' := ⟨below_then h.bel hb, isBuilder_below h.b hb⟩

set_option maxRecDepth 100000 in
set_option maxHeartbeats 4000000 in
theorem hshow_any (s : Sl) (l : List Ev) (w : World) (h : Reads w s 8 (encE l)) (hf : ∀ e ∈ l, FitE e) (hl : l.length ≤ 1000) (ht : Tab w) : Calls Tryd.prog 17 #[.slice s.a s.n s.cap] w fun x w' => x = .returned (strV (textT l)) ∧ Below w.heap.size w w' := by
  have hn := h.lenE
  have hroom := h.room
  unfold maxLen at hroom
  have HR := Lib.hid h
  have HT := Lib.hid ht
  have HF := Lib.hid hf
  have S0 := Lib.hid (ShS.start w l)
  clear h ht hf
  obtain ⟨sa, sn, sc⟩ := s
  dsimp only at *
  subst hn
  go_enter Tryd.func17, Tryd.ntmps17
  go_wp2_with fail
  go_loopw [8] (fun i W => ∃ k : Nat, k ≤ l.length ∧ i = .int .i64 k ∧ Hid (ShS w l k W)) (fun i _ => l.length - (intOf i).toNat)
  case atStart => exact ⟨0, by omega, rfl, S0⟩
  case round =>
    clear S0
    obtain ⟨k, hk, rfl, HS⟩ := hrel
    by_cases hkn : k < l.length
    · obtain ⟨b, off, rfl, x0, x1, x2, x3, x4, x5, x6, x7⟩ := (HR.out.below HS.out.bel).ev hkn
      have gk : (k : Int) < l.length := by omega
      have w2 := IntWalk.i64_in ((k : Int) + 1) (by omega)
      have hfe := HF.out _ (List.mem_of_getElem? (ith_lt hkn))
      have hnx := textT_next hkn
      have htl := textT_len (l := l.take k) fun e he => HF.out e (List.mem_of_mem_take he)
      rw [List.length_take] at htl
      have hll := lineT_len hfe
      have HA := Lib.hid (HS.out.below (box1 (.cells (ith l k).cs 34)))
      have KL := fun W h => line_any (ith l k) hfe W h
      have HNX := Lib.hid hnx
      clear hnx
      generalize lineT (ith l k) = L at *
      have HTA := Lib.hid (tab_below HT.out HA.out.bel)
      generalize ith l k = e at *
      obtain ⟨t, b', ⟨c1, c2, c3⟩, ⟨a1, a2, a3⟩⟩ := e
      dsimp only [Ev.v, Ev.cs] at *
      clear HR HF HS hfe
      go_wp2_with fail
      refine (KL _ HTA.out).mono ?_
      rintro x w3 ⟨rfl, hb⟩
      have hS3 := HA.out.below hb
      have KW := write_any w.heap.size w.heap.size _ ⟨L.toArray⟩ w3 hS3.b (by rw [Lib.byteCells_length]; simp [ByteArray.size]; omega) hS3.bel.size
      have HS3 := Lib.hid hS3
      clear hb KL hS3
      go_wp2_with fail
      refine KW.mono ?_
      rintro x w4 ⟨rfl, hw, hb4⟩
      have HN := Lib.hid (show ShS w l (k + 1) w4 from ⟨HS3.out.bel.trans (hb4.mono (Nat.le_refl _)), .inr (by rw [HNX.out, Lib.byteCells_append]; exact hw)⟩)
      clear hw hb4 KW
      go_wp2
      go_roundw
      case rel => exact ⟨k + 1, by omega, by go_num, HN⟩
      case measure => simp [intOf]; omega
    · obtain rfl : k = l.length := by omega
      have hS := HS.out
      have KB := sh.Builder_String_any w.heap.size w.heap.size _ wr hS.b hS.bel.size
      rw [List.take_length] at KB
      have HB := Lib.hid hS.bel
      clear hS HS
      go_wp2_with fail
      refine KB.mono ?_
      rintro x w4 ⟨rfl, hb⟩
      have HF := Lib.hid (HB.out.trans hb)
      clear hb KB
      go_wp2
      go_ret
      exact ⟨rfl, HF.out⟩
end Go.Proofs.YtfdghlpkioednaaDoor
