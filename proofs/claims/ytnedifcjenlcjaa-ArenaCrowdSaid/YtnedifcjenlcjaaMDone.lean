/- What Store, Cas, Add, Dcas and Dcss do where they are done. -/
import Derived.Test.YtnedifcjenlcjaaMSteps
namespace Go.Proofs.Ytnedifcjenlcjaa
open Go.ChangeShapes Go.WideShapes Go.ChangeAt Go.RowKit
set_option linter.unusedVariables false
set_option maxRecDepth 20000


theorem fine_set {ws : List Int} {st : Int} {wa : Bool} {log : List Acc} (h : MS.fine ⟨ws, st, wa, log⟩) (a : Nat) (x : Int) : MS.fine ⟨ws.set a x, st, wa, log⟩ := by
  obtain ⟨h0, h1, h2, h3⟩ := h
  exact ⟨h0, h1, h2, by simpa using h3⟩

theorem stored2 {B G : Nat} {v : Value} {ws : List Int} {st : Int} {wa : Bool} {log : List Acc} {W : World} (hb : Blk W B 79 #[.slice (some ⟨G, 0, none⟩) ws.length ws.length, .int .i64 st, .bool wa, v])
    (hg : Blk W G 48 (encU ws).toArray) (hr : W.ownsRow 0 126 4 v log.length (encL log)) (a b : Nat) (x y : Int) :
    MemAt B ⟨(ws.set a x).set b y, st, wa, log⟩ (fun k => k = B ∨ k = G ∨ v.ownBlock = some k) (((W.setCell ⟨G, a, none⟩ (.int .u64 x)).setCell ⟨G, b, none⟩ (.int .u64 y)).drew) := by
  have hb1 := hb.far (p := ⟨G, a, none⟩) (hb.ne hg (by decide)) (.int .u64 x)
  have hg1 : Blk (W.setCell ⟨G, a, none⟩ (.int .u64 x)) G 48 (encU (ws.set a x)).toArray := by
    simpa [encU, List.map_set] using hg.set a (.int .u64 x)
  have hr1 := ownsRow_setCell_other (a := ⟨G, a, none⟩) hr (hg.not_row hr (by decide)) (.int .u64 x)
  exact (stored (ws := ws.set a x) (by simpa using hb1) hg1 hr1 b y).agree fun _ _ => rfl

set_option maxHeartbeats 1000000 in
theorem store_ok (B : Nat) (ws : List Int) (st : Int) (wa : Bool) (log : List Acc) (O : Nat → Prop) (a : Nat) (x : Int) (w : World) (h : MemAt B ⟨ws, st, wa, log⟩ O w) (hf : MS.fine ⟨ws, st, wa, log⟩) (ha : a < ws.length) :
    Calls Try.prog 65 #[at0 B, .int .i64 a, .int .u64 x] w (Does B (.int .i64 0) (MS.counted ⟨ws.set a x, st, wa, log⟩ (1, a, (-1), true)) O w) := by
  go_enter Try.func65, Try.ntmps65
  go_wp2_with fail
  have h1 := h.alloc (.cells #[.int .i64 a] 3)
  refine (ask1 B _ _ a 0 w.heap.size _ h1 hf (by simp) (ok1 ha)).mono ?_
  rintro e w' ⟨rfl, rfl⟩
  have k1 := (Keeps.refl O w).alloc (.cells #[.int .i64 a] 3)
  generalize w.alloc (.cells #[.int .i64 a] 3) = w1 at *
  obtain ⟨G, v, rfl, hb, hg, hr⟩ := h1
  have c0 := hb.cell 0
  simp at c0
  have c1 := cell_word hg ha
  have f1 := hg.frozen a
  have ha' : (a : Int) < ws.length := by omega
  have hM := stored hb hg hr a (x)
  have k2 := k1.setCell (p := ⟨G, a, none⟩) (.inl (.inr (.inl rfl))) (.int .u64 (x))
  have hf2 := fine_set hf a (x)
  go_wp2_with fail
  refine (count_any B _ _ 1 a (-1) true _ hM hf2.1 hf2.2.1 hf2.2.2.1).mono ?_
  rintro e w' ⟨rfl, hT⟩
  have hT2 := Turn.from k2 (Later.refl _ _) hT
  go_wp2
  go_ret
  exact ⟨rfl, hT2⟩

set_option maxHeartbeats 1000000 in
theorem cas_yes (B : Nat) (ws : List Int) (st : Int) (wa : Bool) (log : List Acc) (O : Nat → Prop) (a : Nat) (o x : Int) (w : World) (h : MemAt B ⟨ws, st, wa, log⟩ O w) (hf : MS.fine ⟨ws, st, wa, log⟩) (ha : a < ws.length) (ho : wordAt ws a = o) :
    Calls Try.prog 84 #[at0 B, .int .i64 a, .int .u64 o, .int .u64 x] w (Does B (.tuple #[.bool true, .int .i64 0]) (MS.counted ⟨ws.set a x, st, wa, log⟩ (2, a, (-1), true)) O w) := by
  go_enter Try.func84, Try.ntmps84
  go_wp2_with fail
  have h1 := h.alloc (.cells #[.int .i64 a] 3)
  refine (ask1 B _ _ a 0 w.heap.size _ h1 hf (by simp) (ok1 ha)).mono ?_
  rintro e w' ⟨rfl, rfl⟩
  have k1 := (Keeps.refl O w).alloc (.cells #[.int .i64 a] 3)
  generalize w.alloc (.cells #[.int .i64 a] 3) = w1 at *
  obtain ⟨G, v, rfl, hb, hg, hr⟩ := h1
  have c0 := hb.cell 0
  simp at c0
  have c1 := cell_word hg ha
  have f1 := hg.frozen a
  have ha' : (a : Int) < ws.length := by omega
  rw [ho] at c1
  clear ho
  have hM := stored hb hg hr a (x)
  have k2 := k1.setCell (p := ⟨G, a, none⟩) (.inl (.inr (.inl rfl))) (.int .u64 (x))
  have hf2 := fine_set hf a (x)
  go_wp2_with fail
  refine (count_any B _ _ 2 a (-1) true _ hM hf2.1 hf2.2.1 hf2.2.2.1).mono ?_
  rintro e w' ⟨rfl, hT⟩
  have hT2 := Turn.from k2 (Later.refl _ _) hT
  go_wp2
  go_ret2
  exact ⟨rfl, hT2⟩

set_option maxHeartbeats 1000000 in
theorem cas_no (B : Nat) (ws : List Int) (st : Int) (wa : Bool) (log : List Acc) (O : Nat → Prop) (a : Nat) (o x : Int) (w : World) (h : MemAt B ⟨ws, st, wa, log⟩ O w) (hf : MS.fine ⟨ws, st, wa, log⟩) (ha : a < ws.length) (ho : wordAt ws a ≠ o) :
    Calls Try.prog 84 #[at0 B, .int .i64 a, .int .u64 o, .int .u64 x] w (Does B (.tuple #[.bool false, .int .i64 0]) (MS.counted ⟨ws, st, wa, log⟩ (2, a, (-1), false)) O w) := by
  go_enter Try.func84, Try.ntmps84
  go_wp2_with fail
  have h1 := h.alloc (.cells #[.int .i64 a] 3)
  refine (ask1 B _ _ a 0 w.heap.size _ h1 hf (by simp) (ok1 ha)).mono ?_
  rintro e w' ⟨rfl, rfl⟩
  have k1 := (Keeps.refl O w).alloc (.cells #[.int .i64 a] 3)
  generalize w.alloc (.cells #[.int .i64 a] 3) = w1 at *
  obtain ⟨G, v, rfl, hb, hg, hr⟩ := h1
  have c0 := hb.cell 0
  simp at c0
  have c1 := cell_word hg ha
  have f1 := hg.frozen a
  have ha' : (a : Int) < ws.length := by omega
  generalize wordAt ws a = y at *
  have ho2 : (y == o) = false := by simpa using ho
  go_wp2_with fail
  refine (count_any B _ _ 2 a (-1) false _ ⟨G, v, rfl, hb, hg, hr⟩ hf.1 hf.2.1 hf.2.2.1).mono ?_
  rintro e w' ⟨rfl, hT⟩
  have hT2 := Turn.from k1 (Later.refl _ _) hT
  go_wp2
  go_ret2
  exact ⟨rfl, hT2⟩

end Go.Proofs.Ytnedifcjenlcjaa
