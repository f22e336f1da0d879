/- What Store, Cas, Add, Dcas and Dcss do where they are done. -/
import Derived.Test.YtogbakgmkiiboaaMSteps
namespace Go.Proofs.Ytogbakgmkiiboaa
open Go.ChangeShapes Go.WideShapes Go.ChangeAt Go.RowKit
set_option linter.unusedVariables false
set_option maxRecDepth 20000


theorem fine_set {ws : List Int} {st : Int} {wa : Bool} {log : List Acc} (h : MS.fine ⟨ws, st, wa, log⟩) (a : Nat) (x : Int) : MS.fine ⟨ws.set a x, st, wa, log⟩ := by
  obtain ⟨h0, h1, h2, h3⟩ := h
  exact ⟨h0, h1, h2, by simpa using h3⟩

theorem stored2 {B G : Nat} {v : Value} {ws : List Int} {st : Int} {wa : Bool} {log : List Acc} {W : World} (hb : Blk W B 103 #[.slice (some ⟨G, 0, none⟩) ws.length ws.length, .int .i64 st, .bool wa, v])
    (hg : Blk W G 44 (encU ws).toArray) (hr : W.ownsRow 0 139 4 v log.length (encL log)) (a b : Nat) (x y : Int) :
    MemAt B ⟨(ws.set a x).set b y, st, wa, log⟩ (fun k => k = B ∨ k = G ∨ v.ownBlock = some k) (((W.setCell ⟨G, a, none⟩ (.int .u64 x)).setCell ⟨G, b, none⟩ (.int .u64 y)).drew) := by
  have hb1 := hb.far (p := ⟨G, a, none⟩) (hb.ne hg (by decide)) (.int .u64 x)
  have hg1 : Blk (W.setCell ⟨G, a, none⟩ (.int .u64 x)) G 44 (encU (ws.set a x)).toArray := by
    simpa [encU, List.map_set] using hg.set a (.int .u64 x)
  have hr1 := ownsRow_setCell_other (a := ⟨G, a, none⟩) hr (hg.not_row hr (by decide)) (.int .u64 x)
  exact (stored (ws := ws.set a x) (by simpa using hb1) hg1 hr1 b y).agree fun _ _ => rfl

set_option maxHeartbeats 1000000 in
theorem store_ok (B : Nat) (ws : List Int) (st : Int) (wa : Bool) (log : List Acc) (O : Nat → Prop) (a : Nat) (x : Int) (w : World) (h : MemAt B ⟨ws, st, wa, log⟩ O w) (hf : MS.fine ⟨ws, st, wa, log⟩) (ha : a < ws.length) :
    Calls Try.prog 75 #[at0 B, .int .i64 a, .int .u64 x] w (Does B (.int .i64 0) (MS.counted ⟨ws.set a x, st, wa, log⟩ (1, a, (-1), true)) O w) := by
  go_enter Try.func75, Try.ntmps75
  go_wp2_with fail
  have h1 := h.alloc (.cells #[.int .i64 a] 3)
  refine (ask1 B _ _ a 0 w.heap.size _ h1 hf (by simp) (ok1 ha)).mono ?_
  rintro e w' ⟨rfl, rfl⟩
  have k1 := (Keeps.refl O w).alloc (.cells #[.int .i64 a] 3)
  generalize w.alloc (.cells #[.int .i64 a] 3) = w1 at *
  obtain ⟨G, v, rfl, hb, hg, hr⟩ := h1
  have c0 := hb.cell 0
  simp at c0
  have c1 := cell_word hg ha
  have f1 := hg.frozen a
  have ha' : (a : Int) < ws.length := by omega
  have hM := stored hb hg hr a (x)
  have k2 := k1.setCell (p := ⟨G, a, none⟩) (.inl (.inr (.inl rfl))) (.int .u64 (x))
  have hf2 := fine_set hf a (x)
  go_wp2_with fail
  refine (count_any B _ _ 1 a (-1) true _ hM hf2.1 hf2.2.1 hf2.2.2.1).mono ?_
  rintro e w' ⟨rfl, hT⟩
  have hT2 := Turn.from k2 (Later.refl _ _) hT
  go_wp2
  go_ret
  exact ⟨rfl, hT2⟩

set_option maxHeartbeats 1000000 in
theorem cas_yes (B : Nat) (ws : List Int) (st : Int) (wa : Bool) (log : List Acc) (O : Nat → Prop) (a : Nat) (o x : Int) (w : World) (h : MemAt B ⟨ws, st, wa, log⟩ O w) (hf : MS.fine ⟨ws, st, wa, log⟩) (ha : a < ws.length) (ho : wordAt ws a = o) :
    Calls Try.prog 76 #[at0 B, .int .i64 a, .int .u64 o, .int .u64 x] w (Does B (.tuple #[.bool true, .int .i64 0]) (MS.counted ⟨ws.set a x, st, wa, log⟩ (2, a, (-1), true)) O w) := by
  go_enter Try.func76, Try.ntmps76
  go_wp2_with fail
  have h1 := h.alloc (.cells #[.int .i64 a] 3)
  refine (ask1 B _ _ a 0 w.heap.size _ h1 hf (by simp) (ok1 ha)).mono ?_
  rintro e w' ⟨rfl, rfl⟩
  have k1 := (Keeps.refl O w).alloc (.cells #[.int .i64 a] 3)
  generalize w.alloc (.cells #[.int .i64 a] 3) = w1 at *
  obtain ⟨G, v, rfl, hb, hg, hr⟩ := h1
  have c0 := hb.cell 0
  simp at c0
  have c1 := cell_word hg ha
  have f1 := hg.frozen a
  have ha' : (a : Int) < ws.length := by omega
  rw [ho] at c1
  clear ho
  have hM := stored hb hg hr a (x)
  have k2 := k1.setCell (p := ⟨G, a, none⟩) (.inl (.inr (.inl rfl))) (.int .u64 (x))
  have hf2 := fine_set hf a (x)
  go_wp2_with fail
  refine (count_any B _ _ 2 a (-1) true _ hM hf2.1 hf2.2.1 hf2.2.2.1).mono ?_
  rintro e w' ⟨rfl, hT⟩
  have hT2 := Turn.from k2 (Later.refl _ _) hT
  go_wp2
  go_ret2
  exact ⟨rfl, hT2⟩

set_option maxHeartbeats 1000000 in
theorem cas_no (B : Nat) (ws : List Int) (st : Int) (wa : Bool) (log : List Acc) (O : Nat → Prop) (a : Nat) (o x : Int) (w : World) (h : MemAt B ⟨ws, st, wa, log⟩ O w) (hf : MS.fine ⟨ws, st, wa, log⟩) (ha : a < ws.length) (ho : wordAt ws a ≠ o) :
    Calls Try.prog 76 #[at0 B, .int .i64 a, .int .u64 o, .int .u64 x] w (Does B (.tuple #[.bool false, .int .i64 0]) (MS.counted ⟨ws, st, wa, log⟩ (2, a, (-1), false)) O w) := by
  go_enter Try.func76, Try.ntmps76
  go_wp2_with fail
  have h1 := h.alloc (.cells #[.int .i64 a] 3)
  refine (ask1 B _ _ a 0 w.heap.size _ h1 hf (by simp) (ok1 ha)).mono ?_
  rintro e w' ⟨rfl, rfl⟩
  have k1 := (Keeps.refl O w).alloc (.cells #[.int .i64 a] 3)
  generalize w.alloc (.cells #[.int .i64 a] 3) = w1 at *
  obtain ⟨G, v, rfl, hb, hg, hr⟩ := h1
  have c0 := hb.cell 0
  simp at c0
  have c1 := cell_word hg ha
  have f1 := hg.frozen a
  have ha' : (a : Int) < ws.length := by omega
  generalize wordAt ws a = y at *
  have ho2 : (y == o) = false := by simpa using ho
  go_wp2_with fail
  refine (count_any B _ _ 2 a (-1) false _ ⟨G, v, rfl, hb, hg, hr⟩ hf.1 hf.2.1 hf.2.2.1).mono ?_
  rintro e w' ⟨rfl, hT⟩
  have hT2 := Turn.from k1 (Later.refl _ _) hT
  go_wp2
  go_ret2
  exact ⟨rfl, hT2⟩

set_option maxHeartbeats 1000000 in
theorem add_ok (B : Nat) (ws : List Int) (st : Int) (wa : Bool) (log : List Acc) (O : Nat → Prop) (a : Nat) (x : Int) (w : World) (h : MemAt B ⟨ws, st, wa, log⟩ O w) (hf : MS.fine ⟨ws, st, wa, log⟩) (ha : a < ws.length) :
    Calls Try.prog 77 #[at0 B, .int .i64 a, .int .u64 x] w (Does B (.tuple #[.int .u64 (wordAt ws a), .int .i64 0]) (MS.counted ⟨ws.set a (IntKind.u64.wrap (wordAt ws a + x)), st, wa, log⟩ (3, a, (-1), true)) O w) := by
  go_enter Try.func77, Try.ntmps77
  go_wp2_with fail
  have h1 := h.alloc (.cells #[.int .i64 a] 3)
  refine (ask1 B _ _ a 0 w.heap.size _ h1 hf (by simp) (ok1 ha)).mono ?_
  rintro e w' ⟨rfl, rfl⟩
  have k1 := (Keeps.refl O w).alloc (.cells #[.int .i64 a] 3)
  generalize w.alloc (.cells #[.int .i64 a] 3) = w1 at *
  obtain ⟨G, v, rfl, hb, hg, hr⟩ := h1
  have c0 := hb.cell 0
  simp at c0
  have c1 := cell_word hg ha
  have f1 := hg.frozen a
  have ha' : (a : Int) < ws.length := by omega
  have hM := stored hb hg hr a (IntKind.u64.wrap (wordAt ws a + x))
  have k2 := k1.setCell (p := ⟨G, a, none⟩) (.inl (.inr (.inl rfl))) (.int .u64 (IntKind.u64.wrap (wordAt ws a + x)))
  have hf2 := fine_set hf a (IntKind.u64.wrap (wordAt ws a + x))
  go_wp2_with fail
  refine (count_any B _ _ 3 a (-1) true _ hM hf2.1 hf2.2.1 hf2.2.2.1).mono ?_
  rintro e w' ⟨rfl, hT⟩
  have hT2 := Turn.from k2 (Later.refl _ _) hT
  go_wp2
  go_ret2
  exact ⟨rfl, hT2⟩

set_option maxHeartbeats 1000000 in
theorem dcss_no1 (B : Nat) (ws : List Int) (st : Int) (wa : Bool) (log : List Acc) (O : Nat → Prop) (a : Nat) (o x : Int) (b : Nat) (p : Int) (w : World) (h : MemAt B ⟨ws, st, wa, log⟩ O w) (hf : MS.fine ⟨ws, st, wa, log⟩) (ha : a < ws.length) (hb' : b < ws.length) (ho : wordAt ws a ≠ o) :
    Calls Try.prog 79 #[at0 B, .int .i64 a, .int .u64 o, .int .u64 x, .int .i64 b, .int .u64 p] w (Does B (.tuple #[.bool false, .int .i64 0]) (MS.counted ⟨ws, st, wa, log⟩ (5, a, b, false)) O w) := by
  go_enter Try.func79, Try.ntmps79
  go_wp2_with fail
  have h1 := h.alloc (.cells #[.int .i64 a, .int .i64 b] 3)
  refine (ask2 B _ _ a b 0 w.heap.size _ h1 hf (by simp) (by simp) (ok2 ha hb')).mono ?_
  rintro e w' ⟨rfl, rfl⟩
  have k1 := (Keeps.refl O w).alloc (.cells #[.int .i64 a, .int .i64 b] 3)
  generalize w.alloc (.cells #[.int .i64 a, .int .i64 b] 3) = w1 at *
  obtain ⟨G, v, rfl, hb, hg, hr⟩ := h1
  have c0 := hb.cell 0
  simp at c0
  have c1 := cell_word hg ha
  have f1 := hg.frozen a
  have ha' : (a : Int) < ws.length := by omega
  have hcb := cell_word hg hb'
  have hb2 : (b : Int) < ws.length := by omega
  generalize wordAt ws a = y at *
  generalize wordAt ws b = z at *
  have ho2 : (y == o) = false := by simpa using ho
  go_wp2_with fail
  refine (count_any B _ _ 5 a b false _ ⟨G, v, rfl, hb, hg, hr⟩ hf.1 hf.2.1 hf.2.2.1).mono ?_
  rintro e w' ⟨rfl, hT⟩
  have hT2 := Turn.from k1 (Later.refl _ _) hT
  go_wp2
  go_ret2
  exact ⟨rfl, hT2⟩

set_option maxHeartbeats 1000000 in
theorem dcss_no2 (B : Nat) (ws : List Int) (st : Int) (wa : Bool) (log : List Acc) (O : Nat → Prop) (a : Nat) (o x : Int) (b : Nat) (p : Int) (w : World) (h : MemAt B ⟨ws, st, wa, log⟩ O w) (hf : MS.fine ⟨ws, st, wa, log⟩) (ha : a < ws.length) (hb' : b < ws.length) (ho : wordAt ws a = o) (hp : wordAt ws b ≠ p) :
    Calls Try.prog 79 #[at0 B, .int .i64 a, .int .u64 o, .int .u64 x, .int .i64 b, .int .u64 p] w (Does B (.tuple #[.bool false, .int .i64 0]) (MS.counted ⟨ws, st, wa, log⟩ (5, a, b, false)) O w) := by
  go_enter Try.func79, Try.ntmps79
  go_wp2_with fail
  have h1 := h.alloc (.cells #[.int .i64 a, .int .i64 b] 3)
  refine (ask2 B _ _ a b 0 w.heap.size _ h1 hf (by simp) (by simp) (ok2 ha hb')).mono ?_
  rintro e w' ⟨rfl, rfl⟩
  have k1 := (Keeps.refl O w).alloc (.cells #[.int .i64 a, .int .i64 b] 3)
  generalize w.alloc (.cells #[.int .i64 a, .int .i64 b] 3) = w1 at *
  obtain ⟨G, v, rfl, hb, hg, hr⟩ := h1
  have c0 := hb.cell 0
  simp at c0
  have c1 := cell_word hg ha
  have f1 := hg.frozen a
  have ha' : (a : Int) < ws.length := by omega
  have hcb := cell_word hg hb'
  have hb2 : (b : Int) < ws.length := by omega
  generalize wordAt ws a = y at *
  generalize wordAt ws b = z at *
  obtain rfl := ho
  have hp2 : (z == p) = false := by simpa using hp
  go_wp2_with fail
  refine (count_any B _ _ 5 a b false _ ⟨G, v, rfl, hb, hg, hr⟩ hf.1 hf.2.1 hf.2.2.1).mono ?_
  rintro e w' ⟨rfl, hT⟩
  have hT2 := Turn.from k1 (Later.refl _ _) hT
  go_wp2
  go_ret2
  exact ⟨rfl, hT2⟩

set_option maxHeartbeats 1000000 in
theorem dcas_no1 (B : Nat) (ws : List Int) (st : Int) (wa : Bool) (log : List Acc) (O : Nat → Prop) (a : Nat) (o x : Int) (b : Nat) (p q : Int) (w : World) (h : MemAt B ⟨ws, st, wa, log⟩ O w) (hf : MS.fine ⟨ws, st, wa, log⟩) (ha : a < ws.length) (hb' : b < ws.length) (hab : a ≠ b) (ho : wordAt ws a ≠ o) :
    Calls Try.prog 78 #[at0 B, .int .i64 a, .int .u64 o, .int .u64 x, .int .i64 b, .int .u64 p, .int .u64 q] w (Does B (.tuple #[.bool false, .int .i64 0]) (MS.counted ⟨ws, st, wa, log⟩ (4, a, b, false)) O w) := by
  have hab2 : ((a : Int) == (b : Int)) = false := by simp; omega
  go_enter Try.func78, Try.ntmps78
  go_wp2_with fail
  have h1 := h.alloc (.cells #[.int .i64 a, .int .i64 b] 3)
  refine (ask2 B _ _ a b 0 w.heap.size _ h1 hf (by simp) (by simp) (ok2 ha hb')).mono ?_
  rintro e w' ⟨rfl, rfl⟩
  have k1 := (Keeps.refl O w).alloc (.cells #[.int .i64 a, .int .i64 b] 3)
  generalize w.alloc (.cells #[.int .i64 a, .int .i64 b] 3) = w1 at *
  obtain ⟨G, v, rfl, hb, hg, hr⟩ := h1
  have c0 := hb.cell 0
  simp at c0
  have c1 := cell_word hg ha
  have f1 := hg.frozen a
  have ha' : (a : Int) < ws.length := by omega
  have hcb := cell_word hg hb'
  have hb2 : (b : Int) < ws.length := by omega
  generalize wordAt ws a = y at *
  generalize wordAt ws b = z at *
  have ho2 : (y == o) = false := by simpa using ho
  go_wp2_with fail
  refine (count_any B _ _ 4 a b false _ ⟨G, v, rfl, hb, hg, hr⟩ hf.1 hf.2.1 hf.2.2.1).mono ?_
  rintro e w' ⟨rfl, hT⟩
  have hT2 := Turn.from k1 (Later.refl _ _) hT
  go_wp2
  go_ret2
  exact ⟨rfl, hT2⟩

set_option maxHeartbeats 1000000 in
theorem dcas_no2 (B : Nat) (ws : List Int) (st : Int) (wa : Bool) (log : List Acc) (O : Nat → Prop) (a : Nat) (o x : Int) (b : Nat) (p q : Int) (w : World) (h : MemAt B ⟨ws, st, wa, log⟩ O w) (hf : MS.fine ⟨ws, st, wa, log⟩) (ha : a < ws.length) (hb' : b < ws.length) (hab : a ≠ b) (ho : wordAt ws a = o) (hp : wordAt ws b ≠ p) :
    Calls Try.prog 78 #[at0 B, .int .i64 a, .int .u64 o, .int .u64 x, .int .i64 b, .int .u64 p, .int .u64 q] w (Does B (.tuple #[.bool false, .int .i64 0]) (MS.counted ⟨ws, st, wa, log⟩ (4, a, b, false)) O w) := by
  have hab2 : ((a : Int) == (b : Int)) = false := by simp; omega
  go_enter Try.func78, Try.ntmps78
  go_wp2_with fail
  have h1 := h.alloc (.cells #[.int .i64 a, .int .i64 b] 3)
  refine (ask2 B _ _ a b 0 w.heap.size _ h1 hf (by simp) (by simp) (ok2 ha hb')).mono ?_
  rintro e w' ⟨rfl, rfl⟩
  have k1 := (Keeps.refl O w).alloc (.cells #[.int .i64 a, .int .i64 b] 3)
  generalize w.alloc (.cells #[.int .i64 a, .int .i64 b] 3) = w1 at *
  obtain ⟨G, v, rfl, hb, hg, hr⟩ := h1
  have c0 := hb.cell 0
  simp at c0
  have c1 := cell_word hg ha
  have f1 := hg.frozen a
  have ha' : (a : Int) < ws.length := by omega
  have hcb := cell_word hg hb'
  have hb2 : (b : Int) < ws.length := by omega
  generalize wordAt ws a = y at *
  generalize wordAt ws b = z at *
  obtain rfl := ho
  have hp2 : (z == p) = false := by simpa using hp
  go_wp2_with fail
  refine (count_any B _ _ 4 a b false _ ⟨G, v, rfl, hb, hg, hr⟩ hf.1 hf.2.1 hf.2.2.1).mono ?_
  rintro e w' ⟨rfl, hT⟩
  have hT2 := Turn.from k1 (Later.refl _ _) hT
  go_wp2
  go_ret2
  exact ⟨rfl, hT2⟩

set_option maxHeartbeats 1000000 in
theorem dcss_yes (B : Nat) (ws : List Int) (st : Int) (wa : Bool) (log : List Acc) (O : Nat → Prop) (a : Nat) (o x : Int) (b : Nat) (p : Int) (w : World) (h : MemAt B ⟨ws, st, wa, log⟩ O w) (hf : MS.fine ⟨ws, st, wa, log⟩) (ha : a < ws.length) (hb' : b < ws.length) (ho : wordAt ws a = o) (hp : wordAt ws b = p) :
    Calls Try.prog 79 #[at0 B, .int .i64 a, .int .u64 o, .int .u64 x, .int .i64 b, .int .u64 p] w (Does B (.tuple #[.bool true, .int .i64 0]) (MS.counted ⟨ws.set a x, st, wa, log⟩ (5, a, b, true)) O w) := by
  go_enter Try.func79, Try.ntmps79
  go_wp2_with fail
  have h1 := h.alloc (.cells #[.int .i64 a, .int .i64 b] 3)
  refine (ask2 B _ _ a b 0 w.heap.size _ h1 hf (by simp) (by simp) (ok2 ha hb')).mono ?_
  rintro e w' ⟨rfl, rfl⟩
  have k1 := (Keeps.refl O w).alloc (.cells #[.int .i64 a, .int .i64 b] 3)
  generalize w.alloc (.cells #[.int .i64 a, .int .i64 b] 3) = w1 at *
  obtain ⟨G, v, rfl, hb, hg, hr⟩ := h1
  have c0 := hb.cell 0
  simp at c0
  have c1 := cell_word hg ha
  have f1 := hg.frozen a
  have ha' : (a : Int) < ws.length := by omega
  have hcb := cell_word hg hb'
  have hb2 : (b : Int) < ws.length := by omega
  rw [ho] at c1
  rw [hp] at hcb
  clear ho hp
  have hM := stored hb hg hr a (x)
  have k2 := k1.setCell (p := ⟨G, a, none⟩) (.inl (.inr (.inl rfl))) (.int .u64 (x))
  have hf2 := fine_set hf a (x)
  go_wp2_with fail
  refine (count_any B _ _ 5 a b true _ hM hf2.1 hf2.2.1 hf2.2.2.1).mono ?_
  rintro e w' ⟨rfl, hT⟩
  have hT2 := Turn.from k2 (Later.refl _ _) hT
  go_wp2
  go_ret2
  exact ⟨rfl, hT2⟩

theorem dcas_same (B : Nat) (ws : List Int) (st : Int) (wa : Bool) (log : List Acc) (O : Nat → Prop) (a : Nat) (o x p q : Int) (w : World) (h : MemAt B ⟨ws, st, wa, log⟩ O w) (hf : MS.fine ⟨ws, st, wa, log⟩) (ha : a < ws.length) :
    Calls Try.prog 78 #[at0 B, .int .i64 a, .int .u64 o, .int .u64 x, .int .i64 a, .int .u64 p, .int .u64 q] w (Does B (.tuple #[.bool false, .int .i64 2]) ⟨ws, st, wa, log⟩ O w) := by
  go_enter Try.func78, Try.ntmps78
  go_wp2_with fail
  have h1 := h.alloc (.cells #[.int .i64 a, .int .i64 a] 3)
  refine (ask2 B _ _ a a 0 w.heap.size _ h1 hf (by simp) (by simp) (ok2 ha ha)).mono ?_
  rintro e w' ⟨rfl, rfl⟩
  have hT := Turn.from ((Keeps.refl O w).alloc (.cells #[.int .i64 a, .int .i64 a] 3)) (Later.refl _ _) (Turn.refl h1)
  go_wp2
  go_ret2
  exact ⟨rfl, hT⟩

set_option maxHeartbeats 4000000 in
theorem dcas_yes (B : Nat) (ws : List Int) (st : Int) (wa : Bool) (log : List Acc) (O : Nat → Prop) (a : Nat) (o x : Int) (b : Nat) (p q : Int) (w : World) (h : MemAt B ⟨ws, st, wa, log⟩ O w) (hf : MS.fine ⟨ws, st, wa, log⟩) (ha : a < ws.length) (hb' : b < ws.length) (hab : a ≠ b) (ho : wordAt ws a = o) (hp : wordAt ws b = p) :
    Calls Try.prog 78 #[at0 B, .int .i64 a, .int .u64 o, .int .u64 x, .int .i64 b, .int .u64 p, .int .u64 q] w (Does B (.tuple #[.bool true, .int .i64 0]) (MS.counted ⟨(ws.set a x).set b q, st, wa, log⟩ (4, a, b, true)) O w) := by
  have hab2 : ((a : Int) == (b : Int)) = false := by simp; omega
  go_enter Try.func78, Try.ntmps78
  go_wp2_with fail
  have h1 := h.alloc (.cells #[.int .i64 a, .int .i64 b] 3)
  refine (ask2 B _ _ a b 0 w.heap.size _ h1 hf (by simp) (by simp) (ok2 ha hb')).mono ?_
  rintro e w' ⟨rfl, rfl⟩
  have k1 := (Keeps.refl O w).alloc (.cells #[.int .i64 a, .int .i64 b] 3)
  generalize w.alloc (.cells #[.int .i64 a, .int .i64 b] 3) = w1 at *
  obtain ⟨G, v, rfl, hb, hg, hr⟩ := h1
  have c0 := hb.cell 0
  simp at c0
  have c1 := cell_word hg ha
  have f1 := hg.frozen a
  have ha' : (a : Int) < ws.length := by omega
  have hcb := cell_word hg hb'
  have hb2 : (b : Int) < ws.length := by omega
  rw [ho] at c1
  rw [hp] at hcb
  clear ho hp
  have fb := hg.frozen b
  go_wp2_with fail
  have nG : G ≠ B := hg.ne hb (by decide)
  have h00 : (0 : Int) ≤ (a : Int) := by omega
  have h01 : (0 : Int) ≤ (b : Int) := by omega
  have hM := stored2 hb hg hr a b x q
  have k2 := ((k1.setCell (p := ⟨G, a, none⟩) (.inl (.inr (.inl rfl))) (.int .u64 x)).setCell (p := ⟨G, b, none⟩) (.inl (.inr (.inl rfl))) (.int .u64 q)).drew
  have hf2 := fine_set (fine_set hf a x) b q
  go_region
  generalize ((w1.setCell ⟨G, a, none⟩ (.int .u64 x)).setCell ⟨G, b, none⟩ (.int .u64 q)).drew = w2 at *
  go_wp2_with fail
  refine (count_any B _ _ 4 a b true _ hM hf2.1 hf2.2.1 hf2.2.2.1).mono ?_
  rintro e w' ⟨rfl, hT⟩
  have hT2 := Turn.from k2 (Later.refl _ _) hT
  go_wp2
  go_ret2
  exact ⟨rfl, hT2⟩
end Go.Proofs.Ytogbakgmkiiboaa
