/- A text's configuration, whatever its names are. -/
import Derived.Test.YtdhdomeckloedaaDoorNumber
namespace Go.Proofs.YtdhdomeckloedaaDoor
open Go.ChangeShapes Go.WideShapes Go.ChangeAt Go.RowKit
set_option linter.unusedVariables false
set_option linter.unusedSimpArgs false

/-- The parts, when the first k behind the algorithm have been read. -/
def readTo (a n0 n1 n2 n3 n4 n5 : Int) (k : Nat) : Cf := ⟨a, if 0 < k then n0 else 0, if 1 < k then n1 else 0, if 2 < k then n2 else 0, if 3 < k then n3 else 0, if 4 < k then n4 else 0, if 5 < k then n5 else 0⟩
/-- Amid (text).conf: the text T, the row R, the answer's box A. -/
structure ReadS (t : Array Value) (w : World) (A R T : Nat) (d : Cf) (W : World) : Prop where
  row : Blk W R 41 d.cs
  txt : Blk W T 52 t
  ans : Blk W A 23 zc.cs
  bel : Below w.heap.size w W
theorem ReadS.below {t : Array Value} {w : World} {A R T : Nat} {d : Cf} {W W' : World} (h : ReadS t w A R T d W) (hb : Below W.heap.size W W') : ReadS t w A R T d W' :=
  ⟨h.row.below hb h.row.lt, h.txt.below hb h.txt.lt, h.ans.below hb h.ans.lt, below_then h.bel hb (Nat.le_refl _)⟩
theorem ReadS.set {t : Array Value} {w : World} {A R T : Nat} {d d' : Cf} {W : World} (h : ReadS t w A R T d W) (h1 : T ≠ R) (h2 : A ≠ R) (h3 : w.heap.size ≤ R) (i : Nat) (u : Value) (e : d.cs.setIfInBounds i u = d'.cs) : ReadS t w A R T d' (W.setCell ⟨R, i, none⟩ u) :=
  ⟨e ▸ h.row.set i u, h.txt.far h1 u, h.ans.far h2 u, h.bel.setCell h3 u⟩

set_option maxRecDepth 100000 in
set_option maxHeartbeats 16000000 in
theorem tconf_any (w0 w1 w2 w3 w4 w5 w6 w7 w8 w9 w10 w11 w12 : List UInt8) (hl : w2.length ≤ 1000 ∧ w4.length ≤ 1000 ∧ w6.length ≤ 1000 ∧ w8.length ≤ 1000 ∧ w10.length ≤ 1000 ∧ w12.length ≤ 1000) (w : World) (hE : Env w) :
    Calls Tryd.prog 28 #[.agg #[strV w0, strV w1, strV w2, strV w3, strV w4, strV w5, strV w6, strV w7, strV w8, strV w9, strV w10, strV w11, strV w12]] w fun e w' => e = .returned (Cf.v ⟨algoN w0, numW w2, numW w4, numW w6, numW w8, numW w10, numW w12⟩) ∧ Below w.heap.size w w' := by
  obtain ⟨g0, g1, g2, g3, g4, g5⟩ := hl
  have KA := fun W hb => algo_any w0 W (hE.below (w' := W) hb)
  have KN0 := numW_any w2 g0
  have KN1 := numW_any w4 g1
  have KN2 := numW_any w6 g2
  have KN3 := numW_any w8 g3
  have KN4 := numW_any w10 g4
  have KN5 := numW_any w12 g5
  have KC := conf_any
  clear g0 g1 g2 g3 g4 g5 hE
  generalize algoN w0 = a at *
  generalize numW w2 = n0 at *
  generalize numW w4 = n1 at *
  generalize numW w6 = n2 at *
  generalize numW w8 = n3 at *
  generalize numW w10 = n4 at *
  generalize numW w12 = n5 at *
  have b1 : Below w.heap.size w ((w.alloc (.cells #[strV w0, strV w1, strV w2, strV w3, strV w4, strV w5, strV w6, strV w7, strV w8, strV w9, strV w10, strV w11, strV w12] 52)).alloc (.cells zc.cs 23)) := ((Below.refl _ _).alloc (Nat.le_refl _) _).alloc (by simp) _
  have hT := (Blk.new w 52 #[strV w0, strV w1, strV w2, strV w3, strV w4, strV w5, strV w6, strV w7, strV w8, strV w9, strV w10, strV w11, strV w12]).alloc (.cells zc.cs 23)
  have hA := Blk.new (w.alloc (.cells #[strV w0, strV w1, strV w2, strV w3, strV w4, strV w5, strV w6, strV w7, strV w8, strV w9, strV w10, strV w11, strV w12] 52)) 23 zc.cs
  rw [World.size_alloc] at hA
  have hwA : w.heap.size ≤ w.heap.size + 1 := by omega
  go_enter Tryd.func28, Tryd.ntmps28
  go_wp2_with fail
  refine (KA _ b1).mono ?_
  rintro e V ⟨rfl, rfl⟩
  have hR := Blk.new ((w.alloc (.cells (#[strV w0, strV w1, strV w2, strV w3, strV w4, strV w5, strV w6, strV w7, strV w8, strV w9, strV w10, strV w11, strV w12] : Array Value) 52)).alloc (.cells zc.cs 23)) 41 (readTo a n0 n1 n2 n3 n4 n5 0).cs
  simp only [World.size_alloc] at hR
  have HS := Lib.hid (show ReadS (#[strV w0, strV w1, strV w2, strV w3, strV w4, strV w5, strV w6, strV w7, strV w8, strV w9, strV w10, strV w11, strV w12] : Array Value) w (w.heap.size + 1) (w.heap.size + 1 + 1) w.heap.size (readTo a n0 n1 n2 n3 n4 n5 0) (((w.alloc (.cells (#[strV w0, strV w1, strV w2, strV w3, strV w4, strV w5, strV w6, strV w7, strV w8, strV w9, strV w10, strV w11, strV w12] : Array Value) 52)).alloc (.cells zc.cs 23)).alloc (.cells (readTo a n0 n1 n2 n3 n4 n5 0).cs 41)) from
    ⟨hR, hT.alloc _, hA.alloc _, b1.alloc b1.size _⟩)
  have hTR : w.heap.size ≠ w.heap.size + 1 + 1 := by omega
  have hAR : w.heap.size + 1 ≠ w.heap.size + 1 + 1 := by omega
  have hwR : w.heap.size ≤ w.heap.size + 1 + 1 := by omega
  clear hR hT hA b1 KA
  go_wp2_with fail
  generalize w.heap.size + 1 + 1 = R at *
  generalize w.heap.size + 1 = A at *
  have hwT : w.heap.size ≤ w.heap.size := Nat.le_refl _
  go_loopw [9] (fun i W => ∃ j : Nat, j ≤ 6 ∧ i = .int .i64 j ∧ Hid (ReadS (#[strV w0, strV w1, strV w2, strV w3, strV w4, strV w5, strV w6, strV w7, strV w8, strV w9, strV w10, strV w11, strV w12] : Array Value) w A R w.heap.size (readTo a n0 n1 n2 n3 n4 n5 j) W)) (fun i _ => 6 - (intOf i).toNat)
  case atStart => exact ⟨0, by omega, rfl, HS⟩
  case round =>
    clear HS
    obtain ⟨j, hj, rfl, HS⟩ := hrel
    have h6 : j = 0 ∨ j = 1 ∨ j = 2 ∨ j = 3 ∨ j = 4 ∨ j = 5 ∨ j = 6 := by omega
    clear hj
    rcases h6 with rfl | rfl | rfl | rfl | rfl | rfl | rfl
    focus
      have cw := HS.out.txt.cell 2
      have dw : (#[strV w0, strV w1, strV w2, strV w3, strV w4, strV w5, strV w6, strV w7, strV w8, strV w9, strV w10, strV w11, strV w12] : Array Value)[2]? = some (strV w2) := rfl
      rw [dw] at cw
      clear dw
      go_wp2_with fail
      refine (KN0 _).mono ?_
      rintro e X ⟨rfl, hb⟩
      have T1 := HS.out.below hb
      clear HS hb
      obtain ⟨z0, z1, z2, z3, z4, z5, z6⟩ := T1.row.conf
      have zf := T1.row.frozen
      have T2 := T1.set hTR hAR hwR 1 (.int .i64 n0) (d' := readTo a n0 n1 n2 n3 n4 n5 1) (by simp [readTo])
      have HT := Lib.hid T2
      clear T1 T2
      go_wp2
      exact ⟨⟨1, by omega, rfl, HT⟩, by simp [intOf]⟩
    focus
      have cw := HS.out.txt.cell 4
      have dw : (#[strV w0, strV w1, strV w2, strV w3, strV w4, strV w5, strV w6, strV w7, strV w8, strV w9, strV w10, strV w11, strV w12] : Array Value)[4]? = some (strV w4) := rfl
      rw [dw] at cw
      clear dw
      go_wp2_with fail
      refine (KN1 _).mono ?_
      rintro e X ⟨rfl, hb⟩
      have T1 := HS.out.below hb
      clear HS hb
      obtain ⟨z0, z1, z2, z3, z4, z5, z6⟩ := T1.row.conf
      have zf := T1.row.frozen
      have T2 := T1.set hTR hAR hwR 2 (.int .i64 n1) (d' := readTo a n0 n1 n2 n3 n4 n5 2) (by simp [readTo])
      have HT := Lib.hid T2
      clear T1 T2
      go_wp2
      exact ⟨⟨2, by omega, rfl, HT⟩, by simp [intOf]⟩
    focus
      have cw := HS.out.txt.cell 6
      have dw : (#[strV w0, strV w1, strV w2, strV w3, strV w4, strV w5, strV w6, strV w7, strV w8, strV w9, strV w10, strV w11, strV w12] : Array Value)[6]? = some (strV w6) := rfl
      rw [dw] at cw
      clear dw
      go_wp2_with fail
      refine (KN2 _).mono ?_
      rintro e X ⟨rfl, hb⟩
      have T1 := HS.out.below hb
      clear HS hb
      obtain ⟨z0, z1, z2, z3, z4, z5, z6⟩ := T1.row.conf
      have zf := T1.row.frozen
      have T2 := T1.set hTR hAR hwR 3 (.int .i64 n2) (d' := readTo a n0 n1 n2 n3 n4 n5 3) (by simp [readTo])
      have HT := Lib.hid T2
      clear T1 T2
      go_wp2
      exact ⟨⟨3, by omega, rfl, HT⟩, by simp [intOf]⟩
    focus
      have cw := HS.out.txt.cell 8
      have dw : (#[strV w0, strV w1, strV w2, strV w3, strV w4, strV w5, strV w6, strV w7, strV w8, strV w9, strV w10, strV w11, strV w12] : Array Value)[8]? = some (strV w8) := rfl
      rw [dw] at cw
      clear dw
      go_wp2_with fail
      refine (KN3 _).mono ?_
      rintro e X ⟨rfl, hb⟩
      have T1 := HS.out.below hb
      clear HS hb
      obtain ⟨z0, z1, z2, z3, z4, z5, z6⟩ := T1.row.conf
      have zf := T1.row.frozen
      have T2 := T1.set hTR hAR hwR 4 (.int .i64 n3) (d' := readTo a n0 n1 n2 n3 n4 n5 4) (by simp [readTo])
      have HT := Lib.hid T2
      clear T1 T2
      go_wp2
      exact ⟨⟨4, by omega, rfl, HT⟩, by simp [intOf]⟩
    focus
      have cw := HS.out.txt.cell 10
      have dw : (#[strV w0, strV w1, strV w2, strV w3, strV w4, strV w5, strV w6, strV w7, strV w8, strV w9, strV w10, strV w11, strV w12] : Array Value)[10]? = some (strV w10) := rfl
      rw [dw] at cw
      clear dw
      go_wp2_with fail
      refine (KN4 _).mono ?_
      rintro e X ⟨rfl, hb⟩
      have T1 := HS.out.below hb
      clear HS hb
      obtain ⟨z0, z1, z2, z3, z4, z5, z6⟩ := T1.row.conf
      have zf := T1.row.frozen
      have T2 := T1.set hTR hAR hwR 5 (.int .i64 n4) (d' := readTo a n0 n1 n2 n3 n4 n5 5) (by simp [readTo])
      have HT := Lib.hid T2
      clear T1 T2
      go_wp2
      exact ⟨⟨5, by omega, rfl, HT⟩, by simp [intOf]⟩
    focus
      have cw := HS.out.txt.cell 12
      have dw : (#[strV w0, strV w1, strV w2, strV w3, strV w4, strV w5, strV w6, strV w7, strV w8, strV w9, strV w10, strV w11, strV w12] : Array Value)[12]? = some (strV w12) := rfl
      rw [dw] at cw
      clear dw
      go_wp2_with fail
      refine (KN5 _).mono ?_
      rintro e X ⟨rfl, hb⟩
      have T1 := HS.out.below hb
      clear HS hb
      obtain ⟨z0, z1, z2, z3, z4, z5, z6⟩ := T1.row.conf
      have zf := T1.row.frozen
      have T2 := T1.set hTR hAR hwR 6 (.int .i64 n5) (d' := readTo a n0 n1 n2 n3 n4 n5 6) (by simp [readTo])
      have HT := Lib.hid T2
      clear T1 T2
      go_wp2
      exact ⟨⟨6, by omega, rfl, HT⟩, by simp [intOf]⟩
    focus
      have e6 : readTo a n0 n1 n2 n3 n4 n5 6 = ⟨a, n0, n1, n2, n3, n4, n5⟩ := by simp [readTo]
      rw [e6] at HS
      clear e6
      obtain ⟨z0, z1, z2, z3, z4, z5, z6⟩ := HS.out.row.conf
      dsimp only at z0 z1 z2 z3 z4 z5 z6
      go_wp2_with fail
      refine (KC ⟨a, n0, n1, n2, n3, n4, n5⟩ _).mono ?_
      rintro e X ⟨rfl, hb⟩
      have X' := HS.out.below hb
      obtain ⟨a0, a1, a2, a3, a4, a5, a6⟩ := X'.ans.conf
      have af := X'.ans.frozen
      have hbel := X'.bel
      clear HS hb X' z0 z1 z2 z3 z4 z5 z6
      go_wp2_with fail
      refine bodyPost_ret (v := Cf.v ⟨a, n0, n1, n2, n3, n4, n5⟩) (by simp [results, Tryd.results28, go_sem, a0, a1, a2, a3, a4, a5, a6]) rfl ⟨rfl, ?_⟩
      exact ((((((hbel.setCell hwA _).setCell hwA _).setCell hwA _).setCell hwA _).setCell hwA _).setCell hwA _).setCell hwA _
end Go.Proofs.YtdhdomeckloedaaDoor
