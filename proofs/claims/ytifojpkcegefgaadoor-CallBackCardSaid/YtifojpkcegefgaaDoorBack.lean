/- The walk of CallBack. -/
import Derived.Test.YtifojpkcegefgaaDoorAppend
namespace Go.Proofs.YtifojpkcegefgaaDoor
open Go.ChangeShapes Go.WideShapes Go.ChangeAt Go.RowKit
set_option linter.unusedVariables false

set_option maxRecDepth 100000 in
set_option maxHeartbeats 4000000 in
theorem back_bad (c a : Tri) (b : Option Addr) (n cap : Nat) (w : World) (ht : Tab w) (fc : Fit c) (hn : n ≤ 200) (h : rightB c = false) : Calls Tryd.prog 7 #[c.v, a.v, .slice b n cap] w (Good w) := by
  have S0 := CA.start c a w
  have K23 := fun w => code_bad c w h
  have K10 := right_any c
  have K13 : ∀ W, Below w.heap.size w W → _ := fun W hb => show_any c fc W (tab_below ht hb)
  have K12 : ∀ W, Below w.heap.size w W → _ := fun W hb => lives_any W (tab_below ht hb)
  have hs : showT c = [63] := by unfold showT; rw [h]; rfl
  have q := eq_same [63]
  rw [h] at K10
  simp only [hs] at K13
  obtain ⟨o, k, v⟩ := c
  obtain ⟨o2, k2, v2⟩ := a
  have g : ¬ (200 : Int) < n := by omega
  have HS := Lib.hid S0
  have H13 := Lib.hid K13
  have H12 := Lib.hid K12
  clear S0 ht fc h hs K13 K12
  go_enter Tryd.func7, Tryd.ntmps7
  go_wp2_with fail
  refine (K23 _).mono ?_
  rintro e w1 ⟨rfl, hb⟩
  have HS1 := Lib.hid (HS.out.below hb)
  clear hb HS K23
  obtain ⟨c0, c1, c2, _⟩ := HS1.out.cells
  go_wp2_with fail
  refine (K10 _).mono ?_
  rintro e w2 ⟨rfl, hb⟩
  have HS2 := Lib.hid (HS1.out.below hb)
  clear hb HS1 K10 c0 c1 c2
  obtain ⟨c0, c1, c2, _⟩ := HS2.out.cells
  go_wp2_with fail
  refine (H13.out _ HS2.out.bel).mono ?_
  rintro e w3 ⟨rfl, hb⟩
  have HS3 := Lib.hid (HS2.out.below hb)
  clear hb HS2 H13 c0 c1 c2
  go_wp2_with fail
  refine (H12.out _ HS3.out.bel).mono ?_
  rintro e w4 ⟨rfl, hb⟩
  have HS4 := Lib.hid (HS3.out.below hb)
  clear hb HS3 H12
  go_wp2
  go_ret
  exact ⟨rfl, HS4.out.bel⟩

/-- What CallBack holds ahead of its great condition. -/
structure CK (c a : Tri) (w : World) (C A D B : Nat) (W : World) : Prop where
  hc : Blk W C 24 c.cs
  ha : Blk W A 26 a.cs
  hd : Blk W D 24 c.cs
  hb : Blk W B 5 (encB (codeBs c)).toArray
  bel : Below w.heap.size w W
theorem CK.below {c a : Tri} {w W V : World} {C A D B : Nat} (h : CK c a w C A D B W) (b : Below W.heap.size W V) : CK c a w C A D B V :=
  ⟨h.hc.below b h.hc.lt, h.ha.below b h.ha.lt, h.hd.below b h.hd.lt, h.hb.below b h.hb.lt, below_then h.bel b⟩
theorem CK.drew {c a : Tri} {w W : World} {C A D B : Nat} (h : CK c a w C A D B W) : CK c a w C A D B W.drew := ⟨h.hc.drew, h.ha.drew, h.hd.drew, h.hb.drew, below_drew h.bel⟩
theorem CK.cells {c a : Tri} {w W : World} {C A D B : Nat} (h : CK c a w C A D B W) : W.cell? ⟨C, 0, none⟩ = some (.int .i64 c.op) ∧ W.cell? ⟨C, 1, none⟩ = some (.int .u32 c.key) ∧ W.cell? ⟨C, 2, none⟩ = some (.int .u32 c.val) ∧
    W.cell? ⟨D, 0, none⟩ = some (.int .i64 c.op) ∧ W.cell? ⟨D, 1, none⟩ = some (.int .u32 c.key) ∧ W.cell? ⟨D, 2, none⟩ = some (.int .u32 c.val) := by
  obtain ⟨c0, c1, c2, _⟩ := blk_cells h.hc
  obtain ⟨a0, a1, a2, _⟩ := blk_cells h.hd
  exact ⟨c0, c1, c2, a0, a1, a2⟩
theorem CK.acells {c a : Tri} {w W : World} {C A D B : Nat} (h : CK c a w C A D B W) : W.cell? ⟨A, 0, none⟩ = some (.int .i64 a.op) ∧ W.cell? ⟨A, 1, none⟩ = some (.int .u32 a.key) ∧ W.cell? ⟨A, 2, none⟩ = some (.int .u32 a.val) := by
  obtain ⟨c0, c1, c2, _⟩ := blk_cells h.ha
  exact ⟨c0, c1, c2⟩
theorem show_len (c : Tri) (f : Fit c) : (showT c).length ≤ 100 := by
  obtain ⟨o, k, v⟩ := c
  obtain ⟨h1, h2, h3, h4⟩ := f
  simp only at h1 h2 h3 h4
  obtain ⟨k, rfl⟩ := Int.eq_ofNat_of_zero_le h1
  obtain ⟨v, rfl⟩ := Int.eq_ofNat_of_zero_le h3
  have := pairT_len (k := k) (v := v) (by omega) (by omega)
  unfold showT
  split
  · split
    · decide
    split
    · decide
    · simp [insT']; omega
  · decide
theorem tell_len (a : Tri) (f : Fit a) : (tellT a).length ≤ 100 := by
  obtain ⟨o, k, v⟩ := a
  obtain ⟨h1, h2, h3, h4⟩ := f
  simp only at h1 h2 h3 h4
  obtain ⟨k, rfl⟩ := Int.eq_ofNat_of_zero_le h1
  obtain ⟨v, rfl⟩ := Int.eq_ofNat_of_zero_le h3
  have := pairT_len (k := k) (v := v) (by omega) (by omega)
  unfold tellT
  split
  · split
    · decide
    split
    · decide
    split
    · decide
    · simp; omega
  · decide

set_option maxRecDepth 100000 in
set_option maxHeartbeats 16000000 in
theorem back_good (c a : Tri) (b : Option Addr) (n cap : Nat) (zs : List Int) (w : World) (ht : Tab w) (fc : Fit c) (fa : Fit a) (hr : Rd w b n cap zs) (hn : n ≤ 200) (h : rightB c = true) : Calls Tryd.prog 7 #[c.v, a.v, .slice b n cap] w (Good w) := by
  have S0 := CA.start c a w
  have K23 := fun w => code_good c fc w h
  have K10 := right_any c
  have K13 : ∀ W, Below w.heap.size w W → _ := fun W hb => show_any c fc W (tab_below ht hb)
  have K17 := fun w => parse_any (showT c) (by have := show_len c fc; omega) w
  have K15 : ∀ W, Below w.heap.size w W → _ := fun W hb => tell_any a fa W (tab_below ht hb)
  have K18 := fun w => read_any (tellT a) (by have := tell_len a fa; omega) w
  have K12 : ∀ W, Below w.heap.size w W → _ := fun W hb => lives_any W (tab_below ht hb)
  have KD := fun a' n' cap' W (hR : Rd W a' n' cap' (codeBs c ++ zs)) => decode_any a' n' cap' _ W hR
  have hdec := decT_code c fc h zs
  have q1 := eq_self 24 (.inl rfl) c
  have HX := Lib.hid (code_bytes c h)
  have HR := Lib.hid hr
  rw [parseL_show fc h] at K17
  rw [h] at K10
  rw [hdec] at KD
  simp only [optV] at K17
  have g : ¬ (200 : Int) < n := by omega
  clear hdec h hr ht
  obtain ⟨o, k, v⟩ := c
  obtain ⟨o2, k2, v2⟩ := a
  simp only [Tri.v] at K17 K10 KD q1
  have HS := Lib.hid S0
  have H12 := Lib.hid K12
  have H13 := Lib.hid K13
  have H15 := Lib.hid K15
  have H17 := Lib.hid K17
  have H18 := Lib.hid K18
  have HD := Lib.hid KD
  clear S0 K12 K13 K15 K17 K18 KD
  go_enter Tryd.func7, Tryd.ntmps7
  go_wp2_with fail
  refine (K23 _).mono ?_
  rintro e w1 ⟨B, rfl, hBl, hbk, hb⟩
  have HS1 := Lib.hid (HS.out.below hb)
  have HB1 := Lib.hid hbk
  clear hb HS K23 hbk hBl
  obtain ⟨c0, c1, c2, _⟩ := HS1.out.cells
  go_wp2_with fail
  refine (K10 _).mono ?_
  rintro e w2 ⟨rfl, hb⟩
  have HS2 := Lib.hid (HS1.out.below hb)
  have HB2 := Lib.hid (HB1.out.below hb HB1.out.lt)
  clear hb HS1 HB1 K10 c0 c1 c2
  obtain ⟨c0, c1, c2, _⟩ := HS2.out.cells
  go_wp2_with fail
  refine (H13.out _ HS2.out.bel).mono ?_
  rintro e w3 ⟨rfl, hb⟩
  have HS3 := Lib.hid (HS2.out.below hb)
  have HB3 := Lib.hid (HB2.out.below hb HB2.out.lt)
  clear hb HS2 HB2 H13 c0 c1 c2
  go_wp2_with fail
  refine (H17.out _).mono ?_
  rintro e w4 ⟨rfl, hb⟩
  have HS4 := Lib.hid (HS3.out.below hb)
  have HB4 := Lib.hid (HB3.out.below hb HB3.out.lt)
  clear hb HS3 HB3 H17
  go_wp2_with fail
  have S : CK ⟨o, k, v⟩ ⟨o2, k2, v2⟩ w w.heap.size (w.heap.size + 1) w4.heap.size B (w4.alloc (.cells #[.int .i64 o, .int .u32 k, .int .u32 v] 24)) :=
    ⟨HS4.out.hc.alloc _, HS4.out.ha.alloc _, Blk.new _ _ _, HB4.out.alloc _, HS4.out.bel.alloc HS4.out.bel.size _⟩
  clear HS4 HB4
  generalize hV : w4.alloc (.cells #[.int .i64 o, .int .u32 k, .int .u32 v] 24) = V at *
  generalize hD : w4.heap.size = D at *
  have HV := Lib.hid hV
  have HDD := Lib.hid hD
  clear hV hD
  have S' := S.drew
  obtain ⟨c0, c1, c2, d0, d1, d2⟩ := S.cells
  clear S
  go_region_held3 (fun W => W.cell? ⟨w.heap.size, 0, none⟩ = some (.int .i64 o) ∧ W.cell? ⟨w.heap.size, 1, none⟩ = some (.int .u32 k) ∧ W.cell? ⟨w.heap.size, 2, none⟩ = some (.int .u32 v) ∧ W.cell? ⟨D, 0, none⟩ = some (.int .i64 o) ∧ W.cell? ⟨D, 1, none⟩ = some (.int .u32 k) ∧ W.cell? ⟨D, 2, none⟩ = some (.int .u32 v)) (first | exact CK.cells (c := ⟨o, k, v⟩) (a := ⟨o2, k2, v2⟩) (w := w) (C := w.heap.size) (A := w.heap.size + 1) (D := D) (B := B) (by assumption) | go_keep)
    (first
      | (refine step_append_bytes (by rfl) _ _ rfl rfl B (codeBs ⟨o, k, v⟩) zs b n cap (by rfl) (by rfl) (CK.hb (c := ⟨o, k, v⟩) (a := ⟨o2, k2, v2⟩) (w := w) (C := w.heap.size) (A := w.heap.size + 1) (D := D) (B := B) (by assumption)) rfl HX.out (Rd.below HR.out (CK.bel (c := ⟨o, k, v⟩) (a := ⟨o2, k2, v2⟩) (w := w) (C := w.heap.size) (A := w.heap.size + 1) (D := D) (B := B) (by assumption))) hn ?_; intro a' cap' W' hRd hb; have S' := CK.below (c := ⟨o, k, v⟩) (a := ⟨o2, k2, v2⟩) (w := w) (C := w.heap.size) (A := w.heap.size + 1) (D := D) (B := B) (by assumption) hb; clear hb)
      | (go_at_call 21; refine (HD.out _ _ _ _ (by assumption)).mono ?_; rintro e V' ⟨rfl, hb⟩; have S' := CK.below (c := ⟨o, k, v⟩) (a := ⟨o2, k2, v2⟩) (w := w) (C := w.heap.size) (A := w.heap.size + 1) (D := D) (B := B) (by assumption) hb; clear hb))
  have HZ := Lib.hid S'
  clear S' c0 c1 c2 d0 d1 d2 hRd HD HR HX
  obtain ⟨a0, a1, a2⟩ := HZ.out.acells
  go_wp2_with fail
  refine (H15.out _ HZ.out.bel).mono ?_
  rintro e w5 ⟨rfl, hb⟩
  have HZ5 := Lib.hid (HZ.out.below hb)
  clear hb HZ H15 a0 a1 a2
  go_wp2_with fail
  refine (H18.out _).mono ?_
  rintro e w6 ⟨rfl, hb⟩
  have HZ6 := Lib.hid (HZ5.out.below hb)
  clear hb HZ5 H18
  obtain ⟨a0, a1, a2⟩ := HZ6.out.acells
  have hlt := HZ6.out.ha.lt
  have q := eq_str (tellT ⟨o2, k2, v2⟩) [63]
  cases hm : mayB ⟨o2, k2, v2⟩ with
  | true =>
    have e1 := readL_tell fa hm
    have hne : (tellT ⟨o2, k2, v2⟩ == [63]) = false := by
      apply beqL_f
      intro e
      rw [e] at e1
      have e2 : readL [63] = none := rfl
      rw [e2] at e1
      cases e1
    rw [e1]
    rw [hne] at q
    have q2 := eq_self 26 (.inr rfl) ⟨o2, k2, v2⟩
    have L := H12.out (w6.alloc (.cells #[.int .i64 o2, .int .u32 k2, .int .u32 v2] 26)) (HZ6.out.bel.alloc HZ6.out.bel.size _)
    have HE := Lib.hid (HZ6.out.bel.alloc HZ6.out.bel.size (.cells #[.int .i64 o2, .int .u32 k2, .int .u32 v2] 26))
    have HL := Lib.hid L
    simp only [optV]
    simp only [Tri.v] at q2
    clear e1 L H12 fa
    generalize tellT ⟨o2, k2, v2⟩ = tx at *
    go_wp2_with fail
    refine HL.out.mono ?_
    rintro e w7 ⟨rfl, hb⟩
    have HF := Lib.hid (below_then HE.out hb)
    clear hb HL HE
    go_wp2
    go_ret
    exact ⟨rfl, HF.out⟩
  | false =>
    have e0 : tellT ⟨o2, k2, v2⟩ = [63] := by unfold tellT; rw [hm]; rfl
    have e1 : readL [63] = none := rfl
    rw [e0, e1]
    rw [e0, beq_self_eq_true] at q
    have HE := Lib.hid (HZ6.out.bel.alloc HZ6.out.bel.size (.cells #[.int .i64 0, .int .u32 0, .int .u32 0] 26))
    have HL := Lib.hid (H12.out _ HE.out)
    simp only [optV]
    clear e1 e0 H12 fa
    go_wp2_with fail
    refine HL.out.mono ?_
    rintro e w7 ⟨rfl, hb⟩
    have HF := Lib.hid (below_then HE.out hb)
    clear hb HL HE
    go_wp2
    go_ret
    exact ⟨rfl, HF.out⟩

set_option maxRecDepth 100000 in
theorem callBack_walk (c a : Tri) (b : Option Addr) (n cap : Nat) (zs : List Int) (w : World) (ht : Tab w) (fc : Fit c) (oc : -9223372036854775808 ≤ c.op ∧ c.op ≤ 9223372036854775807) (fa : Fit a) (oa : -9223372036854775808 ≤ a.op ∧ a.op ≤ 9223372036854775807)
    (w0 : IsRow .u8 w b n cap zs) : Calls Tryd.prog 7 #[c.v, a.v, .slice b n cap] w (Good w) := by
  have R := rd_of w0
  by_cases h : n ≤ 200
  · cases hr : rightB c with
    | false => exact back_bad c a b n cap w ht fc h hr
    | true => exact back_good c a b n cap _ w ht fc fa R h hr
  · have hm := R.room
    unfold maxLen at hm
    have hn : (200 : Int) < n := by omega
    have S0 := CA.start c a w
    have HL := Lib.hid (fun W (hb : Below w.heap.size w W) => lives_any W (tab_below ht hb))
    obtain ⟨o, k, v⟩ := c
    obtain ⟨o2, k2, v2⟩ := a
    have HS := Lib.hid S0
    clear S0 ht fc oc fa oa w0 R
    go_enter Tryd.func7, Tryd.ntmps7
    go_wp2_with fail
    refine (HL.out _ HS.out.bel).mono ?_
    rintro e w1 ⟨rfl, hb⟩
    have HF := Lib.hid (below_then HS.out.bel hb)
    clear hb HL HS
    go_wp2
    go_ret
    exact ⟨rfl, HF.out⟩
end Go.Proofs.YtifojpkcegefgaaDoor
