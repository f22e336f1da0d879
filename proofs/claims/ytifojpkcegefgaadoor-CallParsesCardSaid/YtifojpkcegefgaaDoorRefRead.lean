/- The document's Read. -/
import Derived.Test.YtifojpkcegefgaaDoorRefParse
namespace Go.Proofs.YtifojpkcegefgaaDoor
open Go.ChangeShapes Go.WideShapes Go.ChangeAt Go.RowKit
set_option linter.unusedVariables false

/-- l is the text of no answer without numbers. -/
def NoWord (l : List UInt8) : Prop := ¬ l = tellT ⟨0, 0, 0⟩ ∧ ¬ l = tellT ⟨1, 0, 0⟩ ∧ ¬ l = tellT ⟨3, 0, 0⟩
theorem read_nums {l : List UInt8} {c : Tri} (h0 : NoWord l) (h : readL l = some c) : ∃ k v : Nat, c = ⟨2, k, v⟩ ∧ numsL l = [k, v] ∧ k < 4294967296 ∧ v < 4294967296 ∧ l = tellT c := by
  obtain ⟨f, hr, hs⟩ := readL_sound h
  obtain ⟨o, k, v⟩ := c
  obtain ⟨a1, a2, a3, a4⟩ := f
  simp only at a1 a2 a3 a4
  obtain ⟨k, rfl⟩ := Int.eq_ofNat_of_zero_le a1
  obtain ⟨v, rfl⟩ := Int.eq_ofNat_of_zero_le a3
  simp [mayB, bare] at hr
  obtain ⟨h1, h2, h3⟩ := h0
  rcases hr with rfl | ⟨(rfl | rfl) | rfl, h4, h5⟩
  · refine ⟨k, v, rfl, ?_, by omega, by omega, hs.symm⟩
    have : tellT ⟨2, (k : Int), (v : Int)⟩ = pairT k v := by simp [tellT, mayB]
    rw [← hs, this]
    exact numsL_text (by omega) (by omega)
  · exact absurd (by rw [← hs]; subst_vars; rfl) h1
  · exact absurd (by rw [← hs]; subst_vars; rfl) h2
  · exact absurd (by rw [← hs]; subst_vars; rfl) h3
theorem read_back {l : List UInt8} {k v : Nat} (hk : k < 4294967296) (hv : v < 4294967296) (h : tellT ⟨2, k, v⟩ = l) : readL l = some ⟨2, k, v⟩ := by
  rw [← h]
  exact readL_tell ⟨by simp, by simp; omega, by simp, by simp; omega⟩ rfl
theorem read_word {l : List UInt8} {o : Int} (ho : o = 0 ∨ o = 1 ∨ o = 3) (h : tellT ⟨o, 0, 0⟩ = l) : readL l = some ⟨o, 0, 0⟩ := by
  rw [← h]
  exact readL_tell ⟨by simp, by simp, by simp, by simp⟩ (by rcases ho with rfl | rfl | rfl <;> rfl)
/-- What the loop of Read keeps. -/
structure RD (w : World) (l : List UInt8) (k : Nat) (W : World) : Prop where
  res : Blk W w.heap.size 26 #[.int .i64 0, .int .u32 0, .int .u32 0]
  bel : Below w.heap.size w W
  no : ∀ j : Nat, j < k → j ≠ 2 → ¬ tellT ⟨j, 0, 0⟩ = l

set_option maxRecDepth 100000 in
set_option maxHeartbeats 8000000 in
theorem refRead_any (l : List UInt8) (hl : l.length ≤ 100000) (w : World) : Calls Tryd.prog 20 #[strV l] w fun e w' => e = .returned (refV (readL l)) ∧ Below w.heap.size w w' := by
  have K29 := fun w => numbers_any l hl w
  have fin : ∀ o, readL l = o → ∀ e w', e = Ending.returned (refV o) → Below w.heap.size w w' → (e = .returned (refV (readL l)) ∧ Below w.heap.size w w') := by
    intro o h e w' h1 h2
    rw [h]
    exact ⟨h1, h2⟩
  have HF := Lib.hid fin
  have HY := Lib.hid (fun k v a b => @read_back l k v a b)
  have S0 : Hid (RD w l 0 (w.alloc (.cells #[.int .i64 0, .int .u32 0, .int .u32 0] 26))) := Lib.hid ⟨zero_blk w 26, (Below.refl w.heap.size w).alloc (Nat.le_refl _) _, fun j hj => absurd hj (by omega)⟩
  have HK29 := Lib.hid K29
  clear fin K29
  go_enter Tryd.func20, Tryd.ntmps20
  go_wp2
  go_loopw [4] (fun i wr => ∃ k : Nat, k ≤ 4 ∧ i = .int .i64 k ∧ Hid (RD w l k wr)) (fun i _ => 4 - (intOf i).toNat)
  case atStart => exact ⟨0, by omega, rfl, S0⟩
  case round =>
    obtain ⟨k, hk, rfl, HS⟩ := hrel
    clear S0
    by_cases h4 : k < 4
    · have g4 : (k : Int) < 4 := by omega
      have hi := IntWalk.i64_in ((k : Int) + 1) (by omega)
      by_cases h2 : k = 2
      · have g2 : ((k : Int) == 2) = true := beq_t (by omega)
        have HS2 : Hid (RD w l (k + 1) wr) := Lib.hid ⟨HS.out.res, HS.out.bel, fun j hj hj2 => HS.out.no j (by omega) hj2⟩
        go_wp2
        go_roundw
        case rel => exact ⟨k + 1, by omega, by go_num, HS2⟩
        case measure => simp [intOf]; omega
      · have g2 : ((k : Int) == 2) = false := beq_f (by omega)
        have K16 := fun W => refTell_any ⟨k, 0, 0⟩ ⟨by simp, by simp, by simp, by simp⟩ W
        simp only [Tri.v] at K16
        have q := fun W => eq_str (tellT ⟨k, 0, 0⟩) l W
        go_wp2_with fail
        refine (K16 _).mono ?_
        rintro e w2 ⟨rfl, hb⟩
        have hB2 := below_then HS.out.bel hb
        have hK2 := HS.out.res.below hb HS.out.res.lt
        clear K16 hb
        by_cases heq : tellT ⟨k, 0, 0⟩ = l
        · have q4 : (tellT ⟨(k : Int), 0, 0⟩ == l) = true := beqL_t heq
          have HE := Lib.hid (HF.out _ (read_word (o := (k : Int)) (by omega) heq))
          obtain ⟨c0, c1, c2, f0, f1, f2⟩ := blk_cells hK2
          obtain ⟨n0, n1, n2, _⟩ := blk_cells (put3_blk hK2 ⟨k, 0, 0⟩)
          have Z0 := Lib.hid n0
          have Z1 := Lib.hid n1
          have Z2 := Lib.hid n2
          have HZ := Lib.hid (put3_below hB2 (Nat.le_refl _) ⟨k, 0, 0⟩)
          clear n0 n1 n2 HF hB2 hK2 heq HS HY
          generalize tellT ⟨(k : Int), 0, 0⟩ = t at *
          go_wp2
          exact bodyPost_ret (v := refV (some ⟨k, 0, 0⟩)) (by simp [results, Tryd.results20, go_sem, refV, Z0.out, Z1.out, Z2.out]) rfl (HE.out _ _ rfl HZ.out)
        · have q4 : (tellT ⟨(k : Int), 0, 0⟩ == l) = false := beqL_f heq
          have HS2 : Hid (RD w l (k + 1) w2) := Lib.hid ⟨hK2, hB2, fun j hj hj2 => by
            rcases Nat.lt_or_ge j k with h | h
            · exact HS.out.no j h hj2
            · obtain rfl : j = k := by omega
              exact heq⟩
          clear HF hB2 hK2 heq HS HY HK29
          generalize tellT ⟨(k : Int), 0, 0⟩ = t at *
          go_wp2
          go_roundw
          case rel => exact ⟨k + 1, by omega, by go_num, HS2⟩
          case measure => simp [intOf]; omega
    · have hk4 : k = 4 := by omega
      have g4 : ¬ (k : Int) < 4 := by omega
      have hno : NoWord l := ⟨fun e => HS.out.no 0 (by omega) (by omega) e.symm, fun e => HS.out.no 1 (by omega) (by omega) e.symm, fun e => HS.out.no 3 (by omega) (by omega) e.symm⟩
      have HX := Lib.hid (fun c => @read_nums l c hno)
      have b0 := HS.out.bel
      have k0 := HS.out.res
      have K29 := HK29.out
      clear HS hno HK29
      go_wp2_with fail
      refine (K29 _).mono ?_
      rintro e w1 ⟨vv, rfl, hN⟩
      have b1 := below_then b0 hN.bel
      have k1 := k0.below hN.bel k0.lt
      have HB := Lib.hid b1
      have HK := Lib.hid k1
      clear b0 k0 b1 k1 K29
      obtain ⟨c0, c1, c2, f0, f1, f2⟩ := blk_cells HK.out
      have hlt := HK.out.lt
      obtain ⟨n0, n1, n2, _⟩ := blk_cells (put3_blk HK.out ⟨0, 0, 0⟩)
      have Z0 := Lib.hid n0
      have Z1 := Lib.hid n1
      have Z2 := Lib.hid n2
      have HZ := Lib.hid (put3_below HB.out (Nat.le_refl _) ⟨0, 0, 0⟩)
      clear n0 n1 n2
      by_cases hlen : (numsL l).length = 2
      · obtain ⟨x, y, hxy⟩ : ∃ x y, numsL l = [x, y] := by
          match h : numsL l, hlen with
          | [x, y], _ => exact ⟨x, y, rfl⟩
        rw [hxy] at hN
        obtain ⟨g, off, cap, rfl, hle, hmx, hcell, _⟩ := hN.row.at_ (by simp)
        have d0 := hcell 0 (by simp)
        have d1 := hcell 1 (by simp)
        have hl0 : x < 10995116277770 := hN.low x (by simp)
        have hl1 : y < 10995116277770 := hN.low y (by simp)
        simp [encU] at d0 d1
        have hgl : g < w1.heap.size := World.block_lt_of_cell? w1 _ d0
        unfold maxLen at hmx
        simp only [List.length_cons, List.length_nil, Nat.zero_add, Nat.reduceAdd] at hle hcell ⊢
        clear hN hcell hlen
        by_cases hx : 4294967295 < x
        · have hn : readL l = none := none_of fun c hc => by
            obtain ⟨k, v, _, hkv, hk, hv, _⟩ := HX.out c hc
            rw [hxy] at hkv
            simp at hkv
            omega
          have HE := Lib.hid (HF.out none hn)
          have hxi : (4294967295 : Int) < x := by omega
          clear hn hxy HX HY HF HB HK
          go_wp2
          exact bodyPost_ret (v := refV none) (by simp [results, Tryd.results20, go_sem, refV, Z0.out, Z1.out, Z2.out]) rfl (HE.out _ _ rfl HZ.out)
        have hxi : ¬ (4294967295 : Int) < x := by omega
        by_cases hy : 4294967295 < y
        · have hn : readL l = none := none_of fun c hc => by
            obtain ⟨k, v, _, hkv, hk, hv, _⟩ := HX.out c hc
            rw [hxy] at hkv
            simp at hkv
            omega
          have HE := Lib.hid (HF.out none hn)
          have hyi : (4294967295 : Int) < y := by omega
          clear hn hxy HX HY HF HB HK
          go_wp2
          exact bodyPost_ret (v := refV none) (by simp [results, Tryd.results20, go_sem, refV, Z0.out, Z1.out, Z2.out]) rfl (HE.out _ _ rfl HZ.out)
        have hyi : ¬ (4294967295 : Int) < y := by omega
        have wx : IntKind.u32.wrap (x : Int) = (x : Int) := IntWalk.u32_in _ (by omega)
        have wy : IntKind.u32.wrap (y : Int) = (y : Int) := IntWalk.u32_in _ (by omega)
        have K16 := fun W => refTell_any ⟨2, x, y⟩ ⟨by simp, by simp; omega, by simp, by simp; omega⟩ W
        simp only [Tri.v] at K16
        have q3 := fun w => eq_str (tellT ⟨2, x, y⟩) l w
        have hbA : Below w1.heap.size w1 ((w1.alloc (.cells #[.int .i64 2, .int .u32 (x : Int), .int .u32 (y : Int)] 26)).drew) := below_drew ((Below.refl _ _).alloc (Nat.le_refl _) _)
        have hcA : Blk ((w1.alloc (.cells #[.int .i64 2, .int .u32 (x : Int), .int .u32 (y : Int)] 26)).drew) w1.heap.size 26 #[.int .i64 2, .int .u32 (x : Int), .int .u32 (y : Int)] := (Blk.new _ _ _).drew
        have HA := Lib.hid hbA
        have HCA := Lib.hid hcA
        clear hbA hcA Z0 Z1 Z2 HZ
        go_wp2_with fail
        go_region
        go_wp2_with fail
        refine (K16 _).mono ?_
        rintro e w2 ⟨rfl, hb⟩
        have hb2 := below_then HA.out hb
        have hB2 := HB.out.trans (hb2.mono HB.out.size)
        have hK2 := HK.out.below hb2 HK.out.lt
        have hC2 := HCA.out.below hb HCA.out.lt
        clear K16 hb HA HCA HB HK c0 c1 c2 f0 f1 f2 d0 d1 hgl hlt
        obtain ⟨c0, c1, c2, f0, f1, f2⟩ := blk_cells hK2
        obtain ⟨d0, d1, d2, _⟩ := blk_cells hC2
        have hcl := hC2.lt
        have hkl := hK2.lt
        by_cases heq : tellT ⟨2, x, y⟩ = l
        · have q4 : (tellT ⟨2, (x : Int), (y : Int)⟩ == l) = true := beqL_t heq
          have HE := Lib.hid (HF.out _ (HY.out x y (by omega) (by omega) heq))
          obtain ⟨n0, n1, n2, _⟩ := blk_cells (put3_blk hK2 ⟨2, x, y⟩)
          have Z0 := Lib.hid n0
          have Z1 := Lib.hid n1
          have Z2 := Lib.hid n2
          have HZ := Lib.hid (put3_below hB2 (Nat.le_refl _) ⟨2, x, y⟩)
          clear n0 n1 n2 HX HY HF hB2 hK2 hC2 hb2 hxy heq
          generalize tellT ⟨2, (x : Int), (y : Int)⟩ = t at *
          go_wp2
          exact bodyPost_ret (v := refV (some ⟨2, x, y⟩)) (by simp [results, Tryd.results20, go_sem, refV, Z0.out, Z1.out, Z2.out]) rfl (HE.out _ _ rfl HZ.out)
        · have q4 : (tellT ⟨2, (x : Int), (y : Int)⟩ == l) = false := beqL_f heq
          have hn : readL l = none := none_of fun c hc => by
            obtain ⟨k, v, hck, hkv, hk, hv, hsl⟩ := HX.out c hc
            rw [hxy] at hkv
            simp at hkv
            obtain ⟨rfl, rfl⟩ := hkv
            rw [hck] at hsl
            exact heq hsl.symm
          have HE := Lib.hid (HF.out none hn)
          obtain ⟨n0, n1, n2, _⟩ := blk_cells (put3_blk hK2 ⟨0, 0, 0⟩)
          have Z0 := Lib.hid n0
          have Z1 := Lib.hid n1
          have Z2 := Lib.hid n2
          have HZ := Lib.hid (put3_below hB2 (Nat.le_refl _) ⟨0, 0, 0⟩)
          clear n0 n1 n2 HX HY HF hB2 hK2 hC2 hb2 hxy heq hn
          generalize tellT ⟨2, (x : Int), (y : Int)⟩ = t at *
          go_wp2
          exact bodyPost_ret (v := refV none) (by simp [results, Tryd.results20, go_sem, refV, Z0.out, Z1.out, Z2.out]) rfl (HE.out _ _ rfl HZ.out)
      · have hn : readL l = none := none_of fun c hc => by
          obtain ⟨k, v, _, hkv, _⟩ := HX.out c hc
          rw [hkv] at hlen
          exact hlen rfl
        have HE := Lib.hid (HF.out none hn)
        obtain ⟨a, cap, rfl, hle, hmx⟩ := hN.row.form
        have hli : ¬ ((numsL l).length : Int) = 2 := by omega
        unfold maxLen at hmx
        clear hn HX HY HF HB HK hN
        generalize (numsL l).length = n at *
        go_wp2
        exact bodyPost_ret (v := refV none) (by simp [results, Tryd.results20, go_sem, refV, Z0.out, Z1.out, Z2.out]) rfl (HE.out _ _ rfl HZ.out)
end Go.Proofs.YtifojpkcegefgaaDoor
