/- The document's Parse. -/
import Derived.Test.YtifojpkcegefgaaDoorNumbers
namespace Go.Proofs.YtifojpkcegefgaaDoor
open Go.ChangeShapes Go.WideShapes Go.ChangeAt Go.RowKit
set_option linter.unusedVariables false

def refV (o : Option Tri) : Value := match o with | some c => .tuple #[c.v, .bool true] | none => .tuple #[Tri.v ⟨0, 0, 0⟩, .bool false]
theorem parse_nums {l : List UInt8} {c : Tri} (h1 : ¬ l = delT) (h2 : ¬ l = peekT) (h : parseL l = some c) : ∃ k v : Nat, c = ⟨0, k, v⟩ ∧ numsL l = [k, v] ∧ k < 4294967296 ∧ v < 4294967296 ∧ l = showT c := by
  obtain ⟨f, hr, hs⟩ := parseL_sound h
  obtain ⟨o, k, v⟩ := c
  obtain ⟨a1, a2, a3, a4⟩ := f
  simp only at a1 a2 a3 a4
  obtain ⟨k, rfl⟩ := Int.eq_ofNat_of_zero_le a1
  obtain ⟨v, rfl⟩ := Int.eq_ofNat_of_zero_le a3
  simp [rightB, bare] at hr
  rcases hr with rfl | ⟨rfl | rfl, h3, h4⟩
  · refine ⟨k, v, rfl, ?_, by omega, by omega, hs.symm⟩
    have : showT ⟨0, (k : Int), (v : Int)⟩ = insT' ++ pairT k v := by simp [showT, rightB]
    rw [← hs, this]
    exact numsL_ins (by omega) (by omega)
  · exact absurd (by rw [← hs]; subst_vars; rfl) h1
  · exact absurd (by rw [← hs]; subst_vars; rfl) h2
theorem parse_back {l : List UInt8} {k v : Nat} (hk : k < 4294967296) (hv : v < 4294967296) (h : showT ⟨0, k, v⟩ = l) : parseL l = some ⟨0, k, v⟩ := by
  rw [← h]
  exact parseL_show ⟨by simp, by simp; omega, by simp, by simp; omega⟩ rfl
theorem none_of {α : Type} {o : Option α} (h : ∀ c, o = some c → False) : o = none := by
  cases o with
  | none => rfl
  | some c => exact (h c rfl).elim

set_option maxRecDepth 100000 in
set_option maxHeartbeats 8000000 in
theorem refParse_any (l : List UInt8) (hl : l.length ≤ 100000) (w : World) : Calls Tryd.prog 19 #[strV l] w fun e w' => e = .returned (refV (parseL l)) ∧ Below w.heap.size w w' := by
  have K29 := fun w => numbers_any l hl w
  have q1 := fun w => eq_str l delT w
  have q2 := fun w => eq_str l peekT w
  have fin : ∀ o, parseL l = o → ∀ e w', e = Ending.returned (refV o) → Below w.heap.size w w' → (e = .returned (refV (parseL l)) ∧ Below w.heap.size w w') := by
    intro o h e w' h1 h2
    rw [h]
    exact ⟨h1, h2⟩
  have b0 := (Below.refl w.heap.size w).alloc (Nat.le_refl _) (.cells #[.int .i64 0, .int .u32 0, .int .u32 0] 24)
  have k0 := zero_blk w 24
  have hX := @parse_nums l
  have hY := fun k v a b => @parse_back l k v a b
  unfold delT at q1 hX
  unfold peekT at q2 hX
  by_cases h1 : l = [100, 101, 108, 101, 116, 101, 109, 105, 110]
  · have HE := Lib.hid (fin (some ⟨1, 0, 0⟩) (by rw [h1]; rfl))
    have e1 := beqL_t h1
    have HB := Lib.hid ((Below.refl w.heap.size w).alloc (Nat.le_refl _) (.cells #[.int .i64 1, .int .u32 0, .int .u32 0] 24))
    clear hX hY fin K29 q2 h1 b0 k0
    go_enter Tryd.func19, Tryd.ntmps19
    go_wp2
    exact bodyPost_ret (v := refV (some ⟨1, 0, 0⟩)) (by simp [results, Tryd.results19, go_sem, refV]) rfl (HE.out _ _ rfl HB.out)
  have e1 := beqL_f h1
  by_cases h2 : l = [112, 101, 101, 107, 109, 105, 110]
  · have HE := Lib.hid (fin (some ⟨2, 0, 0⟩) (by rw [h2]; rfl))
    have e2 := beqL_t h2
    have HB := Lib.hid ((Below.refl w.heap.size w).alloc (Nat.le_refl _) (.cells #[.int .i64 2, .int .u32 0, .int .u32 0] 24))
    clear hX hY fin K29 h1 h2 b0 k0
    go_enter Tryd.func19, Tryd.ntmps19
    go_wp2
    exact bodyPost_ret (v := refV (some ⟨2, 0, 0⟩)) (by simp [results, Tryd.results19, go_sem, refV]) rfl (HE.out _ _ rfl HB.out)
  have e2 := beqL_f h2
  have hX2 := fun c => @hX c h1 h2
  have HF := Lib.hid fin
  have HX := Lib.hid hX2
  have HY := Lib.hid hY
  clear hX hX2 hY fin h1 h2
  go_enter Tryd.func19, Tryd.ntmps19
  go_wp2_with fail
  refine (K29 _).mono ?_
  rintro e w1 ⟨vv, rfl, hN⟩
  have b1 := below_then b0 hN.bel
  have k1 := k0.below hN.bel k0.lt
  have HB := Lib.hid b1
  have HK := Lib.hid k1
  clear b0 k0 b1 k1 K29
  obtain ⟨c0, c1, c2, f0, f1, f2⟩ := blk_cells HK.out
  have hlt := HK.out.lt
  obtain ⟨n0, n1, n2, _⟩ := blk_cells (put3_blk HK.out ⟨0, 0, 0⟩)
  have Z0 := Lib.hid n0
  have Z1 := Lib.hid n1
  have Z2 := Lib.hid n2
  have HZ := Lib.hid (put3_below HB.out (Nat.le_refl _) ⟨0, 0, 0⟩)
  clear n0 n1 n2
  by_cases hlen : (numsL l).length = 2
  · obtain ⟨x, y, hxy⟩ : ∃ x y, numsL l = [x, y] := by
      match h : numsL l, hlen with
      | [x, y], _ => exact ⟨x, y, rfl⟩
    rw [hxy] at hN
    obtain ⟨g, off, cap, rfl, hle, hmx, hcell, _⟩ := hN.row.at_ (by simp)
    have d0 := hcell 0 (by simp)
    have d1 := hcell 1 (by simp)
    have hl0 : x < 10995116277770 := hN.low x (by simp)
    have hl1 : y < 10995116277770 := hN.low y (by simp)
    simp [encU] at d0 d1
    have hgl : g < w1.heap.size := World.block_lt_of_cell? w1 _ d0
    unfold maxLen at hmx
    simp only [List.length_cons, List.length_nil, Nat.zero_add, Nat.reduceAdd] at hle hcell ⊢
    clear hN hcell hlen
    by_cases hx : 4294967295 < x
    · have hn : parseL l = none := none_of fun c hc => by
        obtain ⟨k, v, _, hkv, hk, hv, _⟩ := HX.out c hc
        rw [hxy] at hkv
        simp at hkv
        omega
      have HE := Lib.hid (HF.out none hn)
      have hxi : (4294967295 : Int) < x := by omega
      clear hn hxy HX HY HF HB HK
      go_wp2
      exact bodyPost_ret (v := refV none) (by simp [results, Tryd.results19, go_sem, refV, Z0.out, Z1.out, Z2.out]) rfl (HE.out _ _ rfl HZ.out)
    have hxi : ¬ (4294967295 : Int) < x := by omega
    by_cases hy : 4294967295 < y
    · have hn : parseL l = none := none_of fun c hc => by
        obtain ⟨k, v, _, hkv, hk, hv, _⟩ := HX.out c hc
        rw [hxy] at hkv
        simp at hkv
        omega
      have HE := Lib.hid (HF.out none hn)
      have hyi : (4294967295 : Int) < y := by omega
      clear hn hxy HX HY HF HB HK
      go_wp2
      exact bodyPost_ret (v := refV none) (by simp [results, Tryd.results19, go_sem, refV, Z0.out, Z1.out, Z2.out]) rfl (HE.out _ _ rfl HZ.out)
    have hyi : ¬ (4294967295 : Int) < y := by omega
    have wx : IntKind.u32.wrap (x : Int) = (x : Int) := IntWalk.u32_in _ (by omega)
    have wy : IntKind.u32.wrap (y : Int) = (y : Int) := IntWalk.u32_in _ (by omega)
    have K14 := fun W => refShow_any ⟨0, x, y⟩ ⟨by simp, by simp; omega, by simp, by simp; omega⟩ W
    simp only [Tri.v] at K14
    have q3 := fun w => eq_str (showT ⟨0, x, y⟩) l w
    have hbA : Below w1.heap.size w1 ((w1.alloc (.cells #[.int .i64 0, .int .u32 (x : Int), .int .u32 (y : Int)] 24)).drew) := below_drew ((Below.refl _ _).alloc (Nat.le_refl _) _)
    have hcA : Blk ((w1.alloc (.cells #[.int .i64 0, .int .u32 (x : Int), .int .u32 (y : Int)] 24)).drew) w1.heap.size 24 #[.int .i64 0, .int .u32 (x : Int), .int .u32 (y : Int)] := (Blk.new _ _ _).drew
    have HA := Lib.hid hbA
    have HCA := Lib.hid hcA
    clear hbA hcA Z0 Z1 Z2 HZ
    go_wp2_with fail
    go_region
    go_wp2_with fail
    refine (K14 _).mono ?_
    rintro e w2 ⟨rfl, hb⟩
    have hb2 := below_then HA.out hb
    have hB2 := HB.out.trans (hb2.mono HB.out.size)
    have hK2 := HK.out.below hb2 HK.out.lt
    have hC2 := HCA.out.below hb HCA.out.lt
    clear K14 hb HA HCA HB HK c0 c1 c2 f0 f1 f2 d0 d1 hgl hlt
    obtain ⟨c0, c1, c2, f0, f1, f2⟩ := blk_cells hK2
    obtain ⟨d0, d1, d2, _⟩ := blk_cells hC2
    have hcl := hC2.lt
    have hkl := hK2.lt
    by_cases heq : showT ⟨0, x, y⟩ = l
    · have q4 : (showT ⟨0, (x : Int), (y : Int)⟩ == l) = true := beqL_t heq
      have HE := Lib.hid (HF.out _ (HY.out x y (by omega) (by omega) heq))
      obtain ⟨n0, n1, n2, _⟩ := blk_cells (put3_blk hK2 ⟨0, x, y⟩)
      have Z0 := Lib.hid n0
      have Z1 := Lib.hid n1
      have Z2 := Lib.hid n2
      have HZ := Lib.hid (put3_below hB2 (Nat.le_refl _) ⟨0, x, y⟩)
      clear n0 n1 n2 HX HY HF hB2 hK2 hC2 hb2 hxy heq
      generalize showT ⟨0, (x : Int), (y : Int)⟩ = t at *
      go_wp2
      exact bodyPost_ret (v := refV (some ⟨0, x, y⟩)) (by simp [results, Tryd.results19, go_sem, refV, Z0.out, Z1.out, Z2.out]) rfl (HE.out _ _ rfl HZ.out)
    · have q4 : (showT ⟨0, (x : Int), (y : Int)⟩ == l) = false := beqL_f heq
      have hn : parseL l = none := none_of fun c hc => by
        obtain ⟨k, v, hck, hkv, hk, hv, hsl⟩ := HX.out c hc
        rw [hxy] at hkv
        simp at hkv
        obtain ⟨rfl, rfl⟩ := hkv
        rw [hck] at hsl
        exact heq hsl.symm
      have HE := Lib.hid (HF.out none hn)
      obtain ⟨n0, n1, n2, _⟩ := blk_cells (put3_blk hK2 ⟨0, 0, 0⟩)
      have Z0 := Lib.hid n0
      have Z1 := Lib.hid n1
      have Z2 := Lib.hid n2
      have HZ := Lib.hid (put3_below hB2 (Nat.le_refl _) ⟨0, 0, 0⟩)
      clear n0 n1 n2 HX HY HF hB2 hK2 hC2 hb2 hxy heq hn
      generalize showT ⟨0, (x : Int), (y : Int)⟩ = t at *
      go_wp2
      exact bodyPost_ret (v := refV none) (by simp [results, Tryd.results19, go_sem, refV, Z0.out, Z1.out, Z2.out]) rfl (HE.out _ _ rfl HZ.out)
  · have hn : parseL l = none := none_of fun c hc => by
      obtain ⟨k, v, _, hkv, _⟩ := HX.out c hc
      rw [hkv] at hlen
      exact hlen rfl
    have HE := Lib.hid (HF.out none hn)
    obtain ⟨a, cap, rfl, hle, hmx⟩ := hN.row.form
    have hli : ¬ ((numsL l).length : Int) = 2 := by omega
    unfold maxLen at hmx
    clear hn HX HY HF HB HK hN
    generalize (numsL l).length = n at *
    go_wp2
    exact bodyPost_ret (v := refV none) (by simp [results, Tryd.results19, go_sem, refV, Z0.out, Z1.out, Z2.out]) rfl (HE.out _ _ rfl HZ.out)
end Go.Proofs.YtifojpkcegefgaaDoor
