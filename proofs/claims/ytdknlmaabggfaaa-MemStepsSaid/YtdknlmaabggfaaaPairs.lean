/- The walk of MemPairs. -/
import Derived.Test.YtdknlmaabggfaaaRef
namespace Go.Proofs.Ytdknlmaabggfaaa
open Go.ChangeShapes Go.WideShapes Go.ChangeAt Go.RowKit
set_option linter.unusedVariables false

/-- The memory s is one's own: nothing that lay in w0 has turned. -/
def Mine (w0 : World) (B : Nat) (s : MS) (W : World) : Prop := ∃ O, MemAt B s O W ∧ Below w0.heap.size w0 W ∧ ∀ k, O k → w0.heap.size ≤ k
theorem Mine.turn {w0 : World} {B : Nat} {s' : MS} {O : Nat → Prop} {W W' : World} (hB : Below w0.heap.size w0 W) (hO : ∀ k, O k → w0.heap.size ≤ k) (h : Turn B s' O W W') : Mine w0 B s' W' := by
  obtain ⟨O', hk, hl, hm⟩ := h
  exact ⟨O', hm, hB.trans (hk.below hB.size hO), fun k hk => (hl k hk).elim (hO k) (fun h => Nat.le_trans hB.size h)⟩
theorem counted_off (ws : List Int) (st : Int) (log : List Acc) (x : Acc) : MS.counted ⟨ws, st, false, log⟩ x = ⟨ws, st + 1, false, log⟩ := by simp [MS.counted]
theorem fill_step (ws : List Int) (n i : Nat) (hn : ws.length = n) (hi : i < n) : (ws.take i ++ List.replicate (n - i) (0 : Int)).set i (wordAt ws i) = ws.take (i + 1) ++ List.replicate (n - (i + 1)) 0 := by
  rw [List.set_append_right _ _ (by simp; omega)]
  have e1 : i - (ws.take i).length = 0 := by simp; omega
  have e2 : n - i = (n - (i + 1)) + 1 := by omega
  have e3 : wordAt ws i = ws[i]'(by omega) := by simp [wordAt, List.getElem?_eq_getElem (show i < ws.length by omega)]
  rw [e1, e2, List.replicate_succ, List.set_cons_zero, List.take_add_one, List.getElem?_eq_getElem (by omega), e3]
  show _ = (ws.take i ++ [ws[i]'(by omega)]) ++ _
  rw [List.append_assoc]
  rfl
theorem fill_done (ws : List Int) (n : Nat) (hn : ws.length = n) : ws.take n ++ List.replicate (n - n) (0 : Int) = ws := by
  simp [← hn]
theorem fill_len (ws : List Int) (n i : Nat) (hn : ws.length = n) (hi : i ≤ n) : (ws.take i ++ List.replicate (n - i) (0 : Int)).length = n := by
  simp; omega
theorem wordAt_self {ws : List Int} {a : Nat} (ha : a < ws.length) (x : Int) : wordAt (ws.set a x) a = x := by simp [wordAt, ha]
theorem wordAt_ne {ws : List Int} {a j : Nat} (h : j ≠ a) (x : Int) : wordAt (ws.set a x) j = wordAt ws j := by
  simp [wordAt, Ne.symm h]
theorem row_form {W : World} {n0 : Nat} {e : TypeId} {size n : Nat} {v : Value} {xs : List Value} (h : W.ownsRow n0 e size v n xs) (hn : 0 < n) : ∃ g cp, v = .slice (some ⟨g, 0, none⟩) n cp ∧ n ≤ cp ∧ cp ≤ 9223372036854775807 := by
  rcases h.2 with ⟨_, h0⟩ | ⟨g, cap, cur, hv, _, _, h1, h2, _⟩
  · omega
  · exact ⟨g, cap, hv, h1, h2⟩
theorem box_cells {W : World} {X : Nat} {k a b o x p q : Int} (h : Blk W X 33 #[.int .i64 k, .int .i64 a, .int .i64 b, .int .u64 o, .int .u64 x, .int .u64 p, .int .u64 q]) :
    W.cell? ⟨X, 0, none⟩ = some (.int .i64 k) ∧ W.cell? ⟨X, 1, none⟩ = some (.int .i64 a) ∧ W.cell? ⟨X, 2, none⟩ = some (.int .i64 b) ∧ W.cell? ⟨X, 3, none⟩ = some (.int .u64 o) ∧
    W.cell? ⟨X, 4, none⟩ = some (.int .u64 x) ∧ W.cell? ⟨X, 5, none⟩ = some (.int .u64 p) ∧ W.cell? ⟨X, 6, none⟩ = some (.int .u64 q) :=
  ⟨by rw [h.cell]; rfl, by rw [h.cell]; rfl, by rw [h.cell]; rfl, by rw [h.cell]; rfl, by rw [h.cell]; rfl, by rw [h.cell]; rfl, by rw [h.cell]; rfl⟩

/-- The law answers true, and nothing that lay has turned. -/
def Good (w : World) (e : Ending) (w' : World) : Prop := e = .returned (.bool true) ∧ Below w.heap.size w w'

set_option maxRecDepth 100000 in
set_option maxHeartbeats 4000000 in
theorem pairs_none (ao : Option Addr) (cap : Nat) (k a b o x p q : Int) (w : World)  :
    Calls Try.prog 4 #[.slice ao 0 cap, opV k a b o x p q] w (Good w) := by
  have hb1 : Below w.heap.size w (w.alloc (.cells #[.int .i64 k, .int .i64 a, .int .i64 b, .int .u64 o, .int .u64 x, .int .u64 p, .int .u64 q] 33)) := (Below.refl _ _).alloc (Nat.le_refl _) _
  have hX : Blk (w.alloc (.cells #[.int .i64 k, .int .i64 a, .int .i64 b, .int .u64 o, .int .u64 x, .int .u64 p, .int .u64 q] 33)) w.heap.size 33 _ := Blk.new _ _ _
  go_enter Try.func4, Try.ntmps4
  go_wp2_with fail
  refine (lives_any _).mono ?_
  rintro e w9 ⟨rfl, hb9⟩
  have hbE := hb1.trans (hb9.mono hb1.size)
  clear hb9
  go_wp2
  go_ret
  exact ⟨rfl, hbE⟩

set_option maxRecDepth 100000 in
set_option maxHeartbeats 4000000 in
theorem pairs_many (ao : Option Addr) (n cap : Nat) (k a b o x p q : Int) (w : World) (h : 64 < n) (hc : n ≤ cap) (hm : cap ≤ 9223372036854775807) :
    Calls Try.prog 4 #[.slice ao n cap, opV k a b o x p q] w (Good w) := by
  have hb1 : Below w.heap.size w (w.alloc (.cells #[.int .i64 k, .int .i64 a, .int .i64 b, .int .u64 o, .int .u64 x, .int .u64 p, .int .u64 q] 33)) := (Below.refl _ _).alloc (Nat.le_refl _) _
  have hX : Blk (w.alloc (.cells #[.int .i64 k, .int .i64 a, .int .i64 b, .int .u64 o, .int .u64 x, .int .u64 p, .int .u64 q] 33)) w.heap.size 33 _ := Blk.new _ _ _
  have h2 : (64 : Int) < n := by omega
  have h3 : ¬ (n : Int) < 1 := by omega
  go_enter Try.func4, Try.ntmps4
  go_wp2_with fail
  refine (lives_any _).mono ?_
  rintro e w9 ⟨rfl, hb9⟩
  have hbE := hb1.trans (hb9.mono hb1.size)
  clear hb9
  go_wp2
  go_ret
  exact ⟨rfl, hbE⟩

set_option maxRecDepth 100000 in
set_option maxHeartbeats 4000000 in
theorem pairs_wrong (ao : Option Addr) (n cap : Nat) (k a b o x p q : Int) (w : World) (h0 : 1 ≤ n) (h1 : n ≤ 64) (hc : n ≤ cap) (hm : cap ≤ 9223372036854775807) (hr : rightB k a b n = false) :
    Calls Try.prog 4 #[.slice ao n cap, opV k a b o x p q] w (Good w) := by
  have hb1 : Below w.heap.size w (w.alloc (.cells #[.int .i64 k, .int .i64 a, .int .i64 b, .int .u64 o, .int .u64 x, .int .u64 p, .int .u64 q] 33)) := (Below.refl _ _).alloc (Nat.le_refl _) _
  have hX : Blk (w.alloc (.cells #[.int .i64 k, .int .i64 a, .int .i64 b, .int .u64 o, .int .u64 x, .int .u64 p, .int .u64 q] 33)) w.heap.size 33 _ := Blk.new _ _ _
  have h2 : ¬ (64 : Int) < n := by omega
  have h3 : ¬ (n : Int) < 1 := by omega
  have hR := right_any k a b o x p q n (w.alloc (.cells #[.int .i64 k, .int .i64 a, .int .i64 b, .int .u64 o, .int .u64 x, .int .u64 p, .int .u64 q] 33))
  rw [hr] at hR
  go_enter Try.func4, Try.ntmps4
  go_wp2_with fail
  refine hR.mono ?_
  rintro e w1 ⟨rfl, hBr⟩
  clear hR
  have hb1 := hb1.trans (hBr.mono (by simp))
  have hX1 : Blk w1 w.heap.size 33 _ := hX.agree (hBr.block w.heap.size (by simp))
  obtain ⟨x0, x1, x2, x3, x4, x5, x6⟩ := box_cells hX1
  clear hr
  go_wp2_with fail
  refine (lives_any _).mono ?_
  rintro e w9 ⟨rfl, hb9⟩
  have hbE := hb1.trans (hb9.mono hb1.size)
  clear hb9
  go_wp2
  go_ret
  exact ⟨rfl, hbE⟩

set_option maxRecDepth 100000 in
set_option maxHeartbeats 4000000 in
theorem pairs_less (ao : Option Addr) (n cap : Nat) (k a b o x p q : Int) (w : World) (h0 : 1 ≤ n) (h1 : n ≤ 64) (hc : n ≤ cap) (hm : cap ≤ 9223372036854775807) (hr : rightB k a b n = true) (hk : k < 4) :
    Calls Try.prog 4 #[.slice ao n cap, opV k a b o x p q] w (Good w) := by
  have hb1 : Below w.heap.size w (w.alloc (.cells #[.int .i64 k, .int .i64 a, .int .i64 b, .int .u64 o, .int .u64 x, .int .u64 p, .int .u64 q] 33)) := (Below.refl _ _).alloc (Nat.le_refl _) _
  have hX : Blk (w.alloc (.cells #[.int .i64 k, .int .i64 a, .int .i64 b, .int .u64 o, .int .u64 x, .int .u64 p, .int .u64 q] 33)) w.heap.size 33 _ := Blk.new _ _ _
  have h2 : ¬ (64 : Int) < n := by omega
  have h3 : ¬ (n : Int) < 1 := by omega
  have hR := right_any k a b o x p q n (w.alloc (.cells #[.int .i64 k, .int .i64 a, .int .i64 b, .int .u64 o, .int .u64 x, .int .u64 p, .int .u64 q] 33))
  rw [hr] at hR
  go_enter Try.func4, Try.ntmps4
  go_wp2_with fail
  refine hR.mono ?_
  rintro e w1 ⟨rfl, hBr⟩
  clear hR
  have hb1 := hb1.trans (hBr.mono (by simp))
  have hX1 : Blk w1 w.heap.size 33 _ := hX.agree (hBr.block w.heap.size (by simp))
  obtain ⟨x0, x1, x2, x3, x4, x5, x6⟩ := box_cells hX1
  clear hr
  go_wp2_with fail
  refine (lives_any _).mono ?_
  rintro e w9 ⟨rfl, hb9⟩
  have hbE := hb1.trans (hb9.mono hb1.size)
  clear hb9
  go_wp2
  go_ret
  exact ⟨rfl, hbE⟩

set_option maxRecDepth 100000 in
set_option maxHeartbeats 16000000 in
theorem pairs_main (bb off n cap : Nat) (ws : List Int) (k : Int) (a m : Nat) (o x p q : Int) (w : World) (hn : ws.length = n) (h0 : 1 ≤ n) (h1 : n ≤ 64) (hc : n ≤ cap) (hm : cap ≤ 9223372036854775807) (hr : rightB k a m n = true) (hk : k = 4 ∨ k = 5)
    (ha : a < n) (hb : m < n) (hab : k = 4 → a ≠ m) (hL : ∀ j, j < n → w.cell? ⟨bb, off + j, none⟩ = some (.int .u64 (wordAt ws j))) :
    Calls Try.prog 4 #[.slice (some ⟨bb, off, none⟩) n cap, opV k a m o x p q] w (Good w) := by
  have hb1 : Below w.heap.size w (w.alloc (.cells #[.int .i64 k, .int .i64 a, .int .i64 m, .int .u64 o, .int .u64 x, .int .u64 p, .int .u64 q] 33)) := (Below.refl _ _).alloc (Nat.le_refl _) _
  have hX : Blk (w.alloc (.cells #[.int .i64 k, .int .i64 a, .int .i64 m, .int .u64 o, .int .u64 x, .int .u64 p, .int .u64 q] 33)) w.heap.size 33 _ := Blk.new _ _ _
  have h2 : ¬ (64 : Int) < n := by omega
  have h3 : ¬ (n : Int) < 1 := by omega
  have hk4 : ¬ k < 4 := by omega
  have hk5 : 0 ≤ k ∧ k ≤ 5 := by omega
  have a1 : (a : Int) < n := by omega
  have m1 : (m : Int) < n := by omega
  have HN := Lib.hid hn
  have HL := Lib.hid hL
  have hbb : bb < w.heap.size := World.block_lt_of_cell? w _ (hL 0 (by omega))
  clear hn hL
  have hR := right_any k a m o x p q n (w.alloc (.cells #[.int .i64 k, .int .i64 a, .int .i64 m, .int .u64 o, .int .u64 x, .int .u64 p, .int .u64 q] 33))
  rw [hr] at hR
  clear hr
  go_enter Try.func4, Try.ntmps4
  go_wp2_with fail
  refine hR.mono ?_
  rintro e w1 ⟨rfl, hBr⟩
  clear hR
  have hbw := hb1.trans (hBr.mono (by simp))
  have hX1 : Blk w1 w.heap.size 33 _ := hX.agree (hBr.block w.heap.size (by simp))
  have hs1 : w.heap.size < w1.heap.size := hX1.lt
  have HL1 : Hid (∀ j, j < n → w1.cell? ⟨bb, off + j, none⟩ = some (.int .u64 (wordAt ws j))) := Lib.hid fun j hj => (hbw.cell (p := ⟨bb, off + j, none⟩) hbb).trans (HL.out j hj)
  clear HL hBr hX hb1
  obtain ⟨x0, x1, x2, x3, x4, x5, x6⟩ := box_cells hX1
  go_wp2_with fail
  refine (new_yes n _ h0 (by omega)).mono ?_
  rintro e w2 ⟨rfl, hB, O, hM, hO⟩
  have hMine : Mine w1 (w1.heap.size + 1) ⟨ws.take 0 ++ List.replicate (n - 0) 0, (0 : Nat), false, []⟩ w2 := ⟨O, by simpa using hM, hB, hO⟩
  generalize w1.heap.size + 1 = B at *
  clear hB hM hO x0 x1 x2 x3 x4 x5 x6
  go_wp2
  go_loopw [7] (fun i wr => ∃ j : Nat, j ≤ n ∧ i = .int .i64 j ∧ Mine w1 B ⟨ws.take j ++ List.replicate (n - j) 0, j, false, []⟩ wr) (fun i _ => n - (intOf i).toNat)
  case atStart => exact ⟨0, by omega, rfl, hMine⟩
  case round =>
    clear hMine
    obtain ⟨j, hj, rfl, O, hM, hB, hO⟩ := hrel
    by_cases hlt : j < n
    · have d1 := (hB.cell (p := ⟨bb, off + j, none⟩) (by simp only; omega)).trans (HL1.out j hlt)
      have HF := Lib.hid (fill_step ws n j HN.out hlt)
      have hle := fill_len ws n j HN.out hj
      have hfine : MS.fine ⟨ws.take j ++ List.replicate (n - j) 0, (j : Int), false, []⟩ := by
        refine ⟨by simp, ?_, by simp, ?_⟩
        · show (j : Int) ≤ _; omega
        · show (ws.take j ++ List.replicate (n - j) (0 : Int)).length ≤ 4096; omega
      have hS := store_ok B (ws.take j ++ List.replicate (n - j) 0) j false [] O j (wordAt ws j) wr hM hfine (by omega)
      rw [HF.out, counted_off] at hS
      clear HF hle hfine hM
      generalize wordAt ws j = y at *
      go_wp2_with fail
      refine hS.mono ?_
      rintro e w3 ⟨rfl, hT⟩
      have hM3 := Mine.turn hB hO hT
      clear hS hT d1
      go_wp2
      go_roundw
      case rel => exact ⟨j + 1, by omega, by go_num, by simpa using hM3⟩
      case measure => simp [intOf]; omega
    · obtain rfl : j = n := by omega
      rw [fill_done ws j HN.out] at hM
      obtain ⟨x0, x1, x2, x3, x4, x5, x6⟩ := box_cells (hX1.agree (hB.block _ hs1))
      have hfine : MS.fine ⟨ws, (j : Int), false, []⟩ := by
        refine ⟨by simp, ?_, by simp, ?_⟩
        · show (j : Int) ≤ _; omega
        · show ws.length ≤ 4096; have := HN.out; omega
      have hD := do_right B ws j false [] O k a m o x p q wr hM hfine hk5.1 hk5.2 (by have := HN.out; omega) (fun _ => ⟨by omega, by have := HN.out; omega⟩) (fun h => by have := hab h; omega)
      rw [counted_off] at hD
      clear hfine hM
      clear hlt
      go_wp2_with fail
      obtain ⟨y, hy⟩ : ∃ y, wordAt ws a = y := ⟨_, rfl⟩
      have HY := Lib.hid hy
      clear hy
      obtain ⟨z, hz⟩ : ∃ z, wordAt ws m = z := ⟨_, rfl⟩
      have HZ := Lib.hid hz
      clear hz
      by_cases ho : y = o
      · subst ho
        by_cases hp : z = p
        · subst hp
          by_cases h4 : k = 4
          · subst h4
            have hma : a ≠ m := hab rfl
            have hact : act ws 4 a m y x z q = ((ws.set a x).set m q, 0, true) := by simp [act, HY.out, HZ.out]
            rw [hact] at hD
            clear hact
            refine hD.mono ?_
            rintro e w3 ⟨rfl, hT⟩
            obtain ⟨O3, hM3, hB3, hO3⟩ := Mine.turn hB hO hT
            clear hD hT x0 x1 x2 x3 x4 x5 x6
            go_wp2_with fail
            refine (words_any B _ O3 w3 hM3 (by simp; have := HN.out; omega)).mono ?_
            rintro e w4 ⟨v, rfl, hown, hB4⟩
            simp only [List.length_set, HN.out] at hown
            obtain ⟨g, cp, rfl, hc1, hc2⟩ := row_form hown (by omega)
            have hB5 := hB3.trans (hB4.mono hB3.size)
            have hbE0 := hbw.trans (hB5.mono (Nat.le_of_lt hs1))
            clear hM3 hB4 hO3
            obtain ⟨x0, x1, x2, x3, x4, x5, x6⟩ := box_cells (hX1.agree (hB5.block _ hs1))
            have HC : Hid (∀ i, i < j → w4.cell? ⟨bb, off + i, none⟩ = some (.int .u64 (wordAt ws i))) := Lib.hid fun i hi => (hB5.cell (p := ⟨bb, off + i, none⟩) (by simp only; omega)).trans (HL1.out i hi)
            have HW := Lib.hid (fun (i : Nat) (hi : i < j) (u : Int) hu => own_cell_eq hown (by simp [HN.out]) hi (y := u) hu)
            have la := HC.out a ha
            have lb := HC.out m hb
            rw [HY.out] at la
            rw [HZ.out] at lb
            clear hown
            go_wp2
            go_quiet (fail)
            go_wp2
            clear la lb
            go_loop [12, 13] (fun i _ => ∃ r : Nat, r ≤ j ∧ i = .int .i64 r) (fun i _ => j - (intOf i).toNat)
            case atStart => exact ⟨0, by omega, rfl⟩
            case round =>
              obtain ⟨r, hr, rfl⟩ := hrel
              by_cases hlt : r < j
              · have d1 := HC.out r hlt
                by_cases hra : r = a
                · subst hra
                  have d2 := HW.out r hlt x (by rw [wordAt_ne hma, wordAt_self (by rw [HN.out]; exact ha)])
                  go_wp2
                  go_round
                  case rel => exact ⟨r + 1, by omega, by go_num⟩
                  case measure => simp [intOf]; omega
                · have e1 : ((r : Int) == (a : Int)) = false := by simp; omega
                  by_cases hrm : r = m
                  · subst hrm
                    have d2 := HW.out r hlt q (wordAt_self (by simp [HN.out]; exact hb) _)
                    generalize wordAt ws r = u at *
                    go_wp2
                    go_round
                    case rel => exact ⟨r + 1, by omega, by go_num⟩
                    case measure => simp [intOf]; omega
                  · have e2 : ((r : Int) == (m : Int)) = false := by simp; omega
                    have d2 := HW.out r hlt (wordAt ws r) (by rw [wordAt_ne hrm, wordAt_ne hra])
                    generalize wordAt ws r = u at *
                    go_wp2
                    go_round
                    case rel => exact ⟨r + 1, by omega, by go_num⟩
                    case measure => simp [intOf]; omega
              · go_wp2_with fail
                refine (lives_any _).mono ?_
                rintro e w9 ⟨rfl, hb9⟩
                have hbE := (below_drewN hbE0 _).trans (hb9.mono (below_drewN hbE0 _).size)
                clear hb9
                go_wp2
                go_ret
                exact ⟨rfl, hbE⟩
          · obtain rfl : k = 5 := by omega
            have hact : act ws 5 a m y x z q = (ws.set a x, 0, true) := by simp [act, HY.out, HZ.out]
            rw [hact] at hD
            clear hact
            refine hD.mono ?_
            rintro e w3 ⟨rfl, hT⟩
            obtain ⟨O3, hM3, hB3, hO3⟩ := Mine.turn hB hO hT
            clear hD hT x0 x1 x2 x3 x4 x5 x6
            go_wp2_with fail
            refine (words_any B _ O3 w3 hM3 (by simp; have := HN.out; omega)).mono ?_
            rintro e w4 ⟨v, rfl, hown, hB4⟩
            simp only [List.length_set, HN.out] at hown
            obtain ⟨g, cp, rfl, hc1, hc2⟩ := row_form hown (by omega)
            have hB5 := hB3.trans (hB4.mono hB3.size)
            have hbE0 := hbw.trans (hB5.mono (Nat.le_of_lt hs1))
            clear hM3 hB4 hO3
            obtain ⟨x0, x1, x2, x3, x4, x5, x6⟩ := box_cells (hX1.agree (hB5.block _ hs1))
            have HC : Hid (∀ i, i < j → w4.cell? ⟨bb, off + i, none⟩ = some (.int .u64 (wordAt ws i))) := Lib.hid fun i hi => (hB5.cell (p := ⟨bb, off + i, none⟩) (by simp only; omega)).trans (HL1.out i hi)
            have HW := Lib.hid (fun (i : Nat) (hi : i < j) (u : Int) hu => own_cell_eq hown (by simp [HN.out]) hi (y := u) hu)
            have la := HC.out a ha
            have lb := HC.out m hb
            rw [HY.out] at la
            rw [HZ.out] at lb
            clear hown
            go_wp2
            go_quiet (fail)
            go_wp2
            clear la lb
            go_loop [12, 13] (fun i _ => ∃ r : Nat, r ≤ j ∧ i = .int .i64 r) (fun i _ => j - (intOf i).toNat)
            case atStart => exact ⟨0, by omega, rfl⟩
            case round =>
              obtain ⟨r, hr, rfl⟩ := hrel
              by_cases hlt : r < j
              · have d1 := HC.out r hlt
                by_cases hra : r = a
                · subst hra
                  have d2 := HW.out r hlt x (wordAt_self (by rw [HN.out]; exact ha) _)
                  go_wp2
                  go_round
                  case rel => exact ⟨r + 1, by omega, by go_num⟩
                  case measure => simp [intOf]; omega
                · have e1 : ((r : Int) == (a : Int)) = false := by simp; omega
                  by_cases hrm : r = m
                  · subst hrm
                    have d2 := HW.out r hlt (wordAt ws r) (wordAt_ne hra _)
                    generalize wordAt ws r = u at *
                    go_wp2
                    go_round
                    case rel => exact ⟨r + 1, by omega, by go_num⟩
                    case measure => simp [intOf]; omega
                  · have e2 : ((r : Int) == (m : Int)) = false := by simp; omega
                    have d2 := HW.out r hlt (wordAt ws r) (wordAt_ne hra _)
                    generalize wordAt ws r = u at *
                    go_wp2
                    go_round
                    case rel => exact ⟨r + 1, by omega, by go_num⟩
                    case measure => simp [intOf]; omega
              · go_wp2_with fail
                refine (lives_any _).mono ?_
                rintro e w9 ⟨rfl, hb9⟩
                have hbE := (below_drewN hbE0 _).trans (hb9.mono (below_drewN hbE0 _).size)
                clear hb9
                go_wp2
                go_ret
                exact ⟨rfl, hbE⟩
        · have hp2 : (z == p) = false := by simpa using hp
          have hact : act ws k a m y x p q = (ws, 0, false) := by simp [act, HY.out, HZ.out, hp, show ¬ k = 0 by omega, show ¬ k = 1 by omega, show ¬ k = 2 by omega, show ¬ k = 3 by omega]
          rw [hact] at hD
          clear hact
          refine hD.mono ?_
          rintro e w3 ⟨rfl, hT⟩
          obtain ⟨O3, hM3, hB3, hO3⟩ := Mine.turn hB hO hT
          clear hD hT x0 x1 x2 x3 x4 x5 x6
          go_wp2_with fail
          refine (words_any B _ O3 w3 hM3 (by simp; have := HN.out; omega)).mono ?_
          rintro e w4 ⟨v, rfl, hown, hB4⟩
          simp only [List.length_set, HN.out] at hown
          obtain ⟨g, cp, rfl, hc1, hc2⟩ := row_form hown (by omega)
          have hB5 := hB3.trans (hB4.mono hB3.size)
          have hbE0 := hbw.trans (hB5.mono (Nat.le_of_lt hs1))
          clear hM3 hB4 hO3
          obtain ⟨x0, x1, x2, x3, x4, x5, x6⟩ := box_cells (hX1.agree (hB5.block _ hs1))
          have HC : Hid (∀ i, i < j → w4.cell? ⟨bb, off + i, none⟩ = some (.int .u64 (wordAt ws i))) := Lib.hid fun i hi => (hB5.cell (p := ⟨bb, off + i, none⟩) (by simp only; omega)).trans (HL1.out i hi)
          have HW := Lib.hid (fun (i : Nat) (hi : i < j) (u : Int) hu => own_cell_eq hown (by simp [HN.out]) hi (y := u) hu)
          have la := HC.out a ha
          have lb := HC.out m hb
          rw [HY.out] at la
          rw [HZ.out] at lb
          clear hown
          go_wp2
          go_quiet (fail)
          go_wp2
          clear la lb
          go_loop [12, 13] (fun i _ => ∃ r : Nat, r ≤ j ∧ i = .int .i64 r) (fun i _ => j - (intOf i).toNat)
          case atStart => exact ⟨0, by omega, rfl⟩
          case round =>
            obtain ⟨r, hr, rfl⟩ := hrel
            by_cases hlt : r < j
            · have d1 := HC.out r hlt
              have d2 := HW.out r hlt _ rfl
              generalize wordAt ws r = u at *
              go_wp2
              go_round
              case rel => exact ⟨r + 1, by omega, by go_num⟩
              case measure => simp [intOf]; omega
            · go_wp2_with fail
              refine (lives_any _).mono ?_
              rintro e w9 ⟨rfl, hb9⟩
              have hbE := (below_drewN hbE0 _).trans (hb9.mono (below_drewN hbE0 _).size)
              clear hb9
              go_wp2
              go_ret
              exact ⟨rfl, hbE⟩
      · have ho2 : (y == o) = false := by simpa using ho
        have hact : act ws k a m o x p q = (ws, 0, false) := by simp [act, HY.out, HZ.out, ho, show ¬ k = 0 by omega, show ¬ k = 1 by omega, show ¬ k = 2 by omega, show ¬ k = 3 by omega]
        rw [hact] at hD
        clear hact
        refine hD.mono ?_
        rintro e w3 ⟨rfl, hT⟩
        obtain ⟨O3, hM3, hB3, hO3⟩ := Mine.turn hB hO hT
        clear hD hT x0 x1 x2 x3 x4 x5 x6
        go_wp2_with fail
        refine (words_any B _ O3 w3 hM3 (by simp; have := HN.out; omega)).mono ?_
        rintro e w4 ⟨v, rfl, hown, hB4⟩
        simp only [List.length_set, HN.out] at hown
        obtain ⟨g, cp, rfl, hc1, hc2⟩ := row_form hown (by omega)
        have hB5 := hB3.trans (hB4.mono hB3.size)
        have hbE0 := hbw.trans (hB5.mono (Nat.le_of_lt hs1))
        clear hM3 hB4 hO3
        obtain ⟨x0, x1, x2, x3, x4, x5, x6⟩ := box_cells (hX1.agree (hB5.block _ hs1))
        have HC : Hid (∀ i, i < j → w4.cell? ⟨bb, off + i, none⟩ = some (.int .u64 (wordAt ws i))) := Lib.hid fun i hi => (hB5.cell (p := ⟨bb, off + i, none⟩) (by simp only; omega)).trans (HL1.out i hi)
        have HW := Lib.hid (fun (i : Nat) (hi : i < j) (u : Int) hu => own_cell_eq hown (by simp [HN.out]) hi (y := u) hu)
        have la := HC.out a ha
        have lb := HC.out m hb
        rw [HY.out] at la
        rw [HZ.out] at lb
        clear hown
        go_wp2
        go_quiet (fail)
        go_wp2
        clear la lb
        go_loop [12, 13] (fun i _ => ∃ r : Nat, r ≤ j ∧ i = .int .i64 r) (fun i _ => j - (intOf i).toNat)
        case atStart => exact ⟨0, by omega, rfl⟩
        case round =>
          obtain ⟨r, hr, rfl⟩ := hrel
          by_cases hlt : r < j
          · have d1 := HC.out r hlt
            have d2 := HW.out r hlt _ rfl
            generalize wordAt ws r = u at *
            go_wp2
            go_round
            case rel => exact ⟨r + 1, by omega, by go_num⟩
            case measure => simp [intOf]; omega
          · go_wp2_with fail
            refine (lives_any _).mono ?_
            rintro e w9 ⟨rfl, hb9⟩
            have hbE := (below_drewN hbE0 _).trans (hb9.mono (below_drewN hbE0 _).size)
            clear hb9
            go_wp2
            go_ret
            exact ⟨rfl, hbE⟩

theorem pairs_all (ao : Option Addr) (n cap : Nat) (ws : List Int) (k a b o x p q : Int) (w : World) (hn : ws.length = n) (hc : n ≤ cap) (hm : cap ≤ 9223372036854775807)
    (hL : ∀ j, j < n → ∃ bb off, ao = some ⟨bb, off, none⟩ ∧ w.cell? ⟨bb, off + j, none⟩ = some (.int .u64 (wordAt ws j))) :
    Calls Try.prog 4 #[.slice ao n cap, opV k a b o x p q] w (Good w) := by
  by_cases h0 : n = 0
  · subst h0; exact pairs_none ao cap k a b o x p q w
  by_cases h1 : 64 < n
  · exact pairs_many ao n cap k a b o x p q w h1 hc hm
  by_cases hr : rightB k a b n = true
  · by_cases hk : k < 4
    · exact pairs_less ao n cap k a b o x p q w (by omega) (by omega) hc hm hr hk
    have hr2 := hr
    unfold rightB inB at hr2
    simp at hr2
    obtain ⟨i, rfl⟩ : ∃ i : Nat, a = i := ⟨a.toNat, by omega⟩
    obtain ⟨m, rfl⟩ : ∃ m : Nat, b = m := ⟨b.toNat, by omega⟩
    obtain ⟨bb, off, rfl, _⟩ := hL 0 (by omega)
    exact pairs_main bb off n cap ws k i m o x p q w hn (by omega) (by omega) hc hm hr (by omega) (by omega) (by omega) (by omega) fun j hj => by
      obtain ⟨b2, o2, he, hc2⟩ := hL j hj
      cases he
      exact hc2
  · exact pairs_wrong ao n cap k a b o x p q w (by omega) (by omega) hc hm (by simpa using hr)
end Go.Proofs.Ytdknlmaabggfaaa
