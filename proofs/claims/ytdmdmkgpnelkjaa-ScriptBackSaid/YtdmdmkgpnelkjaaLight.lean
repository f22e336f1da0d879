/- Is a script so small that it is gone through? -/
import Derived.Test.YtdmdmkgpnelkjaaWritten
namespace Go.Proofs.Ytdmdmkgpnelkjaa
open Go.ChangeShapes Go.WideShapes Go.ChangeAt Go.RowKit
set_option linter.unusedVariables false

def lightB (s : Sc) : Bool := decide (s.ls.length ≤ 100) && (decide (tot s.ls ≤ 1000) && (decide (s.ps.length ≤ 70000) && decide (s.ds.length ≤ 10000)))

set_option maxRecDepth 100000 in
set_option maxHeartbeats 8000000 in
theorem light_any (s : Sc) (x y z : Sl) (w : World) (h : SV w s x y z) (hs : ∀ l ∈ s.ls, l.length ≤ 1125899906842624) : Calls Try.prog 10 #[sv s.c x y z] w fun e w' => e = .returned (.bool (lightB s)) ∧ Below w.heap.size w w' := by
  have h0 : Below w.heap.size w (w.alloc (.cells (scs s.c x y z) 29)) := box1 _
  have hB : Blk (w.alloc (.cells (scs s.c x y z) 29)) w.heap.size 29 (scs s.c x y z) := Blk.new _ _ _
  have hV := h.below h0
  have hxl := h.hx.len
  have hyl := h.hy.picks_len
  have hzl := h.hz.len
  have hxr := h.hx.room
  unfold maxLen at hxr
  have htb : ∀ k, k ≤ 100 → tot (s.ls.take k) ≤ 100 * 1125899906842624 := fun k hk => by
    have := tot_bound (s.ls.take k) 1125899906842624 (fun l hl => hs l (List.mem_of_mem_take hl))
    have h2 : (s.ls.take k).length ≤ 100 := by rw [List.length_take]; omega
    exact Nat.le_trans this (Nat.mul_le_mul_right _ h2)
  have HTB := Lib.hid htb
  have HLB := Lib.hid (show lightB s = (decide (s.ls.length ≤ 100) && (decide (tot s.ls ≤ 1000) && (decide (s.ps.length ≤ 70000) && decide (s.ds.length ≤ 10000)))) from rfl)
  generalize lightB s = lb at *
  obtain ⟨c, ls, ps, ds⟩ := s
  obtain ⟨xa, xn, xc⟩ := x
  obtain ⟨ya, yn, yc⟩ := y
  obtain ⟨za, zn, zc'⟩ := z
  dsimp only at *
  subst hxl hyl hzl
  have HV := Lib.hid hV
  have H0 := Lib.hid h0
  clear h htb hs hV h0
  go_enter Try.func10, Try.ntmps10
  go_wp2
  generalize (w.alloc (.cells (scs c ⟨xa, ls.length, xc⟩ ⟨ya, ps.length, yc⟩ ⟨za, ds.length, zc'⟩) 29)) = W at *
  obtain ⟨x0, x1, x2, x3, x4, x5, x6, x7, x8, x9⟩ := hB.script
  dsimp only at x7 x8 x9
  clear hB
  go_loop [4, 3] (fun i n => ∃ k : Nat, k ≤ ls.length ∧ k ≤ 100 ∧ i = .int .i64 k ∧ n = .int .i64 (tot (ls.take k))) (fun i _ => 100 - (intOf i).toNat)
  case atStart => exact ⟨0, by omega, by omega, rfl, rfl⟩
  case round =>
    obtain ⟨k, hk, hk1, rfl, rfl⟩ := hrel
    by_cases hkn : k < ls.length
    · have gk : (k : Int) < ls.length := by omega
      by_cases hkc : k < 100
      · have g100 : (k : Int) < 100 := by omega
        have hl : ls[k]? = some ls[k] := List.getElem?_eq_getElem hkn
        obtain ⟨b, off, q, rfl, hq, hqn, hr⟩ := HV.out.hx.at_ k _ hl
        have ht := tot_take ls k _ hl
        have hb2 := HTB.out (k + 1) (by omega)
        have w1 : IntKind.i64.wrap ((tot (ls.take k) : Int) + (ls[k].length : Int)) = (tot (ls.take (k + 1)) : Int) := by
          rw [ht] at hb2 ⊢
          push_cast
          exact IntWalk.i64_in _ (by omega)
        have w2 := IntWalk.i64_in ((k : Int) + 1) (by omega)
        obtain ⟨qa, qn, qc⟩ := q
        dsimp only at hq hqn
        subst hqn
        clear ht hb2 hr hl
        generalize ls[k].length = m at *
        go_wp2
        go_round
        case rel => exact ⟨k + 1, by omega, by omega, by go_num, rfl⟩
        case measure => simp [intOf]; omega
      · have g100 : ¬ (k : Int) < 100 := by omega
        have hbig : ¬ (ls.length : Int) ≤ 100 := by omega
        have HE := Lib.hid (show lb = false by rw [HLB.out]; simp; omega)
        clear hkc hkn
        go_wp2
        go_ret
        exact ⟨ret_b HE.out, H0.out⟩
    · obtain rfl : k = ls.length := by omega
      have hle : (ls.length : Int) ≤ 100 := by omega
      rw [List.take_length]
      by_cases h1 : tot ls ≤ 1000
      · have g1 : ((tot ls : Nat) : Int) ≤ 1000 := by omega
        by_cases h2 : ps.length ≤ 70000
        · have g2 : (ps.length : Int) ≤ 70000 := by omega
          by_cases h3 : ds.length ≤ 10000
          · have g3 : (ds.length : Int) ≤ 10000 := by omega
            have HE := Lib.hid (show lb = true by rw [HLB.out]; simp [h1, h2, h3]; omega)
            clear h1 h2 h3 hkn
            generalize ((tot ls : Nat) : Int) = t0 at *
            go_wp2
            go_ret
            exact ⟨ret_b HE.out, H0.out⟩
          · have g3 : ¬ (ds.length : Int) ≤ 10000 := by omega
            have HE := Lib.hid (show lb = false by rw [HLB.out]; simp [h3])
            clear h1 h2 h3 hkn
            generalize ((tot ls : Nat) : Int) = t0 at *
            go_wp2
            go_ret
            exact ⟨ret_b HE.out, H0.out⟩
        · have g2 : ¬ (ps.length : Int) ≤ 70000 := by omega
          have HE := Lib.hid (show lb = false by rw [HLB.out]; simp [h2])
          clear h1 h2 hkn
          generalize ((tot ls : Nat) : Int) = t0 at *
          go_wp2
          go_ret
          exact ⟨ret_b HE.out, H0.out⟩
      · have g1 : ¬ ((tot ls : Nat) : Int) ≤ 1000 := by omega
        have HE := Lib.hid (show lb = false by rw [HLB.out]; simp [h1])
        clear h1 hkn
        generalize ((tot ls : Nat) : Int) = t0 at *
        go_wp2
        go_ret
        exact ⟨ret_b HE.out, H0.out⟩
end Go.Proofs.Ytdmdmkgpnelkjaa
