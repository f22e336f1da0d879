/- Where a place is found first. -/
import Derived.Test.YtbdbchgnjjlccaaAll
namespace Go.Proofs.Ytbdbchgnjjlccaa
open Go.ChangeShapes Go.WideShapes Go.ChangeAt Go.RowKit
set_option linter.unusedVariables false

theorem eq_place (x y : Int × Int × Int) (w : World) : (Op.equalIn 10000 39 (.agg #[.int .i64 x.1, .int .i64 x.2.1, .int .i64 x.2.2]) (.agg #[.int .i64 y.1, .int .i64 y.2.1, .int .i64 y.2.2])).run Try.prog w = .ok (decide (x = y)) w := by
  obtain ⟨a, b, d⟩ := x
  obtain ⟨a', b', d'⟩ := y
  simp [go_sem]
  by_cases h1 : a = a' <;> by_cases h2 : b = b' <;> by_cases h3 : d = d' <;> simp [h1, h2, h3]
theorem upto_get (c : Cf) {m j : Nat} (h : j < m) : (c.upto m)[j]? = some (c.place (j : Int)) := by simp [Cf.upto, h]

/-- So far x was not found. -/
def FindR (c : Cf) (x : Int × Int × Int) (W : World) (n : Nat) (i : Value) (wr : World) : Prop := ∃ k q : Nat, k ≤ n ∧ i = .int .i64 k ∧ wr = W.drewN q ∧ ∀ j : Nat, j < k → c.place (j : Int) ≠ x

set_option maxRecDepth 100000 in
set_option maxHeartbeats 4000000 in
theorem find_is (c : Cf) (g cap n0 n : Nat) (x y z r : Int) (w : World) (h : c.Ok) (hn : n = c.size.toNat) (hrow : w.ownsRow n0 39 3 (.slice (some ⟨g, 0, none⟩) n cap) n (encP (c.upto n))) (hf : Finds c (x, y, z) r) :
    Calls Try.prog 19 #[.slice (some ⟨g, 0, none⟩) n cap, .agg #[.int .i64 x, .int .i64 y, .int .i64 z]] w fun e w' => e = .returned (.int .i64 r) ∧ Below w.heap.size w w' := by
  obtain ⟨u1, u2, u3, u4, u5⟩ := h.steps
  have hB : Blk (w.alloc (.cells #[.int .i64 x, .int .i64 y, .int .i64 z] 39)) w.heap.size 39 #[.int .i64 x, .int .i64 y, .int .i64 z] := Blk.new _ _ _
  have hrow1 := hrow.alloc (.cells #[.int .i64 x, .int .i64 y, .int .i64 z] 39)
  have h0 : Below w.heap.size w (w.alloc (.cells #[.int .i64 x, .int .i64 y, .int .i64 z] 39)) := box1 _
  have hsz : (n : Int) = c.size := by omega
  have hn1 : n ≤ 924 := by omega
  have HF := Lib.hid hf
  have HZ := Lib.hid hsz
  have HR := Lib.hid hrow1
  clear hrow hrow1 hf hsz hn h u1 u2 u3 u4 u5
  go_enter Try.func19, Try.ntmps19
  go_wp2
  generalize w.alloc (.cells #[.int .i64 x, .int .i64 y, .int .i64 z] 39) = W at *
  go_loopw [5] (fun i wr => FindR c (x, y, z) W n i wr) (fun i _ => n - (intOf i).toNat)
  case atStart => exact ⟨0, 0, by omega, rfl, rfl, fun j hj => by omega⟩
  case round =>
    obtain ⟨k, q, hk, rfl, rfl, hno⟩ := hrel
    have HN := Lib.hid hno
    clear hno
    by_cases hlt : k < n
    · obtain ⟨d0, d1, d2⟩ := encP_get _ k _ (upto_get c hlt)
      have a0 : (W.drewN q).cell? ⟨g, k * 3, none⟩ = _ := (HR.out.cellAt (k * 3) (by omega)).trans d0
      have a1 : (W.drewN q).cell? ⟨g, k * 3 + 1, none⟩ = _ := (HR.out.cellAt (k * 3 + 1) (by omega)).trans d1
      have a2 : (W.drewN q).cell? ⟨g, k * 3 + 2, none⟩ = _ := (HR.out.cellAt (k * 3 + 2) (by omega)).trans d2
      clear d0 d1 d2
      have b0 : (W.drewN q).cell? ⟨w.heap.size, 0, none⟩ = _ := hB.get 0 rfl
      have b1 : (W.drewN q).cell? ⟨w.heap.size, 1, none⟩ = _ := hB.get 1 rfl
      have b2 : (W.drewN q).cell? ⟨w.heap.size, 2, none⟩ = _ := hB.get 2 rfl
      have hq := eq_place (c.place (k : Int)) (x, y, z)
      have HD := Lib.hid (show ∀ z, (W.drewN q).drewN z = W.drewN (q + z) from fun z => World.drewN_drewN _ _ _)
      have h0q := below_drewN h0 q
      by_cases he : c.place (k : Int) = (x, y, z)
      · have hr : r = k := by
          rcases HF.out with ⟨_, hno⟩ | ⟨r0, r1, r2, r3⟩
          · exact (hno k (by omega) (by have := HZ.out; omega) he).elim
          · rcases Int.lt_trichotomy r k with h1 | h1 | h1
            · have hrn := HN.out r.toNat (by omega)
              rw [show ((r.toNat : Nat) : Int) = r by omega] at hrn
              exact (hrn r2).elim
            · exact h1
            · exact (r3 k (by omega) h1 he).elim
        rw [decide_eq_true he] at hq
        subst hr
        clear he
        generalize c.place (k : Int) = t at *
        obtain ⟨t1, t2, t3⟩ := t
        simp only at a0 a1 a2 hq
        generalize W.drewN q = W1 at *
        go_wp2
        go_quiet (fail)
        go_wp2
        go_ret
        exact ⟨rfl, below_drewN h0q _⟩
      · rw [decide_eq_false he] at hq
        have HE := Lib.hid he
        clear he
        have HT := Lib.hid (show ∀ x', c.place (k : Int) = x' → x' ≠ (x, y, z) from fun x' e => by rw [← e]; exact HE.out)
        generalize hpl : c.place (k : Int) = t at *
        have HPL := Lib.hid hpl
        clear hpl
        obtain ⟨t1, t2, t3⟩ := t
        simp only at a0 a1 a2 hq
        generalize W.drewN q = W1 at *
        go_wp2
        go_quiet (fail)
        go_wp2
        go_roundw
        case rel => exact ⟨k + 1, q + nq, by omega, by go_num, HD.out nq, fun j hj => by
          by_cases hjk : j < k
          · exact HN.out j hjk
          · obtain rfl : j = k := by omega
            rw [HPL.out]
            exact HT.out _ rfl⟩
        case measure => simp [intOf]; omega
    · have hr : r = -1 := by
        rcases HF.out with ⟨e, _⟩ | ⟨r0, r1, r2, r3⟩
        · exact e
        · have hrn := HN.out r.toNat (by have := HZ.out; omega)
          rw [show ((r.toNat : Nat) : Int) = r by omega] at hrn
          exact (hrn r2).elim
      subst hr
      go_wp2
      go_ret
      exact ⟨rfl, below_drewN h0 q⟩
end Go.Proofs.Ytbdbchgnjjlccaa
