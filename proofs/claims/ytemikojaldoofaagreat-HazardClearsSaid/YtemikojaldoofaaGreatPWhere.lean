/- Where. -/
import Derived.Test.YtemikojaldoofaaGreatPA
import Derived.IntWalk
namespace Go.Proofs.YtemikojaldoofaaGreat.P
open Go.ChangeShapes Go.WideShapes Go.ChangeAt Go.RowKit
set_option linter.unusedVariables false

set_option maxRecDepth 20000


/-- In what an address lies. -/
def Cf.place (c : Cf) (a : Int) : Int × Int × Int :=
  if a < 0 then (5, 0, 0) else if a < 8 then (0, a, 0) else if a < c.o2 then (1, (a - 8) / c.slots, (a - 8) % c.slots) else if a < c.o3 then (2, 1 + (a - c.o2), 0)
  else if a < c.o4 then (3, 1 + (a - c.o3) / c.width, (a - c.o3) % c.width) else if a < c.size then (4, a - c.o4, 0) else (5, 0, 0)
abbrev plV (x : Int × Int × Int) : Value := .tuple #[.int .i64 x.1, .int .i64 x.2.1, .int .i64 x.2.2]
/-- Where the k-th area begins; the fifth one is the end. -/
def Cf.first (c : Cf) : Nat → Int
  | 0 => 0
  | 1 => 8
  | 2 => c.o2
  | 3 => c.o3
  | 4 => c.o4
  | _ => c.size
/-- So far no area has had the address. -/
def WhereR (c : Cf) (a : Int) (w : World) (i : Value) (wr : World) : Prop := ∃ k : Nat, k ≤ 5 ∧ i = .int .i64 k ∧ Below w.heap.size w wr ∧ (a < 0 ∨ c.first k ≤ a)
theorem Cf.Ok.steps {c : Cf} (h : c.Ok) : 8 ≤ c.o2 ∧ c.o2 ≤ c.o3 ∧ c.o3 ≤ c.o4 ∧ c.o4 ≤ c.size ∧ c.size ≤ 924 := by
  obtain ⟨⟨m1, m2⟩, ⟨m3, m4⟩, ⟨m5, m6⟩, ⟨m7, m8⟩, ⟨m9, m10⟩, ⟨m11, m12⟩⟩ := h.bounds
  have := h.places
  have := h.nd
  simp only [Cf.o2, Cf.o3, Cf.o4, Cf.size] at *
  omega
theorem tdiv_of {x k : Int} (h0 : 0 ≤ x) : x.tdiv k = x / k := Int.tdiv_eq_ediv_of_nonneg h0
theorem tmod_of {x k : Int} (h0 : 0 ≤ x) : x.tmod k = x % k := Int.tmod_eq_emod_of_nonneg h0
theorem div_in {x k : Int} (h0 : 0 ≤ x) (hk : 0 < k) : 0 ≤ x / k ∧ x / k ≤ x := ⟨Int.ediv_nonneg h0 (by omega), Int.ediv_le_self _ h0⟩

set_option maxRecDepth 100000 in
set_option maxHeartbeats 8000000 in
theorem where_ok (c : Cf) (a : Int) (w : World) (h : c.Ok) (ha : I64 a) : Calls Tryz.prog 93 #[c.v, .int .i64 a] w fun e w' => e = .returned (plV (c.place a)) ∧ Below w.heap.size w w' := by
  have hr := fun W => areas_ok c W h
  obtain ⟨⟨m1, m2⟩, ⟨m3, m4⟩, ⟨m5, m6⟩, ⟨m7, m8⟩, ⟨m9, m10⟩, ⟨m11, m12⟩⟩ := h.bounds
  obtain ⟨n1, n2⟩ := h.nd
  obtain ⟨t1, t2⟩ := h.th
  obtain ⟨s1, s2⟩ := h.slots
  obtain ⟨q1, q2⟩ := h.width
  obtain ⟨p1, p2⟩ := h.places
  obtain ⟨u1, u2, u3, u4, u5⟩ := h.steps
  obtain ⟨a0, a1⟩ := ha
  have e0 : ∀ W, Calls Tryz.prog 58 #[.agg #[.int .i64 0, .int .i64 0, .int .i64 8, .int .i64 1]] W fun e w' => e = .returned (.int .i64 8) ∧ Below W.heap.size W w' := fun W => end_any 0 0 8 1 W (by omega) (by omega) (by omega) (by omega)
  have x0 := index_rows0 c
  have e1 : ∀ W, Calls Tryz.prog 58 #[.agg #[.int .i64 8, .int .i64 0, .int .i64 c.th, .int .i64 c.slots]] W fun e w' => e = .returned (.int .i64 c.o2) ∧ Below W.heap.size W w' := fun W => end_any 8 0 c.th c.slots W (by omega) (by omega) (by omega) (by omega)
  have x1 := index_rows1 c
  have e2 : ∀ W, Calls Tryz.prog 58 #[.agg #[.int .i64 c.o2, .int .i64 1, .int .i64 c.nd, .int .i64 1]] W fun e w' => e = .returned (.int .i64 c.o3) ∧ Below W.heap.size W w' := fun W => end_any c.o2 1 c.nd 1 W (by omega) (by omega) (by omega) (by omega)
  have x2 := index_rows2 c
  have e3 : ∀ W, Calls Tryz.prog 58 #[.agg #[.int .i64 c.o3, .int .i64 1, .int .i64 c.nd, .int .i64 c.width]] W fun e w' => e = .returned (.int .i64 c.o4) ∧ Below W.heap.size W w' := fun W => end_any c.o3 1 c.nd c.width W (by omega) (by omega) (by omega) (by omega)
  have x3 := index_rows3 c
  have e4 : ∀ W, Calls Tryz.prog 58 #[.agg #[.int .i64 c.o4, .int .i64 0, .int .i64 c.places, .int .i64 1]] W fun e w' => e = .returned (.int .i64 c.size) ∧ Below W.heap.size W w' := fun W => end_any c.o4 0 c.places 1 W (by omega) (by omega) (by omega) (by omega)
  have x4 := index_rows4 c
  clear h m1 m2 m3 m4
  generalize hrow : c.rows = rs at *
  clear hrow
  go_enter Tryz.func93, Tryz.ntmps93
  go_wp2_with fail
  refine (hr _).mono ?_
  rintro e w1 ⟨rfl, hb⟩
  obtain ⟨-, h0⟩ := boxed c hb
  clear hb hr
  go_wp2
  go_loopw [11] (fun i wr => WhereR c a w i wr) (fun i _ => 5 - (intOf i).toNat)
  case atStart => exact ⟨0, by omega, rfl, h0, by simp only [Cf.first]; omega⟩
  case round =>
    clear h0
    obtain ⟨k, hk, rfl, h0, hf⟩ := hrel
    have h1 : w.heap.size ≤ wr.heap.size := h0.size
    have hk' : k = 0 ∨ k = 1 ∨ k = 2 ∨ k = 3 ∨ k = 4 ∨ k = 5 := by omega
    rcases hk' with rfl | rfl | rfl | rfl | rfl | rfl
    · simp only [Cf.first] at hf
      clear e1 x1
      clear e2 x2
      clear e3 x3
      clear e4 x4
      have E := Lib.hid e0
      clear e0
      by_cases hA : a < 0
      · have hA1 : a < 0 := by omega
        go_wp2
        go_roundw
        case rel => exact ⟨1, by omega, rfl, h0.alloc h1 _, .inl hA⟩
        case measure => simp [intOf]
      have hA1 : 0 ≤ a := by omega
      have hB0 : Blk (wr.alloc (.cells #[.int .i64 0, .int .i64 0, .int .i64 8, .int .i64 1] 110)) wr.heap.size 110 #[.int .i64 0, .int .i64 0, .int .i64 8, .int .i64 1] := Blk.new _ _ _
      by_cases hB : a < 8
      · have hpl : c.place a = (0, a, 0) := by
          unfold Cf.place
          repeat (first | rw [if_neg (by omega)] | rw [if_pos (by omega)])
        have HPL := Lib.hid hpl
        clear hpl
        go_wp2_with (go_at_call 58; refine (E.out _).mono ?_; rintro e V ⟨rfl, hb⟩; have hB1 := hB0.below hb hB0.lt; have y0 := hB1.get 0 rfl; have y1 := hB1.get 1 rfl; have y2 := hB1.get 2 rfl; have y3 := hB1.get 3 rfl)
        have hV : Below w.heap.size w V := below_then (h0.alloc h1 _) hb (Nat.le_refl _)
        clear hb hB0 hB1
        generalize wr.heap.size = B at *
        have g0 : 0 ≤ a - 0 := by omega
        have g1 := div_in (x := a - 0) (k := 1) g0 (by omega)
        have r1 : IntKind.i64.wrap (a - 0) = a - 0 := IntWalk.i64_in _ (by omega)
        have r2 : (a - 0).tdiv 1 = (a - 0) / 1 := tdiv_of g0
        have r3 : (a - 0).tmod 1 = (a - 0) % 1 := tmod_of g0
        have r4 : IntKind.i64.wrap (0 + (a - 0) / 1) = 0 + (a - 0) / 1 := IntWalk.i64_in _ (by omega)
        have r5 : IntKind.i64.wrap ((a - 0) / 1) = (a - 0) / 1 := IntWalk.i64_in _ (by omega)
        go_quiet (fail)
        go_wp2
        refine bodyPost_ret (v := plV (0, a, 0)) (by simp [results, Tryz.results93, go_sem]) rfl ⟨by rw [HPL.out], below_drewN hV _⟩
      · have hB2 : 8 ≤ a := by omega
        go_wp2_with (go_at_call 58; refine (E.out _).mono ?_; rintro e V ⟨rfl, hb⟩)
        have hV : Below w.heap.size w V := below_then (h0.alloc h1 _) hb (Nat.le_refl _)
        go_roundw
        case rel => exact ⟨1, by omega, rfl, hV, .inr hB2⟩
        case measure => simp [intOf]
    · simp only [Cf.first] at hf
      clear e0 x0
      clear e2 x2
      clear e3 x3
      clear e4 x4
      have E := Lib.hid e1
      clear e1
      by_cases hA : a < 0
      · have hA1 : a < 8 := by omega
        go_wp2
        go_roundw
        case rel => exact ⟨2, by omega, rfl, h0.alloc h1 _, .inl hA⟩
        case measure => simp [intOf]
      have hA1 : 8 ≤ a := by omega
      have hB0 : Blk (wr.alloc (.cells #[.int .i64 8, .int .i64 0, .int .i64 c.th, .int .i64 c.slots] 110)) wr.heap.size 110 #[.int .i64 8, .int .i64 0, .int .i64 c.th, .int .i64 c.slots] := Blk.new _ _ _
      by_cases hB : a < c.o2
      · have hpl : c.place a = (1, (a - 8) / c.slots, (a - 8) % c.slots) := by
          unfold Cf.place
          repeat (first | rw [if_neg (by omega)] | rw [if_pos (by omega)])
        have HPL := Lib.hid hpl
        clear hpl
        go_wp2_with (go_at_call 58; refine (E.out _).mono ?_; rintro e V ⟨rfl, hb⟩; have hB1 := hB0.below hb hB0.lt; have y0 := hB1.get 0 rfl; have y1 := hB1.get 1 rfl; have y2 := hB1.get 2 rfl; have y3 := hB1.get 3 rfl)
        have hV : Below w.heap.size w V := below_then (h0.alloc h1 _) hb (Nat.le_refl _)
        clear hb hB0 hB1
        generalize wr.heap.size = B at *
        have g0 : 0 ≤ a - 8 := by omega
        have g1 := div_in (x := a - 8) (k := c.slots) g0 (by omega)
        have r1 : IntKind.i64.wrap (a - 8) = a - 8 := IntWalk.i64_in _ (by omega)
        have r2 : (a - 8).tdiv c.slots = (a - 8) / c.slots := tdiv_of g0
        have r3 : (a - 8).tmod c.slots = (a - 8) % c.slots := tmod_of g0
        have r4 : IntKind.i64.wrap (0 + (a - 8) / c.slots) = 0 + (a - 8) / c.slots := IntWalk.i64_in _ (by omega)
        have r5 : IntKind.i64.wrap ((a - 8) / c.slots) = (a - 8) / c.slots := IntWalk.i64_in _ (by omega)
        go_quiet (fail)
        go_wp2
        refine bodyPost_ret (v := plV (1, (a - 8) / c.slots, (a - 8) % c.slots)) (by simp [results, Tryz.results93, go_sem]) rfl ⟨by rw [HPL.out], below_drewN hV _⟩
      · have hB2 : c.o2 ≤ a := by omega
        go_wp2_with (go_at_call 58; refine (E.out _).mono ?_; rintro e V ⟨rfl, hb⟩)
        have hV : Below w.heap.size w V := below_then (h0.alloc h1 _) hb (Nat.le_refl _)
        go_roundw
        case rel => exact ⟨2, by omega, rfl, hV, .inr hB2⟩
        case measure => simp [intOf]
    · simp only [Cf.first] at hf
      clear e0 x0
      clear e1 x1
      clear e3 x3
      clear e4 x4
      have E := Lib.hid e2
      clear e2
      by_cases hA : a < 0
      · have hA1 : a < c.o2 := by omega
        go_wp2
        go_roundw
        case rel => exact ⟨3, by omega, rfl, h0.alloc h1 _, .inl hA⟩
        case measure => simp [intOf]
      have hA1 : c.o2 ≤ a := by omega
      have hB0 : Blk (wr.alloc (.cells #[.int .i64 c.o2, .int .i64 1, .int .i64 c.nd, .int .i64 1] 110)) wr.heap.size 110 #[.int .i64 c.o2, .int .i64 1, .int .i64 c.nd, .int .i64 1] := Blk.new _ _ _
      by_cases hB : a < c.o3
      · have hpl : c.place a = (2, 1 + (a - c.o2), 0) := by
          unfold Cf.place
          repeat (first | rw [if_neg (by omega)] | rw [if_pos (by omega)])
        have HPL := Lib.hid hpl
        clear hpl
        go_wp2_with (go_at_call 58; refine (E.out _).mono ?_; rintro e V ⟨rfl, hb⟩; have hB1 := hB0.below hb hB0.lt; have y0 := hB1.get 0 rfl; have y1 := hB1.get 1 rfl; have y2 := hB1.get 2 rfl; have y3 := hB1.get 3 rfl)
        have hV : Below w.heap.size w V := below_then (h0.alloc h1 _) hb (Nat.le_refl _)
        clear hb hB0 hB1
        generalize wr.heap.size = B at *
        have g0 : 0 ≤ a - c.o2 := by omega
        have g1 := div_in (x := a - c.o2) (k := 1) g0 (by omega)
        have r1 : IntKind.i64.wrap (a - c.o2) = a - c.o2 := IntWalk.i64_in _ (by omega)
        have r2 : (a - c.o2).tdiv 1 = (a - c.o2) / 1 := tdiv_of g0
        have r3 : (a - c.o2).tmod 1 = (a - c.o2) % 1 := tmod_of g0
        have r4 : IntKind.i64.wrap (1 + (a - c.o2) / 1) = 1 + (a - c.o2) / 1 := IntWalk.i64_in _ (by omega)
        have r5 : IntKind.i64.wrap ((a - c.o2) / 1) = (a - c.o2) / 1 := IntWalk.i64_in _ (by omega)
        go_quiet (fail)
        go_wp2
        refine bodyPost_ret (v := plV (2, 1 + (a - c.o2), 0)) (by simp [results, Tryz.results93, go_sem]) rfl ⟨by rw [HPL.out], below_drewN hV _⟩
      · have hB2 : c.o3 ≤ a := by omega
        go_wp2_with (go_at_call 58; refine (E.out _).mono ?_; rintro e V ⟨rfl, hb⟩)
        have hV : Below w.heap.size w V := below_then (h0.alloc h1 _) hb (Nat.le_refl _)
        go_roundw
        case rel => exact ⟨3, by omega, rfl, hV, .inr hB2⟩
        case measure => simp [intOf]
    · simp only [Cf.first] at hf
      clear e0 x0
      clear e1 x1
      clear e2 x2
      clear e4 x4
      have E := Lib.hid e3
      clear e3
      by_cases hA : a < 0
      · have hA1 : a < c.o3 := by omega
        go_wp2
        go_roundw
        case rel => exact ⟨4, by omega, rfl, h0.alloc h1 _, .inl hA⟩
        case measure => simp [intOf]
      have hA1 : c.o3 ≤ a := by omega
      have hB0 : Blk (wr.alloc (.cells #[.int .i64 c.o3, .int .i64 1, .int .i64 c.nd, .int .i64 c.width] 110)) wr.heap.size 110 #[.int .i64 c.o3, .int .i64 1, .int .i64 c.nd, .int .i64 c.width] := Blk.new _ _ _
      by_cases hB : a < c.o4
      · have hpl : c.place a = (3, 1 + (a - c.o3) / c.width, (a - c.o3) % c.width) := by
          unfold Cf.place
          repeat (first | rw [if_neg (by omega)] | rw [if_pos (by omega)])
        have HPL := Lib.hid hpl
        clear hpl
        go_wp2_with (go_at_call 58; refine (E.out _).mono ?_; rintro e V ⟨rfl, hb⟩; have hB1 := hB0.below hb hB0.lt; have y0 := hB1.get 0 rfl; have y1 := hB1.get 1 rfl; have y2 := hB1.get 2 rfl; have y3 := hB1.get 3 rfl)
        have hV : Below w.heap.size w V := below_then (h0.alloc h1 _) hb (Nat.le_refl _)
        clear hb hB0 hB1
        generalize wr.heap.size = B at *
        have g0 : 0 ≤ a - c.o3 := by omega
        have g1 := div_in (x := a - c.o3) (k := c.width) g0 (by omega)
        have r1 : IntKind.i64.wrap (a - c.o3) = a - c.o3 := IntWalk.i64_in _ (by omega)
        have r2 : (a - c.o3).tdiv c.width = (a - c.o3) / c.width := tdiv_of g0
        have r3 : (a - c.o3).tmod c.width = (a - c.o3) % c.width := tmod_of g0
        have r4 : IntKind.i64.wrap (1 + (a - c.o3) / c.width) = 1 + (a - c.o3) / c.width := IntWalk.i64_in _ (by omega)
        have r5 : IntKind.i64.wrap ((a - c.o3) / c.width) = (a - c.o3) / c.width := IntWalk.i64_in _ (by omega)
        go_quiet (fail)
        go_wp2
        refine bodyPost_ret (v := plV (3, 1 + (a - c.o3) / c.width, (a - c.o3) % c.width)) (by simp [results, Tryz.results93, go_sem]) rfl ⟨by rw [HPL.out], below_drewN hV _⟩
      · have hB2 : c.o4 ≤ a := by omega
        go_wp2_with (go_at_call 58; refine (E.out _).mono ?_; rintro e V ⟨rfl, hb⟩)
        have hV : Below w.heap.size w V := below_then (h0.alloc h1 _) hb (Nat.le_refl _)
        go_roundw
        case rel => exact ⟨4, by omega, rfl, hV, .inr hB2⟩
        case measure => simp [intOf]
    · simp only [Cf.first] at hf
      clear e0 x0
      clear e1 x1
      clear e2 x2
      clear e3 x3
      have E := Lib.hid e4
      clear e4
      by_cases hA : a < 0
      · have hA1 : a < c.o4 := by omega
        go_wp2
        go_roundw
        case rel => exact ⟨5, by omega, rfl, h0.alloc h1 _, .inl hA⟩
        case measure => simp [intOf]
      have hA1 : c.o4 ≤ a := by omega
      have hB0 : Blk (wr.alloc (.cells #[.int .i64 c.o4, .int .i64 0, .int .i64 c.places, .int .i64 1] 110)) wr.heap.size 110 #[.int .i64 c.o4, .int .i64 0, .int .i64 c.places, .int .i64 1] := Blk.new _ _ _
      by_cases hB : a < c.size
      · have hpl : c.place a = (4, a - c.o4, 0) := by
          unfold Cf.place
          repeat (first | rw [if_neg (by omega)] | rw [if_pos (by omega)])
        have HPL := Lib.hid hpl
        clear hpl
        go_wp2_with (go_at_call 58; refine (E.out _).mono ?_; rintro e V ⟨rfl, hb⟩; have hB1 := hB0.below hb hB0.lt; have y0 := hB1.get 0 rfl; have y1 := hB1.get 1 rfl; have y2 := hB1.get 2 rfl; have y3 := hB1.get 3 rfl)
        have hV : Below w.heap.size w V := below_then (h0.alloc h1 _) hb (Nat.le_refl _)
        clear hb hB0 hB1
        generalize wr.heap.size = B at *
        have g0 : 0 ≤ a - c.o4 := by omega
        have g1 := div_in (x := a - c.o4) (k := 1) g0 (by omega)
        have r1 : IntKind.i64.wrap (a - c.o4) = a - c.o4 := IntWalk.i64_in _ (by omega)
        have r2 : (a - c.o4).tdiv 1 = (a - c.o4) / 1 := tdiv_of g0
        have r3 : (a - c.o4).tmod 1 = (a - c.o4) % 1 := tmod_of g0
        have r4 : IntKind.i64.wrap (0 + (a - c.o4) / 1) = 0 + (a - c.o4) / 1 := IntWalk.i64_in _ (by omega)
        have r5 : IntKind.i64.wrap ((a - c.o4) / 1) = (a - c.o4) / 1 := IntWalk.i64_in _ (by omega)
        go_quiet (fail)
        go_wp2
        refine bodyPost_ret (v := plV (4, a - c.o4, 0)) (by simp [results, Tryz.results93, go_sem]) rfl ⟨by rw [HPL.out], below_drewN hV _⟩
      · have hB2 : c.size ≤ a := by omega
        go_wp2_with (go_at_call 58; refine (E.out _).mono ?_; rintro e V ⟨rfl, hb⟩)
        have hV : Below w.heap.size w V := below_then (h0.alloc h1 _) hb (Nat.le_refl _)
        go_roundw
        case rel => exact ⟨5, by omega, rfl, hV, .inr hB2⟩
        case measure => simp [intOf]
    · simp only [Cf.first] at hf
      have hpl : c.place a = (5, 0, 0) := by
        unfold Cf.place
        rcases hf with hf | hf
        · rw [if_pos hf]
        · repeat (first | rw [if_neg (by omega)] | rw [if_pos (by omega)])
      have HPL := Lib.hid hpl
      clear hpl
      go_wp2
      refine bodyPost_ret (v := .tuple #[.int .i64 5, .int .i64 0, .int .i64 0]) (by simp [results, Tryz.results93, go_sem]) rfl ⟨by rw [HPL.out], h0⟩
end Go.Proofs.YtemikojaldoofaaGreat.P
