/- What New, Alloc, Retire, Release, do, Count and lives do. -/
import Derived.Test.YtemikojaldoofaaGreatGBase
namespace Go.Proofs.YtemikojaldoofaaGreat.G
open Go.ChangeShapes Go.WideShapes Go.ChangeAt Go.RowKit
set_option linter.unusedVariables false

set_option maxRecDepth 20000


/-- The kind of the fault that a deed is; 0: none. -/
def kindOf (s : GS) (n : Nat) (k i : Int) : Int :=
  if i < 1 ∨ (n : Int) < i then 5 else if k = 3 then (if tagAt s.tags (i - 1).toNat = 0 then 4 else 0) else if tagAt s.tags (i - 1).toNat ≠ k then k + 1 else 0
/-- The ghost behind a deed. -/
def GS.then (s : GS) (n : Nat) (k i : Int) : GS :=
  if kindOf s n k i ≠ 0 then s.bad (kindOf s n k i) i else if k = 3 then s else ⟨s.tags.set (i - 1).toNat ((k + 1) % 3), s.k, s.i⟩

theorem turn_any (B : Nat) (ad : Option Addr) (n : Nat) (s : GS) (k i : Int) (w : World) (g : GAt B ad n s w) (k0 : 0 ≤ k) (k2 : k ≤ 2) :
    Calls Tryz.prog 95 #[at0 B, .int .i64 i, .int .i64 k, .int .i64 (k + 1)] w (Does B ad n (.bool (decide (kindOf s n k i = 0))) (s.then n k i) w) := by
  have k3 : ¬ k = 3 := by omega
  by_cases h : i < 1 ∨ (n : Int) < i
  · have e : kindOf s n k i = 5 := by simp [kindOf, h]
    have e2 : s.then n k i = s.bad 5 i := by simp [GS.then, e]
    rw [e, e2]
    exact turn_no B ad n s i k (k + 1) w g h
  · obtain ⟨j, rfl⟩ : ∃ j : Nat, i = (j : Int) + 1 := ⟨(i - 1).toNat, by omega⟩
    have ej : ((j : Int) + 1 - 1).toNat = j := by omega
    by_cases ht : tagAt s.tags j = k
    · have e : kindOf s n k ((j : Int) + 1) = 0 := by simp [kindOf, h, k3, ht]
      have e2 : s.then n k ((j : Int) + 1) = ⟨s.tags.set j ((k + 1) % 3), s.k, s.i⟩ := by simp [GS.then, e, k3]
      rw [e, e2]
      exact turn_yes B ad n s j k (k + 1) w g (by omega) ht k0 k2
    · have e : kindOf s n k ((j : Int) + 1) = k + 1 := by simp [kindOf, h, k3, ht]
      have e3 : k + 1 ≠ 0 := by omega
      have e2 : s.then n k ((j : Int) + 1) = s.bad (k + 1) ((j : Int) + 1) := by simp [GS.then, e, e3]
      rw [e, e2, decide_eq_false e3]
      exact turn_wrong B ad n s j k (k + 1) w g (by omega) ht e3
theorem touch_any (B : Nat) (ad : Option Addr) (n : Nat) (s : GS) (i : Int) (w : World) (g : GAt B ad n s w) :
    Calls Tryz.prog 94 #[at0 B, .int .i64 i] w (Does B ad n (.bool (decide (kindOf s n 3 i = 0))) (s.then n 3 i) w) := by
  by_cases h : i < 1 ∨ (n : Int) < i
  · have e : kindOf s n 3 i = 5 := by simp [kindOf, h]
    have e2 : s.then n 3 i = s.bad 5 i := by simp [GS.then, e]
    rw [e, e2]
    exact touch_no B ad n s i w g h
  · obtain ⟨j, rfl⟩ : ∃ j : Nat, i = (j : Int) + 1 := ⟨(i - 1).toNat, by omega⟩
    have ej : ((j : Int) + 1 - 1).toNat = j := by omega
    by_cases ht : tagAt s.tags j = 0
    · have e : kindOf s n 3 ((j : Int) + 1) = 4 := by simp [kindOf, h, ht]
      have e2 : s.then n 3 ((j : Int) + 1) = s.bad 4 ((j : Int) + 1) := by simp [GS.then, e]
      rw [e, e2]
      exact touch_free B ad n s j w g (by omega) ht
    · have e : kindOf s n 3 ((j : Int) + 1) = 0 := by simp [kindOf, h, ht]
      have e2 : s.then n 3 ((j : Int) + 1) = s := by simp [GS.then, e]
      rw [e, e2]
      refine (touch_yes B ad n s j w g (by omega) ht).mono ?_
      rintro e w' ⟨rfl, rfl⟩
      exact ⟨rfl, g, Only.refl _ _ _⟩
theorem alloc_any (B : Nat) (ad : Option Addr) (n : Nat) (s : GS) (i : Int) (w : World) (g : GAt B ad n s w) :
    Calls Tryz.prog 102 #[at0 B, .int .i64 i] w (Does B ad n (.bool (decide (kindOf s n 0 i = 0))) (s.then n 0 i) w) := by
  go_enter Tryz.func102, Tryz.ntmps102
  go_wp2_with fail
  refine (turn_any B ad n s 0 i _ g (by decide) (by decide)).mono ?_
  rintro e w' ⟨rfl, hg, ho⟩
  go_wp2
  go_ret
  exact ⟨rfl, hg, ho⟩
theorem retire_any (B : Nat) (ad : Option Addr) (n : Nat) (s : GS) (i : Int) (w : World) (g : GAt B ad n s w) :
    Calls Tryz.prog 83 #[at0 B, .int .i64 i] w (Does B ad n (.bool (decide (kindOf s n 1 i = 0))) (s.then n 1 i) w) := by
  go_enter Tryz.func83, Tryz.ntmps83
  go_wp2_with fail
  refine (turn_any B ad n s 1 i _ g (by decide) (by decide)).mono ?_
  rintro e w' ⟨rfl, hg, ho⟩
  go_wp2
  go_ret
  exact ⟨rfl, hg, ho⟩
theorem release_any (B : Nat) (ad : Option Addr) (n : Nat) (s : GS) (i : Int) (w : World) (g : GAt B ad n s w) :
    Calls Tryz.prog 103 #[at0 B, .int .i64 i] w (Does B ad n (.bool (decide (kindOf s n 2 i = 0))) (s.then n 2 i) w) := by
  go_enter Tryz.func103, Tryz.ntmps103
  go_wp2_with fail
  refine (turn_any B ad n s 2 i _ g (by decide) (by decide)).mono ?_
  rintro e w' ⟨rfl, hg, ho⟩
  go_wp2
  go_ret
  exact ⟨rfl, hg, ho⟩
theorem alloc_nil (i : Int) (w : World) : Calls Tryz.prog 102 #[.pointer none, .int .i64 i] w fun e w' => e = .returned (.bool false) ∧ w = w' := by
  go_enter Tryz.func102, Tryz.ntmps102
  go_wp2_with fail
  refine (turn_nil i 0 1 _).mono ?_
  rintro e w' ⟨rfl, rfl⟩
  go_wp2
  go_ret
  exact ⟨rfl, rfl⟩
theorem retire_nil (i : Int) (w : World) : Calls Tryz.prog 83 #[.pointer none, .int .i64 i] w fun e w' => e = .returned (.bool false) ∧ w = w' := by
  go_enter Tryz.func83, Tryz.ntmps83
  go_wp2_with fail
  refine (turn_nil i 1 2 _).mono ?_
  rintro e w' ⟨rfl, rfl⟩
  go_wp2
  go_ret
  exact ⟨rfl, rfl⟩
theorem release_nil (i : Int) (w : World) : Calls Tryz.prog 103 #[.pointer none, .int .i64 i] w fun e w' => e = .returned (.bool false) ∧ w = w' := by
  go_enter Tryz.func103, Tryz.ntmps103
  go_wp2_with fail
  refine (turn_nil i 2 3 _).mono ?_
  rintro e w' ⟨rfl, rfl⟩
  go_wp2
  go_ret
  exact ⟨rfl, rfl⟩

abbrev opV (k i : Int) : Value := .agg #[.int .i64 k, .int .i64 i]
/-! ### Count -/
def countOf (l : List Int) (t : Int) : Int := (l.countP (· = t) : Nat)
theorem count_nil (t : Int) (w : World) : Calls Tryz.prog 24 #[.pointer none, .int .i64 t] w fun e w' => e = .returned (.int .i64 0) ∧ w = w' := by
  go_enter Tryz.func24, Tryz.ntmps24
  go_wp2
  go_ret
  exact ⟨rfl, rfl⟩
theorem countOf_le (l : List Int) (t : Int) : 0 ≤ countOf l t ∧ countOf l t ≤ l.length := by
  have := List.countP_le_length (l := l) (p := fun x => decide (x = t))
  unfold countOf; omega
theorem countOf_next (l : List Int) (t : Int) (j : Nat) (h : j < l.length) : countOf (l.take (j + 1)) t = countOf (l.take j) t + if tagAt l j = t then 1 else 0 := by
  have e : l.take (j + 1) = l.take j ++ [l[j]] := by rw [List.take_add_one, List.getElem?_eq_getElem h]; rfl
  have e2 : tagAt l j = l[j] := by simp [tagAt, h]
  rw [e2]
  unfold countOf
  rw [e, List.countP_append]
  by_cases hx : l[j] = t <;> simp [hx]
set_option maxHeartbeats 1000000 in
theorem count_any (B : Nat) (ad : Option Addr) (n : Nat) (s : GS) (t : Int) (w : World) (g : GAt B ad n s w) : Calls Tryz.prog 24 #[at0 B, .int .i64 t] w fun e w' => e = .returned (.int .i64 (countOf s.tags t)) ∧ w = w' := by
  have c := g.box.cell 0
  have hs := g.small
  simp at c
  have HL := Lib.hid g.len
  have HR := Lib.hid g.row
  clear g
  obtain ⟨tags, k1, i1⟩ := s
  simp only at HL HR ⊢
  go_enter Tryz.func24, Tryz.ntmps24
  go_wp2
  go_loop [5, 15] (fun c i => ∃ (j : Nat) (m : Int), j ≤ n ∧ i = .int .i64 j ∧ c = .int .i64 m ∧ 0 ≤ m ∧ m ≤ j ∧ Hid (m = countOf (tags.take j) t)) (fun _ i => n - (intOf i).toNat)
  case atStart => exact ⟨0, 0, by omega, rfl, rfl, by omega, by omega, Lib.hid (by simp [countOf])⟩
  case round =>
    obtain ⟨j, m, hj, rfl, rfl, h0, h1, HM⟩ := hrel
    by_cases hlt : j < n
    · obtain ⟨G, rfl, hG⟩ := HR.out (by omega)
      have q := cell_tag (a := j) hG (by rw [HL.out]; exact hlt)
      have HN := Lib.hid (countOf_next tags t j (by rw [HL.out]; exact hlt))
      clear hG
      generalize tagAt tags j = x at *
      by_cases hx : x = t
      · go_wp2
        go_round
        case rel => exact ⟨j + 1, m + 1, by omega, by go_num, by go_num, by omega, by omega, Lib.hid (by rw [HN.out, ← HM.out]; simp [hx])⟩
        case measure => simp [intOf]; omega
      · go_wp2
        go_round
        case rel => exact ⟨j + 1, m, by omega, by go_num, rfl, by omega, by omega, Lib.hid (by rw [HN.out, ← HM.out]; simp [hx])⟩
        case measure => simp [intOf]; omega
    · go_wp2
      go_ret
      refine ⟨?_, rfl⟩
      show Ending.returned (.int .i64 m) = _
      rw [HM.out, List.take_of_length_le (by rw [HL.out]; omega)]

/-! ### New -/
theorem info3 : (Tryz.prog.info? 3).map (fun i => (i.zero, i.size, i.bytes)) = some (some (.int .i64 0), 1, 8) := by kernel_rfl
theorem made (n : Nat) (w : World) (h : n ≤ 64) : (Instr.makeSlice 44 (.int .i64 n) (.int .i64 n)).run Tryz.prog w = .ok (.slice (some ⟨w.heap.size, 0, none⟩) n n) (w.alloc (.cells (encI (List.replicate n 0)) 3)) := by
  obtain ⟨i0, hi, hz0, hz1, hz2⟩ := info_parts info3
  have := run_makeSlice (P := Tryz.prog) w 44 3 i0 (.int .i64 0) Tryz.underlying44 hi hz0 .i64 .i64 n n (by omega) (by omega) (by rw [hz1]; simp; omega) (by rw [hz2]; omega) (by omega)
  rw [this]
  have hc : madeCells (Value.int .i64 0).cells ((n : Int).toNat * i0.size) = encI (List.replicate n 0) := by
    rw [hz1]
    unfold madeCells
    apply Array.ext
    · simp [encI]
    · intro j h1 h2
      simp [encI, Value.cells, Nat.mod_one]
  rw [hc]
  simp
/-- The tags of n nodes, the first m of which are live. -/
def tags0 (n m : Nat) : List Int := List.replicate m 1 ++ List.replicate (n - m) 0
theorem tags0_len {n m : Nat} (h : m ≤ n) : (tags0 n m).length = n := by simp [tags0]; omega
theorem tags0_next {n j : Nat} (h : j < n) : (tags0 n j).set j 1 = tags0 n (j + 1) := by
  obtain ⟨d, rfl⟩ : ∃ d, n = j + (d + 1) := ⟨n - j - 1, by omega⟩
  unfold tags0
  rw [List.set_append_right _ _ (by simp)]
  have e1 : j + (d + 1) - j = d + 1 := by omega
  have e2 : j + (d + 1) - (j + 1) = d := by omega
  simp only [List.length_replicate, Nat.sub_self, e1, e2]
  rw [List.replicate_succ (n := d), List.set_cons_zero, List.replicate_succ' (n := j)]
  simp
/-- A new ghost. -/
def NewG (n : Nat) (s : GS) (w : World) (e : Ending) (w' : World) : Prop :=
  ∃ B ad, e = .returned (at0 B) ∧ Below w.heap.size w w' ∧ GAt B ad n s w' ∧ w.heap.size ≤ B ∧ (∀ g, ad = some ⟨g, 0, none⟩ → w.heap.size ≤ g ∧ g < w'.heap.size)
theorem new_none (n l : Int) (w : World) (h : n < 1 ∨ 64 < n) : Calls Tryz.prog 36 #[.int .i64 n, .int .i64 l] w (NewG 0 ⟨[], 0, 0⟩ w) := by
  have fin : NewG 0 ⟨[], 0, 0⟩ w (.returned (at0 w.heap.size)) (w.alloc (.cells #[.slice none 0 0, .int .i64 0, .int .i64 0] 96)) :=
    ⟨w.heap.size, none, rfl, (Below.refl _ _).alloc (Nat.le_refl _) _, ⟨Blk.new _ _ _, fun h => absurd h (by decide), rfl, by decide, fun _ => rfl⟩, Nat.le_refl _, fun g h => by cases h⟩
  by_cases h0 : n < 1
  · go_enter Tryz.func36, Tryz.ntmps36
    go_wp2
    go_ret
    exact fin
  · have h1 : 64 < n := by omega
    go_enter Tryz.func36, Tryz.ntmps36
    go_wp2
    go_ret
    exact fin
set_option maxHeartbeats 1000000 in
theorem new_some (n : Nat) (l : Int) (w : World) (h1 : 1 ≤ n) (h2 : n ≤ 64) : Calls Tryz.prog 36 #[.int .i64 n, .int .i64 l] w (NewG n ⟨tags0 n (min l n).toNat, 0, 0⟩ w) := by
  have hm := made n w h2
  obtain ⟨m, hmn, HT, qmin⟩ : ∃ m : Int, m ≤ n ∧ Hid ((min l n).toNat = m.toNat) ∧ ∀ w, (Builtin.min_ #[3, 3] 3 #[.int .i64 l, .int .i64 n]).run Tryz.prog w = .ok (.int .i64 m) w := by
    refine ⟨if (n : Int) < l then n else l, by split <;> omega, Lib.hid (by split <;> omega), fun w => by simp [Builtin.min_, Builtin.min2]⟩
  have c0 : ¬ (n : Int) < 1 := by omega
  have c1 : ¬ (64 : Int) < n := by omega
  go_enter Tryz.func36, Tryz.ntmps36
  go_wp2
  have hG : Blk (w.alloc (.cells (encI (tags0 n 0)) 3)) w.heap.size 3 (encI (tags0 n 0)) := Blk.new _ _ _
  have et : tags0 n 0 = List.replicate n 0 := by simp [tags0]
  rw [et] at hG
  have hB := Blk.new (w.alloc (.cells (encI (List.replicate n 0)) 3)) 96 #[.slice (some ⟨w.heap.size, 0, none⟩) n n, .int .i64 0, .int .i64 0]
  have hG := hG.alloc (.cells #[.slice (some ⟨w.heap.size, 0, none⟩) n n, .int .i64 0, .int .i64 0] 96)
  have hb : Below w.heap.size w ((w.alloc (.cells (encI (List.replicate n 0)) 3)).alloc (.cells #[.slice (some ⟨w.heap.size, 0, none⟩) n n, .int .i64 0, .int .i64 0] 96)) := ((Below.refl _ _).alloc (Nat.le_refl _) _).alloc (by simp) _
  have hBn : w.heap.size ≤ (w.alloc (.cells (encI (List.replicate n 0)) 3)).heap.size := by simp
  rw [World.size_alloc] at hB
  clear hm et hBn
  generalize (w.alloc (.cells (encI (List.replicate n 0)) 3)).alloc (.cells #[.slice (some ⟨w.heap.size, 0, none⟩) n n, .int .i64 0, .int .i64 0] 96) = w1 at *
  go_loopw [22] (fun i wr => ∃ j : Nat, (j = 0 ∨ (j : Int) ≤ m) ∧ i = .int .i64 j ∧ Blk wr (w.heap.size + 1) 96 #[.slice (some ⟨w.heap.size, 0, none⟩) n n, .int .i64 0, .int .i64 0] ∧ Blk wr w.heap.size 3 (encI (tags0 n j)) ∧ Below w.heap.size w wr) (fun i _ => m.toNat - (intOf i).toNat)
  case atStart => exact ⟨0, .inl rfl, rfl, hB, by simpa [tags0] using hG, hb⟩
  case round =>
    obtain ⟨j, hj, rfl, gB, gG, gb⟩ := hrel
    clear hB hG hb
    by_cases hlt : (j : Int) < m
    · have c := gB.cell 0
      have q := cell_tag (a := j) gG (by rw [tags0_len (by omega)]; omega)
      have f := gG.frozen j
      simp at c
      have HB := Lib.hid gB
      have HG := Lib.hid gG
      have Hb := Lib.hid gb
      clear gB gG gb
      have hjn : j < n := by omega
      go_wp2
      go_roundw
      case rel => exact ⟨j + 1, .inr (by omega), by go_num, HB.out.far (p := ⟨w.heap.size, j, none⟩) (by simp) _, by rw [← tags0_next hjn]; exact set_tag HG.out _, Hb.out.setCell (p := ⟨w.heap.size, j, none⟩) (by simp) _⟩
      case measure => simp [intOf]; omega
    · have HB := Lib.hid gB
      have HG := Lib.hid gG
      have Hb := Lib.hid gb
      clear gB gG gb
      go_wp2
      go_ret
      have e : (min l n).toNat = j := by have := HT.out; omega
      refine ⟨w.heap.size + 1, some ⟨w.heap.size, 0, none⟩, rfl, Hb.out, ⟨HB.out, fun _ => ⟨_, rfl, by rw [e]; exact HG.out⟩, tags0_len (by omega), h2, fun _ => rfl⟩, by omega, fun g h => ?_⟩
      obtain rfl : w.heap.size = g := by simpa using h
      exact ⟨Nat.le_refl _, HG.out.lt⟩

end Go.Proofs.YtemikojaldoofaaGreat.G
