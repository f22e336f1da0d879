/- The walk of CallParses. -/
import Derived.Test.YtifojpkcegefgaaDoorRefRead
namespace Go.Proofs.YtifojpkcegefgaaDoor
open Go.ChangeShapes Go.WideShapes Go.ChangeAt Go.RowKit
set_option linter.unusedVariables false

/-- The triple of an answer, zeros if there is none. -/
def triO (o : Option Tri) : Tri := o.getD ⟨0, 0, 0⟩
def errO (o : Option Tri) : Int := if o.isSome then 0 else 8
theorem optV_eq (o : Option Tri) : optV o = .tuple #[(triO o).v, .int .i64 (errO o)] := by cases o <;> rfl
theorem refV_eq (o : Option Tri) : refV o = .tuple #[(triO o).v, .bool o.isSome] := by cases o <;> rfl
/-- Two blocks of 24 with c, two of 26 with a. -/
structure PS (c a : Tri) (w : World) (C A D E : Nat) (W : World) : Prop where
  h1 : Blk W C 24 c.cs
  h2 : Blk W A 26 a.cs
  h3 : Blk W D 24 c.cs
  h4 : Blk W E 26 a.cs
  bel : Below w.heap.size w W

set_option maxRecDepth 100000 in
set_option maxHeartbeats 8000000 in
theorem callParses_walk (s : ByteArray) (w : World) (ht : Tab w) (hmx : s.size ≤ maxLen) : Calls Tryd.prog 5 #[.string s] w (Good w) := by
  unfold maxLen at hmx
  by_cases hlong : 200 < s.size
  · have hn : (200 : Int) < s.size := by omega
    go_enter Tryd.func5, Tryd.ntmps5
    go_wp2_with fail
    refine (lives_any _ ht).mono ?_
    rintro e w1 ⟨rfl, hb⟩
    go_wp2
    go_ret
    exact ⟨rfl, hb⟩
  have hn : ¬ (200 : Int) < s.size := by omega
  obtain ⟨l, rfl⟩ : ∃ l : List UInt8, s = ⟨l.toArray⟩ := ⟨s.data.toList, by cases s; simp⟩
  have hl : l.length ≤ 200 := by rw [← mk_size l]; omega
  have K17 := fun w => parse_any l (by omega) w
  have K18 := fun w => read_any l (by omega) w
  have K19 := fun w => refParse_any l (by omega) w
  have K20 := fun w => refRead_any l (by omega) w
  have HT := Lib.hid (fun W (hb : Below w.heap.size w W) => lives_any W (tab_below ht hb))
  simp only [optV_eq] at K17 K18
  simp only [refV_eq] at K19 K20
  have he1 : ∃ b : Bool, (parseL l).isSome = b ∧ errO (parseL l) = if b then 0 else 8 := ⟨_, rfl, rfl⟩
  have he2 : ∃ b : Bool, (readL l).isSome = b ∧ errO (readL l) = if b then 0 else 8 := ⟨_, rfl, rfl⟩
  obtain ⟨b1, eb1, ee1⟩ := he1
  obtain ⟨b2, eb2, ee2⟩ := he2
  rw [ee1] at K17
  rw [ee2] at K18
  rw [eb1] at K19
  rw [eb2] at K20
  have q1 := eq_self 24 (.inl rfl) (triO (parseL l))
  have q2 := eq_self 26 (.inr rfl) (triO (readL l))
  generalize triO (parseL l) = c at *
  generalize triO (readL l) = a at *
  obtain ⟨o, k, v⟩ := c
  obtain ⟨o2, k2, v2⟩ := a
  simp only [Tri.v] at K17 K18 K19 K20 q1 q2
  clear ht ee1 ee2 eb1 eb2 hlong
  have hsz : (ByteArray.mk l.toArray).size = l.length := mk_size l
  cases b1 <;> cases b2 <;> simp only [Bool.false_eq_true, if_false, if_true] at K17 K18
  all_goals
    go_enter Tryd.func5, Tryd.ntmps5
    go_wp2_with fail
    refine (K17 _).mono ?_
    rintro e w1 ⟨rfl, hb⟩
    have x1 := hb.alloc hb.size (.cells #[.int .i64 o, .int .u32 k, .int .u32 v] 24)
    have k1 : Blk (w1.alloc (.cells #[.int .i64 o, .int .u32 k, .int .u32 v] 24)) w1.heap.size 24 #[.int .i64 o, .int .u32 k, .int .u32 v] := Blk.new _ _ _
    clear K17 hb
    go_wp2_with fail
    refine (K18 _).mono ?_
    rintro e w2 ⟨rfl, hb⟩
    have x2 := (below_then x1 hb).alloc (below_then x1 hb).size (.cells #[.int .i64 o2, .int .u32 k2, .int .u32 v2] 26)
    have k12 := (k1.below hb k1.lt).alloc (.cells #[.int .i64 o2, .int .u32 k2, .int .u32 v2] 26)
    have k2_ : Blk (w2.alloc (.cells #[.int .i64 o2, .int .u32 k2, .int .u32 v2] 26)) w2.heap.size 26 #[.int .i64 o2, .int .u32 k2, .int .u32 v2] := Blk.new _ _ _
    clear K18 hb x1 k1
    go_wp2_with fail
    refine (K19 _).mono ?_
    rintro e w3 ⟨rfl, hb⟩
    have x3 := (below_then x2 hb).alloc (below_then x2 hb).size (.cells #[.int .i64 o, .int .u32 k, .int .u32 v] 24)
    have k13 := (k12.below hb k12.lt).alloc (.cells #[.int .i64 o, .int .u32 k, .int .u32 v] 24)
    have k23 := (k2_.below hb k2_.lt).alloc (.cells #[.int .i64 o, .int .u32 k, .int .u32 v] 24)
    have k33 : Blk (w3.alloc (.cells #[.int .i64 o, .int .u32 k, .int .u32 v] 24)) w3.heap.size 24 #[.int .i64 o, .int .u32 k, .int .u32 v] := Blk.new _ _ _
    clear K19 hb x2 k12 k2_
    go_wp2_with fail
    refine (K20 _).mono ?_
    rintro e w4 ⟨rfl, hb⟩
    have x4 := (below_then x3 hb).alloc (below_then x3 hb).size (.cells #[.int .i64 o2, .int .u32 k2, .int .u32 v2] 26)
    have k14 := (k13.below hb k13.lt).alloc (.cells #[.int .i64 o2, .int .u32 k2, .int .u32 v2] 26)
    have k24 := (k23.below hb k23.lt).alloc (.cells #[.int .i64 o2, .int .u32 k2, .int .u32 v2] 26)
    have k34 := (k33.below hb k33.lt).alloc (.cells #[.int .i64 o2, .int .u32 k2, .int .u32 v2] 26)
    have k44 : Blk (w4.alloc (.cells #[.int .i64 o2, .int .u32 k2, .int .u32 v2] 26)) w4.heap.size 26 #[.int .i64 o2, .int .u32 k2, .int .u32 v2] := Blk.new _ _ _
    clear K20 hb x3 k13 k23 k33
    obtain ⟨c10, c11, c12, _⟩ := blk_cells k14
    obtain ⟨c20, c21, c22, _⟩ := blk_cells k24
    obtain ⟨c30, c31, c32, _⟩ := blk_cells k34
    obtain ⟨c40, c41, c42, _⟩ := blk_cells k44
    have HX := Lib.hid x4
    have HL := Lib.hid (HT.out _ x4)
    have hlt1 := k14.lt
    have hlt2 := k24.lt
    have hlt3 := k34.lt
    simp at hlt1 hlt2 hlt3
    clear HT x4 k14 k24 k34 k44
    go_wp2_with fail
    refine HL.out.mono ?_
    rintro e w5 ⟨rfl, hb⟩
    have HE := Lib.hid (below_then HX.out hb)
    clear hb HL HX
    go_wp2
    go_ret
    exact ⟨rfl, HE.out⟩
end Go.Proofs.YtifojpkcegefgaaDoor
