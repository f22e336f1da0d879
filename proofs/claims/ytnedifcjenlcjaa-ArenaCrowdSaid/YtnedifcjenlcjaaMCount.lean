/- What count, New, Len, Steps and Watch do. -/
import Derived.Test.YtnedifcjenlcjaaMMem
import Derived.Deep.RegionLaw
import Derived.BigRegion
namespace Go.Proofs.Ytnedifcjenlcjaa
open Go.ChangeShapes Go.WideShapes Go.ChangeAt Go.RowKit
set_option linter.unusedVariables false
set_option maxRecDepth 20000
theorem steps_nil (w : World) : Calls Try.prog 11 #[.pointer none] w fun e w' => e = .returned (.int .i64 0) ∧ w = w' := by
  go_enter Try.func11, Try.ntmps11
  go_wp2
  go_ret
  exact ⟨rfl, rfl⟩
theorem words_nil (w : World) : Calls Try.prog 50 #[.pointer none] w fun e w' => e = .returned (.slice none 0 0) ∧ w = w' := by
  go_enter Try.func50, Try.ntmps50
  go_wp2
  go_ret
  exact ⟨rfl, rfl⟩

theorem steps_any (B : Nat) (s : MS) (O : Nat → Prop) (w : World) (h : MemAt B s O w) :
    Calls Try.prog 11 #[at0 B] w fun e w' => e = .returned (.int .i64 s.st) ∧ w = w' := by
  obtain ⟨G, v, rfl, hb, hg, hr⟩ := h
  have c := hb.cell 1
  simp at c
  go_enter Try.func11, Try.ntmps11
  go_wp2
  go_ret
  exact ⟨rfl, rfl⟩

theorem made (n : Nat) (w : World) (h : n ≤ 4096) : (Instr.makeSlice 56 (.int .i64 n) (.int .i64 n)).run Try.prog w = .ok (.slice (some ⟨w.heap.size, 0, none⟩) n n) (w.alloc (.cells (encU (List.replicate n 0)).toArray 48)) := by
  obtain ⟨i0, hi, hz0, hz1, hz2⟩ := info_parts info48
  have := run_makeSlice (P := Try.prog) w 56 48 i0 (.int .u64 0) Try.underlying56 hi hz0 .i64 .i64 n n (by omega) (by omega) (by rw [hz1]; simp; omega) (by rw [hz2]; omega) (by omega)
  rw [this]
  have hc : madeCells (Value.int .u64 0).cells ((n : Int).toNat * i0.size) = (encU (List.replicate n 0)).toArray := by
    rw [hz1]
    unfold madeCells
    apply Array.ext
    · simp [encU]
    · intro j h1 h2
      simp [encU, Value.cells, Nat.mod_one]
  rw [hc]
  simp

/-- A new memory. -/
def NewMem (n : Nat) (w : World) (e : Ending) (w' : World) : Prop :=
  e = .returned (.tuple #[at0 (w.heap.size + 1), .int .i64 0]) ∧ Below w.heap.size w w' ∧ ∃ O, MemAt (w.heap.size + 1) ⟨List.replicate n 0, 0, false, []⟩ O w' ∧ ∀ k, O k → w.heap.size ≤ k
theorem new_yes (n : Nat) (w : World) (h0 : 1 ≤ n) (h : n ≤ 4096) :
    Calls Try.prog 24 #[.int .i64 n] w (NewMem n w) := by
  have hm := made n w h
  go_enter Try.func24, Try.ntmps24
  go_wp2
  go_ret2
  have hb : Blk (w.alloc (.cells (encU (List.replicate n 0)).toArray 48)) w.heap.size 48 (encU (List.replicate n 0)).toArray := Blk.new _ _ _
  refine ⟨rfl, ((Below.refl _ _).alloc (Nat.le_refl _) _).alloc (by simp) _, _, ⟨w.heap.size, .slice none 0 0, rfl, ?_, hb.alloc _, World.ownsRow_nil _ _ _ _⟩, ?_⟩
  · have := Blk.new (w.alloc (.cells (encU (List.replicate n 0)).toArray 48)) 79 #[.slice (some ⟨w.heap.size, 0, none⟩) n n, .int .i64 0, .bool false, .slice none 0 0]
    simpa using this
  · rintro k (rfl | rfl | h)
    · omega
    · omega
    · cases h
theorem new_no (n : Int) (w : World) (h : n < 1 ∨ 4096 < n) :
    Calls Try.prog 24 #[.int .i64 n] w fun e w' => e = .returned (.tuple #[.pointer none, .int .i64 2]) ∧ w = w' := by
  by_cases h0 : n < 1
  · go_enter Try.func24, Try.ntmps24
    go_wp2
    go_ret2
    exact ⟨rfl, rfl⟩
  · have h1 : 4096 < n := by omega
    go_enter Try.func24, Try.ntmps24
    go_wp2
    go_ret2
    exact ⟨rfl, rfl⟩

/-! ### count -/
theorem st_next (st : Int) (h0 : 0 ≤ st) (h1 : st ≤ 1000000000) : IntKind.i64.wrap (st + 1) = st + 1 := IntWalk.i64_in _ (by omega)

set_option maxHeartbeats 1000000 in
theorem count_off (B : Nat) (s : MS) (O : Nat → Prop) (k a b : Int) (d : Bool) (w : World) (h : MemAt B s O w) (hw : s.wa = false) (h0 : 0 ≤ s.st) (h1 : s.st ≤ 1000000000) :
    Calls Try.prog 78 #[at0 B, .agg #[.int .i64 k, .int .i64 a, .int .i64 b, .bool d]] w (Does B (.tuple #[]) (s.counted (k, a, b, d)) O w) := by
  obtain ⟨ws, st, wa, log⟩ := s
  obtain rfl : wa = false := hw
  obtain ⟨G, v, rfl, hb, hg, hr⟩ := h
  simp only at h0 h1 hb hg hr
  have lb := hb.lt
  have c1 := hb.cell 1
  have c2 := hb.cell 2
  have f1 := hb.frozen 1
  simp at c1 c2
  go_enter Try.func78, Try.ntmps78
  go_wp2
  go_end0
  refine ⟨rfl, _, ((Keeps.refl _ w).setCell (.inl (.inl rfl)) _).alloc _, Later.refl _ _, G, v, rfl, ?_, (hg.far (hg.ne hb (by decide)) _).alloc _, (ownsRow_setCell_other hr (hb.not_row hr (by decide)) _).alloc _⟩
  simpa [MS.counted] using (hb.set 1 (.int .i64 (st + 1))).alloc (.cells #[.int .i64 k, .int .i64 a, .int .i64 b, .bool d] 126)

theorem cell3 {B : Nat} {w2 w3 : World} {o : Obj} {x0 x1 x2 v : Value} (hb : Blk w2 B 79 #[x0, x1, x2, v]) (nb : v.ownBlock ≠ some B) (hg : ((w2.alloc o).drew).grownBy w3 v.ownBlock) : w3.cell? ⟨B, 3, none⟩ = some v := by
  have := (Blk.agree (W := (w2.alloc o).drew) (W' := w3) (hb.alloc o) (hg.block B (by have := hb.lt; simp [World.drew]; omega) (Ne.symm nb))).cell 3
  simpa using this
theorem frozen3 {B : Nat} {w2 w3 : World} {o : Obj} {x0 x1 x2 v : Value} (hb : Blk w2 B 79 #[x0, x1, x2, v]) (nb : v.ownBlock ≠ some B) (hg : ((w2.alloc o).drew).grownBy w3 v.ownBlock) : w3.frozen? ⟨B, 3, none⟩ = false :=
  (Blk.agree (W := (w2.alloc o).drew) (W' := w3) (hb.alloc o) (hg.block B (by have := hb.lt; simp [World.drew]; omega) (Ne.symm nb))).frozen 3

theorem logged {B G gg cap n : Nat} {w w2 w3 : World} {o : Obj} {v : Value} {ws : List Int} {st : Int} {log : List Acc} {x : Acc} (hb : Blk w2 B 79 #[.slice (some ⟨G, 0, none⟩) ws.length ws.length, .int .i64 (st + 1), .bool true, v])
    (hg : Blk w2 G 48 (encU ws).toArray) (hr : w2.ownsRow 0 126 4 v n (encL log)) (hn : log.length = n) (kw : Keeps (fun k => k = B ∨ k = G ∨ v.ownBlock = some k) w w2) (hs : w.heap.size ≤ w2.heap.size)
    (ho : w3.ownsRow 0 126 4 (.slice (some ⟨gg, 0, none⟩) (n + 1) cap) (n + 1) (encL log ++ encA x)) (hgr : ((w2.alloc o).drew).grownBy w3 v.ownBlock) (hat : v.ownBlock = some gg ∨ gg = w2.heap.size + 1) :
    Turn B (MS.counted ⟨ws, st, true, log⟩ x) (fun k => k = B ∨ k = G ∨ v.ownBlock = some k) w (w3.setCell ⟨B, 3, none⟩ (.slice (some ⟨gg, 0, none⟩) (n + 1) cap)) := by
  have nb := hb.not_row hr (by decide)
  have ng := hg.not_row hr (by decide)
  have hb3 : Blk w3 B 79 _ := Blk.agree (W := (w2.alloc o).drew) (hb.alloc o) (hgr.block B (by have := hb.lt; simp [World.drew]; omega) (Ne.symm nb))
  have hg3 : Blk w3 G 48 _ := Blk.agree (W := (w2.alloc o).drew) (hg.alloc o) (hgr.block G (by have := hg.lt; simp [World.drew]; omega) (Ne.symm ng))
  refine ⟨fun k => k = B ∨ k = G ∨ (Value.slice (some ⟨gg, 0, none⟩) (n + 1) cap).ownBlock = some k, ((kw.alloc o).drew.grown hgr (fun k e => .inl (.inr (.inr e)))).setCell (.inl (.inl rfl)) _, ?_, G, _, rfl, ?_, hg3.far (hg3.ne hb3 (by decide)) _, ?_⟩
  · rintro k (rfl | rfl | hk)
    · exact .inl (.inl rfl)
    · exact .inl (.inr (.inl rfl))
    · have hk' : gg = k := by simpa [Value.ownBlock] using hk
      subst hk'
      rcases hat with h | h
      · exact .inl (.inr (.inr h))
      · exact .inr (by omega)
  · simpa [MS.counted] using hb3.set 3 (.slice (some ⟨gg, 0, none⟩) (n + 1) cap)
  · have := ownsRow_setCell_other (a := ⟨B, 3, none⟩) ho (hb3.not_row ho (by decide)) (.slice (some ⟨gg, 0, none⟩) (n + 1) cap)
    simpa [MS.counted, encL_snoc, hn] using this

set_option maxHeartbeats 4000000 in
theorem count_on (B : Nat) (s : MS) (O : Nat → Prop) (k a b : Int) (d : Bool) (w : World) (h : MemAt B s O w) (hw : s.wa = true) (h0 : 0 ≤ s.st) (h1 : s.st ≤ 1000000000) (h2 : s.log.length ≤ 1000000) :
    Calls Try.prog 78 #[at0 B, .agg #[.int .i64 k, .int .i64 a, .int .i64 b, .bool d]] w (Does B (.tuple #[]) (s.counted (k, a, b, d)) O w) := by
  obtain ⟨ws, st, wa, log⟩ := s
  obtain rfl : wa = true := hw
  obtain ⟨G, v, rfl, hb, hg, hr⟩ := h
  simp only at h0 h1 h2 hb hg hr
  obtain ⟨i0, hi, hz0, hz1, hz2⟩ := info_parts info126
  have lb := hb.lt
  have c1 := hb.cell 1
  have c2 := hb.cell 2
  have f1 := hb.frozen 1
  have f3 := hb.frozen 3
  have hx : Blk (w.alloc (.cells #[.int .i64 k, .int .i64 a, .int .i64 b, .bool d] 126)) w.heap.size 126 _ := Blk.new _ _ _
  simp at c1 c2
  go_enter Try.func78, Try.ntmps78
  go_wp2
  have kW : Keeps (fun k => k = B ∨ k = G ∨ v.ownBlock = some k) w ((w.setCell ⟨B, 1, none⟩ (.int .i64 (st + 1))).alloc (.cells #[.int .i64 k, .int .i64 a, .int .i64 b, .bool d] 126)) := ((Keeps.refl _ w).setCell (.inl (.inl rfl)) _).alloc _
  have hb2 : Blk ((w.setCell ⟨B, 1, none⟩ (.int .i64 (st + 1))).alloc (.cells #[.int .i64 k, .int .i64 a, .int .i64 b, .bool d] 126)) B 79 #[.slice (some ⟨G, 0, none⟩) ws.length ws.length, .int .i64 (st + 1), .bool true, v] := by
    simpa using (hb.set 1 (.int .i64 (st + 1))).alloc _
  have hg2 := (hg.far (p := ⟨B, 1, none⟩) (hg.ne hb (by decide)) (.int .i64 (st + 1))).alloc (.cells #[.int .i64 k, .int .i64 a, .int .i64 b, .bool d] 126)
  have hr2 := (ownsRow_setCell_other (a := ⟨B, 1, none⟩) hr (hb.not_row hr (by decide)) (.int .i64 (st + 1))).alloc (.cells #[.int .i64 k, .int .i64 a, .int .i64 b, .bool d] 126)
  have hx2 : Blk ((w.setCell ⟨B, 1, none⟩ (.int .i64 (st + 1))).alloc (.cells #[.int .i64 k, .int .i64 a, .int .i64 b, .bool d] 126)) w.heap.size 126 #[.int .i64 k, .int .i64 a, .int .i64 b, .bool d] := by
    simpa using Blk.new (w.setCell ⟨B, 1, none⟩ (.int .i64 (st + 1))) 126 #[.int .i64 k, .int .i64 a, .int .i64 b, .bool d]
  have KW := Lib.hid kW
  clear hb hg c1 c2 f1 f3 hx lb kW
  generalize (w.setCell ⟨B, 1, none⟩ (.int .i64 (st + 1))).alloc (.cells #[.int .i64 k, .int .i64 a, .int .i64 b, .bool d] 126) = w2 at *
  have nx : v.ownBlock ≠ some w.heap.size := fun e => by have := (hr.lt _ e).2; omega
  clear hr
  generalize w.heap.size = X at *
  have c3 := hb2.cell 3
  have f3 := hb2.frozen 3
  have lb := hb2.lt
  have lx := hx2.lt
  have nb := hb2.not_row hr2 (by decide)
  have x0 := hx2.cell 0
  have x1 := hx2.cell 1
  have x2 := hx2.cell 2
  have x3 := hx2.cell 3
  simp at c3 x0 x1 x2 x3
  obtain ⟨n, hn⟩ : ∃ n, log.length = n := ⟨_, rfl⟩
  rw [hn] at h2 hr2
  have HN := Lib.hid hn
  clear hn
  go_region_law
    ((refine step_append_lies _ (by rfl) _ _ _ (by rfl) 0 126 i0 _ 4 32 Try.underlying77 hi hz0 hz1 hz2 rfl (by omega) v n (encL log) (by rfl) ((hr2.alloc _).drew)
        ⟨w2.heap.size, 0, none⟩ 1 1 [.int .i64 k, .int .i64 a, .int .i64 b, .bool d] (by rfl) (by rfl) (World.news_of_block (cs := #[.int .i64 k, .int .i64 a, .int .i64 b, .bool d]) (t := 126) (fr := (0, 0)) (heap_alloc_new w2 _)) (by simp [Value.oneCell'])
        (by omega) (by unfold maxLen; omega) (by omega) (by omega) (w2.heap.size + 1) (by simp) ?_; intro gg cap w3 hown3 hgrow hat hlt; have c4 := cell3 hb2 nb hgrow; have f4 := frozen3 hb2 nb hgrow))
  all_goals
    go_end0
    exact ⟨rfl, logged hb2 hg2 hr2 HN.out KW.out KW.out.size hown3 hgrow hat⟩
theorem count_any (B : Nat) (s : MS) (O : Nat → Prop) (k a b : Int) (d : Bool) (w : World) (h : MemAt B s O w) (h0 : 0 ≤ s.st) (h1 : s.st ≤ 1000000000) (h2 : s.log.length ≤ 1000000) :
    Calls Try.prog 78 #[at0 B, .agg #[.int .i64 k, .int .i64 a, .int .i64 b, .bool d]] w (Does B (.tuple #[]) (s.counted (k, a, b, d)) O w) := by
  by_cases hw : s.wa = true
  · exact count_on B s O k a b d w h hw h0 h1 h2
  · exact count_off B s O k a b d w h (by simpa using hw) h0 h1
end Go.Proofs.Ytnedifcjenlcjaa
