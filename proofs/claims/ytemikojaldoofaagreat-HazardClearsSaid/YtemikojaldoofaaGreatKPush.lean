/- Frames: what Push does. -/
import Derived.Test.YtemikojaldoofaaGreatKArg
import Derived.Test.YtemikojaldoofaaGreatMA
import Derived.Laws.CopyRow
import Derived.Deep.RegionLaw
import Derived.BigRegion
namespace Go.Proofs.YtemikojaldoofaaGreat
open Go.ChangeShapes Go.WideShapes Go.ChangeAt Go.RowKit
set_option linter.unusedVariables false


set_option maxRecDepth 20000

/-- A frame, written plainly: its routine, where it is, its ten registers. -/
structure Fr where
  fn : Int
  pc : Int
  r : List Int
/-- Ten registers of any number of numbers. -/
def ten (rs : List Int) : List Int := (List.range 10).map fun i => rs.getD i 0
abbrev Fr.cs (f : Fr) : List Value := .int .i64 f.fn :: .int .i64 f.pc :: (ten f.r).map (.int .u64)
def encFs (l : List Fr) : List Value := l.flatMap Fr.cs
theorem cs_len (f : Fr) : f.cs.length = 12 := by simp [Fr.cs, ten]
theorem encFs_len (l : List Fr) : (encFs l).length = l.length * 12 := by
  induction l with
  | nil => rfl
  | cons x l ih => simp [encFs, Fr.cs, ten] at ih ⊢; omega
theorem encFs_snoc (l : List Fr) (f : Fr) : encFs (l ++ [f]) = encFs l ++ f.cs := by simp [encFs]
theorem info103 : (Tryz.prog.info? 103).map (fun i => (i.zero, i.size, i.bytes)) = some (some (.agg #[.int .i64 0, .int .i64 0, .int .u64 0, .int .u64 0, .int .u64 0, .int .u64 0, .int .u64 0, .int .u64 0, .int .u64 0, .int .u64 0, .int .u64 0, .int .u64 0]), 12, 96) := by kernel_rfl
abbrev fr12 (fn pc : Int) (g : Nat → Int) : Array Value := #[.int .i64 fn, .int .i64 pc, .int .u64 (g 0), .int .u64 (g 1), .int .u64 (g 2), .int .u64 (g 3), .int .u64 (g 4), .int .u64 (g 5), .int .u64 (g 6), .int .u64 (g 7), .int .u64 (g 8), .int .u64 (g 9)]
theorem fr12_cs (fn pc : Int) (rs : List Int) : (fr12 fn pc fun i => rs.getD i 0).toList = Fr.cs ⟨fn, pc, rs⟩ := by simp [Fr.cs, ten, List.range, List.range.loop]
theorem fr12_zero (fn pc : Int) : fr12 fn pc (fun i => ([] : List Int).getD i 0) = #[.int .i64 fn, .int .i64 pc, .int .u64 0, .int .u64 0, .int .u64 0, .int .u64 0, .int .u64 0, .int .u64 0, .int .u64 0, .int .u64 0, .int .u64 0, .int .u64 0] := by simp
theorem copied_list (x y : Value) (rs : List Int) : [x, y] ++ (rs.take 10).map (Value.int .u64) ++ [Value.int .u64 0, .int .u64 0, .int .u64 0, .int .u64 0, .int .u64 0, .int .u64 0, .int .u64 0, .int .u64 0, .int .u64 0, .int .u64 0].drop (rs.take 10).length = x :: y :: (ten rs).map (.int .u64) := by
  match rs with
  | [] => rfl
  | [_] => rfl
  | [_, _] => rfl
  | [_, _, _] => rfl
  | [_, _, _, _] => rfl
  | [_, _, _, _, _] => rfl
  | [_, _, _, _, _, _] => rfl
  | [_, _, _, _, _, _, _] => rfl
  | [_, _, _, _, _, _, _, _] => rfl
  | [_, _, _, _, _, _, _, _, _] => rfl
  | _ :: _ :: _ :: _ :: _ :: _ :: _ :: _ :: _ :: _ :: l => simp [ten, List.range, List.range.loop]

/-- A world in which one block has other cells. -/
theorem setRow_blk {W : World} {g : Nat} {t : TypeId} {cs cs' : Array Value} (h : Blk W g t cs) : Blk (W.setRow g cs') g t cs' := by
  unfold Blk at h ⊢
  unfold World.setRow
  simp [Array.getElem?_modify, h]
theorem setRow_far (W : World) (g : Nat) (cs' : Array Value) (k : Nat) (hk : k ≠ g) : (W.setRow g cs').heap[k]? = W.heap[k]? := by
  unfold World.setRow
  simp [Array.getElem?_modify, Ne.symm hk]
theorem setRow_size (W : World) (g : Nat) (cs' : Array Value) : (W.setRow g cs').heap.size = W.heap.size := by
  unfold World.setRow
  simp
/-- Of two worlds the second one has other cells at the block g alone. -/
structure But (g : Nat) (W W' : World) : Prop where
  os : W'.os = W.os
  tape : W'.tape = W.tape
  output : W'.output = W.output
  size : W'.heap.size = W.heap.size
  block : ∀ k, k ≠ g → W'.heap[k]? = W.heap[k]?
theorem But.setRow (W : World) (g : Nat) (cs' : Array Value) : But g W (W.setRow g cs') := ⟨rfl, rfl, rfl, setRow_size W g cs', fun k hk => setRow_far W g cs' k hk⟩
theorem But.refl (g : Nat) (W : World) : But g W W := ⟨rfl, rfl, rfl, rfl, fun _ _ => rfl⟩

theorem Row.after {k : IntKind} {w : World} {a : Option Addr} {n cap : Nat} {zs : List Int} (h : F.Row k w a n cap zs) (o : Obj) : F.Row k (w.alloc o) a n cap zs := by
  have b : Below w.heap.size w (w.alloc o) := (Below.refl _ _).alloc (Nat.le_refl _) _
  refine ⟨h.len, h.room, ?_, h.cells b, h.wf⟩
  rcases h.form with h1 | ⟨x, e, hx⟩
  · exact .inl h1
  · exact .inr ⟨x, e, fun j u hj => by
      have := hx j u hj
      rw [Below.cell b (World.block_lt_of_cell? w _ this)]
      exact this⟩
/-- The registers are copied into a new frame. -/
theorem copy_regs (W : World) (Fb : Nat) (fn : Int) (a : Option Addr) (n cap : Nat) (rs : List Int) (R : F.Row .u64 W a n cap rs) (hF : Blk W Fb 103 (fr12 fn 0 fun i => ([] : List Int).getD i 0)) :
    ∃ W1 : World, ∃ k : Int, (∀ ty, (Builtin.copy_ #[43, 43] ty #[.slice (some ⟨Fb, 2, none⟩) 10 10, .slice a n cap]).run Tryz.prog W = .ok (.int .i64 k) W1) ∧ But Fb W W1 ∧ Blk W1 Fb 103 (fr12 fn 0 fun i => rs.getD i 0) := by
  have hs : (Tryz.prog.info? 24).map (·.size) = some 1 := by kernel_rfl
  rcases R.form with ⟨rfl, rfl, rfl⟩ | ⟨x, rfl, hx⟩
  · have hnil : rs = [] := List.eq_nil_of_length_eq_zero R.len
    subst hnil
    exact ⟨W, 0, fun ty => by
      have := run_copy_nil (P := Tryz.prog) W 43 43 ty 24 ⟨Fb, 2, none⟩ 10 10 Tryz.underlying43 (by
        cases hq : Tryz.prog.info? 24 with
        | none => rw [hq] at hs; cases hs
        | some i => rfl)
      simpa [goInt] using this, But.refl _ _, hF⟩
  · have hl : ((rs.take 10).map (Value.int .u64)).length = Nat.min n 10 := by
      rw [List.length_map, List.length_take, R.len]
      show min 10 n = min n 10
      omega
    have hc := fun ty => run_copy_row (P := Tryz.prog) W 43 43 ty 24 Fb 2 10 10 x n cap _ 103 ((rs.take 10).map (Value.int .u64)) Tryz.underlying43 hs hF hl (fun j u hj => hx j u (by
      rw [List.getElem?_map, Option.map_eq_some_iff] at hj ⊢
      obtain ⟨y, hy, rfl⟩ := hj
      rw [List.getElem?_take] at hy
      split at hy
      · exact ⟨y, hy, rfl⟩
      · cases hy)) (by
      rw [hl]
      show 2 + min n 10 ≤ 12
      omega) (ints_oneCell .u64 _)
    refine ⟨_, _, fun ty => hc ty, But.setRow _ _ _, ?_⟩
    have := setRow_blk (cs' := ((fr12 fn 0 fun i => ([] : List Int).getD i 0).toList.take 2 ++ (rs.take 10).map (Value.int .u64) ++ (fr12 fn 0 fun i => ([] : List Int).getD i 0).toList.drop (2 + ((rs.take 10).map (Value.int .u64)).length)).toArray) hF
    have he : ((fr12 fn 0 fun i => ([] : List Int).getD i 0).toList.take 2 ++ (rs.take 10).map (Value.int .u64) ++ (fr12 fn 0 fun i => ([] : List Int).getD i 0).toList.drop (2 + ((rs.take 10).map (Value.int .u64)).length)).toArray = fr12 fn 0 fun i => rs.getD i 0 := by
      have h1 := fr12_cs fn 0 rs
      have h2 := copied_list (.int .i64 fn) (.int .i64 0) rs
      have h3 : (fr12 fn 0 fun i => ([] : List Int).getD i 0).toList.drop (2 + ((rs.take 10).map (Value.int .u64)).length) = [Value.int .u64 0, .int .u64 0, .int .u64 0, .int .u64 0, .int .u64 0, .int .u64 0, .int .u64 0, .int .u64 0, .int .u64 0, .int .u64 0].drop (rs.take 10).length := by
        rw [List.length_map, ← List.drop_drop]
        rfl
      rw [h3]
      have h4 : (fr12 fn 0 fun i => ([] : List Int).getD i 0).toList.take 2 = [.int .i64 fn, .int .i64 0] := rfl
      rw [h4, h2]
      have h5 : (Value.int .i64 fn :: .int .i64 0 :: (ten rs).map (.int .u64)) = (fr12 fn 0 fun i => rs.getD i 0).toList := h1.symm
      rw [h5]
    unfold Blk at this ⊢
    rw [this, he]

/-- What Push leaves: the frames' slice has become another. -/
def Pushed (T off : Nat) (cs : Array Value) (v : Value) (l : List Fr) (w : World) (e : Ending) (w' : World) : Prop :=
  e = .returned (.tuple #[]) ∧ ∃ v', Blk w' T 48 (cs.setIfInBounds (off + 1) v') ∧ w'.ownsRow 0 103 12 v' l.length (encFs l) ∧ Keeps (fun k => k = T ∨ v.ownBlock = some k) w w' ∧ (∀ k, v'.ownBlock = some k → v.ownBlock = some k ∨ w.heap.size ≤ k)
theorem push_nil (fn : Int) (v : Value) (w : World) : Calls Tryz.prog 28 #[.pointer none, .int .i64 fn, v] w fun e w' => e = .returned (.tuple #[]) ∧ w = w' := by
  go_enter Tryz.func28, Tryz.ntmps28
  go_wp2
  exact bodyPost_ret (v := .tuple #[]) (by simp [results, Tryz.results28, go_sem]) rfl ⟨rfl, rfl⟩

theorem cellT {T i : Nat} {cs : Array Value} {w2 w3 : World} {o : Obj} {v : Value} (hb : Blk w2 T 48 cs) (hv : cs[i]? = some v) (nb : v.ownBlock ≠ some T) (hg : ((w2.alloc o).drew).grownBy w3 v.ownBlock) : w3.cell? ⟨T, i, none⟩ = some v :=
  ((Blk.agree (W := (w2.alloc o).drew) (W' := w3) (hb.alloc o) (hg.block T (by have := hb.lt; simp [World.drew]; omega) (Ne.symm nb))).cell i).trans hv
theorem frozenT {T : Nat} {cs : Array Value} {w2 w3 : World} {o : Obj} {v : Value} (hb : Blk w2 T 48 cs) (nb : v.ownBlock ≠ some T) (hg : ((w2.alloc o).drew).grownBy w3 v.ownBlock) (i : Nat) : w3.frozen? ⟨T, i, none⟩ = false :=
  (Blk.agree (W := (w2.alloc o).drew) (W' := w3) (hb.alloc o) (hg.block T (by have := hb.lt; simp [World.drew]; omega) (Ne.symm nb))).frozen i
theorem pushed_fin {T off gg cp m : Nat} {cs : Array Value} {w w2 w3 : World} {o : Obj} {v : Value} {l : List Fr} {f : Fr} {xs : List Value} (hb : Blk w2 T 48 cs) (hv : cs[off + 1]? = some v)
    (hr : w2.ownsRow 0 103 12 v m (encFs l)) (hn : l.length = m) (hxs : xs = f.cs) (kw : Keeps (fun k => k = T ∨ v.ownBlock = some k) w w2)
    (ho : w3.ownsRow 0 103 12 (.slice (some ⟨gg, 0, none⟩) (m + 1) cp) (m + 1) (encFs l ++ xs)) (hgr : ((w2.alloc o).drew).grownBy w3 v.ownBlock) (hat : v.ownBlock = some gg ∨ gg = w2.heap.size + 1) :
    ∃ v', Blk (w3.setCell ⟨T, off + 1, none⟩ (.slice (some ⟨gg, 0, none⟩) (m + 1) cp)) T 48 (cs.setIfInBounds (off + 1) v') ∧ (w3.setCell ⟨T, off + 1, none⟩ (.slice (some ⟨gg, 0, none⟩) (m + 1) cp)).ownsRow 0 103 12 v' (l ++ [f]).length (encFs (l ++ [f])) ∧
      Keeps (fun k => k = T ∨ v.ownBlock = some k) w (w3.setCell ⟨T, off + 1, none⟩ (.slice (some ⟨gg, 0, none⟩) (m + 1) cp)) ∧ (∀ k, v'.ownBlock = some k → v.ownBlock = some k ∨ w.heap.size ≤ k) := by
  have nb := hb.not_row hr (by decide)
  have hb3 : Blk w3 T 48 _ := Blk.agree (W := (w2.alloc o).drew) (hb.alloc o) (hgr.block T (by have := hb.lt; simp [World.drew]; omega) (Ne.symm nb))
  refine ⟨.slice (some ⟨gg, 0, none⟩) (m + 1) cp, hb3.set (off + 1) _, ?_, ((kw.alloc o).drew.grown hgr (fun k e => .inl (.inr e))).setCell (.inl (.inl rfl)) _, fun k hk => ?_⟩
  · have := ownsRow_setCell_other (a := ⟨T, off + 1, none⟩) ho (hb3.not_row ho (by decide)) (.slice (some ⟨gg, 0, none⟩) (m + 1) cp)
    rw [encFs_snoc, ← hxs]
    simpa [hn] using this
  · have hk' : gg = k := by simpa [Value.ownBlock] using hk
    subst hk'
    rcases hat with h | h
    · exact .inl h
    · have := kw.size
      exact .inr (by omega)

set_option maxHeartbeats 8000000 in
theorem push_any (T off : Nat) (cs : Array Value) (v : Value) (l : List Fr) (fn : Int) (a : Option Addr) (n cap : Nat) (rs : List Int) (w : World) (hT : Blk w T 48 cs) (hv : cs[off + 1]? = some v) (hr : w.ownsRow 0 103 12 v l.length (encFs l)) (hl : l.length ≤ 1000)
    (R : F.Row .u64 w a n cap rs) (hn : n ≤ 100) : Calls Tryz.prog 28 #[.pointer (some ⟨T, off, none⟩), .int .i64 fn, .slice a n cap] w (Pushed T off cs v (l ++ [⟨fn, 0, rs⟩]) w) := by
  obtain ⟨i0, hi, hz0, hz1, hz2⟩ := info_parts info103
  have hF0 : Blk (w.alloc (.cells (fr12 fn 0 fun i => ([] : List Int).getD i 0) 103)) w.heap.size 103 (fr12 fn 0 fun i => ([] : List Int).getD i 0) := Blk.new _ _ _
  obtain ⟨W1, kc, hcp, hbut, hF⟩ := copy_regs _ w.heap.size fn a n cap rs (Row.after R _) hF0
  rw [fr12_zero] at hcp hbut
  have hR := R.room
  unfold maxLen at hR
  clear hF0 R
  have k0 : Keeps (fun k => k = T ∨ v.ownBlock = some k) w W1 := ⟨hbut.os, hbut.tape, hbut.output, by have := hbut.size; simp at this; omega, fun k hk _ => (hbut.block k (by omega)).trans (Below.heap_alloc _ _ _ hk)⟩
  have hT1 : Blk W1 T 48 cs := hT.agree ((hbut.block T (by have := hT.lt; omega)).trans (Below.heap_alloc _ _ _ hT.lt))
  have hr1 : W1.ownsRow 0 103 12 v l.length (encFs l) := row_agree hr fun k e => by
    have := (hr.lt k e).2
    exact (hbut.block k (by omega)).trans (Below.heap_alloc _ _ _ this)
  go_enter Tryz.func28, Tryz.ntmps28
  go_wp2
  generalize hX : w.heap.size = X at *
  have HX := Lib.hid hX
  clear hX
  obtain ⟨g0, g1, g2, g3, g4, g5, g6, g7, g8, g9, hg⟩ : ∃ g0 g1 g2 g3 g4 g5 g6 g7 g8 g9 : Int, fr12 fn 0 (fun i => rs.getD i 0) = #[.int .i64 fn, .int .i64 0, .int .u64 g0, .int .u64 g1, .int .u64 g2, .int .u64 g3, .int .u64 g4, .int .u64 g5, .int .u64 g6, .int .u64 g7, .int .u64 g8, .int .u64 g9] := ⟨_, _, _, _, _, _, _, _, _, _, rfl⟩
  have HG : Hid ([.int .i64 fn, .int .i64 0, .int .u64 g0, .int .u64 g1, .int .u64 g2, .int .u64 g3, .int .u64 g4, .int .u64 g5, .int .u64 g6, .int .u64 g7, .int .u64 g8, .int .u64 g9] = Fr.cs ⟨fn, 0, rs⟩) := Lib.hid (by rw [← fr12_cs, hg])
  rw [hg] at hF
  clear hg hcp hbut hT hr
  have HK := Lib.hid k0
  clear k0
  have hF' := hF
  have cT : W1.cell? ⟨T, off + 1, none⟩ = some v := (hT1.cell _).trans hv
  have fT := hT1.frozen (off + 1)
  have lT := hT1.lt
  have lF := hF.lt
  have x0 := hF.cell 0
  have x1 := hF.cell 1
  have x2 := hF.cell 2
  have x3 := hF.cell 3
  have x4 := hF.cell 4
  have x5 := hF.cell 5
  have x6 := hF.cell 6
  have x7 := hF.cell 7
  have x8 := hF.cell 8
  have x9 := hF.cell 9
  have x10 := hF.cell 10
  have x11 := hF.cell 11
  simp at x0 x1 x2 x3 x4 x5 x6 x7 x8 x9 x10 x11
  have nT := hT1.not_row hr1 (by decide)
  obtain ⟨m, hm⟩ : ∃ m, l.length = m := ⟨_, rfl⟩
  rw [hm] at hl hr1
  have HM := Lib.hid hm
  clear hm hF
  go_region_law
    ((refine step_append_lies _ (by rfl) _ _ _ (by rfl) 0 103 i0 _ 12 96 Tryz.underlying41 hi hz0 hz1 hz2 rfl (by omega) v m (encFs l) (by rfl) ((hr1.alloc _).drew)
        ⟨W1.heap.size, 0, none⟩ 1 1 [.int .i64 fn, .int .i64 0, .int .u64 g0, .int .u64 g1, .int .u64 g2, .int .u64 g3, .int .u64 g4, .int .u64 g5, .int .u64 g6, .int .u64 g7, .int .u64 g8, .int .u64 g9] (by rfl) (by rfl) (World.news_of_block (cs := #[.int .i64 fn, .int .i64 0, .int .u64 g0, .int .u64 g1, .int .u64 g2, .int .u64 g3, .int .u64 g4, .int .u64 g5, .int .u64 g6, .int .u64 g7, .int .u64 g8, .int .u64 g9]) (t := 103) (fr := (0, 0)) (heap_alloc_new W1 _)) (by simp [Value.oneCell'])
        (by omega) (by unfold maxLen; omega) (by omega) (by omega) (W1.heap.size + 1) (by simp) ?_; intro gg cp w3 hown3 hgrow hat hlt; have c4 := cellT hT1 hv nT hgrow; have f4 := frozenT hT1 nT hgrow (off + 1)))
  all_goals
    go_end0
    exact ⟨rfl, pushed_fin hT1 hv hr1 HM.out HG.out HK.out hown3 hgrow hat⟩
end Go.Proofs.YtemikojaldoofaaGreat
