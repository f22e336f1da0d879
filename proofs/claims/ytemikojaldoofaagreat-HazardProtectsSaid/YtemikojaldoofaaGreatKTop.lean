/- Frames: what Top and Pop do. -/
import Derived.Test.YtemikojaldoofaaGreatKPush
import Derived.Deep.QuietTactic
import Derived.BigQuiet
namespace Go.Proofs.YtemikojaldoofaaGreat
open Go.ChangeShapes Go.WideShapes Go.ChangeAt Go.RowKit
set_option linter.unusedVariables false

set_option maxRecDepth 20000

theorem top_nil (w : World) : Calls Tryz.prog 27 #[.pointer none] w fun e w' => e = .returned (.pointer none) ∧ w = w' := by
  go_enter Tryz.func27, Tryz.ntmps27
  go_wp2
  go_ret
  exact ⟨rfl, rfl⟩
theorem top_none (T off : Nat) (a : Option Addr) (cap : Nat) (w : World) (h : w.cell? ⟨T, off + 1, none⟩ = some (.slice a 0 cap)) : Calls Tryz.prog 27 #[.pointer (some ⟨T, off, none⟩)] w fun e w' => e = .returned (.pointer none) ∧ w = w' := by
  go_enter Tryz.func27, Tryz.ntmps27
  go_wp2
  go_ret
  exact ⟨rfl, rfl⟩
theorem top_some (T off g m cap : Nat) (w : World) (hm : m ≤ 1000) (h : w.cell? ⟨T, off + 1, none⟩ = some (.slice (some ⟨g, 0, none⟩) (m + 1) cap)) : Calls Tryz.prog 27 #[.pointer (some ⟨T, off, none⟩)] w fun e w' => e = .returned (.pointer (some ⟨g, m * 12, none⟩)) ∧ w.drew = w' := by
  have e : ((m + 1 : Nat) : Int) = (m : Int) + 1 := by omega
  have hw : IntKind.i64.wrap ((m : Int) + 1 - 1) = m := by rw [IntWalk.i64_in _ (by omega)]; omega
  have h0 : ¬ ((m : Int) + 1 = 0) := by omega
  go_enter Tryz.func27, Tryz.ntmps27
  go_wp2
  go_region
  all_goals
    go_wp2
    go_ret
    exact ⟨rfl, rfl⟩

/-- Three numbers of any number of numbers. -/
theorem copied3 (rs : List Int) : (rs.take 3).map (Value.int .u64) ++ [Value.int .u64 0, .int .u64 0, .int .u64 0].drop (rs.take 3).length = [.int .u64 (rs.getD 0 0), .int .u64 (rs.getD 1 0), .int .u64 (rs.getD 2 0)] := by
  match rs with
  | [] => rfl
  | [_] => rfl
  | [_, _] => rfl
  | _ :: _ :: _ :: l => simp
abbrev ar3 (x y z : Int) : Array Value := #[.int .u64 x, .int .u64 y, .int .u64 z]
theorem copy_told (W : World) (Q : Nat) (a : Option Addr) (n cap : Nat) (rs : List Int) (R : F.Row .u64 W a n cap rs) (hF : Blk W Q 42 (ar3 0 0 0)) :
    ∃ W1 : World, ∃ k : Int, (∀ ty, (Builtin.copy_ #[43, 43] ty #[.slice (some ⟨Q, 0, none⟩) 3 3, .slice a n cap]).run Tryz.prog W = .ok (.int .i64 k) W1) ∧ But Q W W1 ∧ Blk W1 Q 42 (ar3 (rs.getD 0 0) (rs.getD 1 0) (rs.getD 2 0)) := by
  have hs : (Tryz.prog.info? 24).map (·.size) = some 1 := by kernel_rfl
  rcases R.form with ⟨rfl, rfl, rfl⟩ | ⟨x, rfl, hx⟩
  · have hnil : rs = [] := List.eq_nil_of_length_eq_zero R.len
    subst hnil
    exact ⟨W, 0, fun ty => by
      have := run_copy_nil (P := Tryz.prog) W 43 43 ty 24 ⟨Q, 0, none⟩ 3 3 Tryz.underlying43 (by
        cases hq : Tryz.prog.info? 24 with
        | none => rw [hq] at hs; cases hs
        | some i => rfl)
      simpa [goInt] using this, But.refl _ _, hF⟩
  · have hl : ((rs.take 3).map (Value.int .u64)).length = Nat.min n 3 := by
      rw [List.length_map, List.length_take, R.len]
      show min 3 n = min n 3
      omega
    have hc := fun ty => run_copy_row (P := Tryz.prog) W 43 43 ty 24 Q 0 3 3 x n cap _ 42 ((rs.take 3).map (Value.int .u64)) Tryz.underlying43 hs hF hl (fun j u hj => hx j u (by
      rw [List.getElem?_map, Option.map_eq_some_iff] at hj ⊢
      obtain ⟨y, hy, rfl⟩ := hj
      rw [List.getElem?_take] at hy
      split at hy
      · exact ⟨y, hy, rfl⟩
      · cases hy)) (by
      rw [hl]
      show 0 + min n 3 ≤ 3
      omega) (ints_oneCell .u64 _)
    refine ⟨_, _, fun ty => hc ty, But.setRow _ _ _, ?_⟩
    have := setRow_blk (cs' := ((ar3 0 0 0).toList.take 0 ++ (rs.take 3).map (Value.int .u64) ++ (ar3 0 0 0).toList.drop (0 + ((rs.take 3).map (Value.int .u64)).length)).toArray) hF
    have he : ((ar3 0 0 0).toList.take 0 ++ (rs.take 3).map (Value.int .u64) ++ (ar3 0 0 0).toList.drop (0 + ((rs.take 3).map (Value.int .u64)).length)).toArray = ar3 (rs.getD 0 0) (rs.getD 1 0) (rs.getD 2 0) := by
      have h2 := copied3 rs
      rw [List.length_map, Nat.zero_add, List.take_zero, List.nil_append]
      show ((rs.take 3).map (Value.int .u64) ++ [Value.int .u64 0, .int .u64 0, .int .u64 0].drop (rs.take 3).length).toArray = _
      rw [h2]
    unfold Blk at this ⊢
    rw [this, he]

theorem add_block (x : Addr) (j : Nat) : (x.add j).block = x.block := by unfold Addr.add; split <;> rfl
theorem Row.agree {k : IntKind} {w W : World} {a : Option Addr} {n cap : Nat} {zs : List Int} (h : F.Row k w a n cap zs) (hb : 0 < n → ∀ x, a = some x → W.heap[x.block]? = w.heap[x.block]?) : F.Row k W a n cap zs := by
  refine ⟨h.len, h.room, ?_, fun j hj => ?_, h.wf⟩
  · rcases h.form with h1 | ⟨x, e, hx⟩
    · exact .inl h1
    · exact .inr ⟨x, e, fun j u hj => by
        have hlt : j < zs.length := by simpa using (List.getElem?_eq_some_iff.1 hj).1
        exact (F.cell_agree (p := x.add j) (by rw [add_block]; exact hb (by have := h.len; omega) x e)).trans (hx j u hj)⟩
  · obtain ⟨b, off, e, hc⟩ := h.cell j hj
    exact ⟨b, off, e, (F.cell_agree (p := ⟨b, off + j, none⟩) (hb (by omega) ⟨b, off, none⟩ e)).trans hc⟩
theorem pop_nil (v : Value) (w : World) : Calls Tryz.prog 70 #[.pointer none, v] w fun e w' => e = .returned (.tuple #[]) ∧ w = w' := by
  go_enter Tryz.func70, Tryz.ntmps70
  go_wp2_with fail
  refine (top_nil _).mono ?_
  rintro e w' ⟨rfl, rfl⟩
  go_wp2
  exact bodyPost_ret (v := .tuple #[]) (by simp [results, Tryz.results70, go_sem]) rfl ⟨rfl, rfl⟩
/-- What Pop leaves. -/
def Popped (T off : Nat) (cs : Array Value) (v' : Value) (rs : List Int) (w : World) (e : Ending) (w' : World) : Prop :=
  e = .returned (.tuple #[]) ∧ Blk w' T 48 ((((cs.setIfInBounds (off + 1) v').setIfInBounds (off + 2) (.int .u64 (rs.getD 0 0))).setIfInBounds (off + 2 + 1) (.int .u64 (rs.getD 1 0))).setIfInBounds (off + 2 + 2) (.int .u64 (rs.getD 2 0))) ∧ Keeps (fun k => k = T) w w'
set_option maxHeartbeats 8000000 in
theorem pop_any (T off g m cap0 : Nat) (cs : Array Value) (a : Option Addr) (n cap : Nat) (rs : List Int) (w : World) (hT : Blk w T 48 cs) (hv : cs[off + 1]? = some (.slice (some ⟨g, 0, none⟩) (m + 1) cap0)) (hs : off + 5 ≤ cs.size) (hm : m ≤ 1000) (hc : m + 1 ≤ cap0 ∧ cap0 ≤ 9223372036854775807)
    (R : F.Row .u64 w a n cap rs) (hn : n ≤ 100) (hRT : 0 < n → ∀ x, a = some x → x.block ≠ T) : Calls Tryz.prog 70 #[.pointer (some ⟨T, off, none⟩), .slice a n cap] w (Popped T off cs (.slice (some ⟨g, 0, none⟩) m cap0) rs w) := by
  have K := top_some T off g m cap0 w hm ((hT.cell _).trans hv)
  have e : ((m + 1 : Nat) : Int) = (m : Int) + 1 := by omega
  have hw : IntKind.i64.wrap ((m : Int) + 1 - 1) = m := by rw [IntWalk.i64_in _ (by omega)]; omega
  have hR := R.room
  unfold maxLen at hR
  have c1 : w.cell? ⟨T, off + 1, none⟩ = some (.slice (some ⟨g, 0, none⟩) (m + 1) cap0) := (hT.cell _).trans hv
  have fT := hT.frozen
  have q : ∀ j, j < cs.size → ∃ u, w.cell? ⟨T, j, none⟩ = some u := fun j hj => ⟨_, (hT.cell j).trans (Array.getElem?_eq_getElem hj)⟩
  obtain ⟨u2, c2⟩ := q (off + 2) (by omega)
  obtain ⟨u3, c3⟩ := q (off + 2 + 1) (by omega)
  obtain ⟨u4, c4⟩ := q (off + 2 + 2) (by omega)
  have lT := hT.lt
  go_enter Tryz.func70, Tryz.ntmps70
  go_wp2_with fail
  refine K.mono ?_
  rintro e w' ⟨rfl, rfl⟩
  go_wp2_with fail
  have hV : Blk (w.setCell ⟨T, off + 1, none⟩ (.slice (some ⟨g, 0, none⟩) m cap0)).drew.drew T 48 (cs.setIfInBounds (off + 1) (.slice (some ⟨g, 0, none⟩) m cap0)) := hT.set (off + 1) _
  have hK : Keeps (fun k => k = T) w (w.setCell ⟨T, off + 1, none⟩ (.slice (some ⟨g, 0, none⟩) m cap0)).drew.drew := ((Keeps.refl (fun k => k = T) w).setCell (p := ⟨T, off + 1, none⟩) (.inl rfl) _).drew.drew
  have hRV : F.Row .u64 (w.setCell ⟨T, off + 1, none⟩ (.slice (some ⟨g, 0, none⟩) m cap0)).drew.drew a n cap rs := Row.agree R fun hn x e => Below.heap_setCell _ _ _ _ (hRT hn x e)
  have hn1 : off + 2 ≠ off + 1 := by omega
  have hn2 : off + 2 + 1 ≠ off + 1 := by omega
  have hn3 : off + 2 + 2 ≠ off + 1 := by omega
  clear R hRT K
  go_region
  generalize (w.setCell ⟨T, off + 1, none⟩ (.slice (some ⟨g, 0, none⟩) m cap0)).drew.drew = V at *
  clear c1 c2 c3 c4 q u2 u3 u4 lT fT
  have hX0 : Blk (V.alloc (.cells (ar3 0 0 0) 42)) V.heap.size 42 (ar3 0 0 0) := Blk.new _ _ _
  obtain ⟨W1, kc, hcp, hbut, hX⟩ := copy_told _ V.heap.size a n cap rs (Row.after hRV _) hX0
  have lV := hV.lt
  have hT1 : Blk W1 T 48 _ := hV.agree ((hbut.block T (by omega)).trans (Below.heap_alloc _ _ _ hV.lt))
  have k1 : Keeps (fun k => k = T) w W1 := by
    have hs0 := hK.size
    refine ⟨hbut.os.trans hK.os, hbut.tape.trans hK.tape, hbut.output.trans hK.output, by have := hbut.size; simp at this; omega, fun k hk hn => ?_⟩
    exact ((hbut.block k (by omega)).trans (Below.heap_alloc _ _ _ (by omega))).trans (hK.block k hk hn)
  have HK := Lib.hid k1
  generalize hr0 : rs.getD 0 0 = r0 at *
  generalize hr1 : rs.getD 1 0 = r1 at *
  generalize hr2 : rs.getD 2 0 = r2 at *
  have HR0 := Lib.hid hr0
  have HR1 := Lib.hid hr1
  have HR2 := Lib.hid hr2
  clear hr0 hr1 hr2 hX0 hbut hV hK hRV k1
  have q : ∀ j, j < cs.size → ∃ u, W1.cell? ⟨T, j, none⟩ = some u := fun j hj => ⟨_, (hT1.cell j).trans (Array.getElem?_eq_getElem (by simpa using hj))⟩
  obtain ⟨u2, c2⟩ := q (off + 2) (by omega)
  obtain ⟨u3, c3⟩ := q (off + 2 + 1) (by omega)
  obtain ⟨u4, c4⟩ := q (off + 2 + 2) (by omega)
  have fT := hT1.frozen
  have x0 := hX.cell 0
  have x1 := hX.cell 1
  have x2 := hX.cell 2
  simp at x0 x1 x2
  have lT := hT1.lt
  have HT1 := Lib.hid hT1
  clear hT1 hT hX q hv
  go_wp2
  go_end0
  refine ⟨rfl, ?_, ?_⟩
  · rw [HR0.out, HR1.out, HR2.out]
    exact ((HT1.out.set (off + 2) _).set (off + 2 + 1) _).set (off + 2 + 2) _
  · exact ((HK.out.setCell (p := ⟨T, off + 2, none⟩) (.inl rfl) _).setCell (p := ⟨T, off + 2 + 1, none⟩) (.inl rfl) _).setCell (p := ⟨T, off + 2 + 2, none⟩) (.inl rfl) _
end Go.Proofs.YtemikojaldoofaaGreat
