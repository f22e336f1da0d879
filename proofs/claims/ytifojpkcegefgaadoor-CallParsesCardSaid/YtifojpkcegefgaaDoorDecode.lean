/- Decode. -/
import Derived.Test.YtifojpkcegefgaaDoorLaid
import Derived.Laws.CopyRow
namespace Go.Proofs.YtifojpkcegefgaaDoor
open Go.ChangeShapes Go.WideShapes Go.ChangeAt Go.RowKit
set_option linter.unusedVariables false

/-- The byte at a place; 0 behind the last one. -/
def byteAt (l : List Int) (j : Nat) : Int := l.getD j 0
def encB (l : List Int) : List Value := l.map (Value.int .u8)
/-- A slice that reads as these bytes. -/
structure Rd (w : World) (a : Option Addr) (n cap : Nat) (bs : List Int) : Prop where
  len : bs.length = n
  room : n ≤ cap ∧ cap ≤ maxLen
  form : (a = none ∧ n = 0 ∧ cap = 0) ∨ ∃ x, a = some x ∧ ∀ j u, (encB bs)[j]? = some u → w.cell? (x.add j) = some u
  bytes : ∀ j, 0 ≤ byteAt bs j ∧ byteAt bs j < 256
theorem Rd.below {w W : World} {a : Option Addr} {n cap : Nat} {bs : List Int} (h : Rd w a n cap bs) (b : Below w.heap.size w W) : Rd W a n cap bs :=
  ⟨h.len, h.room, h.form.imp id fun ⟨x, e, hc⟩ => ⟨x, e, fun j u hu => (b.cell (World.block_lt_of_cell? w _ (hc j u hu))).trans (hc j u hu)⟩, h.bytes⟩
/-- The nine bytes that Decode looks at. -/
abbrev nine (bs : List Int) : Array Value := #[.int .u8 (byteAt bs 0), .int .u8 (byteAt bs 1), .int .u8 (byteAt bs 2), .int .u8 (byteAt bs 3), .int .u8 (byteAt bs 4), .int .u8 (byteAt bs 5), .int .u8 (byteAt bs 6), .int .u8 (byteAt bs 7), .int .u8 (byteAt bs 8)]
abbrev nought : Array Value := #[.int .u8 0, .int .u8 0, .int .u8 0, .int .u8 0, .int .u8 0, .int .u8 0, .int .u8 0, .int .u8 0, .int .u8 0]
theorem alloc_setRow (W : World) (o o' : Array Value) (t : TypeId) : (W.alloc (.cells o t)).setRow W.heap.size o' = W.alloc (.cells o' t) := by
  simp only [World.setRow, World.alloc]
  congr 1
  apply Array.ext_getElem?
  intro i
  rw [Array.getElem?_modify, Array.getElem?_push, Array.getElem?_push]
  by_cases h : W.heap.size = i
  · subst h; simp
  · simp [h, Ne.symm h]
theorem nine_of (bs : List Int) (n : Nat) (h : bs.length = n) : (nought.toList.take 0 ++ encB (bs.take 9) ++ nought.toList.drop (0 + (encB (bs.take 9)).length)).toArray = nine bs := by
  subst h
  simp only [nine, byteAt, encB]
  match bs with
  | [] => rfl
  | [_] => rfl
  | [_, _] => rfl
  | [_, _, _] => rfl
  | [_, _, _, _] => rfl
  | [_, _, _, _, _] => rfl
  | [_, _, _, _, _, _] => rfl
  | [_, _, _, _, _, _, _] => rfl
  | [_, _, _, _, _, _, _, _] => rfl
  | _ :: _ :: _ :: _ :: _ :: _ :: _ :: _ :: _ :: r => simp
theorem copy_nine (W : World) (a : Option Addr) (n cap : Nat) (bs : List Int) (h : Rd (W.alloc (.cells nought 57)) a n cap bs) : ∃ k : Int,
    (Builtin.copy_ #[43, 43] 3 #[.slice (some ⟨W.heap.size, 0, none⟩) 9 9, .slice a n cap]).run Tryd.prog (W.alloc (.cells nought 57)) = .ok (.int .i64 k) (W.alloc (.cells (nine bs) 57)) := by
  have hs : (Tryd.prog.info? 5).map (·.size) = some 1 := by kernel_rfl
  rcases h.form with ⟨rfl, rfl, rfl⟩ | ⟨x, rfl, hx⟩
  · have hb : bs = [] := by simpa using h.len
    subst hb
    exact ⟨0, (run_copy_nil Tryd.prog _ 43 43 3 5 _ 9 9 Tryd.underlying43 (by rw [Option.isSome_iff_exists]; cases hq : (Tryd.prog.info? 5).map (·.size) with | none => rw [hs] at hq; cases hq | some v => exact ⟨v, rfl⟩)).trans rfl⟩
  · refine ⟨((encB (bs.take 9)).length : Int), (run_copy_row Tryd.prog (W.alloc (.cells nought 57)) 43 43 3 5 W.heap.size 0 9 9 x n cap nought 57 (encB (bs.take 9)) Tryd.underlying43 hs (heap_alloc_new W _) ?_ ?_ ?_ ?_).trans ?_⟩
    rotate_right
    · rw [nine_of bs n h.len, alloc_setRow]
      rfl
    · simp [encB, h.len, Nat.min_comm]
    · intro j u hu
      refine hx j u ?_
      simp only [encB, List.map_take] at hu ⊢
      rw [List.getElem?_take] at hu
      split at hu
      · exact hu
      · cases hu
    · simp [encB]
      omega
    · intro v hv
      obtain ⟨y, _, rfl⟩ := List.mem_map.1 hv
      rfl

theorem nine_at (bs : List Int) (j : Nat) (h : j < 9) : (nine bs)[j]? = some (.int .u8 (byteAt bs j)) := by
  rcases (show j = 0 ∨ j = 1 ∨ j = 2 ∨ j = 3 ∨ j = 4 ∨ j = 5 ∨ j = 6 ∨ j = 7 ∨ j = 8 by omega) with rfl | rfl | rfl | rfl | rfl | rfl | rfl | rfl | rfl <;> rfl
theorem nine_blk (w : World) (o o' : Obj) (bs : List Int) : Blk (((w.alloc o).alloc (.cells (nine bs) 57)).alloc o') (w.heap.size + 1) 57 (nine bs) := by
  have := (Blk.new (w.alloc o) 57 (nine bs)).alloc o'
  simpa using this
/-- The call of bytes. -/
def decT (bs : List Int) : Tri := if byteAt bs 0 % 3 = 0 then ⟨0, lo (fun j => byteAt bs (1 + j)) 4, lo (fun j => byteAt bs (5 + j)) 4⟩ else ⟨byteAt bs 0 % 3, 0, 0⟩

set_option maxRecDepth 100000 in
set_option maxHeartbeats 4000000 in
theorem decode_any (a : Option Addr) (n cap : Nat) (bs : List Int) (w : World) (h : Rd w a n cap bs) :
    Calls Tryd.prog 21 #[.slice a n cap] w fun e w' => e = .returned (decT bs).v ∧ Below w.heap.size w w' := by
  have b0 := (Below.refl w.heap.size w).alloc (Nat.le_refl _) (.cells #[.int .i64 0, .int .u32 0, .int .u32 0] 24)
  have b1 := b0.alloc (by simp) (.cells nought 57)
  obtain ⟨k, hk⟩ := copy_nine (w.alloc (.cells #[.int .i64 0, .int .u32 0, .int .u32 0] 24)) a n cap bs (h.below b1)
  have es : (w.alloc (.cells #[.int .i64 0, .int .u32 0, .int .u32 0] 24)).heap.size = w.heap.size + 1 := by simp
  rw [es] at hk
  obtain ⟨y00, y01⟩ := h.bytes 0
  have hm := h.room
  unfold maxLen at hm
  have hr : IntKind.i64.wrap (byteAt bs 0) = byteAt bs 0 := IntWalk.i64_in _ (by omega)
  have hr2 : (byteAt bs 0).tmod 3 = byteAt bs 0 % 3 := Int.tmod_eq_emod_of_nonneg (by omega)
  have HB := h.bytes
  clear h b0 b1
  by_cases h0 : byteAt bs 0 % 3 = 0
  · have hd : decT bs = ⟨0, lo (fun j => byteAt bs (1 + j)) 4, lo (fun j => byteAt bs (5 + j)) 4⟩ := by unfold decT; rw [if_pos h0]
    rw [hd]
    have L1 := fun W hc => laid_any (w.heap.size + 1) 1 8 8 (fun j => byteAt bs (1 + j)) W (by decide) (fun j => HB _) hc
    have L2 := fun W hc => laid_any (w.heap.size + 1) 5 4 4 (fun j => byteAt bs (5 + j)) W (by decide) (fun j => HB _) hc
    generalize lo (fun j => byteAt bs (1 + j)) 4 = x at *
    generalize lo (fun j => byteAt bs (5 + j)) 4 = y at *
    have e0 := beq_t h0
    have H1 := Lib.hid L1
    have H2 := Lib.hid L2
    have hmod : IntKind.i64.wrap 0 = 0 := rfl
    clear HB hd L1 L2
    go_enter Tryd.func21, Tryd.ntmps21
    go_wp2_with fail
    refine (H1.out _ (fun j hj => by rw [(nine_blk _ _ _ _).cell]; exact nine_at bs (1 + j) (by omega))).mono ?_
    rintro e w1 ⟨rfl, rfl⟩
    go_wp2_with fail
    refine (H2.out _ (fun j hj => by rw [(nine_blk _ _ _ _).cell]; exact nine_at bs (5 + j) (by omega))).mono ?_
    rintro e w2 ⟨rfl, rfl⟩
    clear H1 H2
    go_wp2
    refine bodyPost_ret (v := Tri.v ⟨0, x, y⟩) (by simp [results, Tryd.results21, go_sem]) rfl ⟨rfl, ?_⟩
    exact (((Below.refl w.heap.size w).alloc (Nat.le_refl _) _).alloc (by simp) _).alloc (by simp; omega) _
  · have hd : decT bs = ⟨byteAt bs 0 % 3, 0, 0⟩ := by unfold decT; rw [if_neg h0]
    rw [hd]
    clear HB hd
    go_enter Tryd.func21, Tryd.ntmps21
    go_wp2
    refine bodyPost_ret (v := Tri.v ⟨byteAt bs 0 % 3, 0, 0⟩) (by simp [results, Tryd.results21, go_sem]) rfl ⟨rfl, ?_⟩
    exact (((Below.refl w.heap.size w).alloc (Nat.le_refl _) _).alloc (by simp) _).alloc (by simp; omega) _
end Go.Proofs.YtifojpkcegefgaaDoor
