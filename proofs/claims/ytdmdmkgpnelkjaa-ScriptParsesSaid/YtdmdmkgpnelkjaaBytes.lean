/- A configuration's seven bytes: Code and Decode; slices of bytes that came in; bytes as a text. -/
import Derived.Test.YtdmdmkgpnelkjaaBase
import Derived.Deep.Cut
import Derived.Deep.CutRange
import Derived.Laws.MakeOwn
import Derived.Lib.Walk
namespace Go.Proofs.Ytdmdmkgpnelkjaa
open Go.ChangeShapes Go.WideShapes Go.ChangeAt Go.RowKit
set_option linter.unusedVariables false



/-- The byte at a place; 0 behind the last one. -/
def byteAt (l : List Int) (j : Nat) : Int := l.getD j 0
def encB (l : List Int) : List Value := l.map (Value.int .u8)
/-- A slice that reads as these bytes. -/
structure Rd (w : World) (a : Option Addr) (n cap : Nat) (bs : List Int) : Prop where
  len : bs.length = n
  room : n ≤ cap ∧ cap ≤ maxLen
  form : (a = none ∧ n = 0 ∧ cap = 0) ∨ ∃ x, a = some x ∧ ∀ j u, (encB bs)[j]? = some u → w.cell? (x.add j) = some u
  bytes : ∀ j, 0 ≤ byteAt bs j ∧ byteAt bs j < 256
theorem Rd.below {w W : World} {a : Option Addr} {n cap : Nat} {bs : List Int} (h : Rd w a n cap bs) (b : Below w.heap.size w W) : Rd W a n cap bs :=
  ⟨h.len, h.room, h.form.imp id fun ⟨x, e, hc⟩ => ⟨x, e, fun j u hu => (b.cell (World.block_lt_of_cell? w _ (hc j u hu))).trans (hc j u hu)⟩, h.bytes⟩
theorem Rd.cell {w : World} {x : Addr} {n cap : Nat} {bs : List Int} (h : Rd w (some x) n cap bs) (j : Nat) (hj : j < n) : w.cell? (x.add j) = some (.int .u8 (byteAt bs j)) := by
  rcases h.form with ⟨e, _⟩ | ⟨y, e, hc⟩
  · cases e
  · obtain rfl := Option.some.inj e
    have hl := h.len
    refine hc j _ ?_
    simp only [encB, List.getElem?_map, byteAt, List.getD]
    rw [List.getElem?_eq_getElem (by omega)]
    rfl

theorem info_parts {t : TypeId} {z : Value} {n m : Nat} (h : (Try.prog.info? t).map (fun i => (i.zero, i.size, i.bytes)) = some (some z, n, m)) : ∃ i, Try.prog.info? t = some i ∧ i.zero = some z ∧ i.size = n ∧ i.bytes = m := by
  obtain ⟨i, hi, e⟩ := Option.map_eq_some_iff.1 h
  simp only [Prod.mk.injEq] at e
  exact ⟨i, hi, e.1, e.2.1, e.2.2⟩
theorem info5 : (Try.prog.info? 5).map (fun i => (i.zero, i.size, i.bytes)) = some (some (.int .u8 0), 1, 1) := by kernel_rfl
abbrev nought : Array Value := #[.int .u8 0, .int .u8 0, .int .u8 0, .int .u8 0, .int .u8 0, .int .u8 0, .int .u8 0]
theorem made (w : World) : (Instr.makeSlice 22 (.int .i64 7) (.int .i64 7)).run Try.prog w = .ok (.slice (some ⟨w.heap.size, 0, none⟩) 7 7) (w.alloc (.cells nought 5)) := by
  obtain ⟨i, hi, h0, h1, h2⟩ := info_parts info5
  have := run_makeSlice (P := Try.prog) w 22 5 i (.int .u8 0) Try.underlying22 hi h0 .i64 .i64 7 7 (by omega) (by omega) (by rw [h1]; decide) (by rw [h2]; omega) (by omega)
  rw [this, h1]
  have hc : madeCells (Value.int .u8 0).cells (Int.toNat 7 * 1) = nought := by kernel_rfl
  rw [hc]
  rfl
/-- A configuration's bytes, when the first k of them have been written. -/
abbrev Cf.bytes (c : Cf) : List Int := [c.al, c.th, c.nd, c.lv, c.ba, c.pr, c.sc]
def Cf.row (c : Cf) (k : Nat) : Array Value := #[.int .u8 (if 0 < k then c.al else 0), .int .u8 (if 1 < k then c.th else 0), .int .u8 (if 2 < k then c.nd else 0), .int .u8 (if 3 < k then c.lv else 0), .int .u8 (if 4 < k then c.ba else 0), .int .u8 (if 5 < k then c.pr else 0), .int .u8 (if 6 < k then c.sc else 0)]
/-- Amid Code: the row of bytes B. -/
structure CodeS (w : World) (B : Nat) (r : Array Value) (W : World) : Prop where
  row : Blk W B 5 r
  bel : Below w.heap.size w W

theorem code_bad (c : Cf) (w : World) (h : ¬ c.Ok) : Calls Try.prog 18 #[c.v] w fun e w' => e = .returned (.slice none 0 0) ∧ Below w.heap.size w w' := by
  have KC := fun W => check_bad c W h
  clear h
  go_enter Try.func18, Try.ntmps18
  go_wp2_with fail
  refine (KC _).mono ?_
  rintro e w1 ⟨rfl, hb⟩
  obtain ⟨hB, h0⟩ := boxed c hb
  go_wp2
  go_ret
  exact ⟨rfl, h0⟩

set_option maxRecDepth 100000 in
set_option maxHeartbeats 8000000 in
theorem code_ok (c : Cf) (w : World) (h : c.Ok) : Calls Try.prog 18 #[c.v] w fun e w' => ∃ B, e = .returned (.slice (some ⟨B, 0, none⟩) 7 7) ∧ w.heap.size ≤ B ∧ Blk w' B 5 (encB c.bytes).toArray ∧ Below w.heap.size w w' := by
  have KC := fun W => check_ok c W h
  have KR := rowOf_any c
  have hm := made
  have u0 : IntKind.u8.wrap c.al = c.al := by
    have a := h.a0
    have b := h.a1
    have s := sent_in c.al
    rw [IntKind.wrap_u8]
    omega
  have u1 : IntKind.u8.wrap c.th = c.th := by
    have a := h.t0
    have b := h.t1
    have s := sent_in c.al
    rw [IntKind.wrap_u8]
    omega
  have u2 : IntKind.u8.wrap c.nd = c.nd := by
    have a := h.n0
    have b := h.n1
    have s := sent_in c.al
    rw [IntKind.wrap_u8]
    omega
  have u3 : IntKind.u8.wrap c.lv = c.lv := by
    have a := h.l0
    have b := h.l1
    have s := sent_in c.al
    rw [IntKind.wrap_u8]
    omega
  have u4 : IntKind.u8.wrap c.ba = c.ba := by
    have a := h.b0
    have b := h.b1
    have s := sent_in c.al
    rw [IntKind.wrap_u8]
    omega
  have u5 : IntKind.u8.wrap c.pr = c.pr := by
    have a := h.p0
    have b := h.p1
    have s := sent_in c.al
    rw [IntKind.wrap_u8]
    omega
  have u6 : IntKind.u8.wrap c.sc = c.sc := by
    have a := h.s0
    have b := h.s1
    have s := sent_in c.al
    rw [IntKind.wrap_u8]
    omega
  clear h
  go_enter Try.func18, Try.ntmps18
  go_wp2_with fail
  refine (KC _).mono ?_
  rintro e V ⟨rfl, hb⟩
  obtain ⟨hB, h0⟩ := boxed c hb
  obtain ⟨y0, y1, y2, y3, y4, y5, y6⟩ := (hB.alloc (.cells nought 5)).conf
  have S0 : CodeS w V.heap.size nought (V.alloc (.cells nought 5)) := ⟨Blk.new _ _ _, h0.alloc h0.size _⟩
  have hVB : w.heap.size ≤ V.heap.size := h0.size
  clear hb hB KC h0
  go_wp2_with fail
  generalize (V.alloc (.cells nought 5)) = V2 at *
  generalize V.heap.size = B at *
  clear hm
  refine (KR _).mono ?_
  rintro e V3 ⟨rfl, hb⟩
  have HS := Lib.hid (show CodeS w B (c.row 0) V3 from ⟨by
    have e : c.row 0 = nought := by simp [Cf.row]
    rw [e]
    exact S0.row.below hb S0.row.lt, below_then S0.bel hb (Nat.le_refl _)⟩)
  clear S0 hb y0 y1 y2 y3 y4 y5 y6 KR
  go_wp2_with fail
  go_loopw [12] (fun i W => ∃ k : Nat, k ≤ 7 ∧ i = .int .i64 k ∧ Hid (CodeS w B (c.row k) W)) (fun i _ => 7 - (intOf i).toNat)
  case atStart => exact ⟨0, by omega, rfl, HS⟩
  case round =>
    obtain ⟨k, hk, rfl, HS⟩ := hrel
    have h7 : k = 0 ∨ k = 1 ∨ k = 2 ∨ k = 3 ∨ k = 4 ∨ k = 5 ∨ k = 6 ∨ k = 7 := by omega
    clear hk
    rcases h7 with rfl | rfl | rfl | rfl | rfl | rfl | rfl | rfl
    focus
      have hx := index_row0 c
      have z0 := HS.out.row.cell 0
      have e0 : (c.row 0)[0]? = some (.int .u8 0) := by simp [Cf.row]
      rw [e0] at z0
      have zf := HS.out.row.frozen 0
      have hn : (c.row 0).setIfInBounds 0 (.int .u8 c.al) = c.row 1 := by simp [Cf.row]
      have S' : CodeS w B (c.row 1) (wr.setCell ⟨B, 0, none⟩ (.int .u8 c.al)) := ⟨hn ▸ HS.out.row.set 0 _, HS.out.bel.setCell hVB _⟩
      have HS' := Lib.hid S'
      clear e0 hn S'
      go_wp2
      exact ⟨⟨1, by omega, rfl, HS'⟩, by simp [intOf]⟩
    focus
      have hx := index_row1 c
      have z1 := HS.out.row.cell 1
      have e1 : (c.row 1)[1]? = some (.int .u8 0) := by simp [Cf.row]
      rw [e1] at z1
      have zf := HS.out.row.frozen 1
      have hn : (c.row 1).setIfInBounds 1 (.int .u8 c.th) = c.row 2 := by simp [Cf.row]
      have S' : CodeS w B (c.row 2) (wr.setCell ⟨B, 1, none⟩ (.int .u8 c.th)) := ⟨hn ▸ HS.out.row.set 1 _, HS.out.bel.setCell hVB _⟩
      have HS' := Lib.hid S'
      clear e1 hn S'
      go_wp2
      exact ⟨⟨2, by omega, rfl, HS'⟩, by simp [intOf]⟩
    focus
      have hx := index_row2 c
      have z2 := HS.out.row.cell 2
      have e2 : (c.row 2)[2]? = some (.int .u8 0) := by simp [Cf.row]
      rw [e2] at z2
      have zf := HS.out.row.frozen 2
      have hn : (c.row 2).setIfInBounds 2 (.int .u8 c.nd) = c.row 3 := by simp [Cf.row]
      have S' : CodeS w B (c.row 3) (wr.setCell ⟨B, 2, none⟩ (.int .u8 c.nd)) := ⟨hn ▸ HS.out.row.set 2 _, HS.out.bel.setCell hVB _⟩
      have HS' := Lib.hid S'
      clear e2 hn S'
      go_wp2
      exact ⟨⟨3, by omega, rfl, HS'⟩, by simp [intOf]⟩
    focus
      have hx := index_row3 c
      have z3 := HS.out.row.cell 3
      have e3 : (c.row 3)[3]? = some (.int .u8 0) := by simp [Cf.row]
      rw [e3] at z3
      have zf := HS.out.row.frozen 3
      have hn : (c.row 3).setIfInBounds 3 (.int .u8 c.lv) = c.row 4 := by simp [Cf.row]
      have S' : CodeS w B (c.row 4) (wr.setCell ⟨B, 3, none⟩ (.int .u8 c.lv)) := ⟨hn ▸ HS.out.row.set 3 _, HS.out.bel.setCell hVB _⟩
      have HS' := Lib.hid S'
      clear e3 hn S'
      go_wp2
      exact ⟨⟨4, by omega, rfl, HS'⟩, by simp [intOf]⟩
    focus
      have hx := index_row4 c
      have z4 := HS.out.row.cell 4
      have e4 : (c.row 4)[4]? = some (.int .u8 0) := by simp [Cf.row]
      rw [e4] at z4
      have zf := HS.out.row.frozen 4
      have hn : (c.row 4).setIfInBounds 4 (.int .u8 c.ba) = c.row 5 := by simp [Cf.row]
      have S' : CodeS w B (c.row 5) (wr.setCell ⟨B, 4, none⟩ (.int .u8 c.ba)) := ⟨hn ▸ HS.out.row.set 4 _, HS.out.bel.setCell hVB _⟩
      have HS' := Lib.hid S'
      clear e4 hn S'
      go_wp2
      exact ⟨⟨5, by omega, rfl, HS'⟩, by simp [intOf]⟩
    focus
      have hx := index_row5 c
      have z5 := HS.out.row.cell 5
      have e5 : (c.row 5)[5]? = some (.int .u8 0) := by simp [Cf.row]
      rw [e5] at z5
      have zf := HS.out.row.frozen 5
      have hn : (c.row 5).setIfInBounds 5 (.int .u8 c.pr) = c.row 6 := by simp [Cf.row]
      have S' : CodeS w B (c.row 6) (wr.setCell ⟨B, 5, none⟩ (.int .u8 c.pr)) := ⟨hn ▸ HS.out.row.set 5 _, HS.out.bel.setCell hVB _⟩
      have HS' := Lib.hid S'
      clear e5 hn S'
      go_wp2
      exact ⟨⟨6, by omega, rfl, HS'⟩, by simp [intOf]⟩
    focus
      have hx := index_row6 c
      have z6 := HS.out.row.cell 6
      have e6 : (c.row 6)[6]? = some (.int .u8 0) := by simp [Cf.row]
      rw [e6] at z6
      have zf := HS.out.row.frozen 6
      have hn : (c.row 6).setIfInBounds 6 (.int .u8 c.sc) = c.row 7 := by simp [Cf.row]
      have S' : CodeS w B (c.row 7) (wr.setCell ⟨B, 6, none⟩ (.int .u8 c.sc)) := ⟨hn ▸ HS.out.row.set 6 _, HS.out.bel.setCell hVB _⟩
      have HS' := Lib.hid S'
      clear e6 hn S'
      go_wp2
      exact ⟨⟨7, by omega, rfl, HS'⟩, by simp [intOf]⟩
    focus
      have e7 : c.row 7 = (encB c.bytes).toArray := by simp [Cf.row, encB]
      rw [e7] at HS
      clear e7
      have fin : ∃ B', Ending.returned (.slice (some ⟨B, 0, none⟩) 7 7) = .returned (.slice (some ⟨B', 0, none⟩) 7 7) ∧ w.heap.size ≤ B' ∧ Blk wr B' 5 (encB c.bytes).toArray ∧ Below w.heap.size w wr := ⟨B, rfl, hVB, HS.out.row, HS.out.bel⟩
      have HF := Lib.hid fin
      clear fin
      go_wp2
      go_ret
      exact HF.out

/-- The configuration of the first seven bytes, when k of them have been read. -/
def got (bs : List Int) (k : Nat) : Cf := ⟨if 0 < k then byteAt bs 0 else 0, if 1 < k then byteAt bs 1 else 0, if 2 < k then byteAt bs 2 else 0, if 3 < k then byteAt bs 3 else 0, if 4 < k then byteAt bs 4 else 0, if 5 < k then byteAt bs 5 else 0, if 6 < k then byteAt bs 6 else 0⟩
/-- The configuration of the first seven bytes. -/
abbrev ofB (bs : List Int) : Cf := ⟨byteAt bs 0, byteAt bs 1, byteAt bs 2, byteAt bs 3, byteAt bs 4, byteAt bs 5, byteAt bs 6⟩
/-- Amid Decode: the answer's box A, the row's box R. -/
structure DecS (w : World) (A R : Nat) (d : Cf) (W : World) : Prop where
  row : Blk W R 60 d.cs
  ans : Blk W A 25 zc.cs
  bel : Below w.heap.size w W
theorem DecS.below {w : World} {A R : Nat} {d : Cf} {W W' : World} (h : DecS w A R d W) (hb : Below W.heap.size W W') : DecS w A R d W' :=
  ⟨h.row.below hb h.row.lt, h.ans.below hb h.ans.lt, below_then h.bel hb (Nat.le_refl _)⟩

set_option maxHeartbeats 1000000 in
theorem decode_short (a : Option Addr) (n cap : Nat) (w : World) (hn : n < 7) : Calls Try.prog 35 #[.slice a n cap] w fun e w' => e = .returned (.tuple #[zc.v, .int .i64 9]) ∧ Below w.heap.size w w' := by
  have g : (n : Int) < 7 := by omega
  have h0 : Below w.heap.size w (w.alloc (.cells zc.cs 25)) := (Below.refl _ _).alloc (Nat.le_refl _) _
  clear hn
  go_enter Try.func35, Try.ntmps35
  go_wp2
  refine bodyPost_ret (v := .tuple #[zc.v, .int .i64 9]) (by simp [results, Try.results35, go_sem]) rfl ⟨rfl, ?_⟩
  exact h0

set_option maxRecDepth 100000 in
set_option maxHeartbeats 8000000 in
theorem decode_long (x : Addr) (n cap : Nat) (bs : List Int) (w : World) (h : Rd w (some x) n cap bs) (hn : 7 ≤ n) (P : Ending → World → Prop)
    (hok : (ofB bs).Ok → ∀ W, Below w.heap.size w W → P (.returned (.tuple #[(ofB bs).v, .int .i64 0])) W) (hbad : ¬ (ofB bs).Ok → ∀ W, Below w.heap.size w W → P (.returned (.tuple #[zc.v, .int .i64 6])) W) :
    Calls Try.prog 35 #[.slice (some x) n cap] w P := by
  have g : ¬ (n : Int) < 7 := by omega
  have hcap := h.room
  unfold maxLen at hcap
  have n0 : (0 : Int) < n := by omega
  have w0 : IntKind.i64.wrap (byteAt bs 0) = byteAt bs 0 := by
    have := h.bytes 0
    exact IntWalk.i64_in _ (by omega)
  have n1 : (1 : Int) < n := by omega
  have w1 : IntKind.i64.wrap (byteAt bs 1) = byteAt bs 1 := by
    have := h.bytes 1
    exact IntWalk.i64_in _ (by omega)
  have n2 : (2 : Int) < n := by omega
  have w2 : IntKind.i64.wrap (byteAt bs 2) = byteAt bs 2 := by
    have := h.bytes 2
    exact IntWalk.i64_in _ (by omega)
  have n3 : (3 : Int) < n := by omega
  have w3 : IntKind.i64.wrap (byteAt bs 3) = byteAt bs 3 := by
    have := h.bytes 3
    exact IntWalk.i64_in _ (by omega)
  have n4 : (4 : Int) < n := by omega
  have w4 : IntKind.i64.wrap (byteAt bs 4) = byteAt bs 4 := by
    have := h.bytes 4
    exact IntWalk.i64_in _ (by omega)
  have n5 : (5 : Int) < n := by omega
  have w5 : IntKind.i64.wrap (byteAt bs 5) = byteAt bs 5 := by
    have := h.bytes 5
    exact IntWalk.i64_in _ (by omega)
  have n6 : (6 : Int) < n := by omega
  have w6 : IntKind.i64.wrap (byteAt bs 6) = byteAt bs 6 := by
    have := h.bytes 6
    exact IntWalk.i64_in _ (by omega)
  have HB := fun W (hb : Below w.heap.size w W) => h.below hb
  clear h
  go_enter Try.func35, Try.ntmps35
  go_wp2_with fail
  have HS := Lib.hid (show DecS w w.heap.size (w.heap.size + 1) (got bs 0) ((w.alloc (.cells zc.cs 25)).alloc (.cells zc.cs 60)) from by
    have a1 := Blk.new (w.alloc (.cells zc.cs 25)) 60 zc.cs
    simp only [World.size_alloc] at a1
    exact ⟨by simpa [got] using a1, (Blk.new _ _ _).alloc _, ((Below.refl _ _).alloc (Nat.le_refl _) _).alloc (by simp) _⟩)
  have hAR : w.heap.size ≠ w.heap.size + 1 := by omega
  have hR : w.heap.size ≤ w.heap.size + 1 := by omega
  have hA : w.heap.size ≤ w.heap.size := Nat.le_refl _
  generalize w.heap.size + 1 = R at *
  go_loopw [12] (fun i W => ∃ k : Nat, k ≤ 7 ∧ i = .int .i64 k ∧ Hid (DecS w w.heap.size R (got bs k) W)) (fun i _ => 7 - (intOf i).toNat)
  case atStart => exact ⟨0, by omega, rfl, HS⟩
  case round =>
    clear HS
    obtain ⟨k, hk, rfl, HS⟩ := hrel
    have h7 : k = 0 ∨ k = 1 ∨ k = 2 ∨ k = 3 ∨ k = 4 ∨ k = 5 ∨ k = 6 ∨ k = 7 := by omega
    clear hk
    rcases h7 with rfl | rfl | rfl | rfl | rfl | rfl | rfl | rfl
    focus
      have b0 : wr.cell? x = some (.int .u8 (byteAt bs 0)) := by
        have h := (HB _ HS.out.bel).cell 0 (by omega)
        have e : x.add 0 = x := by cases x; simp [Addr.add]
        rwa [e] at h
      have zf := HS.out.row.frozen 0
      obtain ⟨z0, z1, z2, z3, z4, z5, z6⟩ := HS.out.row.conf
      have hn : (got bs 0).cs.setIfInBounds 0 (.int .i64 (byteAt bs 0)) = (got bs 1).cs := by simp [got]
      have S' : DecS w w.heap.size R (got bs 1) (wr.setCell ⟨R, 0, none⟩ (.int .i64 (byteAt bs 0))) := ⟨hn ▸ HS.out.row.set 0 _, HS.out.ans.far hAR _, HS.out.bel.setCell hR _⟩
      have HS' := Lib.hid S'
      clear hn S'
      go_wp2
      exact ⟨⟨1, by omega, rfl, HS'⟩, by simp [intOf]⟩
    focus
      have b1 : wr.cell? ⟨x.block, x.off + 1, none⟩ = some (.int .u8 (byteAt bs 1)) := (HB _ HS.out.bel).cell 1 (by omega)
      have zf := HS.out.row.frozen 1
      obtain ⟨z0, z1, z2, z3, z4, z5, z6⟩ := HS.out.row.conf
      have hn : (got bs 1).cs.setIfInBounds 1 (.int .i64 (byteAt bs 1)) = (got bs 2).cs := by simp [got]
      have S' : DecS w w.heap.size R (got bs 2) (wr.setCell ⟨R, 1, none⟩ (.int .i64 (byteAt bs 1))) := ⟨hn ▸ HS.out.row.set 1 _, HS.out.ans.far hAR _, HS.out.bel.setCell hR _⟩
      have HS' := Lib.hid S'
      clear hn S'
      go_wp2
      exact ⟨⟨2, by omega, rfl, HS'⟩, by simp [intOf]⟩
    focus
      have b2 : wr.cell? ⟨x.block, x.off + 2, none⟩ = some (.int .u8 (byteAt bs 2)) := (HB _ HS.out.bel).cell 2 (by omega)
      have zf := HS.out.row.frozen 2
      obtain ⟨z0, z1, z2, z3, z4, z5, z6⟩ := HS.out.row.conf
      have hn : (got bs 2).cs.setIfInBounds 2 (.int .i64 (byteAt bs 2)) = (got bs 3).cs := by simp [got]
      have S' : DecS w w.heap.size R (got bs 3) (wr.setCell ⟨R, 2, none⟩ (.int .i64 (byteAt bs 2))) := ⟨hn ▸ HS.out.row.set 2 _, HS.out.ans.far hAR _, HS.out.bel.setCell hR _⟩
      have HS' := Lib.hid S'
      clear hn S'
      go_wp2
      exact ⟨⟨3, by omega, rfl, HS'⟩, by simp [intOf]⟩
    focus
      have b3 : wr.cell? ⟨x.block, x.off + 3, none⟩ = some (.int .u8 (byteAt bs 3)) := (HB _ HS.out.bel).cell 3 (by omega)
      have zf := HS.out.row.frozen 3
      obtain ⟨z0, z1, z2, z3, z4, z5, z6⟩ := HS.out.row.conf
      have hn : (got bs 3).cs.setIfInBounds 3 (.int .i64 (byteAt bs 3)) = (got bs 4).cs := by simp [got]
      have S' : DecS w w.heap.size R (got bs 4) (wr.setCell ⟨R, 3, none⟩ (.int .i64 (byteAt bs 3))) := ⟨hn ▸ HS.out.row.set 3 _, HS.out.ans.far hAR _, HS.out.bel.setCell hR _⟩
      have HS' := Lib.hid S'
      clear hn S'
      go_wp2
      exact ⟨⟨4, by omega, rfl, HS'⟩, by simp [intOf]⟩
    focus
      have b4 : wr.cell? ⟨x.block, x.off + 4, none⟩ = some (.int .u8 (byteAt bs 4)) := (HB _ HS.out.bel).cell 4 (by omega)
      have zf := HS.out.row.frozen 4
      obtain ⟨z0, z1, z2, z3, z4, z5, z6⟩ := HS.out.row.conf
      have hn : (got bs 4).cs.setIfInBounds 4 (.int .i64 (byteAt bs 4)) = (got bs 5).cs := by simp [got]
      have S' : DecS w w.heap.size R (got bs 5) (wr.setCell ⟨R, 4, none⟩ (.int .i64 (byteAt bs 4))) := ⟨hn ▸ HS.out.row.set 4 _, HS.out.ans.far hAR _, HS.out.bel.setCell hR _⟩
      have HS' := Lib.hid S'
      clear hn S'
      go_wp2
      exact ⟨⟨5, by omega, rfl, HS'⟩, by simp [intOf]⟩
    focus
      have b5 : wr.cell? ⟨x.block, x.off + 5, none⟩ = some (.int .u8 (byteAt bs 5)) := (HB _ HS.out.bel).cell 5 (by omega)
      have zf := HS.out.row.frozen 5
      obtain ⟨z0, z1, z2, z3, z4, z5, z6⟩ := HS.out.row.conf
      have hn : (got bs 5).cs.setIfInBounds 5 (.int .i64 (byteAt bs 5)) = (got bs 6).cs := by simp [got]
      have S' : DecS w w.heap.size R (got bs 6) (wr.setCell ⟨R, 5, none⟩ (.int .i64 (byteAt bs 5))) := ⟨hn ▸ HS.out.row.set 5 _, HS.out.ans.far hAR _, HS.out.bel.setCell hR _⟩
      have HS' := Lib.hid S'
      clear hn S'
      go_wp2
      exact ⟨⟨6, by omega, rfl, HS'⟩, by simp [intOf]⟩
    focus
      have b6 : wr.cell? ⟨x.block, x.off + 6, none⟩ = some (.int .u8 (byteAt bs 6)) := (HB _ HS.out.bel).cell 6 (by omega)
      have zf := HS.out.row.frozen 6
      obtain ⟨z0, z1, z2, z3, z4, z5, z6⟩ := HS.out.row.conf
      have hn : (got bs 6).cs.setIfInBounds 6 (.int .i64 (byteAt bs 6)) = (got bs 7).cs := by simp [got]
      have S' : DecS w w.heap.size R (got bs 7) (wr.setCell ⟨R, 6, none⟩ (.int .i64 (byteAt bs 6))) := ⟨hn ▸ HS.out.row.set 6 _, HS.out.ans.far hAR _, HS.out.bel.setCell hR _⟩
      have HS' := Lib.hid S'
      clear hn S'
      go_wp2
      exact ⟨⟨7, by omega, rfl, HS'⟩, by simp [intOf]⟩
    focus
      have e7 : got bs 7 = ofB bs := by simp [got]
      rw [e7] at HS
      clear e7
      have KC := conf_any (ofB bs)
      obtain ⟨z0, z1, z2, z3, z4, z5, z6⟩ := HS.out.row.conf
      go_wp2_with fail
      refine (KC _).mono ?_
      rintro e V ⟨rfl, hb⟩
      have T1 := Lib.hid (HS.out.below hb)
      clear HS hb KC z0 z1 z2 z3 z4 z5 z6
      have hC := Blk.new V 25 (ofB bs).cs
      have hA1 := T1.out.ans.alloc (.cells (ofB bs).cs 25)
      have hb1 := T1.out.bel.alloc T1.out.bel.size (.cells (ofB bs).cs 25)
      have hVA : w.heap.size ≠ V.heap.size := Nat.ne_of_lt T1.out.ans.lt
      clear T1
      obtain ⟨y0, y1, y2, y3, y4, y5, y6⟩ := hC.conf
      dsimp only at y0 y1 y2 y3 y4 y5 y6
      by_cases hk : (ofB bs).Ok
      · have KK := fun W => check_ok _ W hk
        have HP := Lib.hid (hok hk)
        clear hok hbad hk
        go_wp2_with fail
        generalize (V.alloc (.cells (ofB bs).cs 25)) = V2 at *
        generalize V.heap.size = X at *
        refine (KK _).mono ?_
        rintro e V3 ⟨rfl, hb⟩
        obtain ⟨y0', y1', y2', y3', y4', y5', y6'⟩ := (hC.below hb hC.lt).conf
        dsimp only at y0' y1' y2' y3' y4' y5' y6'
        have hA2 := hA1.below hb hA1.lt
        have zf := hA2.frozen
        obtain ⟨z0, z1, z2, z3, z4, z5, z6⟩ := hA2.conf
        have hb2 := below_then hb1 hb (Nat.le_refl _)
        clear hb1 hA1 hC hb KK
        go_wp2
        refine bodyPost_ret (v := .tuple #[(ofB bs).v, .int .i64 0]) (by simp [results, Try.results35, go_sem, z0, z1, z2, z3, z4, z5, z6]) rfl ?_
        refine HP.out _ ?_
        exact ((((((hb2.setCell hA _).setCell hA _).setCell hA _).setCell hA _).setCell hA _).setCell hA _).setCell hA _
      · have KK := fun W => check_bad _ W hk
        have HP := Lib.hid (hbad hk)
        clear hok hbad hk
        go_wp2_with fail
        generalize (V.alloc (.cells (ofB bs).cs 25)) = V2 at *
        generalize V.heap.size = X at *
        refine (KK _).mono ?_
        rintro e V3 ⟨rfl, hb⟩
        obtain ⟨y0', y1', y2', y3', y4', y5', y6'⟩ := (hC.below hb hC.lt).conf
        dsimp only at y0' y1' y2' y3' y4' y5' y6'
        have hA2 := hA1.below hb hA1.lt
        have zf := hA2.frozen
        obtain ⟨z0, z1, z2, z3, z4, z5, z6⟩ := hA2.conf
        have hb2 := below_then hb1 hb (Nat.le_refl _)
        clear hb1 hA1 hC hb KK
        go_wp2
        refine bodyPost_ret (v := .tuple #[zc.v, .int .i64 6]) (by simp [results, Try.results35, go_sem, z0, z1, z2, z3, z4, z5, z6]) rfl ?_
        refine HP.out _ ?_
        exact ((((((hb2.setCell hA _).setCell hA _).setCell hA _).setCell hA _).setCell hA _).setCell hA _).setCell hA _



/-- The frame's word on a slice of integers that came in. -/
def IsRow (k : IntKind) (w : World) (a : Option Addr) (len cap : Nat) (zs : List Int) : Prop :=
  (a = none ∧ len = 0 ∧ cap = 0 ∧ zs = []) ∨
  ∃ x, a = some x ∧ len ≤ cap ∧ cap ≤ maxLen ∧ zs.length = cap ∧ (∀ i, i < zs.length → w.cell? (x.add i) = some (.int k (zs.getD i 0))) ∧ ∀ n ∈ zs, (Lit.int k n).wf = true
theorem rd_of {w : World} {a : Option Addr} {n cap : Nat} {zs : List Int} (h : IsRow .u8 w a n cap zs) : Rd w a n cap (zs.take n) := by
  rcases h with ⟨rfl, rfl, rfl, rfl⟩ | ⟨x, rfl, hl, hm, hz, hc, hw⟩
  · exact ⟨rfl, ⟨Nat.le_refl _, by simp [maxLen]⟩, .inl ⟨rfl, rfl, rfl⟩, fun j => by simp [byteAt]⟩
  · refine ⟨by rw [List.length_take]; omega, ⟨hl, hm⟩, .inr ⟨x, rfl, fun j u hj => ?_⟩, fun j => ?_⟩
    · rw [encB, List.getElem?_map, Option.map_eq_some_iff] at hj
      obtain ⟨y, hy, rfl⟩ := hj
      rw [List.getElem?_take] at hy
      split at hy
      · next hjn =>
        rw [hc j (by omega)]
        simp [List.getD_eq_getElem?_getD, hy]
      · cases hy
    · unfold byteAt
      by_cases hj : j < (zs.take n).length
      · have := hw ((zs.take n)[j]) (List.mem_of_mem_take (List.getElem_mem hj))
        simp [Lit.wf, IntKind.min, IntKind.max, IntKind.signed, IntKind.bits] at this
        rw [List.getD_eq_getElem?_getD, List.getElem?_eq_getElem hj]
        simp
        omega
      · simp [List.getElem?_eq_none (show (zs.take n).length ≤ j by omega)]

theorem Rd.nil {w : World} {n cap : Nat} {bs : List Int} (h : Rd w none n cap bs) : n = 0 := by
  rcases h.form with ⟨_, e, _⟩ | ⟨x, e, _⟩
  · exact e
  · cases e
/-- Bytes as a text. -/
def u8 (z : Int) : UInt8 := UInt8.ofNat z.toNat
theorem u8_int {z : Int} (h : 0 ≤ z ∧ z < 256) : ((u8 z).toNat : Int) = z := by
  unfold u8
  rw [UInt8.toNat_ofNat']
  omega
theorem to_text (W : World) (x : Addr) (cap : Nat) (zs : List Int) (hz : ∀ j, j < zs.length → 0 ≤ byteAt zs j ∧ byteAt zs j < 256) (hc : ∀ j, j < zs.length → W.cell? (x.add j) = some (.int .u8 (byteAt zs j))) :
    (convert 22 9 (.slice (some x) zs.length cap)).run Try.prog W = .ok (.string ⟨(zs.map u8).toArray⟩) W := by
  have h := run_convert_bytes_back (P := Try.prog) W 22 9 5 x cap (zs.map u8) Try.underlying22 Try.underlying5 Try.underlying9 (fun j hj => by
    have hj' : j < zs.length := by simpa using hj
    rw [hc j hj']
    have e := u8_int (hz j hj')
    have e2 : byteAt zs j = zs[j] := by simp [byteAt, List.getD, hj']
    rw [e2] at e ⊢
    simp [e])
  simpa using h

end Go.Proofs.Ytdmdmkgpnelkjaa
