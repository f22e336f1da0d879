/- Calls written plainly: which may be; their nine bytes, by the program and by the document. -/
import Derived.Test.YtdmdmkgpnelkjaaBytes
import Derived.Deep.RegionWith
import Derived.Deep.QuietTactic
import Derived.BigQuiet
import Derived.Lib.EndianBits
import Derived.Lib.ItoaMem
import Derived.Lib.AppendIntMem
import Derived.BigCall
import Derived.BigGuard
import Derived.Laws.CopyRow
import Derived.ArgAppend
import Derived.Deep.Upon
import Derived.Deep.RegionLaw
namespace Go.Proofs.Ytdmdmkgpnelkjaa
open Go.ChangeShapes Go.WideShapes Go.ChangeAt Go.RowKit
set_option linter.unusedVariables false

theorem below_drw {n : Nat} {A W : World} (h : Below n A W) : Below n A W.drew := ⟨h.os, h.tape, h.output, h.size, h.block⟩
/-- Behind a world that is as w below w's size: another that is so of it. -/
theorem below_thn {w W V : World} (h : Below w.heap.size w W) (k : Below W.heap.size W V) : Below w.heap.size w V := h.trans (k.mono h.size)

/-- A call, or an answer, written plainly. -/
structure Tri where
  op : Int
  key : Int
  val : Int
abbrev Tri.v (c : Tri) : Value := .agg #[.int .i64 c.op, .int .u32 c.key, .int .u32 c.val]
abbrev Tri.cs (c : Tri) : Array Value := #[.int .i64 c.op, .int .u32 c.key, .int .u32 c.val]
def bare (c : Tri) : Bool := c.key == 0 && c.val == 0
/-- May a call be? -/
def rightB (c : Tri) : Bool := c.op == 0 || (c.op == 1 || c.op == 2) && bare c
theorem eq_call (t : TypeId) (ht : t = 49) (a b : Tri) (w : World) : (Op.equalIn 10000 t a.v b.v).run Try.prog w = .ok (a.op == b.op && a.key == b.key && a.val == b.val) w := by
  obtain ⟨a1, a2, a3⟩ := a
  obtain ⟨b1, b2, b3⟩ := b
  subst ht; simp [go_sem] <;> by_cases h1 : a1 = b1 <;> by_cases h2 : a2 = b2 <;> by_cases h3 : a3 = b3 <;> simp [h1, h2, h3]

set_option maxRecDepth 100000 in
theorem cright_any (c : Tri) (w : World) : Calls Try.prog 31 #[c.v] w fun e w' => e = .returned (.bool (rightB c)) ∧ Below w.heap.size w w' := by
  obtain ⟨o, k, v⟩ := c
  by_cases h0 : o = 0
  · subst h0
    have hr : rightB ⟨0, k, v⟩ = true := by simp [rightB]
    rw [hr]
    clear hr
    go_enter Try.func31, Try.ntmps31
    go_wp2
    go_ret
    exact ⟨rfl, (Below.refl _ _).alloc (Nat.le_refl _) _⟩
  by_cases h12 : o = 1 ∨ o = 2
  · have hr : rightB ⟨o, k, v⟩ = (o == o && k == 0 && v == 0) := by rcases h12 with rfl | rfl <;> simp [rightB, bare]
    rw [hr]
    clear hr
    have hq := fun w => eq_call 49 rfl ⟨o, k, v⟩ ⟨o, 0, 0⟩ w
    simp only [Tri.v] at hq
    generalize (o == o && k == 0 && v == 0) = x at *
    rcases h12 with rfl | rfl
    all_goals
      go_enter Try.func31, Try.ntmps31
      go_wp2
      go_ret
      exact ⟨rfl, (Below.refl _ _).alloc (Nat.le_refl _) _⟩
  · have hr : rightB ⟨o, k, v⟩ = false := by simp [rightB, h0]; omega
    rw [hr]
    clear hr
    have h1 : ¬ o = 1 := fun e => h12 (.inl e)
    have h2 : ¬ o = 2 := fun e => h12 (.inr e)
    go_enter Try.func31, Try.ntmps31
    go_wp2
    go_ret
    exact ⟨rfl, (Below.refl _ _).alloc (Nat.le_refl _) _⟩

/-- A bool that is decided. -/
theorem beq_t {a b : Int} (h : a = b) : (a == b) = true := by simpa using h
theorem beq_f {a b : Int} (h : ¬ a = b) : (a == b) = false := by simpa using h

set_option maxRecDepth 100000 in
theorem rcright_any (c : Tri) (w : World) : Calls Try.prog 24 #[c.v] w fun e w' => e = .returned (.bool (rightB c)) ∧ Below w.heap.size w w' := by
  obtain ⟨o, k, v⟩ := c
  have fin : ∀ b, rightB ⟨o, k, v⟩ = b → Calls Try.prog 24 #[Tri.v ⟨o, k, v⟩] w (fun e w' => e = .returned (.bool b) ∧ Below w.heap.size w w') → Calls Try.prog 24 #[Tri.v ⟨o, k, v⟩] w (fun e w' => e = .returned (.bool (rightB ⟨o, k, v⟩)) ∧ Below w.heap.size w w') := fun b e h => by rw [e]; exact h
  by_cases h0 : o = 0
  · subst h0
    refine fin true (by simp [rightB]) ?_
    go_enter Try.func24, Try.ntmps24
    go_wp2
    go_ret
    exact ⟨rfl, (Below.refl _ _).alloc (Nat.le_refl _) _⟩
  have e0 := beq_f h0
  by_cases h1 : o = 1
  · subst h1
    by_cases hk : k = 0
    · subst hk
      refine fin (v == 0) (by simp [rightB, bare]) ?_
      go_enter Try.func24, Try.ntmps24
      go_wp2
      go_ret
      exact ⟨rfl, (Below.refl _ _).alloc (Nat.le_refl _) _⟩
    · have ek := beq_f hk
      refine fin false (by simp [rightB, bare, hk]) ?_
      go_enter Try.func24, Try.ntmps24
      go_wp2
      go_ret
      exact ⟨rfl, (Below.refl _ _).alloc (Nat.le_refl _) _⟩
  have e1 := beq_f h1
  by_cases h2 : o = 2
  · subst h2
    by_cases hk : k = 0
    · subst hk
      refine fin (v == 0) (by simp [rightB, bare]) ?_
      go_enter Try.func24, Try.ntmps24
      go_wp2
      go_ret
      exact ⟨rfl, (Below.refl _ _).alloc (Nat.le_refl _) _⟩
    · have ek := beq_f hk
      refine fin false (by simp [rightB, bare, hk]) ?_
      go_enter Try.func24, Try.ntmps24
      go_wp2
      go_ret
      exact ⟨rfl, (Below.refl _ _).alloc (Nat.le_refl _) _⟩
  · have e2 := beq_f h2
    refine fin false (by simp [rightB, bare, h0, h1, h2]) ?_
    go_enter Try.func24, Try.ntmps24
    go_wp2
    go_ret
    exact ⟨rfl, (Below.refl _ _).alloc (Nat.le_refl _) _⟩

/-- A call's, and an answer's, numbers are below 2^32. -/
structure Fit (c : Tri) : Prop where
  k0 : 0 ≤ c.key
  k1 : c.key < 4294967296
  v0 : 0 ≤ c.val
  v1 : c.val < 4294967296
theorem blk_cells {W : World} {g : Nat} {t : TypeId} {a b c : Value} (h : Blk W g t #[a, b, c]) : W.cell? ⟨g, 0, none⟩ = some a ∧ W.cell? ⟨g, 1, none⟩ = some b ∧ W.cell? ⟨g, 2, none⟩ = some c ∧ W.frozen? ⟨g, 0, none⟩ = false ∧ W.frozen? ⟨g, 1, none⟩ = false ∧ W.frozen? ⟨g, 2, none⟩ = false :=
  ⟨by rw [h.cell]; rfl, by rw [h.cell]; rfl, by rw [h.cell]; rfl, h.frozen 0, h.frozen 1, h.frozen 2⟩
theorem below_set {b : Nat} {w W : World} (h : Below b w W) {p : Addr} (hp : b ≤ p.block) (u : Value) : Below b w (W.setCell p u) :=
  ⟨h.os, h.tape, h.output, by simpa [World.setCell] using h.size, fun k hk => (Below.heap_setCell _ _ _ _ (by omega)).trans (h.block k hk)⟩
/-- A triple stored into a block of one's own. -/
abbrev put3 (W : World) (g : Nat) (c : Tri) : World := ((W.setCell ⟨g, 0, none⟩ (.int .i64 c.op)).setCell ⟨g, 1, none⟩ (.int .u32 c.key)).setCell ⟨g, 2, none⟩ (.int .u32 c.val)
theorem put3_blk {W : World} {g : Nat} {t : TypeId} {a b d : Value} (h : Blk W g t #[a, b, d]) (c : Tri) : Blk (put3 W g c) g t c.cs := by
  have := ((h.set 0 (.int .i64 c.op)).set 1 (.int .u32 c.key)).set 2 (.int .u32 c.val)
  simpa using this
theorem put3_below {b g : Nat} {w W : World} (h : Below b w W) (hg : b ≤ g) (c : Tri) : Below b w (put3 W g c) :=
  below_set (below_set (below_set h (p := ⟨g, 0, none⟩) hg _) (p := ⟨g, 1, none⟩) hg _) (p := ⟨g, 2, none⟩) hg _



/-- The number of a row's first i bytes, the lowest one first. -/
def lo (x : Nat → Int) : Nat → Int
  | 0 => 0
  | 1 => x 0
  | 2 => x 0 + x 1 * 256
  | 3 => x 0 + x 1 * 256 + x 2 * 65536
  | _ => x 0 + x 1 * 256 + x 2 * 65536 + x 3 * 16777216
theorem or_zero (y : Int) (h0 : 0 ≤ y) (h1 : y < 4294967296) : bits .or .u32 0 y = y := by
  rw [u32_or 0 y (by omega) (by omega) h0 h1]
  simp
  omega

set_option maxRecDepth 100000 in
set_option maxHeartbeats 4000000 in
theorem laid_any (g off n cap : Nat) (x : Nat → Int) (w : World) (hn : 4 ≤ n) (hx : ∀ j, 0 ≤ x j ∧ x j < 256) (hc : ∀ j, j < 4 → w.cell? ⟨g, off + j, none⟩ = some (.int .u8 (x j))) :
    Calls Try.prog 41 #[.slice (some ⟨g, off, none⟩) n cap] w fun e w' => e = .returned (.int .u32 (lo x 4)) ∧ w = w' := by
  obtain ⟨x00, x01⟩ := hx 0
  obtain ⟨x10, x11⟩ := hx 1
  obtain ⟨x20, x21⟩ := hx 2
  obtain ⟨x30, x31⟩ := hx 3
  have c0 := hc 0 (by omega)
  have c1 := hc 1 (by omega)
  have c2 := hc 2 (by omega)
  have c3 := hc 3 (by omega)
  have h0 := or_zero (x 0) x00 (by omega)
  have h1 := u32_or8 (x 0) (x 1 * 256) x00 x01 (by omega) (by omega) (by omega)
  have h2 := u32_or16 (x 0 + x 1 * 256) (x 2 * 65536) (by omega) (by omega) (by omega) (by omega) (by omega)
  have h3 := u32_or24 (x 0 + x 1 * 256 + x 2 * 65536) (x 3 * 16777216) (by omega) (by omega) (by omega) (by omega) (by omega)
  have w0 : IntKind.u32.wrap (x 0) = x 0 := IntWalk.u32_in _ (by omega)
  have w1 : IntKind.u32.wrap (x 1) = x 1 := IntWalk.u32_in _ (by omega)
  have w2 : IntKind.u32.wrap (x 2) = x 2 := IntWalk.u32_in _ (by omega)
  have w3 : IntKind.u32.wrap (x 3) = x 3 := IntWalk.u32_in _ (by omega)
  have s1 : IntKind.u32.wrap (x 1 * 256) = x 1 * 256 := IntWalk.u32_in _ (by omega)
  have s2 : IntKind.u32.wrap (x 2 * 65536) = x 2 * 65536 := IntWalk.u32_in _ (by omega)
  have s3 : IntKind.u32.wrap (x 3 * 16777216) = x 3 * 16777216 := IntWalk.u32_in _ (by omega)
  have n0 : (0 : Int) < n := by omega
  have n1 : (1 : Int) < n := by omega
  have n2 : (2 : Int) < n := by omega
  have n3 : (3 : Int) < n := by omega
  have hl : lo x 4 = x 0 + x 1 * 256 + x 2 * 65536 + x 3 * 16777216 := rfl
  rw [hl]
  clear hl hc hx x00 x01 x10 x11 x20 x21 x30 x31
  generalize x 0 = y0 at *
  generalize x 1 = y1 at *
  generalize x 2 = y2 at *
  generalize x 3 = y3 at *
  simp only [Nat.add_zero] at c0
  go_enter Try.func41, Try.ntmps41
  go_wp2
  go_rounds 5
  go_ret
  exact ⟨rfl, rfl⟩

/-- The j-th byte of a number. -/
def byteOf (n : Int) (j : Nat) : Int := n / 256 ^ j % 256
theorem lo_bytes (n : Int) (h0 : 0 ≤ n) (h1 : n < 4294967296) : lo (byteOf n) 4 = n := by
  simp only [lo, byteOf]
  omega
theorem byteOf_lt (n : Int) (j : Nat) : 0 ≤ byteOf n j ∧ byteOf n j < 256 := ⟨Int.emod_nonneg _ (by decide), Int.emod_lt_of_pos _ (by decide)⟩

set_option maxRecDepth 100000 in
set_option maxHeartbeats 4000000 in
theorem lay_any (g off n cap : Nat) (m : Int) (w : World) (h0 : 0 ≤ m) (h1 : m < 4294967296) (hn : 4 ≤ n) (hc : ∀ j, j < 4 → ∃ u, w.cell? ⟨g, off + j, none⟩ = some u) (hf : ∀ j, j < 4 → w.frozen? ⟨g, off + j, none⟩ = false) :
    Calls Try.prog 32 #[.slice (some ⟨g, off, none⟩) n cap, .int .u32 m] w fun e w' => e = .returned (.tuple #[]) ∧
      (((w.setCell ⟨g, off, none⟩ (.int .u8 (byteOf m 0))).setCell ⟨g, off + 1, none⟩ (.int .u8 (byteOf m 1))).setCell ⟨g, off + 2, none⟩ (.int .u8 (byteOf m 2))).setCell ⟨g, off + 3, none⟩ (.int .u8 (byteOf m 3)) = w' := by
  obtain ⟨u0, c0⟩ := hc 0 (by omega)
  obtain ⟨u1, c1⟩ := hc 1 (by omega)
  obtain ⟨u2, c2⟩ := hc 2 (by omega)
  obtain ⟨u3, c3⟩ := hc 3 (by omega)
  have f0 := hf 0 (by omega)
  have f1 := hf 1 (by omega)
  have f2 := hf 2 (by omega)
  have f3 := hf 3 (by omega)
  have n0 : (0 : Int) < n := by omega
  have n1 : (1 : Int) < n := by omega
  have n2 : (2 : Int) < n := by omega
  have n3 : (3 : Int) < n := by omega
  have b0 : IntKind.u8.wrap m = byteOf m 0 := by rw [IntKind.wrap_u8]; simp [byteOf]
  have b1 : IntKind.u8.wrap (m / 256) = byteOf m 1 := by rw [IntKind.wrap_u8]; simp [byteOf]
  have b2 : IntKind.u8.wrap (m / 65536) = byteOf m 2 := by rw [IntKind.wrap_u8]; simp [byteOf]
  have b3 : IntKind.u8.wrap (m / 16777216) = byteOf m 3 := by rw [IntKind.wrap_u8]; simp [byteOf]
  simp only [Nat.add_zero] at c0 f0
  clear hc hf
  generalize byteOf m 0 = y0 at *
  generalize byteOf m 1 = y1 at *
  generalize byteOf m 2 = y2 at *
  generalize byteOf m 3 = y3 at *
  go_enter Try.func32, Try.ntmps32
  go_wp2
  go_rounds 5
  go_end0
  exact ⟨rfl, rfl⟩

/-- The nine bytes that Decode looks at. -/
abbrev nine (bs : List Int) : Array Value := #[.int .u8 (byteAt bs 0), .int .u8 (byteAt bs 1), .int .u8 (byteAt bs 2), .int .u8 (byteAt bs 3), .int .u8 (byteAt bs 4), .int .u8 (byteAt bs 5), .int .u8 (byteAt bs 6), .int .u8 (byteAt bs 7), .int .u8 (byteAt bs 8)]
abbrev nought9 : Array Value := #[.int .u8 0, .int .u8 0, .int .u8 0, .int .u8 0, .int .u8 0, .int .u8 0, .int .u8 0, .int .u8 0, .int .u8 0]
theorem alloc_setRow (W : World) (o o' : Array Value) (t : TypeId) : (W.alloc (.cells o t)).setRow W.heap.size o' = W.alloc (.cells o' t) := by
  simp only [World.setRow, World.alloc]
  congr 1
  apply Array.ext_getElem?
  intro i
  rw [Array.getElem?_modify, Array.getElem?_push, Array.getElem?_push]
  by_cases h : W.heap.size = i
  · subst h; simp
  · simp [h, Ne.symm h]
theorem nine_of (bs : List Int) (n : Nat) (h : bs.length = n) : (nought9.toList.take 0 ++ encB (bs.take 9) ++ nought9.toList.drop (0 + (encB (bs.take 9)).length)).toArray = nine bs := by
  subst h
  simp only [nine, byteAt, encB]
  match bs with
  | [] => rfl
  | [_] => rfl
  | [_, _] => rfl
  | [_, _, _] => rfl
  | [_, _, _, _] => rfl
  | [_, _, _, _, _] => rfl
  | [_, _, _, _, _, _] => rfl
  | [_, _, _, _, _, _, _] => rfl
  | [_, _, _, _, _, _, _, _] => rfl
  | _ :: _ :: _ :: _ :: _ :: _ :: _ :: _ :: _ :: r => simp
theorem copy_nine (W : World) (a : Option Addr) (n cap : Nat) (bs : List Int) (h : Rd (W.alloc (.cells nought9 77)) a n cap bs) : ∃ k : Int,
    (Builtin.copy_ #[22, 22] 3 #[.slice (some ⟨W.heap.size, 0, none⟩) 9 9, .slice a n cap]).run Try.prog (W.alloc (.cells nought9 77)) = .ok (.int .i64 k) (W.alloc (.cells (nine bs) 77)) := by
  have hs : (Try.prog.info? 5).map (·.size) = some 1 := by kernel_rfl
  rcases h.form with ⟨rfl, rfl, rfl⟩ | ⟨x, rfl, hx⟩
  · have hb : bs = [] := by simpa using h.len
    subst hb
    exact ⟨0, (run_copy_nil Try.prog _ 22 22 3 5 _ 9 9 Try.underlying22 (by rw [Option.isSome_iff_exists]; cases hq : (Try.prog.info? 5).map (·.size) with | none => rw [hs] at hq; cases hq | some v => exact ⟨v, rfl⟩)).trans rfl⟩
  · refine ⟨((encB (bs.take 9)).length : Int), (run_copy_row Try.prog (W.alloc (.cells nought9 77)) 22 22 3 5 W.heap.size 0 9 9 x n cap nought9 77 (encB (bs.take 9)) Try.underlying22 hs (heap_alloc_new W _) ?_ ?_ ?_ ?_).trans ?_⟩
    rotate_right
    · rw [nine_of bs n h.len, alloc_setRow]
      rfl
    · simp [encB, h.len, Nat.min_comm]
    · intro j u hu
      refine hx j u ?_
      simp only [encB, List.map_take] at hu ⊢
      rw [List.getElem?_take] at hu
      split at hu
      · exact hu
      · cases hu
    · simp [encB]
      omega
    · intro v hv
      obtain ⟨y, _, rfl⟩ := List.mem_map.1 hv
      rfl

theorem nine_at (bs : List Int) (j : Nat) (h : j < 9) : (nine bs)[j]? = some (.int .u8 (byteAt bs j)) := by
  rcases (show j = 0 ∨ j = 1 ∨ j = 2 ∨ j = 3 ∨ j = 4 ∨ j = 5 ∨ j = 6 ∨ j = 7 ∨ j = 8 by omega) with rfl | rfl | rfl | rfl | rfl | rfl | rfl | rfl | rfl <;> rfl
theorem nine_blk (w : World) (o o' : Obj) (bs : List Int) : Blk (((w.alloc o).alloc (.cells (nine bs) 77)).alloc o') (w.heap.size + 1) 77 (nine bs) := by
  have := (Blk.new (w.alloc o) 77 (nine bs)).alloc o'
  simpa using this
/-- The call of bytes. -/
def decT (bs : List Int) : Tri := if byteAt bs 0 % 3 = 0 then ⟨0, lo (fun j => byteAt bs (1 + j)) 4, lo (fun j => byteAt bs (5 + j)) 4⟩ else ⟨byteAt bs 0 % 3, 0, 0⟩

set_option maxRecDepth 100000 in
set_option maxHeartbeats 4000000 in
theorem cdecode_any (a : Option Addr) (n cap : Nat) (bs : List Int) (w : World) (h : Rd w a n cap bs) :
    Calls Try.prog 38 #[.slice a n cap] w fun e w' => e = .returned (decT bs).v ∧ Below w.heap.size w w' := by
  have b0 := (Below.refl w.heap.size w).alloc (Nat.le_refl _) (.cells #[.int .i64 0, .int .u32 0, .int .u32 0] 49)
  have b1 := b0.alloc (by simp) (.cells nought9 77)
  obtain ⟨k, hk⟩ := copy_nine (w.alloc (.cells #[.int .i64 0, .int .u32 0, .int .u32 0] 49)) a n cap bs (h.below b1)
  have es : (w.alloc (.cells #[.int .i64 0, .int .u32 0, .int .u32 0] 49)).heap.size = w.heap.size + 1 := by simp
  rw [es] at hk
  obtain ⟨y00, y01⟩ := h.bytes 0
  have hm := h.room
  unfold maxLen at hm
  have hr : IntKind.i64.wrap (byteAt bs 0) = byteAt bs 0 := IntWalk.i64_in _ (by omega)
  have hr2 : (byteAt bs 0).tmod 3 = byteAt bs 0 % 3 := Int.tmod_eq_emod_of_nonneg (by omega)
  have HB := h.bytes
  clear h b0 b1
  by_cases h0 : byteAt bs 0 % 3 = 0
  · have hd : decT bs = ⟨0, lo (fun j => byteAt bs (1 + j)) 4, lo (fun j => byteAt bs (5 + j)) 4⟩ := by unfold decT; rw [if_pos h0]
    rw [hd]
    have L1 := fun W hc => laid_any (w.heap.size + 1) 1 8 8 (fun j => byteAt bs (1 + j)) W (by decide) (fun j => HB _) hc
    have L2 := fun W hc => laid_any (w.heap.size + 1) 5 4 4 (fun j => byteAt bs (5 + j)) W (by decide) (fun j => HB _) hc
    generalize lo (fun j => byteAt bs (1 + j)) 4 = x at *
    generalize lo (fun j => byteAt bs (5 + j)) 4 = y at *
    have e0 := beq_t h0
    have H1 := Lib.hid L1
    have H2 := Lib.hid L2
    have hmod : IntKind.i64.wrap 0 = 0 := rfl
    clear HB hd L1 L2
    go_enter Try.func38, Try.ntmps38
    go_wp2_with fail
    refine (H1.out _ (fun j hj => by rw [(nine_blk _ _ _ _).cell]; exact nine_at bs (1 + j) (by omega))).mono ?_
    rintro e w1 ⟨rfl, rfl⟩
    go_wp2_with fail
    refine (H2.out _ (fun j hj => by rw [(nine_blk _ _ _ _).cell]; exact nine_at bs (5 + j) (by omega))).mono ?_
    rintro e w2 ⟨rfl, rfl⟩
    clear H1 H2
    go_wp2
    refine bodyPost_ret (v := Tri.v ⟨0, x, y⟩) (by simp [results, Try.results38, go_sem]) rfl ⟨rfl, ?_⟩
    exact (((Below.refl w.heap.size w).alloc (Nat.le_refl _) _).alloc (by simp) _).alloc (by simp; omega) _
  · have hd : decT bs = ⟨byteAt bs 0 % 3, 0, 0⟩ := by unfold decT; rw [if_neg h0]
    rw [hd]
    clear HB hd
    go_enter Try.func38, Try.ntmps38
    go_wp2
    refine bodyPost_ret (v := Tri.v ⟨byteAt bs 0 % 3, 0, 0⟩) (by simp [results, Try.results38, go_sem]) rfl ⟨rfl, ?_⟩
    exact (((Below.refl w.heap.size w).alloc (Nat.le_refl _) _).alloc (by simp) _).alloc (by simp; omega) _



theorem Rd.at {w : World} {a : Option Addr} {n cap : Nat} {bs : List Int} (h : Rd w a n cap bs) (j : Nat) (hj : j < n) : ∃ b off, a = some ⟨b, off, none⟩ ∧ w.cell? ⟨b, off + j, none⟩ = some (.int .u8 (byteAt bs j)) := by
  rcases h.form with ⟨_, rfl, _⟩ | ⟨x, rfl, hx⟩
  · omega
  · have hlen := h.len
    have key : ∀ i, i < n → w.cell? (x.add i) = some (.int .u8 (byteAt bs i)) := fun i hi => hx i _ (by simp [encB, byteAt, List.getD_eq_getElem?_getD, List.getElem?_eq_getElem (show i < bs.length by omega)])
    have h0 := key 0 (by omega)
    obtain ⟨b, off, spot⟩ := x
    have hspot : spot = none := by simpa [Addr.add] using World.cell?_spot h0
    subst hspot
    exact ⟨b, off, rfl, by rw [← Go.WideShapes.add_plain]; exact key j hj⟩
/-- The array of the first i bytes. -/
def rowN (bs : List Int) (i : Nat) : Array Value := ((List.range 9).map fun j => Value.int .u32 (if j < i then byteAt bs j else 0)).toArray
theorem rowN_zero (bs : List Int) : rowN bs 0 = #[.int .u32 0, .int .u32 0, .int .u32 0, .int .u32 0, .int .u32 0, .int .u32 0, .int .u32 0, .int .u32 0, .int .u32 0] := rfl
theorem rowN_at (bs : List Int) (i j : Nat) (h : j < 9) : (rowN bs i)[j]? = some (.int .u32 (if j < i then byteAt bs j else 0)) := by
  simp [rowN, List.getElem?_range h]
theorem rowN_set (bs : List Int) (i : Nat) (h : i < 9) : (rowN bs i).setIfInBounds i (.int .u32 (byteAt bs i)) = rowN bs (i + 1) := by
  apply Array.ext_getElem?
  intro j
  rw [Array.getElem?_setIfInBounds]
  by_cases hj : j < 9
  · rw [rowN_at bs i j hj, rowN_at bs (i + 1) j hj]
    by_cases e : i = j
    · subst e
      simp [rowN, h]
    · rw [if_neg e]
      congr 2
      by_cases h1 : j < i
      · rw [if_pos h1, if_pos (by omega)]
      · rw [if_neg h1, if_neg (by omega)]
  · rw [if_neg (by omega)]
    simp [rowN, hj]
theorem byteAt_end (bs : List Int) (j : Nat) (h : bs.length ≤ j) : byteAt bs j = 0 := by
  simp [byteAt, List.getD_eq_getElem?_getD, List.getElem?_eq_none h]
/-- What the loop keeps: i bytes are in the array. -/
structure RS (w : World) (bs : List Int) (i : Nat) (W : World) : Prop where
  row : Blk W (w.heap.size + 1) 58 (rowN bs i)
  res : Blk W w.heap.size 49 #[.int .i64 0, .int .u32 0, .int .u32 0]
  bel : Below w.heap.size w W
theorem RS.start (w : World) (bs : List Int) : RS w bs 0 ((w.alloc (.cells #[.int .i64 0, .int .u32 0, .int .u32 0] 49)).alloc (.cells #[.int .u32 0, .int .u32 0, .int .u32 0, .int .u32 0, .int .u32 0, .int .u32 0, .int .u32 0, .int .u32 0, .int .u32 0] 58)) := by
  refine ⟨?_, (Blk.new _ _ _).alloc _, ((Below.refl w.heap.size w).alloc (Nat.le_refl _) _).alloc (by simp) _⟩
  rw [rowN_zero]
  have := Blk.new (w.alloc (.cells #[.int .i64 0, .int .u32 0, .int .u32 0] 49)) 58 (#[.int .u32 0, .int .u32 0, .int .u32 0, .int .u32 0, .int .u32 0, .int .u32 0, .int .u32 0, .int .u32 0, .int .u32 0] : Array Value)
  simpa using this
theorem RS.set {w W : World} {bs : List Int} {i : Nat} (h : RS w bs i W) (hi : i < 9) : RS w bs (i + 1) (W.setCell ⟨w.heap.size + 1, i, none⟩ (.int .u32 (byteAt bs i))) :=
  ⟨by have := h.row.set i (.int .u32 (byteAt bs i)); rwa [rowN_set bs i hi] at this, h.res.far (by simp) _, below_set h.bel (p := ⟨w.heap.size + 1, i, none⟩) (by simp) _⟩

set_option maxRecDepth 100000 in
set_option maxHeartbeats 4000000 in
theorem rcdecode_any (a : Option Addr) (n cap : Nat) (bs : List Int) (w : World) (h : Rd w a n cap bs) :
    Calls Try.prog 17 #[.slice a n cap] w fun e w' => e = .returned (decT bs).v ∧ Below w.heap.size w w' := by
  have S0 := Lib.hid (RS.start w bs)
  have hlen := h.len
  have hm := h.room
  unfold maxLen at hm
  have HR := Lib.hid h
  clear h
  go_enter Try.func17, Try.ntmps17
  go_wp2
  go_loopw [4] (fun i wr => ∃ k : Nat, k ≤ 9 ∧ k ≤ n ∧ i = .int .i64 k ∧ Hid (RS w bs k wr)) (fun i _ => 9 - (intOf i).toNat)
  case atStart => exact ⟨0, by omega, by omega, rfl, S0⟩
  case round =>
    obtain ⟨k, h9, hn, rfl, HS⟩ := hrel
    clear S0
    by_cases hk : k < 9 ∧ k < n
    · obtain ⟨bb, off, rfl, q⟩ := (HR.out.below HS.out.bel).at k hk.2
      obtain ⟨y0, y1⟩ := HR.out.bytes k
      have hw := IntWalk.u32_in (byteAt bs k) (by omega)
      have c := HS.out.row.cell k
      rw [rowN_at bs k k hk.1] at c
      have f := HS.out.row.frozen k
      have HT := Lib.hid (HS.out.set hk.1)
      obtain ⟨k9, kn⟩ := hk
      have g9 : (k : Int) < 9 := by omega
      have gn : (k : Int) < n := by omega
      have hi := IntWalk.i64_in ((k : Int) + 1) (by omega)
      clear HR HS
      generalize byteAt bs k = y at *
      go_wp2
      go_roundw
      case rel => exact ⟨k + 1, by omega, by omega, by go_num, HT⟩
      case measure => simp [intOf]; omega
    · have hcell : ∀ j, j < 9 → wr.cell? ⟨w.heap.size + 1, j, none⟩ = some (.int .u32 (byteAt bs j)) := by
        intro j hj
        rw [HS.out.row.cell j, rowN_at bs k j hj]
        by_cases h : j < k
        · rw [if_pos h]
        · rw [if_neg h, byteAt_end bs j (by omega)]
      have c0 := hcell 0 (by omega)
      have c1 := hcell 1 (by omega)
      have c2 := hcell 2 (by omega)
      have c3 := hcell 3 (by omega)
      have c4 := hcell 4 (by omega)
      have c5 := hcell 5 (by omega)
      have c6 := hcell 6 (by omega)
      have c7 := hcell 7 (by omega)
      have c8 := hcell 8 (by omega)
      have hb := HR.out.bytes
      obtain ⟨a0, b0⟩ := hb 0
      obtain ⟨a1, b1⟩ := hb 1
      obtain ⟨a2, b2⟩ := hb 2
      obtain ⟨a3, b3⟩ := hb 3
      obtain ⟨a4, b4⟩ := hb 4
      obtain ⟨a5, b5⟩ := hb 5
      obtain ⟨a6, b6⟩ := hb 6
      obtain ⟨a7, b7⟩ := hb 7
      obtain ⟨a8, b8⟩ := hb 8
      have hd : decT bs = if byteAt bs 0 % 3 = 0 then ⟨0, byteAt bs 1 + byteAt bs 2 * 256 + byteAt bs 3 * 65536 + byteAt bs 4 * 16777216, byteAt bs 5 + byteAt bs 6 * 256 + byteAt bs 7 * 65536 + byteAt bs 8 * 16777216⟩ else ⟨byteAt bs 0 % 3, 0, 0⟩ := rfl
      obtain ⟨d0, d1, d2, f0, f1, f2⟩ := blk_cells HS.out.res
      have hlt := HS.out.res.lt
      have hlt1 := HS.out.row.lt
      have fin : ∀ c, decT bs = c → ∀ e w', e = Ending.returned c.v → Below w.heap.size w w' → (e = .returned (decT bs).v ∧ Below w.heap.size w w') := by
        intro c h e w' h1 h2
        rw [h]
        exact ⟨h1, h2⟩
      clear hcell hb
      generalize byteAt bs 0 = y0 at *
      generalize byteAt bs 1 = y1 at *
      generalize byteAt bs 2 = y2 at *
      generalize byteAt bs 3 = y3 at *
      generalize byteAt bs 4 = y4 at *
      generalize byteAt bs 5 = y5 at *
      generalize byteAt bs 6 = y6 at *
      generalize byteAt bs 7 = y7 at *
      generalize byteAt bs 8 = y8 at *
      have m2 := IntWalk.u32_in (256 * y2) (by omega)
      have m3 := IntWalk.u32_in (65536 * y3) (by omega)
      have m4 := IntWalk.u32_in (16777216 * y4) (by omega)
      have s2 := IntWalk.u32_in (y1 + 256 * y2) (by omega)
      have s3 := IntWalk.u32_in (y1 + 256 * y2 + 65536 * y3) (by omega)
      have s4 := IntWalk.u32_in (y1 + 256 * y2 + 65536 * y3 + 16777216 * y4) (by omega)
      have m6 := IntWalk.u32_in (256 * y6) (by omega)
      have m7 := IntWalk.u32_in (65536 * y7) (by omega)
      have m8 := IntWalk.u32_in (16777216 * y8) (by omega)
      have s6 := IntWalk.u32_in (y5 + 256 * y6) (by omega)
      have s7 := IntWalk.u32_in (y5 + 256 * y6 + 65536 * y7) (by omega)
      have s8 := IntWalk.u32_in (y5 + 256 * y6 + 65536 * y7 + 16777216 * y8) (by omega)
      have r1 : y0.tmod 3 = y0 % 3 := Int.tmod_eq_emod_of_nonneg (by omega)
      have r2 : IntKind.i64.wrap (y0 % 3) = y0 % 3 := IntWalk.i64_in _ (by omega)
      have e1 : y1 + y2 * 256 + y3 * 65536 + y4 * 16777216 = y1 + 256 * y2 + 65536 * y3 + 16777216 * y4 := by omega
      have e2 : y5 + y6 * 256 + y7 * 65536 + y8 * 16777216 = y5 + 256 * y6 + 65536 * y7 + 16777216 * y8 := by omega
      rw [e1, e2] at hd
      clear e1 e2
      have HB := Lib.hid HS.out.bel
      have HK := Lib.hid HS.out.res
      have hsz : w.heap.size ≤ wr.heap.size := Nat.le_of_lt hlt
      have ends : ∀ (c : Tri) (o : Obj), Hid (decT bs = c) → (∀ i u, c.cs[i]? = some u → ((put3 wr w.heap.size c).alloc o).cell? ⟨w.heap.size, i, none⟩ = some u) ∧ (∀ e, e = Ending.returned c.v → e = .returned (decT bs).v ∧ Below w.heap.size w ((put3 wr w.heap.size c).alloc o)) := by
        intro c o h
        refine ⟨fun i u hu => ?_, fun e he => fin c h.out e _ he ((put3_below HB.out (Nat.le_refl _) c).alloc (by simpa [put3, World.setCell] using hsz) o)⟩
        rw [((put3_blk HK.out c).alloc o).cell]
        exact hu
      have HN := Lib.hid ends
      clear fin ends
      by_cases h0 : y0 % 3 = 0
      · rw [if_pos h0] at hd
        obtain ⟨q, E⟩ := HN.out _ (.cells #[.int .i64 0, .int .u32 (y1 + 256 * y2 + 65536 * y3 + 16777216 * y4), .int .u32 (y5 + 256 * y6 + 65536 * y7 + 16777216 * y8)] 49) (Lib.hid hd)
        have q0 := Lib.hid (q 0 _ rfl)
        have q1 := Lib.hid (q 1 _ rfl)
        have q2 := Lib.hid (q 2 _ rfl)
        have HE := Lib.hid E
        clear HS HR HN HB HK E q hd
        rw [h0] at r1 r2
        clear h0
        rcases (show k = 9 ∨ (k < 9 ∧ k = n) by omega) with rfl | ⟨g9, rfl⟩
        · go_wp2
          exact bodyPost_ret (v := Tri.v ⟨0, y1 + 256 * y2 + 65536 * y3 + 16777216 * y4, y5 + 256 * y6 + 65536 * y7 + 16777216 * y8⟩) (by simp [results, Try.results17, go_sem, q0.out, q1.out, q2.out]) rfl (HE.out _ rfl)
        · have g : (k : Int) < 9 := by omega
          go_wp2
          exact bodyPost_ret (v := Tri.v ⟨0, y1 + 256 * y2 + 65536 * y3 + 16777216 * y4, y5 + 256 * y6 + 65536 * y7 + 16777216 * y8⟩) (by simp [results, Try.results17, go_sem, q0.out, q1.out, q2.out]) rfl (HE.out _ rfl)
      · rw [if_neg h0] at hd
        obtain ⟨q, E⟩ := HN.out _ (.cells #[.int .i64 (y0 % 3), .int .u32 0, .int .u32 0] 49) (Lib.hid hd)
        have q0 := Lib.hid (q 0 _ rfl)
        have q1 := Lib.hid (q 1 _ rfl)
        have q2 := Lib.hid (q 2 _ rfl)
        have HE := Lib.hid E
        have e0 := beq_f h0
        clear HS HR HN HB HK E q hd
        rcases (show k = 9 ∨ (k < 9 ∧ k = n) by omega) with rfl | ⟨g9, rfl⟩
        · go_wp2
          exact bodyPost_ret (v := Tri.v ⟨y0 % 3, 0, 0⟩) (by simp [results, Try.results17, go_sem, q0.out, q1.out, q2.out]) rfl (HE.out _ rfl)
        · have g : (k : Int) < 9 := by omega
          go_wp2
          exact bodyPost_ret (v := Tri.v ⟨y0 % 3, 0, 0⟩) (by simp [results, Try.results17, go_sem, q0.out, q1.out, q2.out]) rfl (HE.out _ rfl)

theorem decT_right (bs : List Int) : rightB (decT bs) = true := by
  unfold decT
  split
  · rfl
  · next h =>
    have : byteAt bs 0 % 3 = 1 ∨ byteAt bs 0 % 3 = 2 := by omega
    rcases this with h | h <;> simp [rightB, bare, h]
theorem eq_self (t : TypeId) (ht : t = 49) (a : Tri) (w : World) : (Op.equalIn 10000 t a.v a.v).run Try.prog w = .ok true w := by
  rw [eq_call t ht]
  simp


/-- A call's nine bytes. -/
def codeBs (c : Tri) : List Int := [c.op, byteOf c.key 0, byteOf c.key 1, byteOf c.key 2, byteOf c.key 3, byteOf c.val 0, byteOf c.val 1, byteOf c.val 2, byteOf c.val 3]
theorem right_op {c : Tri} (h : rightB c = true) : c.op = 0 ∨ ((c.op = 1 ∨ c.op = 2) ∧ c.key = 0 ∧ c.val = 0) := by
  obtain ⟨o, k, v⟩ := c
  simp [rightB, bare] at h
  exact h

set_option maxRecDepth 100000 in
theorem ccode_bad (c : Tri) (w : World) (h : rightB c = false) : Calls Try.prog 20 #[c.v] w fun e w' => e = .returned (.slice none 0 0) ∧ Below w.heap.size w w' := by
  have R := cright_any c
  rw [h] at R
  have b0 := (Below.refl w.heap.size w).alloc (Nat.le_refl _) (.cells c.cs 49)
  obtain ⟨o, k, v⟩ := c
  have HB := Lib.hid b0
  clear b0 h
  go_enter Try.func20, Try.ntmps20
  go_wp2_with fail
  refine (R _).mono ?_
  rintro e w1 ⟨rfl, hb⟩
  have HB1 := Lib.hid (below_thn HB.out hb)
  clear hb R
  go_wp2
  go_ret
  exact ⟨rfl, HB1.out⟩

theorem made9 (w : World) : (Instr.makeSlice 22 (.int .i64 9) (.int .i64 9)).run Try.prog w = .ok (.slice (some ⟨w.heap.size, 0, none⟩) 9 9) (w.alloc (.cells nought9 5)) := by
  obtain ⟨i, hi, h0, h1, h2⟩ := info_parts info5
  have := run_makeSlice (P := Try.prog) w 22 5 i (.int .u8 0) Try.underlying22 hi h0 .i64 .i64 9 9 (by omega) (by omega) (by rw [h1]; decide) (by rw [h2]; omega) (by omega)
  rw [this, h1]
  have hc : madeCells (Value.int .u8 0).cells (Int.toNat 9 * 1) = nought9 := by kernel_rfl
  rw [hc]
  rfl
/-- The call, boxed, and the row of its bytes. -/
structure CR (c : Tri) (w : World) (C B : Nat) (row : Array Value) (W : World) : Prop where
  hc : Blk W C 49 c.cs
  hr : Blk W B 5 row
  ne : C ≠ B
  low : w.heap.size ≤ B
  bel : Below w.heap.size w W
theorem CR.drew {c : Tri} {w W : World} {C B : Nat} {row : Array Value} (h : CR c w C B row W) : CR c w C B row W.drew := ⟨h.hc.drew, h.hr.drew, h.ne, h.low, below_drw h.bel⟩
theorem CR.cells {c : Tri} {w W : World} {C B : Nat} {row : Array Value} (h : CR c w C B row W) : W.cell? ⟨C, 0, none⟩ = some (.int .i64 c.op) ∧ W.cell? ⟨C, 1, none⟩ = some (.int .u32 c.key) ∧ W.cell? ⟨C, 2, none⟩ = some (.int .u32 c.val) := by
  obtain ⟨c0, c1, c2, _⟩ := blk_cells h.hc
  exact ⟨c0, c1, c2⟩
theorem CR.set {c : Tri} {w W : World} {C B : Nat} {row : Array Value} (h : CR c w C B row W) (i : Nat) (u : Value) : CR c w C B (row.setIfInBounds i u) (W.setCell ⟨B, i, none⟩ u) :=
  ⟨h.hc.far h.ne u, h.hr.set i u, h.ne, h.low, below_set h.bel (p := ⟨B, i, none⟩) h.low u⟩
/-- Four bytes written from a place on. -/
abbrev row4 (row : Array Value) (i : Nat) (m : Int) : Array Value := (((row.setIfInBounds i (.int .u8 (byteOf m 0))).setIfInBounds (i + 1) (.int .u8 (byteOf m 1))).setIfInBounds (i + 2) (.int .u8 (byteOf m 2))).setIfInBounds (i + 3) (.int .u8 (byteOf m 3))
theorem CR.lay {c : Tri} {w W : World} {C B : Nat} {row : Array Value} (h : CR c w C B row W) (hs : row.size = 9) (i n cap : Nat) (hi : i + 4 ≤ 9) (hn : 4 ≤ n) (m : Int) (h0 : 0 ≤ m) (h1 : m < 4294967296) :
    Calls Try.prog 32 #[.slice (some ⟨B, i, none⟩) n cap, .int .u32 m] W fun e W' => e = .returned (.tuple #[]) ∧ CR c w C B (row4 row i m) W' := by
  refine (lay_any B i n cap m W h0 h1 hn (fun j hj => ?_) (fun j hj => h.hr.frozen _)).mono fun e W' ⟨he, hw⟩ => ⟨he, ?_⟩
  · rw [h.hr.cell]
    exact ⟨_, Array.getElem?_eq_getElem (by omega)⟩
  · subst hw
    exact (((h.set i _).set (i + 1) _).set (i + 2) _).set (i + 3) _

set_option maxRecDepth 100000 in
set_option maxHeartbeats 4000000 in
theorem ccode_ok (c : Tri) (f : Fit c) (w : World) (h : rightB c = true) : Calls Try.prog 20 #[c.v] w fun e w' => ∃ B, e = .returned (.slice (some ⟨B, 0, none⟩) 9 9) ∧ w.heap.size ≤ B ∧ Blk w' B 5 (encB (codeBs c)).toArray ∧ Below w.heap.size w w' := by
  have R := cright_any c
  rw [h] at R
  have hop := right_op h
  have b0 := (Below.refl w.heap.size w).alloc (Nat.le_refl _) (.cells c.cs 49)
  have k0 : Blk (w.alloc (.cells c.cs 49)) w.heap.size 49 c.cs := Blk.new _ _ _
  obtain ⟨o, k, v⟩ := c
  obtain ⟨f0, f1, f2, f3⟩ := f
  simp only at f0 f1 f2 f3 hop
  have ho : IntKind.u8.wrap o = o := by rw [IntKind.wrap_u8]; omega
  have HB := Lib.hid b0
  have HK := Lib.hid k0
  clear b0 k0 h hop
  go_enter Try.func20, Try.ntmps20
  go_wp2_with fail
  refine (R _).mono ?_
  rintro e w1 ⟨rfl, hb⟩
  have HB1 := Lib.hid (below_thn HB.out hb)
  have HK1 := Lib.hid (HK.out.below hb HK.out.lt)
  have hlt := HK1.out.lt
  clear hb R HK HB
  obtain ⟨c0, c1, c2, _⟩ := blk_cells HK1.out
  have hmk := made9 w1
  go_wp2_with fail
  have S : CR ⟨o, k, v⟩ w w.heap.size w1.heap.size #[.int .u8 o, .int .u8 0, .int .u8 0, .int .u8 0, .int .u8 0, .int .u8 0, .int .u8 0, .int .u8 0, .int .u8 0] (w1.alloc (.cells #[.int .u8 o, .int .u8 0, .int .u8 0, .int .u8 0, .int .u8 0, .int .u8 0, .int .u8 0, .int .u8 0, .int .u8 0] 5)) :=
    ⟨HK1.out.alloc _, Blk.new _ _ _, by omega, HB1.out.size, HB1.out.alloc HB1.out.size _⟩
  have L1 := fun W (h : CR ⟨o, k, v⟩ w w.heap.size w1.heap.size #[.int .u8 o, .int .u8 0, .int .u8 0, .int .u8 0, .int .u8 0, .int .u8 0, .int .u8 0, .int .u8 0, .int .u8 0] W) => h.lay rfl 1 8 8 (by decide) (by decide) k f0 f1
  have L2 := fun W (h : CR ⟨o, k, v⟩ w w.heap.size w1.heap.size (row4 #[.int .u8 o, .int .u8 0, .int .u8 0, .int .u8 0, .int .u8 0, .int .u8 0, .int .u8 0, .int .u8 0, .int .u8 0] 1 k) W) => h.lay (by simp) 5 4 4 (by decide) (by decide) v f2 f3
  have hfin : row4 (row4 #[.int .u8 o, .int .u8 0, .int .u8 0, .int .u8 0, .int .u8 0, .int .u8 0, .int .u8 0, .int .u8 0, .int .u8 0] 1 k) 5 v = (encB (codeBs ⟨o, k, v⟩)).toArray := rfl
  clear HB1 HK1 c0 c1 c2 hmk hlt
  generalize hV : w1.alloc (.cells #[.int .u8 o, .int .u8 0, .int .u8 0, .int .u8 0, .int .u8 0, .int .u8 0, .int .u8 0, .int .u8 0, .int .u8 0] 5) = V at *
  have HV := Lib.hid hV
  clear hV
  generalize hr1 : row4 #[.int .u8 o, .int .u8 0, .int .u8 0, .int .u8 0, .int .u8 0, .int .u8 0, .int .u8 0, .int .u8 0, .int .u8 0] 1 k = row1 at *
  generalize hr0 : (#[.int .u8 o, .int .u8 0, .int .u8 0, .int .u8 0, .int .u8 0, .int .u8 0, .int .u8 0, .int .u8 0, .int .u8 0] : Array Value) = row0 at *
  generalize hr2 : row4 row1 5 v = row2 at *
  have HF := Lib.hid hfin
  clear hr1 hr0 hr2 hfin
  generalize w1.heap.size = B at *
  generalize hC : w.heap.size = C at *
  have HC := Lib.hid hC
  clear hC
  obtain ⟨c0, c1, c2⟩ := S.cells
  have S' := S.drew
  clear S
  go_region_held3 (fun W => W.cell? ⟨C, 0, none⟩ = some (.int .i64 o) ∧ W.cell? ⟨C, 1, none⟩ = some (.int .u32 k) ∧ W.cell? ⟨C, 2, none⟩ = some (.int .u32 v)) (first | exact CR.cells (c := ⟨o, k, v⟩) (w := w) (C := C) (B := B) (row := row0) (by assumption) | exact CR.cells (c := ⟨o, k, v⟩) (w := w) (C := C) (B := B) (row := row1) (by assumption) | go_keep)
    (first | (go_at_call 32; refine (L1 _ (by assumption)).mono ?_; rintro e V' ⟨rfl, S2⟩))
  clear c0 c1 c2 S' L1
  have T := S2.drew
  obtain ⟨c0, c1, c2⟩ := S2.cells
  clear S2
  go_wp2_with fail
  go_region_held3 (fun W => W.cell? ⟨C, 0, none⟩ = some (.int .i64 o) ∧ W.cell? ⟨C, 1, none⟩ = some (.int .u32 k) ∧ W.cell? ⟨C, 2, none⟩ = some (.int .u32 v)) (first | exact CR.cells (c := ⟨o, k, v⟩) (w := w) (C := C) (B := B) (row := row1) (by assumption) | exact CR.cells (c := ⟨o, k, v⟩) (w := w) (C := C) (B := B) (row := row2) (by assumption) | go_keep)
    (first | (go_at_call 32; refine (L2 _ (by assumption)).mono ?_; rintro e V2 ⟨rfl, S3⟩))
  clear c0 c1 c2 T L2
  go_wp2
  go_ret
  exact ⟨B, rfl, HC.out ▸ S3.low, HF.out ▸ S3.hr, S3.bel⟩



theorem byteAt_left (xs zs : List Int) (j : Nat) (h : j < xs.length) : byteAt (xs ++ zs) j = byteAt xs j := by
  simp [byteAt, List.getD_eq_getElem?_getD, List.getElem?_append_left h]
theorem byteAt_right (xs zs : List Int) (j : Nat) (h : xs.length ≤ j) : byteAt (xs ++ zs) j = byteAt zs (j - xs.length) := by
  simp [byteAt, List.getD_eq_getElem?_getD, List.getElem?_append_right h]
theorem below_grownBy {w w' : World} (h : w.grownBy w' none) : Below w.heap.size w w' := ⟨h.os, h.tape, h.output, h.size, fun k hk => h.block k hk (by simp)⟩

/-- What was coded is decoded, whatever stands behind it. -/
theorem code_bytes (c : Tri) (h : rightB c = true) : ∀ j, 0 ≤ byteAt (codeBs c) j ∧ byteAt (codeBs c) j < 256 := by
  intro j
  have ho : 0 ≤ c.op ∧ c.op < 256 := by have := right_op h; omega
  rcases (show j = 0 ∨ j = 1 ∨ j = 2 ∨ j = 3 ∨ j = 4 ∨ j = 5 ∨ j = 6 ∨ j = 7 ∨ j = 8 ∨ 9 ≤ j by omega) with rfl | rfl | rfl | rfl | rfl | rfl | rfl | rfl | rfl | hj
  · exact ho
  · exact byteOf_lt _ _
  · exact byteOf_lt _ _
  · exact byteOf_lt _ _
  · exact byteOf_lt _ _
  · exact byteOf_lt _ _
  · exact byteOf_lt _ _
  · exact byteOf_lt _ _
  · exact byteOf_lt _ _
  · rw [byteAt_end _ _ (by simpa [codeBs] using hj)]; decide
theorem decT_code (c : Tri) (f : Fit c) (h : rightB c = true) (zs : List Int) : decT (codeBs c ++ zs) = c := by
  have hl : (codeBs c).length = 9 := rfl
  have e : ∀ j, j < 9 → byteAt (codeBs c ++ zs) j = byteAt (codeBs c) j := fun j hj => byteAt_left _ _ _ (by omega)
  have lo1 : lo (fun j => byteAt (codeBs c ++ zs) (1 + j)) 4 = c.key := by
    have : lo (fun j => byteAt (codeBs c ++ zs) (1 + j)) 4 = lo (byteOf c.key) 4 := by
      simp only [lo]
      rw [e _ (by decide), e _ (by decide), e _ (by decide), e _ (by decide)]
      rfl
    rw [this, lo_bytes _ f.k0 f.k1]
  have lo2 : lo (fun j => byteAt (codeBs c ++ zs) (5 + j)) 4 = c.val := by
    have : lo (fun j => byteAt (codeBs c ++ zs) (5 + j)) 4 = lo (byteOf c.val) 4 := by
      simp only [lo]
      rw [e _ (by decide), e _ (by decide), e _ (by decide), e _ (by decide)]
      rfl
    rw [this, lo_bytes _ f.v0 f.v1]
  have e0 : byteAt (codeBs c ++ zs) 0 = c.op := by rw [e 0 (by decide)]; rfl
  unfold decT
  rw [lo1, lo2, e0]
  obtain ⟨o, k, v⟩ := c
  rcases right_op h with h | ⟨h | h, h2, h3⟩
  · simp only at h; subst h; rfl
  · simp only at h h2 h3; subst h h2 h3; rfl
  · simp only at h h2 h3; subst h h2 h3; rfl

end Go.Proofs.Ytdmdmkgpnelkjaa
