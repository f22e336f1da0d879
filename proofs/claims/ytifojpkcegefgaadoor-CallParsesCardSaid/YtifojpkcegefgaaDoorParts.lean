/- part, number, pair. -/
import Derived.Test.YtifojpkcegefgaaDoorLists
import Derived.Laws.RangeString
namespace Go.Proofs.YtifojpkcegefgaaDoor
open Go.ChangeShapes Go.WideShapes Go.ChangeAt Go.RowKit
set_option linter.unusedVariables false

theorem below_iter (w : World) (s : ByteArray) (pos : Nat) : Below w.heap.size w (w.iter s pos) := (Below.refl _ _).alloc (Nat.le_refl _) _
/-- A text's first i bytes; its bytes from i on. -/
theorem cut_to (l : List UInt8) (i : Nat) (hi : i ≤ l.length) (w : World) : (Instr.slice 9 (.string ⟨l.toArray⟩) none (some (.int .i64 (i : Int))) none).run Tryd.prog w = .ok (strV (l.take i)) w := by
  rw [run_slice_string_to_if _ 9 ⟨l.toArray⟩ .i64 _ Tryd.underlying9, if_pos ⟨by omega, by rw [mk_size]; omega⟩]
  congr 2
  apply ByteArray.ext
  simp [ByteArray.data_extract]
theorem cut_from (l : List UInt8) (i : Nat) (hi : i < l.length) (w : World) : (Instr.slice 9 (.string ⟨l.toArray⟩) (some (.int .i64 ((i : Int) + 1))) none none).run Tryd.prog w = .ok (strV (l.drop (i + 1))) w := by
  rw [run_slice_string_from_if _ 9 ⟨l.toArray⟩ .i64 _ Tryd.underlying9, if_pos ⟨by omega, by rw [mk_size]; omega⟩]
  have e : ((i : Int) + 1).toNat = i + 1 := by omega
  rw [e]
  congr 2
  apply ByteArray.ext
  simp [ByteArray.data_extract, mk_size]
  rw [List.take_of_length_le (by simp)]

set_option maxRecDepth 100000 in
set_option maxHeartbeats 4000000 in
theorem part_any (l : List UInt8) (hl : l.length ≤ 100000) (w : World) : Calls Tryd.prog 27 #[strV l] w fun e w' => e = .returned (.tuple #[strV (partL l).1, strV (partL l).2]) ∧ Below w.heap.size w w' := by
  have NX := fun pos (h : pos < l.length) => run_next_any (P := Tryd.prog) w ⟨l.toArray⟩ pos 0 (by rw [mk_size]; exact h)
  have NE := fun pos (h : ¬ pos < l.length) => run_next_end (P := Tryd.prog) w ⟨l.toArray⟩ pos 0 (by rw [mk_size]; exact h)
  have CT := cut_to l
  have CF := cut_from l
  have hP : ∀ pos, (w.iter ⟨l.toArray⟩ pos).iterPos w.heap.size = pos := fun pos => World.iterPos_iter _ _ _
  have RL := rune_low l
  have RH := rune_high l
  have RS := wide_skip l
  simp only [rune, wide] at RL RH RS
  have hB := fun pos => below_iter w ⟨l.toArray⟩ pos
  have fin : ∀ a b, partL l = (a, b) → ∀ e w', e = Ending.returned (.tuple #[strV a, strV b]) → Below w.heap.size w w' → (e = .returned (.tuple #[strV (partL l).1, strV (partL l).2]) ∧ Below w.heap.size w w') := by
    intro a b h e w' h1 h2
    rw [h]
    exact ⟨h1, h2⟩
  have PA := fun i h1 h2 h3 => partL_at (l := l) (i := i) h1 h2 h3
  have PE := partL_end (l := l)
  show Calls Tryd.prog 27 #[Value.string (ByteArray.mk l.toArray)] w _
  generalize hs : (ByteArray.mk l.toArray) = s at *
  have HS := Lib.hid hs
  clear hs
  generalize partL l = X at *
  go_enter Tryd.func27, Tryd.ntmps27
  go_wp2
  go_loopw [] (fun wr => ∃ pos : Nat, wr = w.iter s pos ∧ pos ≤ l.length ∧ Hid (∀ j, j < pos → l.getD j 0 ≠ 32)) (fun wr => l.length - wr.iterPos w.heap.size)
  case atStart => exact ⟨0, rfl, by omega, Lib.hid fun j hj => absurd hj (by omega)⟩
  case round =>
    obtain ⟨pos, rfl, hp, HN⟩ := hrel
    by_cases hlt : pos < l.length
    · have e1 := NX pos hlt
      obtain ⟨s1, s2, s3⟩ := RS pos hlt
      have hcase : (l[pos] = 32 ∧ (Utf8.decode s pos).1 = 32 ∧ (Utf8.decode s pos).2 = 1) ∨ (l[pos] ≠ 32 ∧ (Utf8.decode s pos).1 ≠ 32) := by
        by_cases h : l[pos].toNat < 128
        · obtain ⟨q1, q2⟩ := RL pos hlt h
          by_cases h2 : l[pos] = 32
          · left
            rw [q1, q2, h2]
            exact ⟨rfl, rfl, rfl⟩
          · right
            rw [q1]
            exact ⟨h2, fun e => h2 (by apply UInt8.toNat_inj.1; rw [e]; rfl)⟩
        · obtain ⟨q1, q2⟩ := RH pos hlt (by omega)
          right
          exact ⟨fun e => h (by rw [e]; decide), by omega⟩
      clear NX NE RL RH RS
      generalize (Utf8.decode s pos).1 = r at *
      generalize (Utf8.decode s pos).2 = k at *
      have hg : l.getD pos 0 = l[pos] := by simp [List.getD_eq_getElem?_getD, List.getElem?_eq_getElem hlt]
      rcases hcase with ⟨h1, h2, h3⟩ | ⟨h1, h2⟩
      · subst h2 h3
        have hE := fin _ _ (PA pos hlt HN.out (by rw [hg]; exact h1))
        have HE := Lib.hid hE
        have HB := Lib.hid (hB (pos + 1))
        have c1 := fun w => CT pos (by omega) w
        have c2 := fun w => CF pos hlt w
        clear hE PA PE fin HN CT CF hB hP
        go_wp2
        go_quiet (fail)
        go_wp2
        go_ret2
        refine HE.out _ _ rfl ?_
        exact below_drewN HB.out _
      · clear PA PE fin CT CF hB
        have h3 : ¬ (r : Int) = 32 := by omega
        go_wp2
        go_roundw
        case rel =>
          refine ⟨pos + k, rfl, s1, Lib.hid fun j hj => ?_⟩
          rcases Nat.lt_trichotomy j pos with h | h | h
          · exact HN.out j h
          · subst h
            rw [hg]
            exact h1
          · intro e
            have := s3 j h hj
            rw [e] at this
            simp at this
        case measure =>
          rw [hP, hP]
          omega
    · have e1 := NE pos hlt
      have hE := fin _ _ (PE fun j hj => HN.out j (by omega))
      have HE := Lib.hid hE
      have HB := Lib.hid (hB pos)
      clear hE PA PE fin HN CT CF hB NX NE RL RH RS
      go_wp2
      go_ret2
      exact HE.out _ _ (by rw [← HS.out]; rfl) HB.out

/-! ### number -/
theorem eq_str (a b : List UInt8) (w : World) : (Op.equalIn 10000 9 (.string ⟨a.toArray⟩) (.string ⟨b.toArray⟩)).run Tryd.prog w = .ok (a == b) w := by
  rw [run_equalIn_string w 9999 9 _ _ Tryd.underlying9, ByteArray.toList_eq, ByteArray.toList_eq]
/-- What number answers. -/
def numV (o : Option Nat) : Value := match o with | some n => .tuple #[.int .u32 n, .bool true] | none => .tuple #[.int .u32 0, .bool false]
theorem numGo_lt (r : List UInt8) : ∀ i n m, n < 4294967296 → numGo i n r = some m → m < 4294967296 := by
  induction r with
  | nil => intro i n m h e; simp [numGo] at e; omega
  | cons c r ih =>
    intro i n m h e
    unfold numGo at e
    split at e
    · cases e
    split at e
    · cases e
    split at e
    · cases e
    · exact ih _ _ _ (by omega) e
theorem drop_at {l : List UInt8} {i : Nat} (h : i < l.length) : l.drop i = l[i] :: l.drop (i + 1) := by simp

set_option maxRecDepth 100000 in
set_option maxHeartbeats 4000000 in
theorem number_any (l : List UInt8) (hl : l.length ≤ 100000) (w : World) : Calls Tryd.prog 33 #[strV l] w fun e w' => e = .returned (numV (numL l)) ∧ Below w.heap.size w w' := by
  have NX := fun pos (h : pos < l.length) => run_next_any (P := Tryd.prog) w ⟨l.toArray⟩ pos 0 (by rw [mk_size]; exact h)
  have NE := fun pos (h : ¬ pos < l.length) => run_next_end (P := Tryd.prog) w ⟨l.toArray⟩ pos 0 (by rw [mk_size]; exact h)
  have hP : ∀ pos, (w.iter ⟨l.toArray⟩ pos).iterPos w.heap.size = pos := fun pos => World.iterPos_iter _ _ _
  have RL := rune_low l
  have RH := rune_high l
  have RM := rune_le l
  simp only [rune, wide] at RL RH RM
  have hB := fun pos => below_iter w ⟨l.toArray⟩ pos
  have fin : ∀ o, numL l = o → ∀ e w', e = Ending.returned (numV o) → Below w.heap.size w w' → (e = .returned (numV (numL l)) ∧ Below w.heap.size w w') := by
    intro o h e w' h1 h2
    rw [h]
    exact ⟨h1, h2⟩
  have eN : l ≠ [] → numL l = numGo 0 0 l := fun h => by unfold numL; rw [if_neg h]
  have eZ : l = [] → numL l = none := fun h => by unfold numL; rw [if_pos h]
  show Calls Tryd.prog 33 #[Value.string (ByteArray.mk l.toArray)] w _
  have hq : (ByteArray.mk l.toArray).toList.isEmpty = l.isEmpty := by rw [ByteArray.toList_eq]
  generalize hs : (ByteArray.mk l.toArray) = s at *
  have HS := Lib.hid hs
  clear hs
  generalize numL l = X at *
  go_enter Tryd.func33, Tryd.ntmps33
  go_wp2
  go_loopw [4] (fun n wr => ∃ pos m : Nat, wr = w.iter s pos ∧ pos ≤ l.length ∧ n = .int .u64 m ∧ m < 4294967296 ∧ (pos = 0 → m = 0) ∧ Hid (numGo pos m (l.drop pos) = numGo 0 0 l)) (fun _ wr => l.length - wr.iterPos w.heap.size)
  case atStart => exact ⟨0, 0, rfl, by omega, rfl, by omega, fun _ => rfl, Lib.hid rfl⟩
  case round =>
    obtain ⟨pos, m, rfl, hp, rfl, hm, hz, HN⟩ := hrel
    by_cases hlt : pos < l.length
    · have e1 := NX pos hlt
      have hr := RM pos
      have hne : l ≠ [] := by intro e; rw [e] at hlt; simp at hlt
      have eX := eN hne
      have hcase : (l[pos].toNat = (Utf8.decode s pos).1 ∧ (Utf8.decode s pos).2 = 1) ∨ (57 < l[pos].toNat ∧ 57 < (Utf8.decode s pos).1) := by
        by_cases h : l[pos].toNat < 128
        · obtain ⟨q1, q2⟩ := RL pos hlt h
          exact .inl ⟨q1.symm, q2⟩
        · obtain ⟨q1, q2⟩ := RH pos hlt (by omega)
          right
          omega
      have hg := HN.out
      rw [drop_at hlt, ← eX] at hg
      simp only [numGo] at hg
      clear NX NE RL RH RM eN eZ hne hq HN
      generalize (Utf8.decode s pos).1 = r at *
      generalize (Utf8.decode s pos).2 = k at *
      generalize hrest : l.drop (pos + 1) = rest at *
      generalize l[pos].toNat = c at *
      by_cases h1 : c < 48 ∨ 57 < c
      · rw [if_pos h1] at hg
        have HE := Lib.hid (fin _ hg.symm)
        have HB := Lib.hid (hB (pos + k))
        clear hg fin hB hP hrest eX
        by_cases h2 : r < 48
        · have h3 : (r : Int) < 48 := by omega
          go_wp2
          go_ret2
          exact HE.out _ _ rfl HB.out
        · have h3 : ¬ (r : Int) < 48 := by omega
          have h4 : (57 : Int) < r := by omega
          go_wp2
          go_ret2
          exact HE.out _ _ rfl HB.out
      · rw [if_neg h1] at hg
        obtain ⟨rfl, rfl⟩ : r = c ∧ k = 1 := by omega
        have h3 : ¬ (r : Int) < 48 := by omega
        have h4 : ¬ (57 : Int) < r := by omega
        by_cases h5 : 0 < pos ∧ m = 0
        · rw [if_pos h5] at hg
          have HE := Lib.hid (fin _ hg.symm)
          have HB := Lib.hid (hB (pos + 1))
          clear hg fin hB hP hrest eX
          obtain ⟨h5, rfl⟩ := h5
          have h6 : (0 : Int) < pos := by omega
          go_wp2
          go_ret2
          exact HE.out _ _ rfl HB.out
        rw [if_neg h5] at hg
        have w2 : IntKind.i32.wrap ((r : Int) - 48) = ((r - 48 : Nat) : Int) := by rw [IntWalk.i32_in _ (by omega)]; omega
        have w3 : IntKind.u64.wrap (((r - 48 : Nat) : Int)) = ((r - 48 : Nat) : Int) := by rw [IntKind.wrap_u64]; omega
        by_cases h0 : pos = 0
        · subst h0
          obtain rfl := hz rfl
          rw [Nat.zero_mul, Nat.zero_add, if_neg (by omega)] at hg
          have HG := Lib.hid hg
          have h8 : ¬ (4294967295 : Int) < ((r - 48 : Nat) : Int) := by omega
          have h9 : r - 48 < 4294967296 := by omega
          generalize r - 48 = d at *
          clear hg fin hB h5 hz
          go_wp2
          go_roundw
          case rel => exact ⟨0 + 1, d, rfl, by omega, rfl, h9, fun h => absurd h (by omega), Lib.hid (by rw [hrest, ← eX]; exact HG.out)⟩
          case measure => rw [hP, hP]; omega
        · have hm0 : m ≠ 0 := fun e => h5 ⟨by omega, e⟩
          have w1 : IntKind.u64.wrap ((m : Int) * 10) = ((m * 10 : Nat) : Int) := by rw [IntKind.wrap_u64]; omega
          have w4 : IntKind.u64.wrap (((m * 10 : Nat) : Int) + ((r - 48 : Nat) : Int)) = ((m * 10 + (r - 48) : Nat) : Int) := by rw [IntKind.wrap_u64]; omega
          have g3 : (0 : Int) < pos := by omega
          have g4 : ((m : Int) == 0) = false := beq_f (by omega)
          clear hz h5
          generalize m * 10 = m10 at *
          generalize r - 48 = d at *
          by_cases h7 : 4294967295 < m10 + d
          · rw [if_pos h7] at hg
            have HE := Lib.hid (fin _ hg.symm)
            have HB := Lib.hid (hB (pos + 1))
            clear hg fin hB hP hrest eX
            have h8 : (4294967295 : Int) < ((m10 + d : Nat) : Int) := by omega
            generalize m10 + d = n' at *
            go_wp2
            go_ret2
            exact HE.out _ _ rfl HB.out
          · rw [if_neg h7] at hg
            have HG := Lib.hid hg
            clear hg fin hB
            have h8 : ¬ (4294967295 : Int) < ((m10 + d : Nat) : Int) := by omega
            have h9 : m10 + d < 4294967296 := by omega
            generalize m10 + d = n' at *
            go_wp2
            go_roundw
            case rel => exact ⟨pos + 1, n', rfl, by omega, rfl, h9, fun h => absurd h (by omega), Lib.hid (by rw [hrest, ← eX]; exact HG.out)⟩
            case measure => rw [hP, hP]; omega
    · have e1 := NE pos hlt
      have HB := Lib.hid (hB pos)
      have hd : l.drop pos = [] := List.drop_eq_nil_of_le (by omega)
      have hg := HN.out
      rw [hd] at hg
      simp only [numGo] at hg
      have hwm := IntWalk.u32_in (m : Int) (by omega)
      clear NX NE RL RH RM hB hP hd HN
      by_cases hn : l = []
      · subst hn
        have h0 : m = 0 := hz (by simp at hp; omega)
        have HE := Lib.hid (fin _ (eZ rfl))
        clear hg fin eN eZ
        subst h0
        rw [List.isEmpty_nil] at hq
        go_wp2
        go_ret2
        exact HE.out _ _ rfl HB.out
      · have hl2 : l.isEmpty = false := by simpa using hn
        rw [hl2] at hq
        have HE := Lib.hid (fin _ ((eN hn).trans hg.symm))
        clear hg fin eN eZ
        go_wp2
        go_ret2
        exact HE.out _ _ rfl HB.out
end Go.Proofs.YtifojpkcegefgaaDoor
