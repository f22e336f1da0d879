/- Digits; what layer 9 reads: parts, numbers, pairs. -/
import Derived.Test.YtdhdomeckloedaaDoorNear
import Derived.Lib.Walk
import Derived.Lib.ItoaMem
import Derived.Laws.RangeAny
import Derived.Lib.DecodeN
import Derived.Laws.RangeString
import Derived.Deep.QuietTactic
import Derived.Deep.RegionWith
import Derived.BigCall
import Derived.BigGuard
import Derived.BigQuiet
namespace Go.Proofs.YtdhdomeckloedaaDoor
open Go.ChangeShapes Go.WideShapes Go.ChangeAt Go.RowKit
set_option linter.unusedVariables false

theorem below_thn {w W V : World} (h : Below w.heap.size w W) (k : Below W.heap.size W V) : Below w.heap.size w V := h.trans (k.mono h.size)
/-- A text of these bytes. -/
abbrev strV (l : List UInt8) : Value := .string ⟨l.toArray⟩

/-- A call, or an answer, written plainly. -/
structure Tri where
  op : Int
  key : Int
  val : Int
abbrev Tri.v (c : Tri) : Value := .agg #[.int .i64 c.op, .int .u32 c.key, .int .u32 c.val]
abbrev Tri.cs (c : Tri) : Array Value := #[.int .i64 c.op, .int .u32 c.key, .int .u32 c.val]
/-- A number below 2^32 has at most ten digits. -/
theorem dec_len {u : Nat} (hu : u < 4294967296) : (Lib.decDigits u).length ≤ 10 := by
  rw [Lib.decDigits_length]
  rcases Nat.eq_zero_or_pos u with rfl | h1
  · rw [Lib.nDigits_small (by decide)]; decide
  · have hp := Lib.nDigits_pos u
    rcases Nat.lt_or_ge 10 (Lib.nDigits u) with h | h
    · exfalso
      have key : ∀ (k n : Nat), 10 ^ k ≤ n → ∀ m, n < 10 ^ m → k < m := fun k n a m b => Nat.pow_lt_pow_iff_right (by decide) |>.1 (Nat.lt_of_le_of_lt a b)
      have hlow : 10 ^ (Lib.nDigits u - 1) ≤ u := by
        clear hp h key hu
        induction u using Nat.strongRecOn with
        | _ u ih =>
          by_cases h10 : u < 10
          · rw [Lib.nDigits_small h10]; simp; omega
          · have := ih (u / 10) (by omega) (by omega)
            rw [Lib.nDigits_big h10]
            have hp := Lib.nDigits_pos (u / 10)
            have e : Lib.nDigits (u / 10) + 1 - 1 = (Lib.nDigits (u / 10) - 1) + 1 := by omega
            rw [e, Nat.pow_succ]
            omega
      have := key (Lib.nDigits u - 1) u hlow 10 (by omega)
      omega
    · exact h
theorem add_strs (x y : List UInt8) (hx : x.length ≤ 100000) (hy : y.length ≤ 100000) (w : World) : (Op.stringOp .add ⟨x.toArray⟩ ⟨y.toArray⟩).run Tryd.prog w = .ok (strV (x ++ y)) w :=
  run_string_add_lists w x y (by omega) (by omega)

/-- Two numbers' text. -/
def pairT (k v : Nat) : List UInt8 := Lib.decDigits k ++ 32 :: Lib.decDigits v
def doneT : List UInt8 := [100, 111, 110, 101]
def fullT : List UInt8 := [102, 117, 108, 108]
def emptyT : List UInt8 := [101, 109, 112, 116, 121]
/-- A bool that is decided. -/
theorem beq_t {a b : Int} (h : a = b) : (a == b) = true := by simpa using h
theorem beq_f {a b : Int} (h : ¬ a = b) : (a == b) = false := by simpa using h



abbrev tenB : ByteArray := ⟨#[48, 49, 50, 51, 52, 53, 54, 55, 56, 57]⟩
/-- A digit's text. -/
def digT (d : Nat) : List UInt8 := [UInt8.ofNat (48 + d)]
theorem ten_piece : ∀ d : Fin 10, (tenB.extract d.val (d.val + 1)) = ⟨(digT d.val).toArray⟩ := by decide +kernel
theorem one_digit (m : Nat) (w : World) : (Instr.slice 9 (.string tenB) (some (.int .u64 ((m : Int) % 10))) (some (.int .u64 ((m : Int) % 10 + 1))) none).run Tryd.prog w = .ok (strV (digT (m % 10))) w := by
  have hd : m % 10 < 10 := Nat.mod_lt _ (by decide)
  have hs : tenB.size = 10 := rfl
  rw [run_slice_string w 9 tenB .u64 .u64 _ _ Tryd.underlying9 (by omega) (by omega) (by rw [hs]; omega), show ((m : Int) % 10).toNat = m % 10 by omega, show ((m : Int) % 10 + 1).toNat = m % 10 + 1 by omega]
  rw [ten_piece ⟨m % 10, hd⟩]
/-- The digits ahead of the last one. -/
def pre (m : Nat) : List UInt8 := if m < 10 then [] else Lib.decDigits (m / 10)
theorem dec_pre (m : Nat) : Lib.decDigits m = pre m ++ digT (m % 10) := by
  unfold pre digT
  by_cases h : m < 10
  · rw [Lib.decDigits_one h, if_pos h, Nat.mod_eq_of_lt h]; rfl
  · rw [Lib.decDigits, dif_neg h, if_neg h]
theorem mod_same (m : Nat) : (m : Int).tmod 10 = (m : Int) % 10 := Int.tmod_eq_emod_of_nonneg (by omega)
theorem div_same (m : Nat) : (m : Int).tdiv 10 = ((m / 10 : Nat) : Int) := by rw [Int.tdiv_eq_ediv_of_nonneg (by omega)]; omega

set_option maxRecDepth 100000 in
theorem refDigits_any (u : Nat) (hu : u < 4294967296) (w : World) : Calls Tryd.prog 35 #[.int .u64 u] w fun e w' => e = .returned (strV (Lib.decDigits u)) ∧ w = w' := by
  have hlen := dec_len hu
  have q0 := fun w => one_digit u w
  have e0 := dec_pre u
  have m0 := mod_same u
  generalize Lib.decDigits u = X at *
  generalize digT (u % 10) = d0 at *
  go_enter Tryd.func35, Tryd.ntmps35
  go_wp2
  go_loop [0, 4] (fun n s => ∃ (m : Nat) (t : List UInt8), m ≤ u ∧ n = .int .u64 m ∧ s = strV t ∧ X = pre m ++ t) (fun n _ => (intOf n).toNat)
  case atStart => exact ⟨u, d0, Nat.le_refl _, rfl, rfl, e0⟩
  case round =>
    obtain ⟨m, t, hm, rfl, rfl, he⟩ := hrel
    clear q0 e0 m0
    by_cases h : m < 10
    · have : X = t := by simpa [pre, h] using he
      subst this
      clear he
      go_wp2
      go_ret
      exact ⟨rfl, rfl⟩
    · have htl : t.length ≤ 10 := by
        have := congrArg List.length he
        simp at this
        omega
      have e1 : X = pre (m / 10) ++ (digT (m / 10 % 10) ++ t) := by
        rw [he]
        simp only [pre, h, if_false]
        rw [dec_pre (m / 10)]
        simp [pre]
      have q1 := fun w => one_digit (m / 10) w
      have q2 := fun w => add_strs (digT (m / 10 % 10)) t (by simp [digT]) (by omega) w
      have m1 := mod_same (m / 10)
      have m2 := div_same m
      clear he
      generalize digT (m / 10 % 10) = d1 at *
      have E1 := Lib.hid e1
      clear e1
      have hx : m / 10 < m := by omega
      have hy : m / 10 ≤ u := by omega
      generalize m / 10 = m' at *
      go_wp2
      go_round
      case rel => exact ⟨m', d1 ++ t, hy, rfl, rfl, E1.out⟩
      case measure => simpa [intOf] using hx
theorem refDigits_q (u : Nat) (hu : u < 4294967296) (w : World) : Calls Tryd.prog 35 #[.int .u64 u] w fun e w' => e = .returned (strV (Lib.decDigits u)) ∧ w' = w :=
  (refDigits_any u hu w).mono fun _ _ h => ⟨h.1, h.2.symm⟩


theorem mk_size (l : List UInt8) : (ByteArray.mk l.toArray).size = l.length := by simp [ByteArray.size]
theorem mk_get (l : List UInt8) (i : Nat) : (ByteArray.mk l.toArray).get! i = l.getD i 0 := by
  show l.toArray[i]! = l.getD i 0
  by_cases h : i < l.length
  · rw [getElem!_pos _ i (by simpa using h)]
    simp [List.getD_eq_getElem?_getD, List.getElem?_eq_getElem h]
  · rw [getElem!_neg _ i (by simpa using h)]
    simp only [List.getD_eq_getElem?_getD, List.getElem?_eq_none (Nat.le_of_not_lt h)]
    rfl
theorem mk_at (l : List UInt8) (i : Nat) (h : i < l.length) (h' : i < (ByteArray.mk l.toArray).size) : (ByteArray.mk l.toArray)[i]'h' = l[i] := by
  show l.toArray[i]'_ = l[i]
  simp
abbrev rune (l : List UInt8) (i : Nat) : Nat := (Utf8.decode ⟨l.toArray⟩ i).1
abbrev wide (l : List UInt8) (i : Nat) : Nat := (Utf8.decode ⟨l.toArray⟩ i).2
/-- An ASCII sign is its byte. -/
theorem rune_low (l : List UInt8) (i : Nat) (h : i < l.length) (hb : l[i].toNat < 128) : rune l i = l[i].toNat ∧ wide l i = 1 := by
  have hs : i < (ByteArray.mk l.toArray).size := by rw [mk_size]; exact h
  have e := mk_at l i h hs
  have := decode_ascii ⟨l.toArray⟩ i hs (by rw [e]; exact hb)
  rw [rune, wide, this, e]
  exact ⟨rfl, rfl⟩
theorem rune_high (l : List UInt8) (i : Nat) (h : i < l.length) (hb : 128 ≤ l[i].toNat) : 128 ≤ rune l i ∧ 1 ≤ wide l i := by
  have hs : i < (ByteArray.mk l.toArray).size := by rw [mk_size]; exact h
  exact decode_high ⟨l.toArray⟩ i hs (by rw [mk_at l i h hs]; exact hb)
theorem rune_le (l : List UInt8) (i : Nat) : rune l i ≤ 2147483647 := decode_le _ _
/-- The bytes that a sign passes over are no ASCII ones. -/
theorem wide_skip (l : List UInt8) (i : Nat) (h : i < l.length) : i + wide l i ≤ l.length ∧ 1 ≤ wide l i ∧ ∀ j, i < j → j < i + wide l i → 128 ≤ (l.getD j 0).toNat := by
  have e := Lib.decode_at ⟨l.toArray⟩ i
  simp only [mk_size, mk_get] at e
  have key : ∀ n b0 b1 b2 b3 : Nat, 1 ≤ n → (Lib.decodeN n b0 b1 b2 b3).2 ≤ n ∧ 1 ≤ (Lib.decodeN n b0 b1 b2 b3).2 ∧ (1 < (Lib.decodeN n b0 b1 b2 b3).2 → 128 ≤ b1) ∧ (2 < (Lib.decodeN n b0 b1 b2 b3).2 → 128 ≤ b2) ∧ (3 < (Lib.decodeN n b0 b1 b2 b3).2 → 128 ≤ b3) ∧ (Lib.decodeN n b0 b1 b2 b3).2 ≤ 4 := by
    intro n b0 b1 b2 b3 hn
    unfold Lib.decodeN
    repeat' split
    all_goals (simp only; omega)
  have k := key (l.length - i) (l.getD i 0).toNat (l.getD (i + 1) 0).toNat (l.getD (i + 2) 0).toNat (l.getD (i + 3) 0).toNat (by omega)
  rw [← e] at k
  have k1 : wide l i ≤ l.length - i := k.1
  have k2 : 1 ≤ wide l i := k.2.1
  have k3 : 1 < wide l i → _ := k.2.2.1
  have k4 : 2 < wide l i → _ := k.2.2.2.1
  have k5 : 3 < wide l i → _ := k.2.2.2.2.1
  have k6 : wide l i ≤ 4 := k.2.2.2.2.2
  clear k key e
  refine ⟨by omega, k2, fun j h1 h2 => ?_⟩
  rcases (show j = i + 1 ∨ j = i + 2 ∨ j = i + 3 by omega) with rfl | rfl | rfl
  · exact k3 (by omega)
  · exact k4 (by omega)
  · exact k5 (by omega)

/-- What is ahead of the first blank, and what is behind it. -/
def partL : List UInt8 → List UInt8 × List UInt8
  | [] => ([], [])
  | c :: r => if c = 32 then ([], r) else (c :: (partL r).1, (partL r).2)
def NoBlank (l : List UInt8) : Prop := ∀ c ∈ l, c ≠ 32
theorem partL_none {l : List UInt8} (h : NoBlank l) : partL l = (l, []) := by
  induction l with
  | nil => rfl
  | cons c r ih =>
    have hc := h c (by simp)
    have := ih fun x hx => h x (by simp [hx])
    simp [partL, hc, this]
theorem partL_some {a b : List UInt8} (h : NoBlank a) : partL (a ++ 32 :: b) = (a, b) := by
  induction a with
  | nil => simp [partL]
  | cons c r ih =>
    have hc := h c (by simp)
    have := ih fun x hx => h x (by simp [hx])
    simp [partL, hc, this]
theorem partL_at {l : List UInt8} {i : Nat} (h : i < l.length) (h1 : ∀ j, j < i → l.getD j 0 ≠ 32) (h2 : l.getD i 0 = 32) : partL l = (l.take i, l.drop (i + 1)) := by
  have e : l = l.take i ++ 32 :: l.drop (i + 1) := by
    have : l[i] = 32 := by simpa [List.getD_eq_getElem?_getD, List.getElem?_eq_getElem h] using h2
    rw [← this]
    simp
  have hn : NoBlank (l.take i) := by
    intro c hc
    obtain ⟨j, hj, rfl⟩ := List.getElem_of_mem hc
    rw [List.length_take] at hj
    have hl : j < l.length := by omega
    have := h1 j (by omega)
    simpa [List.getD_eq_getElem?_getD, List.getElem?_eq_getElem hl] using this
  rw [e, partL_some hn, ← e]
theorem partL_end {l : List UInt8} (h1 : ∀ j, j < l.length → l.getD j 0 ≠ 32) : partL l = (l, []) := by
  refine partL_none fun c hc => ?_
  obtain ⟨j, hj, rfl⟩ := List.getElem_of_mem hc
  have := h1 j hj
  simpa [List.getD_eq_getElem?_getD, List.getElem?_eq_getElem hj] using this

def numGo : Nat → Nat → List UInt8 → Option Nat
  | _, n, [] => some n
  | i, n, c :: r => if c.toNat < 48 ∨ 57 < c.toNat then none else if 0 < i ∧ n = 0 then none else if 4294967295 < n * 10 + (c.toNat - 48) then none else numGo (i + 1) (n * 10 + (c.toNat - 48)) r
/-- What number a text is of. -/
def numL (l : List UInt8) : Option Nat := if l = [] then none else numGo 0 0 l
theorem numGo_sound (r : List UInt8) : ∀ (p : List UInt8) (n m : Nat), (p = [] ∧ n = 0 ∧ r ≠ []) ∨ (p = Lib.decDigits n ∧ n < 4294967296) → numGo p.length n r = some m → p ++ r = Lib.decDigits m ∧ m < 4294967296 := by
  induction r with
  | nil =>
    intro p n m h e
    simp [numGo] at e
    rcases h with ⟨_, _, h⟩ | ⟨h, h'⟩
    · exact absurd rfl h
    · subst e
      exact ⟨by simp [h], h'⟩
  | cons c r ih =>
    intro p n m h e
    unfold numGo at e
    split at e
    · cases e
    next h1 =>
    split at e
    · cases e
    next h2 =>
    split at e
    · cases e
    next h3 =>
    have hd : c = UInt8.ofNat (48 + (c.toNat - 48)) := by
      apply UInt8.toNat_inj.1
      rw [UInt8.toNat_ofNat']
      omega
    have hp : p ++ [c] = Lib.decDigits (n * 10 + (c.toNat - 48)) := by
      rcases h with ⟨h, h', _⟩ | ⟨h, _⟩
      · subst h h'
        rw [Lib.decDigits_one (by omega)]
        simp only [List.nil_append, Nat.zero_mul, Nat.zero_add]
        rw [← hd]
      · have hpos : 0 < p.length := by rw [h, Lib.decDigits_length]; exact Lib.nDigits_pos n
        have hn : ¬ n = 0 := fun e => h2 ⟨hpos, e⟩
        rw [Lib.decDigits, dif_neg (by omega), show (n * 10 + (c.toNat - 48)) / 10 = n by omega, show (n * 10 + (c.toNat - 48)) % 10 = c.toNat - 48 by omega, ← h, ← hd]
    have := ih (p ++ [c]) (n * 10 + (c.toNat - 48)) m (.inr ⟨hp, by omega⟩) (by simpa using e)
    simpa using this
theorem numGo_dec (n : Nat) : n < 4294967296 → ∀ r, numGo 0 0 (Lib.decDigits n ++ r) = numGo (Lib.nDigits n) n r := by
  induction n using Nat.strongRecOn with
  | _ n ih =>
    intro hn r
    by_cases h : n < 10
    · rw [Lib.decDigits_one h, Lib.nDigits_small h]
      have e : (UInt8.ofNat (48 + n)).toNat = 48 + n := by rw [UInt8.toNat_ofNat']; omega
      simp only [List.cons_append, List.nil_append, numGo, e]
      rw [if_neg (by omega), if_neg (by omega), if_neg (by omega)]
      simp
    · rw [Lib.decDigits, dif_neg h, List.append_assoc, ih (n / 10) (by omega) (by omega), Lib.nDigits_big h]
      have e : (UInt8.ofNat (48 + n % 10)).toNat = 48 + n % 10 := by rw [UInt8.toNat_ofNat']; omega
      simp only [List.cons_append, List.nil_append, numGo, e]
      rw [if_neg (by omega), if_neg (by omega), if_neg (by omega), show n / 10 * 10 + (48 + n % 10 - 48) = n by omega]
theorem decDigits_ne (n : Nat) : Lib.decDigits n ≠ [] := by
  intro h
  have := Lib.decDigits_length n
  rw [h] at this
  have := Lib.nDigits_pos n
  simp_all
  omega
theorem numL_dec {n : Nat} (h : n < 4294967296) : numL (Lib.decDigits n) = some n := by
  unfold numL
  rw [if_neg (decDigits_ne n)]
  have := numGo_dec n h []
  simpa [numGo] using this
theorem numL_sound {l : List UInt8} {m : Nat} (h : numL l = some m) : l = Lib.decDigits m ∧ m < 4294967296 := by
  unfold numL at h
  split at h
  · cases h
  next h1 => simpa using numGo_sound l [] 0 m (.inl ⟨rfl, rfl, h1⟩) (by simpa using h)
/-- Digits are digits. -/
theorem dec_digit (n : Nat) : ∀ c ∈ Lib.decDigits n, 48 ≤ c.toNat ∧ c.toNat ≤ 57 := by
  intro c hc
  rw [Lib.decDigits_eq] at hc
  simp at hc
  obtain ⟨t, _, rfl⟩ := hc
  unfold Lib.dg
  rw [UInt8.toNat_ofNat']
  omega
theorem dec_noBlank (n : Nat) : NoBlank (Lib.decDigits n) := by
  intro c hc e
  have := dec_digit n c hc
  subst e
  simp at this
theorem decDigits_inj {a b : Nat} (ha : a < 4294967296) (hb : b < 4294967296) (h : Lib.decDigits a = Lib.decDigits b) : a = b := by
  have := numL_dec ha
  rw [h, numL_dec hb] at this
  simpa using this.symm

def pairL (l : List UInt8) : Option (Nat × Nat) :=
  match numL (partL l).1, numL (partL l).2 with
  | some k, some v => some (k, v)
  | _, _ => none
theorem pairL_text {k v : Nat} (hk : k < 4294967296) (hv : v < 4294967296) : pairL (pairT k v) = some (k, v) := by
  unfold pairL pairT
  rw [partL_some (dec_noBlank k)]
  simp [numL_dec hk, numL_dec hv]
theorem noBlank_or (l : List UInt8) : (NoBlank l ∧ partL l = (l, [])) ∨ l = (partL l).1 ++ 32 :: (partL l).2 := by
  induction l with
  | nil => exact .inl ⟨(by intro c h; simp at h), rfl⟩
  | cons c r ih =>
    by_cases hc : c = 32
    · subst hc
      right
      simp [partL]
    · rcases ih with ⟨h, _⟩ | h
      · have : NoBlank (c :: r) := by
          intro x hx
          rcases List.mem_cons.1 hx with rfl | hx
          · exact hc
          · exact h x hx
        exact .inl ⟨this, partL_none this⟩
      · right
        simp only [partL, hc, if_false, List.cons_append]
        rw [← h]
theorem pairL_sound {l : List UInt8} {k v : Nat} (h : pairL l = some (k, v)) : l = pairT k v ∧ k < 4294967296 ∧ v < 4294967296 := by
  unfold pairL at h
  split at h
  · next k' v' h1 h2 =>
    simp at h
    obtain ⟨rfl, rfl⟩ := h
    obtain ⟨e1, hk⟩ := numL_sound h1
    obtain ⟨e2, hv⟩ := numL_sound h2
    refine ⟨?_, hk, hv⟩
    rcases noBlank_or l with ⟨_, h⟩ | h
    · rw [h] at e2
      exact absurd e2.symm (decDigits_ne _)
    · rw [h, e1, e2]
      rfl
  · cases h
def readL (l : List UInt8) : Option Tri :=
  if l = doneT then some ⟨0, 0, 0⟩ else if l = fullT then some ⟨1, 0, 0⟩ else if l = emptyT then some ⟨3, 0, 0⟩ else
  match pairL l with
  | some (k, v) => some ⟨2, k, v⟩
  | none => none
theorem readL_pair {k v : Nat} (hk : k < 4294967296) (hv : v < 4294967296) : readL (pairT k v) = some ⟨2, k, v⟩ := by
  have key : ∀ (c : UInt8) (r : List UInt8), 57 < c.toNat → pairT k v ≠ c :: r := by
    intro c r h e
    unfold pairT at e
    cases hd : Lib.decDigits k with
    | nil => exact absurd hd (decDigits_ne k)
    | cons x xs =>
      have := dec_digit k x (by rw [hd]; simp)
      rw [hd] at e
      simp at e
      obtain ⟨rfl, _⟩ := e
      omega
  have n1 : ¬ pairT k v = doneT := key 100 [111, 110, 101] (by decide)
  have n2 : ¬ pairT k v = fullT := key 102 [117, 108, 108] (by decide)
  have n3 : ¬ pairT k v = emptyT := key 101 [109, 112, 116, 121] (by decide)
  unfold readL
  rw [if_neg n1, if_neg n2, if_neg n3, pairL_text hk hv]


theorem below_iter (w : World) (s : ByteArray) (pos : Nat) : Below w.heap.size w (w.iter s pos) := (Below.refl _ _).alloc (Nat.le_refl _) _
/-- A text's first i bytes; its bytes from i on. -/
theorem cut_to (l : List UInt8) (i : Nat) (hi : i ≤ l.length) (w : World) : (Instr.slice 9 (.string ⟨l.toArray⟩) none (some (.int .i64 (i : Int))) none).run Tryd.prog w = .ok (strV (l.take i)) w := by
  rw [run_slice_string_to_if _ 9 ⟨l.toArray⟩ .i64 _ Tryd.underlying9, if_pos ⟨by omega, by rw [mk_size]; omega⟩]
  congr 2
  apply ByteArray.ext
  simp [ByteArray.data_extract]
theorem cut_from (l : List UInt8) (i : Nat) (hi : i < l.length) (w : World) : (Instr.slice 9 (.string ⟨l.toArray⟩) (some (.int .i64 ((i : Int) + 1))) none none).run Tryd.prog w = .ok (strV (l.drop (i + 1))) w := by
  rw [run_slice_string_from_if _ 9 ⟨l.toArray⟩ .i64 _ Tryd.underlying9, if_pos ⟨by omega, by rw [mk_size]; omega⟩]
  have e : ((i : Int) + 1).toNat = i + 1 := by omega
  rw [e]
  congr 2
  apply ByteArray.ext
  simp [ByteArray.data_extract, mk_size]
  rw [List.take_of_length_le (by simp)]

set_option maxRecDepth 100000 in
set_option maxHeartbeats 4000000 in
theorem part_any (l : List UInt8) (hl : l.length ≤ 100000) (w : World) : Calls Tryd.prog 65 #[strV l] w fun e w' => e = .returned (.tuple #[strV (partL l).1, strV (partL l).2]) ∧ Below w.heap.size w w' := by
  have NX := fun pos (h : pos < l.length) => run_next_any (P := Tryd.prog) w ⟨l.toArray⟩ pos 0 (by rw [mk_size]; exact h)
  have NE := fun pos (h : ¬ pos < l.length) => run_next_end (P := Tryd.prog) w ⟨l.toArray⟩ pos 0 (by rw [mk_size]; exact h)
  have CT := cut_to l
  have CF := cut_from l
  have hP : ∀ pos, (w.iter ⟨l.toArray⟩ pos).iterPos w.heap.size = pos := fun pos => World.iterPos_iter _ _ _
  have RL := rune_low l
  have RH := rune_high l
  have RS := wide_skip l
  simp only [rune, wide] at RL RH RS
  have hB := fun pos => below_iter w ⟨l.toArray⟩ pos
  have fin : ∀ a b, partL l = (a, b) → ∀ e w', e = Ending.returned (.tuple #[strV a, strV b]) → Below w.heap.size w w' → (e = .returned (.tuple #[strV (partL l).1, strV (partL l).2]) ∧ Below w.heap.size w w') := by
    intro a b h e w' h1 h2
    rw [h]
    exact ⟨h1, h2⟩
  have PA := fun i h1 h2 h3 => partL_at (l := l) (i := i) h1 h2 h3
  have PE := partL_end (l := l)
  show Calls Tryd.prog 65 #[Value.string (ByteArray.mk l.toArray)] w _
  generalize hs : (ByteArray.mk l.toArray) = s at *
  have HS := Lib.hid hs
  clear hs
  generalize partL l = X at *
  go_enter Tryd.func65, Tryd.ntmps65
  go_wp2
  go_loopw [] (fun wr => ∃ pos : Nat, wr = w.iter s pos ∧ pos ≤ l.length ∧ Hid (∀ j, j < pos → l.getD j 0 ≠ 32)) (fun wr => l.length - wr.iterPos w.heap.size)
  case atStart => exact ⟨0, rfl, by omega, Lib.hid fun j hj => absurd hj (by omega)⟩
  case round =>
    obtain ⟨pos, rfl, hp, HN⟩ := hrel
    by_cases hlt : pos < l.length
    · have e1 := NX pos hlt
      obtain ⟨s1, s2, s3⟩ := RS pos hlt
      have hcase : (l[pos] = 32 ∧ (Utf8.decode s pos).1 = 32 ∧ (Utf8.decode s pos).2 = 1) ∨ (l[pos] ≠ 32 ∧ (Utf8.decode s pos).1 ≠ 32) := by
        by_cases h : l[pos].toNat < 128
        · obtain ⟨q1, q2⟩ := RL pos hlt h
          by_cases h2 : l[pos] = 32
          · left
            rw [q1, q2, h2]
            exact ⟨rfl, rfl, rfl⟩
          · right
            rw [q1]
            exact ⟨h2, fun e => h2 (by apply UInt8.toNat_inj.1; rw [e]; rfl)⟩
        · obtain ⟨q1, q2⟩ := RH pos hlt (by omega)
          right
          exact ⟨fun e => h (by rw [e]; decide), by omega⟩
      clear NX NE RL RH RS
      generalize (Utf8.decode s pos).1 = r at *
      generalize (Utf8.decode s pos).2 = k at *
      have hg : l.getD pos 0 = l[pos] := by simp [List.getD_eq_getElem?_getD, List.getElem?_eq_getElem hlt]
      rcases hcase with ⟨h1, h2, h3⟩ | ⟨h1, h2⟩
      · subst h2 h3
        have hE := fin _ _ (PA pos hlt HN.out (by rw [hg]; exact h1))
        have HE := Lib.hid hE
        have HB := Lib.hid (hB (pos + 1))
        have c1 := fun w => CT pos (by omega) w
        have c2 := fun w => CF pos hlt w
        clear hE PA PE fin HN CT CF hB hP
        go_wp2
        go_quiet (fail)
        go_wp2
        go_ret2
        refine HE.out _ _ rfl ?_
        exact below_drewN HB.out _
      · clear PA PE fin CT CF hB
        have h3 : ¬ (r : Int) = 32 := by omega
        go_wp2
        go_roundw
        case rel =>
          refine ⟨pos + k, rfl, s1, Lib.hid fun j hj => ?_⟩
          rcases Nat.lt_trichotomy j pos with h | h | h
          · exact HN.out j h
          · subst h
            rw [hg]
            exact h1
          · intro e
            have := s3 j h hj
            rw [e] at this
            simp at this
        case measure =>
          rw [hP, hP]
          omega
    · have e1 := NE pos hlt
      have hE := fin _ _ (PE fun j hj => HN.out j (by omega))
      have HE := Lib.hid hE
      have HB := Lib.hid (hB pos)
      clear hE PA PE fin HN CT CF hB NX NE RL RH RS
      go_wp2
      go_ret2
      exact HE.out _ _ (by rw [← HS.out]; rfl) HB.out

theorem eq_str (a b : List UInt8) (w : World) : (Op.equalIn 10000 9 (.string ⟨a.toArray⟩) (.string ⟨b.toArray⟩)).run Tryd.prog w = .ok (a == b) w := by
  rw [run_equalIn_string w 9999 9 _ _ Tryd.underlying9, ByteArray.toList_eq, ByteArray.toList_eq]
/-- What number answers. -/
def numV (o : Option Nat) : Value := match o with | some n => .tuple #[.int .u32 n, .bool true] | none => .tuple #[.int .u32 0, .bool false]
theorem numGo_lt (r : List UInt8) : ∀ i n m, n < 4294967296 → numGo i n r = some m → m < 4294967296 := by
  induction r with
  | nil => intro i n m h e; simp [numGo] at e; omega
  | cons c r ih =>
    intro i n m h e
    unfold numGo at e
    split at e
    · cases e
    split at e
    · cases e
    split at e
    · cases e
    · exact ih _ _ _ (by omega) e
theorem drop_at {l : List UInt8} {i : Nat} (h : i < l.length) : l.drop i = l[i] :: l.drop (i + 1) := by simp

set_option maxRecDepth 100000 in
set_option maxHeartbeats 4000000 in
theorem number_any (l : List UInt8) (hl : l.length ≤ 100000) (w : World) : Calls Tryd.prog 66 #[strV l] w fun e w' => e = .returned (numV (numL l)) ∧ Below w.heap.size w w' := by
  have NX := fun pos (h : pos < l.length) => run_next_any (P := Tryd.prog) w ⟨l.toArray⟩ pos 0 (by rw [mk_size]; exact h)
  have NE := fun pos (h : ¬ pos < l.length) => run_next_end (P := Tryd.prog) w ⟨l.toArray⟩ pos 0 (by rw [mk_size]; exact h)
  have hP : ∀ pos, (w.iter ⟨l.toArray⟩ pos).iterPos w.heap.size = pos := fun pos => World.iterPos_iter _ _ _
  have RL := rune_low l
  have RH := rune_high l
  have RM := rune_le l
  simp only [rune, wide] at RL RH RM
  have hB := fun pos => below_iter w ⟨l.toArray⟩ pos
  have fin : ∀ o, numL l = o → ∀ e w', e = Ending.returned (numV o) → Below w.heap.size w w' → (e = .returned (numV (numL l)) ∧ Below w.heap.size w w') := by
    intro o h e w' h1 h2
    rw [h]
    exact ⟨h1, h2⟩
  have eN : l ≠ [] → numL l = numGo 0 0 l := fun h => by unfold numL; rw [if_neg h]
  have eZ : l = [] → numL l = none := fun h => by unfold numL; rw [if_pos h]
  show Calls Tryd.prog 66 #[Value.string (ByteArray.mk l.toArray)] w _
  have hq : (ByteArray.mk l.toArray).toList.isEmpty = l.isEmpty := by rw [ByteArray.toList_eq]
  generalize hs : (ByteArray.mk l.toArray) = s at *
  have HS := Lib.hid hs
  clear hs
  generalize numL l = X at *
  go_enter Tryd.func66, Tryd.ntmps66
  go_wp2
  go_loopw [4] (fun n wr => ∃ pos m : Nat, wr = w.iter s pos ∧ pos ≤ l.length ∧ n = .int .u64 m ∧ m < 4294967296 ∧ (pos = 0 → m = 0) ∧ Hid (numGo pos m (l.drop pos) = numGo 0 0 l)) (fun _ wr => l.length - wr.iterPos w.heap.size)
  case atStart => exact ⟨0, 0, rfl, by omega, rfl, by omega, fun _ => rfl, Lib.hid rfl⟩
  case round =>
    obtain ⟨pos, m, rfl, hp, rfl, hm, hz, HN⟩ := hrel
    by_cases hlt : pos < l.length
    · have e1 := NX pos hlt
      have hr := RM pos
      have hne : l ≠ [] := by intro e; rw [e] at hlt; simp at hlt
      have eX := eN hne
      have hcase : (l[pos].toNat = (Utf8.decode s pos).1 ∧ (Utf8.decode s pos).2 = 1) ∨ (57 < l[pos].toNat ∧ 57 < (Utf8.decode s pos).1) := by
        by_cases h : l[pos].toNat < 128
        · obtain ⟨q1, q2⟩ := RL pos hlt h
          exact .inl ⟨q1.symm, q2⟩
        · obtain ⟨q1, q2⟩ := RH pos hlt (by omega)
          right
          omega
      have hg := HN.out
      rw [drop_at hlt, ← eX] at hg
      simp only [numGo] at hg
      clear NX NE RL RH RM eN eZ hne hq HN
      generalize (Utf8.decode s pos).1 = r at *
      generalize (Utf8.decode s pos).2 = k at *
      generalize hrest : l.drop (pos + 1) = rest at *
      generalize l[pos].toNat = c at *
      by_cases h1 : c < 48 ∨ 57 < c
      · rw [if_pos h1] at hg
        have HE := Lib.hid (fin _ hg.symm)
        have HB := Lib.hid (hB (pos + k))
        clear hg fin hB hP hrest eX
        by_cases h2 : r < 48
        · have h3 : (r : Int) < 48 := by omega
          go_wp2
          go_ret2
          exact HE.out _ _ rfl HB.out
        · have h3 : ¬ (r : Int) < 48 := by omega
          have h4 : (57 : Int) < r := by omega
          go_wp2
          go_ret2
          exact HE.out _ _ rfl HB.out
      · rw [if_neg h1] at hg
        obtain ⟨rfl, rfl⟩ : r = c ∧ k = 1 := by omega
        have h3 : ¬ (r : Int) < 48 := by omega
        have h4 : ¬ (57 : Int) < r := by omega
        by_cases h5 : 0 < pos ∧ m = 0
        · rw [if_pos h5] at hg
          have HE := Lib.hid (fin _ hg.symm)
          have HB := Lib.hid (hB (pos + 1))
          clear hg fin hB hP hrest eX
          obtain ⟨h5, rfl⟩ := h5
          have h6 : (0 : Int) < pos := by omega
          go_wp2
          go_ret2
          exact HE.out _ _ rfl HB.out
        rw [if_neg h5] at hg
        have w2 : IntKind.i32.wrap ((r : Int) - 48) = ((r - 48 : Nat) : Int) := by rw [IntWalk.i32_in _ (by omega)]; omega
        have w3 : IntKind.u64.wrap (((r - 48 : Nat) : Int)) = ((r - 48 : Nat) : Int) := by rw [IntKind.wrap_u64]; omega
        by_cases h0 : pos = 0
        · subst h0
          obtain rfl := hz rfl
          rw [Nat.zero_mul, Nat.zero_add, if_neg (by omega)] at hg
          have HG := Lib.hid hg
          have h8 : ¬ (4294967295 : Int) < ((r - 48 : Nat) : Int) := by omega
          have h9 : r - 48 < 4294967296 := by omega
          generalize r - 48 = d at *
          clear hg fin hB h5 hz
          go_wp2
          go_roundw
          case rel => exact ⟨0 + 1, d, rfl, by omega, rfl, h9, fun h => absurd h (by omega), Lib.hid (by rw [hrest, ← eX]; exact HG.out)⟩
          case measure => rw [hP, hP]; omega
        · have hm0 : m ≠ 0 := fun e => h5 ⟨by omega, e⟩
          have w1 : IntKind.u64.wrap ((m : Int) * 10) = ((m * 10 : Nat) : Int) := by rw [IntKind.wrap_u64]; omega
          have w4 : IntKind.u64.wrap (((m * 10 : Nat) : Int) + ((r - 48 : Nat) : Int)) = ((m * 10 + (r - 48) : Nat) : Int) := by rw [IntKind.wrap_u64]; omega
          have g3 : (0 : Int) < pos := by omega
          have g4 : ((m : Int) == 0) = false := beq_f (by omega)
          clear hz h5
          generalize m * 10 = m10 at *
          generalize r - 48 = d at *
          by_cases h7 : 4294967295 < m10 + d
          · rw [if_pos h7] at hg
            have HE := Lib.hid (fin _ hg.symm)
            have HB := Lib.hid (hB (pos + 1))
            clear hg fin hB hP hrest eX
            have h8 : (4294967295 : Int) < ((m10 + d : Nat) : Int) := by omega
            generalize m10 + d = n' at *
            go_wp2
            go_ret2
            exact HE.out _ _ rfl HB.out
          · rw [if_neg h7] at hg
            have HG := Lib.hid hg
            clear hg fin hB
            have h8 : ¬ (4294967295 : Int) < ((m10 + d : Nat) : Int) := by omega
            have h9 : m10 + d < 4294967296 := by omega
            generalize m10 + d = n' at *
            go_wp2
            go_roundw
            case rel => exact ⟨pos + 1, n', rfl, by omega, rfl, h9, fun h => absurd h (by omega), Lib.hid (by rw [hrest, ← eX]; exact HG.out)⟩
            case measure => rw [hP, hP]; omega
    · have e1 := NE pos hlt
      have HB := Lib.hid (hB pos)
      have hd : l.drop pos = [] := List.drop_eq_nil_of_le (by omega)
      have hg := HN.out
      rw [hd] at hg
      simp only [numGo] at hg
      have hwm := IntWalk.u32_in (m : Int) (by omega)
      clear NX NE RL RH RM hB hP hd HN
      by_cases hn : l = []
      · subst hn
        have h0 : m = 0 := hz (by simp at hp; omega)
        have HE := Lib.hid (fin _ (eZ rfl))
        clear hg fin eN eZ
        subst h0
        rw [List.isEmpty_nil] at hq
        go_wp2
        go_ret2
        exact HE.out _ _ rfl HB.out
      · have hl2 : l.isEmpty = false := by simpa using hn
        rw [hl2] at hq
        have HE := Lib.hid (fin _ ((eN hn).trans hg.symm))
        clear hg fin eN eZ
        go_wp2
        go_ret2
        exact HE.out _ _ rfl HB.out



def pairV (o : Option (Nat × Nat)) : Value := match o with | some (k, v) => .tuple #[.int .u32 k, .int .u32 v, .bool true] | none => .tuple #[.int .u32 0, .int .u32 0, .bool false]
theorem partL_len (l : List UInt8) : (partL l).1.length ≤ l.length ∧ (partL l).2.length ≤ l.length := by
  induction l with
  | nil => simp [partL]
  | cons c r ih =>
    unfold partL
    split
    · simp
    · simp; omega

set_option maxRecDepth 100000 in
set_option maxHeartbeats 4000000 in
theorem pair_any (l : List UInt8) (hl : l.length ≤ 100000) (w : World) : Calls Tryd.prog 55 #[strV l] w fun e w' => e = .returned (pairV (pairL l)) ∧ Below w.heap.size w w' := by
  have P := fun w => part_any l hl w
  obtain ⟨l1, l2⟩ := partL_len l
  have A := fun w => number_any (partL l).1 (by omega) w
  have B := fun w => number_any (partL l).2 (by omega) w
  have fin : ∀ o, pairL l = o → ∀ e w', e = Ending.returned (pairV o) → Below w.heap.size w w' → (e = .returned (pairV (pairL l)) ∧ Below w.heap.size w w') := by
    intro o h e w' h1 h2
    rw [h]
    exact ⟨h1, h2⟩
  have hX : pairL l = (match numL (partL l).1, numL (partL l).2 with | some k, some v => some (k, v) | _, _ => none) := rfl
  generalize pairL l = X at *
  generalize (partL l).1 = x at *
  generalize (partL l).2 = y at *
  generalize numL x = a at *
  generalize numL y = b at *
  go_enter Tryd.func55, Tryd.ntmps55
  go_wp2_with fail
  refine (P _).mono ?_
  rintro e w1 ⟨rfl, h1⟩
  go_wp2_with fail
  refine (A _).mono ?_
  rintro e w2 ⟨rfl, h2⟩
  have h12 := below_thn h1 h2
  clear h1 h2 P A
  cases a with
  | none =>
    simp only [numV]
    go_wp2_with fail
    refine (B _).mono ?_
    rintro e w3 ⟨rfl, h3⟩
    have h13 := below_thn h12 h3
    clear h12 h3 B
    have HE := Lib.hid (fin none hX)
    clear fin hX
    cases b with
    | none =>
      simp only [numV]
      go_wp2
      go_ret3
      exact HE.out _ _ rfl h13
    | some v =>
      simp only [numV]
      go_wp2
      go_ret3
      exact HE.out _ _ rfl h13
  | some k =>
    simp only [numV]
    go_wp2_with fail
    refine (B _).mono ?_
    rintro e w3 ⟨rfl, h3⟩
    have h13 := below_thn h12 h3
    clear h12 h3 B
    cases b with
    | none =>
      have HE := Lib.hid (fin none hX)
      clear fin hX
      simp only [numV]
      go_wp2
      go_ret3
      exact HE.out _ _ rfl h13
    | some v =>
      have HE := Lib.hid (fin (some (k, v)) hX)
      clear fin hX
      simp only [numV]
      go_wp2
      go_ret3
      exact HE.out _ _ rfl h13

/-- What Parse and Read answer. -/
def optV (o : Option Tri) : Value := match o with | some c => .tuple #[c.v, .int .i64 0] | none => .tuple #[Tri.v ⟨0, 0, 0⟩, .int .i64 8]
theorem beqL_t {a b : List UInt8} (h : a = b) : (a == b) = true := by simpa using h
theorem beqL_f {a b : List UInt8} (h : ¬ a = b) : (a == b) = false := by simpa using h
/-- The first block of a call's own: zeros of a triple. -/
theorem zero_blk (w : World) (t : TypeId) : Blk (w.alloc (.cells #[.int .i64 0, .int .u32 0, .int .u32 0] t)) w.heap.size t #[.int .i64 0, .int .u32 0, .int .u32 0] := Blk.new _ _ _
theorem blk_cells {W : World} {g : Nat} {t : TypeId} {a b c : Value} (h : Blk W g t #[a, b, c]) : W.cell? ⟨g, 0, none⟩ = some a ∧ W.cell? ⟨g, 1, none⟩ = some b ∧ W.cell? ⟨g, 2, none⟩ = some c ∧ W.frozen? ⟨g, 0, none⟩ = false ∧ W.frozen? ⟨g, 1, none⟩ = false ∧ W.frozen? ⟨g, 2, none⟩ = false :=
  ⟨by rw [h.cell]; rfl, by rw [h.cell]; rfl, by rw [h.cell]; rfl, h.frozen 0, h.frozen 1, h.frozen 2⟩
theorem below_set {b : Nat} {w W : World} (h : Below b w W) {p : Addr} (hp : b ≤ p.block) (u : Value) : Below b w (W.setCell p u) :=
  ⟨h.os, h.tape, h.output, by simpa [World.setCell] using h.size, fun k hk => (Below.heap_setCell _ _ _ _ (by omega)).trans (h.block k hk)⟩
/-- A triple stored into a block of one's own. -/
abbrev put3 (W : World) (g : Nat) (c : Tri) : World := ((W.setCell ⟨g, 0, none⟩ (.int .i64 c.op)).setCell ⟨g, 1, none⟩ (.int .u32 c.key)).setCell ⟨g, 2, none⟩ (.int .u32 c.val)
theorem put3_blk {W : World} {g : Nat} {t : TypeId} {a b d : Value} (h : Blk W g t #[a, b, d]) (c : Tri) : Blk (put3 W g c) g t c.cs := by
  have := ((h.set 0 (.int .i64 c.op)).set 1 (.int .u32 c.key)).set 2 (.int .u32 c.val)
  simpa using this
theorem put3_below {b g : Nat} {w W : World} (h : Below b w W) (hg : b ≤ g) (c : Tri) : Below b w (put3 W g c) :=
  below_set (below_set (below_set h (p := ⟨g, 0, none⟩) hg _) (p := ⟨g, 1, none⟩) hg _) (p := ⟨g, 2, none⟩) hg _



set_option maxRecDepth 100000 in
set_option maxHeartbeats 4000000 in
theorem read_any (l : List UInt8) (hl : l.length ≤ 100000) (w : World) : Calls Tryd.prog 47 #[strV l] w fun e w' => e = .returned (optV (readL l)) ∧ Below w.heap.size w w' := by
  have B := fun w => pair_any l hl w
  have q1 := fun w => eq_str l doneT w
  have q2 := fun w => eq_str l fullT w
  have q3 := fun w => eq_str l emptyT w
  have hX : readL l = if l = doneT then some ⟨0, 0, 0⟩ else if l = fullT then some ⟨1, 0, 0⟩ else if l = emptyT then some ⟨3, 0, 0⟩ else match pairL l with | some (k, v) => some ⟨2, k, v⟩ | none => none := rfl
  have fin : ∀ o, readL l = o → ∀ e w', e = Ending.returned (optV o) → Below w.heap.size w w' → (e = .returned (optV (readL l)) ∧ Below w.heap.size w w') := by
    intro o h e w' h1 h2
    rw [h]
    exact ⟨h1, h2⟩
  generalize readL l = X at *
  generalize pairL l = b at *
  unfold doneT at q1 hX
  unfold fullT at q2 hX
  unfold emptyT at q3 hX
  have b0 := (Below.refl w.heap.size w).alloc (Nat.le_refl _) (.cells #[.int .i64 0, .int .u32 0, .int .u32 0] 80)
  have k0 := zero_blk w 80
  by_cases h1 : l = [100, 111, 110, 101]
  · rw [if_pos h1] at hX
    have HE := Lib.hid (fin _ hX)
    have e1 := beqL_t h1
    have HB := Lib.hid ((Below.refl w.heap.size w).alloc (Nat.le_refl _) (.cells #[.int .i64 0, .int .u32 0, .int .u32 0] 80))
    clear hX fin B h1 b0 k0
    go_enter Tryd.func47, Tryd.ntmps47
    go_wp2
    exact bodyPost_ret (v := optV (some ⟨0, 0, 0⟩)) (by simp [results, Tryd.results47, go_sem, optV]) rfl (HE.out _ _ rfl HB.out)
  rw [if_neg h1] at hX
  have e1 := beqL_f h1
  clear h1
  by_cases h2 : l = [102, 117, 108, 108]
  · rw [if_pos h2] at hX
    have HE := Lib.hid (fin _ hX)
    have e2 := beqL_t h2
    have HB := Lib.hid ((Below.refl w.heap.size w).alloc (Nat.le_refl _) (.cells #[.int .i64 1, .int .u32 0, .int .u32 0] 80))
    clear hX fin B h2 b0 k0
    go_enter Tryd.func47, Tryd.ntmps47
    go_wp2
    exact bodyPost_ret (v := optV (some ⟨1, 0, 0⟩)) (by simp [results, Tryd.results47, go_sem, optV]) rfl (HE.out _ _ rfl HB.out)
  rw [if_neg h2] at hX
  have e2 := beqL_f h2
  clear h2
  by_cases h3 : l = [101, 109, 112, 116, 121]
  · rw [if_pos h3] at hX
    have HE := Lib.hid (fin _ hX)
    have e3 := beqL_t h3
    have HB := Lib.hid ((Below.refl w.heap.size w).alloc (Nat.le_refl _) (.cells #[.int .i64 3, .int .u32 0, .int .u32 0] 80))
    clear hX fin B h3 b0 k0
    go_enter Tryd.func47, Tryd.ntmps47
    go_wp2
    exact bodyPost_ret (v := optV (some ⟨3, 0, 0⟩)) (by simp [results, Tryd.results47, go_sem, optV]) rfl (HE.out _ _ rfl HB.out)
  rw [if_neg h3] at hX
  have e3 := beqL_f h3
  clear h3
  go_enter Tryd.func47, Tryd.ntmps47
  go_wp2_with fail
  refine (B _).mono ?_
  rintro e w2 ⟨rfl, g2⟩
  have b2 := below_thn b0 g2
  have k2 := k0.below g2 k0.lt
  obtain ⟨c0, c1, c2, f0, f1, f2⟩ := blk_cells k2
  have HB := Lib.hid b2
  have HK := Lib.hid k2
  clear b0 k0 g2 B b2 k2
  have HE := Lib.hid (fin _ hX)
  clear fin hX
  cases b with
  | none =>
    obtain ⟨n0, n1, n2, _⟩ := blk_cells (put3_blk HK.out ⟨0, 0, 0⟩)
    have H0 := Lib.hid n0
    have H1 := Lib.hid n1
    have H2 := Lib.hid n2
    clear n0 n1 n2
    simp only [pairV]
    go_wp2
    exact bodyPost_ret (v := optV none) (by simp [results, Tryd.results47, go_sem, optV, H0.out, H1.out, H2.out]) rfl (HE.out _ _ rfl (put3_below HB.out (Nat.le_refl _) ⟨0, 0, 0⟩))
  | some kv =>
    obtain ⟨k, v⟩ := kv
    obtain ⟨n0, n1, n2, _⟩ := blk_cells (put3_blk HK.out ⟨2, k, v⟩)
    have H0 := Lib.hid n0
    have H1 := Lib.hid n1
    have H2 := Lib.hid n2
    clear n0 n1 n2
    simp only [pairV]
    go_wp2
    exact bodyPost_ret (v := optV (some ⟨2, k, v⟩)) (by simp [results, Tryd.results47, go_sem, optV, H0.out, H1.out, H2.out]) rfl (HE.out _ _ rfl (put3_below HB.out (Nat.le_refl _) ⟨2, k, v⟩))

end Go.Proofs.YtdhdomeckloedaaDoor
