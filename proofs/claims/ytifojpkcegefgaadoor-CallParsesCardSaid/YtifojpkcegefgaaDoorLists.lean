/- Texts as lists of bytes: what is ahead of a blank, and behind it; what number a text is of. No program in it. -/
import Derived.Test.YtifojpkcegefgaaDoorDigits
import Derived.Laws.RangeAny
import Derived.Lib.DecodeN
namespace Go.Proofs.YtifojpkcegefgaaDoor
set_option linter.unusedVariables false

/-! ### signs -/
theorem mk_size (l : List UInt8) : (ByteArray.mk l.toArray).size = l.length := by simp [ByteArray.size]
theorem mk_get (l : List UInt8) (i : Nat) : (ByteArray.mk l.toArray).get! i = l.getD i 0 := by
  show l.toArray[i]! = l.getD i 0
  by_cases h : i < l.length
  · rw [getElem!_pos _ i (by simpa using h)]
    simp [List.getD_eq_getElem?_getD, List.getElem?_eq_getElem h]
  · rw [getElem!_neg _ i (by simpa using h)]
    simp only [List.getD_eq_getElem?_getD, List.getElem?_eq_none (Nat.le_of_not_lt h)]
    rfl
theorem mk_at (l : List UInt8) (i : Nat) (h : i < l.length) (h' : i < (ByteArray.mk l.toArray).size) : (ByteArray.mk l.toArray)[i]'h' = l[i] := by
  show l.toArray[i]'_ = l[i]
  simp
abbrev rune (l : List UInt8) (i : Nat) : Nat := (Utf8.decode ⟨l.toArray⟩ i).1
abbrev wide (l : List UInt8) (i : Nat) : Nat := (Utf8.decode ⟨l.toArray⟩ i).2
/-- An ASCII sign is its byte. -/
theorem rune_low (l : List UInt8) (i : Nat) (h : i < l.length) (hb : l[i].toNat < 128) : rune l i = l[i].toNat ∧ wide l i = 1 := by
  have hs : i < (ByteArray.mk l.toArray).size := by rw [mk_size]; exact h
  have e := mk_at l i h hs
  have := decode_ascii ⟨l.toArray⟩ i hs (by rw [e]; exact hb)
  rw [rune, wide, this, e]
  exact ⟨rfl, rfl⟩
theorem rune_high (l : List UInt8) (i : Nat) (h : i < l.length) (hb : 128 ≤ l[i].toNat) : 128 ≤ rune l i ∧ 1 ≤ wide l i := by
  have hs : i < (ByteArray.mk l.toArray).size := by rw [mk_size]; exact h
  exact decode_high ⟨l.toArray⟩ i hs (by rw [mk_at l i h hs]; exact hb)
theorem rune_le (l : List UInt8) (i : Nat) : rune l i ≤ 2147483647 := decode_le _ _
/-- The bytes that a sign passes over are no ASCII ones. -/
theorem wide_skip (l : List UInt8) (i : Nat) (h : i < l.length) : i + wide l i ≤ l.length ∧ 1 ≤ wide l i ∧ ∀ j, i < j → j < i + wide l i → 128 ≤ (l.getD j 0).toNat := by
  have e := Lib.decode_at ⟨l.toArray⟩ i
  simp only [mk_size, mk_get] at e
  have key : ∀ n b0 b1 b2 b3 : Nat, 1 ≤ n → (Lib.decodeN n b0 b1 b2 b3).2 ≤ n ∧ 1 ≤ (Lib.decodeN n b0 b1 b2 b3).2 ∧ (1 < (Lib.decodeN n b0 b1 b2 b3).2 → 128 ≤ b1) ∧ (2 < (Lib.decodeN n b0 b1 b2 b3).2 → 128 ≤ b2) ∧ (3 < (Lib.decodeN n b0 b1 b2 b3).2 → 128 ≤ b3) ∧ (Lib.decodeN n b0 b1 b2 b3).2 ≤ 4 := by
    intro n b0 b1 b2 b3 hn
    unfold Lib.decodeN
    repeat' split
    all_goals (simp only; omega)
  have k := key (l.length - i) (l.getD i 0).toNat (l.getD (i + 1) 0).toNat (l.getD (i + 2) 0).toNat (l.getD (i + 3) 0).toNat (by omega)
  rw [← e] at k
  have k1 : wide l i ≤ l.length - i := k.1
  have k2 : 1 ≤ wide l i := k.2.1
  have k3 : 1 < wide l i → _ := k.2.2.1
  have k4 : 2 < wide l i → _ := k.2.2.2.1
  have k5 : 3 < wide l i → _ := k.2.2.2.2.1
  have k6 : wide l i ≤ 4 := k.2.2.2.2.2
  clear k key e
  refine ⟨by omega, k2, fun j h1 h2 => ?_⟩
  rcases (show j = i + 1 ∨ j = i + 2 ∨ j = i + 3 by omega) with rfl | rfl | rfl
  · exact k3 (by omega)
  · exact k4 (by omega)
  · exact k5 (by omega)

/-! ### part -/
/-- What is ahead of the first blank, and what is behind it. -/
def partL : List UInt8 → List UInt8 × List UInt8
  | [] => ([], [])
  | c :: r => if c = 32 then ([], r) else (c :: (partL r).1, (partL r).2)
def NoBlank (l : List UInt8) : Prop := ∀ c ∈ l, c ≠ 32
theorem partL_none {l : List UInt8} (h : NoBlank l) : partL l = (l, []) := by
  induction l with
  | nil => rfl
  | cons c r ih =>
    have hc := h c (by simp)
    have := ih fun x hx => h x (by simp [hx])
    simp [partL, hc, this]
theorem partL_some {a b : List UInt8} (h : NoBlank a) : partL (a ++ 32 :: b) = (a, b) := by
  induction a with
  | nil => simp [partL]
  | cons c r ih =>
    have hc := h c (by simp)
    have := ih fun x hx => h x (by simp [hx])
    simp [partL, hc, this]
theorem partL_at {l : List UInt8} {i : Nat} (h : i < l.length) (h1 : ∀ j, j < i → l.getD j 0 ≠ 32) (h2 : l.getD i 0 = 32) : partL l = (l.take i, l.drop (i + 1)) := by
  have e : l = l.take i ++ 32 :: l.drop (i + 1) := by
    have : l[i] = 32 := by simpa [List.getD_eq_getElem?_getD, List.getElem?_eq_getElem h] using h2
    rw [← this]
    simp
  have hn : NoBlank (l.take i) := by
    intro c hc
    obtain ⟨j, hj, rfl⟩ := List.getElem_of_mem hc
    rw [List.length_take] at hj
    have hl : j < l.length := by omega
    have := h1 j (by omega)
    simpa [List.getD_eq_getElem?_getD, List.getElem?_eq_getElem hl] using this
  rw [e, partL_some hn, ← e]
theorem partL_end {l : List UInt8} (h1 : ∀ j, j < l.length → l.getD j 0 ≠ 32) : partL l = (l, []) := by
  refine partL_none fun c hc => ?_
  obtain ⟨j, hj, rfl⟩ := List.getElem_of_mem hc
  have := h1 j hj
  simpa [List.getD_eq_getElem?_getD, List.getElem?_eq_getElem hj] using this

/-! ### number -/
def numGo : Nat → Nat → List UInt8 → Option Nat
  | _, n, [] => some n
  | i, n, c :: r => if c.toNat < 48 ∨ 57 < c.toNat then none else if 0 < i ∧ n = 0 then none else if 4294967295 < n * 10 + (c.toNat - 48) then none else numGo (i + 1) (n * 10 + (c.toNat - 48)) r
/-- What number a text is of. -/
def numL (l : List UInt8) : Option Nat := if l = [] then none else numGo 0 0 l
theorem numGo_sound (r : List UInt8) : ∀ (p : List UInt8) (n m : Nat), (p = [] ∧ n = 0 ∧ r ≠ []) ∨ (p = Lib.decDigits n ∧ n < 4294967296) → numGo p.length n r = some m → p ++ r = Lib.decDigits m ∧ m < 4294967296 := by
  induction r with
  | nil =>
    intro p n m h e
    simp [numGo] at e
    rcases h with ⟨_, _, h⟩ | ⟨h, h'⟩
    · exact absurd rfl h
    · subst e
      exact ⟨by simp [h], h'⟩
  | cons c r ih =>
    intro p n m h e
    unfold numGo at e
    split at e
    · cases e
    next h1 =>
    split at e
    · cases e
    next h2 =>
    split at e
    · cases e
    next h3 =>
    have hd : c = UInt8.ofNat (48 + (c.toNat - 48)) := by
      apply UInt8.toNat_inj.1
      rw [UInt8.toNat_ofNat']
      omega
    have hp : p ++ [c] = Lib.decDigits (n * 10 + (c.toNat - 48)) := by
      rcases h with ⟨h, h', _⟩ | ⟨h, _⟩
      · subst h h'
        rw [Lib.decDigits_one (by omega)]
        simp only [List.nil_append, Nat.zero_mul, Nat.zero_add]
        rw [← hd]
      · have hpos : 0 < p.length := by rw [h, Lib.decDigits_length]; exact Lib.nDigits_pos n
        have hn : ¬ n = 0 := fun e => h2 ⟨hpos, e⟩
        rw [Lib.decDigits, dif_neg (by omega), show (n * 10 + (c.toNat - 48)) / 10 = n by omega, show (n * 10 + (c.toNat - 48)) % 10 = c.toNat - 48 by omega, ← h, ← hd]
    have := ih (p ++ [c]) (n * 10 + (c.toNat - 48)) m (.inr ⟨hp, by omega⟩) (by simpa using e)
    simpa using this
theorem numGo_dec (n : Nat) : n < 4294967296 → ∀ r, numGo 0 0 (Lib.decDigits n ++ r) = numGo (Lib.nDigits n) n r := by
  induction n using Nat.strongRecOn with
  | _ n ih =>
    intro hn r
    by_cases h : n < 10
    · rw [Lib.decDigits_one h, Lib.nDigits_small h]
      have e : (UInt8.ofNat (48 + n)).toNat = 48 + n := by rw [UInt8.toNat_ofNat']; omega
      simp only [List.cons_append, List.nil_append, numGo, e]
      rw [if_neg (by omega), if_neg (by omega), if_neg (by omega)]
      simp
    · rw [Lib.decDigits, dif_neg h, List.append_assoc, ih (n / 10) (by omega) (by omega), Lib.nDigits_big h]
      have e : (UInt8.ofNat (48 + n % 10)).toNat = 48 + n % 10 := by rw [UInt8.toNat_ofNat']; omega
      simp only [List.cons_append, List.nil_append, numGo, e]
      rw [if_neg (by omega), if_neg (by omega), if_neg (by omega), show n / 10 * 10 + (48 + n % 10 - 48) = n by omega]
theorem decDigits_ne (n : Nat) : Lib.decDigits n ≠ [] := by
  intro h
  have := Lib.decDigits_length n
  rw [h] at this
  have := Lib.nDigits_pos n
  simp_all
  omega
theorem numL_dec {n : Nat} (h : n < 4294967296) : numL (Lib.decDigits n) = some n := by
  unfold numL
  rw [if_neg (decDigits_ne n)]
  have := numGo_dec n h []
  simpa [numGo] using this
theorem numL_sound {l : List UInt8} {m : Nat} (h : numL l = some m) : l = Lib.decDigits m ∧ m < 4294967296 := by
  unfold numL at h
  split at h
  · cases h
  next h1 => simpa using numGo_sound l [] 0 m (.inl ⟨rfl, rfl, h1⟩) (by simpa using h)
/-- Digits are digits. -/
theorem dec_digit (n : Nat) : ∀ c ∈ Lib.decDigits n, 48 ≤ c.toNat ∧ c.toNat ≤ 57 := by
  intro c hc
  rw [Lib.decDigits_eq] at hc
  simp at hc
  obtain ⟨t, _, rfl⟩ := hc
  unfold Lib.dg
  rw [UInt8.toNat_ofNat']
  omega
theorem dec_noBlank (n : Nat) : NoBlank (Lib.decDigits n) := by
  intro c hc e
  have := dec_digit n c hc
  subst e
  simp at this
theorem decDigits_inj {a b : Nat} (ha : a < 4294967296) (hb : b < 4294967296) (h : Lib.decDigits a = Lib.decDigits b) : a = b := by
  have := numL_dec ha
  rw [h, numL_dec hb] at this
  simpa using this.symm

/-! ### two numbers; calls; answers -/
def pairL (l : List UInt8) : Option (Nat × Nat) :=
  match numL (partL l).1, numL (partL l).2 with
  | some k, some v => some (k, v)
  | _, _ => none
theorem pairL_text {k v : Nat} (hk : k < 4294967296) (hv : v < 4294967296) : pairL (pairT k v) = some (k, v) := by
  unfold pairL pairT
  rw [partL_some (dec_noBlank k)]
  simp [numL_dec hk, numL_dec hv]
theorem noBlank_or (l : List UInt8) : (NoBlank l ∧ partL l = (l, [])) ∨ l = (partL l).1 ++ 32 :: (partL l).2 := by
  induction l with
  | nil => exact .inl ⟨(by intro c h; simp at h), rfl⟩
  | cons c r ih =>
    by_cases hc : c = 32
    · subst hc
      right
      simp [partL]
    · rcases ih with ⟨h, _⟩ | h
      · have : NoBlank (c :: r) := by
          intro x hx
          rcases List.mem_cons.1 hx with rfl | hx
          · exact hc
          · exact h x hx
        exact .inl ⟨this, partL_none this⟩
      · right
        simp only [partL, hc, if_false, List.cons_append]
        rw [← h]
theorem pairL_sound {l : List UInt8} {k v : Nat} (h : pairL l = some (k, v)) : l = pairT k v ∧ k < 4294967296 ∧ v < 4294967296 := by
  unfold pairL at h
  split at h
  · next k' v' h1 h2 =>
    simp at h
    obtain ⟨rfl, rfl⟩ := h
    obtain ⟨e1, hk⟩ := numL_sound h1
    obtain ⟨e2, hv⟩ := numL_sound h2
    refine ⟨?_, hk, hv⟩
    rcases noBlank_or l with ⟨_, h⟩ | h
    · rw [h] at e2
      exact absurd e2.symm (decDigits_ne _)
    · rw [h, e1, e2]
      rfl
  · cases h
def parseL (l : List UInt8) : Option Tri :=
  if l = delT then some ⟨1, 0, 0⟩ else if l = peekT then some ⟨2, 0, 0⟩ else
  match pairL (partL l).2 with
  | some (k, v) => if (partL l).1 = insT then some ⟨0, k, v⟩ else none
  | none => none
def readL (l : List UInt8) : Option Tri :=
  if l = doneT then some ⟨0, 0, 0⟩ else if l = fullT then some ⟨1, 0, 0⟩ else if l = emptyT then some ⟨3, 0, 0⟩ else
  match pairL l with
  | some (k, v) => some ⟨2, k, v⟩
  | none => none
theorem insT_noBlank : NoBlank insT := by unfold NoBlank insT; decide
theorem ins_text (k v : Nat) : insT' ++ pairT k v = insT ++ 32 :: pairT k v := by simp [insT', insT]
theorem parseL_ins {k v : Nat} (hk : k < 4294967296) (hv : v < 4294967296) : parseL (insT' ++ pairT k v) = some ⟨0, k, v⟩ := by
  unfold parseL
  rw [ins_text, if_neg (by simp [insT, delT]), if_neg (by simp [insT, peekT]), partL_some insT_noBlank]
  simp [pairL_text hk hv]
theorem readL_pair {k v : Nat} (hk : k < 4294967296) (hv : v < 4294967296) : readL (pairT k v) = some ⟨2, k, v⟩ := by
  have key : ∀ (c : UInt8) (r : List UInt8), 57 < c.toNat → pairT k v ≠ c :: r := by
    intro c r h e
    unfold pairT at e
    cases hd : Lib.decDigits k with
    | nil => exact absurd hd (decDigits_ne k)
    | cons x xs =>
      have := dec_digit k x (by rw [hd]; simp)
      rw [hd] at e
      simp at e
      obtain ⟨rfl, _⟩ := e
      omega
  have n1 : ¬ pairT k v = doneT := key 100 [111, 110, 101] (by decide)
  have n2 : ¬ pairT k v = fullT := key 102 [117, 108, 108] (by decide)
  have n3 : ¬ pairT k v = emptyT := key 101 [109, 112, 116, 121] (by decide)
  unfold readL
  rw [if_neg n1, if_neg n2, if_neg n3, pairL_text hk hv]
theorem parseL_sound {l : List UInt8} {c : Tri} (h : parseL l = some c) : Fit c ∧ rightB c = true ∧ showT c = l := by
  unfold parseL at h
  split at h
  · next e => simp at h; subst h e; exact ⟨⟨by decide, by decide, by decide, by decide⟩, rfl, rfl⟩
  split at h
  · next e => simp at h; subst h e; exact ⟨⟨by decide, by decide, by decide, by decide⟩, rfl, rfl⟩
  split at h
  · next k v hp =>
    split at h
    · next hi =>
      simp at h
      subst h
      obtain ⟨e, hk, hv⟩ := pairL_sound hp
      refine ⟨⟨by simp, by simp; omega, by simp, by simp; omega⟩, rfl, ?_⟩
      rcases noBlank_or l with ⟨_, h⟩ | h
      · rw [h] at hp
        simp [pairL, partL, numL] at hp
      · rw [h, hi, e]
        simp [showT, rightB, ins_text]
    · cases h
  · cases h
theorem parseL_show {c : Tri} (f : Fit c) (h : rightB c = true) : parseL (showT c) = some c := by
  obtain ⟨o, k, v⟩ := c
  obtain ⟨h1, h2, h3, h4⟩ := f
  simp only at h1 h2 h3 h4
  obtain ⟨k, rfl⟩ := Int.eq_ofNat_of_zero_le h1
  obtain ⟨v, rfl⟩ := Int.eq_ofNat_of_zero_le h3
  unfold showT
  rw [if_pos h]
  simp [rightB, bare] at h
  rcases h with rfl | ⟨rfl | rfl, rfl, rfl⟩
  · simpa using parseL_ins (k := k) (v := v) (by omega) (by omega)
  · rfl
  · rfl
theorem readL_sound {l : List UInt8} {c : Tri} (h : readL l = some c) : Fit c ∧ mayB c = true ∧ tellT c = l := by
  unfold readL at h
  split at h
  · next e => simp at h; subst h e; exact ⟨⟨by decide, by decide, by decide, by decide⟩, rfl, rfl⟩
  split at h
  · next e => simp at h; subst h e; exact ⟨⟨by decide, by decide, by decide, by decide⟩, rfl, rfl⟩
  split at h
  · next e => simp at h; subst h e; exact ⟨⟨by decide, by decide, by decide, by decide⟩, rfl, rfl⟩
  split at h
  · next k v hp =>
    simp at h
    subst h
    obtain ⟨e, hk, hv⟩ := pairL_sound hp
    exact ⟨⟨by simp, by simp; omega, by simp, by simp; omega⟩, rfl, by rw [e]; simp [tellT, mayB]⟩
  · cases h
theorem readL_tell {c : Tri} (f : Fit c) (h : mayB c = true) : readL (tellT c) = some c := by
  obtain ⟨o, k, v⟩ := c
  obtain ⟨h1, h2, h3, h4⟩ := f
  simp only at h1 h2 h3 h4
  obtain ⟨k, rfl⟩ := Int.eq_ofNat_of_zero_le h1
  obtain ⟨v, rfl⟩ := Int.eq_ofNat_of_zero_le h3
  unfold tellT
  rw [if_pos h]
  simp [mayB, bare] at h
  rcases h with rfl | ⟨(rfl | rfl) | rfl, rfl, rfl⟩
  · simpa using readL_pair (k := k) (v := v) (by omega) (by omega)
  · rfl
  · rfl
  · rfl
end Go.Proofs.YtifojpkcegefgaaDoor
