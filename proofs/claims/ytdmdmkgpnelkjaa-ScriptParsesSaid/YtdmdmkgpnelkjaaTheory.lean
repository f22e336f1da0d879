/- The script of bytes, by the document; a script's bytes; each of them is of the other. -/
import Derived.Test.YtdmdmkgpnelkjaaPicks
namespace Go.Proofs.Ytdmdmkgpnelkjaa
open Go.ChangeShapes Go.WideShapes Go.ChangeAt Go.RowKit
set_option linter.unusedVariables false

theorem byteAt_drop (bs : List Int) (k j : Nat) : byteAt (bs.drop k) j = byteAt bs (k + j) := by
  simp [byteAt, List.getD_eq_getElem?_getD]
theorem byteAt_take (bs : List Int) (k j : Nat) (h : j < k) : byteAt (bs.take k) j = byteAt bs j := by
  simp [byteAt, List.getD_eq_getElem?_getD, h]
theorem decT_nine (bs : List Int) (k : Nat) (h : 9 ≤ k) : decT (bs.take k) = decT bs := by
  unfold decT
  simp only [lo]
  rw [byteAt_take _ _ 0 (by omega), byteAt_take _ _ (1 + 0) (by omega), byteAt_take _ _ (1 + 1) (by omega), byteAt_take _ _ (1 + 2) (by omega), byteAt_take _ _ (1 + 3) (by omega),
    byteAt_take _ _ (5 + 0) (by omega), byteAt_take _ _ (5 + 1) (by omega), byteAt_take _ _ (5 + 2) (by omega), byteAt_take _ _ (5 + 3) (by omega)]

/-! ### Calls of threads -/
/-- The first n calls with their threads. -/
def prs (T : Nat) (bs : List Int) (n : Nat) : List (Nat × Tri) := (List.range n).map fun j => ((byteAt bs (10 * j)).toNat % T, decT (bs.drop (10 * j + 1)))
/-- Calls by threads. -/
def byTh (T : Nat) (l : List (Nat × Tri)) : List (List Tri) := (List.range T).map fun t => (l.filter fun p => p.1 == t).map (·.2)
theorem byTh_len (T : Nat) (l : List (Nat × Tri)) : (byTh T l).length = T := by simp [byTh]
theorem prs_len (T : Nat) (bs : List Int) (n : Nat) : (prs T bs n).length = n := by simp [prs]
theorem prs_snoc (T : Nat) (bs : List Int) (n : Nat) : prs T bs (n + 1) = prs T bs n ++ [((byteAt bs (10 * n)).toNat % T, decT (bs.drop (10 * n + 1)))] := by simp [prs, List.range_succ]
theorem byTh_get (T : Nat) (l : List (Nat × Tri)) (t : Nat) (h : t < T) : (byTh T l)[t]? = some ((l.filter fun p => p.1 == t).map (·.2)) := by simp [byTh, h]
theorem byTh_snoc (T : Nat) (l : List (Nat × Tri)) (t : Nat) (c : Tri) (h : t < T) : byTh T (l ++ [(t, c)]) = (byTh T l).set t ((byTh T l).getD t [] ++ [c]) := by
  apply List.ext_getElem?
  intro i
  rw [List.getElem?_set]
  by_cases hi : i < T
  · rw [byTh_get _ _ _ hi, byTh_get _ _ _ hi]
    by_cases e : t = i
    · subst e
      simp [byTh_len, h, List.getD_eq_getElem?_getD]
      have e := byTh_get T l t h
      rw [List.getElem?_eq_getElem (by rw [byTh_len]; exact h)] at e
      exact (Option.some.inj e).symm
    · rw [if_neg e]
      have : (t == i) = false := by simpa using e
      simp [this]
  · have e1 : (byTh T (l ++ [(t, c)]))[i]? = none := by simp [byTh]; omega
    rw [e1, if_neg (by omega), List.getElem?_eq_none (by rw [byTh_len]; omega)]
theorem byTh_tot (T : Nat) (l : List (Nat × Tri)) (h : ∀ p ∈ l, p.1 < T) : tot (byTh T l) = l.length := by
  have key : ∀ (ts : List Nat), ts.Nodup → ∀ l : List (Nat × Tri), (∀ p ∈ l, p.1 ∈ ts) → ((ts.map fun t => (l.filter fun p => p.1 == t).map (·.2)).map List.length).sum = l.length := by
    intro ts
    induction ts with
    | nil =>
      intro _ l hl
      cases l with
      | nil => rfl
      | cons p r => exact absurd (hl p (by simp)) (by simp)
    | cons t ts ih =>
      intro hd l hl
      have hd2 := List.nodup_cons.1 hd
      have e := ih hd2.2 (l.filter fun p => !(p.1 == t)) (by
        intro p hp
        have h1 := List.mem_filter.1 hp
        have h2 := hl p h1.1
        have h3 : ¬ p.1 = t := by simpa using h1.2
        simpa [h3] using h2)
      have e2 : ∀ t' ∈ ts, ((l.filter fun p => !(p.1 == t)).filter fun p => p.1 == t') = l.filter fun p => p.1 == t' := by
        intro t' ht'
        rw [List.filter_filter]
        apply List.filter_congr
        intro p _
        by_cases hp : p.1 = t'
        · have : ¬ t' = t := fun e => hd2.1 (e ▸ ht')
          simp [hp, this]
        · simp [hp]
      have e3 : (ts.map fun t' => ((l.filter fun p => !(p.1 == t)).filter fun p => p.1 == t').map (·.2)) = ts.map fun t' => (l.filter fun p => p.1 == t').map (·.2) :=
        List.map_congr_left fun t' ht' => by rw [e2 t' ht']
      rw [e3] at e
      simp only [List.map_cons, List.sum_cons, List.length_map]
      simp only [List.map_map] at e ⊢
      rw [e]
      clear e e2 e3 ih hl hd hd2
      induction l with
      | nil => rfl
      | cons p r ih =>
        by_cases hp : p.1 = t <;> simp [hp] <;> omega
  exact key (List.range T) List.nodup_range l fun p hp => by simpa using h p hp
theorem byTh_right (T : Nat) (l : List (Nat × Tri)) (h : ∀ p ∈ l, rightB p.2 = true) : allB (byTh T l) = true := by
  unfold allB byTh
  rw [List.all_eq_true]
  intro m hm
  obtain ⟨t, _, rfl⟩ := List.mem_map.1 hm
  rw [List.all_eq_true]
  intro c hc
  obtain ⟨p, hp, rfl⟩ := List.mem_map.1 hc
  exact h p (List.mem_filter.1 hp).1
theorem byTh_fit (T : Nat) (l : List (Nat × Tri)) (h : ∀ p ∈ l, Fit p.2) : ∀ m ∈ byTh T l, ∀ c ∈ m, Fit c := by
  intro m hm c hc
  obtain ⟨t, _, rfl⟩ := List.mem_map.1 hm
  obtain ⟨p, hp, rfl⟩ := List.mem_map.1 hc
  exact h p (List.mem_filter.1 hp).1
theorem decT_fit (bs : List Int) (h : ∀ j, 0 ≤ byteAt bs j ∧ byteAt bs j < 256) : Fit (decT bs) := by
  have h1 := h (1 + 0)
  have h2 := h (1 + 1)
  have h3 := h (1 + 2)
  have h4 := h (1 + 3)
  have h5 := h (5 + 0)
  have h6 := h (5 + 1)
  have h7 := h (5 + 2)
  have h8 := h (5 + 3)
  unfold decT
  split
  · refine ⟨?_, ?_, ?_, ?_⟩ <;> simp only [lo] <;> omega
  · exact ⟨by simp, by simp, by simp, by simp⟩

/-! ### What is read -/
def nOf (bs : List Int) : Nat := (byteAt bs 7).toNat
def mOf (bs : List Int) : Nat := (byteAt bs (8 + 10 * nOf bs) + 256 * byteAt bs (9 + 10 * nOf bs)).toNat
/-- The first m picks. -/
def pks (th : Int) (bs : List Int) (m : Nat) : List Int := (List.range m).map fun i => byteAt bs i % th
theorem pks_snoc (th : Int) (bs : List Int) (m : Nat) : pks th bs (m + 1) = pks th bs m ++ [byteAt bs m % th] := by simp [pks, List.range_succ]
theorem pks_len (th : Int) (bs : List Int) (m : Nat) : (pks th bs m).length = m := by simp [pks]
/-- The script of bytes that are one. -/
def theS (bs : List Int) : Sc := ⟨ofB bs, byTh (byteAt bs 1).toNat (prs (byteAt bs 1).toNat (bs.drop 8) (nOf bs)), pks (byteAt bs 1) (bs.drop (10 + 10 * nOf bs)) (mOf bs), bs.drop (10 + 10 * nOf bs + mOf bs)⟩
/-- The script of bytes, or the error. -/
noncomputable def parseL (bs : List Int) : Except Int Sc :=
  if bs.length < 7 then .error 9 else
  if okB (ofB bs) = false then .error 6 else
  if bs.length < 8 then .error 9 else
  if 48 < byteAt bs 7 then .error 10 else
  if bs.length < 10 + 10 * nOf bs then .error 9 else
  if 60000 < mOf bs then .error 10 else
  if bs.length < 10 + 10 * nOf bs + mOf bs then .error 9 else
  if 4096 < bs.length - (10 + 10 * nOf bs + mOf bs) then .error 10 else .ok (theS bs)
def scOf : Except Int Sc → Sc | .ok s => s | .error _ => zs
def erOf : Except Int Sc → Int | .ok _ => 0 | .error e => e
section
variable {bs : List Int}
theorem parse1 (h : bs.length < 7) : parseL bs = .error 9 := by unfold parseL; rw [if_pos h]
theorem parse2 (h1 : ¬ bs.length < 7) (h : ¬ (ofB bs).Ok) : parseL bs = .error 6 := by unfold parseL; rw [if_neg h1, if_pos (okB_f h)]
theorem parse3 (h1 : ¬ bs.length < 7) (h2 : (ofB bs).Ok) (h : bs.length < 8) : parseL bs = .error 9 := by unfold parseL; rw [if_neg h1, if_neg (by rw [okB_t h2]; decide), if_pos h]
theorem parse4 (h2 : (ofB bs).Ok) (h3 : ¬ bs.length < 8) (h : 48 < byteAt bs 7) : parseL bs = .error 10 := by
  unfold parseL; rw [if_neg (by omega), if_neg (by rw [okB_t h2]; decide), if_neg h3, if_pos h]
theorem parse5 (h2 : (ofB bs).Ok) (h3 : ¬ bs.length < 8) (h4 : ¬ 48 < byteAt bs 7) (h : bs.length < 10 + 10 * nOf bs) : parseL bs = .error 9 := by
  unfold parseL; rw [if_neg (by omega), if_neg (by rw [okB_t h2]; decide), if_neg h3, if_neg h4, if_pos h]
theorem parse6 (h2 : (ofB bs).Ok) (h4 : ¬ 48 < byteAt bs 7) (h5 : ¬ bs.length < 10 + 10 * nOf bs) (h : 60000 < mOf bs) : parseL bs = .error 10 := by
  unfold parseL; rw [if_neg (by omega), if_neg (by rw [okB_t h2]; decide), if_neg (by omega), if_neg h4, if_neg h5, if_pos h]
theorem parse7 (h2 : (ofB bs).Ok) (h4 : ¬ 48 < byteAt bs 7) (h5 : ¬ bs.length < 10 + 10 * nOf bs) (h6 : ¬ 60000 < mOf bs) (h : bs.length < 10 + 10 * nOf bs + mOf bs) : parseL bs = .error 9 := by
  unfold parseL; rw [if_neg (by omega), if_neg (by rw [okB_t h2]; decide), if_neg (by omega), if_neg h4, if_neg h5, if_neg h6, if_pos h]
theorem parse8 (h2 : (ofB bs).Ok) (h4 : ¬ 48 < byteAt bs 7) (h6 : ¬ 60000 < mOf bs) (h7 : ¬ bs.length < 10 + 10 * nOf bs + mOf bs) (h : 4096 < bs.length - (10 + 10 * nOf bs + mOf bs)) : parseL bs = .error 10 := by
  unfold parseL; rw [if_neg (by omega), if_neg (by rw [okB_t h2]; decide), if_neg (by omega), if_neg h4, if_neg (by omega), if_neg h6, if_neg h7, if_pos h]
theorem parse9 (h2 : (ofB bs).Ok) (h4 : ¬ 48 < byteAt bs 7) (h6 : ¬ 60000 < mOf bs) (h7 : ¬ bs.length < 10 + 10 * nOf bs + mOf bs) (h8 : ¬ 4096 < bs.length - (10 + 10 * nOf bs + mOf bs)) : parseL bs = .ok (theS bs) := by
  unfold parseL; rw [if_neg (by omega), if_neg (by rw [okB_t h2]; decide), if_neg (by omega), if_neg h4, if_neg (by omega), if_neg h6, if_neg h7, if_neg h8]
theorem parse_ok {s : Sc} (h : parseL bs = .ok s) : (ofB bs).Ok ∧ byteAt bs 7 ≤ 48 ∧ mOf bs ≤ 60000 ∧ 10 + 10 * nOf bs + mOf bs ≤ bs.length ∧ bs.length - (10 + 10 * nOf bs + mOf bs) ≤ 4096 ∧ s = theS bs := by
  by_cases h1 : bs.length < 7
  · rw [parse1 h1] at h; cases h
  by_cases h2 : (ofB bs).Ok
  case neg => rw [parse2 h1 h2] at h; cases h
  by_cases h3 : bs.length < 8
  · rw [parse3 h1 h2 h3] at h; cases h
  by_cases h4 : 48 < byteAt bs 7
  · rw [parse4 h2 h3 h4] at h; cases h
  by_cases h5 : bs.length < 10 + 10 * nOf bs
  · rw [parse5 h2 h3 h4 h5] at h; cases h
  by_cases h6 : 60000 < mOf bs
  · rw [parse6 h2 h4 h5 h6] at h; cases h
  by_cases h7 : bs.length < 10 + 10 * nOf bs + mOf bs
  · rw [parse7 h2 h4 h5 h6 h7] at h; cases h
  by_cases h8 : 4096 < bs.length - (10 + 10 * nOf bs + mOf bs)
  · rw [parse8 h2 h4 h6 h7 h8] at h; cases h
  rw [parse9 h2 h4 h6 h7 h8] at h
  exact ⟨h2, by omega, by omega, by omega, by omega, by cases h; rfl⟩
end

/-! ### What is written -/
/-- The calls with their threads, from thread k on. -/
def prsOf : Nat → List (List Tri) → List (Nat × Tri)
  | _, [] => []
  | k, l :: r => l.map (fun c => (k, c)) ++ prsOf (k + 1) r
def encP (l : List (Nat × Tri)) : List Int := l.flatMap fun p => (p.1 : Int) :: codeBs p.2
def bytesOf (s : Sc) : List Int := s.c.bytes ++ ((tot s.ls : Int) :: (encP (prsOf 0 s.ls) ++ ((s.ps.length : Int) % 256 :: (s.ps.length : Int) / 256 :: (s.ps ++ s.ds))))
theorem prsOf_len (k : Nat) (ls : List (List Tri)) : (prsOf k ls).length = tot ls := by
  induction ls generalizing k with
  | nil => rfl
  | cons l r ih => simp [prsOf, ih, tot]
theorem encP_len (l : List (Nat × Tri)) : (encP l).length = 10 * l.length := by
  induction l with
  | nil => rfl
  | cons p l ih => simp [encP, codeBs] at ih ⊢; omega
theorem bytesOf_len (s : Sc) : (bytesOf s).length = 10 + 10 * tot s.ls + s.ps.length + s.ds.length := by
  simp [bytesOf, encP_len, prsOf_len]
  omega
theorem prs_enc (T : Nat) (l : List (Nat × Tri)) (rest : List Int) (h : ∀ p ∈ l, p.1 < T ∧ Fit p.2 ∧ rightB p.2 = true) : prs T (encP l ++ rest) l.length = l := by
  induction l with
  | nil => rfl
  | cons p l ih =>
    obtain ⟨h1, h2, h3⟩ := h p (by simp)
    have ih := ih fun q hq => h q (by simp [hq])
    have e : encP (p :: l) ++ rest = (p.1 : Int) :: (codeBs p.2 ++ (encP l ++ rest)) := by simp [encP]
    have e2 : ∀ j, byteAt (encP (p :: l) ++ rest) (10 * (j + 1)) = byteAt (encP l ++ rest) (10 * j) := by
      intro j
      rw [e, show ((p.1 : Int) :: (codeBs p.2 ++ (encP l ++ rest))) = ((p.1 : Int) :: codeBs p.2) ++ (encP l ++ rest) by simp, byteAt_right _ _ _ (by simp [codeBs]; omega)]
      congr 1
    have e3 : ∀ j, (encP (p :: l) ++ rest).drop (10 * (j + 1) + 1) = (encP l ++ rest).drop (10 * j + 1) := by
      intro j
      rw [e, show ((p.1 : Int) :: (codeBs p.2 ++ (encP l ++ rest))) = ((p.1 : Int) :: codeBs p.2) ++ (encP l ++ rest) by simp, List.drop_append]
      rw [List.drop_eq_nil_of_le (by simp [codeBs]; omega)]
      simp [codeBs]
      rw [show 10 * (j + 1) - 9 = 10 * j + 1 by omega]
    unfold prs at ih ⊢
    rw [List.length_cons, List.range_succ_eq_map, List.map_cons, List.map_map]
    have hh : ((byteAt (encP (p :: l) ++ rest) (10 * 0)).toNat % T, decT ((encP (p :: l) ++ rest).drop (10 * 0 + 1))) = p := by
      rw [e]
      refine Prod.ext ?_ ?_
      · simp [byteAt, Nat.mod_eq_of_lt h1]
      · simp only [Nat.mul_zero, Nat.zero_add, List.drop_one, List.tail_cons]
        exact decT_code p.2 h2 h3 _
    rw [hh]
    refine congrArg (p :: ·) (Eq.trans (List.map_congr_left fun j _ => ?_) ih)
    simp only [Function.comp_apply, Nat.succ_eq_add_one]
    rw [e2, e3]
theorem prsOf_filter (ls : List (List Tri)) : ∀ (k t : Nat), ((prsOf k ls).filter fun p => p.1 == t).map (·.2) = if k ≤ t then (ls[t - k]?).getD [] else [] := by
  induction ls with
  | nil => intro k t; simp [prsOf]
  | cons l r ih =>
    intro k t
    simp only [prsOf, List.filter_append, List.map_append, ih]
    by_cases h : k = t
    · subst h
      have : (l.map (fun c => (k, c))).filter (fun p => p.1 == k) = l.map fun c => (k, c) := by
        rw [List.filter_eq_self]
        intro p hp
        obtain ⟨c, _, rfl⟩ := List.mem_map.1 hp
        simp
      rw [this]
      rw [if_neg (by omega)]
      simp [Function.comp_def]
    · have : (l.map (fun c => (k, c))).filter (fun p => p.1 == t) = [] := by
        rw [List.filter_eq_nil_iff]
        intro p hp
        obtain ⟨c, _, rfl⟩ := List.mem_map.1 hp
        simpa using h
      rw [this]
      by_cases h2 : k ≤ t
      · rw [if_pos h2, if_pos (by omega), show t - k = (t - (k + 1)) + 1 by omega]
        simp
      · rw [if_neg h2, if_neg (by omega)]
        rfl
theorem byTh_prsOf (ls : List (List Tri)) : byTh ls.length (prsOf 0 ls) = ls := by
  apply List.ext_getElem?
  intro i
  by_cases hi : i < ls.length
  · rw [byTh_get _ _ _ hi, prsOf_filter]
    simp [hi]
  · rw [List.getElem?_eq_none (by simp [byTh]; omega), List.getElem?_eq_none (by omega)]
theorem prsOf_mem (ls : List (List Tri)) : ∀ (k : Nat) (p : Nat × Tri), p ∈ prsOf k ls → k ≤ p.1 ∧ p.1 < k + ls.length ∧ ∃ l ∈ ls, p.2 ∈ l := by
  induction ls with
  | nil => intro k p h; simp [prsOf] at h
  | cons l r ih =>
    intro k p h
    simp only [prsOf, List.mem_append, List.mem_map] at h
    rcases h with ⟨c, hc, rfl⟩ | h
    · exact ⟨Nat.le_refl _, by simp, l, by simp, hc⟩
    · obtain ⟨h1, h2, m, hm, hc⟩ := ih _ _ h
      exact ⟨by omega, by simp; omega, m, by simp [hm], hc⟩

/-- What may be, part by part. -/
theorem rightS_parts {s : Sc} (h : rightS s = true) : s.c.Ok ∧ (s.ls.length : Int) = s.c.th ∧ tot s.ls ≤ 48 ∧ allB s.ls = true ∧ s.ps.length ≤ 60000 ∧ (∀ p ∈ s.ps, 0 ≤ p ∧ p < s.c.th) ∧ s.ds.length ≤ 4096 := by
  simp only [rightS, okB, rcB, rpB, Bool.and_eq_true, decide_eq_true_eq, List.all_eq_true] at h
  obtain ⟨h1, ⟨h2, h3, h4⟩, ⟨h5, h6⟩, h7⟩ := h
  exact ⟨h1, h2, h3, h4, h5, h6, h7⟩
theorem rightS_of {s : Sc} (h1 : s.c.Ok) (h2 : (s.ls.length : Int) = s.c.th) (h3 : tot s.ls ≤ 48) (h4 : allB s.ls = true) (h5 : s.ps.length ≤ 60000) (h6 : ∀ p ∈ s.ps, 0 ≤ p ∧ p < s.c.th) (h7 : s.ds.length ≤ 4096) : rightS s = true := by
  simp only [rightS, okB, rcB, rpB, Bool.and_eq_true, decide_eq_true_eq, List.all_eq_true]
  exact ⟨h1, ⟨h2, h3, h4⟩, ⟨h5, h6⟩, h7⟩

/-- What is written is parsed. -/
theorem parse_bytes (s : Sc) (h : rightS s = true) (hf : ∀ l ∈ s.ls, ∀ c ∈ l, Fit c) : parseL (bytesOf s) = .ok s := by
  obtain ⟨h1, h2, h3, h4, h5, h6, h7⟩ := rightS_parts h
  have hlen := bytesOf_len s
  obtain ⟨c, ls, ps, ds⟩ := s
  obtain ⟨al, th, nd, lv, ba, pr, sc⟩ := c
  dsimp only at *
  have e0 : bytesOf ⟨⟨al, th, nd, lv, ba, pr, sc⟩, ls, ps, ds⟩ = al :: th :: nd :: lv :: ba :: pr :: sc :: (tot ls : Int) :: (encP (prsOf 0 ls) ++ ((ps.length : Int) % 256 :: (ps.length : Int) / 256 :: (ps ++ ds))) := rfl
  rw [e0] at hlen ⊢
  generalize hr : (encP (prsOf 0 ls) ++ ((ps.length : Int) % 256 :: (ps.length : Int) / 256 :: (ps ++ ds))) = rest at *
  have eo : ofB (al :: th :: nd :: lv :: ba :: pr :: sc :: (tot ls : Int) :: rest) = ⟨al, th, nd, lv, ba, pr, sc⟩ := rfl
  have e1 : byteAt (al :: th :: nd :: lv :: ba :: pr :: sc :: (tot ls : Int) :: rest) 1 = th := rfl
  have e7 : byteAt (al :: th :: nd :: lv :: ba :: pr :: sc :: (tot ls : Int) :: rest) 7 = tot ls := rfl
  have e8 : (al :: th :: nd :: lv :: ba :: pr :: sc :: (tot ls : Int) :: rest).drop 8 = rest := rfl
  generalize hb : (al :: th :: nd :: lv :: ba :: pr :: sc :: (tot ls : Int) :: rest) = bs at *
  have en : nOf bs = tot ls := by unfold nOf; rw [e7]; simp
  have eP : (encP (prsOf 0 ls)).length = 10 * tot ls := by rw [encP_len, prsOf_len]
  have ek : ∀ j, byteAt bs (8 + 10 * tot ls + j) = byteAt ((ps.length : Int) % 256 :: (ps.length : Int) / 256 :: (ps ++ ds)) j := by
    intro j
    rw [Nat.add_assoc, ← byteAt_drop, e8, ← hr, byteAt_right _ _ _ (by omega)]
    congr 1
    omega
  have em : mOf bs = ps.length := by
    unfold mOf
    rw [en, show 9 + 10 * tot ls = 8 + 10 * tot ls + 1 by omega, ek 1, show 8 + 10 * tot ls = 8 + 10 * tot ls + 0 by omega, ek 0]
    simp only [byteAt, List.getD_cons_zero, List.getD_cons_succ]
    omega
  have ed : bs.drop (10 + 10 * tot ls) = ps ++ ds := by
    rw [show 10 + 10 * tot ls = 8 + (10 * tot ls + 2) by omega, ← List.drop_drop, e8, ← hr, List.drop_append, List.drop_eq_nil_of_le (by omega), eP, show 10 * tot ls + 2 - 10 * tot ls = 2 by omega]
    rfl
  rw [parse9 (by rw [eo]; exact h1) (by rw [e7]; omega) (by omega) (by rw [en, em]; omega) (by rw [en, em]; omega)]
  congr 1
  unfold theS
  rw [eo, en, em, e8, e1, ed]
  have hT : th.toNat = ls.length := by omega
  congr 1
  · rw [hT, ← hr]
    have := prs_enc ls.length (prsOf 0 ls) ((ps.length : Int) % 256 :: (ps.length : Int) / 256 :: (ps ++ ds)) (fun p hp => by
      obtain ⟨_, a, l, hl, hc⟩ := prsOf_mem ls 0 p hp
      refine ⟨by omega, hf l hl _ hc, ?_⟩
      unfold allB at h4
      rw [List.all_eq_true] at h4
      have := h4 l hl
      rw [List.all_eq_true] at this
      exact this _ hc)
    rw [prsOf_len] at this
    rw [this, byTh_prsOf]
  · unfold pks
    apply List.ext_getElem?
    intro i
    by_cases hi : i < ps.length
    · simp only [List.getElem?_map, List.getElem?_range hi, Option.map_some]
      rw [byteAt_left _ _ _ hi, List.getElem?_eq_getElem hi]
      have e : byteAt ps i = ps[i] := by simp [byteAt, List.getD_eq_getElem?_getD, hi]
      have := h6 ps[i] (List.getElem_mem hi)
      rw [e, Int.emod_eq_of_lt this.1 this.2]
    · rw [List.getElem?_eq_none (by simp; omega), List.getElem?_eq_none (by omega)]
  · rw [← List.drop_drop, ed]
    simp
/-- What is parsed may be, and is written as many bytes. -/
theorem parse_right (bs : List Int) (hb : ∀ j, 0 ≤ byteAt bs j ∧ byteAt bs j < 256) {s : Sc} (h : parseL bs = .ok s) : rightS s = true ∧ (bytesOf s).length = bs.length := by
  obtain ⟨h2, h4, h6, h7, h8, rfl⟩ := parse_ok h
  have b7 := hb 7
  have hn : nOf bs ≤ 48 := by unfold nOf; omega
  have ht0 := h2.t0
  have ht1 := h2.t1
  dsimp only at ht0 ht1
  have hT : 0 < (byteAt bs 1).toNat := by omega
  have htot : tot (theS bs).ls = nOf bs := by
    unfold theS
    dsimp only
    rw [byTh_tot, prs_len]
    intro p hp
    obtain ⟨j, _, rfl⟩ := List.mem_map.1 hp
    exact Nat.mod_lt _ hT
  have hps : (theS bs).ps.length = mOf bs := by simp [theS, pks]
  have hds : (theS bs).ds.length = bs.length - (10 + 10 * nOf bs + mOf bs) := by simp [theS]
  refine ⟨rightS_of h2 ?_ (by omega) ?_ (by omega) ?_ (by omega), ?_⟩
  · simp only [theS, byTh_len]
    omega
  · refine byTh_right _ _ fun p hp => ?_
    obtain ⟨j, _, rfl⟩ := List.mem_map.1 hp
    exact decT_right _
  · intro p hp
    obtain ⟨j, _, rfl⟩ := List.mem_map.1 hp
    exact ⟨Int.emod_nonneg _ (show byteAt bs 1 ≠ 0 by omega), Int.emod_lt_of_pos _ (show 0 < byteAt bs 1 by omega)⟩
  · rw [bytesOf_len, htot, hps, hds]
    omega
end Go.Proofs.Ytdmdmkgpnelkjaa
