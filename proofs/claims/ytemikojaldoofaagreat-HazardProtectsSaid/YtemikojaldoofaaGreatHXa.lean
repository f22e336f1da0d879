/- Piles of numbers in a thread's cell: Len, List, Push; Index and Contains. IndexFunc and DeleteFunc of a list of one's own, by what a list in a box has. Keep of a pile of numbers in a thread's cell. -/
import Derived.Test.YtemikojaldoofaaGreatHLst
import Derived.Test.YtemikojaldoofaaGreatSOnly
import Derived.Lib.SliceRun
namespace Go.Proofs.YtemikojaldoofaaGreat.S
open Go.Proofs.YtemikojaldoofaaGreat
open Go.RowKit Go.Shelf
set_option linter.unusedVariables false
set_option maxRecDepth 20000

theorem ints_len (xs : List Int) : (ints xs).length = xs.length := by simp [ints]
theorem row_reads {W : World} {v : Value} {xs : List Int} (h : R.Row W 3 v xs.length (ints xs)) : Reads W v xs := by
  by_cases h0 : xs.length = 0
  · obtain rfl : xs = [] := List.eq_nil_of_length_eq_zero h0
    obtain ⟨a, cap, rfl, _, _⟩ := h.form
    exact .inl ⟨_, _, rfl, rfl⟩
  · obtain ⟨g, off, cap, rfl, h1, h2, hc, _⟩ := h.at_ (by omega)
    refine .inr ⟨g, off, cap, rfl, by omega, h1, by unfold maxLen at h2; omega, fun i hi => ?_⟩
    rw [hc i hi]; simp [hi]
theorem Reads.agree {W W' : World} {v : Value} {xs : List Int} (h : Reads W v xs) (hk : ∀ k, 0 < xs.length → v.ownBlock = some k → W'.heap[k]? = W.heap[k]?) : Reads W' v xs := by
  rcases h with h | ⟨b, off, cap, rfl, h1, h2, h3, h4⟩
  · exact .inl h
  · exact .inr ⟨b, off, cap, rfl, h1, h2, h3, fun i hi => by
      rw [← h4 i hi]
      exact F.cell_agree (p := ⟨b, off + i, none⟩) (hk b h1 rfl)⟩
theorem Reads.form {W : World} {v : Value} {xs : List Int} (h : Reads W v xs) : ∃ a cap, v = .slice a xs.length cap ∧ cap ≤ 9223372036854775807 ∨ (v = .slice a 0 cap ∧ xs = []) := by
  rcases h with ⟨a, cap, rfl, e⟩ | ⟨b, off, cap, rfl, h1, h2, h3, h4⟩
  · exact ⟨a, cap, .inr ⟨rfl, e⟩⟩
  · exact ⟨_, cap, .inl ⟨rfl, h3⟩⟩
theorem len_any (T o n cap : Nat) (a : Option Addr) (w : World) (c : w.cell? ⟨T, o, none⟩ = some (.slice a n cap)) (hn : n ≤ 9223372036854775807) :
    Calls Tryz.prog 20 #[.pointer (some ⟨T, o, none⟩)] w fun e w' => e = .returned (.int .i64 n) ∧ w = w' := by
  go_enter Tryz.func20, Tryz.ntmps20
  go_wp2
  go_ret
  exact ⟨rfl, rfl⟩
theorem list_any (T o : Nat) (v : Value) (xs : List Int) (w : World) (c : w.cell? ⟨T, o, none⟩ = some v) (hr : Reads w v xs) (hlen : xs.length ≤ 1000000000) :
    Calls Tryz.prog 21 #[.pointer (some ⟨T, o, none⟩)] w (Listed xs w) := by
  have K := clone_any v xs w hr hlen
  clear hr
  go_enter Tryz.func21, Tryz.ntmps21
  go_wp2_with fail
  refine K.mono ?_
  rintro e w' ⟨v', rfl, h1, h2⟩
  go_wp2
  go_ret
  exact ⟨_, rfl, h1, h2⟩
/-- What Push leaves of the cell at T, o. -/
def Pushed (T o : Nat) (v : Value) (xs : List Int) (w : World) (e : Ending) (w' : World) : Prop :=
  e = .returned (.tuple #[]) ∧ ∃ v' w1, w' = w1.setCell ⟨T, o, none⟩ v' ∧ R.Row w1 3 v' xs.length (ints xs) ∧ Keeps (fun k => v.ownBlock = some k) w w1 ∧ ∀ k, v'.ownBlock = some k → v.ownBlock = some k ∨ w.heap.size ≤ k
set_option maxHeartbeats 1000000 in
theorem push_any (T o : Nat) (v : Value) (xs : List Int) (x : Int) (cs : Array Value) (w : World) (hT : Blk w T 48 cs) (c : w.cell? ⟨T, o, none⟩ = some v) (hr : R.Row w 3 v xs.length (ints xs)) (hl : xs.length + 1 ≤ 1000000000) :
    Calls Tryz.prog 72 #[.pointer (some ⟨T, o, none⟩), .int .i64 x] w (Pushed T o v (xs ++ [x]) w) := by
  obtain ⟨i0, hi, hz0, hz1, hz2⟩ := info_parts Try.info3
  have hvT : v.ownBlock ≠ some T := fun e => by
    obtain ⟨cur, hb⟩ := rrow_blk hr e
    exact Blk.ne hb hT (by decide) rfl
  obtain ⟨n, hn⟩ : ∃ n, xs.length = n := ⟨_, rfl⟩
  rw [hn] at hr hl
  have HN := Lib.hid hn
  clear hn
  obtain ⟨a, cap, rfl, hc, hm⟩ := hr.form
  unfold maxLen at hm
  have lT := hT.lt
  go_enter Tryz.func72, Tryz.ntmps72
  go_wp2_with (at_builtin; refine R.wpList_append_row _ rfl _ _ 44 rfl 3 i0 (.int .i64 0) 8 Tryz.underlying44 hi hz0 hz1 hz2 rfl (by decide) _ n (ints xs) rfl (hr.alloc _) ⟨w.heap.size, 0, none⟩ 1 (.int .i64 x) rfl (by simp) (by simp [Value.oneCell']) hl ?_; intro v' w1 hr' hg hlat; obtain ⟨a', cap', rfl, hc', hm'⟩ := hr'.form; have hT1 : Blk w1 T 48 cs := (hT.alloc _).agree (hg.block T (by simp; omega) (Ne.symm hvT)); have c1 : w1.cell? ⟨T, o, none⟩ = some (.slice a n cap) := (hT1.cell o).trans ((hT.cell o).symm.trans c); have f1 := hT1.frozen o; have l1 := hT1.lt; have HR := Lib.hid (And.intro hr' (And.intro hg hlat)); clear hr' hg hlat hT1)
  go_end0
  obtain ⟨hr', hg, hlat⟩ := HR.out
  refine ⟨rfl, _, w1, rfl, ?_, ?_, fun k hk => ?_⟩
  · simpa [HN.out] using hr'
  · exact ((Keeps.refl (fun k => (Value.slice a n cap).ownBlock = some k) w).alloc _).grown hg fun k e => .inl e
  · rcases hlat with h | h
    · rw [h] at hk; exact .inl hk
    · have := h k hk
      simp at this
      exact .inr (by omega)

/-! ### Index and Contains -/
/-- The place of the first x. -/
def idx (xs : List Int) (x : Int) : Int := if x ∈ xs then xs.findIdx (· == x) else -1
def Found (xs : List Int) (x : Int) (w : World) (e : Ending) (w' : World) : Prop := ∃ r : Int, e = .returned (.int .i64 r) ∧ w = w' ∧ (0 ≤ r ↔ x ∈ xs) ∧ -1 ≤ r ∧ r ≤ 9223372036854775807
theorem index_none (a : Option Addr) (cap : Nat) (x : Int) (w : World) : Calls Tryz.prog 96 #[.slice a 0 cap, .int .i64 x] w (Found [] x w) := by
  go_enter Tryz.func96, Tryz.ntmps96
  go_wp2
  go_rounds 1
  go_ret
  exact ⟨-1, rfl, rfl, by simp, by omega, by omega⟩
set_option maxHeartbeats 1000000 in
theorem index_some (b off cap : Nat) (xs : List Int) (x : Int) (n : Nat) (w : World) (hn : xs.length = n) (hc : n ≤ cap) (hm : cap ≤ 9223372036854775807) (hcell : ∀ i : Nat, i < n → w.cell? ⟨b, off + i, none⟩ = some (.int .i64 (xs[i]?.getD 0))) :
    Calls Tryz.prog 96 #[.slice (some ⟨b, off, none⟩) n cap, .int .i64 x] w (Found xs x w) := by
  have HC := Lib.hid hcell
  have HL := Lib.hid hn
  clear hcell hn
  go_enter Tryz.func96, Tryz.ntmps96
  go_wp2_with fail
  go_loopw [8] (fun i wr => ∃ j : Nat, j ≤ n ∧ i = .int .i64 j ∧ wr = w ∧ Hid (∀ k, k < j → xs[k]?.getD 0 ≠ x)) (fun i _ => n - (intOf i).toNat)
  case atStart => exact ⟨0, by omega, rfl, rfl, Lib.hid fun k hk => by omega⟩
  case round =>
    obtain ⟨j, hj, rfl, rfl, HNE⟩ := hrel
    by_cases hlt : j < n
    · have hjx : j < xs.length := by rw [HL.out]; exact hlt
      have d1 := HC.out j hlt
      have HY := Lib.hid (show xs[j]? = some (xs[j]?.getD 0) by simp [hjx])
      clear hjx
      generalize xs[j]?.getD 0 = y at *
      by_cases he : x = y
      · subst he
        have heq : (x == x) = true := by simp
        go_wp2
        go_ret
        refine ⟨j, rfl, rfl, ?_, by omega, by omega⟩
        have : x ∈ xs := List.mem_of_getElem? HY.out
        simp [this]
      · have heq : (x == y) = false := by simpa using he
        go_wp2
        go_roundw
        case rel =>
          refine ⟨j + 1, by omega, by go_num, (by first | rfl | trivial), Lib.hid fun k hk => ?_⟩
          by_cases e : k = j
          · rw [e, HY.out]; exact fun e => he e.symm
          · exact HNE.out k (by omega)
        case measure => simp [intOf]; omega
    · go_wp2
      go_ret
      refine ⟨-1, rfl, rfl, ⟨fun h => by omega, fun hm => ?_⟩, by omega, by omega⟩
      obtain ⟨i, hi, rfl⟩ := List.mem_iff_getElem.1 hm
      exact absurd (by simp [hi]) (HNE.out i (by have := HL.out; omega))
theorem index_any (v : Value) (xs : List Int) (x : Int) (w : World) (hr : Reads w v xs) : Calls Tryz.prog 96 #[v, .int .i64 x] w (Found xs x w) := by
  rcases hr with ⟨a, cap, rfl, rfl⟩ | ⟨b, off, cap, rfl, h1, h2, h3, h4⟩
  · exact index_none a cap x w
  · exact index_some b off cap xs x _ w rfl h2 h3 h4
theorem contains_any (v : Value) (xs : List Int) (x : Int) (w : World) (hr : Reads w v xs) : Calls Tryz.prog 85 #[v, .int .i64 x] w fun e w' => e = .returned (.bool (decide (x ∈ xs))) ∧ w = w' := by
  have K := index_any v xs x w hr
  clear hr
  obtain ⟨bo, hbo⟩ : ∃ bo, decide (x ∈ xs) = bo := ⟨_, rfl⟩
  rw [hbo]
  have HB := Lib.hid hbo
  clear hbo
  go_enter Tryz.func85, Tryz.ntmps85
  go_wp2_with fail
  refine K.mono ?_
  rintro e w' ⟨r, rfl, rfl, h1, h2, h3⟩
  have hd : decide (0 ≤ r) = bo := by rw [← HB.out]; simp only [h1]
  have hd2 : decide (r ≥ 0) = bo := hd
  clear h1
  go_wp2
  go_ret
  exact ⟨rfl, rfl⟩
/-- What stays: what the list in the box at kb has. -/
theorem stays_gives (kb : Nat) (v : Value) (xs : List Int) (w : World) (hb : Boxed w kb 44 v) (hr : Reads w v xs) : Gives (.func (.func 84) #[] #[at0 kb]) (fun k => k = kb ∨ (0 < xs.length ∧ v.ownBlock = some k)) (fun x => .bool (decide (x ∈ xs))) w := by
  refine ⟨⟨84, _, rfl, enters_of Tryz.func84 (by kernel_rfl) rfl, fun W hW x hx => ?_⟩, fun k hk => ?_⟩
  · have hb' : Boxed W kb 44 v := (hW kb (.inl rfl)).trans hb
    have hr' : Reads W v xs := Reads.agree hr fun k h0 e => hW k (.inr ⟨h0, e⟩)
    have c0 := hb'.cell
    have K := contains_any v xs x W hr'
    clear hr' hr hb hb' hW
    generalize decide (x ∈ xs) = bo at *
    go_enter Tryz.func84, Tryz.ntmps84
    go_wp2_with fail
    refine K.mono ?_
    rintro e w' ⟨rfl, rfl⟩
    go_wp2
    go_ret
    exact ⟨rfl, Keeps.refl _ _⟩
  · rcases hk with rfl | ⟨h0, hk⟩
    · exact hb.lt
    · rcases hr with ⟨a, cap, rfl, rfl⟩ | ⟨b, off, cap, rfl, h1, h2, h3, h4⟩
      · simp at h0
      · obtain rfl : b = k := by simpa [Value.ownBlock] using hk
        exact World.block_lt_of_cell? w _ (h4 0 h1)
end Go.Proofs.YtemikojaldoofaaGreat.S
namespace Go.Proofs.YtemikojaldoofaaGreat.S
open Go.Proofs.YtemikojaldoofaaGreat
open Go.RowKit Go.Shelf
set_option linter.unusedVariables false
set_option maxRecDepth 20000

/-- The closure that sift makes. -/
abbrev stayV (kb : Nat) : Value := .func (.func 84) #[] #[at0 kb]
theorem stays_any (kb : Nat) (v : Value) (xs : List Int) (x : Int) (w : World) (hb : Boxed w kb 44 v) (hr : Reads w v xs) : Calls Tryz.prog 84 #[.int .i64 x, at0 kb] w fun e w' => e = .returned (.bool (decide (x ∈ xs))) ∧ w = w' := by
  have c0 := hb.cell
  have K := contains_any v xs x w hr
  clear hr hb
  generalize decide (x ∈ xs) = bo at *
  go_enter Tryz.func84, Tryz.ntmps84
  go_wp2_with fail
  refine K.mono ?_
  rintro e w' ⟨rfl, rfl⟩
  go_wp2
  go_ret
  exact ⟨rfl, rfl⟩
/-- What IndexFunc hands back. -/
def FoundF (xs named : List Int) (w : World) (e : Ending) (w' : World) : Prop :=
  ∃ r : Int, e = .returned (.int .i64 r) ∧ w = w' ∧ ((r = -1 ∧ ∀ x ∈ xs, x ∉ named) ∨ ∃ j : Nat, r = j ∧ j < xs.length ∧ xs[j]?.getD 0 ∈ named ∧ ∀ k, k < j → xs[k]?.getD 0 ∉ named)
set_option maxHeartbeats 1000000 in
theorem indexf_any (b cap : Nat) (xs named : List Int) (kb n : Nat) (w : World) (hn : xs.length = n) (hc : n ≤ cap) (hm : cap ≤ 9223372036854775807) (hcell : ∀ i : Nat, i < n → w.cell? ⟨b, i, none⟩ = some (.int .i64 (xs[i]?.getD 0)))
    (hk : ∀ x, Calls Tryz.prog 84 #[.int .i64 x, at0 kb] w fun e w' => e = .returned (.bool (decide (x ∈ named))) ∧ w = w') :
    Calls Tryz.prog 97 #[.slice (some ⟨b, 0, none⟩) n cap, stayV kb] w (FoundF xs named w) := by
  have HC := Lib.hid hcell
  have HL := Lib.hid hn
  have HK := Lib.hid hk
  have eg : ∀ args w, (callFunc 84 args).run Tryz.prog w = .ok (.enter 84 args) w := enters_of Tryz.func84 (by kernel_rfl) rfl
  clear hcell hn hk
  go_enter Tryz.func97, Tryz.ntmps97
  go_wp2_with fail
  go_loopw [8] (fun i wr => ∃ j : Nat, j ≤ n ∧ i = .int .i64 j ∧ wr = w ∧ Hid (∀ k, k < j → xs[k]?.getD 0 ∉ named)) (fun i _ => n - (intOf i).toNat)
  case atStart => exact ⟨0, by omega, rfl, rfl, Lib.hid fun k hk => by omega⟩
  case round =>
    obtain ⟨j, hj, rfl, rfl, HNE⟩ := hrel
    by_cases hlt : j < n
    · have d1 := HC.out j hlt
      have K := HK.out (xs[j]?.getD 0)
      have d2 : wr.cell? ⟨b, 0 + j, none⟩ = some (.int .i64 (xs[j]?.getD 0)) := by rw [Nat.zero_add]; exact d1
      by_cases he : xs[j]?.getD 0 ∈ named
      · rw [decide_eq_true he] at K
        have HE := Lib.hid he
        clear he
        generalize hy : xs[j]?.getD 0 = y at *
        have HY := Lib.hid hy
        clear hy
        go_wp2_with (go_at_fn 84; refine K.mono ?_; rintro e w' ⟨rfl, rfl⟩)
        go_ret
        exact ⟨j, rfl, rfl, .inr ⟨j, rfl, by rw [HL.out]; exact hlt, by rw [HY.out]; exact HE.out, HNE.out⟩⟩
      · rw [decide_eq_false he] at K
        have HE := Lib.hid he
        clear he
        generalize hy : xs[j]?.getD 0 = y at *
        have HY := Lib.hid hy
        clear hy
        go_wp2_with (go_at_fn 84; refine K.mono ?_; rintro e w' ⟨rfl, rfl⟩)
        go_roundw
        case rel =>
          refine ⟨j + 1, by omega, by go_num, (by first | rfl | trivial), Lib.hid fun k hk => ?_⟩
          by_cases e : k = j
          · rw [e, HY.out]; exact HE.out
          · exact HNE.out k (by omega)
        case measure => simp [intOf]; omega
    · go_wp2
      go_ret
      refine ⟨-1, rfl, rfl, .inl ⟨rfl, fun x hx => ?_⟩⟩
      obtain ⟨i, hi, rfl⟩ := List.mem_iff_getElem.1 hx
      have := HNE.out i (by have := HL.out; omega)
      simpa [hi] using this
/-- Those of the first j that stay where they are. -/
def keptL (xs named : List Int) (j : Nat) : List Int := (xs.take j).filter fun x => !decide (x ∈ named)
theorem keptL_in {xs named : List Int} {j : Nat} (h : j < xs.length) (he : xs[j]?.getD 0 ∈ named) : keptL xs named (j + 1) = keptL xs named j := by
  have e : xs[j]?.getD 0 = xs[j] := by simp [h]
  rw [e] at he
  unfold keptL
  rw [List.take_succ_eq_append_getElem h, List.filter_append]
  simp [he]
theorem keptL_out {xs named : List Int} {j : Nat} (h : j < xs.length) (he : xs[j]?.getD 0 ∉ named) : keptL xs named (j + 1) = keptL xs named j ++ [xs[j]?.getD 0] := by
  have e : xs[j]?.getD 0 = xs[j] := by simp [h]
  rw [e] at he ⊢
  unfold keptL
  rw [List.take_succ_eq_append_getElem h, List.filter_append]
  simp [he]
theorem keptL_first {xs named : List Int} : ∀ {j : Nat}, j ≤ xs.length → (∀ k, k < j → xs[k]?.getD 0 ∉ named) → keptL xs named j = xs.take j
  | 0, _, _ => rfl
  | j + 1, h, hk => by
    rw [keptL_out (by omega) (hk j (by omega)), keptL_first (by omega) fun k h => hk k (by omega)]
    have h' : j < xs.length := by omega
    rw [List.take_succ_eq_append_getElem h']
    simp [h']
theorem keptL_all (xs named : List Int) : keptL xs named xs.length = xs.filter fun x => !decide (x ∈ named) := by simp [keptL]
theorem keptL_none {xs named : List Int} (h : ∀ x ∈ xs, x ∉ named) : (xs.filter fun x => !decide (x ∈ named)) = xs := by
  rw [List.filter_eq_self]
  intro x hx
  simp [h x hx]
/-- Amid DeleteFunc: j things have been looked at, i of them stay. -/
structure DS (w : World) (g n : Nat) (xs named : List Int) (sz i j : Nat) (W : World) : Prop where
  dk : ∃ dk, Blk W g 3 dk ∧ dk.size = sz ∧ (∀ k, k < i → dk[k]? = (ints (keptL xs named j))[k]?) ∧ ∀ k, j ≤ k → k < n → dk[k]? = (ints xs)[k]?
  len : i = (keptL xs named j).length
  lt : i < j
  keeps : Keeps (fun k => k = g) w W
/-- What DeleteFunc leaves of the row at g. -/
def Deleted (w : World) (g cap : Nat) (ys : List Int) (e : Ending) (w' : World) : Prop :=
  e = .returned (.slice (some ⟨g, 0, none⟩) ys.length cap) ∧ R.Row w' 3 (.slice (some ⟨g, 0, none⟩) ys.length cap) ys.length (ints ys) ∧ Keeps (fun k => k = g) w w'
theorem zero3 : ∀ w, (zeroValue 3).run Tryz.prog w = .ok (.int .i64 0) w := fun w => by kernel_rfl
theorem setCells_blk {W : World} {g : Nat} {t : TypeId} {cs : Array Value} (h : Blk W g t cs) (o : Nat) (l : List Value) : ∃ cs', Blk (W.setCells g o l) g t cs' ∧ cs'.size = cs.size ∧ ∀ k, k < o → cs'[k]? = cs[k]? := by
  induction l generalizing W cs o with
  | nil => exact ⟨cs, by simpa [World.setCells] using h, rfl, fun _ _ => rfl⟩
  | cons x l ih =>
    obtain ⟨cs', h1, h2, h3⟩ := ih (h.set o x) (o + 1)
    refine ⟨cs', by simpa [World.setCells] using h1, by simpa using h2, fun k hk => ?_⟩
    rw [h3 k (by omega), Array.getElem?_setIfInBounds_ne (by omega)]
theorem setCells_keeps {W : World} {g : Nat} (o : Nat) (l : List Value) : Keeps (fun k => k = g) W (W.setCells g o l) := by
  induction l generalizing W o with
  | nil => exact by simpa [World.setCells] using Keeps.refl (fun k => k = g) W
  | cons x l ih =>
    have h1 : Keeps (fun k => k = g) W (W.setCell ⟨g, o, none⟩ x) := (Keeps.refl (fun k => k = g) W).setCell (p := ⟨g, o, none⟩) (.inl rfl) _
    have h2 := h1.trans (ih (W := W.setCell ⟨g, o, none⟩ x) (o + 1)) fun k h => .inl h
    simpa [World.setCells] using h2
theorem DS.at_ {w W : World} {g n sz i j : Nat} {xs named : List Int} (h : DS w g n xs named sz i j W) (hn : xs.length = n) (hsz : n ≤ sz) (hj : j ≤ n) : g < W.heap.size ∧ (∀ k, W.frozen? ⟨g, k, none⟩ = false) ∧ (∃ u, W.cell? ⟨g, i, none⟩ = some u) ∧ (j < n → W.cell? ⟨g, j, none⟩ = some (.int .i64 (xs[j]?.getD 0))) := by
  obtain ⟨⟨dk, hb, hs, h1, h2⟩, hl, hlt, hk⟩ := h
  refine ⟨hb.lt, fun k => hb.frozen k, ⟨_, (hb.cell i).trans (Array.getElem?_eq_getElem (by omega))⟩, fun hjn => ?_⟩
  rw [hb.cell, h2 j (Nat.le_refl _) hjn]
  have : j < xs.length := by omega
  simp [this]
theorem DS.isCell {w W : World} {g n sz i j : Nat} {xs named : List Int} (h : DS w g n xs named sz i j W) {k : Nat} (hk : k < sz) : (W.cell? ⟨g, k, none⟩).isSome = true := by
  obtain ⟨⟨dk, hb, hs, h1, h2⟩, hl, hlt, hk'⟩ := h
  rw [hb.cell, Array.getElem?_eq_getElem (by omega)]
  rfl
theorem DS.skip {w W : World} {g n sz i j : Nat} {xs named : List Int} (h : DS w g n xs named sz i j W) (hn : xs.length = n) (hj : j < n) (he : xs[j]?.getD 0 ∈ named) : DS w g n xs named sz i (j + 1) W := by
  obtain ⟨⟨dk, hb, hs, h1, h2⟩, hl, hlt, hk⟩ := h
  have e := keptL_in (xs := xs) (named := named) (j := j) (by omega) he
  exact ⟨⟨dk, hb, hs, by rw [e]; exact h1, fun k a b => h2 k (by omega) b⟩, by rw [e]; exact hl, by omega, hk⟩
theorem DS.keep {w W : World} {g n sz i j : Nat} {xs named : List Int} (h : DS w g n xs named sz i j W) (hn : xs.length = n) (hsz : n ≤ sz) (hj : j < n) (he : xs[j]?.getD 0 ∉ named) : DS w g n xs named sz (i + 1) (j + 1) (W.setCell ⟨g, i, none⟩ (.int .i64 (xs[j]?.getD 0))) := by
  obtain ⟨⟨dk, hb, hs, h1, h2⟩, hl, hlt, hk⟩ := h
  have e := keptL_out (xs := xs) (named := named) (j := j) (by omega) he
  refine ⟨⟨_, hb.set i _, by simpa using hs, fun k hki => ?_, fun k a b => ?_⟩, by rw [e, List.length_append, ← hl]; rfl, by omega, hk.setCell (p := ⟨g, i, none⟩) (.inl rfl) _⟩
  · rw [e]
    by_cases ek : k = i
    · subst ek
      rw [Array.getElem?_setIfInBounds_self_of_lt (by omega)]
      simp [ints, hl]
    · rw [Array.getElem?_setIfInBounds_ne (Ne.symm ek), h1 k (by omega)]
      simp only [ints, List.map_append]
      rw [List.getElem?_append_left (by simp; omega)]
  · rw [Array.getElem?_setIfInBounds_ne (by omega)]
    exact h2 k (by omega) b
theorem DS.start {w : World} {g n sz j : Nat} {xs named : List Int} {cur : Array Value} (hb : Blk w g 3 cur) (hs : cur.size = sz) (hc : ∀ k, k < n → cur[k]? = (ints xs)[k]?) (hn : xs.length = n) (hj : j < n) (he : xs[j]?.getD 0 ∈ named) (hb4 : ∀ k, k < j → xs[k]?.getD 0 ∉ named) : DS w g n xs named sz j (j + 1) w := by
  have e := keptL_in (xs := xs) (named := named) (j := j) (by omega) he
  have e2 := keptL_first (xs := xs) (named := named) (j := j) (by omega) hb4
  refine ⟨⟨cur, hb, hs, fun k hk => ?_, fun k a b => hc k b⟩, by rw [e, e2, List.length_take]; omega, by omega, Keeps.refl _ _⟩
  rw [hc k (by omega), e, e2]
  simp only [ints, List.map_take]
  rw [List.getElem?_take_of_lt hk]
theorem row_of {W : World} {g cap : Nat} {cur : Array Value} {ys : List Int} (hb : Blk W g 3 cur) (hn : ys.length ≤ cap) (hc : cap ≤ cur.size) (hm : cap ≤ maxLen) (h : ∀ k, k < ys.length → cur[k]? = (ints ys)[k]?) : R.Row W 3 (.slice (some ⟨g, 0, none⟩) ys.length cap) ys.length (ints ys) :=
  ⟨by simp [ints], .inr ⟨g, 0, cap, cur, rfl, hb, hn, by omega, hm, fun i hi => by rw [Nat.zero_add]; exact h i hi⟩⟩
/-- At its end. -/
theorem DS.done {w W : World} {g n sz cap i : Nat} {xs named : List Int} (h : DS w g n xs named sz i n W) (hn : xs.length = n) (hcap : cap ≤ sz) (hnc : n ≤ cap) (hm : cap ≤ maxLen) (l : List Value) :
    R.Row (W.setCells g i l) 3 (.slice (some ⟨g, 0, none⟩) (xs.filter fun x => !decide (x ∈ named)).length cap) (xs.filter fun x => !decide (x ∈ named)).length (ints (xs.filter fun x => !decide (x ∈ named))) ∧ Keeps (fun k => k = g) w (W.setCells g i l) ∧ i = (xs.filter fun x => !decide (x ∈ named)).length := by
  obtain ⟨⟨dk, hb, hs, h1, h2⟩, hl, hlt, hk⟩ := h
  subst hn
  rw [keptL_all] at h1 hl
  obtain ⟨cs', c1, c2, c3⟩ := setCells_blk hb i l
  refine ⟨row_of c1 (by omega) (by omega) hm fun k hk => ?_, hk.trans (setCells_keeps i l) fun k h => .inl h, hl⟩
  rw [c3 k (by omega)]
  exact h1 k (by omega)
set_option maxHeartbeats 4000000 in
theorem del_any (g cap : Nat) (cur : Array Value) (xs named : List Int) (kb n : Nat) (w : World) (hb : Blk w g 3 cur) (hn : xs.length = n) (hnc : n ≤ cap) (hcs : cap ≤ cur.size) (hm : cap ≤ maxLen) (hc : ∀ k, k < n → cur[k]? = (ints xs)[k]?)
    (hk : ∀ W, Keeps (fun k => k = g) w W → ∀ x, Calls Tryz.prog 84 #[.int .i64 x, at0 kb] W fun e w' => e = .returned (.bool (decide (x ∈ named))) ∧ W = w') :
    Calls Tryz.prog 86 #[.slice (some ⟨g, 0, none⟩) n cap, stayV kb] w (Deleted w g cap (xs.filter fun x => !decide (x ∈ named))) := by
  have hm' : cap ≤ 9223372036854775807 := by unfold maxLen at hm; omega
  have KI := indexf_any g cap xs named kb n w hn hnc hm' (fun i hi => by
    rw [hb.cell, hc i hi]
    have : i < xs.length := by omega
    simp [this]) (hk w (Keeps.refl _ _))
  have eg : ∀ args w, (callFunc 84 args).run Tryz.prog w = .ok (.enter 84 args) w := enters_of Tryz.func84 (by kernel_rfl) rfl
  obtain ⟨ys, hys⟩ : ∃ ys, (xs.filter fun x => !decide (x ∈ named)) = ys := ⟨_, rfl⟩
  rw [hys]
  have HY := Lib.hid hys
  have HN := Lib.hid hn
  have HK := Lib.hid hk
  have HB := Lib.hid hb
  have HCS := Lib.hid hcs
  have HM := Lib.hid hm
  have HC := Lib.hid hc
  clear hys hn hk hb hcs hm hc
  go_enter Tryz.func86, Tryz.ntmps86
  go_wp2_with fail
  refine KI.mono ?_
  rintro e w' ⟨r, rfl, rfl, hr⟩
  clear KI
  rcases hr with ⟨rfl, hr⟩ | ⟨j0, rfl, h1, h2, h3⟩
  · have hys : ys = xs := by rw [← HY.out]; exact keptL_none hr
    go_wp2
    go_ret
    rw [hys]
    refine ⟨by show Ending.returned (.slice (some ⟨g, 0, none⟩) n cap) = _; rw [HN.out], ?_, Keeps.refl _ _⟩
    exact row_of HB.out (by rw [HN.out]; exact hnc) HCS.out HM.out fun k hk => HC.out k (by rw [← HN.out]; exact hk)
  · have hne1 : ((j0 : Int) == -1) = false := beq_eq_false_iff_ne.2 (by omega)
    have H0 := Lib.hid (DS.start HB.out rfl HC.out HN.out (by rw [← HN.out]; exact h1) h2 h3)
    have hj0 : j0 < n := by rw [← HN.out]; exact h1
    clear h1 h2 h3
    go_wp2_with fail
    go_loopg [5, 6, 7] n (fun gg s5 s6 _ wr => ∃ i j : Nat, s5 = .int .i64 i ∧ s6 = .int .i64 j ∧ j ≤ n ∧ n - j ≤ gg ∧ Hid (DS w g n xs named cur.size i j wr))
    case atStart => exact ⟨j0, j0 + 1, rfl, by go_num, by omega, by omega, H0⟩
    case round =>
      obtain ⟨i, j, rfl, rfl, hjn, hgg, hrel⟩ := hrel
      obtain ⟨lg, fz, ⟨u0, ci⟩, cj⟩ := hrel.out.at_ HN.out (by have := HCS.out; omega) hjn
      have hij := hrel.out.lt
      by_cases hlt : j < n
      · have hltz : (j : Int) < (n : Int) := by omega
        have cj := cj hlt
        have fi := fz i
        have K := HK.out wr hrel.out.keeps (xs[j]?.getD 0)
        have cj0 : wr.cell? ⟨g, 0 + j, none⟩ = some (.int .i64 (xs[j]?.getD 0)) := by rw [Nat.zero_add]; exact cj
        have ci0 : wr.cell? ⟨g, 0 + i, none⟩ = some u0 := by rw [Nat.zero_add]; exact ci
        have fi0 : wr.frozen? ⟨g, 0 + i, none⟩ = false := by rw [Nat.zero_add]; exact fi
        clear fz
        by_cases he : xs[j]?.getD 0 ∈ named
        · rw [decide_eq_true he] at K
          have HX := Lib.hid (hrel.out.skip HN.out hlt he)
          clear he
          generalize xs[j]?.getD 0 = u at *
          go_wp2_with (go_at_fn 84; refine K.mono ?_; rintro e w' ⟨rfl, rfl⟩)
          go_roundg (n - (j + 1))
          case measure => omega
          case rel => exact ⟨i, j + 1, by first | rfl | trivial, by go_num, by omega, Nat.le_refl _, HX⟩
        · rw [decide_eq_false he] at K
          have HX := Lib.hid (hrel.out.keep HN.out (by have := HCS.out; omega) hlt he)
          clear he
          generalize xs[j]?.getD 0 = u at *
          go_wp2_with (go_at_fn 84; refine K.mono ?_; rintro e w' ⟨rfl, rfl⟩)
          go_roundg (n - (j + 1))
          case measure => omega
          case rel => exact ⟨i + 1, j + 1, by go_num, by go_num, by omega, Nat.le_refl _, HX⟩
      · obtain rfl : j = n := by omega
        have hltz : ¬ (j : Int) < (j : Int) := by omega
        have hsz := HCS.out
        have hcl : ∀ ty, (Builtin.clear_ #[44] ty #[.slice (some ⟨g, 0 + i, none⟩) (j - i) (cap - i)]).run Tryz.prog wr = .ok (.tuple #[]) (wr.setCells g (0 + i) (List.replicate (j - i) (.int .i64 0))) :=
          fun ty => Lib.run_clear_slice wr 44 3 ty (.int .i64 0) Tryz.underlying44 zero3 rfl rfl g (0 + i) (j - i) (cap - i) (by omega) (fun t ht => hrel.out.isCell (by omega)) (fun t ht => fz _)
        have HD := Lib.hid (hrel.out.done HN.out HCS.out hnc HM.out (List.replicate (j - i) (.int .i64 0)))
        rw [Nat.zero_add] at hcl
        clear fz cj ci hrel
        go_wp2
        go_ret
        obtain ⟨h1, h2, h3⟩ := HD.out
        rw [HY.out] at h1 h3
        exact ⟨by show Ending.returned (.slice (some ⟨g, 0, none⟩) i cap) = _; rw [h3], h1, h2⟩
theorem indexf_none (a : Option Addr) (cap : Nat) (named : List Int) (kv : Value) (w : World) : Calls Tryz.prog 97 #[.slice a 0 cap, kv] w (FoundF [] named w) := by
  go_enter Tryz.func97, Tryz.ntmps97
  go_wp2
  go_rounds 1
  go_ret
  exact ⟨-1, rfl, rfl, .inl ⟨rfl, by simp⟩⟩
theorem del_none (kv : Value) (w : World) : Calls Tryz.prog 86 #[.slice none 0 0, kv] w fun e w' => e = .returned (.slice none 0 0) ∧ w = w' := by
  have K := indexf_none none 0 [] kv w
  go_enter Tryz.func86, Tryz.ntmps86
  go_wp2_with fail
  refine K.mono ?_
  rintro e w' ⟨r, rfl, rfl, hr⟩
  have hr : r = -1 := by
    rcases hr with ⟨h, -⟩ | ⟨j, -, h, -⟩
    · exact h
    · simp at h
  subst hr
  go_wp2
  go_ret
  exact ⟨rfl, rfl⟩
/-- DeleteFunc of a list of one's own. -/
theorem del_own (base : Nat) (v : Value) (xs named : List Int) (kb : Nat) (w : World) (h : w.ownsRow base 3 1 v xs.length (ints xs))
    (hk : ∀ W, Keeps (fun k => v.ownBlock = some k) w W → ∀ x, Calls Tryz.prog 84 #[.int .i64 x, at0 kb] W fun e w' => e = .returned (.bool (decide (x ∈ named))) ∧ W = w') :
    Calls Tryz.prog 86 #[v, stayV kb] w fun e w' => ∃ v', e = .returned v' ∧ R.Row w' 3 v' (xs.filter fun x => !decide (x ∈ named)).length (ints (xs.filter fun x => !decide (x ∈ named))) ∧ Keeps (fun k => v.ownBlock = some k) w w' ∧ ∀ k, v'.ownBlock = some k → v.ownBlock = some k := by
  rcases h.2 with ⟨rfl, h0⟩ | ⟨g, cap, cur, rfl, hbg, hg, hc, hm, hs, ht⟩
  · obtain rfl : xs = [] := List.eq_nil_of_length_eq_zero h0
    refine (del_none (stayV kb) w).mono ?_
    rintro e w' ⟨rfl, rfl⟩
    exact ⟨_, rfl, R.Row.nil _ _, Keeps.refl _ _, fun k h => h⟩
  · have hkg : ∀ W, Keeps (fun k => k = g) w W → Keeps (fun k => (Value.slice (some ⟨g, 0, none⟩) xs.length cap).ownBlock = some k) w W := fun W hW => hW.mono (O' := fun k => (Value.slice (some ⟨g, 0, none⟩) xs.length cap).ownBlock = some k) fun k e => .inl (by subst e; rfl)
    refine (del_any g cap cur xs named kb xs.length w hg rfl hc (by omega) hm (fun k hk => ?_) fun W hW x => hk W (hkg W hW) x).mono ?_
    · rw [← ht]; simp [hk]
    · rintro e w' ⟨rfl, h1, h2⟩
      exact ⟨_, rfl, h1, hkg _ h2, fun k h => h⟩
end Go.Proofs.YtemikojaldoofaaGreat.S
namespace Go.Proofs.YtemikojaldoofaaGreat.S
open Go.Proofs.YtemikojaldoofaaGreat
open Go.RowKit Go.Shelf
set_option linter.unusedVariables false
attribute [local go_sem] Oper.semAt_some wide_fn

/-- A list in a variable of type t: who owns it owns the variable's block and the row's. -/
def Held (t e : TypeId) (B : Nat) (vs : List Value) (O : Nat → Prop) (W : World) : Prop :=
  ∃ v, O = (fun k => k = B ∨ v.ownBlock = some k) ∧ Boxed W B t v ∧ R.Row W e v vs.length vs
theorem Held.fits (t e : TypeId) (B : Nat) : Fits (Held t e B) := by
  rintro vs O W ⟨v, rfl, hb, hr⟩
  refine ⟨fun k hk => ?_, fun W' hW => ⟨v, rfl, (hW _ (.inl rfl)).trans hb, hr.agree (fun k hk => hW k (.inr hk))⟩⟩
  rcases hk with rfl | hk
  · exact hb.lt
  · exact hr.lt hk
/-- The list has become vs; its own blocks alone have turned. -/
def Turned (t e : TypeId) (B : Nat) (vs : List Value) (O : Nat → Prop) (w w' : World) : Prop := ∃ O', Keeps O w w' ∧ Later O w O' ∧ Held t e B vs O' w'

/-- 'p.l = append(p.l, x)', behind the append and the store. -/
theorem Held.appended {t e : TypeId} (hte : t ≠ e) {B n : Nat} {vs ys : List Value} {W w1 : World} {tmp : Obj} {v v' : Value} (hb : Boxed W B t v) (hr : R.Row W e v n vs) (hr' : R.Row w1 e v' ys.length ys) (hg : (W.alloc tmp).grownBy w1 v.ownBlock)
    (hl : v'.ownBlock = v.ownBlock ∨ ∀ k, v'.ownBlock = some k → (W.alloc tmp).heap.size ≤ k) :
    Boxed w1 B t v ∧ Turned t e B ys (fun k => k = B ∨ v.ownBlock = some k) W (w1.setCell ⟨B, 0, none⟩ v') := by
  have hb1 : Boxed w1 B t v := (hb.alloc tmp).kept hg (fun e' => hr.not_box hb hte e'.symm)
  refine ⟨hb1, fun k => k = B ∨ v'.ownBlock = some k, (((Keeps.refl _ W).alloc tmp).grown hg (fun k e => .inl (.inr e))).setCell (.inl (.inl rfl)) _, fun k hk => ?_, v', rfl, hb1.set _, hr'.setCell (hr'.not_box hb1 hte) _⟩
  rcases hk with hk | hk
  · exact .inl (.inl hk)
  · rcases hl with hl | hl
    · exact .inl (.inr (hl ▸ hk))
    · exact .inr (by have := hl k hk; simp at this; omega)

/-- What Keep leaves of the cell at T, o. -/
def Kept (T o : Nat) (v : Value) (n : Int) (xs : List Int) (w : World) (e : Ending) (w' : World) : Prop :=
  (∃ r, e = .returned r) ∧ ∃ v', (∀ cs, Blk w T 48 cs → Blk w' T 48 (cs.setIfInBounds o v')) ∧ R.Row w' 3 v' xs.length (ints xs) ∧ Keeps (fun k => k = T ∨ v.ownBlock = some k) w w' ∧ ∀ k, v'.ownBlock = some k → w.heap.size ≤ k
set_option maxRecDepth 100000 in
set_option maxHeartbeats 4000000 in
theorem keep_any (T o : Nat) (cs : Array Value) (v : Value) (xs : List Int) (kv : Value) (Ck : Nat → Prop) (p : Int → Bool) (w : World) (hb : Blk w T 48 cs) (c : w.cell? ⟨T, o, none⟩ = some v) (hr : R.Row w 3 v xs.length (ints xs)) (hkv : Gives kv Ck (fun x => .bool (p x)) w) (hR : ∀ x ∈ xs, InR x) (hlen : xs.length ≤ 1000000000) :
    Calls Tryz.prog 87 #[.pointer (some ⟨T, o, none⟩), kv] w (Kept T o v xs.length (xs.filter p) w) := by
  have hrd := row_reads hr
  have hvT : v.ownBlock ≠ some T := fun e => by
    obtain ⟨cur, hb'⟩ := rrow_blk hr e
    exact Blk.ne hb' hb (by decide) rfl
  obtain ⟨a, cap, rfl, hcap, hmx⟩ := hr.form
  obtain ⟨n, hn⟩ : ∃ n, xs.length = n := ⟨_, rfl⟩
  rw [hn] at hrd c hr hvT
  have HR := Lib.hid hrd
  have HN := Lib.hid hn
  rw [hn] at hlen
  clear hn hrd hcap
  obtain ⟨i0, hi, hz0, hz1, hz2⟩ := info_parts Try.info3
  obtain ⟨kf, kc, rfl, ekf, -⟩ := hkv.func
  have lb := hb.lt
  have qf : ∀ fn caps w, (binOp .eql 92 (.func fn #[] caps) .nilFunc).run Tryz.prog w = .ok (.bool false) w := fun _ _ _ => by kernel_rfl
  refine (callsIn_wide (n := 9)).1 ?_
  refine callsIn_of_wp_marks Tryz.func87 rfl trivial ?_ rfl
  simp only [Tryz.ntmps87, List.size_toArray, List.length_cons, List.length_nil, Nat.reduceAdd, Nat.reduceSub, Array.replicate_succ, Array.replicate_zero, List.push_toArray, List.append_toArray, List.nil_append, List.cons_append]
  gi_wp2_with (gi_at_call 20; refine (callsIn_wide.2 (len_any T o n cap a _ c (by omega))).mono ?_; rintro e w' ⟨rfl, rfl⟩)
  have hb0 : Below w.heap.size w (w.alloc (.cells #[.slice none 0 0] 44)) := (Below.refl _ _).alloc (Nat.le_refl _) _
  refine (callsIn_wide.2 (of_makes _ xs _ (reads_below HR.out hb0) (by rw [HN.out]; exact hlen))).mono ?_
  rintro e w1 ⟨g1, lb1, C1, rfl, -, hT1, hC1, hb1⟩
  have hkv1 : Gives (.func (.func kf) #[] kc) Ck (fun x => .bool (p x)) w1 := hkv.later (fun k h => (hb1.block k (by have := hkv.lt k h; simp; omega)).trans (hb0.block k (hkv.lt k h)))
  gi_wp2_with fail
  refine (callsIn_wide.2 (only_makes _ _ C1 _ xs p _ (.inr hT1) hkv1 hR)).mono ?_
  rintro e WL ⟨g2, lb2, C2, rfl, eg, hT2, hC2, hb2⟩
  gi_wp2
  have hs1 := hb1.size
  have hs2 := hb2.size
  simp at hs1
  have hBL : Below (w.heap.size + 1) (w.alloc (.cells #[.slice none 0 0] 44)) WL := by
    have := hb1.trans (hb2.mono hb1.size); simpa using this
  have q0 : Boxed WL w.heap.size 44 (.slice none 0 0) := (hBL.block _ (by omega)).trans (Boxed.new w 44 _)
  have qB : Blk WL T 48 cs := (hb.alloc _).agree (hBL.block _ (by omega))
  have hBW : Below w.heap.size w WL := hb0.trans (hBL.mono (by omega))
  have hfl : (xs.filter p).length ≤ n := by rw [← HN.out]; exact List.length_filter_le _ _
  refine wp_range (gf := g2) (lb := lb2) rfl eg hT2 (fun _ => rfl) (fun pre => Held 44 3 w.heap.size (ints pre)) (fun _ _ _ _ => False) (fun s O W h => Held.fits 44 3 _ (ints s) O W h) (fun _ => fits_none)
    (fun k => k = w.heap.size ∨ (Value.slice none 0 0).ownBlock = some k) ⟨_, rfl, q0, R.Row.nil _ _⟩ ?_
    (fun x => { tmps := #[.pointer (some ⟨T, o, none⟩), .func (.func kf) #[] kc, undef, undef, .int .i64 0, .int .i64 n, at0 w.heap.size, .int .i64 x, .pointer (some ⟨T, o, none⟩), .bool false, .bool false, .func (.func kf) #[] kc, .bool false, .bool false, .pointer (some ⟨T, o, none⟩), .int .i64 n, .pointer (some ⟨T, o, none⟩), .pointer (some ⟨T, o, none⟩), .pointer (some ⟨T, o, none⟩), .slice a n cap, .func (.func g1) #[] lb1, .func (.func kf) #[] kc, .func (.func g2) #[] lb2, .int .i64 x, undef, undef, undef, undef, undef, undef, undef, undef, undef, undef, undef, undef], defers := [] }) ?assign ?body ?done ?stop
  case assign =>
    intro l x W K hK
    gi_wp2
    exact hK
  case body =>
    rintro l pre x O W hpre hk hL ⟨v, rfl, hv, hrow⟩
    have hl1 : pre.length + 1 ≤ 1000000000 := by have := hpre.length_le; simp at this; omega
    rw [ints_len] at hrow
    obtain ⟨a1, cap1, rfl, _, _⟩ := hrow.form
    have hc := hv.cell
    gi_wp2_with (gi_at_builtin; refine R.wpListIn_append_row _ rfl _ _ 44 rfl 3 i0 (.int .i64 0) 8 Tryz.underlying44 hi hz0 hz1 hz2 rfl (by decide) _ _ _ rfl (hrow.alloc _) ⟨W.heap.size, 0, none⟩ 1 (.int .i64 x) rfl (by simp) (by simp [Value.oneCell']) hl1 ?_; intro v' w1 hr' hg hlat; obtain ⟨a', cap', rfl, _, _⟩ := hr'.form; obtain ⟨hv1, hT⟩ := Held.appended (by decide) hv hrow (ys := ints (pre ++ [x])) (by simpa using hr') hg hlat; have hc1 := hv1.cell; have hf1 := hv1.frozen)
    obtain ⟨O', k', l', h'⟩ := hT
    exact ⟨O', k', l', h'⟩
  case done =>
    rintro D O W hD hnD hk hL ⟨v, rfl, hv, hrow⟩ hK
    have hbB : Blk W T 48 cs := qB.agree (hk.block _ qB.lt (fun h => by rcases h with h | h; omega; cases h))
    rw [ints_len] at hrow
    obtain ⟨m, hm⟩ : ∃ m, (xs.filter p).length = m := ⟨_, rfl⟩
    rw [hm] at hrow hfl
    have HM := Lib.hid hm
    clear hm
    obtain ⟨a1, cap1, rfl, _, _⟩ := hrow.form
    have hc := hv.cell
    have hcB : W.cell? ⟨T, o, none⟩ = some (.slice a n cap) := (hbB.cell o).trans ((hb.cell o).symm.trans c)
    have hfB := hbB.frozen o
    have hBne : w.heap.size ≠ T := by omega
    have hT2 := hbB.set o (.slice a1 m cap1)
    have hv' : Blk W w.heap.size 44 #[.slice a1 m cap1] := hv
    have hc2 : (W.setCell ⟨T, o, none⟩ (.slice a1 m cap1)).cell? ⟨w.heap.size, 0, none⟩ = some (.slice a1 m cap1) := by
      have := (hv'.far (p := ⟨T, o, none⟩) hBne (.slice a1 m cap1)).cell 0
      simpa using this
    clear hv'
    have hK2 := (KeepsOthers.setCell W ⟨T, o, none⟩ (.slice a1 m cap1)).same D _ hK rfl
    have hkk : Keeps (fun k => k = T ∨ (Value.slice a n cap).ownBlock = some k) w ((W.setCell ⟨T, o, none⟩ (.slice a1 m cap1)).putObj D (.deferred none)) := by
      refine ((((Keeps.of_below (O := fun k => k = T ∨ (Value.slice a n cap).ownBlock = some k) hBW)).trans (hk.mono (O' := fun k => k = w.heap.size) (fun k h => ?_)) (fun k h => .inr (by omega))).setCell (p := ⟨T, o, none⟩) (.inl (.inl rfl)) _).putObj (.inr (by omega)) _
      rcases h with h | h
      · exact .inl h
      · cases h
    have hrT : (Value.slice a1 m cap1).ownBlock ≠ some T := fun e => by
      obtain ⟨cur, hb'⟩ := rrow_blk hrow e
      exact Blk.ne hb' hbB (by decide) rfl
    gi_wp2
    refine ⟨by simp, .inl ⟨_, _, rfl, run_takeDeferred hK2, ?_⟩⟩
    refine ⟨_, results_tmp rfl _ _ _, ⟨_, rfl⟩, .slice a1 m cap1, fun cs' h' => ?_, ?_, by rw [HN.out]; exact hkk, fun k h => ?_⟩
    · obtain rfl : cs' = cs := by
        have := (show w.heap[T]? = _ from h').symm.trans hb
        simpa using this
      exact hT2.agree (World.putObj_heap_other (fun e => by omega))
    · rw [HM.out]
      exact (hrow.setCell (p := ⟨T, o, none⟩) hrT _).agree fun k h => World.putObj_heap_other (fun e => hnD (by subst e; exact .inr h))
    · rcases hL k (.inr h) with (h2 | h2) | h2
      · omega
      · cases h2
      · omega
  case stop =>
    rintro D c pre O W _ _ _ _ _ h _
    exact h.elim
  · intro k hk h
    rcases h with rfl | h
    · rcases hC2 _ hk with (h | h) | h
      · rcases hC1 _ h with h | h
        · exact h
        · simp at h; omega
      · have := hkv.lt _ h; omega
      · omega
    · cases h
end Go.Proofs.YtemikojaldoofaaGreat.S
