/- The arguments as lists; the walk of FeedTells. -/
import Derived.Test.YtnghbdokehfjgaaNew
import Derived.Deep.RegionWith
import Derived.Deep.Cut
import Derived.Deep.CutRange
import Derived.Deep.QuietTactic
import Derived.BigQuiet
import Derived.Deep.RegionHeld3
namespace Go.Proofs.Ytnghbdokehfjgaa
open Go.ChangeShapes Go.WideShapes Go.ChangeAt Go.RowKit
set_option linter.unusedVariables false

/-- The frame's word on a slice of integers that came in. -/
def IsRow (k : IntKind) (w : World) (a : Option Addr) (len cap : Nat) (zs : List Int) : Prop :=
  (a = none ∧ len = 0 ∧ cap = 0 ∧ zs = []) ∨
  ∃ x, a = some x ∧ len ≤ cap ∧ cap ≤ maxLen ∧ zs.length = cap ∧ (∀ i, i < zs.length → w.cell? (x.add i) = some (.int k (zs.getD i 0))) ∧ ∀ n ∈ zs, (Lit.int k n).wf = true
/-- A slice of integers: its n elements. -/
structure Row (k : IntKind) (w : World) (a : Option Addr) (n cap : Nat) (zs : List Int) : Prop where
  len : zs.length = n
  room : n ≤ cap ∧ cap ≤ maxLen
  form : (a = none ∧ n = 0 ∧ cap = 0) ∨ ∃ x, a = some x ∧ ∀ j u, (zs.map (Value.int k))[j]? = some u → w.cell? (x.add j) = some u
  cell : ∀ j, j < n → ∃ b off, a = some ⟨b, off, none⟩ ∧ w.cell? ⟨b, off + j, none⟩ = some (.int k (byteAt zs j))
  wf : ∀ x ∈ zs, (Lit.int k x).wf = true
theorem row_of {k : IntKind} {w : World} {a : Option Addr} {n cap : Nat} {zs : List Int} (h : IsRow k w a n cap zs) : Row k w a n cap (zs.take n) := by
  rcases h with ⟨rfl, rfl, rfl, rfl⟩ | ⟨x, rfl, hl, hm, hz, hc, hw⟩
  · exact ⟨rfl, ⟨Nat.le_refl _, by simp [maxLen]⟩, .inl ⟨rfl, rfl, rfl⟩, fun j hj => absurd hj (by omega), fun x hx => by simp at hx⟩
  · refine ⟨by rw [List.length_take]; omega, ⟨hl, hm⟩, .inr ⟨x, rfl, fun j u hj => ?_⟩, fun j hj => ?_, fun y hy => hw y (List.mem_of_mem_take hy)⟩
    · rw [List.getElem?_map, Option.map_eq_some_iff] at hj
      obtain ⟨y, hy, rfl⟩ := hj
      rw [List.getElem?_take] at hy
      split at hy
      · next hjn =>
        rw [hc j (by omega)]
        simp [List.getD_eq_getElem?_getD, hy]
      · cases hy
    · have h0 := hc 0 (by omega)
      have hj' := hc j (by omega)
      obtain ⟨b, off, spot⟩ := x
      have hspot : spot = none := by simpa [Addr.add] using World.cell?_spot h0
      subst hspot
      refine ⟨b, off, rfl, ?_⟩
      rw [← Go.WideShapes.add_plain, hj']
      simp [byteAt, List.getD_eq_getElem?_getD, hj]
theorem Row.cells {k : IntKind} {w : World} {a : Option Addr} {n cap : Nat} {zs : List Int} (h : Row k w a n cap zs) {W : World} (b : Below w.heap.size w W) (j : Nat) (hj : j < n) :
    ∃ bb off, a = some ⟨bb, off, none⟩ ∧ W.cell? ⟨bb, off + j, none⟩ = some (.int k (byteAt zs j)) := by
  obtain ⟨bb, off, e, hc⟩ := h.cell j hj
  exact ⟨bb, off, e, (b.cell (p := ⟨bb, off + j, none⟩) (World.block_lt_of_cell? w _ hc)).trans hc⟩
theorem Row.bytes {w : World} {a : Option Addr} {n cap : Nat} {zs : List Int} (h : Row .u8 w a n cap zs) : Bytes zs := by
  intro j
  unfold byteAt
  by_cases hj : j < zs.length
  · have := h.wf (zs[j]) (List.getElem_mem hj)
    simp [Lit.wf, IntKind.min, IntKind.max, IntKind.signed, IntKind.bits] at this
    simp [List.getElem?_eq_getElem hj]

    omega
  · simp [List.getElem?_eq_none (show zs.length ≤ j by omega)]
theorem new_row {a : Option Addr} {n cap : Nat} {zs : List Int} {w : World} (h : Row .u8 w a n cap zs) (h1 : n ≤ 5000) : Calls Try.prog 6 #[.slice a n cap] w (NewF n zs w) := by
  rcases h.form with ⟨rfl, rfl, rfl⟩ | ⟨x, rfl, hr⟩
  · have := h.len
    obtain rfl : zs = [] := by simpa using this
    exact new_nil w
  · exact new_some x n cap zs w h.len h1 hr

/-- What the loop of FeedTells keeps: the feed, u bytes asked for. -/
structure St (B : Nat) (ad : Option Addr) (n cap : Nat) (bs : List Int) (u : Nat) (w W : World) : Prop where
  at_ : FAt B ad n cap bs u W
  low : w.heap.size ≤ B
  below : Below w.heap.size w W
theorem St.then {B : Nat} {ad : Option Addr} {n cap : Nat} {bs : List Int} {u u' : Nat} {w W W' : World} (h : St B ad n cap bs u w W) (f : FAt B ad n cap bs u' W') (o : Only B W W') : St B ad n cap bs u' w W' :=
  ⟨f, h.low, h.below.trans (o.below h.below.size h.low)⟩
theorem St.later {B : Nat} {ad : Option Addr} {n cap : Nat} {bs : List Int} {u : Nat} {w W W' : World} (h : St B ad n cap bs u w W) (b : Below W.heap.size W W') : St B ad n cap bs u w W' :=
  ⟨h.at_.below b, h.low, h.below.trans (b.mono h.below.size)⟩
theorem St.drew {B : Nat} {ad : Option Addr} {n cap : Nat} {bs : List Int} {u : Nat} {w W : World} (h : St B ad n cap bs u w W) : St B ad n cap bs u w W.drew :=
  ⟨h.at_.agree h.at_.box (Nat.le_refl _) fun _ _ _ _ _ _ => rfl, h.low, h.below.drew⟩
abbrev Good (w : World) (e : Ending) (w' : World) : Prop := e = .returned (.bool true) ∧ Below w.heap.size w w'

set_option maxRecDepth 100000 in
theorem tells_many (a0 : Option Addr) (n c0 : Nat) (a1 : Option Addr) (m c1 : Nat) (w : World) (h : 5000 < n ∨ 500 < m) : Calls Try.prog 3 #[.slice a0 n c0, .slice a1 m c1] w (Good w) := by
  have L := lives_any w
  by_cases h0 : 5000 < n
  · go_enter Try.func3, Try.ntmps3
    go_wp2_with fail
    refine L.mono ?_
    rintro e w' ⟨rfl, hb⟩
    go_wp2
    go_ret
    exact ⟨rfl, hb⟩
  · have h1 : 500 < m := by omega
    go_enter Try.func3, Try.ntmps3
    go_wp2_with fail
    refine L.mono ?_
    rintro e w' ⟨rfl, hb⟩
    go_wp2
    go_ret
    exact ⟨rfl, hb⟩

set_option maxRecDepth 100000 in
set_option maxHeartbeats 4000000 in
theorem tells_main (a0 : Option Addr) (n c0 : Nat) (bs : List Int) (a1 : Option Addr) (m c1 : Nat) (F : Nat → Int) (w : World) (h0 : n ≤ 5000) (h1 : m ≤ 500)
    (hR : Row .u8 w a0 n c0 bs) (hb : Bytes bs) (hF : ∀ W, Below w.heap.size w W → ∀ j, j < m → ∃ b off, a1 = some ⟨b, off, none⟩ ∧ W.cell? ⟨b, off + j, none⟩ = some (.int .i64 (F j)))
    (r0 : c0 ≤ maxLen) (r1 : c1 ≤ maxLen) (r2 : n ≤ c0) (r3 : m ≤ c1) :
    Calls Try.prog 3 #[.slice a0 n c0, .slice a1 m c1] w (Good w) := by
  have N := new_row hR h0
  have HR := Lib.hid hR
  have HB := Lib.hid hb
  have HF := Lib.hid hF
  unfold maxLen at r0 r1
  clear hR hb hF
  go_enter Try.func3, Try.ntmps3
  go_wp2_with fail
  refine N.mono ?_
  rintro e w1 ⟨B, ad, cap, rfl, hb, hf, hB, had⟩
  have S0 : Hid (St B ad n cap bs 0 w w1) := Lib.hid ⟨hf, hB, hb⟩
  clear N hb hf hB had
  go_wp2
  go_loopw [6, 7] (fun us i wr => ∃ u j : Nat, j ≤ m ∧ u ≤ j ∧ us = .int .i64 u ∧ i = .int .i64 j ∧ Hid (St B ad n cap bs u w wr)) (fun _ i _ => m - (intOf i).toNat)
  case atStart => exact ⟨0, 0, by omega, by omega, rfl, rfl, S0⟩
  case round =>
    obtain ⟨u, j, hj, hu, rfl, rfl, HS⟩ := hrel
    clear S0
    by_cases hlt : j < m
    · go_upto_if 30 with fail
      have hcell := HS.out.below
      go_cut [8] from 21 to 92 (fun s8 wx => s8 = .int .u8 (byteAt bs u) ∧ wr = wx)
      case first =>
        by_cases hn : u < n
        · obtain ⟨bb, off, rfl, q⟩ := HR.out.cells hcell u hn
          clear hcell
          generalize byteAt bs u = x at *
          go_wp2
          go_meet
          exact ⟨rfl, rfl⟩
        · have hx : byteAt bs u = 0 := by
            have := HR.out.len
            simp [byteAt, List.getD_eq_getElem?_getD, List.getElem?_eq_none (show bs.length ≤ u by omega)]
          clear hcell
          go_wp2
          go_meet
          exact ⟨by rw [hx], rfl⟩
      case rest =>
      obtain ⟨rfl, rfl⟩ := hcut
      obtain ⟨bb, off, rfl, q⟩ := HF.out _ hcell j hlt
      obtain ⟨b0, b1⟩ := HB.out u
      clear hcell
      generalize F j = a at *
      have hw := one_more (u := u) (by omega)
      by_cases k1 : 0 < a
      · have A := fun W (g : St B ad n cap bs u w W) => next_any B ad n cap bs u a W g.at_ HB.out (by omega) k1
        obtain ⟨q1, q2⟩ := rem_of (n := a) b0 b1
        have q3 : ¬ a = 0 := by omega
        generalize byteAt bs u = x at *
        have S2 := HS.out.drew
        clear HS
        go_wp2_with fail
        go_region_held3 (fun _ => True) (trivial)
          (first | (go_at_call 7; refine (A _ (by assumption)).mono ?_; rintro e V' ⟨rfl, hg, ho⟩; have S' := St.then (by assumption) hg ho; clear hg ho))
        all_goals
          go_wp2_with fail
          refine (used_any B ad n cap bs (u + 1) _ (St.at_ (w := w) (by assumption))).mono ?_
          rintro e w' ⟨rfl, rfl⟩
          have HS' : Hid (St B ad n cap bs (u + 1) w _) := Lib.hid (by assumption)
          go_wp2
          go_roundw
          case rel => exact ⟨u + 1, j + 1, by omega, by omega, by go_num, by go_num, HS'⟩
          case measure => simp [intOf]; omega
      have S1 := HS.out
      clear HS
      by_cases k2 : a = 0
      · subst k2
        go_wp2_with fail
        refine (next_low _ 0 _ (by decide)).mono ?_
        rintro e w' ⟨rfl, rfl⟩
        go_wp2_with fail
        refine (level_low _ 0 _ (by decide)).mono ?_
        rintro e w' ⟨rfl, rfl⟩
        go_wp2_with fail
        refine (next_low _ (-5) _ (by decide)).mono ?_
        rintro e w' ⟨rfl, rfl⟩
        go_wp2_with fail
        refine (level_low _ (-5) _ (by decide)).mono ?_
        rintro e w' ⟨rfl, rfl⟩
        have U := used_any B ad n cap bs u _ S1.at_
        have HS' := Lib.hid S1
        clear S1
        go_wp2_with fail
        refine U.mono ?_
        rintro e w' ⟨rfl, rfl⟩
        clear U
        go_wp2
        go_roundw
        case rel => exact ⟨u, j + 1, by omega, by omega, rfl, by go_num, HS'⟩
        case measure => simp [intOf]; omega
      by_cases k3 : -1000 ≤ a
      · have hm := IntWalk.i64_in (-a) (by omega)
        have A := level_any B ad n cap bs u (-a) _ S1.at_ HB.out (by omega) (by omega)
        obtain ⟨c, hc⟩ : ∃ c : Nat, byteAt bs u = c := ⟨(byteAt bs u).toNat, by omega⟩
        have hmin := min_lev (byteAt bs u) (-a)
        rw [hc] at A hmin b1 ⊢
        simp only [Int.toNat_natCast] at hmin
        have O := ones_any c
        have hle := low_le 8 c
        have hw3 : IntKind.i64.wrap (1 + ((low 8 c : Nat) : Int)) = 1 + ((low 8 c : Nat) : Int) := IntWalk.i64_in _ (by omega)
        have HO := Lib.hid fun w => O w (by omega)
        have HA := Lib.hid A
        have HM := Lib.hid hmin
        clear O A hmin
        generalize lev (c : Int) (-a) = y at *
        generalize low 8 c = x at *
        go_wp2_with fail
        refine HA.out.mono ?_
        rintro e w2 ⟨rfl, hg, ho⟩
        have HS2 := Lib.hid (S1.then hg ho)
        clear hg ho HA S1
        go_wp2_with fail
        refine (HO.out _).mono ?_
        rintro e w' ⟨rfl, rfl⟩
        clear HO
        have hmin := HM.out
        clear HM
        go_wp2_with fail
        refine (used_any B ad n cap bs (u + 1) _ HS2.out.at_).mono ?_
        rintro e w' ⟨rfl, rfl⟩
        clear hmin
        go_wp2
        go_roundw
        case rel => exact ⟨u + 1, j + 1, by omega, by omega, by go_num, by go_num, HS2⟩
        case measure => simp [intOf]; omega
      · have U := used_any B ad n cap bs u _ S1.at_
        have HS' := Lib.hid S1
        clear S1
        go_wp2_with fail
        refine U.mono ?_
        rintro e w' ⟨rfl, rfl⟩
        clear U
        go_wp2
        go_roundw
        case rel => exact ⟨u, j + 1, by omega, by omega, rfl, by go_num, HS'⟩
        case measure => simp [intOf]; omega
    · go_wp2_with fail
      refine (lives_any _).mono ?_
      rintro e w' ⟨rfl, hb⟩
      have hE := HS.out.below.trans (hb.mono HS.out.below.size)
      clear hb
      go_wp2
      go_ret
      exact ⟨rfl, hE⟩

theorem tells_all (a0 : Option Addr) (len0 cap0 : Nat) (z0 : List Int) (a1 : Option Addr) (len1 cap1 : Nat) (z1 : List Int) (w : World) (w0 : IsRow .u8 w a0 len0 cap0 z0) (w1 : IsRow .i64 w a1 len1 cap1 z1) :
    Calls Try.prog 3 #[.slice a0 len0 cap0, .slice a1 len1 cap1] w (Good w) := by
  by_cases h : 5000 < len0 ∨ 500 < len1
  · exact tells_many a0 len0 cap0 a1 len1 cap1 w h
  have R0 := row_of w0
  have R1 := row_of w1
  exact tells_main a0 len0 cap0 (z0.take len0) a1 len1 cap1 (byteAt (z1.take len1)) w (by omega) (by omega) R0 R0.bytes (fun W b j hj => R1.cells b j hj) R0.room.2 R1.room.2 R0.room.1 R1.room.1
end Go.Proofs.Ytnghbdokehfjgaa
