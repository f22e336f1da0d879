/- What the calls of a pile of numbers do. -/
import Derived.Test.YtdhakdgbeokebaaOnly
import Derived.Recover
import Derived.Defers
namespace Go.Proofs.Ytdhakdgbeokebaa
open Go.RowKit Go.Shelf
set_option linter.unusedVariables false

theorem len_any (B n cap : Nat) (a : Option Addr) (w : World) (hb : Boxed w B 26 (.slice a n cap)) (hn : n ≤ 9223372036854775807) :
    Calls Try.prog 16 #[at0 B] w fun e w' => e = .returned (.int .i64 n) ∧ w = w' := by
  have c := hb.cell
  go_enter Try.func16, Try.ntmps16
  go_wp2
  go_ret
  exact ⟨rfl, rfl⟩

theorem at_no (B n cap : Nat) (a : Option Addr) (i : Int) (w : World) (hb : Boxed w B 26 (.slice a n cap)) (hn : n ≤ 9223372036854775807) (hi : i < 0 ∨ (n : Int) ≤ i) :
    Calls Try.prog 13 #[at0 B, .int .i64 i] w fun e w' => e = .returned (.tuple #[.int .i64 0, .bool false]) ∧ w = w' := by
  have c := hb.cell
  by_cases h0 : i < 0
  · go_enter Try.func13, Try.ntmps13
    go_wp2
    go_ret2
    exact ⟨rfl, rfl⟩
  · have h1 : (n : Int) ≤ i := by omega
    go_enter Try.func13, Try.ntmps13
    go_wp2_with (go_at_call 16; refine (len_any B n cap a _ hb hn).mono ?_; rintro e w' ⟨rfl, rfl⟩)
    go_ret2
    exact ⟨rfl, rfl⟩

theorem at_yes (B n cap g off : Nat) (i : Nat) (x : Int) (w : World) (hb : Boxed w B 26 (.slice (some ⟨g, off, none⟩) n cap)) (hn : n ≤ 9223372036854775807) (hi : i < n) (hx : w.cell? ⟨g, off + i, none⟩ = some (.int .i64 x)) :
    Calls Try.prog 13 #[at0 B, .int .i64 i] w fun e w' => e = .returned (.tuple #[.int .i64 x, .bool true]) ∧ w = w' := by
  have c := hb.cell
  have h0 : ¬ (i : Int) < 0 := by omega
  go_enter Try.func13, Try.ntmps13
  go_wp2_with (go_at_call 16; refine (len_any B n cap _ _ hb hn).mono ?_; rintro e w' ⟨rfl, rfl⟩)
  go_ret2
  exact ⟨rfl, rfl⟩

/-- What a call that hands nothing back, or (x, ok), leaves of a pile. -/
def Pushed (B : Nat) (xs : List Int) (O : Nat → Prop) (w : World) (e : Ending) (w' : World) : Prop := e = .returned (.tuple #[]) ∧ Turned 26 3 B (ints xs) O w w'
def Took1 (B : Nat) (x : Int) (xs : List Int) (O : Nat → Prop) (w : World) (e : Ending) (w' : World) : Prop := e = .returned (.tuple #[.int .i64 x, .bool true]) ∧ Turned 26 3 B (ints xs) O w w'

theorem ints_len (xs : List Int) : (ints xs).length = xs.length := by simp [ints]

set_option maxHeartbeats 1000000 in
theorem push_any (B : Nat) (xs : List Int) (x : Int) (O : Nat → Prop) (w : World) (hp : Held 26 3 B (ints xs) O w) (hl : xs.length + 1 ≤ 1000000000) :
    Calls Try.prog 7 #[at0 B, .int .i64 x] w (Pushed B (xs ++ [x]) O w) := by
  obtain ⟨v, rfl, hb, hr⟩ := hp
  obtain ⟨i0, hi, hz0, hz1, hz2⟩ := info_parts Try.info3
  rw [ints_len] at hr
  obtain ⟨n, hn⟩ : ∃ n, xs.length = n := ⟨_, rfl⟩
  rw [hn] at hr hl
  have HN := Lib.hid hn
  clear hn
  obtain ⟨a, cap, rfl, hc, hm⟩ := hr.form
  unfold maxLen at hm
  have c := hb.cell
  go_enter Try.func7, Try.ntmps7
  go_wp2_with (at_builtin; refine wpList_append_row _ rfl _ _ 24 rfl 3 i0 (.int .i64 0) 8 Try.underlying24 hi hz0 hz1 hz2 rfl (by decide) _ n (ints xs) rfl (hr.alloc _) ⟨w.heap.size, 0, none⟩ 1 (.int .i64 x) rfl (by simp) (by simp [Value.oneCell']) hl ?_; intro v' w1 hr' hg hlat; obtain ⟨a', cap', rfl, hc', hm'⟩ := hr'.form; obtain ⟨hb1, hT⟩ := Held.appended (by decide) hb hr (ys := ints (xs ++ [x])) (by simpa [HN.out] using hr') hg hlat; have c1 := hb1.cell; have f1 := hb1.frozen)
  go_end0
  exact ⟨rfl, hT⟩

theorem pop_no (B cap : Nat) (a : Option Addr) (w : World) (hb : Boxed w B 26 (.slice a 0 cap)) :
    Calls Try.prog 8 #[at0 B] w fun e w' => e = .returned (.tuple #[.int .i64 0, .bool false]) ∧ w = w' := by
  go_enter Try.func8, Try.ntmps8
  go_wp2_with (first
    | (go_at_call 16; refine (len_any B 0 cap a _ hb (by omega)).mono ?_; rintro e w' ⟨rfl, rfl⟩)
    | (go_at_call 13; refine (at_no B 0 cap a (-1) _ hb (by omega) (by omega)).mono ?_; rintro e w' ⟨rfl, rfl⟩))
  go_ret2
  exact ⟨rfl, rfl⟩
theorem shift_no (B cap : Nat) (a : Option Addr) (w : World) (hb : Boxed w B 26 (.slice a 0 cap)) :
    Calls Try.prog 10 #[at0 B] w fun e w' => e = .returned (.tuple #[.int .i64 0, .bool false]) ∧ w = w' := by
  go_enter Try.func10, Try.ntmps10
  go_wp2_with (go_at_call 13; refine (at_no B 0 cap a 0 _ hb (by omega) (by omega)).mono ?_; rintro e w' ⟨rfl, rfl⟩)
  go_ret2
  exact ⟨rfl, rfl⟩

theorem zero3 (w : World) : (zeroValue 3).run Try.prog w = .ok (.int .i64 0) w := by kernel_rfl
/-- 'clear' of one number. -/
theorem clear_one (w : World) (g o c : Nat) (u : Value) (hu : w.cell? ⟨g, o, none⟩ = some u) (hf : w.frozen? ⟨g, o, none⟩ = false) :
    (Builtin.clear_ #[24] 0 #[.slice (some ⟨g, o, none⟩) 1 c]).run Try.prog w = .ok (.tuple #[]) (w.setCell ⟨g, o, none⟩ (.int .i64 0)) :=
  Lib.run_clear_slice (P := Try.prog) w 24 3 0 (.int .i64 0) Try.underlying24 zero3 rfl rfl g o 1 c (by omega) (fun j hj => by
    have e : j = 0 := by omega
    subst e
    simp [hu]) (fun j hj => by
    have e : j = 0 := by omega
    subst e
    simp [hf])

set_option maxHeartbeats 1000000 in
theorem pop_yes (B : Nat) (xs : List Int) (x : Int) (O : Nat → Prop) (w : World) (hp : Held 26 3 B (ints (xs ++ [x])) O w) :
    Calls Try.prog 8 #[at0 B] w (Took1 B x xs O w) := by
  obtain ⟨v, rfl, hb, hr⟩ := hp
  rw [ints_len, List.length_append, List.length_singleton] at hr
  obtain ⟨k, hk⟩ : ∃ k, xs.length = k := ⟨_, rfl⟩
  rw [hk] at hr
  have HN := Lib.hid hk
  clear hk
  obtain ⟨g, off, cap, rfl, hc, hm, hcell, hf⟩ := hr.at_ (by omega)
  have hm2 : cap ≤ 9223372036854775807 := hm
  have c := hb.cell
  have c1 : w.cell? ⟨g, off + k, none⟩ = some (.int .i64 x) := by
    rw [hcell k (by omega)]; simp [HN.out]
  have hq := clear_one w g (off + k) (cap - k) _ c1 (hf _)
  have hgB : B ≠ g := fun e => hr.not_box hb (by decide) (by rw [e]; rfl)
  have hr2 : Row (w.setCell ⟨g, off + k, none⟩ (.int .i64 0)) 3 (.slice (some ⟨g, off, none⟩) k cap) k (ints xs) := by
    have := hr.init.set_out (k := off + k) (.inr (Nat.le_refl _)) (.int .i64 0)
    simpa using this
  have hb2 : Boxed (w.setCell ⟨g, off + k, none⟩ (.int .i64 0)) B 26 (.slice (some ⟨g, off, none⟩) (k + 1) cap) := (Below.heap_setCell _ _ _ _ hgB).trans hb
  have hk2 : Keeps (fun j => j = B ∨ (Value.slice (some ⟨g, off, none⟩) (k + 1) cap).ownBlock = some j) w (w.setCell ⟨g, off + k, none⟩ (.int .i64 0)) := (Keeps.refl _ w).setCell (.inl (.inr rfl)) _
  have hr3 := Lib.hid hr2
  clear hcell hf hr hr2 hm
  have c2 := hb2.cell
  have f2 := hb2.frozen
  generalize w.setCell ⟨g, off + k, none⟩ (.int .i64 0) = w2 at *
  go_enter Try.func8, Try.ntmps8
  go_wp2_with (first
    | (go_at_call 16; refine (len_any B (k + 1) cap _ _ hb (by omega)).mono ?_; rintro e w' ⟨rfl, rfl⟩)
    | (go_at_call 13; refine (at_yes B (k + 1) cap g off k x _ hb (by omega) (by omega) c1).mono ?_; rintro e w' ⟨rfl, rfl⟩))
  go_ret2
  refine ⟨rfl, fun j => j = B ∨ (Value.slice (some ⟨g, off, none⟩) k cap).ownBlock = some j, hk2.setCell (p := ⟨B, 0, none⟩) (.inl (.inl rfl)) _, fun j hj => .inl hj, _, rfl, hb2.set _, ?_⟩
  rw [ints_len, HN.out]
  exact hr3.out.setCell (p := ⟨B, 0, none⟩) (fun e => hgB (by simpa [Value.ownBlock] using e.symm)) _

theorem at_first (B n cap g off : Nat) (x : Int) (w : World) (hb : Boxed w B 26 (.slice (some ⟨g, off, none⟩) n cap)) (hn : n ≤ 9223372036854775807) (hi : 0 < n) (hx : w.cell? ⟨g, off, none⟩ = some (.int .i64 x)) :
    Calls Try.prog 13 #[at0 B, .int .i64 0] w fun e w' => e = .returned (.tuple #[.int .i64 x, .bool true]) ∧ w = w' := at_yes B n cap g off 0 x w hb hn hi hx

set_option maxHeartbeats 1000000 in
theorem shift_yes (B : Nat) (xs : List Int) (x : Int) (O : Nat → Prop) (w : World) (hp : Held 26 3 B (ints (x :: xs)) O w) :
    Calls Try.prog 10 #[at0 B] w (Took1 B x xs O w) := by
  obtain ⟨v, rfl, hb, hr⟩ := hp
  rw [ints_len, List.length_cons] at hr
  obtain ⟨k, hk⟩ : ∃ k, xs.length = k := ⟨_, rfl⟩
  rw [hk] at hr
  have HN := Lib.hid hk
  clear hk
  obtain ⟨g, off, cap, rfl, hc, hm, hcell, hf⟩ := hr.at_ (by omega)
  have hm2 : cap ≤ 9223372036854775807 := hm
  have c := hb.cell
  have c1 : w.cell? ⟨g, off, none⟩ = some (.int .i64 x) := by
    have := hcell 0 (by omega); simpa using this
  have hq := clear_one w g off cap _ c1 (hf _)
  have hgB : B ≠ g := fun e => hr.not_box hb (by decide) (by rw [e]; rfl)
  have hb2 : Boxed (w.setCell ⟨g, off, none⟩ (.int .i64 0)) B 26 (.slice (some ⟨g, off, none⟩) (k + 1) cap) := (Below.heap_setCell _ _ _ _ hgB).trans hb
  have hk2 : Keeps (fun j => j = B ∨ (Value.slice (some ⟨g, off, none⟩) (k + 1) cap).ownBlock = some j) w (w.setCell ⟨g, off, none⟩ (.int .i64 0)) := (Keeps.refl _ w).setCell (.inl (.inr rfl)) _
  by_cases h1 : cap = 1
  · subst h1
    obtain rfl : k = 0 := by omega
    obtain rfl : xs = [] := List.eq_nil_of_length_eq_zero HN.out
    have hr2 := hr.none_.set_out (k := off) (.inr (Nat.le_refl _)) (.int .i64 0)
    have hr3 := Lib.hid hr2
    clear hcell hf hr hr2 hm HN
    have c2 := hb2.cell
    have f2 := hb2.frozen
    generalize w.setCell ⟨g, off, none⟩ (.int .i64 0) = w2 at *
    go_enter Try.func10, Try.ntmps10
    go_wp2_with (go_at_call 13; refine (at_first B 1 1 g off x _ hb (by omega) (by omega) c1).mono ?_; rintro e w' ⟨rfl, rfl⟩)
    go_ret2
    refine ⟨rfl, fun j => j = B ∨ (Value.slice (some ⟨g, off, none⟩) 0 0).ownBlock = some j, hk2.setCell (p := ⟨B, 0, none⟩) (.inl (.inl rfl)) _, fun j hj => .inl hj, _, rfl, hb2.set _, ?_⟩
    exact hr3.out.setCell (p := ⟨B, 0, none⟩) (fun e => hgB (by simpa [Value.ownBlock] using e.symm)) _
  · have hr2 := hr.tail.set_out (k := off) (.inl (by omega)) (.int .i64 0)
    have hr3 := Lib.hid hr2
    have h2 : 1 < cap := by omega
    clear hcell hf hr hr2 hm
    have c2 := hb2.cell
    have f2 := hb2.frozen
    generalize w.setCell ⟨g, off, none⟩ (.int .i64 0) = w2 at *
    go_enter Try.func10, Try.ntmps10
    go_wp2_with (go_at_call 13; refine (at_first B (k + 1) cap g off x _ hb (by omega) (by omega) c1).mono ?_; rintro e w' ⟨rfl, rfl⟩)
    go_ret2
    refine ⟨rfl, fun j => j = B ∨ (Value.slice (some ⟨g, off + 1, none⟩) k (cap - 1)).ownBlock = some j, hk2.setCell (p := ⟨B, 0, none⟩) (.inl (.inl rfl)) _, fun j hj => .inl hj, _, rfl, hb2.set _, ?_⟩
    rw [ints_len, HN.out]
    exact hr3.out.setCell (p := ⟨B, 0, none⟩) (fun e => hgB (by simpa [Value.ownBlock] using e.symm)) _

end Go.Proofs.Ytdhakdgbeokebaa
