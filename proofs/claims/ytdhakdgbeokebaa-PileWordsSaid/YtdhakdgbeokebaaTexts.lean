/- The calls of a pile of texts that the law PileWords makes. -/
import Derived.Test.YtdhakdgbeokebaaHas
namespace Go.Proofs.Ytdhakdgbeokebaa
open Go.RowKit Go.Shelf
set_option linter.unusedVariables false

theorem Try.info9 : (Try.prog.info? 9).map (fun i => (i.zero, i.size, i.bytes)) = some (some (.string ⟨#[]⟩), 1, 16) := by kernel_rfl
/-- A list's texts, as they lie. -/
abbrev strs (xs : List ByteArray) : List Value := xs.map Value.string
theorem strs_len (xs : List ByteArray) : (strs xs).length = xs.length := by simp [strs]
def PushedS (B : Nat) (xs : List ByteArray) (O : Nat → Prop) (w : World) (e : Ending) (w' : World) : Prop := e = .returned (.tuple #[]) ∧ Turned 44 9 B (strs xs) O w w'

theorem lenS_any (B n cap : Nat) (a : Option Addr) (w : World) (hb : Boxed w B 44 (.slice a n cap)) (hn : n ≤ 9223372036854775807) :
    Calls Try.prog 22 #[at0 B] w fun e w' => e = .returned (.int .i64 n) ∧ w = w' := by
  have c := hb.cell
  go_enter Try.func22, Try.ntmps22
  go_wp2
  go_ret
  exact ⟨rfl, rfl⟩

set_option maxHeartbeats 1000000 in
theorem pushS_any (B : Nat) (xs : List ByteArray) (x : ByteArray) (O : Nat → Prop) (w : World) (hp : Held 44 9 B (strs xs) O w) (hl : xs.length + 1 ≤ 1000000000) :
    Calls Try.prog 18 #[at0 B, .string x] w (PushedS B (xs ++ [x]) O w) := by
  obtain ⟨v, rfl, hb, hr⟩ := hp
  obtain ⟨i0, hi, hz0, hz1, hz2⟩ := info_parts Try.info9
  rw [strs_len] at hr
  obtain ⟨n, hn⟩ : ∃ n, xs.length = n := ⟨_, rfl⟩
  rw [hn] at hr hl
  have HN := Lib.hid hn
  clear hn
  obtain ⟨a, cap, rfl, hc, hm⟩ := hr.form
  unfold maxLen at hm
  have c := hb.cell
  go_enter Try.func18, Try.ntmps18
  go_wp2_with (at_builtin; refine wpList_append_row _ rfl _ _ 42 rfl 9 i0 (.string ⟨#[]⟩) 16 Try.underlying42 hi hz0 hz1 hz2 rfl (by decide) _ n (strs xs) rfl (hr.alloc _) ⟨w.heap.size, 0, none⟩ 1 (.string x) rfl (by simp) (by simp [Value.oneCell']) hl ?_; intro v' w1 hr' hg hlat; obtain ⟨a', cap', rfl, hc', hm'⟩ := hr'.form; obtain ⟨hb1, hT⟩ := Held.appended (by decide) hb hr (ys := strs (xs ++ [x])) (by simpa [HN.out] using hr') hg hlat; have c1 := hb1.cell; have f1 := hb1.frozen)
  go_end0
  exact ⟨rfl, hT⟩

theorem caughtS (p : Addr) (w : World) :
    CallsD Try.prog 39 #[.pointer (some p)] .returning w fun e u' w' => e = .returned (.tuple #[]) ∧ u' = .returning ∧ w' = w := by
  refine callsD_of_wpS Try.func39 rfl fun c₀ cs hu => ?_
  apply wpS_seq
  apply wpS_region
  simp [wpOpsS, go_sem, recoverD, hu, Try.ntmps39, Exit.thenS]
  refine wpS_cond (t := false) (by simp [Act.eval, Array.replicate]) ?_
  simp only [Bool.false_eq_true, if_false]
  refine wpS_of_wp (wp_skip ?_)
  cases c₀
  simp_all [bodyPostS, results, Try.results39]

theorem alikeS_any (a b : ByteArray) (w : World) : Calls Try.prog 31 #[.string a, .string b] w fun e w' => e = .returned (.bool (a.toList == b.toList)) ∧ Below w.heap.size w w' := by
  have hmf : ∀ (fn : Fn) (first cap : Array Value) (w : World), (Instr.makeFunc fn first cap).run Try.prog w = .ok (.func fn first cap) w := fun _ _ _ _ => rfl
  go_enter_defers Try.func31, Try.ntmps31
  go_wp2
  refine leaves_cons (f := 39) (args := #[.pointer (some ⟨w.heap.size, 0, none⟩)]) (by simp) (by simp [go_sem]) ?_
  refine (caughtS ⟨w.heap.size, 0, none⟩ _).mono ?_
  rintro e u' w'' ⟨rfl, rfl, rfl⟩
  simp [Leaves, settle, results, Try.results31, go_sem]
  exact (Below.refl _ _).alloc (Nat.le_refl _) _

theorem hasS_none (B cap : Nat) (a : Option Addr) (x : ByteArray) (w : World) (hb : Boxed w B 44 (.slice a 0 cap)) :
    Calls Try.prog 23 #[at0 B, .string x] w fun e w' => e = .returned (.bool false) ∧ Below w.heap.size w w' := by
  go_enter Try.func23, Try.ntmps23
  go_wp2_with (go_at_call 22; refine (lenS_any B 0 cap a _ hb (by omega)).mono ?_; rintro e w' ⟨rfl, rfl⟩)
  go_rounds 1
  go_ret
  exact ⟨rfl, Below.refl _ _⟩

/-- Is there one like it? -/
def hasB (xs : List ByteArray) (x : ByteArray) : Bool := xs.any fun y => y.toList == x.toList
theorem hasB_yes {xs : List ByteArray} {x y : ByteArray} {j : Nat} (h : xs[j]? = some y) (e : y.toList = x.toList) : true = hasB xs x := by
  symm; unfold hasB; rw [List.any_eq_true]; exact ⟨y, List.mem_of_getElem? h, by simpa using e⟩
theorem hasB_no {xs : List ByteArray} {x : ByteArray} (h : ∀ k, k < xs.length → (xs[k]?.getD ⟨#[]⟩).toList ≠ x.toList) : false = hasB xs x := by
  symm; unfold hasB; rw [List.any_eq_false]
  intro y hy
  obtain ⟨i, hi, rfl⟩ := List.mem_iff_getElem.1 hy
  have := h i hi
  simpa [hi] using this

/-- What Has hands back. -/
def HasedS (xs : List ByteArray) (x : ByteArray) (w : World) (e : Ending) (w' : World) : Prop := e = .returned (.bool (hasB xs x)) ∧ Below w.heap.size w w'
theorem hasedS_mk {xs : List ByteArray} {x : ByteArray} {w w' : World} {bo : Bool} (h : bo = hasB xs x) (hB : Below w.heap.size w w') : HasedS xs x w (.returned (.bool bo)) w' := ⟨by rw [h], hB⟩

set_option maxHeartbeats 1000000 in
theorem hasS_some (B n cap g off : Nat) (xs : List ByteArray) (x : ByteArray) (w : World) (hb : Boxed w B 44 (.slice (some ⟨g, off, none⟩) n cap)) (hn : n ≤ cap) (hc : cap ≤ 9223372036854775807) (hl : xs.length = n) (hcell : ∀ i, i < n → w.cell? ⟨g, off + i, none⟩ = (strs xs)[i]?) :
    Calls Try.prog 23 #[at0 B, .string x] w (HasedS xs x w) := by
  have HC := Lib.hid hcell
  have HL := Lib.hid hl
  clear hcell hl
  have cb := hb.cell
  have lb := hb.lt
  go_enter Try.func23, Try.ntmps23
  go_wp2_with (go_at_call 22; refine (lenS_any B n cap _ _ hb (by omega)).mono ?_; rintro e w' ⟨rfl, rfl⟩)
  go_loopw [5, 8] (fun _ i wr => ∃ j : Nat, j ≤ n ∧ i = .int .i64 j ∧ Below w.heap.size w wr ∧ ∀ k, k < j → (xs[k]?.getD ⟨#[]⟩).toList ≠ x.toList) (fun _ i _ => n - (intOf i).toNat)
  case atStart => exact ⟨0, by omega, rfl, Below.refl _ _, fun k hk => by omega⟩
  case round =>
    obtain ⟨j, hj, rfl, hB, hne⟩ := hrel
    have HNE := Lib.hid hne
    clear hne cb
    by_cases hlt : j < n
    · have hjx : j < xs.length := by rw [HL.out]; exact hlt
      have h0 : w.cell? ⟨g, off + j, none⟩ = some (.string (xs[j]?.getD ⟨#[]⟩)) := by rw [HC.out j hlt]; simp [hjx]
      have d1 := (hB.cell (p := ⟨g, off + j, none⟩) (World.block_lt_of_cell? w _ h0)).trans h0
      have d2 := (hB.cell (p := ⟨B, 0, none⟩) lb).trans hb.cell
      have HY := Lib.hid (show xs[j]? = some (xs[j]?.getD ⟨#[]⟩) by simp [hjx])
      clear hjx h0
      generalize xs[j]?.getD ⟨#[]⟩ = y at *
      by_cases he : y.toList = x.toList
      · go_wp2_with (go_at_call 31; refine (alikeS_any y x _).mono ?_; rintro e w' ⟨rfl, hb'⟩; rw [show (y.toList == x.toList) = true by simpa using he])
        go_ret
        exact hasedS_mk (hasB_yes HY.out he) (hB.trans (hb'.mono hB.size))
      · go_wp2_with (go_at_call 31; refine (alikeS_any y x _).mono ?_; rintro e w' ⟨rfl, hb'⟩; rw [show (y.toList == x.toList) = false by simpa using he])
        go_roundw
        case rel =>
          refine ⟨j + 1, by omega, by go_num, hB.trans (hb'.mono hB.size), fun k hk => ?_⟩
          by_cases e : k = j
          · rw [e, HY.out]; exact he
          · exact HNE.out k (by omega)
        case measure => simp [intOf]; omega
    · go_wp2
      go_ret
      exact hasedS_mk (hasB_no fun k hk => HNE.out k (by have := HL.out; omega)) hB

theorem hasS_any (B : Nat) (xs : List ByteArray) (x : ByteArray) (O : Nat → Prop) (w : World) (hp : Held 44 9 B (strs xs) O w) :
    Calls Try.prog 23 #[at0 B, .string x] w (HasedS xs x w) := by
  obtain ⟨v, rfl, hb, hr⟩ := hp
  rw [strs_len] at hr
  by_cases h0 : xs.length = 0
  · obtain rfl : xs = [] := List.eq_nil_of_length_eq_zero h0
    obtain ⟨a, cap, rfl, _, _⟩ := hr.form
    exact (hasS_none B cap a x w hb).mono fun e w' h => ⟨by simpa [hasB] using h.1, h.2⟩
  · obtain ⟨g, off, cap, rfl, h1, h2, hc, _⟩ := hr.at_ (by omega)
    exact hasS_some B xs.length cap g off xs x w hb h1 h2 rfl hc


theorem push_nil (s : ByteArray) (w : World) : Calls Try.prog 18 #[.pointer none, .string s] w fun e w' => e = .returned (.tuple #[]) ∧ w = w' := by
  go_enter Try.func18, Try.ntmps18
  go_wp2
  refine bodyPost_ret (results_none rfl _ _ _) rfl ?_
  exact ⟨rfl, rfl⟩
theorem len_nil (w : World) : Calls Try.prog 22 #[.pointer none] w fun e w' => e = .returned (.int .i64 0) ∧ w = w' := by
  go_enter Try.func22, Try.ntmps22
  go_wp2
  go_ret
  exact ⟨rfl, rfl⟩
theorem at_nil (i : Int) (w : World) (hi : i = 0 ∨ i = -1) : Calls Try.prog 21 #[.pointer none, .int .i64 i] w fun e w' => e = .returned (.tuple #[.string ⟨#[]⟩, .bool false]) ∧ w = w' := by
  rcases hi with rfl | rfl
  all_goals
    go_enter Try.func21, Try.ntmps21
    go_wp2_with (go_at_call 22; refine (len_nil _).mono ?_; rintro e w' ⟨rfl, rfl⟩)
    go_ret2
    exact ⟨rfl, rfl⟩
theorem pop_nil (w : World) : Calls Try.prog 19 #[.pointer none] w fun e w' => e = .returned (.tuple #[.string ⟨#[]⟩, .bool false]) ∧ w = w' := by
  go_enter Try.func19, Try.ntmps19
  go_wp2_with (first
    | (go_at_call 22; refine (len_nil _).mono ?_; rintro e w' ⟨rfl, rfl⟩)
    | (go_at_call 21; refine (at_nil _ _ (.inr rfl)).mono ?_; rintro e w' ⟨rfl, rfl⟩))
  go_ret2
  exact ⟨rfl, rfl⟩
theorem shift_nil (w : World) : Calls Try.prog 20 #[.pointer none] w fun e w' => e = .returned (.tuple #[.string ⟨#[]⟩, .bool false]) ∧ w = w' := by
  go_enter Try.func20, Try.ntmps20
  go_wp2_with (go_at_call 21; refine (at_nil _ _ (.inl rfl)).mono ?_; rintro e w' ⟨rfl, rfl⟩)
  go_ret2
  exact ⟨rfl, rfl⟩
theorem has_nil (s : ByteArray) (w : World) : Calls Try.prog 23 #[.pointer none, .string s] w fun e w' => e = .returned (.bool false) ∧ w = w' := by
  go_enter Try.func23, Try.ntmps23
  go_wp2_with (go_at_call 22; refine (len_nil _).mono ?_; rintro e w' ⟨rfl, rfl⟩)
  go_rounds 1
  go_ret
  exact ⟨rfl, rfl⟩
theorem list_nil (w : World) : Calls Try.prog 26 #[.pointer none] w fun e w' => e = .returned (.slice none 0 0) ∧ w = w' := by
  go_enter Try.func26, Try.ntmps26
  go_wp2
  go_ret
  exact ⟨rfl, rfl⟩

attribute [local go_sem] Oper.semAt_some wide_fn in
theorem keep_nil (kf : Nat) (kc : Array Value) (w : World) : Calls Try.prog 24 #[.pointer none, .func (.func kf) #[] kc] w fun e w' => e = .returned (.int .i64 0) ∧ w = w' := by
  refine (callsIn_wide (n := 9)).1 ?_
  refine callsIn_of_wp_marks Try.func24 rfl trivial ?_ rfl
  simp only [Try.ntmps24, List.size_toArray, List.length_cons, List.length_nil, Nat.reduceAdd, Nat.reduceSub, Array.replicate_succ, Array.replicate_zero, List.push_toArray, List.append_toArray, List.nil_append, List.cons_append]
  gi_wp2
  exact ⟨_, results_tmp rfl _ _ _, rfl, rfl⟩
attribute [local go_sem] Oper.semAt_some wide_fn in
theorem keep_none (B : Nat) (w : World) : Calls Try.prog 24 #[at0 B, .nilFunc] w fun e w' => e = .returned (.int .i64 0) ∧ w = w' := by
  have qn : ∀ w, (binOp .eql 50 .nilFunc .nilFunc).run Try.prog w = .ok (.bool true) w := fun _ => by kernel_rfl
  refine (callsIn_wide (n := 9)).1 ?_
  refine callsIn_of_wp_marks Try.func24 rfl trivial ?_ rfl
  simp only [Try.ntmps24, List.size_toArray, List.length_cons, List.length_nil, Nat.reduceAdd, Nat.reduceSub, Array.replicate_succ, Array.replicate_zero, List.push_toArray, List.append_toArray, List.nil_append, List.cons_append]
  gi_wp2
  exact ⟨_, results_tmp rfl _ _ _, rfl, rfl⟩

end Go.Proofs.Ytdhakdgbeokebaa
