/- Has and List of a pile of numbers. -/
import Derived.Test.YtdhakdgbeokebaaTurns
import Derived.Recover
import Derived.Defers
import Derived.Laws.Pointers
namespace Go.Proofs.Ytdhakdgbeokebaa
open Go.RowKit Go.Shelf
set_option linter.unusedVariables false

theorem caught (p : Addr) (w : World) :
    CallsD Try.prog 38 #[.pointer (some p)] .returning w fun e u' w' => e = .returned (.tuple #[]) ∧ u' = .returning ∧ w' = w := by
  refine callsD_of_wpS Try.func38 rfl fun c₀ cs hu => ?_
  apply wpS_seq
  apply wpS_region
  simp [wpOpsS, go_sem, recoverD, hu, Try.ntmps38, Exit.thenS]
  refine wpS_cond (t := false) (by simp [Act.eval, Array.replicate]) ?_
  simp only [Bool.false_eq_true, if_false]
  refine wpS_of_wp (wp_skip ?_)
  cases c₀
  simp_all [bodyPostS, results, Try.results38]

theorem alike_any (a b : Int) (w : World) : Calls Try.prog 30 #[.int .i64 a, .int .i64 b] w fun e w' => e = .returned (.bool (a == b)) ∧ Below w.heap.size w w' := by
  have hmf : ∀ (fn : Fn) (first cap : Array Value) (w : World), (Instr.makeFunc fn first cap).run Try.prog w = .ok (.func fn first cap) w := fun _ _ _ _ => rfl
  go_enter_defers Try.func30, Try.ntmps30
  go_wp2
  refine leaves_cons (f := 38) (args := #[.pointer (some ⟨w.heap.size, 0, none⟩)]) (by simp) (by simp [go_sem]) ?_
  refine (caught ⟨w.heap.size, 0, none⟩ _).mono ?_
  rintro e u' w'' ⟨rfl, rfl, rfl⟩
  simp [Leaves, settle, results, Try.results30, go_sem]
  exact (Below.refl _ _).alloc (Nat.le_refl _) _

theorem has_none (B cap : Nat) (a : Option Addr) (x : Int) (w : World) (hb : Boxed w B 26 (.slice a 0 cap)) :
    Calls Try.prog 17 #[at0 B, .int .i64 x] w fun e w' => e = .returned (.bool false) ∧ Below w.heap.size w w' := by
  go_enter Try.func17, Try.ntmps17
  go_wp2_with (go_at_call 16; refine (len_any B 0 cap a _ hb (by omega)).mono ?_; rintro e w' ⟨rfl, rfl⟩)
  go_rounds 1
  go_ret
  exact ⟨rfl, Below.refl _ _⟩

/-- What Has hands back. -/
def Hased (xs : List Int) (x : Int) (w : World) (e : Ending) (w' : World) : Prop := e = .returned (.bool (decide (x ∈ xs))) ∧ Below w.heap.size w w'
theorem hased_mk {xs : List Int} {x : Int} {w w' : World} {bo : Bool} (h : bo = decide (x ∈ xs)) (hB : Below w.heap.size w w') : Hased xs x w (.returned (.bool bo)) w' := ⟨by rw [h], hB⟩

set_option maxHeartbeats 1000000 in
theorem has_some (B n cap g off : Nat) (xs : List Int) (x : Int) (w : World) (hb : Boxed w B 26 (.slice (some ⟨g, off, none⟩) n cap)) (hn : n ≤ cap) (hc : cap ≤ 9223372036854775807) (hl : xs.length = n) (hcell : ∀ i, i < n → w.cell? ⟨g, off + i, none⟩ = (ints xs)[i]?) :
    Calls Try.prog 17 #[at0 B, .int .i64 x] w (Hased xs x w) := by
  have HC := Lib.hid hcell
  have HL := Lib.hid hl
  clear hcell hl
  have cb := hb.cell
  have lb := hb.lt
  go_enter Try.func17, Try.ntmps17
  go_wp2_with (go_at_call 16; refine (len_any B n cap _ _ hb (by omega)).mono ?_; rintro e w' ⟨rfl, rfl⟩)
  go_loopw [5, 8] (fun _ i wr => ∃ j : Nat, j ≤ n ∧ i = .int .i64 j ∧ Below w.heap.size w wr ∧ ∀ k, k < j → xs[k]?.getD 0 ≠ x) (fun _ i _ => n - (intOf i).toNat)
  case atStart => exact ⟨0, by omega, rfl, Below.refl _ _, fun k hk => by omega⟩
  case round =>
    obtain ⟨j, hj, rfl, hB, hne⟩ := hrel
    have HNE := Lib.hid hne
    clear hne cb
    by_cases hlt : j < n
    · have hjx : j < xs.length := by rw [HL.out]; exact hlt
      have h0 : w.cell? ⟨g, off + j, none⟩ = some (.int .i64 (xs[j]?.getD 0)) := by rw [HC.out j hlt]; simp [hjx]
      have d1 := (hB.cell (p := ⟨g, off + j, none⟩) (World.block_lt_of_cell? w _ h0)).trans h0
      have d2 := (hB.cell (p := ⟨B, 0, none⟩) lb).trans hb.cell
      have HY := Lib.hid (show xs[j]? = some (xs[j]?.getD 0) by simp [hjx])
      clear hjx h0
      generalize xs[j]?.getD 0 = y at *
      by_cases he : y = x
      · subst he
        go_wp2_with (go_at_call 30; refine (alike_any y y _).mono ?_; rintro e w' ⟨rfl, hb'⟩; rw [show (y == y) = true by simp])
        go_ret
        exact hased_mk (decide_eq_true (List.mem_of_getElem? HY.out)).symm (hB.trans (hb'.mono hB.size))
      · go_wp2_with (go_at_call 30; refine (alike_any y x _).mono ?_; rintro e w' ⟨rfl, hb'⟩; rw [show (y == x) = false by simpa using he])
        go_roundw
        case rel =>
          refine ⟨j + 1, by omega, by go_num, hB.trans (hb'.mono hB.size), fun k hk => ?_⟩
          by_cases e : k = j
          · rw [e, HY.out]; exact he
          · exact HNE.out k (by omega)
        case measure => simp [intOf]; omega
    · go_wp2
      go_ret
      refine hased_mk (decide_eq_false fun hm => ?_).symm hB
      obtain ⟨i, hi, rfl⟩ := List.mem_iff_getElem.1 hm
      exact HNE.out i (by have := HL.out; omega) (by simp [hi])

theorem has_any (B : Nat) (xs : List Int) (x : Int) (O : Nat → Prop) (w : World) (hp : Held 26 3 B (ints xs) O w) :
    Calls Try.prog 17 #[at0 B, .int .i64 x] w (Hased xs x w) := by
  obtain ⟨v, rfl, hb, hr⟩ := hp
  rw [ints_len] at hr
  by_cases h0 : xs.length = 0
  · obtain rfl : xs = [] := List.eq_nil_of_length_eq_zero h0
    obtain ⟨a, cap, rfl, _, _⟩ := hr.form
    exact (has_none B cap a x w hb).mono fun e w' h => ⟨by simpa using h.1, h.2⟩
  · obtain ⟨g, off, cap, rfl, h1, h2, hc, _⟩ := hr.at_ (by omega)
    exact has_some B xs.length cap g off xs x w hb h1 h2 rfl hc

theorem row_reads {W : World} {v : Value} {xs : List Int} (h : Row W 3 v xs.length (ints xs)) : Reads W v xs := by
  by_cases h0 : xs.length = 0
  · obtain rfl : xs = [] := List.eq_nil_of_length_eq_zero h0
    obtain ⟨a, cap, rfl, _, _⟩ := h.form
    exact .inl ⟨_, _, rfl, rfl⟩
  · obtain ⟨g, off, cap, rfl, h1, h2, hc, _⟩ := h.at_ (by omega)
    refine .inr ⟨g, off, cap, rfl, by omega, h1, h2, fun i hi => ?_⟩
    rw [hc i hi]; simp [hi]

theorem plist_any (B : Nat) (xs : List Int) (O : Nat → Prop) (w : World) (hp : Held 26 3 B (ints xs) O w) (hlen : xs.length ≤ 1000000000) :
    Calls Try.prog 15 #[at0 B] w (Listed xs w) := by
  obtain ⟨v, rfl, hb, hr⟩ := hp
  rw [ints_len] at hr
  have hrd := row_reads hr
  obtain ⟨a, cap, rfl, _, _⟩ := hr.form
  have c := hb.cell
  obtain ⟨n, hn⟩ : ∃ n, xs.length = n := ⟨_, rfl⟩
  rw [hn] at hrd c
  have HR := Lib.hid hrd
  clear hn hrd hr hb
  go_enter Try.func15, Try.ntmps15
  go_wp2_with (go_at_call 29; refine (clone_any _ xs _ HR.out hlen).mono ?_; rintro e w' ⟨v', rfl, h1, h2⟩)
  go_ret
  exact ⟨_, rfl, h1, h2⟩

end Go.Proofs.Ytdhakdgbeokebaa
