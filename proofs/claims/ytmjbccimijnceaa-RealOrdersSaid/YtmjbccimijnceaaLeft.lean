/- Who is left, and who of them is answered, told by sequences. -/
import Derived.Test.YtmjbccimijnceaaTheory
namespace Go.Proofs.Ytmjbccimijnceaa
open Go.ChangeShapes Go.WideShapes Go.ChangeAt Go.RowKit
set_option linter.unusedVariables false
attribute [local go_sem] Oper.semAt_some wide_fn

abbrev bools (ds : List Bool) : List Value := ds.map Value.bool
theorem Reads.lenB {W : World} {s : Sl} {ds : List Bool} (h : Reads W s 1 (bools ds)) : s.n = ds.length := by
  have := h.len
  simp at this
  omega
theorem Reads.lenI {W : World} {s : Sl} {xs : List Int} (h : Reads W s 1 (ints xs)) : s.n = xs.length := by
  have := h.len
  simp at this
  omega
theorem Reads.block {W : World} {s : Sl} {size : Nat} {vs : List Value} (h : Reads W s size vs) (hs : 0 < size) {k : Nat} (hn : 0 < s.n) (hk : s.v.ownBlock = some k) : k < W.heap.size := by
  rcases h.form with h0 | ⟨b, off, ea, hc⟩
  · omega
  · have hl : 0 < vs.length := by rw [h.len]; exact Nat.mul_pos hn hs
    have := World.block_lt_of_cell? W _ (hc 0 _ (List.getElem?_eq_getElem hl))
    rw [Sl.v, ea] at hk
    simp [Value.ownBlock] at hk
    rw [← hk]
    exact this
/-- The blocks that a slice's things lie in. -/
def Sl.row (s : Sl) (k : Nat) : Prop := 0 < s.n ∧ s.v.ownBlock = some k
theorem Reads.row_lt {W : World} {s : Sl} {size : Nat} {vs : List Value} (h : Reads W s size vs) (hs : 0 < size) {k : Nat} (hk : s.row k) : k < W.heap.size := h.block hs hk.1 hk.2
theorem Reads.of_row {W V : World} {s : Sl} {size : Nat} {vs : List Value} (h : Reads W s size vs) (hv : ∀ k, s.row k → V.heap[k]? = W.heap[k]?) : Reads V s size vs := by
  by_cases h0 : s.n = 0
  · exact ⟨h.len, h.room, h.nil, .inl h0⟩
  · exact h.agree fun k _ hk => hv k ⟨by omega, hk⟩

theorem left_calls (s : Sl) (ds : List Bool) (bd k : Nat) (W : World) (hb : Boxed W bd 34 s.v) (hr : Reads W s 1 (bools ds)) (hk : k < ds.length) :
    Calls Try.prog 24 #[.int .i64 (k : Int), at0 bd] W fun e W' => e = .returned (.bool (!(ds.getD k false))) ∧ Keeps (fun _ => False) W W' := by
  have hn := hr.lenB
  obtain ⟨b, off, ea, hc⟩ := hr.at_ (by omega)
  have c1 := hc k (.bool (ds.getD k false)) (by simp [hk, List.getD_eq_getElem?_getD])
  have c0 := hb.cell
  obtain ⟨a, n, cap⟩ := s
  simp only at ea hn
  subst ea
  have hcap := hr.room
  simp only [maxLen] at hcap
  simp only [Sl.v] at c0
  have g0 : decide (((k : Nat) : Int) ≥ (n : Int)) = false := by simp; omega
  have g1 : k < n := by omega
  generalize ds.getD k false = v at *
  clear hr hn hk hb hc
  go_enter Try.func24, Try.ntmps24
  go_wp2
  go_ret
  exact ⟨by simp [show ¬ n ≤ k by omega], Keeps.refl _ _⟩

theorem left_gives (s : Sl) (ds : List Bool) (bd : Nat) (W0 : World) (hb : Boxed W0 bd 34 s.v) (hr : Reads W0 s 1 (bools ds)) :
    Gives (fun x => 0 ≤ x ∧ x < ds.length) (.func (.func 24) #[] #[at0 bd]) (fun k => k = bd ∨ s.row k) (fun x => .bool (!(ds.getD x.toNat false))) W0 := by
  refine ⟨⟨_, _, rfl, enters_of Try.func24 (by kernel_rfl) rfl, fun W hW x hx => ?_⟩, fun k hk => ?_⟩
  · have h1 : Boxed W bd 34 s.v := (hW bd (.inl rfl)).trans hb
    have h2 := hr.of_row (V := W) fun k hk => hW k (.inr hk)
    have e : ((x.toNat : Nat) : Int) = x := by omega
    have := left_calls s ds bd x.toNat W h1 h2 (by omega)
    rw [e] at this
    exact this
  · rcases hk with rfl | hk
    · exact hb.lt
    · exact hr.row_lt (by decide) hk

theorem left_any (y : Sl) (s : Sl) (l : List Opr) (ds : List Bool) (w : World) (hy : Reads w y 9 (encO l)) (hr : Reads w s 1 (bools ds)) (he : ds.length = l.length) :
    Calls Try.prog 17 #[y.v, s.v] w (Makes s.row (leftL ds) w) := by
  have hny := hy.lenO
  have hcap := hy.room
  simp only [maxLen] at hcap
  have hbw : Below w.heap.size w (w.alloc (.cells #[s.v] 34)) := (Below.refl _ _).alloc (Nat.le_refl _) _
  have hC := count_makes 0 (ds.length : Int) (w.alloc (.cells #[s.v] 34)) ⟨by omega, by omega⟩ ⟨by omega, by omega⟩
  rw [show ((ds.length : Int) - 0).toNat = ds.length by omega] at hC
  have hO : ∀ g lb C w1, Tells Try.prog encI (.func (.func g) #[] lb) C (ups 0 ds.length) w1 → Below (w.alloc (.cells #[s.v] 34)).heap.size (w.alloc (.cells #[s.v] 34)) w1 →
      Calls Try.prog 16 #[.func (.func g) #[] lb, .func (.func 24) #[] #[at0 w.heap.size]] w1 (Makes (fun k => C k ∨ (k = w.heap.size ∨ s.row k)) (leftL ds) w1) := fun g lb C w1 hT hb1 => by
    have hB := hbw.trans (hb1.mono (by simp))
    have hbox : Boxed w1 w.heap.size 34 s.v := (hb1.block _ (by simp)).trans (Boxed.new w 34 s.v)
    have hG := left_gives s ds w.heap.size w1 hbox (hr.below hB)
    exact only_makes (fun x => 0 ≤ x ∧ x < ds.length) _ _ C _ (ups 0 ds.length) (fun x => !(ds.getD x.toNat false)) w1 (.inr hT) hG (fun x hx => mem_ups.1 hx)
  rw [← he] at hny
  have hH := Lib.hid hO
  have hC' := Lib.hid hC
  obtain ⟨ya, yn, yc⟩ := y
  simp only at hny
  subst hny
  clear hO hC hy hr he
  go_enter Try.func17, Try.ntmps17
  go_wp2_with (first
    | (go_at_call 23; refine hC'.out.mono ?_; rintro e w1 ⟨g, lb, C, rfl, -, hT, hCC, hb1⟩)
    | (go_at_call 16; refine (hH.out g lb C w1 hT hb1).mono ?_; rintro e w2 ⟨g2, lb2, C2, rfl, eg2, hT2, hCC2, hb2⟩))
  go_ret
  refine ⟨g2, lb2, C2, rfl, eg2, hT2, fun k hk => ?_, (hbw.trans (hb1.mono (by simp))).trans (hb2.mono ?_)⟩
  · rcases hCC2 k hk with (h | rfl | h) | h
    · rcases hCC k h with h | h
      · exact h.elim
      · exact .inr (by simp at h; omega)
    · exact .inr (Nat.le_refl _)
    · exact .inl h
    · exact .inr (by have := hb1.size; simp at this; omega)
  · have := hb1.size; simp at this; omega

/-! ### those that are answered -/
theorem miss_calls (y : Sl) (l : List Opr) (bl k : Nat) (W : World) (hb : Boxed W bl 22 y.v) (hr : Reads W y 9 (encO l)) (hk : k < l.length) :
    Calls Try.prog 18 #[.int .i64 (k : Int), at0 bl] W fun e W' => e = .returned (.bool (ans (ith l k))) ∧ Keeps (fun _ => False) W W' := by
  have hn := hr.lenO
  obtain ⟨b, off, ea, ho⟩ := hr.opr (ith_lt hk)
  obtain ⟨x0, x1, x2, x3, x4, x5, x6, x7, x8⟩ := ho
  have c0 := hb.cell
  obtain ⟨a, n, cap⟩ := y
  simp only at ea hn
  subst ea
  have hcap := hr.room
  simp only [maxLen] at hcap
  simp only [Sl.v] at c0
  have g1 : k < n := by omega
  have hA := fun W => answered_any (ith l k) W
  generalize ith l k = v at *
  clear hr hn hk hb
  go_enter Try.func18, Try.ntmps18
  go_wp2_with (go_at_call 11; refine (hA _).mono ?_; rintro e w1 ⟨rfl, hb1⟩)
  go_ret
  exact ⟨rfl, Keeps.of_below hb1⟩

theorem miss_gives (y : Sl) (l : List Opr) (bl : Nat) (W0 : World) (hb : Boxed W0 bl 22 y.v) (hr : Reads W0 y 9 (encO l)) :
    Gives (fun x => 0 ≤ x ∧ x < l.length) (.func (.func 18) #[] #[at0 bl]) (fun k => k = bl ∨ y.row k) (fun x => .bool (ans (ith l x.toNat))) W0 := by
  refine ⟨⟨_, _, rfl, enters_of Try.func18 (by kernel_rfl) rfl, fun W hW x hx => ?_⟩, fun k hk => ?_⟩
  · have h1 : Boxed W bl 22 y.v := (hW bl (.inl rfl)).trans hb
    have h2 := hr.of_row (V := W) fun k hk => hW k (.inr hk)
    have e : ((x.toNat : Nat) : Int) = x := by omega
    have := miss_calls y l bl x.toNat W h1 h2 (by omega)
    rw [e] at this
    exact this
  · rcases hk with rfl | hk
    · exact hb.lt
    · exact hr.row_lt (by decide) hk

theorem miss_any (y : Sl) (s : Sl) (l : List Opr) (ds : List Bool) (w : World) (hy : Reads w y 9 (encO l)) (hr : Reads w s 1 (bools ds)) (he : ds.length = l.length) :
    Calls Try.prog 12 #[y.v, s.v] w (Makes (fun k => y.row k ∨ s.row k) (missL l ds) w) := by
  have hbw : Below w.heap.size w (w.alloc (.cells #[y.v] 22)) := (Below.refl _ _).alloc (Nat.le_refl _) _
  have hL := left_any y s l ds (w.alloc (.cells #[y.v] 22)) (hy.below hbw) (hr.below hbw) he
  have hO : ∀ g lb C w1, Tells Try.prog encI (.func (.func g) #[] lb) C (leftL ds) w1 → Below (w.alloc (.cells #[y.v] 22)).heap.size (w.alloc (.cells #[y.v] 22)) w1 →
      Calls Try.prog 16 #[.func (.func g) #[] lb, .func (.func 18) #[] #[at0 w.heap.size]] w1 (Makes (fun k => C k ∨ (k = w.heap.size ∨ y.row k)) (missL l ds) w1) := fun g lb C w1 hT hb1 => by
    have hB := hbw.trans (hb1.mono (by simp))
    have hbox : Boxed w1 w.heap.size 22 y.v := (hb1.block _ (by simp)).trans (Boxed.new w 22 y.v)
    have hG := miss_gives y l w.heap.size w1 hbox (hy.below hB)
    exact only_makes (fun x => 0 ≤ x ∧ x < l.length) _ _ C _ (leftL ds) (fun x => ans (ith l x.toNat)) w1 (.inr hT) hG (fun x hx => by rw [← he]; exact (mem_left.1 hx).1)
  have hH := Lib.hid hO
  have hL' := Lib.hid hL
  obtain ⟨ya, yn, yc⟩ := y
  clear hO hL hy hr
  go_enter Try.func12, Try.ntmps12
  go_wp2_with (first
    | (go_at_call 17; refine hL'.out.mono ?_; rintro e w1 ⟨g, lb, C, rfl, -, hT, hCC, hb1⟩)
    | (go_at_call 16; refine (hH.out g lb C w1 hT hb1).mono ?_; rintro e w2 ⟨g2, lb2, C2, rfl, eg2, hT2, hCC2, hb2⟩))
  go_ret
  refine ⟨g2, lb2, C2, rfl, eg2, hT2, fun k hk => ?_, (hbw.trans (hb1.mono (by simp))).trans (hb2.mono ?_)⟩
  · rcases hCC2 k hk with (h | rfl | h) | h
    · rcases hCC k h with h | h
      · exact .inl (.inr h)
      · exact .inr (by simp at h; omega)
    · exact .inr (Nat.le_refl _)
    · exact .inl (.inl h)
    · exact .inr (by have := hb1.size; simp at this; omega)
  · have := hb1.size; simp at this; omega
end Go.Proofs.Ytmjbccimijnceaa
