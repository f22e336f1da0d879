/- Next, and what is put together of it. -/
import Derived.Test.YtmjbccimijnceaaComing
namespace Go.Proofs.Ytmjbccimijnceaa
open Go.ChangeShapes Go.WideShapes Go.ChangeAt Go.RowKit
set_option linter.unusedVariables false
set_option linter.unusedSimpArgs false

theorem coming_any (y s : Sl) (l : List Opr) (ds : List Bool) (w : World) (hy : Reads w y 9 (encO l)) (hs : Reads w s 1 (bools ds)) (he : ds.length = l.length) :
    Calls Try.prog 15 #[y.v, s.v] w (Makes (fun k => y.row k ∨ s.row k) (nextD l ds) w) := by
  have hB : Below w.heap.size w ((w.alloc (.cells #[y.v] 22)).alloc (.cells #[s.v] 34)) := ((Below.refl _ _).alloc (Nat.le_refl _) _).alloc (by simp) _
  have x1 : Boxed ((w.alloc (.cells #[y.v] 22)).alloc (.cells #[s.v] 34)) w.heap.size 22 y.v := (Boxed.new w 22 _).alloc _
  have x2 : Boxed ((w.alloc (.cells #[y.v] 22)).alloc (.cells #[s.v] 34)) (w.heap.size + 1) 34 s.v := by
    have := Boxed.new (w.alloc (.cells #[y.v] 22)) 34 s.v; rw [World.size_alloc] at this; exact this
  have HT := Lib.hid (coming_tells y s l ds w.heap.size (w.heap.size + 1) _ x1 x2 (hy.below hB) (hs.below hB) he)
  have HB := Lib.hid hB
  obtain ⟨ya, yn, yp⟩ := y
  obtain ⟨sa, sn, sp⟩ := s
  clear x1 x2 hB hy hs
  go_enter Try.func15, Try.ntmps15
  go_wp2
  go_ret
  refine ⟨_, _, _, rfl, enters_of Try.func20 (by kernel_rfl) rfl, HT.out, fun k hk => ?_, HB.out⟩
  rcases hk with (rfl | rfl) | hk
  · exact .inr (Nat.le_refl _)
  · exact .inr (by omega)
  · exact .inl hk

theorem left_len (ds : List Bool) : (leftL ds).length ≤ ds.length := by
  have := List.length_filter_le (fun x : Int => !(ds.getD x.toNat false)) (ups 0 ds.length)
  rw [ups_length] at this
  exact this
theorem next_len (l : List Opr) (ds : List Bool) : (nextD l ds).length ≤ ds.length :=
  Nat.le_trans (List.length_filter_le _ _) (left_len ds)

theorem next_any (y s : Sl) (l : List Opr) (ds : List Bool) (w : World) (hy : Reads w y 9 (encO l)) (hs : Reads w s 1 (bools ds)) (he : ds.length = l.length) (hl : l.length ≤ 1000) :
    Calls Try.prog 10 #[y.v, s.v] w (Listed (nextD l ds) w) := by
  have K := Lib.hid (coming_any y s l ds w hy hs he)
  have hn := next_len l ds
  have KL := Lib.hid fun g lb C W (hT : Tells Try.prog encI (.func (.func g) #[] lb) C (nextD l ds) W) => list_any _ C _ W (.inr hT) (by omega)
  obtain ⟨ya, yn, yp⟩ := y
  obtain ⟨sa, sn, sp⟩ := s
  clear hy hs hn he
  go_enter Try.func10, Try.ntmps10
  go_wp2_with (first
    | (go_at_call 15; refine K.out.mono ?_; rintro e w1 ⟨g, lb, C, rfl, eg, hT, hCC, hb1⟩)
    | (go_at_call 14; refine (KL.out g lb C _ hT).mono ?_; rintro e w2 ⟨v, rfl, hown, hb2⟩))
  go_ret
  exact ⟨_, rfl, own_mono hown hb1.size, below_then hb1 hb2⟩

/-! ### orders that are put together of it -/
theorem soon_ex (l : List Opr) (p : List Int) : p.Nodup → ∃ F, Soon l p F := by
  induction h : p.length generalizing p with
  | zero => intro _; obtain rfl := List.eq_nil_of_length_eq_zero h; exact ⟨[], soon_nil l⟩
  | succ n ih =>
    intro hn
    have hne : p ≠ [] := fun e => by subst e; simp at h
    obtain ⟨x, hx⟩ : ∃ x, x = p.getLast hne := ⟨_, rfl⟩
    have e : p.dropLast ++ [x] = p := by rw [hx]; exact List.dropLast_concat_getLast hne
    rw [← e] at hn
    have hn2 := List.nodup_append.1 hn
    obtain ⟨F, hF⟩ := ih p.dropLast (by rw [List.length_dropLast]; omega) hn2.1
    have hx2 : x ∉ p.dropLast := fun hm => hn2.2.2 x hm x (by simp) rfl
    refine ⟨((F ++ [x]).mergeSort (fun a b => decide (toOf l a ≤ toOf l b))).take 2, ?_⟩
    rw [← e]
    refine hF.step hx2 (List.mergeSort_perm _ _) ?_
    have := List.pairwise_mergeSort (le := fun a b => decide (toOf l a ≤ toOf l b)) (by intro a b c h1 h2; simp at *; omega) (by intro a b; simp; omega) (F ++ [x])
    exact this.imp fun h => by simpa using h
theorem nextD_some {l : List Opr} {p : List Int} (hp : ∀ k : Nat, k < l.length → 0 ≤ (ith l k).o → (ith l k).f ≤ (ith l k).o) (hl : p.length < l.length) : nextD l (fl l.length p) ≠ [] := by
  obtain ⟨F, hF⟩ := soon_ex l (missL l (fl l.length p)) (miss_nodup _ _)
  rw [nextD_eq hF]
  exact next_some hp hl hF
theorem nextD_step {l : List Opr} {p : List Int} (h : Chain l p) {x : Int} (hx : x ∈ nextD l (fl l.length p)) : Chain l (p ++ [x]) ∧ (0 ≤ x ∧ x < l.length) ∧ x ∉ p := by
  obtain ⟨F, hF⟩ := soon_ex l (missL l (fl l.length p)) (miss_nodup _ _)
  rw [nextD_eq hF] at hx
  exact ⟨h.step hF hx, Chain.in_ hF hx⟩
theorem nextD_none {l : List Opr} {p : List Int} (h : Chain l p) (hl : p.length = l.length) : nextD l (fl l.length p) = [] := by
  obtain ⟨F, hF⟩ := soon_ex l (missL l (fl l.length p)) (miss_nodup _ _)
  rw [nextD_eq hF]
  exact full_next h.ok hl
end Go.Proofs.Ytmjbccimijnceaa
