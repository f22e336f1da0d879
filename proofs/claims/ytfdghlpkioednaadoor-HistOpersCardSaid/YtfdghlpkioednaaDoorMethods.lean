/- The methods of a history: Invoke, Respond, Busy, Events; of a nil one too. -/
import Derived.Test.YtfdghlpkioednaaDoorNote
import Derived.Lib.SliceRun
namespace Go.Proofs.YtfdghlpkioednaaDoor
open Go.ChangeShapes Go.WideShapes Go.ChangeAt Go.RowKit
set_option linter.unusedVariables false

abbrev at0 (B : Nat) : Value := .pointer (some ⟨B, 0, none⟩)
theorem note_any (B : Nat) (X : List Ev) (n : Nat) (O : Nat → Prop) (W : World) (e : Ev) (ht : I64 e.t) (hn : n ≤ 1000) (hX : X.length ≤ 1000) (h : HistAt B X n O W) :
    Calls Tryd.prog 24 #[at0 B, e.v] W (Noted B X n O e W) := by
  obtain ⟨s, m, rfl, hb, hr, h0, hm⟩ := h
  cases m with
  | none => exact note_none B X n s W e ht hn (h0 rfl) hb hr
  | some g => exact note_some B X n s g W e ht hn hX hb hr (hm g rfl)
theorem Noted.from_ {B : Nat} {X : List Ev} {n : Nat} {O : Nat → Prop} {e : Ev} {W W1 : World} {x : Ending} {W' : World} (hb : Below W.heap.size W W1) (h : Noted B X n O e W1 x W') : Noted B X n O e W x W' := by
  obtain ⟨h1, O', h2, h3, h4⟩ := h
  exact ⟨h1, O', (Keeps.of_below hb).trans h2 (Later.refl _ _), fun k hk => (h3 k hk).imp id (Nat.le_trans hb.size), h4⟩
set_option maxRecDepth 100000 in
theorem note_nil (W : World) (e : Ev) : Calls Tryd.prog 24 #[.pointer none, e.v] W fun x w' => x = .returned (.int .i64 1) ∧ Below W.heap.size W w' := by
  obtain ⟨t, b, c, a⟩ := e
  obtain ⟨o1, k1, v1⟩ := c
  obtain ⟨o2, k2, v2⟩ := a
  dsimp only [Ev.v]
  go_enter Tryd.func24, Tryd.ntmps24
  go_wp2
  go_ret
  exact ⟨rfl, box1 _⟩
set_option maxRecDepth 100000 in
theorem invoke_any (B : Nat) (X : List Ev) (n : Nat) (O : Nat → Prop) (W : World) (t : Int) (c : Tri) (ht : I64 t) (hn : n ≤ 1000) (hX : X.length ≤ 1000) (h : HistAt B X n O W) :
    Calls Tryd.prog 9 #[at0 B, .int .i64 t, c.v] W (Noted B X n O ⟨t, false, c, zt⟩ W) := by
  have h0 := box1 (w := W) (.cells c.cs 30)
  have K := note_any B X n O _ ⟨t, false, c, zt⟩ ht hn hX (h.below h0)
  have HB := Lib.hid h0
  clear h h0
  obtain ⟨o1, k1, v1⟩ := c
  dsimp only [Ev.v, Tri.v, Tri.cs] at *
  go_enter Tryd.func9, Tryd.ntmps9
  go_wp2_with fail
  refine K.mono ?_
  rintro x w' hw
  obtain rfl := hw.1
  have HF := Lib.hid (hw.from_ HB.out)
  clear hw K
  go_wp2
  go_ret
  exact HF.out
set_option maxRecDepth 100000 in
theorem respond_any (B : Nat) (X : List Ev) (n : Nat) (O : Nat → Prop) (W : World) (t : Int) (c : Tri) (ht : I64 t) (hn : n ≤ 1000) (hX : X.length ≤ 1000) (h : HistAt B X n O W) :
    Calls Tryd.prog 8 #[at0 B, .int .i64 t, c.v] W (Noted B X n O ⟨t, true, zt, c⟩ W) := by
  have h0 := box1 (w := W) (.cells c.cs 32)
  have K := note_any B X n O _ ⟨t, true, zt, c⟩ ht hn hX (h.below h0)
  have HB := Lib.hid h0
  clear h h0
  obtain ⟨o1, k1, v1⟩ := c
  dsimp only [Ev.v, Tri.v, Tri.cs] at *
  go_enter Tryd.func8, Tryd.ntmps8
  go_wp2_with fail
  refine K.mono ?_
  rintro x w' hw
  obtain rfl := hw.1
  have HF := Lib.hid (hw.from_ HB.out)
  clear hw K
  go_wp2
  go_ret
  exact HF.out
set_option maxRecDepth 100000 in
theorem invoke_nil (W : World) (t : Int) (c : Tri) : Calls Tryd.prog 9 #[.pointer none, .int .i64 t, c.v] W fun x w' => x = .returned (.int .i64 1) ∧ Below W.heap.size W w' := by
  have h0 := box1 (w := W) (.cells c.cs 30)
  have K := note_nil (W.alloc (.cells c.cs 30)) ⟨t, false, c, zt⟩
  obtain ⟨o1, k1, v1⟩ := c
  dsimp only [Ev.v, Tri.v, Tri.cs] at *
  have HB := Lib.hid h0
  clear h0
  go_enter Tryd.func9, Tryd.ntmps9
  go_wp2_with fail
  refine K.mono ?_
  rintro x w' ⟨rfl, hb⟩
  have HF := Lib.hid (below_th HB.out hb (Nat.le_refl _))
  clear hb K
  go_wp2
  go_ret
  exact ⟨rfl, HF.out⟩
set_option maxRecDepth 100000 in
theorem respond_nil (W : World) (t : Int) (c : Tri) : Calls Tryd.prog 8 #[.pointer none, .int .i64 t, c.v] W fun x w' => x = .returned (.int .i64 1) ∧ Below W.heap.size W w' := by
  have h0 := box1 (w := W) (.cells c.cs 32)
  have K := note_nil (W.alloc (.cells c.cs 32)) ⟨t, true, zt, c⟩
  obtain ⟨o1, k1, v1⟩ := c
  dsimp only [Ev.v, Tri.v, Tri.cs] at *
  have HB := Lib.hid h0
  clear h0
  go_enter Tryd.func8, Tryd.ntmps8
  go_wp2_with fail
  refine K.mono ?_
  rintro x w' ⟨rfl, hb⟩
  have HF := Lib.hid (below_th HB.out hb (Nat.le_refl _))
  clear hb K
  go_wp2
  go_ret
  exact ⟨rfl, HF.out⟩
theorem busy_any (B : Nat) (X : List Ev) (n : Nat) (O : Nat → Prop) (W : World) (t : Int) (ht : I64 t) (h : HistAt B X n O W) :
    Calls Tryd.prog 10 #[at0 B, .int .i64 t] W fun x w' => x = .returned (.bool (cur (ith X) X.length t).isSome) ∧ Below W.heap.size W w' := by
  obtain ⟨s, m, rfl, hb, hr, h0, hm⟩ := h
  have KH : Calls Tryd.prog 25 #[.map m, .int .i64 t] W fun e w' => e = .returned (.bool (cur (ith X) X.length t).isSome) ∧ Below W.heap.size W w' := by
    cases m with
    | none =>
      rw [h0 rfl]
      exact has_nil W t ht
    | some g => exact has_any W g n _ t ht (hm g rfl)
  have c1 := hb.cell 1
  simp at c1
  clear hb hr h0 hm
  generalize (cur (ith X) X.length t).isSome = b at *
  go_enter Tryd.func10, Tryd.ntmps10
  go_wp2_with fail
  refine KH.mono ?_
  rintro x w' ⟨rfl, hb⟩
  have HF := Lib.hid hb
  clear hb KH
  go_wp2
  go_ret
  exact ⟨rfl, HF.out⟩
theorem busy_nil (W : World) (t : Int) : Calls Tryd.prog 10 #[.pointer none, .int .i64 t] W fun x w' => x = .returned (.bool false) ∧ w' = W := by
  go_enter Tryd.func10, Tryd.ntmps10
  go_wp2
  go_ret
  exact ⟨rfl, rfl⟩
theorem onesE (l : List Ev) : ∀ u ∈ encE l, u.oneCell' = true := by
  intro u hu
  simp only [encE, List.mem_flatMap] at hu
  obtain ⟨x, _, hx⟩ := hu
  simp at hx
  rcases hx with rfl | rfl | rfl | rfl | rfl | rfl | rfl | rfl <;> rfl
theorem onesO (l : List Opr) : ∀ u ∈ encO l, u.oneCell' = true := by
  intro u hu
  simp only [encO, List.mem_flatMap] at hu
  obtain ⟨x, _, hx⟩ := hu
  simp at hx
  rcases hx with rfl | rfl | rfl | rfl | rfl | rfl | rfl | rfl | rfl <;> rfl
theorem q22 (w : World) (a : Option Addr) (n c n' c' : Nat) : (binOp .eql 22 (.slice a n c) (.slice none n' c')).run Tryd.prog w = .ok (.bool a.isNone) w := Lib.run_eql_slice_nil w _ _ a n c n' c' Tryd.underlying22
theorem add0 (g j : Nat) : (⟨g, 0, none⟩ : Addr).add j = ⟨g, j, none⟩ := by unfold Addr.add; split <;> simp_all
theorem news_of {w : World} {g : Nat} {xs : List Value} (h : ∀ j u, xs[j]? = some u → w.cell? ⟨g, j, none⟩ = some u) (o : Obj) : ∀ j u, xs[j]? = some u → (w.alloc o).cell? ((⟨g, 0, none⟩ : Addr).add j) = some u := by
  intro j u hj
  have := h j u hj
  rw [add0, Below.cell ((Below.refl w.heap.size w).alloc (Nat.le_refl _) _) (World.block_lt_of_cell? w _ this)]
  exact this
/-- A new row that reads these events. -/
def CopiedE (X : List Ev) (w : World) (r : Ending) (w' : World) : Prop := ∃ v, r = .returned v ∧ w'.ownsRow w.heap.size 34 8 v X.length (encE X) ∧ Below w.heap.size w w'
set_option maxHeartbeats 1000000 in
theorem clone_some (g n cap : Nat) (l : List Ev) (w : World) (hn : l.length = n) (h1 : n ≤ 1000000) (hc : ∀ j u, (encE l)[j]? = some u → w.cell? ⟨g, j, none⟩ = some u) :
    Calls Tryd.prog 26 #[.slice (some ⟨g, 0, none⟩) n cap] w (CopiedE l w) := by
  obtain ⟨i0, hi, hz0, hz1, hz2⟩ := info_parts info34
  have q := @q22
  have hm := World.ownsRow_made (base := w.heap.size) (e := 34) (size := 8) w #[] 0 (Nat.le_refl _) (by simp [maxLen]) rfl
  have HC := Lib.hid (news_of hc (.cells #[] 34))
  have HL := Lib.hid (show (encE l).length = n * 8 by rw [encE_len, hn])
  have H1 := Lib.hid (onesE l)
  have HN := Lib.hid hn
  clear hc hn
  go_enter Tryd.func26, Tryd.ntmps26
  go_wp2_with (at_builtin; refine wpList_append_own _ rfl _ _ 22 rfl w.heap.size 34 i0 _ 8 48 Tryd.underlying22 hi hz0 hz1 hz2 rfl (by decide) _ _ _ rfl hm ⟨g, 0, none⟩ n cap (encE l) rfl HL.out HC.out H1.out (by simp only [maxLen]; omega) (by omega) (by simp) ?_; intro v' w1 hown hgrow _)
  go_ret
  refine ⟨v', rfl, by rw [HN.out]; simpa using hown, ((Below.refl _ _).alloc (Nat.le_refl _) _).grown hgrow (by simp) (fun k e => ?_)⟩
  cases e
  exact Nat.le_refl _
theorem clone_nil (w : World) : Calls Tryd.prog 26 #[.slice none 0 0] w (CopiedE [] w) := by
  have q := @q22
  go_enter Tryd.func26, Tryd.ntmps26
  go_wp2
  go_ret
  exact ⟨_, rfl, World.ownsRow_nil _ _ _ _, Below.refl _ _⟩
theorem events_any (B : Nat) (X : List Ev) (n : Nat) (O : Nat → Prop) (W : World) (hX : X.length ≤ 1000000) (h : HistAt B X n O W) : Calls Tryd.prog 13 #[at0 B] W (CopiedE X W) := by
  obtain ⟨s, m, rfl, hb, hr, h0, hm⟩ := h
  have c0 := hb.cell 0
  simp at c0
  have hc : Calls Tryd.prog 26 #[.slice s.a s.n s.cap] W (CopiedE X W) := by
    rcases hr.2 with ⟨hv, hz⟩ | ⟨g, cap, cur, hv, _⟩
    · have : X = [] := List.eq_nil_of_length_eq_zero hz
      rw [this, hv]
      exact clone_nil W
    · rw [hv] at hr ⊢
      refine clone_some g _ cap X W rfl hX fun j u hj => ?_
      have hlt : j < X.length * 8 := by have := (List.getElem?_eq_some_iff.1 hj).1; rwa [encE_len] at this
      rw [hr.cellAt j hlt]; exact hj
  clear hb hr h0 hm
  go_enter Tryd.func13, Tryd.ntmps13
  go_wp2_with fail
  refine hc.mono ?_
  rintro e w' ⟨u, rfl, ho, hB⟩
  clear hc
  go_wp2
  go_ret
  exact ⟨u, rfl, ho, hB⟩
theorem events_nil (W : World) : Calls Tryd.prog 13 #[.pointer none] W fun x w' => x = .returned (.slice none 0 0) ∧ w' = W := by
  go_enter Tryd.func13, Tryd.ntmps13
  go_wp2
  go_ret
  exact ⟨rfl, rfl⟩
end Go.Proofs.YtfdghlpkioednaaDoor
