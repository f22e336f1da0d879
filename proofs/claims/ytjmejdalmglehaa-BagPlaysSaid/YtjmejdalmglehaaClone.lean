/- Clone, List. -/
import Derived.Test.YtjmejdalmglehaaOwn
import Derived.Lib.SliceRun
namespace Go.Proofs.Ytjmejdalmglehaa
open Go.ChangeShapes Go.WideShapes Go.ChangeAt Go.RowKit
set_option linter.unusedVariables false

/-- What Clone tells of pairs. -/
structure Cloned (w : World) (l : List Pr) (e : Ending) (W : World) : Prop where
  ex : ∃ o : Sl, e = .returned (.slice o.a o.n o.cap) ∧ Below w.heap.size w W ∧ W.ownsRow w.heap.size 38 2 (.slice o.a o.n o.cap) l.length (encP l)
theorem row_sl {W : World} {base : Nat} {e : TypeId} {size n : Nat} {v : Value} {xs : List Value} (h : W.ownsRow base e size v n xs) : ∃ o : Sl, v = .slice o.a o.n o.cap := by
  rcases h.2 with ⟨rfl, _⟩ | ⟨g, cap, cur, rfl, _⟩
  · exact ⟨nilS, rfl⟩
  · exact ⟨⟨some ⟨g, 0, none⟩, n, cap⟩, rfl⟩
theorem Cloned.of {w W : World} {l : List Pr} {v : Value} (hb : Below w.heap.size w W) (h : W.ownsRow w.heap.size 38 2 v l.length (encP l)) : Cloned w l (.returned v) W := by
  obtain ⟨o, rfl⟩ := row_sl h
  exact ⟨⟨o, rfl, hb, h⟩⟩
theorem q24 (w : World) (a : Option Addr) (n c n' c' : Nat) : (binOp .eql 24 (.slice a n c) (.slice none n' c')).run Try.prog w = .ok (.bool a.isNone) w := Lib.run_eql_slice_nil w _ _ a n c n' c' Try.underlying24
set_option maxRecDepth 100000 in
set_option maxHeartbeats 4000000 in
theorem clone_any (s : Sl) (l : List Pr) (w : World) (h : Reads w s 2 (encP l)) (hl : l.length < 100000) : Calls Try.prog 32 #[.slice s.a s.n s.cap] w (Cloned w l) := by
  have q := @q24
  have hn := h.lenP
  cases hs : s.a with
  | none =>
    have h0 := (h.nil hs)
    have hl0 : l = [] := List.length_eq_zero_iff.1 (by omega)
    subst hl0
    obtain ⟨sa, sn, sc⟩ := s
    dsimp only at *
    obtain ⟨rfl, rfl⟩ := h0
    subst hs
    clear h hn
    go_enter Try.func32, Try.ntmps32
    go_wp2
    go_ret
    exact Cloned.of (Below.refl _ _) (World.ownsRow_nil _ _ _ _)
  | some ad =>
    obtain ⟨i0, hi, hz0, hz1, hz2⟩ := info_parts info38
    have hm := World.ownsRow_made (base := w.heap.size) (e := 38) (size := 2) w #[] 0 (Nat.le_refl _) (by simp [maxLen]) rfl
    have HC : Hid (∀ j u, (encP l)[j]? = some u → (w.alloc (.cells #[] 38)).cell? (ad.add j) = some u) := Lib.hid fun j u hj => by
      obtain ⟨b, off, e, hc⟩ := h.cell j u hj
      rw [hs] at e
      obtain rfl := Option.some.inj e
      rw [Addr.add_lit]
      exact cell_below hc (box1 _)
    have hlen : (encP l).length = l.length * 2 := by rw [encP_len]; omega
    have HO := Lib.hid (encP_one l)
    obtain ⟨sa, sn, sc⟩ := s
    dsimp only at *
    subst hs hn
    clear h
    go_enter Try.func32, Try.ntmps32
    go_wp2_with (at_builtin; refine wpList_append_own _ rfl _ _ 24 rfl w.heap.size 38 i0 _ 2 8 Try.underlying24 hi hz0 hz1 hz2 rfl (by decide) _ _ _ rfl hm ad l.length sc (encP l) rfl hlen HC.out HO.out (by simp only [maxLen]; omega) (by omega) (by simp) ?_; intro v' w1 hown hgrow _)
    go_ret
    refine Cloned.of (((Below.refl _ _).alloc (Nat.le_refl _) _).grown hgrow (by simp) (fun k e => ?_)) (by simpa using hown)
    cases e
    exact Nat.le_refl _

theorem Cloned.then {w V W : World} {l : List Pr} {e : Ending} (hb : Below w.heap.size w V) (h : Cloned V l e W) : Cloned w l e W := by
  obtain ⟨o, h1, h2, h3⟩ := h.ex
  exact ⟨⟨o, h1, below_then hb h2, h3.mono hb.size⟩⟩
set_option maxRecDepth 100000 in
theorem list_any (B : Nat) (s : Sl) (l : List Pr) (w : World) (h : BagS w B s l) (hl : l.length < 100000) : Calls Try.prog 15 #[.pointer (some ⟨B, 0, none⟩)] w (Cloned w l) := by
  have KA := all_any B s l w h
  have KC := clone_any s l w h.row.reads hl
  clear h
  go_enter Try.func15, Try.ntmps15
  go_wp2_with fail
  refine KA.mono ?_
  rintro e w1 ⟨rfl, rfl⟩
  go_wp2_with fail
  refine KC.mono ?_
  rintro e w2 ⟨⟨oa, on, oc⟩, rfl, h1, h2⟩
  have HF := Lib.hid (Cloned.of h1 h2)
  clear h1 h2 KC KA
  go_wp2
  go_ret
  exact HF.out
end Go.Proofs.Ytjmejdalmglehaa
