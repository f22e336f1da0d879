/- The chapter's example. -/
import Derived.Test.YtnedifcjenlcjaaAAl
import Derived.Test.YtnedifcjenlcjaaKLives
namespace Go.Proofs.Ytnedifcjenlcjaa
open Go.ChangeShapes Go.WideShapes Go.ChangeAt Go.RowKit
set_option linter.unusedVariables false
set_option maxRecDepth 20000

theorem ex_ok : ex.Ok := by constructor <;> decide
/-- A machine that New makes is at rest, and nobody has a node. -/
theorem AL.born {c : P.Cf} (hc : c.Ok) {w W : World} {Cb Pb B Fb T : Nat} {ad : Option Addr} {cap : Nat} {gs : Gh} {O : Nat → Prop} (hgs : GhOk true c gs) (h : Amid c 0 [] w Cb Pb B Fb T ad cap (firstMS c) gs c.th.toNat O W) :
    ∃ g t X, AL c B Fb T g t .idle (list0 c) [] 0 (firstMS c).st X W ∧ (∀ k, X k → w.heap.size ≤ k) ∧ Below w.heap.size w W := by
  have hgs' : ∃ g t, gs = some (g, t, ghost0 c) := hgs
  obtain ⟨g, t, rfl⟩ := hgs'
  obtain ⟨X, m, hX⟩ := born_mac hc h
  refine ⟨g, t, X, ⟨_, _, _, m, ?_, fun _ => rfl⟩, hX, h.bel⟩
  have := first_inv hc c.th.toNat
  have e : own0 [] = fun _ => [] := by funext j; simp only [own0, updL]; split <;> rfl
  rw [idl_id, e]
  exact this
theorem alt_below {c : P.Cf} {B Fb T g t : Nat} {p : Ph} {L hv : List Int} {s : Nat} {st : Int} {X X' : Nat → Prop} {w W W' : World} (hb : Below w.heap.size w W) (hX : ∀ k, X k → w.heap.size ≤ k) (hk : Keeps X W W') (hl : Later X W X') :
    Below w.heap.size w W' ∧ ∀ k, X' k → w.heap.size ≤ k := by
  refine ⟨hb.trans (hk.below hb.size hX), fun k h => ?_⟩
  rcases hl k h with h | h
  · exact hX k h
  · exact Nat.le_trans hb.size h
/-- A machine at rest, since w. -/
def ALw (c : P.Cf) (w : World) (B Fb T g t : Nat) (p : Ph) (L hv : List Int) (s : Nat) (st : Int) (W : World) : Prop :=
  ∃ X, AL c B Fb T g t p L hv s st X W ∧ (∀ k, X k → w.heap.size ≤ k) ∧ Below w.heap.size w W
theorem ALw.call {c : P.Cf} {w W : World} {B Fb T g t : Nat} {p p' : Ph} {L hv L' hv' : List Int} {s s' : Nat} {st st' : Int} (h : ALw c w B Fb T g t p L hv s st W) {K : Nat} {args : Array Value} {v : Value}
    (hK : ∀ X, AL c B Fb T g t p L hv s st X W → Calls Try.prog K args W (ALT c B Fb T g t p' L' hv' s' st' v X W)) : Calls Try.prog K args W fun e W' => e = .returned v ∧ ALw c w B Fb T g t p' L' hv' s' st' W' := by
  obtain ⟨X, a, hX, hb⟩ := h
  refine (hK X a).mono ?_
  rintro e W' ⟨rfl, X', k, l, a'⟩
  obtain ⟨h1, h2⟩ := alt_below (c := c) (B := B) (Fb := Fb) (T := T) (g := g) (t := t) (p := p) (L := L) (hv := hv) (s := s) (st := st) hb hX k l
  exact ⟨rfl, X', a', h2, h1⟩
theorem ALw.below {c : P.Cf} {w W W' : World} {B Fb T g t : Nat} {p : Ph} {L hv : List Int} {s : Nat} {st : Int} (h : ALw c w B Fb T g t p L hv s st W) (hb : Below W.heap.size W W') : ALw c w B Fb T g t p L hv s st W' := by
  obtain ⟨X, a, hX, hbl⟩ := h
  exact ⟨X, a.below hb, hX, P.below_then hbl hb (Nat.le_refl _)⟩
theorem list0_ex : list0 ex = [1, 2] := by decide
theorem born_alw {c : P.Cf} (hc : c.Ok) {w : World} : Calls Try.prog 8 #[c.v, .slice none 0 0, .bool true] w fun e W => ∃ B Fb T g t, e = .returned (.tuple #[at0 B, .int .i64 0]) ∧ ALw c w B Fb T g t .idle (list0 c) [] 0 (firstMS c).st W := by
  refine (new_ok c _ true 0 [] w hc (fun W' _ => F.new_nil W')).mono ?_
  rintro e W ⟨Cb1, Pb1, B, Fb, T, ad, cap1, gs, O, rfl, hgs, hA⟩
  obtain ⟨g, t, X, a, hX, hb⟩ := AL.born hc hgs hA
  exact ⟨B, Fb, T, g, t, rfl, X, a, hX, hb⟩
set_option maxHeartbeats 2000000 in
theorem lives_any (w : World) : Calls Try.prog 7 #[] w fun e w' => e = .returned (.bool true) ∧ Below w.heap.size w w' := by
  have KN := born_alw ex_ok (w := w)
  rw [list0_ex] at KN
  have hst := (first_mk ex_ok).2
  generalize (firstMS ex).st = st at *
  have ev : ex.v = .agg #[.int .i64 0, .int .i64 1, .int .i64 2, .int .i64 1, .int .i64 1, .int .i64 1, .int .i64 1] := rfl
  rw [ev] at KN
  have HST := Lib.hid hst
  clear ev hst
  go_enter Try.func7, Try.ntmps7
  go_wp2_with fail
  refine KN.mono ?_
  rintro e W ⟨B, Fb, T, g, t, rfl, h⟩
  have K1 := h.call (fun X a => al_some ex_ok a (by omega) ⟨HST.out.1, by have := HST.out; omega⟩)
  clear h KN
  go_wp2_with fail
  refine K1.mono ?_
  rintro e W1 ⟨rfl, h⟩
  have K2 := h.call (fun X a => al_some ex_ok a (by omega) ⟨by have := HST.out; omega, by have := HST.out; omega⟩)
  clear h K1
  go_wp2_with fail
  refine K2.mono ?_
  rintro e W2 ⟨rfl, h⟩
  have K3 := h.call (fun X a => al_none ex_ok a (by omega) ⟨by have := HST.out; omega, by have := HST.out; omega⟩)
  clear h K2
  go_wp2_with fail
  refine K3.mono ?_
  rintro e W3 ⟨rfl, h⟩
  have K4 := h.call (fun X a => al_gone (l1 := []) (l2 := [2]) ex_ok a)
  clear h K3
  go_wp2_with fail
  refine K4.mono ?_
  rintro e W4 ⟨rfl, h⟩
  have K5 := h.call (fun X a => al_free ex_ok a (by omega) ⟨by have := HST.out; omega, by have := HST.out; omega⟩)
  clear h K4
  go_wp2_with fail
  refine K5.mono ?_
  rintro e W5 ⟨rfl, X, a, hX, hb⟩
  have K6 := al_chain ex_ok a (by omega)
  have HB := Lib.hid hb
  clear K5 a hX hb
  go_wp2_with fail
  refine K6.mono ?_
  rintro e W6 ⟨v, rfl, ho, hb6⟩
  obtain ⟨gc, cap, rfl⟩ := ownsRow_succ (k := 0) ho
  have hc0 := ho.cellAt 0 (by simp)
  simp at hc0
  have hcap : 1 ≤ cap := by
    rcases ho.2 with ⟨ev, hz⟩ | ⟨g', cap', cur, ev, hg, hcur, hc, hmm, hx⟩
    · simp at hz
    · cases ev; simpa using hc
  have H6 := Lib.hid (P.below_then HB.out hb6 (Nat.le_refl _))
  clear K6 ho hb6
  go_wp2
  go_ret
  exact ⟨by simp, H6.out⟩
end Go.Proofs.Ytnedifcjenlcjaa
