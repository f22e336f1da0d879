/- What GhostPlays keeps beside the ghost: tags and a first fault of its own. -/
import Derived.Test.YtdipomdnihfjjaaDo
import Derived.Deep.Cut
import Derived.Deep.CutRange
import Derived.Deep.QuietTactic
import Derived.BigQuiet
import Derived.Deep.RegionHeld3
namespace Go.Proofs.Ytdipomdnihfjjaa
open Go.ChangeShapes Go.WideShapes Go.ChangeAt Go.RowKit
set_option linter.unusedVariables false

/-- How many nodes there are. -/
def nodesOf (n : Int) : Nat := if n < 1 ∨ 64 < n then 0 else n.toNat
theorem nodesOf_le (n : Int) : nodesOf n ≤ 64 := by unfold nodesOf; split <;> omega
theorem new_any (n l : Int) (w : World) : Calls Try.prog 6 #[.int .i64 n, .int .i64 l] w (NewG (nodesOf n) ⟨tags0 (nodesOf n) (min l (nodesOf n)).toNat, 0, 0⟩ w) := by
  unfold nodesOf
  by_cases h : n < 1 ∨ 64 < n
  · rw [if_pos h]
    have e : (min l ((0 : Nat) : Int)).toNat = 0 := by omega
    rw [e]
    exact new_none n l w h
  · rw [if_neg h]
    have := new_some n.toNat l w (by omega) (by omega)
    rwa [show ((n.toNat : Nat) : Int) = n by omega] at this ⊢

theorem kind_out {s : GS} {n : Nat} {k i : Int} (h : i < 1 ∨ (n : Int) < i) : kindOf s n k i = 5 := by simp [kindOf, h]
theorem kind_touch {s : GS} {n j : Nat} (h : j < n) : kindOf s n 3 ((j : Int) + 1) = if tagAt s.tags j = 0 then 4 else 0 := by
  have : ¬ ((j : Int) + 1 < 1 ∨ (n : Int) < (j : Int) + 1) := by omega
  simp [kindOf, this]
theorem kind_turn {s : GS} {n j : Nat} {k : Int} (h : j < n) (hk : k ≤ 2) : kindOf s n k ((j : Int) + 1) = if tagAt s.tags j ≠ k then k + 1 else 0 := by
  have : ¬ ((j : Int) + 1 < 1 ∨ (n : Int) < (j : Int) + 1) := by omega
  have h3 : ¬ k = 3 := by omega
  simp [kindOf, this, h3]
theorem then_bad {s : GS} {n : Nat} {k i : Int} (h : kindOf s n k i ≠ 0) : (s.then n k i).tags = s.tags := by
  simp only [GS.then, if_pos h, GS.bad]; split <;> rfl
theorem then_touch {s : GS} {n : Nat} {i : Int} : (s.then n 3 i).tags = s.tags := by
  by_cases h : kindOf s n 3 i ≠ 0
  · exact then_bad h
  · simp only [GS.then, if_neg h]; rfl
theorem then_turn {s : GS} {n j : Nat} {k : Int} (h : kindOf s n k ((j : Int) + 1) = 0) (hk : k ≤ 2) : (s.then n k ((j : Int) + 1)).tags = s.tags.set j ((k + 1) % 3) := by
  have h3 : ¬ k = 3 := by omega
  simp [GS.then, h, h3]
theorem then_good {s : GS} {n : Nat} {k i : Int} (h : kindOf s n k i = 0) : (s.then n k i).k = s.k ∧ (s.then n k i).i = s.i := by
  simp only [GS.then, h, ne_eq, not_true_eq_false, if_false]; split <;> exact ⟨rfl, rfl⟩
theorem then_old {s : GS} {n : Nat} {k i : Int} (h : s.k ≠ 0) : (s.then n k i).k = s.k ∧ (s.then n k i).i = s.i := by
  by_cases hk : kindOf s n k i = 0
  · exact then_good hk
  · simp [GS.then, hk, GS.bad, h]
theorem then_new {s : GS} {n : Nat} {k i : Int} (hk : kindOf s n k i ≠ 0) (h : s.k = 0) : (s.then n k i).k = kindOf s n k i ∧ (s.then n k i).i = i := by
  simp [GS.then, hk, GS.bad, h]
/-- All are tags. -/
def Fit (l : List Int) : Prop := ∀ x ∈ l, 0 ≤ x ∧ x ≤ 2
theorem Fit.then {s : GS} {n : Nat} {k i : Int} (h : Fit s.tags) (k0 : 0 ≤ k) (k3 : k ≤ 3) : Fit (s.then n k i).tags := by
  by_cases hk : kindOf s n k i ≠ 0
  · rw [then_bad hk]; exact h
  · by_cases h3 : k = 3
    · subst h3; rw [then_touch]; exact h
    · simp only [GS.then, if_neg hk, if_neg h3]
      intro x hx
      rcases List.mem_or_eq_of_mem_set hx with hx | rfl
      · exact h x hx
      · omega
theorem Fit.at {l : List Int} (h : Fit l) {j : Nat} (hj : j < l.length) : 0 ≤ tagAt l j ∧ tagAt l j ≤ 2 := by
  have : tagAt l j = l[j] := by simp [tagAt, hj]
  rw [this]
  exact h _ (List.getElem_mem hj)
theorem fit0 (n m : Nat) : Fit (tags0 n m) := by
  intro x hx
  simp [tags0] at hx
  omega

/-- The ghost s, the law's own tags and first fault, and all else as it was. -/
structure Pl (B : Nat) (ad : Option Addr) (T Fb n : Nat) (s : GS) (lt : List Int) (fk fi : Int) (w W : World) : Prop where
  at_ : GAt B ad n s W
  low : w.heap.size ≤ B ∧ ∀ g, ad = some ⟨g, 0, none⟩ → w.heap.size ≤ g
  below : Below w.heap.size w W
  tags : Blk W T 3 (encI lt)
  first : Blk W Fb 28 #[.int .i64 fk, .int .i64 fi]
  own : w.heap.size ≤ T ∧ w.heap.size ≤ Fb
  offT : T ≠ B ∧ ad ≠ some ⟨T, 0, none⟩
  offF : Fb ≠ B ∧ ad ≠ some ⟨Fb, 0, none⟩
  ahead : ∀ g, ad = some ⟨g, 0, none⟩ → g < T
theorem Pl.then {B : Nat} {ad : Option Addr} {T Fb n : Nat} {s s' : GS} {lt : List Int} {fk fi : Int} {w W W' : World} (h : Pl B ad T Fb n s lt fk fi w W) (g : GAt B ad n s' W') (o : Only B ad W W') : Pl B ad T Fb n s' lt fk fi w W' :=
  ⟨g, h.low, h.below.trans (o.below h.below.size h.low.1 h.low.2), o.blk h.tags h.offT.1 h.offT.2, o.blk h.first h.offF.1 h.offF.2, h.own, h.offT, h.offF, h.ahead⟩
theorem Pl.later {B : Nat} {ad : Option Addr} {T Fb n : Nat} {s : GS} {lt : List Int} {fk fi : Int} {w W W' : World} (h : Pl B ad T Fb n s lt fk fi w W) (b : Below W.heap.size W W') : Pl B ad T Fb n s lt fk fi w W' :=
  ⟨h.at_.below b, h.low, h.below.trans (b.mono h.below.size), h.tags.below b, h.first.below b, h.own, h.offT, h.offF, h.ahead⟩
theorem below_drewN {b : Nat} {W W' : World} (h : Below b W W') (q : Nat) : Below b W (W'.drewN q) := by
  exact ⟨h.os, h.tape, h.output, h.size, h.block⟩
theorem Pl.drewN {B : Nat} {ad : Option Addr} {T Fb n : Nat} {s : GS} {lt : List Int} {fk fi : Int} {w W : World} (h : Pl B ad T Fb n s lt fk fi w W) (q : Nat) : Pl B ad T Fb n s lt fk fi w (W.drewN q) := h.later (below_drewN (Below.refl _ _) q)
theorem Pl.setT {B : Nat} {ad : Option Addr} {T Fb n : Nat} {s : GS} {lt : List Int} {fk fi : Int} {w W : World} (h : Pl B ad T Fb n s lt fk fi w W) (j : Nat) (x : Int) : Pl B ad T Fb n s (lt.set j x) fk fi w (W.setCell ⟨T, j, none⟩ (.int .i64 x)) := by
  have hB : B ≠ T := fun e => h.offT.1 e.symm
  refine ⟨⟨h.at_.box.far (p := ⟨T, j, none⟩) hB _, fun hn => ?_, h.at_.len, h.at_.small, h.at_.first⟩, h.low, h.below.setCell (p := ⟨T, j, none⟩) h.own.1 _, set_tag h.tags x, h.first.far (p := ⟨T, j, none⟩) (h.first.ne h.tags (by decide)) _, h.own, h.offT, h.offF, h.ahead⟩
  obtain ⟨G, e, hG⟩ := h.at_.row hn
  exact ⟨G, e, hG.far (p := ⟨T, j, none⟩) (fun e' => h.offT.2 (by rw [e, e'])) _⟩
theorem Pl.setF {B : Nat} {ad : Option Addr} {T Fb n : Nat} {s : GS} {lt : List Int} {fk fi : Int} {w W : World} (h : Pl B ad T Fb n s lt fk fi w W) (x y : Int) : Pl B ad T Fb n s lt x y w ((W.setCell ⟨Fb, 0, none⟩ (.int .i64 x)).setCell ⟨Fb, 1, none⟩ (.int .i64 y)) := by
  have hB : B ≠ Fb := fun e => h.offF.1 e.symm
  have hT : T ≠ Fb := h.tags.ne h.first (by decide)
  refine ⟨⟨(h.at_.box.far (p := ⟨Fb, 0, none⟩) hB _).far (p := ⟨Fb, 1, none⟩) hB _, fun hn => ?_, h.at_.len, h.at_.small, h.at_.first⟩, h.low, (h.below.setCell (p := ⟨Fb, 0, none⟩) h.own.2 _).setCell (p := ⟨Fb, 1, none⟩) h.own.2 _, (h.tags.far (p := ⟨Fb, 0, none⟩) hT _).far (p := ⟨Fb, 1, none⟩) hT _, ?_, h.own, h.offT, h.offF, h.ahead⟩
  · obtain ⟨G, e, hG⟩ := h.at_.row hn
    have hG' : G ≠ Fb := fun e' => h.offF.2 (by rw [e, e'])
    exact ⟨G, e, (hG.far (p := ⟨Fb, 0, none⟩) hG' _).far (p := ⟨Fb, 1, none⟩) hG' _⟩
  · have := (h.first.set 0 (.int .i64 x)).set 1 (.int .i64 y)
    simpa using this
/-- A deed in a variable of its own. -/
structure Bx (B : Nat) (ad : Option Addr) (X : Nat) (k i : Int) (W : World) : Prop where
  blk : Blk W X 30 #[.int .i64 k, .int .i64 i]
  off : X ≠ B ∧ ad ≠ some ⟨X, 0, none⟩
theorem Bx.then {B : Nat} {ad : Option Addr} {X : Nat} {k i : Int} {W W' : World} (h : Bx B ad X k i W) (o : Only B ad W W') : Bx B ad X k i W' := ⟨o.blk h.blk h.off.1 h.off.2, h.off⟩
theorem Bx.later {B : Nat} {ad : Option Addr} {X : Nat} {k i : Int} {W W' : World} (h : Bx B ad X k i W) (b : Below W.heap.size W W') : Bx B ad X k i W' := ⟨h.blk.below b, h.off⟩
theorem Bx.set {B : Nat} {ad : Option Addr} {X : Nat} {k i : Int} {W : World} (h : Bx B ad X k i W) {g : Nat} {t : TypeId} {cs : Array Value} (hg : Blk W g t cs) (ht : t ≠ 30) (j : Nat) (u : Value) : Bx B ad X k i (W.setCell ⟨g, j, none⟩ u) := ⟨h.blk.far (p := ⟨g, j, none⟩) (h.blk.ne hg (fun e => ht e.symm)) _, h.off⟩
theorem Bx.cells {B : Nat} {ad : Option Addr} {X : Nat} {k i : Int} {W : World} (h : Bx B ad X k i W) : W.cell? ⟨X, 0, none⟩ = some (.int .i64 k) ∧ W.cell? ⟨X, 1, none⟩ = some (.int .i64 i) := by
  have a := h.blk.cell 0
  have b := h.blk.cell 1
  simp at a b
  exact ⟨a, b⟩
theorem Pl.cells {B : Nat} {ad : Option Addr} {T Fb n : Nat} {s : GS} {lt : List Int} {fk fi : Int} {w W : World} (h : Pl B ad T Fb n s lt fk fi w W) : W.cell? ⟨Fb, 0, none⟩ = some (.int .i64 fk) ∧ W.cell? ⟨Fb, 1, none⟩ = some (.int .i64 fi) := by
  have a := h.first.cell 0
  have b := h.first.cell 1
  simp at a b
  exact ⟨a, b⟩
/-- The deeds, as they lie. -/
def OpsIn (w : World) (ao : Option Addr) (len : Nat) (F : Nat → Int × Int) : Prop := ∀ j, j < len → ∃ bb off, ao = some ⟨bb, off, none⟩ ∧ w.cell? ⟨bb, off + j * 2, none⟩ = some (.int .i64 (F j).1) ∧ w.cell? ⟨bb, off + j * 2 + 1, none⟩ = some (.int .i64 (F j).2)
end Go.Proofs.Ytdipomdnihfjjaa
