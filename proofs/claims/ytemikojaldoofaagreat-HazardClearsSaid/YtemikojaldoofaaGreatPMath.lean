/- Which place has which address: plain mathematics. -/
import Derived.Test.YtemikojaldoofaaGreatPWhere
namespace Go.Proofs.YtemikojaldoofaaGreat.P
set_option linter.unusedVariables false

set_option maxRecDepth 20000


theorem div_mod_of {S q r : Int} (hS : 0 < S) (h0 : 0 ≤ r) (h1 : r < S) : (q * S + r) / S = q ∧ (q * S + r) % S = r :=
  (Int.ediv_emod_unique hS).2 ⟨by rw [Int.mul_comm q S]; omega, h0, h1⟩
theorem row_in {S T q r : Int} (h0 : 0 ≤ q) (h1 : q < T) (h2 : 0 ≤ r) (h3 : r < S) : 0 ≤ q * S + r ∧ q * S + r < T * S := by
  have a : 0 ≤ q * S := Int.mul_nonneg h0 (by omega)
  have b : (q + 1) * S ≤ T * S := Int.mul_le_mul_of_nonneg_right (by omega) (by omega)
  rw [Int.add_mul, Int.one_mul] at b
  omega

variable {c : Cf}
theorem place_0 (h : c.Ok) {i : Int} (h0 : 0 ≤ i) (h1 : i < 8) : c.place i = (0, i, 0) := by
  unfold Cf.place
  rw [if_neg (by omega), if_pos h1]
theorem place_1 (h : c.Ok) {t s : Int} (h0 : 0 ≤ t) (h1 : t < c.th) (h2 : 0 ≤ s) (h3 : s < c.slots) : c.place (8 + t * c.slots + s) = (1, t, s) := by
  obtain ⟨a, b⟩ := row_in h0 h1 h2 h3
  obtain ⟨d, e⟩ := div_mod_of (q := t) (show 0 < c.slots by omega) h2 h3
  have ho : c.o2 = 8 + c.th * c.slots := rfl
  have hs : 8 + t * c.slots + s - 8 = t * c.slots + s := by omega
  unfold Cf.place
  rw [if_neg (by omega), if_neg (by omega), if_pos (by omega), hs, d, e]
theorem place_2 (h : c.Ok) {n : Int} (h0 : 1 ≤ n) (h1 : n ≤ c.nd) : c.place (c.o2 + (n - 1)) = (2, n, 0) := by
  obtain ⟨u1, u2, u3, u4, u5⟩ := h.steps
  have ho : c.o3 = c.o2 + c.nd * 1 := rfl
  unfold Cf.place
  rw [if_neg (by omega), if_neg (by omega), if_neg (by omega), if_pos (by omega)]
  congr 2
  omega
theorem place_3 (h : c.Ok) {n f : Int} (h0 : 1 ≤ n) (h1 : n ≤ c.nd) (h2 : 0 ≤ f) (h3 : f < c.width) : c.place (c.o3 + (n - 1) * c.width + f) = (3, n, f) := by
  obtain ⟨u1, u2, u3, u4, u5⟩ := h.steps
  obtain ⟨a, b⟩ := row_in (q := n - 1) (T := c.nd) (by omega) (by omega) h2 h3
  obtain ⟨d, e⟩ := div_mod_of (q := n - 1) (show 0 < c.width by omega) h2 h3
  have ho : c.o4 = c.o3 + c.nd * c.width := rfl
  have hs : c.o3 + (n - 1) * c.width + f - c.o3 = (n - 1) * c.width + f := by omega
  unfold Cf.place
  rw [if_neg (by omega), if_neg (by omega), if_neg (by omega), if_neg (by omega), if_pos (by omega), hs, d, e]
  congr 2
  omega
theorem place_4 (h : c.Ok) {i : Int} (h0 : 0 ≤ i) (h1 : i < c.places) : c.place (c.o4 + i) = (4, i, 0) := by
  obtain ⟨u1, u2, u3, u4, u5⟩ := h.steps
  have ho : c.size = c.o4 + c.places * 1 := rfl
  unfold Cf.place
  rw [if_neg (by omega), if_neg (by omega), if_neg (by omega), if_neg (by omega), if_neg (by omega), if_pos (by omega)]
  congr 2
  omega
theorem place_5 (h : c.Ok) {a : Int} (h0 : a < 0 ∨ c.size ≤ a) : c.place a = (5, 0, 0) := by
  obtain ⟨u1, u2, u3, u4, u5⟩ := h.steps
  unfold Cf.place
  rcases h0 with h0 | h0
  · rw [if_pos h0]
  · rw [if_neg (by omega), if_neg (by omega), if_neg (by omega), if_neg (by omega), if_neg (by omega), if_neg (by omega)]

/-- Each address lies in just one thing, which has this address. -/
theorem place_cases (h : c.Ok) {a : Int} (h0 : 0 ≤ a) (h1 : a < c.size) :
    (a < 8 ∧ c.place a = (0, a, 0)) ∨ (∃ t s, c.place a = (1, t, s) ∧ 0 ≤ t ∧ t < c.th ∧ 0 ≤ s ∧ s < c.slots ∧ c.hazard t s = a) ∨ (∃ n, c.place a = (2, n, 0) ∧ 1 ≤ n ∧ n ≤ c.nd ∧ c.link n = a) ∨
    (∃ n f, c.place a = (3, n, f) ∧ 1 ≤ n ∧ n ≤ c.nd ∧ 0 ≤ f ∧ f < c.width ∧ c.node n f = a) ∨ (∃ p, c.place a = (4, p, 0) ∧ 0 ≤ p ∧ p < c.places ∧ c.tree p = a) := by
  obtain ⟨u1, u2, u3, u4, u5⟩ := h.steps
  have s1 := h.slots
  have q1 := h.width
  by_cases g1 : a < 8
  · exact .inl ⟨g1, place_0 h h0 g1⟩
  by_cases g2 : a < c.o2
  · refine .inr (.inl ⟨(a - 8) / c.slots, (a - 8) % c.slots, ?_⟩)
    have e := Int.mul_ediv_add_emod (a - 8) c.slots
    have m0 := Int.emod_nonneg (a - 8) (show c.slots ≠ 0 by omega)
    have m1 := Int.emod_lt_of_pos (a - 8) (show 0 < c.slots by omega)
    have d0 := Int.ediv_nonneg (show 0 ≤ a - 8 by omega) (show 0 ≤ c.slots by omega)
    have d1 : (a - 8) / c.slots < c.th := Int.ediv_lt_of_lt_mul (by omega) (by have ho : c.o2 = 8 + c.th * c.slots := rfl; omega)
    rw [Int.mul_comm] at e
    refine ⟨by unfold Cf.place; rw [if_neg (by omega), if_neg (by omega), if_pos (by omega)], d0, d1, m0, m1, ?_⟩
    unfold Cf.hazard
    rw [addrN_yes ⟨by omega, by omega, m0, m1⟩, Int.sub_zero]
    omega
  by_cases g3 : a < c.o3
  · have ho : c.o3 = c.o2 + c.nd * 1 := rfl
    refine .inr (.inr (.inl ⟨1 + (a - c.o2), by unfold Cf.place; rw [if_neg (by omega), if_neg (by omega), if_neg (by omega), if_pos (by omega)], by omega, by omega, ?_⟩))
    unfold Cf.link
    rw [addrN_yes ⟨by omega, by omega, by omega, by omega⟩]
    omega
  by_cases g4 : a < c.o4
  · refine .inr (.inr (.inr (.inl ⟨1 + (a - c.o3) / c.width, (a - c.o3) % c.width, ?_⟩)))
    have e := Int.mul_ediv_add_emod (a - c.o3) c.width
    have m0 := Int.emod_nonneg (a - c.o3) (show c.width ≠ 0 by omega)
    have m1 := Int.emod_lt_of_pos (a - c.o3) (show 0 < c.width by omega)
    have d0 := Int.ediv_nonneg (show 0 ≤ a - c.o3 by omega) (show 0 ≤ c.width by omega)
    have d1 : (a - c.o3) / c.width < c.nd := Int.ediv_lt_of_lt_mul (by omega) (by have ho : c.o4 = c.o3 + c.nd * c.width := rfl; omega)
    rw [Int.mul_comm] at e
    refine ⟨by unfold Cf.place; rw [if_neg (by omega), if_neg (by omega), if_neg (by omega), if_neg (by omega), if_pos (by omega)], by omega, by omega, m0, m1, ?_⟩
    unfold Cf.node
    rw [addrN_yes ⟨by omega, by omega, m0, m1⟩, show 1 + (a - c.o3) / c.width - 1 = (a - c.o3) / c.width by omega]
    omega
  · have ho : c.size = c.o4 + c.places * 1 := rfl
    refine .inr (.inr (.inr (.inr ⟨a - c.o4, by unfold Cf.place; rw [if_neg (by omega), if_neg (by omega), if_neg (by omega), if_neg (by omega), if_neg (by omega), if_pos (by omega)], by omega, by omega, ?_⟩)))
    unfold Cf.tree
    rw [addrN_yes ⟨by omega, by omega, by omega, by omega⟩]
    omega

/-- r is where x is found first among the places of the addresses, or -1. -/
def Finds (c : Cf) (x : Int × Int × Int) (r : Int) : Prop :=
  (r = -1 ∧ ∀ j, 0 ≤ j → j < c.size → c.place j ≠ x) ∨ (0 ≤ r ∧ r < c.size ∧ c.place r = x ∧ ∀ j, 0 ≤ j → j < r → c.place j ≠ x)
theorem finds_of {x : Int × Int × Int} {r : Int} (h1 : ∀ j, 0 ≤ j → j < c.size → c.place j = x → r = j) (h2 : r = -1 ∨ (0 ≤ r ∧ r < c.size ∧ c.place r = x)) : Finds c x r := by
  rcases h2 with h2 | ⟨h2, h3, h4⟩
  · exact .inl ⟨h2, fun j a b e => by have := h1 j a b e; omega⟩
  · exact .inr ⟨h2, h3, h4, fun j a b e => by have := h1 j a (by omega) e; omega⟩
theorem finds_hazard (h : c.Ok) (x y : Int) : Finds c (1, x, y) (c.hazard x y) := by
  refine finds_of (fun j a b e => ?_) ?_
  · rcases place_cases h a b with ⟨_, g⟩ | ⟨t, s, g, _, _, _, _, k⟩ | ⟨n, g, _⟩ | ⟨n, f, g, _⟩ | ⟨p, g, _⟩ <;> rw [g] at e <;> simp at e
    rw [← e.1, ← e.2]
    exact k
  · by_cases g : 0 ≤ x ∧ x - 0 < c.th ∧ 0 ≤ y ∧ y < c.slots
    · right
      have hv : c.hazard x y = 8 + x * c.slots + y := by unfold Cf.hazard; rw [addrN_yes g, Int.sub_zero]
      obtain ⟨a, b⟩ := row_in (S := c.slots) (T := c.th) (q := x) (r := y) g.1 (by omega) g.2.2.1 g.2.2.2
      have ho : c.o2 = 8 + c.th * c.slots := rfl
      obtain ⟨u1, u2, u3, u4, u5⟩ := h.steps
      rw [hv]
      exact ⟨by omega, by omega, place_1 h g.1 (by omega) g.2.2.1 g.2.2.2⟩
    · left
      exact addrN_no g
theorem finds_link (h : c.Ok) (x : Int) : Finds c (2, x, 0) (c.link x) := by
  refine finds_of (fun j a b e => ?_) ?_
  · rcases place_cases h a b with ⟨_, g⟩ | ⟨t, s, g, _⟩ | ⟨n, g, _, _, k⟩ | ⟨n, f, g, _⟩ | ⟨p, g, _⟩ <;> rw [g] at e <;> simp at e
    rw [← e]
    exact k
  · by_cases g : 1 ≤ x ∧ x - 1 < c.nd ∧ (0 : Int) ≤ 0 ∧ (0 : Int) < 1
    · right
      have hv : c.link x = c.o2 + (x - 1) := by unfold Cf.link; rw [addrN_yes g]; omega
      have ho : c.o3 = c.o2 + c.nd * 1 := rfl
      obtain ⟨u1, u2, u3, u4, u5⟩ := h.steps
      rw [hv]
      exact ⟨by omega, by omega, place_2 h g.1 (by omega)⟩
    · left
      exact addrN_no g
theorem finds_node (h : c.Ok) (x y : Int) : Finds c (3, x, y) (c.node x y) := by
  refine finds_of (fun j a b e => ?_) ?_
  · rcases place_cases h a b with ⟨_, g⟩ | ⟨t, s, g, _⟩ | ⟨n, g, _⟩ | ⟨n, f, g, _, _, _, _, k⟩ | ⟨p, g, _⟩ <;> rw [g] at e <;> simp at e
    rw [← e.1, ← e.2]
    exact k
  · by_cases g : 1 ≤ x ∧ x - 1 < c.nd ∧ 0 ≤ y ∧ y < c.width
    · right
      have hv : c.node x y = c.o3 + (x - 1) * c.width + y := by unfold Cf.node; rw [addrN_yes g]
      obtain ⟨a, b⟩ := row_in (S := c.width) (T := c.nd) (q := x - 1) (r := y) (by omega) (by omega) g.2.2.1 g.2.2.2
      have ho : c.o4 = c.o3 + c.nd * c.width := rfl
      obtain ⟨u1, u2, u3, u4, u5⟩ := h.steps
      rw [hv]
      exact ⟨by omega, by omega, place_3 h g.1 (by omega) g.2.2.1 g.2.2.2⟩
    · left
      exact addrN_no g
theorem finds_tree (h : c.Ok) (x : Int) : Finds c (4, x, 0) (c.tree x) := by
  refine finds_of (fun j a b e => ?_) ?_
  · rcases place_cases h a b with ⟨_, g⟩ | ⟨t, s, g, _⟩ | ⟨n, g, _⟩ | ⟨n, f, g, _⟩ | ⟨p, g, _, _, k⟩ <;> rw [g] at e <;> simp at e
    rw [← e]
    exact k
  · by_cases g : 0 ≤ x ∧ x - 0 < c.places ∧ (0 : Int) ≤ 0 ∧ (0 : Int) < 1
    · right
      have hv : c.tree x = c.o4 + x := by unfold Cf.tree; rw [addrN_yes g]; omega
      have ho : c.size = c.o4 + c.places * 1 := rfl
      obtain ⟨u1, u2, u3, u4, u5⟩ := h.steps
      rw [hv]
      exact ⟨by omega, by omega, place_4 h g.1 (by omega)⟩
    · left
      exact addrN_no g
theorem finds_in {x : Int × Int × Int} {r : Int} (h : c.Ok) (hf : Finds c x r) : -1 ≤ r ∧ r ≤ 924 := by
  obtain ⟨u1, u2, u3, u4, u5⟩ := h.steps
  rcases hf with ⟨rfl, _⟩ | ⟨a, b, _⟩ <;> omega
end Go.Proofs.YtemikojaldoofaaGreat.P
