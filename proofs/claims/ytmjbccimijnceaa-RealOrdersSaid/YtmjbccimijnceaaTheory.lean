/- Which orders may be, who is left, who comes next: by the document. -/
import Derived.Test.YtmjbccimijnceaaAhead
namespace Go.Proofs.Ytmjbccimijnceaa
set_option linter.unusedVariables false

def ith (l : List Opr) (i : Nat) : Opr := l.getD i zo
theorem ith_lt {l : List Opr} {i : Nat} (h : i < l.length) : l[i]? = some (ith l i) := by simp [ith, List.getD_eq_getElem?_getD, List.getElem?_eq_getElem h]
/-- Is the operation at x ahead of the one at y? -/
def aheadAt (l : List Opr) (x y : Int) : Bool := ahd (ith l x.toNat) (ith l y.toNat)

/-- How an order that may be begins. -/
structure Okp (l : List Opr) (p : List Int) : Prop where
  range : ∀ x ∈ p, 0 ≤ x ∧ x < l.length
  nodup : p.Nodup
  pair : p.Pairwise fun x y => aheadAt l y x = false
theorem okp_nil (l : List Opr) : Okp l [] := ⟨by simp, by simp, by simp⟩
theorem okp_snoc {l : List Opr} {p : List Int} {x : Int} : Okp l (p ++ [x]) ↔ Okp l p ∧ (0 ≤ x ∧ x < l.length) ∧ x ∉ p ∧ ∀ y ∈ p, aheadAt l x y = false := by
  constructor
  · rintro ⟨h1, h2, h3⟩
    rw [List.nodup_append] at h2
    rw [List.pairwise_append] at h3
    refine ⟨⟨fun x hx => h1 x (by simp [hx]), h2.1, h3.1⟩, h1 x (by simp), fun hx => h2.2.2 x hx x (by simp) rfl, fun y hy => h3.2.2 y hy x (by simp)⟩
  · rintro ⟨⟨h1, h2, h3⟩, h4, h5, h6⟩
    refine ⟨fun y hy => ?_, ?_, ?_⟩
    · simp at hy
      rcases hy with hy | rfl
      · exact h1 y hy
      · exact h4
    · rw [List.nodup_append]
      refine ⟨h2, by simp, fun a ha b hb e => ?_⟩
      simp at hb
      subst hb e
      exact h5 ha
    · rw [List.pairwise_append]
      refine ⟨h3, by simp, fun a ha b hb => ?_⟩
      simp at hb
      subst hb
      exact h6 a ha
theorem Okp.prefix {l : List Opr} {p q : List Int} (h : Okp l q) (hp : p <+: q) : Okp l p :=
  ⟨fun x hx => h.range x (hp.subset hx), h.nodup.sublist hp.sublist, h.pair.sublist hp.sublist⟩

/-- May an order be? -/
def Mays (l : List Opr) (p : List Int) : Prop := Okp l p ∧ ∀ k : Nat, k < l.length → ans (ith l k) = true → (k : Int) ∈ p

/-- Where the one of an order begins that begins last. -/
structure LastF (l : List Opr) (p : List Int) (F : Int) : Prop where
  up : ∀ x ∈ p, (ith l x.toNat).f ≤ F
  at_ : F ≤ -1 ∨ ∃ x ∈ p, (ith l x.toNat).f = F
theorem lastF_nil (l : List Opr) : LastF l [] (-9223372036854775808) := ⟨by simp, .inl (by omega)⟩
theorem LastF.ahead {l : List Opr} {p : List Int} {F : Int} (h : LastF l p F) (o b : Opr) (hb : b.f = F) : ahd o b = true ↔ ∃ y ∈ p, ahd o (ith l y.toNat) = true := by
  constructor
  · intro ha
    rcases h.at_ with h1 | ⟨x, hx, e⟩
    · unfold ahd at ha
      simp at ha
      omega
    · refine ⟨x, hx, ?_⟩
      unfold ahd at ha ⊢
      rw [e, ← hb]
      exact ha
  · rintro ⟨y, hy, ha⟩
    have := h.up y hy
    unfold ahd at ha ⊢
    simp at ha ⊢
    omega
theorem LastF.no {l : List Opr} {p : List Int} {F : Int} (h : LastF l p F) (o b : Opr) (hb : b.f = F) (ha : ahd o b = false) : ∀ y ∈ p, ahd o (ith l y.toNat) = false := fun y hy => by
  cases e : ahd o (ith l y.toNat) with
  | false => rfl
  | true => rw [(h.ahead o b hb).2 ⟨y, hy, e⟩] at ha; cases ha
theorem LastF.more {l : List Opr} {p : List Int} {F : Int} (h : LastF l p F) {x : Int} (hx : F < (ith l x.toNat).f) : LastF l (p ++ [x]) (ith l x.toNat).f := by
  refine ⟨fun y hy => ?_, .inr ⟨x, by simp, rfl⟩⟩
  simp at hy
  rcases hy with hy | rfl
  · have := h.up y hy; omega
  · omega
theorem LastF.less {l : List Opr} {p : List Int} {F : Int} (h : LastF l p F) {x : Int} (hx : ¬ F < (ith l x.toNat).f) : LastF l (p ++ [x]) F := by
  refine ⟨fun y hy => ?_, h.at_.imp id fun ⟨y, hy, e⟩ => ⟨y, by simp [hy], e⟩⟩
  simp at hy
  rcases hy with hy | rfl
  · exact h.up y hy
  · omega

/-- Which places stand in a list. -/
def fl (n : Nat) (p : List Int) : List Bool := (List.range n).map fun (k : Nat) => decide ((k : Int) ∈ p)
theorem fl_len (n : Nat) (p : List Int) : (fl n p).length = n := by simp [fl]
theorem fl_nil (n : Nat) : fl n [] = List.replicate n false := by
  refine List.ext_getElem (by simp [fl]) fun i h1 h2 => ?_
  simp [fl]
theorem fl_at {n : Nat} {p : List Int} {k : Nat} (hk : k < n) : (fl n p).getD k false = decide ((k : Int) ∈ p) := by
  simp [fl, List.getD_eq_getElem?_getD, hk]
theorem fl_get {n : Nat} {p : List Int} {k : Nat} (hk : k < n) : (fl n p)[k]? = some (decide ((k : Int) ∈ p)) := by
  simp [fl, hk]
theorem fl_set {n : Nat} {p : List Int} {x : Int} (h0 : 0 ≤ x) (hx : x < n) : (fl n p).set x.toNat true = fl n (p ++ [x]) := by
  refine List.ext_getElem (by simp [fl]) fun i h1 h2 => ?_
  rw [List.getElem_set]
  simp [fl]
  simp [fl] at h2
  by_cases e : x.toNat = i
  · have e2 : (i : Int) = x := by omega
    simp [e, e2]
  · have e2 : ¬ (i : Int) = x := by omega
    simp [e, e2]

/-- Those that aren't done. -/
def leftL (ds : List Bool) : List Int := (ups 0 ds.length).filter fun x => !(ds.getD x.toNat false)
/-- Those of them that are answered. -/
def missL (l : List Opr) (ds : List Bool) : List Int := (leftL ds).filter fun x => ans (ith l x.toNat)
theorem mem_ups {n : Nat} {x : Int} : x ∈ ups 0 n ↔ 0 ≤ x ∧ x < n := by
  simp [ups]
  constructor
  · rintro ⟨a, ha, rfl⟩; omega
  · intro h; exact ⟨x.toNat, by omega, by omega⟩
theorem ups_nodup (n : Nat) : (ups 0 n).Nodup := by
  unfold ups
  rw [List.Nodup, List.pairwise_map]
  refine List.Pairwise.imp ?_ (List.nodup_range (n := n))
  intro a b h e
  exact h (by omega)
theorem nodup_len : ∀ (p q : List Int), p.Nodup → (∀ x ∈ p, x ∈ q) → p.length ≤ q.length
  | [], q, _, _ => by simp
  | x :: p, q, hn, hs => by
    rw [List.nodup_cons] at hn
    have hx : x ∈ q := hs x (by simp)
    have := nodup_len p (q.erase x) hn.2 fun y hy => (List.mem_erase_of_ne (fun e : y = x => hn.1 (by rw [← e]; exact hy))).2 (hs y (by simp [hy]))
    rw [List.length_erase_of_mem hx] at this
    have h0 : 0 < q.length := List.length_pos_of_mem hx
    simp
    omega
theorem mem_left {ds : List Bool} {x : Int} : x ∈ leftL ds ↔ (0 ≤ x ∧ x < ds.length) ∧ ds.getD x.toNat false = false := by
  unfold leftL
  rw [List.mem_filter, mem_ups]
  simp
theorem mem_miss {l : List Opr} {ds : List Bool} {x : Int} : x ∈ missL l ds ↔ ((0 ≤ x ∧ x < ds.length) ∧ ds.getD x.toNat false = false) ∧ ans (ith l x.toNat) = true := by
  unfold missL
  rw [List.mem_filter, mem_left]
theorem mem_left_fl {n : Nat} {p : List Int} {x : Int} : x ∈ leftL (fl n p) ↔ (0 ≤ x ∧ x < n) ∧ x ∉ p := by
  rw [mem_left, fl_len]
  constructor
  · rintro ⟨h, h2⟩
    rw [fl_at (by omega)] at h2
    have e : ((x.toNat : Nat) : Int) = x := by omega
    rw [e] at h2
    exact ⟨h, by simpa using h2⟩
  · rintro ⟨h, h2⟩
    refine ⟨h, ?_⟩
    rw [fl_at (by omega)]
    have e : ((x.toNat : Nat) : Int) = x := by omega
    rw [e]
    simpa using h2
theorem miss_none {l : List Opr} {p : List Int} : missL l (fl l.length p) = [] ↔ ∀ k : Nat, k < l.length → ans (ith l k) = true → (k : Int) ∈ p := by
  rw [List.eq_nil_iff_forall_not_mem]
  constructor
  · intro h k hk ha
    refine Classical.byContradiction fun hn => h k ?_
    unfold missL
    rw [List.mem_filter, mem_left_fl]
    exact ⟨⟨⟨by omega, by omega⟩, hn⟩, by simpa using ha⟩
  · intro h x hx
    unfold missL at hx
    rw [List.mem_filter, mem_left_fl] at hx
    have e : ((x.toNat : Nat) : Int) = x := by omega
    have := h x.toNat (by omega) hx.2
    rw [e] at this
    exact hx.1.2 this
theorem left_nodup (ds : List Bool) : (leftL ds).Nodup := (ups_nodup _).filter _
theorem miss_nodup (l : List Opr) (ds : List Bool) : (missL l ds).Nodup := (left_nodup ds).filter _

/-! ### the two that are answered first -/
abbrev toOf (l : List Opr) (x : Int) : Int := (ith l x.toNat).o
/-- Of those of p, F are the two that are answered first. -/
structure Soon (l : List Opr) (p F : List Int) : Prop where
  sub : ∀ x ∈ F, x ∈ p
  two : F.length ≤ 2
  nodup : F.Nodup
  far : ∀ j ∈ p, j ∈ F ∨ (F.length = 2 ∧ ∀ x ∈ F, toOf l x ≤ toOf l j)
theorem soon_nil (l : List Opr) : Soon l [] [] := ⟨by simp, by simp, by simp, by simp⟩
theorem Soon.step {l : List Opr} {p F d : List Int} {x : Int} (h : Soon l p F) (hx : x ∉ p) (hd : d.Perm (F ++ [x])) (hs : d.Pairwise fun a b => toOf l a ≤ toOf l b) : Soon l (p ++ [x]) (d.take 2) := by
  have hF : (F ++ [x]).Nodup := by
    rw [List.nodup_append]
    refine ⟨h.nodup, by simp, fun a ha b hb e => ?_⟩
    simp at hb
    subst hb e
    exact hx (h.sub _ ha)
  have hdn : d.Nodup := hd.nodup_iff.2 hF
  have hlen : d.length = F.length + 1 := by rw [hd.length_eq]; simp
  have hmem : ∀ y, y ∈ d ↔ y ∈ F ∨ y = x := fun y => by rw [hd.mem_iff]; simp
  have hsub : ∀ y ∈ d.take 2, y ∈ d := fun y hy => (List.take_sublist 2 d).subset hy
  refine ⟨fun y hy => ?_, by rw [List.length_take]; omega, hdn.sublist (List.take_sublist 2 d), fun j hj => ?_⟩
  · rcases (hmem y).1 (hsub y hy) with h1 | rfl
    · simp [h.sub y h1]
    · simp
  · have h2 := h.two
    by_cases hc : F.length = 2
    · rcases d with _ | ⟨a, _ | ⟨b, _ | ⟨c, _ | ⟨e, d⟩⟩⟩⟩
      · exact absurd hlen (by rw [hc]; simp)
      · exact absurd hlen (by rw [hc]; simp)
      · exact absurd hlen (by rw [hc]; simp)
      · simp only [List.take_succ_cons, List.take_zero]
        simp at hs
        by_cases ea : j = a
        · exact .inl (by simp [ea])
        by_cases eb : j = b
        · exact .inl (by simp [eb])
        refine .inr ⟨rfl, ?_⟩
        have hgo : toOf l a ≤ toOf l j ∧ toOf l b ≤ toOf l j := by
          by_cases ec : j = c
          · subst ec; exact ⟨hs.1.2, hs.2⟩
          · have hn : j ∉ [a, b, c] := by simp [ea, eb, ec]
            have hj1 : j ∈ p := by
              rw [List.mem_append] at hj
              rcases hj with hj | hj
              · exact hj
              · simp at hj
                exact (hn ((hmem j).2 (.inr hj))).elim
            rcases h.far j hj1 with h1 | ⟨_, h1⟩
            · exact (hn ((hmem j).2 (.inl h1))).elim
            · simp at hdn
              rcases (hmem c).1 (by simp) with hcF | hcx
              · have := h1 c hcF; exact ⟨by omega, by omega⟩
              · have ha : a ∈ F := ((hmem a).1 (by simp)).resolve_right (fun e => hdn.1.2 (e.trans hcx.symm))
                have hb : b ∈ F := ((hmem b).1 (by simp)).resolve_right (fun e => hdn.2 (e.trans hcx.symm))
                exact ⟨h1 a ha, h1 b hb⟩
        simp
        exact hgo
      · exact absurd hlen (by rw [hc]; simp)
    · left
      have : d.take 2 = d := List.take_of_length_le (by omega)
      rw [this, hmem]
      rw [List.mem_append] at hj
      rcases hj with hj | hj
      · rcases h.far j hj with h1 | ⟨h1, _⟩
        · exact .inl h1
        · exact (hc h1).elim
      · simp at hj
        exact .inr hj

/-! ### who comes next -/
/-- Of those that are left: whom none of F keeps back. -/
def nextL (l : List Opr) (ds : List Bool) (F : List Int) : List Int := (leftL ds).filter fun x => !(F.any fun o => decide (o ≠ x) && aheadAt l o x)
theorem next_mem {l : List Opr} {ds : List Bool} {F : List Int} (h : Soon l (missL l ds) F) {x : Int} : x ∈ nextL l ds F ↔ x ∈ leftL ds ∧ ∀ j ∈ leftL ds, j ≠ x → aheadAt l j x = false := by
  unfold nextL
  rw [List.mem_filter]
  refine and_congr_right fun hx => ?_
  constructor
  · intro hf j hj hjx
    cases e : aheadAt l j x with
    | false => rfl
    | true =>
      exfalso
      simp at hf
      unfold aheadAt ahd at e
      simp at e
      have hjm : j ∈ missL l ds := by
        rw [mem_miss, ← mem_left]
        exact ⟨hj, by unfold ans; simp; exact e.1⟩
      rcases h.far j hjm with h1 | ⟨h2, h1⟩
      · have := hf j h1 hjx
        unfold aheadAt ahd at this
        simp at this
        omega
      · have hn := h.nodup
        obtain ⟨a, b, rfl⟩ : ∃ a b, F = [a, b] := by
          rcases F with _ | ⟨a, _ | ⟨b, _ | ⟨c, F⟩⟩⟩
          · simp at h2
          · simp at h2
          · exact ⟨a, b, rfl⟩
          · simp at h2
        have go : ∀ o ∈ [a, b], o ≠ x → False := fun o ho hox => by
          have q := hf o ho hox
          have q1 := h1 o ho
          have q2 := (mem_miss.1 (h.sub o ho)).2
          unfold aheadAt ahd at q
          unfold ans at q2
          simp at q q2
          have := q q2
          unfold toOf at q1
          omega
        by_cases ea : a = x
        · refine go b (by simp) fun eb => ?_
          simp at hn
          exact hn (ea.trans eb.symm)
        · exact go a (by simp) ea
  · intro hf
    simp
    intro o ho hox
    exact hf o (mem_left.2 (mem_miss.1 (h.sub o ho)).1) hox

/-- An order that was put together of those that come next. -/
structure Chain (l : List Opr) (p : List Int) : Prop where
  ok : Okp l p
  keep : ∀ x ∈ p, ∀ j : Int, 0 ≤ j → j < l.length → j ∉ p → aheadAt l j x = false
theorem chain_nil (l : List Opr) : Chain l [] := ⟨okp_nil l, by simp⟩
theorem Chain.step {l : List Opr} {p F : List Int} (h : Chain l p) (hF : Soon l (missL l (fl l.length p)) F) {x : Int} (hx : x ∈ nextL l (fl l.length p) F) : Chain l (p ++ [x]) := by
  rw [next_mem hF, mem_left_fl] at hx
  obtain ⟨⟨hr, hn⟩, hf⟩ := hx
  refine ⟨okp_snoc.2 ⟨h.ok, hr, hn, fun y hy => h.keep y hy x hr.1 hr.2 hn⟩, fun y hy j h0 h1 hj => ?_⟩
  simp at hj hy
  rcases hy with hy | rfl
  · exact h.keep y hy j h0 h1 hj.1
  · exact hf j (mem_left_fl.2 ⟨⟨h0, h1⟩, hj.1⟩) hj.2
theorem Chain.in_ {l : List Opr} {p F : List Int} (hF : Soon l (missL l (fl l.length p)) F) {x : Int} (hx : x ∈ nextL l (fl l.length p) F) : (0 ≤ x ∧ x < l.length) ∧ x ∉ p := by
  rw [next_mem hF, mem_left_fl] at hx
  exact hx.1
/-- Somebody comes next, where each operation ends behind its beginning. -/
theorem next_some {l : List Opr} {p F : List Int} (hp : ∀ k : Nat, k < l.length → 0 ≤ (ith l k).o → (ith l k).f ≤ (ith l k).o) (hl : p.length < l.length) (hF : Soon l (missL l (fl l.length p)) F) : nextL l (fl l.length p) F ≠ [] := by
  have h1 : ∃ x, x ∈ leftL (fl l.length p) := by
    refine Classical.byContradiction fun hn => ?_
    have hsub : ups 0 l.length ⊆ p := fun x hx => by
      refine Classical.byContradiction fun h => hn ⟨x, mem_left_fl.2 ⟨mem_ups.1 hx, h⟩⟩
    have := nodup_len _ _ (ups_nodup l.length) hsub
    rw [ups_length] at this
    omega
  have key : ∀ (m : Nat) (x : Int), x ∈ leftL (fl l.length p) → (0 ≤ toOf l x) → (toOf l x).toNat ≤ m → ∃ y, y ∈ nextL l (fl l.length p) F := by
    intro m
    induction m with
    | zero =>
      intro x hx h0 hm
      refine ⟨x, (next_mem hF).2 ⟨hx, fun j hj hjx => ?_⟩⟩
      have hr := (mem_left_fl.1 hx).1
      have := hp x.toNat (by omega) h0
      cases e : aheadAt l j x with
      | false => rfl
      | true =>
        unfold aheadAt ahd at e
        simp at e
        unfold toOf at hm h0
        omega
    | succ m ih =>
      intro x hx h0 hm
      by_cases hc : x ∈ nextL l (fl l.length p) F
      · exact ⟨x, hc⟩
      · rw [next_mem hF] at hc
        have : ∃ j, j ∈ leftL (fl l.length p) ∧ aheadAt l j x = true := by
          refine Classical.byContradiction fun hn => hc ⟨hx, fun j hj hjx => ?_⟩
          cases e : aheadAt l j x with
          | false => rfl
          | true => exact (hn ⟨j, hj, e⟩).elim
        obtain ⟨j, hj, e⟩ := this
        have hr := (mem_left_fl.1 hx).1
        have := hp x.toNat (by omega) h0
        unfold aheadAt ahd at e
        simp at e
        unfold toOf at hm h0
        exact ih j hj e.1 (by unfold toOf; omega)
  have : ∃ y, y ∈ nextL l (fl l.length p) F := by
    obtain ⟨x, hx⟩ := h1
    by_cases hc : x ∈ nextL l (fl l.length p) F
    · exact ⟨x, hc⟩
    · rw [next_mem hF] at hc
      have : ∃ j, j ∈ leftL (fl l.length p) ∧ aheadAt l j x = true := by
        refine Classical.byContradiction fun hn => hc ⟨hx, fun j hj hjx => ?_⟩
        cases e : aheadAt l j x with
        | false => rfl
        | true => exact (hn ⟨j, hj, e⟩).elim
      obtain ⟨j, hj, e⟩ := this
      unfold aheadAt ahd at e
      simp at e
      exact key _ j hj e.1 (Nat.le_refl _)
  obtain ⟨y, hy⟩ := this
  intro e
  rw [e] at hy
  simp at hy
theorem full_left {l : List Opr} {p : List Int} (h : Okp l p) (hl : p.length = l.length) : leftL (fl l.length p) = [] := by
  rw [List.eq_nil_iff_forall_not_mem]
  intro x hx
  obtain ⟨hr, hn⟩ := mem_left_fl.1 hx
  have hsub : (x :: p) ⊆ ups 0 l.length := fun y hy => by
    rw [mem_ups]
    simp at hy
    rcases hy with rfl | hy
    · exact hr
    · exact h.range y hy
  have := nodup_len _ _ (List.nodup_cons.2 ⟨hn, h.nodup⟩) hsub
  rw [ups_length] at this
  simp at this
  omega
theorem full_next {l : List Opr} {p F : List Int} (h : Okp l p) (hl : p.length = l.length) : nextL l (fl l.length p) F = [] := by
  unfold nextL
  rw [full_left h hl]
  rfl
theorem full_mays {l : List Opr} {p : List Int} (h : Okp l p) (hl : p.length = l.length) : Mays l p := by
  refine ⟨h, fun k hk _ => Classical.byContradiction fun hn => ?_⟩
  have : (k : Int) ∈ leftL (fl l.length p) := mem_left_fl.2 ⟨⟨by omega, by omega⟩, hn⟩
  rw [full_left h hl] at this
  simp at this
end Go.Proofs.Ytmjbccimijnceaa
