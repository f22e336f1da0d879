/- What holds of the free list whatever threads take and put back: plain numbers and lists. A step of a thread keeps what holds of the free list. -/
import Derived.Test.YtemikojaldoofaaGreatAChain
import Derived.Test.YtemikojaldoofaaGreatKPure
namespace Go.Proofs.YtemikojaldoofaaGreat
set_option linter.unusedVariables false


/-! ### Sums over threads -/
def tot : Nat → (Nat → Nat) → Nat
  | 0, _ => 0
  | n + 1, f => tot n f + f n
theorem tot_same {n : Nat} {f f' : Nat → Nat} (h : ∀ j, j < n → f' j = f j) : tot n f' = tot n f := by
  induction n with
  | zero => rfl
  | succ n ih => simp only [tot]; rw [ih fun j hj => h j (by omega), h n (by omega)]
theorem tot_upd {n k : Nat} {f f' : Nat → Nat} (hk : k < n) (h : ∀ j, j ≠ k → f' j = f j) : tot n f' + f k = tot n f + f' k := by
  induction n with
  | zero => omega
  | succ n ih =>
    simp only [tot]
    by_cases e : k = n
    · subst e
      rw [tot_same (f := f) (f' := f') fun j hj => h j (by omega)]
      omega
    · have := ih (by omega)
      rw [h n (by omega)]
      omega
theorem tot_le {n k : Nat} {f : Nat → Nat} (hk : k < n) : f k ≤ tot n f := by
  induction n with
  | zero => omega
  | succ n ih =>
    simp only [tot]
    by_cases e : k = n
    · subst e; omega
    · have := ih (by omega); omega
theorem tot_le2 {n i j : Nat} {f : Nat → Nat} (hi : i < n) (hj : j < n) (h : i ≠ j) : f i + f j ≤ tot n f := by
  induction n with
  | zero => omega
  | succ n ih =>
    simp only [tot]
    by_cases e : i = n
    · subst e
      have := tot_le (f := f) (show j < i by omega); omega
    · by_cases e2 : j = n
      · subst e2
        have := tot_le (f := f) (show i < j by omega); omega
      · have := ih (by omega) (by omega); omega
theorem tot_zero {n : Nat} {f : Nat → Nat} (h : ∀ j, j < n → f j = 0) : tot n f = 0 := by
  induction n with
  | zero => rfl
  | succ n ih => simp only [tot]; rw [ih fun j hj => h j (by omega), h n (by omega)]

/-! ### Words -/
theorem pt_bd (w : Int) : 0 ≤ pt w ∧ pt w < 65536 := by unfold pt; omega
theorem pt_mk {p q : Int} (h0 : 0 ≤ p) (h1 : p < 65536) : pt (p * 2 + q * 131072) = p := by unfold pt; omega
/-- A word that was read: its version is the present one's, or an elder one. -/
def Old (L : List Int) (s : Nat) (w : Int) : Prop := ∃ q : Nat, q ≤ s ∧ w = pt w * 2 + q * 131072 ∧ (q = s → pt w = nth L 0)
theorem nth_cons (a : Int) (L : List Int) (j : Nat) : nth (a :: L) (j + 1) = nth L j := by simp [nth]
theorem nth_tail (L : List Int) (j : Nat) : nth L.tail j = nth L (j + 1) := by
  cases L with
  | nil => simp [nth]
  | cons a L => rw [nth_cons]; rfl
def Ph.rel : Ph → List Int
  | .b0 n => [n]
  | .b1 n _ => [n]
  | .b2 n _ => [n]
  | _ => []
/-- What holds of a phase. -/
def Ph.Ok (c : P.Cf) (L : List Int) (s : Nat) (ws : List Int) : Ph → Prop
  | .a1 w => Old L s w ∧ 1 ≤ pt w ∧ pt w ≤ c.nd
  | .a2 w x => Old L s w ∧ 1 ≤ pt w ∧ pt w ≤ c.nd ∧ 0 ≤ x ∧ x ≤ c.nd ∧ (wordAt ws 0 = w → x = nth L 1)
  | .b1 n w => Old L s w ∧ pt w ≤ c.nd
  | .b2 n w => Old L s w ∧ pt w ≤ c.nd ∧ wordAt ws (c.link n).toNat = pt w
  | _ => True
def cat (ph : Nat → Ph) (hv : Nat → List Int) (x : Int) (k : Nat) : Nat := (ph k).rel.count x + (hv k).count x
/-- What holds whatever n threads do: the list L, s times changed. -/
structure Inv (c : P.Cf) (n : Nat) (L : List Int) (s : Nat) (ws : List Int) (Gs : G.GS) (ph : Nat → Ph) (hv : Nat → List Int) : Prop where
  len : ws.length = c.size.toNat
  free : wordAt ws 0 = nth L 0 * 2 + s * 131072
  lk : Linked c ws L
  lb : ∀ m, 1 ≤ m → m ≤ c.nd → 0 ≤ wordAt ws (c.link m).toNat ∧ wordAt ws (c.link m).toNat ≤ c.nd
  cnt : ∀ x : Int, L.count x + tot n (cat ph hv x) = if P.sent c.al < x ∧ x ≤ c.nd then 1 else 0
  tl : L.length + tot n (fun k => (ph k).rel.length + (hv k).length) = (c.nd - P.sent c.al).toNat
  tlen : Gs.tags.length = c.nd.toNat
  k0 : Gs.k = 0
  t0 : ∀ x ∈ L, G.tagAt Gs.tags (x - 1).toNat = 0
  t1 : ∀ k, k < n → ∀ x ∈ hv k, G.tagAt Gs.tags (x - 1).toNat = 1
  t2 : ∀ k, k < n → ∀ x ∈ (ph k).rel, G.tagAt Gs.tags (x - 1).toNat = 2
  cl : G.countOf Gs.tags 1 = P.sent c.al + (tot n fun k => (hv k).length : Nat)
  ok : ∀ k, k < n → (ph k).Ok c L s ws

section
variable {c : P.Cf} {n : Nat} {L : List Int} {s : Nat} {ws : List Int} {Gs : G.GS} {ph : Nat → Ph} {hv : Nat → List Int}
theorem Inv.range (h : Inv c n L s ws Gs ph hv) {x : Int} (hx : 0 < L.count x + tot n (cat ph hv x)) : P.sent c.al < x ∧ x ≤ c.nd := by
  have := h.cnt x
  by_cases q : P.sent c.al < x ∧ x ≤ c.nd
  · exact q
  · rw [if_neg q] at this; omega
theorem Inv.one (h : Inv c n L s ws Gs ph hv) (x : Int) : L.count x + tot n (cat ph hv x) ≤ 1 := by
  rw [h.cnt x]; split <;> omega
theorem Inv.bd (h : Inv c n L s ws Gs ph hv) {x : Int} (hx : x ∈ L) : P.sent c.al < x ∧ x ≤ c.nd := h.range (by have := List.count_pos_iff.2 hx; omega)
theorem Inv.relBd (h : Inv c n L s ws Gs ph hv) {k : Nat} (hk : k < n) {x : Int} (hx : x ∈ (ph k).rel) : P.sent c.al < x ∧ x ≤ c.nd := h.range (by
  have h1 := List.count_pos_iff.2 hx
  have h2 := tot_le (f := cat ph hv x) hk
  simp only [cat] at h2; omega)
theorem Inv.hvBd (h : Inv c n L s ws Gs ph hv) {k : Nat} (hk : k < n) {x : Int} (hx : x ∈ hv k) : P.sent c.al < x ∧ x ≤ c.nd := h.range (by
  have h1 := List.count_pos_iff.2 hx
  have h2 := tot_le (f := cat ph hv x) hk
  simp only [cat] at h2; omega)
theorem Inv.nthBd (h : Inv c n L s ws Gs ph hv) (hc : c.Ok) (j : Nat) : 0 ≤ nth L j ∧ nth L j ≤ c.nd := by
  have := hc.nd
  have hs := (P.sent_in c.al).1
  by_cases hj : j < L.length
  · have := h.bd (nth_in hj); omega
  · rw [nth_end (by omega)]; omega
theorem Inv.Free (h : Inv c n L s ws Gs ph hv) (hc : c.Ok) (hs : s < 1099511627776) : Free c ws L := by
  have hn := hc.nd
  have hb := h.nthBd hc 0
  refine ⟨h.len, ?_, ?_, h.lk, fun x hx => h.bd hx, ?_⟩
  · rw [h.free, pt_mk hb.1 (by omega)]
  · rw [h.free]; constructor <;> omega
  · have := h.tl
    have hsn := (P.sent_in c.al).1
    omega
theorem Old.u (hs : s < 1099511627776) {w : Int} (h : Old L s w) : U64 w := by
  obtain ⟨q, q1, q2, q3⟩ := h
  have := pt_bd w
  rw [q2]; constructor <;> omega
/-- What a step asks, there is. -/
theorem Inv.pre (h : Inv c n L s ws Gs ph hv) (hc : c.Ok) (hs : s < 1099511627776) {k : Nat} (hk : k < n) (hon : (ph k).on = true) : (ph k).Pre c ws := by
  have hn := hc.nd
  have hF := (h.Free hc hs).u
  have ho := h.ok k hk
  have hr := fun x => h.relBd hk (x := x)
  have hsn := (P.sent_in c.al).1
  generalize ph k = p at *
  cases p with
  | idle => cases hon
  | a0 => exact hF
  | a1 w => exact ⟨ho.1.u hs, ho.2.1, ho.2.2⟩
  | a2 w x =>
    obtain ⟨h1, h2, h3, h4, h5, h6⟩ := ho
    exact ⟨h1.u hs, h4, by omega, by omega, by omega⟩
  | b0 m =>
    have := hr m (by simp [Ph.rel])
    exact ⟨by omega, by omega⟩
  | b1 m w =>
    have := hr m (by simp [Ph.rel])
    exact ⟨by omega, by omega, ho.1.u hs⟩
  | b2 m w =>
    have := hr m (by simp [Ph.rel])
    exact ⟨by omega, by omega, ho.1.u hs⟩
end
end Go.Proofs.YtemikojaldoofaaGreat
namespace Go.Proofs.YtemikojaldoofaaGreat
set_option linter.unusedVariables false

def updP (ph : Nat → Ph) (k : Nat) (p : Ph) : Nat → Ph := fun j => if j = k then p else ph j
def updL (hv : Nat → List Int) (k : Nat) (l : List Int) : Nat → List Int := fun j => if j = k then l else hv j
theorem updP_same (ph : Nat → Ph) (k : Nat) (p : Ph) : updP ph k p k = p := by simp [updP]
theorem updP_ne (ph : Nat → Ph) {k j : Nat} (p : Ph) (h : j ≠ k) : updP ph k p j = ph j := by simp [updP, h]
theorem updL_same (hv : Nat → List Int) (k : Nat) (l : List Int) : updL hv k l k = l := by simp [updL]
theorem updL_ne (hv : Nat → List Int) {k j : Nat} (l : List Int) (h : j ≠ k) : updL hv k l j = hv j := by simp [updL, h]
theorem updL_id (hv : Nat → List Int) (k : Nat) : updL hv k (hv k) = hv := by
  funext j; simp only [updL]; split
  · rename_i h; rw [h]
  · rfl
variable {c : P.Cf} {n : Nat} {L : List Int} {s : Nat} {ws : List Int} {Gs : G.GS} {ph : Nat → Ph} {hv : Nat → List Int} {k : Nat}

/-- A phase becomes another one that holds the same node; nothing else is changed. -/
theorem Inv.phase (h : Inv c n L s ws Gs ph hv) (hk : k < n) (p : Ph) (hrel : p.rel = (ph k).rel) (hok : p.Ok c L s ws) : Inv c n L s ws Gs (updP ph k p) hv := by
  have hr : ∀ j, (updP ph k p j).rel = (ph j).rel := fun j => by
    by_cases e : j = k
    · subst e; rw [updP_same, hrel]
    · rw [updP_ne _ _ e]
  have hcat : ∀ x, cat (updP ph k p) hv x = cat ph hv x := fun x => by funext j; simp only [cat, hr]
  refine ⟨h.len, h.free, h.lk, h.lb, fun x => by rw [hcat]; exact h.cnt x, ?_, h.tlen, h.k0, h.t0, h.t1, fun j hj x hx => h.t2 j hj x (by rw [← hr]; exact hx), h.cl, fun j hj => ?_⟩
  · have := h.tl
    simp only [hr]; exact this
  · by_cases e : j = k
    · subst e; rw [updP_same]; exact hok
    · rw [updP_ne _ _ e]; exact h.ok j hj

theorem link_ge (hc : c.Ok) {m : Int} (h0 : 1 ≤ m) (h1 : m ≤ c.nd) : 8 ≤ (c.link m).toNat ∧ (c.link m).toNat < c.size.toNat ∧ ((c.link m).toNat : Int) = c.o2 + (m - 1) := by
  obtain ⟨e, l0, l1⟩ := link_at hc h0 h1
  have := hc.steps
  omega
theorem link_inj (hc : c.Ok) {m m' : Int} (h0 : 1 ≤ m) (h1 : m ≤ c.nd) (h2 : 1 ≤ m') (h3 : m' ≤ c.nd) (h : (c.link m).toNat = (c.link m').toNat) : m = m' := by
  have a := link_ge hc h0 h1
  have b := link_ge hc h2 h3
  omega
theorem set_far (ws : List Int) (a : Nat) (x : Int) {i : Nat} (h : a ≠ i) : wordAt (ws.set a x) i = wordAt ws i := by rw [wordAt_set, if_neg (by omega)]
theorem set_at (ws : List Int) {a : Nat} (x : Int) (h : a < ws.length) : wordAt (ws.set a x) a = x := by rw [wordAt_set, if_pos ⟨rfl, h⟩]

/-- Release's link is laid. -/
theorem Inv.linked (h : Inv c n L s ws Gs ph hv) (hc : c.Ok) (hk : k < n) {m w : Int} (hp : ph k = .b1 m w) : Inv c n L s (ws.set (c.link m).toNat (pt w)) Gs (updP ph k (.b2 m w)) hv := by
  have hsn := (P.sent_in c.al).1
  have hm : P.sent c.al < m ∧ m ≤ c.nd := h.relBd hk (by rw [hp]; simp [Ph.rel])
  obtain ⟨g1, g2, g3⟩ := link_ge hc (m := m) (by omega) hm.2
  have hcm : 1 ≤ cat ph hv m k := by simp [cat, hp, Ph.rel]
  have hone := h.one m
  have hnL : m ∉ L := fun hx => by
    have h1 := List.count_pos_iff.2 hx
    have h2 := tot_le (f := cat ph hv m) hk
    omega
  have hw0 : wordAt (ws.set (c.link m).toNat (pt w)) 0 = wordAt ws 0 := set_far _ _ _ (by omega)
  have hok := h.ok k hk
  rw [hp] at hok
  have hr : ∀ j, (updP ph k (.b2 m w) j).rel = (ph j).rel := fun j => by
    by_cases e : j = k
    · subst e; rw [updP_same, hp]; rfl
    · rw [updP_ne _ _ e]
  have hcat : ∀ x, cat (updP ph k (.b2 m w)) hv x = cat ph hv x := fun x => by funext j; simp only [cat, hr]
  refine ⟨by rw [List.length_set]; exact h.len, by rw [hw0]; exact h.free, ?_, ?_, fun x => by rw [hcat]; exact h.cnt x, ?_, h.tlen, h.k0, h.t0, h.t1, fun j hj x hx => h.t2 j hj x (by rw [← hr]; exact hx), h.cl, fun j hj => ?_⟩
  · intro j hj
    have hb := h.bd (nth_in hj)
    rw [set_far _ _ _ fun e => hnL ?_]
    · exact h.lk j hj
    · rw [link_inj hc (by omega) hm.2 (by omega) hb.2 e]; exact nth_in hj
  · intro m' h0 h1
    rw [wordAt_set]
    split
    · exact ⟨(pt_bd w).1, hok.2⟩
    · exact h.lb m' h0 h1
  · have := h.tl
    simp only [hr]; exact this
  · by_cases e : j = k
    · subst e
      rw [updP_same]
      exact ⟨hok.1, hok.2, set_at _ _ (by rw [h.len]; exact g2)⟩
    · rw [updP_ne _ _ e]
      have ho := h.ok j hj
      have hrj := fun x => h.relBd hj (x := x)
      have hne : ∀ x, x ∈ (ph j).rel → x ≠ m := fun x hx e2 => by
        subst e2
        have h1 := List.count_pos_iff.2 hx
        have h2 := tot_le2 (f := cat ph hv x) hj hk e
        have h3 : 1 ≤ cat ph hv x j := by simp only [cat]; omega
        omega
      generalize ph j = p at *
      cases p with
      | a2 w' x => exact ⟨ho.1, ho.2.1, ho.2.2.1, ho.2.2.2.1, ho.2.2.2.2.1, by rw [hw0]; exact ho.2.2.2.2.2⟩
      | b2 m' w' =>
        have hb := hrj m' (by simp [Ph.rel])
        refine ⟨ho.1, ho.2.1, ?_⟩
        rw [set_far _ _ _ fun e => hne m' (by simp [Ph.rel]) (link_inj hc (by omega) hm.2 (by omega) hb.2 e).symm]
        exact ho.2.2
      | a1 w' => exact ho
      | b1 m' w' => exact ho
      | idle => trivial
      | a0 => trivial
      | b0 m' => trivial

/-- The list has changed: what another thread has read is old. -/
theorem Ph.Ok.later {L' : List Int} {ws' : List Int} {a : Int} {p : Ph} (h : p.Ok c L s ws) (a0 : 0 ≤ a) (a1 : a < 65536) (hw : wordAt ws' 0 = a * 2 + (s + 1 : Nat) * 131072) (hl : ∀ m, m ∈ p.rel → wordAt ws' (c.link m).toNat = wordAt ws (c.link m).toNat) : p.Ok c L' (s + 1) ws' := by
  have ho : ∀ {w}, Old L s w → Old L' (s + 1) w := fun ⟨q, q1, q2, q3⟩ => ⟨q, by omega, q2, fun e => by omega⟩
  cases p with
  | a2 w x =>
    refine ⟨ho h.1, h.2.1, h.2.2.1, h.2.2.2.1, h.2.2.2.2.1, fun e => ?_⟩
    obtain ⟨q, q1, q2, q3⟩ := h.1
    have := pt_bd w
    omega
  | b2 m w => exact ⟨ho h.1, h.2.1, by rw [hl m (by simp [Ph.rel])]; exact h.2.2⟩
  | a1 w => exact ⟨ho h.1, h.2⟩
  | b1 m w => exact ⟨ho h.1, h.2⟩
  | idle => trivial
  | a0 => trivial
  | b0 m' => trivial
theorem nextW_eq {a x : Int} {s : Nat} (hs : s < 1099511627776) (a0 : 0 ≤ a) (a1 : a < 65536) (x0 : 0 ≤ x) (x1 : x < 65536) : nextW (a * 2 + s * 131072) x = x * 2 + (s + 1 : Nat) * 131072 := by
  unfold nextW
  rw [show (a * 2 + (s : Int) * 131072) / 131072 = s by omega, Int.emod_eq_of_lt (by omega) (by omega), Int.emod_eq_of_lt x0 x1]
  omega

/-! ### The ghost's tags -/
theorem then_ok {Gs : G.GS} {nd : Nat} {q x : Int} (hk : Gs.k = 0) (h0 : 1 ≤ x) (h1 : x ≤ nd) (q3 : q ≠ 3) (ht : G.tagAt Gs.tags (x - 1).toNat = q) : Gs.then nd q x = ⟨Gs.tags.set (x - 1).toNat ((q + 1) % 3), Gs.k, Gs.i⟩ := by
  have hk : G.kindOf Gs nd q x = 0 := by
    unfold G.kindOf
    rw [if_neg (by omega), if_neg q3, if_neg (by simpa using ht)]
  unfold G.GS.then
  rw [hk, if_neg (by simp), if_neg q3]
theorem tag_set {l : List Int} {x y v : Int} (hx : 1 ≤ x) (hy : 1 ≤ y) (h : y ≠ x) : G.tagAt (l.set (x - 1).toNat v) (y - 1).toNat = G.tagAt l (y - 1).toNat := by
  unfold G.tagAt
  rw [List.getD_eq_getElem?_getD, List.getElem?_set_ne (by omega), List.getD_eq_getElem?_getD]
theorem tag_at {l : List Int} {x v : Int} (hx : 1 ≤ x) (h1 : x ≤ l.length) : G.tagAt (l.set (x - 1).toNat v) (x - 1).toNat = v := by
  unfold G.tagAt
  rw [List.getD_eq_getElem?_getD, List.getElem?_set_self (by omega)]
  rfl
theorem count_tag {l : List Int} {x v : Int} (hx : 1 ≤ x) (h1 : x ≤ l.length) : G.countOf (l.set (x - 1).toNat v) 1 = G.countOf l 1 - (if G.tagAt l (x - 1).toNat = 1 then 1 else 0) + (if v = 1 then 1 else 0) := by
  have hlt : (x - 1).toNat < l.length := by omega
  have e : G.tagAt l (x - 1).toNat = l[(x - 1).toNat] := by
    unfold G.tagAt
    rw [List.getD_eq_getElem?_getD, List.getElem?_eq_getElem hlt]; rfl
  have hc : (if l[(x - 1).toNat] = 1 then 1 else 0) ≤ l.countP (· = 1) := by
    split
    · rename_i h
      exact List.countP_pos_iff.2 ⟨_, List.getElem_mem hlt, by simpa using h⟩
    · omega
  unfold G.countOf
  rw [List.countP_set hlt, e]
  clear e
  simp only [decide_eq_true_eq]
  generalize l[(x - 1).toNat] = y at *
  generalize List.countP (fun x => decide (x = 1)) l = N at *
  by_cases q1 : y = 1
  · rw [if_pos q1] at hc
    rw [if_pos q1, if_pos q1]
    split <;> omega
  · rw [if_neg q1, if_neg q1]
    split <;> omega

/-- Alloc takes the first node. -/
theorem Inv.took (h : Inv c n L s ws Gs ph hv) (hc : c.Ok) (hs : s < 1099511627776) (hk : k < n) {w x : Int} (hp : ph k = .a2 w x) (hw : wordAt ws 0 = w) :
    Inv c n L.tail (s + 1) (ws.set 0 (nextW w x)) (Gs.then c.nd.toNat 0 (pt w)) (updP ph k .idle) (updL hv k (hv k ++ [pt w])) := by
  have hnd := hc.nd
  have hsn := (P.sent_in c.al).1
  have hst := hc.steps
  have hok := h.ok k hk
  rw [hp] at hok
  obtain ⟨o1, o2, o3, o4, o5, o6⟩ := hok
  have hx := o6 hw
  have hb0 := h.nthBd hc 0
  have hpw : pt w = nth L 0 := by rw [← hw, h.free, pt_mk hb0.1 (by omega)]
  obtain ⟨p, L', rfl⟩ : ∃ p L', L = p :: L' := by
    cases L with
    | nil => simp [nth] at hpw; omega
    | cons p L' => exact ⟨p, L', rfl⟩
  have hpp : pt w = p := by rw [hpw]; rfl
  rw [hpp] at o2 o3 ⊢
  rw [nth_cons] at hx
  have hone := fun y => h.one y
  have hfar : ∀ m, 1 ≤ m → m ≤ c.nd → wordAt (ws.set 0 (nextW w x)) (c.link m).toNat = wordAt ws (c.link m).toNat := fun m h0 h1 => set_far _ _ _ (by have := link_ge hc h0 h1; omega)
  have hnw : nextW w x = x * 2 + (s + 1 : Nat) * 131072 := by
    rw [← hw, h.free]
    exact nextW_eq hs hb0.1 (by omega) o4 (by omega)
  have hw0 : wordAt (ws.set 0 (nextW w x)) 0 = x * 2 + (s + 1 : Nat) * 131072 := by rw [set_at _ _ (by rw [h.len]; omega), hnw]
  have hcnt : ∀ y : Int, (p :: L').count y = L'.count y + [p].count y := fun y => by
    rw [show p :: L' = [p] ++ L' from rfl, List.count_append]; omega
  have htp := h.t0 p (by simp)
  have hth := then_ok (nd := c.nd.toNat) h.k0 (x := p) (by omega) (by omega) (by omega) htp
  rw [hth]
  have hcatk : ∀ y, cat (updP ph k .idle) (updL hv k (hv k ++ [p])) y k = cat ph hv y k + [p].count y := fun y => by
    simp only [cat, updP_same, updL_same, hp, Ph.rel, List.count_append, List.count_nil]; omega
  have htot : ∀ y, tot n (cat (updP ph k .idle) (updL hv k (hv k ++ [p])) y) = tot n (cat ph hv y) + [p].count y := fun y => by
    have := tot_upd (f := cat ph hv y) (f' := cat (updP ph k .idle) (updL hv k (hv k ++ [p])) y) hk fun j hj => by simp only [cat, updP_ne _ _ hj, updL_ne _ _ hj]
    rw [hcatk y] at this
    omega
  have hp1 : (p :: L').count p = L'.count p + 1 := by simp
  have hpone := hone p
  have hne : ∀ y, y ∈ L' → y ≠ p := fun y hy e => by
    subst e
    have := List.count_pos_iff.2 hy; omega
  have hnc : ∀ j, j < n → ∀ y, y ∈ (ph j).rel ∨ y ∈ hv j → y ≠ p := fun j hj y hy e => by
    subst e
    have h2 := tot_le (f := cat ph hv y) hj
    have h3 : 1 ≤ cat ph hv y j := by
      simp only [cat]
      rcases hy with hy | hy <;> (have := List.count_pos_iff.2 hy; omega)
    omega
  refine ⟨by rw [List.length_set]; exact h.len, ?_, ?_, fun m h0 h1 => by rw [hfar m h0 h1]; exact h.lb m h0 h1, fun y => ?_, ?_, ?_, h.k0, fun y hy => ?_, fun j hj y hy => ?_, fun j hj y hy => ?_, ?_, fun j hj => ?_⟩
  · rw [hw0, hx]; rfl
  · intro j hj
    have hb := h.bd (x := nth L' j) (List.mem_cons_of_mem _ (nth_in hj))
    show wordAt _ (c.link (nth L' j)).toNat = _
    rw [hfar _ (by omega) hb.2]
    have := h.lk (j + 1) (by simp; exact hj)
    rwa [nth_cons, nth_cons] at this
  · rw [htot, ← h.cnt y, hcnt]
    show L'.count y + _ = _
    omega
  · have h1 := h.tl
    have hk1 : (updP ph k .idle k).rel.length + (updL hv k (hv k ++ [p]) k).length = (hv k).length + 1 := by simp [updP_same, updL_same, Ph.rel]
    have hk0 : (ph k).rel.length + (hv k).length = (hv k).length := by simp [hp, Ph.rel]
    have h2 : tot n (fun j => (updP ph k .idle j).rel.length + (updL hv k (hv k ++ [p]) j).length) + ((ph k).rel.length + (hv k).length) = tot n (fun k => (ph k).rel.length + (hv k).length) + ((updP ph k .idle k).rel.length + (updL hv k (hv k ++ [p]) k).length) :=
      tot_upd (f := fun k => (ph k).rel.length + (hv k).length) (f' := fun j => (updP ph k .idle j).rel.length + (updL hv k (hv k ++ [p]) j).length) hk fun j hj => by simp only [updP_ne _ _ hj, updL_ne _ _ hj]
    rw [hk1, hk0] at h2
    simp only [List.length_cons] at h1
    show L'.length + _ = _
    omega
  · rw [List.length_set]; exact h.tlen
  · have hb := h.bd (x := y) (List.mem_cons_of_mem _ hy)
    rw [tag_set (by omega) (by omega) (hne y hy)]
    exact h.t0 y (List.mem_cons_of_mem _ hy)
  · by_cases e : j = k
    · subst e
      rw [updL_same] at hy
      rcases List.mem_append.1 hy with hy | hy
      · have hb := h.hvBd hj hy
        rw [tag_set (by omega) (by omega) (hnc j hj y (.inr hy))]
        exact h.t1 j hj y hy
      · obtain rfl : y = p := by simpa using hy
        exact tag_at (by omega) (by rw [h.tlen]; omega)
    · rw [updL_ne _ _ e] at hy
      have hb := h.hvBd hj hy
      rw [tag_set (by omega) (by omega) (hnc j hj y (.inr hy))]
      exact h.t1 j hj y hy
  · by_cases e : j = k
    · subst e
      rw [updP_same] at hy
      simp [Ph.rel] at hy
    · rw [updP_ne _ _ e] at hy
      have hb := h.relBd hj hy
      rw [tag_set (by omega) (by omega) (hnc j hj y (.inl hy))]
      exact h.t2 j hj y hy
  · have h1 := h.cl
    have h2 := tot_upd (f := fun k => (hv k).length) (f' := fun j => (updL hv k (hv k ++ [p]) j).length) hk fun j hj => by simp only [updL_ne _ _ hj]
    simp only [updL_same, List.length_append, List.length_cons, List.length_nil] at h2
    rw [count_tag (by omega) (by rw [h.tlen]; omega), htp]
    simp
    omega
  · by_cases e : j = k
    · subst e; rw [updP_same]; trivial
    · rw [updP_ne _ _ e]
      exact (h.ok j hj).later (a := x) o4 (by omega) hw0 fun m hm => by
        have hb := h.relBd hj hm
        exact hfar m (by omega) hb.2

/-- Release lays the node ahead of the others. -/
theorem Inv.freed (h : Inv c n L s ws Gs ph hv) (hc : c.Ok) (hs : s < 1099511627776) (hk : k < n) {p w : Int} (hp : ph k = .b2 p w) (hw : wordAt ws 0 = w) :
    Inv c n (p :: L) (s + 1) (ws.set 0 (nextW w p)) (Gs.then c.nd.toNat 2 p) (updP ph k .idle) hv := by
  have hnd := hc.nd
  have hsn := (P.sent_in c.al).1
  have hst := hc.steps
  have hok := h.ok k hk
  rw [hp] at hok
  obtain ⟨o1, o3, o4⟩ := hok
  have hb0 := h.nthBd hc 0
  have hpw : pt w = nth L 0 := by rw [← hw, h.free, pt_mk hb0.1 (by omega)]
  have hpr : p ∈ (ph k).rel := by rw [hp]; simp [Ph.rel]
  have hpb := h.relBd hk hpr
  have hone := fun y => h.one y
  have hfar : ∀ m, 1 ≤ m → m ≤ c.nd → wordAt (ws.set 0 (nextW w p)) (c.link m).toNat = wordAt ws (c.link m).toNat := fun m h0 h1 => set_far _ _ _ (by have := link_ge hc h0 h1; omega)
  have hnw : nextW w p = p * 2 + (s + 1 : Nat) * 131072 := by
    rw [← hw, h.free]
    exact nextW_eq hs hb0.1 (by omega) (by omega) (by omega)
  have hw0 : wordAt (ws.set 0 (nextW w p)) 0 = p * 2 + (s + 1 : Nat) * 131072 := by rw [set_at _ _ (by rw [h.len]; omega), hnw]
  have htp := h.t2 k hk p hpr
  have hth := then_ok (nd := c.nd.toNat) h.k0 (x := p) (by omega) (by omega) (by omega) htp
  rw [hth]
  have hcatk : ∀ y, cat (updP ph k .idle) hv y k + [p].count y = cat ph hv y k := fun y => by
    simp only [cat, updP_same, hp, Ph.rel, List.count_nil]; omega
  have htot : ∀ y, tot n (cat (updP ph k .idle) hv y) + [p].count y = tot n (cat ph hv y) := fun y => by
    have := tot_upd (f := cat ph hv y) (f' := cat (updP ph k .idle) hv y) hk fun j hj => by simp only [cat, updP_ne _ _ hj]
    have := hcatk y
    omega
  have hpone := hone p
  have hcp : 1 ≤ cat ph hv p k := by simp only [cat]; have := List.count_pos_iff.2 hpr; omega
  have hcpk := hcatk p
  have hcp1 : [p].count p = 1 := by simp
  have hne : ∀ y, y ∈ L → y ≠ p := fun y hy e => by
    subst e
    have := List.count_pos_iff.2 hy
    have h2 := tot_le (f := cat ph hv y) hk
    omega
  have hnr : ∀ j, j < n → j ≠ k → ∀ y, y ∈ (ph j).rel → y ≠ p := fun j hj hjk y hy e => by
    subst e
    have h2 := tot_le2 (f := cat ph hv y) hj hk hjk
    have h3 : 1 ≤ cat ph hv y j := by simp only [cat]; have := List.count_pos_iff.2 hy; omega
    omega
  have hnh : ∀ j, j < n → ∀ y, y ∈ hv j → y ≠ p := fun j hj y hy e => by
    subst e
    have h4 := List.count_pos_iff.2 hy
    by_cases hjk : j = k
    · subst hjk
      have h2 := tot_le (f := cat ph hv y) hk
      simp only [cat, hp, Ph.rel, hcp1] at h2 hpone
      omega
    · have h2 := tot_le2 (f := cat ph hv y) hj hk hjk
      have h3 : 1 ≤ cat ph hv y j := by simp only [cat]; omega
      omega
  refine ⟨by rw [List.length_set]; exact h.len, ?_, ?_, fun m h0 h1 => by rw [hfar m h0 h1]; exact h.lb m h0 h1, fun y => ?_, ?_, ?_, h.k0, fun y hy => ?_, fun j hj y hy => ?_, fun j hj y hy => ?_, ?_, fun j hj => ?_⟩
  · rw [hw0]; rfl
  · intro j hj
    cases j with
    | zero =>
      show wordAt _ (c.link p).toNat = _
      rw [hfar p (by omega) hpb.2, o4, hpw, nth_cons]
    | succ j =>
      have hj' : j < L.length := by simpa using hj
      have hb := h.bd (nth_in hj')
      rw [nth_cons, nth_cons, hfar _ (by omega) hb.2]
      exact h.lk j hj'
  · rw [← h.cnt y, ← htot y, show p :: L = [p] ++ L from rfl, List.count_append]
    omega
  · have h1 := h.tl
    have h2 := tot_upd (f := fun k => (ph k).rel.length + (hv k).length) (f' := fun j => (updP ph k .idle j).rel.length + (hv j).length) hk fun j hj => by simp only [updP_ne _ _ hj]
    simp only [updP_same, hp, Ph.rel, List.length_nil, List.length_cons] at h2 h1 ⊢
    omega
  · rw [List.length_set]; exact h.tlen
  · rcases List.mem_cons.1 hy with rfl | hy
    · rw [tag_at (by omega) (by rw [h.tlen]; omega)]; rfl
    · have hb := h.bd hy
      rw [tag_set (by omega) (by omega) (hne y hy)]
      exact h.t0 y hy
  · have hb := h.hvBd hj hy
    rw [tag_set (by omega) (by omega) (hnh j hj y hy)]
    exact h.t1 j hj y hy
  · by_cases e : j = k
    · subst e
      rw [updP_same] at hy
      simp [Ph.rel] at hy
    · rw [updP_ne _ _ e] at hy
      have hb := h.relBd hj hy
      rw [tag_set (by omega) (by omega) (hnr j hj e y hy)]
      exact h.t2 j hj y hy
  · have h1 := h.cl
    rw [count_tag (by omega) (by rw [h.tlen]; omega), htp]
    simp
    omega
  · by_cases e : j = k
    · subst e; rw [updP_same]; trivial
    · rw [updP_ne _ _ e]
      exact (h.ok j hj).later (a := p) (by omega) (by omega) hw0 fun m hm => by
        have hb := h.relBd hj hm
        exact hfar m (by omega) hb.2

/-- A node that a thread has is given up. -/
theorem Inv.gone (h : Inv c n L s ws Gs ph hv) (hc : c.Ok) (hk : k < n) (hp : ph k = .idle) {p : Int} {l l1 l2 : List Int} (hl : hv k = l1 ++ p :: l2) (hl2 : l = l1 ++ l2) :
    Inv c n L s ws (Gs.then c.nd.toNat 1 p) (updP ph k (.b0 p)) (updL hv k l) := by
  subst hl2
  have hnd := hc.nd
  have hsn := (P.sent_in c.al).1
  have hpr : p ∈ hv k := by rw [hl]; simp
  have hpb := h.hvBd hk hpr
  have hone := fun y => h.one y
  have htp := h.t1 k hk p hpr
  have hth := then_ok (nd := c.nd.toNat) h.k0 (x := p) (by omega) (by omega) (by omega) htp
  rw [hth]
  have hsplit : ∀ y : Int, (l1 ++ p :: l2).count y = (l1 ++ l2).count y + [p].count y := fun y => by
    rw [show p :: l2 = [p] ++ l2 from rfl, List.count_append, List.count_append, List.count_append]; omega
  have hcatk : ∀ y, cat (updP ph k (.b0 p)) (updL hv k (l1 ++ l2)) y k = cat ph hv y k := fun y => by
    simp only [cat, updP_same, updL_same, hp, Ph.rel, List.count_nil, hl, hsplit]; omega
  have hcat : ∀ y, cat (updP ph k (.b0 p)) (updL hv k (l1 ++ l2)) y = cat ph hv y := fun y => by
    funext j
    by_cases e : j = k
    · subst e; exact hcatk y
    · simp only [cat, updP_ne _ _ e, updL_ne _ _ e]
  have hpone := hone p
  have hcp1 : [p].count p = 1 := by simp
  have hne : ∀ y, y ∈ L → y ≠ p := fun y hy e => by
    subst e
    have h1 := List.count_pos_iff.2 hy
    have h2 := tot_le (f := cat ph hv y) hk
    have h3 : 1 ≤ cat ph hv y k := by simp only [cat]; have := List.count_pos_iff.2 hpr; omega
    omega
  have hnr : ∀ j, j < n → ∀ y, y ∈ (ph j).rel → y ≠ p := fun j hj y hy e => by
    subst e
    have h4 := List.count_pos_iff.2 hy
    by_cases hjk : j = k
    · subst hjk; rw [hp] at hy; simp [Ph.rel] at hy
    · have h2 := tot_le2 (f := cat ph hv y) hj hk hjk
      have h3 : 1 ≤ cat ph hv y k := by simp only [cat]; have := List.count_pos_iff.2 hpr; omega
      have h5 : 1 ≤ cat ph hv y j := by simp only [cat]; omega
      omega
  have hnh : ∀ j, j < n → ∀ y, y ∈ updL hv k (l1 ++ l2) j → y ≠ p := fun j hj y hy e => by
    subst e
    have h4 := List.count_pos_iff.2 hy
    by_cases hjk : j = k
    · subst hjk
      rw [updL_same] at h4
      have h2 := tot_le (f := cat ph hv y) hk
      simp only [cat, hl, hsplit, hcp1] at h2 hpone
      omega
    · rw [updL_ne _ _ hjk] at h4
      have h2 := tot_le2 (f := cat ph hv y) hj hk hjk
      have h3 : 1 ≤ cat ph hv y k := by simp only [cat]; have := List.count_pos_iff.2 hpr; omega
      have h5 : 1 ≤ cat ph hv y j := by simp only [cat]; omega
      omega
  have hsub : ∀ j y, y ∈ updL hv k (l1 ++ l2) j → y ∈ hv j := fun j y hy => by
    by_cases e : j = k
    · subst e
      rw [updL_same] at hy
      rw [hl]
      rcases List.mem_append.1 hy with hy | hy
      · exact List.mem_append_left _ hy
      · exact List.mem_append_right _ (List.mem_cons_of_mem _ hy)
    · rwa [updL_ne _ _ e] at hy
  refine ⟨h.len, h.free, h.lk, h.lb, fun y => by rw [hcat]; exact h.cnt y, ?_, by rw [List.length_set]; exact h.tlen, h.k0, fun y hy => ?_, fun j hj y hy => ?_, fun j hj y hy => ?_, ?_, fun j hj => ?_⟩
  · have h1 := h.tl
    have hk1 : (updP ph k (.b0 p) k).rel.length + (updL hv k (l1 ++ l2) k).length = l1.length + l2.length + 1 := by simp [updP_same, updL_same, Ph.rel]; omega
    have hk0 : (ph k).rel.length + (hv k).length = l1.length + l2.length + 1 := by simp [hp, hl, Ph.rel]; omega
    have h2 : tot n (fun j => (updP ph k (.b0 p) j).rel.length + (updL hv k (l1 ++ l2) j).length) + ((ph k).rel.length + (hv k).length) = tot n (fun k => (ph k).rel.length + (hv k).length) + ((updP ph k (.b0 p) k).rel.length + (updL hv k (l1 ++ l2) k).length) :=
      tot_upd (f := fun k => (ph k).rel.length + (hv k).length) (f' := fun j => (updP ph k (.b0 p) j).rel.length + (updL hv k (l1 ++ l2) j).length) hk fun j hj => by simp only [updP_ne _ _ hj, updL_ne _ _ hj]
    rw [hk1, hk0] at h2
    omega
  · have hb := h.bd hy
    rw [tag_set (by omega) (by omega) (hne y hy)]
    exact h.t0 y hy
  · have hb := h.hvBd hj (hsub j y hy)
    rw [tag_set (by omega) (by omega) (hnh j hj y hy)]
    exact h.t1 j hj y (hsub j y hy)
  · by_cases e : j = k
    · subst e
      rw [updP_same] at hy
      obtain rfl : y = p := by simpa [Ph.rel] using hy
      exact tag_at (by omega) (by rw [h.tlen]; omega)
    · rw [updP_ne _ _ e] at hy
      have hb := h.relBd hj hy
      rw [tag_set (by omega) (by omega) (hnr j hj y hy)]
      exact h.t2 j hj y hy
  · have h1 := h.cl
    have h2 := tot_upd (f := fun k => (hv k).length) (f' := fun j => (updL hv k (l1 ++ l2) j).length) hk fun j hj => by simp only [updL_ne _ _ hj]
    simp only [updL_same, hl, List.length_append, List.length_cons] at h2
    rw [count_tag (by omega) (by rw [h.tlen]; omega), htp]
    simp
    omega
  · by_cases e : j = k
    · subst e; rw [updP_same]; trivial
    · rw [updP_ne _ _ e]; exact h.ok j hj

/-! ### A step -/
def Ph.nextL (L ws : List Int) : Ph → List Int
  | .a2 w _ => if wordAt ws 0 = w then L.tail else L
  | .b2 m w => if wordAt ws 0 = w then m :: L else L
  | _ => L
def Ph.inc (ws : List Int) : Ph → Nat
  | .a2 w _ => if wordAt ws 0 = w then 1 else 0
  | .b2 _ w => if wordAt ws 0 = w then 1 else 0
  | _ => 0
def Ph.got (ws : List Int) : Ph → List Int
  | .a2 w _ => if wordAt ws 0 = w then [pt w] else []
  | _ => []
theorem Inv.step (h : Inv c n L s ws Gs ph hv) (hc : c.Ok) (hs : s < 1099511627776) (hk : k < n) :
    Inv c n ((ph k).nextL L ws) (s + (ph k).inc ws) ((ph k).step c ws Gs).ws ((ph k).step c ws Gs).G (updP ph k ((ph k).step c ws Gs).ph) (updL hv k (hv k ++ (ph k).got ws)) := by
  have hF := h.Free hc hs
  have hb := h.nthBd hc
  have hnd := hc.nd
  have hnow : Old L s (wordAt ws 0) := ⟨s, Nat.le_refl _, by rw [hF.hd, h.free], fun _ => hF.hd⟩
  generalize hp : ph k = p
  have hok := h.ok k hk
  rw [hp] at hok
  cases p with
  | idle =>
    simp only [Ph.nextL, Ph.inc, Ph.got, Ph.step, List.append_nil, updL_id, Nat.add_zero]
    exact h.phase hk .idle (by rw [hp]) trivial
  | a0 =>
    simp only [Ph.nextL, Ph.inc, Ph.got, Ph.step, List.append_nil, updL_id, Nat.add_zero]
    by_cases hz : pt (wordAt ws 0) = 0
    · simp only [hz, if_true]
      exact h.phase hk .idle (by rw [hp]; rfl) trivial
    · simp only [hz, if_false]
      refine h.phase hk (.a1 (wordAt ws 0)) (by rw [hp]; rfl) ⟨hnow, ?_, ?_⟩
      · have := pt_bd (wordAt ws 0); omega
      · rw [hF.hd]; exact (hb 0).2
  | a1 w =>
    simp only [Ph.nextL, Ph.inc, Ph.got, Ph.step, List.append_nil, updL_id, Nat.add_zero]
    obtain ⟨o1, o2, o3⟩ := hok
    have hl := h.lb (pt w) o2 o3
    refine h.phase hk (.a2 w _) (by rw [hp]; rfl) ⟨o1, o2, o3, hl.1, hl.2, fun hw => ?_⟩
    have hpw : pt w = nth L 0 := by rw [← hw, hF.hd]
    have hlen : 0 < L.length := by
      rcases Nat.eq_zero_or_pos L.length with h0 | h0
      · rw [nth_end (by omega)] at hpw; omega
      · exact h0
    rw [hpw]
    exact h.lk 0 hlen
  | a2 w x =>
    by_cases hw : wordAt ws 0 = w
    · simp only [Ph.nextL, Ph.inc, Ph.got, Ph.step, hw, if_true]
      exact h.took hc hs hk hp hw
    · simp only [Ph.nextL, Ph.inc, Ph.got, Ph.step, hw, if_false, List.append_nil, updL_id, Nat.add_zero]
      exact h.phase hk .a0 (by rw [hp]; rfl) trivial
  | b0 m =>
    simp only [Ph.nextL, Ph.inc, Ph.got, Ph.step, List.append_nil, updL_id, Nat.add_zero]
    exact h.phase hk (.b1 m _) (by rw [hp]; rfl) ⟨hnow, by rw [hF.hd]; exact (hb 0).2⟩
  | b1 m w =>
    simp only [Ph.nextL, Ph.inc, Ph.got, Ph.step, List.append_nil, updL_id, Nat.add_zero]
    exact h.linked hc hk hp
  | b2 m w =>
    by_cases hw : wordAt ws 0 = w
    · simp only [Ph.nextL, Ph.inc, Ph.got, Ph.step, hw, if_true, List.append_nil, updL_id]
      exact h.freed hc hs hk hp hw
    · simp only [Ph.nextL, Ph.inc, Ph.got, Ph.step, hw, if_false, List.append_nil, updL_id, Nat.add_zero]
      exact h.phase hk (.b0 m) (by rw [hp]; rfl) trivial
end Go.Proofs.YtemikojaldoofaaGreat
