/- How many steps a thread needs at most, whatever the others do: plain numbers. The lists of what each thread has: a slice of slices. Amid ArenaCrowd: the machine, its threads' phases, what each thread has. Amid ArenaCrowd: a thread's list grows by one, or loses its first one. Amid ArenaCrowd's end: how often each node was met. -/
import Derived.Test.YtnedifcjenlcjaaAInv
import Derived.Test.YtnedifcjenlcjaaAOwn
import Derived.Test.YtnedifcjenlcjaaQRow
namespace Go.Proofs.Ytnedifcjenlcjaa
set_option linter.unusedVariables false

def Ph.rem : Ph → Nat
  | .idle => 0
  | .a0 => 3
  | .a1 _ => 2
  | .a2 _ _ => 1
  | .b0 _ => 3
  | .b1 _ _ => 2
  | .b2 _ _ => 1
/-- Has another one changed the word since? -/
def Ph.stale (ws : List Int) : Ph → Nat
  | .a1 w => if wordAt ws 0 = w then 0 else 3
  | .a2 w _ => if wordAt ws 0 = w then 0 else 3
  | .b1 _ w => if wordAt ws 0 = w then 0 else 3
  | .b2 _ w => if wordAt ws 0 = w then 0 else 3
  | _ => 0
def Ph.act (p : Ph) : Nat := if p.on then 1 else 0
/-- How many steps a thread needs at most, of n threads. -/
def need (n : Nat) (ws : List Int) (ph : Nat → Ph) (k : Nat) : Nat :=
  if (ph k).on then (ph k).rem + (ph k).stale ws + 3 * (tot n (fun j => (ph j).act) - 1) else 0
theorem stale_le (ws : List Int) (p : Ph) : p.stale ws ≤ 3 := by
  cases p <;> simp only [Ph.stale] <;> first | omega | (split <;> omega)
theorem rem_le (p : Ph) : p.rem ≤ 3 := by cases p <;> simp [Ph.rem]
theorem act_le (p : Ph) : p.act ≤ 1 := by unfold Ph.act; split <;> omega
theorem tot_act {n : Nat} (ph : Nat → Ph) : tot n (fun j => (ph j).act) ≤ n := by
  induction n with
  | zero => simp [tot]
  | succ n ih => simp only [tot]; have := act_le (ph n); omega
theorem need_le {n : Nat} {ws : List Int} {ph : Nat → Ph} (hn : n ≤ 6) (k : Nat) : need n ws ph k ≤ 21 := by
  unfold need
  split
  · have := stale_le ws (ph k)
    have := rem_le (ph k)
    have := tot_act (n := n) ph
    omega
  · omega
theorem need_zero {n : Nat} {ws : List Int} {ph : Nat → Ph} {k : Nat} (h : need n ws ph k = 0) : ph k = .idle := by
  unfold need at h
  generalize ph k = p at *
  cases p <;> simp [Ph.on, Ph.rem] at h ⊢

variable {c : P.Cf} {n : Nat} {L : List Int} {s : Nat} {ws : List Int} {Gs : G.GS} {ph : Nat → Ph} {hv : Nat → List Int} {k : Nat}
/-- A step takes one from what its thread needs, and adds nothing to what the others need. -/
theorem need_step (h : Inv c n L s ws Gs ph hv) (hc : c.Ok) (hk : k < n) (hon : (ph k).on = true) :
    need n ((ph k).step c ws Gs).ws (updP ph k ((ph k).step c ws Gs).ph) k + 1 ≤ need n ws ph k ∧ ∀ j, j < n → j ≠ k → need n ((ph k).step c ws Gs).ws (updP ph k ((ph k).step c ws Gs).ph) j ≤ need n ws ph j := by
  have hact : ∀ p : Ph, tot n (fun j => (updP ph k p j).act) + (ph k).act = tot n (fun j => (ph j).act) + p.act := fun p => by
    have := tot_upd (f := fun j => (ph j).act) (f' := fun j => (updP ph k p j).act) hk fun j hj => by simp only [updP_ne _ _ hj]
    simpa [updP_same] using this
  have h1 : (ph k).act = 1 := by unfold Ph.act; rw [if_pos hon]
  have h2 : ∀ j, j < n → j ≠ k → (ph j).on = true → 2 ≤ tot n (fun j => (ph j).act) := fun j hj hjk ho => by
    have := tot_le2 (f := fun j => (ph j).act) hj hk hjk
    have h3 : (ph j).act = 1 := by unfold Ph.act; rw [if_pos ho]
    simp only [h1, h3] at this; omega
  have h3 : 1 ≤ tot n (fun j => (ph j).act) := by have := tot_le (f := fun j => (ph j).act) hk; simp only [h1] at this; omega
  -- quiet: the words' first one stays, the phase goes on
  have quiet : ∀ (ws' : List Int) (p : Ph), wordAt ws' 0 = wordAt ws 0 → p.rem + p.stale ws' + 1 ≤ (ph k).rem + (ph k).stale ws → (p.on = false → p.act = 0) →
      need n ws' (updP ph k p) k + 1 ≤ need n ws ph k ∧ ∀ j, j < n → j ≠ k → need n ws' (updP ph k p) j ≤ need n ws ph j := fun ws' p hw hle hoff => by
    have ha := hact p
    have hap := act_le p
    have hs : ∀ q : Ph, q.stale ws' = q.stale ws := fun q => by cases q <;> simp only [Ph.stale, hw]
    refine ⟨?_, fun j hj hjk => ?_⟩
    · unfold need
      rw [updP_same, if_pos hon]
      split
      · omega
      · have := rem_le (ph k)
        omega
    · unfold need
      rw [updP_ne _ _ hjk, hs]
      split
      · omega
      · omega
  -- done: the list is changed, the thread is idle
  have done : ∀ (ws' : List Int), 
      need n ws' (updP ph k .idle) k + 1 ≤ need n ws ph k ∧ ∀ j, j < n → j ≠ k → need n ws' (updP ph k .idle) j ≤ need n ws ph j := fun ws' => by
    have ha := hact .idle
    have h0 : (Ph.idle).act = 0 := rfl
    refine ⟨?_, fun j hj hjk => ?_⟩
    · unfold need
      rw [updP_same, if_pos hon]
      have hr : 1 ≤ (ph k).rem := by
        generalize ph k = p at *
        cases p <;> first | (simp [Ph.on] at hon; done) | simp [Ph.rem]
      simp [Ph.on]; omega
    · unfold need
      rw [updP_ne _ _ hjk]
      split
      · rename_i ho
        have := h2 j hj hjk ho
        have := stale_le ws' (ph j)
        omega
      · omega
  generalize hp : ph k = p at *
  cases p with
  | idle => simp [Ph.on] at hon
  | a0 =>
    by_cases hz : pt (wordAt ws 0) = 0
    · simp only [Ph.step, hz, if_true]; exact done ws
    · simp only [Ph.step, hz, if_false]
      exact quiet ws _ rfl (by simp [Ph.rem, Ph.stale]) (by simp [Ph.on])
  | a1 w => exact quiet ws (.a2 w (wordAt ws (c.link (pt w)).toNat)) rfl (by simp only [Ph.rem, Ph.stale]; omega) (by simp [Ph.on])
  | a2 w x =>
    by_cases hw : wordAt ws 0 = w
    · simp only [Ph.step, hw, if_true]; exact done _
    · simp only [Ph.step, hw, if_false]
      exact quiet ws _ rfl (by simp [Ph.rem, Ph.stale, hw]) (by simp [Ph.on])
  | b0 m => exact quiet ws (.b1 m (wordAt ws 0)) rfl (by simp [Ph.rem, Ph.stale]) (by simp [Ph.on])
  | b1 m w =>
    have hm : P.sent c.al < m ∧ m ≤ c.nd := h.relBd hk (by rw [hp]; simp [Ph.rel])
    have hsn := (P.sent_in c.al).1
    have hlk := link_ge hc (m := m) (by omega) hm.2
    have hw0 : wordAt (ws.set (c.link m).toNat (pt w)) 0 = wordAt ws 0 := set_far _ _ _ (by omega)
    exact quiet (ws.set (c.link m).toNat (pt w)) (.b2 m w) hw0 (by simp only [Ph.rem, Ph.stale, hw0]; omega) (by simp [Ph.on])
  | b2 m w =>
    by_cases hw : wordAt ws 0 = w
    · simp only [Ph.step, hw, if_true]; exact done _
    · simp only [Ph.step, hw, if_false]
      exact quiet ws _ rfl (by simp [Ph.rem, Ph.stale, hw]) (by simp [Ph.on])

/-! ### Picks to come -/
def pk (n k : Nat) : Nat → Nat → Nat
  | _, 0 => 0
  | i, m + 1 => (if i % n = k then 1 else 0) + pk n k (i + 1) m
theorem pk_add (n k i a b : Nat) : pk n k i (a + b) = pk n k i a + pk n k (i + a) b := by
  induction a generalizing i with
  | zero => simp [pk]
  | succ a ih =>
    rw [show a + 1 + b = (a + b) + 1 by omega]
    simp only [pk]
    rw [ih, show i + 1 + a = i + (a + 1) by omega]
    omega
theorem pk_one {n k : Nat} (hk : k < n) (i : Nat) : 1 ≤ pk n k i n := by
  obtain ⟨d, hd, he⟩ : ∃ d, d < n ∧ (i + d) % n = k := by
    refine ⟨(k + n - i % n) % n, Nat.mod_lt _ (by omega), ?_⟩
    have h1 := Nat.mod_lt i (show 0 < n by omega)
    rw [Nat.add_mod, Nat.mod_mod, ← Nat.add_mod]
    by_cases h : i % n ≤ k
    · rw [show i + (k + n - i % n) = (i - i % n) + k + n by have := Nat.mod_le i n; omega, Nat.add_mod_right]
      have h2 : (i - i % n) % n = 0 := by
        have := Nat.div_add_mod i n
        rw [show i - i % n = n * (i / n) by omega]
        exact Nat.mul_mod_right _ _
      rw [Nat.add_mod, h2, Nat.zero_add, Nat.mod_mod, Nat.mod_eq_of_lt hk]
    · rw [show i + (k + n - i % n) = (i - i % n) + k + n by have := Nat.mod_le i n; omega, Nat.add_mod_right]
      have h2 : (i - i % n) % n = 0 := by
        have := Nat.div_add_mod i n
        rw [show i - i % n = n * (i / n) by omega]
        exact Nat.mul_mod_right _ _
      rw [Nat.add_mod, h2, Nat.zero_add, Nat.mod_mod, Nat.mod_eq_of_lt hk]
  rw [show n = d + ((n - d - 1) + 1) by omega, pk_add]
  simp only [pk]
  rw [if_pos (by rw [show d + (n - d - 1 + 1) = n by omega]; exact he)]
  omega
theorem pk_many {n k : Nat} (hk : k < n) (i q : Nat) : q ≤ pk n k i (q * n) := by
  induction q generalizing i with
  | zero => omega
  | succ q ih =>
    rw [show (q + 1) * n = n + q * n by rw [Nat.add_mul]; omega, pk_add]
    have := pk_one hk i
    have := ih (i + n)
    omega
end Go.Proofs.Ytnedifcjenlcjaa
namespace Go.Proofs.Ytnedifcjenlcjaa
open Go.ChangeShapes Go.WideShapes Go.ChangeAt Go.RowKit
set_option linter.unusedVariables false
set_option maxRecDepth 20000

theorem info24 : (Try.prog.info? 24).map (fun i => (i.zero, i.size, i.bytes)) = some (some (.slice none 0 0), 1, 24) := by kernel_rfl
theorem made_hv (n : Nat) (w : World) (h : n ≤ 6) : (Instr.makeSlice 42 (.int .i64 n) (.int .i64 n)).run Try.prog w = .ok (.slice (some ⟨w.heap.size, 0, none⟩) n n) (w.alloc (.cells (madeCells (Value.slice none 0 0).cells n) 24)) := by
  obtain ⟨i0, hi, hz0, hz1, hz2⟩ := info_parts info24
  have := run_makeSlice (P := Try.prog) w 42 24 i0 (.slice none 0 0) Try.underlying42 hi hz0 .i64 .i64 n n (by omega) (by omega) (by rw [hz1]; simp; omega) (by rw [hz2]; omega) (by omega)
  rw [this, hz1]
  simp

/-- The lists hv of n threads lie at H; what they own is none of X's. -/
def HvAt (w : World) (X : Nat → Prop) (H n : Nat) (hv : Nat → List Int) (W : World) : Prop :=
  ∃ (cs : Array Value) (vs : Nat → Value), Blk W H 24 cs ∧ cs.size = n ∧ (∀ i, i < n → cs[i]? = some (vs i) ∧ R.Row W 3 (vs i) (hv i).length (ints (hv i)) ∧ ∀ k, (vs i).ownBlock = some k → w.heap.size ≤ k ∧ ¬ X k) ∧
    ∀ i j, i < n → j < n → i ≠ j → ∀ k, (vs i).ownBlock = some k → (vs j).ownBlock ≠ some k
variable {w W W' : World} {X X' : Nat → Prop} {H n : Nat} {hv : Nat → List Int}
theorem rrow_blk {v : Value} {e : TypeId} {m : Nat} {vs : List Value} (h : R.Row W e v m vs) {k : Nat} (hk : v.ownBlock = some k) : ∃ cur, Blk W k e cur := by
  rcases h.2 with ⟨rfl, _⟩ | ⟨g, off, cap, cur, rfl, hg, r⟩
  · cases hk
  · obtain rfl : g = k := by simpa [Value.ownBlock] using hk
    exact ⟨cur, hg⟩
theorem HvAt.lt (h : HvAt w X H n hv W) : H < W.heap.size := by
  obtain ⟨cs, vs, hb, _⟩ := h
  exact hb.lt
theorem HvAt.keeps (h : HvAt w X H n hv W) (hH : ¬ X H) (hk : Keeps X W W') (hl : Later X W X') : HvAt w X' H n hv W' := by
  obtain ⟨cs, vs, hb, hs, hi, ha⟩ := h
  refine ⟨cs, vs, hb.agree (hk.block H hb.lt hH), hs, fun i h0 => ?_, ha⟩
  obtain ⟨a1, a2, a3⟩ := hi i h0
  exact ⟨a1, a2.keeps hk fun k e => (a3 k e).2, fun k e => ⟨(a3 k e).1, fun hx => (hl k hx).elim (a3 k e).2 (by have := a2.lt e; omega)⟩⟩
theorem HvAt.below (h : HvAt w X H n hv W) (hb : Below W.heap.size W W') : HvAt w X H n hv W' := by
  obtain ⟨cs, vs, hb0, hs, hi, ha⟩ := h
  refine ⟨cs, vs, hb0.agree (hb.block H hb0.lt), hs, fun i h0 => ?_, ha⟩
  obtain ⟨a1, a2, a3⟩ := hi i h0
  exact ⟨a1, a2.below hb fun k e => a2.lt e, a3⟩
/-- A thread's list, as it is read. -/
theorem HvAt.read (h : HvAt w X H n hv W) {i : Nat} (hi : i < n) : ∃ a cap, W.cell? ⟨H, i, none⟩ = some (.slice a (hv i).length cap) ∧ R.Row W 3 (.slice a (hv i).length cap) (hv i).length (ints (hv i)) ∧ (hv i).length ≤ cap ∧ cap ≤ maxLen ∧ W.frozen? ⟨H, i, none⟩ = false ∧
    ∀ k, (Value.slice a (hv i).length cap).ownBlock = some k → w.heap.size ≤ k ∧ ¬ X k ∧ k ≠ H := by
  obtain ⟨cs, vs, hb, hs, hx, ha⟩ := h
  obtain ⟨a1, a2, a3⟩ := hx i hi
  obtain ⟨a, cap, e, c1, c2⟩ := a2.form
  rw [e] at a1 a2 a3
  refine ⟨a, cap, (hb.cell i).trans a1, a2, c1, c2, hb.frozen i, fun k hk => ⟨(a3 k hk).1, (a3 k hk).2, ?_⟩⟩
  obtain ⟨cur, hc⟩ := rrow_blk a2 hk
  exact Blk.ne hc hb (by decide)
/-- The j-th one of a thread's list. -/
theorem HvAt.at_ (h : HvAt w X H n hv W) {i : Nat} (hi : i < n) (hp : 0 < (hv i).length) : ∃ g off cap, W.cell? ⟨H, i, none⟩ = some (.slice (some ⟨g, off, none⟩) (hv i).length cap) ∧ (hv i).length ≤ cap ∧ cap ≤ maxLen ∧ W.frozen? ⟨H, i, none⟩ = false ∧ ∀ j, j < (hv i).length → W.cell? ⟨g, off + j, none⟩ = some (.int .i64 (nth (hv i) j)) := by
  obtain ⟨cs, vs, hb, hs, hx, ha⟩ := h
  obtain ⟨a1, a2, a3⟩ := hx i hi
  obtain ⟨g, off, cap, e, c1, c2, c3, c4⟩ := a2.at_ hp
  rw [e] at a1
  refine ⟨g, off, cap, (hb.cell i).trans a1, c1, c2, hb.frozen i, fun j hj => ?_⟩
  rw [c3 j hj]
  simp [ints, nth, List.getElem?_eq_getElem hj]
/-- A thread's list is written anew; its row is one of its own. -/
theorem HvAt.store (h : HvAt w X H n hv W) {i : Nat} (hi : i < n) {V : World} {v' : Value} {l : List Int} (hH : H ≤ H)
    (hr : R.Row V 3 v' l.length (ints l)) (hag : ∀ k, k < W.heap.size → (∀ a cap, W.cell? ⟨H, i, none⟩ = some (.slice a (hv i).length cap) → (Value.slice a (hv i).length cap).ownBlock ≠ some k) → V.heap[k]? = W.heap[k]?)
    (hown : ∀ k, v'.ownBlock = some k → (∃ a cap, W.cell? ⟨H, i, none⟩ = some (.slice a (hv i).length cap) ∧ (Value.slice a (hv i).length cap).ownBlock = some k) ∨ W.heap.size ≤ k) (hX : ∀ k, X k → k < W.heap.size) (hw : w.heap.size ≤ W.heap.size) :
    HvAt w X H n (updL hv i l) (V.setCell ⟨H, i, none⟩ v') := by
  obtain ⟨cs, vs, hb, hs, hx, ha⟩ := h
  obtain ⟨a1, a2, a3⟩ := hx i hi
  obtain ⟨a, cap, e, c1, c2⟩ := a2.form
  have hcell : W.cell? ⟨H, i, none⟩ = some (.slice a (hv i).length cap) := (hb.cell i).trans (by rw [a1, e])
  have hag' : ∀ k, k < W.heap.size → (vs i).ownBlock ≠ some k → V.heap[k]? = W.heap[k]? := fun k hk hn => hag k hk fun a' cap' hc => by
    rw [hcell] at hc
    cases hc
    rw [← e]; exact hn
  have hown' : ∀ k, v'.ownBlock = some k → (vs i).ownBlock = some k ∨ W.heap.size ≤ k := fun k hk => (hown k hk).imp (fun ⟨a', cap', hc, ho⟩ => by
    rw [hcell] at hc
    cases hc
    rw [e]; exact ho) id
  have hHi : (vs i).ownBlock ≠ some H := fun hk => by
    obtain ⟨cur, hc⟩ := rrow_blk a2 hk
    exact Blk.ne hc hb (by decide) rfl
  have hbV : Blk V H 24 cs := hb.agree (hag' H hb.lt hHi)
  have hvH : v'.ownBlock ≠ some H := fun hk => (hown' H hk).elim hHi (by have := hb.lt; omega)
  refine ⟨_, fun j => if j = i then v' else vs j, hbV.set i v', by simpa using hs, fun j hj => ?_, ?_⟩
  · by_cases hji : j = i
    · subst hji
      simp only [if_true, updL_same]
      refine ⟨Array.getElem?_setIfInBounds_self_of_lt (by omega), hr.setCell hvH _, fun k hk => ?_⟩
      rcases hown' k hk with h1 | h1
      · exact a3 k h1
      · exact ⟨by omega, fun hx => by have := hX k hx; omega⟩
    · obtain ⟨b1, b2, b3⟩ := hx j hj
      simp only [if_neg hji, updL_ne _ _ hji]
      refine ⟨by rw [Array.getElem?_setIfInBounds_ne (Ne.symm hji)]; exact b1, R.Row.setCell (b2.agree fun k hk => hag' k (b2.lt hk) fun h2 => ha i j hi hj (Ne.symm hji) k h2 hk) (fun hk => ?_) _, b3⟩
      obtain ⟨cur, hc⟩ := rrow_blk b2 hk
      exact Blk.ne hc hb (by decide) rfl
  · have key : ∀ j, j < n → j ≠ i → ∀ k, v'.ownBlock = some k → (vs j).ownBlock ≠ some k := fun j hj hji k e1 e2 => by
      rcases hown' k e1 with h1 | h1
      · exact ha i j hi hj (Ne.symm hji) k h1 e2
      · have := (hx j hj).2.1.lt e2; omega
    intro j1 j2 h1 h2 hne k e1 e2
    dsimp only at e1 e2
    by_cases q1 : j1 = i
    · subst q1
      rw [if_pos rfl] at e1
      rw [if_neg (Ne.symm hne)] at e2
      exact key j2 h2 (Ne.symm hne) k e1 e2
    · rw [if_neg q1] at e1
      by_cases q2 : j2 = i
      · subst q2
        rw [if_pos rfl] at e2
        exact key j1 h1 hne k e2 e1
      · rw [if_neg q2] at e2
        exact ha j1 j2 h1 h2 hne k e1 e2
theorem HvAt.made (w W : World) (X : Nat → Prop) (n : Nat) : HvAt w X W.heap.size n (fun _ => []) (W.alloc (.cells (madeCells (Value.slice none 0 0).cells n) 24)) := by
  refine ⟨_, fun _ => .slice none 0 0, Blk.new _ _ _, by simp [madeCells], fun i hi => ⟨?_, R.Row.nil _ _, fun k e => by cases e⟩, fun i j _ _ _ k e => by cases e⟩
  simp [madeCells, hi]
  show (#[Value.slice none 0 0] : Array Value)[i % 1]! = _
  rw [Nat.mod_one]
  rfl
end Go.Proofs.Ytnedifcjenlcjaa
namespace Go.Proofs.Ytnedifcjenlcjaa
open Go.ChangeShapes Go.WideShapes Go.ChangeAt Go.RowKit
set_option linter.unusedVariables false
set_option maxRecDepth 20000

/-- Is the routine Alloc, or Release? -/
def Ph.fn : Ph → Int
  | .a0 => 1
  | .a1 _ => 1
  | .a2 _ _ => 1
  | _ => 2
theorem Ph.Is.some {p : Ph} {fr : List Fr} (h : p.Is fr) (hon : p.on = true) : ∃ f, fr = [f] ∧ f.fn = p.fn := by
  cases p <;> simp only [Ph.Is] at h
  · simp [Ph.on] at hon
  all_goals
    obtain ⟨f, rfl, h2, _⟩ := h
    exact ⟨f, rfl, h2⟩
theorem Ph.Is.none_ {p : Ph} {fr : List Fr} (h : p.Is fr) (hon : p.on = false) : fr = [] := by
  cases p <;> first | exact h | simp [Ph.on] at hon
variable {c : P.Cf} {n : Nat} {L : List Int} {s : Nat} {ws : List Int} {Gs : G.GS} {ph : Nat → Ph} {hv hr : Nat → List Int} {k : Nat}
/-- What a thread has got by a step: it is told. -/
theorem got_yes (h : Inv c n L s ws Gs ph hv) (hk : k < n) (h1 : ((ph k).step c ws Gs).ph.on = false) (h2 : (ph k).fn = 1) (h3 : ((ph k).step c ws Gs).ret ≠ 0) : (ph k).got ws = [((ph k).step c ws Gs).ret] := by
  generalize ph k = p at *
  cases p with
  | a2 w x =>
    by_cases hw : wordAt ws 0 = w
    · simp [Ph.got, Ph.step, hw]
    · simp [Ph.step, hw, Ph.on] at h1
  | a0 =>
    by_cases hz : pt (wordAt ws 0) = 0
    · simp [Ph.step, hz] at h3
    · simp [Ph.step, hz, Ph.on] at h1
  | a1 w => simp [Ph.step, Ph.on] at h1
  | idle => simp [Ph.fn] at h2
  | b0 m => simp [Ph.fn] at h2
  | b1 m w => simp [Ph.fn] at h2
  | b2 m w => simp [Ph.fn] at h2
theorem got_no (h : Inv c n L s ws Gs ph hv) (hk : k < n) (h1 : ((ph k).step c ws Gs).ph.on = true ∨ (ph k).fn ≠ 1 ∨ ((ph k).step c ws Gs).ret = 0) : (ph k).got ws = [] := by
  have ho := h.ok k hk
  generalize ph k = p at *
  cases p with
  | a2 w x =>
    by_cases hw : wordAt ws 0 = w
    · have := ho.2.1
      rcases h1 with h1 | h1 | h1
      · simp [Ph.step, hw, Ph.on] at h1
      · simp [Ph.fn] at h1
      · simp [Ph.step, hw] at h1; omega
    · simp [Ph.got, hw]
  | a0 => rfl
  | a1 w => rfl
  | idle => rfl
  | b0 m => rfl
  | b1 m w => rfl
  | b2 m w => rfl

/-- Amid ArenaCrowd: ph are the phases, as the ghosts have them, pf those of the frames; hv is what threads have, hr what their lists say. -/
structure CS (c : P.Cf) (w : World) (Cb B Fb T g t H : Nat) (L : List Int) (s : Nat) (st : Int) (ws : List Int) (ph pf : Nat → Ph) (hv hr : Nat → List Int) (W : World) : Prop where
  cb : P.Blk W Cb 23 c.cs
  bel : Below w.heap.size w W
  ex : ∃ X Gs ts, Mac c B Fb T X (AS g t ws st Gs ts) W ∧ Inv c c.th.toNat L s ws Gs ph hv ∧ (∀ i, i < c.th.toNat → (pf i).Is (ts i).fr) ∧ (∀ k, X k → w.heap.size ≤ k) ∧ HvAt w X H c.th.toNat hr W
  hl : w.heap.size ≤ H
section
variable {w W W' : World} {Cb B Fb T g t H : Nat} {st : Int} {pf : Nat → Ph}
theorem CS.below (h : CS c w Cb B Fb T g t H L s st ws ph pf hv hr W) (hb : Below W.heap.size W W') : CS c w Cb B Fb T g t H L s st ws ph pf hv hr W' := by
  obtain ⟨X, Gs, ts, m, i, hi, hX, hh⟩ := h.ex
  exact ⟨h.cb.below hb h.cb.lt, P.below_then h.bel hb (Nat.le_refl _), ⟨X, Gs, ts, m.below hb, i, hi, hX, hh.below hb⟩, h.hl⟩
theorem Mac.no23 {X : Nat → Prop} {σ : Sg} (m : Mac c B Fb T X σ W) {k : Nat} {ty : TypeId} {cs : Array Value} (hb : Blk W k ty cs) (ht : ty = 23 ∨ ty = 24) : ¬ X k := by
  rcases ht with rfl | rfl
  · exact m.no hb (by decide) (by decide) (by decide) (by decide) (by decide) (by decide) (by decide) (by decide)
  · exact m.no hb (by decide) (by decide) (by decide) (by decide) (by decide) (by decide) (by decide) (by decide)
/-- The machine has turned. -/
theorem CS.turn {X : Nat → Prop} {Gs Gs' : G.GS} {ts ts' : Nat → Th} {L' : List Int} {s' : Nat} {st' : Int} {ws' : List Int} {ph' pf' : Nat → Ph} {hv' : Nat → List Int} (hcb : P.Blk W Cb 23 c.cs) (hbel : Below w.heap.size w W)
    (m : Mac c B Fb T X (AS g t ws st Gs ts) W) (hX : ∀ k, X k → w.heap.size ≤ k) (hh : HvAt w X H c.th.toNat hr W) (hl : w.heap.size ≤ H) (ht : MacT c B Fb T (AS g t ws' st' Gs' ts') X W W')
    (i' : Inv c c.th.toNat L' s' ws' Gs' ph' hv') (hi' : ∀ i, i < c.th.toNat → (pf' i).Is (ts' i).fr) : CS c w Cb B Fb T g t H L' s' st' ws' ph' pf' hv' hr W' := by
  obtain ⟨X', k, l, m'⟩ := ht
  have hH : ¬ X H := by
    obtain ⟨cs, vs, hb, _⟩ := hh
    exact m.no23 hb (.inr rfl)
  refine ⟨Blk.agree hcb (k.block Cb (Blk.lt hcb) (m.no23 hcb (.inl rfl))), hbel.trans (k.below hbel.size hX), ⟨X', Gs', ts', m', i', hi', fun q hq => ?_, hh.keeps hH k l⟩, hl⟩
  rcases l q hq with h | h
  · exact hX q h
  · exact Nat.le_trans hbel.size h
/-- A node is given up. -/
theorem CS.gone (hok : c.Ok) (h : CS c w Cb B Fb T g t H L s st ws ph pf hv hr W) (hk : k < c.th.toNat) (hp : ph k = .idle) {p : Int} {l : List Int} (hl : hv k = p :: l) :
    Calls Try.prog 13 #[at0 B, .int .i64 p] W fun e W' => e = .returned (.tuple #[]) ∧ CS c w Cb B Fb T g t H L s st ws (updP ph k (.b0 p)) pf (updL hv k l) hr W' := by
  obtain ⟨X, Gs, ts, m, i, hi, hX, hh⟩ := h.ex
  refine (agone hok m p).mono ?_
  rintro e W' ⟨rfl, ht, -⟩
  exact ⟨rfl, CS.turn h.cb h.bel m hX hh h.hl ht (i.gone hok hk hp (l1 := []) (l2 := l) hl rfl) hi⟩
theorem upd_is {ts : Nat → Th} {th : Th} {p : Ph} (hi : ∀ i, i < n → (pf i).Is (ts i).fr) (hp : p.Is th.fr) : ∀ i, i < n → (updP pf k p i).Is (upd ts k th i).fr := fun i h0 => by
  by_cases e : i = k
  · subst e; rw [updP_same, upd_same]; exact hp
  · rw [updP_ne _ _ e, upd_ne _ _ e]; exact hi i h0
/-- A routine is begun. -/
theorem CS.push (hok : c.Ok) (h : CS c w Cb B Fb T g t H L s st ws ph pf hv hr W) (hk : k < c.th.toNat) (hp : pf k = .idle) {ph' : Nat → Ph} {p : Ph} {fn : Int} {a : Option Addr} {m cap : Nat} {rl : List Int} (V : World) (hV : Below W.heap.size W V) (R : F.Row .u64 V a m cap rl) (hm : m ≤ 100) (his : p.Is [⟨fn, 0, rl⟩])
    (hinv : ∀ Gs, Inv c c.th.toNat L s ws Gs ph hv → Inv c c.th.toNat L s ws Gs ph' hv) :
    Calls Try.prog 20 #[.pointer (some ⟨T, k * 10, none⟩), .int .i64 fn, .slice a m cap] V fun e W' => e = .returned (.tuple #[]) ∧ CS c w Cb B Fb T g t H L s st ws ph' (updP pf k p) hv hr W' := by
  have h' := h.below hV
  obtain ⟨X, Gs, ts, mm, i, hi, hX, hh⟩ := h'.ex
  have hfr : (ts k).fr = [] := by have := hi k hk; rw [hp] at this; exact this
  refine (mm.push hk (by show (ts k).fr.length ≤ 1000; rw [hfr]; simp) fn R hm).mono ?_
  rintro e W' ⟨rfl, ht⟩
  exact ⟨rfl, CS.turn h'.cb h'.bel mm hX hh h'.hl ht (hinv Gs i) (upd_is hi (by show p.Is ((ts k).fr ++ _); rw [hfr]; exact his))⟩
/-- A step of a thread that is in a routine. -/
theorem CS.step (hok : c.Ok) (h : CS c w Cb B Fb T g t H L s st ws ph ph hv hr W) (hs : s < 1000000) (hst : 0 ≤ st ∧ st ≤ 900000) (hk : k < c.th.toNat) (hon : (ph k).on = true) :
    Calls Try.prog 21 #[at0 B, .int .i64 k, .func (.func 22) #[] #[]] W fun e W' => ∃ (L' : List Int) (s' : Nat) (ws' : List Int) (p : Ph) (ret : Int) (got : List Int), e = .returned (.bool p.on) ∧ s' ≤ s + 1 ∧
      CS c w Cb B Fb T g t H L' s' (st + 1) ws' (updP ph k p) (updP ph k p) (updL hv k (hv k ++ got)) hr W' ∧ (p.on = false → W'.cell? ⟨T, k * 10 + 2, none⟩ = some (.int .u64 ret) ∧ 0 ≤ ret ∧ ret ≤ 1000) ∧
      (p.on = false → (ph k).fn = 1 → ret ≠ 0 → got = [ret]) ∧ (p.on = true ∨ (ph k).fn ≠ 1 ∨ ret = 0 → got = []) ∧ need c.th.toNat ws' (updP ph k p) k + 1 ≤ need c.th.toNat ws ph k ∧ ∀ j, j < c.th.toNat → j ≠ k → need c.th.toNat ws' (updP ph k p) j ≤ need c.th.toNat ws ph j := by
  obtain ⟨X, Gs, ts, m, i, hi, hX, hh⟩ := h.ex
  have hpre := i.pre hok (by omega) hk hon
  refine (step_ph hok m hk i.len ⟨hst.1, by omega⟩ (ph k) (hi k hk) hpre).mono ?_
  rintro e W' ⟨rfl, th, ht, his, hret⟩
  have i' := i.step hok (by omega) hk
  have hn := need_step i hok hk hon
  have hinc : (ph k).inc ws ≤ 1 := by
    generalize ph k = p
    cases p <;> simp only [Ph.inc] <;> first | omega | (split <;> omega)
  have hrb : ((ph k).step c ws Gs).ph = .idle → 0 ≤ ((ph k).step c ws Gs).ret ∧ ((ph k).step c ws Gs).ret ≤ 1000 := fun _ => by
    have ho := i.ok k hk
    have hr := fun x => i.relBd hk (x := x)
    have hnd := hok.nd
    have hsn := (P.sent_in c.al).1
    generalize ph k = p at *
    cases p with
    | idle => simp [Ph.step]
    | a0 => simp only [Ph.step]; split <;> simp
    | a1 w' => simp [Ph.step]
    | a2 w' x =>
      simp only [Ph.step]
      split
      · have := ho.2.1; have := ho.2.2.1; simp; omega
      · simp
    | b0 q => simp [Ph.step]
    | b1 q w' => simp [Ph.step]
    | b2 q w' =>
      have := hr q (by simp [Ph.rel])
      simp only [Ph.step]
      split
      · simp; omega
      · simp
  have hoff : ((ph k).step c ws Gs).ph.on = false → ((ph k).step c ws Gs).ph = .idle := fun h0 => by
    generalize ((ph k).step c ws Gs).ph = q at *
    cases q <;> first | rfl | simp [Ph.on] at h0
  refine ⟨_, _, _, _, ((ph k).step c ws Gs).ret, _, rfl, by omega, CS.turn h.cb h.bel m hX hh h.hl ht i' (upd_is hi his), fun h0 => ?_, got_yes i hk, got_no i hk, hn.1, hn.2⟩
  obtain ⟨X', kk, l, m'⟩ := ht
  have := (m'.ret hk).1
  simp only [upd_same] at this
  rw [hret (hoff h0)] at this
  exact ⟨this, hrb (hoff h0)⟩
theorem CS.fault (h : CS c w Cb B Fb T g t H L s st ws ph pf hv hr W) : Calls Try.prog 15 #[at0 B] W fun e W' => e = .returned (.bool false) ∧ Below W.heap.size W W' := by
  obtain ⟨X, Gs, ts, m, i, hi, hX, hh⟩ := h.ex
  have := m.fault
  have hk : gBad (some (g, t, Gs)) = false := by simp [gBad, i.k0]
  simp only [hk, Bool.or_false] at this
  exact this
theorem CS.thread (hok : c.Ok) (h : CS c w Cb B Fb T g t H L s st ws ph pf hv hr W) (hk : k < c.th.toNat) : Calls Try.prog 18 #[at0 B, .int .i64 k] W fun e W' => e = .returned (.pointer (some ⟨T, k * 10, none⟩)) ∧ W = W' := by
  obtain ⟨X, Gs, ts, m, -⟩ := h.ex
  have := hok.th
  exact thread_yes B T c.th.toNat k W (by omega) m.thread hk
theorem CS.topNone (h : CS c w Cb B Fb T g t H L s st ws ph pf hv hr W) (hk : k < c.th.toNat) (hp : pf k = .idle) : Calls Try.prog 19 #[.pointer (some ⟨T, k * 10, none⟩)] W fun e W' => e = .returned (.pointer none) ∧ W = W' := by
  obtain ⟨X, Gs, ts, m, i, hi, -⟩ := h.ex
  exact m.topNone hk (by have := hi k hk; rw [hp] at this; exact this)
theorem CS.topSome (h : CS c w Cb B Fb T g t H L s st ws ph pf hv hr W) (hk : k < c.th.toNat) (hp : (pf k).on = true) : ∃ gg, W.drew.cell? ⟨gg, 0, none⟩ = some (.int .i64 (pf k).fn) ∧ Calls Try.prog 19 #[.pointer (some ⟨T, k * 10, none⟩)] W fun e W' => e = .returned (.pointer (some ⟨gg, 0, none⟩)) ∧ W.drew = W' := by
  obtain ⟨X, Gs, ts, m, i, hi, -⟩ := h.ex
  obtain ⟨f, hfr, hfn⟩ := (hi k hk).some hp
  obtain ⟨gg, cp, h1, h2, h3⟩ := m.frame (l := []) hk hfr (by simp)
  simp only [List.length_nil, Nat.zero_mul] at h1 h3
  exact ⟨gg, by have := h1.drew.fn; rwa [hfn] at this, h3⟩
theorem CS.chain (hok : c.Ok) (h : CS c w Cb B Fb T g t H L s st ws ph pf hv hr W) (hs : s < 1000000) : Calls Try.prog 14 #[at0 B] W (Listed L W) := by
  obtain ⟨X, Gs, ts, m, i, hi, -⟩ := h.ex
  exact chain_any hok m (i.Free hok (by omega))
/-- What a thread's list is, as it is read. -/
theorem CS.read (h : CS c w Cb B Fb T g t H L s st ws ph pf hv hr W) (hk : k < c.th.toNat) : ∃ a cap, W.cell? ⟨H, k, none⟩ = some (.slice a (hr k).length cap) ∧ (hr k).length ≤ cap ∧ cap ≤ maxLen ∧ W.frozen? ⟨H, k, none⟩ = false := by
  obtain ⟨X, Gs, ts, m, i, hi, hX, hh⟩ := h.ex
  obtain ⟨a, cap, h1, h2, h3, h4, h5, h6⟩ := hh.read hk
  exact ⟨a, cap, h1, h3, h4, h5⟩
theorem CS.at_ (h : CS c w Cb B Fb T g t H L s st ws ph pf hv hr W) (hk : k < c.th.toNat) (hp : 0 < (hr k).length) : ∃ gr off cap, W.cell? ⟨H, k, none⟩ = some (.slice (some ⟨gr, off, none⟩) (hr k).length cap) ∧ (hr k).length ≤ cap ∧ cap ≤ maxLen ∧ W.frozen? ⟨H, k, none⟩ = false ∧ ∀ j, j < (hr k).length → W.cell? ⟨gr, off + j, none⟩ = some (.int .i64 (nth (hr k) j)) := by
  obtain ⟨X, Gs, ts, m, i, hi, hX, hh⟩ := h.ex
  exact hh.at_ hk hp
/-- A thread's list is written anew. -/
theorem CS.store (h : CS c w Cb B Fb T g t H L s st ws ph pf hv hr W) (hk : k < c.th.toNat) {V : World} {v' : Value} {l : List Int} (hV : Below w.heap.size w V)
    (hr' : R.Row V 3 v' l.length (ints l)) (hag : ∀ q, q < W.heap.size → (∀ a cap, W.cell? ⟨H, k, none⟩ = some (.slice a (hr k).length cap) → (Value.slice a (hr k).length cap).ownBlock ≠ some q) → V.heap[q]? = W.heap[q]?)
    (hown : ∀ q, v'.ownBlock = some q → (∃ a cap, W.cell? ⟨H, k, none⟩ = some (.slice a (hr k).length cap) ∧ (Value.slice a (hr k).length cap).ownBlock = some q) ∨ W.heap.size ≤ q) :
    CS c w Cb B Fb T g t H L s st ws ph pf hv (updL hr k l) (V.setCell ⟨H, k, none⟩ v') := by
  obtain ⟨X, Gs, ts, m, i, hi, hX, hh⟩ := h.ex
  have hh2 := hh.store hk (Nat.le_refl _) hr' hag hown (fun q hq => m.lt hq) h.bel.size
  obtain ⟨a, cap, r1, r2, r3, r4, r5, r6⟩ := hh.read hk
  have hHb : ∃ cs, Blk W H 24 cs := by obtain ⟨cs, vs, hb, _⟩ := hh; exact ⟨cs, hb⟩
  obtain ⟨hcs, hHb⟩ := hHb
  have own1 : ∀ a' cap', W.cell? ⟨H, k, none⟩ = some (.slice a' (hr k).length cap') → (Value.slice a' (hr k).length cap') = .slice a (hr k).length cap := fun a' cap' e => by rw [r1] at e; exact (Option.some.inj e).symm
  have hCH : Cb ≠ H := Blk.ne h.cb hHb (by decide)
  have hset : ∀ q, q < W.heap.size → q ≠ H → (Value.slice a (hr k).length cap).ownBlock ≠ some q → (V.setCell ⟨H, k, none⟩ v').heap[q]? = W.heap[q]? := fun q hq hqH hn => (Below.heap_setCell _ _ _ _ hqH).trans (hag q hq fun a' cap' e => by rw [own1 a' cap' e]; exact hn)
  refine ⟨Blk.agree h.cb (hset Cb (Blk.lt h.cb) hCH fun e => ?_), hV.setCell (p := ⟨H, k, none⟩) h.hl _, ⟨X, Gs, ts, m.agree fun q hq => hset q (m.lt hq) (fun e => m.no23 hHb (.inr rfl) (by rw [← e]; exact hq)) fun e => (r6 q e).2.1 hq, i, hi, hX, hh2⟩, h.hl⟩
  obtain ⟨cur, hc⟩ := rrow_blk r2 e
  exact Blk.ne h.cb hc (by decide) rfl
/-- All that threads have, and the list, are few. -/
theorem CS.short (hok : c.Ok) (h : CS c w Cb B Fb T g t H L s st ws ph pf hv hr W) (hk : k < c.th.toNat) : (hv k).length ≤ 64 := by
  obtain ⟨X, Gs, ts, m, i, hi, hX, hh⟩ := h.ex
  have hnd := hok.nd
  have hsn := (P.sent_in c.al).1
  have h1 := i.tl
  have h2 := tot_le (f := fun k => (ph k).rel.length + (hv k).length) hk
  omega
end
end Go.Proofs.Ytnedifcjenlcjaa
namespace Go.Proofs.Ytnedifcjenlcjaa
open Go.ChangeShapes Go.WideShapes Go.ChangeAt Go.RowKit
set_option linter.unusedVariables false
set_option maxRecDepth 20000

theorem step_append_row {P : Program} {ops : Array Oper} {o : Oper} {a : Act} {w : World} {K : Act → World → Prop} {Q : Exit → Act → World → Prop} {E : Prop} (hgd : o.guard = none) (s x : Operand) (t : TypeId)
    (ho : o.op = .call { callee := .builtin .append, args := #[s, x], argTypes := #[t, t] })
    (e : TypeId) (i : TypeInfo) (z : Value) (bytes : Nat) (ht : P.underlying t = some (.slice e)) (hi : P.info? e = some i) (hz : i.zero = some z)
    (hsize : i.size = 1) (hby : i.bytes = bytes) (hzs : z.cells.size = 1) (hb16 : bytes ≤ 1024)
    (v : Value) (n : Nat) (vs : List Value) (hs : a.eval s = v) (hrow : R.Row w e v n vs) (ad : Addr) (c : Nat) (u : Value) (hx : a.eval x = .slice (some ad) 1 c) (hu : w.cell? ad = some u) (h1 : u.oneCell' = true) (hn : n + 1 ≤ 1000000000)
    (h : ∀ a' cap w', R.Row w' e (.slice a' (n + 1) cap) (n + 1) (vs ++ [u]) → w.grownBy w' v.ownBlock → ((Value.slice a' (n + 1) cap).ownBlock = v.ownBlock ∨ ∀ k, (Value.slice a' (n + 1) cap).ownBlock = some k → w.heap.size ≤ k) → K (a.put o.dst (.slice a' (n + 1) cap)) w') :
    if Region.wanted o (yielded ops a.tmps) = true then Oper.wp P o a w K Q else E := by
  have hw : Region.wanted o (yielded ops a.tmps) = true := by simp [Region.wanted, hgd]
  rw [if_pos hw]
  obtain ⟨v', w', hr, h2, h3, h4⟩ := R.run_append_row (P := P) w t o.type e i z bytes ht hi hz hsize hby hzs hb16 v n vs hrow ad c u hu h1 hn
  obtain ⟨a', cap, rfl, -⟩ := h2.form
  unfold Oper.wp execOp
  simp only [ho, resolve, invoke, builtin, Sem.run_bind, Sem.run_pure, Result.andThen_ok, List.map_toArray, List.map_cons, List.map_nil, hs, hx, hr]
  exact h a' cap w' h2 h3 h4

variable {c : P.Cf} {L : List Int} {s : Nat} {ws : List Int} {ph pf : Nat → Ph} {hv hr : Nat → List Int} {k : Nat} {w W : World} {Cb B Fb T g t H : Nat} {st : Int}
theorem CS.rowOf (h : CS c w Cb B Fb T g t H L s st ws ph pf hv hr W) (hk : k < c.th.toNat) {a : Option Addr} {cap : Nat} (hc : W.cell? ⟨H, k, none⟩ = some (.slice a (hr k).length cap)) :
    R.Row W 3 (.slice a (hr k).length cap) (hr k).length (ints (hr k)) ∧ ∀ q, (Value.slice a (hr k).length cap).ownBlock = some q → w.heap.size ≤ q := by
  obtain ⟨X, Gs, ts, m, i, hi, hX, hh⟩ := h.ex
  obtain ⟨a', cap', r1, r2, r3, r4, r5, r6⟩ := hh.read hk
  rw [hc] at r1
  cases r1
  exact ⟨r2, fun q hq => (r6 q hq).1⟩
/-- One more is appended to a thread's list. -/
theorem CS.pushed (h : CS c w Cb B Fb T g t H L s st ws ph pf hv hr W) (hk : k < c.th.toNat) {a a' : Option Addr} {cap cap' : Nat} (hc : W.cell? ⟨H, k, none⟩ = some (.slice a (hr k).length cap)) {V V' : World} {y : Int} (hV : Below W.heap.size W V)
    (hg : V.grownBy V' (Value.slice a (hr k).length cap).ownBlock) (hrow : R.Row V' 3 (.slice a' ((hr k).length + 1) cap') ((hr k).length + 1) (ints (hr k) ++ [.int .i64 y]))
    (hown : (Value.slice a' ((hr k).length + 1) cap').ownBlock = (Value.slice a (hr k).length cap).ownBlock ∨ ∀ q, (Value.slice a' ((hr k).length + 1) cap').ownBlock = some q → V.heap.size ≤ q) :
    CS c w Cb B Fb T g t H L s st ws ph pf hv (updL hr k (hr k ++ [y])) (V'.setCell ⟨H, k, none⟩ (.slice a' ((hr k).length + 1) cap')) := by
  obtain ⟨r2, r6⟩ := h.rowOf hk hc
  have hsz := hV.size
  refine h.store hk ((h.bel.trans (hV.mono h.bel.size)).grown hg (Nat.le_trans h.bel.size hsz) r6) (by simpa [ints] using hrow) (fun q hq hn => (hg.block q (by omega) (fun e => hn a cap hc e.symm)).trans (hV.block q hq)) fun q hq => ?_
  rcases hown with h1 | h1
  · exact .inl ⟨a, cap, hc, by rw [← h1]; exact hq⟩
  · exact .inr (by have := h1 q hq; omega)
/-- The first one of a thread's list is taken off. -/
theorem CS.shifted (h : CS c w Cb B Fb T g t H L s st ws ph pf hv hr W) (hk : k < c.th.toNat) {gr off cap : Nat} {y : Int} {l : List Int} (hl : hr k = y :: l) (hc : W.cell? ⟨H, k, none⟩ = some (.slice (some ⟨gr, off, none⟩) (l.length + 1) cap)) :
    (cap ≠ 1 → CS c w Cb B Fb T g t H L s st ws ph pf hv (updL hr k l) (W.setCell ⟨H, k, none⟩ (.slice (some ⟨gr, off + 1, none⟩) l.length (cap - 1)))) ∧
    (l.length = 0 → CS c w Cb B Fb T g t H L s st ws ph pf hv (updL hr k l) (W.setCell ⟨H, k, none⟩ (.slice (some ⟨gr, off, none⟩) 0 0))) := by
  have hlen : (hr k).length = l.length + 1 := by rw [hl]; rfl
  have hc' : W.cell? ⟨H, k, none⟩ = some (.slice (some ⟨gr, off, none⟩) (hr k).length cap) := by rw [hlen]; exact hc
  obtain ⟨r2, r6⟩ := h.rowOf hk hc'
  have e1 : ints (hr k) = .int .i64 y :: ints l := by rw [hl]; rfl
  rw [e1, hlen] at r2
  refine ⟨fun _ => ?_, fun h0 => ?_⟩
  · have := R.Row.tail r2
    refine h.store hk h.bel this (fun _ _ _ => rfl) fun q hq => .inl ⟨_, _, hc', hq⟩
  · have h0' := R.Row.none_ r2
    obtain rfl : l = [] := List.eq_nil_of_length_eq_zero h0
    refine h.store hk h.bel h0' (fun _ _ _ => rfl) fun q hq => .inl ⟨_, _, hc', hq⟩
end Go.Proofs.Ytnedifcjenlcjaa
namespace Go.Proofs.Ytnedifcjenlcjaa
open Go.ChangeShapes Go.WideShapes Go.ChangeAt Go.RowKit
set_option linter.unusedVariables false
set_option maxRecDepth 20000

theorem made_ow (n : Nat) (w : World) (h : n ≤ 100) : (Instr.makeSlice 24 (.int .i64 n) (.int .i64 n)).run Try.prog w = .ok (.slice (some ⟨w.heap.size, 0, none⟩) n n) (w.alloc (.cells (G.encI (List.replicate n 0)) 3)) := by
  obtain ⟨i0, hi, hz0, hz1, hz2⟩ := info_parts G.info3
  have := run_makeSlice (P := Try.prog) w 24 3 i0 (.int .i64 0) Try.underlying24 hi hz0 .i64 .i64 n n (by omega) (by omega) (by rw [hz1]; simp; omega) (by rw [hz2]; omega) (by omega)
  rw [this, hz1, Int.toNat_natCast]
  have e : madeCells (Value.int .i64 0).cells (n * 1) = G.encI (List.replicate n 0) := by
    apply Array.ext
    · simp [madeCells, G.encI]
    · intro i h1 h2
      simp [madeCells, G.encI]
      show (#[Value.int .i64 0] : Array Value)[i % 1]! = _
      rw [Nat.mod_one]
      rfl
  rw [e]
/-- The counts f lie at O; what lay in wr has not turned. -/
structure OW (wr : World) (O sz : Nat) (f : Int → Nat) (W : World) : Prop where
  bel : Below wr.heap.size wr W
  hO : wr.heap.size ≤ O
  row : ∃ os : List Int, Blk W O 3 (G.encI os) ∧ os.length = sz ∧ ∀ y : Nat, y < sz → G.tagAt os y = f y
variable {wr W W' : World} {O sz : Nat} {f f' : Int → Nat}
theorem OW.below (h : OW wr O sz f W) (hb : Below W.heap.size W W') : OW wr O sz f W' := by
  obtain ⟨os, a, b, d⟩ := h.row
  exact ⟨P.below_then h.bel hb (Nat.le_refl _), h.hO, os, a.below' hb, b, d⟩
theorem OW.cell (h : OW wr O sz f W) {y : Nat} (hy : y < sz) : W.cell? ⟨O, y, none⟩ = some (.int .i64 (f y)) ∧ W.frozen? ⟨O, y, none⟩ = false ∧ O < W.heap.size := by
  obtain ⟨os, a, b, d⟩ := h.row
  refine ⟨?_, a.frozen y, a.lt⟩
  rw [← d y hy]
  exact G.cell_tag a (by omega)
theorem OW.inc (h : OW wr O sz f W) {y : Nat} (hy : y < sz) (hf : ∀ x : Nat, x < sz → f' x = f x + if x = y then 1 else 0) : OW wr O sz f' (W.setCell ⟨O, y, none⟩ (.int .i64 ((f y : Int) + 1))) := by
  obtain ⟨os, a, b, d⟩ := h.row
  refine ⟨h.bel.setCell (p := ⟨O, y, none⟩) h.hO _, h.hO, os.set y ((f y : Int) + 1), G.set_tag a _, by simpa using b, fun x hx => ?_⟩
  rw [hf x hx]
  unfold G.tagAt
  rw [List.getD_eq_getElem?_getD, List.getElem?_set]
  by_cases e : y = x
  · subst e
    simp [b, hy]
  · rw [if_neg e, if_neg (fun q => e q.symm)]
    have := d x hx
    unfold G.tagAt at this
    rw [List.getD_eq_getElem?_getD] at this
    simpa using this
theorem OW.new (wr : World) (sz : Nat) : OW wr wr.heap.size sz (fun _ => 0) (wr.alloc (.cells (G.encI (List.replicate sz 0)) 3)) := by
  refine ⟨(Below.refl _ _).alloc (Nat.le_refl _) _, Nat.le_refl _, _, Blk.new _ _ _, by simp, fun y hy => ?_⟩
  unfold G.tagAt
  rw [List.getD_eq_getElem?_getD, List.getElem?_replicate, if_pos hy]
  rfl
/-- How often a node is among the first k threads' nodes, and the first j of the next one's. -/
def own (hv : Nat → List Int) (k j : Nat) (x : Int) : Nat := tot k (fun q => (hv q).count x) + ((hv k).take j).count x
theorem own_zero (hv : Nat → List Int) (x : Int) : own hv 0 0 x = 0 := by simp [own, tot]
theorem own_next (hv : Nat → List Int) (k : Nat) (x : Int) : own hv k (hv k).length x = own hv (k + 1) 0 x := by simp [own, tot]
theorem count_take {l : List Int} {j : Nat} (h : j < l.length) (x : Int) : (l.take (j + 1)).count x = (l.take j).count x + if x = nth l j then 1 else 0 := by
  rw [take_nth h, List.count_append, List.count_singleton]
  by_cases e : nth l j = x
  · simp [e]
  · rw [if_neg (c := (nth l j == x) = true) (by simpa using e), if_neg (fun q => e q.symm)]
theorem own_step {hv : Nat → List Int} {k j : Nat} (h : j < (hv k).length) (x : Int) : own hv k (j + 1) x = own hv k j x + if x = nth (hv k) j then 1 else 0 := by
  unfold own
  rw [count_take h]
  omega
theorem tot_mono {n k : Nat} {f : Nat → Nat} (h : k ≤ n) : tot k f ≤ tot n f := by
  induction n with
  | zero => have : k = 0 := by omega
            subst this; exact Nat.le_refl _
  | succ n ih =>
    by_cases e : k = n + 1
    · subst e; exact Nat.le_refl _
    · have := ih (by omega); simp only [tot]; omega
theorem tot_le_of {n : Nat} {f g : Nat → Nat} (h : ∀ k, f k ≤ g k) : tot n f ≤ tot n g := by
  induction n with
  | zero => exact Nat.le_refl _
  | succ n ih => simp only [tot]; have := h n; omega
theorem own_le {c : P.Cf} {n : Nat} {L : List Int} {s : Nat} {ws : List Int} {Gs : G.GS} {ph : Nat → Ph} {hv : Nat → List Int} (h : Inv c n L s ws Gs ph hv) {k j : Nat} (hk : k < n) (x : Int) : own hv k j x ≤ 1 := by
  have h1 := h.one x
  have h2 : tot n (fun q => (hv q).count x) ≤ tot n (cat ph hv x) := tot_le_of fun q => by simp only [cat]; omega
  have h3 : tot (k + 1) (fun q => (hv q).count x) ≤ tot n (fun q => (hv q).count x) := tot_mono hk
  have h4 : ((hv k).take j).count x ≤ (hv k).count x := (List.take_sublist j (hv k)).count_le x
  unfold own
  simp only [tot] at h3
  omega
/-- At the end each node is met once. -/
theorem own_all {c : P.Cf} {n : Nat} {L : List Int} {s : Nat} {ws : List Int} {Gs : G.GS} {ph : Nat → Ph} {hv : Nat → List Int} (h : Inv c n L s ws Gs ph hv) (hp : ∀ k, k < n → ph k = .idle) (x : Int) : own hv n 0 x + L.count x = if P.sent c.al < x ∧ x ≤ c.nd then 1 else 0 := by
  have h1 := h.cnt x
  have h2 : tot n (cat ph hv x) = tot n (fun q => (hv q).count x) := tot_same fun j hj => by simp only [cat, hp j hj, Ph.rel, List.count_nil, Nat.zero_add]
  rw [h2] at h1
  unfold own
  simp
  omega
end Go.Proofs.Ytnedifcjenlcjaa
