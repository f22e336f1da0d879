/- A bag beside a list of one's own. -/
import Derived.Test.YtjmejdalmglehaaRefDo
import Derived.Test.YtjmejdalmglehaaSame
import Derived.Test.YtjmejdalmglehaaOrdered
import Derived.Test.YtjmejdalmglehaaClone
import Derived.Test.YtjmejdalmglehaaLives
namespace Go.Proofs.Ytjmejdalmglehaa
open Go.ChangeShapes Go.WideShapes Go.ChangeAt Go.RowKit
set_option linter.unusedVariables false

/-- A bag of one's own that holds m, and a list of one's own that reads l. -/
structure PS (w : World) (m l : List Pr) (s o : Sl) (W : World) : Prop where
  bag : BagS W w.heap.size s m
  own : ∀ k, s.v.ownBlock = some k → w.heap.size ≤ k
  row : W.ownsRow w.heap.size 36 2 (.slice o.a o.n o.cap) l.length (encP l)
  bel : Below w.heap.size w W
theorem PS.start (w : World) : PS w [] [] nilS nilS (w.alloc (.cells #[.slice none 0 0] 26)) :=
  ⟨⟨Blk.new _ _ _, .none_⟩, fun k e => (by cases e), World.ownsRow_nil _ _ _ _, box1 _⟩
theorem PS.below {w W V : World} {m l : List Pr} {s o : Sl} (h : PS w m l s o W) (hb : Below W.heap.size W V) : PS w m l s o V :=
  ⟨h.bag.below hb, h.own, row_agree h.row fun k e => hb.block k (h.row.lt k e).2, below_then h.bel hb⟩
theorem PS.len {w W : World} {m l : List Pr} {s o : Sl} (h : PS w m l s o W) : o.n = l.length := (Reads.of_own h.row).2
theorem PS.reads {w W : World} {m l : List Pr} {s o : Sl} (h : PS w m l s o W) : Reads W o 2 (encP l) := (Reads.of_own h.row).1
/-- The list's block is none of the bag's. -/
theorem PS.apart {w W : World} {m l : List Pr} {s o : Sl} (h : PS w m l s o W) {k : Nat} (hk : (Value.slice o.a o.n o.cap).ownBlock = some k) : ¬ Ob w.heap.size s k := by
  obtain ⟨cur, hc⟩ := row_type h.row hk
  rintro (rfl | ho)
  · have hb := h.bag.box
    unfold Blk at hb
    rw [hb] at hc
    simp at hc
  · exact h.bag.row.not (B := k) (t := 36) (cs := cur) hc (by decide) ho
theorem PS.turned {w W V : World} {m l m' : List Pr} {s o : Sl} (h : PS w m l s o W) (ht : Turned W w.heap.size s m' V) : ∃ s', PS w m' l s' o V := by
  obtain ⟨s', h1, h2, h3⟩ := ht.ex
  have hO : ∀ j, Ob w.heap.size s j → w.heap.size ≤ j := fun j hj => hj.elim (fun e => by omega) (h.own j)
  refine ⟨s', h1, fun k e => (h3 k (.inr e)).elim (hO k) (fun h4 => Nat.le_trans h.bel.size h4), ?_, h.bel.trans (h2.below h.bel.size hO)⟩
  exact row_agree h.row fun k e => h2.block k (h.row.lt k e).2 (h.apart e)
theorem PS.other {w W V : World} {m l l' : List Pr} {s o o' : Sl} (h : PS w m l s o W) (hb : Below W.heap.size W V) (hr : V.ownsRow w.heap.size 36 2 (.slice o'.a o'.n o'.cap) l'.length (encP l')) : PS w m l' s o' V :=
  ⟨h.bag.below hb, h.own, hr, below_then h.bel hb⟩
theorem PS.pushed {w W V w3 : World} {m l : List Pr} {s o : Sl} (h : PS w m l s o W) (p : Pr) (hb : Below W.heap.size W V) {g cap n : Nat} (hn : n = l.length)
    (hown : w3.ownsRow w.heap.size 36 2 (.slice (some ⟨g, 0, none⟩) (n + 1) cap) (n + 1) (encP l ++ p.cs.toList)) (hgrow : V.grownBy w3 (Value.slice o.a o.n o.cap).ownBlock) : PS w m (l ++ [p]) s ⟨some ⟨g, 0, none⟩, n + 1, cap⟩ w3 := by
  subst hn
  have h' := h.below hb
  refine ⟨h'.bag.agree fun k hk ho => hgrow.block k hk (fun e => h'.apart e.symm ho), h.own, ?_, h'.bel.grown hgrow h'.bel.size (fun j e => (h.row.lt j e).1)⟩
  rw [List.length_append, List.length_singleton, encP_snoc]
  exact hown
theorem PS.did {w W V : World} {m l l' : List Pr} {s o : Sl} {r : Bool} {e : Ending} (h : PS w m l s o W) (hd : DidR W o l l' r e V) : ∃ o' : Sl, e = .returned (.tuple #[.slice o'.a o'.n o'.cap, .bool r]) ∧ PS w m l' s o' V := by
  obtain ⟨o', h1, h2, h3⟩ := hd.ex
  exact ⟨o', h1, h.other h2 (h3 _ h.bel.size h.row)⟩
theorem PS.made {w W V : World} {m l l' : List Pr} {s o : Sl} {e : Ending} (h : PS w m l s o W) (hd : Made W l' e V) : ∃ o' : Sl, e = .returned (.slice o'.a o'.n o'.cap) ∧ PS w m l' s o' V := by
  obtain ⟨o', h1, h2⟩ := hd.ex
  exact ⟨o', h1, h.other h2.bel (h2.row.mono h.bel.size)⟩

/-- .. and a pair in a box. -/
structure QS (w : World) (m l : List Pr) (o : Sl) (b : Nat) (p : Pr) (W : World) : Prop where
  ex : ∃ s, PS w m l s o W
  box : Blk W b 36 p.cs
  lt : w.heap.size < b
theorem QS.below {w W V : World} {m l : List Pr} {o : Sl} {b : Nat} {p : Pr} (h : QS w m l o b p W) (hb : Below W.heap.size W V) : QS w m l o b p V := by
  obtain ⟨s, hs⟩ := h.ex
  exact ⟨⟨s, hs.below hb⟩, h.box.below hb h.box.lt, h.lt⟩
theorem QS.cells {w W : World} {m l : List Pr} {o : Sl} {b : Nat} {p : Pr} (h : QS w m l o b p W) : W.cell? ⟨b, 0, none⟩ = some (.int .u32 p.k) ∧ W.cell? ⟨b, 1, none⟩ = some (.int .u32 p.v) := ⟨by rw [h.box.cell]; rfl, by rw [h.box.cell]; rfl⟩
theorem Turned.far {w V : World} {B : Nat} {s : Sl} {m m' : List Pr} (h : BagS w B s m) (ht : Turned w B s m' V) {b : Nat} {t : TypeId} {cs : Array Value} (hb : Blk w b t cs) (h1 : t ≠ 38) (h2 : b ≠ B) : Blk V b t cs := by
  obtain ⟨s', h3, h4, h5⟩ := ht.ex
  exact hb.agree (h4.block b hb.lt (fun ho => ho.elim h2 (h.row.not hb h1)))
/-- Take, amid it. -/
theorem QS.take {w W : World} {m l : List Pr} {o : Sl} {b : Nat} {p : Pr} (h : QS w m l o b p W) (ho : Ord m) (hl : m.length < 100000) :
    Calls Try.prog 7 #[.pointer (some ⟨w.heap.size, 0, none⟩), p.val] W fun e V => e = .returned (.bool (decide (p ∈ m))) ∧ QS w (m.erase p) l o b p V := by
  obtain ⟨s, hs⟩ := h.ex
  refine (take_any _ s m p W hs.bag ho hl).mono ?_
  rintro e V ⟨rfl, ht⟩
  exact ⟨rfl, hs.turned ht, Turned.far hs.bag ht h.box (by decide) (by have := h.lt; omega), h.lt⟩
/-- Add, amid it. -/
theorem QS.add {w W : World} {m l : List Pr} {o : Sl} {b : Nat} {p : Pr} (h : QS w m l o b p W) (ho : Ord m) (hl : m.length < 100000) :
    Calls Try.prog 6 #[.pointer (some ⟨w.heap.size, 0, none⟩), p.val] W fun e V => e = .returned (.tuple #[]) ∧ QS w (addL m p) l o b p V := by
  obtain ⟨s, hs⟩ := h.ex
  refine (add_any _ s m p W hs.bag ho hl).mono ?_
  rintro e V ⟨rfl, ht⟩
  exact ⟨rfl, hs.turned ht, Turned.far hs.bag ht h.box (by decide) (by have := h.lt; omega), h.lt⟩
/-- How often, amid it. -/
theorem QS.count {w W : World} {m l : List Pr} {o : Sl} {b : Nat} {p : Pr} (h : QS w m l o b p W) :
    Calls Try.prog 8 #[.slice o.a o.n o.cap, p.val] W fun e V => e = .returned (.int .i64 (l.count p)) ∧ QS w m l o b p V := by
  obtain ⟨s, hs⟩ := h.ex
  refine (count_any o l p W hs.reads).mono ?_
  rintro e V ⟨rfl, hb⟩
  exact ⟨rfl, h.below hb⟩
theorem QS.without {w W : World} {m l : List Pr} {o : Sl} {b : Nat} {p : Pr} (h : QS w m l o b p W) (hl : l.length < 100000) :
    Calls Try.prog 9 #[.slice o.a o.n o.cap, p.val] W fun e V => ∃ o' : Sl, e = .returned (.slice o'.a o'.n o'.cap) ∧ ∃ s, PS w m (l.erase p) s o' V := by
  obtain ⟨s, hs⟩ := h.ex
  refine (without_any o l p W hs.reads hl).mono ?_
  intro e V hm
  obtain ⟨o', h1, h2⟩ := hs.made hm
  exact ⟨o', h1, s, h2⟩
end Go.Proofs.Ytjmejdalmglehaa
