/- Mins. -/
import Derived.Test.YtjmejdalmglehaaCompactW
import Derived.Test.YtjmejdalmglehaaPlay
namespace Go.Proofs.Ytjmejdalmglehaa
open Go.ChangeShapes Go.WideShapes Go.ChangeAt Go.RowKit
set_option linter.unusedVariables false

/-- What a call tells that makes a list to be read. -/
structure Told (w : World) (base : Nat) (L : List Pr) (e : Ending) (W : World) : Prop where
  ex : ∃ o : Sl, e = .returned (.slice o.a o.n o.cap) ∧ Reads W o 2 (encP L) ∧ Below base w W
theorem compact_own (base : Nat) (s : Sl) (L : List Pr) (w : World) (h : w.ownsRow base 38 2 (.slice s.a s.n s.cap) L.length (encP L)) (hbase : base ≤ w.heap.size) (hl : L.length < 100000) :
    Calls Try.prog 34 #[.slice s.a s.n s.cap] w (Told w base (ddL L L.length)) := by
  rcases h.2 with ⟨hv, h0⟩ | ⟨g, cap, cur, hv, hb, hg, hc, hm, hs, ht⟩
  · obtain ⟨sa, sn, sc⟩ := s
    simp only [Value.slice.injEq] at hv
    obtain ⟨rfl, rfl, rfl⟩ := hv
    obtain rfl : L = [] := List.length_eq_zero_iff.1 h0
    clear h h0
    go_enter Try.func34, Try.ntmps34
    go_wp2
    go_ret
    exact ⟨⟨nilS, rfl, Reads.none_ _ _, Below.refl _ _⟩⟩
  · obtain ⟨sa, sn, sc⟩ := s
    simp only [Value.slice.injEq] at hv
    obtain ⟨rfl, rfl, rfl⟩ := hv
    have hcur : cur = (encP L ++ cur.toList.drop (L.length * 2)).toArray := by
      rw [← ht, List.take_append_drop]
    rw [hcur] at hg
    refine (compact_any g L _ sc w hg hc hm hl).mono ?_
    rintro e W ⟨o, rfl, hr, hk⟩
    exact ⟨⟨o, rfl, hr, hk.below hbase (fun k e => by subst e; exact hb)⟩⟩

/-- The pairs with the least key. -/
def lst (l : List Pr) : List Pr := l.takeWhile (isLeast (leastL l))
theorem lst_take (l : List Pr) : l.take (lst l).length = lst l := by
  have e : l.takeWhile (isLeast (leastL l)) ++ l.dropWhile (isLeast (leastL l)) = l := List.takeWhile_append_dropWhile
  have h := List.take_left (l₁ := l.takeWhile (isLeast (leastL l))) (l₂ := l.dropWhile (isLeast (leastL l)))
  rw [e] at h
  exact h
theorem lst_le (l : List Pr) : (lst l).length ≤ l.length := by
  have e : l.takeWhile (isLeast (leastL l)) ++ l.dropWhile (isLeast (leastL l)) = l := List.takeWhile_append_dropWhile
  have := congrArg List.length e
  rw [List.length_append] at this
  unfold lst
  omega
set_option maxRecDepth 100000 in
set_option maxHeartbeats 4000000 in
theorem mins_any (B : Nat) (s : Sl) (l : List Pr) (w : World) (h : BagS w B s l) (ho : Ord l) (hl : l.length < 100000) :
    Calls Try.prog 19 #[.pointer (some ⟨B, 0, none⟩)] w (Told w w.heap.size (ddL (lst l) (lst l).length)) := by
  have KL := least_any B s l w h
  have HS := Lib.hid h
  have hn := h.len
  have hroom := h.row.reads.room
  have hnl := lst_le l
  have KA := Lib.hid fun W (hb : Below w.heap.size w W) b (hx : W.cell? ⟨b, 0, none⟩ = some (.int .u32 (leastL l))) => ahead_any 33 #[.pointer (some ⟨b, 0, none⟩)] (isLeast (leastL l)) B s l (lst l).length W enters33 (suches_least hx) (h.below hb) (Cut.of ho (isLeast_closed ho)) (by omega)
  have KX := Lib.hid fun W (hb : Below w.heap.size w W) => all_any B s l W (h.below hb)
  have KC := Lib.hid fun W (hb : Below w.heap.size w W) => clone_any ⟨s.a, (lst l).length, s.cap⟩ (l.take (lst l).length) W ((h.row.reads.below hb).cut hnl) (by rw [lst_take]; omega)
  rw [lst_take] at KC
  have KP := Lib.hid fun o W base (hr : W.ownsRow base 38 2 (.slice o.a o.n o.cap) (lst l).length (encP (lst l))) (hb : base ≤ W.heap.size) => compact_own base o (lst l) W hr hb (by omega)
  clear h ho
  unfold maxLen at hroom
  generalize ddL (lst l) (lst l).length = M at *
  generalize leastL l = k at *
  generalize (!l.isEmpty) = em at *
  obtain ⟨sa, sn, sc⟩ := s
  dsimp only at *
  subst hn
  generalize lst l = L at *
  generalize l.length = N at *
  go_enter Try.func19, Try.ntmps19
  go_wp2_with fail
  refine KL.mono ?_
  rintro e w1 ⟨rfl, hb⟩
  have hW := below_then hb (box1 (w := w1) (.cells #[.int .u32 k] 28))
  have HW := Lib.hid hW
  have KA1 := KA.out _ hW w1.heap.size (by rw [(Blk.new w1 28 #[.int .u32 k]).cell]; rfl)
  clear KL KA hb hW
  go_wp2_with fail
  refine KA1.mono ?_
  rintro e w2 ⟨rfl, hb⟩
  have hW := below_then HW.out hb
  have HW2 := Lib.hid hW
  have KX1 := KX.out _ hW
  have KC1 := KC.out _ hW
  clear KA1 KX KC hb hW HW
  go_wp2_with fail
  refine KX1.mono ?_
  rintro e w3 ⟨rfl, rfl⟩
  clear KX1
  have g1 : (L.length : Int) ≤ N := by omega
  have g2 : (L.length : Int) ≤ sc := by omega
  go_wp2_with fail
  refine KC1.mono ?_
  rintro e w4 ⟨⟨ca, cn, cc⟩, rfl, hb, hr⟩
  have hW := below_then HW2.out hb
  have HW4 := Lib.hid hW
  have KP1 := KP.out ⟨ca, cn, cc⟩ w4 w3.heap.size hr hb.size
  have HT := Lib.hid fun o W (hr : Reads W o 2 (encP M)) (hb' : Below w3.heap.size w4 W) => (Told.mk ⟨o, rfl, hr, hW.trans (hb'.mono HW2.out.size)⟩ : Told w w.heap.size M (.returned (.slice o.a o.n o.cap)) W)
  clear KC1 KP hb hr hW HW2 HW4 HS
  dsimp only at *
  go_wp2_with fail
  refine KP1.mono ?_
  rintro e w5 ⟨⟨da, dn, dc⟩, rfl, hr, hb⟩
  have HF := Lib.hid (HT.out _ _ hr hb)
  clear KP1 HT hr hb
  go_wp2
  go_ret
  exact HF.out

/-! ### what is so of them -/
theorem lst_keys {l : List Pr} (ho : Ord l) (x : Pr) : x ∈ lst l ↔ x ∈ l ∧ x.k = leastL l := by
  have c := Cut.of ho (isLeast_closed ho)
  constructor
  · intro h
    have h1 := take_such x h
    exact ⟨List.IsPrefix.subset (List.takeWhile_prefix _) h, by simpa [isLeast] using h1⟩
  · rintro ⟨h, hk⟩
    obtain ⟨i, hi⟩ := List.getElem?_of_mem h
    have hl := (List.getElem?_eq_some_iff.1 hi).1
    have hx := ithP_eq hi
    rcases Nat.lt_or_ge i (l.takeWhile (isLeast (leastL l))).length with h1 | h1
    · rw [← hx]
      rw [← lst_take]
      exact List.mem_of_getElem? (i := i) (by rw [List.getElem?_take, if_pos (show i < (lst l).length from h1)]; exact ithP_lt hl)
    · have := c.no i h1 hl
      rw [hx] at this
      simp [isLeast, hk] at this
/-- What Mins tells of a bag that holds as many as were put in. -/
structure MinsL (inp M : List Pr) (k : Int) : Prop where
  key : ∀ i, i < M.length → (ithP M i).k = k
  up : ∀ i, i + 1 < M.length → (ithP M i).v < (ithP M (i + 1)).v
  one : ∀ x, x ∈ inp → x.k = k → M.count x = 1
  some_ : M = [] ↔ inp = []
  len : M.length ≤ inp.length
theorem count_one {l : List Pr} {x : Pr} (h : l.Nodup) (hm : x ∈ l) : l.count x = 1 := by
  induction l with
  | nil => simp at hm
  | cons y t ih =>
    obtain ⟨h1, h2⟩ := List.nodup_cons.1 h
    rw [List.count_cons]
    by_cases hy : y = x
    · subst hy
      rw [List.count_eq_zero.2 h1]
      simp
    · rcases List.mem_cons.1 hm with rfl | hm
      · exact absurd rfl hy
      · rw [ih h2 hm]
        simp [hy]
theorem minsL_of {inp m : List Pr} (hp : m.Perm inp) (ho : Ord m) : MinsL inp (ddL (lst m) (lst m).length) (leastL m) := by
  have hos : Ord (lst m) := ho.sublist (List.takeWhile_sublist _)
  have d := DD.of hos (lst m).length (Nat.le_refl _)
  have hmem : ∀ x, x ∈ ddL (lst m) (lst m).length ↔ x ∈ m ∧ x.k = leastL m := fun x => by rw [d.mem, List.take_length, lst_keys ho]
  have hkey : ∀ i, i < (ddL (lst m) (lst m).length).length → (ithP (ddL (lst m) (lst m).length) i).k = leastL m := fun i hi => ((hmem _).1 (ithP_mem hi)).2
  refine ⟨hkey, fun i hi => ?_, fun x hx hk => ?_, ?_, ?_⟩
  · have hpw := List.pairwise_iff_getElem.1 d.srt i (i + 1) (by omega) hi (by omega)
    have e0 := ithP_lt (l := ddL (lst m) (lst m).length) (k := i) (by omega)
    have e1 := ithP_lt hi
    rw [List.getElem?_eq_getElem (by omega)] at e0 e1
    rw [Option.some.inj e0, Option.some.inj e1, ltP_iff] at hpw
    have h1 := hkey i (by omega)
    have h2 := hkey (i + 1) hi
    omega
  · have hm := (hmem x).2 ⟨hp.mem_iff.2 hx, hk⟩
    have hnd : (ddL (lst m) (lst m).length).Nodup := d.srt.imp fun {a b} hab e => by
      subst e
      rw [ltP_self] at hab
      cases hab
    exact count_one hnd hm
  · constructor
    · intro h
      cases m with
      | nil => exact List.nil_perm.1 hp |>.symm ▸ rfl
      | cons x t =>
        exfalso
        have := (hmem x).2 ⟨by simp, rfl⟩
        rw [h] at this
        simp at this
    · rintro rfl
      obtain rfl := List.perm_nil.1 hp
      rfl
  · have h1 := ddL_len (lst m) (lst m).length
    have h2 := lst_le m
    have h3 := hp.length_eq
    omega
end Go.Proofs.Ytjmejdalmglehaa
