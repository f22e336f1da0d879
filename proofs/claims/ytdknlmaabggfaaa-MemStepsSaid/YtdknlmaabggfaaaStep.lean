/- The walk of MemSteps. -/
import Derived.Test.YtdknlmaabggfaaaPairs
import Derived.Laws.StructEq
namespace Go.Proofs.Ytdknlmaabggfaaa
open Go.ChangeShapes Go.WideShapes Go.ChangeAt Go.RowKit
set_option linter.unusedVariables false

/-- A deed, written plainly. -/
structure OpT where
  k : Int
  a : Int
  b : Int
  o : Int
  x : Int
  p : Int
  q : Int
/-- The deeds, as they lie. -/
def OpsIn (w : World) (ao : Option Addr) (len : Nat) (F : Nat → OpT) : Prop := ∀ j, j < len → ∃ bb off, ao = some ⟨bb, off, none⟩ ∧
  w.cell? ⟨bb, off + j * 7, none⟩ = some (.int .i64 (F j).k) ∧ w.cell? ⟨bb, off + j * 7 + 1, none⟩ = some (.int .i64 (F j).a) ∧ w.cell? ⟨bb, off + j * 7 + 2, none⟩ = some (.int .i64 (F j).b) ∧
  w.cell? ⟨bb, off + j * 7 + 3, none⟩ = some (.int .u64 (F j).o) ∧ w.cell? ⟨bb, off + j * 7 + 4, none⟩ = some (.int .u64 (F j).x) ∧ w.cell? ⟨bb, off + j * 7 + 5, none⟩ = some (.int .u64 (F j).p) ∧ w.cell? ⟨bb, off + j * 7 + 6, none⟩ = some (.int .u64 (F j).q)

theorem row_low {W : World} {b b' : Nat} {e : TypeId} {size n : Nat} {v : Value} {xs : List Value} (h : W.ownsRow b e size v n xs) (hb : b' ≤ b) : W.ownsRow b' e size v n xs := by
  refine ⟨h.1, ?_⟩
  rcases h.2 with h | ⟨g, cap, cur, hv, h0, r⟩
  · exact .inl h
  · exact .inr ⟨g, cap, cur, hv, Nat.le_trans hb h0, r⟩
theorem row_ne {W : World} {b b' : Nat} {e e' : TypeId} {size size' n n' : Nat} {v v' : Value} {xs xs' : List Value} (h : W.ownsRow b e size v n xs) (h' : W.ownsRow b' e' size' v' n' xs') (ht : e ≠ e') {k : Nat} (hk : v.ownBlock = some k) : v'.ownBlock ≠ some k := by
  rcases h.2 with ⟨rfl, _⟩ | ⟨g, cap, cur, rfl, _, hg, _⟩
  · cases hk
  · obtain rfl : g = k := by simpa [Value.ownBlock] using hk
    exact Blk.not_row (cs := cur) hg h' ht
theorem row_any {W : World} {n0 : Nat} {e : TypeId} {size n : Nat} {v : Value} {xs : List Value} (h : W.ownsRow n0 e size v n xs) : ∃ ad cp, v = .slice ad n cp ∧ n ≤ cp ∧ cp ≤ 9223372036854775807 ∧ (0 < n → ∃ g, ad = some ⟨g, 0, none⟩) := by
  rcases h.2 with ⟨rfl, rfl⟩ | ⟨g, cap, cur, rfl, _, _, h1, h2, _⟩
  · exact ⟨none, 0, rfl, by omega, by omega, fun h => by omega⟩
  · exact ⟨_, cap, rfl, h1, h2, fun _ => ⟨g, rfl⟩⟩

/-- What lies beside the memory: the document's words and log, rows of their own. -/
structure Rest (w0 : World) (O : Nat → Prop) (ws : List Int) (lg : List Acc) (vw vl : Value) (W : World) : Prop where
  below : Below w0.heap.size w0 W
  own : ∀ k, O k → w0.heap.size ≤ k
  words : W.ownsRow w0.heap.size 31 1 vw ws.length (encU ws)
  logs : W.ownsRow w0.heap.size 41 4 vl lg.length (encL lg)
  offW : ∀ k, vw.ownBlock = some k → ¬ O k
  offL : ∀ k, vl.ownBlock = some k → ¬ O k
theorem Rest.turn {w0 : World} {O : Nat → Prop} {ws : List Int} {lg : List Acc} {vw vl : Value} {W W' : World} {B : Nat} {s' : MS} (h : Rest w0 O ws lg vw vl W) (hT : Turn B s' O W W') : ∃ O', MemAt B s' O' W' ∧ Rest w0 O' ws lg vw vl W' := by
  obtain ⟨O', hk, hl, hm⟩ := hT
  exact ⟨O', hm, h.below.trans (hk.below h.below.size h.own), fun k hk => (hl k hk).elim (h.own k) (fun h' => Nat.le_trans h.below.size h'),
    row_agree h.words fun k e => hk.block k (h.words.lt k e).2 (h.offW k e), row_agree h.logs fun k e => hk.block k (h.logs.lt k e).2 (h.offL k e),
    fun k e => hl.no (h.words.lt k e).2 (h.offW k e), fun k e => hl.no (h.logs.lt k e).2 (h.offL k e)⟩
theorem Rest.later {w0 : World} {O : Nat → Prop} {ws : List Int} {lg : List Acc} {vw vl : Value} {W W' : World} {B : Nat} {s : MS} (hm : MemAt B s O W) (h : Rest w0 O ws lg vw vl W) (hB : Below W.heap.size W W') : MemAt B s O W' ∧ Rest w0 O ws lg vw vl W' :=
  ⟨hm.agree fun k hk => hB.block k (hm.lt hk), h.below.trans (hB.mono h.below.size), h.own, row_agree h.words fun k e => hB.block k (h.words.lt k e).2, row_agree h.logs fun k e => hB.block k (h.logs.lt k e).2, h.offW, h.offL⟩
theorem Rest.newW {w0 : World} {O : Nat → Prop} {ws ws' : List Int} {lg : List Acc} {vw vw' vl : Value} {W W' : World} {B n : Nat} {s : MS} (hm : MemAt B s O W) (h : Rest w0 O ws lg vw vl W) (hB : Below W.heap.size W W') (hn : ws'.length = n)
    (hw : W'.ownsRow W.heap.size 31 1 vw' n (encU ws')) : MemAt B s O W' ∧ Rest w0 O ws' lg vw' vl W' := by
  subst hn
  obtain ⟨hm', h'⟩ := Rest.later hm h hB
  exact ⟨hm', h'.below, h'.own, row_low hw h.below.size, h'.logs, fun k e ho => by have := (hw.lt k e).1; have := hm.lt ho; omega, h'.offL⟩
theorem Rest.newL {w0 : World} {O : Nat → Prop} {ws : List Int} {lg : List Acc} {x : Acc} {vw vl : Value} {W W' : World} {tmp : Obj} {B gg cp n : Nat} {s : MS} (hm : MemAt B s O W) (h : Rest w0 O ws lg vw vl W) (hn : lg.length = n) (hg : (W.alloc tmp).grownBy W' vl.ownBlock)
    (hl : W'.ownsRow w0.heap.size 41 4 (.slice (some ⟨gg, 0, none⟩) (n + 1) cp) (n + 1) (encL lg ++ encA x)) (hat : vl.ownBlock = some gg ∨ gg = (W.alloc tmp).heap.size) :
    MemAt B s O W' ∧ Rest w0 O ws (lg ++ [x]) vw (.slice (some ⟨gg, 0, none⟩) (n + 1) cp) W' := by
  have hA : Below W.heap.size W (W.alloc tmp) := (Below.refl _ _).alloc (Nat.le_refl _) _
  obtain ⟨hm1, h1⟩ := Rest.later hm h hA
  refine ⟨hm1.agree fun k hk => hg.block k (hm1.lt hk) (fun e => h1.offL k e.symm hk), ?_, h.own, row_agree h1.words fun k e => hg.block k (h1.words.lt k e).2 (fun e' => row_ne h1.words h1.logs (by decide) e e'.symm), ?_, h.offW, ?_⟩
  · exact h1.below.grown hg h1.below.size (fun k e => (h1.logs.lt k e).1)
  · rw [encL_snoc]; simpa [hn] using hl
  · intro k e ho
    have e' : gg = k := by simpa [Value.ownBlock] using e
    subst e'
    rcases hat with hat | hat
    · exact h.offL _ hat ho
    · have := hm1.lt ho; omega

theorem bad_of {k a b : Int} {n : Nat} (k0 : 0 ≤ k) (k5 : k ≤ 5) (h : rightB k a b n = false) : badStep k a b n := by
  unfold badStep
  unfold rightB at h
  by_cases ha : inB n a = true
  · by_cases hk : k < 4
    · simp [k0, k5, ha, hk] at h
    · rw [if_neg hk]
      by_cases hb : inB n b = true
      · simp [k0, k5, ha, hk, hb] at h
        exact .inr (.inr ⟨by omega, h.2⟩)
      · exact .inr (.inl (by simpa using hb))
  · have ha : inB n a = false := by simpa using ha
    split
    · exact ha
    · exact .inl ha
theorem right_of {k a b : Int} {n : Nat} (h : rightB k a b n = true) : ∃ i : Nat, a = i ∧ i < n ∧ (4 ≤ k → 0 ≤ b ∧ b < n) ∧ (k = 4 → (i : Int) ≠ b) := by
  unfold rightB inB at h
  simp at h
  exact ⟨a.toNat, by omega, by omega, by omega, by omega⟩
theorem Rest.turnX {w0 : World} {O : Nat → Prop} {ws : List Int} {lg : List Acc} {vw vl : Value} {W W' : World} {B X : Nat} {t : TypeId} {cs : Array Value} {s' : MS} (h : Rest w0 O ws lg vw vl W) (hX : Blk W X t cs) (hn : ¬ O X) (hT : Turn B s' O W W') :
    ∃ O', MemAt B s' O' W' ∧ Rest w0 O' ws lg vw vl W' ∧ Blk W' X t cs ∧ ¬ O' X := by
  obtain ⟨O', hk, hl, hm⟩ := hT
  obtain ⟨O'', hm'', hR''⟩ := h.turn ⟨O', hk, hl, hm⟩
  refine ⟨O', hm, ⟨hR''.below, fun k hk => (hl k hk).elim (h.own k) (fun h' => Nat.le_trans h.below.size h'), hR''.words, hR''.logs, fun k e => hl.no (h.words.lt k e).2 (h.offW k e), fun k e => hl.no (h.logs.lt k e).2 (h.offL k e)⟩, hX.agree (hk.block X hX.lt hn), hl.no hX.lt hn⟩
theorem counted_on (ws : List Int) (st : Int) (log : List Acc) (x : Acc) : MS.counted ⟨ws, st, true, log⟩ x = ⟨ws, st + 1, true, log ++ [x]⟩ := by simp [MS.counted]
theorem encL_get (lg : List Acc) (r : Nat) (x : Acc) (h : lg[r]? = some x) : (encL lg)[r * 4]? = some (.int .i64 x.1) ∧ (encL lg)[r * 4 + 1]? = some (.int .i64 x.2.1) ∧ (encL lg)[r * 4 + 2]? = some (.int .i64 x.2.2.1) ∧ (encL lg)[r * 4 + 3]? = some (.bool x.2.2.2) := by
  induction lg generalizing r with
  | nil => simp at h
  | cons y lg ih =>
    cases r with
    | zero => simp at h; subst h; simp [encL, encA]
    | succ r =>
      have := ih r (by simpa using h)
      have e : ∀ i, (encL (y :: lg))[(r + 1) * 4 + i]? = (encL lg)[r * 4 + i]? := fun i => by
        show (encA y ++ encL lg)[(r + 1) * 4 + i]? = _
        rw [List.getElem?_append_right (by simp [encA]; omega)]
        congr 1
        simp [encA]
        omega
      exact ⟨(e 0).trans this.1, (e 1).trans this.2.1, (e 2).trans this.2.2.1, (e 3).trans this.2.2.2⟩
theorem fine_of {ws : List Int} {st : Int} {lg : List Acc} {n j : Nat} (wa : Bool) (hw : ws.length = n) (h1 : n ≤ 64) (hj : j ≤ 300) (h0 : 0 ≤ st) (hs : st ≤ j) (hl : lg.length ≤ j) : MS.fine ⟨ws, st, wa, lg⟩ := by
  refine ⟨h0, ?_, ?_, ?_⟩
  · show st ≤ _; omega
  · show lg.length ≤ _; omega
  · show ws.length ≤ _; omega

set_option maxRecDepth 100000 in
set_option maxHeartbeats 16000000 in
theorem steps_main (n : Nat) (ao : Option Addr) (len cap : Nat) (F : Nat → OpT) (fr : Int) (w : World) (h0 : 1 ≤ n) (h1 : n ≤ 64) (hl : len ≤ 300) (hc : len ≤ cap) (hm : cap ≤ 9223372036854775807) (hops : OpsIn w ao len F) :
    Calls Try.prog 3 #[.int .i64 n, .slice ao len cap, .int .i64 fr] w (Good w) := by
  have c0 : ¬ (n : Int) < 1 := by omega
  have c1 : ¬ (64 : Int) < n := by omega
  have c2 : ¬ (300 : Int) < len := by omega
  have HO := Lib.hid hops
  clear hops
  obtain ⟨i41, hi41, hy0, hy1, hy2⟩ := info_parts info41
  go_enter Try.func3, Try.ntmps3
  go_wp2_with fail
  refine (new_yes n w h0 (by omega)).mono ?_
  rintro e w1 ⟨rfl, hB, O, hM, hO⟩
  generalize w.heap.size + 1 = B at *
  go_wp2_with fail
  refine (len_any B _ O _ hM n (by simp) (by omega)).mono ?_
  rintro e w' ⟨rfl, rfl⟩
  have hmk := made n w1 (by omega)
  have hA : Below w1.heap.size w1 (w1.alloc (.cells (encU (List.replicate n 0)).toArray 31)) := (Below.refl _ _).alloc (Nat.le_refl _) _
  have hrow : (w1.alloc (.cells (encU (List.replicate n 0)).toArray 31)).ownsRow w1.heap.size 31 1 (.slice (some ⟨w1.heap.size, 0, none⟩) n n) n (encU (List.replicate n 0)) := by
    have := World.ownsRow_lit (base := w1.heap.size) (e := 31) (size := 1) w1 (encU (List.replicate n 0)).toArray n (Nat.le_refl _) (by simp only [maxLen]; omega) (by simp [encU])
    simpa using this
  have hR0 : MemAt B ⟨List.replicate n 0, 0, false, []⟩ O (w1.alloc (.cells (encU (List.replicate n 0)).toArray 31)) ∧ Rest w O (List.replicate n 0) [] (.slice (some ⟨w1.heap.size, 0, none⟩) n n) (.slice none 0 0) (w1.alloc (.cells (encU (List.replicate n 0)).toArray 31)) := by
    have hm2 : MemAt B ⟨List.replicate n 0, 0, false, []⟩ O (w1.alloc (.cells (encU (List.replicate n 0)).toArray 31)) := hM.alloc _
    refine ⟨hm2, hB.trans (hA.mono hB.size), hO, by simpa using row_low hrow hB.size, World.ownsRow_nil _ _ _ _, fun k e ho => ?_, fun k e => by cases e⟩
    have : w1.heap.size = k := by simpa [Value.ownBlock] using e
    have := hM.lt ho
    omega
  obtain ⟨hM0, hR0⟩ := hR0
  clear hM hB hA hrow
  go_wp2
  clear hmk
  generalize w1.alloc (.cells (encU (List.replicate n 0)).toArray 31) = w2 at *
  generalize w1.heap.size = g0 at *
  go_loopw [9, 10, 11, 12] (fun vw vl c i wr => ∃ (j g cp : Nat) (ws : List Int) (st : Int) (lg : List Acc) (wa : Bool) (O : Nat → Prop), j ≤ len ∧ i = .int .i64 j ∧ c = .int .i64 st ∧ 0 ≤ st ∧ st ≤ j ∧ lg.length ≤ j ∧ ws.length = n ∧ vw = .slice (some ⟨g, 0, none⟩) n cp ∧ n ≤ cp ∧ cp ≤ 9223372036854775807 ∧
    MemAt B ⟨ws, st, wa, lg⟩ O wr ∧ Rest w O ws lg vw vl wr) (fun _ _ _ i _ => len - (intOf i).toNat)
  case atStart => exact ⟨0, g0, n, _, 0, [], false, O, by omega, rfl, rfl, by omega, by omega, by simp, by simp, rfl, by omega, by omega, hM0, hR0⟩
  case round =>
    clear hM0 hR0
    clear hO
    obtain ⟨j, g, cp, ws, st, lg, wa, O, hj, rfl, rfl, hs0, hs1, hlg, hws, rfl, hc1, hc2, hM, hR⟩ := hrel
    have HW := Lib.hid hws
    clear hws
    by_cases hlt : j < len
    · obtain ⟨bb, off, rfl, o0, o1, o2, o3, o4, o5, o6⟩ := HO.out j hlt
      have hbl : bb < w.heap.size := World.block_lt_of_cell? w _ o0
      have d0 := (hR.below.cell (p := ⟨bb, off + j * 7, none⟩) hbl).trans o0
      have d1 := (hR.below.cell (p := ⟨bb, off + j * 7 + 1, none⟩) hbl).trans o1
      have d2 := (hR.below.cell (p := ⟨bb, off + j * 7 + 2, none⟩) hbl).trans o2
      have d3 := (hR.below.cell (p := ⟨bb, off + j * 7 + 3, none⟩) hbl).trans o3
      have d4 := (hR.below.cell (p := ⟨bb, off + j * 7 + 4, none⟩) hbl).trans o4
      have d5 := (hR.below.cell (p := ⟨bb, off + j * 7 + 5, none⟩) hbl).trans o5
      have d6 := (hR.below.cell (p := ⟨bb, off + j * 7 + 6, none⟩) hbl).trans o6
      clear o0 o1 o2 o3 o4 o5 o6
      generalize F j = f at *
      obtain ⟨k, a, b, o, x, p, q⟩ := f
      simp only at d0 d1 d2 d3 d4 d5 d6
      have hA : Below wr.heap.size wr (wr.alloc (.cells #[.int .i64 k, .int .i64 a, .int .i64 b, .int .u64 o, .int .u64 x, .int .u64 p, .int .u64 q] 33)) := (Below.refl _ _).alloc (Nat.le_refl _) _
      have hX : Blk (wr.alloc (.cells #[.int .i64 k, .int .i64 a, .int .i64 b, .int .u64 o, .int .u64 x, .int .u64 p, .int .u64 q] 33)) wr.heap.size 33 _ := Blk.new _ _ _
      have hnX : ¬ O wr.heap.size := fun h => by have := hM.lt h; omega
      obtain ⟨hM1, hR1⟩ := Rest.later hM hR hA
      clear hM hR hA
      by_cases hk0 : k < 0
      · clear hX hnX
        go_wp2
        go_roundw
        case rel => exact ⟨j + 1, g, cp, ws, st, lg, wa, O, by omega, by go_num, rfl, hs0, by omega, by omega, HW.out, rfl, hc1, hc2, hM1, hR1⟩
        case measure => simp [intOf]; omega
      by_cases hk5 : 5 < k
      · clear hX hnX
        go_wp2
        go_roundw
        case rel => exact ⟨j + 1, g, cp, ws, st, lg, wa, O, by omega, by go_num, rfl, hs0, by omega, by omega, HW.out, rfl, hc1, hc2, hM1, hR1⟩
        case measure => simp [intOf]; omega
      have j1 : j + 1 ≤ 300 := by omega
      by_cases hfr : fr ≤ (j : Int)
      · skip
        go_wp2_with fail
        refine (watch_any B _ O true _ hM1).mono ?_
        rintro e w3 ⟨rfl, hT⟩
        obtain ⟨O3, hM3, hR3, hX3, hn3⟩ := hR1.turnX hX hnX hT
        have hfine := fine_of (ws := ws) (st := st) (lg := lg) true HW.out h1 (by omega : j ≤ 300) hs0 hs1 hlg
        clear hT hM1 hR1 hX hnX d0 d1 d2 d3 d4 d5 d6
        generalize wr.heap.size = X at *
        obtain ⟨x0, x1, x2, x3, x4, x5, x6⟩ := box_cells hX3
        by_cases hr : rightB k a b n = true
        · obtain ⟨i, rfl, hi, hb4, hab⟩ := right_of hr
          have hD := do_right B ws st true lg O3 k i b o x p q w3 hM3 hfine (by omega) (by omega) (by rw [HW.out]; exact hi) (by rw [HW.out]; exact hb4) hab
          have hlen := act_len ws k i b o x p q
          unfold entry at hD
          obtain ⟨r, hact⟩ : ∃ r, act ws k i b o x p q = r := ⟨_, rfl⟩
          obtain ⟨ws', u, is⟩ := r
          rw [hact, HW.out] at hlen
          rw [hact, counted_on] at hD
          have HA := Lib.hid hact
          have HLn := Lib.hid hlen
          clear hact hlen
          simp only at hD HLn
          go_wp2_with fail
          refine hD.mono ?_
          rintro e w4 ⟨rfl, hT⟩
          obtain ⟨O4, hM4, hR4, hX4, hn4⟩ := hR3.turnX hX3 hn3 hT
          clear hD hT hM3 hR3 hX3 hn3 x0 x1 x2 x3 x4 x5 x6
          obtain ⟨x0, x1, x2, x3, x4, x5, x6⟩ := box_cells hX4
          have hQ := right_any k i b o x p q n w4
          rw [hr] at hQ
          clear hr
          go_wp2_with fail
          refine hQ.mono ?_
          rintro e w5 ⟨rfl, hB5⟩
          obtain ⟨hM5, hR5⟩ := Rest.later hM4 hR4 hB5
          have hX5 := hX4.agree (hB5.block X hX4.lt)
          clear hQ hM4 hR4 hX4 hn4 x0 x1 x2 x3 x4 x5 x6 hB5
          obtain ⟨x0, x1, x2, x3, x4, x5, x6⟩ := box_cells hX5
          have hwr := hR5.words
          rw [HW.out] at hwr
          have hE := ref_do g cp n ws _ k i b o x p q w5 HW.out (by omega) hwr (by omega) (by omega) hi hb4 hab
          rw [HA.out] at hE
          clear hwr
          go_wp2_with fail
          refine hE.mono ?_
          rintro e w6 ⟨g6, cp6, rfl, hown, hB6, hc61, hc62⟩
          obtain ⟨hM6, hR6⟩ := Rest.newW hM5 hR5 hB6 HLn.out hown
          have hX6 := hX5.agree (hB6.block X hX5.lt)
          clear hE hM5 hR5 hX5 x0 x1 x2 x3 x4 x5 x6 hB6 hown
          obtain ⟨x0, x1, x2, x3, x4, x5, x6⟩ := box_cells hX6
          have st1 : IntKind.i64.wrap (st + 1) = st + 1 := st_next st hs0 (by omega)
          by_cases hk4 : k < 4
          · rw [if_pos hk4] at hM6
            have hlog := hR6.logs
            have hsz := hR6.below.size
            obtain ⟨m, hm'⟩ : ∃ m, lg.length = m := ⟨_, rfl⟩
            have HM := Lib.hid hm'
            rw [hm'] at hlg hlog
            clear hm' hfine
            go_wp2_with (at_builtin; refine wpList_append_lies _ rfl _ _ 30 rfl w.heap.size 41 i41 _ 4 32 Try.underlying30 hi41 hy0 hy1 hy2 rfl (by decide) u10 m (encL lg) rfl (hlog.alloc _) ⟨w6.heap.size, 0, none⟩ 1 1 [.int .i64 k, .int .i64 i, .int .i64 (-1), .bool is] rfl rfl (World.news_of_block (cs := #[.int .i64 k, .int .i64 i, .int .i64 (-1), .bool is]) (t := 41) (fr := (0, 0)) (heap_alloc_new w6 _)) (by simp [Value.oneCell']) (by omega) (by unfold maxLen; omega) (by omega) (by simp; omega) (w6.heap.size + 1) (by simp) ?_; intro gg cq w7 hown7 hgrow hat hlt7)
            obtain ⟨hM7, hR7⟩ := Rest.newL (x := (k, (i : Int), (-1), is)) hM6 hR6 HM.out hgrow hown7 (by simpa using hat)
            go_roundw
            case rel => exact ⟨j + 1, g6, cp6, ws', st + 1, lg ++ [(k, (i : Int), (-1), is)], true, O4, by omega, by go_num, rfl, by omega, by omega, by simp [HM.out]; omega, HLn.out, rfl, hc61, hc62, hM7, hR7⟩
            case measure => simp [intOf]; omega
          · rw [if_neg hk4] at hM6
            have hlog := hR6.logs
            have hsz := hR6.below.size
            obtain ⟨m, hm'⟩ : ∃ m, lg.length = m := ⟨_, rfl⟩
            have HM := Lib.hid hm'
            rw [hm'] at hlg hlog
            clear hm' hfine
            go_wp2_with (at_builtin; refine wpList_append_lies _ rfl _ _ 30 rfl w.heap.size 41 i41 _ 4 32 Try.underlying30 hi41 hy0 hy1 hy2 rfl (by decide) u10 m (encL lg) rfl (hlog.alloc _) ⟨w6.heap.size, 0, none⟩ 1 1 [.int .i64 k, .int .i64 i, .int .i64 b, .bool is] rfl rfl (World.news_of_block (cs := #[.int .i64 k, .int .i64 i, .int .i64 b, .bool is]) (t := 41) (fr := (0, 0)) (heap_alloc_new w6 _)) (by simp [Value.oneCell']) (by omega) (by unfold maxLen; omega) (by omega) (by simp; omega) (w6.heap.size + 1) (by simp) ?_; intro gg cq w7 hown7 hgrow hat hlt7)
            obtain ⟨hM7, hR7⟩ := Rest.newL (x := (k, (i : Int), b, is)) hM6 hR6 HM.out hgrow hown7 (by simpa using hat)
            go_roundw
            case rel => exact ⟨j + 1, g6, cp6, ws', st + 1, lg ++ [(k, (i : Int), b, is)], true, O4, by omega, by go_num, rfl, by omega, by omega, by simp [HM.out]; omega, HLn.out, rfl, hc61, hc62, hM7, hR7⟩
            case measure => simp [intOf]; omega
        · have hrF : rightB k a b n = false := by simpa using hr
          have hbad : badStep k a b ws.length := by rw [HW.out]; exact bad_of (by omega) (by omega) hrF
          have hD := do_bad B ⟨ws, st, true, lg⟩ O3 k a b o x p q w3 hM3 hfine (by omega) (by omega) hbad
          clear hbad hr
          go_wp2_with fail
          refine hD.mono ?_
          rintro e w4 ⟨rfl, hT⟩
          obtain ⟨O4, hM4, hR4, hX4, hn4⟩ := hR3.turnX hX3 hn3 hT
          clear hD hT hM3 hR3 hX3 hn3 x0 x1 x2 x3 x4 x5 x6
          obtain ⟨x0, x1, x2, x3, x4, x5, x6⟩ := box_cells hX4
          have hQ := right_any k a b o x p q n w4
          rw [hrF] at hQ
          clear hrF
          go_wp2_with fail
          refine hQ.mono ?_
          rintro e w5 ⟨rfl, hB5⟩
          obtain ⟨hM5, hR5⟩ := Rest.later hM4 hR4 hB5
          clear hQ hM4 hR4 hX4 hn4 x0 x1 x2 x3 x4 x5 x6 hB5
          go_wp2
          go_roundw
          case rel => exact ⟨j + 1, g, cp, ws, st, lg, true, O4, by omega, by go_num, rfl, hs0, by omega, by omega, HW.out, rfl, hc1, hc2, hM5, hR5⟩
          case measure => simp [intOf]; omega
      · skip
        go_wp2_with fail
        refine (watch_any B _ O false _ hM1).mono ?_
        rintro e w3 ⟨rfl, hT⟩
        obtain ⟨O3, hM3, hR3, hX3, hn3⟩ := hR1.turnX hX hnX hT
        have hfine := fine_of (ws := ws) (st := st) (lg := lg) false HW.out h1 (by omega : j ≤ 300) hs0 hs1 hlg
        clear hT hM1 hR1 hX hnX d0 d1 d2 d3 d4 d5 d6
        generalize wr.heap.size = X at *
        obtain ⟨x0, x1, x2, x3, x4, x5, x6⟩ := box_cells hX3
        by_cases hr : rightB k a b n = true
        · obtain ⟨i, rfl, hi, hb4, hab⟩ := right_of hr
          have hD := do_right B ws st false lg O3 k i b o x p q w3 hM3 hfine (by omega) (by omega) (by rw [HW.out]; exact hi) (by rw [HW.out]; exact hb4) hab
          have hlen := act_len ws k i b o x p q
          unfold entry at hD
          obtain ⟨r, hact⟩ : ∃ r, act ws k i b o x p q = r := ⟨_, rfl⟩
          obtain ⟨ws', u, is⟩ := r
          rw [hact, HW.out] at hlen
          rw [hact, counted_off] at hD
          have HA := Lib.hid hact
          have HLn := Lib.hid hlen
          clear hact hlen
          simp only at hD HLn
          go_wp2_with fail
          refine hD.mono ?_
          rintro e w4 ⟨rfl, hT⟩
          obtain ⟨O4, hM4, hR4, hX4, hn4⟩ := hR3.turnX hX3 hn3 hT
          clear hD hT hM3 hR3 hX3 hn3 x0 x1 x2 x3 x4 x5 x6
          obtain ⟨x0, x1, x2, x3, x4, x5, x6⟩ := box_cells hX4
          have hQ := right_any k i b o x p q n w4
          rw [hr] at hQ
          clear hr
          go_wp2_with fail
          refine hQ.mono ?_
          rintro e w5 ⟨rfl, hB5⟩
          obtain ⟨hM5, hR5⟩ := Rest.later hM4 hR4 hB5
          have hX5 := hX4.agree (hB5.block X hX4.lt)
          clear hQ hM4 hR4 hX4 hn4 x0 x1 x2 x3 x4 x5 x6 hB5
          obtain ⟨x0, x1, x2, x3, x4, x5, x6⟩ := box_cells hX5
          have hwr := hR5.words
          rw [HW.out] at hwr
          have hE := ref_do g cp n ws _ k i b o x p q w5 HW.out (by omega) hwr (by omega) (by omega) hi hb4 hab
          rw [HA.out] at hE
          clear hwr
          go_wp2_with fail
          refine hE.mono ?_
          rintro e w6 ⟨g6, cp6, rfl, hown, hB6, hc61, hc62⟩
          obtain ⟨hM6, hR6⟩ := Rest.newW hM5 hR5 hB6 HLn.out hown
          have hX6 := hX5.agree (hB6.block X hX5.lt)
          clear hE hM5 hR5 hX5 x0 x1 x2 x3 x4 x5 x6 hB6 hown
          obtain ⟨x0, x1, x2, x3, x4, x5, x6⟩ := box_cells hX6
          have st1 : IntKind.i64.wrap (st + 1) = st + 1 := st_next st hs0 (by omega)
          by_cases hk4 : k < 4
          · skip
            go_wp2
            go_roundw
            case rel => exact ⟨j + 1, g6, cp6, ws', st + 1, lg, false, O4, by omega, by go_num, rfl, by omega, by omega, by omega, HLn.out, rfl, hc61, hc62, hM6, hR6⟩
            case measure => simp [intOf]; omega
          · skip
            go_wp2
            go_roundw
            case rel => exact ⟨j + 1, g6, cp6, ws', st + 1, lg, false, O4, by omega, by go_num, rfl, by omega, by omega, by omega, HLn.out, rfl, hc61, hc62, hM6, hR6⟩
            case measure => simp [intOf]; omega
        · have hrF : rightB k a b n = false := by simpa using hr
          have hbad : badStep k a b ws.length := by rw [HW.out]; exact bad_of (by omega) (by omega) hrF
          have hD := do_bad B ⟨ws, st, false, lg⟩ O3 k a b o x p q w3 hM3 hfine (by omega) (by omega) hbad
          clear hbad hr
          go_wp2_with fail
          refine hD.mono ?_
          rintro e w4 ⟨rfl, hT⟩
          obtain ⟨O4, hM4, hR4, hX4, hn4⟩ := hR3.turnX hX3 hn3 hT
          clear hD hT hM3 hR3 hX3 hn3 x0 x1 x2 x3 x4 x5 x6
          obtain ⟨x0, x1, x2, x3, x4, x5, x6⟩ := box_cells hX4
          have hQ := right_any k a b o x p q n w4
          rw [hrF] at hQ
          clear hrF
          go_wp2_with fail
          refine hQ.mono ?_
          rintro e w5 ⟨rfl, hB5⟩
          obtain ⟨hM5, hR5⟩ := Rest.later hM4 hR4 hB5
          clear hQ hM4 hR4 hX4 hn4 x0 x1 x2 x3 x4 x5 x6 hB5
          go_wp2
          go_roundw
          case rel => exact ⟨j + 1, g, cp, ws, st, lg, false, O4, by omega, by go_num, rfl, hs0, by omega, by omega, HW.out, rfl, hc1, hc2, hM5, hR5⟩
          case measure => simp [intOf]; omega
    · obtain ⟨m, hm'⟩ : ∃ m, lg.length = m := ⟨_, rfl⟩
      have HM := Lib.hid hm'
      have hlog := hR.logs
      rw [hm'] at hlg hlog
      obtain rfl : j = len := by omega
      clear hm' hlt
      obtain ⟨ad, cl, rfl, hl1, hl2, had⟩ := row_any hlog
      have HAd := Lib.hid had
      have HLog := Lib.hid hlog
      clear had hlog
      go_wp2_with fail
      refine (log_any B _ O wr hM (by show lg.length ≤ _; rw [HM.out]; omega)).mono ?_
      rintro e w3 ⟨v, rfl, hown, hB3⟩
      simp only [HM.out] at hown
      obtain ⟨hM3, hR3⟩ := Rest.later hM hR hB3
      obtain ⟨ad2, cl2, rfl, hl3, hl4, had2⟩ := row_any hown
      have HAd2 := Lib.hid had2
      have HLog2 := Lib.hid hown
      have HLog3 : Hid (w3.ownsRow w.heap.size 41 4 (.slice ad m cl) m (encL lg)) := Lib.hid (by have := hR3.logs; rwa [HM.out] at this)
      clear had2 hown hM hR hB3 HLog
      go_wp2
      go_loopw [22] (fun i wz => ∃ r q : Nat, r ≤ m ∧ i = .int .i64 r ∧ wz = w3.drewN q) (fun i _ => m - (intOf i).toNat)
      case atStart => exact ⟨0, 0, by omega, rfl, rfl⟩
      case round =>
        obtain ⟨r, q, hr, rfl, rfl⟩ := hrel
        by_cases hlt : r < m
        · obtain ⟨g1, rfl⟩ := HAd.out (by omega)
          obtain ⟨g2, rfl⟩ := HAd2.out (by omega)
          obtain ⟨x, hx⟩ : ∃ x, lg[r]? = some x := ⟨_, List.getElem?_eq_getElem (by rw [HM.out]; exact hlt)⟩
          obtain ⟨t0, t1, t2, t3⟩ := encL_get lg r x hx
          have a0 : (w3.drewN q).cell? ⟨g1, r * 4, none⟩ = _ := (HLog3.out.cellAt (r * 4) (by omega)).trans t0
          have a1 : (w3.drewN q).cell? ⟨g1, r * 4 + 1, none⟩ = _ := (HLog3.out.cellAt (r * 4 + 1) (by omega)).trans t1
          have a2 : (w3.drewN q).cell? ⟨g1, r * 4 + 2, none⟩ = _ := (HLog3.out.cellAt (r * 4 + 2) (by omega)).trans t2
          have a3 : (w3.drewN q).cell? ⟨g1, r * 4 + 3, none⟩ = _ := (HLog3.out.cellAt (r * 4 + 3) (by omega)).trans t3
          have b0 : (w3.drewN q).cell? ⟨g2, r * 4, none⟩ = _ := (HLog2.out.cellAt (r * 4) (by omega)).trans t0
          have b1 : (w3.drewN q).cell? ⟨g2, r * 4 + 1, none⟩ = _ := (HLog2.out.cellAt (r * 4 + 1) (by omega)).trans t1
          have b2 : (w3.drewN q).cell? ⟨g2, r * 4 + 2, none⟩ = _ := (HLog2.out.cellAt (r * 4 + 2) (by omega)).trans t2
          have b3 : (w3.drewN q).cell? ⟨g2, r * 4 + 3, none⟩ = _ := (HLog2.out.cellAt (r * 4 + 3) (by omega)).trans t3
          obtain ⟨y0, y1, y2, y3⟩ := x
          simp only at a0 a1 a2 a3 b0 b1 b2 b3
          clear t0 t1 t2 t3 hx
          have HD := Lib.hid (show ∀ z, (w3.drewN q).drewN z = w3.drewN (q + z) from fun z => World.drewN_drewN _ _ _)
          clear hM3 hR3
          generalize w3.drewN q = w4 at *
          go_wp2
          go_quiet (fail)
          go_wp2
          go_roundw
          case rel => exact ⟨r + 1, _, by omega, by go_num, HD.out _⟩
          case measure => simp [intOf]; omega
        · have hB4 : Below w3.heap.size w3 (w3.drewN q) := below_drewN (Below.refl _ _) q
          obtain ⟨hM4, hR4⟩ := Rest.later hM3 hR3 hB4
          clear hM3 hR3 hB4 HLog2 HLog3
          generalize w3.drewN q = w4 at *
          go_wp2_with fail
          refine (words_any B _ O w4 hM4 (by show ws.length ≤ _; rw [HW.out]; omega)).mono ?_
          rintro e w5 ⟨v5, rfl, hown5, hB5⟩
          simp only [HW.out] at hown5
          obtain ⟨hM5, hR5⟩ := Rest.later hM4 hR4 hB5
          obtain ⟨g5, cp5, rfl, hv1, hv2⟩ := row_form hown5 (by omega)
          have hw5 := hR5.words
          rw [HW.out] at hw5
          clear hM4 hR4 hB5
          go_wp2_with fail
          refine (words_same g5 cp5 g cp n _ _ ws w5 HW.out (by omega) hown5 hw5 hv1 hv2 hc1 hc2).mono ?_
          rintro e w6 ⟨rfl, hB6⟩
          obtain ⟨hM6, hR6⟩ := Rest.later hM5 hR5 hB6
          clear hM5 hR5 hown5 hw5 hB6
          go_wp2_with fail
          refine (steps_any B _ O w6 hM6).mono ?_
          rintro e w' ⟨rfl, rfl⟩
          have hBf := hR6.below
          clear hM6 hR6
          go_wp2_with fail
          refine (lives_any _).mono ?_
          rintro e w9 ⟨rfl, hb9⟩
          have hbE := hBf.trans (hb9.mono hBf.size)
          clear hb9
          go_wp2
          go_ret
          exact ⟨rfl, hbE⟩

set_option maxRecDepth 100000 in
theorem steps_low (n : Int) (ao : Option Addr) (len cap : Nat) (fr : Int) (w : World) (h : n < 1) : Calls Try.prog 3 #[.int .i64 n, .slice ao len cap, .int .i64 fr] w (Good w) := by
  go_enter Try.func3, Try.ntmps3
  go_wp2_with fail
  refine (lives_any _).mono ?_
  rintro e w9 ⟨rfl, hb9⟩
  go_wp2
  go_ret
  exact ⟨rfl, hb9⟩

set_option maxRecDepth 100000 in
theorem steps_high (n : Int) (ao : Option Addr) (len cap : Nat) (fr : Int) (w : World) (h : 64 < n) : Calls Try.prog 3 #[.int .i64 n, .slice ao len cap, .int .i64 fr] w (Good w) := by
  have h2 : ¬ n < 1 := by omega
  go_enter Try.func3, Try.ntmps3
  go_wp2_with fail
  refine (lives_any _).mono ?_
  rintro e w9 ⟨rfl, hb9⟩
  go_wp2
  go_ret
  exact ⟨rfl, hb9⟩

set_option maxRecDepth 100000 in
theorem steps_many (n : Int) (ao : Option Addr) (len cap : Nat) (fr : Int) (w : World) (h : 1 ≤ n) (h1 : n ≤ 64) (hl : 300 < len) (hc : len ≤ cap) (hm : cap ≤ 9223372036854775807) : Calls Try.prog 3 #[.int .i64 n, .slice ao len cap, .int .i64 fr] w (Good w) := by
  have h2 : ¬ n < 1 := by omega
  have h3 : ¬ 64 < n := by omega
  have h4 : (300 : Int) < len := by omega
  go_enter Try.func3, Try.ntmps3
  go_wp2_with fail
  refine (lives_any _).mono ?_
  rintro e w9 ⟨rfl, hb9⟩
  go_wp2
  go_ret
  exact ⟨rfl, hb9⟩

theorem steps_all (n : Int) (ao : Option Addr) (len cap : Nat) (F : Nat → OpT) (fr : Int) (w : World) (hc : len ≤ cap) (hm : cap ≤ 9223372036854775807) (hops : OpsIn w ao len F) :
    Calls Try.prog 3 #[.int .i64 n, .slice ao len cap, .int .i64 fr] w (Good w) := by
  by_cases h0 : n < 1
  · exact steps_low n ao len cap fr w h0
  by_cases h1 : 64 < n
  · exact steps_high n ao len cap fr w h1
  by_cases h2 : 300 < len
  · exact steps_many n ao len cap fr w (by omega) (by omega) h2 hc hm
  obtain ⟨i, rfl⟩ : ∃ i : Nat, n = i := ⟨n.toNat, by omega⟩
  exact steps_main i ao len cap F fr w (by omega) (by omega) (by omega) hc hm hops
end Go.Proofs.Ytdknlmaabggfaaa
