/- The document's Parse. -/
import Derived.Test.YtdmdmkgpnelkjaaEnd
import Derived.Deep.RegionHeldLaw
namespace Go.Proofs.Ytdmdmkgpnelkjaa
open Go.ChangeShapes Go.WideShapes Go.ChangeAt Go.RowKit
set_option linter.unusedVariables false

/-- Amid the document's Parse: the answer's box, the configuration's box C. -/
structure RP (w : World) (C : Nat) (c : Cf) (W : World) : Prop where
  ans : Blk W w.heap.size 29 (scs zc nilS nilS nilS)
  cf : Blk W C 25 c.cs
  bel : Below w.heap.size w W
  ne : w.heap.size < C
theorem RP.below {w W V : World} {C : Nat} {c : Cf} (h : RP w C c W) (b : Below W.heap.size W V) : RP w C c V :=
  ⟨h.ans.below b h.ans.lt, h.cf.below b h.cf.lt, below_then h.bel b (Nat.le_refl _), h.ne⟩
theorem RP.agree {w W V : World} {C : Nat} {c : Cf} (h : RP w C c W) (b : Below (C + 1) W V) : RP w C c V :=
  ⟨h.ans.below b (by have := h.ne; omega), h.cf.below b (by omega), h.bel.trans (b.mono (by have := h.ne; omega)), h.ne⟩

set_option maxRecDepth 100000 in
set_option maxHeartbeats 8000000 in
theorem rparse_early (r : Sl) (bs : List Int) (w : World) (h : Rd w r.a r.n r.cap bs) (h1 : bs.length < 7) : Calls Try.prog 8 #[.slice r.a r.n r.cap] w (Parsed w (parseL bs)) := by
  have hl := h.len
  have g : (r.n : Int) < 7 := by omega
  rw [parse1 h1]
  have HE := Lib.hid (box1 (w := w) (.cells (scs zc nilS nilS nilS) 29))
  obtain ⟨ra, rn, rc⟩ := r
  dsimp only at *
  clear h hl h1
  go_enter Try.func8, Try.ntmps8
  go_wp2
  refine bodyPost_ret (v := .tuple #[sv zc nilS nilS nilS, .int .i64 9]) (by simp [results, Try.results8, go_sem]) rfl ⟨nilS, nilS, nilS, rfl, SV.zero _, HE.out⟩

theorem RP.cells {w W : World} {C : Nat} {c : Cf} (h : RP w C c W) : W.cell? ⟨C, 0, none⟩ = some (.int .i64 c.al) ∧ W.cell? ⟨C, 1, none⟩ = some (.int .i64 c.th) ∧ W.cell? ⟨C, 2, none⟩ = some (.int .i64 c.nd) ∧ W.cell? ⟨C, 3, none⟩ = some (.int .i64 c.lv) ∧
    W.cell? ⟨C, 4, none⟩ = some (.int .i64 c.ba) ∧ W.cell? ⟨C, 5, none⟩ = some (.int .i64 c.pr) ∧ W.cell? ⟨C, 6, none⟩ = some (.int .i64 c.sc) := h.cf.conf
/-- An error's end. -/
theorem RP.fin {w W : World} {C : Nat} {c : Cf} (h : RP w C c W) : Below w.heap.size w (put10 W w.heap.size zc nilS nilS nilS) := put10_below h.bel (Nat.le_refl _) zc nilS nilS nilS

/-- The list of the lists of calls, as it grows: a row of one's own, of slices of one's own. -/
structure Lg (base : Nat) (X : Sl) (vs : List Sl) (ls : List (List Tri)) (W : World) : Prop where
  row : W.ownsRow base 38 1 (.slice X.a X.n X.cap) vs.length (vs.map fun v : Sl => Value.slice v.a v.n v.cap)
  len : vs.length = ls.length
  own : ∀ (i : Nat) (v : Sl) (l : List Tri), vs[i]? = some v → ls[i]? = some l → W.ownsRow base 49 3 (.slice v.a v.n v.cap) l.length (encT l)
theorem Lg.nil (base : Nat) (W : World) : Lg base nilS [] [] W := ⟨World.ownsRow_nil _ _ _ _, rfl, fun i v l h => by simp at h⟩
theorem Lg.agree {base : Nat} {X : Sl} {vs : List Sl} {ls : List (List Tri)} {W V : World} (h : Lg base X vs ls W) (hk : ∀ k, k < W.heap.size → base ≤ k → V.heap[k]? = W.heap[k]?) : Lg base X vs ls V :=
  ⟨row_agree h.row fun k e => hk k (h.row.lt k e).2 (h.row.lt k e).1, h.len, fun i v l hv hl => row_agree (h.own i v l hv hl) fun k e => by
    have := (h.own i v l hv hl).lt k e
    exact hk k this.2 this.1⟩
theorem Lg.below {base : Nat} {X : Sl} {vs : List Sl} {ls : List (List Tri)} {W V : World} (h : Lg base X vs ls W) (b : Below W.heap.size W V) : Lg base X vs ls V := h.agree fun k hk _ => b.block k hk
theorem Lg.rdl {base : Nat} {X : Sl} {vs : List Sl} {ls : List (List Tri)} {W : World} (h : Lg base X vs ls W) : RdL W X ls :=
  ⟨vs, h.len, (Reads.of_own (s := X) h.row).1, fun i y l hy hl => (Reads.of_own (s := y) (h.own i y l hy hl)).1⟩
theorem Lg.push {base : Nat} {X : Sl} {vs : List Sl} {ls : List (List Tri)} {W W' : World} (h : Lg base X vs ls W) {v : Sl} {l : List Tri} (hv : W.ownsRow base 49 3 (.slice v.a v.n v.cap) l.length (encT l)) (tmp : Obj) (g cap : Nat)
    (hown : W'.ownsRow base 38 1 (.slice (some ⟨g, 0, none⟩) (vs.length + 1) cap) (vs.length + 1) ((vs.map fun v : Sl => Value.slice v.a v.n v.cap) ++ [.slice v.a v.n v.cap])) (hgrow : (W.alloc tmp).grownBy W' (Value.slice X.a X.n X.cap).ownBlock) :
    Lg base ⟨some ⟨g, 0, none⟩, vs.length + 1, cap⟩ (vs ++ [v]) (ls ++ [l]) W' := by
  have key : ∀ (u : Sl) (m : List Tri), W.ownsRow base 49 3 (.slice u.a u.n u.cap) m.length (encT m) → W'.ownsRow base 49 3 (.slice u.a u.n u.cap) m.length (encT m) := fun u m ho => row_agree ho fun k hk => by
    have hlt := (ho.lt k hk).2
    rw [hgrow.block k (by simp; omega) ?_, Below.heap_alloc _ _ _ hlt]
    intro e
    obtain ⟨cur, hc⟩ := row_type ho hk
    obtain ⟨cur', hc'⟩ := row_type h.row e.symm
    rw [hc] at hc'
    simp at hc'
  refine ⟨by simpa using hown, by simp [h.len], fun i u m hu hm => ?_⟩
  by_cases hi : i < vs.length
  · rw [List.getElem?_append_left hi] at hu
    rw [List.getElem?_append_left (by rw [← h.len]; exact hi)] at hm
    exact key u m (h.own i u m hu hm)
  · rw [List.getElem?_append_right (by omega)] at hu
    rw [List.getElem?_append_right (by rw [← h.len]; omega), ← h.len] at hm
    have h0 : i - vs.length = 0 := by
      have := (List.getElem?_eq_some_iff.1 hu).1
      simp at this
      omega
    rw [h0] at hu hm
    simp at hu hm
    subst hu hm
    exact key _ _ hv
theorem Lg.far {base : Nat} {X : Sl} {vs : List Sl} {ls : List (List Tri)} {W W' : World} (h : Lg base X vs ls W) {v : Value} {n : Nat} {xs : List Value} (hy : W.ownsRow base 3 1 v n xs) (tmp : Obj) (hgrow : (W.alloc tmp).grownBy W' v.ownBlock) : Lg base X vs ls W' := by
  have key : ∀ (e : TypeId) (size m : Nat) (u : Value) (us : List Value), e ≠ 3 → W.ownsRow base e size u m us → W'.ownsRow base e size u m us := fun e size m u us he ho => row_agree ho fun k hk => by
    have hlt := (ho.lt k hk).2
    rw [hgrow.block k (by simp; omega) ?_, Below.heap_alloc _ _ _ hlt]
    intro e2
    obtain ⟨cur, hc⟩ := row_type ho hk
    obtain ⟨cur', hc'⟩ := row_type hy e2.symm
    rw [hc] at hc'
    simp only [Option.some.injEq, Obj.cells.injEq] at hc'
    exact he hc'.2.1
  exact ⟨key _ _ _ _ _ (by decide) h.row, h.len, fun i v l hv hl => key _ _ _ _ _ (by decide) (h.own i v l hv hl)⟩
theorem RQ.setZ {w W : World} {C : Nat} {c : Cf} {S : Nat} {X Y : Sl} (hrp : RP w C c W) (hsb : Blk W S 29 (scs c X Y nilS)) (hlt : C < S) (Z : Sl) : RP w C c (W.setCell ⟨S, 9, none⟩ (.slice Z.a Z.n Z.cap)) ∧ Blk (W.setCell ⟨S, 9, none⟩ (.slice Z.a Z.n Z.cap)) S 29 (scs c X Y Z) :=
  ⟨hrp.agree ((Below.refl _ _).setCell (p := ⟨S, 9, none⟩) hlt _), by have := hsb.set 9 (.slice Z.a Z.n Z.cap); simpa using this⟩
/-- The calls of thread t among the first j. -/
def flt (T : Nat) (bs : List Int) (t j : Nat) : List Tri := ((prs T bs j).filter fun p => p.1 == t).map (·.2)
theorem flt_yes (T : Nat) (bs : List Int) (t j : Nat) (h : (byteAt bs (10 * j)).toNat % T = t) : flt T bs t (j + 1) = flt T bs t j ++ [decT (bs.drop (10 * j + 1))] := by
  unfold flt
  rw [prs_snoc]
  simp [h]
theorem flt_no (T : Nat) (bs : List Int) (t j : Nat) (h : ¬ (byteAt bs (10 * j)).toNat % T = t) : flt T bs t (j + 1) = flt T bs t j := by
  unfold flt
  rw [prs_snoc]
  simp [h]
theorem flt_len (T : Nat) (bs : List Int) (t j : Nat) : (flt T bs t j).length ≤ j := by
  unfold flt
  have := List.length_filter_le (fun p : Nat × Tri => p.1 == t) (prs T bs j)
  rw [prs_len] at this
  simpa using this
theorem byTh_succ (k : Nat) (T : Nat) (bs : List Int) (n : Nat) : byTh (k + 1) (prs T bs n) = byTh k (prs T bs n) ++ [flt T bs k n] := by
  simp [byTh, flt, List.range_succ]
theorem own_mono {W : World} {base base' : Nat} {e : TypeId} {size n : Nat} {v : Value} {xs : List Value} (h : W.ownsRow base e size v n xs) (hb : base' ≤ base) : W.ownsRow base' e size v n xs := by
  refine ⟨h.1, ?_⟩
  rcases h.2 with h2 | ⟨g, cap, cur, hv, hg, r⟩
  · exact .inl h2
  · exact .inr ⟨g, cap, cur, hv, by omega, r⟩
theorem step_append_rd {w : World} {ops : Array Oper} {o : Oper} {a : Act} {K : Act → World → Prop} {Q : Exit → Act → World → Prop} {E : Prop} (hg : o.guard = none) (s x : Operand)
    (hop : o.op = Op.call { callee := Callee.builtin Builtin.append, args := #[s, x], argTypes := #[22, 22] })
    (base : Nat) (b : Sl) (xs : List Int) (hown : OwnB base b xs w) (r : Sl) (zs : List Int) (hr : Rd w r.a r.n r.cap zs) (hn : b.n + r.n ≤ 1000000) (hbase : base ≤ w.heap.size)
    (hs : a.eval s = .slice b.a b.n b.cap) (hx : a.eval x = .slice r.a r.n r.cap)
    (hK : ∀ (b' : Sl) (w' : World), OwnB base b' (xs ++ zs) w' → b'.n = b.n + r.n → w.grownBy w' (Value.slice b.a b.n b.cap).ownBlock → K (a.put o.dst (.slice b'.a b'.n b'.cap)) w') :
    if Region.wanted o (yielded ops a.tmps) = true then Oper.wp Try.prog o a w K Q else E := by
  have hw : Region.wanted o (yielded ops a.tmps) = true := by simp [Region.wanted, hg]
  rw [if_pos hw]
  obtain ⟨b', w', hrun, r1, r2, r3⟩ := run_append_rd w o.type base b xs hown r zs hr hn hbase
  unfold Oper.wp
  simp [execOp, hop, resolve, invoke, builtin, hs, hx, hrun, Result.andThen]
  exact hK b' w' r1 r2 r3
/-- Amid the document's Parse: the script's box too. -/
structure RQ (w : World) (C : Nat) (c : Cf) (S : Nat) (X Y : Sl) (W : World) : Prop where
  rp : RP w C c W
  sb : Blk W S 29 (scs c X Y nilS)
  lt : C < S
theorem RQ.below {w W V : World} {C : Nat} {c : Cf} {S : Nat} {X Y : Sl} (h : RQ w C c S X Y W) (b : Below W.heap.size W V) : RQ w C c S X Y V := ⟨h.rp.below b, h.sb.below b h.sb.lt, h.lt⟩
/-- All but what lies above S may be as it was. -/
theorem RQ.agree {w W V : World} {C : Nat} {c : Cf} {S : Nat} {X Y : Sl} (h : RQ w C c S X Y W) (b : Below (S + 1) W V) : RQ w C c S X Y V := ⟨h.rp.agree (b.mono (by have := h.lt; omega)), h.sb.below b (by omega), h.lt⟩
theorem RQ.setX {w W : World} {C : Nat} {c : Cf} {S : Nat} {X Y : Sl} (h : RQ w C c S X Y W) (X' : Sl) : RQ w C c S X' Y (W.setCell ⟨S, 7, none⟩ (.slice X'.a X'.n X'.cap)) :=
  ⟨h.rp.agree ((Below.refl _ _).setCell (p := ⟨S, 7, none⟩) h.lt _), by have := h.sb.set 7 (.slice X'.a X'.n X'.cap); simpa using this, h.lt⟩
theorem RQ.setY {w W : World} {C : Nat} {c : Cf} {S : Nat} {X Y : Sl} (h : RQ w C c S X Y W) (Y' : Sl) : RQ w C c S X Y' (W.setCell ⟨S, 8, none⟩ (.slice Y'.a Y'.n Y'.cap)) :=
  ⟨h.rp.agree ((Below.refl _ _).setCell (p := ⟨S, 8, none⟩) h.lt _), by have := h.sb.set 8 (.slice Y'.a Y'.n Y'.cap); simpa using this, h.lt⟩

set_option maxRecDepth 100000 in
set_option maxHeartbeats 16000000 in
theorem rparse_long (b off n cap : Nat) (bs : List Int) (w : World) (h : Rd w (some ⟨b, off, none⟩) n cap bs) (h1 : ¬ n < 7) (hbig : n ≤ 200000) : Calls Try.prog 8 #[.slice (some ⟨b, off, none⟩) n cap] w (Parsed w (parseL bs)) := by
  have hl := h.len
  have hroom := h.room
  unfold maxLen at hroom
  have g1 : ¬ (n : Int) < 7 := by omega
  have hby := h.bytes
  have n0 : (0 : Int) < n := by omega
  have nn0 : 0 < n := by omega
  have n1 : (1 : Int) < n := by omega
  have n2 : (2 : Int) < n := by omega
  have n3 : (3 : Int) < n := by omega
  have n4 : (4 : Int) < n := by omega
  have n5 : (5 : Int) < n := by omega
  have n6 : (6 : Int) < n := by omega
  have ww : ∀ j, IntKind.i64.wrap (byteAt bs j) = byteAt bs j := fun j => IntWalk.i64_in _ (by have := hby j; omega)
  have w0 := ww 0
  have w1 := ww 1
  have w2 := ww 2
  have w3 := ww 3
  have w4 := ww 4
  have w5 := ww 5
  have w6 := ww 6
  have hc := fun W (hb : Below w.heap.size w W) (j : Nat) (hj : j < n) => (h.below hb).cell j hj
  have HR := Lib.hid h
  have HBY := Lib.hid hby
  have hA : Blk (w.alloc (.cells (scs zc nilS nilS nilS) 29)) w.heap.size 29 (scs zc nilS nilS nilS) := Blk.new _ _ _
  have h0 : Below w.heap.size w (w.alloc (.cells (scs zc nilS nilS nilS) 29)) := box1 _
  have b0 : (w.alloc (.cells (scs zc nilS nilS nilS) 29)).cell? ⟨b, off, none⟩ = some (.int .u8 (byteAt bs 0)) := by
    have := hc _ h0 0 (by omega)
    rwa [Go.WideShapes.add_plain, Nat.add_zero] at this
  have b1 : (w.alloc (.cells (scs zc nilS nilS nilS) 29)).cell? ⟨b, off + 1, none⟩ = some (.int .u8 (byteAt bs 1)) := hc _ h0 1 (by omega)
  have b2 : (w.alloc (.cells (scs zc nilS nilS nilS) 29)).cell? ⟨b, off + 2, none⟩ = some (.int .u8 (byteAt bs 2)) := hc _ h0 2 (by omega)
  have b3 : (w.alloc (.cells (scs zc nilS nilS nilS) 29)).cell? ⟨b, off + 3, none⟩ = some (.int .u8 (byteAt bs 3)) := hc _ h0 3 (by omega)
  have b4 : (w.alloc (.cells (scs zc nilS nilS nilS) 29)).cell? ⟨b, off + 4, none⟩ = some (.int .u8 (byteAt bs 4)) := hc _ h0 4 (by omega)
  have b5 : (w.alloc (.cells (scs zc nilS nilS nilS) 29)).cell? ⟨b, off + 5, none⟩ = some (.int .u8 (byteAt bs 5)) := hc _ h0 5 (by omega)
  have b6 : (w.alloc (.cells (scs zc nilS nilS nilS) 29)).cell? ⟨b, off + 6, none⟩ = some (.int .u8 (byteAt bs 6)) := hc _ h0 6 (by omega)
  have hbl := World.block_lt_of_cell? _ _ b0
  generalize hp : parseL bs = p
  have HP := Lib.hid hp
  have HL := Lib.hid hl
  have H1 := Lib.hid h1
  have HBIG := Lib.hid hbig
  clear hbig
  clear h hby hp hl h1 hc ww
  go_enter Try.func8, Try.ntmps8
  go_wp2_with fail
  generalize hW : (w.alloc (.cells (scs zc nilS nilS nilS) 29)) = W0 at *
  have hA0 : w.heap.size < W0.heap.size := hA.lt
  have hW := Lib.hid hW
  have hx2 : b ≠ W0.heap.size := Nat.ne_of_lt hbl
  go_region_held3 (fun W => W.cell? ⟨b, off, none⟩ = some (.int .u8 (byteAt bs 0)) ∧ W.cell? ⟨b, off + 1, none⟩ = some (.int .u8 (byteAt bs 1)) ∧ W.cell? ⟨b, off + 2, none⟩ = some (.int .u8 (byteAt bs 2)) ∧ W.cell? ⟨b, off + 3, none⟩ = some (.int .u8 (byteAt bs 3)) ∧ W.cell? ⟨b, off + 4, none⟩ = some (.int .u8 (byteAt bs 4)) ∧ W.cell? ⟨b, off + 5, none⟩ = some (.int .u8 (byteAt bs 5)) ∧ W.cell? ⟨b, off + 6, none⟩ = some (.int .u8 (byteAt bs 6))) (go_keep) (fail)
  have S0 : RP w W0.heap.size (ofB bs) ((W0.alloc (.cells (ofB bs).cs 25)).drew) := ⟨(hA.alloc _).drew, (Blk.new _ _ _).drew, below_drew1 (h0.alloc h0.size _), hA0⟩
  have HS := Lib.hid S0
  obtain ⟨c0, c1, c2, c3, c4, c5, c6⟩ := S0.cells
  clear hA h0 b0 b1 b2 b3 b4 b5 b6 hbl hx2 S0 hA0
  generalize ((W0.alloc (.cells (ofB bs).cs 25)).drew) = W1 at *
  generalize W0.heap.size = C at *
  clear hW
  by_cases h2 : (ofB bs).Ok
  case neg =>
    have HE := Lib.hid (show p = .error 6 by rw [← HP.out]; exact parse2 (by have := HL.out; have := H1.out; omega) h2)
    have KB := fun W => right_bad (ofB bs) W h2
    clear h2
    go_wp2_with fail
    refine (KB _).mono ?_
    rintro e W2 ⟨rfl, hb⟩
    have hS := HS.out.below hb
    obtain ⟨x0, x1, x2, x3, x4, x5, x6, x7, x8, x9⟩ := hS.ans.script
    have xf := hS.ans.frozen
    have hlt := hS.ans.lt
    have HF := Lib.hid hS.fin
    clear hS hb KB c0 c1 c2 c3 c4 c5 c6 HS
    go_wp2
    refine bodyPost_ret (v := .tuple #[sv zc nilS nilS nilS, .int .i64 6]) (by simp [results, Try.results8, go_sem, *]) rfl (by rw [HE.out]; exact ⟨nilS, nilS, nilS, rfl, SV.zero _, HF.out⟩)
  case pos =>
  have KB := fun W => right_ok (ofB bs) W h2
  have H2 := Lib.hid h2
  clear h2
  go_wp2_with fail
  refine (KB _).mono ?_
  rintro e W2 ⟨rfl, hb⟩
  have hS := HS.out.below hb
  obtain ⟨x0, x1, x2, x3, x4, x5, x6, x7, x8, x9⟩ := hS.ans.script
  have xf := hS.ans.frozen
  have hlt := hS.ans.lt
  have HF := Lib.hid hS.fin
  clear hb KB c0 c1 c2 c3 c4 c5 c6 HS
  by_cases h3 : n < 8
  · have HE := Lib.hid (show p = .error 9 by rw [← HP.out]; exact parse3 (by have := HL.out; have := H1.out; omega) H2.out (by have := HL.out; omega))
    have g : (n : Int) < 8 := by omega
    clear hS h3
    go_wp2
    refine bodyPost_ret (v := .tuple #[sv zc nilS nilS nilS, .int .i64 9]) (by simp [results, Try.results8, go_sem, *]) rfl (by rw [HE.out]; exact ⟨nilS, nilS, nilS, rfl, SV.zero _, HF.out⟩)
  have b7 := HBY.out 7
  have en : byteAt bs 7 = (nOf bs : Nat) := by unfold nOf; omega
  have q7 : W2.cell? ⟨b, off + 7, none⟩ = some (.int .u8 (nOf bs : Nat)) := by
    rw [← en]
    exact (HR.out.below hS.bel).cell 7 (by omega)
  have H3 := Lib.hid h3
  have hS' := Lib.hid hS
  clear hS h3
  have w7 : IntKind.i64.wrap ((nOf bs : Nat) : Int) = (nOf bs : Nat) := IntWalk.i64_in _ (by omega)
  have nn7 : (7 : Int) < n := by have := H3.out; omega
  have g3 : ¬ (n : Int) < 8 := by have := H3.out; omega
  by_cases h4 : 48 < byteAt bs 7
  · have HE := Lib.hid (show p = .error 10 by rw [← HP.out]; exact parse4 H2.out (by have := HL.out; have := H3.out; omega) h4)
    have g : (48 : Int) < (nOf bs : Nat) := by omega
    clear h4 b7 en
    generalize ((nOf bs : Nat) : Int) = nn at *
    go_wp2
    refine bodyPost_ret (v := .tuple #[sv zc nilS nilS nilS, .int .i64 10]) (by simp [results, Try.results8, go_sem, *]) rfl (by rw [HE.out]; exact ⟨nilS, nilS, nilS, rfl, SV.zero _, HF.out⟩)
  have H4 := Lib.hid h4
  have g4 : ¬ (48 : Int) < (nOf bs : Nat) := by omega
  obtain ⟨pt10, eu10⟩ : ∃ u : Nat, u = 10 * nOf bs := ⟨_, rfl⟩
  obtain ⟨pt8, eu8⟩ : ∃ u : Nat, u = 8 + 10 * nOf bs := ⟨_, rfl⟩
  obtain ⟨pt9, eu9⟩ : ∃ u : Nat, u = 9 + 10 * nOf bs := ⟨_, rfl⟩
  obtain ⟨pt2, eu2⟩ : ∃ u : Nat, u = 10 + 10 * nOf bs := ⟨_, rfl⟩
  have a1 : IntKind.i64.wrap (10 * ((nOf bs : Nat) : Int)) = (pt10 : Int) := by rw [IntWalk.i64_in _ (by omega)]; omega
  have a2 : IntKind.i64.wrap (8 + (pt10 : Int)) = (pt8 : Int) := by rw [IntWalk.i64_in _ (by omega)]; omega
  have a3 : IntKind.i64.wrap ((pt8 : Int) + 2) = (pt2 : Int) := by rw [IntWalk.i64_in _ (by omega)]; omega
  have a4 : IntKind.i64.wrap ((pt8 : Int) + 1) = (pt9 : Int) := by rw [IntWalk.i64_in _ (by omega)]; omega
  have HN := Lib.hid en
  have HN48 := Lib.hid (show nOf bs ≤ 48 by omega)
  by_cases h5 : n < 10 + 10 * nOf bs
  · have HE := Lib.hid (show p = .error 9 by rw [← HP.out]; exact parse5 H2.out (by have := HL.out; have := H3.out; omega) H4.out (by have := HL.out; omega))
    have g : (n : Int) < (pt2 : Int) := by omega
    clear h4 b7 en h5 eu10 eu8 eu9 eu2
    generalize ((nOf bs : Nat) : Int) = nn at *
    go_wp2
    refine bodyPost_ret (v := .tuple #[sv zc nilS nilS nilS, .int .i64 9]) (by simp [results, Try.results8, go_sem, *]) rfl (by rw [HE.out]; exact ⟨nilS, nilS, nilS, rfl, SV.zero _, HF.out⟩)
  have H5 := Lib.hid h5
  have g5 : ¬ (n : Int) < (pt2 : Int) := by omega
  have EU := Lib.hid (And.intro eu10 (And.intro eu8 (And.intro eu9 eu2)))
  clear eu10 eu8 eu9 eu2
  have hT0 := H2.out.t0
  have hT1 := H2.out.t1
  dsimp only at hT0 hT1
  obtain ⟨T, hT⟩ : ∃ T : Nat, byteAt bs 1 = (T : Int) := ⟨(byteAt bs 1).toNat, by omega⟩
  have HT := Lib.hid hT
  have HTb := Lib.hid (show 1 ≤ T ∧ T ≤ 6 by omega)
  generalize hnn : nOf bs = nn at *
  have hnn := Lib.hid hnn
  clear hT
  obtain ⟨y0, y1, y2, y3, y4, y5, y6⟩ := hS'.out.cells
  have hS2 : RQ w C (ofB bs) W2.heap.size nilS nilS (W2.alloc (.cells (scs (ofB bs) nilS nilS nilS) 29)) := ⟨hS'.out.below (box1 _), Blk.new _ _ _, hS'.out.cf.lt⟩
  have HS2 := Lib.hid hS2
  clear h4 b7 en h5 hT0 hT1 hS2
  go_wp2_with fail
  generalize (W2.alloc (.cells (scs (ofB bs) nilS nilS nilS) 29)) = W3 at *
  generalize W2.heap.size = S at *
  clear x0 x1 x2 x3 x4 x5 x6 x7 x8 x9 xf hlt HF y0 y1 y2 y3 y4 y5 y6 q7 hS'
  clear w0 w1 w2 w3 w4 w5 w6 w7 n0 nn0 n1 n2 n3 n4 n5 n6 nn7 g3 g4 g5 g1
  -- the threads, one by one
  go_loopw [8] (fun i V => ∃ (k : Nat) (X : Sl) (vs : List Sl), k ≤ T ∧ i = .int .i64 k ∧ Hid (RQ w C (ofB bs) S X nilS V) ∧ Hid (Lg (S + 1) X vs (byTh k (prs T (bs.drop 8) nn)) V)) (fun i _ => T - (intOf i).toNat)
  case atStart => exact ⟨0, nilS, [], by omega, rfl, HS2, Lib.hid (Lg.nil _ _)⟩
  case round =>
    clear HS2
    rename World => W4
    obtain ⟨k, X, vs, hk, rfl, HQ, HG⟩ := hrel
    obtain ⟨y0, y1, y2, y3, y4, y5, y6⟩ := HQ.out.rp.cells
    have hTT := HT.out
    have hTb := HTb.out
    have y1' := y1
    dsimp only at y1'
    rw [hTT] at y1'
    by_cases hkT : k < T
    · have gk : (k : Int) < T := by omega
      have wk := IntWalk.i64_in ((k : Int) + 1) (by omega)
      clear y1
      go_wp2_with fail
      go_loopw [9, 10] (fun l i V => ∃ (j : Nat) (v : Sl), j ≤ nn ∧ i = .int .i64 j ∧ l = .slice v.a v.n v.cap ∧ Hid (V.ownsRow W4.heap.size 49 3 (.slice v.a v.n v.cap) (flt T (bs.drop 8) k j).length (encT (flt T (bs.drop 8) k j))) ∧ Hid (Below W4.heap.size W4 V)) (fun _ i _ => nn - (intOf i).toNat)
      case atStart => exact ⟨0, nilS, by omega, rfl, rfl, Lib.hid (World.ownsRow_nil _ _ _ _), Lib.hid (Below.refl _ _)⟩
      case round =>
        rename World => V
        obtain ⟨j, v, hj, rfl, rfl, HV, HB⟩ := hrel
        have HQV := Lib.hid (HQ.out.below HB.out)
        by_cases hjn : j < nn
        · have hN48 := HN48.out
          have h5 := H5.out
          obtain ⟨z0, z1, z2, z3, z4, z5, z6⟩ := HQV.out.rp.cells
          dsimp only at z1
          rw [hTT] at z1
          have gj : (j : Int) < nn := by omega
          obtain ⟨m10, e10⟩ : ∃ m : Nat, m = 10 * j := ⟨_, rfl⟩
          obtain ⟨m8, e8⟩ : ∃ m : Nat, m = 8 + 10 * j := ⟨_, rfl⟩
          obtain ⟨m9, e9⟩ : ∃ m : Nat, m = 9 + 10 * j := ⟨_, rfl⟩
          obtain ⟨m18, e18⟩ : ∃ m : Nat, m = 18 + 10 * j := ⟨_, rfl⟩
          have v10 : IntKind.i64.wrap (10 * (j : Int)) = (m10 : Int) := by rw [IntWalk.i64_in _ (by omega)]; omega
          have v8 : IntKind.i64.wrap (8 + (m10 : Int)) = (m8 : Int) := by rw [IntWalk.i64_in _ (by omega)]; omega
          have v9 : IntKind.i64.wrap (9 + (m10 : Int)) = (m9 : Int) := by rw [IntWalk.i64_in _ (by omega)]; omega
          have v18 : IntKind.i64.wrap (18 + (m10 : Int)) = (m18 : Int) := by rw [IntWalk.i64_in _ (by omega)]; omega
          have vj : IntKind.i64.wrap ((j : Int) + 1) = (j : Int) + 1 := IntWalk.i64_in _ (by omega)
          have g8 : (m8 : Int) < n := by omega
          have q8 : V.cell? ⟨b, off + m8, none⟩ = some (.int .u8 (byteAt bs m8)) := by
            rw [← Go.WideShapes.add_plain]
            exact (HR.out.below HQV.out.rp.bel).cell m8 (by omega)
          have hb8 := HBY.out m8
          have wx : IntKind.i64.wrap (byteAt bs m8) = byteAt bs m8 := IntWalk.i64_in _ (by omega)
          have hbd : byteAt (bs.drop 8) (10 * j) = byteAt bs m8 := by rw [byteAt_drop, e8]
          obtain ⟨rr, er⟩ : ∃ rr : Nat, rr = (byteAt bs m8).toNat % T := ⟨_, rfl⟩
          have hmod : (byteAt bs m8).tmod (T : Int) = (rr : Int) := by
            rw [Int.tmod_eq_emod_of_nonneg hb8.1, er, Int.natCast_emod, Int.toNat_of_nonneg hb8.1]
          have hrT : rr < T := by rw [er]; exact Nat.mod_lt _ (by omega)
          have wr' : IntKind.i64.wrap (rr : Int) = (rr : Int) := IntWalk.i64_in _ (by omega)
          have hz : ((T : Int) == 0) = false := by simp; omega
          have hz2 : ¬ (T : Int) = 0 := by omega
          have HE1 := Lib.hid (And.intro e10 (And.intro e8 (And.intro e9 e18)))
          have HER := Lib.hid (show (byteAt (bs.drop 8) (10 * j)).toNat % T = rr by rw [hbd, er])
          have hcut := HR.out.cut (s := ⟨some ⟨b, off, none⟩, n, cap⟩) m9 m18 cap (by omega) (by dsimp only; omega) (by omega) (Nat.le_refl _)
          have hsl : ∀ W, (Instr.slice 22 (.slice (some ⟨b, off, none⟩) n cap) (some (.int .i64 (m9 : Int))) (some (.int .i64 (m18 : Int))) none).run Try.prog W = .ok (Sl.cut ⟨some ⟨b, off, none⟩, n, cap⟩ m9 m18 cap).v W := fun W => slice_both ⟨some ⟨b, off, none⟩, n, cap⟩ m9 m18 W (by omega) (by dsimp only; omega)
          have hdec : decT ((bs.take m18).drop m9) = decT ((bs.drop 8).drop (10 * j + 1)) := by
            rw [List.drop_take, show m18 - m9 = 9 by omega, decT_nine _ _ (Nat.le_refl _), List.drop_drop, show 8 + (10 * j + 1) = m9 by omega]
          generalize (Sl.cut ⟨some ⟨b, off, none⟩, n, cap⟩ m9 m18 cap) = p9 at *
          obtain ⟨p9a, p9n, p9c⟩ := p9
          dsimp only [Sl.v] at hsl hcut
          have KD := Lib.hid (fun W (hb : Below w.heap.size w W) => rcdecode_any p9a p9n p9c _ W (hcut.below hb))
          rw [hdec] at KD
          clear hcut hdec er hrT hbd e10 e8 e9 e18 h5 hb8 y0 y1' y2 y3 y4 y5 y6
          generalize byteAt bs m8 = xx at *
          have HN1 := Lib.hid hN48
          clear hN48
          by_cases hrk : rr = k
          · have hcond : ((rr : Int) == (k : Int)) = true := by simp; omega
            have hfl := Lib.hid (flt_yes T (bs.drop 8) k j (by rw [HER.out]; exact hrk))
            generalize decT ((bs.drop 8).drop (10 * j + 1)) = cc at *
            have hfle := flt_len T (bs.drop 8) k j
            generalize hll : flt T (bs.drop 8) k j = l at *
            clear hll hrk
            go_wp2_with fail
            go_quiet (fail)
            obtain ⟨va, vn, vc⟩ := v
            dsimp only at HV
            obtain ⟨i0, hi, hz0, hz1, hz2⟩ := info_parts info49
            have HFL := Lib.hid (show l.length ≤ 48 by have := HN1.out; omega)
            clear hfle
            go_wp2_with (first
              | (go_at_call 17; refine (KD.out _ (below_drewN HQV.out.rp.bel _)).mono ?_; rintro e V2 ⟨rfl, hb⟩; have hV2 : V2.ownsRow W4.heap.size 49 3 (.slice va vn vc) l.length (encT l) := row_agree HV.out (fun q hq => hb.block q (HV.out.lt q hq).2); have HB2 := Lib.hid (below_then (below_drewN HB.out nq) hb (Nat.le_refl _)))
              | (at_builtin; refine wpList_append_lies _ rfl _ _ _ rfl W4.heap.size 49 i0 _ 3 16 Try.underlying38 hi hz0 hz1 hz2 rfl (by decide) (.slice va vn vc) l.length (encT l) rfl (row_agree hV2 (fun q hq => Below.heap_alloc _ _ _ (hV2.lt q hq).2)) ⟨V2.heap.size, 0, none⟩ 1 1 [.int .i64 cc.op, .int .u32 cc.key, .int .u32 cc.val] rfl rfl (World.news_of_block (cs := #[.int .i64 cc.op, .int .u32 cc.key, .int .u32 cc.val]) (t := 49) (fr := (0, 0)) (heap_alloc_new V2 _)) (by simp [Value.oneCell']) (by omega) (by have := HFL.out; unfold maxLen; omega) (by have := HFL.out; omega) (by have := HB2.out.size; simp; omega) _ rfl ?_; intro g cap w5 hown hgrow hat hlt5; have HB5 := Lib.hid ((HB2.out.alloc HB2.out.size _).grown hgrow (by have := HB2.out.size; simp; omega) (fun q e => (hV2.lt q e).1)); have HO5 := Lib.hid hown; clear hown hgrow hat hlt5 hV2))
            go_roundw
            case rel => exact ⟨j + 1, ⟨some ⟨g, 0, none⟩, l.length + 1, cap⟩, by omega, by go_num, rfl, Lib.hid (by rw [hfl.out, encT_snoc, List.length_append]; exact HO5.out), HB5⟩
            case measure => simp [intOf]; omega
          · have hcond : ((rr : Int) == (k : Int)) = false := by simp; omega
            have hfl := Lib.hid (flt_no T (bs.drop 8) k j (by rw [HER.out]; exact hrk))
            clear hrk
            go_wp2_with fail
            go_quiet (fail)
            go_wp2
            go_roundw
            case rel => exact ⟨j + 1, v, by omega, by go_num, rfl, Lib.hid (by rw [hfl.out]; exact row_agree HV.out (fun _ _ => rfl)), Lib.hid (below_drewN HB.out _)⟩
            case measure => simp [intOf]; omega
        · obtain rfl : j = nn := by omega
          obtain ⟨va, vn, vc⟩ := v
          dsimp only at HV
          have hGV := HG.out.below HB.out
          have HGV := Lib.hid hGV
          obtain ⟨x0, x1, x2, x3, x4, x5, x6, x7, x8, x9⟩ := HQV.out.sb.script
          obtain ⟨Xa, Xn, Xc⟩ := X
          dsimp only at x7 hGV
          have hXrow := hGV.row
          have HSW := Lib.hid (show S + 1 ≤ W4.heap.size from HQ.out.sb.lt)
          have HSV := Lib.hid (show S + 1 ≤ V.heap.size from HQV.out.sb.lt)
          have hSlt : S < V.heap.size := HQV.out.sb.lt
          have hSne : S ≠ V.heap.size := Nat.ne_of_lt hSlt
          have hvl : vs.length = k := by rw [HGV.out.len, byTh_len]
          have HVL := Lib.hid hvl
          obtain ⟨i1, hi, hz0, hz1, hz2⟩ := info_parts info38
          clear hGV hvl y0 y1' y2 y3 y4 y5 y6
          go_wp2_with (at_builtin; refine wpList_append_lies _ rfl _ _ _ rfl (S + 1) 38 i1 _ 1 24 Try.underlying26 hi hz0 hz1 hz2 rfl (by decide) (.slice Xa Xn Xc) vs.length (vs.map fun v : Sl => Value.slice v.a v.n v.cap) rfl (row_agree hXrow (fun q hq => Below.heap_alloc _ _ _ (hXrow.lt q hq).2)) ⟨V.heap.size, 0, none⟩ 1 1 [.slice va vn vc] rfl rfl (World.news_of_block (cs := #[.slice va vn vc]) (t := 38) (fr := (0, 0)) (heap_alloc_new V _)) (by simp [Value.oneCell']) (by omega) (by have := HVL.out; have := HTb.out; unfold maxLen; omega) (by have := HVL.out; have := HTb.out; omega) (by have := HSV.out; simp; omega) _ rfl ?_; intro g cap' w6 hown hgrow hat hlt6; have hP := Lg.push HGV.out (v := ⟨va, vn, vc⟩) (own_mono HV.out HSW.out) _ g cap' hown hgrow; have hB6 := (((Below.refl (S + 1) V).alloc HSV.out _).grown hgrow (by have := HSV.out; simp; omega) (fun q e => (hXrow.lt q e).1)); have hQ6 := HQV.out.agree hB6; have s7 := hQ6.sb.script.2.2.2.2.2.2.2.1; have sf := hQ6.sb.frozen; have HP6 := Lib.hid hP; have HQ6 := Lib.hid (hQ6.setX ⟨some ⟨g, 0, none⟩, vs.length + 1, cap'⟩); clear hP hB6 hQ6 hown hgrow hat hlt6)
          go_roundw
          case rel => exact ⟨k + 1, by omega, by go_num, ⟨some ⟨g, 0, none⟩, vs.length + 1, cap'⟩, HQ6, _, Lib.hid (by rw [byTh_succ]; exact HP6.out.agree fun q hq hge => Below.heap_setCell w6 ⟨S, 7, none⟩ _ q (by show q ≠ S; omega))⟩
          case measure => simp [intOf]; omega
    · obtain rfl : k = T := by omega
      clear y0 y1 y2 y3 y4 y5 y6
      have hN48 := HN48.out
      have h5 := H5.out
      obtain ⟨e10, e8, e9, e2⟩ := EU.out
      have q8 : W4.cell? ⟨b, off + pt8, none⟩ = some (.int .u8 (byteAt bs pt8)) := by
        rw [← Go.WideShapes.add_plain]
        exact (HR.out.below HQ.out.rp.bel).cell pt8 (by omega)
      have q9 : W4.cell? ⟨b, off + pt9, none⟩ = some (.int .u8 (byteAt bs pt9)) := by
        rw [← Go.WideShapes.add_plain]
        exact (HR.out.below HQ.out.rp.bel).cell pt9 (by omega)
      have hb8 := HBY.out pt8
      have hb9 := HBY.out pt9
      have g8 : (pt8 : Int) < n := by omega
      have g9 : (pt9 : Int) < n := by omega
      have wx8 : IntKind.i64.wrap (byteAt bs pt8) = byteAt bs pt8 := IntWalk.i64_in _ (by omega)
      have wx9 : IntKind.i64.wrap (byteAt bs pt9) = byteAt bs pt9 := IntWalk.i64_in _ (by omega)
      have wm9 : IntKind.i64.wrap (256 * byteAt bs pt9) = 256 * byteAt bs pt9 := IntWalk.i64_in _ (by omega)
      obtain ⟨mm, emm⟩ : ∃ mm : Nat, mm = mOf bs := ⟨_, rfl⟩
      have em : byteAt bs pt8 + 256 * byteAt bs pt9 = (mm : Int) := by
        rw [emm]
        unfold mOf
        rw [hnn.out, ← e8, ← e9]
        omega
      have wsum : IntKind.i64.wrap (byteAt bs pt8 + 256 * byteAt bs pt9) = (mm : Int) := by rw [em]; exact IntWalk.i64_in _ (by omega)
      have HMM := Lib.hid emm
      have hmb : (mm : Int) ≤ 65535 := by omega
      clear em emm e10 e8 e9 hb8 hb9
      generalize byteAt bs pt8 = x8 at *
      generalize byteAt bs pt9 = x9 at *
      have HE2 := Lib.hid e2
      have HM48 := Lib.hid hN48
      have hP5 := Lib.hid h5
      clear e2 hN48 h5
      go_wp2_with fail
      go_quiet (fail)
      have HQ1 := Lib.hid (HQ.out.below (below_drewN (Below.refl _ _) nq))
      have HG1 := Lib.hid (HG.out.below (below_drewN (Below.refl _ _) nq))
      clear HQ HG q8 q9 g8 g9 wx8 wx9 wm9 wsum a1 a2 a4
      generalize W4.drewN nq = W5 at *
      obtain ⟨x0, x1, x2, x3, x4, x5, x6, x7, x8', x9'⟩ := HQ1.out.rp.ans.script
      have xf := HQ1.out.rp.ans.frozen
      have hlt := HQ1.out.rp.ans.lt
      have HF := Lib.hid HQ1.out.rp.fin
      by_cases h6 : 60000 < mm
      · have HE := Lib.hid (show p = .error 10 by rw [← HP.out]; exact parse6 H2.out (by have := H4.out; omega) (by rw [hnn.out]; have := HL.out; have := hP5.out; omega) (by rw [← HMM.out]; exact h6))
        have g : (60000 : Int) < (mm : Int) := by omega
        clear h6
        go_wp2
        refine bodyPost_ret (v := .tuple #[sv zc nilS nilS nilS, .int .i64 10]) (by simp [results, Try.results8, go_sem, *]) rfl (by rw [HE.out]; exact ⟨nilS, nilS, nilS, rfl, SV.zero _, HF.out⟩)
      have g6 : ¬ (60000 : Int) < (mm : Int) := by omega
      have H6 := Lib.hid h6
      obtain ⟨pt3, eu3⟩ : ∃ u : Nat, u = 10 + 10 * nn + mm := ⟨_, rfl⟩
      have a5 : IntKind.i64.wrap ((pt2 : Int) + (mm : Int)) = (pt3 : Int) := by
        have := HE2.out
        have := HM48.out
        rw [IntWalk.i64_in _ (by omega)]
        omega
      have EU3 := Lib.hid eu3
      clear h6 eu3
      by_cases h7 : n < pt3
      · have HE := Lib.hid (show p = .error 9 by rw [← HP.out]; exact parse7 H2.out (by have := H4.out; omega) (by rw [hnn.out]; have := HL.out; have := hP5.out; omega) (by rw [← HMM.out]; have := H6.out; omega) (by rw [hnn.out, ← HMM.out]; have := HL.out; have := EU3.out; omega))
        have g : (n : Int) < (pt3 : Int) := by omega
        clear h7
        go_wp2
        refine bodyPost_ret (v := .tuple #[sv zc nilS nilS nilS, .int .i64 9]) (by simp [results, Try.results8, go_sem, *]) rfl (by rw [HE.out]; exact ⟨nilS, nilS, nilS, rfl, SV.zero _, HF.out⟩)
      have g7 : ¬ (n : Int) < (pt3 : Int) := by omega
      have H7 := Lib.hid h7
      clear h7 x0 x1 x2 x3 x4 x5 x6 x7 x8' x9' xf hlt HF
      go_wp2_with fail
      -- the picks
      go_loopw [12] (fun i V => ∃ (j : Nat) (Y : Sl), j ≤ mm ∧ i = .int .i64 j ∧ Hid (RQ w C (ofB bs) S X Y V) ∧ Hid (Lg (S + 1) X vs (byTh k (prs k (bs.drop 8) nn)) V) ∧ Hid (V.ownsRow (S + 1) 3 1 (.slice Y.a Y.n Y.cap) j (encI (pks (byteAt bs 1) (bs.drop pt2) j)))) (fun i _ => mm - (intOf i).toNat)
      case atStart => exact ⟨0, nilS, by omega, rfl, HQ1, HG1, Lib.hid (World.ownsRow_nil _ _ _ _)⟩
      case round =>
        clear HQ1 HG1
        rename World => V
        obtain ⟨j, Y, hj, rfl, HQ, HG, HY⟩ := hrel
        obtain ⟨Ya, Yn, Yc⟩ := Y
        obtain ⟨s0, s1, s2, s3, s4, s5, s6, s7, s8, s9⟩ := HQ.out.sb.script
        have hSlt : S < V.heap.size := HQ.out.sb.lt
        have hSne : S ≠ V.heap.size := Nat.ne_of_lt hSlt
        have hCS : C ≠ S := Nat.ne_of_lt HQ.out.lt
        have hSC : S ≠ C := Ne.symm hCS
        have hbw : b < w.heap.size := World.block_lt_of_cell? w ⟨b, off + 0, none⟩ (HR.out.cell 0 (by have := HL.out; have := H3.out; omega))
        have hbS : b ≠ S := by have := HQ.out.rp.ne; have := HQ.out.lt; omega
        have hSb : S ≠ b := Ne.symm hbS
        have HSB := Lib.hid (show S + 1 ≤ V.heap.size from hSlt)
        by_cases hjn : j < mm
        · have hM48 := HM48.out
          obtain ⟨mi, emi⟩ : ∃ mi : Nat, mi = pt2 + j := ⟨_, rfl⟩
          have v1 : IntKind.i64.wrap ((pt2 : Int) + (j : Int)) = (mi : Int) := by
            have := HE2.out
            rw [IntWalk.i64_in _ (by omega)]
            omega
          have vj : IntKind.i64.wrap ((j : Int) + 1) = (j : Int) + 1 := IntWalk.i64_in _ (by omega)
          have gj : (j : Int) < mm := by omega
          have gmi : (mi : Int) < n := by
            have := HE2.out
            have := EU3.out
            have := H7.out
            omega
          have hcell : ∀ U, Below w.heap.size w U → U.cell? ⟨b, off + mi, none⟩ = some (.int .u8 (byteAt bs mi)) := fun U hU => by
            rw [← Go.WideShapes.add_plain]
            exact (HR.out.below hU).cell mi (by omega)
          have q1 := hcell V HQ.out.rp.bel
          have HCELL := Lib.hid hcell
          have q2 := HQ.out.rp.cells.2.1
          dsimp only at q2
          rw [hTT] at q2
          have hcc : ∀ U, RQ w C (ofB bs) S X ⟨Ya, Yn, Yc⟩ U → U.cell? ⟨C, 1, none⟩ = some (.int .i64 (k : Int)) := fun U hU => by
            have := hU.rp.cells.2.1
            dsimp only at this
            rwa [hTT] at this
          have HCC := Lib.hid hcc
          have hbx := HBY.out mi
          have wx : IntKind.i64.wrap (byteAt bs mi) = byteAt bs mi := IntWalk.i64_in _ (by omega)
          have hbd : byteAt (bs.drop pt2) j = byteAt bs mi := by rw [byteAt_drop, emi]
          have hpk := pks_snoc (byteAt bs 1) (bs.drop pt2) j
          rw [hbd] at hpk
          have hmod : (byteAt bs mi).tmod (k : Int) = byteAt bs mi % byteAt bs 1 := by rw [Int.tmod_eq_emod_of_nonneg hbx.1, hTT]
          have hz2 : ¬ (k : Int) = 0 := by omega
          have hz : ((k : Int) == 0) = false := by simp; omega
          have hzk : ¬ k = 0 := by omega
          have hp0 := Int.emod_nonneg (byteAt bs mi) (show byteAt bs 1 ≠ 0 by omega)
          have hp1 := Int.emod_lt_of_pos (byteAt bs mi) (show 0 < byteAt bs 1 by omega)
          have wpv : IntKind.i64.wrap (byteAt bs mi % byteAt bs 1) = byteAt bs mi % byteAt bs 1 := IntWalk.i64_in _ (by omega)
          have HPK := Lib.hid hpk
          obtain ⟨i2, hi, hz0, hz1, hz2'⟩ := info_parts info3
          have hmmb : j ≤ 65535 := by omega
          have HJB := Lib.hid hmmb
          clear hpk hbd emi hM48 hbx hp0 hp1 hcell hcc hmmb
          generalize byteAt bs mi % byteAt bs 1 = pv at *
          generalize byteAt bs mi = xx at *
          generalize hpp : pks (byteAt bs 1) (bs.drop pt2) j = pl at *
          clear hpp s0 s1 s2 s3 s4 s5 s6 s7 s9
          go_wp2_with fail
          refine wp_region_held_drew (S := fun U => U.cell? ⟨b, off + mi, none⟩ = some (.int .u8 xx) ∧ U.cell? ⟨C, 1, none⟩ = some (.int .i64 (k : Int))) (by kernel_rfl) ?_ (fun hHeld => ?_)
          focus exact ⟨q1, q2⟩
          refine wpAnyH_take (i := 0) (oi := _) (v := ?_) rfl (by kernel_rfl) (by kernel_rfl) (by kernel_rfl) (fun _ _ _ h => h) (Or.inl ⟨by rfl, ?_⟩) (by assumption) ?_
          rotate_left
          focus (intro w hSw; (try dsimp only at hSw); go_simp; (try with_reducible rfl))
          simp only [List.getElem_toArray, List.getElem_cons_succ, List.getElem_cons_zero, Act.put, List.setIfInBounds_toArray, List.set_cons_zero, List.set_cons_succ]
          refine wpAnyH_take (i := 2) (oi := _) (v := ?_) rfl (by kernel_rfl) (by kernel_rfl) (by kernel_rfl) (fun _ _ _ h => h) (Or.inl ⟨by rfl, ?_⟩) (by assumption) ?_
          rotate_left
          focus (intro w hSw; (try dsimp only at hSw); go_simp; (try with_reducible rfl))
          simp only [List.getElem_toArray, List.getElem_cons_succ, List.getElem_cons_zero, Act.put, List.setIfInBounds_toArray, List.set_cons_zero, List.set_cons_succ]
          refine wpAnyH_take (i := 3) (oi := _) (v := ?_) rfl (by kernel_rfl) (by kernel_rfl) (by kernel_rfl) (fun _ _ _ h => h) (Or.inl ⟨by rfl, ?_⟩) (by assumption) ?_
          rotate_left
          focus (intro w hSw; (try dsimp only at hSw); go_simp; (try with_reducible rfl))
          simp only [List.getElem_toArray, List.getElem_cons_succ, List.getElem_cons_zero, Act.put, List.setIfInBounds_toArray, List.set_cons_zero, List.set_cons_succ]
          refine wpAnyH_take (i := 4) (oi := _) (v := ?_) rfl (by kernel_rfl) (by kernel_rfl) (by kernel_rfl) (fun _ _ _ h => h) (Or.inl ⟨by rfl, ?_⟩) (by assumption) ?_
          rotate_left
          focus (intro w hSw; (try dsimp only at hSw); go_simp; (try with_reducible rfl))
          simp only [List.getElem_toArray, List.getElem_cons_succ, List.getElem_cons_zero, Act.put, List.setIfInBounds_toArray, List.set_cons_zero, List.set_cons_succ]
          refine wpAnyH_take (i := 5) (oi := _) (v := ?_) rfl (by kernel_rfl) (by kernel_rfl) (by kernel_rfl) (fun _ _ _ h => h) (Or.inl ⟨by rfl, ?_⟩) (by assumption) ?_
          rotate_left
          focus (intro w hSw; (try dsimp only at hSw); go_simp; (try with_reducible rfl))
          simp only [List.getElem_toArray, List.getElem_cons_succ, List.getElem_cons_zero, Act.put, List.setIfInBounds_toArray, List.set_cons_zero, List.set_cons_succ]
          refine wpAnyH_take (i := 6) (oi := _) (v := ?_) rfl (by kernel_rfl) (by kernel_rfl) (by kernel_rfl) (fun _ _ _ h => h) (Or.inl ⟨by rfl, ?_⟩) (by assumption) ?_
          rotate_left
          focus (intro w hSw; (try dsimp only at hSw); go_simp; (try with_reducible rfl))
          simp only [List.getElem_toArray, List.getElem_cons_succ, List.getElem_cons_zero, Act.put, List.setIfInBounds_toArray, List.set_cons_zero, List.set_cons_succ]
          refine wpAnyH_take (i := 7) (oi := _) (v := ?_) rfl (by kernel_rfl) (by kernel_rfl) (by kernel_rfl) (fun _ _ _ h => h) (Or.inl ⟨by rfl, ?_⟩) (by assumption) ?_
          rotate_left
          focus (intro w hSw; (try dsimp only at hSw); go_simp; (try with_reducible rfl))
          simp only [List.getElem_toArray, List.getElem_cons_succ, List.getElem_cons_zero, Act.put, List.setIfInBounds_toArray, List.set_cons_zero, List.set_cons_succ]
          refine wpAnyH_take (i := 8) (oi := _) (v := ?_) rfl (by kernel_rfl) (by kernel_rfl) (by kernel_rfl) (fun _ _ _ h => h) (Or.inl ⟨by rfl, ?_⟩) (by assumption) ?_
          rotate_left
          focus (intro w hSw; (try dsimp only at hSw); go_simp; (try with_reducible rfl))
          simp only [List.getElem_toArray, List.getElem_cons_succ, List.getElem_cons_zero, Act.put, List.setIfInBounds_toArray, List.set_cons_zero, List.set_cons_succ]
          refine wpAnyH_take (i := 9) (oi := _) (v := ?_) rfl (by kernel_rfl) (by kernel_rfl) (by kernel_rfl) (fun _ _ _ h => h) (Or.inl ⟨by rfl, ?_⟩) (by assumption) ?_
          rotate_left
          focus (intro w hSw; (try dsimp only at hSw); go_simp; (try with_reducible rfl))
          simp only [List.getElem_toArray, List.getElem_cons_succ, List.getElem_cons_zero, Act.put, List.setIfInBounds_toArray, List.set_cons_zero, List.set_cons_succ]
          refine wpAnyH_take (i := 10) (oi := _) (v := ?_) rfl (by kernel_rfl) (by kernel_rfl) (by kernel_rfl) (fun _ _ _ h => h) (Or.inl ⟨by rfl, ?_⟩) (by assumption) ?_
          rotate_left
          focus (intro w hSw; (try dsimp only at hSw); go_simp; (try with_reducible rfl))
          simp only [List.getElem_toArray, List.getElem_cons_succ, List.getElem_cons_zero, Act.put, List.setIfInBounds_toArray, List.set_cons_zero, List.set_cons_succ]
          refine wpAnyH_take (i := 11) (oi := _) (v := ?_) rfl (by kernel_rfl) (by kernel_rfl) (by kernel_rfl) (fun _ _ _ h => h) (Or.inl ⟨by rfl, ?_⟩) (by assumption) ?_
          rotate_left
          focus (intro w hSw; (try dsimp only at hSw); go_simp; (try with_reducible rfl))
          simp only [List.getElem_toArray, List.getElem_cons_succ, List.getElem_cons_zero, Act.put, List.setIfInBounds_toArray, List.set_cons_zero, List.set_cons_succ]
          refine wpAnyH_ready (rs := [1, 12]) (by kernel_rfl) (by simp) ?_
          refine AllReadyH.cons (o := _) rfl (fun K hK => ?_) (AllReadyH.cons (o := _) rfl (fun K hK => ?_) AllReadyH.nil)
          focus
            go_simp
            refine hK.out _ _ ?_ (fun hHeld => ?_)
            focus exact ⟨q1, q2⟩
            clear hK K
            (try simp only [List.getElem_toArray, List.getElem_cons_succ, List.getElem_cons_zero, Act.put, List.setIfInBounds_toArray, List.set_cons_zero, List.set_cons_succ])
            refine wpAnyH_ready (rs := [12]) (by kernel_rfl) (by simp) ?_
            refine AllReadyH.cons (o := _) rfl (fun K hK => ?_) AllReadyH.nil
            go_simp
            refine hK.out _ _ ?_ (fun hHeld => ?_)
            focus go_keep
            clear hK K
            (try simp only [List.getElem_toArray, List.getElem_cons_succ, List.getElem_cons_zero, Act.put, List.setIfInBounds_toArray, List.set_cons_zero, List.set_cons_succ])
            refine wpAnyH_ready (rs := [13]) (by kernel_rfl) (by simp) ?_
            refine AllReadyH.cons (o := _) rfl (fun K hK => ?_) AllReadyH.nil
            refine step_append_lies _ (by rfl) _ _ _ (by rfl) (S + 1) 3 i2 _ 1 8 Try.underlying27 hi hz0 hz1 hz2' rfl (by decide) (.slice Ya Yn Yc) j (encI pl) (by rfl) (row_agree HY.out (fun q hq => Below.heap_alloc V.drew _ _ ((HY.out.lt q hq).2))) ⟨V.heap.size, 0, none⟩ 1 1 [.int .i64 pv] (by rfl) (by rfl) (World.news_of_block (cs := #[.int .i64 pv]) (t := 3) (fr := (0, 0)) (heap_alloc_new V.drew _)) (by simp [Value.oneCell']) (by omega) (by have := HJB.out; unfold maxLen; omega) (by have := HJB.out; omega) (by have := HSB.out; simp; omega) _ rfl ?_
            intro g cap' w7 hown hgrow hat hlt7
            have hB7 : Below (S + 1) V.drew w7 := (((Below.refl (S + 1) V.drew).alloc HSB.out _).grown hgrow (by have := HSB.out; simp; omega) (fun q e => (HY.out.lt q e).1))
            have hQ7 := (HQ.out.below (below_drew1 (Below.refl _ _))).agree hB7
            have k1 := HCELL.out w7 hQ7.rp.bel
            have k2 := HCC.out w7 hQ7
            have s8' := hQ7.sb.script.2.2.2.2.2.2.2.2.1
            have sf' := hQ7.sb.frozen
            have HQ7 := Lib.hid (hQ7.setY ⟨some ⟨g, 0, none⟩, j + 1, cap'⟩)
            have hG7 := Lg.far (W := V.drew) (HG.out.below (below_drew1 (Below.refl _ _))) (row_agree HY.out (fun _ _ => rfl)) _ hgrow
            have HG7 := Lib.hid (hG7.agree (V := w7.setCell ⟨S, 8, none⟩ (.slice (some ⟨g, 0, none⟩) (j + 1) cap')) (fun q hq hge => Below.heap_setCell w7 ⟨S, 8, none⟩ _ q (by show q ≠ S; omega)))
            have HY7 := Lib.hid (row_agree (W' := w7.setCell ⟨S, 8, none⟩ (.slice (some ⟨g, 0, none⟩) (j + 1) cap')) hown (fun q hq => Below.heap_setCell w7 ⟨S, 8, none⟩ _ q (by have := (hown.lt q hq).1; show q ≠ S; omega)))
            clear hown hgrow hat hlt7 hB7 hQ7 hG7
            refine hK.out _ _ ?_ (fun hHeld => ?_)
            focus exact ⟨k1, k2⟩
            clear hK K
            (try simp only [List.getElem_toArray, List.getElem_cons_succ, List.getElem_cons_zero, Act.put, List.setIfInBounds_toArray, List.set_cons_zero, List.set_cons_succ])
            refine wpAnyH_take (i := 14) (oi := _) (v := ?_) rfl (by kernel_rfl) (by kernel_rfl) (by kernel_rfl) (fun _ _ _ h => h) (Or.inl ⟨by rfl, ?_⟩) (by assumption) ?_
            rotate_left
            focus (intro w hSw; (try dsimp only at hSw); go_simp; (try with_reducible rfl))
            simp only [List.getElem_toArray, List.getElem_cons_succ, List.getElem_cons_zero, Act.put, List.setIfInBounds_toArray, List.set_cons_zero, List.set_cons_succ]
            refine wpAnyH_ready (rs := [15]) (by kernel_rfl) (by simp) ?_
            refine AllReadyH.cons (o := _) rfl (fun K hK => ?_) AllReadyH.nil
            go_simp
            refine hK.out _ _ ?_ (fun hHeld => ?_)
            focus go_keep
            clear hK K
            (try simp only [List.getElem_toArray, List.getElem_cons_succ, List.getElem_cons_zero, Act.put, List.setIfInBounds_toArray, List.set_cons_zero, List.set_cons_succ])
            refine wpAnyH_done (by kernel_rfl) ?_ _
            go_wp2
            go_roundw
            case rel => exact ⟨j + 1, ⟨some ⟨g, 0, none⟩, j + 1, cap'⟩, by omega, by go_num, HQ7, HG7, Lib.hid (by rw [HPK.out]; simpa [encI] using HY7.out)⟩
            case measure => simp [intOf]; omega
          focus
            go_simp
            refine hK.out _ _ ?_ (fun hHeld => ?_)
            focus go_keep
            clear hK K
            (try simp only [List.getElem_toArray, List.getElem_cons_succ, List.getElem_cons_zero, Act.put, List.setIfInBounds_toArray, List.set_cons_zero, List.set_cons_succ])
            refine wpAnyH_ready (rs := [1]) (by kernel_rfl) (by simp) ?_
            refine AllReadyH.cons (o := _) rfl (fun K hK => ?_) AllReadyH.nil
            go_simp
            refine hK.out _ _ ?_ (fun hHeld => ?_)
            focus go_keep
            clear hK K
            (try simp only [List.getElem_toArray, List.getElem_cons_succ, List.getElem_cons_zero, Act.put, List.setIfInBounds_toArray, List.set_cons_zero, List.set_cons_succ])
            refine wpAnyH_ready (rs := [13]) (by kernel_rfl) (by simp) ?_
            refine AllReadyH.cons (o := _) rfl (fun K hK => ?_) AllReadyH.nil
            refine step_append_lies _ (by rfl) _ _ _ (by rfl) (S + 1) 3 i2 _ 1 8 Try.underlying27 hi hz0 hz1 hz2' rfl (by decide) (.slice Ya Yn Yc) j (encI pl) (by rfl) (row_agree HY.out (fun q hq => Below.heap_alloc V.drew _ _ ((HY.out.lt q hq).2))) ⟨V.heap.size, 0, none⟩ 1 1 [.int .i64 pv] (by rfl) (by rfl) (World.news_of_block (cs := #[.int .i64 pv]) (t := 3) (fr := (0, 0)) (heap_alloc_new V.drew _)) (by simp [Value.oneCell']) (by omega) (by have := HJB.out; unfold maxLen; omega) (by have := HJB.out; omega) (by have := HSB.out; simp; omega) _ rfl ?_
            intro g cap' w7 hown hgrow hat hlt7
            have hB7 : Below (S + 1) V.drew w7 := (((Below.refl (S + 1) V.drew).alloc HSB.out _).grown hgrow (by have := HSB.out; simp; omega) (fun q e => (HY.out.lt q e).1))
            have hQ7 := (HQ.out.below (below_drew1 (Below.refl _ _))).agree hB7
            have k1 := HCELL.out w7 hQ7.rp.bel
            have k2 := HCC.out w7 hQ7
            have s8' := hQ7.sb.script.2.2.2.2.2.2.2.2.1
            have sf' := hQ7.sb.frozen
            have HQ7 := Lib.hid (hQ7.setY ⟨some ⟨g, 0, none⟩, j + 1, cap'⟩)
            have hG7 := Lg.far (W := V.drew) (HG.out.below (below_drew1 (Below.refl _ _))) (row_agree HY.out (fun _ _ => rfl)) _ hgrow
            have HG7 := Lib.hid (hG7.agree (V := w7.setCell ⟨S, 8, none⟩ (.slice (some ⟨g, 0, none⟩) (j + 1) cap')) (fun q hq hge => Below.heap_setCell w7 ⟨S, 8, none⟩ _ q (by show q ≠ S; omega)))
            have HY7 := Lib.hid (row_agree (W' := w7.setCell ⟨S, 8, none⟩ (.slice (some ⟨g, 0, none⟩) (j + 1) cap')) hown (fun q hq => Below.heap_setCell w7 ⟨S, 8, none⟩ _ q (by have := (hown.lt q hq).1; show q ≠ S; omega)))
            clear hown hgrow hat hlt7 hB7 hQ7 hG7
            refine hK.out _ _ ?_ (fun hHeld => ?_)
            focus exact ⟨k1, k2⟩
            clear hK K
            (try simp only [List.getElem_toArray, List.getElem_cons_succ, List.getElem_cons_zero, Act.put, List.setIfInBounds_toArray, List.set_cons_zero, List.set_cons_succ])
            refine wpAnyH_take (i := 14) (oi := _) (v := ?_) rfl (by kernel_rfl) (by kernel_rfl) (by kernel_rfl) (fun _ _ _ h => h) (Or.inl ⟨by rfl, ?_⟩) (by assumption) ?_
            rotate_left
            focus (intro w hSw; (try dsimp only at hSw); go_simp; (try with_reducible rfl))
            simp only [List.getElem_toArray, List.getElem_cons_succ, List.getElem_cons_zero, Act.put, List.setIfInBounds_toArray, List.set_cons_zero, List.set_cons_succ]
            refine wpAnyH_ready (rs := [15]) (by kernel_rfl) (by simp) ?_
            refine AllReadyH.cons (o := _) rfl (fun K hK => ?_) AllReadyH.nil
            go_simp
            refine hK.out _ _ ?_ (fun hHeld => ?_)
            focus go_keep
            clear hK K
            (try simp only [List.getElem_toArray, List.getElem_cons_succ, List.getElem_cons_zero, Act.put, List.setIfInBounds_toArray, List.set_cons_zero, List.set_cons_succ])
            refine wpAnyH_done (by kernel_rfl) ?_ _
            go_wp2
            go_roundw
            case rel => exact ⟨j + 1, ⟨some ⟨g, 0, none⟩, j + 1, cap'⟩, by omega, by go_num, HQ7, HG7, Lib.hid (by rw [HPK.out]; simpa [encI] using HY7.out)⟩
            case measure => simp [intOf]; omega
        · obtain rfl : j = mm := by omega
          have hn7 := H7.out
          have hcut := HR.out.cut (s := ⟨some ⟨b, off, none⟩, n, cap⟩) pt3 n cap (by omega) (Nat.le_refl _) (by omega) (Nat.le_refl _)
          have hsl : ∀ W, (Instr.slice 22 (.slice (some ⟨b, off, none⟩) n cap) (some (.int .i64 (pt3 : Int))) none none).run Try.prog W = .ok (Sl.cut ⟨some ⟨b, off, none⟩, n, cap⟩ pt3 n cap).v W := fun W => slice_from ⟨some ⟨b, off, none⟩, n, cap⟩ pt3 W (by dsimp only; omega)
          have htk : bs.take n = bs := List.take_of_length_le (by rw [HL.out]; exact Nat.le_refl _)
          rw [htk] at hcut
          have hcl := hcut.len
          rw [List.length_drop, HL.out] at hcl
          generalize (Sl.cut ⟨some ⟨b, off, none⟩, n, cap⟩ pt3 n cap) = p9 at *
          obtain ⟨p9a, p9n, p9c⟩ := p9
          dsimp only [Sl.v] at hsl hcut hcl
          have hpn : 0 + p9n ≤ 1000000 := by have := HBIG.out; omega
          have HCUT := Lib.hid hcut
          have HCL := Lib.hid hcl
          clear hcut htk hcl hn7 s0 s1 s2 s3 s4 s5 s6 s7 s8
          go_wp2_with fail
          refine wp_region_held_drew (S := fun _ => True) (by kernel_rfl) trivial (fun hHeld => ?_)
          refine wpAnyH_take (i := 0) (oi := _) (v := ?_) rfl (by kernel_rfl) (by kernel_rfl) (by kernel_rfl) (fun _ _ _ h => h) (Or.inl ⟨by rfl, ?_⟩) (by assumption) ?_
          rotate_left
          focus (intro w hSw; go_simp; (try with_reducible rfl))
          simp only [List.getElem_toArray, List.getElem_cons_succ, List.getElem_cons_zero, Act.put, List.setIfInBounds_toArray, List.set_cons_zero, List.set_cons_succ]
          refine wpAnyH_take (i := 2) (oi := _) (v := ?_) rfl (by kernel_rfl) (by kernel_rfl) (by kernel_rfl) (fun _ _ _ h => h) (Or.inl ⟨by rfl, ?_⟩) (by assumption) ?_
          rotate_left
          focus (intro w hSw; go_simp; (try with_reducible rfl))
          simp only [List.getElem_toArray, List.getElem_cons_succ, List.getElem_cons_zero, Act.put, List.setIfInBounds_toArray, List.set_cons_zero, List.set_cons_succ]
          refine wpAnyH_take (i := 3) (oi := _) (v := ?_) rfl (by kernel_rfl) (by kernel_rfl) (by kernel_rfl) (fun _ _ _ h => h) (Or.inl ⟨by rfl, ?_⟩) (by assumption) ?_
          rotate_left
          focus (intro w hSw; go_simp; (try with_reducible rfl))
          simp only [List.getElem_toArray, List.getElem_cons_succ, List.getElem_cons_zero, Act.put, List.setIfInBounds_toArray, List.set_cons_zero, List.set_cons_succ]
          refine wpAnyH_take (i := 4) (oi := _) (v := ?_) rfl (by kernel_rfl) (by kernel_rfl) (by kernel_rfl) (fun _ _ _ h => h) (Or.inl ⟨by rfl, ?_⟩) (by assumption) ?_
          rotate_left
          focus (intro w hSw; go_simp; (try with_reducible rfl))
          simp only [List.getElem_toArray, List.getElem_cons_succ, List.getElem_cons_zero, Act.put, List.setIfInBounds_toArray, List.set_cons_zero, List.set_cons_succ]
          refine wpAnyH_take (i := 5) (oi := _) (v := ?_) rfl (by kernel_rfl) (by kernel_rfl) (by kernel_rfl) (fun _ _ _ h => h) (Or.inl ⟨by rfl, ?_⟩) (by assumption) ?_
          rotate_left
          focus (intro w hSw; go_simp; (try with_reducible rfl))
          simp only [List.getElem_toArray, List.getElem_cons_succ, List.getElem_cons_zero, Act.put, List.setIfInBounds_toArray, List.set_cons_zero, List.set_cons_succ]
          refine wpAnyH_take (i := 6) (oi := _) (v := ?_) rfl (by kernel_rfl) (by kernel_rfl) (by kernel_rfl) (fun _ _ _ h => h) (Or.inl ⟨by rfl, ?_⟩) (by assumption) ?_
          rotate_left
          focus (intro w hSw; go_simp; (try with_reducible rfl))
          simp only [List.getElem_toArray, List.getElem_cons_succ, List.getElem_cons_zero, Act.put, List.setIfInBounds_toArray, List.set_cons_zero, List.set_cons_succ]
          refine wpAnyH_ready (rs := [1]) (by kernel_rfl) (by simp) ?_
          refine AllReadyH.cons (o := _) rfl (fun K hK => ?_) AllReadyH.nil
          go_simp
          refine hK.out _ _ ?_ (fun hHeld => ?_)
          focus exact trivial
          clear hK K
          (try simp only [List.getElem_toArray, List.getElem_cons_succ, List.getElem_cons_zero, Act.put, List.setIfInBounds_toArray, List.set_cons_zero, List.set_cons_succ])
          refine wpAnyH_ready (rs := [7]) (by kernel_rfl) (by simp) ?_
          refine AllReadyH.cons (o := _) rfl (fun K hK => ?_) AllReadyH.nil
          refine step_append_rd rfl _ _ rfl (S + 1) nilS [] (OwnB.nil _ _) ⟨p9a, p9n, p9c⟩ (bs.drop pt3) (HCUT.out.below (HQ.out.below (below_drew1 (Below.refl _ _))).rp.bel) hpn HSB.out (by rfl) (by rfl) ?_
          intro b' w8 hown hb' hgr
          have hb8 : Below V.drew.heap.size V.drew w8 := (Below.refl _ _).grown hgr (Nat.le_refl _) (by intro q e; cases e)
          have hQ8 := (HQ.out.below (below_drew1 (Below.refl _ _))).below hb8
          have HG8 := Lib.hid ((HG.out.below (below_drew1 (Below.refl _ _))).below hb8)
          have HY8 := Lib.hid (row_agree (W' := w8) HY.out (fun q hq => hb8.block q (HY.out.lt q hq).2))
          have s9' := hQ8.sb.script.2.2.2.2.2.2.2.2.2
          have sf' := hQ8.sb.frozen
          have HZ := RQ.setZ hQ8.rp hQ8.sb hQ8.lt b'
          have HZ1 := Lib.hid HZ.1
          have HZ2 := Lib.hid HZ.2
          have HO8 := Lib.hid hown
          have HB8 := Lib.hid hb'
          have lt8 := hQ8.sb.lt
          clear hown hb' hgr hb8 hQ8 HZ
          refine hK.out _ _ ?_ (fun hHeld => ?_)
          focus exact trivial
          clear hK K
          (try simp only [List.getElem_toArray, List.getElem_cons_succ, List.getElem_cons_zero, Act.put, List.setIfInBounds_toArray, List.set_cons_zero, List.set_cons_succ])
          refine wpAnyH_take (i := 8) (oi := _) (v := ?_) rfl (by kernel_rfl) (by kernel_rfl) (by kernel_rfl) (fun _ _ _ h => h) (Or.inl ⟨by rfl, ?_⟩) (by assumption) ?_
          rotate_left
          focus (intro w hSw; go_simp; (try with_reducible rfl))
          simp only [List.getElem_toArray, List.getElem_cons_succ, List.getElem_cons_zero, Act.put, List.setIfInBounds_toArray, List.set_cons_zero, List.set_cons_succ]
          refine wpAnyH_ready (rs := [9]) (by kernel_rfl) (by simp) ?_
          refine AllReadyH.cons (o := _) rfl (fun K hK => ?_) AllReadyH.nil
          go_simp
          refine hK.out _ _ ?_ (fun hHeld => ?_)
          focus exact trivial
          clear hK K
          (try simp only [List.getElem_toArray, List.getElem_cons_succ, List.getElem_cons_zero, Act.put, List.setIfInBounds_toArray, List.set_cons_zero, List.set_cons_succ])
          refine wpAnyH_done (by kernel_rfl) ?_ _
          all_goals
            have HGZ := Lib.hid (HG8.out.agree (V := w8.setCell ⟨S, 9, none⟩ (.slice b'.a b'.n b'.cap)) (fun q hq hge => Below.heap_setCell w8 ⟨S, 9, none⟩ _ q (by show q ≠ S; omega)))
            have HYZ := Lib.hid (row_agree (W' := w8.setCell ⟨S, 9, none⟩ (.slice b'.a b'.n b'.cap)) HY8.out (fun q hq => Below.heap_setCell w8 ⟨S, 9, none⟩ _ q (by have := (HY8.out.lt q hq).1; show q ≠ S; omega)))
            have HOZ := Lib.hid (show OwnB (S + 1) b' (bs.drop pt3) (w8.setCell ⟨S, 9, none⟩ (.slice b'.a b'.n b'.cap)) from row_agree (W' := w8.setCell ⟨S, 9, none⟩ (.slice b'.a b'.n b'.cap)) HO8.out (fun q hq => Below.heap_setCell w8 ⟨S, 9, none⟩ _ q (by have := (own_low HO8.out q hq).1; show q ≠ S; omega)))
            have hzn : b'.n = p9n := by rw [HB8.out]; exact Nat.zero_add _
            have hAS : w.heap.size < S := by have := HZ1.out.ne; have := HQ.out.lt; omega
            rename (∀ (a : Act) (w_1 : World), Code.wp Try.prog _ _ a w_1 → _) => hK1
            refine hK1 _ _ ?_
            clear hK1
            refine rparse_end w _ S (ofB bs) X ⟨Ya, Yn, Yc⟩ b' p HZ1.out.ans HZ2.out HZ1.out.bel (Nat.ne_of_lt hAS) (fun h8 => ?_) (fun h8 => ?_)
            · rw [← HP.out]
              exact parse8 H2.out (by have := H4.out; omega) (by rw [← HMM.out]; have := H6.out; omega) (by rw [hnn.out, ← HMM.out]; have := HL.out; have := EU3.out; have := H7.out; omega) (by rw [hnn.out, ← HMM.out]; have := HL.out; have := EU3.out; have := HCL.out; omega)
            · have hp9 : p = .ok (theS bs) := by rw [← HP.out]; exact parse9 H2.out (by have := H4.out; omega) (by rw [← HMM.out]; have := H6.out; omega) (by rw [hnn.out, ← HMM.out]; have := HL.out; have := EU3.out; have := H7.out; omega) (by rw [hnn.out, ← HMM.out]; have := HL.out; have := EU3.out; have := HCL.out; omega)
              refine ⟨theS bs, hp9, rfl, ?_⟩
              have hgA := put10_grown (w8.setCell ⟨S, 9, none⟩ (.slice b'.a b'.n b'.cap)) w.heap.size (ofB bs) X ⟨Ya, Yn, Yc⟩ b'
              have hag : ∀ q, q < (w8.setCell ⟨S, 9, none⟩ (.slice b'.a b'.n b'.cap)).heap.size → S + 1 ≤ q → (put10 (w8.setCell ⟨S, 9, none⟩ (.slice b'.a b'.n b'.cap)) w.heap.size (ofB bs) X ⟨Ya, Yn, Yc⟩ b').heap[q]? = (w8.setCell ⟨S, 9, none⟩ (.slice b'.a b'.n b'.cap)).heap[q]? := fun q hq hge => hgA.block q hq (by intro e; have := Option.some.inj e; omega)
              have hTk : (byteAt bs 1).toNat = k := by rw [hTT]; simp
              refine parsed_sv HBY.out (HP.out.trans hp9) ?_ ?_ ?_
              · have := (HGZ.out.agree hag).rdl
                simp only [theS]
                rw [hTk, hnn.out]
                exact this
              · have := (Reads.of_own (s := ⟨Ya, Yn, Yc⟩) (row_agree HYZ.out (fun q hq => hag q (HYZ.out.lt q hq).2 (HYZ.out.lt q hq).1))).1
                simp only [theS]
                rw [hnn.out, ← HMM.out, ← HE2.out]
                exact this
              · have hO : OwnB (S + 1) b' (bs.drop pt3) (put10 (w8.setCell ⟨S, 9, none⟩ (.slice b'.a b'.n b'.cap)) w.heap.size (ofB bs) X ⟨Ya, Yn, Yc⟩ b') := row_agree HOZ.out (fun q hq => hag q (own_low HOZ.out q hq).2 (own_low HOZ.out q hq).1)
                simp only [theS]
                rw [hnn.out, ← HMM.out, ← EU3.out]
                exact hO.rd (fun i => by rw [byteAt_drop]; exact HBY.out _)
end Go.Proofs.Ytdmdmkgpnelkjaa
