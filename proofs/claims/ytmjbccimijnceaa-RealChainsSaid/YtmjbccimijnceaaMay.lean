/- May, of the program. -/
import Derived.Test.YtmjbccimijnceaaLeft
namespace Go.Proofs.Ytmjbccimijnceaa
open Go.ChangeShapes Go.WideShapes Go.ChangeAt Go.RowKit
set_option linter.unusedVariables false
attribute [local go_sem] Oper.semAt_some wide_fn

theorem info4 : (Try.prog.info? 4).map (fun i => (i.zero, i.size, i.bytes)) = some (some (.bool false), 1, 1) := by kernel_rfl
theorem made (n : Nat) (w : World) (h : n ≤ 1000) : (Instr.makeSlice 34 (.int .i64 n) (.int .i64 n)).run Try.prog w = .ok (.slice (some ⟨w.heap.size, 0, none⟩) n n) (w.alloc (.cells (bools (fl n [])).toArray 4)) := by
  obtain ⟨i0, hi, hz0, hz1, hz2⟩ := info_parts info4
  have := run_makeSlice (P := Try.prog) w 34 4 i0 (.bool false) Try.underlying34 hi hz0 .i64 .i64 n n (by omega) (by omega) (by rw [hz1]; simp; omega) (by rw [hz2]; omega) (by omega)
  rw [this]
  have hc : madeCells (Value.bool false).cells ((n : Int).toNat * i0.size) = (bools (fl n [])).toArray := by
    rw [hz1, fl_nil]
    unfold madeCells
    apply Array.ext
    · simp
    · intro j h1 h2
      simp [Value.cells, Nat.mod_one]
  rw [hc]
  simp

structure MayS (w : World) (n : Nat) (p : List Int) (o : Opr) (W : World) : Prop where
  bel : Below w.heap.size w W
  res : Blk W w.heap.size 4 #[.bool false]
  inn : Blk W (w.heap.size + 1) 4 (bools (fl n p)).toArray
  last : Blk W (w.heap.size + 2) 32 o.cs
theorem MayS.below {w : World} {n : Nat} {p : List Int} {o : Opr} {W V : World} (h : MayS w n p o W) (hb : Below W.heap.size W V) : MayS w n p o V :=
  ⟨below_then h.bel hb, h.res.below hb h.res.lt, h.inn.below hb h.inn.lt, h.last.below hb h.last.lt⟩

theorem OpAt.below {W V : World} {b o : Nat} {e : Opr} (h : OpAt W b o e) (hb : Below W.heap.size W V) : OpAt V b o e := by
  have e : ∀ i, (W.cell? ⟨b, i, none⟩).isSome = true → V.cell? ⟨b, i, none⟩ = W.cell? ⟨b, i, none⟩ := fun i hi => by
    obtain ⟨u, hu⟩ := Option.isSome_iff_exists.1 hi
    exact World.cell?_of_block (a := ⟨b, i, none⟩) (hb.block b (World.block_lt_of_cell? W _ hu))
  obtain ⟨x0, x1, x2, x3, x4, x5, x6, x7, x8⟩ := h
  exact ⟨(e _ (by rw [x0]; rfl)).trans x0, (e _ (by rw [x1]; rfl)).trans x1, (e _ (by rw [x2]; rfl)).trans x2, (e _ (by rw [x3]; rfl)).trans x3, (e _ (by rw [x4]; rfl)).trans x4, (e _ (by rw [x5]; rfl)).trans x5, (e _ (by rw [x6]; rfl)).trans x6, (e _ (by rw [x7]; rfl)).trans x7, (e _ (by rw [x8]; rfl)).trans x8⟩
theorem OpAt.far {W : World} {b o : Nat} {e : Opr} (h : OpAt W b o e) {p : Addr} (hp : b ≠ p.block) (u : Value) : OpAt (W.setCell p u) b o e := by
  have e : ∀ i, (W.setCell p u).cell? ⟨b, i, none⟩ = W.cell? ⟨b, i, none⟩ := fun i => World.cell?_of_block (a := ⟨b, i, none⟩) (Below.heap_setCell _ _ _ _ hp)
  obtain ⟨x0, x1, x2, x3, x4, x5, x6, x7, x8⟩ := h
  exact ⟨(e _).trans x0, (e _).trans x1, (e _).trans x2, (e _).trans x3, (e _).trans x4, (e _).trans x5, (e _).trans x6, (e _).trans x7, (e _).trans x8⟩
theorem MayS.set {w : World} {n : Nat} {p : List Int} {o : Opr} {W : World} (h : MayS w n p o W) {m : Nat} (hm : m < n) : MayS w n (p ++ [(m : Int)]) o (W.setCell ⟨w.heap.size + 1, m, none⟩ (.bool true)) := by
  refine ⟨h.bel.setCell (by simp) _, h.res.far (by simp) _, ?_, h.last.far (by simp) _⟩
  have := h.inn.set m (.bool true)
  rw [← fl_set (n := n) (p := p) (x := m) (by omega) (by omega)]
  simpa using this
theorem blk_set {W : World} {g : Nat} {t : TypeId} {cs cs' : Array Value} (h : Blk W g t cs) (i : Nat) (u : Value) (e : cs.setIfInBounds i u = cs') : Blk (W.setCell ⟨g, i, none⟩ u) g t cs' := e ▸ h.set i u
theorem blk_set9 {V : World} {B : Nat} {o : Opr} (h : Blk V B 32 o.cs) (v : Opr) :
    Blk (((((((((V.setCell ⟨B, 0, none⟩ (.int .i64 v.t)).setCell ⟨B, 1, none⟩ (.int .i64 v.c.op)).setCell ⟨B, 2, none⟩ (.int .u32 v.c.key)).setCell ⟨B, 3, none⟩ (.int .u32 v.c.val)).setCell ⟨B, 4, none⟩ (.int .i64 v.a.op)).setCell ⟨B, 5, none⟩ (.int .u32 v.a.key)).setCell ⟨B, 6, none⟩ (.int .u32 v.a.val)).setCell ⟨B, 7, none⟩ (.int .i64 v.f)).setCell ⟨B, 8, none⟩ (.int .i64 v.o)) B 32 v.cs := by
  have h0 := blk_set h 0 (.int .i64 v.t) rfl
  have h1 := blk_set h0 1 (.int .i64 v.c.op) rfl
  have h2 := blk_set h1 2 (.int .u32 v.c.key) rfl
  have h3 := blk_set h2 3 (.int .u32 v.c.val) rfl
  have h4 := blk_set h3 4 (.int .i64 v.a.op) rfl
  have h5 := blk_set h4 5 (.int .u32 v.a.key) rfl
  have h6 := blk_set h5 6 (.int .u32 v.a.val) rfl
  have h7 := blk_set h6 7 (.int .i64 v.f) rfl
  exact blk_set h7 8 (.int .i64 v.o) (by simp)
theorem MayS.store {w : World} {n : Nat} {p : List Int} {o : Opr} {W : World} (h : MayS w n p o W) (q : Nat) (v : Opr) :
    MayS w n p v ((((((((((W.drewN q).setCell ⟨w.heap.size + 1 + 1, 0, none⟩ (.int .i64 v.t)).setCell ⟨w.heap.size + 1 + 1, 1, none⟩ (.int .i64 v.c.op)).setCell ⟨w.heap.size + 1 + 1, 2, none⟩ (.int .u32 v.c.key)).setCell ⟨w.heap.size + 1 + 1, 3, none⟩ (.int .u32 v.c.val)).setCell ⟨w.heap.size + 1 + 1, 4, none⟩ (.int .i64 v.a.op)).setCell ⟨w.heap.size + 1 + 1, 5, none⟩ (.int .u32 v.a.key)).setCell ⟨w.heap.size + 1 + 1, 6, none⟩ (.int .u32 v.a.val)).setCell ⟨w.heap.size + 1 + 1, 7, none⟩ (.int .i64 v.f)).setCell ⟨w.heap.size + 1 + 1, 8, none⟩ (.int .i64 v.o)) := by
  have hd := h.below (below_drewN (Below.refl W.heap.size W) q)
  generalize W.drewN q = V at *
  refine ⟨?_, ?_, ?_, ?_⟩
  · refine ((((((((hd.bel.setCell ?_ _).setCell ?_ _).setCell ?_ _).setCell ?_ _).setCell ?_ _).setCell ?_ _).setCell ?_ _).setCell ?_ _).setCell ?_ _ <;> (simp; omega)
  · refine ((((((((hd.res.far ?_ _).far ?_ _).far ?_ _).far ?_ _).far ?_ _).far ?_ _).far ?_ _).far ?_ _).far ?_ _ <;> (simp; omega)
  · refine ((((((((hd.inn.far ?_ _).far ?_ _).far ?_ _).far ?_ _).far ?_ _).far ?_ _).far ?_ _).far ?_ _).far ?_ _ <;> (simp)
  · have h9 := hd.last
    clear hd h
    have e : w.heap.size + 2 = w.heap.size + 1 + 1 := rfl
    rw [e] at h9 ⊢
    generalize w.heap.size + 1 + 1 = B at *
    exact blk_set9 h9 v
/-- Amid a round of May. -/
structure AtM (w : World) (n : Nat) (p : List Int) (o : Opr) (b off m : Nat) (v : Opr) (W : World) : Prop where
  s : MayS w n p o W
  op : OpAt W b off v
  not_ : W.cell? ⟨w.heap.size + 1, m, none⟩ = some (.bool false)
theorem AtM.below {w : World} {n : Nat} {p : List Int} {o : Opr} {b off m : Nat} {v : Opr} {W V : World} (h : AtM w n p o b off m v W) (hb : Below W.heap.size W V) : AtM w n p o b off m v V :=
  ⟨h.s.below hb, h.op.below hb, (World.cell?_of_block (a := ⟨w.heap.size + 1, m, none⟩) (hb.block _ (World.block_lt_of_cell? W _ h.not_))).trans h.not_⟩
theorem AtM.cells {w : World} {n : Nat} {p : List Int} {o : Opr} {b off m : Nat} {v : Opr} {W : World} (h : AtM w n p o b off m v W) :
    W.cell? ⟨b, off, none⟩ = some (.int .i64 v.t) ∧ W.cell? ⟨b, off + 1, none⟩ = some (.int .i64 v.c.op) ∧ W.cell? ⟨b, off + 2, none⟩ = some (.int .u32 v.c.key) ∧ W.cell? ⟨b, off + 3, none⟩ = some (.int .u32 v.c.val) ∧
    W.cell? ⟨b, off + 4, none⟩ = some (.int .i64 v.a.op) ∧ W.cell? ⟨b, off + 5, none⟩ = some (.int .u32 v.a.key) ∧ W.cell? ⟨b, off + 6, none⟩ = some (.int .u32 v.a.val) ∧ W.cell? ⟨b, off + 7, none⟩ = some (.int .i64 v.f) ∧ W.cell? ⟨b, off + 8, none⟩ = some (.int .i64 v.o) ∧
    W.cell? ⟨w.heap.size + 1 + 1, 0, none⟩ = some (.int .i64 o.t) ∧ W.cell? ⟨w.heap.size + 1 + 1, 1, none⟩ = some (.int .i64 o.c.op) ∧ W.cell? ⟨w.heap.size + 1 + 1, 2, none⟩ = some (.int .u32 o.c.key) ∧ W.cell? ⟨w.heap.size + 1 + 1, 3, none⟩ = some (.int .u32 o.c.val) ∧
    W.cell? ⟨w.heap.size + 1 + 1, 4, none⟩ = some (.int .i64 o.a.op) ∧ W.cell? ⟨w.heap.size + 1 + 1, 5, none⟩ = some (.int .u32 o.a.key) ∧ W.cell? ⟨w.heap.size + 1 + 1, 6, none⟩ = some (.int .u32 o.a.val) ∧ W.cell? ⟨w.heap.size + 1 + 1, 7, none⟩ = some (.int .i64 o.f) ∧ W.cell? ⟨w.heap.size + 1 + 1, 8, none⟩ = some (.int .i64 o.o) ∧
    W.cell? ⟨w.heap.size + 1, m, none⟩ = some (.bool false) := by
  obtain ⟨x0, x1, x2, x3, x4, x5, x6, x7, x8⟩ := h.op
  obtain ⟨y0, y1, y2, y3, y4, y5, y6, y7, y8⟩ := h.s.last.opr
  exact ⟨x0, x1, x2, x3, x4, x5, x6, x7, x8, y0, y1, y2, y3, y4, y5, y6, y7, y8, h.not_⟩

/-- A variable that is owned alone. -/
def boxJ (b : Nat) (t : TypeId) (P : List Int → Value → Prop) (pre : List Int) (O : Nat → Prop) (W : World) : Prop := ∃ v, O = (fun k => k = b) ∧ Boxed W b t v ∧ P pre v
theorem boxJ_fits (b : Nat) (t : TypeId) (P : List Int → Value → Prop) : Fits (boxJ b t P) := by
  rintro s O W ⟨v, rfl, h, hp⟩
  exact ⟨fun k hk => by subst hk; exact h.lt, fun W' hW => ⟨v, rfl, (hW _ rfl).trans h, hp⟩⟩

/-- What May hands back. -/
def Mayed (l : List Opr) (order : List Int) (w : World) (e : Ending) (w' : World) : Prop := (∃ b : Bool, e = .returned (.bool b) ∧ (b = true ↔ Mays l order)) ∧ Below w.heap.size w w'
set_option maxRecDepth 100000 in
set_option maxHeartbeats 1000000 in
theorem may_any (y s : Sl) (l : List Opr) (order : List Int) (w : World) (hy : Reads w y 9 (encO l)) (hs : Reads w s 1 (ints order)) (hn : l.length ≤ 1000) :
    Calls Try.prog 8 #[y.v, s.v] w (Mayed l order w) := by
  have hny := hy.lenO
  have hns := hs.lenI
  have hroom := hs.room
  simp only [maxLen] at hroom
  have hmk := fun W => made l.length W hn
  have HY := Lib.hid hy
  have HS := Lib.hid hs
  obtain ⟨ya, yn, yc⟩ := y
  obtain ⟨sa, sn, sc⟩ := s
  simp only at hny hns hroom
  subst hny hns
  clear hy hs
  refine (callsIn_wide (n := 9)).1 ?_
  refine callsIn_of_wp_marks Try.func8 rfl trivial ?_ rfl
  simp only [Sl.v, Try.ntmps8, List.size_toArray, List.length_cons, List.length_nil, Nat.reduceAdd, Nat.reduceSub, Array.replicate_succ, Array.replicate_zero, List.push_toArray, List.append_toArray, List.nil_append, List.cons_append]
  refine wpIn_wide.2 ?_
  go_wp2_with fail
  have M0 : MayS w l.length [] ⟨0, zt, zt, -9223372036854775808, 0⟩ (((w.alloc (.cells #[.bool false] 4)).alloc (.cells (bools (fl l.length [])).toArray 4)).alloc (.cells (Opr.cs ⟨0, zt, zt, -9223372036854775808, 0⟩) 32)) := by
    have b0 := Blk.new w 4 #[.bool false]
    have b1 := Blk.new (w.alloc (.cells #[.bool false] 4)) 4 (bools (fl l.length [])).toArray
    have b2 := Blk.new ((w.alloc (.cells #[.bool false] 4)).alloc (.cells (bools (fl l.length [])).toArray 4)) 32 (Opr.cs ⟨0, zt, zt, -9223372036854775808, 0⟩)
    rw [World.size_alloc] at b1
    rw [World.size_alloc, World.size_alloc] at b2
    exact ⟨(((Below.refl _ _).alloc (Nat.le_refl _) _).alloc (by simp) _).alloc (by simp; omega) _, (b0.alloc _).alloc _, b1.alloc _, b2⟩
  have HM0 := Lib.hid M0
  clear M0 hmk
  generalize (((w.alloc (.cells #[.bool false] 4)).alloc (.cells (bools (fl l.length [])).toArray 4)).alloc (.cells (Opr.cs ⟨0, zt, zt, -9223372036854775808, 0⟩) 32)) = W0 at *
  go_loopw [15] (fun i wr => ∃ (k : Nat) (o : Opr), k ≤ order.length ∧ i = .int .i64 k ∧ Hid (MayS w l.length (order.take k) o wr ∧ LastF l (order.take k) o.f ∧ Okp l (order.take k))) (fun i wr => order.length - (intOf i).toNat)
  case atStart => exact ⟨0, ⟨0, zt, zt, -9223372036854775808, 0⟩, by omega, rfl, Lib.hid ⟨HM0.out, lastF_nil l, okp_nil l⟩⟩
  case round =>
    obtain ⟨k, o, hk, rfl, HI⟩ := hrel
    by_cases hlt : k < order.length
    · obtain ⟨b, off, ea, hcell⟩ := HS.out.at_ (by simp; omega)
      simp only at ea
      subst ea
      have hx : order[k]? = some (order[k]) := by simp [hlt]
      obtain ⟨x, hxx⟩ : ∃ x, x = order[k] := ⟨_, rfl⟩
      have htk : order.take (k + 1) = order.take k ++ [x] := by rw [List.take_succ_eq_append_getElem hlt, hxx]
      have hc1 := (HI.out.1.bel.block b (World.block_lt_of_cell? w _ (hcell k (.int .i64 x) (by simp [hlt, hxx]))))
      have c1 : wr.cell? ⟨b, off + k, none⟩ = some (.int .i64 x) := by
        rw [World.cell?_of_block (a := ⟨b, off + k, none⟩) hc1]
        exact hcell k (.int .i64 x) (by simp [hlt, hxx])
      have HT := Lib.hid htk
      have gk : (k : Int) < order.length := by omega
      clear hc1 hcell hx hxx htk
      have NO : Hid (¬ Okp l (order.take k ++ [x]) → ∀ W, Below w.heap.size w W → Mayed l order w (.returned (.bool false)) W) := Lib.hid fun hn W hb =>
        ⟨⟨false, rfl, by simp; intro hm; exact hn (HT.out ▸ hm.1.prefix (List.take_prefix _ _))⟩, hb⟩
      have res := HI.out.1.res
      have c4 := res.cell 0
      have f4 := res.frozen 0
      have HB : Hid (∀ u W, Below wr.heap.size wr W → Below w.heap.size w (W.setCell ⟨w.heap.size, 0, none⟩ u)) := Lib.hid fun u W hb => (below_then HI.out.1.bel hb).setCell (by simp) _
      have HR : Hid (∀ W, Below wr.heap.size wr W → (W.setCell ⟨w.heap.size, 0, none⟩ (.bool false)).cell? ⟨w.heap.size, 0, none⟩ = some (.bool false)) := Lib.hid fun W hb => by
        have := ((res.below hb res.lt).set 0 (.bool false)).cell 0
        simpa using this
      by_cases h0 : x < 0
      · clear res
        go_wp2_with fail
        go_quiet (fail)
        go_wp2
        have hc2 := HR.out (wr.drewN nq) (below_drewN (Below.refl _ _) nq)
        exact ⟨.bool false, by simp [results, Try.results8, go_sem, hc2], NO.out (fun h => by have := h.range x (by simp); omega) _ (HB.out _ _ (below_drewN (Below.refl _ _) _))⟩
      by_cases h1 : x ≥ l.length
      · clear res
        go_wp2_with fail
        go_quiet (fail)
        go_wp2
        have hc2 := HR.out (wr.drewN nq) (below_drewN (Below.refl _ _) nq)
        exact ⟨.bool false, by simp [results, Try.results8, go_sem, hc2], NO.out (fun h => by have := h.range x (by simp); omega) _ (HB.out _ _ (below_drewN (Below.refl _ _) _))⟩
      obtain ⟨m, rfl⟩ : ∃ m : Nat, x = (m : Int) := ⟨x.toNat, by omega⟩
      have hm : m < l.length := by omega
      have inn := HI.out.1.inn
      have c5 : wr.cell? ⟨w.heap.size + 1, m, none⟩ = some (.bool (decide ((m : Int) ∈ order.take k))) := by
        rw [inn.cell]
        simp [fl, hm]
      have gm : (m : Int) < l.length := by omega
      have gm0 : decide (((m : Nat) : Int) < 0) = false := by simp
      have gm1 : decide (((m : Nat) : Int) ≥ (l.length : Int)) = false := by simp; omega
      by_cases h2 : (m : Int) ∈ order.take k
      · rw [decide_eq_true h2] at c5
        have H2 := Lib.hid h2
        clear res inn h2
        go_wp2_with fail
        go_quiet (fail)
        go_wp2
        have hc2 := HR.out (wr.drewN nq) (below_drewN (Below.refl _ _) nq)
        exact ⟨.bool false, by simp [results, Try.results8, go_sem, hc2], NO.out (fun h => (okp_snoc.1 h).2.2.1 H2.out) _ (HB.out _ _ (below_drewN (Below.refl _ _) _))⟩
      rw [decide_eq_false h2] at c5
      have H2 := Lib.hid h2
      obtain ⟨b2, off2, ea2, hop0⟩ := HY.out.opr (ith_lt hm)
      have hb2 : b2 < w.heap.size := World.block_lt_of_cell? w _ hop0.x0
      have hop := hop0.below HI.out.1.bel
      clear hop0
      simp only at ea2
      subst ea2
      have KA := Lib.hid fun W => ahead_any (ith l m) o W
      have S0 : AtM w l.length (order.take k) o b2 (off2 + m * 9) m (ith l m) wr.drew := AtM.below ⟨HI.out.1, hop, c5⟩ (below_drew (Below.refl _ _))
      have HP : Hid (LastF l (order.take k) o.f ∧ Okp l (order.take k)) := Lib.hid HI.out.2
      have HV : Hid (ith l m = ith l m) := Lib.hid rfl
      have gm2 : decide (l.length ≤ m) = false := by simp; omega
      clear res inn h2 HI c5 hop h1
      generalize hv : ith l m = v at *
      have HV2 := Lib.hid hv
      clear hv HV
      obtain ⟨vt, ⟨v1, v2, v3⟩, ⟨v4, v5, v6⟩, vf, vo⟩ := v
      obtain ⟨ot, ⟨o1, o2, o3⟩, ⟨o4, o5, o6⟩, of, oo⟩ := o
      generalize hq : ahd ⟨vt, ⟨v1, v2, v3⟩, ⟨v4, v5, v6⟩, vf, vo⟩ ⟨ot, ⟨o1, o2, o3⟩, ⟨o4, o5, o6⟩, of, oo⟩ = q at *
      have HQ := Lib.hid hq
      clear hq
      dsimp only [Opr.v] at *
      go_wp2_with fail
      go_region_held3 (fun W => W.cell? ⟨b2, off2 + m * 9, none⟩ = some (.int .i64 vt) ∧ W.cell? ⟨b2, off2 + m * 9 + 1, none⟩ = some (.int .i64 v1) ∧ W.cell? ⟨b2, off2 + m * 9 + 2, none⟩ = some (.int .u32 v2) ∧ W.cell? ⟨b2, off2 + m * 9 + 3, none⟩ = some (.int .u32 v3) ∧ W.cell? ⟨b2, off2 + m * 9 + 4, none⟩ = some (.int .i64 v4) ∧ W.cell? ⟨b2, off2 + m * 9 + 5, none⟩ = some (.int .u32 v5) ∧ W.cell? ⟨b2, off2 + m * 9 + 6, none⟩ = some (.int .u32 v6) ∧ W.cell? ⟨b2, off2 + m * 9 + 7, none⟩ = some (.int .i64 vf) ∧ W.cell? ⟨b2, off2 + m * 9 + 8, none⟩ = some (.int .i64 vo) ∧ W.cell? ⟨w.heap.size + 1 + 1, 0, none⟩ = some (.int .i64 ot) ∧ W.cell? ⟨w.heap.size + 1 + 1, 1, none⟩ = some (.int .i64 o1) ∧ W.cell? ⟨w.heap.size + 1 + 1, 2, none⟩ = some (.int .u32 o2) ∧ W.cell? ⟨w.heap.size + 1 + 1, 3, none⟩ = some (.int .u32 o3) ∧ W.cell? ⟨w.heap.size + 1 + 1, 4, none⟩ = some (.int .i64 o4) ∧ W.cell? ⟨w.heap.size + 1 + 1, 5, none⟩ = some (.int .u32 o5) ∧ W.cell? ⟨w.heap.size + 1 + 1, 6, none⟩ = some (.int .u32 o6) ∧ W.cell? ⟨w.heap.size + 1 + 1, 7, none⟩ = some (.int .i64 of) ∧ W.cell? ⟨w.heap.size + 1 + 1, 8, none⟩ = some (.int .i64 oo) ∧ W.cell? ⟨w.heap.size + 1, m, none⟩ = some (.bool false)) (first | exact AtM.cells (by assumption) | go_keep)
        ((go_at_call 6; refine (KA.out _).mono ?_; rintro e V' ⟨rfl, hb⟩; have S' := AtM.below (by assumption) hb; clear hb))
      have ST : Hid (AtM w l.length (order.take k) ⟨ot, ⟨o1, o2, o3⟩, ⟨o4, o5, o6⟩, of, oo⟩ b2 (off2 + m * 9) m ⟨vt, ⟨v1, v2, v3⟩, ⟨v4, v5, v6⟩, vf, vo⟩ V') := Lib.hid (by assumption)
      clear KA S0 S' HB HR c4 f4 c1
      have hn2 : Hid (q = false → Okp l (order.take k ++ [(m : Int)])) := Lib.hid fun e => by
        subst e
        refine okp_snoc.2 ⟨HP.out.2, ⟨by omega, gm⟩, H2.out, fun y hy => ?_⟩
        have := HP.out.1.no _ _ rfl HQ.out y hy
        unfold aheadAt
        rw [Int.toNat_natCast, HV2.out]
        exact this
      have hn3 : Hid (q = true → ¬ Okp l (order.take k ++ [(m : Int)])) := Lib.hid fun e h => by
        subst e
        obtain ⟨y, hy, e⟩ := (HP.out.1.ahead _ _ rfl).1 HQ.out
        have := (okp_snoc.1 h).2.2.2 y hy
        unfold aheadAt at this
        rw [Int.toNat_natCast, HV2.out, e] at this
        cases this
      clear H2 HQ
      cases q with
      | true =>
        have c7 := ST.out.s.res.cell 0
        have f7 := ST.out.s.res.frozen 0
        go_wp2
        have hc2 : (V'.setCell ⟨w.heap.size, 0, none⟩ (.bool false)).cell? ⟨w.heap.size, 0, none⟩ = some (.bool false) := by
          have := (ST.out.s.res.set 0 (.bool false)).cell 0
          simpa using this
        exact ⟨.bool false, by simp [results, Try.results8, go_sem, hc2], NO.out (hn3.out (by trivial)) _ (ST.out.s.bel.setCell (p := ⟨w.heap.size, 0, none⟩) (Nat.le_refl _) _)⟩
      | false =>
        have c8 := ST.out.not_
        have f8 := ST.out.s.inn.frozen m
        have M2 := ST.out.s.set hm
        have P2 := ST.out.op.far (p := ⟨w.heap.size + 1, m, none⟩) (by simp; omega) (.bool true)
        obtain ⟨z0, z1, z2, z3, z4, z5, z6, z7, z8⟩ := P2
        obtain ⟨y0, y1, y2, y3, y4, y5, y6, y7, y8⟩ := M2.last.opr
        have f9 : ∀ i, (V'.setCell ⟨w.heap.size + 1, m, none⟩ (.bool true)).frozen? ⟨w.heap.size + 1 + 1, i, none⟩ = false := M2.last.frozen
        have HM2 := Lib.hid M2
        have PZ : Hid (LastF l (order.take k) of ∧ ith l m = ⟨vt, ⟨v1, v2, v3⟩, ⟨v4, v5, v6⟩, vf, vo⟩ ∧ Okp l (order.take k ++ [(m : Int)]) ∧ order.take (k + 1) = order.take k ++ [(m : Int)]) := Lib.hid ⟨HP.out.1, HV2.out, hn2.out rfl, HT.out⟩
        clear M2 HP HV2 hn2 hn3 NO HT ST
        dsimp only at *
        by_cases hf : of < vf
        · go_wp2_with fail
          go_quiet (fail)
          go_wp2_with fail
          go_roundw
          case rel =>
            refine ⟨k + 1, ⟨vt, ⟨v1, v2, v3⟩, ⟨v4, v5, v6⟩, vf, vo⟩, by omega, by go_num, ?_⟩
            obtain ⟨hL, hv, hO, hT⟩ := PZ.out
            rw [hT]
            refine Lib.hid ⟨?_, ?_, hO⟩
            · exact HM2.out.store nq ⟨vt, ⟨v1, v2, v3⟩, ⟨v4, v5, v6⟩, vf, vo⟩
            · have := hL.more (x := (m : Int)) (by rw [Int.toNat_natCast, hv]; exact hf)
              rw [Int.toNat_natCast, hv] at this
              exact this
          case measure => simp [intOf]; omega
        · go_wp2_with fail
          go_quiet (fail)
          go_wp2_with fail
          go_roundw
          case rel =>
            refine ⟨k + 1, ⟨ot, ⟨o1, o2, o3⟩, ⟨o4, o5, o6⟩, of, oo⟩, by omega, by go_num, ?_⟩
            obtain ⟨hL, hv, hO, hT⟩ := PZ.out
            rw [hT]
            refine Lib.hid ⟨HM2.out.below (below_drewN (Below.refl _ _) _), hL.less (x := (m : Int)) (by rw [Int.toNat_natCast, hv]; show ¬ of < vf; omega), hO⟩
          case measure => simp [intOf]; omega
    · obtain rfl : k = order.length := by omega
      have hI := HI.out
      rw [List.take_length] at hI
      have M := hI.1
      have hRd : Reads wr ⟨some ⟨w.heap.size + 1, 0, none⟩, l.length, l.length⟩ 1 (bools (fl l.length order)) :=
        ⟨by simp [fl], ⟨Nat.le_refl _, by simp only [maxLen]; omega⟩, (by intro e; cases e), .inr ⟨_, _, rfl, fun j u hj => by
          rw [Nat.zero_add, M.inn.cell]
          simpa using hj⟩⟩
      have KM := miss_any ⟨ya, l.length, yc⟩ ⟨some ⟨w.heap.size + 1, 0, none⟩, l.length, l.length⟩ l (fl l.length order) wr (HY.out.agree fun k hk _ => M.bel.block k hk) hRd (fl_len _ _)
      have HI2 := Lib.hid hI
      have KM' := Lib.hid KM
      clear hI KM M hRd HI
      go_wp2_with (go_at_call 12; refine KM'.out.mono ?_; rintro e w1 ⟨g, lb, C, rfl, eg, hT, hC, hb1⟩)
      have M1 := HI2.out.1.below hb1
      have bx : Boxed w1 w.heap.size 4 (.bool false) := M1.res
      have HM1 := Lib.hid (show Below w.heap.size w w1 ∧ w.heap.size + 2 < w1.heap.size from ⟨M1.bel, M1.last.lt⟩)
      have HOk := Lib.hid HI2.out.2.2
      have hCO : ∀ k, C k → ¬ (k = w.heap.size) := fun k hk e => by
        subst e
        rcases hC _ hk with (h | h) | h
        · have := Reads.row_lt HY.out (by decide) h; omega
        · have := h.2
          simp [Value.ownBlock] at this
        · have := HI2.out.1.last.lt; omega
      clear M1 KM' HI2 hb1 hC
      refine (wpIn_wide (n := 9)).1 ?_
      refine wp_range (gf := g) (lb := lb) rfl eg hT (fun _ => rfl) (boxJ w.heap.size 4 (fun pre v => pre = [] ∧ v = .bool false)) (fun c => boxJ w.heap.size 4 (fun pre v => c = .ret ∧ pre ≠ [] ∧ v = .bool false)) (boxJ_fits _ _ _) (fun _ => boxJ_fits _ _ _)
        (fun k => k = w.heap.size) ⟨_, rfl, bx, rfl, rfl⟩ hCO ?a1 ?assign ?body ?done ?stop
      case assign =>
        intro l x W K hK
        refine wpIn_skip ?_
        simp [encI, Exit.then]
        exact hK
      case body =>
        rintro l pre x O W hpre hk hL ⟨v, rfl, hv, rfl, rfl⟩
        have hc := hv.cell
        have hf := hv.frozen
        gi_wp2
        exact ⟨fun k => k = w.heap.size, (Keeps.refl (fun k => k = w.heap.size) W).setCell (p := ⟨w.heap.size, 0, none⟩) (.inl rfl) _, Later.refl _ _, _, rfl, hv.set _, rfl, by simp, rfl⟩
      case done =>
        rintro D O W hD hnD hk hL ⟨v, rfl, hv, hx, rfl⟩ hK
        have hc := hv.cell
        have hf := hv.frozen
        have hB : Below w.heap.size w ((W.setCell ⟨w.heap.size, 0, none⟩ (.bool true)).putObj D (.deferred none)) := HM1.out.1.trans ((((hk.setCell (p := ⟨w.heap.size, 0, none⟩) (.inl rfl) (.bool true)).putObj (.inr hD) (.deferred none))).below (B := w.heap.size) (by have := HM1.out.2; omega) (fun k h => by omega))
        have hv2 : Boxed ((W.setCell ⟨w.heap.size, 0, none⟩ (.bool true)).putObj D (.deferred none)) w.heap.size 4 (.bool true) := (World.putObj_heap_other (fun e => hnD e.symm)).trans (hv.set _)
        have hK2 := (KeepsOthers.setCell W ⟨w.heap.size, 0, none⟩ (.bool true)).same D _ hK rfl
        have hc2 := hv2.cell
        have hM : Mayed l order w (.returned (.bool true)) ((W.setCell ⟨w.heap.size, 0, none⟩ (.bool true)).putObj D (.deferred none)) := ⟨⟨true, rfl, by simp; exact ⟨HOk.out, miss_none.1 hx⟩⟩, hB⟩
        go_wp2
        refine ⟨by simp, .inl ⟨_, _, rfl, run_takeDeferred hK2, ?_⟩⟩
        exact ⟨.bool true, by simp [results, Try.results8, go_sem, hc2], hM⟩
      case stop =>
        rintro D c pre O W hD hnD hk hL hpre ⟨v, rfl, hv, rfl, hx, rfl⟩ hK
        have hB : Below w.heap.size w (W.putObj D (.deferred none)) := HM1.out.1.trans ((hk.putObj (.inr hD) (.deferred none)).below (B := w.heap.size) (by have := HM1.out.2; omega) (fun k h => by omega))
        have hv2 : Boxed (W.putObj D (.deferred none)) w.heap.size 4 (.bool false) := (World.putObj_heap_other (fun e => hnD e.symm)).trans hv
        have hc2 := hv2.cell
        have hxs : missL l (fl l.length order) ≠ [] := fun e => by rw [e] at hpre; exact hx (List.prefix_nil.1 hpre)
        have hM : Mayed l order w (.returned (.bool false)) (W.putObj D (.deferred none)) := ⟨⟨false, rfl, by simp; exact fun h => hxs (miss_none.2 h.2)⟩, hB⟩
        refine wpIn_wide.2 ?_
        go_wp2
        refine ⟨by simp, .inl ⟨_, _, rfl, run_takeDeferred hK, ?_⟩⟩
        exact ⟨.bool false, by simp [results, Try.results8, go_sem, hc2], hM⟩
end Go.Proofs.Ytmjbccimijnceaa
