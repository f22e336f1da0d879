/- What the rows list beside the limits; the words of a text. -/
import Derived.Test.YtdhdomeckloedaaDoorShows
import Derived.Test.YtdhdomeckloedaaDoorShelf
import Derived.Deep.MidRow
namespace Go.Proofs.YtdhdomeckloedaaDoor
open Go.ChangeShapes Go.WideShapes Go.ChangeAt Go.RowKit
set_option linter.unusedVariables false
set_option linter.unusedSimpArgs false

def thW : List UInt8 := [116, 104, 114, 101, 97, 100, 115]
def ndW : List UInt8 := [110, 111, 100, 101, 115]
def lvW : List UInt8 := [108, 101, 118, 101, 108]
def baW : List UInt8 := [98, 97, 116, 99, 104]
def prW : List UInt8 := [112, 114, 111, 98, 101, 115]
def scW : List UInt8 := [115, 99, 97, 110]
abbrev algs : Array Value := #[strV [109, 111, 117, 110, 100], strV [115, 117, 110, 100, 101, 108, 108], strV [108, 105, 110, 100, 101, 110]]
abbrev nams : Array Value := #[strV [116, 104, 114, 101, 97, 100, 115], strV [110, 111, 100, 101, 115], strV [108, 101, 118, 101, 108], strV [98, 97, 116, 99, 104], strV [112, 114, 111, 98, 101, 115], strV [115, 99, 97, 110]]
/-- What the rows list: the limits, what algorithms and parts are called; and the library's number. -/
structure Env (w : World) : Prop where
  lim : Lims w
  al : Glob w 2 algs
  na : Glob w 3 nams
  ml : ∃ m, w.cell? ⟨4, 0, none⟩ = some (.int .i64 m)
theorem Env.below {w w' : World} (h : Env w) (hb : Below w.heap.size w w') : Env w' := by
  obtain ⟨m, hm⟩ := h.ml
  exact ⟨h.lim.below hb (Nat.le_refl _), h.al.below hb h.al.lt, h.na.below hb h.na.lt, m, (hb.cell (World.block_lt_of_cell? w _ hm)).trans hm⟩

/-- The words of a configuration's text. -/
def words (c : Cf) : List (List UInt8) := [algT c.al, thW, decT c.th, ndW, decT c.nd, lvW, decT c.lv, baW, decT c.ba, prW, decT c.pr, scW, decT c.sc]
theorem join_words (c : Cf) : Lib.join (words c) [32] = showT c := by
  simp [words, Lib.join_cons, Lib.joinTail, showT, thW, ndW, lvW, baW, prW, scW, thS, ndS, lvS, baS, prS, scS]
abbrev e13 : Array Value := #[strV [], strV [], strV [], strV [], strV [], strV [], strV [], strV [], strV [], strV [], strV [], strV [], strV []]
/-- The text's array, when k of the parts behind the algorithm have been written. -/
def tx (c : Cf) (k : Nat) : Array Value := #[strV (algT c.al), strV (if 0 < k then thW else []), strV (if 0 < k then decT c.th else []), strV (if 1 < k then ndW else []), strV (if 1 < k then decT c.nd else []), strV (if 2 < k then lvW else []), strV (if 2 < k then decT c.lv else []), strV (if 3 < k then baW else []), strV (if 3 < k then decT c.ba else []), strV (if 4 < k then prW else []), strV (if 4 < k then decT c.pr else []), strV (if 5 < k then scW else []), strV (if 5 < k then decT c.sc else [])]
theorem tx_all (c : Cf) : tx c 6 = ((words c).map strV).toArray := by simp [tx, words]
/-- What a function answers that keeps a text's array in a box. -/
theorem text_results (U : World) (A : Nat) (vs : List Value) (hv : vs.length = 13) (a : Array Value) (ha : a.getD 2 undef = .pointer (some ⟨A, 0, none⟩)) (hB : Blk U A 52 vs.toArray) : (results Tryd.f24 a).run Tryd.prog U = .ok (.agg vs.toArray) U := by
  have ha' : a[2]?.getD undef = .pointer (some ⟨A, 0, none⟩) := by simpa using ha
  have hl : (loadVar 52 ⟨A, 0, none⟩).run Tryd.prog U = .ok (.agg vs.toArray) U :=
    run_loadVar_mid (P := Tryd.prog) U A 0 52 vs (.array 13 9) (fun j v h => by rw [Nat.zero_add, hB.cell]; simpa using h) (by kernel_rfl) rfl (by rw [hv]; kernel_rfl)
  simp only [results, Tryd.results24]
  simp [ha', asAddr, hl]
/-- Amid textOf: the row R, the text T, the answer's box A. -/
structure TextS (c : Cf) (w : World) (A R T : Nat) (t : Array Value) (W : World) : Prop where
  row : Blk W R 41 c.cs
  txt : Blk W T 52 t
  ans : Blk W A 52 e13
  bel : Below w.heap.size w W
theorem TextS.set {c : Cf} {w : World} {A R T : Nat} {t t' : Array Value} {W : World} (h : TextS c w A R T t W) (h1 : R ≠ T) (h2 : A ≠ T) (h3 : w.heap.size ≤ T) (i : Nat) (u : Value) (e : t.setIfInBounds i u = t') : TextS c w A R T t' (W.setCell ⟨T, i, none⟩ u) :=
  ⟨h.row.far h1 u, e ▸ h.txt.set i u, h.ans.far h2 u, h.bel.setCell h3 u⟩
theorem index_name0 (v0 v1 v2 v3 v4 v5 : Value) (w : World) : (Instr.index 61 (.agg #[v0, v1, v2, v3, v4, v5]) (.int .i64 0)).run Tryd.prog w = .ok v0 w := by
  simp [Instr.index, run_underlying Tryd.underlying61, asIntOf, go_sem]
theorem index_name1 (v0 v1 v2 v3 v4 v5 : Value) (w : World) : (Instr.index 61 (.agg #[v0, v1, v2, v3, v4, v5]) (.int .i64 1)).run Tryd.prog w = .ok v1 w := by
  simp [Instr.index, run_underlying Tryd.underlying61, asIntOf, go_sem]
theorem index_name2 (v0 v1 v2 v3 v4 v5 : Value) (w : World) : (Instr.index 61 (.agg #[v0, v1, v2, v3, v4, v5]) (.int .i64 2)).run Tryd.prog w = .ok v2 w := by
  simp [Instr.index, run_underlying Tryd.underlying61, asIntOf, go_sem]
theorem index_name3 (v0 v1 v2 v3 v4 v5 : Value) (w : World) : (Instr.index 61 (.agg #[v0, v1, v2, v3, v4, v5]) (.int .i64 3)).run Tryd.prog w = .ok v3 w := by
  simp [Instr.index, run_underlying Tryd.underlying61, asIntOf, go_sem]
theorem index_name4 (v0 v1 v2 v3 v4 v5 : Value) (w : World) : (Instr.index 61 (.agg #[v0, v1, v2, v3, v4, v5]) (.int .i64 4)).run Tryd.prog w = .ok v4 w := by
  simp [Instr.index, run_underlying Tryd.underlying61, asIntOf, go_sem]
theorem index_name5 (v0 v1 v2 v3 v4 v5 : Value) (w : World) : (Instr.index 61 (.agg #[v0, v1, v2, v3, v4, v5]) (.int .i64 5)).run Tryd.prog w = .ok v5 w := by
  simp [Instr.index, run_underlying Tryd.underlying61, asIntOf, go_sem]

set_option maxRecDepth 100000 in
set_option maxHeartbeats 16000000 in
theorem textOf_ok (c : Cf) (w : World) (hE : Env w) (h : c.Ok) : Calls Tryd.prog 24 #[c.v] w fun e w' => e = .returned (.agg ((words c).map strV).toArray) ∧ Below w.heap.size w w' := by
  have HR := Lib.hid (rowOf_any c)
  obtain ⟨a0, a1, a2⟩ : w.cell? ⟨2, 0, none⟩ = some (strV [109, 111, 117, 110, 100]) ∧ w.cell? ⟨2, 1, none⟩ = some (strV [115, 117, 110, 100, 101, 108, 108]) ∧ w.cell? ⟨2, 2, none⟩ = some (strV [108, 105, 110, 100, 101, 110]) := ⟨hE.al.cell 0, hE.al.cell 1, hE.al.cell 2⟩
  have HE := fun W (hb : Below w.heap.size w W) => hE.below hb
  have h13 := sent_in c.al
  have KIth : ∀ W, Calls Tryd.prog 31 #[.int .i64 c.th] W fun e w' => e = .returned (strV (decT c.th)) ∧ w' = W := fun W => by
    have x0 := h.t0
    have x1 := h.t1
    obtain ⟨u, hu⟩ := Int.eq_ofNat_of_zero_le (show 0 ≤ c.th by omega)
    have e : decT c.th = Lib.decDigits u := by unfold decT; rw [hu]; rfl
    rw [e, hu]
    exact sh.strconv_Itoa_small u (by omega) W
  have KInd : ∀ W, Calls Tryd.prog 31 #[.int .i64 c.nd] W fun e w' => e = .returned (strV (decT c.nd)) ∧ w' = W := fun W => by
    have x0 := h.n0
    have x1 := h.n1
    obtain ⟨u, hu⟩ := Int.eq_ofNat_of_zero_le (show 0 ≤ c.nd by omega)
    have e : decT c.nd = Lib.decDigits u := by unfold decT; rw [hu]; rfl
    rw [e, hu]
    exact sh.strconv_Itoa_small u (by omega) W
  have KIlv : ∀ W, Calls Tryd.prog 31 #[.int .i64 c.lv] W fun e w' => e = .returned (strV (decT c.lv)) ∧ w' = W := fun W => by
    have x0 := h.l0
    have x1 := h.l1
    obtain ⟨u, hu⟩ := Int.eq_ofNat_of_zero_le (show 0 ≤ c.lv by omega)
    have e : decT c.lv = Lib.decDigits u := by unfold decT; rw [hu]; rfl
    rw [e, hu]
    exact sh.strconv_Itoa_small u (by omega) W
  have KIba : ∀ W, Calls Tryd.prog 31 #[.int .i64 c.ba] W fun e w' => e = .returned (strV (decT c.ba)) ∧ w' = W := fun W => by
    have x0 := h.b0
    have x1 := h.b1
    obtain ⟨u, hu⟩ := Int.eq_ofNat_of_zero_le (show 0 ≤ c.ba by omega)
    have e : decT c.ba = Lib.decDigits u := by unfold decT; rw [hu]; rfl
    rw [e, hu]
    exact sh.strconv_Itoa_small u (by omega) W
  have KIpr : ∀ W, Calls Tryd.prog 31 #[.int .i64 c.pr] W fun e w' => e = .returned (strV (decT c.pr)) ∧ w' = W := fun W => by
    have x0 := h.p0
    have x1 := h.p1
    obtain ⟨u, hu⟩ := Int.eq_ofNat_of_zero_le (show 0 ≤ c.pr by omega)
    have e : decT c.pr = Lib.decDigits u := by unfold decT; rw [hu]; rfl
    rw [e, hu]
    exact sh.strconv_Itoa_small u (by omega) W
  have KIsc : ∀ W, Calls Tryd.prog 31 #[.int .i64 c.sc] W fun e w' => e = .returned (strV (decT c.sc)) ∧ w' = W := fun W => by
    have x0 := h.s0
    have x1 := h.s1
    obtain ⟨u, hu⟩ := Int.eq_ofNat_of_zero_le (show 0 ≤ c.sc by omega)
    have e : decT c.sc = Lib.decDigits u := by unfold decT; rw [hu]; rfl
    rw [e, hu]
    exact sh.strconv_Itoa_small u (by omega) W
  obtain ⟨k, hk⟩ := Int.eq_ofNat_of_zero_le h.a0
  have hk3 : k = 0 ∨ k = 1 ∨ k = 2 := by have y := h.a1; omega
  clear h h13
  obtain ⟨al, th, nd, lv, ba, pr, sc⟩ := c
  dsimp only at *
  subst hk
  go_enter Tryd.func24, Tryd.ntmps24
  go_wp2_with fail
  refine (HR.out _).mono ?_
  rintro e V ⟨rfl, hb⟩
  have b1 : Below w.heap.size w ((w.alloc (.cells (Cf.cs ⟨k, th, nd, lv, ba, pr, sc⟩) 23)).alloc (.cells e13 52)) := ((Below.refl _ _).alloc (Nat.le_refl _) _).alloc (by simp) _
  have hA := Blk.new (w.alloc (.cells (Cf.cs ⟨k, th, nd, lv, ba, pr, sc⟩) 23)) 52 e13
  simp only [World.size_alloc] at hA
  have hA1 := hA.below hb (by simp)
  have hb1 := below_then b1 hb (Nat.le_refl _)
  have hE1 := HE _ hb1
  clear hb hA b1 a0 a1 a2
  have hcell : V.cell? ⟨2, k, none⟩ = some (strV (algT k)) := by
    rcases hk3 with rfl | rfl | rfl
    · exact hE1.al.cell 0
    · exact hE1.al.cell 1
    · exact hE1.al.cell 2
  have hklt : (k : Int) < 3 := by omega
  have hklt2 : k < 3 := by omega
  have h2V : 2 < V.heap.size := hE1.al.lt
  have h3V : 3 < V.heap.size := hE1.na.lt
  have n0 : V.cell? ⟨3, 0, none⟩ = some (strV thW) := hE1.na.cell 0
  have n1 : V.cell? ⟨3, 1, none⟩ = some (strV ndW) := hE1.na.cell 1
  have n2 : V.cell? ⟨3, 2, none⟩ = some (strV lvW) := hE1.na.cell 2
  have n3 : V.cell? ⟨3, 3, none⟩ = some (strV baW) := hE1.na.cell 3
  have n4 : V.cell? ⟨3, 4, none⟩ = some (strV prW) := hE1.na.cell 4
  have n5 : V.cell? ⟨3, 5, none⟩ = some (strV scW) := hE1.na.cell 5
  go_wp2_with fail
  have hT1 := Blk.new (V.alloc (.cells (Cf.cs ⟨k, th, nd, lv, ba, pr, sc⟩) 41)) 52 (tx ⟨k, th, nd, lv, ba, pr, sc⟩ 0)
  simp only [World.size_alloc] at hT1
  have HS := Lib.hid (show TextS ⟨k, th, nd, lv, ba, pr, sc⟩ w (w.heap.size + 1) V.heap.size (V.heap.size + 1) (tx ⟨k, th, nd, lv, ba, pr, sc⟩ 0) ((V.alloc (.cells (Cf.cs ⟨k, th, nd, lv, ba, pr, sc⟩) 41)).alloc (.cells (tx ⟨k, th, nd, lv, ba, pr, sc⟩ 0) 52)) from
    ⟨(Blk.new _ _ _).alloc _, hT1, (hA1.alloc _).alloc _, (hb1.alloc hb1.size _).alloc (by have := hb1.size; simp; omega) _⟩)
  have hRT : V.heap.size ≠ V.heap.size + 1 := by omega
  have hAT : w.heap.size + 1 ≠ V.heap.size + 1 := by have := hA1.lt; omega
  have hwT : w.heap.size ≤ V.heap.size + 1 := by have := hb1.size; omega
  have hwA : w.heap.size ≤ w.heap.size + 1 := by omega
  have htx0 : tx ⟨k, th, nd, lv, ba, pr, sc⟩ 0 = #[strV (algT k), strV [], strV [], strV [], strV [], strV [], strV [], strV [], strV [], strV [], strV [], strV [], strV []] := rfl
  clear hcell hklt hklt2 h2V h3V n0 n1 n2 n3 n4 n5 hT1 hA1 hb1 hE1 HE HR hE
  generalize w.heap.size + 1 = A at *
  generalize V.heap.size + 1 = T at *
  generalize V.heap.size = R at *
  go_loopw [15] (fun i W => ∃ j : Nat, j ≤ 6 ∧ i = .int .i64 j ∧ Hid (TextS ⟨k, th, nd, lv, ba, pr, sc⟩ w A R T (tx ⟨k, th, nd, lv, ba, pr, sc⟩ j) W)) (fun i _ => 6 - (intOf i).toNat)
  case atStart => exact ⟨0, by omega, rfl, HS⟩
  case round =>
    clear HS
    obtain ⟨j, hj, rfl, HS⟩ := hrel
    have h6 : j = 0 ∨ j = 1 ∨ j = 2 ∨ j = 3 ∨ j = 4 ∨ j = 5 ∨ j = 6 := by omega
    clear hj
    rcases h6 with rfl | rfl | rfl | rfl | rfl | rfl | rfl
    focus
      have hx := index_name0 (strV thW) (strV ndW) (strV lvW) (strV baW) (strV prW) (strV scW)
      have T' : TextS ⟨k, th, nd, lv, ba, pr, sc⟩ w A R T (tx ⟨k, th, nd, lv, ba, pr, sc⟩ 1) ((wr.setCell ⟨T, 1, none⟩ (strV thW)).setCell ⟨T, 2, none⟩ (strV (decT th))) :=
        (HS.out.set hRT hAT hwT 1 (strV thW) rfl).set hRT hAT hwT 2 _ (by simp [tx])
      obtain ⟨z0, z1, z2, z3, z4, z5, z6⟩ := HS.out.row.conf
      dsimp only at z0 z1 z2 z3 z4 z5 z6
      have c1 := HS.out.txt.cell 1
      have c2 := HS.out.txt.cell 2
      have d1 : (tx ⟨k, th, nd, lv, ba, pr, sc⟩ 0)[1]? = some (strV []) := by simp [tx]
      have d2 : (tx ⟨k, th, nd, lv, ba, pr, sc⟩ 0)[2]? = some (strV []) := by simp [tx]
      rw [d1] at c1
      rw [d2] at c2
      have zf := HS.out.txt.frozen
      have HT := Lib.hid T'
      clear T' d1 d2
      go_wp2_with fail
      refine (KIth _).mono ?_
      rintro e X ⟨rfl, rfl⟩
      go_wp2
      exact ⟨⟨1, by omega, rfl, HT⟩, by simp [intOf]⟩
    focus
      have hx := index_name1 (strV thW) (strV ndW) (strV lvW) (strV baW) (strV prW) (strV scW)
      have T' : TextS ⟨k, th, nd, lv, ba, pr, sc⟩ w A R T (tx ⟨k, th, nd, lv, ba, pr, sc⟩ 2) ((wr.setCell ⟨T, 3, none⟩ (strV ndW)).setCell ⟨T, 4, none⟩ (strV (decT nd))) :=
        (HS.out.set hRT hAT hwT 3 (strV ndW) rfl).set hRT hAT hwT 4 _ (by simp [tx])
      obtain ⟨z0, z1, z2, z3, z4, z5, z6⟩ := HS.out.row.conf
      dsimp only at z0 z1 z2 z3 z4 z5 z6
      have c1 := HS.out.txt.cell 3
      have c2 := HS.out.txt.cell 4
      have d1 : (tx ⟨k, th, nd, lv, ba, pr, sc⟩ 1)[3]? = some (strV []) := by simp [tx]
      have d2 : (tx ⟨k, th, nd, lv, ba, pr, sc⟩ 1)[4]? = some (strV []) := by simp [tx]
      rw [d1] at c1
      rw [d2] at c2
      have zf := HS.out.txt.frozen
      have HT := Lib.hid T'
      clear T' d1 d2
      go_wp2_with fail
      refine (KInd _).mono ?_
      rintro e X ⟨rfl, rfl⟩
      go_wp2
      exact ⟨⟨2, by omega, rfl, HT⟩, by simp [intOf]⟩
    focus
      have hx := index_name2 (strV thW) (strV ndW) (strV lvW) (strV baW) (strV prW) (strV scW)
      have T' : TextS ⟨k, th, nd, lv, ba, pr, sc⟩ w A R T (tx ⟨k, th, nd, lv, ba, pr, sc⟩ 3) ((wr.setCell ⟨T, 5, none⟩ (strV lvW)).setCell ⟨T, 6, none⟩ (strV (decT lv))) :=
        (HS.out.set hRT hAT hwT 5 (strV lvW) rfl).set hRT hAT hwT 6 _ (by simp [tx])
      obtain ⟨z0, z1, z2, z3, z4, z5, z6⟩ := HS.out.row.conf
      dsimp only at z0 z1 z2 z3 z4 z5 z6
      have c1 := HS.out.txt.cell 5
      have c2 := HS.out.txt.cell 6
      have d1 : (tx ⟨k, th, nd, lv, ba, pr, sc⟩ 2)[5]? = some (strV []) := by simp [tx]
      have d2 : (tx ⟨k, th, nd, lv, ba, pr, sc⟩ 2)[6]? = some (strV []) := by simp [tx]
      rw [d1] at c1
      rw [d2] at c2
      have zf := HS.out.txt.frozen
      have HT := Lib.hid T'
      clear T' d1 d2
      go_wp2_with fail
      refine (KIlv _).mono ?_
      rintro e X ⟨rfl, rfl⟩
      go_wp2
      exact ⟨⟨3, by omega, rfl, HT⟩, by simp [intOf]⟩
    focus
      have hx := index_name3 (strV thW) (strV ndW) (strV lvW) (strV baW) (strV prW) (strV scW)
      have T' : TextS ⟨k, th, nd, lv, ba, pr, sc⟩ w A R T (tx ⟨k, th, nd, lv, ba, pr, sc⟩ 4) ((wr.setCell ⟨T, 7, none⟩ (strV baW)).setCell ⟨T, 8, none⟩ (strV (decT ba))) :=
        (HS.out.set hRT hAT hwT 7 (strV baW) rfl).set hRT hAT hwT 8 _ (by simp [tx])
      obtain ⟨z0, z1, z2, z3, z4, z5, z6⟩ := HS.out.row.conf
      dsimp only at z0 z1 z2 z3 z4 z5 z6
      have c1 := HS.out.txt.cell 7
      have c2 := HS.out.txt.cell 8
      have d1 : (tx ⟨k, th, nd, lv, ba, pr, sc⟩ 3)[7]? = some (strV []) := by simp [tx]
      have d2 : (tx ⟨k, th, nd, lv, ba, pr, sc⟩ 3)[8]? = some (strV []) := by simp [tx]
      rw [d1] at c1
      rw [d2] at c2
      have zf := HS.out.txt.frozen
      have HT := Lib.hid T'
      clear T' d1 d2
      go_wp2_with fail
      refine (KIba _).mono ?_
      rintro e X ⟨rfl, rfl⟩
      go_wp2
      exact ⟨⟨4, by omega, rfl, HT⟩, by simp [intOf]⟩
    focus
      have hx := index_name4 (strV thW) (strV ndW) (strV lvW) (strV baW) (strV prW) (strV scW)
      have T' : TextS ⟨k, th, nd, lv, ba, pr, sc⟩ w A R T (tx ⟨k, th, nd, lv, ba, pr, sc⟩ 5) ((wr.setCell ⟨T, 9, none⟩ (strV prW)).setCell ⟨T, 10, none⟩ (strV (decT pr))) :=
        (HS.out.set hRT hAT hwT 9 (strV prW) rfl).set hRT hAT hwT 10 _ (by simp [tx])
      obtain ⟨z0, z1, z2, z3, z4, z5, z6⟩ := HS.out.row.conf
      dsimp only at z0 z1 z2 z3 z4 z5 z6
      have c1 := HS.out.txt.cell 9
      have c2 := HS.out.txt.cell 10
      have d1 : (tx ⟨k, th, nd, lv, ba, pr, sc⟩ 4)[9]? = some (strV []) := by simp [tx]
      have d2 : (tx ⟨k, th, nd, lv, ba, pr, sc⟩ 4)[10]? = some (strV []) := by simp [tx]
      rw [d1] at c1
      rw [d2] at c2
      have zf := HS.out.txt.frozen
      have HT := Lib.hid T'
      clear T' d1 d2
      go_wp2_with fail
      refine (KIpr _).mono ?_
      rintro e X ⟨rfl, rfl⟩
      go_wp2
      exact ⟨⟨5, by omega, rfl, HT⟩, by simp [intOf]⟩
    focus
      have hx := index_name5 (strV thW) (strV ndW) (strV lvW) (strV baW) (strV prW) (strV scW)
      have T' : TextS ⟨k, th, nd, lv, ba, pr, sc⟩ w A R T (tx ⟨k, th, nd, lv, ba, pr, sc⟩ 6) ((wr.setCell ⟨T, 11, none⟩ (strV scW)).setCell ⟨T, 12, none⟩ (strV (decT sc))) :=
        (HS.out.set hRT hAT hwT 11 (strV scW) rfl).set hRT hAT hwT 12 _ (by simp [tx])
      obtain ⟨z0, z1, z2, z3, z4, z5, z6⟩ := HS.out.row.conf
      dsimp only at z0 z1 z2 z3 z4 z5 z6
      have c1 := HS.out.txt.cell 11
      have c2 := HS.out.txt.cell 12
      have d1 : (tx ⟨k, th, nd, lv, ba, pr, sc⟩ 5)[11]? = some (strV []) := by simp [tx]
      have d2 : (tx ⟨k, th, nd, lv, ba, pr, sc⟩ 5)[12]? = some (strV []) := by simp [tx]
      rw [d1] at c1
      rw [d2] at c2
      have zf := HS.out.txt.frozen
      have HT := Lib.hid T'
      clear T' d1 d2
      go_wp2_with fail
      refine (KIsc _).mono ?_
      rintro e X ⟨rfl, rfl⟩
      go_wp2
      exact ⟨⟨6, by omega, rfl, HT⟩, by simp [intOf]⟩
    focus
      have hl : ((words ⟨k, th, nd, lv, ba, pr, sc⟩).map strV).toArray = #[strV (algT k), strV (thW), strV (decT th), strV (ndW), strV (decT nd), strV (lvW), strV (decT lv), strV (baW), strV (decT ba), strV (prW), strV (decT pr), strV (scW), strV (decT sc)] := rfl
      rw [tx_all, hl] at HS
      clear hl htx0
      have t0 : wr.cell? ⟨T, 0, none⟩ = some (strV (algT k)) := HS.out.txt.cell 0
      have t1 : wr.cell? ⟨T, 1, none⟩ = some (strV (thW)) := HS.out.txt.cell 1
      have t2 : wr.cell? ⟨T, 2, none⟩ = some (strV (decT th)) := HS.out.txt.cell 2
      have t3 : wr.cell? ⟨T, 3, none⟩ = some (strV (ndW)) := HS.out.txt.cell 3
      have t4 : wr.cell? ⟨T, 4, none⟩ = some (strV (decT nd)) := HS.out.txt.cell 4
      have t5 : wr.cell? ⟨T, 5, none⟩ = some (strV (lvW)) := HS.out.txt.cell 5
      have t6 : wr.cell? ⟨T, 6, none⟩ = some (strV (decT lv)) := HS.out.txt.cell 6
      have t7 : wr.cell? ⟨T, 7, none⟩ = some (strV (baW)) := HS.out.txt.cell 7
      have t8 : wr.cell? ⟨T, 8, none⟩ = some (strV (decT ba)) := HS.out.txt.cell 8
      have t9 : wr.cell? ⟨T, 9, none⟩ = some (strV (prW)) := HS.out.txt.cell 9
      have t10 : wr.cell? ⟨T, 10, none⟩ = some (strV (decT pr)) := HS.out.txt.cell 10
      have t11 : wr.cell? ⟨T, 11, none⟩ = some (strV (scW)) := HS.out.txt.cell 11
      have t12 : wr.cell? ⟨T, 12, none⟩ = some (strV (decT sc)) := HS.out.txt.cell 12
      have a0 : wr.cell? ⟨A, 0, none⟩ = some (strV []) := HS.out.ans.cell 0
      have a1 : wr.cell? ⟨A, 1, none⟩ = some (strV []) := HS.out.ans.cell 1
      have a2 : wr.cell? ⟨A, 2, none⟩ = some (strV []) := HS.out.ans.cell 2
      have a3 : wr.cell? ⟨A, 3, none⟩ = some (strV []) := HS.out.ans.cell 3
      have a4 : wr.cell? ⟨A, 4, none⟩ = some (strV []) := HS.out.ans.cell 4
      have a5 : wr.cell? ⟨A, 5, none⟩ = some (strV []) := HS.out.ans.cell 5
      have a6 : wr.cell? ⟨A, 6, none⟩ = some (strV []) := HS.out.ans.cell 6
      have a7 : wr.cell? ⟨A, 7, none⟩ = some (strV []) := HS.out.ans.cell 7
      have a8 : wr.cell? ⟨A, 8, none⟩ = some (strV []) := HS.out.ans.cell 8
      have a9 : wr.cell? ⟨A, 9, none⟩ = some (strV []) := HS.out.ans.cell 9
      have a10 : wr.cell? ⟨A, 10, none⟩ = some (strV []) := HS.out.ans.cell 10
      have a11 : wr.cell? ⟨A, 11, none⟩ = some (strV []) := HS.out.ans.cell 11
      have a12 : wr.cell? ⟨A, 12, none⟩ = some (strV []) := HS.out.ans.cell 12
      have af := HS.out.ans.frozen
      have hbel := HS.out.bel
      have he : (((((((((((((e13.setIfInBounds 0 (strV (algT k))).setIfInBounds 1 (strV (thW))).setIfInBounds 2 (strV (decT th))).setIfInBounds 3 (strV (ndW))).setIfInBounds 4 (strV (decT nd))).setIfInBounds 5 (strV (lvW))).setIfInBounds 6 (strV (decT lv))).setIfInBounds 7 (strV (baW))).setIfInBounds 8 (strV (decT ba))).setIfInBounds 9 (strV (prW))).setIfInBounds 10 (strV (decT pr))).setIfInBounds 11 (strV (scW))).setIfInBounds 12 (strV (decT sc))) = #[strV (algT k), strV (thW), strV (decT th), strV (ndW), strV (decT nd), strV (lvW), strV (decT lv), strV (baW), strV (decT ba), strV (prW), strV (decT pr), strV (scW), strV (decT sc)] := by simp only [List.setIfInBounds_toArray, List.set_cons_zero, List.set_cons_succ]
      have hF : Blk (((((((((((((wr.setCell ⟨A, 0, none⟩ (strV (algT k))).setCell ⟨A, 1, none⟩ (strV (thW))).setCell ⟨A, 2, none⟩ (strV (decT th))).setCell ⟨A, 3, none⟩ (strV (ndW))).setCell ⟨A, 4, none⟩ (strV (decT nd))).setCell ⟨A, 5, none⟩ (strV (lvW))).setCell ⟨A, 6, none⟩ (strV (decT lv))).setCell ⟨A, 7, none⟩ (strV (baW))).setCell ⟨A, 8, none⟩ (strV (decT ba))).setCell ⟨A, 9, none⟩ (strV (prW))).setCell ⟨A, 10, none⟩ (strV (decT pr))).setCell ⟨A, 11, none⟩ (strV (scW))).setCell ⟨A, 12, none⟩ (strV (decT sc))) A 52 #[strV (algT k), strV (thW), strV (decT th), strV (ndW), strV (decT nd), strV (lvW), strV (decT lv), strV (baW), strV (decT ba), strV (prW), strV (decT pr), strV (scW), strV (decT sc)] := by
        rw [← he]
        exact (((((((((((((HS.out.ans.set 0 (strV (algT k))).set 1 (strV (thW))).set 2 (strV (decT th))).set 3 (strV (ndW))).set 4 (strV (decT nd))).set 5 (strV (lvW))).set 6 (strV (decT lv))).set 7 (strV (baW))).set 8 (strV (decT ba))).set 9 (strV (prW))).set 10 (strV (decT pr))).set 11 (strV (scW))).set 12 (strV (decT sc)))
      have hG : Below w.heap.size w (((((((((((((wr.setCell ⟨A, 0, none⟩ (strV (algT k))).setCell ⟨A, 1, none⟩ (strV (thW))).setCell ⟨A, 2, none⟩ (strV (decT th))).setCell ⟨A, 3, none⟩ (strV (ndW))).setCell ⟨A, 4, none⟩ (strV (decT nd))).setCell ⟨A, 5, none⟩ (strV (lvW))).setCell ⟨A, 6, none⟩ (strV (decT lv))).setCell ⟨A, 7, none⟩ (strV (baW))).setCell ⟨A, 8, none⟩ (strV (decT ba))).setCell ⟨A, 9, none⟩ (strV (prW))).setCell ⟨A, 10, none⟩ (strV (decT pr))).setCell ⟨A, 11, none⟩ (strV (scW))).setCell ⟨A, 12, none⟩ (strV (decT sc))) := (((((((((((((hbel.setCell hwA (p := ⟨A, 0, none⟩) (strV (algT k))).setCell hwA (p := ⟨A, 1, none⟩) (strV (thW))).setCell hwA (p := ⟨A, 2, none⟩) (strV (decT th))).setCell hwA (p := ⟨A, 3, none⟩) (strV (ndW))).setCell hwA (p := ⟨A, 4, none⟩) (strV (decT nd))).setCell hwA (p := ⟨A, 5, none⟩) (strV (lvW))).setCell hwA (p := ⟨A, 6, none⟩) (strV (decT lv))).setCell hwA (p := ⟨A, 7, none⟩) (strV (baW))).setCell hwA (p := ⟨A, 8, none⟩) (strV (decT ba))).setCell hwA (p := ⟨A, 9, none⟩) (strV (prW))).setCell hwA (p := ⟨A, 10, none⟩) (strV (decT pr))).setCell hwA (p := ⟨A, 11, none⟩) (strV (scW))).setCell hwA (p := ⟨A, 12, none⟩) (strV (decT sc)))
      have HB := Lib.hid hG
      have HF := Lib.hid hF
      have fin : Ending.returned (.agg #[strV (algT k), strV (thW), strV (decT th), strV (ndW), strV (decT nd), strV (lvW), strV (decT lv), strV (baW), strV (decT ba), strV (prW), strV (decT pr), strV (scW), strV (decT sc)]) = .returned (.agg ((words ⟨k, th, nd, lv, ba, pr, sc⟩).map strV).toArray) := rfl
      clear hbel HS hF hG
      go_wp2
      generalize (((((((((((((wr.setCell ⟨A, 0, none⟩ (strV (algT k))).setCell ⟨A, 1, none⟩ (strV (thW))).setCell ⟨A, 2, none⟩ (strV (decT th))).setCell ⟨A, 3, none⟩ (strV (ndW))).setCell ⟨A, 4, none⟩ (strV (decT nd))).setCell ⟨A, 5, none⟩ (strV (lvW))).setCell ⟨A, 6, none⟩ (strV (decT lv))).setCell ⟨A, 7, none⟩ (strV (baW))).setCell ⟨A, 8, none⟩ (strV (decT ba))).setCell ⟨A, 9, none⟩ (strV (prW))).setCell ⟨A, 10, none⟩ (strV (decT pr))).setCell ⟨A, 11, none⟩ (strV (scW))).setCell ⟨A, 12, none⟩ (strV (decT sc))) = U at *
      exact bodyPost_ret (text_results U A _ rfl _ rfl HF.out) rfl ⟨fin, HB.out⟩
end Go.Proofs.YtdhdomeckloedaaDoor
