/- May, of the document. -/
import Derived.Test.YtmjbccimijnceaaMay
namespace Go.Proofs.Ytmjbccimijnceaa
open Go.ChangeShapes Go.WideShapes Go.ChangeAt Go.RowKit
set_option linter.unusedVariables false

theorem beq_t {a b : Int} (h : a = b) : (a == b) = true := by simpa using h
theorem beq_f {a b : Int} (h : ¬ a = b) : (a == b) = false := by simpa using h
def nth (p : List Int) (i : Nat) : Int := p.getD i 0
theorem nth_get {p : List Int} {i : Nat} (h : i < p.length) : p[i]? = some (nth p i) := by simp [nth, List.getD_eq_getElem?_getD, h]
theorem nth_mem {p : List Int} {i : Nat} (h : i < p.length) : nth p i ∈ p := by
  have := List.mem_of_getElem? (nth_get h)
  exact this
theorem mem_nth {p : List Int} {x : Int} (h : x ∈ p) : ∃ i, i < p.length ∧ nth p i = x := by
  obtain ⟨i, hi, e⟩ := List.getElem_of_mem h
  exact ⟨i, hi, by simp [nth, List.getD_eq_getElem?_getD, hi, e]⟩
theorem nodup_count : ∀ p : List Int, p.Nodup ↔ ∀ x ∈ p, p.count x ≤ 1
  | [] => by simp
  | a :: p => by
    rw [List.nodup_cons, nodup_count p]
    constructor
    · rintro ⟨h1, h2⟩ x hx
      rw [List.count_cons]
      by_cases e : a = x
      · subst e
        rw [List.count_eq_zero.2 h1]
        simp
      · have hx' : x ∈ p := by simpa [Ne.symm e] using hx
        have := h2 x hx'
        have e2 : (a == x) = false := by simpa using e
        rw [e2]
        simpa using this
    · intro h
      refine ⟨fun ha => ?_, fun x hx => ?_⟩
      · have := h a (by simp)
        rw [List.count_cons_self] at this
        have := List.count_pos_iff.2 ha
        omega
      · have := h x (by simp [hx])
        rw [List.count_cons] at this
        omega
theorem okp_iff {l : List Opr} {p : List Int} : Okp l p ↔ (∀ i, i < p.length → (0 ≤ nth p i ∧ nth p i < l.length) ∧ p.count (nth p i) ≤ 1) ∧ ∀ i j, i < j → j < p.length → aheadAt l (nth p j) (nth p i) = false := by
  constructor
  · intro h
    refine ⟨fun i hi => ⟨h.range _ (nth_mem hi), (nodup_count p).1 h.nodup _ (nth_mem hi)⟩, fun i j hij hj => ?_⟩
    have := List.pairwise_iff_getElem.1 h.pair i j (by omega) hj hij
    simp only [nth, List.getD_eq_getElem?_getD, List.getElem?_eq_getElem hj, List.getElem?_eq_getElem (show i < p.length by omega)]
    exact this
  · rintro ⟨h1, h2⟩
    refine ⟨fun x hx => ?_, (nodup_count p).2 fun x hx => ?_, List.pairwise_iff_getElem.2 fun i j hi hj hij => ?_⟩
    · obtain ⟨i, hi, rfl⟩ := mem_nth hx
      exact (h1 i hi).1
    · obtain ⟨i, hi, rfl⟩ := mem_nth hx
      exact (h1 i hi).2
    · have := h2 i j hij hj
      simp only [nth, List.getD_eq_getElem?_getD, List.getElem?_eq_getElem hj, List.getElem?_eq_getElem hi] at this
      exact this

theorem take_count {p : List Int} {i : Nat} (x : Int) (h : i < p.length) : (p.take (i + 1)).count x = (p.take i).count x + if nth p i = x then 1 else 0 := by
  rw [List.take_add_one, nth_get h, List.count_append]
  simp [List.count_cons]

/-- How often a number stands in a list. -/
theorem times_any (s : Sl) (p : List Int) (x : Int) (w : World) (hs : Reads w s 1 (ints p)) (hp : p.length ≤ 1000) :
    Calls Try.prog 13 #[s.v, .int .i64 x] w fun e w' => e = .returned (.int .i64 (p.count x : Nat)) ∧ Below w.heap.size w w' := by
  have hns := hs.lenI
  have hroom := hs.room
  simp only [maxLen] at hroom
  have HS := Lib.hid hs
  obtain ⟨sa, sn, sc⟩ := s
  simp only at hns hroom
  subst hns
  clear hs
  simp only [Sl.v]
  go_enter Try.func13, Try.ntmps13
  go_wp2_with fail
  go_loopw [5, 6] (fun c i W => ∃ k : Nat, k ≤ p.length ∧ i = .int .i64 k ∧ c = .int .i64 ((p.take k).count x : Nat) ∧ W = w) (fun _ i _ => p.length - (intOf i).toNat)
  case atStart => exact ⟨0, by omega, rfl, by simp, rfl⟩
  case round =>
    obtain ⟨k, hk, rfl, rfl, rfl⟩ := hrel
    by_cases hlt : k < p.length
    · obtain ⟨b, off, ea, hc⟩ := HS.out.at_ (by simp; omega)
      simp only at ea
      subst ea
      have c1 := hc k (.int .i64 (nth p k)) (by simp [nth_get hlt])
      have gk : (k : Int) < p.length := by omega
      have hcl : (p.take k).count x ≤ k := Nat.le_trans List.count_le_length (by simp; omega)
      have HT := Lib.hid (take_count x hlt)
      clear hc HS
      generalize (p.take k).count x = n at *
      generalize nth p k = y at *
      by_cases hy : y = x
      · subst hy
        simp only [if_true] at HT
        go_wp2
        go_roundw
        case rel => exact ⟨k + 1, by omega, by go_num, by rw [HT.out]; go_num, trivial⟩
        case measure => simp [intOf]; omega
      · have hy2 := beq_f hy
        rw [if_neg hy] at HT
        go_wp2
        go_roundw
        case rel => exact ⟨k + 1, by omega, by go_num, by rw [HT.out]; rfl, trivial⟩
        case measure => simp [intOf]; omega
    · obtain rfl : k = p.length := by omega
      rw [List.take_length]
      go_wp2
      go_ret
      exact ⟨rfl, Below.refl _ _⟩

/-- Amid the pairs of the document's May. -/
structure AtR (w : World) (b p q : Nat) (x z : Int) (b1 o1 : Nat) (v1 : Opr) (o2 : Nat) (v2 : Opr) (W : World) : Prop where
  bel : Below w.heap.size w W
  c1 : W.cell? ⟨b, p, none⟩ = some (.int .i64 x)
  c2 : W.cell? ⟨b, q, none⟩ = some (.int .i64 z)
  p1 : OpAt W b1 o1 v1
  p2 : OpAt W b1 o2 v2
theorem AtR.below {w : World} {b p q : Nat} {x z : Int} {b1 o1 : Nat} {v1 : Opr} {o2 : Nat} {v2 : Opr} {W V : World} (h : AtR w b p q x z b1 o1 v1 o2 v2 W) (hb : Below W.heap.size W V) : AtR w b p q x z b1 o1 v1 o2 v2 V :=
  ⟨below_then h.bel hb, (World.cell?_of_block (a := ⟨b, p, none⟩) (hb.block _ (World.block_lt_of_cell? W _ h.c1))).trans h.c1, (World.cell?_of_block (a := ⟨b, q, none⟩) (hb.block _ (World.block_lt_of_cell? W _ h.c2))).trans h.c2, h.p1.below hb, h.p2.below hb⟩
theorem AtR.cells {w : World} {b p q : Nat} {x z : Int} {b1 o1 : Nat} {v1 : Opr} {o2 : Nat} {v2 : Opr} {W : World} (h : AtR w b p q x z b1 o1 v1 o2 v2 W) :
    W.cell? ⟨b, p, none⟩ = some (.int .i64 x) ∧ W.cell? ⟨b, q, none⟩ = some (.int .i64 z) ∧
    W.cell? ⟨b1, o1, none⟩ = some (.int .i64 v1.t) ∧ W.cell? ⟨b1, o1 + 1, none⟩ = some (.int .i64 v1.c.op) ∧ W.cell? ⟨b1, o1 + 2, none⟩ = some (.int .u32 v1.c.key) ∧ W.cell? ⟨b1, o1 + 3, none⟩ = some (.int .u32 v1.c.val) ∧
    W.cell? ⟨b1, o1 + 4, none⟩ = some (.int .i64 v1.a.op) ∧ W.cell? ⟨b1, o1 + 5, none⟩ = some (.int .u32 v1.a.key) ∧ W.cell? ⟨b1, o1 + 6, none⟩ = some (.int .u32 v1.a.val) ∧ W.cell? ⟨b1, o1 + 7, none⟩ = some (.int .i64 v1.f) ∧ W.cell? ⟨b1, o1 + 8, none⟩ = some (.int .i64 v1.o) ∧
    W.cell? ⟨b1, o2, none⟩ = some (.int .i64 v2.t) ∧ W.cell? ⟨b1, o2 + 1, none⟩ = some (.int .i64 v2.c.op) ∧ W.cell? ⟨b1, o2 + 2, none⟩ = some (.int .u32 v2.c.key) ∧ W.cell? ⟨b1, o2 + 3, none⟩ = some (.int .u32 v2.c.val) ∧
    W.cell? ⟨b1, o2 + 4, none⟩ = some (.int .i64 v2.a.op) ∧ W.cell? ⟨b1, o2 + 5, none⟩ = some (.int .u32 v2.a.key) ∧ W.cell? ⟨b1, o2 + 6, none⟩ = some (.int .u32 v2.a.val) ∧ W.cell? ⟨b1, o2 + 7, none⟩ = some (.int .i64 v2.f) ∧ W.cell? ⟨b1, o2 + 8, none⟩ = some (.int .i64 v2.o) := by
  obtain ⟨x0, x1, x2, x3, x4, x5, x6, x7, x8⟩ := h.p1
  obtain ⟨y0, y1, y2, y3, y4, y5, y6, y7, y8⟩ := h.p2
  exact ⟨h.c1, h.c2, x0, x1, x2, x3, x4, x5, x6, x7, x8, y0, y1, y2, y3, y4, y5, y6, y7, y8⟩

set_option maxRecDepth 100000 in
set_option maxHeartbeats 1000000 in
theorem refMay_any (y s : Sl) (l : List Opr) (order : List Int) (w : World) (hy : Reads w y 9 (encO l)) (hs : Reads w s 1 (ints order)) (hn : l.length ≤ 1000) (hm : order.length ≤ 1000) :
    Calls Try.prog 9 #[y.v, s.v] w (Mayed l order w) := by
  have hny := hy.lenO
  have hns := hs.lenI
  have hroom := hs.room
  have hroomy := hy.room
  simp only [maxLen] at hroom hroomy
  have HY := Lib.hid hy
  have HS := Lib.hid hs
  have KT := Lib.hid fun x W (hb : Below w.heap.size w W) => times_any s order x W (hs.below hb) hm
  have NO : Hid (¬ Mays l order → ∀ W, Below w.heap.size w W → Mayed l order w (.returned (.bool false)) W) := Lib.hid fun hn W hb => ⟨⟨false, rfl, by simp; exact hn⟩, hb⟩
  obtain ⟨ya, yn, yc⟩ := y
  obtain ⟨sa, sn, sc⟩ := s
  simp only at hny hns hroom hroomy
  subst hny hns
  clear hy hs
  simp only [Sl.v] at *
  go_enter Try.func9, Try.ntmps9
  go_wp2_with fail
  go_loopw [5] (fun i W => ∃ k : Nat, k ≤ order.length ∧ i = .int .i64 k ∧ Hid (Below w.heap.size w W ∧ ∀ i, i < k → (0 ≤ nth order i ∧ nth order i < l.length) ∧ order.count (nth order i) ≤ 1)) (fun i _ => order.length - (intOf i).toNat)
  case atStart => exact ⟨0, by omega, rfl, Lib.hid ⟨Below.refl _ _, fun i hi => by omega⟩⟩
  case round =>
    obtain ⟨k, hk, rfl, HL⟩ := hrel
    by_cases hlt : k < order.length
    · obtain ⟨b, off, ea, hc⟩ := (HS.out.below HL.out.1).at_ (by simp; omega)
      simp only at ea
      subst ea
      have c1 := hc k (.int .i64 (nth order k)) (by simp [nth_get hlt])
      have gk : (k : Int) < order.length := by omega
      have BAD : Hid (¬ ((0 ≤ nth order k ∧ nth order k < l.length) ∧ order.count (nth order k) ≤ 1) → ¬ Mays l order) := Lib.hid fun h hm => h ((okp_iff.1 hm.1).1 k hlt)
      have KT2 := Lib.hid (KT.out (nth order k) wr HL.out.1)
      have HL2 : Hid ((0 ≤ nth order k ∧ nth order k < l.length) ∧ order.count (nth order k) ≤ 1 → ∀ i, i < k + 1 → (0 ≤ nth order i ∧ nth order i < l.length) ∧ order.count (nth order i) ≤ 1) := Lib.hid fun h i hi => by
        by_cases e : i = k
        · rw [e]; exact h
        · exact HL.out.2 i (by omega)
      have HB := Lib.hid HL.out.1
      have hcl : order.count (nth order k) ≤ 1000 := Nat.le_trans List.count_le_length hm
      clear hc HL KT
      generalize order.count (nth order k) = n at *
      generalize nth order k = x at *
      by_cases h0 : x < 0
      · go_wp2_with fail
        go_ret
        exact NO.out (BAD.out (by omega)) _ HB.out
      have d0 : decide (x < 0) = false := by simp; omega
      by_cases h1 : x ≥ l.length
      · go_wp2_with fail
        go_ret
        exact NO.out (BAD.out (by omega)) _ HB.out
      have d1 : decide (x ≥ (l.length : Int)) = false := by simp; omega
      by_cases h2 : 1 < n
      · go_wp2_with (go_at_call 13; refine KT2.out.mono ?_; rintro e w1 ⟨rfl, hb1⟩)
        go_ret
        exact NO.out (BAD.out (by omega)) _ (below_then HB.out hb1)
      · go_wp2_with (go_at_call 13; refine KT2.out.mono ?_; rintro e w1 ⟨rfl, hb1⟩)
        go_roundw
        case rel => exact ⟨k + 1, by omega, by go_num, Lib.hid ⟨below_then HB.out hb1, HL2.out ⟨by omega, by omega⟩⟩⟩
        case measure => simp [intOf]; omega
    · obtain rfl : k = order.length := by omega
      have H1 := Lib.hid HL.out.2
      have HW := Lib.hid HL.out.1
      clear HL
      go_wp2_with fail
      go_loopw [6] (fun i W => ∃ k : Nat, k ≤ order.length ∧ i = .int .i64 k ∧ Hid (Below w.heap.size w W ∧ ∀ i j, i < k → i < j → j < order.length → aheadAt l (nth order j) (nth order i) = false)) (fun i _ => order.length - (intOf i).toNat)
      case atStart => exact ⟨0, by omega, rfl, Lib.hid ⟨HW.out, fun i j hi => by omega⟩⟩
      clear HW
      case round =>
        obtain ⟨k, hk, rfl, HL⟩ := hrel
        by_cases hlt : k < order.length
        · have gk : (k : Int) < order.length := by omega
          go_wp2_with fail
          go_loopw [7] (fun i W => ∃ q : Nat, k < q ∧ q ≤ order.length ∧ i = .int .i64 q ∧ Hid (Below w.heap.size w W ∧ ∀ j, k < j → j < q → aheadAt l (nth order j) (nth order k) = false)) (fun i _ => order.length - (intOf i).toNat)
          case atStart => exact ⟨k + 1, by omega, by omega, by go_num, Lib.hid ⟨HL.out.1, fun j hj => by omega⟩⟩
          case round =>
            obtain ⟨q, hkq, hq, rfl, HI⟩ := hrel
            by_cases hqt : q < order.length
            · obtain ⟨b, off, ea, hc⟩ := (HS.out.below HI.out.1).at_ (by simp; omega)
              simp only at ea
              subst ea
              have c1 := hc q (.int .i64 (nth order q)) (by simp [nth_get hqt])
              have c2 := hc k (.int .i64 (nth order k)) (by simp [nth_get hlt])
              have gq : (q : Int) < order.length := by omega
              have r1 := (H1.out k hlt).1
              have r2 := (H1.out q hqt).1
              have BAD : Hid (aheadAt l (nth order q) (nth order k) = true → ¬ Mays l order) := Lib.hid fun h hm => by
                rw [(okp_iff.1 hm.1).2 k q hkq hqt] at h; cases h
              have HI2 : Hid (aheadAt l (nth order q) (nth order k) = false → ∀ j, k < j → j < q + 1 → aheadAt l (nth order j) (nth order k) = false) := Lib.hid fun h j h1 h2 => by
                by_cases e : j = q
                · rw [e]; exact h
                · exact HI.out.2 j h1 (by omega)
              have HB := Lib.hid HI.out.1
              clear hc HI
              generalize hx2 : nth order q = x2 at *
              generalize hx1 : nth order k = x1 at *
              clear hx1 hx2
              obtain ⟨m2, rfl⟩ : ∃ m : Nat, x2 = (m : Int) := ⟨x2.toNat, by omega⟩
              obtain ⟨m1, rfl⟩ : ∃ m : Nat, x1 = (m : Int) := ⟨x1.toNat, by omega⟩
              have hm1 : m1 < l.length := by omega
              have hm2 : m2 < l.length := by omega
              have gm1 : (m1 : Int) < l.length := by omega
              have gm2 : (m2 : Int) < l.length := by omega
              obtain ⟨b1, off1, ea1, hop2⟩ := (HY.out.below HB.out).opr (ith_lt hm2)
              obtain ⟨b1', off1', ea1', hop1⟩ := (HY.out.below HB.out).opr (ith_lt hm1)
              simp only at ea1 ea1'
              rw [ea1] at ea1'
              simp only [Option.some.injEq, Addr.mk.injEq] at ea1'
              obtain ⟨rfl, rfl, -⟩ := ea1'
              subst ea1
              have S0 : AtR w b (off + q) (off + k) m2 m1 b1 (off1 + m2 * 9) (ith l m2) (off1 + m1 * 9) (ith l m1) wr.drew := AtR.below ⟨HB.out, c1, c2, hop2, hop1⟩ (below_drew (Below.refl _ _))
              have KA := Lib.hid fun W => refAhead_any (ith l m2) (ith l m1) W
              have hcv : aheadAt l (m2 : Int) (m1 : Int) = ahd (ith l m2) (ith l m1) := by unfold aheadAt; rw [Int.toNat_natCast, Int.toNat_natCast]
              rw [hcv] at BAD HI2
              clear hcv
              clear hop1 hop2 c1 c2 r1 r2
              generalize ith l m2 = e2 at *
              generalize ith l m1 = e1 at *
              obtain ⟨v0, ⟨v1, v2, v3⟩, ⟨v4, v5, v6⟩, v7, v8⟩ := e2
              obtain ⟨z0, ⟨z1, z2, z3⟩, ⟨z4, z5, z6⟩, z7, z8⟩ := e1
              generalize ahd ⟨v0, ⟨v1, v2, v3⟩, ⟨v4, v5, v6⟩, v7, v8⟩ ⟨z0, ⟨z1, z2, z3⟩, ⟨z4, z5, z6⟩, z7, z8⟩ = c at *
              dsimp only [Opr.v] at *
              go_wp2_with fail
              go_region_held3 (fun W => W.cell? ⟨b, off + q, none⟩ = some (.int .i64 (m2 : Int)) ∧ W.cell? ⟨b, off + k, none⟩ = some (.int .i64 (m1 : Int)) ∧ W.cell? ⟨b1, off1 + m2 * 9, none⟩ = some (.int .i64 v0) ∧ W.cell? ⟨b1, off1 + m2 * 9 + 1, none⟩ = some (.int .i64 v1) ∧ W.cell? ⟨b1, off1 + m2 * 9 + 2, none⟩ = some (.int .u32 v2) ∧ W.cell? ⟨b1, off1 + m2 * 9 + 3, none⟩ = some (.int .u32 v3) ∧ W.cell? ⟨b1, off1 + m2 * 9 + 4, none⟩ = some (.int .i64 v4) ∧ W.cell? ⟨b1, off1 + m2 * 9 + 5, none⟩ = some (.int .u32 v5) ∧ W.cell? ⟨b1, off1 + m2 * 9 + 6, none⟩ = some (.int .u32 v6) ∧ W.cell? ⟨b1, off1 + m2 * 9 + 7, none⟩ = some (.int .i64 v7) ∧ W.cell? ⟨b1, off1 + m2 * 9 + 8, none⟩ = some (.int .i64 v8) ∧ W.cell? ⟨b1, off1 + m1 * 9, none⟩ = some (.int .i64 z0) ∧ W.cell? ⟨b1, off1 + m1 * 9 + 1, none⟩ = some (.int .i64 z1) ∧ W.cell? ⟨b1, off1 + m1 * 9 + 2, none⟩ = some (.int .u32 z2) ∧ W.cell? ⟨b1, off1 + m1 * 9 + 3, none⟩ = some (.int .u32 z3) ∧ W.cell? ⟨b1, off1 + m1 * 9 + 4, none⟩ = some (.int .i64 z4) ∧ W.cell? ⟨b1, off1 + m1 * 9 + 5, none⟩ = some (.int .u32 z5) ∧ W.cell? ⟨b1, off1 + m1 * 9 + 6, none⟩ = some (.int .u32 z6) ∧ W.cell? ⟨b1, off1 + m1 * 9 + 7, none⟩ = some (.int .i64 z7) ∧ W.cell? ⟨b1, off1 + m1 * 9 + 8, none⟩ = some (.int .i64 z8)) (first | exact AtR.cells (by assumption) | go_keep)
                ((go_at_call 7; refine (KA.out _).mono ?_; rintro e V' ⟨rfl, hb⟩; have S' := AtR.below (by assumption) hb; clear hb))
              have HB2 := Lib.hid (AtR.bel (by assumption))
              clear KA S0 S'
              cases c with
              | true =>
                go_wp2_with fail
                go_ret
                exact NO.out (BAD.out (by trivial)) _ HB2.out
              | false =>
                go_wp2_with fail
                go_roundw
                case rel => exact ⟨q + 1, by omega, by omega, by go_num, Lib.hid ⟨HB2.out, HI2.out (by trivial)⟩⟩
                case measure => simp [intOf]; omega
            · obtain rfl : q = order.length := by omega
              have HL2 : Hid (Below w.heap.size w wr ∧ ∀ i j, i < k + 1 → i < j → j < order.length → aheadAt l (nth order j) (nth order i) = false) := Lib.hid ⟨HI.out.1, fun i j hi hij hj => by
                by_cases e : i = k
                · subst e; exact HI.out.2 j hij hj
                · exact HL.out.2 i j (by omega) hij hj⟩
              clear HI HL
              go_wp2_with fail
              go_roundw
              case rel => exact ⟨k + 1, by omega, by go_num, HL2⟩
              case measure => simp [intOf]; omega
        · obtain rfl : k = order.length := by omega
          have HO : Hid (Okp l order) := Lib.hid (okp_iff.2 ⟨H1.out, fun i j hij hj => HL.out.2 i j (by omega) hij hj⟩)
          have HW := Lib.hid HL.out.1
          clear HL H1
          go_wp2_with fail
          go_loopw [8] (fun i W => ∃ k : Nat, k ≤ l.length ∧ i = .int .i64 k ∧ Hid (Below w.heap.size w W ∧ ∀ i, i < k → ans (ith l i) = true → (i : Int) ∈ order)) (fun i _ => l.length - (intOf i).toNat)
          case atStart => exact ⟨0, by omega, rfl, Lib.hid ⟨HW.out, fun i hi => by omega⟩⟩
          clear HW
          case round =>
            obtain ⟨k, hk, rfl, HL⟩ := hrel
            by_cases hlt : k < l.length
            · obtain ⟨b1, off1, ea1, hop⟩ := (HY.out.below HL.out.1).opr (ith_lt hlt)
              simp only at ea1
              subst ea1
              have x8 := hop.x8
              have gk : (k : Int) < l.length := by omega
              have KT2 := Lib.hid (KT.out (k : Int) wr HL.out.1)
              have hmem : (k : Int) ∈ order ↔ 0 < order.count (k : Int) := List.count_pos_iff.symm
              have hcl : order.count (k : Int) ≤ 1000 := Nat.le_trans List.count_le_length hm
              have HB := Lib.hid HL.out.1
              have BAD : Hid (ans (ith l k) = true → (k : Int) ∉ order → ¬ Mays l order) := Lib.hid fun h h2 hm => h2 (hm.2 k hlt h)
              have HL2 : Hid ((ans (ith l k) = true → (k : Int) ∈ order) → ∀ i, i < k + 1 → ans (ith l i) = true → (i : Int) ∈ order) := Lib.hid fun h i hi => by
                by_cases e : i = k
                · subst e; exact h
                · exact HL.out.2 i (by omega)
              have HM := Lib.hid hmem
              have ha : ans (ith l k) = decide (0 ≤ (ith l k).o) := rfl
              rw [ha] at BAD HL2
              clear KT hop HL hmem ha
              generalize (ith l k).o = t at *
              generalize order.count (k : Int) = n at *
              by_cases ht : 0 ≤ t
              · have d0 : decide (t ≥ 0) = true := by simpa using ht
                by_cases hn0 : n = 0
                · subst hn0
                  go_wp2_with (go_at_call 13; refine KT2.out.mono ?_; rintro e w1 ⟨rfl, hb1⟩)
                  go_ret
                  exact NO.out (BAD.out (by simpa using ht) (fun h => by have := HM.out.1 h; omega)) _ (below_then HB.out hb1)
                · have dn : ((n : Nat) : Int) ≠ 0 := by omega
                  go_wp2_with (go_at_call 13; refine KT2.out.mono ?_; rintro e w1 ⟨rfl, hb1⟩)
                  go_roundw
                  case rel => exact ⟨k + 1, by omega, by go_num, Lib.hid ⟨below_then HB.out hb1, HL2.out fun _ => HM.out.2 (by omega)⟩⟩
                  case measure => simp [intOf]; omega
              · have d0 : decide (t ≥ 0) = false := by simp; omega
                go_wp2_with fail
                go_roundw
                case rel => exact ⟨k + 1, by omega, by go_num, Lib.hid ⟨HB.out, HL2.out fun h => by simp at h; omega⟩⟩
                case measure => simp [intOf]; omega
            · obtain rfl : k = l.length := by omega
              have hfin : Hid (Mayed l order w (.returned (.bool true)) wr) := Lib.hid ⟨⟨true, rfl, by simp; exact ⟨HO.out, HL.out.2⟩⟩, HL.out.1⟩
              go_wp2_with fail
              go_ret
              exact hfin.out
end Go.Proofs.Ytmjbccimijnceaa
