/- lay, Write. -/
import Derived.Test.YtdmdmkgpnelkjaaBuf
import Derived.Test.YtdmdmkgpnelkjaaTheory
namespace Go.Proofs.Ytdmdmkgpnelkjaa
open Go.ChangeShapes Go.WideShapes Go.ChangeAt Go.RowKit
set_option linter.unusedVariables false

/-- Bytes of one's own have become these; nothing below base has turned. -/
structure Grew (base : Nat) (xs : List Int) (W : World) (e : Ending) (W' : World) : Prop where
  ex : ∃ b : Sl, e = .returned (.slice b.a b.n b.cap) ∧ OwnB base b xs W' ∧ Below base W W'
/-- One byte, laid in a block of its own. -/
theorem Rd.byte (W : World) (v : Int) (h0 : 0 ≤ v) (h1 : v < 256) : Rd (W.alloc (.cells #[.int .u8 v] 5)) (some ⟨W.heap.size, 0, none⟩) 1 1 [v] := by
  refine ⟨rfl, ⟨Nat.le_refl _, by simp [maxLen]⟩, .inr ⟨_, rfl, fun j u hj => ?_⟩, fun j => ?_⟩
  · rw [Go.WideShapes.add_plain, Nat.zero_add, (Blk.new W 5 #[.int .u8 v]).cell]
    simpa [encB] using hj
  · rcases j with _ | j
    · exact ⟨h0, h1⟩
    · simp [byteAt]
theorem OwnB.alloc {base : Nat} {s : Sl} {xs : List Int} {W : World} (h : OwnB base s xs W) (o : Obj) : OwnB base s xs (W.alloc o) := h.below (box1 o)
theorem own_grown {base : Nat} {b : Sl} {xs : List Int} {W W' : World} (h : OwnB base b xs W) (hg : W.grownBy W' (Value.slice b.a b.n b.cap).ownBlock) (hb : base ≤ W.heap.size) : Below base W W' := (Below.refl base W).grown hg hb (fun k e => (own_low h k e).1)
/-- The first k bytes of a number. -/
def layB (n : Int) : Nat → List Int
  | 0 => []
  | 1 => [n % 256]
  | _ => [n % 256, n / 256]

set_option maxRecDepth 100000 in
set_option maxHeartbeats 4000000 in
theorem lay_any2 (base : Nat) (b : Sl) (xs : List Int) (W : World) (h : OwnB base b xs W) (hb : base ≤ W.heap.size) (n : Int) (h0 : 0 ≤ n) (h1 : n < 65536) (hn : b.n ≤ 900000) (size : Nat) (hs : size = 1 ∨ size = 2) :
    Calls Try.prog 19 #[.slice b.a b.n b.cap, .int .i64 n, .int .i64 size] W (Grew base (xs ++ layB n size) W) := by
  have HB := Lib.hid hb
  have HO := Lib.hid h
  have HN := Lib.hid hn
  have b0 : IntKind.u8.wrap n = n % 256 := by rw [IntKind.wrap_u8]
  have b1 : IntKind.u8.wrap (n / 256) = n / 256 := by rw [IntKind.wrap_u8]; omega
  have m0 : 0 ≤ n % 256 ∧ n % 256 < 256 := by omega
  have m1 : 0 ≤ n / 256 ∧ n / 256 < 256 := by omega
  have M0 := Lib.hid m0
  have M1 := Lib.hid m1
  have HX := Lib.hid h.len
  have HNN := Lib.hid (And.intro h0 h1)
  have HS := Lib.hid hs
  have hsz : (size : Int) ≤ 2 := by omega
  obtain ⟨ba, bn, bc⟩ := b
  dsimp only at HN HX
  clear h hb hn m0 m1 hs
  go_enter Try.func19, Try.ntmps19
  go_wp2
  go_loopw [0, 9] (fun v i V => ∃ (k : Nat) (b : Sl), k ≤ size ∧ i = .int .i64 k ∧ v = .slice b.a b.n b.cap ∧ Hid (OwnB base b (xs ++ layB n k) V) ∧ Hid (b.n = bn + k) ∧ Hid (Below base W V)) (fun _ i _ => size - (intOf i).toNat)
  case atStart => exact ⟨0, ⟨ba, bn, bc⟩, by omega, rfl, rfl, Lib.hid (by simpa [layB] using HO.out), Lib.hid rfl, Lib.hid (Below.refl _ _)⟩
  case round =>
    rename World => V
    obtain ⟨k, b, hk, rfl, rfl, HV, HL, HBV⟩ := hrel
    obtain ⟨va, vn, vc⟩ := b
    dsimp only at HL
    by_cases hks : k < size
    · have hk2 : k = 0 ∨ k = 1 := by omega
      have gk : (k : Int) < size := by omega
      rcases hk2 with rfl | rfl
      · have HR := Lib.hid (Rd.byte V (n % 256) M0.out.1 M0.out.2)
        go_wp2_with (at_builtin; refine wpList_append_rd rfl _ _ rfl base ⟨va, vn, vc⟩ (xs ++ layB n 0) (HV.out.alloc _) ⟨some ⟨V.heap.size, 0, none⟩, 1, 1⟩ [n % 256] HR.out (by have := HL.out; have := HN.out; dsimp only; omega) (by have := HBV.out.size; have := HB.out; simp; omega) rfl rfl ?_; intro b' w2 hown hb' hgr; have HO2 := Lib.hid hown; have HL2 := Lib.hid hb'; have HB2 := Lib.hid (((HBV.out.alloc (by have := HBV.out.size; have := HB.out; omega) _)).trans (own_grown (HV.out.alloc _) hgr (by have := HBV.out.size; have := HB.out; simp; omega))); clear hown hb' hgr)
        go_roundw
        case rel => exact ⟨1, b', by omega, by go_num, rfl, Lib.hid (by simpa [layB] using HO2.out), Lib.hid (by have := HL2.out; have := HL.out; (try dsimp only at *); omega), HB2⟩
        case measure => simp [intOf]; omega
      · have HR := Lib.hid (Rd.byte V (n / 256) M1.out.1 M1.out.2)
        go_wp2_with (at_builtin; refine wpList_append_rd rfl _ _ rfl base ⟨va, vn, vc⟩ (xs ++ layB n 1) (HV.out.alloc _) ⟨some ⟨V.heap.size, 0, none⟩, 1, 1⟩ [n / 256] HR.out (by have := HL.out; have := HN.out; dsimp only; omega) (by have := HBV.out.size; have := HB.out; simp; omega) rfl rfl ?_; intro b' w2 hown hb' hgr; have HO2 := Lib.hid hown; have HL2 := Lib.hid hb'; have HB2 := Lib.hid (((HBV.out.alloc (by have := HBV.out.size; have := HB.out; omega) _)).trans (own_grown (HV.out.alloc _) hgr (by have := HBV.out.size; have := HB.out; simp; omega))); clear hown hb' hgr)
        go_roundw
        case rel => exact ⟨2, b', by omega, by go_num, rfl, Lib.hid (by simpa [layB] using HO2.out), Lib.hid (by have := HL2.out; have := HL.out; (try dsimp only at *); omega), HB2⟩
        case measure => simp [intOf]; omega
    · obtain rfl : k = size := by omega
      go_wp2
      go_ret
      exact ⟨⟨va, vn, vc⟩, rfl, HV.out, HBV.out⟩

theorem prsOf_append (a b : List (List Tri)) : ∀ k, prsOf k (a ++ b) = prsOf k a ++ prsOf (k + a.length) b := by
  induction a with
  | nil => intro k; simp [prsOf]
  | cons l r ih =>
    intro k
    simp only [List.cons_append, prsOf, ih (k + 1), List.append_assoc, List.length_cons]
    rw [show k + 1 + r.length = k + (r.length + 1) by omega]
theorem prsOf_take (ls : List (List Tri)) (k : Nat) (l : List Tri) (h : ls[k]? = some l) : prsOf 0 (ls.take (k + 1)) = prsOf 0 (ls.take k) ++ l.map fun c => (k, c) := by
  have hk := (List.getElem?_eq_some_iff.1 h).1
  rw [List.take_add_one, h, Option.toList_some, prsOf_append, List.length_take, Nat.min_eq_left (by omega)]
  simp [prsOf]
theorem encP_append (a b : List (Nat × Tri)) : encP (a ++ b) = encP a ++ encP b := by simp [encP]
/-- Amid Write: the script's box, and the bytes so far. -/
structure WS (w : World) (c : Cf) (x y z : Sl) (b : Sl) (xs : List Int) (W : World) : Prop where
  box : Blk W w.heap.size 29 (scs c x y z)
  own : OwnB (w.heap.size + 1) b xs W
  bel : Below w.heap.size w W
theorem WS.lt {w W : World} {c : Cf} {x y z b : Sl} {xs : List Int} (h : WS w c x y z b xs W) : w.heap.size + 1 ≤ W.heap.size := h.box.lt
theorem WS.below {w W V : World} {c : Cf} {x y z b : Sl} {xs : List Int} (h : WS w c x y z b xs W) (hb : Below W.heap.size W V) : WS w c x y z b xs V :=
  ⟨h.box.below hb h.box.lt, h.own.below hb, below_then h.bel hb (Nat.le_refl _)⟩
theorem WS.grew {w W V : World} {c : Cf} {x y z b b' : Sl} {xs ys : List Int} (h : WS w c x y z b xs W) (ho : OwnB (w.heap.size + 1) b' ys V) (hb : Below (w.heap.size + 1) W V) : WS w c x y z b' ys V :=
  ⟨h.box.below hb (Nat.lt_succ_self _), ho, h.bel.trans (hb.mono (Nat.le_succ _))⟩
/-- What Write answers. -/
structure Wrote (w : World) (bs : List Int) (e : Ending) (W' : World) : Prop where
  ex : ∃ b : Sl, e = .returned (.tuple #[.slice b.a b.n b.cap, .int .i64 0]) ∧ Rd W' b.a b.n b.cap bs ∧ Below w.heap.size w W'

set_option maxRecDepth 100000 in
theorem write_bad (s : Sc) (x y z : Sl) (w : World) (h : SV w s x y z) (ht : tot s.ls ≤ 1000000) (hr : rightS s = false) : Calls Try.prog 11 #[sv s.c x y z] w fun e w' => e = .returned (.tuple #[.slice none 0 0, .int .i64 1]) ∧ Below w.heap.size w w' := by
  have h0 : Below w.heap.size w (w.alloc (.cells (scs s.c x y z) 29)) := box1 _
  have K := rightS_any s x y z _ (h.below h0) ht
  rw [hr] at K
  clear h hr ht
  obtain ⟨c, ls, ps, ds⟩ := s
  dsimp only at *
  go_enter Try.func11, Try.ntmps11
  go_wp2_with fail
  refine K.mono ?_
  rintro e w1 ⟨rfl, hb⟩
  have HF := Lib.hid (below_then h0 hb (Nat.le_refl _))
  clear hb h0 K
  go_wp2
  refine bodyPost_ret (v := .tuple #[.slice none 0 0, .int .i64 1]) (by simp [results, Try.results11, go_sem]) rfl ⟨rfl, HF.out⟩

theorem bytesOf_range (s : Sc) (h : rightS s = true) (hf : ∀ l ∈ s.ls, ∀ c ∈ l, Fit c) (hd : ∀ j, 0 ≤ byteAt s.ds j ∧ byteAt s.ds j < 256) : ∀ j, 0 ≤ byteAt (bytesOf s) j ∧ byteAt (bytesOf s) j < 256 := by
  obtain ⟨h1, h2, h3, h4, h5, h6, h7⟩ := rightS_parts h
  obtain ⟨c, ls, ps, ds⟩ := s
  obtain ⟨al, th, nd, lv, ba, pr, sc⟩ := c
  obtain ⟨g0, g1, g2, g3, g4, g5, g6, g7, g8, g9, g10, g11, g12, g13⟩ := h1
  dsimp only at *
  have hs := sent_in al
  have key : ∀ (l : List Int), (∀ v ∈ l, 0 ≤ v ∧ v < 256) → ∀ j, 0 ≤ byteAt l j ∧ byteAt l j < 256 := by
    intro l hl j
    unfold byteAt
    by_cases hj : j < l.length
    · rw [List.getD_eq_getElem?_getD, List.getElem?_eq_getElem hj]
      exact hl _ (List.getElem_mem hj)
    · simp [List.getD_eq_getElem?_getD, List.getElem?_eq_none (Nat.le_of_not_lt hj)]
  have keyd : ∀ v ∈ ds, 0 ≤ v ∧ v < 256 := by
    intro v hv
    obtain ⟨j, hj, rfl⟩ := List.getElem_of_mem hv
    have := hd j
    unfold byteAt at this
    rwa [List.getD_eq_getElem?_getD, List.getElem?_eq_getElem hj] at this
  refine key _ fun v hv => ?_
  simp only [bytesOf, List.mem_append, List.mem_cons, List.not_mem_nil, or_false] at hv
  rcases hv with (rfl | rfl | rfl | rfl | rfl | rfl | rfl) | rfl | hv | rfl | rfl | hv | hv
  · omega
  · omega
  · omega
  · omega
  · omega
  · omega
  · omega
  · omega
  · obtain ⟨p, hp, hv⟩ := List.mem_flatMap.1 hv
    obtain ⟨_, a, l, hl, hc⟩ := prsOf_mem ls 0 p hp
    have hr : rightB p.2 = true := by
      unfold allB at h4
      rw [List.all_eq_true] at h4
      have := h4 l hl
      rw [List.all_eq_true] at this
      exact this _ hc
    simp only [List.mem_cons] at hv
    rcases hv with rfl | hv
    · omega
    · obtain ⟨j, hj, rfl⟩ := List.getElem_of_mem hv
      have := code_bytes p.2 hr j
      unfold byteAt at this
      rwa [List.getD_eq_getElem?_getD, List.getElem?_eq_getElem hj] at this
  · omega
  · omega
  · have := h6 v hv
    omega
  · exact keyd v hv
end Go.Proofs.Ytdmdmkgpnelkjaa
