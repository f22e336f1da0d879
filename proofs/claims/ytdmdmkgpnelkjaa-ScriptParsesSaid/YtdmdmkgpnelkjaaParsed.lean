/- Parse. -/
import Derived.Test.YtdmdmkgpnelkjaaParse
namespace Go.Proofs.Ytdmdmkgpnelkjaa
open Go.ChangeShapes Go.WideShapes Go.ChangeAt Go.RowKit
set_option linter.unusedVariables false

/-- What Parse answers. -/
structure Parsed (w : World) (p : Except Int Sc) (e : Ending) (W' : World) : Prop where
  ex : ∃ x y z : Sl, e = .returned (.tuple #[sv (scOf p).c x y z, .int .i64 (erOf p)]) ∧ SV W' (scOf p) x y z ∧ Below w.heap.size w W'
abbrev put10 (W : World) (R : Nat) (c : Cf) (x y z : Sl) : World := (((((((((W.setCell ⟨R, 0, none⟩ (.int .i64 c.al)).setCell ⟨R, 1, none⟩ (.int .i64 c.th)).setCell ⟨R, 2, none⟩ (.int .i64 c.nd)).setCell ⟨R, 3, none⟩ (.int .i64 c.lv)).setCell ⟨R, 4, none⟩ (.int .i64 c.ba)).setCell ⟨R, 5, none⟩ (.int .i64 c.pr)).setCell ⟨R, 6, none⟩ (.int .i64 c.sc)).setCell ⟨R, 7, none⟩ (.slice x.a x.n x.cap)).setCell ⟨R, 8, none⟩ (.slice y.a y.n y.cap)).setCell ⟨R, 9, none⟩ (.slice z.a z.n z.cap)
theorem put10_blk {W : World} {R : Nat} {t : TypeId} {c0 : Cf} {x0 y0 z0 : Sl} (h : Blk W R t (scs c0 x0 y0 z0)) (c : Cf) (x y z : Sl) : Blk (put10 W R c x y z) R t (scs c x y z) := by
  have := (((((((((h.set 0 (.int .i64 c.al)).set 1 (.int .i64 c.th)).set 2 (.int .i64 c.nd)).set 3 (.int .i64 c.lv)).set 4 (.int .i64 c.ba)).set 5 (.int .i64 c.pr)).set 6 (.int .i64 c.sc)).set 7 (.slice x.a x.n x.cap)).set 8 (.slice y.a y.n y.cap)).set 9 (.slice z.a z.n z.cap)
  simpa using this
theorem put10_grown (W : World) (R : Nat) (c : Cf) (x y z : Sl) : W.grownBy (put10 W R c x y z) (some R) :=
  grown_trans (grown_trans (grown_trans (grown_trans (grown_trans (grown_trans (grown_trans (grown_trans (grown_trans grown_set grown_set) grown_set) grown_set) grown_set) grown_set) grown_set) grown_set) grown_set) grown_set
theorem put10_below {w W : World} {R : Nat} (h : Below w.heap.size w W) (hR : w.heap.size ≤ R) (c : Cf) (x y z : Sl) : Below w.heap.size w (put10 W R c x y z) :=
  h.grown (put10_grown W R c x y z) h.size (fun k e => by have := Option.some.inj e; omega)
/-- What was parsed reads so. -/
theorem parsed_sv {bs : List Int} {s : Sc} {V : World} {x y z : Sl} (hb : ∀ j, 0 ≤ byteAt bs j ∧ byteAt bs j < 256) (hp : parseL bs = .ok s) (hx : RdL V x s.ls) (hy : Reads V y 1 (encI s.ps)) (hz : Rd V z.a z.n z.cap s.ds) : SV V s x y z := by
  refine ⟨hx, hy, hz, ?_⟩
  obtain ⟨_, _, _, _, _, rfl⟩ := parse_ok hp
  refine byTh_fit _ _ fun p hp => ?_
  obtain ⟨j, _, rfl⟩ := List.mem_map.1 hp
  refine decT_fit _ fun i => ?_
  rw [byteAt_drop, byteAt_drop]
  exact hb _

set_option maxRecDepth 100000 in
set_option maxHeartbeats 8000000 in
theorem parse_any (r : Sl) (bs : List Int) (w : World) (h : Rd w r.a r.n r.cap bs) : Calls Try.prog 7 #[.slice r.a r.n r.cap] w (Parsed w (parseL bs)) := by
  have hby := h.bytes
  have hA : Blk (w.alloc (.cells (scs zc nilS nilS nilS) 29)) w.heap.size 29 (scs zc nilS nilS nilS) := Blk.new _ _ _
  have h0 : Below w.heap.size w (w.alloc (.cells (scs zc nilS nilS nilS) 29)) := box1 _
  have hR : Rr (w.alloc (.cells (scs zc nilS nilS nilS) 29)) (w.heap.size + 1) r bs zc nilS nilS nilS ((w.alloc (.cells (scs zc nilS nilS nilS) 29)).alloc (.cells (rcs r zc nilS nilS nilS) 44)) :=
    ⟨by simpa using Blk.new (w.alloc (.cells (scs zc nilS nilS nilS) 29)) 44 (rcs r zc nilS nilS nilS), by simp, h.below h0, box1 _⟩
  have K := read_any hR
  generalize hp : parseL bs = p at *
  have HP := Lib.hid hp
  have HBY := Lib.hid hby
  have HA := Lib.hid hA
  have H0 := Lib.hid h0
  clear h hby hA hp hR h0
  obtain ⟨ra, rn, rc⟩ := r
  dsimp only at *
  go_enter Try.func7, Try.ntmps7
  go_wp2_with fail
  refine K.mono ?_
  rintro e w1 ⟨hE⟩
  rcases hE with ⟨er, rfl, he0, rfl, hb⟩ | ⟨s, q, x, y, z, rfl, rfl, hq, hx, hy, hz⟩
  · have hA1 := HA.out.below hb HA.out.lt
    have hb1 := below_then H0.out hb (Nat.le_refl _)
    obtain ⟨x0, x1, x2, x3, x4, x5, x6, x7, x8, x9⟩ := hA1.script
    have xf := hA1.frozen
    have hlt := hA1.lt
    have he : (er == 0) = false := by simpa using he0
    have HE := Lib.hid (put10_below hb1 (Nat.le_refl _) zc nilS nilS nilS)
    clear hA1 hb1 hb K he0
    go_wp2
    refine bodyPost_ret (v := .tuple #[sv zc nilS nilS nilS, .int .i64 er]) (by simp [results, Try.results7, go_sem, *]) rfl ⟨nilS, nilS, nilS, rfl, SV.zero _, HE.out⟩
  · have hA1 := HA.out.below hq.bel HA.out.lt
    have hb1 := below_then H0.out hq.bel (Nat.le_refl _)
    obtain ⟨x0, x1, x2, x3, x4, x5, x6, x7, x8, x9⟩ := hA1.script
    obtain ⟨y0, y1, y2, y3, y4, y5, y6, y7, y8, y9, y10⟩ := hq.box.rdr
    have xf := hA1.frozen
    have hlt := hA1.lt
    have hBl := hq.lt
    have hV : SV (put10 w1 w.heap.size s.c x y z) s x y z := by
      have hag : ∀ k, k < w1.heap.size → w.heap.size + 1 < k → (put10 w1 w.heap.size s.c x y z).heap[k]? = w1.heap[k]? := fun k hk hgt => (put10_grown w1 w.heap.size s.c x y z).block k hk (by intro e; have := Option.some.inj e; omega)
      exact parsed_sv HBY.out HP.out (hx _ hag) (hy _ hag) (hz _ hag)
    have HV := Lib.hid hV
    have HE := Lib.hid (put10_below hb1 (Nat.le_refl _) s.c x y z)
    clear hA1 hb1 hq hx hy hz K hV
    obtain ⟨c, ls, ps, ds⟩ := s
    dsimp only at *
    go_wp2
    refine bodyPost_ret (v := .tuple #[sv c x y z, .int .i64 0]) (by simp [results, Try.results7, go_sem, *]) rfl ⟨x, y, z, rfl, HV.out, HE.out⟩
end Go.Proofs.Ytdmdmkgpnelkjaa
