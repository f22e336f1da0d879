/- Two scripts that read the same are the same. -/
import Derived.Test.YtdmdmkgpnelkjaaRefRight
import Derived.BigRegion
namespace Go.Proofs.Ytdmdmkgpnelkjaa
open Go.ChangeShapes Go.WideShapes Go.ChangeAt Go.RowKit
set_option linter.unusedVariables false

/-- A slice of bytes as a text. -/
theorem Rd.text {W : World} {a : Option Addr} {n cap : Nat} {bs : List Int} (h : Rd W a n cap bs) : (convert 22 9 (.slice a n cap)).run Try.prog W = .ok (.string ⟨(bs.map u8).toArray⟩) W := by
  have hl := h.len
  cases a with
  | some x =>
    have := to_text W x cap bs (fun j _ => h.bytes j) (fun j hj => h.cell j (by omega))
    rwa [hl] at this
  | none =>
    obtain rfl := h.nil
    obtain rfl : bs = [] := List.eq_nil_of_length_eq_zero hl
    rw [run_convert_bytes_string W 22 9 5 none 0 cap Try.underlying22 Try.underlying5 Try.underlying9]
    simp [Conv.bytesToString]
    rfl
theorem eq_str (a b : List UInt8) (w : World) : (Op.equalIn 10000 9 (.string ⟨a.toArray⟩) (.string ⟨b.toArray⟩)).run Try.prog w = .ok (a == b) w := by
  rw [run_equalIn_string w 9999 9 _ _ Try.underlying9, ByteArray.toList_eq, ByteArray.toList_eq]

/-- Amid Same: two scripts that read as s, boxed. -/
structure TwoS (s : Sc) (x y z x' y' z' : Sl) (w W : World) : Prop where
  ha : Blk W w.heap.size 29 (scs s.c x y z)
  hb : Blk W (w.heap.size + 1) 29 (scs s.c x' y' z')
  bel : Below w.heap.size w W
theorem TwoS.below {s : Sc} {x y z x' y' z' : Sl} {w W V : World} (h : TwoS s x y z x' y' z' w W) (b : Below W.heap.size W V) : TwoS s x y z x' y' z' w V :=
  ⟨h.ha.below b h.ha.lt, h.hb.below b h.hb.lt, below_then h.bel b (Nat.le_refl _)⟩
theorem TwoS.start (s : Sc) (x y z x' y' z' : Sl) (w : World) : TwoS s x y z x' y' z' w ((w.alloc (.cells (scs s.c x y z) 29)).alloc (.cells (scs s.c x' y' z') 29)) :=
  ⟨(Blk.new _ _ _).alloc _, by simpa using Blk.new (w.alloc (.cells (scs s.c x y z) 29)) 29 (scs s.c x' y' z'), ((Below.refl w.heap.size w).alloc (Nat.le_refl _) _).alloc (by simp) _⟩

set_option maxRecDepth 100000 in
set_option maxHeartbeats 16000000 in
theorem same_any (s : Sc) (x y z x' y' z' : Sl) (w : World) (h : SV w s x y z) (h' : SV w s x' y' z') : Calls Try.prog 9 #[sv s.c x y z, sv s.c x' y' z'] w fun e w' => e = .returned (.bool true) ∧ Below w.heap.size w w' := by
  have S0 := TwoS.start s x y z x' y' z' w
  have l1 := h.hx.len
  have l2 := h.hy.picks_len
  have l3 := h.hz.len
  have l1' := h'.hx.len
  have l2' := h'.hy.picks_len
  have l3' := h'.hz.len
  have m1 := h.hx.room
  have m2 := h.hy.room
  unfold maxLen at m1 m2
  have qc : ∀ w, (Op.equalIn 10000 25 s.c.v s.c.v).run Try.prog w = .ok true w := fun w => by rw [eq_conf, Cf.eqB_self]
  have t1 := fun W (b : Below w.heap.size w W) => (h.hz.below b).text
  have t2 := fun W (b : Below w.heap.size w W) => (h'.hz.below b).text
  have qs := fun w => eq_str (s.ds.map u8) (s.ds.map u8) w
  simp only [beq_self_eq_true] at qs
  have HV := Lib.hid h
  have HV' := Lib.hid h'
  obtain ⟨c, ls, ps, ds⟩ := s
  obtain ⟨xa, xn, xc⟩ := x
  obtain ⟨ya, yn, yc⟩ := y
  obtain ⟨za, zn, zc'⟩ := z
  obtain ⟨xa', xn', xc'⟩ := x'
  obtain ⟨ya', yn', yc'⟩ := y'
  obtain ⟨za', zn', zc''⟩ := z'
  dsimp only at *
  subst l1 l2 l3 l1' l2' l3'
  generalize (ds.map u8) = T at *
  clear h h'
  have t1 := t1 _ S0.bel
  have t2 := t2 _ S0.bel
  go_enter Try.func9, Try.ntmps9
  go_wp2
  have HS := Lib.hid S0
  clear S0 t1 t2
  generalize (((w.alloc (.cells (scs c ⟨xa, ls.length, xc⟩ ⟨ya, ps.length, yc⟩ ⟨za, ds.length, zc'⟩) 29)).alloc (.cells (scs c ⟨xa', ls.length, xc'⟩ ⟨ya', ps.length, yc'⟩ ⟨za', ds.length, zc''⟩) 29))) = W0 at *
  go_loopw [5] (fun t W => ∃ k : Nat, k ≤ ls.length ∧ t = .int .i64 k ∧ Hid (Below W0.heap.size W0 W)) (fun t _ => ls.length - (intOf t).toNat)
  case atStart => exact ⟨0, by omega, rfl, Lib.hid (Below.refl _ _)⟩
  case round =>
    obtain ⟨k, hk, rfl, HB⟩ := hrel
    have HSw := Lib.hid (HS.out.below HB.out)
    obtain ⟨x0, x1, x2, x3, x4, x5, x6, x7, x8, x9⟩ := HSw.out.ha.script
    obtain ⟨y0, y1, y2, y3, y4, y5, y6, y7, y8, y9⟩ := HSw.out.hb.script
    dsimp only at x7 x8 x9 y7 y8 y9
    by_cases hkn : k < ls.length
    · have hl : ls[k]? = some ls[k] := List.getElem?_eq_getElem hkn
      obtain ⟨b, off, q, rfl, hq, hqn, hr⟩ := (HV.out.below HSw.out.bel).hx.at_ k _ hl
      obtain ⟨b', off', q', rfl, hq', hqn', hr'⟩ := (HV'.out.below HSw.out.bel).hx.at_ k _ hl
      have gk : (k : Int) < ls.length := by omega
      have w2 := IntWalk.i64_in ((k : Int) + 1) (by omega)
      have hm := hr.room
      unfold maxLen at hm
      have HR := Lib.hid hr
      have HR' := Lib.hid hr'
      obtain ⟨qa, qn, qc⟩ := q
      obtain ⟨qa', qn', qc'⟩ := q'
      dsimp only at hq hqn hm hq' hqn'
      subst hqn hqn'
      clear hl hr hr'
      generalize ls[k] = l at *
      go_wp2_with fail
      go_quiet (fail)
      go_wp2_with fail
      have HB1 := Lib.hid (below_drewN HB.out nq)
      have hq0 : (wr.drewN nq).cell? ⟨b, off + k, none⟩ = some (.slice qa l.length qc) := hq
      have hq0' : (wr.drewN nq).cell? ⟨b', off' + k, none⟩ = some (.slice qa' l.length qc') := hq'
      have HR1 := Lib.hid (show Reads (wr.drewN nq) ⟨qa, l.length, qc⟩ 3 (encT l) from HR.out.below (below_drewN (Below.refl _ _) _))
      have HR1' := Lib.hid (show Reads (wr.drewN nq) ⟨qa', l.length, qc'⟩ 3 (encT l) from HR'.out.below (below_drewN (Below.refl _ _) _))
      clear hq hq' HR HR' HB HSw x0 x1 x2 x3 x4 x5 x6 x7 x8 x9 y0 y1 y2 y3 y4 y5 y6 y7 y8 y9
      generalize wr.drewN nq = V at *
      go_loopw [6] (fun i W => ∃ j : Nat, j ≤ l.length ∧ i = .int .i64 j ∧ Hid (Below V.heap.size V W)) (fun i _ => l.length - (intOf i).toNat)
      case atStart => exact ⟨0, by omega, rfl, Lib.hid (Below.refl _ _)⟩
      case round =>
        rename_i wq
        obtain ⟨j, hj, rfl, HB2⟩ := hrel
        have HB3 := Lib.hid (below_then HB1.out HB2.out (Nat.le_refl _))
        have HSw := Lib.hid (HS.out.below HB3.out)
        obtain ⟨x0, x1, x2, x3, x4, x5, x6, x7, x8, x9⟩ := HSw.out.ha.script
        obtain ⟨y0, y1, y2, y3, y4, y5, y6, y7, y8, y9⟩ := HSw.out.hb.script
        dsimp only at x7 x8 x9 y7 y8 y9
        have hq2 := (HB2.out.cell (World.block_lt_of_cell? _ _ hq0)).trans hq0
        have hq2' := (HB2.out.cell (World.block_lt_of_cell? _ _ hq0')).trans hq0'
        have HQ := Lib.hid hq0
        have HQ' := Lib.hid hq0'
        clear hq0 hq0'
        by_cases hjn : j < l.length
        · have hl2 : l[j]? = some l[j] := List.getElem?_eq_getElem hjn
          obtain ⟨b2, off2, rfl, c0, c1, c2⟩ := (HR1.out.below HB2.out).tri j _ hl2
          obtain ⟨b2', off2', rfl, c0', c1', c2'⟩ := (HR1'.out.below HB2.out).tri j _ hl2
          have gj : (j : Int) < l.length := by omega
          have w3 := IntWalk.i64_in ((j : Int) + 1) (by omega)
          clear hl2
          generalize l[j] = t at *
          have qt := eq_self 49 rfl t
          obtain ⟨t0, t1, t2⟩ := t
          simp only [Tri.v] at qt
          dsimp only at c0 c1 c2 c0' c1' c2'
          go_wp2_with fail
          go_quiet (fail)
          go_wp2
          go_roundw
          case rel => exact ⟨j + 1, by omega, by go_num, Lib.hid (below_drewN HB2.out _)⟩
          case measure => simp [intOf]; omega
        · obtain rfl : j = l.length := by omega
          go_wp2
          go_roundw
          case rel => exact ⟨k + 1, by omega, by go_num, HB3⟩
          case measure => simp [intOf]; omega
    · obtain rfl : k = ls.length := by omega
      go_wp2_with fail
      go_loopw [7] (fun i W => ∃ j : Nat, j ≤ ps.length ∧ i = .int .i64 j ∧ Hid (Below W0.heap.size W0 W)) (fun i _ => ps.length - (intOf i).toNat)
      case atStart => exact ⟨0, by omega, rfl, HB⟩
      case round =>
        rename_i wq
        clear HB HSw x0 x1 x2 x3 x4 x5 x6 x7 x8 x9 y0 y1 y2 y3 y4 y5 y6 y7 y8 y9
        obtain ⟨j, hj, rfl, HB⟩ := hrel
        have HSw := Lib.hid (HS.out.below HB.out)
        obtain ⟨x0, x1, x2, x3, x4, x5, x6, x7, x8, x9⟩ := HSw.out.ha.script
        obtain ⟨y0, y1, y2, y3, y4, y5, y6, y7, y8, y9⟩ := HSw.out.hb.script
        dsimp only at x7 x8 x9 y7 y8 y9
        by_cases hjn : j < ps.length
        · have hl : ps[j]? = some ps[j] := List.getElem?_eq_getElem hjn
          obtain ⟨b, off, rfl, hq⟩ := (HV.out.below HSw.out.bel).hy.pick j _ hl
          obtain ⟨b', off', rfl, hq'⟩ := (HV'.out.below HSw.out.bel).hy.pick j _ hl
          have gj : (j : Int) < ps.length := by omega
          have w2 := IntWalk.i64_in ((j : Int) + 1) (by omega)
          clear hl
          generalize ps[j] = p at *
          go_wp2_with fail
          go_quiet (fail)
          go_wp2
          go_roundw
          case rel => exact ⟨j + 1, by omega, by go_num, Lib.hid (below_drewN HB.out _)⟩
          case measure => simp [intOf]; omega
        · obtain rfl : j = ps.length := by omega
          have HF := Lib.hid HSw.out.bel
          go_wp2
          go_ret
          exact ⟨rfl, HF.out⟩
end Go.Proofs.Ytdmdmkgpnelkjaa
