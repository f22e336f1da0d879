/- Same, by the document; are pairs in order? -/
import Derived.Test.YtjmejdalmglehaaOwn
namespace Go.Proofs.Ytjmejdalmglehaa
open Go.ChangeShapes Go.WideShapes Go.ChangeAt Go.RowKit
set_option linter.unusedVariables false

structure AtS (wr : World) (b o : Nat) (p : Pr) (W : World) : Prop where
  bel : Below wr.heap.size wr W
  at_ : PrAt W b o p
theorem AtS.below {wr W V : World} {b o : Nat} {p : Pr} (h : AtS wr b o p W) (hb : Below W.heap.size W V) : AtS wr b o p V := ⟨below_then h.bel hb, h.at_.below hb⟩
theorem AtS.cells {wr W : World} {b o : Nat} {p : Pr} (h : AtS wr b o p W) : W.cell? ⟨b, o, none⟩ = some (.int .u32 p.k) ∧ W.cell? ⟨b, o + 1, none⟩ = some (.int .u32 p.v) := ⟨h.at_.x0, h.at_.x1⟩
set_option maxRecDepth 100000 in
set_option maxHeartbeats 4000000 in
theorem same_any (s t : Sl) (m l : List Pr) (w : World) (h : Reads w s 2 (encP m)) (k : Reads w t 2 (encP l)) (hp : m.Perm l) : Calls Try.prog 17 #[.slice s.a s.n s.cap, .slice t.a t.n t.cap] w fun e w' => e = .returned (.bool true) ∧ Below w.heap.size w w' := by
  have hn := h.lenP
  have kn := k.lenP
  have hpl := hp.length_eq
  have hroom := h.room
  unfold maxLen at hroom
  have HR := Lib.hid h
  have KC := Lib.hid fun p W (hW : Below w.heap.size w W) => count_any s m p W (h.below hW)
  have KD := Lib.hid fun p W (hW : Below w.heap.size w W) => count_any t l p W (k.below hW)
  have HC := Lib.hid fun p => hp.count_eq p
  rw [← hpl] at kn
  clear h k hp
  obtain ⟨sa, sn, sc⟩ := s
  obtain ⟨ta, tn, tc⟩ := t
  dsimp only at *
  subst hn kn
  clear hpl
  go_enter Try.func17, Try.ntmps17
  go_wp2_with fail
  go_loopw [5] (fun i W => ∃ k : Nat, k ≤ m.length ∧ i = .int .i64 k ∧ Hid (Below w.heap.size w W)) (fun i _ => m.length - (intOf i).toNat)
  case atStart => exact ⟨0, by omega, rfl, Lib.hid (Below.refl _ _)⟩
  case round =>
    obtain ⟨k, hk, rfl, HL⟩ := hrel
    by_cases hkn : k < m.length
    · obtain ⟨b, off, rfl, x0, x1⟩ := (HR.out.below HL.out).pr hkn
      have gk : (k : Int) < m.length := by omega
      have w2 := IntWalk.i64_in ((k : Int) + 1) (by omega)
      have HX := Lib.hid (Reads.below HR.out HL.out)
      have HP : Hid (∀ W, Below wr.heap.size wr W → PrAt W b (off + k * 2) (ithP m k)) := Lib.hid fun W hW => PrAt.below ⟨x0, x1⟩ hW
      have KC2 := Lib.hid fun W (hW : Below wr.heap.size wr W) => KC.out (ithP m k) W (below_then HL.out hW)
      have KD2 := Lib.hid fun W (hW : Below wr.heap.size wr W) => KD.out (ithP m k) W (below_then HL.out hW)
      have hcc := HC.out (ithP m k)
      rw [hcc] at KC2
      have S0 : AtS wr b (off + k * 2) (ithP m k) wr.drew := ⟨below_drew (Below.refl _ _), PrAt.below ⟨x0, x1⟩ (below_drew (Below.refl _ _))⟩
      clear hcc HC KC KD HX HR HP
      generalize ((l.count (ithP m k) : Nat) : Int) = n at *
      generalize ithP m k = p at *
      obtain ⟨pk, pv⟩ := p
      dsimp only [Pr.val] at *
      go_wp2_with fail
      go_region_held3 (fun W => W.cell? ⟨b, off + k * 2, none⟩ = some (.int .u32 pk) ∧ W.cell? ⟨b, off + k * 2 + 1, none⟩ = some (.int .u32 pv)) (first | exact AtS.cells (by assumption) | go_keep)
        (first | (go_at_call_of 8 (Value.slice (some ⟨b, off, none⟩) m.length sc); refine (KC2.out _ (AtS.bel (by assumption))).mono ?_; rintro e V' ⟨rfl, hb⟩; have S' := AtS.below (by assumption) hb; clear hb) | (go_at_call_of 8 (Value.slice ta m.length tc); refine (KD2.out _ (AtS.bel (by assumption))).mono ?_; rintro e V' ⟨rfl, hb⟩; have S' := AtS.below (by assumption) hb; clear hb))
      all_goals
        have HL2 := Lib.hid (below_then HL.out (AtS.bel (by assumption)))
        clear KC2 KD2 HL
        go_wp2
        go_roundw
        case rel => exact ⟨k + 1, by omega, by go_num, HL2⟩
        case measure => simp [intOf]; omega
    · obtain rfl : k = m.length := by omega
      clear KC KD HR
      go_wp2
      go_ret
      exact ⟨rfl, HL.out⟩
end Go.Proofs.Ytjmejdalmglehaa
