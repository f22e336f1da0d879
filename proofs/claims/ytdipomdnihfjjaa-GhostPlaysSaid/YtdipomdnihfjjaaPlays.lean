/- The walk of GhostPlays. -/
import Derived.Test.YtdipomdnihfjjaaKept
import Derived.Deep.RegionWith
namespace Go.Proofs.Ytdipomdnihfjjaa
open Go.ChangeShapes Go.WideShapes Go.ChangeAt Go.RowKit
set_option linter.unusedVariables false

/-- Both: all that the law keeps, and the deed. -/
structure PB (B : Nat) (ad : Option Addr) (T Fb X n : Nat) (s : GS) (lt : List Int) (fk fi k i : Int) (w W : World) : Prop where
  pl : Pl B ad T Fb n s lt fk fi w W
  bx : Bx B ad X k i W
theorem PB.then {B : Nat} {ad : Option Addr} {T Fb X n : Nat} {s s' : GS} {lt : List Int} {fk fi k i : Int} {w W W' : World} (h : PB B ad T Fb X n s lt fk fi k i w W) (g : GAt B ad n s' W') (o : Only B ad W W') : PB B ad T Fb X n s' lt fk fi k i w W' := ⟨h.pl.then g o, h.bx.then o⟩
theorem PB.later {B : Nat} {ad : Option Addr} {T Fb X n : Nat} {s : GS} {lt : List Int} {fk fi k i : Int} {w W W' : World} (h : PB B ad T Fb X n s lt fk fi k i w W) (b : Below W.heap.size W W') : PB B ad T Fb X n s lt fk fi k i w W' := ⟨h.pl.later b, h.bx.later b⟩
theorem PB.drew {B : Nat} {ad : Option Addr} {T Fb X n : Nat} {s : GS} {lt : List Int} {fk fi k i : Int} {w W : World} (h : PB B ad T Fb X n s lt fk fi k i w W) : PB B ad T Fb X n s lt fk fi k i w W.drew := h.later (below_drewN (Below.refl _ _) 1)
theorem PB.drewN {B : Nat} {ad : Option Addr} {T Fb X n : Nat} {s : GS} {lt : List Int} {fk fi k i : Int} {w W : World} (h : PB B ad T Fb X n s lt fk fi k i w W) (q : Nat) : PB B ad T Fb X n s lt fk fi k i w (W.drewN q) := h.later (below_drewN (Below.refl _ _) q)
theorem PB.setT {B : Nat} {ad : Option Addr} {T Fb X n : Nat} {s : GS} {lt : List Int} {fk fi k i : Int} {w W : World} (h : PB B ad T Fb X n s lt fk fi k i w W) (j : Nat) (x : Int) : PB B ad T Fb X n s (lt.set j x) fk fi k i w (W.setCell ⟨T, j, none⟩ (.int .i64 x)) := ⟨h.pl.setT j x, h.bx.set h.pl.tags (by decide) _ _⟩
theorem PB.setF {B : Nat} {ad : Option Addr} {T Fb X n : Nat} {s : GS} {lt : List Int} {fk fi k i : Int} {w W : World} (h : PB B ad T Fb X n s lt fk fi k i w W) (x y : Int) : PB B ad T Fb X n s lt x y k i w ((W.setCell ⟨Fb, 0, none⟩ (.int .i64 x)).setCell ⟨Fb, 1, none⟩ (.int .i64 y)) :=
  ⟨h.pl.setF x y, (h.bx.set h.pl.first (by decide) 0 (.int .i64 x)).set (h.pl.first.set 0 (.int .i64 x)) (by decide) 1 _⟩
theorem PB.cells {B : Nat} {ad : Option Addr} {T Fb X n : Nat} {s : GS} {lt : List Int} {fk fi k i : Int} {w W : World} (h : PB B ad T Fb X n s lt fk fi k i w W) :
    W.cell? ⟨X, 0, none⟩ = some (.int .i64 k) ∧ W.cell? ⟨X, 1, none⟩ = some (.int .i64 i) ∧ W.cell? ⟨Fb, 0, none⟩ = some (.int .i64 fk) ∧ W.cell? ⟨Fb, 1, none⟩ = some (.int .i64 fi) := ⟨h.bx.cells.1, h.bx.cells.2, h.pl.cells.1, h.pl.cells.2⟩

/-- How many of the first m have each tag. -/
def cnt (l : List Int) (m : Nat) : List Int := [countOf (l.take m) 0, countOf (l.take m) 1, countOf (l.take m) 2]
theorem cnt_le (l : List Int) (m : Nat) (x : Nat) : 0 ≤ countOf (l.take m) x ∧ countOf (l.take m) x ≤ m := by
  have := countOf_le (l.take m) x
  have := List.length_take_le m l
  omega
theorem cnt_next (l : List Int) (m x : Nat) (hm : m < l.length) (h : tagAt l m = x) (h2 : x ≤ 2) : cnt l (m + 1) = (cnt l m).set x (countOf (l.take m) x + 1) := by
  unfold cnt
  rw [countOf_next l 0 m hm, countOf_next l 1 m hm, countOf_next l 2 m hm, h]
  obtain rfl | rfl | rfl : x = 0 ∨ x = 1 ∨ x = 2 := by omega
  · simp
  · simp
  · simp
/-- All that the law keeps, and the counts. -/
structure PC (B : Nat) (ad : Option Addr) (T Fb C n : Nat) (s : GS) (l : List Int) (w W : World) : Prop where
  pl : Pl B ad T Fb n s s.tags s.k s.i w W
  cn : Blk W C 33 (encI l)
  own : w.heap.size ≤ C
theorem PC.later {B : Nat} {ad : Option Addr} {T Fb C n : Nat} {s : GS} {l : List Int} {w W W' : World} (h : PC B ad T Fb C n s l w W) (b : Below W.heap.size W W') : PC B ad T Fb C n s l w W' := ⟨h.pl.later b, h.cn.below b, h.own⟩
theorem PC.drew {B : Nat} {ad : Option Addr} {T Fb C n : Nat} {s : GS} {l : List Int} {w W : World} (h : PC B ad T Fb C n s l w W) : PC B ad T Fb C n s l w W.drew := h.later (below_drewN (Below.refl _ _) 1)
theorem PC.drewN {B : Nat} {ad : Option Addr} {T Fb C n : Nat} {s : GS} {l : List Int} {w W : World} (h : PC B ad T Fb C n s l w W) (q : Nat) : PC B ad T Fb C n s l w (W.drewN q) := h.later (below_drewN (Below.refl _ _) q)
theorem PC.set {B : Nat} {ad : Option Addr} {T Fb C n : Nat} {s : GS} {l : List Int} {w W : World} (h : PC B ad T Fb C n s l w W) (j : Nat) (x : Int) : PC B ad T Fb C n s (l.set j x) w (W.setCell ⟨C, j, none⟩ (.int .i64 x)) := by
  refine ⟨⟨⟨h.pl.at_.box.far (p := ⟨C, j, none⟩) (h.pl.at_.box.ne h.cn (by decide)) _, fun hn => ?_, h.pl.at_.len, h.pl.at_.small, h.pl.at_.first⟩, h.pl.low, h.pl.below.setCell (p := ⟨C, j, none⟩) h.own _, h.pl.tags.far (p := ⟨C, j, none⟩) (h.pl.tags.ne h.cn (by decide)) _, h.pl.first.far (p := ⟨C, j, none⟩) (h.pl.first.ne h.cn (by decide)) _, h.pl.own, h.pl.offT, h.pl.offF, h.pl.ahead⟩, ?_, h.own⟩
  · obtain ⟨G, e, hG⟩ := h.pl.at_.row hn
    exact ⟨G, e, hG.far (p := ⟨C, j, none⟩) (hG.ne h.cn (by decide)) _⟩
  · have := h.cn.set j (.int .i64 x)
    simpa [encI, List.map_set] using this
theorem PC.cell {B : Nat} {ad : Option Addr} {T Fb C n : Nat} {s : GS} {l : List Int} {m : Nat} {w W : World} (h : PC B ad T Fb C n s (cnt l m) w W) {x : Nat} (hx : x ≤ 2) : W.cell? ⟨C, x, none⟩ = some (.int .i64 (countOf (l.take m) x)) := by
  rw [h.cn.cell x]
  obtain rfl | rfl | rfl : x = 0 ∨ x = 1 ∨ x = 2 := by omega
  · rfl
  · rfl
  · rfl

set_option maxRecDepth 100000 in
set_option maxHeartbeats 16000000 in
theorem plays_main (nodes live : Int) (ao : Option Addr) (len cap : Nat) (F : Nat → Int × Int) (w : World) (hl : len ≤ 500) (hc : len ≤ cap) (hm : cap ≤ 9223372036854775807) (hops : OpsIn w ao len F) :
    Calls Try.prog 3 #[.int .i64 nodes, .int .i64 live, .slice ao len cap] w fun e w' => e = .returned (.bool true) ∧ Below w.heap.size w w' := by
  have HO := Lib.hid hops
  clear hops
  have c2 : ¬ (500 : Int) < len := by omega
  have hn64 := nodesOf_le nodes
  obtain ⟨n, hn⟩ : ∃ n, nodesOf nodes = n := ⟨_, rfl⟩
  have KN := new_any nodes live w
  rw [hn] at KN hn64
  have HN := Lib.hid hn
  clear hn
  go_enter Try.func3, Try.ntmps3
  go_wp2_with fail
  refine KN.mono ?_
  rintro e w1 ⟨B, ad, rfl, hb, hg, hB, had⟩
  clear KN
  obtain ⟨b, hbb⟩ : ∃ b, b = decide (nodes < 1 ∨ 64 < nodes) := ⟨_, rfl⟩
  have HBB := Lib.hid hbb
  clear hbb
  go_upto_region 5 with fail
  go_cut [30] from 25 to 29 (fun s30 wx => s30 = .bool b ∧ w1 = wx)
  case first =>
    have hbb := HBB.out
    by_cases h0 : nodes < 1
    · obtain rfl : b = true := by simp [hbb, h0]
      clear hbb
      go_wp2
      go_meet
      exact ⟨rfl, rfl⟩
    by_cases h1 : 64 < nodes
    · obtain rfl : b = true := by simp [hbb, h1]
      clear hbb
      go_wp2
      go_meet
      exact ⟨rfl, rfl⟩
    · obtain rfl : b = false := by simp [hbb]; omega
      clear hbb
      go_wp2
      go_meet
      exact ⟨rfl, rfl⟩
  case rest =>
   obtain ⟨rfl, rfl⟩ := hcut
   go_upto_if 30 with fail
   go_cut [8] from 25 to 29 (fun s8 wx => s8 = .int .i64 n ∧ w1 = wx)
   case first =>
    have hn := HN.out
    have hbb := HBB.out
    unfold nodesOf at hn
    cases b with
    | true =>
      have h0 := of_decide_eq_true hbb.symm
      rw [if_pos h0] at hn
      subst hn
      clear hbb h0
      go_wp2
      go_meet
      exact ⟨rfl, rfl⟩
    | false =>
      have h0 := of_decide_eq_false hbb.symm
      rw [if_neg h0] at hn
      obtain rfl : nodes = n := by omega
      clear hbb h0
      go_wp2
      go_meet
      exact ⟨rfl, rfl⟩
   case rest =>
    obtain ⟨rfl, rfl⟩ := hcut
    have hmk := made n w1 hn64
    obtain ⟨M, hM⟩ : ∃ M : Nat, (min live (n : Int)).toNat = M := ⟨_, rfl⟩
    rw [hM] at hg
    have h0 : GAt B ad n ⟨tags0 n M, 0, 0⟩ (w1.alloc (.cells (encI (List.replicate n 0)) 3)) ∧ Blk (w1.alloc (.cells (encI (List.replicate n 0)) 3)) w1.heap.size 3 (encI (List.replicate n 0)) ∧ Below w.heap.size w (w1.alloc (.cells (encI (List.replicate n 0)) 3)) :=
      ⟨hg.alloc _, Blk.new _ _ _, hb.alloc hb.size _⟩
    have hlow : w.heap.size ≤ w1.heap.size ∧ w1.heap.size ≠ B ∧ ad ≠ some ⟨w1.heap.size, 0, none⟩ := ⟨hb.size, fun e => by have := hg.box.lt; omega, fun e => by have := (had _ e).2; omega⟩
    have hlow2 : w.heap.size ≤ B ∧ ∀ g, ad = some ⟨g, 0, none⟩ → w.heap.size ≤ g := ⟨hB, fun g e => (had g e).1⟩
    have Hlow := Lib.hid hlow
    have Hlow2 := Lib.hid hlow2
    have H0 := Lib.hid h0
    have HM := Lib.hid hM
    have Had := Lib.hid had
    clear hg hb hB had hlow hlow2 h0 hM
    go_wp2
    clear hmk
    generalize w1.alloc (.cells (encI (List.replicate n 0)) 3) = w2 at *
    generalize w1.heap.size = T at *
    go_loopw [10] (fun i wr => ∃ j : Nat, j ≤ n ∧ (j = 0 ∨ (j : Int) ≤ live) ∧ i = .int .i64 j ∧ Hid (GAt B ad n ⟨tags0 n M, 0, 0⟩ wr) ∧ Hid (Blk wr T 3 (encI (tags0 n j))) ∧ Hid (Below w.heap.size w wr)) (fun i _ => n - (intOf i).toNat)
    case atStart => exact ⟨0, by omega, .inl rfl, rfl, Lib.hid H0.out.1, Lib.hid (by simpa [tags0] using H0.out.2.1), Lib.hid H0.out.2.2⟩
    case round =>
      obtain ⟨j, hj, hj2, rfl, HG, HT, HB⟩ := hrel
      clear H0
      obtain ⟨c, hcc⟩ : ∃ c, c = decide ((j : Int) < n ∧ (j : Int) < live) := ⟨_, rfl⟩
      have HC := Lib.hid hcc
      clear hcc
      go_upto_region 9 with fail
      go_cut [40] from 33 to 45 (fun s40 wx => s40 = .bool c ∧ wr = wx)
      case first =>
        have hcc := HC.out
        by_cases h1 : (j : Int) < n
        · by_cases h2 : (j : Int) < live
          · obtain rfl : c = true := by simp [hcc, h1, h2]
            clear hcc
            go_wp2
            go_meet
            exact ⟨rfl, rfl⟩
          · obtain rfl : c = false := by simp [hcc, h2]
            clear hcc
            go_wp2
            go_meet
            exact ⟨rfl, rfl⟩
        · obtain rfl : c = false := by simp [hcc, h1]
          clear hcc
          go_wp2
          go_meet
          exact ⟨rfl, rfl⟩
      case rest =>
      obtain ⟨rfl, rfl⟩ := hcut
      cases c with
      | true =>
        obtain ⟨hlt, hl2⟩ := of_decide_eq_true HC.out.symm
        have hlt : j < n := by omega
        have q := cell_tag (a := j) HT.out (by rw [tags0_len (by omega)]; omega)
        have f := HT.out.frozen j
        go_wp2
        go_roundw
        case rel =>
          refine ⟨j + 1, by omega, .inr (by omega), by go_num, Lib.hid ⟨HG.out.box.far (p := ⟨T, j, none⟩) (fun e => Hlow.out.2.1 e.symm) _, fun hn => ?_, HG.out.len, HG.out.small, HG.out.first⟩, Lib.hid (by rw [← tags0_next hlt]; exact set_tag HT.out _), Lib.hid (HB.out.setCell (p := ⟨T, j, none⟩) Hlow.out.1 _)⟩
          obtain ⟨G, e, hG⟩ := HG.out.row hn
          exact ⟨G, e, hG.far (p := ⟨T, j, none⟩) (fun e' => Hlow.out.2.2 (by rw [e, e'])) _⟩
        case measure => simp [intOf]; omega
      | false =>
        obtain rfl : j = M := by have := of_decide_eq_false HC.out.symm; have := HM.out; omega
        have P0 : Hid (Pl B ad T wr.heap.size n ⟨tags0 n j, 0, 0⟩ (tags0 n j) 0 0 w (wr.alloc (.cells #[.int .i64 0, .int .i64 0] 28))) :=
          Lib.hid ⟨HG.out.alloc _, Hlow2.out, HB.out.alloc HB.out.size _, HT.out.alloc _, Blk.new _ _ _, ⟨Hlow.out.1, HB.out.size⟩, Hlow.out.2, ⟨fun e => by have := HG.out.box.lt; omega, fun e => by have := (Had.out _ e).2; have := HT.out.lt; omega⟩, fun g e => (Had.out g e).2⟩
        have HF0 : Hid (Fit (tags0 n j)) := Lib.hid (fit0 n j)
        clear HG HT HB Hlow Hlow2 Had HC HM hj hj2 HBB HN
        go_wp2
        generalize wr.alloc (.cells #[.int .i64 0, .int .i64 0] 28) = w3 at *
        generalize wr.heap.size = Fb at *
        generalize tags0 n j = t0 at *
        go_loopw [12] (fun i wq => ∃ (j : Nat) (s : GS), j ≤ len ∧ i = .int .i64 j ∧ Hid (Pl B ad T Fb n s s.tags s.k s.i w wq) ∧ Hid (Fit s.tags)) (fun i _ => len - (intOf i).toNat)
        case atStart => exact ⟨0, ⟨t0, 0, 0⟩, by omega, rfl, P0, HF0⟩
        case round =>
          clear P0 HF0
          obtain ⟨j, s, hj, rfl, HP, HF⟩ := hrel
          by_cases hlt : j < len
          · obtain ⟨bb, off, rfl, o0, o1⟩ := HO.out j hlt
            have hbl : bb < w.heap.size := World.block_lt_of_cell? w _ o0
            have d0 := (HP.out.below.cell (p := ⟨bb, off + j * 2, none⟩) hbl).trans o0
            have d1 := (HP.out.below.cell (p := ⟨bb, off + j * 2 + 1, none⟩) hbl).trans o1
            clear o0 o1
            generalize F j = f at *
            obtain ⟨k, i⟩ := f
            simp only at d0 d1
            have HS : Hid (PB B ad T Fb wr.heap.size n s s.tags s.k s.i k i w (wr.alloc (.cells #[.int .i64 k, .int .i64 i] 30))) :=
              Lib.hid ⟨HP.out.later ((Below.refl _ _).alloc (Nat.le_refl _) _), Blk.new _ _ _, fun e => by have := HP.out.at_.box.lt; omega, fun e => by have := HP.out.ahead _ e; have := HP.out.tags.lt; omega⟩
            by_cases hk0 : k < 0
            · go_wp2
              go_roundw
              case rel => exact ⟨j + 1, s, by omega, by go_num, Lib.hid HS.out.pl, HF⟩
              case measure => simp [intOf]; omega
            by_cases hk3 : 3 < k
            · go_wp2
              go_roundw
              case rel => exact ⟨j + 1, s, by omega, by go_num, Lib.hid HS.out.pl, HF⟩
              case measure => simp [intOf]; omega
            go_upto_region 19 with fail
            clear d0 d1 HP
            generalize wr.alloc (.cells #[.int .i64 k, .int .i64 i] 30) = v1 at *
            generalize wr.heap.size = X at *
            obtain ⟨x0, x1, y0, y1⟩ := HS.out.cells
            obtain ⟨c, hcc⟩ : ∃ c, c = decide (i < 1 ∨ (n : Int) < i) := ⟨_, rfl⟩
            have HC := Lib.hid hcc
            clear hcc
            go_cut [73] from 47 to 127 (fun s73 wx => s73 = .bool c ∧ v1 = wx)
            case first =>
              have hcc := HC.out
              by_cases h1 : i < 1
              · obtain rfl : c = true := by simp [hcc, h1]
                clear hcc
                go_wp2
                go_meet
                exact ⟨rfl, rfl⟩
              by_cases h2 : (n : Int) < i
              · obtain rfl : c = true := by simp [hcc, h2]
                clear hcc
                go_wp2
                go_meet
                exact ⟨rfl, rfl⟩
              · obtain rfl : c = false := by simp [hcc]; omega
                clear hcc
                go_wp2
                go_meet
                exact ⟨rfl, rfl⟩
            case rest =>
            obtain ⟨rfl, rfl⟩ := hcut
            obtain ⟨kd, hkd⟩ : ∃ kd, kindOf s n k i = kd := ⟨_, rfl⟩
            obtain ⟨s', hs'⟩ : ∃ s', s.then n k i = s' := ⟨_, rfl⟩
            have HKd := Lib.hid hkd
            have HS' := Lib.hid hs'
            clear hkd hs'
            go_upto_if 73 with fail
            go_cut [14] from 47 to 127 (fun s14 wx => s14 = .int .i64 kd ∧ PB B ad T Fb X n s s'.tags s.k s.i k i w wx)
            case first =>
              have hkd := HKd.out
              have hs' := HS'.out
              cases c with
              | true =>
                have h := of_decide_eq_true HC.out.symm
                obtain rfl : kd = 5 := by rw [← hkd]; exact kind_out h
                have ht : s'.tags = s.tags := by rw [← hs']; exact then_bad (by rw [hkd]; decide)
                have HE : Hid (PB B ad T Fb X n s s'.tags s.k s.i k i w v1) := Lib.hid (by rw [ht]; exact HS.out)
                clear hkd hs' h ht
                go_wp2
                go_meet
                exact ⟨rfl, HE.out⟩
              | false =>
                have h := of_decide_eq_false HC.out.symm
                obtain ⟨m, rfl⟩ : ∃ m : Nat, i = (m : Int) + 1 := ⟨(i - 1).toNat, by omega⟩
                have hmn : m < n := by omega
                have q := cell_tag (a := m) HS.out.pl.tags (by rw [HS.out.pl.at_.len]; exact hmn)
                have f := HS.out.pl.tags.frozen m
                have hw := less_one (j := m) (by omega)
                have hk64 := HS.out.pl.at_.small
                clear h
                by_cases h3 : k = 3
                · subst h3
                  have ht : s'.tags = s.tags := by rw [← hs']; exact then_touch
                  have HE : Hid (PB B ad T Fb X n s s'.tags s.k s.i 3 ((m : Int) + 1) w v1) := Lib.hid (by rw [ht]; exact HS.out)
                  rw [kind_touch hmn] at hkd
                  clear hs' ht
                  by_cases h0 : tagAt s.tags m = 0
                  · rw [if_pos h0] at hkd
                    rw [h0] at q
                    subst hkd
                    clear h0
                    go_wp2
                    go_meet
                    exact ⟨rfl, HE.out⟩
                  · rw [if_neg h0] at hkd
                    subst hkd
                    generalize tagAt s.tags m = x at *
                    go_wp2
                    go_meet
                    exact ⟨rfl, HE.out⟩
                · have hk2 : k ≤ 2 := by omega
                  have hk0' := hkd
                  rw [kind_turn hmn hk2] at hkd
                  by_cases h0 : tagAt s.tags m = k
                  · rw [if_neg (by simpa using h0)] at hkd
                    have ht : s'.tags = s.tags.set m ((k + 1) % 3) := by rw [← hs']; exact then_turn (hk0'.trans hkd.symm) hk2
                    rw [h0] at q
                    subst hkd
                    have hw2 : IntKind.i64.wrap (k + 1) = k + 1 := IntWalk.i64_in _ (by omega)
                    have hw3 : (k + 1).tmod 3 = (k + 1) % 3 := Int.tmod_eq_emod_of_nonneg (by omega)
                    have HT := Lib.hid ht
                    clear ht hs' h0 hk0'
                    go_wp2
                    go_quiet (fail)
                    go_wp2
                    go_meet
                    exact ⟨rfl, by rw [HT.out]; exact (HS.out.drewN _).setT m _⟩
                  · rw [if_pos h0] at hkd
                    subst hkd
                    have ht : s'.tags = s.tags := by rw [← hs']; exact then_bad (by rw [hk0']; omega)
                    have HE : Hid (PB B ad T Fb X n s s'.tags s.k s.i k ((m : Int) + 1) w v1) := Lib.hid (by rw [ht]; exact HS.out)
                    have hw2 : IntKind.i64.wrap (k + 1) = k + 1 := IntWalk.i64_in _ (by omega)
                    clear ht hs' hk0'
                    generalize tagAt s.tags m = x at *
                    go_wp2
                    go_quiet (fail)
                    go_wp2
                    go_meet
                    exact ⟨rfl, HE.out.drewN _⟩
            case rest =>
            obtain ⟨rfl, S2⟩ := hcut
            obtain ⟨_, _, y0, _⟩ := S2.cells
            have HS2 := Lib.hid S2
            clear HS x0 x1 y1 HC S2
            obtain ⟨d, hd⟩ : ∃ d, d = decide (kd ≠ 0 ∧ s.k = 0) := ⟨_, rfl⟩
            have HD := Lib.hid hd
            clear hd
            go_upto_region 27 with fail
            go_cut [111] from 47 to 127 (fun s111 wx => s111 = .bool d ∧ wc = wx)
            case first =>
              have hd := HD.out
              by_cases h1 : kd = 0
              · obtain rfl : d = false := by simp [hd, h1]
                subst h1
                clear hd
                go_wp2
                go_meet
                exact ⟨rfl, rfl⟩
              by_cases h2 : s.k = 0
              · obtain rfl : d = true := by simp [hd, h1, h2]
                rw [h2] at y0
                clear hd h2
                go_wp2
                go_meet
                exact ⟨by simp [h1], rfl⟩
              · obtain rfl : d = false := by simp [hd, h2]
                generalize s.k = sk at *
                clear hd
                go_wp2
                go_meet
                exact ⟨by simp [h2], rfl⟩
            case rest =>
            obtain ⟨rfl, rfl⟩ := hcut
            clear y0
            go_upto_if 111 with fail
            go_cut [14] from 47 to 127 (fun s14 wx => s14 = .int .i64 kd ∧ PB B ad T Fb X n s s'.tags s'.k s'.i k i w wx)
            case first =>
              cases d with
              | false =>
                have h := of_decide_eq_false HD.out.symm
                have hq : s'.k = s.k ∧ s'.i = s.i := by
                  rw [← HS'.out]
                  by_cases h1 : kd = 0
                  · exact then_good (HKd.out.trans h1)
                  · exact then_old (fun h2 => h ⟨h1, h2⟩)
                have HE : Hid (PB B ad T Fb X n s s'.tags s'.k s'.i k i w wc) := Lib.hid (by rw [hq.1, hq.2]; exact HS2.out)
                clear hq h HS2
                go_wp2
                go_meet
                exact ⟨rfl, HE.out⟩
              | true =>
                have h := of_decide_eq_true HD.out.symm
                have hq : s'.k = kd ∧ s'.i = i := by
                  rw [← HS'.out, ← HKd.out]
                  exact then_new (by rw [HKd.out]; exact h.1) h.2
                have HE : Hid (PB B ad T Fb X n s s'.tags s'.k s'.i k i w ((wc.setCell ⟨Fb, 0, none⟩ (.int .i64 kd)).setCell ⟨Fb, 1, none⟩ (.int .i64 i))) := Lib.hid (by rw [hq.1, hq.2]; exact HS2.out.setF _ _)
                obtain ⟨x0, x1, y0, y1⟩ := HS2.out.cells
                have f0 := HS2.out.pl.first.frozen 0
                have f1 := HS2.out.pl.first.frozen 1
                clear hq h HS2
                generalize s.k = sk at *
                generalize s.i = si at *
                go_wp2
                go_meet
                exact ⟨rfl, HE.out⟩
            case rest =>
            obtain ⟨rfl, S3⟩ := hcut
            clear HS2 HD
            have KD : ∀ W, GAt B ad n s W → Calls Try.prog 7 #[at0 B, opV k i] W (Does B ad n (.bool (decide (kd = 0))) s' W) := fun W g => by
              rw [← HKd.out, ← HS'.out]; exact do_any B ad n s k i W g (by omega) (by omega)
            have KF : ∀ W, GAt B ad n s' W → Calls Try.prog 8 #[at0 B] W fun e w' => e = .returned (.agg #[.int .i64 s'.k, .int .i64 s'.i]) ∧ Below W.heap.size W w' := fun W g => first_any B ad n s' W g
            have HF' : Hid (Fit s'.tags) := Lib.hid (by rw [← HS'.out]; exact HF.out.then (by omega) (by omega))
            clear HKd HS' HF
            go_upto_region 29 with fail
            go_cut [127] from 47 to 126 (fun s127 wx => s127 = .bool false ∧ PB B ad T Fb X n s' s'.tags s'.k s'.i k i w wx)
            case first =>
              have S4 := S3.drew
              obtain ⟨x0, x1, y0, y1⟩ := S3.cells
              clear S3
              generalize s'.tags = lt at *
              by_cases hk : kd = 0
              · subst hk
                simp only [decide_true] at KD
                go_region_held3 (fun W => W.cell? ⟨X, 0, none⟩ = some (.int .i64 k) ∧ W.cell? ⟨X, 1, none⟩ = some (.int .i64 i) ∧ W.cell? ⟨Fb, 0, none⟩ = some (.int .i64 s'.k) ∧ W.cell? ⟨Fb, 1, none⟩ = some (.int .i64 s'.i)) (first | exact PB.cells (by assumption) | go_keep)
                  (first | (go_at_call 7; refine (KD _ (PB.pl (by assumption)).at_).mono ?_; rintro e V' ⟨rfl, hg, ho⟩; have S' := PB.then (by assumption) hg ho; clear hg ho) | (go_at_call 8; refine (KF _ (PB.pl (by assumption)).at_).mono ?_; rintro e V' ⟨rfl, hb⟩; have S' := PB.later (by assumption) hb; clear hb))
                all_goals
                  go_wp2
                  go_meet
                  exact ⟨rfl, by assumption⟩
              · have hk1 : (kd == 0) = false := by simp [hk]
                have hk2 : decide (kd = 0) = false := by simp [hk]
                rw [hk2] at KD
                go_region_held3 (fun W => W.cell? ⟨X, 0, none⟩ = some (.int .i64 k) ∧ W.cell? ⟨X, 1, none⟩ = some (.int .i64 i) ∧ W.cell? ⟨Fb, 0, none⟩ = some (.int .i64 s'.k) ∧ W.cell? ⟨Fb, 1, none⟩ = some (.int .i64 s'.i)) (first | exact PB.cells (by assumption) | go_keep)
                  (first | (go_at_call 7; refine (KD _ (PB.pl (by assumption)).at_).mono ?_; rintro e V' ⟨rfl, hg, ho⟩; have S' := PB.then (by assumption) hg ho; clear hg ho) | (go_at_call 8; refine (KF _ (PB.pl (by assumption)).at_).mono ?_; rintro e V' ⟨rfl, hb⟩; have S' := PB.later (by assumption) hb; clear hb))
                all_goals
                  go_wp2
                  go_meet
                  exact ⟨rfl, by assumption⟩
            case rest =>
            obtain ⟨rfl, S4⟩ := hcut
            clear S3 KD KF
            go_wp2
            go_roundw
            case rel => exact ⟨j + 1, s', by omega, by go_num, Lib.hid S4.pl, HF'⟩
            case measure => simp [intOf]; omega
          · obtain rfl : j = len := by omega
            clear HO hj hlt
            have HC0 : Hid (PC B ad T Fb wr.heap.size n s (cnt s.tags 0) w (wr.alloc (.cells (encI (cnt s.tags 0)) 33))) :=
              Lib.hid ⟨HP.out.later ((Below.refl _ _).alloc (Nat.le_refl _) _), Blk.new _ _ _, HP.out.below.size⟩
            have ez : encI (cnt s.tags 0) = #[.int .i64 0, .int .i64 0, .int .i64 0] := rfl
            rw [ez] at HC0
            clear HP ez
            go_wp2
            generalize wr.alloc (.cells #[.int .i64 0, .int .i64 0, .int .i64 0] 33) = w4 at *
            generalize wr.heap.size = C at *
            go_loopw [16] (fun i wq => ∃ m : Nat, m ≤ n ∧ i = .int .i64 m ∧ Hid (PC B ad T Fb C n s (cnt s.tags m) w wq)) (fun i _ => n - (intOf i).toNat)
            case atStart => exact ⟨0, by omega, rfl, HC0⟩
            case round =>
              clear HC0
              obtain ⟨m, hm', rfl, HP⟩ := hrel
              by_cases hlt : m < n
              · go_upto_region 35 with fail
                go_cut [16] from 133 to 149 (fun s16 wx => s16 = .int .i64 m ∧ PC B ad T Fb C n s (cnt s.tags (m + 1)) w wx)
                case first =>
                  have hlen := HP.out.pl.at_.len
                  have ht := HF.out.at (j := m) (by omega)
                  have q := cell_tag (a := m) HP.out.pl.tags (by omega)
                  obtain ⟨x, hx⟩ : ∃ x : Nat, tagAt s.tags m = x := ⟨(tagAt s.tags m).toNat, by omega⟩
                  rw [hx] at ht q
                  have hx2 : x ≤ 2 := by omega
                  have c := HP.out.cell hx2
                  have f := HP.out.cn.frozen x
                  have hcb := cnt_le s.tags m x
                  have HE : Hid (PC B ad T Fb C n s (cnt s.tags (m + 1)) w (wr.setCell ⟨C, x, none⟩ (.int .i64 (countOf (s.tags.take m) x + 1)))) := Lib.hid (by
                    rw [cnt_next s.tags m x (by omega) hx hx2]; exact HP.out.set x _)
                  clear hx hlen HP HF
                  generalize countOf (s.tags.take m) x = y at *
                  go_wp2
                  go_meet
                  exact ⟨rfl, HE.out⟩
                case rest =>
                obtain ⟨rfl, S5⟩ := hcut
                clear HP
                have hlen := S5.pl.at_.len
                have q := cell_tag (a := m) S5.pl.tags (by omega)
                have KT : ∀ q x, x = tagAt s.tags m → Calls Try.prog 9 #[at0 B, .int .i64 ((m : Int) + 1)] (wc.drewN q) fun e w' => e = .returned (.int .i64 x) ∧ w' = wc.drewN q := fun q x hx => (tag_yes B ad n s m (wc.drewN q) (S5.drewN q).pl.at_ hlt).mono fun e w' ⟨h1, h2⟩ => ⟨by rw [h1, hx], h2.symm⟩
                have KT := fun q => KT q _ rfl
                have HS5 := Lib.hid S5
                generalize tagAt s.tags m = x at *
                have hw : IntKind.i64.wrap ((m : Int) + 1) = m + 1 := IntWalk.i64_in _ (by omega)
                clear S5 hlen
                go_wp2
                go_quiet ((go_at_call 9; exact Calls.quiet_of_same (KT _)))
                clear hw
                go_wp2
                go_roundw
                case rel => exact ⟨m + 1, by omega, by go_num, Lib.hid (HS5.out.drewN _)⟩
                case measure => simp [intOf]; omega
              · obtain rfl : m = n := by omega
                have hlen := HP.out.pl.at_.len
                have z0 : wr.cell? ⟨C, 0, none⟩ = some (.int .i64 (countOf (s.tags.take m) 0)) := HP.out.cell (x := 0) (by decide)
                have z1 : wr.cell? ⟨C, 1, none⟩ = some (.int .i64 (countOf (s.tags.take m) 1)) := HP.out.cell (x := 1) (by decide)
                have z2 : wr.cell? ⟨C, 2, none⟩ = some (.int .i64 (countOf (s.tags.take m) 2)) := HP.out.cell (x := 2) (by decide)
                rw [List.take_of_length_le (by omega)] at z0 z1 z2
                have KC : ∀ W t, GAt B ad m s W → Calls Try.prog 10 #[at0 B, .int .i64 t] W fun e w' => e = .returned (.int .i64 (countOf s.tags t)) ∧ W = w' := fun W t g => count_any B ad m s t W g
                have KT : ∀ W i, GAt B ad m s W → (i < 1 ∨ (m : Int) < i) → Calls Try.prog 9 #[at0 B, .int .i64 i] W fun e w' => e = .returned (.int .i64 0) ∧ W = w' := fun W i g h => tag_no B ad m s i W g h
                have hw : IntKind.i64.wrap ((m : Int) + 1) = m + 1 := IntWalk.i64_in _ (by omega)
                have S6 := HP.out.drew
                have K0 : ∀ W, GAt B ad m s W → Calls Try.prog 10 #[at0 B, .int .i64 0] W fun e w' => e = .returned (.int .i64 (countOf s.tags 0)) ∧ W = w' := fun W g => KC W 0 g
                have K1 : ∀ W, GAt B ad m s W → Calls Try.prog 10 #[at0 B, .int .i64 1] W fun e w' => e = .returned (.int .i64 (countOf s.tags 1)) ∧ W = w' := fun W g => KC W 1 g
                have K2 : ∀ W, GAt B ad m s W → Calls Try.prog 10 #[at0 B, .int .i64 2] W fun e w' => e = .returned (.int .i64 (countOf s.tags 2)) ∧ W = w' := fun W g => KC W 2 g
                have T0 : ∀ W, GAt B ad m s W → Calls Try.prog 9 #[at0 B, .int .i64 0] W fun e w' => e = .returned (.int .i64 0) ∧ W = w' := fun W g => KT W 0 g (.inl (by decide))
                have T1 : ∀ W, GAt B ad m s W → Calls Try.prog 9 #[at0 B, .int .i64 ((m : Int) + 1)] W fun e w' => e = .returned (.int .i64 0) ∧ W = w' := fun W g => KT W _ g (.inr (by omega))
                clear HP HF KC KT hlen hlt hm'
                generalize countOf s.tags 0 = c0 at *
                generalize countOf s.tags 1 = c1 at *
                generalize countOf s.tags 2 = c2 at *
                generalize cnt s.tags m = cs at *
                have HL := Lib.hid lives_any
                have keep : ∀ W, PC B ad T Fb C m s cs w W → W.cell? ⟨C, 0, none⟩ = some (.int .i64 c0) ∧ W.cell? ⟨C, 1, none⟩ = some (.int .i64 c1) ∧ W.cell? ⟨C, 2, none⟩ = some (.int .i64 c2) := fun W h => by
                  have e0 := S6.cn.cell 0
                  have e1 := S6.cn.cell 1
                  have e2 := S6.cn.cell 2
                  rw [h.cn.cell 0, h.cn.cell 1, h.cn.cell 2, ← e0, ← e1, ← e2]
                  exact ⟨z0, z1, z2⟩
                have HK := Lib.hid keep
                clear keep
                go_wp2_with fail
                go_region_held3 (fun W => W.cell? ⟨C, 0, none⟩ = some (.int .i64 c0) ∧ W.cell? ⟨C, 1, none⟩ = some (.int .i64 c1) ∧ W.cell? ⟨C, 2, none⟩ = some (.int .i64 c2)) (first | exact HK.out _ (by assumption) | go_keep)
                  (first | (go_at_call_of 10 (Value.int .i64 0); refine (K0 _ (PC.pl (by assumption)).at_).mono ?_; rintro e V' ⟨rfl, rfl⟩) | (go_at_call_of 10 (Value.int .i64 1); refine (K1 _ (PC.pl (by assumption)).at_).mono ?_; rintro e V' ⟨rfl, rfl⟩) | (go_at_call_of 10 (Value.int .i64 2); refine (K2 _ (PC.pl (by assumption)).at_).mono ?_; rintro e V' ⟨rfl, rfl⟩) | (go_at_call_of 9 (Value.int .i64 0); refine (T0 _ (PC.pl (by assumption)).at_).mono ?_; rintro e V' ⟨rfl, rfl⟩) | (go_at_call 9; refine (T1 _ (PC.pl (by assumption)).at_).mono ?_; rintro e V' ⟨rfl, rfl⟩) | (go_at_call 5; refine (HL.out _).mono ?_; rintro e V' ⟨rfl, hb⟩; have S' := PC.later (by assumption) hb; clear hb))
                all_goals
                  go_wp2
                  go_ret
                  exact ⟨rfl, (PC.pl (B := B) (ad := ad) (by assumption)).below⟩
end Go.Proofs.Ytdipomdnihfjjaa
