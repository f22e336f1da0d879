/- Lists of pairs of one's own, by the document: plain, Without. -/
import Derived.Test.YtjmejdalmglehaaRef
import Derived.Test.YtjmejdalmglehaaGrow
namespace Go.Proofs.Ytjmejdalmglehaa
open Go.ChangeShapes Go.WideShapes Go.ChangeAt Go.RowKit
set_option linter.unusedVariables false

theorem news_new {W : World} {cs : Array Value} {t : TypeId} {H : Nat} (hH : W.heap.size = H) : (W.alloc (.cells cs t)).heap[H]? = some (.cells cs t (0, 0)) := by
  subst hH
  exact heap_alloc_new W _
/-- A list of one's own, in a row that grows. -/
structure Mine (w : World) (l : List Pr) (o : Sl) (W : World) : Prop where
  bel : Below w.heap.size w W
  row : W.ownsRow w.heap.size 36 2 (.slice o.a o.n o.cap) l.length (encP l)
theorem Mine.start (w : World) : Mine w [] nilS w := ⟨Below.refl _ _, World.ownsRow_nil _ _ _ _⟩
theorem Mine.len {w W : World} {l : List Pr} {o : Sl} (h : Mine w l o W) : o.n = l.length := (Reads.of_own h.row).2
theorem Mine.reads {w W : World} {l : List Pr} {o : Sl} (h : Mine w l o W) : Reads W o 2 (encP l) := (Reads.of_own h.row).1
theorem Mine.drewN {w W : World} {l : List Pr} {o : Sl} (h : Mine w l o W) (m : Nat) : Mine w l o (W.drewN m) :=
  ⟨below_drewN h.bel m, row_agree h.row fun k e => (below_drewN (Below.refl W.heap.size W) m).block k (h.row.lt k e).2⟩
theorem Mine.below {w W V : World} {l : List Pr} {o : Sl} (h : Mine w l o W) (hb : Below W.heap.size W V) : Mine w l o V :=
  ⟨below_then h.bel hb, row_agree h.row fun k e => hb.block k (h.row.lt k e).2⟩
theorem Mine.push {w W W2 w3 : World} {xs : List Pr} {o : Sl} (h : Mine w xs o W) (p : Pr) (hb : Below W.heap.size W W2) {g cap n : Nat} (hn : n = xs.length)
    (hown : w3.ownsRow w.heap.size 36 2 (.slice (some ⟨g, 0, none⟩) (n + 1) cap) (n + 1) (encP xs ++ p.cs.toList)) (hgrow : W2.grownBy w3 (Value.slice o.a o.n o.cap).ownBlock) : Mine w (xs ++ [p]) ⟨some ⟨g, 0, none⟩, n + 1, cap⟩ w3 := by
  subst hn
  refine ⟨(below_then h.bel hb).grown hgrow (Nat.le_trans h.bel.size hb.size) (fun j e => (h.row.lt j e).1), ?_⟩
  rw [List.length_append, List.length_singleton, encP_snoc]
  exact hown
theorem Mine.of {w V W : World} {l : List Pr} {o : Sl} (hb : Below w.heap.size w V) (h : Mine V l o W) : Mine w l o W := ⟨below_then hb h.bel, h.row.mono hb.size⟩
/-- What a function that makes a list tells. -/
structure Made (w : World) (l : List Pr) (e : Ending) (W : World) : Prop where
  ex : ∃ o : Sl, e = .returned (.slice o.a o.n o.cap) ∧ Mine w l o W

set_option maxRecDepth 100000 in
set_option maxHeartbeats 4000000 in
theorem plain_any (s : Sl) (l : List Pr) (w : World) (h : Reads w s 2 (encP l)) (hl : l.length < 100000) : Calls Try.prog 18 #[.slice s.a s.n s.cap] w (Made w l) := by
  obtain ⟨i0, hi, hz0, hz1, hz2⟩ := info_parts info36
  have hn := h.lenP
  have hroom := h.room
  unfold maxLen at hroom
  have HR := Lib.hid h
  clear h
  obtain ⟨sa, sn, sc⟩ := s
  dsimp only at *
  subst hn
  go_enter Try.func18, Try.ntmps18
  go_wp2_with fail
  go_loopw [3, 4] (fun v i W => ∃ (k : Nat) (oa : Option Addr) (on oc : Nat), k ≤ l.length ∧ i = .int .i64 k ∧ v = .slice oa on oc ∧ Hid (Mine w (l.take k) ⟨oa, on, oc⟩ W)) (fun _ i _ => l.length - (intOf i).toNat)
  case atStart => exact ⟨0, none, 0, 0, by omega, rfl, rfl, Lib.hid (Mine.start w)⟩
  case round =>
    obtain ⟨k, oa, on, oc, hk, rfl, rfl, HS⟩ := hrel
    by_cases hkn : k < l.length
    · have gk : (k : Int) < l.length := by omega
      have w2 := IntWalk.i64_in ((k : Int) + 1) (by omega)
      obtain ⟨b, off, rfl, x0, x1⟩ := (HR.out.below HS.out.bel).pr hkn
      have htk : l.take (k + 1) = l.take k ++ [ithP l k] := by rw [List.take_add_one, ithP_lt hkn]; rfl
      have HK := Lib.hid htk
      have hpn : on = (l.take k).length := HS.out.len
      have hon : on ≤ k := by rw [hpn, List.length_take]; omega
      have HP := Lib.hid fun W2 w3 g cap hb hown hgrow => Mine.push (W2 := W2) (w3 := w3) (g := g) (cap := cap) (n := on) HS.out (ithP l k) hb hpn hown hgrow
      have HRW := Lib.hid HS.out.row
      rw [← hpn] at HRW
      have hsz := HS.out.bel.size
      clear htk hpn HS HR
      generalize ithP l k = p at *
      generalize l.take k = XS at *
      obtain ⟨pk, pv⟩ := p
      dsimp only at *
      go_wp2_with fail
      go_region_law ((refine step_append_lies _ (by rfl) _ _ _ (by rfl) w.heap.size 36 i0 _ 2 8 Try.underlying27 hi hz0 hz1 hz2 rfl (by omega) (.slice oa on oc) on (encP XS) (by rfl) ((HRW.out.alloc _).drew) ⟨wr.heap.size, 0, none⟩ 1 1 [.int .u32 pk, .int .u32 pv] (by rfl) (by rfl) (World.news_of_block (cs := #[.int .u32 pk, .int .u32 pv]) (t := 36) (fr := (0, 0)) (heap_alloc_new wr _)) (by simp [Value.oneCell']) (by omega) (by unfold maxLen; omega) (by omega) (by simp; omega) (wr.heap.size + 1) (by simp) ?_; intro gg cap w3 hown3 hgrow hat hlt))
      all_goals
        have HF := Lib.hid (HP.out _ _ _ _ (below_drew (box1 _)) hown3 hgrow)
        clear HP hown3 hgrow hat hlt HRW
        go_wp2
        go_roundw
        case rel => exact ⟨k + 1, some ⟨gg, 0, none⟩, on + 1, cap, by omega, by go_num, rfl, Lib.hid (by rw [HK.out]; exact HF.out)⟩
        case measure => simp [intOf]; omega
    · obtain rfl : k = l.length := by omega
      have hs := HS.out
      rw [List.take_length] at hs
      have HF := Lib.hid hs
      clear hs HS HR
      go_wp2
      go_ret
      exact ⟨⟨⟨oa, on, oc⟩, rfl, HF.out⟩⟩

/-! ### a list without a pair -/
theorem take_next {α : Type} {l : List α} {i : Nat} {x : α} (h : l[i]? = some x) : l.take (i + 1) = l.take i ++ [x] := by
  rw [List.take_add_one, h]
  rfl
theorem without_skip {l : List Pr} {k : Nat} {p : Pr} (hk : k < l.length) (hp : ithP l k = p) (hg : p ∉ l.take k) : (l.take (k + 1)).erase p = (l.take k).erase p ∧ p ∈ l.take (k + 1) := by
  rw [take_next (ithP_lt hk), hp]
  refine ⟨?_, by simp⟩
  rw [List.erase_append_right _ hg, List.erase_of_not_mem hg]
  simp
theorem without_take {l : List Pr} {k : Nat} {p : Pr} (hk : k < l.length) (hg : ithP l k ≠ p ∨ p ∈ l.take k) : (l.take (k + 1)).erase p = (l.take k).erase p ++ [ithP l k] ∧ (p ∈ l.take (k + 1) ↔ p ∈ l.take k) := by
  rw [take_next (ithP_lt hk)]
  generalize ithP l k = x at *
  by_cases hm : p ∈ l.take k
  · rw [List.erase_append_left _ hm]
    exact ⟨rfl, by simp [hm]⟩
  · have hx : x ≠ p := hg.resolve_right hm
    rw [List.erase_append_right _ hm, List.erase_of_not_mem hm, List.erase_of_not_mem (by simpa using hx.symm)]
    exact ⟨rfl, by simp [hm, hx.symm]⟩

set_option maxRecDepth 100000 in
set_option maxHeartbeats 4000000 in
theorem without_any (s : Sl) (l : List Pr) (p : Pr) (w : World) (h : Reads w s 2 (encP l)) (hl : l.length < 100000) : Calls Try.prog 9 #[.slice s.a s.n s.cap, p.val] w (Made w (l.erase p)) := by
  obtain ⟨i0, hi, hz0, hz1, hz2⟩ := info_parts info36
  have hn := h.lenP
  have hroom := h.room
  unfold maxLen at hroom
  have HB := Lib.hid (box1 (w := w) (.cells #[.int .u32 p.k, .int .u32 p.v] 36))
  have HR := Lib.hid (h.below HB.out)
  have HX := Lib.hid (Blk.new w 36 p.cs)
  have HM := Lib.hid fun o W => Mine.of (l := l.erase p) (o := o) (W := W) HB.out
  obtain ⟨V0, hV0⟩ : ∃ V0, V0 = w.alloc (.cells #[.int .u32 p.k, .int .u32 p.v] 36) := ⟨_, rfl⟩
  clear h
  obtain ⟨sa, sn, sc⟩ := s
  dsimp only at *
  subst hn
  go_enter Try.func9, Try.ntmps9
  go_wp2_with fail
  go_loopw [5, 6, 7] (fun v g i W => ∃ (k : Nat) (gb : Bool) (oa : Option Addr) (on oc : Nat), k ≤ l.length ∧ i = .int .i64 k ∧ g = .bool gb ∧ v = .slice oa on oc ∧ Hid (decide (p ∈ l.take k) = gb) ∧ Hid (Mine (w.alloc (.cells #[.int .u32 p.k, .int .u32 p.v] 36)) ((l.take k).erase p) ⟨oa, on, oc⟩ W)) (fun _ _ i _ => l.length - (intOf i).toNat)
  case atStart => exact ⟨0, false, none, 0, 0, by omega, rfl, rfl, rfl, Lib.hid (by simp), Lib.hid (Mine.start _)⟩
  case round =>
    obtain ⟨k, gb, oa, on, oc, hk, rfl, rfl, rfl, HG, HS⟩ := hrel
    by_cases hkn : k < l.length
    · have gk : (k : Int) < l.length := by omega
      have w2 := IntWalk.i64_in ((k : Int) + 1) (by omega)
      obtain ⟨b, off, rfl, x0, x1⟩ := (HR.out.below HS.out.bel).pr hkn
      have c := HX.out.below HS.out.bel HX.out.lt
      have c0 := c.cell 0
      have c1 := c.cell 1
      simp at c0 c1
      have hq := fun w => eq_pr36 (ithP l k) p w
      by_cases hd : ithP l k = p ∧ gb = false
      · obtain ⟨he, rfl⟩ := hd
        have hs := without_skip hkn he (of_decide_eq_false HG.out)
        have HS2 := Lib.hid (HS.out.drewN 1)
        have e1 := Lib.hid hs.1
        have e2 := Lib.hid (decide_eq_true hs.2)
        rw [he] at x0 x1 hq
        simp only [decide_true] at hq
        clear c hs he
        have HSS := HS
        clear HS HR HX HM HB
        obtain ⟨zk, zv⟩ := p
        dsimp only [Pr.val] at *
        go_wp2_with fail
        go_quiet (fail)
        have HL2 := Lib.hid (HSS.out.drewN nq)
        clear HSS HS2
        go_wp2
        go_roundw
        case rel => exact ⟨k + 1, true, oa, on, oc, by omega, by go_num, rfl, rfl, Lib.hid e2.out, Lib.hid (by rw [e1.out]; exact HL2.out)⟩
        case measure => simp [intOf]; omega
      · have hg : ithP l k ≠ p ∨ p ∈ l.take k := by
          by_cases h1 : ithP l k = p
          · right
            have : gb = true := by simpa [h1] using hd
            subst this
            exact of_decide_eq_true HG.out
          · exact .inl h1
        have hs := without_take hkn hg
        have e1 := Lib.hid hs.1
        have e2 : Hid (decide (p ∈ l.take (k + 1)) = gb) := Lib.hid (by rw [← HG.out]; simp only [hs.2])
        have hpn : on = ((l.take k).erase p).length := HS.out.len
        have hon : on ≤ k := by
          have := List.length_erase_le (a := p) (l := l.take k)
          rw [List.length_take] at this
          omega
        have HP := Lib.hid fun W2 w3 g cap hb hown hgrow => Mine.push (W2 := W2) (w3 := w3) (g := g) (cap := cap) (n := on) HS.out (ithP l k) hb hpn hown hgrow
        have HRW := Lib.hid HS.out.row
        rw [← hpn] at HRW
        have hsz := HS.out.bel.size
        have hdec : (decide (ithP l k = p) && !gb) = false := by
          cases gb <;> simp at hd ⊢
          exact hd
        have hsz0 : (w.alloc (.cells #[.int .u32 p.k, .int .u32 p.v] 36)).heap.size = w.heap.size + 1 := by simp
        clear hs HS HR HX HB HM c hg hpn HG
        generalize (l.take k).erase p = XS at *
        generalize decide (ithP l k = p) = q at *
        generalize ithP l k = z at *
        obtain ⟨zk, zv⟩ := z
        obtain ⟨pk, pv⟩ := p
        dsimp only [Pr.val] at *
        rw [hsz0] at hsz
        clear hd
        cases q <;> cases gb <;> simp at hdec
        all_goals
          go_wp2_with fail
          go_quiet (fail)
          have HRW2 := Lib.hid (show (wr.drewN nq).ownsRow _ 36 2 _ _ _ from HRW.out)
          have hsz2 : w.heap.size + 1 ≤ (wr.drewN nq).heap.size := hsz
          have y0 : (wr.drewN nq).cell? _ = _ := x0
          have y1 : (wr.drewN nq).cell? _ = _ := x1
          have HP2 := Lib.hid fun W2 w3 g cap (hb : Below (wr.drewN nq).heap.size (wr.drewN nq) W2) hown hgrow => HP.out W2 w3 g cap (below_then (below_drewN (Below.refl _ _) nq) hb) hown hgrow
          clear HP HRW hsz x0 x1 c0 c1
          generalize wr.drewN nq = wr at *
          go_wp2_with (at_builtin; refine wpList_append_lies _ rfl _ _ 27 rfl (w.alloc (.cells #[.int .u32 pk, .int .u32 pv] 36)).heap.size 36 i0 _ 2 8 Try.underlying27 hi hz0 hz1 hz2 rfl (by decide) (.slice oa on oc) on (encP XS) rfl (HRW2.out.alloc _) ⟨wr.heap.size, 0, none⟩ 1 1 [.int .u32 zk, .int .u32 zv] rfl rfl (World.news_of_block (cs := #[.int .u32 zk, .int .u32 zv]) (t := 36) (fr := (0, 0)) (news_new (by simp))) (by simp [Value.oneCell']) (by omega) (by unfold maxLen; omega) (by omega) (by simp; omega) (wr.heap.size + 1) (by simp) ?_; intro gg cap w3 hown3 hgrow hat hlt)
          have HF := Lib.hid (HP2.out _ _ _ _ (box1 _) hown3 hgrow)
          clear HP2 hown3 hgrow hat hlt HRW2
          go_wp2
          go_roundw
          case rel => exact ⟨k + 1, _, some ⟨gg, 0, none⟩, on + 1, cap, by omega, by go_num, rfl, rfl, e2, Lib.hid (by rw [e1.out]; exact HF.out)⟩
          case measure => simp [intOf]; omega
    · obtain rfl : k = l.length := by omega
      have hs := HS.out
      rw [List.take_length] at hs
      have HF := Lib.hid (HM.out _ _ hs)
      clear hs HS HR HM
      go_wp2
      go_ret
      exact ⟨⟨⟨oa, on, oc⟩, rfl, HF.out⟩⟩
end Go.Proofs.Ytjmejdalmglehaa
