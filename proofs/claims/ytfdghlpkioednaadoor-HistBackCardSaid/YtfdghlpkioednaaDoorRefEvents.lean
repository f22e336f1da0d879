/- Events, by the document: what operations tell. -/
import Derived.Test.YtfdghlpkioednaaDoorRefOpers
namespace Go.Proofs.YtfdghlpkioednaaDoor
open Go.ChangeShapes Go.WideShapes Go.ChangeAt Go.RowKit
set_option linter.unusedVariables false

/-- Events of one's own, in a row that grows. -/
structure EvS (w : World) (xs : List Ev) (o : Sl) (W : World) : Prop where
  bel : Below w.heap.size w W
  row : W.ownsRow w.heap.size 34 8 (.slice o.a o.n o.cap) xs.length (encE xs)
theorem EvS.start (w : World) : EvS w [] nilS w := ⟨Below.refl _ _, World.ownsRow_nil _ _ _ _⟩
theorem EvS.len {w W : World} {xs : List Ev} {o : Sl} (h : EvS w xs o W) : o.n = xs.length := (Reads.of_own h.row).2
theorem EvS.drewN {w W : World} {xs : List Ev} {o : Sl} (h : EvS w xs o W) (m : Nat) : EvS w xs o (W.drewN m) :=
  ⟨below_drewN h.bel m, row_agree h.row fun k e => (below_drewN (Below.refl W.heap.size W) m).block k (h.row.lt k e).2⟩
theorem EvS.push {w W W2 w3 : World} {xs : List Ev} {o : Sl} (h : EvS w xs o W) (e : Ev) (hb : Below W.heap.size W W2) {g cap n : Nat} (hn : n = xs.length)
    (hown : w3.ownsRow w.heap.size 34 8 (.slice (some ⟨g, 0, none⟩) (n + 1) cap) (n + 1) (encE xs ++ e.cs.toList)) (hgrow : W2.grownBy w3 (Value.slice o.a o.n o.cap).ownBlock) : EvS w (xs ++ [e]) ⟨some ⟨g, 0, none⟩, n + 1, cap⟩ w3 := by
  subst hn
  refine ⟨(below_then h.bel hb).grown hgrow (Nat.le_trans h.bel.size hb.size) (fun j e => (h.row.lt j e).1), ?_⟩
  rw [List.length_append, List.length_singleton, encE_snoc]
  exact hown
theorem take_next {α : Type} {l : List α} {i : Nat} {x : α} (h : l[i]? = some x) : l.take (i + 1) = l.take i ++ [x] := by
  rw [List.take_add_one, h]
  rfl
theorem fm_next {α β : Type} (f : α → Option β) {l : List α} {i : Nat} {x : α} (h : l[i]? = some x) : (l.take (i + 1)).filterMap f = (l.take i).filterMap f ++ (f x).toList := by
  rw [take_next h, List.filterMap_append]
  cases hf : f x <;> simp [hf]
theorem cnt_next {α : Type} (p : α → Bool) {l : List α} {i : Nat} {x : α} (h : l[i]? = some x) : (l.take (i + 1)).countP p = (l.take i).countP p + if p x then 1 else 0 := by
  rw [take_next h, List.countP_append]
  cases hf : p x <;> simp [hf]
/-- What Events tells. -/
structure Told (w : World) (l : List Ev) (e : Ending) (W : World) : Prop where
  ex : ∃ o : Sl, e = .returned (.tuple #[.slice o.a o.n o.cap, .bool true]) ∧ W.ownsRow w.heap.size 34 8 (.slice o.a o.n o.cap) l.length (encE l) ∧ Below w.heap.size w W

set_option maxRecDepth 100000 in
set_option maxHeartbeats 8000000 in
theorem refEvents_any (s : Sl) (L : List Opr) (l : List Ev) (w : World) (h : Reads w s 9 (encO L)) (hL : L.length ≤ 1000) (hl : l.length ≤ 1000) (hc : L.length + L.countP answered = l.length)
    (ht : ∀ k, k < l.length → L.filterMap (told k) = [ith l k]) : Calls Tryd.prog 20 #[.slice s.a s.n s.cap] w (Told w l) := by
  have hn := h.lenO
  have hroom := h.room
  unfold maxLen at hroom
  have HR := Lib.hid h
  have HT := Lib.hid ht
  have HC := Lib.hid hc
  clear h ht hc
  obtain ⟨sa, sn, sc⟩ := s
  dsimp only at *
  subst hn
  obtain ⟨i0, hi, hz0, hz1, hz2⟩ := info_parts info34
  go_enter Tryd.func20, Tryd.ntmps20
  go_wp2_with fail
  go_loop [5, 6] (fun n i => ∃ (k c : Nat), k ≤ L.length ∧ c ≤ k ∧ i = .int .i64 k ∧ n = .int .i64 (L.length + c : Nat) ∧ Hid (c = (L.take k).countP answered)) (fun _ i => L.length - (intOf i).toNat)
  case atStart => exact ⟨0, 0, by omega, by omega, rfl, rfl, Lib.hid rfl⟩
  case round =>
    obtain ⟨k, c, hk, hck, rfl, rfl, HK⟩ := hrel
    by_cases hkn : k < L.length
    · have hx := List.getElem?_eq_getElem hkn
      generalize L[k] = o at *
      obtain ⟨b, off, rfl, x0, x1, x2, x3, x4, x5, x6, x7, x8⟩ := HR.out.opr hx
      have gk : (k : Int) < L.length := by omega
      have w2 := IntWalk.i64_in ((k : Int) + 1) (by omega)
      have w3 := IntWalk.i64_in (((L.length + c : Nat) : Int) + 1) (by omega)
      have hcnt := cnt_next answered hx
      rw [← HK.out] at hcnt
      have HX := Lib.hid hcnt
      by_cases ho : 0 ≤ o.o
      · have ha : answered o = true := by simpa [answered] using ho
        rw [ha] at HX
        clear HR HT HC hcnt hx
        go_wp2
        go_round
        case rel => exact ⟨k + 1, c + 1, by omega, by omega, by go_num, by go_num, Lib.hid (by have := HX.out; simpa using this.symm)⟩
        case measure => simp [intOf]; omega
      · have ha : answered o = false := by simpa [answered] using ho
        rw [ha] at HX
        clear HR HT HC hcnt hx
        go_wp2
        go_round
        case rel => exact ⟨k + 1, c, by omega, by omega, by go_num, by go_num, Lib.hid (by have := HX.out; simpa using this.symm)⟩
        case measure => simp [intOf]; omega
    · obtain rfl : k = L.length := by omega
      have hN : L.length + c = l.length := by have := HK.out; rw [List.take_length] at this; rw [this]; exact HC.out
      rw [hN]
      clear HK HC
      go_wp2_with fail
      go_loopw [4, 7] (fun v i W => ∃ (k : Nat) (oa : Option Addr) (on oc : Nat), k ≤ l.length ∧ i = .int .i64 k ∧ v = .slice oa on oc ∧ Hid (EvS w (l.take k) ⟨oa, on, oc⟩ W)) (fun _ i _ => l.length - (intOf i).toNat)
      case atStart => exact ⟨0, none, 0, 0, by omega, rfl, rfl, Lib.hid (EvS.start w)⟩
      case round =>
        obtain ⟨k, oa, on, oc, hk, rfl, rfl, HS⟩ := hrel
        by_cases hkn : k < l.length
        · have gk : (k : Int) < l.length := by omega
          have w2 := IntWalk.i64_in ((k : Int) + 1) (by omega)
          have HKT := Lib.hid (HT.out k hkn)
          clear HT
          go_wp2_with fail
          rename World => W9
          go_loopw [4, 8, 9] (fun v f i W => ∃ (j c : Nat) (oa : Option Addr) (on oc : Nat), j ≤ L.length ∧ c ≤ j ∧ i = .int .i64 j ∧ f = .int .i64 c ∧ v = .slice oa on oc ∧ Hid (((L.take j).filterMap (told k)).length = c) ∧ Hid (EvS w (l.take k ++ (L.take j).filterMap (told k)) ⟨oa, on, oc⟩ W)) (fun _ _ i _ => L.length - (intOf i).toNat)
          case atStart => exact ⟨0, 0, oa, on, oc, by omega, by omega, rfl, rfl, rfl, Lib.hid rfl, Lib.hid (by simpa using HS.out)⟩
          case round =>
            clear HS
            obtain ⟨j, c, pa, pn, pc, hj, hcj, rfl, rfl, rfl, HC2, HS2⟩ := hrel
            by_cases hjn : j < L.length
            · have hx := List.getElem?_eq_getElem hjn
              generalize L[j] = o at *
              have hfm := fm_next (told k) hx
              obtain ⟨b, off, rfl, x0, x1, x2, x3, x4, x5, x6, x7, x8⟩ := (HR.out.below HS2.out.bel).opr hx
              have gj : (j : Int) < L.length := by omega
              have w3 := IntWalk.i64_in ((j : Int) + 1) (by omega)
              have w4 := IntWalk.i64_in ((c : Int) + 1) (by omega)
              by_cases h1 : o.f = k
              · have htd : told k o = some ⟨o.t, false, o.c, zt⟩ := if_pos h1
                have hnext : l.take k ++ (L.take (j + 1)).filterMap (told k) = (l.take k ++ (L.take j).filterMap (told k)) ++ [⟨o.t, false, o.c, zt⟩] := by rw [hfm, htd, List.append_assoc]; rfl
                have hlen1 : ((L.take (j + 1)).filterMap (told k)).length = c + 1 := by rw [hfm, htd, List.length_append, HC2.out]; rfl
                have HN := Lib.hid hnext
                have HLN := Lib.hid hlen1
                have hpn : pn = (l.take k ++ (L.take j).filterMap (told k)).length := HS2.out.len
                have hpb : pn ≤ k + c := by rw [hpn, List.length_append, HC2.out, List.length_take]; omega
                have HPN := Lib.hid hpn
                have HP := Lib.hid fun W2 w3 g cap hb hown hgrow => EvS.push (W2 := W2) (w3 := w3) (g := g) (cap := cap) (n := pn) HS2.out ⟨o.t, false, o.c, zt⟩ hb hpn hown hgrow
                have HRW := Lib.hid HS2.out.row
                rw [← hpn] at HRW
                have hsz := HS2.out.bel.size
                clear hnext hlen1 hpn hfm htd HR HS2 HC2 HKT hx
                generalize (l.take k ++ (L.take j).filterMap (told k)) = XS at *
                obtain ⟨ot, ⟨c1, c2, c3⟩, ⟨a1, a2, a3⟩, of, oo⟩ := o
                dsimp only [Ev.cs] at *
                go_wp2_with fail
                go_region_law ((refine step_append_lies _ (by rfl) _ _ _ (by rfl) w.heap.size 34 i0 _ 8 48 Tryd.underlying22 hi hz0 hz1 hz2 rfl (by omega) (.slice pa pn pc) pn (encE XS) (by rfl) ((HRW.out.alloc _).drew) ⟨wr.heap.size, 0, none⟩ 1 1 [.int .i64 ot, .bool false, .int .i64 c1, .int .u32 c2, .int .u32 c3, .int .i64 0, .int .u32 0, .int .u32 0] (by rfl) (by rfl) (World.news_of_block (cs := #[.int .i64 ot, .bool false, .int .i64 c1, .int .u32 c2, .int .u32 c3, .int .i64 0, .int .u32 0, .int .u32 0]) (t := 34) (fr := (0, 0)) (heap_alloc_new wr _)) (by simp [Value.oneCell']) (by omega) (by unfold maxLen; omega) (by omega) (by simp; omega) (wr.heap.size + 1) (by simp) ?_; intro gg cap w3 hown3 hgrow hat hlt))
                all_goals
                  have HF := Lib.hid (HP.out _ _ _ _ (below_drew (box1 _)) hown3 hgrow)
                  clear HP hown3 hgrow hat hlt HRW
                  go_wp2
                  go_roundw
                  case rel => exact ⟨j + 1, c + 1, some ⟨gg, 0, none⟩, pn + 1, cap, by omega, by omega, by go_num, by go_num, rfl, HLN, Lib.hid (by rw [HN.out]; exact HF.out)⟩
                  case measure => simp [intOf]; omega
              · have h1b := beq_f h1
                by_cases h2 : o.o = k
                · have htd : told k o = some ⟨o.t, true, zt, o.a⟩ := by unfold told; rw [if_neg h1, if_pos h2]
                  have hnext : l.take k ++ (L.take (j + 1)).filterMap (told k) = (l.take k ++ (L.take j).filterMap (told k)) ++ [⟨o.t, true, zt, o.a⟩] := by rw [hfm, htd, List.append_assoc]; rfl
                  have hlen1 : ((L.take (j + 1)).filterMap (told k)).length = c + 1 := by rw [hfm, htd, List.length_append, HC2.out]; rfl
                  have HN := Lib.hid hnext
                  have HLN := Lib.hid hlen1
                  have hpn : pn = (l.take k ++ (L.take j).filterMap (told k)).length := HS2.out.len
                  have hpb : pn ≤ k + c := by rw [hpn, List.length_append, HC2.out, List.length_take]; omega
                  have HPN := Lib.hid hpn
                  have HP := Lib.hid fun W2 w3 g cap hb hown hgrow => EvS.push (W2 := W2) (w3 := w3) (g := g) (cap := cap) (n := pn) HS2.out ⟨o.t, true, zt, o.a⟩ hb hpn hown hgrow
                  have HRW := Lib.hid HS2.out.row
                  rw [← hpn] at HRW
                  have hsz := HS2.out.bel.size
                  clear hnext hlen1 hpn hfm htd HR HS2 HC2 HKT hx
                  generalize (l.take k ++ (L.take j).filterMap (told k)) = XS at *
                  obtain ⟨ot, ⟨c1, c2, c3⟩, ⟨a1, a2, a3⟩, of, oo⟩ := o
                  dsimp only [Ev.cs] at *
                  go_wp2_with fail
                  go_region_law ((refine step_append_lies _ (by rfl) _ _ _ (by rfl) w.heap.size 34 i0 _ 8 48 Tryd.underlying22 hi hz0 hz1 hz2 rfl (by omega) (.slice pa pn pc) pn (encE XS) (by rfl) ((HRW.out.alloc _).drew) ⟨wr.heap.size, 0, none⟩ 1 1 [.int .i64 ot, .bool true, .int .i64 0, .int .u32 0, .int .u32 0, .int .i64 a1, .int .u32 a2, .int .u32 a3] (by rfl) (by rfl) (World.news_of_block (cs := #[.int .i64 ot, .bool true, .int .i64 0, .int .u32 0, .int .u32 0, .int .i64 a1, .int .u32 a2, .int .u32 a3]) (t := 34) (fr := (0, 0)) (heap_alloc_new wr _)) (by simp [Value.oneCell']) (by omega) (by unfold maxLen; omega) (by omega) (by simp; omega) (wr.heap.size + 1) (by simp) ?_; intro gg cap w3 hown3 hgrow hat hlt))
                  all_goals
                    have HF := Lib.hid (HP.out _ _ _ _ (below_drew (box1 _)) hown3 hgrow)
                    clear HP hown3 hgrow hat hlt HRW
                    go_wp2
                    go_roundw
                    case rel => exact ⟨j + 1, c + 1, some ⟨gg, 0, none⟩, pn + 1, cap, by omega, by omega, by go_num, by go_num, rfl, HLN, Lib.hid (by rw [HN.out]; exact HF.out)⟩
                    case measure => simp [intOf]; omega
                · have htd : told k o = none := by unfold told; rw [if_neg h1, if_neg h2]
                  have h2b := beq_f h2
                  have hnext : (L.take (j + 1)).filterMap (told k) = (L.take j).filterMap (told k) := by rw [hfm, htd]; simp
                  have HN := Lib.hid hnext
                  clear hnext hfm htd HR HKT hx
                  go_wp2
                  go_roundw
                  case rel => exact ⟨j + 1, c, pa, pn, pc, by omega, by omega, by go_num, rfl, rfl, Lib.hid (by rw [HN.out]; exact HC2.out), Lib.hid (by rw [HN.out]; exact HS2.out)⟩
                  case measure => simp [intOf]; omega
            · obtain rfl : j = L.length := by omega
              have hk1 := HC2.out
              rw [List.take_length, HKT.out] at hk1
              have hk2 := HS2.out
              rw [List.take_length, HKT.out, ← take_next (ith_lt hkn)] at hk2
              have HF := Lib.hid hk2
              clear hk2 HS2 HC2 HKT HR
              obtain rfl : c = 1 := by simpa using hk1.symm
              clear hk1
              go_wp2
              go_roundw
              case rel => exact ⟨k + 1, pa, pn, pc, by omega, by go_num, rfl, HF⟩
              case measure => simp [intOf]; omega
        · obtain rfl : k = l.length := by omega
          have hs := HS.out
          rw [List.take_length] at hs
          have HF := Lib.hid hs
          clear hs HS HR HT
          go_wp2
          go_ret2
          exact ⟨⟨⟨oa, on, oc⟩, rfl, HF.out.row, HF.out.bel⟩⟩
end Go.Proofs.YtfdghlpkioednaaDoor
