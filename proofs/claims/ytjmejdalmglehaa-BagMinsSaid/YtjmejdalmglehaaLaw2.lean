/- BagMins, walked. -/
import Derived.Test.YtjmejdalmglehaaMins
namespace Go.Proofs.Ytjmejdalmglehaa
open Go.ChangeShapes Go.WideShapes Go.ChangeAt Go.RowKit
set_option linter.unusedVariables false

/-- Amid BagMins: so many have been put in. -/
structure MS (w : World) (inp : List Pr) (k : Nat) (m : List Pr) (W : World) : Prop where
  ex : ∃ s, PS w m [] s nilS W
  perm : m.Perm (inp.take k)
  ord : Ord m
theorem MS.bel {w W : World} {inp m : List Pr} {k : Nat} (h : MS w inp k m W) : Below w.heap.size w W := by
  obtain ⟨s, hs⟩ := h.ex
  exact hs.bel
theorem MS.add {w W : World} {inp m : List Pr} {k : Nat} (h : MS w inp k m W) (hk : k < inp.length) (hl : inp.length < 100000) :
    Calls Try.prog 6 #[.pointer (some ⟨w.heap.size, 0, none⟩), (ithP inp k).val] W fun e V => e = .returned (.tuple #[]) ∧ MS w inp (k + 1) (addL m (ithP inp k)) V := by
  obtain ⟨s, hs⟩ := h.ex
  have hm := h.perm.length_eq
  rw [List.length_take] at hm
  refine (add_any _ s m _ W hs.bag h.ord (by omega)).mono ?_
  rintro e V ⟨rfl, ht⟩
  refine ⟨rfl, hs.turned ht, (addL_perm m _).trans ?_, addL_ord h.ord _⟩
  rw [take_next (ithP_lt hk)]
  exact ((h.perm.cons _).trans (List.perm_append_singleton _ _).symm)
/-- A pair of the list that came in, in whatever later world. -/
structure AtW (wr : World) (b o : Nat) (p : Pr) (s : Sl) (M : List Pr) (W : World) : Prop where
  bel : Below wr.heap.size wr W
  at_ : PrAt W b o p
  rd : Reads W s 2 (encP M)
theorem AtW.below {wr W V : World} {b o : Nat} {p : Pr} {s : Sl} {M : List Pr} (h : AtW wr b o p s M W) (hb : Below W.heap.size W V) : AtW wr b o p s M V := ⟨below_then h.bel hb, h.at_.below hb, h.rd.below hb⟩
theorem AtW.cells {wr W : World} {b o : Nat} {p : Pr} {s : Sl} {M : List Pr} (h : AtW wr b o p s M W) : W.cell? ⟨b, o, none⟩ = some (.int .u32 p.k) ∧ W.cell? ⟨b, o + 1, none⟩ = some (.int .u32 p.v) := ⟨h.at_.x0, h.at_.x1⟩

set_option maxRecDepth 100000 in
set_option maxHeartbeats 8000000 in
theorem law_mins (s : Sl) (inp : List Pr) (w : World) (h : Reads w s 2 (encP inp)) : Calls Try.prog 4 #[.slice s.a s.n s.cap] w fun e w' => e = .returned (.bool true) ∧ Below w.heap.size w w' := by
  have hn := h.lenP
  have hroom := h.room
  unfold maxLen at hroom
  by_cases hlen : 150 < inp.length
  · have gl : (150 : Int) < inp.length := by omega
    have KL := lives_any w
    clear h
    obtain ⟨sa, sn, sc⟩ := s
    dsimp only at *
    subst hn
    go_enter Try.func4, Try.ntmps4
    go_wp2_with fail
    refine KL.mono ?_
    rintro x w1 ⟨rfl, hb⟩
    have HB := Lib.hid hb
    clear hb KL
    go_wp2
    go_ret
    exact ⟨rfl, HB.out⟩
  have gl : ¬ (150 : Int) < inp.length := by omega
  have HR := Lib.hid fun W hb => h.below (V := W) hb
  have S0 : Hid (MS w inp 0 [] (w.alloc (.cells #[.slice none 0 0] 26))) := Lib.hid ⟨⟨nilS, PS.start w⟩, by simp, List.Pairwise.nil⟩
  have KPL := Lib.hid fun W (hb : Below w.heap.size w W) => plain_any s inp W (h.below hb) (by omega)
  clear h
  obtain ⟨sa, sn, sc⟩ := s
  dsimp only at *
  subst hn
  go_enter Try.func4, Try.ntmps4
  go_wp2_with fail
  go_loopw [4] (fun i W => ∃ (k : Nat) (m : List Pr), k ≤ inp.length ∧ i = .int .i64 k ∧ Hid (MS w inp k m W)) (fun i _ => inp.length - (intOf i).toNat)
  case atStart => exact ⟨0, [], by omega, rfl, S0⟩
  case round =>
    clear S0
    obtain ⟨k, m, hk, rfl, HS⟩ := hrel
    by_cases hkn : k < inp.length
    · obtain ⟨b, off, rfl, x0, x1⟩ := (HR.out wr HS.out.bel).pr hkn
      have gk : (k : Int) < inp.length := by omega
      have w2 := IntWalk.i64_in ((k : Int) + 1) (by omega)
      have KA := HS.out.add hkn (by omega)
      clear HS HR KPL
      generalize addL m (ithP inp k) = m2 at *
      generalize ithP inp k = p at *
      obtain ⟨pk, pv⟩ := p
      dsimp only [Pr.val] at *
      go_wp2_with fail
      refine KA.mono ?_
      rintro e w1 ⟨rfl, hS⟩
      have HS := Lib.hid hS
      clear KA hS
      go_wp2
      go_roundw
      case rel => exact ⟨k + 1, m2, by omega, by go_num, HS⟩
      case measure => simp [intOf]; omega
    · obtain rfl : k = inp.length := by omega
      have hb0 := HS.out.bel
      have hpm := HS.out.perm
      rw [List.take_length] at hpm
      obtain ⟨e1, e2⟩ := refLeast_perm hpm HS.out.ord
      have HML := Lib.hid (minsL_of hpm HS.out.ord)
      have HB0 := Lib.hid hb0
      have KP1 := KPL.out wr hb0
      have hml := hpm.length_eq
      obtain ⟨s, hs⟩ := HS.out.ex
      have KM := Lib.hid fun W (hb : Below wr.heap.size wr W) => mins_any w.heap.size s m W (hs.bag.below hb) HS.out.ord (by omega)
      have KR := Lib.hid fun o W (hr : Reads W o 2 (encP inp)) => refLeast_any o inp W hr
      rw [e1] at KR
      clear KPL HS hs e1 e2 hpm hb0 hml
      generalize ddL (lst m) (lst m).length = M at *
      generalize leastL m = key at *
      generalize hem : (!inp.isEmpty) = em at *
      have HEM := Lib.hid hem
      clear hem
      go_wp2_with fail
      refine KP1.mono ?_
      rintro e w1 ⟨⟨oa, on, oc⟩, rfl, hM⟩
      have KR1 := KR.out ⟨oa, on, oc⟩ w1 hM.reads
      have KM1 := KM.out w1 hM.bel
      have HB1 := Lib.hid (below_then HB0.out hM.bel)
      clear KP1 KM KR hM HB0
      dsimp only at *
      go_wp2_with fail
      refine KR1.mono ?_
      rintro e w2 ⟨rfl, rfl⟩
      clear KR1
      go_wp2_with fail
      refine KM1.mono ?_
      rintro e w2 ⟨⟨ma, mn, mc⟩, rfl, hr, hb⟩
      have HB2 := Lib.hid (below_then HB1.out hb)
      have hmn := hr.lenP
      have mroom := hr.room
      unfold maxLen at mroom
      have HMR := Lib.hid hr
      have hml := HML.out.len
      clear KM1 hb hr HB1
      dsimp only at hmn mroom
      subst hmn
      go_wp2_with fail
      go_loopw [8] (fun i W => ∃ (k : Nat), k ≤ M.length ∧ i = .int .i64 k ∧ Hid (Below w2.heap.size w2 W)) (fun i _ => M.length - (intOf i).toNat)
      case atStart => exact ⟨0, by omega, rfl, Lib.hid (Below.refl _ _)⟩
      case round =>
        obtain ⟨k, hk, rfl, HL⟩ := hrel
        by_cases hkn : k < M.length
        · obtain ⟨b, off, ema, x0, x1⟩ := (HMR.out.below HL.out).pr hkn
          have gk : (k : Int) < M.length := by omega
          have w2' := IntWalk.i64_in ((k : Int) + 1) (by omega)
          have hky := HML.out.key k hkn
          rw [hky] at x0
          by_cases hk0 : k = 0
          · subst hk0
            dsimp only at ema
            subst ema
            clear HML HR HEM hky
            generalize (ithP M 0).v = pv at *
            simp only [Nat.zero_mul, Nat.add_zero] at x0 x1
            go_wp2_with fail
            go_quiet (fail)
            have HL2 := Lib.hid (below_drewN HL.out nq)
            clear HL
            go_wp2
            go_roundw
            case rel => exact ⟨1, by omega, by go_num, HL2⟩
            case measure => simp [intOf]; omega
          · obtain ⟨j, hjk⟩ : ∃ j, k = j + 1 := ⟨k - 1, by omega⟩
            obtain ⟨b2, off2, eb, y0, y1⟩ := (HMR.out.below HL.out).pr (k := j) (by omega)
            dsimp only at ema eb
            subst ema
            simp only [Option.some.injEq, Addr.mk.injEq] at eb
            obtain ⟨rfl, rfl, _⟩ := eb
            have hup := HML.out.up j (by omega)
            rw [← hjk] at hup
            have gj : (j : Int) < M.length := by omega
            have w1' : IntKind.i64.wrap ((k : Int) - 1) = (j : Int) := by rw [IntKind.wrap_i64]; omega
            have hgt : decide (0 < k) = true := by simp; omega
            clear HML HR HEM hky hjk hk0 y0
            generalize (ithP M k).v = pv at *
            generalize (ithP M j).v = qv at *
            have hle : decide (pv ≤ qv) = false := by simp; omega
            clear hup
            go_wp2_with fail
            go_quiet (fail)
            have HL2 := Lib.hid (below_drewN HL.out nq)
            clear HL
            go_wp2
            go_roundw
            case rel => exact ⟨k + 1, by omega, by go_num, HL2⟩
            case measure => simp [intOf]; omega
        · obtain rfl : k = M.length := by omega
          have HMR3 := Lib.hid (HMR.out.below HL.out)
          have HB3 := Lib.hid (below_then HB2.out HL.out)
          clear HMR HL HB2
          rename World => w3
          go_wp2_with fail
          go_loopw [9] (fun i W => ∃ (k : Nat), k ≤ inp.length ∧ i = .int .i64 k ∧ Hid (Below w3.heap.size w3 W)) (fun i _ => inp.length - (intOf i).toNat)
          case atStart => exact ⟨0, by omega, rfl, Lib.hid (Below.refl _ _)⟩
          case round =>
            obtain ⟨k, hk, rfl, HL⟩ := hrel
            by_cases hkn : k < inp.length
            · obtain ⟨b, off, esa, x0, x1⟩ := (HR.out wr (below_then HB3.out HL.out)).pr hkn
              have gk : (k : Int) < inp.length := by omega
              have w2' := IntWalk.i64_in ((k : Int) + 1) (by omega)
              have hone := HML.out.one _ (ithP_mem hkn)
              dsimp only at esa
              subst esa
              by_cases hky : (ithP inp k).k = key
              · have hone := hone hky
                have S0 : AtW wr b (off + k * 2) (ithP inp k) ⟨ma, M.length, mc⟩ M wr.drew := ⟨below_drew (Below.refl _ _), PrAt.below ⟨x0, x1⟩ (below_drew (Below.refl _ _)), (HMR3.out.below HL.out).below (below_drew (Below.refl _ _))⟩
                have KP := Lib.hid fun W (hr : Reads W ⟨ma, M.length, mc⟩ 2 (encP M)) => plain_any ⟨ma, M.length, mc⟩ M W hr (by omega)
                have KC : Hid (∀ o W, Reads W o 2 (encP M) → Calls Try.prog 8 #[.slice o.a o.n o.cap, (ithP inp k).val] W fun e w' => e = .returned (.int .i64 1) ∧ Below W.heap.size W w') := Lib.hid fun o W hr => by
                  have := count_any o M (ithP inp k) W hr
                  rw [hone] at this
                  exact this
                clear HML HR HEM hone HMR3
                generalize ithP inp k = p at *
                obtain ⟨pk, pv⟩ := p
                dsimp only at hky
                subst hky
                dsimp only [Pr.val] at *
                go_wp2_with fail
                go_region_held3 (fun W => W.cell? ⟨b, off + k * 2, none⟩ = some (.int .u32 pk) ∧ W.cell? ⟨b, off + k * 2 + 1, none⟩ = some (.int .u32 pv)) (first | exact AtW.cells (by assumption) | go_keep)
                  (first | (go_at_call 18; refine (KP.out _ (AtW.rd (by assumption))).mono ?_; rintro e V' ⟨⟨qa, qn, qc⟩, rfl, hM⟩; have S' := AtW.below (by assumption) hM.bel; have hq := hM.reads) | (go_at_call 8; refine (KC.out ⟨qa, qn, qc⟩ _ (by assumption)).mono ?_; rintro e V' ⟨rfl, hb⟩; have S' := AtW.below (by assumption) hb))
                all_goals
                  have HL2 := Lib.hid (below_then HL.out (AtW.bel (by assumption)))
                  clear KP KC HL
                  go_wp2
                  go_roundw
                  case rel => exact ⟨k + 1, by omega, by go_num, HL2⟩
                  case measure => simp [intOf]; omega
              · have hkb := beq_f hky
                clear HML HR HEM hone HMR3 hky
                generalize (ithP inp k).k = pk at *
                generalize (ithP inp k).v = pv at *
                go_wp2_with fail
                go_quiet (fail)
                have HL2 := Lib.hid (below_drewN HL.out nq)
                clear HL
                go_wp2
                go_roundw
                case rel => exact ⟨k + 1, by omega, by go_num, HL2⟩
                case measure => simp [intOf]; omega
            · obtain rfl : k = inp.length := by omega
              have HB4 := Lib.hid (below_then HB3.out HL.out)
              have hsm := HML.out.some_
              have KV := lives_any wr
              have hem2 := HEM.out
              have hec : (em = true ∧ 0 < M.length) ∨ (em = false ∧ M.length = 0) := by
                by_cases hi : inp = []
                · right
                  rw [hsm.2 hi]
                  subst hi
                  exact ⟨hem2.symm, rfl⟩
                · left
                  refine ⟨?_, List.length_pos_iff.2 (fun e => hi (hsm.1 e))⟩
                  rw [← hem2]
                  simpa using hi
              clear HML HEM hsm hem2 HMR3 HB3 HL HR
              rcases hec with ⟨rfl, h0⟩ | ⟨rfl, h0⟩
              all_goals
                go_wp2_with fail
                refine KV.mono ?_
                rintro e w5 ⟨rfl, hb⟩
                have HB5 := Lib.hid (below_then HB4.out hb)
                clear KV hb HB4
                go_wp2
                go_ret
                exact ⟨rfl, HB5.out⟩
end Go.Proofs.Ytjmejdalmglehaa
