/- The law HazardClears. -/
import Derived.Test.YtemikojaldoofaaGreatHP
import Derived.Deep.CutBlock
namespace Go.Proofs.YtemikojaldoofaaGreat
open Go.ChangeShapes Go.WideShapes Go.ChangeAt Go.RowKit
set_option linter.unusedVariables false
set_option maxRecDepth 20000
/-! ### Slots -/
theorem haz_k {c : P.Cf} (hc : c.Ok) {k : Int} (k0 : 0 ≤ k) (k1 : k < c.th * c.slots) : c.hazard (k / c.slots) (k % c.slots) = 8 + k ∧ 8 + k < c.o3 := by
  have h := slot_in hc k0 k1
  have e := (haz_at hc h.1 h.2.1 h.2.2.1 h.2.2.2).1
  have hl := haz_low hc h.1 h.2.1 h.2.2.1 h.2.2.2
  have hs := hc.slots
  have hd : k / c.slots * c.slots + k % c.slots = k := by
    have := Int.mul_ediv_add_emod k c.slots
    rw [Int.mul_comm]; exact this
  omega
/-- n words behind 8 are those of xs. -/
def laidS (ws xs : List Int) : Nat → List Int
  | 0 => ws
  | n + 1 => (laidS ws xs n).set (8 + n) (xs.getD n 0)
theorem laidS_len (ws xs : List Int) : ∀ n, (laidS ws xs n).length = ws.length
  | 0 => rfl
  | n + 1 => by simp [laidS, laidS_len ws xs n]
theorem laidS_at {ws xs : List Int} (a : Nat) : ∀ {n : Nat}, 8 + n ≤ ws.length → wordAt (laidS ws xs n) a = if 8 ≤ a ∧ a < 8 + n then xs.getD (a - 8) 0 else wordAt ws a
  | 0, _ => by rw [if_neg (by omega)]; rfl
  | n + 1, h => by
    show wordAt ((laidS ws xs n).set (8 + n) (xs.getD n 0)) a = _
    rw [wordAt_set, laidS_at a (by omega)]
    by_cases e : 8 + n = a
    · subst e
      rw [if_pos ⟨rfl, by rw [laidS_len]; omega⟩, if_pos (by omega)]
      congr 1
      omega
    · rw [if_neg (by omega)]
      by_cases e2 : 8 ≤ a ∧ a < 8 + n
      · rw [if_pos e2, if_pos (by omega)]
      · rw [if_neg e2, if_neg (by omega)]
/-- Of the first j slots of thread 0 none is left. -/
def cleared (ws : List Int) (j : Nat) : List Int := laidS ws [] j
theorem cleared_at {ws : List Int} (a : Nat) {n : Nat} (h : 8 + n ≤ ws.length) : wordAt (cleared ws n) a = if 8 ≤ a ∧ a < 8 + n then 0 else wordAt ws a := by
  unfold cleared
  rw [laidS_at a h]
  simp
theorem clear_run {c : P.Cf} (hc : c.Ok) {ws : List Int} {G : G.GS} {rt fn : List Int} (hl : ws.length = c.size.toNat) :
    (∀ j, j < c.slots.toNat → (hrun c 0 ⟨ws, G, 0, .wi 0, rt, fn, 0⟩ j).ph.Pre c (hrun c 0 ⟨ws, G, 0, .wi 0, rt, fn, 0⟩ j).ws (hrun c 0 ⟨ws, G, 0, .wi 0, rt, fn, 0⟩ j).rt (hrun c 0 ⟨ws, G, 0, .wi 0, rt, fn, 0⟩ j).fn ∧ (hrun c 0 ⟨ws, G, 0, .wi 0, rt, fn, 0⟩ j).ws.length = c.size.toNat ∧ 0 ≤ (hrun c 0 ⟨ws, G, 0, .wi 0, rt, fn, 0⟩ j).inc ∧ (hrun c 0 ⟨ws, G, 0, .wi 0, rt, fn, 0⟩ j).inc ≤ 100) ∧
      hrun c 0 ⟨ws, G, 0, .wi 0, rt, fn, 0⟩ c.slots.toNat = ⟨cleared ws c.slots.toNat, G, c.slots, .idle, rt, fn, 0⟩ := by
  have hs := hc.slots
  have hth := hc.th
  have key : ∀ j : Nat, (j : Int) ≤ c.slots → hrun c 0 ⟨ws, G, 0, .wi 0, rt, fn, 0⟩ j = ⟨cleared ws j, G, j, if (j : Int) < c.slots then .wi j else .idle, rt, fn, 0⟩ := by
    intro j
    induction j with
    | zero => intro _; rw [if_pos (by show ((0 : Nat) : Int) < _; omega)]; rfl
    | succ j ih =>
      intro hj
      have hh := (haz_at hc (k := 0) (s := j) (by omega) (by omega) (by omega) (by omega)).1
      rw [hrun_succ, ih (by omega), if_pos (by omega)]
      simp only [Hp.step]
      rw [hh]
      have e : (8 + 0 * c.slots + (j : Int)).toNat = 8 + j := by omega
      rw [e]
      rfl
  have hall := all_in hc
  refine ⟨fun j hj => ?_, ?_⟩
  · rw [key j (by omega), if_pos (by omega)]
    refine ⟨⟨by omega, by omega⟩, ?_, by show (0 : Int) ≤ j; omega, by show (j : Int) ≤ 100; omega⟩
    show (laidS ws [] j).length = _
    rw [laidS_len]; exact hl
  · rw [key _ (by omega), if_neg (by omega)]
    have : ((c.slots.toNat : Nat) : Int) = c.slots := by omega
    rw [this]
theorem first_slot {c : P.Cf} (hc : c.Ok) {k : Int} (k0 : 0 ≤ k) (k1 : k < c.th * c.slots) : wordAt (firstMS c).ws (8 + k).toNat = 0 := by
  have hz := hc.steps
  have h := slot_in hc k0 k1
  have e := haz_k hc k0 k1
  rw [first_ws hc (by omega)]
  have e2 : (((8 + k).toNat : Nat) : Int) = 8 + (k / c.slots) * c.slots + k % c.slots := by
    have := (haz_at hc h.1 h.2.1 h.2.2.1 h.2.2.2).1
    omega
  rw [e2, P.place_1 hc h.1 h.2.1 h.2.2.1 h.2.2.2]
  rfl
theorem first_slot3 : True := trivial
set_option maxHeartbeats 4000000 in
theorem clear_main (c : P.Cf) (a1 : Option Addr) (n cap : Nat) (xs : List Int) (w : World) (hc : c.Ok) (R : F.Row .u64 w a1 n cap xs) :
    Calls Tryz.prog 4 #[c.v, .slice a1 n cap] w fun e w' => e = .returned (.bool true) ∧ Below w.heap.size w w' := by
  have KR := fun W => P.right_ok c W hc
  have KN : ∀ W, Calls Tryz.prog 9 #[c.v, .slice none 0 0, .bool true] W fun e W' => ∃ B Fb T g t, e = .returned (.tuple #[at0 B, .int .i64 0]) ∧ Rest c W [] B Fb T g t (firstMS c).ws (firstMS c).st (ghost0 c) [] [] 0 W' := fun W => born_rest hc
  have HC := Lib.hid hc
  have HR1 := Lib.hid R
  have hsl := hc.slots
  have hal := all_in hc
  have HSL : Hid (∀ V', Calls Tryz.prog 11 #[c.v] V' fun e V2 => e = .returned (.int .i64 c.slots) ∧ Below V'.heap.size V' V2) := Lib.hid fun V' => P.slots_ok c V' hc
  have hroom := R.room
  clear hc R
  go_enter Tryz.func4, Tryz.ntmps4
  go_wp2_with fail
  refine (KR _).mono ?_
  rintro e V ⟨rfl, hb⟩
  have hA : Below w.heap.size w (w.alloc (.cells c.cs 23)) := (Below.refl _ _).alloc (Nat.le_refl _) _
  have hB0 : Blk (w.alloc (.cells c.cs 23)) w.heap.size 23 c.cs := Blk.new w 23 c.cs
  have hbl := hA.trans (hb.mono (by simp))
  have hB0' := hB0.agree (hb.block _ (by simp))
  generalize hCb : w.heap.size = Cb at *
  have HCb := Lib.hid hCb
  clear hCb hb hA hB0 KR
  obtain ⟨p0, p1, p2, p3, p4, p5, p6⟩ := conf_at hB0'
  go_wp2_with fail
  refine (KN _).mono ?_
  rintro e V1 ⟨B, Fb, T, g, t, rfl, h⟩
  have h1 := (h.add (Below.refl _ _) (hB0'.agree (h.bel.block _ hB0'.lt)) (.inr hB0'.lt)).since (w0 := w) (by rw [HCb.out]; exact hbl)
  have HH := Lib.hid h1
  have K10 := h1.plan
  clear h h1 hB0' hbl KN p0 p1 p2 p3 p4 p5 p6
  go_wp2_with fail
  refine K10.mono ?_
  rintro e V2 ⟨rfl, hb⟩
  have HH2 := Lib.hid (HH.out.below hb)
  clear K10 hb HH
  go_upto_region 7 with fail
  have hAl : Below V2.heap.size V2 (V2.alloc (.cells c.cs 33)) := (Below.refl _ _).alloc (Nat.le_refl _) _
  have HP := Lib.hid (HH2.out.add hAl (Blk.new V2 33 c.cs) (.inl (Nat.le_refl _)))
  clear HH2 hAl
  generalize hPb : V2.heap.size = Pb at *
  generalize V2.alloc (.cells c.cs 33) = V3 at *
  clear hPb
  have HSS : Hid (∀ ws st Gs rt fn r V', Rest c w [(Pb, 33, c.cs), (Cb, 23, c.cs)] B Fb T g t ws st Gs rt fn r V' → (V'.cell? ⟨Pb, 0, none⟩ = some (.int .i64 c.al) ∧ V'.cell? ⟨Pb, 1, none⟩ = some (.int .i64 c.th) ∧ V'.cell? ⟨Pb, 2, none⟩ = some (.int .i64 c.nd) ∧ V'.cell? ⟨Pb, 3, none⟩ = some (.int .i64 c.lv) ∧ V'.cell? ⟨Pb, 4, none⟩ = some (.int .i64 c.ba) ∧ V'.cell? ⟨Pb, 5, none⟩ = some (.int .i64 c.pr) ∧ V'.cell? ⟨Pb, 6, none⟩ = some (.int .i64 c.sc)) ∧ V'.cell? ⟨Cb, 1, none⟩ = some (.int .i64 c.th)) := Lib.hid fun ws st Gs rt fn r V' h => ⟨conf_at (h.blk (x := (Pb, 33, c.cs)) (by simp)), (conf_at (h.blk (x := (Cb, 23, c.cs)) (by simp))).2.1⟩
  have hmul : c.slots * c.th = c.th * c.slots := Int.mul_comm _ _
  have wal : IntKind.i64.wrap (c.slots * c.th) = c.th * c.slots := by rw [hmul]; exact IntWalk.i64_in _ (by omega)
  generalize hall : c.th * c.slots = al at *
  have HALL := Lib.hid hall
  have hz := HC.out.steps
  have hfl := first_len HC.out
  have hst := (first_mk HC.out).2
  have hth := HC.out.th
  have HFS : Hid (∀ k : Int, 0 ≤ k → k < al → wordAt (firstMS c).ws (8 + k).toNat = 0) := Lib.hid fun k h0 h1 => first_slot HC.out h0 (by rw [HALL.out]; exact h1)
  have HHK : Hid (∀ k : Int, 0 ≤ k → k < al → c.hazard (k / c.slots) (k % c.slots) = 8 + k ∧ 8 + k < c.o3) := Lib.hid fun k h0 h1 => haz_k HC.out h0 (by rw [HALL.out]; exact h1)
  have HSI : Hid (∀ k : Int, 0 ≤ k → k < al → 0 ≤ k / c.slots ∧ k / c.slots < c.th ∧ 0 ≤ k % c.slots ∧ k % c.slots < c.slots) := Lib.hid fun k h0 h1 => slot_in HC.out h0 (by rw [HALL.out]; exact h1)
  generalize hws : (firstMS c).ws = ws0 at *
  generalize hstt : (firstMS c).st = st0 at *
  have HW := Lib.hid (And.intro hz (And.intro hfl hst))
  have HHZ : Hid (∀ k : Int, 0 ≤ k → k < al → ∀ V', Calls Tryz.prog 14 #[c.v, .int .i64 (k / c.slots), .int .i64 (k % c.slots)] V' fun e V2 => e = .returned (.int .i64 (8 + k)) ∧ Below V'.heap.size V' V2) := Lib.hid fun k h0 h1 V' => by
    have hs := HSI.out k h0 h1
    have := hazard_ok c (k / c.slots) (k % c.slots) V' HC.out (by unfold P.I64; omega) (by unfold P.I64; omega)
    rw [(HHK.out k h0 h1).1] at this
    exact this
  clear hz hfl hst hws hstt hmul hall
  go_cut [8] from 28 to 32 (fun s8 wx => s8 = .int .i64 al ∧ Hid (Rest c w [(Pb, 33, c.cs), (Cb, 23, c.cs)] B Fb T g t ws0 st0 (ghost0 c) [] [] 0 wx))
  case first =>
    repeat (rename (∀ (a : Act) (w_1 : World), Code.wp Tryz.prog _ _ a w_1 → _) => hK1; clear hK1)
    have hM := HP.out.below ((Below.refl _ _).drew)
    go_wp2_with fail
    go_region_held3 (fun V' => (V'.cell? ⟨Pb, 0, none⟩ = some (.int .i64 c.al) ∧ V'.cell? ⟨Pb, 1, none⟩ = some (.int .i64 c.th) ∧ V'.cell? ⟨Pb, 2, none⟩ = some (.int .i64 c.nd) ∧ V'.cell? ⟨Pb, 3, none⟩ = some (.int .i64 c.lv) ∧ V'.cell? ⟨Pb, 4, none⟩ = some (.int .i64 c.ba) ∧ V'.cell? ⟨Pb, 5, none⟩ = some (.int .i64 c.pr) ∧ V'.cell? ⟨Pb, 6, none⟩ = some (.int .i64 c.sc)) ∧ V'.cell? ⟨Cb, 1, none⟩ = some (.int .i64 c.th))
      (first | exact HSS.out _ _ _ _ _ _ _ (by assumption) | go_keep)
      (first | (go_at_call 11; refine (HSL.out _).mono ?_; rintro e V4 ⟨rfl, hb4⟩; have hM4 := Rest.below (by assumption) hb4; clear hb4))
    all_goals
      go_wp2_with fail
      go_meet
      exact ⟨rfl, Lib.hid (by assumption)⟩
  case rest =>
    obtain ⟨rfl, HR⟩ := hcut
    clear HP
    go_upto_block 0 with fail
    go_cut [9] from 33 to 60 (fun s9 wx => ∃ j : Nat, Hid (j ≤ n ∧ (j : Int) ≤ al ∧ (j = n ∨ (j : Int) = al)) ∧ Hid (Rest c w [(Pb, 33, c.cs), (Cb, 23, c.cs)] B Fb T g t (laidS ws0 xs j) (st0 + j) (ghost0 c) [] [] 0 wx))
    case first =>
      repeat (rename (∀ (a : Act) (w_1 : World), Code.wp Tryz.prog _ _ a w_1 → _) => hK1; clear hK1)
      go_wp2_with fail
      go_loopw [9] (fun i wr => ∃ j : Nat, i = .int .i64 j ∧ j ≤ n ∧ (j : Int) ≤ al ∧ Hid (Rest c w [(Pb, 33, c.cs), (Cb, 23, c.cs)] B Fb T g t (laidS ws0 xs j) (st0 + j) (ghost0 c) [] [] 0 wr)) (fun i _ => 100 - (intOf i).toNat)
      case atStart => exact ⟨0, rfl, by omega, by omega, by simpa [laidS] using HR⟩
      case round =>
        obtain ⟨j, rfl, hjn, hja, HJ⟩ := hrel
        clear HR
        by_cases hlt : j < n
        · have hltz : (j : Int) < (n : Int) := by omega
          by_cases hla : (j : Int) < al
          · have kq : (j : Int).tdiv c.slots = j / c.slots := P.tdiv_of (by omega)
            have kr : (j : Int).tmod c.slots = j % c.slots := P.tmod_of (by omega)
            have kd := P.div_in (x := j) (k := c.slots) (by omega) (by omega)
            have km0 := Int.emod_nonneg (j : Int) (show c.slots ≠ 0 by omega)
            have km1 := Int.emod_lt_of_pos (j : Int) (show 0 < c.slots by omega)
            have wq : IntKind.i64.wrap ((j : Int) / c.slots) = j / c.slots := IntWalk.i64_in _ (by omega)
            have wr2 : IntKind.i64.wrap ((j : Int) % c.slots) = j % c.slots := IntWalk.i64_in _ (by omega)
            have nsl : (c.slots == 0) = false := beq_eq_false_iff_ne.2 (by omega)
            have nsl2 : ¬ c.slots = 0 := by omega
            have KZ := HHZ.out j (by omega) (by omega)
            obtain ⟨b2, o2, rfl, hx⟩ := HR1.out.cell j hlt
            have hb2 := World.block_lt_of_cell? w _ hx
            have HXC : Hid (∀ V, Rest c w [(Pb, 33, c.cs), (Cb, 23, c.cs)] B Fb T g t (laidS ws0 xs j) (st0 + j) (ghost0 c) [] [] 0 V → V.cell? ⟨b2, o2 + j, none⟩ = some (.int .u64 (xs.getD j 0))) := Lib.hid fun V h => (F.cell_agree (p := ⟨b2, o2 + j, none⟩) (h.bel.block b2 hb2)).trans hx
            have hxs : xs.getD j 0 = xs.getD j 0 := rfl
            clear hx hxs
            go_upto_block 1 with fail
            go_cut [] from 44 to 60 (fun wx => Hid (Rest c w [(Pb, 33, c.cs), (Cb, 23, c.cs)] B Fb T g t (laidS ws0 xs (j + 1)) (st0 + ((j + 1 : Nat) : Int)) (ghost0 c) [] [] 0 wx))
            case first =>
              repeat (rename (∀ (a : Act) (w_1 : World), Code.wp Tryz.prog _ _ a w_1 → _) => hK1; clear hK1)
              obtain ⟨M, q1, q2, q3, q4⟩ := HJ.out.mem
              have hB0 : Below wr.heap.size wr wr.drew := (Below.refl _ _).drew
              have HSB : Hid (∀ V, Below wr.heap.size wr V → (V.cell? ⟨Pb, 0, none⟩ = some (.int .i64 c.al) ∧ V.cell? ⟨Pb, 1, none⟩ = some (.int .i64 c.th) ∧ V.cell? ⟨Pb, 2, none⟩ = some (.int .i64 c.nd) ∧ V.cell? ⟨Pb, 3, none⟩ = some (.int .i64 c.lv) ∧ V.cell? ⟨Pb, 4, none⟩ = some (.int .i64 c.ba) ∧ V.cell? ⟨Pb, 5, none⟩ = some (.int .i64 c.pr) ∧ V.cell? ⟨Pb, 6, none⟩ = some (.int .i64 c.sc)) ∧ V.cell? ⟨b2, o2 + j, none⟩ = some (.int .u64 (xs.getD j 0))) := Lib.hid fun V hV => ⟨(HSS.out _ _ _ _ _ _ _ (HJ.out.below hV)).1, HXC.out _ (HJ.out.below hV)⟩
              have HSN : Hid (∀ V, Rest c w [(Pb, 33, c.cs), (Cb, 23, c.cs)] B Fb T g t (laidS ws0 xs (j + 1)) (st0 + ((j + 1 : Nat) : Int)) (ghost0 c) [] [] 0 V → (V.cell? ⟨Pb, 0, none⟩ = some (.int .i64 c.al) ∧ V.cell? ⟨Pb, 1, none⟩ = some (.int .i64 c.th) ∧ V.cell? ⟨Pb, 2, none⟩ = some (.int .i64 c.nd) ∧ V.cell? ⟨Pb, 3, none⟩ = some (.int .i64 c.lv) ∧ V.cell? ⟨Pb, 4, none⟩ = some (.int .i64 c.ba) ∧ V.cell? ⟨Pb, 5, none⟩ = some (.int .i64 c.pr) ∧ V.cell? ⟨Pb, 6, none⟩ = some (.int .i64 c.sc)) ∧ V.cell? ⟨b2, o2 + j, none⟩ = some (.int .u64 (xs.getD j 0))) := Lib.hid fun V h => ⟨(HSS.out _ _ _ _ _ _ _ h).1, (F.cell_agree (p := ⟨b2, o2 + j, none⟩) ((h.bel.block b2 hb2).trans (HJ.out.bel.block b2 hb2).symm)).trans (HXC.out _ HJ.out)⟩
              have HQ3 : Hid (∀ V, Below wr.heap.size wr V → Calls Tryz.prog 13 #[at0 M, .int .i64 (8 + j), .int .u64 (xs.getD j 0)] V fun e V' => e = .returned (.int .i64 0) ∧ Rest c w [(Pb, 33, c.cs), (Cb, 23, c.cs)] B Fb T g t (laidS ws0 xs (j + 1)) (st0 + ((j + 1 : Nat) : Int)) (ghost0 c) [] [] 0 V') := Lib.hid fun V hV => by
                have h1 := HW.out
                have h2 := (HHK.out j (by omega) hla).2
                have := q3 V (8 + j) (xs.getD j 0) hV (by rw [laidS_len]; omega) (by omega) (by omega) (by omega) (by rw [laidS_len]; omega)
                rw [show ((8 : Int) + j).toNat = 8 + j by omega, show st0 + (j : Int) + 1 = st0 + ((j + 1 : Nat) : Int) by omega] at this
                exact this
              clear q2 q3 q4
              generalize xs.getD j 0 = x at *
              go_wp2_with fail
              go_region_held3 (fun V' => (V'.cell? ⟨Pb, 0, none⟩ = some (.int .i64 c.al) ∧ V'.cell? ⟨Pb, 1, none⟩ = some (.int .i64 c.th) ∧ V'.cell? ⟨Pb, 2, none⟩ = some (.int .i64 c.nd) ∧ V'.cell? ⟨Pb, 3, none⟩ = some (.int .i64 c.lv) ∧ V'.cell? ⟨Pb, 4, none⟩ = some (.int .i64 c.ba) ∧ V'.cell? ⟨Pb, 5, none⟩ = some (.int .i64 c.pr) ∧ V'.cell? ⟨Pb, 6, none⟩ = some (.int .i64 c.sc)) ∧ V'.cell? ⟨b2, o2 + j, none⟩ = some (.int .u64 x))
                (first | exact HSB.out _ (by assumption) | exact HSN.out _ (by assumption) | go_keep)
                (first | (go_at_call 12; refine (q1 _ (by assumption)).mono ?_; rintro e v2 ⟨rfl, rfl⟩) | (go_at_call 11; refine (HSL.out _).mono ?_; rintro e V5 ⟨rfl, hb5⟩; have hB5 := P.below_then (by assumption) hb5 (Nat.le_refl _); clear hb5) | (go_at_call 14; refine (KZ _).mono ?_; rintro e V6 ⟨rfl, hb6⟩; have hB6 := P.below_then (by assumption) hb6 (Nat.le_refl _); clear hb6) | (go_at_call 13; refine (HQ3.out _ (by assumption)).mono ?_; rintro e V7 ⟨rfl, hR7⟩))
              all_goals
                go_wp2_with fail
                go_meet
                exact Lib.hid (by assumption)
            case rest =>
              go_wp2_with fail
              go_roundw
              case rel => exact ⟨j + 1, by go_num, by omega, by omega, hcut⟩
              case measure => simp [intOf]; omega
          · have hla2 : ¬ (j : Int) < al := hla
            go_wp2_with fail
            go_meet
            exact ⟨j, Lib.hid ⟨by omega, by omega, .inr (by omega)⟩, HJ⟩
        · have hltz : ¬ (j : Int) < (n : Int) := by omega
          go_wp2_with fail
          go_meet
          exact ⟨j, Lib.hid ⟨by omega, by omega, .inl (by omega)⟩, HJ⟩
    case rest =>
      obtain ⟨j0, HJ0, HRJ⟩ := hcut
      clear HR
      have hlen1 : (laidS ws0 xs j0).length = c.size.toNat := by rw [laidS_len]; exact HW.out.2.1
      have hw1 : ∀ k : Nat, (k : Int) < al → wordAt (laidS ws0 xs j0) (8 + k) = if k < j0 then xs.getD k 0 else 0 := fun k hk => by
        have h1 := HW.out
        have h2 := HJ0.out
        have h3 := (HHK.out k (by omega) hk).2
        have h4 := (HHK.out (j0 - 1 : Int))
        rw [laidS_at (8 + k) (by
          rw [h1.2.1]
          by_cases e : j0 = 0
          · have := hth; omega
          · have := (h4 (by omega) (by omega)).2; omega)]
        by_cases hkj : k < j0
        · rw [if_pos (by omega), if_pos hkj, show 8 + k - 8 = k by omega]
        · rw [if_neg (by omega), if_neg hkj]
          have := HFS.out k (by omega) hk
          rwa [show ((8 : Int) + k).toNat = 8 + k by omega] at this
      obtain ⟨hrn, hend⟩ := clear_run HC.out (G := ghost0 c) (rt := []) (fn := []) hlen1
      have hw2 : ∀ k : Nat, (k : Int) < al → wordAt (cleared (laidS ws0 xs j0) c.slots.toNat) (8 + k) = if (k : Int) < c.slots then 0 else if k < j0 then xs.getD k 0 else 0 := fun k hk => by
        rw [cleared_at (8 + k) (by
          have := (HHK.out (al - 1) (by omega) (by omega)).2
          have h1 := HW.out
          have hsa : c.slots ≤ al := by
            rw [← HALL.out]
            have h2 : 1 * c.slots ≤ c.th * c.slots := Int.mul_le_mul_of_nonneg_right (by omega) (by omega)
            omega
          rw [hlen1]; omega)]
        by_cases hks : (k : Int) < c.slots
        · rw [if_pos (by omega), if_pos hks]
        · rw [if_neg (by omega), if_neg hks]
          exact hw1 k hk
      have hst1 : 0 ≤ st0 + (j0 : Int) ∧ st0 + (j0 : Int) ≤ 200 := by have := HW.out; have := HJ0.out; omega
      have hl2 : (cleared (laidS ws0 xs j0) c.slots.toNat).length = c.size.toNat := by
        show (laidS _ _ _).length = _
        rw [laidS_len]; exact hlen1
      generalize laidS ws0 xs j0 = ws1 at *
      generalize cleared ws1 c.slots.toNat = ws2 at *
      generalize st0 + (j0 : Int) = st1 at *
      have HW2 := Lib.hid hw2
      have HL2 := Lib.hid (And.intro hl2 hst1)
      have HKC : Hid (∀ V, Rest c w [(Pb, 33, c.cs), (Cb, 23, c.cs)] B Fb T g t (ws1) (st1) (ghost0 c) [] [] 0 V → Calls Tryz.prog 16 #[at0 B, .int .i64 0, .int .i64 4, .slice none 0 0] V fun e V' => e = .returned (.bool true) ∧ Rest c w [(Pb, 33, c.cs), (Cb, 23, c.cs)] B Fb T g t (ws2) (st1 + c.slots) (ghost0 c) [] [] 0 V') := Lib.hid fun V h => h.alone HC.out 4 (row00 V) (by omega) (.wi 0) ⟨_, rfl, rfl, rfl⟩ c.slots.toNat (by omega) (by omega) (fun j hj => ⟨(hrn j hj).1, (hrn j hj).2.1, (hrn j hj).2.2.1, by have := (hrn j hj).2.2.2; omega⟩) hend rfl
      obtain ⟨M, q1, q2, -, -⟩ := HRJ.out.mem
      have KA := q1 _ (Below.refl _ _)
      have KB := q2 _ (Below.refl _ _)
      have wsub : IntKind.i64.wrap (st1 + c.slots - st1) = c.slots := by rw [IntWalk.i64_in _ (by omega)]; omega
      clear q1 q2 hrn hend hw1 hw2 hlen1 hl2 hst1
      go_wp2_with fail
      refine KA.mono ?_
      rintro e v1 ⟨rfl, rfl⟩
      go_wp2_with fail
      refine KB.mono ?_
      rintro e v1 ⟨rfl, rfl⟩
      clear KA KB
      go_upto_region 13 with fail
      go_cut [76] from 64 to 76 (fun s76 wx => s76 = .bool false ∧ Hid (Rest c w [(Pb, 33, c.cs), (Cb, 23, c.cs)] B Fb T g t (ws2) (st1 + c.slots) (ghost0 c) [] [] 0 wx))
      case first =>
        repeat (rename (∀ (a : Act) (w_1 : World), Code.wp Tryz.prog _ _ a w_1 → _) => hK1; clear hK1)
        have hM := HRJ.out.below ((Below.refl _ _).drew)
        have HSP : Hid (∀ V, Rest c w [(Pb, 33, c.cs), (Cb, 23, c.cs)] B Fb T g t (ws2) (st1 + c.slots) (ghost0 c) [] [] 0 V → (V.cell? ⟨Pb, 0, none⟩ = some (.int .i64 c.al) ∧ V.cell? ⟨Pb, 1, none⟩ = some (.int .i64 c.th) ∧ V.cell? ⟨Pb, 2, none⟩ = some (.int .i64 c.nd) ∧ V.cell? ⟨Pb, 3, none⟩ = some (.int .i64 c.lv) ∧ V.cell? ⟨Pb, 4, none⟩ = some (.int .i64 c.ba) ∧ V.cell? ⟨Pb, 5, none⟩ = some (.int .i64 c.pr) ∧ V.cell? ⟨Pb, 6, none⟩ = some (.int .i64 c.sc))) := Lib.hid fun V h => (HSS.out _ _ _ _ _ _ _ h).1
        have HSQ : Hid (∀ V, Rest c w [(Pb, 33, c.cs), (Cb, 23, c.cs)] B Fb T g t (ws1) (st1) (ghost0 c) [] [] 0 V → (V.cell? ⟨Pb, 0, none⟩ = some (.int .i64 c.al) ∧ V.cell? ⟨Pb, 1, none⟩ = some (.int .i64 c.th) ∧ V.cell? ⟨Pb, 2, none⟩ = some (.int .i64 c.nd) ∧ V.cell? ⟨Pb, 3, none⟩ = some (.int .i64 c.lv) ∧ V.cell? ⟨Pb, 4, none⟩ = some (.int .i64 c.ba) ∧ V.cell? ⟨Pb, 5, none⟩ = some (.int .i64 c.pr) ∧ V.cell? ⟨Pb, 6, none⟩ = some (.int .i64 c.sc))) := Lib.hid fun V h => (HSS.out _ _ _ _ _ _ _ h).1
        go_wp2_with fail
        go_region_held3 (fun V' => (V'.cell? ⟨Pb, 0, none⟩ = some (.int .i64 c.al) ∧ V'.cell? ⟨Pb, 1, none⟩ = some (.int .i64 c.th) ∧ V'.cell? ⟨Pb, 2, none⟩ = some (.int .i64 c.nd) ∧ V'.cell? ⟨Pb, 3, none⟩ = some (.int .i64 c.lv) ∧ V'.cell? ⟨Pb, 4, none⟩ = some (.int .i64 c.ba) ∧ V'.cell? ⟨Pb, 5, none⟩ = some (.int .i64 c.pr) ∧ V'.cell? ⟨Pb, 6, none⟩ = some (.int .i64 c.sc)))
          (first | exact HSP.out _ (by assumption) | exact HSQ.out _ (by assumption) | go_keep)
          (first | (go_at_call 16; refine (HKC.out _ (by assumption)).mono ?_; rintro e V5 ⟨rfl, hR5⟩; obtain ⟨M5, q1, q2, -, -⟩ := hR5.mem; have qA := q1 _ (Below.refl _ _); have qB := q2 _ (Below.refl _ _); clear q1 q2) | (go_at_call 12; refine qA.mono ?_; rintro e v2 ⟨rfl, rfl⟩) | (go_at_call 15; refine qB.mono ?_; rintro e v2 ⟨rfl, rfl⟩) | (go_at_call 11; refine (HSL.out _).mono ?_; rintro e V6 ⟨rfl, hb6⟩; have hR6 := Rest.below hR5 hb6; clear hb6))
        all_goals
          go_wp2_with fail
          go_meet
          exact ⟨rfl, Lib.hid (by assumption)⟩
      case rest =>
        obtain ⟨rfl, HR2⟩ := hcut
        clear HRJ
        go_wp2_with fail
        go_loopw [11] (fun i wr => ∃ j : Nat, i = .int .i64 j ∧ (j : Int) ≤ al ∧ Hid (Rest c w [(Pb, 33, c.cs), (Cb, 23, c.cs)] B Fb T g t (ws2) (st1 + c.slots + j) (ghost0 c) [] [] 0 wr)) (fun i _ => 100 - (intOf i).toNat)
        case atStart => exact ⟨0, rfl, by omega, by simpa using HR2⟩
        case round =>
          obtain ⟨j, rfl, hja, HJ⟩ := hrel
          clear HR2
          by_cases hla : (j : Int) < al
          · have kq : (j : Int).tdiv c.slots = j / c.slots := P.tdiv_of (by omega)
            have kr : (j : Int).tmod c.slots = j % c.slots := P.tmod_of (by omega)
            have kd := P.div_in (x := j) (k := c.slots) (by omega) (by omega)
            have km0 := Int.emod_nonneg (j : Int) (show c.slots ≠ 0 by omega)
            have km1 := Int.emod_lt_of_pos (j : Int) (show 0 < c.slots by omega)
            have wq : IntKind.i64.wrap ((j : Int) / c.slots) = j / c.slots := IntWalk.i64_in _ (by omega)
            have wr2 : IntKind.i64.wrap ((j : Int) % c.slots) = j % c.slots := IntWalk.i64_in _ (by omega)
            have nsl : (c.slots == 0) = false := beq_eq_false_iff_ne.2 (by omega)
            have nsl2 : ¬ c.slots = 0 := by omega
            have KZ := HHZ.out j (by omega) (by omega)
            obtain ⟨now, hnow⟩ : ∃ now, (if (j : Int) < c.slots then 0 else if j < j0 then xs.getD j 0 else 0 : Int) = now := ⟨_, rfl⟩
            have HNOW := Lib.hid hnow
            clear hnow
            go_upto_region 18 with fail
            go_cut [12, 13] from 82 to 97 (fun s12 s13 wx => s12 = .int .u64 now ∧ s13 = .int .i64 0 ∧ Hid (Rest c w [(Pb, 33, c.cs), (Cb, 23, c.cs)] B Fb T g t (ws2) (st1 + c.slots + ((j + 1 : Nat) : Int)) (ghost0 c) [] [] 0 wx))
            case first =>
              repeat (rename (∀ (a : Act) (w_1 : World), Code.wp Tryz.prog _ _ a w_1 → _) => hK1; clear hK1)
              obtain ⟨M, q1, q2, q3, q4⟩ := HJ.out.mem
              have hB0 : Below wr.heap.size wr wr.drew := (Below.refl _ _).drew
              have HSB : Hid (∀ V, Below wr.heap.size wr V → (V.cell? ⟨Pb, 0, none⟩ = some (.int .i64 c.al) ∧ V.cell? ⟨Pb, 1, none⟩ = some (.int .i64 c.th) ∧ V.cell? ⟨Pb, 2, none⟩ = some (.int .i64 c.nd) ∧ V.cell? ⟨Pb, 3, none⟩ = some (.int .i64 c.lv) ∧ V.cell? ⟨Pb, 4, none⟩ = some (.int .i64 c.ba) ∧ V.cell? ⟨Pb, 5, none⟩ = some (.int .i64 c.pr) ∧ V.cell? ⟨Pb, 6, none⟩ = some (.int .i64 c.sc))) := Lib.hid fun V hV => (HSS.out _ _ _ _ _ _ _ (HJ.out.below hV)).1
              have HSN : Hid (∀ V, Rest c w [(Pb, 33, c.cs), (Cb, 23, c.cs)] B Fb T g t (ws2) (st1 + c.slots + ((j + 1 : Nat) : Int)) (ghost0 c) [] [] 0 V → (V.cell? ⟨Pb, 0, none⟩ = some (.int .i64 c.al) ∧ V.cell? ⟨Pb, 1, none⟩ = some (.int .i64 c.th) ∧ V.cell? ⟨Pb, 2, none⟩ = some (.int .i64 c.nd) ∧ V.cell? ⟨Pb, 3, none⟩ = some (.int .i64 c.lv) ∧ V.cell? ⟨Pb, 4, none⟩ = some (.int .i64 c.ba) ∧ V.cell? ⟨Pb, 5, none⟩ = some (.int .i64 c.pr) ∧ V.cell? ⟨Pb, 6, none⟩ = some (.int .i64 c.sc))) := Lib.hid fun V h => (HSS.out _ _ _ _ _ _ _ h).1
              have HQ4 : Hid (∀ V, Below wr.heap.size wr V → Calls Tryz.prog 18 #[at0 M, .int .i64 (8 + j)] V fun e V' => e = .returned (.tuple #[.int .u64 now, .int .i64 0]) ∧ Rest c w [(Pb, 33, c.cs), (Cb, 23, c.cs)] B Fb T g t (ws2) (st1 + c.slots + ((j + 1 : Nat) : Int)) (ghost0 c) [] [] 0 V') := Lib.hid fun V hV => by
                have h1 := HW.out
                have h2 := (HHK.out j (by omega) hla).2
                have h3 := HL2.out
                have := q4 V (8 + j) hV (by omega) (by omega) (by omega) (by omega) (by omega)
                rw [show ((8 : Int) + j).toNat = 8 + j by omega, HW2.out j hla, HNOW.out, show st1 + c.slots + (j : Int) + 1 = st1 + c.slots + ((j + 1 : Nat) : Int) by omega] at this
                exact this
              clear q2 q3 q4
              go_wp2_with fail
              go_region_held3 (fun V' => (V'.cell? ⟨Pb, 0, none⟩ = some (.int .i64 c.al) ∧ V'.cell? ⟨Pb, 1, none⟩ = some (.int .i64 c.th) ∧ V'.cell? ⟨Pb, 2, none⟩ = some (.int .i64 c.nd) ∧ V'.cell? ⟨Pb, 3, none⟩ = some (.int .i64 c.lv) ∧ V'.cell? ⟨Pb, 4, none⟩ = some (.int .i64 c.ba) ∧ V'.cell? ⟨Pb, 5, none⟩ = some (.int .i64 c.pr) ∧ V'.cell? ⟨Pb, 6, none⟩ = some (.int .i64 c.sc)))
                (first | exact HSB.out _ (by assumption) | exact HSN.out _ (by assumption) | go_keep)
                (first | (go_at_call 12; refine (q1 _ (by assumption)).mono ?_; rintro e v2 ⟨rfl, rfl⟩) | (go_at_call 11; refine (HSL.out _).mono ?_; rintro e V5 ⟨rfl, hb5⟩; have hB5 := P.below_then (by assumption) hb5 (Nat.le_refl _); clear hb5) | (go_at_call 14; refine (KZ _).mono ?_; rintro e V6 ⟨rfl, hb6⟩; have hB6 := P.below_then (by assumption) hb6 (Nat.le_refl _); clear hb6) | (go_at_call 18; refine (HQ4.out _ (by assumption)).mono ?_; rintro e V7 ⟨rfl, hR7⟩))
              all_goals
                go_wp2_with fail
                go_meet
                exact ⟨rfl, rfl, Lib.hid (by assumption)⟩
            case rest =>
              obtain ⟨rfl, rfl, HN⟩ := hcut
              obtain ⟨p0, p1, p2, p3, p4, p5, p6⟩ := (HSS.out _ _ _ _ _ _ _ HN.out).1
              by_cases hjn : j < n
              · have hltz : (j : Int) < (n : Int) := by omega
                by_cases hjs : (j : Int) < c.slots
                · have hge : ¬ c.slots ≤ (j : Int) := by omega
                  have hgd : decide ((j : Int) ≥ c.slots) = false := by simp; omega
                  have hn0 : now = 0 := by rw [← HNOW.out, if_pos hjs]
                  subst hn0
                  have hne : ((0 : Int) != 0) = false := rfl
                  go_wp2_with fail
                  refine (HSL.out _).mono ?_
                  rintro e V8 ⟨rfl, hb8⟩
                  have HN8 := Lib.hid (HN.out.below hb8)
                  clear hb8 HN p0 p1 p2 p3 p4 p5 p6
                  go_wp2_with fail
                  go_roundw
                  case rel => exact ⟨j + 1, by go_num, by omega, HN8⟩
                  case measure => simp [intOf]; omega
                · have hge : c.slots ≤ (j : Int) := by omega
                  have hgd : decide ((j : Int) ≥ c.slots) = true := by simp; omega
                  have hn0 : now = xs.getD j 0 := by rw [← HNOW.out, if_neg hjs, if_pos (by have := HJ0.out; omega)]
                  obtain ⟨b2, o2, rfl, hx⟩ := HR1.out.cell j hjn
                  have hb2 := World.block_lt_of_cell? w _ hx
                  have hx : w.cell? ⟨b2, o2 + j, none⟩ = some (.int .u64 (xs.getD j 0)) := hx
                  rw [← hn0] at hx
                  have HXC : Hid (∀ V, Rest c w [(Pb, 33, c.cs), (Cb, 23, c.cs)] B Fb T g t (ws2) (st1 + c.slots + ((j + 1 : Nat) : Int)) (ghost0 c) [] [] 0 V → V.cell? ⟨b2, o2 + j, none⟩ = some (.int .u64 now)) := Lib.hid fun V h => (F.cell_agree (p := ⟨b2, o2 + j, none⟩) (h.bel.block b2 hb2)).trans hx
                  have hne : (now != now) = false := by simp
                  clear hx hn0
                  go_wp2_with fail
                  refine (HSL.out _).mono ?_
                  rintro e V8 ⟨rfl, hb8⟩
                  have HN8 := Lib.hid (HN.out.below hb8)
                  have hx8 := HXC.out _ HN8.out
                  clear hb8 HN p0 p1 p2 p3 p4 p5 p6
                  go_wp2_with fail
                  go_roundw
                  case rel => exact ⟨j + 1, by go_num, by omega, HN8⟩
                  case measure => simp [intOf]; omega
              · have hltz : ¬ (j : Int) < (n : Int) := by omega
                have hn0 : now = 0 := by
                  rw [← HNOW.out, if_neg (show ¬ j < j0 by have := HJ0.out; omega)]
                  simp
                subst hn0
                have hne : ((0 : Int) != 0) = false := rfl
                go_wp2_with fail
                go_roundw
                case rel => exact ⟨j + 1, by go_num, by omega, HN⟩
                case measure => simp [intOf]; omega
          · have hla2 : ¬ (j : Int) < al := hla
            have KL := fun W => lives_any W
            go_wp2_with fail
            refine (KL _).mono ?_
            rintro e V9 ⟨rfl, hb⟩
            have HX := Lib.hid (P.below_then HJ.out.bel hb (Nat.le_refl _))
            clear KL hb
            go_wp2
            go_ret
            exact ⟨rfl, HX.out⟩
theorem clear_bad (c : P.Cf) (v : Value) (w : World) (hc : ¬ c.Ok) :
    Calls Tryz.prog 4 #[c.v, v] w fun e w' => e = .returned (.bool true) ∧ Below w.heap.size w w' := by
  have KR := fun W => P.right_bad c W hc
  have KL := fun W => lives_any W
  clear hc
  go_enter Tryz.func4, Tryz.ntmps4
  go_wp2_with fail
  refine (KR _).mono ?_
  rintro e V ⟨rfl, hb⟩
  have hA : Below w.heap.size w (w.alloc (.cells c.cs 23)) := (Below.refl _ _).alloc (Nat.le_refl _) _
  have HB := Lib.hid (hA.trans (hb.mono (by simp)))
  clear KR hb hA
  go_wp2_with fail
  refine (KL _).mono ?_
  rintro e V2 ⟨rfl, hb⟩
  have HX := Lib.hid (P.below_then HB.out hb (Nat.le_refl _))
  clear KL hb HB
  go_wp2
  go_ret
  exact ⟨rfl, HX.out⟩
theorem clear_any (c : P.Cf) (a1 : Option Addr) (n cap : Nat) (xs : List Int) (w : World) (R : F.Row .u64 w a1 n cap xs) :
    Calls Tryz.prog 4 #[c.v, .slice a1 n cap] w fun e w' => e = .returned (.bool true) ∧ Below w.heap.size w w' := by
  by_cases hc : c.Ok
  · exact clear_main c a1 n cap xs w hc R
  · exact clear_bad c _ w hc
end Go.Proofs.YtemikojaldoofaaGreat
