/- First: the words of a new machine, by the document; two lists of words that are the same. Printed by core_first.py. -/
import Derived.Test.YtogbakgmkiiboaaKPure
import Derived.Test.YtogbakgmkiiboaaMRef
namespace Go.Proofs.Ytogbakgmkiiboaa
open Go.ChangeShapes Go.WideShapes Go.ChangeAt Go.RowKit
set_option linter.unusedVariables false
set_option maxRecDepth 20000

/-- The words of k places; the others are 0. -/
def fl (c : P.Cf) (n k : Nat) : List Int := (c.upto k).map (firstAt c) ++ List.replicate (n - k) 0
theorem fl_len (c : P.Cf) {n k : Nat} (h : k ≤ n) : (fl c n k).length = n := by simp [fl, P.Cf.upto]; omega
theorem fl_zero (c : P.Cf) (n : Nat) : fl c n 0 = List.replicate n 0 := by simp [fl, P.Cf.upto]
theorem fl_end (c : P.Cf) (n : Nat) : fl c n n = (c.upto n).map (firstAt c) := by simp [fl]
theorem fl_next (c : P.Cf) {n k : Nat} (h : k < n) : (fl c n k).set k (firstAt c (c.place (k : Int))) = fl c n (k + 1) := by
  have e : n - k = (n - (k + 1)) + 1 := by omega
  have hl : ((c.upto k).map (firstAt c)).length = k := by simp [P.Cf.upto]
  unfold fl
  rw [e, List.replicate_succ, List.set_append_right _ _ (by omega), hl, Nat.sub_self, List.set_cons_zero, P.upto_succ]
  simp
theorem fl_same (c : P.Cf) {n k : Nat} (h : k < n) (h0 : firstAt c (c.place (k : Int)) = 0) : fl c n k = fl c n (k + 1) := by
  rw [← fl_next c h, h0]
  have e : n - k = (n - (k + 1)) + 1 := by omega
  have hl : ((c.upto k).map (firstAt c)).length = k := by simp [P.Cf.upto]
  unfold fl
  rw [e, List.replicate_succ, List.set_append_right _ _ (by omega), hl, Nat.sub_self, List.set_cons_zero]

/-- Amid First: the configuration's box, the list of places, the words so far. -/
structure FirstS (c : P.Cf) (w : World) (C R g n cap base k : Nat) (W : World) : Prop where
  cf : P.Blk W C 23 c.cs
  row : W.ownsRow base 65 3 (.slice (some ⟨g, 0, none⟩) n cap) n (P.encP (c.upto n))
  res : Blk W R 44 (encU (fl c n k)).toArray
  bel : Below w.heap.size w W
  low : w.heap.size ≤ R
theorem FirstS.alloc {c : P.Cf} {w : World} {C R g n cap base k : Nat} {W : World} (h : FirstS c w C R g n cap base k W) (o : Obj) : FirstS c w C R g n cap base k (W.alloc o) :=
  ⟨h.cf.alloc o, h.row.alloc o, h.res.alloc o, h.bel.alloc h.bel.size o, h.low⟩
theorem FirstS.cells {c : P.Cf} {w : World} {C R g n cap base k : Nat} {W : World} (h : FirstS c w C R g n cap base k W) (hk : k < n) {pk pa pb : Int} (hp : c.place (k : Int) = (pk, pa, pb)) :
    W.cell? ⟨C, 0, none⟩ = some (.int .i64 c.al) ∧ W.cell? ⟨C, 2, none⟩ = some (.int .i64 c.nd) ∧ W.cell? ⟨C, 3, none⟩ = some (.int .i64 c.lv) ∧
    W.cell? ⟨g, k * 3, none⟩ = some (.int .i64 pk) ∧ W.cell? ⟨g, k * 3 + 1, none⟩ = some (.int .i64 pa) ∧ W.cell? ⟨g, k * 3 + 2, none⟩ = some (.int .i64 pb) ∧ (∃ u, W.cell? ⟨R, k, none⟩ = some u) ∧ W.frozen? ⟨R, k, none⟩ = false := by
  obtain ⟨b0, b1, b2, b3, b4, b5, b6⟩ := h.cf.conf
  have hx : (c.upto n)[k]? = some (pk, pa, pb) := by rw [← hp]; simp [P.Cf.upto, hk]
  obtain ⟨q0, q1, q2⟩ := P.encP_get _ k _ hx
  refine ⟨b0, b2, b3, by rw [h.row.cellAt _ (by omega)]; exact q0, by rw [h.row.cellAt _ (by omega)]; exact q1, by rw [h.row.cellAt _ (by omega)]; exact q2, ⟨_, cell_word h.res (by rw [fl_len c (by omega)]; exact hk)⟩, h.res.frozen k⟩
theorem FirstS.skip {c : P.Cf} {w : World} {C R g n cap base k : Nat} {W : World} (h : FirstS c w C R g n cap base k W) (hk : k < n) (h0 : firstAt c (c.place (k : Int)) = 0) : FirstS c w C R g n cap base (k + 1) W :=
  ⟨h.cf, h.row, by rw [← fl_same c hk h0]; exact h.res, h.bel, h.low⟩
theorem FirstS.put {c : P.Cf} {w : World} {C R g n cap base k : Nat} {W : World} (h : FirstS c w C R g n cap base k W) (hk : k < n) {x : Int} (h0 : firstAt c (c.place (k : Int)) = x) : FirstS c w C R g n cap base (k + 1) (W.setCell ⟨R, k, none⟩ (.int .u64 x)) := by
  subst h0
  refine ⟨P.Blk.far h.cf (Blk.ne h.cf h.res (by decide)) _, ownsRow_setCell_other h.row (h.res.not_row h.row (by decide)) _, ?_, h.bel.setCell (p := ⟨R, k, none⟩) h.low _, h.low⟩
  rw [← fl_next c hk]
  have := h.res.set k (.int .u64 (firstAt c (c.place (k : Int))))
  simpa [encU, List.map_set] using this

set_option maxHeartbeats 16000000 in
theorem first_any (c : P.Cf) (w : World) (hc : c.Ok) : Calls Try.prog 14 #[c.v] w fun e w' => ∃ v, e = .returned v ∧ w'.ownsRow w.heap.size 44 1 v c.size.toNat (encU (firstL c)) ∧ Below w.heap.size w w' := by
  have KA := fun W => P.all_ok c W hc
  have KS := P.rsent_any c
  obtain ⟨n, hn, hn0, hn1⟩ : ∃ n, c.size.toNat = n ∧ 8 ≤ n ∧ n ≤ 924 := ⟨_, rfl, by have := hc.steps; omega, by have := hc.steps; omega⟩
  have HL : Hid (firstL c = fl c n n) := Lib.hid (by rw [fl_end, ← hn]; rfl)
  have hm := fun W => made n W (by omega)
  obtain ⟨d1, d2⟩ := P.sent_in c.al
  have hnd := hc.nd
  have hlv := hc.l1
  have hlv0 := hc.l0
  have hal := hc.a0
  obtain ⟨sd, hsd⟩ : ∃ sd, P.sent c.al = sd := ⟨_, rfl⟩
  have HSD := Lib.hid hsd
  unfold P.AllTold at KA
  rw [hn] at KA
  rw [hn]
  rw [hsd] at KS d1 d2
  clear hsd hc hn
  go_enter Try.func14, Try.ntmps14
  go_wp2_with fail
  refine (KA _).mono ?_
  rintro e V ⟨v, rfl, ho, hb⟩
  obtain ⟨hC, h0⟩ := P.boxed c hb
  rcases ho.2 with ⟨rfl, hz⟩ | ⟨g, cap, cur, rfl, hg, hcur, hcp, hcm, -, -⟩
  · omega
  have hcm2 : cap ≤ 9223372036854775807 := by unfold maxLen at hcm; omega
  have hS0 : FirstS c w w.heap.size V.heap.size g n cap _ 0 (V.alloc (.cells (encU (List.replicate n 0)).toArray 44)) :=
    ⟨hC.alloc _, ho.alloc _, by rw [fl_zero]; exact Blk.new _ _ _, h0.alloc h0.size _, h0.size⟩
  clear hb hC ho hg hcur h0 KA hcm
  generalize hW0 : V.alloc (.cells (encU (List.replicate n 0)).toArray 44) = W0 at *
  have hmV := hm V
  rw [hW0] at hmV
  clear hm hW0
  generalize V.heap.size = R at *
  generalize hCb : w.heap.size = C at *
  have b0 := hS0.cf.conf
  obtain ⟨b0, b1, b2, b3, b4, b5, b6⟩ := b0
  have HS0 := Lib.hid hS0
  clear hS0
  go_wp2_with fail
  refine (KS _).mono ?_
  rintro e W1 ⟨rfl, hb⟩
  have hS1 : FirstS c w C R g n cap _ 0 W1 := ⟨HS0.out.cf.below hb HS0.out.cf.lt, row_agree HS0.out.row fun k e => hb.block k (HS0.out.row.lt k e).2, HS0.out.res.agree (hb.block R HS0.out.res.lt), P.below_then HS0.out.bel hb (Nat.le_refl _), HS0.out.low⟩
  have HS1 := Lib.hid hS1
  clear hS1 hb HS0 b0 b1 b2 b3 b4 b5 b6 KS
  go_wp2
  go_loopw [6] (fun i wr => ∃ k : Nat, k ≤ n ∧ i = .int .i64 k ∧ Hid (FirstS c w C R g n cap _ k wr)) (fun i _ => n - (intOf i).toNat)
  case atStart => exact ⟨0, by omega, rfl, HS1⟩
  case round =>
    obtain ⟨k, hk, rfl, HR⟩ := hrel
    clear HS1
    by_cases hlt : k < n
    · obtain ⟨pk, pa, pb, hp⟩ : ∃ pk pa pb, c.place (k : Int) = (pk, pa, pb) := ⟨_, _, _, rfl⟩
      have HP := Lib.hid hp
      obtain ⟨x0, x2, x3, y0, y1, y2, ⟨u, z⟩, zf⟩ := HR.out.cells hlt hp
      have hgl : g < wr.heap.size := (HR.out.row.lt g rfl).2
      have hRl := HR.out.res.lt
      have hCl := HR.out.cf.lt
      have hCR : C ≠ R := Blk.ne HR.out.cf HR.out.res (by decide)
      have hRC := Ne.symm hCR
      clear hp
      have hcase : (pk = 0 ∧ pa = 0) ∨ (pk = 0 ∧ pa = 2) ∨ (pk = 0 ∧ pa ≠ 0 ∧ pa ≠ 2) ∨ (pk = 2 ∧ sd < pa ∧ pa < c.nd) ∨ (pk = 2 ∧ ¬ sd < pa) ∨ (pk = 2 ∧ sd < pa ∧ ¬ pa < c.nd) ∨ (pk = 3 ∧ ¬ 0 < c.al) ∨ (pk = 3 ∧ 0 < c.al ∧ pa = 1 ∧ pb = 3) ∨ (pk = 3 ∧ 0 < c.al ∧ pa = 1 ∧ pb ≠ 3 ∧ 5 ≤ pb) ∨ (pk = 3 ∧ 0 < c.al ∧ pa = 1 ∧ pb ≠ 3 ∧ ¬ 5 ≤ pb) ∨ (pk = 3 ∧ 0 < c.al ∧ pa = 2 ∧ pb = 0) ∨ (pk = 3 ∧ 0 < c.al ∧ pa = 2 ∧ pb ≠ 0) ∨ (pk = 3 ∧ 0 < c.al ∧ pa ≠ 1 ∧ pa ≠ 2) ∨ (pk ≠ 0 ∧ pk ≠ 2 ∧ pk ≠ 3) := by
        by_cases a0 : pk = 0
        · by_cases a1 : pa = 0
          · exact .inl ⟨a0, a1⟩
          · by_cases a2 : pa = 2
            · exact .inr (.inl ⟨a0, a2⟩)
            · exact .inr (.inr (.inl ⟨a0, a1, a2⟩))
        · by_cases a1 : pk = 2
          · by_cases a2 : sd < pa
            · by_cases a3 : pa < c.nd
              · exact .inr (.inr (.inr (.inl ⟨a1, a2, a3⟩)))
              · exact .inr (.inr (.inr (.inr (.inr (.inl ⟨a1, a2, a3⟩)))))
            · exact .inr (.inr (.inr (.inr (.inl ⟨a1, a2⟩))))
          · by_cases a2 : pk = 3
            · by_cases a3 : 0 < c.al
              · by_cases a4 : pa = 1
                · by_cases a5 : pb = 3
                  · exact .inr (.inr (.inr (.inr (.inr (.inr (.inr (.inl ⟨a2, a3, a4, a5⟩)))))))
                  · by_cases a6 : 5 ≤ pb
                    · exact .inr (.inr (.inr (.inr (.inr (.inr (.inr (.inr (.inl ⟨a2, a3, a4, a5, a6⟩))))))))
                    · exact .inr (.inr (.inr (.inr (.inr (.inr (.inr (.inr (.inr (.inl ⟨a2, a3, a4, a5, a6⟩)))))))))
                · by_cases a5 : pa = 2
                  · by_cases a6 : pb = 0
                    · exact .inr (.inr (.inr (.inr (.inr (.inr (.inr (.inr (.inr (.inr (.inl ⟨a2, a3, a5, a6⟩))))))))))
                    · exact .inr (.inr (.inr (.inr (.inr (.inr (.inr (.inr (.inr (.inr (.inr (.inl ⟨a2, a3, a5, a6⟩)))))))))))
                  · exact .inr (.inr (.inr (.inr (.inr (.inr (.inr (.inr (.inr (.inr (.inr (.inr (.inl ⟨a2, a3, a4, a5⟩))))))))))))
              · exact .inr (.inr (.inr (.inr (.inr (.inr (.inl ⟨a2, a3⟩))))))
            · exact .inr (.inr (.inr (.inr (.inr (.inr (.inr (.inr (.inr (.inr (.inr (.inr (.inr (⟨a0, a1, a2⟩)))))))))))))
      rcases hcase with ⟨h0, h1⟩ | ⟨h0, h1⟩ | ⟨h0, h1, h2⟩ | ⟨h0, h1, h2⟩ | ⟨h0, h1⟩ | ⟨h0, h1, h2⟩ | ⟨h0, h1⟩ | ⟨h0, h1, h2, h3⟩ | ⟨h0, h1, h2, h3, h4⟩ | ⟨h0, h1, h2, h3, h4⟩ | ⟨h0, h1, h2, h3⟩ | ⟨h0, h1, h2, h3⟩ | ⟨h0, h1, h2, h3⟩ | ⟨h0, h1, h2⟩
      · have HV : Hid (firstAt c (c.place (k : Int)) = 2 * (sd + 1)) := Lib.hid (by rw [HP.out]; have hsd := HSD.out; simp only [firstAt, hsd]; (try have hne : c.al ≠ 0 := by omega); (repeat split) <;> omega)
        subst h0
        subst h1
        have w1 : IntKind.i64.wrap (sd + 1) = sd + 1 := IntWalk.i64_in _ (by omega)
        have w2 : IntKind.u64.wrap (sd + 1) = sd + 1 := IntWalk.u64_in _ (by omega)
        have w3 : IntKind.u64.wrap (2 * (sd + 1)) = 2 * (sd + 1) := IntWalk.u64_in _ (by omega)
        clear hlv hlv0 hnd d1 d2
        go_wp2
        go_roundw
        case rel => exact ⟨k + 1, by omega, by go_num, Lib.hid ((HR.out.put hlt HV.out).alloc _)⟩
        case measure => simp [intOf]; omega
      · have HV : Hid (firstAt c (c.place (k : Int)) = 1) := Lib.hid (by rw [HP.out]; have hsd := HSD.out; simp only [firstAt, hsd]; (try have hne : c.al ≠ 0 := by omega); (repeat split) <;> omega)
        subst h0
        subst h1
        clear hlv hlv0 hnd d1 d2
        go_wp2
        go_roundw
        case rel => exact ⟨k + 1, by omega, by go_num, Lib.hid ((HR.out.put hlt HV.out).alloc _)⟩
        case measure => simp [intOf]; omega
      · have HV : Hid (firstAt c (c.place (k : Int)) = 0) := Lib.hid (by rw [HP.out]; have hsd := HSD.out; simp only [firstAt, hsd]; (try have hne : c.al ≠ 0 := by omega); (repeat split) <;> omega)
        have q0 : (pa == 0) = false := by simpa using (by omega : ¬ pa = 0)
        have q1 : (pa == 2) = false := by simpa using (by omega : ¬ pa = 2)
        subst h0
        clear hlv hlv0 hnd d1 d2
        go_wp2
        go_roundw
        case rel => exact ⟨k + 1, by omega, by go_num, Lib.hid ((HR.out.skip hlt HV.out).alloc _)⟩
        case measure => simp [intOf]; omega
      · have HV : Hid (firstAt c (c.place (k : Int)) = pa + 1) := Lib.hid (by rw [HP.out]; have hsd := HSD.out; simp only [firstAt, hsd]; (try have hne : c.al ≠ 0 := by omega); (repeat split) <;> omega)
        subst h0
        have w1 : IntKind.i64.wrap (pa + 1) = pa + 1 := IntWalk.i64_in _ (by omega)
        have w2 : IntKind.u64.wrap (pa + 1) = pa + 1 := IntWalk.u64_in _ (by omega)
        clear hlv hlv0 hnd d1 d2
        go_wp2
        go_roundw
        case rel => exact ⟨k + 1, by omega, by go_num, Lib.hid ((HR.out.put hlt HV.out).alloc _)⟩
        case measure => simp [intOf]; omega
      · have HV : Hid (firstAt c (c.place (k : Int)) = 0) := Lib.hid (by rw [HP.out]; have hsd := HSD.out; simp only [firstAt, hsd]; (try have hne : c.al ≠ 0 := by omega); (repeat split) <;> omega)
        subst h0
        clear hlv hlv0 hnd d1 d2
        go_wp2
        go_roundw
        case rel => exact ⟨k + 1, by omega, by go_num, Lib.hid ((HR.out.skip hlt HV.out).alloc _)⟩
        case measure => simp [intOf]; omega
      · have HV : Hid (firstAt c (c.place (k : Int)) = 0) := Lib.hid (by rw [HP.out]; have hsd := HSD.out; simp only [firstAt, hsd]; (try have hne : c.al ≠ 0 := by omega); (repeat split) <;> omega)
        subst h0
        clear hlv hlv0 hnd d1 d2
        go_wp2
        go_roundw
        case rel => exact ⟨k + 1, by omega, by go_num, Lib.hid ((HR.out.skip hlt HV.out).alloc _)⟩
        case measure => simp [intOf]; omega
      · have HV : Hid (firstAt c (c.place (k : Int)) = 0) := Lib.hid (by rw [HP.out]; have hsd := HSD.out; simp only [firstAt, hsd]; (try have hne : c.al ≠ 0 := by omega); (repeat split) <;> omega)
        subst h0
        clear hlv hlv0 hnd d1 d2
        go_wp2
        go_roundw
        case rel => exact ⟨k + 1, by omega, by go_num, Lib.hid ((HR.out.skip hlt HV.out).alloc _)⟩
        case measure => simp [intOf]; omega
      · have HV : Hid (firstAt c (c.place (k : Int)) = c.lv) := Lib.hid (by rw [HP.out]; have hsd := HSD.out; simp only [firstAt, hsd]; (try have hne : c.al ≠ 0 := by omega); (repeat split) <;> omega)
        subst h0
        subst h2
        subst h3
        have w2 : IntKind.u64.wrap c.lv = c.lv := IntWalk.u64_in _ (by omega)
        clear hlv hlv0 hnd d1 d2
        go_wp2
        go_roundw
        case rel => exact ⟨k + 1, by omega, by go_num, Lib.hid ((HR.out.put hlt HV.out).alloc _)⟩
        case measure => simp [intOf]; omega
      · have HV : Hid (firstAt c (c.place (k : Int)) = 4) := Lib.hid (by rw [HP.out]; have hsd := HSD.out; simp only [firstAt, hsd]; (try have hne : c.al ≠ 0 := by omega); (repeat split) <;> omega)
        have q0 : (pb == 3) = false := by simpa using (by omega : ¬ pb = 3)
        subst h0
        subst h2
        clear hlv hlv0 hnd d1 d2
        go_wp2
        go_roundw
        case rel => exact ⟨k + 1, by omega, by go_num, Lib.hid ((HR.out.put hlt HV.out).alloc _)⟩
        case measure => simp [intOf]; omega
      · have HV : Hid (firstAt c (c.place (k : Int)) = 0) := Lib.hid (by rw [HP.out]; have hsd := HSD.out; simp only [firstAt, hsd]; (try have hne : c.al ≠ 0 := by omega); (repeat split) <;> omega)
        have q0 : (pb == 3) = false := by simpa using (by omega : ¬ pb = 3)
        subst h0
        subst h2
        clear hlv hlv0 hnd d1 d2
        go_wp2
        go_roundw
        case rel => exact ⟨k + 1, by omega, by go_num, Lib.hid ((HR.out.skip hlt HV.out).alloc _)⟩
        case measure => simp [intOf]; omega
      · have HV : Hid (firstAt c (c.place (k : Int)) = 18446744073709551615) := Lib.hid (by rw [HP.out]; have hsd := HSD.out; simp only [firstAt, hsd]; (try have hne : c.al ≠ 0 := by omega); (repeat split) <;> omega)
        subst h0
        subst h2
        subst h3
        clear hlv hlv0 hnd d1 d2
        go_wp2
        go_roundw
        case rel => exact ⟨k + 1, by omega, by go_num, Lib.hid ((HR.out.put hlt HV.out).alloc _)⟩
        case measure => simp [intOf]; omega
      · have HV : Hid (firstAt c (c.place (k : Int)) = 0) := Lib.hid (by rw [HP.out]; have hsd := HSD.out; simp only [firstAt, hsd]; (try have hne : c.al ≠ 0 := by omega); (repeat split) <;> omega)
        have q0 : (pb == 0) = false := by simpa using (by omega : ¬ pb = 0)
        subst h0
        subst h2
        clear hlv hlv0 hnd d1 d2
        go_wp2
        go_roundw
        case rel => exact ⟨k + 1, by omega, by go_num, Lib.hid ((HR.out.skip hlt HV.out).alloc _)⟩
        case measure => simp [intOf]; omega
      · have HV : Hid (firstAt c (c.place (k : Int)) = 0) := Lib.hid (by rw [HP.out]; have hsd := HSD.out; simp only [firstAt, hsd]; (try have hne : c.al ≠ 0 := by omega); (repeat split) <;> omega)
        have q0 : (pa == 1) = false := by simpa using (by omega : ¬ pa = 1)
        have q1 : (pa == 2) = false := by simpa using (by omega : ¬ pa = 2)
        subst h0
        clear hlv hlv0 hnd d1 d2
        go_wp2
        go_roundw
        case rel => exact ⟨k + 1, by omega, by go_num, Lib.hid ((HR.out.skip hlt HV.out).alloc _)⟩
        case measure => simp [intOf]; omega
      · have HV : Hid (firstAt c (c.place (k : Int)) = 0) := Lib.hid (by rw [HP.out]; have hsd := HSD.out; simp only [firstAt, hsd]; (try have hne : c.al ≠ 0 := by omega); (repeat split) <;> omega)
        have q0 : (pk == 0) = false := by simpa using (by omega : ¬ pk = 0)
        have q1 : (pk == 2) = false := by simpa using (by omega : ¬ pk = 2)
        have q2 : (pk == 3) = false := by simpa using (by omega : ¬ pk = 3)
        clear hlv hlv0 hnd d1 d2
        go_wp2
        go_roundw
        case rel => exact ⟨k + 1, by omega, by go_num, Lib.hid ((HR.out.skip hlt HV.out).alloc _)⟩
        case measure => simp [intOf]; omega
    · have hkn : k = n := by omega
      subst hkn
      have HF := Lib.hid HR.out
      clear HR
      go_wp2
      go_ret
      have hl : (encU (fl c k k)).toArray.size = k * 1 := by simp [encU, fl_len c (Nat.le_refl k)]
      refine ⟨_, rfl, ?_, HF.out.bel⟩
      rw [HL.out]
      refine ⟨by simp [encU, fl_len c (Nat.le_refl k)], .inr ⟨R, k, _, rfl, HF.out.low, HF.out.res, Nat.le_refl _, by unfold maxLen; omega, hl, ?_⟩⟩
      rw [List.take_of_length_le (by simp [encU, fl_len c (Nat.le_refl k)])]

set_option maxHeartbeats 1000000 in
theorem words_same (g c g' c' n n0 n1 : Nat) (ws : List Int) (w : World) (hn : ws.length = n) (h1 : n ≤ 4096) (hx : w.ownsRow n0 44 1 (.slice (some ⟨g, 0, none⟩) n c) n (encU ws)) (hy : w.ownsRow n1 44 1 (.slice (some ⟨g', 0, none⟩) n c') n (encU ws))
    (hc : n ≤ c) (hcm : c ≤ 9223372036854775807) (hc' : n ≤ c') (hcm' : c' ≤ 9223372036854775807) :
    Calls Try.prog 11 #[.slice (some ⟨g, 0, none⟩) n c, .slice (some ⟨g', 0, none⟩) n c'] w fun e w' => e = .returned (.bool true) ∧ Below w.heap.size w w' := by
  have H1 : Hid (∀ j, j < n → w.cell? ⟨g, j, none⟩ = some (.int .u64 (wordAt ws j))) := Lib.hid fun j hj => by rw [hx.cellAt j (by omega)]; simp [encU, wordAt, List.getElem?_eq_getElem (show j < ws.length by omega)]
  have H2 : Hid (∀ j, j < n → w.cell? ⟨g', j, none⟩ = some (.int .u64 (wordAt ws j))) := Lib.hid fun j hj => by rw [hy.cellAt j (by omega)]; simp [encU, wordAt, List.getElem?_eq_getElem (show j < ws.length by omega)]
  clear hx hy hn
  go_enter Try.func11, Try.ntmps11
  go_wp2
  go_loopw [5] (fun i wr => ∃ k m : Nat, k ≤ n ∧ i = .int .i64 k ∧ wr = w.drewN m) (fun i _ => n - (intOf i).toNat)
  case atStart => exact ⟨0, 0, by omega, rfl, rfl⟩
  case round =>
    obtain ⟨k, m, hk, rfl, rfl⟩ := hrel
    by_cases hlt : k < n
    · have d1 : (w.drewN m).cell? ⟨g, k, none⟩ = some (.int .u64 (wordAt ws k)) := H1.out k hlt
      have d2 : (w.drewN m).cell? ⟨g', k, none⟩ = some (.int .u64 (wordAt ws k)) := H2.out k hlt
      have HD := Lib.hid (show ∀ q, (w.drewN m).drewN q = w.drewN (m + q) from fun q => World.drewN_drewN _ _ _)
      generalize w.drewN m = w2 at *
      generalize wordAt ws k = y at *
      go_wp2
      go_quiet (fail)
      go_wp2
      go_roundw
      case rel => exact ⟨k + 1, _, by omega, by go_num, HD.out _⟩
      case measure => simp [intOf]; omega
    · go_wp2
      go_ret
      exact ⟨rfl, rfl, rfl, rfl, Nat.le_refl _, fun _ _ => rfl⟩
end Go.Proofs.Ytogbakgmkiiboaa
