/- What touch, Took, Gone, Freed do. -/
import Derived.Test.YtemikojaldoofaaGreatKMach
namespace Go.Proofs.YtemikojaldoofaaGreat
open Go.ChangeShapes Go.WideShapes Go.ChangeAt Go.RowKit
set_option linter.unusedVariables false

set_option maxRecDepth 20000

/-- A ghost behind a touch of an address. -/
def touchG (c : P.Cf) (s : G.GS) (a : Int) : G.GS := if (c.place a).1 = 3 then s.then c.nd.toNat 3 (c.place a).2.1 else s
/-- A machine's ghost behind touches. -/
def touchM (c : P.Cf) (l : List Int) : Gh → Gh
  | none => none
  | some (g, t, s) => some (g, t, l.foldl (touchG c) s)
theorem touchM_snoc (c : P.Cf) (l : List Int) (x : Int) (g t : Nat) (s : G.GS) : touchM c (l ++ [x]) (some (g, t, s)) = some (g, t, touchG c (l.foldl (touchG c) s) x) := by simp [touchM]

theorem blk_i (w : World) (A : Nat) (xs : List Int) (h : Blk w A 3 (G.encI xs)) (k : Nat) (x : Int) (hx : xs[k]? = some x) : w.cell? ⟨A, k, none⟩ = some (.int .i64 x) := by
  rw [h.cell k]
  simp [G.encI, hx]

theorem touch_none (B : Nat) (c : P.Cf) (F T : Nat) (ms : MS) (bad : Bool) (O : Nat → Prop) (v : Value) (w : World) (h : MachAt B c F T ms none bad O w) :
    Calls Tryz.prog 82 #[at0 B, v] w fun e w' => e = .returned (.tuple #[]) ∧ w = w' := by
  obtain ⟨M, Om, rfl, hb, hm, hg⟩ := h
  go_enter Tryz.func82, Tryz.ntmps82
  go_wp2_with fail
  refine (ghost_any B M c _ F T _ bad _ hb).mono ?_
  rintro e w' ⟨rfl, rfl⟩
  clear hb hm hg
  simp only [gV]
  go_wp2
  exact bodyPost_ret (v := .tuple #[]) (by simp [results, Tryz.results82, go_sem]) rfl ⟨rfl, rfl⟩
theorem mach_plan {B M : Nat} {c : P.Cf} {gv : Value} {F T n : Nat} {bad : Bool} {w : World} (hb : Blk w B 79 (machCs c M gv F T n bad)) :
    w.cell? ⟨B, 0, none⟩ = some (.int .i64 c.al) ∧ w.cell? ⟨B, 1, none⟩ = some (.int .i64 c.th) ∧ w.cell? ⟨B, 2, none⟩ = some (.int .i64 c.nd) ∧ w.cell? ⟨B, 3, none⟩ = some (.int .i64 c.lv) ∧
    w.cell? ⟨B, 4, none⟩ = some (.int .i64 c.ba) ∧ w.cell? ⟨B, 5, none⟩ = some (.int .i64 c.pr) ∧ w.cell? ⟨B, 6, none⟩ = some (.int .i64 c.sc) ∧ w.cell? ⟨B, 7, none⟩ = some (at0 M) ∧ w.cell? ⟨B, 8, none⟩ = some gv ∧ w.cell? ⟨B, 9, none⟩ = some (at0 F) ∧
    w.cell? ⟨B, 10, none⟩ = some (.slice (some ⟨T, 0, none⟩) n n) ∧ w.cell? ⟨B, 11, none⟩ = some (.bool bad) :=
  ⟨hb.cell 0, hb.cell 1, hb.cell 2, hb.cell 3, hb.cell 4, hb.cell 5, hb.cell 6, hb.cell 7, hb.cell 8, hb.cell 9, hb.cell 10, hb.cell 11⟩

set_option maxHeartbeats 4000000 in
theorem touch_some (B A m g t : Nat) (c : P.Cf) (F T : Nat) (ms : MS) (s : G.GS) (bad : Bool) (O : Nat → Prop) (xs : List Int) (w : World) (hc : c.Ok) (h : MachAt B c F T ms (some (g, t, s)) bad O w) (hA : Blk w A 3 (G.encI xs)) (hn : ¬ O A) (hm : xs.length = m) (hl : m ≤ 1000) (hx : ∀ x ∈ xs, P.I64 x) :
    Calls Tryz.prog 82 #[at0 B, .slice (some ⟨A, 0, none⟩) m m] w (MDoes B c F T (.tuple #[]) ms (touchM c xs (some (g, t, s))) bad O w) := by
  have KW : Hid (∀ W a, P.I64 a → Calls Tryz.prog 93 #[c.v, .int .i64 a] W fun e w' => e = .returned (P.plV (c.place a)) ∧ Below W.heap.size W w') := Lib.hid fun W a ha => P.where_ok c a W hc ha
  have HC := Lib.hid hc
  clear hc
  have HM := Lib.hid hm
  have HX := Lib.hid hx
  clear hm hx
  have h0 := h
  obtain ⟨M, Om, hO, hb, hmm, hg⟩ := h
  go_enter Tryz.func82, Tryz.ntmps82
  go_wp2_with fail
  refine (ghost_any B M c _ F T _ bad _ hb).mono ?_
  rintro e w' ⟨rfl, rfl⟩
  simp only [gV]
  clear hb hmm hg hO
  have H0 := Lib.hid h0
  have HA := Lib.hid hA
  have HN := Lib.hid hn
  clear h0 hA hn
  go_wp2
  go_loopw [14] (fun i wr => ∃ k : Nat, k ≤ m ∧ i = .int .i64 k ∧ Hid (MTurn B c F T ms (touchM c (xs.take k) (some (g, t, s))) bad O w wr)) (fun i _ => m - (intOf i).toNat)
  case atStart => exact ⟨0, by omega, rfl, Lib.hid (MTurn.refl H0.out)⟩
  case round =>
    obtain ⟨k, hk, rfl, HT⟩ := hrel
    by_cases hlt : k < m
    · have hxk : xs[k]? = some (xs[k]'(by rw [HM.out]; exact hlt)) := List.getElem?_eq_getElem _
      obtain ⟨x, hxk⟩ : ∃ x, xs[k]? = some x := ⟨_, hxk⟩
      obtain ⟨O1, hk1, hl1, h1⟩ := HT.out
      have hA1 := HA.out.agree (hk1.block A HA.out.lt HN.out)
      have ca := blk_i _ A xs hA1 k x hxk
      have hI := HX.out x (List.mem_of_getElem? hxk)
      have htk : xs.take (k + 1) = xs.take k ++ [x] := by rw [List.take_add_one, hxk]; rfl
      have HTK := Lib.hid htk
      have h1' := h1
      obtain ⟨M1, Om1, hO1, hb1, hm1, hg1⟩ := h1
      obtain ⟨c0, c1, c2, c3, c4, c5, c6, c7, c8, c9, c10, c11⟩ := mach_plan hb1
      simp only [gV, touchM] at c8
      have HH := Lib.hid h1'
      have HK1 := Lib.hid hk1
      have HL1 := Lib.hid hl1
      clear hxk hA1 htk hO1 hb1 hm1 hg1 h1' hk1 hl1 HT
      obtain ⟨u, y, z, hpl⟩ : ∃ u y z, c.place x = (u, y, z) := ⟨_, _, _, rfl⟩
      have KX := KW.out wr x hI
      rw [hpl] at KX
      simp only [P.plV] at KX
      have HP := Lib.hid hpl
      clear hpl
      go_wp2_with fail
      refine KX.mono ?_
      rintro e w2 ⟨rfl, hB⟩
      have h2 := HH.out.below hB
      have h2' := h2
      obtain ⟨M1, Om1, hO1, hb1, hm1, hg1⟩ := h2
      clear c0 c1 c2 c3 c4 c5 c6 c7 c8 c9 c10 c11 ca
      obtain ⟨-, -, -, -, -, -, -, -, c8, -, -, -⟩ := mach_plan hb1
      simp only [gV, touchM] at c8
      have hk2 : Keeps O w w2 := HK1.out.trans (Keeps.of_below (O := O1) hB) HL1.out
      have hsz := hB.size
      have HR : Hid (MTurn B c F T ms (touchM c (xs.take k) (some (g, t, s))) bad O w w2) := Lib.hid ⟨O1, hk2, HL1.out, h2'⟩
      by_cases h3 : u = 3
      · have hnd : 0 < c.nd.toNat := by have := HC.out.nd; omega
        have KT := G.touch_any g (some ⟨t, 0, none⟩) c.nd.toNat ((xs.take k).foldl (touchG c) s) y w2 hg1.1
        have HF : Hid (∀ w3, G.GAt g (some ⟨t, 0, none⟩) c.nd.toNat ((List.foldl (touchG c) s (xs.take k)).then c.nd.toNat 3 y) w3 → G.Only g (some ⟨t, 0, none⟩) w2 w3 →
            MTurn B c F T ms (touchM c (xs.take (k + 1)) (some (g, t, s))) bad O w w3) := Lib.hid fun w3 hg3 ho3 => by
          rw [HTK.out, touchM_snoc, touchG, HP.out, if_pos h3]
          subst hO1
          have := MachAt.ghost (s := (xs.take k).foldl (touchG c) s) hb1 hm1 hg1 hg3 hnd ho3
          exact MTurn.from hk2 HL1.out this
        clear hO1 hb1 hm1 hg1 h2'
        subst h3
        go_wp2_with fail
        refine KT.mono ?_
        rintro e w3 ⟨rfl, hg3, ho3⟩
        have HR2 := Lib.hid (HF.out _ hg3 ho3)
        clear KT hg3 ho3 c8
        go_wp2
        go_roundw
        case rel => exact ⟨k + 1, by omega, by go_num, HR2⟩
        case measure => simp [intOf]; omega
      · have HF : Hid (MTurn B c F T ms (touchM c (xs.take (k + 1)) (some (g, t, s))) bad O w w2) := Lib.hid (by
          rw [HTK.out, touchM_snoc, touchG, HP.out, if_neg h3]
          exact HR.out)
        clear hO1 hb1 hm1 hg1 h2' c8
        have h3' : (u == 3) = false := by simpa using h3
        go_wp2
        go_roundw
        case rel => exact ⟨k + 1, by omega, by go_num, HF⟩
        case measure => simp [intOf]; omega
    · have hkm : k = m := by omega
      have HE : Hid (MTurn B c F T ms (touchM c xs (some (g, t, s))) bad O w wr) := Lib.hid (by
        have := HT.out
        rw [hkm, List.take_of_length_le (by rw [HM.out]; omega)] at this
        exact this)
      clear HT
      go_wp2
      go_end0
      exact ⟨rfl, HE.out⟩
/-- What touch leaves. -/
theorem touch_any (B A m : Nat) (c : P.Cf) (F T : Nat) (ms : MS) (gs : Gh) (bad : Bool) (O : Nat → Prop) (xs : List Int) (w : World) (hc : c.Ok) (h : MachAt B c F T ms gs bad O w) (hA : Blk w A 3 (G.encI xs)) (hn : ¬ O A) (hm : xs.length = m) (hl : m ≤ 1000) (hx : ∀ x ∈ xs, P.I64 x) :
    Calls Tryz.prog 82 #[at0 B, .slice (some ⟨A, 0, none⟩) m m] w (MDoes B c F T (.tuple #[]) ms (touchM c xs gs) bad O w) := by
  match gs, h with
  | none, h =>
    refine (touch_none B c F T ms bad O _ w h).mono ?_
    rintro e w' ⟨rfl, rfl⟩
    exact ⟨rfl, MTurn.refl h⟩
  | some (g, t, s), h => exact touch_some B A m g t c F T ms s bad O xs w hc h hA hn hm hl hx
end Go.Proofs.YtemikojaldoofaaGreat
