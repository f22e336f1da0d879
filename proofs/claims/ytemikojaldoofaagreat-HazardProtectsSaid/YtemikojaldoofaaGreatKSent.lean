/- What laySentinels does. -/
import Derived.Test.YtemikojaldoofaaGreatKFree
namespace Go.Proofs.YtemikojaldoofaaGreat
open Go.ChangeShapes Go.WideShapes Go.ChangeAt Go.RowKit
set_option linter.unusedVariables false

set_option maxRecDepth 20000

/-- The head's first k rows are laid. -/
def rowsMS (c : P.Cf) (ms : MS) : Nat → MS
  | 0 => ms
  | k + 1 => (rowsMS c ms k).put (c.node 1 (5 + k)) 4
theorem Calm.rows {ms : MS} {n s : Nat} (h : Calm ms n s) (c : P.Cf) : ∀ k, Calm (rowsMS c ms k) n (s + k)
  | 0 => h
  | k + 1 => (Calm.rows h c k).put _ _
def sentMS (c : P.Cf) (ms : MS) : MS := if c.al = 0 then ms else (rowsMS c (ms.put (c.node 1 3) c.lv) c.lv.toNat).put (c.node 2 0) 18446744073709551615
theorem Calm.sent {ms : MS} {n s : Nat} (h : Calm ms n s) (c : P.Cf) (hc : c.Ok) : Calm (sentMS c ms) n (s + 10) := by
  unfold sentMS
  have := hc.l1
  split
  · exact h.mono (by omega)
  · exact (((h.put _ _).rows c _).put _ _).mono (by omega)
theorem node_at {c : P.Cf} (h : c.Ok) {n f : Int} (h0 : 1 ≤ n) (h1 : n ≤ c.nd) (h2 : 0 ≤ f) (h3 : f < c.width) : c.node n f = c.o3 + (n - 1) * c.width + f ∧ 0 ≤ c.node n f ∧ c.node n f < c.size := by
  have e : c.node n f = c.o3 + (n - 1) * c.width + f := by
    unfold P.Cf.node
    rw [P.addrN_yes (by omega)]
  obtain ⟨s1, s2, s3, s4, s5⟩ := h.steps
  have h4 : c.o4 = c.o3 + c.nd * c.width := rfl
  obtain ⟨r1, r2⟩ := P.row_in (S := c.width) (T := c.nd) (q := n - 1) (r := f) (by omega) (by omega) h2 h3
  exact ⟨e, by omega, by omega⟩

theorem sent_none (B : Nat) (c : P.Cf) (F T : Nat) (ms : MS) (gs : Gh) (bad : Bool) (O : Nat → Prop) (w : World) (h : MachAt B c F T ms gs bad O w) (ha : c.al = 0) :
    Calls Tryz.prog 40 #[at0 B] w (MDoes B c F T (.tuple #[]) ms gs bad O w) := by
  have K49 := P.sentinelsM_any c
  rw [show P.sent c.al = 0 by unfold P.sent; rw [if_pos ha]] at K49
  have hT0 := MTurn.refl h
  clear h ha
  obtain ⟨c0, c1, c2, c3, c4, c5, c6⟩ := hT0.cells
  go_enter Tryz.func40, Tryz.ntmps40
  go_wp2_with fail
  refine (K49 _).mono ?_
  rintro e w1 ⟨rfl, hB⟩
  have HT1 := Lib.hid (hT0.below hB)
  clear hB hT0 c0 c1 c2 c3 c4 c5 c6
  go_wp2
  exact bodyPost_ret (v := .tuple #[]) (by simp [results, Tryz.results40, go_sem]) rfl ⟨rfl, HT1.out⟩

set_option maxHeartbeats 8000000 in
theorem sent_some (B : Nat) (c : P.Cf) (F T : Nat) (ms : MS) (gs : Gh) (bad : Bool) (O : Nat → Prop) (s : Nat) (w : World) (hc : c.Ok) (h : MachAt B c F T ms gs bad O w) (hs : Calm ms c.size.toNat s) (hs1 : s ≤ 1000) (ha : c.al ≠ 0) :
    Calls Tryz.prog 40 #[at0 B] w (MDoes B c F T (.tuple #[]) (sentMS c ms) gs bad O w) := by
  have hd : P.sent c.al = 2 := by unfold P.sent; rw [if_neg ha]
  have hw : c.width = 5 + c.lv := by unfold P.Cf.width; rw [if_neg ha]
  have hnd : 3 ≤ c.nd := by have := hc.n0; omega
  have hnd2 := hc.nd
  have hl0 := hc.l0
  have hl1 := hc.l1
  have hsz := hc.steps
  have K49 := P.sentinelsM_any c
  rw [hd] at K49
  have K17 := P.conf_any c
  have K74 : ∀ a b W, P.I64 a → P.I64 b → Calls Tryz.prog 65 #[c.v, .int .i64 a, .int .i64 b] W fun e w' => e = .returned (.int .i64 (c.node a b)) ∧ Below W.heap.size W w' := fun a b W ha hb => P.node_ok c a b W hc ha hb
  have HE : Hid (sentMS c ms = (rowsMS c (ms.put (c.node 1 3) c.lv) c.lv.toNat).put (c.node 2 0) 18446744073709551615) := Lib.hid (if_neg ha)
  have HC := Lib.hid hc
  have hT0 := MTurn.refl h
  clear hc h hd ha
  generalize sentMS c ms = fin at *
  obtain ⟨c0, c1, c2, c3, c4, c5, c6⟩ := hT0.cells
  go_enter Tryz.func40, Tryz.ntmps40
  go_wp2_with fail
  refine (K49 _).mono ?_
  rintro e w1 ⟨rfl, hB⟩
  have hT1 := hT0.below hB
  clear hB hT0 c0 c1 c2 c3 c4 c5 c6
  obtain ⟨c0, c1, c2, c3, c4, c5, c6⟩ := hT1.cells
  go_wp2_with fail
  refine (K17 _).mono ?_
  rintro e w2 ⟨rfl, hB⟩
  have hT2 := hT1.below hB
  clear hB hT1 c0 c1 c2 c3 c4 c5 c6
  have qf := field_lv c
  obtain ⟨c0, c1, c2, c3, c4, c5, c6⟩ := hT2.cells
  go_wp2_with fail
  refine (K74 1 3 _ ⟨by omega, by omega⟩ ⟨by omega, by omega⟩).mono ?_
  rintro e w3 ⟨rfl, hB⟩
  obtain ⟨-, a1, a2⟩ := node_at HC.out (n := 1) (f := 3) (by omega) (by omega) (by omega) (by omega)
  obtain ⟨O3, k3, l3, h3⟩ := hT2.below hB
  have K := lay_any B c F T ms gs bad O3 (c.node 1 3) c.lv w3 h3 (hs.fine (by omega) (by omega)) (by rw [hs.len]; omega)
  have KL : Hid (∀ w', MTurn B c F T (ms.put (c.node 1 3) c.lv) gs bad O3 w3 w' → MTurn B c F T (ms.put (c.node 1 3) c.lv) gs bad O w w') := Lib.hid fun w' h => MTurn.from k3 l3 h
  have s3 := hs.put (c.node 1 3) c.lv
  clear hB hT2 k3 l3 h3 c0 c1 c2 c3 c4 c5 c6 hs
  generalize ms.put (c.node 1 3) c.lv = ms3 at *
  generalize c.node 1 3 = na at *
  have hw2 : IntKind.u64.wrap c.lv = c.lv := IntWalk.u64_in _ (by omega)
  go_wp2_with fail
  refine K.mono ?_
  rintro e w4 ⟨rfl, hT⟩
  have HT := Lib.hid (KL.out _ hT)
  clear hT K KL
  have HS := Lib.hid s3
  clear s3
  obtain ⟨lv, hlv⟩ : ∃ lv : Nat, c.lv = lv := ⟨c.lv.toNat, by omega⟩
  have HLV := Lib.hid hlv
  rw [hlv]
  clear hlv qf hw2
  go_wp2
  go_loopw [26] (fun i wr => ∃ k : Nat, (k : Int) ≤ c.lv ∧ i = .int .i64 k ∧ Hid (MTurn B c F T (rowsMS c ms3 k) gs bad O w wr)) (fun i _ => 100 - (intOf i).toNat)
  case atStart => exact ⟨0, by omega, rfl, HT⟩
  case round =>
    obtain ⟨k, hk, rfl, HR⟩ := hrel
    clear HT
    by_cases hlt : k < lv
    · have hlt2 : (k : Int) < c.lv := by rw [HLV.out]; omega
      obtain ⟨c0, c1, c2, c3, c4, c5, c6⟩ := HR.out.cells
      have hw1 : IntKind.i64.wrap (5 + (k : Int)) = 5 + k := IntWalk.i64_in _ (by omega)
      go_wp2_with fail
      refine (K74 1 (5 + k) _ ⟨by omega, by omega⟩ ⟨by omega, by omega⟩).mono ?_
      rintro e v1 ⟨rfl, hB⟩
      have HR1 := Lib.hid (HR.out.below hB)
      clear HR hB c0 c1 c2 c3 c4 c5 c6
      go_wp2_with fail
      refine (point_any 2 _ (by omega) (by omega)).mono ?_
      rintro e v2 ⟨rfl, hB⟩
      obtain ⟨O5, k5, l5, h5⟩ := HR1.out.below hB
      obtain ⟨-, a1, a2⟩ := node_at HC.out (n := 1) (f := 5 + k) (by omega) (by omega) (by omega) (by omega)
      have hsk := HS.out.rows c k
      have K := lay_any B c F T _ gs bad O5 (c.node 1 (5 + k)) 4 v2 h5 (hsk.fine (by omega) (by omega)) (by rw [hsk.len]; omega)
      have KL3 : Hid (∀ w', MTurn B c F T ((rowsMS c ms3 k).put (c.node 1 (5 + k)) 4) gs bad O5 v2 w' → MTurn B c F T (rowsMS c ms3 (k + 1)) gs bad O w w') := Lib.hid fun w' h => MTurn.from k5 l5 h
      clear HR1 hB k5 l5 h5 hsk hw1
      generalize c.node 1 (5 + k) = la at *
      go_wp2_with fail
      refine K.mono ?_
      rintro e v3 ⟨rfl, hT⟩
      have HR2 := Lib.hid (KL3.out _ hT)
      clear hT KL3 K
      go_wp2
      go_roundw
      case rel => exact ⟨k + 1, by omega, by go_num, HR2⟩
      case measure => simp [intOf]; omega
    · have hkk : k = c.lv.toNat := by rw [HLV.out]; have := HLV.out; omega
      obtain ⟨c0, c1, c2, c3, c4, c5, c6⟩ := HR.out.cells
      go_wp2_with fail
      refine (K74 2 0 _ ⟨by omega, by omega⟩ ⟨by omega, by omega⟩).mono ?_
      rintro e v1 ⟨rfl, hB⟩
      obtain ⟨O5, k5, l5, h5⟩ := HR.out.below hB
      obtain ⟨-, a1, a2⟩ := node_at HC.out (n := 2) (f := 0) (by omega) (by omega) (by omega) (by omega)
      have hsk := HS.out.rows c k
      have K := lay_any B c F T _ gs bad O5 (c.node 2 0) 18446744073709551615 v1 h5 (hsk.fine (by omega) (by omega)) (by rw [hsk.len]; omega)
      have KL3 : Hid (∀ w', MTurn B c F T ((rowsMS c ms3 k).put (c.node 2 0) 18446744073709551615) gs bad O5 v1 w' → MTurn B c F T fin gs bad O w w') := Lib.hid fun w' h => by
        rw [HE.out, ← hkk]
        exact MTurn.from k5 l5 h
      clear HR hB c0 c1 c2 c3 c4 c5 c6 k5 l5 h5 hsk
      generalize c.node 2 0 = la at *
      go_wp2_with fail
      refine K.mono ?_
      rintro e v3 ⟨rfl, hT⟩
      have HR2 := Lib.hid (KL3.out _ hT)
      clear hT KL3 K
      go_wp2
      go_end0
      exact ⟨rfl, HR2.out⟩
theorem sent_any (B : Nat) (c : P.Cf) (F T : Nat) (ms : MS) (gs : Gh) (bad : Bool) (O : Nat → Prop) (s : Nat) (w : World) (hc : c.Ok) (h : MachAt B c F T ms gs bad O w) (hs : Calm ms c.size.toNat s) (hs1 : s ≤ 1000) :
    Calls Tryz.prog 40 #[at0 B] w (MDoes B c F T (.tuple #[]) (sentMS c ms) gs bad O w) := by
  by_cases ha : c.al = 0
  · rw [show sentMS c ms = ms from if_pos ha]
    exact sent_none B c F T ms gs bad O w h ha
  · exact sent_some B c F T ms gs bad O s w hc h hs hs1 ha
end Go.Proofs.YtemikojaldoofaaGreat
