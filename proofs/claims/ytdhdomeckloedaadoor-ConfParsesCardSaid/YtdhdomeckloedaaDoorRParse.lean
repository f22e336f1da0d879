/- The document's Parse: the numbers of a text. -/
import Derived.Test.YtdhdomeckloedaaDoorParsed
import Derived.Deep.RegionWith
import Derived.BigRegion
namespace Go.Proofs.YtdhdomeckloedaaDoor
open Go.ChangeShapes Go.WideShapes Go.ChangeAt Go.RowKit
set_option linter.unusedVariables false
set_option linter.unusedSimpArgs false

def isDig (c : UInt8) : Bool := decide (48 ≤ c.toNat) && decide (c.toNat ≤ 57)
/-- A digit behind a number. -/
def upd (ns : List Nat) (m c : Nat) : List Nat := if m < 6 ∧ ns.getD m 0 < 1000 then ns.set m (10 * ns.getD m 0 + (c - 48)) else ns
/-- The numbers, how many have begun, and whether one goes on. -/
structure Sc where
  ns : List Nat
  a : Nat
  b : Bool
def Sc.step (s : Sc) (c : UInt8) : Sc := if isDig c then ⟨upd s.ns ((if s.b then s.a else s.a + 1) - 1) c.toNat, (if s.b then s.a else s.a + 1), true⟩ else ⟨s.ns, s.a, false⟩
def Sc.go (s : Sc) : List UInt8 → Sc
  | [] => s
  | c :: r => (s.step c).go r
def sc0 : Sc := ⟨[0, 0, 0, 0, 0, 0], 0, false⟩
/-- The numbers of a text. -/
def scan (l : List UInt8) : Sc := sc0.go l
structure Sc.Ok (s : Sc) (k : Nat) : Prop where
  len : s.ns.length = 6
  lt : ∀ x ∈ s.ns, x < 10010
  ak : s.a ≤ k
  pos : s.b = true → 0 < s.a
theorem sc0_ok : sc0.Ok 0 := ⟨rfl, by decide, by decide, by decide⟩
theorem upd_len (ns : List Nat) (m c : Nat) : (upd ns m c).length = ns.length := by
  unfold upd
  split <;> simp
theorem upd_lt {ns : List Nat} (h : ∀ x ∈ ns, x < 10010) (m c : Nat) (hc : c ≤ 57) : ∀ x ∈ upd ns m c, x < 10010 := by
  intro x hx
  unfold upd at hx
  split at hx
  · rcases List.mem_or_eq_of_mem_set hx with h1 | rfl
    · exact h x h1
    · omega
  · exact h x hx
theorem getD_lt {ns : List Nat} (h : ∀ x ∈ ns, x < 10010) (m : Nat) : ns.getD m 0 < 10010 := by
  rw [List.getD_eq_getElem?_getD]
  by_cases hm : m < ns.length
  · rw [List.getElem?_eq_getElem hm]
    exact h _ (List.getElem_mem hm)
  · rw [List.getElem?_eq_none (by omega)]
    decide
/-- Six numbers as cells. -/
abbrev encN (ns : List Nat) : Array Value := (ns.map fun n : Nat => Value.int .i64 (n : Int)).toArray
theorem encN_at (ns : List Nat) (hl : ns.length = 6) (m : Nat) (h : m < 6) : (encN ns)[m]? = some (.int .i64 ((ns.getD m 0 : Nat) : Int)) := by
  simp [encN, List.getD_eq_getElem?_getD, List.getElem?_eq_getElem (show m < ns.length by omega)]
theorem encN_set (ns : List Nat) (m x : Nat) : (encN ns).setIfInBounds m (.int .i64 (x : Int)) = encN (ns.set m x) := by
  simp [encN, List.map_set]
/-- Amid the first loop: the numbers N, the answer's box A. -/
structure NumS (w : World) (A B : Nat) (ns : List Nat) (W : World) : Prop where
  num : Blk W B 58 (encN ns)
  ans : Blk W A 23 zc.cs
  bel : Below w.heap.size w W
theorem NumS.set {w : World} {A B : Nat} {ns : List Nat} {W : World} (h : NumS w A B ns W) (h2 : A ≠ B) (h3 : w.heap.size ≤ B) (m x : Nat) : NumS w A B (ns.set m x) (W.setCell ⟨B, m, none⟩ (.int .i64 (x : Int))) :=
  ⟨encN_set ns m x ▸ h.num.set m _, h.ans.far h2 _, h.bel.setCell h3 _⟩
theorem NumS.drew {w : World} {A B : Nat} {ns : List Nat} {W : World} (h : NumS w A B ns W) : NumS w A B ns W.drew := ⟨h.num, h.ans, below_drew1 h.bel⟩
theorem NumS.below {w : World} {A B : Nat} {ns : List Nat} {W W' : World} (h : NumS w A B ns W) (hb : Below W.heap.size W W') : NumS w A B ns W' := ⟨h.num.below hb h.num.lt, h.ans.below hb h.ans.lt, below_then h.bel hb (Nat.le_refl _)⟩
theorem at_str (s : List UInt8) (k : Nat) (h : k < s.length) (w : World) : (Instr.index 9 (.string ⟨s.toArray⟩) (.int .i64 (k : Int))).run Tryd.prog w = .ok (.int .u8 ((s[k]'h).toNat : Int)) w := by
  rw [run_index_string w 9 _ .i64 _ Tryd.underlying9, dif_pos ⟨by omega, by rw [mk_size]; omega⟩]
  have e := mk_at s k h (by rw [mk_size]; exact h)
  simp only [Int.toNat_natCast, e]

/-- The configuration of algorithm j and a text's numbers. -/
abbrev cand (ns : List Nat) (j : Nat) : Cf := ⟨j, (ns.getD 0 0 : Nat), (ns.getD 1 0 : Nat), (ns.getD 2 0 : Nat), (ns.getD 3 0 : Nat), (ns.getD 4 0 : Nat), (ns.getD 5 0 : Nat)⟩
set_option maxRecDepth 100000 in
set_option maxHeartbeats 32000000 in
theorem rparse_any (s : List UInt8) (hs : s.length ≤ 1000) (w : World) (P : Ending → World → Prop)
    (hhit : ∀ j, j < 3 → (cand (scan s).ns j).Ok → showT (cand (scan s).ns j) = s → ∀ W, Below w.heap.size w W → P (.returned (.tuple #[(cand (scan s).ns j).v, .bool true])) W)
    (hmiss : (∀ j, j < 3 → ¬ ((cand (scan s).ns j).Ok ∧ showT (cand (scan s).ns j) = s)) → ∀ W, Below w.heap.size w W → P (.returned (.tuple #[zc.v, .bool false])) W) :
    Calls Tryd.prog 17 #[strV s] w P := by
  have HH := Lib.hid hhit
  have HM := Lib.hid hmiss
  clear hhit hmiss
  have hsz := mk_size s
  have S0 := Lib.hid (show NumS w w.heap.size (w.heap.size + 1) sc0.ns ((w.alloc (.cells zc.cs 23)).alloc (.cells (encN sc0.ns) 58)) from by
    have h := Blk.new (w.alloc (.cells zc.cs 23)) 58 (encN sc0.ns)
    rw [World.size_alloc] at h
    exact ⟨h, (Blk.new _ _ _).alloc _, ((Below.refl _ _).alloc (Nat.le_refl _) _).alloc (by simp) _⟩)
  have hAB : w.heap.size ≠ w.heap.size + 1 := by omega
  have hwB : w.heap.size ≤ w.heap.size + 1 := by omega
  have hen : encN sc0.ns = #[.int .i64 0, .int .i64 0, .int .i64 0, .int .i64 0, .int .i64 0, .int .i64 0] := rfl
  rw [hen] at S0
  clear hen
  show Calls Tryd.prog 17 #[Value.string (ByteArray.mk s.toArray)] w P
  generalize hS : (ByteArray.mk s.toArray) = S at *
  have HS := Lib.hid hS
  clear hS
  go_enter Tryd.func17, Tryd.ntmps17
  go_wp2
  generalize w.heap.size + 1 = B at *
  go_loopw [5, 6, 7] (fun a b i W => ∃ (k : Nat) (st : Sc), k ≤ s.length ∧ i = .int .i64 k ∧ (∃ z : Int, a = .int .i64 z ∧ Hid (z = (st.a : Int) - 1)) ∧ b = .bool st.b ∧ Hid (st.Ok k) ∧ Hid (NumS w w.heap.size B st.ns W) ∧ Hid (st.go (s.drop k) = scan s)) (fun _ _ i _ => s.length - (intOf i).toNat)
  case atStart => exact ⟨0, sc0, by omega, rfl, ⟨-1, rfl, Lib.hid rfl⟩, rfl, Lib.hid sc0_ok, S0, Lib.hid rfl⟩
  case round =>
    clear S0
    obtain ⟨k, ⟨ns, a, b⟩, hk, rfl, ⟨z, rfl, HZ⟩, rfl, HO, HN, HG⟩ := hrel
    obtain ⟨hl6, hlt9, hak, hpos⟩ := HO.out
    dsimp only at hl6 hlt9 hak hpos HN
    by_cases hlt : k < s.length
    · have hkS : (k : Int) < (S.size : Int) := by omega
      have hkS' : k < S.size := by omega
      have hix : ∀ w, (Instr.index 9 (.string S) (.int .i64 (k : Int))).run Tryd.prog w = .ok (.int .u8 ((s[k]'hlt).toNat : Int)) w := by
        intro w
        rw [← HS.out]
        exact at_str s k hlt w
      have hg := HG.out
      rw [drop_at hlt] at hg
      have hg2 : ((⟨ns, a, b⟩ : Sc).step s[k]).go (s.drop (k + 1)) = scan s := hg
      have hi := IntWalk.i64_in ((k : Int) + 1) (by omega)
      clear hg HG HO
      by_cases hd : isDig (s[k]'hlt) = true
      · have hcd : 48 ≤ (s[k]'hlt).toNat ∧ (s[k]'hlt).toNat ≤ 57 := by simpa [isDig] using hd
        have hst : (⟨ns, a, b⟩ : Sc).step (s[k]'hlt) = ⟨upd ns ((if b then a else a + 1) - 1) (s[k]'hlt).toNat, (if b then a else a + 1), true⟩ := by unfold Sc.step; rw [if_pos hd]
        rw [hst] at hg2
        have hu1 := upd_len ns ((if b then a else a + 1) - 1) (s[k]'hlt).toNat
        have hu2 := upd_lt hlt9 ((if b then a else a + 1) - 1) (s[k]'hlt).toNat hcd.2
        clear hst hd
        generalize (s[k]'hlt).toNat = c at *
        have h1 : (48 : Int) ≤ c := by omega
        have h2 : (c : Int) ≤ 57 := by omega
        have h1' : ¬ (c : Int) < 48 := by omega
        have h2' : ¬ (57 : Int) < c := by omega
        have hz := HZ.out
        dsimp only at hz
        cases b with
        | true =>
          obtain ⟨m, rfl⟩ : ∃ m, a = m + 1 := ⟨a - 1, by have := hpos rfl; omega⟩
          obtain rfl : z = (m : Int) := by omega
          simp only [if_true, Nat.add_sub_cancel] at hg2 hu1 hu2
          have HG2 := Lib.hid hg2
          clear hg2 hz HZ hpos
          have HO2 := Lib.hid (show (⟨upd ns m c, m + 1, true⟩ : Sc).Ok (k + 1) from ⟨hu1.trans hl6, hu2, by dsimp only; omega, fun _ => by dsimp only; omega⟩)
          have HZ2 := Lib.hid (show (m : Int) = ((m + 1 : Nat) : Int) - 1 by omega)
          clear hu1 hu2
          by_cases hm : m < 6
          · have hmI : (m : Int) < 6 := by omega
            have hm0 : (0 : Int) ≤ m := by omega
            have hcell := HN.out.num.cell m
            rw [encN_at ns hl6 m hm] at hcell
            have hfz := HN.out.num.frozen m
            have hx9 := getD_lt hlt9 m
            by_cases hx : ns.getD m 0 < 1000
            · have hup : upd ns m c = ns.set m (10 * ns.getD m 0 + (c - 48)) := by unfold upd; rw [if_pos ⟨hm, hx⟩]
              have hset := HN.out.set hAB hwB m (10 * ns.getD m 0 + (c - 48))
              rw [← hup] at hset
              clear hup
              generalize ns.getD m 0 = x at *
              have w1 : IntKind.i64.wrap (10 * (x : Int)) = 10 * (x : Int) := IntWalk.i64_in _ (by omega)
              have w2 : IntKind.i64.wrap (10 * (x : Int) + (c : Int)) = 10 * (x : Int) + (c : Int) := IntWalk.i64_in _ (by omega)
              have w3 : IntKind.i64.wrap (10 * (x : Int) + (c : Int) - 48) = ((10 * x + (c - 48) : Nat) : Int) := by rw [IntWalk.i64_in _ (by omega)]; omega
              have w4 : IntKind.i64.wrap (c : Int) = (c : Int) := IntWalk.i64_in _ (by omega)
              have h7 : (x : Int) < 1000 := by omega
              generalize 10 * x + (c - 48) = y at *
              have HE := Lib.hid hset
              clear hset hlt9 hl6 hx
              go_wp2_with fail
              go_region
              all_goals
                go_wp2
                exact ⟨⟨k + 1, ⟨upd ns m c, m + 1, true⟩, by omega, by go_num, ⟨(m : Int), rfl, HZ2⟩, rfl, HO2, Lib.hid HE.out.drew, HG2⟩, by simp [intOf]; omega⟩
            · have hup : upd ns m c = ns := by unfold upd; rw [if_neg (fun h => hx h.2)]
              have HE := HN.out
              rw [← hup] at HE
              have HE2 := Lib.hid HE
              clear hup HE
              generalize ns.getD m 0 = x at *
              have h7 : ¬ (x : Int) < 1000 := by omega
              clear hlt9 hl6 hx
              go_wp2
              exact ⟨⟨k + 1, ⟨upd ns m c, m + 1, true⟩, by omega, by go_num, ⟨(m : Int), rfl, HZ2⟩, rfl, HO2, HE2, HG2⟩, by simp [intOf]; omega⟩
          · have hmI : ¬ (m : Int) < 6 := by omega
            have hup : upd ns m c = ns := by unfold upd; rw [if_neg (fun h => hm h.1)]
            have HE := HN.out
            rw [← hup] at HE
            have HE2 := Lib.hid HE
            clear hup HE hlt9 hl6
            go_wp2
            exact ⟨⟨k + 1, ⟨upd ns m c, m + 1, true⟩, by omega, by go_num, ⟨(m : Int), rfl, HZ2⟩, rfl, HO2, HE2, HG2⟩, by simp [intOf]; omega⟩
        | false =>
          simp only [Bool.false_eq_true, if_false, Nat.add_sub_cancel] at hg2 hu1 hu2
          have HG2 := Lib.hid hg2
          have hw : IntKind.i64.wrap (z + 1) = (a : Int) := by rw [IntWalk.i64_in _ (by omega)]; omega
          clear hg2 hz HZ hpos
          generalize a = m at *
          have HO2 := Lib.hid (show (⟨upd ns m c, m + 1, true⟩ : Sc).Ok (k + 1) from ⟨hu1.trans hl6, hu2, by dsimp only; omega, fun _ => by dsimp only; omega⟩)
          have HZ2 := Lib.hid (show (m : Int) = ((m + 1 : Nat) : Int) - 1 by omega)
          clear hu1 hu2
          by_cases hm : m < 6
          · have hmI : (m : Int) < 6 := by omega
            have hm0 : (0 : Int) ≤ m := by omega
            have hcell := HN.out.num.cell m
            rw [encN_at ns hl6 m hm] at hcell
            have hfz := HN.out.num.frozen m
            have hx9 := getD_lt hlt9 m
            by_cases hx : ns.getD m 0 < 1000
            · have hup : upd ns m c = ns.set m (10 * ns.getD m 0 + (c - 48)) := by unfold upd; rw [if_pos ⟨hm, hx⟩]
              have hset := HN.out.set hAB hwB m (10 * ns.getD m 0 + (c - 48))
              rw [← hup] at hset
              clear hup
              generalize ns.getD m 0 = x at *
              have w1 : IntKind.i64.wrap (10 * (x : Int)) = 10 * (x : Int) := IntWalk.i64_in _ (by omega)
              have w2 : IntKind.i64.wrap (10 * (x : Int) + (c : Int)) = 10 * (x : Int) + (c : Int) := IntWalk.i64_in _ (by omega)
              have w3 : IntKind.i64.wrap (10 * (x : Int) + (c : Int) - 48) = ((10 * x + (c - 48) : Nat) : Int) := by rw [IntWalk.i64_in _ (by omega)]; omega
              have w4 : IntKind.i64.wrap (c : Int) = (c : Int) := IntWalk.i64_in _ (by omega)
              have h7 : (x : Int) < 1000 := by omega
              generalize 10 * x + (c - 48) = y at *
              have HE := Lib.hid hset
              clear hset hlt9 hl6 hx
              go_wp2_with fail
              go_region
              all_goals
                go_wp2
                exact ⟨⟨k + 1, ⟨upd ns m c, m + 1, true⟩, by omega, by go_num, ⟨(m : Int), rfl, HZ2⟩, rfl, HO2, Lib.hid HE.out.drew, HG2⟩, by simp [intOf]; omega⟩
            · have hup : upd ns m c = ns := by unfold upd; rw [if_neg (fun h => hx h.2)]
              have HE := HN.out
              rw [← hup] at HE
              have HE2 := Lib.hid HE
              clear hup HE
              generalize ns.getD m 0 = x at *
              have h7 : ¬ (x : Int) < 1000 := by omega
              clear hlt9 hl6 hx
              go_wp2
              exact ⟨⟨k + 1, ⟨upd ns m c, m + 1, true⟩, by omega, by go_num, ⟨(m : Int), rfl, HZ2⟩, rfl, HO2, HE2, HG2⟩, by simp [intOf]; omega⟩
          · have hmI : ¬ (m : Int) < 6 := by omega
            have hup : upd ns m c = ns := by unfold upd; rw [if_neg (fun h => hm h.1)]
            have HE := HN.out
            rw [← hup] at HE
            have HE2 := Lib.hid HE
            clear hup HE hlt9 hl6
            go_wp2
            exact ⟨⟨k + 1, ⟨upd ns m c, m + 1, true⟩, by omega, by go_num, ⟨(m : Int), rfl, HZ2⟩, rfl, HO2, HE2, HG2⟩, by simp [intOf]; omega⟩
      · have hcd : (s[k]'hlt).toNat < 48 ∨ 57 < (s[k]'hlt).toNat := by simp [isDig] at hd; omega
        have hst : (⟨ns, a, b⟩ : Sc).step (s[k]'hlt) = ⟨ns, a, false⟩ := by unfold Sc.step; rw [if_neg hd]
        rw [hst] at hg2
        have HG2 := Lib.hid hg2
        have HO2 := Lib.hid (show (⟨ns, a, false⟩ : Sc).Ok (k + 1) from ⟨hl6, hlt9, by dsimp only; omega, by simp⟩)
        clear hst hd hg2 hl6 hlt9
        generalize (s[k]'hlt).toNat = c at *
        rcases hcd with hcd | hcd
        focus
          have h1 : (c : Int) < 48 := by omega
          go_wp2
          exact ⟨⟨k + 1, ⟨ns, a, false⟩, by omega, by go_num, ⟨z, rfl, HZ⟩, rfl, HO2, HN, HG2⟩, by simp [intOf]; omega⟩
        focus
          have h1 : ¬ (c : Int) < 48 := by omega
          have h2 : (57 : Int) < c := by omega
          go_wp2
          exact ⟨⟨k + 1, ⟨ns, a, false⟩, by omega, by go_num, ⟨z, rfl, HZ⟩, rfl, HO2, HN, HG2⟩, by simp [intOf]; omega⟩
    · obtain rfl : k = s.length := by omega
      obtain rfl := HS.out
      have hg := HG.out
      rw [List.drop_length] at hg
      have hg2 : (⟨ns, a, b⟩ : Sc) = scan s := hg
      have hns : ns = (scan s).ns := by rw [← hg2]
      rw [← hns] at HH HM
      have hkS : ¬ ((s.length : Int) < ((ByteArray.mk s.toArray).size : Int)) := by omega
      have hl6' := hl6
      clear hg hg2 hns HG HO hak hpos hlt9 HZ hk
      go_wp2
      go_loopw [8] (fun i W => ∃ j : Nat, j ≤ 3 ∧ i = .int .i64 j ∧ Hid (∀ i, i < j → ¬ ((cand ns i).Ok ∧ showT (cand ns i) = s)) ∧ Hid (NumS w w.heap.size B ns W)) (fun i _ => 3 - (intOf i).toNat)
      case atStart => exact ⟨0, by omega, rfl, Lib.hid (fun i hi => by omega), HN⟩
      case round =>
        clear HN
        obtain ⟨j, hj, rfl, HJ, HN⟩ := hrel
        by_cases hj3 : j < 3
        · have hjI : (j : Int) < 3 := by omega
          have hi := IntWalk.i64_in ((j : Int) + 1) (by omega)
          have c0 := HN.out.num.cell 0
          have c1 := HN.out.num.cell 1
          have c2 := HN.out.num.cell 2
          have c3 := HN.out.num.cell 3
          have c4 := HN.out.num.cell 4
          have c5 := HN.out.num.cell 5
          rw [encN_at ns hl6 0 (by omega)] at c0
          rw [encN_at ns hl6 1 (by omega)] at c1
          rw [encN_at ns hl6 2 (by omega)] at c2
          rw [encN_at ns hl6 3 (by omega)] at c3
          rw [encN_at ns hl6 4 (by omega)] at c4
          rw [encN_at ns hl6 5 (by omega)] at c5
          have hC := Blk.new wr 23 (cand ns j).cs
          have HN1 := Lib.hid (show NumS w w.heap.size B ns (wr.alloc (.cells (cand ns j).cs 23)) from ⟨HN.out.num.alloc _, HN.out.ans.alloc _, HN.out.bel.alloc HN.out.bel.size _⟩)
          have hAC : w.heap.size ≠ wr.heap.size := Nat.ne_of_lt HN.out.ans.lt
          obtain ⟨y0, y1, y2, y3, y4, y5, y6⟩ := hC.conf
          have hwA : w.heap.size ≤ w.heap.size := Nat.le_refl _
          have KR1 := fun W => right_ok (cand ns j) W
          have KR2 := fun W => right_bad (cand ns j) W
          have KS := fun W => rshow_ok (cand ns j) W
          have HHj := HH.out j hj3
          have hnext : ¬ ((cand ns j).Ok ∧ showT (cand ns j) = s) → Hid (∀ i, i < j + 1 → ¬ ((cand ns i).Ok ∧ showT (cand ns i) = s)) := fun h => Lib.hid (fun i hi => by
            rcases Nat.lt_or_eq_of_le (Nat.le_of_lt_succ hi) with h1 | rfl
            · exact HJ.out i h1
            · exact h)
          clear HN hl6 hl6'
          dsimp only at y0 y1 y2 y3 y4 y5 y6
          by_cases hk : (cand ns j).Ok
          · have K1 := fun W => KR1 W hk
            have K2 := fun W => KS W hk
            have HHk := HHj hk
            have hnk : showT (cand ns j) ≠ s → _ := fun h => hnext (fun e => h e.2)
            clear KR1 KR2 KS HHj hnext hk
            generalize showT (cand ns j) = tt at *
            by_cases hs2 : tt = s
            · have HQ := Lib.hid (HHk hs2)
              have hb := beqL_t hs2
              have HB2 := hb
              clear HHk hnk hb hs2
              go_wp2_with fail
              refine (K1 _).mono ?_
              rintro e V1 ⟨rfl, hb⟩
              have HN2 := Lib.hid (HN1.out.below hb)
              have hC2 := hC.below hb hC.lt
              obtain ⟨y0', y1', y2', y3', y4', y5', y6'⟩ := hC2.conf
              dsimp only at y0' y1' y2' y3' y4' y5' y6'
              clear hb HN1 hC K1
              go_wp2_with fail
              refine (K2 _).mono ?_
              rintro e V2 ⟨rfl, hb⟩
              have HN3 := HN2.out.below hb
              have hC3 := hC2.below hb hC2.lt
              obtain ⟨z0, z1, z2, z3, z4, z5, z6⟩ := hC3.conf
              dsimp only at z0 z1 z2 z3 z4 z5 z6
              obtain ⟨a0, a1, a2, a3, a4, a5, a6⟩ := HN3.ans.conf
              have af := HN3.ans.frozen
              have f9 := HN3.bel
              clear hb HN2 hC2 K2 y0' y1' y2' y3' y4' y5' y6' HN3
              go_wp2
              refine bodyPost_ret (v := .tuple #[(cand ns j).v, .bool true]) (by simp [results, Tryd.results17, go_sem, a0, a1, a2, a3, a4, a5, a6]) rfl (HQ.out _ ?_)
              exact ((((((f9.setCell hwA _).setCell hwA _).setCell hwA _).setCell hwA _).setCell hwA _).setCell hwA _).setCell hwA _
            · have HQ := hnk hs2
              have hb := beqL_f hs2
              have HB2 := hb
              clear HHk hnk hb hs2
              go_wp2_with fail
              refine (K1 _).mono ?_
              rintro e V1 ⟨rfl, hb⟩
              have HN2 := Lib.hid (HN1.out.below hb)
              have hC2 := hC.below hb hC.lt
              obtain ⟨y0', y1', y2', y3', y4', y5', y6'⟩ := hC2.conf
              dsimp only at y0' y1' y2' y3' y4' y5' y6'
              clear hb HN1 hC K1
              go_wp2_with fail
              refine (K2 _).mono ?_
              rintro e V2 ⟨rfl, hb⟩
              have HN3 := Lib.hid (HN2.out.below hb)
              clear hb HN2 hC2 K2 y0' y1' y2' y3' y4' y5' y6'
              go_wp2
              exact ⟨⟨j + 1, by omega, by go_num, HQ, HN3⟩, by simp [intOf]; omega⟩
          · have HQ := hnext (fun e => hk e.1)
            have K1 := fun W => KR2 W hk
            clear KR1 KR2 KS HHj hnext hk
            go_wp2_with fail
            refine (K1 _).mono ?_
            rintro e V1 ⟨rfl, hb⟩
            have HN2 := Lib.hid (HN1.out.below hb)
            clear hb HN1 hC K1
            go_wp2
            exact ⟨⟨j + 1, by omega, by go_num, HQ, HN2⟩, by simp [intOf]; omega⟩
        · obtain rfl : j = 3 := by omega
          have HQ := Lib.hid (HM.out HJ.out)
          obtain ⟨a0, a1, a2, a3, a4, a5, a6⟩ := HN.out.ans.conf
          have af := HN.out.ans.frozen
          have f9 := HN.out.bel
          have hwA : w.heap.size ≤ w.heap.size := Nat.le_refl _
          clear HN HM HH HJ
          go_wp2
          refine bodyPost_ret (v := .tuple #[zc.v, .bool false]) (by simp [results, Tryd.results17, go_sem, a0, a1, a2, a3, a4, a5, a6]) rfl (HQ.out _ ?_)
          exact ((((((f9.setCell hwA _).setCell hwA _).setCell hwA _).setCell hwA _).setCell hwA _).setCell hwA _).setCell hwA _
end Go.Proofs.YtdhdomeckloedaaDoor
