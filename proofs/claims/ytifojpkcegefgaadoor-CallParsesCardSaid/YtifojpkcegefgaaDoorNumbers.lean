/- The walk of numbers. -/
import Derived.Test.YtifojpkcegefgaaDoorNums
namespace Go.Proofs.YtifojpkcegefgaaDoor
open Go.ChangeShapes Go.WideShapes Go.ChangeAt Go.RowKit
set_option linter.unusedVariables false

/-- What the loop keeps: a list of one's own. -/
structure NL (w : World) (v : Value) (l : List Nat) (W : World) : Prop where
  row : Row W 50 v l.length (encU l)
  own : ∀ k, v.ownBlock = some k → w.heap.size ≤ k
  low : Low l
  bel : Below w.heap.size w W
theorem NL.start (w : World) : NL w (.slice none 0 0) [] w := ⟨Row.nil _ _, fun k h => by simp [Value.ownBlock] at h, fun x hx => by simp at hx, Below.refl _ _⟩
theorem NL.more {w W w1 : World} {v v' : Value} {l : List Nat} {o : Obj} (h : NL w v l W) (hr : Row w1 50 v' (l.length + 1) (encU l ++ [.int .u64 0])) (hg : (W.alloc o).grownBy w1 v.ownBlock) (hl : v'.ownBlock = v.ownBlock ∨ ∀ k, v'.ownBlock = some k → (W.alloc o).heap.size ≤ k) : NL w v' (l ++ [0]) w1 := by
  have hb := h.bel.alloc h.bel.size o
  refine ⟨by simpa [encU] using hr, fun k hk => ?_, more_low h.low, ⟨hg.os.trans hb.os, hg.tape.trans hb.tape, hg.output.trans hb.output, Nat.le_trans hb.size hg.size, fun k hk => (hg.block k (Nat.lt_of_lt_of_le hk hb.size) fun e => ?_).trans (hb.block k hk)⟩⟩
  · rcases hl with e | e
    · exact h.own k (e ▸ hk)
    · exact Nat.le_trans hb.size (e k hk)
  · have := h.own k e.symm
    omega
theorem NL.drew {w W : World} {v : Value} {l : List Nat} (h : NL w v l W) : NL w v l W.drew := ⟨h.row.drew, h.own, h.low, below_drew h.bel⟩
theorem NL.set {w W : World} {g off n cap : Nat} {l : List Nat} (h : NL w (.slice (some ⟨g, off, none⟩) n cap) l W) (hl : l.length = n) (m c : Nat) (hm : n = m + 1) (hc : c ≤ 57) : NL w (.slice (some ⟨g, off, none⟩) n cap) (upLast l c) (W.setCell ⟨g, off + m, none⟩ (.int .u64 (up1 (l.getD m 0) c : Nat))) := by
  subst hl
  refine ⟨?_, h.own, upLast_low h.low c hc, below_set h.bel (p := ⟨g, off + m, none⟩) (h.own g rfl) _⟩
  have := Row.set_in h.row (k := m) (by omega) (.int .u64 (up1 (l.getD m 0) c : Nat))
  rw [upLast_len]
  have e : m = l.length - 1 := by omega
  rw [e, encU_set] at this
  rw [e]
  exact this
theorem upLast_same (l : List Nat) (c m : Nat) (hm : l.length = m + 1) (h : ¬ l.getD m 0 < 1099511627776) : upLast l c = l := by
  unfold upLast
  have e : l.length - 1 = m := by omega
  rw [e]
  unfold up1
  rw [if_neg h]
  apply List.ext_getElem?
  intro i
  by_cases hi : m = i
  · subst hi
    rw [List.getElem?_set_self (by omega)]
    simp [List.getD_eq_getElem?_getD, List.getElem?_eq_getElem (show m < l.length by omega)]
  · rw [List.getElem?_set_ne hi]
theorem at_str (s : List UInt8) (k : Nat) (h : k < s.length) (w : World) : (Instr.index 9 (.string ⟨s.toArray⟩) (.int .i64 (k : Int))).run Tryd.prog w = .ok (.int .u8 ((s[k]'h).toNat : Int)) w := by
  rw [run_index_string w 9 _ .i64 _ Tryd.underlying9, dif_pos ⟨by omega, by rw [mk_size]; omega⟩]
  have e := mk_at s k h (by rw [mk_size]; exact h)
  simp only [Int.toNat_natCast, e]
theorem info50 : (Tryd.prog.info? 50).map (fun i => (i.zero, i.size, i.bytes)) = some (some (.int .u64 0), 1, 8) := by kernel_rfl
theorem str_size (l : List UInt8) : (ByteArray.mk l.toArray).size = l.length := by simp [ByteArray.size]

set_option maxRecDepth 100000 in
set_option maxHeartbeats 4000000 in
theorem numbers_any (s : List UInt8) (hs : s.length ≤ 100000) (w : World) : Calls Tryd.prog 29 #[strV s] w fun e w' => ∃ v, e = .returned v ∧ NL w v (numsL s) w' := by
  have hsz := mk_size s
  have S0 := Lib.hid (NL.start w)
  show Calls Tryd.prog 29 #[Value.string (ByteArray.mk s.toArray)] w _
  generalize hS : (ByteArray.mk s.toArray) = S at *
  have HS := Lib.hid hS
  clear hS
  go_enter Tryd.func29, Tryd.ntmps29
  go_wp2
  go_loopw [3, 4, 5] (fun v b i wr => ∃ (k : Nat) (st : List Nat × Bool), k ≤ s.length ∧ i = .int .i64 k ∧ b = .bool st.2 ∧ st.1.length ≤ k ∧ (st.2 = true → 0 < st.1.length) ∧ Hid (NL w v st.1 wr) ∧ Hid (numsGo st (s.drop k) = numsGo ([], false) s)) (fun _ _ i _ => s.length - (intOf i).toNat)
  case atStart => exact ⟨0, ([], false), by omega, rfl, rfl, by simp, by simp, S0, Lib.hid rfl⟩
  case round =>
    obtain ⟨k, ⟨l, b⟩, hk, rfl, rfl, hlk, hb, HN, HG⟩ := hrel
    clear S0
    simp only at hlk hb HN
    by_cases hlt : k < s.length
    · have hkS : (k : Int) < (S.size : Int) := by omega
      have hkS' : k < S.size := by omega
      have hix : ∀ w, (Instr.index 9 (.string S) (.int .i64 (k : Int))).run Tryd.prog w = .ok (.int .u8 ((s[k]'hlt).toNat : Int)) w := by
        intro w
        rw [← HS.out]
        exact at_str s k hlt w
      have hg := HG.out
      rw [drop_at hlt] at hg
      have hg2 : numsGo (numStep (l, b) s[k]) (s.drop (k + 1)) = numsGo ([], false) s := by rw [← hg]; rfl
      have HG2 := Lib.hid hg2
      have hi := IntWalk.i64_in ((k : Int) + 1) (by omega)
      clear hg hg2 HG
      by_cases hd : isDig (s[k]'hlt) = true
      · have hcd : 48 ≤ (s[k]'hlt).toNat ∧ (s[k]'hlt).toNat ≤ 57 := by simpa [isDig] using hd
        have hst : numStep (l, b) (s[k]'hlt) = (upLast (if b then l else l ++ [0]) (s[k]'hlt).toNat, true) := by unfold numStep; rw [if_pos hd]
        rw [hst] at HG2
        clear hst hd
        generalize (s[k]'hlt).toNat = c at *
        have h1 : (48 : Int) ≤ c := by omega
        have h2 : (c : Int) ≤ 57 := by omega
        obtain ⟨a, cap, rfl, hcap, hmx⟩ := HN.out.row.form
        unfold maxLen at hmx
        go_upto_if 24 with fail
        go_cut [3] from 25 to 49 (fun s3 wx => NL w s3 (if b then l else l ++ [0]) wx)
        case first =>
          cases b with
          | true =>
            have HE := Lib.hid HN.out
            go_wp2
            go_meet
            exact HE.out
          | false =>
            obtain ⟨i0, hi0, hz0, hz1, hz2⟩ := info_parts info50
            have hr := HN.out.row
            go_wp2_with (at_builtin; refine wpList_append_row _ rfl _ _ 55 rfl 50 i0 (.int .u64 0) 8 Tryd.underlying55 hi0 hz0 hz1 hz2 rfl (by decide) _ l.length (encU l) rfl (hr.alloc _) ⟨wr.heap.size, 0, none⟩ 1 (.int .u64 0) rfl (by simp) (by simp [Value.oneCell']) (by omega) ?_; intro v' w1 hr' hg hlat; obtain ⟨a', cap', rfl, hc', hm'⟩ := hr'.form; have HE := Lib.hid (HN.out.more hr' hg hlat))
            go_meet
            exact HE.out
        case rest =>
          have hb2 : 0 < (if b then l else l ++ [0]).length ∧ (if b then l else l ++ [0]).length ≤ k + 1 := by
            cases b with
            | true => simp only [if_true]; exact ⟨hb rfl, by omega⟩
            | false => simp; omega
          generalize (if b then l else l ++ [0]) = l2 at *
          clear HN hcap hmx hlk hb
          obtain ⟨g, off, cap2, rfl, hle, hmx, hcell, hfz⟩ := hcut.row.at_ hb2.1
          unfold maxLen at hmx
          obtain ⟨m, hm⟩ : ∃ m, l2.length = m + 1 := ⟨l2.length - 1, by omega⟩
          have hcm := hcell m (by omega)
          rw [encU_at l2 m (by omega)] at hcm
          have hfm := hfz (off + m)
          have hlow := getD_low hcut.low m
          have hwk : IntKind.i64.wrap ((l2.length : Int) - 1) = (m : Int) := by rw [IntWalk.i64_in _ (by omega)]; omega
          have hset := hcut.set rfl m c (by omega) hcd.2
          have hlen := upLast_len l2 c
          have h5 : 0 ≤ (m : Int) := by omega
          have h6 : (m : Int) < (l2.length : Int) := by omega
          by_cases hx : l2.getD m 0 < 1099511627776
          · have hup : up1 (l2.getD m 0) c = l2.getD m 0 * 10 + (c - 48) := by unfold up1; rw [if_pos hx]
            rw [hup] at hset
            have HE := Lib.hid hset
            clear hset hup hcell hfz hcut
            generalize hX : l2.getD m 0 = x at *
            have w1 : IntKind.u64.wrap (10 * (x : Int)) = 10 * (x : Int) := IntWalk.u64_in _ (by omega)
            have w2 : IntKind.u64.wrap (10 * (x : Int) + (c : Int)) = 10 * (x : Int) + (c : Int) := IntWalk.u64_in _ (by omega)
            have w3 : IntKind.u64.wrap (10 * (x : Int) + (c : Int) - 48) = ((x * 10 + (c - 48) : Nat) : Int) := by rw [IntWalk.u64_in _ (by omega)]; omega
            have w4 : IntKind.u64.wrap (c : Int) = (c : Int) := IntWalk.u64_in _ (by omega)
            have h7 : (x : Int) < 1099511627776 := by omega
            generalize x * 10 + (c - 48) = y at *
            go_wp2_with fail
            go_region
            all_goals
              go_wp2
              go_roundw
              case rel => exact ⟨k + 1, (upLast l2 c, true), by omega, by go_num, rfl, by simp only; omega, fun _ => by simp only; omega, Lib.hid HE.out.drew, HG2⟩
              case measure => simp [intOf]; omega
          · have hsame := upLast_same l2 c m hm hx
            rw [hsame] at HG2
            have HE := Lib.hid hcut
            clear hset hcell hfz hcut hsame
            generalize hX : l2.getD m 0 = x at *
            have h7 : ¬ (x : Int) < 1099511627776 := by omega
            go_wp2
            go_roundw
            case rel => exact ⟨k + 1, (l2, true), by omega, by go_num, rfl, by simp only; omega, fun _ => by simp only; omega, HE, HG2⟩
            case measure => simp [intOf]; omega
      · have hst : numStep (l, b) (s[k]'hlt) = (l, false) := by unfold numStep; rw [if_neg hd]
        rw [hst] at HG2
        have hcd : ¬ (48 ≤ (s[k]'hlt).toNat ∧ (s[k]'hlt).toNat ≤ 57) := by simpa [isDig] using hd
        clear hst hd
        generalize (s[k]'hlt).toNat = c at *
        by_cases h48 : 48 ≤ c
        · have h1 : (48 : Int) ≤ c := by omega
          have h2 : ¬ (c : Int) ≤ 57 := by omega
          go_wp2
          go_roundw
          case rel => exact ⟨k + 1, (l, false), by omega, by go_num, rfl, by simp only; omega, by simp, HN, HG2⟩
          case measure => simp [intOf]; omega
        · have h1 : ¬ (48 : Int) ≤ c := by omega
          go_wp2
          go_roundw
          case rel => exact ⟨k + 1, (l, false), by omega, by go_num, rfl, by simp only; omega, by simp, HN, HG2⟩
          case measure => simp [intOf]; omega
    · have he : k = s.length := by omega
      have hg := HG.out
      rw [he, List.drop_length] at hg
      have hn : numsL s = l := by unfold numsL; rw [← hg]; rfl
      have hkS : ¬ (k : Int) < (S.size : Int) := by omega
      have H2 := Lib.hid hn
      clear hg hn HG
      go_wp2
      go_ret
      exact ⟨_, rfl, by rw [H2.out]; exact HN.out⟩
end Go.Proofs.YtifojpkcegefgaaDoor
