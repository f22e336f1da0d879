/- CoreFrames's walk. -/
import Derived.Test.YtogbakgmkiiboaaKTop
import Derived.Test.YtogbakgmkiiboaaKLives
import Derived.Deep.RegionWith
import Derived.Deep.Cut
import Derived.Deep.CutRange
namespace Go.Proofs.Ytogbakgmkiiboaa
open Go.ChangeShapes Go.WideShapes Go.ChangeAt Go.RowKit
set_option linter.unusedVariables false
set_option maxRecDepth 20000

/-- The first m frames. -/
def fs (fl rl : List Int) (m : Nat) : List Fr := (List.range m).map fun j => ⟨F.byteAt fl j, 0, rl⟩
theorem fs_succ (fl rl : List Int) (m : Nat) : fs fl rl (m + 1) = fs fl rl m ++ [⟨F.byteAt fl m, 0, rl⟩] := by simp [fs, List.range_succ]
theorem fs_len (fl rl : List Int) (m : Nat) : (fs fl rl m).length = m := by simp [fs]
/-- A thread at T with m frames. -/
def FrS (w : World) (fl rl : List Int) (T m : Nat) (W : World) : Prop :=
  ∃ cs v, Blk W T 50 cs ∧ cs.size = 10 ∧ cs[1]? = some v ∧ W.ownsRow 0 85 12 v m (encFs (fs fl rl m)) ∧ (∀ k, v.ownBlock = some k → w.heap.size ≤ k) ∧ w.heap.size ≤ T ∧ Below w.heap.size w W
theorem FrS.drew {w : World} {fl rl : List Int} {T m : Nat} {W : World} (h : FrS w fl rl T m W) : FrS w fl rl T m W.drew := by
  obtain ⟨cs, v, h1, h2, h3, h4, h5, h6, h7⟩ := h
  exact ⟨cs, v, h1, h2, h3, h4.drew, h5, h6, h7.drew⟩
/-- One frame more. -/
theorem FrS.push {w : World} {fl rl : List Int} {T m : Nat} {W : World} (h : FrS w fl rl T m W) (hm : m ≤ 1000) {a : Option Addr} {n cap : Nat} (R : F.Row .u64 W a n cap rl) (hn : n ≤ 100) :
    Calls Try.prog 38 #[.pointer (some ⟨T, 0, none⟩), .int .i64 (F.byteAt fl m), .slice a n cap] W fun e W' => e = .returned (.tuple #[]) ∧ FrS w fl rl T (m + 1) W' := by
  obtain ⟨cs, v, h1, h2, h3, h4, h5, h6, h7⟩ := h
  refine (push_any T 0 cs v (fs fl rl m) (F.byteAt fl m) a n cap rl W h1 h3 (by rw [fs_len]; exact h4) (by rw [fs_len]; exact hm) R hn).mono ?_
  rintro e W' ⟨rfl, v', a1, a2, a3, a4⟩
  rw [← fs_succ, fs_len] at a2
  refine ⟨rfl, _, v', a1, by simp [h2], by simp [h2], a2, fun k hk => ?_, h6, ?_⟩
  · rcases a4 k hk with h' | h'
    · exact h5 k h'
    · exact Nat.le_trans h7.size h'
  · exact h7.trans (a3.below h7.size fun k hk => by
      rcases hk with rfl | hk
      · exact h6
      · exact h5 k hk)
theorem fs_cell {w : World} {fl rl : List Int} {m g cap n0 : Nat} {W : World} (h : W.ownsRow n0 85 12 (.slice (some ⟨g, 0, none⟩) (m + 1) cap) (m + 1) (encFs (fs fl rl (m + 1)))) :
    W.cell? ⟨g, m * 12, none⟩ = some (.int .i64 (F.byteAt fl m)) ∧ W.cell? ⟨g, m * 12 + 1, none⟩ = some (.int .i64 0) ∧ ∀ k, k < 10 → W.cell? ⟨g, m * 12 + 2 + k, none⟩ = some (.int .u64 (rl.getD k 0)) := by
  have q : ∀ j, j < 12 → W.cell? ⟨g, m * 12 + j, none⟩ = (Fr.cs ⟨F.byteAt fl m, 0, rl⟩)[j]? := fun j hj => by
    rw [h.cellAt _ (by omega), fs_succ, encFs_snoc, List.getElem?_append_right (by rw [encFs_len, fs_len]; omega), encFs_len, fs_len]
    congr 1
    omega
  refine ⟨by simpa using q 0 (by omega), by simpa using q 1 (by omega), fun k hk => ?_⟩
  have := q (2 + k) (by omega)
  rw [← Nat.add_assoc] at this
  rw [this]
  have e : 2 + k = (k + 1) + 1 := by omega
  rw [e]
  simp [Fr.cs, ten, hk]
/-- What is read of a thread with a frame. -/
theorem FrS.topc {w : World} {fl rl : List Int} {T m : Nat} {W : World} (h : FrS w fl rl T (m + 1) W) : ∃ g cap, W.cell? ⟨T, 1, none⟩ = some (.slice (some ⟨g, 0, none⟩) (m + 1) cap) ∧ m + 1 ≤ cap ∧ cap ≤ 9223372036854775807 ∧
    W.cell? ⟨g, m * 12, none⟩ = some (.int .i64 (F.byteAt fl m)) ∧ W.cell? ⟨g, m * 12 + 1, none⟩ = some (.int .i64 0) ∧ ∀ k, k < 10 → W.cell? ⟨g, m * 12 + 2 + k, none⟩ = some (.int .u64 (rl.getD k 0)) := by
  obtain ⟨cs, v, h1, h2, h3, h4, h5, h6, h7⟩ := h
  rcases h4.2 with ⟨rfl, hz⟩ | ⟨g, cap, cur, rfl, _, _, hc, hm, _⟩
  · omega
  · obtain ⟨a, b, c⟩ := fs_cell (w := w) h4
    exact ⟨g, cap, (h1.cell 1).trans h3, hc, by unfold maxLen at hm; omega, a, b, c⟩
/-- One frame less. -/
theorem FrS.pop {w : World} {fl rl : List Int} {T m : Nat} {W : World} (h : FrS w fl rl T (m + 1) W) (hm : m ≤ 1000) {a : Option Addr} {n cap : Nat} {rs : List Int} (R : F.Row .u64 W a n cap rs) (hn : n ≤ 100) (hR : 0 < n → ∀ x, a = some x → x.block ≠ T) :
    Calls Try.prog 39 #[.pointer (some ⟨T, 0, none⟩), .slice a n cap] W fun e W' => e = .returned (.tuple #[]) ∧ FrS w fl rl T m W' ∧ ∀ k, k < 3 → W'.cell? ⟨T, 2 + k, none⟩ = some (.int .u64 (rs.getD k 0)) := by
  obtain ⟨cs, v, h1, h2, h3, h4, h5, h6, h7⟩ := h
  have nT := h1.not_row h4 (by decide)
  rcases h4.2 with ⟨rfl, hz⟩ | ⟨g, cp, cur, rfl, hg, hcur, hc, hmm, hsz, htk⟩
  · omega
  refine (pop_any T 0 g m cp cs a n cap rs W h1 h3 (by omega) hm ⟨hc, by unfold maxLen at hmm; omega⟩ R hn hR).mono ?_
  rintro e W' ⟨rfl, a1, a2⟩
  have hgT : g ≠ T := fun e => nT (by simp [Value.ownBlock, e])
  have hlen : (fs fl rl (m + 1)).length = m + 1 := fs_len _ _ _
  refine ⟨rfl, ⟨_, .slice (some ⟨g, 0, none⟩) m cp, a1, by simp [h2], by simp [h2], ⟨by rw [encFs_len, fs_len], .inr ⟨g, cp, cur, rfl, by omega, (a2.block g (by exact (Array.getElem?_eq_some_iff.1 hcur).1) hgT).trans hcur, by omega, hmm, hsz, ?_⟩⟩, fun k hk => h5 k hk, h6, h7.trans (a2.below h7.size fun k hk => by rw [hk]; exact h6)⟩, ?_⟩
  · have : cur.toList.take (m * 12) = ((encFs (fs fl rl (m + 1))).take (m * 12)) := by
      rw [← htk, List.take_take]
      congr 1
      omega
    rw [this, fs_succ, encFs_snoc, List.take_append_of_le_length (by rw [encFs_len, fs_len]; omega), List.take_of_length_le (by rw [encFs_len, fs_len]; omega)]
  · intro k hk
    rw [a1.cell]
    have : k = 0 ∨ k = 1 ∨ k = 2 := by omega
    rcases this with rfl | rfl | rfl <;> simp [h2]
theorem FrS.below {w : World} {fl rl : List Int} {T m : Nat} {W : World} (h : FrS w fl rl T m W) : Below w.heap.size w W := by
  obtain ⟨cs, v, h1, h2, h3, h4, h5, h6, h7⟩ := h
  exact h7
theorem FrS.zero {w : World} {fl rl : List Int} {T : Nat} {W : World} (h : FrS w fl rl T 0 W) : ∃ a cap, W.cell? ⟨T, 1, none⟩ = some (.slice a 0 cap) := by
  obtain ⟨cs, v, h1, h2, h3, h4, h5, h6, h7⟩ := h
  rcases h4.2 with ⟨rfl, hz⟩ | ⟨g, cp, cur, rfl, _⟩
  · exact ⟨_, _, (h1.cell 1).trans h3⟩
  · exact ⟨_, _, (h1.cell 1).trans h3⟩
theorem FrS.tl {w : World} {fl rl : List Int} {T m : Nat} {W : World} (h : FrS w fl rl T m W) : w.heap.size ≤ T := by
  obtain ⟨cs, v, h1, h2, h3, h4, h5, h6, h7⟩ := h
  exact h6
theorem Row.later' {k : IntKind} {w W : World} {a : Option Addr} {n cap : Nat} {zs : List Int} (h : F.Row k w a n cap zs) (b : Below w.heap.size w W) : F.Row k W a n cap zs := by
  refine ⟨h.len, h.room, ?_, h.cells b, h.wf⟩
  rcases h.form with h1 | ⟨x, e, hx⟩
  · exact .inl h1
  · exact .inr ⟨x, e, fun j u hj => by
      have := hx j u hj
      rw [Below.cell b (World.block_lt_of_cell? w _ this)]
      exact this⟩
theorem Row.lt {k : IntKind} {w : World} {a : Option Addr} {n cap : Nat} {zs : List Int} (h : F.Row k w a n cap zs) {x : Addr} (e : a = some x) (hn : 0 < n) : x.block < w.heap.size := by
  obtain ⟨b, off, e', hc⟩ := h.cell 0 hn
  rw [e] at e'
  cases e'
  exact World.block_lt_of_cell? w ⟨b, off + 0, none⟩ hc

set_option maxHeartbeats 32000000 in
theorem frames_main (a0 : Option Addr) (n0 cap0 : Nat) (fl : List Int) (a1 : Option Addr) (n1 cap1 : Nat) (rl : List Int) (a2 : Option Addr) (n2 cap2 : Nat) (tl : List Int) (w : World) (R0 : F.Row .i64 w a0 n0 cap0 fl) (R1 : F.Row .u64 w a1 n1 cap1 rl) (R2 : F.Row .u64 w a2 n2 cap2 tl)
    (h0 : n0 ≤ 200) (h1 : n1 ≤ 100) (h2 : n2 ≤ 100) : Calls Try.prog 6 #[.slice a0 n0 cap0, .slice a1 n1 cap1, .slice a2 n2 cap2] w fun e w' => e = .returned (.bool true) ∧ Below w.heap.size w w' := by
  have r0 := R0.room
  have r1 := R1.room
  have r2 := R2.room
  unfold maxLen at r0 r1 r2
  have H0 := Lib.hid R0
  have H1 := Lib.hid R1
  have H2 := Lib.hid R2
  have HS0 : Hid (FrS w fl rl w.heap.size 0 (w.alloc (.cells #[.int .i64 0, .slice none 0 0, .int .u64 0, .int .u64 0, .int .u64 0, .slice none 0 0, .slice none 0 0, .slice none 0 0, .slice none 0 0, .slice none 0 0] 50))) :=
    Lib.hid ⟨_, .slice none 0 0, Blk.new _ _ _, rfl, rfl, World.ownsRow_nil _ _ _ _, fun k hk => (by cases hk), Nat.le_refl _, (Below.refl _ _).alloc (Nat.le_refl _) _⟩
  clear R0 R1 R2
  obtain ⟨T, hT⟩ : ∃ T, w.heap.size = T := ⟨_, rfl⟩
  have HT : Hid (w.heap.size ≤ T) := Lib.hid (by omega)
  go_enter Try.func6, Try.ntmps6
  go_wp2_with fail
  generalize (w.alloc (.cells #[.int .i64 0, .slice none 0 0, .int .u64 0, .int .u64 0, .int .u64 0, .slice none 0 0, .slice none 0 0, .slice none 0 0, .slice none 0 0, .slice none 0 0] 50)) = W0 at *
  rw [hT] at HS0
  clear hT
  refine (push_nil 1 _ _).mono ?_
  rintro e v1 ⟨rfl, rfl⟩
  go_wp2_with fail
  refine (pop_nil _ _).mono ?_
  rintro e v1 ⟨rfl, rfl⟩
  go_wp2_with fail
  refine (top_nil _).mono ?_
  rintro e v1 ⟨rfl, rfl⟩
  obtain ⟨ta, tc, hz⟩ := HS0.out.zero
  go_wp2_with fail
  refine (top_none T 0 ta tc _ hz).mono ?_
  rintro e v1 ⟨rfl, rfl⟩
  clear hz
  go_wp2_with fail
  go_loopw [9] (fun i wr => ∃ m : Nat, m ≤ n0 ∧ i = .int .i64 m ∧ Hid (FrS w fl rl T m wr)) (fun i _ => n0 - (intOf i).toNat)
  case atStart => exact ⟨0, by omega, rfl, HS0⟩
  case round =>
    obtain ⟨m, hm, rfl, HR⟩ := hrel
    clear HS0
    by_cases hlt : m < n0
    · obtain ⟨b0, o0, rfl, z0⟩ := H0.out.cells HR.out.below m hlt
      have KP := HR.out.push (by omega) (Row.later' H1.out HR.out.below) h1
      clear HR
      go_wp2_with fail
      refine KP.mono ?_
      rintro e v1 ⟨rfl, hS⟩
      obtain ⟨g, cap, t1, c1, c2, f0, f1, fr⟩ := hS.topc
      obtain ⟨b0', o0', e0, z0'⟩ := H0.out.cells hS.below m hlt
      obtain ⟨rfl, rfl⟩ : b0 = b0' ∧ o0 = o0' := by simpa using e0
      clear z0 KP e0
      have HS := Lib.hid hS
      have HFR := Lib.hid fr
      clear hS fr
      have e1 : ((m + 1 : Nat) : Int) = (m : Int) + 1 := by omega
      have w1 : IntKind.i64.wrap ((m : Int) + 1) = (m : Int) + 1 := IntWalk.i64_in _ (by omega)
      go_wp2_with fail
      refine (top_some T 0 g m cap _ (by omega) t1).mono ?_
      rintro e v2 ⟨rfl, rfl⟩
      have t1' : v1.drew.cell? ⟨T, 1, none⟩ = some (.slice (some ⟨g, 0, none⟩) (m + 1) cap) := t1
      have f0' : v1.drew.cell? ⟨g, m * 12, none⟩ = some (.int .i64 (F.byteAt fl m)) := f0
      have f1' : v1.drew.cell? ⟨g, m * 12 + 1, none⟩ = some (.int .i64 0) := f1
      have z0'' : v1.drew.cell? ⟨b0, o0 + m, none⟩ = some (.int .i64 (F.byteAt fl m)) := z0'
      generalize F.byteAt fl m = fm at *
      clear t1 f0 f1 z0'
      go_wp2_with fail
      go_region_held3 (fun W => W.cell? ⟨T, 1, none⟩ = some (.slice (some ⟨g, 0, none⟩) (m + 1) cap) ∧ W.cell? ⟨g, m * 12, none⟩ = some (.int .i64 fm) ∧ W.cell? ⟨g, m * 12 + 1, none⟩ = some (.int .i64 0) ∧ W.cell? ⟨b0, o0 + m, none⟩ = some (.int .i64 fm)) (go_keep) (fail)
      clear t1' f0' f1' z0''
      go_wp2_with fail
      go_loopw [11] (fun i wr => ∃ k : Nat, k ≤ 10 ∧ i = .int .i64 k ∧ wr = v1.drew.drew) (fun i _ => 10 - (intOf i).toNat)
      case atStart => exact ⟨0, by omega, rfl, rfl⟩
      case round =>
        obtain ⟨k, hk, rfl, rfl⟩ := hrel
        by_cases hk2 : k < 10
        · have fk : v1.drew.drew.cell? ⟨g, m * 12 + 2 + k, none⟩ = some (.int .u64 (rl.getD k 0)) := HFR.out k hk2
          by_cases hk3 : k < n1
          · obtain ⟨b1, o1, rfl, z1⟩ := H1.out.cells HS.out.below k hk3
            have z1' : v1.drew.drew.cell? ⟨b1, o1 + k, none⟩ = some (.int .u64 (rl.getD k 0)) := z1
            clear z1
            generalize rl.getD k 0 = rk at *
            generalize v1.drew.drew = v3 at *
            go_wp2
            go_roundw
            case rel => exact ⟨k + 1, by omega, by go_num, trivial⟩
            case measure => simp [intOf]; omega
          · have hz : rl.getD k 0 = 0 := by
              have := H1.out.len
              simp [List.getD_eq_getElem?_getD, List.getElem?_eq_none (show rl.length ≤ k by omega)]
            rw [hz] at fk
            generalize v1.drew.drew = v3 at *
            go_wp2
            go_roundw
            case rel => exact ⟨k + 1, by omega, by go_num, trivial⟩
            case measure => simp [intOf]; omega
        · have HS2 : Hid (FrS w fl rl T (m + 1) v1.drew.drew) := Lib.hid HS.out.drew.drew
          generalize v1.drew.drew = v3 at *
          go_wp2
          go_roundw
          case rel => exact ⟨m + 1, by omega, by go_num, HS2⟩
          case measure => simp [intOf]; omega
    · have hmn : m = n0 := by omega
      subst hmn
      have w0 : IntKind.i64.wrap ((m : Int) - 1) = (m : Int) - 1 := IntWalk.i64_in _ (by omega)
      have HR0 := HR
      clear HR
      go_wp2_with fail
      go_loopw [13] (fun i wr => ∃ q : Nat, q ≤ m ∧ i = .int .i64 ((q : Int) - 1) ∧ Hid (FrS w fl rl T q wr)) (fun i _ => (intOf i + 1).toNat)
      case atStart => exact ⟨m, by omega, rfl, HR0⟩
      case round =>
        obtain ⟨q, hq, rfl, HR⟩ := hrel
        clear HR0 w0
        cases q with
        | zero =>
          obtain ⟨ta, tc, hz⟩ := HR.out.zero
          go_wp2_with fail
          refine (top_none T 0 ta tc _ hz).mono ?_
          rintro e v1 ⟨rfl, rfl⟩
          have HB := Lib.hid HR.out.below
          clear HR hz
          go_wp2_with fail
          refine (lives_any _).mono ?_
          rintro e v2 ⟨rfl, hb⟩
          have HE := Lib.hid (P.below_then HB.out hb (Nat.le_refl _))
          clear hb
          go_wp2
          go_ret
          exact ⟨rfl, HE.out⟩
        | succ q =>
          have e1 : ((q + 1 : Nat) : Int) - 1 = q := by omega
          rw [e1]
          obtain ⟨b0, o0, rfl, z0⟩ := H0.out.cells HR.out.below q (by omega)
          obtain ⟨g, cap, t1, c1, c2, f0, f1, fr⟩ := HR.out.topc
          have KP := HR.out.drew.drew.drew.pop (by omega) (Row.later' H2.out HR.out.drew.drew.drew.below) h2 (fun hn x e => by have := Row.lt H2.out e hn; have := HT.out; omega)
          have HKP := Lib.hid KP
          clear KP fr f1 HR
          have t1a : wr.drew.cell? ⟨T, 1, none⟩ = some (.slice (some ⟨g, 0, none⟩) (q + 1) cap) := t1
          have t1b : wr.drew.drew.cell? ⟨T, 1, none⟩ = some (.slice (some ⟨g, 0, none⟩) (q + 1) cap) := t1
          have f0a : wr.drew.cell? ⟨g, q * 12, none⟩ = some (.int .i64 (F.byteAt fl q)) := f0
          have f0b : wr.drew.drew.cell? ⟨g, q * 12, none⟩ = some (.int .i64 (F.byteAt fl q)) := f0
          have f0c : wr.drew.drew.drew.cell? ⟨g, q * 12, none⟩ = some (.int .i64 (F.byteAt fl q)) := f0
          have z0a : wr.drew.cell? ⟨b0, o0 + q, none⟩ = some (.int .i64 (F.byteAt fl q)) := z0
          have z0b : wr.drew.drew.cell? ⟨b0, o0 + q, none⟩ = some (.int .i64 (F.byteAt fl q)) := z0
          have z0c : wr.drew.drew.drew.cell? ⟨b0, o0 + q, none⟩ = some (.int .i64 (F.byteAt fl q)) := z0
          clear t1 f0 z0
          generalize F.byteAt fl q = fm at *
          have hqm : q < m := by omega
          go_wp2_with fail
          go_cut [130] from 116 to 130 (fun s130 wx => s130 = .bool false ∧ wx = wr.drew.drew.drew)
          case first =>
            go_region_held3 (fun W => W.cell? ⟨g, q * 12, none⟩ = some (.int .i64 fm) ∧ W.cell? ⟨b0, o0 + q, none⟩ = some (.int .i64 fm)) (go_keep)
            (first | (go_at_call 40; refine (top_some T 0 g q cap _ (by omega) t1a).mono ?_; rintro e W1 ⟨rfl, hd1⟩; subst hd1) | (go_at_call 40; refine (top_some T 0 g q cap _ (by omega) t1b).mono ?_; rintro e W1 ⟨rfl, hd2⟩; subst hd2))
            all_goals
              go_wp2_with fail
              go_meet
              exact ⟨rfl, rfl⟩
          case rest =>
           obtain ⟨rfl, rfl⟩ := hcut
           clear t1a t1b f0a f0b f0c z0a z0b z0c
           go_wp2_with fail
           refine HKP.out.mono ?_
           rintro e v4 ⟨rfl, hS4, hrt⟩
           have HS4 := Lib.hid hS4
           have HRT := Lib.hid hrt
           clear HKP hS4 hrt
           go_wp2_with fail
           go_loopw [14] (fun i wr => ∃ k : Nat, k ≤ 3 ∧ i = .int .i64 k ∧ Hid (v4 = wr)) (fun i _ => 3 - (intOf i).toNat)
           case atStart => exact ⟨0, by omega, rfl, Lib.hid rfl⟩
           case round =>
             obtain ⟨k, hk, rfl, hw⟩ := hrel
             obtain rfl := hw.out
             clear hw
             by_cases hk2 : k < 3
             · have fk := HRT.out k hk2
               by_cases hk3 : k < n2
               · obtain ⟨b2, o2, rfl, z2⟩ := H2.out.cells HS4.out.below k hk3
                 have z2' : v4.cell? ⟨b2, o2 + k, none⟩ = some (.int .u64 (tl.getD k 0)) := z2
                 clear z2
                 generalize tl.getD k 0 = rk at *
                 go_wp2
                 go_roundw
                 case rel => exact ⟨k + 1, by omega, by go_num, Lib.hid trivial⟩
                 case measure => simp [intOf]; omega
               · have hz : tl.getD k 0 = 0 := by
                   have := H2.out.len
                   simp [List.getD_eq_getElem?_getD, List.getElem?_eq_none (show tl.length ≤ k by omega)]
                 rw [hz] at fk
                 go_wp2
                 go_roundw
                 case rel => exact ⟨k + 1, by omega, by go_num, Lib.hid trivial⟩
                 case measure => simp [intOf]; omega
             · have w0 : IntKind.i64.wrap ((q : Int) - 1) = (q : Int) - 1 := IntWalk.i64_in _ (by omega)
               go_wp2
               go_roundw
               case rel => exact ⟨q, by omega, rfl, HS4⟩
               case measure => first | (simp [intOf]; done) | (simp [intOf]; omega)
theorem frames_any (a0 : Option Addr) (n0 cap0 : Nat) (fl : List Int) (a1 : Option Addr) (n1 cap1 : Nat) (rl : List Int) (a2 : Option Addr) (n2 cap2 : Nat) (tl : List Int) (w : World) (R0 : F.Row .i64 w a0 n0 cap0 fl) (R1 : F.Row .u64 w a1 n1 cap1 rl) (R2 : F.Row .u64 w a2 n2 cap2 tl) :
    Calls Try.prog 6 #[.slice a0 n0 cap0, .slice a1 n1 cap1, .slice a2 n2 cap2] w fun e w' => e = .returned (.bool true) ∧ Below w.heap.size w w' := by
  by_cases h : n0 ≤ 200 ∧ n1 ≤ 100 ∧ n2 ≤ 100
  · exact frames_main a0 n0 cap0 fl a1 n1 cap1 rl a2 n2 cap2 tl w R0 R1 R2 h.1 h.2.1 h.2.2
  have r0 := R0.room
  have r1 := R1.room
  have r2 := R2.room
  unfold maxLen at r0 r1 r2
  have HL := Lib.hid lives_any
  clear R0 R1 R2
  by_cases h0 : n0 ≤ 200
  · by_cases h1 : n1 ≤ 100
    · have h2 : ¬ n2 ≤ 100 := fun h2 => h ⟨h0, h1, h2⟩
      clear h
      go_enter Try.func6, Try.ntmps6
      go_wp2_with fail
      refine (HL.out _).mono ?_
      rintro e v2 ⟨rfl, hb⟩
      go_wp2
      go_ret
      exact ⟨rfl, hb⟩
    · clear h
      go_enter Try.func6, Try.ntmps6
      go_wp2_with fail
      refine (HL.out _).mono ?_
      rintro e v2 ⟨rfl, hb⟩
      go_wp2
      go_ret
      exact ⟨rfl, hb⟩
  · clear h
    go_enter Try.func6, Try.ntmps6
    go_wp2_with fail
    refine (HL.out _).mono ?_
    rintro e v2 ⟨rfl, hb⟩
    go_wp2
    go_ret
    exact ⟨rfl, hb⟩
end Go.Proofs.Ytogbakgmkiiboaa
