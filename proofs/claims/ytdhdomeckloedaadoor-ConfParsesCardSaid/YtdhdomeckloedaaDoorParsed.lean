/- What Parse answers of a text that is shown, and of one that isn't. -/
import Derived.Test.YtdhdomeckloedaaDoorParse
namespace Go.Proofs.YtdhdomeckloedaaDoor
open Go.ChangeShapes Go.WideShapes Go.ChangeAt Go.RowKit
set_option linter.unusedVariables false
set_option linter.unusedSimpArgs false

theorem pieces_data (l : List UInt8) : (piecesB l).map (·.data.toList) = Lib.splitK [32] 0 (min 14 (l.length + 1) - 1) l := by
  have h := Lib.splitB_data ⟨#[32]⟩ 0 (min 14 ((ByteArray.mk l.toArray).size + 1) - 1) ⟨l.toArray⟩
  have hs : (ByteArray.mk l.toArray).size = l.length := by simp [ByteArray.size]
  rw [hs] at h
  unfold piecesB
  rw [hs]
  exact h
theorem pieces_join (l : List UInt8) : Lib.join ((piecesB l).map (·.data.toList)) [32] = l := by
  rw [pieces_data]
  exact join_cut 32 _ l
theorem le_lens : ∀ (xs : List (List UInt8)) (x : List UInt8), x ∈ xs → x.length ≤ Lib.lens xs
  | y :: r, x, h => by
    have e : Lib.lens (y :: r) = y.length + Lib.lens r := by simp [Lib.lens]
    rw [e]
    rcases List.mem_cons.1 h with rfl | h
    · omega
    · have := le_lens r x h
      omega
theorem piece_len (l : List UInt8) (b : ByteArray) (h : b ∈ piecesB l) : b.size ≤ l.length := by
  have hj := pieces_join l
  have hm : b.data.toList ∈ (piecesB l).map (·.data.toList) := List.mem_map_of_mem h
  generalize (piecesB l).map (·.data.toList) = xs at *
  cases xs with
  | nil => cases hm
  | cons x r =>
    have h1 := Lib.join_length x r [32]
    have h2 := le_lens (x :: r) _ hm
    rw [hj] at h1
    have e : b.size = b.data.toList.length := by rw [Array.length_toList]; rfl
    omega
theorem of_data {xs : List ByteArray} {ws : List (List UInt8)} (h : xs.map (·.data.toList) = ws) : xs = ws.map baOf := by
  subst h
  rw [List.map_map]
  have : (baOf ∘ fun x : ByteArray => x.data.toList) = id := by
    funext b
    simp [baOf]
  rw [this, List.map_id]
theorem word_noBlank (c : Cf) : ∀ x ∈ words c, (32 : UInt8) ∉ x := by
  have hd : ∀ n, (32 : UInt8) ∉ decT n := fun n h => dec_noBlank _ _ h rfl
  have ha : (32 : UInt8) ∉ algT c.al := by
    unfold algT
    split
    · decide
    split <;> decide
  intro x hx
  simp only [words, List.mem_cons, List.not_mem_nil, or_false] at hx
  rcases hx with rfl | rfl | rfl | rfl | rfl | rfl | rfl | rfl | rfl | rfl | rfl | rfl | rfl
  · exact ha
  · decide
  · exact hd _
  · decide
  · exact hd _
  · decide
  · exact hd _
  · decide
  · exact hd _
  · decide
  · exact hd _
  · decide
  · exact hd _
theorem pieces_show (c : Cf) : piecesB (showT c) = (words c).map baOf := by
  apply of_data
  rw [pieces_data]
  have hl : 13 ≤ (showT c).length := by
    simp [showT, thS, ndS, lvS, baS, prS, scS]
    omega
  rw [show min 14 ((showT c).length + 1) - 1 = 13 by omega, ← join_words]
  exact cut_join 32 (words c) 13 (by simp [words]) (by simp [words]) (word_noBlank c)
theorem numW_decT (n : Int) (h0 : 0 ≤ n) (h1 : n < 4294967296) : numW (decT n) = n := by
  unfold decT
  rw [numW_dec _ (by omega)]
  omega
theorem conf_words (c : Cf) (h : c.Ok) : c = ⟨algoN (algT c.al), numW (decT c.th), numW (decT c.nd), numW (decT c.lv), numW (decT c.ba), numW (decT c.pr), numW (decT c.sc)⟩ := by
  have hs := sent_in c.al
  rw [numW_decT c.th (by have := h.t0; omega) (by have := h.t1; omega)]
  rw [numW_decT c.nd (by have := h.n0; omega) (by have := h.n1; omega)]
  rw [numW_decT c.lv (by have := h.l0; omega) (by have := h.l1; omega)]
  rw [numW_decT c.ba (by have := h.b0; omega) (by have := h.b1; omega)]
  rw [numW_decT c.pr (by have := h.p0; omega) (by have := h.p1; omega)]
  rw [numW_decT c.sc (by have := h.s0; omega) (by have := h.s1; omega)]
  rw [algoN_alg c.al (by have := h.a0; have := h.a1; omega)]
set_option maxHeartbeats 1000000 in
theorem parse_show (c : Cf) (h : c.Ok) (w : World) (hE : Env w) : Calls Tryd.prog 15 #[strV (showT c)] w fun e w' => e = .returned (.tuple #[c.v, .int .i64 0]) ∧ Below w.heap.size w w' := by
  have hl := show_len c h
  refine parse_13 (showT c) (by omega) w hE (baOf (algT c.al)) (baOf (thW)) (baOf (decT c.th)) (baOf (ndW)) (baOf (decT c.nd)) (baOf (lvW)) (baOf (decT c.lv)) (baOf (baW)) (baOf (decT c.ba)) (baOf (prW)) (baOf (decT c.pr)) (baOf (scW)) (baOf (decT c.sc)) (pieces_show c) (fun b hb => by have := piece_len _ _ hb; omega) c (conf_words c h) _ (fun hk => (hk h).elim) (fun _ _ W hb => ⟨rfl, hb⟩) (fun _ hne => (hne rfl).elim)
theorem thirteen {xs : List ByteArray} (h : xs.length = 13) : ∃ b0 b1 b2 b3 b4 b5 b6 b7 b8 b9 b10 b11 b12, xs = [b0, b1, b2, b3, b4, b5, b6, b7, b8, b9, b10, b11, b12] := by
  match xs, h with
  | [b0, b1, b2, b3, b4, b5, b6, b7, b8, b9, b10, b11, b12], _ => exact ⟨b0, b1, b2, b3, b4, b5, b6, b7, b8, b9, b10, b11, b12, rfl⟩
set_option maxHeartbeats 1000000 in
theorem parse_none (l : List UInt8) (hl : l.length ≤ 1000) (hn : ∀ c : Cf, c.Ok → showT c ≠ l) (w : World) (hE : Env w) : Calls Tryd.prog 15 #[strV l] w fun e w' => e = .returned (.tuple #[zc.v, .int .i64 8]) ∧ Below w.heap.size w w' := by
  by_cases h13 : (piecesB l).length = 13
  · obtain ⟨b0, b1, b2, b3, b4, b5, b6, b7, b8, b9, b10, b11, b12, hp⟩ := thirteen h13
    refine parse_13 l hl w hE b0 b1 b2 b3 b4 b5 b6 b7 b8 b9 b10 b11 b12 hp (fun b hb => by have := piece_len _ _ hb; omega) _ rfl _ (fun _ W hb => ⟨rfl, hb⟩) (fun hk he W hb => ?_) (fun _ _ W hb => ⟨rfl, hb⟩)
    exfalso
    refine hn _ hk ?_
    rw [← join_words]
    have e := congrArg (List.map fun x : ByteArray => x.data.toList) he
    rw [List.map_map, ← hp] at e
    have e2 : ((fun x : ByteArray => x.data.toList) ∘ baOf) = id := by
      funext b
      simp [baOf]
    rw [e2, List.map_id] at e
    rw [e]
    exact pieces_join l
  · exact parse_other l hl w hE h13
end Go.Proofs.YtdhdomeckloedaaDoor
