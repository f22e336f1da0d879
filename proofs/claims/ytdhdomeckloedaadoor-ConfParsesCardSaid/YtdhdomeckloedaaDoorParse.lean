/- Parse. -/
import Derived.Test.YtdhdomeckloedaaDoorTConf
import Derived.Test.YtdhdomeckloedaaDoorCut
import Derived.Test.YtdhdomeckloedaaDoorShow
import Derived.Test.YtdhdomeckloedaaDoorEq13
import Derived.Laws.CopyRow
namespace Go.Proofs.YtdhdomeckloedaaDoor
open Go.ChangeShapes Go.WideShapes Go.ChangeAt Go.RowKit
set_option linter.unusedVariables false
set_option linter.unusedSimpArgs false

/-- What Parse answers. -/
def optC (o : Option Cf) : Value := match o with | some c => .tuple #[c.v, .int .i64 0] | none => .tuple #[zc.v, .int .i64 8]
/-- A text's words, at most fourteen. -/
abbrev piecesB (l : List UInt8) : List ByteArray := Lib.splitB ⟨#[32]⟩ 0 (min 14 ((ByteArray.mk l.toArray).size + 1) - 1) ⟨l.toArray⟩
theorem alloc_setRow (W : World) (o o' : Array Value) (t : TypeId) : (W.alloc (.cells o t)).setRow W.heap.size o' = W.alloc (.cells o' t) := by
  simp only [World.setRow, World.alloc]
  congr 1
  apply Array.ext_getElem?
  intro i
  rw [Array.getElem?_modify, Array.getElem?_push, Array.getElem?_push]
  by_cases h : W.heap.size = i
  · subst h; simp
  · simp [h, Ne.symm h]
theorem copy_13 (W : World) (S cap : Nat) (b0 b1 b2 b3 b4 b5 b6 b7 b8 b9 b10 b11 b12 : ByteArray) (hc : ∀ (j : Nat) (u : Value), (#[.string b0, .string b1, .string b2, .string b3, .string b4, .string b5, .string b6, .string b7, .string b8, .string b9, .string b10, .string b11, .string b12] : Array Value)[j]? = some u → (W.alloc (.cells e13 52)).cell? ⟨S, j, none⟩ = some u) (hcap : 13 ≤ cap) : 
    ∃ k : Int, (Builtin.copy_ #[55, 55] 3 #[.slice (some ⟨W.heap.size, 0, none⟩) 13 13, .slice (some ⟨S, 0, none⟩) 13 cap]).run Tryd.prog (W.alloc (.cells e13 52)) = .ok (.int .i64 k) (W.alloc (.cells #[.string b0, .string b1, .string b2, .string b3, .string b4, .string b5, .string b6, .string b7, .string b8, .string b9, .string b10, .string b11, .string b12] 52)) := by
  have hs : (Tryd.prog.info? 9).map (·.size) = some 1 := by kernel_rfl
  refine ⟨13, (run_copy_row Tryd.prog (W.alloc (.cells e13 52)) 55 55 3 9 W.heap.size 0 13 13 ⟨S, 0, none⟩ 13 cap e13 52 (#[.string b0, .string b1, .string b2, .string b3, .string b4, .string b5, .string b6, .string b7, .string b8, .string b9, .string b10, .string b11, .string b12] : Array Value).toList Tryd.underlying55 hs (heap_alloc_new W _) rfl ?_ (by simp) ?_).trans ?_⟩
  · intro j u hu
    have := hc j u (by simpa using hu)
    have e : (⟨S, 0, none⟩ : Addr).add j = ⟨S, j, none⟩ := by rw [Addr.add_mid, Nat.zero_add]
    rw [e]
    exact this
  · intro v hv
    simp at hv
    rcases hv with rfl | rfl | rfl | rfl | rfl | rfl | rfl | rfl | rfl | rfl | rfl | rfl | rfl <;> rfl
  · rw [alloc_setRow]
    rfl

set_option maxHeartbeats 1000000 in
theorem parse_other (l : List UInt8) (hl : l.length ≤ 1000) (w : World) (hE : Env w) (h : (piecesB l).length ≠ 13) : Calls Tryd.prog 15 #[strV l] w fun e w' => e = .returned (optC none) ∧ Below w.heap.size w w' := by
  have b1 := (Below.refl w.heap.size w).alloc (Nat.le_refl _) (.cells zc.cs 23)
  obtain ⟨m, hm⟩ := (hE.below b1).ml
  have hsz : (ByteArray.mk l.toArray).size = l.length := by simp [ByteArray.size]
  have KS := sh.strings_SplitN ⟨l.toArray⟩ ⟨#[32]⟩ 14 m _ (by rw [hsz]; omega) hm (by decide) (by decide) (by decide)
  have hn : (((piecesB l).length : Int) != 13) = true := by simpa using fun e => h (by omega)
  have hN : (piecesB l).length ≤ min 14 ((ByteArray.mk l.toArray).size + 1) := by have := Lib.splitB_length_le ⟨#[32]⟩ 0 (min 14 ((ByteArray.mk l.toArray).size + 1) - 1) ⟨l.toArray⟩; show (Lib.splitB _ _ _ _).length ≤ _; omega
  unfold piecesB at hn hN
  generalize hp : Lib.splitB ⟨#[32]⟩ 0 (min 14 ((ByteArray.mk l.toArray).size + 1) - 1) ⟨l.toArray⟩ = P at *
  clear h hm hE hsz hp
  have ho : optC none = .tuple #[zc.v, .int .i64 8] := rfl
  rw [ho]
  clear ho
  go_enter Tryd.func15, Tryd.ntmps15
  go_wp2_with fail
  refine KS.mono ?_
  rintro e V ⟨rfl, rfl⟩
  have h2 := b1.alloc b1.size (.cells (Lib.cellsOf P (min 14 ((ByteArray.mk l.toArray).size + 1))) 9)
  have hwA : w.heap.size ≤ w.heap.size := Nat.le_refl _
  have hA := (Blk.new w 23 zc.cs).alloc (.cells (Lib.cellsOf P (min 14 ((ByteArray.mk l.toArray).size + 1))) 9)
  have HA := Lib.hid hA
  generalize ((w.alloc (.cells zc.cs 23)).alloc (.cells (Lib.cellsOf P (min 14 ((ByteArray.mk l.toArray).size + 1))) 9)) = U at *
  obtain ⟨a0, a1, a2, a3, a4, a5, a6⟩ := hA.conf
  have af := hA.frozen
  clear KS b1 hA
  go_wp2
  refine bodyPost_ret (v := .tuple #[zc.v, .int .i64 8]) (by simp [results, Tryd.results15, go_sem, a0, a1, a2, a3, a4, a5, a6]) rfl ⟨rfl, ?_⟩
  exact ((((((h2.setCell hwA _).setCell hwA _).setCell hwA _).setCell hwA _).setCell hwA _).setCell hwA _).setCell hwA _
/-- The configuration of thirteen words. -/
abbrev confOf (b0 b1 b2 b3 b4 b5 b6 b7 b8 b9 b10 b11 b12 : ByteArray) : Cf := ⟨algoN b0.data.toList, numW b2.data.toList, numW b4.data.toList, numW b6.data.toList, numW b8.data.toList, numW b10.data.toList, numW b12.data.toList⟩
/-- Amid Parse: the text T, the configuration's box C, the answer's box A. -/
structure ParS (t : Array Value) (d : Cf) (w : World) (A T C : Nat) (W : World) : Prop where
  txt : Blk W T 52 t
  con : Blk W C 23 d.cs
  ans : Blk W A 23 zc.cs
  bel : Below w.heap.size w W
theorem ParS.below {t : Array Value} {d : Cf} {w : World} {A T C : Nat} {W W' : World} (h : ParS t d w A T C W) (hb : Below W.heap.size W W') : ParS t d w A T C W' :=
  ⟨h.txt.below hb h.txt.lt, h.con.below hb h.con.lt, h.ans.below hb h.ans.lt, below_then h.bel hb (Nat.le_refl _)⟩
theorem ParS.drew {t : Array Value} {d : Cf} {w : World} {A T C : Nat} {W : World} (h : ParS t d w A T C W) : ParS t d w A T C W.drew := ⟨h.txt, h.con, h.ans, below_drew1 h.bel⟩

set_option maxRecDepth 100000 in
set_option maxHeartbeats 8000000 in
theorem parse_13 (l : List UInt8) (hl : l.length ≤ 1000) (w : World) (hE : Env w) (b0 b1 b2 b3 b4 b5 b6 b7 b8 b9 b10 b11 b12 : ByteArray) (h : piecesB l = [b0, b1, b2, b3, b4, b5, b6, b7, b8, b9, b10, b11, b12]) (hb13 : ∀ b ∈ piecesB l, b.size ≤ 1000) (d : Cf) (hd : d = confOf b0 b1 b2 b3 b4 b5 b6 b7 b8 b9 b10 b11 b12) (Q : Ending → World → Prop)
    (hbad : ¬ d.Ok → ∀ W, Below w.heap.size w W → Q (.returned (.tuple #[zc.v, .int .i64 8])) W) (hok : d.Ok → (words d).map baOf = [b0, b1, b2, b3, b4, b5, b6, b7, b8, b9, b10, b11, b12] → ∀ W, Below w.heap.size w W → Q (.returned (.tuple #[d.v, .int .i64 0])) W)
    (hne : d.Ok → (words d).map baOf ≠ [b0, b1, b2, b3, b4, b5, b6, b7, b8, b9, b10, b11, b12] → ∀ W, Below w.heap.size w W → Q (.returned (.tuple #[zc.v, .int .i64 8])) W) :
    Calls Tryd.prog 15 #[strV l] w Q := by
  have f1 := (Below.refl w.heap.size w).alloc (Nat.le_refl _) (.cells zc.cs 23)
  obtain ⟨m, hm⟩ := (hE.below f1).ml
  have hsz : (ByteArray.mk l.toArray).size = l.length := by simp [ByteArray.size]
  have KS := sh.strings_SplitN ⟨l.toArray⟩ ⟨#[32]⟩ 14 m _ (by rw [hsz]; omega) hm (by decide) (by decide) (by decide)
  have hN : (piecesB l).length ≤ min 14 ((ByteArray.mk l.toArray).size + 1) := by have := Lib.splitB_length_le ⟨#[32]⟩ 0 (min 14 ((ByteArray.mk l.toArray).size + 1) - 1) ⟨l.toArray⟩; show (Lib.splitB _ _ _ _).length ≤ _; omega
  have hN13 : 13 ≤ min 14 ((ByteArray.mk l.toArray).size + 1) := by rw [h] at hN; exact hN
  rw [h] at hb13
  unfold piecesB at h
  rw [h] at KS
  generalize min 14 ((ByteArray.mk l.toArray).size + 1) = N at *
  have hcl : ∀ (j : Nat) (u : Value), (#[.string b0, .string b1, .string b2, .string b3, .string b4, .string b5, .string b6, .string b7, .string b8, .string b9, .string b10, .string b11, .string b12] : Array Value)[j]? = some u → (Lib.cellsOf [b0, b1, b2, b3, b4, b5, b6, b7, b8, b9, b10, b11, b12] N)[j]? = some u := by
    intro j u hu
    have hj : j < 13 := by have := (Array.getElem?_eq_some_iff.1 hu).1; simpa using this
    have e : (Lib.cellsOf [b0, b1, b2, b3, b4, b5, b6, b7, b8, b9, b10, b11, b12] N)[j]? = (([b0, b1, b2, b3, b4, b5, b6, b7, b8, b9, b10, b11, b12] : List ByteArray).map Value.string)[j]? := by
      unfold Lib.cellsOf
      rw [List.getElem?_toArray, List.getElem?_append_left (by simpa using hj)]
    rw [e, ← hu]
    simp
  have hz : ∀ b : ByteArray, b ∈ ([b0, b1, b2, b3, b4, b5, b6, b7, b8, b9, b10, b11, b12] : List ByteArray) → b.data.toList.length ≤ 1000 := fun b hb => by
    have := hb13 b hb
    show b.data.toList.length ≤ 1000
    rw [Array.length_toList]
    exact this
  have ht : ∀ b : ByteArray, strV b.data.toList = .string b := fun b => by simp
  have KT := fun W hb => tconf_any b0.data.toList b1.data.toList b2.data.toList b3.data.toList b4.data.toList b5.data.toList b6.data.toList b7.data.toList b8.data.toList b9.data.toList b10.data.toList b11.data.toList b12.data.toList (⟨hz b2 (by simp), hz b4 (by simp), hz b6 (by simp), hz b8 (by simp), hz b10 (by simp), hz b12 (by simp)⟩) W (hE.below (w' := W) hb)
  simp only [ht] at KT
  rw [show (⟨algoN b0.data.toList, numW b2.data.toList, numW b4.data.toList, numW b6.data.toList, numW b8.data.toList, numW b10.data.toList, numW b12.data.toList⟩ : Cf) = d from hd.symm] at KT
  have HE := fun W hb => hE.below (w' := W) hb
  clear hz hd hb13 h hN hsz hm ht hE
  have hSb : Blk ((w.alloc (.cells zc.cs 23)).alloc (.cells (Lib.cellsOf [b0, b1, b2, b3, b4, b5, b6, b7, b8, b9, b10, b11, b12] N) 9)) (w.heap.size + 1) 9 (Lib.cellsOf [b0, b1, b2, b3, b4, b5, b6, b7, b8, b9, b10, b11, b12] N) := by
    have := Blk.new (w.alloc (.cells zc.cs 23)) 9 (Lib.cellsOf [b0, b1, b2, b3, b4, b5, b6, b7, b8, b9, b10, b11, b12] N)
    rwa [World.size_alloc] at this
  have hAb : Blk ((w.alloc (.cells zc.cs 23)).alloc (.cells (Lib.cellsOf [b0, b1, b2, b3, b4, b5, b6, b7, b8, b9, b10, b11, b12] N) 9)) w.heap.size 23 zc.cs := (Blk.new _ _ _).alloc _
  have f2 := f1.alloc f1.size (.cells (Lib.cellsOf [b0, b1, b2, b3, b4, b5, b6, b7, b8, b9, b10, b11, b12] N) 9)
  go_enter Tryd.func15, Tryd.ntmps15
  go_wp2_with fail
  refine KS.mono ?_
  rintro e V ⟨rfl, rfl⟩
  clear KS f1
  simp only [World.size_alloc]
  generalize ((w.alloc (.cells zc.cs 23)).alloc (.cells (Lib.cellsOf [b0, b1, b2, b3, b4, b5, b6, b7, b8, b9, b10, b11, b12] N) 9)) = V1 at *
  generalize w.heap.size + 1 = S at *
  obtain ⟨k, hk⟩ := copy_13 V1 S N b0 b1 b2 b3 b4 b5 b6 b7 b8 b9 b10 b11 b12 (fun j u hu => by rw [(hSb.alloc _).cell]; exact hcl j u hu) hN13
  clear hcl hSb
  have hT := Blk.new V1 52 #[.string b0, .string b1, .string b2, .string b3, .string b4, .string b5, .string b6, .string b7, .string b8, .string b9, .string b10, .string b11, .string b12]
  have hA2 := hAb.alloc (.cells #[.string b0, .string b1, .string b2, .string b3, .string b4, .string b5, .string b6, .string b7, .string b8, .string b9, .string b10, .string b11, .string b12] 52)
  have f3 := f2.alloc f2.size (.cells #[.string b0, .string b1, .string b2, .string b3, .string b4, .string b5, .string b6, .string b7, .string b8, .string b9, .string b10, .string b11, .string b12] 52)
  clear f2 hAb
  go_wp2_with fail
  refine (KT _ f3).mono ?_
  rintro e V2 ⟨rfl, hb⟩
  have hT2 := hT.below hb hT.lt
  have hA3 := hA2.below hb hA2.lt
  have f4 := below_then f3 hb (Nat.le_refl _)
  have S0 : ParS #[.string b0, .string b1, .string b2, .string b3, .string b4, .string b5, .string b6, .string b7, .string b8, .string b9, .string b10, .string b11, .string b12] d w w.heap.size V1.heap.size V2.heap.size (V2.alloc (.cells d.cs 23)) := ⟨hT2.alloc _, Blk.new _ _ _, hA3.alloc _, f4.alloc f4.size _⟩
  have hAC : w.heap.size ≠ V2.heap.size := Nat.ne_of_lt hA3.lt
  clear hT hA2 f3 KT hk hT2 hA3 f4 hb
  go_wp2_with fail
  generalize (V2.alloc (.cells d.cs 23)) = V3 at *
  generalize V2.heap.size = C at *
  generalize V1.heap.size = T at *
  by_cases hk : d.Ok
  · have KK := fun W => check_ok d W hk
    have KW := fun W hb => textOf_ok d W (HE W hb) hk
    have hbo := hok hk
    have hnn := hne hk
    clear hok hne hbad hk
    have hst : ((words d).map strV).toArray = (((words d).map baOf).map Value.string).toArray := by simp [List.map_map, Function.comp_def]
    rw [hst] at KW
    have heq := fun w => eq_texts ([b0, b1, b2, b3, b4, b5, b6, b7, b8, b9, b10, b11, b12] : List ByteArray) ((words d).map baOf) rfl (by simp [words]) w
    have hab : ((([b0, b1, b2, b3, b4, b5, b6, b7, b8, b9, b10, b11, b12] : List ByteArray).map Value.string).toArray : Array Value) = (#[.string b0, .string b1, .string b2, .string b3, .string b4, .string b5, .string b6, .string b7, .string b8, .string b9, .string b10, .string b11, .string b12] : Array Value) := rfl
    rw [hab] at heq
    have hcase : (((words d).map baOf = ([b0, b1, b2, b3, b4, b5, b6, b7, b8, b9, b10, b11, b12] : List ByteArray)) ∧ (List.range 13).all (fun j => ((([b0, b1, b2, b3, b4, b5, b6, b7, b8, b9, b10, b11, b12] : List ByteArray)).getD j ByteArray.empty).data.toList == (((words d).map baOf).getD j ByteArray.empty).data.toList) = true) ∨ (((words d).map baOf ≠ ([b0, b1, b2, b3, b4, b5, b6, b7, b8, b9, b10, b11, b12] : List ByteArray)) ∧ (List.range 13).all (fun j => ((([b0, b1, b2, b3, b4, b5, b6, b7, b8, b9, b10, b11, b12] : List ByteArray)).getD j ByteArray.empty).data.toList == (((words d).map baOf).getD j ByteArray.empty).data.toList) = false) := by
      by_cases h : (words d).map baOf = ([b0, b1, b2, b3, b4, b5, b6, b7, b8, b9, b10, b11, b12] : List ByteArray)
      · left
        refine ⟨h, ?_⟩
        rw [h]
        exact all_eq _
      · exact .inr ⟨h, all_ne rfl (by simp [words]) (Ne.symm h)⟩
    clear hst hab
    have hlen13 : ((words d).map baOf).length = 13 := by simp [words]
    generalize hgv : (((words d).map baOf).map Value.string).toArray = wsv at *
    clear hgv
    have cS : ∀ {W}, ParS (#[.string b0, .string b1, .string b2, .string b3, .string b4, .string b5, .string b6, .string b7, .string b8, .string b9, .string b10, .string b11, .string b12] : Array Value) d w w.heap.size T C W → (W.cell? ⟨C, 0, none⟩ = some (.int .i64 d.al) ∧ W.cell? ⟨C, 1, none⟩ = some (.int .i64 d.th) ∧ W.cell? ⟨C, 2, none⟩ = some (.int .i64 d.nd) ∧ W.cell? ⟨C, 3, none⟩ = some (.int .i64 d.lv) ∧ W.cell? ⟨C, 4, none⟩ = some (.int .i64 d.ba) ∧ W.cell? ⟨C, 5, none⟩ = some (.int .i64 d.pr) ∧ W.cell? ⟨C, 6, none⟩ = some (.int .i64 d.sc)) ∧ W.rangeAt T 0 (#[.string b0, .string b1, .string b2, .string b3, .string b4, .string b5, .string b6, .string b7, .string b8, .string b9, .string b10, .string b11, .string b12] : Array Value).toList := fun h => ⟨h.con.conf, fun j v hv => by rw [Nat.zero_add, h.txt.cell]; simpa using hv⟩
    have S1 := S0.drew
    clear S0
    refine wp_region_held_drew (S := fun W => (W.cell? ⟨C, 0, none⟩ = some (.int .i64 d.al) ∧ W.cell? ⟨C, 1, none⟩ = some (.int .i64 d.th) ∧ W.cell? ⟨C, 2, none⟩ = some (.int .i64 d.nd) ∧ W.cell? ⟨C, 3, none⟩ = some (.int .i64 d.lv) ∧ W.cell? ⟨C, 4, none⟩ = some (.int .i64 d.ba) ∧ W.cell? ⟨C, 5, none⟩ = some (.int .i64 d.pr) ∧ W.cell? ⟨C, 6, none⟩ = some (.int .i64 d.sc)) ∧ W.rangeAt T 0 (#[.string b0, .string b1, .string b2, .string b3, .string b4, .string b5, .string b6, .string b7, .string b8, .string b9, .string b10, .string b11, .string b12] : Array Value).toList) (by kernel_rfl) ?_ (fun hHeld => ?_)
    focus exact cS S1
    refine wpAnyH_take (i := 0) (oi := _) (v := ?_) rfl (by kernel_rfl) (by kernel_rfl) (by kernel_rfl) (fun _ _ _ h => h) (Or.inl ⟨by rfl, ?_⟩) (by assumption) ?_
    rotate_left
    focus (intro w hSw; (try dsimp only at hSw); obtain ⟨hSw, hSw2⟩ := hSw; go_simp; (try with_reducible rfl))
    simp only [List.getElem_toArray, List.getElem_cons_succ, List.getElem_cons_zero, Act.put, List.setIfInBounds_toArray, List.set_cons_zero, List.set_cons_succ]
    refine wpAnyH_ready (rs := [1]) (by kernel_rfl) (by simp) ?_
    refine AllReadyH.cons (o := _) rfl (fun K hK => ?_) AllReadyH.nil
    go_simp
    refine (KK _).mono ?_
    rintro e V5 ⟨rfl, hb⟩
    have S2 := S1.below hb
    clear hb S1
    (try go_wp2_with fail)
    refine hK.out _ _ ?_ (fun hHeld => ?_)
    focus exact cS S2
    clear hK K
    (try simp only [List.getElem_toArray, List.getElem_cons_succ, List.getElem_cons_zero, Act.put, List.setIfInBounds_toArray, List.set_cons_zero, List.set_cons_succ])
    refine wpAnyH_take (i := 2) (oi := _) (v := ?_) rfl (by kernel_rfl) (by kernel_rfl) (by kernel_rfl) (fun _ _ _ h => h) (Or.inl ⟨by rfl, ?_⟩) (by assumption) ?_
    rotate_left
    focus (intro w hSw; (try dsimp only at hSw); obtain ⟨hSw, hSw2⟩ := hSw; go_simp; (try with_reducible rfl))
    simp only [List.getElem_toArray, List.getElem_cons_succ, List.getElem_cons_zero, Act.put, List.setIfInBounds_toArray, List.set_cons_zero, List.set_cons_succ]
    refine wpAnyH_take (i := 3) (oi := _) (v := ?_) rfl (by kernel_rfl) (by kernel_rfl) (by kernel_rfl) (fun _ _ _ h => h) (Or.inl ⟨by rfl, ?_⟩) (by assumption) ?_
    rotate_left
    focus (intro w hSw; (try dsimp only at hSw); obtain ⟨hSw, hSw2⟩ := hSw; go_simp; (try with_reducible rfl))
    simp only [List.getElem_toArray, List.getElem_cons_succ, List.getElem_cons_zero, Act.put, List.setIfInBounds_toArray, List.set_cons_zero, List.set_cons_succ]
    refine wpAnyH_take (i := 4) (oi := _) (v := .agg (#[.string b0, .string b1, .string b2, .string b3, .string b4, .string b5, .string b6, .string b7, .string b8, .string b9, .string b10, .string b11, .string b12] : Array Value)) rfl (by kernel_rfl) (by kernel_rfl) (by kernel_rfl) (fun _ _ _ h => h) (yieldsIf_load_mid (by rfl) 52 _ rfl T 0 rfl (#[.string b0, .string b1, .string b2, .string b3, .string b4, .string b5, .string b6, .string b7, .string b8, .string b9, .string b10, .string b11, .string b12] : Array Value).toList _ (fun w h => h.2) Tryd.underlying52 rfl (by kernel_rfl)) (by assumption) ?_
    simp only [List.getElem_toArray, List.getElem_cons_succ, List.getElem_cons_zero, Act.put, List.setIfInBounds_toArray, List.set_cons_zero, List.set_cons_succ]
    refine wpAnyH_take (i := 5) (oi := _) (v := ?_) rfl (by kernel_rfl) (by kernel_rfl) (by kernel_rfl) (fun _ _ _ h => h) (Or.inl ⟨by rfl, ?_⟩) (by assumption) ?_
    rotate_left
    focus (intro w hSw; (try dsimp only at hSw); obtain ⟨hSw, hSw2⟩ := hSw; go_simp; (try with_reducible rfl))
    simp only [List.getElem_toArray, List.getElem_cons_succ, List.getElem_cons_zero, Act.put, List.setIfInBounds_toArray, List.set_cons_zero, List.set_cons_succ]
    refine wpAnyH_ready (rs := [6]) (by kernel_rfl) (by simp) ?_
    refine AllReadyH.cons (o := _) rfl (fun K hK => ?_) AllReadyH.nil
    go_simp
    refine (KW _ S2.bel).mono ?_
    rintro e V5 ⟨rfl, hb⟩
    have S3 := S2.below hb
    clear hb S2
    (try go_wp2_with fail)
    refine hK.out _ _ ?_ (fun hHeld => ?_)
    focus exact cS S3
    clear hK K
    (try simp only [List.getElem_toArray, List.getElem_cons_succ, List.getElem_cons_zero, Act.put, List.setIfInBounds_toArray, List.set_cons_zero, List.set_cons_succ])
    rcases hcase with ⟨hw, hv⟩ | ⟨hw, hv⟩
    focus
      rw [hv] at heq
      have HQ := hbo hw
      clear hbo hnn hw hv
      refine wpAnyH_take (i := 7) (oi := _) (v := ?_) rfl (by kernel_rfl) (by kernel_rfl) (by kernel_rfl) (fun _ _ _ h => h) (Or.inl ⟨by rfl, ?_⟩) (by assumption) ?_
      rotate_left
      focus (intro w hSw; (try dsimp only at hSw); obtain ⟨hSw, hSw2⟩ := hSw; go_simp; (try with_reducible rfl))
      simp only [List.getElem_toArray, List.getElem_cons_succ, List.getElem_cons_zero, Act.put, List.setIfInBounds_toArray, List.set_cons_zero, List.set_cons_succ]
      refine wpAnyH_take (i := 8) (oi := _) (v := ?_) rfl (by kernel_rfl) (by kernel_rfl) (by kernel_rfl) (fun _ _ _ h => h) (Or.inl ⟨by rfl, ?_⟩) (by assumption) ?_
      rotate_left
      focus (intro w hSw; (try dsimp only at hSw); obtain ⟨hSw, hSw2⟩ := hSw; go_simp; (try with_reducible rfl))
      simp only [List.getElem_toArray, List.getElem_cons_succ, List.getElem_cons_zero, Act.put, List.setIfInBounds_toArray, List.set_cons_zero, List.set_cons_succ]
      refine wpAnyH_done (by kernel_rfl) ?_ _
      obtain ⟨a0, a1, a2, a3, a4, a5, a6⟩ := S3.ans.conf
      have af := S3.ans.frozen
      obtain ⟨z0, z1, z2, z3, z4, z5, z6⟩ := S3.con.conf
      have hwA : w.heap.size ≤ w.heap.size := Nat.le_refl _
      have f9 := S3.bel
      have HF := Lib.hid HQ
      clear S3 HQ
      go_wp2
      refine bodyPost_ret (v := .tuple #[d.v, .int .i64 0]) (by simp [results, Tryd.results15, go_sem, a0, a1, a2, a3, a4, a5, a6]) rfl (HF.out _ ?_)
      exact ((((((f9.setCell hwA _).setCell hwA _).setCell hwA _).setCell hwA _).setCell hwA _).setCell hwA _).setCell hwA _
    focus
      rw [hv] at heq
      have HQ := hnn hw
      clear hbo hnn hw hv
      refine wpAnyH_take (i := 7) (oi := _) (v := ?_) rfl (by kernel_rfl) (by kernel_rfl) (by kernel_rfl) (fun _ _ _ h => h) (Or.inl ⟨by rfl, ?_⟩) (by assumption) ?_
      rotate_left
      focus (intro w hSw; (try dsimp only at hSw); obtain ⟨hSw, hSw2⟩ := hSw; go_simp; (try with_reducible rfl))
      simp only [List.getElem_toArray, List.getElem_cons_succ, List.getElem_cons_zero, Act.put, List.setIfInBounds_toArray, List.set_cons_zero, List.set_cons_succ]
      refine wpAnyH_take (i := 8) (oi := _) (v := ?_) rfl (by kernel_rfl) (by kernel_rfl) (by kernel_rfl) (fun _ _ _ h => h) (Or.inl ⟨by rfl, ?_⟩) (by assumption) ?_
      rotate_left
      focus (intro w hSw; (try dsimp only at hSw); obtain ⟨hSw, hSw2⟩ := hSw; go_simp; (try with_reducible rfl))
      simp only [List.getElem_toArray, List.getElem_cons_succ, List.getElem_cons_zero, Act.put, List.setIfInBounds_toArray, List.set_cons_zero, List.set_cons_succ]
      refine wpAnyH_done (by kernel_rfl) ?_ _
      obtain ⟨a0, a1, a2, a3, a4, a5, a6⟩ := S3.ans.conf
      have af := S3.ans.frozen
      obtain ⟨z0, z1, z2, z3, z4, z5, z6⟩ := S3.con.conf
      have hwA : w.heap.size ≤ w.heap.size := Nat.le_refl _
      have f9 := S3.bel
      have HF := Lib.hid HQ
      clear S3 HQ
      go_wp2
      refine bodyPost_ret (v := .tuple #[zc.v, .int .i64 8]) (by simp [results, Tryd.results15, go_sem, a0, a1, a2, a3, a4, a5, a6]) rfl (HF.out _ ?_)
      exact ((((((f9.setCell hwA _).setCell hwA _).setCell hwA _).setCell hwA _).setCell hwA _).setCell hwA _).setCell hwA _
  · have KK := fun W => check_bad d W hk
    have HQ := hbad hk
    clear hok hne hbad hk
    have cS : ∀ {W}, ParS (#[.string b0, .string b1, .string b2, .string b3, .string b4, .string b5, .string b6, .string b7, .string b8, .string b9, .string b10, .string b11, .string b12] : Array Value) d w w.heap.size T C W → (W.cell? ⟨C, 0, none⟩ = some (.int .i64 d.al) ∧ W.cell? ⟨C, 1, none⟩ = some (.int .i64 d.th) ∧ W.cell? ⟨C, 2, none⟩ = some (.int .i64 d.nd) ∧ W.cell? ⟨C, 3, none⟩ = some (.int .i64 d.lv) ∧ W.cell? ⟨C, 4, none⟩ = some (.int .i64 d.ba) ∧ W.cell? ⟨C, 5, none⟩ = some (.int .i64 d.pr) ∧ W.cell? ⟨C, 6, none⟩ = some (.int .i64 d.sc)) ∧ W.rangeAt T 0 (#[.string b0, .string b1, .string b2, .string b3, .string b4, .string b5, .string b6, .string b7, .string b8, .string b9, .string b10, .string b11, .string b12] : Array Value).toList := fun h => ⟨h.con.conf, fun j v hv => by rw [Nat.zero_add, h.txt.cell]; simpa using hv⟩
    have S1 := S0.drew
    clear S0
    refine wp_region_held_drew (S := fun W => (W.cell? ⟨C, 0, none⟩ = some (.int .i64 d.al) ∧ W.cell? ⟨C, 1, none⟩ = some (.int .i64 d.th) ∧ W.cell? ⟨C, 2, none⟩ = some (.int .i64 d.nd) ∧ W.cell? ⟨C, 3, none⟩ = some (.int .i64 d.lv) ∧ W.cell? ⟨C, 4, none⟩ = some (.int .i64 d.ba) ∧ W.cell? ⟨C, 5, none⟩ = some (.int .i64 d.pr) ∧ W.cell? ⟨C, 6, none⟩ = some (.int .i64 d.sc)) ∧ W.rangeAt T 0 (#[.string b0, .string b1, .string b2, .string b3, .string b4, .string b5, .string b6, .string b7, .string b8, .string b9, .string b10, .string b11, .string b12] : Array Value).toList) (by kernel_rfl) ?_ (fun hHeld => ?_)
    focus exact cS S1
    refine wpAnyH_take (i := 0) (oi := _) (v := ?_) rfl (by kernel_rfl) (by kernel_rfl) (by kernel_rfl) (fun _ _ _ h => h) (Or.inl ⟨by rfl, ?_⟩) (by assumption) ?_
    rotate_left
    focus (intro w hSw; (try dsimp only at hSw); obtain ⟨hSw, hSw2⟩ := hSw; go_simp; (try with_reducible rfl))
    simp only [List.getElem_toArray, List.getElem_cons_succ, List.getElem_cons_zero, Act.put, List.setIfInBounds_toArray, List.set_cons_zero, List.set_cons_succ]
    refine wpAnyH_ready (rs := [1]) (by kernel_rfl) (by simp) ?_
    refine AllReadyH.cons (o := _) rfl (fun K hK => ?_) AllReadyH.nil
    go_simp
    refine (KK _).mono ?_
    rintro e V5 ⟨rfl, hb⟩
    have S3 := S1.below hb
    clear hb S1
    (try go_wp2_with fail)
    refine hK.out _ _ ?_ (fun hHeld => ?_)
    focus exact cS S3
    clear hK K
    (try simp only [List.getElem_toArray, List.getElem_cons_succ, List.getElem_cons_zero, Act.put, List.setIfInBounds_toArray, List.set_cons_zero, List.set_cons_succ])
    refine wpAnyH_take (i := 2) (oi := _) (v := ?_) rfl (by kernel_rfl) (by kernel_rfl) (by kernel_rfl) (fun _ _ _ h => h) (Or.inl ⟨by rfl, ?_⟩) (by assumption) ?_
    rotate_left
    focus (intro w hSw; (try dsimp only at hSw); obtain ⟨hSw, hSw2⟩ := hSw; go_simp; (try with_reducible rfl))
    simp only [List.getElem_toArray, List.getElem_cons_succ, List.getElem_cons_zero, Act.put, List.setIfInBounds_toArray, List.set_cons_zero, List.set_cons_succ]
    refine wpAnyH_take (i := 3) (oi := _) (v := ?_) rfl (by kernel_rfl) (by kernel_rfl) (by kernel_rfl) (fun _ _ _ h => h) (Or.inl ⟨by rfl, ?_⟩) (by assumption) ?_
    rotate_left
    focus (intro w hSw; (try dsimp only at hSw); obtain ⟨hSw, hSw2⟩ := hSw; go_simp; (try with_reducible rfl))
    simp only [List.getElem_toArray, List.getElem_cons_succ, List.getElem_cons_zero, Act.put, List.setIfInBounds_toArray, List.set_cons_zero, List.set_cons_succ]
    refine wpAnyH_take (i := 4) (oi := _) (v := undef) rfl (by kernel_rfl) (by kernel_rfl) (by kernel_rfl) (fun _ _ _ h => h) (Or.inr ⟨by rfl, rfl⟩) (by assumption) ?_
    simp only [List.getElem_toArray, List.getElem_cons_succ, List.getElem_cons_zero, Act.put, List.setIfInBounds_toArray, List.set_cons_zero, List.set_cons_succ]
    refine wpAnyH_take (i := 5) (oi := _) (v := undef) rfl (by kernel_rfl) (by kernel_rfl) (by kernel_rfl) (fun _ _ _ h => h) (Or.inr ⟨by rfl, rfl⟩) (by assumption) ?_
    simp only [List.getElem_toArray, List.getElem_cons_succ, List.getElem_cons_zero, Act.put, List.setIfInBounds_toArray, List.set_cons_zero, List.set_cons_succ]
    refine wpAnyH_take (i := 6) (oi := _) (v := undef) rfl (by kernel_rfl) (by kernel_rfl) (by kernel_rfl) (fun _ _ _ h => h) (Or.inr ⟨by rfl, rfl⟩) (by assumption) ?_
    simp only [List.getElem_toArray, List.getElem_cons_succ, List.getElem_cons_zero, Act.put, List.setIfInBounds_toArray, List.set_cons_zero, List.set_cons_succ]
    refine wpAnyH_take (i := 7) (oi := _) (v := undef) rfl (by kernel_rfl) (by kernel_rfl) (by kernel_rfl) (fun _ _ _ h => h) (Or.inr ⟨by rfl, rfl⟩) (by assumption) ?_
    simp only [List.getElem_toArray, List.getElem_cons_succ, List.getElem_cons_zero, Act.put, List.setIfInBounds_toArray, List.set_cons_zero, List.set_cons_succ]
    refine wpAnyH_take (i := 8) (oi := _) (v := ?_) rfl (by kernel_rfl) (by kernel_rfl) (by kernel_rfl) (fun _ _ _ h => h) (Or.inl ⟨by rfl, ?_⟩) (by assumption) ?_
    rotate_left
    focus (intro w hSw; (try dsimp only at hSw); obtain ⟨hSw, hSw2⟩ := hSw; go_simp; (try with_reducible rfl))
    simp only [List.getElem_toArray, List.getElem_cons_succ, List.getElem_cons_zero, Act.put, List.setIfInBounds_toArray, List.set_cons_zero, List.set_cons_succ]
    refine wpAnyH_done (by kernel_rfl) ?_ _
    obtain ⟨a0, a1, a2, a3, a4, a5, a6⟩ := S3.ans.conf
    have af := S3.ans.frozen
    obtain ⟨z0, z1, z2, z3, z4, z5, z6⟩ := S3.con.conf
    have hwA : w.heap.size ≤ w.heap.size := Nat.le_refl _
    have f9 := S3.bel
    have HF := Lib.hid HQ
    clear S3 HQ
    go_wp2
    refine bodyPost_ret (v := .tuple #[zc.v, .int .i64 8]) (by simp [results, Tryd.results15, go_sem, a0, a1, a2, a3, a4, a5, a6]) rfl (HF.out _ ?_)
    exact ((((((f9.setCell hwA _).setCell hwA _).setCell hwA _).setCell hwA _).setCell hwA _).setCell hwA _).setCell hwA _
end Go.Proofs.YtdhdomeckloedaaDoor
