/- What the six steps do: done, out of range, of no memory. -/
import Derived.Test.YtnedifcjenlcjaaMCount
import Derived.Deep.QuietTactic
import Derived.BigQuiet
namespace Go.Proofs.Ytnedifcjenlcjaa
open Go.ChangeShapes Go.WideShapes Go.ChangeAt Go.RowKit
set_option linter.unusedVariables false
set_option maxRecDepth 20000


/-- It is small enough to be counted. -/
def MS.fine (s : MS) : Prop := 0 ≤ s.st ∧ s.st ≤ 1000000000 ∧ s.log.length ≤ 1000000 ∧ s.ws.length ≤ 4096

theorem ask1 (B : Nat) (s : MS) (O : Nat → Prop) (a r : Int) (A : Nat) (w : World) (h : MemAt B s O w) (hf : s.fine) (hA : w.cell? ⟨A, 0, none⟩ = some (.int .i64 a)) (hr : askR s.ws.length [a] = r) :
    Calls Try.prog 77 #[at0 B, .slice (some ⟨A, 0, none⟩) 1 1] w fun e w' => e = .returned (.int .i64 r) ∧ w = w' := by
  obtain ⟨G, v, rfl, hb, hg, hr'⟩ := h
  have c := hb.cell 0
  simp at c
  subst hr
  refine ask_any B s.ws.length _ A _ [a] w (by have := hf.2.2.2; omega) (by simp) c fun i x hx => ?_
  cases i with
  | zero => simp at hx; subst hx; exact hA
  | succ i => simp at hx
theorem ask2 (B : Nat) (s : MS) (O : Nat → Prop) (a b r : Int) (A : Nat) (w : World) (h : MemAt B s O w) (hf : s.fine) (hA : w.cell? ⟨A, 0, none⟩ = some (.int .i64 a)) (hA1 : w.cell? ⟨A, 1, none⟩ = some (.int .i64 b)) (hr : askR s.ws.length [a, b] = r) :
    Calls Try.prog 77 #[at0 B, .slice (some ⟨A, 0, none⟩) 2 2] w fun e w' => e = .returned (.int .i64 r) ∧ w = w' := by
  obtain ⟨G, v, rfl, hb, hg, hr'⟩ := h
  have c := hb.cell 0
  simp at c
  subst hr
  refine ask_any B s.ws.length _ A _ [a, b] w (by have := hf.2.2.2; omega) (by simp) c fun i x hx => ?_
  match i, hx with
  | 0, hx => simp at hx; subst hx; exact hA
  | 1, hx => simp at hx; subst hx; exact hA1
  | i + 2, hx => simp at hx
theorem inB_nat {n a : Nat} (h : a < n) : inB n a = true := by simp [inB, h]
theorem ok1 {n a : Nat} (h : a < n) : askR n [(a : Int)] = 0 := askR_ok (by simpa using inB_nat h)
theorem ok2 {n a b : Nat} (h : a < n) (h' : b < n) : askR n [(a : Int), (b : Int)] = 0 := askR_ok (by simpa using ⟨inB_nat h, inB_nat h'⟩)

/-- The word at a. -/
def wordAt (ws : List Int) (a : Nat) : Int := ws.getD a 0
theorem cell_word {W : World} {G a : Nat} {ws : List Int} (h : Blk W G 48 (encU ws).toArray) (ha : a < ws.length) : W.cell? ⟨G, a, none⟩ = some (.int .u64 (wordAt ws a)) := by
  rw [h.cell a]
  simp [encU, wordAt, List.getElem?_eq_getElem ha]
theorem stored {B G : Nat} {v : Value} {ws : List Int} {st : Int} {wa : Bool} {log : List Acc} {W : World} (hb : Blk W B 79 #[.slice (some ⟨G, 0, none⟩) ws.length ws.length, .int .i64 st, .bool wa, v])
    (hg : Blk W G 48 (encU ws).toArray) (hr : W.ownsRow 0 126 4 v log.length (encL log)) (a : Nat) (x : Int) :
    MemAt B ⟨ws.set a x, st, wa, log⟩ (fun k => k = B ∨ k = G ∨ v.ownBlock = some k) (W.setCell ⟨G, a, none⟩ (.int .u64 x)) := by
  refine ⟨G, v, rfl, ?_, ?_, ownsRow_setCell_other hr (hg.not_row hr (by decide)) _⟩
  · simpa using hb.far (p := ⟨G, a, none⟩) (hb.ne hg (by decide)) (.int .u64 x)
  · have := hg.set a (.int .u64 x)
    simpa [encU, List.map_set] using this

theorem load_ok (B : Nat) (s : MS) (O : Nat → Prop) (a : Nat) (w : World) (h : MemAt B s O w) (hf : s.fine) (ha : a < s.ws.length) :
    Calls Try.prog 72 #[at0 B, .int .i64 a] w (Does B (.tuple #[.int .u64 (wordAt s.ws a), .int .i64 0]) (s.counted (0, a, -1, false)) O w) := by
  go_enter Try.func72, Try.ntmps72
  go_wp2_with fail
  have h1 := h.alloc (.cells #[.int .i64 a] 3)
  refine (ask1 B s O a 0 w.heap.size _ h1 hf (by simp) (ok1 ha)).mono ?_
  rintro e w' ⟨rfl, rfl⟩
  have k1 := (Keeps.refl O w).alloc (.cells #[.int .i64 a] 3)
  go_wp2_with fail
  refine (count_any B s O 0 a (-1) false _ h1 hf.1 hf.2.1 hf.2.2.1).mono ?_
  rintro e w' ⟨rfl, hT⟩
  have hT2 := Turn.from k1 (Later.refl _ _) hT
  obtain ⟨O', hk, hl, G, v, rfl, hb, hg, hr⟩ := hT
  have c0 := hb.cell 0
  simp only [MS.counted] at hg hb c0
  have c1 := cell_word hg ha
  simp at c0
  have ha' : (a : Int) < s.ws.length := by omega
  go_wp2
  go_ret2
  exact ⟨rfl, hT2⟩
theorem load_bad (B : Nat) (s : MS) (O : Nat → Prop) (a : Int) (w : World) (h : MemAt B s O w) (hf : s.fine) (hr : askR s.ws.length [a] = 2) :
    Calls Try.prog 72 #[at0 B, .int .i64 a] w (Does B (.tuple #[.int .u64 0, .int .i64 2]) s O w) := by
  go_enter Try.func72, Try.ntmps72
  go_wp2_with fail
  have h1 := h.alloc (.cells #[.int .i64 a] 3)
  refine (ask1 B s O a 2 w.heap.size _ h1 hf (by simp) hr).mono ?_
  rintro e w' ⟨rfl, rfl⟩
  have hT := Turn.from ((Keeps.refl O w).alloc (.cells #[.int .i64 a] 3)) (Later.refl _ _) (Turn.refl h1)
  clear hr
  go_wp2
  go_ret2
  exact ⟨rfl, hT⟩
theorem load_nil (a : Int) (w : World) : Calls Try.prog 72 #[.pointer none, .int .i64 a] w fun e w' => e = .returned (.tuple #[.int .u64 0, .int .i64 1]) ∧ Below w.heap.size w w' := by
  go_enter Try.func72, Try.ntmps72
  go_wp2_with (go_at_call 77; refine (ask_nil _ _).mono ?_; rintro e w' ⟨rfl, rfl⟩)
  go_ret2
  exact ⟨rfl, (Below.refl _ _).alloc (Nat.le_refl _) _⟩
theorem store_bad (B : Nat) (s : MS) (O : Nat → Prop) (a x : Int) (w : World) (h : MemAt B s O w) (hf : s.fine) (hr : askR s.ws.length [a] = 2) :
    Calls Try.prog 65 #[at0 B, .int .i64 a, .int .u64 x] w (Does B (.int .i64 2) s O w) := by
  go_enter Try.func65, Try.ntmps65
  go_wp2_with fail
  have h1 := h.alloc (.cells #[.int .i64 a] 3)
  refine (ask1 B s O a 2 w.heap.size _ h1 hf (by simp) hr).mono ?_
  rintro e w' ⟨rfl, rfl⟩
  have hT := Turn.from ((Keeps.refl O w).alloc (.cells #[.int .i64 a] 3)) (Later.refl _ _) (Turn.refl h1)
  clear hr
  go_wp2
  go_ret
  exact ⟨rfl, hT⟩
theorem store_nil (a x : Int) (w : World) : Calls Try.prog 65 #[.pointer none, .int .i64 a, .int .u64 x] w fun e w' => e = .returned (.int .i64 1) ∧ Below w.heap.size w w' := by
  go_enter Try.func65, Try.ntmps65
  go_wp2_with (go_at_call 77; refine (ask_nil _ _).mono ?_; rintro e w' ⟨rfl, rfl⟩)
  go_ret
  exact ⟨rfl, (Below.refl _ _).alloc (Nat.le_refl _) _⟩
theorem cas_bad (B : Nat) (s : MS) (O : Nat → Prop) (a o x : Int) (w : World) (h : MemAt B s O w) (hf : s.fine) (hr : askR s.ws.length [a] = 2) :
    Calls Try.prog 84 #[at0 B, .int .i64 a, .int .u64 o, .int .u64 x] w (Does B (.tuple #[.bool false, .int .i64 2]) s O w) := by
  go_enter Try.func84, Try.ntmps84
  go_wp2_with fail
  have h1 := h.alloc (.cells #[.int .i64 a] 3)
  refine (ask1 B s O a 2 w.heap.size _ h1 hf (by simp) hr).mono ?_
  rintro e w' ⟨rfl, rfl⟩
  have hT := Turn.from ((Keeps.refl O w).alloc (.cells #[.int .i64 a] 3)) (Later.refl _ _) (Turn.refl h1)
  clear hr
  go_wp2
  go_ret2
  exact ⟨rfl, hT⟩
theorem cas_nil (a o x : Int) (w : World) : Calls Try.prog 84 #[.pointer none, .int .i64 a, .int .u64 o, .int .u64 x] w fun e w' => e = .returned (.tuple #[.bool false, .int .i64 1]) ∧ Below w.heap.size w w' := by
  go_enter Try.func84, Try.ntmps84
  go_wp2_with (go_at_call 77; refine (ask_nil _ _).mono ?_; rintro e w' ⟨rfl, rfl⟩)
  go_ret2
  exact ⟨rfl, (Below.refl _ _).alloc (Nat.le_refl _) _⟩
end Go.Proofs.Ytnedifcjenlcjaa
