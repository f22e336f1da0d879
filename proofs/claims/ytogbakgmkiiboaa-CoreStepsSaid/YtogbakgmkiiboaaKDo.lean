/- What do does: a step of any kind of a machine. Printed by core_do.py. -/
import Derived.Test.YtogbakgmkiiboaaKNew
import Derived.Test.YtogbakgmkiiboaaMRef
namespace Go.Proofs.Ytogbakgmkiiboaa
open Go.ChangeShapes Go.WideShapes Go.ChangeAt Go.RowKit
set_option linter.unusedVariables false
set_option maxRecDepth 20000

/-- The addresses that a step touches. -/
def addrs (k a b : Int) : List Int := if 3 < k then [a, b] else [a]
/-- What do tells of a step. -/
def okD (ms : MS) (k a b o x p q : Int) : Bool := if k = 1 ∨ k = 3 then true else okR ms k a b o x p q
theorem right_one {k a b b' : Int} {n : Nat} (h : k < 4) : rightB k a b n = rightB k a b' n := by unfold rightB; simp [h]
theorem val_two (ms : MS) (k a b o x p q : Int) (h0 : k ≠ 0) (h3 : k ≠ 3) : valR ms k a b o x p q = 0 := by
  unfold valR act
  split
  · by_cases h1 : k = 1
    · rw [if_pos h1]
    rw [if_neg h1]
    by_cases h2 : k = 2
    · rw [if_pos h2]; split <;> rfl
    rw [if_neg h2]
    split <;> rfl
  · rfl
theorem pad0 (ms : MS) (a b o x p q : Int) : msR ms 0 a b o x p q = msR ms 0 a 0 0 0 0 0 ∧ valR ms 0 a b o x p q = valR ms 0 a 0 0 0 0 0 ∧ okR ms 0 a b o x p q = okR ms 0 a 0 0 0 0 0 ∧ rightB 0 a b ms.ws.length = rightB 0 a 0 ms.ws.length := by
  have hr : rightB 0 a b ms.ws.length = rightB 0 a 0 ms.ws.length := by exact right_one (by decide)
  unfold msR valR okR entry
  rw [hr]
  simp [act]
theorem pad1 (ms : MS) (a b o x p q : Int) : msR ms 1 a b o x p q = msR ms 1 a 0 0 x 0 0 ∧ valR ms 1 a b o x p q = valR ms 1 a 0 0 x 0 0 ∧ okR ms 1 a b o x p q = okR ms 1 a 0 0 x 0 0 ∧ rightB 1 a b ms.ws.length = rightB 1 a 0 ms.ws.length := by
  have hr : rightB 1 a b ms.ws.length = rightB 1 a 0 ms.ws.length := by exact right_one (by decide)
  unfold msR valR okR entry
  rw [hr]
  simp [act]
theorem pad2 (ms : MS) (a b o x p q : Int) : msR ms 2 a b o x p q = msR ms 2 a 0 o x 0 0 ∧ valR ms 2 a b o x p q = valR ms 2 a 0 o x 0 0 ∧ okR ms 2 a b o x p q = okR ms 2 a 0 o x 0 0 ∧ rightB 2 a b ms.ws.length = rightB 2 a 0 ms.ws.length := by
  have hr : rightB 2 a b ms.ws.length = rightB 2 a 0 ms.ws.length := by exact right_one (by decide)
  unfold msR valR okR entry
  rw [hr]
  simp [act]
theorem pad3 (ms : MS) (a b o x p q : Int) : msR ms 3 a b o x p q = msR ms 3 a 0 0 x 0 0 ∧ valR ms 3 a b o x p q = valR ms 3 a 0 0 x 0 0 ∧ okR ms 3 a b o x p q = okR ms 3 a 0 0 x 0 0 ∧ rightB 3 a b ms.ws.length = rightB 3 a 0 ms.ws.length := by
  have hr : rightB 3 a b ms.ws.length = rightB 3 a 0 ms.ws.length := by exact right_one (by decide)
  unfold msR valR okR entry
  rw [hr]
  simp [act]
theorem pad5 (ms : MS) (a b o x p q : Int) : msR ms 5 a b o x p q = msR ms 5 a b o x p 0 ∧ valR ms 5 a b o x p q = valR ms 5 a b o x p 0 ∧ okR ms 5 a b o x p q = okR ms 5 a b o x p 0 ∧ rightB 5 a b ms.ws.length = rightB 5 a b ms.ws.length := by
  have hr : rightB 5 a b ms.ws.length = rightB 5 a b ms.ws.length := by rfl
  unfold msR valR okR entry
  rw [hr]
  simp [act]

set_option maxHeartbeats 8000000 in
theorem do_any (B : Nat) (c : P.Cf) (Fb T : Nat) (ms : MS) (gs : Gh) (bad : Bool) (O : Nat → Prop) (k a b o x p q : Int) (w : World) (hc : c.Ok) (h : MachAt B c Fb T ms gs bad O w) (hf : ms.fine) (ha : P.I64 a) (hb : P.I64 b) (k0 : 0 ≤ k) (k5 : k ≤ 5) :
    Calls Try.prog 26 #[at0 B, opV k a b o x p q] w (MDoes B c Fb T (.tuple #[.int .u64 (valR ms k a b o x p q), .bool (okD ms k a b o x p q)]) (msR ms k a b o x p q) (touchM c (addrs k a b) gs) (bad || !rightB k a b ms.ws.length) O w) := by
  have hA := h.alloc (.cells #[.int .i64 k, .int .i64 a, .int .i64 b, .int .u64 o, .int .u64 x, .int .u64 p, .int .u64 q] 63)
  have kA := (Keeps.refl O w).alloc (.cells #[.int .i64 k, .int .i64 a, .int .i64 b, .int .u64 o, .int .u64 x, .int .u64 p, .int .u64 q] 63)
  have HF : Hid (∀ {ms' gs' bad'} {w' : World}, MTurn B c Fb T ms' gs' bad' O (w.alloc (.cells #[.int .i64 k, .int .i64 a, .int .i64 b, .int .u64 o, .int .u64 x, .int .u64 p, .int .u64 q] 63)) w' → MTurn B c Fb T ms' gs' bad' O w w') := Lib.hid fun h => MTurn.from kA (Later.refl _ _) h
  clear h kA
  have hk : k = 0 ∨ k = 1 ∨ k = 2 ∨ k = 3 ∨ k = 4 ∨ k = 5 := by omega
  rcases hk with rfl | rfl | rfl | rfl | rfl | rfl
  · have e1 : addrs 0 a b = [a] := rfl
    obtain ⟨q1, q2, q3, q4⟩ := pad0 ms a b o x p q
    have ev : valR ms 0 a b o x p q = (valR ms 0 a 0 0 0 0 0) := by rw [q2]
    have eo : okD ms 0 a b o x p q = false := by
      unfold okD
      rw [if_neg (by decide), q3]
      unfold okR act
      simp
    rw [ev, eo, e1, q1, q4]
    have K := kload B c Fb T ms gs bad O a _ hc hA hf ha
    clear ev eo e1 q1 q2 q3 q4
    generalize msR ms 0 a 0 0 0 0 0 = ms' at *
    generalize touchM c [a] gs = gs' at *
    generalize (bad || !rightB 0 a 0 ms.ws.length) = bad' at *
    generalize valR ms 0 a 0 0 0 0 0 = y at *
    go_enter Try.func26, Try.ntmps26
    go_wp2_with fail
    refine K.mono ?_
    rintro e w' ⟨rfl, hT⟩
    have HT := Lib.hid (HF.out hT)
    clear K hT hA
    go_wp2
    exact bodyPost_ret (v := .tuple #[.int .u64 y, .bool false]) (by simp [results, Try.results26, go_sem]) rfl ⟨rfl, HT.out⟩
  · have e1 : addrs 1 a b = [a] := rfl
    obtain ⟨q1, q2, q3, q4⟩ := pad1 ms a b o x p q
    have ev : valR ms 1 a b o x p q = 0 := by exact val_two ms 1 a b o x p q (by decide) (by decide)
    have eo : okD ms 1 a b o x p q = true := by unfold okD; rw [if_pos (by decide)]
    rw [ev, eo, e1, q1, q4]
    have K := kstore B c Fb T ms gs bad O a x _ hc hA hf ha
    clear ev eo e1 q1 q2 q3 q4
    generalize msR ms 1 a 0 0 x 0 0 = ms' at *
    generalize touchM c [a] gs = gs' at *
    generalize (bad || !rightB 1 a 0 ms.ws.length) = bad' at *
    go_enter Try.func26, Try.ntmps26
    go_wp2_with fail
    refine K.mono ?_
    rintro e w' ⟨rfl, hT⟩
    have HT := Lib.hid (HF.out hT)
    clear K hT hA
    go_wp2
    exact bodyPost_ret (v := .tuple #[.int .u64 0, .bool true]) (by simp [results, Try.results26, go_sem]) rfl ⟨rfl, HT.out⟩
  · have e1 : addrs 2 a b = [a] := rfl
    obtain ⟨q1, q2, q3, q4⟩ := pad2 ms a b o x p q
    have ev : valR ms 2 a b o x p q = 0 := by exact val_two ms 2 a b o x p q (by decide) (by decide)
    have eo : okD ms 2 a b o x p q = okR ms 2 a 0 o x 0 0 := by unfold okD; rw [if_neg (by decide), q3]
    rw [ev, eo, e1, q1, q4]
    have K := kcas B c Fb T ms gs bad O a o x _ hc hA hf ha
    clear ev eo e1 q1 q2 q3 q4
    generalize msR ms 2 a 0 o x 0 0 = ms' at *
    generalize touchM c [a] gs = gs' at *
    generalize (bad || !rightB 2 a 0 ms.ws.length) = bad' at *
    generalize okR ms 2 a 0 o x 0 0 = y at *
    go_enter Try.func26, Try.ntmps26
    go_wp2_with fail
    refine K.mono ?_
    rintro e w' ⟨rfl, hT⟩
    have HT := Lib.hid (HF.out hT)
    clear K hT hA
    go_wp2
    exact bodyPost_ret (v := .tuple #[.int .u64 0, .bool y]) (by simp [results, Try.results26, go_sem]) rfl ⟨rfl, HT.out⟩
  · have e1 : addrs 3 a b = [a] := rfl
    obtain ⟨q1, q2, q3, q4⟩ := pad3 ms a b o x p q
    have ev : valR ms 3 a b o x p q = (valR ms 3 a 0 0 x 0 0) := by rw [q2]
    have eo : okD ms 3 a b o x p q = true := by unfold okD; rw [if_pos (by decide)]
    rw [ev, eo, e1, q1, q4]
    have K := kadd B c Fb T ms gs bad O a x _ hc hA hf ha
    clear ev eo e1 q1 q2 q3 q4
    generalize msR ms 3 a 0 0 x 0 0 = ms' at *
    generalize touchM c [a] gs = gs' at *
    generalize (bad || !rightB 3 a 0 ms.ws.length) = bad' at *
    generalize valR ms 3 a 0 0 x 0 0 = y at *
    go_enter Try.func26, Try.ntmps26
    go_wp2_with fail
    refine K.mono ?_
    rintro e w' ⟨rfl, hT⟩
    have HT := Lib.hid (HF.out hT)
    clear K hT hA
    go_wp2
    exact bodyPost_ret (v := .tuple #[.int .u64 y, .bool true]) (by simp [results, Try.results26, go_sem]) rfl ⟨rfl, HT.out⟩
  · have e1 : addrs 4 a b = [a, b] := rfl
    have q1 : msR ms 4 a b o x p q = msR ms 4 a b o x p q := rfl
    have ev : valR ms 4 a b o x p q = 0 := by exact val_two ms 4 a b o x p q (by decide) (by decide)
    have eo : okD ms 4 a b o x p q = okR ms 4 a b o x p q := by unfold okD; rw [if_neg (by decide)]
    rw [ev, eo, e1, q1]
    have K := kdcas B c Fb T ms gs bad O a o x b p q _ hc hA hf ha hb
    clear ev eo e1 q1
    generalize msR ms 4 a b o x p q = ms' at *
    generalize touchM c [a, b] gs = gs' at *
    generalize (bad || !rightB 4 a b ms.ws.length) = bad' at *
    generalize okR ms 4 a b o x p q = y at *
    go_enter Try.func26, Try.ntmps26
    go_wp2_with fail
    refine K.mono ?_
    rintro e w' ⟨rfl, hT⟩
    have HT := Lib.hid (HF.out hT)
    clear K hT hA
    go_wp2
    exact bodyPost_ret (v := .tuple #[.int .u64 0, .bool y]) (by simp [results, Try.results26, go_sem]) rfl ⟨rfl, HT.out⟩
  · have e1 : addrs 5 a b = [a, b] := rfl
    obtain ⟨q1, q2, q3, q4⟩ := pad5 ms a b o x p q
    have ev : valR ms 5 a b o x p q = 0 := by exact val_two ms 5 a b o x p q (by decide) (by decide)
    have eo : okD ms 5 a b o x p q = okR ms 5 a b o x p 0 := by unfold okD; rw [if_neg (by decide), q3]
    rw [ev, eo, e1, q1, q4]
    have K := kdcss B c Fb T ms gs bad O a o x b p _ hc hA hf ha hb
    clear ev eo e1 q1 q2 q3 q4
    generalize msR ms 5 a b o x p 0 = ms' at *
    generalize touchM c [a, b] gs = gs' at *
    generalize (bad || !rightB 5 a b ms.ws.length) = bad' at *
    generalize okR ms 5 a b o x p 0 = y at *
    go_enter Try.func26, Try.ntmps26
    go_wp2_with fail
    refine K.mono ?_
    rintro e w' ⟨rfl, hT⟩
    have HT := Lib.hid (HF.out hT)
    clear K hT hA
    go_wp2
    exact bodyPost_ret (v := .tuple #[.int .u64 0, .bool y]) (by simp [results, Try.results26, go_sem]) rfl ⟨rfl, HT.out⟩
end Go.Proofs.Ytogbakgmkiiboaa
