/- The chapter's example; what 'do' answers of no memory, and of a memory. -/
import Derived.Test.YtdknlmaabggfaaaDone
import Derived.Test.YtdknlmaabggfaaaArg
namespace Go.Proofs.Ytdknlmaabggfaaa
open Go.ChangeShapes Go.WideShapes Go.ChangeAt Go.RowKit
set_option linter.unusedVariables false

set_option maxHeartbeats 1000000 in
theorem lives_any (w : World) : Calls Try.prog 6 #[] w fun e w' => e = .returned (.bool true) ∧ Below w.heap.size w w' := by
  go_enter Try.func6, Try.ntmps6
  go_wp2_with fail
  refine (new_yes 2 w (by omega) (by omega)).mono ?_
  rintro e w1 ⟨rfl, hB, O, hM, hO⟩
  generalize w.heap.size + 1 = B at *
  go_wp2_with fail
  refine (dcas_yes B [0, 0] 0 false [] O 0 0 5 1 0 6 w1 hM (by unfold MS.fine; simp) (by simp) (by simp) (by omega) rfl rfl).mono ?_
  rintro e w2 ⟨rfl, O2, hk, hl, hM2⟩
  go_wp2_with fail
  refine (dcss_no2 B [5, 6] 1 false [] O2 0 5 7 1 0 w2 hM2 (by unfold MS.fine; simp) (by simp) (by simp) rfl (by decide)).mono ?_
  rintro e w3 ⟨rfl, O3, hk3, hl3, hM3⟩
  have hB3 : Below w.heap.size w w3 := ((Keeps.of_below (O := fun k => w.heap.size ≤ k) hB).trans (hk.trans hk3 hl) (fun k hk => .inl (hO k hk))).below (Nat.le_refl _) (fun k h => h)
  clear hM hM2 hM3 hk hk3 hB
  go_wp2
  go_ret
  exact ⟨rfl, hB3⟩

set_option maxRecDepth 100000 in
set_option maxHeartbeats 2000000 in
theorem do_nil (k a b o n p q : Int) (w : World) : Calls Try.prog 10 #[.pointer none, opV k a b o n p q] w fun e w' => e = .returned (.tuple #[.int .u64 0, .bool false, .int .i64 1]) ∧ Below w.heap.size w w' := by
  have fin : ∀ {A : Obj} {w' : World}, Below (w.alloc A).heap.size (w.alloc A) w' → Below w.heap.size w w' := fun h => ((Below.refl _ _).alloc (Nat.le_refl _) _).trans (h.mono (by simp))
  by_cases h0 : k = 0
  · subst h0
    go_enter Try.func10, Try.ntmps10
    go_wp2_with fail
    refine (load_nil a _).mono ?_
    rintro e w' ⟨rfl, hb⟩
    have hb := fin hb
    go_wp2
    exact bodyPost_ret (v := .tuple #[.int .u64 0, .bool false, .int .i64 1]) (by simp [results, Try.results10, go_sem]) rfl ⟨rfl, hb⟩
  by_cases h1 : k = 1
  · subst h1
    go_enter Try.func10, Try.ntmps10
    go_wp2_with fail
    refine (store_nil a n _).mono ?_
    rintro e w' ⟨rfl, hb⟩
    have hb := fin hb
    go_wp2
    exact bodyPost_ret (v := .tuple #[.int .u64 0, .bool false, .int .i64 1]) (by simp [results, Try.results10, go_sem]) rfl ⟨rfl, hb⟩
  by_cases h2 : k = 2
  · subst h2
    go_enter Try.func10, Try.ntmps10
    go_wp2_with fail
    refine (cas_nil a o n _).mono ?_
    rintro e w' ⟨rfl, hb⟩
    have hb := fin hb
    go_wp2
    exact bodyPost_ret (v := .tuple #[.int .u64 0, .bool false, .int .i64 1]) (by simp [results, Try.results10, go_sem]) rfl ⟨rfl, hb⟩
  by_cases h3 : k = 3
  · subst h3
    go_enter Try.func10, Try.ntmps10
    go_wp2_with fail
    refine (add_nil a n _).mono ?_
    rintro e w' ⟨rfl, hb⟩
    have hb := fin hb
    go_wp2
    exact bodyPost_ret (v := .tuple #[.int .u64 0, .bool false, .int .i64 1]) (by simp [results, Try.results10, go_sem]) rfl ⟨rfl, hb⟩
  by_cases h4 : k = 4
  · subst h4
    go_enter Try.func10, Try.ntmps10
    go_wp2_with fail
    refine (dcas_nil a o n b p q _).mono ?_
    rintro e w' ⟨rfl, hb⟩
    have hb := fin hb
    go_wp2
    exact bodyPost_ret (v := .tuple #[.int .u64 0, .bool false, .int .i64 1]) (by simp [results, Try.results10, go_sem]) rfl ⟨rfl, hb⟩
  have e0 : (k == 0) = false := by simpa using h0
  have e1 : (k == 1) = false := by simpa using h1
  have e2 : (k == 2) = false := by simpa using h2
  have e3 : (k == 3) = false := by simpa using h3
  have e4 : (k == 4) = false := by simpa using h4
  go_enter Try.func10, Try.ntmps10
  go_wp2_with fail
  refine (dcss_nil a o n b p _).mono ?_
  rintro e w' ⟨rfl, hb⟩
  have hb := fin hb
  go_wp2
  exact bodyPost_ret (v := .tuple #[.int .u64 0, .bool false, .int .i64 1]) (by simp [results, Try.results10, go_sem]) rfl ⟨rfl, hb⟩

/-- May the step be? -/
def badStep (k a b : Int) (n : Nat) : Prop := if k < 4 then inB n a = false else inB n a = false ∨ inB n b = false ∨ (k = 4 ∧ a = b)
set_option maxRecDepth 100000 in
set_option maxHeartbeats 4000000 in
theorem do_bad (B : Nat) (s : MS) (O : Nat → Prop) (k a b o n p q : Int) (w : World) (h : MemAt B s O w) (hf : s.fine) (k0 : 0 ≤ k) (k5 : k ≤ 5) (hb : badStep k a b s.ws.length) :
    Calls Try.prog 10 #[at0 B, opV k a b o n p q] w (Does B (.tuple #[.int .u64 0, .bool false, .int .i64 2]) s O w) := by
  have hA := h.alloc (.cells #[.int .i64 k, .int .i64 a, .int .i64 b, .int .u64 o, .int .u64 n, .int .u64 p, .int .u64 q] 33)
  have k1 := (Keeps.refl O w).alloc (.cells #[.int .i64 k, .int .i64 a, .int .i64 b, .int .u64 o, .int .u64 n, .int .u64 p, .int .u64 q] 33)
  unfold badStep at hb
  by_cases h0 : k = 0
  · subst h0
    rw [if_pos (by omega)] at hb
    have hr : askR s.ws.length [a] = 2 := askR_bad (by simp) hb
    clear hb
    go_enter Try.func10, Try.ntmps10
    go_wp2_with fail
    refine (load_bad B s O a _ hA hf hr).mono ?_
    rintro e w' ⟨rfl, hT⟩
    have hT := Turn.from k1 (Later.refl _ _) hT
    clear hr
    go_wp2
    exact bodyPost_ret (v := .tuple #[.int .u64 0, .bool false, .int .i64 2]) (by simp [results, Try.results10, go_sem]) rfl ⟨rfl, hT⟩
  by_cases h1 : k = 1
  · subst h1
    rw [if_pos (by omega)] at hb
    have hr : askR s.ws.length [a] = 2 := askR_bad (by simp) hb
    clear hb
    go_enter Try.func10, Try.ntmps10
    go_wp2_with fail
    refine (store_bad B s O a n _ hA hf hr).mono ?_
    rintro e w' ⟨rfl, hT⟩
    have hT := Turn.from k1 (Later.refl _ _) hT
    clear hr
    go_wp2
    exact bodyPost_ret (v := .tuple #[.int .u64 0, .bool false, .int .i64 2]) (by simp [results, Try.results10, go_sem]) rfl ⟨rfl, hT⟩
  by_cases h2 : k = 2
  · subst h2
    rw [if_pos (by omega)] at hb
    have hr : askR s.ws.length [a] = 2 := askR_bad (by simp) hb
    clear hb
    go_enter Try.func10, Try.ntmps10
    go_wp2_with fail
    refine (cas_bad B s O a o n _ hA hf hr).mono ?_
    rintro e w' ⟨rfl, hT⟩
    have hT := Turn.from k1 (Later.refl _ _) hT
    clear hr
    go_wp2
    exact bodyPost_ret (v := .tuple #[.int .u64 0, .bool false, .int .i64 2]) (by simp [results, Try.results10, go_sem]) rfl ⟨rfl, hT⟩
  by_cases h3 : k = 3
  · subst h3
    rw [if_pos (by omega)] at hb
    have hr : askR s.ws.length [a] = 2 := askR_bad (by simp) hb
    clear hb
    go_enter Try.func10, Try.ntmps10
    go_wp2_with fail
    refine (add_bad B s O a n _ hA hf hr).mono ?_
    rintro e w' ⟨rfl, hT⟩
    have hT := Turn.from k1 (Later.refl _ _) hT
    clear hr
    go_wp2
    exact bodyPost_ret (v := .tuple #[.int .u64 0, .bool false, .int .i64 2]) (by simp [results, Try.results10, go_sem]) rfl ⟨rfl, hT⟩
  by_cases h4 : k = 4
  · subst h4
    have hc : Calls Try.prog 18 #[at0 B, .int .i64 a, .int .u64 o, .int .u64 n, .int .i64 b, .int .u64 p, .int .u64 q] (w.alloc (.cells #[.int .i64 4, .int .i64 a, .int .i64 b, .int .u64 o, .int .u64 n, .int .u64 p, .int .u64 q] 33)) (Does B (.tuple #[.bool false, .int .i64 2]) s O (w.alloc (.cells #[.int .i64 4, .int .i64 a, .int .i64 b, .int .u64 o, .int .u64 n, .int .u64 p, .int .u64 q] 33))) := by
      rw [if_neg (by omega)] at hb
      by_cases ha : inB s.ws.length a = false
      · exact dcas_bad B s O a o n b p q _ hA hf (askR_bad (a := a) (by simp) ha)
      by_cases hb' : inB s.ws.length b = false
      · exact dcas_bad B s O a o n b p q _ hA hf (askR_bad (a := b) (by simp) hb')
      obtain rfl : a = b := by
        rcases hb with hb | hb | hb
        · exact absurd hb ha
        · exact absurd hb hb'
        · exact hb.2
      obtain ⟨m, rfl, hm⟩ : ∃ m : Nat, a = m ∧ m < s.ws.length := by
        have : inB s.ws.length a = true := by simpa using ha
        unfold inB at this
        simp at this
        exact ⟨a.toNat, by omega, by omega⟩
      exact dcas_same B s.ws s.st s.wa s.log O m o n p q _ hA hf hm
    clear hb
    go_enter Try.func10, Try.ntmps10
    go_wp2_with fail
    refine hc.mono ?_
    rintro e w' ⟨rfl, hT⟩
    have hT := Turn.from k1 (Later.refl _ _) hT
    clear hc
    go_wp2
    exact bodyPost_ret (v := .tuple #[.int .u64 0, .bool false, .int .i64 2]) (by simp [results, Try.results10, go_sem]) rfl ⟨rfl, hT⟩
  by_cases h5 : k = 5
  · subst h5
    have hc : Calls Try.prog 19 #[at0 B, .int .i64 a, .int .u64 o, .int .u64 n, .int .i64 b, .int .u64 p] (w.alloc (.cells #[.int .i64 5, .int .i64 a, .int .i64 b, .int .u64 o, .int .u64 n, .int .u64 p, .int .u64 q] 33)) (Does B (.tuple #[.bool false, .int .i64 2]) s O (w.alloc (.cells #[.int .i64 5, .int .i64 a, .int .i64 b, .int .u64 o, .int .u64 n, .int .u64 p, .int .u64 q] 33))) := by
      rw [if_neg (by omega)] at hb
      by_cases ha : inB s.ws.length a = false
      · exact dcss_bad B s O a o n b p _ hA hf (askR_bad (a := a) (by simp) ha)
      by_cases hb' : inB s.ws.length b = false
      · exact dcss_bad B s O a o n b p _ hA hf (askR_bad (a := b) (by simp) hb')
      exfalso
      rcases hb with hb | hb | hb
      · exact absurd hb ha
      · exact absurd hb hb'
      · omega
    clear hb
    go_enter Try.func10, Try.ntmps10
    go_wp2_with fail
    refine hc.mono ?_
    rintro e w' ⟨rfl, hT⟩
    have hT := Turn.from k1 (Later.refl _ _) hT
    clear hc
    go_wp2
    exact bodyPost_ret (v := .tuple #[.int .u64 0, .bool false, .int .i64 2]) (by simp [results, Try.results10, go_sem]) rfl ⟨rfl, hT⟩
  omega
end Go.Proofs.Ytdknlmaabggfaaa
