/- CoreOnce: what a step of thread 0 does. -/
import Derived.Test.YtogbakgmkiiboaaKBody
import Derived.Deep.LoopGhost
import Derived.Shelf.Abstract
namespace Go.Proofs.Ytogbakgmkiiboaa
open Go.ChangeShapes Go.WideShapes Go.ChangeAt Go.RowKit
set_option linter.unusedVariables false
set_option maxRecDepth 20000

variable {c : P.Cf} {w W W' : World} {Cb B Fb T Cal g t : Nat} {s : G.GS} {l : List Fr} {r0 : Option Int} {ms : MS}
theorem OnceS.mem (h : OnceS c w Cb B Fb T Cal g t s l r0 ms W) : ∃ M, W.cell? ⟨B, 7, none⟩ = some (at0 M) ∧ ∀ V, Below W.heap.size W V → Calls Try.prog 43 #[at0 M] V fun e V' => e = .returned (.int .i64 ms.st) ∧ V = V' := by
  obtain ⟨O, ⟨M, Om, rfl, hb, hm, hg⟩, _⟩ := h.mach
  have c7 := hb.cell 7
  simp [machCs] at c7
  exact ⟨M, c7, fun V hV => steps_any M ms Om V (hm.agree fun k ho => hV.block k (MemAt.lt hm ho))⟩
theorem OnceS.thread (h : OnceS c w Cb B Fb T Cal g t s l r0 ms W) : W.cell? ⟨B, 10, none⟩ = some (.slice (some ⟨T, 0, none⟩) c.th.toNat c.th.toNat) := by
  obtain ⟨O, ⟨M, Om, rfl, hb, hm, hg⟩, _⟩ := h.mach
  have c7 := hb.cell 10
  simpa [machCs] using c7
theorem OnceS.topNone (h : OnceS c w Cb B Fb T Cal g t s [] r0 ms W) : Calls Try.prog 40 #[.pointer (some ⟨T, 0, none⟩)] W fun e W' => e = .returned (.pointer none) ∧ W = W' := by
  obtain ⟨cs, v, a1, a2, a3, a4, a5⟩ := h.thr
  have h1 : W.cell? ⟨T, 0 + 1, none⟩ = some v := (a1.cell 1).trans a3
  rcases a4.2 with ⟨rfl, hz⟩ | ⟨gg, cp, cur, rfl, _⟩
  · exact top_none T 0 _ _ W h1
  · exact top_none T 0 _ _ W h1
theorem load_st (ms : MS) (hl : 8 ≤ ms.ws.length) : (loadMS ms).st = ms.st + 1 := by
  have hr : rightB 0 1 0 ms.ws.length = true := by unfold rightB inB; simp; omega
  unfold loadMS msR
  rw [if_pos hr]
  simp [MS.counted]
/-- Amid a step: k rounds at most are to come. -/
def StepR (c : P.Cf) (w : World) (Cb B Fb T Cal g t : Nat) (s : G.GS) (r0 : Option Int) (ms : MS) (p n : Int) (k : Nat) (W : World) : Prop :=
  (∃ q : Int, p ≤ q ∧ q ≤ n ∧ k = (n - q).toNat + 1 ∧ OnceS c w Cb B Fb T Cal g t s [⟨7, q, [n]⟩] r0 ms W) ∨
  (∃ q : Int, p < q ∧ q ≤ n ∧ k = 0 ∧ OnceS c w Cb B Fb T Cal g t s [⟨7, q, [n]⟩] r0 (loadMS ms) W) ∨
  (k = 0 ∧ OnceS c w Cb B Fb T Cal g t s [] (some n) ms W)
set_option maxHeartbeats 4000000 in
theorem step_go (hc : c.Ok) (p n : Int) (w : World) (W : World) (h0 : 0 ≤ p) (h1 : p ≤ n) (h2 : n ≤ 30) (h : OnceS c w Cb B Fb T Cal g t s [⟨7, p, [n]⟩] r0 ms W) (hf : ms.fine) (hl : 8 ≤ ms.ws.length) (ht : 0 < c.th.toNat ∧ c.th.toNat ≤ 6) :
    Calls Try.prog 44 #[at0 B, .int .i64 0, .func (.func 41) #[] #[at0 Cal]] W fun e W' => ∃ b, e = .returned (.bool b) ∧ ((b = true ∧ ∃ q : Int, p < q ∧ q ≤ n ∧ OnceS c w Cb B Fb T Cal g t s [⟨7, q, [n]⟩] r0 (loadMS ms) W') ∨ (b = false ∧ OnceS c w Cb B Fb T Cal g t s [] (some n) ms W')) := by
  have eg : ∀ args w, (callFunc 41 args).run Try.prog w = .ok (.enter 41 args) w := enters_of Try.func41 (by kernel_rfl) rfl
  have qf : ∀ fn caps w, (binOp .neq 119 (.func fn #[] caps) .nilFunc).run Try.prog w = .ok (.bool true) w := fun _ _ _ => by kernel_rfl
  have KT := thread_yes B T c.th.toNat 0 W ht.2 h.thread ht.1
  simp at KT
  obtain ⟨M, m7, hM⟩ := h.mem
  have KS := hM W (Below.refl _ _)
  clear hM
  have HT := Lib.hid ht
  have HC := Lib.hid hc
  have HF := Lib.hid hf
  have HL := Lib.hid hl
  have HST := Lib.hid (load_st ms hl)
  have H := Lib.hid h
  have HP := Lib.hid (And.intro h0 (And.intro h1 h2))
  clear ht hc hf hl h h0 h1 h2
  go_enter Try.func44, Try.ntmps44
  go_wp2_with fail
  refine KT.mono ?_
  rintro e v1 ⟨rfl, rfl⟩
  clear KT
  go_wp2_with fail
  refine KS.mono ?_
  rintro e v1 ⟨rfl, rfl⟩
  clear KS m7
  go_wp2_with fail
  go_loopg [] ((n - p).toNat + 1) (fun k wr => Hid (StepR c w Cb B Fb T Cal g t s r0 ms p n k wr))
  case atStart => exact Lib.hid (.inl ⟨p, Int.le_refl _, HP.out.2.1, rfl, H.out⟩)
  case round =>
    clear H
    rcases hrel.out with ⟨q, q1, q2, q3, h⟩ | ⟨q, q1, q2, q3, h⟩ | ⟨q3, h⟩
    · obtain ⟨gg, cp, t1, f1, f2, fz, ngc, ggl⟩ := h.frame
      have K := h.top t1
      obtain ⟨M, m7, hM⟩ := h.mem
      have KS := hM wr.drew (Below.refl _ _).drew
      have HQ := Lib.hid (And.intro q1 (And.intro q2 q3))
      have H2 := Lib.hid (h.below (Below.refl _ _).drew)
      clear hM h t1 f1 f2 fz ngc ggl q1 q2 q3 hrel
      have BG := HC.out
      by_cases hlt : q < n
      · have KB := Lib.hid (body_go (c := c) (ms := ms) (r0 := r0) HC.out B q n w wr.drew (by have := HQ.out.1; have := HP.out.1; omega) hlt HP.out.2.2 H2.out HF.out HL.out)
        clear BG H2
        go_wp2_with fail
        refine K.mono ?_
        rintro e v1 ⟨rfl, rfl⟩
        clear K
        go_wp2_with fail
        refine KS.mono ?_
        rintro e v1 ⟨rfl, rfl⟩
        clear KS m7
        go_wp2_with (go_at_fn 41; refine KB.out.mono ?_; rintro e v2 ⟨rfl, hS⟩; have HS := Lib.hid hS; clear hS KB)
        by_cases h3 : (q + 1) % 3 = 0
        · go_roundg 0
          case measure => have := HQ.out.2.2; omega
          case rel =>
            refine Lib.hid (.inr (.inl ⟨q + 1, by have := HQ.out.1; omega, by omega, rfl, ?_⟩))
            have := HS.out
            rwa [if_pos h3] at this
        · go_roundg ((n - (q + 1)).toNat + 1)
          case measure => have := HQ.out.2.2; omega
          case rel =>
            refine Lib.hid (.inl ⟨q + 1, by have := HQ.out.1; omega, by omega, rfl, ?_⟩)
            have := HS.out
            rwa [if_neg h3] at this
      · have hqn : q = n := by have := HQ.out.2.1; omega
        have KB := Lib.hid (body_pop (c := c) (ms := ms) (r0 := r0) B q n w wr.drew (by have := HP.out.1; have := HP.out.2.1; omega) (by omega) (by have := HP.out.2.2; omega) H2.out)
        have HN : Hid (q = n) := Lib.hid hqn
        clear BG H2 hqn hlt
        go_wp2_with fail
        refine K.mono ?_
        rintro e v1 ⟨rfl, rfl⟩
        clear K
        go_wp2_with fail
        refine KS.mono ?_
        rintro e v1 ⟨rfl, rfl⟩
        clear KS m7
        go_wp2_with (go_at_fn 41; refine KB.out.mono ?_; rintro e v2 ⟨rfl, hS⟩; have HS := Lib.hid hS; clear hS KB)
        go_roundg 0
        case measure => have := HQ.out.2.2; omega
        case rel =>
          refine Lib.hid (.inr (.inr ⟨rfl, ?_⟩))
          have := HS.out
          rwa [HN.out] at this
    · obtain ⟨gg, cp, t1, f1, f2, fz, ngc, ggl⟩ := h.frame
      have K := h.top t1
      obtain ⟨M, m7, hM⟩ := h.mem
      have KS := hM wr.drew (Below.refl _ _).drew
      rw [HST.out] at KS
      have HQ := Lib.hid (And.intro q1 (And.intro q2 q3))
      have hne : ¬ (ms.st + 1 = ms.st) := by omega
      have t1' : wr.drew.cell? ⟨T, 1, Option.none⟩ = some (.slice (some ⟨gg, 0, Option.none⟩) 1 cp) := t1
      have H2 := Lib.hid (h.below (Below.refl _ _).drew)
      clear hM h f1 f2 fz ngc ggl q1 q2 q3 hrel
      go_wp2_with fail
      refine K.mono ?_
      rintro e v1 ⟨rfl, rfl⟩
      clear K
      go_wp2_with fail
      refine KS.mono ?_
      rintro e v1 ⟨rfl, rfl⟩
      clear KS m7
      have K2 := H2.out.top (gg := gg) (cp := cp) t1'
      clear t1 t1'
      go_wp2_with fail
      refine K2.mono ?_
      rintro e v1 ⟨rfl, rfl⟩
      have H3 := Lib.hid (H2.out.below (Below.refl _ _).drew)
      clear K2 H2
      go_wp2
      refine bodyPost_ret (v := .bool true) (by simp [results, Try.results44, go_sem]) rfl ⟨true, rfl, .inl ⟨rfl, q, HQ.out.1, HQ.out.2.1, H3.out⟩⟩
    · have K := h.topNone
      have H2 := Lib.hid h
      clear h q3 hrel
      go_wp2_with fail
      refine K.mono ?_
      rintro e v1 ⟨rfl, rfl⟩
      go_wp2_with fail
      refine K.mono ?_
      rintro e v1 ⟨rfl, rfl⟩
      clear K
      go_wp2
      refine bodyPost_ret (v := .bool false) (by simp [results, Try.results44, go_sem]) rfl ⟨false, rfl, .inr ⟨rfl, H2.out⟩⟩
end Go.Proofs.Ytogbakgmkiiboaa
