/- What Do does of a thread, and Step with it. -/
import Derived.Test.YtemikojaldoofaaGreatADo
import Derived.Deep.LoopGhost
import Derived.Shelf.Abstract
namespace Go.Proofs.YtemikojaldoofaaGreat
open Go.ChangeShapes Go.WideShapes Go.ChangeAt Go.RowKit
set_option linter.unusedVariables false

set_option maxRecDepth 20000

variable {c : P.Cf} {B Fb T : Nat} {X : Nat → Prop} {W W' V V' : World} {σ σ' : Sg} {i : Nat} {l : List Fr} {f : Fr}
theorem Mac.mid (h : Mac c B Fb T X σ V) (hi : i < c.th.toNat) (hfr : (σ.ts i).fr = l ++ [f]) (hl : l.length ≤ 1000) :
    ∃ gg cp, Mid c B Fb T i gg (l.length * 12) cp l f σ X V V.drew ∧ Calls Tryz.prog 27 #[.pointer (some ⟨T, i * 10, none⟩)] V fun e V' => e = .returned (.pointer (some ⟨gg, l.length * 12, none⟩)) ∧ V.drew = V' := by
  obtain ⟨gg, cp, h1, h2, h3⟩ := h.frame hi hfr hl
  exact ⟨gg, cp, ⟨(MacT.refl h).drew, h1.drew, hfr⟩, h3⟩
theorem do_none (h : Mac c B Fb T X σ V) (hi : i < c.th.toNat) (hfr : (σ.ts i).fr = []) (v : Value) : Calls Tryz.prog 54 #[v, .pointer (some ⟨T, i * 10, none⟩)] V fun e V' => e = .returned (.tuple #[]) ∧ V = V' := by
  have K := h.topNone hi hfr
  clear h
  go_enter Tryz.func54, Tryz.ntmps54
  go_wp2_with fail
  refine K.mono ?_
  rintro e v ⟨rfl, rfl⟩
  go_wp2
  exact bodyPost_ret (v := .tuple #[]) (by simp [results, Tryz.results54, go_sem]) rfl ⟨rfl, rfl⟩
theorem do_nil (v : Value) (V : World) : Calls Tryz.prog 54 #[v, .pointer none] V fun e V' => e = .returned (.tuple #[]) ∧ V = V' := by
  go_enter Tryz.func54, Tryz.ntmps54
  go_wp2_with fail
  refine (top_nil _).mono ?_
  rintro e v ⟨rfl, rfl⟩
  go_wp2
  exact bodyPost_ret (v := .tuple #[]) (by simp [results, Tryz.results54, go_sem]) rfl ⟨rfl, rfl⟩
theorem do_alloc (h : Mac c B Fb T X σ V) (hi : i < c.th.toNat) (hfr : (σ.ts i).fr = l ++ [f]) (hl : l.length ≤ 1000) (hf : f.fn = 1)
    (hA : ∀ gg cp V', Mid c B Fb T i gg (l.length * 12) cp l f σ X V V' → Calls Tryz.prog 74 #[at0 B, .pointer (some ⟨T, i * 10, none⟩), .pointer (some ⟨gg, l.length * 12, none⟩)] V' fun e V2 => e = .returned (.tuple #[]) ∧ MacT c B Fb T σ' X V V2) :
    Calls Tryz.prog 54 #[at0 B, .pointer (some ⟨T, i * 10, none⟩)] V fun e V' => e = .returned (.tuple #[]) ∧ MacT c B Fb T σ' X V V' := by
  obtain ⟨gg, cp, hM, K⟩ := h.mid hi hfr hl
  have KA := hA gg cp _ hM
  have c0 : V.drew.cell? ⟨gg, l.length * 12, none⟩ = some (.int .i64 f.fn) := hM.2.1.fn
  rw [hf] at c0
  clear hA h hM hfr
  generalize l.length * 12 = o at *
  go_enter Tryz.func54, Tryz.ntmps54
  go_wp2_with fail
  refine K.mono ?_
  rintro e v ⟨rfl, rfl⟩
  go_wp2_with fail
  refine KA.mono ?_
  rintro e v ⟨rfl, hv⟩
  have HV := Lib.hid hv
  clear hv KA K
  go_wp2
  go_end0
  exact ⟨rfl, HV.out⟩
theorem do_release (h : Mac c B Fb T X σ V) (hi : i < c.th.toNat) (hfr : (σ.ts i).fr = l ++ [f]) (hl : l.length ≤ 1000) (hf : f.fn = 2)
    (hA : ∀ gg cp V', Mid c B Fb T i gg (l.length * 12) cp l f σ X V V' → Calls Tryz.prog 75 #[at0 B, .pointer (some ⟨T, i * 10, none⟩), .pointer (some ⟨gg, l.length * 12, none⟩)] V' fun e V2 => e = .returned (.tuple #[]) ∧ MacT c B Fb T σ' X V V2) :
    Calls Tryz.prog 54 #[at0 B, .pointer (some ⟨T, i * 10, none⟩)] V fun e V' => e = .returned (.tuple #[]) ∧ MacT c B Fb T σ' X V V' := by
  obtain ⟨gg, cp, hM, K⟩ := h.mid hi hfr hl
  have KA := hA gg cp _ hM
  have c0 : V.drew.cell? ⟨gg, l.length * 12, none⟩ = some (.int .i64 f.fn) := hM.2.1.fn
  rw [hf] at c0
  clear hA h hM hfr
  generalize l.length * 12 = o at *
  go_enter Tryz.func54, Tryz.ntmps54
  go_wp2_with fail
  refine K.mono ?_
  rintro e v ⟨rfl, rfl⟩
  go_wp2_with fail
  refine KA.mono ?_
  rintro e v ⟨rfl, hv⟩
  have HV := Lib.hid hv
  clear hv KA K
  go_wp2
  go_end0
  exact ⟨rfl, HV.out⟩
theorem row0 (W : World) : F.Row .u64 W none 0 0 [] := ⟨rfl, ⟨Nat.le_refl _, by simp [maxLen]⟩, .inl ⟨rfl, rfl, rfl⟩, fun j hj => absurd hj (by omega), fun x hx => by simp at hx⟩
theorem do_odd (h : Mac c B Fb T X σ V) (hi : i < c.th.toNat) (hfr : (σ.ts i).fr = l ++ [f]) (hl : l.length ≤ 1000) (hf1 : f.fn ≠ 1) (hf2 : f.fn ≠ 2) :
    Calls Tryz.prog 54 #[at0 B, .pointer (some ⟨T, i * 10, none⟩)] V fun e V' => e = .returned (.tuple #[]) ∧ MacT c B Fb T { σ with ts := upd σ.ts i ((σ.ts i).told l 0 0 0) } X V V' := by
  obtain ⟨gg, cp, hM, K⟩ := h.mid hi hfr hl
  have KA := hM.pop hi hl (row0 V.drew) (by omega) (fun h => absurd h (by omega))
  have c0 : V.drew.cell? ⟨gg, l.length * 12, none⟩ = some (.int .i64 f.fn) := hM.2.1.fn
  have n1 : (f.fn == 1) = false := by simpa using hf1
  have n2 : (f.fn == 2) = false := by simpa using hf2
  clear h hM hfr
  generalize l.length * 12 = o at *
  go_enter Tryz.func54, Tryz.ntmps54
  go_wp2_with fail
  refine K.mono ?_
  rintro e v ⟨rfl, rfl⟩
  go_wp2_with fail
  refine KA.mono ?_
  rintro e v ⟨rfl, hv⟩
  have HV := Lib.hid hv
  clear hv KA K
  go_wp2
  go_end0
  exact ⟨rfl, HV.out⟩

/-- Amid a step. -/
def StepA (c : P.Cf) (B Fb T : Nat) (σ σ' : Sg) (X : Nat → Prop) (W : World) (k : Nat) (V : World) : Prop :=
  (k = 1 ∧ MacT c B Fb T σ X W V) ∨ (k = 0 ∧ MacT c B Fb T σ' X W V)
theorem MacT.drop {X' : Nat → Prop} (h : MacT c B Fb T σ X W V) : ∃ X', Keeps X W V ∧ Later X W X' ∧ Mac c B Fb T X' σ V := h
set_option maxHeartbeats 4000000 in
/-- A step of a thread with a frame whose bit does a step of memory, or takes its last frame off. -/
theorem step_once (hc : c.Ok) (h : Mac c B Fb T X σ W) (hi : i < c.th.toNat) (hfr : (σ.ts i).fr = l ++ [f]) (hl : l.length ≤ 1000)
    (hD : ∀ X V, Mac c B Fb T X σ V → Calls Tryz.prog 54 #[at0 B, .pointer (some ⟨T, i * 10, none⟩)] V fun e V' => e = .returned (.tuple #[]) ∧ MacT c B Fb T σ' X V V')
    (hst : σ'.ms.st ≠ σ.ms.st ∨ (σ'.ts i).fr = []) (hl' : (σ'.ts i).fr.length ≤ 1000) :
    Calls Tryz.prog 30 #[at0 B, .int .i64 i, .func (.func 54) #[] #[]] W fun e W' => e = .returned (.bool (!(σ'.ts i).fr.isEmpty)) ∧ MacT c B Fb T σ' X W W' := by
  have eg : ∀ args w, (callFunc 54 args).run Tryz.prog w = .ok (.enter 54 args) w := enters_of Tryz.func54 (by kernel_rfl) rfl
  have qf : ∀ fn caps w, (binOp .neq 105 (.func fn #[] caps) .nilFunc).run Tryz.prog w = .ok (.bool true) w := fun _ _ _ => by kernel_rfl
  have ht := hc.th
  have KT := thread_yes B T c.th.toNat i W (by omega) h.thread hi
  obtain ⟨M, m7, hM⟩ := h.mem
  have KS := hM W (Below.refl _ _)
  have HC := Lib.hid hc
  have H := Lib.hid h
  have HI := Lib.hid hi
  have HFR := Lib.hid (And.intro hfr hl)
  have HD := Lib.hid hD
  have HST := Lib.hid (And.intro hst hl')
  clear ht hM hc h hi hfr hl hD hst hl'
  generalize hs : σ.ms.st = s0 at *
  have HS := Lib.hid hs
  clear hs
  go_enter Tryz.func30, Tryz.ntmps30
  go_wp2_with fail
  refine KT.mono ?_
  rintro e v1 ⟨rfl, rfl⟩
  clear KT
  go_wp2_with fail
  refine KS.mono ?_
  rintro e v1 ⟨rfl, rfl⟩
  clear KS m7
  go_wp2_with fail
  go_loopg [] 1 (fun k wr => Hid (StepA c B Fb T σ σ' X W k wr))
  case atStart => exact Lib.hid (.inl ⟨rfl, MacT.refl H.out⟩)
  case round =>
    clear H
    rcases hrel.out with ⟨q, X1, k1, l1, h1⟩ | ⟨q, X1, k1, l1, h1⟩
    · obtain ⟨gg, cp, hMid, K⟩ := h1.mid HI.out HFR.out.1 HFR.out.2
      obtain ⟨M, m7, hM⟩ := h1.drew.mem
      have KS := hM wr.drew (Below.refl _ _)
      rw [HS.out] at KS
      have KD := HD.out X1 wr.drew h1.drew
      have HQ := Lib.hid q
      have HK := Lib.hid (And.intro k1 l1)
      clear hM hMid h1 k1 l1 hrel q
      go_wp2_with fail
      refine K.mono ?_
      rintro e v1 ⟨rfl, rfl⟩
      clear K
      go_wp2_with fail
      refine KS.mono ?_
      rintro e v1 ⟨rfl, rfl⟩
      clear KS m7
      go_wp2_with (go_at_fn 54; refine KD.mono ?_; rintro e v2 ⟨rfl, hT⟩; have HV := Lib.hid (MacT.from (HK.out.1.drew) HK.out.2 hT); clear hT KD)
      go_roundg 0
      case measure => have := HQ.out; omega
      case rel => exact Lib.hid (.inr ⟨rfl, HV.out⟩)
    · by_cases hnil : (σ'.ts i).fr = []
      · have K := h1.topNone HI.out hnil
        have HV : Hid (MacT c B Fb T σ' X W wr) := Lib.hid ⟨X1, k1, l1, h1⟩
        have HB : Hid ((!(σ'.ts i).fr.isEmpty) = false) := Lib.hid (by rw [hnil]; rfl)
        clear h1 k1 l1 hrel q hnil
        go_wp2_with fail
        refine K.mono ?_
        rintro e v1 ⟨rfl, rfl⟩
        go_wp2_with fail
        refine K.mono ?_
        rintro e v1 ⟨rfl, rfl⟩
        clear K
        go_wp2
        refine bodyPost_ret (v := .bool false) (by simp [results, Tryz.results30, go_sem]) rfl ⟨by rw [HB.out], HV.out⟩
      · obtain ⟨l2, f2, hfr2⟩ : ∃ l2 f2, (σ'.ts i).fr = l2 ++ [f2] := ⟨_, _, (List.dropLast_concat_getLast hnil).symm⟩
        have hl2 : l2.length ≤ 1000 := by
          have := HST.out.2
          rw [hfr2] at this
          simp at this; omega
        have hne : σ'.ms.st ≠ s0 := HST.out.1.resolve_right hnil
        obtain ⟨gg, cp, hMid, K⟩ := h1.mid HI.out hfr2 hl2
        obtain ⟨gg2, cp2, hMid2, K2⟩ := h1.drew.mid HI.out hfr2 hl2
        obtain ⟨M, m7, hM⟩ := h1.drew.mem
        have KS := hM wr.drew (Below.refl _ _)
        have hne' : (σ'.ms.st == s0) = false := by simpa using hne
        have HV : Hid (MacT c B Fb T σ' X W wr.drew.drew) := Lib.hid (MacT.drew (MacT.drew ⟨X1, k1, l1, h1⟩))
        have HB : Hid ((!(σ'.ts i).fr.isEmpty) = true) := Lib.hid (by rw [hfr2]; simp)
        generalize σ'.ms.st = s1 at *
        clear h1 k1 l1 hrel q hnil hM hMid hMid2 hfr2 hl2 hne'
        go_wp2_with fail
        refine K.mono ?_
        rintro e v1 ⟨rfl, rfl⟩
        clear K
        go_wp2_with fail
        refine KS.mono ?_
        rintro e v1 ⟨rfl, rfl⟩
        clear KS m7
        go_wp2_with fail
        refine K2.mono ?_
        rintro e v1 ⟨rfl, rfl⟩
        go_wp2
        refine bodyPost_ret (v := .bool true) (by simp [results, Tryz.results30, go_sem]) rfl ⟨by rw [HB.out], HV.out⟩
end Go.Proofs.YtemikojaldoofaaGreat
