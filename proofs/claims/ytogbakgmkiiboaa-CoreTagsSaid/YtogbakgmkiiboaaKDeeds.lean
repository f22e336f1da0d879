/- What Took, Gone, Freed do; a tag. Printed by core_tags.py. -/
import Derived.Test.YtogbakgmkiiboaaKNew
namespace Go.Proofs.Ytogbakgmkiiboaa
open Go.ChangeShapes Go.WideShapes Go.ChangeAt Go.RowKit
set_option linter.unusedVariables false
set_option maxRecDepth 20000

theorem took_none (B : Nat) (c : P.Cf) (F T : Nat) (ms : MS) (bad : Bool) (O : Nat → Prop) (i : Int) (w : World) (h : MachAt B c F T ms none bad O w) :
    Calls Try.prog 30 #[at0 B, .int .i64 i] w fun e w' => e = .returned (.tuple #[]) ∧ w = w' := by
  obtain ⟨M, Om, rfl, hb, hm, hg⟩ := h
  go_enter Try.func30, Try.ntmps30
  go_wp2_with fail
  refine (ghost_any B M c _ F T _ bad _ hb).mono ?_
  rintro e w' ⟨rfl, rfl⟩
  clear hb hm hg
  simp only [gV]
  go_wp2_with fail
  refine (G.alloc_nil i _).mono ?_
  rintro e w' ⟨rfl, rfl⟩
  go_wp2
  go_end0
  exact ⟨rfl, rfl⟩
theorem took_some (B g t : Nat) (c : P.Cf) (F T : Nat) (ms : MS) (s : G.GS) (bad : Bool) (O : Nat → Prop) (i : Int) (w : World) (hc : c.Ok) (h : MachAt B c F T ms (some (g, t, s)) bad O w) :
    Calls Try.prog 30 #[at0 B, .int .i64 i] w (MDoes B c F T (.tuple #[]) ms (some (g, t, s.then c.nd.toNat 0 i)) bad O w) := by
  obtain ⟨M, Om, rfl, hb, hm, hg⟩ := h
  have K := G.alloc_any g (some ⟨t, 0, none⟩) c.nd.toNat s i w hg.1
  have HF : Hid (∀ w3, G.GAt g (some ⟨t, 0, none⟩) c.nd.toNat (s.then c.nd.toNat 0 i) w3 → G.Only g (some ⟨t, 0, none⟩) w w3 → MTurn B c F T ms (some (g, t, s.then c.nd.toNat 0 i)) bad (fun k => k = B ∨ Om k ∨ gO (some (g, t, s)) k) w w3) :=
    Lib.hid fun w3 hg3 ho3 => MachAt.ghost hb hm hg hg3 (by have := hc.nd; omega) ho3
  have hb' := hb
  clear hm hg
  go_enter Try.func30, Try.ntmps30
  go_wp2_with fail
  refine (ghost_any B M c _ F T _ bad _ hb).mono ?_
  rintro e w' ⟨rfl, rfl⟩
  simp only [gV]
  clear hb hb'
  go_wp2_with fail
  refine K.mono ?_
  rintro e w3 ⟨rfl, hg3, ho3⟩
  have HR := Lib.hid (HF.out _ hg3 ho3)
  clear hg3 ho3 K
  go_wp2
  go_end0
  exact ⟨rfl, HR.out⟩
theorem gone_none (B : Nat) (c : P.Cf) (F T : Nat) (ms : MS) (bad : Bool) (O : Nat → Prop) (i : Int) (w : World) (h : MachAt B c F T ms none bad O w) :
    Calls Try.prog 32 #[at0 B, .int .i64 i] w fun e w' => e = .returned (.tuple #[]) ∧ w = w' := by
  obtain ⟨M, Om, rfl, hb, hm, hg⟩ := h
  go_enter Try.func32, Try.ntmps32
  go_wp2_with fail
  refine (ghost_any B M c _ F T _ bad _ hb).mono ?_
  rintro e w' ⟨rfl, rfl⟩
  clear hb hm hg
  simp only [gV]
  go_wp2_with fail
  refine (G.retire_nil i _).mono ?_
  rintro e w' ⟨rfl, rfl⟩
  go_wp2
  go_end0
  exact ⟨rfl, rfl⟩
theorem gone_some (B g t : Nat) (c : P.Cf) (F T : Nat) (ms : MS) (s : G.GS) (bad : Bool) (O : Nat → Prop) (i : Int) (w : World) (hc : c.Ok) (h : MachAt B c F T ms (some (g, t, s)) bad O w) :
    Calls Try.prog 32 #[at0 B, .int .i64 i] w (MDoes B c F T (.tuple #[]) ms (some (g, t, s.then c.nd.toNat 1 i)) bad O w) := by
  obtain ⟨M, Om, rfl, hb, hm, hg⟩ := h
  have K := G.retire_any g (some ⟨t, 0, none⟩) c.nd.toNat s i w hg.1
  have HF : Hid (∀ w3, G.GAt g (some ⟨t, 0, none⟩) c.nd.toNat (s.then c.nd.toNat 1 i) w3 → G.Only g (some ⟨t, 0, none⟩) w w3 → MTurn B c F T ms (some (g, t, s.then c.nd.toNat 1 i)) bad (fun k => k = B ∨ Om k ∨ gO (some (g, t, s)) k) w w3) :=
    Lib.hid fun w3 hg3 ho3 => MachAt.ghost hb hm hg hg3 (by have := hc.nd; omega) ho3
  have hb' := hb
  clear hm hg
  go_enter Try.func32, Try.ntmps32
  go_wp2_with fail
  refine (ghost_any B M c _ F T _ bad _ hb).mono ?_
  rintro e w' ⟨rfl, rfl⟩
  simp only [gV]
  clear hb hb'
  go_wp2_with fail
  refine K.mono ?_
  rintro e w3 ⟨rfl, hg3, ho3⟩
  have HR := Lib.hid (HF.out _ hg3 ho3)
  clear hg3 ho3 K
  go_wp2
  go_end0
  exact ⟨rfl, HR.out⟩
theorem freed_none (B : Nat) (c : P.Cf) (F T : Nat) (ms : MS) (bad : Bool) (O : Nat → Prop) (i : Int) (w : World) (h : MachAt B c F T ms none bad O w) :
    Calls Try.prog 34 #[at0 B, .int .i64 i] w fun e w' => e = .returned (.tuple #[]) ∧ w = w' := by
  obtain ⟨M, Om, rfl, hb, hm, hg⟩ := h
  go_enter Try.func34, Try.ntmps34
  go_wp2_with fail
  refine (ghost_any B M c _ F T _ bad _ hb).mono ?_
  rintro e w' ⟨rfl, rfl⟩
  clear hb hm hg
  simp only [gV]
  go_wp2_with fail
  refine (G.release_nil i _).mono ?_
  rintro e w' ⟨rfl, rfl⟩
  go_wp2
  go_end0
  exact ⟨rfl, rfl⟩
theorem freed_some (B g t : Nat) (c : P.Cf) (F T : Nat) (ms : MS) (s : G.GS) (bad : Bool) (O : Nat → Prop) (i : Int) (w : World) (hc : c.Ok) (h : MachAt B c F T ms (some (g, t, s)) bad O w) :
    Calls Try.prog 34 #[at0 B, .int .i64 i] w (MDoes B c F T (.tuple #[]) ms (some (g, t, s.then c.nd.toNat 2 i)) bad O w) := by
  obtain ⟨M, Om, rfl, hb, hm, hg⟩ := h
  have K := G.release_any g (some ⟨t, 0, none⟩) c.nd.toNat s i w hg.1
  have HF : Hid (∀ w3, G.GAt g (some ⟨t, 0, none⟩) c.nd.toNat (s.then c.nd.toNat 2 i) w3 → G.Only g (some ⟨t, 0, none⟩) w w3 → MTurn B c F T ms (some (g, t, s.then c.nd.toNat 2 i)) bad (fun k => k = B ∨ Om k ∨ gO (some (g, t, s)) k) w w3) :=
    Lib.hid fun w3 hg3 ho3 => MachAt.ghost hb hm hg hg3 (by have := hc.nd; omega) ho3
  have hb' := hb
  clear hm hg
  go_enter Try.func34, Try.ntmps34
  go_wp2_with fail
  refine (ghost_any B M c _ F T _ bad _ hb).mono ?_
  rintro e w' ⟨rfl, rfl⟩
  simp only [gV]
  clear hb hb'
  go_wp2_with fail
  refine K.mono ?_
  rintro e w3 ⟨rfl, hg3, ho3⟩
  have HR := Lib.hid (HF.out _ hg3 ho3)
  clear hg3 ho3 K
  go_wp2
  go_end0
  exact ⟨rfl, HR.out⟩
/-- A node's tag, as it is told. -/
def tagOf (n : Nat) (s : G.GS) (i : Int) : Int := if i < 1 ∨ (n : Int) < i then 0 else G.tagAt s.tags (i - 1).toNat
theorem tag_any (B : Nat) (ad : Option Addr) (n : Nat) (s : G.GS) (i : Int) (w : World) (g : G.GAt B ad n s w) : Calls Try.prog 37 #[at0 B, .int .i64 i] w fun e w' => e = .returned (.int .i64 (tagOf n s i)) ∧ w = w' := by
  by_cases h : i < 1 ∨ (n : Int) < i
  · rw [show tagOf n s i = 0 from if_pos h]
    exact G.tag_no B ad n s i w g h
  · obtain ⟨j, rfl⟩ : ∃ j : Nat, i = (j : Int) + 1 := ⟨(i - 1).toNat, by omega⟩
    rw [show tagOf n s ((j : Int) + 1) = G.tagAt s.tags j by unfold tagOf; rw [if_neg h]; congr 1; omega]
    exact G.tag_yes B ad n s j w g (by omega)
end Go.Proofs.Ytogbakgmkiiboaa
