/- What CoreOnce's routine does. -/
import Derived.Test.YtogbakgmkiiboaaKOnce
import Derived.Deep.RegionWith
import Derived.Deep.Cut
import Derived.Deep.CutRange
namespace Go.Proofs.Ytogbakgmkiiboaa
open Go.ChangeShapes Go.WideShapes Go.ChangeAt Go.RowKit
set_option linter.unusedVariables false
set_option maxRecDepth 20000

variable {c : P.Cf} {w W W' : World} {Cb B Fb T Cal g t : Nat} {s : G.GS} {l : List Fr} {r0 : Option Int} {ms : MS}
theorem OnceS.top {f : Fr} (h : OnceS c w Cb B Fb T Cal g t s [f] r0 ms W) {gg cp : Nat} (hc : W.cell? ⟨T, 1, none⟩ = some (.slice (some ⟨gg, 0, none⟩) 1 cp)) :
    Calls Try.prog 40 #[.pointer (some ⟨T, 0, none⟩)] W fun e W' => e = .returned (.pointer (some ⟨gg, 0, none⟩)) ∧ W.drew = W' := by
  have := top_some T 0 gg 0 cp W (by omega) hc
  simpa using this
/-- A list of one word. -/
theorem row1 (W : World) (x : Int) (h0 : 0 ≤ x) (h1 : x < 18446744073709551616) : F.Row .u64 (W.alloc (.cells #[.int .u64 x] 44)) (some ⟨W.heap.size, 0, none⟩) 1 1 [x] := by
  have hB : Blk (W.alloc (.cells #[.int .u64 x] 44)) W.heap.size 44 #[.int .u64 x] := Blk.new _ _ _
  refine ⟨rfl, ⟨Nat.le_refl _, by simp [maxLen]⟩, .inr ⟨_, rfl, fun j u hj => ?_⟩, fun j hj => ⟨_, 0, rfl, ?_⟩, fun y hy => ?_⟩
  · match j with
    | 0 =>
      simp at hj
      subst hj
      rw [add0, hB.cell 0]
      rfl
    | j + 1 => simp at hj
  · obtain rfl : j = 0 := by omega
    rw [hB.cell]
    rfl
  · simp at hy
    subst hy
    simp [Lit.wf, IntKind.min, IntKind.max, IntKind.signed, IntKind.bits]
    omega
/-- A frame whose time has come is taken off. -/
theorem body_pop (B : Nat) (p n : Int) (w : World) (W : World) (h0 : 0 ≤ n) (h1 : n ≤ p) (h2 : p ≤ 30) (h : OnceS c w Cb B Fb T Cal g t s [⟨7, p, [n]⟩] r0 ms W) :
    Calls Try.prog 41 #[at0 B, .pointer (some ⟨T, 0, none⟩), at0 Cal] W fun e W' => e = .returned (.tuple #[]) ∧ OnceS c w Cb B Fb T Cal g t s [] (some p) ms W' := by
  obtain ⟨gg, cp, t1, f1, f2, fz, ngc, ggl⟩ := h.frame
  have K := h.top t1
  obtain ⟨y, hy⟩ := h.cal
  have HD2 : Hid (OnceS c w Cb B Fb T Cal g t s [⟨7, p, [n]⟩] r0 ms (W.setCell ⟨Cal, 0, none⟩ (.int .i64 (wrap64 (y + 1)))).drew.drew) := Lib.hid ((h.count _).below (Below.refl _ _).drew.drew)
  have cy : W.cell? ⟨Cal, 0, none⟩ = some (.int .i64 y) := by
    have := hy.cell 0
    simpa using this
  have fy : W.frozen? ⟨Cal, 0, none⟩ = false := hy.frozen 0
  simp at f1 f2
  have w1 : IntKind.i64.wrap n = n := IntWalk.i64_in _ (by omega)
  have w2 : IntKind.u64.wrap p = p := IntWalk.u64_in _ (by omega)
  have ngc' := Ne.symm ngc
  clear hy h fz t1
  go_enter Try.func41, Try.ntmps41
  go_wp2_with fail
  refine K.mono ?_
  rintro e v1 ⟨rfl, rfl⟩
  clear K
  go_wp2_with fail
  go_region
  have f1'' : (W.setCell ⟨Cal, 0, none⟩ (.int .i64 (wrap64 (y + 1)))).drew.drew.cell? ⟨gg, 1, none⟩ = some (.int .i64 p) := (F.cell_agree (W := W) (p := ⟨gg, 1, none⟩) (Below.heap_setCell W ⟨Cal, 0, none⟩ _ gg ngc)).trans f1
  generalize (W.setCell ⟨Cal, 0, none⟩ (.int .i64 (wrap64 (y + 1)))).drew.drew = V at *
  clear f1 f2 cy fy
  have KP := (HD2.out.below ((Below.refl V.heap.size V).alloc (Nat.le_refl _) (.cells #[.int .u64 p] 44))).pop (row1 V p (by omega) (by omega)) (by omega) (fun _ x e => by
    cases e
    have := HD2.out
    obtain ⟨cs, v, a1, _⟩ := this.thr
    have := a1.lt
    show V.heap.size ≠ T
    omega)
  go_wp2_with fail
  refine KP.mono ?_
  rintro e v2 ⟨rfl, hS⟩
  have HS := Lib.hid hS
  clear KP hS HD2
  go_wp2
  exact bodyPost_ret (v := .tuple #[]) (by simp [results, Try.results41, go_sem]) rfl ⟨rfl, by simpa using HS.out⟩

theorem epoch_ghost (c : P.Cf) (g t : Nat) (s : G.GS) : touchM c [1] (some (g, t, s)) = some (g, t, s) := rfl
/-- A step of memory more. -/
def loadMS (ms : MS) : MS := msR ms 0 1 0 0 0 0 0
set_option maxHeartbeats 4000000 in
/-- A frame goes on: its place is the next one; each third time a word is loaded. -/
theorem body_go (hc : c.Ok) (B : Nat) (p n : Int) (w : World) (W : World) (h0 : 0 ≤ p) (h1 : p < n) (h2 : n ≤ 30) (h : OnceS c w Cb B Fb T Cal g t s [⟨7, p, [n]⟩] r0 ms W) (hf : ms.fine) (hl : 8 ≤ ms.ws.length) :
    Calls Try.prog 41 #[at0 B, .pointer (some ⟨T, 0, none⟩), at0 Cal] W fun e W' => e = .returned (.tuple #[]) ∧ OnceS c w Cb B Fb T Cal g t s [⟨7, p + 1, [n]⟩] r0 (if (p + 1) % 3 = 0 then loadMS ms else ms) W' := by
  obtain ⟨gg, cp, t1, f1, f2, fz, ngc, ggl⟩ := h.frame
  have K := h.top t1
  obtain ⟨y, hy⟩ := h.cal
  have hT1 : T < W.heap.size := by obtain ⟨cs, v, a1, _⟩ := h.thr; exact a1.lt
  have ngT : gg ≠ T := by
    obtain ⟨cs, v, a1, a2, a3, a4, _⟩ := h.thr
    obtain rfl : v = .slice (some ⟨gg, 0, none⟩) 1 cp := by
      have := (a1.cell 1).trans a3
      rw [t1] at this
      cases this; rfl
    obtain ⟨cur, hcur⟩ := row_blk a4 rfl
    exact Blk.ne hcur a1 (by decide)
  have nCT : T ≠ Cal := by obtain ⟨cs, v, a1, _⟩ := h.thr; exact Blk.ne a1 hy (by decide)
  have HD2 : Hid (OnceS c w Cb B Fb T Cal g t s [⟨7, p, [n]⟩] r0 ms (W.setCell ⟨Cal, 0, none⟩ (.int .i64 (wrap64 (y + 1)))).drew.drew) := Lib.hid ((h.count _).below (Below.refl _ _).drew.drew)
  have cy : W.cell? ⟨Cal, 0, none⟩ = some (.int .i64 y) := by
    have := hy.cell 0
    simpa using this
  have fy : W.frozen? ⟨Cal, 0, none⟩ = false := hy.frozen 0
  simp at f1 f2
  have w1 : IntKind.i64.wrap n = n := IntWalk.i64_in _ (by omega)
  have w2 : IntKind.i64.wrap (p + 1) = p + 1 := IntWalk.i64_in _ (by omega)
  have w3 : (p + 1).tmod 3 = (p + 1) % 3 := Int.tmod_eq_emod_of_nonneg (by omega)
  have ngc' := Ne.symm ngc
  have f1'' : (W.setCell ⟨Cal, 0, none⟩ (.int .i64 (wrap64 (y + 1)))).drew.drew.cell? ⟨gg, 1, none⟩ = some (.int .i64 p) := (F.cell_agree (W := W) (p := ⟨gg, 1, none⟩) (Below.heap_setCell W ⟨Cal, 0, none⟩ _ gg ngc)).trans f1
  have t1'' : (W.setCell ⟨Cal, 0, none⟩ (.int .i64 (wrap64 (y + 1)))).drew.drew.cell? ⟨T, 1, none⟩ = some (.slice (some ⟨gg, 0, none⟩) 1 cp) := (F.cell_agree (W := W) (p := ⟨T, 1, none⟩) (Below.heap_setCell W ⟨Cal, 0, none⟩ _ T nCT)).trans t1
  have fz'' : (W.setCell ⟨Cal, 0, none⟩ (.int .i64 (wrap64 (y + 1)))).drew.drew.frozen? ⟨gg, 1, none⟩ = false := by
    exact (World.frozen?_of_block (a := ⟨gg, 1, none⟩) (Below.heap_setCell W ⟨Cal, 0, none⟩ (.int .i64 (wrap64 (y + 1))) gg ngc)).trans fz
  clear hy h t1 fz
  by_cases h3 : (p + 1) % 3 = 0
  · rw [if_pos h3]
    go_enter Try.func41, Try.ntmps41
    go_wp2_with fail
    refine K.mono ?_
    rintro e v1 ⟨rfl, rfl⟩
    clear K
    go_wp2_with fail
    go_region
    generalize (W.setCell ⟨Cal, 0, none⟩ (.int .i64 (wrap64 (y + 1)))).drew.drew = V at *
    clear f1 f2 cy fy
    have HE : Hid (OnceS c w Cb B Fb T Cal g t s [⟨7, p + 1, [n]⟩] r0 ms (V.setCell ⟨gg, 1, none⟩ (.int .i64 (p + 1)))) := Lib.hid (HD2.out.pc t1'' (p + 1))
    clear HD2 t1''
    have KL := HE.out.one (K := 42) (v := .int .u64 (valR ms 0 1 0 0 0 0 0)) (ms' := loadMS ms) (fun O hm => by
      have := kload B c Fb T ms (some (g, t, s)) false O 1 _ hc hm hf ⟨by omega, by omega⟩
      have hr : rightB 0 1 0 ms.ws.length = true := by unfold rightB inB; simp; omega
      rw [hr, epoch_ghost] at this
      exact this)
    clear HE
    go_wp2_with fail
    refine KL.mono ?_
    rintro e v2 ⟨rfl, hS⟩
    have HS := Lib.hid hS
    clear KL hS
    go_wp2
    go_end0
    exact ⟨rfl, HS.out⟩
  · rw [if_neg h3]
    go_enter Try.func41, Try.ntmps41
    go_wp2_with fail
    refine K.mono ?_
    rintro e v1 ⟨rfl, rfl⟩
    clear K
    go_wp2_with fail
    go_region
    generalize (W.setCell ⟨Cal, 0, none⟩ (.int .i64 (wrap64 (y + 1)))).drew.drew = V at *
    clear f1 f2 cy fy
    have HE : Hid (OnceS c w Cb B Fb T Cal g t s [⟨7, p + 1, [n]⟩] r0 ms (V.setCell ⟨gg, 1, none⟩ (.int .i64 (p + 1)))) := Lib.hid (HD2.out.pc t1'' (p + 1))
    clear HD2 t1''
    have h3' : ((p + 1) % 3 == 0) = false := by simpa using h3
    go_wp2_with fail
    go_end0
    exact ⟨rfl, HE.out⟩
end Go.Proofs.Ytogbakgmkiiboaa
