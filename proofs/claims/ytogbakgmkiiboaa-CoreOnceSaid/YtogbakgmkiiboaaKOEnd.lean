/- CoreOnce: a step of no thread, of no machine, with no routine. -/
import Derived.Test.YtogbakgmkiiboaaKOStep
namespace Go.Proofs.Ytogbakgmkiiboaa
open Go.ChangeShapes Go.WideShapes Go.ChangeAt Go.RowKit
set_option linter.unusedVariables false
set_option maxRecDepth 20000

variable {c : P.Cf} {w W W' : World} {Cb B Fb T Cal g t : Nat} {s : G.GS} {l : List Fr} {r0 : Option Int} {ms : MS}
theorem touch_nil (v : Value) (w : World) : Calls Try.prog 63 #[.pointer none, v] w fun e w' => e = .returned (.tuple #[]) ∧ w = w' := by
  go_enter Try.func63, Try.ntmps63
  go_wp2_with fail
  refine (ghost_nil _).mono ?_
  rintro e w' ⟨rfl, rfl⟩
  go_wp2
  exact bodyPost_ret (v := .tuple #[]) (by simp [results, Try.results63, go_sem]) rfl ⟨rfl, rfl⟩
theorem mload_nil (a : Int) (w : World) : Calls Try.prog 42 #[.pointer none, .int .i64 a] w fun e w' => e = .returned (.int .u64 0) ∧ Below w.heap.size w w' := by
  go_enter Try.func42, Try.ntmps42
  go_wp2_with fail
  refine (touch_nil _ _).mono ?_
  rintro e w1 ⟨rfl, rfl⟩
  have hb0 : Hid (Below w.heap.size w (w.alloc (.cells #[.int .i64 a] 3))) := Lib.hid ((Below.refl _ _).alloc (Nat.le_refl _) _)
  go_wp2_with fail
  refine (mem_nil _).mono ?_
  rintro e w1 ⟨rfl, rfl⟩
  go_wp2_with fail
  refine (load_nil _ _).mono ?_
  rintro e w1 ⟨rfl, hb⟩
  have HB := Lib.hid (P.below_then hb0.out hb (Nat.le_refl _))
  clear hb hb0
  go_wp2_with fail
  refine (note_nil _ _).mono ?_
  rintro e w2 ⟨rfl, rfl⟩
  go_wp2
  go_ret
  exact ⟨rfl, HB.out⟩
theorem step_nil (i : Int) (v : Value) (w : World) : Calls Try.prog 44 #[.pointer none, .int .i64 i, v] w fun e w' => e = .returned (.bool false) ∧ w = w' := by
  go_enter Try.func44, Try.ntmps44
  go_wp2_with fail
  refine (thread_nil _ _).mono ?_
  rintro e w1 ⟨rfl, rfl⟩
  go_wp2
  go_ret
  exact ⟨rfl, rfl⟩
theorem step_no (i : Int) (v : Value) (h : OnceS c w Cb B Fb T Cal g t s l r0 ms W) (ht : c.th.toNat ≤ 6) (hi : i < 0 ∨ (c.th.toNat : Int) ≤ i) : Calls Try.prog 44 #[at0 B, .int .i64 i, v] W fun e w' => e = .returned (.bool false) ∧ W = w' := by
  have KT := thread_no B T c.th.toNat i W ht h.thread hi
  clear h ht hi
  go_enter Try.func44, Try.ntmps44
  go_wp2_with fail
  refine KT.mono ?_
  rintro e w1 ⟨rfl, rfl⟩
  go_wp2
  go_ret
  exact ⟨rfl, rfl⟩
theorem step_rest (h : OnceS c w Cb B Fb T Cal g t s [] r0 ms W) (ht : 0 < c.th.toNat ∧ c.th.toNat ≤ 6) : Calls Try.prog 44 #[at0 B, .int .i64 0, .nilFunc] W fun e w' => e = .returned (.bool false) ∧ W = w' := by
  have qn : ∀ w, (binOp .neq 119 .nilFunc .nilFunc).run Try.prog w = .ok (.bool false) w := fun _ => by kernel_rfl
  have KT := thread_yes B T c.th.toNat 0 W ht.2 h.thread ht.1
  simp at KT
  have K := h.topNone
  obtain ⟨M, m7, hM⟩ := h.mem
  have KS := hM W (Below.refl _ _)
  clear hM h ht
  go_enter Try.func44, Try.ntmps44
  go_wp2_with fail
  refine KT.mono ?_
  rintro e v1 ⟨rfl, rfl⟩
  clear KT
  go_wp2_with fail
  refine KS.mono ?_
  rintro e v1 ⟨rfl, rfl⟩
  clear KS m7
  go_wp2_with fail
  go_loopg [] 0 (fun k wr => W = wr)
  case atStart => rfl
  case round =>
    subst hrel
    go_wp2_with fail
    refine K.mono ?_
    rintro e v1 ⟨rfl, rfl⟩
    go_wp2
    go_ret
    exact ⟨rfl, rfl⟩
/-- Another thread has no frame. -/
theorem OnceS.still (h : OnceS c w Cb B Fb T Cal g t s l r0 ms W) {i : Nat} (h0 : 0 < i) (h1 : i < c.th.toNat) : Calls Try.prog 40 #[.pointer (some ⟨T, i * 10, none⟩)] W fun e W' => e = .returned (.pointer none) ∧ W = W' := by
  obtain ⟨cs, v, a1, a2, a3, a4, a5, a6, a7⟩ := h.thr
  exact top_none T (i * 10) _ _ W ((a1.cell _).trans (a7 i h0 h1))
theorem OnceS.ret {x : Int} (h : OnceS c w Cb B Fb T Cal g t s l (some x) ms W) : W.cell? ⟨T, 2, none⟩ = some (.int .u64 x) := by
  obtain ⟨cs, v, a1, a2, a3, a4, a5, a6, a7⟩ := h.thr
  exact (a1.cell _).trans (a6 x rfl)
/-- The machine as New made it. -/
theorem OnceS.born {n : Nat} {bs : List Int} {Cb1 Pb : Nat} {ad : Option Addr} {cap : Nat} {O : Nat → Prop} {w0 : World} (hc : c.Ok) (h : Amid c n bs w0 Cb1 Pb B Fb T ad cap ms (some (g, t, s)) c.th.toNat O W) (hB : P.Blk W Cb 23 c.cs) (hb : Below w.heap.size w W) (hl : w.heap.size ≤ w0.heap.size) :
    OnceS c w Cb B Fb T W.heap.size g t s [] none ms (W.alloc (.cells #[.int .i64 0] 3)) := by
  have hA : Below W.heap.size W (W.alloc (.cells #[.int .i64 0] 3)) := (Below.refl _ _).alloc (Nat.le_refl _) _
  obtain ⟨cs, b1, b2, b3⟩ := h.thr
  have ht := hc.th
  refine ⟨hB.below hA hB.lt, P.below_then hb hA (Nat.le_refl _), ⟨O, h.mach.alloc _, fun k hk => Nat.le_trans hl (h.low k hk), new_i fun k hk => h.mach.lt hk⟩, ⟨0, Blk.new _ _ _⟩, hb.size, ⟨cs, .slice none 0 0, b1.below' hA, b2, ?_, ⟨rfl, .inl ⟨rfl, rfl⟩⟩, (fun k e => by cases e), (fun x e => by cases e), fun i h0 h1 => ?_⟩, Nat.le_trans hl h.tl⟩
  · obtain ⟨p, s, q, hc', _⟩ := b3 0 (by omega)
    exact hc' 1 (by omega)
  · obtain ⟨p, s, q, hc', _⟩ := b3 i h1
    have := hc' 1 (by omega)
    have e : 10 * i = i * 10 := by omega
    rwa [e] at this
end Go.Proofs.Ytogbakgmkiiboaa
