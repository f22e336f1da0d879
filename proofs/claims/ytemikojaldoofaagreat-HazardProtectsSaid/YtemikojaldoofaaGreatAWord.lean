/- Words: Ver, Ptr, Next; Thread; the steps of a memory that nobody watches; lead. -/
import Derived.Test.YtemikojaldoofaaGreatKMac
import Derived.Test.YtemikojaldoofaaGreatWWalks
import Derived.Deep.RegionWith
import Derived.Deep.Cut
import Derived.Deep.CutRange
namespace Go.Proofs.YtemikojaldoofaaGreat
open Go.ChangeShapes Go.WideShapes Go.ChangeAt Go.RowKit
set_option linter.unusedVariables false

set_option maxRecDepth 20000

theorem ver_any (x : Int) (w : World) (h0 : 0 ≤ x) (h1 : x < 18446744073709551616) :
    Calls Tryz.prog 108 #[.int .u64 x] w fun e w' => e = .returned (.int .u64 (x / 131072)) ∧ w = w' := by
  go_enter Tryz.func108, Tryz.ntmps108
  go_wp2
  go_ret
  exact ⟨rfl, rfl⟩
theorem ptr_any (x : Int) (w : World) (h0 : 0 ≤ x) (h1 : x < 18446744073709551616) :
    Calls Tryz.prog 67 #[.int .u64 x] w fun e w' => e = .returned (.int .i64 (x / 2 % 65536)) ∧ w = w' := by
  go_enter Tryz.func67, Tryz.ntmps67
  go_wp2
  go_ret
  exact ⟨rfl, rfl⟩
/-- The next word. -/
def nextW (x p : Int) : Int := (x / 131072 + 1) % 140737488355328 * 131072 + p % 65536 * 2
theorem next_any (x p : Int) (w : World) (h0 : 0 ≤ x) (h1 : x < 18446744073709551616) (h2 : 0 ≤ p) (h3 : p < 9223372036854775808) :
    Calls Tryz.prog 100 #[.int .u64 x, .int .i64 p, .bool false] w fun e w' => e = .returned (.int .u64 (nextW x p)) ∧ w = w' := by
  go_enter Tryz.func100, Tryz.ntmps100
  go_wp2_with (go_at_call 108; refine (ver_any _ _ h0 h1).mono ?_; rintro e w' ⟨rfl, rfl⟩)
  refine (W.pack_any _ _ _ _ (by omega) (by omega) (by omega) (by omega)).mono ?_
  rintro e w' ⟨rfl, rfl⟩
  go_wp2
  go_ret
  exact ⟨ret_int (by simp [nextW, W.mk]), rfl⟩
theorem thread_nil (i : Int) (w : World) : Calls Tryz.prog 17 #[.pointer none, .int .i64 i] w fun e w' => e = .returned (.pointer none) ∧ w = w' := by
  go_enter Tryz.func17, Tryz.ntmps17
  go_wp2
  go_ret
  exact ⟨rfl, rfl⟩
theorem thread_yes (B T n k : Nat) (w : World) (hn : n ≤ 6) (h10 : w.cell? ⟨B, 10, none⟩ = some (.slice (some ⟨T, 0, none⟩) n n)) (hi : k < n) : Calls Tryz.prog 17 #[at0 B, .int .i64 k] w fun e w' => e = .returned (.pointer (some ⟨T, k * 10, none⟩)) ∧ w = w' := by
  have h1 : ¬ (k : Int) < 0 := by omega
  have h2 : ¬ (n : Int) ≤ k := by omega
  go_enter Tryz.func17, Tryz.ntmps17
  go_wp2
  go_ret
  exact ⟨rfl, rfl⟩

/-- A memory that nobody watches. -/
abbrev mk (ws : List Int) (st : Int) : MS := ⟨ws, st, false, []⟩
/-- A machine whose memory nobody watches, with a ghost. -/
abbrev AS (g t : Nat) (ws : List Int) (st : Int) (G : G.GS) (ts : Nat → Th) : Sg := ⟨mk ws st, some (g, t, G), false, ts⟩
theorem mk_fine {ws : List Int} {st : Int} (h0 : 0 ≤ st) (h1 : st ≤ 1000000) (hl : ws.length ≤ 4096) : (mk ws st).fine := ⟨h0, by show st ≤ 1000000000; omega, by simp, hl⟩
theorem right1 {k a : Int} {n : Nat} (hk0 : 0 ≤ k) (hk : k < 4) (h0 : 0 ≤ a) (h1 : a < n) : rightB k a 0 n = true := by unfold rightB inB; simp; omega
theorem place_low (c : P.Cf) {a : Int} (h : c.Ok) (h0 : 0 ≤ a) (h1 : a < c.o3) : (c.place a).1 ≠ 3 := by
  unfold P.Cf.place
  rw [if_neg (by omega)]
  by_cases q1 : a < 8
  · rw [if_pos q1]; simp
  · rw [if_neg q1]
    by_cases q2 : a < c.o2
    · rw [if_pos q2]; simp
    · rw [if_neg q2, if_pos h1]; simp
theorem touch_low (c : P.Cf) {a : Int} (h : c.Ok) (h0 : 0 ≤ a) (h1 : a < c.o3) (g t : Nat) (s : G.GS) : touchM c [a] (some (g, t, s)) = some (g, t, s) := by
  simp [touchM, touchG, place_low c h h0 h1]

variable {c : P.Cf} {B Fb T : Nat} {X : Nat → Prop} {W W' : World} {g t : Nat} {ws : List Int} {st : Int} {G : G.GS} {ts : Nat → Th}
theorem aload (hc : c.Ok) (h : Mac c B Fb T X (AS g t ws st G ts) W) (hl : ws.length = c.size.toNat) (hs : 0 ≤ st ∧ st ≤ 1000000) {a : Int} (h0 : 0 ≤ a) (h1 : a < c.o3) :
    Calls Tryz.prog 69 #[at0 B, .int .i64 a] W fun e W' => e = .returned (.int .u64 (wordAt ws a.toNat)) ∧ MacT c B Fb T (AS g t ws (st + 1) G ts) X W W' ∧ Still W W' := by
  have hz := hc.steps
  have hr : rightB 0 a 0 ws.length = true := right1 (by omega) (by omega) h0 (by omega)
  have := h.one (K := 69) (args := #[at0 B, .int .i64 a]) fun O hm => kload B c Fb T (mk ws st) (some (g, t, G)) false O a W hc hm (mk_fine hs.1 hs.2 (by omega)) (by unfold P.I64; omega)
  simp only [valR, msR, hr, if_true, touch_low c hc h0 h1] at this
  refine this.mono ?_
  rintro e W' ⟨rfl, h2, h3⟩
  refine ⟨?_, ?_, h3⟩
  · simp [act]
  · simpa [act, MS.counted] using h2
theorem astore (hc : c.Ok) (h : Mac c B Fb T X (AS g t ws st G ts) W) (hl : ws.length = c.size.toNat) (hs : 0 ≤ st ∧ st ≤ 1000000) {a : Int} (x : Int) (h0 : 0 ≤ a) (h1 : a < c.o3) :
    Calls Tryz.prog 68 #[at0 B, .int .i64 a, .int .u64 x] W fun e W' => e = .returned (.tuple #[]) ∧ MacT c B Fb T (AS g t (ws.set a.toNat x) (st + 1) G ts) X W W' ∧ Still W W' := by
  have hz := hc.steps
  have hr : rightB 1 a 0 ws.length = true := right1 (by omega) (by omega) h0 (by omega)
  have := h.one (K := 68) (args := #[at0 B, .int .i64 a, .int .u64 x]) fun O hm => kstore B c Fb T (mk ws st) (some (g, t, G)) false O a x W hc hm (mk_fine hs.1 hs.2 (by omega)) (by unfold P.I64; omega)
  simp only [msR, hr, if_true, touch_low c hc h0 h1] at this
  refine this.mono ?_
  rintro e W' ⟨rfl, h2, h3⟩
  refine ⟨rfl, ?_, h3⟩
  simpa [act, MS.counted] using h2
theorem acas_yes (hc : c.Ok) (h : Mac c B Fb T X (AS g t ws st G ts) W) (hl : ws.length = c.size.toNat) (hs : 0 ≤ st ∧ st ≤ 1000000) {a : Int} (o x : Int) (h0 : 0 ≤ a) (h1 : a < c.o3) (ho : wordAt ws a.toNat = o) :
    Calls Tryz.prog 101 #[at0 B, .int .i64 a, .int .u64 o, .int .u64 x] W fun e W' => e = .returned (.bool true) ∧ MacT c B Fb T (AS g t (ws.set a.toNat x) (st + 1) G ts) X W W' ∧ Still W W' := by
  have hz := hc.steps
  have hr : rightB 2 a 0 ws.length = true := right1 (by omega) (by omega) h0 (by omega)
  have := h.one (K := 101) (args := #[at0 B, .int .i64 a, .int .u64 o, .int .u64 x]) fun O hm => kcas B c Fb T (mk ws st) (some (g, t, G)) false O a o x W hc hm (mk_fine hs.1 hs.2 (by omega)) (by unfold P.I64; omega)
  simp only [okR, msR, hr, if_true, touch_low c hc h0 h1] at this
  refine this.mono ?_
  rintro e W' ⟨rfl, h2, h3⟩
  refine ⟨?_, ?_, h3⟩
  · simp [act, ho]
  · simpa [act, MS.counted, ho] using h2
theorem acas_no (hc : c.Ok) (h : Mac c B Fb T X (AS g t ws st G ts) W) (hl : ws.length = c.size.toNat) (hs : 0 ≤ st ∧ st ≤ 1000000) {a : Int} (o x : Int) (h0 : 0 ≤ a) (h1 : a < c.o3) (ho : wordAt ws a.toNat ≠ o) :
    Calls Tryz.prog 101 #[at0 B, .int .i64 a, .int .u64 o, .int .u64 x] W fun e W' => e = .returned (.bool false) ∧ MacT c B Fb T (AS g t ws (st + 1) G ts) X W W' ∧ Still W W' := by
  have hz := hc.steps
  have hr : rightB 2 a 0 ws.length = true := right1 (by omega) (by omega) h0 (by omega)
  have := h.one (K := 101) (args := #[at0 B, .int .i64 a, .int .u64 o, .int .u64 x]) fun O hm => kcas B c Fb T (mk ws st) (some (g, t, G)) false O a o x W hc hm (mk_fine hs.1 hs.2 (by omega)) (by unfold P.I64; omega)
  simp only [okR, msR, hr, if_true, touch_low c hc h0 h1] at this
  refine this.mono ?_
  rintro e W' ⟨rfl, h2, h3⟩
  refine ⟨?_, ?_, h3⟩
  · simp [act, ho]
  · simpa [act, MS.counted, ho] using h2
theorem atook (hc : c.Ok) (h : Mac c B Fb T X (AS g t ws st G ts) W) (i : Int) :
    Calls Tryz.prog 89 #[at0 B, .int .i64 i] W fun e W' => e = .returned (.tuple #[]) ∧ MacT c B Fb T (AS g t ws st (G.then c.nd.toNat 0 i) ts) X W W' ∧ Still W W' :=
  h.one fun O hm => took_some B g t c Fb T (mk ws st) G false O i W hc hm
theorem agone (hc : c.Ok) (h : Mac c B Fb T X (AS g t ws st G ts) W) (i : Int) :
    Calls Tryz.prog 71 #[at0 B, .int .i64 i] W fun e W' => e = .returned (.tuple #[]) ∧ MacT c B Fb T (AS g t ws st (G.then c.nd.toNat 1 i) ts) X W W' ∧ Still W W' :=
  h.one fun O hm => gone_some B g t c Fb T (mk ws st) G false O i W hc hm
theorem afreed (hc : c.Ok) (h : Mac c B Fb T X (AS g t ws st G ts) W) (i : Int) :
    Calls Tryz.prog 90 #[at0 B, .int .i64 i] W fun e W' => e = .returned (.tuple #[]) ∧ MacT c B Fb T (AS g t ws st (G.then c.nd.toNat 2 i) ts) X W W' ∧ Still W W' :=
  h.one fun O hm => freed_some B g t c Fb T (mk ws st) G false O i W hc hm

/-- lead: the word Free is changed, if it is as it was read. -/
theorem lead_yes (hc : c.Ok) (h : Mac c B Fb T X (AS g t ws st G ts) W) (hl : ws.length = c.size.toNat) (hs : 0 ≤ st ∧ st ≤ 1000000) (o n : Int) (o0 : 0 ≤ o) (o1 : o < 18446744073709551616) (n0 : 0 ≤ n) (n1 : n < 9223372036854775808) (ho : wordAt ws 0 = o) :
    Calls Tryz.prog 88 #[at0 B, .int .u64 o, .int .u64 n] W fun e W' => e = .returned (.bool true) ∧ MacT c B Fb T (AS g t (ws.set 0 (nextW o n)) (st + 1) G ts) X W W' ∧ Still W W' := by
  have hz := hc.steps
  have KN := next_any o n W o0 o1 n0 n1
  have KC := acas_yes hc h hl hs (a := 0) o (nextW o n) (by omega) (by omega) ho
  have hw : IntKind.i64.wrap n = n := IntWalk.i64_in _ (by omega)
  generalize nextW o n = x at *
  clear h ho hl hs hz
  go_enter Tryz.func88, Tryz.ntmps88
  go_wp2_with fail
  refine KN.mono ?_
  rintro e v ⟨rfl, rfl⟩
  go_wp2_with fail
  refine KC.mono ?_
  rintro e v ⟨rfl, h2, h3⟩
  have H := Lib.hid (And.intro h2 h3)
  clear h2 h3 KC KN
  go_wp2
  go_ret
  exact ⟨rfl, H.out⟩
theorem lead_no (hc : c.Ok) (h : Mac c B Fb T X (AS g t ws st G ts) W) (hl : ws.length = c.size.toNat) (hs : 0 ≤ st ∧ st ≤ 1000000) (o n : Int) (o0 : 0 ≤ o) (o1 : o < 18446744073709551616) (n0 : 0 ≤ n) (n1 : n < 9223372036854775808) (ho : wordAt ws 0 ≠ o) :
    Calls Tryz.prog 88 #[at0 B, .int .u64 o, .int .u64 n] W fun e W' => e = .returned (.bool false) ∧ MacT c B Fb T (AS g t ws (st + 1) G ts) X W W' ∧ Still W W' := by
  have hz := hc.steps
  have KN := next_any o n W o0 o1 n0 n1
  have KC := acas_no hc h hl hs (a := 0) o (nextW o n) (by omega) (by omega) ho
  have hw : IntKind.i64.wrap n = n := IntWalk.i64_in _ (by omega)
  generalize nextW o n = x at *
  clear h ho hl hs hz
  go_enter Tryz.func88, Tryz.ntmps88
  go_wp2_with fail
  refine KN.mono ?_
  rintro e v ⟨rfl, rfl⟩
  go_wp2_with fail
  refine KC.mono ?_
  rintro e v ⟨rfl, h2, h3⟩
  have H := Lib.hid (And.intro h2 h3)
  clear h2 h3 KC KN
  go_wp2
  go_ret
  exact ⟨rfl, H.out⟩
end Go.Proofs.YtemikojaldoofaaGreat
