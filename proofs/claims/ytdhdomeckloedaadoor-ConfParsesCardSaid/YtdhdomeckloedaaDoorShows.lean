/- The document's texts. -/
import Derived.Test.YtdhdomeckloedaaDoorRead
import Derived.Test.YtdhdomeckloedaaDoorRight
namespace Go.Proofs.YtdhdomeckloedaaDoor
open Go.ChangeShapes Go.WideShapes Go.ChangeAt Go.RowKit
set_option linter.unusedVariables false
set_option linter.unusedSimpArgs false

/-- A number's digits. -/
def decT (n : Int) : List UInt8 := Lib.decDigits n.toNat
theorem decT_len {n : Int} (h : n < 4294967296) : (decT n).length ≤ 10 := dec_len (by omega)
/-- What an algorithm is called. -/
def algT (al : Int) : List UInt8 := if al = 0 then [109, 111, 117, 110, 100] else if al = 1 then [115, 117, 110, 100, 101, 108, 108] else [108, 105, 110, 100, 101, 110]
theorem algT_len (al : Int) : (algT al).length ≤ 7 := by
  unfold algT
  split
  · decide
  split <;> decide
def thS : List UInt8 := [32, 116, 104, 114, 101, 97, 100, 115, 32]
def ndS : List UInt8 := [32, 110, 111, 100, 101, 115, 32]
def lvS : List UInt8 := [32, 108, 101, 118, 101, 108, 32]
def baS : List UInt8 := [32, 98, 97, 116, 99, 104, 32]
def prS : List UInt8 := [32, 112, 114, 111, 98, 101, 115, 32]
def scS : List UInt8 := [32, 115, 99, 97, 110, 32]
/-- A configuration's text. -/
def showT (c : Cf) : List UInt8 := algT c.al ++ thS ++ decT c.th ++ ndS ++ decT c.nd ++ lvS ++ decT c.lv ++ baS ++ decT c.ba ++ prS ++ decT c.pr ++ scS ++ decT c.sc

theorem app (a b : List UInt8) : (⟨a.toArray⟩ : ByteArray) ++ ⟨b.toArray⟩ = ⟨(a ++ b).toArray⟩ := by
  apply ByteArray.ext
  simp

theorem d_any (n : Int) (h0 : 0 ≤ n) (h1 : n < 4294967296) (w : World) : Calls Tryd.prog 26 #[.int .i64 n] w fun e w' => e = .returned (strV (decT n)) ∧ w' = w := by
  obtain ⟨u, rfl⟩ := Int.eq_ofNat_of_zero_le h0
  have K := refDigits_q u (by omega) w
  have e : decT (u : Int) = Lib.decDigits u := rfl
  rw [e]
  clear e
  generalize Lib.decDigits u = X at *
  have hw : IntKind.u64.wrap (u : Int) = u := by rw [IntKind.wrap_u64]; omega
  go_enter Tryd.func26, Tryd.ntmps26
  go_wp2_with fail
  refine K.mono ?_
  rintro e w' ⟨rfl, rfl⟩
  go_wp2
  go_ret
  exact ⟨rfl, rfl⟩

theorem rshow_bad (c : Cf) (w : World) (h : ¬ c.Ok) : Calls Tryd.prog 14 #[c.v] w fun e w' => e = .returned (strV [63]) ∧ Below w.heap.size w w' := by
  have KR := fun W => right_bad c W h
  clear h
  go_enter Tryd.func14, Tryd.ntmps14
  go_wp2_with fail
  refine (KR _).mono ?_
  rintro e V ⟨rfl, hb⟩
  obtain ⟨hB, h0⟩ := boxed c hb
  go_wp2
  go_ret
  exact ⟨rfl, h0⟩

set_option maxRecDepth 100000 in
set_option maxHeartbeats 16000000 in
/-- From the algorithm's text on. -/
theorem rshow_ok (c : Cf) (w : World) (h : c.Ok) : Calls Tryd.prog 14 #[c.v] w fun e w' => e = .returned (strV (showT c)) ∧ Below w.heap.size w w' := by
  have KR := fun W => right_ok c W h
  obtain ⟨al, th, nd, lv, ba, pr, sc⟩ := c
  obtain ⟨h1, h2, h3, h4, h5, h6, h7, h8, h9, h10, h11, h12, h13, h14⟩ := h
  have hs := sent_in al
  dsimp only at *
  have k1 := fun w => d_any th (by omega) (by omega) w
  have k2 := fun w => d_any nd (by omega) (by omega) w
  have k3 := fun w => d_any lv (by omega) (by omega) w
  have k4 := fun w => d_any ba (by omega) (by omega) w
  have k5 := fun w => d_any pr (by omega) (by omega) w
  have k6 := fun w => d_any sc (by omega) (by omega) w
  have l1 := decT_len (n := th) (by omega)
  have l2 := decT_len (n := nd) (by omega)
  have l3 := decT_len (n := lv) (by omega)
  have l4 := decT_len (n := ba) (by omega)
  have l5 := decT_len (n := pr) (by omega)
  have l6 := decT_len (n := sc) (by omega)
  have la := algT_len al
  have ha : al = 0 ∨ al = 1 ∨ al = 2 := by omega
  have hX : showT ⟨al, th, nd, lv, ba, pr, sc⟩ = algT al ++ thS ++ decT th ++ ndS ++ decT nd ++ lvS ++ decT lv ++ baS ++ decT ba ++ prS ++ decT pr ++ scS ++ decT sc := rfl
  rw [hX]
  clear hX h1 h2 h3 h4 h5 h6 h7 h8 h9 h10 h11 h12 h13 h14 hs
  generalize decT th = x1 at *
  generalize decT nd = x2 at *
  generalize decT lv = x3 at *
  generalize decT ba = x4 at *
  generalize decT pr = x5 at *
  generalize decT sc = x6 at *
  rcases ha with rfl | rfl | rfl
  all_goals
    go_enter Tryd.func14, Tryd.ntmps14
    go_wp2_with fail
    refine (KR _).mono ?_
    rintro e V ⟨rfl, hb⟩
    obtain ⟨hB, h0⟩ := boxed ⟨_, th, nd, lv, ba, pr, sc⟩ hb
    clear hb KR
    obtain ⟨z0, z1, z2, z3, z4, z5, z6⟩ := hB.conf
    dsimp only at z0 z1 z2 z3 z4 z5 z6
    go_wp2_with fail
    go_quiet (first | (go_at_call_of 26 (Value.int .i64 th); exact Calls.quiet_of_same (k1 _)) | (go_at_call_of 26 (Value.int .i64 nd); exact Calls.quiet_of_same (k2 _)) | (go_at_call_of 26 (Value.int .i64 lv); exact Calls.quiet_of_same (k3 _)) | (go_at_call_of 26 (Value.int .i64 ba); exact Calls.quiet_of_same (k4 _)) | (go_at_call_of 26 (Value.int .i64 pr); exact Calls.quiet_of_same (k5 _)) | (go_at_call_of 26 (Value.int .i64 sc); exact Calls.quiet_of_same (k6 _)))
    go_wp2
    go_ret
    refine ⟨?_, below_drewN h0 _⟩
    simp only [app, algT, thS, ndS, lvS, baS, prS, scS]
    rfl
end Go.Proofs.YtdhdomeckloedaaDoor
