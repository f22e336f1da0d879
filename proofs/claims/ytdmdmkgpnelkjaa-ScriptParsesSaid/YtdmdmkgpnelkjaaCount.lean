/- count: the number of things that come next. -/
import Derived.Test.YtdmdmkgpnelkjaaReader
namespace Go.Proofs.Ytdmdmkgpnelkjaa
open Go.ChangeShapes Go.WideShapes Go.ChangeAt Go.RowKit
set_option linter.unusedVariables false

theorem i64_id (n : Int) (h0 : 0 ≤ n) (h1 : n < 2 ^ 63) : IntKind.i64.wrap n = n := IntWalk.i64_in _ (by omega)
theorem i64_or0 (x : Int) (h0 : 0 ≤ x) (h1 : x < 256) : bits .or .i64 0 x = x := by
  have := bits_join_low .i64 63 (by decide) i64_id 0 0 x (by omega) (by omega) (by omega) h0 (by omega) (by omega)
  omega
theorem i64_or8 (y x : Int) (h0 : 0 ≤ y) (h1 : y < 256) (h2 : 0 ≤ x) (h3 : x < 65536) (h4 : x % 256 = 0) : bits .or .i64 y x = y + x :=
  bits_join_low .i64 63 (by decide) i64_id 8 y x h0 (by omega) (by omega) h2 (by omega) (by omega)
/-- What count leaves: a number and an error, and the reader behind the bytes. -/
structure Counted (w : World) (B : Nat) (k : Nat) (bs : List Int) (c : Cf) (x y z : Sl) (v er : Int) (W : World) (e : Ending) (W' : World) : Prop where
  ex : ∃ q : Sl, e = .returned (.tuple #[.int .i64 v, .int .i64 er]) ∧ Rr w B q (bs.drop k) c x y z W' ∧ W.grownBy W' (some B)

set_option maxRecDepth 100000 in
theorem count_short {w W : World} {B : Nat} {r : Sl} {bs : List Int} {c : Cf} {x y z : Sl} (h : Rr w B r bs c x y z W) (n : Nat) (m : Int) (hn : bs.length < n) (hm : n ≤ 1000000) :
    Calls Try.prog 36 #[.pointer (some ⟨B, 0, none⟩), .int .i64 n, .int .i64 m] W fun e W' => e = .returned (.tuple #[.int .i64 0, .int .i64 9]) ∧ W' = W := by
  have KT := take_short h n hn hm
  clear h hn hm
  go_enter Try.func36, Try.ntmps36
  go_wp2_with fail
  refine KT.mono ?_
  rintro e w1 ⟨rfl, rfl⟩
  go_wp2
  refine bodyPost_ret (v := .tuple #[.int .i64 0, .int .i64 9]) (by simp [results, Try.results36, go_sem]) rfl ⟨rfl, rfl⟩

set_option maxRecDepth 100000 in
set_option maxHeartbeats 4000000 in
theorem count_one {w W : World} {B : Nat} {r : Sl} {bs : List Int} {c : Cf} {x y z : Sl} (h : Rr w B r bs c x y z W) (hn : 1 ≤ bs.length) (v er : Int)
    (hv : (48 < byteAt bs 0 ∧ v = 0 ∧ er = 10) ∨ (¬ 48 < byteAt bs 0 ∧ v = byteAt bs 0 ∧ er = 0)) :
    Calls Try.prog 36 #[.pointer (some ⟨B, 0, none⟩), .int .i64 1, .int .i64 48] W (Counted w B 1 bs c x y z v er W) := by
  have KT := take_long h 1 hn
  obtain ⟨b0, b1⟩ := h.rest.bytes 0
  clear h
  go_enter Try.func36, Try.ntmps36
  go_wp2_with fail
  refine KT.mono ?_
  rintro e w1 ⟨p, q, rfl, hp, hq, hg⟩
  obtain ⟨bb, off, ha, hc⟩ := (hp.below hq.bel).at 0 (by have := hp.len; rw [List.length_take] at this; omega)
  have hpn := hp.len
  rw [List.length_take, Nat.min_eq_left hn] at hpn
  rw [byteAt_take _ _ _ (by omega)] at hc
  obtain ⟨pa, pn, pc⟩ := p
  dsimp only at ha hpn
  subst ha hpn
  simp only [Nat.add_zero] at hc
  have HQ := Lib.hid hq
  have HG := Lib.hid hg
  clear hp hq hg KT
  generalize byteAt bs 0 = b at *
  have w0 : IntKind.i64.wrap b = b := IntWalk.i64_in _ (by omega)
  have o0 := i64_or0 b b0 b1
  rcases hv with ⟨hv, rfl, rfl⟩ | ⟨hv, rfl, rfl⟩
  · go_wp2
    go_rounds 2
    refine bodyPost_ret (v := .tuple #[.int .i64 0, .int .i64 10]) (by simp [results, Try.results36, go_sem]) rfl ⟨q, rfl, HQ.out, HG.out⟩
  · go_wp2
    go_rounds 2
    refine bodyPost_ret (v := .tuple #[.int .i64 v, .int .i64 0]) (by simp [results, Try.results36, go_sem]) rfl ⟨q, rfl, HQ.out, HG.out⟩
set_option maxRecDepth 100000 in
set_option maxHeartbeats 4000000 in
theorem count_two {w W : World} {B : Nat} {r : Sl} {bs : List Int} {c : Cf} {x y z : Sl} (h : Rr w B r bs c x y z W) (hn : 2 ≤ bs.length) (v er : Int)
    (hv : (60000 < byteAt bs 0 + 256 * byteAt bs 1 ∧ v = 0 ∧ er = 10) ∨ (¬ 60000 < byteAt bs 0 + 256 * byteAt bs 1 ∧ v = byteAt bs 0 + 256 * byteAt bs 1 ∧ er = 0)) :
    Calls Try.prog 36 #[.pointer (some ⟨B, 0, none⟩), .int .i64 2, .int .i64 60000] W (Counted w B 2 bs c x y z v er W) := by
  have KT := take_long h 2 hn
  obtain ⟨b0, b1⟩ := h.rest.bytes 0
  obtain ⟨d0, d1⟩ := h.rest.bytes 1
  clear h
  go_enter Try.func36, Try.ntmps36
  go_wp2_with fail
  refine KT.mono ?_
  rintro e w1 ⟨p, q, rfl, hp, hq, hg⟩
  have hpn := hp.len
  rw [List.length_take, Nat.min_eq_left hn] at hpn
  obtain ⟨bb, off, ha, hc⟩ := (hp.below hq.bel).at 0 (by omega)
  obtain ⟨bb', off', ha', hc'⟩ := (hp.below hq.bel).at 1 (by omega)
  rw [byteAt_take _ _ _ (by omega)] at hc hc'
  obtain ⟨pa, pn, pc⟩ := p
  dsimp only at ha ha' hpn
  rw [ha] at ha'
  simp only [Option.some.injEq, Addr.mk.injEq, and_true] at ha'
  obtain ⟨rfl, rfl⟩ := ha'
  subst ha hpn
  simp only [Nat.add_zero] at hc
  have HQ := Lib.hid hq
  have HG := Lib.hid hg
  clear hp hq hg KT
  generalize byteAt bs 0 = b at *
  generalize byteAt bs 1 = d at *
  have w0 : IntKind.i64.wrap b = b := IntWalk.i64_in _ (by omega)
  have w1 : IntKind.i64.wrap d = d := IntWalk.i64_in _ (by omega)
  have w2 : IntKind.i64.wrap (d * 256) = d * 256 := IntWalk.i64_in _ (by omega)
  have o0 := i64_or0 b b0 b1
  have o1 := i64_or8 b (d * 256) b0 b1 (by omega) (by omega) (by omega)
  have e : b + 256 * d = b + d * 256 := by omega
  rw [e] at hv
  clear e
  rcases hv with ⟨hv, rfl, rfl⟩ | ⟨hv, rfl, rfl⟩
  · go_wp2
    go_rounds 3
    refine bodyPost_ret (v := .tuple #[.int .i64 0, .int .i64 10]) (by simp [results, Try.results36, go_sem]) rfl ⟨q, rfl, HQ.out, HG.out⟩
  · go_wp2
    go_rounds 3
    refine bodyPost_ret (v := .tuple #[.int .i64 (b + d * 256), .int .i64 0]) (by simp [results, Try.results36, go_sem]) rfl ⟨q, rfl, HQ.out, HG.out⟩
end Go.Proofs.Ytdmdmkgpnelkjaa
