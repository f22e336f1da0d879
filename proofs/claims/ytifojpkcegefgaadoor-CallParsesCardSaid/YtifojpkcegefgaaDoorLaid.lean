/- laid and lay: numbers of four bytes. -/
import Derived.Test.YtifojpkcegefgaaDoorSaid
import Derived.Lib.EndianBits
namespace Go.Proofs.YtifojpkcegefgaaDoor
open Go.ChangeShapes Go.WideShapes Go.ChangeAt Go.RowKit
set_option linter.unusedVariables false

/-- The number of a row's first i bytes, the lowest one first. -/
def lo (x : Nat → Int) : Nat → Int
  | 0 => 0
  | 1 => x 0
  | 2 => x 0 + x 1 * 256
  | 3 => x 0 + x 1 * 256 + x 2 * 65536
  | _ => x 0 + x 1 * 256 + x 2 * 65536 + x 3 * 16777216
theorem or_zero (y : Int) (h0 : 0 ≤ y) (h1 : y < 4294967296) : bits .or .u32 0 y = y := by
  rw [u32_or 0 y (by omega) (by omega) h0 h1]
  simp
  omega

set_option maxRecDepth 100000 in
set_option maxHeartbeats 4000000 in
theorem laid_any (g off n cap : Nat) (x : Nat → Int) (w : World) (hn : 4 ≤ n) (hx : ∀ j, 0 ≤ x j ∧ x j < 256) (hc : ∀ j, j < 4 → w.cell? ⟨g, off + j, none⟩ = some (.int .u8 (x j))) :
    Calls Tryd.prog 30 #[.slice (some ⟨g, off, none⟩) n cap] w fun e w' => e = .returned (.int .u32 (lo x 4)) ∧ w = w' := by
  obtain ⟨x00, x01⟩ := hx 0
  obtain ⟨x10, x11⟩ := hx 1
  obtain ⟨x20, x21⟩ := hx 2
  obtain ⟨x30, x31⟩ := hx 3
  have c0 := hc 0 (by omega)
  have c1 := hc 1 (by omega)
  have c2 := hc 2 (by omega)
  have c3 := hc 3 (by omega)
  have h0 := or_zero (x 0) x00 (by omega)
  have h1 := u32_or8 (x 0) (x 1 * 256) x00 x01 (by omega) (by omega) (by omega)
  have h2 := u32_or16 (x 0 + x 1 * 256) (x 2 * 65536) (by omega) (by omega) (by omega) (by omega) (by omega)
  have h3 := u32_or24 (x 0 + x 1 * 256 + x 2 * 65536) (x 3 * 16777216) (by omega) (by omega) (by omega) (by omega) (by omega)
  have w0 : IntKind.u32.wrap (x 0) = x 0 := IntWalk.u32_in _ (by omega)
  have w1 : IntKind.u32.wrap (x 1) = x 1 := IntWalk.u32_in _ (by omega)
  have w2 : IntKind.u32.wrap (x 2) = x 2 := IntWalk.u32_in _ (by omega)
  have w3 : IntKind.u32.wrap (x 3) = x 3 := IntWalk.u32_in _ (by omega)
  have s1 : IntKind.u32.wrap (x 1 * 256) = x 1 * 256 := IntWalk.u32_in _ (by omega)
  have s2 : IntKind.u32.wrap (x 2 * 65536) = x 2 * 65536 := IntWalk.u32_in _ (by omega)
  have s3 : IntKind.u32.wrap (x 3 * 16777216) = x 3 * 16777216 := IntWalk.u32_in _ (by omega)
  have n0 : (0 : Int) < n := by omega
  have n1 : (1 : Int) < n := by omega
  have n2 : (2 : Int) < n := by omega
  have n3 : (3 : Int) < n := by omega
  have hl : lo x 4 = x 0 + x 1 * 256 + x 2 * 65536 + x 3 * 16777216 := rfl
  rw [hl]
  clear hl hc hx x00 x01 x10 x11 x20 x21 x30 x31
  generalize x 0 = y0 at *
  generalize x 1 = y1 at *
  generalize x 2 = y2 at *
  generalize x 3 = y3 at *
  simp only [Nat.add_zero] at c0
  go_enter Tryd.func30, Tryd.ntmps30
  go_wp2
  go_rounds 5
  go_ret
  exact ⟨rfl, rfl⟩

/-! ### lay -/
/-- The j-th byte of a number. -/
def byteOf (n : Int) (j : Nat) : Int := n / 256 ^ j % 256
theorem lo_bytes (n : Int) (h0 : 0 ≤ n) (h1 : n < 4294967296) : lo (byteOf n) 4 = n := by
  simp only [lo, byteOf]
  omega
theorem byteOf_lt (n : Int) (j : Nat) : 0 ≤ byteOf n j ∧ byteOf n j < 256 := ⟨Int.emod_nonneg _ (by decide), Int.emod_lt_of_pos _ (by decide)⟩

set_option maxRecDepth 100000 in
set_option maxHeartbeats 4000000 in
theorem lay_any (g off n cap : Nat) (m : Int) (w : World) (h0 : 0 ≤ m) (h1 : m < 4294967296) (hn : 4 ≤ n) (hc : ∀ j, j < 4 → ∃ u, w.cell? ⟨g, off + j, none⟩ = some u) (hf : ∀ j, j < 4 → w.frozen? ⟨g, off + j, none⟩ = false) :
    Calls Tryd.prog 31 #[.slice (some ⟨g, off, none⟩) n cap, .int .u32 m] w fun e w' => e = .returned (.tuple #[]) ∧
      (((w.setCell ⟨g, off, none⟩ (.int .u8 (byteOf m 0))).setCell ⟨g, off + 1, none⟩ (.int .u8 (byteOf m 1))).setCell ⟨g, off + 2, none⟩ (.int .u8 (byteOf m 2))).setCell ⟨g, off + 3, none⟩ (.int .u8 (byteOf m 3)) = w' := by
  obtain ⟨u0, c0⟩ := hc 0 (by omega)
  obtain ⟨u1, c1⟩ := hc 1 (by omega)
  obtain ⟨u2, c2⟩ := hc 2 (by omega)
  obtain ⟨u3, c3⟩ := hc 3 (by omega)
  have f0 := hf 0 (by omega)
  have f1 := hf 1 (by omega)
  have f2 := hf 2 (by omega)
  have f3 := hf 3 (by omega)
  have n0 : (0 : Int) < n := by omega
  have n1 : (1 : Int) < n := by omega
  have n2 : (2 : Int) < n := by omega
  have n3 : (3 : Int) < n := by omega
  have b0 : IntKind.u8.wrap m = byteOf m 0 := by rw [IntKind.wrap_u8]; simp [byteOf]
  have b1 : IntKind.u8.wrap (m / 256) = byteOf m 1 := by rw [IntKind.wrap_u8]; simp [byteOf]
  have b2 : IntKind.u8.wrap (m / 65536) = byteOf m 2 := by rw [IntKind.wrap_u8]; simp [byteOf]
  have b3 : IntKind.u8.wrap (m / 16777216) = byteOf m 3 := by rw [IntKind.wrap_u8]; simp [byteOf]
  simp only [Nat.add_zero] at c0 f0
  clear hc hf
  generalize byteOf m 0 = y0 at *
  generalize byteOf m 1 = y1 at *
  generalize byteOf m 2 = y2 at *
  generalize byteOf m 3 = y3 at *
  go_enter Tryd.func31, Tryd.ntmps31
  go_wp2
  go_rounds 5
  go_end0
  exact ⟨rfl, rfl⟩
end Go.Proofs.YtifojpkcegefgaaDoor
