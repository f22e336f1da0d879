/- Slices of bytes that came in; bytes as a text. -/
import Derived.Test.YtdhdomeckloedaaDoorBytes
import Derived.Lib.Walk
namespace Go.Proofs.YtdhdomeckloedaaDoor
open Go.ChangeShapes Go.WideShapes Go.ChangeAt Go.RowKit
set_option linter.unusedVariables false

/-- The frame's word on a slice of integers that came in. -/
def IsRow (k : IntKind) (w : World) (a : Option Addr) (len cap : Nat) (zs : List Int) : Prop :=
  (a = none ∧ len = 0 ∧ cap = 0 ∧ zs = []) ∨
  ∃ x, a = some x ∧ len ≤ cap ∧ cap ≤ maxLen ∧ zs.length = cap ∧ (∀ i, i < zs.length → w.cell? (x.add i) = some (.int k (zs.getD i 0))) ∧ ∀ n ∈ zs, (Lit.int k n).wf = true
theorem rd_of {w : World} {a : Option Addr} {n cap : Nat} {zs : List Int} (h : IsRow .u8 w a n cap zs) : Rd w a n cap (zs.take n) := by
  rcases h with ⟨rfl, rfl, rfl, rfl⟩ | ⟨x, rfl, hl, hm, hz, hc, hw⟩
  · exact ⟨rfl, ⟨Nat.le_refl _, by simp [maxLen]⟩, .inl ⟨rfl, rfl, rfl⟩, fun j => by simp [byteAt]⟩
  · refine ⟨by rw [List.length_take]; omega, ⟨hl, hm⟩, .inr ⟨x, rfl, fun j u hj => ?_⟩, fun j => ?_⟩
    · rw [encB, List.getElem?_map, Option.map_eq_some_iff] at hj
      obtain ⟨y, hy, rfl⟩ := hj
      rw [List.getElem?_take] at hy
      split at hy
      · next hjn =>
        rw [hc j (by omega)]
        simp [List.getD_eq_getElem?_getD, hy]
      · cases hy
    · unfold byteAt
      by_cases hj : j < (zs.take n).length
      · have := hw ((zs.take n)[j]) (List.mem_of_mem_take (List.getElem_mem hj))
        simp [Lit.wf, IntKind.min, IntKind.max, IntKind.signed, IntKind.bits] at this
        rw [List.getD_eq_getElem?_getD, List.getElem?_eq_getElem hj]
        simp
        omega
      · simp [List.getElem?_eq_none (show (zs.take n).length ≤ j by omega)]

theorem Rd.nil {w : World} {n cap : Nat} {bs : List Int} (h : Rd w none n cap bs) : n = 0 := by
  rcases h.form with ⟨_, e, _⟩ | ⟨x, e, _⟩
  · exact e
  · cases e
/-- Bytes as a text. -/
def u8 (z : Int) : UInt8 := UInt8.ofNat z.toNat
theorem u8_int {z : Int} (h : 0 ≤ z ∧ z < 256) : ((u8 z).toNat : Int) = z := by
  unfold u8
  rw [UInt8.toNat_ofNat']
  omega
theorem to_text (W : World) (x : Addr) (cap : Nat) (zs : List Int) (hz : ∀ j, j < zs.length → 0 ≤ byteAt zs j ∧ byteAt zs j < 256) (hc : ∀ j, j < zs.length → W.cell? (x.add j) = some (.int .u8 (byteAt zs j))) :
    (convert 29 9 (.slice (some x) zs.length cap)).run Tryd.prog W = .ok (.string ⟨(zs.map u8).toArray⟩) W := by
  have h := run_convert_bytes_back (P := Tryd.prog) W 29 9 5 x cap (zs.map u8) Tryd.underlying29 Tryd.underlying5 Tryd.underlying9 (fun j hj => by
    have hj' : j < zs.length := by simpa using hj
    rw [hc j hj']
    have e := u8_int (hz j hj')
    have e2 : byteAt zs j = zs[j] := by simp [byteAt, List.getD, hj']
    rw [e2] at e ⊢
    simp [e])
  simpa using h
end Go.Proofs.YtdhdomeckloedaaDoor
