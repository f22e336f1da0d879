/- The document's Decode. -/
import Derived.Test.YtifojpkcegefgaaDoorDecode
namespace Go.Proofs.YtifojpkcegefgaaDoor
open Go.ChangeShapes Go.WideShapes Go.ChangeAt Go.RowKit
set_option linter.unusedVariables false

theorem Rd.at {w : World} {a : Option Addr} {n cap : Nat} {bs : List Int} (h : Rd w a n cap bs) (j : Nat) (hj : j < n) : ∃ b off, a = some ⟨b, off, none⟩ ∧ w.cell? ⟨b, off + j, none⟩ = some (.int .u8 (byteAt bs j)) := by
  rcases h.form with ⟨_, rfl, _⟩ | ⟨x, rfl, hx⟩
  · omega
  · have hlen := h.len
    have key : ∀ i, i < n → w.cell? (x.add i) = some (.int .u8 (byteAt bs i)) := fun i hi => hx i _ (by simp [encB, byteAt, List.getD_eq_getElem?_getD, List.getElem?_eq_getElem (show i < bs.length by omega)])
    have h0 := key 0 (by omega)
    obtain ⟨b, off, spot⟩ := x
    have hspot : spot = none := by simpa [Addr.add] using World.cell?_spot h0
    subst hspot
    exact ⟨b, off, rfl, by rw [← Go.WideShapes.add_plain]; exact key j hj⟩
/-- The array of the first i bytes. -/
def rowN (bs : List Int) (i : Nat) : Array Value := ((List.range 9).map fun j => Value.int .u32 (if j < i then byteAt bs j else 0)).toArray
theorem rowN_zero (bs : List Int) : rowN bs 0 = #[.int .u32 0, .int .u32 0, .int .u32 0, .int .u32 0, .int .u32 0, .int .u32 0, .int .u32 0, .int .u32 0, .int .u32 0] := rfl
theorem rowN_at (bs : List Int) (i j : Nat) (h : j < 9) : (rowN bs i)[j]? = some (.int .u32 (if j < i then byteAt bs j else 0)) := by
  simp [rowN, List.getElem?_range h]
theorem rowN_set (bs : List Int) (i : Nat) (h : i < 9) : (rowN bs i).setIfInBounds i (.int .u32 (byteAt bs i)) = rowN bs (i + 1) := by
  apply Array.ext_getElem?
  intro j
  rw [Array.getElem?_setIfInBounds]
  by_cases hj : j < 9
  · rw [rowN_at bs i j hj, rowN_at bs (i + 1) j hj]
    by_cases e : i = j
    · subst e
      simp [rowN, h]
    · rw [if_neg e]
      congr 2
      by_cases h1 : j < i
      · rw [if_pos h1, if_pos (by omega)]
      · rw [if_neg h1, if_neg (by omega)]
  · rw [if_neg (by omega)]
    simp [rowN, hj]
theorem byteAt_end (bs : List Int) (j : Nat) (h : bs.length ≤ j) : byteAt bs j = 0 := by
  simp [byteAt, List.getD_eq_getElem?_getD, List.getElem?_eq_none h]
/-- What the loop keeps: i bytes are in the array. -/
structure RS (w : World) (bs : List Int) (i : Nat) (W : World) : Prop where
  row : Blk W (w.heap.size + 1) 59 (rowN bs i)
  res : Blk W w.heap.size 24 #[.int .i64 0, .int .u32 0, .int .u32 0]
  bel : Below w.heap.size w W
theorem RS.start (w : World) (bs : List Int) : RS w bs 0 ((w.alloc (.cells #[.int .i64 0, .int .u32 0, .int .u32 0] 24)).alloc (.cells #[.int .u32 0, .int .u32 0, .int .u32 0, .int .u32 0, .int .u32 0, .int .u32 0, .int .u32 0, .int .u32 0, .int .u32 0] 59)) := by
  refine ⟨?_, (Blk.new _ _ _).alloc _, ((Below.refl w.heap.size w).alloc (Nat.le_refl _) _).alloc (by simp) _⟩
  rw [rowN_zero]
  have := Blk.new (w.alloc (.cells #[.int .i64 0, .int .u32 0, .int .u32 0] 24)) 59 (#[.int .u32 0, .int .u32 0, .int .u32 0, .int .u32 0, .int .u32 0, .int .u32 0, .int .u32 0, .int .u32 0, .int .u32 0] : Array Value)
  simpa using this
theorem RS.set {w W : World} {bs : List Int} {i : Nat} (h : RS w bs i W) (hi : i < 9) : RS w bs (i + 1) (W.setCell ⟨w.heap.size + 1, i, none⟩ (.int .u32 (byteAt bs i))) :=
  ⟨by have := h.row.set i (.int .u32 (byteAt bs i)); rwa [rowN_set bs i hi] at this, h.res.far (by simp) _, below_set h.bel (p := ⟨w.heap.size + 1, i, none⟩) (by simp) _⟩

set_option maxRecDepth 100000 in
set_option maxHeartbeats 4000000 in
theorem refDecode_any (a : Option Addr) (n cap : Nat) (bs : List Int) (w : World) (h : Rd w a n cap bs) :
    Calls Tryd.prog 22 #[.slice a n cap] w fun e w' => e = .returned (decT bs).v ∧ Below w.heap.size w w' := by
  have S0 := Lib.hid (RS.start w bs)
  have hlen := h.len
  have hm := h.room
  unfold maxLen at hm
  have HR := Lib.hid h
  clear h
  go_enter Tryd.func22, Tryd.ntmps22
  go_wp2
  go_loopw [4] (fun i wr => ∃ k : Nat, k ≤ 9 ∧ k ≤ n ∧ i = .int .i64 k ∧ Hid (RS w bs k wr)) (fun i _ => 9 - (intOf i).toNat)
  case atStart => exact ⟨0, by omega, by omega, rfl, S0⟩
  case round =>
    obtain ⟨k, h9, hn, rfl, HS⟩ := hrel
    clear S0
    by_cases hk : k < 9 ∧ k < n
    · obtain ⟨bb, off, rfl, q⟩ := (HR.out.below HS.out.bel).at k hk.2
      obtain ⟨y0, y1⟩ := HR.out.bytes k
      have hw := IntWalk.u32_in (byteAt bs k) (by omega)
      have c := HS.out.row.cell k
      rw [rowN_at bs k k hk.1] at c
      have f := HS.out.row.frozen k
      have HT := Lib.hid (HS.out.set hk.1)
      obtain ⟨k9, kn⟩ := hk
      have g9 : (k : Int) < 9 := by omega
      have gn : (k : Int) < n := by omega
      have hi := IntWalk.i64_in ((k : Int) + 1) (by omega)
      clear HR HS
      generalize byteAt bs k = y at *
      go_wp2
      go_roundw
      case rel => exact ⟨k + 1, by omega, by omega, by go_num, HT⟩
      case measure => simp [intOf]; omega
    · have hcell : ∀ j, j < 9 → wr.cell? ⟨w.heap.size + 1, j, none⟩ = some (.int .u32 (byteAt bs j)) := by
        intro j hj
        rw [HS.out.row.cell j, rowN_at bs k j hj]
        by_cases h : j < k
        · rw [if_pos h]
        · rw [if_neg h, byteAt_end bs j (by omega)]
      have c0 := hcell 0 (by omega)
      have c1 := hcell 1 (by omega)
      have c2 := hcell 2 (by omega)
      have c3 := hcell 3 (by omega)
      have c4 := hcell 4 (by omega)
      have c5 := hcell 5 (by omega)
      have c6 := hcell 6 (by omega)
      have c7 := hcell 7 (by omega)
      have c8 := hcell 8 (by omega)
      have hb := HR.out.bytes
      obtain ⟨a0, b0⟩ := hb 0
      obtain ⟨a1, b1⟩ := hb 1
      obtain ⟨a2, b2⟩ := hb 2
      obtain ⟨a3, b3⟩ := hb 3
      obtain ⟨a4, b4⟩ := hb 4
      obtain ⟨a5, b5⟩ := hb 5
      obtain ⟨a6, b6⟩ := hb 6
      obtain ⟨a7, b7⟩ := hb 7
      obtain ⟨a8, b8⟩ := hb 8
      have hd : decT bs = if byteAt bs 0 % 3 = 0 then ⟨0, byteAt bs 1 + byteAt bs 2 * 256 + byteAt bs 3 * 65536 + byteAt bs 4 * 16777216, byteAt bs 5 + byteAt bs 6 * 256 + byteAt bs 7 * 65536 + byteAt bs 8 * 16777216⟩ else ⟨byteAt bs 0 % 3, 0, 0⟩ := rfl
      obtain ⟨d0, d1, d2, f0, f1, f2⟩ := blk_cells HS.out.res
      have hlt := HS.out.res.lt
      have hlt1 := HS.out.row.lt
      have fin : ∀ c, decT bs = c → ∀ e w', e = Ending.returned c.v → Below w.heap.size w w' → (e = .returned (decT bs).v ∧ Below w.heap.size w w') := by
        intro c h e w' h1 h2
        rw [h]
        exact ⟨h1, h2⟩
      clear hcell hb
      generalize byteAt bs 0 = y0 at *
      generalize byteAt bs 1 = y1 at *
      generalize byteAt bs 2 = y2 at *
      generalize byteAt bs 3 = y3 at *
      generalize byteAt bs 4 = y4 at *
      generalize byteAt bs 5 = y5 at *
      generalize byteAt bs 6 = y6 at *
      generalize byteAt bs 7 = y7 at *
      generalize byteAt bs 8 = y8 at *
      have m2 := IntWalk.u32_in (256 * y2) (by omega)
      have m3 := IntWalk.u32_in (65536 * y3) (by omega)
      have m4 := IntWalk.u32_in (16777216 * y4) (by omega)
      have s2 := IntWalk.u32_in (y1 + 256 * y2) (by omega)
      have s3 := IntWalk.u32_in (y1 + 256 * y2 + 65536 * y3) (by omega)
      have s4 := IntWalk.u32_in (y1 + 256 * y2 + 65536 * y3 + 16777216 * y4) (by omega)
      have m6 := IntWalk.u32_in (256 * y6) (by omega)
      have m7 := IntWalk.u32_in (65536 * y7) (by omega)
      have m8 := IntWalk.u32_in (16777216 * y8) (by omega)
      have s6 := IntWalk.u32_in (y5 + 256 * y6) (by omega)
      have s7 := IntWalk.u32_in (y5 + 256 * y6 + 65536 * y7) (by omega)
      have s8 := IntWalk.u32_in (y5 + 256 * y6 + 65536 * y7 + 16777216 * y8) (by omega)
      have r1 : y0.tmod 3 = y0 % 3 := Int.tmod_eq_emod_of_nonneg (by omega)
      have r2 : IntKind.i64.wrap (y0 % 3) = y0 % 3 := IntWalk.i64_in _ (by omega)
      have e1 : y1 + y2 * 256 + y3 * 65536 + y4 * 16777216 = y1 + 256 * y2 + 65536 * y3 + 16777216 * y4 := by omega
      have e2 : y5 + y6 * 256 + y7 * 65536 + y8 * 16777216 = y5 + 256 * y6 + 65536 * y7 + 16777216 * y8 := by omega
      rw [e1, e2] at hd
      clear e1 e2
      have HB := Lib.hid HS.out.bel
      have HK := Lib.hid HS.out.res
      have hsz : w.heap.size ≤ wr.heap.size := Nat.le_of_lt hlt
      have ends : ∀ (c : Tri) (o : Obj), Hid (decT bs = c) → (∀ i u, c.cs[i]? = some u → ((put3 wr w.heap.size c).alloc o).cell? ⟨w.heap.size, i, none⟩ = some u) ∧ (∀ e, e = Ending.returned c.v → e = .returned (decT bs).v ∧ Below w.heap.size w ((put3 wr w.heap.size c).alloc o)) := by
        intro c o h
        refine ⟨fun i u hu => ?_, fun e he => fin c h.out e _ he ((put3_below HB.out (Nat.le_refl _) c).alloc (by simpa [put3, World.setCell] using hsz) o)⟩
        rw [((put3_blk HK.out c).alloc o).cell]
        exact hu
      have HN := Lib.hid ends
      clear fin ends
      by_cases h0 : y0 % 3 = 0
      · rw [if_pos h0] at hd
        obtain ⟨q, E⟩ := HN.out _ (.cells #[.int .i64 0, .int .u32 (y1 + 256 * y2 + 65536 * y3 + 16777216 * y4), .int .u32 (y5 + 256 * y6 + 65536 * y7 + 16777216 * y8)] 24) (Lib.hid hd)
        have q0 := Lib.hid (q 0 _ rfl)
        have q1 := Lib.hid (q 1 _ rfl)
        have q2 := Lib.hid (q 2 _ rfl)
        have HE := Lib.hid E
        clear HS HR HN HB HK E q hd
        rw [h0] at r1 r2
        clear h0
        rcases (show k = 9 ∨ (k < 9 ∧ k = n) by omega) with rfl | ⟨g9, rfl⟩
        · go_wp2
          exact bodyPost_ret (v := Tri.v ⟨0, y1 + 256 * y2 + 65536 * y3 + 16777216 * y4, y5 + 256 * y6 + 65536 * y7 + 16777216 * y8⟩) (by simp [results, Tryd.results22, go_sem, q0.out, q1.out, q2.out]) rfl (HE.out _ rfl)
        · have g : (k : Int) < 9 := by omega
          go_wp2
          exact bodyPost_ret (v := Tri.v ⟨0, y1 + 256 * y2 + 65536 * y3 + 16777216 * y4, y5 + 256 * y6 + 65536 * y7 + 16777216 * y8⟩) (by simp [results, Tryd.results22, go_sem, q0.out, q1.out, q2.out]) rfl (HE.out _ rfl)
      · rw [if_neg h0] at hd
        obtain ⟨q, E⟩ := HN.out _ (.cells #[.int .i64 (y0 % 3), .int .u32 0, .int .u32 0] 24) (Lib.hid hd)
        have q0 := Lib.hid (q 0 _ rfl)
        have q1 := Lib.hid (q 1 _ rfl)
        have q2 := Lib.hid (q 2 _ rfl)
        have HE := Lib.hid E
        have e0 := beq_f h0
        clear HS HR HN HB HK E q hd
        rcases (show k = 9 ∨ (k < 9 ∧ k = n) by omega) with rfl | ⟨g9, rfl⟩
        · go_wp2
          exact bodyPost_ret (v := Tri.v ⟨y0 % 3, 0, 0⟩) (by simp [results, Tryd.results22, go_sem, q0.out, q1.out, q2.out]) rfl (HE.out _ rfl)
        · have g : (k : Int) < 9 := by omega
          go_wp2
          exact bodyPost_ret (v := Tri.v ⟨y0 % 3, 0, 0⟩) (by simp [results, Tryd.results22, go_sem, q0.out, q1.out, q2.out]) rfl (HE.out _ rfl)
end Go.Proofs.YtifojpkcegefgaaDoor
