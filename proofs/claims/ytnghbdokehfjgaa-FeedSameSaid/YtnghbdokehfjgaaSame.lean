/- The walk of FeedSame. -/
import Derived.Test.YtnghbdokehfjgaaTells
namespace Go.Proofs.Ytnghbdokehfjgaa
open Go.ChangeShapes Go.WideShapes Go.ChangeAt Go.RowKit
set_option linter.unusedVariables false

/-- What is asked: the number that is told, and how many bytes were asked for then. -/
def nx (bs : List Int) (u : Nat) (a : Int) : Int := if a < 1 then 0 else byteAt bs u % a
def up (u : Nat) (a : Int) : Nat := if a < 1 then u else u + 1
theorem nx_low {bs : List Int} {u : Nat} {a : Int} (hb : Bytes bs) : 0 ≤ nx bs u a := by
  unfold nx
  split
  · decide
  · exact Int.emod_nonneg _ (by omega)
theorem nx_high {bs : List Int} {u : Nat} {a : Int} (h : 0 < a) : nx bs u a < a := by
  unfold nx
  rw [if_neg (by omega)]
  exact Int.emod_lt_of_pos _ h
theorem up_le {u : Nat} {a : Int} : up u a ≤ u + 1 := by unfold up; split <;> omega
theorem next_gen (B : Nat) (ad : Option Addr) (n cap : Nat) (bs : List Int) (u : Nat) (a : Int) (w : World) (f : FAt B ad n cap bs u w) (hb : Bytes bs) (hu : u ≤ 10000) :
    Calls Try.prog 7 #[at0 B, .int .i64 a] w (Does B ad n cap bs (.int .i64 (nx bs u a)) (up u a) w) := by
  unfold nx up
  by_cases h : a < 1
  · rw [if_pos h, if_pos h]
    refine (next_low _ a w h).mono ?_
    rintro e w' ⟨rfl, rfl⟩
    exact ⟨rfl, f, Only.refl _ _⟩
  · rw [if_neg h, if_neg h]
    exact next_any B ad n cap bs u a w f hb hu (by omega)
theorem new_own {v : Value} {b n : Nat} {bs : List Int} {w : World} (h : w.ownsRow b 5 1 v n (encB bs)) (h1 : n ≤ 5000) (hn : bs.length = n) : Calls Try.prog 6 #[v] w (NewF n bs w) := by
  rcases h.2 with ⟨rfl, rfl⟩ | ⟨g, cap, cur, rfl, hg, hcur, hnc, hcm, hsz2, htk⟩
  · obtain rfl : bs = [] := by simpa using hn
    exact new_nil w
  · refine new_some ⟨g, 0, none⟩ n cap bs w hn h1 fun j u hj => ?_
    have hjl : j < n := by
      have := (List.getElem?_eq_some_iff.1 hj).1
      rw [encB_len] at this
      omega
    have : (⟨g, 0, none⟩ : Addr).add j = ⟨g, j, none⟩ := by unfold Addr.add; split <;> simp_all
    rw [this, h.cellAt j (by omega)]
    exact hj
/-- Two feeds of the same bytes, u asked of the one, v of the other. -/
structure Two (B : Nat) (ad : Option Addr) (cap B2 : Nat) (ad2 : Option Addr) (cap2 n : Nat) (bs : List Int) (u v : Nat) (w W : World) : Prop where
  f : FAt B ad n cap bs u W
  g : FAt B2 ad2 n cap2 bs v W
  low : w.heap.size ≤ B ∧ w.heap.size ≤ B2
  ne : B ≠ B2 ∧ ad ≠ some ⟨B2, 0, none⟩ ∧ ad2 ≠ some ⟨B, 0, none⟩
  below : Below w.heap.size w W
theorem Two.left {B : Nat} {ad : Option Addr} {cap B2 : Nat} {ad2 : Option Addr} {cap2 n : Nat} {bs : List Int} {u u' v : Nat} {w W W' : World} (h : Two B ad cap B2 ad2 cap2 n bs u v w W)
    (f : FAt B ad n cap bs u' W') (o : Only B W W') : Two B ad cap B2 ad2 cap2 n bs u' v w W' :=
  ⟨f, h.g.only o (fun e => h.ne.1 e.symm) h.ne.2.2, h.low, h.ne, h.below.trans (o.below h.below.size h.low.1)⟩
theorem Two.right {B : Nat} {ad : Option Addr} {cap B2 : Nat} {ad2 : Option Addr} {cap2 n : Nat} {bs : List Int} {u v v' : Nat} {w W W' : World} (h : Two B ad cap B2 ad2 cap2 n bs u v w W)
    (g : FAt B2 ad2 n cap2 bs v' W') (o : Only B2 W W') : Two B ad cap B2 ad2 cap2 n bs u v' w W' :=
  ⟨h.f.only o h.ne.1 h.ne.2.1, g, h.low, h.ne, h.below.trans (o.below h.below.size h.low.2)⟩
theorem Two.drew {B : Nat} {ad : Option Addr} {cap B2 : Nat} {ad2 : Option Addr} {cap2 n : Nat} {bs : List Int} {u v : Nat} {w W : World} (h : Two B ad cap B2 ad2 cap2 n bs u v w W) : Two B ad cap B2 ad2 cap2 n bs u v w W.drew :=
  ⟨h.f.agree h.f.box (Nat.le_refl _) fun _ _ _ _ _ _ => rfl, h.g.agree h.g.box (Nat.le_refl _) fun _ _ _ _ _ _ => rfl, h.low, h.ne, h.below.drew⟩

set_option maxRecDepth 100000 in
theorem same_many (a0 : Option Addr) (n c0 : Nat) (a1 : Option Addr) (m c1 : Nat) (w : World) (h : 5000 < n ∨ 500 < m) : Calls Try.prog 4 #[.slice a0 n c0, .slice a1 m c1] w (Good w) := by
  have L := lives_any w
  by_cases h0 : 5000 < n
  · go_enter Try.func4, Try.ntmps4
    go_wp2_with fail
    refine L.mono ?_
    rintro e w' ⟨rfl, hb⟩
    go_wp2
    go_ret
    exact ⟨rfl, hb⟩
  · have h1 : 500 < m := by omega
    go_enter Try.func4, Try.ntmps4
    go_wp2_with fail
    refine L.mono ?_
    rintro e w' ⟨rfl, hb⟩
    go_wp2
    go_ret
    exact ⟨rfl, hb⟩

theorem two_new {B : Nat} {ad : Option Addr} {cap B2 : Nat} {ad2 : Option Addr} {cap2 n : Nat} {bs : List Int} {w w1 w2 w3 : World}
    (hb : Below w.heap.size w w1) (hf : FAt B ad n cap bs 0 w1) (hB : w.heap.size ≤ B) (had : ∀ g, ad = some ⟨g, 0, none⟩ → w.heap.size ≤ g ∧ g < w1.heap.size) (hb1 : Below w1.heap.size w1 w2)
    (hb2 : Below w2.heap.size w2 w3) (hf2 : FAt B2 ad2 n cap2 bs 0 w3) (hB2 : w2.heap.size ≤ B2) (had2 : ∀ g, ad2 = some ⟨g, 0, none⟩ → w2.heap.size ≤ g ∧ g < w3.heap.size) :
    Two B ad cap B2 ad2 cap2 n bs 0 0 w w3 := by
  have s1 := hb.size
  have s2 := hb1.size
  have hl := hf.box.lt
  have hb12 := hb1.trans (hb2.mono hb1.size)
  exact ⟨hf.below hb12, hf2, ⟨hB, by omega⟩, ⟨by omega, fun e => by have := (had _ e).2; omega, fun e => by have := (had2 _ e).1; omega⟩, hb.trans (hb12.mono hb.size)⟩
theorem owns_none {w : World} {b : Nat} {v : Value} {xs : List Value} {bs : List Int} (h : w.ownsRow b 5 1 v 0 xs) (hx : xs = []) (hn : bs.length = 0) : w.ownsRow b 5 1 v 0 (encB bs) := by
  obtain rfl : bs = [] := by simpa using hn
  rw [hx] at h
  exact h
theorem two_cell {B : Nat} {ad : Option Addr} {cap B2 : Nat} {ad2 : Option Addr} {cap2 n m j : Nat} {bs : List Int} {u v : Nat} {w W : World} {bb off : Nat} {F : Nat → Int} {a : Int}
    (h : ∀ W, Below w.heap.size w W → ∀ j, j < m → ∃ b o, some (⟨bb, off, none⟩ : Addr) = some ⟨b, o, none⟩ ∧ W.cell? ⟨b, o + j, none⟩ = some (.int .i64 (F j))) (hj : j < m) (ha : F j = a)
    (g : Two B ad cap B2 ad2 cap2 n bs u v w W) : W.cell? ⟨bb, off + j, none⟩ = some (.int .i64 a) := by
  obtain ⟨b, o, e, hc⟩ := h W g.below j hj
  cases e
  rw [← ha]
  exact hc
set_option maxRecDepth 100000 in
set_option maxHeartbeats 4000000 in
theorem same_main (a0 : Option Addr) (n c0 : Nat) (bs : List Int) (a1 : Option Addr) (m c1 : Nat) (F : Nat → Int) (w : World) (h0 : n ≤ 5000) (h1 : m ≤ 500)
    (hR : Row .u8 w a0 n c0 bs) (hb : Bytes bs) (hF : ∀ W, Below w.heap.size w W → ∀ j, j < m → ∃ b off, a1 = some ⟨b, off, none⟩ ∧ W.cell? ⟨b, off + j, none⟩ = some (.int .i64 (F j)))
    (r0 : c0 ≤ maxLen) (r1 : c1 ≤ maxLen) (r2 : n ≤ c0) (r3 : m ≤ c1) :
    Calls Try.prog 4 #[.slice a0 n c0, .slice a1 m c1] w (Good w) := by
  have N := new_row hR h0
  have HR := Lib.hid hR
  have HB := Lib.hid hb
  have HF := Lib.hid hF
  have hlen := hR.len
  have HL := Lib.hid (show (encB bs).length = n * 1 by simp [encB_len, hlen])
  have H1 := Lib.hid (onesB bs)
  have HLn := Lib.hid hlen
  obtain ⟨i0, hi, hz0, hz1, hz2⟩ := info_parts info5
  unfold maxLen at r0 r1
  clear hR hb hF hlen
  go_enter Try.func4, Try.ntmps4
  go_wp2_with fail
  refine N.mono ?_
  rintro e w1 ⟨B, ad, cap, rfl, hb, hf, hB, had⟩
  have hm := World.ownsRow_made (base := w1.heap.size) (e := 5) (size := 1) w1 #[] 0 (Nat.le_refl _) (by simp [maxLen]) rfl
  have hb1 : Below w1.heap.size w1 (w1.alloc (.cells #[] 5)) := (Below.refl _ _).alloc (Nat.le_refl _) _
  rcases HR.out.form with ⟨rfl, rfl, rfl⟩ | ⟨x, rfl, hrd⟩
  focus
    clear N
    go_wp2_with fail
    refine (new_own (n := 0) (bs := bs) (owns_none hm rfl HLn.out) (by omega) HLn.out).mono ?_
    rintro e w3 ⟨B2, ad2, cap2, rfl, hb2, hf2, hB2, had2⟩
    have S0 : Hid (Two B ad cap B2 ad2 cap2 bs.length bs 0 0 w w3) := Lib.hid (by rw [HLn.out]; exact two_new hb hf hB had hb1 hb2 hf2 hB2 had2)
    clear hm hb1 hb hf hB had hb2 hf2 hB2 had2 HL H1
  rotate_left
  focus
    have HC : Hid (∀ j u, (encB bs)[j]? = some u → (w1.alloc (.cells #[] 5)).cell? (x.add j) = some u) := Lib.hid (Reads.below (w := w1) (Reads.below (w := w) hrd hb) hb1)
    clear N hrd
    go_wp2_with (at_builtin; refine wpList_append_own _ rfl _ _ 22 rfl w1.heap.size 5 i0 (.int .u8 0) 1 1 Try.underlying22 hi hz0 hz1 hz2 rfl (by decide) _ _ _ rfl hm x n c0 (encB bs) rfl HL.out HC.out H1.out (by simp only [maxLen]; omega) (by omega) (by simp) ?_; intro v' w2 hown hgrow _)
    have hb1 := (hb1.grown hgrow (by simp) (fun k e => by cases e; exact Nat.le_refl _))
    refine (new_own (n := n) (bs := bs) (by simpa using hown) h0 HLn.out).mono ?_
    rintro e w3 ⟨B2, ad2, cap2, rfl, hb2, hf2, hB2, had2⟩
    have S0 : Hid (Two B ad cap B2 ad2 cap2 bs.length bs 0 0 w w3) := Lib.hid (by rw [HLn.out]; exact two_new hb hf hB had hb1 hb2 hf2 hB2 had2)
    clear hm hb1 hb hf hB had hb2 hf2 hB2 had2 HL H1 hown hgrow HC
  all_goals
    clear HR
    have HN := Lib.hid (show bs.length ≤ 5000 by have := HLn.out; omega)
    go_wp2
    go_loopw [8] (fun i wr => ∃ u j : Nat, j ≤ m ∧ u ≤ j ∧ i = .int .i64 j ∧ Hid (Two B ad cap B2 ad2 cap2 bs.length bs u u w wr)) (fun i _ => m - (intOf i).toNat)
    case atStart => exact ⟨0, 0, by omega, by omega, rfl, S0⟩
    case round =>
      obtain ⟨u, j, hj, hu, rfl, HS⟩ := hrel
      clear S0
      by_cases hlt : j < m
      · obtain ⟨bb, off, rfl, q⟩ := HF.out _ HS.out.below j hlt
        have A := fun W u v (g : Two B ad cap B2 ad2 cap2 bs.length bs u v w W) hu => next_gen B ad bs.length cap bs u (F j) W g.f HB.out hu
        have A2 := fun W u v (g : Two B ad cap B2 ad2 cap2 bs.length bs u v w W) hu => next_gen B2 ad2 bs.length cap2 bs v (F j) W g.g HB.out hu
        obtain ⟨a, ha⟩ : ∃ a, F j = a := ⟨_, rfl⟩
        rw [ha] at q
        simp only [ha] at A A2
        have Q := fun W u v (g : Two B ad cap B2 ad2 cap2 bs.length bs u v w W) => two_cell HF.out hlt ha g
        have S2 := HS.out.drew
        clear HS
        go_wp2_with fail
        go_region_held3 (fun W => W.cell? ⟨bb, off + j, none⟩ = some (.int .i64 a)) (first | exact Q _ _ _ (by assumption) | go_keep)
          (first | (go_at_call_of 7 (at0 B); refine (A _ _ _ (by assumption) (by omega)).mono ?_; rintro e V' ⟨rfl, hg, ho⟩; have S' := Two.left (by assumption) hg ho; clear hg ho) | (go_at_call_of 7 (at0 B2); refine (A2 _ _ _ (by assumption) (by omega)).mono ?_; rintro e V' ⟨rfl, hg, ho⟩; have S' := Two.right (by assumption) hg ho; clear hg ho))
        all_goals
          have HS' : Hid (Two B ad cap B2 ad2 cap2 bs.length bs (up u a) (up u a) w _) := Lib.hid (by assumption)
          have q := Q _ _ _ HS'.out
          have hup := up_le (u := u) (a := a)
          clear A A2 Q
          have x0 := nx_low (u := u) (a := a) HB.out
          have HT : Hid (0 < a → nx bs u a < a) := Lib.hid (fun h => nx_high h)
          generalize nx bs u a = x at *
          generalize up u a = u' at *
          have L0 := next_nil a
          have L1 := level_nil a
          have hj1 : IntKind.i64.wrap ((j : Int) + 1) = ((j + 1 : Nat) : Int) := one_more (by omega)
          by_cases h1 : 0 < a
          · have hx := HT.out h1
            clear HT
            go_wp2_with fail
            refine (L0 _).mono ?_
            rintro e w' ⟨rfl, rfl⟩
            go_wp2_with fail
            refine (L1 _).mono ?_
            rintro e w' ⟨rfl, rfl⟩
            clear L0 L1
            go_wp2
            go_roundw
            case rel => exact ⟨u', j + 1, by omega, by omega, rfl, HS'⟩
            case measure => simp [intOf]; omega
          · clear HT
            go_wp2_with fail
            refine (L0 _).mono ?_
            rintro e w' ⟨rfl, rfl⟩
            go_wp2_with fail
            refine (L1 _).mono ?_
            rintro e w' ⟨rfl, rfl⟩
            clear L0 L1
            go_wp2
            go_roundw
            case rel => exact ⟨u', j + 1, by omega, by omega, rfl, HS'⟩
            case measure => simp [intOf]; omega
      · have U := used_any B ad bs.length cap bs u _ HS.out.f
        have V := used_any B2 ad2 bs.length cap2 bs u _ HS.out.g
        go_wp2_with fail
        refine U.mono ?_
        rintro e w' ⟨rfl, rfl⟩
        go_wp2_with fail
        refine V.mono ?_
        rintro e w' ⟨rfl, rfl⟩
        go_wp2_with fail
        refine (used_nil _).mono ?_
        rintro e w' ⟨rfl, rfl⟩
        go_wp2_with fail
        refine (lives_any _).mono ?_
        rintro e w' ⟨rfl, hb⟩
        have hE := HS.out.below.trans (hb.mono HS.out.below.size)
        clear hb U V
        go_wp2
        go_ret
        exact ⟨rfl, hE⟩

theorem same_all (a0 : Option Addr) (len0 cap0 : Nat) (z0 : List Int) (a1 : Option Addr) (len1 cap1 : Nat) (z1 : List Int) (w : World) (w0 : IsRow .u8 w a0 len0 cap0 z0) (w1 : IsRow .i64 w a1 len1 cap1 z1) :
    Calls Try.prog 4 #[.slice a0 len0 cap0, .slice a1 len1 cap1] w (Good w) := by
  by_cases h : 5000 < len0 ∨ 500 < len1
  · exact same_many a0 len0 cap0 a1 len1 cap1 w h
  have R0 := row_of w0
  have R1 := row_of w1
  exact same_main a0 len0 cap0 (z0.take len0) a1 len1 cap1 (byteAt (z1.take len1)) w (by omega) (by omega) R0 R0.bytes (fun W b j hj => R1.cells b j hj) R0.room.2 R1.room.2 R0.room.1 R1.room.1
end Go.Proofs.Ytnghbdokehfjgaa
