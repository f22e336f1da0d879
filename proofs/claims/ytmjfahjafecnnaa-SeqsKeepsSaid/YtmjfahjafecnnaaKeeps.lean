/- That those are kept, made, joined and looked for that the document says. -/
import Derived.Test.YtmjfahjafecnnaaOf
import Derived.Test.YtmjfahjafecnnaaCounts
import Derived.Test.YtmjfahjafecnnaaEach
namespace Go.Proofs.Ytmjfahjafecnnaa
open Go.RowKit Go.Shelf
set_option linter.unusedVariables false
attribute [local go_sem] Oper.semAt_some wide_fn

/-- Which numbers are kept, what is made of them, and how they are joined. -/
def kp (d x : Int) : Bool := (x.tmod 1000).tmod d == 0
def mk2 (x : Int) : Int := x.tmod 1000 * 2
def jn (u x : Int) : Int := (u * 3).tmod 1000 + x.tmod 1000
def fj (m : Int) (l : List Int) : Int := l.foldl jn m
theorem tmod_bd (x : Int) : -1000 < x.tmod 1000 ∧ x.tmod 1000 < 1000 := by
  rcases Int.le_total 0 x with h | h
  · have := Int.tmod_nonneg 1000 h; have := Int.tmod_lt_of_pos x (b := 1000) (by omega); omega
  · have h1 : x.tmod 1000 = -((-x).tmod 1000) := by rw [Int.neg_tmod]; omega
    have := Int.tmod_nonneg 1000 (show 0 ≤ -x by omega)
    have := Int.tmod_lt_of_pos (-x) (b := 1000) (by omega)
    omega
theorem jn_bd (u x : Int) : -2000 < jn u x ∧ jn u x < 2000 := by
  have := tmod_bd (u * 3); have := tmod_bd x; unfold jn; omega
theorem fj_bd (m : Int) (h1 : -1000 ≤ m) (h2 : m ≤ 1000) (l : List Int) : -2000 < fj m l ∧ fj m l < 2000 := by
  rcases List.eq_nil_or_concat l with rfl | ⟨l', x, rfl⟩
  · simp [fj]; omega
  · simp only [fj, List.concat_eq_append, List.foldl_append, List.foldl_cons, List.foldl_nil]
    exact jn_bd _ _
theorem fj_snoc (m : Int) (l : List Int) (x : Int) : fj m (l ++ [x]) = jn (fj m l) x := by simp [fj]

/-- What the law's own lists hold when j numbers have been looked at. -/
def KeepR (xs : List Int) (d more : Int) (w1 : World) (n₀ len : Nat) (s7 s8 s9 s10 : Value) (wr : World) : Prop :=
  ∃ j : Nat, j ≤ len ∧ s10 = .int .i64 j ∧ s9 = .int .i64 (fj more ((xs.take j).filter (kp d))) ∧ Below n₀ w1 wr ∧
    wr.ownsRow n₀ 3 1 s7 ((xs.take j).filter (kp d)).length (ints ((xs.take j).filter (kp d))) ∧
    wr.ownsRow n₀ 3 1 s8 (((xs.take j).filter (kp d)).map mk2).length (ints (((xs.take j).filter (kp d)).map mk2)) ∧ Apart s7 s8

theorem take_snoc (xs : List Int) (j : Nat) (h : j < xs.length) : xs.take (j + 1) = xs.take j ++ [xs[j]?.getD 0] := by rw [List.take_succ_eq_append_getElem h]; simp [h]

theorem keep12 (x d : Int) (b : Nat) (W : World) (hx : InR x) (hb : Boxed W b 3 (.int .i64 d)) (d1 : 1 ≤ d) (d2 : d ≤ 1000) :
    Calls Try.prog 12 #[.int .i64 x, at0 b] W fun e W' => e = .returned (.bool (kp d x)) ∧ W' = W := by
  have c := hb.cell
  have x1 := hx.1
  have x2 := hx.2
  obtain ⟨b1, b2⟩ := tmod_bd x
  have d0 : ¬ d = 0 := by omega
  go_enter Try.func12, Try.ntmps12
  go_wp2
  go_ret
  exact ⟨rfl, rfl⟩
theorem make16 (x : Int) (W : World) (hx : InR x) : Calls Try.prog 16 #[.int .i64 x] W fun e W' => e = .returned (.int .i64 (mk2 x)) ∧ W' = W := by
  have x1 := hx.1
  have x2 := hx.2
  obtain ⟨b1, b2⟩ := tmod_bd x
  go_enter Try.func16, Try.ntmps16
  go_wp2
  go_ret
  exact ⟨rfl, rfl⟩
theorem join18 (u x : Int) (W : World) (hx : InR x) (u1 : -2000 < u) (u2 : u < 2000) : Calls Try.prog 18 #[.int .i64 u, .int .i64 x] W fun e W' => e = .returned (.int .i64 (jn u x)) ∧ W' = W := by
  have x1 := hx.1
  have x2 := hx.2
  obtain ⟨b1, b2⟩ := tmod_bd x
  obtain ⟨b3, b4⟩ := tmod_bd (u * 3)
  go_enter Try.func18, Try.ntmps18
  go_wp2
  go_ret
  exact ⟨rfl, rfl⟩

theorem keep_gives (d : Int) (b : Nat) (W : World) (hb : Boxed W b 3 (.int .i64 d)) (d1 : 1 ≤ d) (d2 : d ≤ 1000) : Gives (.func (.func 12) #[] #[at0 b]) (fun k => k = b) (fun x => .bool (kp d x)) W :=
  ⟨⟨12, _, rfl, enters_of Try.func12 (by kernel_rfl) rfl, fun W' hW x hx => (keep12 x d b W' hx ((hW b rfl).trans hb) d1 d2).mono fun e w' ⟨he, hw⟩ => ⟨he, by rw [hw]; exact Keeps.refl _ _⟩⟩, fun k h => by subst h; exact hb.lt⟩
theorem make_gives (W : World) : Gives (.func (.func 16) #[] #[]) (fun _ => False) (fun x => .int .i64 (mk2 x)) W :=
  ⟨⟨16, _, rfl, enters_of Try.func16 (by kernel_rfl) rfl, fun W' hW x hx => (make16 x W' hx).mono fun e w' ⟨he, hw⟩ => ⟨he, by rw [hw]; exact Keeps.refl _ _⟩⟩, fun k h => h.elim⟩

theorem each_makes (s kv : Value) (C Ck : Nat → Prop) (xs : List Int) (f : Int → Int) (w : World) (hs : TellsN s C xs w) (hkv : Gives kv Ck (fun x => .int .i64 (f x)) w) (hR : ∀ x ∈ xs, InR x) : Calls Try.prog 15 #[s, kv] w (Makes (fun k => C k ∨ Ck k) (xs.map f) w) := by
  have hb : Below w.heap.size w ((w.alloc (.cells #[s] 27)).alloc (.cells #[kv] 35)) := ((Below.refl _ _).alloc (Nat.le_refl _) _).alloc (by simp) _
  have b2 : Boxed ((w.alloc (.cells #[s] 27)).alloc (.cells #[kv] 35)) (w.heap.size + 1) 35 kv := by
    have := Boxed.new (w.alloc (.cells #[s] 27)) 35 kv; rw [World.size_alloc] at this; exact this
  have hT := each_tells s kv C Ck xs f (w.heap.size + 1) w.heap.size _ (hs.below hb) (hkv.later (fun k hk => hb.block k (hkv.lt k hk))) b2 ((Boxed.new w 27 _).alloc _) hR
  obtain ⟨kf, kc, rfl, -, -⟩ := hkv.func
  rcases hs.func with rfl | ⟨fn, caps, rfl⟩
  all_goals
    clear hs
    go_enter Try.func15, Try.ntmps15
    go_wp2
    go_ret
    exact ⟨_, _, _, rfl, enters_of Try.func31 (by kernel_rfl) rfl, hT, fun k hk => (by rcases hk with ⟨_, hk⟩ | hk | hk | hk; exact .inl (.inl hk); exact .inl (.inr hk); exact .inr (by omega); exact .inr (by omega)), hb⟩

set_option maxRecDepth 100000 in
set_option maxHeartbeats 4000000 in
theorem keeps_loop (a : Option Addr) (cap : Nat) (xs : List Int) (d more : Int) (w : World) (hl : xs.length ≤ 2000) (hRd : Reads w (.slice a xs.length cap) xs)
    (d1 : 1 ≤ d) (d2 : d ≤ 1000) (m1 : -1000 ≤ more) (m2 : more ≤ 1000) (hR : ∀ x ∈ xs, InR x) :
    Calls Try.prog 4 #[.slice a xs.length cap, .int .i64 d, .int .i64 more] w fun e w' => e = .returned (.bool true) ∧ Below w.heap.size w w' := by
  obtain ⟨i0, hi, hz0, hz1, hz2⟩ := info_parts Try.info3
  obtain ⟨len, hlen⟩ : ∃ len, xs.length = len := ⟨_, rfl⟩
  have HL := Lib.hid hlen
  have HC := Lib.hid hRd
  have c1 : ¬ (len : Int) > 2000 := by omega
  have c2 : ¬ d < 1 := by omega
  have c3 : ¬ d > 1000 := by omega
  have c4 : ¬ more > 1000 := by omega
  have c5 : ¬ more < -1000 := by omega
  rw [hlen] at hl ⊢
  clear hlen hRd
  refine (callsIn_wide (n := 9)).1 ?_
  refine callsIn_of_wp Try.func4 rfl trivial ?_ rfl
  simp only [Try.ntmps4, List.size_toArray, List.length_cons, List.length_nil, Nat.reduceAdd, Nat.reduceSub, Array.replicate_succ, Array.replicate_zero, List.push_toArray, List.append_toArray, List.nil_append, List.cons_append]
  gi_wp2
  obtain ⟨wb, hwb⟩ : ∃ wb, w.alloc (.cells #[.int .i64 d] 3) = wb := ⟨_, rfl⟩
  have hbx : Boxed wb w.heap.size 3 (.int .i64 d) := by rw [← hwb]; exact Boxed.new _ _ _
  have hsb : wb.heap.size = w.heap.size + 1 := by rw [← hwb]; simp
  have hBb : Below w.heap.size w wb := by rw [← hwb]; exact (Below.refl _ _).alloc (Nat.le_refl _) _
  rw [hwb]
  clear hwb
  gi_loopw [7, 8, 9, 10] (fun s7 s8 s9 s10 wr => KeepR xs d more wb (w.heap.size + 1) len s7 s8 s9 s10 wr) (fun _ _ _ s10 _ => len - (intOf s10).toNat)
  case atStart => exact ⟨0, by omega, rfl, rfl, Below.refl _ _, World.ownsRow_nil _ _ _ _, World.ownsRow_nil _ _ _ _, fun k h => by simp [Value.ownBlock] at h⟩
  case round =>
    obtain ⟨j, hj, rfl, rfl, hB, hr7, hr8, hap⟩ := hrel
    have hs := hB.size
    have bd := (hB.cell (p := ⟨w.heap.size, 0, none⟩) (by simp)).trans hbx.cell
    by_cases hlt : j < len
    · have hjx : j < xs.length := by rw [HL.out]; exact hlt
      rcases HC.out with ⟨a', cap', he, hx0⟩ | ⟨b, off, cap', he, _, hcap, hcm, hcell⟩
      · rw [hx0] at hjx; simp at hjx
      cases he
      rw [HL.out] at hcap
      have hcj := hcell j hjx
      clear hcell
      have hcw : wr.cell? ⟨b, off + j, none⟩ = some (.int .i64 (xs[j]?.getD 0)) :=
        (hB.cell (p := ⟨b, off + j, none⟩) (by have := World.block_lt_of_cell? w _ hcj; simp at this ⊢; omega)).trans ((hBb.cell (p := ⟨b, off + j, none⟩) (World.block_lt_of_cell? w _ hcj)).trans hcj)
      have HT := Lib.hid (take_snoc xs j hjx)
      have hx : InR (xs[j]?.getD 0) := by simp [hjx]; exact hR _ (List.getElem_mem hjx)
      obtain ⟨x, ex⟩ : ∃ x, xs[j]?.getD 0 = x := ⟨_, rfl⟩
      rw [ex] at hcw HT hx
      clear hcj hjx ex
      obtain ⟨S, eS⟩ : ∃ S, fj more ((xs.take j).filter (kp d)) = S := ⟨_, rfl⟩
      have bS := fj_bd more m1 m2 ((xs.take j).filter (kp d))
      rw [eS] at bS ⊢
      have HS := Lib.hid eS
      clear eS
      have bx := tmod_bd x
      have bs := tmod_bd (S * 3)
      have x1 := hx.1
      have x2 := hx.2
      obtain ⟨k7, hk7⟩ : ∃ k, ((xs.take j).filter (kp d)).length = k := ⟨_, rfl⟩
      have hk7' : k7 ≤ j := by rw [← hk7]; refine Nat.le_trans (List.length_filter_le _ _) ?_; rw [List.length_take]; omega
      rw [List.length_map, hk7] at hr8
      rw [hk7] at hr7
      have HK7 := Lib.hid hk7
      clear hk7
      obtain ⟨b1, b2⟩ := bx
      obtain ⟨b3, b4⟩ := bs
      obtain ⟨b5, b6⟩ := bS
      by_cases hp : kp d x = true
      · have hp' : ((x.tmod 1000).tmod d == 0) = true := hp
        have HP := Lib.hid hp
        clear hp
        gi_wp2_with (first
          | (gi_at_builtin; refine wpListIn_append_later _ rfl _ _ 23 rfl (w.heap.size + 1) 3 i0 (.int .i64 0) 1 8 Try.underlying23 hi hz0 hz1 hz2 rfl (by decide) _ _ _ rfl (hr7.alloc _) ⟨wr.heap.size, 0, none⟩ 1 1 [.int .i64 x] rfl rfl (cell_one_new _ _ _) (by simp [Value.oneCell']) (by simp only [maxLen]; omega) (by omega) (by simp; omega) ?_; intro v7 w1 hown7 hgrow7 _ hlat7; obtain ⟨hr8', hap', hB', hs'⟩ := append_two hB (by omega) hr7 hr8 hap hgrow7 hlat7; clear hr7)
          | (gi_at_builtin; refine wpListIn_append_later _ rfl _ _ 23 rfl (w.heap.size + 1) 3 i0 (.int .i64 0) 1 8 Try.underlying23 hi hz0 hz1 hz2 rfl (by decide) _ _ _ rfl (hr8'.alloc _) ⟨w1.heap.size, 0, none⟩ 1 1 [.int .i64 (x.tmod 1000 * 2)] rfl rfl (cell_one_new _ _ _) (by simp [Value.oneCell']) (by simp only [maxLen]; omega) (by omega) (by simp; omega) ?_; intro v8 w2 hown8 hgrow8 _ hlat8; obtain ⟨hr7', hap2, hB2, hs2⟩ := append_two hB' hs' hr8' hown7 hap'.symm hgrow8 hlat8))
        go_roundw
        case rel =>
          have hf : (xs.take (j + 1)).filter (kp d) = (xs.take j).filter (kp d) ++ [x] := by rw [HT.out, List.filter_append]; simp [HP.out]
          refine ⟨j + 1, by omega, by go_num, ?_, hB2, ?_, ?_, hap2.symm⟩
          · rw [hf, fj_snoc, HS.out]; rfl
          · rw [hf, List.length_append, HK7.out]; simpa using hr7'
          · rw [hf, List.length_map, List.length_append, HK7.out]; simpa [mk2] using hown8
        case measure => simp [intOf]; omega
      · have hp' : ((x.tmod 1000).tmod d == 0) = false := by simpa [kp] using hp
        have HP := Lib.hid hp
        clear hp
        gi_wp2
        go_roundw
        case rel =>
          have hf : (xs.take (j + 1)).filter (kp d) = (xs.take j).filter (kp d) := by rw [HT.out, List.filter_append]; simp [HP.out]
          refine ⟨j + 1, by omega, by go_num, ?_, hB, ?_, ?_, hap⟩
          · rw [hf, HS.out]
          · rw [hf, HK7.out]; exact hr7
          · rw [hf, List.length_map, HK7.out]; exact hr8
        case measure => simp [intOf]; omega
    · obtain rfl : j = len := by omega
      have etk : xs.take j = xs := List.take_of_length_le (by rw [HL.out]; omega)
      rw [etk] at hr7 hr8 ⊢
      clear etk hlt hj
      have hBw : Below w.heap.size w wr := hBb.trans (hB.mono (by omega))
      have hbx1 : Boxed wr w.heap.size 3 (.int .i64 d) := (hB.block _ (by omega)).trans hbx
      have hkl : (xs.filter (kp d)).length ≤ xs.length := List.length_filter_le _ _
      have hRK : ∀ x ∈ xs.filter (kp d), InR x := fun x hx => hR x (List.mem_filter.1 hx).1
      obtain ⟨S, eS⟩ : ∃ S, fj more (xs.filter (kp d)) = S := ⟨_, rfl⟩
      rw [eS]
      have HS := Lib.hid eS
      have HKL := Lib.hid hkl
      clear eS hkl bd
      have l1 : xs.length ≤ 1000000000 := by rw [HL.out]; omega
      have l2 : (xs.filter (kp d)).length ≤ 1000000000 := Nat.le_trans HKL.out l1
      have l3 : ((xs.filter (kp d)).map mk2).length ≤ 1000000000 := by rw [List.length_map]; exact l2
      have HL1 := Lib.hid l1
      have HL2 := Lib.hid l2
      have HL3 := Lib.hid l3
      clear l1 l2 l3
      have rd0 := reads_below HC.out hBw
      rw [HL.out] at rd0
      have HRd := Lib.hid rd0
      clear rd0
      obtain ⟨k7, hk7⟩ : ∃ k, (xs.filter (kp d)).length = k := ⟨_, rfl⟩
      obtain ⟨a7, c7, rfl⟩ := row_slice hr7
      have rd7 := reads_row hr7
      have rd8 := reads_row hr8
      rw [hk7] at rd7 ⊢
      have HK7 := Lib.hid hk7
      have HR7 := Lib.hid rd7
      clear hk7 rd7 hr7 hr8 hap
      gi_wp2_with fail
      refine (callsIn_wide.2 (of_makes _ xs _ HRd.out HL1.out)).mono ?_
      rintro e w1 ⟨g1, lb1, C1, rfl, -, hT1, -, hb1⟩
      have hbx2 : Boxed w1 w.heap.size 3 (.int .i64 d) := (hb1.block _ hbx1.lt).trans hbx1
      gi_wp2_with fail
      refine (callsIn_wide.2 (only_makes _ _ C1 _ xs (kp d) _ (.inr hT1) (keep_gives d w.heap.size w1 hbx2 d1 d2) hR)).mono ?_
      rintro e w2 ⟨g2, lb2, C2, rfl, -, hT2, -, hb2⟩
      have t2 := hb1.trans (hb2.mono hb1.size)
      gi_wp2_with fail
      refine (callsIn_wide.2 (each_makes _ _ C2 _ (xs.filter (kp d)) mk2 _ (.inr hT2) (make_gives w2) hRK)).mono ?_
      rintro e w3 ⟨g3, lb3, C3, rfl, -, hT3, -, hb3⟩
      have t3 := t2.trans (hb3.mono t2.size)
      gi_wp2_with fail
      refine (callsIn_wide.2 (list_any _ C3 _ _ (.inr hT3) HL3.out)).mono ?_
      rintro e w4 ⟨v4, rfl, hr4, hb4⟩
      have t4 := t3.trans (hb4.mono t3.size)
      have hT2' := (hT2.below hb3).below hb4
      gi_wp2_with fail
      refine (callsIn_wide.2 (fold_any _ C2 (fun _ => False) (xs.filter (kp d)) (fj more) 18 #[] w4 (.inr hT2') hT2'.lt (fun k h => h.elim) (enters_of Try.func18 (by kernel_rfl) rfl) (fun pre x hpre W _ => ?_))).mono ?_
      · have bd := fj_bd more m1 m2 pre
        refine (join18 (fj more pre) x W (hRK x (prefix_mem hpre)) bd.1 bd.2).mono ?_
        rintro e w' ⟨rfl, rfl⟩
        exact ⟨by rw [fj_snoc], Keeps.refl _ _⟩
      rintro e w5 ⟨rfl, hb5⟩
      have t5 := t4.trans (hb5.mono t4.size)
      rw [HS.out]
      have hT5 := hT2'.below hb5
      gi_wp2_with fail
      refine (callsIn_wide.2 (list_any _ C2 _ _ (.inr hT5) HL2.out)).mono ?_
      rintro e w6 ⟨v6, rfl, hr6, hb6⟩
      have t6 := t5.trans (hb6.mono t5.size)
      gi_wp2_with fail
      refine (callsIn_wide.2 (same_any _ _ _ _ _ (reads_row hr6) (reads_below HR7.out t6) (by have := HL2.out; omega) (by have := HL2.out; omega))).mono ?_
      rintro e w7 ⟨rfl, n7, hw7⟩
      rw [show decide (xs.filter (kp d) = xs.filter (kp d)) = true by simp]
      have t7 : Below wr.heap.size wr w7 := by rw [hw7]; exact below_drewN t6 n7
      have q7 : Below w4.heap.size w4 w7 := by rw [hw7]; exact below_drewN (hb5.trans (hb6.mono hb5.size)) n7
      clear hw7
      gi_wp2_with fail
      refine (callsIn_wide.2 (same_any _ _ _ _ _ (reads_below (reads_row hr4) q7) (reads_below rd8 t7) (by have := HL3.out; omega) (by have := HL3.out; omega))).mono ?_
      rintro e w8 ⟨rfl, n8, hw8⟩
      rw [show decide ((xs.filter (kp d)).map mk2 = (xs.filter (kp d)).map mk2) = true by simp]
      have t8 : Below wr.heap.size wr w8 := by rw [hw8]; exact below_drewN t7 n8
      clear hw8
      gi_wp2_with fail
      refine (callsIn_wide.2 (of_makes _ xs _ (reads_below HRd.out t8) HL1.out)).mono ?_
      rintro e w9 ⟨g9, lb9, C9, rfl, -, hT9, -, hb9⟩
      have t9 := t8.trans (hb9.mono t8.size)
      have hbx9 : Boxed w9 w.heap.size 3 (.int .i64 d) := (t9.block _ hbx1.lt).trans hbx1
      gi_wp2_with fail
      refine (callsIn_wide.2 (some_any _ _ C9 _ xs (kp d) w9 (.inr hT9) (keep_gives d w.heap.size w9 hbx9 d1 d2) hR hT9.lt)).mono ?_
      rintro e w10 ⟨rfl, hb10⟩
      have t10 := t9.trans (hb10.mono t9.size)
      by_cases h7 : 0 < k7
      · have h7' : (k7 : Int) > 0 := by omega
        rw [show decide (xs.filter (kp d) ≠ []) = true by
          simp only [decide_eq_true_eq]; intro e; have := HK7.out; rw [e] at this; simp at this; omega]
        gi_wp2_with fail
        refine (callsIn_wide.2 (lives_any _)).mono ?_
        rintro e w11 ⟨rfl, hb11⟩
        gi_wp2
        go_ret
        exact ⟨rfl, (hBw.trans (t10.mono hBw.size)).trans (hb11.mono (Nat.le_trans hBw.size t10.size))⟩
      · obtain rfl : k7 = 0 := by omega
        rw [show decide (xs.filter (kp d) ≠ []) = false by
          simp only [decide_eq_false_iff_not, ne_eq, Decidable.not_not]; exact List.eq_nil_of_length_eq_zero HK7.out]
        gi_wp2_with fail
        refine (callsIn_wide.2 (lives_any _)).mono ?_
        rintro e w11 ⟨rfl, hb11⟩
        gi_wp2
        go_ret
        exact ⟨rfl, (hBw.trans (t10.mono hBw.size)).trans (hb11.mono (Nat.le_trans hBw.size t10.size))⟩

set_option maxRecDepth 100000 in
theorem keeps_lives (a : Option Addr) (len cap : Nat) (d more : Int) (w : World) (hl : len ≤ 9223372036854775807) (hd : InR d) (hm : InR more) (h : len > 2000 ∨ d < 1 ∨ d > 1000 ∨ more > 1000 ∨ more < -1000) :
    Calls Try.prog 4 #[.slice a len cap, .int .i64 d, .int .i64 more] w fun e w' => e = .returned (.bool true) ∧ Below w.heap.size w w' := by
  have hb0 : Below w.heap.size w (w.alloc (.cells #[.int .i64 d] 3)) := (Below.refl _ _).alloc (Nat.le_refl _) _
  by_cases c1 : (len : Int) > 2000
  · go_enter Try.func4, Try.ntmps4
    go_wp2_with (go_at_call 7; refine (lives_any _).mono ?_; rintro e w' ⟨rfl, hb⟩)
    go_ret
    exact ⟨rfl, hb0.trans (hb.mono hb0.size)⟩
  by_cases c2 : d < 1
  · go_enter Try.func4, Try.ntmps4
    go_wp2_with (go_at_call 7; refine (lives_any _).mono ?_; rintro e w' ⟨rfl, hb⟩)
    go_ret
    exact ⟨rfl, hb0.trans (hb.mono hb0.size)⟩
  by_cases c3 : d > 1000
  · go_enter Try.func4, Try.ntmps4
    go_wp2_with (go_at_call 7; refine (lives_any _).mono ?_; rintro e w' ⟨rfl, hb⟩)
    go_ret
    exact ⟨rfl, hb0.trans (hb.mono hb0.size)⟩
  by_cases c4 : more > 1000
  · go_enter Try.func4, Try.ntmps4
    go_wp2_with (go_at_call 7; refine (lives_any _).mono ?_; rintro e w' ⟨rfl, hb⟩)
    go_ret
    exact ⟨rfl, hb0.trans (hb.mono hb0.size)⟩
  have c5 : more < -1000 := by omega
  go_enter Try.func4, Try.ntmps4
  go_wp2_with (go_at_call 7; refine (lives_any _).mono ?_; rintro e w' ⟨rfl, hb⟩)
  go_ret
  exact ⟨rfl, hb0.trans (hb.mono hb0.size)⟩

theorem keeps_all (a : Option Addr) (len cap : Nat) (xs : List Int) (d more : Int) (w : World) (hx : xs.length = len) (hl : len ≤ 9223372036854775807) (hRd : Reads w (.slice a len cap) xs) (hd : InR d) (hm : InR more) (hR : ∀ x ∈ xs, InR x) :
    Calls Try.prog 4 #[.slice a len cap, .int .i64 d, .int .i64 more] w fun e w' => e = .returned (.bool true) ∧ Below w.heap.size w w' := by
  by_cases h : len > 2000 ∨ d < 1 ∨ d > 1000 ∨ more > 1000 ∨ more < -1000
  · exact keeps_lives a len cap d more w hl hd hm h
  · subst hx
    exact keeps_loop a cap xs d more w (by omega) hRd (by omega) (by omega) (by omega) (by omega) hR

theorem reads_in (x : Addr) (len cap : Nat) (zs : List Int) (w : World) (hl : len ≤ cap) (hm : cap ≤ maxLen) (hz : zs.length = cap) (hc : ∀ i, i < zs.length → w.cell? (x.add i) = some (.int .i64 (zs.getD i 0))) :
    (zs.take len).length = len ∧ Reads w (.slice (some x) len cap) (zs.take len) := by
  unfold maxLen at hm
  have hlen : (zs.take len).length = len := by rw [List.length_take]; omega
  refine ⟨hlen, ?_⟩
  by_cases h : len = 0
  · subst h; exact .inl ⟨_, _, rfl, by simp⟩
  · obtain ⟨b, off, rfl, hb⟩ := ints_at hc (by omega)
    refine .inr ⟨b, off, cap, by rw [hlen], by omega, by omega, by omega, fun i hi => ?_⟩
    rw [hb i (by omega)]
    have h1 : i < len := by omega
    have h2 : i < zs.length := by omega
    simp [h1, h2]

end Go.Proofs.Ytmjfahjafecnnaa
