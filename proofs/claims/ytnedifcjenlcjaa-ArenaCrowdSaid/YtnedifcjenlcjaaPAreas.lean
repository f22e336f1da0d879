/- The areas of a plan. -/
import Derived.Test.YtnedifcjenlcjaaPPlan
import Derived.Deep.MidRow
namespace Go.Proofs.Ytnedifcjenlcjaa.P
open Go.ChangeShapes Go.WideShapes Go.ChangeAt Go.RowKit
set_option linter.unusedVariables false
set_option maxRecDepth 20000


theorem Blk.get {W : World} {g : Nat} {t : TypeId} {cs : Array Value} (h : Blk W g t cs) (i : Nat) {v : Value} (e : cs[i]? = some v) : W.cell? ⟨g, i, none⟩ = some v := (h.cell i).trans e
abbrev i0 : Value := .int .i64 0
abbrev z20 : Array Value := #[i0, i0, i0, i0, i0, i0, i0, i0, i0, i0, i0, i0, i0, i0, i0, i0, i0, i0, i0, i0]

/-- Where the areas begin, and the end. -/
def Cf.o2 (c : Cf) : Int := 8 + c.th * c.slots
def Cf.o3 (c : Cf) : Int := c.o2 + c.nd * 1
def Cf.o4 (c : Cf) : Int := c.o3 + c.nd * c.width
def Cf.size (c : Cf) : Int := c.o4 + c.places * 1

theorem mul_in {a b A B : Int} (h0 : 0 ≤ a) (h1 : a ≤ A) (h2 : 0 ≤ b) (h3 : b ≤ B) : 0 ≤ a * b ∧ a * b ≤ A * B :=
  ⟨Int.mul_nonneg h0 h2, Int.mul_le_mul h1 h3 h2 (Int.le_trans h0 h1)⟩
theorem Cf.Ok.slots {c : Cf} (h : c.Ok) : 2 ≤ c.slots ∧ c.slots ≤ 14 := by
  obtain ⟨h1, h2, -, -, -, -, h7, h8, -⟩ := h
  unfold Cf.slots
  split <;> omega
theorem Cf.Ok.width {c : Cf} (h : c.Ok) : 3 ≤ c.width ∧ c.width ≤ 11 := by
  obtain ⟨h1, h2, -, -, -, -, h7, h8, -⟩ := h
  unfold Cf.width
  split <;> omega
theorem Cf.Ok.places {c : Cf} (h : c.Ok) : 0 ≤ c.places ∧ c.places ≤ 64 := by
  obtain ⟨h1, h2, -, -, -, -, h7, h8, -⟩ := h
  unfold Cf.places
  split
  · have hl : c.lv = 1 ∨ c.lv = 2 ∨ c.lv = 3 ∨ c.lv = 4 ∨ c.lv = 5 ∨ c.lv = 6 := by omega
    rcases hl with e | e | e | e | e | e <;> rw [e] <;> decide
  · omega
theorem Cf.Ok.nd {c : Cf} (h : c.Ok) : 1 ≤ c.nd ∧ c.nd ≤ 64 := ⟨by have := h.n0; have := sent_in c.al; omega, h.n1⟩
theorem Cf.Ok.th {c : Cf} (h : c.Ok) : 1 ≤ c.th ∧ c.th ≤ 6 := ⟨h.t0, h.t1⟩
/-- Everything that the areas are reckoned of is small. -/
theorem Cf.Ok.bounds {c : Cf} (h : c.Ok) : (0 ≤ c.th * c.slots ∧ c.th * c.slots ≤ 84) ∧ (0 ≤ c.nd * c.width ∧ c.nd * c.width ≤ 704) ∧ (8 ≤ c.o2 ∧ c.o2 ≤ 92) ∧ (8 ≤ c.o3 ∧ c.o3 ≤ 156) ∧ (8 ≤ c.o4 ∧ c.o4 ≤ 860) ∧ (8 ≤ c.size ∧ c.size ≤ 924) := by
  have a := mul_in (A := 6) (B := 14) (by have := h.t0; omega) h.t1 (by have := h.slots.1; omega) h.slots.2
  have b := mul_in (A := 64) (B := 11) (by have := h.nd; omega) h.n1 (by have := h.width.1; omega) h.width.2
  have p := h.places
  have n := h.nd
  simp only [Cf.o2, Cf.o3, Cf.o4, Cf.size] at *
  omega

/-- All areas. -/
abbrev Cf.rows (c : Cf) : Array Value := #[i0, i0, .int .i64 8, .int .i64 1, .int .i64 8, i0, .int .i64 c.th, .int .i64 c.slots, .int .i64 c.o2, .int .i64 1, .int .i64 c.nd, .int .i64 1,
  .int .i64 c.o3, .int .i64 1, .int .i64 c.nd, .int .i64 c.width, .int .i64 c.o4, i0, .int .i64 c.places, .int .i64 1]

theorem rows_size (c : Cf) : (Try.prog.info? 95).map (·.size) = some c.rows.size := by kernel_rfl
theorem rows_one (c : Cf) : c.rows.all (·.oneCell') = true := by simp [Value.oneCell']
theorem results_cell (V : World) (R : Nat) (v : Value) (a : Array Value) (ha : a.getD 2 undef = .pointer (some ⟨R, 0, none⟩)) (hl : (loadVar 95 ⟨R, 0, none⟩).run Try.prog V = .ok v V) : (results Try.f39 a).run Try.prog V = .ok v V := by
  have ha' : a[2]?.getD undef = .pointer (some ⟨R, 0, none⟩) := by simpa using ha
  simp only [results, Try.results39]
  simp [ha', asAddr, hl]
theorem rows_load (c : Cf) (W : World) (R : Nat) (th : W.there R 0 20) : (loadVar 95 ⟨R, 0, none⟩).run Try.prog (W.setCells R 0 c.rows.toList) = .ok (.agg c.rows) (W.setCells R 0 c.rows.toList) :=
  run_loadVar_mid (P := Try.prog) (W.setCells R 0 c.rows.toList) R 0 95 c.rows.toList (.array 5 94) (World.rangeAt_setCells_same W R 0 c.rows.toList th) (by kernel_rfl) rfl (by kernel_rfl)
theorem below_setCells {n : Nat} {A : World} (b : Nat) (hb : n ≤ b) : ∀ (vs : List Value) (o : Nat) (W : World), Below n A W → Below n A (W.setCells b o vs)
  | [], _, _, h => h
  | v :: vs, o, W, h => below_setCells b hb vs (o + 1) _ (h.setCell hb v)
theorem wpList_rows (c : Cf) {W : World} (L R : Nat) (rg : W.rangeAt L 0 c.rows.toList) (th : W.there R 0 20) {ops : Array Oper} {a : Act} {Q : Exit → Act → World → Prop} {ty1 ty2 : TypeId} {p1 p2 : String} {af1 af2 : Array Edge}
    (h3 : a.tmps.getD 3 undef = .pointer (some ⟨L, 0, none⟩)) (h2 : a.tmps.getD 2 undef = .pointer (some ⟨R, 0, none⟩)) (hs : a.tmps.size = 41)
    (h : ∀ V, (loadVar 95 ⟨R, 0, none⟩).run Try.prog V = .ok (.agg c.rows) V → (∀ n A, n ≤ R → Below n A W → Below n A V) → wpList Try.prog ops Q [] (a.put (some 40) (.agg c.rows)) V) :
    wpList Try.prog ops Q [⟨some 40, .load 95 (.tmp 3), ty1, p1, af1, none⟩, ⟨none, .store 95 (.tmp 2) (.tmp 40), ty2, p2, af2, none⟩] a W := by
  refine wpList_load_mid rfl 95 _ rfl L 0 h3 c.rows.toList (.array 5 94) rg (by kernel_rfl) rfl (by kernel_rfl) ?_
  refine wpList_store_mid rfl 95 _ _ rfl R 0 c.rows ?_ ?_ th (rows_size c) (rows_one c) (h _ (rows_load c W R th) fun n A hn hb => below_setCells R hn _ 0 _ hb)
  · show (a.tmps.setIfInBounds 40 _).getD 2 undef = _
    rw [← h2]
    simp
  · show (a.tmps.setIfInBounds 40 _).getD 40 undef = _
    simp [hs]

/-- How things stand amid 'areas': the plan's box P, the result R, the list L. -/
structure St (c : Cf) (w : World) (P R L : Nat) (cs : Array Value) (W : World) : Prop where
  p : Blk W P 65 c.cs
  r : Blk W R 95 z20
  l : Blk W L 95 cs
  bel : Below w.heap.size w W
theorem St.below {c : Cf} {w : World} {P R L : Nat} {cs : Array Value} {W W1 : World} (h : St c w P R L cs W) (hb : Below W.heap.size W W1) : St c w P R L cs W1 :=
  ⟨h.p.below hb h.p.lt, h.r.below hb h.r.lt, h.l.below hb h.l.lt, below_then h.bel hb (Nat.le_refl _)⟩
theorem St.drew {c : Cf} {w : World} {P R L : Nat} {cs : Array Value} {W : World} (h : St c w P R L cs W) : St c w P R L cs W.drew := ⟨h.p, h.r, h.l, below_drew1 h.bel⟩
theorem St.set {c : Cf} {w : World} {P R L : Nat} {cs : Array Value} {W : World} (h : St c w P R L cs W) (h1 : w.heap.size ≤ L) (h2 : P ≠ L) (h3 : R ≠ L) (i : Nat) (v : Value) : St c w P R L (cs.setIfInBounds i v) (W.setCell ⟨L, i, none⟩ v) :=
  ⟨h.p.far h2 v, h.r.far h3 v, h.l.set i v, h.bel.setCell h1 v⟩
theorem St.set4 {c : Cf} {w : World} {P R L : Nat} {cs : Array Value} {W : World} (h : St c w P R L cs W) (h1 : w.heap.size ≤ L) (h2 : P ≠ L) (h3 : R ≠ L) (i j k l : Nat) (a b d e : Value) :
    St c w P R L ((((cs.setIfInBounds i a).setIfInBounds j b).setIfInBounds k d).setIfInBounds l e) ((((W.setCell ⟨L, i, none⟩ a).setCell ⟨L, j, none⟩ b).setCell ⟨L, k, none⟩ d).setCell ⟨L, l, none⟩ e) :=
  (((h.set h1 h2 h3 i a).set h1 h2 h3 j b).set h1 h2 h3 k d).set h1 h2 h3 l e

set_option maxRecDepth 100000 in
set_option maxHeartbeats 4000000 in
theorem areas_ok (c : Cf) (w : World) (h : c.Ok) : Calls Try.prog 39 #[c.v] w fun e w' => e = .returned (.agg c.rows) ∧ Below w.heap.size w w' := by
  have hz := fun W => zero_no c W h
  have S0 : St c w w.heap.size (w.heap.size + 1) (w.heap.size + 2) z20 (((w.alloc (.cells c.cs 65)).alloc (.cells z20 95)).alloc (.cells z20 95)) := by
    refine ⟨((Blk.new _ _ _).alloc _).alloc _, ?_, ?_, (((Below.refl _ _).alloc (Nat.le_refl _) _).alloc (by simp) _).alloc (by simp; omega) _⟩
    · have := (Blk.new (w.alloc (.cells c.cs 65)) 95 z20).alloc (.cells z20 95)
      rwa [show (w.alloc (.cells c.cs 65)).heap.size = w.heap.size + 1 by simp] at this
    · have := Blk.new ((w.alloc (.cells c.cs 65)).alloc (.cells z20 95)) 95 z20
      rwa [show ((w.alloc (.cells c.cs 65)).alloc (.cells z20 95)).heap.size = w.heap.size + 2 by simp] at this
  go_enter Try.func39, Try.ntmps39
  go_wp2_with fail
  refine (hz _).mono ?_
  rintro e w1 ⟨rfl, hb⟩
  have S1 := S0.below hb
  clear hb S0 hz
  have g1 : w.heap.size ≤ w.heap.size + 2 := by omega
  have g2 : w.heap.size ≠ w.heap.size + 2 := by omega
  have g3 : w.heap.size + 1 ≠ w.heap.size + 2 := by omega
  have g4 : w.heap.size ≤ w.heap.size + 1 := by omega
  generalize w.heap.size + 2 = L at *
  generalize w.heap.size + 1 = R at *
  have l0 := S1.l.get 0 rfl
  have l1 := S1.l.get 1 rfl
  have l2 := S1.l.get 2 rfl
  have l3 := S1.l.get 3 rfl
  have lf := S1.l.frozen
  go_wp2
  have S2 := S1.set4 g1 g2 g3 0 1 2 3 i0 i0 (.int .i64 8) (.int .i64 1)
  clear S1 l0 l1 l2 l3 lf
  obtain ⟨⟨m1, m2⟩, ⟨m3, m4⟩, ⟨m5, m6⟩, ⟨m7, m8⟩, ⟨m9, m10⟩, -⟩ := h.bounds
  obtain ⟨n1, n2⟩ := h.nd
  have k1 : ∀ W, Calls Try.prog 60 #[.agg #[i0, i0, .int .i64 8, .int .i64 1], i0, .int .i64 c.th, .int .i64 c.slots] W fun e w' => e = .returned (.agg #[.int .i64 8, i0, .int .i64 c.th, .int .i64 c.slots]) ∧ Below W.heap.size W w' := fun W => behind_any 0 0 8 1 0 c.th c.slots W (by omega) (by omega) (by omega) (by omega)
  have k2 : ∀ W, Calls Try.prog 60 #[.agg #[.int .i64 8, i0, .int .i64 c.th, .int .i64 c.slots], .int .i64 1, .int .i64 c.nd, .int .i64 1] W fun e w' => e = .returned (.agg #[.int .i64 c.o2, .int .i64 1, .int .i64 c.nd, .int .i64 1]) ∧ Below W.heap.size W w' := fun W => behind_any 8 0 c.th c.slots 1 c.nd 1 W (by omega) (by omega) (by omega) (by omega)
  have k3 : ∀ W, Calls Try.prog 60 #[.agg #[.int .i64 c.o2, .int .i64 1, .int .i64 c.nd, .int .i64 1], .int .i64 1, .int .i64 c.nd, .int .i64 c.width] W fun e w' => e = .returned (.agg #[.int .i64 c.o3, .int .i64 1, .int .i64 c.nd, .int .i64 c.width]) ∧ Below W.heap.size W w' := fun W => behind_any c.o2 1 c.nd 1 1 c.nd c.width W (by omega) (by omega) (by omega) (by omega)
  have k4 : ∀ W, Calls Try.prog 60 #[.agg #[.int .i64 c.o3, .int .i64 1, .int .i64 c.nd, .int .i64 c.width], i0, .int .i64 c.places, .int .i64 1] W fun e w' => e = .returned (.agg #[.int .i64 c.o4, i0, .int .i64 c.places, .int .i64 1]) ∧ Below W.heap.size W w' := fun W => behind_any c.o3 1 c.nd c.width 0 c.places 1 W (by omega) (by omega) (by omega) (by omega)
  have a1 := fun W => slots_ok c W h
  have a2 := fun W => width_ok c W h
  have a3 := fun W => places_ok c W h
  clear m1 m2 m3 m4 m5 m6 m7 m8 m9 m10 n1 n2 h
  generalize ((((w1.setCell ⟨L, 0, none⟩ (i0)).setCell ⟨L, 1, none⟩ (i0)).setCell ⟨L, 2, none⟩ (.int .i64 8)).setCell ⟨L, 3, none⟩ (.int .i64 1)) = W2 at *
  replace S2 : St c w w.heap.size R L #[i0, i0, .int .i64 8, .int .i64 1, i0, i0, i0, i0, i0, i0, i0, i0, i0, i0, i0, i0, i0, i0, i0, i0] W2 := S2
  have xl0 := S2.l.get 0 rfl
  have xl1 := S2.l.get 1 rfl
  have xl2 := S2.l.get 2 rfl
  have xl3 := S2.l.get 3 rfl
  have xf := S2.l.frozen
  obtain ⟨xp0, xp1, xp2, xp3, xp4, xp5, xp6⟩ := S2.p.conf
  go_region_held3 (fun W => W.cell? ⟨L, 0, none⟩ = some (i0) ∧ W.cell? ⟨L, 1, none⟩ = some (i0) ∧ W.cell? ⟨L, 2, none⟩ = some (.int .i64 8) ∧ W.cell? ⟨L, 3, none⟩ = some (.int .i64 1) ∧ W.cell? ⟨w.heap.size, 0, none⟩ = some (.int .i64 c.al) ∧ W.cell? ⟨w.heap.size, 1, none⟩ = some (.int .i64 c.th) ∧ W.cell? ⟨w.heap.size, 2, none⟩ = some (.int .i64 c.nd) ∧ W.cell? ⟨w.heap.size, 3, none⟩ = some (.int .i64 c.lv) ∧ W.cell? ⟨w.heap.size, 4, none⟩ = some (.int .i64 c.ba) ∧ W.cell? ⟨w.heap.size, 5, none⟩ = some (.int .i64 c.pr) ∧ W.cell? ⟨w.heap.size, 6, none⟩ = some (.int .i64 c.sc)) (first | go_keep | exact ⟨(S4.set4 g1 g2 g3 4 5 6 7 (.int .i64 8) (i0) (.int .i64 c.th) (.int .i64 c.slots)).l.get 0 rfl, (S4.set4 g1 g2 g3 4 5 6 7 (.int .i64 8) (i0) (.int .i64 c.th) (.int .i64 c.slots)).l.get 1 rfl, (S4.set4 g1 g2 g3 4 5 6 7 (.int .i64 8) (i0) (.int .i64 c.th) (.int .i64 c.slots)).l.get 2 rfl, (S4.set4 g1 g2 g3 4 5 6 7 (.int .i64 8) (i0) (.int .i64 c.th) (.int .i64 c.slots)).l.get 3 rfl, (S4.set4 g1 g2 g3 4 5 6 7 (.int .i64 8) (i0) (.int .i64 c.th) (.int .i64 c.slots)).p.conf⟩)
    (first | (go_at_call 61; refine (a1 _).mono ?_; rintro e w2 ⟨rfl, hb⟩; have S3 := S2.drew.below hb; have yl0 := S3.l.get 0 rfl; have yl1 := S3.l.get 1 rfl; have yl2 := S3.l.get 2 rfl; have yl3 := S3.l.get 3 rfl; have yf := S3.l.frozen; obtain ⟨yp0, yp1, yp2, yp3, yp4, yp5, yp6⟩ := S3.p.conf) | (go_at_call 60; refine (k1 _).mono ?_; rintro e w3 ⟨rfl, hb3⟩; have S4 := S3.below hb3; have zl0 := S4.l.get 0 rfl; have zl1 := S4.l.get 1 rfl; have zl2 := S4.l.get 2 rfl; have zl3 := S4.l.get 3 rfl; have zl4 := S4.l.get 4 rfl; have zl5 := S4.l.get 5 rfl; have zl6 := S4.l.get 6 rfl; have zl7 := S4.l.get 7 rfl; have zf := S4.l.frozen; obtain ⟨zp0, zp1, zp2, zp3, zp4, zp5, zp6⟩ := S4.p.conf))
  have S5 := S4.set4 g1 g2 g3 4 5 6 7 (.int .i64 8) (i0) (.int .i64 c.th) (.int .i64 c.slots)
  clear S2 S3 S4 hb hb3 xf yf zf xp0 xp1 xp2 xp3 xp4 xp5 xp6 yp0 yp1 yp2 yp3 yp4 yp5 yp6 zp0 zp1 zp2 zp3 zp4 zp5 zp6 xl0 xl1 xl2 xl3 yl0 yl1 yl2 yl3 zl0 zl1 zl2 zl3 zl4 zl5 zl6 zl7
  rename_i hHeld
  clear hHeld
  generalize ((((w3.setCell ⟨L, 4, none⟩ (.int .i64 8)).setCell ⟨L, 5, none⟩ (i0)).setCell ⟨L, 6, none⟩ (.int .i64 c.th)).setCell ⟨L, 7, none⟩ (.int .i64 c.slots)) = W3 at *
  have S2 : St c w w.heap.size R L #[i0, i0, .int .i64 8, .int .i64 1, .int .i64 8, i0, .int .i64 c.th, .int .i64 c.slots, i0, i0, i0, i0, i0, i0, i0, i0, i0, i0, i0, i0] W3 := S5
  clear S5
  have xl4 := S2.l.get 4 rfl
  have xl5 := S2.l.get 5 rfl
  have xl6 := S2.l.get 6 rfl
  have xl7 := S2.l.get 7 rfl
  have xl8 := S2.l.get 8 rfl
  have xl9 := S2.l.get 9 rfl
  have xl10 := S2.l.get 10 rfl
  have xl11 := S2.l.get 11 rfl
  have xf := S2.l.frozen
  obtain ⟨xp0, xp1, xp2, xp3, xp4, xp5, xp6⟩ := S2.p.conf
  go_wp2_with fail
  refine (k2 _).mono ?_
  rintro e w2 ⟨rfl, hb⟩
  have S3 := S2.below hb
  have yl4 := S3.l.get 4 rfl
  have yl5 := S3.l.get 5 rfl
  have yl6 := S3.l.get 6 rfl
  have yl7 := S3.l.get 7 rfl
  have yl8 := S3.l.get 8 rfl
  have yl9 := S3.l.get 9 rfl
  have yl10 := S3.l.get 10 rfl
  have yl11 := S3.l.get 11 rfl
  have yf := S3.l.frozen
  obtain ⟨yp0, yp1, yp2, yp3, yp4, yp5, yp6⟩ := S3.p.conf
  go_wp2
  have S5 := S3.set4 g1 g2 g3 8 9 10 11 (.int .i64 c.o2) (.int .i64 1) (.int .i64 c.nd) (.int .i64 1)
  clear S2 S3 hb xf yf xp0 xp1 xp2 xp3 xp4 xp5 xp6 yp0 yp1 yp2 yp3 yp4 yp5 yp6 xl4 xl5 xl6 xl7 xl8 xl9 xl10 xl11 yl4 yl5 yl6 yl7 yl8 yl9 yl10 yl11
  generalize ((((w2.setCell ⟨L, 8, none⟩ (.int .i64 c.o2)).setCell ⟨L, 9, none⟩ (.int .i64 1)).setCell ⟨L, 10, none⟩ (.int .i64 c.nd)).setCell ⟨L, 11, none⟩ (.int .i64 1)) = W4 at *
  have S2 : St c w w.heap.size R L #[i0, i0, .int .i64 8, .int .i64 1, .int .i64 8, i0, .int .i64 c.th, .int .i64 c.slots, .int .i64 c.o2, .int .i64 1, .int .i64 c.nd, .int .i64 1, i0, i0, i0, i0, i0, i0, i0, i0] W4 := S5
  clear S5
  have xl8 := S2.l.get 8 rfl
  have xl9 := S2.l.get 9 rfl
  have xl10 := S2.l.get 10 rfl
  have xl11 := S2.l.get 11 rfl
  have xf := S2.l.frozen
  obtain ⟨xp0, xp1, xp2, xp3, xp4, xp5, xp6⟩ := S2.p.conf
  go_region_held3 (fun W => W.cell? ⟨L, 8, none⟩ = some (.int .i64 c.o2) ∧ W.cell? ⟨L, 9, none⟩ = some (.int .i64 1) ∧ W.cell? ⟨L, 10, none⟩ = some (.int .i64 c.nd) ∧ W.cell? ⟨L, 11, none⟩ = some (.int .i64 1) ∧ W.cell? ⟨w.heap.size, 0, none⟩ = some (.int .i64 c.al) ∧ W.cell? ⟨w.heap.size, 1, none⟩ = some (.int .i64 c.th) ∧ W.cell? ⟨w.heap.size, 2, none⟩ = some (.int .i64 c.nd) ∧ W.cell? ⟨w.heap.size, 3, none⟩ = some (.int .i64 c.lv) ∧ W.cell? ⟨w.heap.size, 4, none⟩ = some (.int .i64 c.ba) ∧ W.cell? ⟨w.heap.size, 5, none⟩ = some (.int .i64 c.pr) ∧ W.cell? ⟨w.heap.size, 6, none⟩ = some (.int .i64 c.sc)) (first | go_keep | exact ⟨(S4.set4 g1 g2 g3 12 13 14 15 (.int .i64 c.o3) (.int .i64 1) (.int .i64 c.nd) (.int .i64 c.width)).l.get 8 rfl, (S4.set4 g1 g2 g3 12 13 14 15 (.int .i64 c.o3) (.int .i64 1) (.int .i64 c.nd) (.int .i64 c.width)).l.get 9 rfl, (S4.set4 g1 g2 g3 12 13 14 15 (.int .i64 c.o3) (.int .i64 1) (.int .i64 c.nd) (.int .i64 c.width)).l.get 10 rfl, (S4.set4 g1 g2 g3 12 13 14 15 (.int .i64 c.o3) (.int .i64 1) (.int .i64 c.nd) (.int .i64 c.width)).l.get 11 rfl, (S4.set4 g1 g2 g3 12 13 14 15 (.int .i64 c.o3) (.int .i64 1) (.int .i64 c.nd) (.int .i64 c.width)).p.conf⟩)
    (first | (go_at_call 62; refine (a2 _).mono ?_; rintro e w2 ⟨rfl, hb⟩; have S3 := S2.drew.below hb; have yl8 := S3.l.get 8 rfl; have yl9 := S3.l.get 9 rfl; have yl10 := S3.l.get 10 rfl; have yl11 := S3.l.get 11 rfl; have yf := S3.l.frozen; obtain ⟨yp0, yp1, yp2, yp3, yp4, yp5, yp6⟩ := S3.p.conf) | (go_at_call 60; refine (k3 _).mono ?_; rintro e w3 ⟨rfl, hb3⟩; have S4 := S3.below hb3; have zl8 := S4.l.get 8 rfl; have zl9 := S4.l.get 9 rfl; have zl10 := S4.l.get 10 rfl; have zl11 := S4.l.get 11 rfl; have zl12 := S4.l.get 12 rfl; have zl13 := S4.l.get 13 rfl; have zl14 := S4.l.get 14 rfl; have zl15 := S4.l.get 15 rfl; have zf := S4.l.frozen; obtain ⟨zp0, zp1, zp2, zp3, zp4, zp5, zp6⟩ := S4.p.conf))
  have S5 := S4.set4 g1 g2 g3 12 13 14 15 (.int .i64 c.o3) (.int .i64 1) (.int .i64 c.nd) (.int .i64 c.width)
  clear S2 S3 S4 hb hb3 xf yf zf xp0 xp1 xp2 xp3 xp4 xp5 xp6 yp0 yp1 yp2 yp3 yp4 yp5 yp6 zp0 zp1 zp2 zp3 zp4 zp5 zp6 xl8 xl9 xl10 xl11 yl8 yl9 yl10 yl11 zl8 zl9 zl10 zl11 zl12 zl13 zl14 zl15
  rename_i hHeld
  clear hHeld
  generalize ((((w3.setCell ⟨L, 12, none⟩ (.int .i64 c.o3)).setCell ⟨L, 13, none⟩ (.int .i64 1)).setCell ⟨L, 14, none⟩ (.int .i64 c.nd)).setCell ⟨L, 15, none⟩ (.int .i64 c.width)) = W5 at *
  have S2 : St c w w.heap.size R L #[i0, i0, .int .i64 8, .int .i64 1, .int .i64 8, i0, .int .i64 c.th, .int .i64 c.slots, .int .i64 c.o2, .int .i64 1, .int .i64 c.nd, .int .i64 1, .int .i64 c.o3, .int .i64 1, .int .i64 c.nd, .int .i64 c.width, i0, i0, i0, i0] W5 := S5
  clear S5
  go_wp2
  have xl12 := S2.l.get 12 rfl
  have xl13 := S2.l.get 13 rfl
  have xl14 := S2.l.get 14 rfl
  have xl15 := S2.l.get 15 rfl
  have xf := S2.l.frozen
  obtain ⟨xp0, xp1, xp2, xp3, xp4, xp5, xp6⟩ := S2.p.conf
  go_region_held3 (fun W => W.cell? ⟨L, 12, none⟩ = some (.int .i64 c.o3) ∧ W.cell? ⟨L, 13, none⟩ = some (.int .i64 1) ∧ W.cell? ⟨L, 14, none⟩ = some (.int .i64 c.nd) ∧ W.cell? ⟨L, 15, none⟩ = some (.int .i64 c.width) ∧ W.cell? ⟨w.heap.size, 0, none⟩ = some (.int .i64 c.al) ∧ W.cell? ⟨w.heap.size, 1, none⟩ = some (.int .i64 c.th) ∧ W.cell? ⟨w.heap.size, 2, none⟩ = some (.int .i64 c.nd) ∧ W.cell? ⟨w.heap.size, 3, none⟩ = some (.int .i64 c.lv) ∧ W.cell? ⟨w.heap.size, 4, none⟩ = some (.int .i64 c.ba) ∧ W.cell? ⟨w.heap.size, 5, none⟩ = some (.int .i64 c.pr) ∧ W.cell? ⟨w.heap.size, 6, none⟩ = some (.int .i64 c.sc)) (first | go_keep | exact ⟨(S4.set4 g1 g2 g3 16 17 18 19 (.int .i64 c.o4) (i0) (.int .i64 c.places) (.int .i64 1)).l.get 12 rfl, (S4.set4 g1 g2 g3 16 17 18 19 (.int .i64 c.o4) (i0) (.int .i64 c.places) (.int .i64 1)).l.get 13 rfl, (S4.set4 g1 g2 g3 16 17 18 19 (.int .i64 c.o4) (i0) (.int .i64 c.places) (.int .i64 1)).l.get 14 rfl, (S4.set4 g1 g2 g3 16 17 18 19 (.int .i64 c.o4) (i0) (.int .i64 c.places) (.int .i64 1)).l.get 15 rfl, (S4.set4 g1 g2 g3 16 17 18 19 (.int .i64 c.o4) (i0) (.int .i64 c.places) (.int .i64 1)).p.conf⟩)
    (first | (go_at_call 63; refine (a3 _).mono ?_; rintro e w2 ⟨rfl, hb⟩; have S3 := S2.drew.below hb; have yl12 := S3.l.get 12 rfl; have yl13 := S3.l.get 13 rfl; have yl14 := S3.l.get 14 rfl; have yl15 := S3.l.get 15 rfl; have yf := S3.l.frozen; obtain ⟨yp0, yp1, yp2, yp3, yp4, yp5, yp6⟩ := S3.p.conf) | (go_at_call 60; refine (k4 _).mono ?_; rintro e w3 ⟨rfl, hb3⟩; have S4 := S3.below hb3; have zl12 := S4.l.get 12 rfl; have zl13 := S4.l.get 13 rfl; have zl14 := S4.l.get 14 rfl; have zl15 := S4.l.get 15 rfl; have zl16 := S4.l.get 16 rfl; have zl17 := S4.l.get 17 rfl; have zl18 := S4.l.get 18 rfl; have zl19 := S4.l.get 19 rfl; have zf := S4.l.frozen; obtain ⟨zp0, zp1, zp2, zp3, zp4, zp5, zp6⟩ := S4.p.conf))
  have S5 := S4.set4 g1 g2 g3 16 17 18 19 (.int .i64 c.o4) (i0) (.int .i64 c.places) (.int .i64 1)
  clear S2 S3 S4 hb hb3 xf yf zf xp0 xp1 xp2 xp3 xp4 xp5 xp6 yp0 yp1 yp2 yp3 yp4 yp5 yp6 zp0 zp1 zp2 zp3 zp4 zp5 zp6 xl12 xl13 xl14 xl15 yl12 yl13 yl14 yl15 zl12 zl13 zl14 zl15 zl16 zl17 zl18 zl19
  rename_i hHeld
  clear hHeld
  generalize ((((w3.setCell ⟨L, 16, none⟩ (.int .i64 c.o4)).setCell ⟨L, 17, none⟩ (i0)).setCell ⟨L, 18, none⟩ (.int .i64 c.places)).setCell ⟨L, 19, none⟩ (.int .i64 1)) = W6 at *
  have S2 : St c w w.heap.size R L #[i0, i0, .int .i64 8, .int .i64 1, .int .i64 8, i0, .int .i64 c.th, .int .i64 c.slots, .int .i64 c.o2, .int .i64 1, .int .i64 c.nd, .int .i64 1, .int .i64 c.o3, .int .i64 1, .int .i64 c.nd, .int .i64 c.width, .int .i64 c.o4, i0, .int .i64 c.places, .int .i64 1] W6 := S5
  clear S5
  have rg : W6.rangeAt L 0 c.rows.toList := fun j v hv => by
    rw [Nat.zero_add]
    exact S2.l.get j (by simpa using hv)
  have th : W6.there R 0 20 := fun j hj => by
    rw [Nat.zero_add]
    refine ⟨?_, S2.r.frozen j⟩
    rw [S2.r.cell j, Array.getElem?_eq_getElem (show j < z20.size from hj)]
    rfl
  have bel := S2.bel
  clear S2
  go_wp2_with ((with_reducible refine wpList_rows c L R rg th ?_ ?_ ?_ ?_); rfl; rfl; rfl; intro V hV hB; have HV := Lib.hid hV; clear hV; simp only [Act.put, List.setIfInBounds_toArray, List.set_cons_zero, List.set_cons_succ])
  refine bodyPost_ret (v := .agg c.rows) (results_cell V R _ _ rfl HV.out) rfl ⟨rfl, hB _ _ g4 bel⟩
end Go.Proofs.Ytnedifcjenlcjaa.P
