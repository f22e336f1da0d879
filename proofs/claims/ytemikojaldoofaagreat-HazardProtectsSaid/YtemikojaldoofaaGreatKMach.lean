/- A machine in the heap: its box, its memory, its ghost if it has one; what Mem, Ghost, Feed, Plan, note, Fault do. -/
import Derived.Test.YtemikojaldoofaaGreatMA
import Derived.Test.YtemikojaldoofaaGreatGDo
import Derived.Test.YtemikojaldoofaaGreatFNew
import Derived.Test.YtemikojaldoofaaGreatPWhere
import Derived.Test.YtemikojaldoofaaGreatPRef
import Derived.Test.YtemikojaldoofaaGreatPMath
import Derived.Test.YtemikojaldoofaaGreatPArg
import Derived.Test.YtemikojaldoofaaGreatWWalks
namespace Go.Proofs.YtemikojaldoofaaGreat
open Go.ChangeShapes Go.WideShapes Go.ChangeAt Go.RowKit
set_option linter.unusedVariables false

set_option maxRecDepth 20000

/-- A ghost and where it lies: its box, its tags; or none. -/
abbrev Gh := Option (Nat × Nat × G.GS)
def gO : Gh → Nat → Prop
  | none, _ => False
  | some (g, t, _), k => k = g ∨ k = t
def gV : Gh → Value
  | none => .pointer none
  | some (g, _, _) => at0 g
def gOk (n : Nat) : Gh → World → Prop
  | none, _ => True
  | some (g, t, s), W => G.GAt g (some ⟨t, 0, none⟩) n s W ∧ Blk W t 3 (G.encI s.tags)

/-- The cells of a machine. -/
def machCs (c : P.Cf) (M : Nat) (gv : Value) (F T : Nat) (n : Nat) (bad : Bool) : Array Value :=
  #[.int .i64 c.al, .int .i64 c.th, .int .i64 c.nd, .int .i64 c.lv, .int .i64 c.ba, .int .i64 c.pr, .int .i64 c.sc, at0 M, gv, at0 F, .slice (some ⟨T, 0, none⟩) n n, .bool bad]

/-- A machine at the block B: its configuration, memory, ghost, whether a step had an error; its feed at F, its threads at T; O: what its steps may turn. -/
def MachAt (B : Nat) (c : P.Cf) (F T : Nat) (ms : MS) (gs : Gh) (bad : Bool) (O : Nat → Prop) (W : World) : Prop :=
  ∃ M Om, O = (fun k => k = B ∨ Om k ∨ gO gs k) ∧ Blk W B 79 (machCs c M (gV gs) F T c.th.toNat bad) ∧ MemAt M ms Om W ∧ gOk c.nd.toNat gs W

theorem MemAt.no {B : Nat} {s : MS} {O : Nat → Prop} {W : World} (h : MemAt B s O W) {g : Nat} {t : TypeId} {cs : Array Value} (hb : Blk W g t cs) (h1 : t ≠ 85) (h2 : t ≠ 24) (h3 : t ≠ 88) : ¬ O g := by
  obtain ⟨G, v, rfl, hB, hG, hr⟩ := h
  rintro (rfl | rfl | hk)
  · exact Blk.ne hb hB h1 rfl
  · exact Blk.ne hb hG h2 rfl
  · exact hb.not_row hr h3 hk
theorem gOk.lt {n : Nat} {gs : Gh} {W : World} (h : gOk n gs W) {k : Nat} (hk : gO gs k) : k < W.heap.size := by
  match gs, h, hk with
  | some (g, t, s), ⟨h, h'⟩, hk =>
    rcases hk with rfl | rfl
    · exact Blk.lt h.box
    · exact h'.lt
theorem GAt.agree {g t n : Nat} {s : G.GS} {W W' : World} (h : G.GAt g (some ⟨t, 0, none⟩) n s W) (h0 : W'.heap[g]? = W.heap[g]?) (h1 : W'.heap[t]? = W.heap[t]?) : G.GAt g (some ⟨t, 0, none⟩) n s W' :=
  ⟨Blk.agree h.box h0, fun hn => by
    obtain ⟨G, e, hG⟩ := h.row hn
    refine ⟨G, e, Blk.agree hG ?_⟩
    have : t = G := by simpa using e
    rw [← this]; exact h1, h.len, h.small, h.first⟩
theorem gOk.agree {n : Nat} {gs : Gh} {W W' : World} (h : gOk n gs W) (hk : ∀ k, gO gs k → W'.heap[k]? = W.heap[k]?) : gOk n gs W' := by
  match gs, h, hk with
  | none, _, _ => trivial
  | some (g, t, s), ⟨h, h'⟩, hk => exact ⟨GAt.agree h (hk g (.inl rfl)) (hk t (.inr rfl)), h'.agree (hk t (.inr rfl))⟩
/-- A block of another type is none of the ghost's. -/
theorem gOk.no {n : Nat} {gs : Gh} {W : World} (h : gOk n gs W) {g : Nat} {t : TypeId} {cs : Array Value} (hb : Blk W g t cs) (h1 : t ≠ 96) (h2 : t ≠ 3) : ¬ gO gs g := by
  match gs, h with
  | none, _ => exact id
  | some (g', t', s), ⟨h, h'⟩ =>
    rintro (rfl | rfl)
    · exact Blk.ne hb (show Blk W g 96 _ from h.box) h1 rfl
    · exact Blk.ne hb h' h2 rfl
/-- The ghost's blocks are none of the memory's. -/
theorem gOk.apart {n M : Nat} {ms : MS} {Om : Nat → Prop} {gs : Gh} {W : World} (h : gOk n gs W) (hm : MemAt M ms Om W) {k : Nat} (hk : gO gs k) : ¬ Om k := by
  match gs, h, hk with
  | some (g', t', s), ⟨h, h'⟩, hk =>
    rcases hk with rfl | rfl
    · exact hm.no (show Blk W _ 96 _ from h.box) (by decide) (by decide) (by decide)
    · exact hm.no h' (by decide) (by decide) (by decide)

theorem MachAt.lt {B : Nat} {c : P.Cf} {F T : Nat} {ms : MS} {gs : Gh} {bad : Bool} {O : Nat → Prop} {W : World} (h : MachAt B c F T ms gs bad O W) {k : Nat} (hk : O k) : k < W.heap.size := by
  obtain ⟨M, Om, rfl, hb, hm, hg⟩ := h
  rcases hk with rfl | hk | hk
  · exact hb.lt
  · exact hm.lt hk
  · exact hg.lt hk
theorem MachAt.own {B : Nat} {c : P.Cf} {F T : Nat} {ms : MS} {gs : Gh} {bad : Bool} {O : Nat → Prop} {W : World} (h : MachAt B c F T ms gs bad O W) : O B := by
  obtain ⟨M, Om, rfl, _⟩ := h
  exact .inl rfl
theorem MachAt.agree {B : Nat} {c : P.Cf} {F T : Nat} {ms : MS} {gs : Gh} {bad : Bool} {O : Nat → Prop} {W W' : World} (h : MachAt B c F T ms gs bad O W) (hk : ∀ k, O k → W'.heap[k]? = W.heap[k]?) : MachAt B c F T ms gs bad O W' := by
  obtain ⟨M, Om, rfl, hb, hm, hg⟩ := h
  exact ⟨M, Om, rfl, hb.agree (hk B (.inl rfl)), hm.agree fun k ho => hk k (.inr (.inl ho)), hg.agree fun k ho => hk k (.inr (.inr ho))⟩
theorem MachAt.alloc {B : Nat} {c : P.Cf} {F T : Nat} {ms : MS} {gs : Gh} {bad : Bool} {O : Nat → Prop} {W : World} (h : MachAt B c F T ms gs bad O W) (o : Obj) : MachAt B c F T ms gs bad O (W.alloc o) := h.agree fun k hk => Below.heap_alloc _ _ _ (h.lt hk)
theorem MachAt.below {B : Nat} {c : P.Cf} {F T : Nat} {ms : MS} {gs : Gh} {bad : Bool} {O : Nat → Prop} {W W' : World} (h : MachAt B c F T ms gs bad O W) (hb : Below W.heap.size W W') : MachAt B c F T ms gs bad O W' := h.agree fun k hk => hb.block k (h.lt hk)
theorem MachAt.keeps {B : Nat} {c : P.Cf} {F T : Nat} {ms : MS} {gs : Gh} {bad : Bool} {O O' : Nat → Prop} {W W' : World} (h : MachAt B c F T ms gs bad O W) (hk : Keeps O' W W') (hd : ∀ k, O k → ¬ O' k) : MachAt B c F T ms gs bad O W' :=
  h.agree fun k ho => hk.block k (h.lt ho) (hd k ho)

/-- The machine has become another; what it may turn alone has turned. -/
def MTurn (B : Nat) (c : P.Cf) (F T : Nat) (ms : MS) (gs : Gh) (bad : Bool) (O : Nat → Prop) (W W' : World) : Prop :=
  ∃ O', Keeps O W W' ∧ Later O W O' ∧ MachAt B c F T ms gs bad O' W'
/-- What a call leaves that hands v back. -/
def MDoes (B : Nat) (c : P.Cf) (F T : Nat) (v : Value) (ms : MS) (gs : Gh) (bad : Bool) (O : Nat → Prop) (W : World) (e : Ending) (W' : World) : Prop :=
  e = .returned v ∧ MTurn B c F T ms gs bad O W W'
theorem MTurn.refl {B : Nat} {c : P.Cf} {F T : Nat} {ms : MS} {gs : Gh} {bad : Bool} {O : Nat → Prop} {W : World} (h : MachAt B c F T ms gs bad O W) : MTurn B c F T ms gs bad O W W := ⟨O, Keeps.refl _ _, Later.refl _ _, h⟩
theorem MTurn.from {B : Nat} {c : P.Cf} {F T : Nat} {ms : MS} {gs : Gh} {bad : Bool} {O O1 : Nat → Prop} {W W1 W' : World} (hk : Keeps O W W1) (hl : Later O W O1) (h : MTurn B c F T ms gs bad O1 W1 W') : MTurn B c F T ms gs bad O W W' := by
  obtain ⟨O', k, l, m⟩ := h
  exact ⟨O', hk.trans k hl, hl.trans hk.size l, m⟩
/-- A turn of its memory alone. -/
theorem MachAt.mem {B M : Nat} {c : P.Cf} {F T : Nat} {ms ms' : MS} {gs : Gh} {bad : Bool} {Om : Nat → Prop} {W W' : World} (hb : Blk W B 79 (machCs c M (gV gs) F T c.th.toNat bad)) (hm : MemAt M ms Om W) (hg : gOk c.nd.toNat gs W)
    (ht : Turn M ms' Om W W') : MTurn B c F T ms' gs bad (fun k => k = B ∨ Om k ∨ gO gs k) W W' := by
  obtain ⟨Om', hk, hl, hm'⟩ := ht
  refine ⟨fun k => k = B ∨ Om' k ∨ gO gs k, hk.mono fun k h => .inl (.inr (.inl h)), ?_, M, Om', rfl, ?_, hm', ?_⟩
  · rintro k (rfl | h | h)
    · exact .inl (.inl rfl)
    · exact (hl k h).imp (fun h => .inr (.inl h)) id
    · exact .inl (.inr (.inr h))
  · exact hb.agree (hk.block B hb.lt (hm.no hb (by decide) (by decide) (by decide)))
  · exact hg.agree fun k h => hk.block k (hg.lt h) (hg.apart hm h)
/-- A turn of its ghost alone. -/
theorem MachAt.ghost {B M g t : Nat} {c : P.Cf} {F T : Nat} {ms : MS} {s s' : G.GS} {bad : Bool} {Om : Nat → Prop} {W W' : World} (hb : Blk W B 79 (machCs c M (at0 g) F T c.th.toNat bad)) (hm : MemAt M ms Om W) (hg : gOk c.nd.toNat (some (g, t, s)) W)
    (h' : G.GAt g (some ⟨t, 0, none⟩) c.nd.toNat s' W') (hn : 0 < c.nd.toNat) (ho : G.Only g (some ⟨t, 0, none⟩) W W') : MTurn B c F T ms (some (g, t, s')) bad (fun k => k = B ∨ Om k ∨ gO (some (g, t, s)) k) W W' := by
  have hno : ∀ k, k < W.heap.size → ¬ gO (some (g, t, s)) k → W'.heap[k]? = W.heap[k]? := fun k hk hn => ho.block k hk (fun e => hn (.inl e)) (fun e => hn (.inr (by simpa using e.symm)))
  refine ⟨fun k => k = B ∨ Om k ∨ gO (some (g, t, s')) k, ⟨ho.os, ho.tape, ho.output, ho.size, fun k hk hn => hno k hk fun h => hn (.inr (.inr h))⟩, Later.refl _ _, M, Om, rfl, ?_, ?_, h', ?_⟩
  · exact hb.agree (hno B hb.lt (hg.no hb (by decide) (by decide)))
  · exact hm.agree fun k hk => hno k (hm.lt hk) fun h => hg.apart hm h hk
  · obtain ⟨G, e, hG⟩ := h'.row hn
    have : t = G := by simpa using e
    subst this
    exact hG
/-- It is at fault now. -/
theorem MachAt.fails {B : Nat} {c : P.Cf} {F T : Nat} {ms : MS} {gs : Gh} {bad : Bool} {O : Nat → Prop} {W : World} (h : MachAt B c F T ms gs bad O W) : MTurn B c F T ms gs true O W (W.setCell ⟨B, 11, none⟩ (.bool true)) := by
  obtain ⟨M, Om, rfl, hb, hm, hg⟩ := h
  refine ⟨_, (Keeps.refl _ W).setCell (p := ⟨B, 11, none⟩) (.inl (.inl rfl)) _, Later.refl _ _, M, Om, rfl, ?_, ?_, ?_⟩
  · have := hb.set 11 (.bool true)
    simpa [machCs] using this
  · exact hm.agree fun k hk => Below.heap_setCell _ _ _ _ (fun e => hm.no hb (by decide) (by decide) (by decide) (by rw [e] at hk; exact hk))
  · exact hg.agree fun k hk => Below.heap_setCell _ _ _ _ (fun e => hg.no hb (by decide) (by decide) (by rw [e] at hk; exact hk))

/-! ### Its small functions -/
theorem mem_nil (w : World) : Calls Tryz.prog 12 #[.pointer none] w fun e w' => e = .returned (.pointer none) ∧ w = w' := by
  go_enter Tryz.func12, Tryz.ntmps12
  go_wp2
  go_ret
  exact ⟨rfl, rfl⟩
theorem ghost_nil (w : World) : Calls Tryz.prog 22 #[.pointer none] w fun e w' => e = .returned (.pointer none) ∧ w = w' := by
  go_enter Tryz.func22, Tryz.ntmps22
  go_wp2
  go_ret
  exact ⟨rfl, rfl⟩
theorem mem_any (B M : Nat) (c : P.Cf) (gv : Value) (F T n : Nat) (bad : Bool) (w : World) (hb : Blk w B 79 (machCs c M gv F T n bad)) : Calls Tryz.prog 12 #[at0 B] w fun e w' => e = .returned (at0 M) ∧ w = w' := by
  have c7 := hb.cell 7
  simp [machCs] at c7
  clear hb
  go_enter Tryz.func12, Tryz.ntmps12
  go_wp2
  go_ret
  exact ⟨rfl, rfl⟩
theorem ghost_any (B M : Nat) (c : P.Cf) (gv : Value) (F T n : Nat) (bad : Bool) (w : World) (hb : Blk w B 79 (machCs c M gv F T n bad)) : Calls Tryz.prog 22 #[at0 B] w fun e w' => e = .returned gv ∧ w = w' := by
  have c8 := hb.cell 8
  simp [machCs] at c8
  clear hb
  go_enter Tryz.func22, Tryz.ntmps22
  go_wp2
  go_ret
  exact ⟨rfl, rfl⟩
set_option maxHeartbeats 1000000 in
theorem plan_any (B M : Nat) (c : P.Cf) (gv : Value) (F T n : Nat) (bad : Bool) (w : World) (hb : Blk w B 79 (machCs c M gv F T n bad)) : Calls Tryz.prog 10 #[at0 B] w fun e w' => e = .returned c.v ∧ Below w.heap.size w w' := by
  obtain ⟨al, th, nd, lv, ba, pr, sc⟩ := c
  have c0 := hb.cell 0
  have c1 := hb.cell 1
  have c2 := hb.cell 2
  have c3 := hb.cell 3
  have c4 := hb.cell 4
  have c5 := hb.cell 5
  have c6 := hb.cell 6
  have hl := hb.lt
  simp [machCs] at c0 c1 c2 c3 c4 c5 c6
  clear hb
  go_enter Tryz.func10, Tryz.ntmps10
  go_wp2
  refine bodyPost_ret (v := P.Cf.v ⟨al, th, nd, lv, ba, pr, sc⟩) (by simp [results, Tryz.results10, go_sem]) rfl ⟨rfl, (Below.refl _ _).alloc (Nat.le_refl _) _⟩

/-! ### note -/
theorem note_ok (v : Value) (hv : v = .pointer none ∨ ∃ B, v = at0 B) (w : World) : Calls Tryz.prog 80 #[v, .int .i64 0] w fun e w' => e = .returned (.tuple #[]) ∧ w = w' := by
  rcases hv with rfl | ⟨B, rfl⟩
  · go_enter Tryz.func80, Tryz.ntmps80
    go_wp2
    go_end0
    exact ⟨rfl, rfl⟩
  · go_enter Tryz.func80, Tryz.ntmps80
    go_wp2
    go_end0
    exact ⟨rfl, rfl⟩
theorem note_nil (x : Int) (w : World) : Calls Tryz.prog 80 #[.pointer none, .int .i64 x] w fun e w' => e = .returned (.tuple #[]) ∧ w = w' := by
  go_enter Tryz.func80, Tryz.ntmps80
  go_wp2
  go_end0
  exact ⟨rfl, rfl⟩
theorem note_bad (B : Nat) (c : P.Cf) (F T : Nat) (ms : MS) (gs : Gh) (bad : Bool) (O : Nat → Prop) (x : Int) (w : World) (h : MachAt B c F T ms gs bad O w) (hx : x ≠ 0) : Calls Tryz.prog 80 #[at0 B, .int .i64 x] w (MDoes B c F T (.tuple #[]) ms gs true O w) := by
  have H := Lib.hid h.fails
  obtain ⟨M, Om, rfl, hb, hm, hg⟩ := h
  have c11 := hb.cell 11
  have f11 := hb.frozen 11
  simp [machCs] at c11
  have hx2 : (x == 0) = false := by simpa using hx
  clear hb hm hg
  go_enter Tryz.func80, Tryz.ntmps80
  go_wp2
  go_end0
  exact ⟨rfl, H.out⟩
/-- What note leaves. -/
theorem note_any (B : Nat) (c : P.Cf) (F T : Nat) (ms : MS) (gs : Gh) (bad : Bool) (O : Nat → Prop) (x : Int) (w : World) (h : MachAt B c F T ms gs bad O w) : Calls Tryz.prog 80 #[at0 B, .int .i64 x] w (MDoes B c F T (.tuple #[]) ms gs (bad || !decide (x = 0)) O w) := by
  by_cases hx : x = 0
  · subst hx
    refine (note_ok _ (.inr ⟨B, rfl⟩) w).mono ?_
    rintro e w' ⟨rfl, rfl⟩
    exact ⟨rfl, by simpa using MTurn.refl h⟩
  · have : (bad || !decide (x = 0)) = true := by simp [hx]
    rw [this]
    exact note_bad B c F T ms gs bad O x w h hx

/-! ### Fault -/
theorem fault_nil (w : World) : Calls Tryz.prog 26 #[.pointer none] w fun e w' => e = .returned (.bool false) ∧ w = w' := by
  go_enter Tryz.func26, Tryz.ntmps26
  go_wp2
  go_ret
  exact ⟨rfl, rfl⟩
/-- Does its ghost tell a fault? -/
def gBad : Gh → Bool
  | none => false
  | some (_, _, s) => !decide (s.k = 0)
theorem eq_fault (k i : Int) (w : World) : (Op.equalIn 10000 94 (.agg #[.int .i64 k, .int .i64 i]) (.agg #[.int .i64 0, .int .i64 0])).run Tryz.prog w = .ok (k == 0 && i == 0) w := by
  simp [go_sem]
  by_cases h1 : k = 0 <;> by_cases h2 : i = 0 <;> simp [h1, h2]
theorem fault_any (B : Nat) (c : P.Cf) (F T : Nat) (ms : MS) (gs : Gh) (bad : Bool) (O : Nat → Prop) (w : World) (h : MachAt B c F T ms gs bad O w) : Calls Tryz.prog 26 #[at0 B] w fun e w' => e = .returned (.bool (bad || gBad gs)) ∧ Below w.heap.size w w' := by
  obtain ⟨M, Om, rfl, hb, hm, hg⟩ := h
  have c8 := hb.cell 8
  have c11 := hb.cell 11
  simp [machCs] at c8 c11
  clear hb hm
  cases bad with
  | true =>
    clear hg
    go_enter Tryz.func26, Tryz.ntmps26
    go_wp2
    go_ret
    exact ⟨by simp, Below.refl _ _⟩
  | false =>
    match gs, hg with
    | none, _ =>
      simp only [gV] at c8
      have q := eq_fault 0 0
      go_enter Tryz.func26, Tryz.ntmps26
      go_wp2_with fail
      refine (G.first_nil _).mono ?_
      rintro e w' ⟨rfl, hB⟩
      go_wp2
      go_ret
      exact ⟨by simp [gBad], hB⟩
    | some (g, t, s), ⟨hg, _⟩ =>
      simp only [gV] at c8
      have q := eq_fault s.k s.i
      have hz : (s.k == 0 && s.i == 0) = decide (s.k = 0) := by
        by_cases h : s.k = 0
        · simp [h, hg.first h]
        · simp [h]
      rw [hz] at q
      have hB : gBad (some (g, t, s)) = !decide (s.k = 0) := rfl
      rw [hB]
      have K := G.first_any g _ _ s w hg
      clear hz hB hg
      generalize s.k = k at *
      generalize s.i = i at *
      generalize hd : decide (k = 0) = d at *
      go_enter Tryz.func26, Tryz.ntmps26
      go_wp2_with fail
      refine K.mono ?_
      rintro e w' ⟨rfl, hB⟩
      go_wp2
      go_ret
      exact ⟨by simp, hB⟩
end Go.Proofs.YtemikojaldoofaaGreat
