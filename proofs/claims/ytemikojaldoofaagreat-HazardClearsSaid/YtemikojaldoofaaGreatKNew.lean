/- New: a machine as at first. -/
import Derived.Test.YtemikojaldoofaaGreatKSent
import Derived.Deep.RegionWith
import Derived.Deep.Cut
import Derived.Deep.CutRange
namespace Go.Proofs.YtemikojaldoofaaGreat
open Go.ChangeShapes Go.WideShapes Go.ChangeAt Go.RowKit
set_option linter.unusedVariables false


set_option maxRecDepth 20000

abbrev thZ : Array Value := #[.int .i64 0, .slice none 0 0, .int .u64 0, .int .u64 0, .int .u64 0, .slice none 0 0, .slice none 0 0, .slice none 0 0, .slice none 0 0, .slice none 0 0]
theorem info48 : (Tryz.prog.info? 48).map (fun i => (i.zero, i.size, i.bytes)) = some (some (.agg thZ), 10, 176) := by kernel_rfl
theorem made_th (n : Nat) (w : World) (h : n ≤ 6) : (Instr.makeSlice 77 (.int .i64 n) (.int .i64 n)).run Tryz.prog w = .ok (.slice (some ⟨w.heap.size, 0, none⟩) n n) (w.alloc (.cells (madeCells (Value.agg thZ).cells (n * 10)) 48)) := by
  obtain ⟨i0, hi, hz0, hz1, hz2⟩ := info_parts info48
  have := run_makeSlice (P := Tryz.prog) w 77 48 i0 (.agg thZ) Tryz.underlying77 hi hz0 .i64 .i64 n n (by omega) (by omega) (by rw [hz1]; simp; omega) (by rw [hz2]; omega) (by omega)
  rw [this, hz1]
  simp

theorem made_c (c : P.Cf) (h : c.Ok) (w : World) : (Instr.makeSlice 77 (.int .i64 c.th) (.int .i64 c.th)).run Tryz.prog w = .ok (.slice (some ⟨w.heap.size, 0, none⟩) c.th.toNat c.th.toNat) (w.alloc (.cells (madeCells (Value.agg thZ).cells (c.th.toNat * 10)) 48)) := by
  have := h.th
  have e : ((c.th.toNat : Nat) : Int) = c.th := by omega
  have := made_th c.th.toNat w (by omega)
  rw [e] at this
  exact this

/-- The memory of a new machine, ahead of what is laid. -/
def ms0 (n : Nat) : MS := ⟨List.replicate n 0, 0, false, []⟩
theorem calm0 (n : Nat) : Calm (ms0 n) n 0 := ⟨by simp [ms0], by simp [ms0], by simp [ms0], rfl, rfl⟩

theorem new_bad (c : P.Cf) (v0 : Value) (gh : Bool) (w : World) (h : ¬ c.Ok) : Calls Tryz.prog 9 #[c.v, v0, .bool gh] w fun e w' => e = .returned (.tuple #[.pointer none, .int .i64 6]) ∧ Below w.heap.size w w' := by
  have KN := fun W => P.new_bad c W h
  clear h
  go_enter Tryz.func9, Tryz.ntmps9
  go_wp2_with fail
  refine (KN _).mono ?_
  rintro e V ⟨rfl, hb⟩
  obtain ⟨hB, h0⟩ := P.boxed c hb
  have h1 := h0.alloc h0.size (.cells P.zc.cs 33)
  have H1 := Lib.hid h1
  clear hb hB h0 KN h1
  go_wp2
  go_ret2
  exact ⟨rfl, H1.out⟩

/-- A thread's ten cells, as it is at first, and its three lists. -/
def ThIs (cs : Array Value) (lv i : Nat) (W : World) (Q : Nat → Prop) : Prop :=
  ∃ p s q, (∀ j, j < 10 → cs[10 * i + j]? = (thCs i p s q lv)[j]?) ∧ Q p ∧ Q s ∧ Q q ∧ Blk W p 24 (zeros lv) ∧ Blk W s 24 (zeros lv) ∧ Blk W q 24 (zeros lv)
/-- The threads at T, of which k are as they are at first. -/
def ThAt (c : P.Cf) (T k : Nat) (Q : Nat → Prop) (W : World) : Prop := ∃ cs, Blk W T 48 cs ∧ cs.size = c.th.toNat * 10 ∧ ∀ i, i < k → ThIs cs c.lv.toNat i W Q
/-- Amid New: all that has been made so far. -/
structure Amid (c : P.Cf) (n : Nat) (bs : List Int) (w : World) (Cb Pb B F T : Nat) (ad : Option Addr) (cap : Nat) (ms : MS) (gs : Gh) (k : Nat) (O : Nat → Prop) (W : World) : Prop where
  cf : P.Blk W Cb 23 c.cs
  pl : P.Blk W Pb 33 c.cs
  bel : Below w.heap.size w W
  feed : Go.Proofs.YtemikojaldoofaaGreat.F.FAt F ad n cap bs 0 W
  mach : MachAt B c F T ms gs false O W
  low : ∀ k, O k → w.heap.size ≤ k
  fo : ¬ O F
  fl : w.heap.size ≤ F
  ro : ∀ g, ad = some ⟨g, 0, none⟩ → ¬ O g ∧ w.heap.size ≤ g ∧ g ≠ T ∧ g < W.heap.size
  tno : ¬ O T
  tl : w.heap.size ≤ T
  thr : ThAt c T k (fun p => w.heap.size ≤ p ∧ ¬ O p) W
theorem MachAt.no {B : Nat} {c : P.Cf} {F T : Nat} {ms : MS} {gs : Gh} {bad : Bool} {O : Nat → Prop} {W : World} (h : MachAt B c F T ms gs bad O W) {g : Nat} {t : TypeId} {cs : Array Value} (hb : Blk W g t cs) (h0 : t ≠ 79) (h1 : t ≠ 85) (h2 : t ≠ 24) (h3 : t ≠ 88) (h4 : t ≠ 96) (h5 : t ≠ 3) : ¬ O g := by
  obtain ⟨M, Om, rfl, hB, hm, hg⟩ := h
  rintro (rfl | hk | hk)
  · exact Blk.ne hb hB h0 rfl
  · exact hm.no hb h1 h2 h3 hk
  · exact hg.no hb h4 h5 hk
theorem mach_box {c : P.Cf} {M F T : Nat} {ms : MS} {Om : Nat → Prop} {W : World} (hm : MemAt M ms Om W) :
    MachAt W.heap.size c F T ms none false (fun k => k = W.heap.size ∨ Om k ∨ gO none k) (W.alloc (.cells (machCs c M (.pointer none) F T c.th.toNat false) 79)) :=
  ⟨M, Om, rfl, Blk.new _ _ _, hm.alloc _, trivial⟩
/-- The configuration's box and the plan's. -/
def Two (c : P.Cf) (Cb Pb : Nat) (W : World) : Prop := P.Blk W Cb 23 c.cs ∧ P.Blk W Pb 33 c.cs
theorem Two.alloc {c : P.Cf} {Cb Pb : Nat} {W : World} (h : Two c Cb Pb W) (o : Obj) : Two c Cb Pb (W.alloc o) := ⟨h.1.alloc o, h.2.alloc o⟩
theorem Two.drew {c : P.Cf} {Cb Pb : Nat} {W : World} (h : Two c Cb Pb W) : Two c Cb Pb W.drew := h
theorem Two.below {c : P.Cf} {Cb Pb : Nat} {W W' : World} (h : Two c Cb Pb W) (hb : Below W.heap.size W W') : Two c Cb Pb W' := ⟨h.1.below hb h.1.lt, h.2.below hb h.2.lt⟩
theorem Two.cells {c : P.Cf} {Cb Pb : Nat} {W : World} (h : Two c Cb Pb W) : W.cell? ⟨Pb, 0, none⟩ = some (.int .i64 c.al) ∧ W.cell? ⟨Pb, 1, none⟩ = some (.int .i64 c.th) ∧ W.cell? ⟨Pb, 2, none⟩ = some (.int .i64 c.nd) ∧ W.cell? ⟨Pb, 3, none⟩ = some (.int .i64 c.lv) ∧ W.cell? ⟨Pb, 4, none⟩ = some (.int .i64 c.ba) ∧ W.cell? ⟨Pb, 5, none⟩ = some (.int .i64 c.pr) ∧ W.cell? ⟨Pb, 6, none⟩ = some (.int .i64 c.sc) ∧ W.cell? ⟨Cb, 1, none⟩ = some (.int .i64 c.th) := by
  obtain ⟨a0, a1, a2, a3, a4, a5, a6⟩ := h.2.conf
  exact ⟨a0, a1, a2, a3, a4, a5, a6, h.1.conf.2.1⟩

theorem born {c : P.Cf} {n sz : Nat} {bs : List Int} {w W : World} {Cb Pb B Fb T M cap : Nat} {ad : Option Addr} {Om : Nat → Prop} (hT : Two c Cb Pb W) (hbel : Below w.heap.size w W) (hf : F.FAt Fb ad n cap bs 0 W) (hM : MemAt M (ms0 sz) Om W) (low : ∀ k, Om k → w.heap.size ≤ k)
    (hth : Blk W T 48 (madeCells thZ.toList.toArray (c.th.toNat * 10))) (hT1 : w.heap.size ≤ T) (hF1 : w.heap.size ≤ Fb) (had : ∀ g, ad = some ⟨g, 0, none⟩ → ¬ Om g ∧ w.heap.size ≤ g ∧ g ≠ T ∧ g < W.heap.size) (hB : B = W.heap.size) :
    ∃ O, Amid c n bs w Cb Pb B Fb T ad cap (ms0 sz) none 0 O (W.alloc (.cells (machCs c M (.pointer none) Fb T c.th.toNat false) 79)) := by
  subst hB
  have hm := mach_box (c := c) (F := Fb) (T := T) hM
  have h2 := hT.alloc (.cells (machCs c M (.pointer none) Fb T c.th.toNat false) 79)
  have hb1 : Below W.heap.size W (W.alloc (.cells (machCs c M (.pointer none) Fb T c.th.toNat false) 79)) := (Below.refl _ _).alloc (Nat.le_refl _) _
  have hff := hf.below hb1
  have htt := hth.alloc (.cells (machCs c M (.pointer none) Fb T c.th.toNat false) 79)
  refine ⟨_, h2.1, h2.2, P.below_then hbel hb1 (Nat.le_refl _), hff, hm, ?_, hm.no (show Blk _ Fb 115 _ from hff.box) (by decide) (by decide) (by decide) (by decide) (by decide) (by decide), hF1, ?_, hm.no htt (by decide) (by decide) (by decide) (by decide) (by decide) (by decide), hT1, ?_⟩
  · rintro k (rfl | h | h)
    · exact hbel.size
    · exact low k h
    · cases h
  · intro g e
    obtain ⟨a1, a2, a3, a4⟩ := had g e
    refine ⟨?_, a2, a3, by simp; omega⟩
    rintro (rfl | h | h)
    · omega
    · exact a1 h
    · cases h
  · exact ⟨_, htt, by simp [madeCells], fun i hi => by omega⟩

theorem Blk.below' {W W' : World} {g : Nat} {t : TypeId} {cs : Array Value} (h : Blk W g t cs) (b : Below W.heap.size W W') : Blk W' g t cs := h.agree (b.block g h.lt)
theorem ThAt.agree {c : P.Cf} {T k : Nat} {Q Q' : Nat → Prop} {W W' : World} (h : ThAt c T k Q W) (h0 : W'.heap[T]? = W.heap[T]?) (hl : ∀ g cs, Blk W g 24 cs → Q g → Q' g ∧ W'.heap[g]? = W.heap[g]?) : ThAt c T k Q' W' := by
  obtain ⟨cs, hb, hs, hi⟩ := h
  refine ⟨cs, hb.agree h0, hs, fun i hk => ?_⟩
  obtain ⟨p, s, q, hc, p1, s1, q1, p2, s2, q2⟩ := hi i hk
  exact ⟨p, s, q, hc, (hl p _ p2 p1).1, (hl s _ s2 s1).1, (hl q _ q2 q1).1, p2.agree (hl p _ p2 p1).2, s2.agree (hl s _ s2 s1).2, q2.agree (hl q _ q2 q1).2⟩
theorem ThAt.below {c : P.Cf} {T k : Nat} {Q : Nat → Prop} {W W' : World} (h : ThAt c T k Q W) (hb : Below W.heap.size W W') : ThAt c T k Q W' := by
  have hT : T < W.heap.size := by obtain ⟨cs, hB, _⟩ := h; exact hB.lt
  exact h.agree (hb.block T hT) fun g cs hg hq => ⟨hq, hb.block g hg.lt⟩
theorem Amid.below {c : P.Cf} {n : Nat} {bs : List Int} {w : World} {Cb Pb B F T : Nat} {ad : Option Addr} {cap : Nat} {ms : MS} {gs : Gh} {k : Nat} {O : Nat → Prop} {W W' : World} (h : Amid c n bs w Cb Pb B F T ad cap ms gs k O W) (hb : Below W.heap.size W W') : Amid c n bs w Cb Pb B F T ad cap ms gs k O W' :=
  ⟨h.cf.below hb h.cf.lt, h.pl.below hb h.pl.lt, P.below_then h.bel hb (Nat.le_refl _), h.feed.below hb, h.mach.below hb, h.low, h.fo, h.fl, fun g e => by
    obtain ⟨a1, a2, a3, a4⟩ := h.ro g e
    exact ⟨a1, a2, a3, Nat.lt_of_lt_of_le a4 hb.size⟩, h.tno, h.tl, h.thr.below hb⟩
theorem Amid.drew {c : P.Cf} {n : Nat} {bs : List Int} {w : World} {Cb Pb B F T : Nat} {ad : Option Addr} {cap : Nat} {ms : MS} {gs : Gh} {k : Nat} {O : Nat → Prop} {W : World} (h : Amid c n bs w Cb Pb B F T ad cap ms gs k O W) : Amid c n bs w Cb Pb B F T ad cap ms gs k O W.drew := h.below ((Below.refl _ _).drew)
theorem Amid.cells {c : P.Cf} {n : Nat} {bs : List Int} {w : World} {Cb Pb B F T : Nat} {ad : Option Addr} {cap : Nat} {ms : MS} {gs : Gh} {k : Nat} {O : Nat → Prop} {W : World} (h : Amid c n bs w Cb Pb B F T ad cap ms gs k O W) :
    W.cell? ⟨Pb, 0, none⟩ = some (.int .i64 c.al) ∧ W.cell? ⟨Pb, 1, none⟩ = some (.int .i64 c.th) ∧ W.cell? ⟨Pb, 2, none⟩ = some (.int .i64 c.nd) ∧ W.cell? ⟨Pb, 3, none⟩ = some (.int .i64 c.lv) ∧ W.cell? ⟨Pb, 4, none⟩ = some (.int .i64 c.ba) ∧ W.cell? ⟨Pb, 5, none⟩ = some (.int .i64 c.pr) ∧ W.cell? ⟨Pb, 6, none⟩ = some (.int .i64 c.sc) ∧
    W.cell? ⟨Cb, 2, none⟩ = some (.int .i64 c.nd) ∧ W.cell? ⟨Cb, 3, none⟩ = some (.int .i64 c.lv) ∧ W.cell? ⟨B, 8, none⟩ = some (gV gs) ∧ W.cell? ⟨B, 10, none⟩ = some (.slice (some ⟨T, 0, none⟩) c.th.toNat c.th.toNat) := by
  obtain ⟨a0, a1, a2, a3, a4, a5, a6⟩ := h.pl.conf
  obtain ⟨b0, b1, b2, b3, b4, b5, b6⟩ := h.cf.conf
  obtain ⟨M, Om, hO, hb, _⟩ := h.mach
  obtain ⟨-, -, -, -, -, -, -, -, c8, -, c10, -⟩ := mach_plan hb
  exact ⟨a0, a1, a2, a3, a4, a5, a6, b2, b3, c8, c10⟩
theorem Amid.frozenB {c : P.Cf} {n : Nat} {bs : List Int} {w : World} {Cb Pb B F T : Nat} {ad : Option Addr} {cap : Nat} {ms : MS} {gs : Gh} {k : Nat} {O : Nat → Prop} {W : World} (h : Amid c n bs w Cb Pb B F T ad cap ms gs k O W) (i : Nat) : W.frozen? ⟨B, i, none⟩ = false := by
  obtain ⟨M, Om, hO, hb, _⟩ := h.mach
  exact hb.frozen i
/-- Its ghost is made. -/
theorem Amid.ghost {c : P.Cf} {n : Nat} {bs : List Int} {w : World} {Cb Pb B F T : Nat} {ad ad' : Option Addr} {cap : Nat} {ms : MS} {k g : Nat} {s : G.GS} {O : Nat → Prop} {W W' : World} (h : Amid c n bs w Cb Pb B F T ad cap ms none k O W) (hb : Below W.heap.size W W')
    (hg : G.GAt g ad' c.nd.toNat s W') (hn : 0 < c.nd.toNat) (h1 : W.heap.size ≤ g) (h2 : ∀ t, ad' = some ⟨t, 0, none⟩ → W.heap.size ≤ t ∧ t < W'.heap.size) :
    ∃ t O', Amid c n bs w Cb Pb B F T ad cap ms (some (g, t, s)) k O' (W'.setCell ⟨B, 8, none⟩ (at0 g)) := by
  obtain ⟨t, rfl, ht⟩ := hg.row hn
  obtain ⟨t1, t2⟩ := h2 t rfl
  have h' := h.below hb
  have hO := h.mach.own
  have hBl : B < W.heap.size := h.mach.lt hO
  have hgl : g < W'.heap.size := G.Blk.lt hg.box
  obtain ⟨M, Om, rfl, hB, hm, -⟩ := h'.mach
  have hset : ∀ k, k ≠ B → (W'.setCell ⟨B, 8, none⟩ (at0 g)).heap[k]? = W'.heap[k]? := fun k hk => Below.heap_setCell _ _ _ _ hk
  have noM : ∀ {k : Nat} {ty : TypeId} {cs : Array Value}, Blk W' k ty cs → ty ≠ 79 → k ≠ B := fun hk ht => Blk.ne hk hB ht
  have hg' : gOk c.nd.toNat (some (g, t, s)) (W'.setCell ⟨B, 8, none⟩ (at0 g)) := gOk.agree (gs := some (g, t, s)) (W := W') ⟨hg, ht⟩ fun k hk => hset k (by rcases hk with rfl | rfl <;> omega)
  have hB8 : Blk (W'.setCell ⟨B, 8, none⟩ (at0 g)) B 79 (machCs c M (gV (some (g, t, s))) F T c.th.toNat false) := by
    have := hB.set 8 (at0 g)
    simpa [machCs, gV] using this
  have hmm : MemAt M ms Om (W'.setCell ⟨B, 8, none⟩ (at0 g)) := hm.agree fun k hk => hset k fun e => hm.no hB (by decide) (by decide) (by decide) (by rw [← e]; exact hk)
  have hMM : MachAt B c F T ms (some (g, t, s)) false (fun k => k = B ∨ Om k ∨ gO (some (g, t, s)) k) (W'.setCell ⟨B, 8, none⟩ (at0 g)) := ⟨M, Om, rfl, hB8, hmm, hg'⟩
  have hFb : Blk W' F 115 _ := h'.feed.box
  have hFF : Blk (W'.setCell ⟨B, 8, none⟩ (at0 g)) F 115 _ := hFb.agree (hset F (noM hFb (by decide)))
  have hTT : ∃ cs, Blk (W'.setCell ⟨B, 8, none⟩ (at0 g)) T 48 cs := by
    obtain ⟨cs, hb, _⟩ := h'.thr
    exact ⟨cs, hb.agree (hset T (noM hb (by decide)))⟩
  obtain ⟨tcs, hTT⟩ := hTT
  refine ⟨t, _, Blk.agree h'.cf (hset Cb (noM h'.cf (by decide))), Blk.agree h'.pl (hset Pb (noM h'.pl (by decide))), h'.bel.setCell (p := ⟨B, 8, none⟩) (h.low B hO) _, ?_, hMM, ?_, hMM.no hFF (by decide) (by decide) (by decide) (by decide) (by decide) (by decide), h.fl, ?_,
    hMM.no hTT (by decide) (by decide) (by decide) (by decide) (by decide) (by decide), h.tl, ?_⟩
  · refine h'.feed.agree hFF (by simp [World.setCell]) fun k hk hkF G e hGk => hset k ?_
    obtain ⟨a1, a2, a3, a4⟩ := h.ro G e
    rintro rfl
    subst hGk
    exact a1 (by simp)
  · rintro k (rfl | hk | rfl | rfl)
    · exact h.low _ hO
    · exact h'.low k (.inr (.inl hk))
    · exact Nat.le_trans h.bel.size h1
    · exact Nat.le_trans h.bel.size t1
  · intro G e
    obtain ⟨a1, a2, a3, a4⟩ := h.ro G e
    obtain ⟨b1, -, -, b4⟩ := h'.ro G e
    refine ⟨?_, a2, a3, by simpa [World.setCell] using b4⟩
    rintro (rfl | hk | rfl | rfl)
    · exact a1 hO
    · exact b1 (.inr (.inl hk))
    · omega
    · omega
  · have hlt : ∀ {x : Nat} {cs : Array Value}, (w.heap.size ≤ x ∧ ¬ (fun k => k = B ∨ Om k ∨ gO none k) x) → True := fun _ => trivial
    refine ThAt.agree (W := W) h.thr ?_ fun x cs hx hq => ⟨⟨hq.1, ?_⟩, ?_⟩
    · obtain ⟨cs, hb1, _⟩ := h.thr
      exact (hset T (noM (hb1.below' hb) (by decide))).trans (hb.block T hb1.lt)
    · have hxl := hx.lt
      rintro (rfl | hk | rfl | rfl)
      · exact hq.2 hO
      · exact hq.2 (.inr (.inl hk))
      · omega
      · omega
    · exact (hset x (noM (hx.below' hb) (by decide))).trans (hb.block x hx.lt)

theorem Two.cell8 {c : P.Cf} {Cb Pb : Nat} {W : World} (h : Two c Cb Pb W) : W.cell? ⟨Pb, 0, none⟩ = some (.int .i64 c.al) ∧ W.cell? ⟨Pb, 1, none⟩ = some (.int .i64 c.th) ∧ W.cell? ⟨Pb, 2, none⟩ = some (.int .i64 c.nd) ∧ W.cell? ⟨Pb, 3, none⟩ = some (.int .i64 c.lv) ∧ W.cell? ⟨Pb, 4, none⟩ = some (.int .i64 c.ba) ∧ W.cell? ⟨Pb, 5, none⟩ = some (.int .i64 c.pr) ∧ W.cell? ⟨Pb, 6, none⟩ = some (.int .i64 c.sc) ∧ W.cell? ⟨Cb, 2, none⟩ = some (.int .i64 c.nd) := by
  obtain ⟨a0, a1, a2, a3, a4, a5, a6⟩ := h.2.conf
  exact ⟨a0, a1, a2, a3, a4, a5, a6, h.1.conf.2.2.1⟩
theorem Amid.two {c : P.Cf} {n : Nat} {bs : List Int} {w : World} {Cb Pb B F T : Nat} {ad : Option Addr} {cap : Nat} {ms : MS} {gs : Gh} {k : Nat} {O : Nat → Prop} {W : World} (h : Amid c n bs w Cb Pb B F T ad cap ms gs k O W) : Two c Cb Pb W := ⟨h.cf, h.pl⟩
theorem Amid.twoB {c : P.Cf} {n : Nat} {bs : List Int} {w : World} {Cb Pb B F T : Nat} {ad : Option Addr} {cap : Nat} {ms : MS} {gs : Gh} {k : Nat} {O : Nat → Prop} {W : World} (h : Amid c n bs w Cb Pb B F T ad cap ms gs k O W) (i : Nat) (u : Value) : Two c Cb Pb (W.setCell ⟨B, i, none⟩ u) := by
  obtain ⟨M, Om, hO, hb, _⟩ := h.mach
  exact ⟨P.Blk.far h.cf (Blk.ne h.cf hb (by decide)) u, P.Blk.far h.pl (Blk.ne h.pl hb (by decide)) u⟩

theorem Amid.thc {c : P.Cf} {n : Nat} {bs : List Int} {w : World} {Cb Pb B F T : Nat} {ad : Option Addr} {cap : Nat} {ms : MS} {gs : Gh} {k : Nat} {O : Nat → Prop} {W : World} (h : Amid c n bs w Cb Pb B F T ad cap ms gs k O W) (hk : k < c.th.toNat) :
    (∀ i, W.frozen? ⟨T, i, none⟩ = false) ∧ ∃ u0 u1 u2 u3 u4 u5 u6 u7 u8 u9, W.cell? ⟨T, k * 10, none⟩ = some u0 ∧ W.cell? ⟨T, k * 10 + 1, none⟩ = some u1 ∧ W.cell? ⟨T, k * 10 + 2, none⟩ = some u2 ∧ W.cell? ⟨T, k * 10 + 3, none⟩ = some u3 ∧ W.cell? ⟨T, k * 10 + 4, none⟩ = some u4 ∧ W.cell? ⟨T, k * 10 + 5, none⟩ = some u5 ∧ W.cell? ⟨T, k * 10 + 6, none⟩ = some u6 ∧ W.cell? ⟨T, k * 10 + 7, none⟩ = some u7 ∧ W.cell? ⟨T, k * 10 + 8, none⟩ = some u8 ∧ W.cell? ⟨T, k * 10 + 9, none⟩ = some u9 := by
  obtain ⟨cs, hb, hs, hi⟩ := h.thr
  refine ⟨hb.frozen, ?_⟩
  have q : ∀ j, j < 10 → W.cell? ⟨T, k * 10 + j, none⟩ = some (cs.getD (k * 10 + j) undef) := fun j hj => by
    rw [hb.cell]
    have : k * 10 + j < cs.size := by omega
    simp [this]
  exact ⟨_, _, _, _, _, _, _, _, _, _, q 0 (by omega), q 1 (by omega), q 2 (by omega), q 3 (by omega), q 4 (by omega), q 5 (by omega), q 6 (by omega), q 7 (by omega), q 8 (by omega), q 9 (by omega)⟩
theorem Amid.ne {c : P.Cf} {n : Nat} {bs : List Int} {w : World} {Cb Pb B F T : Nat} {ad : Option Addr} {cap : Nat} {ms : MS} {gs : Gh} {k : Nat} {O : Nat → Prop} {W : World} (h : Amid c n bs w Cb Pb B F T ad cap ms gs k O W) : Cb ≠ T ∧ B ≠ T := by
  obtain ⟨cs, hb, _⟩ := h.thr
  obtain ⟨M, Om, hO, hB, _⟩ := h.mach
  exact ⟨Blk.ne h.cf hb (by decide), Blk.ne hB hb (by decide)⟩
theorem far10 (W : World) (T k : Nat) (c : P.Cf) (p s q : Nat) (g : Nat) (hg : g ≠ T) : ((((((((((W.setCell ⟨T, k * 10, none⟩ (.int .i64 k)).setCell ⟨T, k * 10 + 1, none⟩ (.slice none 0 0)).setCell ⟨T, k * 10 + 2, none⟩ (.int .u64 0)).setCell ⟨T, k * 10 + 3, none⟩ (.int .u64 0)).setCell ⟨T, k * 10 + 4, none⟩ (.int .u64 0)).setCell ⟨T, k * 10 + 5, none⟩ (.slice (some ⟨p, 0, none⟩) c.lv.toNat c.lv.toNat)).setCell ⟨T, k * 10 + 6, none⟩ (.slice (some ⟨s, 0, none⟩) c.lv.toNat c.lv.toNat)).setCell ⟨T, k * 10 + 7, none⟩ (.slice (some ⟨q, 0, none⟩) c.lv.toNat c.lv.toNat)).setCell ⟨T, k * 10 + 8, none⟩ (.slice none 0 0)).setCell ⟨T, k * 10 + 9, none⟩ (.slice none 0 0)).heap[g]? = W.heap[g]? := by
  repeat rw [Below.heap_setCell _ _ _ _ hg]
theorem arr_in (cs : Array Value) (n k : Nat) (c : P.Cf) (p s q : Nat) (hs : cs.size = n * 10) (hk : k < n) : ∀ j, j < 10 → ((((((((((cs.setIfInBounds (k * 10) (.int .i64 k)).setIfInBounds (k * 10 + 1) (.slice none 0 0)).setIfInBounds (k * 10 + 2) (.int .u64 0)).setIfInBounds (k * 10 + 3) (.int .u64 0)).setIfInBounds (k * 10 + 4) (.int .u64 0)).setIfInBounds (k * 10 + 5) (.slice (some ⟨p, 0, none⟩) c.lv.toNat c.lv.toNat)).setIfInBounds (k * 10 + 6) (.slice (some ⟨s, 0, none⟩) c.lv.toNat c.lv.toNat)).setIfInBounds (k * 10 + 7) (.slice (some ⟨q, 0, none⟩) c.lv.toNat c.lv.toNat)).setIfInBounds (k * 10 + 8) (.slice none 0 0)).setIfInBounds (k * 10 + 9) (.slice none 0 0))[10 * k + j]? = (thCs k p s q c.lv.toNat)[j]? := by
  intro j hj
  have e : 10 * k = k * 10 := by omega
  rw [e]
  have : j = 0 ∨ j = 1 ∨ j = 2 ∨ j = 3 ∨ j = 4 ∨ j = 5 ∨ j = 6 ∨ j = 7 ∨ j = 8 ∨ j = 9 := by omega
  rcases this with rfl | rfl | rfl | rfl | rfl | rfl | rfl | rfl | rfl | rfl <;> simp [Array.getElem?_setIfInBounds] <;> omega
theorem arr_out (cs : Array Value) (n k : Nat) (c : P.Cf) (p s q i : Nat) (hi : i < k) : ∀ j, j < 10 → ((((((((((cs.setIfInBounds (k * 10) (.int .i64 k)).setIfInBounds (k * 10 + 1) (.slice none 0 0)).setIfInBounds (k * 10 + 2) (.int .u64 0)).setIfInBounds (k * 10 + 3) (.int .u64 0)).setIfInBounds (k * 10 + 4) (.int .u64 0)).setIfInBounds (k * 10 + 5) (.slice (some ⟨p, 0, none⟩) c.lv.toNat c.lv.toNat)).setIfInBounds (k * 10 + 6) (.slice (some ⟨s, 0, none⟩) c.lv.toNat c.lv.toNat)).setIfInBounds (k * 10 + 7) (.slice (some ⟨q, 0, none⟩) c.lv.toNat c.lv.toNat)).setIfInBounds (k * 10 + 8) (.slice none 0 0)).setIfInBounds (k * 10 + 9) (.slice none 0 0))[10 * i + j]? = cs[10 * i + j]? := by
  intro j hj
  repeat rw [Array.getElem?_setIfInBounds_ne (by omega)]
theorem arr_size (cs : Array Value) (k : Nat) (c : P.Cf) (p s q : Nat) : ((((((((((cs.setIfInBounds (k * 10) (.int .i64 k)).setIfInBounds (k * 10 + 1) (.slice none 0 0)).setIfInBounds (k * 10 + 2) (.int .u64 0)).setIfInBounds (k * 10 + 3) (.int .u64 0)).setIfInBounds (k * 10 + 4) (.int .u64 0)).setIfInBounds (k * 10 + 5) (.slice (some ⟨p, 0, none⟩) c.lv.toNat c.lv.toNat)).setIfInBounds (k * 10 + 6) (.slice (some ⟨s, 0, none⟩) c.lv.toNat c.lv.toNat)).setIfInBounds (k * 10 + 7) (.slice (some ⟨q, 0, none⟩) c.lv.toNat c.lv.toNat)).setIfInBounds (k * 10 + 8) (.slice none 0 0)).setIfInBounds (k * 10 + 9) (.slice none 0 0)).size = cs.size := by simp
/-- One thread more is as it is at first. -/
theorem Amid.setTh {c : P.Cf} {n : Nat} {bs : List Int} {w : World} {Cb Pb B F T : Nat} {ad : Option Addr} {cap : Nat} {ms : MS} {gs : Gh} {k : Nat} {O : Nat → Prop} {W : World} (h : Amid c n bs w Cb Pb B F T ad cap ms gs k O W) (hk : k < c.th.toNat) {p s q : Nat}
    (p1 : w.heap.size ≤ p ∧ ¬ O p) (s1 : w.heap.size ≤ s ∧ ¬ O s) (q1 : w.heap.size ≤ q ∧ ¬ O q) (p2 : Blk W p 24 (zeros c.lv.toNat)) (s2 : Blk W s 24 (zeros c.lv.toNat)) (q2 : Blk W q 24 (zeros c.lv.toNat)) :
    Amid c n bs w Cb Pb B F T ad cap ms gs (k + 1) O ((((((((((W.setCell ⟨T, k * 10, none⟩ (.int .i64 k)).setCell ⟨T, k * 10 + 1, none⟩ (.slice none 0 0)).setCell ⟨T, k * 10 + 2, none⟩ (.int .u64 0)).setCell ⟨T, k * 10 + 3, none⟩ (.int .u64 0)).setCell ⟨T, k * 10 + 4, none⟩ (.int .u64 0)).setCell ⟨T, k * 10 + 5, none⟩ (.slice (some ⟨p, 0, none⟩) c.lv.toNat c.lv.toNat)).setCell ⟨T, k * 10 + 6, none⟩ (.slice (some ⟨s, 0, none⟩) c.lv.toNat c.lv.toNat)).setCell ⟨T, k * 10 + 7, none⟩ (.slice (some ⟨q, 0, none⟩) c.lv.toNat c.lv.toNat)).setCell ⟨T, k * 10 + 8, none⟩ (.slice none 0 0)).setCell ⟨T, k * 10 + 9, none⟩ (.slice none 0 0)) := by
  have hfar := far10 W T k c p s q
  have hbel : Below w.heap.size w ((((((((((W.setCell ⟨T, k * 10, none⟩ (.int .i64 k)).setCell ⟨T, k * 10 + 1, none⟩ (.slice none 0 0)).setCell ⟨T, k * 10 + 2, none⟩ (.int .u64 0)).setCell ⟨T, k * 10 + 3, none⟩ (.int .u64 0)).setCell ⟨T, k * 10 + 4, none⟩ (.int .u64 0)).setCell ⟨T, k * 10 + 5, none⟩ (.slice (some ⟨p, 0, none⟩) c.lv.toNat c.lv.toNat)).setCell ⟨T, k * 10 + 6, none⟩ (.slice (some ⟨s, 0, none⟩) c.lv.toNat c.lv.toNat)).setCell ⟨T, k * 10 + 7, none⟩ (.slice (some ⟨q, 0, none⟩) c.lv.toNat c.lv.toNat)).setCell ⟨T, k * 10 + 8, none⟩ (.slice none 0 0)).setCell ⟨T, k * 10 + 9, none⟩ (.slice none 0 0)) := by
    repeat refine Below.setCell ?_ (by exact h.tl) _
    exact h.bel
  have hsz : ((((((((((W.setCell ⟨T, k * 10, none⟩ (.int .i64 k)).setCell ⟨T, k * 10 + 1, none⟩ (.slice none 0 0)).setCell ⟨T, k * 10 + 2, none⟩ (.int .u64 0)).setCell ⟨T, k * 10 + 3, none⟩ (.int .u64 0)).setCell ⟨T, k * 10 + 4, none⟩ (.int .u64 0)).setCell ⟨T, k * 10 + 5, none⟩ (.slice (some ⟨p, 0, none⟩) c.lv.toNat c.lv.toNat)).setCell ⟨T, k * 10 + 6, none⟩ (.slice (some ⟨s, 0, none⟩) c.lv.toNat c.lv.toNat)).setCell ⟨T, k * 10 + 7, none⟩ (.slice (some ⟨q, 0, none⟩) c.lv.toNat c.lv.toNat)).setCell ⟨T, k * 10 + 8, none⟩ (.slice none 0 0)).setCell ⟨T, k * 10 + 9, none⟩ (.slice none 0 0)).heap.size = W.heap.size := by simp [World.setCell]
  obtain ⟨nC, nB⟩ := h.ne
  have hthr : ThAt c T (k + 1) (fun p => w.heap.size ≤ p ∧ ¬ O p) ((((((((((W.setCell ⟨T, k * 10, none⟩ (.int .i64 k)).setCell ⟨T, k * 10 + 1, none⟩ (.slice none 0 0)).setCell ⟨T, k * 10 + 2, none⟩ (.int .u64 0)).setCell ⟨T, k * 10 + 3, none⟩ (.int .u64 0)).setCell ⟨T, k * 10 + 4, none⟩ (.int .u64 0)).setCell ⟨T, k * 10 + 5, none⟩ (.slice (some ⟨p, 0, none⟩) c.lv.toNat c.lv.toNat)).setCell ⟨T, k * 10 + 6, none⟩ (.slice (some ⟨s, 0, none⟩) c.lv.toNat c.lv.toNat)).setCell ⟨T, k * 10 + 7, none⟩ (.slice (some ⟨q, 0, none⟩) c.lv.toNat c.lv.toNat)).setCell ⟨T, k * 10 + 8, none⟩ (.slice none 0 0)).setCell ⟨T, k * 10 + 9, none⟩ (.slice none 0 0)) := by
    obtain ⟨cs, hb, hs, hi⟩ := h.thr
    have ne44 : ∀ {g : Nat} {cs' : Array Value}, Blk W g 24 cs' → g ≠ T := fun hg => Blk.ne hg hb (by decide)
    refine ⟨((((((((((cs.setIfInBounds (k * 10) (.int .i64 k)).setIfInBounds (k * 10 + 1) (.slice none 0 0)).setIfInBounds (k * 10 + 2) (.int .u64 0)).setIfInBounds (k * 10 + 3) (.int .u64 0)).setIfInBounds (k * 10 + 4) (.int .u64 0)).setIfInBounds (k * 10 + 5) (.slice (some ⟨p, 0, none⟩) c.lv.toNat c.lv.toNat)).setIfInBounds (k * 10 + 6) (.slice (some ⟨s, 0, none⟩) c.lv.toNat c.lv.toNat)).setIfInBounds (k * 10 + 7) (.slice (some ⟨q, 0, none⟩) c.lv.toNat c.lv.toNat)).setIfInBounds (k * 10 + 8) (.slice none 0 0)).setIfInBounds (k * 10 + 9) (.slice none 0 0)), ((((((((((hb.set (k * 10) (.int .i64 k)).set (k * 10 + 1) (.slice none 0 0)).set (k * 10 + 2) (.int .u64 0)).set (k * 10 + 3) (.int .u64 0)).set (k * 10 + 4) (.int .u64 0)).set (k * 10 + 5) (.slice (some ⟨p, 0, none⟩) c.lv.toNat c.lv.toNat)).set (k * 10 + 6) (.slice (some ⟨s, 0, none⟩) c.lv.toNat c.lv.toNat)).set (k * 10 + 7) (.slice (some ⟨q, 0, none⟩) c.lv.toNat c.lv.toNat)).set (k * 10 + 8) (.slice none 0 0)).set (k * 10 + 9) (.slice none 0 0)), by rw [arr_size]; exact hs, fun i hik => ?_⟩
    by_cases e : i = k
    · subst e
      exact ⟨p, s, q, arr_in cs _ i c p s q hs hk, p1, s1, q1, p2.agree (hfar p (ne44 p2)), s2.agree (hfar s (ne44 s2)), q2.agree (hfar q (ne44 q2))⟩
    · obtain ⟨p', s', q', hc, a1, a2, a3, b1, b2, b3⟩ := hi i (by omega)
      exact ⟨p', s', q', fun j hj => (arr_out cs 0 k c p s q i (by omega) j hj).trans (hc j hj), a1, a2, a3, b1.agree (hfar p' (ne44 b1)), b2.agree (hfar s' (ne44 b2)), b3.agree (hfar q' (ne44 b3))⟩
  have hPT : Pb ≠ T := by
    obtain ⟨cs, hb, _⟩ := h.thr
    exact Blk.ne h.pl hb (by decide)
  have hFT : F ≠ T := by
    obtain ⟨cs, hb, _⟩ := h.thr
    exact Blk.ne h.feed.box hb (by decide)
  generalize ((((((((((W.setCell ⟨T, k * 10, none⟩ (.int .i64 k)).setCell ⟨T, k * 10 + 1, none⟩ (.slice none 0 0)).setCell ⟨T, k * 10 + 2, none⟩ (.int .u64 0)).setCell ⟨T, k * 10 + 3, none⟩ (.int .u64 0)).setCell ⟨T, k * 10 + 4, none⟩ (.int .u64 0)).setCell ⟨T, k * 10 + 5, none⟩ (.slice (some ⟨p, 0, none⟩) c.lv.toNat c.lv.toNat)).setCell ⟨T, k * 10 + 6, none⟩ (.slice (some ⟨s, 0, none⟩) c.lv.toNat c.lv.toNat)).setCell ⟨T, k * 10 + 7, none⟩ (.slice (some ⟨q, 0, none⟩) c.lv.toNat c.lv.toNat)).setCell ⟨T, k * 10 + 8, none⟩ (.slice none 0 0)).setCell ⟨T, k * 10 + 9, none⟩ (.slice none 0 0)) = W' at *
  refine ⟨Blk.agree h.cf (hfar Cb nC), Blk.agree h.pl (hfar Pb hPT), hbel, ?_, h.mach.agree fun g hg => hfar g (fun e => h.tno (by rw [← e]; exact hg)), h.low, h.fo, h.fl, fun g e => by
    obtain ⟨a1, a2, a3, a4⟩ := h.ro g e
    exact ⟨a1, a2, a3, by omega⟩, h.tno, h.tl, hthr⟩
  exact h.feed.agree (Blk.agree h.feed.box (hfar F hFT)) (by omega) fun g hg hgF G e hGk => hfar g (by
    obtain ⟨a1, a2, a3, a4⟩ := h.ro G e
    rw [← hGk]; exact a3)
/-- The machine has turned. -/
theorem Amid.turn {c : P.Cf} {n : Nat} {bs : List Int} {w : World} {Cb Pb B F T : Nat} {ad : Option Addr} {cap : Nat} {ms ms' : MS} {gs gs' : Gh} {k : Nat} {O : Nat → Prop} {W W' : World} (h : Amid c n bs w Cb Pb B F T ad cap ms gs k O W) (ht : MTurn B c F T ms' gs' false O W W') :
    ∃ O', Amid c n bs w Cb Pb B F T ad cap ms' gs' k O' W' := by
  obtain ⟨O', hk, hl, hm⟩ := ht
  have nO : ∀ {g : Nat} {t : TypeId} {cs : Array Value}, Blk W g t cs → t ≠ 79 → t ≠ 85 → t ≠ 24 → t ≠ 88 → t ≠ 96 → t ≠ 3 → W'.heap[g]? = W.heap[g]? := fun hb h0 h1 h2 h3 h4 h5 => hk.block _ hb.lt (h.mach.no hb h0 h1 h2 h3 h4 h5)
  have hF : Blk W F 115 _ := h.feed.box
  have hF' := hF.agree (nO hF (by decide) (by decide) (by decide) (by decide) (by decide) (by decide))
  have hTT : ∃ cs, Blk W T 48 cs := by obtain ⟨cs, hb, _⟩ := h.thr; exact ⟨cs, hb⟩
  obtain ⟨tcs, hT⟩ := hTT
  have hT' := hT.agree (nO hT (by decide) (by decide) (by decide) (by decide) (by decide) (by decide))
  have later : ∀ {x : Nat}, x < W.heap.size → ¬ O x → ¬ O' x := fun hx hn ho => (hl _ ho).elim hn (by omega)
  refine ⟨O', Blk.agree h.cf (nO h.cf (by decide) (by decide) (by decide) (by decide) (by decide) (by decide)), Blk.agree h.pl (nO h.pl (by decide) (by decide) (by decide) (by decide) (by decide) (by decide)), ?_, ?_, hm, ?_,
    later hF.lt h.fo, h.fl, ?_, later hT.lt h.tno, h.tl, ?_⟩
  · exact h.bel.trans (hk.below h.bel.size h.low)
  · exact h.feed.agree hF' hk.size fun x hx hxF G e hG => by
      obtain ⟨a1, a2, a3, a4⟩ := h.ro G e
      exact hk.block x hx (by rw [← hG]; exact a1)
  · intro x hx
    rcases hl x hx with h1 | h1
    · exact h.low x h1
    · exact Nat.le_trans h.bel.size h1
  · intro G e
    obtain ⟨a1, a2, a3, a4⟩ := h.ro G e
    exact ⟨later a4 a1, a2, a3, Nat.lt_of_lt_of_le a4 hk.size⟩
  · exact h.thr.agree (nO hT (by decide) (by decide) (by decide) (by decide) (by decide) (by decide)) fun g cs hg hq => ⟨⟨hq.1, later hg.lt hq.2⟩, hk.block g hg.lt hq.2⟩

/-- The ghost of a new machine, if it has one. -/
def ghost0 (c : P.Cf) : G.GS := ⟨G.tags0 c.nd.toNat (min (P.sent c.al) (c.nd.toNat : Int)).toNat, 0, 0⟩
def GhOk (gh : Bool) (c : P.Cf) (gs : Gh) : Prop := if gh then ∃ g t, gs = some (g, t, ghost0 c) else gs = none
/-- The memory of a new machine. -/
def firstMS (c : P.Cf) : MS := sentMS c (freeMS c (ms0 c.size.toNat))
/-- A new machine. -/
def Born (c : P.Cf) (n : Nat) (bs : List Int) (gh : Bool) (w : World) (e : Ending) (w' : World) : Prop :=
  ∃ Cb Pb B F T ad cap gs O, e = .returned (.tuple #[at0 B, .int .i64 0]) ∧ GhOk gh c gs ∧ Amid c n bs w Cb Pb B F T ad cap (firstMS c) gs c.th.toNat O w'

set_option maxHeartbeats 4000000 in
theorem new_ok (c : P.Cf) (v0 : Value) (gh : Bool) (n : Nat) (bs : List Int) (w : World) (h : c.Ok) (hF : ∀ W, Below w.heap.size w W → Calls Tryz.prog 35 #[v0] W (F.NewF n bs W)) : Calls Tryz.prog 9 #[c.v, v0, .bool gh] w (Born c n bs gh w) := by
  have KN := fun W => P.new_ok c W h
  have KS := fun W => P.size_ok c W h
  obtain ⟨sz, hsz, hsz0, hsz1⟩ : ∃ sz : Nat, c.size = sz ∧ 8 ≤ sz ∧ sz ≤ 924 := ⟨c.size.toNat, by have := h.steps; omega, by have := h.steps; omega, by have := h.steps; omega⟩
  rw [hsz] at KS
  have KT := made_c c h
  have HSZ := Lib.hid hsz
  clear hsz
  have HF := Lib.hid hF
  have HC := Lib.hid h
  clear h hF
  go_enter Tryz.func9, Tryz.ntmps9
  go_wp2_with fail
  refine (KN _).mono ?_
  rintro e V ⟨rfl, hb⟩
  obtain ⟨hB, h0⟩ := P.boxed c hb
  have hC1 := hB.alloc (.cells c.cs 33)
  have hP1 : P.Blk (V.alloc (.cells c.cs 33)) V.heap.size 33 c.cs := P.Blk.new _ _ _
  have h1 := h0.alloc h0.size (.cells c.cs 33)
  clear hb hB h0 KN
  obtain ⟨p0, p1, p2, p3, p4, p5, p6⟩ := hP1.conf
  go_wp2_with fail
  refine (KS _).mono ?_
  rintro e V1 ⟨rfl, hb⟩
  have hC2 := hC1.below hb hC1.lt
  have hP2 := hP1.below hb hP1.lt
  have h2 := P.below_then h1 hb (Nat.le_refl _)
  clear hb hC1 hP1 h1 KS p0 p1 p2 p3 p4 p5 p6
  go_wp2_with fail
  refine (new_yes sz V1 (by omega) (by omega)).mono ?_
  rintro e V2 ⟨rfl, hb, Om, hM, hO⟩
  have hC3 := hC2.below hb hC2.lt
  have hP3 := hP2.below hb hP2.lt
  have h3 := P.below_then h2 hb (Nat.le_refl _)
  have hO1 : ∀ k, Om k → w.heap.size ≤ k := fun k hk => Nat.le_trans h2.size (hO k hk)
  clear hb hC2 hP2 h2 hO
  generalize V1.heap.size + 1 = M at *
  generalize V.heap.size = Pb at *
  generalize hCb : w.heap.size = Cb at *
  go_wp2_with fail
  have hT3 : Two c Cb Pb V2 := ⟨hC3, hP3⟩
  have hT4 : Two c Cb Pb V2.drew := ⟨hC3, hP3⟩
  have h4 := h3.drew
  obtain ⟨p0, p1, p2, p3, p4, p5, p6, x1⟩ := hT4.cells
  clear hC3 hP3
  go_cut [12] from 28 to 36 (fun s12 wx => ∃ B Fb T ad cap O, s12 = at0 B ∧ Amid c n bs w Cb Pb B Fb T ad cap (ms0 sz) none 0 O wx)
  case first =>
   go_region_held3 (fun W => W.cell? ⟨Pb, 0, none⟩ = some (.int .i64 c.al) ∧ W.cell? ⟨Pb, 1, none⟩ = some (.int .i64 c.th) ∧ W.cell? ⟨Pb, 2, none⟩ = some (.int .i64 c.nd) ∧ W.cell? ⟨Pb, 3, none⟩ = some (.int .i64 c.lv) ∧ W.cell? ⟨Pb, 4, none⟩ = some (.int .i64 c.ba) ∧ W.cell? ⟨Pb, 5, none⟩ = some (.int .i64 c.pr) ∧ W.cell? ⟨Pb, 6, none⟩ = some (.int .i64 c.sc) ∧ W.cell? ⟨Cb, 1, none⟩ = some (.int .i64 c.th)) (first | exact Two.cells (c := c) (by assumption) | exact Two.cells (c := c) (Two.alloc (by assumption) _) | exact Two.cells (c := c) (Two.drew (Two.alloc hT3 _)) | exact Two.cells (c := c) (Two.alloc (Two.drew (Two.alloc hT3 _)) _) | exact Two.cells (c := c) (Two.alloc (Two.alloc (by assumption) _) _) | go_keep)
    (first | (go_at_call 35; (first | (refine (HF.out _ h4).mono ?_; rintro e W1 ⟨Fb, ad, cap, rfl, hb, hf, hF1, hF2⟩; have hT5 := hT4.below hb) | (refine (HF.out _ (h3.alloc (by have := h3.size; omega) _).drew).mono ?_; rintro e W1 ⟨Fb, ad, cap, rfl, hb, hf, hF1, hF2⟩; have hT5 := (Two.drew (hT3.alloc _)).below hb)); obtain ⟨q0, q1, q2, q3, q4, q5, q6, y1⟩ := hT5.cells))
   · go_wp2_with fail
     go_meet
     subst hCb
     have hM1 : MemAt M (ms0 sz) Om W1 := hM.agree fun k hk => hb.block k (hM.lt hk)
     have hsz := hb.size
     have hv2 : V2.drew.heap.size = V2.heap.size := rfl
     have h40 := h4.size
     obtain ⟨O, hA⟩ := born (w := w) (T := W1.heap.size) (B := W1.heap.size + 1) (cap := cap) (hT5.alloc (.cells (madeCells thZ (c.th.toNat * 10)) 48)) (by exact (P.below_then h4 hb (Nat.le_refl _)).alloc (by omega) _) (hf.below ((Below.refl _ _).alloc (Nat.le_refl _) _)) (hM1.alloc _) hO1 (Blk.new _ _ _) (by omega) (by omega)
       (fun g e => by obtain ⟨a1, a2⟩ := hF2 g e; exact ⟨fun ho => by have := hM.lt ho; omega, by omega, by omega, by simp; omega⟩) (by simp)
     exact ⟨_, _, _, _, _, O, rfl, hA⟩
   · go_wp2_with fail
     go_meet
     subst hCb
     have hM0 := (hM.alloc (.cells (madeCells thZ (c.th.toNat * 10)) 48))
     have hM1 : MemAt M (ms0 sz) Om W1 := hM0.agree fun k hk => hb.block k (hM0.lt hk)
     have hsz := hb.size
     have hv2 : (V2.alloc (.cells (madeCells thZ (c.th.toNat * 10)) 48)).drew.heap.size = V2.heap.size + 1 := by show (V2.alloc (.cells (madeCells thZ (c.th.toNat * 10)) 48)).heap.size = _; simp
     have h40 := h3.size
     have hTb : Blk (V2.alloc (.cells (madeCells thZ (c.th.toNat * 10)) 48)) V2.heap.size 48 (madeCells thZ (c.th.toNat * 10)) := Blk.new _ _ _
     obtain ⟨O, hA⟩ := born (w := w) (T := V2.heap.size) (B := W1.heap.size) (cap := cap) hT5 (P.below_then (h3.alloc h40 _).drew hb (Nat.le_refl _)) hf hM1 hO1 (hTb.agree (hb.block _ (by omega))) (by omega) (by omega)
       (fun g e => by obtain ⟨a1, a2⟩ := hF2 g e; exact ⟨fun ho => by have := hM.lt ho; omega, by omega, by omega, by omega⟩) rfl
     exact ⟨_, _, _, _, _, O, rfl, hA⟩
  case rest =>
    obtain ⟨B, Fb, T, ad, cap, O, rfl, hA⟩ := hcut
    have HCb := Lib.hid hCb
    clear hCb hM h4 hO1 hT3 hT4 h3 KT p0 p1 p2 p3 p4 p5 p6 x1
    have K49 := P.sentinelsM_any c
    obtain ⟨nd, hnd, hnd0, hnd1⟩ : ∃ nd : Nat, c.nd = nd ∧ 1 ≤ nd ∧ nd ≤ 64 := ⟨c.nd.toNat, by have := HC.out.nd; omega, by have := HC.out.nd; omega, by have := HC.out.nd; omega⟩
    have KG : ∀ W, Calls Tryz.prog 36 #[.int .i64 c.nd, .int .i64 (P.sent c.al)] W (G.NewG c.nd.toNat (ghost0 c) W) := fun W => by
      have := G.new_some nd (P.sent c.al) W hnd0 hnd1
      rw [← hnd] at this
      unfold ghost0
      rw [hnd]
      rw [hnd] at this
      simpa using this
    have hnn : 0 < c.nd.toNat := by omega
    clear hnd hnd0 hnd1
    go_upto_if 37 with fail
    go_cut [12] from 38 to 45 (fun s12 wx => s12 = at0 B ∧ ∃ gs O, GhOk gh c gs ∧ Amid c n bs w Cb Pb B Fb T ad cap (ms0 sz) gs 0 O wx)
    case first =>
      cases gh with
      | false =>
        go_wp2
        go_meet
        exact ⟨rfl, _, _, rfl, hA⟩
      | true =>
        go_wp2_with fail
        have hAd := hA.drew
        obtain ⟨p0, p1, p2, p3, p4, p5, p6, x2, x3, x8, x10⟩ := hA.cells
        have xf := hA.frozenB
        clear hA
        have HL : Hid (∀ W u, Amid c n bs w Cb Pb B Fb T ad cap (ms0 sz) none 0 O W → Two c Cb Pb (W.setCell ⟨B, 8, none⟩ u)) := Lib.hid fun W u h => h.twoB 8 u
        go_region_held3 (fun W => W.cell? ⟨Pb, 0, none⟩ = some (.int .i64 c.al) ∧ W.cell? ⟨Pb, 1, none⟩ = some (.int .i64 c.th) ∧ W.cell? ⟨Pb, 2, none⟩ = some (.int .i64 c.nd) ∧ W.cell? ⟨Pb, 3, none⟩ = some (.int .i64 c.lv) ∧ W.cell? ⟨Pb, 4, none⟩ = some (.int .i64 c.ba) ∧ W.cell? ⟨Pb, 5, none⟩ = some (.int .i64 c.pr) ∧ W.cell? ⟨Pb, 6, none⟩ = some (.int .i64 c.sc) ∧ W.cell? ⟨Cb, 2, none⟩ = some (.int .i64 c.nd))
          (first | exact Two.cell8 (c := c) (Amid.two (by assumption)) | exact Two.cell8 (c := c) (HL.out _ _ (by assumption)) | go_keep)
          (first | (go_at_call 37; refine (K49 _).mono ?_; rintro e W1 ⟨rfl, hb⟩; have hA1 := Amid.below hAd hb; obtain ⟨q0, q1, q2, q3, q4, q5, q6, y2, y3, y8, y10⟩ := hA1.cells) | (go_at_call 36; refine (KG _).mono ?_; rintro e W2 ⟨g, ad', rfl, hb2, hg, hg1, hg2⟩; have hA2 := Amid.below hA1 hb2; obtain ⟨r0, r1, r2, r3, r4, r5, r6, z2, z3, z8, z10⟩ := hA2.cells; have zf := hA2.frozenB))
        all_goals
          go_wp2_with fail
          go_meet
          obtain ⟨t, O', hX⟩ := hA1.ghost hb2 hg hnn hg1 hg2
          exact ⟨rfl, _, _, ⟨_, _, rfl⟩, hX⟩
    case rest =>
      obtain ⟨rfl, gs, O, hgs, hA⟩ := hcut
      have HGS := Lib.hid hgs
      clear hgs K49 KG
      have HA := Lib.hid hA
      obtain ⟨-, -, -, -, -, -, -, -, -, -, x10⟩ := hA.cells
      clear hA
      obtain ⟨th, hth⟩ : ∃ th, c.th.toNat = th := ⟨_, rfl⟩
      have hth1 : th ≤ 6 := by have := HC.out.th; omega
      have HTH := Lib.hid hth
      rw [hth] at x10
      clear hth
      have KT : ∀ (k : Nat) (W : World), Calls Tryz.prog 38 #[.int .i64 k, .int .i64 c.lv] W (NewTh k c.lv.toNat W) := fun k W => by
        have := thread_new k c.lv.toNat W (by have := HC.out.l1; omega)
        rwa [show ((c.lv.toNat : Nat) : Int) = c.lv by have := HC.out.l0; omega] at this
      go_wp2_with fail
      go_loopw [51] (fun i wr => ∃ k : Nat, k ≤ th ∧ i = .int .i64 k ∧ Hid (Amid c n bs w Cb Pb B Fb T ad cap (ms0 sz) gs k O wr)) (fun i _ => th - (intOf i).toNat)
      case atStart => exact ⟨0, by omega, rfl, HA⟩
      case round =>
        obtain ⟨k, hk, rfl, HR⟩ := hrel
        by_cases hlt : k < th
        · have hAd := HR.out.drew
          obtain ⟨p0, p1, p2, p3, p4, p5, p6, x2, x3, x8, x10⟩ := HR.out.cells
          rw [HTH.out] at x10
          clear HR HA
          obtain ⟨nC, nB⟩ := hAd.ne
          have nC' := Ne.symm nC
          have nB' := Ne.symm nB
          have HL : Hid (∀ W, Amid c n bs w Cb Pb B Fb T ad cap (ms0 sz) gs k O W → W.cell? ⟨Cb, 3, none⟩ = some (.int .i64 c.lv) ∧ W.cell? ⟨B, 10, none⟩ = some (.slice (some ⟨T, 0, none⟩) th th)) := Lib.hid fun W h => by
            obtain ⟨-, -, -, -, -, -, -, -, x3, -, x10⟩ := h.cells
            rw [HTH.out] at x10
            exact ⟨x3, x10⟩
          go_wp2_with fail
          go_region_held3 (fun W => W.cell? ⟨Cb, 3, none⟩ = some (.int .i64 c.lv) ∧ W.cell? ⟨B, 10, none⟩ = some (.slice (some ⟨T, 0, none⟩) th th))
            (go_keep)
            (first | (go_at_call 38; refine (KT _ _).mono ?_; rintro e W1 ⟨tp, ts, tq, rfl, hb, b1, b2, b3, b4, b5, b6⟩; have hA1 := Amid.below hAd hb; obtain ⟨y3, y10⟩ := HL.out _ hA1; obtain ⟨zf, u0, u1, u2, u3, u4, u5, u6, u7, u8, u9, z0, z1, z2, z3, z4, z5, z6, z7, z8, z9⟩ := hA1.thc (by rw [HTH.out]; exact hlt)))
          have hl0 := hA1.bel.size
          have hwl := hAd.bel.size
          have hno : ∀ {x : Nat}, wr.drew.heap.size ≤ x → ¬ O x := fun {x} h1 h2 => by have := hAd.mach.lt h2; omega
          have HA2 := Lib.hid (hA1.setTh (by rw [HTH.out]; exact hlt) ⟨Nat.le_trans hwl b1, hno b1⟩ ⟨Nat.le_trans hwl b2, hno b2⟩ ⟨Nat.le_trans hwl b3, hno b3⟩ b4 b5 b6)
          clear hA1 hAd hb b1 b2 b3 b4 b5 b6 z0 z1 z2 z3 z4 z5 z6 z7 z8 z9 y3 y10 p0 p1 p2 p3 p4 p5 p6 x2 x3 x8 x10 zf
          go_wp2
          go_roundw
          case rel => exact ⟨k + 1, by omega, by go_num, HA2⟩
          case measure => simp [intOf]; omega
        · have hkt : k = th := by omega
          subst hkt
          have K51 := free_any B c Fb T (ms0 sz) gs false O 0 wr HC.out HR.out.mach (by have := HSZ.out; rw [show c.size.toNat = sz by omega]; exact calm0 sz) (by omega)
          have HAT : Hid (∀ W', MTurn B c Fb T (freeMS c (ms0 sz)) gs false O wr W' → ∃ O', Amid c n bs w Cb Pb B Fb T ad cap (freeMS c (ms0 sz)) gs k O' W') := Lib.hid fun W' ht => HR.out.turn ht
          clear HR
          go_wp2_with fail
          refine K51.mono ?_
          rintro e w5 ⟨rfl, hT⟩
          obtain ⟨O5, hA5⟩ := HAT.out _ hT
          clear hT HAT K51
          have K52 := sent_any B c Fb T (freeMS c (ms0 sz)) gs false O5 70 w5 HC.out hA5.mach (by have := HSZ.out; have := (calm0 sz).free c HC.out; rw [show c.size.toNat = sz by omega]; simpa using this) (by omega)
          have HAT : Hid (∀ W', MTurn B c Fb T (sentMS c (freeMS c (ms0 sz))) gs false O5 w5 W' → ∃ O', Amid c n bs w Cb Pb B Fb T ad cap (firstMS c) gs c.th.toNat O' W') := Lib.hid fun W' ht => by
            have := hA5.turn ht
            rw [HTH.out]
            unfold firstMS
            rw [show c.size.toNat = sz by have := HSZ.out; omega]
            exact this
          clear hA5
          go_wp2_with fail
          refine K52.mono ?_
          rintro e w6 ⟨rfl, hT⟩
          have hA6 := HAT.out _ hT
          have HA6 := Lib.hid hA6
          clear hT HAT K52 hA6
          go_wp2
          go_ret2
          obtain ⟨O6, hA6⟩ := HA6.out
          exact ⟨_, _, _, _, _, _, _, gs, O6, rfl, HGS.out, hA6⟩
end Go.Proofs.YtemikojaldoofaaGreat
