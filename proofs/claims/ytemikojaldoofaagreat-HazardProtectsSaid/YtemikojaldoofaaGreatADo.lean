/- What a bit of Alloc and of Release does. -/
import Derived.Test.YtemikojaldoofaaGreatAWord
import Derived.BigRegion
import Derived.Deep.QuietTactic
import Derived.BigQuiet
namespace Go.Proofs.YtemikojaldoofaaGreat
open Go.ChangeShapes Go.WideShapes Go.ChangeAt Go.RowKit
set_option linter.unusedVariables false

set_option maxRecDepth 20000

variable {c : P.Cf} {B Fb T : Nat} {X : Nat → Prop} {W W' : World} {g t : Nat} {ws : List Int} {st : Int} {G : G.GS} {ts : Nat → Th}
theorem upd_upd (ts : Nat → Th) (i : Nat) (a b : Th) : upd (upd ts i a) i b = upd ts i b := by
  funext j
  simp only [upd]
  split <;> rfl
/-- Amid a bit: the machine has become another since W, and the top frame lies where it lay. -/
def Mid (c : P.Cf) (B Fb T i gg o cp : Nat) (l : List Fr) (f : Fr) (σ : Sg) (X : Nat → Prop) (W V : World) : Prop :=
  MacT c B Fb T σ X W V ∧ FrIs T i gg o cp f V ∧ (σ.ts i).fr = l ++ [f]
variable {i gg o cp : Nat} {l : List Fr} {f : Fr} {σ σ' : Sg} {V V' : World}
theorem Mid.drew (h : Mid c B Fb T i gg o cp l f σ X W V) : Mid c B Fb T i gg o cp l f σ X W V.drew := ⟨h.1.drew, h.2.1.drew, h.2.2⟩
theorem Mid.below (h : Mid c B Fb T i gg o cp l f σ X W V) (hb : Below V.heap.size V V') : Mid c B Fb T i gg o cp l f σ X W V' := ⟨h.1.below hb, h.2.1.below hb, h.2.2⟩
theorem Mid.still (h : Mid c B Fb T i gg o cp l f σ X W V) {ms : MS} {gs : Gh} {bad : Bool} (ht : ∀ X', Mac c B Fb T X' σ V → MacT c B Fb T ⟨ms, gs, bad, σ.ts⟩ X' V V') (hs : Still V V') : Mid c B Fb T i gg o cp l f ⟨ms, gs, bad, σ.ts⟩ X W V' := by
  obtain ⟨⟨X', k, l', m⟩, h2, h3⟩ := h
  exact ⟨MacT.from k l' (ht X' m), h2.still hs, h3⟩
theorem Mid.setC (h : Mid c B Fb T i gg o cp l f σ X W V) (hi : i < c.th.toNat) (ho : l.length * 12 = o) (j : Nat) (hj : j < 12) (x : Int) :
    Mid c B Fb T i gg o cp l (f.setC j x) { σ with ts := upd σ.ts i { σ.ts i with fr := l ++ [f.setC j x] } } X W (V.setCell ⟨gg, o + j, none⟩ (cellV j x)) := by
  obtain ⟨⟨X', k, l', m⟩, h2, h3⟩ := h
  exact ⟨MacT.from k l' (m.setC hi h3 ho h2 j hj x), h2.set j hj x, by simp [upd_same]⟩
/-- A contract on the machine as it is amid a bit. -/
theorem Mid.calls (h : Mid c B Fb T i gg o cp l f σ X W V) {K : Nat} {args : Array Value} {v : Value} {ms : MS} {gs : Gh} {bad : Bool}
    (hK : ∀ X', Mac c B Fb T X' σ V → Calls Tryz.prog K args V fun e V' => e = .returned v ∧ MacT c B Fb T ⟨ms, gs, bad, σ.ts⟩ X' V V' ∧ Still V V') :
    Calls Tryz.prog K args V fun e V' => e = .returned v ∧ Mid c B Fb T i gg o cp l f ⟨ms, gs, bad, σ.ts⟩ X W V' := by
  obtain ⟨⟨X', k, l', m⟩, h2, h3⟩ := h
  refine (hK X' m).mono ?_
  rintro e V' ⟨rfl, ht, hs⟩
  exact ⟨rfl, MacT.from k l' ht, h2.still hs, h3⟩
theorem Mid.pop (h : Mid c B Fb T i gg o cp l f σ X W V) (hi : i < c.th.toNat) (hl : l.length ≤ 1000) {a : Option Addr} {n cap : Nat} {rs : List Int} (R : F.Row .u64 V a n cap rs) (hn : n ≤ 100) (hR : 0 < n → ∀ x, a = some x → x.block ≠ T) :
    Calls Tryz.prog 70 #[.pointer (some ⟨T, i * 10, none⟩), .slice a n cap] V fun e V' => e = .returned (.tuple #[]) ∧
      MacT c B Fb T { σ with ts := upd σ.ts i ((σ.ts i).told l (rs.getD 0 0) (rs.getD 1 0) (rs.getD 2 0)) } X W V' := by
  obtain ⟨⟨X', k, l', m⟩, h2, h3⟩ := h
  refine (m.pop hi h3 hl R hn hR).mono ?_
  rintro e V' ⟨rfl, ht⟩
  exact ⟨rfl, MacT.from k l' ht⟩
theorem Mid.cells (h : Mid c B Fb T i gg o cp l f σ X W V) : V.cell? ⟨gg, o + 1, none⟩ = some (.int .i64 f.pc) ∧ V.cell? ⟨gg, o + 2, none⟩ = some (.int .u64 (f.r.getD 0 0)) ∧ V.cell? ⟨gg, o + 2 + 1, none⟩ = some (.int .u64 (f.r.getD 1 0)) ∧ V.cell? ⟨gg, o, none⟩ = some (.int .i64 f.fn) :=
  ⟨h.2.1.pc, h.2.1.reg 0 (by omega), h.2.1.reg 1 (by omega), h.2.1.fn⟩

/-- The row that Pop is handed: one number. -/
theorem row1 (W : World) (x : Int) (h0 : 0 ≤ x) (h1 : x < 18446744073709551616) : F.Row .u64 (W.alloc (.cells #[.int .u64 x] 24)) (some ⟨W.heap.size, 0, none⟩) 1 1 [x] := by
  have hB : Blk (W.alloc (.cells #[.int .u64 x] 24)) W.heap.size 24 #[.int .u64 x] := Blk.new _ _ _
  refine ⟨rfl, ⟨Nat.le_refl _, by simp [maxLen]⟩, .inr ⟨_, rfl, fun j u hj => ?_⟩, fun j hj => ⟨_, 0, rfl, ?_⟩, fun y hy => ?_⟩
  · match j with
    | 0 =>
      simp at hj
      subst hj
      rw [add0, hB.cell 0]
      rfl
    | j + 1 => simp at hj
  · obtain rfl : j = 0 := by omega
    rw [hB.cell]
    rfl
  · simp at hy
    subst hy
    simp [Lit.wf, IntKind.min, IntKind.max, IntKind.signed, IntKind.bits]
    omega
/-- What is handed to Pop. -/
theorem Mid.popOne (h : Mid c B Fb T i gg o cp l f σ X W V) (hi : i < c.th.toNat) (hl : l.length ≤ 1000) (x : Int) (h0 : 0 ≤ x) (h1 : x < 18446744073709551616) :
    Calls Tryz.prog 70 #[.pointer (some ⟨T, i * 10, none⟩), .slice (some ⟨V.heap.size, 0, none⟩) 1 1] (V.alloc (.cells #[.int .u64 x] 24)) fun e V' => e = .returned (.tuple #[]) ∧
      MacT c B Fb T { σ with ts := upd σ.ts i ((σ.ts i).told l x 0 0) } X W V' := by
  have hT := h.2.1.tb
  obtain ⟨cs, hT⟩ := hT
  have := (h.below ((Below.refl _ _).alloc (Nat.le_refl _) (.cells #[.int .u64 x] 24))).pop hi hl (row1 V x h0 h1) (by omega) (fun _ a e => by
    cases e
    have := hT.lt
    show V.heap.size ≠ T
    omega)
  simpa using this
theorem alloc_read (hc : c.Ok) (h : Mid c B Fb T i gg o cp l f (AS g t ws st G ts) X W V) (hi : i < c.th.toNat) (ho : l.length * 12 = o) (hll : l.length ≤ 1000) (hl : ws.length = c.size.toNat) (hs : 0 ≤ st ∧ st ≤ 1000000)
    (hp : f.pc = 0) (r0 : 0 ≤ f.r.getD 0 0 ∧ f.r.getD 0 0 < 18446744073709551616) (w0 : 0 ≤ wordAt ws 0 ∧ wordAt ws 0 < 18446744073709551616) (hz : wordAt ws 0 / 2 % 65536 ≠ 0) :
    Calls Tryz.prog 74 #[at0 B, .pointer (some ⟨T, i * 10, none⟩), .pointer (some ⟨gg, o, none⟩)] V fun e V' => e = .returned (.tuple #[]) ∧
      MacT c B Fb T (AS g t ws (st + 1) G (upd ts i { ts i with fr := l ++ [((f.setC 2 (wordAt ws 0)).setC 1 1)] })) X W V' := by
  have cs := h.cells
  rw [hp] at cs
  obtain ⟨c1, c2, c3, c4⟩ := cs
  have z3 : 0 < c.o3 ∧ c.o3 ≤ 924 := by have := hc.steps; omega
  have lg := h.2.1.lt
  have HM := Lib.hid h
  have HL : Hid (∀ V', Mid c B Fb T i gg o cp l f (AS g t ws st G ts) X W V' → Calls Tryz.prog 69 #[at0 B, .int .i64 0] V' fun e V2 => e = .returned (.int .u64 (wordAt ws 0)) ∧ Mid c B Fb T i gg o cp l f (AS g t ws (st + 1) G ts) X W V2) := Lib.hid fun V' h' => h'.calls fun X' m => aload hc m hl hs (a := 0) (by omega) z3.1
  have HX : Hid (∀ V', Mid c B Fb T i gg o cp l f (AS g t ws (st + 1) G ts) X W V' → Mid c B Fb T i gg o cp l ((f.setC 2 (wordAt ws 0)).setC 1 1) (AS g t ws (st + 1) G (upd ts i { ts i with fr := l ++ [((f.setC 2 (wordAt ws 0)).setC 1 1)] })) X W ((V'.setCell ⟨gg, o + 2, none⟩ (.int .u64 (wordAt ws 0))).setCell ⟨gg, o + 1, none⟩ (.int .i64 1))) := Lib.hid fun V' h' => by
    have := ((h'.setC hi ho 2 (by omega) (wordAt ws 0)).setC hi ho 1 (by omega) 1)
    simp only [upd_upd, upd_same] at this
    exact this
  have KP := fun V' => ptr_any (f.r.getD 0 0) V' r0.1 r0.2
  have KP2 := fun V' => ptr_any (wordAt ws 0) V' w0.1 w0.2
  clear h r0 w0 hs hl hc z3
  generalize wordAt ws 0 = x at *
  generalize f.r.getD 0 0 = y at *
  go_enter Tryz.func74, Tryz.ntmps74
  go_wp2_with fail
  refine (KP _).mono ?_
  rintro e v ⟨rfl, rfl⟩
  go_wp2_with fail
  go_region_with (go_at_call 69; refine (HL.out _ HM.out.drew).mono ?_; rintro e V2 ⟨rfl, hM2⟩; have q2 := hM2.cells; have lg2 := hM2.2.1.lt; have fz2 := hM2.2.1.fz; obtain ⟨d1, d2, d3, d4⟩ := q2; have HM2 := Lib.hid hM2; clear hM2)
  all_goals
    go_wp2_with fail
    refine (KP2 _).mono ?_
    rintro e v ⟨rfl, rfl⟩
    go_wp2
    go_end0
    exact ⟨rfl, (HX.out _ HM2.out).1⟩
theorem alloc_empty (hc : c.Ok) (h : Mid c B Fb T i gg o cp l f (AS g t ws st G ts) X W V) (hi : i < c.th.toNat) (ho : l.length * 12 = o) (hll : l.length ≤ 1000) (hl : ws.length = c.size.toNat) (hs : 0 ≤ st ∧ st ≤ 1000000)
    (hp : f.pc = 0) (r0 : 0 ≤ f.r.getD 0 0 ∧ f.r.getD 0 0 < 18446744073709551616) (w0 : 0 ≤ wordAt ws 0 ∧ wordAt ws 0 < 18446744073709551616) (hz : wordAt ws 0 / 2 % 65536 = 0) :
    Calls Tryz.prog 74 #[at0 B, .pointer (some ⟨T, i * 10, none⟩), .pointer (some ⟨gg, o, none⟩)] V fun e V' => e = .returned (.tuple #[]) ∧
      MacT c B Fb T (AS g t ws (st + 1) G (upd ts i ((ts i).told l 0 0 0))) X W V' := by
  have cs := h.cells
  rw [hp] at cs
  obtain ⟨c1, c2, c3, c4⟩ := cs
  have z3 : 0 < c.o3 ∧ c.o3 ≤ 924 := by have := hc.steps; omega
  have lg := h.2.1.lt
  have HM := Lib.hid h
  have HL : Hid (∀ V', Mid c B Fb T i gg o cp l f (AS g t ws st G ts) X W V' → Calls Tryz.prog 69 #[at0 B, .int .i64 0] V' fun e V2 => e = .returned (.int .u64 (wordAt ws 0)) ∧ Mid c B Fb T i gg o cp l f (AS g t ws (st + 1) G ts) X W V2) := Lib.hid fun V' h' => h'.calls fun X' m => aload hc m hl hs (a := 0) (by omega) z3.1
  have HX : Hid (∀ V', Mid c B Fb T i gg o cp l f (AS g t ws (st + 1) G ts) X W V' → Mid c B Fb T i gg o cp l ((f.setC 2 (wordAt ws 0)).setC 1 1) (AS g t ws (st + 1) G (upd ts i { ts i with fr := l ++ [((f.setC 2 (wordAt ws 0)).setC 1 1)] })) X W ((V'.setCell ⟨gg, o + 2, none⟩ (.int .u64 (wordAt ws 0))).setCell ⟨gg, o + 1, none⟩ (.int .i64 1))) := Lib.hid fun V' h' => by
    have := ((h'.setC hi ho 2 (by omega) (wordAt ws 0)).setC hi ho 1 (by omega) 1)
    simp only [upd_upd, upd_same] at this
    exact this
  have KP := fun V' => ptr_any (f.r.getD 0 0) V' r0.1 r0.2
  have KP2 := fun V' => ptr_any (wordAt ws 0) V' w0.1 w0.2
  have HQ : Hid (∀ V', Mid c B Fb T i gg o cp l ((f.setC 2 (wordAt ws 0)).setC 1 1) (AS g t ws (st + 1) G (upd ts i { ts i with fr := l ++ [((f.setC 2 (wordAt ws 0)).setC 1 1)] })) X W V' → Calls Tryz.prog 70 #[.pointer (some ⟨T, i * 10, none⟩), .slice (some ⟨V'.heap.size, 0, none⟩) 1 1] (V'.alloc (.cells #[.int .u64 0] 24)) fun e V2 => e = .returned (.tuple #[]) ∧ MacT c B Fb T (AS g t ws (st + 1) G (upd ts i ((ts i).told l 0 0 0))) X W V2) := Lib.hid fun V' h' => by
    have := h'.popOne hi hll 0 (by omega) (by omega)
    simp only [upd_upd, upd_same] at this
    exact this
  clear h r0 w0 hs hl hc z3
  generalize wordAt ws 0 = x at *
  generalize f.r.getD 0 0 = y at *
  go_enter Tryz.func74, Tryz.ntmps74
  go_wp2_with fail
  refine (KP _).mono ?_
  rintro e v ⟨rfl, rfl⟩
  go_wp2_with fail
  go_region_with (go_at_call 69; refine (HL.out _ HM.out.drew).mono ?_; rintro e V2 ⟨rfl, hM2⟩; have q2 := hM2.cells; have lg2 := hM2.2.1.lt; have fz2 := hM2.2.1.fz; obtain ⟨d1, d2, d3, d4⟩ := q2; have HM2 := Lib.hid hM2; clear hM2)
  all_goals
    go_wp2_with fail
    refine (KP2 _).mono ?_
    rintro e v ⟨rfl, rfl⟩
    have HY := Lib.hid (HQ.out _ (HX.out _ HM2.out))
    clear HX HM2 HL HM
    go_wp2_with fail
    simp only [World.size_setCell] at HY
    refine HY.out.mono ?_
    rintro e v ⟨rfl, hv⟩
    have HV := Lib.hid hv
    clear hv HY
    go_wp2
    go_end0
    exact ⟨rfl, HV.out⟩
theorem release_read (hc : c.Ok) (h : Mid c B Fb T i gg o cp l f (AS g t ws st G ts) X W V) (hi : i < c.th.toNat) (ho : l.length * 12 = o) (hll : l.length ≤ 1000) (hl : ws.length = c.size.toNat) (hs : 0 ≤ st ∧ st ≤ 1000000)
    (hp : f.pc = 0) (r0 : 0 ≤ f.r.getD 0 0 ∧ f.r.getD 0 0 < 18446744073709551616)  :
    Calls Tryz.prog 75 #[at0 B, .pointer (some ⟨T, i * 10, none⟩), .pointer (some ⟨gg, o, none⟩)] V fun e V' => e = .returned (.tuple #[]) ∧
      MacT c B Fb T (AS g t ws (st + 1) G (upd ts i { ts i with fr := l ++ [((f.setC 3 (wordAt ws 0)).setC 1 1)] })) X W V' := by
  have cs := h.cells
  rw [hp] at cs
  obtain ⟨c1, c2, c3, c4⟩ := cs
  have z3 : 0 < c.o3 ∧ c.o3 ≤ 924 := by have := hc.steps; omega
  have lg := h.2.1.lt
  have HM := Lib.hid h
  have HL : Hid (∀ V', Mid c B Fb T i gg o cp l f (AS g t ws st G ts) X W V' → Calls Tryz.prog 69 #[at0 B, .int .i64 0] V' fun e V2 => e = .returned (.int .u64 (wordAt ws 0)) ∧ Mid c B Fb T i gg o cp l f (AS g t ws (st + 1) G ts) X W V2) := Lib.hid fun V' h' => h'.calls fun X' m => aload hc m hl hs (a := 0) (by omega) z3.1
  have HX : Hid (∀ V', Mid c B Fb T i gg o cp l f (AS g t ws (st + 1) G ts) X W V' → Mid c B Fb T i gg o cp l ((f.setC 3 (wordAt ws 0)).setC 1 1) (AS g t ws (st + 1) G (upd ts i { ts i with fr := l ++ [((f.setC 3 (wordAt ws 0)).setC 1 1)] })) X W ((V'.setCell ⟨gg, o + 2 + 1, none⟩ (.int .u64 (wordAt ws 0))).setCell ⟨gg, o + 1, none⟩ (.int .i64 1))) := Lib.hid fun V' h' => by
    have := ((h'.setC hi ho 3 (by omega) (wordAt ws 0)).setC hi ho 1 (by omega) 1)
    simp only [upd_upd, upd_same] at this
    exact this
  clear h r0 hs hl hc z3
  generalize wordAt ws 0 = x at *
  generalize f.r.getD 0 0 = y at *
  generalize f.r.getD 1 0 = z at *
  go_enter Tryz.func75, Tryz.ntmps75
  go_wp2_with fail
  go_region_with (go_at_call 69; refine (HL.out _ HM.out.drew).mono ?_; rintro e V2 ⟨rfl, hM2⟩; have q2 := hM2.cells; have lg2 := hM2.2.1.lt; have fz2 := hM2.2.1.fz; obtain ⟨d1, d2, d3, d4⟩ := q2; have HM2 := Lib.hid hM2; clear hM2)
  all_goals
    go_wp2_with fail
    go_end0
    exact ⟨rfl, (HX.out _ HM2.out).1⟩
/-- Links lie ahead of the nodes. -/
theorem link_low (hc : c.Ok) {n : Int} (h0 : 1 ≤ n) (h1 : n ≤ c.nd) : 0 ≤ c.link n ∧ c.link n < c.o3 := by
  obtain ⟨e, l0, l1⟩ := link_at hc h0 h1
  have e3 : c.o3 = c.o2 + c.nd * 1 := rfl
  omega
theorem alloc_link (hc : c.Ok) (h : Mid c B Fb T i gg o cp l f (AS g t ws st G ts) X W V) (hi : i < c.th.toNat) (ho : l.length * 12 = o) (hll : l.length ≤ 1000) (hl : ws.length = c.size.toNat) (hs : 0 ≤ st ∧ st ≤ 1000000)
    (hp : f.pc = 1) (r0 : 0 ≤ f.r.getD 0 0 ∧ f.r.getD 0 0 < 18446744073709551616) {n : Int} (hn : f.r.getD 0 0 / 2 % 65536 = n) (n0 : 1 ≤ n) (n1 : n ≤ c.nd) :
    Calls Tryz.prog 74 #[at0 B, .pointer (some ⟨T, i * 10, none⟩), .pointer (some ⟨gg, o, none⟩)] V fun e V' => e = .returned (.tuple #[]) ∧
      MacT c B Fb T (AS g t ws (st + 1) G (upd ts i { ts i with fr := l ++ [((f.setC 3 (wordAt ws (c.link n).toNat)).setC 1 2)] })) X W V' := by
  have cs := h.cells
  rw [hp] at cs
  obtain ⟨c1, c2, c3, c4⟩ := cs
  have z3 : 0 < c.o3 ∧ c.o3 ≤ 924 := by have := hc.steps; omega
  have lg := h.2.1.lt
  have HM := Lib.hid h
  have ll := link_low hc n0 n1
  have HL : Hid (∀ V', Mid c B Fb T i gg o cp l f (AS g t ws st G ts) X W V' → Calls Tryz.prog 69 #[at0 B, .int .i64 (c.link n)] V' fun e V2 => e = .returned (.int .u64 (wordAt ws (c.link n).toNat)) ∧ Mid c B Fb T i gg o cp l f (AS g t ws (st + 1) G ts) X W V2) := Lib.hid fun V' h' => h'.calls fun X' m => aload hc m hl hs ll.1 ll.2
  have HP : Hid (∀ V', Mid c B Fb T i gg o cp l f (AS g t ws st G ts) X W V' → Calls Tryz.prog 10 #[at0 B] V' fun e V2 => e = .returned c.v ∧ Below V'.heap.size V' V2) := Lib.hid fun V' h' => by
    obtain ⟨⟨X', k, l', m⟩, -⟩ := h'
    exact m.plan
  have HK : Hid (∀ V', Calls Tryz.prog 64 #[c.v, .int .i64 n] V' fun e V2 => e = .returned (.int .i64 (c.link n)) ∧ Below V'.heap.size V' V2) := Lib.hid fun V' => P.link_ok c n V' hc (by have := hc.nd; unfold P.I64; omega)
  have HX : Hid (∀ V', Mid c B Fb T i gg o cp l f (AS g t ws (st + 1) G ts) X W V' → Mid c B Fb T i gg o cp l ((f.setC 3 (wordAt ws (c.link n).toNat)).setC 1 2) (AS g t ws (st + 1) G (upd ts i { ts i with fr := l ++ [((f.setC 3 (wordAt ws (c.link n).toNat)).setC 1 2)] })) X W ((V'.setCell ⟨gg, o + 2 + 1, none⟩ (.int .u64 (wordAt ws (c.link n).toNat))).setCell ⟨gg, o + 1, none⟩ (.int .i64 2))) := Lib.hid fun V' h' => by
    have := ((h'.setC hi ho 3 (by omega) (wordAt ws (c.link n).toNat)).setC hi ho 1 (by omega) 2)
    simp only [upd_upd, upd_same] at this
    exact this
  have KP := fun V' => ptr_any (f.r.getD 0 0) V' r0.1 r0.2
  rw [hn] at KP
  clear h r0 hs hl hc z3 ll hn n0 n1
  generalize wordAt ws (c.link n).toNat = x at *
  generalize c.link n = a at *
  generalize f.r.getD 0 0 = y at *
  go_enter Tryz.func74, Tryz.ntmps74
  go_wp2_with fail
  refine (KP _).mono ?_
  rintro e v ⟨rfl, rfl⟩
  go_wp2_with fail
  go_region_with (first | (go_at_call 10; refine (HP.out _ HM.out.drew).mono ?_; rintro e V1 ⟨rfl, hb1⟩; have HM1 := Lib.hid (HM.out.drew.below hb1); clear hb1) | (go_at_call 64; refine (HK.out _).mono ?_; rintro e V3 ⟨rfl, hb3⟩; have HM3 := Lib.hid (HM1.out.below hb3); clear hb3) | (go_at_call 69; refine (HL.out _ HM3.out).mono ?_; rintro e V2 ⟨rfl, hM2⟩; have q2 := hM2.cells; have lg2 := hM2.2.1.lt; have fz2 := hM2.2.1.fz; obtain ⟨d1, d2, d3, d4⟩ := q2; have HM2 := Lib.hid hM2; clear hM2))
  all_goals
    go_wp2
    go_end0
    exact ⟨rfl, (HX.out _ HM2.out).1⟩
theorem alloc_yes (hc : c.Ok) (h : Mid c B Fb T i gg o cp l f (AS g t ws st G ts) X W V) (hi : i < c.th.toNat) (ho : l.length * 12 = o) (hll : l.length ≤ 1000) (hl : ws.length = c.size.toNat) (hs : 0 ≤ st ∧ st ≤ 1000000)
    (hp : f.pc = 2) (r0 : 0 ≤ f.r.getD 0 0 ∧ f.r.getD 0 0 < 18446744073709551616) (r1 : 0 ≤ f.r.getD 1 0 ∧ f.r.getD 1 0 < 18446744073709551616) {n : Int} (hn : f.r.getD 0 0 / 2 % 65536 = n) (n0 : 0 ≤ n ∧ n ≤ 1000) (r9 : f.r.getD 1 0 < 9223372036854775808) (hw : wordAt ws 0 = f.r.getD 0 0) :
    Calls Tryz.prog 74 #[at0 B, .pointer (some ⟨T, i * 10, none⟩), .pointer (some ⟨gg, o, none⟩)] V fun e V' => e = .returned (.tuple #[]) ∧
      MacT c B Fb T (AS g t (ws.set 0 (nextW (f.r.getD 0 0) (f.r.getD 1 0))) (st + 1) (G.then c.nd.toNat 0 n) (upd ts i ((ts i).told l n 0 0))) X W V' := by
  have cs := h.cells
  rw [hp] at cs
  obtain ⟨c1, c2, c3, c4⟩ := cs
  have z3 : 0 < c.o3 ∧ c.o3 ≤ 924 := by have := hc.steps; omega
  have lg := h.2.1.lt
  have HM := Lib.hid h
  have HX : Hid (∀ V', Mid c B Fb T i gg o cp l f (AS g t ws st G ts) X W V' → Mid c B Fb T i gg o cp l (f.setC 1 0) (AS g t ws st G (upd ts i { ts i with fr := l ++ [(f.setC 1 0)] })) X W (V'.setCell ⟨gg, o + 1, none⟩ (.int .i64 0))) := Lib.hid fun V' h' => by
    have := (h'.setC hi ho 1 (by omega) 0)
    exact this
  have HL : Hid (∀ V', Mid c B Fb T i gg o cp l (f.setC 1 0) (AS g t ws st G (upd ts i { ts i with fr := l ++ [(f.setC 1 0)] })) X W V' → Calls Tryz.prog 88 #[at0 B, .int .u64 (f.r.getD 0 0), .int .u64 (f.r.getD 1 0)] V' fun e V2 => e = .returned (.bool true) ∧ Mid c B Fb T i gg o cp l (f.setC 1 0) (AS g t (ws.set 0 (nextW (f.r.getD 0 0) (f.r.getD 1 0))) (st + 1) G (upd ts i { ts i with fr := l ++ [(f.setC 1 0)] })) X W V2) := Lib.hid fun V' h' => h'.calls fun X' m => lead_yes hc m hl hs _ _ r0.1 r0.2 r1.1 r9 hw
  have HT : Hid (∀ V', Mid c B Fb T i gg o cp l (f.setC 1 0) (AS g t (ws.set 0 (nextW (f.r.getD 0 0) (f.r.getD 1 0))) (st + 1) G (upd ts i { ts i with fr := l ++ [(f.setC 1 0)] })) X W V' → Calls Tryz.prog 89 #[at0 B, .int .i64 n] V' fun e V2 => e = .returned (.tuple #[]) ∧ Mid c B Fb T i gg o cp l (f.setC 1 0) (AS g t (ws.set 0 (nextW (f.r.getD 0 0) (f.r.getD 1 0))) (st + 1) (G.then c.nd.toNat 0 n) (upd ts i { ts i with fr := l ++ [(f.setC 1 0)] })) X W V2) := Lib.hid fun V' h' => h'.calls fun X' m => atook hc m n
  have HQ : Hid (∀ V', Mid c B Fb T i gg o cp l (f.setC 1 0) (AS g t (ws.set 0 (nextW (f.r.getD 0 0) (f.r.getD 1 0))) (st + 1) (G.then c.nd.toNat 0 n) (upd ts i { ts i with fr := l ++ [(f.setC 1 0)] })) X W V' → Calls Tryz.prog 70 #[.pointer (some ⟨T, i * 10, none⟩), .slice (some ⟨V'.heap.size, 0, none⟩) 1 1] (V'.alloc (.cells #[.int .u64 n] 24)) fun e V2 => e = .returned (.tuple #[]) ∧ MacT c B Fb T (AS g t (ws.set 0 (nextW (f.r.getD 0 0) (f.r.getD 1 0))) (st + 1) (G.then c.nd.toNat 0 n) (upd ts i ((ts i).told l n 0 0))) X W V2) := Lib.hid fun V' h' => by
    have := h'.popOne hi hll n n0.1 (by omega)
    simp only [upd_upd, upd_same] at this
    exact this
  have KP := fun V' => ptr_any (f.r.getD 0 0) V' r0.1 r0.2
  rw [hn] at KP
  have nw : IntKind.i64.wrap n = n := IntWalk.i64_in _ (by omega)
  have nw2 : IntKind.u64.wrap n = n := IntWalk.u64_in _ (by omega)
  have N0 := Lib.hid n0
  clear h r0 r1 r9 hs hl hc z3 hw n0
  generalize (ws.set 0 (nextW (f.r.getD 0 0) (f.r.getD 1 0))) = ws2 at *
  clear hn
  generalize hy : f.r.getD 0 0 = y at *
  generalize hz : f.r.getD 1 0 = z at *
  have HY := Lib.hid (And.intro hy hz)
  clear hy hz
  go_enter Tryz.func74, Tryz.ntmps74
  go_wp2_with fail
  refine (KP _).mono ?_
  rintro e v ⟨rfl, rfl⟩
  have fz := HM.out.2.1.fz
  go_wp2_with fail
  go_region_with (go_at_call 88; refine (HL.out _ (HX.out _ HM.out).drew).mono ?_; rintro e V2 ⟨rfl, hM2⟩; have q2 := hM2.2.1.reg 0 (by omega); have HM2 := Lib.hid hM2; clear hM2)
  all_goals
    go_wp2_with fail
    refine (HT.out _ HM2.out).mono ?_
    rintro e V3 ⟨rfl, hM3⟩
    have HM3 := Lib.hid hM3
    clear hM3
    go_wp2_with fail
    refine (HQ.out _ HM3.out).mono ?_
    rintro e V4 ⟨rfl, hv⟩
    have HV := Lib.hid hv
    clear hv
    go_wp2
    go_end0
    exact ⟨rfl, HV.out⟩
theorem alloc_no (hc : c.Ok) (h : Mid c B Fb T i gg o cp l f (AS g t ws st G ts) X W V) (hi : i < c.th.toNat) (ho : l.length * 12 = o) (hll : l.length ≤ 1000) (hl : ws.length = c.size.toNat) (hs : 0 ≤ st ∧ st ≤ 1000000)
    (hp : f.pc = 2) (r0 : 0 ≤ f.r.getD 0 0 ∧ f.r.getD 0 0 < 18446744073709551616) (r1 : 0 ≤ f.r.getD 1 0 ∧ f.r.getD 1 0 < 18446744073709551616) {n : Int} (hn : f.r.getD 0 0 / 2 % 65536 = n) (n0 : 0 ≤ n ∧ n ≤ 1000) (r9 : f.r.getD 1 0 < 9223372036854775808) (hw : wordAt ws 0 ≠ f.r.getD 0 0) :
    Calls Tryz.prog 74 #[at0 B, .pointer (some ⟨T, i * 10, none⟩), .pointer (some ⟨gg, o, none⟩)] V fun e V' => e = .returned (.tuple #[]) ∧
      MacT c B Fb T (AS g t ws (st + 1) G (upd ts i { ts i with fr := l ++ [(f.setC 1 0)] })) X W V' := by
  have cs := h.cells
  rw [hp] at cs
  obtain ⟨c1, c2, c3, c4⟩ := cs
  have z3 : 0 < c.o3 ∧ c.o3 ≤ 924 := by have := hc.steps; omega
  have lg := h.2.1.lt
  have HM := Lib.hid h
  have HX : Hid (∀ V', Mid c B Fb T i gg o cp l f (AS g t ws st G ts) X W V' → Mid c B Fb T i gg o cp l (f.setC 1 0) (AS g t ws st G (upd ts i { ts i with fr := l ++ [(f.setC 1 0)] })) X W (V'.setCell ⟨gg, o + 1, none⟩ (.int .i64 0))) := Lib.hid fun V' h' => by
    have := (h'.setC hi ho 1 (by omega) 0)
    exact this
  have HL : Hid (∀ V', Mid c B Fb T i gg o cp l (f.setC 1 0) (AS g t ws st G (upd ts i { ts i with fr := l ++ [(f.setC 1 0)] })) X W V' → Calls Tryz.prog 88 #[at0 B, .int .u64 (f.r.getD 0 0), .int .u64 (f.r.getD 1 0)] V' fun e V2 => e = .returned (.bool false) ∧ Mid c B Fb T i gg o cp l (f.setC 1 0) (AS g t ws (st + 1) G (upd ts i { ts i with fr := l ++ [(f.setC 1 0)] })) X W V2) := Lib.hid fun V' h' => h'.calls fun X' m => lead_no hc m hl hs _ _ r0.1 r0.2 r1.1 r9 hw
  have KP := fun V' => ptr_any (f.r.getD 0 0) V' r0.1 r0.2
  rw [hn] at KP
  have nw : IntKind.i64.wrap n = n := IntWalk.i64_in _ (by omega)
  have nw2 : IntKind.u64.wrap n = n := IntWalk.u64_in _ (by omega)
  have N0 := Lib.hid n0
  clear h r0 r1 r9 hs hl hc z3 hw n0
  clear hn
  generalize hy : f.r.getD 0 0 = y at *
  generalize hz : f.r.getD 1 0 = z at *
  have HY := Lib.hid (And.intro hy hz)
  clear hy hz
  go_enter Tryz.func74, Tryz.ntmps74
  go_wp2_with fail
  refine (KP _).mono ?_
  rintro e v ⟨rfl, rfl⟩
  have fz := HM.out.2.1.fz
  go_wp2_with fail
  go_region_with (go_at_call 88; refine (HL.out _ (HX.out _ HM.out).drew).mono ?_; rintro e V2 ⟨rfl, hM2⟩; have q2 := hM2.2.1.reg 0 (by omega); have HM2 := Lib.hid hM2; clear hM2)
  all_goals
    go_wp2
    go_end0
    exact ⟨rfl, HM2.out.1⟩
set_option maxHeartbeats 4000000 in
theorem release_link (hc : c.Ok) (h : Mid c B Fb T i gg o cp l f (AS g t ws st G ts) X W V) (hi : i < c.th.toNat) (ho : l.length * 12 = o) (hll : l.length ≤ 1000) (hl : ws.length = c.size.toNat) (hs : 0 ≤ st ∧ st ≤ 1000000)
    (hp : f.pc = 1) (r0 : 0 ≤ f.r.getD 0 0 ∧ f.r.getD 0 0 < 18446744073709551616) (r1 : 0 ≤ f.r.getD 1 0 ∧ f.r.getD 1 0 < 18446744073709551616) {n : Int} (hn : f.r.getD 0 0 = n) (n0 : 1 ≤ n) (n1 : n ≤ c.nd) :
    Calls Tryz.prog 75 #[at0 B, .pointer (some ⟨T, i * 10, none⟩), .pointer (some ⟨gg, o, none⟩)] V fun e V' => e = .returned (.tuple #[]) ∧
      MacT c B Fb T (AS g t (ws.set (c.link n).toNat (f.r.getD 1 0 / 2 % 65536)) (st + 1) G (upd ts i { ts i with fr := l ++ [(f.setC 1 2)] })) X W V' := by
  have cs := h.cells
  rw [hp] at cs
  obtain ⟨c1, c2, c3, c4⟩ := cs
  have z3 : 0 < c.o3 ∧ c.o3 ≤ 924 := by have := hc.steps; omega
  have lg := h.2.1.lt
  have HM := Lib.hid h
  have ll := link_low hc n0 n1
  have HL : Hid (∀ V', Mid c B Fb T i gg o cp l f (AS g t ws st G ts) X W V' → Calls Tryz.prog 68 #[at0 B, .int .i64 (c.link n), .int .u64 (f.r.getD 1 0 / 2 % 65536)] V' fun e V2 => e = .returned (.tuple #[]) ∧ Mid c B Fb T i gg o cp l f (AS g t (ws.set (c.link n).toNat (f.r.getD 1 0 / 2 % 65536)) (st + 1) G ts) X W V2) := Lib.hid fun V' h' => h'.calls fun X' m => astore hc m hl hs _ ll.1 ll.2
  have HP : Hid (∀ V', Mid c B Fb T i gg o cp l f (AS g t ws st G ts) X W V' → Calls Tryz.prog 10 #[at0 B] V' fun e V2 => e = .returned c.v ∧ Below V'.heap.size V' V2) := Lib.hid fun V' h' => by
    obtain ⟨⟨X', k, l', m⟩, -⟩ := h'
    exact m.plan
  have HK : Hid (∀ V', Calls Tryz.prog 64 #[c.v, .int .i64 n] V' fun e V2 => e = .returned (.int .i64 (c.link n)) ∧ Below V'.heap.size V' V2) := Lib.hid fun V' => P.link_ok c n V' hc (by have := hc.nd; unfold P.I64; omega)
  have HX : Hid (∀ V', Mid c B Fb T i gg o cp l f (AS g t (ws.set (c.link n).toNat (f.r.getD 1 0 / 2 % 65536)) (st + 1) G ts) X W V' → Mid c B Fb T i gg o cp l (f.setC 1 2) (AS g t (ws.set (c.link n).toNat (f.r.getD 1 0 / 2 % 65536)) (st + 1) G (upd ts i { ts i with fr := l ++ [(f.setC 1 2)] })) X W (V'.setCell ⟨gg, o + 1, none⟩ (.int .i64 2))) := Lib.hid fun V' h' => by
    have := (h'.setC hi ho 1 (by omega) 2)
    exact this
  have KP := fun V' => ptr_any (f.r.getD 1 0) V' r1.1 r1.2
  have nw : IntKind.i64.wrap n = n := IntWalk.i64_in _ (by have := hc.nd; omega)
  clear h r0 r1 hs hl hc z3 ll n0 n1
  subst hn
  generalize hwx : (ws.set (c.link (f.r.getD 0 0)).toNat (f.r.getD 1 0 / 2 % 65536)) = ws2 at *
  clear hwx
  generalize hy : f.r.getD 0 0 = n at *
  generalize c.link n = a at *
  generalize hz : f.r.getD 1 0 = z at *
  have HY := Lib.hid (And.intro hy hz)
  have hb0 : 0 ≤ z / 2 % 65536 ∧ z / 2 % 65536 < 65536 := by omega
  generalize z / 2 % 65536 = p at *
  have nw2 : IntKind.u64.wrap p = p := IntWalk.u64_in _ (by omega)
  clear hb0
  have HS : Hid (∀ (V' : World) (ws : List Int) (st : Int), Mid c B Fb T i gg o cp l f (AS g t ws st G ts) X W V' → V'.cell? ⟨gg, o + 2 + 1, none⟩ = some (.int .u64 z)) := Lib.hid fun V' ws st h' => by
    have := h'.2.1.reg 1 (by omega)
    rwa [HY.out.2] at this
  clear hy hz
  go_enter Tryz.func75, Tryz.ntmps75
  go_wp2_with fail
  have hM := HM.out.drew
  go_region_held3 (fun V' => V'.cell? ⟨gg, o + 2 + 1, none⟩ = some (.int .u64 z))
    (first | exact HS.out _ _ _ (by assumption) | go_keep)
    (first | (go_at_call 10; refine (HP.out _ hM).mono ?_; rintro e V1 ⟨rfl, hb1⟩; have hM1 := Mid.below hM hb1; clear hb1) | (go_at_call 64; refine (HK.out _).mono ?_; rintro e V3 ⟨rfl, hb3⟩; have hM3 := Mid.below hM1 hb3; clear hb3) | (go_at_call 67; refine (KP _).mono ?_; rintro e v ⟨rfl, rfl⟩) | (go_at_call 68; refine (HL.out _ hM3).mono ?_; rintro e V2 ⟨rfl, hM2⟩))
  all_goals
    have lg2 := hM2.2.1.lt
    have fz2 := hM2.2.1.fz
    have p2 := hM2.2.1.pc
    have HM2 := Lib.hid hM2
    clear hM2
  all_goals
    go_wp2
    go_end0
    exact ⟨rfl, (HX.out _ HM2.out).1⟩
theorem release_yes (hc : c.Ok) (h : Mid c B Fb T i gg o cp l f (AS g t ws st G ts) X W V) (hi : i < c.th.toNat) (ho : l.length * 12 = o) (hll : l.length ≤ 1000) (hl : ws.length = c.size.toNat) (hs : 0 ≤ st ∧ st ≤ 1000000)
    (hp : f.pc = 2) (r0 : 0 ≤ f.r.getD 0 0 ∧ f.r.getD 0 0 < 18446744073709551616) (r1 : 0 ≤ f.r.getD 1 0 ∧ f.r.getD 1 0 < 18446744073709551616) {n : Int} (hn : f.r.getD 0 0 = n) (n0 : 0 ≤ n ∧ n ≤ 1000) (r9 : f.r.getD 0 0 < 9223372036854775808) (hw : wordAt ws 0 = f.r.getD 1 0) :
    Calls Tryz.prog 75 #[at0 B, .pointer (some ⟨T, i * 10, none⟩), .pointer (some ⟨gg, o, none⟩)] V fun e V' => e = .returned (.tuple #[]) ∧
      MacT c B Fb T (AS g t (ws.set 0 (nextW (f.r.getD 1 0) (f.r.getD 0 0))) (st + 1) (G.then c.nd.toNat 2 n) (upd ts i ((ts i).told l n 0 0))) X W V' := by
  have cs := h.cells
  rw [hp] at cs
  obtain ⟨c1, c2, c3, c4⟩ := cs
  have z3 : 0 < c.o3 ∧ c.o3 ≤ 924 := by have := hc.steps; omega
  have lg := h.2.1.lt
  have HM := Lib.hid h
  have HX : Hid (∀ V', Mid c B Fb T i gg o cp l f (AS g t ws st G ts) X W V' → Mid c B Fb T i gg o cp l (f.setC 1 0) (AS g t ws st G (upd ts i { ts i with fr := l ++ [(f.setC 1 0)] })) X W (V'.setCell ⟨gg, o + 1, none⟩ (.int .i64 0))) := Lib.hid fun V' h' => by
    have := (h'.setC hi ho 1 (by omega) 0)
    exact this
  have HL : Hid (∀ V', Mid c B Fb T i gg o cp l (f.setC 1 0) (AS g t ws st G (upd ts i { ts i with fr := l ++ [(f.setC 1 0)] })) X W V' → Calls Tryz.prog 88 #[at0 B, .int .u64 (f.r.getD 1 0), .int .u64 (f.r.getD 0 0)] V' fun e V2 => e = .returned (.bool true) ∧ Mid c B Fb T i gg o cp l (f.setC 1 0) (AS g t (ws.set 0 (nextW (f.r.getD 1 0) (f.r.getD 0 0))) (st + 1) G (upd ts i { ts i with fr := l ++ [(f.setC 1 0)] })) X W V2) := Lib.hid fun V' h' => h'.calls fun X' m => lead_yes hc m hl hs _ _ r1.1 r1.2 r0.1 r9 hw
  have HT : Hid (∀ V', Mid c B Fb T i gg o cp l (f.setC 1 0) (AS g t (ws.set 0 (nextW (f.r.getD 1 0) (f.r.getD 0 0))) (st + 1) G (upd ts i { ts i with fr := l ++ [(f.setC 1 0)] })) X W V' → Calls Tryz.prog 90 #[at0 B, .int .i64 n] V' fun e V2 => e = .returned (.tuple #[]) ∧ Mid c B Fb T i gg o cp l (f.setC 1 0) (AS g t (ws.set 0 (nextW (f.r.getD 1 0) (f.r.getD 0 0))) (st + 1) (G.then c.nd.toNat 2 n) (upd ts i { ts i with fr := l ++ [(f.setC 1 0)] })) X W V2) := Lib.hid fun V' h' => h'.calls fun X' m => afreed hc m n
  have HQ : Hid (∀ V', Mid c B Fb T i gg o cp l (f.setC 1 0) (AS g t (ws.set 0 (nextW (f.r.getD 1 0) (f.r.getD 0 0))) (st + 1) (G.then c.nd.toNat 2 n) (upd ts i { ts i with fr := l ++ [(f.setC 1 0)] })) X W V' → Calls Tryz.prog 70 #[.pointer (some ⟨T, i * 10, none⟩), .slice (some ⟨V'.heap.size, 0, none⟩) 1 1] (V'.alloc (.cells #[.int .u64 n] 24)) fun e V2 => e = .returned (.tuple #[]) ∧ MacT c B Fb T (AS g t (ws.set 0 (nextW (f.r.getD 1 0) (f.r.getD 0 0))) (st + 1) (G.then c.nd.toNat 2 n) (upd ts i ((ts i).told l n 0 0))) X W V2) := Lib.hid fun V' h' => by
    have := h'.popOne hi hll n n0.1 (by omega)
    simp only [upd_upd, upd_same] at this
    exact this
  have nw : IntKind.i64.wrap n = n := IntWalk.i64_in _ (by omega)
  have nw2 : IntKind.u64.wrap n = n := IntWalk.u64_in _ (by omega)
  have N0 := Lib.hid n0
  clear h r0 r1 r9 hs hl hc z3 hw n0
  generalize (ws.set 0 (nextW (f.r.getD 1 0) (f.r.getD 0 0))) = ws2 at *
  subst hn
  generalize hy : f.r.getD 0 0 = n at *
  generalize hz : f.r.getD 1 0 = z at *
  have HY := Lib.hid (And.intro hy hz)
  clear hy hz
  go_enter Tryz.func75, Tryz.ntmps75
  have fz := HM.out.2.1.fz
  go_wp2_with fail
  go_region_with (go_at_call 88; refine (HL.out _ (HX.out _ HM.out).drew).mono ?_; rintro e V2 ⟨rfl, hM2⟩; have q2 := hM2.2.1.reg 0 (by omega); have HM2 := Lib.hid hM2; clear hM2)
  all_goals
    go_wp2_with fail
    refine (HT.out _ HM2.out).mono ?_
    rintro e V3 ⟨rfl, hM3⟩
    have q3 : V3.cell? ⟨gg, o + 2, none⟩ = some (.int .u64 (f.r.getD 0 0)) := hM3.2.1.reg 0 (by omega)
    rw [HY.out.1] at q3
    have HM3 := Lib.hid hM3
    clear hM3
    go_wp2_with fail
    refine (HQ.out _ HM3.out).mono ?_
    rintro e V4 ⟨rfl, hv⟩
    have HV := Lib.hid hv
    clear hv
    go_wp2
    go_end0
    exact ⟨rfl, HV.out⟩
theorem release_no (hc : c.Ok) (h : Mid c B Fb T i gg o cp l f (AS g t ws st G ts) X W V) (hi : i < c.th.toNat) (ho : l.length * 12 = o) (hll : l.length ≤ 1000) (hl : ws.length = c.size.toNat) (hs : 0 ≤ st ∧ st ≤ 1000000)
    (hp : f.pc = 2) (r0 : 0 ≤ f.r.getD 0 0 ∧ f.r.getD 0 0 < 18446744073709551616) (r1 : 0 ≤ f.r.getD 1 0 ∧ f.r.getD 1 0 < 18446744073709551616) {n : Int} (hn : f.r.getD 0 0 = n) (n0 : 0 ≤ n ∧ n ≤ 1000) (r9 : f.r.getD 0 0 < 9223372036854775808) (hw : wordAt ws 0 ≠ f.r.getD 1 0) :
    Calls Tryz.prog 75 #[at0 B, .pointer (some ⟨T, i * 10, none⟩), .pointer (some ⟨gg, o, none⟩)] V fun e V' => e = .returned (.tuple #[]) ∧
      MacT c B Fb T (AS g t ws (st + 1) G (upd ts i { ts i with fr := l ++ [(f.setC 1 0)] })) X W V' := by
  have cs := h.cells
  rw [hp] at cs
  obtain ⟨c1, c2, c3, c4⟩ := cs
  have z3 : 0 < c.o3 ∧ c.o3 ≤ 924 := by have := hc.steps; omega
  have lg := h.2.1.lt
  have HM := Lib.hid h
  have HX : Hid (∀ V', Mid c B Fb T i gg o cp l f (AS g t ws st G ts) X W V' → Mid c B Fb T i gg o cp l (f.setC 1 0) (AS g t ws st G (upd ts i { ts i with fr := l ++ [(f.setC 1 0)] })) X W (V'.setCell ⟨gg, o + 1, none⟩ (.int .i64 0))) := Lib.hid fun V' h' => by
    have := (h'.setC hi ho 1 (by omega) 0)
    exact this
  have HL : Hid (∀ V', Mid c B Fb T i gg o cp l (f.setC 1 0) (AS g t ws st G (upd ts i { ts i with fr := l ++ [(f.setC 1 0)] })) X W V' → Calls Tryz.prog 88 #[at0 B, .int .u64 (f.r.getD 1 0), .int .u64 (f.r.getD 0 0)] V' fun e V2 => e = .returned (.bool false) ∧ Mid c B Fb T i gg o cp l (f.setC 1 0) (AS g t ws (st + 1) G (upd ts i { ts i with fr := l ++ [(f.setC 1 0)] })) X W V2) := Lib.hid fun V' h' => h'.calls fun X' m => lead_no hc m hl hs _ _ r1.1 r1.2 r0.1 r9 hw
  have nw : IntKind.i64.wrap n = n := IntWalk.i64_in _ (by omega)
  have nw2 : IntKind.u64.wrap n = n := IntWalk.u64_in _ (by omega)
  have N0 := Lib.hid n0
  clear h r0 r1 r9 hs hl hc z3 hw n0
  subst hn
  generalize hy : f.r.getD 0 0 = n at *
  generalize hz : f.r.getD 1 0 = z at *
  have HY := Lib.hid (And.intro hy hz)
  clear hy hz
  go_enter Tryz.func75, Tryz.ntmps75
  have fz := HM.out.2.1.fz
  go_wp2_with fail
  go_region_with (go_at_call 88; refine (HL.out _ (HX.out _ HM.out).drew).mono ?_; rintro e V2 ⟨rfl, hM2⟩; have q2 := hM2.2.1.reg 0 (by omega); have HM2 := Lib.hid hM2; clear hM2)
  all_goals
    go_wp2
    go_end0
    exact ⟨rfl, HM2.out.1⟩
end Go.Proofs.YtemikojaldoofaaGreat
