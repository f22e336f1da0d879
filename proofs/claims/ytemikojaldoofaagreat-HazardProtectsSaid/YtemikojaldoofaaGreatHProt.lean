/- What a bit of Protect and of Clear does. Printed by haz_prot.py. -/
import Derived.Test.YtemikojaldoofaaGreatADo
namespace Go.Proofs.YtemikojaldoofaaGreat
open Go.ChangeShapes Go.WideShapes Go.ChangeAt Go.RowKit
set_option linter.unusedVariables false
set_option maxRecDepth 20000

variable {c : P.Cf} {B Fb T : Nat} {X : Nat → Prop} {W W' V V' : World} {g t : Nat} {ws : List Int} {st : Int} {G : G.GS} {ts : Nat → Th} {i gg o cp : Nat} {l : List Fr} {f : Fr} {σ σ' : Sg}
theorem hazard_ok (c : P.Cf) (a b : Int) (w : World) (h : c.Ok) (ha : P.I64 a) (hb : P.I64 b) :
    Calls Tryz.prog 14 #[c.v, .int .i64 a, .int .i64 b] w fun e w' => e = .returned (.int .i64 (c.hazard a b)) ∧ Below w.heap.size w w' := by
  go_enter Tryz.func14, Tryz.ntmps14
  go_wp2_with fail
  refine (P.addr1_ok c a b _ h ha hb).mono ?_
  rintro e V ⟨rfl, hV⟩
  obtain ⟨-, h0⟩ := P.boxed c hV
  go_wp2
  go_ret
  exact ⟨rfl, h0⟩
/-- Where a slot lies. -/
theorem haz_at (hc : c.Ok) {k s : Int} (h0 : 0 ≤ k) (h1 : k < c.th) (h2 : 0 ≤ s) (h3 : s < c.slots) : c.hazard k s = 8 + k * c.slots + s ∧ 8 ≤ c.hazard k s ∧ c.hazard k s < c.o2 := by
  have e : c.hazard k s = 8 + k * c.slots + s := by
    unfold P.Cf.hazard
    rw [P.addrN_yes ⟨h0, by omega, h2, h3⟩, show k - 0 = k by omega]
  have := P.row_in (S := c.slots) (T := c.th) h0 h1 h2 h3
  have e2 : c.o2 = 8 + c.th * c.slots := rfl
  exact ⟨e, by omega, by omega⟩
theorem haz_low (hc : c.Ok) {k s : Int} (h0 : 0 ≤ k) (h1 : k < c.th) (h2 : 0 ≤ s) (h3 : s < c.slots) : 0 ≤ c.hazard k s ∧ c.hazard k s < c.o3 := by
  have := haz_at hc h0 h1 h2 h3
  have := hc.steps
  omega
/-- The thread's number lies in its first cell. -/
def IdOk (σ : Sg) : Prop := ∀ i, (σ.ts i).v 0 = .int .i64 i
theorem Mid.regs (h : Mid c B Fb T i gg o cp l f σ X W V) : V.cell? ⟨gg, o + 2 + 2, none⟩ = some (.int .u64 (f.r.getD 2 0)) := h.2.1.reg 2 (by omega)
theorem Mid.id (h : Mid c B Fb T i gg o cp l f σ X W V) (hi : i < c.th.toNat) (hid : (σ.ts i).v 0 = .int .i64 i) : V.cell? ⟨T, i * 10, none⟩ = some (.int .i64 i) := by
  obtain ⟨⟨X', k, l', m⟩, -⟩ := h
  rw [← hid]
  exact (m.oth hi (.inl rfl)).1
theorem Mid.plan (h : Mid c B Fb T i gg o cp l f σ X W V) : Calls Tryz.prog 10 #[at0 B] V fun e V2 => e = .returned c.v ∧ Below V.heap.size V V2 := by
  obtain ⟨⟨X', k, l', m⟩, -⟩ := h
  exact m.plan

theorem prot_none (hc : c.Ok) (h : Mid c B Fb T i gg o cp l f (AS g t ws st G ts) X W V) (hi : i < c.th.toNat) (ho : l.length * 12 = o) (hll : l.length ≤ 1000) (hl : ws.length = c.size.toNat) (hs : 0 ≤ st ∧ st ≤ 1000000)
    (hp : f.pc = 0) {a : Int} (ha : f.r.getD 1 0 = a) (a0 : 0 ≤ a) (a1 : a < c.o3) {x : Int} (hx : wordAt ws a.toNat = x) (x0 : 0 ≤ x) (x1 : x < 18446744073709551616) (hz : x / 2 % 65536 = 0) :
    Calls Tryz.prog 50 #[at0 B, .pointer (some ⟨T, i * 10, none⟩), .pointer (some ⟨gg, o, none⟩)] V fun e V' => e = .returned (.tuple #[]) ∧
      MacT c B Fb T (AS g t ws (st + 1) G (upd ts i ((ts i).told l x 0 0))) X W V' := by
  have cs := h.cells
  rw [hp, ha] at cs
  obtain ⟨c1, c2, c3, c4⟩ := cs
  have c5 := h.regs
  have lg := h.2.1.lt
  have hwr : IntKind.i64.wrap a = a := IntWalk.i64_in _ (by have := hc.steps; omega)
  have HM := Lib.hid h
  have HL : Hid (∀ V', Mid c B Fb T i gg o cp l f (AS g t ws st G ts) X W V' → Calls Tryz.prog 69 #[at0 B, .int .i64 a] V' fun e V2 => e = .returned (.int .u64 x) ∧ Mid c B Fb T i gg o cp l f (AS g t ws (st + 1) G ts) X W V2) := Lib.hid fun V' h' => by
    have := h'.calls fun X' m => aload hc m hl hs a0 a1
    rw [hx] at this
    exact this
  have HQ : Hid (∀ V', Mid c B Fb T i gg o cp l f (AS g t ws (st + 1) G ts) X W V' → Calls Tryz.prog 70 #[.pointer (some ⟨T, i * 10, none⟩), .slice (some ⟨V'.heap.size, 0, none⟩) 1 1] (V'.alloc (.cells #[.int .u64 x] 24)) fun e V2 => e = .returned (.tuple #[]) ∧ MacT c B Fb T (AS g t ws (st + 1) G (upd ts i ((ts i).told l x 0 0))) X W V2) := Lib.hid fun V' h' => h'.popOne hi hll x x0 x1
  have KP := fun V' => ptr_any x V' x0 x1
  rw [hz] at KP
  clear h hs hl hc x0 x1 ha a0 a1 hx
  generalize hy0 : f.r.getD 2 0 = y at *
  go_enter Tryz.func50, Tryz.ntmps50
  go_wp2_with fail
  refine (HL.out _ HM.out).mono ?_
  rintro e V2 ⟨rfl, hM2⟩
  have q2 := hM2.cells
  have d5 := hM2.regs
  have lg2 := hM2.2.1.lt
  have fz2 := hM2.2.1.fz
  obtain ⟨d1, d2, d3, d4⟩ := q2
  rw [hp] at d1
  rw [hy0] at d5
  have HM2 := Lib.hid hM2
  clear hM2 HL HM c1 c2 c3 c4 c5
  go_wp2_with fail
  refine (KP _).mono ?_
  rintro e v ⟨rfl, rfl⟩
  clear KP
  have HY := Lib.hid (HQ.out _ HM2.out)
  clear HQ HM2
  go_wp2_with fail
  refine HY.out.mono ?_
  rintro e v ⟨rfl, hv⟩
  have HV := Lib.hid hv
  clear hv HY
  go_wp2
  exact bodyPost_ret (v := .tuple #[]) (by simp [results, Tryz.results50, go_sem]) rfl ⟨rfl, HV.out⟩

theorem prot_read (hc : c.Ok) (h : Mid c B Fb T i gg o cp l f (AS g t ws st G ts) X W V) (hi : i < c.th.toNat) (ho : l.length * 12 = o) (hll : l.length ≤ 1000) (hl : ws.length = c.size.toNat) (hs : 0 ≤ st ∧ st ≤ 1000000)
    (hp : f.pc = 0) {a : Int} (ha : f.r.getD 1 0 = a) (a0 : 0 ≤ a) (a1 : a < c.o3) {x : Int} (hx : wordAt ws a.toNat = x) (x0 : 0 ≤ x) (x1 : x < 18446744073709551616) (hz : x / 2 % 65536 ≠ 0) :
    Calls Tryz.prog 50 #[at0 B, .pointer (some ⟨T, i * 10, none⟩), .pointer (some ⟨gg, o, none⟩)] V fun e V' => e = .returned (.tuple #[]) ∧
      MacT c B Fb T (AS g t ws (st + 1) G (upd ts i { ts i with fr := l ++ [((f.setC 4 x).setC 1 1)] })) X W V' := by
  have cs := h.cells
  rw [hp, ha] at cs
  obtain ⟨c1, c2, c3, c4⟩ := cs
  have c5 := h.regs
  have lg := h.2.1.lt
  have hwr : IntKind.i64.wrap a = a := IntWalk.i64_in _ (by have := hc.steps; omega)
  have HM := Lib.hid h
  have HL : Hid (∀ V', Mid c B Fb T i gg o cp l f (AS g t ws st G ts) X W V' → Calls Tryz.prog 69 #[at0 B, .int .i64 a] V' fun e V2 => e = .returned (.int .u64 x) ∧ Mid c B Fb T i gg o cp l f (AS g t ws (st + 1) G ts) X W V2) := Lib.hid fun V' h' => by
    have := h'.calls fun X' m => aload hc m hl hs a0 a1
    rw [hx] at this
    exact this
  have HX : Hid (∀ V', Mid c B Fb T i gg o cp l f (AS g t ws (st + 1) G ts) X W V' → Mid c B Fb T i gg o cp l ((f.setC 4 x).setC 1 1) (AS g t ws (st + 1) G (upd ts i { ts i with fr := l ++ [((f.setC 4 x).setC 1 1)] })) X W ((V'.setCell ⟨gg, o + 2 + 2, none⟩ (.int .u64 x)).setCell ⟨gg, o + 1, none⟩ (.int .i64 1))) := Lib.hid fun V' h' => by
    have := ((h'.setC hi ho 4 (by omega) x).setC hi ho 1 (by omega) 1)
    simp only [upd_upd, upd_same] at this
    exact this
  have KP := fun V' => ptr_any x V' x0 x1
  have hz2 : (x / 2 % 65536 == 0) = false := by simpa using hz
  clear h hs hl hc x0 x1 ha a0 a1 hx
  generalize hy0 : f.r.getD 2 0 = y at *
  generalize x / 2 % 65536 = p at *
  clear hz
  go_enter Tryz.func50, Tryz.ntmps50
  go_wp2_with fail
  refine (HL.out _ HM.out).mono ?_
  rintro e V2 ⟨rfl, hM2⟩
  have q2 := hM2.cells
  have d5 := hM2.regs
  have lg2 := hM2.2.1.lt
  have fz2 := hM2.2.1.fz
  obtain ⟨d1, d2, d3, d4⟩ := q2
  rw [hp] at d1
  rw [hy0] at d5
  have HM2 := Lib.hid hM2
  clear hM2 HL HM c1 c2 c3 c4 c5
  go_wp2_with fail
  refine (KP _).mono ?_
  rintro e v ⟨rfl, rfl⟩
  clear KP
  go_wp2
  go_end0
  exact ⟨rfl, (HX.out _ HM2.out).1⟩

theorem prot_gone (hc : c.Ok) (h : Mid c B Fb T i gg o cp l f (AS g t ws st G ts) X W V) (hi : i < c.th.toNat) (ho : l.length * 12 = o) (hll : l.length ≤ 1000) (hl : ws.length = c.size.toNat) (hs : 0 ≤ st ∧ st ≤ 1000000)
    (hp : f.pc = 2) {a : Int} (ha : f.r.getD 1 0 = a) (a0 : 0 ≤ a) (a1 : a < c.o3) {x : Int} (hx : wordAt ws a.toNat = x) (x0 : 0 ≤ x) (x1 : x < 18446744073709551616) (hz : x / 2 % 65536 = 0) :
    Calls Tryz.prog 50 #[at0 B, .pointer (some ⟨T, i * 10, none⟩), .pointer (some ⟨gg, o, none⟩)] V fun e V' => e = .returned (.tuple #[]) ∧
      MacT c B Fb T (AS g t ws (st + 1) G (upd ts i ((ts i).told l x 0 0))) X W V' := by
  have cs := h.cells
  rw [hp, ha] at cs
  obtain ⟨c1, c2, c3, c4⟩ := cs
  have c5 := h.regs
  have lg := h.2.1.lt
  have hwr : IntKind.i64.wrap a = a := IntWalk.i64_in _ (by have := hc.steps; omega)
  have HM := Lib.hid h
  have HL : Hid (∀ V', Mid c B Fb T i gg o cp l f (AS g t ws st G ts) X W V' → Calls Tryz.prog 69 #[at0 B, .int .i64 a] V' fun e V2 => e = .returned (.int .u64 x) ∧ Mid c B Fb T i gg o cp l f (AS g t ws (st + 1) G ts) X W V2) := Lib.hid fun V' h' => by
    have := h'.calls fun X' m => aload hc m hl hs a0 a1
    rw [hx] at this
    exact this
  have HQ : Hid (∀ V', Mid c B Fb T i gg o cp l f (AS g t ws (st + 1) G ts) X W V' → Calls Tryz.prog 70 #[.pointer (some ⟨T, i * 10, none⟩), .slice (some ⟨V'.heap.size, 0, none⟩) 1 1] (V'.alloc (.cells #[.int .u64 x] 24)) fun e V2 => e = .returned (.tuple #[]) ∧ MacT c B Fb T (AS g t ws (st + 1) G (upd ts i ((ts i).told l x 0 0))) X W V2) := Lib.hid fun V' h' => h'.popOne hi hll x x0 x1
  have KP := fun V' => ptr_any x V' x0 x1
  rw [hz] at KP
  clear h hs hl hc x0 x1 ha a0 a1 hx
  generalize hy0 : f.r.getD 2 0 = y at *
  go_enter Tryz.func50, Tryz.ntmps50
  go_wp2_with fail
  refine (HL.out _ HM.out).mono ?_
  rintro e V2 ⟨rfl, hM2⟩
  have q2 := hM2.cells
  have d5 := hM2.regs
  have lg2 := hM2.2.1.lt
  have fz2 := hM2.2.1.fz
  obtain ⟨d1, d2, d3, d4⟩ := q2
  rw [hp] at d1
  rw [hy0] at d5
  have HM2 := Lib.hid hM2
  clear hM2 HL HM c1 c2 c3 c4 c5
  go_wp2_with fail
  refine (KP _).mono ?_
  rintro e v ⟨rfl, rfl⟩
  clear KP
  have HY := Lib.hid (HQ.out _ HM2.out)
  clear HQ HM2
  go_wp2_with fail
  refine HY.out.mono ?_
  rintro e v ⟨rfl, hv⟩
  have HV := Lib.hid hv
  clear hv HY
  go_wp2
  exact bodyPost_ret (v := .tuple #[]) (by simp [results, Tryz.results50, go_sem]) rfl ⟨rfl, HV.out⟩

theorem prot_same (hc : c.Ok) (h : Mid c B Fb T i gg o cp l f (AS g t ws st G ts) X W V) (hi : i < c.th.toNat) (ho : l.length * 12 = o) (hll : l.length ≤ 1000) (hl : ws.length = c.size.toNat) (hs : 0 ≤ st ∧ st ≤ 1000000)
    (hp : f.pc = 2) {a : Int} (ha : f.r.getD 1 0 = a) (a0 : 0 ≤ a) (a1 : a < c.o3) {x : Int} (hx : wordAt ws a.toNat = x) (x0 : 0 ≤ x) (x1 : x < 18446744073709551616) (hz : x / 2 % 65536 ≠ 0) (hy : x = f.r.getD 2 0) :
    Calls Tryz.prog 50 #[at0 B, .pointer (some ⟨T, i * 10, none⟩), .pointer (some ⟨gg, o, none⟩)] V fun e V' => e = .returned (.tuple #[]) ∧
      MacT c B Fb T (AS g t ws (st + 1) G (upd ts i ((ts i).told l x 0 0))) X W V' := by
  have cs := h.cells
  rw [hp, ha] at cs
  obtain ⟨c1, c2, c3, c4⟩ := cs
  have c5 := h.regs
  have lg := h.2.1.lt
  have hwr : IntKind.i64.wrap a = a := IntWalk.i64_in _ (by have := hc.steps; omega)
  have HM := Lib.hid h
  have HL : Hid (∀ V', Mid c B Fb T i gg o cp l f (AS g t ws st G ts) X W V' → Calls Tryz.prog 69 #[at0 B, .int .i64 a] V' fun e V2 => e = .returned (.int .u64 x) ∧ Mid c B Fb T i gg o cp l f (AS g t ws (st + 1) G ts) X W V2) := Lib.hid fun V' h' => by
    have := h'.calls fun X' m => aload hc m hl hs a0 a1
    rw [hx] at this
    exact this
  have HQ : Hid (∀ V', Mid c B Fb T i gg o cp l f (AS g t ws (st + 1) G ts) X W V' → Calls Tryz.prog 70 #[.pointer (some ⟨T, i * 10, none⟩), .slice (some ⟨V'.heap.size, 0, none⟩) 1 1] (V'.alloc (.cells #[.int .u64 x] 24)) fun e V2 => e = .returned (.tuple #[]) ∧ MacT c B Fb T (AS g t ws (st + 1) G (upd ts i ((ts i).told l x 0 0))) X W V2) := Lib.hid fun V' h' => h'.popOne hi hll x x0 x1
  have KP := fun V' => ptr_any x V' x0 x1
  have hz2 : (x / 2 % 65536 == 0) = false := by simpa using hz
  clear h hs hl hc x0 x1 ha a0 a1 hx
  generalize hy0 : f.r.getD 2 0 = y at *
  subst hy
  generalize x / 2 % 65536 = p at *
  clear hz
  go_enter Tryz.func50, Tryz.ntmps50
  go_wp2_with fail
  refine (HL.out _ HM.out).mono ?_
  rintro e V2 ⟨rfl, hM2⟩
  have q2 := hM2.cells
  have d5 := hM2.regs
  have lg2 := hM2.2.1.lt
  have fz2 := hM2.2.1.fz
  obtain ⟨d1, d2, d3, d4⟩ := q2
  rw [hp] at d1
  rw [hy0] at d5
  have HM2 := Lib.hid hM2
  clear hM2 HL HM c1 c2 c3 c4 c5
  go_wp2_with fail
  refine (KP _).mono ?_
  rintro e v ⟨rfl, rfl⟩
  clear KP
  have HY := Lib.hid (HQ.out _ HM2.out)
  clear HQ HM2
  go_wp2_with fail
  refine HY.out.mono ?_
  rintro e v ⟨rfl, hv⟩
  have HV := Lib.hid hv
  clear hv HY
  go_wp2
  exact bodyPost_ret (v := .tuple #[]) (by simp [results, Tryz.results50, go_sem]) rfl ⟨rfl, HV.out⟩

theorem prot_other (hc : c.Ok) (h : Mid c B Fb T i gg o cp l f (AS g t ws st G ts) X W V) (hi : i < c.th.toNat) (ho : l.length * 12 = o) (hll : l.length ≤ 1000) (hl : ws.length = c.size.toNat) (hs : 0 ≤ st ∧ st ≤ 1000000)
    (hp : f.pc = 2) {a : Int} (ha : f.r.getD 1 0 = a) (a0 : 0 ≤ a) (a1 : a < c.o3) {x : Int} (hx : wordAt ws a.toNat = x) (x0 : 0 ≤ x) (x1 : x < 18446744073709551616) (hz : x / 2 % 65536 ≠ 0) (hy : x ≠ f.r.getD 2 0) :
    Calls Tryz.prog 50 #[at0 B, .pointer (some ⟨T, i * 10, none⟩), .pointer (some ⟨gg, o, none⟩)] V fun e V' => e = .returned (.tuple #[]) ∧
      MacT c B Fb T (AS g t ws (st + 1) G (upd ts i { ts i with fr := l ++ [((f.setC 4 x).setC 1 1)] })) X W V' := by
  have cs := h.cells
  rw [hp, ha] at cs
  obtain ⟨c1, c2, c3, c4⟩ := cs
  have c5 := h.regs
  have lg := h.2.1.lt
  have hwr : IntKind.i64.wrap a = a := IntWalk.i64_in _ (by have := hc.steps; omega)
  have HM := Lib.hid h
  have HL : Hid (∀ V', Mid c B Fb T i gg o cp l f (AS g t ws st G ts) X W V' → Calls Tryz.prog 69 #[at0 B, .int .i64 a] V' fun e V2 => e = .returned (.int .u64 x) ∧ Mid c B Fb T i gg o cp l f (AS g t ws (st + 1) G ts) X W V2) := Lib.hid fun V' h' => by
    have := h'.calls fun X' m => aload hc m hl hs a0 a1
    rw [hx] at this
    exact this
  have HX : Hid (∀ V', Mid c B Fb T i gg o cp l f (AS g t ws (st + 1) G ts) X W V' → Mid c B Fb T i gg o cp l ((f.setC 4 x).setC 1 1) (AS g t ws (st + 1) G (upd ts i { ts i with fr := l ++ [((f.setC 4 x).setC 1 1)] })) X W ((V'.setCell ⟨gg, o + 2 + 2, none⟩ (.int .u64 x)).setCell ⟨gg, o + 1, none⟩ (.int .i64 1))) := Lib.hid fun V' h' => by
    have := ((h'.setC hi ho 4 (by omega) x).setC hi ho 1 (by omega) 1)
    simp only [upd_upd, upd_same] at this
    exact this
  have KP := fun V' => ptr_any x V' x0 x1
  have hz2 : (x / 2 % 65536 == 0) = false := by simpa using hz
  clear h hs hl hc x0 x1 ha a0 a1 hx
  generalize hy0 : f.r.getD 2 0 = y at *
  have hy2 : (x == y) = false := by simpa using hy
  generalize x / 2 % 65536 = p at *
  clear hz
  go_enter Tryz.func50, Tryz.ntmps50
  go_wp2_with fail
  refine (HL.out _ HM.out).mono ?_
  rintro e V2 ⟨rfl, hM2⟩
  have q2 := hM2.cells
  have d5 := hM2.regs
  have lg2 := hM2.2.1.lt
  have fz2 := hM2.2.1.fz
  obtain ⟨d1, d2, d3, d4⟩ := q2
  rw [hp] at d1
  rw [hy0] at d5
  have HM2 := Lib.hid hM2
  clear hM2 HL HM c1 c2 c3 c4 c5
  go_wp2_with fail
  refine (KP _).mono ?_
  rintro e v ⟨rfl, rfl⟩
  clear KP
  go_wp2
  go_end0
  exact ⟨rfl, (HX.out _ HM2.out).1⟩

theorem prot_name (hc : c.Ok) (h : Mid c B Fb T i gg o cp l f (AS g t ws st G ts) X W V) (hi : i < c.th.toNat) (ho : l.length * 12 = o) (hll : l.length ≤ 1000) (hl : ws.length = c.size.toNat) (hs : 0 ≤ st ∧ st ≤ 1000000)
    (hid : (ts i).v 0 = .int .i64 i) (hp : f.pc = 1) {k : Int} (hk : f.r.getD 0 0 = k) (k0 : 0 ≤ k) (k1 : k < c.slots) {x : Int} (hx : f.r.getD 2 0 = x) (x0 : 0 ≤ x) (x1 : x < 18446744073709551616) :
    Calls Tryz.prog 50 #[at0 B, .pointer (some ⟨T, i * 10, none⟩), .pointer (some ⟨gg, o, none⟩)] V fun e V' => e = .returned (.tuple #[]) ∧
      MacT c B Fb T (AS g t (ws.set (c.hazard i k).toNat (x / 2 % 65536)) (st + 1) G (upd ts i { ts i with fr := l ++ [(f.setC 1 2)] })) X W V' := by
  have cs := h.cells
  rw [hp, hk] at cs
  obtain ⟨c1, c2, c3, c4⟩ := cs
  have c5 := h.regs
  rw [hx] at c5
  have c6 := h.id hi hid
  have lg := h.2.1.lt
  have hsl := hc.slots
  have hth := hc.th
  have hwr : IntKind.i64.wrap k = k := IntWalk.i64_in _ (by omega)
  have hwx : IntKind.u64.wrap (x / 2 % 65536) = x / 2 % 65536 := IntWalk.u64_in _ (by omega)
  have HM := Lib.hid h
  have ll := haz_low hc (k := i) (s := k) (by omega) (by omega) k0 k1
  have HP : Hid (∀ V', Mid c B Fb T i gg o cp l f (AS g t ws st G ts) X W V' → Calls Tryz.prog 10 #[at0 B] V' fun e V2 => e = .returned c.v ∧ Below V'.heap.size V' V2) := Lib.hid fun V' h' => h'.plan
  have HK : Hid (∀ V', Calls Tryz.prog 14 #[c.v, .int .i64 i, .int .i64 k] V' fun e V2 => e = .returned (.int .i64 (c.hazard i k)) ∧ Below V'.heap.size V' V2) := Lib.hid fun V' => hazard_ok c i k V' hc (by unfold P.I64; omega) (by unfold P.I64; omega)
  have HL : Hid (∀ V', Mid c B Fb T i gg o cp l f (AS g t ws st G ts) X W V' → Calls Tryz.prog 68 #[at0 B, .int .i64 (c.hazard i k), .int .u64 (x / 2 % 65536)] V' fun e V2 => e = .returned (.tuple #[]) ∧ Mid c B Fb T i gg o cp l f (AS g t (ws.set (c.hazard i k).toNat (x / 2 % 65536)) (st + 1) G ts) X W V2) := Lib.hid fun V' h' => h'.calls fun X' m => astore hc m hl hs (x / 2 % 65536) ll.1 ll.2
  have HX : Hid (∀ V', Mid c B Fb T i gg o cp l f (AS g t (ws.set (c.hazard i k).toNat (x / 2 % 65536)) (st + 1) G ts) X W V' → Mid c B Fb T i gg o cp l (f.setC 1 2) (AS g t (ws.set (c.hazard i k).toNat (x / 2 % 65536)) (st + 1) G (upd ts i { ts i with fr := l ++ [(f.setC 1 2)] })) X W (V'.setCell ⟨gg, o + 1, none⟩ (.int .i64 2))) := Lib.hid fun V' h' => h'.setC hi ho 1 (by omega) 2
  have KP := fun V' => ptr_any x V' x0 x1
  clear h hs hl hc x0 x1 k0 k1 ll hsl hth
  have HS : Hid (∀ (V' : World) (ws : List Int) (st : Int), Mid c B Fb T i gg o cp l f (AS g t ws st G ts) X W V' → V'.cell? ⟨T, i * 10, none⟩ = some (.int .i64 i) ∧ V'.cell? ⟨gg, o + 2, none⟩ = some (.int .u64 k) ∧ V'.cell? ⟨gg, o + 2 + 2, none⟩ = some (.int .u64 x)) := Lib.hid fun V' ws st h' => ⟨h'.id hi hid, by have := h'.cells.2.1; rwa [hk] at this, by have := h'.regs; rwa [hx] at this⟩
  clear hk hx hid
  generalize x / 2 % 65536 = p at *
  generalize c.hazard i k = a at *
  go_enter Tryz.func50, Tryz.ntmps50
  go_wp2_with fail
  have hM := HM.out.drew
  go_region_held3 (fun V' => V'.cell? ⟨T, i * 10, none⟩ = some (.int .i64 i) ∧ V'.cell? ⟨gg, o + 2, none⟩ = some (.int .u64 k) ∧ V'.cell? ⟨gg, o + 2 + 2, none⟩ = some (.int .u64 x))
    (first | exact HS.out _ _ _ (by assumption) | go_keep)
    (first | (go_at_call 10; refine (HP.out _ hM).mono ?_; rintro e V1 ⟨rfl, hb1⟩; have hM1 := Mid.below hM hb1; clear hb1) | (go_at_call 14; refine (HK.out _).mono ?_; rintro e V3 ⟨rfl, hb3⟩; have hM3 := Mid.below hM1 hb3; clear hb3) | (go_at_call 67; refine (KP _).mono ?_; rintro e v ⟨rfl, rfl⟩) | (go_at_call 68; refine (HL.out _ hM3).mono ?_; rintro e V2 ⟨rfl, hM2⟩))
  all_goals
    have lg2 := hM2.2.1.lt
    have fz2 := hM2.2.1.fz
    have p2 := hM2.2.1.pc
    have HM2 := Lib.hid hM2
    clear hM2
  all_goals
    go_wp2
    exact bodyPost_ret (v := .tuple #[]) (by simp [results, Tryz.results50, go_sem]) rfl ⟨rfl, (HX.out _ HM2.out).1⟩

theorem row00 (W : World) : F.Row .u64 W none 0 0 [] := ⟨rfl, ⟨Nat.le_refl _, by simp [maxLen]⟩, .inl ⟨rfl, rfl, rfl⟩, fun j hj => absurd hj (by omega), fun x hx => by simp at hx⟩

theorem wipe_more (hc : c.Ok) (h : Mid c B Fb T i gg o cp l f (AS g t ws st G ts) X W V) (hi : i < c.th.toNat) (ho : l.length * 12 = o) (hll : l.length ≤ 1000) (hl : ws.length = c.size.toNat) (hs : 0 ≤ st ∧ st ≤ 1000000)
    (hid : (ts i).v 0 = .int .i64 i) {k : Int} (hp : f.pc = k) (k0 : 0 ≤ k) (k1 : k < c.slots) (hk : k + 1 < c.slots) :
    Calls Tryz.prog 51 #[at0 B, .pointer (some ⟨T, i * 10, none⟩), .pointer (some ⟨gg, o, none⟩)] V fun e V' => e = .returned (.tuple #[]) ∧
      MacT c B Fb T (AS g t (ws.set (c.hazard i k).toNat 0) (st + 1) G (upd ts i { ts i with fr := l ++ [(f.setC 1 (k + 1))] })) X W V' := by
  have cs := h.cells
  rw [hp] at cs
  obtain ⟨c1, c2, c3, c4⟩ := cs
  have c6 := h.id hi hid
  have lg := h.2.1.lt
  have hsl := hc.slots
  have hth := hc.th
  have hmx : max k 0 = k := by omega
  have hwr : IntKind.i64.wrap (k + 1) = k + 1 := IntWalk.i64_in _ (by omega)
  have HM := Lib.hid h
  have ll := haz_low hc (k := i) (s := k) (by omega) (by omega) k0 k1
  have HP : Hid (∀ σ V', Mid c B Fb T i gg o cp l f σ X W V' → Calls Tryz.prog 10 #[at0 B] V' fun e V2 => e = .returned c.v ∧ Below V'.heap.size V' V2) := Lib.hid fun σ V' h' => h'.plan
  have HP2 : Hid (∀ σ V', Mid c B Fb T i gg o cp l (f.setC 1 (k + 1)) σ X W V' → Calls Tryz.prog 10 #[at0 B] V' fun e V2 => e = .returned c.v ∧ Below V'.heap.size V' V2) := Lib.hid fun σ V' h' => h'.plan
  have HK : Hid (∀ V', Calls Tryz.prog 14 #[c.v, .int .i64 i, .int .i64 k] V' fun e V2 => e = .returned (.int .i64 (c.hazard i k)) ∧ Below V'.heap.size V' V2) := Lib.hid fun V' => hazard_ok c i k V' hc (by unfold P.I64; omega) (by unfold P.I64; omega)
  have HT : Hid (∀ V', Calls Tryz.prog 11 #[c.v] V' fun e V2 => e = .returned (.int .i64 c.slots) ∧ Below V'.heap.size V' V2) := Lib.hid fun V' => P.slots_ok c V' hc
  have HL : Hid (∀ V', Mid c B Fb T i gg o cp l f (AS g t ws st G ts) X W V' → Calls Tryz.prog 68 #[at0 B, .int .i64 (c.hazard i k), .int .u64 0] V' fun e V2 => e = .returned (.tuple #[]) ∧ Mid c B Fb T i gg o cp l f (AS g t (ws.set (c.hazard i k).toNat 0) (st + 1) G ts) X W V2) := Lib.hid fun V' h' => h'.calls fun X' m => astore hc m hl hs 0 ll.1 ll.2
  have HX : Hid (∀ V', Mid c B Fb T i gg o cp l f (AS g t (ws.set (c.hazard i k).toNat 0) (st + 1) G ts) X W V' → Mid c B Fb T i gg o cp l (f.setC 1 (k + 1)) (AS g t (ws.set (c.hazard i k).toNat 0) (st + 1) G (upd ts i { ts i with fr := l ++ [(f.setC 1 (k + 1))] })) X W (V'.setCell ⟨gg, o + 1, none⟩ (.int .i64 (k + 1)))) := Lib.hid fun V' h' => h'.setC hi ho 1 (by omega) (k + 1)
  have HS : Hid (∀ (V' : World) (ws : List Int) (st : Int), Mid c B Fb T i gg o cp l f (AS g t ws st G ts) X W V' → V'.cell? ⟨T, i * 10, none⟩ = some (.int .i64 i)) := Lib.hid fun V' ws st h' => h'.id hi hid
  have HS2 : Hid (∀ (σ : Sg) (V' : World), Mid c B Fb T i gg o cp l (f.setC 1 (k + 1)) σ X W V' → V'.cell? ⟨gg, o + 1, none⟩ = some (.int .i64 (k + 1))) := Lib.hid fun σ V' h' => h'.2.1.pc
  have hgd : decide (c.slots ≤ k + 1) = false := by simp; omega
  clear h hs hl hc k0 ll hsl hth hid
  generalize (ws.set (c.hazard i k).toNat 0) = ws2 at *
  generalize c.hazard i k = a at *
  generalize hsn : c.slots = sn at *
  clear hsn hk k1
  go_enter Tryz.func51, Tryz.ntmps51
  go_wp2_with fail
  have hM := HM.out.drew
  go_region_held3 (fun V' => V'.cell? ⟨T, i * 10, none⟩ = some (.int .i64 i))
    (first | exact HS.out _ _ _ (by assumption) | go_keep)
    (first | (go_at_call 10; refine (HP.out _ _ hM).mono ?_; rintro e V1 ⟨rfl, hb1⟩; have hM1 := Mid.below hM hb1; clear hb1) | (go_at_call 14; refine (HK.out _).mono ?_; rintro e V3 ⟨rfl, hb3⟩; have hM3 := Mid.below hM1 hb3; clear hb3) | (go_at_call 68; refine (HL.out _ hM3).mono ?_; rintro e V2 ⟨rfl, hM2⟩))
  all_goals
    have lg2 := hM2.2.1.lt
    have fz2 := hM2.2.1.fz
    have p2 := hM2.2.1.pc
    have HM2 := Lib.hid hM2
    clear hM hM1 hM3 hM2
    go_wp2_with fail
    have hM4 := (HX.out _ HM2.out).drew
    go_region_held3 (fun V' => V'.cell? ⟨gg, o + 1, none⟩ = some (.int .i64 (k + 1)))
      (first | exact HS2.out _ _ (by assumption) | go_keep)
      (first | (go_at_call 10; refine (HP2.out _ _ hM4).mono ?_; rintro e V4 ⟨rfl, hb4⟩; have hM5 := Mid.below hM4 hb4; clear hb4) | (go_at_call 11; refine (HT.out _).mono ?_; rintro e V5 ⟨rfl, hb5⟩; have hM6 := Mid.below hM5 hb5; clear hb5))
  all_goals
    have HV := Lib.hid hM6.1
    clear hM4 hM5 hM6
    go_wp2
    go_end0
    exact ⟨rfl, HV.out⟩

theorem wipe_last (hc : c.Ok) (h : Mid c B Fb T i gg o cp l f (AS g t ws st G ts) X W V) (hi : i < c.th.toNat) (ho : l.length * 12 = o) (hll : l.length ≤ 1000) (hl : ws.length = c.size.toNat) (hs : 0 ≤ st ∧ st ≤ 1000000)
    (hid : (ts i).v 0 = .int .i64 i) {k : Int} (hp : f.pc = k) (k0 : 0 ≤ k) (k1 : k < c.slots) (hk : k + 1 = c.slots) :
    Calls Tryz.prog 51 #[at0 B, .pointer (some ⟨T, i * 10, none⟩), .pointer (some ⟨gg, o, none⟩)] V fun e V' => e = .returned (.tuple #[]) ∧
      MacT c B Fb T (AS g t (ws.set (c.hazard i k).toNat 0) (st + 1) G (upd ts i ((ts i).told l 0 0 0))) X W V' := by
  have cs := h.cells
  rw [hp] at cs
  obtain ⟨c1, c2, c3, c4⟩ := cs
  have c6 := h.id hi hid
  have lg := h.2.1.lt
  have hsl := hc.slots
  have hth := hc.th
  have hmx : max k 0 = k := by omega
  have hwr : IntKind.i64.wrap (k + 1) = k + 1 := IntWalk.i64_in _ (by omega)
  have HM := Lib.hid h
  have ll := haz_low hc (k := i) (s := k) (by omega) (by omega) k0 k1
  have HP : Hid (∀ σ V', Mid c B Fb T i gg o cp l f σ X W V' → Calls Tryz.prog 10 #[at0 B] V' fun e V2 => e = .returned c.v ∧ Below V'.heap.size V' V2) := Lib.hid fun σ V' h' => h'.plan
  have HP2 : Hid (∀ σ V', Mid c B Fb T i gg o cp l (f.setC 1 (k + 1)) σ X W V' → Calls Tryz.prog 10 #[at0 B] V' fun e V2 => e = .returned c.v ∧ Below V'.heap.size V' V2) := Lib.hid fun σ V' h' => h'.plan
  have HK : Hid (∀ V', Calls Tryz.prog 14 #[c.v, .int .i64 i, .int .i64 k] V' fun e V2 => e = .returned (.int .i64 (c.hazard i k)) ∧ Below V'.heap.size V' V2) := Lib.hid fun V' => hazard_ok c i k V' hc (by unfold P.I64; omega) (by unfold P.I64; omega)
  have HT : Hid (∀ V', Calls Tryz.prog 11 #[c.v] V' fun e V2 => e = .returned (.int .i64 c.slots) ∧ Below V'.heap.size V' V2) := Lib.hid fun V' => P.slots_ok c V' hc
  have HL : Hid (∀ V', Mid c B Fb T i gg o cp l f (AS g t ws st G ts) X W V' → Calls Tryz.prog 68 #[at0 B, .int .i64 (c.hazard i k), .int .u64 0] V' fun e V2 => e = .returned (.tuple #[]) ∧ Mid c B Fb T i gg o cp l f (AS g t (ws.set (c.hazard i k).toNat 0) (st + 1) G ts) X W V2) := Lib.hid fun V' h' => h'.calls fun X' m => astore hc m hl hs 0 ll.1 ll.2
  have HX : Hid (∀ V', Mid c B Fb T i gg o cp l f (AS g t (ws.set (c.hazard i k).toNat 0) (st + 1) G ts) X W V' → Mid c B Fb T i gg o cp l (f.setC 1 (k + 1)) (AS g t (ws.set (c.hazard i k).toNat 0) (st + 1) G (upd ts i { ts i with fr := l ++ [(f.setC 1 (k + 1))] })) X W (V'.setCell ⟨gg, o + 1, none⟩ (.int .i64 (k + 1)))) := Lib.hid fun V' h' => h'.setC hi ho 1 (by omega) (k + 1)
  have HS : Hid (∀ (V' : World) (ws : List Int) (st : Int), Mid c B Fb T i gg o cp l f (AS g t ws st G ts) X W V' → V'.cell? ⟨T, i * 10, none⟩ = some (.int .i64 i)) := Lib.hid fun V' ws st h' => h'.id hi hid
  have HS2 : Hid (∀ (σ : Sg) (V' : World), Mid c B Fb T i gg o cp l (f.setC 1 (k + 1)) σ X W V' → V'.cell? ⟨gg, o + 1, none⟩ = some (.int .i64 (k + 1))) := Lib.hid fun σ V' h' => h'.2.1.pc
  have HQ : Hid (∀ V', Mid c B Fb T i gg o cp l (f.setC 1 (k + 1)) (AS g t (ws.set (c.hazard i k).toNat 0) (st + 1) G (upd ts i { ts i with fr := l ++ [(f.setC 1 (k + 1))] })) X W V' → Calls Tryz.prog 70 #[.pointer (some ⟨T, i * 10, none⟩), .slice none 0 0] V' fun e V2 => e = .returned (.tuple #[]) ∧ MacT c B Fb T (AS g t (ws.set (c.hazard i k).toNat 0) (st + 1) G (upd ts i ((ts i).told l 0 0 0))) X W V2) := Lib.hid fun V' h' => by
    have := h'.pop hi hll (row00 V') (by omega) (fun h => absurd h (by omega))
    simp only [upd_upd, upd_same] at this
    exact this
  have hgd : decide (c.slots ≤ k + 1) = true := by simp; omega
  clear h hs hl hc k0 ll hsl hth hid
  generalize (ws.set (c.hazard i k).toNat 0) = ws2 at *
  generalize c.hazard i k = a at *
  generalize hsn : c.slots = sn at *
  clear hsn hk k1
  go_enter Tryz.func51, Tryz.ntmps51
  go_wp2_with fail
  have hM := HM.out.drew
  go_region_held3 (fun V' => V'.cell? ⟨T, i * 10, none⟩ = some (.int .i64 i))
    (first | exact HS.out _ _ _ (by assumption) | go_keep)
    (first | (go_at_call 10; refine (HP.out _ _ hM).mono ?_; rintro e V1 ⟨rfl, hb1⟩; have hM1 := Mid.below hM hb1; clear hb1) | (go_at_call 14; refine (HK.out _).mono ?_; rintro e V3 ⟨rfl, hb3⟩; have hM3 := Mid.below hM1 hb3; clear hb3) | (go_at_call 68; refine (HL.out _ hM3).mono ?_; rintro e V2 ⟨rfl, hM2⟩))
  all_goals
    have lg2 := hM2.2.1.lt
    have fz2 := hM2.2.1.fz
    have p2 := hM2.2.1.pc
    have HM2 := Lib.hid hM2
    clear hM hM1 hM3 hM2
    go_wp2_with fail
    have hM4 := (HX.out _ HM2.out).drew
    go_region_held3 (fun V' => V'.cell? ⟨gg, o + 1, none⟩ = some (.int .i64 (k + 1)))
      (first | exact HS2.out _ _ (by assumption) | go_keep)
      (first | (go_at_call 10; refine (HP2.out _ _ hM4).mono ?_; rintro e V4 ⟨rfl, hb4⟩; have hM5 := Mid.below hM4 hb4; clear hb4) | (go_at_call 11; refine (HT.out _).mono ?_; rintro e V5 ⟨rfl, hb5⟩; have hM6 := Mid.below hM5 hb5; clear hb5))
  all_goals
    have HY := Lib.hid (HQ.out _ hM6)
    clear hM4 hM5 hM6
    go_wp2_with fail
    refine HY.out.mono ?_
    rintro e v ⟨rfl, hv⟩
    have HV := Lib.hid hv
    clear hv HY
    go_wp2
    go_end0
    exact ⟨rfl, HV.out⟩

end Go.Proofs.YtemikojaldoofaaGreat
