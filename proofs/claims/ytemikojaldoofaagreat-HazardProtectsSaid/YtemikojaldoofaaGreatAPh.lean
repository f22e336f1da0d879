/- The phases of Alloc and Release; a step of a thread in one of them. -/
import Derived.Test.YtemikojaldoofaaGreatAStep
namespace Go.Proofs.YtemikojaldoofaaGreat
open Go.ChangeShapes Go.WideShapes Go.ChangeAt Go.RowKit
set_option linter.unusedVariables false

set_option maxRecDepth 20000

/-- Where a thread is: nowhere, in Alloc, in Release of a node; what it has read. -/
inductive Ph where
  | idle
  | a0
  | a1 (w : Int)
  | a2 (w x : Int)
  | b0 (n : Int)
  | b1 (n w : Int)
  | b2 (n w : Int)
abbrev U64 (x : Int) : Prop := 0 ≤ x ∧ x < 18446744073709551616
abbrev reg (f : Fr) (k : Nat) : Int := f.r.getD k 0
def Ph.Is : Ph → List Fr → Prop
  | .idle, fr => fr = []
  | .a0, fr => ∃ f, fr = [f] ∧ f.fn = 1 ∧ f.pc = 0 ∧ U64 (reg f 0)
  | .a1 w, fr => ∃ f, fr = [f] ∧ f.fn = 1 ∧ f.pc = 1 ∧ reg f 0 = w
  | .a2 w x, fr => ∃ f, fr = [f] ∧ f.fn = 1 ∧ f.pc = 2 ∧ reg f 0 = w ∧ reg f 1 = x
  | .b0 n, fr => ∃ f, fr = [f] ∧ f.fn = 2 ∧ f.pc = 0 ∧ reg f 0 = n
  | .b1 n w, fr => ∃ f, fr = [f] ∧ f.fn = 2 ∧ f.pc = 1 ∧ reg f 0 = n ∧ reg f 1 = w
  | .b2 n w, fr => ∃ f, fr = [f] ∧ f.fn = 2 ∧ f.pc = 2 ∧ reg f 0 = n ∧ reg f 1 = w
def pt (w : Int) : Int := w / 2 % 65536
/-- What a phase asks of the words. -/
def Ph.Pre (c : P.Cf) (ws : List Int) : Ph → Prop
  | .idle => False
  | .a0 => U64 (wordAt ws 0)
  | .a1 w => U64 w ∧ 1 ≤ pt w ∧ pt w ≤ c.nd
  | .a2 w x => U64 w ∧ 0 ≤ x ∧ x ≤ 1000 ∧ 0 ≤ pt w ∧ pt w ≤ 1000
  | .b0 n => U64 n
  | .b1 n w => 1 ≤ n ∧ n ≤ c.nd ∧ U64 w
  | .b2 n w => 0 ≤ n ∧ n ≤ 1000 ∧ U64 w
/-- What a step makes of the words, the ghost, the phase; what is told at the end. -/
structure Out where
  ws : List Int
  G : G.GS
  ph : Ph
  ret : Int
def Ph.step (c : P.Cf) (ws : List Int) (G : G.GS) : Ph → Out
  | .idle => ⟨ws, G, .idle, 0⟩
  | .a0 => if pt (wordAt ws 0) = 0 then ⟨ws, G, .idle, 0⟩ else ⟨ws, G, .a1 (wordAt ws 0), 0⟩
  | .a1 w => ⟨ws, G, .a2 w (wordAt ws (c.link (pt w)).toNat), 0⟩
  | .a2 w x => if wordAt ws 0 = w then ⟨ws.set 0 (nextW w x), G.then c.nd.toNat 0 (pt w), .idle, pt w⟩ else ⟨ws, G, .a0, 0⟩
  | .b0 n => ⟨ws, G, .b1 n (wordAt ws 0), 0⟩
  | .b1 n w => ⟨ws.set (c.link n).toNat (pt w), G, .b2 n w, 0⟩
  | .b2 n w => if wordAt ws 0 = w then ⟨ws.set 0 (nextW w n), G.then c.nd.toNat 2 n, .idle, n⟩ else ⟨ws, G, .b0 n, 0⟩
def Ph.on : Ph → Bool
  | .idle => false
  | _ => true
theorem Ph.Is.on {p : Ph} {fr : List Fr} (h : p.Is fr) : (!fr.isEmpty) = p.on ∧ fr.length ≤ 1 := by
  cases p <;> simp only [Ph.Is] at h
  · subst h; simp [Ph.on]
  all_goals
    obtain ⟨f, rfl, _⟩ := h
    simp [Ph.on]
theorem reg_set (f : Fr) (j k : Nat) (x : Int) (hj : j < 10) (hk : k < 10) : reg (f.setC (j + 2) x) k = if j = k then x else reg f k := set_getD f.r j k x hj hk
theorem reg_pc (f : Fr) (k : Nat) (x : Int) : reg (f.setC 1 x) k = reg f k := rfl

variable {c : P.Cf} {B Fb T : Nat} {X : Nat → Prop} {W W' : World} {g t : Nat} {ws : List Int} {st : Int} {G : G.GS} {ts : Nat → Th} {i : Nat}
/-- What a step of a thread leaves. -/
def Stepped (c : P.Cf) (B Fb T g t : Nat) (st : Int) (ts : Nat → Th) (i : Nat) (o : Out) (X : Nat → Prop) (W : World) (e : Ending) (W' : World) : Prop :=
  e = .returned (.bool o.ph.on) ∧ ∃ th, MacT c B Fb T (AS g t o.ws (st + 1) o.G (upd ts i th)) X W W' ∧ o.ph.Is th.fr ∧ (o.ph = .idle → th.r0 = o.ret)
theorem stepped_of (hc : c.Ok) (h : Mac c B Fb T X (AS g t ws st G ts) W) (hi : i < c.th.toNat) {f : Fr} (hfr : (ts i).fr = [f]) {o : Out} {th : Th} (hD : ∀ X V, Mac c B Fb T X (AS g t ws st G ts) V → Calls Tryz.prog 54 #[at0 B, .pointer (some ⟨T, i * 10, none⟩)] V fun e V' => e = .returned (.tuple #[]) ∧ MacT c B Fb T (AS g t o.ws (st + 1) o.G (upd ts i th)) X V V')
    (his : o.ph.Is th.fr) (hret : o.ph = .idle → th.r0 = o.ret) : Calls Tryz.prog 30 #[at0 B, .int .i64 i, .func (.func 54) #[] #[]] W (Stepped c B Fb T g t st ts i o X W) := by
  have h1 : ((AS g t o.ws (st + 1) o.G (upd ts i th)).ts i).fr = th.fr := by simp [upd_same]
  have := step_once (l := []) hc h hi (by simpa using hfr) (by simp) hD (.inl (by show st + 1 ≠ st; omega)) (by rw [h1]; have := his.on.2; omega)
  refine this.mono ?_
  rintro e W' ⟨rfl, ht⟩
  rw [h1, his.on.1]
  exact ⟨rfl, th, ht, his, hret⟩
set_option maxHeartbeats 1000000 in
/-- A step of a thread that is in a phase. -/
theorem step_ph (hc : c.Ok) (h : Mac c B Fb T X (AS g t ws st G ts) W) (hi : i < c.th.toNat) (hl : ws.length = c.size.toNat) (hs : 0 ≤ st ∧ st ≤ 1000000) (p : Ph) (his : p.Is (ts i).fr) (hp : p.Pre c ws) :
    Calls Tryz.prog 30 #[at0 B, .int .i64 i, .func (.func 54) #[] #[]] W (Stepped c B Fb T g t st ts i (p.step c ws G) X W) := by
  have hnd := hc.nd
  cases p with
  | idle => exact absurd hp id
  | a0 =>
    obtain ⟨f, hfr, hfn, hpc, hr⟩ := his
    by_cases hz : pt (wordAt ws 0) = 0
    · rw [show Ph.step c ws G .a0 = ⟨ws, G, .idle, 0⟩ from if_pos hz]
      exact stepped_of (o := ⟨ws, G, .idle, 0⟩) hc h hi hfr (fun X V m => do_alloc (l := []) m hi hfr (by simp) hfn fun gg cp V' hM => alloc_empty (o := 0) hc hM hi rfl (by simp) hl hs hpc hr hp hz) rfl fun _ => rfl
    · rw [show Ph.step c ws G .a0 = ⟨ws, G, .a1 (wordAt ws 0), 0⟩ from if_neg hz]
      exact stepped_of (o := ⟨ws, G, .a1 (wordAt ws 0), 0⟩) hc h hi hfr (fun X V m => do_alloc (l := []) m hi hfr (by simp) hfn fun gg cp V' hM => alloc_read (o := 0) hc hM hi rfl (by simp) hl hs hpc hr hp hz) ⟨_, rfl, hfn, rfl, by rw [reg_pc, reg_set _ 0 0 _ (by omega) (by omega)]; rfl⟩ nofun
  | a1 w =>
    obtain ⟨f, hfr, hfn, hpc, rfl⟩ := his
    exact stepped_of (o := Ph.step c ws G (.a1 (reg f 0))) hc h hi hfr (fun X V m => do_alloc (l := []) m hi hfr (by simp) hfn fun gg cp V' hM => alloc_link (o := 0) hc hM hi rfl (by simp) hl hs hpc hp.1 rfl hp.2.1 hp.2.2)
      ⟨_, rfl, hfn, rfl, by rw [reg_pc, reg_set _ 1 0 _ (by omega) (by omega)]; rfl, by rw [reg_pc, reg_set _ 1 1 _ (by omega) (by omega)]; rfl⟩ nofun
  | a2 w x =>
    obtain ⟨f, hfr, hfn, hpc, rfl, rfl⟩ := his
    obtain ⟨p0, p1, p2, p3, p4⟩ := hp
    by_cases hw : wordAt ws 0 = reg f 0
    · rw [show Ph.step c ws G (.a2 (reg f 0) (reg f 1)) = ⟨ws.set 0 (nextW (reg f 0) (reg f 1)), G.then c.nd.toNat 0 (pt (reg f 0)), .idle, pt (reg f 0)⟩ from if_pos hw]
      exact stepped_of (o := ⟨ws.set 0 (nextW (reg f 0) (reg f 1)), G.then c.nd.toNat 0 (pt (reg f 0)), .idle, pt (reg f 0)⟩) hc h hi hfr (fun X V m => do_alloc (l := []) m hi hfr (by simp) hfn fun gg cp V' hM => alloc_yes (o := 0) hc hM hi rfl (by simp) hl hs hpc p0 ⟨p1, Int.lt_of_le_of_lt p2 (by decide)⟩ rfl ⟨p3, p4⟩ (Int.lt_of_le_of_lt p2 (by decide)) hw) rfl fun _ => rfl
    · rw [show Ph.step c ws G (.a2 (reg f 0) (reg f 1)) = ⟨ws, G, .a0, 0⟩ from if_neg hw]
      exact stepped_of (o := ⟨ws, G, .a0, 0⟩) hc h hi hfr (fun X V m => do_alloc (l := []) m hi hfr (by simp) hfn fun gg cp V' hM => alloc_no (o := 0) hc hM hi rfl (by simp) hl hs hpc p0 ⟨p1, Int.lt_of_le_of_lt p2 (by decide)⟩ rfl ⟨p3, p4⟩ (Int.lt_of_le_of_lt p2 (by decide)) hw) ⟨_, rfl, hfn, rfl, p0⟩ nofun
  | b0 n =>
    obtain ⟨f, hfr, hfn, hpc, rfl⟩ := his
    exact stepped_of (o := Ph.step c ws G (.b0 (reg f 0))) hc h hi hfr (fun X V m => do_release (l := []) m hi hfr (by simp) hfn fun gg cp V' hM => release_read (o := 0) hc hM hi rfl (by simp) hl hs hpc hp)
      ⟨_, rfl, hfn, rfl, by rw [reg_pc, reg_set _ 1 0 _ (by omega) (by omega)]; rfl, by rw [reg_pc, reg_set _ 1 1 _ (by omega) (by omega)]; rfl⟩ nofun
  | b1 n w =>
    obtain ⟨f, hfr, hfn, hpc, rfl, rfl⟩ := his
    obtain ⟨p0, p1, p2⟩ := hp
    exact stepped_of (o := Ph.step c ws G (.b1 (reg f 0) (reg f 1))) hc h hi hfr (fun X V m => do_release (l := []) m hi hfr (by simp) hfn fun gg cp V' hM => release_link (o := 0) hc hM hi rfl (by simp) hl hs hpc ⟨Int.le_trans (by decide) p0, Int.lt_of_le_of_lt (Int.le_trans p1 hnd.2) (by decide)⟩ p2 rfl p0 p1)
      ⟨_, rfl, hfn, rfl, rfl, rfl⟩ nofun
  | b2 n w =>
    obtain ⟨f, hfr, hfn, hpc, rfl, rfl⟩ := his
    obtain ⟨p0, p1, p2⟩ := hp
    by_cases hw : wordAt ws 0 = reg f 1
    · rw [show Ph.step c ws G (.b2 (reg f 0) (reg f 1)) = ⟨ws.set 0 (nextW (reg f 1) (reg f 0)), G.then c.nd.toNat 2 (reg f 0), .idle, reg f 0⟩ from if_pos hw]
      exact stepped_of (o := ⟨ws.set 0 (nextW (reg f 1) (reg f 0)), G.then c.nd.toNat 2 (reg f 0), .idle, reg f 0⟩) hc h hi hfr (fun X V m => do_release (l := []) m hi hfr (by simp) hfn fun gg cp V' hM => release_yes (o := 0) hc hM hi rfl (by simp) hl hs hpc ⟨p0, Int.lt_of_le_of_lt p1 (by decide)⟩ p2 rfl ⟨p0, p1⟩ (Int.lt_of_le_of_lt p1 (by decide)) hw) rfl fun _ => rfl
    · rw [show Ph.step c ws G (.b2 (reg f 0) (reg f 1)) = ⟨ws, G, .b0 (reg f 0), 0⟩ from if_neg hw]
      exact stepped_of (o := ⟨ws, G, .b0 (reg f 0), 0⟩) hc h hi hfr (fun X V m => do_release (l := []) m hi hfr (by simp) hfn fun gg cp V' hM => release_no (o := 0) hc hM hi rfl (by simp) hl hs hpc ⟨p0, Int.lt_of_le_of_lt p1 (by decide)⟩ p2 rfl ⟨p0, p1⟩ (Int.lt_of_le_of_lt p1 (by decide)) hw) ⟨_, rfl, hfn, rfl, rfl⟩ nofun
end Go.Proofs.YtemikojaldoofaaGreat
