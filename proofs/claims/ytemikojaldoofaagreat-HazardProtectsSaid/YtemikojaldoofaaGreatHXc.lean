/- The phases of the routines of arena and hazard; what a bit of a thread in one of them does. A routine of thread 0, done alone. A machine at rest, since w; what a law does of it: alone, the memory's Store and Load, Steps, Tag, Count, Fault. The chapter's example. Printed by haz_lives.py. -/
import Derived.Test.YtemikojaldoofaaGreatHXb
import Derived.Test.YtemikojaldoofaaGreatAPh
import Derived.Test.YtemikojaldoofaaGreatAFirst
import Derived.Test.YtemikojaldoofaaGreatGTag
import Derived.Test.YtemikojaldoofaaGreatKLives
import Derived.Test.YtemikojaldoofaaGreatAChn
import Derived.BigRegion
namespace Go.Proofs.YtemikojaldoofaaGreat
open Go.ChangeShapes Go.WideShapes Go.ChangeAt Go.RowKit
set_option linter.unusedVariables false
set_option maxRecDepth 20000
open S (ints)

/-- Where a thread is. -/
inductive Hp where
  | idle
  | a0
  | a1 (w : Int)
  | a2 (w x : Int)
  | b0 (n : Int)
  | b1 (n w : Int)
  | b2 (n w : Int)
  | p0 (s a : Int)
  | p1 (s a w : Int)
  | p2 (s a w : Int)
  | wi (k : Int)
  | re (n : Int)
  | scn (k : Int)
def Hp.Is : Hp → List Fr → Prop
  | .idle, fr => fr = []
  | .a0, fr => ∃ f, fr = [f] ∧ f.fn = 1 ∧ f.pc = 0 ∧ U64 (reg f 0)
  | .a1 w, fr => ∃ f, fr = [f] ∧ f.fn = 1 ∧ f.pc = 1 ∧ reg f 0 = w
  | .a2 w x, fr => ∃ f, fr = [f] ∧ f.fn = 1 ∧ f.pc = 2 ∧ reg f 0 = w ∧ reg f 1 = x
  | .b0 n, fr => ∃ f0 f, fr = [f0, f] ∧ f0.fn = 6 ∧ f0.pc = -1 ∧ f.fn = 2 ∧ f.pc = 0 ∧ reg f 0 = n
  | .b1 n w, fr => ∃ f0 f, fr = [f0, f] ∧ f0.fn = 6 ∧ f0.pc = -1 ∧ f.fn = 2 ∧ f.pc = 1 ∧ reg f 0 = n ∧ reg f 1 = w
  | .b2 n w, fr => ∃ f0 f, fr = [f0, f] ∧ f0.fn = 6 ∧ f0.pc = -1 ∧ f.fn = 2 ∧ f.pc = 2 ∧ reg f 0 = n ∧ reg f 1 = w
  | .p0 s a, fr => ∃ f, fr = [f] ∧ f.fn = 3 ∧ f.pc = 0 ∧ reg f 0 = s ∧ reg f 1 = a
  | .p1 s a w, fr => ∃ f, fr = [f] ∧ f.fn = 3 ∧ f.pc = 1 ∧ reg f 0 = s ∧ reg f 1 = a ∧ reg f 2 = w
  | .p2 s a w, fr => ∃ f, fr = [f] ∧ f.fn = 3 ∧ f.pc = 2 ∧ reg f 0 = s ∧ reg f 1 = a ∧ reg f 2 = w
  | .wi k, fr => ∃ f, fr = [f] ∧ f.fn = 4 ∧ f.pc = k
  | .re n, fr => ∃ f, fr = [f] ∧ f.fn = 5 ∧ reg f 0 = n
  | .scn k, fr => ∃ f, fr = [f] ∧ f.fn = 6 ∧ f.pc = k
/-- What a step makes of the words, the ghost, the phase, the thread's lists; how many steps of memory it is; what is told at the end. -/
structure HOut where
  ws : List Int
  G : G.GS
  inc : Int
  ph : Hp
  rt : List Int
  fn : List Int
  ret : Int
/-- The word of a slot, by its place among all. -/
def slotAt (c : P.Cf) (ws : List Int) (k : Int) : Int := wordAt ws (c.hazard (k / c.slots) (k % c.slots)).toNat
def goOn (ws : List Int) (G : G.GS) (inc : Int) (rt : List Int) : List Int → HOut
  | [] => ⟨ws, G, inc, .idle, rt, [], 0⟩
  | y :: ys => ⟨ws, G, inc, .b0 y, rt, ys, 0⟩
def scanF (c : P.Cf) (ws : List Int) (fn : List Int) (k : Int) : List Int := (if k = 0 then [] else fn) ++ [slotAt c ws k]
def scanStep (c : P.Cf) (ws : List Int) (G : G.GS) (rt fn : List Int) (k : Int) : HOut :=
  if k + 1 < c.th * c.slots then ⟨ws, G, 1, .scn (k + 1), rt, scanF c ws fn k, 0⟩
  else goOn ws G 1 (rt.filter fun y => decide (y ∈ scanF c ws fn k)) (rt.filter fun y => !decide (y ∈ scanF c ws fn k))
def Hp.step (c : P.Cf) (me : Int) (ws : List Int) (G : G.GS) (rt fn : List Int) : Hp → HOut
  | .idle => ⟨ws, G, 0, .idle, rt, fn, 0⟩
  | .a0 => if pt (wordAt ws 0) = 0 then ⟨ws, G, 1, .idle, rt, fn, 0⟩ else ⟨ws, G, 1, .a1 (wordAt ws 0), rt, fn, 0⟩
  | .a1 w => ⟨ws, G, 1, .a2 w (wordAt ws (c.link (pt w)).toNat), rt, fn, 0⟩
  | .a2 w x => if wordAt ws 0 = w then ⟨ws.set 0 (nextW w x), G.then c.nd.toNat 0 (pt w), 1, .idle, rt, fn, pt w⟩ else ⟨ws, G, 1, .a0, rt, fn, 0⟩
  | .b0 n => ⟨ws, G, 1, .b1 n (wordAt ws 0), rt, fn, 0⟩
  | .b1 n w => ⟨ws.set (c.link n).toNat (pt w), G, 1, .b2 n w, rt, fn, 0⟩
  | .b2 n w => if wordAt ws 0 = w then goOn (ws.set 0 (nextW w n)) (G.then c.nd.toNat 2 n) 1 rt fn else ⟨ws, G, 1, .b0 n, rt, fn, 0⟩
  | .p0 s a => if pt (wordAt ws a.toNat) = 0 then ⟨ws, G, 1, .idle, rt, fn, wordAt ws a.toNat⟩ else ⟨ws, G, 1, .p1 s a (wordAt ws a.toNat), rt, fn, 0⟩
  | .p1 s a w => ⟨ws.set (c.hazard me s).toNat (pt w), G, 1, .p2 s a w, rt, fn, 0⟩
  | .p2 s a w => if pt (wordAt ws a.toNat) = 0 ∨ wordAt ws a.toNat = w then ⟨ws, G, 1, .idle, rt, fn, wordAt ws a.toNat⟩ else ⟨ws, G, 1, .p1 s a (wordAt ws a.toNat), rt, fn, 0⟩
  | .wi k => ⟨ws.set (c.hazard me k).toNat 0, G, 1, if k + 1 < c.slots then .wi (k + 1) else .idle, rt, fn, 0⟩
  | .re n => if (rt.length : Int) + 1 < c.sc then ⟨ws, G.then c.nd.toNat 1 n, 0, .idle, rt ++ [n], fn, 0⟩ else scanStep c ws (G.then c.nd.toNat 1 n) (rt ++ [n]) fn 0
  | .scn k => scanStep c ws G rt fn k
abbrev I63 (x : Int) : Prop := 0 ≤ x ∧ x < 9223372036854775808
/-- What a phase asks of the words, and of the thread's lists. -/
def Hp.Pre (c : P.Cf) (ws : List Int) (rt fn : List Int) : Hp → Prop
  | .idle => False
  | .a0 => U64 (wordAt ws 0)
  | .a1 w => U64 w ∧ 1 ≤ pt w ∧ pt w ≤ c.nd
  | .a2 w x => U64 w ∧ 0 ≤ x ∧ x ≤ 1000 ∧ 0 ≤ pt w ∧ pt w ≤ 1000
  | .b0 n => U64 n
  | .b1 n w => 1 ≤ n ∧ n ≤ c.nd ∧ U64 w
  | .b2 n w => 0 ≤ n ∧ n ≤ 1000 ∧ U64 w ∧ fn.length ≤ 1000 ∧ ∀ y ∈ fn, I63 y
  | .p0 s a => 0 ≤ a ∧ a < c.o3 ∧ U64 (wordAt ws a.toNat)
  | .p1 s a w => 0 ≤ s ∧ s < c.slots ∧ U64 w
  | .p2 s a w => 0 ≤ a ∧ a < c.o3 ∧ U64 (wordAt ws a.toNat)
  | .wi k => 0 ≤ k ∧ k < c.slots
  | .re n => I63 n ∧ rt.length ≤ 900 ∧ fn.length ≤ 1000 ∧ (∀ y ∈ rt, I63 y) ∧ I63 (slotAt c ws 0)
  | .scn k => 0 ≤ k ∧ k < c.th * c.slots ∧ rt.length ≤ 1000 ∧ fn.length ≤ 1000 ∧ (∀ y ∈ rt, I63 y) ∧ I63 (slotAt c ws k)
def Hp.on : Hp → Bool
  | .idle => false
  | _ => true
theorem Hp.Is.on {p : Hp} {fr : List Fr} (h : p.Is fr) : (!fr.isEmpty) = p.on ∧ fr.length ≤ 2 := by
  cases p <;> simp only [Hp.Is] at h
  · subst h; simp [Hp.on]
  all_goals
    first
    | (obtain ⟨f, rfl, _⟩ := h; simp [Hp.on])
    | (obtain ⟨f0, f, rfl, _⟩ := h; simp [Hp.on])

variable {c : P.Cf} {B Fb T q : Nat} {X : Nat → Prop} {W W' V V' : World} {g t : Nat} {ws : List Int} {st : Int} {G : G.GS} {ts : Nat → Th} {i : Nat} {ls : Nat → Nat → List Value} {rt fn : List Int}
/-- What a bit of thread i leaves. -/
def HR (g t : Nat) (st : Int) (ts : Nat → Th) (i : Nat) (ls : Nat → Nat → List Value) (o : HOut) (σ' : Sg) (ls' : Nat → Nat → List Value) : Prop :=
  ∃ th, σ' = AS g t o.ws (st + o.inc) o.G (upd ts i th) ∧ ls' = lsW ls i o.rt o.fn ∧ o.ph.Is th.fr ∧ (o.ph = .idle → th.r0 = o.ret) ∧ th.v 0 = (ts i).v 0
theorem I63.in {x : Int} (h : I63 x) : S.InR x := by unfold S.InR; omega
/-- A bit that leaves the lists. -/
theorem hr_low (h8 : ls i 8 = ints rt) (h9 : ls i 9 = ints fn) {o : HOut} (ho : o.rt = rt ∧ o.fn = fn) {th : Th} (his : o.ph.Is th.fr) (hret : o.ph = .idle → th.r0 = o.ret) (hv : th.v = (ts i).v) : HR g t st ts i ls o (AS g t o.ws (st + o.inc) o.G (upd ts i th)) ls :=
  ⟨th, rfl, by rw [ho.1, ho.2, lsW_self h8 h9], his, hret, by rw [hv]⟩
/-- A bit of Alloc, or of Release that does not end. -/
theorem bit_arena (h : HM c B Fb T q (AS g t ws st G ts) ls X V) (hi : i < c.th.toNat) {l : List Fr} {f : Fr} (hfr : (ts i).fr = l ++ [f]) (hl : l.length ≤ 100) (h3 : f.fn ≠ 3) (h4 : f.fn ≠ 4) (h5 : f.fn ≠ 5) (h6 : f.fn ≠ 6) {o : HOut} {th : Th} (hv : th.v = (ts i).v)
    (hD : ∀ X V, Mac c B Fb T X (AS g t ws st G ts) V → Calls Tryz.prog 54 #[at0 B, .pointer (some ⟨T, i * 10, none⟩)] V fun e V' => e = .returned (.tuple #[]) ∧ MacT c B Fb T (AS g t o.ws (st + o.inc) o.G (upd ts i th)) X V V')
    (hR : ∀ X' V', HM c B Fb T q (AS g t o.ws (st + o.inc) o.G (upd ts i th)) ls X' V' → Calls Tryz.prog 55 #[.pointer (some ⟨T, i * 10, none⟩)] V' (HPost c B Fb T q (HR g t st ts i ls o) X' V')) :
    Calls Tryz.prog 31 #[at0 B, .pointer (some ⟨T, i * 10, none⟩)] V (HPost c B Fb T q (HR g t st ts i ls o) X V) :=
  hdo_arena (σ' := AS g t o.ws (st + o.inc) o.G (upd ts i th)) h hi hfr (by omega) h3 h4 h5 h6 (fun X' V' m => m.lift (σ' := AS g t o.ws (st + o.inc) o.G (upd ts i th)) (upd_v hv _) fun X0 mm => hD X0 V' mm) hR
/-- resume has nothing to do. -/
theorem res_quiet (h8 : ls i 8 = ints rt) (h9 : ls i 9 = ints fn) {o : HOut} (ho : o.rt = rt ∧ o.fn = fn) {th : Th} (his : o.ph.Is th.fr) (hret : o.ph = .idle → th.r0 = o.ret) (hv : th.v = (ts i).v) (hi : i < c.th.toNat) (hf : th.fr = [] ∨ ∃ l f, th.fr = l ++ [f] ∧ l.length ≤ 100 ∧ f.fn ≠ 6)
    (X' : Nat → Prop) (V' : World) (m : HM c B Fb T q (AS g t o.ws (st + o.inc) o.G (upd ts i th)) ls X' V') : Calls Tryz.prog 55 #[.pointer (some ⟨T, i * 10, none⟩)] V' (HPost c B Fb T q (HR g t st ts i ls o) X' V') := by
  rcases hf with hf | ⟨l, f, hf, hl, h6⟩
  · refine (resume_none m hi (by simp only [upd_same]; exact hf)).mono ?_
    rintro e W' ⟨rfl, rfl⟩
    exact ⟨rfl, _, _, HMT.refl m, hr_low h8 h9 ho his hret hv⟩
  · refine (resume_other m hi (l := l) (f := f) (by simp only [upd_same]; exact hf) (by omega) h6).mono ?_
    rintro e W' ⟨rfl, rfl⟩
    exact ⟨rfl, _, _, (HMT.refl m).drew, hr_low h8 h9 ho his hret hv⟩
/-- resume goes on, or ends. -/
theorem res_on (hi : i < c.th.toNat) (hq : q ≤ 8) (h8 : ls i 8 = ints rt) {f : Fr} (hf : f.fn = 6) (hp : f.pc = -1) {th : Th} (hfr : th.fr = [f]) (hv : th.v 0 = (ts i).v 0) {ls1 : Nat → Nat → List Value} {ws1 : List Int} {G1 : Go.Proofs.YtemikojaldoofaaGreat.G.GS} {inc : Int} {rt1 : List Int} (h9 : ls1 = lsW ls i rt1 fn) (hfn : fn.length ≤ 1000) (hI : ∀ y ∈ fn, I63 y)
    (X' : Nat → Prop) (V' : World) (m : HM c B Fb T q (AS g t ws1 (st + inc) G1 (upd ts i th)) ls1 X' V') : Calls Tryz.prog 55 #[.pointer (some ⟨T, i * 10, none⟩)] V' (HPost c B Fb T q (HR g t st ts i ls (goOn ws1 G1 inc rt1 fn)) X' V') := by
  subst h9
  match fn, hfn, hI, m with
  | [], _, _, m =>
    refine (resume_end m hi hq (l := []) (f := f) (by simp only [upd_same]; exact hfr) (by simp) hf hp (by rw [lsW_9]; rfl)).mono ?_
    rintro e W' ⟨rfl, ht⟩
    simp only [upd_same, upd_upd] at ht
    exact ⟨rfl, _, _, ht, th.told [] 0 0 0, rfl, rfl, rfl, fun _ => rfl, hv⟩
  | y :: ys, hfn, hI, m =>
    have hy := hI y (by simp)
    refine (resume_next m hi hq (l := []) (f := f) (by simp only [upd_same]; exact hfr) (by simp) hf hp (by rw [lsW_9]) (by simp at hfn; omega) hy.1 hy.2).mono ?_
    rintro e W' ⟨rfl, u, ht⟩
    simp only [upd_same, upd_upd] at ht
    refine ⟨rfl, _, _, ht, { th.setV 9 u with fr := th.fr ++ [⟨2, 0, [y]⟩] }, rfl, ?_, ⟨f, ⟨2, 0, [y]⟩, by rw [hfr]; rfl, hf, hp, rfl, rfl, by simp [reg]⟩, nofun, ?_⟩
    · rw [lsW_9put (lsW_8 _ _ _ _), lsW_lsW]; rfl
    · show (th.setV 9 u).v 0 = _
      rw [setV_ne _ _ (by omega)]; exact hv
theorem HPost.mono {RR RR' : Sg → (Nat → Nat → List Value) → Prop} {e : Ending} (h : HPost c B Fb T q RR X W e W') (hR : ∀ σ ls, RR σ ls → RR' σ ls) : HPost c B Fb T q RR' X W e W' := by
  obtain ⟨h0, σ, ls, h1, h2⟩ := h
  exact ⟨h0, σ, ls, h1, hR _ _ h2⟩
theorem scanF_ne {ws : List Int} {fn : List Int} {k : Int} (h : 0 < k) : scanF c ws fn k = fn ++ [slotAt c ws k] := by unfold scanF; rw [if_neg (by omega)]
theorem scanF_zero (ws : List Int) (fn : List Int) : scanF c ws fn 0 = [slotAt c ws 0] := by unfold scanF; rw [if_pos rfl]; rfl
/-- A bit of Scan. -/
theorem scan_bit (hc : c.Ok) {ts' : Nat → Th} {ls1 : Nat → Nat → List Value} {rt1 : List Int} {f : Fr} {gg cp : Nat} (h : MidH c B Fb T q i gg 0 cp [] f (AS g t ws st G ts') ls1 X W V) (hi : i < c.th.toNat) (hq : q ≤ 8) (hl : ws.length = c.size.toNat) (hs : 0 ≤ st ∧ st ≤ 1000000)
    (hu : ∀ th, upd ts' i th = upd ts i th) (hv : (ts' i).v 0 = (ts i).v 0) (hls : ∀ a b, lsW ls1 i a b = lsW ls i a b) (h8 : ls1 i 8 = ints rt1) (h9 : ls1 i 9 = ints fn) (h8' : ls i 8 = ints rt) {k : Int} (hf : f.fn = 6) (hpc : f.pc = k) (k0 : 0 ≤ k) (k1 : k < c.th * c.slots) (hrt : rt1.length ≤ 1000) (hfn : fn.length ≤ 1000) (hI : ∀ y ∈ rt1, I63 y) (hx : I63 (slotAt c ws k)) {st0 inc : Int} (hst : st + 1 = st0 + 1) :
    Calls Tryz.prog 53 #[at0 B, .pointer (some ⟨T, i * 10, none⟩), .pointer (some ⟨gg, 0, none⟩)] V (HPost c B Fb T q (HR g t st0 ts i ls (scanStep c ws G rt1 fn k)) X W) := by
  have hse : st = st0 := by omega
  subst hse
  have hR : ∀ y ∈ rt1, S.InR y := fun y hy => (hI y hy).in
  by_cases hm : k + 1 < c.th * c.slots
  · have ho : scanStep c ws G rt1 fn k = ⟨ws, G, 1, .scn (k + 1), rt1, scanF c ws fn k, 0⟩ := if_pos hm
    rw [ho]
    have fin : ∀ (F0 : List Int), F0 = scanF c ws fn k → ∀ σ' ls', (ls' = lsW ls1 i rt1 F0 ∧ ∃ th f', σ' = AS g t ws (st + 1) G (upd ts' i th) ∧ th.fr = [] ++ [f'] ∧ f'.fn = f.fn ∧ f'.pc = k + 1 ∧ th.v 0 = (ts' i).v 0) → HR g t st ts i ls ⟨ws, G, 1, .scn (k + 1), rt1, scanF c ws fn k, 0⟩ σ' ls' := by
      rintro F0 rfl σ' ls' ⟨rfl, th, f', rfl, e1, e2, e3, e4⟩
      exact ⟨th, by rw [hu], hls _ _, ⟨f', e1, e2.trans hf, e3⟩, nofun, e4.trans hv⟩
    by_cases hz : k = 0
    · subst hz
      refine (scan_zero_more hc h hi rfl hq hl hs hpc rfl hm h8 h9 hfn rfl hx.1 hx.2).mono ?_
      intro e W' hp
      exact hp.mono (fin _ (scanF_zero ws fn).symm)
    · refine (scan_pos_more hc h hi rfl hq hl hs hpc (by omega) hm h8 h9 hfn rfl hx.1 hx.2).mono ?_
      intro e W' hp
      exact hp.mono (fin _ (scanF_ne (by omega)).symm)
  · have ho : scanStep c ws G rt1 fn k = goOn ws G 1 (rt1.filter fun y => decide (y ∈ scanF c ws fn k)) (rt1.filter fun y => !decide (y ∈ scanF c ws fn k)) := if_neg hm
    rw [ho]
    have fin : ∀ (F0 : List Int), F0 = scanF c ws fn k → ∀ (th : Th) (f' : Fr) X' V', th.fr = [] ++ [f'] → f'.fn = f.fn → f'.pc = -1 → th.v 0 = (ts' i).v 0 → HM c B Fb T q (AS g t ws (st + 1) G (upd ts' i th)) (lsW ls1 i (rt1.filter fun y => decide (y ∈ F0)) (rt1.filter fun y => !decide (y ∈ F0))) X' V' → Calls Tryz.prog 55 #[.pointer (some ⟨T, i * 10, none⟩)] V' (HPost c B Fb T q (HR g t st ts i ls (goOn ws G 1 (rt1.filter fun y => decide (y ∈ scanF c ws fn k)) (rt1.filter fun y => !decide (y ∈ scanF c ws fn k)))) X' V') := by
      rintro F0 rfl th f' X' V' e1 e2 e3 e4 m
      rw [hu, hls] at m
      exact res_on hi hq h8' (e2.trans hf) e3 e1 (e4.trans hv) rfl (by have := List.length_filter_le (fun y => !decide (y ∈ scanF c ws fn k)) rt1; omega) (fun y hy => hI y ((List.mem_filter.1 hy).1)) X' V' m
    by_cases hz : k = 0
    · subst hz
      exact scan_zero_last hc h hi rfl hq hl hs hpc rfl (by omega) h8 h9 hfn rfl hx.1 hx.2 hrt hR (fin _ (scanF_zero ws fn).symm)
    · exact scan_pos_last hc h hi rfl hq hl hs hpc (by omega) (by omega) h8 h9 hfn rfl hx.1 hx.2 hrt hR (fin _ (scanF_ne (by omega)).symm)
/-- A bit of the machine's alone, of a routine of hazard's. -/
theorem bit_low {σ : Sg} {gg cp : Nat} {f : Fr} {K : Nat} {args : Array Value} (hM : MidH c B Fb T q i gg 0 cp [] f (AS g t ws st G ts) ls X W V) (h8 : ls i 8 = ints rt) (h9 : ls i 9 = ints fn) {o : HOut} (ho : o.rt = rt ∧ o.fn = fn) {th : Th} (his : o.ph.Is th.fr) (hret : o.ph = .idle → th.r0 = o.ret) (hv : th.v = (ts i).v)
    (hK : ∀ X0, Mid c B Fb T i gg 0 cp [] f (AS g t ws st G ts) X0 V V → Calls Tryz.prog K args V fun e V2 => e = .returned (.tuple #[]) ∧ MacT c B Fb T (AS g t o.ws (st + o.inc) o.G (upd ts i th)) X0 V V2) :
    Calls Tryz.prog K args V (HPost c B Fb T q (HR g t st ts i ls o) X W) := by
  refine (hM.low (σ' := AS g t o.ws (st + o.inc) o.G (upd ts i th)) (upd_v hv _) hK).mono ?_
  rintro e V2 ⟨rfl, ht⟩
  exact ⟨rfl, _, _, ht, hr_low h8 h9 ho his hret hv⟩
set_option maxHeartbeats 2000000 in
/-- A bit of a thread that is in a phase. -/
theorem hbit (hc : c.Ok) (h : HM c B Fb T q (AS g t ws st G ts) ls X V) (hi : i < c.th.toNat) (hq : q ≤ 8) (hid : (ts i).v 0 = .int .i64 i) (hl : ws.length = c.size.toNat) (hs : 0 ≤ st ∧ st ≤ 1000000) (h8 : ls i 8 = ints rt) (h9 : ls i 9 = ints fn) (p : Hp) (his : p.Is (ts i).fr) (hp : p.Pre c ws rt fn) :
    Calls Tryz.prog 31 #[at0 B, .pointer (some ⟨T, i * 10, none⟩)] V (HPost c B Fb T q (HR g t st ts i ls (p.step c i ws G rt fn)) X V) := by
  have hnd := hc.nd
  cases p with
  | idle => exact absurd hp id
  | a0 =>
    obtain ⟨f, hfr, hfn, hpc, hr⟩ := his
    by_cases hz : pt (wordAt ws 0) = 0
    · rw [show Hp.step c i ws G rt fn .a0 = ⟨ws, G, 1, .idle, rt, fn, 0⟩ from if_pos hz]
      exact bit_arena (l := []) (f := f) (o := ⟨ws, G, 1, .idle, rt, fn, 0⟩) (th := (ts i).told [] 0 0 0) h hi hfr (by simp) (by rw [hfn]; decide) (by rw [hfn]; decide) (by rw [hfn]; decide) (by rw [hfn]; decide) rfl (fun X V m => do_alloc (l := []) m hi hfr (by simp) hfn fun gg cp V' hM => alloc_empty (o := 0) hc hM hi rfl (by simp) hl hs hpc hr hp hz)
        (res_quiet h8 h9 ⟨rfl, rfl⟩ rfl (fun _ => rfl) rfl hi (.inl rfl))
    · rw [show Hp.step c i ws G rt fn .a0 = ⟨ws, G, 1, .a1 (wordAt ws 0), rt, fn, 0⟩ from if_neg hz]
      exact bit_arena (l := []) (f := f) (o := ⟨ws, G, 1, .a1 (wordAt ws 0), rt, fn, 0⟩) (th := { ts i with fr := [] ++ [((f.setC 2 (wordAt ws 0)).setC 1 1)] }) h hi hfr (by simp) (by rw [hfn]; decide) (by rw [hfn]; decide) (by rw [hfn]; decide) (by rw [hfn]; decide) rfl (fun X V m => do_alloc (l := []) m hi hfr (by simp) hfn fun gg cp V' hM => alloc_read (o := 0) hc hM hi rfl (by simp) hl hs hpc hr hp hz)
        (res_quiet h8 h9 ⟨rfl, rfl⟩ ⟨_, rfl, hfn, rfl, by rw [reg_pc, reg_set _ 0 0 _ (by omega) (by omega)]; rfl⟩ nofun rfl hi (.inr ⟨[], _, rfl, by simp, by show f.fn ≠ 6; rw [hfn]; decide⟩))
  | a1 w =>
    obtain ⟨f, hfr, hfn, hpc, rfl⟩ := his
    exact bit_arena (l := []) (f := f) (o := Hp.step c i ws G rt fn (.a1 (reg f 0))) (th := { ts i with fr := [] ++ [((f.setC 3 (wordAt ws (c.link (pt (reg f 0))).toNat)).setC 1 2)] }) h hi hfr (by simp) (by rw [hfn]; decide) (by rw [hfn]; decide) (by rw [hfn]; decide) (by rw [hfn]; decide) rfl (fun X V m => do_alloc (l := []) m hi hfr (by simp) hfn fun gg cp V' hM => alloc_link (o := 0) hc hM hi rfl (by simp) hl hs hpc hp.1 rfl hp.2.1 hp.2.2)
      (res_quiet h8 h9 ⟨rfl, rfl⟩ ⟨_, rfl, hfn, rfl, by rw [reg_pc, reg_set _ 1 0 _ (by omega) (by omega)]; rfl, by rw [reg_pc, reg_set _ 1 1 _ (by omega) (by omega)]; rfl⟩ nofun rfl hi (.inr ⟨[], _, rfl, by simp, by show f.fn ≠ 6; rw [hfn]; decide⟩))
  | a2 w x =>
    obtain ⟨f, hfr, hfn, hpc, rfl, rfl⟩ := his
    obtain ⟨p0, p1, p2, p3, p4⟩ := hp
    by_cases hw : wordAt ws 0 = reg f 0
    · rw [show Hp.step c i ws G rt fn (.a2 (reg f 0) (reg f 1)) = ⟨ws.set 0 (nextW (reg f 0) (reg f 1)), G.then c.nd.toNat 0 (pt (reg f 0)), 1, .idle, rt, fn, pt (reg f 0)⟩ from if_pos hw]
      exact bit_arena (l := []) (f := f) (o := ⟨ws.set 0 (nextW (reg f 0) (reg f 1)), G.then c.nd.toNat 0 (pt (reg f 0)), 1, .idle, rt, fn, pt (reg f 0)⟩) (th := (ts i).told [] (pt (reg f 0)) 0 0) h hi hfr (by simp) (by rw [hfn]; decide) (by rw [hfn]; decide) (by rw [hfn]; decide) (by rw [hfn]; decide) rfl (fun X V m => do_alloc (l := []) m hi hfr (by simp) hfn fun gg cp V' hM => alloc_yes (o := 0) hc hM hi rfl (by simp) hl hs hpc p0 ⟨p1, Int.lt_of_le_of_lt p2 (by decide)⟩ rfl ⟨p3, p4⟩ (Int.lt_of_le_of_lt p2 (by decide)) hw)
        (res_quiet h8 h9 ⟨rfl, rfl⟩ rfl (fun _ => rfl) rfl hi (.inl rfl))
    · rw [show Hp.step c i ws G rt fn (.a2 (reg f 0) (reg f 1)) = ⟨ws, G, 1, .a0, rt, fn, 0⟩ from if_neg hw]
      exact bit_arena (l := []) (f := f) (o := ⟨ws, G, 1, .a0, rt, fn, 0⟩) (th := { ts i with fr := [] ++ [f.setC 1 0] }) h hi hfr (by simp) (by rw [hfn]; decide) (by rw [hfn]; decide) (by rw [hfn]; decide) (by rw [hfn]; decide) rfl (fun X V m => do_alloc (l := []) m hi hfr (by simp) hfn fun gg cp V' hM => alloc_no (o := 0) hc hM hi rfl (by simp) hl hs hpc p0 ⟨p1, Int.lt_of_le_of_lt p2 (by decide)⟩ rfl ⟨p3, p4⟩ (Int.lt_of_le_of_lt p2 (by decide)) hw)
        (res_quiet h8 h9 ⟨rfl, rfl⟩ ⟨_, rfl, hfn, rfl, p0⟩ nofun rfl hi (.inr ⟨[], _, rfl, by simp, by show f.fn ≠ 6; rw [hfn]; decide⟩))
  | b0 n =>
    obtain ⟨f0, f, hfr, h06, h0p, hfn, hpc, rfl⟩ := his
    exact bit_arena (l := [f0]) (f := f) (o := Hp.step c i ws G rt fn (.b0 (reg f 0))) (th := { ts i with fr := [f0] ++ [((f.setC 3 (wordAt ws 0)).setC 1 1)] }) h hi hfr (by simp) (by rw [hfn]; decide) (by rw [hfn]; decide) (by rw [hfn]; decide) (by rw [hfn]; decide) rfl (fun X V m => do_release (l := [f0]) m hi hfr (by simp) hfn fun gg cp V' hM => release_read (o := 12) hc hM hi rfl (by simp) hl hs hpc hp)
      (res_quiet h8 h9 ⟨rfl, rfl⟩ ⟨f0, _, rfl, h06, h0p, hfn, rfl, by rw [reg_pc, reg_set _ 1 0 _ (by omega) (by omega)]; rfl, by rw [reg_pc, reg_set _ 1 1 _ (by omega) (by omega)]; rfl⟩ nofun rfl hi (.inr ⟨[f0], _, rfl, by simp, by show f.fn ≠ 6; rw [hfn]; decide⟩))
  | b1 n w =>
    obtain ⟨f0, f, hfr, h06, h0p, hfn, hpc, rfl, rfl⟩ := his
    obtain ⟨p0, p1, p2⟩ := hp
    exact bit_arena (l := [f0]) (f := f) (o := Hp.step c i ws G rt fn (.b1 (reg f 0) (reg f 1))) (th := { ts i with fr := [f0] ++ [f.setC 1 2] }) h hi hfr (by simp) (by rw [hfn]; decide) (by rw [hfn]; decide) (by rw [hfn]; decide) (by rw [hfn]; decide) rfl (fun X V m => do_release (l := [f0]) m hi hfr (by simp) hfn fun gg cp V' hM => release_link (o := 12) hc hM hi rfl (by simp) hl hs hpc ⟨Int.le_trans (by decide) p0, Int.lt_of_le_of_lt (Int.le_trans p1 hnd.2) (by decide)⟩ p2 rfl p0 p1)
      (res_quiet h8 h9 ⟨rfl, rfl⟩ ⟨f0, _, rfl, h06, h0p, hfn, rfl, rfl, rfl⟩ nofun rfl hi (.inr ⟨[f0], _, rfl, by simp, by show f.fn ≠ 6; rw [hfn]; decide⟩))
  | b2 n w =>
    obtain ⟨f0, f, hfr, h06, h0p, hfn, hpc, rfl, rfl⟩ := his
    obtain ⟨p0, p1, p2, p3, p4⟩ := hp
    by_cases hw : wordAt ws 0 = reg f 1
    · rw [show Hp.step c i ws G rt fn (.b2 (reg f 0) (reg f 1)) = goOn (ws.set 0 (nextW (reg f 1) (reg f 0))) (G.then c.nd.toNat 2 (reg f 0)) 1 rt fn from if_pos hw]
      exact hdo_arena (σ' := AS g t (ws.set 0 (nextW (reg f 1) (reg f 0))) (st + 1) (G.then c.nd.toNat 2 (reg f 0)) (upd ts i ((ts i).told [f0] (reg f 0) 0 0))) (l := [f0]) (f := f) h hi hfr (by simp) (by rw [hfn]; decide) (by rw [hfn]; decide) (by rw [hfn]; decide) (by rw [hfn]; decide)
        (fun X' V' m => m.lift (σ' := AS g t (ws.set 0 (nextW (reg f 1) (reg f 0))) (st + 1) (G.then c.nd.toNat 2 (reg f 0)) (upd ts i ((ts i).told [f0] (reg f 0) 0 0))) (upd_v (ts := ts) (th := (ts i).told [f0] (reg f 0) 0 0) rfl _) fun X0 mm => do_release (l := [f0]) mm hi hfr (by simp) hfn fun gg cp V' hM => release_yes (o := 12) hc hM hi rfl (by simp) hl hs hpc ⟨p0, Int.lt_of_le_of_lt p1 (by decide)⟩ p2 rfl ⟨p0, p1⟩ (Int.lt_of_le_of_lt p1 (by decide)) hw)
        (res_on (th := (ts i).told [f0] (reg f 0) 0 0) hi hq h8 h06 h0p rfl rfl (lsW_self h8 h9).symm p3 p4)
    · rw [show Hp.step c i ws G rt fn (.b2 (reg f 0) (reg f 1)) = ⟨ws, G, 1, .b0 (reg f 0), rt, fn, 0⟩ from if_neg hw]
      exact bit_arena (l := [f0]) (f := f) (o := ⟨ws, G, 1, .b0 (reg f 0), rt, fn, 0⟩) (th := { ts i with fr := [f0] ++ [f.setC 1 0] }) h hi hfr (by simp) (by rw [hfn]; decide) (by rw [hfn]; decide) (by rw [hfn]; decide) (by rw [hfn]; decide) rfl (fun X V m => do_release (l := [f0]) m hi hfr (by simp) hfn fun gg cp V' hM => release_no (o := 12) hc hM hi rfl (by simp) hl hs hpc ⟨p0, Int.lt_of_le_of_lt p1 (by decide)⟩ p2 rfl ⟨p0, p1⟩ (Int.lt_of_le_of_lt p1 (by decide)) hw)
        (res_quiet h8 h9 ⟨rfl, rfl⟩ ⟨f0, _, rfl, h06, h0p, hfn, rfl, rfl⟩ nofun rfl hi (.inr ⟨[f0], _, rfl, by simp, by show f.fn ≠ 6; rw [hfn]; decide⟩))
  | p0 s a =>
    obtain ⟨f, hfr, hfn, hpc, rfl, rfl⟩ := his
    obtain ⟨a0, a1, hu⟩ := hp
    by_cases hz : pt (wordAt ws (reg f 1).toNat) = 0
    · rw [show Hp.step c i ws G rt fn (.p0 (reg f 0) (reg f 1)) = ⟨ws, G, 1, .idle, rt, fn, wordAt ws (reg f 1).toNat⟩ from if_pos hz]
      exact hdo_prot (l := []) h hi hfr (by simp) hfn fun gg cp V' hM => bit_low (σ := AS g t ws st G ts) hM h8 h9 (o := ⟨ws, G, 1, .idle, rt, fn, wordAt ws (reg f 1).toNat⟩) ⟨rfl, rfl⟩ (th := (ts i).told [] (wordAt ws (reg f 1).toNat) 0 0) rfl (fun _ => rfl) rfl fun X0 m => prot_none (o := 0) hc m hi rfl (by simp) hl hs hpc rfl a0 a1 rfl hu.1 hu.2 hz
    · rw [show Hp.step c i ws G rt fn (.p0 (reg f 0) (reg f 1)) = ⟨ws, G, 1, .p1 (reg f 0) (reg f 1) (wordAt ws (reg f 1).toNat), rt, fn, 0⟩ from if_neg hz]
      exact hdo_prot (l := []) h hi hfr (by simp) hfn fun gg cp V' hM => bit_low (σ := AS g t ws st G ts) hM h8 h9 (o := ⟨ws, G, 1, .p1 (reg f 0) (reg f 1) (wordAt ws (reg f 1).toNat), rt, fn, 0⟩) ⟨rfl, rfl⟩ (th := { ts i with fr := [] ++ [((f.setC 4 (wordAt ws (reg f 1).toNat)).setC 1 1)] }) ⟨_, rfl, hfn, rfl, by rw [reg_pc, reg_set _ 2 0 _ (by omega) (by omega)]; rfl, by rw [reg_pc, reg_set _ 2 1 _ (by omega) (by omega)]; rfl, by rw [reg_pc, reg_set _ 2 2 _ (by omega) (by omega)]; rfl⟩ nofun rfl fun X0 m => prot_read (o := 0) hc m hi rfl (by simp) hl hs hpc rfl a0 a1 rfl hu.1 hu.2 hz
  | p1 s a w =>
    obtain ⟨f, hfr, hfn, hpc, rfl, rfl, rfl⟩ := his
    obtain ⟨s0, s1, hu⟩ := hp
    exact hdo_prot (l := []) h hi hfr (by simp) hfn fun gg cp V' hM => bit_low (σ := AS g t ws st G ts) hM h8 h9 (o := Hp.step c i ws G rt fn (.p1 (reg f 0) (reg f 1) (reg f 2))) ⟨rfl, rfl⟩ (th := { ts i with fr := [] ++ [f.setC 1 2] }) ⟨_, rfl, hfn, rfl, rfl, rfl, rfl⟩ nofun rfl fun X0 m => prot_name (o := 0) hc m hi rfl (by simp) hl hs hid hpc rfl s0 s1 rfl hu.1 hu.2
  | p2 s a w =>
    obtain ⟨f, hfr, hfn, hpc, rfl, rfl, rfl⟩ := his
    obtain ⟨a0, a1, hu⟩ := hp
    by_cases hz : pt (wordAt ws (reg f 1).toNat) = 0
    · rw [show Hp.step c i ws G rt fn (.p2 (reg f 0) (reg f 1) (reg f 2)) = ⟨ws, G, 1, .idle, rt, fn, wordAt ws (reg f 1).toNat⟩ from if_pos (.inl hz)]
      exact hdo_prot (l := []) h hi hfr (by simp) hfn fun gg cp V' hM => bit_low (σ := AS g t ws st G ts) hM h8 h9 (o := ⟨ws, G, 1, .idle, rt, fn, wordAt ws (reg f 1).toNat⟩) ⟨rfl, rfl⟩ (th := (ts i).told [] (wordAt ws (reg f 1).toNat) 0 0) rfl (fun _ => rfl) rfl fun X0 m => prot_gone (o := 0) hc m hi rfl (by simp) hl hs hpc rfl a0 a1 rfl hu.1 hu.2 hz
    · by_cases hy : wordAt ws (reg f 1).toNat = reg f 2
      · rw [show Hp.step c i ws G rt fn (.p2 (reg f 0) (reg f 1) (reg f 2)) = ⟨ws, G, 1, .idle, rt, fn, wordAt ws (reg f 1).toNat⟩ from if_pos (.inr hy)]
        exact hdo_prot (l := []) h hi hfr (by simp) hfn fun gg cp V' hM => bit_low (σ := AS g t ws st G ts) hM h8 h9 (o := ⟨ws, G, 1, .idle, rt, fn, wordAt ws (reg f 1).toNat⟩) ⟨rfl, rfl⟩ (th := (ts i).told [] (wordAt ws (reg f 1).toNat) 0 0) rfl (fun _ => rfl) rfl fun X0 m => prot_same (o := 0) hc m hi rfl (by simp) hl hs hpc rfl a0 a1 rfl hu.1 hu.2 hz hy
      · rw [show Hp.step c i ws G rt fn (.p2 (reg f 0) (reg f 1) (reg f 2)) = ⟨ws, G, 1, .p1 (reg f 0) (reg f 1) (wordAt ws (reg f 1).toNat), rt, fn, 0⟩ from if_neg (by rintro (h | h); exact hz h; exact hy h)]
        exact hdo_prot (l := []) h hi hfr (by simp) hfn fun gg cp V' hM => bit_low (σ := AS g t ws st G ts) hM h8 h9 (o := ⟨ws, G, 1, .p1 (reg f 0) (reg f 1) (wordAt ws (reg f 1).toNat), rt, fn, 0⟩) ⟨rfl, rfl⟩ (th := { ts i with fr := [] ++ [((f.setC 4 (wordAt ws (reg f 1).toNat)).setC 1 1)] }) ⟨_, rfl, hfn, rfl, by rw [reg_pc, reg_set _ 2 0 _ (by omega) (by omega)]; rfl, by rw [reg_pc, reg_set _ 2 1 _ (by omega) (by omega)]; rfl, by rw [reg_pc, reg_set _ 2 2 _ (by omega) (by omega)]; rfl⟩ nofun rfl fun X0 m => prot_other (o := 0) hc m hi rfl (by simp) hl hs hpc rfl a0 a1 rfl hu.1 hu.2 hz hy
  | wi k =>
    obtain ⟨f, hfr, hfn, hpc⟩ := his
    obtain ⟨k0, k1⟩ := hp
    by_cases hk : k + 1 < c.slots
    · have ho : Hp.step c i ws G rt fn (.wi k) = ⟨ws.set (c.hazard i k).toNat 0, G, 1, .wi (k + 1), rt, fn, 0⟩ := by simp only [Hp.step]; rw [if_pos hk]
      rw [ho]
      exact hdo_wipe (l := []) h hi hfr (by simp) hfn fun gg cp V' hM => bit_low (σ := AS g t ws st G ts) hM h8 h9 (o := ⟨ws.set (c.hazard i k).toNat 0, G, 1, .wi (k + 1), rt, fn, 0⟩) ⟨rfl, rfl⟩ (th := { ts i with fr := [] ++ [f.setC 1 (k + 1)] }) ⟨_, rfl, hfn, rfl⟩ nofun rfl fun X0 m => wipe_more (o := 0) hc m hi rfl (by simp) hl hs hid hpc k0 k1 hk
    · have ho : Hp.step c i ws G rt fn (.wi k) = ⟨ws.set (c.hazard i k).toNat 0, G, 1, .idle, rt, fn, 0⟩ := by simp only [Hp.step]; rw [if_neg hk]
      rw [ho]
      exact hdo_wipe (l := []) h hi hfr (by simp) hfn fun gg cp V' hM => bit_low (σ := AS g t ws st G ts) hM h8 h9 (o := ⟨ws.set (c.hazard i k).toNat 0, G, 1, .idle, rt, fn, 0⟩) ⟨rfl, rfl⟩ (th := (ts i).told [] 0 0 0) rfl (fun _ => rfl) rfl fun X0 m => wipe_last (o := 0) hc m hi rfl (by simp) hl hs hid hpc k0 k1 (by omega)
  | re n =>
    obtain ⟨f, hfr, hfn, rfl⟩ := his
    obtain ⟨hn, p1, p2, p3, p4⟩ := hp
    have hal := all_in hc
    by_cases hlt : (rt.length : Int) + 1 < c.sc
    · rw [show Hp.step c i ws G rt fn (.re (reg f 0)) = ⟨ws, G.then c.nd.toNat 1 (reg f 0), 0, .idle, rt ++ [reg f 0], fn, 0⟩ from if_pos hlt]
      refine hdo_retire (l := []) h hi hfr (by simp) hfn fun gg cp V' hM => (retire_hold hc hM hi rfl (by simp) hq rfl hn.1 hn.2 h8 h9 (by omega) hlt).mono ?_
      intro e W' hp
      refine hp.mono ?_
      rintro σ' ls' ⟨rfl, th, rfl, e1, e2, e3⟩
      exact ⟨th, by simp, rfl, e1, fun _ => e2, e3⟩
    · rw [show Hp.step c i ws G rt fn (.re (reg f 0)) = scanStep c ws (G.then c.nd.toNat 1 (reg f 0)) (rt ++ [reg f 0]) fn 0 from if_neg hlt]
      refine hdo_retire (l := []) h hi hfr (by simp) hfn fun gg cp V' hM => retire_scan hc hM hi rfl (by simp) hq rfl hn.1 hn.2 h8 h9 (by omega) (by omega) fun ts' f' V2 e1 e2 e3 e4 m => ?_
      refine scan_bit (inc := 0) hc m hi hq hl hs e1 e2 (fun a b => lsW_lsW _ _ _ _ _ _) (lsW_8 _ _ _ _) (lsW_9 _ _ _ _) h8 e3 e4 (by omega) (by omega) (by simp; omega) p2 (fun y hy => ?_) p4 rfl
      rcases List.mem_append.1 hy with h | h
      · exact p3 y h
      · rw [List.mem_singleton.1 h]; exact hn
  | scn k =>
    obtain ⟨f, hfr, hfn, hpc⟩ := his
    obtain ⟨k0, k1, p1, p2, p3, p4⟩ := hp
    exact hdo_scan (l := []) h hi hfr (by simp) hfn fun gg cp V' hM => scan_bit (inc := 0) hc hM hi hq hl hs (fun _ => rfl) rfl (fun _ _ => rfl) h8 h9 h8 hfn hpc k0 k1 p1 p2 p3 p4 rfl
theorem goOn_ok (ws : List Int) (G : Go.Proofs.YtemikojaldoofaaGreat.G.GS) (rt fn : List Int) : (goOn ws G 1 rt fn).inc = 1 := by cases fn <;> rfl
theorem scanStep_inc (c : P.Cf) (ws : List Int) (G : Go.Proofs.YtemikojaldoofaaGreat.G.GS) (rt fn : List Int) (k : Int) : (scanStep c ws G rt fn k).inc = 1 := by
  unfold scanStep
  split
  · rfl
  · exact goOn_ok _ _ _ _
theorem Hp.inc {p : Hp} (h : p ≠ .idle) (me : Int) (rt fn : List Int) : (p.step c me ws G rt fn).inc = 1 ∨ (p.step c me ws G rt fn).ph = .idle := by
  cases p <;> simp only [Hp.step]
  all_goals first
    | exact absurd rfl h
    | exact .inl rfl
    | exact .inl trivial
    | (split <;> first | exact .inl rfl | exact .inl trivial | exact .inr trivial | exact .inr rfl | exact .inl (goOn_ok _ _ _ _) | exact .inl (scanStep_inc _ _ _ _ _ _))
    | exact .inl (scanStep_inc _ _ _ _ _ _)
/-- What a step of thread i leaves. -/
def HStepped (c : P.Cf) (B Fb T q g t : Nat) (st : Int) (ts : Nat → Th) (i : Nat) (ls : Nat → Nat → List Value) (o : HOut) (X : Nat → Prop) (W : World) (e : Ending) (W' : World) : Prop :=
  e = .returned (.bool o.ph.on) ∧ ∃ th, HMT c B Fb T q (AS g t o.ws (st + o.inc) o.G (upd ts i th)) (lsW ls i o.rt o.fn) X W W' ∧ o.ph.Is th.fr ∧ (o.ph = .idle → th.r0 = o.ret) ∧ th.v 0 = (ts i).v 0
/-- A step of a thread that is in a phase. -/
theorem hstep (hc : c.Ok) (h : HM c B Fb T q (AS g t ws st G ts) ls X W) (hi : i < c.th.toNat) (hq : q ≤ 8) (hid : (ts i).v 0 = .int .i64 i) (hl : ws.length = c.size.toNat) (hs : 0 ≤ st ∧ st ≤ 1000000) (h8 : ls i 8 = ints rt) (h9 : ls i 9 = ints fn) (p : Hp) (his : p.Is (ts i).fr) (hp : p.Pre c ws rt fn) :
    Calls Tryz.prog 30 #[at0 B, .int .i64 i, .func (.func 31) #[] #[]] W (HStepped c B Fb T q g t st ts i ls (p.step c i ws G rt fn) X W) := by
  have hne : p ≠ .idle := by rintro rfl; exact hp
  obtain ⟨l, f, hfr, hll⟩ : ∃ l f, (ts i).fr = l ++ [f] ∧ l.length ≤ 1000 := by
    have h2 := his.on
    have : (ts i).fr ≠ [] := by
      intro e
      rw [e] at h2
      have := h2.1
      cases p <;> simp [Hp.on] at this
      exact hne rfl
    refine ⟨_, _, (List.dropLast_concat_getLast this).symm, ?_⟩
    simp; omega
  refine (hstep_once (on := (p.step c i ws G rt fn).ph.on) hc h hi hfr hll (fun X V m => hbit hc m hi hq hid hl hs h8 h9 p his hp) ?_).mono ?_
  · rintro σ' ls' ⟨th, rfl, rfl, e1, e2, e3⟩
    refine ⟨?_, ?_, ?_⟩
    · rcases Hp.inc (c := c) (ws := ws) (G := G) hne i rt fn with h | h
      · left
        show st + _ ≠ st
        rw [h]; omega
      · right
        simp only [upd_same]
        rw [h] at e1
        exact e1
    · simp only [upd_same]
      have := e1.on.2
      omega
    · simp only [upd_same]
      exact e1.on.1
  · rintro e W' ⟨rfl, σ', ls', ht, th, rfl, rfl, e1, e2, e3⟩
    exact ⟨rfl, th, ht, e1, e2, e3⟩
end Go.Proofs.YtemikojaldoofaaGreat
namespace Go.Proofs.YtemikojaldoofaaGreat
open Go.ChangeShapes Go.WideShapes Go.ChangeAt Go.RowKit
set_option linter.unusedVariables false
set_option maxRecDepth 20000
open S (ints)
/-- The steps of one thread, one behind the other. -/
def hrun (c : P.Cf) (me : Int) (o : HOut) : Nat → HOut
  | 0 => o
  | j + 1 => let p := hrun c me o j; let n := p.ph.step c me p.ws p.G p.rt p.fn; { n with inc := p.inc + n.inc }
theorem hrun_succ (c : P.Cf) (me : Int) (o : HOut) (j : Nat) : hrun c me o (j + 1) = { (hrun c me o j).ph.step c me (hrun c me o j).ws (hrun c me o j).G (hrun c me o j).rt (hrun c me o j).fn with inc := (hrun c me o j).inc + ((hrun c me o j).ph.step c me (hrun c me o j).ws (hrun c me o j).G (hrun c me o j).rt (hrun c me o j).fn).inc } := rfl
theorem hrun_add (c : P.Cf) (me : Int) (o : HOut) (a : Nat) : ∀ b, hrun c me o (a + b) = hrun c me (hrun c me o a) b
  | 0 => rfl
  | b + 1 => by rw [← Nat.add_assoc, hrun_succ, hrun_succ, hrun_add c me o a b]
variable {c : P.Cf} {B Fb T q : Nat} {X : Nat → Prop} {W W' : World} {g t : Nat} {ws : List Int} {st : Int} {Gs : G.GS} {ts : Nat → Th} {ls : Nat → Nat → List Value}
/-- Amid a run: j steps have been done. -/
def AmidH (c : P.Cf) (B Fb T q g t : Nat) (o : HOut) (st : Int) (ts : Nat → Th) (ls : Nat → Nat → List Value) (X : Nat → Prop) (W : World) (j : Nat) (V : World) : Prop :=
  ∃ th, HMT c B Fb T q (AS g t (hrun c 0 o j).ws (st + (hrun c 0 o j).inc) (hrun c 0 o j).G (upd ts 0 th)) (lsW ls 0 (hrun c 0 o j).rt (hrun c 0 o j).fn) X W V ∧ (hrun c 0 o j).ph.Is th.fr ∧ (0 < j → (hrun c 0 o j).ph = .idle → th.r0 = (hrun c 0 o j).ret) ∧ th.v 0 = (ts 0).v 0
theorem HM.push (h : HM c B Fb T q (AS g t ws st Gs ts) ls X W) {i : Nat} (hi : i < c.th.toNat) (hl : (ts i).fr.length ≤ 1000) (fn : Int) {a : Option Addr} {n cap : Nat} {rs : List Int} (R : F.Row .u64 W a n cap rs) (hn : n ≤ 100) :
    Calls Tryz.prog 28 #[.pointer (some ⟨T, i * 10, none⟩), .int .i64 fn, .slice a n cap] W fun e W' => e = .returned (.tuple #[]) ∧ HMT c B Fb T q (AS g t ws st Gs (upd ts i { ts i with fr := (ts i).fr ++ [⟨fn, 0, rs⟩] })) ls X W W' :=
  h.lift (σ' := AS g t ws st Gs (upd ts i { ts i with fr := (ts i).fr ++ [⟨fn, 0, rs⟩] })) (upd_v (ts := ts) (th := { ts i with fr := (ts i).fr ++ [⟨fn, 0, rs⟩] }) rfl _) fun X0 m => m.push hi hl fn R hn
set_option maxHeartbeats 2000000 in
theorem halone_run (hc : c.Ok) (h : HM c B Fb T q (AS g t ws st Gs ts) ls X W) (hq : q ≤ 8) (hid : (ts 0).v 0 = .int .i64 0) (h0 : (ts 0).fr = []) {rt fn : List Int} (h8 : ls 0 8 = ints rt) (h9 : ls 0 9 = ints fn) (f : Int) {a : Option Addr} {n cap : Nat} {rs : List Int} (R : F.Row .u64 W a n cap rs) (hn : n ≤ 100)
    (p : Hp) (hp : p.Is [⟨f, 0, rs⟩]) (m : Nat) (hm : 1 ≤ m ∧ m ≤ 2999) (hs : 0 ≤ st)
    (hrn : ∀ j, j < m → (hrun c 0 ⟨ws, Gs, 0, p, rt, fn, 0⟩ j).ph.Pre c (hrun c 0 ⟨ws, Gs, 0, p, rt, fn, 0⟩ j).ws (hrun c 0 ⟨ws, Gs, 0, p, rt, fn, 0⟩ j).rt (hrun c 0 ⟨ws, Gs, 0, p, rt, fn, 0⟩ j).fn ∧ (hrun c 0 ⟨ws, Gs, 0, p, rt, fn, 0⟩ j).ws.length = c.size.toNat ∧ 0 ≤ (hrun c 0 ⟨ws, Gs, 0, p, rt, fn, 0⟩ j).inc ∧ st + (hrun c 0 ⟨ws, Gs, 0, p, rt, fn, 0⟩ j).inc ≤ 1000000) (hend : (hrun c 0 ⟨ws, Gs, 0, p, rt, fn, 0⟩ m).ph = .idle) :
    Calls Tryz.prog 16 #[at0 B, .int .i64 0, .int .i64 f, .slice a n cap] W fun e W' => e = .returned (.bool true) ∧
      ∃ th, th.fr = [] ∧ th.r0 = (hrun c 0 ⟨ws, Gs, 0, p, rt, fn, 0⟩ m).ret ∧ th.v 0 = .int .i64 0 ∧ HMT c B Fb T q (AS g t (hrun c 0 ⟨ws, Gs, 0, p, rt, fn, 0⟩ m).ws (st + (hrun c 0 ⟨ws, Gs, 0, p, rt, fn, 0⟩ m).inc) (hrun c 0 ⟨ws, Gs, 0, p, rt, fn, 0⟩ m).G (upd ts 0 th)) (lsW ls 0 (hrun c 0 ⟨ws, Gs, 0, p, rt, fn, 0⟩ m).rt (hrun c 0 ⟨ws, Gs, 0, p, rt, fn, 0⟩ m).fn) X W W' := by
  have ht := hc.th
  obtain ⟨o, hO⟩ : ∃ o : HOut, o = ⟨ws, Gs, 0, p, rt, fn, 0⟩ := ⟨_, rfl⟩
  rw [← hO] at hrn hend ⊢
  have KT := thread_yes B T c.th.toNat 0 W (by omega) h.thread (by omega)
  simp at KT
  have KP : Calls Tryz.prog 28 #[.pointer (some ⟨T, 0, none⟩), .int .i64 f, .slice a n cap] W fun e V' => e = .returned (.tuple #[]) ∧ HMT c B Fb T q (AS g t ws st Gs (upd ts 0 { ts 0 with fr := (ts 0).fr ++ [⟨f, 0, rs⟩] })) ls X W V' := by
    have := h.push (i := 0) (by omega) (by rw [h0]; simp) f R hn
    simpa using this
  have hne : ∀ j, j < m → (hrun c 0 o j).ph.on = true := fun j hj => by
    have := (hrn j hj).1
    generalize (hrun c 0 o j).ph = q at *
    cases q <;> first | rfl | exact absurd this id
  have HS : Hid (∀ j V, j < m → AmidH c B Fb T q g t o st ts ls X W j V → Calls Tryz.prog 30 #[at0 B, .int .i64 0, .func (.func 31) #[] #[]] V fun e V' => e = .returned (.bool (decide (j + 1 < m))) ∧ AmidH c B Fb T q g t o st ts ls X W (j + 1) V') := Lib.hid fun j V hj ⟨th, ⟨X1, k1, l1, m1⟩, a2, a3, a4⟩ => by
    obtain ⟨h1, h2, h3, h4⟩ := hrn j hj
    have := hstep hc m1 (i := 0) (by omega) hq (by rw [upd_same, a4]; exact hid) h2 (by omega) (lsW_8 _ _ _ _) (lsW_9 _ _ _ _) _ (by rw [upd_same]; exact a2) h1
    refine this.mono ?_
    rintro e V' ⟨rfl, th', hT, hIs, hR, hv⟩
    refine ⟨?_, th', ?_, hIs, fun _ => hR, ?_⟩
    · show Ending.returned (.bool (hrun c 0 o (j + 1)).ph.on) = _
      congr 2
      by_cases e : j + 1 = m
      · rw [e, hend]; simp [Hp.on]
      · rw [hne (j + 1) (by omega)]; simp; omega
    · have := HMT.from k1 l1 hT
      rw [upd_upd, lsW_lsW] at this
      rw [hrun_succ]
      rw [Int.add_assoc] at this
      exact this
    · rw [hv, upd_same]; exact a4
  have HE : Hid (∀ V, AmidH c B Fb T q g t o st ts ls X W m V → ∃ th, th.fr = [] ∧ th.r0 = (hrun c 0 o m).ret ∧ th.v 0 = .int .i64 0 ∧ HMT c B Fb T q (AS g t (hrun c 0 o m).ws (st + (hrun c 0 o m).inc) (hrun c 0 o m).G (upd ts 0 th)) (lsW ls 0 (hrun c 0 o m).rt (hrun c 0 o m).fn) X W V) := Lib.hid fun V ⟨th, hT, a2, a3, a4⟩ => by
    rw [hend] at a2
    exact ⟨th, a2, a3 (by omega) hend, a4.trans hid, hT⟩
  have HB : Hid (∀ V', HMT c B Fb T q (AS g t ws st Gs (upd ts 0 { ts 0 with fr := (ts 0).fr ++ [⟨f, 0, rs⟩] })) ls X W V' → AmidH c B Fb T q g t o st ts ls X W 0 V') := Lib.hid fun V' hT => by
    subst hO
    refine ⟨{ ts 0 with fr := (ts 0).fr ++ [⟨f, 0, rs⟩] }, ?_, by rw [h0]; exact hp, fun h => absurd h (by omega), rfl⟩
    show HMT c B Fb T q (AS g t ws (st + 0) Gs _) (lsW ls 0 rt fn) X W V'
    rw [lsW_self h8 h9, Int.add_zero]
    exact hT
  have HM := Lib.hid hm
  clear hrn hend hne hs hp h0 h hc ht R h8 h9 hid hO
  go_enter Tryz.func16, Tryz.ntmps16
  go_wp2_with fail
  refine KT.mono ?_
  rintro e v1 ⟨rfl, rfl⟩
  clear KT
  go_wp2_with fail
  refine KP.mono ?_
  rintro e v2 ⟨rfl, hT⟩
  have H0 := Lib.hid (HB.out _ hT)
  clear hT HB KP
  go_wp2_with fail
  go_loopw [9] (fun i wr => ∃ j : Nat, j < m ∧ i = .int .i64 j ∧ Hid (AmidH c B Fb T q g t o st ts ls X W j wr)) (fun i _ => 3000 - (intOf i).toNat)
  case atStart => exact ⟨0, by have := HM.out; omega, rfl, H0⟩
  case round =>
    obtain ⟨j, hj, rfl, hrel⟩ := hrel
    clear H0
    have KS := HS.out j wr hj hrel.out
    have hj40 : j < 3000 := by have := HM.out; omega
    clear hrel
    by_cases hlast : j + 1 < m
    · have hd : decide (j + 1 < m) = true := by simpa using hlast
      rw [hd] at KS
      go_wp2_with fail
      refine KS.mono ?_
      rintro e v3 ⟨rfl, hT⟩
      have HT := Lib.hid hT
      clear hT KS
      go_wp2
      go_roundw
      case rel => exact ⟨j + 1, hlast, by go_num, HT⟩
      case measure => simp [intOf]; omega
    · have hd : decide (j + 1 < m) = false := by simpa using hlast
      rw [hd] at KS
      have hjm : j + 1 = m := by omega
      rw [hjm] at KS
      have HJ := Lib.hid hjm
      clear hjm hd hlast
      go_wp2_with fail
      refine KS.mono ?_
      rintro e v3 ⟨rfl, hT⟩
      have HX := Lib.hid (HE.out _ hT)
      clear hT KS HE HS
      go_wp2
      go_ret
      exact ⟨rfl, HX.out⟩
end Go.Proofs.YtemikojaldoofaaGreat
namespace Go.Proofs.YtemikojaldoofaaGreat
open Go.ChangeShapes Go.WideShapes Go.ChangeAt Go.RowKit
set_option linter.unusedVariables false
set_option maxRecDepth 20000
open S (ints)
/-- Nobody does anything; thread 0 told r last; what it has retired is rt; the blocks of D are none of the machine's. -/
def Rest (c : P.Cf) (w : World) (D : List (Nat × TypeId × Array Value)) (B Fb T g t : Nat) (ws : List Int) (st : Int) (Gs : G.GS) (rt fn : List Int) (r : Int) (W : World) : Prop :=
  ∃ X ts ls, HM c B Fb T 8 (AS g t ws st Gs ts) ls X W ∧ (ts 0).fr = [] ∧ (ts 0).v 0 = .int .i64 0 ∧ (ts 0).r0 = r ∧ ls 0 8 = ints rt ∧ ls 0 9 = ints fn ∧ (∀ k, X k → w.heap.size ≤ k) ∧ Below w.heap.size w W ∧ ∀ x ∈ D, ¬ X x.1 ∧ Blk W x.1 x.2.1 x.2.2
variable {c : P.Cf} {w W W' : World} {B Fb T g t : Nat} {ws : List Int} {st : Int} {Gs : G.GS} {rt fn : List Int} {r : Int} {D : List (Nat × TypeId × Array Value)}
theorem Rest.below (h : Rest c w D B Fb T g t ws st Gs rt fn r W) (hb : Below W.heap.size W W') : Rest c w D B Fb T g t ws st Gs rt fn r W' := by
  obtain ⟨X, ts, ls, m, a1, a2, a3, a4, a5, a6, a7, a8⟩ := h
  exact ⟨X, ts, ls, m.below hb, a1, a2, a3, a4, a5, a6, P.below_then a7 hb (Nat.le_refl _), fun x hx => ⟨(a8 x hx).1, (a8 x hx).2.agree (hb.block _ (a8 x hx).2.lt)⟩⟩
theorem Rest.bel (h : Rest c w D B Fb T g t ws st Gs rt fn r W) : Below w.heap.size w W := by
  obtain ⟨X, ts, ls, m, a1, a2, a3, a4, a5, a6, a7, a8⟩ := h
  exact a7
theorem rest_turn {X X' : Nat → Prop} (hX : ∀ k, X k → w.heap.size ≤ k) (hb : Below w.heap.size w W) (hD : ∀ x ∈ D, ¬ X x.1 ∧ Blk W x.1 x.2.1 x.2.2) (hk : Keeps X W W') (hl : Later X W X') : (∀ k, X' k → w.heap.size ≤ k) ∧ Below w.heap.size w W' ∧ ∀ x ∈ D, ¬ X' x.1 ∧ Blk W' x.1 x.2.1 x.2.2 :=
  ⟨fun k h => (hl k h).elim (hX k) fun h => Nat.le_trans hb.size h, hb.trans (hk.below hb.size hX), fun x hx => ⟨fun h => (hl _ h).elim (hD x hx).1 fun h => by have := (hD x hx).2.lt; omega, (hD x hx).2.agree (hk.block _ (hD x hx).2.lt (hD x hx).1)⟩⟩
theorem below_D {X : Nat → Prop} (hD : ∀ x ∈ D, ¬ X x.1 ∧ Blk W x.1 x.2.1 x.2.2) (hb : Below W.heap.size W W') : ∀ x ∈ D, ¬ X x.1 ∧ Blk W' x.1 x.2.1 x.2.2 := fun x hx => ⟨(hD x hx).1, (hD x hx).2.agree (hb.block _ (hD x hx).2.lt)⟩
/-- A block that was there when the machine was made, or that somebody else made since. -/
theorem Rest.add (h : Rest c w D B Fb T g t ws st Gs rt fn r W) (hb : Below W.heap.size W W') {k : Nat} {ty : TypeId} {cs : Array Value} (hB : Blk W' k ty cs) (hk : W.heap.size ≤ k ∨ k < w.heap.size) : Rest c w ((k, ty, cs) :: D) B Fb T g t ws st Gs rt fn r W' := by
  obtain ⟨X, ts, ls, m, a1, a2, a3, a4, a5, a6, a7, a8⟩ := h
  refine ⟨X, ts, ls, m.below hb, a1, a2, a3, a4, a5, a6, P.below_then a7 hb (Nat.le_refl _), fun x hx => ?_⟩
  rcases List.mem_cons.1 hx with rfl | hx
  · refine ⟨fun hX => ?_, hB⟩
    have h1 := m.lt hX
    have h2 := a6 _ hX
    dsimp only at h1 h2
    omega
  · exact below_D (fun x hx => a8 x hx) hb x hx
theorem Rest.since {w0 : World} (h : Rest c w D B Fb T g t ws st Gs rt fn r W) (hb : Below w0.heap.size w0 w) : Rest c w0 D B Fb T g t ws st Gs rt fn r W := by
  obtain ⟨X, ts, ls, m, a1, a2, a3, a4, a5, a6, a7, a8⟩ := h
  exact ⟨X, ts, ls, m, a1, a2, a3, a4, a5, fun k hk => Nat.le_trans hb.size (a6 k hk), hb.trans (a7.mono hb.size), a8⟩
theorem Rest.blk (h : Rest c w D B Fb T g t ws st Gs rt fn r W) {x : Nat × TypeId × Array Value} (hx : x ∈ D) : Blk W x.1 x.2.1 x.2.2 := by
  obtain ⟨X, ts, ls, m, a1, a2, a3, a4, a5, a6, a7, a8⟩ := h
  exact (a8 x hx).2
/-- A routine of thread 0, done alone. -/
theorem Rest.alone (hc : c.Ok) (h : Rest c w D B Fb T g t ws st Gs rt fn r W) (f : Int) {a : Option Addr} {n cap : Nat} {rs : List Int} (R : F.Row .u64 W a n cap rs) (hn : n ≤ 100) (p : Hp) (hp : p.Is [⟨f, 0, rs⟩]) (m : Nat) (hm : 1 ≤ m ∧ m ≤ 2999) (hs : 0 ≤ st)
    (hrn : ∀ j, j < m → (hrun c 0 ⟨ws, Gs, 0, p, rt, fn, 0⟩ j).ph.Pre c (hrun c 0 ⟨ws, Gs, 0, p, rt, fn, 0⟩ j).ws (hrun c 0 ⟨ws, Gs, 0, p, rt, fn, 0⟩ j).rt (hrun c 0 ⟨ws, Gs, 0, p, rt, fn, 0⟩ j).fn ∧ (hrun c 0 ⟨ws, Gs, 0, p, rt, fn, 0⟩ j).ws.length = c.size.toNat ∧ 0 ≤ (hrun c 0 ⟨ws, Gs, 0, p, rt, fn, 0⟩ j).inc ∧ st + (hrun c 0 ⟨ws, Gs, 0, p, rt, fn, 0⟩ j).inc ≤ 1000000)
    {o : HOut} (ho : hrun c 0 ⟨ws, Gs, 0, p, rt, fn, 0⟩ m = o) (hend : o.ph = .idle) :
    Calls Tryz.prog 16 #[at0 B, .int .i64 0, .int .i64 f, .slice a n cap] W fun e W' => e = .returned (.bool true) ∧ Rest c w D B Fb T g t o.ws (st + o.inc) o.G o.rt o.fn o.ret W' := by
  subst ho
  obtain ⟨X, ts, ls, m0, a1, a2, a3, a4, a5, a6, a7, a8⟩ := h
  refine (halone_run hc m0 (Nat.le_refl 8) a2 a1 a4 a5 f R hn p hp m hm hs hrn hend).mono ?_
  rintro e W' ⟨rfl, th, b1, b2, b3, X', k, l, m'⟩
  obtain ⟨q1, q2⟩ := rest_turn a6 a7 a8 k l
  exact ⟨rfl, X', _, _, m', by rw [upd_same]; exact b1, by rw [upd_same]; exact b3, by rw [upd_same]; exact b2, lsW_8 _ _ _ _, lsW_9 _ _ _ _, q1, q2⟩
/-- A turn of the memory. -/
theorem Rest.mturn {X : Nat → Prop} {ts : Nat → Th} {ls : Nat → Nat → List Value} (h : HM c B Fb T 8 (AS g t ws st Gs ts) ls X W) {K : Nat} {args : Array Value} {v : Value} {ws' : List Int} {st' : Int}
    (hK : ∀ O, MachAt B c Fb T (mk ws st) (some (g, t, Gs)) false O W → Calls Tryz.prog K args W (MDoes B c Fb T v (mk ws' st') (some (g, t, Gs)) false O W)) : Calls Tryz.prog K args W fun e W' => e = .returned v ∧ HMT c B Fb T 8 (AS g t ws' st' Gs ts) ls X W W' :=
  h.lift (σ' := AS g t ws' st' Gs ts) (fun _ _ => rfl) fun X0 m => (m.one (v := v) (K := K) (args := args) (ms' := mk ws' st') (gs' := some (g, t, Gs)) (bad' := false) hK).mono fun e W' ⟨h1, h2, h3⟩ => ⟨h1, h2⟩
/-- The memory behind Mem. -/
theorem Rest.mem (h : Rest c w D B Fb T g t ws st Gs rt fn r W) : ∃ M, (∀ V, Below W.heap.size W V → Calls Tryz.prog 12 #[at0 B] V fun e V' => e = .returned (at0 M) ∧ V = V') ∧ (∀ V, Below W.heap.size W V → Calls Tryz.prog 15 #[at0 M] V fun e V' => e = .returned (.int .i64 st) ∧ V = V') ∧
    (∀ V (a x : Int), Below W.heap.size W V → ws.length ≤ 4096 → 0 ≤ st → st ≤ 1000000 → 0 ≤ a → a < ws.length → Calls Tryz.prog 13 #[at0 M, .int .i64 a, .int .u64 x] V fun e V' => e = .returned (.int .i64 0) ∧ Rest c w D B Fb T g t (ws.set a.toNat x) (st + 1) Gs rt fn r V') ∧
    (∀ V (a : Int), Below W.heap.size W V → ws.length ≤ 4096 → 0 ≤ st → st ≤ 1000000 → 0 ≤ a → a < ws.length → Calls Tryz.prog 18 #[at0 M, .int .i64 a] V fun e V' => e = .returned (.tuple #[.int .u64 (wordAt ws a.toNat), .int .i64 0]) ∧ Rest c w D B Fb T g t ws (st + 1) Gs rt fn r V') := by
  obtain ⟨X, ts, ls, m, a1, a2, a3, a4, a5, a6, a7, a8⟩ := h
  obtain ⟨X0, ⟨O, cs, vs, rfl, ⟨M, Om, rfl, hb, hm, hg⟩, hr⟩, hX⟩ := m.mac
  have uniq : ∀ V, Below W.heap.size W V → ∀ (M' : Nat) (gs' : Value), Blk V B 79 (machCs c M' gs' Fb T c.th.toNat false) → M' = M := fun V hV M' gs' hb' => by
    have h1 := (hb.agree (hV.block B hb.lt)).cell 7
    have h2 := hb'.cell 7
    rw [h1] at h2
    simp [machCs] at h2
    exact h2.symm
  refine ⟨M, fun V hV => mem_any B M c _ Fb T _ false V (hb.agree (hV.block B hb.lt)), fun V hV => steps_any M (mk ws st) Om V (hm.agree fun k ho => hV.block k (MemAt.lt hm ho)), fun V a x hV hl h0 h1 b0 b1 => ?_, fun V a hV hl h0 h1 b0 b1 => ?_⟩
  · have hr : rightB 1 a 0 ws.length = true := right1 (by omega) (by omega) b0 b1
    refine (Rest.mturn (m.below hV) (v := .int .i64 0) (ws' := ws.set a.toNat x) (st' := st + 1) fun O' hM => ?_).mono ?_
    · obtain ⟨M', Om', rfl, hb', hm', hg'⟩ := hM
      obtain rfl := uniq V hV M' _ hb'
      have := mstore M' (mk ws st) Om' a x V hm' (mk_fine h0 h1 hl)
      simp only [msR, hr, if_true, errR] at this
      refine this.mono ?_
      rintro e V' ⟨rfl, ht⟩
      exact ⟨rfl, MachAt.mem hb' hm' hg' (by simpa [act, MS.counted] using ht)⟩
    · rintro e V' ⟨rfl, X', k, l, m'⟩
      obtain ⟨q1, q2⟩ := rest_turn a6 (P.below_then a7 hV (Nat.le_refl _)) (below_D a8 hV) k l
      exact ⟨rfl, X', ts, ls, m', a1, a2, a3, a4, a5, q1, q2⟩
  · have hr : rightB 0 a 0 ws.length = true := right1 (by omega) (by omega) b0 b1
    refine (Rest.mturn (m.below hV) (v := .tuple #[.int .u64 (wordAt ws a.toNat), .int .i64 0]) (ws' := ws) (st' := st + 1) fun O' hM => ?_).mono ?_
    · obtain ⟨M', Om', rfl, hb', hm', hg'⟩ := hM
      obtain rfl := uniq V hV M' _ hb'
      have := mload M' (mk ws st) Om' a V hm' (mk_fine h0 h1 hl)
      simp only [msR, valR, hr, if_true, errR] at this
      refine this.mono ?_
      rintro e V' ⟨rfl, ht⟩
      exact ⟨by simp [act], MachAt.mem hb' hm' hg' (by simpa [act, MS.counted] using ht)⟩
    · rintro e V' ⟨rfl, X', k, l, m'⟩
      obtain ⟨q1, q2⟩ := rest_turn a6 (P.below_then a7 hV (Nat.le_refl _)) (below_D a8 hV) k l
      exact ⟨rfl, X', ts, ls, m', a1, a2, a3, a4, a5, q1, q2⟩
theorem Rest.plan (h : Rest c w D B Fb T g t ws st Gs rt fn r W) : Calls Tryz.prog 10 #[at0 B] W fun e W' => e = .returned c.v ∧ Below W.heap.size W W' := by
  obtain ⟨X, ts, ls, m, -⟩ := h
  obtain ⟨X0, m, -⟩ := m.mac
  exact m.plan
theorem Rest.thread (hc : c.Ok) (h : Rest c w D B Fb T g t ws st Gs rt fn r W) : (Calls Tryz.prog 17 #[at0 B, .int .i64 0] W fun e W' => e = .returned (.pointer (some ⟨T, 0, none⟩)) ∧ W = W') ∧ W.cell? ⟨T, 2, none⟩ = some (.int .u64 r) ∧ (∃ a cap, W.cell? ⟨T, 8, none⟩ = some (.slice a rt.length cap)) ∧ ∃ v, W.cell? ⟨T, 8, none⟩ = some v ∧ S.Reads W v rt := by
  obtain ⟨X, ts, ls, m, a1, a2, a3, a4, a5, a6, a7, a8⟩ := h
  have hth := hc.th
  have h1 := thread_yes B T c.th.toNat 0 W (by omega) m.thread (by omega)
  simp at h1
  obtain ⟨X0, m0, -⟩ := m.mac
  have h2 := (m0.ret (i := 0) (by omega)).1
  simp only [Nat.zero_mul, Nat.zero_add, a3] at h2
  obtain ⟨c8, -, r8, -⟩ := m.list (i := 0) (j := 8) (by omega) (by omega) (by omega) (by omega)
  rw [a4, S.ints_len] at r8
  change R.Row W 3 _ _ _ at r8
  simp only [Nat.zero_mul, Nat.zero_add] at c8
  obtain ⟨a, cap, e, -, -⟩ := r8.form
  exact ⟨h1, h2, ⟨a, cap, by rw [c8]; exact congrArg _ e⟩, _, c8, S.row_reads r8⟩
theorem Rest.ghost (h : Rest c w D B Fb T g t ws st Gs rt fn r W) : ∀ V, Below W.heap.size W V → (Calls Tryz.prog 22 #[at0 B] V fun e V' => e = .returned (at0 g) ∧ V = V') ∧ (∀ k, Calls Tryz.prog 24 #[at0 g, .int .i64 k] V fun e V' => e = .returned (.int .i64 (G.countOf Gs.tags k)) ∧ V = V') ∧ (∀ k, Calls Tryz.prog 23 #[at0 g, .int .i64 k] V fun e V' => e = .returned (.int .i64 (tagOf c.nd.toNat Gs k)) ∧ V = V') := by
  obtain ⟨X, ts, ls, m, -⟩ := h
  obtain ⟨X0, ⟨O, cs, vs, rfl, ⟨M, Om, rfl, hb, hm, hg⟩, hr⟩, hX⟩ := m.mac
  intro V hV
  have hgV : gOk c.nd.toNat (some (g, t, Gs)) V := hg.agree fun k hk => hV.block k (hg.lt hk)
  exact ⟨ghost_any B M c _ Fb T _ false V (hb.agree (hV.block B hb.lt)), fun k => G.count_any g _ _ Gs k V hgV.1, fun k => tag_any g _ _ Gs k V hgV.1⟩
theorem Rest.fault (h : Rest c w D B Fb T g t ws st Gs rt fn r W) (hk : Gs.k = 0) : Calls Tryz.prog 26 #[at0 B] W fun e W' => e = .returned (.bool false) ∧ Below W.heap.size W W' := by
  obtain ⟨X, ts, ls, m, -⟩ := h
  obtain ⟨X0, m0, -⟩ := m.mac
  have := m0.fault
  have h0 : gBad (some (g, t, Gs)) = false := by simp [gBad, hk]
  simp only [h0, Bool.or_false] at this
  exact this
theorem Rest.chain (hc : c.Ok) (h : Rest c w D B Fb T g t ws st Gs rt fn r W) {L : List Int} (hF : Free c ws L) : Calls Tryz.prog 25 #[at0 B] W (Listed L W) := by
  obtain ⟨X, ts, ls, m, -⟩ := h
  obtain ⟨X0, m0, -⟩ := m.mac
  exact chain_any hc m0 hF
/-- A new machine is at rest. -/
theorem born_rest (hc : c.Ok) : Calls Tryz.prog 9 #[c.v, .slice none 0 0, .bool true] w fun e W => ∃ B Fb T g t, e = .returned (.tuple #[at0 B, .int .i64 0]) ∧ Rest c w [] B Fb T g t (firstMS c).ws (firstMS c).st (ghost0 c) [] [] 0 W := by
  refine (new_ok c _ true 0 [] w hc (fun W' _ => F.new_nil W')).mono ?_
  rintro e W ⟨Cb1, Pb1, B, Fb, T, ad, cap1, gs, O, rfl, hgs, hA⟩
  obtain ⟨g, t, rfl⟩ : ∃ g t, gs = some (g, t, ghost0 c) := hgs
  obtain ⟨X, cs, m, hX, hth, -⟩ := born_mac hc hA
  have hc2 := hc.th
  have hv : ∀ i j, i < c.th.toNat → 8 ≤ j → j < 10 → (ts0 cs i).v j = .slice none 0 0 := fun i j hi h0 h1 => by
    obtain ⟨p, s, q, e, -⟩ := ts0_v (hth i hi) h1
    rw [e]
    obtain rfl | rfl : j = 8 ∨ j = 9 := by omega
    · rfl
    · rfl
  refine ⟨B, Fb, T, g, t, rfl, _, ts0 cs, fun _ _ => [], ⟨X, rfl, m, ⟨fun i j hi h0 h1 => ?_, fun i j hi h0 h1 k e => ?_, fun i j i' j' hi h0 h1 _ _ _ _ k e => ?_⟩⟩, rfl, ?_, rfl, rfl, rfl, ?_, hA.bel, fun x hx => by cases hx⟩
  · show R.Row W _ ((ts0 cs i).v j) 0 []
    rw [hv i j hi h0 h1]
    exact R.Row.nil _ _
  · have e2 : ((ts0 cs i).v j).ownBlock = some k := e
    rw [hv i j hi h0 h1] at e2; cases e2
  · have e2 : ((ts0 cs i).v j).ownBlock = some k := e
    rw [hv i j hi h0 h1] at e2; cases e2
  · obtain ⟨p, s, q, e, -⟩ := ts0_v (hth 0 (by omega)) (j := 0) (by omega)
    exact e
  · rintro k (hk | ⟨i, j, hi, h0, h1, e⟩)
    · exact hX k hk
    · have e2 : ((ts0 cs i).v j).ownBlock = some k := e
      rw [hv i j hi h0 h1] at e2; cases e2
end Go.Proofs.YtemikojaldoofaaGreat
namespace Go.Proofs.YtemikojaldoofaaGreat
open Go.ChangeShapes Go.WideShapes Go.ChangeAt Go.RowKit
set_option linter.unusedVariables false
set_option maxRecDepth 20000
theorem ex_ok : ex.Ok := by constructor <;> decide
theorem ex_gh : ghost0 ex = ⟨[0, 0], 0, 0⟩ := by kernel_rfl
theorem lv_alloc_end : hrun ex 0 ⟨[2, 0, 1, 0, 0, 0, 0, 0, 0, 0, 2, 0, 0, 0, 0, 0, 0, 0, 0, 0], ⟨[0, 0], 0, 0⟩, 0, .a0, [], [], 0⟩ 3 = ⟨[131076, 0, 1, 0, 0, 0, 0, 0, 0, 0, 2, 0, 0, 0, 0, 0, 0, 0, 0, 0], ⟨[1, 0], 0, 0⟩, 3, .idle, [], [], 1⟩ := by kernel_rfl
theorem lv_alloc_run {st : Int} (hs : 0 ≤ st ∧ st ≤ 1000) : ∀ j, j < 3 → (hrun ex 0 ⟨[2, 0, 1, 0, 0, 0, 0, 0, 0, 0, 2, 0, 0, 0, 0, 0, 0, 0, 0, 0], ⟨[0, 0], 0, 0⟩, 0, .a0, [], [], 0⟩ j).ph.Pre ex (hrun ex 0 ⟨[2, 0, 1, 0, 0, 0, 0, 0, 0, 0, 2, 0, 0, 0, 0, 0, 0, 0, 0, 0], ⟨[0, 0], 0, 0⟩, 0, .a0, [], [], 0⟩ j).ws (hrun ex 0 ⟨[2, 0, 1, 0, 0, 0, 0, 0, 0, 0, 2, 0, 0, 0, 0, 0, 0, 0, 0, 0], ⟨[0, 0], 0, 0⟩, 0, .a0, [], [], 0⟩ j).rt (hrun ex 0 ⟨[2, 0, 1, 0, 0, 0, 0, 0, 0, 0, 2, 0, 0, 0, 0, 0, 0, 0, 0, 0], ⟨[0, 0], 0, 0⟩, 0, .a0, [], [], 0⟩ j).fn ∧ (hrun ex 0 ⟨[2, 0, 1, 0, 0, 0, 0, 0, 0, 0, 2, 0, 0, 0, 0, 0, 0, 0, 0, 0], ⟨[0, 0], 0, 0⟩, 0, .a0, [], [], 0⟩ j).ws.length = ex.size.toNat ∧ 0 ≤ (hrun ex 0 ⟨[2, 0, 1, 0, 0, 0, 0, 0, 0, 0, 2, 0, 0, 0, 0, 0, 0, 0, 0, 0], ⟨[0, 0], 0, 0⟩, 0, .a0, [], [], 0⟩ j).inc ∧ st + (hrun ex 0 ⟨[2, 0, 1, 0, 0, 0, 0, 0, 0, 0, 2, 0, 0, 0, 0, 0, 0, 0, 0, 0], ⟨[0, 0], 0, 0⟩, 0, .a0, [], [], 0⟩ j).inc ≤ 1000000 := by
  intro j hj
  obtain rfl | rfl | rfl : j = 0 ∨ j = 1 ∨ j = 2 := by omega
  · rw [show hrun ex 0 ⟨[2, 0, 1, 0, 0, 0, 0, 0, 0, 0, 2, 0, 0, 0, 0, 0, 0, 0, 0, 0], ⟨[0, 0], 0, 0⟩, 0, .a0, [], [], 0⟩ 0 = ⟨[2, 0, 1, 0, 0, 0, 0, 0, 0, 0, 2, 0, 0, 0, 0, 0, 0, 0, 0, 0], ⟨[0, 0], 0, 0⟩, 0, .a0, [], [], 0⟩ from by kernel_rfl]
    exact ⟨by unfold Hp.Pre; decide, by decide, by decide, by dsimp only; omega⟩
  · rw [show hrun ex 0 ⟨[2, 0, 1, 0, 0, 0, 0, 0, 0, 0, 2, 0, 0, 0, 0, 0, 0, 0, 0, 0], ⟨[0, 0], 0, 0⟩, 0, .a0, [], [], 0⟩ 1 = ⟨[2, 0, 1, 0, 0, 0, 0, 0, 0, 0, 2, 0, 0, 0, 0, 0, 0, 0, 0, 0], ⟨[0, 0], 0, 0⟩, 1, .a1 2, [], [], 0⟩ from by kernel_rfl]
    exact ⟨by unfold Hp.Pre; decide, by decide, by decide, by dsimp only; omega⟩
  · rw [show hrun ex 0 ⟨[2, 0, 1, 0, 0, 0, 0, 0, 0, 0, 2, 0, 0, 0, 0, 0, 0, 0, 0, 0], ⟨[0, 0], 0, 0⟩, 0, .a0, [], [], 0⟩ 2 = ⟨[2, 0, 1, 0, 0, 0, 0, 0, 0, 0, 2, 0, 0, 0, 0, 0, 0, 0, 0, 0], ⟨[0, 0], 0, 0⟩, 2, .a2 2 2, [], [], 0⟩ from by kernel_rfl]
    exact ⟨by unfold Hp.Pre; decide, by decide, by decide, by dsimp only; omega⟩
theorem lv_ret_end : hrun ex 0 ⟨[131076, 0, 1, 0, 0, 0, 0, 0, 0, 1, 2, 0, 0, 0, 0, 0, 0, 0, 0, 0], ⟨[1, 0], 0, 0⟩, 0, .re 1, [], [], 0⟩ 2 = ⟨[131076, 0, 1, 0, 0, 0, 0, 0, 0, 1, 2, 0, 0, 0, 0, 0, 0, 0, 0, 0], ⟨[2, 0], 0, 0⟩, 2, .idle, [1], [], 0⟩ := by kernel_rfl
theorem lv_ret_run {st : Int} (hs : 0 ≤ st ∧ st ≤ 1000) : ∀ j, j < 2 → (hrun ex 0 ⟨[131076, 0, 1, 0, 0, 0, 0, 0, 0, 1, 2, 0, 0, 0, 0, 0, 0, 0, 0, 0], ⟨[1, 0], 0, 0⟩, 0, .re 1, [], [], 0⟩ j).ph.Pre ex (hrun ex 0 ⟨[131076, 0, 1, 0, 0, 0, 0, 0, 0, 1, 2, 0, 0, 0, 0, 0, 0, 0, 0, 0], ⟨[1, 0], 0, 0⟩, 0, .re 1, [], [], 0⟩ j).ws (hrun ex 0 ⟨[131076, 0, 1, 0, 0, 0, 0, 0, 0, 1, 2, 0, 0, 0, 0, 0, 0, 0, 0, 0], ⟨[1, 0], 0, 0⟩, 0, .re 1, [], [], 0⟩ j).rt (hrun ex 0 ⟨[131076, 0, 1, 0, 0, 0, 0, 0, 0, 1, 2, 0, 0, 0, 0, 0, 0, 0, 0, 0], ⟨[1, 0], 0, 0⟩, 0, .re 1, [], [], 0⟩ j).fn ∧ (hrun ex 0 ⟨[131076, 0, 1, 0, 0, 0, 0, 0, 0, 1, 2, 0, 0, 0, 0, 0, 0, 0, 0, 0], ⟨[1, 0], 0, 0⟩, 0, .re 1, [], [], 0⟩ j).ws.length = ex.size.toNat ∧ 0 ≤ (hrun ex 0 ⟨[131076, 0, 1, 0, 0, 0, 0, 0, 0, 1, 2, 0, 0, 0, 0, 0, 0, 0, 0, 0], ⟨[1, 0], 0, 0⟩, 0, .re 1, [], [], 0⟩ j).inc ∧ st + (hrun ex 0 ⟨[131076, 0, 1, 0, 0, 0, 0, 0, 0, 1, 2, 0, 0, 0, 0, 0, 0, 0, 0, 0], ⟨[1, 0], 0, 0⟩, 0, .re 1, [], [], 0⟩ j).inc ≤ 1000000 := by
  intro j hj
  obtain rfl | rfl : j = 0 ∨ j = 1 := by omega
  · rw [show hrun ex 0 ⟨[131076, 0, 1, 0, 0, 0, 0, 0, 0, 1, 2, 0, 0, 0, 0, 0, 0, 0, 0, 0], ⟨[1, 0], 0, 0⟩, 0, .re 1, [], [], 0⟩ 0 = ⟨[131076, 0, 1, 0, 0, 0, 0, 0, 0, 1, 2, 0, 0, 0, 0, 0, 0, 0, 0, 0], ⟨[1, 0], 0, 0⟩, 0, .re 1, [], [], 0⟩ from by kernel_rfl]
    exact ⟨by unfold Hp.Pre; decide, by decide, by decide, by dsimp only; omega⟩
  · rw [show hrun ex 0 ⟨[131076, 0, 1, 0, 0, 0, 0, 0, 0, 1, 2, 0, 0, 0, 0, 0, 0, 0, 0, 0], ⟨[1, 0], 0, 0⟩, 0, .re 1, [], [], 0⟩ 1 = ⟨[131076, 0, 1, 0, 0, 0, 0, 0, 0, 1, 2, 0, 0, 0, 0, 0, 0, 0, 0, 0], ⟨[2, 0], 0, 0⟩, 1, .scn 1, [1], [0], 0⟩ from by kernel_rfl]
    exact ⟨by unfold Hp.Pre; decide, by decide, by decide, by dsimp only; omega⟩
theorem lv_clear_end : hrun ex 0 ⟨[131076, 0, 1, 0, 0, 0, 0, 0, 0, 1, 2, 0, 0, 0, 0, 0, 0, 0, 0, 0], ⟨[2, 0], 0, 0⟩, 0, .wi 0, [1], [], 0⟩ 2 = ⟨[131076, 0, 1, 0, 0, 0, 0, 0, 0, 0, 2, 0, 0, 0, 0, 0, 0, 0, 0, 0], ⟨[2, 0], 0, 0⟩, 2, .idle, [1], [], 0⟩ := by kernel_rfl
theorem lv_clear_run {st : Int} (hs : 0 ≤ st ∧ st ≤ 1000) : ∀ j, j < 2 → (hrun ex 0 ⟨[131076, 0, 1, 0, 0, 0, 0, 0, 0, 1, 2, 0, 0, 0, 0, 0, 0, 0, 0, 0], ⟨[2, 0], 0, 0⟩, 0, .wi 0, [1], [], 0⟩ j).ph.Pre ex (hrun ex 0 ⟨[131076, 0, 1, 0, 0, 0, 0, 0, 0, 1, 2, 0, 0, 0, 0, 0, 0, 0, 0, 0], ⟨[2, 0], 0, 0⟩, 0, .wi 0, [1], [], 0⟩ j).ws (hrun ex 0 ⟨[131076, 0, 1, 0, 0, 0, 0, 0, 0, 1, 2, 0, 0, 0, 0, 0, 0, 0, 0, 0], ⟨[2, 0], 0, 0⟩, 0, .wi 0, [1], [], 0⟩ j).rt (hrun ex 0 ⟨[131076, 0, 1, 0, 0, 0, 0, 0, 0, 1, 2, 0, 0, 0, 0, 0, 0, 0, 0, 0], ⟨[2, 0], 0, 0⟩, 0, .wi 0, [1], [], 0⟩ j).fn ∧ (hrun ex 0 ⟨[131076, 0, 1, 0, 0, 0, 0, 0, 0, 1, 2, 0, 0, 0, 0, 0, 0, 0, 0, 0], ⟨[2, 0], 0, 0⟩, 0, .wi 0, [1], [], 0⟩ j).ws.length = ex.size.toNat ∧ 0 ≤ (hrun ex 0 ⟨[131076, 0, 1, 0, 0, 0, 0, 0, 0, 1, 2, 0, 0, 0, 0, 0, 0, 0, 0, 0], ⟨[2, 0], 0, 0⟩, 0, .wi 0, [1], [], 0⟩ j).inc ∧ st + (hrun ex 0 ⟨[131076, 0, 1, 0, 0, 0, 0, 0, 0, 1, 2, 0, 0, 0, 0, 0, 0, 0, 0, 0], ⟨[2, 0], 0, 0⟩, 0, .wi 0, [1], [], 0⟩ j).inc ≤ 1000000 := by
  intro j hj
  obtain rfl | rfl : j = 0 ∨ j = 1 := by omega
  · rw [show hrun ex 0 ⟨[131076, 0, 1, 0, 0, 0, 0, 0, 0, 1, 2, 0, 0, 0, 0, 0, 0, 0, 0, 0], ⟨[2, 0], 0, 0⟩, 0, .wi 0, [1], [], 0⟩ 0 = ⟨[131076, 0, 1, 0, 0, 0, 0, 0, 0, 1, 2, 0, 0, 0, 0, 0, 0, 0, 0, 0], ⟨[2, 0], 0, 0⟩, 0, .wi 0, [1], [], 0⟩ from by kernel_rfl]
    exact ⟨by unfold Hp.Pre; decide, by decide, by decide, by dsimp only; omega⟩
  · rw [show hrun ex 0 ⟨[131076, 0, 1, 0, 0, 0, 0, 0, 0, 1, 2, 0, 0, 0, 0, 0, 0, 0, 0, 0], ⟨[2, 0], 0, 0⟩, 0, .wi 0, [1], [], 0⟩ 1 = ⟨[131076, 0, 1, 0, 0, 0, 0, 0, 0, 1, 2, 0, 0, 0, 0, 0, 0, 0, 0, 0], ⟨[2, 0], 0, 0⟩, 1, .wi 1, [1], [], 0⟩ from by kernel_rfl]
    exact ⟨by unfold Hp.Pre; decide, by decide, by decide, by dsimp only; omega⟩
theorem lv_scan_end : hrun ex 0 ⟨[131076, 0, 1, 0, 0, 0, 0, 0, 0, 0, 2, 0, 0, 0, 0, 0, 0, 0, 0, 0], ⟨[2, 0], 0, 0⟩, 0, .scn 0, [1], [], 0⟩ 5 = ⟨[262146, 0, 1, 0, 0, 0, 0, 0, 0, 0, 2, 0, 0, 0, 0, 0, 0, 0, 0, 0], ⟨[0, 0], 0, 0⟩, 5, .idle, [], [], 0⟩ := by kernel_rfl
theorem lv_scan_run {st : Int} (hs : 0 ≤ st ∧ st ≤ 1000) : ∀ j, j < 5 → (hrun ex 0 ⟨[131076, 0, 1, 0, 0, 0, 0, 0, 0, 0, 2, 0, 0, 0, 0, 0, 0, 0, 0, 0], ⟨[2, 0], 0, 0⟩, 0, .scn 0, [1], [], 0⟩ j).ph.Pre ex (hrun ex 0 ⟨[131076, 0, 1, 0, 0, 0, 0, 0, 0, 0, 2, 0, 0, 0, 0, 0, 0, 0, 0, 0], ⟨[2, 0], 0, 0⟩, 0, .scn 0, [1], [], 0⟩ j).ws (hrun ex 0 ⟨[131076, 0, 1, 0, 0, 0, 0, 0, 0, 0, 2, 0, 0, 0, 0, 0, 0, 0, 0, 0], ⟨[2, 0], 0, 0⟩, 0, .scn 0, [1], [], 0⟩ j).rt (hrun ex 0 ⟨[131076, 0, 1, 0, 0, 0, 0, 0, 0, 0, 2, 0, 0, 0, 0, 0, 0, 0, 0, 0], ⟨[2, 0], 0, 0⟩, 0, .scn 0, [1], [], 0⟩ j).fn ∧ (hrun ex 0 ⟨[131076, 0, 1, 0, 0, 0, 0, 0, 0, 0, 2, 0, 0, 0, 0, 0, 0, 0, 0, 0], ⟨[2, 0], 0, 0⟩, 0, .scn 0, [1], [], 0⟩ j).ws.length = ex.size.toNat ∧ 0 ≤ (hrun ex 0 ⟨[131076, 0, 1, 0, 0, 0, 0, 0, 0, 0, 2, 0, 0, 0, 0, 0, 0, 0, 0, 0], ⟨[2, 0], 0, 0⟩, 0, .scn 0, [1], [], 0⟩ j).inc ∧ st + (hrun ex 0 ⟨[131076, 0, 1, 0, 0, 0, 0, 0, 0, 0, 2, 0, 0, 0, 0, 0, 0, 0, 0, 0], ⟨[2, 0], 0, 0⟩, 0, .scn 0, [1], [], 0⟩ j).inc ≤ 1000000 := by
  intro j hj
  obtain rfl | rfl | rfl | rfl | rfl : j = 0 ∨ j = 1 ∨ j = 2 ∨ j = 3 ∨ j = 4 := by omega
  · rw [show hrun ex 0 ⟨[131076, 0, 1, 0, 0, 0, 0, 0, 0, 0, 2, 0, 0, 0, 0, 0, 0, 0, 0, 0], ⟨[2, 0], 0, 0⟩, 0, .scn 0, [1], [], 0⟩ 0 = ⟨[131076, 0, 1, 0, 0, 0, 0, 0, 0, 0, 2, 0, 0, 0, 0, 0, 0, 0, 0, 0], ⟨[2, 0], 0, 0⟩, 0, .scn 0, [1], [], 0⟩ from by kernel_rfl]
    exact ⟨by unfold Hp.Pre; decide, by decide, by decide, by dsimp only; omega⟩
  · rw [show hrun ex 0 ⟨[131076, 0, 1, 0, 0, 0, 0, 0, 0, 0, 2, 0, 0, 0, 0, 0, 0, 0, 0, 0], ⟨[2, 0], 0, 0⟩, 0, .scn 0, [1], [], 0⟩ 1 = ⟨[131076, 0, 1, 0, 0, 0, 0, 0, 0, 0, 2, 0, 0, 0, 0, 0, 0, 0, 0, 0], ⟨[2, 0], 0, 0⟩, 1, .scn 1, [1], [0], 0⟩ from by kernel_rfl]
    exact ⟨by unfold Hp.Pre; decide, by decide, by decide, by dsimp only; omega⟩
  · rw [show hrun ex 0 ⟨[131076, 0, 1, 0, 0, 0, 0, 0, 0, 0, 2, 0, 0, 0, 0, 0, 0, 0, 0, 0], ⟨[2, 0], 0, 0⟩, 0, .scn 0, [1], [], 0⟩ 2 = ⟨[131076, 0, 1, 0, 0, 0, 0, 0, 0, 0, 2, 0, 0, 0, 0, 0, 0, 0, 0, 0], ⟨[2, 0], 0, 0⟩, 2, .b0 1, [], [], 0⟩ from by kernel_rfl]
    exact ⟨by unfold Hp.Pre; decide, by decide, by decide, by dsimp only; omega⟩
  · rw [show hrun ex 0 ⟨[131076, 0, 1, 0, 0, 0, 0, 0, 0, 0, 2, 0, 0, 0, 0, 0, 0, 0, 0, 0], ⟨[2, 0], 0, 0⟩, 0, .scn 0, [1], [], 0⟩ 3 = ⟨[131076, 0, 1, 0, 0, 0, 0, 0, 0, 0, 2, 0, 0, 0, 0, 0, 0, 0, 0, 0], ⟨[2, 0], 0, 0⟩, 3, .b1 1 131076, [], [], 0⟩ from by kernel_rfl]
    exact ⟨by unfold Hp.Pre; decide, by decide, by decide, by dsimp only; omega⟩
  · rw [show hrun ex 0 ⟨[131076, 0, 1, 0, 0, 0, 0, 0, 0, 0, 2, 0, 0, 0, 0, 0, 0, 0, 0, 0], ⟨[2, 0], 0, 0⟩, 0, .scn 0, [1], [], 0⟩ 4 = ⟨[131076, 0, 1, 0, 0, 0, 0, 0, 0, 0, 2, 0, 0, 0, 0, 0, 0, 0, 0, 0], ⟨[2, 0], 0, 0⟩, 4, .b2 1 131076, [], [], 0⟩ from by kernel_rfl]
    exact ⟨by unfold Hp.Pre; decide, by decide, by decide, by dsimp only; omega⟩
theorem ex_v2 : ex.v = .agg #[.int .i64 0, .int .i64 1, .int .i64 2, .int .i64 1, .int .i64 1, .int .i64 1, .int .i64 1] := rfl
theorem ex_haz : ex.hazard 0 1 = 9 := by decide
theorem ex_set : ([131076, 0, 1, 0, 0, 0, 0, 0, 0, 0, 2, 0, 0, 0, 0, 0, 0, 0, 0, 0] : List Int).set (Int.toNat 9) 1 = [131076, 0, 1, 0, 0, 0, 0, 0, 0, 1, 2, 0, 0, 0, 0, 0, 0, 0, 0, 0] := by decide
set_option maxHeartbeats 4000000 in
theorem lives_any (w : World) : Calls Tryz.prog 8 #[] w fun e w' => e = .returned (.bool true) ∧ Below w.heap.size w w' := by
  have KN := born_rest ex_ok (w := w)
  rw [ex_ws, ex_gh] at KN
  have hst := (first_mk ex_ok).2
  generalize (firstMS ex).st = st at *
  have ev : ex.v = .agg #[.int .i64 0, .int .i64 1, .int .i64 2, .int .i64 1, .int .i64 1, .int .i64 1, .int .i64 1] := rfl
  rw [ev] at KN
  have HST := Lib.hid hst
  clear ev hst
  go_enter Tryz.func8, Tryz.ntmps8
  go_wp2_with fail
  refine KN.mono ?_
  rintro e V0 ⟨B, Fb, T, g, t, rfl, h⟩
  have K1 := h.alone ex_ok 1 (row00 V0) (by omega) .a0 ⟨_, rfl, rfl, rfl, by decide⟩ 3 (by omega) HST.out.1 (lv_alloc_run ⟨HST.out.1, by have := HST.out; omega⟩) lv_alloc_end rfl
  clear h KN
  go_wp2_with fail
  refine K1.mono ?_
  rintro e V1 ⟨rfl, h⟩
  obtain ⟨M, K2, -, K4, -⟩ := h.mem
  have HK4 := Lib.hid K4
  have HM := Lib.hid h
  have K2' := K2 V1 (Below.refl _ _)
  clear K1 h K4 K2
  go_wp2_with fail
  refine K2'.mono ?_
  rintro e v1 ⟨rfl, rfl⟩
  clear K2'
  have K10 := HM.out.plan
  rw [ex_v2] at K10
  go_wp2_with fail
  refine K10.mono ?_
  rintro e V2 ⟨rfl, hb2⟩
  have K14 := hazard_ok ex 0 1 V2 ex_ok (by unfold P.I64; omega) (by unfold P.I64; omega)
  rw [ex_haz, ex_v2] at K14
  have HB2 := Lib.hid hb2
  clear K10 hb2
  go_wp2_with fail
  refine K14.mono ?_
  rintro e V3 ⟨rfl, hb3⟩
  have K13 := HK4.out V3 9 1 (P.below_then HB2.out hb3 (Nat.le_refl _)) (by decide) (by have := HST.out; omega) (by have := HST.out; omega) (by omega) (by decide)
  rw [ex_set] at K13
  clear K14 hb3 HB2 HK4 HM
  go_wp2_with fail
  refine K13.mono ?_
  rintro e V4 ⟨rfl, h⟩
  clear K13
  have hA : Below V4.heap.size V4 (V4.alloc (.cells #[.int .u64 1] 24)) := (Below.refl _ _).alloc (Nat.le_refl _) _
  have K5 := (h.below hA).alone ex_ok 5 (row1 V4 1 (by omega) (by omega)) (by omega) (.re 1) ⟨_, rfl, rfl, rfl⟩ 2 (by omega) (by have := HST.out; omega) (lv_ret_run ⟨by have := HST.out; omega, by have := HST.out; omega⟩) lv_ret_end rfl
  clear h hA
  go_wp2_with fail
  refine K5.mono ?_
  rintro e V5 ⟨rfl, h⟩
  clear K5
  obtain ⟨G1, -, G3⟩ := h.ghost V5 (Below.refl _ _)
  have G3 := G3 1
  rw [show tagOf ex.nd.toNat ⟨[2, 0], 0, 0⟩ 1 = 2 by decide] at G3
  obtain ⟨T1, -, ⟨a8, cap8, c8⟩, -⟩ := h.thread ex_ok
  have T2 := S.len_any T 8 1 cap8 a8 V5 c8 (by omega)
  have HH := Lib.hid h
  clear h c8
  go_wp2_with fail
  refine G1.mono ?_
  rintro e v1 ⟨rfl, rfl⟩
  go_wp2_with fail
  refine G3.mono ?_
  rintro e v1 ⟨rfl, rfl⟩
  clear G1 G3
  go_wp2_with fail
  refine T1.mono ?_
  rintro e v1 ⟨rfl, rfl⟩
  go_wp2_with fail
  refine T2.mono ?_
  rintro e v1 ⟨rfl, rfl⟩
  clear T1 T2
  have K6 := HH.out.alone ex_ok 4 (row00 _) (by omega) (.wi 0) ⟨_, rfl, rfl, rfl⟩ 2 (by omega) (by have := HST.out; omega) (lv_clear_run ⟨by have := HST.out; omega, by have := HST.out; omega⟩) lv_clear_end rfl
  clear HH
  go_wp2_with fail
  refine K6.mono ?_
  rintro e V6 ⟨rfl, h⟩
  have K7 := h.alone ex_ok 6 (row00 _) (by omega) (.scn 0) ⟨_, rfl, rfl, rfl⟩ 5 (by omega) (by have := HST.out; omega) (lv_scan_run ⟨by have := HST.out; omega, by have := HST.out; omega⟩) lv_scan_end rfl
  clear K6 h
  go_wp2_with fail
  refine K7.mono ?_
  rintro e V7 ⟨rfl, h⟩
  obtain ⟨G1, -, G3⟩ := h.ghost V7 (Below.refl _ _)
  have G3 := G3 1
  rw [show tagOf ex.nd.toNat ⟨[0, 0], 0, 0⟩ 1 = 0 by decide] at G3
  have KF := h.fault rfl
  have HB := Lib.hid h.bel
  clear K7 h
  go_wp2_with fail
  refine G1.mono ?_
  rintro e v1 ⟨rfl, rfl⟩
  go_wp2_with fail
  refine G3.mono ?_
  rintro e v1 ⟨rfl, rfl⟩
  go_wp2_with fail
  refine KF.mono ?_
  rintro e V8 ⟨rfl, hb8⟩
  have HX := Lib.hid (P.below_then HB.out hb8 (Nat.le_refl _))
  clear KF hb8 HB G1 G3
  go_wp2
  go_ret
  exact ⟨rfl, HX.out⟩
end Go.Proofs.YtemikojaldoofaaGreat
