/- A routine of thread 0, done alone. A machine at rest whose thread 0 alone takes and puts back. -/
import Derived.Test.YtnedifcjenlcjaaAFirst
import Derived.Test.YtnedifcjenlcjaaAChn
namespace Go.Proofs.Ytnedifcjenlcjaa
open Go.ChangeShapes Go.WideShapes Go.ChangeAt Go.RowKit
set_option linter.unusedVariables false
set_option maxRecDepth 20000

/-- The steps of one thread, one behind the other. -/
def run (c : P.Cf) (o : Out) : Nat → Out
  | 0 => o
  | j + 1 => (run c o j).ph.step c (run c o j).ws (run c o j).G
variable {c : P.Cf} {B Fb T : Nat} {X : Nat → Prop} {W W' : World} {g t : Nat} {ws : List Int} {st : Int} {Gs : G.GS} {ts : Nat → Th}
/-- Amid a run: j steps have been done. -/
def Amid1 (c : P.Cf) (B Fb T g t : Nat) (o : Out) (st : Int) (ts : Nat → Th) (X : Nat → Prop) (W : World) (j : Nat) (V : World) : Prop :=
  ∃ th, MacT c B Fb T (AS g t (run c o j).ws (st + j) (run c o j).G (upd ts 0 th)) X W V ∧ (run c o j).ph.Is th.fr ∧ (0 < j → (run c o j).ph = .idle → th.r0 = (run c o j).ret)
set_option maxHeartbeats 2000000 in
theorem alone_run (hc : c.Ok) (h : Mac c B Fb T X (AS g t ws st Gs ts) W) (h0 : (ts 0).fr = []) (fn x : Int) (hx : 0 ≤ x ∧ x ≤ 1000) (p : Ph) (hp : p.Is [⟨fn, 0, [x]⟩]) (m : Nat) (hm : 1 ≤ m ∧ m ≤ 40) (hs : 0 ≤ st ∧ st ≤ 900000)
    (hrun : ∀ j, j < m → (run c ⟨ws, Gs, p, 0⟩ j).ph.Pre c (run c ⟨ws, Gs, p, 0⟩ j).ws ∧ (run c ⟨ws, Gs, p, 0⟩ j).ws.length = c.size.toNat) (hend : (run c ⟨ws, Gs, p, 0⟩ m).ph = .idle) (hret : 0 ≤ (run c ⟨ws, Gs, p, 0⟩ m).ret ∧ (run c ⟨ws, Gs, p, 0⟩ m).ret ≤ 1000) :
    Calls Try.prog 12 #[at0 B, .int .i64 fn, .int .i64 x] W fun e W' => e = .returned (.int .i64 (run c ⟨ws, Gs, p, 0⟩ m).ret) ∧
      ∃ th, th.fr = [] ∧ MacT c B Fb T (AS g t (run c ⟨ws, Gs, p, 0⟩ m).ws (st + m) (run c ⟨ws, Gs, p, 0⟩ m).G (upd ts 0 th)) X W W' := by
  have ht := hc.th
  have KT := thread_yes B T c.th.toNat 0 W (by omega) h.thread (by omega)
  simp at KT
  have KP : ∀ V, Below W.heap.size W V → ∀ aa, F.Row .u64 V aa 1 1 [x] → Calls Try.prog 20 #[.pointer (some ⟨T, 0, none⟩), .int .i64 fn, .slice aa 1 1] V fun e V' => e = .returned (.tuple #[]) ∧ MacT c B Fb T { AS g t ws st Gs ts with ts := upd ts 0 { ts 0 with fr := (ts 0).fr ++ [⟨fn, 0, [x]⟩] } } X V V' := fun V hV aa R => by
    have := (h.below hV).push (i := 0) (by omega) (by show (ts 0).fr.length ≤ 1000; rw [h0]; simp) fn R (by omega)
    simpa using this
  have HKP := Lib.hid KP
  have hne : ∀ j, j < m → (run c ⟨ws, Gs, p, 0⟩ j).ph.on = true := fun j hj => by
    have := (hrun j hj).1
    generalize (run c ⟨ws, Gs, p, 0⟩ j).ph = q at *
    cases q <;> first | rfl | exact absurd this id
  have hne2 : ∀ j, j < m → j + 1 ≠ m → (run c ⟨ws, Gs, p, 0⟩ (j + 1)).ph.on = true := fun j hj h1 => hne (j + 1) (by omega)
  have hxu : IntKind.u64.wrap x = x := IntWalk.u64_in _ (by omega)
  have HS : Hid (∀ j V, j < m → Amid1 c B Fb T g t ⟨ws, Gs, p, 0⟩ st ts X W j V → Calls Try.prog 21 #[at0 B, .int .i64 0, .func (.func 22) #[] #[]] V fun e V' => e = .returned (.bool (decide (j + 1 < m))) ∧ Amid1 c B Fb T g t ⟨ws, Gs, p, 0⟩ st ts X W (j + 1) V') := Lib.hid fun j V hj ⟨th, ⟨X1, k1, l1, m1⟩, a2, a3⟩ => by
    have h1 := hrun j hj
    have := step_ph hc m1 (i := 0) (by omega) h1.2 (by omega) _ (by rw [upd_same]; exact a2) h1.1
    refine this.mono ?_
    rintro e V' ⟨rfl, th', hT, hIs, hR⟩
    refine ⟨?_, th', ?_, hIs, fun _ => hR⟩
    · show Ending.returned (.bool (run c ⟨ws, Gs, p, 0⟩ (j + 1)).ph.on) = _
      congr 2
      by_cases e : j + 1 = m
      · rw [e, hend]; simp [Ph.on]
      · rw [hne2 j hj e]; simp; omega
    · have := MacT.from k1 l1 hT
      rw [upd_upd] at this
      rw [show st + ((j + 1 : Nat) : Int) = st + j + 1 by omega]
      exact this
  have HE : Hid (∀ V, Amid1 c B Fb T g t ⟨ws, Gs, p, 0⟩ st ts X W m V → V.cell? ⟨T, 2, none⟩ = some (.int .u64 (run c ⟨ws, Gs, p, 0⟩ m).ret) ∧ ∃ th, th.fr = [] ∧ MacT c B Fb T (AS g t (run c ⟨ws, Gs, p, 0⟩ m).ws (st + m) (run c ⟨ws, Gs, p, 0⟩ m).G (upd ts 0 th)) X W V) := Lib.hid fun V ⟨th, hT, a2, a3⟩ => by
    rw [hend] at a2
    obtain ⟨X1, k1, l1, m1⟩ := hT
    have hr := (m1.ret (i := 0) (by omega)).1
    simp only [upd_same, Nat.zero_mul, Nat.zero_add] at hr
    rw [a3 (by omega) hend] at hr
    exact ⟨hr, th, a2, X1, k1, l1, m1⟩
  have HB : Hid (∀ V aa, F.Row .u64 V aa 1 1 [x] → Below W.heap.size W V → ∀ V', MacT c B Fb T { AS g t ws st Gs ts with ts := upd ts 0 { ts 0 with fr := (ts 0).fr ++ [⟨fn, 0, [x]⟩] } } X V V' → Amid1 c B Fb T g t ⟨ws, Gs, p, 0⟩ st ts X W 0 V') := Lib.hid fun V aa R hV V' hT => by
    refine ⟨⟨[⟨fn, 0, [x]⟩], (ts 0).r0, (ts 0).r1, (ts 0).r2⟩, ?_, hp, fun h => absurd h (by omega)⟩
    have := MacT.from (Keeps.of_below (O := X) hV) (Later.refl _ _) hT
    simp only [h0, List.nil_append] at this
    simpa [run] using this
  have hro := hret
  generalize (run c ⟨ws, Gs, p, 0⟩ m).ret = ro at *
  have hrw : IntKind.i64.wrap ro = ro := IntWalk.i64_in _ (by omega)
  have HM := Lib.hid hm
  clear hret hro hend hrun hne hne2 hs hp h0 h hc ht KP
  go_enter Try.func12, Try.ntmps12
  go_wp2_with fail
  refine KT.mono ?_
  rintro e v1 ⟨rfl, rfl⟩
  clear KT
  go_wp2_with fail
  have hA : Below W.heap.size W (W.alloc (.cells #[.int .u64 x] 48)) := (Below.refl _ _).alloc (Nat.le_refl _) _
  refine (HKP.out _ hA _ (row1 _ x (by omega) (by omega))).mono ?_
  rintro e v2 ⟨rfl, hT⟩
  have H0 := Lib.hid (HB.out _ _ (row1 _ x (by omega) (by omega)) hA _ hT)
  clear hT hA HB HKP
  go_wp2_with fail
  go_loopw [8] (fun i wr => ∃ j : Nat, j < m ∧ i = .int .i64 j ∧ Hid (Amid1 c B Fb T g t ⟨ws, Gs, p, 0⟩ st ts X W j wr)) (fun i _ => 100 - (intOf i).toNat)
  case atStart => exact ⟨0, by have := HM.out; omega, rfl, H0⟩
  case round =>
    obtain ⟨j, hj, rfl, hrel⟩ := hrel
    clear H0
    have KS := HS.out j wr hj hrel.out
    have hj40 : j < 40 := by have := HM.out; omega
    clear hrel
    by_cases hlast : j + 1 < m
    · have hd : decide (j + 1 < m) = true := by simpa using hlast
      rw [hd] at KS
      go_wp2_with fail
      refine KS.mono ?_
      rintro e v3 ⟨rfl, hT⟩
      have HT := Lib.hid hT
      clear hT KS
      go_wp2
      go_roundw
      case rel => exact ⟨j + 1, hlast, by go_num, HT⟩
      case measure => simp [intOf]; omega
    · have hd : decide (j + 1 < m) = false := by simpa using hlast
      rw [hd] at KS
      have hjm : j + 1 = m := by omega
      rw [hjm] at KS
      have HJ := Lib.hid hjm
      clear hjm hd hlast
      go_wp2_with fail
      refine KS.mono ?_
      rintro e v3 ⟨rfl, hT⟩
      obtain ⟨cr, hE⟩ := HE.out _ hT
      have HX := Lib.hid hE
      clear hT KS hE HE HS
      go_wp2
      go_ret
      exact ⟨rfl, HX.out⟩
end Go.Proofs.Ytnedifcjenlcjaa
namespace Go.Proofs.Ytnedifcjenlcjaa
open Go.ChangeShapes Go.WideShapes Go.ChangeAt Go.RowKit
set_option linter.unusedVariables false
set_option maxRecDepth 20000

abbrev idl : Nat → Ph := fun _ => .idle
abbrev own0 (h : List Int) : Nat → List Int := updL (fun _ => []) 0 h
theorem own0_at (h : List Int) : own0 h 0 = h := updL_same _ _ _
theorem own0_upd (h l : List Int) : updL (own0 h) 0 l = own0 l := by
  funext j; simp only [own0, updL]; split <;> rfl
theorem idl_upd (p : Ph) : updP (updP idl 0 p) 0 .idle = idl := by
  funext j; simp only [updP]; split <;> rfl
theorem updP_upd (ph : Nat → Ph) (k : Nat) (p q : Ph) : updP (updP ph k p) k q = updP ph k q := by
  funext j; simp only [updP]; split <;> rfl
variable {c : P.Cf} {B Fb T : Nat} {X : Nat → Prop} {W W' : World} {g t : Nat} {ws : List Int} {st : Int} {Gs : G.GS} {ts : Nat → Th} {n : Nat} {L hv : List Int} {s : Nat}

theorem run_alloc (hc : c.Ok) (hs : s < 1099511627776) (hn : 0 < n) {p : Int} (h : Inv c n (p :: L) s ws Gs idl (own0 hv)) :
    (∀ j, j < 3 → (run c ⟨ws, Gs, .a0, 0⟩ j).ph.Pre c (run c ⟨ws, Gs, .a0, 0⟩ j).ws ∧ (run c ⟨ws, Gs, .a0, 0⟩ j).ws.length = c.size.toNat) ∧ (run c ⟨ws, Gs, .a0, 0⟩ 3).ph = .idle ∧ (run c ⟨ws, Gs, .a0, 0⟩ 3).ret = p ∧
      Inv c n L (s + 1) (run c ⟨ws, Gs, .a0, 0⟩ 3).ws (run c ⟨ws, Gs, .a0, 0⟩ 3).G idl (own0 (hv ++ [p])) := by
  have hF := h.Free hc hs
  have hpb := h.bd (x := p) (by simp)
  have hsn := (P.sent_in c.al).1
  have hp : pt (wordAt ws 0) = p := hF.hd
  have hz : pt (wordAt ws 0) ≠ 0 := by omega
  have i0 := h.phase hn .a0 rfl trivial
  have i1 := i0.step hc hs hn
  simp only [updP_same, Ph.step, if_neg hz, Ph.nextL, Ph.inc, Ph.got, List.append_nil, updL_id, Nat.add_zero, updP_upd] at i1
  have i2 := i1.step hc hs hn
  simp only [updP_same, Ph.step, Ph.nextL, Ph.inc, Ph.got, List.append_nil, updL_id, Nat.add_zero, updP_upd] at i2
  have i3 := i2.step hc hs hn
  simp only [updP_same, Ph.step, Ph.nextL, Ph.inc, Ph.got, if_true, updP_upd, own0_at, own0_upd, hp, List.tail_cons] at i3
  have r1 : run c ⟨ws, Gs, .a0, 0⟩ 1 = ⟨ws, Gs, .a1 (wordAt ws 0), 0⟩ := if_neg hz
  have r2 : run c ⟨ws, Gs, .a0, 0⟩ 2 = ⟨ws, Gs, .a2 (wordAt ws 0) (wordAt ws (c.link (pt (wordAt ws 0))).toNat), 0⟩ := by
    show (run c _ 1).ph.step c (run c _ 1).ws (run c _ 1).G = _
    rw [r1]; rfl
  have r3 : run c ⟨ws, Gs, .a0, 0⟩ 3 = ⟨ws.set 0 (nextW (wordAt ws 0) (wordAt ws (c.link (pt (wordAt ws 0))).toNat)), Gs.then c.nd.toNat 0 (pt (wordAt ws 0)), .idle, pt (wordAt ws 0)⟩ := by
    show (run c _ 2).ph.step c (run c _ 2).ws (run c _ 2).G = _
    rw [r2]; simp only [Ph.step, if_true]
  refine ⟨fun j hj => ?_, by rw [r3], by rw [r3]; exact hp, ?_⟩
  · match j, hj with
    | 0, _ =>
      have := i0.pre hc hs hn (by rw [updP_same]; rfl)
      rw [updP_same] at this
      exact ⟨this, i0.len⟩
    | 1, _ =>
      have := i1.pre hc hs hn (by rw [updP_same]; rfl)
      rw [updP_same] at this
      rw [r1]; exact ⟨this, i0.len⟩
    | 2, _ =>
      have := i2.pre hc hs hn (by rw [updP_same]; rfl)
      rw [updP_same] at this
      rw [r2]; exact ⟨this, i0.len⟩
  · rw [r3]
    rw [hp]
    have e : updP idl 0 .idle = idl := by funext j; simp only [updP]; split <;> rfl
    rw [e] at i3
    exact i3
theorem run_empty (hc : c.Ok) (hs : s < 1099511627776) (hn : 0 < n) (h : Inv c n [] s ws Gs idl (own0 hv)) :
    (∀ j, j < 1 → (run c ⟨ws, Gs, .a0, 0⟩ j).ph.Pre c (run c ⟨ws, Gs, .a0, 0⟩ j).ws ∧ (run c ⟨ws, Gs, .a0, 0⟩ j).ws.length = c.size.toNat) ∧ run c ⟨ws, Gs, .a0, 0⟩ 1 = ⟨ws, Gs, .idle, 0⟩ := by
  have hF := h.Free hc hs
  have hz : pt (wordAt ws 0) = 0 := hF.hd
  refine ⟨fun j hj => ?_, if_pos hz⟩
  obtain rfl : j = 0 := by omega
  exact ⟨hF.u, h.len⟩
theorem run_release (hc : c.Ok) (hs : s < 1099511627776) (hn : 0 < n) {p : Int} (h : Inv c n L s ws Gs (updP idl 0 (.b0 p)) (own0 hv)) :
    (∀ j, j < 3 → (run c ⟨ws, Gs, .b0 p, 0⟩ j).ph.Pre c (run c ⟨ws, Gs, .b0 p, 0⟩ j).ws ∧ (run c ⟨ws, Gs, .b0 p, 0⟩ j).ws.length = c.size.toNat) ∧ (run c ⟨ws, Gs, .b0 p, 0⟩ 3).ph = .idle ∧ (run c ⟨ws, Gs, .b0 p, 0⟩ 3).ret = p ∧
      Inv c n (p :: L) (s + 1) (run c ⟨ws, Gs, .b0 p, 0⟩ 3).ws (run c ⟨ws, Gs, .b0 p, 0⟩ 3).G idl (own0 hv) := by
  have hF := h.Free hc hs
  have hnd := hc.nd
  have hz := hc.steps
  have hpb := h.relBd hn (x := p) (by rw [updP_same]; simp [Ph.rel])
  have hsn := (P.sent_in c.al).1
  have i1 := h.step hc hs hn
  simp only [updP_same, Ph.step, Ph.nextL, Ph.inc, Ph.got, List.append_nil, updL_id, Nat.add_zero, updP_upd] at i1
  have i2 := i1.step hc hs hn
  simp only [updP_same, Ph.step, Ph.nextL, Ph.inc, Ph.got, List.append_nil, updL_id, Nat.add_zero, updP_upd] at i2
  have hw0 : wordAt (ws.set (c.link p).toNat (pt (wordAt ws 0))) 0 = wordAt ws 0 := set_far _ _ _ (by have := link_ge hc (m := p) (by omega) hpb.2; omega)
  have i3 := i2.step hc hs hn
  simp only [updP_same, Ph.step, Ph.nextL, Ph.inc, Ph.got, hw0, if_true, updP_upd, List.append_nil, updL_id] at i3
  have r1 : run c ⟨ws, Gs, .b0 p, 0⟩ 1 = ⟨ws, Gs, .b1 p (wordAt ws 0), 0⟩ := rfl
  have r2 : run c ⟨ws, Gs, .b0 p, 0⟩ 2 = ⟨ws.set (c.link p).toNat (pt (wordAt ws 0)), Gs, .b2 p (wordAt ws 0), 0⟩ := rfl
  have r3 : run c ⟨ws, Gs, .b0 p, 0⟩ 3 = ⟨(ws.set (c.link p).toNat (pt (wordAt ws 0))).set 0 (nextW (wordAt ws 0) p), Gs.then c.nd.toNat 2 p, .idle, p⟩ := by
    show (run c _ 2).ph.step c (run c _ 2).ws (run c _ 2).G = _
    rw [r2]; simp only [Ph.step, hw0, if_true]
  refine ⟨fun j hj => ?_, by rw [r3], by rw [r3], ?_⟩
  · match j, hj with
    | 0, _ =>
      have := h.pre hc hs hn (by rw [updP_same]; rfl)
      rw [updP_same] at this
      exact ⟨this, h.len⟩
    | 1, _ =>
      have := i1.pre hc hs hn (by rw [updP_same]; rfl)
      rw [updP_same] at this
      rw [r1]; exact ⟨this, h.len⟩
    | 2, _ =>
      have := i2.pre hc hs hn (by rw [updP_same]; rfl)
      rw [updP_same] at this
      rw [r2]; exact ⟨this, i2.len⟩
  · rw [r3]
    have e : updP idl 0 .idle = idl := by funext j; simp only [updP]; split <;> rfl
    rw [e] at i3
    exact i3

/-- Thread 0 alone has the nodes hv, the free list is L; the phase of thread 0 is p; st steps have been done. -/
def AL (c : P.Cf) (B Fb T g t : Nat) (p : Ph) (L hv : List Int) (s : Nat) (st : Int) (X : Nat → Prop) (W : World) : Prop :=
  ∃ ws Gs ts, Mac c B Fb T X (AS g t ws st Gs ts) W ∧ Inv c c.th.toNat L s ws Gs (updP idl 0 p) (own0 hv) ∧ ∀ i, (ts i).fr = []
/-- What a call leaves. -/
def ALT (c : P.Cf) (B Fb T g t : Nat) (p : Ph) (L hv : List Int) (s : Nat) (st : Int) (v : Value) (X : Nat → Prop) (W : World) (e : Ending) (W' : World) : Prop :=
  e = .returned v ∧ ∃ X', Keeps X W W' ∧ Later X W X' ∧ AL c B Fb T g t p L hv s st X' W'
theorem idl_id : updP idl 0 .idle = idl := by funext j; simp only [updP]; split <;> rfl
theorem AL.below {p : Ph} (h : AL c B Fb T g t p L hv s st X W) (hb : Below W.heap.size W W') : AL c B Fb T g t p L hv s st X W' := by
  obtain ⟨ws, Gs, ts, a, b, d⟩ := h
  exact ⟨ws, Gs, ts, a.below hb, b, d⟩
theorem AL.agree {p : Ph} (h : AL c B Fb T g t p L hv s st X W) (hk : ∀ k, X k → W'.heap[k]? = W.heap[k]?) : AL c B Fb T g t p L hv s st X W' := by
  obtain ⟨ws, Gs, ts, a, b, d⟩ := h
  exact ⟨ws, Gs, ts, a.agree hk, b, d⟩
theorem AL.lt {p : Ph} (h : AL c B Fb T g t p L hv s st X W) {k : Nat} (hk : X k) : k < W.heap.size := by
  obtain ⟨ws, Gs, ts, a, b, d⟩ := h
  exact a.lt hk
theorem upd_fr {ts : Nat → Th} (h : ∀ i, (ts i).fr = []) {th : Th} (h2 : th.fr = []) (i : Nat) : (upd ts 0 th i).fr = [] := by
  simp only [upd]; split
  · exact h2
  · exact h i
theorem al_some (hc : c.Ok) {p : Int} (h : AL c B Fb T g t .idle (p :: L) hv s st X W) (hs : s < 1000000) (hst : 0 ≤ st ∧ st ≤ 900000) :
    Calls Try.prog 12 #[at0 B, .int .i64 1, .int .i64 0] W (ALT c B Fb T g t .idle L (hv ++ [p]) (s + 1) (st + 3) (.int .i64 p) X W) := by
  obtain ⟨ws, Gs, ts, m, i, hfr⟩ := h
  rw [idl_id] at i
  have hth := hc.th
  have hnd := hc.nd
  have hpb := i.bd (x := p) (by simp)
  have hsn := (P.sent_in c.al).1
  obtain ⟨q1, q2, q3, q4⟩ := run_alloc hc (by omega) (by omega) i
  have := alone_run hc m (hfr 0) 1 0 (by omega) .a0 ⟨_, rfl, rfl, rfl, by decide⟩ 3 (by omega) hst q1 q2 (by rw [q3]; omega)
  rw [q3] at this
  refine this.mono ?_
  rintro e W' ⟨rfl, th, h1, X', k, l, m'⟩
  exact ⟨rfl, X', k, l, _, _, _, m', by rw [idl_id]; exact q4, upd_fr hfr h1⟩
theorem al_none (hc : c.Ok) (h : AL c B Fb T g t .idle [] hv s st X W) (hs : s < 1000000) (hst : 0 ≤ st ∧ st ≤ 900000) :
    Calls Try.prog 12 #[at0 B, .int .i64 1, .int .i64 0] W (ALT c B Fb T g t .idle [] hv s (st + 1) (.int .i64 0) X W) := by
  obtain ⟨ws, Gs, ts, m, i, hfr⟩ := h
  rw [idl_id] at i
  have hth := hc.th
  obtain ⟨q1, q2⟩ := run_empty hc (by omega) (by omega) i
  have := alone_run hc m (hfr 0) 1 0 (by omega) .a0 ⟨_, rfl, rfl, rfl, by decide⟩ 1 (by omega) hst q1 (by rw [q2]) (by rw [q2]; simp)
  rw [q2] at this
  refine this.mono ?_
  rintro e W' ⟨rfl, th, h1, X', k, l, m'⟩
  exact ⟨rfl, X', k, l, _, _, _, m', by rw [idl_id]; exact i, upd_fr hfr h1⟩
theorem al_gone (hc : c.Ok) {p : Int} {l1 l2 : List Int} (h : AL c B Fb T g t .idle L (l1 ++ p :: l2) s st X W) :
    Calls Try.prog 13 #[at0 B, .int .i64 p] W (ALT c B Fb T g t (.b0 p) L (l1 ++ l2) s st (.tuple #[]) X W) := by
  obtain ⟨ws, Gs, ts, m, i, hfr⟩ := h
  have hth := hc.th
  have i' := i.gone hc (k := 0) (by omega) (by rw [updP_same]) (p := p) (l := l1 ++ l2) (l1 := l1) (l2 := l2) (own0_at _) rfl
  rw [updP_upd, own0_upd] at i'
  refine (agone hc m p).mono ?_
  rintro e W' ⟨rfl, ⟨X', k, l, m'⟩, -⟩
  exact ⟨rfl, X', k, l, _, _, _, m', i', hfr⟩
theorem al_free (hc : c.Ok) {p : Int} (h : AL c B Fb T g t (.b0 p) L hv s st X W) (hs : s < 1000000) (hst : 0 ≤ st ∧ st ≤ 900000) :
    Calls Try.prog 12 #[at0 B, .int .i64 2, .int .i64 p] W (ALT c B Fb T g t .idle (p :: L) hv (s + 1) (st + 3) (.int .i64 p) X W) := by
  obtain ⟨ws, Gs, ts, m, i, hfr⟩ := h
  have hth := hc.th
  have hnd := hc.nd
  have hpb := i.relBd (k := 0) (by omega) (x := p) (by rw [updP_same]; simp [Ph.rel])
  have hsn := (P.sent_in c.al).1
  obtain ⟨q1, q2, q3, q4⟩ := run_release hc (by omega) (by omega) i
  have := alone_run hc m (hfr 0) 2 p (by omega) (.b0 p) ⟨_, rfl, rfl, rfl, by simp [reg]⟩ 3 (by omega) hst q1 q2 (by rw [q3]; omega)
  rw [q3] at this
  refine this.mono ?_
  rintro e W' ⟨rfl, th, h1, X', k, l, m'⟩
  exact ⟨rfl, X', k, l, _, _, _, m', by rw [idl_id]; exact q4, upd_fr hfr h1⟩
theorem al_fault (h : AL c B Fb T g t .idle L hv s st X W) : Calls Try.prog 15 #[at0 B] W fun e W' => e = .returned (.bool false) ∧ Below W.heap.size W W' := by
  obtain ⟨ws, Gs, ts, m, i, hfr⟩ := h
  have := m.fault
  have hk : gBad (some (g, t, Gs)) = false := by simp [gBad, i.k0]
  simp only [hk, Bool.or_false] at this
  exact this
theorem al_chain (hc : c.Ok) (h : AL c B Fb T g t .idle L hv s st X W) (hs : s < 1000000) : Calls Try.prog 14 #[at0 B] W (Listed L W) := by
  obtain ⟨ws, Gs, ts, m, i, hfr⟩ := h
  exact chain_any hc m (i.Free hc (by omega))
theorem al_steps (h : AL c B Fb T g t .idle L hv s st X W) : ∃ M, ∀ V, Below W.heap.size W V → (Calls Try.prog 10 #[at0 B] V fun e V' => e = .returned (at0 M) ∧ V = V') ∧ Calls Try.prog 11 #[at0 M] V fun e V' => e = .returned (.int .i64 st) ∧ V = V' := by
  obtain ⟨ws, Gs, ts, ⟨O, cs, vs, rfl, ⟨M, Om, rfl, hb, hm, hg⟩, _⟩, i, hfr⟩ := h
  exact ⟨M, fun V hV => ⟨mem_any B M c _ Fb T _ false V (hb.agree (hV.block B hb.lt)), steps_any M (mk ws st) Om V (hm.agree fun k ho => hV.block k (MemAt.lt hm ho))⟩⟩
theorem al_count (h : AL c B Fb T g t .idle L hv s st X W) (hc : c.Ok) : ∀ V, Below W.heap.size W V → (Calls Try.prog 16 #[at0 B] V fun e V' => e = .returned (at0 g) ∧ V = V') ∧ Calls Try.prog 17 #[at0 g, .int .i64 1] V fun e V' => e = .returned (.int .i64 (P.sent c.al + hv.length)) ∧ V = V' := by
  obtain ⟨ws, Gs, ts, ⟨O, cs, vs, rfl, ⟨M, Om, rfl, hb, hm, hg⟩, _⟩, i, hfr⟩ := h
  intro V hV
  have hth := hc.th
  have hgV : gOk c.nd.toNat (some (g, t, Gs)) V := hg.agree fun k hk => hV.block k (hg.lt hk)
  refine ⟨ghost_any B M c _ Fb T _ false V (hb.agree (hV.block B hb.lt)), ?_⟩
  have := G.count_any g _ _ Gs 1 V hgV.1
  rw [i.cl] at this
  have e : tot c.th.toNat (fun k => (own0 hv k).length) = hv.length := by
    have := tot_upd (n := c.th.toNat) (k := 0) (f := fun _ => 0) (f' := fun k => (own0 hv k).length) (by omega) fun j hj => by simp only [own0, updL_ne _ _ hj]; rfl
    rw [tot_zero (f := fun _ => 0) fun _ _ => rfl] at this
    simp only [own0_at] at this
    omega
  rw [e] at this
  exact this
end Go.Proofs.Ytnedifcjenlcjaa
