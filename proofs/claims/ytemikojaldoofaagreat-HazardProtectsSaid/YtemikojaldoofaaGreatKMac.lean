/- What Took, Gone, Freed do; a tag. Printed by core_tags.py. A machine with its threads: their frames, what they told last; what Thread, Push, Pop, Top, the steps of memory and the ghosts' deeds do of it. -/
import Derived.Test.YtemikojaldoofaaGreatKNew
import Derived.Test.YtemikojaldoofaaGreatKTop
namespace Go.Proofs.YtemikojaldoofaaGreat
open Go.ChangeShapes Go.WideShapes Go.ChangeAt Go.RowKit
set_option linter.unusedVariables false

set_option maxRecDepth 20000

theorem took_none (B : Nat) (c : P.Cf) (F T : Nat) (ms : MS) (bad : Bool) (O : Nat → Prop) (i : Int) (w : World) (h : MachAt B c F T ms none bad O w) :
    Calls Tryz.prog 89 #[at0 B, .int .i64 i] w fun e w' => e = .returned (.tuple #[]) ∧ w = w' := by
  obtain ⟨M, Om, rfl, hb, hm, hg⟩ := h
  go_enter Tryz.func89, Tryz.ntmps89
  go_wp2_with fail
  refine (ghost_any B M c _ F T _ bad _ hb).mono ?_
  rintro e w' ⟨rfl, rfl⟩
  clear hb hm hg
  simp only [gV]
  go_wp2_with fail
  refine (G.alloc_nil i _).mono ?_
  rintro e w' ⟨rfl, rfl⟩
  go_wp2
  go_end0
  exact ⟨rfl, rfl⟩
theorem took_some (B g t : Nat) (c : P.Cf) (F T : Nat) (ms : MS) (s : G.GS) (bad : Bool) (O : Nat → Prop) (i : Int) (w : World) (hc : c.Ok) (h : MachAt B c F T ms (some (g, t, s)) bad O w) :
    Calls Tryz.prog 89 #[at0 B, .int .i64 i] w (MDoes B c F T (.tuple #[]) ms (some (g, t, s.then c.nd.toNat 0 i)) bad O w) := by
  obtain ⟨M, Om, rfl, hb, hm, hg⟩ := h
  have K := G.alloc_any g (some ⟨t, 0, none⟩) c.nd.toNat s i w hg.1
  have HF : Hid (∀ w3, G.GAt g (some ⟨t, 0, none⟩) c.nd.toNat (s.then c.nd.toNat 0 i) w3 → G.Only g (some ⟨t, 0, none⟩) w w3 → MTurn B c F T ms (some (g, t, s.then c.nd.toNat 0 i)) bad (fun k => k = B ∨ Om k ∨ gO (some (g, t, s)) k) w w3) :=
    Lib.hid fun w3 hg3 ho3 => MachAt.ghost hb hm hg hg3 (by have := hc.nd; omega) ho3
  have hb' := hb
  clear hm hg
  go_enter Tryz.func89, Tryz.ntmps89
  go_wp2_with fail
  refine (ghost_any B M c _ F T _ bad _ hb).mono ?_
  rintro e w' ⟨rfl, rfl⟩
  simp only [gV]
  clear hb hb'
  go_wp2_with fail
  refine K.mono ?_
  rintro e w3 ⟨rfl, hg3, ho3⟩
  have HR := Lib.hid (HF.out _ hg3 ho3)
  clear hg3 ho3 K
  go_wp2
  go_end0
  exact ⟨rfl, HR.out⟩
theorem gone_none (B : Nat) (c : P.Cf) (F T : Nat) (ms : MS) (bad : Bool) (O : Nat → Prop) (i : Int) (w : World) (h : MachAt B c F T ms none bad O w) :
    Calls Tryz.prog 71 #[at0 B, .int .i64 i] w fun e w' => e = .returned (.tuple #[]) ∧ w = w' := by
  obtain ⟨M, Om, rfl, hb, hm, hg⟩ := h
  go_enter Tryz.func71, Tryz.ntmps71
  go_wp2_with fail
  refine (ghost_any B M c _ F T _ bad _ hb).mono ?_
  rintro e w' ⟨rfl, rfl⟩
  clear hb hm hg
  simp only [gV]
  go_wp2_with fail
  refine (G.retire_nil i _).mono ?_
  rintro e w' ⟨rfl, rfl⟩
  go_wp2
  go_end0
  exact ⟨rfl, rfl⟩
theorem gone_some (B g t : Nat) (c : P.Cf) (F T : Nat) (ms : MS) (s : G.GS) (bad : Bool) (O : Nat → Prop) (i : Int) (w : World) (hc : c.Ok) (h : MachAt B c F T ms (some (g, t, s)) bad O w) :
    Calls Tryz.prog 71 #[at0 B, .int .i64 i] w (MDoes B c F T (.tuple #[]) ms (some (g, t, s.then c.nd.toNat 1 i)) bad O w) := by
  obtain ⟨M, Om, rfl, hb, hm, hg⟩ := h
  have K := G.retire_any g (some ⟨t, 0, none⟩) c.nd.toNat s i w hg.1
  have HF : Hid (∀ w3, G.GAt g (some ⟨t, 0, none⟩) c.nd.toNat (s.then c.nd.toNat 1 i) w3 → G.Only g (some ⟨t, 0, none⟩) w w3 → MTurn B c F T ms (some (g, t, s.then c.nd.toNat 1 i)) bad (fun k => k = B ∨ Om k ∨ gO (some (g, t, s)) k) w w3) :=
    Lib.hid fun w3 hg3 ho3 => MachAt.ghost hb hm hg hg3 (by have := hc.nd; omega) ho3
  have hb' := hb
  clear hm hg
  go_enter Tryz.func71, Tryz.ntmps71
  go_wp2_with fail
  refine (ghost_any B M c _ F T _ bad _ hb).mono ?_
  rintro e w' ⟨rfl, rfl⟩
  simp only [gV]
  clear hb hb'
  go_wp2_with fail
  refine K.mono ?_
  rintro e w3 ⟨rfl, hg3, ho3⟩
  have HR := Lib.hid (HF.out _ hg3 ho3)
  clear hg3 ho3 K
  go_wp2
  go_end0
  exact ⟨rfl, HR.out⟩
theorem freed_none (B : Nat) (c : P.Cf) (F T : Nat) (ms : MS) (bad : Bool) (O : Nat → Prop) (i : Int) (w : World) (h : MachAt B c F T ms none bad O w) :
    Calls Tryz.prog 90 #[at0 B, .int .i64 i] w fun e w' => e = .returned (.tuple #[]) ∧ w = w' := by
  obtain ⟨M, Om, rfl, hb, hm, hg⟩ := h
  go_enter Tryz.func90, Tryz.ntmps90
  go_wp2_with fail
  refine (ghost_any B M c _ F T _ bad _ hb).mono ?_
  rintro e w' ⟨rfl, rfl⟩
  clear hb hm hg
  simp only [gV]
  go_wp2_with fail
  refine (G.release_nil i _).mono ?_
  rintro e w' ⟨rfl, rfl⟩
  go_wp2
  go_end0
  exact ⟨rfl, rfl⟩
theorem freed_some (B g t : Nat) (c : P.Cf) (F T : Nat) (ms : MS) (s : G.GS) (bad : Bool) (O : Nat → Prop) (i : Int) (w : World) (hc : c.Ok) (h : MachAt B c F T ms (some (g, t, s)) bad O w) :
    Calls Tryz.prog 90 #[at0 B, .int .i64 i] w (MDoes B c F T (.tuple #[]) ms (some (g, t, s.then c.nd.toNat 2 i)) bad O w) := by
  obtain ⟨M, Om, rfl, hb, hm, hg⟩ := h
  have K := G.release_any g (some ⟨t, 0, none⟩) c.nd.toNat s i w hg.1
  have HF : Hid (∀ w3, G.GAt g (some ⟨t, 0, none⟩) c.nd.toNat (s.then c.nd.toNat 2 i) w3 → G.Only g (some ⟨t, 0, none⟩) w w3 → MTurn B c F T ms (some (g, t, s.then c.nd.toNat 2 i)) bad (fun k => k = B ∨ Om k ∨ gO (some (g, t, s)) k) w w3) :=
    Lib.hid fun w3 hg3 ho3 => MachAt.ghost hb hm hg hg3 (by have := hc.nd; omega) ho3
  have hb' := hb
  clear hm hg
  go_enter Tryz.func90, Tryz.ntmps90
  go_wp2_with fail
  refine (ghost_any B M c _ F T _ bad _ hb).mono ?_
  rintro e w' ⟨rfl, rfl⟩
  simp only [gV]
  clear hb hb'
  go_wp2_with fail
  refine K.mono ?_
  rintro e w3 ⟨rfl, hg3, ho3⟩
  have HR := Lib.hid (HF.out _ hg3 ho3)
  clear hg3 ho3 K
  go_wp2
  go_end0
  exact ⟨rfl, HR.out⟩
/-- A node's tag, as it is told. -/
def tagOf (n : Nat) (s : G.GS) (i : Int) : Int := if i < 1 ∨ (n : Int) < i then 0 else G.tagAt s.tags (i - 1).toNat
end Go.Proofs.YtemikojaldoofaaGreat
namespace Go.Proofs.YtemikojaldoofaaGreat
open Go.ChangeShapes Go.WideShapes Go.ChangeAt Go.RowKit
set_option linter.unusedVariables false
set_option maxRecDepth 20000

/-- A thread, written plainly: its frames, the three numbers that it told last. -/
structure Th where
  fr : List Fr
  r0 : Int
  r1 : Int
  r2 : Int
  v : Nat → Value
/-- Behind a pop: the frames that are left, what was told. -/
def Th.told (t : Th) (l : List Fr) (x y z : Int) : Th := ⟨l, x, y, z, t.v⟩
/-- A value of a thread's other cells is another. -/
def Th.setV (t : Th) (j : Nat) (u : Value) : Th := { t with v := fun k => if k = j then u else t.v k }
/-- A thread's cells that routines of lower layers leave as they are. -/
abbrev Oth (j : Nat) : Prop := j = 0 ∨ (5 ≤ j ∧ j < 10)
/-- All that routines turn: the memory, the ghost, whether a step had an error, the threads. -/
structure Sg where
  ms : MS
  gs : Gh
  bad : Bool
  ts : Nat → Th
def upd (ts : Nat → Th) (i : Nat) (t : Th) : Nat → Th := fun j => if j = i then t else ts j
theorem upd_same (ts : Nat → Th) (i : Nat) (t : Th) : upd ts i t i = t := by simp [upd]
theorem upd_ne (ts : Nat → Th) {i j : Nat} (t : Th) (h : j ≠ i) : upd ts i t j = ts j := by simp [upd, h]

/-- One thread's cells, at the place off of the threads' block. -/
structure ThIn (cs : Array Value) (off : Nat) (v : Value) (t : Th) (W : World) : Prop where
  sl : cs[off + 1]? = some v
  c0 : cs[off + 2]? = some (.int .u64 t.r0)
  c1 : cs[off + 2 + 1]? = some (.int .u64 t.r1)
  c2 : cs[off + 2 + 2]? = some (.int .u64 t.r2)
  row : W.ownsRow 0 103 12 v t.fr.length (encFs t.fr)
  vv : ∀ j, Oth j → cs[off + j]? = some (t.v j)
/-- A machine at B, its threads at T; X: the blocks that its steps may turn. -/
def Mac (c : P.Cf) (B Fb T : Nat) (X : Nat → Prop) (σ : Sg) (W : World) : Prop :=
  ∃ (O : Nat → Prop) (cs : Array Value) (vs : Nat → Value), X = (fun k => k = T ∨ O k ∨ ∃ i, i < c.th.toNat ∧ (vs i).ownBlock = some k) ∧ MachAt B c Fb T σ.ms σ.gs σ.bad O W ∧ Blk W T 48 cs ∧ cs.size = c.th.toNat * 10 ∧
    (∀ i, i < c.th.toNat → ThIn cs (i * 10) (vs i) (σ.ts i) W) ∧ ∀ i j, i < c.th.toNat → j < c.th.toNat → i ≠ j → ∀ k, (vs i).ownBlock = some k → (vs j).ownBlock ≠ some k
/-- The machine has become another; its own blocks alone have turned. -/
def MacT (c : P.Cf) (B Fb T : Nat) (σ : Sg) (X : Nat → Prop) (W W' : World) : Prop := ∃ X', Keeps X W W' ∧ Later X W X' ∧ Mac c B Fb T X' σ W'

theorem row_blk {W : World} {b size n : Nat} {e : TypeId} {v : Value} {xs : List Value} (h : W.ownsRow b e size v n xs) {k : Nat} (hk : v.ownBlock = some k) : ∃ cur, Blk W k e cur := by
  rcases h.2 with ⟨e', _⟩ | ⟨gg, cap, cur, e', _, hg, _⟩
  · rw [e'] at hk; cases hk
  · rw [e'] at hk
    have e2 : gg = k := by simpa [Value.ownBlock] using hk
    subst e2
    exact ⟨cur, hg⟩
theorem ThIn.agree {cs : Array Value} {off : Nat} {v : Value} {t : Th} {W W' : World} (h : ThIn cs off v t W) (hk : ∀ k, v.ownBlock = some k → W'.heap[k]? = W.heap[k]?) : ThIn cs off v t W' :=
  ⟨h.sl, h.c0, h.c1, h.c2, row_agree h.row hk, h.vv⟩

variable {c : P.Cf} {B Fb T : Nat} {X : Nat → Prop} {σ : Sg} {W W' : World}
theorem Mac.lt (h : Mac c B Fb T X σ W) {k : Nat} (hk : X k) : k < W.heap.size := by
  obtain ⟨O, cs, vs, rfl, hm, hT, hs, hi, ha⟩ := h
  rcases hk with rfl | hk | ⟨i, hi', hk⟩
  · exact hT.lt
  · exact hm.lt hk
  · exact ((hi i hi').row.lt k hk).2
theorem Mac.agree (h : Mac c B Fb T X σ W) (hk : ∀ k, X k → W'.heap[k]? = W.heap[k]?) : Mac c B Fb T X σ W' := by
  obtain ⟨O, cs, vs, rfl, hm, hT, hs, hi, ha⟩ := h
  exact ⟨O, cs, vs, rfl, hm.agree fun k ho => hk k (.inr (.inl ho)), hT.agree (hk T (.inl rfl)), hs, fun i h0 => (hi i h0).agree fun k e => hk k (.inr (.inr ⟨i, h0, e⟩)), ha⟩
theorem Mac.below (h : Mac c B Fb T X σ W) (hb : Below W.heap.size W W') : Mac c B Fb T X σ W' := h.agree fun k hk => hb.block k (h.lt hk)
theorem Mac.alloc (h : Mac c B Fb T X σ W) (o : Obj) : Mac c B Fb T X σ (W.alloc o) := h.agree fun k hk => Below.heap_alloc _ _ _ (h.lt hk)
theorem Mac.drew (h : Mac c B Fb T X σ W) : Mac c B Fb T X σ W.drew := h.agree fun k hk => rfl
theorem Mac.keeps {X' : Nat → Prop} (h : Mac c B Fb T X σ W) (hk : Keeps X' W W') (hd : ∀ k, X k → ¬ X' k) : Mac c B Fb T X σ W' := h.agree fun k ho => hk.block k (h.lt ho) (hd k ho)
theorem MacT.refl (h : Mac c B Fb T X σ W) : MacT c B Fb T σ X W W := ⟨X, Keeps.refl _ _, Later.refl _ _, h⟩
theorem MacT.from {X1 : Nat → Prop} {W1 : World} (hk : Keeps X W W1) (hl : Later X W X1) (h : MacT c B Fb T σ X1 W1 W') : MacT c B Fb T σ X W W' := by
  obtain ⟨X', k, l, m⟩ := h
  exact ⟨X', hk.trans k hl, hl.trans hk.size l, m⟩
theorem MacT.below {V : World} (h : MacT c B Fb T σ X W W') (hb : Below W'.heap.size W' V) : MacT c B Fb T σ X W V := by
  obtain ⟨X', k, l, m⟩ := h
  exact ⟨X', k.trans (Keeps.of_below (O := X') hb) l, l, m.below hb⟩
theorem MacT.drew (h : MacT c B Fb T σ X W W') : MacT c B Fb T σ X W W'.drew := h.below ((Below.refl _ _).drew)
theorem Mac.own (h : Mac c B Fb T X σ W) : X B ∧ X T := by
  obtain ⟨O, cs, vs, rfl, hm, _⟩ := h
  exact ⟨.inr (.inl hm.own), .inl rfl⟩
/-- A block of another type is none of the machine's. -/
theorem Mac.no (h : Mac c B Fb T X σ W) {g : Nat} {t : TypeId} {cs : Array Value} (hb : Blk W g t cs) (h0 : t ≠ 79) (h1 : t ≠ 85) (h2 : t ≠ 24) (h3 : t ≠ 88) (h4 : t ≠ 96) (h5 : t ≠ 3) (h6 : t ≠ 48) (h7 : t ≠ 103) : ¬ X g := by
  obtain ⟨O, cs', vs, rfl, hm, hT, hs, hi, ha⟩ := h
  rintro (rfl | hk | ⟨i, h0', hk⟩)
  · exact Blk.ne hb hT h6 rfl
  · exact hm.no hb h0 h1 h2 h3 h4 h5 hk
  · obtain ⟨cur, hc⟩ := row_blk (hi i h0').row hk
    exact Blk.ne hb hc h7 rfl

/-- The threads' blocks, and the frames, have not turned. -/
def Still (W W' : World) : Prop := ∀ k ty cs, Blk W k ty cs → ty = 48 ∨ ty = 103 → W'.heap[k]? = W.heap[k]?
/-- The machine's own have turned: the threads have not. -/
theorem Mac.turn {ms' : MS} {gs' : Gh} {bad' : Bool} {O : Nat → Prop} {cs : Array Value} {vs : Nat → Value} (hm : MachAt B c Fb T σ.ms σ.gs σ.bad O W) (hT : Blk W T 48 cs) (hs : cs.size = c.th.toNat * 10)
    (hi : ∀ i, i < c.th.toNat → ThIn cs (i * 10) (vs i) (σ.ts i) W) (ha : ∀ i j, i < c.th.toNat → j < c.th.toNat → i ≠ j → ∀ k, (vs i).ownBlock = some k → (vs j).ownBlock ≠ some k)
    (ht : MTurn B c Fb T ms' gs' bad' O W W') : MacT c B Fb T ⟨ms', gs', bad', σ.ts⟩ (fun k => k = T ∨ O k ∨ ∃ i, i < c.th.toNat ∧ (vs i : Value).ownBlock = some k) W W' ∧ Still W W' := by
  obtain ⟨O', hk, hl, hm'⟩ := ht
  have nO : ∀ {x : Nat} {ty : TypeId} {cs : Array Value}, Blk W x ty cs → ty ≠ 79 → ty ≠ 85 → ty ≠ 24 → ty ≠ 88 → ty ≠ 96 → ty ≠ 3 → W'.heap[x]? = W.heap[x]? := fun hb h0 h1' h2 h3 h4 h5 => hk.block _ hb.lt (hm.no hb h0 h1' h2 h3 h4 h5)
  refine ⟨⟨fun k => k = T ∨ O' k ∨ ∃ i, i < c.th.toNat ∧ (vs i).ownBlock = some k, hk.mono fun k h => .inl (.inr (.inl h)), ?_, O', cs, vs, rfl, hm', hT.agree (nO hT (by decide) (by decide) (by decide) (by decide) (by decide) (by decide)), hs, ?_, ha⟩, fun k ty cs hb ht => by
    rcases ht with rfl | rfl
    · exact nO hb (by decide) (by decide) (by decide) (by decide) (by decide) (by decide)
    · exact nO hb (by decide) (by decide) (by decide) (by decide) (by decide) (by decide)⟩
  · rintro k (h | h | h)
    · exact .inl (.inl h)
    · exact (hl k h).imp (fun h => .inr (.inl h)) id
    · exact .inl (.inr (.inr h))
  · intro i h0
    refine (hi i h0).agree fun k e => ?_
    obtain ⟨cur, hc⟩ := row_blk (hi i h0).row e
    exact nO hc (by decide) (by decide) (by decide) (by decide) (by decide) (by decide)
theorem Mac.one (h : Mac c B Fb T X σ W) {v : Value} {K : Nat} {args : Array Value} {ms' : MS} {gs' : Gh} {bad' : Bool}
    (hK : ∀ O, MachAt B c Fb T σ.ms σ.gs σ.bad O W → Calls Tryz.prog K args W (MDoes B c Fb T v ms' gs' bad' O W)) :
    Calls Tryz.prog K args W fun e W' => e = .returned v ∧ MacT c B Fb T ⟨ms', gs', bad', σ.ts⟩ X W W' ∧ Still W W' := by
  obtain ⟨O, cs, vs, rfl, hm, hT, hs, hi, ha⟩ := h
  refine (hK O hm).mono ?_
  rintro e W' ⟨rfl, ht⟩
  exact ⟨rfl, Mac.turn hm hT hs hi ha ht⟩

/-- What is read of a machine. -/
theorem Mac.thread (h : Mac c B Fb T X σ W) : W.cell? ⟨B, 10, none⟩ = some (.slice (some ⟨T, 0, none⟩) c.th.toNat c.th.toNat) := by
  obtain ⟨O, cs, vs, rfl, ⟨M, Om, rfl, hb, hm, hg⟩, _⟩ := h
  have c7 := hb.cell 10
  simpa [machCs] using c7
theorem Mac.mem (h : Mac c B Fb T X σ W) : ∃ M, W.cell? ⟨B, 7, none⟩ = some (at0 M) ∧ ∀ V, Below W.heap.size W V → Calls Tryz.prog 15 #[at0 M] V fun e V' => e = .returned (.int .i64 σ.ms.st) ∧ V = V' := by
  obtain ⟨O, cs, vs, rfl, ⟨M, Om, rfl, hb, hm, hg⟩, _⟩ := h
  have c7 := hb.cell 7
  simp [machCs] at c7
  exact ⟨M, c7, fun V hV => steps_any M σ.ms Om V (hm.agree fun k ho => hV.block k (MemAt.lt hm ho))⟩
theorem Mac.fault (h : Mac c B Fb T X σ W) : Calls Tryz.prog 26 #[at0 B] W fun e W' => e = .returned (.bool (σ.bad || gBad σ.gs)) ∧ Below W.heap.size W W' := by
  obtain ⟨O, cs, vs, rfl, hm, _⟩ := h
  exact fault_any B c Fb T σ.ms σ.gs σ.bad O W hm
theorem Mac.plan (h : Mac c B Fb T X σ W) : Calls Tryz.prog 10 #[at0 B] W fun e W' => e = .returned c.v ∧ Below W.heap.size W W' := by
  obtain ⟨O, cs, vs, rfl, ⟨M, Om, rfl, hb, hm, hg⟩, _⟩ := h
  exact plan_any B M c _ Fb T _ σ.bad W hb
/-- What it told last lies in its cells. -/
theorem Mac.ret (h : Mac c B Fb T X σ W) {i : Nat} (hi : i < c.th.toNat) : W.cell? ⟨T, i * 10 + 2, none⟩ = some (.int .u64 (σ.ts i).r0) ∧ W.cell? ⟨T, i * 10 + 2 + 1, none⟩ = some (.int .u64 (σ.ts i).r1) ∧ W.cell? ⟨T, i * 10 + 2 + 2, none⟩ = some (.int .u64 (σ.ts i).r2) := by
  obtain ⟨O, cs, vs, rfl, hm, hT, hs, hx, ha⟩ := h
  exact ⟨(hT.cell _).trans (hx i hi).c0, (hT.cell _).trans (hx i hi).c1, (hT.cell _).trans (hx i hi).c2⟩

/-- The threads' block has other cells, or a row of frames: the machine has not turned. -/
theorem Mac.others {Y : Nat → Prop} {O : Nat → Prop} {cs : Array Value} (hm : MachAt B c Fb T σ.ms σ.gs σ.bad O W) (hT : Blk W T 48 cs) (hk : Keeps Y W W') (hY : ∀ k, Y k → k = T ∨ ∃ cur, Blk W k 103 cur) : MachAt B c Fb T σ.ms σ.gs σ.bad O W' :=
  hm.keeps hk fun k ho hy => by
    rcases hY k hy with rfl | ⟨cur, hc⟩
    · exact hm.no hT (by decide) (by decide) (by decide) (by decide) (by decide) (by decide) ho
    · exact hm.no hc (by decide) (by decide) (by decide) (by decide) (by decide) (by decide) ho
theorem off_ne {i j a b : Nat} (h : i ≠ j) (ha : a < 10) (hb : b < 10) : i * 10 + a ≠ j * 10 + b := by omega
/-- A frame is put on. -/
theorem Mac.push (h : Mac c B Fb T X σ W) {i : Nat} (hi : i < c.th.toNat) (hl : (σ.ts i).fr.length ≤ 1000) (fn : Int) {a : Option Addr} {n cap : Nat} {rl : List Int} (R : F.Row .u64 W a n cap rl) (hn : n ≤ 100) :
    Calls Tryz.prog 28 #[.pointer (some ⟨T, i * 10, none⟩), .int .i64 fn, .slice a n cap] W fun e W' => e = .returned (.tuple #[]) ∧
      MacT c B Fb T { σ with ts := upd σ.ts i { σ.ts i with fr := (σ.ts i).fr ++ [⟨fn, 0, rl⟩] } } X W W' := by
  obtain ⟨O, cs, vs, rfl, hm, hT, hs, hx, ha⟩ := h
  have hi0 := hx i hi
  refine (push_any T (i * 10) cs (vs i) (σ.ts i).fr fn a n cap rl W hT hi0.sl hi0.row hl R hn).mono ?_
  rintro e W' ⟨rfl, v', b1, b2, b3, b4⟩
  have hlt : i * 10 + 1 < cs.size := (Array.getElem?_eq_some_iff.1 hi0.sl).1
  have hfar : ∀ j, j < c.th.toNat → j ≠ i → ∀ k, (vs j).ownBlock = some k → W'.heap[k]? = W.heap[k]? := fun j hj hji k e => by
    refine b3.block k ((hx j hj).row.lt k e).2 ?_
    rintro (rfl | hv)
    · exact hT.not_row (hx j hj).row (by decide) e
    · exact ha j i hj hi hji k e hv
  refine ⟨rfl, fun k => k = T ∨ O k ∨ ∃ j, j < c.th.toNat ∧ ((if j = i then v' else vs j) : Value).ownBlock = some k, b3.mono ?_, ?_, O, _, fun j => if j = i then v' else vs j, rfl, ?_, b1, by simpa using hs, ?_, ?_⟩
  · rintro k (rfl | hk)
    · exact .inl (.inl rfl)
    · exact .inl (.inr (.inr ⟨i, hi, hk⟩))
  · rintro k (hk | hk | ⟨j, hj, hk⟩)
    · exact .inl (.inl hk)
    · exact .inl (.inr (.inl hk))
    · by_cases hji : j = i
      · rw [if_pos hji] at hk
        rcases b4 k hk with h1 | h1
        · exact .inl (.inr (.inr ⟨i, hi, h1⟩))
        · exact .inr h1
      · rw [if_neg hji] at hk
        exact .inl (.inr (.inr ⟨j, hj, hk⟩))
  · exact Mac.others hm hT b3 fun k hk => hk.imp id fun hk => row_blk hi0.row hk
  · intro j hj
    by_cases hji : j = i
    · subst hji
      simp only [if_true, upd_same]
      refine ⟨?_, ?_, ?_, ?_, by simpa using b2, fun q hq => by rw [Array.getElem?_setIfInBounds_ne (by unfold Oth at hq; omega)]; exact hi0.vv q hq⟩
      · exact Array.getElem?_setIfInBounds_self_of_lt hlt
      · rw [Array.getElem?_setIfInBounds_ne (by omega)]; exact hi0.c0
      · rw [Array.getElem?_setIfInBounds_ne (by omega)]; exact hi0.c1
      · rw [Array.getElem?_setIfInBounds_ne (by omega)]; exact hi0.c2
    · simp only [if_neg hji, upd_ne _ _ hji]
      have h0 := hx j hj
      refine ThIn.agree ⟨?_, ?_, ?_, ?_, h0.row, fun q hq => by rw [Array.getElem?_setIfInBounds_ne (by unfold Oth at hq; omega)]; exact h0.vv q hq⟩ (hfar j hj hji)
      · rw [Array.getElem?_setIfInBounds_ne (by omega)]; exact h0.sl
      · rw [Array.getElem?_setIfInBounds_ne (by omega)]; exact h0.c0
      · rw [Array.getElem?_setIfInBounds_ne (by omega)]; exact h0.c1
      · rw [Array.getElem?_setIfInBounds_ne (by omega)]; exact h0.c2
  · have key : ∀ j, j < c.th.toNat → j ≠ i → ∀ k, v'.ownBlock = some k → (vs j).ownBlock ≠ some k := fun j hj hji k e e2 => by
      rcases b4 k e with h1 | h1
      · exact ha i j hi hj (Ne.symm hji) k h1 e2
      · have := ((hx j hj).row.lt k e2).2
        omega
    intro j1 j2 h1 h2 hne k e e2
    dsimp only at e e2
    by_cases e1 : j1 = i
    · subst e1
      rw [if_pos rfl] at e
      rw [if_neg (Ne.symm hne)] at e2
      exact key j2 h2 (Ne.symm hne) k e e2
    · rw [if_neg e1] at e
      by_cases e3 : j2 = i
      · subst e3
        rw [if_pos rfl] at e2
        exact key j1 h1 hne k e2 e
      · rw [if_neg e3] at e2
        exact ha j1 j2 h1 h2 hne k e e2
/-- The top frame is taken off. -/
theorem Mac.pop (h : Mac c B Fb T X σ W) {i : Nat} (hi : i < c.th.toNat) {l : List Fr} {f : Fr} (hfr : (σ.ts i).fr = l ++ [f]) (hl : l.length ≤ 1000) {a : Option Addr} {n cap : Nat} {rs : List Int} (R : F.Row .u64 W a n cap rs) (hn : n ≤ 100) (hR : 0 < n → ∀ x, a = some x → x.block ≠ T) :
    Calls Tryz.prog 70 #[.pointer (some ⟨T, i * 10, none⟩), .slice a n cap] W fun e W' => e = .returned (.tuple #[]) ∧
      MacT c B Fb T { σ with ts := upd σ.ts i ((σ.ts i).told l (rs.getD 0 0) (rs.getD 1 0) (rs.getD 2 0)) } X W W' := by
  obtain ⟨O, cs, vs, rfl, hm, hT, hs, hx, ha⟩ := h
  have hi0 := hx i hi
  have hrow := hi0.row
  rw [hfr] at hrow
  rcases hrow.2 with ⟨_, hz⟩ | ⟨gg, cp, cur, ev, hg, hcur, hc, hmm, hsz, htk⟩
  · simp at hz
  have hsl := hi0.sl
  rw [ev] at hsl
  have hlen : (l ++ [f]).length = l.length + 1 := by simp
  rw [hlen] at hsl hc
  have hT5 : i * 10 + 5 ≤ cs.size := by omega
  refine (pop_any T (i * 10) gg l.length cp cs a n cap rs W hT hsl hT5 hl ⟨hc, by unfold maxLen at hmm; omega⟩ R hn hR).mono ?_
  rintro e W' ⟨rfl, b1, b2⟩
  have hnT : ∀ j, j < c.th.toNat → ∀ k, (vs j).ownBlock = some k → W'.heap[k]? = W.heap[k]? := fun j hj k e => b2.block k ((hx j hj).row.lt k e).2 (by
    rintro rfl
    exact hT.not_row (hx j hj).row (by decide) e)
  have hcg : W'.heap[gg]? = W.heap[gg]? := hnT i hi gg (by rw [ev]; rfl)
  have hown : ∀ j k, ((if j = i then .slice (some ⟨gg, 0, none⟩) l.length cp else vs j) : Value).ownBlock = some k → (vs j).ownBlock = some k := fun j k e => by
    by_cases hji : j = i
    · subst hji
      rw [if_pos rfl] at e
      rw [ev]; exact e
    · rw [if_neg hji] at e; exact e
  refine ⟨rfl, fun k => k = T ∨ O k ∨ ∃ j, j < c.th.toNat ∧ ((if j = i then .slice (some ⟨gg, 0, none⟩) l.length cp else vs j) : Value).ownBlock = some k, b2.mono fun k hk => .inl (.inl hk), ?_, O, _, fun j => if j = i then .slice (some ⟨gg, 0, none⟩) l.length cp else vs j, rfl, ?_, b1, by simpa using hs, ?_, ?_⟩
  · rintro k (hk | hk | ⟨j, hj, hk⟩)
    · exact .inl (.inl hk)
    · exact .inl (.inr (.inl hk))
    · exact .inl (.inr (.inr ⟨j, hj, hown j k hk⟩))
  · exact Mac.others hm hT b2 fun k hk => .inl hk
  · intro j hj
    by_cases hji : j = i
    · subst hji
      simp only [if_true, upd_same]
      refine ⟨?_, ?_, ?_, ?_, ?_, fun q hq => by
        unfold Oth at hq
        rw [Array.getElem?_setIfInBounds_ne (by omega), Array.getElem?_setIfInBounds_ne (by omega), Array.getElem?_setIfInBounds_ne (by omega), Array.getElem?_setIfInBounds_ne (by omega)]
        exact hi0.vv q hq⟩
      · rw [Array.getElem?_setIfInBounds_ne (by omega), Array.getElem?_setIfInBounds_ne (by omega), Array.getElem?_setIfInBounds_ne (by omega)]
        exact Array.getElem?_setIfInBounds_self_of_lt (by omega)
      · rw [Array.getElem?_setIfInBounds_ne (by omega), Array.getElem?_setIfInBounds_ne (by omega)]
        exact Array.getElem?_setIfInBounds_self_of_lt (by simp; omega)
      · rw [Array.getElem?_setIfInBounds_ne (by omega)]
        exact Array.getElem?_setIfInBounds_self_of_lt (by simp; omega)
      · exact Array.getElem?_setIfInBounds_self_of_lt (by simp; omega)
      · show W'.ownsRow 0 103 12 (.slice (some ⟨gg, 0, none⟩) l.length cp) l.length (encFs l)
        refine ⟨encFs_len l, .inr ⟨gg, cp, cur, rfl, hg, hcg.trans hcur, by omega, hmm, hsz, ?_⟩⟩
        have e1 : encFs (l ++ [f]) = encFs l ++ f.cs := encFs_snoc l f
        rw [e1] at htk
        have h2 := congrArg (List.take (l.length * 12)) htk
        rw [List.take_take, List.take_append_of_le_length (by rw [encFs_len]; omega), List.take_of_length_le (l := encFs l) (by rw [encFs_len]; omega)] at h2
        rw [show min (l.length * 12) ((l ++ [f]).length * 12) = l.length * 12 by simp] at h2
        simpa using h2
    · simp only [if_neg hji, upd_ne _ _ hji]
      have h0 := hx j hj
      refine ThIn.agree ⟨?_, ?_, ?_, ?_, h0.row, fun q hq => by
        unfold Oth at hq
        rw [Array.getElem?_setIfInBounds_ne (by omega), Array.getElem?_setIfInBounds_ne (by omega), Array.getElem?_setIfInBounds_ne (by omega), Array.getElem?_setIfInBounds_ne (by omega)]
        exact h0.vv q hq⟩ (hnT j hj)
      all_goals
        rw [Array.getElem?_setIfInBounds_ne (by omega), Array.getElem?_setIfInBounds_ne (by omega), Array.getElem?_setIfInBounds_ne (by omega), Array.getElem?_setIfInBounds_ne (by omega)]
      · exact h0.sl
      · exact h0.c0
      · exact h0.c1
      · exact h0.c2
  · intro j1 j2 h1 h2 hne k e e2
    exact ha j1 j2 h1 h2 hne k (hown j1 k e) (hown j2 k e2)

/-- The list of a frame's cells with one of them written. -/
def Fr.setC (f : Fr) : Nat → Int → Fr
  | 0, x => { f with fn := x }
  | 1, x => { f with pc := x }
  | j + 2, x => { f with r := (ten f.r).set j x }
def cellV (j : Nat) (x : Int) : Value := if j < 2 then .int .i64 x else .int .u64 x
theorem ten_ten (r : List Int) (h : r.length = 10) : ten r = r := by
  match r, h with
  | [_, _, _, _, _, _, _, _, _, _], _ => rfl
theorem ten_len (r : List Int) : (ten r).length = 10 := by simp [ten]
theorem setC_cs (f : Fr) (j : Nat) (x : Int) (hj : j < 12) : (f.setC j x).cs = f.cs.set j (cellV j x) := by
  match j, hj with
  | 0, _ => simp [Fr.setC, Fr.cs, cellV]
  | 1, _ => simp [Fr.setC, Fr.cs, cellV]
  | j + 2, hj =>
    simp only [Fr.setC, Fr.cs, cellV]
    rw [ten_ten _ (by rw [List.length_set, ten_len]), if_neg (by omega)]
    simp [List.map_set]
theorem encFs_set (l : List Fr) (f : Fr) (j : Nat) (x : Int) (hj : j < 12) : (encFs (l ++ [f])).set (l.length * 12 + j) (cellV j x) = encFs (l ++ [f.setC j x]) := by
  rw [encFs_snoc, encFs_snoc, setC_cs f j x hj, ← encFs_len l, List.set_append_right _ _ (by omega)]
  congr 2
  omega
theorem encFs_get (l : List Fr) (f : Fr) (j : Nat) (hj : j < 12) : (encFs (l ++ [f]))[l.length * 12 + j]? = f.cs[j]? := by
  rw [encFs_snoc, ← encFs_len l, List.getElem?_append_right (by omega)]
  congr 1
  omega

/-- Top of a thread without frames. -/
theorem Mac.topNone (h : Mac c B Fb T X σ W) {i : Nat} (hi : i < c.th.toNat) (hfr : (σ.ts i).fr = []) : Calls Tryz.prog 27 #[.pointer (some ⟨T, i * 10, none⟩)] W fun e W' => e = .returned (.pointer none) ∧ W = W' := by
  obtain ⟨O, cs, vs, rfl, hm, hT, hs, hx, ha⟩ := h
  have h0 := hx i hi
  have h1 : W.cell? ⟨T, i * 10 + 1, none⟩ = some (vs i) := (hT.cell _).trans h0.sl
  have hr := h0.row
  rw [hfr] at hr
  rcases hr.2 with ⟨ev, hz⟩ | ⟨gg, cp, cur, ev, _⟩
  · rw [ev] at h1
    exact top_none T (i * 10) _ _ W h1
  · rw [ev] at h1
    exact top_none T (i * 10) _ _ W h1
/-- Where a frame lies, and what is read of it. -/
structure FrIs (T i gg o cp : Nat) (f : Fr) (W : World) : Prop where
  sl : W.cell? ⟨T, i * 10 + 1, none⟩ = some (.slice (some ⟨gg, 0, none⟩) (o / 12 + 1) cp)
  o12 : o % 12 = 0
  fn : W.cell? ⟨gg, o, none⟩ = some (.int .i64 f.fn)
  pc : W.cell? ⟨gg, o + 1, none⟩ = some (.int .i64 f.pc)
  reg : ∀ k, k < 10 → W.cell? ⟨gg, o + 2 + k, none⟩ = some (.int .u64 (f.r.getD k 0))
  fz : ∀ k, W.frozen? ⟨gg, k, none⟩ = false
  bl : ∃ cur, Blk W gg 103 cur
  tb : ∃ cs, Blk W T 48 cs
theorem FrIs.agree {i gg o cp : Nat} {f : Fr} (h : FrIs T i gg o cp f W) (hg : W'.heap[gg]? = W.heap[gg]?) (hT : W'.heap[T]? = W.heap[T]?) : FrIs T i gg o cp f W' := by
  obtain ⟨cur, hb⟩ := h.bl
  obtain ⟨cs, ht⟩ := h.tb
  have q : ∀ j, W'.cell? ⟨gg, j, none⟩ = W.cell? ⟨gg, j, none⟩ := fun j => ((hb.agree hg).cell j).trans (hb.cell j).symm
  exact ⟨((ht.agree hT).cell _).trans ((ht.cell _).symm.trans h.sl), h.o12, (q _).trans h.fn, (q _).trans h.pc, fun k hk => (q _).trans (h.reg k hk), fun k => (hb.agree hg).frozen k, ⟨cur, hb.agree hg⟩, ⟨cs, ht.agree hT⟩⟩
theorem FrIs.lt {i gg o cp : Nat} {f : Fr} (h : FrIs T i gg o cp f W) : gg < W.heap.size := by
  obtain ⟨cur, hb⟩ := h.bl
  exact hb.lt
theorem FrIs.still {i gg o cp : Nat} {f : Fr} (h : FrIs T i gg o cp f W) (hs : Still W W') : FrIs T i gg o cp f W' := by
  obtain ⟨cur, hb⟩ := h.bl
  obtain ⟨cs, ht⟩ := h.tb
  exact h.agree (hs _ _ _ hb (.inr rfl)) (hs _ _ _ ht (.inl rfl))
theorem FrIs.below {i gg o cp : Nat} {f : Fr} (h : FrIs T i gg o cp f W) (hb : Below W.heap.size W W') : FrIs T i gg o cp f W' := by
  obtain ⟨cs, ht⟩ := h.tb
  exact h.agree (hb.block _ h.lt) (hb.block _ ht.lt)
theorem FrIs.drew {i gg o cp : Nat} {f : Fr} (h : FrIs T i gg o cp f W) : FrIs T i gg o cp f W.drew := h.agree rfl rfl
theorem ten_getD (r : List Int) (k : Nat) (hk : k < 10) : (ten r).getD k 0 = r.getD k 0 := by
  simp [ten, List.getD_eq_getElem?_getD, List.getElem?_range hk]
theorem set_getD (r : List Int) (j k : Nat) (x : Int) (hj : j < 10) (hk : k < 10) : ((ten r).set j x).getD k 0 = if j = k then x else r.getD k 0 := by
  rw [← ten_getD r k hk, List.getD_eq_getElem?_getD, List.getElem?_set]
  by_cases e : j = k
  · subst e
    simp [ten_len, hj]
  · simp [e]
/-- A frame behind a store. -/
theorem FrIs.set {i gg o cp : Nat} {f : Fr} (h : FrIs T i gg o cp f W) (j : Nat) (hj : j < 12) (x : Int) : FrIs T i gg o cp (f.setC j x) (W.setCell ⟨gg, o + j, none⟩ (cellV j x)) := by
  obtain ⟨cur, hb⟩ := h.bl
  obtain ⟨cs, ht⟩ := h.tb
  have hs := hb.set (o + j) (cellV j x)
  have hne : T ≠ gg := Blk.ne ht hb (by decide)
  have ht' := ht.far (p := ⟨gg, o + j, none⟩) hne (cellV j x)
  have hc : ∀ q, o ≤ q → q < o + 12 → q < cur.size := fun q h1 h2 => by
    have h3 := h.reg 9 (by omega)
    rw [hb.cell] at h3
    have := (Array.getElem?_eq_some_iff.1 h3).1
    omega
  have q : ∀ q, q ≠ o + j → (W.setCell ⟨gg, o + j, none⟩ (cellV j x)).cell? ⟨gg, q, none⟩ = W.cell? ⟨gg, q, none⟩ := fun q hq => by
    rw [hs.cell, hb.cell, Array.getElem?_setIfInBounds_ne (Ne.symm hq)]
  have q0 : (W.setCell ⟨gg, o + j, none⟩ (cellV j x)).cell? ⟨gg, o + j, none⟩ = some (cellV j x) := by
    rw [hs.cell]; exact Array.getElem?_setIfInBounds_self_of_lt (hc _ (by omega) (by omega))
  refine ⟨(ht'.cell _).trans ((ht.cell _).symm.trans h.sl), h.o12, ?_, ?_, fun k hk => ?_, fun k => hs.frozen k, ⟨_, hs⟩, ⟨cs, ht'⟩⟩
  · match j with
    | 0 => exact q0
    | j + 1 => rw [q _ (by omega)]; cases j <;> exact h.fn
  · match j with
    | 0 => rw [q _ (by omega)]; exact h.pc
    | 1 => exact q0
    | j + 2 => rw [q _ (by omega)]; exact h.pc
  · match j with
    | 0 => rw [q _ (by omega)]; exact h.reg k hk
    | 1 => rw [q _ (by omega)]; exact h.reg k hk
    | j + 2 =>
      show _ = some (Value.int .u64 (((ten f.r).set j x).getD k 0))
      rw [set_getD f.r j k x (by omega) hk]
      by_cases e : j = k
      · subst e
        rw [if_pos rfl, show o + 2 + j = o + (j + 2) by omega, q0]
        simp [cellV]
      · rw [if_neg e, q _ (by omega)]; exact h.reg k hk
theorem Mac.frame (h : Mac c B Fb T X σ W) {i : Nat} (hi : i < c.th.toNat) {l : List Fr} {f : Fr} (hfr : (σ.ts i).fr = l ++ [f]) (hl : l.length ≤ 1000) :
    ∃ gg cp, FrIs T i gg (l.length * 12) cp f W ∧ X gg ∧ Calls Tryz.prog 27 #[.pointer (some ⟨T, i * 10, none⟩)] W fun e W' => e = .returned (.pointer (some ⟨gg, l.length * 12, none⟩)) ∧ W.drew = W' := by
  obtain ⟨O, cs, vs, rfl, hm, hT, hs, hx, ha⟩ := h
  have h0 := hx i hi
  have h1 : W.cell? ⟨T, i * 10 + 1, none⟩ = some (vs i) := (hT.cell _).trans h0.sl
  have hr := h0.row
  rw [hfr] at hr
  have hr' := hr
  rcases hr.2 with ⟨ev, hz⟩ | ⟨gg, cp, cur, ev, _, hcur, hcap⟩
  · simp at hz
  have hlen : (l ++ [f]).length = l.length + 1 := by simp
  rw [ev, hlen] at h1
  rw [ev] at hr
  have hcell : ∀ j, j < 12 → W.cell? ⟨gg, l.length * 12 + j, none⟩ = f.cs[j]? := fun j hj => by
    have h2 := hr.cellAt (l.length * 12 + j) (by rw [hlen]; omega)
    rw [encFs_get l f j hj] at h2
    simpa using h2
  refine ⟨gg, cp, ⟨?_, by omega, hcell 0 (by omega), hcell 1 (by omega), fun k hk => ?_, fun k => hr.frozenAt k, ⟨cur, hcur⟩, ⟨cs, hT⟩⟩, .inr (.inr ⟨i, hi, by rw [ev]; rfl⟩), top_some T (i * 10) gg l.length cp W hl h1⟩
  · rw [show l.length * 12 / 12 + 1 = l.length + 1 by omega]; exact h1
  · have := hcell (2 + k) (by omega)
    rw [show l.length * 12 + (2 + k) = l.length * 12 + 2 + k by omega] at this
    rw [this, show 2 + k = k + 1 + 1 by omega]
    simp [Fr.cs, ten, List.getElem?_range hk]
/-- One of the top frame's cells is written. -/
theorem Mac.setC (h : Mac c B Fb T X σ W) {i : Nat} (hi : i < c.th.toNat) {l : List Fr} {f f' : Fr} (hfr : (σ.ts i).fr = l ++ [f]) {gg o cp : Nat} (ho : l.length * 12 = o) (hF : FrIs T i gg o cp f' W) (j : Nat) (hj : j < 12) (x : Int) :
    MacT c B Fb T { σ with ts := upd σ.ts i { σ.ts i with fr := l ++ [f.setC j x] } } X W (W.setCell ⟨gg, o + j, none⟩ (cellV j x)) := by
  subst ho
  obtain ⟨O, cs, vs, rfl, hm, hT, hs, hx, ha⟩ := h
  have h0 := hx i hi
  have h1 : W.cell? ⟨T, i * 10 + 1, none⟩ = some (vs i) := (hT.cell _).trans h0.sl
  rw [hF.sl] at h1
  have ev : vs i = .slice (some ⟨gg, 0, none⟩) (l.length * 12 / 12 + 1) cp := by simpa using h1.symm
  have hr := h0.row
  rw [hfr, ev] at hr
  have hr2 := hr
  rw [show l.length * 12 / 12 + 1 = (l ++ [f]).length by simp] at hr2 ev
  have hst := (hr2.stored (l.length * 12 + j) (cellV j x)).1
  rw [encFs_set l f j x hj] at hst
  obtain ⟨cur, hcur⟩ := row_blk hr2 (k := gg) rfl
  have hk : Keeps (fun k => k = gg) W (W.setCell ⟨gg, l.length * 12 + j, none⟩ (cellV j x)) := (Keeps.refl (fun k => k = gg) W).setCell (.inl rfl) _
  have hgT : T ≠ gg := Blk.ne hT hcur (by decide)
  refine ⟨_, hk.mono fun k e => .inl (.inr (.inr ⟨i, hi, by rw [ev, e]; rfl⟩)), Later.refl _ _, O, cs, vs, rfl, Mac.others hm hT hk fun k e => .inr ⟨cur, by rw [e]; exact hcur⟩, hT.agree (hk.block T hT.lt hgT), hs, ?_, ha⟩
  intro q hq
  by_cases hqi : q = i
  · subst hqi
    simp only [upd_same]
    refine ⟨h0.sl, h0.c0, h0.c1, h0.c2, ?_, h0.vv⟩
    rw [ev]
    simpa using hst
  · simp only [upd_ne _ _ hqi]
    exact (hx q hq).agree fun k e => hk.block k ((hx q hq).row.lt k e).2 fun e2 => ha q i hq hi hqi k e (by rw [ev, e2]; rfl)
/-- What lies in a thread's other cells. -/
theorem Mac.oth (h : Mac c B Fb T X σ W) {i : Nat} (hi : i < c.th.toNat) {j : Nat} (hj : Oth j) : W.cell? ⟨T, i * 10 + j, none⟩ = some ((σ.ts i).v j) ∧ W.frozen? ⟨T, i * 10 + j, none⟩ = false ∧ X T ∧ ∃ cs, Blk W T 48 cs := by
  obtain ⟨O, cs, vs, rfl, hm, hT, hs, hx, ha⟩ := h
  exact ⟨(hT.cell _).trans ((hx i hi).vv j hj), hT.frozen _, .inl rfl, cs, hT⟩
/-- One of a thread's other cells has become another; nothing else of the machine has turned. -/
theorem Mac.setV (h : Mac c B Fb T X σ W) {i : Nat} (hi : i < c.th.toNat) {j : Nat} (hj : 5 ≤ j ∧ j < 10) (u : Value) (hk : ∀ k, X k → k ≠ T → W'.heap[k]? = W.heap[k]?) (hT' : ∀ cs, Blk W T 48 cs → Blk W' T 48 (cs.setIfInBounds (i * 10 + j) u)) :
    Mac c B Fb T X { σ with ts := upd σ.ts i ((σ.ts i).setV j u) } W' := by
  obtain ⟨O, cs, vs, rfl, hm, hT, hs, hx, ha⟩ := h
  have hlt : i * 10 + j < cs.size := (Array.getElem?_eq_some_iff.1 ((hx i hi).vv j (.inr hj))).1
  refine ⟨O, _, vs, rfl, hm.agree fun k e => hk k (.inr (.inl e)) (by rintro rfl; exact hm.no hT (by decide) (by decide) (by decide) (by decide) (by decide) (by decide) e), hT' cs hT, by simpa using hs, ?_, ha⟩
  intro q hq
  have h0 := hx q hq
  have hag : ∀ k, (vs q : Value).ownBlock = some k → W'.heap[k]? = W.heap[k]? := fun k e => hk k (.inr (.inr ⟨q, hq, e⟩)) (by
    rintro rfl
    exact hT.not_row h0.row (by decide) e)
  by_cases hqi : q = i
  · subst hqi
    simp only [upd_same]
    refine ThIn.agree ⟨?_, ?_, ?_, ?_, h0.row, fun k hk => ?_⟩ hag
    · rw [Array.getElem?_setIfInBounds_ne (by omega)]; exact h0.sl
    · rw [Array.getElem?_setIfInBounds_ne (by omega)]; exact h0.c0
    · rw [Array.getElem?_setIfInBounds_ne (by omega)]; exact h0.c1
    · rw [Array.getElem?_setIfInBounds_ne (by omega)]; exact h0.c2
    · by_cases e : k = j
      · subst e
        rw [Array.getElem?_setIfInBounds_self_of_lt hlt]
        simp [Th.setV]
      · rw [Array.getElem?_setIfInBounds_ne (by omega), h0.vv k hk]
        simp [Th.setV, e]
  · simp only [upd_ne _ _ hqi]
    refine ThIn.agree ⟨?_, ?_, ?_, ?_, h0.row, fun k hk => ?_⟩ hag
    · rw [Array.getElem?_setIfInBounds_ne (by omega)]; exact h0.sl
    · rw [Array.getElem?_setIfInBounds_ne (by omega)]; exact h0.c0
    · rw [Array.getElem?_setIfInBounds_ne (by omega)]; exact h0.c1
    · rw [Array.getElem?_setIfInBounds_ne (by omega)]; exact h0.c2
    · rw [Array.getElem?_setIfInBounds_ne (by unfold Oth at hk; omega)]; exact h0.vv k hk
end Go.Proofs.YtemikojaldoofaaGreat
