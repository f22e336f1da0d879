/- What a sequence that is ranged over tells, whoever takes it, and the law of a loop over such a one: who owns which blocks of memory, and that nobody turns another one's. -/
import Derived.Test.YtemikojaldoofaaGreatMA
import Derived.RangeFuncNested
import Derived.RangeFuncLeaves
import Derived.RangeFuncBound
import Derived.WalkKit
import Derived.OwnWalkIn
import Derived.TacticsInMore
namespace Go.Proofs.YtemikojaldoofaaGreat
open Go.RowKit
set_option linter.unusedVariables false


theorem Keeps.putObj {O : Nat → Prop} {A W : World} (h : Keeps O A W) {l : Nat} (hp : O l ∨ A.heap.size ≤ l) (o : Obj) : Keeps O A (W.putObj l o) :=
  ⟨h.os, h.tape, h.output, by have := h.size; simp; omega, fun k hk hn => (World.putObj_heap_other (fun e => by
    subst e; rcases hp with hp | hp; exact hn hp; omega)).trans (h.block k hk hn)⟩
theorem Keeps.boxed {O : Nat → Prop} {A W : World} (h : Keeps O A W) {B : Nat} {t : TypeId} {v : Value} (hb : Boxed A B t v) (hn : ¬ O B) : Boxed W B t v := (h.block B hb.lt hn).trans hb
/-- It speaks of the blocks of O alone, and they lie there. -/
def Fits {β : Type} (J : β → (Nat → Prop) → World → Prop) : Prop :=
  ∀ s O W, J s O W → (∀ k, O k → k < W.heap.size) ∧ ∀ W', (∀ k, O k → W'.heap[k]? = W.heap[k]?) → J s O W'

theorem Fits.lt {β : Type} {J : β → (Nat → Prop) → World → Prop} (h : Fits J) {s : β} {O : Nat → Prop} {W : World} (hs : J s O W) {k : Nat} (hk : O k) : k < W.heap.size := (h s O W hs).1 k hk
theorem Fits.new {β : Type} {J : β → (Nat → Prop) → World → Prop} (h : Fits J) {s : β} {O : Nat → Prop} {W : World} (hs : J s O W) {k : Nat} (hk : W.heap.size ≤ k) : ¬ O k := fun ho => by have := h.lt hs ho; omega
theorem Fits.alloc {β : Type} {J : β → (Nat → Prop) → World → Prop} (h : Fits J) {s : β} {O : Nat → Prop} {W : World} (hs : J s O W) (o : Obj) : J s O (W.alloc o) :=
  (h s O W hs).2 _ fun _ hk => Below.heap_alloc _ _ _ (h.lt hs hk)
theorem Fits.setCell {β : Type} {J : β → (Nat → Prop) → World → Prop} (h : Fits J) {s : β} {O : Nat → Prop} {W : World} (hs : J s O W) {p : Addr} (hp : ¬ O p.block) (u : Value) : J s O (W.setCell p u) :=
  (h s O W hs).2 _ fun _ hk => Below.heap_setCell _ _ _ _ (fun e => hp (e ▸ hk))
theorem Fits.putObj {β : Type} {J : β → (Nat → Prop) → World → Prop} (h : Fits J) {s : β} {O : Nat → Prop} {W : World} (hs : J s O W) {l : Nat} (hp : ¬ O l) (o : Obj) : J s O (W.putObj l o) :=
  (h s O W hs).2 _ fun _ hk => World.putObj_heap_other (fun e => hp (e ▸ hk))
theorem Fits.drew {β : Type} {J : β → (Nat → Prop) → World → Prop} (h : Fits J) {s : β} {O : Nat → Prop} {W : World} (hs : J s O W) : J s O W.drew := (h s O W hs).2 _ fun _ _ => rfl
theorem Fits.keeps {β : Type} {J : β → (Nat → Prop) → World → Prop} (h : Fits J) {s : β} {O O' : Nat → Prop} {W W' : World} (hs : J s O W) (hk : Keeps O' W W') (hd : ∀ k, O k → ¬ O' k) : J s O W' :=
  (h s O W hs).2 _ fun k ho => hk.block k (h.lt hs ho) (hd k ho)
theorem fits_none {β : Type} : Fits (fun (_ : β) (_ : Nat → Prop) (_ : World) => False) := fun _ _ _ h => h.elim

/-- A call of a function value: it enters a function, or a round of a loop. -/
def CallsV (P : Program) (f : Value) (args : Array Value) (W : World) (R : Ending → World → Prop) : Prop :=
  ∃ fn caps nx, f = .func fn #[] caps ∧ (invoke (.fn fn caps) args).run P W = .ok nx W ∧
    ((∃ g ags, nx = .enter g ags ∧ Calls P g ags W R) ∨ (∃ l g t a b, nx = .round l g t a b ∧ RoundIn Fence.wide 0 P l g t a b W R))

theorem CallsV.mono {P : Program} {f : Value} {args : Array Value} {W : World} {R R' : Ending → World → Prop} (h : CallsV P f args W R) (hr : ∀ e w, R e w → R' e w) : CallsV P f args W R' := by
  obtain ⟨fn, caps, nx, hf, hi, h⟩ := h
  refine ⟨fn, caps, nx, hf, hi, ?_⟩
  rcases h with ⟨g, ags, hn, h⟩ | ⟨l, g, t, a, b, hn, h⟩
  · exact .inl ⟨g, ags, hn, h.mono hr⟩
  · exact .inr ⟨l, g, t, a, b, hn, h.mono hr⟩

theorem callsV_func {P : Program} {k : Nat} {caps args : Array Value} {W : World} {R : Ending → World → Prop} (eg : ∀ args w, (callFunc k args).run P w = .ok (.enter k args) w)
    (h : Calls P k (args ++ caps) W R) : CallsV P (.func (.func k) #[] caps) args W R :=
  ⟨_, _, _, rfl, by simp [invoke, go_sem, eg], .inl ⟨_, _, rfl, h⟩⟩

theorem callsV_func_inv {P : Program} {k : Nat} {caps args : Array Value} {W : World} {R : Ending → World → Prop} (eg : ∀ args w, (callFunc k args).run P w = .ok (.enter k args) w)
    (h : CallsV P (.func (.func k) #[] caps) args W R) : Calls P k (args ++ caps) W R := by
  obtain ⟨fn, caps', nx, hf, hi, h⟩ := h
  cases hf
  simp only [invoke, eg] at hi
  cases hi
  rcases h with ⟨g, ags, hn, h⟩ | ⟨l, g, t, a, b, hn, h⟩
  · cases hn; exact h
  · cases hn

theorem roundIn_wide {n m : Nat} {P : Program} {l : Nat} {f : FuncId} {tmps : Array Value} {assign body : Code} {w : World} {R : Ending → World → Prop} {r : Option Nat}
    (h : RoundIn Fence.wide n P l f tmps assign body w R) : RoundIn { Fence.wide with round := r } m P l f tmps assign body w R :=
  ⟨h.1, fun c cs _ => h.2 c cs (room_wide _)⟩

theorem wide_fn (f : FuncId) : Fence.wide.fn f = True := rfl
theorem roundIn_round {n m l₀ : Nat} {P : Program} {l : Nat} {f : FuncId} {tmps : Array Value} {assign body : Code} {w : World} {R : Ending → World → Prop}
    (h : RoundIn Fence.wide n P l f tmps assign body w R) : RoundIn (Fence.wide.inRound l₀) m P l f tmps assign body w R := roundIn_wide (r := some l₀) h

/-- How y ends: it goes on, or it says 'no more'. -/
def Took {α : Type} (J Jx : List α → (Nat → Prop) → World → Prop) (xs : List α) (O : Nat → Prop) (W : World) (e : Ending) (W' : World) : Prop :=
  ∃ O', Keeps O W W' ∧ Later O W O' ∧ ((e = .returned (.bool true) ∧ J xs O' W') ∨ (e = .returned (.bool false) ∧ Jx xs O' W'))

/-- What y does with what it is told: it goes on, or it says 'no more'; it turns its own blocks alone. -/
def Takes {α : Type} (P : Program) (encs : α → Array Value) (y : Value) (J Jx : List α → (Nat → Prop) → World → Prop) (xs : List α) (O₀ : Nat → Prop) (W₀ : World) : Prop :=
  ∀ pre x O W, pre ++ [x] <+: xs → Keeps O₀ W₀ W → Later O₀ W₀ O → J pre O W → CallsV P y (encs x) W (Took J Jx (pre ++ [x]) O W)

/-- How a sequence ends: all were told, or y said 'no more'. -/
def Told {α : Type} (J Jx : List α → (Nat → Prop) → World → Prop) (xs : List α) (O : Nat → Prop) (W : World) (e : Ending) (W' : World) : Prop :=
  (∃ v, e = .returned v) ∧ ∃ O', Keeps O W W' ∧ Later O W O' ∧ (J xs O' W' ∨ ∃ pre, pre <+: xs ∧ Jx pre O' W')

/-- What may be handed to a sequence: a function of the program's, or a loop's body. -/
def YFunc (P : Program) (y : Value) : Prop := (∃ g caps, y = .func (.func g) #[] caps ∧ ∀ args w, (callFunc g args).run P w = .ok (.enter g args) w) ∨ ∃ l, y = .func (.yield l) #[] #[]
theorem YFunc.func {P : Program} {y : Value} (h : YFunc P y) : ∃ yf yc, y = .func yf #[] yc := by
  rcases h with ⟨g, c, rfl, _⟩ | ⟨l, rfl⟩
  · exact ⟨_, _, rfl⟩
  · exact ⟨_, _, rfl⟩
theorem callsV_yield_inv {P : Program} {l : Nat} {args : Array Value} {W : World} {R : Ending → World → Prop} (h : CallsV P (.func (.yield l) #[] #[]) args W R) : YieldAt Fence.wide 0 P l args W R := by
  obtain ⟨fn, caps, nx, hf, hi, h⟩ := h
  cases hf
  simp only [invoke] at hi
  rcases h with ⟨g, ags, rfl, h⟩ | ⟨l', g, t, a, b, rfl, h⟩
  · exfalso
    simp only [Instr.yield, Sem.run_bind] at hi
    cases hr : (Instr.getLoop l).run P W with
    | ok r w' =>
      rw [hr] at hi
      by_cases hz : args.size = r.params.size
      · simp [Result.andThen, hz] at hi
      · simp [Result.andThen, hz, go_sem] at hi
    | halt x w' => rw [hr] at hi; simp [Result.andThen] at hi
  · have e : l' = l := by
      simp only [Instr.yield, Sem.run_bind] at hi
      cases hr : (Instr.getLoop l).run P W with
      | ok r w' =>
        rw [hr] at hi
        by_cases hz : args.size = r.params.size
        · simp [Result.andThen, hz] at hi; exact hi.1.1.symm
        · simp [Result.andThen, hz, go_sem] at hi
      | halt x w' => rw [hr] at hi; simp [Result.andThen] at hi
    subst e
    exact ⟨_, _, _, _, hi, h⟩

/-- THE SEQUENCE s TELLS xs, in every world where the blocks C lie ags in W0, to whoever takes it; it turns none of the blocks that lay. -/
structure Tells {α : Type} (P : Program) (encs : α → Array Value) (s : Value) (C : Nat → Prop) (xs : List α) (W0 : World) : Prop where
  func : ∃ fn caps, s = .func fn #[] caps
  lt : ∀ k, C k → k < W0.heap.size
  tells : ∀ W, (∀ k, C k → W.heap[k]? = W0.heap[k]?) → ∀ (y : Value) (J Jx : List α → (Nat → Prop) → World → Prop) (O : Nat → Prop), YFunc P y → Fits J → Fits Jx → Takes P encs y J Jx xs O W →
    (∀ k, C k → ¬ O k) → J [] O W →
    CallsV P s #[y] W (Told J Jx xs O W)

theorem Tells.later {α : Type} {P : Program} {encs : α → Array Value} {s : Value} {C : Nat → Prop} {xs : List α} {W0 W1 : World} (h : Tells P encs s C xs W0) (hk : ∀ k, C k → W1.heap[k]? = W0.heap[k]?) : Tells P encs s C xs W1 :=
  ⟨h.func, fun k hc => by
    have h1 := hk k hc
    rw [Array.getElem?_eq_getElem (h.lt k hc)] at h1
    exact (Array.getElem?_eq_some_iff.1 h1).1, fun W hW y J Jx O hy hJ hJx hY hC h0 => h.tells W (fun k hc => (hW k hc).trans (hk k hc)) y J Jx O hy hJ hJx hY hC h0⟩
theorem Tells.keeps {α : Type} {P : Program} {encs : α → Array Value} {s : Value} {C O : Nat → Prop} {xs : List α} {W0 W1 : World} (h : Tells P encs s C xs W0) (hk : Keeps O W0 W1) (hd : ∀ k, C k → ¬ O k) : Tells P encs s C xs W1 :=
  h.later fun k hc => hk.block k (h.lt k hc) (hd k hc)
theorem Tells.below {α : Type} {P : Program} {encs : α → Array Value} {s : Value} {C : Nat → Prop} {xs : List α} {W0 W1 : World} (h : Tells P encs s C xs W0) (hk : Below W0.heap.size W0 W1) : Tells P encs s C xs W1 :=
  h.later fun k hc => hk.block k (h.lt k hc)

/-- How the body of a round may be left. -/
def postR {α : Type} (I : List α → (Nat → Prop) → World → Prop) (Ix : Code → List α → (Nat → Prop) → World → Prop) (xs : List α) (O : Nat → Prop) (W : World) : Exit → Act → World → Prop
  | .normal, _, W' => ∃ O', Keeps O W W' ∧ Later O W O' ∧ I xs O' W'
  | .ret, _, W' => ∃ O', Keeps O W W' ∧ Later O W O' ∧ Ix .ret xs O' W'
  | .exit id, _, W' => ∃ O', Keeps O W W' ∧ Later O W O' ∧ Ix (.exit id) xs O' W'
  | .goto t, _, W' => ∃ O', Keeps O W W' ∧ Later O W O' ∧ Ix (.goto t) xs O' W'
  | .panic _, _, _ => False
  | .outgrown, _, _ => False

/-- THE LAW OF A LOOP OVER A SEQUENCE (a loop that stands in no other one's round). -/
theorem wp_range {α : Type} {P : Program} {n : Nat} {g : Operand} {ps : Array Tmp} {assign body : Code} {Q : Exit → Act → World → Prop} {a : Act} {w : World}
    {gf : Nat} {lb : Array Value} (hg : a.eval g = .func (.func gf) #[] lb) (eg : ∀ args w, (callFunc gf args).run P w = .ok (.enter gf args) w)
    {encs : α → Array Value} {C : Nat → Prop} {xs : List α} (hT : Tells P encs (.func (.func gf) #[] lb) C xs w) (hps : ∀ x, (encs x).size = ps.size)
    (I : List α → (Nat → Prop) → World → Prop) (Ix : Code → List α → (Nat → Prop) → World → Prop) (hI : Fits I) (hIx : ∀ c, Fits (Ix c)) (O : Nat → Prop) (h0 : I [] O w) (hO : ∀ k, C k → ¬ O k)
    (a₁ : α → Act)
    (hassign : ∀ (l : Nat) (x : α) (W : World) (K : Act → World → Prop), K (a₁ x) W →
      assign.wpIn (Fence.wide.inRound l) 9 P (Exit.then K (fun _ _ _ => False)) { tmps := (ps.zip (encs x)).foldl (fun t (p, v) => t.setIfInBounds p v) a.tmps, defers := [] } W)
    (hbody : ∀ (l : Nat) (pre : List α) (x : α) (O' : Nat → Prop) (W : World), pre ++ [x] <+: xs → Keeps O w W → Later O w O' → I pre O' W →
      body.wpIn (Fence.wide.inRound l) 9 P (postR I Ix (pre ++ [x]) O' W) (a₁ x) W)
    (hdone : ∀ (D : Nat) (O' : Nat → Prop) (W : World), w.heap.size ≤ D → ¬ O' D → Keeps O w W → Later O w O' → I xs O' W → W.heap[D]? = some (.deferred (some [])) →
      Q .normal { a with defers := { target := .collected D, args := #[] } :: a.defers } W)
    (hstop : ∀ (D : Nat) (c : Code) (pre : List α) (O' : Nat → Prop) (W : World), w.heap.size ≤ D → ¬ O' D → Keeps O w W → Later O w O' → pre <+: xs → Ix c pre O' W → W.heap[D]? = some (.deferred (some [])) →
      c.wpIn Fence.wide n P Q { a with defers := { target := .collected D, args := #[] } :: a.defers } W) :
    (Code.rangeFunc g ps assign body).wpIn Fence.wide n P Q a w := by
  refine wpIn_rangeFunc ?_
  intro fn hfn
  rw [show Fence.wide.round = none from rfl]
  obtain ⟨rec, hrec⟩ : ∃ rec : LoopState → Option Code → Loop, rec = fun st pe => { state := st, pending := pe, fn, tmps := a.tmps, params := ps, assign, body, defers := w.heap.size } := ⟨_, rfl⟩
  obtain ⟨W1, hW1⟩ : ∃ W1, (w.alloc (.deferred (some []))).alloc (.loop (rec .ready none)) = W1 := ⟨_, rfl⟩
  have hL1 : W1.heap[w.heap.size + 1]? = some (.loop (rec .ready none)) := by
    rw [← hW1]; have := World.alloc_heap_new (w.alloc (.deferred (some []))) (.loop (rec .ready none)); rwa [World.size_alloc] at this
  have hK1 : W1.heap[w.heap.size]? = some (.deferred (some [])) := by
    rw [← hW1]; exact (Below.heap_alloc _ _ _ (by simp)).trans (World.alloc_heap_new w _)
  have hI1 : I [] O W1 := by rw [← hW1]; exact hI.alloc (hI.alloc h0 _) _
  have hk1 : Keeps O w W1 := by rw [← hW1]; exact ((Keeps.refl O w).alloc _).alloc _
  have hs1 : W1.heap.size = w.heap.size + 2 := by rw [← hW1]; simp
  have hOl : ∀ k, w.heap.size ≤ k → ¬ O k := fun k hk => hI.new h0 hk
  refine ⟨w.heap.size + 1, [{ target := .collected w.heap.size, args := #[] }], W1, { target := .fn (.func gf) lb, args := #[.func (.yield (w.heap.size + 1)) #[] #[]] }, W1, gf,
    #[.func (.yield (w.heap.size + 1)) #[] #[]] ++ lb, W1, ?_, ?_, ?_, ?_, fun h => by simp [Fence.wide] at h, ?_⟩
  · rw [← hW1, hrec]; exact run_enterLoop_outer _ _ _ _ _
  · simp only [resolve, hg]
    simp [go_sem]
  · intro f' _; trivial
  · simp [invoke, go_sem, eg]
  · refine callsIn_wide.2 (callsV_func_inv eg ?_)
    refine ((hT.tells W1 (fun k hc => hk1.block k (hT.lt k hc) (hO k hc)) (.func (.yield (w.heap.size + 1)) #[] #[])
      (fun pre O' W => ∃ O₁, O' = (fun k => O₁ k ∨ k = w.heap.size ∨ k = w.heap.size + 1) ∧ I pre O₁ W ∧ ¬ O₁ w.heap.size ∧ ¬ O₁ (w.heap.size + 1) ∧ W.heap[w.heap.size + 1]? = some (.loop (rec .ready none)) ∧ W.heap[w.heap.size]? = some (.deferred (some [])))
      (fun pre O' W => ∃ O₁ c, O' = (fun k => O₁ k ∨ k = w.heap.size ∨ k = w.heap.size + 1) ∧ Ix c pre O₁ W ∧ ¬ O₁ w.heap.size ∧ ¬ O₁ (w.heap.size + 1) ∧ W.heap[w.heap.size + 1]? = some (.loop (rec .done (some c))) ∧ W.heap[w.heap.size]? = some (.deferred (some [])))
      (fun k => O k ∨ k = w.heap.size ∨ k = w.heap.size + 1) (.inr ⟨_, rfl⟩) ?_ ?_ ?_ ?_ ⟨O, rfl, hI1, hOl _ (Nat.le_refl _), hOl _ (by omega), hL1, hK1⟩)).mono ?_
    · rintro s O' W ⟨O₁, rfl, hi, n1, n2, hl, hd⟩
      refine ⟨fun k hk => ?_, fun W' hW' => ⟨O₁, rfl, (hI _ _ _ hi).2 _ (fun k hk => hW' k (.inl hk)), n1, n2, (hW' _ (.inr (.inr rfl))).trans hl, (hW' _ (.inr (.inl rfl))).trans hd⟩⟩
      rcases hk with hk | rfl | rfl
      · exact hI.lt hi hk
      · exact (Array.getElem?_eq_some_iff.1 hd).1
      · exact (Array.getElem?_eq_some_iff.1 hl).1
    · rintro s O' W ⟨O₁, c, rfl, hi, n1, n2, hl, hd⟩
      refine ⟨fun k hk => ?_, fun W' hW' => ⟨O₁, c, rfl, (hIx c _ _ _ hi).2 _ (fun k hk => hW' k (.inl hk)), n1, n2, (hW' _ (.inr (.inr rfl))).trans hl, (hW' _ (.inr (.inl rfl))).trans hd⟩⟩
      rcases hk with hk | rfl | rfl
      · exact (hIx c).lt hi hk
      · exact (Array.getElem?_eq_some_iff.1 hd).1
      · exact (Array.getElem?_eq_some_iff.1 hl).1
    · -- one round
      rintro pre x O' W hpre hkW hlat ⟨O₁, rfl, hi, n1, n2, hl, hk⟩
      have hlt : w.heap.size + 1 < W.heap.size := (Array.getElem?_eq_some_iff.1 hl).1
      have hkw : Keeps O w W := hk1.trans hkW (fun k hk => by rcases hk with hk | rfl | rfl; exact .inl hk; exact .inr (Nat.le_refl _); exact .inr (by omega))
      have hlw : Later O w O₁ := fun k hk => by
        rcases hlat k (.inl hk) with (h | h | h) | h
        · exact .inl h
        · exact .inr (by omega)
        · exact .inr (by omega)
        · exact .inr (by omega)
      have hy := run_yield (P := P) (args := encs x) hl (by rw [hrec]; exact hps x)
      rw [hrec] at hy
      refine ⟨.yield (w.heap.size + 1), #[], _, rfl, by simp only [invoke]; exact hy, .inr ⟨_, fn, _, assign, body, rfl, ?_⟩⟩
      refine ⟨trivial, fun c cs _ => (roundIn_of_wpIn (F := Fence.wide) (n := 9) hfn (hassign _ x W _ ⟨_, run_beginRound hl (by rw [hrec]), ?_⟩)).2 c cs (room_wide _)⟩
      have hl2 : (W.putObj (w.heap.size + 1) (.loop { rec .ready none with state := .busy })).heap[w.heap.size + 1]? = some (.loop { rec .ready none with state := .busy }) := World.putObj_heap_same hlt
      have hk2 : (W.putObj (w.heap.size + 1) (.loop { rec .ready none with state := .busy })).heap[w.heap.size]? = some (.deferred (some [])) := (World.putObj_heap_other (by omega)).trans hk
      refine wpIn_mono (hbody _ pre x O₁ _ hpre (hkw.putObj (.inr (by omega)) _) hlw (hI.putObj hi n2 _)) ?_
      obtain ⟨W2, hW2⟩ : ∃ W2, W.putObj (w.heap.size + 1) (.loop { rec .ready none with state := .busy }) = W2 := ⟨_, rfl⟩
      rw [hW2] at hl2 hk2 ⊢
      have hs2 : W2.heap.size = W.heap.size := by rw [← hW2]; simp
      have hK2 : Keeps (fun k => O₁ k ∨ k = w.heap.size ∨ k = w.heap.size + 1) W W2 := by rw [← hW2]; exact (Keeps.refl _ W).putObj (.inl (.inr (.inr rfl))) _
      have fin : ∀ (jump : Option Code) (W3 : World) (O3 : Nat → Prop), Keeps O₁ W2 W3 → Later O₁ W2 O3 →
          (Instr.endRound (w.heap.size + 1) jump).run P W3 = .ok (.bool jump.isNone) (W3.putObj (w.heap.size + 1) (.loop (rec (if jump.isNone then .ready else .done) jump))) ∧
          Keeps (fun k => O₁ k ∨ k = w.heap.size ∨ k = w.heap.size + 1) W (W3.putObj (w.heap.size + 1) (.loop (rec (if jump.isNone then .ready else .done) jump))) ∧
          Later (fun k => O₁ k ∨ k = w.heap.size ∨ k = w.heap.size + 1) W (fun k => O3 k ∨ k = w.heap.size ∨ k = w.heap.size + 1) ∧ ¬ O3 w.heap.size ∧ ¬ O3 (w.heap.size + 1) ∧
          (W3.putObj (w.heap.size + 1) (.loop (rec (if jump.isNone then .ready else .done) jump))).heap[w.heap.size + 1]? = some (.loop (rec (if jump.isNone then .ready else .done) jump)) ∧
          (W3.putObj (w.heap.size + 1) (.loop (rec (if jump.isNone then .ready else .done) jump))).heap[w.heap.size]? = some (.deferred (some [])) := fun jump W3 O3 hk3 hL3 => by
        have hl3 := (hk3.block (w.heap.size + 1) (by omega) n2).trans hl2
        have := run_endRound (P := P) jump hl3
        rw [hrec] at this ⊢
        refine ⟨this, ?_, ?_, fun h => ?_, fun h => ?_, World.putObj_heap_same (Array.getElem?_eq_some_iff.1 hl3).1, (World.putObj_heap_other (by omega)).trans ((hk3.block w.heap.size (by omega) n1).trans hk2)⟩
        · exact (hK2.trans hk3 (fun k h => .inl (.inl h))).putObj (.inl (.inr (.inr rfl))) _
        · intro k h
          rcases h with h | h
          · rcases hL3 k h with h | h
            · exact .inl (.inl h)
            · exact .inr (by omega)
          · exact .inl (.inr h)
        · rcases hL3 _ h with h | h
          · exact n1 h
          · omega
        · rcases hL3 _ h with h | h
          · exact n2 h
          · omega
      rintro e a3 W3 hp
      cases e with
      | normal =>
        obtain ⟨O3, hk3, hL3, hi3⟩ := hp
        obtain ⟨hr, q1, q2, q3, q4, q5, q6⟩ := fin none W3 O3 hk3 hL3
        exact ⟨_, _, hr, _, q1, q2, .inl ⟨rfl, O3, rfl, hI.putObj hi3 q4 _, q3, q4, q5, q6⟩⟩
      | ret =>
        obtain ⟨O3, hk3, hL3, hi3⟩ := hp
        obtain ⟨hr, q1, q2, q3, q4, q5, q6⟩ := fin (some .ret) W3 O3 hk3 hL3
        exact ⟨_, _, hr, _, q1, q2, .inr ⟨rfl, O3, .ret, rfl, (hIx _).putObj hi3 q4 _, q3, q4, q5, q6⟩⟩
      | exit id =>
        obtain ⟨O3, hk3, hL3, hi3⟩ := hp
        obtain ⟨hr, q1, q2, q3, q4, q5, q6⟩ := fin (some (.exit id)) W3 O3 hk3 hL3
        exact ⟨_, _, hr, _, q1, q2, .inr ⟨rfl, O3, .exit id, rfl, (hIx _).putObj hi3 q4 _, q3, q4, q5, q6⟩⟩
      | goto t =>
        obtain ⟨O3, hk3, hL3, hi3⟩ := hp
        obtain ⟨hr, q1, q2, q3, q4, q5, q6⟩ := fin (some (.goto t)) W3 O3 hk3 hL3
        exact ⟨_, _, hr, _, q1, q2, .inr ⟨rfl, O3, .goto t, rfl, (hIx _).putObj hi3 q4 _, q3, q4, q5, q6⟩⟩
      | panic ch => exact hp.elim
      | outgrown => exact hp.elim
    · intro k hc h
      have := hT.lt k hc
      rcases h with h | h | h
      · exact hO k hc h
      · omega
      · omega
    · -- behind the sequence
      have hup : ∀ {W : World} {O₁ : Nat → Prop}, Keeps (fun k => O k ∨ k = w.heap.size ∨ k = w.heap.size + 1) W1 W → Later (fun k => O k ∨ k = w.heap.size ∨ k = w.heap.size + 1) W1 (fun k => O₁ k ∨ k = w.heap.size ∨ k = w.heap.size + 1) → Keeps O w W ∧ Later O w O₁ := fun hk hl =>
        ⟨hk1.trans hk (fun k hk => by rcases hk with hk | rfl | rfl; exact .inl hk; exact .inr (Nat.le_refl _); exact .inr (by omega)), fun k hk => by
          rcases hl k (.inl hk) with (h | h | h) | h
          · exact .inl h
          · exact .inr (by omega)
          · exact .inr (by omega)
          · exact .inr (by omega)⟩
      rintro e W2 ⟨⟨v, rfl⟩, O', hk, hL, (⟨O₁, rfl, hi, n1, n2, hl, hd⟩ | ⟨pre, hpre, O₁, c, rfl, hi, n1, n2, hl, hd⟩)⟩
      · obtain ⟨hk', hL'⟩ := hup hk hL
        exact ⟨none, _, by have := run_endLoop (P := P) hl (by rw [hrec]; simp); rw [hrec] at this; exact this, hdone _ O₁ _ (Nat.le_refl _) n1 (hk'.putObj (.inr (by omega)) _) hL' (hI.putObj hi n2 _) ((World.putObj_heap_other (by omega)).trans hd)⟩
      · obtain ⟨hk', hL'⟩ := hup hk hL
        exact ⟨some c, _, by have := run_endLoop (P := P) hl (by rw [hrec]; simp); rw [hrec] at this; exact this, hstop _ c pre O₁ _ (Nat.le_refl _) n1 (hk'.putObj (.inr (by omega)) _) hL' hpre ((hIx c).putObj hi n2 _) ((World.putObj_heap_other (by omega)).trans hd)⟩

theorem wpListIn_callV_at {r : Option Nat} {n : Nat} {P : Program} {ops : Array Oper} {rest : List Oper} {o : Oper} {a : Act} {w : World} {Q : Exit → Act → World → Prop} {c : Call} {f : Operand} {y : Value} {args : Array Value} {R : Ending → World → Prop}
    (hop : o.op = .call c) (hc : c.callee = .value f) (hg : Region.wanted o (yielded ops a.tmps) = true) (hy : a.eval f = y) (ha : c.args.map a.eval = args) (h : CallsV P y args w R)
    (hR : ∀ e w', R e w' → ∃ v, e = .returned v ∧ wpListIn { Fence.wide with round := r } n P ops Q rest (a.put o.dst v) w') : wpListIn { Fence.wide with round := r } n P ops Q (o :: rest) a w := by
  obtain ⟨fn, caps, nx, hf, hi, h⟩ := h
  refine wpListIn_step fun K hK => ?_
  rw [if_pos hg]
  refine ⟨fun _ _ => trivial, ?_⟩
  rw [Oper.semAt_eq _ _ _ (by simp [hop])]
  have e : (execOp a.eval o).run P w = .ok nx w := by
    unfold execOp
    rw [hop]
    simp only [resolve, hc, hy, hf, Deferred.ofValue, ha]
    simpa [go_sem] using hi
  rw [e]
  rcases h with ⟨g, ags, rfl, h⟩ | ⟨l, g, t, a', b, rfl, h⟩
  · refine ⟨fun h => by simp [Fence.wide] at h, (callsIn_wide (n := n - 1)).2 (h.mono ?_)⟩
    intro e w' hr
    obtain ⟨v, rfl, h⟩ := hR e w' hr
    exact hK _ _ h
  · refine ⟨fun h => by simp [Fence.wide] at h, roundIn_wide (h.mono ?_)⟩
    intro e w' hr
    obtain ⟨v, rfl, h⟩ := hR e w' hr
    exact hK _ _ h

theorem wpListIn_callV {n : Nat} {P : Program} {ops : Array Oper} {rest : List Oper} {o : Oper} {a : Act} {w : World} {Q : Exit → Act → World → Prop} {c : Call} {f : Operand} {y : Value} {args : Array Value} {R : Ending → World → Prop}
    (hop : o.op = .call c) (hc : c.callee = .value f) (hg : Region.wanted o (yielded ops a.tmps) = true) (hy : a.eval f = y) (ha : c.args.map a.eval = args) (h : CallsV P y args w R)
    (hR : ∀ e w', R e w' → ∃ v, e = .returned v ∧ wpListIn Fence.wide n P ops Q rest (a.put o.dst v) w') : wpListIn Fence.wide n P ops Q (o :: rest) a w := wpListIn_callV_at (r := none) hop hc hg hy ha h hR
theorem wpListIn_callV_round {l n : Nat} {P : Program} {ops : Array Oper} {rest : List Oper} {o : Oper} {a : Act} {w : World} {Q : Exit → Act → World → Prop} {c : Call} {f : Operand} {y : Value} {args : Array Value} {R : Ending → World → Prop}
    (hop : o.op = .call c) (hc : c.callee = .value f) (hg : Region.wanted o (yielded ops a.tmps) = true) (hy : a.eval f = y) (ha : c.args.map a.eval = args) (h : CallsV P y args w R)
    (hR : ∀ e w', R e w' → ∃ v, e = .returned v ∧ wpListIn (Fence.wide.inRound l) n P ops Q rest (a.put o.dst v) w') : wpListIn (Fence.wide.inRound l) n P ops Q (o :: rest) a w := wpListIn_callV_at (r := some l) hop hc hg hy ha h hR
/-- 'append': the row that it hands back is the one that came in, or a new one. -/
theorem run_append_later {P : Program} (w : World) (base : Nat) (t ty e : TypeId) (i : TypeInfo) (z : Value) (size bytes : Nat) (ht : P.underlying t = some (.slice e)) (hi : P.info? e = some i) (hz : i.zero = some z)
    (hsize : i.size = size) (hby : i.bytes = bytes) (hzs : z.cells.size = size) (hsz : 0 < size)
    (v : Value) (n : Nat) (xs : List Value) (hown : w.ownsRow base e size v n xs)
    (a : Addr) (m c : Nat) (news : List Value) (hl : news.length = m * size) (hnews : ∀ j u, news[j]? = some u → w.cell? (a.add j) = some u) (h1 : ∀ u ∈ news, u.oneCell' = true)
    (h63 : n + m ≤ maxLen) (hbytes : (n + m) * bytes ≤ 140737488355328) (hbase : base ≤ w.heap.size) :
    ∃ v' w', (Builtin.append_ #[t, t] ty #[v, .slice (some a) m c]).run P w = .ok v' w' ∧ w'.ownsRow base e size v' (n + m) (xs ++ news) ∧ w.grownBy w' v.ownBlock ∧
      (v' = .slice none 0 0 ↔ v = .slice none 0 0 ∧ m = 0) ∧ (v'.ownBlock = v.ownBlock ∨ ∀ k, v'.ownBlock = some k → w.heap.size ≤ k) := by
  obtain ⟨v', w', hrun, r1, r2, r3⟩ := run_append_own (P := P) w base t ty e i z size bytes ht hi hz hsize hby hzs hsz v n xs hown a m c news hl hnews h1 h63 hbytes hbase
  refine ⟨v', w', hrun, r1, r2, r3, ?_⟩
  have hsmall : n + m ≤ 9223372036854775807 := by simp only [maxLen] at h63; omega
  rcases hown.2 with ⟨rfl, rfl⟩ | ⟨g, cap, cur, rfl, hbg, hg, hnc, hcm, hcs, htake⟩
  · obtain rfl : xs = [] := List.eq_nil_of_length_eq_zero (by simpa using hown.1)
    obtain ⟨v2, w2, hrun2, q1, _⟩ := run_append_own (P := P) w w.heap.size t ty e i z size bytes ht hi hz hsize hby hzs hsz _ 0 [] (World.ownsRow_nil w _ e size) a m c news hl hnews h1 h63 hbytes (Nat.le_refl _)
    have := hrun.symm.trans hrun2
    cases this
    exact .inr fun k hk => (q1.lt k hk).1
  · subst hsize
    subst hby
    by_cases hroom : n + m ≤ cap
    · have hfit : n * i.size + news.length ≤ cur.size := by rw [hl, hcs, ← Nat.add_mul]; exact Nat.mul_le_mul_right _ hroom
      have hr := run_append_room (P := P) w t ty e i ht hi g n cap cur hg a m c news hl hnews h1 hroom hfit
      have := hrun.symm.trans hr
      cases this
      exact .inl rfl
    · have holds : ∀ j u, xs[j]? = some u → w.cell? ((⟨g, 0, none⟩ : Addr).add j) = some u := hown.cells (g := g) rfl
      have hr := run_append_grow (P := P) w t ty e i z ht hi hz ⟨g, 0, none⟩ n cap xs hown.1 holds a m c news hl hnews (by omega) (by omega) (growslice_fits (by omega) hbytes)
      have := hrun.symm.trans hr
      cases this
      exact .inr fun k hk => by cases hk; exact Nat.le_refl _

theorem wpListIn_append_later {F : Fence} {n : Nat} {P : Program} (w : World) {ops : Array Oper} {rest : List Oper} {o : Oper} {a : Act} {Q : Exit → Act → World → Prop}
    (hg : o.guard = none) (s x : Operand) (t : TypeId) (hop : o.op = Op.call { callee := Callee.builtin Builtin.append, args := #[s, x], argTypes := #[t, t] })
    (base : Nat) (e : TypeId) (i : TypeInfo) (z : Value) (size bytes : Nat) (h1 : P.underlying t = some (.slice e)) (h2 : P.info? e = some i) (h3 : i.zero = some z) (h4 : i.size = size) (h5 : i.bytes = bytes) (h6 : z.cells.size = size) (h7 : 0 < size)
    (v : Value) (k : Nat) (xs : List Value) (hs : a.eval s = v) (hown : w.ownsRow base e size v k xs) (ad : Addr) (m c : Nat) (news : List Value) (hx : a.eval x = .slice (some ad) m c) (hn : news.length = m * size)
    (hc : ∀ j u, news[j]? = some u → w.cell? (ad.add j) = some u) (h1c : ∀ u ∈ news, u.oneCell' = true) (b1 : k + m ≤ maxLen) (b2 : (k + m) * bytes ≤ 140737488355328) (b3 : base ≤ w.heap.size)
    (hK : ∀ v' w', w'.ownsRow base e size v' (k + m) (xs ++ news) → w.grownBy w' v.ownBlock → (v' = .slice none 0 0 ↔ v = .slice none 0 0 ∧ m = 0) → (v'.ownBlock = v.ownBlock ∨ ∀ k, v'.ownBlock = some k → w.heap.size ≤ k) → wpListIn F n P ops Q rest (a.put o.dst v') w') :
    wpListIn F n P ops Q (o :: rest) a w := by
  refine wpListIn_plain hg fun K hK' => ?_
  obtain ⟨v', w', hrun, r1, r2, r3, r4⟩ := run_append_later (P := P) w base t o.type e i z size bytes h1 h2 h3 h4 h5 h6 h7 v k xs hown ad m c news hn hc h1c b1 b2 b3
  unfold Oper.wpIn
  refine ⟨?_, ?_⟩
  · simp [Oper.about, hop, resolve, Target.leads, Sem.run_pure]
  · rw [Oper.semAt_plain F _ _ (by rw [hop]; intro c hc'; cases hc')]
    simp [execOp, hop, resolve, invoke, builtin, hs, hx, hrun, Result.andThen]
    exact hK' _ _ (hK v' w' r1 r2 r3 r4)

/-- Who owns a slice's row, and that alone, knows what lies in it. -/
theorem ownsRow_agree {W W' : World} {base : Nat} {e : TypeId} {size : Nat} {v : Value} {n : Nat} {xs : List Value} (h : W.ownsRow base e size v n xs) (hk : ∀ k, v.ownBlock = some k → W'.heap[k]? = W.heap[k]?) : W'.ownsRow base e size v n xs := by
  refine ⟨h.1, ?_⟩
  rcases h.2 with hn | ⟨g, cap, cur, rfl, hb, hgg, rest⟩
  · exact .inl hn
  · exact .inr ⟨g, cap, cur, rfl, hb, (hk g rfl).trans hgg, rest⟩

#print axioms wp_range
end Go.Proofs.YtemikojaldoofaaGreat
