/- A reader of bytes: take, count, thread. -/
import Derived.Test.YtdmdmkgpnelkjaaTheory
import Derived.Lib.EndianBits
namespace Go.Proofs.Ytdmdmkgpnelkjaa
open Go.ChangeShapes Go.WideShapes Go.ChangeAt Go.RowKit
set_option linter.unusedVariables false

/-- A piece of a slice of bytes. -/
def Sl.cut (s : Sl) (l h m : Nat) : Sl := ⟨if m = l then s.a else s.a.map (·.add l), h - l, m - l⟩
theorem size22 (w : World) : (sizeOf (Try.prog.elem 22)).run Try.prog w = .ok 1 w := by
  have h : (Try.prog.info? (Try.prog.elem 22)).map (·.size) = some 1 := by kernel_rfl
  obtain ⟨i, hi, e⟩ := Option.map_eq_some_iff.1 h
  simp [sizeOf, typeInfo, hi, e]
theorem elem22 : Try.prog.underlying 22 = some (.slice (Try.prog.elem 22)) := by kernel_rfl
theorem slice_from (s : Sl) (l : Nat) (w : World) (h : l ≤ s.n) : (Instr.slice 22 s.v (some (.int .i64 l)) none none).run Try.prog w = .ok (s.cut l s.n s.cap).v w := by
  rw [Sl.v, run_slice_l w 22 s.a s.n s.cap elem22 .i64 l (by omega) (by omega), size22]
  simp [Result.andThen, sliced, Sl.cut]
theorem slice_upto3 (s : Sl) (l : Nat) (w : World) (h : l ≤ s.cap) : (Instr.slice 22 s.v none (some (.int .i64 l)) (some (.int .i64 l))).run Try.prog w = .ok (s.cut 0 l l).v w := by
  rw [Sl.v, run_slice_hm w 22 s.a s.n s.cap elem22 .i64 .i64 l l (by omega) (by omega) (by omega), size22]
  simp [Result.andThen, sliced, Sl.cut]
theorem slice_both (s : Sl) (l h : Nat) (w : World) (h1 : l ≤ h) (h2 : h ≤ s.cap) : (Instr.slice 22 s.v (some (.int .i64 l)) (some (.int .i64 h)) none).run Try.prog w = .ok (s.cut l h s.cap).v w := by
  rw [Sl.v, run_slice_lh w 22 s.a s.n s.cap elem22 .i64 .i64 l h (by omega) (by omega) (by omega), size22]
  simp [Result.andThen, sliced, Sl.cut]
theorem Rd.cut {W : World} {s : Sl} {bs : List Int} (h : Rd W s.a s.n s.cap bs) (l k m : Nat) (h1 : l ≤ k) (h2 : k ≤ s.n) (h3 : k ≤ m) (h4 : m ≤ s.cap) : Rd W (s.cut l k m).a (s.cut l k m).n (s.cut l k m).cap ((bs.take k).drop l) := by
  have hlen := h.len
  have hr := h.room
  refine Reads.rd (s := s.cut l k m) ⟨by simp [Sl.cut, encB]; omega, ⟨by simp only [Sl.cut]; omega, by simp only [Sl.cut]; omega⟩, ?_, ?_⟩ ?_
  · intro e
    have : s.a = none := by
      simp only [Sl.cut] at e
      split at e
      · exact e
      · simpa using e
    have := h.reads.nil this
    simp only [Sl.cut]
    dsimp only at this
    omega
  · by_cases hk : k - l = 0
    · exact .inl hk
    · obtain ⟨b, off, e, hc⟩ := h.reads.at_ (by dsimp only; omega)
      dsimp only at e
      refine .inr ⟨b, off + l, ?_, fun j u hj => ?_⟩
      · simp only [Sl.cut, e]
        rw [if_neg (by omega), Option.map_some, Go.WideShapes.add_plain]
      · rw [Nat.add_assoc]
        refine hc _ _ ?_
        simp only [encB, List.map_drop, List.map_take, List.getElem?_drop] at hj ⊢
        rw [List.getElem?_take] at hj
        split at hj
        · exact hj
        · cases hj
  · intro j
    have := h.bytes (l + j)
    rw [byteAt_drop]
    by_cases hj : l + j < k
    · rw [byteAt_take _ _ _ hj]
      exact this
    · simp [byteAt, List.getD_eq_getElem?_getD, List.getElem?_take, hj]

/-! ### The reader's cells -/
abbrev rcs (r : Sl) (c : Cf) (x y z : Sl) : Array Value := #[.slice r.a r.n r.cap, .int .i64 c.al, .int .i64 c.th, .int .i64 c.nd, .int .i64 c.lv, .int .i64 c.ba, .int .i64 c.pr, .int .i64 c.sc, .slice x.a x.n x.cap, .slice y.a y.n y.cap, .slice z.a z.n z.cap]
/-- The reader in its box B: it stands ahead of the bytes bs. -/
structure Rr (w : World) (B : Nat) (r : Sl) (bs : List Int) (c : Cf) (x y z : Sl) (W : World) : Prop where
  box : Blk W B 44 (rcs r c x y z)
  low : w.heap.size ≤ B
  rest : Rd w r.a r.n r.cap bs
  bel : Below w.heap.size w W
theorem Rr.lt {w W : World} {B : Nat} {r : Sl} {bs : List Int} {c : Cf} {x y z : Sl} (h : Rr w B r bs c x y z W) : B < W.heap.size := h.box.lt
theorem Rr.below {w W V : World} {B : Nat} {r : Sl} {bs : List Int} {c : Cf} {x y z : Sl} (h : Rr w B r bs c x y z W) (b : Below W.heap.size W V) : Rr w B r bs c x y z V :=
  ⟨h.box.below b h.box.lt, h.low, h.rest, below_then h.bel b (Nat.le_refl _)⟩
/-- What holds of memory as long as no block above B turns. -/
def Safe (B : Nat) (W : World) (J : World → Prop) : Prop := ∀ V, (∀ k, k < W.heap.size → B < k → V.heap[k]? = W.heap[k]?) → J V
theorem Safe.grown {B : Nat} {W V : World} {J : World → Prop} (h : Safe B W J) (g : W.grownBy V (some B)) : Safe B V J := fun U hU =>
  h U fun k hk hB => (hU k (Nat.lt_of_lt_of_le hk g.size) hB).trans (g.block k hk (by intro e; have := Option.some.inj e; omega))
theorem Safe.below {B : Nat} {W V : World} {J : World → Prop} (h : Safe B W J) (b : Below W.heap.size W V) : Safe B V J := fun U hU =>
  h U fun k hk hB => (hU k (Nat.lt_of_lt_of_le hk b.size) hB).trans (b.block k hk)
theorem Safe.now {B : Nat} {W : World} {J : World → Prop} (h : Safe B W J) : J W := h W fun _ _ _ => rfl
theorem grown_set {W : World} {B i : Nat} {u : Value} : W.grownBy (W.setCell ⟨B, i, none⟩ u) (some B) := ⟨rfl, rfl, rfl, by simp [World.setCell], fun k _ hk => Below.heap_setCell _ _ _ _ (fun e => hk (by rw [e]))⟩
theorem grown_trans {A B C : World} {r : Option Nat} (h : A.grownBy B r) (k : B.grownBy C r) : A.grownBy C r :=
  ⟨k.os.trans h.os, k.tape.trans h.tape, k.output.trans h.output, Nat.le_trans h.size k.size, fun i hi hr => (k.block i (Nat.lt_of_lt_of_le hi h.size) hr).trans (h.block i hi hr)⟩
theorem grown_below {A B : World} {r : Option Nat} (h : Below A.heap.size A B) : A.grownBy B r := ⟨h.os, h.tape, h.output, h.size, fun k hk _ => h.block k hk⟩
theorem grown_refl {A : World} {r : Option Nat} : A.grownBy A r := ⟨rfl, rfl, rfl, Nat.le_refl _, fun _ _ _ => rfl⟩
/-- The eleven cells of a reader. -/
theorem Blk.rdr {W : World} {g : Nat} {t : TypeId} {r : Sl} {c : Cf} {x y z : Sl} (h : Blk W g t (rcs r c x y z)) : W.cell? ⟨g, 0, none⟩ = some (.slice r.a r.n r.cap) ∧ W.cell? ⟨g, 1, none⟩ = some (.int .i64 c.al) ∧ W.cell? ⟨g, 2, none⟩ = some (.int .i64 c.th) ∧ W.cell? ⟨g, 3, none⟩ = some (.int .i64 c.nd) ∧ W.cell? ⟨g, 4, none⟩ = some (.int .i64 c.lv) ∧
    W.cell? ⟨g, 5, none⟩ = some (.int .i64 c.ba) ∧ W.cell? ⟨g, 6, none⟩ = some (.int .i64 c.pr) ∧ W.cell? ⟨g, 7, none⟩ = some (.int .i64 c.sc) ∧ W.cell? ⟨g, 8, none⟩ = some (.slice x.a x.n x.cap) ∧ W.cell? ⟨g, 9, none⟩ = some (.slice y.a y.n y.cap) ∧ W.cell? ⟨g, 10, none⟩ = some (.slice z.a z.n z.cap) :=
  ⟨by rw [h.cell]; rfl, by rw [h.cell]; rfl, by rw [h.cell]; rfl, by rw [h.cell]; rfl, by rw [h.cell]; rfl, by rw [h.cell]; rfl, by rw [h.cell]; rfl, by rw [h.cell]; rfl, by rw [h.cell]; rfl, by rw [h.cell]; rfl, by rw [h.cell]; rfl⟩

/-! ### take -/
set_option maxRecDepth 100000 in
theorem take_short {w W : World} {B : Nat} {r : Sl} {bs : List Int} {c : Cf} {x y z : Sl} (h : Rr w B r bs c x y z W) (n : Nat) (hn : bs.length < n) (hm : n ≤ 1000000) :
    Calls Try.prog 34 #[.pointer (some ⟨B, 0, none⟩), .int .i64 n] W fun e W' => e = .returned (.tuple #[.slice none 0 0, .bool false]) ∧ W' = W := by
  obtain ⟨x0, x1, x2, x3, x4, x5, x6, x7, x8, x9, x10⟩ := h.box.rdr
  have hl := h.rest.len
  have g : (r.n : Int) < n := by omega
  clear h hl hn
  go_enter Try.func34, Try.ntmps34
  go_wp2
  refine bodyPost_ret (v := .tuple #[.slice none 0 0, .bool false]) (by simp [results, Try.results34, go_sem]) rfl ⟨rfl, rfl⟩
/-- What take leaves: the first n bytes, and the reader behind them. -/
structure Took (w : World) (B : Nat) (n : Nat) (bs : List Int) (c : Cf) (x y z : Sl) (W : World) (e : Ending) (W' : World) : Prop where
  ex : ∃ p q : Sl, e = .returned (.tuple #[.slice p.a p.n p.cap, .bool true]) ∧ Rd w p.a p.n p.cap (bs.take n) ∧ Rr w B q (bs.drop n) c x y z W' ∧ W.grownBy W' (some B)
set_option maxRecDepth 100000 in
theorem take_long {w W : World} {B : Nat} {r : Sl} {bs : List Int} {c : Cf} {x y z : Sl} (h : Rr w B r bs c x y z W) (n : Nat) (hn : n ≤ bs.length) :
    Calls Try.prog 34 #[.pointer (some ⟨B, 0, none⟩), .int .i64 n] W (Took w B n bs c x y z W) := by
  obtain ⟨x0, x1, x2, x3, x4, x5, x6, x7, x8, x9, x10⟩ := h.box.rdr
  have xf := h.box.frozen 0
  have hl := h.rest.len
  have hr := h.rest.room
  have g : ¬ (r.n : Int) < n := by omega
  have q1 := fun W => slice_from r n W (by omega)
  have q2 := fun W => slice_upto3 r n W (by omega)
  have R1 : Rd w (r.cut 0 n n).a (r.cut 0 n n).n (r.cut 0 n n).cap (bs.take n) := by
    have := h.rest.cut 0 n n (by omega) (by omega) (by omega) (by omega)
    simpa using this
  have R2 : Rd w (r.cut n r.n r.cap).a (r.cut n r.n r.cap).n (r.cut n r.n r.cap).cap (bs.drop n) := by
    have := h.rest.cut n r.n r.cap (by omega) (by omega) (by omega) (by omega)
    have ht : bs.take r.n = bs := by rw [← hl, List.take_length]
    rw [ht] at this
    exact this
  have hB : Rr w B (r.cut n r.n r.cap) (bs.drop n) c x y z (W.setCell ⟨B, 0, none⟩ (r.cut n r.n r.cap).v) :=
    ⟨by have := h.box.set 0 (r.cut n r.n r.cap).v; simpa using this, h.low, R2, h.bel.setCell (p := ⟨B, 0, none⟩) h.low _⟩
  generalize r.cut 0 n n = p at *
  generalize r.cut n r.n r.cap = q at *
  have HP := Lib.hid R1
  have HB := Lib.hid hB
  clear R1 R2 hB h hl hr hn
  obtain ⟨pa, pn, pc⟩ := p
  obtain ⟨qa, qn, qc⟩ := q
  simp only [Sl.v] at q1 q2
  dsimp only [Sl.v] at HB
  go_enter Try.func34, Try.ntmps34
  go_wp2
  refine bodyPost_ret (v := .tuple #[.slice pa pn pc, .bool true]) (by simp [results, Try.results34, go_sem]) rfl ⟨⟨⟨pa, pn, pc⟩, ⟨qa, qn, qc⟩, rfl, HP.out, HB.out, grown_set⟩⟩

/-! ### thread -/
theorem thread_any {w W : World} {B : Nat} {r : Sl} {bs : List Int} {c : Cf} {x y z : Sl} (h : Rr w B r bs c x y z W) (b : Int) (h0 : 0 ≤ b) (h1 : b < 256) (h2 : 1 ≤ c.th) (h3 : c.th ≤ 6) :
    Calls Try.prog 37 #[.pointer (some ⟨B, 0, none⟩), .int .u8 b] W fun e W' => e = .returned (.int .i64 (b % c.th)) ∧ W' = W := by
  obtain ⟨x0, x1, x2, x3, x4, x5, x6, x7, x8, x9, x10⟩ := h.box.rdr
  have w0 : IntKind.i64.wrap b = b := IntWalk.i64_in _ (by omega)
  have hz : (c.th == 0) = false := by simp; omega
  have hz2 : ¬ c.th = 0 := by omega
  have hm : b.tmod c.th = b % c.th := Int.tmod_eq_emod_of_nonneg h0
  have hmod := Int.emod_nonneg b hz2
  have hlt := Int.emod_lt_of_pos b (show 0 < c.th by omega)
  have w1 : IntKind.i64.wrap (b % c.th) = b % c.th := IntWalk.i64_in _ (by omega)
  clear h
  go_enter Try.func37, Try.ntmps37
  go_wp2
  go_ret
  exact ⟨rfl, rfl⟩
end Go.Proofs.Ytdmdmkgpnelkjaa
