/- By the document: the least key, how often a pair is in a list, a list without it. -/
import Derived.Test.YtjmejdalmglehaaSmall
namespace Go.Proofs.Ytjmejdalmglehaa
open Go.ChangeShapes Go.WideShapes Go.ChangeAt Go.RowKit
set_option linter.unusedVariables false

theorem info36 : (Try.prog.info? 36).map (fun i => (i.zero, i.size, i.bytes)) = some (some zp.val, 2, 8) := by kernel_rfl
theorem eq_pr36 (p q : Pr) (w : World) : (Op.equalIn 10000 36 p.val q.val).run Try.prog w = .ok (decide (p = q)) w := by
  obtain ⟨a1, a2⟩ := p
  obtain ⟨b1, b2⟩ := q
  simp only [Pr.mk.injEq]
  simp [go_sem]
  by_cases h1 : a1 = b1 <;> by_cases h2 : a2 = b2 <;> simp [h1, h2]

/-! ### the least key -/
def rl (E : Nat → Pr) : Nat → Int
  | 0 => (E 0).k
  | i + 1 => if (E i).k < rl E i then (E i).k else rl E i
def refLeastL (l : List Pr) : Int := if l.isEmpty then 0 else rl (ithP l) l.length
theorem rl_le (E : Nat → Pr) : ∀ n i, i < n → rl E n ≤ (E i).k
  | n + 1, i, h => by
    rw [rl]
    rcases Nat.lt_or_ge i n with h1 | h1
    · have := rl_le E n i h1
      split <;> omega
    · obtain rfl : i = n := by omega
      split <;> omega
theorem rl_mem (E : Nat → Pr) : ∀ n, 0 < n → ∃ i, i < n ∧ (E i).k = rl E n
  | 1, _ => ⟨0, by omega, by simp [rl]⟩
  | n + 2, _ => by
    rw [rl]
    split
    · exact ⟨n + 1, by omega, rfl⟩
    · obtain ⟨i, hi, he⟩ := rl_mem E (n + 1) (by omega)
      exact ⟨i, by omega, he⟩
theorem refLeast_perm {m l : List Pr} (hp : m.Perm l) (ho : Ord m) : refLeastL l = leastL m ∧ l.isEmpty = m.isEmpty := by
  have he : l.isEmpty = m.isEmpty := by
    have := hp.length_eq
    cases m <;> cases l <;> simp_all
  refine ⟨?_, he⟩
  unfold refLeastL
  rw [he]
  cases m with
  | nil => rfl
  | cons x t =>
    have hl : 0 < l.length := by rw [← hp.length_eq]; simp
    simp only [List.isEmpty_cons, Bool.false_eq_true, if_false]
    obtain ⟨i, hi, hk⟩ := rl_mem (ithP l) l.length hl
    have h1 := leastL_le ho (hp.mem_iff.2 (ithP_mem hi))
    have hx : x ∈ l := hp.mem_iff.1 (by simp)
    obtain ⟨j, hj⟩ := List.getElem?_of_mem hx
    have hjl := (List.getElem?_eq_some_iff.1 hj).1
    have h2 := rl_le (ithP l) l.length j hjl
    rw [ithP_eq hj] at h2
    have : leastL (x :: t) = x.k := rfl
    omega

set_option maxRecDepth 100000 in
set_option maxHeartbeats 4000000 in
theorem refLeast_any (s : Sl) (l : List Pr) (w : World) (h : Reads w s 2 (encP l)) : Calls Try.prog 13 #[.slice s.a s.n s.cap] w fun e w' => e = .returned (.tuple #[.int .u32 (refLeastL l), .bool (!l.isEmpty)]) ∧ w' = w := by
  have hn := h.lenP
  have hroom := h.room
  unfold maxLen at hroom
  have HR := Lib.hid h
  by_cases h0 : l = []
  · subst h0
    clear h HR
    obtain ⟨sa, sn, sc⟩ := s
    dsimp only at *
    subst hn
    go_enter Try.func13, Try.ntmps13
    go_wp2
    refine bodyPost_ret (v := .tuple #[.int .u32 0, .bool false]) (by simp [results, Try.results13, go_sem]) rfl ⟨rfl, rfl⟩
  · have hl : 0 < l.length := List.length_pos_iff.2 h0
    have he : l.isEmpty = false := by simpa using h0
    have hrl : refLeastL l = rl (ithP l) l.length := by unfold refLeastL; rw [he]; rfl
    rw [hrl, he]
    obtain ⟨b, off, ea, x0, x1⟩ := h.pr hl
    obtain ⟨sa, sn, sc⟩ := s
    dsimp only at *
    subst hn ea
    have hr0 : (ithP l 0).k = rl (ithP l) 0 := rfl
    rw [hr0] at x0
    clear h he hrl hr0 h0
    simp only [Nat.zero_mul, Nat.add_zero] at x0
    have hz : ¬ ((l.length : Int) = 0) := by omega
    have hz2 : (0 : Int) < l.length := by omega
    go_enter Try.func13, Try.ntmps13
    go_wp2_with fail
    go_loop [4, 5] (fun c i => ∃ k : Nat, k ≤ l.length ∧ i = .int .i64 k ∧ c = .int .u32 (rl (ithP l) k)) (fun _ i => l.length - (intOf i).toNat)
    case atStart => exact ⟨0, by omega, rfl, rfl⟩
    case round =>
      obtain ⟨k, hk, rfl, rfl⟩ := hrel
      by_cases hkn : k < l.length
      · obtain ⟨b1, o1, eb, y0, y1⟩ := HR.out.pr hkn
        simp only [Option.some.injEq, Addr.mk.injEq] at eb
        obtain ⟨rfl, rfl, _⟩ := eb
        have gk : (k : Int) < l.length := by omega
        have w2 := IntWalk.i64_in ((k : Int) + 1) (by omega)
        by_cases hlt : (ithP l k).k < rl (ithP l) k
        · have e := Lib.hid (show rl (ithP l) (k + 1) = (ithP l k).k by rw [rl, if_pos hlt])
          generalize (ithP l k).k = z at *
          go_wp2
          go_round
          case rel => exact ⟨k + 1, by omega, by go_num, by rw [e.out]⟩
          case measure => simp [intOf]; omega
        · have e := Lib.hid (show rl (ithP l) (k + 1) = rl (ithP l) k by rw [rl, if_neg hlt])
          generalize (ithP l k).k = z at *
          go_wp2
          go_round
          case rel => exact ⟨k + 1, by omega, by go_num, by rw [e.out]⟩
          case measure => simp [intOf]; omega
      · obtain rfl : k = l.length := by omega
        go_wp2
        refine bodyPost_ret (v := .tuple #[.int .u32 (rl (ithP l) l.length), .bool true]) (by simp [results, Try.results13, go_sem]) rfl ⟨rfl, rfl⟩

/-! ### how often a pair is in a list -/
theorem count_succ {l : List Pr} {k : Nat} (hk : k < l.length) (p : Pr) : (l.take (k + 1)).count p = (l.take k).count p + if ithP l k = p then 1 else 0 := by
  rw [List.take_add_one, ithP_lt hk]
  simp [List.count_append, List.count_cons]
set_option maxRecDepth 100000 in
set_option maxHeartbeats 4000000 in
theorem count_any (s : Sl) (l : List Pr) (p : Pr) (w : World) (h : Reads w s 2 (encP l)) : Calls Try.prog 8 #[.slice s.a s.n s.cap, p.val] w fun e w' => e = .returned (.int .i64 (l.count p)) ∧ Below w.heap.size w w' := by
  have hn := h.lenP
  have hroom := h.room
  unfold maxLen at hroom
  have HB := Lib.hid (box1 (w := w) (.cells #[.int .u32 p.k, .int .u32 p.v] 36))
  have HR := Lib.hid (h.below HB.out)
  have HX := Lib.hid (Blk.new w 36 p.cs)
  clear h
  obtain ⟨sa, sn, sc⟩ := s
  dsimp only at *
  subst hn
  have hfin : (l.count p : Int) = ((l.take l.length).count p : Int) := by rw [List.take_length]
  rw [hfin]
  clear hfin
  go_enter Try.func8, Try.ntmps8
  go_wp2_with fail
  go_loopw [5, 6] (fun c i W => ∃ k : Nat, k ≤ l.length ∧ i = .int .i64 k ∧ c = .int .i64 ((l.take k).count p : Nat) ∧ Hid (Below (w.alloc (.cells #[.int .u32 p.k, .int .u32 p.v] 36)).heap.size (w.alloc (.cells #[.int .u32 p.k, .int .u32 p.v] 36)) W)) (fun _ i _ => l.length - (intOf i).toNat)
  case atStart => exact ⟨0, by omega, rfl, by simp, Lib.hid (Below.refl _ _)⟩
  case round =>
    obtain ⟨k, hk, rfl, rfl, HL⟩ := hrel
    by_cases hkn : k < l.length
    · obtain ⟨b1, o1, rfl, y0, y1⟩ := (HR.out.below HL.out).pr hkn
      have c := HX.out.below HL.out HX.out.lt
      have c0 := c.cell 0
      have c1 := c.cell 1
      have gk : (k : Int) < l.length := by omega
      have w2 := IntWalk.i64_in ((k : Int) + 1) (by omega)
      have hcn : (l.take k).count p ≤ k := Nat.le_trans List.count_le_length (by rw [List.length_take]; omega)
      have w3 := IntWalk.i64_in (((l.take k).count p : Int) + 1) (by omega)
      have hq := fun w => eq_pr36 (ithP l k) p w
      have e := Lib.hid (count_succ hkn p)
      generalize ithP l k = z at *
      by_cases he : z = p
      · subst he
        simp only [decide_true] at hq
        have e' := Lib.hid (by have := e.out; rw [if_pos rfl] at this; exact this)
        obtain ⟨zk, zv⟩ := z
        clear c e hcn
        simp at c0 c1
        dsimp only [Pr.val] at *
        go_wp2_with fail
        go_quiet (fail)
        have HL2 := Lib.hid (below_drewN HL.out nq)
        clear HL
        go_wp2
        go_roundw
        case rel => exact ⟨k + 1, by omega, by go_num, by rw [e'.out]; rfl, HL2⟩
        case measure => simp [intOf]; omega
      · rw [decide_eq_false he] at hq
        have e' := Lib.hid (by have := e.out; rw [if_neg he] at this; exact this)
        obtain ⟨zk, zv⟩ := z
        obtain ⟨pk, pv⟩ := p
        clear c e hcn he
        simp at c0 c1
        dsimp only [Pr.val] at *
        go_wp2_with fail
        go_quiet (fail)
        have HL2 := Lib.hid (below_drewN HL.out nq)
        clear HL
        go_wp2
        go_roundw
        case rel => exact ⟨k + 1, by omega, by go_num, by rw [e'.out]; rfl, HL2⟩
        case measure => simp [intOf]; omega
    · obtain rfl : k = l.length := by omega
      have HF := Lib.hid (below_then HB.out HL.out)
      clear HL HX HR HB
      go_wp2
      go_ret
      exact ⟨rfl, HF.out⟩
end Go.Proofs.Ytjmejdalmglehaa
