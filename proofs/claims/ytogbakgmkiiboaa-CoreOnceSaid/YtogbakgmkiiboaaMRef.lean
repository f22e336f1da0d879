/- The document's own step. -/
import Derived.Test.YtogbakgmkiiboaaMRight
import Derived.Test.YtogbakgmkiiboaaMCopy
namespace Go.Proofs.Ytogbakgmkiiboaa
open Go.ChangeShapes Go.WideShapes Go.ChangeAt Go.RowKit
set_option linter.unusedVariables false
set_option maxRecDepth 20000


/-- append(nil, l...): a new row that reads the same. -/
theorem wpList_copied (w : World) {ops : Array Oper} {rest : List Oper} {o : Oper} {a : Act} {Q : Exit → Act → World → Prop} (hgd : o.guard = none) (s x : Operand)
    (ho : o.op = .call { callee := .builtin .append, args := #[s, x], argTypes := #[32, 32] }) (n0 n : Nat) (ws : List Int) (hs : a.eval s = .slice none 0 0)
    (ad : Addr) (c : Nat) (hx : a.eval x = .slice (some ad) n c) (hl : ws.length = n) (hnews : ∀ j u, (encU ws)[j]? = some u → w.cell? (ad.add j) = some u) (h0 : 0 < n) (h1 : n ≤ 4096) (hb : n0 ≤ w.heap.size)
    (h : ∀ gg cp w1, w1.ownsRow n0 44 1 (.slice (some ⟨gg, 0, none⟩) n cp) n (encU ws) → w.grownBy w1 none → gg = w.heap.size → n ≤ cp → cp ≤ 9223372036854775807 → wpList Try.prog ops Q rest (a.put o.dst (.slice (some ⟨gg, 0, none⟩) n cp)) w1) :
    wpList Try.prog ops Q (o :: rest) a w := by
  obtain ⟨i0, hi, hz0, hz1, hz2⟩ := info_parts info44
  refine wpList_append_lies w hgd s x 32 ho n0 44 i0 (.int .u64 0) 1 8 Try.underlying32 hi hz0 hz1 hz2 rfl (by decide) (.slice none 0 0) 0 [] hs (World.ownsRow_nil _ _ _ _) ad n c (encU ws) hx (by simp [encU_len, hl]) hnews (ones ws) h0 (by simp only [maxLen]; omega) (by omega) hb w.heap.size rfl ?_
  intro gg cp w1 hown hgrow hat hlt
  simp only [Nat.zero_add, List.nil_append] at hown ⊢
  refine h gg cp w1 hown hgrow ?_ ?_ ?_
  · rcases hat with hat | hat
    · cases hat
    · exact hat
  · rcases hown.2 with ⟨h', _⟩ | ⟨g', cap', cur, h', _, hg, hnc, hcm, _⟩
    · simp at h'
    · simp at h'; omega
  · rcases hown.2 with ⟨h', _⟩ | ⟨g', cap', cur, h', _, hg, hnc, hcm, _⟩
    · simp at h'
    · simp at h'; simp only [maxLen] at hcm; omega

/-- What the document's step hands back. -/
def RefDid (n : Nat) (r : List Int × Int × Bool) (w : World) (e : Ending) (w' : World) : Prop :=
  ∃ g cp, e = .returned (.tuple #[.slice (some ⟨g, 0, none⟩) n cp, .int .u64 r.2.1, .bool r.2.2]) ∧ w'.ownsRow w.heap.size 44 1 (.slice (some ⟨g, 0, none⟩) n cp) n (encU r.1) ∧ Below w.heap.size w w' ∧ n ≤ cp ∧ cp ≤ 9223372036854775807

theorem own_set {W : World} {n0 g n cp : Nat} {ws : List Int} (h : W.ownsRow n0 44 1 (.slice (some ⟨g, 0, none⟩) n cp) n (encU ws)) (a : Nat) (x : Int) : (W.setCell ⟨g, a, none⟩ (.int .u64 x)).ownsRow n0 44 1 (.slice (some ⟨g, 0, none⟩) n cp) n (encU (ws.set a x)) := by
  have := (h.stored a (.int .u64 x)).1
  simpa [encU, List.map_set] using this
theorem own_cell {W : World} {n0 g n cp : Nat} {ws : List Int} (h : W.ownsRow n0 44 1 (.slice (some ⟨g, 0, none⟩) n cp) n (encU ws)) (hl : ws.length = n) {a : Nat} (ha : a < n) : W.cell? ⟨g, a, none⟩ = some (.int .u64 (wordAt ws a)) := by
  rw [h.cellAt a (by omega)]
  simp [encU, wordAt, List.getElem?_eq_getElem (show a < ws.length by omega)]
theorem below_set {n : Nat} {A W : World} (h : Below n A W) (g a : Nat) (hg : n ≤ g) (u : Value) : Below n A (W.setCell ⟨g, a, none⟩ u) := h.setCell hg u
theorem below_drewN {n : Nat} {A W : World} (h : Below n A W) (m : Nat) : Below n A (W.drewN m) := ⟨h.os, h.tape, h.output, h.size, h.block⟩

theorem box_after {w w1 : World} {k a b o x p q : Int} (hg : (w.alloc (.cells #[.int .i64 k, .int .i64 a, .int .i64 b, .int .u64 o, .int .u64 x, .int .u64 p, .int .u64 q] 63)).grownBy w1 none) :
    w1.cell? ⟨w.heap.size, 0, none⟩ = some (.int .i64 k) ∧ w1.cell? ⟨w.heap.size, 1, none⟩ = some (.int .i64 a) ∧ w1.cell? ⟨w.heap.size, 2, none⟩ = some (.int .i64 b) ∧ w1.cell? ⟨w.heap.size, 3, none⟩ = some (.int .u64 o) ∧
    w1.cell? ⟨w.heap.size, 4, none⟩ = some (.int .u64 x) ∧ w1.cell? ⟨w.heap.size, 5, none⟩ = some (.int .u64 p) ∧ w1.cell? ⟨w.heap.size, 6, none⟩ = some (.int .u64 q) ∧ Below w.heap.size w w1 := by
  have hX : Blk (w.alloc (.cells #[.int .i64 k, .int .i64 a, .int .i64 b, .int .u64 o, .int .u64 x, .int .u64 p, .int .u64 q] 63)) w.heap.size 63 _ := Blk.new _ _ _
  have hX1 : Blk w1 w.heap.size 63 _ := hX.agree (hg.block _ (by simp) (by simp))
  exact ⟨by rw [hX1.cell]; rfl, by rw [hX1.cell]; rfl, by rw [hX1.cell]; rfl, by rw [hX1.cell]; rfl, by rw [hX1.cell]; rfl, by rw [hX1.cell]; rfl, by rw [hX1.cell]; rfl,
    ((Below.refl _ _).alloc (Nat.le_refl _) _).grown hg (by simp) (fun k e => by cases e)⟩
theorem own_cell_eq {W : World} {n0 g n cp : Nat} {ws : List Int} (h : W.ownsRow n0 44 1 (.slice (some ⟨g, 0, none⟩) n cp) n (encU ws)) (hl : ws.length = n) {a : Nat} (ha : a < n) {y : Int} (hy : wordAt ws a = y) : W.cell? ⟨g, a, none⟩ = some (.int .u64 y) := by
  rw [own_cell h hl ha, hy]
theorem at_new {w : World} {o : Obj} {gg : Nat} (h : gg = (w.alloc o).heap.size) : gg ≠ w.heap.size ∧ w.heap.size ≠ gg ∧ w.heap.size ≤ gg := by
  simp at h; omega

set_option maxRecDepth 100000 in
set_option maxHeartbeats 8000000 in
theorem ref_do (g cap n : Nat) (ws : List Int) (n0 : Nat) (k : Int) (a : Nat) (b o x p q : Int) (w : World) (hn : ws.length = n) (h1 : n ≤ 4096) (hr : w.ownsRow n0 44 1 (.slice (some ⟨g, 0, none⟩) n cap) n (encU ws))
    (k0 : 0 ≤ k) (k5 : k ≤ 5) (ha : a < n) (hb : 4 ≤ k → 0 ≤ b ∧ b < n) (hab : k = 4 → (a : Int) ≠ b) :
    Calls Try.prog 28 #[.slice (some ⟨g, 0, none⟩) n cap, opV k a b o x p q] w (RefDid n (act ws k a b o x p q) w) := by
  have HC := Lib.hid (news_of (w := w) (g := g) (xs := encU ws) (fun j u hj => by
    have hlt : j < n * 1 := by have := (List.getElem?_eq_some_iff.1 hj).1; rw [encU_len] at this; omega
    rw [hr.cellAt j hlt]; exact hj) (.cells #[.int .i64 k, .int .i64 a, .int .i64 b, .int .u64 o, .int .u64 x, .int .u64 p, .int .u64 q] 63))
  have hsz : w.heap.size ≤ (w.alloc (.cells #[.int .i64 k, .int .i64 a, .int .i64 b, .int .u64 o, .int .u64 x, .int .u64 p, .int .u64 q] 63)).heap.size := by simp
  clear hr
  have HN := Lib.hid hn
  clear hn
  have ha' : (a : Int) < n := by omega
  obtain ⟨y, hy⟩ : ∃ y, wordAt ws a = y := ⟨_, rfl⟩
  have HY := Lib.hid hy
  clear hy
  by_cases h0 : k = 0
  · subst h0
    have hact : act ws 0 a b o x p q = (ws, y, false) := by simp [act, HY.out]
    rw [hact]
    clear hact
    go_enter Try.func28, Try.ntmps28
    go_wp2_with (at_builtin; refine wpList_copied _ rfl _ _ rfl w.heap.size n ws rfl ⟨g, 0, none⟩ cap rfl HN.out HC.out (by omega) h1 hsz ?_; intro gg cp w1 hown hgrow hgg hc1 hc2; obtain ⟨x0, x1, x2, x3, x4, x5, x6, hB1⟩ := box_after hgrow; obtain ⟨e1, e2, e3⟩ := at_new hgg; have c1 := own_cell_eq hown HN.out ha HY.out; have f1 := hown.frozenAt a; clear hgrow hgg)
    exact bodyPost_ret (v := .tuple #[.slice (some ⟨gg, 0, none⟩) n cp, .int .u64 y, .bool false]) (by simp [results, Try.results28, go_sem]) rfl ⟨gg, cp, rfl, hown, hB1, hc1, hc2⟩
  by_cases h1' : k = 1
  · subst h1'
    have hact : act ws 1 a b o x p q = (ws.set a x, 0, true) := by simp [act]
    rw [hact]
    clear hact
    go_enter Try.func28, Try.ntmps28
    go_wp2_with (at_builtin; refine wpList_copied _ rfl _ _ rfl w.heap.size n ws rfl ⟨g, 0, none⟩ cap rfl HN.out HC.out (by omega) h1 hsz ?_; intro gg cp w1 hown hgrow hgg hc1 hc2; obtain ⟨x0, x1, x2, x3, x4, x5, x6, hB1⟩ := box_after hgrow; obtain ⟨e1, e2, e3⟩ := at_new hgg; have c1 := own_cell_eq hown HN.out ha HY.out; have f1 := hown.frozenAt a; clear hgrow hgg)
    exact bodyPost_ret (v := .tuple #[.slice (some ⟨gg, 0, none⟩) n cp, .int .u64 0, .bool true]) (by simp [results, Try.results28, go_sem]) rfl ⟨gg, cp, rfl, own_set hown a x, below_set hB1 gg a e3 _, hc1, hc2⟩
  by_cases h2 : k = 2
  · subst h2
    by_cases ho : y = o
    · subst ho
      have hact : act ws 2 a b y x p q = (ws.set a x, 0, true) := by simp [act, HY.out]
      rw [hact]
      clear hact
      go_enter Try.func28, Try.ntmps28
      go_wp2_with (at_builtin; refine wpList_copied _ rfl _ _ rfl w.heap.size n ws rfl ⟨g, 0, none⟩ cap rfl HN.out HC.out (by omega) h1 hsz ?_; intro gg cp w1 hown hgrow hgg hc1 hc2; obtain ⟨x0, x1, x2, x3, x4, x5, x6, hB1⟩ := box_after hgrow; obtain ⟨e1, e2, e3⟩ := at_new hgg; have c1 := own_cell_eq hown HN.out ha HY.out; have f1 := hown.frozenAt a; clear hgrow hgg)
      go_quiet (fail)
      go_wp2
      exact bodyPost_ret (v := .tuple #[.slice (some ⟨gg, 0, none⟩) n cp, .int .u64 0, .bool true]) (by simp [results, Try.results28, go_sem]) rfl ⟨gg, cp, rfl, own_set hown a x, below_drewN (below_set hB1 gg a e3 _) _, hc1, hc2⟩
    · have ho2 : (y == o) = false := by simpa using ho
      have hact : act ws 2 a b o x p q = (ws, 0, false) := by simp [act, HY.out, ho]
      rw [hact]
      clear hact
      go_enter Try.func28, Try.ntmps28
      go_wp2_with (at_builtin; refine wpList_copied _ rfl _ _ rfl w.heap.size n ws rfl ⟨g, 0, none⟩ cap rfl HN.out HC.out (by omega) h1 hsz ?_; intro gg cp w1 hown hgrow hgg hc1 hc2; obtain ⟨x0, x1, x2, x3, x4, x5, x6, hB1⟩ := box_after hgrow; obtain ⟨e1, e2, e3⟩ := at_new hgg; have c1 := own_cell_eq hown HN.out ha HY.out; have f1 := hown.frozenAt a; clear hgrow hgg)
      go_quiet (fail)
      go_wp2
      exact bodyPost_ret (v := .tuple #[.slice (some ⟨gg, 0, none⟩) n cp, .int .u64 0, .bool false]) (by simp [results, Try.results28, go_sem]) rfl ⟨gg, cp, rfl, hown, below_drewN hB1 _, hc1, hc2⟩
  by_cases h3 : k = 3
  · subst h3
    have hact : act ws 3 a b o x p q = (ws.set a (IntKind.u64.wrap (y + x)), y, true) := by simp [act, HY.out]
    rw [hact]
    clear hact
    go_enter Try.func28, Try.ntmps28
    go_wp2_with (at_builtin; refine wpList_copied _ rfl _ _ rfl w.heap.size n ws rfl ⟨g, 0, none⟩ cap rfl HN.out HC.out (by omega) h1 hsz ?_; intro gg cp w1 hown hgrow hgg hc1 hc2; obtain ⟨x0, x1, x2, x3, x4, x5, x6, hB1⟩ := box_after hgrow; obtain ⟨e1, e2, e3⟩ := at_new hgg; have c1 := own_cell_eq hown HN.out ha HY.out; have f1 := hown.frozenAt a; clear hgrow hgg)
    exact bodyPost_ret (v := .tuple #[.slice (some ⟨gg, 0, none⟩) n cp, .int .u64 y, .bool true]) (by simp [results, Try.results28, go_sem]) rfl ⟨gg, cp, rfl, own_set hown a _, below_set hB1 gg a e3 _, hc1, hc2⟩
  obtain ⟨hb0, hb1⟩ := hb (by omega)
  clear hb
  obtain ⟨m, rfl⟩ : ∃ m : Nat, b = m := ⟨b.toNat, by omega⟩
  have hm : m < n := by omega
  obtain ⟨z, hz⟩ : ∃ z, wordAt ws m = z := ⟨_, rfl⟩
  have HZ := Lib.hid hz
  clear hz
  by_cases ho : y = o
  · subst ho
    by_cases hp : z = p
    · subst hp
      by_cases h4 : k = 4
      · subst h4
        have n1 : ¬ a = m := by have := hab rfl; omega
        have n2 : ¬ m = a := by omega
        have hact : act ws 4 a m y x z q = ((ws.set a x).set m q, 0, true) := by simp [act, HY.out, HZ.out]
        rw [hact]
        clear hact
        go_enter Try.func28, Try.ntmps28
        go_wp2_with (at_builtin; refine wpList_copied _ rfl _ _ rfl w.heap.size n ws rfl ⟨g, 0, none⟩ cap rfl HN.out HC.out (by omega) h1 hsz ?_; intro gg cp w1 hown hgrow hgg hc1 hc2; obtain ⟨x0, x1, x2, x3, x4, x5, x6, hB1⟩ := box_after hgrow; obtain ⟨e1, e2, e3⟩ := at_new hgg; have c1 := own_cell_eq hown HN.out ha HY.out; have f1 := hown.frozenAt a; have cb := own_cell_eq hown HN.out hm HZ.out; have fb := hown.frozenAt m; clear hgrow hgg)
        go_quiet (fail)
        go_wp2
        exact bodyPost_ret (v := .tuple #[.slice (some ⟨gg, 0, none⟩) n cp, .int .u64 0, .bool true]) (by simp [results, Try.results28, go_sem]) rfl ⟨gg, cp, rfl, own_set (own_set hown a x) m q, below_set (below_set (below_drewN hB1 _) gg a e3 _) gg m e3 _, hc1, hc2⟩
      · obtain rfl : k = 5 := by omega
        have hact : act ws 5 a m y x z q = (ws.set a x, 0, true) := by simp [act, HY.out, HZ.out]
        rw [hact]
        clear hact
        go_enter Try.func28, Try.ntmps28
        go_wp2_with (at_builtin; refine wpList_copied _ rfl _ _ rfl w.heap.size n ws rfl ⟨g, 0, none⟩ cap rfl HN.out HC.out (by omega) h1 hsz ?_; intro gg cp w1 hown hgrow hgg hc1 hc2; obtain ⟨x0, x1, x2, x3, x4, x5, x6, hB1⟩ := box_after hgrow; obtain ⟨e1, e2, e3⟩ := at_new hgg; have c1 := own_cell_eq hown HN.out ha HY.out; have f1 := hown.frozenAt a; have cb := own_cell_eq hown HN.out hm HZ.out; have fb := hown.frozenAt m; clear hgrow hgg)
        go_quiet (fail)
        go_wp2
        exact bodyPost_ret (v := .tuple #[.slice (some ⟨gg, 0, none⟩) n cp, .int .u64 0, .bool true]) (by simp [results, Try.results28, go_sem]) rfl ⟨gg, cp, rfl, own_set hown a x, below_set (below_drewN hB1 _) gg a e3 _, hc1, hc2⟩
    · have hp2 : (z == p) = false := by simpa using hp
      have g0 : (k == 0) = false := by simpa using h0
      have g1 : (k == 1) = false := by simpa using h1'
      have g2 : (k == 2) = false := by simpa using h2
      have g3 : (k == 3) = false := by simpa using h3
      have hact : act ws k a m y x p q = (ws, 0, false) := by simp [act, HY.out, HZ.out, hp, h0, h1', h2, h3]
      rw [hact]
      clear hact
      go_enter Try.func28, Try.ntmps28
      go_wp2_with (at_builtin; refine wpList_copied _ rfl _ _ rfl w.heap.size n ws rfl ⟨g, 0, none⟩ cap rfl HN.out HC.out (by omega) h1 hsz ?_; intro gg cp w1 hown hgrow hgg hc1 hc2; obtain ⟨x0, x1, x2, x3, x4, x5, x6, hB1⟩ := box_after hgrow; obtain ⟨e1, e2, e3⟩ := at_new hgg; have c1 := own_cell_eq hown HN.out ha HY.out; have f1 := hown.frozenAt a; have cb := own_cell_eq hown HN.out hm HZ.out; have fb := hown.frozenAt m; clear hgrow hgg)
      go_quiet (fail)
      go_wp2
      exact bodyPost_ret (v := .tuple #[.slice (some ⟨gg, 0, none⟩) n cp, .int .u64 0, .bool false]) (by simp [results, Try.results28, go_sem]) rfl ⟨gg, cp, rfl, hown, below_drewN hB1 _, hc1, hc2⟩
  · have ho2 : (y == o) = false := by simpa using ho
    have g0 : (k == 0) = false := by simpa using h0
    have g1 : (k == 1) = false := by simpa using h1'
    have g2 : (k == 2) = false := by simpa using h2
    have g3 : (k == 3) = false := by simpa using h3
    have hact : act ws k a m o x p q = (ws, 0, false) := by simp [act, HY.out, ho, h0, h1', h2, h3]
    rw [hact]
    clear hact
    go_enter Try.func28, Try.ntmps28
    go_wp2_with (at_builtin; refine wpList_copied _ rfl _ _ rfl w.heap.size n ws rfl ⟨g, 0, none⟩ cap rfl HN.out HC.out (by omega) h1 hsz ?_; intro gg cp w1 hown hgrow hgg hc1 hc2; obtain ⟨x0, x1, x2, x3, x4, x5, x6, hB1⟩ := box_after hgrow; obtain ⟨e1, e2, e3⟩ := at_new hgg; have c1 := own_cell_eq hown HN.out ha HY.out; have f1 := hown.frozenAt a; have cb := own_cell_eq hown HN.out hm HZ.out; have fb := hown.frozenAt m; clear hgrow hgg)
    go_quiet (fail)
    go_wp2
    exact bodyPost_ret (v := .tuple #[.slice (some ⟨gg, 0, none⟩) n cp, .int .u64 0, .bool false]) (by simp [results, Try.results28, go_sem]) rfl ⟨gg, cp, rfl, hown, below_drewN hB1 _, hc1, hc2⟩
end Go.Proofs.Ytogbakgmkiiboaa
