/- A machine with lists, amid a bit; what sift and resume do. What resume does. What a bit of Scan does. Printed by haz_scan.py. What a bit of Retire does. What hazard.Do does; a step of a thread. Printed by haz_body.py. -/
import Derived.Test.YtemikojaldoofaaGreatHXa
import Derived.Test.YtemikojaldoofaaGreatHProt
import Derived.Test.YtemikojaldoofaaGreatAStep
namespace Go.Proofs.YtemikojaldoofaaGreat
open Go.ChangeShapes Go.WideShapes Go.ChangeAt Go.RowKit
set_option linter.unusedVariables false
set_option maxRecDepth 20000

variable {c : P.Cf} {B Fb T q : Nat} {X : Nat → Prop} {σ σ' : Sg} {ls ls' : Nat → Nat → List Value} {W W' V V' : World} {i gg o cp : Nat} {l : List Fr} {f : Fr}
open S (ints)
theorem updLs_self (ls : Nat → Nat → List Value) (i j : Nat) : updLs ls i j (ls i j) = ls := by
  funext a b
  simp only [updLs]
  split
  · rename_i h; rw [h.1, h.2]
  · rfl
theorem updLs_upd (ls : Nat → Nat → List Value) (i j : Nat) (xs ys : List Value) : updLs (updLs ls i j xs) i j ys = updLs ls i j ys := by
  funext a b
  simp only [updLs]
  split <;> rfl
/-- The lists behind a bit of thread i. -/
def lsW (ls : Nat → Nat → List Value) (i : Nat) (rt fn : List Int) : Nat → Nat → List Value := updLs (updLs ls i 9 (ints fn)) i 8 (ints rt)
theorem lsW_8 (ls : Nat → Nat → List Value) (i : Nat) (rt fn : List Int) : lsW ls i rt fn i 8 = ints rt := updLs_at _ _ _ _
theorem lsW_9 (ls : Nat → Nat → List Value) (i : Nat) (rt fn : List Int) : lsW ls i rt fn i 9 = ints fn := by
  unfold lsW
  rw [updLs_ne _ _ _ _ (by omega), updLs_at]
theorem lsW_ne (ls : Nat → Nat → List Value) (i : Nat) (rt fn : List Int) {a b : Nat} (h : a ≠ i ∨ (b ≠ 8 ∧ b ≠ 9)) : lsW ls i rt fn a b = ls a b := by
  unfold lsW
  rw [updLs_ne _ _ _ _ (by omega), updLs_ne _ _ _ _ (by omega)]
theorem lsW_self {ls : Nat → Nat → List Value} {i : Nat} {rt fn : List Int} (h8 : ls i 8 = ints rt) (h9 : ls i 9 = ints fn) : lsW ls i rt fn = ls := by
  unfold lsW
  rw [← h9, updLs_self, ← h8, updLs_self]
theorem lsW_lsW (ls : Nat → Nat → List Value) (i : Nat) (rt fn rt' fn' : List Int) : lsW (lsW ls i rt fn) i rt' fn' = lsW ls i rt' fn' := by
  funext a b
  simp only [lsW, updLs]
  by_cases h1 : a = i ∧ b = 8
  · rw [if_pos h1, if_pos h1]
  · rw [if_neg h1, if_neg h1]
    by_cases h2 : a = i ∧ b = 9
    · rw [if_pos h2, if_neg h1, if_pos h2]
    · rw [if_neg h2, if_neg h1, if_neg h2, if_neg h2]
theorem lsW_9put {ls : Nat → Nat → List Value} {i : Nat} {rt : List Int} (h8 : ls i 8 = ints rt) (fn : List Int) : updLs ls i 9 (ints fn) = lsW ls i rt fn := by
  unfold lsW
  rw [← h8]
  have := updLs_self (updLs ls i 9 (ints fn)) i 8
  rw [updLs_ne _ _ _ _ (by omega)] at this
  exact this.symm
theorem lsW_8put {ls : Nat → Nat → List Value} {i : Nat} {fn : List Int} (h9 : ls i 9 = ints fn) (rt : List Int) : updLs ls i 8 (ints rt) = lsW ls i rt fn := by
  unfold lsW
  rw [← h9, updLs_self]

/-- Amid a bit. -/
def MidH (c : P.Cf) (B Fb T q i gg o cp : Nat) (l : List Fr) (f : Fr) (σ : Sg) (ls : Nat → Nat → List Value) (X : Nat → Prop) (W V : World) : Prop :=
  HMT c B Fb T q σ ls X W V ∧ FrIs T i gg o cp f V ∧ (σ.ts i).fr = l ++ [f]
theorem MidH.drew (h : MidH c B Fb T q i gg o cp l f σ ls X W V) : MidH c B Fb T q i gg o cp l f σ ls X W V.drew := ⟨h.1.drew, h.2.1.drew, h.2.2⟩
theorem MidH.below (h : MidH c B Fb T q i gg o cp l f σ ls X W V) (hb : Below V.heap.size V V') : MidH c B Fb T q i gg o cp l f σ ls X W V' := ⟨h.1.below hb, h.2.1.below hb, h.2.2⟩
theorem MidH.setC (h : MidH c B Fb T q i gg o cp l f σ ls X W V) (hi : i < c.th.toNat) (ho : l.length * 12 = o) (j : Nat) (hj : j < 12) (x : Int) :
    MidH c B Fb T q i gg o cp l (f.setC j x) { σ with ts := upd σ.ts i { σ.ts i with fr := l ++ [f.setC j x] } } ls X W (V.setCell ⟨gg, o + j, none⟩ (cellV j x)) := by
  obtain ⟨⟨X', k, l', m⟩, h2, h3⟩ := h
  obtain ⟨X0, rfl, hm, hl⟩ := m
  refine ⟨HMT.from k l' (HM.turn hm hl (hm.setC hi h3 ho h2 j hj x) fun a ha => ?_), h2.set j hj x, by simp [upd_same]⟩
  simp only [upd]
  split
  · rename_i e; rw [e]
  · rfl
/-- A contract of the machine's on the machine as it is amid a bit. -/
theorem MidH.calls (h : MidH c B Fb T q i gg o cp l f σ ls X W V) {K : Nat} {args : Array Value} {v : Value} {ms : MS} {gs : Gh} {bad : Bool}
    (hK : ∀ X', Mac c B Fb T X' σ V → Calls Tryz.prog K args V fun e V' => e = .returned v ∧ MacT c B Fb T ⟨ms, gs, bad, σ.ts⟩ X' V V' ∧ Still V V') :
    Calls Tryz.prog K args V fun e V' => e = .returned v ∧ MidH c B Fb T q i gg o cp l f ⟨ms, gs, bad, σ.ts⟩ ls X W V' := by
  obtain ⟨⟨X', k, l', m⟩, h2, h3⟩ := h
  obtain ⟨X0, rfl, hm, hl⟩ := m
  refine (hK X0 hm).mono ?_
  rintro e V' ⟨rfl, ht, hs⟩
  exact ⟨rfl, HMT.from k l' (HM.turn hm hl ht fun a ha => rfl), h2.still hs, h3⟩
theorem MidH.cells (h : MidH c B Fb T q i gg o cp l f σ ls X W V) : V.cell? ⟨gg, o + 1, none⟩ = some (.int .i64 f.pc) ∧ V.cell? ⟨gg, o + 2, none⟩ = some (.int .u64 (f.r.getD 0 0)) ∧ V.cell? ⟨gg, o, none⟩ = some (.int .i64 f.fn) :=
  ⟨h.2.1.pc, h.2.1.reg 0 (by omega), h.2.1.fn⟩
theorem MidH.plan (h : MidH c B Fb T q i gg o cp l f σ ls X W V) : Calls Tryz.prog 10 #[at0 B] V fun e V2 => e = .returned c.v ∧ Below V.heap.size V V2 := by
  obtain ⟨⟨X', k, l', m⟩, -⟩ := h
  obtain ⟨X0, m, -⟩ := m.mac
  exact m.plan
theorem MidH.list (h : MidH c B Fb T q i gg o cp l f σ ls X W V) {a j : Nat} (hi : a < c.th.toNat) (h0 : q ≤ j) (h5 : 5 ≤ j) (h1 : j < 10) :
    V.cell? ⟨T, a * 10 + j, none⟩ = some ((σ.ts a).v j) ∧ V.frozen? ⟨T, a * 10 + j, none⟩ = false ∧ R.Row V (ety j) ((σ.ts a).v j) (ls a j).length (ls a j) ∧ T < V.heap.size := by
  obtain ⟨⟨X', k, l', m⟩, -⟩ := h
  exact m.list hi h0 h5 h1
theorem ety_ok (j : Nat) : ety j ≠ 48 ∧ ety j ≠ 103 := by unfold ety; split <;> decide
/-- A list of the thread has become another one. -/
theorem MidH.put (h : MidH c B Fb T q i gg o cp l f σ ls X W V) {j : Nat} (hi : i < c.th.toNat) (h0 : q ≤ j) (h5 : 5 ≤ j) (h1 : j < 10) (hk : Keeps (fun k => k = T ∨ ((σ.ts i).v j).ownBlock = some k) V V') {u : Value} (hT' : ∀ cs, Blk V T 48 cs → Blk V' T 48 (cs.setIfInBounds (i * 10 + j) u))
    {xs : List Value} (hr : R.Row V' (ety j) u xs.length xs) (hu : ∀ k, u.ownBlock = some k → ((σ.ts i).v j).ownBlock = some k ∨ V.heap.size ≤ k) :
    MidH c B Fb T q i gg o cp l f { σ with ts := upd σ.ts i ((σ.ts i).setV j u) } (updLs ls i j xs) X W V' := by
  obtain ⟨⟨X', k, l', m⟩, h2, h3⟩ := h
  have hrow := (m.list hi h0 h5 h1).2.2.1
  exact ⟨HMT.from k l' (m.put hi h0 h5 h1 hk hT' hr hu), h2.put hk hrow (ety_ok j) (by omega) hT', by simp only [upd_same]; exact h3⟩
/-- A row of a list behind what leaves it. -/
theorem HM.blkT (h : HM c B Fb T q σ ls X W) : ∃ cs, Blk W T 48 cs ∧ cs.size = c.th.toNat * 10 := by
  obtain ⟨X0, ⟨O, cs, vs, rfl, hm, hT, hs, hx, ha⟩, -⟩ := h.mac
  exact ⟨cs, hT, hs⟩
theorem HM.mid (h : HM c B Fb T q σ ls X V) (hi : i < c.th.toNat) (hfr : (σ.ts i).fr = l ++ [f]) (hl : l.length ≤ 1000) :
    ∃ gg cp, MidH c B Fb T q i gg (l.length * 12) cp l f σ ls X V V.drew ∧ Calls Tryz.prog 27 #[.pointer (some ⟨T, i * 10, none⟩)] V fun e V' => e = .returned (.pointer (some ⟨gg, l.length * 12, none⟩)) ∧ V.drew = V' := by
  obtain ⟨X0, m, -⟩ := h.mac
  obtain ⟨gg, cp, h1, h2, h3⟩ := m.frame hi hfr hl
  exact ⟨gg, cp, ⟨(HMT.refl h).drew, h1.drew, hfr⟩, h3⟩

/-! ### sift -/
/-- What sift leaves: what stays, what is to be released. -/
def Sifted (c : P.Cf) (B Fb T q i : Nat) (σ : Sg) (ls : Nat → Nat → List Value) (rt nm : List Int) (X : Nat → Prop) (W : World) (e : Ending) (W' : World) : Prop :=
  e = .returned (.tuple #[]) ∧ ∃ u8 u9, HMT c B Fb T q { σ with ts := upd σ.ts i (((σ.ts i).setV 9 u9).setV 8 u8) } (lsW ls i (rt.filter fun x => decide (x ∈ nm)) (rt.filter fun x => !decide (x ∈ nm))) X W W'
theorem boxed_blk {W : World} {k : Nat} {t : TypeId} {v : Value} (h : Boxed W k t v) : Blk W k t #[v] := h
set_option maxHeartbeats 4000000 in
theorem sift_any (h : HM c B Fb T q σ ls X W) (hi : i < c.th.toNat) (hq : q ≤ 8) {rt nm : List Int} (h8 : ls i 8 = ints rt) (h9 : ls i 9 = ints nm) (hrt : rt.length ≤ 1000) (hR : ∀ x ∈ rt, S.InR x) :
    Calls Tryz.prog 73 #[.pointer (some ⟨T, i * 10, none⟩)] W (Sifted c B Fb T q i σ ls rt nm X W) := by
  obtain ⟨cs, hT, hs⟩ := h.blkT
  obtain ⟨c9, f9, r9, lT⟩ := h.list hi (j := 9) (by omega) (by omega) (by omega)
  obtain ⟨c8, f8, r8, -⟩ := h.list hi (j := 8) (by omega) (by omega) (by omega)
  rw [h9, S.ints_len] at r9
  rw [h8, S.ints_len] at r8
  change R.Row W 3 _ _ _ at r9
  change R.Row W 3 _ _ _ at r8
  generalize hv9 : (σ.ts i).v 9 = v9 at *
  generalize hv8 : (σ.ts i).v 8 = v8 at *
  have hmf : ∀ (fn : Fn) (first cap : Array Value) (w : World), (Instr.makeFunc fn first cap).run Tryz.prog w = .ok (.func fn first cap) w := fun _ _ _ _ => rfl
  obtain ⟨a9, cap9, rfl, hc9, hm9⟩ := r9.form
  have hA : Below W.heap.size W (W.alloc (.cells #[.slice a9 nm.length cap9] 44)) := (Below.refl _ _).alloc (Nat.le_refl _) _
  have hbx : Boxed (W.alloc (.cells #[.slice a9 nm.length cap9] 44)) W.heap.size 44 (.slice a9 nm.length cap9) := Boxed.new W 44 _
  have K1 := S.list_any T (i * 10 + 8) v8 rt (W.alloc (.cells #[.slice a9 nm.length cap9] 44)) ((hT.alloc _).cell _ |>.trans ((hT.cell _).symm.trans c8)) (S.row_reads (r8.alloc _)) (by omega)
  have nT9 : (Value.slice a9 nm.length cap9).ownBlock ≠ some T := fun e => by
    obtain ⟨cur, hb⟩ := rrow_blk r9 e
    exact Blk.ne hb hT (by decide) rfl
  have H := Lib.hid h
  have HT := Lib.hid hT
  have HR9 := Lib.hid r9
  have HR8 := Lib.hid r8
  have HC8 := Lib.hid c8
  have HA := Lib.hid hA
  have HBX := Lib.hid hbx
  clear h hT r9 r8 c8 f8 hA hbx
  go_enter Tryz.func73, Tryz.ntmps73
  go_wp2_with fail
  refine K1.mono ?_
  rintro e W2 ⟨vL, rfl, hown, hb2⟩
  clear K1
  have sA : (W.alloc (.cells #[.slice a9 nm.length cap9] 44)).heap.size = W.heap.size + 1 := by simp
  have hbx2 : Boxed W2 W.heap.size 44 (.slice a9 nm.length cap9) := (hb2.block _ (by omega)).trans HBX.out
  have rd2 : S.Reads W2 (.slice a9 nm.length cap9) nm := S.row_reads ((HR9.out.alloc _).below hb2 fun k e => by have := HR9.out.lt e; omega)
  have hLge : ∀ k, vL.ownBlock = some k → W.heap.size + 1 ≤ k ∧ k < W2.heap.size := fun k e => by
    have := hown.lt k e
    omega
  have K2 := S.del_own _ vL rt nm W.heap.size W2 hown fun V hV x => S.stays_any W.heap.size (.slice a9 nm.length cap9) nm x V ((hV.block _ (by have := hb2.size; omega) fun e => by have := (hLge _ e).1; omega).trans hbx2) (S.Reads.agree rd2 fun k h0 e => hV.block k (by have := HR9.out.lt e; have := hb2.size; omega) fun e2 => by have := (hLge _ e2).1; have := HR9.out.lt e; omega)
  have HW2 := Lib.hid (And.intro hbx2 (And.intro rd2 (And.intro hLge hb2)))
  clear hbx2 rd2 hLge hb2 hown
  go_wp2_with fail
  refine K2.mono ?_
  rintro e W3 ⟨v', rfl, hr3, hk3, ho3⟩
  clear K2
  obtain ⟨hbx2, rd2, hLge, hb2⟩ := HW2.out
  have s2 := hb2.size
  have s3 := hk3.size
  have old : ∀ k, k < W.heap.size → W3.heap[k]? = W.heap[k]? := fun k hk => (hk3.block k (by omega) fun e => by have := (hLge _ e).1; omega).trans ((hb2.block k (by omega)).trans (Below.heap_alloc _ _ _ hk))
  have hT3 : Blk W3 T 48 cs := HT.out.agree (old T lT)
  have nv' : v'.ownBlock ≠ some T := fun e => by have := (hLge _ (ho3 _ e)).1; omega
  have hT4 := hT3.set (i * 10 + 9) v'
  have k04 : Keeps (fun k => k = T ∨ (Value.slice a9 nm.length cap9).ownBlock = some k) W (W3.setCell ⟨T, i * 10 + 9, none⟩ v') := by
    have k1 : Keeps (fun k => k = T ∨ (Value.slice a9 nm.length cap9).ownBlock = some k) W W2 := Keeps.of_below (HA.out.trans (hb2.mono (by omega)))
    exact (k1.trans (hk3.mono (O' := fun k => W.heap.size ≤ k) fun k e => .inl (by have := (hLge _ e).1; omega)) fun k h => .inr h).setCell (p := ⟨T, i * 10 + 9, none⟩) (.inl (.inl rfl)) _
  have hr4 : R.Row (W3.setCell ⟨T, i * 10 + 9, none⟩ v') 3 v' (rt.filter fun x => !decide (x ∈ nm)).length (ints (rt.filter fun x => !decide (x ∈ nm))) := hr3.setCell nv' _
  have n8T : v8.ownBlock ≠ some T := fun e => by
    obtain ⟨cur, hb⟩ := rrow_blk HR8.out e
    exact Blk.ne hb HT.out (by decide) rfl
  have r84 : R.Row (W3.setCell ⟨T, i * 10 + 9, none⟩ v') 3 v8 rt.length (ints rt) := (HR8.out.agree fun k e => old k (HR8.out.lt e)).setCell n8T _
  have r94 : R.Row (W3.setCell ⟨T, i * 10 + 9, none⟩ v') 3 (.slice a9 nm.length cap9) nm.length (ints nm) := (HR9.out.agree fun k e => old k (HR9.out.lt e)).setCell nT9 _
  have hbx4 : Boxed (W3.setCell ⟨T, i * 10 + 9, none⟩ v') W.heap.size 44 (.slice a9 nm.length cap9) :=
    (Below.heap_setCell _ _ _ _ (by show W.heap.size ≠ T; omega)).trans ((hk3.block _ (by omega) fun e => by have := (hLge _ e).1; omega).trans hbx2)
  have c84 : (W3.setCell ⟨T, i * 10 + 9, none⟩ v').cell? ⟨T, i * 10 + 8, none⟩ = some v8 := by
    rw [hT4.cell, Array.getElem?_setIfInBounds_ne (by omega), ← HT.out.cell]
    exact HC8.out
  have K3 := S.keep_any T (i * 10 + 8) _ v8 rt _ _ (fun x => decide (x ∈ nm)) (W3.setCell ⟨T, i * 10 + 9, none⟩ v') hT4 c84 r84 (S.stays_gives W.heap.size _ nm _ hbx4 (S.row_reads r94)) hR (by omega)
  have c93 : W3.cell? ⟨T, i * 10 + 9, none⟩ = some (.slice a9 nm.length cap9) := (hT3.cell _).trans ((HT.out.cell _).symm.trans c9)
  have f93 := hT3.frozen (i * 10 + 9)
  have l3 := hT3.lt
  have H1 := Lib.hid (H.out.put hi (j := 9) (by omega) (by omega) (by omega) (W' := W3.setCell ⟨T, i * 10 + 9, none⟩ v') (u := v') (by rw [hv9]; exact k04) (fun cs' h' => by
    obtain rfl : cs' = cs := by
      have := (show W.heap[T]? = _ from h').symm.trans HT.out
      simpa using this
    exact hT4) (xs := ints (rt.filter fun x => !decide (x ∈ nm))) (by rw [S.ints_len]; exact hr4) fun k e => .inr (by have := (hLge _ (ho3 _ e)).1; omega))
  obtain ⟨a', cap', rfl, _, _⟩ := hr3.form
  clear k04 hT4 hr4 r84 r94 hbx4 c84 hT3 old hbx2 rd2 hLge hb2 hk3 ho3 hr3 HW2 nv'
  go_wp2_with fail
  refine K3.mono ?_
  rintro e W5 ⟨⟨r, rfl⟩, v'', hT5, hr5, hk5, ho5⟩
  have HF := Lib.hid (And.intro hT5 (And.intro hr5 (And.intro hk5 ho5)))
  clear K3 hT5 hr5 hk5 ho5
  go_wp2
  go_end0
  obtain ⟨hT5, hr5, hk5, ho5⟩ := HF.out
  refine ⟨rfl, v'', .slice a' (rt.filter fun x => !decide (x ∈ nm)).length cap', ?_⟩
  have := H1.out.then (V' := W5) (σ2 := { σ with ts := upd σ.ts i (((σ.ts i).setV 9 (.slice a' (rt.filter fun x => !decide (x ∈ nm)).length cap')).setV 8 v'') }) (ls2 := updLs (updLs ls i 9 (ints (rt.filter fun x => !decide (x ∈ nm)))) i 8 (ints (rt.filter fun x => decide (x ∈ nm)))) fun X' m => by
    have hv : ((upd σ.ts i ((σ.ts i).setV 9 (.slice a' (rt.filter fun x => !decide (x ∈ nm)).length cap'))) i).v 8 = v8 := by rw [upd_same, setV_ne _ _ (by omega)]; exact hv8
    have := m.put hi (j := 8) (by omega) (by omega) (by omega) (W' := W5) (u := v'') (xs := ints (rt.filter fun x => decide (x ∈ nm))) (by dsimp only; rw [hv]; exact hk5) hT5 (by rw [S.ints_len]; exact hr5) fun k e => .inr (ho5 k e)
    simp only [upd_same, upd_upd] at this
    exact this
  exact this
end Go.Proofs.YtemikojaldoofaaGreat
namespace Go.Proofs.YtemikojaldoofaaGreat
open Go.ChangeShapes Go.WideShapes Go.ChangeAt Go.RowKit
set_option linter.unusedVariables false
set_option maxRecDepth 20000
open S (ints)
variable {c : P.Cf} {B Fb T q : Nat} {X : Nat → Prop} {σ σ' : Sg} {ls ls' : Nat → Nat → List Value} {W W' V V' : World} {i gg o cp : Nat} {l : List Fr} {f : Fr}
theorem HM.topNone (h : HM c B Fb T q σ ls X W) (hi : i < c.th.toNat) (hfr : (σ.ts i).fr = []) : Calls Tryz.prog 27 #[.pointer (some ⟨T, i * 10, none⟩)] W fun e W' => e = .returned (.pointer none) ∧ W = W' := by
  obtain ⟨X0, m, -⟩ := h.mac
  exact m.topNone hi hfr
theorem resume_none (h : HM c B Fb T q σ ls X W) (hi : i < c.th.toNat) (hfr : (σ.ts i).fr = []) : Calls Tryz.prog 55 #[.pointer (some ⟨T, i * 10, none⟩)] W fun e W' => e = .returned (.tuple #[]) ∧ W = W' := by
  have K := h.topNone hi hfr
  clear h
  go_enter Tryz.func55, Tryz.ntmps55
  go_wp2_with fail
  refine K.mono ?_
  rintro e v ⟨rfl, rfl⟩
  go_wp2
  exact bodyPost_ret (v := .tuple #[]) (by simp [results, Tryz.results55, go_sem]) rfl ⟨rfl, rfl⟩
theorem resume_other (h : HM c B Fb T q σ ls X W) (hi : i < c.th.toNat) (hfr : (σ.ts i).fr = l ++ [f]) (hl : l.length ≤ 1000) (hf : f.fn ≠ 6) : Calls Tryz.prog 55 #[.pointer (some ⟨T, i * 10, none⟩)] W fun e W' => e = .returned (.tuple #[]) ∧ W.drew = W' := by
  obtain ⟨gg, cp, hM, K⟩ := h.mid hi hfr hl
  obtain ⟨c1, c2, c3⟩ := hM.cells
  have hf2 : (f.fn != 6) = true := by simpa using hf
  have hf3 : (f.fn == 6) = false := by simpa using hf
  clear h hM hfr c2
  generalize l.length * 12 = o at *
  go_enter Tryz.func55, Tryz.ntmps55
  go_wp2_with fail
  refine K.mono ?_
  rintro e v ⟨rfl, rfl⟩
  go_wp2
  exact bodyPost_ret (v := .tuple #[]) (by simp [results, Tryz.results55, go_sem]) rfl ⟨rfl, rfl⟩
theorem HM.pop0 (h : HM c B Fb T q σ ls X W) (hi : i < c.th.toNat) (hfr : (σ.ts i).fr = l ++ [f]) (hl : l.length ≤ 1000) : Calls Tryz.prog 70 #[.pointer (some ⟨T, i * 10, none⟩), .slice none 0 0] W fun e W' => e = .returned (.tuple #[]) ∧ HMT c B Fb T q { σ with ts := upd σ.ts i ((σ.ts i).told l 0 0 0) } ls X W W' :=
  h.lift (σ' := { σ with ts := upd σ.ts i ((σ.ts i).told l 0 0 0) }) (fun a ha => by
    simp only [upd]
    split
    · rename_i e; rw [e]; rfl
    · rfl) fun X0 m => m.pop hi hfr hl (row00 W) (by omega) (fun h => absurd h (by omega))
theorem resume_end (h : HM c B Fb T q σ ls X W) (hi : i < c.th.toNat) (hq : q ≤ 8) (hfr : (σ.ts i).fr = l ++ [f]) (hl : l.length ≤ 1000) (hf : f.fn = 6) (hp : f.pc = -1) (h9 : ls i 9 = []) : Calls Tryz.prog 55 #[.pointer (some ⟨T, i * 10, none⟩)] W fun e W' => e = .returned (.tuple #[]) ∧ HMT c B Fb T q { σ with ts := upd σ.ts i ((σ.ts i).told l 0 0 0) } ls X W W' := by
  obtain ⟨gg, cp, hM, K⟩ := h.mid hi hfr hl
  obtain ⟨c1, c2, c3⟩ := hM.cells
  obtain ⟨c9, f9, r9, lT⟩ := hM.list hi (j := 9) (by omega) (by omega) (by omega)
  rw [h9] at r9
  rw [hf] at c3
  rw [hp] at c1
  generalize (σ.ts i).v 9 = v9 at *
  obtain ⟨a9, cap9, rfl, hc9, hm9⟩ := r9.form
  have HK := Lib.hid (h.drew.pop0 hi hfr hl)
  have HF : Hid (∀ W', HMT c B Fb T q { σ with ts := upd σ.ts i ((σ.ts i).told l 0 0 0) } ls X W.drew W' → HMT c B Fb T q { σ with ts := upd σ.ts i ((σ.ts i).told l 0 0 0) } ls X W W') := Lib.hid fun W' ht => HMT.from ((Keeps.refl X W).drew) (Later.refl _ _) ht
  clear h hM hfr c2 r9
  generalize l.length * 12 = o at *
  go_enter Tryz.func55, Tryz.ntmps55
  go_wp2_with fail
  refine K.mono ?_
  rintro e v ⟨rfl, rfl⟩
  clear K
  go_wp2_with fail
  refine HK.out.mono ?_
  rintro e v ⟨rfl, hv⟩
  have HV := Lib.hid (HF.out _ hv)
  clear hv HK HF
  go_wp2
  exact bodyPost_ret (v := .tuple #[]) (by simp [results, Tryz.results55, go_sem]) rfl ⟨rfl, HV.out⟩
/-- What resume leaves that goes on with the next node. -/
def Resumed (c : P.Cf) (B Fb T q i : Nat) (σ : Sg) (ls : Nat → Nat → List Value) (y : Int) (ys : List Int) (X : Nat → Prop) (W : World) (e : Ending) (W' : World) : Prop :=
  e = .returned (.tuple #[]) ∧ ∃ u, HMT c B Fb T q { σ with ts := upd σ.ts i { (σ.ts i).setV 9 u with fr := (σ.ts i).fr ++ [⟨2, 0, [y]⟩] } } (updLs ls i 9 (ints ys)) X W W'
theorem HM.push1 (h : HM c B Fb T q σ ls X W) (hi : i < c.th.toNat) (hl : (σ.ts i).fr.length ≤ 1000) (fn x : Int) (h0 : 0 ≤ x) (h1 : x < 18446744073709551616) : Calls Tryz.prog 28 #[.pointer (some ⟨T, i * 10, none⟩), .int .i64 fn, .slice (some ⟨W.heap.size, 0, none⟩) 1 1] (W.alloc (.cells #[.int .u64 x] 24)) fun e W' => e = .returned (.tuple #[]) ∧
    HMT c B Fb T q { σ with ts := upd σ.ts i { σ.ts i with fr := (σ.ts i).fr ++ [⟨fn, 0, [x]⟩] } } ls X W W' := by
  have hA : Below W.heap.size W (W.alloc (.cells #[.int .u64 x] 24)) := (Below.refl _ _).alloc (Nat.le_refl _) _
  refine ((h.below hA).lift (σ' := { σ with ts := upd σ.ts i { σ.ts i with fr := (σ.ts i).fr ++ [⟨fn, 0, [x]⟩] } }) (fun a ha => by
    simp only [upd]
    split
    · rename_i e; rw [e]
    · rfl) fun X0 m => m.push hi hl fn (row1 W x h0 h1) (by omega)).mono ?_
  rintro e W' ⟨rfl, ht⟩
  exact ⟨rfl, HMT.from (Keeps.of_below (O := X) hA) (Later.refl _ _) ht⟩
theorem drew_out (W : World) (p : Addr) (u : Value) (o : Obj) : (W.drew.setCell p u).alloc o = ((W.setCell p u).alloc o).drew := rfl
theorem drew_size (W : World) (p : Addr) (u : Value) : (W.drew.setCell p u).heap.size = W.heap.size := by
  rw [World.size_setCell]; rfl
set_option maxHeartbeats 2000000 in
theorem resume_next (h : HM c B Fb T q σ ls X W) (hi : i < c.th.toNat) (hq : q ≤ 8) (hfr : (σ.ts i).fr = l ++ [f]) (hl : l.length ≤ 100) (hf : f.fn = 6) (hp : f.pc = -1) {y : Int} {ys : List Int} (h9 : ls i 9 = ints (y :: ys)) (hy : ys.length ≤ 1000) (y0 : 0 ≤ y) (y1 : y < 9223372036854775808) :
    Calls Tryz.prog 55 #[.pointer (some ⟨T, i * 10, none⟩)] W (Resumed c B Fb T q i σ ls y ys X W) := by
  obtain ⟨gg, cp, hM, K⟩ := h.mid hi hfr (by omega)
  obtain ⟨c1, c2, c3⟩ := hM.cells
  obtain ⟨c9, f9, r9, lT⟩ := hM.list hi (j := 9) (by omega) (by omega) (by omega)
  obtain ⟨cs, hT, -⟩ := h.drew.blkT
  rw [h9, S.ints_len, List.length_cons] at r9
  change R.Row _ 3 _ _ _ at r9
  rw [hf] at c3
  rw [hp] at c1
  generalize hv9 : (σ.ts i).v 9 = v9 at *
  have hw : IntKind.u64.wrap y = y := IntWalk.u64_in _ (by omega)
  obtain ⟨g9, off, cap, rfl, hc9, hm9, cell9, fr9⟩ := r9.at_ (by omega)
  have hm2 : cap ≤ 9223372036854775807 := by unfold maxLen at hm9; omega
  have x0 : W.drew.cell? ⟨g9, off, none⟩ = some (.int .i64 y) := by
    have := cell9 0 (by omega); simpa using this
  have hgT : g9 ≠ T := by
    obtain ⟨cur, hb⟩ := rrow_blk r9 (k := g9) rfl
    exact Blk.ne hb hT (by decide)
  have fin : ∀ (u : Value), R.Row W.drew 3 u ys.length (ints ys) → (∀ k, u.ownBlock = some k → k = g9) → Hid (Calls Tryz.prog 28 #[.pointer (some ⟨T, i * 10, none⟩), .int .i64 2, .slice (some ⟨(W.drew.setCell ⟨T, i * 10 + 9, none⟩ u).heap.size, 0, none⟩) 1 1] ((W.drew.setCell ⟨T, i * 10 + 9, none⟩ u).alloc (.cells #[.int .u64 y] 24)) fun e W' => Resumed c B Fb T q i σ ls y ys X W e W') := fun u hu ho => Lib.hid (by
    have hT' := hT.set (i * 10 + 9) u
    have k1 : Keeps (fun k => k = T ∨ ((σ.ts i).v 9).ownBlock = some k) W.drew (W.drew.setCell ⟨T, i * 10 + 9, none⟩ u) := (Keeps.refl _ _).setCell (p := ⟨T, i * 10 + 9, none⟩) (.inl (.inl rfl)) _
    have hput := h.drew.put hi (j := 9) (by omega) (by omega) (by omega) (W' := W.drew.setCell ⟨T, i * 10 + 9, none⟩ u) (u := u) k1 (fun cs' h' => by
      obtain rfl : cs' = cs := by
        have := (show W.drew.heap[T]? = _ from h').symm.trans hT
        simpa using this
      exact hT') (xs := ints ys) (by rw [S.ints_len]; exact hu.setCell (fun e => hgT (ho _ e).symm) _) fun k e => .inl (by rw [hv9, ho k e]; rfl)
    obtain ⟨X1, k2, l2, m2⟩ := hput
    have hfr2 : ((upd σ.ts i ((σ.ts i).setV 9 u)) i).fr = (σ.ts i).fr := by rw [upd_same]; rfl
    refine (m2.push1 hi (by dsimp only; rw [hfr2, hfr]; simp; omega) 2 y y0 (by omega)).mono ?_
    rintro e W' ⟨rfl, ht⟩
    refine ⟨rfl, u, ?_⟩
    have := HMT.from (((Keeps.refl X W).drew).trans k2 fun k h => .inl h) ((Later.refl X W).trans (Nat.le_refl _) l2) ht
    simp only [upd_same, upd_upd] at this
    exact this)
  have HF := Lib.hid fin
  have R9 := Lib.hid r9
  clear fin r9 hM hfr c2 h cell9 fr9 hT
  generalize l.length * 12 = o at *
  by_cases hcap : cap = 1
  · subst hcap
    obtain rfl : ys = [] := List.eq_nil_of_length_eq_zero (by omega)
    have HG := HF.out (.slice (some ⟨g9, off, none⟩) 0 0) R9.out.none_ (fun k e => by simpa [Value.ownBlock] using e.symm)
    rw [drew_out, drew_size] at HG
    clear HF R9
    go_enter Tryz.func55, Tryz.ntmps55
    go_wp2_with fail
    refine K.mono ?_
    rintro e v ⟨rfl, rfl⟩
    clear K
    go_wp2_with fail
    refine HG.out.mono ?_
    rintro e v hv
    obtain ⟨rfl, hv⟩ := hv
    have HV := Lib.hid hv
    clear hv HG
    go_wp2
    go_end0
    exact ⟨rfl, HV.out⟩
  · have h2 : 1 < cap := by omega
    have HG := HF.out (.slice (some ⟨g9, off + 1, none⟩) ys.length (cap - 1)) (by simpa using R9.out.tail) (fun k e => by simpa [Value.ownBlock] using e.symm)
    rw [drew_out, drew_size] at HG
    clear HF R9
    go_enter Tryz.func55, Tryz.ntmps55
    go_wp2_with fail
    refine K.mono ?_
    rintro e v ⟨rfl, rfl⟩
    clear K
    go_wp2_with fail
    refine HG.out.mono ?_
    rintro e v hv
    obtain ⟨rfl, hv⟩ := hv
    have HV := Lib.hid hv
    clear hv HG
    go_wp2
    go_end0
    exact ⟨rfl, HV.out⟩
end Go.Proofs.YtemikojaldoofaaGreat
namespace Go.Proofs.YtemikojaldoofaaGreat
open Go.ChangeShapes Go.WideShapes Go.ChangeAt Go.RowKit
set_option linter.unusedVariables false
set_option maxRecDepth 20000
open S (ints)
variable {c : P.Cf} {B Fb T q : Nat} {X : Nat → Prop} {W W' V V' : World} {g t : Nat} {ws : List Int} {st : Int} {G : G.GS} {ts : Nat → Th} {i gg o cp : Nat} {l : List Fr} {f : Fr} {σ σ' : Sg} {ls : Nat → Nat → List Value}
/-- What a bit leaves: a machine of which R holds. -/
def HPost (c : P.Cf) (B Fb T q : Nat) (R : Sg → (Nat → Nat → List Value) → Prop) (X : Nat → Prop) (W : World) (e : Ending) (W' : World) : Prop :=
  e = .returned (.tuple #[]) ∧ ∃ σ ls, HMT c B Fb T q σ ls X W W' ∧ R σ ls
theorem field_th (c : P.Cf) (w : World) : (Instr.field 23 c.v 1).run Tryz.prog w = .ok (.int .i64 c.th) w := by kernel_rfl
theorem field_sc (c : P.Cf) (w : World) : (Instr.field 23 c.v 6).run Tryz.prog w = .ok (.int .i64 c.sc) w := by kernel_rfl
theorem MidH.load (hc : c.Ok) (h : MidH c B Fb T q i gg o cp l f (AS g t ws st G ts) ls X W V) (hl : ws.length = c.size.toNat) (hs : 0 ≤ st ∧ st ≤ 1000000) {a : Int} (a0 : 0 ≤ a) (a1 : a < c.o3) :
    Calls Tryz.prog 69 #[at0 B, .int .i64 a] V fun e V2 => e = .returned (.int .u64 (wordAt ws a.toNat)) ∧ MidH c B Fb T q i gg o cp l f (AS g t ws (st + 1) G ts) ls X W V2 :=
  h.calls fun X' m => aload hc m hl hs a0 a1
theorem slot_in (hc : c.Ok) {k : Int} (k0 : 0 ≤ k) (k1 : k < c.th * c.slots) : 0 ≤ k / c.slots ∧ k / c.slots < c.th ∧ 0 ≤ k % c.slots ∧ k % c.slots < c.slots := by
  have hs := hc.slots
  have h1 := Int.emod_nonneg k (show c.slots ≠ 0 by omega)
  have h2 := Int.emod_lt_of_pos k (show 0 < c.slots by omega)
  exact ⟨Int.ediv_nonneg k0 (by omega), Int.ediv_lt_of_lt_mul (by omega) k1, h1, h2⟩
theorem all_in (hc : c.Ok) : 2 ≤ c.th * c.slots ∧ c.th * c.slots ≤ 84 := by
  have hs := hc.slots
  have ht := hc.th
  have := P.mul_in (a := c.th) (b := c.slots) (A := 6) (B := 14) (by omega) (by omega) (by omega) (by omega)
  refine ⟨?_, by omega⟩
  have h2 : 1 * c.slots ≤ c.th * c.slots := Int.mul_le_mul_of_nonneg_right (by omega) (by omega)
  omega
/-- Found grows by one number. -/
theorem MidH.grow (h : MidH c B Fb T q i gg o cp l f σ ls X W V) (hi : i < c.th.toNat) (hq : q ≤ 9) {xs : List Int} {v' : Value} {w1 : World} {tmp : Obj} {n : Nat} (hn : n = xs.length + 1) {x : Int} (hr : R.Row w1 3 v' n (ints xs ++ [.int .i64 x])) (hg : (V.alloc tmp).grownBy w1 ((σ.ts i).v 9).ownBlock)
    (hl : v'.ownBlock = ((σ.ts i).v 9).ownBlock ∨ ∀ k, v'.ownBlock = some k → (V.alloc tmp).heap.size ≤ k) (hnT : ((σ.ts i).v 9).ownBlock ≠ some T) :
    MidH c B Fb T q i gg o cp l f { σ with ts := upd σ.ts i ((σ.ts i).setV 9 v') } (updLs ls i 9 (ints (xs ++ [x]))) X W (w1.setCell ⟨T, i * 10 + 9, none⟩ v') := by
  obtain ⟨cs, hT⟩ := h.2.1.tb
  have hT1 : Blk w1 T 48 cs := (hT.alloc tmp).agree (hg.block T (by have := hT.lt; simp; omega) (Ne.symm hnT))
  have hn2 : n = (ints (xs ++ [x])).length := by rw [S.ints_len]; simp; omega
  have hnv : v'.ownBlock ≠ some T := fun e => by
    obtain ⟨cur, hb⟩ := rrow_blk hr e
    exact Blk.ne hb hT1 (by decide) rfl
  have hT2 := hT1.set (i * 10 + 9) v'
  refine h.put hi (j := 9) hq (by omega) (by omega) (Keeps.setT (((Keeps.refl _ V).alloc tmp).grown hg fun k e => .inl e)) (fun cs' h' => ?_) ?_ fun k e => ?_
  · obtain rfl : cs' = cs := by
      have := (show V.heap[T]? = _ from h').symm.trans hT
      simpa using this
    exact hT2
  · rw [← hn2]
    have := hr.setCell (p := ⟨T, i * 10 + 9, none⟩) hnv v'
    rw [show ints xs ++ [.int .i64 x] = ints (xs ++ [x]) by simp [ints]] at this
    exact this
  · rcases hl with hl | hl
    · rw [hl] at e; exact .inl e
    · have := hl k e; simp at this; exact .inr (by omega)
theorem Lsts.notT (h : MidH c B Fb T q i gg o cp l f σ ls X W V) (hi : i < c.th.toNat) (hq : q ≤ 9) : ((σ.ts i).v 9).ownBlock ≠ some T := fun e => by
  obtain ⟨cs, hT⟩ := h.2.1.tb
  obtain ⟨cur, hb⟩ := rrow_blk (h.list hi (j := 9) hq (by omega) (by omega)).2.2.1 e
  exact Blk.ne hb hT (by decide) rfl
set_option maxHeartbeats 4000000 in
theorem scan_zero_more (hc : c.Ok) (h : MidH c B Fb T q i gg o cp l f (AS g t ws st G ts) ls X W V) (hi : i < c.th.toNat) (ho : l.length * 12 = o) (hq : q ≤ 8) (hl : ws.length = c.size.toNat) (hs : 0 ≤ st ∧ st ≤ 1000000)
    {k : Int} (hp : f.pc = k) (k0 : k = 0) (k1 : k + 1 < c.th * c.slots) {rt fnd : List Int} (h8 : ls i 8 = ints rt) (h9 : ls i 9 = ints fnd) (hfn : fnd.length ≤ 1000)
    {x : Int} (hx : wordAt ws (c.hazard (k / c.slots) (k % c.slots)).toNat = x) (x0 : 0 ≤ x) (x1 : x < 9223372036854775808) :
    Calls Tryz.prog 53 #[at0 B, .pointer (some ⟨T, i * 10, none⟩), .pointer (some ⟨gg, o, none⟩)] V (HPost c B Fb T q (fun σ' ls' => ls' = lsW ls i rt [x] ∧ ∃ th f', σ' = AS g t ws (st + 1) G (upd ts i th) ∧ th.fr = l ++ [f'] ∧ f'.fn = f.fn ∧ f'.pc = k + 1 ∧ th.v 0 = (ts i).v 0) X W) := by
  have hsl := hc.slots
  have hal := all_in hc
  have hsi := slot_in hc (k := k) (by omega) (by omega)
  have ll := haz_low hc hsi.1 hsi.2.1 hsi.2.2.1 hsi.2.2.2
  have hkq : k.tdiv c.slots = k / c.slots := P.tdiv_of (by omega)
  have hkr : k.tmod c.slots = k % c.slots := P.tmod_of (by omega)
  have hkl := P.div_in (x := k) (k := c.slots) (by omega) (by omega)
  have wq : IntKind.i64.wrap (k / c.slots) = k / c.slots := IntWalk.i64_in _ (by omega)
  have wr : IntKind.i64.wrap (k % c.slots) = k % c.slots := IntWalk.i64_in _ (by omega)
  have wx : IntKind.i64.wrap x = x := IntWalk.i64_in _ (by omega)
  have wk : IntKind.i64.wrap (k + 1) = k + 1 := IntWalk.i64_in _ (by omega)
  have wa : IntKind.i64.wrap (c.th * c.slots) = c.th * c.slots := IntWalk.i64_in _ (by omega)
  have nsl : (c.slots == 0) = false := beq_eq_false_iff_ne.2 (by omega)
  have nsl2 : ¬ c.slots = 0 := by omega
  have nk : (k == -1) = false := beq_eq_false_iff_ne.2 (by omega)
  have lk : decide (k ≤ 0) = true := by simp; omega
  have la : decide (k < c.th * c.slots) = true := by simp; omega
  have la2 : decide (k + 1 < c.th * c.slots) = true := by simp; omega
  obtain ⟨c1, c2, c3⟩ := h.cells
  obtain ⟨c9, f9, r9, lT⟩ := h.list hi (j := 9) (by omega) (by omega) (by omega)
  rw [hp] at c1
  have lg := h.2.1.lt
  have fz := h.2.1.fz
  have hth := field_th c
  have HP : Hid (∀ (f : Fr) σ ls V', MidH c B Fb T q i gg o cp l f σ ls X W V' → Calls Tryz.prog 10 #[at0 B] V' fun e V2 => e = .returned c.v ∧ Below V'.heap.size V' V2) := Lib.hid fun f σ ls V' h' => h'.plan
  have HS : Hid (∀ V', Calls Tryz.prog 11 #[c.v] V' fun e V2 => e = .returned (.int .i64 c.slots) ∧ Below V'.heap.size V' V2) := Lib.hid fun V' => P.slots_ok c V' hc
  have HC : Hid (∀ V', Calls Tryz.prog 63 #[c.v] V' fun e V2 => e = .returned c.v ∧ Below V'.heap.size V' V2) := Lib.hid fun V' => P.conf_any c V'
  have HZ : Hid (∀ V', Calls Tryz.prog 14 #[c.v, .int .i64 (k / c.slots), .int .i64 (k % c.slots)] V' fun e V2 => e = .returned (.int .i64 (c.hazard (k / c.slots) (k % c.slots))) ∧ Below V'.heap.size V' V2) := Lib.hid fun V' => hazard_ok c _ _ V' hc (by unfold P.I64; omega) (by unfold P.I64; omega)
  have hE := h.setC hi ho 1 (by omega) 0
  have hnT0 := Lsts.notT hE hi (by omega)
  obtain ⟨cs0, hT0⟩ := hE.2.1.tb
  have hT01 := hT0.set (i * 10 + 9) (.slice none 0 0)
  have hE2 := hE.put hi (j := 9) (by omega) (by omega) (by omega) (Keeps.setT (u := .slice none 0 0) (o := i * 10 + 9) (T := T) (Keeps.refl _ _)) (fun cs' h' => by
    obtain rfl : cs' = cs0 := by
      have := (show (V.setCell ⟨gg, o + 1, none⟩ (cellV 1 0)).heap[T]? = _ from h').symm.trans hT0
      simpa using this
    exact hT01) (xs := []) (R.Row.nil _ _) (fun k e => by cases e)
  simp only [upd_same, upd_upd] at hE2
  change MidH c B Fb T q i gg o cp l _ (AS g t ws st G _) _ X W _ at hE2
  have hcell : (V.setCell ⟨gg, o + 1, none⟩ (.int .i64 0)).cell? ⟨T, i * 10 + 9, none⟩ = some ((ts i).v 9) := (hE.list hi (j := 9) (by omega) (by omega) (by omega)).1.trans (by simp only [upd_same])
  have hfz : (V.setCell ⟨gg, o + 1, none⟩ (.int .i64 0)).frozen? ⟨T, i * 10 + 9, none⟩ = false := (hE.list hi (j := 9) (by omega) (by omega) (by omega)).2.1
  obtain ⟨f0, hf0⟩ : ∃ f0, f.setC 1 0 = f0 := ⟨_, rfl⟩
  have e1 : f0.fn = f.fn := by rw [← hf0]; rfl
  have e2 : f0.pc = k := by rw [← hf0, k0]; rfl
  rw [hf0] at hE2
  obtain ⟨th0, hth0⟩ : ∃ th0, Th.setV { ts i with fr := l ++ [f0] } 9 (.slice none 0 0) = th0 := ⟨_, rfl⟩
  have e3 : th0.v 0 = (ts i).v 0 := by rw [← hth0]; rfl
  rw [hth0] at hE2
  obtain ⟨ts0, hts0⟩ : ∃ ts0, upd ts i th0 = ts0 := ⟨_, rfl⟩
  have HU : Hid (∀ th, upd ts0 i th = upd ts i th) := Lib.hid fun th => by rw [← hts0, upd_upd]
  have HV0 : Hid ((ts0 i).v 0 = (ts i).v 0) := Lib.hid (by rw [← hts0, upd_same, e3])
  rw [hts0] at hE2
  have q9 : (updLs ls i 9 []) i 9 = ints [] := updLs_at _ _ _ _
  have q8 : (updLs ls i 9 []) i 8 = ints rt := by rw [updLs_ne _ _ _ _ (by omega)]; exact h8
  have HLS : Hid (∀ rt fn, lsW (updLs ls i 9 []) i rt fn = lsW ls i rt fn) := Lib.hid fun r n => by
    rw [show updLs ls i 9 [] = lsW ls i rt [] from lsW_9put h8 [], lsW_lsW]
  obtain ⟨ls0, hls0⟩ : ∃ ls0, updLs ls i 9 [] = ls0 := ⟨_, rfl⟩
  rw [hls0] at hE2 q9 q8 HLS
  have HE1 := Lib.hid e1
  have HM0 := Lib.hid hE2
  change Hid (MidH c B Fb T q i gg o cp l f0 (AS g t ws st G ts0) ls0 X W ((V.setCell ⟨gg, o + 1, none⟩ (.int .i64 0)).setCell ⟨T, i * 10 + 9, none⟩ (.slice none 0 0))) at HM0
  clear hE hE2 hT0 hT01 hls0 hts0 hth0 e3 hf0 h r9 c2 c3 hsi hnT0 h8 h9 hfn
  subst k0
  have HB8 := Lib.hid q8
  have HB9 := Lib.hid q9
  have HPC := Lib.hid e2
  have HLD : Hid (∀ V', MidH c B Fb T q i gg o cp l f0 (AS g t ws st G ts0) ls0 X W V' → Calls Tryz.prog 69 #[at0 B, .int .i64 (c.hazard (0 / c.slots) (0 % c.slots))] V' fun e V2 => e = .returned (.int .u64 x) ∧ MidH c B Fb T q i gg o cp l f0 (AS g t ws (st + 1) G ts0) ls0 X W V2) := Lib.hid fun V' h' => by
    have := h'.load hc hl hs ll.1 ll.2
    rw [hx] at this
    exact this
  have HSS : Hid (∀ (σ : Sg) (ls : Nat → Nat → List Value) (V' : World), MidH c B Fb T q i gg o cp l f0 σ ls X W V' → V'.cell? ⟨gg, o + 1, none⟩ = some (.int .i64 0)) := Lib.hid fun σ ls V' h' => by
    have := h'.2.1.pc
    rw [HPC.out] at this
    exact this
  clear hl hs hx ll q8 q9 hkl hal
  generalize hA : c.th * c.slots = al at *
  generalize c.hazard (0 / c.slots) (0 % c.slots) = ad at *
  generalize 0 / c.slots = kq at *
  generalize 0 % c.slots = kr at *
  have HHA := Lib.hid hA
  go_enter Tryz.func53, Tryz.ntmps53
  go_wp2_with fail
  refine (HP.out _ _ _ _ HM0.out).mono ?_
  rintro e V1 ⟨rfl, hb⟩
  have HM1 := Lib.hid (HM0.out.below hb)
  clear hb HM0
  go_wp2_with fail
  refine (HS.out _).mono ?_
  rintro e V2 ⟨rfl, hb⟩
  have HM2 := Lib.hid (HM1.out.below hb)
  clear hb HM1
  go_wp2_with fail
  refine (HP.out _ _ _ _ HM2.out).mono ?_
  rintro e V3 ⟨rfl, hb⟩
  have HM3 := Lib.hid (HM2.out.below hb)
  clear hb HM2
  go_wp2_with fail
  refine (HC.out _).mono ?_
  rintro e V4 ⟨rfl, hb⟩
  have HM4 := Lib.hid (HM3.out.below hb)
  clear hb HM3
  have y1 := HSS.out _ _ _ HM4.out
  go_wp2_with fail
  have hM := HM4.out.drew
  go_region_held3 (fun V' => V'.cell? ⟨gg, o + 1, none⟩ = some (.int .i64 0))
    (first | exact HSS.out _ _ _ (by assumption) | go_keep)
    (first | (go_at_call 10; refine (HP.out _ _ _ _ hM).mono ?_; rintro e V5 ⟨rfl, hb5⟩; have hM5 := MidH.below hM hb5; clear hb5) | (go_at_call 14; refine (HZ.out _).mono ?_; rintro e V6 ⟨rfl, hb6⟩; have hM6 := MidH.below hM5 hb6; clear hb6) | (go_at_call 69; refine (HLD.out _ hM6).mono ?_; rintro e V7 ⟨rfl, hM7⟩))
  all_goals
    obtain ⟨cs1, hT1⟩ := hM7.2.1.tb
    have hnT := Lsts.notT hM7 hi (by omega)
    obtain ⟨z9, zf9, zr9, lT9⟩ := hM7.list hi (j := 9) (by omega) (by omega) (by omega)
    rw [HB9.out, S.ints_len] at zr9
    change R.Row _ 3 _ _ _ at zr9
    have zpc := HSS.out _ _ _ hM7
    have lg7 := hM7.2.1.lt
    obtain ⟨cur7, hb7⟩ := hM7.2.1.bl
    have hgT : gg ≠ T := Blk.ne hb7 hT1 (by decide)
    have hTg : T ≠ gg := Ne.symm hgT
    obtain ⟨i0, hi0, hz0, hz1, hz2⟩ := info_parts S.Try.info3
    have HM7 := Lib.hid hM7
    clear hM7 hM6 hM5 hM HM4 HZ HLD HP HC HS y1
    dsimp only at zr9 z9 hnT
    generalize hv : (ts0 i).v 9 = v9 at *
    obtain ⟨a9, cap9, rfl, hc9, hm9⟩ := zr9.form
    unfold maxLen at hm9
    go_wp2_with (at_builtin; refine R.wpList_append_row _ rfl _ _ 44 rfl 3 i0 (.int .i64 0) 8 Tryz.underlying44 hi0 hz0 hz1 hz2 rfl (by decide) _ _ (ints ([] : List Int)) rfl (zr9.alloc _) ⟨_, 0, none⟩ 1 (.int .i64 x) rfl (by simp) (by simp [Value.oneCell']) (by first | omega | (simp; done)) ?_; intro v' w1 hr' hg hlat; obtain ⟨a', cap', rfl, hc', hm'⟩ := hr'.form; have hT2 : Blk w1 T 48 cs1 := (hT1.alloc _).agree (hg.block T (by simp; omega) (Ne.symm hnT)); have d9 : w1.cell? ⟨T, i * 10 + 9, none⟩ = some (.slice a9 _ cap9) := (hT2.cell _).trans ((hT1.cell _).symm.trans z9); have g9 := hT2.frozen (i * 10 + 9); have l9 := hT2.lt; have hb8 : Blk w1 gg 103 cur7 := (hb7.alloc _).agree (hg.block gg (by simp; omega) (fun e => by obtain ⟨cur, hb⟩ := rrow_blk zr9 e.symm; exact Blk.ne hb hb7 (by decide) rfl)); have d1 : w1.cell? ⟨gg, o + 1, none⟩ = some (.int .i64 0) := (hb8.cell _).trans ((hb7.cell _).symm.trans zpc); have g1 := hb8.frozen (o + 1); have l1 := hb8.lt; have HG := Lib.hid (And.intro hr' (And.intro hg hlat)); clear hr' hg hlat hT2 hb8)
    obtain ⟨hr1, hg1, hl1⟩ := HG.out
    have m2 := MidH.grow HM7.out hi (by omega) (xs := ([] : List Int)) rfl hr1 (by dsimp only; rw [hv]; exact hg1) (by dsimp only; rw [hv]; exact hl1) (by dsimp only; rw [hv]; exact hnT)
    have m3 := m2.setC hi ho 1 (by omega) (0 + 1)
    simp only [upd_upd, upd_same, HU.out] at m3
    refine bodyPost_ret (v := .tuple #[]) (by simp [results, Tryz.results53, go_sem]) rfl ⟨rfl, _, _, m3.1, ?_, _, _, rfl, rfl, HE1.out, rfl, HV0.out⟩
    rw [lsW_9put HB8.out, HLS.out]
    rfl
set_option maxHeartbeats 4000000 in
theorem scan_zero_last (hc : c.Ok) (h : MidH c B Fb T q i gg o cp l f (AS g t ws st G ts) ls X W V) (hi : i < c.th.toNat) (ho : l.length * 12 = o) (hq : q ≤ 8) (hl : ws.length = c.size.toNat) (hs : 0 ≤ st ∧ st ≤ 1000000)
    {k : Int} (hp : f.pc = k) (k0 : k = 0) (k1 : k + 1 = c.th * c.slots) {rt fnd : List Int} (h8 : ls i 8 = ints rt) (h9 : ls i 9 = ints fnd) (hfn : fnd.length ≤ 1000)
    {x : Int} (hx : wordAt ws (c.hazard (k / c.slots) (k % c.slots)).toNat = x) (x0 : 0 ≤ x) (x1 : x < 9223372036854775808)
    (hrt : rt.length ≤ 1000) (hR : ∀ y ∈ rt, S.InR y) {RR : Sg → (Nat → Nat → List Value) → Prop}
    (hK : ∀ (th : Th) (f' : Fr) X' V', th.fr = l ++ [f'] → f'.fn = f.fn → f'.pc = -1 → th.v 0 = (ts i).v 0 → HM c B Fb T q (AS g t ws (st + 1) G (upd ts i th)) (lsW ls i (rt.filter fun y => decide (y ∈ [x])) (rt.filter fun y => !decide (y ∈ [x]))) X' V' → Calls Tryz.prog 55 #[.pointer (some ⟨T, i * 10, none⟩)] V' (HPost c B Fb T q RR X' V')) :
    Calls Tryz.prog 53 #[at0 B, .pointer (some ⟨T, i * 10, none⟩), .pointer (some ⟨gg, o, none⟩)] V (HPost c B Fb T q RR X W) := by
  have hsl := hc.slots
  have hal := all_in hc
  have hsi := slot_in hc (k := k) (by omega) (by omega)
  have ll := haz_low hc hsi.1 hsi.2.1 hsi.2.2.1 hsi.2.2.2
  have hkq : k.tdiv c.slots = k / c.slots := P.tdiv_of (by omega)
  have hkr : k.tmod c.slots = k % c.slots := P.tmod_of (by omega)
  have hkl := P.div_in (x := k) (k := c.slots) (by omega) (by omega)
  have wq : IntKind.i64.wrap (k / c.slots) = k / c.slots := IntWalk.i64_in _ (by omega)
  have wr : IntKind.i64.wrap (k % c.slots) = k % c.slots := IntWalk.i64_in _ (by omega)
  have wx : IntKind.i64.wrap x = x := IntWalk.i64_in _ (by omega)
  have wk : IntKind.i64.wrap (k + 1) = k + 1 := IntWalk.i64_in _ (by omega)
  have wa : IntKind.i64.wrap (c.th * c.slots) = c.th * c.slots := IntWalk.i64_in _ (by omega)
  have nsl : (c.slots == 0) = false := beq_eq_false_iff_ne.2 (by omega)
  have nsl2 : ¬ c.slots = 0 := by omega
  have nk : (k == -1) = false := beq_eq_false_iff_ne.2 (by omega)
  have lk : decide (k ≤ 0) = true := by simp; omega
  have la : decide (k < c.th * c.slots) = true := by simp; omega
  have la2 : decide (k + 1 < c.th * c.slots) = false := by simp; omega
  obtain ⟨c1, c2, c3⟩ := h.cells
  obtain ⟨c9, f9, r9, lT⟩ := h.list hi (j := 9) (by omega) (by omega) (by omega)
  rw [hp] at c1
  have lg := h.2.1.lt
  have fz := h.2.1.fz
  have hth := field_th c
  have HKK := Lib.hid hK
  clear hK
  have HP : Hid (∀ (f : Fr) σ ls V', MidH c B Fb T q i gg o cp l f σ ls X W V' → Calls Tryz.prog 10 #[at0 B] V' fun e V2 => e = .returned c.v ∧ Below V'.heap.size V' V2) := Lib.hid fun f σ ls V' h' => h'.plan
  have HS : Hid (∀ V', Calls Tryz.prog 11 #[c.v] V' fun e V2 => e = .returned (.int .i64 c.slots) ∧ Below V'.heap.size V' V2) := Lib.hid fun V' => P.slots_ok c V' hc
  have HC : Hid (∀ V', Calls Tryz.prog 63 #[c.v] V' fun e V2 => e = .returned c.v ∧ Below V'.heap.size V' V2) := Lib.hid fun V' => P.conf_any c V'
  have HZ : Hid (∀ V', Calls Tryz.prog 14 #[c.v, .int .i64 (k / c.slots), .int .i64 (k % c.slots)] V' fun e V2 => e = .returned (.int .i64 (c.hazard (k / c.slots) (k % c.slots))) ∧ Below V'.heap.size V' V2) := Lib.hid fun V' => hazard_ok c _ _ V' hc (by unfold P.I64; omega) (by unfold P.I64; omega)
  have hE := h.setC hi ho 1 (by omega) 0
  have hnT0 := Lsts.notT hE hi (by omega)
  obtain ⟨cs0, hT0⟩ := hE.2.1.tb
  have hT01 := hT0.set (i * 10 + 9) (.slice none 0 0)
  have hE2 := hE.put hi (j := 9) (by omega) (by omega) (by omega) (Keeps.setT (u := .slice none 0 0) (o := i * 10 + 9) (T := T) (Keeps.refl _ _)) (fun cs' h' => by
    obtain rfl : cs' = cs0 := by
      have := (show (V.setCell ⟨gg, o + 1, none⟩ (cellV 1 0)).heap[T]? = _ from h').symm.trans hT0
      simpa using this
    exact hT01) (xs := []) (R.Row.nil _ _) (fun k e => by cases e)
  simp only [upd_same, upd_upd] at hE2
  change MidH c B Fb T q i gg o cp l _ (AS g t ws st G _) _ X W _ at hE2
  have hcell : (V.setCell ⟨gg, o + 1, none⟩ (.int .i64 0)).cell? ⟨T, i * 10 + 9, none⟩ = some ((ts i).v 9) := (hE.list hi (j := 9) (by omega) (by omega) (by omega)).1.trans (by simp only [upd_same])
  have hfz : (V.setCell ⟨gg, o + 1, none⟩ (.int .i64 0)).frozen? ⟨T, i * 10 + 9, none⟩ = false := (hE.list hi (j := 9) (by omega) (by omega) (by omega)).2.1
  obtain ⟨f0, hf0⟩ : ∃ f0, f.setC 1 0 = f0 := ⟨_, rfl⟩
  have e1 : f0.fn = f.fn := by rw [← hf0]; rfl
  have e2 : f0.pc = k := by rw [← hf0, k0]; rfl
  rw [hf0] at hE2
  obtain ⟨th0, hth0⟩ : ∃ th0, Th.setV { ts i with fr := l ++ [f0] } 9 (.slice none 0 0) = th0 := ⟨_, rfl⟩
  have e3 : th0.v 0 = (ts i).v 0 := by rw [← hth0]; rfl
  rw [hth0] at hE2
  obtain ⟨ts0, hts0⟩ : ∃ ts0, upd ts i th0 = ts0 := ⟨_, rfl⟩
  have HU : Hid (∀ th, upd ts0 i th = upd ts i th) := Lib.hid fun th => by rw [← hts0, upd_upd]
  have HV0 : Hid ((ts0 i).v 0 = (ts i).v 0) := Lib.hid (by rw [← hts0, upd_same, e3])
  rw [hts0] at hE2
  have q9 : (updLs ls i 9 []) i 9 = ints [] := updLs_at _ _ _ _
  have q8 : (updLs ls i 9 []) i 8 = ints rt := by rw [updLs_ne _ _ _ _ (by omega)]; exact h8
  have HLS : Hid (∀ rt fn, lsW (updLs ls i 9 []) i rt fn = lsW ls i rt fn) := Lib.hid fun r n => by
    rw [show updLs ls i 9 [] = lsW ls i rt [] from lsW_9put h8 [], lsW_lsW]
  obtain ⟨ls0, hls0⟩ : ∃ ls0, updLs ls i 9 [] = ls0 := ⟨_, rfl⟩
  rw [hls0] at hE2 q9 q8 HLS
  have HE1 := Lib.hid e1
  have HM0 := Lib.hid hE2
  change Hid (MidH c B Fb T q i gg o cp l f0 (AS g t ws st G ts0) ls0 X W ((V.setCell ⟨gg, o + 1, none⟩ (.int .i64 0)).setCell ⟨T, i * 10 + 9, none⟩ (.slice none 0 0))) at HM0
  clear hE hE2 hT0 hT01 hls0 hts0 hth0 e3 hf0 h r9 c2 c3 hsi hnT0 h8 h9 hfn
  subst k0
  have HB8 := Lib.hid q8
  have HB9 := Lib.hid q9
  have HPC := Lib.hid e2
  have HLD : Hid (∀ V', MidH c B Fb T q i gg o cp l f0 (AS g t ws st G ts0) ls0 X W V' → Calls Tryz.prog 69 #[at0 B, .int .i64 (c.hazard (0 / c.slots) (0 % c.slots))] V' fun e V2 => e = .returned (.int .u64 x) ∧ MidH c B Fb T q i gg o cp l f0 (AS g t ws (st + 1) G ts0) ls0 X W V2) := Lib.hid fun V' h' => by
    have := h'.load hc hl hs ll.1 ll.2
    rw [hx] at this
    exact this
  have HSS : Hid (∀ (σ : Sg) (ls : Nat → Nat → List Value) (V' : World), MidH c B Fb T q i gg o cp l f0 σ ls X W V' → V'.cell? ⟨gg, o + 1, none⟩ = some (.int .i64 0)) := Lib.hid fun σ ls V' h' => by
    have := h'.2.1.pc
    rw [HPC.out] at this
    exact this
  clear hl hs hx ll q8 q9 hkl hal
  generalize hA : c.th * c.slots = al at *
  generalize c.hazard (0 / c.slots) (0 % c.slots) = ad at *
  generalize 0 / c.slots = kq at *
  generalize 0 % c.slots = kr at *
  have HHA := Lib.hid hA
  go_enter Tryz.func53, Tryz.ntmps53
  go_wp2_with fail
  refine (HP.out _ _ _ _ HM0.out).mono ?_
  rintro e V1 ⟨rfl, hb⟩
  have HM1 := Lib.hid (HM0.out.below hb)
  clear hb HM0
  go_wp2_with fail
  refine (HS.out _).mono ?_
  rintro e V2 ⟨rfl, hb⟩
  have HM2 := Lib.hid (HM1.out.below hb)
  clear hb HM1
  go_wp2_with fail
  refine (HP.out _ _ _ _ HM2.out).mono ?_
  rintro e V3 ⟨rfl, hb⟩
  have HM3 := Lib.hid (HM2.out.below hb)
  clear hb HM2
  go_wp2_with fail
  refine (HC.out _).mono ?_
  rintro e V4 ⟨rfl, hb⟩
  have HM4 := Lib.hid (HM3.out.below hb)
  clear hb HM3
  have y1 := HSS.out _ _ _ HM4.out
  go_wp2_with fail
  have hM := HM4.out.drew
  go_region_held3 (fun V' => V'.cell? ⟨gg, o + 1, none⟩ = some (.int .i64 0))
    (first | exact HSS.out _ _ _ (by assumption) | go_keep)
    (first | (go_at_call 10; refine (HP.out _ _ _ _ hM).mono ?_; rintro e V5 ⟨rfl, hb5⟩; have hM5 := MidH.below hM hb5; clear hb5) | (go_at_call 14; refine (HZ.out _).mono ?_; rintro e V6 ⟨rfl, hb6⟩; have hM6 := MidH.below hM5 hb6; clear hb6) | (go_at_call 69; refine (HLD.out _ hM6).mono ?_; rintro e V7 ⟨rfl, hM7⟩))
  all_goals
    obtain ⟨cs1, hT1⟩ := hM7.2.1.tb
    have hnT := Lsts.notT hM7 hi (by omega)
    obtain ⟨z9, zf9, zr9, lT9⟩ := hM7.list hi (j := 9) (by omega) (by omega) (by omega)
    rw [HB9.out, S.ints_len] at zr9
    change R.Row _ 3 _ _ _ at zr9
    have zpc := HSS.out _ _ _ hM7
    have lg7 := hM7.2.1.lt
    obtain ⟨cur7, hb7⟩ := hM7.2.1.bl
    have hgT : gg ≠ T := Blk.ne hb7 hT1 (by decide)
    have hTg : T ≠ gg := Ne.symm hgT
    obtain ⟨i0, hi0, hz0, hz1, hz2⟩ := info_parts S.Try.info3
    have HM7 := Lib.hid hM7
    clear hM7 hM6 hM5 hM HM4 HZ HLD HP HC HS y1
    dsimp only at zr9 z9 hnT
    generalize hv : (ts0 i).v 9 = v9 at *
    obtain ⟨a9, cap9, rfl, hc9, hm9⟩ := zr9.form
    unfold maxLen at hm9
    go_wp2_with (at_builtin; refine R.wpList_append_row _ rfl _ _ 44 rfl 3 i0 (.int .i64 0) 8 Tryz.underlying44 hi0 hz0 hz1 hz2 rfl (by decide) _ _ (ints ([] : List Int)) rfl (zr9.alloc _) ⟨_, 0, none⟩ 1 (.int .i64 x) rfl (by simp) (by simp [Value.oneCell']) (by first | omega | (simp; done)) ?_; intro v' w1 hr' hg hlat; obtain ⟨a', cap', rfl, hc', hm'⟩ := hr'.form; have hT2 : Blk w1 T 48 cs1 := (hT1.alloc _).agree (hg.block T (by simp; omega) (Ne.symm hnT)); have d9 : w1.cell? ⟨T, i * 10 + 9, none⟩ = some (.slice a9 _ cap9) := (hT2.cell _).trans ((hT1.cell _).symm.trans z9); have g9 := hT2.frozen (i * 10 + 9); have l9 := hT2.lt; have hb8 : Blk w1 gg 103 cur7 := (hb7.alloc _).agree (hg.block gg (by simp; omega) (fun e => by obtain ⟨cur, hb⟩ := rrow_blk zr9 e.symm; exact Blk.ne hb hb7 (by decide) rfl)); have d1 : w1.cell? ⟨gg, o + 1, none⟩ = some (.int .i64 0) := (hb8.cell _).trans ((hb7.cell _).symm.trans zpc); have g1 := hb8.frozen (o + 1); have l1 := hb8.lt; have HG := Lib.hid (And.intro hr' (And.intro hg hlat)); clear hr' hg hlat hT2 hb8)
    obtain ⟨hr1, hg1, hl1⟩ := HG.out
    have m2 := MidH.grow HM7.out hi (by omega) (xs := ([] : List Int)) rfl hr1 (by dsimp only; rw [hv]; exact hg1) (by dsimp only; rw [hv]; exact hl1) (by dsimp only; rw [hv]; exact hnT)
    have m3 := m2.setC hi ho 1 (by omega) (al)
    have m4 := m3.setC hi ho 1 (by omega) (-1)
    simp only [upd_upd, upd_same, HU.out] at m4
    obtain ⟨X6, k6, l6, h6⟩ := m4.1
    have e8 : (updLs ls0 i 9 (ints (([] : List Int) ++ [x]))) i 8 = ints rt := by rw [updLs_ne _ _ _ _ (by omega)]; exact HB8.out
    have K8 := sift_any h6 hi hq e8 (updLs_at _ _ _ _) hrt hR
    rw [lsW_9put HB8.out, HLS.out] at K8
    have HH6 := Lib.hid (And.intro k6 l6)
    clear m2 m3 m4 h6 k6 l6 hr1 hg1 hl1 HG
    refine K8.mono ?_
    rintro e V8 ⟨rfl, u8, u9, ht⟩
    rw [lsW_lsW] at ht
    obtain ⟨X8, k8, l8, h8'⟩ := HMT.from HH6.out.1 HH6.out.2 ht
    simp only [upd_upd, upd_same] at h8'
    have K9 : Calls Tryz.prog 55 #[.pointer (some ⟨T, i * 10, none⟩)] V8 (HPost c B Fb T q RR X8 V8) := by
      refine HKK.out _ ((f0.setC 1 al).setC 1 (-1)) X8 V8 ?_ ?_ ?_ ?_ h8'
      · rfl
      · exact HE1.out
      · rfl
      · exact HV0.out
    have HH8 := Lib.hid (And.intro k8 l8)
    clear K8 ht h8' k8 l8 HKK HH6
    go_wp2_with fail
    refine K9.mono ?_
    rintro e V9 ⟨rfl, σ9, ls9, ht9, hR9⟩
    have HV := Lib.hid (And.intro (HMT.from HH8.out.1 HH8.out.2 ht9) hR9)
    clear K9 ht9 hR9 HH8
    go_wp2
    go_end0
    exact ⟨rfl, σ9, ls9, HV.out.1, HV.out.2⟩
set_option maxHeartbeats 4000000 in
theorem scan_pos_more (hc : c.Ok) (h : MidH c B Fb T q i gg o cp l f (AS g t ws st G ts) ls X W V) (hi : i < c.th.toNat) (ho : l.length * 12 = o) (hq : q ≤ 8) (hl : ws.length = c.size.toNat) (hs : 0 ≤ st ∧ st ≤ 1000000)
    {k : Int} (hp : f.pc = k) (k0 : 0 < k) (k1 : k + 1 < c.th * c.slots) {rt fnd : List Int} (h8 : ls i 8 = ints rt) (h9 : ls i 9 = ints fnd) (hfn : fnd.length ≤ 1000)
    {x : Int} (hx : wordAt ws (c.hazard (k / c.slots) (k % c.slots)).toNat = x) (x0 : 0 ≤ x) (x1 : x < 9223372036854775808) :
    Calls Tryz.prog 53 #[at0 B, .pointer (some ⟨T, i * 10, none⟩), .pointer (some ⟨gg, o, none⟩)] V (HPost c B Fb T q (fun σ' ls' => ls' = lsW ls i rt (fnd ++ [x]) ∧ ∃ th f', σ' = AS g t ws (st + 1) G (upd ts i th) ∧ th.fr = l ++ [f'] ∧ f'.fn = f.fn ∧ f'.pc = k + 1 ∧ th.v 0 = (ts i).v 0) X W) := by
  have hsl := hc.slots
  have hal := all_in hc
  have hsi := slot_in hc (k := k) (by omega) (by omega)
  have ll := haz_low hc hsi.1 hsi.2.1 hsi.2.2.1 hsi.2.2.2
  have hkq : k.tdiv c.slots = k / c.slots := P.tdiv_of (by omega)
  have hkr : k.tmod c.slots = k % c.slots := P.tmod_of (by omega)
  have hkl := P.div_in (x := k) (k := c.slots) (by omega) (by omega)
  have wq : IntKind.i64.wrap (k / c.slots) = k / c.slots := IntWalk.i64_in _ (by omega)
  have wr : IntKind.i64.wrap (k % c.slots) = k % c.slots := IntWalk.i64_in _ (by omega)
  have wx : IntKind.i64.wrap x = x := IntWalk.i64_in _ (by omega)
  have wk : IntKind.i64.wrap (k + 1) = k + 1 := IntWalk.i64_in _ (by omega)
  have wa : IntKind.i64.wrap (c.th * c.slots) = c.th * c.slots := IntWalk.i64_in _ (by omega)
  have nsl : (c.slots == 0) = false := beq_eq_false_iff_ne.2 (by omega)
  have nsl2 : ¬ c.slots = 0 := by omega
  have nk : (k == -1) = false := beq_eq_false_iff_ne.2 (by omega)
  have lk : decide (k ≤ 0) = false := by simp; omega
  have la : decide (k < c.th * c.slots) = true := by simp; omega
  have la2 : decide (k + 1 < c.th * c.slots) = true := by simp; omega
  obtain ⟨c1, c2, c3⟩ := h.cells
  obtain ⟨c9, f9, r9, lT⟩ := h.list hi (j := 9) (by omega) (by omega) (by omega)
  rw [hp] at c1
  have lg := h.2.1.lt
  have fz := h.2.1.fz
  have hth := field_th c
  have HP : Hid (∀ (f : Fr) σ ls V', MidH c B Fb T q i gg o cp l f σ ls X W V' → Calls Tryz.prog 10 #[at0 B] V' fun e V2 => e = .returned c.v ∧ Below V'.heap.size V' V2) := Lib.hid fun f σ ls V' h' => h'.plan
  have HS : Hid (∀ V', Calls Tryz.prog 11 #[c.v] V' fun e V2 => e = .returned (.int .i64 c.slots) ∧ Below V'.heap.size V' V2) := Lib.hid fun V' => P.slots_ok c V' hc
  have HC : Hid (∀ V', Calls Tryz.prog 63 #[c.v] V' fun e V2 => e = .returned c.v ∧ Below V'.heap.size V' V2) := Lib.hid fun V' => P.conf_any c V'
  have HZ : Hid (∀ V', Calls Tryz.prog 14 #[c.v, .int .i64 (k / c.slots), .int .i64 (k % c.slots)] V' fun e V2 => e = .returned (.int .i64 (c.hazard (k / c.slots) (k % c.slots))) ∧ Below V'.heap.size V' V2) := Lib.hid fun V' => hazard_ok c _ _ V' hc (by unfold P.I64; omega) (by unfold P.I64; omega)
  have HU : Hid (∀ th, upd ts i th = upd ts i th) := Lib.hid fun th => rfl
  have HV0 : Hid ((ts i).v 0 = (ts i).v 0) := Lib.hid rfl
  have HLS : Hid (∀ rt fn, lsW ls i rt fn = lsW ls i rt fn) := Lib.hid fun r n => rfl
  have HE1 : Hid (f.fn = f.fn) := Lib.hid rfl
  have HM0 := Lib.hid h
  clear h r9 c2 c3 hsi c9 f9
  have HB8 := Lib.hid h8
  have HB9 := Lib.hid h9
  have HPC := Lib.hid hp
  have HLD : Hid (∀ V', MidH c B Fb T q i gg o cp l f (AS g t ws st G ts) ls X W V' → Calls Tryz.prog 69 #[at0 B, .int .i64 (c.hazard (k / c.slots) (k % c.slots))] V' fun e V2 => e = .returned (.int .u64 x) ∧ MidH c B Fb T q i gg o cp l f (AS g t ws (st + 1) G ts) ls X W V2) := Lib.hid fun V' h' => by
    have := h'.load hc hl hs ll.1 ll.2
    rw [hx] at this
    exact this
  have HSS : Hid (∀ (σ : Sg) (ls : Nat → Nat → List Value) (V' : World), MidH c B Fb T q i gg o cp l f σ ls X W V' → V'.cell? ⟨gg, o + 1, none⟩ = some (.int .i64 k)) := Lib.hid fun σ ls V' h' => by
    have := h'.2.1.pc
    rw [HPC.out] at this
    exact this
  clear hl hs hx ll h8 h9 hkl hal
  generalize hA : c.th * c.slots = al at *
  generalize c.hazard (k / c.slots) (k % c.slots) = ad at *
  generalize k / c.slots = kq at *
  generalize k % c.slots = kr at *
  have HHA := Lib.hid hA
  go_enter Tryz.func53, Tryz.ntmps53
  go_wp2_with fail
  refine (HP.out _ _ _ _ HM0.out).mono ?_
  rintro e V1 ⟨rfl, hb⟩
  have HM1 := Lib.hid (HM0.out.below hb)
  clear hb HM0
  go_wp2_with fail
  refine (HS.out _).mono ?_
  rintro e V2 ⟨rfl, hb⟩
  have HM2 := Lib.hid (HM1.out.below hb)
  clear hb HM1
  go_wp2_with fail
  refine (HP.out _ _ _ _ HM2.out).mono ?_
  rintro e V3 ⟨rfl, hb⟩
  have HM3 := Lib.hid (HM2.out.below hb)
  clear hb HM2
  go_wp2_with fail
  refine (HC.out _).mono ?_
  rintro e V4 ⟨rfl, hb⟩
  have HM4 := Lib.hid (HM3.out.below hb)
  clear hb HM3
  have y1 := HSS.out _ _ _ HM4.out
  go_wp2_with fail
  have hM := HM4.out.drew
  go_region_held3 (fun V' => V'.cell? ⟨gg, o + 1, none⟩ = some (.int .i64 k))
    (first | exact HSS.out _ _ _ (by assumption) | go_keep)
    (first | (go_at_call 10; refine (HP.out _ _ _ _ hM).mono ?_; rintro e V5 ⟨rfl, hb5⟩; have hM5 := MidH.below hM hb5; clear hb5) | (go_at_call 14; refine (HZ.out _).mono ?_; rintro e V6 ⟨rfl, hb6⟩; have hM6 := MidH.below hM5 hb6; clear hb6) | (go_at_call 69; refine (HLD.out _ hM6).mono ?_; rintro e V7 ⟨rfl, hM7⟩))
  all_goals
    obtain ⟨cs1, hT1⟩ := hM7.2.1.tb
    have hnT := Lsts.notT hM7 hi (by omega)
    obtain ⟨z9, zf9, zr9, lT9⟩ := hM7.list hi (j := 9) (by omega) (by omega) (by omega)
    rw [HB9.out, S.ints_len] at zr9
    change R.Row _ 3 _ _ _ at zr9
    have zpc := HSS.out _ _ _ hM7
    have lg7 := hM7.2.1.lt
    obtain ⟨cur7, hb7⟩ := hM7.2.1.bl
    have hgT : gg ≠ T := Blk.ne hb7 hT1 (by decide)
    have hTg : T ≠ gg := Ne.symm hgT
    obtain ⟨i0, hi0, hz0, hz1, hz2⟩ := info_parts S.Try.info3
    have HM7 := Lib.hid hM7
    clear hM7 hM6 hM5 hM HM4 HZ HLD HP HC HS y1
    dsimp only at zr9 z9 hnT
    generalize hv : (ts i).v 9 = v9 at *
    obtain ⟨a9, cap9, rfl, hc9, hm9⟩ := zr9.form
    unfold maxLen at hm9
    go_wp2_with (at_builtin; refine R.wpList_append_row _ rfl _ _ 44 rfl 3 i0 (.int .i64 0) 8 Tryz.underlying44 hi0 hz0 hz1 hz2 rfl (by decide) _ _ (ints fnd) rfl (zr9.alloc _) ⟨_, 0, none⟩ 1 (.int .i64 x) rfl (by simp) (by simp [Value.oneCell']) (by first | omega | (simp; done)) ?_; intro v' w1 hr' hg hlat; obtain ⟨a', cap', rfl, hc', hm'⟩ := hr'.form; have hT2 : Blk w1 T 48 cs1 := (hT1.alloc _).agree (hg.block T (by simp; omega) (Ne.symm hnT)); have d9 : w1.cell? ⟨T, i * 10 + 9, none⟩ = some (.slice a9 _ cap9) := (hT2.cell _).trans ((hT1.cell _).symm.trans z9); have g9 := hT2.frozen (i * 10 + 9); have l9 := hT2.lt; have hb8 : Blk w1 gg 103 cur7 := (hb7.alloc _).agree (hg.block gg (by simp; omega) (fun e => by obtain ⟨cur, hb⟩ := rrow_blk zr9 e.symm; exact Blk.ne hb hb7 (by decide) rfl)); have d1 : w1.cell? ⟨gg, o + 1, none⟩ = some (.int .i64 k) := (hb8.cell _).trans ((hb7.cell _).symm.trans zpc); have g1 := hb8.frozen (o + 1); have l1 := hb8.lt; have HG := Lib.hid (And.intro hr' (And.intro hg hlat)); clear hr' hg hlat hT2 hb8)
    obtain ⟨hr1, hg1, hl1⟩ := HG.out
    have m2 := MidH.grow HM7.out hi (by omega) (xs := fnd) rfl hr1 (by dsimp only; rw [hv]; exact hg1) (by dsimp only; rw [hv]; exact hl1) (by dsimp only; rw [hv]; exact hnT)
    have m3 := m2.setC hi ho 1 (by omega) (k + 1)
    simp only [upd_upd, upd_same] at m3
    refine bodyPost_ret (v := .tuple #[]) (by simp [results, Tryz.results53, go_sem]) rfl ⟨rfl, _, _, m3.1, ?_, _, _, rfl, rfl, rfl, rfl, rfl⟩
    rw [lsW_9put HB8.out]
set_option maxHeartbeats 4000000 in
theorem scan_pos_last (hc : c.Ok) (h : MidH c B Fb T q i gg o cp l f (AS g t ws st G ts) ls X W V) (hi : i < c.th.toNat) (ho : l.length * 12 = o) (hq : q ≤ 8) (hl : ws.length = c.size.toNat) (hs : 0 ≤ st ∧ st ≤ 1000000)
    {k : Int} (hp : f.pc = k) (k0 : 0 < k) (k1 : k + 1 = c.th * c.slots) {rt fnd : List Int} (h8 : ls i 8 = ints rt) (h9 : ls i 9 = ints fnd) (hfn : fnd.length ≤ 1000)
    {x : Int} (hx : wordAt ws (c.hazard (k / c.slots) (k % c.slots)).toNat = x) (x0 : 0 ≤ x) (x1 : x < 9223372036854775808)
    (hrt : rt.length ≤ 1000) (hR : ∀ y ∈ rt, S.InR y) {RR : Sg → (Nat → Nat → List Value) → Prop}
    (hK : ∀ (th : Th) (f' : Fr) X' V', th.fr = l ++ [f'] → f'.fn = f.fn → f'.pc = -1 → th.v 0 = (ts i).v 0 → HM c B Fb T q (AS g t ws (st + 1) G (upd ts i th)) (lsW ls i (rt.filter fun y => decide (y ∈ (fnd ++ [x]))) (rt.filter fun y => !decide (y ∈ (fnd ++ [x])))) X' V' → Calls Tryz.prog 55 #[.pointer (some ⟨T, i * 10, none⟩)] V' (HPost c B Fb T q RR X' V')) :
    Calls Tryz.prog 53 #[at0 B, .pointer (some ⟨T, i * 10, none⟩), .pointer (some ⟨gg, o, none⟩)] V (HPost c B Fb T q RR X W) := by
  have hsl := hc.slots
  have hal := all_in hc
  have hsi := slot_in hc (k := k) (by omega) (by omega)
  have ll := haz_low hc hsi.1 hsi.2.1 hsi.2.2.1 hsi.2.2.2
  have hkq : k.tdiv c.slots = k / c.slots := P.tdiv_of (by omega)
  have hkr : k.tmod c.slots = k % c.slots := P.tmod_of (by omega)
  have hkl := P.div_in (x := k) (k := c.slots) (by omega) (by omega)
  have wq : IntKind.i64.wrap (k / c.slots) = k / c.slots := IntWalk.i64_in _ (by omega)
  have wr : IntKind.i64.wrap (k % c.slots) = k % c.slots := IntWalk.i64_in _ (by omega)
  have wx : IntKind.i64.wrap x = x := IntWalk.i64_in _ (by omega)
  have wk : IntKind.i64.wrap (k + 1) = k + 1 := IntWalk.i64_in _ (by omega)
  have wa : IntKind.i64.wrap (c.th * c.slots) = c.th * c.slots := IntWalk.i64_in _ (by omega)
  have nsl : (c.slots == 0) = false := beq_eq_false_iff_ne.2 (by omega)
  have nsl2 : ¬ c.slots = 0 := by omega
  have nk : (k == -1) = false := beq_eq_false_iff_ne.2 (by omega)
  have lk : decide (k ≤ 0) = false := by simp; omega
  have la : decide (k < c.th * c.slots) = true := by simp; omega
  have la2 : decide (k + 1 < c.th * c.slots) = false := by simp; omega
  obtain ⟨c1, c2, c3⟩ := h.cells
  obtain ⟨c9, f9, r9, lT⟩ := h.list hi (j := 9) (by omega) (by omega) (by omega)
  rw [hp] at c1
  have lg := h.2.1.lt
  have fz := h.2.1.fz
  have hth := field_th c
  have HKK := Lib.hid hK
  clear hK
  have HP : Hid (∀ (f : Fr) σ ls V', MidH c B Fb T q i gg o cp l f σ ls X W V' → Calls Tryz.prog 10 #[at0 B] V' fun e V2 => e = .returned c.v ∧ Below V'.heap.size V' V2) := Lib.hid fun f σ ls V' h' => h'.plan
  have HS : Hid (∀ V', Calls Tryz.prog 11 #[c.v] V' fun e V2 => e = .returned (.int .i64 c.slots) ∧ Below V'.heap.size V' V2) := Lib.hid fun V' => P.slots_ok c V' hc
  have HC : Hid (∀ V', Calls Tryz.prog 63 #[c.v] V' fun e V2 => e = .returned c.v ∧ Below V'.heap.size V' V2) := Lib.hid fun V' => P.conf_any c V'
  have HZ : Hid (∀ V', Calls Tryz.prog 14 #[c.v, .int .i64 (k / c.slots), .int .i64 (k % c.slots)] V' fun e V2 => e = .returned (.int .i64 (c.hazard (k / c.slots) (k % c.slots))) ∧ Below V'.heap.size V' V2) := Lib.hid fun V' => hazard_ok c _ _ V' hc (by unfold P.I64; omega) (by unfold P.I64; omega)
  have HU : Hid (∀ th, upd ts i th = upd ts i th) := Lib.hid fun th => rfl
  have HV0 : Hid ((ts i).v 0 = (ts i).v 0) := Lib.hid rfl
  have HLS : Hid (∀ rt fn, lsW ls i rt fn = lsW ls i rt fn) := Lib.hid fun r n => rfl
  have HE1 : Hid (f.fn = f.fn) := Lib.hid rfl
  have HM0 := Lib.hid h
  clear h r9 c2 c3 hsi c9 f9
  have HB8 := Lib.hid h8
  have HB9 := Lib.hid h9
  have HPC := Lib.hid hp
  have HLD : Hid (∀ V', MidH c B Fb T q i gg o cp l f (AS g t ws st G ts) ls X W V' → Calls Tryz.prog 69 #[at0 B, .int .i64 (c.hazard (k / c.slots) (k % c.slots))] V' fun e V2 => e = .returned (.int .u64 x) ∧ MidH c B Fb T q i gg o cp l f (AS g t ws (st + 1) G ts) ls X W V2) := Lib.hid fun V' h' => by
    have := h'.load hc hl hs ll.1 ll.2
    rw [hx] at this
    exact this
  have HSS : Hid (∀ (σ : Sg) (ls : Nat → Nat → List Value) (V' : World), MidH c B Fb T q i gg o cp l f σ ls X W V' → V'.cell? ⟨gg, o + 1, none⟩ = some (.int .i64 k)) := Lib.hid fun σ ls V' h' => by
    have := h'.2.1.pc
    rw [HPC.out] at this
    exact this
  clear hl hs hx ll h8 h9 hkl hal
  generalize hA : c.th * c.slots = al at *
  generalize c.hazard (k / c.slots) (k % c.slots) = ad at *
  generalize k / c.slots = kq at *
  generalize k % c.slots = kr at *
  have HHA := Lib.hid hA
  go_enter Tryz.func53, Tryz.ntmps53
  go_wp2_with fail
  refine (HP.out _ _ _ _ HM0.out).mono ?_
  rintro e V1 ⟨rfl, hb⟩
  have HM1 := Lib.hid (HM0.out.below hb)
  clear hb HM0
  go_wp2_with fail
  refine (HS.out _).mono ?_
  rintro e V2 ⟨rfl, hb⟩
  have HM2 := Lib.hid (HM1.out.below hb)
  clear hb HM1
  go_wp2_with fail
  refine (HP.out _ _ _ _ HM2.out).mono ?_
  rintro e V3 ⟨rfl, hb⟩
  have HM3 := Lib.hid (HM2.out.below hb)
  clear hb HM2
  go_wp2_with fail
  refine (HC.out _).mono ?_
  rintro e V4 ⟨rfl, hb⟩
  have HM4 := Lib.hid (HM3.out.below hb)
  clear hb HM3
  have y1 := HSS.out _ _ _ HM4.out
  go_wp2_with fail
  have hM := HM4.out.drew
  go_region_held3 (fun V' => V'.cell? ⟨gg, o + 1, none⟩ = some (.int .i64 k))
    (first | exact HSS.out _ _ _ (by assumption) | go_keep)
    (first | (go_at_call 10; refine (HP.out _ _ _ _ hM).mono ?_; rintro e V5 ⟨rfl, hb5⟩; have hM5 := MidH.below hM hb5; clear hb5) | (go_at_call 14; refine (HZ.out _).mono ?_; rintro e V6 ⟨rfl, hb6⟩; have hM6 := MidH.below hM5 hb6; clear hb6) | (go_at_call 69; refine (HLD.out _ hM6).mono ?_; rintro e V7 ⟨rfl, hM7⟩))
  all_goals
    obtain ⟨cs1, hT1⟩ := hM7.2.1.tb
    have hnT := Lsts.notT hM7 hi (by omega)
    obtain ⟨z9, zf9, zr9, lT9⟩ := hM7.list hi (j := 9) (by omega) (by omega) (by omega)
    rw [HB9.out, S.ints_len] at zr9
    change R.Row _ 3 _ _ _ at zr9
    have zpc := HSS.out _ _ _ hM7
    have lg7 := hM7.2.1.lt
    obtain ⟨cur7, hb7⟩ := hM7.2.1.bl
    have hgT : gg ≠ T := Blk.ne hb7 hT1 (by decide)
    have hTg : T ≠ gg := Ne.symm hgT
    obtain ⟨i0, hi0, hz0, hz1, hz2⟩ := info_parts S.Try.info3
    have HM7 := Lib.hid hM7
    clear hM7 hM6 hM5 hM HM4 HZ HLD HP HC HS y1
    dsimp only at zr9 z9 hnT
    generalize hv : (ts i).v 9 = v9 at *
    obtain ⟨a9, cap9, rfl, hc9, hm9⟩ := zr9.form
    unfold maxLen at hm9
    go_wp2_with (at_builtin; refine R.wpList_append_row _ rfl _ _ 44 rfl 3 i0 (.int .i64 0) 8 Tryz.underlying44 hi0 hz0 hz1 hz2 rfl (by decide) _ _ (ints fnd) rfl (zr9.alloc _) ⟨_, 0, none⟩ 1 (.int .i64 x) rfl (by simp) (by simp [Value.oneCell']) (by first | omega | (simp; done)) ?_; intro v' w1 hr' hg hlat; obtain ⟨a', cap', rfl, hc', hm'⟩ := hr'.form; have hT2 : Blk w1 T 48 cs1 := (hT1.alloc _).agree (hg.block T (by simp; omega) (Ne.symm hnT)); have d9 : w1.cell? ⟨T, i * 10 + 9, none⟩ = some (.slice a9 _ cap9) := (hT2.cell _).trans ((hT1.cell _).symm.trans z9); have g9 := hT2.frozen (i * 10 + 9); have l9 := hT2.lt; have hb8 : Blk w1 gg 103 cur7 := (hb7.alloc _).agree (hg.block gg (by simp; omega) (fun e => by obtain ⟨cur, hb⟩ := rrow_blk zr9 e.symm; exact Blk.ne hb hb7 (by decide) rfl)); have d1 : w1.cell? ⟨gg, o + 1, none⟩ = some (.int .i64 k) := (hb8.cell _).trans ((hb7.cell _).symm.trans zpc); have g1 := hb8.frozen (o + 1); have l1 := hb8.lt; have HG := Lib.hid (And.intro hr' (And.intro hg hlat)); clear hr' hg hlat hT2 hb8)
    obtain ⟨hr1, hg1, hl1⟩ := HG.out
    have m2 := MidH.grow HM7.out hi (by omega) (xs := fnd) rfl hr1 (by dsimp only; rw [hv]; exact hg1) (by dsimp only; rw [hv]; exact hl1) (by dsimp only; rw [hv]; exact hnT)
    have m3 := m2.setC hi ho 1 (by omega) (al)
    have m4 := m3.setC hi ho 1 (by omega) (-1)
    simp only [upd_upd, upd_same] at m4
    obtain ⟨X6, k6, l6, h6⟩ := m4.1
    have e8 : (updLs ls i 9 (ints (fnd ++ [x]))) i 8 = ints rt := by rw [updLs_ne _ _ _ _ (by omega)]; exact HB8.out
    have K8 := sift_any h6 hi hq e8 (updLs_at _ _ _ _) hrt hR
    rw [lsW_9put HB8.out] at K8
    have HH6 := Lib.hid (And.intro k6 l6)
    clear m2 m3 m4 h6 k6 l6 hr1 hg1 hl1 HG
    refine K8.mono ?_
    rintro e V8 ⟨rfl, u8, u9, ht⟩
    rw [lsW_lsW] at ht
    obtain ⟨X8, k8, l8, h8'⟩ := HMT.from HH6.out.1 HH6.out.2 ht
    simp only [upd_upd, upd_same] at h8'
    have K9 : Calls Tryz.prog 55 #[.pointer (some ⟨T, i * 10, none⟩)] V8 (HPost c B Fb T q RR X8 V8) := by
      refine HKK.out _ ((f.setC 1 al).setC 1 (-1)) X8 V8 ?_ ?_ ?_ ?_ h8'
      · rfl
      · exact rfl
      · rfl
      · exact rfl
    have HH8 := Lib.hid (And.intro k8 l8)
    clear K8 ht h8' k8 l8 HKK HH6
    go_wp2_with fail
    refine K9.mono ?_
    rintro e V9 ⟨rfl, σ9, ls9, ht9, hR9⟩
    have HV := Lib.hid (And.intro (HMT.from HH8.out.1 HH8.out.2 ht9) hR9)
    clear K9 ht9 hR9 HH8
    go_wp2
    go_end0
    exact ⟨rfl, σ9, ls9, HV.out.1, HV.out.2⟩

end Go.Proofs.YtemikojaldoofaaGreat
namespace Go.Proofs.YtemikojaldoofaaGreat
open Go.ChangeShapes Go.WideShapes Go.ChangeAt Go.RowKit
set_option linter.unusedVariables false
set_option maxRecDepth 20000
open S (ints)
variable {c : P.Cf} {B Fb T q : Nat} {X : Nat → Prop} {W W' V V' : World} {g t : Nat} {ws : List Int} {st : Int} {G : G.GS} {ts : Nat → Th} {i gg o cp : Nat} {l : List Fr} {f : Fr} {σ σ' : Sg} {ls : Nat → Nat → List Value}
theorem MidH.gone (hc : c.Ok) (h : MidH c B Fb T q i gg o cp l f (AS g t ws st G ts) ls X W V) (n : Int) :
    Calls Tryz.prog 71 #[at0 B, .int .i64 n] V fun e V2 => e = .returned (.tuple #[]) ∧ MidH c B Fb T q i gg o cp l f (AS g t ws st (G.then c.nd.toNat 1 n) ts) ls X W V2 :=
  h.calls fun X' m => agone hc m n
/-- Retired grows by one node. -/
theorem MidH.pushed (h : MidH c B Fb T q i gg o cp l f σ ls X W V) (hi : i < c.th.toNat) (hq : q ≤ 8) {rt : List Int} (h8 : ls i 8 = ints rt) (hrt : rt.length ≤ 1000) (n : Int) :
    Calls Tryz.prog 72 #[.pointer (some ⟨T, i * 10 + 8, none⟩), .int .i64 n] V fun e V2 => e = .returned (.tuple #[]) ∧ ∃ u, MidH c B Fb T q i gg o cp l f { σ with ts := upd σ.ts i ((σ.ts i).setV 8 u) } (updLs ls i 8 (ints (rt ++ [n]))) X W V2 := by
  obtain ⟨cs, hT⟩ := h.2.1.tb
  obtain ⟨c8, f8, r8, lT⟩ := h.list hi (j := 8) (by omega) (by omega) (by omega)
  rw [h8, S.ints_len] at r8
  change R.Row V 3 _ _ _ at r8
  refine (S.push_any T (i * 10 + 8) _ rt n cs V hT c8 r8 (by omega)).mono ?_
  rintro e V2 ⟨rfl, v', w1, rfl, hr, hk, ho⟩
  have hT1 : Blk w1 T 48 cs := hT.agree (hk.block T lT fun e => by
    obtain ⟨cur, hb⟩ := rrow_blk r8 e
    exact Blk.ne hb hT (by decide) rfl)
  refine ⟨rfl, v', h.put hi (j := 8) (by omega) (by omega) (by omega) (Keeps.setT hk) (fun cs' h' => ?_) (by
    rw [S.ints_len]
    exact hr.setCell (fun e => by
      obtain ⟨cur, hb⟩ := rrow_blk hr e
      exact Blk.ne hb hT1 (by decide) rfl) _) ho⟩
  obtain rfl : cs' = cs := by
    have := (show V.heap[T]? = _ from h').symm.trans hT
    simpa using this
  exact hT1.set _ _
theorem MidH.pop0 (h : MidH c B Fb T q i gg o cp l f σ ls X W V) (hi : i < c.th.toNat) (hl : l.length ≤ 1000) : Calls Tryz.prog 70 #[.pointer (some ⟨T, i * 10, none⟩), .slice none 0 0] V fun e W' => e = .returned (.tuple #[]) ∧ HMT c B Fb T q { σ with ts := upd σ.ts i ((σ.ts i).told l 0 0 0) } ls X W W' := by
  obtain ⟨⟨X', k, l', m⟩, h2, h3⟩ := h
  refine (m.pop0 hi h3 hl).mono ?_
  rintro e W' ⟨rfl, ht⟩
  exact ⟨rfl, HMT.from k l' ht⟩
/-- A frame is another one wholly. -/
theorem MidH.setF (h : MidH c B Fb T q i gg o cp l f (AS g t ws st G ts) ls X W V) (hi : i < c.th.toNat) (ho : l.length * 12 = o) : ∃ (f' : Fr) (th : Th), f'.fn = 6 ∧ f'.pc = 0 ∧ th.v 0 = (ts i).v 0 ∧
    MidH c B Fb T q i gg o cp l f' (AS g t ws st G (upd ts i th)) ls X W ((((((((((((V.setCell ⟨gg, o, none⟩ (.int .i64 6)).setCell ⟨gg, o + 1, none⟩ (.int .i64 0)).setCell ⟨gg, o + 2, none⟩ (.int .u64 0)).setCell ⟨gg, o + 3, none⟩ (.int .u64 0)).setCell ⟨gg, o + 4, none⟩ (.int .u64 0)).setCell ⟨gg, o + 5, none⟩ (.int .u64 0)).setCell ⟨gg, o + 6, none⟩ (.int .u64 0)).setCell ⟨gg, o + 7, none⟩ (.int .u64 0)).setCell ⟨gg, o + 8, none⟩ (.int .u64 0)).setCell ⟨gg, o + 9, none⟩ (.int .u64 0)).setCell ⟨gg, o + 10, none⟩ (.int .u64 0)).setCell ⟨gg, o + 11, none⟩ (.int .u64 0)) := by
  have m0 := h.setC hi ho 0 (by omega) 6
  have m1 := m0.setC hi ho 1 (by omega) 0
  have m2 := m1.setC hi ho 2 (by omega) 0
  have m3 := m2.setC hi ho 3 (by omega) 0
  have m4 := m3.setC hi ho 4 (by omega) 0
  have m5 := m4.setC hi ho 5 (by omega) 0
  have m6 := m5.setC hi ho 6 (by omega) 0
  have m7 := m6.setC hi ho 7 (by omega) 0
  have m8 := m7.setC hi ho 8 (by omega) 0
  have m9 := m8.setC hi ho 9 (by omega) 0
  have m10 := m9.setC hi ho 10 (by omega) 0
  have m11 := m10.setC hi ho 11 (by omega) 0
  simp only [upd_upd, upd_same] at m11
  refine ⟨_, _, ?_, ?_, ?_, m11⟩ <;> rfl
set_option maxHeartbeats 4000000 in
theorem retire_hold (hc : c.Ok) (h : MidH c B Fb T q i gg o cp l f (AS g t ws st G ts) ls X W V) (hi : i < c.th.toNat) (ho : l.length * 12 = o) (hll : l.length ≤ 1000) (hq : q ≤ 8)
    {n : Int} (hr : f.r.getD 0 0 = n) (n0 : 0 ≤ n) (n1 : n < 9223372036854775808) {rt fnd : List Int} (h8 : ls i 8 = ints rt) (h9 : ls i 9 = ints fnd) (hrt : rt.length ≤ 1000) (hlt : (rt.length : Int) + 1 < c.sc) :
    Calls Tryz.prog 52 #[at0 B, .pointer (some ⟨T, i * 10, none⟩), .pointer (some ⟨gg, o, none⟩)] V (HPost c B Fb T q (fun σ' ls' => ls' = lsW ls i (rt ++ [n]) fnd ∧ ∃ th, σ' = AS g t ws st (G.then c.nd.toNat 1 n) (upd ts i th) ∧ th.fr = l ∧ th.r0 = 0 ∧ th.v 0 = (ts i).v 0) X W) := by
  obtain ⟨c1, c2, c3⟩ := h.cells
  rw [hr] at c2
  have lg := h.2.1.lt
  have wn : IntKind.i64.wrap n = n := IntWalk.i64_in _ (by omega)
  have hsc := field_sc c
  have K1 := h.gone hc n
  have HK2 : Hid (∀ V2, MidH c B Fb T q i gg o cp l f (AS g t ws st (G.then c.nd.toNat 1 n) ts) ls X W V2 → Calls Tryz.prog 72 #[.pointer (some ⟨T, i * 10 + 8, none⟩), .int .i64 n] V2 fun e V2 => e = .returned (.tuple #[]) ∧ ∃ u, MidH c B Fb T q i gg o cp l f (AS g t ws st (G.then c.nd.toNat 1 n) (upd ts i ((ts i).setV 8 u))) (lsW ls i (rt ++ [n]) fnd) X W V2) := Lib.hid fun V2 h2 => by
    have := h2.pushed hi hq h8 hrt n
    rw [lsW_8put h9] at this
    exact this
  have HP : Hid (∀ σ ls V', MidH c B Fb T q i gg o cp l f σ ls X W V' → Calls Tryz.prog 10 #[at0 B] V' fun e V2 => e = .returned c.v ∧ Below V'.heap.size V' V2) := Lib.hid fun σ ls V' h' => h'.plan
  have HC : Hid (∀ V', Calls Tryz.prog 63 #[c.v] V' fun e V2 => e = .returned c.v ∧ Below V'.heap.size V' V2) := Lib.hid fun V' => P.conf_any c V'
  have hlen : ((rt ++ [n]).length : Int) = rt.length + 1 := by simp
  have HL : Hid (∀ σ V', MidH c B Fb T q i gg o cp l f σ (lsW ls i (rt ++ [n]) fnd) X W V' → Calls Tryz.prog 20 #[.pointer (some ⟨T, i * 10 + 8, none⟩)] V' fun e V2 => e = .returned (.int .i64 (rt.length + 1)) ∧ V' = V2) := Lib.hid fun σ V' h' => by
    obtain ⟨z8, -, zr, -⟩ := h'.list hi (j := 8) (by omega) (by omega) (by omega)
    rw [lsW_8, S.ints_len] at zr
    obtain ⟨a, cap, e, -, -⟩ := zr.form
    rw [e] at z8
    have := S.len_any T (i * 10 + 8) _ cap a V' z8 (by simp; omega)
    rw [hlen] at this
    exact this
  have hd : decide ((rt.length : Int) + 1 < c.sc) = true := by simpa using hlt
  have HM := Lib.hid h
  clear h c1 c3 hr n0 n1 h8 h9
  go_enter Tryz.func52, Tryz.ntmps52
  go_wp2_with fail
  refine K1.mono ?_
  rintro e V1 ⟨rfl, hM1⟩
  have K2 := HK2.out _ hM1
  clear K1 hM1
  go_wp2_with fail
  refine K2.mono ?_
  rintro e V2 ⟨rfl, u, hM2⟩
  have HM2 := Lib.hid hM2
  have K3 := HL.out _ _ hM2
  clear K2 hM2
  go_wp2_with fail
  refine K3.mono ?_
  rintro e V3 ⟨rfl, rfl⟩
  clear K3
  go_wp2_with fail
  refine (HP.out _ _ _ HM2.out).mono ?_
  rintro e V3 ⟨rfl, hb⟩
  have HM3 := Lib.hid (HM2.out.below hb)
  clear hb HM2
  go_wp2_with fail
  refine (HC.out _).mono ?_
  rintro e V4 ⟨rfl, hb⟩
  have HM4 := Lib.hid (HM3.out.below hb)
  clear hb HM3
  have K5 := HM4.out.pop0 hi hll
  simp only [upd_upd, upd_same] at K5
  clear HM4
  go_wp2_with fail
  refine K5.mono ?_
  rintro e V5 ⟨rfl, ht⟩
  have HT := Lib.hid ht
  clear K5 ht
  go_wp2
  refine bodyPost_ret (v := .tuple #[]) (by simp [results, Tryz.results52, go_sem]) rfl ⟨rfl, _, _, HT.out, rfl, _, rfl, rfl, rfl, rfl⟩
set_option maxHeartbeats 4000000 in
theorem retire_scan (hc : c.Ok) (h : MidH c B Fb T q i gg o cp l f (AS g t ws st G ts) ls X W V) (hi : i < c.th.toNat) (ho : l.length * 12 = o) (hll : l.length ≤ 1000) (hq : q ≤ 8)
    {n : Int} (hr : f.r.getD 0 0 = n) (n0 : 0 ≤ n) (n1 : n < 9223372036854775808) {rt fnd : List Int} (h8 : ls i 8 = ints rt) (h9 : ls i 9 = ints fnd) (hrt : rt.length ≤ 1000) (hlt : c.sc ≤ (rt.length : Int) + 1) {RR : Sg → (Nat → Nat → List Value) → Prop}
    (hK : ∀ (ts' : Nat → Th) (f' : Fr) V', (∀ th, upd ts' i th = upd ts i th) → (ts' i).v 0 = (ts i).v 0 → f'.fn = 6 → f'.pc = 0 → MidH c B Fb T q i gg o cp l f' (AS g t ws st (G.then c.nd.toNat 1 n) ts') (lsW ls i (rt ++ [n]) fnd) X W V' → Calls Tryz.prog 53 #[at0 B, .pointer (some ⟨T, i * 10, none⟩), .pointer (some ⟨gg, o, none⟩)] V' (HPost c B Fb T q RR X W)) :
    Calls Tryz.prog 52 #[at0 B, .pointer (some ⟨T, i * 10, none⟩), .pointer (some ⟨gg, o, none⟩)] V (HPost c B Fb T q RR X W) := by
  obtain ⟨c1, c2, c3⟩ := h.cells
  rw [hr] at c2
  have lg := h.2.1.lt
  have wn : IntKind.i64.wrap n = n := IntWalk.i64_in _ (by omega)
  have hsc := field_sc c
  have K1 := h.gone hc n
  have HK2 : Hid (∀ V2, MidH c B Fb T q i gg o cp l f (AS g t ws st (G.then c.nd.toNat 1 n) ts) ls X W V2 → Calls Tryz.prog 72 #[.pointer (some ⟨T, i * 10 + 8, none⟩), .int .i64 n] V2 fun e V2 => e = .returned (.tuple #[]) ∧ ∃ u, MidH c B Fb T q i gg o cp l f (AS g t ws st (G.then c.nd.toNat 1 n) (upd ts i ((ts i).setV 8 u))) (lsW ls i (rt ++ [n]) fnd) X W V2) := Lib.hid fun V2 h2 => by
    have := h2.pushed hi hq h8 hrt n
    rw [lsW_8put h9] at this
    exact this
  have HP : Hid (∀ σ ls V', MidH c B Fb T q i gg o cp l f σ ls X W V' → Calls Tryz.prog 10 #[at0 B] V' fun e V2 => e = .returned c.v ∧ Below V'.heap.size V' V2) := Lib.hid fun σ ls V' h' => h'.plan
  have HC : Hid (∀ V', Calls Tryz.prog 63 #[c.v] V' fun e V2 => e = .returned c.v ∧ Below V'.heap.size V' V2) := Lib.hid fun V' => P.conf_any c V'
  have hlen : ((rt ++ [n]).length : Int) = rt.length + 1 := by simp
  have HL : Hid (∀ σ V', MidH c B Fb T q i gg o cp l f σ (lsW ls i (rt ++ [n]) fnd) X W V' → Calls Tryz.prog 20 #[.pointer (some ⟨T, i * 10 + 8, none⟩)] V' fun e V2 => e = .returned (.int .i64 (rt.length + 1)) ∧ V' = V2) := Lib.hid fun σ V' h' => by
    obtain ⟨z8, -, zr, -⟩ := h'.list hi (j := 8) (by omega) (by omega) (by omega)
    rw [lsW_8, S.ints_len] at zr
    obtain ⟨a, cap, e, -, -⟩ := zr.form
    rw [e] at z8
    have := S.len_any T (i * 10 + 8) _ cap a V' z8 (by simp; omega)
    rw [hlen] at this
    exact this
  have hd : decide ((rt.length : Int) + 1 < c.sc) = false := by simpa using hlt
  have HKK := Lib.hid hK
  clear hK
  have HM := Lib.hid h
  clear h c1 c3 hr n0 n1 h8 h9
  go_enter Tryz.func52, Tryz.ntmps52
  go_wp2_with fail
  refine K1.mono ?_
  rintro e V1 ⟨rfl, hM1⟩
  have K2 := HK2.out _ hM1
  clear K1 hM1
  go_wp2_with fail
  refine K2.mono ?_
  rintro e V2 ⟨rfl, u, hM2⟩
  have HM2 := Lib.hid hM2
  have K3 := HL.out _ _ hM2
  clear K2 hM2
  go_wp2_with fail
  refine K3.mono ?_
  rintro e V3 ⟨rfl, rfl⟩
  clear K3
  go_wp2_with fail
  refine (HP.out _ _ _ HM2.out).mono ?_
  rintro e V3 ⟨rfl, hb⟩
  have HM3 := Lib.hid (HM2.out.below hb)
  clear hb HM2
  go_wp2_with fail
  refine (HC.out _).mono ?_
  rintro e V4 ⟨rfl, hb⟩
  have HM4 := Lib.hid (HM3.out.below hb)
  clear hb HM3
  have lg4 := HM4.out.2.1.lt
  have fz4 := HM4.out.2.1.fz
  have hcs : ∀ j, j < 12 → ∃ u, V4.cell? ⟨gg, o + j, none⟩ = some u := fun j hj => by
    have hF := HM4.out.2.1
    match j, hj with
    | 0, _ => exact ⟨_, hF.fn⟩
    | 1, _ => exact ⟨_, hF.pc⟩
    | j + 2, hj => exact ⟨_, by have := hF.reg j (by omega); rw [show o + 2 + j = o + (j + 2) by omega] at this; exact this⟩
  obtain ⟨u0, x0⟩ := hcs 0 (by omega)
  obtain ⟨u1, x1⟩ := hcs 1 (by omega)
  obtain ⟨u2, x2⟩ := hcs 2 (by omega)
  obtain ⟨u3, x3⟩ := hcs 3 (by omega)
  obtain ⟨u4, x4⟩ := hcs 4 (by omega)
  obtain ⟨u5, x5⟩ := hcs 5 (by omega)
  obtain ⟨u6, x6⟩ := hcs 6 (by omega)
  obtain ⟨u7, x7⟩ := hcs 7 (by omega)
  obtain ⟨u8, x8⟩ := hcs 8 (by omega)
  obtain ⟨u9, x9⟩ := hcs 9 (by omega)
  obtain ⟨u10, x10⟩ := hcs 10 (by omega)
  obtain ⟨u11, x11⟩ := hcs 11 (by omega)
  rw [Nat.add_zero] at x0
  clear hcs
  go_wp2_with fail
  obtain ⟨f', th, e1, e2, e3, m⟩ := HM4.out.setF hi ho
  have K5 := HKK.out (upd (upd ts i ((ts i).setV 8 u)) i th) f' _ (fun th' => by rw [upd_upd, upd_upd]) (by rw [upd_same, e3, upd_same]; rfl) e1 e2 m
  clear HKK m e1 e2 e3
  refine K5.mono ?_
  rintro e V5 ⟨rfl, σ5, ls5, ht, hR⟩
  have HV := Lib.hid (And.intro ht hR)
  clear K5 ht hR
  go_wp2
  go_end0
  exact ⟨rfl, σ5, ls5, HV.out.1, HV.out.2⟩
end Go.Proofs.YtemikojaldoofaaGreat
namespace Go.Proofs.YtemikojaldoofaaGreat
open Go.ChangeShapes Go.WideShapes Go.ChangeAt Go.RowKit
set_option linter.unusedVariables false
set_option maxRecDepth 20000
open S (ints)
variable {c : P.Cf} {B Fb T q : Nat} {X : Nat → Prop} {W W' V V' : World} {g t : Nat} {ws : List Int} {st : Int} {G : G.GS} {ts : Nat → Th} {i gg o cp : Nat} {l : List Fr} {f : Fr} {σ σ' : Sg} {ls : Nat → Nat → List Value} {RR : Sg → (Nat → Nat → List Value) → Prop}
/-- A bit that is the machine's alone. -/
theorem MidH.low (h : MidH c B Fb T q i gg o cp l f σ ls X W V) {K : Nat} {args : Array Value} {v : Value} (hv : ∀ i, i < c.th.toNat → (σ'.ts i).v = (σ.ts i).v)
    (hK : ∀ X0, Mid c B Fb T i gg o cp l f σ X0 V V → Calls Tryz.prog K args V fun e V2 => e = .returned v ∧ MacT c B Fb T σ' X0 V V2) : Calls Tryz.prog K args V fun e V2 => e = .returned v ∧ HMT c B Fb T q σ' ls X W V2 := by
  obtain ⟨⟨X', k, l', m⟩, h2, h3⟩ := h
  obtain ⟨X0, rfl, hm, hl⟩ := m
  refine (hK X0 ⟨MacT.refl hm, h2, h3⟩).mono ?_
  rintro e V' ⟨rfl, ht⟩
  exact ⟨rfl, HMT.from k l' (HM.turn hm hl ht hv)⟩
theorem upd_v {ts : Nat → Th} {i : Nat} {th : Th} (h : th.v = (ts i).v) (n : Nat) : ∀ j, j < n → ((upd ts i th) j).v = (ts j).v := fun j _ => by
  simp only [upd]
  split
  · rename_i e; rw [e, h]
  · rfl
theorem HPost.from {X1 : Nat → Prop} {W1 : World} {e : Ending} (hk : Keeps X W W1) (hl : Later X W X1) (h : HPost c B Fb T q RR X1 W1 e W') : HPost c B Fb T q RR X W e W' := by
  obtain ⟨h0, σ, ls, h1, h2⟩ := h
  exact ⟨h0, σ, ls, HMT.from hk hl h1, h2⟩
theorem hdo_nil (h : HM c B Fb T q σ ls X V) (hi : i < c.th.toNat) (hfr : (σ.ts i).fr = []) : Calls Tryz.prog 31 #[at0 B, .pointer (some ⟨T, i * 10, none⟩)] V fun e V' => e = .returned (.tuple #[]) ∧ V = V' := by
  have K := h.topNone hi hfr
  clear h
  go_enter Tryz.func31, Tryz.ntmps31
  go_wp2_with fail
  refine K.mono ?_
  rintro e v ⟨rfl, rfl⟩
  go_wp2
  exact bodyPost_ret (v := .tuple #[]) (by simp [results, Tryz.results31, go_sem]) rfl ⟨rfl, rfl⟩

theorem hdo_prot (h : HM c B Fb T q σ ls X V) (hi : i < c.th.toNat) (hfr : (σ.ts i).fr = l ++ [f]) (hl : l.length ≤ 1000) (hf : f.fn = 3)
    (hA : ∀ gg cp V', MidH c B Fb T q i gg (l.length * 12) cp l f σ ls X V V' → Calls Tryz.prog 50 #[at0 B, .pointer (some ⟨T, i * 10, none⟩), .pointer (some ⟨gg, l.length * 12, none⟩)] V' (HPost c B Fb T q RR X V)) :
    Calls Tryz.prog 31 #[at0 B, .pointer (some ⟨T, i * 10, none⟩)] V (HPost c B Fb T q RR X V) := by
  obtain ⟨gg, cp, hM, K⟩ := h.mid hi hfr hl
  have KA := hA gg cp _ hM
  have c0 := hM.cells.2.2
  rw [hf] at c0
  clear h hM hfr hA
  generalize l.length * 12 = o at *
  go_enter Tryz.func31, Tryz.ntmps31
  go_wp2_with fail
  refine K.mono ?_
  rintro e v ⟨rfl, rfl⟩
  clear K
  go_wp2_with fail
  refine KA.mono ?_
  rintro e v ⟨rfl, σ2, ls2, ht, hR⟩
  have HV := Lib.hid (And.intro ht hR)
  clear ht hR KA
  go_wp2
  go_end0
  exact ⟨rfl, σ2, ls2, HV.out.1, HV.out.2⟩

theorem hdo_wipe (h : HM c B Fb T q σ ls X V) (hi : i < c.th.toNat) (hfr : (σ.ts i).fr = l ++ [f]) (hl : l.length ≤ 1000) (hf : f.fn = 4)
    (hA : ∀ gg cp V', MidH c B Fb T q i gg (l.length * 12) cp l f σ ls X V V' → Calls Tryz.prog 51 #[at0 B, .pointer (some ⟨T, i * 10, none⟩), .pointer (some ⟨gg, l.length * 12, none⟩)] V' (HPost c B Fb T q RR X V)) :
    Calls Tryz.prog 31 #[at0 B, .pointer (some ⟨T, i * 10, none⟩)] V (HPost c B Fb T q RR X V) := by
  obtain ⟨gg, cp, hM, K⟩ := h.mid hi hfr hl
  have KA := hA gg cp _ hM
  have c0 := hM.cells.2.2
  rw [hf] at c0
  clear h hM hfr hA
  generalize l.length * 12 = o at *
  go_enter Tryz.func31, Tryz.ntmps31
  go_wp2_with fail
  refine K.mono ?_
  rintro e v ⟨rfl, rfl⟩
  clear K
  go_wp2_with fail
  refine KA.mono ?_
  rintro e v ⟨rfl, σ2, ls2, ht, hR⟩
  have HV := Lib.hid (And.intro ht hR)
  clear ht hR KA
  go_wp2
  go_end0
  exact ⟨rfl, σ2, ls2, HV.out.1, HV.out.2⟩

theorem hdo_retire (h : HM c B Fb T q σ ls X V) (hi : i < c.th.toNat) (hfr : (σ.ts i).fr = l ++ [f]) (hl : l.length ≤ 1000) (hf : f.fn = 5)
    (hA : ∀ gg cp V', MidH c B Fb T q i gg (l.length * 12) cp l f σ ls X V V' → Calls Tryz.prog 52 #[at0 B, .pointer (some ⟨T, i * 10, none⟩), .pointer (some ⟨gg, l.length * 12, none⟩)] V' (HPost c B Fb T q RR X V)) :
    Calls Tryz.prog 31 #[at0 B, .pointer (some ⟨T, i * 10, none⟩)] V (HPost c B Fb T q RR X V) := by
  obtain ⟨gg, cp, hM, K⟩ := h.mid hi hfr hl
  have KA := hA gg cp _ hM
  have c0 := hM.cells.2.2
  rw [hf] at c0
  clear h hM hfr hA
  generalize l.length * 12 = o at *
  go_enter Tryz.func31, Tryz.ntmps31
  go_wp2_with fail
  refine K.mono ?_
  rintro e v ⟨rfl, rfl⟩
  clear K
  go_wp2_with fail
  refine KA.mono ?_
  rintro e v ⟨rfl, σ2, ls2, ht, hR⟩
  have HV := Lib.hid (And.intro ht hR)
  clear ht hR KA
  go_wp2
  go_end0
  exact ⟨rfl, σ2, ls2, HV.out.1, HV.out.2⟩

theorem hdo_scan (h : HM c B Fb T q σ ls X V) (hi : i < c.th.toNat) (hfr : (σ.ts i).fr = l ++ [f]) (hl : l.length ≤ 1000) (hf : f.fn = 6)
    (hA : ∀ gg cp V', MidH c B Fb T q i gg (l.length * 12) cp l f σ ls X V V' → Calls Tryz.prog 53 #[at0 B, .pointer (some ⟨T, i * 10, none⟩), .pointer (some ⟨gg, l.length * 12, none⟩)] V' (HPost c B Fb T q RR X V)) :
    Calls Tryz.prog 31 #[at0 B, .pointer (some ⟨T, i * 10, none⟩)] V (HPost c B Fb T q RR X V) := by
  obtain ⟨gg, cp, hM, K⟩ := h.mid hi hfr hl
  have KA := hA gg cp _ hM
  have c0 := hM.cells.2.2
  rw [hf] at c0
  clear h hM hfr hA
  generalize l.length * 12 = o at *
  go_enter Tryz.func31, Tryz.ntmps31
  go_wp2_with fail
  refine K.mono ?_
  rintro e v ⟨rfl, rfl⟩
  clear K
  go_wp2_with fail
  refine KA.mono ?_
  rintro e v ⟨rfl, σ2, ls2, ht, hR⟩
  have HV := Lib.hid (And.intro ht hR)
  clear ht hR KA
  go_wp2
  go_end0
  exact ⟨rfl, σ2, ls2, HV.out.1, HV.out.2⟩

theorem hdo_arena (h : HM c B Fb T q σ ls X V) (hi : i < c.th.toNat) (hfr : (σ.ts i).fr = l ++ [f]) (hl : l.length ≤ 1000) (h3 : f.fn ≠ 3) (h4 : f.fn ≠ 4) (h5 : f.fn ≠ 5) (h6 : f.fn ≠ 6)
    (hA : ∀ X' V', HM c B Fb T q σ ls X' V' → Calls Tryz.prog 54 #[at0 B, .pointer (some ⟨T, i * 10, none⟩)] V' fun e V2 => e = .returned (.tuple #[]) ∧ HMT c B Fb T q σ' ls X' V' V2)
    (hB : ∀ X' V', HM c B Fb T q σ' ls X' V' → Calls Tryz.prog 55 #[.pointer (some ⟨T, i * 10, none⟩)] V' (HPost c B Fb T q RR X' V')) :
    Calls Tryz.prog 31 #[at0 B, .pointer (some ⟨T, i * 10, none⟩)] V (HPost c B Fb T q RR X V) := by
  obtain ⟨gg, cp, hM, K⟩ := h.mid hi hfr hl
  have KA := hA _ _ h.drew
  have HBB := Lib.hid hB
  have c0 := hM.cells.2.2
  have n3 : (f.fn == 3) = false := by simpa using h3
  have n4 : (f.fn == 4) = false := by simpa using h4
  have n5 : (f.fn == 5) = false := by simpa using h5
  have n6 : (f.fn == 6) = false := by simpa using h6
  clear h hM hfr hA hB
  generalize l.length * 12 = o at *
  go_enter Tryz.func31, Tryz.ntmps31
  go_wp2_with fail
  refine K.mono ?_
  rintro e v ⟨rfl, rfl⟩
  clear K
  go_wp2_with fail
  refine KA.mono ?_
  rintro e V2 ⟨rfl, X2, k2, l2, m2⟩
  have KB := HBB.out _ _ m2
  have HK := Lib.hid (And.intro (((Keeps.refl X V).drew).trans k2 fun k h => .inl h) ((Later.refl X V).trans (Nat.le_refl _) l2))
  clear KA k2 l2 m2 HBB
  go_wp2_with fail
  refine KB.mono ?_
  rintro e v hv
  obtain ⟨rfl, σ2, ls2, ht, hR⟩ := hv
  have HV := Lib.hid (And.intro (HMT.from HK.out.1 HK.out.2 ht) hR)
  clear ht hR KB HK
  go_wp2
  go_end0
  exact ⟨rfl, σ2, ls2, HV.out.1, HV.out.2⟩

theorem HM.mem (h : HM c B Fb T q σ ls X W) : ∃ M, W.cell? ⟨B, 7, none⟩ = some (at0 M) ∧ ∀ V, Below W.heap.size W V → Calls Tryz.prog 15 #[at0 M] V fun e V' => e = .returned (.int .i64 σ.ms.st) ∧ V = V' := by
  obtain ⟨X0, m, -⟩ := h.mac
  exact m.mem
theorem HM.thread (h : HM c B Fb T q σ ls X W) : W.cell? ⟨B, 10, none⟩ = some (.slice (some ⟨T, 0, none⟩) c.th.toNat c.th.toNat) := by
  obtain ⟨X0, m, -⟩ := h.mac
  exact m.thread
/-- Amid a step. -/
def StepH (c : P.Cf) (B Fb T q : Nat) (σ : Sg) (ls : Nat → Nat → List Value) (RR : Sg → (Nat → Nat → List Value) → Prop) (X : Nat → Prop) (W : World) (k : Nat) (V : World) : Prop :=
  (k = 1 ∧ HMT c B Fb T q σ ls X W V) ∨ (k = 0 ∧ ∃ σ' ls', HMT c B Fb T q σ' ls' X W V ∧ RR σ' ls')
set_option maxHeartbeats 4000000 in
/-- A step of a thread with a frame whose bit does a step of memory, or takes its last frame off. -/
theorem hstep_once (hc : c.Ok) (h : HM c B Fb T q σ ls X W) (hi : i < c.th.toNat) (hfr : (σ.ts i).fr = l ++ [f]) (hl : l.length ≤ 1000)
    (hD : ∀ X V, HM c B Fb T q σ ls X V → Calls Tryz.prog 31 #[at0 B, .pointer (some ⟨T, i * 10, none⟩)] V (HPost c B Fb T q RR X V)) {on : Bool}
    (hRR : ∀ σ' ls', RR σ' ls' → (σ'.ms.st ≠ σ.ms.st ∨ (σ'.ts i).fr = []) ∧ (σ'.ts i).fr.length ≤ 1000 ∧ (!(σ'.ts i).fr.isEmpty) = on) :
    Calls Tryz.prog 30 #[at0 B, .int .i64 i, .func (.func 31) #[] #[]] W fun e W' => e = .returned (.bool on) ∧ ∃ σ' ls', HMT c B Fb T q σ' ls' X W W' ∧ RR σ' ls' := by
  have eg : ∀ args w, (callFunc 31 args).run Tryz.prog w = .ok (.enter 31 args) w := enters_of Tryz.func31 (by kernel_rfl) rfl
  have qf : ∀ fn caps w, (binOp .neq 105 (.func fn #[] caps) .nilFunc).run Tryz.prog w = .ok (.bool true) w := fun _ _ _ => by kernel_rfl
  have ht := hc.th
  have KT := thread_yes B T c.th.toNat i W (by omega) h.thread hi
  obtain ⟨M, m7, hM⟩ := h.mem
  have KS := hM W (Below.refl _ _)
  have HC := Lib.hid hc
  have H := Lib.hid h
  have HI := Lib.hid hi
  have HFR := Lib.hid (And.intro hfr hl)
  have HD := Lib.hid hD
  have HST := Lib.hid hRR
  clear ht hM hc h hi hfr hl hD hRR
  generalize hs : σ.ms.st = s0 at *
  have HS := Lib.hid hs
  clear hs
  go_enter Tryz.func30, Tryz.ntmps30
  go_wp2_with fail
  refine KT.mono ?_
  rintro e v1 ⟨rfl, rfl⟩
  clear KT
  go_wp2_with fail
  refine KS.mono ?_
  rintro e v1 ⟨rfl, rfl⟩
  clear KS m7
  go_wp2_with fail
  go_loopg [] 1 (fun k wr => Hid (StepH c B Fb T q σ ls RR X W k wr))
  case atStart => exact Lib.hid (.inl ⟨rfl, HMT.refl H.out⟩)
  case round =>
    clear H
    rcases hrel.out with ⟨q1, X1, k1, l1, h1⟩ | ⟨q1, σ', ls', ⟨X1, k1, l1, h1⟩, hR⟩
    · obtain ⟨gg, cp, hMid, K⟩ := h1.mid HI.out HFR.out.1 HFR.out.2
      obtain ⟨M, m7, hM⟩ := h1.drew.mem
      have KS := hM wr.drew (Below.refl _ _)
      rw [HS.out] at KS
      have KD := HD.out X1 wr.drew h1.drew
      have HQ := Lib.hid q1
      have HK := Lib.hid (And.intro k1 l1)
      clear hM hMid h1 k1 l1 hrel q1
      go_wp2_with fail
      refine K.mono ?_
      rintro e v1 ⟨rfl, rfl⟩
      clear K
      go_wp2_with fail
      refine KS.mono ?_
      rintro e v1 ⟨rfl, rfl⟩
      clear KS m7
      go_wp2_with (go_at_fn 31; refine KD.mono ?_; rintro e v2 ⟨rfl, σ', ls', hT, hR⟩; have HV := Lib.hid (And.intro (HMT.from (HK.out.1.drew) HK.out.2 hT) hR); clear hT hR KD)
      go_roundg 0
      case measure => have := HQ.out; omega
      case rel => exact Lib.hid (.inr ⟨rfl, σ', ls', HV.out.1, HV.out.2⟩)
    · obtain ⟨hst, hlen, hon⟩ := HST.out σ' ls' hR
      have HRR := Lib.hid hR
      by_cases hnil : (σ'.ts i).fr = []
      · have K := h1.topNone HI.out hnil
        have HV : Hid (HMT c B Fb T q σ' ls' X W wr) := Lib.hid ⟨X1, k1, l1, h1⟩
        have HB : Hid (on = false) := Lib.hid (by rw [← hon, hnil]; rfl)
        clear h1 k1 l1 hrel q1 hnil hst hlen hon hR
        go_wp2_with fail
        refine K.mono ?_
        rintro e v1 ⟨rfl, rfl⟩
        go_wp2_with fail
        refine K.mono ?_
        rintro e v1 ⟨rfl, rfl⟩
        clear K
        go_wp2
        refine bodyPost_ret (v := .bool false) (by simp [results, Tryz.results30, go_sem]) rfl ⟨by rw [HB.out], _, _, HV.out, HRR.out⟩
      · obtain ⟨l2, f2, hfr2⟩ : ∃ l2 f2, (σ'.ts i).fr = l2 ++ [f2] := ⟨_, _, (List.dropLast_concat_getLast hnil).symm⟩
        have hl2 : l2.length ≤ 1000 := by
          rw [hfr2] at hlen
          simp at hlen; omega
        have hne : σ'.ms.st ≠ s0 := hst.resolve_right hnil
        obtain ⟨gg, cp, hMid, K⟩ := h1.mid HI.out hfr2 hl2
        obtain ⟨gg2, cp2, hMid2, K2⟩ := h1.drew.mid HI.out hfr2 hl2
        obtain ⟨M, m7, hM⟩ := h1.drew.mem
        have KS := hM wr.drew (Below.refl _ _)
        have hne' : (σ'.ms.st == s0) = false := by simpa using hne
        have HV : Hid (HMT c B Fb T q σ' ls' X W wr.drew.drew) := Lib.hid (HMT.drew (HMT.drew ⟨X1, k1, l1, h1⟩))
        have HB : Hid (on = true) := Lib.hid (by rw [← hon, hfr2]; simp)
        generalize hs1 : σ'.ms.st = s1 at *
        clear h1 k1 l1 hrel q1 hnil hM hMid hMid2 hfr2 hl2 hst hlen hon hR hs1
        go_wp2_with fail
        refine K.mono ?_
        rintro e v1 ⟨rfl, rfl⟩
        clear K
        go_wp2_with fail
        refine KS.mono ?_
        rintro e v1 ⟨rfl, rfl⟩
        clear KS m7
        go_wp2_with fail
        refine K2.mono ?_
        rintro e v1 ⟨rfl, rfl⟩
        go_wp2
        refine bodyPost_ret (v := .bool true) (by simp [results, Tryz.results30, go_sem]) rfl ⟨by rw [HB.out], _, _, HV.out, HRR.out⟩
end Go.Proofs.YtemikojaldoofaaGreat
