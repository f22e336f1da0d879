/- What nodes and Chain hand back. What Chain tells: the free list. -/
import Derived.Test.YtemikojaldoofaaGreatAChain
namespace Go.Proofs.YtemikojaldoofaaGreat
open Go.ChangeShapes Go.WideShapes Go.ChangeAt Go.RowKit Go.Shelf
set_option linter.unusedVariables false

set_option maxRecDepth 20000
attribute [local go_sem] Oper.semAt_some wide_fn

/-- What nodes hands back. -/
def MakesN (xs : List Int) (w : World) (e : Ending) (w' : World) : Prop :=
  ∃ lb C, e = .returned (.func (.func 66) #[] lb) ∧ Tells Tryz.prog encI (.func (.func 66) #[] lb) C xs w' ∧ (∀ k, C k → w.heap.size ≤ k) ∧ Below w.heap.size w w'
variable {c : P.Cf} {B Fb T : Nat} {X : Nat → Prop} {W W' : World} {g t : Nat} {ws : List Int} {st : Int} {G : G.GS} {ts : Nat → Th}
theorem Mac.words (h : Mac c B Fb T X (AS g t ws st G ts) W) : ∃ M, ∀ V, Below W.heap.size W V → (Calls Tryz.prog 12 #[at0 B] V fun e V' => e = .returned (at0 M) ∧ V = V') ∧ (ws.length ≤ 4096 → Calls Tryz.prog 29 #[at0 M] V (Copied 24 1 ws.length (encU ws) V)) := by
  obtain ⟨O, cs, vs, rfl, ⟨M, Om, rfl, hb, hm, hg⟩, _⟩ := h
  exact ⟨M, fun V hV => ⟨mem_any B M c _ Fb T _ false V (hb.agree (hV.block B hb.lt)), fun hl => words_any M (mk ws st) Om V (hm.agree fun k ho => hV.block k (hm.lt ho)) hl⟩⟩
set_option maxHeartbeats 1000000 in
theorem nodes_any (hc : c.Ok) (h : Mac c B Fb T X (AS g t ws st G ts) W) {L : List Int} (hF : Free c ws L) : Calls Tryz.prog 47 #[at0 B] W (MakesN L W) := by
  have hz := hc.steps
  have hl : ws.length ≤ 4096 := by rw [hF.len]; omega
  have KP := h.plan
  obtain ⟨M, hM⟩ := h.words
  have HT := fun bw bp gw cap W0 a b d => nodes_tells c hc ws L hF bw bp gw cap W0 a b d
  have HT := Lib.hid HT
  have HM := Lib.hid fun V hV => (hM V hV).1
  have HW := Lib.hid fun V hV => (hM V hV).2 hl
  have H8 : Hid (8 ≤ ws.length) := Lib.hid (by have := hF.len; omega)
  clear hM hl hz h hF
  go_enter Tryz.func47, Tryz.ntmps47
  go_wp2_with fail
  refine KP.mono ?_
  rintro e W1 ⟨rfl, hb⟩
  go_wp2_with fail
  refine (HM.out W1 hb).mono ?_
  rintro e W2 ⟨rfl, rfl⟩
  go_wp2_with fail
  refine (HW.out W1 hb).mono ?_
  rintro e W2 ⟨v, rfl, ho, hb2⟩
  rcases ho.2 with ⟨ev, hz⟩ | ⟨gw, cap, cur, ev, hgw, hcur, hx⟩
  · have := H8.out; omega
  have ho0 : W2.ownsRow 0 24 1 v ws.length (encU ws) := ⟨ho.1, .inr ⟨gw, cap, cur, ev, Nat.zero_le _, hcur, hx⟩⟩
  subst ev
  have HO := Lib.hid ho0
  have HB : Hid (Below W.heap.size W W2 ∧ W.heap.size ≤ gw ∧ W.heap.size ≤ W2.heap.size) := Lib.hid ⟨P.below_then hb hb2 (Nat.le_refl _), Nat.le_trans hb.size hgw, Nat.le_trans hb.size hb2.size⟩
  clear ho ho0 hb hb2 hgw hcur hx KP
  have ecv : c.v = .agg #[.int .i64 c.al, .int .i64 c.th, .int .i64 c.nd, .int .i64 c.lv, .int .i64 c.ba, .int .i64 c.pr, .int .i64 c.sc] := rfl
  go_wp2
  have h2 : Blk ((W2.alloc (.cells c.cs 33)).alloc (.cells #[.slice (some ⟨gw, 0, none⟩) ws.length cap] 43)) W2.heap.size 33 c.cs := (Blk.new _ _ _).alloc _
  have h3 : Boxed ((W2.alloc (.cells c.cs 33)).alloc (.cells #[.slice (some ⟨gw, 0, none⟩) ws.length cap] 43)) (W2.heap.size + 1) 43 (.slice (some ⟨gw, 0, none⟩) ws.length cap) := by
    have := Boxed.new (W2.alloc (.cells c.cs 33)) 43 (.slice (some ⟨gw, 0, none⟩) ws.length cap)
    rwa [World.size_alloc] at this
  have h4 := (HO.out.alloc (.cells c.cs 33)).alloc (.cells #[.slice (some ⟨gw, 0, none⟩) ws.length cap] 43)
  have h5 := HT.out _ _ _ _ _ h3 h2 h4
  refine bodyPost_ret (v := .func (.func 66) #[] #[at0 (W2.heap.size + 1), at0 W2.heap.size]) (by simp [results, Tryz.results47, go_sem]) rfl ⟨_, _, rfl, h5, fun k hk => ?_, (HB.out.1.alloc HB.out.2.2 _).alloc (by simp; have := HB.out.2.2; omega) _⟩
  have := HB.out
  rcases hk with rfl | rfl | rfl <;> omega
theorem nodes_nil_tells (bw bp : Nat) (W0 : World) (hw : Boxed W0 bw 43 (.slice none 0 0)) : Tells Tryz.prog encI (.func (.func 66) #[] #[at0 bw, at0 bp]) (fun k => k = bw) [] W0 := by
  refine ⟨⟨_, _, rfl⟩, fun k hk => by rw [hk]; exact hw.lt, ?_⟩
  intro W hW y J Jx O hyf hJ hJx hY hC h0
  have bw0 : Boxed W bw 43 (.slice none 0 0) := (hW bw rfl).trans hw
  have c1 := bw0.cell
  refine callsV_func (enters_of Tryz.func66 (by kernel_rfl) rfl) ?_
  refine (callsIn_wide (n := 9)).1 ?_
  refine callsIn_of_wp Tryz.func66 rfl trivial ?_ rfl
  simp only [Tryz.ntmps66, List.size_toArray, List.length_cons, List.length_nil, Nat.reduceAdd, Nat.reduceSub, Array.replicate_succ, Array.replicate_zero, List.push_toArray, List.append_toArray, List.nil_append, List.cons_append]
  gi_wp2
  refine bodyPost_ret (results_none rfl _ _ _) rfl ?_
  exact ⟨⟨_, rfl⟩, O, Keeps.refl _ _, Later.refl _ _, .inl h0⟩
theorem plan_nil (w : World) : Calls Tryz.prog 10 #[.pointer none] w fun e w' => e = .returned P.zc.v ∧ Below w.heap.size w w' := by
  go_enter Tryz.func10, Tryz.ntmps10
  go_wp2
  refine bodyPost_ret (v := P.zc.v) (by simp [results, Tryz.results10, go_sem]) rfl ⟨rfl, ?_⟩
  first | exact Below.refl _ _ | exact (Below.refl _ _).alloc (Nat.le_refl _) _
set_option maxHeartbeats 1000000 in
theorem nodes_nil (W : World) : Calls Tryz.prog 47 #[.pointer none] W (MakesN [] W) := by
  go_enter Tryz.func47, Tryz.ntmps47
  go_wp2_with fail
  refine (plan_nil W).mono ?_
  rintro e W1 ⟨rfl, hb⟩
  go_wp2_with fail
  refine (mem_nil W1).mono ?_
  rintro e W2 ⟨rfl, rfl⟩
  go_wp2_with fail
  refine (words_nil W1).mono ?_
  rintro e W2 ⟨rfl, rfl⟩
  have HB := Lib.hid hb
  clear hb
  go_wp2
  have h3 : Boxed ((W1.alloc (.cells P.zc.cs 33)).alloc (.cells #[.slice none 0 0] 43)) (W1.heap.size + 1) 43 (.slice none 0 0) := by
    have := Boxed.new (W1.alloc (.cells P.zc.cs 33)) 43 (.slice none 0 0)
    rwa [World.size_alloc] at this
  have h5 := nodes_nil_tells _ W1.heap.size _ h3
  have hs := HB.out.size
  refine bodyPost_ret (v := .func (.func 66) #[] #[at0 (W1.heap.size + 1), at0 W1.heap.size]) (by simp [results, Tryz.results47, go_sem]) rfl ⟨_, _, rfl, h5, fun k hk => by omega, (HB.out.alloc hs _).alloc (by simp; omega) _⟩
end Go.Proofs.YtemikojaldoofaaGreat
namespace Go.Proofs.YtemikojaldoofaaGreat
open Go.ChangeShapes Go.WideShapes Go.ChangeAt Go.RowKit Go.Shelf
set_option linter.unusedVariables false
set_option maxRecDepth 20000
attribute [local go_sem] Oper.semAt_some wide_fn

abbrev ints (xs : List Int) : List Value := xs.map (Value.int .i64)
/-- A slice in a variable, which owns the numbers xs. -/
def listJ (n₀ b : Nat) (xs : List Int) (O : Nat → Prop) (W : World) : Prop :=
  ∃ v, O = (fun k => k = b ∨ v.ownBlock = some k) ∧ Boxed W b 44 v ∧ W.ownsRow n₀ 3 1 v xs.length (ints xs)
theorem listJ_fits (n₀ b : Nat) : Fits (listJ n₀ b) := by
  rintro s O W ⟨v, rfl, hb, hr⟩
  refine ⟨fun k hk => ?_, fun W' hW => ⟨v, rfl, (hW _ (.inl rfl)).trans hb, ownsRow_agree hr (fun k hk => hW k (.inr hk))⟩⟩
  rcases hk with rfl | hk
  · exact hb.lt
  · exact (hr.lt k hk).2
/-- What Chain hands back. -/
def Listed (xs : List Int) (w : World) (e : Ending) (w' : World) : Prop :=
  ∃ v, e = .returned v ∧ w'.ownsRow w.heap.size 3 1 v xs.length (ints xs) ∧ Below w.heap.size w w'
theorem info3' : (Tryz.prog.info? 3).map (fun i => (i.zero, i.size, i.bytes)) = some (some (.int .i64 0), 1, 8) := by kernel_rfl

set_option maxRecDepth 100000 in
set_option maxHeartbeats 1000000 in
theorem chain_of (mv : Value) (xs : List Int) (w : World) (hlen : xs.length ≤ 1000) (hN : Calls Tryz.prog 47 #[mv] (w.alloc (.cells #[.slice none 0 0] 44)) (MakesN xs (w.alloc (.cells #[.slice none 0 0] 44)))) :
    Calls Tryz.prog 25 #[mv] w (Listed xs w) := by
  obtain ⟨i0, hi, hz0, hz1, hz2⟩ := info_parts info3'
  refine (callsIn_wide (n := 9)).1 ?_
  refine callsIn_of_wp_marks Tryz.func25 rfl trivial ?_ rfl
  simp only [Tryz.ntmps25, List.size_toArray, List.length_cons, List.length_nil, Nat.reduceAdd, Nat.reduceSub, Array.replicate_succ, Array.replicate_zero, List.push_toArray, List.append_toArray, List.nil_append, List.cons_append]
  gi_wp2_with (gi_at_call 47; refine (callsIn_wide.2 hN).mono ?_; rintro e WL ⟨lb, C, rfl, hT, hCw, hBa⟩)
  have q0 : Boxed WL w.heap.size 44 (.slice none 0 0) := (hBa.block _ (by simp)).trans (Boxed.new w 44 _)
  have hsL : w.heap.size + 1 ≤ WL.heap.size := by have := hBa.size; simpa using this
  have hBL : Below w.heap.size w WL := ((Below.refl _ _).alloc (Nat.le_refl _) _).trans (hBa.mono (by simp))
  clear hN
  refine wp_range (gf := 66) (lb := lb) rfl (enters_of Tryz.func66 (by kernel_rfl) rfl) hT (fun _ => rfl) (listJ w.heap.size w.heap.size) (fun _ _ _ _ => False) (listJ_fits _ _) (fun _ => fits_none)
    (fun k => k = w.heap.size ∨ (Value.slice none 0 0).ownBlock = some k) ⟨_, rfl, q0, World.ownsRow_nil _ _ _ _⟩ ?_
    (fun x => { tmps := #[mv, undef, .slice none 0 0, at0 w.heap.size, .int .i64 x, mv, .func (.func 66) #[] lb, .int .i64 x, undef, undef, undef, undef, undef], defers := [] }) ?assign ?body ?done ?stop
  case assign =>
    intro l x W K hK
    gi_wp2
    exact hK
  case body =>
    rintro l pre x O W hpre hk hL ⟨v, rfl, hv, hrow⟩
    have hc := hv.cell
    have hl1 : pre.length < 1000 := by have := hpre.length_le; simp at this; omega
    have hsz : w.heap.size ≤ W.heap.size := by have := hk.size; omega
    gi_wp2_with (gi_at_builtin; refine wpListIn_append_later _ rfl _ _ 44 rfl w.heap.size 3 i0 (.int .i64 0) 1 8 Tryz.underlying44 hi hz0 hz1 hz2 rfl (by decide) _ _ _ rfl (hrow.alloc _) ⟨W.heap.size, 0, none⟩ 1 1 [.int .i64 x] rfl rfl (cell_one_new _ _ _) (by simp [Value.oneCell']) (by simp only [maxLen]; omega) (by omega) (by simp; omega) ?_; intro v' w1 hown' hgrow _ hlat; obtain ⟨g', cap', rfl⟩ := ownsRow_succ hown'; obtain ⟨hv1, hv2, hr2, hk2, hb2⟩ := hv.appended (by decide) hrow hsz (Nat.le_refl _) hown' hgrow; have hc1 := hv1.cell; have hf1 := hv1.frozen)
    refine ⟨_, (((Keeps.refl _ W).alloc _).grown hgrow (fun k e => .inl (.inr e))).setCell (.inl (.inl rfl)) _, fun k h => ?_, _, rfl, hv2, by simpa using hr2⟩
    rcases h with h | h
    · exact .inl (.inl h)
    · rcases hlat with hlat | hlat
      · exact .inl (.inr (hlat ▸ h))
      · exact .inr (by have := hlat k h; simp at this; omega)
  case done =>
    rintro D O W hD hnD hk hL ⟨v, rfl, hv, hrow⟩ hK
    have hc := hv.cell
    gi_wp2
    refine ⟨by simp, .inl ⟨_, _, rfl, run_takeDeferred hK, ?_⟩⟩
    refine ⟨_, results_tmp rfl _ _ _, v, rfl, ownsRow_putObj hrow _ hK rfl, hBL.trans ((hk.putObj (.inr hD) _).below (by omega) (fun k h => ?_))⟩
    rcases h with h | h
    · omega
    · simp [Value.ownBlock] at h
  case stop =>
    rintro D c pre O W _ _ _ _ _ h _
    exact h.elim
  · intro k hk h
    rcases h with rfl | h
    · have := hCw _ hk
      simp at this
      omega
    · simp [Value.ownBlock] at h
variable {c : P.Cf} {B Fb T : Nat} {X : Nat → Prop} {W W' : World} {g t : Nat} {ws : List Int} {st : Int} {G : G.GS} {ts : Nat → Th}
theorem chain_any (hc : c.Ok) (h : Mac c B Fb T X (AS g t ws st G ts) W) {L : List Int} (hF : Free c ws L) : Calls Tryz.prog 25 #[at0 B] W (Listed L W) :=
  chain_of _ _ _ (by have := hF.short; have := hc.nd; omega) (nodes_any hc (h.alloc _) hF)
theorem chain_nil (W : World) : Calls Tryz.prog 25 #[.pointer none] W (Listed [] W) := chain_of _ _ _ (by simp) (nodes_nil _)
end Go.Proofs.YtemikojaldoofaaGreat
