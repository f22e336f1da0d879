/- The nine variables that the rows of texts list; the start that fits; the world's shape handed on. -/
import Derived.Test.YtdhdomeckloedaaDoorArg
import Derived.Test.YtdhdomeckloedaaDoorText
import Derived.Lay
import Derived.Handed
import Derived.ChangeArms
namespace Go.Proofs.YtdhdomeckloedaaDoor
open Go.Joins Go.ChangeShapes Go.WideShapes Go.ChangeAt Go.RowKit Go.Deep
set_option linter.unusedVariables false

/-- The wrap of a row with a list, the world's shape kept. -/
theorem returnsInHanded_of_change_and_shaped {H : Type} {enc : TypeId × Value → H} {a : Assume} {C : Checked} {os : Os} {f : FuncId} {fn : Func} {s : ChangeSpec} {conds : List PathCond} {apart fresh handsOn again : Bool} {X : World → Array Value → Prop}
    (hX : ∀ (w w' : World) (args : Array Value), w.heap = w'.heap → X w args → X w' args)
    (own : ownKnob C.prog.godebug = none) (started : os.Started) (noInit : C.prog.inits.idxOf? f = none) (hfn : C.prog.funcs[f]? = some fn)
    (witness : ∃ (w : World) (tape : Tape) (i : Input), w.os = os ∧ (w.forCall tape i).Shaped C.prog ∧ i.vars = [] ∧ Input.okWide C.prog (w.forCall tape i) .any w.heap.size f i ∧
      ((s.pre enc C.prog fn conds apart (w.forCall tape i).memory i.args ∧ X (w.forCall tape i).memory i.args) ∧ sizedMet enc C.prog fn (OpenSpec.ofChange s) apart (w.forCall tape i).memory i.args) ∧ a.holds C.prog (lone (Frame.enter C.prog f i.args .normal) [] (w.forCall tape i)))
    (contract : ∀ (W : World) (base : Nat) (args : Array Value) (ds gs : List (DataW H)) (before : List MemPlace),
      (∀ (j : Nat) t v, fn.params[j]? = some t → args[j]? = some v → Value.okWide C.prog W .any base t v) →
      DataW.Whole enc C.prog fn.params.toList s.vars apart W args.toList ds gs before →
      conds.all (PathCond.test C.prog ⟨fn.params.toList, ds, s.plain.varTypes C.prog, gs⟩) = true →
      (DataW.weightsEach C.prog (fn.params.toList ++ s.plain.varTypes C.prog) (ds ++ gs)).all (· ≤ reachBytes) = true → X W args → W.ShapedOpen C.prog →
      a.holds C.prog (lone (Frame.enter C.prog f args .normal) [] W) →
      Calls C.prog f args W fun e W' => ∃ v, e = .returned v ∧ s.post enc C.prog fn apart fresh handsOn again W args v W') :
    ReturnsInHanded a C os f .any (fun w args => (s.pre enc C.prog fn conds apart w args ∧ X w args) ∧ sizedMet enc C.prog fn (OpenSpec.ofChange s) apart w args) (s.post enc C.prog fn apart fresh handsOn again) := by
  refine returnsInHanded_of_calls own started noInit witness ?_
  intro w tape i _ hsh _ hok hpre hholds
  obtain ⟨_, _, _, fn', hfn', _, _, _, _, hval⟩ := hok
  have e : fn' = fn := Option.some.inj (hfn'.symm.trans hfn)
  subst e
  obtain ⟨⟨⟨ds, gs, before, hw, hc⟩, hx⟩, hz⟩ := hpre
  have hw' := DataW.Whole.of_heap (w' := w.forCall tape i) (by rfl) hw
  refine (contract (w.forCall tape i) w.heap.size i.args ds gs before hval hw' hc (hz.weights hw) (hX _ _ _ (by rfl) hx) hsh hholds).mono fun e W' ⟨v, he, hp⟩ => ?_
  subst he
  exact ChangeSpec.post_blind hp

abbrev laid9 : List (String × DataW Unit) := Rows.confTextsRow.laid
theorem cells_of_strs {H : Type} {enc : TypeId × Value → H} {P : Program} {w : World} {base : Nat} {sp : Nat → Bool} {held : Bool} {fuel : Nat} {t e : TypeId} {n : Nat} {cs : List Value} {zs : List (List UInt8)} {p : List MemPlace}
    (ht : P.underlying t = some (.array n e)) (he : P.underlying e = some .string) (hce : P.cellsOf e = 1) (hct : P.cellsOf t = n)
    (h : DataW.trod enc P w base sp held fuel t cs = some (.agg (zs.map fun z => .lit (.string z)), p)) : cs = zs.map strV := by
  cases fuel with
  | zero => simp [DataW.trod] at h
  | succ fuel =>
    simp only [DataW.trod, ht, hce, hct, Nat.mul_one] at h
    split at h
    · rename_i hl
      obtain ⟨xs, hm, hx⟩ := Option.map_eq_some_iff.1 h
      have hxs : xs.map (·.1) = zs.map fun z => (DataW.lit (.string z) : DataW H) := by
        have := congrArg Prod.fst hx
        simpa using this
      have hxl : xs.length = n := by simpa using Lib.mapM_length hm
      have hzl : zs.length = n := by
        have := congrArg List.length hxs
        simp at this
        omega
      apply List.ext_getElem?
      intro i
      by_cases hi : i < n
      · obtain ⟨b, hb, hf⟩ := Lib.mapM_at hm i i (by simp [hi])
        obtain ⟨s, hc, rfl, _⟩ := DataW.trod_string he hf
        have h1 : cs[i]? = some (.string s) := by
          have := congrArg (·[0]?) hc
          simpa [List.getElem?_take, List.getElem?_drop] using this
        have h2 : (xs.map (·.1))[i]? = some (DataW.lit (.string s.data.toList) : DataW H) := by simp [hb]
        rw [hxs] at h2
        simp only [List.getElem?_map, Option.map_eq_some_iff, DataW.lit.injEq, Lit.string.injEq] at h2
        obtain ⟨z', hz', rfl⟩ := h2
        simp [h1, hz']
      · rw [List.getElem?_eq_none (by omega), List.getElem?_eq_none (by simp; omega)]
    · cases h
theorem env_of_laid {W : World} (h : laidMetH Tryd.prog laid9 W) (hs : W.ShapedOpen Tryd.prog) : Env W := by
  rw [MakeChecks.laidMetH_plain _ _ _ (by kernel_rfl)] at h
  obtain ⟨ps, ⟨_, _, _, _, _, _, _, _, _, _, ⟨_, _, _, _, _, _, _, _, _, _, ⟨_, _, _, _, _, _, _, _, _, _, ⟨_, _, _, _, _, _, _, _, _, _, ⟨g0, t0, cs0, f0, p0, q0, hg0, ht0, hv0, hd0, ⟨g1, t1, cs1, f1, p1, q1, hg1, ht1, hv1, hd1, ⟨g2, t2, cs2, f2, p2, q2, hg2, ht2, hv2, hd2, ⟨g3, t3, cs3, f3, p3, q3, hg3, ht3, hv3, hd3, _⟩, _⟩, _⟩, _⟩, _⟩, _⟩, _⟩, _⟩, _⟩ := h
  have G0 : Tryd.prog.globalNamed "jostle/conf.least" = some 0 := by kernel_rfl
  have G1 : Tryd.prog.globalNamed "jostle/conf.most" = some 1 := by kernel_rfl
  have G2 : Tryd.prog.globalNamed "jostle/conf.algos" = some 2 := by kernel_rfl
  have G3 : Tryd.prog.globalNamed "jostle/conf.names" = some 3 := by kernel_rfl
  have T0 : (Tryd.prog.globals[0]?).map (·.type) = some 41 := by kernel_rfl
  have T1 : (Tryd.prog.globals[1]?).map (·.type) = some 41 := by kernel_rfl
  have T2 : (Tryd.prog.globals[2]?).map (·.type) = some 60 := by kernel_rfl
  have T3 : (Tryd.prog.globals[3]?).map (·.type) = some 61 := by kernel_rfl
  obtain rfl := Option.some.inj (G0.symm.trans hg0)
  obtain rfl := Option.some.inj (T0.symm.trans ht0)
  obtain rfl := Option.some.inj (G1.symm.trans hg1)
  obtain rfl := Option.some.inj (T1.symm.trans ht1)
  obtain rfl := Option.some.inj (G2.symm.trans hg2)
  obtain rfl := Option.some.inj (T2.symm.trans ht2)
  obtain rfl := Option.some.inj (G3.symm.trans hg3)
  obtain rfl := Option.some.inj (T3.symm.trans ht3)
  have e0 : cs0.toList = [0, 1, 1, 1, 1, 1, 1].map fun z => Value.int .i64 z := Lib.cells_of_tab (k := .i64) (zs := [0, 1, 1, 1, 1, 1, 1]) (n := 7) (e := 3) Tryd.underlying41 Tryd.underlying3 (by kernel_rfl) (by kernel_rfl) hd0
  have e1 : cs1.toList = [2, 6, 64, 6, 16, 16, 64].map fun z => Value.int .i64 z := Lib.cells_of_tab (k := .i64) (zs := [2, 6, 64, 6, 16, 16, 64]) (n := 7) (e := 3) Tryd.underlying41 Tryd.underlying3 (by kernel_rfl) (by kernel_rfl) hd1
  have e2 : cs2.toList = [[109, 111, 117, 110, 100], [115, 117, 110, 100, 101, 108, 108], [108, 105, 110, 100, 101, 110]].map strV := cells_of_strs (zs := [[109, 111, 117, 110, 100], [115, 117, 110, 100, 101, 108, 108], [108, 105, 110, 100, 101, 110]]) (n := 3) (e := 9) Tryd.underlying60 Tryd.underlying9 (by kernel_rfl) (by kernel_rfl) hd2
  have e3 : cs3.toList = [[116, 104, 114, 101, 97, 100, 115], [110, 111, 100, 101, 115], [108, 101, 118, 101, 108], [98, 97, 116, 99, 104], [112, 114, 111, 98, 101, 115], [115, 99, 97, 110]].map strV := cells_of_strs (zs := [[116, 104, 114, 101, 97, 100, 115], [110, 111, 100, 101, 115], [108, 101, 118, 101, 108], [98, 97, 116, 99, 104], [112, 114, 111, 98, 101, 115], [115, 99, 97, 110]]) (n := 6) (e := 9) Tryd.underlying61 Tryd.underlying9 (by kernel_rfl) (by kernel_rfl) hd3
  have v2 := Glob.of_var G2 hv2
  have v3 := Glob.of_var G3 hv3
  obtain ⟨l2⟩ := cs2
  obtain ⟨l3⟩ := cs3
  simp only at e2 e3
  rw [e2] at v2
  rw [e3] at v3
  exact ⟨⟨glob_ints G0 hv0 e0, glob_ints G1 hv1 e1⟩, v2, v3, sh.laysM147.s1_3 W hs⟩
end Go.Proofs.YtdhdomeckloedaaDoor
