/- Keep of a pile of numbers. -/
import Derived.Test.YtdhakdgbeokebaaHas
namespace Go.Proofs.Ytdhakdgbeokebaa
open Go.RowKit Go.Shelf
set_option linter.unusedVariables false
attribute [local go_sem] Oper.semAt_some wide_fn

/-- What Keep leaves. -/
def Kept (B : Nat) (xs : List Int) (p : Int → Bool) (O : Nat → Prop) (w : World) (e : Ending) (w' : World) : Prop :=
  e = .returned (.int .i64 ((xs.length : Int) - ((xs.filter p).length : Int))) ∧ Turned 26 3 B (ints (xs.filter p)) O w w'

set_option maxRecDepth 100000 in
set_option maxHeartbeats 4000000 in
theorem keep_any (B : Nat) (xs : List Int) (O : Nat → Prop) (kv : Value) (Ck : Nat → Prop) (p : Int → Bool) (w : World) (hp : Held 26 3 B (ints xs) O w) (hkv : Gives kv Ck (fun x => .bool (p x)) w) (hR : ∀ x ∈ xs, InR x) (hlen : xs.length ≤ 1000000000) :
    Calls Try.prog 11 #[at0 B, kv] w (Kept B xs p O w) := by
  obtain ⟨v, rfl, hb, hr⟩ := hp
  rw [ints_len] at hr
  have hrd := row_reads hr
  obtain ⟨a, cap, rfl, hcap, hmx⟩ := hr.form
  have c := hb.cell
  obtain ⟨n, hn⟩ : ∃ n, xs.length = n := ⟨_, rfl⟩
  rw [hn] at hrd c hb hr
  have HR := Lib.hid hrd
  have HN := Lib.hid hn
  rw [hn] at hlen ⊢
  clear hn hrd hcap
  obtain ⟨i0, hi, hz0, hz1, hz2⟩ := info_parts Try.info3
  obtain ⟨kf, kc, rfl, ekf, -⟩ := hkv.func
  have lb := hb.lt
  have qf : ∀ fn caps w, (binOp .eql 35 (.func fn #[] caps) .nilFunc).run Try.prog w = .ok (.bool false) w := fun _ _ _ => by kernel_rfl
  refine (callsIn_wide (n := 9)).1 ?_
  refine callsIn_of_wp_marks Try.func11 rfl trivial ?_ rfl
  simp only [Try.ntmps11, List.size_toArray, List.length_cons, List.length_nil, Nat.reduceAdd, Nat.reduceSub, Array.replicate_succ, Array.replicate_zero, List.push_toArray, List.append_toArray, List.nil_append, List.cons_append]
  gi_wp2_with (gi_at_call 16; refine (callsIn_wide.2 (len_any B n cap a _ hb (by omega))).mono ?_; rintro e w' ⟨rfl, rfl⟩)
  have hb0 : Below w.heap.size w (w.alloc (.cells #[.slice none 0 0] 24)) := (Below.refl _ _).alloc (Nat.le_refl _) _
  refine (callsIn_wide.2 (of_makes _ xs _ (reads_below HR.out hb0) (by rw [HN.out]; exact hlen))).mono ?_
  rintro e w1 ⟨g1, lb1, C1, rfl, -, hT1, hC1, hb1⟩
  have hkv1 : Gives (.func (.func kf) #[] kc) Ck (fun x => .bool (p x)) w1 := hkv.later (fun k h => (hb1.block k (by have := hkv.lt k h; simp; omega)).trans (hb0.block k (hkv.lt k h)))
  gi_wp2_with fail
  refine (callsIn_wide.2 (only_makes _ _ C1 _ xs p _ (.inr hT1) hkv1 hR)).mono ?_
  rintro e WL ⟨g2, lb2, C2, rfl, eg, hT2, hC2, hb2⟩
  gi_wp2
  have hs1 := hb1.size
  have hs2 := hb2.size
  simp at hs1
  have hBL : Below (w.heap.size + 1) (w.alloc (.cells #[.slice none 0 0] 24)) WL := by
    have := hb1.trans (hb2.mono hb1.size); simpa using this
  have q0 : Boxed WL w.heap.size 24 (.slice none 0 0) := (hBL.block _ (by omega)).trans (Boxed.new w 24 _)
  have qB : Boxed WL B 26 (.slice a n cap) := (hBL.block _ (by omega)).trans (hb.alloc _)
  have hBW : Below w.heap.size w WL := hb0.trans (hBL.mono (by omega))
  have hfl : (xs.filter p).length ≤ n := by rw [← HN.out]; exact List.length_filter_le _ _
  refine wp_range (gf := g2) (lb := lb2) rfl eg hT2 (fun _ => rfl) (fun pre => Held 24 3 w.heap.size (ints pre)) (fun _ _ _ _ => False) (fun s O W h => Held.fits 24 3 _ (ints s) O W h) (fun _ => fits_none)
    (fun k => k = w.heap.size ∨ (Value.slice none 0 0).ownBlock = some k) ⟨_, rfl, q0, Row.nil _ _⟩ ?_
    (fun x => { tmps := #[at0 B, .func (.func kf) #[] kc, undef, undef, .int .i64 0, .int .i64 n, at0 w.heap.size, .int .i64 x, at0 B, .bool false, .bool false, .func (.func kf) #[] kc, .bool false, .bool false, at0 B, .int .i64 n, at0 B, at0 B, at0 B, .slice a n cap, .func (.func g1) #[] lb1, .func (.func kf) #[] kc, .func (.func g2) #[] lb2, .int .i64 x, undef, undef, undef, undef, undef, undef, undef, undef, undef, undef, undef, undef], defers := [] }) ?assign ?body ?done ?stop
  case assign =>
    intro l x W K hK
    gi_wp2
    exact hK
  case body =>
    rintro l pre x O W hpre hk hL ⟨v, rfl, hv, hrow⟩
    have hl1 : pre.length + 1 ≤ 1000000000 := by have := hpre.length_le; simp at this; omega
    rw [ints_len] at hrow
    obtain ⟨a1, cap1, rfl, _, _⟩ := hrow.form
    have hc := hv.cell
    gi_wp2_with (gi_at_builtin; refine wpListIn_append_row _ rfl _ _ 24 rfl 3 i0 (.int .i64 0) 8 Try.underlying24 hi hz0 hz1 hz2 rfl (by decide) _ _ _ rfl (hrow.alloc _) ⟨W.heap.size, 0, none⟩ 1 (.int .i64 x) rfl (by simp) (by simp [Value.oneCell']) hl1 ?_; intro v' w1 hr' hg hlat; obtain ⟨a', cap', rfl, _, _⟩ := hr'.form; obtain ⟨hv1, hT⟩ := Held.appended (by decide) hv hrow (ys := ints (pre ++ [x])) (by simpa using hr') hg hlat; have hc1 := hv1.cell; have hf1 := hv1.frozen)
    obtain ⟨O', k', l', h'⟩ := hT
    exact ⟨O', k', l', h'⟩
  case done =>
    rintro D O W hD hnD hk hL ⟨v, rfl, hv, hrow⟩ hK
    have hbB : Boxed W B 26 (.slice a n cap) := hk.boxed qB (fun h => by rcases h with h | h; omega; cases h)
    rw [ints_len] at hrow
    obtain ⟨m, hm⟩ : ∃ m, (xs.filter p).length = m := ⟨_, rfl⟩
    rw [hm] at hrow hfl
    have HM := Lib.hid hm
    clear hm
    obtain ⟨a1, cap1, rfl, _, _⟩ := hrow.form
    have hc := hv.cell
    have hcB := hbB.cell
    have hfB := hbB.frozen
    have hBne : w.heap.size ≠ B := by omega
    have hc2 : (W.setCell ⟨B, 0, none⟩ (.slice a1 m cap1)).cell? ⟨w.heap.size, 0, none⟩ = some (.slice a1 m cap1) := (hv.other hBne _).cell
    have hK2 := (KeepsOthers.setCell W ⟨B, 0, none⟩ (.slice a1 m cap1)).same D _ hK rfl
    have hkk : Keeps (fun k => k = B ∨ (Value.slice a n cap).ownBlock = some k) w ((W.setCell ⟨B, 0, none⟩ (.slice a1 m cap1)).putObj D (.deferred none)) := by
      refine ((((Keeps.of_below (O := fun k => k = B ∨ (Value.slice a n cap).ownBlock = some k) hBW)).trans (hk.mono (O' := fun k => k = w.heap.size) (fun k h => ?_)) (fun k h => .inr (by omega))).setCell (p := ⟨B, 0, none⟩) (.inl (.inl rfl)) _).putObj (.inr (by omega)) _
      rcases h with h | h
      · exact .inl h
      · cases h
    gi_wp2
    refine ⟨by simp, .inl ⟨_, _, rfl, run_takeDeferred hK2, ?_⟩⟩
    refine ⟨_, results_tmp rfl _ _ _, ?_, fun k => k = B ∨ (Value.slice a1 m cap1).ownBlock = some k, hkk, fun k h => ?_, _, rfl, ?_, ?_⟩
    · rw [HN.out, HM.out]; rfl
    · rcases h with h | h
      · exact .inl (.inl h)
      · rcases hL k (.inr h) with (h2 | h2) | h2
        · exact .inr (by omega)
        · cases h2
        · exact .inr (by omega)
    · exact (World.putObj_heap_other (fun e => by omega)).trans (hbB.set _)
    · rw [ints_len, HM.out]
      exact (hrow.setCell (p := ⟨B, 0, none⟩) (hrow.not_box hbB (by decide)) _).agree fun k h => World.putObj_heap_other (fun e => hnD (by subst e; exact .inr h))
  case stop =>
    rintro D c pre O W _ _ _ _ _ h _
    exact h.elim
  · intro k hk h
    rcases h with rfl | h
    · rcases hC2 _ hk with (h | h) | h
      · rcases hC1 _ h with h | h
        · exact h
        · simp at h; omega
      · have := hkv.lt _ h; omega
      · omega
    · cases h
end Go.Proofs.Ytdhakdgbeokebaa
