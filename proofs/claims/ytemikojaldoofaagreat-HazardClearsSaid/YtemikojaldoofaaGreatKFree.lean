/- What layFree and laySentinels do. -/
import Derived.Test.YtemikojaldoofaaGreatKLay
namespace Go.Proofs.YtemikojaldoofaaGreat
open Go.ChangeShapes Go.WideShapes Go.ChangeAt Go.RowKit
set_option linter.unusedVariables false

set_option maxRecDepth 20000

theorem MTurn.below {B : Nat} {c : P.Cf} {F T : Nat} {ms : MS} {gs : Gh} {bad : Bool} {O : Nat → Prop} {w W W' : World} (h : MTurn B c F T ms gs bad O w W) (hb : Below W.heap.size W W') : MTurn B c F T ms gs bad O w W' := by
  obtain ⟨O', k, l, m⟩ := h
  exact ⟨O', k.trans (Keeps.of_below (O := O') hb) l, l, m.below hb⟩
theorem MTurn.cells {B : Nat} {c : P.Cf} {F T : Nat} {ms : MS} {gs : Gh} {bad : Bool} {O : Nat → Prop} {w W : World} (h : MTurn B c F T ms gs bad O w W) :
    W.cell? ⟨B, 0, none⟩ = some (.int .i64 c.al) ∧ W.cell? ⟨B, 1, none⟩ = some (.int .i64 c.th) ∧ W.cell? ⟨B, 2, none⟩ = some (.int .i64 c.nd) ∧ W.cell? ⟨B, 3, none⟩ = some (.int .i64 c.lv) ∧
    W.cell? ⟨B, 4, none⟩ = some (.int .i64 c.ba) ∧ W.cell? ⟨B, 5, none⟩ = some (.int .i64 c.pr) ∧ W.cell? ⟨B, 6, none⟩ = some (.int .i64 c.sc) := by
  obtain ⟨O', k, l, M, Om, hO, hb, _⟩ := h
  obtain ⟨c0, c1, c2, c3, c4, c5, c6, _⟩ := mach_plan hb
  exact ⟨c0, c1, c2, c3, c4, c5, c6⟩

/-- A memory of n words that nobody watches, of s steps at most. -/
structure Calm (ms : MS) (n s : Nat) : Prop where
  len : ms.ws.length = n
  st0 : 0 ≤ ms.st
  st1 : ms.st ≤ s
  wa : ms.wa = false
  log : ms.log = []
theorem Calm.fine {ms : MS} {n s : Nat} (h : Calm ms n s) (hn : n ≤ 4096) (hs : s ≤ 1000000) : ms.fine := ⟨h.st0, by have := h.st1; omega, by rw [h.log]; simp, by rw [h.len]; exact hn⟩
theorem Calm.msR {ms : MS} {n s : Nat} (h : Calm ms n s) (k a b o x p q : Int) : Calm (msR ms k a b o x p q) n (s + 1) := by
  unfold Go.Proofs.YtemikojaldoofaaGreat.msR
  split
  · exact ⟨by simp [MS.counted, act_len, h.len], by have := h.st0; simp [MS.counted]; omega, by have := h.st1; simp [MS.counted]; omega, h.wa, by simp [MS.counted, h.wa, h.log]⟩
  · exact ⟨h.len, h.st0, by have := h.st1; omega, h.wa, h.log⟩
theorem Calm.put {ms : MS} {n s : Nat} (h : Calm ms n s) (a x : Int) : Calm (ms.put a x) n (s + 1) := h.msR _ _ _ _ _ _ _
theorem Calm.mono {ms : MS} {n s s' : Nat} (h : Calm ms n s) (hs : s ≤ s') : Calm ms n s' := ⟨h.len, h.st0, by have := h.st1; omega, h.wa, h.log⟩

/-- The links of k nodes, from f on, are laid. -/
def linksMS (c : P.Cf) (f : Int) (ms : MS) : Nat → MS
  | 0 => ms
  | k + 1 => (linksMS c f ms k).put (c.link (f + k)) (f + k + 1)
theorem Calm.links {ms : MS} {n s : Nat} (h : Calm ms n s) (c : P.Cf) (f : Int) : ∀ k, Calm (linksMS c f ms k) n (s + k)
  | 0 => h
  | k + 1 => (Calm.links h c f k).put _ _
def freeMS (c : P.Cf) (ms : MS) : MS := linksMS c (P.sent c.al + 1) ((ms.put 0 ((P.sent c.al + 1) * 2)).put 2 1) (c.nd - (P.sent c.al + 1)).toNat
theorem Calm.free {ms : MS} {n s : Nat} (h : Calm ms n s) (c : P.Cf) (hc : c.Ok) : Calm (freeMS c ms) n (s + 70) :=
  (Calm.links ((h.put _ _).put _ _) c _ _).mono (by have := hc.nd; have := P.sent_in c.al; omega)
theorem link_at {c : P.Cf} (h : c.Ok) {n : Int} (h0 : 1 ≤ n) (h1 : n ≤ c.nd) : c.link n = c.o2 + (n - 1) ∧ 0 ≤ c.link n ∧ c.link n < c.size := by
  have e : c.link n = c.o2 + (n - 1) := by
    unfold P.Cf.link
    rw [P.addrN_yes (by omega)]; omega
  obtain ⟨s1, s2, s3, s4, s5⟩ := h.steps
  have := h.width
  have h3 : c.o3 = c.o2 + c.nd * 1 := rfl
  exact ⟨e, by omega, by omega⟩

theorem field_nd (c : P.Cf) (w : World) : (Instr.field 23 c.v 2).run Tryz.prog w = .ok (.int .i64 c.nd) w := by kernel_rfl
theorem field_lv (c : P.Cf) (w : World) : (Instr.field 23 c.v 3).run Tryz.prog w = .ok (.int .i64 c.lv) w := by kernel_rfl

set_option maxHeartbeats 8000000 in
theorem free_any (B : Nat) (c : P.Cf) (F T : Nat) (ms : MS) (gs : Gh) (bad : Bool) (O : Nat → Prop) (s : Nat) (w : World) (hc : c.Ok) (h : MachAt B c F T ms gs bad O w) (hs : Calm ms c.size.toNat s) (hs1 : s ≤ 1000) :
    Calls Tryz.prog 39 #[at0 B] w (MDoes B c F T (.tuple #[]) (freeMS c ms) gs bad O w) := by
  obtain ⟨d1, d2⟩ := P.sent_in c.al
  have hnd := hc.nd
  have hn0 := hc.n0
  have hsz := hc.steps
  have K49 := P.sentinelsM_any c
  have K17 := P.conf_any c
  have K73 : ∀ a W, P.I64 a → Calls Tryz.prog 64 #[c.v, .int .i64 a] W fun e w' => e = .returned (.int .i64 (c.link a)) ∧ Below W.heap.size W w' := fun a W ha => P.link_ok c a W hc ha
  have HE : Hid (freeMS c ms = linksMS c (P.sent c.al + 1) ((ms.put 0 ((P.sent c.al + 1) * 2)).put 2 1) (c.nd - (P.sent c.al + 1)).toNat) := Lib.hid rfl
  have HC := Lib.hid hc
  have hT0 := MTurn.refl h
  clear hc h
  generalize P.sent c.al = d at *
  generalize freeMS c ms = fin at *
  obtain ⟨c0, c1, c2, c3, c4, c5, c6⟩ := hT0.cells
  go_enter Tryz.func39, Tryz.ntmps39
  go_wp2_with fail
  refine (K49 _).mono ?_
  rintro e w1 ⟨rfl, hB⟩
  have hT1 := hT0.below hB
  clear hB hT0 c0 c1 c2 c3 c4 c5 c6
  go_wp2_with fail
  refine (point_any _ _ (by omega) (by omega)).mono ?_
  rintro e w2 ⟨rfl, hB⟩
  obtain ⟨O2, k2, l2, h2⟩ := hT1.below hB
  have K := lay_any B c F T ms gs bad O2 0 ((d + 1) * 2) w2 h2 (hs.fine (by omega) (by omega)) (by rw [hs.len]; omega)
  have KL : Hid (∀ w', MTurn B c F T (ms.put 0 ((d + 1) * 2)) gs bad O2 w2 w' → MTurn B c F T (ms.put 0 ((d + 1) * 2)) gs bad O w w') := Lib.hid fun w' h => MTurn.from k2 l2 h
  clear hB hT1 k2 l2 h2
  have s2 := hs.put 0 ((d + 1) * 2)
  generalize ms.put 0 ((d + 1) * 2) = ms2 at *
  go_wp2_with fail
  refine K.mono ?_
  rintro e w3 ⟨rfl, hT⟩
  obtain ⟨O3, k3, l3, h3⟩ := KL.out _ hT
  have K := lay_any B c F T ms2 gs bad O3 2 1 w3 h3 (s2.fine (by omega) (by omega)) (by rw [s2.len]; omega)
  have KL2 : Hid (∀ w', MTurn B c F T (ms2.put 2 1) gs bad O3 w3 w' → MTurn B c F T (ms2.put 2 1) gs bad O w w') := Lib.hid fun w' h => MTurn.from k3 l3 h
  clear KL hT k3 l3 h3
  have s3 := s2.put 2 1
  generalize ms2.put 2 1 = ms3 at *
  go_wp2_with fail
  refine K.mono ?_
  rintro e w4 ⟨rfl, hT⟩
  have HT := Lib.hid (KL2.out _ hT)
  clear hT K KL2 s2 hs
  have HS := Lib.hid s3
  clear s3
  go_wp2
  go_loopw [3] (fun i wr => ∃ k : Nat, d + 1 + k ≤ c.nd ∧ i = .int .i64 (d + 1 + k) ∧ Hid (MTurn B c F T (linksMS c (d + 1) ms3 k) gs bad O w wr)) (fun i _ => 100 - (intOf i).toNat)
  case atStart => exact ⟨0, by omega, by simp, HT⟩
  case round =>
    obtain ⟨k, hk, rfl, HR⟩ := hrel
    obtain ⟨c0, c1, c2, c3, c4, c5, c6⟩ := HR.out.cells
    clear HT
    go_wp2_with fail
    refine (K17 _).mono ?_
    rintro e v1 ⟨rfl, hB⟩
    have HR1 := Lib.hid (HR.out.below hB)
    clear HR hB c0 c1 c2 c3 c4 c5 c6
    have qf := field_nd c
    by_cases hlt : d + 1 + k < c.nd
    · obtain ⟨c0, c1, c2, c3, c4, c5, c6⟩ := HR1.out.cells
      have hi : P.I64 (d + 1 + k) := ⟨by omega, by omega⟩
      obtain ⟨-, e1, e2⟩ := link_at HC.out (n := d + 1 + k) (by omega) (by omega)
      have hsk := HS.out.links c (d + 1) k
      go_wp2_with fail
      refine (K73 _ _ hi).mono ?_
      rintro e v2 ⟨rfl, hB⟩
      obtain ⟨O5, k5, l5, h5⟩ := HR1.out.below hB
      have K := lay_any B c F T _ gs bad O5 (c.link (d + 1 + k)) (d + 1 + k + 1) v2 h5 (hsk.fine (by omega) (by omega)) (by rw [hsk.len]; omega)
      have KL3 : Hid (∀ w', MTurn B c F T ((linksMS c (d + 1) ms3 k).put (c.link (d + 1 + k)) (d + 1 + k + 1)) gs bad O5 v2 w' → MTurn B c F T (linksMS c (d + 1) ms3 (k + 1)) gs bad O w w') := Lib.hid fun w' h => MTurn.from k5 l5 h
      clear c0 c1 c2 c3 c4 c5 c6 HR1 hB k5 l5 h5 hsk
      have hw1 : IntKind.i64.wrap (d + 1 + k + 1) = d + 1 + k + 1 := IntWalk.i64_in _ (by omega)
      have hw2 : IntKind.u64.wrap (d + 1 + k + 1) = d + 1 + k + 1 := IntWalk.u64_in _ (by omega)
      generalize c.link (d + 1 + k) = la at *
      go_wp2_with fail
      refine K.mono ?_
      rintro e v3 ⟨rfl, hT⟩
      have HR2 := Lib.hid (KL3.out _ hT)
      clear hT KL3 K
      go_wp2
      go_roundw
      case rel => exact ⟨k + 1, by omega, by go_num, HR2⟩
      case measure => simp [intOf]; omega
    · have hkk : k = (c.nd - (d + 1)).toNat := by omega
      subst hkk
      have HF : Hid (MTurn B c F T fin gs bad O w v1) := Lib.hid (by rw [HE.out]; exact HR1.out)
      clear HR1
      go_wp2
      go_end0
      exact ⟨rfl, HF.out⟩
end Go.Proofs.YtemikojaldoofaaGreat
