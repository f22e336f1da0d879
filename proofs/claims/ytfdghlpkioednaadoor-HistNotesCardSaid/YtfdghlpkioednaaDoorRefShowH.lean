/- Show, by the document. -/
import Derived.Test.YtfdghlpkioednaaDoorShowH
namespace Go.Proofs.YtfdghlpkioednaaDoor
open Go.ChangeShapes Go.WideShapes Go.ChangeAt Go.RowKit
set_option linter.unusedVariables false

theorem lineT_parts (e : Ev) (S : List UInt8) : S ++ lineT e = (((S ++ thT e.t) ++ [32, signT e.b, 32]) ++ saidT e) ++ [10] := by simp [lineT]
set_option maxRecDepth 100000 in
set_option maxHeartbeats 8000000 in
theorem rshow_any (s : Sl) (l : List Ev) (w : World) (h : Reads w s 8 (encE l)) (hf : ∀ e ∈ l, FitE e) (hl : l.length ≤ 1000) : Calls Tryd.prog 18 #[.slice s.a s.n s.cap] w fun x w' => x = .returned (strV (textT l)) ∧ Below w.heap.size w w' := by
  have hn := h.lenE
  have hroom := h.room
  unfold maxLen at hroom
  have HR := Lib.hid h
  have HF := Lib.hid hf
  clear h hf
  obtain ⟨sa, sn, sc⟩ := s
  dsimp only at *
  subst hn
  go_enter Tryd.func18, Tryd.ntmps18
  go_wp2_with fail
  go_loopw [3, 4] (fun v i W => ∃ (k : Nat) (S : List UInt8), k ≤ l.length ∧ i = .int .i64 k ∧ v = strV S ∧ Hid (S = textT (l.take k)) ∧ Hid (Below w.heap.size w W)) (fun _ i _ => l.length - (intOf i).toNat)
  case atStart => exact ⟨0, [], by omega, rfl, rfl, Lib.hid rfl, Lib.hid (Below.refl _ _)⟩
  case round =>
    obtain ⟨k, S, hk, rfl, rfl, HS, HB⟩ := hrel
    by_cases hkn : k < l.length
    · obtain ⟨b, off, rfl, x0, x1, x2, x3, x4, x5, x6, x7⟩ := (HR.out.below HB.out).ev hkn
      have gk : (k : Int) < l.length := by omega
      have w2 := IntWalk.i64_in ((k : Int) + 1) (by omega)
      have hfe := HF.out _ (List.mem_of_getElem? (ith_lt hkn))
      have hnx := textT_next hkn
      rw [← HS.out, lineT_parts] at hnx
      have htl := textT_len (l := l.take k) fun e he => HF.out e (List.mem_of_mem_take he)
      rw [List.length_take, ← HS.out] at htl
      have hS : S.length ≤ 42000 := by omega
      have l1 := thT_len (ith l k).t
      have l2 := saidT_len hfe
      have KS := fun W => refShow_any (ith l k).c hfe.c W
      have KA := fun W => refTell_any (ith l k).a hfe.a W
      have hsd : saidT (ith l k) = if (ith l k).b then tellT (ith l k).a else showT (ith l k).c := rfl
      have hti := hfe.t
      have htt : thT (ith l k).t = if 0 ≤ (ith l k).t ∧ (ith l k).t ≤ 5 then Lib.decDigits (ith l k).t.toNat else [63] := rfl
      have HNX := Lib.hid hnx
      have HEV := Lib.hid fun W hb => (HR.out.below (V := W) hb).ev hkn
      clear hnx HS HF HR htl hfe
      generalize ith l k = e at *
      generalize saidT e = sd at *
      generalize thT e.t = th at *
      obtain ⟨t, b', ⟨c1, c2, c3⟩, ⟨a1, a2, a3⟩⟩ := e
      dsimp only [Ev.v, Ev.cs, Tri.v] at *
      by_cases hr : 0 ≤ t ∧ t ≤ 5
      · rw [if_pos hr] at htt
        obtain ⟨t, rfl⟩ := Int.eq_ofNat_of_zero_le hr.1
        have KD := fun w => refDigits_q t (by omega) w
        rw [Int.toNat_natCast] at htt
        rw [← htt] at KD
        have g1 : (t : Int) < 6 := by omega
        have wu : IntKind.u64.wrap (t : Int) = t := IntWalk.u64_in _ (by omega)
        clear htt
        cases b' with
        | false =>
          simp only [Bool.false_eq_true, if_false] at hsd
          rw [← hsd] at KS
          clear KA hsd
          have q1 := fun w => add_strs S th (by omega) (by omega) w
          have q2 := fun w => add_strs (S ++ th) [32, 60, 32] (by simp; omega) (by decide) w
          have q3 := fun w => add_strs (S ++ th ++ [32, 60, 32]) sd (by simp; omega) (by omega) w
          have q4 := fun w => add_strs (S ++ th ++ [32, 60, 32] ++ sd) [10] (by simp; omega) (by decide) w
          simp only [List.append_assoc, List.cons_append, List.nil_append] at q1 q2 q3 q4
          go_wp2_with fail
          refine (KD _).mono ?_
          rintro x w5 ⟨rfl, rfl⟩
          clear KD
          go_wp2_with fail
          refine (KS _).mono ?_
          rintro x w3 ⟨rfl, hb⟩
          have HB3 := Lib.hid (below_then HB.out hb)
          clear KS hb HEV
          go_wp2
          go_roundw
          case rel => exact ⟨k + 1, S ++ (th ++ 32 :: 60 :: 32 :: (sd ++ [10])), by omega, by go_num, rfl, Lib.hid (by rw [HNX.out]; simp [signT]), HB3⟩
          case measure => simp [intOf]; omega
        | true =>
          simp only [if_true] at hsd
          rw [← hsd] at KA
          clear KS hsd
          have q1 := fun w => add_strs S th (by omega) (by omega) w
          have q2 := fun w => add_strs (S ++ th) [32, 62, 32] (by simp; omega) (by decide) w
          have q3 := fun w => add_strs (S ++ th ++ [32, 62, 32]) sd (by simp; omega) (by omega) w
          have q4 := fun w => add_strs (S ++ th ++ [32, 62, 32] ++ sd) [10] (by simp; omega) (by decide) w
          simp only [List.append_assoc, List.cons_append, List.nil_append] at q1 q2 q3 q4
          go_wp2_with fail
          refine (KD _).mono ?_
          rintro x w5 ⟨rfl, rfl⟩
          clear KD
          go_wp2_with fail
          refine (KA _).mono ?_
          rintro x w3 ⟨rfl, hb⟩
          have HB3 := Lib.hid (below_then HB.out hb)
          clear KA hb HEV
          go_wp2
          go_roundw
          case rel => exact ⟨k + 1, S ++ (th ++ 32 :: 62 :: 32 :: (sd ++ [10])), by omega, by go_num, rfl, Lib.hid (by rw [HNX.out]; simp [signT]), HB3⟩
          case measure => simp [intOf]; omega
      · rw [if_neg hr] at htt
        subst htt
        by_cases hr0 : 0 ≤ t
        · have g1 : ¬ t < 6 := by omega
          cases b' with
          | false =>
            simp only [Bool.false_eq_true, if_false] at hsd
            rw [← hsd] at KS
            clear KA hsd
            have q1 := fun w => add_strs S [63] (by omega) (by omega) w
            have q2 := fun w => add_strs (S ++ [63]) [32, 60, 32] (by simp; omega) (by decide) w
            have q3 := fun w => add_strs (S ++ [63] ++ [32, 60, 32]) sd (by simp; omega) (by omega) w
            have q4 := fun w => add_strs (S ++ [63] ++ [32, 60, 32] ++ sd) [10] (by simp; omega) (by decide) w
            simp only [List.append_assoc, List.cons_append, List.nil_append] at q1 q2 q3 q4
            go_wp2_with fail
            refine (KS _).mono ?_
            rintro x w3 ⟨rfl, hb⟩
            have HB3 := Lib.hid (below_then HB.out hb)
            clear KS hb HEV
            go_wp2
            go_roundw
            case rel => exact ⟨k + 1, S ++ ([63] ++ 32 :: 60 :: 32 :: (sd ++ [10])), by omega, by go_num, rfl, Lib.hid (by rw [HNX.out]; simp [signT]), HB3⟩
            case measure => simp [intOf]; omega
          | true =>
            simp only [if_true] at hsd
            rw [← hsd] at KA
            clear KS hsd
            have q1 := fun w => add_strs S [63] (by omega) (by omega) w
            have q2 := fun w => add_strs (S ++ [63]) [32, 62, 32] (by simp; omega) (by decide) w
            have q3 := fun w => add_strs (S ++ [63] ++ [32, 62, 32]) sd (by simp; omega) (by omega) w
            have q4 := fun w => add_strs (S ++ [63] ++ [32, 62, 32] ++ sd) [10] (by simp; omega) (by decide) w
            simp only [List.append_assoc, List.cons_append, List.nil_append] at q1 q2 q3 q4
            go_wp2_with fail
            refine (KA _).mono ?_
            rintro x w3 ⟨rfl, hb⟩
            have HB3 := Lib.hid (below_then HB.out hb)
            clear KA hb HEV
            go_wp2
            go_roundw
            case rel => exact ⟨k + 1, S ++ ([63] ++ 32 :: 62 :: 32 :: (sd ++ [10])), by omega, by go_num, rfl, Lib.hid (by rw [HNX.out]; simp [signT]), HB3⟩
            case measure => simp [intOf]; omega
        · cases b' with
          | false =>
            simp only [Bool.false_eq_true, if_false] at hsd
            rw [← hsd] at KS
            clear KA hsd
            have q1 := fun w => add_strs S [63] (by omega) (by omega) w
            have q2 := fun w => add_strs (S ++ [63]) [32, 60, 32] (by simp; omega) (by decide) w
            have q3 := fun w => add_strs (S ++ [63] ++ [32, 60, 32]) sd (by simp; omega) (by omega) w
            have q4 := fun w => add_strs (S ++ [63] ++ [32, 60, 32] ++ sd) [10] (by simp; omega) (by decide) w
            simp only [List.append_assoc, List.cons_append, List.nil_append] at q1 q2 q3 q4
            go_wp2_with fail
            refine (KS _).mono ?_
            rintro x w3 ⟨rfl, hb⟩
            have HB3 := Lib.hid (below_then HB.out hb)
            clear KS hb HEV
            go_wp2
            go_roundw
            case rel => exact ⟨k + 1, S ++ ([63] ++ 32 :: 60 :: 32 :: (sd ++ [10])), by omega, by go_num, rfl, Lib.hid (by rw [HNX.out]; simp [signT]), HB3⟩
            case measure => simp [intOf]; omega
          | true =>
            simp only [if_true] at hsd
            rw [← hsd] at KA
            clear KS hsd
            have q1 := fun w => add_strs S [63] (by omega) (by omega) w
            have q2 := fun w => add_strs (S ++ [63]) [32, 62, 32] (by simp; omega) (by decide) w
            have q3 := fun w => add_strs (S ++ [63] ++ [32, 62, 32]) sd (by simp; omega) (by omega) w
            have q4 := fun w => add_strs (S ++ [63] ++ [32, 62, 32] ++ sd) [10] (by simp; omega) (by decide) w
            simp only [List.append_assoc, List.cons_append, List.nil_append] at q1 q2 q3 q4
            go_wp2_with fail
            refine (KA _).mono ?_
            rintro x w3 ⟨rfl, hb⟩
            have HB3 := Lib.hid (below_then HB.out hb)
            clear KA hb HEV
            go_wp2
            go_roundw
            case rel => exact ⟨k + 1, S ++ ([63] ++ 32 :: 62 :: 32 :: (sd ++ [10])), by omega, by go_num, rfl, Lib.hid (by rw [HNX.out]; simp [signT]), HB3⟩
            case measure => simp [intOf]; omega
    · obtain rfl : k = l.length := by omega
      have hS := HS.out
      rw [List.take_length] at hS
      subst hS
      clear HS HR HF
      go_wp2
      go_ret
      exact ⟨rfl, HB.out⟩
end Go.Proofs.YtfdghlpkioednaaDoor
