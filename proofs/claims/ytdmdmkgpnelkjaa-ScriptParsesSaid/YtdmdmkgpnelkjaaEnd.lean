/- The end of the document's Parse. -/
import Derived.Test.YtdmdmkgpnelkjaaParsed
import Derived.Deep.RegionHeldLaw
namespace Go.Proofs.Ytdmdmkgpnelkjaa
open Go.ChangeShapes Go.WideShapes Go.ChangeAt Go.RowKit
set_option linter.unusedVariables false

set_option maxRecDepth 100000 in
set_option maxHeartbeats 8000000 in
/-- Behind the draws: too many of them, or a script. -/
theorem rparse_end (w W9 : World) (S : Nat) (c : Cf) (X Y Z : Sl) (p : Except Int Sc) {u0 u1 u3 u4 u5 u6 u8 u9 u10 u11 u12 u13 u14 u15 u16 u17 u18 u19 u20 u21 u22 u23 u24 u25 u26 u27 u28 u29 u30 u31 u32 u33 u34 u35 u36 u37 u38 u39 u40 u41 u42 u43 u44 u45 u46 u47 u48 u49 u50 u51 u52 u53 u54 u55 u56 u57 u58 u59 u60 u61 u62 u63 u64 u65 u66 u67 u68 u69 u70 u71 u72 u73 u74 u75 u76 u77 u78 u79 u80 u81 u82 u83 u84 u85 u86 u87 u88 u89 u90 u91 u92 u93 u94 u95 u96 u97 u98 u99 u100 u101 u102 u103 u104 u105 u106 u107 u108 u109 u110 u111 u112 u113 u114 u115 u116 u117 u118 u119 u120 u121 u122 u123 u124 u125 u126 u127 u128 u129 u130 u131 u132 u133 u134 u135 u136 u137 u138 u139 u140 u141 u142 u143 u144 u145 u146 u147 u148 u149 u150 u151 u152 u153 u154 u155 u156 u157 u158 u159 u160 u161 u162 u163 u164 u165 u166 u167 u168 u169 u170 u171 u172 : Value}
    (hA : Blk W9 w.heap.size 29 (scs zc nilS nilS nilS)) (hS : Blk W9 S 29 (scs c X Y Z)) (hb : Below w.heap.size w W9) (hne : w.heap.size ≠ S)
    (hlong : 4096 < Z.n → p = .error 10) (hok : ¬ 4096 < Z.n → ∃ s, p = .ok s ∧ s.c = c ∧ SV (put10 W9 w.heap.size c X Y Z) s X Y Z) :
    Code.wp Try.prog (((Code.region 36
      #[{ dst := some 167, op := Op.fieldAddr 29 (Operand.tmp 7) 3, type := 0, pos := "ref.go:52", after := #[], guard := none },
        { dst := some 168, op := Op.load 22 (Operand.tmp 167), type := 22, pos := "ref.go:52", after := #[{ on := 0, ground := Ground.data }], guard := none },
        { dst := some 169, op := Op.call { callee := Callee.builtin Builtin.len, args := #[Operand.tmp 168], argTypes := #[22] }, type := 3, pos := "ref.go:52", after := #[{ on := 1, ground := Ground.data }], guard := none },
        { dst := some 170, op := Op.binOp BinOp.gtr 3 (Operand.tmp 169) (Operand.const (Value.int IntKind.i64 4096)) 3, type := 4, pos := "ref.go:52", after := #[{ on := 2, ground := Ground.data }], guard := none }]
      false).seq
    (Code.cond (Operand.tmp 170)
      ((Code.region 37
        #[{ dst := some 171, op := Op.build 29 #[], type := 29, pos := "ref.go:53", after := #[], guard := none },
          { dst := none, op := Op.store 29 (Operand.tmp 2) (Operand.tmp 171), type := 0, pos := "ref.go:53", after := #[{ on := 0, ground := Ground.data }, { on := 0, ground := Ground.phase }], guard := none },
          { dst := some 3, op := Op.assign (Operand.const (Value.int IntKind.i64 10)), type := 30, pos := "ref.go:53", after := #[{ on := 1, ground := Ground.chain }, { on := 0, ground := Ground.phase }, { on := 1, ground := Ground.phase }], guard := none }]
        false).seq Code.ret) Code.skip)).seq
  ((Code.region 38
    #[{ dst := some 172, op := Op.load 29 (Operand.tmp 7), type := 29, pos := "ref.go:55", after := #[], guard := none },
      { dst := none, op := Op.store 29 (Operand.tmp 2) (Operand.tmp 172), type := 0, pos := "ref.go:55", after := #[{ on := 0, ground := Ground.data }, { on := 0, ground := Ground.phase }], guard := none },
      { dst := some 3, op := Op.assign (Operand.const (Value.int IntKind.i64 0)), type := 30, pos := "ref.go:55", after := #[{ on := 1, ground := Ground.chain }, { on := 0, ground := Ground.phase }, { on := 1, ground := Ground.phase }], guard := none }]
    false).seq Code.ret))
      (bodyPost Try.prog Try.f8 (Parsed w p)) { tmps := #[u0, u1, Value.pointer (some ⟨w.heap.size, 0, none⟩), u3, u4, u5, u6, Value.pointer (some ⟨S, 0, none⟩), u8, u9, u10, u11, u12, u13, u14, u15, u16, u17, u18, u19, u20, u21, u22, u23, u24, u25, u26, u27, u28, u29, u30, u31, u32, u33, u34, u35, u36, u37, u38, u39, u40, u41, u42, u43, u44, u45, u46, u47, u48, u49, u50, u51, u52, u53, u54, u55, u56, u57, u58, u59, u60, u61, u62, u63, u64, u65, u66, u67, u68, u69, u70, u71, u72, u73, u74, u75, u76, u77, u78, u79, u80, u81, u82, u83, u84, u85, u86, u87, u88, u89, u90, u91, u92, u93, u94, u95, u96, u97, u98, u99, u100, u101, u102, u103, u104, u105, u106, u107, u108, u109, u110, u111, u112, u113, u114, u115, u116, u117, u118, u119, u120, u121, u122, u123, u124, u125, u126, u127, u128, u129, u130, u131, u132, u133, u134, u135, u136, u137, u138, u139, u140, u141, u142, u143, u144, u145, u146, u147, u148, u149, u150, u151, u152, u153, u154, u155, u156, u157, u158, u159, u160, u161, u162, u163, u164, u165, u166, u167, u168, u169, u170, u171, u172], defers := [] } W9 := by
  obtain ⟨s0, s1, s2, s3, s4, s5, s6, s7, s8, s9⟩ := hS.script
  obtain ⟨x0, x1, x2, x3, x4, x5, x6, x7, x8, x9⟩ := hA.script
  have xf := hA.frozen
  have hlt := hA.lt
  have HF := Lib.hid (put10_below hb (Nat.le_refl _) zc nilS nilS nilS)
  have HG := Lib.hid (put10_below hb (Nat.le_refl _) c X Y Z)
  clear hA hS hb
  obtain ⟨xa, xn, xc⟩ := X
  obtain ⟨ya, yn, yc⟩ := Y
  obtain ⟨za, zn, zc'⟩ := Z
  dsimp only at *
  by_cases h8 : 4096 < zn
  · have HE := Lib.hid (hlong h8)
    have g : (4096 : Int) < (zn : Int) := by omega
    clear h8 hlong hok HG
    go_wp2
    refine bodyPost_ret (v := .tuple #[sv zc nilS nilS nilS, .int .i64 10]) (by simp [results, Try.results8, go_sem, *]) rfl (by rw [HE.out]; exact ⟨nilS, nilS, nilS, rfl, SV.zero _, HF.out⟩)
  · obtain ⟨s, hs, hc, hsv⟩ := hok h8
    have HE := Lib.hid hs
    have HSV := Lib.hid hsv
    have HC := Lib.hid hc
    have g : ¬ (4096 : Int) < (zn : Int) := by omega
    clear h8 hlong hok HF hs hc hsv
    go_wp2
    refine bodyPost_ret (v := .tuple #[sv c ⟨xa, xn, xc⟩ ⟨ya, yn, yc⟩ ⟨za, zn, zc'⟩, .int .i64 0]) (by simp [results, Try.results8, go_sem, *]) rfl (by rw [HE.out]; exact ⟨⟨xa, xn, xc⟩, ⟨ya, yn, yc⟩, ⟨za, zn, zc'⟩, by rw [← HC.out]; rfl, HSV.out, HG.out⟩)
end Go.Proofs.Ytdmdmkgpnelkjaa
