/- The library's utf8.DecodeRune as this program bears it: its two bodies and their types, by their numbers here, so that the shelf's contract can be used. -/
import Derived.Test.YtdkodepeglpimaaDoorRows
import Derived.Shelf.Spec.DecodeRune
namespace Go.Proofs.YtdkodepeglpimaaDoor
open Go.Shelf
def decRen : Go.Shelf.Ren := ⟨fun | 32 => 39 | 49 => 40 | n => n, fun | 0 => 0 | 3 => 3 | 4 => 4 | 5 => 5 | 21 => 21 | 25 => 37 | 30 => 22 | 33 => 59 | 66 => 61 | 68 => 63 | 69 => 64 | n => n, fun | 2 => 0 | 3 => 1 | n => n⟩
set_option maxRecDepth 100000 in
theorem decLays : Lays7.n32 Tryd.prog decRen := {
  mixed := by kernel_rfl
  f32 := Tryd.func39.trans (congrArg some (by kernel_rfl))
  f49 := Tryd.func40.trans (congrArg some (by kernel_rfl))
  t0 := Tryd.underlying0
  a0 := Tryd.isAgg0
  z0 := Tryd.sizeOf0
  v0 := Tryd.zeroValue0
  i0 := by kernel_rfl
  t3 := Tryd.underlying3
  a3 := Tryd.isAgg3
  z3 := Tryd.sizeOf3
  v3 := Tryd.zeroValue3
  i3 := by kernel_rfl
  t4 := Tryd.underlying4
  a4 := Tryd.isAgg4
  z4 := Tryd.sizeOf4
  v4 := Tryd.zeroValue4
  i4 := by kernel_rfl
  t5 := Tryd.underlying5
  a5 := Tryd.isAgg5
  z5 := Tryd.sizeOf5
  v5 := Tryd.zeroValue5
  i5 := by kernel_rfl
  t21 := Tryd.underlying21
  a21 := Tryd.isAgg21
  z21 := Tryd.sizeOf21
  v21 := Tryd.zeroValue21
  i21 := by kernel_rfl
  t25 := Tryd.underlying37
  a25 := Tryd.isAgg37
  z25 := Tryd.sizeOf37
  v25 := Tryd.zeroValue37
  i25 := by kernel_rfl
  t30 := Tryd.underlying22
  a30 := Tryd.isAgg22
  z30 := Tryd.sizeOf22
  v30 := Tryd.zeroValue22
  i30 := by kernel_rfl
  t33 := Tryd.underlying59
  a33 := Tryd.isAgg59
  z33 := Tryd.sizeOf59
  v33 := Tryd.zeroValue59
  i33 := by kernel_rfl
  t66 := Tryd.underlying61
  a66 := Tryd.isAgg61
  z66 := Tryd.sizeOf61
  t68 := Tryd.underlying63
  a68 := Tryd.isAgg63
  z68 := Tryd.sizeOf63
  v68 := Tryd.zeroValue63
  i68 := by kernel_rfl
  t69 := Tryd.underlying64
  a69 := Tryd.isAgg64
  z69 := Tryd.sizeOf64
  v69 := Tryd.zeroValue64
  i69 := by kernel_rfl
  g2 := by kernel_rfl
  g3 := by kernel_rfl
}
end Go.Proofs.YtdkodepeglpimaaDoor
