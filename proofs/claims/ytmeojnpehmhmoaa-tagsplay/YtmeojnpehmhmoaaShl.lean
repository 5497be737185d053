/- The library's IndexByte, Compare and CutPrefix, as this program bears them. -/
import Derived.Test.YtmeojnpehmhmoaaLeaf
import Derived.Lib.Strings
import Derived.Lib.Slices
import Derived.Lib.Walk
import Derived.Lib.Bytealg
set_option linter.all false
set_option maxRecDepth 100000
namespace Go.Proofs.Ytmeojnpehmhmoaa
open Go.RowKit

set_option maxHeartbeats 1000000 in
theorem index2_any (s : ByteArray) (c : Int) (w : World) :
    Calls Try.prog 67 #[.string s, .int .u8 c] w fun e w' => e = .returned (.int .i64 (Lib.indexByte s.data.toList c.toNat.toUInt8)) ∧ w' = w := by
  go_enter Try.func67, Try.ntmps67
  go_wp2
  rw [run_callFunc_extern Try.func84 (by kernel_rfl) (by kernel_rfl) (by kernel_rfl) (e := Extern.BytealgIndexByte.indexByte) (by kernel_rfl), Lib.run_indexByteString]
  simp only [Result.andThen]
  rw [Oper.upon_value]
  go_wp2
  go_ret
  exact ⟨rfl, rfl⟩
set_option maxHeartbeats 1000000 in
theorem index_any (s : ByteArray) (c : Int) (w : World) :
    Calls Try.prog 41 #[.string s, .int .u8 c] w fun e w' => e = .returned (.int .i64 (Lib.indexByte s.data.toList c.toNat.toUInt8)) ∧ w' = w := by
  have H := index2_any s c w
  go_enter Try.func41, Try.ntmps41
  go_wp2_with (go_at_call 67; refine H.mono ?_; rintro e w' ⟨rfl, rfl⟩)
  go_ret
  exact ⟨rfl, rfl⟩
set_option maxHeartbeats 1000000 in
theorem cmp2_any (a b : ByteArray) (w : World) :
    Calls Try.prog 36 #[.string a, .string b] w fun e w' => e = .returned (.int .i64 (Lib.compareBytes a.data.toList b.data.toList)) ∧ w' = w := by
  go_enter Try.func36, Try.ntmps36
  go_wp2
  rw [run_callFunc_extern Try.func59 (by kernel_rfl) (by kernel_rfl) (by kernel_rfl) (e := Extern.BytealgCompare.compare) (by kernel_rfl), Lib.run_compareString]
  simp only [Result.andThen]
  rw [Oper.upon_value]
  go_wp2
  go_ret
  exact ⟨rfl, rfl⟩
set_option maxHeartbeats 1000000 in
theorem cmp_any (a b : ByteArray) (w : World) :
    Calls Try.prog 18 #[.string a, .string b] w fun e w' => e = .returned (.int .i64 (Lib.compareBytes a.data.toList b.data.toList)) ∧ w' = w := by
  have H := cmp2_any a b w
  go_enter Try.func18, Try.ntmps18
  go_wp2_with (go_at_call 36; refine H.mono ?_; rintro e w' ⟨rfl, rfl⟩)
  go_ret
  exact ⟨rfl, rfl⟩

/-- Whether a text begins so. -/
def begB (s p : ByteArray) : Bool := decide (p.size ≤ s.size) && ((s.extract 0 p.size).toList == p.toList)
def cutP (s p : ByteArray) : ByteArray := if begB s p = true then s.extract p.size s.size else s
set_option maxHeartbeats 1000000 in
theorem begins2_any (s p : ByteArray) (w : World) (hs : s.size ≤ 1000000) :
    Calls Try.prog 70 #[.string s, .string p] w fun e w' => e = .returned (.bool (begB s p)) ∧ w' = w := by
  by_cases h1 : p.size ≤ s.size
  · have h2 : (p.size : Int) ≤ s.size := by omega
    go_enter Try.func70, Try.ntmps70
    go_wp2
    all_goals go_ret
    all_goals (refine ⟨?_, rfl⟩; unfold begB; rw [decide_eq_true h1]; simp_all)
  · have h2 : ¬ (p.size : Int) ≤ s.size := by omega
    go_enter Try.func70, Try.ntmps70
    go_wp2
    all_goals go_ret
    all_goals (refine ⟨?_, rfl⟩; unfold begB; rw [decide_eq_false h1]; simp_all)
set_option maxHeartbeats 1000000 in
theorem cut2_any (s p : ByteArray) (w : World) (hs : s.size ≤ 1000000) :
    Calls Try.prog 43 #[.string s, .string p] w fun e w' => e = .returned (.tuple #[.string (cutP s p), .bool (begB s p)]) ∧ w' = w := by
  have H := begins2_any s p w hs
  cases hb : begB s p with
  | true =>
    rw [hb] at H
    have h1 : p.size ≤ s.size := by unfold begB at hb; simp at hb; exact hb.1
    have h2 : (p.size : Int) ≤ s.size := by omega
    unfold cutP
    rw [hb]
    simp only [if_true]
    clear hb
    go_enter Try.func43, Try.ntmps43
    go_wp2_with (go_at_call 70; refine H.mono ?_; rintro e w' ⟨rfl, rfl⟩)
    go_ret2
    exact ⟨rfl, rfl⟩
  | false =>
    rw [hb] at H
    unfold cutP
    rw [hb]
    simp only [Bool.false_eq_true, if_false]
    clear hb
    go_enter Try.func43, Try.ntmps43
    go_wp2_with (go_at_call 70; refine H.mono ?_; rintro e w' ⟨rfl, rfl⟩)
    go_ret2
    exact ⟨rfl, rfl⟩
set_option maxHeartbeats 1000000 in
theorem cut_any (s p : ByteArray) (w : World) (hs : s.size ≤ 1000000) :
    Calls Try.prog 25 #[.string s, .string p] w fun e w' => e = .returned (.tuple #[.string (cutP s p), .bool (begB s p)]) ∧ w' = w := by
  have H := cut2_any s p w hs
  go_enter Try.func25, Try.ntmps25
  go_wp2_with (go_at_call 43; refine H.mono ?_; rintro e w' ⟨rfl, rfl⟩)
  go_ret2
  exact ⟨rfl, rfl⟩
end Go.Proofs.Ytmeojnpehmhmoaa
