/- Signs ahead of a text. -/
import Derived.Test.YtpffegkckejpiaaText
import Derived.Deep.QuietTactic
import Derived.BigQuiet
import Derived.WalkSmall
import Derived.Lib.Strings
set_option linter.unusedVariables false
set_option linter.unusedSimpArgs false
namespace Go.Proofs.Ytpffegkckejpiaa
open Go.RowKit

def negB (s : ByteArray) : Bool := s.data.toList.head? == some 45
def sgB (s : ByteArray) : Bool := s.data.toList.head? == some 45 || s.data.toList.head? == some 43
def restB (s : ByteArray) : ByteArray := if sgB s then s.extract 1 s.size else s

theorem empty_of {s : ByteArray} (h : s.size = 0) : s.toList.isEmpty = true := by
  rw [Lib.toList_data]
  have : s.data.toList.length = 0 := by rw [← h]; exact size_list s
  rw [List.eq_nil_of_length_eq_zero this]; rfl
theorem nonempty_of {s : ByteArray} (h : 0 < s.size) : s.toList.isEmpty = false := by
  rw [Lib.toList_data]
  have : s.data.toList.length = s.size := size_list s
  cases e : s.data.toList with
  | nil => rw [e] at this; simp at this; omega
  | cons a l => rfl
theorem head_of {s : ByteArray} (h : 0 < s.size) : s.data.toList.head? = some s[0] := by
  rw [List.head?_eq_getElem?]; exact byte_get s 0 h
theorem byte_eq {c : UInt8} {k : Nat} (hk : k < 256) (h : (c.toNat : Int) = k) : c = UInt8.ofNat k := by
  apply UInt8.toNat_inj.1
  simp; omega
theorem sg_empty {s : ByteArray} (h : s.size = 0) : negB s = false ∧ restB s = s := by
  have : s.data.toList.length = 0 := by rw [← h]; exact size_list s
  have e := List.eq_nil_of_length_eq_zero this
  unfold negB restB sgB
  rw [e]
  exact ⟨rfl, rfl⟩
theorem sg_minus {s : ByteArray} (h : 0 < s.size) (h0 : (s[0].toNat : Int) = 45) : negB s = true ∧ restB s = s.extract 1 s.size := by
  have e : s[0] = 45 := byte_eq (k := 45) (by decide) h0
  unfold negB restB sgB
  rw [head_of h, e]
  exact ⟨rfl, rfl⟩
theorem sg_plus {s : ByteArray} (h : 0 < s.size) (h0 : (s[0].toNat : Int) = 43) : negB s = false ∧ restB s = s.extract 1 s.size := by
  have e : s[0] = 43 := byte_eq (k := 43) (by decide) h0
  unfold negB restB sgB
  rw [head_of h, e]
  exact ⟨rfl, rfl⟩
theorem sg_none {s : ByteArray} (h : 0 < s.size) (h0 : ¬ (s[0].toNat : Int) = 45) (h1 : ¬ (s[0].toNat : Int) = 43) : negB s = false ∧ restB s = s := by
  have e0 : ¬ s[0] = 45 := fun e => h0 (by rw [e]; rfl)
  have e1 : ¬ s[0] = 43 := fun e => h1 (by rw [e]; rfl)
  unfold negB restB sgB
  rw [head_of h]
  have a0 : (some s[0] == some (45 : UInt8)) = false := by simpa using e0
  have a1 : (some s[0] == some (43 : UInt8)) = false := by simpa using e1
  rw [a0, a1]
  exact ⟨rfl, rfl⟩

set_option maxRecDepth 100000 in
set_option maxHeartbeats 1000000 in
theorem signed_any (s : ByteArray) (w : World) :
    Calls Try.prog 36 #[.string s] w fun e w' => e = .returned (.tuple #[.bool (negB s), .string (restB s)]) ∧ ∃ k, w' = w.drewN k := by
  by_cases h : s.size = 0
  · have he := empty_of h
    have hr := sg_empty h
    rw [hr.1, hr.2]
    clear h hr
    go_enter Try.func36, Try.ntmps36
    go_wp2
    go_ret2
    exact ⟨rfl, 0, rfl⟩
  · have hs : 0 < s.size := by omega
    have he := nonempty_of hs
    have hi : (0 : Int) < s.size := by omega
    have hi1 : (1 : Int) ≤ s.size := by omega
    by_cases h0 : (s[0].toNat : Int) = 45
    · have hr := sg_minus hs h0
      rw [hr.1, hr.2]
      clear hr h
      go_enter Try.func36, Try.ntmps36
      go_wp2
      go_quiet (fail)
      go_wp2
      go_ret2
      exact ⟨rfl, _, rfl⟩
    · by_cases h1 : (s[0].toNat : Int) = 43
      · have hr := sg_plus hs h1
        rw [hr.1, hr.2]
        clear hr h
        go_enter Try.func36, Try.ntmps36
        go_wp2
        go_quiet (fail)
        go_wp2
        go_ret2
        exact ⟨rfl, _, rfl⟩
      · have hr := sg_none hs h0 h1
        rw [hr.1, hr.2]
        have b0 : ((s[0].toNat : Int) != 45) = true := bne_iff_ne.2 h0
        have b1 : ((s[0].toNat : Int) != 43) = true := bne_iff_ne.2 h1
        clear hr h h0 h1
        go_enter Try.func36, Try.ntmps36
        go_wp2
        go_ret2
        exact ⟨rfl, 0, rfl⟩
end Go.Proofs.Ytpffegkckejpiaa
