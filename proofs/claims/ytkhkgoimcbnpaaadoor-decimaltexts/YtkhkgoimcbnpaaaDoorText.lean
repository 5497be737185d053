/- Texts as digits, in plain terms. -/
import Derived.Test.YtkhkgoimcbnpaaaDoorLeaf
set_option linter.unusedVariables false
set_option linter.unusedSimpArgs false
namespace Go.Proofs.YtkhkgoimcbnpaaaDoor
open Go.RowKit

def hexN (c : UInt8) : Nat := (hexP (c.toNat : Int)).toNat
def okD (base : Int) (c : UInt8) : Bool := decide (0 ≤ hexP (c.toNat : Int)) && decide (hexP (c.toNat : Int) < base)
theorem okD_iff {base : Int} {c : UInt8} : okD base c = true ↔ 0 ≤ hexP (c.toNat : Int) ∧ hexP (c.toNat : Int) < base := by unfold okD; simp
/-- The text is a number in that base. -/
def okS (s : ByteArray) (base : Int) : Bool := baseP base && decide (0 < s.size) && decide (s.size ≤ 5000) && s.data.toList.all (okD base)
theorem okS_iff {s : ByteArray} {base : Int} : okS s base = true ↔ baseP base = true ∧ 0 < s.size ∧ s.size ≤ 5000 ∧ s.data.toList.all (okD base) = true := by unfold okS; simp [and_assoc]
/-- The digits of a text, the first one first. -/
def msd (l : List UInt8) : List Nat := l.map hexN
/-- The least first. -/
def lsd (s : ByteArray) : List Nat := (msd s.data.toList).reverse
theorem lsd_len (s : ByteArray) : (lsd s).length = s.size := by simp [lsd, msd]
theorem size_list (s : ByteArray) : s.data.toList.length = s.size := by simp
theorem byte_get (s : ByteArray) (k : Nat) (h : k < s.size) : s.data.toList[k]? = some s[k] := by
  rw [List.getElem?_eq_getElem (by simpa using h)]; rfl
theorem byte_drop (s : ByteArray) (k : Nat) (h : k < s.size) : s.data.toList.drop k = s[k] :: s.data.toList.drop (k + 1) := by
  rw [List.drop_eq_getElem_cons (by simpa using h)]; rfl
theorem byte_take (s : ByteArray) (k : Nat) (h : k < s.size) : s.data.toList.take (k + 1) = s.data.toList.take k ++ [s[k]] := by
  rw [List.take_succ_eq_append_getElem (by simpa using h)]; rfl
theorem byte_mem (s : ByteArray) (k : Nat) (h : k < s.size) : s[k] ∈ s.data.toList := List.mem_of_getElem? (byte_get s k h)
theorem okS_at {s : ByteArray} {base : Int} (h : okS s base = true) (k : Nat) (hk : k < s.size) : okD base s[k] = true := List.all_eq_true.1 (okS_iff.1 h).2.2.2 _ (byte_mem s k hk)
theorem hexP_range (c : UInt8) : -1 ≤ hexP (c.toNat : Int) ∧ hexP (c.toNat : Int) ≤ 15 := by unfold hexP; repeat' split
                                                                                             all_goals omega
theorem hexN_cast {c : UInt8} (h : 0 ≤ hexP (c.toNat : Int)) : ((hexN c : Nat) : Int) = hexP (c.toNat : Int) := by unfold hexN; omega
theorem baseP_iff {b : Int} : baseP b = true ↔ b = 8 ∨ b = 10 ∨ b = 16 := by unfold baseP; simp
theorem lsd_dg {s : ByteArray} {base : Nat} (h : okS s base = true) : Dg base (lsd s) := by
  intro d hd
  unfold lsd msd at hd
  rw [List.mem_reverse] at hd
  obtain ⟨c, hc, rfl⟩ := List.mem_map.1 hd
  have := okD_iff.1 (List.all_eq_true.1 (okS_iff.1 h).2.2.2 c hc)
  have := hexN_cast this.1
  omega
/-- The number of a text in a base. -/
def numB (s : ByteArray) (base : Nat) : Nat := val base (lsd s)
/-- The number of a text in base 10; what is none is nought. -/
def num (s : ByteArray) : Nat := if okS s 10 then numB s 10 else 0
theorem num_yes {s : ByteArray} (h : okS s 10 = true) : num s = val 10 (lsd s) := by unfold num; rw [if_pos h]; rfl
theorem num_no {s : ByteArray} (h : okS s 10 = false) : num s = 0 := by unfold num; rw [if_neg (by rw [h]; decide)]
end Go.Proofs.YtkhkgoimcbnpaaaDoor
