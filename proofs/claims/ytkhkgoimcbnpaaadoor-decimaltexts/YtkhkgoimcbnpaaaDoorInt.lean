/- Whole numbers: decimal.Int and the document's own. -/
import Derived.Test.YtkhkgoimcbnpaaaDoorDnum
import Derived.Test.YtkhkgoimcbnpaaaDoorShelf
set_option linter.unusedVariables false
set_option linter.unusedSimpArgs false
namespace Go.Proofs.YtkhkgoimcbnpaaaDoor
open Go.RowKit

def preO (s : ByteArray) : Bool := Lib.hasPrefix s.data.toList [48, 111]
def preX (s : ByteArray) : Bool := Lib.hasPrefix s.data.toList [48, 120]
def tail2 (s : ByteArray) : ByteArray := s.extract 2 s.size

theorem trim2 (s : ByteArray) (a b : UInt8) : (⟨(Lib.trimPrefix s.data.toList [a, b]).toArray⟩ : ByteArray) = if Lib.hasPrefix s.data.toList [a, b] then tail2 s else s := by
  unfold Lib.trimPrefix
  split
  · unfold tail2
    rw [Lib.extract_eq, List.take_of_length_le (by simp)]
    rfl
  · exact Lib.mk_data s

def baseOf (s : ByteArray) : Nat := if preO s then 8 else if preX s then 16 else 10
def bodyOf (s : ByteArray) : ByteArray := if preO s then tail2 s else if preX s then tail2 s else restB s
def intV (s : ByteArray) : Value :=
  if okS (bodyOf s) (baseOf s) then .tuple #[numV (negB s && decide (numB (bodyOf s) (baseOf s) ≠ 0)) (numB (bodyOf s) (baseOf s)) 0, .bool true] else .tuple #[zV, .bool false]

theorem dec_bound {s : ByteArray} {base : Nat} (h : okS s base = true) : (decB (numB s base)).size ≤ 20000 := by
  have hs := okS_iff.1 h
  have hb := baseP_iff.1 hs.1
  have h1 := val_lt (by omega) (lsd_dg h)
  rw [lsd_len] at h1
  have h2 : base ^ s.size ≤ 16 ^ s.size := Nat.pow_le_pow_left (by omega) _
  have h3 : (16 : Nat) ^ s.size = 2 ^ (4 * s.size) := by rw [Nat.pow_mul]
  have h4 : numB s base < 2 ^ (4 * s.size) := by unfold numB; rw [← h3]; exact Nat.lt_of_lt_of_le h1 h2
  have h5 := carP_len (b := 10) (by decide) _ _ h4
  rw [dec_sz]
  unfold dl
  split
  · simp
  · omega

theorem signed_b (s : ByteArray) (w : World) :
    Calls Tryd.prog 13 #[.string s] w fun e w' => e = .returned (.tuple #[.bool (negB s), .string (restB s)]) ∧ Below w.heap.size w w' :=
  (signed_any s w).mono fun e w' ⟨h, k, hk⟩ => ⟨h, by rw [hk]; exact below_drewN (Below.refl _ _) k⟩

theorem dec_ne (n : Nat) : ((decB n).toList == [48]) = !decide (n ≠ 0) := by
  rw [Lib.toList_data]
  by_cases h : n = 0
  · subst h; rw [dec_zero]; rfl
  · have : (decB n).data.toList ≠ [48] := by
      intro e
      exact h ((dec_zero_iff n).1 (by rw [← Lib.mk_data (decB n), e]))
    simp [this, h]

def zC : Obj := .cells #[.bool false, .string ⟨#[]⟩, .int .i64 0, .int .i64 0] 23

theorem zC_below {w W : World} (hB : Below (w.heap.size + 1) (w.alloc zC) W) : Below w.heap.size w W := ((Below.refl _ w).alloc (Nat.le_refl _) _).trans (hB.mono (by omega))

/-- What stands ahead: how s is read. -/
def Cs (s body : ByteArray) (base : Nat) : Prop :=
  (preO s = true ∧ body = tail2 s ∧ base = 8) ∨ (preO s = false ∧ preX s = true ∧ body = tail2 s ∧ base = 16) ∨ (preO s = false ∧ preX s = false ∧ body = restB s ∧ base = 10)
theorem cs_any (s : ByteArray) : Cs s (bodyOf s) (baseOf s) := by
  unfold Cs bodyOf baseOf
  cases preO s <;> cases preX s <;> simp

theorem numV_form (b : Bool) (n : Nat) (e : Int) : ∃ D E, numV b n e = .agg #[.bool b, .string D, .int .i64 E, .int .i64 0] := by
  unfold numV
  split
  · exact ⟨_, _, rfl⟩
  · exact ⟨_, _, rfl⟩

end Go.Proofs.YtkhkgoimcbnpaaaDoor
