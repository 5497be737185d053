/- Which code points bytes are, one by one, as plain lists: no program. -/
import Derived.Test.YtdkodepeglpimaaDoorLeafB
set_option linter.unusedVariables false
set_option linter.unusedSimpArgs false
namespace Go.Proofs.YtdkodepeglpimaaDoor

/-- What the iterator tells, from behind k bytes that are passed by on. -/
def seqS (form : Int) : Nat → List UInt8 → List (Int × Bool)
  | _, [] => []
  | k + 1, _ :: t => seqS form k t
  | 0, x :: t => if (firstP form (x :: t)).2 = 0 then [(0, false)] else ((firstP form (x :: t)).1, true) :: seqS form ((firstP form (x :: t)).2.toNat - 1) t

theorem seqS_drop (form : Int) (k : Nat) (l : List UInt8) : seqS form k l = seqS form 0 (l.drop k) := by
  induction l generalizing k with
  | nil => cases k <;> simp [seqS]
  | cons x t ih =>
    cases k with
    | zero => rfl
    | succ k => rw [seqS, ih k]; rfl

theorem seqS_bad (form : Int) (l : List UInt8) (h : 0 < l.length) (hz : (firstP form l).2 = 0) : seqS form 0 l = [(0, false)] := by
  cases l with
  | nil => simp at h
  | cons x t => rw [seqS, if_pos hz]

theorem seqS_good (form : Int) (l : List UInt8) (h : 0 < l.length) (hz : (firstP form l).2 ≠ 0) (h0 : 0 ≤ (firstP form l).2) :
    seqS form 0 l = ((firstP form l).1, true) :: seqS form 0 (l.drop (firstP form l).2.toNat) := by
  cases l with
  | nil => simp at h
  | cons x t =>
    rw [seqS, if_neg hz, seqS_drop]
    have : (firstP form (x :: t)).2.toNat = ((firstP form (x :: t)).2.toNat - 1) + 1 := by omega
    rw [this]
    rfl

theorem g16_size (n : Nat) (u v : Int) (hn : 2 ≤ n) : 0 ≤ (g16 n u v).2 ∧ (g16 n u v).2 ≤ n := by
  unfold g16
  repeat' split
  all_goals (simp only; omega)
theorem f16_size (great : Bool) (l : List UInt8) : 0 ≤ (f16 great l).2 ∧ (f16 great l).2 ≤ l.length := by
  unfold f16
  split
  · simp
  · exact g16_size _ _ _ (by omega)
theorem f32_size (great : Bool) (l : List UInt8) : 0 ≤ (f32 great l).2 ∧ (f32 great l).2 ≤ l.length := by
  unfold f32 g32
  repeat' split
  all_goals (simp only; omega)
theorem decodeN_size (n x0 x1 x2 x3 : Nat) (hn : 0 < n) : (Lib.decodeN n x0 x1 x2 x3).2 ≤ n := by
  unfold Lib.decodeN
  repeat' split
  all_goals (simp only; omega)
theorem f8_size (l : List UInt8) (hn : 0 < l.length) : 0 ≤ (f8 l).2 ∧ (f8 l).2 ≤ l.length := by
  have := decodeN_size l.length (bt l 0) (bt l 1) (bt l 2) (bt l 3) hn
  unfold f8 g8
  split <;> (simp only; omega)
theorem firstP_size (form : Int) (l : List UInt8) (hn : 0 < l.length) : 0 ≤ (firstP form l).2 ∧ (firstP form l).2 ≤ l.length := by
  unfold firstP
  repeat' split
  · exact f16_size _ _
  · exact f16_size _ _
  · exact f32_size _ _
  · exact f32_size _ _
  · exact f8_size _ hn
end Go.Proofs.YtdkodepeglpimaaDoor
