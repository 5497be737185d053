/- A text of x alone is as many code points as bytes, up to the bound; beyond it, error 3. -/
import Derived.Test.YtdkodepeglpimaaDoorPtsB
namespace Go.Proofs.YtdkodepeglpimaaDoor

theorem first_x (t : List UInt8) : firstP 1 (120 :: t) = (120, 1) := by
  have h : Lib.decodeN (120 :: t : List UInt8).length (bt (120 :: t) 0) (bt (120 :: t) 1) (bt (120 :: t) 2) (bt (120 :: t) 3) = (120, 1) := by
    have hb : bt (120 :: t) 0 = 120 := rfl
    unfold Lib.decodeN
    rw [hb]
    rfl
  unfold firstP f8
  rw [h]
  rfl

theorem seq_x (n : Nat) : seqS 1 0 (List.replicate n 120) = List.replicate n (120, true) := by
  induction n with
  | zero => rfl
  | succ n ih =>
    rw [List.replicate_succ, seqS, first_x, if_neg (by decide), List.replicate_succ]
    exact congrArg _ ih

theorem begins_x (n : Nat) (a : UInt8) (m : List UInt8) (ha : a ≠ 120) : beginsB (List.replicate n 120) ⟨(a :: m).toArray⟩ = false := by
  unfold beginsB
  rw [Bool.and_eq_false_iff]
  cases n with
  | zero => left; simp [ByteArray.size]
  | succ n =>
    right
    rw [decide_eq_false_iff_not]
    intro h
    rw [Lib.toList_data] at h
    simp [ByteArray.size, List.replicate_succ] at h
    exact ha h.1.symm

theorem form_x (n : Nat) : formP (List.replicate n 120) = (1, 0) := by
  have hm : markedP (List.replicate n 120) = (0, 0) := by
    unfold markedP
    rw [begins_x n 0 [0, 254, 255] (by decide), begins_x n 255 [254, 0, 0] (by decide), begins_x n 254 [255] (by decide), begins_x n 255 [254] (by decide), begins_x n 239 [187, 191] (by decide)]
    rfl
  have hg : guessedP (List.replicate n 120) = 1 := by
    have hb : ∀ j, j < n → byteAt (List.replicate n 120) j = 120 := by
      intro j hj
      unfold byteAt
      simp [hj]
    unfold guessedP
    rw [List.length_replicate]
    by_cases h4 : 4 ≤ n
    · rw [hb 0 (by omega), hb 1 (by omega), hb 2 (by omega), hb 3 (by omega)]
      simp
    · by_cases h2 : 2 ≤ n
      · rw [hb 0 (by omega), hb 1 (by omega)]
        simp [h4]
      · simp [h4, h2]
  unfold formP
  rw [hm, if_neg (by decide), hg]

theorem pts_x (n : Nat) (h : n ≤ 1048576) : ptsOf (List.replicate n 120) = (List.replicate n 120, 0) := by
  unfold ptsOf
  rw [List.length_replicate, if_neg (by omega), form_x]
  show (if rightP 1 (List.replicate n 120) then (ptsP 1 (List.replicate n 120), (0 : Int)) else ([], 4)) = _
  unfold rightP ptsP
  rw [seq_x]
  simp
theorem pts_x_long (n : Nat) (h : 1048576 < n) : ptsOf (List.replicate n 120) = ([], 3) := by
  unfold ptsOf
  rw [List.length_replicate, if_pos h]
end Go.Proofs.YtdkodepeglpimaaDoor
