/- The document's way to read UTF-8 and Go's decoder tell the same: plain arithmetic. -/
import Derived.Test.YtdkodepeglpimaaDoorRefA
set_option linter.unusedVariables false
set_option linter.unusedSimpArgs false
namespace Go.Proofs.YtdkodepeglpimaaDoor
open Go

theorem i64_and_nat (a b : Nat) (ha : a < 4294967296) (hb : b < 4294967296) : bits .and .i64 (a : Int) (b : Int) = ((a &&& b : Nat) : Int) := by
  have hx : a &&& b < 2 ^ 32 := Nat.and_lt_two_pow _ (by omega)
  show IntKind.i64.wrap ((BitVec.ofInt 64 (a : Int) &&& BitVec.ofInt 64 (b : Int)).toNat : Int) = _
  rw [BitVec.toNat_and, ofInt_i64 a ha, ofInt_i64 b hb]
  simp [IntKind.wrap, IntKind.bits, IntKind.signed]
  split <;> omega
theorem and31 (a : Nat) (h : a < 256) : bits .and .i64 (a : Int) 31 = ((a % 32 : Nat) : Int) := by
  have := i64_and_nat a 31 (by omega) (by omega)
  rw [show a &&& 31 = a % 32 from Nat.and_two_pow_sub_one_eq_mod a 5] at this
  exact this
theorem and15 (a : Nat) (h : a < 256) : bits .and .i64 (a : Int) 15 = ((a % 16 : Nat) : Int) := by
  have := i64_and_nat a 15 (by omega) (by omega)
  rw [show a &&& 15 = a % 16 from Nat.and_two_pow_sub_one_eq_mod a 4] at this
  exact this
theorem and7 (a : Nat) (h : a < 256) : bits .and .i64 (a : Int) 7 = ((a % 8 : Nat) : Int) := by
  have := i64_and_nat a 7 (by omega) (by omega)
  rw [show a &&& 7 = a % 8 from Nat.and_two_pow_sub_one_eq_mod a 3] at this
  exact this
theorem and63 (a : Nat) (h : a < 256) : bits .and .i64 (a : Int) 63 = ((a % 64 : Nat) : Int) := by
  have := i64_and_nat a 63 (by omega) (by omega)
  rw [show a &&& 63 = a % 64 from Nat.and_two_pow_sub_one_eq_mod a 6] at this
  exact this

/-- The number behind k bytes more. -/
def acc (c0 : Nat) (l : List UInt8) : Nat → Nat
  | 0 => c0
  | k + 1 => acc c0 l k * 64 + bt l (k + 1) % 64
theorem acc_lt (c0 : Nat) (l : List UInt8) (h : c0 < 32) : ∀ k, k ≤ 3 → acc c0 l k < 8388608
  | 0, _ => by simp [acc]; omega
  | 1, _ => by simp [acc]; omega
  | 2, _ => by simp [acc]; omega
  | 3, _ => by simp [acc]; omega
  | k + 4, h => by omega
def cont (l : List UInt8) (k : Nat) : Bool := (List.range k).all fun j => decide (128 ≤ bt l (j + 1)) && decide (bt l (j + 1) ≤ 191)
theorem cont_succ (l : List UInt8) (k : Nat) : cont l (k + 1) = (cont l k && (decide (128 ≤ bt l (k + 1)) && decide (bt l (k + 1) ≤ 191))) := by
  unfold cont; simp [List.range_succ]

/-- A code point of n bytes, by the document. -/
def multi (n least c0 : Nat) (l : List UInt8) : Int × Int :=
  if l.length < n then (0, 0) else if cont l (n - 1) = false then (0, 0)
  else if acc c0 l (n - 1) < least ∨ okP (acc c0 l (n - 1)) = false then (0, 0) else (acc c0 l (n - 1), n)
def pointP (l : List UInt8) : Int × Int :=
  if bt l 0 < 128 then (bt l 0, 1) else if bt l 0 < 194 then (0, 0) else if bt l 0 < 224 then multi 2 128 (bt l 0 % 32) l
  else if bt l 0 < 240 then multi 3 2048 (bt l 0 % 16) l else if bt l 0 < 245 then multi 4 65536 (bt l 0 % 8) l else (0, 0)

theorem okP_false (c : Nat) : okP c = false ↔ 1114111 < c ∨ (55296 ≤ c ∧ c ≤ 57343) := by
  unfold okP
  simp
  omega

theorem g8_bad : g8 65533 1 = (0, 0) := by decide
theorem dec_a (n x0 x1 x2 x3 : Nat) (h : x0 < 128) : Lib.decodeN n x0 x1 x2 x3 = (x0, 1) := by unfold Lib.decodeN; rw [if_pos h]
theorem dec_b (n x0 x1 x2 x3 : Nat) (h : 128 ≤ x0) (h' : x0 < 194) : Lib.decodeN n x0 x1 x2 x3 = (65533, 1) := by
  unfold Lib.decodeN
  rw [if_neg (by omega)]
  by_cases c : x0 / 32 = 6 ∧ (1 < n ∧ x1 / 64 = 2)
  · rw [if_pos c, if_neg (by omega)]
  · rw [if_neg c, if_neg (by omega), if_neg (by omega)]
theorem dec_c (n x0 x1 x2 x3 : Nat) (h : 194 ≤ x0) (h' : x0 < 224) : Lib.decodeN n x0 x1 x2 x3 = if 1 < n ∧ x1 / 64 = 2 then (x0 % 32 * 64 + x1 % 64, 2) else (65533, 1) := by
  unfold Lib.decodeN
  rw [if_neg (by omega)]
  by_cases c : 1 < n ∧ x1 / 64 = 2
  · rw [if_pos c, if_pos ⟨by omega, c⟩, if_pos (by omega)]
  · rw [if_neg c, if_neg (fun h => c h.2), if_neg (by omega), if_neg (by omega)]
theorem dec_d (n x0 x1 x2 x3 : Nat) (h : 224 ≤ x0) (h' : x0 < 240) : Lib.decodeN n x0 x1 x2 x3 =
    if ((1 < n ∧ x1 / 64 = 2) ∧ (2 < n ∧ x2 / 64 = 2)) ∧ 2048 ≤ x0 % 16 * 4096 + x1 % 64 * 64 + x2 % 64 ∧ ¬ (55296 ≤ x0 % 16 * 4096 + x1 % 64 * 64 + x2 % 64 ∧ x0 % 16 * 4096 + x1 % 64 * 64 + x2 % 64 ≤ 57343)
    then (x0 % 16 * 4096 + x1 % 64 * 64 + x2 % 64, 3) else (65533, 1) := by
  unfold Lib.decodeN
  rw [if_neg (by omega), if_neg (by omega)]
  by_cases c : (1 < n ∧ x1 / 64 = 2) ∧ (2 < n ∧ x2 / 64 = 2)
  · rw [if_pos ⟨by omega, c.1, c.2⟩]
    by_cases d : 2048 ≤ x0 % 16 * 4096 + x1 % 64 * 64 + x2 % 64 ∧ ¬ (55296 ≤ x0 % 16 * 4096 + x1 % 64 * 64 + x2 % 64 ∧ x0 % 16 * 4096 + x1 % 64 * 64 + x2 % 64 ≤ 57343)
    · rw [if_pos (by omega), if_pos ⟨c, d⟩]
    · rw [if_neg (by omega), if_neg (fun h => d h.2)]
  · rw [if_neg (fun h => c ⟨h.2.1, h.2.2⟩), if_neg (by omega), if_neg (fun h => c h.1)]
theorem dec_e (n x0 x1 x2 x3 : Nat) (h : 240 ≤ x0) (h' : x0 < 256) : Lib.decodeN n x0 x1 x2 x3 =
    if x0 < 248 ∧ ((1 < n ∧ x1 / 64 = 2) ∧ (2 < n ∧ x2 / 64 = 2) ∧ (3 < n ∧ x3 / 64 = 2)) ∧ 65536 ≤ x0 % 8 * 262144 + x1 % 64 * 4096 + x2 % 64 * 64 + x3 % 64 ∧ x0 % 8 * 262144 + x1 % 64 * 4096 + x2 % 64 * 64 + x3 % 64 ≤ 1114111
    then (x0 % 8 * 262144 + x1 % 64 * 4096 + x2 % 64 * 64 + x3 % 64, 4) else (65533, 1) := by
  unfold Lib.decodeN
  rw [if_neg (by omega), if_neg (by omega), if_neg (by omega)]
  by_cases c : x0 < 248 ∧ ((1 < n ∧ x1 / 64 = 2) ∧ (2 < n ∧ x2 / 64 = 2) ∧ (3 < n ∧ x3 / 64 = 2))
  · rw [if_pos ⟨by omega, c.2⟩]
    by_cases d : 65536 ≤ x0 % 8 * 262144 + x1 % 64 * 4096 + x2 % 64 * 64 + x3 % 64 ∧ x0 % 8 * 262144 + x1 % 64 * 4096 + x2 % 64 * 64 + x3 % 64 ≤ 1114111
    · rw [if_pos (by omega), if_pos ⟨c.1, c.2, d⟩]
    · rw [if_neg (by omega), if_neg (fun h => d h.2.2)]
  · rw [if_neg (fun h => c ⟨by omega, h.2⟩), if_neg (fun h => c ⟨h.1, h.2.1⟩)]

theorem g8_two (r k : Int) (h : 1 < k) : g8 r k = (r, k) := by unfold g8; rw [if_neg (by omega)]
theorem g8_one (r : Int) (h : r < 128) : g8 r 1 = (r, 1) := by unfold g8; rw [if_neg (by omega)]

theorem pointP_eq (l : List UInt8) : pointP l = f8 l := by
  have b0 := bt_lt l 0
  have b1 := bt_lt l 1
  have b2 := bt_lt l 2
  have b3 := bt_lt l 3
  unfold pointP f8
  by_cases hA : bt l 0 < 128
  · rw [if_pos hA, dec_a _ _ _ _ _ hA]
    exact (g8_one _ (by omega)).symm
  rw [if_neg hA]
  by_cases hB : bt l 0 < 194
  · rw [if_pos hB, dec_b _ _ _ _ _ (by omega) hB]; rfl
  rw [if_neg hB]
  by_cases hC : bt l 0 < 224
  · rw [if_pos hC, dec_c _ _ _ _ _ (by omega) hC]
    unfold multi
    have a1 : acc (bt l 0 % 32) l (2 - 1) = bt l 0 % 32 * 64 + bt l 1 % 64 := rfl
    have c1 : cont l (2 - 1) = (decide (128 ≤ bt l 1) && decide (bt l 1 ≤ 191)) := by show cont l 1 = _; rw [cont_succ]; rfl
    rw [a1, c1]
    by_cases c : 1 < l.length ∧ bt l 1 / 64 = 2
    · rw [if_pos c, if_neg (by omega), if_neg (by simp; omega), if_neg (by rw [okP_false]; omega), g8_two _ _ (by simp)]
    · rw [if_neg c]
      by_cases d : l.length < 2
      · rw [if_pos d]; rfl
      · rw [if_neg d, if_pos (by simp; omega)]; rfl
  rw [if_neg hC]
  by_cases hD : bt l 0 < 240
  · rw [if_pos hD, dec_d _ _ _ _ _ (by omega) hD]
    unfold multi
    have a1 : acc (bt l 0 % 16) l (3 - 1) = bt l 0 % 16 * 4096 + bt l 1 % 64 * 64 + bt l 2 % 64 := by show (bt l 0 % 16 * 64 + bt l 1 % 64) * 64 + bt l 2 % 64 = _; omega
    have c1 : cont l (3 - 1) = ((decide (128 ≤ bt l 1) && decide (bt l 1 ≤ 191)) && (decide (128 ≤ bt l 2) && decide (bt l 2 ≤ 191))) := by show cont l 2 = _; rw [cont_succ, cont_succ]; rfl
    rw [a1, c1]
    generalize hv : bt l 0 % 16 * 4096 + bt l 1 % 64 * 64 + bt l 2 % 64 = v
    by_cases c : ((1 < l.length ∧ bt l 1 / 64 = 2) ∧ (2 < l.length ∧ bt l 2 / 64 = 2)) ∧ 2048 ≤ v ∧ ¬ (55296 ≤ v ∧ v ≤ 57343)
    · rw [if_pos c, if_neg (by omega), if_neg (by simp; omega), if_neg (by rw [okP_false]; omega), g8_two _ _ (by simp)]
    · rw [if_neg c]
      by_cases d : l.length < 3
      · rw [if_pos d]; rfl
      · rw [if_neg d]
        by_cases e : ((decide (128 ≤ bt l 1) && decide (bt l 1 ≤ 191)) && (decide (128 ≤ bt l 2) && decide (bt l 2 ≤ 191))) = false
        · rw [if_pos e]; rfl
        · rw [if_neg e, if_pos (by rw [okP_false]; simp at e; omega)]; rfl
  rw [if_neg hD, dec_e _ _ _ _ _ (by omega) b0]
  by_cases hE : bt l 0 < 245
  · rw [if_pos hE]
    unfold multi
    have a1 : acc (bt l 0 % 8) l (4 - 1) = bt l 0 % 8 * 262144 + bt l 1 % 64 * 4096 + bt l 2 % 64 * 64 + bt l 3 % 64 := by show ((bt l 0 % 8 * 64 + bt l 1 % 64) * 64 + bt l 2 % 64) * 64 + bt l 3 % 64 = _; omega
    have c1 : cont l (4 - 1) = (((decide (128 ≤ bt l 1) && decide (bt l 1 ≤ 191)) && (decide (128 ≤ bt l 2) && decide (bt l 2 ≤ 191))) && (decide (128 ≤ bt l 3) && decide (bt l 3 ≤ 191))) := by show cont l 3 = _; rw [cont_succ, cont_succ, cont_succ]; rfl
    rw [a1, c1]
    generalize hv : bt l 0 % 8 * 262144 + bt l 1 % 64 * 4096 + bt l 2 % 64 * 64 + bt l 3 % 64 = v
    by_cases c : bt l 0 < 248 ∧ ((1 < l.length ∧ bt l 1 / 64 = 2) ∧ (2 < l.length ∧ bt l 2 / 64 = 2) ∧ (3 < l.length ∧ bt l 3 / 64 = 2)) ∧ 65536 ≤ v ∧ v ≤ 1114111
    · rw [if_pos c, if_neg (by omega), if_neg (by simp; omega), if_neg (by rw [okP_false]; omega), g8_two _ _ (by simp)]
    · rw [if_neg c]
      by_cases d : l.length < 4
      · rw [if_pos d]; rfl
      · rw [if_neg d]
        by_cases e : (((decide (128 ≤ bt l 1) && decide (bt l 1 ≤ 191)) && (decide (128 ≤ bt l 2) && decide (bt l 2 ≤ 191))) && (decide (128 ≤ bt l 3) && decide (bt l 3 ≤ 191))) = false
        · rw [if_pos e]; rfl
        · rw [if_neg e, if_pos (by rw [okP_false]; simp at e; omega)]; rfl
  · rw [if_neg hE, if_neg (by omega)]; rfl
end Go.Proofs.YtdkodepeglpimaaDoor
