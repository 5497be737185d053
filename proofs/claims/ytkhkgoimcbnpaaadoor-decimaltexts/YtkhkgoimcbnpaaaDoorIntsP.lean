/- Whole numbers with a sign and noughts ahead: what Int and Float answer, in plain terms. -/
import Derived.Test.YtkhkgoimcbnpaaaDoorGram
set_option linter.unusedVariables false
set_option linter.unusedSimpArgs false
namespace Go.Proofs.YtkhkgoimcbnpaaaDoor
open Go.RowKit

def SgOf (sg : List UInt8) (b : Bool) : Prop := (sg = [] ∧ b = false) ∨ (sg = [43] ∧ b = false) ∨ (sg = [45] ∧ b = true)
theorem rest_list {s : ByteArray} {c : UInt8} {r : List UInt8} (h : s.data.toList = c :: r) : s.extract 1 s.size = ⟨r.toArray⟩ := by
  have := ext_tl (t := s) (l := []) (r := r) (c := c) h
  simpa using this
theorem sg_split {s : ByteArray} {sg r : List UInt8} {b : Bool} (h : SgOf sg b) (hl : s.data.toList = sg ++ r) (hr : r.head? ≠ some 43 ∧ r.head? ≠ some 45) : negB s = b ∧ restB s = ⟨r.toArray⟩ := by
  unfold negB restB sgB
  rcases h with ⟨rfl, rfl⟩ | ⟨rfl, rfl⟩ | ⟨rfl, rfl⟩
  · have hl' : s.data.toList = r := hl
    rw [hl']
    have a1 : (r.head? == some 45) = false := beq_false_of_ne hr.2
    have a2 : (r.head? == some 43) = false := beq_false_of_ne hr.1
    rw [a1, a2]
    refine ⟨rfl, ?_⟩
    show s = _
    rw [← Lib.mk_data s, hl]
    rfl
  · rw [hl]
    refine ⟨rfl, ?_⟩
    show s.extract 1 s.size = _
    exact rest_list hl
  · rw [hl]
    refine ⟨rfl, ?_⟩
    show s.extract 1 s.size = _
    exact rest_list hl
theorem dig_head {r : List UInt8} (hd : r.all isD = true) : r.head? ≠ some 43 ∧ r.head? ≠ some 45 ∧ r.head? ≠ some 46 := by
  cases r with
  | nil => simp
  | cons c t =>
    rw [List.all_cons, Bool.and_eq_true] at hd
    have := isD_iff.1 hd.1
    refine ⟨?_, ?_, ?_⟩
    all_goals
      intro e
      have e' := Option.some.inj (show some c = some _ from e)
      rw [e'] at this
      revert this
      decide
theorem pre_no {s : ByteArray} {a b : UInt8} (h : ∀ x ∈ s.data.toList, x ≠ b) : Lib.hasPrefix s.data.toList [a, b] = false := by
  unfold Lib.hasPrefix
  cases e : List.isPrefixOf [a, b] s.data.toList
  · rfl
  · have := (List.isPrefixOf_iff_prefix.1 e).subset (show b ∈ [a, b] by simp)
    exact absurd rfl (h b this)
theorem list_dot {t : ByteArray} (h : t.data.toList.head? ≠ some 46) : isInf t = false ∧ isNan t = false := by
  have hh : ∀ l : List UInt8, (t.toList == 46 :: l) = false := by
    intro l
    apply beq_false_of_ne
    intro e
    rw [Lib.toList_data] at e
    rw [e] at h
    exact h rfl
  unfold isInf isNan
  rw [hh, hh, hh, hh, hh, hh]
  exact ⟨rfl, rfl⟩
theorem sg_chars {sg : List UInt8} {b : Bool} (h : SgOf sg b) {x : UInt8} (hx : x ∈ sg) : x = 43 ∨ x = 45 := by
  rcases h with ⟨rfl, rfl⟩ | ⟨rfl, rfl⟩ | ⟨rfl, rfl⟩
  · cases hx
  · left; simpa using hx
  · right; simpa using hx
theorem dig_ne {l : List UInt8} (h : l.all isD = true) (c : UInt8) (hc : isD c = false) : ∀ x ∈ l, x ≠ c := by
  rintro x hx rfl
  rw [List.all_eq_true.1 h x hx] at hc
  cases hc

/-- A sign and digits: Int. -/
theorem int_digits {s : ByteArray} {sg r : List UInt8} {b : Bool} (h : SgOf sg b) (hl : s.data.toList = sg ++ r) (hd : r.all isD = true) (h0 : 0 < r.length) (h1 : r.length ≤ 5000) (hb : b = true → valD r ≠ 0) :
    intV s = .tuple #[numV b (valD r) 0, .bool true] := by
  have hh := dig_head hd
  obtain ⟨e1, e2⟩ := sg_split h hl ⟨hh.1, hh.2.1⟩
  have hx : ∀ c : UInt8, isD c = false → c ≠ 43 → c ≠ 45 → ∀ x ∈ s.data.toList, x ≠ c := by
    intro c hc h3 h4 x hx
    rw [hl, List.mem_append] at hx
    rcases hx with hx | hx
    · rintro rfl
      rcases sg_chars h hx with e | e
      · exact h3 e
      · exact h4 e
    · exact dig_ne hd c hc x hx
  have p1 : preO s = false := pre_no (hx 111 (by decide) (by decide) (by decide))
  have p2 : preX s = false := pre_no (hx 120 (by decide) (by decide) (by decide))
  have eb : bodyOf s = ⟨r.toArray⟩ := by unfold bodyOf; rw [p1, p2, ← e2]; rfl
  have ec : baseOf s = 10 := by unfold baseOf; rw [p1, p2]; rfl
  unfold intV
  rw [eb, ec, e1]
  have ok : okS (⟨r.toArray⟩ : ByteArray) ((10 : Nat) : Int) = true := by
    show okS _ 10 = true
    rw [okS_okL]
    unfold okL
    simp [hd, h0, h1]
  rw [ok]
  have en : numB (⟨r.toArray⟩ : ByteArray) 10 = valD r := rfl
  rw [en]
  have eb2 : (b && decide (valD r ≠ 0)) = b := by
    cases b
    · rfl
    · simp [hb rfl]
  rw [eb2]
  rfl

/-- A sign, and what Float reads. -/
theorem float_of {s : ByteArray} {sg r : List UInt8} {b : Bool} (h : SgOf sg b) (hl : s.data.toList = sg ++ r) (hr : r.head? ≠ some 43 ∧ r.head? ≠ some 45 ∧ r.head? ≠ some 46) :
    floatV s (kE s) = fltV b (fltK ⟨r.toArray⟩ (kT ⟨r.toArray⟩)) := by
  obtain ⟨e1, e2⟩ := sg_split h hl ⟨hr.1, hr.2.1⟩
  unfold floatV kE
  rw [e1, e2]
  have i1 := (list_dot (t := ⟨r.toArray⟩) hr.2.2).1
  have i2 : isNan s = false := by
    refine (list_dot ?_).2
    rw [hl]
    rcases h with ⟨rfl, rfl⟩ | ⟨rfl, rfl⟩ | ⟨rfl, rfl⟩
    · exact hr.2.2
    · show some (43 : UInt8) ≠ some 46
      decide
    · show some (45 : UInt8) ≠ some 46
      decide
  rw [i1, i2]
  rfl
theorem valD_zeros (k : Nat) (d : List UInt8) : valD (List.replicate k 48 ++ d) = valD d := by
  induction k with
  | zero => rfl
  | succ k ih => rw [List.replicate_succ, List.cons_append, valD_zero, ih]
theorem zeros_isD (k : Nat) : (List.replicate k (48 : UInt8)).all isD = true := by
  induction k with
  | zero => rfl
  | succ k ih => rw [List.replicate_succ, List.all_cons, ih]; rfl
theorem exp_zero : expP ⟨[48].toArray⟩ = some 0 := by decide +kernel

/-- Whole numbers, with three noughts behind a point, and an exponent that is nought. -/
theorem float_ints {s : ByteArray} {sg r : List UInt8} {b : Bool} (h : SgOf sg b) (hl : s.data.toList = sg ++ (r ++ [46, 48, 48, 48, 101, 48])) (hd : r.all isD = true) (h0 : 0 < r.length) (h1 : r.length ≤ 4000) :
    floatV s (kE s) = .tuple #[numV b (valD r) 0, .bool true] := by
  have hne : r ≠ [] := by rintro rfl; simp at h0
  have hh := dig_head hd
  have hr : (r ++ [46, 48, 48, 48, 101, 48]).head? = r.head? := by
    cases r with
    | nil => exact absurd rfl hne
    | cons c t => rfl
  rw [float_of h hl (by rw [hr]; exact hh)]
  have hf := flt_full (t := (⟨(r ++ [46, 48, 48, 48, 101, 48]).toArray⟩ : ByteArray)) (w := r) (p := [48, 48, 48]) (u := [48]) (c := 101) rfl hd (by decide) (by decide)
  rw [hf, exp_zero]
  show fltV b (numF r [48, 48, 48] 0) = _
  unfold numF
  have ok : okL (r ++ [48, 48, 48]) = true := by
    unfold okL
    rw [List.all_append, hd]
    simp
    exact ⟨by omega, by decide⟩
  rw [ok]
  show Value.tuple #[numV b (valD (r ++ [48, 48, 48])) (0 - 3), .bool true] = _
  rw [valD_append, show valD [48, 48, 48] = 0 from by decide]
  have := numV_move b (valD r) 3 0
  have e3 : (0 : Int) - ((3 : Nat) : Int) = 0 - 3 := by decide
  rw [e3] at this
  rw [show ([48, 48, 48] : List UInt8).length = 3 from rfl, Nat.add_zero, this]

theorem dec_some (n : Nat) : 0 < (decB n).size := by
  rw [dec_sz]
  unfold dl
  split
  · simp
  · rw [carP_pos (by decide) (by omega)]; simp

/-- How many noughts are taken off. -/
def Zn (m : Nat) : Nat := if m = 0 then 0 else tz m
theorem numV_Z (b : Bool) (m : Nat) : numV b m 0 = .agg #[.bool b, .string (decB (m / 10 ^ Zn m)), .int .i64 (Zn m), .int .i64 0] := by
  unfold numV Zn
  split
  · rename_i h
    subst h
    rw [Nat.zero_div, dec_zero]
    rfl
  · rw [Int.zero_add]
theorem Zn_lt {m z : Nat} (h : z < Zn m) : 0 < m / 10 ^ z ∧ m / 10 ^ z % 10 = 0 := by
  unfold Zn at h
  split at h
  · omega
  · rename_i hm
    have hm0 : 0 < m := by omega
    refine ⟨?_, (tz_spec m hm0).1 z h⟩
    have h1 := quot_pos hm0
    have h2 : m / 10 ^ tz m ≤ m / 10 ^ z := Nat.div_le_div_left (Nat.pow_le_pow_right (by decide) (by omega)) (Nat.pow_pos (by decide))
    exact Nat.lt_of_lt_of_le h1 h2
theorem Zn_end (m : Nat) : m / 10 ^ Zn m = 0 ∨ m / 10 ^ Zn m % 10 ≠ 0 := by
  unfold Zn
  split
  · rename_i h
    subst h
    left; rfl
  · rename_i h
    exact .inr (tz_spec m (by omega)).2
end Go.Proofs.YtkhkgoimcbnpaaaDoor
