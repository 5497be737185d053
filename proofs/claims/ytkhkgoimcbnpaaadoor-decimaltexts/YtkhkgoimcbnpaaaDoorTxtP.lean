/- A number's text is read as that number, in plain terms. -/
import Derived.Test.YtkhkgoimcbnpaaaDoorTxtW
set_option linter.unusedVariables false
set_option linter.unusedSimpArgs false
namespace Go.Proofs.YtkhkgoimcbnpaaaDoor
open Go.RowKit

theorem bareL_parts {l : List Nat} (h : bareL l = true) : 0 < l.length ∧ nAt l 0 ≠ 0 ∧ nAt l (l.length - 1) ≠ 0 := by
  unfold bareL at h
  rw [Bool.and_eq_true, Bool.and_eq_true] at h
  exact ⟨of_decide_eq_true h.1, of_decide_eq_true h.2.1, of_decide_eq_true h.2.2⟩
theorem numV_bare {D : ByteArray} (hd : D.data.toList.all isD = true) (hb : bareL (msd D.data.toList) = true) (b : Bool) (e : Int) :
    numV b (valD D.data.toList) e = .agg #[.bool b, .string D, .int .i64 e, .int .i64 0] := by
  obtain ⟨h0, h1, h2⟩ := bareL_parts hb
  have hne : D.data.toList ≠ [] := by intro e; rw [e] at h0; simp [msd] at h0
  have hh : D.data.toList.head? ≠ some 48 := by
    cases hL : D.data.toList with
    | nil => exact absurd hL hne
    | cons c t =>
      rw [hL] at h1
      intro e
      have : c = 48 := by simpa using e
      subst this
      exact h1 (by unfold msd; rw [List.map_cons, nAt_cons_zero]; decide)
  have hD : D = decB (valD D.data.toList) := by
    have := lead_text hd hne (.inr hh)
    rwa [Lib.mk_data] at this
  generalize valD D.data.toList = n at hD
  have hn : n ≠ 0 := by
    rintro rfl
    have h48 := (dec_zero_iff 0).2 rfl
    rw [← hD] at h48
    rw [h48] at hh
    exact hh rfl
  have hm : nAt (carP 10 n) 0 ≠ 0 := by
    rw [hD, dec_msd, dl_pos (by omega)] at h0 h2
    rw [List.length_reverse] at h0 h2
    rw [nAt_rev (by omega)] at h2
    have e0 : (carP 10 n).length - 1 - ((carP 10 n).length - 1) = 0 := by omega
    rwa [e0] at h2
  rw [nAt_car] at hm
  have ht : tz n = 0 := tz_eq (fun j h => absurd h (Nat.not_lt_zero _)) hm
  unfold numV
  rw [if_neg hn, ht, Nat.pow_zero, Nat.div_one, ← hD]
  show Value.agg #[.bool b, .string D, .int .i64 (e + 0), .int .i64 0] = _
  rw [Int.add_zero]

/-- An exponent of ten digits or more is none. -/
theorem dec_ten {m : Nat} (h : 999999999 < m) : 9 < (decB m).size := by
  rw [dec_sz, dl_pos (by omega)]
  have h1 := val_lt (b := 10) (by decide) (carP_dg (b := 10) (by decide) m)
  rw [carP_val (by decide)] at h1
  by_cases hl : (carP 10 m).length ≤ 9
  · have h2 : 10 ^ (carP 10 m).length ≤ 10 ^ 9 := Nat.pow_le_pow_right (by decide) hl
    have h3 : (10 : Nat) ^ 9 = 1000000000 := by decide
    omega
  · omega
theorem exp_far {e : Int} (h : 999999999 < e ∨ e < -999999999) : expP (itoaB e) = none := by
  unfold itoaB
  by_cases hn : e < 0
  · rw [if_pos hn]
    have hl : ((⟨#[45]⟩ : ByteArray) ++ decB (-e).toNat).data.toList = [45] ++ (decB (-e).toNat).data.toList := app_list _ _
    obtain ⟨e1, e2⟩ := sg_split (sg := [45]) (b := true) (.inr (.inr ⟨rfl, rfl⟩)) hl (dec_list_head _)
    rw [Lib.mk_data] at e2
    unfold expP
    rw [e2, if_pos (.inr (dec_ten (by omega)))]
  · rw [if_neg hn]
    obtain ⟨e1, e2⟩ := sg_split (s := decB e.toNat) (sg := []) (b := false) (.inl ⟨rfl, rfl⟩) rfl (dec_list_head _)
    rw [Lib.mk_data] at e2
    unfold expP
    rw [e2, if_pos (.inr (dec_ten (by omega)))]

def mL (b : Bool) : List UInt8 := if b then [45] else []
theorem m_list (b : Bool) : (mB b).data.toList = mL b := by cases b <;> rfl
theorem m_sg (b : Bool) : SgOf (mL b) b := by
  cases b
  · exact .inl ⟨rfl, rfl⟩
  · exact .inr (.inr ⟨rfl, rfl⟩)
theorem m_asc (b : Bool) : (mL b).all (fun c => decide (c.toNat < 128)) = true := by cases b <;> decide

theorem numF_D {l : List UInt8} (hd : l.all isD = true) (h0 : 0 < l.length) (h1 : l.length ≤ 200) (x : Int) : numF l [] x = some (valD l, x) := by
  unfold numF
  have ok : okL (l ++ []) = true := by
    unfold okL
    rw [List.append_nil, hd]
    simp
    omega
  rw [ok]
  simp

theorem right_zero {D : ByteArray} {E : Int} (h : digsOk D E = true) :
    (D.data.toList.all isD = true ∧ 0 < D.size) ∧ (-2000000000 ≤ E ∧ E ≤ 2000000000) ∧ ∀ b, numV b (valD D.data.toList) E = .agg #[.bool b, .string D, .int .i64 E, .int .i64 0] := by
  unfold digsOk at h
  split at h
  · rename_i hz
    have hE := of_decide_eq_true h
    have hl : D.data.toList = [48] := by rw [← Lib.toList_data]; exact eq_of_beq hz
    have hD : D = ⟨#[48]⟩ := by
      apply ByteArray.ext
      apply Array.ext'
      exact hl
    subst hE
    subst hD
    exact ⟨⟨by decide, by decide⟩, ⟨by omega, by omega⟩, fun b => rfl⟩
  · rw [Bool.and_eq_true, Bool.and_eq_true, Bool.and_eq_true] at h
    obtain ⟨hd, hb, h1, h2⟩ := h
    refine ⟨⟨hd, ?_⟩, ⟨of_decide_eq_true h1, of_decide_eq_true h2⟩, fun b => numV_bare hd hb b E⟩
    have := (bareL_parts hb).1
    unfold msd at this
    rw [List.length_map, ← Lib.size_eq] at this
    exact this
theorem right_one {D : ByteArray} (h : D.toList.isEmpty = true) : D = ⟨#[]⟩ := by
  rw [Lib.toList_data] at h
  apply ByteArray.ext
  apply Array.ext'
  exact List.isEmpty_iff.1 h

theorem right_bounds {b : Bool} {D : ByteArray} {E X : Int} (h : rightP b D E X = true) : (X ≠ 2 → X ≠ 1 → 0 < D.size) ∧ -2000000000 ≤ E ∧ E ≤ 2000000000 := by
  unfold rightP at h
  split at h
  · have := right_zero h
    exact ⟨fun _ _ => this.1.2, this.2.1.1, this.2.1.2⟩
  · split at h
    · rename_i h1
      rw [Bool.and_eq_true] at h
      have := of_decide_eq_true h.2
      exact ⟨fun _ h' => absurd h1 h', by omega, by omega⟩
    · split at h
      · rename_i h1
        rw [Bool.and_eq_true, Bool.and_eq_true] at h
        have := of_decide_eq_true h.2.1
        exact ⟨fun h' => absurd h1 h', by omega, by omega⟩
      · cases h

/-- What Float answers to a number's text. -/
def backV (b : Bool) (D : ByteArray) (E X : Int) : Value :=
  if 999999999 < E ∨ E < -999999999 then .tuple #[zV, .bool false] else .tuple #[.agg #[.bool b, .string D, .int .i64 E, .int .i64 X], .bool true]
theorem nan_back : floatV ⟨#[46, 110, 97, 110]⟩ (kE ⟨#[46, 110, 97, 110]⟩) = .tuple #[.agg #[.bool false, .string ⟨#[]⟩, .int .i64 0, .int .i64 2], .bool true] := by
  unfold floatV
  rw [if_neg (by decide +kernel), if_pos (by decide +kernel)]
theorem inf_back (b : Bool) : floatV (mB b ++ ⟨#[46, 105, 110, 102]⟩) (kE (mB b ++ ⟨#[46, 105, 110, 102]⟩)) = .tuple #[.agg #[.bool b, .string ⟨#[]⟩, .int .i64 0, .int .i64 1], .bool true] := by
  cases b
  · have hn : negB (mB false ++ ⟨#[46, 105, 110, 102]⟩) = false := by decide +kernel
    unfold floatV
    rw [if_pos (by decide +kernel), hn]
  · have hn : negB (mB true ++ ⟨#[46, 105, 110, 102]⟩) = true := by decide +kernel
    unfold floatV
    rw [if_pos (by decide +kernel), hn]

theorem text_back {b : Bool} {D : ByteArray} {E X : Int} (h : rightP b D E X = true) (hs : D.size ≤ 200) :
    asc (textP b D E X) = true ∧ (textP b D E X).size ≤ 300 ∧ floatV (textP b D E X) (kE (textP b D E X)) = backV b D E X := by
  unfold rightP at h
  split at h
  · rename_i hX
    subst hX
    obtain ⟨⟨hd, h0⟩, ⟨hE0, hE1⟩, hnum⟩ := right_zero h
    have h0l : 0 < D.data.toList.length := by rw [← Lib.size_eq]; exact h0
    have h1l : D.data.toList.length ≤ 200 := by rw [← Lib.size_eq]; exact hs
    have hh := dig_head hd
    have hm := m_size b
    unfold textP
    rw [if_neg (by decide), if_neg (by decide)]
    by_cases hE : E = 0
    · subst hE
      rw [if_pos rfl]
      have hl : (mB b ++ D).data.toList = mL b ++ D.data.toList := by rw [app_list, m_list]
      refine ⟨?_, ?_, ?_⟩
      · unfold asc
        rw [hl, List.all_append, m_asc, ba_asc hd]
        rfl
      · rw [ByteArray.size_append]; omega
      · rw [float_of (m_sg b) hl hh, Lib.mk_data, flt_w hd, numF_D hd h0l h1l]
        show Value.tuple #[numV b (valD D.data.toList) 0, .bool true] = _
        rw [hnum b]
        unfold backV
        rw [if_neg (by omega)]
    · rw [if_neg hE]
      have hl : (mB b ++ D ++ ⟨#[101]⟩ ++ itoaB E).data.toList = mL b ++ (D.data.toList ++ 101 :: (itoaB E).data.toList) := by
        rw [app_list, app_list, app_list, m_list]
        simp
      have hi := itoa_le hE0 hE1
      have hr : (D.data.toList ++ 101 :: (itoaB E).data.toList).head? = D.data.toList.head? := by
        cases hL : D.data.toList with
        | nil => rw [hL] at h0l; simp at h0l
        | cons a t => rfl
      refine ⟨?_, ?_, ?_⟩
      · have ha := itoa_asc E
        unfold asc at ha ⊢
        rw [hl, List.all_append, m_asc, List.all_append, ba_asc hd, List.all_cons, ha]
        rfl
      · rw [ByteArray.size_append, ByteArray.size_append, ByteArray.size_append]
        have : (⟨#[101]⟩ : ByteArray).size = 1 := rfl
        omega
      · rw [float_of (m_sg b) hl (by rw [hr]; exact hh), flt_we (w := D.data.toList) (u := (itoaB E).data.toList) (c := 101) rfl hd (by decide), Lib.mk_data]
        unfold backV
        by_cases hf : 999999999 < E ∨ E < -999999999
        · rw [exp_far hf, if_pos hf]
          rfl
        · rw [exp_itoa (by omega) (by omega), if_neg hf]
          show fltV b (numF D.data.toList [] E) = _
          rw [numF_D hd h0l h1l]
          show Value.tuple #[numV b (valD D.data.toList) E, .bool true] = _
          rw [hnum b]
  · split at h
    · rename_i hX
      subst hX
      rw [Bool.and_eq_true] at h
      have hD := right_one h.1
      have hE := of_decide_eq_true h.2
      subst hD
      subst hE
      unfold textP
      rw [if_neg (by decide), if_pos rfl, inf_back b]
      unfold backV
      rw [if_neg (by omega)]
      refine ⟨?_, ?_, rfl⟩
      · cases b <;> decide +kernel
      · cases b <;> decide +kernel
    · split at h
      · rename_i hX
        subst hX
        rw [Bool.and_eq_true, Bool.and_eq_true] at h
        have hD := right_one h.1
        have hE := of_decide_eq_true h.2.1
        have hb : b = false := by simpa using h.2.2
        subst hD
        subst hE
        subst hb
        unfold textP
        rw [if_pos rfl, nan_back]
        unfold backV
        rw [if_neg (by omega)]
        exact ⟨by decide +kernel, by decide +kernel, rfl⟩
      · cases h
end Go.Proofs.YtkhkgoimcbnpaaaDoor
