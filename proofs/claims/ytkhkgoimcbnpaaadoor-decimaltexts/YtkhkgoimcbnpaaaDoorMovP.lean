/- A point that is moved: what Float answers, in plain terms. -/
import Derived.Test.YtkhkgoimcbnpaaaDoorRght
set_option linter.unusedVariables false
set_option linter.unusedSimpArgs false
namespace Go.Proofs.YtkhkgoimcbnpaaaDoor
open Go.RowKit

theorem dec_nine {m : Nat} (h : m ≤ 999999999) : (decB m).size ≤ 9 := by
  rw [dec_sz]
  unfold dl
  split
  · simp
  · rename_i hm
    by_cases hl : (carP 10 m).length ≤ 9
    · exact hl
    · have hne : carP 10 m ≠ [] := by intro e; rw [e] at hl; simp at hl
      have h1 := canon_low (b := 10) (by decide) (canon_carP (by decide) m) hne
      rw [carP_val (by decide)] at h1
      have h2 : 10 ^ 9 ≤ 10 ^ ((carP 10 m).length - 1) := Nat.pow_le_pow_right (by decide) (by omega)
      have h3 : (10 : Nat) ^ 9 = 1000000000 := by decide
      omega
theorem dec_list_head (m : Nat) : (decB m).data.toList.head? ≠ some 43 ∧ (decB m).data.toList.head? ≠ some 45 := by
  have := dig_head (dec_isD m)
  exact ⟨this.1, this.2.1⟩
theorem exp_itoa {e : Int} (h0 : -999999999 ≤ e) (h1 : e ≤ 999999999) : expP (itoaB e) = some e := by
  unfold itoaB
  by_cases h : e < 0
  · rw [if_pos h]
    have hl : ((⟨#[45]⟩ : ByteArray) ++ decB (-e).toNat).data.toList = [45] ++ (decB (-e).toNat).data.toList := app_list _ _
    obtain ⟨e1, e2⟩ := sg_split (sg := [45]) (b := true) (.inr (.inr ⟨rfl, rfl⟩)) hl (dec_list_head _)
    rw [Lib.mk_data] at e2
    unfold expP
    rw [e2, e1, if_neg (by have := dec_some (-e).toNat; have := dec_nine (m := (-e).toNat) (by omega); omega), dec_isD, valD_dec]
    simp only [if_true]
    congr 1
    omega
  · rw [if_neg h]
    obtain ⟨e1, e2⟩ := sg_split (s := decB e.toNat) (sg := []) (b := false) (.inl ⟨rfl, rfl⟩) rfl (dec_list_head _)
    rw [Lib.mk_data] at e2
    unfold expP
    rw [e2, e1, if_neg (by have := dec_some e.toNat; have := dec_nine (m := e.toNat) (by omega); omega), dec_isD, valD_dec]
    simp only [if_true, Bool.false_eq_true, if_false]
    congr 1
    omega
theorem itoa_size {e : Int} (h0 : -999999999 ≤ e) (h1 : e ≤ 999999999) : (itoaB e).size ≤ 10 := by
  unfold itoaB
  split
  · rw [ByteArray.size_append]
    have := dec_nine (m := (-e).toNat) (by omega)
    show 1 + _ ≤ 10
    omega
  · have := dec_nine (m := e.toNat) (by omega)
    omega
theorem itoa_asc (e : Int) : asc (itoaB e) = true := by
  have hd : ∀ m, asc (decB m) = true := by
    intro m
    unfold asc
    rw [List.all_eq_true]
    intro c hc
    have := isD_iff.1 (List.all_eq_true.1 (dec_isD m) c hc)
    simp
    omega
  unfold itoaB
  split
  · unfold asc
    rw [app_list, List.all_append]
    have := hd (-e).toNat
    unfold asc at this
    rw [this]
    decide
  · exact hd _

theorem canon_top {l : List Nat} (hd : Dg 10 l) (hc : Canon l) (hn : l ≠ []) : nAt l (l.length - 1) ≠ 0 := by
  intro h0
  have hl : 0 < l.length := by
    cases l with
    | nil => exact absurd rfl hn
    | cons a t => simp
  have h1 := canon_low (b := 10) (by decide) hc hn
  have h2 : l = l.take (l.length - 1) ++ [nAt l (l.length - 1)] := by
    rw [← take_snoc (by omega), show l.length - 1 + 1 = l.length from by omega, List.take_length]
  have h3 : val 10 l = val 10 (l.take (l.length - 1)) := by
    conv => lhs; rw [h2]
    rw [val_snoc, h0]
    omega
  have h4 := val_lt (b := 10) (by decide) (hd.take (l.length - 1))
  rw [List.length_take, Nat.min_eq_left (by omega)] at h4
  omega
theorem num_right (b : Bool) (n : Nat) (e : Int) (hs : (decB n).size ≤ 20000) (h0 : -1000000000 ≤ e) (h1 : e ≤ 1000000000) :
    ∃ D E, numV b n e = .agg #[.bool b, .string D, .int .i64 E, .int .i64 0] ∧ rightP b D E 0 = true ∧ D.size ≤ 100000 := by
  by_cases hn : n = 0
  · subst hn
    refine ⟨⟨#[48]⟩, 0, rfl, ?_, by decide⟩
    unfold rightP
    rw [if_pos rfl]
    decide +kernel
  · have hn0 : 0 < n := by omega
    have hq := quot_pos hn0
    have htz := tz_lt hn0
    rw [dec_sz, dl_pos hn0] at hs
    refine ⟨decB (n / 10 ^ tz n), e + tz n, by unfold numV; rw [if_neg hn], ?_, ?_⟩
    · unfold rightP digsOk
      rw [if_pos rfl]
      have h3 : ((decB (n / 10 ^ tz n)).toList == [48]) = false := by
        rw [dec_ne, decide_eq_true (show n / 10 ^ tz n ≠ 0 from Nat.pos_iff_ne_zero.1 hq)]
        rfl
      rw [h3, dec_isD, dec_msd, dl_pos hq]
      have hne : carP 10 (n / 10 ^ tz n) ≠ [] := by rw [carP_pos (by decide) hq]; simp
      have hlen : 0 < (carP 10 (n / 10 ^ tz n)).length := by
        cases hc : carP 10 (n / 10 ^ tz n) with
        | nil => exact absurd hc hne
        | cons a t => simp
      have b1 : nAt (carP 10 (n / 10 ^ tz n)).reverse 0 ≠ 0 := by
        rw [nAt_rev hlen, Nat.sub_zero]
        exact canon_top (carP_dg (by decide) _) (canon_carP (by decide) _) hne
      have b2 : nAt (carP 10 (n / 10 ^ tz n)).reverse ((carP 10 (n / 10 ^ tz n)).reverse.length - 1) ≠ 0 := by
        rw [List.length_reverse, nAt_rev (by omega), show (carP 10 (n / 10 ^ tz n)).length - 1 - ((carP 10 (n / 10 ^ tz n)).length - 1) = 0 from by omega, nAt_car, Nat.pow_zero, Nat.div_one]
        exact (tz_spec n hn0).2
      have hb : bareL (carP 10 (n / 10 ^ tz n)).reverse = true := by
        unfold bareL
        rw [decide_eq_true b1, decide_eq_true b2, decide_eq_true (show 0 < (carP 10 (n / 10 ^ tz n)).reverse.length by rw [List.length_reverse]; exact hlen)]
        rfl
      rw [hb, decide_eq_true (show -2000000000 ≤ e + (tz n : Int) by omega), decide_eq_true (show e + (tz n : Int) ≤ 2000000000 by omega)]
      rfl
    · rw [dec_sz, dl_pos hq, ← car_drop, List.length_drop]
      omega

theorem ba_asc {l : List UInt8} (h : l.all isD = true) : l.all (fun c => decide (c.toNat < 128)) = true := by
  rw [List.all_eq_true] at *
  intro c hc
  have := isD_iff.1 (h c hc)
  simp
  omega
/-- Digits, a point, digits, e, an exponent: what Float answers. -/
theorem float_moves {s : ByteArray} {w p : List UInt8} {c : UInt8} {x : Int} (hl : s.data.toList = w ++ 46 :: (p ++ c :: (itoaB x).data.toList)) (hc : isE c = true) (hw : w.all isD = true) (hp : p.all isD = true)
    (h0 : 0 < w.length) (h1 : w.length + p.length ≤ 100) (hx0 : -999999999 ≤ x) (hx1 : x ≤ 999999999) :
    floatV s (kE s) = .tuple #[numV false (valD (w ++ p)) (x - p.length), .bool true] ∧ asc s = true := by
  have hh := dig_head hw
  have hr : (w ++ 46 :: (p ++ c :: (itoaB x).data.toList)).head? = w.head? := by
    cases w with
    | nil => simp at h0
    | cons a t => rfl
  constructor
  · have hf := float_of (s := s) (sg := []) (r := w ++ 46 :: (p ++ c :: (itoaB x).data.toList)) (b := false) (.inl ⟨rfl, rfl⟩) hl (by rw [hr]; exact hh)
    have hg := flt_full (t := (⟨(w ++ 46 :: (p ++ c :: (itoaB x).data.toList)).toArray⟩ : ByteArray)) (w := w) (p := p) (u := (itoaB x).data.toList) (c := c) rfl hw hp hc
    rw [hf, hg, Lib.mk_data, exp_itoa hx0 hx1]
    show fltV false (numF w p x) = _
    unfold numF
    have ok : okL (w ++ p) = true := by
      unfold okL
      rw [List.all_append, hw, hp]
      simp
      omega
    rw [ok]
    rfl
  · unfold asc
    have hi := itoa_asc x
    unfold asc at hi
    have hcc : c.toNat < 128 := by
      unfold isE eE at hc
      have : c = 101 ∨ c = 69 := by simpa using hc
      rcases this with rfl | rfl <;> decide
    rw [hl, List.all_append, ba_asc hw, List.all_cons, List.all_append, ba_asc hp, List.all_cons, hi]
    simp [hcc]
end Go.Proofs.YtkhkgoimcbnpaaaDoor
