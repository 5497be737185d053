/- Numbers without the noughts at their end, in plain terms. -/
import Derived.Test.YtpffegkckejpiaaNum
import Derived.Test.YtpffegkckejpiaaSgn
set_option linter.unusedVariables false
set_option linter.unusedSimpArgs false
namespace Go.Proofs.Ytpffegkckejpiaa
open Go.RowKit

/-- How many noughts stand at a number's end. -/
def tzF : Nat → Nat → Nat
  | 0, _ => 0
  | f + 1, n => if n % 10 = 0 then tzF f (n / 10) + 1 else 0
def tz (n : Nat) : Nat := tzF n n
theorem div_pow_succ (n j : Nat) : n / 10 ^ (j + 1) = n / 10 / 10 ^ j := by rw [Nat.div_div_eq_div_mul, Nat.pow_succ, Nat.mul_comm]
theorem tzF_eq : ∀ (z f n : Nat), z < f → (∀ j, j < z → n / 10 ^ j % 10 = 0) → n / 10 ^ z % 10 ≠ 0 → tzF f n = z
  | _, 0, _, h, _, _ => absurd h (Nat.not_lt_zero _)
  | 0, f + 1, n, _, _, h1 => by
    rw [tzF, if_neg (by simpa using h1)]
  | z + 1, f + 1, n, hf, h0, h1 => by
    have a := h0 0 (by omega)
    rw [Nat.pow_zero, Nat.div_one] at a
    rw [tzF, if_pos a, tzF_eq z f (n / 10) (by omega) (fun j hj => by rw [← div_pow_succ]; exact h0 (j + 1) (by omega)) (by rw [← div_pow_succ]; exact h1)]
theorem tz_eq {n z : Nat} (h0 : ∀ j, j < z → n / 10 ^ j % 10 = 0) (h1 : n / 10 ^ z % 10 ≠ 0) : tz n = z := by
  refine tzF_eq z n n ?_ h0 h1
  have h2 : n / 10 ^ z ≠ 0 := fun e => h1 (by rw [e])
  have h3 : 10 ^ z ≤ n := by
    by_cases h : n < 10 ^ z
    · exact absurd (Nat.div_eq_of_lt h) h2
    · omega
  exact Nat.lt_of_lt_of_le (Nat.lt_pow_self (by decide)) h3
theorem tz_spec : ∀ (n : Nat), 0 < n → (∀ j, j < tz n → n / 10 ^ j % 10 = 0) ∧ n / 10 ^ tz n % 10 ≠ 0 := by
  have ex : ∀ (n : Nat), 0 < n → ∃ z, (∀ j, j < z → n / 10 ^ j % 10 = 0) ∧ n / 10 ^ z % 10 ≠ 0 := by
    intro n
    induction n using Nat.strongRecOn with
    | ind n ih =>
      intro hn
      by_cases h : n % 10 = 0
      · obtain ⟨z, a, b⟩ := ih (n / 10) (by omega) (by omega)
        refine ⟨z + 1, fun j hj => ?_, by rw [div_pow_succ]; exact b⟩
        cases j with
        | zero => simpa using h
        | succ j => rw [div_pow_succ]; exact a j (by omega)
      · exact ⟨0, (fun j hj => absurd hj (Nat.not_lt_zero _)), by simpa using h⟩
  intro n hn
  obtain ⟨z, a, b⟩ := ex n hn
  rw [tz_eq a b]
  exact ⟨a, b⟩
theorem nAt_car : ∀ (j n : Nat), nAt (carP 10 n) j = n / 10 ^ j % 10 := by
  intro j
  induction j with
  | zero =>
    intro n
    by_cases h : n = 0
    · subst h; rfl
    · rw [carP_pos (by decide) (by omega), nAt_cons_zero, Nat.pow_zero, Nat.div_one]
  | succ j ih =>
    intro n
    by_cases h : n = 0
    · subst h; rw [Nat.zero_div]; rfl
    · rw [carP_pos (by decide) (by omega), nAt_cons_succ, ih, div_pow_succ]
theorem car_drop : ∀ (z n : Nat), (carP 10 n).drop z = carP 10 (n / 10 ^ z) := by
  intro z
  induction z with
  | zero => intro n; rw [List.drop_zero, Nat.pow_zero, Nat.div_one]
  | succ z ih =>
    intro n
    by_cases h : n = 0
    · subst h; rw [Nat.zero_div]; rfl
    · rw [carP_pos (by decide) (by omega), List.drop_succ_cons, ih, div_pow_succ]
theorem nAt_over {l : List Nat} {j : Nat} (h : l.length ≤ j) : nAt l j = 0 := by unfold nAt; rw [List.getElem?_eq_none h]; rfl
theorem nAt_rev {l : List Nat} {j : Nat} (h : j < l.length) : nAt l.reverse j = nAt l (l.length - 1 - j) := by unfold nAt; rw [List.getElem?_reverse h]
theorem tz_lt {n : Nat} (h : 0 < n) : tz n < (carP 10 n).length := by
  by_cases e : tz n < (carP 10 n).length
  · exact e
  · exact absurd (nAt_car (tz n) n ▸ nAt_over (by omega)) (tz_spec n h).2
theorem dl_pos {n : Nat} (h : 0 < n) : dl n = carP 10 n := by unfold dl; rw [if_neg (by omega)]
theorem trim_car {n : Nat} (h : 0 < n) : trimLen (dl n).reverse + tz n = (dl n).length ∧ trimL (dl n).reverse = (carP 10 (n / 10 ^ tz n)).reverse := by
  rw [dl_pos h]
  have hl := tz_lt h
  obtain ⟨a, b⟩ := tz_spec n h
  have ht : trimLen (carP 10 n).reverse = (carP 10 n).length - tz n := by
    refine trimLen_eq _ _ (by simp) (fun j h1 h2 => ?_) (.inr ?_)
    · rw [List.length_reverse] at h2
      rw [nAt_rev h2, nAt_car]
      exact a _ (by omega)
    · rw [nAt_rev (by omega), nAt_car, show (carP 10 n).length - 1 - ((carP 10 n).length - tz n - 1) = tz n from by omega]
      exact b
  refine ⟨by omega, ?_⟩
  unfold trimL
  rw [ht, List.take_reverse, show (carP 10 n).length - ((carP 10 n).length - tz n) = tz n from by omega, car_drop]
theorem quot_pos {n : Nat} (h : 0 < n) : 0 < n / 10 ^ tz n := by
  have := (tz_spec n h).2
  by_cases e : n / 10 ^ tz n = 0
  · rw [e] at this; exact absurd rfl this
  · exact Nat.pos_of_ne_zero e

/-- No number. -/
def zV : Value := .agg #[.bool false, .string ⟨#[]⟩, .int .i64 0, .int .i64 0]
/-- A number: n times ten to the power of e. -/
def numV (b : Bool) (n : Nat) (e : Int) : Value :=
  if n = 0 then .agg #[.bool b, .string ⟨#[48]⟩, .int .i64 0, .int .i64 0] else .agg #[.bool b, .string (decB (n / 10 ^ tz n)), .int .i64 (e + tz n), .int .i64 0]

/-- Is a byte a digit? -/
def isD (c : UInt8) : Bool := decide (48 ≤ (c.toNat : Int)) && decide ((c.toNat : Int) ≤ 57)
theorem isD_iff {c : UInt8} : isD c = true ↔ 48 ≤ (c.toNat : Int) ∧ (c.toNat : Int) ≤ 57 := by unfold isD; simp
theorem isD_ok (c : UInt8) : okD 10 c = isD c := by
  rw [Bool.eq_iff_iff, okD_iff, isD_iff]
  unfold hexP
  repeat' split
  all_goals omega
theorem isD_hex {c : UInt8} (h : isD c = true) : hexN c = c.toNat - 48 := by
  have := isD_iff.1 h
  unfold hexN hexP
  rw [if_pos this]
  omega
theorem all_isD (l : List UInt8) : l.all (okD 10) = l.all isD := by
  induction l with
  | nil => rfl
  | cons c t ih => rw [List.all_cons, List.all_cons, ih, isD_ok]
/-- The number of a list of digits, the first one first. -/
def valD (l : List UInt8) : Nat := val 10 (msd l).reverse
theorem numB_valD (s : ByteArray) : numB s 10 = valD s.data.toList := rfl
theorem valD_snoc (l : List UInt8) (c : UInt8) : valD (l ++ [c]) = valD l * 10 + hexN c := by
  unfold valD msd
  rw [List.map_append, List.reverse_append]
  show hexN c + 10 * val 10 (List.map hexN l).reverse = _
  omega
theorem valD_zero (l : List UInt8) : valD (48 :: l) = valD l := by
  unfold valD msd
  rw [List.map_cons, List.reverse_cons, val_snoc]
  have : hexN 48 = 0 := by decide
  rw [this]
  omega
theorem msd_dg {l : List UInt8} (h : l.all isD = true) : Dg 10 (msd l) := by
  intro d hd
  obtain ⟨c, hc, rfl⟩ := List.mem_map.1 hd
  have h1 := List.all_eq_true.1 h c hc
  rw [isD_hex h1]
  have := isD_iff.1 h1
  omega
theorem digit_back {c : UInt8} (h : isD c = true) : UInt8.ofNat (48 + hexN c) = c := by
  rw [isD_hex h]
  have := isD_iff.1 h
  apply UInt8.toNat_inj.1
  simp
  omega
theorem msd_back {l : List UInt8} (h : l.all isD = true) : (msd l).map (fun d => UInt8.ofNat (48 + d)) = l := by
  unfold msd
  rw [List.map_map]
  conv => rhs; rw [← List.map_id' l]
  exact List.map_congr_left fun c hc => digit_back (List.all_eq_true.1 h c hc)
/-- Digits without noughts at their beginning are the text of their number. -/
theorem lead_text {l : List UInt8} (h : l.all isD = true) (hn : l ≠ []) (hd : l.length = 1 ∨ l.head? ≠ some 48) : (⟨l.toArray⟩ : ByteArray) = decB (valD l) := by
  cases l with
  | nil => exact absurd rfl hn
  | cons c t =>
    by_cases hc : c = 48
    · subst hc
      rcases hd with h1 | h1
      · have : t = [] := List.eq_nil_of_length_eq_zero (by simpa using h1)
        subst this
        rw [show valD [48] = 0 from by decide]
        unfold decB
        rw [carP_zero]
        rfl
      · exact absurd rfl h1
    · have hcd : isD c = true := by rw [List.all_cons, Bool.and_eq_true] at h; exact h.1
      have hne : hexN c ≠ 0 := by
        rw [isD_hex hcd]
        have := isD_iff.1 hcd
        intro e
        exact hc (byte_eq (k := 48) (by decide) (by omega))
      have hcn : Canon (msd (c :: t)).reverse := by
        refine trimLen_eq _ _ (Nat.le_refl _) (fun j a b => by omega) (.inr ?_)
        rw [nAt_rev (by simp [msd])]
        rw [List.length_reverse, Nat.sub_self]
        unfold msd
        rw [List.map_cons, nAt_cons_zero]
        exact hne
      have hdg : Dg 10 (msd (c :: t)).reverse := fun d hd => msd_dg h d (List.mem_reverse.1 hd)
      unfold valD
      rw [← text_dec hdg hcn]
      unfold textB
      rw [if_neg (by simp [msd]), List.reverse_reverse, msd_back h]
theorem dec_list2 (n : Nat) : (decB n).data.toList = (dl n).reverse.map fun d => UInt8.ofNat (48 + d) := dec_list n
theorem dec_isD (n : Nat) : (decB n).data.toList.all isD = true := by
  rw [dec_list, List.all_eq_true]
  intro c hc
  obtain ⟨d, hd, rfl⟩ := List.mem_map.1 hc
  have hd' := dl_dg n d (List.mem_reverse.1 hd)
  rw [isD_iff]
  simp
  omega
theorem dec_msd (n : Nat) : msd (decB n).data.toList = (dl n).reverse := by
  have := dec_lsd n
  unfold lsd at this
  rw [← this, List.reverse_reverse]
theorem valD_dec (n : Nat) : valD (decB n).data.toList = n := by unfold valD; rw [dec_msd, List.reverse_reverse, dl_val]
theorem dec_zero_iff (n : Nat) : decB n = ⟨#[48]⟩ ↔ n = 0 := by
  constructor
  · intro e
    have := valD_dec n
    rw [e] at this
    rw [← this]
    decide
  · rintro rfl
    exact dec_zero
end Go.Proofs.Ytpffegkckejpiaa
