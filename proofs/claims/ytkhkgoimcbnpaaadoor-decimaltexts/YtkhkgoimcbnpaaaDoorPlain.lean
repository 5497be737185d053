/- Numbers as digits, in plain terms: the value of a list of digits in a base (the least first), lists without noughts last, the decimal text of a number. -/
import Derived.Test.YtkhkgoimcbnpaaaDoorRows
set_option linter.unusedVariables false
set_option linter.unusedSimpArgs false
namespace Go.Proofs.YtkhkgoimcbnpaaaDoor

def nAt (l : List Nat) (j : Nat) : Nat := l[j]?.getD 0
theorem nAt_cons_succ (d : Nat) (t : List Nat) (j : Nat) : nAt (d :: t) (j + 1) = nAt t j := by simp [nAt]
theorem nAt_cons_zero (d : Nat) (t : List Nat) : nAt (d :: t) 0 = d := by simp [nAt]
theorem nAt_get {l : List Nat} {j : Nat} (h : j < l.length) : nAt l j = l[j] := by simp [nAt, h]
theorem nAt_mem {l : List Nat} {j : Nat} (h : j < l.length) : nAt l j ∈ l := by rw [nAt_get h]; exact List.getElem_mem h
theorem take_snoc {l : List Nat} {k : Nat} (h : k < l.length) : l.take (k + 1) = l.take k ++ [nAt l k] := by
  rw [List.take_succ_eq_append_getElem h, nAt_get h]
theorem drop_cons {l : List Nat} {k : Nat} (h : k < l.length) : l.drop k = nAt l k :: l.drop (k + 1) := by
  rw [List.drop_eq_getElem_cons h, nAt_get h]

/-- The number that digits are in base b, the least first. -/
def val (b : Nat) : List Nat → Nat
  | [] => 0
  | d :: t => d + b * val b t
theorem val_append (b : Nat) (l m : List Nat) : val b (l ++ m) = val b l + b ^ l.length * val b m := by
  induction l with
  | nil => simp [val]
  | cons d t ih =>
    simp only [List.cons_append, val, ih, List.length_cons, Nat.pow_succ]
    rw [Nat.mul_add, Nat.add_assoc, ← Nat.mul_assoc, Nat.mul_comm b (b ^ t.length)]
theorem val_snoc (b : Nat) (l : List Nat) (d : Nat) : val b (l ++ [d]) = val b l + b ^ l.length * d := by rw [val_append]; simp [val]
/-- All of them are digits. -/
def Dg (b : Nat) (l : List Nat) : Prop := ∀ d, d ∈ l → d < b
theorem Dg.nil (b : Nat) : Dg b [] := fun d h => by cases h
theorem Dg.snoc {b : Nat} {l : List Nat} (h : Dg b l) {d : Nat} (hd : d < b) : Dg b (l ++ [d]) := by
  intro x hx
  rcases List.mem_append.1 hx with h' | h'
  · exact h x h'
  · simp at h'; omega
theorem Dg.append {b : Nat} {l m : List Nat} (h : Dg b l) (h' : Dg b m) : Dg b (l ++ m) := by
  intro x hx
  rcases List.mem_append.1 hx with k | k
  · exact h x k
  · exact h' x k
theorem Dg.take {b : Nat} {l : List Nat} (h : Dg b l) (k : Nat) : Dg b (l.take k) := fun d hd => h d (List.mem_of_mem_take hd)
theorem Dg.at {b : Nat} {l : List Nat} (h : Dg b l) {j : Nat} (hj : j < l.length) : nAt l j < b := h _ (nAt_mem hj)
theorem val_lt {b : Nat} (hb : 0 < b) : ∀ {l : List Nat}, Dg b l → val b l < b ^ l.length
  | [], _ => by simp [val]
  | d :: t, h => by
    have ih := val_lt hb (l := t) (fun x hx => h x (List.mem_cons_of_mem _ hx))
    have hd := h d (List.mem_cons_self ..)
    simp only [val, List.length_cons, Nat.pow_succ]
    have : b * val b t + b ≤ b ^ t.length * b := by
      rw [Nat.mul_comm (b ^ t.length) b]
      have h2 := Nat.mul_le_mul_left b (show val b t + 1 ≤ b ^ t.length from ih)
      rw [Nat.mul_add, Nat.mul_one] at h2
      exact h2
    omega

/-- How long a list is without the noughts that stand last. -/
def trimLen : List Nat → Nat
  | [] => 0
  | d :: t => if trimLen t = 0 ∧ d = 0 then 0 else trimLen t + 1
def trimL (l : List Nat) : List Nat := l.take (trimLen l)
theorem trimLen_le : ∀ l : List Nat, trimLen l ≤ l.length
  | [] => Nat.le_refl _
  | d :: t => by have := trimLen_le t; simp only [trimLen, List.length_cons]; split <;> omega
theorem trimLen_eq : ∀ (l : List Nat) (k : Nat), k ≤ l.length → (∀ j, k ≤ j → j < l.length → nAt l j = 0) → (k = 0 ∨ nAt l (k - 1) ≠ 0) → trimLen l = k
  | [], k, hk, _, _ => by simp at hk; simp [trimLen, hk]
  | d :: t, 0, _, hz, _ => by
    have h0 := trimLen_eq t 0 (Nat.zero_le _) (fun j _ hj => by have := hz (j + 1) (by omega) (by simp; omega); rwa [nAt_cons_succ] at this) (.inl rfl)
    have hd := hz 0 (Nat.le_refl _) (by simp)
    rw [nAt_cons_zero] at hd
    simp [trimLen, h0, hd]
  | d :: t, k + 1, hk, hz, hn => by
    simp only [List.length_cons] at hk
    have ht : trimLen t = k := by
      refine trimLen_eq t k (by omega) (fun j hj hj' => by have := hz (j + 1) (by omega) (by simp; omega); rwa [nAt_cons_succ] at this) ?_
      cases k with
      | zero => exact .inl rfl
      | succ m => right; rcases hn with h | h; · omega
                  rw [show m + 1 + 1 - 1 = m + 1 from by omega, nAt_cons_succ] at h; simpa using h
    rcases hn with h | h
    · omega
    · rw [trimLen, if_neg, ht]
      rintro ⟨h1, h2⟩
      rw [ht] at h1
      subst h1
      simp [nAt_cons_zero, h2] at h
theorem trimL_cons (d : Nat) (t : List Nat) : trimL (d :: t) = if trimLen t = 0 ∧ d = 0 then [] else d :: trimL t := by
  unfold trimL
  rw [trimLen]
  split <;> simp
theorem val_trim (b : Nat) : ∀ l : List Nat, val b (trimL l) = val b l
  | [] => rfl
  | d :: t => by
    have ih := val_trim b t
    rw [trimL_cons]
    split
    · rename_i h
      have : trimL t = [] := by unfold trimL; rw [h.1]; rfl
      rw [this] at ih
      simp [val, ← ih, h.2]
    · simp [val, ih]
theorem trimL_len (l : List Nat) : (trimL l).length = trimLen l := by have := trimLen_le l; simp [trimL]; omega
/-- No nought stands last. -/
def Canon (l : List Nat) : Prop := trimLen l = l.length
theorem canon_trim : ∀ l : List Nat, Canon (trimL l)
  | [] => rfl
  | d :: t => by
    have ih := canon_trim t
    unfold Canon at *
    rw [trimL_cons]
    split
    · rfl
    · rename_i h
      have h' := trimL_len t
      rw [trimLen, ih, h', if_neg h, List.length_cons, h']
theorem Dg.trim {b : Nat} {l : List Nat} (h : Dg b l) : Dg b (trimL l) := h.take _

/-- The digits of c in base b. -/
def carF (b : Nat) : Nat → Nat → List Nat
  | 0, _ => []
  | f + 1, c => if c = 0 then [] else c % b :: carF b f (c / b)
def carP (b c : Nat) : List Nat := carF b c c
theorem carF_same {b : Nat} (hb : 2 ≤ b) : ∀ f g c, c ≤ f → c ≤ g → carF b f c = carF b g c
  | 0, 0, _, _, _ => rfl
  | 0, g + 1, c, h, _ => by rw [carF, carF, if_pos (by omega)]
  | f + 1, 0, c, _, h => by rw [carF, carF, if_pos (by omega)]
  | f + 1, g + 1, c, h1, h2 => by
    rw [carF, carF]
    by_cases hc : c = 0
    · rw [if_pos hc, if_pos hc]
    · have := Nat.div_lt_self (show 0 < c by omega) (show 1 < b by omega)
      rw [if_neg hc, if_neg hc, carF_same hb f g (c / b) (by omega) (by omega)]
theorem carP_zero (b : Nat) : carP b 0 = [] := rfl
theorem carP_pos {b c : Nat} (hb : 2 ≤ b) (hc : 0 < c) : carP b c = c % b :: carP b (c / b) := by
  have := Nat.div_lt_self hc (show 1 < b by omega)
  obtain ⟨m, rfl⟩ : ∃ m, c = m + 1 := ⟨c - 1, by omega⟩
  unfold carP
  rw [carF, if_neg (by omega), carF_same hb m _ _ (by omega) (Nat.le_refl _)]
theorem carP_val {b : Nat} (hb : 2 ≤ b) : ∀ c, val b (carP b c) = c := by
  intro c
  induction c using Nat.strongRecOn with
  | ind c ih =>
    by_cases h : c = 0
    · rw [h, carP_zero]; rfl
    · rw [carP_pos hb (by omega), val, ih _ (Nat.div_lt_self (by omega) (by omega))]
      exact Nat.mod_add_div c b
theorem carP_dg {b : Nat} (hb : 2 ≤ b) : ∀ c, Dg b (carP b c) := by
  intro c
  induction c using Nat.strongRecOn with
  | ind c ih =>
    by_cases h : c = 0
    · rw [h, carP_zero]; exact Dg.nil _
    · rw [carP_pos hb (by omega)]
      intro d hd
      rcases List.mem_cons.1 hd with rfl | hd
      · exact Nat.mod_lt _ (by omega)
      · exact ih _ (Nat.div_lt_self (by omega) (by omega)) d hd
theorem carP_len {b : Nat} (hb : 2 ≤ b) : ∀ (k c : Nat), c < 2 ^ k → (carP b c).length ≤ k
  | 0, c, h => by have : c = 0 := by simpa using h
                  rw [this, carP_zero]; simp
  | k + 1, c, h => by
    by_cases h0 : c = 0
    · rw [h0, carP_zero]; simp
    · rw [carP_pos hb (by omega), List.length_cons]
      have h2 : c / b ≤ c / 2 := Nat.div_le_div_left hb (by omega)
      have := carP_len hb k (c / b) (by rw [Nat.pow_succ] at h; omega)
      omega
theorem canon_nil : Canon [] := rfl
theorem canon_cons {d : Nat} {t : List Nat} (h : Canon (d :: t)) : Canon t ∧ ¬ (t = [] ∧ d = 0) := by
  unfold Canon at *
  rw [trimLen, List.length_cons] at h
  have hl := trimLen_le t
  split at h
  · omega
  · rename_i h2
    refine ⟨by omega, fun ⟨e, h3⟩ => ?_⟩
    subst e
    exact h2 ⟨rfl, h3⟩
theorem canon_unique {b : Nat} (hb : 2 ≤ b) : ∀ {l : List Nat}, Dg b l → Canon l → l = carP b (val b l)
  | [], _, _ => (carP_zero b).symm
  | d :: t, h, hc => by
    obtain ⟨h1, h2⟩ := canon_cons hc
    have ih := canon_unique hb (l := t) (fun x hx => h x (List.mem_cons_of_mem _ hx)) h1
    have hd := h d (List.mem_cons_self ..)
    have hpos : 0 < d + b * val b t := by
      by_cases hv : val b t = 0
      · rw [hv, carP_zero] at ih
        have : d ≠ 0 := fun e => h2 ⟨ih, e⟩
        omega
      · have : 0 < b * val b t := Nat.mul_pos (by omega) (by omega)
        omega
    rw [val, carP_pos hb hpos, Nat.add_mul_mod_self_left, Nat.mod_eq_of_lt hd, Nat.add_mul_div_left _ _ (by omega), Nat.div_eq_of_lt hd, Nat.zero_add, ← ih]
theorem canon_carP {b : Nat} (hb : 2 ≤ b) : ∀ c, Canon (carP b c) := by
  intro c
  induction c using Nat.strongRecOn with
  | ind c ih =>
    by_cases h : c = 0
    · rw [h, carP_zero]; rfl
    · rw [carP_pos hb (by omega)]
      have i := ih _ (Nat.div_lt_self (show 0 < c by omega) (show 1 < b by omega))
      unfold Canon at *
      rw [trimLen, i, List.length_cons, if_neg]
      rintro ⟨h1, h2⟩
      have h3 := carP_val hb (c / b)
      rw [List.eq_nil_of_length_eq_zero h1] at h3
      simp [val] at h3
      have := Nat.mod_add_div c b
      rw [h2, ← h3] at this
      omega
theorem canon_low {b : Nat} (hb : 2 ≤ b) : ∀ {l : List Nat}, Canon l → l ≠ [] → b ^ (l.length - 1) ≤ val b l
  | [], _, h => absurd rfl h
  | d :: t, hc, _ => by
    obtain ⟨h1, h2⟩ := canon_cons hc
    by_cases e : t = []
    · subst e
      have : d ≠ 0 := fun e => h2 ⟨rfl, e⟩
      simp [val]; omega
    · have ih := canon_low hb h1 e
      have hl : 0 < t.length := by cases t with | nil => exact absurd rfl e | cons => simp
      simp only [List.length_cons, val]
      rw [show t.length + 1 - 1 = (t.length - 1) + 1 from by omega, Nat.pow_succ, Nat.mul_comm]
      have := Nat.mul_le_mul_left b ih
      omega
theorem canon_of_low {b : Nat} (hb : 2 ≤ b) : ∀ {l : List Nat}, Dg b l → (l = [] ∨ b ^ (l.length - 1) ≤ val b l) → Canon l
  | [], _, _ => rfl
  | d :: t, h, hv => by
    have hv : b ^ t.length ≤ d + b * val b t := by rcases hv with e | e; · cases e
                                                   simpa [val] using e
    have hd := h d (List.mem_cons_self ..)
    by_cases e : t = []
    · subst e
      simp [val] at hv
      unfold Canon
      rw [trimLen, if_neg (by omega)]
      rfl
    · have hl : 0 < t.length := by cases t with | nil => exact absurd rfl e | cons => simp
      have ih : Canon t := by
        refine canon_of_low hb (fun x hx => h x (List.mem_cons_of_mem _ hx)) (.inr ?_)
        rw [show t.length = (t.length - 1) + 1 from by omega, Nat.pow_succ, Nat.mul_comm] at hv
        have h3 : b * b ^ (t.length - 1) < b * (val b t + 1) := by rw [Nat.mul_add, Nat.mul_one]; omega
        have := Nat.lt_of_mul_lt_mul_left h3
        omega
      unfold Canon at *
      rw [trimLen, ih, List.length_cons, if_neg (by omega)]

/-- Decimal digits, the least first, as they are written. -/
def textB (l : List Nat) : ByteArray := if l = [] then ⟨#[48]⟩ else ⟨(l.reverse.map fun d => UInt8.ofNat (48 + d)).toArray⟩
/-- The decimal text of a number. -/
def decB (n : Nat) : ByteArray := textB (carP 10 n)
theorem text_dec {l : List Nat} (h : Dg 10 l) (hc : Canon l) : textB l = decB (val 10 l) := by
  unfold decB
  rw [← canon_unique (by decide) h hc]
end Go.Proofs.YtkhkgoimcbnpaaaDoor
