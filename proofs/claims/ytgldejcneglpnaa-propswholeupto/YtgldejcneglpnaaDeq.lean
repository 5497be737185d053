/- Directive and the document's own tell the same: plain lists. -/
import Derived.Test.YtgldejcneglpnaaDir
set_option linter.unusedVariables false
set_option linter.unusedSimpArgs false
namespace Go.Proofs.Ytgldejcneglpnaa
open Go

/-- From s to e nothing is a blank, and it ends there. -/
structure Pt (t : List Int) (s e : Nat) : Prop where
  le : s ≤ e
  lt : e ≤ t.length
  no : ∀ j, s ≤ j → j < e → blankP (iAt t j) = false
  yes : e < t.length → blankP (iAt t e) = true
theorem Pt.from {t : List Int} {s e k : Nat} (h : Pt t s e) (h1 : s ≤ k) (h2 : k ≤ e) : Pt t k e := ⟨h2, h.lt, fun j a b => h.no j (by omega) b, h.yes⟩

theorem cnt_all {P : Int → Bool} {t : List Int} : ∀ j, j < cnt P t → P (iAt t j) = true := by
  induction t with
  | nil => intro j h; rw [cnt_nil] at h; omega
  | cons c t ih =>
    intro j h
    rw [cnt_cons] at h
    split at h
    · rename_i hc
      cases j with
      | zero => simpa [iAt] using hc
      | succ j =>
        have := ih j (by omega)
        simpa [iAt] using this
    · omega
theorem pt_nE {t : List Int} {s : Nat} (h : s ≤ t.length) : Pt t s (nE t s) := by
  refine ⟨Nat.le_add_right _ _, nE_le h, fun j h1 h2 => ?_, fun h1 => ?_⟩
  · have := cnt_all (P := noBlank) (t := t.drop s) (j - s) (by unfold nE at h2; omega)
    rw [iAt_drop, show s + (j - s) = j by omega] at this
    unfold noBlank at this
    simpa using this
  · unfold nE at h1 ⊢
    have := cnt_stop (P := noBlank) (t := t.drop s) (by simp; omega)
    rw [iAt_drop] at this
    have h2 : (!blankP (iAt t (s + cnt noBlank (t.drop s)))) = false := this
    simpa using h2

def piece (t : List Int) (s e : Nat) : List Int := (t.drop s).take (e - s)
theorem piece_len {t : List Int} {s e : Nat} (h : e ≤ t.length) : (piece t s e).length = e - s := by simp [piece]; omega
theorem piece_at {t : List Int} {s e j : Nat} (h : s + j < e) : iAt (piece t s e) j = iAt t (s + j) := by
  unfold piece iAt
  rw [List.getElem?_take, if_pos (by omega), List.getElem?_drop]
theorem piece_drop (t : List Int) (s e d : Nat) : (piece t s e).drop d = piece t (s + d) e := by
  unfold piece
  rw [List.drop_take, List.drop_drop, Nat.sub_sub]
theorem piece_take {t : List Int} {s e d : Nat} (h : d ≤ e - s) : (piece t s e).take d = (t.drop s).take d := by
  unfold piece
  rw [List.take_take, Nat.min_eq_left h]

/-- What is no blank stays within a part. -/
theorem cnt_piece {P : Int → Bool} (hP : ∀ c, P c = true → blankP c = false) {t : List Int} {s e : Nat} (h : Pt t s e) : cnt P (piece t s e) = cnt P (t.drop s) := by
  have hsp : t.drop s = piece t s e ++ t.drop e := by
    unfold piece
    have h1 : t.drop e = (t.drop s).drop (e - s) := by rw [List.drop_drop, show s + (e - s) = e by have := h.le; omega]
    rw [h1, List.take_append_drop]
  have hr : (t.drop e).takeWhile P = [] := by
    by_cases he : e < t.length
    · rw [List.drop_eq_getElem_cons he, List.takeWhile_cons]
      have h1 := h.yes he
      have h2 : iAt t e = t[e] := by simp [iAt, he]
      rw [h2] at h1
      cases h3 : P t[e] with
      | true => rw [hP _ h3] at h1; cases h1
      | false => rfl
    · rw [List.drop_eq_nil_of_le (by omega)]; rfl
  rw [cnt_eq, cnt_eq]
  conv => rhs; rw [hsp, List.takeWhile_append, hr]
  split
  · rename_i h1
    rw [List.append_nil]
    exact h1
  · rfl
theorem cnt_in {P : Int → Bool} (hP : ∀ c, P c = true → blankP c = false) {t : List Int} {s e : Nat} (h : Pt t s e) : s + cnt P (t.drop s) ≤ e := by
  have := cnt_le P (piece t s e)
  rw [cnt_piece hP h, piece_len h.lt] at this
  have := h.le
  omega
theorem digit_no : ∀ c, digitP c = true → blankP c = false := by
  intro c h
  unfold digitP at h
  unfold blankP
  have := of_decide_eq_true h
  exact decide_eq_false (by omega)
theorem word_no : ∀ c, wordP c = true → blankP c = false := by
  intro c h
  unfold wordP at h
  unfold blankP
  have := of_decide_eq_true h
  exact decide_eq_false (by omega)
theorem name_no : ∀ c, nameP c = true → blankP c = false := by
  intro c h
  exact ((nameP_iff c).1 h).2.1
theorem hex_no {c : Int} (h : hexOk c = true) : blankP c = false := by
  rw [hexOk_iff] at h
  unfold blankP
  exact decide_eq_false (by omega)
theorem uri_no {c : Int} (h : blankP c = true) : uriP c = false := by
  unfold blankP at h
  have := of_decide_eq_true h
  unfold uriP wordP otherP
  rcases this with rfl | rfl <;> decide
theorem blank_ne {c : Int} (h : blankP c = true) : c ≠ 33 ∧ c ≠ 46 ∧ c ≠ 37 ∧ c ≠ 35 := by
  unfold blankP at h
  have := of_decide_eq_true h
  omega

theorem bE_eq {t : List Int} {k : Nat} (h : k < t.length → blankP (iAt t k) = false) : bE t k = k := by
  unfold bE
  by_cases hk : k < t.length
  · have := cnt_of (P := blankP) (t := t.drop k) (k := 0) (.inr ⟨by simp; omega, by rw [iAt_drop, Nat.add_zero]; exact h hk⟩) rfl
    omega
  · rw [List.drop_eq_nil_of_le (by omega), cnt_nil]; rfl
theorem bE_gt {t : List Int} {k : Nat} (h : k < t.length) (hb : blankP (iAt t k) = true) : k < bE t k := by
  unfold bE
  have := cnt_pos (P := blankP) (t := t.drop k) (by simp; omega) (by rw [iAt_drop, Nat.add_zero]; exact hb)
  omega

/-- May this stand at the end? -/
def clP (t : List Int) (e : Nat) : Bool := decide (bE t e = t.length ∨ iAt t (bE t e) = 35)
theorem tail_cl {t : List Int} {e : Nat} (he : e ≤ t.length) (h : e < t.length → blankP (iAt t e) = true) : tailP (t.drop e) = clP t e := by
  unfold tailP clP
  rw [iAt_drop, List.length_drop]
  have hb : bE t e = e + cnt blankP (t.drop e) := rfl
  rw [← hb]
  have hl := bE_le he
  rw [Bool.eq_iff_iff, decide_eq_true_iff, decide_eq_true_iff]
  by_cases h1 : e < t.length
  · have := bE_gt h1 (h h1)
    omega
  · have := bE_ge t e
    omega
theorem tail_no {t : List Int} {m : Nat} (h : m < t.length) (hb : blankP (iAt t m) = false) : tailP (t.drop m) = false := by
  unfold tailP
  have h1 : bE t m = m := bE_eq (fun _ => hb)
  unfold bE at h1
  refine decide_eq_false (fun h2 => ?_)
  rw [List.length_drop] at h2
  omega
theorem closes_cl {t : List Int} {e j : Nat} (he : e ≤ t.length) : closesL (((prE t e).take (j + 1)).map fun x => piece t x.1 x.2) = clP t e := by
  unfold clP
  have hl := bE_le he
  by_cases h : bE t e < t.length
  · rw [prE_step h, List.take_succ_cons, List.map_cons, closesL]
    dsimp only
    rw [piece_at (by have := nE_gt h; omega), Nat.add_zero]
    rw [Bool.eq_iff_iff, decide_eq_true_iff, decide_eq_true_iff]
    omega
  · rw [prE_stop h]
    show true = _
    exact (decide_eq_true (by omega)).symm

theorem if3_none {α : Type} {c A B : Prop} [Decidable c] [Decidable A] [Decidable B] {x : Option α} (h : c ∨ A ∨ B) : (if c then none else if A then none else if B then none else x) = none := by
  split
  · rfl
  · split
    · rfl
    · split
      · rfl
      · rename_i h1 h2 h3
        rcases h with h | h | h
        · exact absurd h h1
        · exact absurd h h2
        · exact absurd h h3
theorem if3_some {α : Type} {c A B : Prop} [Decidable c] [Decidable A] [Decidable B] {x : Option α} (h1 : ¬ c) (h2 : ¬ A) (h3 : ¬ B) : (if c then none else if A then none else if B then none else x) = x := by
  rw [if_neg h1, if_neg h2, if_neg h3]
theorem if2_none {α : Type} {A B : Prop} [Decidable A] [Decidable B] {x : Option α} (h : A ∨ B) : (if A then none else if B then none else x) = none := by
  split
  · rfl
  · split
    · rfl
    · rename_i h2 h3
      rcases h with h | h
      · exact absurd h h2
      · exact absurd h h3
theorem if2_some {α : Type} {A B : Prop} [Decidable A] [Decidable B] {x : Option α} (h2 : ¬ A) (h3 : ¬ B) : (if A then none else if B then none else x) = x := by
  rw [if_neg h2, if_neg h3]

theorem ver_eq {t : List Int} {e : Nat} (he : e ≤ t.length) (hb : e < t.length → blankP (iAt t e) = true) : verL (((prE t e).take 3).map fun x => piece t x.1 x.2) = rverP t e := by
  unfold rverP
  by_cases h1 : bE t e = e
  · rw [if_pos (.inl h1)]
    have h2 : ¬ e < t.length := fun h => by have := bE_gt h (hb h); omega
    rw [prE_stop (by omega)]
    rfl
  by_cases h2 : bE t e < t.length
  rotate_left
  · rw [prE_stop h2]
    have h3 : dE t (bE t e) = bE t e := by unfold dE; rw [List.drop_eq_nil_of_le (by omega), cnt_nil]; rfl
    rw [if_pos (.inr (.inl h3))]
    rfl
  have hp := pt_nE (t := t) (s := bE t e) (by omega)
  have hgt := nE_gt h2
  rw [prE_step h2, List.take_succ_cons, List.map_cons, verL]
  have hcl := closes_cl (t := t) (e := nE t (bE t e)) (j := 1) hp.lt
  rw [hcl]
  have hk : dE t (bE t e) = bE t e + cnt digitP (t.drop (bE t e)) := rfl
  generalize bE t e = s at *
  generalize nE t s = e1 at *
  dsimp only
  rw [cnt_piece digit_no hp, piece_len hp.lt]
  have hke := cnt_in digit_no hp
  rw [← hk] at hke
  have hd : cnt digitP (t.drop s) = dE t s - s := by omega
  rw [hd]
  have hks : s ≤ dE t s := by omega
  generalize dE t s = k at *
  have htl := tail_cl hp.lt hp.yes
  have hlt := hp.lt
  by_cases z1 : k = s
  · exact (if3_none (.inr (.inl (.inl (by omega))))).trans (if2_none (.inl (.inr (.inl z1)))).symm
  by_cases z2 : k = e1
  · have h9 : t.length ≤ k ∨ iAt t k ≠ 46 := by
      by_cases h : e1 < t.length
      · right; rw [z2]; exact (blank_ne (hp.yes h)).2.1
      · left; omega
    exact (if3_none (.inr (.inl (.inr (.inl (by omega)))))).trans (if2_none (.inl (.inr (.inr h9)))).symm
  rw [piece_at (by omega), show s + (k - s) = k by omega]
  by_cases z3 : iAt t k = 46
  rotate_left
  · exact (if3_none (.inr (.inl (.inr (.inr z3))))).trans (if2_none (.inl (.inr (.inr (.inr z3))))).symm
  rw [piece_drop, show s + (k - s + 1) = k + 1 by omega]
  have hp1 : Pt t (k + 1) e1 := hp.from (by omega) (by omega)
  rw [cnt_piece digit_no hp1]
  have hm : dE t (k + 1) = k + 1 + cnt digitP (t.drop (k + 1)) := rfl
  have hme := cnt_in digit_no hp1
  rw [← hm] at hme
  have hd1 : cnt digitP (t.drop (k + 1)) = dE t (k + 1) - (k + 1) := by omega
  rw [hd1]
  have hmg : k + 1 ≤ dE t (k + 1) := by omega
  generalize dE t (k + 1) = m at *
  by_cases z4 : m < e1
  · have h5 : tailP (t.drop m) = false := tail_no (by omega) (hp.no m (by omega) z4)
    exact (if3_none (.inr (.inr (.inr (by omega))))).trans (if2_none (.inr (.inr h5))).symm
  obtain rfl : m = e1 := by omega
  by_cases z5 : m = k + 1
  · exact (if3_none (.inr (.inr (.inl (by omega))))).trans (if2_none (.inr (.inl z5))).symm
  rw [← htl]
  cases htv : tailP (t.drop m) with
  | false => exact (if3_none (.inl rfl)).trans (if2_none (.inr (.inr rfl))).symm
  | true =>
    refine (if3_some (by simp) (fun h => by rcases h with h | h | h; omega; omega; exact h z3) (fun h => by rcases h with h | h <;> omega)).trans (Eq.trans ?_ (if2_some (fun h => by rcases h with h | h | h | h; exact h1 h; exact z1 h; omega; exact h z3) (fun h => by rcases h with h | h; exact z5 h; cases h)).symm)
    rw [piece_take (by omega)]
    rfl
end Go.Proofs.Ytgldejcneglpnaa
